/-
  NumX4, NumR4, NumR5, NumF, NumH, NumQu, NumRd, NumRe, NumRj, NumRf, NumRg, NumRk, NumRl, NumRm
-/
import Derived.Test.YtgefjidphfdhdaaGreatDoorG10
import Derived.Lib.Bytealg
namespace Go.Wd
open Go.Rn
def W4.nat (x:W4):Nat:=x.val.toNat
theorem W4.nat_val {x:W4}(h:x.ok):x.val=(x.nat:Int):=by
 have:=(W4.val_bd h).1;unfold W4.nat;omega
theorem W4.nat_lt {x:W4}(h:x.ok):x.nat<2^256:=by
 have:=W4.val_bd h;have e:(2:Nat)^256=115792089237316195423570985008687907853269984665640564039457584007913129639936:=rfl;unfold W4.nat;omega
def ofN (n:Nat):W4:=W4.of (n:Int)
theorem zv (n:Nat):(ofN n).ok:=W4.ok_of _
theorem ZaI {n:Nat}(h:n<2^256):(ofN n).nat=n:=by
 have e:(2:Nat)^256=115792089237316195423570985008687907853269984665640564039457584007913129639936:=rfl;unfold W4.nat ofN;rw[W4.val_of];omega
theorem Zdg {x:W4}(h:x.ok):ofN x.nat=x:=by
 unfold ofN;rw[← W4.nat_val h,W4.of_val h]
theorem Z07 (n:Int):W4.of (n % 115792089237316195423570985008687907853269984665640564039457584007913129639936)=W4.of n:=by
 unfold W4.of;refine W4.ext' ?_ ?_ ?_ ?_<;>dsimp only<;>omega
theorem Zho (n:Nat):ofN (n % 2^256)=ofN n:=by
 have e:(2:Nat)^256=115792089237316195423570985008687907853269984665640564039457584007913129639936:=rfl;unfold ofN;rw[← Z07 (n:Int),e];congr 1
theorem Zcl:ofN 0=⟨0,0,0,0⟩:=by rfl
theorem ZvG {n k:Nat}(h:256≤k):ofN (n*2^k)=⟨0,0,0,0⟩:=by
 rw[← Zho];have:n*2^k % 2^256=0:=by
  obtain⟨j,rfl⟩:∃ j,k=j+256:=⟨k-256,by omega⟩;rw[Nat.pow_add,← Nat.mul_assoc,Nat.mul_mod_left]
 rw[this,Zcl]
theorem Zhp (n k:Nat):ofN (n % 2^256*k)=ofN (n*k):=by
 rw[← Zho (n % 2^256*k),← Zho (n*k),Nat.mod_mul_mod]
theorem Zgo {n k:Nat}(h:n<2^256) (hk:256≤k):n/2^k=0:=by
 have:=Nat.pow_le_pow_right (show 0<2 by omega) hk;exact Nat.div_eq_of_lt (by omega)
theorem Zm0 {n k:Nat}(h:n<2^256) (hk:256≤k):n % 2^k=n:=by
 have:=Nat.pow_le_pow_right (show 0<2 by omega) hk;exact Nat.mod_eq_of_lt (by omega)
theorem cast_pow (k:Nat):((2:Int)^k)=((2^k:Nat):Int):=by simp
def tw (x:W4) (b:Bool):Nat:=2*x.nat+(match b with | true=>1 | false=>0)
theorem Zm1 (x:W4) (b:Bool) (d:Nat):tw x b/2^(d+1)=x.nat/2^d:=by
 unfold tw;rw[Nat.pow_succ,Nat.mul_comm (2^d) 2,← Nat.div_div_eq_div_mul];congr 1;cases b<;>simp only<;>omega
theorem Zgp (x:W4) (b:Bool) (d:Nat):tw x b % 2^(d+1)=2*(x.nat % 2^d)+(match b with | true=>1 | false=>0):=by
 unfold tw;rw[Nat.pow_succ,Nat.mul_comm (2^d) 2,Nat.mod_mul];have e:(2*x.nat+(match b with | true=>1 | false=>0))/2=x.nat:=by cases b<;>simp only<;>omega
 rw[e];cases b<;>simp only<;>omega
theorem Zm2 {x:W4}{b:Bool}(h:x.ok):tw x b=0↔(eqW x ⟨0,0,0,0⟩ && !b)=true:=by
 have e:x.nat=0↔x=⟨0,0,0,0⟩:=by
  constructor
  ·intro h0;rw[← Zdg h,h0,Zcl]
  ·intro h0;rw[h0];rfl
 rw[Xh,Zfc,← e];unfold tw;cases b<;>simp<;>omega
theorem ZvH {x:W4}{d:Nat}(h:x.nat % 2^d=0):ze (tw x false % 2^(d+1)) (2^(d+1))=0:=by
 rw[Zgp,h];simp [ze]
theorem ZvI {x:W4}:ze (tw x true % 2^(0+1)) (2^(0+1))=2:=by
 rw[Zgp];simp [ze,Nat.mod_one]
theorem Zfe (V j:Nat):V % 2^(j+1)=V % 2^j+2^j*(V/2^j % 2):=by rw[Nat.pow_succ,Nat.mod_mul]
theorem Zi9 {x:W4}{b:Bool}{j:Nat}(h:x.nat/2^j % 2=0) (h0:x.nat % 2^(j+1)≠0∨b=true):ze (tw x b % 2^(j+1+1)) (2^(j+1+1))=1:=by
 have hp:0<2^j:=Nat.pow_pos (by omega);have hm:=Zfe x.nat j;rw[h,Nat.mul_zero,Nat.add_zero] at hm;have hl:=Nat.mod_lt x.nat hp;rw[hm] at h0;rw[Zgp,hm,Nat.pow_succ,Nat.pow_succ];unfold ze;cases b
 ·simp only[Bool.false_eq_true,or_false] at*;rw[if_neg (by omega),if_pos (by omega)]
 ·simp only;rw[if_neg (by omega),if_pos (by omega)]
theorem Zff {x:W4}{b:Bool}{j:Nat}(h:x.nat/2^j % 2=1) (h0:x.nat % 2^j≠0∨b=true):ze (tw x b % 2^(j+1+1)) (2^(j+1+1))=3:=by
 have hp:0<2^j:=Nat.pow_pos (by omega);have hm:=Zfe x.nat j;rw[h,Nat.mul_one] at hm;rw[Zgp,hm,Nat.pow_succ,Nat.pow_succ];unfold ze;cases b
 ·simp only[Bool.false_eq_true,or_false] at*;rw[if_neg (by omega),if_neg (by omega),if_neg (by omega)]
 ·simp only;rw[if_neg (by omega),if_neg (by omega),if_neg (by omega)]
theorem ZvJ {x:W4}{j:Nat}(h:x.nat/2^j % 2=1) (h0:x.nat % 2^j=0):ze (tw x false % 2^(j+1+1)) (2^(j+1+1))=2:=by
 have hp:0<2^j:=Nat.pow_pos (by omega);have hm:=Zfe x.nat j;rw[h,h0,Nat.mul_one] at hm;rw[Zgp,hm,Nat.pow_succ,Nat.pow_succ];unfold ze;simp only;rw[if_neg (by omega),if_neg (by omega),if_pos (by omega)]
theorem Zqq {x:W4}(hx:x.ok) {j:Nat}(h:x.nat/2^j % 2=1):eqW x (ofN ((2*(x.nat/2^(j+1))+1)*2^j))=decide (x.nat % 2^j=0):=by
 have hl:=W4.nat_lt hx;have hm:=Zfe x.nat j;rw[h,Nat.mul_one] at hm;have hd:=Nat.div_add_mod x.nat (2^(j+1));have e:(2*(x.nat/2^(j+1))+1)*2^j=x.nat-x.nat % 2^j:=by
  rw[Nat.pow_succ] at hd hm ⊢;rw[Nat.add_mul,Nat.one_mul,Nat.mul_comm 2,Nat.mul_assoc,Nat.mul_comm 2,Nat.mul_comm];omega
 rw[e,Bool.eq_iff_iff,Zfc,Xi];have hle:x.nat % 2^j≤x.nat:=Nat.mod_le _ _;constructor
 ·intro hh;have:=congrArg W4.nat hh;rw[ZaI (by omega)] at this;omega
 ·intro hh;rw[hh,Nat.sub_zero,Zdg hx]
end Go.Wd
namespace Go.Rn
open Go.Nt Go.Wd
theorem ZvK {k:Nat}(hk:300≤k):4*2^256≤2^k:=by
 obtain⟨j,rfl⟩:∃ j,k=256+(2+j):=⟨k-258,by omega⟩;have hj:0<2^j:=Nat.pow_pos (by omega);rw[Nat.pow_add,Nat.pow_add,Nat.mul_comm 4];refine Nat.mul_le_mul_left _ ?_;show 4≤4*2^j;omega
def rT (x:W4) (b:Bool):Nat:=match b with | true=>2*x.nat+1 | false=>x.nat
def jB (b:Bool):Int:=match b with | true=>1 | false=>0
theorem Z4A {x:W4}(hx:x.ok) (b:Bool):rT x b<2*2^256:=by
 have:=W4.nat_lt hx;unfold rT;cases b<;>simp only<;>omega
theorem Z08 {m:Int}{neg:Bool}{T:Nat}{E:Int}(hT:T≠0) (h:1024≤lgN T E):9218868437227405312≤p0 m neg T E:=by
 have hq:=Zs6 (m:=m) (neg:=neg) (T:=T) (E:=E) hT (by omega);have hl:Zak T E=lgN T E-52:=by unfold Zak;rw[if_neg (by omega)]
 unfold p0;rw[hl] at hq ⊢;omega
theorem Ze2 {m:Int}{neg:Bool}{T:Nat}{E:Int}(hT:T≠0) (h:1024≤lgN T E):rnP m neg T E=bey m neg∧rnF m neg T E=20:=by
 have:=Z08 (m:=m) (neg:=neg) hT h;unfold rnP rnF;rw[if_neg hT,if_neg hT,if_pos this,if_pos this];exact⟨rfl,rfl⟩
theorem Ze3 {m:Int}{neg:Bool}{T:Nat}{E:Int}(hT:T≠0) (h:lgN T E≤ -1100):rnP m neg T E=(if upR m neg false 1=true then 1 else 0)∧rnF m neg T E=24:=by
 have hb:=(bitLen_spec T).1;have hl:Zak T E= -1074:=by unfold Zak;rw[if_pos (by omega)]
 have hE:¬ (-1074:Int)≤E:=by unfold lgN at h;have:=zB hT;omega
 have hk:bitLen T+2≤(-1074-E).toNat:=by unfold lgN at h;omega
 have hp:=Nat.pow_le_pow_right (show 0<2 by omega) hk;have e4:2^(bitLen T+2)=4*2^bitLen T:=by rw[Nat.pow_add,Nat.mul_comm]
 have hlt:2*T<2^(-1074-E).toNat:=by omega
 have hd:T/2^(-1074-E).toNat=0:=Nat.div_eq_of_lt (by omega);have hm:T % 2^(-1074-E).toNat=T:=Nat.mod_eq_of_lt (by omega);have hr:ze T (2^(-1074-E).toNat)=1:=by unfold ze;rw[if_neg hT,if_pos hlt]
 have hq:toQ m neg T E (-1074)=if upR m neg false 1=true then 1 else 0:=by
  unfold toQ rq;rw[if_neg hE,hd,hm,hr];have ho:odd 0=false:=rfl;rw[ho];simp
 have hL:toL T E (-1074)=true:=by unfold toL;rw[if_neg hE,hm];exact Xa hT
 have hti:Ze0 m neg T E=true:=by unfold Ze0;rw[if_neg (by omega)];exact Xa (by omega)
 have hp0:p0 m neg T E=if upR m neg false 1=true then 1 else 0:=by
  unfold p0;rw[hl,hq];split<;>rfl
 unfold rnP rnF;rw[if_neg hT,if_neg hT,hp0,hl,hL,hti];split<;>simp
theorem Ze4 {m:Int}{neg:Bool}{x:W4}(hx:x.ok) (b:Bool) {C D:Int}(h:(C=D)∨(1700≤C∧1700≤D)∨(C≤ -1700∧D≤ -1700)):rnP m neg (tw x b) (C-1)=rnP m neg (rT x b) (D-jB b)∧rnF m neg (tw x b) (C-1)=rnF m neg (rT x b) (D-jB b):=by
 have hj:0≤jB b∧jB b≤1:=by cases b<;>simp [jB]
 have e:rnP m neg (tw x b) (C-1)=rnP m neg (rT x b) (C-jB b)∧rnF m neg (tw x b) (C-1)=rnF m neg (rT x b) (C-jB b):=by
  cases b with
  | true=>exact⟨rfl,rfl⟩
  | false=>
   have e1:tw x false=x.nat*2^1:=by unfold tw;simp [Nat.mul_comm]
   rw[e1];simp only[rT,jB,Int.sub_zero];exact⟨zu m neg x.nat 1 C,Zaf m neg x.nat 1 C⟩
 rw[e.1,e.2];rcases h with h | h | h
 ·rw[h];exact⟨rfl,rfl⟩
 ·by_cases hT:rT x b=0
  ·rw[hT];unfold rnP rnF;simp
  ·have hl:=zB hT;obtain⟨a1,a2⟩:=Ze2 (m:=m) (neg:=neg) (E:=C-jB b) hT (by unfold lgN;omega);obtain⟨b1,b2⟩:=Ze2 (m:=m) (neg:=neg) (E:=D-jB b) hT (by unfold lgN;omega);rw[a1,a2,b1,b2];exact⟨rfl,rfl⟩
 ·by_cases hT:rT x b=0
  ·rw[hT];unfold rnP rnF;simp
  ·have hlt:=Z4A hx b;obtain⟨k,hk⟩:∃ k:Nat,k=300:=⟨300,rfl⟩;have hfp:=ZvK (show 300≤k by omega);have hl:bitLen (rT x b)≤k:=len_le (by omega);obtain⟨a1,a2⟩:=Ze3 (m:=m) (neg:=neg) (E:=C-jB b) hT (by unfold lgN;omega);obtain⟨b1,b2⟩:=Ze3 (m:=m) (neg:=neg) (E:=D-jB b) hT (by unfold lgN;omega);rw[a1,a2,b1,b2];exact⟨rfl,rfl⟩
def stk (A d:Nat):Nat:=2*(A/2^d)+(if A % 2^d=0 then 0 else 1)
theorem ZvL (A d:Nat):(if A % 2^d=0 then 0 else 1)≤1:=by split<;>omega
theorem Zm3 (A d j:Nat):stk A d/2^(j+1)=A/2^(d+j):=by
 have e:stk A d/2=A/2^d:=by unfold stk;split<;>omega
 rw[Nat.pow_succ,Nat.mul_comm,← Nat.div_div_eq_div_mul,e,Nat.div_div_eq_div_mul,Nat.pow_add]
theorem Zm4 (A d j:Nat):stk A d % 2^(j+1)=2*(A/2^d % 2^j)+(if A % 2^d=0 then 0 else 1):=by
 rw[Nat.pow_succ,Nat.mul_comm,Nat.mod_mul];have e:stk A d/2=A/2^d:=by unfold stk;split<;>omega
 rw[e];unfold stk;split<;>omega
theorem Zm5 (A d j:Nat):A % 2^(d+j)=A % 2^d+2^d*(A/2^d % 2^j):=by rw[Nat.pow_add,Nat.mod_mul]
theorem Zqr (A d j:Nat):stk A d % 2^(j+1)=0↔A % 2^(d+j)=0:=by
 have hD:0<2^d:=Nat.pow_pos (by omega);rw[Zm4,Zm5];generalize A/2^d % 2^j=r;constructor
 ·intro h;have h1:A % 2^d=0:=by
   by_cases h0:A % 2^d=0
   ·exact h0
   ·rw[if_neg h0] at h;omega
  rw[if_pos h1] at h;have:r=0:=by omega
  rw[h1,this];simp
 ·intro h;have h1:A % 2^d=0:=by omega
  rw[if_pos h1];have h2:2^d*r=0:=by omega
  rcases Nat.mul_eq_zero.1 h2 with h3 | h3
  ·omega
  ·rw[h3]
theorem Zm6 {r r' D Q s:Nat}(hD:r'<D) (hQ:0<Q) (hb:s≤1) (hs:s=0↔r'=0):ze (2*r+s) (4*Q)=ze (r'+D*r) (2*(D*Q)):=by
 have hDr:r≤D*r:=Nat.le_mul_of_pos_left r (by omega);unfold ze;by_cases h0:r'+D*r=0
 ·have:r'=0:=by omega
  have:=hs.2 this;rw[if_pos h0,if_pos (by omega)]
 ·have hz:¬ 2*r+s=0:=by
   intro h;apply h0;have h1:r=0:=by omega
   have h2:=hs.1 (by omega);rw[h1,h2];rfl
  rw[if_neg h0,if_neg hz];rcases Nat.lt_trichotomy r Q with h | h | h
  ·have h1:D*r+D≤D*Q:=by rw[← Nat.mul_succ];exact Nat.mul_le_mul_left D h
   rw[if_pos (by omega),if_pos (by omega)]
  ·subst h;by_cases hs0:s=0
   ·have:=hs.1 hs0;rw[if_neg (by omega),if_pos (by omega),if_neg (by omega),if_pos (by omega)]
   ·have:r'≠0:=fun h=>hs0 (hs.2 h);rw[if_neg (by omega),if_neg (by omega),if_neg (by omega),if_neg (by omega)]
  ·have h1:D*Q+D≤D*r:=by rw[← Nat.mul_succ];exact Nat.mul_le_mul_left D h
   rw[if_neg (by omega),if_neg (by omega),if_neg (by omega),if_neg (by omega)]
theorem Zqs (A d j:Nat):ze (stk A d % 2^(j+2)) (2^(j+2))=ze (A % 2^(d+(j+1))) (2^(d+(j+1))):=by
 have hD:0<2^d:=Nat.pow_pos (by omega);have hQ:0<2^j:=Nat.pow_pos (by omega);have eP:2^(j+1+1)=4*2^j:=by rw[Nat.pow_succ,Nat.pow_succ];omega
 have eP2:2^(d+(j+1))=2*(2^d*2^j):=by rw[Nat.pow_add,Nat.pow_succ,← Nat.mul_assoc];omega
 have e1:=Zm4 A d (j+1);have e2:=Zm5 A d (j+1);rw[show j+2=(j+1)+1 by omega,e1,e2,eP,eP2];exact Zm6 (Nat.mod_lt A hD) hQ (ZvL A d) (by split<;>omega)
theorem Z09 (m:Int) (neg:Bool) (A d j:Nat):rq m neg (stk A d) (j+2)=rq m neg A (d+(j+1)):=by
 unfold rq;rw[Zqs,show j+2=(j+1)+1 by omega,Zm3]
theorem Zhq (m:Int) (neg:Bool) (A d:Nat) {F e:Int}(h:F+d+1≤e):toQ m neg (stk A d) (F+d-1) e=toQ m neg A F e:=by
 obtain⟨j,hj⟩:∃ j:Nat,e=F+d+1+j:=⟨(e-(F+d+1)).toNat,by omega⟩;unfold toQ;rw[if_neg (by omega),if_neg (by omega),show (e-(F+d-1)).toNat=j+2 by omega,show (e-F).toNat=d+(j+1) by omega,Z09]
theorem Zm7 (A d:Nat) {F e:Int}(h:F+d+1≤e):toL (stk A d) (F+d-1) e=toL A F e:=by
 obtain⟨j,hj⟩:∃ j:Nat,e=F+d+1+j:=⟨(e-(F+d+1)).toNat,by omega⟩;unfold toL;rw[if_neg (by omega),if_neg (by omega),show (e-(F+d-1)).toNat=j+1+1 by omega,show (e-F).toNat=d+(j+1) by omega];congr 1;simp only[ne_eq,eq_iff_iff];exact not_congr (Zqr A d (j+1))
theorem Zm8 {A d:Nat}(h:A/2^d≠0):bitLen (stk A d)=bitLen (A/2^d)+1:=by
 have e:stk A d/2^1=A/2^d:=by
  have:=Zm3 A d 0;simpa using this
 rw[bitLen_shift (stk A d) 1 (by rw[e];exact h),e];omega
theorem Zm9 {A d:Nat}{F:Int}(h:A/2^d≠0):lgN (stk A d) (F+d-1)=lgN A F:=by
 have e:=bitLen_shift A d h;unfold lgN;rw[Zm8 h];omega
theorem Zcm {m:Int}{neg:Bool}{A d:Nat}{F:Int}(h:A % 2^d=0∨54≤bitLen (A/2^d)):rnP m neg (stk A d) (F+d-1)=rnP m neg A F∧rnF m neg (stk A d) (F+d-1)=rnF m neg A F:=by
 by_cases h0:A % 2^d=0
 ·have e1:stk A d=A/2^d*2^1:=by unfold stk;rw[if_pos h0];omega
  have e2:A=A/2^d*2^d:=by
   have:=Nat.div_add_mod A (2^d);rw[h0,Nat.mul_comm] at this;omega
  have p1:=zu m neg (A/2^d) 1 (F+d);have p2:=zu m neg (A/2^d) d (F+d);have f1:=Zaf m neg (A/2^d) 1 (F+d);have f2:=Zaf m neg (A/2^d) d (F+d);rw[show F+(d:Int)-((1:Nat):Int)=F+d-1 by omega,← e1] at p1 f1;rw[show F+(d:Int)-(d:Int)=F by omega,← e2] at p2 f2;exact⟨by rw[p1,p2],by rw[f1,f2]⟩
 ·have hb:54≤bitLen (A/2^d):=by exact h.resolve_left h0
  have hq:A/2^d≠0:=fun h=>by rw[h] at hb;simp [bitLen] at hb
  have hA:A≠0:=fun h=>h0 (by rw[h];simp);have hs:stk A d≠0:=by unfold stk;omega
  have hl:=Zm9 (F:=F) hq;have hlw:Zak (stk A d) (F+d-1)=Zak A F:=by unfold Zak;rw[hl]
  have hlg:lgN A F=F+d+bitLen (A/2^d)-1:=by rw[← hl];unfold lgN;rw[Zm8 hq];omega
  have hge:F+d+1≤Zak A F:=by unfold Zak;split<;>omega
  have hp:p0 m neg (stk A d) (F+d-1)=p0 m neg A F:=by unfold p0;rw[hlw,Zhq m neg A d hge]
  have ht:Ze0 m neg (stk A d) (F+d-1)=Ze0 m neg A F:=by
   unfold Ze0;rw[hl];by_cases hn:lgN A F= -1023
   ·rw[if_pos hn,if_pos hn,Zhq m neg A d (by omega)]
   ·rw[if_neg hn,if_neg hn]
  unfold rnP rnF;rw[if_neg hs,if_neg hA,if_neg hs,if_neg hA,hp,hlw,Zm7 A d hge,ht];exact⟨rfl,rfl⟩
end Go.Rn
namespace Go.Rn
open Go.Nt Go.Wd Go.Pt
theorem xp_bd (p:Int): -1074≤xp p∧xp p≤972:=by
 have:=Zhh p;unfold xp;split
 ·omega
 ·split<;>omega
theorem sg_lt (p:Int):0≤sg p∧sg p<9007199254740992:=by
 have:=ZdD p;unfold sg;split
 ·omega
 ·split<;>omega
def dvK (A B k:Nat):Nat:=2*(A*2^k/B)+(if A*2^k % B=0 then 0 else 1)
theorem ZmA {A B:Nat}(k:Nat):A*2^k % (B*2^k)=A % B*2^k:=Nat.mul_mod_mul_right (2^k) A B
theorem ZmB (A B k j:Nat):dvK A B (k+j)/2^(j+1)=A*2^k/B:=by
 have hp:0<2^j:=Nat.pow_pos (by omega);have e1:A*2^(k+j)/B/2^j=A*2^k/B:=by
  rw[Nat.div_div_eq_div_mul,Nat.pow_add,← Nat.mul_assoc,Nat.mul_div_mul_right _ _ hp]
 have:dvK A B (k+j)/2=A*2^(k+j)/B:=by unfold dvK;split<;>omega
 rw[Nat.pow_succ,Nat.mul_comm (2^j) 2,← Nat.div_div_eq_div_mul,this,e1]
theorem ZmC (A B k j:Nat):stk (dvK A B (k+j)) (j+1)=dvK A B k:=by
 have hp:0<2^j:=Nat.pow_pos (by omega);have e1:A*2^(k+j)/B/2^j=A*2^k/B:=by
  rw[Nat.div_div_eq_div_mul,Nat.pow_add,← Nat.mul_assoc,Nat.mul_div_mul_right _ _ hp]
 have e2:=ZmB A B k j;have e3:dvK A B (k+j) % 2^(j+1)=0↔A*2^k % B=0:=by
  have d2:dvK A B (k+j)/2=A*2^(k+j)/B:=by unfold dvK;split<;>omega
  have m2:dvK A B (k+j) % 2=if A*2^(k+j) % B=0 then 0 else 1:=by unfold dvK;split<;>omega
  rw[Nat.pow_succ,Nat.mul_comm (2^j) 2,Nat.mod_mul,d2,m2];have e:A*2^(k+j) % B+B*(A*2^(k+j)/B % 2^j)=A*2^k % B*2^j:=by
   rw[← Nat.mod_mul,← ZmA,Nat.mul_assoc,← Nat.pow_add]
  constructor
  ·intro h;have h1:A*2^(k+j) % B=0:=by
    by_cases h0:A*2^(k+j) % B=0
    ·exact h0
    ·rw[if_neg h0] at h;omega
   have h2:A*2^(k+j)/B % 2^j=0:=by omega
   rw[h1,h2,Nat.mul_zero] at e;rcases Nat.mul_eq_zero.1 e.symm with h3 | h3
   ·exact h3
   ·omega
  ·intro h;rw[h,Nat.zero_mul] at e;have h1:A*2^(k+j) % B=0:=by omega
   rw[if_pos h1];rcases Nat.mul_eq_zero.1 (show B*(A*2^(k+j)/B % 2^j)=0 by omega) with h2 | h2
   ·rw[h2,Nat.div_zero,Nat.zero_mod]
   ·rw[h2]
 unfold stk;rw[e2];by_cases h:A*2^k % B=0
 ·rw[if_pos (e3.2 h)];unfold dvK;rw[if_pos h]
 ·rw[if_neg (fun h'=>h (e3.1 h'))];unfold dvK;rw[if_neg h]
end Go.Rn
namespace Go.Rd
def zy (c b:Int):Int:=if 48≤c∧c≤57 then c-48 else if b=16∧97≤c∧c≤102 then c-87 else -1
theorem ZmD (c b:Int): -1≤zy c b∧zy c b<16:=by
 unfold zy;split
 ·omega
 ·split<;>omega
theorem Zqt (c:Int):zy c 10<10:=by
 unfold zy;split
 ·omega
 ·rw[if_neg (by omega)];omega
def lq8 (c:UInt8):Int:=((c.toNat:Nat):Int)
def ZF (b:Int) (l:List UInt8):Bool:=l.all fun c=>decide (0≤zy (lq8 c) b)
def nmB (b:Int) (l:List UInt8):Nat:=l.foldl (fun a c=>a*b.toNat+(zy (lq8 c) b).toNat) 0
def sc1 (b:Int):Bool→List UInt8→List UInt8×Nat×List UInt8
 | _,[]=>([],0,[])
 | p,c::l=>
  if lq8 c=46∧p=false then sc1 b true l
  else if 0≤zy (lq8 c) b then (c::(sc1 b p l).1,(if p=true then 1 else 0)+(sc1 b p l).2.1,(sc1 b p l).2.2)
  else ([],0,c::l)
def pw1:Nat→List UInt8→Nat×Bool
 | a,[]=>(a,true)
 | a,c::l=>if 0≤zy (lq8 c) 10 then pw1 (min (10*a+(zy (lq8 c) 10).toNat) 2000000) l else (a,false)
def sgT:List UInt8→Bool×List UInt8
 | []=>(false,[])
 | c::r=>if lq8 c=45 then (true,r) else if lq8 c=43 then (false,r) else (false,c::r)
def scE (b:Int):List UInt8→Int×Bool
 | []=>(0,decide (b=10))
 | c::r=>
  if (b=10∧lq8 c≠101)∨(b=16∧lq8 c≠112) then (0,false)
  else if (sgT r).2=[] then (0,false)
  else if (pw1 0 (sgT r).2).2=false then (((pw1 0 (sgT r).2).1:Nat),false)
  else (if (sgT r).1=true then -((pw1 0 (sgT r).2).1:Nat) else ((pw1 0 (sgT r).2).1:Nat),true)
def scA (b:Int) (l:List UInt8):Int×Bool:=if (sc1 b false l).1=[] then (0,false) else scE b (sc1 b false l).2.2
theorem ZiA {l:List UInt8}{i:Nat}(h:i<l.length):l.drop i=l.getD i 0::l.drop (i+1):=by
 rw[List.getD_eq_getElem?_getD,List.getElem?_eq_getElem h,Option.getD_some];exact List.drop_eq_getElem_cons h
theorem Zgq (b:Int) (p:Bool) (l:List UInt8):(sc1 b p l).1.length≤l.length∧(sc1 b p l).2.1≤(sc1 b p l).1.length∧ZF b (sc1 b p l).1=true:=by
 induction l generalizing p with
 | nil=>exact⟨Nat.le_refl _,Nat.le_refl _,rfl⟩
 | cons c l ih=>
  unfold sc1;split
  ·obtain⟨h1,h2,h3⟩:=ih true;exact⟨by rw[List.length_cons];omega,h2,h3⟩
  ·split
   ·rename_i h;obtain⟨h1,h2,h3⟩:=ih p;refine⟨by dsimp only;rw[List.length_cons,List.length_cons];omega,by dsimp only;rw[List.length_cons];split<;>omega,?_⟩;show ZF b (c::(sc1 b p l).1)=true;unfold ZF at h3 ⊢;rw[List.all_cons,Xa h,h3];rfl
   ·exact⟨Nat.zero_le _,Nat.le_refl _,rfl⟩
theorem zM (b:Int) (l:List UInt8) (c:UInt8):nmB b (l++[c])=nmB b l*b.toNat+(zy (lq8 c) b).toNat:=by
 unfold nmB;rw[List.foldl_append];rfl
theorem ZiB (b:Int) (l:List UInt8) {i:Nat}(h:i<l.length):nmB b (l.take (i+1))=nmB b (l.take i)*b.toNat+(zy (lq8 (l.getD i 0)) b).toNat:=by
 rw[← zM];congr 1;rw[List.getD_eq_getElem?_getD,List.getElem?_eq_getElem h,Option.getD_some];exact (List.take_append_getElem h).symm
theorem ZdG {b:Int}(hb:b=10∨b=16) (l:List UInt8):nmB b l<b.toNat^l.length:=by
 have key:∀ (l:List UInt8) (k:Nat),l.length=k→nmB b l<b.toNat^k:=by
  intro l k
  induction k generalizing l with
  | zero=>
   intro h;rw[List.eq_nil_of_length_eq_zero h];exact Nat.one_pos
  | succ k ih=>
   intro h;have hne:l≠[]:=fun h0=>by rw[h0] at h;cases h
   obtain⟨l',c,rfl⟩:∃ l' c,l=l'++[c]:=⟨l.dropLast,l.getLast hne,(List.dropLast_concat_getLast hne).symm⟩;have h1:=ih l' (by simpa using h);rw[zM,Nat.pow_succ];have hd:(zy (lq8 c) b).toNat<b.toNat:=by
    rcases hb with rfl | rfl
    ·have:=Zqt (lq8 c);omega
    ·have:=(ZmD (lq8 c) 16).2;omega
   calc nmB b l'*b.toNat+(zy (lq8 c) b).toNat<nmB b l'*b.toNat+b.toNat:=by omega
    _=(nmB b l'+1)*b.toNat:=by rw[Nat.add_mul,Nat.one_mul]
    _≤b.toNat^k*b.toNat:=Nat.mul_le_mul_right _ h1
 exact key l l.length rfl
open Go.Rn
def trZ (l:List UInt8):List UInt8:=l.dropWhile fun c=>lq8 c==48
def upN (A B:Nat):Nat:=((bitLen B:Int)-(bitLen A:Int)+80).toNat
def dnA (b:Int) (l:List UInt8) (k P:Int):Nat×Int:=
 if b=16 then (nmB 16 l,P-4*k)
 else if 320<P-k+(l.length:Nat) then (1,3000)
 else if P-k+(l.length:Nat)< -340 then (1,-3000)
 else if 0≤P-k then (nmB 10 l*10^(P-k).toNat,0)
 else (dvK (nmB 10 l) (10^(k-P).toNat) (upN (nmB 10 l) (10^(k-P).toNat)),-((upN (nmB 10 l) (10^(k-P).toNat):Nat):Int)-1)
theorem ZmE {A B:Nat}(hA:A≠0):2^79*B≤A*2^upN A B:=by
 have h1:=(bitLen_spec A).2 hA;have h2:=(bitLen_spec B).1;have h3:=zB hA;have h4:bitLen B+80≤upN A B+bitLen A:=by unfold upN;omega
 refine Nat.le_trans (Nat.mul_le_mul_left _ (Nat.le_of_lt h2)) ?_;rw[← Nat.pow_add];refine Nat.le_trans (Nat.pow_le_pow_right (by omega) (show 79+bitLen B≤(bitLen A-1)+upN A B by omega)) ?_;rw[Nat.pow_add];exact Nat.mul_le_mul_right _ h1
theorem Zhr {b:Int}(hb:b=10∨b=16) (l:List UInt8):nmB b l<2^(4*l.length):=by
 refine Nat.lt_of_lt_of_le (ZdG hb l) ?_;have h1:b.toNat^l.length≤16^l.length:=Nat.pow_le_pow_left (by omega) _;have h2:(16:Nat)^l.length=2^(4*l.length):=by rw[Nat.pow_mul]
 omega
theorem Zdh {b:Int}{l:List UInt8}(h:ZF b l=true):ZF b (trZ l)=true:=by
 unfold ZF at*;rw[List.all_eq_true] at*;exact fun x hx=>h x ((List.dropWhile_sublist _).subset hx)
theorem Zfg (l:List UInt8):(trZ l).length≤l.length:=(List.dropWhile_sublist _).length_le
theorem ZiC {c:UInt8}{l:List UInt8}:trZ (c::l)=if lq8 c=48 then trZ l else c::l:=by
 unfold trZ;rw[List.dropWhile_cons];by_cases h:lq8 c=48<;>simp [h]
theorem ZaJ {b:Int}{l r:List UInt8}{c:UInt8}(h:ZF b l=true) (he:trZ l=c::r):0<zy (lq8 c) b:=by
 have h1:=Zdh h;rw[he] at h1;unfold ZF at h1;rw[List.all_cons,Xh] at h1;have h2:=Xc h1.1;have h3:lq8 c≠48:=by
  intro h4;clear h h1
  induction l with
  | nil=>cases he
  | cons x l ih=>
   rw[ZiC] at he;by_cases hx:lq8 x=48
   ·rw[if_pos hx] at he;exact ih he
   ·rw[if_neg hx] at he;cases he;exact hx h4
 unfold zy at*;split
 ·omega
 ·rename_i h5;rw[if_neg h5] at h2;split
  ·omega
  ·rename_i h6;rw[if_neg h6] at h2;omega
theorem Zbr {b:Int}(hb:b=10∨b=16) {c:UInt8}{r:List UInt8}(h:0<zy (lq8 c) b):0<nmB b (c::r):=by
 have key:∀ (r:List UInt8) (a:Nat),0<a→0<r.foldl (fun a c=>a*b.toNat+(zy (lq8 c) b).toNat) a:=by
  intro r
  induction r with
  | nil=>intro a h;exact h
  | cons x r ih=>
   intro a h;refine ih _ ?_;exact Nat.lt_of_lt_of_le (Nat.mul_pos h (by omega)) (Nat.le_add_right _ _)
 unfold nmB;rw[List.foldl_cons];exact key r _ (by rw[Nat.zero_mul];omega)
def rdB (u:List UInt8):Int×List UInt8:=if 1<u.length∧u.take 2=[48,120] then (16,u.drop 2) else (10,u)
def rdQ (m:Int) (n:Bool) (b:Int) (v:List UInt8):Int×Int×Int:=
 if (scA b v).2=false then (0,0,3)
 else if trZ (sc1 b false v).1=[] then (if n=true then 9223372036854775808 else 0,0,0)
 else (if n=true then 9223372036854775808+rnP m n (dnA b (trZ (sc1 b false v).1) ((sc1 b false v).2.1:Nat) (scA b v).1).1 (dnA b (trZ (sc1 b false v).1) ((sc1 b false v).2.1:Nat) (scA b v).1).2 else rnP m n (dnA b (trZ (sc1 b false v).1) ((sc1 b false v).2.1:Nat) (scA b v).1).1 (dnA b (trZ (sc1 b false v).1) ((sc1 b false v).2.1:Nat) (scA b v).1).2,rnF m n (dnA b (trZ (sc1 b false v).1) ((sc1 b false v).2.1:Nat) (scA b v).1).1 (dnA b (trZ (sc1 b false v).1) ((sc1 b false v).2.1:Nat) (scA b v).1).2,0)
def rdP (m:Int) (l:List UInt8):Int×Int×Int:=
 if 65536<l.length then (0,0,2)
 else if (sgT l).2=[110,97,110] then (9221120237041090560,0,0)
 else if (sgT l).2=[105,110,102] then (if (sgT l).1=true then 18442240474082181120 else 9218868437227405312,0,0)
 else rdQ m (sgT l).1 (rdB (sgT l).2).1 (rdB (sgT l).2).2
end Go.Rd
namespace Go.Rd
open Go.Rn
theorem ZiD {m E:Int}{n:Bool}{A B k:Nat}(j:Nat) (h:54≤bitLen (A*2^k/B)):rnP m n (dvK A B k) (E+j)=rnP m n (dvK A B (k+j)) E∧rnF m n (dvK A B k) (E+j)=rnF m n (dvK A B (k+j)) E:=by
 have r:=Zcm (m:=m) (neg:=n) (A:=dvK A B (k+j)) (d:=j+1) (F:=E) (.inr (by rw[ZmB];exact h));rw[ZmC,show E+((j+1:Nat):Int)-1=E+(j:Int) by omega] at r;exact r
theorem ZvM {m:Int}{n:Bool}{A B k j:Nat}(h:54≤bitLen (A*2^k/B)) (h':54≤bitLen (A*2^j/B)):rnP m n (dvK A B k) (-(k:Int)-1)=rnP m n (dvK A B j) (-(j:Int)-1)∧rnF m n (dvK A B k) (-(k:Int)-1)=rnF m n (dvK A B j) (-(j:Int)-1):=by
 rcases Nat.le_total k j with hk | hk
 ·have r:=ZiD (m:=m) (n:=n) (E:= -(j:Int)-1) (j-k) h;rw[show k+(j-k)=j by omega,show -(j:Int)-1+((j-k:Nat):Int)= -(k:Int)-1 by omega] at r;exact r
 ·have r:=ZiD (m:=m) (n:=n) (E:= -(k:Int)-1) (k-j) h';rw[show j+(k-j)=k by omega,show -(k:Int)-1+((k-j:Nat):Int)= -(j:Int)-1 by omega] at r;exact⟨r.1.symm,r.2.symm⟩
theorem ZaK {A B:Nat}(hA:A≠0) (hB:B≠0):80≤bitLen (A*2^upN A B/B):=by
 refine Za3 (k:=79) ?_;rw[Nat.le_div_iff_mul_le (by omega)];exact ZmE hA
def rqP (m:Int) (n:Bool) (A B:Nat):Int:=rnP m n (dvK A B (upN A B)) (-((upN A B:Nat):Int)-1)
def rqF (m:Int) (n:Bool) (A B:Nat):Int:=rnF m n (dvK A B (upN A B)) (-((upN A B:Nat):Int)-1)
theorem Zgr {m:Int}{n:Bool}{A B k:Nat}(hA:A≠0) (hB:B≠0) (h:54≤bitLen (A*2^k/B)):rnP m n (dvK A B k) (-(k:Int)-1)=rqP m n A B∧rnF m n (dvK A B k) (-(k:Int)-1)=rqF m n A B:=
 ZvM h (Nat.le_trans (by omega) (ZaK hA hB))
theorem ZmF {A B c:Nat}(hc:0<c) (k:Nat):dvK (A*c) (B*c) k=dvK A B k:=by
 unfold dvK;have e:A*c*2^k=A*2^k*c:=by rw[Nat.mul_assoc,Nat.mul_comm c,← Nat.mul_assoc]
 rw[e,Nat.mul_div_mul_right _ _ hc,Nat.mul_mod_mul_right];by_cases h:A*2^k % B=0
 ·rw[if_pos h,if_pos (by rw[h,Nat.zero_mul])]
 ·rw[if_neg h,if_neg (fun h'=>h ((Nat.mul_eq_zero.1 h').resolve_right (by omega)))]
theorem ZmG {m:Int}{n:Bool}{A B c:Nat}(hA:A≠0) (hB:B≠0) (hc:0<c):rqP m n (A*c) (B*c)=rqP m n A B∧rqF m n (A*c) (B*c)=rqF m n A B:=by
 have hA':A*c≠0:=fun h=>(Nat.mul_eq_zero.1 h).elim hA (by omega);have hB':B*c≠0:=fun h=>(Nat.mul_eq_zero.1 h).elim hB (by omega);have h:=ZaK hA hB;have e:A*c*2^upN A B/(B*c)=A*2^upN A B/B:=by rw[Nat.mul_assoc,Nat.mul_comm c,← Nat.mul_assoc,Nat.mul_div_mul_right _ _ hc]
 obtain⟨r1,r2⟩:=Zgr (m:=m) (n:=n) (k:=upN A B) hA' hB' (by rw[e];omega);rw[ZmF hc] at r1 r2;exact⟨r1.symm,r2.symm⟩
theorem ZsC (m:Int) (n:Bool) (A:Nat):rqP m n A 1=rnP m n A 0∧rqF m n A 1=rnF m n A 0:=by
 have e:dvK A 1 (upN A 1)=A*2^(upN A 1+1):=by
  unfold dvK;rw[Nat.div_one,Nat.mod_one,if_pos rfl,Nat.add_zero,Nat.pow_succ,Nat.mul_comm 2,Nat.mul_assoc]
 have p:=zu m n A (upN A 1+1) 0;have f:=Zaf m n A (upN A 1+1) 0;rw[show (0:Int)-((upN A 1+1:Nat):Int)= -((upN A 1:Nat):Int)-1 by omega] at p f;unfold rqP rqF;rw[e];exact⟨p,f⟩
theorem ZvN {A B k:Nat}(h:A*2^k/B≠0):lgN (dvK A B k) (-(k:Int)-1)=(bitLen (A*2^k/B):Int)-1-k:=by
 have e:bitLen (dvK A B k)=bitLen (A*2^k/B)+1:=by
  have h1:=(bitLen_spec (A*2^k/B)).1;have h2:=(bitLen_spec (A*2^k/B)).2 h;have h3:=zB h;have e1:2^bitLen (A*2^k/B)=2^(bitLen (A*2^k/B)-1)*2:=by rw[← Nat.pow_succ];congr 1;omega
  refine ZaH (k:=bitLen (A*2^k/B)) ?_ ?_
  ·unfold dvK;split<;>omega
  ·rw[Nat.pow_succ];unfold dvK;split<;>omega
 unfold lgN;rw[e];omega
theorem Z0A {m:Int}{n:Bool}{A B J:Nat}(hA:A≠0) (hB:B≠0) (hJ:1024≤J) (h:B*2^J≤A):rqP m n A B=bey m n∧rqF m n A B=20:=by
 have hb:=ZaK hA hB;have hq:A*2^upN A B/B≠0:=fun h0=>by rw[h0] at hb;exact absurd hb (by decide)
 have hT:dvK A B (upN A B)≠0:=fun h0=>by
  unfold dvK at h0;omega
 refine Ze2 hT ?_;rw[ZvN hq];have h1:2^(J+upN A B)≤A*2^upN A B/B:=by
  rw[Nat.le_div_iff_mul_le (by omega),Nat.pow_add,Nat.mul_comm,← Nat.mul_assoc];exact Nat.mul_le_mul_right _ h
 have:=Za3 h1;omega
theorem Z0B {m:Int}{n:Bool}{A B J:Nat}(hA:A≠0) (hB:B≠0) (hJ:1099≤J) (h:A*2^J<B):rqP m n A B=rnP m n 1 (-3000)∧rqF m n A B=rnF m n 1 (-3000):=by
 have hb:=ZaK hA hB;have hq:A*2^upN A B/B≠0:=fun h0=>by rw[h0] at hb;exact absurd hb (by decide)
 have hT:dvK A B (upN A B)≠0:=fun h0=>by
  unfold dvK at h0;omega
 have hu:J≤upN A B:=by
  have h1:bitLen A+J≤bitLen B:=by
   have:=Za3 (T:=B) (k:=bitLen A-1+J) (by
    rw[Nat.pow_add];exact Nat.le_of_lt (Nat.lt_of_le_of_lt (Nat.mul_le_mul_right _ ((bitLen_spec A).2 hA)) h))
   have:=zB hA;omega
  unfold upN;omega
 have h1:A*2^upN A B/B<2^(upN A B-J):=by
  rw[Nat.div_lt_iff_lt_mul (by omega)];have e:2^upN A B=2^J*2^(upN A B-J):=by rw[← Nat.pow_add];congr 1;omega
  rw[e,← Nat.mul_assoc,Nat.mul_comm (2^(upN A B-J))];exact Nat.mul_lt_mul_of_pos_right h (Nat.pow_pos (by omega))
 have h2:=len_le h1;have l1:bitLen 1=1:=ZaH (k:=0) (by decide) (by decide);obtain⟨a1,a2⟩:=Ze3 (m:=m) (neg:=n) hT (by rw[ZvN hq];omega);obtain⟨b1,b2⟩:=Ze3 (m:=m) (neg:=n) (T:=1) (E:= -3000) (by decide) (by unfold lgN;rw[l1];decide);exact⟨a1.trans b1.symm,a2.trans b2.symm⟩
theorem Zfh {e J i:Nat}(h1:28*i≤e) (h2:J≤93*i):2^J≤10^e:=by
 have h:(2:Nat)^93≤10^28:=by decide
 have h3:((2:Nat)^93)^i≤(10^28)^i:=Nat.pow_le_pow_left h i;rw[← Nat.pow_mul,← Nat.pow_mul] at h3;exact Nat.le_trans (Nat.pow_le_pow_right (by omega) h2) (Nat.le_trans h3 (Nat.pow_le_pow_right (by omega) h1))
def deP (m:Int) (n:Bool) (A:Nat) (j:Int):Int:=rqP m n (A*10^j.toNat) (10^(-j).toNat)
def deF (m:Int) (n:Bool) (A:Nat) (j:Int):Int:=rqF m n (A*10^j.toNat) (10^(-j).toNat)
theorem zF (j:Nat):10^j≠0:=fun h=>by have:=Nat.pow_pos (n:=j) (show 0<10 by omega);omega
theorem Zah {A B:Nat}(hA:A≠0) (hB:B≠0):A*B≠0:=fun h=>(Nat.mul_eq_zero.1 h).elim hA hB
theorem Zb6 (m:Int) (n:Bool) {A:Nat}(hA:A≠0) (c:Nat) (j:Int):deP m n (A*10^c) (j-c)=deP m n A j∧deF m n (A*10^c) (j-c)=deF m n A j:=by
 obtain⟨d,hd⟩:∃ d:Nat,(-(j-c)).toNat=(-j).toNat+d∧c+(j-c).toNat=j.toNat+d:=⟨(-(j-c)).toNat-(-j).toNat,by omega,by omega⟩;have e1:A*10^c*10^(j-c).toNat=A*10^j.toNat*10^d:=by rw[Nat.mul_assoc,← Nat.pow_add,hd.2,Nat.pow_add,Nat.mul_assoc]
 unfold deP deF;rw[e1,hd.1,Nat.pow_add];exact ZmG (Zah hA (zF _)) (zF _) (Nat.pow_pos (by omega))
theorem ZmH (m:Int) (n:Bool) {A L:Nat}{j:Int}(h:10^L≤A) (hj:309≤j+(L:Int)):deP m n A j=bey m n∧deF m n A j=20:=by
 have hA:A≠0:=fun h0=>by rw[h0] at h;exact zF L (Nat.le_zero.1 h)
 obtain⟨e,he⟩:∃ e:Nat,e+(-j).toNat=L+j.toNat∧309≤e:=⟨L+j.toNat-(-j).toNat,by omega,by omega⟩;obtain⟨J,hJ⟩:∃ J,J=1023:=⟨_,rfl⟩;obtain⟨E,hE⟩:∃ E,E=308:=⟨_,rfl⟩;have h2:2^(J+1)≤10^e:=by
  have h3:=Zfh (e:=E) (J:=J) (i:=11) (by omega) (by omega);refine Nat.le_trans ?_ (Nat.pow_le_pow_right (by omega) (show E+1≤e by omega));rw[Nat.pow_succ,Nat.pow_succ];omega
 refine Z0A (J:=J+1) (Zah hA (zF _)) (zF _) (by omega) ?_;refine Nat.le_trans (Nat.mul_le_mul_left _ h2) ?_;rw[← Nat.pow_add,Nat.add_comm,he.1,Nat.pow_add];exact Nat.mul_le_mul_right _ h
theorem ZmI (m:Int) (n:Bool) {A L:Nat}{j:Int}(hA:A≠0) (h:A<10^L) (hj:j+(L:Int)≤ -336):deP m n A j=rnP m n 1 (-3000)∧deF m n A j=rnF m n 1 (-3000):=by
 obtain⟨e,he⟩:∃ e:Nat,L+e=(-j).toNat∧336≤e:=⟨(-j).toNat-L,by omega,by omega⟩;obtain⟨J,hJ⟩:∃ J,J=1099:=⟨_,rfl⟩;have h2:2^J≤10^e:=Zfh (i:=12) (by omega) (by omega);have hz:j.toNat=0:=by omega
 unfold deP deF;rw[hz,Nat.pow_zero,Nat.mul_one];refine Z0B (J:=J) hA (zF _) (by omega) ?_;rw[← he.1,Nat.pow_add];exact Nat.lt_of_lt_of_le (Nat.mul_lt_mul_of_pos_right h (Nat.pow_pos (by omega))) (Nat.mul_le_mul_left _ h2)
theorem Zgs {b:Int}{c:UInt8}{r:List UInt8}(h:0<zy (lq8 c) b):b.toNat^r.length≤nmB b (c::r):=by
 have key:∀ (r:List UInt8) (a:Nat),a*b.toNat^r.length≤r.foldl (fun a c=>a*b.toNat+(zy (lq8 c) b).toNat) a:=by
  intro r
  induction r with
  | nil=>intro a;simp
  | cons x r ih=>
   intro a;rw[List.length_cons,Nat.pow_succ,Nat.mul_comm (b.toNat^r.length),← Nat.mul_assoc,List.foldl_cons];exact Nat.le_trans (Nat.mul_le_mul_right _ (Nat.le_add_right _ _)) (ih _)
 unfold nmB;rw[List.foldl_cons];refine Nat.le_trans ?_ (key r _);exact Nat.le_mul_of_pos_left _ (by rw[Nat.zero_mul];omega)
theorem Z0C (m:Int) (n:Bool) {c:UInt8}{r:List UInt8}{k P:Int}(h:0<zy (lq8 c) 10):rnP m n (dnA 10 (c::r) k P).1 (dnA 10 (c::r) k P).2=deP m n (nmB 10 (c::r)) (P-k)∧rnF m n (dnA 10 (c::r) k P).1 (dnA 10 (c::r) k P).2=deF m n (nmB 10 (c::r)) (P-k):=by
 have hp:=Zbr (b:=10) (.inl rfl) (r:=r) h;have hg:=Zgs (b:=10) (r:=r) h;have hl:=ZdG (b:=10) (.inl rfl) (c::r);have e10:(10:Int).toNat=10:=rfl;rw[e10] at hg hl;have l1:bitLen 1=1:=ZaH (k:=0) (by decide) (by decide);unfold dnA;rw[if_neg (by decide)];split
 ·rename_i h1;rw[List.length_cons] at h1;obtain⟨d1,d2⟩:=ZmH m n (j:=P-k) hg (by omega);obtain⟨b1,b2⟩:=Ze2 (m:=m) (neg:=n) (T:=1) (E:=3000) (by decide) (by unfold lgN;rw[l1];decide);exact⟨b1.trans d1.symm,b2.trans d2.symm⟩
 split
 ·rename_i h1 h2;obtain⟨d1,d2⟩:=ZmI m n (j:=P-k) (by omega) hl (by omega);exact⟨d1.symm,d2.symm⟩
 split
 ·rename_i h3;have hz:(-(P-k)).toNat=0:=by omega
  obtain⟨q1,q2⟩:=ZsC m n (nmB 10 (c::r)*10^(P-k).toNat);unfold deP deF;rw[hz,Nat.pow_zero];exact⟨q1.symm,q2.symm⟩
 ·rename_i h3;have hz:(P-k).toNat=0:=by omega
  have e:(-(P-k)).toNat=(k-P).toNat:=by omega
  unfold deP deF rqP rqF;rw[hz,e,Nat.pow_zero,Nat.mul_one];exact⟨rfl,rfl⟩
theorem Z0D (m:Int) (n:Bool) (A:Nat) (j:Int):deP (swM m) (!n) A j=deP m n A j∧deF (swM m) (!n) A j=deF m n A j:=by
 unfold deP deF rqP rqF;rw[Zvz,Zv0];exact⟨rfl,rfl⟩
theorem Zqu {m:Int}{neg:Bool}{A d:Nat}{F:Int}(hA:A≠0) (h1:F+d+1≤ -1074) (h2:lgN A F≤ -1024):rnP m neg (stk A d) (F+d-1)=rnP m neg A F∧rnF m neg (stk A d) (F+d-1)=rnF m neg A F:=by
 have hp:0<2^d:=Nat.pow_pos (by omega);have hdm:=Nat.div_add_mod A (2^d);have hs:stk A d≠0:=by
  unfold stk;intro h;have hq:A/2^d=0:=by omega
  rw[hq,Nat.mul_zero,Nat.zero_add] at hdm;rw[hdm,if_neg hA] at h;omega
 have hl:lgN (stk A d) (F+d-1)≤ -1024:=by
  by_cases hq:A/2^d=0
  ·have h3:stk A d<2^1:=by unfold stk;rw[hq];split<;>omega
   have:=len_le h3;unfold lgN;omega
  ·rw[Zm9 hq];exact h2
 have l1:Zak (stk A d) (F+d-1)= -1074:=by unfold Zak;rw[if_pos (by omega)]
 have l2:Zak A F= -1074:=by unfold Zak;rw[if_pos (by omega)]
 have e1:p0 m neg (stk A d) (F+d-1)=p0 m neg A F:=by unfold p0;rw[l1,l2,Zhq m neg A d h1]
 have e2:Ze0 m neg (stk A d) (F+d-1)=Ze0 m neg A F:=by
  unfold Ze0;rw[if_neg (by omega),if_neg (by omega),Xa (show lgN (stk A d) (F+d-1)< -1022 by omega),Xa (show lgN A F< -1022 by omega)]
 unfold rnP rnF;rw[if_neg hs,if_neg hA,if_neg hs,if_neg hA,e1,l1,l2,Zm7 A d h1,e2];exact⟨rfl,rfl⟩
theorem Z0E {A B J:Nat}(hA:A≠0) (h:A*2^J<B):J+80≤upN A B:=by
 have h1:bitLen A+J≤bitLen B:=by
  have:=Za3 (T:=B) (k:=bitLen A-1+J) (by
   rw[Nat.pow_add];exact Nat.le_of_lt (Nat.lt_of_le_of_lt (Nat.mul_le_mul_right _ ((bitLen_spec A).2 hA)) h))
  have:=zB hA;omega
 unfold upN;omega
theorem ZvO {m:Int}{n:Bool}{A B J K:Nat}(hA:A≠0) (hB:B≠0) (hJ:J=1023) (hK:K=1075) (h:A*2^J<B):rnP m n (dvK A B K) (-(K:Int)-1)=rqP m n A B∧rnF m n (dvK A B K) (-(K:Int)-1)=rqF m n A B:=by
 have hu:=Z0E hA h;have hb:=ZaK hA hB;have hq:A*2^upN A B/B≠0:=fun h0=>by rw[h0] at hb;exact absurd hb (by decide)
 have hT:dvK A B (upN A B)≠0:=fun h0=>by
  unfold dvK at h0;omega
 have h1:A*2^upN A B/B<2^(upN A B-J):=by
  rw[Nat.div_lt_iff_lt_mul (by omega)];have e:2^upN A B=2^J*2^(upN A B-J):=by rw[← Nat.pow_add];congr 1;omega
  rw[e,← Nat.mul_assoc,Nat.mul_comm (2^(upN A B-J))];exact Nat.mul_lt_mul_of_pos_right h (Nat.pow_pos (by omega))
 have h2:=len_le h1;have h3:=ZvN hq;obtain⟨j,hj⟩:∃ j,upN A B=K+j:=⟨upN A B-K,by omega⟩;unfold rqP rqF;rw[hj] at hT h3 h2 ⊢;have r:=Zqu (m:=m) (neg:=n) (A:=dvK A B (K+j)) (d:=j+1) (F:= -((K+j:Nat):Int)-1) hT (by omega) (by omega);rw[ZmC,show -((K+j:Nat):Int)-1+((j+1:Nat):Int)-1= -(K:Int)-1 by omega] at r;exact r
theorem ZsD {q C r G k:Nat}(h0:0<r) (h1:r<C) (hk:k≤G):dvK (q*C+r) (10^G*C) k=2*(q*2^k/10^G)+1:=by
 have hC:0<C:=by omega
 have h2:0<2^k:=Nat.pow_pos (by omega);obtain⟨H,hH⟩:∃ H,10^G=H*2^k:=⟨2^(G-k)*5^G,by
  rw[show (10:Nat)=2*5 from rfl,Nat.mul_pow,Nat.mul_assoc,Nat.mul_comm (5^G),← Nat.mul_assoc,← Nat.pow_add,show G-k+k=G by omega]⟩
 have e1:10^G*C=C*H*2^k:=by rw[hH,Nat.mul_comm,Nat.mul_assoc]
 have e2:(q*C+r)/C=q:=by rw[Nat.mul_comm,Nat.mul_add_div hC,Nat.div_eq_of_lt h1,Nat.add_zero]
 have e3:(q*C+r) % C=r:=by rw[Nat.mul_comm,Nat.mul_add_mod,Nat.mod_eq_of_lt h1]
 have e4:(q*C+r) % (C*H)≠0:=fun h=>by
  have h3:C ∣ q*C+r:=Nat.dvd_trans ⟨H,rfl⟩ (Nat.dvd_of_mod_eq_zero h);have:=Nat.mod_eq_zero_of_dvd h3;omega
 unfold dvK;rw[e1,Nat.mul_div_mul_right _ _ h2,Nat.mul_mod_mul_right,← Nat.div_div_eq_div_mul,e2,hH,Nat.mul_div_mul_right _ _ h2,if_neg (fun h=>(Nat.mul_eq_zero.1 h).elim e4 (by omega))]
theorem ZsE {m:Int}{n:Bool}{q C r C' r' G k:Nat}(hr:0<r) (hC:r<C) (hr':0<r') (hC':r'<C') (hk:k≤G) (hb:54≤bitLen (q*2^k/10^G)):rqP m n (q*C+r) (10^G*C)=rqP m n (q*C'+r') (10^G*C')∧rqF m n (q*C+r) (10^G*C)=rqF m n (q*C'+r') (10^G*C'):=by
 have key:∀ {C r:Nat},0<r→r<C→rnP m n (2*(q*2^k/10^G)+1) (-(k:Int)-1)=rqP m n (q*C+r) (10^G*C)∧rnF m n (2*(q*2^k/10^G)+1) (-(k:Int)-1)=rqF m n (q*C+r) (10^G*C):=fun {C r} h0 h1=>by
  have e:=ZsD (q:=q) (G:=G) h0 h1 hk;have ed:(q*C+r)*2^k/(10^G*C)=q*2^k/10^G:=by unfold dvK at e;split at e<;>omega
  have:=Zgr (m:=m) (n:=n) (A:=q*C+r) (B:=10^G*C) (k:=k) (by omega) (Zah (zF _) (by omega)) (by rw[ed];exact hb);rw[e] at this;exact this
 obtain⟨a1,a2⟩:=key hr hC;obtain⟨b1,b2⟩:=key hr' hC';exact⟨a1.symm.trans b1,a2.symm.trans b2⟩
theorem ZvP {m:Int}{n:Bool}{q C r C' r' G J K:Nat}(hr:0<r) (hC:r<C) (hr':0<r') (hC':r'<C') (hJ:J=1023) (hK:K=1075) (hk:K≤G) (hb:(q+1)*2^J≤10^G):rqP m n (q*C+r) (10^G*C)=rqP m n (q*C'+r') (10^G*C')∧rqF m n (q*C+r) (10^G*C)=rqF m n (q*C'+r') (10^G*C'):=by
 have key:∀ {C r:Nat},0<r→r<C→rnP m n (2*(q*2^K/10^G)+1) (-(K:Int)-1)=rqP m n (q*C+r) (10^G*C)∧rnF m n (2*(q*2^K/10^G)+1) (-(K:Int)-1)=rqF m n (q*C+r) (10^G*C):=fun {C r} h0 h1=>by
  have e:=ZsD (q:=q) (G:=G) h0 h1 hk;have h3:(q*C+r)*2^J<10^G*C:=by
   have h4:q*C+r<(q+1)*C:=by rw[Nat.add_mul,Nat.one_mul];omega
   refine Nat.lt_of_lt_of_le (Nat.mul_lt_mul_of_pos_right h4 (Nat.pow_pos (by omega))) ?_;rw[Nat.mul_right_comm];exact Nat.mul_le_mul_right _ hb
  have:=ZvO (m:=m) (n:=n) (A:=q*C+r) (B:=10^G*C) (by omega) (Zah (zF _) (by omega)) hJ hK h3;rw[e] at this;exact this
 obtain⟨a1,a2⟩:=key hr hC;obtain⟨b1,b2⟩:=key hr' hC';exact⟨a1.symm.trans b1,a2.symm.trans b2⟩
theorem Z0F {j i:Nat}(h:j≤3*i):(10:Nat)^j≤2^(10*i):=by
 refine Nat.le_trans (Nat.pow_le_pow_right (by omega) h) ?_;rw[Nat.pow_mul,Nat.pow_mul];exact Nat.pow_le_pow_left (by decide) i
theorem Zqv {m:Int}{n:Bool}{q C r C' r' M G:Nat}{a:Int}(hM:M=799) (hG:(G:Int)=800-a) (ha:a≤400) (hq:10^M≤q) (hq':q<10^(M+1)) (hr:0<r) (hC:r<C) (hr':0<r') (hC':r'<C'):rqP m n (q*C+r) (10^G*C)=rqP m n (q*C'+r') (10^G*C')∧rqF m n (q*C+r) (10^G*C)=rqF m n (q*C'+r') (10^G*C'):=by
 by_cases h1:1≤a
 ·refine ZsE (k:=53) hr hC hr' hC' (by omega) (Za3 (k:=53) ?_);rw[Nat.le_div_iff_mul_le (Nat.pow_pos (by omega)),Nat.mul_comm];exact Nat.mul_le_mul_right _ (Nat.le_trans (Nat.pow_le_pow_right (by omega) (by omega)) hq)
 obtain⟨b,hb⟩:∃ b:Nat,a= -(b:Int):=⟨(-a).toNat,by omega⟩;have eG:G=M+(b+1):=by omega
 by_cases h2:b≤315
 ·refine ZsE (k:=53+10*((b+3)/3)) hr hC hr' hC' (by omega) (Za3 (k:=53) ?_);rw[Nat.le_div_iff_mul_le (Nat.pow_pos (by omega)),eG,Nat.pow_add,Nat.pow_add 2,Nat.mul_left_comm,Nat.mul_left_comm q];rw[Nat.mul_left_comm];refine Nat.mul_le_mul_left _ (Nat.mul_le_mul hq ?_);exact Z0F (by omega)
 ·obtain⟨J,hJ⟩:∃ J,J=1023:=⟨_,rfl⟩;obtain⟨K,hK⟩:∃ K,K=1075:=⟨_,rfl⟩;refine ZvP (J:=J) (K:=K) hr hC hr' hC' hJ hK (by omega) ?_;rw[show G=(M+1)+b by omega,Nat.pow_add];exact Nat.mul_le_mul hq' (Zfh (i:=11) (by omega) (by omega))
def chD (d:Nat):UInt8:=UInt8.ofNat (48+d)
def Zbs:Nat→Nat→List UInt8
 | 0,_=>[]
 | f+1,n=>if n<10 then [chD n] else Zbs f (n/10)++[chD (n % 10)]
def dcL (n:Nat):List UInt8:=Zbs 20 n
theorem ZdH {d:Nat}(h:d<10):lq8 (chD d)=((48+d:Nat):Int):=by
 unfold lq8 chD;rw[UInt8.toNat_ofNat'];omega
theorem ZiE {d:Nat}(h:d<10) (b:Int):zy (lq8 (chD d)) b=(d:Int):=by
 rw[ZdH h];unfold zy;rw[if_pos (by omega)];omega
theorem Zb7 (f n:Nat) (b:Int):ZF b (Zbs f n)=true:=by
 induction f generalizing n with
 | zero=>rfl
 | succ f ih=>
  unfold Zbs;split
  ·rename_i h;unfold ZF;rw[List.all_cons,ZiE h,Xa (by omega)];rfl
  ·unfold ZF;rw[List.all_append];have:=ih (n/10);unfold ZF at this;rw[this,List.all_cons,ZiE (show n % 10<10 by omega),Xa (by omega)];rfl
theorem Zfi {f n:Nat}(h:n<10^f):nmB 10 (Zbs f n)=n:=by
 induction f generalizing n with
 | zero=>
  have:n=0:=by simpa using h
  rw[this];rfl
 | succ f ih=>
  unfold Zbs;split
  ·rename_i h1;show (0*(10:Int).toNat+(zy (lq8 (chD n)) 10).toNat)=n;rw[ZiE h1];omega
  ·rw[zM,ih (by rw[Nat.pow_succ] at h;omega),ZiE (show n % 10<10 by omega),show (10:Int).toNat=10 from rfl];omega
theorem Zb8 (f n:Nat):(Zbs f n).length≤f:=by
 induction f generalizing n with
 | zero=>exact Nat.le_refl _
 | succ f ih=>
  unfold Zbs;split
  ·rw[List.length_singleton];omega
  ·rw[List.length_append,List.length_singleton];have:=ih (n/10);omega
theorem ZmJ {n:Nat}(h:n<18446744073709551616):n<10^20:=Nat.lt_trans h (by decide)
theorem ZsF (n:Nat):dcL n≠[]:=by
 unfold dcL Zbs;split
 ·simp
 ·simp
theorem Z4B (b:Int):zy 46 b= -1:=by
 unfold zy;rw[if_neg (by omega),if_neg (by omega)]
theorem ZsG (b:Int) (r:List UInt8):sc1 b false (46::r)=sc1 b true r:=by
 rw[sc1,if_pos ⟨by rfl,rfl⟩]
theorem Zfj {b:Int}{p:Bool}{c:UInt8}{r:List UInt8}(h:lq8 c≠46) (hd:zy (lq8 c) b<0):sc1 b p (c::r)=([],0,c::r):=by
 rw[sc1,if_neg (fun h'=>h h'.1),if_neg (by omega)]
theorem ZdI {b:Int}{A:List UInt8}(h:ZF b A=true) (p:Bool) (r:List UInt8):sc1 b p (A++r)=(A++(sc1 b p r).1,(if p=true then A.length else 0)+(sc1 b p r).2.1,(sc1 b p r).2.2):=by
 induction A with
 | nil=>simp
 | cons c A ih=>
  unfold ZF at h ih;rw[List.all_cons,Xh] at h;have h1:=Xc h.1;have h46:lq8 c≠46:=fun h'=>by rw[h',Z4B] at h1;omega
  rw[List.cons_append,sc1,if_neg (fun h'=>h46 h'.1),if_pos h1,ih h.2];cases p<;>simp<;>omega
theorem ZvQ (a:Nat) (l r:List UInt8) (h:(pw1 a l).2=true):pw1 a (l++r)=pw1 (pw1 a l).1 r:=by
 induction l generalizing a with
 | nil=>rfl
 | cons c l ih=>
  rw[List.cons_append,pw1,pw1];by_cases hc:0≤zy (lq8 c) 10
  ·rw[pw1,if_pos hc] at h;rw[if_pos hc,if_pos hc];exact ih _ h
  ·rw[pw1,if_neg hc] at h;cases h
theorem Z0G {l:List UInt8}(h:ZF 10 l=true) (hv:nmB 10 l≤2000000):pw1 0 l=(nmB 10 l,true):=by
 have key:∀ (k:Nat) (l:List UInt8),l.length=k→ZF 10 l=true→nmB 10 l≤2000000→pw1 0 l=(nmB 10 l,true):=by
  intro k
  induction k with
  | zero=>
   intro l hl _ _;rw[List.eq_nil_of_length_eq_zero hl];rfl
  | succ k ih=>
   intro l hl ha hv;have hne:l≠[]:=fun h0=>by rw[h0] at hl;cases hl
   obtain⟨l',c,rfl⟩:∃ l' c,l=l'++[c]:=⟨l.dropLast,l.getLast hne,(List.dropLast_concat_getLast hne).symm⟩;unfold ZF at ha ih;rw[List.all_append,Xh] at ha;rw[zM] at hv;have e10:(10:Int).toNat=10:=rfl;rw[e10] at hv;have h1:=ih l' (by simpa using hl) ha.1 (by omega);have hc:0≤zy (lq8 c) 10:=by
    have:=ha.2;simpa using this
   rw[ZvQ _ _ _ (by rw[h1]),h1,zM,e10,pw1,if_pos hc,pw1];congr 1;dsimp only;omega
 exact key l.length l rfl h hv
theorem Zfk (b:Int) (l:List UInt8):nmB b (trZ l)=nmB b l:=by
 induction l with
 | nil=>rfl
 | cons c l ih=>
  rw[ZiC];by_cases h:lq8 c=48
  ·rw[if_pos h,ih];have:zy (lq8 c) b=0:=by
    rw[h];unfold zy;rw[if_pos (by omega)];rfl
   unfold nmB;rw[List.foldl_cons,this];simp
  ·rw[if_neg h]
theorem Zhs {b:Int}(hb:b=10∨b=16) {l:List UInt8}(h:ZF b l=true):trZ l=[]↔nmB b l=0:=by
 constructor
 ·intro h0;rw[← Zfk,h0];rfl
 ·intro h0;cases h1:trZ l with
  | nil=>rfl
  | cons c r=>
   have:=Zbr hb (r:=r) (ZaJ h h1);rw[← h1,Zfk] at this;omega
def rdN (m:Int) (n:Bool) (A:Nat) (j:Int):Int×Int×Int:=
 if A=0 then (if n=true then 9223372036854775808 else 0,0,0) else (if n=true then 9223372036854775808+deP m n A j else deP m n A j,deF m n A j,0)
theorem ZmK {m:Int}{n:Bool}{v:List UInt8}(h:(scA 10 v).2=true):rdQ m n 10 v=rdN m n (nmB 10 (sc1 10 false v).1) ((scA 10 v).1-((sc1 10 false v).2.1:Nat)):=by
 have ha:=(Zgq 10 false v).2.2;unfold rdQ rdN;rw[if_neg (by rw[h];decide)];by_cases hz:trZ (sc1 10 false v).1=[]
 ·rw[if_pos hz,if_pos ((Zhs (.inl rfl) ha).1 hz)]
 ·rw[if_neg hz,if_neg (fun h0=>hz ((Zhs (.inl rfl) ha).2 h0))];cases h1:trZ (sc1 10 false v).1 with
  | nil=>exact absurd h1 hz
  | cons c r=>
   obtain⟨d1,d2⟩:=Z0C m n (r:=r) (k:=((sc1 10 false v).2.1:Nat)) (P:=(scA 10 v).1) (ZaJ ha h1);rw[d1,d2,← h1,Zfk]
theorem ZmL (m:Int) (n:Bool) (A c:Nat) (j:Int):rdN m n (A*10^c) (j-c)=rdN m n A j:=by
 unfold rdN;by_cases h:A=0
 ·rw[h,Nat.zero_mul,if_pos rfl,if_pos rfl]
 ·obtain⟨e1,e2⟩:=Zb6 m n h c j;rw[if_neg h,if_neg (Zah h (zF c)),e1,e2]
theorem ZvR (m:Int) (n:Bool) (A:Nat) (j:Int):(rdN m n A j).2.2=0:=by
 unfold rdN;split<;>rfl
theorem Zqw {b:Int}{A B:List UInt8}(hA:ZF b A=true) (hB:ZF b B=true):ZF b (A++B)=true:=by
 unfold ZF at*;rw[List.all_append,hA,hB];rfl
theorem zG {c:UInt8}(h:0≤zy (lq8 c) 10):48≤lq8 c∧lq8 c≤57:=by
 unfold zy at h;split at h
 ·assumption
 ·rw[if_neg (by omega)] at h;omega
theorem ZdJ {c:UInt8}{r:List UInt8}(h:48≤lq8 c∧lq8 c≤57):sgT (c::r)=(false,c::r):=by
 unfold sgT;dsimp only;rw[if_neg (by omega),if_neg (by omega)]
theorem ZdK (r:List UInt8):sgT (45::r)=(true,r):=by
 unfold sgT;dsimp only;rw[if_pos (by rfl)]
theorem ZiF {m:Int}{n:Bool}{l:List UInt8}{c:UInt8}{r:List UInt8}(hl:l.length≤65536) (hs:sgT l=(n,c::r)) (hc:48≤lq8 c∧lq8 c≤57) (hr:∀ d∈r,d≠120):rdP m l=rdQ m n 10 (c::r):=by
 unfold rdP;rw[if_neg (by omega),hs];dsimp only;rw[if_neg (fun h=>by cases h;exact absurd hc.2 (by decide)),if_neg (fun h=>by cases h;exact absurd hc.2 (by decide))];have e:rdB (c::r)=(10,c::r):=by
  unfold rdB;rw[if_neg];rintro⟨h1,h2⟩;cases r with
  | nil=>exact absurd h1 (by simp)
  | cons d t=>
   have:[c,d]=[48,120]:=h2;cases this;exact hr 120 Xe rfl
 rw[e]
def Za7 (x:Int):List UInt8:=if x<0 then 45::dcL x.natAbs else dcL x.natAbs
theorem Zqx (n:Nat):∃ c r,dcL n=c::r∧(48≤lq8 c∧lq8 c≤57):=by
 cases e:dcL n with
 | nil=>exact absurd e (ZsF n)
 | cons c r=>
  have ha:=Zb7 20 n 10;unfold dcL at e;rw[e] at ha;unfold ZF at ha;rw[List.all_cons,Xh] at ha;exact⟨c,r,rfl,zG (Xc ha.1)⟩
theorem ZvS (x:Int):sgT (Za7 x)=(decide (x<0),dcL x.natAbs):=by
 unfold Za7;by_cases hx:x<0
 ·rw[if_pos hx,ZdK,Xa hx]
 ·obtain⟨c,r,e,hc⟩:=Zqx x.natAbs;rw[if_neg hx,e,ZdJ hc,Xb hx]
theorem Zht {b:Int}(hb:b=10∨b=16) {c:UInt8}(hc:(b=10→lq8 c=101)∧(b=16→lq8 c=112)) {x:Int}(h:x.natAbs≤2000000):scE b (c::Za7 x)=(x,true):=by
 have hp:pw1 0 (dcL x.natAbs)=(x.natAbs,true):=by
  have hn:=Zfi (f:=20) (n:=x.natAbs) (ZmJ (by omega));have:=Z0G (l:=dcL x.natAbs) (Zb7 20 x.natAbs 10) (by unfold dcL;rw[hn];exact h);rw[this];unfold dcL;rw[hn]
 unfold scE;dsimp only;rw[if_neg (by rcases hb with hb | hb<;>simp [hb,hc.1,hc.2]),ZvS x];dsimp only;rw[if_neg (ZsF _),hp];dsimp only;rw[if_neg (by decide)];by_cases hx:x<0
 ·rw[if_pos (Xa hx)];congr 1;omega
 ·rw[if_neg (by simpa using hx)];congr 1;omega
def dvB (c:Int):Int:=if 48≤c∧c≤57 then c-48 else if 97≤c∧c≤102 then c-87 else 16
theorem Z0H (c:Int):0≤dvB c∧dvB c≤16:=by
 unfold dvB;split
 ·omega
 ·split<;>omega
theorem ZcP {c b:Int}(hb:b=10∨b=16):dvB c<b↔0≤zy c b:=by
 unfold dvB zy;split
 ·constructor<;>omega
 ·split
  ·rcases hb with rfl | rfl
   ·rw[if_neg (by omega)];omega
   ·rw[if_pos (by omega)];omega
  ·rw[if_neg (by omega)];omega
theorem ZmM {c b:Int}(h:0≤zy c b):zy c b=dvB c:=by
 unfold dvB;unfold zy at*;split
 ·rfl
 ·rename_i h1;rw[if_neg h1] at h;split
  ·rename_i h2;rw[if_pos ⟨h2.2.1,h2.2.2⟩]
  ·rename_i h2;rw[if_neg h2] at h;omega
theorem Zgt {c d:UInt8}:lq8 c=lq8 d↔c=d:=by
 unfold lq8;constructor
 ·intro h;exact UInt8.toNat_inj.1 (by omega)
 ·intro h;rw[h]
def zW (p l:List UInt8):Bool:=decide (p.length≤l.length∧l.take p.length=p)
theorem Zdi (d:UInt8) (l:List UInt8):zW [d] l=true↔∃ r,l=d::r:=by
 unfold zW;rw[Xi];constructor
 ·rintro⟨h1,h2⟩;cases l with
  | nil=>simp at h1
  | cons c r=>
   simp at h2;exact⟨r,by rw[h2]⟩
 ·rintro⟨r,rfl⟩;simp
theorem Zbt (d:UInt8) {c:UInt8}{r:List UInt8}(h:c≠d):zW [d] (c::r)=false:=by
 rw[Bool.eq_false_iff];intro h';obtain⟨r',e⟩:=(Zdi d (c::r)).1 h'
 injection e with e1 e2
 exact h e1
theorem ZmN (l:List UInt8):sgT l=if zW [45] l=true then (true,l.drop 1) else if zW [43] l=true then (false,l.drop 1) else (false,l):=by
 cases l with
 | nil=>rfl
 | cons c r=>
  have e45:lq8 c=45↔c=45:=Zgt (d:=45);have e43:lq8 c=43↔c=43:=Zgt (d:=43);rw[sgT];by_cases h1:c=45
  ·rw[if_pos (e45.2 h1),if_pos ((Zdi 45 _).2 ⟨r,by rw[h1]⟩)];rfl
  ·rw[if_neg (fun h=>h1 (e45.1 h)),Zbt 45 h1,if_neg (show ¬ (false=true) by decide)];by_cases h2:c=43
   ·rw[if_pos (e43.2 h2),if_pos ((Zdi 43 _).2 ⟨r,by rw[h2]⟩)];rfl
   ·rw[if_neg (fun h=>h2 (e43.1 h)),Zbt 43 h2,if_neg (show ¬ (false=true) by decide)]
theorem ZvT (u:List UInt8):rdB u=if zW [48,120] u=true then (16,u.drop 2) else (10,u):=by
 unfold rdB zW;by_cases h:1<u.length∧u.take 2=[48,120]
 ·rw[if_pos h,if_pos (Xa ⟨by simp;omega,h.2⟩)]
 ·rw[if_neg h,if_neg (fun h'=>h (by
   have:=Xc h';exact⟨by have:=this.1;simp at this;omega,this.2⟩))]
theorem Zhu (l:List UInt8):(sgT l).2.length≤l.length:=by
 rw[ZmN];split
 ·rw[List.length_drop];omega
 ·split
  ·rw[List.length_drop];omega
  ·exact Nat.le_refl _
def en1 (b:Int):Bool→List UInt8→Nat
 | _,[]=>0
 | p,c::l=>if dvB (lq8 c)<b then en1 b p l+1 else if lq8 c=46∧p=false then en1 b true l+1 else 0
theorem ZsH (b:Int) (p:Bool) (l:List UInt8):en1 b p l≤l.length:=by
 induction l generalizing p with
 | nil=>exact Nat.le_refl _
 | cons c l ih=>
  rw[List.length_cons];unfold en1;have h1:=ih p;have h2:=ih true;split
  ·omega
  ·split<;>omega
def ctA (l:List UInt8):List UInt8:=if 0≤Lib.indexByte l 46 then l.take (Lib.indexByte l 46).toNat else l
def ctB (l:List UInt8):List UInt8:=if 0≤Lib.indexByte l 46 then l.drop ((Lib.indexByte l 46).toNat+1) else []
theorem Z0I (l:List UInt8):ctA (46::l)=[]∧ctB (46::l)=l:=by
 have e:Lib.indexByte (46::l) 46=0:=by unfold Lib.indexByte;rfl
 unfold ctA ctB;rw[e];exact⟨rfl,rfl⟩
theorem Zhv {c:UInt8}(h:c≠46) (l:List UInt8):ctA (c::l)=c::ctA l∧ctB (c::l)=ctB l:=by
 have e:Lib.indexByte (c::l) 46=if Lib.indexByte l 46== -1 then -1 else Lib.indexByte l 46+1:=by
  rw[Lib.indexByte,if_neg (by simpa using h)]
 have hg:=Lib.indexByte_ge l 46;unfold ctA ctB;by_cases hm:Lib.indexByte l 46= -1
 ·have e':Lib.indexByte (c::l) 46= -1:=by rw[e,hm];rfl
  rw[e',hm,if_neg (by decide),if_neg (by decide),if_neg (by decide),if_neg (by decide)];exact⟨rfl,rfl⟩
 ·have e':Lib.indexByte (c::l) 46=Lib.indexByte l 46+1:=by rw[e,if_neg (by simpa using hm)]
  have e2:(Lib.indexByte l 46+1).toNat=(Lib.indexByte l 46).toNat+1:=by omega
  rw[e',if_pos (show 0≤Lib.indexByte l 46+1 by omega),if_pos (show 0≤Lib.indexByte l 46+1 by omega),if_pos (show 0≤Lib.indexByte l 46 by omega),if_pos (show 0≤Lib.indexByte l 46 by omega),e2];exact⟨rfl,rfl⟩
theorem Zqy {b:Int}(hb:b=10∨b=16) (l:List UInt8):sc1 b true l=(l.take (en1 b true l),en1 b true l,l.drop (en1 b true l))∧ctA (l.take (en1 b true l))=l.take (en1 b true l)∧ctB (l.take (en1 b true l))=[]:=by
 induction l with
 | nil=>exact⟨rfl,rfl,rfl⟩
 | cons c l ih=>
  obtain⟨i1,i2,i3⟩:=ih;unfold sc1 en1;rw[if_neg (by intro h;exact absurd h.2 (by decide))];by_cases hd:dvB (lq8 c)<b
  ·have hd':=(ZcP hb).1 hd;have hc:c≠46:=fun h=>by
    rw[h] at hd';exact absurd hd' (by rw[show lq8 46=46 from rfl,Z4B];decide)
   rw[if_pos hd',if_pos hd,i1];obtain⟨c1,c2⟩:=Zhv hc (l.take (en1 b true l));refine⟨?_,?_,?_⟩
   ·rw[if_pos rfl,List.take_succ_cons,List.drop_succ_cons,Nat.add_comm]
   ·rw[List.take_succ_cons,c1,i2]
   ·rw[List.take_succ_cons,c2,i3]
  ·rw[if_neg (fun h=>hd ((ZcP hb).2 h)),if_neg hd,if_neg (by intro h;exact absurd h.2 (by decide))];exact⟨rfl,rfl,rfl⟩
theorem ZmO {b:Int}(hb:b=10∨b=16) (l:List UInt8):sc1 b false l=(ctA (l.take (en1 b false l))++ctB (l.take (en1 b false l)),(ctB (l.take (en1 b false l))).length,l.drop (en1 b false l)):=by
 induction l with
 | nil=>rfl
 | cons c l ih=>
  unfold sc1 en1;by_cases h46:lq8 c=46
  ·have hc:c=46:=(Zgt (d:=46)).1 h46;have hd:¬ dvB (lq8 c)<b:=fun h=>by
    have:=(ZcP hb).1 h;rw[h46,Z4B] at this;exact absurd this (by decide)
   obtain⟨t1,t2,t3⟩:=Zqy hb l;rw[if_pos ⟨h46,rfl⟩,if_neg hd,if_pos ⟨h46,rfl⟩,t1,List.take_succ_cons,List.drop_succ_cons,hc,(Z0I _).1,(Z0I _).2,List.nil_append,List.length_take,Nat.min_eq_left (ZsH b true l)]
  ·have hc:c≠46:=fun h=>h46 (by rw[h];rfl);rw[if_neg (fun h=>h46 h.1)];by_cases hd:dvB (lq8 c)<b
   ·rw[if_pos ((ZcP hb).1 hd),if_pos hd,ih,List.take_succ_cons,List.drop_succ_cons,(Zhv hc _).1,(Zhv hc _).2,if_neg (by decide),Nat.zero_add,List.cons_append]
   ·rw[if_neg (fun h=>hd ((ZcP hb).2 h)),if_neg hd,if_neg (fun h=>h46 h.1)];rfl
theorem Zgu (M:Nat) (f:UInt8→Nat) (l:List UInt8) (a:Nat):l.foldl (fun a c=>min (a*10+f c) M) (min a M)=min (l.foldl (fun a c=>a*10+f c) a) M:=by
 induction l generalizing a with
 | nil=>rfl
 | cons c l ih=>
  rw[List.foldl_cons,List.foldl_cons,← ih (a*10+f c)];congr 1;omega
def pwM (M:Nat):Nat→List UInt8→Nat×Bool
 | a,[]=>(a,true)
 | a,c::l=>if dvB (lq8 c)<10 then pwM M (min (a*10+(dvB (lq8 c)).toNat) M) l else (0,false)
theorem Zcn (b:Int) (c:UInt8) (l:List UInt8):ZF b (c::l)=(decide (0≤zy (lq8 c) b) && ZF b l):=rfl
theorem ZvU (M a:Nat) (l:List UInt8):(pwM M a l).2=ZF 10 l:=by
 induction l generalizing a with
 | nil=>rfl
 | cons c l ih=>
  unfold pwM;rw[Zcn];by_cases h:dvB (lq8 c)<10
  ·rw[if_pos h,ih,Xa ((ZcP (.inl rfl)).1 h),Bool.true_and]
  ·rw[if_neg h,Xb (fun h'=>h ((ZcP (.inl rfl)).2 h')),Bool.false_and]
theorem ZmP (a:Nat) (l:List UInt8):(pw1 a l).2=ZF 10 l:=by
 induction l generalizing a with
 | nil=>rfl
 | cons c l ih=>
  unfold pw1;rw[Zcn];by_cases h:0≤zy (lq8 c) 10
  ·rw[if_pos h,ih,Xa h,Bool.true_and]
  ·rw[if_neg h,Xb h,Bool.false_and]
theorem Zqz {M a:Nat}{l:List UInt8}(h:ZF 10 l=true):(pwM M a l).1=l.foldl (fun a c=>min (a*10+(zy (lq8 c) 10).toNat) M) a:=by
 induction l generalizing a with
 | nil=>rfl
 | cons c l ih=>
  rw[Zcn,Xh,Xi] at h;unfold pwM;rw[if_pos ((ZcP (.inl rfl)).2 h.1),ih h.2,List.foldl_cons,ZmM h.1]
theorem Zq0 {a:Nat}{l:List UInt8}(h:ZF 10 l=true):(pw1 a l).1=l.foldl (fun a c=>min (a*10+(zy (lq8 c) 10).toNat) 2000000) a:=by
 induction l generalizing a with
 | nil=>rfl
 | cons c l ih=>
  rw[Zcn,Xh,Xi] at h;unfold pw1;rw[if_pos h.1,ih h.2,List.foldl_cons,Nat.mul_comm 10 a]
theorem ZvV {M:Nat}{l:List UInt8}(h:ZF 10 l=true):(pwM M 0 l).1=min (nmB 10 l) M:=by
 have:=Zgu M (fun c=>(zy (lq8 c) 10).toNat) l 0;rw[Nat.zero_min] at this;rw[Zqz h,this];rfl
theorem ZvW {l:List UInt8}(h:ZF 10 l=true):(pw1 0 l).1=min (nmB 10 l) 2000000:=by
 have:=Zgu 2000000 (fun c=>(zy (lq8 c) 10).toNat) l 0;rw[Nat.zero_min] at this;rw[Zq0 h,this];rfl
theorem Z0J {M a:Nat}(h:a≤M) (l:List UInt8):(pwM M a l).1≤M:=by
 induction l generalizing a with
 | nil=>exact h
 | cons c l ih=>
  unfold pwM;split
  ·exact ih (Nat.min_le_right _ _)
  ·exact Nat.zero_le _
def wnP (l:List UInt8):Int:=if (sgT l).1=true then -((pwM 10000000 0 (sgT l).2).1:Nat) else ((pwM 10000000 0 (sgT l).2).1:Nat)
def wnK (l:List UInt8):Bool:=ZF 10 (sgT l).2 && decide ((sgT l).2≠[])
theorem ZsI (l:List UInt8): -10000000≤wnP l∧wnP l≤10000000:=by
 have:=Z0J (M:=10000000) (a:=0) (Nat.zero_le _) (sgT l).2;unfold wnP;split<;>omega
def Zgv (x y:Int):Prop:=x=y∨(2000000≤x∧2000000≤y)∨(x≤ -2000000∧y≤ -2000000)
def pwK (b:Int) (r:List UInt8):Bool:=if r=[] then decide (b=10) else zW [if b=16 then 112 else 101] r && wnK (r.drop 1)
def pwP (r:List UInt8):Int:=if r=[] then 0 else wnP (r.drop 1)
theorem ZiG {b:Int}(hb:b=10∨b=16) (r:List UInt8):pwK b r=(scE b r).2∧(pwK b r=true→Zgv (pwP r) (scE b r).1):=by
 cases r with
 | nil=>
  unfold pwK pwP scE;rw[if_pos rfl,if_pos rfl];exact⟨rfl,fun _=> .inl rfl⟩
 | cons c r=>
  have hne:¬ (c::r=[]):=by simp
  unfold pwK pwP;rw[scE,if_neg hne,if_neg hne,List.drop_succ_cons,List.drop_zero];by_cases hc:(b=10∧lq8 c≠101)∨(b=16∧lq8 c≠112)
  ·have:zW [if b=16 then 112 else 101] (c::r)=false:=by
    refine Zbt _ fun h=> ?_;rcases hc with ⟨h1,h2⟩ | ⟨h1,h2⟩
    ·rw[if_neg (by omega)] at h;exact h2 (by rw[h];rfl)
    ·rw[if_pos h1] at h;exact h2 (by rw[h];rfl)
   rw[if_pos hc,this];exact⟨rfl,fun h=>by cases h⟩
  ·have hP:zW [if b=16 then 112 else 101] (c::r)=true:=by
    refine (Zdi _ _).2 ⟨r,?_⟩;rcases hb with rfl | rfl
    ·rw[if_neg (by decide)];have:lq8 c=lq8 101:=by
      rcases Classical.em (lq8 c=101) with h | h
      ·exact h
      ·exact absurd (.inl ⟨rfl,h⟩) hc
     rw[Zgt.1 this]
    ·rw[if_pos rfl];have:lq8 c=lq8 112:=by
      rcases Classical.em (lq8 c=112) with h | h
      ·exact h
      ·exact absurd (.inr ⟨rfl,h⟩) hc
     rw[Zgt.1 this]
   rw[if_neg hc,hP,Bool.true_and];unfold wnK wnP;by_cases he:(sgT r).2=[]
   ·rw[if_pos he,he];exact⟨rfl,fun h=>by cases h⟩
   ·rw[if_neg he,Xa he,Bool.and_true];cases ha:ZF 10 (sgT r).2 with
    | false=>
     rw[if_pos (by rw[ZmP,ha])];exact⟨rfl,fun h=>by cases h⟩
    | true=>
     rw[if_neg (by rw[ZmP,ha];decide)];refine⟨rfl,fun _=> ?_⟩;rw[ZvV ha,ZvW ha];unfold Zgv;dsimp only;split<;>omega
def trR (l:List UInt8):List UInt8:=(l.reverse.dropWhile fun c=>lq8 c==48).reverse
theorem Zfl:trR []=[]:=rfl
theorem z6 (l:List UInt8) (c:UInt8):trR (l++[c])=if lq8 c=48 then trR l else l++[c]:=by
 unfold trR;rw[List.reverse_append,List.reverse_singleton,List.singleton_append,List.dropWhile_cons];by_cases h:lq8 c=48
 ·rw[if_pos (by simpa using h),if_pos h]
 ·rw[if_neg (by simpa using h),if_neg h,List.reverse_cons,List.reverse_reverse]
theorem Zco {P:List UInt8→Prop}(h0:P []) (h1:∀ l c,P l→P (l++[c])) (l:List UInt8):P l:=by
 have key:∀ k (l:List UInt8),l.length=k→P l:=by
  intro k
  induction k with
  | zero=>intro l hl;rw[List.eq_nil_of_length_eq_zero hl];exact h0
  | succ k ih=>
   intro l hl;have hne:l≠[]:=fun h=>by rw[h] at hl;cases hl
   rw[← List.dropLast_concat_getLast hne];exact h1 _ _ (ih _ (by rw[List.length_dropLast];omega))
 exact key _ l rfl
theorem ZbS (l:List UInt8):(trR l).length≤l.length:=by
 unfold trR;rw[List.length_reverse];have:=(List.dropWhile_sublist (l:=l.reverse) fun c=>lq8 c==48).length_le;rw[List.length_reverse] at this;exact this
theorem Zfm {b:Int}(l:List UInt8):nmB b l=nmB b (trR l)*b.toNat^(l.length-(trR l).length):=by
 refine Zco (P:=fun l=>nmB b l=nmB b (trR l)*b.toNat^(l.length-(trR l).length)) ?_ ?_ l
 ·rfl
 ·intro l c ih;rw[z6];by_cases h:lq8 c=48
  ·have hd:(zy 48 b).toNat=0:=by unfold zy;rw[if_pos (by omega)];rfl
   have:=ZbS l;rw[if_pos h,zM,h,hd,Nat.add_zero,ih,Nat.mul_assoc,← Nat.pow_succ,List.length_append,List.length_singleton];congr 2;omega
  ·rw[if_neg h,Nat.sub_self,Nat.pow_zero,Nat.mul_one]
theorem Zfn {b:Int}{l:List UInt8}(h:ZF b l=true):ZF b (trR l)=true:=by
 unfold ZF at*;rw[List.all_eq_true] at*;intro x hx;unfold trR at hx;have:=(List.dropWhile_sublist _).subset (List.mem_reverse.1 hx);exact h x (List.mem_reverse.1 this)
theorem ZiH {l r:List UInt8}{c:UInt8}(h:trR l=r++[c]):lq8 c≠48:=by
 have key:∀ l:List UInt8,∀ r c,trR l=r++[c]→lq8 c≠48:=by
  intro l;refine Zco (P:=fun l=>∀ r c,trR l=r++[c]→lq8 c≠48) ?_ ?_ l
  ·intro r c h;rw[Zfl] at h;exact absurd h (by simp)
  ·intro l d ih r c h;rw[z6] at h;by_cases h1:lq8 d=48
   ·rw[if_pos h1] at h;exact ih r c h
   ·rw[if_neg h1] at h;have:=(List.append_inj' h rfl).2
    injection this with e
    rw[← e];exact h1
 exact key l r c h
theorem Zcp {b:Int}{c:UInt8}{r:List UInt8}(h:0<zy (lq8 c) b):∃ r',trR (c::r)=c::r':=by
 have key:∀ r:List UInt8,∃ r',trR (c::r)=c::r':=by
  intro r;refine Zco (P:=fun r=>∃ r',trR (c::r)=c::r') ?_ ?_ r
  ·have h48:lq8 c≠48:=fun h0=>by
    rw[h0] at h;unfold zy at h;rw[if_pos (by omega)] at h;omega
   refine⟨[],?_⟩;have:=z6 [] c;rw[if_neg h48] at this;exact this
  ·intro l d ih;have:=z6 (c::l) d;rw[List.cons_append] at this;rw[this];split
   ·exact ih
   ·exact⟨_,rfl⟩
 exact key r
def shR (k:Nat) (l:List UInt8):List UInt8:=if l.length≤k then l else l.take k++[49]
theorem Zhw (b:Int) (x y:List UInt8):nmB b (x++y)=nmB b x*b.toNat^y.length+nmB b y:=by
 refine Zco (P:=fun y=>nmB b (x++y)=nmB b x*b.toNat^y.length+nmB b y) ?_ ?_ y
 ·rw[List.append_nil];show nmB b x=nmB b x*1+0;omega
 ·intro l c ih;rw[← List.append_assoc,zM,zM,ih,List.length_append,List.length_singleton,Nat.pow_succ,Nat.add_mul,Nat.mul_assoc,Nat.add_assoc]
theorem Zq1 {b:Int}{l:List UInt8}{c:UInt8}(h:ZF b (l++[c])=true) (h48:lq8 c≠48):0<nmB b (l++[c]):=by
 have h1:0≤zy (lq8 c) b:=by
  unfold ZF at h;exact Xc (List.all_eq_true.1 h c (List.mem_append.2 (.inr Xf)))
 have h2:0<zy (lq8 c) b:=by
  have:=ZmM h1;unfold zy at*;split
  ·omega
  ·rename_i h3;rw[if_neg h3] at h1;split
   ·omega
   ·rename_i h4;rw[if_neg h4] at h1;omega
 rw[zM];omega
theorem Zgw {b:Int}(hb:b=10∨b=16) {l:List UInt8}{k:Nat}(hk:k<l.length) (ha:ZF b l=true) (hl:∀ r c,l=r++[c]→lq8 c≠48):nmB b l=nmB b (l.take k)*b.toNat^(l.length-k)+nmB b (l.drop k)∧0<nmB b (l.drop k)∧nmB b (l.drop k)<b.toNat^(l.length-k):=by
 have e:=Zhw b (l.take k) (l.drop k);rw[List.take_append_drop,List.length_drop] at e;refine⟨e,?_,?_⟩
 ·have hne:l.drop k≠[]:=fun h=>by
   have:=congrArg List.length h;rw[List.length_drop] at this;simp at this;omega
  have e2:=(List.dropLast_concat_getLast hne).symm;rw[e2];refine Zq1 ?_ ?_
  ·rw[← e2];unfold ZF at*;rw[List.all_eq_true] at*;exact fun x hx=>ha x (List.mem_of_mem_drop hx)
  ·exact hl (l.take k++(l.drop k).dropLast) _ (by rw[List.append_assoc,← e2,List.take_append_drop])
 ·have:=ZdG hb (l.drop k);rw[List.length_drop] at this;exact this
theorem ZsJ (b:Int):(zy (lq8 49) b).toNat=1:=by unfold zy;rw[if_pos (by decide)];rfl
def nuD (l:List UInt8):List UInt8:=trR (trZ l)
theorem ZvX {m:Int}{n:Bool}{D:List UInt8}{E:Int}(ha:ZF 16 D=true) (hl:∀ r c,D=r++[c]→lq8 c≠48) {c:UInt8}{r:List UInt8}(hD:D=c::r) (hc:0<zy (lq8 c) 16):
  rnP m n (nmB 16 (shR 60 D)) (E-4*((shR 60 D).length:Nat))=rnP m n (nmB 16 D) (E-4*(D.length:Nat))∧rnF m n (nmB 16 (shR 60 D)) (E-4*((shR 60 D).length:Nat))=rnF m n (nmB 16 D) (E-4*(D.length:Nat)):=by
 unfold shR;by_cases hk:D.length≤60
 ·rw[if_pos hk];exact⟨rfl,rfl⟩
 rw[if_neg hk];obtain⟨p1,p2,p3⟩:=Zgw (.inr rfl) (k:=60) (by omega) ha hl;have hq:2^53≤nmB 16 (D.take 60):=by
  have e:D.take 60=c::r.take 59:=by rw[hD];rfl
  have:=Zgs (b:=16) (r:=r.take 59) hc;have hlen:(r.take 59).length=59:=by
   rw[List.length_take];rw[hD,List.length_cons] at hk;omega
  rw[hlen] at this;rw[e];exact Nat.le_trans (by decide) this
 have hb:=Za3 hq;obtain⟨q,hqe⟩:∃ q,q=nmB 16 (D.take 60):=⟨_,rfl⟩;obtain⟨s,hse⟩:∃ s,s=nmB 16 (D.drop 60):=⟨_,rfl⟩;obtain⟨L,hL⟩:∃ L,L=D.length:=⟨_,rfl⟩;rw[← hqe] at p1 hb;rw[← hse] at p1 p2 p3;rw[← hL] at p1 p3;have e16:(16:Int).toNat^(L-60)=2^(4*(L-60)):=by rw[Nat.pow_mul];rfl
 rw[e16] at p1 p3;have hp:0<2^(4*(L-60)):=Nat.pow_pos (by omega);have d1:nmB 16 D/2^(4*(L-60))=q:=by rw[p1,Nat.mul_comm,Nat.mul_add_div hp,Nat.div_eq_of_lt p3,Nat.add_zero]
 have d2:nmB 16 D % 2^(4*(L-60))=s:=by rw[p1,Nat.mul_comm,Nat.mul_add_mod,Nat.mod_eq_of_lt p3]
 have a1:=Zcm (m:=m) (neg:=n) (A:=nmB 16 D) (d:=4*(L-60)) (F:=E-4*(L:Nat)) (.inr (by rw[d1];omega));have s1:stk (nmB 16 D) (4*(L-60))=2*q+1:=by unfold stk;rw[d1,d2,if_neg (by omega)]
 have e2:nmB 16 (D.take 60++[49])=q*16+1:=by rw[zM,ZsJ,hqe];rfl
 have hlen:(D.take 60++[49]).length=61:=by rw[List.length_append,List.length_take,List.length_singleton];omega
 have d3:(q*16+1)/2^4=q:=by omega
 have d4:(q*16+1) % 2^4=1:=by omega
 have a2:=Zcm (m:=m) (neg:=n) (A:=q*16+1) (d:=4) (F:=E-4*61) (.inr (by rw[d3];omega));have s2:stk (q*16+1) 4=2*q+1:=by unfold stk;rw[d3,d4,if_neg (by omega)]
 rw[s1,show E-4*(L:Nat)+((4*(L-60):Nat):Int)-1=E-241 by omega] at a1;rw[s2,show E-4*61+((4:Nat):Int)-1=E-241 by omega] at a2;rw[e2,hlen,← hL];exact⟨a2.1.symm.trans a1.1,a2.2.symm.trans a1.2⟩
theorem Z0K {b:Int}(hb:b=10∨b=16) (l:List UInt8):bitLen (nmB b l)≤4*l.length:=len_le (Zhr hb l)
theorem ZvY {m:Int}{n:Bool}{A k:Nat}{x y z:Int}(hA:A≠0) (hk:bitLen A≤k) (hz: -100000≤z∧z+k≤100000) (h:Zgv x y):rnP m n A (x+z)=rnP m n A (y+z)∧rnF m n A (x+z)=rnF m n A (y+z):=by
 have h1:=zB hA;rcases h with h | ⟨h2,h3⟩ | ⟨h2,h3⟩
 ·rw[h];exact⟨rfl,rfl⟩
 ·obtain⟨a1,a2⟩:=Ze2 (m:=m) (neg:=n) (E:=x+z) hA (by unfold lgN;omega);obtain⟨b1,b2⟩:=Ze2 (m:=m) (neg:=n) (E:=y+z) hA (by unfold lgN;omega);exact⟨a1.trans b1.symm,a2.trans b2.symm⟩
 ·obtain⟨a1,a2⟩:=Ze3 (m:=m) (neg:=n) (E:=x+z) hA (by unfold lgN;omega);obtain⟨b1,b2⟩:=Ze3 (m:=m) (neg:=n) (E:=y+z) hA (by unfold lgN;omega);exact⟨a1.trans b1.symm,a2.trans b2.symm⟩
theorem Zq2 {m:Int}{n:Bool}{l:List UInt8}(hl:l.length≤10000) (ha:ZF 16 l=true) (hz:trZ l≠[]) {k:Nat}(hk:k≤l.length) {P Q:Int}(hP:Zgv Q P):
  rnP m n (nmB 16 (shR 60 (nuD l))) (Q+4*(((trZ l).length:Nat)-(k:Int)-((shR 60 (nuD l)).length:Nat)))=rnP m n (dnA 16 (trZ l) k P).1 (dnA 16 (trZ l) k P).2∧rnF m n (nmB 16 (shR 60 (nuD l))) (Q+4*(((trZ l).length:Nat)-(k:Int)-((shR 60 (nuD l)).length:Nat)))=rnF m n (dnA 16 (trZ l) k P).1 (dnA 16 (trZ l) k P).2:=by
 obtain⟨c,r,hT⟩:∃ c r,trZ l=c::r:=by
  cases h:trZ l with
  | nil=>exact absurd h hz
  | cons c r=>exact⟨c,r,rfl⟩
 have hc:=ZaJ ha hT;have haT:=Zdh ha;obtain⟨r',hr'⟩:=Zcp (b:=16) (r:=r) hc;have haD:ZF 16 (nuD l)=true:=Zfn haT;have hlast:∀ r c,nuD l=r++[c]→lq8 c≠48:=fun r c h=>ZiH h;have eD:nuD l=c::r':=by unfold nuD;rw[hT,hr']
 have lT:=Zfg l;have lD:=ZbS (trZ l);have hcut:=ZvX (m:=m) (n:=n) (E:=Q+4*(((trZ l).length:Nat)-(k:Int))) haD hlast eD hc;have eE:Q+4*(((trZ l).length:Nat)-(k:Int)-((shR 60 (nuD l)).length:Nat))=Q+4*(((trZ l).length:Nat)-(k:Int))-4*((shR 60 (nuD l)).length:Nat):=by omega
 rw[eE,hcut.1,hcut.2];have hA:nmB 16 (nuD l)≠0:=by
  have:=Zbr (b:=16) (.inr rfl) (r:=r') hc;rw[eD];omega
 have eL:(nuD l).length≤(trZ l).length:=lD;have hfar:=ZvY (m:=m) (n:=n) (k:=40000) (z:=4*(((trZ l).length:Nat)-(k:Int))-4*((nuD l).length:Nat)) hA (by
  have:=Z0K (b:=16) (.inr rfl) (nuD l);omega) (by omega) hP
 rw[show Q+4*(((trZ l).length:Nat)-(k:Int))-4*((nuD l).length:Nat)=Q+(4*(((trZ l).length:Nat)-(k:Int))-4*((nuD l).length:Nat)) by omega,hfar.1,hfar.2];have e1:=Zfm (b:=16) (trZ l);have e2:(16:Int).toNat^((trZ l).length-(trR (trZ l)).length)=2^(4*((trZ l).length-(nuD l).length)):=by rw[Nat.pow_mul];rfl
 rw[e2] at e1;have p:=zu m n (nmB 16 (nuD l)) (4*((trZ l).length-(nuD l).length)) (P+(4*(((trZ l).length:Nat)-(k:Int))-4*((nuD l).length:Nat)));have f:=Zaf m n (nmB 16 (nuD l)) (4*((trZ l).length-(nuD l).length)) (P+(4*(((trZ l).length:Nat)-(k:Int))-4*((nuD l).length:Nat)));rw[show P+(4*(((trZ l).length:Nat)-(k:Int))-4*((nuD l).length:Nat))-((4*((trZ l).length-(nuD l).length):Nat):Int)=P-4*k by omega] at p f;unfold dnA;rw[if_pos rfl];dsimp only;rw[e1];exact⟨p.symm,f.symm⟩
def clF (x:Int):Int:=min (max x (-400)) 400
theorem ZvZ {m:Int}{n:Bool}{D:List UInt8}{a a':Int}(ha:ZF 10 D=true) (hl:∀ r c,D=r++[c]→lq8 c≠48) {c:UInt8}{r:List UInt8}(hD:D=c::r) (hc:0<zy (lq8 c) 10) (h:a'=a∨(1000≤a∧1000≤a')∨(a≤ -1000∧a'≤ -1000)):
  deP m n (nmB 10 (shR 800 D)) (clF a'-((shR 800 D).length:Nat))=deP m n (nmB 10 D) (a-(D.length:Nat))∧deF m n (nmB 10 (shR 800 D)) (clF a'-((shR 800 D).length:Nat))=deF m n (nmB 10 D) (a-(D.length:Nat)):=by
 have e10:(10:Int).toNat=10:=rfl;obtain⟨r2,hr2⟩:∃ r2,shR 800 D=c::r2:=by
  unfold shR;split
  ·exact⟨r,hD⟩
  ·exact⟨_,by rw[hD];rfl⟩
 have g1:=Zgs (b:=10) (r:=r) hc;have g2:=Zgs (b:=10) (r:=r2) hc;have u1:=ZdG (b:=10) (.inl rfl) D;have u2:=ZdG (b:=10) (.inl rfl) (shR 800 D);rw[e10] at g1 g2 u1 u2;rw[← hD] at g1;rw[← hr2] at g2;have n1:nmB 10 D≠0:=by have:=Zbr (b:=10) (.inl rfl) (r:=r) hc;rw[hD];omega
 have n2:nmB 10 (shR 800 D)≠0:=by have:=Zbr (b:=10) (.inl rfl) (r:=r2) hc;rw[hr2];omega
 have l1:D.length=r.length+1:=by rw[hD];rfl
 have l2:(shR 800 D).length=r2.length+1:=by rw[hr2];rfl
 by_cases hbig:400<a
 ·have hc4:clF a'=400:=by unfold clF;omega
  obtain⟨a1,a2⟩:=ZmH m n (j:=clF a'-((shR 800 D).length:Nat)) g2 (by omega);obtain⟨b1,b2⟩:=ZmH m n (j:=a-(D.length:Nat)) g1 (by omega);exact⟨a1.trans b1.symm,a2.trans b2.symm⟩
 by_cases hlow:a< -400
 ·have hc4:clF a'= -400:=by unfold clF;omega
  obtain⟨a1,a2⟩:=ZmI m n (j:=clF a'-((shR 800 D).length:Nat)) n2 u2 (by omega);obtain⟨b1,b2⟩:=ZmI m n (j:=a-(D.length:Nat)) n1 u1 (by omega);exact⟨a1.trans b1.symm,a2.trans b2.symm⟩
 have hca:clF a'=a:=by unfold clF;omega
 rw[hca];unfold shR;by_cases hk:D.length≤800
 ·rw[if_pos hk];exact⟨rfl,rfl⟩
 rw[if_neg hk];obtain⟨p1,p2,p3⟩:=Zgw (.inl rfl) (k:=800) (by omega) ha hl;rw[e10] at p1 p3;obtain⟨M,hM⟩:∃ M,M=799:=⟨_,rfl⟩;have hlt:(D.take 800).length=M+1:=by rw[List.length_take];omega
 have hq:10^M≤nmB 10 (D.take 800):=by
  have e:D.take 800=c::r.take 799:=by rw[hD];rfl
  have:=Zgs (b:=10) (r:=r.take 799) hc;have hlen:(r.take 799).length=M:=by
   rw[List.length_take];omega
  rw[hlen,e10] at this;rw[e];exact this
 have hq':nmB 10 (D.take 800)<10^(M+1):=by
  have:=ZdG (b:=10) (.inl rfl) (D.take 800);rw[hlt,e10] at this;exact this
 obtain⟨G,hG⟩:∃ G:Nat,(G:Int)=800-a:=⟨(800-a).toNat,by omega⟩;obtain⟨q,hqe⟩:∃ q,q=nmB 10 (D.take 800):=⟨_,rfl⟩;have e2:nmB 10 (D.take 800++[49])=q*10+1:=by rw[zM,ZsJ,hqe];rfl
 have hlen:(D.take 800++[49]).length=801:=by rw[List.length_append,hlt,List.length_singleton];omega
 rw[← hqe] at hq hq' p1;have key:=Zqv (m:=m) (n:=n) (C:=10^1) (r:=1) (C':=10^(D.length-800)) (r':=nmB 10 (D.drop 800)) hM hG (by omega) hq hq' (by omega) (by decide) p2 p3;rw[← Nat.pow_add,← Nat.pow_add] at key;unfold deP deF;rw[e2,hlen,p1,show (a-((801:Nat):Int)).toNat=0 by omega,show (-(a-((801:Nat):Int))).toNat=G+1 by omega,show (a-(D.length:Nat)).toNat=0 by omega,show (-(a-((D.length:Nat):Int))).toNat=G+(D.length-800) by omega,Nat.pow_zero,Nat.mul_one,Nat.mul_one];exact key
theorem Zq3 {m:Int}{n:Bool}{l:List UInt8}(hl:l.length≤10000) (ha:ZF 10 l=true) (hz:trZ l≠[]) {k:Nat}(hk:k≤l.length) {P Q:Int}(hP:Zgv Q P):
  deP m n (nmB 10 (shR 800 (nuD l))) (clF (((trZ l).length:Nat)-(k:Int)+Q)-((shR 800 (nuD l)).length:Nat))=rnP m n (dnA 10 (trZ l) k P).1 (dnA 10 (trZ l) k P).2∧deF m n (nmB 10 (shR 800 (nuD l))) (clF (((trZ l).length:Nat)-(k:Int)+Q)-((shR 800 (nuD l)).length:Nat))=rnF m n (dnA 10 (trZ l) k P).1 (dnA 10 (trZ l) k P).2:=by
 obtain⟨c,r,hT⟩:∃ c r,trZ l=c::r:=by
  cases h:trZ l with
  | nil=>exact absurd h hz
  | cons c r=>exact⟨c,r,rfl⟩
 have hc:=ZaJ ha hT;have haT:=Zdh ha;obtain⟨r',hr'⟩:=Zcp (b:=10) (r:=r) hc;have haD:ZF 10 (nuD l)=true:=Zfn haT;have hlast:∀ r c,nuD l=r++[c]→lq8 c≠48:=fun r c h=>ZiH h;have eD:nuD l=c::r':=by unfold nuD;rw[hT,hr']
 have lT:=Zfg l;have lD:(nuD l).length≤(trZ l).length:=ZbS (trZ l);have hA:nmB 10 (nuD l)≠0:=by
  have:=Zbr (b:=10) (.inl rfl) (r:=r') hc;rw[eD];omega
 have key:=ZvZ (m:=m) (n:=n) (a:=((trZ l).length:Nat)-(k:Int)+P) (a':=((trZ l).length:Nat)-(k:Int)+Q) haD hlast eD hc (by unfold Zgv at hP;omega);have hdn:=Z0C m n (c:=c) (r:=r) (k:=k) (P:=P) hc;rw[← hT] at hdn;have e1:=Zfm (b:=10) (trZ l);have hs:=Zb6 m n (A:=nmB 10 (nuD l)) hA ((trZ l).length-(nuD l).length) (((trZ l).length:Nat)-(k:Int)+P-((nuD l).length:Nat));rw[show ((trZ l).length:Nat)-(k:Int)+P-((nuD l).length:Nat)-(((trZ l).length-(nuD l).length:Nat):Int)=P-k by omega] at hs;have e2:nmB 10 (nuD l)*10^((trZ l).length-(nuD l).length)=nmB 10 (trZ l):=e1.symm;rw[e2] at hs;exact⟨key.1.trans (hs.1.symm.trans hdn.1.symm),key.2.trans (hs.2.symm.trans hdn.2.symm)⟩
end Go.Rd
namespace Go.Rd
open Go.Rn Go.Nt
def bt (b:Bool):Nat:=match b with | true=>1 | false=>0
def loW (T:Nat):Nat:=(db 4294967296 T).length-8
def hiS (T:Nat):Nat:=T/2^(32*loW T)
def hiM (T:Nat) (m:Bool):Bool:=m || decide (T % 2^(32*loW T)≠0)
def hiE (T:Nat) (e:Int):Int:=e+32*(loW T:Nat)
theorem zw (k:Nat):(4294967296:Nat)^k=2^(32*k):=by rw[Nat.pow_mul]
theorem Z4C (T:Nat):hiS T<2^256:=by
 unfold hiS;rw[Nat.div_lt_iff_lt_mul (Nat.pow_pos (by omega)),← Nat.pow_add];have h1:=Zd6 (b:=4294967296) (by omega) (db 4294967296 T) (ZeM (by omega) T);rw[Zbi (by omega) T,zw] at h1;exact Nat.lt_of_lt_of_le h1 (Nat.pow_le_pow_right (by omega) (by unfold loW;omega))
theorem Z0L {T:Nat}(h:loW T≠0):2^53≤hiS T:=by
 unfold hiS;rw[Nat.le_div_iff_mul_le (Nat.pow_pos (by omega)),← Nat.pow_add];rcases Nat.lt_or_ge T (2^(53+32*loW T)) with h1 | h1
 ·exfalso
  have h2:T<4294967296^(loW T+7):=by
   rw[zw];exact Nat.lt_of_lt_of_le h1 (Nat.pow_le_pow_right (by omega) (by omega))
  have:=ZcL (b:=4294967296) (by omega) _ _ h2;unfold loW at*;omega
 ·exact h1
theorem Zq4 {m:Int}{n:Bool}{T:Nat}{b:Bool}{e:Int}:rnP m n (2*hiS T+bt (hiM T b)) (hiE T e-1)=rnP m n (2*T+bt b) (e-1)∧rnF m n (2*hiS T+bt (hiM T b)) (hiE T e-1)=rnF m n (2*T+bt b) (e-1):=by
 by_cases h0:loW T=0
 ·have e1:hiS T=T:=by unfold hiS;rw[h0,Nat.mul_zero,Nat.pow_zero,Nat.div_one]
  have e2:hiM T b=b:=by unfold hiM;rw[h0,Nat.mul_zero,Nat.pow_zero,Nat.mod_one];cases b<;>rfl
  have e3:hiE T e=e:=by unfold hiE;rw[h0];omega
  rw[e1,e2,e3];exact⟨rfl,rfl⟩
 ·have hp:0<2^(32*loW T):=Nat.pow_pos (by omega);have hbt:bt b≤1:=by cases b<;>decide
  have d1:(2*T+bt b)/2^(32*loW T+1)=hiS T:=by
   unfold hiS;rw[Nat.pow_succ,Nat.mul_comm (2^(32*loW T)) 2,← Nat.div_div_eq_div_mul];congr 1;omega
  have d2:(2*T+bt b) % 2^(32*loW T+1)=2*(T % 2^(32*loW T))+bt b:=by
   rw[Nat.pow_succ,Nat.mul_comm (2^(32*loW T)) 2,Nat.mod_mul,show (2*T+bt b)/2=T by omega];omega
  have st:stk (2*T+bt b) (32*loW T+1)=2*hiS T+bt (hiM T b):=by
   unfold stk;rw[d1,d2];congr 1;unfold hiM;cases b with
   | true=>rw[if_neg (by simp [bt])];rfl
   | false=>
    by_cases hz:T % 2^(32*loW T)=0
    ·rw[if_pos (by rw[hz];rfl),Xb (fun h=>h hz)];rfl
    ·rw[if_neg (by simp [bt];omega),Xa hz];rfl
  have hb:=Za3 (Z0L h0);have r:=Zcm (m:=m) (neg:=n) (A:=2*T+bt b) (d:=32*loW T+1) (F:=e-1) (.inr (by rw[d1];omega));rw[st,show e-1+((32*loW T+1:Nat):Int)-1=hiE T e-1 by unfold hiE;omega] at r;exact r
def upT (A B:Nat):Nat:=((bitLen B:Int)+128-(bitLen A:Int)).toNat
theorem ZiI {A B:Nat}(hA:A≠0) (hB:B≠0):54≤bitLen (A*2^upT A B/B):=by
 refine Za3 (k:=53) ?_;rw[Nat.le_div_iff_mul_le (by omega)];have h1:=(bitLen_spec A).2 hA;have h2:=(bitLen_spec B).1;have h3:=zB hA;have h4:bitLen B+128≤upT A B+bitLen A:=by unfold upT;omega
 refine Nat.le_trans (Nat.mul_le_mul_left _ (Nat.le_of_lt h2)) ?_;rw[← Nat.pow_add];refine Nat.le_trans (Nat.pow_le_pow_right (by omega) (show 53+bitLen B≤(bitLen A-1)+upT A B by omega)) ?_;rw[Nat.pow_add];exact Nat.mul_le_mul_right _ h1
def teT (A:Nat) (j:Int):Nat:=if 0≤j then A*10^j.toNat else A*2^upT A (10^(-j).toNat)/10^(-j).toNat
def teM (A:Nat) (j:Int):Bool:=if 0≤j then false else decide (A*2^upT A (10^(-j).toNat) % 10^(-j).toNat≠0)
def teE (A:Nat) (j:Int):Int:=if 0≤j then 0 else -((upT A (10^(-j).toNat):Nat):Int)
theorem Zq5 {m:Int}{n:Bool}{A:Nat}{j:Int}(hA:A≠0):rnP m n (2*hiS (teT A j)+bt (hiM (teT A j) (teM A j))) (hiE (teT A j) (teE A j)-1)=deP m n A j∧rnF m n (2*hiS (teT A j)+bt (hiM (teT A j) (teM A j))) (hiE (teT A j) (teE A j)-1)=deF m n A j:=by
 obtain⟨h1,h2⟩:=Zq4 (m:=m) (n:=n) (T:=teT A j) (b:=teM A j) (e:=teE A j);rw[h1,h2];unfold teT teM teE;by_cases hj:0≤j
 ·rw[if_pos hj,if_pos hj,if_pos hj];have p:=zu m n (A*10^j.toNat) 1 0;have f:=Zaf m n (A*10^j.toNat) 1 0;obtain⟨q1,q2⟩:=ZsC m n (A*10^j.toNat);rw[show 2*(A*10^j.toNat)+bt false=A*10^j.toNat*2^1 by simp only[bt];omega];unfold deP deF;rw[show (-j).toNat=0 by omega,Nat.pow_zero,q1,q2];exact⟨p,f⟩
 ·rw[if_neg hj,if_neg hj,if_neg hj];have hB:=zF (-j).toNat;have r:=Zgr (m:=m) (n:=n) hA hB (ZiI hA hB);have e:2*(A*2^upT A (10^(-j).toNat)/10^(-j).toNat)+bt (decide (A*2^upT A (10^(-j).toNat) % 10^(-j).toNat≠0))=dvK A (10^(-j).toNat) (upT A (10^(-j).toNat)):=by
   unfold dvK;congr 1;by_cases hz:A*2^upT A (10^(-j).toNat) % 10^(-j).toNat=0
   ·rw[if_pos hz,Xb (fun h=>h hz)];rfl
   ·rw[if_neg hz,Xa hz];rfl
  rw[e];unfold deP deF;rw[show j.toNat=0 by omega,Nat.pow_zero,Nat.mul_one];exact r
def noS (b:Int) (D:List UInt8) (k P:Int):Nat:=if b=16 then nmB 16 (shR 60 D) else hiS (teT (nmB 10 (shR 800 D)) (clF (k+P)-((shR 800 D).length:Nat)))
def noM (b:Int) (D:List UInt8) (k P:Int):Bool:=if b=16 then false else hiM (teT (nmB 10 (shR 800 D)) (clF (k+P)-((shR 800 D).length:Nat))) (teM (nmB 10 (shR 800 D)) (clF (k+P)-((shR 800 D).length:Nat)))
def noE (b:Int) (D:List UInt8) (k P:Int):Int:=if b=16 then P+4*(k-((shR 60 D).length:Nat)) else hiE (teT (nmB 10 (shR 800 D)) (clF (k+P)-((shR 800 D).length:Nat))) (teE (nmB 10 (shR 800 D)) (clF (k+P)-((shR 800 D).length:Nat)))
theorem ZmQ (k:Nat) (D:List UInt8):(shR k D).length≤k+1:=by
 unfold shR;split
 ·omega
 ·rw[List.length_append,List.length_take,List.length_singleton];omega
theorem Z0M (b:Int) (D:List UInt8) (k P:Int):noS b D k P<2^256:=by
 unfold noS;split
 ·refine Nat.lt_of_lt_of_le (Zhr (.inr rfl) _) (Nat.pow_le_pow_right (by omega) ?_);have:=ZmQ 60 D;omega
 ·exact Z4C _
theorem Zq6 {m:Int}{n:Bool}{b:Int}(hb:b=10∨b=16) {l:List UInt8}(hl:l.length≤10000) (ha:ZF b l=true) (hz:trZ l≠[]) {k:Nat}(hk:k≤l.length) {P Q:Int}(hP:Zgv Q P):
  rnP m n (2*noS b (nuD l) (((trZ l).length:Nat)-(k:Int)) Q+bt (noM b (nuD l) (((trZ l).length:Nat)-(k:Int)) Q)) (noE b (nuD l) (((trZ l).length:Nat)-(k:Int)) Q-1)=rnP m n (dnA b (trZ l) k P).1 (dnA b (trZ l) k P).2∧rnF m n (2*noS b (nuD l) (((trZ l).length:Nat)-(k:Int)) Q+bt (noM b (nuD l) (((trZ l).length:Nat)-(k:Int)) Q)) (noE b (nuD l) (((trZ l).length:Nat)-(k:Int)) Q-1)=rnF m n (dnA b (trZ l) k P).1 (dnA b (trZ l) k P).2:=by
 unfold noS noM noE;rcases hb with rfl | rfl
 ·rw[if_neg (by decide),if_neg (by decide),if_neg (by decide)];have hA:nmB 10 (shR 800 (nuD l))≠0:=by
   obtain⟨c,r,hT⟩:∃ c r,trZ l=c::r:=by
    cases h:trZ l with
    | nil=>exact absurd h hz
    | cons c r=>exact⟨c,r,rfl⟩
   have hc:=ZaJ ha hT;obtain⟨r',hr'⟩:=Zcp (b:=10) (r:=r) hc;obtain⟨r2,hr2⟩:∃ r2,shR 800 (nuD l)=c::r2:=by
    unfold nuD shR;rw[hT,hr'];split
    ·exact⟨_,rfl⟩
    ·exact⟨_,rfl⟩
   have:=Zbr (b:=10) (.inl rfl) (r:=r2) hc;rw[hr2];omega
  obtain⟨t1,t2⟩:=Zq5 (m:=m) (n:=n) (j:=clF (((trZ l).length:Nat)-(k:Int)+Q)-((shR 800 (nuD l)).length:Nat)) hA;obtain⟨d1,d2⟩:=Zq3 (m:=m) (n:=n) hl ha hz hk hP;exact⟨t1.trans d1,t2.trans d2⟩
 ·rw[if_pos rfl,if_pos rfl,if_pos rfl];have h:=Zq2 (m:=m) (n:=n) hl ha hz hk hP;obtain⟨A,hA⟩:∃ A,A=nmB 16 (shR 60 (nuD l)):=⟨_,rfl⟩;obtain⟨E,hE⟩:∃ E,E=Q+4*(((trZ l).length:Nat)-(k:Int)-((shR 60 (nuD l)).length:Nat)):=⟨_,rfl⟩;rw[← hA,← hE] at h;rw[← hA,← hE];have p:=zu m n A 1 E;have f:=Zaf m n A 1 E;rw[show 2*A+bt false=A*2^1 by simp only[bt];omega];exact⟨p.trans h.1,f.trans h.2⟩
end Go.Rd
