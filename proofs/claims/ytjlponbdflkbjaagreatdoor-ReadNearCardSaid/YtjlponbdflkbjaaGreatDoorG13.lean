/-
  NumX4, NumR4, NumR5, NumF, NumQu, NumRd, NumRe, NumRj, NumRf, NumRg, NumRk, NumRl
-/
import Derived.Test.YtjlponbdflkbjaaGreatDoorG12
import Derived.Lib.Bytealg
namespace Go.Wd
open Go.Rn
def W4.nat (x:W4):Nat:=x.val.toNat
theorem W4.nat_val {x:W4}(h:x.ok):x.val=(x.nat:Int):=by
 have:=(W4.val_bd h).1;unfold W4.nat;omega
theorem W4.nat_lt {x:W4}(h:x.ok):x.nat<2^256:=by
 have:=W4.val_bd h;have e:(2:Nat)^256=115792089237316195423570985008687907853269984665640564039457584007913129639936:=rfl;unfold W4.nat;omega
def ofN (n:Nat):W4:=W4.of (n:Int)
theorem zO (n:Nat):(ofN n).ok:=W4.ok_of _
theorem Zbq {n:Nat}(h:n<2^256):(ofN n).nat=n:=by
 have e:(2:Nat)^256=115792089237316195423570985008687907853269984665640564039457584007913129639936:=rfl;unfold W4.nat ofN;rw[W4.val_of];omega
theorem ZdC {x:W4}(h:x.ok):ofN x.nat=x:=by
 unfold ofN;rw[← W4.nat_val h,W4.of_val h]
theorem Z1y (n:Int):W4.of (n % 115792089237316195423570985008687907853269984665640564039457584007913129639936)=W4.of n:=by
 unfold W4.of;refine W4.ext' ?_ ?_ ?_ ?_<;>dsimp only<;>omega
theorem Zh0 (n:Nat):ofN (n % 2^256)=ofN n:=by
 have e:(2:Nat)^256=115792089237316195423570985008687907853269984665640564039457584007913129639936:=rfl;unfold ofN;rw[← Z1y (n:Int),e];congr 1
theorem ZcB:ofN 0=⟨0,0,0,0⟩:=by rfl
theorem Zwk {n k:Nat}(h:256≤k):ofN (n*2^k)=⟨0,0,0,0⟩:=by
 rw[← Zh0];have:n*2^k % 2^256=0:=by
  obtain⟨j,rfl⟩:∃ j,k=j+256:=⟨k-256,by omega⟩;rw[Nat.pow_add,← Nat.mul_assoc,Nat.mul_mod_left]
 rw[this,ZcB]
theorem Zh1 (n k:Nat):ofN (n % 2^256*k)=ofN (n*k):=by
 rw[← Zh0 (n % 2^256*k),← Zh0 (n*k),Nat.mod_mul_mod]
theorem Zg9 {n k:Nat}(h:n<2^256) (hk:256≤k):n/2^k=0:=by
 have:=Nat.pow_le_pow_right (show 0<2 by omega) hk;exact Nat.div_eq_of_lt (by omega)
theorem Zng {n k:Nat}(h:n<2^256) (hk:256≤k):n % 2^k=n:=by
 have:=Nat.pow_le_pow_right (show 0<2 by omega) hk;exact Nat.mod_eq_of_lt (by omega)
theorem cast_pow (k:Nat):((2:Int)^k)=((2^k:Nat):Int):=by simp
def tw (x:W4) (b:Bool):Nat:=2*x.nat+(match b with | true=>1 | false=>0)
theorem Znh (x:W4) (b:Bool) (d:Nat):tw x b/2^(d+1)=x.nat/2^d:=by
 unfold tw;rw[Nat.pow_succ,Nat.mul_comm (2^d) 2,← Nat.div_div_eq_div_mul];congr 1;cases b<;>simp only<;>omega
theorem ZgA (x:W4) (b:Bool) (d:Nat):tw x b % 2^(d+1)=2*(x.nat % 2^d)+(match b with | true=>1 | false=>0):=by
 unfold tw;rw[Nat.pow_succ,Nat.mul_comm (2^d) 2,Nat.mod_mul];have e:(2*x.nat+(match b with | true=>1 | false=>0))/2=x.nat:=by cases b<;>simp only<;>omega
 rw[e];cases b<;>simp only<;>omega
theorem Zni {x:W4}{b:Bool}(h:x.ok):tw x b=0↔(eqW x ⟨0,0,0,0⟩ && !b)=true:=by
 have e:x.nat=0↔x=⟨0,0,0,0⟩:=by
  constructor
  ·intro h0;rw[← ZdC h,h0,ZcB]
  ·intro h0;rw[h0];rfl
 rw[Xh,ZfH,← e];unfold tw;cases b<;>simp<;>omega
theorem Zwl {x:W4}{d:Nat}(h:x.nat % 2^d=0):zD (tw x false % 2^(d+1)) (2^(d+1))=0:=by
 rw[ZgA,h];simp [zD]
theorem Zwm {x:W4}:zD (tw x true % 2^(0+1)) (2^(0+1))=2:=by
 rw[ZgA];simp [zD,Nat.mod_one]
theorem ZfJ (V j:Nat):V % 2^(j+1)=V % 2^j+2^j*(V/2^j % 2):=by rw[Nat.pow_succ,Nat.mod_mul]
theorem ZiH {x:W4}{b:Bool}{j:Nat}(h:x.nat/2^j % 2=0) (h0:x.nat % 2^(j+1)≠0∨b=true):zD (tw x b % 2^(j+1+1)) (2^(j+1+1))=1:=by
 have hp:0<2^j:=Nat.pow_pos (by omega);have hm:=ZfJ x.nat j;rw[h,Nat.mul_zero,Nat.add_zero] at hm;have hl:=Nat.mod_lt x.nat hp;rw[hm] at h0;rw[ZgA,hm,Nat.pow_succ,Nat.pow_succ];unfold zD;cases b
 ·simp only[Bool.false_eq_true,or_false] at*;rw[if_neg (by omega),if_pos (by omega)]
 ·simp only;rw[if_neg (by omega),if_pos (by omega)]
theorem ZfK {x:W4}{b:Bool}{j:Nat}(h:x.nat/2^j % 2=1) (h0:x.nat % 2^j≠0∨b=true):zD (tw x b % 2^(j+1+1)) (2^(j+1+1))=3:=by
 have hp:0<2^j:=Nat.pow_pos (by omega);have hm:=ZfJ x.nat j;rw[h,Nat.mul_one] at hm;rw[ZgA,hm,Nat.pow_succ,Nat.pow_succ];unfold zD;cases b
 ·simp only[Bool.false_eq_true,or_false] at*;rw[if_neg (by omega),if_neg (by omega),if_neg (by omega)]
 ·simp only;rw[if_neg (by omega),if_neg (by omega),if_neg (by omega)]
theorem Zwn {x:W4}{j:Nat}(h:x.nat/2^j % 2=1) (h0:x.nat % 2^j=0):zD (tw x false % 2^(j+1+1)) (2^(j+1+1))=2:=by
 have hp:0<2^j:=Nat.pow_pos (by omega);have hm:=ZfJ x.nat j;rw[h,h0,Nat.mul_one] at hm;rw[ZgA,hm,Nat.pow_succ,Nat.pow_succ];unfold zD;simp only;rw[if_neg (by omega),if_neg (by omega),if_pos (by omega)]
theorem ZqR {x:W4}(hx:x.ok) {j:Nat}(h:x.nat/2^j % 2=1):eqW x (ofN ((2*(x.nat/2^(j+1))+1)*2^j))=decide (x.nat % 2^j=0):=by
 have hl:=W4.nat_lt hx;have hm:=ZfJ x.nat j;rw[h,Nat.mul_one] at hm;have hd:=Nat.div_add_mod x.nat (2^(j+1));have e:(2*(x.nat/2^(j+1))+1)*2^j=x.nat-x.nat % 2^j:=by
  rw[Nat.pow_succ] at hd hm ⊢;rw[Nat.add_mul,Nat.one_mul,Nat.mul_comm 2,Nat.mul_assoc,Nat.mul_comm 2,Nat.mul_comm];omega
 rw[e,Bool.eq_iff_iff,ZfH,Xi];have hle:x.nat % 2^j≤x.nat:=Nat.mod_le _ _;constructor
 ·intro hh;have:=congrArg W4.nat hh;rw[Zbq (by omega)] at this;omega
 ·intro hh;rw[hh,Nat.sub_zero,ZdC hx]
end Go.Wd
namespace Go.Rn
open Go.Nt Go.Wd
theorem Zwo {k:Nat}(hk:300≤k):4*2^256≤2^k:=by
 obtain⟨j,rfl⟩:∃ j,k=256+(2+j):=⟨k-258,by omega⟩;have hj:0<2^j:=Nat.pow_pos (by omega);rw[Nat.pow_add,Nat.pow_add,Nat.mul_comm 4];refine Nat.mul_le_mul_left _ ?_;show 4≤4*2^j;omega
def mN (m:Int):Int:=if m<0 then 0 else if m>4 then 0 else m
theorem Zth (m:Int) (neg o:Bool) (c:Int):upR (mN m) neg o c=upR m neg o c:=by
 unfold mN;by_cases h0:m<0
 ·rw[if_pos h0];unfold upR;rw[if_neg (show ¬ m=2 by omega),if_neg (show ¬ m=3 by omega),if_neg (show ¬ m=4 by omega),if_neg (show ¬ m=1 by omega)];simp
 ·rw[if_neg h0];by_cases h4:m>4
  ·rw[if_pos h4];unfold upR;rw[if_neg (show ¬ m=2 by omega),if_neg (show ¬ m=3 by omega),if_neg (show ¬ m=4 by omega),if_neg (show ¬ m=1 by omega)];simp
  ·rw[if_neg h4]
theorem Zti (m:Int) (neg:Bool) (T:Nat) (E e:Int):toQ (mN m) neg T E e=toQ m neg T E e:=by
 unfold toQ rq;simp only[Zth]
def rT (x:W4) (b:Bool):Nat:=match b with | true=>2*x.nat+1 | false=>x.nat
def jB (b:Bool):Int:=match b with | true=>1 | false=>0
theorem Z64 {x:W4}(hx:x.ok) (b:Bool):rT x b<2*2^256:=by
 have:=W4.nat_lt hx;unfold rT;cases b<;>simp only<;>omega
theorem Z1z (m:Int) (neg:Bool) (T:Nat) (E:Int):rnP (mN m) neg T E=rnP m neg T E:=by
 unfold rnP p0 bey;simp only[Zti,Zth]
theorem Z10 (m:Int) (neg:Bool) (T:Nat) (E:Int):rnF (mN m) neg T E=rnF m neg T E:=by
 unfold rnF p0 ZdB;simp only[Zti]
theorem Z11 {m:Int}{neg:Bool}{T:Nat}{E:Int}(hT:T≠0) (h:1024≤lgN T E):9218868437227405312≤p0 m neg T E:=by
 have hq:=ZmX (m:=m) (neg:=neg) (T:=T) (E:=E) hT (by omega);have hl:z5 T E=lgN T E-52:=by unfold z5;rw[if_neg (by omega)]
 unfold p0;rw[hl] at hq ⊢;omega
theorem Zen {m:Int}{neg:Bool}{T:Nat}{E:Int}(hT:T≠0) (h:1024≤lgN T E):rnP m neg T E=bey m neg∧rnF m neg T E=20:=by
 have:=Z11 (m:=m) (neg:=neg) hT h;unfold rnP rnF;rw[if_neg hT,if_neg hT,if_pos this,if_pos this];exact⟨rfl,rfl⟩
theorem Zdt {m:Int}{neg:Bool}{T:Nat}{E:Int}(hT:T≠0) (h:lgN T E≤ -1100):rnP m neg T E=(if upR m neg false 1=true then 1 else 0)∧rnF m neg T E=24:=by
 have hb:=(bitLen_spec T).1;have hl:z5 T E= -1074:=by unfold z5;rw[if_pos (by omega)]
 have hE:¬ (-1074:Int)≤E:=by unfold lgN at h;have:=Za1 hT;omega
 have hk:bitLen T+2≤(-1074-E).toNat:=by unfold lgN at h;omega
 have hp:=Nat.pow_le_pow_right (show 0<2 by omega) hk;have e4:2^(bitLen T+2)=4*2^bitLen T:=by rw[Nat.pow_add,Nat.mul_comm]
 have hlt:2*T<2^(-1074-E).toNat:=by omega
 have hd:T/2^(-1074-E).toNat=0:=Nat.div_eq_of_lt (by omega);have hm:T % 2^(-1074-E).toNat=T:=Nat.mod_eq_of_lt (by omega);have hr:zD T (2^(-1074-E).toNat)=1:=by unfold zD;rw[if_neg hT,if_pos hlt]
 have hq:toQ m neg T E (-1074)=if upR m neg false 1=true then 1 else 0:=by
  unfold toQ rq;rw[if_neg hE,hd,hm,hr];have ho:odd 0=false:=rfl;rw[ho];simp
 have hL:toL T E (-1074)=true:=by unfold toL;rw[if_neg hE,hm];exact Xa hT
 have hti:ZdB m neg T E=true:=by unfold ZdB;rw[if_neg (by omega)];exact Xa (by omega)
 have hp0:p0 m neg T E=if upR m neg false 1=true then 1 else 0:=by
  unfold p0;rw[hl,hq];split<;>rfl
 unfold rnP rnF;rw[if_neg hT,if_neg hT,hp0,hl,hL,hti];split<;>simp
theorem Zfc {m:Int}{neg:Bool}{x:W4}(hx:x.ok) (b:Bool) {C D:Int}(h:(C=D)∨(1700≤C∧1700≤D)∨(C≤ -1700∧D≤ -1700)):rnP m neg (tw x b) (C-1)=rnP m neg (rT x b) (D-jB b)∧rnF m neg (tw x b) (C-1)=rnF m neg (rT x b) (D-jB b):=by
 have hj:0≤jB b∧jB b≤1:=by cases b<;>simp [jB]
 have e:rnP m neg (tw x b) (C-1)=rnP m neg (rT x b) (C-jB b)∧rnF m neg (tw x b) (C-1)=rnF m neg (rT x b) (C-jB b):=by
  cases b with
  | true=>exact⟨rfl,rfl⟩
  | false=>
   have e1:tw x false=x.nat*2^1:=by unfold tw;simp [Nat.mul_comm]
   rw[e1];simp only[rT,jB,Int.sub_zero];exact⟨ZaG m neg x.nat 1 C,ZaH m neg x.nat 1 C⟩
 rw[e.1,e.2];rcases h with h | h | h
 ·rw[h];exact⟨rfl,rfl⟩
 ·by_cases hT:rT x b=0
  ·rw[hT];unfold rnP rnF;simp
  ·have hl:=Za1 hT;obtain⟨a1,a2⟩:=Zen (m:=m) (neg:=neg) (E:=C-jB b) hT (by unfold lgN;omega);obtain⟨b1,b2⟩:=Zen (m:=m) (neg:=neg) (E:=D-jB b) hT (by unfold lgN;omega);rw[a1,a2,b1,b2];exact⟨rfl,rfl⟩
 ·by_cases hT:rT x b=0
  ·rw[hT];unfold rnP rnF;simp
  ·have hlt:=Z64 hx b;obtain⟨k,hk⟩:∃ k:Nat,k=300:=⟨300,rfl⟩;have hfp:=Zwo (show 300≤k by omega);have hl:bitLen (rT x b)≤k:=len_le (by omega);obtain⟨a1,a2⟩:=Zdt (m:=m) (neg:=neg) (E:=C-jB b) hT (by unfold lgN;omega);obtain⟨b1,b2⟩:=Zdt (m:=m) (neg:=neg) (E:=D-jB b) hT (by unfold lgN;omega);rw[a1,a2,b1,b2];exact⟨rfl,rfl⟩
theorem Z12 {q:Nat}(h0:4503599627370496≤q) (h1:q≤9007199254740992):bitLen q=if q=9007199254740992 then 54 else 53:=by
 split
 ·rename_i h;rw[h];exact Zbp (k:=53) (by decide) (by decide)
 ·exact Zbp (k:=52) h0 (show q<2^53 by have:(2:Nat)^53=9007199254740992:=rfl;omega)
theorem ZqS {m:Int}{neg:Bool}{T:Nat}{E:Int}(hT:T≠0):decide ((bitLen (toQ m neg T E (lgN T E-52)):Int)+(lgN T E+1)-53≤ -1022)=ZdB m neg T E:=by
 have h0:4503599627370496≤toQ m neg T E (lgN T E-52):=Ztc (n:=52) hT (by unfold lgN;omega);have h1:toQ m neg T E (lgN T E-52)≤9007199254740992:=ZiG (n:=53) (by unfold lgN;omega);have hl:=Z12 h0 h1;unfold ZdB;by_cases he:lgN T E= -1023
 ·have e:lgN T E-52= -1075:=by omega
  rw[e] at h0 h1 hl ⊢;rw[if_pos he,hl];congr 1;simp only[eq_iff_iff];split<;>omega
 ·rw[if_neg he,hl];congr 1;simp only[eq_iff_iff];split<;>omega
theorem ZqT {m:Int}{neg:Bool}{T:Nat}{E:Int}(hT:T≠0):decide ((bitLen (toQ m neg T E (z5 T E)):Int)+z5 T E>1024)=decide (9218868437227405312≤p0 m neg T E):=by
 have h1:=Zg8 m neg T E;have hle:=ZfG T E;congr 1;simp only[eq_iff_iff];unfold p0;by_cases hn:z5 T E= -1074
 ·have hl:bitLen (toQ m neg T E (z5 T E))≤54:=by
   have:toQ m neg T E (z5 T E)<2^54:=by have e:(2:Nat)^54=18014398509481984:=rfl;omega
   exact len_le this
  omega
 ·have h0:=ZmX (m:=m) (neg:=neg) (E:=E) hT (by unfold z5 at hn;split at hn<;>omega);have hl:=Z12 h0 h1;rw[hl];split<;>omega
def stk (A d:Nat):Nat:=2*(A/2^d)+(if A % 2^d=0 then 0 else 1)
theorem Zwp (A d:Nat):(if A % 2^d=0 then 0 else 1)≤1:=by split<;>omega
theorem Znj (A d j:Nat):stk A d/2^(j+1)=A/2^(d+j):=by
 have e:stk A d/2=A/2^d:=by unfold stk;split<;>omega
 rw[Nat.pow_succ,Nat.mul_comm,← Nat.div_div_eq_div_mul,e,Nat.div_div_eq_div_mul,Nat.pow_add]
theorem Znk (A d j:Nat):stk A d % 2^(j+1)=2*(A/2^d % 2^j)+(if A % 2^d=0 then 0 else 1):=by
 rw[Nat.pow_succ,Nat.mul_comm,Nat.mod_mul];have e:stk A d/2=A/2^d:=by unfold stk;split<;>omega
 rw[e];unfold stk;split<;>omega
theorem Znl (A d j:Nat):A % 2^(d+j)=A % 2^d+2^d*(A/2^d % 2^j):=by rw[Nat.pow_add,Nat.mod_mul]
theorem ZqU (A d j:Nat):stk A d % 2^(j+1)=0↔A % 2^(d+j)=0:=by
 have hD:0<2^d:=Nat.pow_pos (by omega);rw[Znk,Znl];generalize A/2^d % 2^j=r;constructor
 ·intro h;have h1:A % 2^d=0:=by
   by_cases h0:A % 2^d=0
   ·exact h0
   ·rw[if_neg h0] at h;omega
  rw[if_pos h1] at h;have:r=0:=by omega
  rw[h1,this];simp
 ·intro h;have h1:A % 2^d=0:=by omega
  rw[if_pos h1];have h2:2^d*r=0:=by omega
  rcases Nat.mul_eq_zero.1 h2 with h3 | h3
  ·omega
  ·rw[h3]
theorem Znm {r r' D Q s:Nat}(hD:r'<D) (hQ:0<Q) (hb:s≤1) (hs:s=0↔r'=0):zD (2*r+s) (4*Q)=zD (r'+D*r) (2*(D*Q)):=by
 have hDr:r≤D*r:=Nat.le_mul_of_pos_left r (by omega);unfold zD;by_cases h0:r'+D*r=0
 ·have:r'=0:=by omega
  have:=hs.2 this;rw[if_pos h0,if_pos (by omega)]
 ·have hz:¬ 2*r+s=0:=by
   intro h;apply h0;have h1:r=0:=by omega
   have h2:=hs.1 (by omega);rw[h1,h2];rfl
  rw[if_neg h0,if_neg hz];rcases Nat.lt_trichotomy r Q with h | h | h
  ·have h1:D*r+D≤D*Q:=by rw[← Nat.mul_succ];exact Nat.mul_le_mul_left D h
   rw[if_pos (by omega),if_pos (by omega)]
  ·subst h;by_cases hs0:s=0
   ·have:=hs.1 hs0;rw[if_neg (by omega),if_pos (by omega),if_neg (by omega),if_pos (by omega)]
   ·have:r'≠0:=fun h=>hs0 (hs.2 h);rw[if_neg (by omega),if_neg (by omega),if_neg (by omega),if_neg (by omega)]
  ·have h1:D*Q+D≤D*r:=by rw[← Nat.mul_succ];exact Nat.mul_le_mul_left D h
   rw[if_neg (by omega),if_neg (by omega),if_neg (by omega),if_neg (by omega)]
theorem ZqV (A d j:Nat):zD (stk A d % 2^(j+2)) (2^(j+2))=zD (A % 2^(d+(j+1))) (2^(d+(j+1))):=by
 have hD:0<2^d:=Nat.pow_pos (by omega);have hQ:0<2^j:=Nat.pow_pos (by omega);have eP:2^(j+1+1)=4*2^j:=by rw[Nat.pow_succ,Nat.pow_succ];omega
 have eP2:2^(d+(j+1))=2*(2^d*2^j):=by rw[Nat.pow_add,Nat.pow_succ,← Nat.mul_assoc];omega
 have e1:=Znk A d (j+1);have e2:=Znl A d (j+1);rw[show j+2=(j+1)+1 by omega,e1,e2,eP,eP2];exact Znm (Nat.mod_lt A hD) hQ (Zwp A d) (by split<;>omega)
theorem Z13 (m:Int) (neg:Bool) (A d j:Nat):rq m neg (stk A d) (j+2)=rq m neg A (d+(j+1)):=by
 unfold rq;rw[ZqV,show j+2=(j+1)+1 by omega,Znj]
theorem Zh2 (m:Int) (neg:Bool) (A d:Nat) {F e:Int}(h:F+d+1≤e):toQ m neg (stk A d) (F+d-1) e=toQ m neg A F e:=by
 obtain⟨j,hj⟩:∃ j:Nat,e=F+d+1+j:=⟨(e-(F+d+1)).toNat,by omega⟩;unfold toQ;rw[if_neg (by omega),if_neg (by omega),show (e-(F+d-1)).toNat=j+2 by omega,show (e-F).toNat=d+(j+1) by omega,Z13]
theorem Znn (A d:Nat) {F e:Int}(h:F+d+1≤e):toL (stk A d) (F+d-1) e=toL A F e:=by
 obtain⟨j,hj⟩:∃ j:Nat,e=F+d+1+j:=⟨(e-(F+d+1)).toNat,by omega⟩;unfold toL;rw[if_neg (by omega),if_neg (by omega),show (e-(F+d-1)).toNat=j+1+1 by omega,show (e-F).toNat=d+(j+1) by omega];congr 1;simp only[ne_eq,eq_iff_iff];exact not_congr (ZqU A d (j+1))
theorem Zno {A d:Nat}(h:A/2^d≠0):bitLen (stk A d)=bitLen (A/2^d)+1:=by
 have e:stk A d/2^1=A/2^d:=by
  have:=Znj A d 0;simpa using this
 rw[bitLen_shift (stk A d) 1 (by rw[e];exact h),e];omega
theorem Znp {A d:Nat}{F:Int}(h:A/2^d≠0):lgN (stk A d) (F+d-1)=lgN A F:=by
 have e:=bitLen_shift A d h;unfold lgN;rw[Zno h];omega
theorem ZcC {m:Int}{neg:Bool}{A d:Nat}{F:Int}(h:A % 2^d=0∨54≤bitLen (A/2^d)):rnP m neg (stk A d) (F+d-1)=rnP m neg A F∧rnF m neg (stk A d) (F+d-1)=rnF m neg A F:=by
 by_cases h0:A % 2^d=0
 ·have e1:stk A d=A/2^d*2^1:=by unfold stk;rw[if_pos h0];omega
  have e2:A=A/2^d*2^d:=by
   have:=Nat.div_add_mod A (2^d);rw[h0,Nat.mul_comm] at this;omega
  have p1:=ZaG m neg (A/2^d) 1 (F+d);have p2:=ZaG m neg (A/2^d) d (F+d);have f1:=ZaH m neg (A/2^d) 1 (F+d);have f2:=ZaH m neg (A/2^d) d (F+d);rw[show F+(d:Int)-((1:Nat):Int)=F+d-1 by omega,← e1] at p1 f1;rw[show F+(d:Int)-(d:Int)=F by omega,← e2] at p2 f2;exact⟨by rw[p1,p2],by rw[f1,f2]⟩
 ·have hb:54≤bitLen (A/2^d):=by exact h.resolve_left h0
  have hq:A/2^d≠0:=fun h=>by rw[h] at hb;simp [bitLen] at hb
  have hA:A≠0:=fun h=>h0 (by rw[h];simp);have hs:stk A d≠0:=by unfold stk;omega
  have hl:=Znp (F:=F) hq;have hlw:z5 (stk A d) (F+d-1)=z5 A F:=by unfold z5;rw[hl]
  have hlg:lgN A F=F+d+bitLen (A/2^d)-1:=by rw[← hl];unfold lgN;rw[Zno hq];omega
  have hge:F+d+1≤z5 A F:=by unfold z5;split<;>omega
  have hp:p0 m neg (stk A d) (F+d-1)=p0 m neg A F:=by unfold p0;rw[hlw,Zh2 m neg A d hge]
  have ht:ZdB m neg (stk A d) (F+d-1)=ZdB m neg A F:=by
   unfold ZdB;rw[hl];by_cases hn:lgN A F= -1023
   ·rw[if_pos hn,if_pos hn,Zh2 m neg A d (by omega)]
   ·rw[if_neg hn,if_neg hn]
  unfold rnP rnF;rw[if_neg hs,if_neg hA,if_neg hs,if_neg hA,hp,hlw,Znn A d hge,ht];exact⟨rfl,rfl⟩
end Go.Rn
namespace Go.Rn
open Go.Nt Go.Wd Go.Pt
def dvK (A B k:Nat):Nat:=2*(A*2^k/B)+(if A*2^k % B=0 then 0 else 1)
theorem Znq {A B:Nat}(k:Nat):A*2^k % (B*2^k)=A % B*2^k:=Nat.mul_mod_mul_right (2^k) A B
theorem Znr (A B k j:Nat):dvK A B (k+j)/2^(j+1)=A*2^k/B:=by
 have hp:0<2^j:=Nat.pow_pos (by omega);have e1:A*2^(k+j)/B/2^j=A*2^k/B:=by
  rw[Nat.div_div_eq_div_mul,Nat.pow_add,← Nat.mul_assoc,Nat.mul_div_mul_right _ _ hp]
 have:dvK A B (k+j)/2=A*2^(k+j)/B:=by unfold dvK;split<;>omega
 rw[Nat.pow_succ,Nat.mul_comm (2^j) 2,← Nat.div_div_eq_div_mul,this,e1]
theorem Zns (A B k j:Nat):stk (dvK A B (k+j)) (j+1)=dvK A B k:=by
 have hp:0<2^j:=Nat.pow_pos (by omega);have e1:A*2^(k+j)/B/2^j=A*2^k/B:=by
  rw[Nat.div_div_eq_div_mul,Nat.pow_add,← Nat.mul_assoc,Nat.mul_div_mul_right _ _ hp]
 have e2:=Znr A B k j;have e3:dvK A B (k+j) % 2^(j+1)=0↔A*2^k % B=0:=by
  have d2:dvK A B (k+j)/2=A*2^(k+j)/B:=by unfold dvK;split<;>omega
  have m2:dvK A B (k+j) % 2=if A*2^(k+j) % B=0 then 0 else 1:=by unfold dvK;split<;>omega
  rw[Nat.pow_succ,Nat.mul_comm (2^j) 2,Nat.mod_mul,d2,m2];have e:A*2^(k+j) % B+B*(A*2^(k+j)/B % 2^j)=A*2^k % B*2^j:=by
   rw[← Nat.mod_mul,← Znq,Nat.mul_assoc,← Nat.pow_add]
  constructor
  ·intro h;have h1:A*2^(k+j) % B=0:=by
    by_cases h0:A*2^(k+j) % B=0
    ·exact h0
    ·rw[if_neg h0] at h;omega
   have h2:A*2^(k+j)/B % 2^j=0:=by omega
   rw[h1,h2,Nat.mul_zero] at e;rcases Nat.mul_eq_zero.1 e.symm with h3 | h3
   ·exact h3
   ·omega
  ·intro h;rw[h,Nat.zero_mul] at e;have h1:A*2^(k+j) % B=0:=by omega
   rw[if_pos h1];rcases Nat.mul_eq_zero.1 (show B*(A*2^(k+j)/B % 2^j)=0 by omega) with h2 | h2
   ·rw[h2,Nat.div_zero,Nat.zero_mod]
   ·rw[h2]
 unfold stk;rw[e2];by_cases h:A*2^k % B=0
 ·rw[if_pos (e3.2 h)];unfold dvK;rw[if_pos h]
 ·rw[if_neg (fun h'=>h (e3.1 h'))];unfold dvK;rw[if_neg h]
end Go.Rn
namespace Go.Rd
def ZO (c b:Int):Int:=if 48≤c∧c≤57 then c-48 else if b=16∧97≤c∧c≤102 then c-87 else -1
theorem ZfL (c b:Int): -1≤ZO c b∧ZO c b<16:=by
 unfold ZO;split
 ·omega
 ·split<;>omega
theorem ZqW (c:Int):ZO c 10<10:=by
 unfold ZO;split
 ·omega
 ·rw[if_neg (by omega)];omega
def lq8 (c:UInt8):Int:=((c.toNat:Nat):Int)
def zf (b:Int) (l:List UInt8):Bool:=l.all fun c=>decide (0≤ZO (lq8 c) b)
def nmB (b:Int) (l:List UInt8):Nat:=l.foldl (fun a c=>a*b.toNat+(ZO (lq8 c) b).toNat) 0
def sc1 (b:Int):Bool→List UInt8→List UInt8×Nat×List UInt8
 | _,[]=>([],0,[])
 | p,c::l=>
  if lq8 c=46∧p=false then sc1 b true l
  else if 0≤ZO (lq8 c) b then (c::(sc1 b p l).1,(if p=true then 1 else 0)+(sc1 b p l).2.1,(sc1 b p l).2.2)
  else ([],0,c::l)
def pw1:Nat→List UInt8→Nat×Bool
 | a,[]=>(a,true)
 | a,c::l=>if 0≤ZO (lq8 c) 10 then pw1 (min (10*a+(ZO (lq8 c) 10).toNat) 2000000) l else (a,false)
def sgT:List UInt8→Bool×List UInt8
 | []=>(false,[])
 | c::r=>if lq8 c=45 then (true,r) else if lq8 c=43 then (false,r) else (false,c::r)
def scE (b:Int):List UInt8→Int×Bool
 | []=>(0,decide (b=10))
 | c::r=>
  if (b=10∧lq8 c≠101)∨(b=16∧lq8 c≠112) then (0,false)
  else if (sgT r).2=[] then (0,false)
  else if (pw1 0 (sgT r).2).2=false then (((pw1 0 (sgT r).2).1:Nat),false)
  else (if (sgT r).1=true then -((pw1 0 (sgT r).2).1:Nat) else ((pw1 0 (sgT r).2).1:Nat),true)
def scA (b:Int) (l:List UInt8):Int×Bool:=if (sc1 b false l).1=[] then (0,false) else scE b (sc1 b false l).2.2
theorem Zbr {l:List UInt8}{i:Nat}(h:i<l.length):l.drop i=l.getD i 0::l.drop (i+1):=by
 rw[List.getD_eq_getElem?_getD,List.getElem?_eq_getElem h,Option.getD_some];exact List.drop_eq_getElem_cons h
theorem Z14 (a:Nat) (l:List UInt8) (h:a≤2000000):(pw1 a l).1≤2000000:=by
 induction l generalizing a with
 | nil=>exact h
 | cons c l ih=>
  unfold pw1;split
  ·exact ih _ (by omega)
  ·exact h
theorem Z15 (b:Int) (r:List UInt8): -2000000≤(scE b r).1∧(scE b r).1≤2000000:=by
 unfold scE;split
 ·exact⟨show (-2000000:Int)≤0 by decide,show (0:Int)≤2000000 by decide⟩
 ·rename_i c r;have:=Z14 0 (sgT r).2 (by omega);split
  ·exact⟨by decide,by decide⟩
  ·split
   ·exact⟨by decide,by decide⟩
   ·split
    ·constructor<;>dsimp only<;>omega
    ·dsimp only;split<;>omega
theorem Zfd (b:Int) (p:Bool) (l:List UInt8):(sc1 b p l).1.length≤l.length∧(sc1 b p l).2.1≤(sc1 b p l).1.length∧zf b (sc1 b p l).1=true:=by
 induction l generalizing p with
 | nil=>exact⟨Nat.le_refl _,Nat.le_refl _,rfl⟩
 | cons c l ih=>
  unfold sc1;split
  ·obtain⟨h1,h2,h3⟩:=ih true;exact⟨by rw[List.length_cons];omega,h2,h3⟩
  ·split
   ·rename_i h;obtain⟨h1,h2,h3⟩:=ih p;refine⟨by dsimp only;rw[List.length_cons,List.length_cons];omega,by dsimp only;rw[List.length_cons];split<;>omega,?_⟩;show zf b (c::(sc1 b p l).1)=true;unfold zf at h3 ⊢;rw[List.all_cons,Xa h,h3];rfl
   ·exact⟨Nat.zero_le _,Nat.le_refl _,rfl⟩
theorem ZaP (b:Int) (l:List UInt8) (c:UInt8):nmB b (l++[c])=nmB b l*b.toNat+(ZO (lq8 c) b).toNat:=by
 unfold nmB;rw[List.foldl_append];rfl
theorem ZfM (b:Int) (l:List UInt8) {i:Nat}(h:i<l.length):nmB b (l.take (i+1))=nmB b (l.take i)*b.toNat+(ZO (lq8 (l.getD i 0)) b).toNat:=by
 rw[← ZaP];congr 1;rw[List.getD_eq_getElem?_getD,List.getElem?_eq_getElem h,Option.getD_some];exact (List.take_append_getElem h).symm
theorem Zdu {b:Int}(hb:b=10∨b=16) (l:List UInt8):nmB b l<b.toNat^l.length:=by
 have key:∀ (l:List UInt8) (k:Nat),l.length=k→nmB b l<b.toNat^k:=by
  intro l k
  induction k generalizing l with
  | zero=>
   intro h;rw[List.eq_nil_of_length_eq_zero h];exact Nat.one_pos
  | succ k ih=>
   intro h;have hne:l≠[]:=fun h0=>by rw[h0] at h;cases h
   obtain⟨l',c,rfl⟩:∃ l' c,l=l'++[c]:=⟨l.dropLast,l.getLast hne,(List.dropLast_concat_getLast hne).symm⟩;have h1:=ih l' (by simpa using h);rw[ZaP,Nat.pow_succ];have hd:(ZO (lq8 c) b).toNat<b.toNat:=by
    rcases hb with rfl | rfl
    ·have:=ZqW (lq8 c);omega
    ·have:=(ZfL (lq8 c) 16).2;omega
   calc nmB b l'*b.toNat+(ZO (lq8 c) b).toNat<nmB b l'*b.toNat+b.toNat:=by omega
    _=(nmB b l'+1)*b.toNat:=by rw[Nat.add_mul,Nat.one_mul]
    _≤b.toNat^k*b.toNat:=Nat.mul_le_mul_right _ h1
 exact key l l.length rfl
open Go.Rn
def trZ (l:List UInt8):List UInt8:=l.dropWhile fun c=>lq8 c==48
def upN (A B:Nat):Nat:=((bitLen B:Int)-(bitLen A:Int)+80).toNat
def dnA (b:Int) (l:List UInt8) (k P:Int):Nat×Int:=
 if b=16 then (nmB 16 l,P-4*k)
 else if 320<P-k+(l.length:Nat) then (1,3000)
 else if P-k+(l.length:Nat)< -340 then (1,-3000)
 else if 0≤P-k then (nmB 10 l*10^(P-k).toNat,0)
 else (dvK (nmB 10 l) (10^(k-P).toNat) (upN (nmB 10 l) (10^(k-P).toNat)),-((upN (nmB 10 l) (10^(k-P).toNat):Nat):Int)-1)
theorem Ztj {A B:Nat}(hA:A≠0):2^79*B≤A*2^upN A B:=by
 have h1:=(bitLen_spec A).2 hA;have h2:=(bitLen_spec B).1;have h3:=Za1 hA;have h4:bitLen B+80≤upN A B+bitLen A:=by unfold upN;omega
 refine Nat.le_trans (Nat.mul_le_mul_left _ (Nat.le_of_lt h2)) ?_;rw[← Nat.pow_add];refine Nat.le_trans (Nat.pow_le_pow_right (by omega) (show 79+bitLen B≤(bitLen A-1)+upN A B by omega)) ?_;rw[Nat.pow_add];exact Nat.mul_le_mul_right _ h1
theorem ZdD (j:Nat):(10:Nat)^j<2^(4*j+1):=by
 have h1:(10:Nat)^j≤16^j:=Nat.pow_le_pow_left (by omega) j;have h2:(16:Nat)^j=2^(4*j):=by rw[Nat.pow_mul]
 have h3:(2:Nat)^(4*j)<2^(4*j+1):=Nat.pow_lt_pow_right (by omega) (by omega);omega
theorem Zeo {b:Int}(hb:b=10∨b=16) (l:List UInt8):nmB b l<2^(4*l.length):=by
 refine Nat.lt_of_lt_of_le (Zdu hb l) ?_;have h1:b.toNat^l.length≤16^l.length:=Nat.pow_le_pow_left (by omega) _;have h2:(16:Nat)^l.length=2^(4*l.length):=by rw[Nat.pow_mul]
 omega
theorem ZcD {b:Int}{l:List UInt8}(h:zf b l=true):zf b (trZ l)=true:=by
 unfold zf at*;rw[List.all_eq_true] at*;exact fun x hx=>h x ((List.dropWhile_sublist _).subset hx)
theorem Zdj (l:List UInt8):(trZ l).length≤l.length:=(List.dropWhile_sublist _).length_le
theorem ZcE {c:UInt8}{l:List UInt8}:trZ (c::l)=if lq8 c=48 then trZ l else c::l:=by
 unfold trZ;rw[List.dropWhile_cons];by_cases h:lq8 c=48<;>simp [h]
theorem ZaQ {b:Int}{l r:List UInt8}{c:UInt8}(h:zf b l=true) (he:trZ l=c::r):0<ZO (lq8 c) b:=by
 have h1:=ZcD h;rw[he] at h1;unfold zf at h1;rw[List.all_cons,Xh] at h1;have h2:=Xc h1.1;have h3:lq8 c≠48:=by
  intro h4;clear h h1
  induction l with
  | nil=>cases he
  | cons x l ih=>
   rw[ZcE] at he;by_cases hx:lq8 x=48
   ·rw[if_pos hx] at he;exact ih he
   ·rw[if_neg hx] at he;cases he;exact hx h4
 unfold ZO at*;split
 ·omega
 ·rename_i h5;rw[if_neg h5] at h2;split
  ·omega
  ·rename_i h6;rw[if_neg h6] at h2;omega
theorem Zbs {b:Int}(hb:b=10∨b=16) {c:UInt8}{r:List UInt8}(h:0<ZO (lq8 c) b):0<nmB b (c::r):=by
 have key:∀ (r:List UInt8) (a:Nat),0<a→0<r.foldl (fun a c=>a*b.toNat+(ZO (lq8 c) b).toNat) a:=by
  intro r
  induction r with
  | nil=>intro a h;exact h
  | cons x r ih=>
   intro a h;refine ih _ ?_;exact Nat.lt_of_lt_of_le (Nat.mul_pos h (by omega)) (Nat.le_add_right _ _)
 unfold nmB;rw[List.foldl_cons];exact key r _ (by rw[Nat.zero_mul];omega)
def rdB (u:List UInt8):Int×List UInt8:=if 1<u.length∧u.take 2=[48,120] then (16,u.drop 2) else (10,u)
def rdQ (m:Int) (n:Bool) (b:Int) (v:List UInt8):Int×Int×Int:=
 if (scA b v).2=false then (0,0,3)
 else if trZ (sc1 b false v).1=[] then (if n=true then 9223372036854775808 else 0,0,0)
 else (if n=true then 9223372036854775808+rnP m n (dnA b (trZ (sc1 b false v).1) ((sc1 b false v).2.1:Nat) (scA b v).1).1 (dnA b (trZ (sc1 b false v).1) ((sc1 b false v).2.1:Nat) (scA b v).1).2 else rnP m n (dnA b (trZ (sc1 b false v).1) ((sc1 b false v).2.1:Nat) (scA b v).1).1 (dnA b (trZ (sc1 b false v).1) ((sc1 b false v).2.1:Nat) (scA b v).1).2,rnF m n (dnA b (trZ (sc1 b false v).1) ((sc1 b false v).2.1:Nat) (scA b v).1).1 (dnA b (trZ (sc1 b false v).1) ((sc1 b false v).2.1:Nat) (scA b v).1).2,0)
def rdP (m:Int) (l:List UInt8):Int×Int×Int:=
 if 65536<l.length then (0,0,2)
 else if (sgT l).2=[110,97,110] then (9221120237041090560,0,0)
 else if (sgT l).2=[105,110,102] then (if (sgT l).1=true then 18442240474082181120 else 9218868437227405312,0,0)
 else rdQ m (sgT l).1 (rdB (sgT l).2).1 (rdB (sgT l).2).2
theorem Z16 (b:Int) (hb:b=10∨b=16) (l:List UInt8) (h:l.length≤10000) (k P:Int) (hk:0≤k∧k≤10000) (hP: -2000000≤P∧P≤2000000):(dnA b l k P).1<2^(16*5625)∧ -4000000≤(dnA b l k P).2∧(dnA b l k P).2≤4000000:=by
 obtain⟨J,hJ⟩:∃ J,J=16*5625:=⟨_,rfl⟩;rw[← hJ];have hn:=Zeo hb l;have pb:∀ {j:Nat},j≤J→(2:Nat)^j≤2^J:=fun h=>Nat.pow_le_pow_right (by omega) h;unfold dnA;by_cases h16:b=16
 ·rw[if_pos h16];rw[h16] at hn;exact⟨Nat.lt_of_lt_of_le hn (pb (by omega)),by dsimp only;omega,by dsimp only;omega⟩
 rw[if_neg h16];have h10:b=10:=by omega
 rw[h10] at hn;have one:(1:Nat)<2^J:=Nat.one_lt_two_pow (by omega);split
 ·exact⟨one,by dsimp only;omega,by dsimp only;omega⟩
 split
 ·exact⟨one,by dsimp only;omega,by dsimp only;omega⟩
 rename_i h1 h2;split
 ·have tb:=ZdD (P-k).toNat;refine⟨?_,by dsimp only;omega,by dsimp only;omega⟩;dsimp only;refine Nat.lt_of_lt_of_le (Nat.mul_lt_mul'' hn tb) ?_;rw[← Nat.pow_add];exact pb (by omega)
 ·have tb:=ZdD (k-P).toNat;have bA:=len_le hn;have bB:=len_le tb;have hu:upN (nmB 10 l) (10^(k-P).toNat)≤41600:=by unfold upN;omega
  refine⟨?_,by dsimp only;omega,by dsimp only;omega⟩;dsimp only;unfold dvK;have h3:=Nat.div_le_self (nmB 10 l*2^upN (nmB 10 l) (10^(k-P).toNat)) (10^(k-P).toNat);have h4:nmB 10 l*2^upN (nmB 10 l) (10^(k-P).toNat)<2^(4*l.length+upN (nmB 10 l) (10^(k-P).toNat)):=by
   rw[Nat.pow_add];exact Nat.mul_lt_mul_of_pos_right hn (Nat.pow_pos (by omega))
  have h5:(2:Nat)^(4*l.length+upN (nmB 10 l) (10^(k-P).toNat))*4≤2^J:=by
   rw[show (4:Nat)=2^2 from rfl,← Nat.pow_add];exact pb (by omega)
  refine Nat.lt_of_lt_of_le ?_ h5;split<;>omega
end Go.Rd
namespace Go.Rd
open Go.Rn
theorem ZiI {m E:Int}{n:Bool}{A B k:Nat}(j:Nat) (h:54≤bitLen (A*2^k/B)):rnP m n (dvK A B k) (E+j)=rnP m n (dvK A B (k+j)) E∧rnF m n (dvK A B k) (E+j)=rnF m n (dvK A B (k+j)) E:=by
 have r:=ZcC (m:=m) (neg:=n) (A:=dvK A B (k+j)) (d:=j+1) (F:=E) (.inr (by rw[Znr];exact h));rw[Zns,show E+((j+1:Nat):Int)-1=E+(j:Int) by omega] at r;exact r
theorem Zwq {m:Int}{n:Bool}{A B k j:Nat}(h:54≤bitLen (A*2^k/B)) (h':54≤bitLen (A*2^j/B)):rnP m n (dvK A B k) (-(k:Int)-1)=rnP m n (dvK A B j) (-(j:Int)-1)∧rnF m n (dvK A B k) (-(k:Int)-1)=rnF m n (dvK A B j) (-(j:Int)-1):=by
 rcases Nat.le_total k j with hk | hk
 ·have r:=ZiI (m:=m) (n:=n) (E:= -(j:Int)-1) (j-k) h;rw[show k+(j-k)=j by omega,show -(j:Int)-1+((j-k:Nat):Int)= -(k:Int)-1 by omega] at r;exact r
 ·have r:=ZiI (m:=m) (n:=n) (E:= -(k:Int)-1) (k-j) h';rw[show j+(k-j)=k by omega,show -(k:Int)-1+((k-j:Nat):Int)= -(j:Int)-1 by omega] at r;exact⟨r.1.symm,r.2.symm⟩
theorem ZcF {A B:Nat}(hA:A≠0) (hB:B≠0):80≤bitLen (A*2^upN A B/B):=by
 refine Zc9 (k:=79) ?_;rw[Nat.le_div_iff_mul_le (by omega)];exact Ztj hA
def rqP (m:Int) (n:Bool) (A B:Nat):Int:=rnP m n (dvK A B (upN A B)) (-((upN A B:Nat):Int)-1)
def rqF (m:Int) (n:Bool) (A B:Nat):Int:=rnF m n (dvK A B (upN A B)) (-((upN A B:Nat):Int)-1)
theorem Znt {m:Int}{n:Bool}{A B k:Nat}(hA:A≠0) (hB:B≠0) (h:54≤bitLen (A*2^k/B)):rnP m n (dvK A B k) (-(k:Int)-1)=rqP m n A B∧rnF m n (dvK A B k) (-(k:Int)-1)=rqF m n A B:=
 Zwq h (Nat.le_trans (by omega) (ZcF hA hB))
theorem Znu {A B c:Nat}(hc:0<c) (k:Nat):dvK (A*c) (B*c) k=dvK A B k:=by
 unfold dvK;have e:A*c*2^k=A*2^k*c:=by rw[Nat.mul_assoc,Nat.mul_comm c,← Nat.mul_assoc]
 rw[e,Nat.mul_div_mul_right _ _ hc,Nat.mul_mod_mul_right];by_cases h:A*2^k % B=0
 ·rw[if_pos h,if_pos (by rw[h,Nat.zero_mul])]
 ·rw[if_neg h,if_neg (fun h'=>h ((Nat.mul_eq_zero.1 h').resolve_right (by omega)))]
theorem Znv {m:Int}{n:Bool}{A B c:Nat}(hA:A≠0) (hB:B≠0) (hc:0<c):rqP m n (A*c) (B*c)=rqP m n A B∧rqF m n (A*c) (B*c)=rqF m n A B:=by
 have hA':A*c≠0:=fun h=>(Nat.mul_eq_zero.1 h).elim hA (by omega);have hB':B*c≠0:=fun h=>(Nat.mul_eq_zero.1 h).elim hB (by omega);have h:=ZcF hA hB;have e:A*c*2^upN A B/(B*c)=A*2^upN A B/B:=by rw[Nat.mul_assoc,Nat.mul_comm c,← Nat.mul_assoc,Nat.mul_div_mul_right _ _ hc]
 obtain⟨r1,r2⟩:=Znt (m:=m) (n:=n) (k:=upN A B) hA' hB' (by rw[e];omega);rw[Znu hc] at r1 r2;exact⟨r1.symm,r2.symm⟩
theorem Ztk (m:Int) (n:Bool) (A:Nat):rqP m n A 1=rnP m n A 0∧rqF m n A 1=rnF m n A 0:=by
 have e:dvK A 1 (upN A 1)=A*2^(upN A 1+1):=by
  unfold dvK;rw[Nat.div_one,Nat.mod_one,if_pos rfl,Nat.add_zero,Nat.pow_succ,Nat.mul_comm 2,Nat.mul_assoc]
 have p:=ZaG m n A (upN A 1+1) 0;have f:=ZaH m n A (upN A 1+1) 0;rw[show (0:Int)-((upN A 1+1:Nat):Int)= -((upN A 1:Nat):Int)-1 by omega] at p f;unfold rqP rqF;rw[e];exact⟨p,f⟩
theorem Zwr {A B k:Nat}(h:A*2^k/B≠0):lgN (dvK A B k) (-(k:Int)-1)=(bitLen (A*2^k/B):Int)-1-k:=by
 have e:bitLen (dvK A B k)=bitLen (A*2^k/B)+1:=by
  have h1:=(bitLen_spec (A*2^k/B)).1;have h2:=(bitLen_spec (A*2^k/B)).2 h;have h3:=Za1 h;have e1:2^bitLen (A*2^k/B)=2^(bitLen (A*2^k/B)-1)*2:=by rw[← Nat.pow_succ];congr 1;omega
  refine Zbp (k:=bitLen (A*2^k/B)) ?_ ?_
  ·unfold dvK;split<;>omega
  ·rw[Nat.pow_succ];unfold dvK;split<;>omega
 unfold lgN;rw[e];omega
theorem Z17 {m:Int}{n:Bool}{A B J:Nat}(hA:A≠0) (hB:B≠0) (hJ:1024≤J) (h:B*2^J≤A):rqP m n A B=bey m n∧rqF m n A B=20:=by
 have hb:=ZcF hA hB;have hq:A*2^upN A B/B≠0:=fun h0=>by rw[h0] at hb;exact absurd hb (by decide)
 have hT:dvK A B (upN A B)≠0:=fun h0=>by
  unfold dvK at h0;omega
 refine Zen hT ?_;rw[Zwr hq];have h1:2^(J+upN A B)≤A*2^upN A B/B:=by
  rw[Nat.le_div_iff_mul_le (by omega),Nat.pow_add,Nat.mul_comm,← Nat.mul_assoc];exact Nat.mul_le_mul_right _ h
 have:=Zc9 h1;omega
theorem Z18 {m:Int}{n:Bool}{A B J:Nat}(hA:A≠0) (hB:B≠0) (hJ:1099≤J) (h:A*2^J<B):rqP m n A B=rnP m n 1 (-3000)∧rqF m n A B=rnF m n 1 (-3000):=by
 have hb:=ZcF hA hB;have hq:A*2^upN A B/B≠0:=fun h0=>by rw[h0] at hb;exact absurd hb (by decide)
 have hT:dvK A B (upN A B)≠0:=fun h0=>by
  unfold dvK at h0;omega
 have hu:J≤upN A B:=by
  have h1:bitLen A+J≤bitLen B:=by
   have:=Zc9 (T:=B) (k:=bitLen A-1+J) (by
    rw[Nat.pow_add];exact Nat.le_of_lt (Nat.lt_of_le_of_lt (Nat.mul_le_mul_right _ ((bitLen_spec A).2 hA)) h))
   have:=Za1 hA;omega
  unfold upN;omega
 have h1:A*2^upN A B/B<2^(upN A B-J):=by
  rw[Nat.div_lt_iff_lt_mul (by omega)];have e:2^upN A B=2^J*2^(upN A B-J):=by rw[← Nat.pow_add];congr 1;omega
  rw[e,← Nat.mul_assoc,Nat.mul_comm (2^(upN A B-J))];exact Nat.mul_lt_mul_of_pos_right h (Nat.pow_pos (by omega))
 have h2:=len_le h1;have l1:bitLen 1=1:=Zbp (k:=0) (by decide) (by decide);obtain⟨a1,a2⟩:=Zdt (m:=m) (neg:=n) hT (by rw[Zwr hq];omega);obtain⟨b1,b2⟩:=Zdt (m:=m) (neg:=n) (T:=1) (E:= -3000) (by decide) (by unfold lgN;rw[l1];decide);exact⟨a1.trans b1.symm,a2.trans b2.symm⟩
theorem Zh3 {e J i:Nat}(h1:28*i≤e) (h2:J≤93*i):2^J≤10^e:=by
 have h:(2:Nat)^93≤10^28:=by decide
 have h3:((2:Nat)^93)^i≤(10^28)^i:=Nat.pow_le_pow_left h i;rw[← Nat.pow_mul,← Nat.pow_mul] at h3;exact Nat.le_trans (Nat.pow_le_pow_right (by omega) h2) (Nat.le_trans h3 (Nat.pow_le_pow_right (by omega) h1))
def deP (m:Int) (n:Bool) (A:Nat) (j:Int):Int:=rqP m n (A*10^j.toNat) (10^(-j).toNat)
def deF (m:Int) (n:Bool) (A:Nat) (j:Int):Int:=rqF m n (A*10^j.toNat) (10^(-j).toNat)
theorem ZbO (j:Nat):10^j≠0:=fun h=>by have:=Nat.pow_pos (n:=j) (show 0<10 by omega);omega
theorem ZgB {A B:Nat}(hA:A≠0) (hB:B≠0):A*B≠0:=fun h=>(Nat.mul_eq_zero.1 h).elim hA hB
theorem ZqX (m:Int) (n:Bool) {A:Nat}(hA:A≠0) (c:Nat) (j:Int):deP m n (A*10^c) (j-c)=deP m n A j∧deF m n (A*10^c) (j-c)=deF m n A j:=by
 obtain⟨d,hd⟩:∃ d:Nat,(-(j-c)).toNat=(-j).toNat+d∧c+(j-c).toNat=j.toNat+d:=⟨(-(j-c)).toNat-(-j).toNat,by omega,by omega⟩;have e1:A*10^c*10^(j-c).toNat=A*10^j.toNat*10^d:=by rw[Nat.mul_assoc,← Nat.pow_add,hd.2,Nat.pow_add,Nat.mul_assoc]
 unfold deP deF;rw[e1,hd.1,Nat.pow_add];exact Znv (ZgB hA (ZbO _)) (ZbO _) (Nat.pow_pos (by omega))
theorem Znw (m:Int) (n:Bool) {A L:Nat}{j:Int}(h:10^L≤A) (hj:309≤j+(L:Int)):deP m n A j=bey m n∧deF m n A j=20:=by
 have hA:A≠0:=fun h0=>by rw[h0] at h;exact ZbO L (Nat.le_zero.1 h)
 obtain⟨e,he⟩:∃ e:Nat,e+(-j).toNat=L+j.toNat∧309≤e:=⟨L+j.toNat-(-j).toNat,by omega,by omega⟩;obtain⟨J,hJ⟩:∃ J,J=1023:=⟨_,rfl⟩;obtain⟨E,hE⟩:∃ E,E=308:=⟨_,rfl⟩;have h2:2^(J+1)≤10^e:=by
  have h3:=Zh3 (e:=E) (J:=J) (i:=11) (by omega) (by omega);refine Nat.le_trans ?_ (Nat.pow_le_pow_right (by omega) (show E+1≤e by omega));rw[Nat.pow_succ,Nat.pow_succ];omega
 refine Z17 (J:=J+1) (ZgB hA (ZbO _)) (ZbO _) (by omega) ?_;refine Nat.le_trans (Nat.mul_le_mul_left _ h2) ?_;rw[← Nat.pow_add,Nat.add_comm,he.1,Nat.pow_add];exact Nat.mul_le_mul_right _ h
theorem Znx (m:Int) (n:Bool) {A L:Nat}{j:Int}(hA:A≠0) (h:A<10^L) (hj:j+(L:Int)≤ -336):deP m n A j=rnP m n 1 (-3000)∧deF m n A j=rnF m n 1 (-3000):=by
 obtain⟨e,he⟩:∃ e:Nat,L+e=(-j).toNat∧336≤e:=⟨(-j).toNat-L,by omega,by omega⟩;obtain⟨J,hJ⟩:∃ J,J=1099:=⟨_,rfl⟩;have h2:2^J≤10^e:=Zh3 (i:=12) (by omega) (by omega);have hz:j.toNat=0:=by omega
 unfold deP deF;rw[hz,Nat.pow_zero,Nat.mul_one];refine Z18 (J:=J) hA (ZbO _) (by omega) ?_;rw[← he.1,Nat.pow_add];exact Nat.lt_of_lt_of_le (Nat.mul_lt_mul_of_pos_right h (Nat.pow_pos (by omega))) (Nat.mul_le_mul_left _ h2)
theorem ZgC {b:Int}{c:UInt8}{r:List UInt8}(h:0<ZO (lq8 c) b):b.toNat^r.length≤nmB b (c::r):=by
 have key:∀ (r:List UInt8) (a:Nat),a*b.toNat^r.length≤r.foldl (fun a c=>a*b.toNat+(ZO (lq8 c) b).toNat) a:=by
  intro r
  induction r with
  | nil=>intro a;simp
  | cons x r ih=>
   intro a;rw[List.length_cons,Nat.pow_succ,Nat.mul_comm (b.toNat^r.length),← Nat.mul_assoc,List.foldl_cons];exact Nat.le_trans (Nat.mul_le_mul_right _ (Nat.le_add_right _ _)) (ih _)
 unfold nmB;rw[List.foldl_cons];refine Nat.le_trans ?_ (key r _);exact Nat.le_mul_of_pos_left _ (by rw[Nat.zero_mul];omega)
theorem Z19 (m:Int) (n:Bool) {c:UInt8}{r:List UInt8}{k P:Int}(h:0<ZO (lq8 c) 10):rnP m n (dnA 10 (c::r) k P).1 (dnA 10 (c::r) k P).2=deP m n (nmB 10 (c::r)) (P-k)∧rnF m n (dnA 10 (c::r) k P).1 (dnA 10 (c::r) k P).2=deF m n (nmB 10 (c::r)) (P-k):=by
 have hp:=Zbs (b:=10) (.inl rfl) (r:=r) h;have hg:=ZgC (b:=10) (r:=r) h;have hl:=Zdu (b:=10) (.inl rfl) (c::r);have e10:(10:Int).toNat=10:=rfl;rw[e10] at hg hl;have l1:bitLen 1=1:=Zbp (k:=0) (by decide) (by decide);unfold dnA;rw[if_neg (by decide)];split
 ·rename_i h1;rw[List.length_cons] at h1;obtain⟨d1,d2⟩:=Znw m n (j:=P-k) hg (by omega);obtain⟨b1,b2⟩:=Zen (m:=m) (neg:=n) (T:=1) (E:=3000) (by decide) (by unfold lgN;rw[l1];decide);exact⟨b1.trans d1.symm,b2.trans d2.symm⟩
 split
 ·rename_i h1 h2;obtain⟨d1,d2⟩:=Znx m n (j:=P-k) (by omega) hl (by omega);exact⟨d1.symm,d2.symm⟩
 split
 ·rename_i h3;have hz:(-(P-k)).toNat=0:=by omega
  obtain⟨q1,q2⟩:=Ztk m n (nmB 10 (c::r)*10^(P-k).toNat);unfold deP deF;rw[hz,Nat.pow_zero];exact⟨q1.symm,q2.symm⟩
 ·rename_i h3;have hz:(P-k).toNat=0:=by omega
  have e:(-(P-k)).toNat=(k-P).toNat:=by omega
  unfold deP deF rqP rqF;rw[hz,e,Nat.pow_zero,Nat.mul_one];exact⟨rfl,rfl⟩
theorem ZqY {m:Int}{neg:Bool}{A d:Nat}{F:Int}(hA:A≠0) (h1:F+d+1≤ -1074) (h2:lgN A F≤ -1024):rnP m neg (stk A d) (F+d-1)=rnP m neg A F∧rnF m neg (stk A d) (F+d-1)=rnF m neg A F:=by
 have hp:0<2^d:=Nat.pow_pos (by omega);have hdm:=Nat.div_add_mod A (2^d);have hs:stk A d≠0:=by
  unfold stk;intro h;have hq:A/2^d=0:=by omega
  rw[hq,Nat.mul_zero,Nat.zero_add] at hdm;rw[hdm,if_neg hA] at h;omega
 have hl:lgN (stk A d) (F+d-1)≤ -1024:=by
  by_cases hq:A/2^d=0
  ·have h3:stk A d<2^1:=by unfold stk;rw[hq];split<;>omega
   have:=len_le h3;unfold lgN;omega
  ·rw[Znp hq];exact h2
 have l1:z5 (stk A d) (F+d-1)= -1074:=by unfold z5;rw[if_pos (by omega)]
 have l2:z5 A F= -1074:=by unfold z5;rw[if_pos (by omega)]
 have e1:p0 m neg (stk A d) (F+d-1)=p0 m neg A F:=by unfold p0;rw[l1,l2,Zh2 m neg A d h1]
 have e2:ZdB m neg (stk A d) (F+d-1)=ZdB m neg A F:=by
  unfold ZdB;rw[if_neg (by omega),if_neg (by omega),Xa (show lgN (stk A d) (F+d-1)< -1022 by omega),Xa (show lgN A F< -1022 by omega)]
 unfold rnP rnF;rw[if_neg hs,if_neg hA,if_neg hs,if_neg hA,e1,l1,l2,Znn A d h1,e2];exact⟨rfl,rfl⟩
theorem Z1A {A B J:Nat}(hA:A≠0) (h:A*2^J<B):J+80≤upN A B:=by
 have h1:bitLen A+J≤bitLen B:=by
  have:=Zc9 (T:=B) (k:=bitLen A-1+J) (by
   rw[Nat.pow_add];exact Nat.le_of_lt (Nat.lt_of_le_of_lt (Nat.mul_le_mul_right _ ((bitLen_spec A).2 hA)) h))
  have:=Za1 hA;omega
 unfold upN;omega
theorem Zws {m:Int}{n:Bool}{A B J K:Nat}(hA:A≠0) (hB:B≠0) (hJ:J=1023) (hK:K=1075) (h:A*2^J<B):rnP m n (dvK A B K) (-(K:Int)-1)=rqP m n A B∧rnF m n (dvK A B K) (-(K:Int)-1)=rqF m n A B:=by
 have hu:=Z1A hA h;have hb:=ZcF hA hB;have hq:A*2^upN A B/B≠0:=fun h0=>by rw[h0] at hb;exact absurd hb (by decide)
 have hT:dvK A B (upN A B)≠0:=fun h0=>by
  unfold dvK at h0;omega
 have h1:A*2^upN A B/B<2^(upN A B-J):=by
  rw[Nat.div_lt_iff_lt_mul (by omega)];have e:2^upN A B=2^J*2^(upN A B-J):=by rw[← Nat.pow_add];congr 1;omega
  rw[e,← Nat.mul_assoc,Nat.mul_comm (2^(upN A B-J))];exact Nat.mul_lt_mul_of_pos_right h (Nat.pow_pos (by omega))
 have h2:=len_le h1;have h3:=Zwr hq;obtain⟨j,hj⟩:∃ j,upN A B=K+j:=⟨upN A B-K,by omega⟩;unfold rqP rqF;rw[hj] at hT h3 h2 ⊢;have r:=ZqY (m:=m) (neg:=n) (A:=dvK A B (K+j)) (d:=j+1) (F:= -((K+j:Nat):Int)-1) hT (by omega) (by omega);rw[Zns,show -((K+j:Nat):Int)-1+((j+1:Nat):Int)-1= -(K:Int)-1 by omega] at r;exact r
theorem Ztl {q C r G k:Nat}(h0:0<r) (h1:r<C) (hk:k≤G):dvK (q*C+r) (10^G*C) k=2*(q*2^k/10^G)+1:=by
 have hC:0<C:=by omega
 have h2:0<2^k:=Nat.pow_pos (by omega);obtain⟨H,hH⟩:∃ H,10^G=H*2^k:=⟨2^(G-k)*5^G,by
  rw[show (10:Nat)=2*5 from rfl,Nat.mul_pow,Nat.mul_assoc,Nat.mul_comm (5^G),← Nat.mul_assoc,← Nat.pow_add,show G-k+k=G by omega]⟩
 have e1:10^G*C=C*H*2^k:=by rw[hH,Nat.mul_comm,Nat.mul_assoc]
 have e2:(q*C+r)/C=q:=by rw[Nat.mul_comm,Nat.mul_add_div hC,Nat.div_eq_of_lt h1,Nat.add_zero]
 have e3:(q*C+r) % C=r:=by rw[Nat.mul_comm,Nat.mul_add_mod,Nat.mod_eq_of_lt h1]
 have e4:(q*C+r) % (C*H)≠0:=fun h=>by
  have h3:C ∣ q*C+r:=Nat.dvd_trans ⟨H,rfl⟩ (Nat.dvd_of_mod_eq_zero h);have:=Nat.mod_eq_zero_of_dvd h3;omega
 unfold dvK;rw[e1,Nat.mul_div_mul_right _ _ h2,Nat.mul_mod_mul_right,← Nat.div_div_eq_div_mul,e2,hH,Nat.mul_div_mul_right _ _ h2,if_neg (fun h=>(Nat.mul_eq_zero.1 h).elim e4 (by omega))]
theorem Ztm {m:Int}{n:Bool}{q C r C' r' G k:Nat}(hr:0<r) (hC:r<C) (hr':0<r') (hC':r'<C') (hk:k≤G) (hb:54≤bitLen (q*2^k/10^G)):rqP m n (q*C+r) (10^G*C)=rqP m n (q*C'+r') (10^G*C')∧rqF m n (q*C+r) (10^G*C)=rqF m n (q*C'+r') (10^G*C'):=by
 have key:∀ {C r:Nat},0<r→r<C→rnP m n (2*(q*2^k/10^G)+1) (-(k:Int)-1)=rqP m n (q*C+r) (10^G*C)∧rnF m n (2*(q*2^k/10^G)+1) (-(k:Int)-1)=rqF m n (q*C+r) (10^G*C):=fun {C r} h0 h1=>by
  have e:=Ztl (q:=q) (G:=G) h0 h1 hk;have ed:(q*C+r)*2^k/(10^G*C)=q*2^k/10^G:=by unfold dvK at e;split at e<;>omega
  have:=Znt (m:=m) (n:=n) (A:=q*C+r) (B:=10^G*C) (k:=k) (by omega) (ZgB (ZbO _) (by omega)) (by rw[ed];exact hb);rw[e] at this;exact this
 obtain⟨a1,a2⟩:=key hr hC;obtain⟨b1,b2⟩:=key hr' hC';exact⟨a1.symm.trans b1,a2.symm.trans b2⟩
theorem Zwt {m:Int}{n:Bool}{q C r C' r' G J K:Nat}(hr:0<r) (hC:r<C) (hr':0<r') (hC':r'<C') (hJ:J=1023) (hK:K=1075) (hk:K≤G) (hb:(q+1)*2^J≤10^G):rqP m n (q*C+r) (10^G*C)=rqP m n (q*C'+r') (10^G*C')∧rqF m n (q*C+r) (10^G*C)=rqF m n (q*C'+r') (10^G*C'):=by
 have key:∀ {C r:Nat},0<r→r<C→rnP m n (2*(q*2^K/10^G)+1) (-(K:Int)-1)=rqP m n (q*C+r) (10^G*C)∧rnF m n (2*(q*2^K/10^G)+1) (-(K:Int)-1)=rqF m n (q*C+r) (10^G*C):=fun {C r} h0 h1=>by
  have e:=Ztl (q:=q) (G:=G) h0 h1 hk;have h3:(q*C+r)*2^J<10^G*C:=by
   have h4:q*C+r<(q+1)*C:=by rw[Nat.add_mul,Nat.one_mul];omega
   refine Nat.lt_of_lt_of_le (Nat.mul_lt_mul_of_pos_right h4 (Nat.pow_pos (by omega))) ?_;rw[Nat.mul_right_comm];exact Nat.mul_le_mul_right _ hb
  have:=Zws (m:=m) (n:=n) (A:=q*C+r) (B:=10^G*C) (by omega) (ZgB (ZbO _) (by omega)) hJ hK h3;rw[e] at this;exact this
 obtain⟨a1,a2⟩:=key hr hC;obtain⟨b1,b2⟩:=key hr' hC';exact⟨a1.symm.trans b1,a2.symm.trans b2⟩
theorem Z1B {j i:Nat}(h:j≤3*i):(10:Nat)^j≤2^(10*i):=by
 refine Nat.le_trans (Nat.pow_le_pow_right (by omega) h) ?_;rw[Nat.pow_mul,Nat.pow_mul];exact Nat.pow_le_pow_left (by decide) i
theorem ZqZ {m:Int}{n:Bool}{q C r C' r' M G:Nat}{a:Int}(hM:M=799) (hG:(G:Int)=800-a) (ha:a≤400) (hq:10^M≤q) (hq':q<10^(M+1)) (hr:0<r) (hC:r<C) (hr':0<r') (hC':r'<C'):rqP m n (q*C+r) (10^G*C)=rqP m n (q*C'+r') (10^G*C')∧rqF m n (q*C+r) (10^G*C)=rqF m n (q*C'+r') (10^G*C'):=by
 by_cases h1:1≤a
 ·refine Ztm (k:=53) hr hC hr' hC' (by omega) (Zc9 (k:=53) ?_);rw[Nat.le_div_iff_mul_le (Nat.pow_pos (by omega)),Nat.mul_comm];exact Nat.mul_le_mul_right _ (Nat.le_trans (Nat.pow_le_pow_right (by omega) (by omega)) hq)
 obtain⟨b,hb⟩:∃ b:Nat,a= -(b:Int):=⟨(-a).toNat,by omega⟩;have eG:G=M+(b+1):=by omega
 by_cases h2:b≤315
 ·refine Ztm (k:=53+10*((b+3)/3)) hr hC hr' hC' (by omega) (Zc9 (k:=53) ?_);rw[Nat.le_div_iff_mul_le (Nat.pow_pos (by omega)),eG,Nat.pow_add,Nat.pow_add 2,Nat.mul_left_comm,Nat.mul_left_comm q];rw[Nat.mul_left_comm];refine Nat.mul_le_mul_left _ (Nat.mul_le_mul hq ?_);exact Z1B (by omega)
 ·obtain⟨J,hJ⟩:∃ J,J=1023:=⟨_,rfl⟩;obtain⟨K,hK⟩:∃ K,K=1075:=⟨_,rfl⟩;refine Zwt (J:=J) (K:=K) hr hC hr' hC' hJ hK (by omega) ?_;rw[show G=(M+1)+b by omega,Nat.pow_add];exact Nat.mul_le_mul hq' (Zh3 (i:=11) (by omega) (by omega))
def chD (d:Nat):UInt8:=UInt8.ofNat (48+d)
def Zga:Nat→Nat→List UInt8
 | 0,_=>[]
 | f+1,n=>if n<10 then [chD n] else Zga f (n/10)++[chD (n % 10)]
def dcL (n:Nat):List UInt8:=Zga 20 n
theorem Zwu {d:Nat}(h:d<10):lq8 (chD d)=((48+d:Nat):Int):=by
 unfold lq8 chD;rw[UInt8.toNat_ofNat'];omega
theorem Zny {d:Nat}(h:d<10) (b:Int):ZO (lq8 (chD d)) b=(d:Int):=by
 rw[Zwu h];unfold ZO;rw[if_pos (by omega)];omega
theorem ZiJ {d:Nat}(h:d<10):(([48,49,50,51,52,53,54,55,56,57]:List UInt8).drop d).take 1=[chD d]:=by
 have key:∀ x:Fin 10,(([48,49,50,51,52,53,54,55,56,57]:List UInt8).drop x.1).take 1=[chD x.1]:=by decide
 exact key ⟨d,h⟩
theorem Zra (f n:Nat) (b:Int):zf b (Zga f n)=true:=by
 induction f generalizing n with
 | zero=>rfl
 | succ f ih=>
  unfold Zga;split
  ·rename_i h;unfold zf;rw[List.all_cons,Zny h,Xa (by omega)];rfl
  ·unfold zf;rw[List.all_append];have:=ih (n/10);unfold zf at this;rw[this,List.all_cons,Zny (show n % 10<10 by omega),Xa (by omega)];rfl
theorem Zrb (f n:Nat):(Zga f n).length≤f:=by
 induction f generalizing n with
 | zero=>exact Nat.le_refl _
 | succ f ih=>
  unfold Zga;split
  ·rw[List.length_singleton];omega
  ·rw[List.length_append,List.length_singleton];have:=ih (n/10);omega
theorem Z1C {n:Nat}(h:n<18446744073709551616):n<10^20:=Nat.lt_trans h (by decide)
theorem Ztn (n:Nat):dcL n≠[]:=by
 unfold dcL Zga;split
 ·simp
 ·simp
theorem Z65 (b:Int):ZO 46 b= -1:=by
 unfold ZO;rw[if_neg (by omega),if_neg (by omega)]
theorem Z1D (b:Int) (r:List UInt8):sc1 b false (46::r)=sc1 b true r:=by
 rw[sc1,if_pos ⟨by rfl,rfl⟩]
theorem Zwv (b:Int) (p:Bool):sc1 b p []=([],0,[]):=by rw[sc1]
theorem Znz {b:Int}{A:List UInt8}(h:zf b A=true) (p:Bool) (r:List UInt8):sc1 b p (A++r)=(A++(sc1 b p r).1,(if p=true then A.length else 0)+(sc1 b p r).2.1,(sc1 b p r).2.2):=by
 induction A with
 | nil=>simp
 | cons c A ih=>
  unfold zf at h ih;rw[List.all_cons,Xh] at h;have h1:=Xc h.1;have h46:lq8 c≠46:=fun h'=>by rw[h',Z65] at h1;omega
  rw[List.cons_append,sc1,if_neg (fun h'=>h46 h'.1),if_pos h1,ih h.2];cases p<;>simp<;>omega
theorem Zh4 (b:Int) (l:List UInt8):nmB b (trZ l)=nmB b l:=by
 induction l with
 | nil=>rfl
 | cons c l ih=>
  rw[ZcE];by_cases h:lq8 c=48
  ·rw[if_pos h,ih];have:ZO (lq8 c) b=0:=by
    rw[h];unfold ZO;rw[if_pos (by omega)];rfl
   unfold nmB;rw[List.foldl_cons,this];simp
  ·rw[if_neg h]
theorem Zn0 {b:Int}(hb:b=10∨b=16) {l:List UInt8}(h:zf b l=true):trZ l=[]↔nmB b l=0:=by
 constructor
 ·intro h0;rw[← Zh4,h0];rfl
 ·intro h0;cases h1:trZ l with
  | nil=>rfl
  | cons c r=>
   have:=Zbs hb (r:=r) (ZaQ h h1);rw[← h1,Zh4] at this;omega
def rdN (m:Int) (n:Bool) (A:Nat) (j:Int):Int×Int×Int:=
 if A=0 then (if n=true then 9223372036854775808 else 0,0,0) else (if n=true then 9223372036854775808+deP m n A j else deP m n A j,deF m n A j,0)
theorem Zww {m:Int}{n:Bool}{v:List UInt8}(h:(scA 10 v).2=true):rdQ m n 10 v=rdN m n (nmB 10 (sc1 10 false v).1) ((scA 10 v).1-((sc1 10 false v).2.1:Nat)):=by
 have ha:=(Zfd 10 false v).2.2;unfold rdQ rdN;rw[if_neg (by rw[h];decide)];by_cases hz:trZ (sc1 10 false v).1=[]
 ·rw[if_pos hz,if_pos ((Zn0 (.inl rfl) ha).1 hz)]
 ·rw[if_neg hz,if_neg (fun h0=>hz ((Zn0 (.inl rfl) ha).2 h0))];cases h1:trZ (sc1 10 false v).1 with
  | nil=>exact absurd h1 hz
  | cons c r=>
   obtain⟨d1,d2⟩:=Z19 m n (r:=r) (k:=((sc1 10 false v).2.1:Nat)) (P:=(scA 10 v).1) (ZaQ ha h1);rw[d1,d2,← h1,Zh4]
theorem Zwx (m:Int) (n:Bool) (A:Nat) (j:Int):(rdN m n A j).2.2=0:=by
 unfold rdN;split<;>rfl
theorem Zn1 (b:Int) (k:Nat):zf b (List.replicate k 48)=true:=by
 unfold zf;rw[List.all_eq_true];intro x hx;rw[List.eq_of_mem_replicate hx];exact Xa (show 0≤ZO 48 b by unfold ZO;rw[if_pos (by omega)];omega)
theorem ZiK {b:Int}{A B:List UInt8}(hA:zf b A=true) (hB:zf b B=true):zf b (A++B)=true:=by
 unfold zf at*;rw[List.all_append,hA,hB];rfl
theorem ZaR {c:UInt8}(h:0≤ZO (lq8 c) 10):48≤lq8 c∧lq8 c≤57:=by
 unfold ZO at h;split at h
 ·assumption
 ·rw[if_neg (by omega)] at h;omega
theorem Zn2 {c:UInt8}{r:List UInt8}(h:48≤lq8 c∧lq8 c≤57):sgT (c::r)=(false,c::r):=by
 unfold sgT;dsimp only;rw[if_neg (by omega),if_neg (by omega)]
theorem Zn3 (r:List UInt8):sgT (45::r)=(true,r):=by
 unfold sgT;dsimp only;rw[if_pos (by rfl)]
theorem ZiL {m:Int}{n:Bool}{l:List UInt8}{c:UInt8}{r:List UInt8}(hl:l.length≤65536) (hs:sgT l=(n,c::r)) (hc:48≤lq8 c∧lq8 c≤57) (hr:∀ d∈r,d≠120):rdP m l=rdQ m n 10 (c::r):=by
 unfold rdP;rw[if_neg (by omega),hs];dsimp only;rw[if_neg (fun h=>by cases h;exact absurd hc.2 (by decide)),if_neg (fun h=>by cases h;exact absurd hc.2 (by decide))];have e:rdB (c::r)=(10,c::r):=by
  unfold rdB;rw[if_neg];rintro⟨h1,h2⟩;cases r with
  | nil=>exact absurd h1 (by simp)
  | cons d t=>
   have:[c,d]=[48,120]:=h2;cases this;exact hr 120 Xe rfl
 rw[e]
def dvB (c:Int):Int:=if 48≤c∧c≤57 then c-48 else if 97≤c∧c≤102 then c-87 else 16
theorem Z1E (c:Int):0≤dvB c∧dvB c≤16:=by
 unfold dvB;split
 ·omega
 ·split<;>omega
theorem Zdv {c b:Int}(hb:b=10∨b=16):dvB c<b↔0≤ZO c b:=by
 unfold dvB ZO;split
 ·constructor<;>omega
 ·split
  ·rcases hb with rfl | rfl
   ·rw[if_neg (by omega)];omega
   ·rw[if_pos (by omega)];omega
  ·rw[if_neg (by omega)];omega
theorem Zn4 {c b:Int}(h:0≤ZO c b):ZO c b=dvB c:=by
 unfold dvB;unfold ZO at*;split
 ·rfl
 ·rename_i h1;rw[if_neg h1] at h;split
  ·rename_i h2;rw[if_pos ⟨h2.2.1,h2.2.2⟩]
  ·rename_i h2;rw[if_neg h2] at h;omega
theorem ZgD {c d:UInt8}:lq8 c=lq8 d↔c=d:=by
 unfold lq8;constructor
 ·intro h;exact UInt8.toNat_inj.1 (by omega)
 ·intro h;rw[h]
def Zar (p l:List UInt8):Bool:=decide (p.length≤l.length∧l.take p.length=p)
theorem ZdE (d:UInt8) (l:List UInt8):Zar [d] l=true↔∃ r,l=d::r:=by
 unfold Zar;rw[Xi];constructor
 ·rintro⟨h1,h2⟩;cases l with
  | nil=>simp at h1
  | cons c r=>
   simp at h2;exact⟨r,by rw[h2]⟩
 ·rintro⟨r,rfl⟩;simp
theorem ZbP (d:UInt8) {c:UInt8}{r:List UInt8}(h:c≠d):Zar [d] (c::r)=false:=by
 rw[Bool.eq_false_iff];intro h';obtain⟨r',e⟩:=(ZdE d (c::r)).1 h'
 injection e with e1 e2
 exact h e1
theorem Zn5 (l:List UInt8):sgT l=if Zar [45] l=true then (true,l.drop 1) else if Zar [43] l=true then (false,l.drop 1) else (false,l):=by
 cases l with
 | nil=>rfl
 | cons c r=>
  have e45:lq8 c=45↔c=45:=ZgD (d:=45);have e43:lq8 c=43↔c=43:=ZgD (d:=43);rw[sgT];by_cases h1:c=45
  ·rw[if_pos (e45.2 h1),if_pos ((ZdE 45 _).2 ⟨r,by rw[h1]⟩)];rfl
  ·rw[if_neg (fun h=>h1 (e45.1 h)),ZbP 45 h1,if_neg (show ¬ (false=true) by decide)];by_cases h2:c=43
   ·rw[if_pos (e43.2 h2),if_pos ((ZdE 43 _).2 ⟨r,by rw[h2]⟩)];rfl
   ·rw[if_neg (fun h=>h2 (e43.1 h)),ZbP 43 h2,if_neg (show ¬ (false=true) by decide)]
theorem Zwy (u:List UInt8):rdB u=if Zar [48,120] u=true then (16,u.drop 2) else (10,u):=by
 unfold rdB Zar;by_cases h:1<u.length∧u.take 2=[48,120]
 ·rw[if_pos h,if_pos (Xa ⟨by simp;omega,h.2⟩)]
 ·rw[if_neg h,if_neg (fun h'=>h (by
   have:=Xc h';exact⟨by have:=this.1;simp at this;omega,this.2⟩))]
theorem Zh5 (l:List UInt8):(sgT l).2.length≤l.length:=by
 rw[Zn5];split
 ·rw[List.length_drop];omega
 ·split
  ·rw[List.length_drop];omega
  ·exact Nat.le_refl _
def en1 (b:Int):Bool→List UInt8→Nat
 | _,[]=>0
 | p,c::l=>if dvB (lq8 c)<b then en1 b p l+1 else if lq8 c=46∧p=false then en1 b true l+1 else 0
theorem Zto (b:Int) (p:Bool) (l:List UInt8):en1 b p l≤l.length:=by
 induction l generalizing p with
 | nil=>exact Nat.le_refl _
 | cons c l ih=>
  rw[List.length_cons];unfold en1;have h1:=ih p;have h2:=ih true;split
  ·omega
  ·split<;>omega
def ctA (l:List UInt8):List UInt8:=if 0≤Lib.indexByte l 46 then l.take (Lib.indexByte l 46).toNat else l
def ctB (l:List UInt8):List UInt8:=if 0≤Lib.indexByte l 46 then l.drop ((Lib.indexByte l 46).toNat+1) else []
theorem Z1F (l:List UInt8):ctA (46::l)=[]∧ctB (46::l)=l:=by
 have e:Lib.indexByte (46::l) 46=0:=by unfold Lib.indexByte;rfl
 unfold ctA ctB;rw[e];exact⟨rfl,rfl⟩
theorem Zh6 {c:UInt8}(h:c≠46) (l:List UInt8):ctA (c::l)=c::ctA l∧ctB (c::l)=ctB l:=by
 have e:Lib.indexByte (c::l) 46=if Lib.indexByte l 46== -1 then -1 else Lib.indexByte l 46+1:=by
  rw[Lib.indexByte,if_neg (by simpa using h)]
 have hg:=Lib.indexByte_ge l 46;unfold ctA ctB;by_cases hm:Lib.indexByte l 46= -1
 ·have e':Lib.indexByte (c::l) 46= -1:=by rw[e,hm];rfl
  rw[e',hm,if_neg (by decide),if_neg (by decide),if_neg (by decide),if_neg (by decide)];exact⟨rfl,rfl⟩
 ·have e':Lib.indexByte (c::l) 46=Lib.indexByte l 46+1:=by rw[e,if_neg (by simpa using hm)]
  have e2:(Lib.indexByte l 46+1).toNat=(Lib.indexByte l 46).toNat+1:=by omega
  rw[e',if_pos (show 0≤Lib.indexByte l 46+1 by omega),if_pos (show 0≤Lib.indexByte l 46+1 by omega),if_pos (show 0≤Lib.indexByte l 46 by omega),if_pos (show 0≤Lib.indexByte l 46 by omega),e2];exact⟨rfl,rfl⟩
theorem Zrc {b:Int}(hb:b=10∨b=16) (l:List UInt8):sc1 b true l=(l.take (en1 b true l),en1 b true l,l.drop (en1 b true l))∧ctA (l.take (en1 b true l))=l.take (en1 b true l)∧ctB (l.take (en1 b true l))=[]:=by
 induction l with
 | nil=>exact⟨rfl,rfl,rfl⟩
 | cons c l ih=>
  obtain⟨i1,i2,i3⟩:=ih;unfold sc1 en1;rw[if_neg (by intro h;exact absurd h.2 (by decide))];by_cases hd:dvB (lq8 c)<b
  ·have hd':=(Zdv hb).1 hd;have hc:c≠46:=fun h=>by
    rw[h] at hd';exact absurd hd' (by rw[show lq8 46=46 from rfl,Z65];decide)
   rw[if_pos hd',if_pos hd,i1];obtain⟨c1,c2⟩:=Zh6 hc (l.take (en1 b true l));refine⟨?_,?_,?_⟩
   ·rw[if_pos rfl,List.take_succ_cons,List.drop_succ_cons,Nat.add_comm]
   ·rw[List.take_succ_cons,c1,i2]
   ·rw[List.take_succ_cons,c2,i3]
  ·rw[if_neg (fun h=>hd ((Zdv hb).2 h)),if_neg hd,if_neg (by intro h;exact absurd h.2 (by decide))];exact⟨rfl,rfl,rfl⟩
theorem Zn6 {b:Int}(hb:b=10∨b=16) (l:List UInt8):sc1 b false l=(ctA (l.take (en1 b false l))++ctB (l.take (en1 b false l)),(ctB (l.take (en1 b false l))).length,l.drop (en1 b false l)):=by
 induction l with
 | nil=>rfl
 | cons c l ih=>
  unfold sc1 en1;by_cases h46:lq8 c=46
  ·have hc:c=46:=(ZgD (d:=46)).1 h46;have hd:¬ dvB (lq8 c)<b:=fun h=>by
    have:=(Zdv hb).1 h;rw[h46,Z65] at this;exact absurd this (by decide)
   obtain⟨t1,t2,t3⟩:=Zrc hb l;rw[if_pos ⟨h46,rfl⟩,if_neg hd,if_pos ⟨h46,rfl⟩,t1,List.take_succ_cons,List.drop_succ_cons,hc,(Z1F _).1,(Z1F _).2,List.nil_append,List.length_take,Nat.min_eq_left (Zto b true l)]
  ·have hc:c≠46:=fun h=>h46 (by rw[h];rfl);rw[if_neg (fun h=>h46 h.1)];by_cases hd:dvB (lq8 c)<b
   ·rw[if_pos ((Zdv hb).1 hd),if_pos hd,ih,List.take_succ_cons,List.drop_succ_cons,(Zh6 hc _).1,(Zh6 hc _).2,if_neg (by decide),Nat.zero_add,List.cons_append]
   ·rw[if_neg (fun h=>hd ((Zdv hb).2 h)),if_neg hd,if_neg (fun h=>h46 h.1)];rfl
theorem ZgE (M:Nat) (f:UInt8→Nat) (l:List UInt8) (a:Nat):l.foldl (fun a c=>min (a*10+f c) M) (min a M)=min (l.foldl (fun a c=>a*10+f c) a) M:=by
 induction l generalizing a with
 | nil=>rfl
 | cons c l ih=>
  rw[List.foldl_cons,List.foldl_cons,← ih (a*10+f c)];congr 1;omega
def pwM (M:Nat):Nat→List UInt8→Nat×Bool
 | a,[]=>(a,true)
 | a,c::l=>if dvB (lq8 c)<10 then pwM M (min (a*10+(dvB (lq8 c)).toNat) M) l else (0,false)
theorem ZcG (b:Int) (c:UInt8) (l:List UInt8):zf b (c::l)=(decide (0≤ZO (lq8 c) b) && zf b l):=rfl
theorem Zwz (M a:Nat) (l:List UInt8):(pwM M a l).2=zf 10 l:=by
 induction l generalizing a with
 | nil=>rfl
 | cons c l ih=>
  unfold pwM;rw[ZcG];by_cases h:dvB (lq8 c)<10
  ·rw[if_pos h,ih,Xa ((Zdv (.inl rfl)).1 h),Bool.true_and]
  ·rw[if_neg h,Xb (fun h'=>h ((Zdv (.inl rfl)).2 h')),Bool.false_and]
theorem Zn7 (a:Nat) (l:List UInt8):(pw1 a l).2=zf 10 l:=by
 induction l generalizing a with
 | nil=>rfl
 | cons c l ih=>
  unfold pw1;rw[ZcG];by_cases h:0≤ZO (lq8 c) 10
  ·rw[if_pos h,ih,Xa h,Bool.true_and]
  ·rw[if_neg h,Xb h,Bool.false_and]
theorem Zrd {M a:Nat}{l:List UInt8}(h:zf 10 l=true):(pwM M a l).1=l.foldl (fun a c=>min (a*10+(ZO (lq8 c) 10).toNat) M) a:=by
 induction l generalizing a with
 | nil=>rfl
 | cons c l ih=>
  rw[ZcG,Xh,Xi] at h;unfold pwM;rw[if_pos ((Zdv (.inl rfl)).2 h.1),ih h.2,List.foldl_cons,Zn4 h.1]
theorem Zre {a:Nat}{l:List UInt8}(h:zf 10 l=true):(pw1 a l).1=l.foldl (fun a c=>min (a*10+(ZO (lq8 c) 10).toNat) 2000000) a:=by
 induction l generalizing a with
 | nil=>rfl
 | cons c l ih=>
  rw[ZcG,Xh,Xi] at h;unfold pw1;rw[if_pos h.1,ih h.2,List.foldl_cons,Nat.mul_comm 10 a]
theorem Zw0 {M:Nat}{l:List UInt8}(h:zf 10 l=true):(pwM M 0 l).1=min (nmB 10 l) M:=by
 have:=ZgE M (fun c=>(ZO (lq8 c) 10).toNat) l 0;rw[Nat.zero_min] at this;rw[Zrd h,this];rfl
theorem Zw1 {l:List UInt8}(h:zf 10 l=true):(pw1 0 l).1=min (nmB 10 l) 2000000:=by
 have:=ZgE 2000000 (fun c=>(ZO (lq8 c) 10).toNat) l 0;rw[Nat.zero_min] at this;rw[Zre h,this];rfl
theorem Z1G {M a:Nat}(h:a≤M) (l:List UInt8):(pwM M a l).1≤M:=by
 induction l generalizing a with
 | nil=>exact h
 | cons c l ih=>
  unfold pwM;split
  ·exact ih (Nat.min_le_right _ _)
  ·exact Nat.zero_le _
def wnP (l:List UInt8):Int:=if (sgT l).1=true then -((pwM 10000000 0 (sgT l).2).1:Nat) else ((pwM 10000000 0 (sgT l).2).1:Nat)
def wnK (l:List UInt8):Bool:=zf 10 (sgT l).2 && decide ((sgT l).2≠[])
theorem Ztp (l:List UInt8): -10000000≤wnP l∧wnP l≤10000000:=by
 have:=Z1G (M:=10000000) (a:=0) (Nat.zero_le _) (sgT l).2;unfold wnP;split<;>omega
def ZgF (x y:Int):Prop:=x=y∨(2000000≤x∧2000000≤y)∨(x≤ -2000000∧y≤ -2000000)
def pwK (b:Int) (r:List UInt8):Bool:=if r=[] then decide (b=10) else Zar [if b=16 then 112 else 101] r && wnK (r.drop 1)
def pwP (r:List UInt8):Int:=if r=[] then 0 else wnP (r.drop 1)
theorem ZiM {b:Int}(hb:b=10∨b=16) (r:List UInt8):pwK b r=(scE b r).2∧(pwK b r=true→ZgF (pwP r) (scE b r).1):=by
 cases r with
 | nil=>
  unfold pwK pwP scE;rw[if_pos rfl,if_pos rfl];exact⟨rfl,fun _=> .inl rfl⟩
 | cons c r=>
  have hne:¬ (c::r=[]):=by simp
  unfold pwK pwP;rw[scE,if_neg hne,if_neg hne,List.drop_succ_cons,List.drop_zero];by_cases hc:(b=10∧lq8 c≠101)∨(b=16∧lq8 c≠112)
  ·have:Zar [if b=16 then 112 else 101] (c::r)=false:=by
    refine ZbP _ fun h=> ?_;rcases hc with ⟨h1,h2⟩ | ⟨h1,h2⟩
    ·rw[if_neg (by omega)] at h;exact h2 (by rw[h];rfl)
    ·rw[if_pos h1] at h;exact h2 (by rw[h];rfl)
   rw[if_pos hc,this];exact⟨rfl,fun h=>by cases h⟩
  ·have hP:Zar [if b=16 then 112 else 101] (c::r)=true:=by
    refine (ZdE _ _).2 ⟨r,?_⟩;rcases hb with rfl | rfl
    ·rw[if_neg (by decide)];have:lq8 c=lq8 101:=by
      rcases Classical.em (lq8 c=101) with h | h
      ·exact h
      ·exact absurd (.inl ⟨rfl,h⟩) hc
     rw[ZgD.1 this]
    ·rw[if_pos rfl];have:lq8 c=lq8 112:=by
      rcases Classical.em (lq8 c=112) with h | h
      ·exact h
      ·exact absurd (.inr ⟨rfl,h⟩) hc
     rw[ZgD.1 this]
   rw[if_neg hc,hP,Bool.true_and];unfold wnK wnP;by_cases he:(sgT r).2=[]
   ·rw[if_pos he,he];exact⟨rfl,fun h=>by cases h⟩
   ·rw[if_neg he,Xa he,Bool.and_true];cases ha:zf 10 (sgT r).2 with
    | false=>
     rw[if_pos (by rw[Zn7,ha])];exact⟨rfl,fun h=>by cases h⟩
    | true=>
     rw[if_neg (by rw[Zn7,ha];decide)];refine⟨rfl,fun _=> ?_⟩;rw[Zw0 ha,Zw1 ha];unfold ZgF;dsimp only;split<;>omega
def trR (l:List UInt8):List UInt8:=(l.reverse.dropWhile fun c=>lq8 c==48).reverse
theorem Zw2:trR []=[]:=rfl
theorem ZbY (l:List UInt8) (c:UInt8):trR (l++[c])=if lq8 c=48 then trR l else l++[c]:=by
 unfold trR;rw[List.reverse_append,List.reverse_singleton,List.singleton_append,List.dropWhile_cons];by_cases h:lq8 c=48
 ·rw[if_pos (by simpa using h),if_pos h]
 ·rw[if_neg (by simpa using h),if_neg h,List.reverse_cons,List.reverse_reverse]
theorem ZdF {P:List UInt8→Prop}(h0:P []) (h1:∀ l c,P l→P (l++[c])) (l:List UInt8):P l:=by
 have key:∀ k (l:List UInt8),l.length=k→P l:=by
  intro k
  induction k with
  | zero=>intro l hl;rw[List.eq_nil_of_length_eq_zero hl];exact h0
  | succ k ih=>
   intro l hl;have hne:l≠[]:=fun h=>by rw[h] at hl;cases hl
   rw[← List.dropLast_concat_getLast hne];exact h1 _ _ (ih _ (by rw[List.length_dropLast];omega))
 exact key _ l rfl
theorem ZfN (l:List UInt8):(trR l).length≤l.length:=by
 unfold trR;rw[List.length_reverse];have:=(List.dropWhile_sublist (l:=l.reverse) fun c=>lq8 c==48).length_le;rw[List.length_reverse] at this;exact this
theorem Zn8 {b:Int}(l:List UInt8):nmB b l=nmB b (trR l)*b.toNat^(l.length-(trR l).length):=by
 refine ZdF (P:=fun l=>nmB b l=nmB b (trR l)*b.toNat^(l.length-(trR l).length)) ?_ ?_ l
 ·rfl
 ·intro l c ih;rw[ZbY];by_cases h:lq8 c=48
  ·have hd:(ZO 48 b).toNat=0:=by unfold ZO;rw[if_pos (by omega)];rfl
   have:=ZfN l;rw[if_pos h,ZaP,h,hd,Nat.add_zero,ih,Nat.mul_assoc,← Nat.pow_succ,List.length_append,List.length_singleton];congr 2;omega
  ·rw[if_neg h,Nat.sub_self,Nat.pow_zero,Nat.mul_one]
theorem Zh7 {b:Int}{l:List UInt8}(h:zf b l=true):zf b (trR l)=true:=by
 unfold zf at*;rw[List.all_eq_true] at*;intro x hx;unfold trR at hx;have:=(List.dropWhile_sublist _).subset (List.mem_reverse.1 hx);exact h x (List.mem_reverse.1 this)
theorem ZiN {l r:List UInt8}{c:UInt8}(h:trR l=r++[c]):lq8 c≠48:=by
 have key:∀ l:List UInt8,∀ r c,trR l=r++[c]→lq8 c≠48:=by
  intro l;refine ZdF (P:=fun l=>∀ r c,trR l=r++[c]→lq8 c≠48) ?_ ?_ l
  ·intro r c h;rw[Zw2] at h;exact absurd h (by simp)
  ·intro l d ih r c h;rw[ZbY] at h;by_cases h1:lq8 d=48
   ·rw[if_pos h1] at h;exact ih r c h
   ·rw[if_neg h1] at h;have:=(List.append_inj' h rfl).2
    injection this with e
    rw[← e];exact h1
 exact key l r c h
theorem ZcH {b:Int}{c:UInt8}{r:List UInt8}(h:0<ZO (lq8 c) b):∃ r',trR (c::r)=c::r':=by
 have key:∀ r:List UInt8,∃ r',trR (c::r)=c::r':=by
  intro r;refine ZdF (P:=fun r=>∃ r',trR (c::r)=c::r') ?_ ?_ r
  ·have h48:lq8 c≠48:=fun h0=>by
    rw[h0] at h;unfold ZO at h;rw[if_pos (by omega)] at h;omega
   refine⟨[],?_⟩;have:=ZbY [] c;rw[if_neg h48] at this;exact this
  ·intro l d ih;have:=ZbY (c::l) d;rw[List.cons_append] at this;rw[this];split
   ·exact ih
   ·exact⟨_,rfl⟩
 exact key r
def shR (k:Nat) (l:List UInt8):List UInt8:=if l.length≤k then l else l.take k++[49]
theorem Zw3 (b:Int) (x y:List UInt8):nmB b (x++y)=nmB b x*b.toNat^y.length+nmB b y:=by
 refine ZdF (P:=fun y=>nmB b (x++y)=nmB b x*b.toNat^y.length+nmB b y) ?_ ?_ y
 ·rw[List.append_nil];show nmB b x=nmB b x*1+0;omega
 ·intro l c ih;rw[← List.append_assoc,ZaP,ZaP,ih,List.length_append,List.length_singleton,Nat.pow_succ,Nat.add_mul,Nat.mul_assoc,Nat.add_assoc]
theorem Zrf {b:Int}{l:List UInt8}{c:UInt8}(h:zf b (l++[c])=true) (h48:lq8 c≠48):0<nmB b (l++[c]):=by
 have h1:0≤ZO (lq8 c) b:=by
  unfold zf at h;exact Xc (List.all_eq_true.1 h c (List.mem_append.2 (.inr Xf)))
 have h2:0<ZO (lq8 c) b:=by
  have:=Zn4 h1;unfold ZO at*;split
  ·omega
  ·rename_i h3;rw[if_neg h3] at h1;split
   ·omega
   ·rename_i h4;rw[if_neg h4] at h1;omega
 rw[ZaP];omega
theorem ZgG {b:Int}(hb:b=10∨b=16) {l:List UInt8}{k:Nat}(hk:k<l.length) (ha:zf b l=true) (hl:∀ r c,l=r++[c]→lq8 c≠48):nmB b l=nmB b (l.take k)*b.toNat^(l.length-k)+nmB b (l.drop k)∧0<nmB b (l.drop k)∧nmB b (l.drop k)<b.toNat^(l.length-k):=by
 have e:=Zw3 b (l.take k) (l.drop k);rw[List.take_append_drop,List.length_drop] at e;refine⟨e,?_,?_⟩
 ·have hne:l.drop k≠[]:=fun h=>by
   have:=congrArg List.length h;rw[List.length_drop] at this;simp at this;omega
  have e2:=(List.dropLast_concat_getLast hne).symm;rw[e2];refine Zrf ?_ ?_
  ·rw[← e2];unfold zf at*;rw[List.all_eq_true] at*;exact fun x hx=>ha x (List.mem_of_mem_drop hx)
  ·exact hl (l.take k++(l.drop k).dropLast) _ (by rw[List.append_assoc,← e2,List.take_append_drop])
 ·have:=Zdu hb (l.drop k);rw[List.length_drop] at this;exact this
theorem Ztq (b:Int):(ZO (lq8 49) b).toNat=1:=by unfold ZO;rw[if_pos (by decide)];rfl
def nuD (l:List UInt8):List UInt8:=trR (trZ l)
theorem Zw4 {m:Int}{n:Bool}{D:List UInt8}{E:Int}(ha:zf 16 D=true) (hl:∀ r c,D=r++[c]→lq8 c≠48) {c:UInt8}{r:List UInt8}(hD:D=c::r) (hc:0<ZO (lq8 c) 16):
  rnP m n (nmB 16 (shR 60 D)) (E-4*((shR 60 D).length:Nat))=rnP m n (nmB 16 D) (E-4*(D.length:Nat))∧rnF m n (nmB 16 (shR 60 D)) (E-4*((shR 60 D).length:Nat))=rnF m n (nmB 16 D) (E-4*(D.length:Nat)):=by
 unfold shR;by_cases hk:D.length≤60
 ·rw[if_pos hk];exact⟨rfl,rfl⟩
 rw[if_neg hk];obtain⟨p1,p2,p3⟩:=ZgG (.inr rfl) (k:=60) (by omega) ha hl;have hq:2^53≤nmB 16 (D.take 60):=by
  have e:D.take 60=c::r.take 59:=by rw[hD];rfl
  have:=ZgC (b:=16) (r:=r.take 59) hc;have hlen:(r.take 59).length=59:=by
   rw[List.length_take];rw[hD,List.length_cons] at hk;omega
  rw[hlen] at this;rw[e];exact Nat.le_trans (by decide) this
 have hb:=Zc9 hq;obtain⟨q,hqe⟩:∃ q,q=nmB 16 (D.take 60):=⟨_,rfl⟩;obtain⟨s,hse⟩:∃ s,s=nmB 16 (D.drop 60):=⟨_,rfl⟩;obtain⟨L,hL⟩:∃ L,L=D.length:=⟨_,rfl⟩;rw[← hqe] at p1 hb;rw[← hse] at p1 p2 p3;rw[← hL] at p1 p3;have e16:(16:Int).toNat^(L-60)=2^(4*(L-60)):=by rw[Nat.pow_mul];rfl
 rw[e16] at p1 p3;have hp:0<2^(4*(L-60)):=Nat.pow_pos (by omega);have d1:nmB 16 D/2^(4*(L-60))=q:=by rw[p1,Nat.mul_comm,Nat.mul_add_div hp,Nat.div_eq_of_lt p3,Nat.add_zero]
 have d2:nmB 16 D % 2^(4*(L-60))=s:=by rw[p1,Nat.mul_comm,Nat.mul_add_mod,Nat.mod_eq_of_lt p3]
 have a1:=ZcC (m:=m) (neg:=n) (A:=nmB 16 D) (d:=4*(L-60)) (F:=E-4*(L:Nat)) (.inr (by rw[d1];omega));have s1:stk (nmB 16 D) (4*(L-60))=2*q+1:=by unfold stk;rw[d1,d2,if_neg (by omega)]
 have e2:nmB 16 (D.take 60++[49])=q*16+1:=by rw[ZaP,Ztq,hqe];rfl
 have hlen:(D.take 60++[49]).length=61:=by rw[List.length_append,List.length_take,List.length_singleton];omega
 have d3:(q*16+1)/2^4=q:=by omega
 have d4:(q*16+1) % 2^4=1:=by omega
 have a2:=ZcC (m:=m) (neg:=n) (A:=q*16+1) (d:=4) (F:=E-4*61) (.inr (by rw[d3];omega));have s2:stk (q*16+1) 4=2*q+1:=by unfold stk;rw[d3,d4,if_neg (by omega)]
 rw[s1,show E-4*(L:Nat)+((4*(L-60):Nat):Int)-1=E-241 by omega] at a1;rw[s2,show E-4*61+((4:Nat):Int)-1=E-241 by omega] at a2;rw[e2,hlen,← hL];exact⟨a2.1.symm.trans a1.1,a2.2.symm.trans a1.2⟩
theorem Zn9 {b:Int}(hb:b=10∨b=16) (l:List UInt8):bitLen (nmB b l)≤4*l.length:=len_le (Zeo hb l)
theorem Zw5 {m:Int}{n:Bool}{A k:Nat}{x y z:Int}(hA:A≠0) (hk:bitLen A≤k) (hz: -100000≤z∧z+k≤100000) (h:ZgF x y):rnP m n A (x+z)=rnP m n A (y+z)∧rnF m n A (x+z)=rnF m n A (y+z):=by
 have h1:=Za1 hA;rcases h with h | ⟨h2,h3⟩ | ⟨h2,h3⟩
 ·rw[h];exact⟨rfl,rfl⟩
 ·obtain⟨a1,a2⟩:=Zen (m:=m) (neg:=n) (E:=x+z) hA (by unfold lgN;omega);obtain⟨b1,b2⟩:=Zen (m:=m) (neg:=n) (E:=y+z) hA (by unfold lgN;omega);exact⟨a1.trans b1.symm,a2.trans b2.symm⟩
 ·obtain⟨a1,a2⟩:=Zdt (m:=m) (neg:=n) (E:=x+z) hA (by unfold lgN;omega);obtain⟨b1,b2⟩:=Zdt (m:=m) (neg:=n) (E:=y+z) hA (by unfold lgN;omega);exact⟨a1.trans b1.symm,a2.trans b2.symm⟩
theorem Zrg {m:Int}{n:Bool}{l:List UInt8}(hl:l.length≤10000) (ha:zf 16 l=true) (hz:trZ l≠[]) {k:Nat}(hk:k≤l.length) {P Q:Int}(hP:ZgF Q P):
  rnP m n (nmB 16 (shR 60 (nuD l))) (Q+4*(((trZ l).length:Nat)-(k:Int)-((shR 60 (nuD l)).length:Nat)))=rnP m n (dnA 16 (trZ l) k P).1 (dnA 16 (trZ l) k P).2∧rnF m n (nmB 16 (shR 60 (nuD l))) (Q+4*(((trZ l).length:Nat)-(k:Int)-((shR 60 (nuD l)).length:Nat)))=rnF m n (dnA 16 (trZ l) k P).1 (dnA 16 (trZ l) k P).2:=by
 obtain⟨c,r,hT⟩:∃ c r,trZ l=c::r:=by
  cases h:trZ l with
  | nil=>exact absurd h hz
  | cons c r=>exact⟨c,r,rfl⟩
 have hc:=ZaQ ha hT;have haT:=ZcD ha;obtain⟨r',hr'⟩:=ZcH (b:=16) (r:=r) hc;have haD:zf 16 (nuD l)=true:=Zh7 haT;have hlast:∀ r c,nuD l=r++[c]→lq8 c≠48:=fun r c h=>ZiN h;have eD:nuD l=c::r':=by unfold nuD;rw[hT,hr']
 have lT:=Zdj l;have lD:=ZfN (trZ l);have hcut:=Zw4 (m:=m) (n:=n) (E:=Q+4*(((trZ l).length:Nat)-(k:Int))) haD hlast eD hc;have eE:Q+4*(((trZ l).length:Nat)-(k:Int)-((shR 60 (nuD l)).length:Nat))=Q+4*(((trZ l).length:Nat)-(k:Int))-4*((shR 60 (nuD l)).length:Nat):=by omega
 rw[eE,hcut.1,hcut.2];have hA:nmB 16 (nuD l)≠0:=by
  have:=Zbs (b:=16) (.inr rfl) (r:=r') hc;rw[eD];omega
 have eL:(nuD l).length≤(trZ l).length:=lD;have hfar:=Zw5 (m:=m) (n:=n) (k:=40000) (z:=4*(((trZ l).length:Nat)-(k:Int))-4*((nuD l).length:Nat)) hA (by
  have:=Zn9 (b:=16) (.inr rfl) (nuD l);omega) (by omega) hP
 rw[show Q+4*(((trZ l).length:Nat)-(k:Int))-4*((nuD l).length:Nat)=Q+(4*(((trZ l).length:Nat)-(k:Int))-4*((nuD l).length:Nat)) by omega,hfar.1,hfar.2];have e1:=Zn8 (b:=16) (trZ l);have e2:(16:Int).toNat^((trZ l).length-(trR (trZ l)).length)=2^(4*((trZ l).length-(nuD l).length)):=by rw[Nat.pow_mul];rfl
 rw[e2] at e1;have p:=ZaG m n (nmB 16 (nuD l)) (4*((trZ l).length-(nuD l).length)) (P+(4*(((trZ l).length:Nat)-(k:Int))-4*((nuD l).length:Nat)));have f:=ZaH m n (nmB 16 (nuD l)) (4*((trZ l).length-(nuD l).length)) (P+(4*(((trZ l).length:Nat)-(k:Int))-4*((nuD l).length:Nat)));rw[show P+(4*(((trZ l).length:Nat)-(k:Int))-4*((nuD l).length:Nat))-((4*((trZ l).length-(nuD l).length):Nat):Int)=P-4*k by omega] at p f;unfold dnA;rw[if_pos rfl];dsimp only;rw[e1];exact⟨p.symm,f.symm⟩
def clF (x:Int):Int:=min (max x (-400)) 400
theorem Zw6 {m:Int}{n:Bool}{D:List UInt8}{a a':Int}(ha:zf 10 D=true) (hl:∀ r c,D=r++[c]→lq8 c≠48) {c:UInt8}{r:List UInt8}(hD:D=c::r) (hc:0<ZO (lq8 c) 10) (h:a'=a∨(1000≤a∧1000≤a')∨(a≤ -1000∧a'≤ -1000)):
  deP m n (nmB 10 (shR 800 D)) (clF a'-((shR 800 D).length:Nat))=deP m n (nmB 10 D) (a-(D.length:Nat))∧deF m n (nmB 10 (shR 800 D)) (clF a'-((shR 800 D).length:Nat))=deF m n (nmB 10 D) (a-(D.length:Nat)):=by
 have e10:(10:Int).toNat=10:=rfl;obtain⟨r2,hr2⟩:∃ r2,shR 800 D=c::r2:=by
  unfold shR;split
  ·exact⟨r,hD⟩
  ·exact⟨_,by rw[hD];rfl⟩
 have g1:=ZgC (b:=10) (r:=r) hc;have g2:=ZgC (b:=10) (r:=r2) hc;have u1:=Zdu (b:=10) (.inl rfl) D;have u2:=Zdu (b:=10) (.inl rfl) (shR 800 D);rw[e10] at g1 g2 u1 u2;rw[← hD] at g1;rw[← hr2] at g2;have n1:nmB 10 D≠0:=by have:=Zbs (b:=10) (.inl rfl) (r:=r) hc;rw[hD];omega
 have n2:nmB 10 (shR 800 D)≠0:=by have:=Zbs (b:=10) (.inl rfl) (r:=r2) hc;rw[hr2];omega
 have l1:D.length=r.length+1:=by rw[hD];rfl
 have l2:(shR 800 D).length=r2.length+1:=by rw[hr2];rfl
 by_cases hbig:400<a
 ·have hc4:clF a'=400:=by unfold clF;omega
  obtain⟨a1,a2⟩:=Znw m n (j:=clF a'-((shR 800 D).length:Nat)) g2 (by omega);obtain⟨b1,b2⟩:=Znw m n (j:=a-(D.length:Nat)) g1 (by omega);exact⟨a1.trans b1.symm,a2.trans b2.symm⟩
 by_cases hlow:a< -400
 ·have hc4:clF a'= -400:=by unfold clF;omega
  obtain⟨a1,a2⟩:=Znx m n (j:=clF a'-((shR 800 D).length:Nat)) n2 u2 (by omega);obtain⟨b1,b2⟩:=Znx m n (j:=a-(D.length:Nat)) n1 u1 (by omega);exact⟨a1.trans b1.symm,a2.trans b2.symm⟩
 have hca:clF a'=a:=by unfold clF;omega
 rw[hca];unfold shR;by_cases hk:D.length≤800
 ·rw[if_pos hk];exact⟨rfl,rfl⟩
 rw[if_neg hk];obtain⟨p1,p2,p3⟩:=ZgG (.inl rfl) (k:=800) (by omega) ha hl;rw[e10] at p1 p3;obtain⟨M,hM⟩:∃ M,M=799:=⟨_,rfl⟩;have hlt:(D.take 800).length=M+1:=by rw[List.length_take];omega
 have hq:10^M≤nmB 10 (D.take 800):=by
  have e:D.take 800=c::r.take 799:=by rw[hD];rfl
  have:=ZgC (b:=10) (r:=r.take 799) hc;have hlen:(r.take 799).length=M:=by
   rw[List.length_take];omega
  rw[hlen,e10] at this;rw[e];exact this
 have hq':nmB 10 (D.take 800)<10^(M+1):=by
  have:=Zdu (b:=10) (.inl rfl) (D.take 800);rw[hlt,e10] at this;exact this
 obtain⟨G,hG⟩:∃ G:Nat,(G:Int)=800-a:=⟨(800-a).toNat,by omega⟩;obtain⟨q,hqe⟩:∃ q,q=nmB 10 (D.take 800):=⟨_,rfl⟩;have e2:nmB 10 (D.take 800++[49])=q*10+1:=by rw[ZaP,Ztq,hqe];rfl
 have hlen:(D.take 800++[49]).length=801:=by rw[List.length_append,hlt,List.length_singleton];omega
 rw[← hqe] at hq hq' p1;have key:=ZqZ (m:=m) (n:=n) (C:=10^1) (r:=1) (C':=10^(D.length-800)) (r':=nmB 10 (D.drop 800)) hM hG (by omega) hq hq' (by omega) (by decide) p2 p3;rw[← Nat.pow_add,← Nat.pow_add] at key;unfold deP deF;rw[e2,hlen,p1,show (a-((801:Nat):Int)).toNat=0 by omega,show (-(a-((801:Nat):Int))).toNat=G+1 by omega,show (a-(D.length:Nat)).toNat=0 by omega,show (-(a-((D.length:Nat):Int))).toNat=G+(D.length-800) by omega,Nat.pow_zero,Nat.mul_one,Nat.mul_one];exact key
theorem Zrh {m:Int}{n:Bool}{l:List UInt8}(hl:l.length≤10000) (ha:zf 10 l=true) (hz:trZ l≠[]) {k:Nat}(hk:k≤l.length) {P Q:Int}(hP:ZgF Q P):
  deP m n (nmB 10 (shR 800 (nuD l))) (clF (((trZ l).length:Nat)-(k:Int)+Q)-((shR 800 (nuD l)).length:Nat))=rnP m n (dnA 10 (trZ l) k P).1 (dnA 10 (trZ l) k P).2∧deF m n (nmB 10 (shR 800 (nuD l))) (clF (((trZ l).length:Nat)-(k:Int)+Q)-((shR 800 (nuD l)).length:Nat))=rnF m n (dnA 10 (trZ l) k P).1 (dnA 10 (trZ l) k P).2:=by
 obtain⟨c,r,hT⟩:∃ c r,trZ l=c::r:=by
  cases h:trZ l with
  | nil=>exact absurd h hz
  | cons c r=>exact⟨c,r,rfl⟩
 have hc:=ZaQ ha hT;have haT:=ZcD ha;obtain⟨r',hr'⟩:=ZcH (b:=10) (r:=r) hc;have haD:zf 10 (nuD l)=true:=Zh7 haT;have hlast:∀ r c,nuD l=r++[c]→lq8 c≠48:=fun r c h=>ZiN h;have eD:nuD l=c::r':=by unfold nuD;rw[hT,hr']
 have lT:=Zdj l;have lD:(nuD l).length≤(trZ l).length:=ZfN (trZ l);have hA:nmB 10 (nuD l)≠0:=by
  have:=Zbs (b:=10) (.inl rfl) (r:=r') hc;rw[eD];omega
 have key:=Zw6 (m:=m) (n:=n) (a:=((trZ l).length:Nat)-(k:Int)+P) (a':=((trZ l).length:Nat)-(k:Int)+Q) haD hlast eD hc (by unfold ZgF at hP;omega);have hdn:=Z19 m n (c:=c) (r:=r) (k:=k) (P:=P) hc;rw[← hT] at hdn;have e1:=Zn8 (b:=10) (trZ l);have hs:=ZqX m n (A:=nmB 10 (nuD l)) hA ((trZ l).length-(nuD l).length) (((trZ l).length:Nat)-(k:Int)+P-((nuD l).length:Nat));rw[show ((trZ l).length:Nat)-(k:Int)+P-((nuD l).length:Nat)-(((trZ l).length-(nuD l).length:Nat):Int)=P-k by omega] at hs;have e2:nmB 10 (nuD l)*10^((trZ l).length-(nuD l).length)=nmB 10 (trZ l):=e1.symm;rw[e2] at hs;exact⟨key.1.trans (hs.1.symm.trans hdn.1.symm),key.2.trans (hs.2.symm.trans hdn.2.symm)⟩
end Go.Rd
