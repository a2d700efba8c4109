/-
  NumSt, ShF, ShH, PatA, ShI, TxY, ShJ
-/
import Derived.Test.YtgefjidphfdhdaaGreatDoorG14
import Derived.WalkSmall
import Derived.Test.YtgefjidphfdhdaaGreatDoorG13
namespace Go.Rd
open Go.Rn Go.Pt
def lgB (t:Int):Int:=t*78913/262144
def lgK (k:Nat):Bool:=
 Nat.ble (10^(lgB ((k:Int)-1074)).toNat*2^(-((k:Int)-1074)).toNat) (2^((k:Int)-1074).toNat*10^(-(lgB ((k:Int)-1074))).toNat) &&
 Nat.ble (2^((k:Int)-1073).toNat*10^(-(lgB ((k:Int)-1074)+2)).toNat) (10^(lgB ((k:Int)-1074)+2).toNat*2^(-((k:Int)-1073)).toNat)
theorem Z4c:(List.range 2100).all lgK=true:=by decide+kernel
theorem Z9y {t:Int}(h0: -1074≤t) (h1:t≤1025):10^(lgB t).toNat*2^(-t).toNat≤2^t.toNat*10^(-(lgB t)).toNat∧2^(t+1).toNat*10^(-(lgB t+2)).toNat≤10^(lgB t+2).toNat*2^(-(t+1)).toNat:=by
 have h:=List.all_eq_true.1 Z4c (t+1074).toNat (List.mem_range.2 (by omega));unfold lgK at h;rw[show (((t+1074).toNat:Nat):Int)-1074=t by omega,show (((t+1074).toNat:Nat):Int)-1073=t+1 by omega,Xh] at h;exact⟨Nat.le_of_ble_eq_true h.1,Nat.le_of_ble_eq_true h.2⟩
def lgS (S:Nat) (E:Int):Int:=lgB (E+(bitLen S:Nat)-1)
theorem Zvp {S:Nat}{E:Int}(h0:S≠0) (hE: -1074≤E) (hE1:E≤972) (hS:S<9007199254740992):(-324≤lgS S E∧lgS S E≤309)∧pbN E (-(lgS S E))≤paN S E (-(lgS S E))∧paN S E (-(lgS S E+2))<pbN E (-(lgS S E+2)):=by
 have hb:bitLen S≤53:=len_le (k:=53) hS;have hb1:=Zaz h0;obtain⟨t,ht⟩:∃ t,t=E+((bitLen S:Nat):Int)-1:=⟨_,rfl⟩;unfold lgS;rw[← ht];obtain⟨k1,k2⟩:=Z9y (t:=t) (by omega) (by omega);have bd: -324≤lgB t∧lgB t≤309:=by unfold lgB;omega
 obtain⟨N,hN⟩:∃ N,N=lgB t:=⟨_,rfl⟩;rw[← hN] at k1 k2 bd ⊢;refine⟨bd,?_,?_⟩
 ·unfold pbN paN;rw[show (- -N).toNat=N.toNat by omega];have hl:=(bitLen_spec S).2 h0;have e:2^(-E).toNat*2^t.toNat=2^(bitLen S-1)*2^E.toNat*2^(-t).toNat:=by
   rw[← Nat.pow_add,← Nat.pow_add,← Nat.pow_add];congr 1;omega
  refine Nat.le_of_mul_le_mul_right (c:=2^(-t).toNat) ?_ (Nat.pow_pos (by omega));have a:=Nat.mul_le_mul_left (2^(-E).toNat) k1;have b:=Nat.mul_le_mul_right (2^E.toNat*2^(-t).toNat*10^(-N).toNat) hl;have e1:2^(-E).toNat*(2^t.toNat*10^(-N).toNat)=2^(bitLen S-1)*(2^E.toNat*2^(-t).toNat*10^(-N).toNat):=by
   rw[← Nat.mul_assoc,e]
   ac_rfl
  have e2:2^(-E).toNat*(10^N.toNat*2^(-t).toNat)=2^(-E).toNat*10^N.toNat*2^(-t).toNat:=by ac_rfl
  have e3:S*(2^E.toNat*2^(-t).toNat*10^(-N).toNat)=S*2^E.toNat*10^(-N).toNat*2^(-t).toNat:=by ac_rfl
  rw[e1,e2] at a;rw[e3] at b;exact Nat.le_trans a b
 ·unfold pbN paN;rw[show (- -(N+2)).toNat=(N+2).toNat by omega];have hl:=(bitLen_spec S).1;have e:2^(-E).toNat*2^(t+1).toNat=2^bitLen S*2^E.toNat*2^(-(t+1)).toNat:=by
   rw[← Nat.pow_add,← Nat.pow_add,← Nat.pow_add];congr 1;omega
  refine Nat.lt_of_mul_lt_mul_right (a:=2^(-(t+1)).toNat) ?_;have p1:0<2^E.toNat*2^(-(t+1)).toNat*10^(-(N+2)).toNat:=Nat.mul_pos (Nat.mul_pos (Nat.pow_pos (by omega)) (Nat.pow_pos (by omega))) (Nat.pow_pos (by omega));have a:=Nat.mul_le_mul_left (2^(-E).toNat) k2;have b:=Nat.mul_lt_mul_of_pos_right hl p1;have e1:2^(-E).toNat*(2^(t+1).toNat*10^(-(N+2)).toNat)=2^bitLen S*(2^E.toNat*2^(-(t+1)).toNat*10^(-(N+2)).toNat):=by
   rw[← Nat.mul_assoc,e]
   ac_rfl
  have e2:2^(-E).toNat*(10^(N+2).toNat*2^(-(t+1)).toNat)=2^(-E).toNat*10^(N+2).toNat*2^(-(t+1)).toNat:=by ac_rfl
  have e3:S*(2^E.toNat*2^(-(t+1)).toNat*10^(-(N+2)).toNat)=S*2^E.toNat*10^(-(N+2)).toNat*2^(-(t+1)).toNat:=by ac_rfl
  rw[e1,e2] at a;rw[e3] at b;exact Nat.lt_of_lt_of_le b a
def lsP (p:Int):Int:=lgS (sg p).toNat (xp p)-17
theorem Zka (S:Nat) (E j:Int):4*S*ovN E j*pbN E (-j)=paN S E (-j)*ZaY E j:=by
 unfold ovN pbN paN ZaY;rw[show (- -j).toNat=j.toNat by omega];have e:2^2*2^(E-2).toNat*2^(-E).toNat=2^E.toNat*2^(2-E).toNat:=by
  rw[← Nat.pow_add,← Nat.pow_add,← Nat.pow_add];congr 1;omega
 have l:4*S*(2^(E-2).toNat*10^(-j).toNat)*(2^(-E).toNat*10^j.toNat)=S*(2^2*2^(E-2).toNat*2^(-E).toNat)*(10^(-j).toNat*10^j.toNat):=by
  rw[show (4:Nat)=2^2 from rfl]
  ac_rfl
 rw[l,e]
 ac_rfl
theorem ZsU (p j:Int):ZV p j=paN (sg p).toNat (xp p) (-j)/pbN (xp p) (-j)∧Zas p j=decide (paN (sg p).toNat (xp p) (-j) % pbN (xp p) (-j)≠0):=by
 have hb:=zJ (xp p) (-j);have hu:=Zgm (xp p) j;obtain⟨a,b⟩:=ZdW hu hb (Zka (sg p).toNat (xp p) j);refine⟨a,?_⟩;unfold Zas ZaD;refine decide_eq_decide.2 (not_congr ?_);constructor
 ·intro h;rw[h,Nat.zero_mul] at b;exact (Nat.mul_eq_zero.1 b.symm).resolve_right (by omega)
 ·intro h;rw[h,Nat.zero_mul] at b;exact (Nat.mul_eq_zero.1 b).resolve_right (by omega)
theorem Zyt {p:Int}(h:Fin14 p):10^17≤ZV p (lsP p)∧ZV p (lsP p)<10^19∧ -400≤lsP p∧lsP p≤300:=by
 obtain⟨bd,h1,h2⟩:=Zvp h.ne h.e0 h.e1 h.s1;have hb:=zJ (xp p) (-(lsP p));have a:=ZeB (a:=1) 17 (by rw[Nat.one_mul];exact h1);have b:=Zgj (a:=1) 19 (by rw[Nat.one_mul];exact h2);have e1: -(lgS (sg p).toNat (xp p))+((17:Nat):Int)= -(lsP p):=by unfold lsP;omega
 have e2: -(lgS (sg p).toNat (xp p)+2)+((19:Nat):Int)= -(lsP p):=by unfold lsP;omega
 rw[e1,Nat.one_mul] at a;rw[e2,Nat.one_mul] at b;rw[(ZsU p (lsP p)).1];exact⟨(Nat.le_div_iff_mul_le hb).2 a,(Nat.div_lt_iff_lt_mul hb).2 b,by unfold lsP;omega,by unfold lsP;omega⟩
def atL (p:Int):Nat:=if ZV p (lsP p)<10^18 then 18 else 19
theorem ZbA {p:Int}(h:Fin14 p):(18≤atL p∧atL p≤19)∧10^(atL p-1)≤ZV p (lsP p)∧ZV p (lsP p)<10^atL p:=by
 obtain⟨a,b,_⟩:=Zyt h;unfold atL;split
 ·rename_i c;exact⟨by omega,a,c⟩
 ·rename_i c;exact⟨by omega,Nat.le_of_not_lt c,b⟩
theorem ZdX {p:Int}(h:Fin14 p):frP p=lsP p+(atL p:Nat)-1:=by
 obtain⟨⟨l1,l2⟩,a,b⟩:=ZbA h;have hb:=zJ (xp p) (-(lsP p));rw[(ZsU p (lsP p)).1] at a b;have a:=(Nat.le_div_iff_mul_le hb).1 a;have b:=(Nat.div_lt_iff_lt_mul hb).1 b;refine Zhx (ZeC h).1 ⟨?_,?_⟩
 ·rcases Nat.lt_or_ge (paN (sg p).toNat (xp p) (-(lsP p+(atL p:Nat)-1))) (pbN (xp p) (-(lsP p+(atL p:Nat)-1))) with c | c
  ·have d:=Zgj (a:=1) (atL p-1) (by rw[Nat.one_mul];exact c);rw[Nat.one_mul,show -(lsP p+(atL p:Nat)-1)+((atL p-1:Nat):Int)= -(lsP p) by omega] at d;omega
  ·exact c
 ·rcases Nat.lt_or_ge (paN (sg p).toNat (xp p) (-(lsP p+(atL p:Nat)-1+1))) (pbN (xp p) (-(lsP p+(atL p:Nat)-1+1))) with c | c
  ·exact c
  ·have d:=ZeB (a:=1) (atL p) (by rw[Nat.one_mul];exact c);rw[Nat.one_mul,show -(lsP p+(atL p:Nat)-1+1)+(atL p:Int)= -(lsP p) by omega] at d;omega
def nrU (a:Nat) (m:Bool) (u:Nat):Bool:=decide (u/2<a % u) || (decide (a % u=u/2) && (m || decide (a/u % 2=1)))
section
variable {p : Int} {n : Nat}
theorem Z4d (h:Fin14 p) (h2:n≤18):qD (sg p).toNat (xp p) (frP p) n=ZV p (lsP p)/10^(atL p-n)∧Zl6 (sg p).toNat (xp p) (frP p) n*(pbN (xp p) (-(lsP p))*10^(atL p-n))=paN (sg p).toNat (xp p) (-(lsP p)) % (pbN (xp p) (-(lsP p))*10^(atL p-n))*pbN (xp p) ((n:Int)-1-frP p):=by
 have hf:=ZdX h;obtain⟨⟨l1,l2⟩,_⟩:=ZbA h;have hb:=zJ (xp p) (-(lsP p));have hb2:=zJ (xp p) ((n:Int)-1-frP p);have hs:=Zdz (sg p).toNat (xp p) ((n:Int)-1-frP p) (atL p-n);rw[show (n:Int)-1-frP p+((atL p-n:Nat):Int)= -(lsP p) by omega] at hs;have:=ZdW (a:=paN (sg p).toNat (xp p) ((n:Int)-1-frP p)) (b:=pbN (xp p) ((n:Int)-1-frP p)) (c:=paN (sg p).toNat (xp p) (-(lsP p))) (d:=pbN (xp p) (-(lsP p))*10^(atL p-n)) hb2 (Nat.mul_pos hb (Nat.pow_pos (by omega))) (by rw[hs];ac_rfl);unfold qD Zl6;rw[(ZsU p (lsP p)).1,Nat.div_div_eq_div_mul];exact this
theorem Zyu (h:Fin14 p) (h2:n≤17):(decide (2*Zl6 (sg p).toNat (xp p) (frP p) n<pbN (xp p) ((n:Int)-1-frP p)) || (decide (2*Zl6 (sg p).toNat (xp p) (frP p) n=pbN (xp p) ((n:Int)-1-frP p)) && decide (qD (sg p).toNat (xp p) (frP p) n % 2=0)))= !nrU (ZV p (lsP p)) (Zas p (lsP p)) (10^(atL p-n)):=by
 obtain⟨⟨l1,l2⟩,_⟩:=ZbA h;obtain⟨k1,k2⟩:=Z4d h (n:=n) (by omega);obtain⟨a1,a2⟩:=ZsU p (lsP p);have hb:=zJ (xp p) (-(lsP p));have hb2:=zJ (xp p) ((n:Int)-1-frP p);have hev:10^(atL p-n)=2*(5*10^(atL p-n-1)):=by
  have:10^(atL p-n)=10^(atL p-n-1)*10:=by rw[← Nat.pow_succ];congr 1;omega
  omega
 unfold nrU;rw[k1,a2,a1];obtain⟨A,hA⟩:∃ A,A=paN (sg p).toNat (xp p) (-(lsP p)):=⟨_,rfl⟩;obtain⟨B,hB⟩:∃ B,B=pbN (xp p) (-(lsP p)):=⟨_,rfl⟩;obtain⟨u,hu⟩:∃ u,u=10^(atL p-n):=⟨_,rfl⟩;obtain⟨r,hr⟩:∃ r,r=Zl6 (sg p).toNat (xp p) (frP p) n:=⟨_,rfl⟩;obtain⟨b,hb0⟩:∃ b,b=pbN (xp p) ((n:Int)-1-frP p):=⟨_,rfl⟩;obtain⟨v,hv⟩:∃ v,v=5*10^(atL p-n-1):=⟨_,rfl⟩;have hu0:0<u:=by rw[hu];exact Nat.pow_pos (by omega)
 rw[← hA,← hB,← hu,← hr,← hb0] at k2;rw[← hA,← hB,← hu,← hr,← hb0];rw[← hB] at hb;rw[← hb0] at hb2;rw[← hu,← hv] at hev;have em:A % (B*u)=A % B+B*(A/B % u):=Nat.mod_mul;obtain⟨s,hs⟩:∃ s,s=A/B % u:=⟨_,rfl⟩;obtain⟨z,hz⟩:∃ z,z=A % B:=⟨_,rfl⟩;have hzl:z<B:=by rw[hz];exact Nat.mod_lt _ hb
 rw[← hs,← hz] at em;rw[em] at k2;rw[← hs,← hz];have hBu:0<B*u:=Nat.mul_pos hb hu0;have c1:2*r<b↔2*(z+B*s)<B*u:=by
  rw[← Nat.mul_lt_mul_right hBu,Nat.mul_assoc,k2,← Nat.mul_assoc,Nat.mul_comm b,Nat.mul_lt_mul_right hb2]
 have c2:2*r=b↔2*(z+B*s)=B*u:=by
  constructor
  ·intro e;refine Nat.eq_of_mul_eq_mul_right hb2 ?_;rw[Nat.mul_assoc,← k2,← Nat.mul_assoc,e,Nat.mul_comm]
  ·intro e;refine Nat.eq_of_mul_eq_mul_right hBu ?_;rw[Nat.mul_assoc,k2,← Nat.mul_assoc,e,Nat.mul_comm]
 have d1:decide (2*r<b)=decide (2*(z+B*s)<B*u):=decide_eq_decide.2 c1;have d2:decide (2*r=b)=decide (2*(z+B*s)=B*u):=decide_eq_decide.2 c2;rw[d1,d2,show u/2=v by omega,hev];have eB:B*(2*v)=2*(B*v):=by ac_rfl
 rw[eB];rcases Nat.lt_trichotomy s v with h1 | h1 | h1
 ·have:=Nat.mul_le_mul_left B (show s+1≤v by omega);rw[Nat.mul_add,Nat.mul_one] at this;rw[Xa (show 2*(z+B*s)<2*(B*v) by omega),Xb (show ¬ v<s by omega),Xb (show ¬ s=v by omega)];rfl
 ·subst h1;rw[Xb (show ¬ s<s by omega),Xa (show s=s from rfl)];by_cases hz0:z=0
  ·rw[Xb (show ¬ 2*(z+B*s)<2*(B*s) by omega),Xa (show 2*(z+B*s)=2*(B*s) by omega),Xb (show ¬ z≠0 from fun c=>c hz0)];rcases Nat.mod_two_eq_zero_or_one (A/B/(2*s)) with c | c
   ·rw[c];rfl
   ·rw[c];rfl
  ·rw[Xb (show ¬ 2*(z+B*s)<2*(B*s) by omega),Xb (show ¬ 2*(z+B*s)=2*(B*s) by omega),Xa (show z≠0 from hz0)];rfl
 ·have:=Nat.mul_le_mul_left B (show v+1≤s by omega);rw[Nat.mul_add,Nat.mul_one] at this;rw[Xb (show ¬ 2*(z+B*s)<2*(B*v) by omega),Xb (show ¬ 2*(z+B*s)=2*(B*v) by omega),Xa (show v<s from h1)];rfl
def Zcc (p:Int) (n:Nat):Nat:=ZV p (lsP p)/10^(atL p-n)*10^(atL p-n)
def ZbI (p:Int) (n:Nat):Nat:=(ZV p (lsP p)/10^(atL p-n)+1)*10^(atL p-n)
theorem Zvq (h:Fin14 p) (h1:1≤n) (h2:n≤18):ZhR p (lsP p) (Zcc p n)=loB false (mag p) (sg p).toNat (xp p) (frP p) n:=by
 obtain⟨⟨l1,l2⟩,_⟩:=ZbA h;have hf:=ZdX h;have hq:=(ZoD (ZeC h).1 h1).1;have hp:0<10^(n-1):=Nat.pow_pos (by omega);have k1:=(Z4d h (n:=n) h2).1;have hq0:ZV p (lsP p)/10^(atL p-n)≠0:=by rw[← k1];omega
 have ds:=(ZcR 0 false hq0 (atL p-n) (frP p-((n:Int)-1))).1;rw[show frP p-((n:Int)-1)-((atL p-n:Nat):Int)=lsP p by omega] at ds;unfold loB Zcc;rw[← ZoH false h (Zbd hq0 (ZaT _)),ds,k1]
theorem Zvr (h:Fin14 p) (h2:n≤18):ZhR p (lsP p) (ZbI p n)=hiB false (mag p) (sg p).toNat (xp p) (frP p) n:=by
 obtain⟨⟨l1,l2⟩,_⟩:=ZbA h;have hf:=ZdX h;have k1:=(Z4d h (n:=n) h2).1;have hq0:ZV p (lsP p)/10^(atL p-n)+1≠0:=by omega
 have ds:=(ZcR 0 false hq0 (atL p-n) (frP p-((n:Int)-1))).1;rw[show frP p-((n:Int)-1)-((atL p-n:Nat):Int)=lsP p by omega] at ds;unfold hiB ZbI;rw[← ZoH false h (Zbd hq0 (ZaT _)),ds,k1]
theorem ZsV (h:Fin14 p) (h1:1≤n) (h2:n≤nP p):(ZhR p (lsP p) (Zcc p n)=true∨ZhR p (lsP p) (ZbI p n)=true)↔n=nP p:=by
 obtain⟨_,b,c,d⟩:=Zco h;rw[Zvq h h1 (by omega),Zvr h (by omega)];constructor
 ·intro e;rcases Nat.lt_or_ge n (nP p) with l | l
  ·obtain⟨x,y⟩:=d n h1 l;rcases e with e | e
   ·rw[x] at e;cases e
   ·rw[y] at e;cases e
  ·omega
 ·intro e;rw[e];exact c
end
def shV (p:Int):Nat:=if loK false (mag p) (sg p).toNat (xp p) (frP p) (nP p)=true then Zcc p (nP p) else ZbI p (nP p)
theorem Z4e {p:Int}(h:Fin14 p):shV p=if nrU (ZV p (lsP p)) (Zas p (lsP p)) (10^(atL p-nP p))=true then (if ZhR p (lsP p) (ZbI p (nP p))=true then ZbI p (nP p) else Zcc p (nP p)) else (if ZhR p (lsP p) (Zcc p (nP p))=true then Zcc p (nP p) else ZbI p (nP p)):=by
 obtain⟨_,b,c,d⟩:=Zco h;have hn:=Zyu h (n:=nP p) b.2;unfold shV loK;rw[Bool.or_assoc,hn,Zvq h b.1 (by omega),Zvr h (by omega)];clear hn d;generalize Zcc p (nP p)=lo;generalize ZbI p (nP p)=hi;generalize nrU (ZV p (lsP p)) (Zas p (lsP p)) (10^(atL p-nP p))=nu;cases hl:loB false (mag p) (sg p).toNat (xp p) (frP p) (nP p)<;>cases hh:hiB false (mag p) (sg p).toNat (xp p) (frP p) (nP p)<;>cases nu<;>first | rfl | (rw[hl,hh] at c;rcases c with c | c<;>cases c)
theorem ZoK {n f g:Nat}(h:n<10^f) (hf:1≤f) (hg:f≤g):ZaU g n=ZaU f n:=by
 induction f generalizing n g with
 | zero=>omega
 | succ f ih=>
  obtain⟨g,rfl⟩:∃ g',g=g'+1:=⟨g-1,by omega⟩;unfold ZaU;by_cases h10:n<10
  ·rw[if_pos h10,if_pos h10]
  ·have hf0:f≠0:=fun c=>by subst c;simp at h;omega
   rw[if_neg h10,if_neg h10,ih (n:=n/10) (by rw[Nat.pow_succ] at h;omega) (by omega) (by omega)]
theorem Zyv (l:List UInt8) (c:Nat):trR (l++List.replicate c 48)=trR l:=by
 induction c with
 | zero=>rw[List.replicate_zero,List.append_nil]
 | succ c ih=>
  rw[List.replicate_succ',← List.append_assoc,Zb2,if_pos (by decide),ih]
theorem ZsW {k n:Nat}(hk:1≤k) (h:n % 10≠0):trR (fx k n)=fx k n:=by
 obtain⟨k,rfl⟩:∃ k',k=k'+1:=⟨k-1,by omega⟩;have e:fx (k+1) n=fx k (n/10)++[chD (n % 10)]:=rfl;rw[e,Zb2,if_neg (fun c=>h ((ZjZ (by omega)).mp c))]
theorem ZiA {n c v:Nat}(h0:1≤n) (hc:n+c≤20) (h1:10^(n-1)≤v) (h2:v<10^n) (h3:v % 10≠0):trR (dcL (v*10^c))=ZaU n v∧(dcL (v*10^c)).length=n+c:=by
 have a1:10^(n+c-1)≤v*10^c:=by
  rw[show n+c-1=n-1+c by omega,Nat.pow_add];exact Nat.mul_le_mul_right _ h1
 have a2:v*10^c<10^(n+c):=by
  rw[Nat.pow_add];exact Nat.mul_lt_mul_of_pos_right h2 (Nat.pow_pos (by omega))
 have e:dcL (v*10^c)=fx n v++List.replicate c 48:=by
  unfold dcL;rw[ZoK a2 (by omega) hc,← ZdE (by omega) a1 a2,Zvl]
 rw[e,Zyv,ZsW h0 h3,ZdE h0 h1 h2];refine⟨rfl,?_⟩;rw[List.length_append,List.length_replicate,← ZdE h0 h1 h2,Zcw]
theorem ZsX {p:Int}(h:Fin14 p):txL (decide (9223372036854775808≤p)) (trR (dcL (shV p))) (lsP p+((dcL (shV p)).length:Nat)-1)=shS p:=by
 obtain⟨e,b,c,d⟩:=Zco h;obtain⟨⟨l1,l2⟩,_⟩:=ZbA h;have hf:=ZdX h;obtain⟨q1,q2⟩:=ZoD (ZeC h).1 b.1;have k1:=(Z4d h (n:=nP p) (by omega)).1;obtain⟨mn,hmn⟩:∃ mn,mn=decide (9223372036854775808≤p):=⟨_,rfl⟩;rw[e,← hmn];unfold shO shV;rw[ZsQ mn false];have fewer:1<nP p→qD (sg p).toNat (xp p) (frP p) (nP p-1)=qD (sg p).toNat (xp p) (frP p) (nP p)/10∧loB false (mag p) (sg p).toNat (xp p) (frP p) (nP p-1)=false∧hiB false (mag p) (sg p).toNat (xp p) (frP p) (nP p-1)=false:=fun hn=>by
  obtain⟨x,y⟩:=d (nP p-1) (by omega) (by omega);refine⟨?_,x,y⟩;rw[k1,(Z4d h (n:=nP p-1) (by omega)).1,Nat.div_div_eq_div_mul,← Nat.pow_succ];congr 2;omega
 have hp:0<10^(nP p-1):=Nat.pow_pos (by omega);obtain⟨n,hn⟩:∃ n,n=nP p:=⟨_,rfl⟩;rw[← hn] at b q1 q2 k1 fewer c hp ⊢;obtain⟨q,hq⟩:∃ q,q=qD (sg p).toNat (xp p) (frP p) n:=⟨_,rfl⟩;unfold Zcc ZbI hiX;rw[← k1,← hq];clear k1 e d;obtain⟨l,hl⟩:∃ l,l=atL p:=⟨_,rfl⟩;obtain⟨j,hj⟩:∃ j,j=lsP p:=⟨_,rfl⟩;obtain⟨f,hf0⟩:∃ f,f=frP p:=⟨_,rfl⟩;rw[← hf0,← hj,← hl] at hf;rw[← hl] at l1 l2;rw[← hf0] at fewer c hq q1 q2;rw[← hf0,← hj,← hl];clear hl hj hf0 hn;split
 ·rename_i hk;have hlo:=ZoF hk;have h10:q % 10≠0:=by
   intro c0;by_cases h1:n=1
   ·rw[h1] at q1 q2 hq;rw[← hq] at q1 q2;simp at q1 q2;omega
   ·obtain⟨f1,f2,_⟩:=fewer (by omega);rw[← hq] at f1;have hq1:q/10≠0:=by
     have:10^(n-1)=10^(n-2)*10:=by rw[← Nat.pow_succ];congr 1;omega
     have:0<10^(n-2):=Nat.pow_pos (by omega);omega
    have ds:=(ZcR 0 false hq1 1 (f-(((n-1:Nat):Int)-1))).1;rw[Nat.pow_one,show q/10*10=q by omega,show f-(((n-1:Nat):Int)-1)-((1:Nat):Int)=f-((n:Int)-1) by omega] at ds;unfold loB at f2 hlo;rw[f1,← ds] at f2;rw[← hq,f2] at hlo;cases hlo
  rw[← hq] at q1 q2;obtain⟨t1,t2⟩:=ZiA (c:=l-n) b.1 (by omega) q1 q2 h10;rw[t1,t2,show j+((n+(l-n):Nat):Int)-1=f by omega]
 ·rename_i hk;have hhi:hiB false (mag p) (sg p).toNat (xp p) (f) n=true:=by
   rcases c with c | c
   ·cases hh:hiB false (mag p) (sg p).toNat (xp p) (f) n with
    | true=>rfl
    | false=>exact absurd (ZoG c hh) hk
   ·exact c
  have h10:1<n→(q+1) % 10≠0:=by
   intro h1 c0;obtain⟨f1,_,f2⟩:=fewer (by omega);rw[← hq] at f1;have ds:=(ZcR 0 false (show q/10+1≠0 by omega) 1 (f-(((n-1:Nat):Int)-1))).1;rw[Nat.pow_one,show (q/10+1)*10=q+1 by omega,show f-(((n-1:Nat):Int)-1)-((1:Nat):Int)=f-((n:Int)-1) by omega] at ds;unfold hiB at f2 hhi;rw[f1,← ds] at f2;rw[← hq,f2] at hhi;cases hhi
  rw[← hq] at q1 q2;by_cases hc:q+1=10^n
  ·rw[if_pos hc];have h1:n=1:=by
    rcases Nat.lt_or_ge 1 n with c0 | c0
    ·refine absurd ?_ (h10 c0);rw[hc,show n=n-1+1 by omega,Nat.pow_succ];omega
    ·omega
   rw[hc,h1,show 10^1*10^(l-1)=1*10^l by rw[← Nat.pow_add,Nat.one_mul];congr 1;omega];obtain⟨t1,t2⟩:=ZiA (n:=1) (c:=l) (v:=1) (by omega) (by omega) (by decide) (by decide) (by decide);rw[t1,t2,show j+((1+l:Nat):Int)-1=f+1 by omega]
  ·rw[if_neg hc];have h10':(q+1) % 10≠0:=by
    by_cases h1:n=1
    ·rw[h1] at q1 q2 hc;simp at q1 q2 hc;omega
    ·exact h10 (by omega)
   obtain⟨t1,t2⟩:=ZiA (c:=l-n) b.1 (by omega) (show 10^(n-1)≤q+1 by omega) (by omega) h10';rw[t1,t2,show j+((n+(l-n):Nat):Int)-1=f by omega]
end Go.Rd
namespace Go.Proofs.YtgefjidphfdhdaaGreatDoor
open Go.Proofs.Tryz
open Go.KRun Go.Rd Go.RowKit
set_option maxRecDepth 100000
def pwV:List Value:=Lib.pow10Tab.map fun z=>Value.int .u64 z
def pwT:TypeId:=3*za+(1048576*20+2)
def knT (w:World):Prop:=∃ t z,w.heap[2]? =some (.cells pwV.toArray t z)
theorem Zkb {w:World}(h:knT w) {nm:String}(hn:prog.globalNamed nm=some 2):Lib.TabIs prog w nm .u64 Lib.pow10Tab:=by
 obtain⟨t,z,h⟩:=h;unfold Lib.TabIs World.var?;rw[hn];simp only[Option.bind_some];rw[h];rfl
def ZsY:List Value→List Int→Bool
 | [],[]=>true
 | .int .u64 a::r,b::q=>decide (a=b) && ZsY r q
 | _,_=>false
theorem Zkc:∀ {l:List Value}{q:List Int},ZsY l q=true→l=q.map fun z=>Value.int .u64 z
 | [],[],_=>rfl
 | .int .u64 a::r,b::q,h=>by
  unfold ZsY at h;rw[Xh,Xi] at h;rw[List.map_cons,h.1,Zkc h.2]
def isT:Option (List Value×TypeId)→Bool
 | some (cs,ty)=>Nat.beq ty pwT && ZsY cs Lib.pow10Tab
 | none=>false
def Z9z (h:Hp):Bool:=isT (h.blk? 0) || isT (h.blk? 1)
theorem Zvs {o:Option (List Value×TypeId)}(h:isT o=true):o=some (pwV,pwT):=by
 unfold isT at h;split at h
 ·rw[Xh] at h;rw[Xj h.1,Zkc h.2];rfl
 ·cases h
theorem Zgp (m:Mp):pwV.map (mv1 m)=pwV:=rfl
theorem Z4f {m:Mp}{B:Nat}{h:Hp}{w:World}(E:Emb m B h w) (ht:Z9z h=true):knT w:=by
 obtain⟨b,hb⟩:∃ b,h.blk? b=some (pwV,pwT):=by
  unfold Z9z at ht;rw[Bool.or_eq_true] at ht;rcases ht with ht | ht
  ·exact⟨0,Zvs ht⟩
  ·exact⟨1,Zvs ht⟩
 obtain⟨_,r,t,z,k2,k3⟩:=E.abs b _ hb (by kernel_rfl);have e1:nbA pwT=2:=by kernel_rfl
 have e2:lnA pwT=20:=by kernel_rfl
 simp only[Zgp,e1] at k2;simp only[Zgp,e2] at k3;have e3:pwV.length=20:=rfl;have hr:r=[]:=List.length_eq_zero_iff.1 (by omega);rw[hr,List.append_nil] at k2;exact⟨t,z,k2⟩
def Zcx (f:Nat) (g:Ans):Prop:=∀ vals s v s' lg,g vals s=some (v,s',lg)→Zx lg→∀ w,knT w→Calls prog f vals.toArray w fun e w'=>e= .returned v∧Zak w w'
def gT (g:Ans):Zaf:=fun vals h s=>
 match Z9z h && vals.all (lt 0) with
 | true=>
  match g vals s with
  | some (v,s',lg)=>match lt 0 v with | true=>some (v,h,s',lg) | false=>none
  | none=>none
 | false=>none
theorem Zgq {f:Nat}{g:Ans}(hg:Zcx f g):Z8 f (gT g):=by
 intro vals h s v h' s' lg hr hl m B w E hv;unfold gT at hr;split at hr
 ·rename_i hc;rw[Xh] at hc;split at hr
  ·rename_i v1 s1 lg1 hgv;split at hr
   ·rename_i hv0;cases hr;have hst:∀ y∈vals,lt 0 y=true:=List.all_eq_true.1 hc.2;have e:vals.map (mv m)=vals:=(List.map_congr_left fun y hy=>ZC (hst y hy)).trans (List.map_id' _);rw[e];refine (hg _ _ _ _ _ hgv hl w (Z4f E hc.1)).mono fun e w' he=> ?_;obtain⟨E',hb'⟩:=zc E he.2;exact⟨m,by rw[he.1,ZC hv0],⟨Agree.refl _ _,E',hb',Nat.le_refl _,zQ (Nat.zero_le _) hv0⟩⟩
   ·cases hr
  ·cases hr
 ·cases hr
def hT0:Hp:=⟨1,[(pwV,pwT)]⟩
theorem Zfx {b:Nat}{x:List Value×TypeId}(h:hT0.blk? b=some x):x=(pwV,pwT):=by
 have hb0:b=0:=by have:b<1:=Hp.blk_lt h;omega
 subst hb0;exact (Option.some.inj h).symm
theorem ZCj {w:World}(hk:knT w) (m:Mp):nbA pwT<w.heap.size∧absR w (pwV.map (mv1 m)) pwT:=by
 obtain⟨t,z,h⟩:=hk;have e1:nbA pwT=2:=by kernel_rfl
 have e2:lnA pwT=20:=by kernel_rfl
 refine⟨by rw[e1];exact (Array.getElem?_eq_some_iff.1 h).1,[],t,z,?_,.inr ?_⟩
 ·rw[e1,Zgp,List.append_nil,h]
 ·rw[e2];rfl
theorem Zvt {w:World}(hk:knT w):Emb (fun b=>(b,0)) w.heap.size hT0 w where
 len:=rfl
 lies:=fun b x hb hx=>by rw[Zfx hb,show Zae pwT=true from by kernel_rfl] at hx;cases hx
 low:=fun b x hb hx=>by rw[Zfx hb,show ro pwT=true from by kernel_rfl] at hx;cases hx
 ros:=fun b x hb hx=>by rw[Zfx hb,show Zae pwT=true from by kernel_rfl] at hx;cases hx
 inj:=fun b b' x x' hb _ hx=>by rw[Zfx hb,show ro pwT=true from by kernel_rfl] at hx;cases hx
 wf:=fun b x hb v hv=>by
  rw[Zfx hb] at hv;have:∀ v∈pwV,lt1 1 v=true:=List.all_eq_true.1 (by kernel_rfl);exact this v hv
 base:=Nat.le_refl _
 ice:=fun k h1 h2=>by omega
 abs:=fun b x hb _=>by
  rw[Zfx hb];exact ZCj hk _
theorem Zcs {T:Tab}(hT:TabOk T) {n f:Nat}{vals:List Value}{s:List Dec}{v:Value}{cs:Log}(hF:ZB (ZS T hT0 n f vals s) v cs) (hcs:Zx cs) (hvals:(vals.all (lt 0))=true) (hv:lt 0 v=true) {w:World}(hk:knT w):
  Calls T.P f vals.toArray w fun e w'=>e= .returned v∧Zak w w':=Zhd hT hF hcs hvals hv (Zvt hk)
theorem ZoL:∀ {f u:Nat},u<10^(f+1)→Lib.decDigits u=ZaU (f+1) u
 | 0,u,h=>by
  have h10:u<10:=by simpa using h
  rw[Lib.decDigits_one h10];unfold ZaU;rw[if_pos h10];rfl
 | f+1,u,h=>by
  unfold ZaU;by_cases h10:u<10
  ·rw[if_pos h10,Lib.decDigits_one h10];rfl
  ·rw[if_neg h10,Lib.decDigits,dif_neg h10,ZoL (f:=f) (by rw[Nat.pow_succ] at h;omega)];rfl
theorem ZiB {u:Nat}(h:u<18446744073709551616):Lib.decDigits u=dcL u:=ZoL (f:=19) (ZjR h)
theorem ZsZ {n:Int}(h:n.natAbs<18446744073709551616):Lib.itoa n=ZaA n:=by
 unfold Lib.itoa ZaA;split
 ·rw[ZiB h]
 ·rw[show n.toNat=n.natAbs by omega,ZiB h]
theorem Zd0 {w w':World}(h:Below w.heap.size w w'):Zak w w':=⟨h,fun _ _ _=>trivial⟩
theorem ZdF (w:World) (k:Nat) (os:Array Obj):Below w.heap.size w (Go.Sort.grow (w.drewN k) os):=by
 refine⟨rfl,rfl,rfl,?_,fun j hj=> ?_⟩
 ·show w.heap.size≤(w.heap++os).size;rw[Array.size_append];omega
 ·show (w.heap++os)[j]? =w.heap[j]?;rw[Array.getElem?_append_left hj]
theorem Zli (n:Int) (h:n.natAbs≤2000000) (w:World) (hk:knT w):Calls prog 46 #[.int .i64 n] w fun e w'=>e= .returned (bR (ZaA n))∧Zak w w':=by
 refine (Any.strconv_Itoa Zgg n (by omega) (by omega) w (Zkb hk (by kernel_rfl))).mono fun e w' he=> ?_;obtain⟨he,k,os,rfl⟩:=he;refine⟨?_,Zd0 (ZdF w k os)⟩;rw[he,ZsZ (by omega)];rfl
def Z90:Ans:=fun vals s=>
 match vals with
 | [.int .i64 n]=>some (bR (ZaA n),s,[(decide (n.natAbs≤2000000),true)])
 | _=>none
theorem Zyw:Zcx 46 Z90:=by
 intro vals s v s' lg h hl w hk;unfold Z90 at h;split at h
 ·cases h;exact Zli _ (Xc (hl _ Xf)) w hk
 ·cases h
end Go.Proofs.YtgefjidphfdhdaaGreatDoor
namespace Go.Proofs.YtgefjidphfdhdaaGreatDoor
open Go.Proofs.Tryz
open Go.KRun Go.Nt Go.Rd
set_option maxRecDepth 100000
theorem Zta (c:Int) (L:List UInt8) (n:Nat) (x:Lf) (h:∃ (l:List UInt8) (g:Nat→Value),x.1=trF l c++tl 18 g∧x.2.1=⟨0,[]⟩∧trC c l=trC c L∧l.length≤100000∧n=l.length):Runs (Zq prog Zf Zn true) (Z3K f85) x fun e y=>match e with | none=>∃ n',n'<n∧∃ (l:List UInt8) (g:Nat→Value),y.1=trF l c++tl 18 g∧y.2.1=⟨0,[]⟩∧trC c l=trC c L∧l.length≤100000∧n'=l.length | some none=>False | some (some id')=>id'=0∧∃ g:Nat→Value,y.1=trF (trC c L) c++tl 18 g∧y.2.1=⟨0,[]⟩:=by
 obtain⟨l,g,e1,e2,h1,h3,h2⟩:=h;obtain⟨t,hh,s⟩:=x;have e1:t=_:=e1;have e2:hh=_:=e2;subst e1 e2;have T:=Zp Zd;by_cases hn:l=[]
 ·subst hn;refine (Zc T (Z3N [] c g) (Z4 (by decide))).mono fun e z he=> ?_;obtain⟨rfl,⟨g',z1⟩,z2⟩:=he;have:trC c L=[]:=h1.symm;rw[this];exact⟨rfl,g',z1,z2⟩
 ·obtain⟨l',x,hl⟩:∃ l' x,l=l'++[x]:=⟨l.dropLast,l.getLast hn,(List.dropLast_concat_getLast hn).symm⟩;have hlen:l.length=l'.length+1:=by rw[hl,List.length_append];rfl
  have em:lm1 l=(l'.length:Nat):=by unfold lm1;rw[Zw (by omega) (by omega)];omega
  have eb:byR l (lm1 l)=lq8 x:=by
   unfold byR lq8;rw[em,Xg,hl];simp [List.getD]
  have et:l.take (lm1 l).toNat=l':=by
   rw[em,Xg,hl];exact List.take_left' rfl
  have k1:decide (0≤lm1 l∧(lm1 l).toNat<l.length)=true:=Xa (by omega);have k2:decide (((l.length:Nat):Int)>0)=true:=Xa (by omega);by_cases hx:lq8 x=c
  ·have hg:=Z9t l c g;rw[et] at hg;refine (Zc T hg (Za (Xa (by omega)) (Za (by rw[eb];simpa using hx) (Za k1 (Z4 k2))))).mono fun e z he=> ?_;obtain⟨rfl,⟨g',z1⟩,z2⟩:=he;refine⟨l'.length,by omega,l',g',z1,z2,?_,by omega,rfl⟩;rw[← h1,hl,Zgn,if_pos hx]
  ·refine (Zc T (Z3M l c g) (Za (by rw[eb];simpa using hx) (Za k1 (Z4 k2)))).mono fun e z he=> ?_;obtain⟨rfl,⟨g',z1⟩,z2⟩:=he;have:trC c L=l:=by rw[← h1,hl,Zgn,if_neg hx]
   rw[this];exact⟨rfl,g',z1,z2⟩
theorem Zlj (c:Int) (l:List UInt8) (hl:l.length≤100000) (w:World):Calls prog 85 #[bR l,.int .u8 c] w fun r w'=>r= .returned (bR (trC c l))∧Zak w w':=by
 have hT:=Zp Zd;refine zW (T:=Zq prog Zf Zn true) func85 Zyg (by rfl) (by rfl) ?_ w;refine Z2 hT (Z3L l c) Zcb fun g=> ?_;refine Runs.seq (P1:=fun e y=>e=none∧∃ g:Nat→Value,y.1=trF (trC c l) c++tl 18 g∧y.2.1=⟨0,[]⟩) ?_ ?_ (fun e y he=>by cases he.1)
 ·refine (Runs.forLoop (R:=fun _=>False) (P:=fun y=>∃ g:Nat→Value,y.1=trF (trC c l) c++tl 18 g∧y.2.1=⟨0,[]⟩) (fun n x=>∃ (l':List UInt8) (g:Nat→Value),x.1=trF l' c++tl 18 g∧x.2.1=⟨0,[]⟩∧trC c l'=trC c l∧l'.length≤100000∧n=l'.length) (Zta c l) (n:=l.length) ⟨l,g,rfl,rfl,rfl,hl,rfl⟩).mono fun e z hz=> ?_
  match e,hz with
  | none,hz=>exact⟨rfl,hz⟩
 ·intro y he;obtain⟨_,g',e1,e2⟩:=he;obtain⟨t,hh,s⟩:=y;have e1:t=_:=e1;have e2:hh=_:=e2;subst e1 e2;refine (Zc hT (Z3O (trC c l) c g') Zcb).mono fun e z hz=> ?_;obtain⟨rfl,⟨g2,z1⟩,z2⟩:=hz;exact⟨.inr rfl,by rw[z1,z2];rfl⟩
def Z91:Ans:=fun vals s=>
 match vals with
 | [.string b,.int .u8 c]=>some (bR (trC c b.data.toList),s,[(decide (b.data.toList.length≤100000),true)])
 | _=>none
theorem Zyx:zw 85 Z91:=by
 intro vals s v s' lg h hl w;unfold Z91 at h;split at h
 ·cases h;exact Zlj _ _ (Xc (hl _ Xf)) w
 ·cases h
def ZoM:Con:=alt 85 Z91 Zn
theorem ZdY:ConOk ZoM:=ZE func85 rfl Zyx Zd
theorem Z92 (l:List UInt8):ZB (Zr (Zq prog Zf ZoM true) 100 42 [bR l,bR [48]] [sam true]) (bR l) [ZeA l [] true]:=by and_intros<;>kernel_rfl
theorem Z93 (l:List UInt8):ZB (Zr (Zq prog Zf ZoM true) 100 42 [bR l,bR [48]] [sam false]) (bR (trC 48 l)) [(decide (l.length≤100000),true),(true,true),(true,true),ZeA l [] false]:=by and_intros<;>kernel_rfl
theorem Z94 (l:List UInt8):ZB (Zr (Zq prog Zf ZoM true) 100 42 [bR l,bR [57]] [sam true]) (bR l) [ZeA l [] true]:=by and_intros<;>kernel_rfl
theorem Z95 (l:List UInt8):ZB (Zr (Zq prog Zf ZoM true) 100 42 [bR l,bR [57]] [sam false]) (bR (trC 57 l)) [(decide (l.length≤100000),true),(true,true),(true,true),ZeA l [] false]:=by and_intros<;>kernel_rfl
def Z4g:Ans:=fun vals s=>
 match vals with
 | [.string b,.string ⟨⟨[c]⟩⟩]=>some (bR (trC (lq8 c) b.data.toList),s,[(decide (c=48∨c=57),true),(decide (b.data.toList.length≤100000),true)])
 | _=>none
theorem ZiC:zw 42 Z4g:=by
 intro vals s v s' lg h hl w;unfold Z4g at h;split at h
 ·rename_i b c;cases h;have hc:=Xc (hl _ Xe);have h2:=hl _ (Xd _ Xf);by_cases hn:b.data.toList=[]
  ·have hb:b=⟨⟨[]⟩⟩:=by
    apply ByteArray.ext;apply Array.ext';exact hn
   subst hb;rcases hc with rfl | rfl
   ·exact Ze (Zp ZdY) (Z92 []) (Z4 (ZaB (Xa rfl))) (by rfl) (by rfl) w
   ·exact Ze (Zp ZdY) (Z94 []) (Z4 (ZaB (Xa rfl))) (by rfl) (by rfl) w
  ·rcases hc with rfl | rfl
   ·exact Ze (Zp ZdY) (Z93 b.data.toList) (Za h2 (Za rfl (Za rfl (Z4 (ZaB (Xb hn)))))) (by rfl) (by rfl) w
   ·exact Ze (Zp ZdY) (Z95 b.data.toList) (Za h2 (Za rfl (Za rfl (Z4 (ZaB (Xb hn)))))) (by rfl) (by rfl) w
 ·cases h
theorem Zyy (c:UInt8) (n:Nat):Lib.repeatL [c] n=List.replicate n c:=by
 have:=Lib.repeatL_replicate c 1 n;rw[Nat.mul_one] at this;exact this
def Z7p:Ans:=fun vals s=>
 match vals with
 | [.string ⟨⟨[c]⟩⟩,.int .i64 n]=>some (bR (List.replicate n.toNat c),s,[(decide (0≤n∧n≤100000),true)])
 | _=>none
theorem ZoN:zw 72 Z7p:=by
 intro vals s v s' lg h hl w;unfold Z7p at h;split at h
 ·rename_i c n;cases h;obtain⟨h1,h2⟩:=Xc (hl _ Xf);obtain⟨k,rfl⟩:∃ k:Nat,n=k:=⟨n.toNat,by omega⟩;refine (Any.strings_Repeat Zyf Zdy ⟨⟨[c]⟩⟩ k w (by omega) (by show 1*k≤_;omega)).mono fun e w' he=> ?_;refine⟨?_,Zd0 he.2⟩;rw[he.1,Zyy];rfl
 ·cases h
theorem Z4h:∀ l r:List UInt8,Lib.compareBytes l r=cmS l r
 | [],[]=>rfl
 | [],_::_=>rfl
 | _::_,[]=>rfl
 | a::l,b::r=>by
  unfold Lib.compareBytes cmS;have e1:(a<b)=(lq8 a<lq8 b):=by
   unfold lq8;rw[UInt8.lt_iff_toNat_lt];apply propext;omega
  have e2:(b<a)=(lq8 b<lq8 a):=by
   unfold lq8;rw[UInt8.lt_iff_toNat_lt];apply propext;omega
  by_cases h1:a<b
  ·rw[if_pos h1,if_pos (e1.mp h1)]
  ·rw[if_neg h1,if_neg (fun c=>h1 (e1.mpr c))];by_cases h2:b<a
   ·rw[if_pos h2,if_pos (e2.mp h2)]
   ·rw[if_neg h2,if_neg (fun c=>h2 (e2.mpr c)),Z4h l r]
def Z96:Ans:=fun vals s=>
 match vals with
 | [.string a,.string b]=>some (.int .i64 (cmS a.data.toList b.data.toList),s,[])
 | _=>none
theorem ZiD (w:World):Zak w w:=⟨Go.RowKit.Below.refl _ _,fun k h1 h2=>by omega⟩
theorem Zyz:zw 125 Z96:=by
 intro vals s v s' lg h hl w;unfold Z96 at h;split at h
 ·rename_i a b;cases h;refine (Any.strings_Compare Zye a b w).mono fun e w' he=> ?_;obtain⟨he,rfl⟩:=he;exact⟨by rw[he,Z4h],ZiD _⟩
 ·cases h
end Go.Proofs.YtgefjidphfdhdaaGreatDoor
namespace Go.Proofs.YtgefjidphfdhdaaGreatDoor
open Go.Proofs.Tryz
open Go.IntKind
open Go.KRun Go.Pt
set_option maxRecDepth 100000
def gU (k:Int→Value):Ans:=fun vals s=>
 match vals with
 | [.int .u64 p]=>some (k p,s,[(decide (U p),true)])
 | _=>none
theorem Zlk {f:Nat}{k:Int→Value}(hk:∀ p:Int,U p→∀ w,Calls prog f #[.int .u64 p] w fun e w'=>e= .returned (k p)∧Zak w w'):zw f (gU k):=by
 intro vals s v s' lg h hl w;unfold gU at h;split at h
 ·cases h;exact hk _ (Xc (hl _ Xf)) w
 ·cases h
theorem Ztb (p:Int):ZB (Zr (Zq prog Zf Zn true) 300 114 [.int .u64 p] []) (.int .u64 (Z8G p 9223372036854775808)) []:=by and_intros<;>kernel_rfl
theorem Z4i:zw 114 (gU fun p=> .int .u64 (mag p)):=Zlk fun p hp w=>by
 have:=Ze (Zp Zd) (Ztb p) (fun x hx=>by cases hx) (by rfl) (by rfl) w;rw[ZnD hp] at this;exact this
def Zid:Con:=alt 114 (gU fun p=> .int .u64 (mag p)) Zn
theorem Zc3:ConOk Zid:=ZE func114 rfl Z4i Zd
def exM (p:Int):Int:=i64.wrap ((mag p).fdiv (2^min (52:Int).toNat 64))
theorem Zvu (p:Int):exM p=ex p:=by
 have e:((2:Int)^min (52:Int).toNat 64)=4503599627370496:=by rfl
 unfold exM;rw[e,Int.fdiv_eq_ediv_of_nonneg _ (by omega),Z29];have:=Zir p;exact Zj3 ⟨by omega,by omega⟩
def frM (p:Int):Int:=Zj2 p 4503599627370495
def lX (p:Int) (l:Log):Log:=(decide ((52:Int)<0),false)::(decide (U p),true)::l
theorem Z97 {p:Int}(hp:U p):Zx (lX p []):=Za rfl (Z4 (Xa hp))
def lQ (p:Int):Bool:=Zj2 (frM p) 2251799813685248 !=0
theorem ZoO (p:Int) (d:Bool):ZB (Zr (Zq prog Zf Zid true) 300 58 [.int .u64 p] [cmp true,cmp d]) (.int .i64 (match d with | true=>0 | false=>1)) ((frM p==0,d)::(exM p==0,true)::lX p []):=by
 cases d<;>exact by and_intros<;>kernel_rfl
theorem ZiE (p:Int):ZB (Zr (Zq prog Zf Zid true) 300 58 [.int .u64 p] [cmp false,cmp true,cmp true]) (.int .i64 3) ((frM p==0,true)::(exM p==2047,true)::(exM p==0,false)::lX p []):=by and_intros<;>kernel_rfl
theorem ZoP (p:Int) (d:Bool):ZB (Zr (Zq prog Zf Zid true) 300 58 [.int .u64 p] [cmp false,cmp true,cmp false,cmp d]) (.int .i64 (match d with | true=>4 | false=>5)) ((lQ p,d)::(frM p==0,false)::(exM p==2047,true)::(exM p==0,false)::lX p []):=by
 cases d<;>exact by and_intros<;>kernel_rfl
theorem ZoQ (p:Int):ZB (Zr (Zq prog Zf Zid true) 300 58 [.int .u64 p] [cmp false,cmp false]) (.int .i64 2) ((exM p==2047,false)::(exM p==0,false)::lX p []):=by and_intros<;>kernel_rfl
theorem ZoR {p:Int}(hp:U p):frM p=fr p:=ZnE hp
theorem Z98 {p:Int}(hp:U p):lQ p=decide (2251799813685248≤fr p):=by
 have:=ZeR p;unfold lQ;rw[ZoR hp,ZkZ ⟨by omega,by omega⟩];by_cases h:2251799813685248≤fr p
 ·rw[Xa h,show fr p/2251799813685248=1 from by omega];rfl
 ·rw[Xb h,show fr p/2251799813685248=0 from by omega];rfl
theorem Zvv:zw 58 (gU fun p=> .int .i64 (cl p)):=Zlk fun p hp w=>by
 have hl:=Z97 hp;have ee:=Zvu p;have ef:=ZoR hp;unfold cl;by_cases h0:ex p=0
 ·rw[if_pos h0];have:=Ze (Zp Zc3) (ZoO p (frM p==0)) (Za rfl (Za (by rw[ee];simp [h0]) hl)) (by rfl) (by cases (frM p==0)<;>rfl) w;rw[ef] at this;by_cases h1:fr p=0
  ·rw[if_pos h1];rw[show (fr p==0)=true from by simp [h1]] at this;exact this
  ·rw[if_neg h1];rw[show (fr p==0)=false from by simp [h1]] at this;exact this
 ·rw[if_neg h0];by_cases h2:ex p=2047
  ·rw[if_pos h2];by_cases h1:fr p=0
   ·rw[if_pos h1];exact Ze (Zp Zc3) (ZiE p) (Za (by rw[ef];simp [h1]) (Za (by rw[ee];simp [h2]) (Za (by rw[ee];simp [h0]) hl))) (by rfl) (by rfl) w
   ·rw[if_neg h1];have:=Ze (Zp Zc3) (ZoP p (lQ p)) (Za rfl (Za (by rw[ef];simp [h1]) (Za (by rw[ee];simp [h2]) (Za (by rw[ee];simp [h0]) hl)))) (by rfl) (by cases (lQ p)<;>rfl) w;rw[Z98 hp] at this;by_cases h3:2251799813685248≤fr p
    ·rw[if_pos h3];rw[Xa h3] at this;exact this
    ·rw[if_neg h3];rw[Xb h3] at this;exact this
  ·rw[if_neg h2];exact Ze (Zp Zc3) (ZoQ p) (Za (by rw[ee];simp [h2]) (Za (by rw[ee];simp [h0]) hl)) (by rfl) (by rfl) w
def Zji:Con:=alt 58 (gU fun p=> .int .i64 (cl p)) Zid
theorem Zdm:ConOk Zji:=ZE func58 rfl Zvv Zc3
def vP (m:Bool) (c e s:Int):Value:= .agg #[.bool m,.int .i64 c,.int .i64 e,.int .u64 s]
def vT (p:Int):Value:=vP (sgn p) (cl p) (xp p) (sg p)
def lS (p:Int) (d:Bool):Bool×Bool:=(Zj2 p 9223372036854775808 !=0,d)
def lU (p:Int):Bool×Bool:=(decide (U p),true)
theorem ZiF (p:Int) (d:Bool):ZB (Zr (Zq prog Zf Zji true) 300 20 [.int .u64 p] [cmp d,cmp true]) (vP d (cl p) (-1074) (frM p)) [(cl p==0,true),lU p,lS p d]:=by and_intros<;>kernel_rfl
theorem ZoS (p:Int) (d:Bool):ZB (Zr (Zq prog Zf Zji true) 300 20 [.int .u64 p] [cmp d,cmp false,cmp true]) (vP d (cl p) (-1074) (frM p)) [(cl p==1,true),(cl p==0,false),lU p,lS p d]:=by and_intros<;>kernel_rfl
theorem Zll (p:Int) (d:Bool):ZB (Zr (Zq prog Zf Zji true) 300 20 [.int .u64 p] [cmp d,cmp false,cmp false,cmp true]) (vP d (cl p) (i64.wrap (exM p-1075)) (bOr (frM p) 4503599627370496)) [(decide ((52:Int)<0),false),lU p,(cl p==2,true),(cl p==1,false),(cl p==0,false),lU p,lS p d]:=by and_intros<;>kernel_rfl
theorem Zlm (p:Int) (d:Bool):ZB (Zr (Zq prog Zf Zji true) 300 20 [.int .u64 p] [cmp d,cmp false,cmp false,cmp false]) (vP d (cl p) 0 (frM p)) [(cl p==2,false),(cl p==1,false),(cl p==0,false),lU p,lS p d]:=by and_intros<;>kernel_rfl
theorem Zy0 {p:Int}(hp:U p):(Zj2 p 9223372036854775808 !=0)=sgn p:=by
 rw[ZnF hp];unfold sgn;unfold U at hp;by_cases h:9223372036854775808≤p
 ·rw[Xa h,show p/9223372036854775808=1 from by omega];rfl
 ·rw[Xb h,show p/9223372036854775808=0 from by omega];rfl
theorem Zgr (p:Int):(ex p=0∧(cl p=0∨cl p=1))∨(ex p=2047∧3≤cl p)∨(ex p≠0∧ex p≠2047∧cl p=2):=by
 unfold cl;split
 ·split<;>omega
 ·split
  ·split
   ·omega
   ·split<;>omega
  ·omega
theorem Zy1 {p:Int}:bOr (fr p) 4503599627370496=fr p+4503599627370496:=by
 have:=ZeR p;rw[or_low 52 (z:=1) (by omega) (by rfl) this.1 (show fr p<2^52 from this.2) (by omega)];omega
theorem Zln (p:Int) (hp:U p) (w:World):Calls prog 20 #[.int .u64 p] w fun e w'=>e= .returned (vT p)∧Zak w w':=by
 have hu:decide (U p)=true:=Xa hp;have hs:=Zy0 hp;have hf:=ZoR hp;have he:=Zvu p;have hx:=Zir p;unfold vT xp sg;rcases Zgr p with ⟨h1,h2⟩ | ⟨h1,h2⟩ | ⟨h1,h2,h3⟩
 ·rw[if_pos h1,if_pos h1];rcases h2 with h2 | h2
  ·have:=Ze (Zp Zdm) (ZiF p (sgn p)) (Za (by simp [h2]) (Za hu (Z4 hs))) (by rfl) (by rfl) w;rw[hf] at this;exact this
  ·have:=Ze (Zp Zdm) (ZoS p (sgn p)) (Za (by simp [h2]) (Za (by simp [h2]) (Za hu (Z4 hs)))) (by rfl) (by rfl) w;rw[hf] at this;exact this
 ·have h0:¬ ex p=0:=by omega
  simp only[if_neg h0,if_pos h1];have h3:¬ cl p=0:=by omega
  have h4:¬ cl p=1:=by omega
  have h5:¬ cl p=2:=by omega
  have:=Ze (Zp Zdm) (Zlm p (sgn p)) (Za (by simp [h5]) (Za (by simp [h4]) (Za (by simp [h3]) (Za hu (Z4 hs))))) (by rfl) (by rfl) w;rw[hf] at this;exact this
 ·rw[if_neg h1,if_neg h1,if_neg h2,if_neg h2];have:=Ze (Zp Zdm) (Zll p (sgn p)) (Za rfl (Za hu (Za (by simp [h3]) (Za (by simp [h3]) (Za (by simp [h3]) (Za hu (Z4 hs))))))) (by rfl) (by rfl) w;rw[hf,he,Zj3 ⟨by omega,by omega⟩,Zy1] at this;exact this
def exR (p:Int):Int:=(u64.wrap (p.tdiv 4503599627370496)).tmod 2048
def frR (p:Int):Int:=p.tmod 4503599627370496
def lR (p:Int) (d:Bool):Log:=[(decide (p≥9223372036854775808),d),(decide ((4503599627370496:Int)=0),false),(decide ((2048:Int)=0),false)]
theorem ZoT (p:Int) (d:Bool):ZB (Zr (Zq prog Zf Zn true) 300 47 [.int .u64 p] [cmp true,cmp true,cmp d,cmp false,cmp false]) (vP d 2 (i64.wrap (i64.wrap (exR p)-1075)) (u64.wrap (frR p+4503599627370496))) ((exR p==0,false)::(exR p==2047,false)::lR p d):=by and_intros<;>kernel_rfl
theorem ZoU (p:Int) (d:Bool):ZB (Zr (Zq prog Zf Zn true) 300 47 [.int .u64 p] [cmp true,cmp true,cmp d,cmp true,cmp true]) (vP d 4 0 (frR p)) ((decide (frR p≥2251799813685248),true)::(exR p==2047,true)::lR p d):=by and_intros<;>kernel_rfl
theorem Zh3 (p:Int) (d b:Bool):ZB (Zr (Zq prog Zf Zn true) 300 47 [.int .u64 p] [cmp true,cmp true,cmp d,cmp true,cmp false,cmp b]) (vP d (match b with | true=>5 | false=>3) 0 (frR p)) ((decide (frR p>0),b)::(decide (frR p≥2251799813685248),false)::(exR p==2047,true)::lR p d):=by
 cases b<;>exact by and_intros<;>kernel_rfl
theorem Zh4 (p:Int) (d b:Bool):ZB (Zr (Zq prog Zf Zn true) 300 47 [.int .u64 p] [cmp true,cmp true,cmp d,cmp false,cmp true,cmp b]) (vP d (match b with | true=>1 | false=>0) (-1074) (frR p)) ((decide (frR p>0),b)::(exR p==0,true)::(exR p==2047,false)::lR p d):=by
 cases b<;>exact by and_intros<;>kernel_rfl
theorem Z4j {p:Int}(hp:U p):exR p=ex p:=by
 unfold exR ex U at*;rw[Int.tdiv_eq_ediv_of_nonneg hp.1,wrapU' ⟨by omega,by omega⟩,Int.tmod_eq_emod_of_nonneg (by omega)]
theorem Z4k {p:Int}(hp:U p):frR p=fr p:=by unfold frR fr U at*;rw[Int.tmod_eq_emod_of_nonneg hp.1]
theorem ZoV (p:Int) (hp:U p) (w:World):Calls prog 47 #[.int .u64 p] w fun e w'=>e= .returned (vT p)∧Zak w w':=by
 have hl:Zx (lR p (sgn p)):=Za rfl (Za rfl (Z4 rfl));have hf:=Z4k hp;have he:=Z4j hp;have hx:=Zir p;have hy:=ZeR p;unfold vT xp sg cl;by_cases h0:ex p=0
 ·simp only[if_pos h0];by_cases h1:fr p=0
  ·simp only[if_pos h1];have:=Ze (Zp Zd) (Zh4 p (sgn p) false) (Za (by rw[hf];simp [h1]) (Za (by rw[he];simp [h0]) (Za (by rw[he];simp [h0]) hl))) (by rfl) (by rfl) w;rw[hf] at this;exact this
  ·simp only[if_neg h1];have:=Ze (Zp Zd) (Zh4 p (sgn p) true) (Za (by rw[hf];exact Xa (by omega)) (Za (by rw[he];simp [h0]) (Za (by rw[he];simp [h0]) hl))) (by rfl) (by rfl) w;rw[hf] at this;exact this
 ·simp only[if_neg h0];by_cases h2:ex p=2047
  ·simp only[if_pos h2];by_cases h3:2251799813685248≤fr p
   ·simp only[if_pos h3,if_neg (show ¬ fr p=0 by omega)];have:=Ze (Zp Zd) (ZoU p (sgn p)) (Za (by rw[hf];exact Xa h3) (Za (by rw[he];simp [h2]) hl)) (by rfl) (by rfl) w;rw[hf] at this;exact this
   ·by_cases h1:fr p=0
    ·simp only[if_pos h1];have:=Ze (Zp Zd) (Zh3 p (sgn p) false) (Za (by rw[hf];simp [h1]) (Za (by rw[hf];exact Xb h3) (Za (by rw[he];simp [h2]) hl))) (by rfl) (by rfl) w;rw[hf] at this;exact this
    ·simp only[if_neg h1,if_neg h3];have:=Ze (Zp Zd) (Zh3 p (sgn p) true) (Za (by rw[hf];exact Xa (by omega)) (Za (by rw[hf];exact Xb h3) (Za (by rw[he];simp [h2]) hl))) (by rfl) (by rfl) w;rw[hf] at this;exact this
  ·simp only[if_neg h2];have:=Ze (Zp Zd) (ZoT p (sgn p)) (Za (by rw[he];simp [h0]) (Za (by rw[he];simp [h2]) hl)) (by rfl) (by rfl) w;rw[hf,he,Zj3 (n:=ex p) ⟨by omega,by omega⟩,Zj3 ⟨by omega,by omega⟩,wrapU' ⟨by omega,by omega⟩] at this;exact this
theorem Zvw:zw 47 (gU vT):=Zlk ZoV
end Go.Proofs.YtgefjidphfdhdaaGreatDoor
namespace Go.Proofs.YtgefjidphfdhdaaGreatDoor
open Go.Proofs.Tryz
open Go.IntKind
open Go.KRun Go.Nt Go.Rd
set_option maxRecDepth 100000
set_option linter.unusedVariables false
def Zh5:Con:=alt 42 Z4g (alt 72 Z7p (alt 125 Z96 Zn))
theorem Zb4:ConOk Zh5:=ZE func42 rfl ZiC (ZE func72 rfl ZoN (ZE func125 rfl Zyz Zd))
def mnL (b:Bool):List UInt8:=if b=true then [45] else []
theorem Z4l:ZB (Zr (Zq prog Zf Zh5 true) 100 44 [.bool true] []) (bR [45]) []:=by and_intros<;>kernel_rfl
theorem Z4m:ZB (Zr (Zq prog Zf Zh5 true) 100 44 [.bool false] []) (bR []) []:=by and_intros<;>kernel_rfl
def Z4n:Ans:=fun vals s=>
 match vals with
 | [.bool b]=>some (bR (mnL b),s,[])
 | _=>none
theorem ZiG:zw 44 Z4n:=by
 intro vals s v s' lg h hl w;unfold Z4n at h;split at h
 ·rename_i b;cases h;cases b with
  | true=>exact Ze (Zp Zb4) Z4l Zcb (by rfl) (by rfl) w
  | false=>exact Ze (Zp Zb4) Z4m Zcb (by rfl) (by rfl) w
 ·cases h
def ptL (l:List UInt8):List UInt8:=match l with | []=>[] | [c]=>[c] | c::r=>c::46::r
theorem Z4o (l:List UInt8):ZB (Zr (Zq prog Zf Zh5 true) 100 45 [bR l] [cmp true]) (bR l) [((((l.length:Nat):Int)==1),true)]:=by and_intros<;>kernel_rfl
theorem Z4p (l:List UInt8):ZB (Zr (Zq prog Zf Zh5 true) 100 45 [bR l] [cmp false,sam true,sam true,sam true,sam true]) (bR ((l.take 1++[46])++l.drop 1)) [(decide ((l.take 1++[46]).length+(l.drop 1).length≤9223372036854775807),true),(decide ((0:Int)≤1∧(1:Int)≤((l.length:Nat):Int)),true),(decide ((l.take 1).length+1≤9223372036854775807),true),(decide ((0:Int)≤1∧(1:Int)≤((l.length:Nat):Int)),true),((((l.length:Nat):Int)==1),false)]:=by and_intros<;>kernel_rfl
def Z7q:Ans:=fun vals s=>
 match vals with
 | [.string b]=>some (bR (ptL b.data.toList),s,[(decide (1≤b.data.toList.length∧b.data.toList.length≤100000),true)])
 | _=>none
theorem ZoW:zw 45 Z7q:=by
 intro vals s v s' lg h hl w;unfold Z7q at h;split at h
 ·rename_i b;cases h;obtain⟨h1,h2⟩:=Xc (hl _ Xf);obtain⟨l,hL⟩:∃ l,l=b.data.toList:=⟨_,rfl⟩;have eb:Value.string b=bR l:=by rw[hL];rfl
  rw[eb,← hL];rw[← hL] at h1 h2
  match l,h1,h2 with
  | [c],_,_=>exact Ze (Zp Zb4) (Z4o [c]) (Z4 rfl) (by rfl) (by rfl) w
  | c::d::r,h1,h2=>
   have lr:(c::d::r).length=r.length+2:=rfl;have f:=Z4p (c::d::r);refine Ze (Zp Zb4) f (Za (Xa (by show 2+(r.length+1)≤_;omega)) (Za (Xa ⟨by omega,by omega⟩) (Za (Xa (by show 1+1≤_;omega)) (Za (Xa ⟨by omega,by omega⟩) (Z4 (ZI (by omega))))))) (by rfl) (by rfl) w
 ·cases h
def Zy2:Con:=alt 44 Z4n Zh5
theorem Zkd:ConOk Zy2:=ZE func44 rfl ZiG Zb4
def nmL (m:Bool) (c:Int):List UInt8:=if c=3 then mnL m++[105,110,102] else [110,97,110]
theorem Z4q (m:Bool) (c e s:Int):ZB (Zr (Zq prog Zf Zy2 true) 100 22 [vP m c e s] [cmp true,sam true]) (bR (mnL m++[105,110,102])) [(decide ((mnL m).length+3≤9223372036854775807),true),(c==3,true)]:=by and_intros<;>kernel_rfl
theorem Z4r (m:Bool) (c e s:Int):ZB (Zr (Zq prog Zf Zy2 true) 100 22 [vP m c e s] [cmp false]) (bR [110,97,110]) [(c==3,false)]:=by and_intros<;>kernel_rfl
theorem Zgs (b:Bool):(mnL b).length≤1:=by cases b<;>decide
def vP4:Value→Option (Bool×Int×Int×Int)
 | .agg cs=>
  match cs.toList with
  | [.bool m,.int .i64 c,.int .i64 e,.int .u64 s]=>some (m,c,e,s)
  | _=>none
 | _=>none
theorem ZcU {v:Value}{m:Bool}{c e s:Int}(h:vP4 v=some (m,c,e,s)):v=vP m c e s:=by
 unfold vP4 at h;split at h
 ·rename_i cs;split at h
  ·rename_i hc;cases h;obtain⟨l⟩:=cs;simp only at hc;subst hc;rfl
  ·cases h
 ·cases h
def Z7r:Ans:=fun vals s=>
 match vals with
 | [v]=>
  match vP4 v with
  | some (m,c,_,_)=>some (bR (nmL m c),s,[])
  | none=>none
 | _=>none
theorem ZoX:zw 22 Z7r:=by
 intro vals s v s' lg h hl w;unfold Z7r at h;split at h
 ·split at h
  ·rename_i m c e q hv;rw[ZcU hv];cases h;unfold nmL;have:=Zgs m;by_cases hc:c=3
   ·rw[if_pos hc];exact Ze (Zp Zkd) (Z4q m c e q) (Za (Xa (by omega)) (Z4 (ZQ hc))) (by rfl) (by rfl) w
   ·rw[if_neg hc];exact Ze (Zp Zkd) (Z4r m c e q) (Z4 (ZI hc)) (by rfl) (by rfl) w
  ·cases h
 ·cases h
theorem ZoY {k:Nat}(h:k<128):(Utf8.encode ((k:Nat):Int)).data.toList=[UInt8.ofNat k]:=by
 have hv:Utf8.valid ((k:Nat):Int)=true:=by
  unfold Utf8.valid;simp;omega
 unfold Utf8.encode;simp [hv,h]
def nxK (l:List UInt8):Int:=i64.wrap (((l.length:Nat):Int)-((trC 57 l).length:Nat))
def nxE (l:List UInt8):Int:=i64.wrap (((trC 57 l).length:Int)-1)
def nxC (l:List UInt8):List UInt8:=(Utf8.encode (u8.wrap ((((trC 57 l).getD (nxE l).toNat 0).toNat:Int)+1))).data.toList
theorem Z4s (l:List UInt8):ZB (Zr (Zq prog Zf Zh5 true) 100 74 [bR l] [sam true,sam true]) (bR ([49]++List.replicate (nxK l).toNat 48)) [(decide (1+(List.replicate (nxK l).toNat (48:UInt8)).length≤9223372036854775807),true),ZeA (trC 57 l) [] true,(decide (0≤nxK l∧nxK l≤100000),true),(true,true),(decide (l.length≤100000),true)]:=by and_intros<;>kernel_rfl
theorem Z4t (l:List UInt8):ZB (Zr (Zq prog Zf Zh5 true) 100 74 [bR l] [sam false,sam true,sam true,sam true]) (bR (((trC 57 l).take (nxE l).toNat++nxC l)++List.replicate (nxK l).toNat 48)) [(decide (((trC 57 l).take (nxE l).toNat++nxC l).length+(List.replicate (nxK l).toNat (48:UInt8)).length≤9223372036854775807),true),(decide (((trC 57 l).take (nxE l).toNat).length+(nxC l).length≤9223372036854775807),true),(decide (0≤nxE l∧(nxE l).toNat<(trC 57 l).length),true),(decide (0≤nxE l∧nxE l≤((trC 57 l).length:Int)),true),ZeA (trC 57 l) [] false,(decide (0≤nxK l∧nxK l≤100000),true),(true,true),(decide (l.length≤100000),true)]:=by and_intros<;>kernel_rfl
theorem Zy3 {b c:Int}{l:List UInt8}(h:Zaw b l=true):Zaw b (trC c l)=true:=by
 unfold Zaw at*;rw[List.all_eq_true] at*;intro x hx;refine h x ?_;unfold trC at hx;rw[List.mem_reverse] at hx;have:=(List.dropWhile_sublist (l:=l.reverse) fun x=>lq8 x==c).subset hx;simpa using this
theorem Zvx {l:List UInt8}(h:Zaw 10 l=true) {i:Nat}(hi:i<l.length):48≤lq8 (l.getD i 0)∧lq8 (l.getD i 0)≤57:=by
 have:0≤zA (lq8 (l.getD i 0)) 10:=by
  unfold Zaw at h;refine Xc (List.all_eq_true.1 h _ ?_);rw[List.getD_eq_getElem?_getD,List.getElem?_eq_getElem hi,Option.getD_some];exact List.getElem_mem hi
 exact Zbe this
theorem ZoZ (l:List UInt8) (h1:Zaw 10 l=true) (h2:l.length≤100000) (w:World):Calls prog 74 #[bR l] w fun e w'=>e= .returned (bR (Zb3 l))∧Zak w w':=by
 have hlen:=Zgo 57 l;have ek:nxK l=((l.length-(trC 57 l).length:Nat):Int):=by unfold nxK;rw[Zw (by omega) (by omega)];omega
 have kk:decide (0≤nxK l∧nxK l≤100000)=true:=Xa (by omega);have kl:decide (l.length≤100000)=true:=Xa h2;unfold Zb3;by_cases hn:trC 57 l=[]
 ·have f:=Z4s l;rw[ek,Xg] at f;rw[ek] at kk;rw[if_pos hn];exact Ze (Zp Zb4) f (Za (Xa (by rw[List.length_replicate];omega)) (Za (ZaB (Xa hn)) (Za kk (Za rfl (Z4 kl))))) (by rfl) (by rfl) w
 ·have hp:0<(trC 57 l).length:=List.length_pos_iff.2 hn;have ee:nxE l=(((trC 57 l).length-1:Nat):Int):=by unfold nxE;rw[Zw (by omega) (by omega)];omega
  obtain⟨b1,b2⟩:=Zvx (Zy3 (c:=57) h1) (i:=(trC 57 l).length-1) (by omega);have ec:nxC l=[UInt8.ofNat ((trC 57 l).getD ((trC 57 l).length-1) 0+1).toNat]:=by
   unfold nxC;unfold lq8 at b1 b2;obtain⟨x,hx⟩:∃ x,x=(trC 57 l).getD ((trC 57 l).length-1) 0:=⟨_,rfl⟩;rw[ee,Xg,← hx];rw[← hx] at b1 b2;have e1:u8.wrap (((x.toNat:Nat):Int)+1)=((x.toNat+1:Nat):Int):=by rw[Zvd (by omega) (by omega)];omega
   have e2:(x+1).toNat=x.toNat+1:=by
    rw[UInt8.toNat_add];have:(1:UInt8).toNat=1:=rfl;omega
   rw[e1,ZoY (by omega),e2]
  have f:=Z4t l;rw[ec,ek,ee,Xg,Xg] at f;rw[ek] at kk;rw[if_neg hn];have lt:=List.length_take_le ((trC 57 l).length-1) (trC 57 l);exact Ze (Zp Zb4) f (Za (Xa (by rw[List.length_append,List.length_replicate,List.length_singleton];omega)) (Za (Xa (by rw[List.length_singleton];omega)) (Za (Xa (by omega)) (Za (Xa (by omega)) (Za (ZaB (Xb hn)) (Za kk (Za rfl (Z4 kl)))))))) (by rfl) (by rfl) w
def Z99:Ans:=fun vals s=>
 match vals with
 | [.string b]=>some (bR (Zb3 b.data.toList),s,[(Zaw 10 b.data.toList,true),(decide (b.data.toList.length≤100000),true)])
 | _=>none
theorem Zy4:zw 74 Z99:=by
 intro vals s v s' lg h hl w;unfold Z99 at h;split at h
 ·cases h;exact ZoZ _ (hl _ Xe) (Xc (hl _ (Xd _ Xf))) w
 ·cases h
def guO (k:List UInt8):Int:=u8.wrap (((k.getD (i64.wrap (((k.length:Nat):Int)-1)).toNat 0).toNat:Int)-48)
theorem Z4u (k r:List UInt8) (mn:Bool) (m:Int):ZB (Zr (Zq prog Zf Zh5 true) 100 73 [bR k,bR r,.bool mn,.int .i64 m] [sam true]) (.bool false) [ZeA (trC 48 r) [] true,(true,true),(decide (r.length≤100000),true)]:=by and_intros<;>kernel_rfl
theorem Z4v (k r:List UInt8) (mn:Bool) (m:Int):ZB (Zr (Zq prog Zf Zh5 true) 100 73 [bR k,bR r,.bool mn,.int .i64 m] [sam false,cmp true]) (.bool false) [(m==2,true),ZeA (trC 48 r) [] false,(true,true),(decide (r.length≤100000),true)]:=by and_intros<;>kernel_rfl
theorem Z4w (k r:List UInt8) (mn:Bool) (m:Int):ZB (Zr (Zq prog Zf Zh5 true) 100 73 [bR k,bR r,.bool mn,.int .i64 m] [sam false,cmp false,cmp true]) (.bool (!mn)) [(m==3,true),(m==2,false),ZeA (trC 48 r) [] false,(true,true),(decide (r.length≤100000),true)]:=by and_intros<;>kernel_rfl
theorem Z4x (k r:List UInt8) (mn:Bool) (m:Int):ZB (Zr (Zq prog Zf Zh5 true) 100 73 [bR k,bR r,.bool mn,.int .i64 m] [sam false,cmp false,cmp false,cmp true]) (.bool mn) [(m==4,true),(m==3,false),(m==2,false),ZeA (trC 48 r) [] false,(true,true),(decide (r.length≤100000),true)]:=by and_intros<;>kernel_rfl
theorem Z4y (k r:List UInt8) (mn:Bool) (m:Int) (d:Bool):ZB (Zr (Zq prog Zf Zh5 true) 100 73 [bR k,bR r,.bool mn,.int .i64 m] [sam false,cmp false,cmp false,cmp false,cmp true,cmp d]) (.bool d) [(decide (cmS (trC 48 r) [53]≥0),d),(m==1,true),(m==4,false),(m==3,false),(m==2,false),ZeA (trC 48 r) [] false,(true,true),(decide (r.length≤100000),true)]:=by and_intros<;>kernel_rfl
theorem Zy5 (k r:List UInt8) (mn:Bool) (m:Int) (d:Bool):ZB (Zr (Zq prog Zf Zh5 true) 100 73 [bR k,bR r,.bool mn,.int .i64 m] [sam false,cmp false,cmp false,cmp false,cmp false,cmp false,cmp d,cmp true]) (.bool true) [(decide (cmS (trC 48 r) [53]>0),true),((guO k).tmod 2==1,d),(decide ((2:Int)=0),false),(decide (0≤i64.wrap (((k.length:Nat):Int)-1)∧(i64.wrap (((k.length:Nat):Int)-1)).toNat<k.length),true),(m==1,false),(m==4,false),(m==3,false),(m==2,false),ZeA (trC 48 r) [] false,(true,true),(decide (r.length≤100000),true)]:=by and_intros<;>kernel_rfl
theorem Zy6 (k r:List UInt8) (mn:Bool) (m:Int) (d:Bool):ZB (Zr (Zq prog Zf Zh5 true) 100 73 [bR k,bR r,.bool mn,.int .i64 m] [sam false,cmp false,cmp false,cmp false,cmp false,cmp false,cmp d,cmp false,cmp true]) (.bool d) [(cmS (trC 48 r) [53]==0,true),(decide (cmS (trC 48 r) [53]>0),false),((guO k).tmod 2==1,d),(decide ((2:Int)=0),false),(decide (0≤i64.wrap (((k.length:Nat):Int)-1)∧(i64.wrap (((k.length:Nat):Int)-1)).toNat<k.length),true),(m==1,false),(m==4,false),(m==3,false),(m==2,false),ZeA (trC 48 r) [] false,(true,true),(decide (r.length≤100000),true)]:=by and_intros<;>kernel_rfl
theorem Zy7 (k r:List UInt8) (mn:Bool) (m:Int) (d:Bool):ZB (Zr (Zq prog Zf Zh5 true) 100 73 [bR k,bR r,.bool mn,.int .i64 m] [sam false,cmp false,cmp false,cmp false,cmp false,cmp false,cmp d,cmp false,cmp false]) (.bool false) [(cmS (trC 48 r) [53]==0,false),(decide (cmS (trC 48 r) [53]>0),false),((guO k).tmod 2==1,d),(decide ((2:Int)=0),false),(decide (0≤i64.wrap (((k.length:Nat):Int)-1)∧(i64.wrap (((k.length:Nat):Int)-1)).toNat<k.length),true),(m==1,false),(m==4,false),(m==3,false),(m==2,false),ZeA (trC 48 r) [] false,(true,true),(decide (r.length≤100000),true)]:=by and_intros<;>kernel_rfl
theorem Ztc (k r:List UInt8) (mn:Bool) (m:Int) (h1:Zaw 10 k=true) (h2:1≤k.length∧k.length≤100000) (h3:r.length≤100000) (w:World):Calls prog 73 #[bR k,bR r,.bool mn,.int .i64 m] w fun e w'=>e= .returned (.bool (Zqw m mn k r))∧Zak w w':=by
 have hT:=Zp Zb4;have kr:decide (r.length≤100000)=true:=Xa h3;have er:trC 48 r=trR r:=rfl;unfold Zqw;rw[← er];by_cases hn:trC 48 r=[]
 ·rw[if_pos hn];exact Ze hT (Z4u k r mn m) (Za (ZaB (Xa hn)) (Za rfl (Z4 kr))) (by rfl) (by rfl) w
 have kn:Zx [ZeA (trC 48 r) [] false,(true,true),(decide (r.length≤100000),true)]:=Za (ZaB (Xb hn)) (Za rfl (Z4 kr));rw[if_neg hn];by_cases m2:m=2
 ·rw[if_pos m2];exact Ze hT (Z4v k r mn m) (Za (ZQ m2) kn) (by rfl) (by rfl) w
 rw[if_neg m2];have kn:=Za (ZI m2) kn;by_cases m3:m=3
 ·rw[if_pos m3];exact Ze hT (Z4w k r mn m) (Za (ZQ m3) kn) (by rfl) (by rfl) w
 rw[if_neg m3];have kn:=Za (ZI m3) kn;by_cases m4:m=4
 ·rw[if_pos m4];exact Ze hT (Z4x k r mn m) (Za (ZQ m4) kn) (by rfl) (by rfl) w
 rw[if_neg m4];have kn:=Za (ZI m4) kn;by_cases m1:m=1
 ·rw[if_pos m1];exact Ze hT (Z4y k r mn m _) (Za rfl (Za (ZQ m1) kn)) (by rfl) (by rfl) w
 rw[if_neg m1];have kn:=Za (ZI m1) kn;have ei:i64.wrap (((k.length:Nat):Int)-1)=((k.length-1:Nat):Int):=by rw[Zw (by omega) (by omega)];omega
 obtain⟨b1,b2⟩:=Zvx h1 (i:=k.length-1) (by omega);have eo:guO k=lq8 (k.getD (k.length-1) 0)-48:=by
  unfold guO;unfold lq8 at b1 b2 ⊢;rw[ei,Xg,Zvd (by omega) (by omega)]
 obtain⟨d,hd⟩:∃ d,d=decide ((lq8 (k.getD (k.length-1) 0)-48) % 2=1):=⟨_,rfl⟩;have ed:((guO k).tmod 2==1)=d:=by
  rw[hd,eo,Int.tmod_eq_emod_of_nonneg (by omega)];rfl
 have kn:=Za ed (Za (show decide ((2:Int)=0)=false from rfl) (Za (show decide (0≤i64.wrap (((k.length:Nat):Int)-1)∧(i64.wrap (((k.length:Nat):Int)-1)).toNat<k.length)=true from Xa (by rw[ei];omega)) kn));rw[← hd];by_cases c1:0<cmS (trC 48 r) [53]
 ·rw[Xa c1,Bool.true_or];exact Ze hT (Zy5 k r mn m d) (Za (Xa c1) kn) (by rfl) (by rfl) w
 rw[Xb c1,Bool.false_or];by_cases c0:cmS (trC 48 r) [53]=0
 ·rw[Xa c0,Bool.true_and];exact Ze hT (Zy6 k r mn m d) (Za (ZQ c0) (Za (Xb c1) kn)) (by rfl) (by rfl) w
 ·rw[Xb c0,Bool.false_and];exact Ze hT (Zy7 k r mn m d) (Za (ZI c0) (Za (Xb c1) kn)) (by rfl) (by rfl) w
def Z9A:Ans:=fun vals s=>
 match vals,s with
 | [.string k,.string r,.bool mn,.int .i64 m],.inr (.inr (.inr (.inl d)))::s'=>some (.bool d,s',[(Zqw m mn k.data.toList r.data.toList,d),(Zaw 10 k.data.toList,true),(decide ((1≤k.data.toList.length∧k.data.toList.length≤100000)∧r.data.toList.length≤100000),true)])
 | _,_=>none
theorem Zy8:zw 73 Z9A:=by
 intro vals s v s' lg h hl w;unfold Z9A at h;split at h
 ·rename_i k r mn m d s2;cases h;have l1:Zqw m mn k.data.toList r.data.toList=d:=hl _ Xe;have l2:Zaw 10 k.data.toList=true:=hl _ (Xd _ Xe);obtain⟨l3,l4⟩:=Xc (hl _ (Xd _ (Xd _ Xf)));rw[← l1];exact Ztc _ _ mn m l2 l3 l4 w
 ·cases h
def Ztd:Con:=alt 73 Z9A (alt 74 Z99 Zh5)
theorem Zte:ConOk Ztd:=ZE func73 rfl Zy8 (ZE func74 rfl Zy4 Zb4)
def vDc (l:List UInt8) (e:Int):Value:= .agg #[bR l,.int .i64 e]
theorem Z4z (D:List UInt8) (e n m:Int) (mn:Bool):ZB (Zr (Zq prog Zf Ztd true) 100 39 [vDc D e,.int .i64 n,.bool mn,.int .i64 m] [cmp true,sam true]) (vDc (D++List.replicate (i64.wrap (n-((D.length:Nat):Int))).toNat 48) e) [(decide (D.length+(List.replicate (i64.wrap (n-((D.length:Nat):Int))).toNat (48:UInt8)).length≤9223372036854775807),true),(decide (0≤i64.wrap (n-((D.length:Nat):Int))∧i64.wrap (n-((D.length:Nat):Int))≤100000),true),(decide (((D.length:Nat):Int)≤n),true)]:=by and_intros<;>kernel_rfl
def Z7s (D:List UInt8) (e n m:Int) (mn:Bool) (d:Bool):Log:=[(Zqw m mn (D.take n.toNat) (D.drop n.toNat),d),(Zaw 10 (D.take n.toNat),true),(decide ((1≤(D.take n.toNat).length∧(D.take n.toNat).length≤100000)∧(D.drop n.toNat).length≤100000),true),(decide (0≤n∧n≤((D.length:Nat):Int)),true),(decide (0≤n∧n≤((D.length:Nat):Int)),true),(decide (((D.length:Nat):Int)≤n),false)]
theorem Z40 (D:List UInt8) (e n m:Int) (mn:Bool):ZB (Zr (Zq prog Zf Ztd true) 100 39 [vDc D e,.int .i64 n,.bool mn,.int .i64 m] [cmp false,sam true,sam true,cmp true,sam true]) (vDc ((Zb3 (D.take n.toNat)).take n.toNat) (i64.wrap (i64.wrap (e+(((Zb3 (D.take n.toNat)).length:Nat):Int))-n))) ((decide (0≤n∧n≤(((Zb3 (D.take n.toNat)).length:Nat):Int)),true)::(Zaw 10 (D.take n.toNat),true)::(decide ((D.take n.toNat).length≤100000),true)::Z7s D e n m mn true):=by and_intros<;>kernel_rfl
theorem Z41 (D:List UInt8) (e n m:Int) (mn:Bool):ZB (Zr (Zq prog Zf Ztd true) 100 39 [vDc D e,.int .i64 n,.bool mn,.int .i64 m] [cmp false,sam true,sam true,cmp false,sam true]) (vDc ((D.take n.toNat).take n.toNat) (i64.wrap (i64.wrap (e+(((D.take n.toNat).length:Nat):Int))-n))) ((decide (0≤n∧n≤(((D.take n.toNat).length:Nat):Int)),true)::Z7s D e n m mn false):=by and_intros<;>kernel_rfl
theorem Zpa {l:List UInt8}:l.length≤(Zb3 l).length∧(Zb3 l).length≤l.length+1:=by
 have h:=Zgo 57 l;unfold Zb3;split
 ·rename_i c;rw[c,List.length_cons,List.length_replicate,List.length_nil];omega
 ·rename_i c;have hp:0<(trC 57 l).length:=List.length_pos_iff.2 c;rw[List.length_append,List.length_append,List.length_take,List.length_replicate,List.length_singleton];omega
theorem Zlo (D:List UInt8) (e:Int) (n:Nat) (m:Int) (mn:Bool) (h1:Zaw 10 D=true) (h2:1≤D.length∧D.length≤90000) (h3:1≤n∧n≤1000) (h4: -100000≤e∧e≤100000) (w:World):Calls prog 39 #[vDc D e,.int .i64 n,.bool mn,.int .i64 m] w fun r w'=>r= .returned (vDc (rnD D e n mn m).1 (rnD D e n mn m).2)∧Zak w w':=by
 have hT:=Zp Zte;unfold rnD;by_cases hc:D.length≤n
 ·rw[if_pos hc];have f:=Z4z D e n m mn;have ew:i64.wrap ((n:Int)-((D.length:Nat):Int))=((n-D.length:Nat):Int):=by rw[Zw (by omega) (by omega)];omega
  rw[ew,Xg] at f;exact Ze hT f (Za (Xa (by rw[List.length_replicate];omega)) (Za (Xa (by omega)) (Z4 (Xa (by omega))))) (by rfl) (by rfl) w
 ·rw[if_neg hc];have lt:(D.take n).length=n:=by rw[List.length_take];omega
  have ld:(D.drop n).length=D.length-n:=List.length_drop;have ha:Zaw 10 (D.take n)=true:=by
   unfold Zaw at*;rw[List.all_eq_true] at*;exact fun x hx=>h1 x (List.mem_of_mem_take hx)
  have kg:∀ d,Zqw m mn (D.take n) (D.drop n)=d→Zx (Z7s D e n m mn d):=fun d hd=>by
   unfold Z7s;rw[Xg];exact Za hd (Za ha (Za (Xa (by omega)) (Za (Xa (by omega)) (Za (Xa (by omega)) (Z4 (Xb (by omega)))))))
  cases hu:Zqw m mn (D.take n) (D.drop n) with
  | true=>
   rw[if_pos rfl];obtain⟨n1,n2⟩:=Zpa (l:=D.take n);have f:=Z40 D e n m mn;rw[Xg,Zw (n:=e+(((Zb3 (D.take n)).length:Nat):Int)) (by omega) (by omega),Zw (by omega) (by omega)] at f;exact Ze hT f (Za (Xa (by omega)) (Za ha (Za (Xa (by omega)) (kg true hu)))) (by rfl) (by rfl) w
  | false=>
   rw[if_neg (by decide)];have f:=Z41 D e n m mn;rw[Xg,Zw (n:=e+(((D.take n).length:Nat):Int)) (by omega) (by omega),Zw (by omega) (by omega)] at f;exact Ze hT f (Za (Xa (by omega)) (kg false hu)) (by rfl) (by rfl) w
def dc2:Value→Option (ByteArray×Int)
 | .agg cs=>
  match cs.toList with
  | [.string D,.int .i64 e]=>some (D,e)
  | _=>none
 | _=>none
theorem Zke {v:Value}{D:ByteArray}{e:Int}(h:dc2 v=some (D,e)):v=vDc D.data.toList e:=by
 unfold dc2 at h;split at h
 ·rename_i cs;split at h
  ·rename_i hc;cases h;obtain⟨l⟩:=cs;simp only at hc;subst hc;rfl
  ·cases h
 ·cases h
def Zpb:Ans:=fun vals s=>
 match vals with
 | [v,.int .i64 n,.bool mn,.int .i64 m]=>
  match dc2 v with
  | some (D,e)=>some (vDc (rnD D.data.toList e n.toNat mn m).1 (rnD D.data.toList e n.toNat mn m).2,s,[(Zaw 10 D.data.toList,true),(decide ((1≤D.data.toList.length∧D.data.toList.length≤90000)∧(1≤n∧n≤1000)∧(-100000≤e∧e≤100000)),true)])
  | none=>none
 | _=>none
theorem Zpc:zw 39 Zpb:=by
 intro vals s v s' lg h hl w;unfold Zpb at h;split at h
 ·split at h
  ·rename_i v0 n mn m o D e hv;rw[Zke hv];cases h;have l1:Zaw 10 D.data.toList=true:=hl _ Xe;obtain⟨l2,l3,l4⟩:=Xc (hl _ (Xd _ Xf));obtain⟨k,rfl⟩:∃ k:Nat,n=k:=⟨n.toNat,by omega⟩;exact Zlo _ e k m mn l1 l2 (by omega) l4 w
  ·cases h
 ·cases h
end Go.Proofs.YtgefjidphfdhdaaGreatDoor
namespace Go.Proofs.YtgefjidphfdhdaaGreatDoor
open Go.KRun Go.Nt Go.Rd
set_option maxRecDepth 100000
theorem Zkf {f:Nat}:∀ {V:Nat},V<10^(f+1)→Zac V=ZaU (f+1) V:=by
 have lt:∀ x:Nat,UInt8.ofNat (asc ((x:Nat):Int)).toNat=chD x:=fun x=>by unfold asc chD;congr 1
 induction f with
 | zero=>
  intro V h;have h10:V<10:=by simpa using h
  unfold ZaU;rw[if_pos h10];unfold Zac ZuS;by_cases h0:V=0
  ·rw[if_pos h0,h0];rfl
  ·rw[if_neg h0,Zbb (by omega) h0,show V/10=0 by omega,ze,Nat.mod_eq_of_lt h10];show [UInt8.ofNat (asc ((V:Nat):Int)).toNat]=[chD V];rw[lt]
 | succ f ih=>
  intro V h;unfold ZaU;by_cases h10:V<10
  ·rw[if_pos h10];unfold Zac ZuS;by_cases h0:V=0
   ·rw[if_pos h0,h0];rfl
   ·rw[if_neg h0,Zbb (by omega) h0,show V/10=0 by omega,ze,Nat.mod_eq_of_lt h10];show [UInt8.ofNat (asc ((V:Nat):Int)).toNat]=[chD V];rw[lt]
  ·rw[if_neg h10];have h1:=ih (V:=V/10) (by rw[Nat.pow_succ] at h;omega);rw[← h1];unfold Zac ZuS;rw[if_neg (by omega),if_neg (by omega),Zbb (b:=10) (V:=V) (by omega) (by omega),List.reverse_cons,List.map_append];show _++[UInt8.ofNat (asc ((V % 10:Nat):Int)).toNat]=_;rw[lt]
theorem Ztf {V:Nat}(h:V<18446744073709551616):Zac V=dcL V:=Zkf (f:=19) (ZjR h)
end Go.Proofs.YtgefjidphfdhdaaGreatDoor
namespace Go.Proofs.YtgefjidphfdhdaaGreatDoor
open Go.Proofs.Tryz
open Go.IntKind
open Go.KRun Go.Nt Go.Rd Go.Wd
set_option maxRecDepth 100000
def Z9B:Hc:=zd 76 Na.Zsz (zd 77 Na.Zsy (zd 127 Na.Z21 (zd 132 Na.Zhc (zd 79 Na.Z2Q (zd 80 Na.gDc hcN)))))
theorem Zy9:HcOk Z9B:=Zt func76 rfl Na.ZjE (Zt func77 rfl Na.ZjD (Zt func127 rfl Na.Zip (Zt func132 rfl Na.Zeu (Zt func79 rfl Na.Zit (Zt func80 rfl Na.Z3J zx)))))
theorem Z9C:TabOk (Zk prog Zf Zn Z9B):=Zh Zd Zy9
def r14 (m V:Nat):List Value×TypeId:=(wU (dg m (V:Int)),tU)
def t14 (m V:Nat):Nat:=Zi (dg m (V:Int))
def a14 (k:Nat):Option Addr:=some ⟨k,0,none⟩
def mx0 (a:Int):Int:=if 0>a then 0 else a
def mn0 (a:Int):Int:=if 0<a then 0 else a
def Zlp (b j:Int) (P:Nat) (l:Log):Log:=(decide (((b.toNat^j.toNat:Nat):Int)=(P:Int)),true)::(Na.Z0Z b j,true)::(decide (b=0∧1≤j),false)::l
def Zpd (H:Hp) (p:Option Addr) (n c:Nat) (k:Int) (S:Nat) (l:Log):Log:=(decide (ZhQ (Zm H p n) k.toNat=dg (Na.sM n k) (S:Int)),true)::(Na.zZ H p n c,true)::(Na.ZU (Zm H p n) || decide (k<0),false)::(decide (n=0),false)::(decide (k>262144-Na.ZeL (Zm H p n)),false)::l
def ZyA (H:Hp) (p q:Option Addr) (n c n' c' T:Nat) (l:Log):Log:=(decide (Na.Zil (Zm H p n) (Zm H q n')=dg (n+n') (T:Int)),true)::(Na.zZ H p n c,true)::(Na.zZ H q n' c',true)::(!decide (n=0∨n'=0) && Nat.ble (n+n') 8192,true)::(Na.zZ H p n c,true)::(Na.zZ H q n' c',true)::(Na.ZU (Zm H p n) || Na.ZU (Zm H q n'),false)::l
def Z9D (H:Hp) (p:Option Addr) (n c:Nat) (b:List UInt8) (l:Log):Log:=(Na.zZ H p n c,true)::(Na.ZU (Zm H p n),false)::(decide (Zac (Na.ZuB H p n)=b),true)::l
def Z9E (m:Bool) (c e q:Int):List (List Value×TypeId):=[([bR [],.int .i64 0],49),([.bool m,.int .i64 c,.int .i64 e,.int .u64 q],44)]
def Zl7 (e:Int):Int:=mx0 (i64.wrap (0-e))
def Ztg (m:Bool) (c e q:Int) (P:Nat):Hp:=⟨3,r14 (Na.pMi 5 (Zl7 e)) P::Z9E m c e q⟩
def Zl8 (e:Int) (P:Nat):Nat:=Na.sM (t14 (Na.pMi 5 (Zl7 e)) P) (mx0 e)
def ZyB (m:Bool) (c e q:Int) (P S:Nat):Hp:=⟨5,(wU (dg 2 q),tU)::r14 (Zl8 e P) S::r14 (Na.pMi 5 (Zl7 e)) P::Z9E m c e q⟩
def Zth (e q:Int) (P S:Nat):Nat:=Zi (dg 2 q)+t14 (Zl8 e P) S
def Z42 (m:Bool) (c e q:Int) (P S T:Nat):Hp:=⟨6,r14 (Zth e q P S) T::(wU (dg 2 q),tU)::r14 (Zl8 e P) S::r14 (Na.pMi 5 (Zl7 e)) P::Z9E m c e q⟩
theorem ZCk (m:Bool) (c e q:Int) (P S T:Nat) (b:List UInt8):ZB (Zr (Zk prog Zf Zn Z9B) 200 40 [vP m c e q] [cmp false,cmp false,num P,cmp false,cmp false,cmp false,num S,cmp false,cmp false,num T,cmp false,val (bR b)]) (vDc b (i64.wrap (i64.wrap (((b.length:Nat):Int)-1)+mn0 e)))
  (Z9D (Z42 m c e q P S T) (a14 5) (t14 (Zth e q P S) T) (Zth e q P S) b (ZyA (ZyB m c e q P S) (a14 4) (a14 3) (Zi (dg 2 q)) 2 (t14 (Zl8 e P) S) (Zl8 e P) T ((decide (0≤q∧q<18446744073709551616),true)::Zpd (Ztg m c e q P) (a14 2) (t14 (Na.pMi 5 (Zl7 e)) P) (Na.pMi 5 (Zl7 e)) (mx0 e) S (Zlp 5 (Zl7 e) P [])))):=by and_intros<;>kernel_rfl
theorem ZaH {W:Nat}(h:W≠0):1≤(Zac W).length∧10^((Zac W).length-1)≤W∧W<10^(Zac W).length:=by
 have e:(Zac W).length=(db 10 W).length:=by
  unfold Zac ZuS;rw[if_neg h,List.length_map,List.length_reverse]
 rw[e];have h1:=(Zdt (b:=10) (by omega)).2 (show 0<W by omega);refine⟨h1,?_,?_⟩
 ·rcases Nat.lt_or_ge W (10^((db 10 W).length-1)) with c | c
  ·have:=Zb6 (b:=10) (by omega) _ _ c;omega
  ·exact c
 ·have:=Zby (b:=10) (by omega) (db 10 W) (ZkA (by omega) W);rw[ZbV (by omega) W] at this;exact this
theorem ZeD {W:Nat}(h:W≠0):Zac W=ZaU (Zac W).length W:=by
 obtain⟨h1,_,h3⟩:=ZaH h;have:=Zkf (f:=(Zac W).length-1) (V:=W) (by rw[show (Zac W).length-1+1=(Zac W).length by omega];exact h3);rw[show (Zac W).length-1+1=(Zac W).length by omega] at this;exact this
theorem Zd1 (a:Int):mx0 a=((a.toNat:Nat):Int):=by unfold mx0;split<;>omega
theorem Zfy {b:Nat}(hb:b≤10) (k:Nat):b^k<4294967296^(k/9+1):=Nat.lt_of_le_of_lt (Nat.pow_le_pow_left hb k) (Na.Zyc k)
theorem ZyC {H:Hp}{i b k:Nat}(hb:b=10∨b=5) (hk:k≤2000) (hi:H.blk? i=some (r14 (Na.pMi (b:Nat) (k:Nat)) (b^k))):Na.IsR H (a14 i) (t14 (Na.pMi (b:Nat) (k:Nat)) (b^k)) (Na.pMi (b:Nat) (k:Nat)) (b^k)∧(Na.d32 (b^k)).length≤k/9+1:=by
 have hw:∀ j,j≤k→Na.nw (b^j)≤400:=fun j hj=>by
  have h1:=Zfy (b:=b) (by omega) j;have:=Na.Ze5 h1;omega
 have e:Na.pMi (b:Nat) (k:Nat)=Na.pM b k:=rfl;have h:b^k<4294967296^Na.pM b k∧Na.pM b k≤1000:=by
  by_cases h0:k=0
  ·subst h0;exact⟨by rw[Nat.pow_zero];show 1<4294967296^2;decide,by show 2≤1000;decide⟩
  ·exact Na.Z2W hw (by omega) (Nat.le_refl _) (by omega)
 rw[e] at hi ⊢;exact⟨Na.Zis hi h.1 h.2,Na.Ze5 (Zfy (by omega) k)⟩
theorem Zgt {b k:Nat}(hb:b=10∨b=5) (hk:k≤2000) {l:Log}(hl:Zx l):Zx (Zlp (b:Nat) (k:Nat) (b^k) l):=by
 refine Za (Xa rfl) (Za ?_ (Za (Xb (by omega)) hl));exact Xa ⟨by omega,by omega,by omega,.inr ⟨by omega,by omega⟩⟩
theorem Zpe {m V:Nat}(hV:V<4294967296^m) (hm:m≤1000):t14 m V=(Na.d32 V).length:=(Na.Zis (H:=⟨1,[r14 m V]⟩) (b:=0) rfl hV hm).2.2.2.1
theorem Zgu {H:Hp}{p:Option Addr}{n c V:Nat}(r:Na.IsR H p n c V) (h0:V≠0) {k:Nat}(hk:k≤200000) {l:Log}(hl:Zx l):Zx (Zpd H p n c (k:Nat) (V*2^k) l):=
 Za (Na.ZCh r k) (Za (Na.rX r) (Za (Na.Z9q r k) (Za (Na.rNe r h0) (Za (Na.ZCi r h0 hk) hl))))
theorem ZyD {V k n:Nat}(h:V<4294967296^n):V*2^k<4294967296^Na.sM n (k:Nat):=Na.Z3E h
theorem Z1b (n k:Nat):Na.sM n (k:Nat)=k/32+(n+1):=by unfold Na.sM;rw[Xg]
theorem Zkg {H:Hp}{p q:Option Addr}{n c n' c' V W:Nat}(r:Na.IsR H p n c V) (g:Na.IsR H q n' c' W) (h0:V≠0) (h1:W≠0) {l:Log}(hl:Zx l):Zx (ZyA H p q n c n' c' (V*W) l):=by
 have p1:=Na.Zca h0;have p2:=Na.Zca h1;have e1:=r.2.2.2.1;have e2:=g.2.2.2.1;have b1:=r.2.2.2.2;have b2:=g.2.2.2.2;refine Za (Na.Zxz r g) (Za (Na.rX r) (Za (Na.rX g) (Za ?_ (Za (Na.rX r) (Za (Na.rX g) (Za (Na.rOr r g) hl))))));rw[Xb (by omega),Nat.ble_eq_true_of_le (by omega)];rfl
theorem Z43 {V W n n':Nat}(h:V<4294967296^n) (h':W<4294967296^n'):V*W<4294967296^(n+n'):=by rw[Nat.pow_add];exact Nat.mul_lt_mul'' h h'
theorem ZB7 {H:Hp}{i q:Nat}(hq:q<18446744073709551616) (hi:H.blk? i=some (wU (dg 2 (q:Int)),tU)):Na.IsR H (a14 i) (Zi (dg 2 (q:Int))) 2 q∧(Na.d32 q).length≤2:=⟨Na.Zis hi (by show q<4294967296^2;omega) (by omega),Na.Ze5 (by show q<4294967296^2;omega)⟩
theorem Z44 {H:Hp}{p:Option Addr}{n c V:Nat}(r:Na.IsR H p n c V):Na.ZuB H p n=V:=by
 unfold Na.ZuB;rw[r.2.2.1];exact ZbV (by omega) V
theorem Zpf {S:Nat}{E:Int}(hS:S<9007199254740992) (hE: -1074≤E∧E≤972) (K:Nat) (hK:K=1074):ZeN S E<10^(16+K):=by
 unfold ZeN;rw[Nat.pow_add];refine Nat.mul_lt_mul_of_lt_of_le (Nat.lt_of_lt_of_le hS (by decide)) ?_ (Nat.pow_pos (by omega));by_cases h:E≤0
 ·rw[show E.toNat=0 by omega,Nat.pow_zero,Nat.mul_one];refine Nat.le_trans (Nat.pow_le_pow_left (show 5≤10 by omega) _) (Nat.pow_le_pow_right (by omega) (by unfold wzN;omega))
 ·rw[show wzN E=0 by unfold wzN;omega,Nat.pow_zero,Nat.one_mul];refine Nat.le_trans (Nat.pow_le_pow_left (show 2≤10 by omega) _) (Nat.pow_le_pow_right (by omega) (by omega))
theorem Zlq (m:Bool) (c E:Int) (q:Nat) (h0:q≠0) (hq:q<9007199254740992) (hE: -1074≤E∧E≤972) (w:World):Calls prog 40 #[vP m c E q] w fun r w'=>r= .returned (vDc (Zac (ZeN q E)) (((Zac (ZeN q E)).length:Int)-1-(wzN E:Nat)))∧Zak w w':=by
 obtain⟨z,hz⟩:∃ z,z=wzN E:=⟨_,rfl⟩;obtain⟨k,hk⟩:∃ k,k=E.toNat:=⟨_,rfl⟩;have ez:Zl7 E=((z:Nat):Int):=by unfold Zl7;rw[Zw (by omega) (by omega),Zd1,hz];unfold wzN;omega
 have ek:mx0 E=((k:Nat):Int):=by rw[Zd1,hk]
 have z1:z≤1074:=by rw[hz];unfold wzN;omega
 have k1:k≤972:=by omega
 obtain⟨P,hP⟩:∃ P,P=5^z:=⟨_,rfl⟩;obtain⟨S,hS⟩:∃ S,S=P*2^k:=⟨_,rfl⟩;obtain⟨W,hW⟩:∃ W,W=ZeN q E:=⟨_,rfl⟩;have eW:W=q*S:=by rw[hW,hS,hP];unfold ZeN;rw[← hz,← hk]
 have hP0:P≠0:=by rw[hP];have:=ZdV z;omega
 have hS0:S≠0:=by rw[hS];exact Zbd hP0 (fun c=>by have:=Nat.pow_pos (n:=k) (show 0<2 by omega);omega)
 have hW0:W≠0:=by rw[eW];exact Zbd h0 hS0
 obtain⟨K,hK⟩:∃ K,K=1074:=⟨_,rfl⟩;have hWl:=Zpf hq hE K hK;rw[← hW] at hWl ⊢;rw[← hz];obtain⟨l1,l2,l3⟩:=ZaH hW0;have lb:(Zac W).length≤16+K:=by
  rcases Nat.lt_or_ge (16+K) (Zac W).length with c | c
  ·have:=Nat.pow_le_pow_right (n:=10) (by omega) (show 16+K≤(Zac W).length-1 by omega);omega
  ·exact c
 have f:=ZCk m c E q P S W (Zac W);have ev:i64.wrap (i64.wrap ((((Zac W).length:Nat):Int)-1)+mn0 E)=((Zac W).length:Int)-1-(z:Nat):=by
  have e1:mn0 E= -((z:Nat):Int):=by rw[hz];unfold mn0 wzN;split<;>omega
  rw[e1,Zw (n:=(((Zac W).length:Nat):Int)-1) (by omega) (by omega),Zw (by omega) (by omega)];omega
 rw[ev] at f;obtain⟨rP,lP⟩:=ZyC (H:=Ztg m c E q P) (i:=2) (b:=5) (k:=z) (.inr rfl) (by omega) (by rw[← hP];unfold Ztg;rw[ez];rfl);rw[← hP] at rP lP;have eP:t14 (Na.pMi 5 (z:Nat)) P=(Na.d32 P).length:=rP.2.2.2.1;have eSm:Zl8 E P=k/32+((Na.d32 P).length+1):=by unfold Zl8;rw[ez,ek,eP,Z1b]
 have hSl:S<4294967296^Zl8 E P:=by
  have:=ZyD (k:=k) (Na.Zb9 P);rw[Z1b,← hS] at this;rw[eSm];exact this
 have hSm:Zl8 E P≤200:=by omega
 have eS:=Zpe hSl (by omega);have sl:(Na.d32 S).length≤Zl8 E P:=Na.Ze5 hSl;have rS:Na.IsR (ZyB m c E q P S) (a14 3) (t14 (Zl8 E P) S) (Zl8 E P) S:=Na.Zis rfl hSl (by omega);obtain⟨rQ,lQ⟩:=ZB7 (H:=ZyB m c E q P S) (i:=4) (q:=q) (by omega) rfl;have hTl:W<4294967296^Zth E q P S:=by
  have:=Z43 (Na.Zb9 q) (Na.Zb9 S);rw[← eW] at this;unfold Zth;rw[rQ.2.2.2.1,eS];exact this
 have hTm:Zth E q P S≤1000:=by unfold Zth;rw[rQ.2.2.2.1,eS];omega
 have rT:Na.IsR (Z42 m c E q P S W) (a14 5) (t14 (Zth E q P S) W) (Zth E q P S) W:=Na.Zis rfl hTl hTm;refine Ze Z9C f (Za (Na.rX rT) (Za rT.good (Za (Xa (by rw[Z44 rT])) ?_))) (by rfl) (by rfl) w;have hd:=Zkg rQ rS h0 hS0 (l:=(decide ((0:Int)≤(q:Nat)∧((q:Nat):Int)<18446744073709551616),true)::Zpd (Ztg m c E q P) (a14 2) (t14 (Na.pMi 5 (Zl7 E)) P) (Na.pMi 5 (Zl7 E)) (mx0 E) S (Zlp 5 (Zl7 E) P [])) (Za (Xa (by omega)) ?_)
 ·rw[← eW] at hd;exact hd
 ·rw[ez,ek];have hs:=Zgu rP hP0 (k:=k) (by omega) (l:=Zlp 5 ((z:Nat):Int) P []) ?_
  ·rw[← hS] at hs;exact hs
  ·have:=Zgt (b:=5) (k:=z) (l:=[]) (.inr rfl) (by omega) Zcb;rw[← hP] at this;exact this
def ZyE:Ans:=fun vals s=>
 match vals with
 | [v]=>
  match vP4 v with
  | some (_,_,E,q)=>some (vDc (Zac (ZeN q.toNat E)) (((Zac (ZeN q.toNat E)).length:Int)-1-(wzN E:Nat)),s,[(decide (1≤q∧q<9007199254740992∧ -1074≤E∧E≤972),true)])
  | none=>none
 | _=>none
theorem Zti:zw 40 ZyE:=by
 intro vals s v s' lg h hl w;unfold ZyE at h;split at h
 ·split at h
  ·rename_i o m c E q hv;rw[ZcU hv];cases h;obtain⟨h1,h2,h3,h4⟩:=Xc (hl _ Xf);obtain⟨k,rfl⟩:∃ k:Nat,q=k:=⟨q.toNat,by omega⟩;exact Zlq m c E k (by omega) (by omega) ⟨h3,h4⟩ w
  ·cases h
 ·cases h
end Go.Proofs.YtgefjidphfdhdaaGreatDoor
