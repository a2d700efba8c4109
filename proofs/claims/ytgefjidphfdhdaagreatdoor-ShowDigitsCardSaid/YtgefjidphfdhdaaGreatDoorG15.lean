/-
  NumSt, ShF, ShH, PatA, ShI, TxY, ShJ
-/
import Derived.Test.YtgefjidphfdhdaaGreatDoorG14
import Derived.WalkSmall
namespace Go.Rd
open Go.Rn Go.Pt
def lgB (t:Int):Int:=t*78913/262144
def lgK (k:Nat):Bool:=
 Nat.ble (10^(lgB ((k:Int)-1074)).toNat*2^(-((k:Int)-1074)).toNat) (2^((k:Int)-1074).toNat*10^(-(lgB ((k:Int)-1074))).toNat) &&
 Nat.ble (2^((k:Int)-1073).toNat*10^(-(lgB ((k:Int)-1074)+2)).toNat) (10^(lgB ((k:Int)-1074)+2).toNat*2^(-((k:Int)-1073)).toNat)
theorem Z0u:(List.range 2100).all lgK=true:=by decide+kernel
theorem Z40 {t:Int}(h0: -1074≤t) (h1:t≤1025):10^(lgB t).toNat*2^(-t).toNat≤2^t.toNat*10^(-(lgB t)).toNat∧2^(t+1).toNat*10^(-(lgB t+2)).toNat≤10^(lgB t+2).toNat*2^(-(t+1)).toNat:=by
 have h:=List.all_eq_true.1 Z0u (t+1074).toNat (List.mem_range.2 (by omega));unfold lgK at h;rw[show (((t+1074).toNat:Nat):Int)-1074=t by omega,show (((t+1074).toNat:Nat):Int)-1073=t+1 by omega,Xh] at h;exact⟨Nat.le_of_ble_eq_true h.1,Nat.le_of_ble_eq_true h.2⟩
def lgS (S:Nat) (E:Int):Int:=lgB (E+(bitLen S:Nat)-1)
theorem ZsF {S:Nat}{E:Int}(h0:S≠0) (hE: -1074≤E) (hE1:E≤972) (hS:S<9007199254740992):(-324≤lgS S E∧lgS S E≤309)∧pbN E (-(lgS S E))≤paN S E (-(lgS S E))∧paN S E (-(lgS S E+2))<pbN E (-(lgS S E+2)):=by
 have hb:bitLen S≤53:=len_le (k:=53) hS;have hb1:=ZaF h0;obtain⟨t,ht⟩:∃ t,t=E+((bitLen S:Nat):Int)-1:=⟨_,rfl⟩;unfold lgS;rw[← ht];obtain⟨k1,k2⟩:=Z40 (t:=t) (by omega) (by omega);have bd: -324≤lgB t∧lgB t≤309:=by unfold lgB;omega
 obtain⟨N,hN⟩:∃ N,N=lgB t:=⟨_,rfl⟩;rw[← hN] at k1 k2 bd ⊢;refine⟨bd,?_,?_⟩
 ·unfold pbN paN;rw[show (- -N).toNat=N.toNat by omega];have hl:=(bitLen_spec S).2 h0;have e:2^(-E).toNat*2^t.toNat=2^(bitLen S-1)*2^E.toNat*2^(-t).toNat:=by
   rw[← Nat.pow_add,← Nat.pow_add,← Nat.pow_add];congr 1;omega
  refine Nat.le_of_mul_le_mul_right (c:=2^(-t).toNat) ?_ (Nat.pow_pos (by omega));have a:=Nat.mul_le_mul_left (2^(-E).toNat) k1;have b:=Nat.mul_le_mul_right (2^E.toNat*2^(-t).toNat*10^(-N).toNat) hl;have e1:2^(-E).toNat*(2^t.toNat*10^(-N).toNat)=2^(bitLen S-1)*(2^E.toNat*2^(-t).toNat*10^(-N).toNat):=by
   rw[← Nat.mul_assoc,e]
   ac_rfl
  have e2:2^(-E).toNat*(10^N.toNat*2^(-t).toNat)=2^(-E).toNat*10^N.toNat*2^(-t).toNat:=by ac_rfl
  have e3:S*(2^E.toNat*2^(-t).toNat*10^(-N).toNat)=S*2^E.toNat*10^(-N).toNat*2^(-t).toNat:=by ac_rfl
  rw[e1,e2] at a;rw[e3] at b;exact Nat.le_trans a b
 ·unfold pbN paN;rw[show (- -(N+2)).toNat=(N+2).toNat by omega];have hl:=(bitLen_spec S).1;have e:2^(-E).toNat*2^(t+1).toNat=2^bitLen S*2^E.toNat*2^(-(t+1)).toNat:=by
   rw[← Nat.pow_add,← Nat.pow_add,← Nat.pow_add];congr 1;omega
  refine Nat.lt_of_mul_lt_mul_right (a:=2^(-(t+1)).toNat) ?_;have p1:0<2^E.toNat*2^(-(t+1)).toNat*10^(-(N+2)).toNat:=Nat.mul_pos (Nat.mul_pos (Nat.pow_pos (by omega)) (Nat.pow_pos (by omega))) (Nat.pow_pos (by omega));have a:=Nat.mul_le_mul_left (2^(-E).toNat) k2;have b:=Nat.mul_lt_mul_of_pos_right hl p1;have e1:2^(-E).toNat*(2^(t+1).toNat*10^(-(N+2)).toNat)=2^bitLen S*(2^E.toNat*2^(-(t+1)).toNat*10^(-(N+2)).toNat):=by
   rw[← Nat.mul_assoc,e]
   ac_rfl
  have e2:2^(-E).toNat*(10^(N+2).toNat*2^(-(t+1)).toNat)=2^(-E).toNat*10^(N+2).toNat*2^(-(t+1)).toNat:=by ac_rfl
  have e3:S*(2^E.toNat*2^(-(t+1)).toNat*10^(-(N+2)).toNat)=S*2^E.toNat*10^(-(N+2)).toNat*2^(-(t+1)).toNat:=by ac_rfl
  rw[e1,e2] at a;rw[e3] at b;exact Nat.lt_of_lt_of_le b a
def lsP (p:Int):Int:=lgS (sg p).toNat (xp p)-17
theorem Zi9 (S:Nat) (E j:Int):4*S*ovN E j*pbN E (-j)=paN S E (-j)*Za8 E j:=by
 unfold ovN pbN paN Za8;rw[show (- -j).toNat=j.toNat by omega];have e:2^2*2^(E-2).toNat*2^(-E).toNat=2^E.toNat*2^(2-E).toNat:=by
  rw[← Nat.pow_add,← Nat.pow_add,← Nat.pow_add];congr 1;omega
 have l:4*S*(2^(E-2).toNat*10^(-j).toNat)*(2^(-E).toNat*10^j.toNat)=S*(2^2*2^(E-2).toNat*2^(-E).toNat)*(10^(-j).toNat*10^j.toNat):=by
  rw[show (4:Nat)=2^2 from rfl]
  ac_rfl
 rw[l,e]
 ac_rfl
theorem ZqW (p j:Int):ZO p j=paN (sg p).toNat (xp p) (-j)/pbN (xp p) (-j)∧Zab p j=decide (paN (sg p).toNat (xp p) (-j) % pbN (xp p) (-j)≠0):=by
 have hb:=zt (xp p) (-j);have hu:=Zfi (xp p) j;obtain⟨a,b⟩:=Zdm hu hb (Zi9 (sg p).toNat (xp p) j);refine⟨a,?_⟩;unfold Zab Zat;refine decide_eq_decide.2 (not_congr ?_);constructor
 ·intro h;rw[h,Nat.zero_mul] at b;exact (Nat.mul_eq_zero.1 b.symm).resolve_right (by omega)
 ·intro h;rw[h,Nat.zero_mul] at b;exact (Nat.mul_eq_zero.1 b).resolve_right (by omega)
theorem ZvJ {p:Int}(h:Fin14 p):10^17≤ZO p (lsP p)∧ZO p (lsP p)<10^19∧ -400≤lsP p∧lsP p≤300:=by
 obtain⟨bd,h1,h2⟩:=ZsF h.ne h.e0 h.e1 h.s1;have hb:=zt (xp p) (-(lsP p));have a:=ZdL (a:=1) 17 (by rw[Nat.one_mul];exact h1);have b:=Zfe (a:=1) 19 (by rw[Nat.one_mul];exact h2);have e1: -(lgS (sg p).toNat (xp p))+((17:Nat):Int)= -(lsP p):=by unfold lsP;omega
 have e2: -(lgS (sg p).toNat (xp p)+2)+((19:Nat):Int)= -(lsP p):=by unfold lsP;omega
 rw[e1,Nat.one_mul] at a;rw[e2,Nat.one_mul] at b;rw[(ZqW p (lsP p)).1];exact⟨(Nat.le_div_iff_mul_le hb).2 a,(Nat.div_lt_iff_lt_mul hb).2 b,by unfold lsP;omega,by unfold lsP;omega⟩
def atL (p:Int):Nat:=if ZO p (lsP p)<10^18 then 18 else 19
theorem Zbg {p:Int}(h:Fin14 p):(18≤atL p∧atL p≤19)∧10^(atL p-1)≤ZO p (lsP p)∧ZO p (lsP p)<10^atL p:=by
 obtain⟨a,b,_⟩:=ZvJ h;unfold atL;split
 ·rename_i c;exact⟨by omega,a,c⟩
 ·rename_i c;exact⟨by omega,Nat.le_of_not_lt c,b⟩
theorem Zdn {p:Int}(h:Fin14 p):frP p=lsP p+(atL p:Nat)-1:=by
 obtain⟨⟨l1,l2⟩,a,b⟩:=Zbg h;have hb:=zt (xp p) (-(lsP p));rw[(ZqW p (lsP p)).1] at a b;have a:=(Nat.le_div_iff_mul_le hb).1 a;have b:=(Nat.div_lt_iff_lt_mul hb).1 b;refine Zgn (ZdM h).1 ⟨?_,?_⟩
 ·rcases Nat.lt_or_ge (paN (sg p).toNat (xp p) (-(lsP p+(atL p:Nat)-1))) (pbN (xp p) (-(lsP p+(atL p:Nat)-1))) with c | c
  ·have d:=Zfe (a:=1) (atL p-1) (by rw[Nat.one_mul];exact c);rw[Nat.one_mul,show -(lsP p+(atL p:Nat)-1)+((atL p-1:Nat):Int)= -(lsP p) by omega] at d;omega
  ·exact c
 ·rcases Nat.lt_or_ge (paN (sg p).toNat (xp p) (-(lsP p+(atL p:Nat)-1+1))) (pbN (xp p) (-(lsP p+(atL p:Nat)-1+1))) with c | c
  ·exact c
  ·have d:=ZdL (a:=1) (atL p) (by rw[Nat.one_mul];exact c);rw[Nat.one_mul,show -(lsP p+(atL p:Nat)-1+1)+(atL p:Int)= -(lsP p) by omega] at d;omega
def nrU (a:Nat) (m:Bool) (u:Nat):Bool:=decide (u/2<a % u) || (decide (a % u=u/2) && (m || decide (a/u % 2=1)))
section
variable {p : Int} {n : Nat}
theorem Z0v (h:Fin14 p) (h2:n≤18):qD (sg p).toNat (xp p) (frP p) n=ZO p (lsP p)/10^(atL p-n)∧ZjN (sg p).toNat (xp p) (frP p) n*(pbN (xp p) (-(lsP p))*10^(atL p-n))=paN (sg p).toNat (xp p) (-(lsP p)) % (pbN (xp p) (-(lsP p))*10^(atL p-n))*pbN (xp p) ((n:Int)-1-frP p):=by
 have hf:=Zdn h;obtain⟨⟨l1,l2⟩,_⟩:=Zbg h;have hb:=zt (xp p) (-(lsP p));have hb2:=zt (xp p) ((n:Int)-1-frP p);have hs:=ZcC (sg p).toNat (xp p) ((n:Int)-1-frP p) (atL p-n);rw[show (n:Int)-1-frP p+((atL p-n:Nat):Int)= -(lsP p) by omega] at hs;have:=Zdm (a:=paN (sg p).toNat (xp p) ((n:Int)-1-frP p)) (b:=pbN (xp p) ((n:Int)-1-frP p)) (c:=paN (sg p).toNat (xp p) (-(lsP p))) (d:=pbN (xp p) (-(lsP p))*10^(atL p-n)) hb2 (Nat.mul_pos hb (Nat.pow_pos (by omega))) (by rw[hs];ac_rfl);unfold qD ZjN;rw[(ZqW p (lsP p)).1,Nat.div_div_eq_div_mul];exact this
theorem ZvK (h:Fin14 p) (h2:n≤17):(decide (2*ZjN (sg p).toNat (xp p) (frP p) n<pbN (xp p) ((n:Int)-1-frP p)) || (decide (2*ZjN (sg p).toNat (xp p) (frP p) n=pbN (xp p) ((n:Int)-1-frP p)) && decide (qD (sg p).toNat (xp p) (frP p) n % 2=0)))= !nrU (ZO p (lsP p)) (Zab p (lsP p)) (10^(atL p-n)):=by
 obtain⟨⟨l1,l2⟩,_⟩:=Zbg h;obtain⟨k1,k2⟩:=Z0v h (n:=n) (by omega);obtain⟨a1,a2⟩:=ZqW p (lsP p);have hb:=zt (xp p) (-(lsP p));have hb2:=zt (xp p) ((n:Int)-1-frP p);have hev:10^(atL p-n)=2*(5*10^(atL p-n-1)):=by
  have:10^(atL p-n)=10^(atL p-n-1)*10:=by rw[← Nat.pow_succ];congr 1;omega
  omega
 unfold nrU;rw[k1,a2,a1];obtain⟨A,hA⟩:∃ A,A=paN (sg p).toNat (xp p) (-(lsP p)):=⟨_,rfl⟩;obtain⟨B,hB⟩:∃ B,B=pbN (xp p) (-(lsP p)):=⟨_,rfl⟩;obtain⟨u,hu⟩:∃ u,u=10^(atL p-n):=⟨_,rfl⟩;obtain⟨r,hr⟩:∃ r,r=ZjN (sg p).toNat (xp p) (frP p) n:=⟨_,rfl⟩;obtain⟨b,hb0⟩:∃ b,b=pbN (xp p) ((n:Int)-1-frP p):=⟨_,rfl⟩;obtain⟨v,hv⟩:∃ v,v=5*10^(atL p-n-1):=⟨_,rfl⟩;have hu0:0<u:=by rw[hu];exact Nat.pow_pos (by omega)
 rw[← hA,← hB,← hu,← hr,← hb0] at k2;rw[← hA,← hB,← hu,← hr,← hb0];rw[← hB] at hb;rw[← hb0] at hb2;rw[← hu,← hv] at hev;have em:A % (B*u)=A % B+B*(A/B % u):=Nat.mod_mul;obtain⟨s,hs⟩:∃ s,s=A/B % u:=⟨_,rfl⟩;obtain⟨z,hz⟩:∃ z,z=A % B:=⟨_,rfl⟩;have hzl:z<B:=by rw[hz];exact Nat.mod_lt _ hb
 rw[← hs,← hz] at em;rw[em] at k2;rw[← hs,← hz];have hBu:0<B*u:=Nat.mul_pos hb hu0;have c1:2*r<b↔2*(z+B*s)<B*u:=by
  rw[← Nat.mul_lt_mul_right hBu,Nat.mul_assoc,k2,← Nat.mul_assoc,Nat.mul_comm b,Nat.mul_lt_mul_right hb2]
 have c2:2*r=b↔2*(z+B*s)=B*u:=by
  constructor
  ·intro e;refine Nat.eq_of_mul_eq_mul_right hb2 ?_;rw[Nat.mul_assoc,← k2,← Nat.mul_assoc,e,Nat.mul_comm]
  ·intro e;refine Nat.eq_of_mul_eq_mul_right hBu ?_;rw[Nat.mul_assoc,k2,← Nat.mul_assoc,e,Nat.mul_comm]
 have d1:decide (2*r<b)=decide (2*(z+B*s)<B*u):=decide_eq_decide.2 c1;have d2:decide (2*r=b)=decide (2*(z+B*s)=B*u):=decide_eq_decide.2 c2;rw[d1,d2,show u/2=v by omega,hev];have eB:B*(2*v)=2*(B*v):=by ac_rfl
 rw[eB];rcases Nat.lt_trichotomy s v with h1 | h1 | h1
 ·have:=Nat.mul_le_mul_left B (show s+1≤v by omega);rw[Nat.mul_add,Nat.mul_one] at this;rw[Xa (show 2*(z+B*s)<2*(B*v) by omega),Xb (show ¬ v<s by omega),Xb (show ¬ s=v by omega)];rfl
 ·subst h1;rw[Xb (show ¬ s<s by omega),Xa (show s=s from rfl)];by_cases hz0:z=0
  ·rw[Xb (show ¬ 2*(z+B*s)<2*(B*s) by omega),Xa (show 2*(z+B*s)=2*(B*s) by omega),Xb (show ¬ z≠0 from fun c=>c hz0)];rcases Nat.mod_two_eq_zero_or_one (A/B/(2*s)) with c | c
   ·rw[c];rfl
   ·rw[c];rfl
  ·rw[Xb (show ¬ 2*(z+B*s)<2*(B*s) by omega),Xb (show ¬ 2*(z+B*s)=2*(B*s) by omega),Xa (show z≠0 from hz0)];rfl
 ·have:=Nat.mul_le_mul_left B (show v+1≤s by omega);rw[Nat.mul_add,Nat.mul_one] at this;rw[Xb (show ¬ 2*(z+B*s)<2*(B*v) by omega),Xb (show ¬ 2*(z+B*s)=2*(B*v) by omega),Xa (show v<s from h1)];rfl
def Zb4 (p:Int) (n:Nat):Nat:=ZO p (lsP p)/10^(atL p-n)*10^(atL p-n)
def Zbm (p:Int) (n:Nat):Nat:=(ZO p (lsP p)/10^(atL p-n)+1)*10^(atL p-n)
theorem ZsG (h:Fin14 p) (h1:1≤n) (h2:n≤18):ZgA p (lsP p) (Zb4 p n)=loB false (mag p) (sg p).toNat (xp p) (frP p) n:=by
 obtain⟨⟨l1,l2⟩,_⟩:=Zbg h;have hf:=Zdn h;have hq:=(ZmO (ZdM h).1 h1).1;have hp:0<10^(n-1):=Nat.pow_pos (by omega);have k1:=(Z0v h (n:=n) h2).1;have hq0:ZO p (lsP p)/10^(atL p-n)≠0:=by rw[← k1];omega
 have ds:=(Zdj 0 false hq0 (atL p-n) (frP p-((n:Int)-1))).1;rw[show frP p-((n:Int)-1)-((atL p-n:Nat):Int)=lsP p by omega] at ds;unfold loB Zb4;rw[← ZmT false h (Zbe hq0 (ZbK _)),ds,k1]
theorem ZsH (h:Fin14 p) (h2:n≤18):ZgA p (lsP p) (Zbm p n)=hiB false (mag p) (sg p).toNat (xp p) (frP p) n:=by
 obtain⟨⟨l1,l2⟩,_⟩:=Zbg h;have hf:=Zdn h;have k1:=(Z0v h (n:=n) h2).1;have hq0:ZO p (lsP p)/10^(atL p-n)+1≠0:=by omega
 have ds:=(Zdj 0 false hq0 (atL p-n) (frP p-((n:Int)-1))).1;rw[show frP p-((n:Int)-1)-((atL p-n:Nat):Int)=lsP p by omega] at ds;unfold hiB Zbm;rw[← ZmT false h (Zbe hq0 (ZbK _)),ds,k1]
theorem ZqX (h:Fin14 p) (h1:1≤n) (h2:n≤nP p):(ZgA p (lsP p) (Zb4 p n)=true∨ZgA p (lsP p) (Zbm p n)=true)↔n=nP p:=by
 obtain⟨_,b,c,d⟩:=ZbD h;rw[ZsG h h1 (by omega),ZsH h (by omega)];constructor
 ·intro e;rcases Nat.lt_or_ge n (nP p) with l | l
  ·obtain⟨x,y⟩:=d n h1 l;rcases e with e | e
   ·rw[x] at e;cases e
   ·rw[y] at e;cases e
  ·omega
 ·intro e;rw[e];exact c
end
def shV (p:Int):Nat:=if loK false (mag p) (sg p).toNat (xp p) (frP p) (nP p)=true then Zb4 p (nP p) else Zbm p (nP p)
theorem Z0w {p:Int}(h:Fin14 p):shV p=if nrU (ZO p (lsP p)) (Zab p (lsP p)) (10^(atL p-nP p))=true then (if ZgA p (lsP p) (Zbm p (nP p))=true then Zbm p (nP p) else Zb4 p (nP p)) else (if ZgA p (lsP p) (Zb4 p (nP p))=true then Zb4 p (nP p) else Zbm p (nP p)):=by
 obtain⟨_,b,c,d⟩:=ZbD h;have hn:=ZvK h (n:=nP p) b.2;unfold shV loK;rw[Bool.or_assoc,hn,ZsG h b.1 (by omega),ZsH h (by omega)];clear hn d;generalize Zb4 p (nP p)=lo;generalize Zbm p (nP p)=hi;generalize nrU (ZO p (lsP p)) (Zab p (lsP p)) (10^(atL p-nP p))=nu;cases hl:loB false (mag p) (sg p).toNat (xp p) (frP p) (nP p)<;>cases hh:hiB false (mag p) (sg p).toNat (xp p) (frP p) (nP p)<;>cases nu<;>first | rfl | (rw[hl,hh] at c;rcases c with c | c<;>cases c)
theorem ZmW {n f g:Nat}(h:n<10^f) (hf:1≤f) (hg:f≤g):Zbj g n=Zbj f n:=by
 induction f generalizing n g with
 | zero=>omega
 | succ f ih=>
  obtain⟨g,rfl⟩:∃ g',g=g'+1:=⟨g-1,by omega⟩;unfold Zbj;by_cases h10:n<10
  ·rw[if_pos h10,if_pos h10]
  ·have hf0:f≠0:=fun c=>by subst c;simp at h;omega
   rw[if_neg h10,if_neg h10,ih (n:=n/10) (by rw[Nat.pow_succ] at h;omega) (by omega) (by omega)]
theorem ZvL (l:List UInt8) (c:Nat):trR (l++List.replicate c 48)=trR l:=by
 induction c with
 | zero=>rw[List.replicate_zero,List.append_nil]
 | succ c ih=>
  rw[List.replicate_succ',← List.append_assoc,ZaY,if_pos (by decide),ih]
theorem ZqY {k n:Nat}(hk:1≤k) (h:n % 10≠0):trR (fx k n)=fx k n:=by
 obtain⟨k,rfl⟩:∃ k',k=k'+1:=⟨k-1,by omega⟩;have e:fx (k+1) n=fx k (n/10)++[chD (n % 10)]:=rfl;rw[e,ZaY,if_neg (fun c=>h ((Zi8 (by omega)).mp c))]
theorem Zho {n c v:Nat}(h0:1≤n) (hc:n+c≤20) (h1:10^(n-1)≤v) (h2:v<10^n) (h3:v % 10≠0):trR (dcL (v*10^c))=Zbj n v∧(dcL (v*10^c)).length=n+c:=by
 have a1:10^(n+c-1)≤v*10^c:=by
  rw[show n+c-1=n-1+c by omega,Nat.pow_add];exact Nat.mul_le_mul_right _ h1
 have a2:v*10^c<10^(n+c):=by
  rw[Nat.pow_add];exact Nat.mul_lt_mul_of_pos_right h2 (Nat.pow_pos (by omega))
 have e:dcL (v*10^c)=fx n v++List.replicate c 48:=by
  unfold dcL;rw[ZmW a2 (by omega) hc,← ZcR (by omega) a1 a2,ZsB]
 rw[e,ZvL,ZqY h0 h3,ZcR h0 h1 h2];refine⟨rfl,?_⟩;rw[List.length_append,List.length_replicate,← ZcR h0 h1 h2,ZbL]
theorem ZqZ {p:Int}(h:Fin14 p):txL (decide (9223372036854775808≤p)) (trR (dcL (shV p))) (lsP p+((dcL (shV p)).length:Nat)-1)=shS p:=by
 obtain⟨e,b,c,d⟩:=ZbD h;obtain⟨⟨l1,l2⟩,_⟩:=Zbg h;have hf:=Zdn h;obtain⟨q1,q2⟩:=ZmO (ZdM h).1 b.1;have k1:=(Z0v h (n:=nP p) (by omega)).1;obtain⟨mn,hmn⟩:∃ mn,mn=decide (9223372036854775808≤p):=⟨_,rfl⟩;rw[e,← hmn];unfold shO shV;rw[ZqT mn false];have fewer:1<nP p→qD (sg p).toNat (xp p) (frP p) (nP p-1)=qD (sg p).toNat (xp p) (frP p) (nP p)/10∧loB false (mag p) (sg p).toNat (xp p) (frP p) (nP p-1)=false∧hiB false (mag p) (sg p).toNat (xp p) (frP p) (nP p-1)=false:=fun hn=>by
  obtain⟨x,y⟩:=d (nP p-1) (by omega) (by omega);refine⟨?_,x,y⟩;rw[k1,(Z0v h (n:=nP p-1) (by omega)).1,Nat.div_div_eq_div_mul,← Nat.pow_succ];congr 2;omega
 have hp:0<10^(nP p-1):=Nat.pow_pos (by omega);obtain⟨n,hn⟩:∃ n,n=nP p:=⟨_,rfl⟩;rw[← hn] at b q1 q2 k1 fewer c hp ⊢;obtain⟨q,hq⟩:∃ q,q=qD (sg p).toNat (xp p) (frP p) n:=⟨_,rfl⟩;unfold Zb4 Zbm hiX;rw[← k1,← hq];clear k1 e d;obtain⟨l,hl⟩:∃ l,l=atL p:=⟨_,rfl⟩;obtain⟨j,hj⟩:∃ j,j=lsP p:=⟨_,rfl⟩;obtain⟨f,hf0⟩:∃ f,f=frP p:=⟨_,rfl⟩;rw[← hf0,← hj,← hl] at hf;rw[← hl] at l1 l2;rw[← hf0] at fewer c hq q1 q2;rw[← hf0,← hj,← hl];clear hl hj hf0 hn;split
 ·rename_i hk;have hlo:=ZmQ hk;have h10:q % 10≠0:=by
   intro c0;by_cases h1:n=1
   ·rw[h1] at q1 q2 hq;rw[← hq] at q1 q2;simp at q1 q2;omega
   ·obtain⟨f1,f2,_⟩:=fewer (by omega);rw[← hq] at f1;have hq1:q/10≠0:=by
     have:10^(n-1)=10^(n-2)*10:=by rw[← Nat.pow_succ];congr 1;omega
     have:0<10^(n-2):=Nat.pow_pos (by omega);omega
    have ds:=(Zdj 0 false hq1 1 (f-(((n-1:Nat):Int)-1))).1;rw[Nat.pow_one,show q/10*10=q by omega,show f-(((n-1:Nat):Int)-1)-((1:Nat):Int)=f-((n:Int)-1) by omega] at ds;unfold loB at f2 hlo;rw[f1,← ds] at f2;rw[← hq,f2] at hlo;cases hlo
  rw[← hq] at q1 q2;obtain⟨t1,t2⟩:=Zho (c:=l-n) b.1 (by omega) q1 q2 h10;rw[t1,t2,show j+((n+(l-n):Nat):Int)-1=f by omega]
 ·rename_i hk;have hhi:hiB false (mag p) (sg p).toNat (xp p) (f) n=true:=by
   rcases c with c | c
   ·cases hh:hiB false (mag p) (sg p).toNat (xp p) (f) n with
    | true=>rfl
    | false=>exact absurd (ZmR c hh) hk
   ·exact c
  have h10:1<n→(q+1) % 10≠0:=by
   intro h1 c0;obtain⟨f1,_,f2⟩:=fewer (by omega);rw[← hq] at f1;have ds:=(Zdj 0 false (show q/10+1≠0 by omega) 1 (f-(((n-1:Nat):Int)-1))).1;rw[Nat.pow_one,show (q/10+1)*10=q+1 by omega,show f-(((n-1:Nat):Int)-1)-((1:Nat):Int)=f-((n:Int)-1) by omega] at ds;unfold hiB at f2 hhi;rw[f1,← ds] at f2;rw[← hq,f2] at hhi;cases hhi
  rw[← hq] at q1 q2;by_cases hc:q+1=10^n
  ·rw[if_pos hc];have h1:n=1:=by
    rcases Nat.lt_or_ge 1 n with c0 | c0
    ·refine absurd ?_ (h10 c0);rw[hc,show n=n-1+1 by omega,Nat.pow_succ];omega
    ·omega
   rw[hc,h1,show 10^1*10^(l-1)=1*10^l by rw[← Nat.pow_add,Nat.one_mul];congr 1;omega];obtain⟨t1,t2⟩:=Zho (n:=1) (c:=l) (v:=1) (by omega) (by omega) (by decide) (by decide) (by decide);rw[t1,t2,show j+((1+l:Nat):Int)-1=f+1 by omega]
  ·rw[if_neg hc];have h10':(q+1) % 10≠0:=by
    by_cases h1:n=1
    ·rw[h1] at q1 q2 hc;simp at q1 q2 hc;omega
    ·exact h10 (by omega)
   obtain⟨t1,t2⟩:=Zho (c:=l-n) b.1 (by omega) (show 10^(n-1)≤q+1 by omega) (by omega) h10';rw[t1,t2,show j+((n+(l-n):Nat):Int)-1=f by omega]
end Go.Rd
namespace Go.Proofs.YtgefjidphfdhdaaGreatDoor
open Go.Proofs.Tryz
open Go.KRun Go.Rd Go.RowKit
set_option maxRecDepth 100000
def pwV:List Value:=Lib.pow10Tab.map fun z=>Value.int .u64 z
def pwT:TypeId:=3*ZT+(1048576*20+2)
def knT (w:World):Prop:=∃ t z,w.heap[2]? =some (.cells pwV.toArray t z)
theorem ZiA {w:World}(h:knT w) {nm:String}(hn:prog.globalNamed nm=some 2):Lib.TabIs prog w nm .u64 Lib.pow10Tab:=by
 obtain⟨t,z,h⟩:=h;unfold Lib.TabIs World.var?;rw[hn];simp only[Option.bind_some];rw[h];rfl
def Zra:List Value→List Int→Bool
 | [],[]=>true
 | .int .u64 a::r,b::q=>decide (a=b) && Zra r q
 | _,_=>false
theorem ZiB:∀ {l:List Value}{q:List Int},Zra l q=true→l=q.map fun z=>Value.int .u64 z
 | [],[],_=>rfl
 | .int .u64 a::r,b::q,h=>by
  unfold Zra at h;rw[Xh,Xi] at h;rw[List.map_cons,h.1,ZiB h.2]
def isT:Option (List Value×TypeId)→Bool
 | some (cs,ty)=>Nat.beq ty pwT && Zra cs Lib.pow10Tab
 | none=>false
def Z41 (h:Hp):Bool:=isT (h.blk? 0) || isT (h.blk? 1)
theorem ZsI {o:Option (List Value×TypeId)}(h:isT o=true):o=some (pwV,pwT):=by
 unfold isT at h;split at h
 ·rw[Xh] at h;rw[Xj h.1,ZiB h.2];rfl
 ·cases h
theorem Zfl (m:Mp):pwV.map (mv1 m)=pwV:=rfl
theorem Z0x {m:Mp}{B:Nat}{h:Hp}{w:World}(E:Emb m B h w) (ht:Z41 h=true):knT w:=by
 obtain⟨b,hb⟩:∃ b,h.blk? b=some (pwV,pwT):=by
  unfold Z41 at ht;rw[Bool.or_eq_true] at ht;rcases ht with ht | ht
  ·exact⟨0,ZsI ht⟩
  ·exact⟨1,ZsI ht⟩
 obtain⟨_,r,t,z,k2,k3⟩:=E.abs b _ hb (by kernel_rfl);have e1:nbA pwT=2:=by kernel_rfl
 have e2:lnA pwT=20:=by kernel_rfl
 simp only[Zfl,e1] at k2;simp only[Zfl,e2] at k3;have e3:pwV.length=20:=rfl;have hr:r=[]:=List.length_eq_zero_iff.1 (by omega);rw[hr,List.append_nil] at k2;exact⟨t,z,k2⟩
def ZbM (f:Nat) (g:Ans):Prop:=∀ vals s v s' lg,g vals s=some (v,s',lg)→Zu lg→∀ w,knT w→Calls prog f vals.toArray w fun e w'=>e= .returned v∧zH w w'
def gT (g:Ans):Zag:=fun vals h s=>
 match Z41 h && vals.all (lt 0) with
 | true=>
  match g vals s with
  | some (v,s',lg)=>match lt 0 v with | true=>some (v,h,s',lg) | false=>none
  | none=>none
 | false=>none
theorem Zfm {f:Nat}{g:Ans}(hg:ZbM f g):Z8 f (gT g):=by
 intro vals h s v h' s' lg hr hl m B w E hv;unfold gT at hr;split at hr
 ·rename_i hc;rw[Xh] at hc;split at hr
  ·rename_i v1 s1 lg1 hgv;split at hr
   ·rename_i hv0;cases hr;have hst:∀ y∈vals,lt 0 y=true:=List.all_eq_true.1 hc.2;have e:vals.map (mv m)=vals:=(List.map_congr_left fun y hy=>Z7 (hst y hy)).trans (List.map_id' _);rw[e];refine (hg _ _ _ _ _ hgv hl w (Z0x E hc.1)).mono fun e w' he=> ?_;obtain⟨E',hb'⟩:=ZS E he.2;exact⟨m,by rw[he.1,Z7 hv0],⟨Agree.refl _ _,E',hb',Nat.le_refl _,z6 (Nat.zero_le _) hv0⟩⟩
   ·cases hr
  ·cases hr
 ·cases hr
def hT0:Hp:=⟨1,[(pwV,pwT)]⟩
def hT2:Hp:=⟨2,[(pwV,pwT),(kV,kT)]⟩
theorem Ze1 {b:Nat}{x:List Value×TypeId}(h:hT0.blk? b=some x):x=(pwV,pwT):=by
 have hb0:b=0:=by have:b<1:=Hp.blk_lt h;omega
 subst hb0;exact (Option.some.inj h).symm
theorem Z6d {w:World}(hk:knT w) (m:Mp):nbA pwT<w.heap.size∧absR w (pwV.map (mv1 m)) pwT:=by
 obtain⟨t,z,h⟩:=hk;have e1:nbA pwT=2:=by kernel_rfl
 have e2:lnA pwT=20:=by kernel_rfl
 refine⟨by rw[e1];exact (Array.getElem?_eq_some_iff.1 h).1,[],t,z,?_,.inr ?_⟩
 ·rw[e1,Zfl,List.append_nil,h]
 ·rw[e2];rfl
theorem ZsJ {w:World}(hk:knT w):Emb (fun b=>(b,0)) w.heap.size hT0 w where
 len:=rfl
 lies:=fun b x hb hx=>by rw[Ze1 hb,show zE pwT=true from by kernel_rfl] at hx;cases hx
 low:=fun b x hb hx=>by rw[Ze1 hb,show ro pwT=true from by kernel_rfl] at hx;cases hx
 ros:=fun b x hb hx=>by rw[Ze1 hb,show zE pwT=true from by kernel_rfl] at hx;cases hx
 inj:=fun b b' x x' hb _ hx=>by rw[Ze1 hb,show ro pwT=true from by kernel_rfl] at hx;cases hx
 wf:=fun b x hb v hv=>by
  rw[Ze1 hb] at hv;have:∀ v∈pwV,lt1 1 v=true:=List.all_eq_true.1 (by kernel_rfl);exact this v hv
 base:=Nat.le_refl _
 ice:=fun k h1 h2=>by omega
 abs:=fun b x hb _=>by
  rw[Ze1 hb];exact Z6d hk _
theorem Ze2 {b:Nat}{x:List Value×TypeId}(h:hT2.blk? b=some x):x=(pwV,pwT)∨x=(kV,kT):=by
 have hb0:b<2:=Hp.blk_lt h;rcases (show b=0∨b=1 by omega) with rfl | rfl
 ·exact .inr (Option.some.inj h).symm
 ·exact .inl (Option.some.inj h).symm
theorem ZmX {w:World}(hk:ZdB w) (ht:knT w):Emb (fun b=>(b,0)) w.heap.size hT2 w where
 len:=rfl
 lies:=fun b x hb hx=>by
  rcases Ze2 hb with rfl | rfl
  ·rw[show zE pwT=true from by kernel_rfl] at hx;cases hx
  ·rw[show zE kT=true from by kernel_rfl] at hx;cases hx
 low:=fun b x hb hx=>by
  rcases Ze2 hb with rfl | rfl
  ·rw[show ro pwT=true from by kernel_rfl] at hx;cases hx
  ·rw[show ro kT=true from by kernel_rfl] at hx;cases hx
 ros:=fun b x hb hx=>by
  rcases Ze2 hb with rfl | rfl
  ·rw[show zE pwT=true from by kernel_rfl] at hx;cases hx
  ·rw[show zE kT=true from by kernel_rfl] at hx;cases hx
 inj:=fun b b' x x' hb _ hx=>by
  rcases Ze2 hb with rfl | rfl
  ·rw[show ro pwT=true from by kernel_rfl] at hx;cases hx
  ·rw[show ro kT=true from by kernel_rfl] at hx;cases hx
 wf:=fun b x hb v hv=>by
  rcases Ze2 hb with rfl | rfl
  ·have:∀ v∈pwV,lt1 2 v=true:=List.all_eq_true.1 (by kernel_rfl);exact this v hv
  ·have:∀ v∈kV,lt1 2 v=true:=List.all_eq_true.1 (by kernel_rfl);exact this v hv
 base:=Nat.le_refl _
 ice:=fun k h1 h2=>by omega
 abs:=fun b x hb _=>by
  rcases Ze2 hb with rfl | rfl
  ·exact Z6d ht _
  ·exact (Zys hk).abs 0 (kV,kT) rfl (by kernel_rfl)
theorem ZbZ {T:Tab}(hT:TabOk T) {n f:Nat}{vals:List Value}{s:List Dec}{v:Value}{cs:Log}(hF:ZH (ZK T hT0 n f vals s) v cs) (hcs:Zu cs) (hvals:(vals.all (lt 0))=true) (hv:lt 0 v=true) {w:World}(hk:knT w):
  Calls T.P f vals.toArray w fun e w'=>e= .returned v∧zH w w':=Zb0 hT hF hcs hvals hv (ZsJ hk)
theorem ZmY:∀ {f u:Nat},u<10^(f+1)→Lib.decDigits u=Zbj (f+1) u
 | 0,u,h=>by
  have h10:u<10:=by simpa using h
  rw[Lib.decDigits_one h10];unfold Zbj;rw[if_pos h10];rfl
 | f+1,u,h=>by
  unfold Zbj;by_cases h10:u<10
  ·rw[if_pos h10,Lib.decDigits_one h10];rfl
  ·rw[if_neg h10,Lib.decDigits,dif_neg h10,ZmY (f:=f) (by rw[Nat.pow_succ] at h;omega)];rfl
theorem Zhp {u:Nat}(h:u<18446744073709551616):Lib.decDigits u=dcL u:=ZmY (f:=19) (ZmF h)
theorem Zrb {n:Int}(h:n.natAbs<18446744073709551616):Lib.itoa n=Zca n:=by
 unfold Lib.itoa Zca;split
 ·rw[Zhp h]
 ·rw[show n.toNat=n.natAbs by omega,Zhp h]
theorem ZcD {w w':World}(h:Below w.heap.size w w'):zH w w':=⟨h,fun _ _ _=>trivial⟩
theorem ZcS (w:World) (k:Nat) (os:Array Obj):Below w.heap.size w (Go.Sort.grow (w.drewN k) os):=by
 refine⟨rfl,rfl,rfl,?_,fun j hj=> ?_⟩
 ·show w.heap.size≤(w.heap++os).size;rw[Array.size_append];omega
 ·show (w.heap++os)[j]? =w.heap[j]?;rw[Array.getElem?_append_left hj]
theorem ZjA (n:Int) (h:n.natAbs≤2000000) (w:World) (hk:knT w):Calls prog 46 #[.int .i64 n] w fun e w'=>e= .returned (bR (Zca n))∧zH w w':=by
 refine (Any.strconv_Itoa Zfb n (by omega) (by omega) w (ZiA hk (by kernel_rfl))).mono fun e w' he=> ?_;obtain⟨he,k,os,rfl⟩:=he;refine⟨?_,ZcD (ZcS w k os)⟩;rw[he,Zrb (by omega)];rfl
def Z42:Ans:=fun vals s=>
 match vals with
 | [.int .i64 n]=>some (bR (Zca n),s,[(decide (n.natAbs≤2000000),true)])
 | _=>none
theorem ZvM:ZbM 46 Z42:=by
 intro vals s v s' lg h hl w hk;unfold Z42 at h;split at h
 ·cases h;exact ZjA _ (Xc (hl _ Xf)) w hk
 ·cases h
end Go.Proofs.YtgefjidphfdhdaaGreatDoor
namespace Go.Proofs.YtgefjidphfdhdaaGreatDoor
open Go.Proofs.Tryz
open Go.KRun Go.Nt Go.Rd
set_option maxRecDepth 100000
theorem Zrc (c:Int) (L:List UInt8) (n:Nat) (x:Lf) (h:∃ (l:List UInt8) (g:Nat→Value),x.1=trF l c++tl 18 g∧x.2.1=⟨0,[]⟩∧trC c l=trC c L∧l.length≤100000∧n=l.length):Runs (Zo prog Zg Zn true) (Z0d f85) x fun e y=>match e with | none=>∃ n',n'<n∧∃ (l:List UInt8) (g:Nat→Value),y.1=trF l c++tl 18 g∧y.2.1=⟨0,[]⟩∧trC c l=trC c L∧l.length≤100000∧n'=l.length | some none=>False | some (some id')=>id'=0∧∃ g:Nat→Value,y.1=trF (trC c L) c++tl 18 g∧y.2.1=⟨0,[]⟩:=by
 obtain⟨l,g,e1,e2,h1,h3,h2⟩:=h;obtain⟨t,hh,s⟩:=x;have e1:t=_:=e1;have e2:hh=_:=e2;subst e1 e2;have T:=Zl Ze;by_cases hn:l=[]
 ·subst hn;refine (Zb T (Z0g [] c g) (ZB (by decide))).mono fun e z he=> ?_;obtain⟨rfl,⟨g',z1⟩,z2⟩:=he;have:trC c L=[]:=h1.symm;rw[this];exact⟨rfl,g',z1,z2⟩
 ·obtain⟨l',x,hl⟩:∃ l' x,l=l'++[x]:=⟨l.dropLast,l.getLast hn,(List.dropLast_concat_getLast hn).symm⟩;have hlen:l.length=l'.length+1:=by rw[hl,List.length_append];rfl
  have em:lm1 l=(l'.length:Nat):=by unfold lm1;rw[Zw (by omega) (by omega)];omega
  have eb:byR l (lm1 l)=lq8 x:=by
   unfold byR lq8;rw[em,Xg,hl];simp [List.getD]
  have et:l.take (lm1 l).toNat=l':=by
   rw[em,Xg,hl];exact List.take_left' rfl
  have k1:decide (0≤lm1 l∧(lm1 l).toNat<l.length)=true:=Xa (by omega);have k2:decide (((l.length:Nat):Int)>0)=true:=Xa (by omega);by_cases hx:lq8 x=c
  ·have hg:=Z4w l c g;rw[et] at hg;refine (Zb T hg (Za (Xa (by omega)) (Za (by rw[eb];simpa using hx) (Za k1 (ZB k2))))).mono fun e z he=> ?_;obtain⟨rfl,⟨g',z1⟩,z2⟩:=he;refine⟨l'.length,by omega,l',g',z1,z2,?_,by omega,rfl⟩;rw[← h1,hl,Zfj,if_pos hx]
  ·refine (Zb T (Z0f l c g) (Za (by rw[eb];simpa using hx) (Za k1 (ZB k2)))).mono fun e z he=> ?_;obtain⟨rfl,⟨g',z1⟩,z2⟩:=he;have:trC c L=l:=by rw[← h1,hl,Zfj,if_neg hx]
   rw[this];exact⟨rfl,g',z1,z2⟩
theorem ZjB (c:Int) (l:List UInt8) (hl:l.length≤100000) (w:World):Calls prog 85 #[bR l,.int .u8 c] w fun r w'=>r= .returned (bR (trC c l))∧zH w w':=by
 have hT:=Zl Ze;refine zW (T:=Zo prog Zg Zn true) func85 Zv7 (by rfl) (by rfl) ?_ w;refine Z4 hT (Z0e l c) Zhk fun g=> ?_;refine Runs.seq (P1:=fun e y=>e=none∧∃ g:Nat→Value,y.1=trF (trC c l) c++tl 18 g∧y.2.1=⟨0,[]⟩) ?_ ?_ (fun e y he=>by cases he.1)
 ·refine (Runs.forLoop (R:=fun _=>False) (P:=fun y=>∃ g:Nat→Value,y.1=trF (trC c l) c++tl 18 g∧y.2.1=⟨0,[]⟩) (fun n x=>∃ (l':List UInt8) (g:Nat→Value),x.1=trF l' c++tl 18 g∧x.2.1=⟨0,[]⟩∧trC c l'=trC c l∧l'.length≤100000∧n=l'.length) (Zrc c l) (n:=l.length) ⟨l,g,rfl,rfl,rfl,hl,rfl⟩).mono fun e z hz=> ?_
  match e,hz with
  | none,hz=>exact⟨rfl,hz⟩
 ·intro y he;obtain⟨_,g',e1,e2⟩:=he;obtain⟨t,hh,s⟩:=y;have e1:t=_:=e1;have e2:hh=_:=e2;subst e1 e2;refine (Zb hT (Z0h (trC c l) c g') Zhk).mono fun e z hz=> ?_;obtain⟨rfl,⟨g2,z1⟩,z2⟩:=hz;exact⟨.inr rfl,by rw[z1,z2];rfl⟩
def Z43:Ans:=fun vals s=>
 match vals with
 | [.string b,.int .u8 c]=>some (bR (trC c b.data.toList),s,[(decide (b.data.toList.length≤100000),true)])
 | _=>none
theorem ZvN:z8 85 Z43:=by
 intro vals s v s' lg h hl w;unfold Z43 at h;split at h
 ·cases h;exact ZjB _ _ (Xc (hl _ Xf)) w
 ·cases h
def ZmZ:Con:=alt 85 Z43 Zn
theorem Zdo:ConOk ZmZ:=ZF func85 rfl ZvN Ze
theorem Z44 (l:List UInt8):ZH (Zr (Zo prog Zg ZmZ true) 100 42 [bR l,bR [48]] [sam true]) (bR l) [Zdk l [] true]:=by and_intros<;>kernel_rfl
theorem Z45 (l:List UInt8):ZH (Zr (Zo prog Zg ZmZ true) 100 42 [bR l,bR [48]] [sam false]) (bR (trC 48 l)) [(decide (l.length≤100000),true),(true,true),(true,true),Zdk l [] false]:=by and_intros<;>kernel_rfl
theorem Z46 (l:List UInt8):ZH (Zr (Zo prog Zg ZmZ true) 100 42 [bR l,bR [57]] [sam true]) (bR l) [Zdk l [] true]:=by and_intros<;>kernel_rfl
theorem Z47 (l:List UInt8):ZH (Zr (Zo prog Zg ZmZ true) 100 42 [bR l,bR [57]] [sam false]) (bR (trC 57 l)) [(decide (l.length≤100000),true),(true,true),(true,true),Zdk l [] false]:=by and_intros<;>kernel_rfl
def Z0y:Ans:=fun vals s=>
 match vals with
 | [.string b,.string ⟨⟨[c]⟩⟩]=>some (bR (trC (lq8 c) b.data.toList),s,[(decide (c=48∨c=57),true),(decide (b.data.toList.length≤100000),true)])
 | _=>none
theorem Zhq:z8 42 Z0y:=by
 intro vals s v s' lg h hl w;unfold Z0y at h;split at h
 ·rename_i b c;cases h;have hc:=Xc (hl _ Xe);have h2:=hl _ (Xd _ Xf);by_cases hn:b.data.toList=[]
  ·have hb:b=⟨⟨[]⟩⟩:=by
    apply ByteArray.ext;apply Array.ext';exact hn
   subst hb;rcases hc with rfl | rfl
   ·exact Zf (Zl Zdo) (Z44 []) (ZB (Zai (Xa rfl))) (by rfl) (by rfl) w
   ·exact Zf (Zl Zdo) (Z46 []) (ZB (Zai (Xa rfl))) (by rfl) (by rfl) w
  ·rcases hc with rfl | rfl
   ·exact Zf (Zl Zdo) (Z45 b.data.toList) (Za h2 (Za rfl (Za rfl (ZB (Zai (Xb hn)))))) (by rfl) (by rfl) w
   ·exact Zf (Zl Zdo) (Z47 b.data.toList) (Za h2 (Za rfl (Za rfl (ZB (Zai (Xb hn)))))) (by rfl) (by rfl) w
 ·cases h
theorem ZvO (c:UInt8) (n:Nat):Lib.repeatL [c] n=List.replicate n c:=by
 have:=Lib.repeatL_replicate c 1 n;rw[Nat.mul_one] at this;exact this
def Z2t:Ans:=fun vals s=>
 match vals with
 | [.string ⟨⟨[c]⟩⟩,.int .i64 n]=>some (bR (List.replicate n.toNat c),s,[(decide (0≤n∧n≤100000),true)])
 | _=>none
theorem Zna:z8 72 Z2t:=by
 intro vals s v s' lg h hl w;unfold Z2t at h;split at h
 ·rename_i c n;cases h;obtain⟨h1,h2⟩:=Xc (hl _ Xf);obtain⟨k,rfl⟩:∃ k:Nat,n=k:=⟨n.toNat,by omega⟩;refine (Any.strings_Repeat Zv6 ZcB ⟨⟨[c]⟩⟩ k w (by omega) (by show 1*k≤_;omega)).mono fun e w' he=> ?_;refine⟨?_,ZcD he.2⟩;rw[he.1,ZvO];rfl
 ·cases h
theorem Z0z:∀ l r:List UInt8,Lib.compareBytes l r=cmS l r
 | [],[]=>rfl
 | [],_::_=>rfl
 | _::_,[]=>rfl
 | a::l,b::r=>by
  unfold Lib.compareBytes cmS;have e1:(a<b)=(lq8 a<lq8 b):=by
   unfold lq8;rw[UInt8.lt_iff_toNat_lt];apply propext;omega
  have e2:(b<a)=(lq8 b<lq8 a):=by
   unfold lq8;rw[UInt8.lt_iff_toNat_lt];apply propext;omega
  by_cases h1:a<b
  ·rw[if_pos h1,if_pos (e1.mp h1)]
  ·rw[if_neg h1,if_neg (fun c=>h1 (e1.mpr c))];by_cases h2:b<a
   ·rw[if_pos h2,if_pos (e2.mp h2)]
   ·rw[if_neg h2,if_neg (fun c=>h2 (e2.mpr c)),Z0z l r]
def Z48:Ans:=fun vals s=>
 match vals with
 | [.string a,.string b]=>some (.int .i64 (cmS a.data.toList b.data.toList),s,[])
 | _=>none
theorem Zhr (w:World):zH w w:=⟨Go.RowKit.Below.refl _ _,fun k h1 h2=>by omega⟩
theorem ZvP:z8 125 Z48:=by
 intro vals s v s' lg h hl w;unfold Z48 at h;split at h
 ·rename_i a b;cases h;refine (Any.strings_Compare Zv5 a b w).mono fun e w' he=> ?_;obtain⟨he,rfl⟩:=he;exact⟨by rw[he,Z0z],Zhr _⟩
 ·cases h
end Go.Proofs.YtgefjidphfdhdaaGreatDoor
namespace Go.Proofs.YtgefjidphfdhdaaGreatDoor
open Go.Proofs.Tryz
open Go.IntKind
open Go.KRun Go.Pt
set_option maxRecDepth 100000
def gU (k:Int→Value):Ans:=fun vals s=>
 match vals with
 | [.int .u64 p]=>some (k p,s,[(decide (U p),true)])
 | _=>none
theorem Znb {f:Nat}{k:Int→Value}(hk:∀ p:Int,U p→∀ w,Calls prog f #[.int .u64 p] w fun e w'=>e= .returned (k p)∧zH w w'):z8 f (gU k):=by
 intro vals s v s' lg h hl w;unfold gU at h;split at h
 ·cases h;exact hk _ (Xc (hl _ Xf)) w
 ·cases h
theorem Zrd (p:Int):ZH (Zr (Zo prog Zg Zn true) 300 114 [.int .u64 p] []) (.int .u64 (Z3J p 9223372036854775808)) []:=by and_intros<;>kernel_rfl
theorem Z00:z8 114 (gU fun p=> .int .u64 (mag p)):=Znb fun p hp w=>by
 have:=Zf (Zl Ze) (Zrd p) (fun x hx=>by cases hx) (by rfl) (by rfl) w;rw[ZlX hp] at this;exact this
def ZgN:Con:=alt 114 (gU fun p=> .int .u64 (mag p)) Zn
theorem ZbQ:ConOk ZgN:=ZF func114 rfl Z00 Ze
def exM (p:Int):Int:=i64.wrap ((mag p).fdiv (2^min (52:Int).toNat 64))
theorem ZsK (p:Int):exM p=ex p:=by
 have e:((2:Int)^min (52:Int).toNat 64)=4503599627370496:=by rfl
 unfold exM;rw[e,Int.fdiv_eq_ediv_of_nonneg _ (by omega),Zzd];have:=Zhc p;exact Zih ⟨by omega,by omega⟩
def frM (p:Int):Int:=Zig p 4503599627370495
def lX (p:Int) (l:Log):Log:=(decide ((52:Int)<0),false)::(decide (U p),true)::l
theorem Z49 {p:Int}(hp:U p):Zu (lX p []):=Za rfl (ZB (Xa hp))
def lQ (p:Int):Bool:=Zig (frM p) 2251799813685248 !=0
theorem Znc (p:Int) (d:Bool):ZH (Zr (Zo prog Zg ZgN true) 300 58 [.int .u64 p] [cmp true,cmp d]) (.int .i64 (match d with | true=>0 | false=>1)) ((frM p==0,d)::(exM p==0,true)::lX p []):=by
 cases d<;>exact by and_intros<;>kernel_rfl
theorem Zhs (p:Int):ZH (Zr (Zo prog Zg ZgN true) 300 58 [.int .u64 p] [cmp false,cmp true,cmp true]) (.int .i64 3) ((frM p==0,true)::(exM p==2047,true)::(exM p==0,false)::lX p []):=by and_intros<;>kernel_rfl
theorem Znd (p:Int) (d:Bool):ZH (Zr (Zo prog Zg ZgN true) 300 58 [.int .u64 p] [cmp false,cmp true,cmp false,cmp d]) (.int .i64 (match d with | true=>4 | false=>5)) ((lQ p,d)::(frM p==0,false)::(exM p==2047,true)::(exM p==0,false)::lX p []):=by
 cases d<;>exact by and_intros<;>kernel_rfl
theorem Zne (p:Int):ZH (Zr (Zo prog Zg ZgN true) 300 58 [.int .u64 p] [cmp false,cmp false]) (.int .i64 2) ((exM p==2047,false)::(exM p==0,false)::lX p []):=by and_intros<;>kernel_rfl
theorem Znf {p:Int}(hp:U p):frM p=fr p:=ZlY hp
theorem Z4A {p:Int}(hp:U p):lQ p=decide (2251799813685248≤fr p):=by
 have:=ZdY p;unfold lQ;rw[Znf hp,Zj1 ⟨by omega,by omega⟩];by_cases h:2251799813685248≤fr p
 ·rw[Xa h,show fr p/2251799813685248=1 from by omega];rfl
 ·rw[Xb h,show fr p/2251799813685248=0 from by omega];rfl
theorem ZsL:z8 58 (gU fun p=> .int .i64 (cl p)):=Znb fun p hp w=>by
 have hl:=Z49 hp;have ee:=ZsK p;have ef:=Znf hp;unfold cl;by_cases h0:ex p=0
 ·rw[if_pos h0];have:=Zf (Zl ZbQ) (Znc p (frM p==0)) (Za rfl (Za (by rw[ee];simp [h0]) hl)) (by rfl) (by cases (frM p==0)<;>rfl) w;rw[ef] at this;by_cases h1:fr p=0
  ·rw[if_pos h1];rw[show (fr p==0)=true from by simp [h1]] at this;exact this
  ·rw[if_neg h1];rw[show (fr p==0)=false from by simp [h1]] at this;exact this
 ·rw[if_neg h0];by_cases h2:ex p=2047
  ·rw[if_pos h2];by_cases h1:fr p=0
   ·rw[if_pos h1];exact Zf (Zl ZbQ) (Zhs p) (Za (by rw[ef];simp [h1]) (Za (by rw[ee];simp [h2]) (Za (by rw[ee];simp [h0]) hl))) (by rfl) (by rfl) w
   ·rw[if_neg h1];have:=Zf (Zl ZbQ) (Znd p (lQ p)) (Za rfl (Za (by rw[ef];simp [h1]) (Za (by rw[ee];simp [h2]) (Za (by rw[ee];simp [h0]) hl)))) (by rfl) (by cases (lQ p)<;>rfl) w;rw[Z4A hp] at this;by_cases h3:2251799813685248≤fr p
    ·rw[if_pos h3];rw[Xa h3] at this;exact this
    ·rw[if_neg h3];rw[Xb h3] at this;exact this
  ·rw[if_neg h2];exact Zf (Zl ZbQ) (Zne p) (Za (by rw[ee];simp [h2]) (Za (by rw[ee];simp [h0]) hl)) (by rfl) (by rfl) w
def ZhL:Con:=alt 58 (gU fun p=> .int .i64 (cl p)) ZgN
theorem Zc2:ConOk ZhL:=ZF func58 rfl ZsL ZbQ
def vP (m:Bool) (c e s:Int):Value:= .agg #[.bool m,.int .i64 c,.int .i64 e,.int .u64 s]
def vT (p:Int):Value:=vP (sgn p) (cl p) (xp p) (sg p)
def lS (p:Int) (d:Bool):Bool×Bool:=(Zig p 9223372036854775808 !=0,d)
def lU (p:Int):Bool×Bool:=(decide (U p),true)
theorem Zht (p:Int) (d:Bool):ZH (Zr (Zo prog Zg ZhL true) 300 20 [.int .u64 p] [cmp d,cmp true]) (vP d (cl p) (-1074) (frM p)) [(cl p==0,true),lU p,lS p d]:=by and_intros<;>kernel_rfl
theorem Zng (p:Int) (d:Bool):ZH (Zr (Zo prog Zg ZhL true) 300 20 [.int .u64 p] [cmp d,cmp false,cmp true]) (vP d (cl p) (-1074) (frM p)) [(cl p==1,true),(cl p==0,false),lU p,lS p d]:=by and_intros<;>kernel_rfl
theorem ZjC (p:Int) (d:Bool):ZH (Zr (Zo prog Zg ZhL true) 300 20 [.int .u64 p] [cmp d,cmp false,cmp false,cmp true]) (vP d (cl p) (i64.wrap (exM p-1075)) (bOr (frM p) 4503599627370496)) [(decide ((52:Int)<0),false),lU p,(cl p==2,true),(cl p==1,false),(cl p==0,false),lU p,lS p d]:=by and_intros<;>kernel_rfl
theorem ZjD (p:Int) (d:Bool):ZH (Zr (Zo prog Zg ZhL true) 300 20 [.int .u64 p] [cmp d,cmp false,cmp false,cmp false]) (vP d (cl p) 0 (frM p)) [(cl p==2,false),(cl p==1,false),(cl p==0,false),lU p,lS p d]:=by and_intros<;>kernel_rfl
theorem ZvQ {p:Int}(hp:U p):(Zig p 9223372036854775808 !=0)=sgn p:=by
 rw[ZlZ hp];unfold sgn;unfold U at hp;by_cases h:9223372036854775808≤p
 ·rw[Xa h,show p/9223372036854775808=1 from by omega];rfl
 ·rw[Xb h,show p/9223372036854775808=0 from by omega];rfl
theorem Zfn (p:Int):(ex p=0∧(cl p=0∨cl p=1))∨(ex p=2047∧3≤cl p)∨(ex p≠0∧ex p≠2047∧cl p=2):=by
 unfold cl;split
 ·split<;>omega
 ·split
  ·split
   ·omega
   ·split<;>omega
  ·omega
theorem ZvR {p:Int}:bOr (fr p) 4503599627370496=fr p+4503599627370496:=by
 have:=ZdY p;rw[or_low 52 (z:=1) (by omega) (by rfl) this.1 (show fr p<2^52 from this.2) (by omega)];omega
theorem ZjE (p:Int) (hp:U p) (w:World):Calls prog 20 #[.int .u64 p] w fun e w'=>e= .returned (vT p)∧zH w w':=by
 have hu:decide (U p)=true:=Xa hp;have hs:=ZvQ hp;have hf:=Znf hp;have he:=ZsK p;have hx:=Zhc p;unfold vT xp sg;rcases Zfn p with ⟨h1,h2⟩ | ⟨h1,h2⟩ | ⟨h1,h2,h3⟩
 ·rw[if_pos h1,if_pos h1];rcases h2 with h2 | h2
  ·have:=Zf (Zl Zc2) (Zht p (sgn p)) (Za (by simp [h2]) (Za hu (ZB hs))) (by rfl) (by rfl) w;rw[hf] at this;exact this
  ·have:=Zf (Zl Zc2) (Zng p (sgn p)) (Za (by simp [h2]) (Za (by simp [h2]) (Za hu (ZB hs)))) (by rfl) (by rfl) w;rw[hf] at this;exact this
 ·have h0:¬ ex p=0:=by omega
  simp only[if_neg h0,if_pos h1];have h3:¬ cl p=0:=by omega
  have h4:¬ cl p=1:=by omega
  have h5:¬ cl p=2:=by omega
  have:=Zf (Zl Zc2) (ZjD p (sgn p)) (Za (by simp [h5]) (Za (by simp [h4]) (Za (by simp [h3]) (Za hu (ZB hs))))) (by rfl) (by rfl) w;rw[hf] at this;exact this
 ·rw[if_neg h1,if_neg h1,if_neg h2,if_neg h2];have:=Zf (Zl Zc2) (ZjC p (sgn p)) (Za rfl (Za hu (Za (by simp [h3]) (Za (by simp [h3]) (Za (by simp [h3]) (Za hu (ZB hs))))))) (by rfl) (by rfl) w;rw[hf,he,Zih ⟨by omega,by omega⟩,ZvR] at this;exact this
def exR (p:Int):Int:=(u64.wrap (p.tdiv 4503599627370496)).tmod 2048
def frR (p:Int):Int:=p.tmod 4503599627370496
def lR (p:Int) (d:Bool):Log:=[(decide (p≥9223372036854775808),d),(decide ((4503599627370496:Int)=0),false),(decide ((2048:Int)=0),false)]
theorem Znh (p:Int) (d:Bool):ZH (Zr (Zo prog Zg Zn true) 300 47 [.int .u64 p] [cmp true,cmp true,cmp d,cmp false,cmp false]) (vP d 2 (i64.wrap (i64.wrap (exR p)-1075)) (u64.wrap (frR p+4503599627370496))) ((exR p==0,false)::(exR p==2047,false)::lR p d):=by and_intros<;>kernel_rfl
theorem Zni (p:Int) (d:Bool):ZH (Zr (Zo prog Zg Zn true) 300 47 [.int .u64 p] [cmp true,cmp true,cmp d,cmp true,cmp true]) (vP d 4 0 (frR p)) ((decide (frR p≥2251799813685248),true)::(exR p==2047,true)::lR p d):=by and_intros<;>kernel_rfl
theorem Zgr (p:Int) (d b:Bool):ZH (Zr (Zo prog Zg Zn true) 300 47 [.int .u64 p] [cmp true,cmp true,cmp d,cmp true,cmp false,cmp b]) (vP d (match b with | true=>5 | false=>3) 0 (frR p)) ((decide (frR p>0),b)::(decide (frR p≥2251799813685248),false)::(exR p==2047,true)::lR p d):=by
 cases b<;>exact by and_intros<;>kernel_rfl
theorem Zgs (p:Int) (d b:Bool):ZH (Zr (Zo prog Zg Zn true) 300 47 [.int .u64 p] [cmp true,cmp true,cmp d,cmp false,cmp true,cmp b]) (vP d (match b with | true=>1 | false=>0) (-1074) (frR p)) ((decide (frR p>0),b)::(exR p==0,true)::(exR p==2047,false)::lR p d):=by
 cases b<;>exact by and_intros<;>kernel_rfl
theorem Z01 {p:Int}(hp:U p):exR p=ex p:=by
 unfold exR ex U at*;rw[Int.tdiv_eq_ediv_of_nonneg hp.1,ZlW ⟨by omega,by omega⟩,Int.tmod_eq_emod_of_nonneg (by omega)]
theorem Z02 {p:Int}(hp:U p):frR p=fr p:=by unfold frR fr U at*;rw[Int.tmod_eq_emod_of_nonneg hp.1]
theorem Znj (p:Int) (hp:U p) (w:World):Calls prog 47 #[.int .u64 p] w fun e w'=>e= .returned (vT p)∧zH w w':=by
 have hl:Zu (lR p (sgn p)):=Za rfl (Za rfl (ZB rfl));have hf:=Z02 hp;have he:=Z01 hp;have hx:=Zhc p;have hy:=ZdY p;unfold vT xp sg cl;by_cases h0:ex p=0
 ·simp only[if_pos h0];by_cases h1:fr p=0
  ·simp only[if_pos h1];have:=Zf (Zl Ze) (Zgs p (sgn p) false) (Za (by rw[hf];simp [h1]) (Za (by rw[he];simp [h0]) (Za (by rw[he];simp [h0]) hl))) (by rfl) (by rfl) w;rw[hf] at this;exact this
  ·simp only[if_neg h1];have:=Zf (Zl Ze) (Zgs p (sgn p) true) (Za (by rw[hf];exact Xa (by omega)) (Za (by rw[he];simp [h0]) (Za (by rw[he];simp [h0]) hl))) (by rfl) (by rfl) w;rw[hf] at this;exact this
 ·simp only[if_neg h0];by_cases h2:ex p=2047
  ·simp only[if_pos h2];by_cases h3:2251799813685248≤fr p
   ·simp only[if_pos h3,if_neg (show ¬ fr p=0 by omega)];have:=Zf (Zl Ze) (Zni p (sgn p)) (Za (by rw[hf];exact Xa h3) (Za (by rw[he];simp [h2]) hl)) (by rfl) (by rfl) w;rw[hf] at this;exact this
   ·by_cases h1:fr p=0
    ·simp only[if_pos h1];have:=Zf (Zl Ze) (Zgr p (sgn p) false) (Za (by rw[hf];simp [h1]) (Za (by rw[hf];exact Xb h3) (Za (by rw[he];simp [h2]) hl))) (by rfl) (by rfl) w;rw[hf] at this;exact this
    ·simp only[if_neg h1,if_neg h3];have:=Zf (Zl Ze) (Zgr p (sgn p) true) (Za (by rw[hf];exact Xa (by omega)) (Za (by rw[hf];exact Xb h3) (Za (by rw[he];simp [h2]) hl))) (by rfl) (by rfl) w;rw[hf] at this;exact this
  ·simp only[if_neg h2];have:=Zf (Zl Ze) (Znh p (sgn p)) (Za (by rw[he];simp [h0]) (Za (by rw[he];simp [h2]) hl)) (by rfl) (by rfl) w;rw[hf,he,Zih (n:=ex p) ⟨by omega,by omega⟩,Zih ⟨by omega,by omega⟩,ZlW ⟨by omega,by omega⟩] at this;exact this
theorem ZsM:z8 47 (gU vT):=Znb Znj
end Go.Proofs.YtgefjidphfdhdaaGreatDoor
namespace Go.Proofs.YtgefjidphfdhdaaGreatDoor
open Go.Proofs.Tryz
open Go.IntKind
open Go.KRun Go.Nt Go.Rd
set_option maxRecDepth 100000
set_option linter.unusedVariables false
def Zgt:Con:=alt 42 Z0y (alt 72 Z2t (alt 125 Z48 Zn))
theorem Zba:ConOk Zgt:=ZF func42 rfl Zhq (ZF func72 rfl Zna (ZF func125 rfl ZvP Ze))
def mnL (b:Bool):List UInt8:=if b=true then [45] else []
theorem Z03:ZH (Zr (Zo prog Zg Zgt true) 100 44 [.bool true] []) (bR [45]) []:=by and_intros<;>kernel_rfl
theorem Z04:ZH (Zr (Zo prog Zg Zgt true) 100 44 [.bool false] []) (bR []) []:=by and_intros<;>kernel_rfl
def Z05:Ans:=fun vals s=>
 match vals with
 | [.bool b]=>some (bR (mnL b),s,[])
 | _=>none
theorem Zhu:z8 44 Z05:=by
 intro vals s v s' lg h hl w;unfold Z05 at h;split at h
 ·rename_i b;cases h;cases b with
  | true=>exact Zf (Zl Zba) Z03 Zhk (by rfl) (by rfl) w
  | false=>exact Zf (Zl Zba) Z04 Zhk (by rfl) (by rfl) w
 ·cases h
def ptL (l:List UInt8):List UInt8:=match l with | []=>[] | [c]=>[c] | c::r=>c::46::r
theorem Z06 (l:List UInt8):ZH (Zr (Zo prog Zg Zgt true) 100 45 [bR l] [cmp true]) (bR l) [((((l.length:Nat):Int)==1),true)]:=by and_intros<;>kernel_rfl
theorem Z07 (l:List UInt8):ZH (Zr (Zo prog Zg Zgt true) 100 45 [bR l] [cmp false,sam true,sam true,sam true,sam true]) (bR ((l.take 1++[46])++l.drop 1)) [(decide ((l.take 1++[46]).length+(l.drop 1).length≤9223372036854775807),true),(decide ((0:Int)≤1∧(1:Int)≤((l.length:Nat):Int)),true),(decide ((l.take 1).length+1≤9223372036854775807),true),(decide ((0:Int)≤1∧(1:Int)≤((l.length:Nat):Int)),true),((((l.length:Nat):Int)==1),false)]:=by and_intros<;>kernel_rfl
def Z2u:Ans:=fun vals s=>
 match vals with
 | [.string b]=>some (bR (ptL b.data.toList),s,[(decide (1≤b.data.toList.length∧b.data.toList.length≤100000),true)])
 | _=>none
theorem Znk:z8 45 Z2u:=by
 intro vals s v s' lg h hl w;unfold Z2u at h;split at h
 ·rename_i b;cases h;obtain⟨h1,h2⟩:=Xc (hl _ Xf);obtain⟨l,hL⟩:∃ l,l=b.data.toList:=⟨_,rfl⟩;have eb:Value.string b=bR l:=by rw[hL];rfl
  rw[eb,← hL];rw[← hL] at h1 h2
  match l,h1,h2 with
  | [c],_,_=>exact Zf (Zl Zba) (Z06 [c]) (ZB rfl) (by rfl) (by rfl) w
  | c::d::r,h1,h2=>
   have lr:(c::d::r).length=r.length+2:=rfl;have f:=Z07 (c::d::r);refine Zf (Zl Zba) f (Za (Xa (by show 2+(r.length+1)≤_;omega)) (Za (Xa ⟨by omega,by omega⟩) (Za (Xa (by show 1+1≤_;omega)) (Za (Xa ⟨by omega,by omega⟩) (ZB (ze (by omega))))))) (by rfl) (by rfl) w
 ·cases h
def ZvS:Con:=alt 44 Z05 Zgt
theorem ZiC:ConOk ZvS:=ZF func44 rfl Zhu Zba
def nmL (m:Bool) (c:Int):List UInt8:=if c=3 then mnL m++[105,110,102] else [110,97,110]
theorem Z08 (m:Bool) (c e s:Int):ZH (Zr (Zo prog Zg ZvS true) 100 22 [vP m c e s] [cmp true,sam true]) (bR (mnL m++[105,110,102])) [(decide ((mnL m).length+3≤9223372036854775807),true),(c==3,true)]:=by and_intros<;>kernel_rfl
theorem Z09 (m:Bool) (c e s:Int):ZH (Zr (Zo prog Zg ZvS true) 100 22 [vP m c e s] [cmp false]) (bR [110,97,110]) [(c==3,false)]:=by and_intros<;>kernel_rfl
theorem Zhv (b:Bool):(mnL b).length≤1:=by cases b<;>decide
def vP4:Value→Option (Bool×Int×Int×Int)
 | .agg cs=>
  match cs.toList with
  | [.bool m,.int .i64 c,.int .i64 e,.int .u64 s]=>some (m,c,e,s)
  | _=>none
 | _=>none
theorem Zcs {v:Value}{m:Bool}{c e s:Int}(h:vP4 v=some (m,c,e,s)):v=vP m c e s:=by
 unfold vP4 at h;split at h
 ·rename_i cs;split at h
  ·rename_i hc;cases h;obtain⟨l⟩:=cs;simp only at hc;subst hc;rfl
  ·cases h
 ·cases h
def Z2v:Ans:=fun vals s=>
 match vals with
 | [v]=>
  match vP4 v with
  | some (m,c,_,_)=>some (bR (nmL m c),s,[])
  | none=>none
 | _=>none
theorem Znl:z8 22 Z2v:=by
 intro vals s v s' lg h hl w;unfold Z2v at h;split at h
 ·split at h
  ·rename_i m c e q hv;rw[Zcs hv];cases h;unfold nmL;have:=Zhv m;by_cases hc:c=3
   ·rw[if_pos hc];exact Zf (Zl ZiC) (Z08 m c e q) (Za (Xa (by omega)) (ZB (zy hc))) (by rfl) (by rfl) w
   ·rw[if_neg hc];exact Zf (Zl ZiC) (Z09 m c e q) (ZB (ze hc)) (by rfl) (by rfl) w
  ·cases h
 ·cases h
theorem Znm {k:Nat}(h:k<128):(Utf8.encode ((k:Nat):Int)).data.toList=[UInt8.ofNat k]:=by
 have hv:Utf8.valid ((k:Nat):Int)=true:=by
  unfold Utf8.valid;simp;omega
 unfold Utf8.encode;simp [hv,h]
def nxK (l:List UInt8):Int:=i64.wrap (((l.length:Nat):Int)-((trC 57 l).length:Nat))
def nxE (l:List UInt8):Int:=i64.wrap (((trC 57 l).length:Int)-1)
def nxC (l:List UInt8):List UInt8:=(Utf8.encode (u8.wrap ((((trC 57 l).getD (nxE l).toNat 0).toNat:Int)+1))).data.toList
theorem Z0A (l:List UInt8):ZH (Zr (Zo prog Zg Zgt true) 100 74 [bR l] [sam true,sam true]) (bR ([49]++List.replicate (nxK l).toNat 48)) [(decide (1+(List.replicate (nxK l).toNat (48:UInt8)).length≤9223372036854775807),true),Zdk (trC 57 l) [] true,(decide (0≤nxK l∧nxK l≤100000),true),(true,true),(decide (l.length≤100000),true)]:=by and_intros<;>kernel_rfl
theorem Z0B (l:List UInt8):ZH (Zr (Zo prog Zg Zgt true) 100 74 [bR l] [sam false,sam true,sam true,sam true]) (bR (((trC 57 l).take (nxE l).toNat++nxC l)++List.replicate (nxK l).toNat 48)) [(decide (((trC 57 l).take (nxE l).toNat++nxC l).length+(List.replicate (nxK l).toNat (48:UInt8)).length≤9223372036854775807),true),(decide (((trC 57 l).take (nxE l).toNat).length+(nxC l).length≤9223372036854775807),true),(decide (0≤nxE l∧(nxE l).toNat<(trC 57 l).length),true),(decide (0≤nxE l∧nxE l≤((trC 57 l).length:Int)),true),Zdk (trC 57 l) [] false,(decide (0≤nxK l∧nxK l≤100000),true),(true,true),(decide (l.length≤100000),true)]:=by and_intros<;>kernel_rfl
theorem ZvT {b c:Int}{l:List UInt8}(h:ZcX b l=true):ZcX b (trC c l)=true:=by
 unfold ZcX at*;rw[List.all_eq_true] at*;intro x hx;refine h x ?_;unfold trC at hx;rw[List.mem_reverse] at hx;have:=(List.dropWhile_sublist (l:=l.reverse) fun x=>lq8 x==c).subset hx;simpa using this
theorem ZsN {l:List UInt8}(h:ZcX 10 l=true) {i:Nat}(hi:i<l.length):48≤lq8 (l.getD i 0)∧lq8 (l.getD i 0)≤57:=by
 have:0≤Ziz (lq8 (l.getD i 0)) 10:=by
  unfold ZcX at h;refine Xc (List.all_eq_true.1 h _ ?_);rw[List.getD_eq_getElem?_getD,List.getElem?_eq_getElem hi,Option.getD_some];exact List.getElem_mem hi
 exact Zgk this
theorem Znn (l:List UInt8) (h1:ZcX 10 l=true) (h2:l.length≤100000) (w:World):Calls prog 74 #[bR l] w fun e w'=>e= .returned (bR (ZaZ l))∧zH w w':=by
 have hlen:=Zfk 57 l;have ek:nxK l=((l.length-(trC 57 l).length:Nat):Int):=by unfold nxK;rw[Zw (by omega) (by omega)];omega
 have kk:decide (0≤nxK l∧nxK l≤100000)=true:=Xa (by omega);have kl:decide (l.length≤100000)=true:=Xa h2;unfold ZaZ;by_cases hn:trC 57 l=[]
 ·have f:=Z0A l;rw[ek,Xg] at f;rw[ek] at kk;rw[if_pos hn];exact Zf (Zl Zba) f (Za (Xa (by rw[List.length_replicate];omega)) (Za (Zai (Xa hn)) (Za kk (Za rfl (ZB kl))))) (by rfl) (by rfl) w
 ·have hp:0<(trC 57 l).length:=List.length_pos_iff.2 hn;have ee:nxE l=(((trC 57 l).length-1:Nat):Int):=by unfold nxE;rw[Zw (by omega) (by omega)];omega
  obtain⟨b1,b2⟩:=ZsN (ZvT (c:=57) h1) (i:=(trC 57 l).length-1) (by omega);have ec:nxC l=[UInt8.ofNat ((trC 57 l).getD ((trC 57 l).length-1) 0+1).toNat]:=by
   unfold nxC;unfold lq8 at b1 b2;obtain⟨x,hx⟩:∃ x,x=(trC 57 l).getD ((trC 57 l).length-1) 0:=⟨_,rfl⟩;rw[ee,Xg,← hx];rw[← hx] at b1 b2;have e1:u8.wrap (((x.toNat:Nat):Int)+1)=((x.toNat+1:Nat):Int):=by rw[Zs6 (by omega) (by omega)];omega
   have e2:(x+1).toNat=x.toNat+1:=by
    rw[UInt8.toNat_add];have:(1:UInt8).toNat=1:=rfl;omega
   rw[e1,Znm (by omega),e2]
  have f:=Z0B l;rw[ec,ek,ee,Xg,Xg] at f;rw[ek] at kk;rw[if_neg hn];have lt:=List.length_take_le ((trC 57 l).length-1) (trC 57 l);exact Zf (Zl Zba) f (Za (Xa (by rw[List.length_append,List.length_replicate,List.length_singleton];omega)) (Za (Xa (by rw[List.length_singleton];omega)) (Za (Xa (by omega)) (Za (Xa (by omega)) (Za (Zai (Xb hn)) (Za kk (Za rfl (ZB kl)))))))) (by rfl) (by rfl) w
def Z4B:Ans:=fun vals s=>
 match vals with
 | [.string b]=>some (bR (ZaZ b.data.toList),s,[(ZcX 10 b.data.toList,true),(decide (b.data.toList.length≤100000),true)])
 | _=>none
theorem ZvU:z8 74 Z4B:=by
 intro vals s v s' lg h hl w;unfold Z4B at h;split at h
 ·cases h;exact Znn _ (hl _ Xe) (Xc (hl _ (Xd _ Xf))) w
 ·cases h
def guO (k:List UInt8):Int:=u8.wrap (((k.getD (i64.wrap (((k.length:Nat):Int)-1)).toNat 0).toNat:Int)-48)
theorem Z0C (k r:List UInt8) (mn:Bool) (m:Int):ZH (Zr (Zo prog Zg Zgt true) 100 73 [bR k,bR r,.bool mn,.int .i64 m] [sam true]) (.bool false) [Zdk (trC 48 r) [] true,(true,true),(decide (r.length≤100000),true)]:=by and_intros<;>kernel_rfl
theorem Z0D (k r:List UInt8) (mn:Bool) (m:Int):ZH (Zr (Zo prog Zg Zgt true) 100 73 [bR k,bR r,.bool mn,.int .i64 m] [sam false,cmp true]) (.bool false) [(m==2,true),Zdk (trC 48 r) [] false,(true,true),(decide (r.length≤100000),true)]:=by and_intros<;>kernel_rfl
theorem Z0E (k r:List UInt8) (mn:Bool) (m:Int):ZH (Zr (Zo prog Zg Zgt true) 100 73 [bR k,bR r,.bool mn,.int .i64 m] [sam false,cmp false,cmp true]) (.bool (!mn)) [(m==3,true),(m==2,false),Zdk (trC 48 r) [] false,(true,true),(decide (r.length≤100000),true)]:=by and_intros<;>kernel_rfl
theorem Z0F (k r:List UInt8) (mn:Bool) (m:Int):ZH (Zr (Zo prog Zg Zgt true) 100 73 [bR k,bR r,.bool mn,.int .i64 m] [sam false,cmp false,cmp false,cmp true]) (.bool mn) [(m==4,true),(m==3,false),(m==2,false),Zdk (trC 48 r) [] false,(true,true),(decide (r.length≤100000),true)]:=by and_intros<;>kernel_rfl
theorem Z0G (k r:List UInt8) (mn:Bool) (m:Int) (d:Bool):ZH (Zr (Zo prog Zg Zgt true) 100 73 [bR k,bR r,.bool mn,.int .i64 m] [sam false,cmp false,cmp false,cmp false,cmp true,cmp d]) (.bool d) [(decide (cmS (trC 48 r) [53]≥0),d),(m==1,true),(m==4,false),(m==3,false),(m==2,false),Zdk (trC 48 r) [] false,(true,true),(decide (r.length≤100000),true)]:=by and_intros<;>kernel_rfl
theorem ZvV (k r:List UInt8) (mn:Bool) (m:Int) (d:Bool):ZH (Zr (Zo prog Zg Zgt true) 100 73 [bR k,bR r,.bool mn,.int .i64 m] [sam false,cmp false,cmp false,cmp false,cmp false,cmp false,cmp d,cmp true]) (.bool true) [(decide (cmS (trC 48 r) [53]>0),true),((guO k).tmod 2==1,d),(decide ((2:Int)=0),false),(decide (0≤i64.wrap (((k.length:Nat):Int)-1)∧(i64.wrap (((k.length:Nat):Int)-1)).toNat<k.length),true),(m==1,false),(m==4,false),(m==3,false),(m==2,false),Zdk (trC 48 r) [] false,(true,true),(decide (r.length≤100000),true)]:=by and_intros<;>kernel_rfl
theorem ZvW (k r:List UInt8) (mn:Bool) (m:Int) (d:Bool):ZH (Zr (Zo prog Zg Zgt true) 100 73 [bR k,bR r,.bool mn,.int .i64 m] [sam false,cmp false,cmp false,cmp false,cmp false,cmp false,cmp d,cmp false,cmp true]) (.bool d) [(cmS (trC 48 r) [53]==0,true),(decide (cmS (trC 48 r) [53]>0),false),((guO k).tmod 2==1,d),(decide ((2:Int)=0),false),(decide (0≤i64.wrap (((k.length:Nat):Int)-1)∧(i64.wrap (((k.length:Nat):Int)-1)).toNat<k.length),true),(m==1,false),(m==4,false),(m==3,false),(m==2,false),Zdk (trC 48 r) [] false,(true,true),(decide (r.length≤100000),true)]:=by and_intros<;>kernel_rfl
theorem ZvX (k r:List UInt8) (mn:Bool) (m:Int) (d:Bool):ZH (Zr (Zo prog Zg Zgt true) 100 73 [bR k,bR r,.bool mn,.int .i64 m] [sam false,cmp false,cmp false,cmp false,cmp false,cmp false,cmp d,cmp false,cmp false]) (.bool false) [(cmS (trC 48 r) [53]==0,false),(decide (cmS (trC 48 r) [53]>0),false),((guO k).tmod 2==1,d),(decide ((2:Int)=0),false),(decide (0≤i64.wrap (((k.length:Nat):Int)-1)∧(i64.wrap (((k.length:Nat):Int)-1)).toNat<k.length),true),(m==1,false),(m==4,false),(m==3,false),(m==2,false),Zdk (trC 48 r) [] false,(true,true),(decide (r.length≤100000),true)]:=by and_intros<;>kernel_rfl
theorem Zre (k r:List UInt8) (mn:Bool) (m:Int) (h1:ZcX 10 k=true) (h2:1≤k.length∧k.length≤100000) (h3:r.length≤100000) (w:World):Calls prog 73 #[bR k,bR r,.bool mn,.int .i64 m] w fun e w'=>e= .returned (.bool (Zov m mn k r))∧zH w w':=by
 have hT:=Zl Zba;have kr:decide (r.length≤100000)=true:=Xa h3;have er:trC 48 r=trR r:=rfl;unfold Zov;rw[← er];by_cases hn:trC 48 r=[]
 ·rw[if_pos hn];exact Zf hT (Z0C k r mn m) (Za (Zai (Xa hn)) (Za rfl (ZB kr))) (by rfl) (by rfl) w
 have kn:Zu [Zdk (trC 48 r) [] false,(true,true),(decide (r.length≤100000),true)]:=Za (Zai (Xb hn)) (Za rfl (ZB kr));rw[if_neg hn];by_cases m2:m=2
 ·rw[if_pos m2];exact Zf hT (Z0D k r mn m) (Za (zy m2) kn) (by rfl) (by rfl) w
 rw[if_neg m2];have kn:=Za (ze m2) kn;by_cases m3:m=3
 ·rw[if_pos m3];exact Zf hT (Z0E k r mn m) (Za (zy m3) kn) (by rfl) (by rfl) w
 rw[if_neg m3];have kn:=Za (ze m3) kn;by_cases m4:m=4
 ·rw[if_pos m4];exact Zf hT (Z0F k r mn m) (Za (zy m4) kn) (by rfl) (by rfl) w
 rw[if_neg m4];have kn:=Za (ze m4) kn;by_cases m1:m=1
 ·rw[if_pos m1];exact Zf hT (Z0G k r mn m _) (Za rfl (Za (zy m1) kn)) (by rfl) (by rfl) w
 rw[if_neg m1];have kn:=Za (ze m1) kn;have ei:i64.wrap (((k.length:Nat):Int)-1)=((k.length-1:Nat):Int):=by rw[Zw (by omega) (by omega)];omega
 obtain⟨b1,b2⟩:=ZsN h1 (i:=k.length-1) (by omega);have eo:guO k=lq8 (k.getD (k.length-1) 0)-48:=by
  unfold guO;unfold lq8 at b1 b2 ⊢;rw[ei,Xg,Zs6 (by omega) (by omega)]
 obtain⟨d,hd⟩:∃ d,d=decide ((lq8 (k.getD (k.length-1) 0)-48) % 2=1):=⟨_,rfl⟩;have ed:((guO k).tmod 2==1)=d:=by
  rw[hd,eo,Int.tmod_eq_emod_of_nonneg (by omega)];rfl
 have kn:=Za ed (Za (show decide ((2:Int)=0)=false from rfl) (Za (show decide (0≤i64.wrap (((k.length:Nat):Int)-1)∧(i64.wrap (((k.length:Nat):Int)-1)).toNat<k.length)=true from Xa (by rw[ei];omega)) kn));rw[← hd];by_cases c1:0<cmS (trC 48 r) [53]
 ·rw[Xa c1,Bool.true_or];exact Zf hT (ZvV k r mn m d) (Za (Xa c1) kn) (by rfl) (by rfl) w
 rw[Xb c1,Bool.false_or];by_cases c0:cmS (trC 48 r) [53]=0
 ·rw[Xa c0,Bool.true_and];exact Zf hT (ZvW k r mn m d) (Za (zy c0) (Za (Xb c1) kn)) (by rfl) (by rfl) w
 ·rw[Xb c0,Bool.false_and];exact Zf hT (ZvX k r mn m d) (Za (ze c0) (Za (Xb c1) kn)) (by rfl) (by rfl) w
def Z4C:Ans:=fun vals s=>
 match vals,s with
 | [.string k,.string r,.bool mn,.int .i64 m],.inr (.inr (.inr (.inl d)))::s'=>some (.bool d,s',[(Zov m mn k.data.toList r.data.toList,d),(ZcX 10 k.data.toList,true),(decide ((1≤k.data.toList.length∧k.data.toList.length≤100000)∧r.data.toList.length≤100000),true)])
 | _,_=>none
theorem ZvY:z8 73 Z4C:=by
 intro vals s v s' lg h hl w;unfold Z4C at h;split at h
 ·rename_i k r mn m d s2;cases h;have l1:Zov m mn k.data.toList r.data.toList=d:=hl _ Xe;have l2:ZcX 10 k.data.toList=true:=hl _ (Xd _ Xe);obtain⟨l3,l4⟩:=Xc (hl _ (Xd _ (Xd _ Xf)));rw[← l1];exact Zre _ _ mn m l2 l3 l4 w
 ·cases h
def Zrf:Con:=alt 73 Z4C (alt 74 Z4B Zgt)
theorem Zrg:ConOk Zrf:=ZF func73 rfl ZvY (ZF func74 rfl ZvU Zba)
def vDc (l:List UInt8) (e:Int):Value:= .agg #[bR l,.int .i64 e]
theorem Z0H (D:List UInt8) (e n m:Int) (mn:Bool):ZH (Zr (Zo prog Zg Zrf true) 100 39 [vDc D e,.int .i64 n,.bool mn,.int .i64 m] [cmp true,sam true]) (vDc (D++List.replicate (i64.wrap (n-((D.length:Nat):Int))).toNat 48) e) [(decide (D.length+(List.replicate (i64.wrap (n-((D.length:Nat):Int))).toNat (48:UInt8)).length≤9223372036854775807),true),(decide (0≤i64.wrap (n-((D.length:Nat):Int))∧i64.wrap (n-((D.length:Nat):Int))≤100000),true),(decide (((D.length:Nat):Int)≤n),true)]:=by and_intros<;>kernel_rfl
def Z2w (D:List UInt8) (e n m:Int) (mn:Bool) (d:Bool):Log:=[(Zov m mn (D.take n.toNat) (D.drop n.toNat),d),(ZcX 10 (D.take n.toNat),true),(decide ((1≤(D.take n.toNat).length∧(D.take n.toNat).length≤100000)∧(D.drop n.toNat).length≤100000),true),(decide (0≤n∧n≤((D.length:Nat):Int)),true),(decide (0≤n∧n≤((D.length:Nat):Int)),true),(decide (((D.length:Nat):Int)≤n),false)]
theorem Z0I (D:List UInt8) (e n m:Int) (mn:Bool):ZH (Zr (Zo prog Zg Zrf true) 100 39 [vDc D e,.int .i64 n,.bool mn,.int .i64 m] [cmp false,sam true,sam true,cmp true,sam true]) (vDc ((ZaZ (D.take n.toNat)).take n.toNat) (i64.wrap (i64.wrap (e+(((ZaZ (D.take n.toNat)).length:Nat):Int))-n))) ((decide (0≤n∧n≤(((ZaZ (D.take n.toNat)).length:Nat):Int)),true)::(ZcX 10 (D.take n.toNat),true)::(decide ((D.take n.toNat).length≤100000),true)::Z2w D e n m mn true):=by and_intros<;>kernel_rfl
theorem Z0J (D:List UInt8) (e n m:Int) (mn:Bool):ZH (Zr (Zo prog Zg Zrf true) 100 39 [vDc D e,.int .i64 n,.bool mn,.int .i64 m] [cmp false,sam true,sam true,cmp false,sam true]) (vDc ((D.take n.toNat).take n.toNat) (i64.wrap (i64.wrap (e+(((D.take n.toNat).length:Nat):Int))-n))) ((decide (0≤n∧n≤(((D.take n.toNat).length:Nat):Int)),true)::Z2w D e n m mn false):=by and_intros<;>kernel_rfl
theorem Zno {l:List UInt8}:l.length≤(ZaZ l).length∧(ZaZ l).length≤l.length+1:=by
 have h:=Zfk 57 l;unfold ZaZ;split
 ·rename_i c;rw[c,List.length_cons,List.length_replicate,List.length_nil];omega
 ·rename_i c;have hp:0<(trC 57 l).length:=List.length_pos_iff.2 c;rw[List.length_append,List.length_append,List.length_take,List.length_replicate,List.length_singleton];omega
theorem ZjF (D:List UInt8) (e:Int) (n:Nat) (m:Int) (mn:Bool) (h1:ZcX 10 D=true) (h2:1≤D.length∧D.length≤90000) (h3:1≤n∧n≤1000) (h4: -100000≤e∧e≤100000) (w:World):Calls prog 39 #[vDc D e,.int .i64 n,.bool mn,.int .i64 m] w fun r w'=>r= .returned (vDc (rnD D e n mn m).1 (rnD D e n mn m).2)∧zH w w':=by
 have hT:=Zl Zrg;unfold rnD;by_cases hc:D.length≤n
 ·rw[if_pos hc];have f:=Z0H D e n m mn;have ew:i64.wrap ((n:Int)-((D.length:Nat):Int))=((n-D.length:Nat):Int):=by rw[Zw (by omega) (by omega)];omega
  rw[ew,Xg] at f;exact Zf hT f (Za (Xa (by rw[List.length_replicate];omega)) (Za (Xa (by omega)) (ZB (Xa (by omega))))) (by rfl) (by rfl) w
 ·rw[if_neg hc];have lt:(D.take n).length=n:=by rw[List.length_take];omega
  have ld:(D.drop n).length=D.length-n:=List.length_drop;have ha:ZcX 10 (D.take n)=true:=by
   unfold ZcX at*;rw[List.all_eq_true] at*;exact fun x hx=>h1 x (List.mem_of_mem_take hx)
  have kg:∀ d,Zov m mn (D.take n) (D.drop n)=d→Zu (Z2w D e n m mn d):=fun d hd=>by
   unfold Z2w;rw[Xg];exact Za hd (Za ha (Za (Xa (by omega)) (Za (Xa (by omega)) (Za (Xa (by omega)) (ZB (Xb (by omega)))))))
  cases hu:Zov m mn (D.take n) (D.drop n) with
  | true=>
   rw[if_pos rfl];obtain⟨n1,n2⟩:=Zno (l:=D.take n);have f:=Z0I D e n m mn;rw[Xg,Zw (n:=e+(((ZaZ (D.take n)).length:Nat):Int)) (by omega) (by omega),Zw (by omega) (by omega)] at f;exact Zf hT f (Za (Xa (by omega)) (Za ha (Za (Xa (by omega)) (kg true hu)))) (by rfl) (by rfl) w
  | false=>
   rw[if_neg (by decide)];have f:=Z0J D e n m mn;rw[Xg,Zw (n:=e+(((D.take n).length:Nat):Int)) (by omega) (by omega),Zw (by omega) (by omega)] at f;exact Zf hT f (Za (Xa (by omega)) (kg false hu)) (by rfl) (by rfl) w
def dc2:Value→Option (ByteArray×Int)
 | .agg cs=>
  match cs.toList with
  | [.string D,.int .i64 e]=>some (D,e)
  | _=>none
 | _=>none
theorem ZiD {v:Value}{D:ByteArray}{e:Int}(h:dc2 v=some (D,e)):v=vDc D.data.toList e:=by
 unfold dc2 at h;split at h
 ·rename_i cs;split at h
  ·rename_i hc;cases h;obtain⟨l⟩:=cs;simp only at hc;subst hc;rfl
  ·cases h
 ·cases h
def Znp:Ans:=fun vals s=>
 match vals with
 | [v,.int .i64 n,.bool mn,.int .i64 m]=>
  match dc2 v with
  | some (D,e)=>some (vDc (rnD D.data.toList e n.toNat mn m).1 (rnD D.data.toList e n.toNat mn m).2,s,[(ZcX 10 D.data.toList,true),(decide ((1≤D.data.toList.length∧D.data.toList.length≤90000)∧(1≤n∧n≤1000)∧(-100000≤e∧e≤100000)),true)])
  | none=>none
 | _=>none
theorem Znq:z8 39 Znp:=by
 intro vals s v s' lg h hl w;unfold Znp at h;split at h
 ·split at h
  ·rename_i v0 n mn m o D e hv;rw[ZiD hv];cases h;have l1:ZcX 10 D.data.toList=true:=hl _ Xe;obtain⟨l2,l3,l4⟩:=Xc (hl _ (Xd _ Xf));obtain⟨k,rfl⟩:∃ k:Nat,n=k:=⟨n.toNat,by omega⟩;exact ZjF _ e k m mn l1 l2 (by omega) l4 w
  ·cases h
 ·cases h
end Go.Proofs.YtgefjidphfdhdaaGreatDoor
namespace Go.Proofs.YtgefjidphfdhdaaGreatDoor
open Go.KRun Go.Nt Go.Rd
set_option maxRecDepth 100000
theorem ZiE {f:Nat}:∀ {V:Nat},V<10^(f+1)→zD V=Zbj (f+1) V:=by
 have lt:∀ x:Nat,UInt8.ofNat (asc ((x:Nat):Int)).toNat=chD x:=fun x=>by unfold asc chD;congr 1
 induction f with
 | zero=>
  intro V h;have h10:V<10:=by simpa using h
  unfold Zbj;rw[if_pos h10];unfold zD Zs1;by_cases h0:V=0
  ·rw[if_pos h0,h0];rfl
  ·rw[if_neg h0,Zbd (by omega) h0,show V/10=0 by omega,zj,Nat.mod_eq_of_lt h10];show [UInt8.ofNat (asc ((V:Nat):Int)).toNat]=[chD V];rw[lt]
 | succ f ih=>
  intro V h;unfold Zbj;by_cases h10:V<10
  ·rw[if_pos h10];unfold zD Zs1;by_cases h0:V=0
   ·rw[if_pos h0,h0];rfl
   ·rw[if_neg h0,Zbd (by omega) h0,show V/10=0 by omega,zj,Nat.mod_eq_of_lt h10];show [UInt8.ofNat (asc ((V:Nat):Int)).toNat]=[chD V];rw[lt]
  ·rw[if_neg h10];have h1:=ih (V:=V/10) (by rw[Nat.pow_succ] at h;omega);rw[← h1];unfold zD Zs1;rw[if_neg (by omega),if_neg (by omega),Zbd (b:=10) (V:=V) (by omega) (by omega),List.reverse_cons,List.map_append];show _++[UInt8.ofNat (asc ((V % 10:Nat):Int)).toNat]=_;rw[lt]
theorem Zrh {V:Nat}(h:V<18446744073709551616):zD V=dcL V:=ZiE (f:=19) (ZmF h)
end Go.Proofs.YtgefjidphfdhdaaGreatDoor
namespace Go.Proofs.YtgefjidphfdhdaaGreatDoor
open Go.Proofs.Tryz
open Go.IntKind
open Go.KRun Go.Nt Go.Rd Go.Wd
set_option maxRecDepth 100000
def Z4D:Hc:=zx 76 Na.Zq5 (zx 77 Na.Zq4 (zx 127 Na.ZyV (zx 132 Na.ZfS (zx 79 Na.Zzu (zx 80 Na.gDc hcN)))))
theorem ZvZ:HcOk Z4D:=Zt func76 rfl Na.Zit (Zt func77 rfl Na.Zis (Zt func127 rfl Na.Zhb (Zt func132 rfl Na.Zd8 (Zt func79 rfl Na.Zhe (Zt func80 rfl Na.Z0b zw)))))
theorem Z4E:TabOk (Zm prog Zg Zn Z4D):=Zp Ze ZvZ
def r14 (m V:Nat):List Value×TypeId:=(wU (dg m (V:Int)),tU)
def t14 (m V:Nat):Nat:=Zc (dg m (V:Int))
def a14 (k:Nat):Option Addr:=some ⟨k,0,none⟩
def mx0 (a:Int):Int:=if 0>a then 0 else a
def mn0 (a:Int):Int:=if 0<a then 0 else a
def ZjG (b j:Int) (P:Nat) (l:Log):Log:=(decide (((b.toNat^j.toNat:Nat):Int)=(P:Int)),true)::(Na.Zx3 b j,true)::(decide (b=0∧1≤j),false)::l
def Znr (H:Hp) (p:Option Addr) (n c:Nat) (k:Int) (S:Nat) (l:Log):Log:=(decide (Zg9 (Zj H p n) k.toNat=dg (Na.sM n k) (S:Int)),true)::(Na.zG H p n c,true)::(Na.ZN (Zj H p n) || decide (k<0),false)::(decide (n=0),false)::(decide (k>262144-Na.ZdS (Zj H p n)),false)::l
def Zwa (H:Hp) (p q:Option Addr) (n c n' c' T:Nat) (l:Log):Log:=(decide (Na.ZgY (Zj H p n) (Zj H q n')=dg (n+n') (T:Int)),true)::(Na.zG H p n c,true)::(Na.zG H q n' c',true)::(!decide (n=0∨n'=0) && Nat.ble (n+n') 8192,true)::(Na.zG H p n c,true)::(Na.zG H q n' c',true)::(Na.ZN (Zj H p n) || Na.ZN (Zj H q n'),false)::l
def Z4F (H:Hp) (p:Option Addr) (n c:Nat) (b:List UInt8) (l:Log):Log:=(Na.zG H p n c,true)::(Na.ZN (Zj H p n),false)::(decide (zD (Na.Zsi H p n)=b),true)::l
def Z4G (m:Bool) (c e q:Int):List (List Value×TypeId):=[([bR [],.int .i64 0],49),([.bool m,.int .i64 c,.int .i64 e,.int .u64 q],44)]
def ZjO (e:Int):Int:=mx0 (i64.wrap (0-e))
def Zri (m:Bool) (c e q:Int) (P:Nat):Hp:=⟨3,r14 (Na.pMi 5 (ZjO e)) P::Z4G m c e q⟩
def ZjP (e:Int) (P:Nat):Nat:=Na.sM (t14 (Na.pMi 5 (ZjO e)) P) (mx0 e)
def Zwb (m:Bool) (c e q:Int) (P S:Nat):Hp:=⟨5,(wU (dg 2 q),tU)::r14 (ZjP e P) S::r14 (Na.pMi 5 (ZjO e)) P::Z4G m c e q⟩
def Zrj (e q:Int) (P S:Nat):Nat:=Zc (dg 2 q)+t14 (ZjP e P) S
def Z0K (m:Bool) (c e q:Int) (P S T:Nat):Hp:=⟨6,r14 (Zrj e q P S) T::(wU (dg 2 q),tU)::r14 (ZjP e P) S::r14 (Na.pMi 5 (ZjO e)) P::Z4G m c e q⟩
theorem Z6C (m:Bool) (c e q:Int) (P S T:Nat) (b:List UInt8):ZH (Zr (Zm prog Zg Zn Z4D) 200 40 [vP m c e q] [cmp false,cmp false,num P,cmp false,cmp false,cmp false,num S,cmp false,cmp false,num T,cmp false,val (bR b)]) (vDc b (i64.wrap (i64.wrap (((b.length:Nat):Int)-1)+mn0 e)))
  (Z4F (Z0K m c e q P S T) (a14 5) (t14 (Zrj e q P S) T) (Zrj e q P S) b (Zwa (Zwb m c e q P S) (a14 4) (a14 3) (Zc (dg 2 q)) 2 (t14 (ZjP e P) S) (ZjP e P) T ((decide (0≤q∧q<18446744073709551616),true)::Znr (Zri m c e q P) (a14 2) (t14 (Na.pMi 5 (ZjO e)) P) (Na.pMi 5 (ZjO e)) (mx0 e) S (ZjG 5 (ZjO e) P [])))):=by and_intros<;>kernel_rfl
theorem Zak {W:Nat}(h:W≠0):1≤(zD W).length∧10^((zD W).length-1)≤W∧W<10^(zD W).length:=by
 have e:(zD W).length=(db 10 W).length:=by
  unfold zD Zs1;rw[if_neg h,List.length_map,List.length_reverse]
 rw[e];have h1:=(Zc6 (b:=10) (by omega)).2 (show 0<W by omega);refine⟨h1,?_,?_⟩
 ·rcases Nat.lt_or_ge W (10^((db 10 W).length-1)) with c | c
  ·have:=Zci (b:=10) (by omega) _ _ c;omega
  ·exact c
 ·have:=ZcU (b:=10) (by omega) (db 10 W) (ZiX (by omega) W);rw[ZbH (by omega) W] at this;exact this
theorem ZdN {W:Nat}(h:W≠0):zD W=Zbj (zD W).length W:=by
 obtain⟨h1,_,h3⟩:=Zak h;have:=ZiE (f:=(zD W).length-1) (V:=W) (by rw[show (zD W).length-1+1=(zD W).length by omega];exact h3);rw[show (zD W).length-1+1=(zD W).length by omega] at this;exact this
theorem ZcE (a:Int):mx0 a=((a.toNat:Nat):Int):=by unfold mx0;split<;>omega
theorem Ze3 {b:Nat}(hb:b≤10) (k:Nat):b^k<4294967296^(k/9+1):=Nat.lt_of_le_of_lt (Nat.pow_le_pow_left hb k) (Na.Zv3 k)
theorem Zwc {H:Hp}{i b k:Nat}(hb:b=10∨b=5) (hk:k≤2000) (hi:H.blk? i=some (r14 (Na.pMi (b:Nat) (k:Nat)) (b^k))):Na.IsR H (a14 i) (t14 (Na.pMi (b:Nat) (k:Nat)) (b^k)) (Na.pMi (b:Nat) (k:Nat)) (b^k)∧(Na.d32 (b^k)).length≤k/9+1:=by
 have hw:∀ j,j≤k→Na.nw (b^j)≤400:=fun j hj=>by
  have h1:=Ze3 (b:=b) (by omega) j;have:=Na.ZdI h1;omega
 have e:Na.pMi (b:Nat) (k:Nat)=Na.pM b k:=rfl;have h:b^k<4294967296^Na.pM b k∧Na.pM b k≤1000:=by
  by_cases h0:k=0
  ·subst h0;exact⟨by rw[Nat.pow_zero];show 1<4294967296^2;decide,by show 2≤1000;decide⟩
  ·exact Na.Zz1 hw (by omega) (Nat.le_refl _) (by omega)
 rw[e] at hi ⊢;exact⟨Na.Zhd hi h.1 h.2,Na.ZdI (Ze3 (by omega) k)⟩
theorem Zfo {b k:Nat}(hb:b=10∨b=5) (hk:k≤2000) {l:Log}(hl:Zu l):Zu (ZjG (b:Nat) (k:Nat) (b^k) l):=by
 refine Za (Xa rfl) (Za ?_ (Za (Xb (by omega)) hl));exact Xa ⟨by omega,by omega,by omega,.inr ⟨by omega,by omega⟩⟩
theorem Zns {m V:Nat}(hV:V<4294967296^m) (hm:m≤1000):t14 m V=(Na.d32 V).length:=(Na.Zhd (H:=⟨1,[r14 m V]⟩) (b:=0) rfl hV hm).2.2.2.1
theorem Zfp {H:Hp}{p:Option Addr}{n c V:Nat}(r:Na.IsR H p n c V) (h0:V≠0) {k:Nat}(hk:k≤200000) {l:Log}(hl:Zu l):Zu (Znr H p n c (k:Nat) (V*2^k) l):=
 Za (Na.Z6A r k) (Za (Na.rX r) (Za (Na.Z4t r k) (Za (Na.rNe r h0) (Za (Na.Z6B r h0 hk) hl))))
theorem Zwd {V k n:Nat}(h:V<4294967296^n):V*2^k<4294967296^Na.sM n (k:Nat):=Na.ZzW h
theorem Zx5 (n k:Nat):Na.sM n (k:Nat)=k/32+(n+1):=by unfold Na.sM;rw[Xg]
theorem ZiF {H:Hp}{p q:Option Addr}{n c n' c' V W:Nat}(r:Na.IsR H p n c V) (g:Na.IsR H q n' c' W) (h0:V≠0) (h1:W≠0) {l:Log}(hl:Zu l):Zu (Zwa H p q n c n' c' (V*W) l):=by
 have p1:=Na.Zb3 h0;have p2:=Na.Zb3 h1;have e1:=r.2.2.2.1;have e2:=g.2.2.2.1;have b1:=r.2.2.2.2;have b2:=g.2.2.2.2;refine Za (Na.ZuO r g) (Za (Na.rX r) (Za (Na.rX g) (Za ?_ (Za (Na.rX r) (Za (Na.rX g) (Za (Na.rOr r g) hl))))));rw[Xb (by omega),Nat.ble_eq_true_of_le (by omega)];rfl
theorem Z0L {V W n n':Nat}(h:V<4294967296^n) (h':W<4294967296^n'):V*W<4294967296^(n+n'):=by rw[Nat.pow_add];exact Nat.mul_lt_mul'' h h'
theorem Z6e {H:Hp}{i q:Nat}(hq:q<18446744073709551616) (hi:H.blk? i=some (wU (dg 2 (q:Int)),tU)):Na.IsR H (a14 i) (Zc (dg 2 (q:Int))) 2 q∧(Na.d32 q).length≤2:=⟨Na.Zhd hi (by show q<4294967296^2;omega) (by omega),Na.ZdI (by show q<4294967296^2;omega)⟩
theorem Z0M {H:Hp}{p:Option Addr}{n c V:Nat}(r:Na.IsR H p n c V):Na.Zsi H p n=V:=by
 unfold Na.Zsi;rw[r.2.2.1];exact ZbH (by omega) V
theorem Znt {S:Nat}{E:Int}(hS:S<9007199254740992) (hE: -1074≤E∧E≤972) (K:Nat) (hK:K=1074):ZdT S E<10^(16+K):=by
 unfold ZdT;rw[Nat.pow_add];refine Nat.mul_lt_mul_of_lt_of_le (Nat.lt_of_lt_of_le hS (by decide)) ?_ (Nat.pow_pos (by omega));by_cases h:E≤0
 ·rw[show E.toNat=0 by omega,Nat.pow_zero,Nat.mul_one];refine Nat.le_trans (Nat.pow_le_pow_left (show 5≤10 by omega) _) (Nat.pow_le_pow_right (by omega) (by unfold wzN;omega))
 ·rw[show wzN E=0 by unfold wzN;omega,Nat.pow_zero,Nat.one_mul];refine Nat.le_trans (Nat.pow_le_pow_left (show 2≤10 by omega) _) (Nat.pow_le_pow_right (by omega) (by omega))
theorem ZjH (m:Bool) (c E:Int) (q:Nat) (h0:q≠0) (hq:q<9007199254740992) (hE: -1074≤E∧E≤972) (w:World):Calls prog 40 #[vP m c E q] w fun r w'=>r= .returned (vDc (zD (ZdT q E)) (((zD (ZdT q E)).length:Int)-1-(wzN E:Nat)))∧zH w w':=by
 obtain⟨z,hz⟩:∃ z,z=wzN E:=⟨_,rfl⟩;obtain⟨k,hk⟩:∃ k,k=E.toNat:=⟨_,rfl⟩;have ez:ZjO E=((z:Nat):Int):=by unfold ZjO;rw[Zw (by omega) (by omega),ZcE,hz];unfold wzN;omega
 have ek:mx0 E=((k:Nat):Int):=by rw[ZcE,hk]
 have z1:z≤1074:=by rw[hz];unfold wzN;omega
 have k1:k≤972:=by omega
 obtain⟨P,hP⟩:∃ P,P=5^z:=⟨_,rfl⟩;obtain⟨S,hS⟩:∃ S,S=P*2^k:=⟨_,rfl⟩;obtain⟨W,hW⟩:∃ W,W=ZdT q E:=⟨_,rfl⟩;have eW:W=q*S:=by rw[hW,hS,hP];unfold ZdT;rw[← hz,← hk]
 have hP0:P≠0:=by rw[hP];have:=Zdl z;omega
 have hS0:S≠0:=by rw[hS];exact Zbe hP0 (fun c=>by have:=Nat.pow_pos (n:=k) (show 0<2 by omega);omega)
 have hW0:W≠0:=by rw[eW];exact Zbe h0 hS0
 obtain⟨K,hK⟩:∃ K,K=1074:=⟨_,rfl⟩;have hWl:=Znt hq hE K hK;rw[← hW] at hWl ⊢;rw[← hz];obtain⟨l1,l2,l3⟩:=Zak hW0;have lb:(zD W).length≤16+K:=by
  rcases Nat.lt_or_ge (16+K) (zD W).length with c | c
  ·have:=Nat.pow_le_pow_right (n:=10) (by omega) (show 16+K≤(zD W).length-1 by omega);omega
  ·exact c
 have f:=Z6C m c E q P S W (zD W);have ev:i64.wrap (i64.wrap ((((zD W).length:Nat):Int)-1)+mn0 E)=((zD W).length:Int)-1-(z:Nat):=by
  have e1:mn0 E= -((z:Nat):Int):=by rw[hz];unfold mn0 wzN;split<;>omega
  rw[e1,Zw (n:=(((zD W).length:Nat):Int)-1) (by omega) (by omega),Zw (by omega) (by omega)];omega
 rw[ev] at f;obtain⟨rP,lP⟩:=Zwc (H:=Zri m c E q P) (i:=2) (b:=5) (k:=z) (.inr rfl) (by omega) (by rw[← hP];unfold Zri;rw[ez];rfl);rw[← hP] at rP lP;have eP:t14 (Na.pMi 5 (z:Nat)) P=(Na.d32 P).length:=rP.2.2.2.1;have eSm:ZjP E P=k/32+((Na.d32 P).length+1):=by unfold ZjP;rw[ez,ek,eP,Zx5]
 have hSl:S<4294967296^ZjP E P:=by
  have:=Zwd (k:=k) (Na.Zbf P);rw[Zx5,← hS] at this;rw[eSm];exact this
 have hSm:ZjP E P≤200:=by omega
 have eS:=Zns hSl (by omega);have sl:(Na.d32 S).length≤ZjP E P:=Na.ZdI hSl;have rS:Na.IsR (Zwb m c E q P S) (a14 3) (t14 (ZjP E P) S) (ZjP E P) S:=Na.Zhd rfl hSl (by omega);obtain⟨rQ,lQ⟩:=Z6e (H:=Zwb m c E q P S) (i:=4) (q:=q) (by omega) rfl;have hTl:W<4294967296^Zrj E q P S:=by
  have:=Z0L (Na.Zbf q) (Na.Zbf S);rw[← eW] at this;unfold Zrj;rw[rQ.2.2.2.1,eS];exact this
 have hTm:Zrj E q P S≤1000:=by unfold Zrj;rw[rQ.2.2.2.1,eS];omega
 have rT:Na.IsR (Z0K m c E q P S W) (a14 5) (t14 (Zrj E q P S) W) (Zrj E q P S) W:=Na.Zhd rfl hTl hTm;refine Zf Z4E f (Za (Na.rX rT) (Za rT.good (Za (Xa (by rw[Z0M rT])) ?_))) (by rfl) (by rfl) w;have hd:=ZiF rQ rS h0 hS0 (l:=(decide ((0:Int)≤(q:Nat)∧((q:Nat):Int)<18446744073709551616),true)::Znr (Zri m c E q P) (a14 2) (t14 (Na.pMi 5 (ZjO E)) P) (Na.pMi 5 (ZjO E)) (mx0 E) S (ZjG 5 (ZjO E) P [])) (Za (Xa (by omega)) ?_)
 ·rw[← eW] at hd;exact hd
 ·rw[ez,ek];have hs:=Zfp rP hP0 (k:=k) (by omega) (l:=ZjG 5 ((z:Nat):Int) P []) ?_
  ·rw[← hS] at hs;exact hs
  ·have:=Zfo (b:=5) (k:=z) (l:=[]) (.inr rfl) (by omega) Zhk;rw[← hP] at this;exact this
def Zwe:Ans:=fun vals s=>
 match vals with
 | [v]=>
  match vP4 v with
  | some (_,_,E,q)=>some (vDc (zD (ZdT q.toNat E)) (((zD (ZdT q.toNat E)).length:Int)-1-(wzN E:Nat)),s,[(decide (1≤q∧q<9007199254740992∧ -1074≤E∧E≤972),true)])
  | none=>none
 | _=>none
theorem Zrk:z8 40 Zwe:=by
 intro vals s v s' lg h hl w;unfold Zwe at h;split at h
 ·split at h
  ·rename_i o m c E q hv;rw[Zcs hv];cases h;obtain⟨h1,h2,h3,h4⟩:=Xc (hl _ Xf);obtain⟨k,rfl⟩:∃ k:Nat,q=k:=⟨q.toNat,by omega⟩;exact ZjH m c E k (by omega) (by omega) ⟨h3,h4⟩ w
  ·cases h
 ·cases h
end Go.Proofs.YtgefjidphfdhdaaGreatDoor
