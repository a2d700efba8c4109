/-
  NumSp, NumSr, NumSs, NumSt, ShF, ShH, PatA
-/
import Derived.Test.YtgefjidphfdhdaaGreatDoorG13
import Derived.WalkSmall
namespace Go.Rd
open Go.Rn Go.Pt
theorem Zh4 (n:Bool) {S k T:Nat}{x E:Int}(hx: -1074≤x) (hS:S<9007199254740992) (h:x= -1074∨4503599627370496≤S) (hb:(x+1074)*4503599627370496+(S:Int)<9218868437227405312) (hE:E=x-(k:Nat)) (hk:1≤k) (h1:S*2^k≤T) (h2:T<(S+1)*2^k) (hT:T≠0):
  rnP 0 n T E=(x+1074)*4503599627370496+(S:Int)+(if S*2^k+2^(k-1)<T∨(T=S*2^k+2^(k-1)∧S % 2=1) then 1 else 0):=by
 have hp:0<2^k:=Nat.pow_pos (by omega);have hpe:2^k=2*2^(k-1):=by rw[Nat.mul_comm,← Nat.pow_succ];congr 1;omega
 have e53:(2:Nat)^53=9007199254740992:=rfl;have e52:(2:Nat)^52=4503599627370496:=rfl;have lb:bitLen T≤53+k:=by
  refine len_le ?_;refine Nat.lt_of_lt_of_le h2 ?_;rw[Nat.pow_add];exact Nat.mul_le_mul_right _ (by omega)
 have he:Zak T E=x:=by
  unfold Zak lgN;rcases h with h | h
  ·rw[if_pos (by omega)];omega
  ·have:52+k+1≤bitLen T:=by
    refine Za3 ?_;rw[Nat.pow_add];exact Nat.le_trans (Nat.mul_le_mul_right _ (by omega)) h1
   split<;>omega
 have hdiv:T/2^k=S:=Nat.div_eq_of_lt_le h1 h2;have hmod:T % 2^k=T-S*2^k:=by
  have:=Nat.div_add_mod T (2^k);rw[hdiv,Nat.mul_comm] at this;omega
 obtain⟨P,hP⟩:∃ P,P=2^(k-1):=⟨_,rfl⟩;obtain⟨Q,hQ⟩:∃ Q,Q=S*2^k:=⟨_,rfl⟩;have hs:(S+1)*2^k=Q+2*P:=by rw[Nat.add_mul,Nat.one_mul,hpe,← hP,hQ,hpe,hP]
 rw[← hQ,← hP];rw[hs] at h2;rw[← hQ] at h1 hmod;have hq:toQ 0 n T E x=S+(if Q+P<T∨(T=Q+P∧S % 2=1) then 1 else 0):=by
  unfold toQ;rw[if_neg (by omega),show (x-E).toNat=k by omega];unfold rq;rw[hdiv,hmod,hpe,← hP];congr 1;have hu:upR 0 n (odd S) (ze (T-Q) (2*P))=decide (Q+P<T∨(T=Q+P∧S % 2=1)):=by
   unfold ze odd upR;by_cases a0:T-Q=0
   ·rw[if_pos a0,if_pos rfl];exact (Xb (by omega)).symm
   ·rw[if_neg a0];by_cases a1:2*(T-Q)<2*P
    ·rw[if_pos a1];have:¬ (Q+P<T∨(T=Q+P∧S % 2=1)):=by omega
     rw[Xb this];simp
    ·rw[if_neg a1];by_cases a2:2*(T-Q)=2*P
     ·rw[if_pos a2];have e:(Q+P<T∨(T=Q+P∧S % 2=1))=(S % 2=1):=by
       apply propext;omega
      simp only[e];simp
     ·rw[if_neg a2];have:Q+P<T∨(T=Q+P∧S % 2=1):=by omega
      rw[Xa this];simp
  rw[hu];by_cases c:Q+P<T∨(T=Q+P∧S % 2=1)
  ·rw[Xa c,if_pos rfl,if_pos c]
  ·rw[Xb c,if_neg (by decide),if_neg c]
 have hbey:bey 0 n=9218868437227405312:=by unfold bey upR;simp
 unfold rnP p0;rw[if_neg hT,he,hq];split
 ·rw[hbey];omega
 ·omega
theorem Zg3 {A B u c:Nat}(hB:0<B):dvK A B u≤2*c↔A*2^u≤c*B:=by
 constructor
 ·intro h;have h3:=Nat.div_add_mod (A*2^u) B;unfold dvK at h;by_cases hr:A*2^u % B=0
  ·rw[if_pos hr] at h;have:B*(A*2^u/B)≤B*c:=Nat.mul_le_mul_left _ (by omega);rw[Nat.mul_comm c];omega
  ·rw[if_neg hr] at h;have h1:A*2^u/B+1≤c:=by omega
   have:B*(A*2^u/B+1)≤B*c:=Nat.mul_le_mul_left _ h1;have hm:=Nat.mod_lt (A*2^u) hB;rw[Nat.mul_add,Nat.mul_one] at this;rw[Nat.mul_comm c];omega
 ·exact Z0X
theorem Zg4 {A B u c:Nat}(hB:0<B):2*c≤dvK A B u↔c*B≤A*2^u:=by
 constructor
 ·intro h;have h1:c≤A*2^u/B:=by
   unfold dvK at h;split at h<;>omega
  exact (Nat.le_div_iff_mul_le hB).1 h1
 ·exact Z0W hB
theorem Zwr {p:Int}(hf:ex p≠2047):mag p=(xp p+1074)*4503599627370496+(sg p).toNat∧(xp p= -1074∨4503599627370496≤(sg p).toNat)∧mag p<9218868437227405312:=by
 have h1:=Zhh p;have h2:=ZdD p;have h4:mag p=4503599627370496*ex p+fr p:=by unfold mag ex fr;omega
 by_cases he:ex p=0
 ·have e1:sg p=fr p:=by unfold sg;rw[if_pos he]
  have e2:xp p= -1074:=by unfold xp;rw[if_pos he]
  rw[e1,e2];exact⟨by omega,.inl rfl,by omega⟩
 ·have e1:sg p=fr p+4503599627370496:=by unfold sg;rw[if_neg he,if_neg hf]
  have e2:xp p=ex p-1075:=by unfold xp;rw[if_neg he,if_neg hf]
  rw[e1,e2];exact⟨by omega,.inr (by omega),by omega⟩
def mdL (S:Nat) (x:Int):Nat:=if S=4503599627370496∧ -1074<x then 4*S-1 else 4*S-2
def mdH (S:Nat):Nat:=4*S+2
theorem Zws (n:Bool) {p:Int}(h:Fin14 p) {T k:Nat}(hk:3≤k):rnP 0 n T (xp p-(k:Nat))=mag p↔(if (sg p).toNat % 2=0 then mdL (sg p).toNat (xp p)*2^(k-2)≤T∧T≤mdH (sg p).toNat*2^(k-2) else mdL (sg p).toNat (xp p)*2^(k-2)<T∧T<mdH (sg p).toNat*2^(k-2)):=by
 obtain⟨m1,m2,m3⟩:=Zwr h.fin;obtain⟨S,hS⟩:∃ S,S=(sg p).toNat:=⟨_,rfl⟩;obtain⟨x,hx⟩:∃ x,x=xp p:=⟨_,rfl⟩;have f1:=h.ne;have f2:=h.e0;have f3:=h.s1;rw[← hS,← hx] at m1;rw[← hS] at f1 f3 m2;rw[← hx] at f2 m2;rw[← hS,← hx];obtain⟨Q,hQ⟩:∃ Q,Q=2^(k-2):=⟨_,rfl⟩;obtain⟨R,hR⟩:∃ R,R=2^(k-3):=⟨_,rfl⟩;have hQR:Q=2*R:=by rw[hQ,hR,Nat.mul_comm,← Nat.pow_succ];congr 1;omega
 have hR0:0<R:=by rw[hR];exact Nat.pow_pos (by omega)
 have hk0:2^k=4*Q:=by rw[hQ,show (4:Nat)=2^2 from rfl,← Nat.pow_add];congr 1;omega
 have hk1:2^(k-1)=2*Q:=by rw[hQ,Nat.mul_comm,← Nat.pow_succ];congr 1;omega
 rw[← hQ];have up:∀ T:Nat,S*(4*Q)≤T→T<(S+1)*(4*Q)→T≠0→rnP 0 n T (x-(k:Nat))=mag p+(if S*(4*Q)+2*Q<T∨(T=S*(4*Q)+2*Q∧S % 2=1) then 1 else 0):=fun T t1 t2 t3=>by
  have:=Zh4 n (S:=S) (k:=k) (T:=T) (x:=x) (E:=x-(k:Nat)) f2 f3 m2 (by omega) rfl (by omega) (by rw[hk0];exact t1) (by rw[hk0];exact t2) t3;rw[hk0,hk1,← m1] at this;exact this
 have eSQ:S*(4*Q)=4*(S*Q):=by rw[← Nat.mul_assoc,Nat.mul_comm S 4,Nat.mul_assoc]
 have eS1:(S+1)*(4*Q)=4*(S*Q)+4*Q:=by rw[Nat.add_mul,eSQ,Nat.one_mul]
 have eH:mdH S*Q=4*(S*Q)+2*Q:=by unfold mdH;rw[Nat.add_mul,Nat.mul_assoc]
 have hSQ:Q≤S*Q:=Nat.le_mul_of_pos_left _ (by omega);obtain⟨W,hW⟩:∃ W,W=S*Q:=⟨_,rfl⟩;rw[eSQ,eS1] at up;rw[eH];rw[← hW] at up hSQ ⊢;have upA:∀ T,4*W+2*Q<T→mag p+1≤rnP 0 n T (x-(k:Nat)):=fun T ht=>by
  have a:=up (4*W+2*Q+1) (by omega) (by omega) (by omega);rw[if_pos (.inl (by omega))] at a;rw[← a];exact zZ (by omega)
 have upM:=up (4*W+2*Q) (by omega) (by omega) (by omega);have upB:∀ T,T<4*W+2*Q→rnP 0 n T (x-(k:Nat))≤mag p:=fun T ht=>by
  have a:=up (4*W+2*Q-1) (by omega) (by omega) (by omega);rw[if_neg (by omega),Int.add_zero] at a;rw[← a];exact zZ (by omega)
 have dn:∃ D,D=mdL S x*Q∧D<4*W∧(∀ T,D<T→mag p≤rnP 0 n T (x-(k:Nat)))∧rnP 0 n D (x-(k:Nat))=mag p-(if S % 2=1 then 1 else 0)∧(∀ T,T<D→rnP 0 n T (x-(k:Nat))≤mag p-1):=by
  by_cases ht:S=4503599627370496∧ -1074<x
  ·have eL:mdL S x*Q=4*W-Q:=by
    unfold mdL;rw[if_pos ht,Nat.sub_mul,Nat.one_mul,Nat.mul_assoc,← hW]
   have cell:∀ T:Nat,4*W-2*Q≤T→T<4*W→T≠0→rnP 0 n T (x-(k:Nat))=mag p-1+(if 4*W-Q<T∨(T=4*W-Q∧9007199254740991 % 2=1) then 1 else 0):=fun T t1 t2 t3=>by
    have hk2:2^(k-1-1)=Q:=by rw[hQ];congr 1
    have e1:9007199254740991*(2*Q)=4*W-2*Q:=by rw[hW,ht.1];omega
    have e2:(9007199254740991+1)*(2*Q)=4*W:=by rw[hW,ht.1];omega
    have:=Zh4 n (S:=9007199254740991) (k:=k-1) (T:=T) (x:=x-1) (E:=x-(k:Nat)) (by omega) (by omega) (.inr (by omega)) (by omega) (by omega) (by omega) (by rw[hk1,e1];exact t1) (by rw[hk1,e2];exact t2) t3;rw[hk1,hk2,e1] at this;rw[this,m1,ht.1];have e3:4*W-2*Q+Q=4*W-Q:=by omega
    rw[e3];omega
   refine⟨4*W-Q,eL.symm,by omega,fun T t=> ?_,?_,fun T t=> ?_⟩
   ·have a:=cell (4*W-Q+1) (by omega) (by omega) (by omega);rw[if_pos (.inl (by omega))] at a;have b:=zZ (m:=0) (neg:=n) (E:=x-(k:Nat)) (show 4*W-Q+1≤T by omega);omega
   ·have a:=cell (4*W-Q) (by omega) (by omega) (by omega);rw[if_pos (.inr ⟨rfl,rfl⟩)] at a;rw[a,if_neg (by omega)];omega
   ·have a:=cell (4*W-Q-1) (by omega) (by omega) (by omega);rw[if_neg (by omega)] at a;have b:=zZ (m:=0) (neg:=n) (E:=x-(k:Nat)) (show T≤4*W-Q-1 by omega);omega
  ·have eL:mdL S x*Q=4*W-2*Q:=by
    unfold mdL;rw[if_neg ht,Nat.sub_mul,Nat.mul_assoc,← hW]
   have cell:∀ T:Nat,4*W-4*Q≤T→T<4*W→T≠0→rnP 0 n T (x-(k:Nat))=mag p-1+(if 4*W-2*Q<T∨(T=4*W-2*Q∧(S-1) % 2=1) then 1 else 0):=fun T t1 t2 t3=>by
    have e1:(S-1)*(4*Q)=4*W-4*Q:=by rw[Nat.sub_mul,eSQ,Nat.one_mul,← hW]
    have e2:(S-1+1)*(4*Q)=4*W:=by rw[show S-1+1=S by omega,eSQ,← hW]
    have:=Zh4 n (S:=S-1) (k:=k) (T:=T) (x:=x) (E:=x-(k:Nat)) f2 (by omega) (by omega) (by omega) rfl (by omega) (by rw[hk0,e1];exact t1) (by rw[hk0,e2];exact t2) t3;rw[hk0,hk1,e1,show 4*W-4*Q+2*Q=4*W-2*Q by omega] at this;rw[this,m1];omega
   refine⟨4*W-2*Q,eL.symm,by omega,fun T t=> ?_,?_,fun T t=> ?_⟩
   ·have a:=cell (4*W-2*Q+1) (by omega) (by omega) (by omega);rw[if_pos (.inl (by omega))] at a;have b:=zZ (m:=0) (neg:=n) (E:=x-(k:Nat)) (show 4*W-2*Q+1≤T by omega);omega
   ·have a:=cell (4*W-2*Q) (by omega) (by omega) (by omega);rw[a];split<;>split<;>omega
   ·have a:=cell (4*W-2*Q-1) (by omega) (by omega) (by omega);rw[if_neg (by omega)] at a;have b:=zZ (m:=0) (neg:=n) (E:=x-(k:Nat)) (show T≤4*W-2*Q-1 by omega);omega
 obtain⟨D,hD,hDW,dnA,dnM,dnB⟩:=dn;rw[← hD];by_cases hpar:S % 2=0
 ·rw[if_pos hpar];rw[if_neg (by omega)] at upM dnM;constructor
  ·intro e;constructor
   ·rcases Nat.lt_or_ge T D with t | t
    ·have:=dnB T t;omega
    ·exact t
   ·rcases Nat.lt_or_ge (4*W+2*Q) T with t | t
    ·have:=upA T t;omega
    ·exact t
  ·rintro⟨t1,t2⟩;have a:mag p≤rnP 0 n T (x-(k:Nat)):=by
    rcases Nat.lt_or_ge D T with t | t
    ·exact dnA T t
    ·rw[show T=D by omega,dnM];omega
   have b:rnP 0 n T (x-(k:Nat))≤mag p:=by
    rcases Nat.lt_or_ge T (4*W+2*Q) with t | t
    ·exact upB T t
    ·rw[show T=4*W+2*Q by omega,upM];omega
   omega
 ·rw[if_neg hpar];rw[if_pos (.inr ⟨rfl,by omega⟩)] at upM;rw[if_pos (by omega)] at dnM;constructor
  ·intro e;constructor
   ·rcases Nat.lt_or_ge D T with t | t
    ·exact t
    ·have:=zZ (m:=0) (neg:=n) (E:=x-(k:Nat)) t;omega
   ·rcases Nat.lt_or_ge T (4*W+2*Q) with t | t
    ·exact t
    ·have:=zZ (m:=0) (neg:=n) (E:=x-(k:Nat)) t;omega
  ·rintro⟨t1,t2⟩;have a:=dnA T t1;have b:=upB T t2;omega
theorem Zwt (n:Bool) {p:Int}(h:Fin14 p) {A B:Nat}(hA:A≠0) (hB:B≠0):rqP 0 n A B=mag p↔(if (sg p).toNat % 2=0 then mdL (sg p).toNat (xp p)*(2^(xp p-2).toNat*B)≤A*2^(2-xp p).toNat∧A*2^(2-xp p).toNat≤mdH (sg p).toNat*(2^(xp p-2).toNat*B) else mdL (sg p).toNat (xp p)*(2^(xp p-2).toNat*B)<A*2^(2-xp p).toNat∧A*2^(2-xp p).toNat<mdH (sg p).toNat*(2^(xp p-2).toNat*B)):=by
 have f2:=h.e0;have f3:=h.e1;obtain⟨u,hu⟩:∃ u,u=1200+upN A B:=⟨_,rfl⟩;have hbits:54≤bitLen (A*2^u/B):=by
  have h3:=ZaK hA hB;have h4:A*2^upN A B/B≤A*2^u/B:=Nat.div_le_div_right (Nat.mul_le_mul_left _ (Nat.pow_le_pow_right (by omega) (by omega)));have h5:2^79≤A*2^upN A B/B:=by
   rw[Nat.le_div_iff_mul_le (by omega)];exact ZmE hA
  have:=Za3 (Nat.le_trans h5 h4);omega
 rw[← (Zgr (m:=0) (n:=n) hA hB hbits).1];obtain⟨k,hk⟩:∃ k:Nat,(k:Int)=xp p+u+1:=⟨(xp p+u+1).toNat,by omega⟩;have hs:=Zws n h (T:=dvK A B u) (k:=k) (by omega);rw[show xp p-(k:Nat)= -(u:Int)-1 by omega] at hs;rw[hs];obtain⟨x,hx⟩:∃ x,x=xp p:=⟨_,rfl⟩;rw[← hx] at hk f2 f3 ⊢;have hB0:0<B:=by omega
 have e2:2^(k-2)=2*2^(k-3):=by rw[Nat.mul_comm,← Nat.pow_succ];congr 1;omega
 have e3:∀ m,m*2^(k-2)=2*(m*2^(k-3)):=fun m=>by rw[e2,← Nat.mul_assoc,Nat.mul_comm m 2,Nat.mul_assoc]
 have ex:2^(k-3)*2^(2-x).toNat=2^(x-2).toNat*2^u:=by rw[← Nat.pow_add,← Nat.pow_add];congr 1;omega
 have hu0:0<2^u:=Nat.pow_pos (by omega);have hx0:0<2^(2-x).toNat:=Nat.pow_pos (by omega);have key:∀ m,(m*2^(k-3)*B≤A*2^u↔m*(2^(x-2).toNat*B)≤A*2^(2-x).toNat)∧(A*2^u≤m*2^(k-3)*B↔A*2^(2-x).toNat≤m*(2^(x-2).toNat*B)):=fun m=>by
  have l:m*2^(k-3)*B*2^(2-x).toNat=m*(2^(x-2).toNat*B)*2^u:=by
   have:m*2^(k-3)*B*2^(2-x).toNat=m*(2^(k-3)*2^(2-x).toNat)*B:=by ac_rfl
   rw[this,ex]
   ac_rfl
  have r:A*2^u*2^(2-x).toNat=A*2^(2-x).toNat*2^u:=by ac_rfl
  constructor
  ·rw[← Nat.mul_le_mul_right_iff hx0,l,r,Nat.mul_le_mul_right_iff hu0]
  ·rw[← Nat.mul_le_mul_right_iff hx0,l,r,Nat.mul_le_mul_right_iff hu0]
 rw[e3,e3];obtain⟨a1,a2⟩:=key (mdL (sg p).toNat x);obtain⟨b1,b2⟩:=key (mdH (sg p).toNat);have c1:=Zg4 (A:=A) (u:=u) (c:=mdL (sg p).toNat x*2^(k-3)) hB0;have c2:=Zg3 (A:=A) (u:=u) (c:=mdL (sg p).toNat x*2^(k-3)) hB0;have d1:=Zg4 (A:=A) (u:=u) (c:=mdH (sg p).toNat*2^(k-3)) hB0;have d2:=Zg3 (A:=A) (u:=u) (c:=mdH (sg p).toNat*2^(k-3)) hB0;split
 ·rw[c1,a1,d2,b2]
 ·rw[← Nat.not_le,← Nat.not_le,← Nat.not_le,← Nat.not_le,c2,a2,d1,b1]
def ovN (E j:Int):Nat:=2^(E-2).toNat*10^(-j).toNat
def Zaz (E j:Int):Nat:=2^(2-E).toNat*10^j.toNat
def ZgL (p j:Int) (N:Nat):Bool:=if (sg p).toNat % 2=0 then decide (mdL (sg p).toNat (xp p)*ovN (xp p) j≤N*Zaz (xp p) j) && decide (N*Zaz (xp p) j≤mdH (sg p).toNat*ovN (xp p) j) else decide (mdL (sg p).toNat (xp p)*ovN (xp p) j<N*Zaz (xp p) j) && decide (N*Zaz (xp p) j<mdH (sg p).toNat*ovN (xp p) j)
theorem Znj (n:Bool) {p:Int}(h:Fin14 p) {N:Nat}(hN:N≠0) (j:Int):decide (deP 0 n N j=mag p)=ZgL p j N:=by
 have q:=Zwt n h (A:=N*10^j.toNat) (B:=10^(-j).toNat) (Zah hN (zF _)) (zF _);have e:N*10^j.toNat*2^(2-xp p).toNat=N*Zaz (xp p) j:=by unfold Zaz;ac_rfl
 rw[e] at q;unfold deP ZgL ovN;split at q
 ·rename_i hp;rw[if_pos hp,← Bool.decide_and];exact decide_eq_decide.2 q
 ·rename_i hp;rw[if_neg hp,← Bool.decide_and];exact decide_eq_decide.2 q
def Z1 (E j:Int) (m:Nat):Nat:=m*ovN E j/Zaz E j
def Zam (E j:Int) (m:Nat):Bool:=decide (m*ovN E j % Zaz E j≠0)
def ZK (p j:Int):Nat:=Z1 (xp p) j (4*(sg p).toNat)
def zQ (p j:Int):Bool:=Zam (xp p) j (4*(sg p).toNat)
def ZaU (p j:Int):Nat:=Z1 (xp p) j (mdL (sg p).toNat (xp p))+(if Zam (xp p) j (mdL (sg p).toNat (xp p))=true∨(sg p).toNat % 2=1 then 1 else 0)
def ZaV (p j:Int):Nat:=Z1 (xp p) j (mdH (sg p).toNat)-(if Zam (xp p) j (mdH (sg p).toNat)=false∧(sg p).toNat % 2=1 then 1 else 0)
theorem Zfw (E j:Int):0<Zaz E j:=Nat.mul_pos (Nat.pow_pos (by omega)) (Nat.pow_pos (by omega))
theorem Zwu (E j:Int):0<ovN E j:=Nat.mul_pos (Nat.pow_pos (by omega)) (Nat.pow_pos (by omega))
theorem Z1c {N M U:Nat}(hU:0<U):M≤N*U↔M/U+(if M % U≠0 then 1 else 0)≤N:=by
 have h:=Nat.div_add_mod M U;have hm:=Nat.mod_lt M hU;rw[Nat.mul_comm] at h;constructor
 ·intro hn;rcases Nat.lt_or_ge N (M/U+(if M % U≠0 then 1 else 0)) with c | c
  ·split at c
   ·have:=Nat.mul_le_mul_right U (show N≤M/U by omega);omega
   ·have:=Nat.mul_le_mul_right U (show N+1≤M/U by omega);rw[Nat.add_mul] at this;omega
  ·exact c
 ·intro hn;split at hn
  ·have:=Nat.mul_le_mul_right U hn;rw[Nat.add_mul] at this;omega
  ·have:=Nat.mul_le_mul_right U (show M/U≤N by omega);omega
theorem Z1d {N M U:Nat}(hU:0<U):N*U≤M↔N≤M/U:=(Nat.le_div_iff_mul_le hU).symm
theorem Z4O {N M U:Nat}(hU:0<U):M<N*U↔M/U+1≤N:=by rw[← Nat.not_le,Z1d hU];omega
theorem Z4P {N M U:Nat}(hU:0<U) (hM:0<M):N*U<M↔N≤M/U-(if M % U=0 then 1 else 0):=by
 have h:=Z1c (N:=N) (M:=M) hU;rw[← Nat.not_le,h];have h2:M % U=0→1≤M/U:=fun h0=>by
  have:=Nat.div_add_mod M U;rcases Nat.eq_zero_or_pos (M/U) with c | c
  ·rw[c,h0] at this;omega
  ·exact c
 by_cases c:M % U=0
 ·have:=h2 c;rw[if_neg (by omega),if_pos c];omega
 ·rw[if_pos c,if_neg c,Nat.sub_zero,Nat.not_le,Nat.lt_add_one_iff]
theorem Z1e {p:Int}(h:Fin14 p) (j:Int) (N:Nat):ZgL p j N=(decide (ZaU p j≤N) && decide (N≤ZaV p j)):=by
 have hU:=Zfw (xp p) j;have hO:=Zwu (xp p) j;have f1:=h.ne;have hM:0<mdH (sg p).toNat*ovN (xp p) j:=Nat.mul_pos (by unfold mdH;omega) hO;obtain⟨a,ha⟩:∃ a,a=mdL (sg p).toNat (xp p)*ovN (xp p) j:=⟨_,rfl⟩;obtain⟨b,hb⟩:∃ b,b=mdH (sg p).toNat*ovN (xp p) j:=⟨_,rfl⟩;obtain⟨u,hu⟩:∃ u,u=Zaz (xp p) j:=⟨_,rfl⟩;unfold ZgL ZaU ZaV Z1 Zam;rw[← ha,← hb,← hu];rw[← hb] at hM;rw[← hu] at hU;have g1:=Z1c (N:=N) (M:=a) hU;have g2:=Z1d (N:=N) (M:=b) hU;have g3:=Z4O (N:=N) (M:=a) hU;have g4:=Z4P (N:=N) (M:=b) hU hM;have bo:∀ P Q R S:Prop,[Decidable P]→[Decidable Q]→[Decidable R]→[Decidable S]→(P↔R)→(Q↔S)→(decide P && decide Q)=(decide R && decide S):=by
  intro P Q R S _ _ _ _ h1 h2;rw[decide_eq_decide.2 h1,decide_eq_decide.2 h2]
 split
 ·rename_i hp;refine bo _ _ _ _ ?_ ?_
  ·rw[g1];by_cases c:a % u≠0
   ·rw[if_pos c,if_pos (.inl (Xa c))]
   ·rw[if_neg c,if_neg];rintro (d | d)
    ·exact c (Xc d)
    ·omega
  ·rw[g2,if_neg (fun c=>by omega),Nat.sub_zero]
 ·rename_i hp;refine bo _ _ _ _ ?_ ?_
  ·rw[g3,if_pos (.inr (by omega))]
  ·rw[g4];by_cases c:b % u=0
   ·rw[if_pos c,if_pos ⟨Xb (fun d=>d c),by omega⟩]
   ·rw[if_neg c,if_neg (fun d=>of_decide_eq_false d.1 c)]
def fx:Nat→Nat→List UInt8
 | 0,_=>[]
 | k+1,n=>fx k (n/10)++[chD (n % 10)]
theorem ZbI (k n:Nat):(fx k n).length=k:=by
 induction k generalizing n with
 | zero=>rfl
 | succ k ih=>unfold fx;rw[List.length_append,ih,List.length_singleton]
theorem ZcS {k n:Nat}(h0:1≤k) (h1:10^(k-1)≤n) (h2:n<10^k):fx k n=Zbs k n:=by
 induction k generalizing n with
 | zero=>omega
 | succ k ih=>
  unfold fx Zbs;by_cases hk:k=0
  ·subst hk;rw[if_pos (by simpa using h2),Nat.mod_eq_of_lt (by simpa using h2)];rfl
  ·have e:10^(k+1-1)=10*10^(k-1):=by rw[Nat.mul_comm,← Nat.pow_succ];congr 1;omega
   have hp:0<10^(k-1):=Nat.pow_pos (by omega);rw[e] at h1;rw[Nat.pow_succ] at h2;rw[if_neg (by omega),ih (by omega) (by omega) (by omega)]
theorem ZiU (a b n:Nat):fx (a+b) n=fx a (n/10^b)++fx b n:=by
 induction b generalizing n with
 | zero=>rw[Nat.pow_zero,Nat.div_one,Nat.add_zero];exact (List.append_nil _).symm
 | succ b ih=>
  rw[← Nat.add_assoc];show fx (a+b) (n/10)++[chD (n % 10)]=fx a (n/10^(b+1))++(fx b (n/10)++[chD (n % 10)]);rw[ih,Nat.div_div_eq_div_mul,Nat.pow_succ,Nat.mul_comm 10,List.append_assoc]
theorem ZsX (k n:Nat):fx k (n % 10^k)=fx k n:=by
 induction k generalizing n with
 | zero=>rfl
 | succ k ih=>
  unfold fx;have e1:n % 10^(k+1)/10=n/10 % 10^k:=by rw[Nat.pow_succ,Nat.mul_comm,Nat.mod_mul_right_div_self]
  have e2:n % 10^(k+1) % 10=n % 10:=by rw[Nat.pow_succ];exact Nat.mod_mul_left_mod _ _ _
  rw[e1,e2,ih]
theorem Znk (a b n:Nat):(fx (a+b) n).take a=fx a (n/10^b):=by
 rw[ZiU];have:=List.take_left (l₁:=fx a (n/10^b)) (l₂:=fx b n);rw[ZbI] at this;exact this
theorem Zwv (a b n:Nat):(fx (a+b) n).drop a=fx b n:=by
 rw[ZiU];have:=List.drop_left (l₁:=fx a (n/10^b)) (l₂:=fx b n);rw[ZbI] at this;exact this
theorem Zww (k:Nat):fx k 0=List.replicate k 48:=by
 induction k with
 | zero=>rfl
 | succ k ih=>
  unfold fx;rw[Nat.zero_div,ih,List.replicate_succ'];rfl
theorem ZsY (a b n:Nat):fx (a+b) (n*10^b)=fx a n++List.replicate b 48:=by
 rw[ZiU,Nat.mul_div_cancel _ (Nat.pow_pos (by omega)),← ZsX b,Nat.mul_mod_left,Zww]
theorem ZiV {d:Nat}(h:d<10):(lq8 (chD d)=48)=(d=0):=by
 rw[ZdH h];apply propext;omega
theorem Ze7 {k n:Nat}:trR (fx k n)=[]↔n % 10^k=0:=by
 induction k generalizing n with
 | zero=>simp [fx,Zfl,Nat.mod_one]
 | succ k ih=>
  unfold fx;rw[z6];have e:n % 10^(k+1)=n % 10+10*(n/10 % 10^k):=by rw[Nat.pow_succ,Nat.mul_comm,Nat.mod_mul]
  by_cases h:n % 10=0
  ·rw[if_pos (by rw[ZiV (by omega)];exact h),ih,e,h];omega
  ·rw[if_neg (by rw[ZiV (by omega)];exact h),e];constructor
   ·intro c;simp at c
   ·intro c;omega
def cmS:List UInt8→List UInt8→Int
 | [],[]=>0
 | [],_::_=> -1
 | _::_,[]=>1
 | a::l,b::r=>if lq8 a<lq8 b then -1 else if lq8 b<lq8 a then 1 else cmS l r
theorem Zwx {k r:Nat}(hr:r<10^k) (h0:r≠0):cmS (trR (fx k r)) [53]=(if 2*r<10^k then -1 else if 2*r=10^k then 0 else 1):=by
 cases k with
 | zero=>rw[Nat.pow_zero] at hr;omega
 | succ k=>
  have e1:fx (1+k) r=fx 1 (r/10^k)++fx k r:=ZiU 1 k r;rw[Nat.add_comm 1 k] at e1;have hp:0<10^k:=Nat.pow_pos (by omega);have hd:r/10^k<10:=by rw[Nat.div_lt_iff_lt_mul hp,Nat.mul_comm,← Nat.pow_succ];exact hr
  obtain⟨d,hd0⟩:∃ d,d=r/10^k:=⟨_,rfl⟩;obtain⟨s,hs⟩:∃ s,s=r % 10^k:=⟨_,rfl⟩;have hrs:r=d*10^k+s:=by rw[hd0,hs,Nat.mul_comm];exact (Nat.div_add_mod r (10^k)).symm
  have hs1:s<10^k:=by rw[hs];exact Nat.mod_lt _ hp
  rw[← hd0] at hd e1;have e2:fx 1 d=[chD d]:=by show []++[chD (d % 10)]=[chD d];rw[Nat.mod_eq_of_lt hd];rfl
  rw[e1,e2];have nl:trR (fx k r)=[]↔s=0:=by rw[Ze7,hs]
  have tr:∀ l:List UInt8,trR ([chD d]++l)=if trR l=[] then (if d=0 then [] else [chD d]) else chD d::trR l:=by
   intro l;refine Zco (P:=fun l=>trR ([chD d]++l)=if trR l=[] then (if d=0 then [] else [chD d]) else chD d::trR l) ?_ ?_ l
   ·rw[Zfl,if_pos rfl,List.append_nil];have:=z6 [] (chD d);rw[List.nil_append] at this;rw[this,Zfl];have e:=ZiV hd;by_cases h:d=0
    ·rw[if_pos h,if_pos (e.mpr h)]
    ·rw[if_neg h,if_neg (fun c=>h (e.mp c))]
   ·intro l c ih;rw[← List.append_assoc,z6,z6];by_cases hc:lq8 c=48
    ·rw[if_pos hc,if_pos hc,ih]
    ·rw[if_neg hc,if_neg hc,if_neg (by simp)];rfl
  rw[tr];have n53:lq8 53=53:=by decide
  have nd:=ZdH hd;rw[Nat.pow_succ];obtain⟨P,hP⟩:∃ P,P=10^k:=⟨_,rfl⟩;rw[← hP] at hrs hs1 hp ⊢;have md:∀ c,d≤c→d*P≤c*P:=fun c h=>Nat.mul_le_mul_right _ h;have mu:∀ c,c≤d→c*P≤d*P:=fun c h=>Nat.mul_le_mul_right _ h;by_cases hz:trR (fx k r)=[]
  ·have hs0:=nl.1 hz;rw[if_pos hz,if_neg (fun c=>h0 (by rw[hrs,c,hs0];omega))];unfold cmS;rw[n53,nd];by_cases h1:d<5
   ·rw[if_pos (by omega),if_pos (by have:=md 4 (by omega);omega)]
   ·rw[if_neg (by omega)];by_cases h2:d=5
    ·rw[if_neg (by omega),if_neg (by rw[hrs,h2];omega),if_pos (by rw[hrs,h2];omega)];rfl
    ·have:=mu 6 (by omega);rw[if_pos (by omega),if_neg (by omega),if_neg (by omega)]
  ·have hs0:s≠0:=fun c=>hz (nl.2 c);rw[if_neg hz];unfold cmS;rw[n53,nd];by_cases h1:d<5
   ·rw[if_pos (by omega),if_pos (by have:=md 4 (by omega);omega)]
   ·rw[if_neg (by omega)];have:=mu 5 (by omega);rw[if_neg (show ¬ 2*r<P*10 by omega),if_neg (show ¬ 2*r=P*10 by omega)];by_cases h2:d=5
    ·rw[if_neg (by omega)];cases hl:trR (fx k r) with
     | nil=>exact absurd hl hz
     | cons a l=>rfl
    ·rw[if_pos (by omega)]
def trC (c:Int) (l:List UInt8):List UInt8:=(l.reverse.dropWhile fun x=>lq8 x==c).reverse
theorem Z1f (l:List UInt8):trC 48 l=trR l:=rfl
theorem Zfx (c:Int) (l:List UInt8) (x:UInt8):trC c (l++[x])=if lq8 x=c then trC c l else l++[x]:=by
 unfold trC;rw[List.reverse_append,List.reverse_singleton,List.singleton_append,List.dropWhile_cons];by_cases h:lq8 x=c
 ·rw[if_pos h,if_pos (by simpa using h)]
 ·rw[if_neg h,if_neg (by simpa using h)];simp
theorem Zfy (c:Int) (l:List UInt8):(trC c l).length≤l.length:=by
 unfold trC;rw[List.length_reverse];have:=(List.dropWhile_sublist (l:=l.reverse) fun x=>lq8 x==c).length_le;rw[List.length_reverse] at this;exact this
def ZaL (l:List UInt8):List UInt8:=if trC 57 l=[] then 49::List.replicate (l.length-(trC 57 l).length) 48 else ((trC 57 l).take ((trC 57 l).length-1)++[UInt8.ofNat ((trC 57 l).getD ((trC 57 l).length-1) 0+1).toNat])++List.replicate (l.length-(trC 57 l).length) 48
theorem ZqI (l:List UInt8) (x:UInt8):ZaL (l++[x])=if lq8 x=57 then ZaL l++[48] else l++[UInt8.ofNat (x+1).toNat]:=by
 unfold ZaL;rw[Zfx];by_cases h:lq8 x=57
 ·have:=Zfy 57 l;rw[if_pos h,if_pos h,List.length_append,List.length_singleton,show l.length+1-(trC 57 l).length=l.length-(trC 57 l).length+1 by omega,List.replicate_succ'];split
  ·rfl
  ·simp only[List.append_assoc]
 ·rw[if_neg h,if_neg h,if_neg (by simp)];simp
theorem ZsZ {d:Nat}(h:d<10):(lq8 (chD d)=57)=(d=9):=by
 rw[ZdH h];apply propext;omega
theorem ZqJ {d:Nat}(h:d<9):UInt8.ofNat (chD d+1).toNat=chD (d+1):=by
 have key:∀ x:Fin 9,UInt8.ofNat (chD x.1+1).toNat=chD (x.1+1):=by decide
 exact key ⟨d,h⟩
theorem Z1g (k n:Nat) (h:n<10^k):ZaL (fx k n)=if n+1=10^k then fx (k+1) (n+1) else fx k (n+1):=by
 induction k generalizing n with
 | zero=>
  have:n=0:=by simpa using h
  subst this;rfl
 | succ k ih=>
  have hp:0<10^k:=Nat.pow_pos (by omega);have e10:10^(k+1)=10*10^k:=by rw[Nat.pow_succ,Nat.mul_comm]
  have e1:fx (k+1) n=fx k (n/10)++[chD (n % 10)]:=rfl;have e2:fx (k+1) (n+1)=fx k ((n+1)/10)++[chD ((n+1) % 10)]:=rfl;have e3:fx (k+1+1) (n+1)=fx (k+1) ((n+1)/10)++[chD ((n+1) % 10)]:=rfl;rw[e1,ZqI,e2,e3];by_cases h9:n % 10=9
  ·rw[if_pos ((ZsZ (by omega)).mpr h9),ih (n/10) (by omega),show (n+1)/10=n/10+1 by omega,show (n+1) % 10=0 by omega];by_cases hc:n+1=10^(k+1)
   ·rw[if_pos hc,if_pos (by omega)];rfl
   ·rw[if_neg hc,if_neg (by omega)];rfl
  ·rw[if_neg (fun c=>h9 ((ZsZ (by omega)).mp c)),show (n+1)/10=n/10 by omega,show (n+1) % 10=n % 10+1 by omega,ZqJ (by omega),if_neg (by omega)]
def Zo6 (m:Int) (mn:Bool) (kept rest:List UInt8):Bool:=if trR rest=[] then false else if m=2 then false else if m=3 then !mn else if m=4 then mn else if m=1 then decide (0≤cmS (trR rest) [53]) else decide (0<cmS (trR rest) [53]) || (decide (cmS (trR rest) [53]=0) && decide ((lq8 (kept.getD (kept.length-1) 0)-48) % 2=1))
theorem Z1h (m:Int) (mn:Bool) {n b W:Nat}(hn:1≤n):Zo6 m mn (fx n (W/10^b)) (fx b W)=Zec m mn (W/10^b) (W % 10^b) (10^b):=by
 have hp:0<10^b:=Nat.pow_pos (by omega);have hr:=Nat.mod_lt W hp;obtain⟨r,hr0⟩:∃ r,r=W % 10^b:=⟨_,rfl⟩;obtain⟨q,hq⟩:∃ q,q=W/10^b:=⟨_,rfl⟩;have ef:fx b W=fx b r:=by rw[hr0,ZsX]
 have hz:trR (fx b r)=[]↔r=0:=by rw[Ze7,Nat.mod_eq_of_lt (by omega)]
 have el:(lq8 ((fx n q).getD ((fx n q).length-1) 0)-48) % 2=((q % 2:Nat):Int):=by
  obtain⟨k,hk⟩:∃ k,n=k+1:=⟨n-1,by omega⟩;subst hk;have e:fx (k+1) q=fx k (q/10)++[chD (q % 10)]:=rfl;rw[ZbI,e,show k+1-1=(fx k (q/10)).length by rw[ZbI];omega];have eg:(fx k (q/10)++[chD (q % 10)]).getD (fx k (q/10)).length 0=chD (q % 10):=by simp
  rw[eg,ZdH (by omega)];omega
 rw[← hr0,← hq,ef];rw[← hr0] at hr;unfold Zo6 Zec;rw[el];by_cases h0:r=0
 ·rw[if_pos (hz.2 h0),h0];rw[Xb (show ¬ 10^b≤2*0 by omega),Xb (show ¬ 0<0 by omega),Xb (show ¬ 10^b<2*0 by omega),Xb (show ¬ 2*0=10^b by omega)];split
  ·rfl
  ·split
   ·rfl
   ·split
    ·rfl
    ·split<;>rfl
 ·rw[if_neg (fun c=>h0 (hz.1 c)),Zwx hr h0,Xa (show 0<r by omega)];by_cases m1:m=1
  ·subst m1;rw[if_neg (by decide),if_neg (by decide),if_neg (by decide),if_pos rfl,if_pos rfl];refine decide_eq_decide.2 ?_;split
   ·omega
   ·split<;>omega
  ·rw[if_neg m1,if_neg m1];by_cases m2:m=2
   ·rw[if_pos m2,if_pos m2]
   ·rw[if_neg m2,if_neg m2];by_cases m3:m=3
    ·rw[if_pos m3,if_pos m3];rfl
    ·rw[if_neg m3,if_neg m3];by_cases m4:m=4
     ·rw[if_pos m4,if_pos m4];rfl
     ·rw[if_neg m4,if_neg m4];have e3:decide (((q % 2:Nat):Int)=1)=decide (q % 2=1):=decide_eq_decide.2 (by omega);rw[e3];congr 1
      ·refine decide_eq_decide.2 ?_;split
       ·omega
       ·split<;>omega
      ·congr 1;refine decide_eq_decide.2 ?_;split
       ·omega
       ·split<;>omega
def wzN (E:Int):Nat:=(-E).toNat
def ZdU (S:Nat) (E:Int):Nat:=S*(5^wzN E*2^E.toNat)
theorem Zta (S:Nat) (E j:Int):paN S E j*5^wzN E=ZdU S E*10^j.toNat:=by unfold paN ZdU;ac_rfl
theorem Ztb (E j:Int):pbN E j*5^wzN E=10^(wzN E+(-j).toNat):=by
 unfold pbN wzN;rw[Nat.pow_add,show (10:Nat)^(-E).toNat=2^(-E).toNat*5^(-E).toNat by rw[← Nat.mul_pow]]
 ac_rfl
theorem Zdl (k:Nat):0<5^k:=Nat.pow_pos (by omega)
theorem Z1i {S:Nat}(E:Int) (h:S≠0):ZdU S E≠0:=Zah h (Zah (fun c=>by have:=Zdl (wzN E);omega) (fun c=>by have:=Nat.pow_pos (n:=E.toNat) (show 0<2 by omega);omega))
theorem Znl {S L:Nat}{E:Int}(hL:1≤L) (h1:10^(L-1)≤ZdU S E) (h2:ZdU S E<10^L):zY S E ((L:Int)-1-(wzN E:Nat)):=by
 obtain⟨f,hf⟩:∃ f:Int,f=(L:Int)-1-(wzN E:Nat):=⟨_,rfl⟩;rw[← hf];have h5:=Zdl (wzN E);have key:∀ (g:Int) (k:Nat),(k:Int)=wzN E+g→(pbN E (-g)≤paN S E (-g)↔10^k≤ZdU S E):=fun g k hk=>by
  rw[← Nat.mul_le_mul_right_iff h5,Zta,Ztb];have e:10^(wzN E+(- -g).toNat)=10^k*10^(-g).toNat:=by rw[← Nat.pow_add];congr 1;omega
  rw[e,Nat.mul_le_mul_right_iff (Nat.pow_pos (by omega))]
 constructor
 ·exact (key f (L-1) (by omega)).2 h1
 ·rw[← Nat.not_le,key (f+1) L (by omega)];omega
theorem Zdm {a b c d:Nat}(hb:0<b) (hd:0<d) (h:a*d=c*b):a/b=c/d∧a % b*d=c % d*b:=by
 have e1:a/b=a*d/(b*d):=(Nat.mul_div_mul_right _ _ hd).symm;have e2:c/d=c*b/(d*b):=(Nat.mul_div_mul_right _ _ hb).symm;have e3:a % b*d=a*d % (b*d):=(Nat.mul_mod_mul_right _ _ _).symm;have e4:c % d*b=c*b % (d*b):=(Nat.mul_mod_mul_right _ _ _).symm;rw[e1,e2,e3,e4,h,Nat.mul_comm d b];exact⟨rfl,rfl⟩
theorem Zwy {m:Int}{mn:Bool}{q r b s d:Nat}(hb:0<b) (hd:0<d) (h:r*d=s*b):Zec m mn q r b=Zec m mn q s d:=by
 have k1:b≤2*r↔d≤2*s:=by
  rw[← Nat.mul_le_mul_right_iff hd,Nat.mul_assoc,h,← Nat.mul_assoc,Nat.mul_comm b d,Nat.mul_le_mul_right_iff hb]
 have k2:2*r≤b↔2*s≤d:=by
  rw[← Nat.mul_le_mul_right_iff hd,Nat.mul_assoc,h,← Nat.mul_assoc,Nat.mul_comm b d,Nat.mul_le_mul_right_iff hb]
 have k3:0<r↔0<s:=by
  constructor
  ·intro c;have:=Nat.mul_pos c hd;rw[h] at this;exact Nat.pos_of_mul_pos_right this
  ·intro c;have:=Nat.mul_pos c hb;rw[← h] at this;exact Nat.pos_of_mul_pos_right this
 unfold Zec;rw[decide_eq_decide.2 k1,decide_eq_decide.2 k3,decide_eq_decide.2 (show b<2*r↔d<2*s by omega),decide_eq_decide.2 (show 2*r=b↔2*s=d by omega)]
theorem Zwz (m:Int) (mn:Bool) (q:Nat) {b:Nat}(hb:0<b):Zec m mn q 0 b=false:=by
 unfold Zec;rw[Xb (show ¬ b≤2*0 by omega),Xb (show ¬ 0<0 by omega),Xb (show ¬ b<2*0 by omega),Xb (show ¬ 2*0=b by omega)];split
 ·rfl
 ·split
  ·rfl
  ·split
   ·rfl
   ·split<;>rfl
def rnD (D:List UInt8) (e:Int) (n:Nat) (mn:Bool) (m:Int):List UInt8×Int:=
 if D.length≤n then (D++List.replicate (n-D.length) 48,e)
 else if Zo6 m mn (D.take n) (D.drop n)=true then ((ZaL (D.take n)).take n,e+((ZaL (D.take n)).length:Nat)-n)
 else ((D.take n).take n,e+((D.take n).length:Nat)-n)
theorem Z1j {p:Int}(h:Fin14 p) {L n:Nat}(hn:1≤n) (m:Int) (hL:1≤L) (h1:10^(L-1)≤ZdU (sg p).toNat (xp p)) (h2:ZdU (sg p).toNat (xp p)<10^L):
  txL (decide (9223372036854775808≤p)) (rnD (Zbs L (ZdU (sg p).toNat (xp p))) ((L:Int)-1-(wzN (xp p):Nat)) n (decide (9223372036854775808≤p)) m).1 (rnD (Zbs L (ZdU (sg p).toNat (xp p))) ((L:Int)-1-(wzN (xp p):Nat)) n (decide (9223372036854775808≤p)) m).2=Zg2 p n m:=by
 have ef:=Zg0 (ZcR h).1 (Znl hL h1 h2);have q0:=ZjT (ZcR h).1 hn;obtain⟨mn,hmn⟩:∃ mn,mn=decide (9223372036854775808≤p):=⟨_,rfl⟩;unfold Zg2;rw[← hmn,← ef];obtain⟨f,hf⟩:∃ f,f=frP p:=⟨_,rfl⟩;rw[← hf] at ef q0 ⊢;obtain⟨S,hS⟩:∃ S,S=(sg p).toNat:=⟨_,rfl⟩;obtain⟨E,hE⟩:∃ E,E=xp p:=⟨_,rfl⟩;rw[← hS,← hE] at h1 h2 q0 ⊢;rw[← hE] at ef;obtain⟨W,hW⟩:∃ W,W=ZdU S E:=⟨_,rfl⟩;have h5:=Zdl (wzN E);have hb:=zP E ((n:Int)-1-f);have pa:=Zta S E ((n:Int)-1-f);have pb:=Ztb E ((n:Int)-1-f);rw[← hW] at h1 h2 pa ⊢;rw[← ZcS hL h1 h2];unfold rnD;rw[ZbI];by_cases hc:L≤n
 ·rw[if_pos hc];have eq:qD S E f n=W*10^(n-L)∧ZjS S E f n=0:=by
   have:=Zdm (a:=paN S E ((n:Int)-1-f)) (b:=pbN E ((n:Int)-1-f)) (c:=W*10^(n-L)) (d:=1) hb (by omega) (by
    refine Nat.eq_of_mul_eq_mul_right h5 ?_;rw[Nat.mul_one,pa,Nat.mul_assoc,pb,Nat.mul_assoc,← Nat.pow_add];congr 2;omega)
   unfold qD ZjS;rw[Nat.div_one,Nat.mod_one,Nat.mul_one,Nat.zero_mul] at this;exact this
  rw[eq.1,eq.2,Zwz _ _ _ hb,if_neg (by decide)];dsimp only;congr 1;have ep:=ZsY L (n-L) W;rw[show L+(n-L)=n by omega] at ep;rw[← ep];rw[eq.1] at q0;exact ZcS hn q0.1 q0.2
 ·rw[if_neg hc];obtain⟨b,hb0⟩:∃ b,L=n+b:=⟨L-n,by omega⟩;have hp:0<10^b:=Nat.pow_pos (by omega);have eq:qD S E f n=W/10^b∧ZjS S E f n*10^b=W % 10^b*pbN E ((n:Int)-1-f):=Zdm hb hp (by
   refine Nat.eq_of_mul_eq_mul_right h5 ?_;have e1:paN S E ((n:Int)-1-f)*10^b*5^wzN E=W*10^((n:Int)-1-f).toNat*10^b:=by rw[← pa];ac_rfl
   rw[e1,Nat.mul_assoc W (pbN _ _),pb,Nat.mul_assoc,← Nat.pow_add];congr 2;omega)
  have eu:=Zwy (m:=m) (mn:=mn) (q:=qD S E f n) hb hp eq.2;rw[eu,eq.1];rw[eq.1] at q0;subst hb0;rw[Znk,Zwv,Z1h m mn hn];obtain⟨q,hq⟩:∃ q,q=W/10^b:=⟨_,rfl⟩;rw[← hq] at q0 ⊢;split
  ·dsimp only;rw[Z1g n q q0.2];unfold hiX;by_cases hq1:q+1=10^n
   ·rw[if_pos hq1,if_pos hq1,ZbI];have ht:=Znk n 1 (q+1);rw[ht,show f+((n+1:Nat):Int)-(n:Nat)=f+1 by omega];have e:(q+1)/10^1=10^(n-1):=by
     rw[hq1,Nat.pow_one];have:10^n=10^(n-1)*10:=by rw[← Nat.pow_succ];congr 1;omega
     omega
    rw[e,ZcS hn (Nat.le_refl _) (Nat.pow_lt_pow_right (by omega) (by omega))]
   ·rw[if_neg hq1,if_neg hq1,ZbI,show f+(n:Int)-(n:Nat)=f by omega,ZcS hn (by omega) (by omega)];have e:=Zg1 (f:=n) (n:=q+1) (by omega) hn;rw[List.take_of_length_le (by omega)]
  ·dsimp only;rw[ZbI,show f+(n:Int)-(n:Nat)=f by omega,List.take_of_length_le (by rw[ZbI];omega),ZcS hn q0.1 q0.2]
def lgB (t:Int):Int:=t*78913/262144
def lgK (k:Nat):Bool:=
 Nat.ble (10^(lgB ((k:Int)-1074)).toNat*2^(-((k:Int)-1074)).toNat) (2^((k:Int)-1074).toNat*10^(-(lgB ((k:Int)-1074))).toNat) &&
 Nat.ble (2^((k:Int)-1073).toNat*10^(-(lgB ((k:Int)-1074)+2)).toNat) (10^(lgB ((k:Int)-1074)+2).toNat*2^(-((k:Int)-1073)).toNat)
theorem Z1k:(List.range 2100).all lgK=true:=by decide+kernel
theorem Z4Q {t:Int}(h0: -1074≤t) (h1:t≤1025):10^(lgB t).toNat*2^(-t).toNat≤2^t.toNat*10^(-(lgB t)).toNat∧2^(t+1).toNat*10^(-(lgB t+2)).toNat≤10^(lgB t+2).toNat*2^(-(t+1)).toNat:=by
 have h:=List.all_eq_true.1 Z1k (t+1074).toNat (List.mem_range.2 (by omega));unfold lgK at h;rw[show (((t+1074).toNat:Nat):Int)-1074=t by omega,show (((t+1074).toNat:Nat):Int)-1073=t+1 by omega,Xh] at h;exact⟨Nat.le_of_ble_eq_true h.1,Nat.le_of_ble_eq_true h.2⟩
def lgS (S:Nat) (E:Int):Int:=lgB (E+(bitLen S:Nat)-1)
theorem Ztc {S:Nat}{E:Int}(h0:S≠0) (hE: -1074≤E) (hE1:E≤972) (hS:S<9007199254740992):(-324≤lgS S E∧lgS S E≤309)∧pbN E (-(lgS S E))≤paN S E (-(lgS S E))∧paN S E (-(lgS S E+2))<pbN E (-(lgS S E+2)):=by
 have hb:bitLen S≤53:=len_le (k:=53) hS;have hb1:=zB h0;obtain⟨t,ht⟩:∃ t,t=E+((bitLen S:Nat):Int)-1:=⟨_,rfl⟩;unfold lgS;rw[← ht];obtain⟨k1,k2⟩:=Z4Q (t:=t) (by omega) (by omega);have bd: -324≤lgB t∧lgB t≤309:=by unfold lgB;omega
 obtain⟨N,hN⟩:∃ N,N=lgB t:=⟨_,rfl⟩;rw[← hN] at k1 k2 bd ⊢;refine⟨bd,?_,?_⟩
 ·unfold pbN paN;rw[show (- -N).toNat=N.toNat by omega];have hl:=(bitLen_spec S).2 h0;have e:2^(-E).toNat*2^t.toNat=2^(bitLen S-1)*2^E.toNat*2^(-t).toNat:=by
   rw[← Nat.pow_add,← Nat.pow_add,← Nat.pow_add];congr 1;omega
  refine Nat.le_of_mul_le_mul_right (c:=2^(-t).toNat) ?_ (Nat.pow_pos (by omega));have a:=Nat.mul_le_mul_left (2^(-E).toNat) k1;have b:=Nat.mul_le_mul_right (2^E.toNat*2^(-t).toNat*10^(-N).toNat) hl;have e1:2^(-E).toNat*(2^t.toNat*10^(-N).toNat)=2^(bitLen S-1)*(2^E.toNat*2^(-t).toNat*10^(-N).toNat):=by
   rw[← Nat.mul_assoc,e]
   ac_rfl
  have e2:2^(-E).toNat*(10^N.toNat*2^(-t).toNat)=2^(-E).toNat*10^N.toNat*2^(-t).toNat:=by ac_rfl
  have e3:S*(2^E.toNat*2^(-t).toNat*10^(-N).toNat)=S*2^E.toNat*10^(-N).toNat*2^(-t).toNat:=by ac_rfl
  rw[e1,e2] at a;rw[e3] at b;exact Nat.le_trans a b
 ·unfold pbN paN;rw[show (- -(N+2)).toNat=(N+2).toNat by omega];have hl:=(bitLen_spec S).1;have e:2^(-E).toNat*2^(t+1).toNat=2^bitLen S*2^E.toNat*2^(-(t+1)).toNat:=by
   rw[← Nat.pow_add,← Nat.pow_add,← Nat.pow_add];congr 1;omega
  refine Nat.lt_of_mul_lt_mul_right (a:=2^(-(t+1)).toNat) ?_;have p1:0<2^E.toNat*2^(-(t+1)).toNat*10^(-(N+2)).toNat:=Nat.mul_pos (Nat.mul_pos (Nat.pow_pos (by omega)) (Nat.pow_pos (by omega))) (Nat.pow_pos (by omega));have a:=Nat.mul_le_mul_left (2^(-E).toNat) k2;have b:=Nat.mul_lt_mul_of_pos_right hl p1;have e1:2^(-E).toNat*(2^(t+1).toNat*10^(-(N+2)).toNat)=2^bitLen S*(2^E.toNat*2^(-(t+1)).toNat*10^(-(N+2)).toNat):=by
   rw[← Nat.mul_assoc,e]
   ac_rfl
  have e2:2^(-E).toNat*(10^(N+2).toNat*2^(-(t+1)).toNat)=2^(-E).toNat*10^(N+2).toNat*2^(-(t+1)).toNat:=by ac_rfl
  have e3:S*(2^E.toNat*2^(-(t+1)).toNat*10^(-(N+2)).toNat)=S*2^E.toNat*10^(-(N+2)).toNat*2^(-(t+1)).toNat:=by ac_rfl
  rw[e1,e2] at a;rw[e3] at b;exact Nat.lt_of_lt_of_le b a
def lsP (p:Int):Int:=lgS (sg p).toNat (xp p)-17
theorem ZiW (S:Nat) (E j:Int):4*S*ovN E j*pbN E (-j)=paN S E (-j)*Zaz E j:=by
 unfold ovN pbN paN Zaz;rw[show (- -j).toNat=j.toNat by omega];have e:2^2*2^(E-2).toNat*2^(-E).toNat=2^E.toNat*2^(2-E).toNat:=by
  rw[← Nat.pow_add,← Nat.pow_add,← Nat.pow_add];congr 1;omega
 have l:4*S*(2^(E-2).toNat*10^(-j).toNat)*(2^(-E).toNat*10^j.toNat)=S*(2^2*2^(E-2).toNat*2^(-E).toNat)*(10^(-j).toNat*10^j.toNat):=by
  rw[show (4:Nat)=2^2 from rfl]
  ac_rfl
 rw[l,e]
 ac_rfl
theorem ZqK (p j:Int):ZK p j=paN (sg p).toNat (xp p) (-j)/pbN (xp p) (-j)∧zQ p j=decide (paN (sg p).toNat (xp p) (-j) % pbN (xp p) (-j)≠0):=by
 have hb:=zP (xp p) (-j);have hu:=Zfw (xp p) j;obtain⟨a,b⟩:=Zdm hu hb (ZiW (sg p).toNat (xp p) j);refine⟨a,?_⟩;unfold zQ Zam;refine decide_eq_decide.2 (not_congr ?_);constructor
 ·intro h;rw[h,Nat.zero_mul] at b;exact (Nat.mul_eq_zero.1 b.symm).resolve_right (by omega)
 ·intro h;rw[h,Nat.zero_mul] at b;exact (Nat.mul_eq_zero.1 b).resolve_right (by omega)
theorem Zw0 {p:Int}(h:Fin14 p):10^17≤ZK p (lsP p)∧ZK p (lsP p)<10^19∧ -400≤lsP p∧lsP p≤300:=by
 obtain⟨bd,h1,h2⟩:=Ztc h.ne h.e0 h.e1 h.s1;have hb:=zP (xp p) (-(lsP p));have a:=ZdM (a:=1) 17 (by rw[Nat.one_mul];exact h1);have b:=Zft (a:=1) 19 (by rw[Nat.one_mul];exact h2);have e1: -(lgS (sg p).toNat (xp p))+((17:Nat):Int)= -(lsP p):=by unfold lsP;omega
 have e2: -(lgS (sg p).toNat (xp p)+2)+((19:Nat):Int)= -(lsP p):=by unfold lsP;omega
 rw[e1,Nat.one_mul] at a;rw[e2,Nat.one_mul] at b;rw[(ZqK p (lsP p)).1];exact⟨(Nat.le_div_iff_mul_le hb).2 a,(Nat.div_lt_iff_lt_mul hb).2 b,by unfold lsP;omega,by unfold lsP;omega⟩
def atL (p:Int):Nat:=if ZK p (lsP p)<10^18 then 18 else 19
theorem ZaR {p:Int}(h:Fin14 p):(18≤atL p∧atL p≤19)∧10^(atL p-1)≤ZK p (lsP p)∧ZK p (lsP p)<10^atL p:=by
 obtain⟨a,b,_⟩:=Zw0 h;unfold atL;split
 ·rename_i c;exact⟨by omega,a,c⟩
 ·rename_i c;exact⟨by omega,Nat.le_of_not_lt c,b⟩
theorem Zdn {p:Int}(h:Fin14 p):frP p=lsP p+(atL p:Nat)-1:=by
 obtain⟨⟨l1,l2⟩,a,b⟩:=ZaR h;have hb:=zP (xp p) (-(lsP p));rw[(ZqK p (lsP p)).1] at a b;have a:=(Nat.le_div_iff_mul_le hb).1 a;have b:=(Nat.div_lt_iff_lt_mul hb).1 b;refine Zg0 (ZcR h).1 ⟨?_,?_⟩
 ·rcases Nat.lt_or_ge (paN (sg p).toNat (xp p) (-(lsP p+(atL p:Nat)-1))) (pbN (xp p) (-(lsP p+(atL p:Nat)-1))) with c | c
  ·have d:=Zft (a:=1) (atL p-1) (by rw[Nat.one_mul];exact c);rw[Nat.one_mul,show -(lsP p+(atL p:Nat)-1)+((atL p-1:Nat):Int)= -(lsP p) by omega] at d;omega
  ·exact c
 ·rcases Nat.lt_or_ge (paN (sg p).toNat (xp p) (-(lsP p+(atL p:Nat)-1+1))) (pbN (xp p) (-(lsP p+(atL p:Nat)-1+1))) with c | c
  ·exact c
  ·have d:=ZdM (a:=1) (atL p) (by rw[Nat.one_mul];exact c);rw[Nat.one_mul,show -(lsP p+(atL p:Nat)-1+1)+(atL p:Int)= -(lsP p) by omega] at d;omega
def nrU (a:Nat) (m:Bool) (u:Nat):Bool:=decide (u/2<a % u) || (decide (a % u=u/2) && (m || decide (a/u % 2=1)))
section
variable {p : Int} {n : Nat}
theorem Z1l (h:Fin14 p) (h2:n≤18):qD (sg p).toNat (xp p) (frP p) n=ZK p (lsP p)/10^(atL p-n)∧ZjS (sg p).toNat (xp p) (frP p) n*(pbN (xp p) (-(lsP p))*10^(atL p-n))=paN (sg p).toNat (xp p) (-(lsP p)) % (pbN (xp p) (-(lsP p))*10^(atL p-n))*pbN (xp p) ((n:Int)-1-frP p):=by
 have hf:=Zdn h;obtain⟨⟨l1,l2⟩,_⟩:=ZaR h;have hb:=zP (xp p) (-(lsP p));have hb2:=zP (xp p) ((n:Int)-1-frP p);have hs:=ZcB (sg p).toNat (xp p) ((n:Int)-1-frP p) (atL p-n);rw[show (n:Int)-1-frP p+((atL p-n:Nat):Int)= -(lsP p) by omega] at hs;have:=Zdm (a:=paN (sg p).toNat (xp p) ((n:Int)-1-frP p)) (b:=pbN (xp p) ((n:Int)-1-frP p)) (c:=paN (sg p).toNat (xp p) (-(lsP p))) (d:=pbN (xp p) (-(lsP p))*10^(atL p-n)) hb2 (Nat.mul_pos hb (Nat.pow_pos (by omega))) (by rw[hs];ac_rfl);unfold qD ZjS;rw[(ZqK p (lsP p)).1,Nat.div_div_eq_div_mul];exact this
theorem Zw1 (h:Fin14 p) (h2:n≤17):(decide (2*ZjS (sg p).toNat (xp p) (frP p) n<pbN (xp p) ((n:Int)-1-frP p)) || (decide (2*ZjS (sg p).toNat (xp p) (frP p) n=pbN (xp p) ((n:Int)-1-frP p)) && decide (qD (sg p).toNat (xp p) (frP p) n % 2=0)))= !nrU (ZK p (lsP p)) (zQ p (lsP p)) (10^(atL p-n)):=by
 obtain⟨⟨l1,l2⟩,_⟩:=ZaR h;obtain⟨k1,k2⟩:=Z1l h (n:=n) (by omega);obtain⟨a1,a2⟩:=ZqK p (lsP p);have hb:=zP (xp p) (-(lsP p));have hb2:=zP (xp p) ((n:Int)-1-frP p);have hev:10^(atL p-n)=2*(5*10^(atL p-n-1)):=by
  have:10^(atL p-n)=10^(atL p-n-1)*10:=by rw[← Nat.pow_succ];congr 1;omega
  omega
 unfold nrU;rw[k1,a2,a1];obtain⟨A,hA⟩:∃ A,A=paN (sg p).toNat (xp p) (-(lsP p)):=⟨_,rfl⟩;obtain⟨B,hB⟩:∃ B,B=pbN (xp p) (-(lsP p)):=⟨_,rfl⟩;obtain⟨u,hu⟩:∃ u,u=10^(atL p-n):=⟨_,rfl⟩;obtain⟨r,hr⟩:∃ r,r=ZjS (sg p).toNat (xp p) (frP p) n:=⟨_,rfl⟩;obtain⟨b,hb0⟩:∃ b,b=pbN (xp p) ((n:Int)-1-frP p):=⟨_,rfl⟩;obtain⟨v,hv⟩:∃ v,v=5*10^(atL p-n-1):=⟨_,rfl⟩;have hu0:0<u:=by rw[hu];exact Nat.pow_pos (by omega)
 rw[← hA,← hB,← hu,← hr,← hb0] at k2;rw[← hA,← hB,← hu,← hr,← hb0];rw[← hB] at hb;rw[← hb0] at hb2;rw[← hu,← hv] at hev;have em:A % (B*u)=A % B+B*(A/B % u):=Nat.mod_mul;obtain⟨s,hs⟩:∃ s,s=A/B % u:=⟨_,rfl⟩;obtain⟨z,hz⟩:∃ z,z=A % B:=⟨_,rfl⟩;have hzl:z<B:=by rw[hz];exact Nat.mod_lt _ hb
 rw[← hs,← hz] at em;rw[em] at k2;rw[← hs,← hz];have hBu:0<B*u:=Nat.mul_pos hb hu0;have c1:2*r<b↔2*(z+B*s)<B*u:=by
  rw[← Nat.mul_lt_mul_right hBu,Nat.mul_assoc,k2,← Nat.mul_assoc,Nat.mul_comm b,Nat.mul_lt_mul_right hb2]
 have c2:2*r=b↔2*(z+B*s)=B*u:=by
  constructor
  ·intro e;refine Nat.eq_of_mul_eq_mul_right hb2 ?_;rw[Nat.mul_assoc,← k2,← Nat.mul_assoc,e,Nat.mul_comm]
  ·intro e;refine Nat.eq_of_mul_eq_mul_right hBu ?_;rw[Nat.mul_assoc,k2,← Nat.mul_assoc,e,Nat.mul_comm]
 have d1:decide (2*r<b)=decide (2*(z+B*s)<B*u):=decide_eq_decide.2 c1;have d2:decide (2*r=b)=decide (2*(z+B*s)=B*u):=decide_eq_decide.2 c2;rw[d1,d2,show u/2=v by omega,hev];have eB:B*(2*v)=2*(B*v):=by ac_rfl
 rw[eB];rcases Nat.lt_trichotomy s v with h1 | h1 | h1
 ·have:=Nat.mul_le_mul_left B (show s+1≤v by omega);rw[Nat.mul_add,Nat.mul_one] at this;rw[Xa (show 2*(z+B*s)<2*(B*v) by omega),Xb (show ¬ v<s by omega),Xb (show ¬ s=v by omega)];rfl
 ·subst h1;rw[Xb (show ¬ s<s by omega),Xa (show s=s from rfl)];by_cases hz0:z=0
  ·rw[Xb (show ¬ 2*(z+B*s)<2*(B*s) by omega),Xa (show 2*(z+B*s)=2*(B*s) by omega),Xb (show ¬ z≠0 from fun c=>c hz0)];rcases Nat.mod_two_eq_zero_or_one (A/B/(2*s)) with c | c
   ·rw[c];rfl
   ·rw[c];rfl
  ·rw[Xb (show ¬ 2*(z+B*s)<2*(B*s) by omega),Xb (show ¬ 2*(z+B*s)=2*(B*s) by omega),Xa (show z≠0 from hz0)];rfl
 ·have:=Nat.mul_le_mul_left B (show v+1≤s by omega);rw[Nat.mul_add,Nat.mul_one] at this;rw[Xb (show ¬ 2*(z+B*s)<2*(B*v) by omega),Xb (show ¬ 2*(z+B*s)=2*(B*v) by omega),Xa (show v<s from h1)];rfl
def Zbv (p:Int) (n:Nat):Nat:=ZK p (lsP p)/10^(atL p-n)*10^(atL p-n)
def ZaW (p:Int) (n:Nat):Nat:=(ZK p (lsP p)/10^(atL p-n)+1)*10^(atL p-n)
theorem Ztd (h:Fin14 p) (h1:1≤n) (h2:n≤18):ZgL p (lsP p) (Zbv p n)=loB false (mag p) (sg p).toNat (xp p) (frP p) n:=by
 obtain⟨⟨l1,l2⟩,_⟩:=ZaR h;have hf:=Zdn h;have hq:=(ZjT (ZcR h).1 h1).1;have hp:0<10^(n-1):=Nat.pow_pos (by omega);have k1:=(Z1l h (n:=n) h2).1;have hq0:ZK p (lsP p)/10^(atL p-n)≠0:=by rw[← k1];omega
 have ds:=(Zb6 0 false hq0 (atL p-n) (frP p-((n:Int)-1))).1;rw[show frP p-((n:Int)-1)-((atL p-n:Nat):Int)=lsP p by omega] at ds;unfold loB Zbv;rw[← Znj false h (Zah hq0 (zF _)),ds,k1]
theorem Zte (h:Fin14 p) (h2:n≤18):ZgL p (lsP p) (ZaW p n)=hiB false (mag p) (sg p).toNat (xp p) (frP p) n:=by
 obtain⟨⟨l1,l2⟩,_⟩:=ZaR h;have hf:=Zdn h;have k1:=(Z1l h (n:=n) h2).1;have hq0:ZK p (lsP p)/10^(atL p-n)+1≠0:=by omega
 have ds:=(Zb6 0 false hq0 (atL p-n) (frP p-((n:Int)-1))).1;rw[show frP p-((n:Int)-1)-((atL p-n:Nat):Int)=lsP p by omega] at ds;unfold hiB ZaW;rw[← Znj false h (Zah hq0 (zF _)),ds,k1]
theorem ZqL (h:Fin14 p) (h1:1≤n) (h2:n≤nP p):(ZgL p (lsP p) (Zbv p n)=true∨ZgL p (lsP p) (ZaW p n)=true)↔n=nP p:=by
 obtain⟨_,b,c,d⟩:=Za4 h;rw[Ztd h h1 (by omega),Zte h (by omega)];constructor
 ·intro e;rcases Nat.lt_or_ge n (nP p) with l | l
  ·obtain⟨x,y⟩:=d n h1 l;rcases e with e | e
   ·rw[x] at e;cases e
   ·rw[y] at e;cases e
  ·omega
 ·intro e;rw[e];exact c
end
def shV (p:Int):Nat:=if loK false (mag p) (sg p).toNat (xp p) (frP p) (nP p)=true then Zbv p (nP p) else ZaW p (nP p)
theorem Z1m {p:Int}(h:Fin14 p):shV p=if nrU (ZK p (lsP p)) (zQ p (lsP p)) (10^(atL p-nP p))=true then (if ZgL p (lsP p) (ZaW p (nP p))=true then ZaW p (nP p) else Zbv p (nP p)) else (if ZgL p (lsP p) (Zbv p (nP p))=true then Zbv p (nP p) else ZaW p (nP p)):=by
 obtain⟨_,b,c,d⟩:=Za4 h;have hn:=Zw1 h (n:=nP p) b.2;unfold shV loK;rw[Bool.or_assoc,hn,Ztd h b.1 (by omega),Zte h (by omega)];clear hn d;generalize Zbv p (nP p)=lo;generalize ZaW p (nP p)=hi;generalize nrU (ZK p (lsP p)) (zQ p (lsP p)) (10^(atL p-nP p))=nu;cases hl:loB false (mag p) (sg p).toNat (xp p) (frP p) (nP p)<;>cases hh:hiB false (mag p) (sg p).toNat (xp p) (frP p) (nP p)<;>cases nu<;>first | rfl | (rw[hl,hh] at c;rcases c with c | c<;>cases c)
theorem Znm {n f g:Nat}(h:n<10^f) (hf:1≤f) (hg:f≤g):Zbs g n=Zbs f n:=by
 induction f generalizing n g with
 | zero=>omega
 | succ f ih=>
  obtain⟨g,rfl⟩:∃ g',g=g'+1:=⟨g-1,by omega⟩;unfold Zbs;by_cases h10:n<10
  ·rw[if_pos h10,if_pos h10]
  ·have hf0:f≠0:=fun c=>by subst c;simp at h;omega
   rw[if_neg h10,if_neg h10,ih (n:=n/10) (by rw[Nat.pow_succ] at h;omega) (by omega) (by omega)]
theorem Zw2 (l:List UInt8) (c:Nat):trR (l++List.replicate c 48)=trR l:=by
 induction c with
 | zero=>rw[List.replicate_zero,List.append_nil]
 | succ c ih=>
  rw[List.replicate_succ',← List.append_assoc,z6,if_pos (by decide),ih]
theorem ZqM {k n:Nat}(hk:1≤k) (h:n % 10≠0):trR (fx k n)=fx k n:=by
 obtain⟨k,rfl⟩:∃ k',k=k'+1:=⟨k-1,by omega⟩;have e:fx (k+1) n=fx k (n/10)++[chD (n % 10)]:=rfl;rw[e,z6,if_neg (fun c=>h ((ZiV (by omega)).mp c))]
theorem Zh5 {n c v:Nat}(h0:1≤n) (hc:n+c≤20) (h1:10^(n-1)≤v) (h2:v<10^n) (h3:v % 10≠0):trR (dcL (v*10^c))=Zbs n v∧(dcL (v*10^c)).length=n+c:=by
 have a1:10^(n+c-1)≤v*10^c:=by
  rw[show n+c-1=n-1+c by omega,Nat.pow_add];exact Nat.mul_le_mul_right _ h1
 have a2:v*10^c<10^(n+c):=by
  rw[Nat.pow_add];exact Nat.mul_lt_mul_of_pos_right h2 (Nat.pow_pos (by omega))
 have e:dcL (v*10^c)=fx n v++List.replicate c 48:=by
  unfold dcL;rw[Znm a2 (by omega) hc,← ZcS (by omega) a1 a2,ZsY]
 rw[e,Zw2,ZqM h0 h3,ZcS h0 h1 h2];refine⟨rfl,?_⟩;rw[List.length_append,List.length_replicate,← ZcS h0 h1 h2,ZbI]
theorem ZqN {p:Int}(h:Fin14 p):txL (decide (9223372036854775808≤p)) (trR (dcL (shV p))) (lsP p+((dcL (shV p)).length:Nat)-1)=shS p:=by
 obtain⟨e,b,c,d⟩:=Za4 h;obtain⟨⟨l1,l2⟩,_⟩:=ZaR h;have hf:=Zdn h;obtain⟨q1,q2⟩:=ZjT (ZcR h).1 b.1;have k1:=(Z1l h (n:=nP p) (by omega)).1;obtain⟨mn,hmn⟩:∃ mn,mn=decide (9223372036854775808≤p):=⟨_,rfl⟩;rw[e,← hmn];unfold shO shV;rw[ZqF mn false];have fewer:1<nP p→qD (sg p).toNat (xp p) (frP p) (nP p-1)=qD (sg p).toNat (xp p) (frP p) (nP p)/10∧loB false (mag p) (sg p).toNat (xp p) (frP p) (nP p-1)=false∧hiB false (mag p) (sg p).toNat (xp p) (frP p) (nP p-1)=false:=fun hn=>by
  obtain⟨x,y⟩:=d (nP p-1) (by omega) (by omega);refine⟨?_,x,y⟩;rw[k1,(Z1l h (n:=nP p-1) (by omega)).1,Nat.div_div_eq_div_mul,← Nat.pow_succ];congr 2;omega
 have hp:0<10^(nP p-1):=Nat.pow_pos (by omega);obtain⟨n,hn⟩:∃ n,n=nP p:=⟨_,rfl⟩;rw[← hn] at b q1 q2 k1 fewer c hp ⊢;obtain⟨q,hq⟩:∃ q,q=qD (sg p).toNat (xp p) (frP p) n:=⟨_,rfl⟩;unfold Zbv ZaW hiX;rw[← k1,← hq];clear k1 e d;obtain⟨l,hl⟩:∃ l,l=atL p:=⟨_,rfl⟩;obtain⟨j,hj⟩:∃ j,j=lsP p:=⟨_,rfl⟩;obtain⟨f,hf0⟩:∃ f,f=frP p:=⟨_,rfl⟩;rw[← hf0,← hj,← hl] at hf;rw[← hl] at l1 l2;rw[← hf0] at fewer c hq q1 q2;rw[← hf0,← hj,← hl];clear hl hj hf0 hn;split
 ·rename_i hk;have hlo:=Zh2 hk;have h10:q % 10≠0:=by
   intro c0;by_cases h1:n=1
   ·rw[h1] at q1 q2 hq;rw[← hq] at q1 q2;simp at q1 q2;omega
   ·obtain⟨f1,f2,_⟩:=fewer (by omega);rw[← hq] at f1;have hq1:q/10≠0:=by
     have:10^(n-1)=10^(n-2)*10:=by rw[← Nat.pow_succ];congr 1;omega
     have:0<10^(n-2):=Nat.pow_pos (by omega);omega
    have ds:=(Zb6 0 false hq1 1 (f-(((n-1:Nat):Int)-1))).1;rw[Nat.pow_one,show q/10*10=q by omega,show f-(((n-1:Nat):Int)-1)-((1:Nat):Int)=f-((n:Int)-1) by omega] at ds;unfold loB at f2 hlo;rw[f1,← ds] at f2;rw[← hq,f2] at hlo;cases hlo
  rw[← hq] at q1 q2;obtain⟨t1,t2⟩:=Zh5 (c:=l-n) b.1 (by omega) q1 q2 h10;rw[t1,t2,show j+((n+(l-n):Nat):Int)-1=f by omega]
 ·rename_i hk;have hhi:hiB false (mag p) (sg p).toNat (xp p) (f) n=true:=by
   rcases c with c | c
   ·cases hh:hiB false (mag p) (sg p).toNat (xp p) (f) n with
    | true=>rfl
    | false=>exact absurd (Zh3 c hh) hk
   ·exact c
  have h10:1<n→(q+1) % 10≠0:=by
   intro h1 c0;obtain⟨f1,_,f2⟩:=fewer (by omega);rw[← hq] at f1;have ds:=(Zb6 0 false (show q/10+1≠0 by omega) 1 (f-(((n-1:Nat):Int)-1))).1;rw[Nat.pow_one,show (q/10+1)*10=q+1 by omega,show f-(((n-1:Nat):Int)-1)-((1:Nat):Int)=f-((n:Int)-1) by omega] at ds;unfold hiB at f2 hhi;rw[f1,← ds] at f2;rw[← hq,f2] at hhi;cases hhi
  rw[← hq] at q1 q2;by_cases hc:q+1=10^n
  ·rw[if_pos hc];have h1:n=1:=by
    rcases Nat.lt_or_ge 1 n with c0 | c0
    ·refine absurd ?_ (h10 c0);rw[hc,show n=n-1+1 by omega,Nat.pow_succ];omega
    ·omega
   rw[hc,h1,show 10^1*10^(l-1)=1*10^l by rw[← Nat.pow_add,Nat.one_mul];congr 1;omega];obtain⟨t1,t2⟩:=Zh5 (n:=1) (c:=l) (v:=1) (by omega) (by omega) (by decide) (by decide) (by decide);rw[t1,t2,show j+((1+l:Nat):Int)-1=f+1 by omega]
  ·rw[if_neg hc];have h10':(q+1) % 10≠0:=by
    by_cases h1:n=1
    ·rw[h1] at q1 q2 hc;simp at q1 q2 hc;omega
    ·exact h10 (by omega)
   obtain⟨t1,t2⟩:=Zh5 (c:=l-n) b.1 (by omega) (show 10^(n-1)≤q+1 by omega) (by omega) h10';rw[t1,t2,show j+((n+(l-n):Nat):Int)-1=f by omega]
end Go.Rd
namespace Go.Proofs.YtgefjidphfdhdaaGreatDoor
open Go.Proofs.Tryz
open Go.KRun Go.Rd Go.RowKit
set_option maxRecDepth 100000
def pwV:List Value:=Lib.pow10Tab.map fun z=>Value.int .u64 z
def pwT:TypeId:=3*ZX+(1048576*20+2)
def knT (w:World):Prop:=∃ t z,w.heap[2]? =some (.cells pwV.toArray t z)
theorem ZiX {w:World}(h:knT w) {nm:String}(hn:prog.globalNamed nm=some 2):Lib.TabIs prog w nm .u64 Lib.pow10Tab:=by
 obtain⟨t,z,h⟩:=h;unfold Lib.TabIs World.var?;rw[hn];simp only[Option.bind_some];rw[h];rfl
def ZqO:List Value→List Int→Bool
 | [],[]=>true
 | .int .u64 a::r,b::q=>decide (a=b) && ZqO r q
 | _,_=>false
theorem ZiY:∀ {l:List Value}{q:List Int},ZqO l q=true→l=q.map fun z=>Value.int .u64 z
 | [],[],_=>rfl
 | .int .u64 a::r,b::q,h=>by
  unfold ZqO at h;rw[Xh,Xi] at h;rw[List.map_cons,h.1,ZiY h.2]
def isT:Option (List Value×TypeId)→Bool
 | some (cs,ty)=>Nat.beq ty pwT && ZqO cs Lib.pow10Tab
 | none=>false
def Z4R (h:Hp):Bool:=isT (h.blk? 0) || isT (h.blk? 1)
theorem Ztf {o:Option (List Value×TypeId)}(h:isT o=true):o=some (pwV,pwT):=by
 unfold isT at h;split at h
 ·rw[Xh] at h;rw[Xj h.1,ZiY h.2];rfl
 ·cases h
theorem Zfz (m:Mp):pwV.map (mv1 m)=pwV:=rfl
theorem Z1n {m:Mp}{B:Nat}{h:Hp}{w:World}(E:Emb m B h w) (ht:Z4R h=true):knT w:=by
 obtain⟨b,hb⟩:∃ b,h.blk? b=some (pwV,pwT):=by
  unfold Z4R at ht;rw[Bool.or_eq_true] at ht;rcases ht with ht | ht
  ·exact⟨0,Ztf ht⟩
  ·exact⟨1,Ztf ht⟩
 obtain⟨_,r,t,z,k2,k3⟩:=E.abs b _ hb (by kernel_rfl);have e1:nbA pwT=2:=by kernel_rfl
 have e2:lnA pwT=20:=by kernel_rfl
 simp only[Zfz,e1] at k2;simp only[Zfz,e2] at k3;have e3:pwV.length=20:=rfl;have hr:r=[]:=List.length_eq_zero_iff.1 (by omega);rw[hr,List.append_nil] at k2;exact⟨t,z,k2⟩
def ZbJ (f:Nat) (g:Ans):Prop:=∀ vals s v s' lg,g vals s=some (v,s',lg)→Zo lg→∀ w,knT w→Calls prog f vals.toArray w fun e w'=>e= .returned v∧zi w w'
def gT (g:Ans):Zba:=fun vals h s=>
 match Z4R h && vals.all (lt 0) with
 | true=>
  match g vals s with
  | some (v,s',lg)=>match lt 0 v with | true=>some (v,h,s',lg) | false=>none
  | none=>none
 | false=>none
theorem Zf0 {f:Nat}{g:Ans}(hg:ZbJ f g):ZJ f (gT g):=by
 intro vals h s v h' s' lg hr hl m B w E hv;unfold gT at hr;split at hr
 ·rename_i hc;rw[Xh] at hc;split at hr
  ·rename_i v1 s1 lg1 hgv;split at hr
   ·rename_i hv0;cases hr;have hst:∀ y∈vals,lt 0 y=true:=List.all_eq_true.1 hc.2;have e:vals.map (mv m)=vals:=(List.map_congr_left fun y hy=>Z2 (hst y hy)).trans (List.map_id' _);rw[e];refine (hg _ _ _ _ _ hgv hl w (Z1n E hc.1)).mono fun e w' he=> ?_;obtain⟨E',hb'⟩:=ZQ E he.2;exact⟨m,by rw[he.1,Z2 hv0],⟨Agree.refl _ _,E',hb',Nat.le_refl _,zh (Nat.zero_le _) hv0⟩⟩
   ·cases hr
  ·cases hr
 ·cases hr
def hT0:Hp:=⟨1,[(pwV,pwT)]⟩
theorem Ze8 {b:Nat}{x:List Value×TypeId}(h:hT0.blk? b=some x):x=(pwV,pwT):=by
 have hb0:b=0:=by have:b<1:=Hp.blk_lt h;omega
 subst hb0;exact (Option.some.inj h).symm
theorem Z74 {w:World}(hk:knT w) (m:Mp):nbA pwT<w.heap.size∧absR w (pwV.map (mv1 m)) pwT:=by
 obtain⟨t,z,h⟩:=hk;have e1:nbA pwT=2:=by kernel_rfl
 have e2:lnA pwT=20:=by kernel_rfl
 refine⟨by rw[e1];exact (Array.getElem?_eq_some_iff.1 h).1,[],t,z,?_,.inr ?_⟩
 ·rw[e1,Zfz,List.append_nil,h]
 ·rw[e2];rfl
theorem Ztg {w:World}(hk:knT w):Emb (fun b=>(b,0)) w.heap.size hT0 w where
 len:=rfl
 lies:=fun b x hb hx=>by rw[Ze8 hb,show Zai pwT=true from by kernel_rfl] at hx;cases hx
 low:=fun b x hb hx=>by rw[Ze8 hb,show ro pwT=true from by kernel_rfl] at hx;cases hx
 ros:=fun b x hb hx=>by rw[Ze8 hb,show Zai pwT=true from by kernel_rfl] at hx;cases hx
 inj:=fun b b' x x' hb _ hx=>by rw[Ze8 hb,show ro pwT=true from by kernel_rfl] at hx;cases hx
 wf:=fun b x hb v hv=>by
  rw[Ze8 hb] at hv;have:∀ v∈pwV,lt1 1 v=true:=List.all_eq_true.1 (by kernel_rfl);exact this v hv
 base:=Nat.le_refl _
 ice:=fun k h1 h2=>by omega
 abs:=fun b x hb _=>by
  rw[Ze8 hb];exact Z74 hk _
theorem Zbw {T:Tab}(hT:TabOk T) {n f:Nat}{vals:List Value}{s:List Dec}{v:Value}{cs:Log}(hF:Zs (ZE T hT0 n f vals s) v cs) (hcs:Zo cs) (hvals:(vals.all (lt 0))=true) (hv:lt 0 v=true) {w:World}(hk:knT w):
  Calls T.P f vals.toArray w fun e w'=>e= .returned v∧zi w w':=ZfY hT hF hcs hvals hv (Ztg hk)
theorem Znn:∀ {f u:Nat},u<10^(f+1)→Lib.decDigits u=Zbs (f+1) u
 | 0,u,h=>by
  have h10:u<10:=by simpa using h
  rw[Lib.decDigits_one h10];unfold Zbs;rw[if_pos h10];rfl
 | f+1,u,h=>by
  unfold Zbs;by_cases h10:u<10
  ·rw[if_pos h10,Lib.decDigits_one h10];rfl
  ·rw[if_neg h10,Lib.decDigits,dif_neg h10,Znn (f:=f) (by rw[Nat.pow_succ] at h;omega)];rfl
theorem Zh6 {u:Nat}(h:u<18446744073709551616):Lib.decDigits u=dcL u:=Znn (f:=19) (ZmJ h)
theorem ZqP {n:Int}(h:n.natAbs<18446744073709551616):Lib.itoa n=Za7 n:=by
 unfold Lib.itoa Za7;split
 ·rw[Zh6 h]
 ·rw[show n.toNat=n.natAbs by omega,Zh6 h]
theorem ZcC {w w':World}(h:Below w.heap.size w w'):zi w w':=⟨h,fun _ _ _=>trivial⟩
theorem ZcT (w:World) (k:Nat) (os:Array Obj):Below w.heap.size w (Go.Sort.grow (w.drewN k) os):=by
 refine⟨rfl,rfl,rfl,?_,fun j hj=> ?_⟩
 ·show w.heap.size≤(w.heap++os).size;rw[Array.size_append];omega
 ·show (w.heap++os)[j]? =w.heap[j]?;rw[Array.getElem?_append_left hj]
theorem ZjV (n:Int) (h:n.natAbs≤2000000) (w:World) (hk:knT w):Calls prog 46 #[.int .i64 n] w fun e w'=>e= .returned (bR (Za7 n))∧zi w w':=by
 refine (Any.strconv_Itoa Zfq n (by omega) (by omega) w (ZiX hk (by kernel_rfl))).mono fun e w' he=> ?_;obtain⟨he,k,os,rfl⟩:=he;refine⟨?_,ZcC (ZcT w k os)⟩;rw[he,ZqP (by omega)];rfl
def Z4S:Ans:=fun vals s=>
 match vals with
 | [.int .i64 n]=>some (bR (Za7 n),s,[(decide (n.natAbs≤2000000),true)])
 | _=>none
theorem Zw3:ZbJ 46 Z4S:=by
 intro vals s v s' lg h hl w hk;unfold Z4S at h;split at h
 ·cases h;exact ZjV _ (Xc (hl _ Xf)) w hk
 ·cases h
end Go.Proofs.YtgefjidphfdhdaaGreatDoor
namespace Go.Proofs.YtgefjidphfdhdaaGreatDoor
open Go.Proofs.Tryz
open Go.KRun Go.Nt Go.Rd
set_option maxRecDepth 100000
theorem ZqQ (c:Int) (L:List UInt8) (n:Nat) (x:Lf) (h:∃ (l:List UInt8) (g:Nat→Value),x.1=trF l c++tl 18 g∧x.2.1=⟨0,[]⟩∧trC c l=trC c L∧l.length≤100000∧n=l.length):Runs (Ze prog Zi Zn true) (Zyn f85) x fun e y=>match e with | none=>∃ n',n'<n∧∃ (l:List UInt8) (g:Nat→Value),y.1=trF l c++tl 18 g∧y.2.1=⟨0,[]⟩∧trC c l=trC c L∧l.length≤100000∧n'=l.length | some none=>False | some (some id')=>id'=0∧∃ g:Nat→Value,y.1=trF (trC c L) c++tl 18 g∧y.2.1=⟨0,[]⟩:=by
 obtain⟨l,g,e1,e2,h1,h3,h2⟩:=h;obtain⟨t,hh,s⟩:=x;have e1:t=_:=e1;have e2:hh=_:=e2;subst e1 e2;have T:=Zd Zh;by_cases hn:l=[]
 ·subst hn;refine (Zc T (ZsQ [] c g) (Zy (by decide))).mono fun e z he=> ?_;obtain⟨rfl,⟨g',z1⟩,z2⟩:=he;have:trC c L=[]:=h1.symm;rw[this];exact⟨rfl,g',z1,z2⟩
 ·obtain⟨l',x,hl⟩:∃ l' x,l=l'++[x]:=⟨l.dropLast,l.getLast hn,(List.dropLast_concat_getLast hn).symm⟩;have hlen:l.length=l'.length+1:=by rw[hl,List.length_append];rfl
  have em:lm1 l=(l'.length:Nat):=by unfold lm1;rw[Zv (by omega) (by omega)];omega
  have eb:byR l (lm1 l)=lq8 x:=by
   unfold byR lq8;rw[em,Xg,hl];simp [List.getD]
  have et:l.take (lm1 l).toNat=l':=by
   rw[em,Xg,hl];exact List.take_left' rfl
  have k1:decide (0≤lm1 l∧(lm1 l).toNat<l.length)=true:=Xa (by omega);have k2:decide (((l.length:Nat):Int)>0)=true:=Xa (by omega);by_cases hx:lq8 x=c
  ·have hg:=Z0U l c g;rw[et] at hg;refine (Zc T hg (Za (Xa (by omega)) (Za (by rw[eb];simpa using hx) (Za k1 (Zy k2))))).mono fun e z he=> ?_;obtain⟨rfl,⟨g',z1⟩,z2⟩:=he;refine⟨l'.length,by omega,l',g',z1,z2,?_,by omega,rfl⟩;rw[← h1,hl,Zfx,if_pos hx]
  ·refine (Zc T (ZsP l c g) (Za (by rw[eb];simpa using hx) (Za k1 (Zy k2)))).mono fun e z he=> ?_;obtain⟨rfl,⟨g',z1⟩,z2⟩:=he;have:trC c L=l:=by rw[← h1,hl,Zfx,if_neg hx]
   rw[this];exact⟨rfl,g',z1,z2⟩
theorem ZjW (c:Int) (l:List UInt8) (hl:l.length≤100000) (w:World):Calls prog 85 #[bR l,.int .u8 c] w fun r w'=>r= .returned (bR (trC c l))∧zi w w':=by
 have hT:=Zd Zh;refine ZZ (T:=Ze prog Zi Zn true) func85 ZmU (by rfl) (by rfl) ?_ w;refine Zz hT (ZsO l c) Zbu fun g=> ?_;refine Runs.seq (P1:=fun e y=>e=none∧∃ g:Nat→Value,y.1=trF (trC c l) c++tl 18 g∧y.2.1=⟨0,[]⟩) ?_ ?_ (fun e y he=>by cases he.1)
 ·refine (Runs.forLoop (R:=fun _=>False) (P:=fun y=>∃ g:Nat→Value,y.1=trF (trC c l) c++tl 18 g∧y.2.1=⟨0,[]⟩) (fun n x=>∃ (l':List UInt8) (g:Nat→Value),x.1=trF l' c++tl 18 g∧x.2.1=⟨0,[]⟩∧trC c l'=trC c l∧l'.length≤100000∧n=l'.length) (ZqQ c l) (n:=l.length) ⟨l,g,rfl,rfl,rfl,hl,rfl⟩).mono fun e z hz=> ?_
  match e,hz with
  | none,hz=>exact⟨rfl,hz⟩
 ·intro y he;obtain⟨_,g',e1,e2⟩:=he;obtain⟨t,hh,s⟩:=y;have e1:t=_:=e1;have e2:hh=_:=e2;subst e1 e2;refine (Zc hT (ZsR (trC c l) c g') Zbu).mono fun e z hz=> ?_;obtain⟨rfl,⟨g2,z1⟩,z2⟩:=hz;exact⟨.inr rfl,by rw[z1,z2];rfl⟩
def Z4T:Ans:=fun vals s=>
 match vals with
 | [.string b,.int .u8 c]=>some (bR (trC c b.data.toList),s,[(decide (b.data.toList.length≤100000),true)])
 | _=>none
theorem Zw4:ZC 85 Z4T:=by
 intro vals s v s' lg h hl w;unfold Z4T at h;split at h
 ·cases h;exact ZjW _ _ (Xc (hl _ Xf)) w
 ·cases h
def Zno:Con:=alt 85 Z4T Zn
theorem Zdo:ConOk Zno:=Zr func85 rfl Zw4 Zh
theorem Z4U (l:List UInt8):Zs (Zf (Ze prog Zi Zno true) 100 42 [bR l,bR [48]] [sam true]) (bR l) [Zaa l [] true]:=by and_intros<;>kernel_rfl
theorem Z4V (l:List UInt8):Zs (Zf (Ze prog Zi Zno true) 100 42 [bR l,bR [48]] [sam false]) (bR (trC 48 l)) [(decide (l.length≤100000),true),(true,true),(true,true),Zaa l [] false]:=by and_intros<;>kernel_rfl
theorem Z4W (l:List UInt8):Zs (Zf (Ze prog Zi Zno true) 100 42 [bR l,bR [57]] [sam true]) (bR l) [Zaa l [] true]:=by and_intros<;>kernel_rfl
theorem Z4X (l:List UInt8):Zs (Zf (Ze prog Zi Zno true) 100 42 [bR l,bR [57]] [sam false]) (bR (trC 57 l)) [(decide (l.length≤100000),true),(true,true),(true,true),Zaa l [] false]:=by and_intros<;>kernel_rfl
def Z1o:Ans:=fun vals s=>
 match vals with
 | [.string b,.string ⟨⟨[c]⟩⟩]=>some (bR (trC (lq8 c) b.data.toList),s,[(decide (c=48∨c=57),true),(decide (b.data.toList.length≤100000),true)])
 | _=>none
theorem Zh7:ZC 42 Z1o:=by
 intro vals s v s' lg h hl w;unfold Z1o at h;split at h
 ·rename_i b c;cases h;have hc:=Xc (hl _ Xe);have h2:=hl _ (Xd _ Xf);by_cases hn:b.data.toList=[]
  ·have hb:b=⟨⟨[]⟩⟩:=by
    apply ByteArray.ext;apply Array.ext';exact hn
   subst hb;rcases hc with rfl | rfl
   ·exact Zb (Zd Zdo) (Z4U []) (Zy (Z9 (Xa rfl))) (by rfl) (by rfl) w
   ·exact Zb (Zd Zdo) (Z4W []) (Zy (Z9 (Xa rfl))) (by rfl) (by rfl) w
  ·rcases hc with rfl | rfl
   ·exact Zb (Zd Zdo) (Z4V b.data.toList) (Za h2 (Za rfl (Za rfl (Zy (Z9 (Xb hn)))))) (by rfl) (by rfl) w
   ·exact Zb (Zd Zdo) (Z4X b.data.toList) (Za h2 (Za rfl (Za rfl (Zy (Z9 (Xb hn)))))) (by rfl) (by rfl) w
 ·cases h
theorem Zw5 (c:UInt8) (n:Nat):Lib.repeatL [c] n=List.replicate n c:=by
 have:=Lib.repeatL_replicate c 1 n;rw[Nat.mul_one] at this;exact this
def Z3h:Ans:=fun vals s=>
 match vals with
 | [.string ⟨⟨[c]⟩⟩,.int .i64 n]=>some (bR (List.replicate n.toNat c),s,[(decide (0≤n∧n≤100000),true)])
 | _=>none
theorem Znp:ZC 72 Z3h:=by
 intro vals s v s' lg h hl w;unfold Z3h at h;split at h
 ·rename_i c n;cases h;obtain⟨h1,h2⟩:=Xc (hl _ Xf);obtain⟨k,rfl⟩:∃ k:Nat,n=k:=⟨n.toNat,by omega⟩;refine (Any.strings_Repeat Zwe ZcA ⟨⟨[c]⟩⟩ k w (by omega) (by show 1*k≤_;omega)).mono fun e w' he=> ?_;refine⟨?_,ZcC he.2⟩;rw[he.1,Zw5];rfl
 ·cases h
theorem Z1p:∀ l r:List UInt8,Lib.compareBytes l r=cmS l r
 | [],[]=>rfl
 | [],_::_=>rfl
 | _::_,[]=>rfl
 | a::l,b::r=>by
  unfold Lib.compareBytes cmS;have e1:(a<b)=(lq8 a<lq8 b):=by
   unfold lq8;rw[UInt8.lt_iff_toNat_lt];apply propext;omega
  have e2:(b<a)=(lq8 b<lq8 a):=by
   unfold lq8;rw[UInt8.lt_iff_toNat_lt];apply propext;omega
  by_cases h1:a<b
  ·rw[if_pos h1,if_pos (e1.mp h1)]
  ·rw[if_neg h1,if_neg (fun c=>h1 (e1.mpr c))];by_cases h2:b<a
   ·rw[if_pos h2,if_pos (e2.mp h2)]
   ·rw[if_neg h2,if_neg (fun c=>h2 (e2.mpr c)),Z1p l r]
def Z4Y:Ans:=fun vals s=>
 match vals with
 | [.string a,.string b]=>some (.int .i64 (cmS a.data.toList b.data.toList),s,[])
 | _=>none
theorem Zh8 (w:World):zi w w:=⟨Go.RowKit.Below.refl _ _,fun k h1 h2=>by omega⟩
theorem Zw6:ZC 125 Z4Y:=by
 intro vals s v s' lg h hl w;unfold Z4Y at h;split at h
 ·rename_i a b;cases h;refine (Any.strings_Compare Zwd a b w).mono fun e w' he=> ?_;obtain⟨he,rfl⟩:=he;exact⟨by rw[he,Z1p],Zh8 _⟩
 ·cases h
end Go.Proofs.YtgefjidphfdhdaaGreatDoor
namespace Go.Proofs.YtgefjidphfdhdaaGreatDoor
open Go.Proofs.Tryz
open Go.IntKind
open Go.KRun Go.Pt
set_option maxRecDepth 100000
def gU (k:Int→Value):Ans:=fun vals s=>
 match vals with
 | [.int .u64 p]=>some (k p,s,[(decide (U p),true)])
 | _=>none
theorem ZqR {f:Nat}{k:Int→Value}(hk:∀ p:Int,U p→∀ w,Calls prog f #[.int .u64 p] w fun e w'=>e= .returned (k p)∧zi w w'):ZC f (gU k):=by
 intro vals s v s' lg h hl w;unfold gU at h;split at h
 ·cases h;exact hk _ (Xc (hl _ Xf)) w
 ·cases h
theorem ZqS (p:Int):Zs (Zf (Ze prog Zi Zn true) 300 114 [.int .u64 p] []) (.int .u64 (Zu8 p 9223372036854775808)) []:=by and_intros<;>kernel_rfl
theorem Z1q:ZC 114 (gU fun p=> .int .u64 (mag p)):=ZqR fun p hp w=>by
 have:=Zb (Zd Zh) (ZqS p) (fun x hx=>by cases hx) (by rfl) (by rfl) w;rw[Zge hp] at this;exact this
def ZgY:Con:=alt 114 (gU fun p=> .int .u64 (mag p)) Zn
theorem ZbP:ConOk ZgY:=Zr func114 rfl Z1q Zh
def exM (p:Int):Int:=i64.wrap ((mag p).fdiv (2^min (52:Int).toNat 64))
theorem Zth (p:Int):exM p=ex p:=by
 have e:((2:Int)^min (52:Int).toNat 64)=4503599627370496:=by rfl
 unfold exM;rw[e,Int.fdiv_eq_ediv_of_nonneg _ (by omega),Zsu];have:=Zhh p;exact Za2 ⟨by omega,by omega⟩
def frM (p:Int):Int:=Ziq p 4503599627370495
def lX (p:Int) (l:Log):Log:=(decide ((52:Int)<0),false)::(decide (U p),true)::l
theorem Z4Z {p:Int}(hp:U p):Zo (lX p []):=Za rfl (Zy (Xa hp))
def lQ (p:Int):Bool:=Ziq (frM p) 2251799813685248 !=0
theorem Znq (p:Int) (d:Bool):Zs (Zf (Ze prog Zi ZgY true) 300 58 [.int .u64 p] [cmp true,cmp d]) (.int .i64 (match d with | true=>0 | false=>1)) ((frM p==0,d)::(exM p==0,true)::lX p []):=by
 cases d<;>exact by and_intros<;>kernel_rfl
theorem Zh9 (p:Int):Zs (Zf (Ze prog Zi ZgY true) 300 58 [.int .u64 p] [cmp false,cmp true,cmp true]) (.int .i64 3) ((frM p==0,true)::(exM p==2047,true)::(exM p==0,false)::lX p []):=by and_intros<;>kernel_rfl
theorem Znr (p:Int) (d:Bool):Zs (Zf (Ze prog Zi ZgY true) 300 58 [.int .u64 p] [cmp false,cmp true,cmp false,cmp d]) (.int .i64 (match d with | true=>4 | false=>5)) ((lQ p,d)::(frM p==0,false)::(exM p==2047,true)::(exM p==0,false)::lX p []):=by
 cases d<;>exact by and_intros<;>kernel_rfl
theorem Zns (p:Int):Zs (Zf (Ze prog Zi ZgY true) 300 58 [.int .u64 p] [cmp false,cmp false]) (.int .i64 2) ((exM p==2047,false)::(exM p==0,false)::lX p []):=by and_intros<;>kernel_rfl
theorem Znt {p:Int}(hp:U p):frM p=fr p:=Zl9 hp
theorem Z5a {p:Int}(hp:U p):lQ p=decide (2251799813685248≤fr p):=by
 have:=ZdD p;unfold lQ;rw[Znt hp,ZjE ⟨by omega,by omega⟩];by_cases h:2251799813685248≤fr p
 ·rw[Xa h,show fr p/2251799813685248=1 from by omega];rfl
 ·rw[Xb h,show fr p/2251799813685248=0 from by omega];rfl
theorem Zti:ZC 58 (gU fun p=> .int .i64 (cl p)):=ZqR fun p hp w=>by
 have hl:=Z4Z hp;have ee:=Zth p;have ef:=Znt hp;unfold cl;by_cases h0:ex p=0
 ·rw[if_pos h0];have:=Zb (Zd ZbP) (Znq p (frM p==0)) (Za rfl (Za (by rw[ee];simp [h0]) hl)) (by rfl) (by cases (frM p==0)<;>rfl) w;rw[ef] at this;by_cases h1:fr p=0
  ·rw[if_pos h1];rw[show (fr p==0)=true from by simp [h1]] at this;exact this
  ·rw[if_neg h1];rw[show (fr p==0)=false from by simp [h1]] at this;exact this
 ·rw[if_neg h0];by_cases h2:ex p=2047
  ·rw[if_pos h2];by_cases h1:fr p=0
   ·rw[if_pos h1];exact Zb (Zd ZbP) (Zh9 p) (Za (by rw[ef];simp [h1]) (Za (by rw[ee];simp [h2]) (Za (by rw[ee];simp [h0]) hl))) (by rfl) (by rfl) w
   ·rw[if_neg h1];have:=Zb (Zd ZbP) (Znr p (lQ p)) (Za rfl (Za (by rw[ef];simp [h1]) (Za (by rw[ee];simp [h2]) (Za (by rw[ee];simp [h0]) hl)))) (by rfl) (by cases (lQ p)<;>rfl) w;rw[Z5a hp] at this;by_cases h3:2251799813685248≤fr p
    ·rw[if_pos h3];rw[Xa h3] at this;exact this
    ·rw[if_neg h3];rw[Xb h3] at this;exact this
  ·rw[if_neg h2];exact Zb (Zd ZbP) (Zns p) (Za (by rw[ee];simp [h2]) (Za (by rw[ee];simp [h0]) hl)) (by rfl) (by rfl) w
def Zih:Con:=alt 58 (gU fun p=> .int .i64 (cl p)) ZgY
theorem Zc2:ConOk Zih:=Zr func58 rfl Zti ZbP
def vP (m:Bool) (c e s:Int):Value:= .agg #[.bool m,.int .i64 c,.int .i64 e,.int .u64 s]
def vT (p:Int):Value:=vP (sgn p) (cl p) (xp p) (sg p)
def lS (p:Int) (d:Bool):Bool×Bool:=(Ziq p 9223372036854775808 !=0,d)
def lU (p:Int):Bool×Bool:=(decide (U p),true)
theorem ZhA (p:Int) (d:Bool):Zs (Zf (Ze prog Zi Zih true) 300 20 [.int .u64 p] [cmp d,cmp true]) (vP d (cl p) (-1074) (frM p)) [(cl p==0,true),lU p,lS p d]:=by and_intros<;>kernel_rfl
theorem Znu (p:Int) (d:Bool):Zs (Zf (Ze prog Zi Zih true) 300 20 [.int .u64 p] [cmp d,cmp false,cmp true]) (vP d (cl p) (-1074) (frM p)) [(cl p==1,true),(cl p==0,false),lU p,lS p d]:=by and_intros<;>kernel_rfl
theorem ZjX (p:Int) (d:Bool):Zs (Zf (Ze prog Zi Zih true) 300 20 [.int .u64 p] [cmp d,cmp false,cmp false,cmp true]) (vP d (cl p) (i64.wrap (exM p-1075)) (bOr (frM p) 4503599627370496)) [(decide ((52:Int)<0),false),lU p,(cl p==2,true),(cl p==1,false),(cl p==0,false),lU p,lS p d]:=by and_intros<;>kernel_rfl
theorem ZjY (p:Int) (d:Bool):Zs (Zf (Ze prog Zi Zih true) 300 20 [.int .u64 p] [cmp d,cmp false,cmp false,cmp false]) (vP d (cl p) 0 (frM p)) [(cl p==2,false),(cl p==1,false),(cl p==0,false),lU p,lS p d]:=by and_intros<;>kernel_rfl
theorem Zw7 {p:Int}(hp:U p):(Ziq p 9223372036854775808 !=0)=sgn p:=by
 rw[ZlA hp];unfold sgn;unfold U at hp;by_cases h:9223372036854775808≤p
 ·rw[Xa h,show p/9223372036854775808=1 from by omega];rfl
 ·rw[Xb h,show p/9223372036854775808=0 from by omega];rfl
theorem Zdp (p:Int):(ex p=0∧(cl p=0∨cl p=1))∨(ex p=2047∧3≤cl p)∨(ex p≠0∧ex p≠2047∧cl p=2):=by
 unfold cl;split
 ·split<;>omega
 ·split
  ·split
   ·omega
   ·split<;>omega
  ·omega
theorem Zw8 {p:Int}:bOr (fr p) 4503599627370496=fr p+4503599627370496:=by
 have:=ZdD p;rw[or_low 52 (z:=1) (by omega) (by rfl) this.1 (show fr p<2^52 from this.2) (by omega)];omega
theorem ZjZ (p:Int) (hp:U p) (w:World):Calls prog 20 #[.int .u64 p] w fun e w'=>e= .returned (vT p)∧zi w w':=by
 have hu:decide (U p)=true:=Xa hp;have hs:=Zw7 hp;have hf:=Znt hp;have he:=Zth p;have hx:=Zhh p;unfold vT xp sg;rcases Zdp p with ⟨h1,h2⟩ | ⟨h1,h2⟩ | ⟨h1,h2,h3⟩
 ·rw[if_pos h1,if_pos h1];rcases h2 with h2 | h2
  ·have:=Zb (Zd Zc2) (ZhA p (sgn p)) (Za (by simp [h2]) (Za hu (Zy hs))) (by rfl) (by rfl) w;rw[hf] at this;exact this
  ·have:=Zb (Zd Zc2) (Znu p (sgn p)) (Za (by simp [h2]) (Za (by simp [h2]) (Za hu (Zy hs)))) (by rfl) (by rfl) w;rw[hf] at this;exact this
 ·have h0:¬ ex p=0:=by omega
  simp only[if_neg h0,if_pos h1];have h3:¬ cl p=0:=by omega
  have h4:¬ cl p=1:=by omega
  have h5:¬ cl p=2:=by omega
  have:=Zb (Zd Zc2) (ZjY p (sgn p)) (Za (by simp [h5]) (Za (by simp [h4]) (Za (by simp [h3]) (Za hu (Zy hs))))) (by rfl) (by rfl) w;rw[hf] at this;exact this
 ·rw[if_neg h1,if_neg h1,if_neg h2,if_neg h2];have:=Zb (Zd Zc2) (ZjX p (sgn p)) (Za rfl (Za hu (Za (by simp [h3]) (Za (by simp [h3]) (Za (by simp [h3]) (Za hu (Zy hs))))))) (by rfl) (by rfl) w;rw[hf,he,Za2 ⟨by omega,by omega⟩,Zw8] at this;exact this
end Go.Proofs.YtgefjidphfdhdaaGreatDoor
