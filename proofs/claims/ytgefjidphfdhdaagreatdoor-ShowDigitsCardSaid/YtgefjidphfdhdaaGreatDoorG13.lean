/-
  NumRf, NumRg, NumRk, NumRm, RpG, TxF, UuB, TxG
-/
import Derived.Test.YtgefjidphfdhdaaGreatDoorG12
import Derived.Lib.Bytealg
import Derived.Laws.RangeAny
namespace Go.Rd
open Go.Rn
def chD (d:Nat):UInt8:=UInt8.ofNat (48+d)
def Zbj:Nat→Nat→List UInt8
 | 0,_=>[]
 | f+1,n=>if n<10 then [chD n] else Zbj f (n/10)++[chD (n % 10)]
def dcL (n:Nat):List UInt8:=Zbj 20 n
theorem ZdJ {d:Nat}(h:d<10):lq8 (chD d)=((48+d:Nat):Int):=by
 unfold lq8 chD;rw[UInt8.toNat_ofNat'];omega
theorem Zi2 {d:Nat}(h:d<10) (b:Int):Ziz (lq8 (chD d)) b=(d:Int):=by
 rw[ZdJ h];unfold Ziz;rw[if_pos (by omega)];omega
theorem ZqO (f n:Nat) (b:Int):ZcX b (Zbj f n)=true:=by
 induction f generalizing n with
 | zero=>rfl
 | succ f ih=>
  unfold Zbj;split
  ·rename_i h;unfold ZcX;rw[List.all_cons,Zi2 h,Xa (by omega)];rfl
  ·unfold ZcX;rw[List.all_append];have:=ih (n/10);unfold ZcX at this;rw[this,List.all_cons,Zi2 (show n % 10<10 by omega),Xa (by omega)];rfl
theorem ZqP {f n:Nat}(h:n<10^f):nmB 10 (Zbj f n)=n:=by
 induction f generalizing n with
 | zero=>
  have:n=0:=by simpa using h
  rw[this];rfl
 | succ f ih=>
  unfold Zbj;split
  ·rename_i h1;show (0*(10:Int).toNat+(Ziz (lq8 (chD n)) 10).toNat)=n;rw[Zi2 h1];omega
  ·rw[Zi0,ih (by rw[Nat.pow_succ] at h;omega),Zi2 (show n % 10<10 by omega),show (10:Int).toNat=10 from rfl];omega
theorem Zi3 (f n:Nat):(Zbj f n).length≤f:=by
 induction f generalizing n with
 | zero=>exact Nat.le_refl _
 | succ f ih=>
  unfold Zbj;split
  ·rw[List.length_singleton];omega
  ·rw[List.length_append,List.length_singleton];have:=ih (n/10);omega
theorem ZmF {n:Nat}(h:n<18446744073709551616):n<10^20:=Nat.lt_trans h (by decide)
theorem Z69 (b:Int):Ziz 46 b= -1:=by
 unfold Ziz;rw[if_neg (by omega),if_neg (by omega)]
theorem Z4s {b:Int}{A:List UInt8}(h:ZcX b A=true) (p:Bool) (r:List UInt8):sc1 b p (A++r)=(A++(sc1 b p r).1,(if p=true then A.length else 0)+(sc1 b p r).2.1,(sc1 b p r).2.2):=by
 induction A with
 | nil=>simp
 | cons c A ih=>
  unfold ZcX at h ih;rw[List.all_cons,Xh] at h;have h1:=Xc h.1;have h46:lq8 c≠46:=fun h'=>by rw[h',Z69] at h1;omega
  rw[List.cons_append,sc1,if_neg (fun h'=>h46 h'.1),if_pos h1,ih h.2];cases p<;>simp<;>omega
theorem Zgk {c:UInt8}(h:0≤Ziz (lq8 c) 10):48≤lq8 c∧lq8 c≤57:=by
 unfold Ziz at h;split at h
 ·assumption
 ·rw[if_neg (by omega)] at h;omega
def Zca (x:Int):List UInt8:=if x<0 then 45::dcL x.natAbs else dcL x.natAbs
def trR (l:List UInt8):List UInt8:=(l.reverse.dropWhile fun c=>lq8 c==48).reverse
theorem Zhi:trR []=[]:=rfl
theorem ZaY (l:List UInt8) (c:UInt8):trR (l++[c])=if lq8 c=48 then trR l else l++[c]:=by
 unfold trR;rw[List.reverse_append,List.reverse_singleton,List.singleton_append,List.dropWhile_cons];by_cases h:lq8 c=48
 ·rw[if_pos (by simpa using h),if_pos h]
 ·rw[if_neg (by simpa using h),if_neg h,List.reverse_cons,List.reverse_reverse]
theorem Zi4 {P:List UInt8→Prop}(h0:P []) (h1:∀ l c,P l→P (l++[c])) (l:List UInt8):P l:=by
 have key:∀ k (l:List UInt8),l.length=k→P l:=by
  intro k
  induction k with
  | zero=>intro l hl;rw[List.eq_nil_of_length_eq_zero hl];exact h0
  | succ k ih=>
   intro l hl;have hne:l≠[]:=fun h=>by rw[h] at hl;cases hl
   rw[← List.dropLast_concat_getLast hne];exact h1 _ _ (ih _ (by rw[List.length_dropLast];omega))
 exact key _ l rfl
theorem ZmG (l:List UInt8):(trR l).length≤l.length:=by
 unfold trR;rw[List.length_reverse];have:=(List.dropWhile_sublist (l:=l.reverse) fun c=>lq8 c==48).length_le;rw[List.length_reverse] at this;exact this
theorem Zv1 {b:Int}(l:List UInt8):nmB b l=nmB b (trR l)*b.toNat^(l.length-(trR l).length):=by
 refine Zi4 (P:=fun l=>nmB b l=nmB b (trR l)*b.toNat^(l.length-(trR l).length)) ?_ ?_ l
 ·rfl
 ·intro l c ih;rw[ZaY];by_cases h:lq8 c=48
  ·have hd:(Ziz 48 b).toNat=0:=by unfold Ziz;rw[if_pos (by omega)];rfl
   have:=ZmG l;rw[if_pos h,Zi0,h,hd,Nat.add_zero,ih,Nat.mul_assoc,← Nat.pow_succ,List.length_append,List.length_singleton];congr 2;omega
  ·rw[if_neg h,Nat.sub_self,Nat.pow_zero,Nat.mul_one]
end Go.Rd
namespace Go.Rd
open Go.Rn Go.Nt
theorem Zcr (k:Nat):(4294967296:Nat)^k=2^(32*k):=by rw[Nat.pow_mul]
end Go.Rd
namespace Go.Proofs.YtgefjidphfdhdaaGreatDoor.Na
open Go.KRun Go.Nt Go.Rd
set_option maxRecDepth 100000
theorem Zbf (V:Nat):V<4294967296^(d32 V).length:=by
 have:=ZcU (b:=4294967296) (by omega) (d32 V) (ZgU V);rw[show vb 4294967296 (d32 V)=V from ZbH (by omega) V] at this;exact this
theorem Zv2 {V:Nat}(h:0<(d32 V).length):4294967296^((d32 V).length-1)≤V:=by
 rcases Nat.lt_or_ge V (4294967296^((d32 V).length-1)) with h1 | h1
 ·have:(d32 V).length≤(d32 V).length-1:=Zci (b:=4294967296) (by omega) _ _ h1;omega
 ·exact h1
theorem Zb3 {V:Nat}(h:V≠0):0<(d32 V).length:=(Zc6 (b:=4294967296) (by omega)).2 (by omega)
theorem ZmH {V:Nat}(h0:V≠0) (h:(d32 V).length≤8192):ZdS (d32 V)=((bitLen V:Nat):Int):=by
 have hp:=Zb3 h0;have hc:=Zco V;obtain⟨L,hL⟩:∃ L,L=d32 V:=⟨_,rfl⟩;have eV:vb 4294967296 L=V:=by rw[hL];exact ZbH (by omega) V
 rw[← hL] at hp hc h ⊢;have hb:ZN L=false:=by
  unfold ZN;rw[Xb (by omega),Bool.false_or];rcases hc.2 with h0 | h0
  ·omega
  ·rw[beq_eq_false_iff_ne.2 h0,Bool.and_false]
 have e1:ZdS L=32*((L.length-1:Nat):Int)+(bitLen (L.getD (L.length-1) 0).toNat:Nat):=by
  unfold ZdS;rw[hb,beq_eq_false_iff_ne.2 (show L.length≠0 by omega)];rfl
 have ht:=ZaD 4294967296 L (L.length-1);rw[show L.length-1+1=L.length by omega,List.take_length,eV] at ht;have lo:vb 4294967296 (L.take (L.length-1))<4294967296^(L.length-1):=by
  have h1:=ZcU (b:=4294967296) (by omega) (L.take (L.length-1)) (fun x hx=>hc.1 x (List.mem_of_mem_take hx));rw[List.length_take,Nat.min_eq_left (by omega)] at h1;exact h1
 have hpw:0<4294967296^(L.length-1):=Nat.pow_pos (by omega);have htop:(L.getD (L.length-1) 0).toNat≠0:=by
  have hlt:L.length-1<L.length:=by omega
  have hw:=hc.1 (L.getD (L.length-1) 0) (by simp [List.getD,List.getElem?_eq_getElem hlt]);rcases hc.2 with h1 | h1
  ·omega
  ·have:L.getD (L.length-1) 0≠0:=h1;omega
 have hdiv:V/2^(32*(L.length-1))=(L.getD (L.length-1) 0).toNat:=by
  rw[← Zcr,ht,Nat.add_comm,Nat.mul_add_div hpw,Nat.div_eq_of_lt lo,Nat.add_zero]
 have hs:=bitLen_shift V (32*(L.length-1)) (by rw[hdiv];exact htop);rw[hdiv] at hs;rw[e1,hs];omega
section
variable {H : Hp} {p q : Option Addr} {n c n' c' V W : Nat}
theorem Z6A (h:IsR H p n c V) (k:Nat):decide (Zg9 (Zj H p n) ((k:Nat):Int).toNat=dg (sM n (k:Nat)) ((V*2^k:Nat):Int))=true:=by
 refine Xa ?_;unfold Zg9 sM;rw[h.2.2.1,← h.2.2.2.1,Zgc,Xg,Int.natCast_mul,Go.Wd.cast_pow]
theorem Z4t (h:IsR H p n c V) (k:Nat):(ZN (Zj H p n) || decide (((k:Nat):Int)<0))=false:=by
 rw[h.good,Xb (by omega)];rfl
theorem Z6B (h:IsR H p n c V) (h0:V≠0) {k:Nat}(hk:k≤200000):decide (((k:Nat):Int)>262144-ZdS (Zj H p n))=false:=by
 have hn:=h.2.2.2.2;have hl:=h.2.2.2.1;rw[h.2.2.1,ZmH h0 (by omega)];have:bitLen V≤32*n:=Go.Rn.len_le (by rw[← Zcr];rw[hl];exact Zbf V);exact Xb (by omega)
theorem rNe (h:IsR H p n c V) (h0:V≠0):decide (n=0)=false:=by
 have:=Zb3 h0;have:=h.2.2.2.1;exact Xb (by omega)
end
theorem ZzW {V k n:Nat}(h:V<4294967296^n):V*2^k<4294967296^sM n (k:Nat):=by
 unfold sM;rw[Xg,Nat.add_comm (k/32),Zcr];rw[Zcr] at h;have h2:(2:Nat)^k<2^(32*(k/32+1)):=Nat.pow_lt_pow_right (by omega) (by omega);have:=Nat.mul_lt_mul'' h h2;rw[← Nat.pow_add] at this;rw[show 32*(n+1+k/32)=32*n+32*(k/32+1) by omega];exact this
theorem ZzX {S P:Nat}(hP:P≠0) (hS:(d32 P).length≤(d32 S).length):S/P<4294967296^((d32 S).length-(d32 P).length+1):=by
 have h1:=Zbf S;have h2:=Zv2 (Zb3 hP);have h3:=Zb3 hP;rw[Nat.div_lt_iff_lt_mul (by omega)];refine Nat.lt_of_lt_of_le h1 ?_;refine Nat.le_trans ?_ (Nat.mul_le_mul_left _ h2);rw[← Nat.pow_add];exact Nat.pow_le_pow_right (by omega) (by omega)
theorem ZzY {S P:Nat}(h:P≤S):(d32 P).length≤(d32 S).length:=Zci (b:=4294967296) (by omega) _ _ (Nat.lt_of_le_of_lt h (Zbf S))
theorem Zv3 (k:Nat):(10:Nat)^k<4294967296^(k/9+1):=by
 refine Nat.lt_of_le_of_lt (Nat.pow_le_pow_right (by omega) (show k≤9*(k/9+1) by omega)) ?_;rw[Nat.pow_mul];exact Nat.pow_lt_pow_left (by decide) (by omega)
end Go.Proofs.YtgefjidphfdhdaaGreatDoor.Na
namespace Go.Proofs.YtgefjidphfdhdaaGreatDoor.Na
open Go.Proofs.Tryz
open Go.KRun Go.Nt
set_option maxRecDepth 100000
def Z4u (a:Value) (la:List Value) (V:Nat) (y:Lf):Prop:=∃ (D:List Int) (r w:Value) (Y:List Value×TypeId) (g:Nat→Value),y.1=dF a r (.slice (some ⟨2,0,none⟩) D.length grown) w++tl 38 g∧y.2.1=hB2 (wB (D.map asc)) Y la∧D.length<100000∧(∀ x∈D,Dg 10 x)∧vb 10 D=V∧(Y.1.all still)=true
theorem Zv4 {o n c:Nat}{la:List Value}{N V:Nat}(hla:la.all still=true) (hN:N≤8192) (hV0:0<V) {e:Nat}(he:e=262144) (hV:V<2^e) (r:Nat) (y:Lf) (h:Z2s (sl 0 o n c) la N V r y):
  RunsW (Zm prog Zg ZaX ZeY) (dL f80) y fun e z=>match e with | none=>∃ r',r'<r∧Z2s (sl 0 o n c) la N V r' z | some none=>False | some (some id')=>id'=0∧Z4u (sl 0 o n c) la V z:=by
 obtain⟨k,D,W,Z,w,g,ht,hh,hD,hDg,hwz,hW,hlen,hv,hr,hk9⟩:=h;obtain⟨t,h',sc⟩:=y;simp only at ht hh;subst ht hh;have hWw:wds W:=fun x hx=>hwz x (List.mem_append_left _ hx);have hWl:W.length≤N:=by rw[← hlen,List.length_append];omega
 have hpos:=Ziw hWw hW;have hsm:ZE N=true:=Zk.2 (by unfold ZT;omega);by_cases h0:0<W.length
 ·have lc:decide (((W.length:Nat):Int)>0)=true:=Xa (by omega);have hR:=hpos.2 h0;have hk:k<9040:=Z4q (k:=k) (V:=V) (by
   have:=Nat.mul_le_mul_left (10^(9*k)) (show 1≤vb 4294967296 W by omega);omega) he hV
  obtain⟨q1,Z',q2,q3,q4,q5⟩:=ZqC hwz;have hp:vb 4294967296 W % 1000000000<4294967296:=by omega
  have l1:Z0 tU (wU (W++Z)) 0 W.length N=true:=zF hwz (by rw[List.length_append];omega) hWl hsm;have l2:Z0 tU (tpS (wU (W++Z)) W.length) 0 W.length N=true:=by
   rw[q2];exact zF q4 (by rw[q5,List.length_append];omega) hWl hsm
  have stS:∀ v∈(tpS (wU (W++Z)) W.length),still v=true:=by
   rw[q2];exact List.all_eq_true.1 (Za4 _)
  have ep:∀ (D:List Int) (j:Nat),apB (wB (D.map asc)) (tpP (wU (W++Z)) W.length) j=wB ((D++ld j (vb 4294967296 W % 1000000000)).map asc):=fun D j=>by rw[q1];exact Zmw hp D j
  have dec:vb 4294967296 W/1000000000<vb 4294967296 W:=Nat.div_lt_self hR (by omega);have next:∀ (D:List Int),D.length=9*k→vb 10 D+10^(9*k)*vb 4294967296 W=V→(∀ x∈D,Dg 10 x)→∀ (z:Lf) (w':Value),(∃ g,z.1=dF (sl 0 o n c) (sl 1 0 (trS (wU (W++Z)) W.length) N) (.slice (some ⟨2,0,none⟩) (D.length+9) grown) w'++tl 38 g)→z.2.1=⟨3,[(wB ((D++ld 9 (vb 4294967296 W % 1000000000)).map asc),tBy),(tpS (wU (W++Z)) W.length,tU),(la,tR)]⟩→∃ r',r'<r∧Z2s (sl 0 o n c) la N V r' z:=fun D hD hv hDg z w' hz1 hz2=>by
   obtain⟨g',hz1⟩:=hz1;refine⟨_,by rw[hr];exact dec,k+1,D++ld 9 (vb 4294967296 W % 1000000000),db 4294967296 (vb 4294967296 W/1000000000),Z',w',g',?_,?_,?_,?_,q4,?_,by rw[q5];exact hlen,?_,?_⟩
   ·rw[hz1,q3];unfold dS;rw[if_neg (by omega),List.length_append,Ziv]
   ·rw[hz2,q2];unfold dX;rw[if_neg (by omega)];rfl
   ·rw[List.length_append,Ziv,hD];omega
   ·intro x hx;rcases List.mem_append.1 hx with hx | hx
    ·exact hDg x hx
    ·exact ZzB _ _ x hx
   ·exact (ZfP (by omega) _).2
   ·rw[ZbH (by omega)];exact Zj5 hD hv
   ·exact⟨by rw[ZbH (by omega)],by omega⟩
  by_cases hk0:k=0
  ·have hDn:D=[]:=List.length_eq_zero_iff.1 (by omega);have ap:∀ (m j:Nat),m=j→m<1073741824→(apL [] (tpP (wU (W++Z)) W.length) m j).1=(apL [] (tpP (wU (W++Z)) W.length) m j).2:=fun m j hm hb=>by
    rw[q1];exact Zs3 hp [] (m:=m) (j:=j) (by simpa using hm) hb
   have e0:dS k D=Zs:=by unfold dS;rw[if_pos hk0]
   have e1:dX k D=[]:=by unfold dX;rw[if_pos hk0]
   rw[e0,e1];have stY:∀ v∈((apB [] (tpP (wU (W++Z)) W.length) 9,tBy):List Value×TypeId).1,still v=true:=by
    have:=ep [] 9;rw[show wB (List.map asc [])=[] from rfl] at this;simp only[this];exact List.all_eq_true.1 (ZeZ _)
   refine ((Zd (s0:=sc) Zge (ZzL W.length N (sl 0 o n c) w (wU (W++Z)) la g) (Za l2 (Za rfl (Za (ap 8 8 (by simp) (by omega)) (Za rfl (Za (ap 7 7 (by simp) (by omega)) (Za rfl (Za (ap 6 6 (by simp) (by omega)) (Za rfl (Za (ap 5 5 (by simp) (by omega)) (Za rfl (Za (ap 4 4 (by simp) (by omega)) (Za rfl (Za (ap 3 3 (by simp) (by omega)) (Za rfl (Za (ap 2 2 (by simp) (by omega)) (Za rfl (Za (ap 1 1 (by simp) (by omega)) (Za rfl (Za rfl (Za rfl (Za rfl (Za rfl (Za l1 (Za hla (Za rfl (ZB lc))))))))))))))))))))))))))).kept (k:=2) (b:=19) (base:=[(tpS (wU (W++Z)) W.length,tU),(la,tR)]) (y:=(apB [] (tpP (wU (W++Z)) W.length) 9,tBy)) (front':=dF (sl 0 o n c) (sl 1 0 (trS (wU (W++Z)) W.length) N) (.slice (some ⟨2,0,none⟩) 9 grown) (uu (pNx (tpP (wU (W++Z)) W.length) 9))) rfl (by kernel_rfl) (fun i x hi=>by
    have hi2:i<2:=Hp.blk_lt hi;have h01:i=0∨i=1:=by omega
    rcases h01 with rfl | rfl
    ·obtain rfl:=(Option.some.inj hi).symm;exact⟨rfl,List.all_eq_true.1 hla⟩
    ·obtain rfl:=(Option.some.inj hi).symm;exact⟨rfl,stS⟩) rfl (by omega) stY (by
    intro v hv;simp only[dF,List.mem_cons,List.not_mem_nil,or_false] at hv;rcases hv with rfl | rfl | rfl | rfl | rfl | rfl | rfl | rfl<;>rfl)).mono fun e z hz=> ?_
   obtain⟨rfl,hz1,hz2⟩:=hz;have e9:=ep [] 9;rw[show wB (List.map asc [])=[] from rfl] at e9;rw[e9] at hz2;refine next [] (by rw[hk0];rfl) (by rw[← hDn];exact hv) (fun x hx=>by cases hx) z (uu (pNx (tpP (wU (W++Z)) W.length) 9)) hz1 hz2
  ·have e0:dS k D= .slice (some ⟨2,0,none⟩) D.length grown:=by unfold dS;rw[if_neg hk0]
   have e1:dX k D=[(wB (D.map asc),tBy)]:=by unfold dX;rw[if_neg hk0]
   rw[e0,e1];have ap:∀ (m j:Nat),m=D.length+j→m<1073741824→(apL (wB (D.map asc)) (tpP (wU (W++Z)) W.length) m j).1=(apL (wB (D.map asc)) (tpP (wU (W++Z)) W.length) m j).2:=fun m j hm hb=>by
    rw[q1];exact Zs3 hp D hm hb
   have lX:(([(wB (D.map asc),tBy)]:List (List Value×TypeId)).all fun x=>x.1.all still)=true:=by
    rw[List.all_cons,ZeZ];rfl
   have stY:∀ v∈((apB (wB (D.map asc)) (tpP (wU (W++Z)) W.length) 9,tBy):List Value×TypeId).1,still v=true:=by
    simp only[ep D 9];exact List.all_eq_true.1 (ZeZ _)
   refine ((Zd (s0:=sc) Zge (ZzM W.length N D.length (sl 0 o n c) w (wB (D.map asc)) (wU (W++Z)) la g) (Za l2 (Za rfl (Za (ap (D.length+8) 8 rfl (by omega)) (Za rfl (Za (ap (D.length+7) 7 rfl (by omega)) (Za rfl (Za (ap (D.length+6) 6 rfl (by omega)) (Za rfl (Za (ap (D.length+5) 5 rfl (by omega)) (Za rfl (Za (ap (D.length+4) 4 rfl (by omega)) (Za rfl (Za (ap (D.length+3) 3 rfl (by omega)) (Za rfl (Za (ap (D.length+2) 2 rfl (by omega)) (Za rfl (Za (ap (D.length+1) 1 rfl (by omega)) (Za rfl (Za (ap D.length 0 rfl (by omega)) (Za rfl (Za rfl (Za rfl (Za l1 (Za hla (Za lX (ZB lc))))))))))))))))))))))))))).kept (k:=2) (b:=20) (base:=[(tpS (wU (W++Z)) W.length,tU),(la,tR)]) (y:=(apB (wB (D.map asc)) (tpP (wU (W++Z)) W.length) 9,tBy)) (front':=dF (sl 0 o n c) (sl 1 0 (trS (wU (W++Z)) W.length) N) (.slice (some ⟨2,0,none⟩) (D.length+9) grown) (uu (pNx (tpP (wU (W++Z)) W.length) 9))) rfl (by kernel_rfl) (fun i x hi=>by
    have hi2:i<2:=Hp.blk_lt hi;have h01:i=0∨i=1:=by omega
    rcases h01 with rfl | rfl
    ·obtain rfl:=(Option.some.inj hi).symm;exact⟨rfl,List.all_eq_true.1 hla⟩
    ·obtain rfl:=(Option.some.inj hi).symm;exact⟨rfl,stS⟩) rfl (by omega) stY (by
    intro v hv;simp only[dF,List.mem_cons,List.not_mem_nil,or_false] at hv;rcases hv with rfl | rfl | rfl | rfl | rfl | rfl | rfl | rfl<;>rfl)).mono fun e z hz=> ?_
   obtain⟨rfl,hz1,hz2⟩:=hz;rw[ep D 9] at hz2;exact next D hD hv hDg z _ hz1 hz2
 ·have hR:vb 4294967296 W=0:=by
   rcases Nat.eq_zero_or_pos (vb 4294967296 W) with h1 | h1
   ·exact h1
   ·exact absurd (hpos.1 h1) h0
  rw[hR,Nat.mul_zero,Nat.add_zero] at hv;have hk0:k≠0:=fun hk=>by
   have:D=[]:=List.length_eq_zero_iff.1 (by omega);rw[this] at hv;simp [vb] at hv;omega
  refine (Zd (s0:=sc) Zge (ZzN W.length N (sl 0 o n c) (dS k D) w _ g) (ZB (Xb (by omega)))).mono fun e z hz=> ?_;obtain⟨rfl,⟨g',hz1⟩,hz2⟩:=hz;have e0:dS k D= .slice (some ⟨2,0,none⟩) D.length grown:=by unfold dS;rw[if_neg hk0]
  have e1:dX k D=[(wB (D.map asc),tBy)]:=by unfold dX;rw[if_neg hk0]
  rw[e0] at hz1;rw[e1] at hz2;exact⟨rfl,D,_,w,(wU (W++Z),tU),g',hz1,hz2,by omega,hDg,hv,Za4 _⟩
theorem ZqQ {D:List Int}{V:Nat}(hV:0<V) (hD:∀ x∈D,Dg 10 x) (hv:vb 10 D=V):trL 48 ((D.map asc).reverse.map fun n=>UInt8.ofNat n.toNat)=zD V:=by
 have h1:=Zms hD;rw[hv] at h1;unfold zD Zs1;rw[if_neg (by omega),← h1];have key:∀ L:List Int,(∀ x∈L,Dg 10 x)→trL 48 ((L.map asc).map fun n=>UInt8.ofNat n.toNat)=(ZeX L).map fun x=>UInt8.ofNat (asc x).toNat:=by
  intro L
  induction L with
  | nil=>intro _;rfl
  | cons x L ih=>
   intro hL;have hx:=hL x Xe;have ih:=ih fun y hy=>hL y (Xd _ hy);have hx0:=hx.1;have hx1:x<10:=by have:=hx.2;omega
   have ev:(((UInt8.ofNat (asc x).toNat).toNat:Nat):Int)=48+x:=by
    unfold asc;simp;omega
   by_cases h0:x=0
   ·subst h0;unfold trL ZeX at*;rw[List.map_cons,List.map_cons,List.dropWhile_cons_of_pos (by rfl),List.dropWhile_cons_of_pos (by rfl)];exact ih
   ·unfold trL ZeX at*;rw[List.map_cons,List.map_cons,List.dropWhile_cons_of_neg (by rw[ev];simp;omega),List.dropWhile_cons_of_neg (by simpa using h0)];simp
 rw[← List.map_reverse];exact key D.reverse fun x hx=>hD x (List.mem_reverse.1 hx)
theorem Zgl:∀ L:List Int,Zbc (wB L)=some L
 | []=>rfl
 | x::L=>by
  show Zbc (ub x::wB L)=_;simp [Zbc,ub,Zgl L]
theorem Z4v {a r w:Value}{D:List Int}{Y:List Value×TypeId}{la:List Value}{V:Nat}(hla:la.all still=true) (hV:0<V) (hl:D.length<100000) (hD:∀ x∈D,Dg 10 x) (hv:vb 10 D=V) (hY:Y.1.all still=true) (g:Nat→Value) (sc:List Dec):
  RunsW (Zm prog Zg ZaX ZeY) (dE f80) (dF a r (.slice (some ⟨2,0,none⟩) D.length grown) w++tl 38 g,hB2 (wB (D.map asc)) Y la,sc) fun e z=>(e=none∨e=some none)∧zd prog f80 z.1 z.2.1=some (.tuple #[bS (zD V),.nilIface]):=by
 have l1:Zf5 ((wB (D.map asc)).reverse,tBy) 0 D.length ⟨⟨(D.map asc).reverse.map fun n=>UInt8.ofNat n.toNat⟩⟩=true:=by
  unfold Zf5;have e:(wB (D.map asc)).reverse=wB (D.map asc).reverse:=by simp [wB]
  have e2:((wB (D.map asc).reverse).drop 0).take D.length=wB (D.map asc).reverse:=by
   rw[List.drop_zero];exact List.take_of_length_le (by simp [wB])
  simp only[e,e2,Zgl];rw[show zE tBy=false from by kernel_rfl,Nat.ble_eq_true_of_le (by simp [wB])];simp
 refine (Zd (s0:=sc) Zge (ZzO D.length a r w ⟨⟨(D.map asc).reverse.map fun n=>UInt8.ofNat n.toNat⟩⟩ (wB (D.map asc)) Y la g) (Za rfl (Za l1 (Za hY (Za rfl (Za rfl (Za (by rw[Zgd,List.length_map];exact Nat.beq_refl _) (Za (Zsy _) (Za rfl (Za hla (ZB (Zk.2 (by omega))))))))))))).mono fun e z hz=> ?_;obtain⟨rfl,⟨g',hz1⟩,hz2⟩:=hz;refine⟨.inr rfl,?_⟩;have et:=ZqQ hV hD hv;have:bS (trL 48 (⟨⟨(D.map asc).reverse.map fun n=>UInt8.ofNat n.toNat⟩⟩:ByteArray).data.toList)=bS (zD V):=by rw[← et]
 rw[this] at hz1;rw[hz1,hz2];rfl
end Go.Proofs.YtgefjidphfdhdaaGreatDoor.Na
namespace Go.Proofs.YtgefjidphfdhdaaGreatDoor
open Go.KRun
set_option maxRecDepth 100000
theorem ZzZ {x:List Value×TypeId}{i:Nat}{z:List Value×TypeId}(hz:(⟨1,[x]⟩:Hp).blk? i=some z):i=0∧z=x:=by
 have:i<1:=Hp.blk_lt hz;have hi:i=0:=by omega
 subst hi;exact⟨rfl,(Option.some.inj hz).symm⟩
end Go.Proofs.YtgefjidphfdhdaaGreatDoor
namespace Go.Proofs.YtgefjidphfdhdaaGreatDoor.Na
open Go.Proofs.Tryz
open Go.KRun Go.Nt
set_option maxRecDepth 100000
theorem Zfa:f80.body=some (Zq f80):=by kernel_rfl
theorem Z0a {l:List Value}{o:Nat}{L:List Int}(h:Row l o L):cpD l o L.length=wU L∧cpC l o L.length=true:=by
 have e:L.length.min L.length=L.length:=Nat.min_self _;have h1:=h.cut;have h2:=h.len;unfold Zbp at h1;unfold cpD cpC;rw[e,h1];refine⟨by simp,?_⟩;rw[show zE tR=false from by kernel_rfl,show ro tU=false from by kernel_rfl,Nat.ble_eq_true_of_le h2,Nat.ble_eq_true_of_le (by simp),ZfR];rfl
theorem Zj9 {L:List Int}(h:ZaJ L):Zc L=L.length:=by
 apply ZaL
 ·intro i hi;simp [List.getD,List.getElem?_eq_none hi]
 ·exact h.2
theorem ZqR {l:List Value}{o n c:Nat}(ha:Z0 tR l o n c=true) (hb:ZN (Zx l o n)=false) (h0:0<n):
  RunsW (Zm prog Zg ZaX ZeY) (zo (dP f80) (.seq (.block 0 (.loop (dL f80))) (dE f80))) ([sl 0 o n c]++List.replicate 45 undef,h1R l,[]) fun e z=>(e=none∨e=some none)∧zd prog f80 z.1 z.2.1=some (.tuple #[bS (zD (vb 4294967296 (Zx l o n))),.nilIface]):=by
 obtain⟨a1,a2,a3,a4,a5,a6,a7⟩:=ZC ha;obtain⟨L,hL⟩:∃ L,L=Zx l o n:=⟨_,rfl⟩;rw[← hL] at a1 a2 hb ⊢;have h8:=ZbA hb;have hc:=Zc3 a1.rng hb;have hla:l.all still=true:=List.all_eq_true.2 a7;have ht:=Zj9 hc;have hw:wds L:=a1.rng;have hV:0<vb 4294967296 L:=(Ziw hw ht).2 (by omega);obtain⟨k,hk⟩:∃ k:Nat,k=8192:=⟨_,rfl⟩;have hlt:=ZtH (m:=k) hw (by omega);obtain⟨e,he⟩:∃ e:Nat,e=262144:=⟨_,rfl⟩;have hlt2:vb 4294967296 L<2^e:=by
  rw[show (4294967296:Nat)=2^32 from rfl,← Nat.pow_mul] at hlt;rw[show e=32*k by omega];exact hlt
 obtain⟨c1,c2⟩:=Z0a a1;rw[a2] at c1 c2;have rX:zG (h1R l) (some ⟨0,o,none⟩) n c=true:=by
  show Z0 tR l o n c=true;exact ha
 have rO:Zj (h1R l) (some ⟨0,o,none⟩) n=L:=by rw[hL];rfl
 have lm:ZJ 4 n n=true:=by unfold ZJ;exact Xa ⟨by omega,by omega,by omega,by omega⟩
 refine ZA Zge (ZzJ o n c l) (Za c2 (Za lm (Za (by simp;omega) (Za rX (ZB (by rw[rO];exact hb)))))) fun g=> ?_;refine RunsW.seq (P1:=fun e y=>e=none∧Z4u (sl 0 o n c) l (vb 4294967296 L) y) ?_ ?_ (fun e y he=>by cases he.1)
 ·refine (RunsW.forLoop (R:=fun _=>False) (P:=Z4u (sl 0 o n c) l (vb 4294967296 L)) (Z2s (sl 0 o n c) l n (vb 4294967296 L)) (Zv4 hla (by omega) hV he hlt2) (n:=vb 4294967296 L) ⟨0,[],L,[],undef,g,?_,?_,rfl,(fun x hx=>by cases hx),(by simpa using hw),ht,by simpa using a2,by simp [vb],rfl,by omega⟩).mono fun e z hz=> ?_
  ·rw[a2];rfl
  ·show hX [] (cpD l o n) l=hX (dX 0 []) (wU (L++[])) l;rw[c1,List.append_nil];rfl
  ·match e,hz with
   | none,hz=>exact⟨rfl,hz⟩
 ·rintro⟨t,hh,s⟩ ⟨_,D,r,w,Y,g',e1,e2,e3,e4,e5,e6⟩;simp only at e1 e2;subst e1 e2;exact Z4v hla hV e3 e4 e5 e6 g' s
def gDc:Zag:=fun vals h s=>
 match vals,s with
 | [.slice p n c],.inr (.inr (.inr (.inl true)))::s'=>some (.tuple #[bS [],Zcv 1],h,s',[(zG h p n c,true),(ZN (Zj h p n),true)])
 | [.slice p n c],.inr (.inr (.inr (.inl false))):: .inr (.inr (.inr (.inr (.inr (.string b)))))::s'=>some (.tuple #[.string b,.nilIface],h,s',[(zG h p n c,true),(ZN (Zj h p n),false),(decide (zD (Zsi h p n)=b.data.toList),true)])
 | _,_=>none
theorem Z0b:Z8 80 gDc:=by
 intro vals h s v h' s' lg hg hl m B w E hv;unfold gDc at hg;split at hg
 ·rename_i p n c s2;cases hg;obtain⟨l1,q⟩:=Zew hl;obtain⟨l2,_⟩:=Zew q;rcases ZD l1 with ⟨rfl,rfl,rfl,e0⟩ | ⟨b,o,x,rfl,hx,r1,e0⟩
  ·rw[e0,ZaW] at l2;cases l2
  ·rw[e0] at l2;obtain⟨a1,a2,a3,a4,a5,a6,a7⟩:=ZC r1;have hr:Runs (Zm prog Zg ZaX ZeY) (Zq f80) ([sl 0 o n c]++List.replicate 45 undef,h1R x.1,[]) fun e z=>(e=none∨e=some none)∧zd prog f80 z.1 z.2.1=some (.tuple #[bS [],Zcv 1]):=by
    refine (Zb Zge (ZzK (some ⟨0,o,none⟩) n c (h1R x.1)) (Za (zi r1) (ZB l2))).mono fun e z he=> ?_;obtain⟨rfl,⟨g,z1⟩,z2⟩:=he;exact⟨.inr rfl,by rw[z1,z2];rfl⟩
   exact ZI (T:=Zm prog Zg ZaX ZeY) func80 Zfa (ZaU a7) (vals:=[sl 0 o n c]) (fun v hv=>by rw[List.mem_singleton.1 hv];rfl) (by rfl) hr.w E (s:=fun _=>b) (zX hx a5 a6 rfl)
 ·rename_i p n c t s2;cases hg;obtain⟨l1,q⟩:=Zew hl;obtain⟨l2,q⟩:=Zew q;obtain⟨l3,_⟩:=Zew q;have l3:=Xc l3;have et:Value.string t=bS t.data.toList:=rfl;rw[et,← l3];rcases ZD l1 with ⟨rfl,rfl,rfl,e0⟩ | ⟨b,o,x,rfl,hx,r1,e0⟩
  ·have ev:Zsi h none 0=0:=by unfold Zsi;rw[e0];rfl
   rw[ev];have hr:Runs (Zm prog Zg ZaX ZeY) (Zq f80) ([.slice none 0 0]++List.replicate 45 undef,⟨0,[]⟩,[]) fun e z=>(e=none∨e=some none)∧zd prog f80 z.1 z.2.1=some (.tuple #[bS (zD 0),.nilIface]):=by
    refine (Zb Zge (Zmu none 0 0 ⟨0,[]⟩) (Za rfl (Za rfl (ZB rfl)))).mono fun e z he=> ?_;obtain⟨rfl,⟨g,z1⟩,z2⟩:=he;exact⟨.inr rfl,by rw[z1,z2];rfl⟩
   exact ZI (T:=Zm prog Zg ZaX ZeY) func80 Zfa (h0:=⟨0,[]⟩) ⟨rfl,fun b x hx=>by have:b<0:=Hp.blk_lt hx;omega⟩ (vals:=[.slice none 0 0]) (fun v hv=>by rw[List.mem_singleton.1 hv];rfl) (by rfl) hr.w E (s:=fun i=>i) (fun i x hx=>by have:i<0:=Hp.blk_lt hx;omega)
  ·have ev:Zsi h (some ⟨b,o,none⟩) n=vb 4294967296 (Zx x.1 o n):=by unfold Zsi;rw[e0]
   rw[e0] at l2;obtain⟨a1,a2,a3,a4,a5,a6,a7⟩:=ZC r1;rw[ev];by_cases hn:n=0
   ·subst hn;have e1:Zx x.1 o 0=[]:=List.length_eq_zero_iff.1 a2;have hr:Runs (Zm prog Zg ZaX ZeY) (Zq f80) ([sl 0 o 0 c]++List.replicate 45 undef,h1R x.1,[]) fun e z=>(e=none∨e=some none)∧zd prog f80 z.1 z.2.1=some (.tuple #[bS (zD 0),.nilIface]):=by
     refine (Zb Zge (Zmu (some ⟨0,o,none⟩) 0 c (h1R x.1)) (Za rfl (Za (zi r1) (ZB l2)))).mono fun e z he=> ?_;obtain⟨rfl,⟨g,z1⟩,z2⟩:=he;exact⟨.inr rfl,by rw[z1,z2];rfl⟩
    rw[e1];exact ZI (T:=Zm prog Zg ZaX ZeY) func80 Zfa (ZaU a7) (vals:=[sl 0 o 0 c]) (fun v hv=>by rw[List.mem_singleton.1 hv];rfl) (by rfl) hr.w E (s:=fun _=>b) (zX hx a5 a6 rfl)
   ·exact ZI (T:=Zm prog Zg ZaX ZeY) func80 Zvn (ZaU a7) (vals:=[sl 0 o n c]) (fun v hv=>by rw[List.mem_singleton.1 hv];rfl) (by rfl) (ZqR (zi r1) l2 (by omega)) E (s:=fun _=>b) (zX hx a5 a6 rfl)
 ·cases hg
end Go.Proofs.YtgefjidphfdhdaaGreatDoor.Na
