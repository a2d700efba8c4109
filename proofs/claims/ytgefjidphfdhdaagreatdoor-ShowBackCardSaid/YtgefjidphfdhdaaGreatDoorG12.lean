/-
  RpG, TxF, TxG
-/
import Derived.Test.YtgefjidphfdhdaaGreatDoorG11
namespace Go.Proofs.YtgefjidphfdhdaaGreatDoor.Na
open Go.KRun Go.Nt Go.Rd
set_option maxRecDepth 100000
theorem Zal (V:Nat):V<4294967296^(d32 V).length:=by
 have:=Zd6 (b:=4294967296) (by omega) (d32 V) (ZeO V);rw[show vb 4294967296 (d32 V)=V from Zbi (by omega) V] at this;exact this
theorem Zwa {V:Nat}(h:0<(d32 V).length):4294967296^((d32 V).length-1)≤V:=by
 rcases Nat.lt_or_ge V (4294967296^((d32 V).length-1)) with h1 | h1
 ·have:(d32 V).length≤(d32 V).length-1:=ZcL (b:=4294967296) (by omega) _ _ h1;omega
 ·exact h1
theorem zX {V:Nat}(h:V≠0):0<(d32 V).length:=(Zc4 (b:=4294967296) (by omega)).2 (by omega)
theorem Zgx {V:Nat}(h0:V≠0) (h:(d32 V).length≤8192):ZcN (d32 V)=((bitLen V:Nat):Int):=by
 have hp:=zX h0;have hc:=Zci V;obtain⟨L,hL⟩:∃ L,L=d32 V:=⟨_,rfl⟩;have eV:vb 4294967296 L=V:=by rw[hL];exact Zbi (by omega) V
 rw[← hL] at hp hc h ⊢;have hb:ZH L=false:=by
  unfold ZH;rw[Xb (by omega),Bool.false_or];rcases hc.2 with h0 | h0
  ·omega
  ·rw[beq_eq_false_iff_ne.2 h0,Bool.and_false]
 have e1:ZcN L=32*((L.length-1:Nat):Int)+(bitLen (L.getD (L.length-1) 0).toNat:Nat):=by
  unfold ZcN;rw[hb,beq_eq_false_iff_ne.2 (show L.length≠0 by omega)];rfl
 have ht:=ZgZ 4294967296 L (L.length-1);rw[show L.length-1+1=L.length by omega,List.take_length,eV] at ht;have lo:vb 4294967296 (L.take (L.length-1))<4294967296^(L.length-1):=by
  have h1:=Zd6 (b:=4294967296) (by omega) (L.take (L.length-1)) (fun x hx=>hc.1 x (List.mem_of_mem_take hx));rw[List.length_take,Nat.min_eq_left (by omega)] at h1;exact h1
 have hpw:0<4294967296^(L.length-1):=Nat.pow_pos (by omega);have htop:(L.getD (L.length-1) 0).toNat≠0:=by
  have hlt:L.length-1<L.length:=by omega
  have hw:=hc.1 (L.getD (L.length-1) 0) (by simp [List.getD,List.getElem?_eq_getElem hlt]);rcases hc.2 with h1 | h1
  ·omega
  ·have:L.getD (L.length-1) 0≠0:=h1;omega
 have hdiv:V/2^(32*(L.length-1))=(L.getD (L.length-1) 0).toNat:=by
  rw[← zw,ht,Nat.add_comm,Nat.mul_add_div hpw,Nat.div_eq_of_lt lo,Nat.add_zero]
 have hs:=bitLen_shift V (32*(L.length-1)) (by rw[hdiv];exact htop);rw[hdiv] at hs;rw[e1,hs];omega
section
variable {H : Hp} {p q : Option Addr} {n c n' c' V W : Nat}
theorem Z6Q (h:IsR H p n c V) (h0:V≠0):decide (ZcN (Zm H p n)=((bitLen V:Nat):Int))=true:=by
 rw[h.2.2.1];exact Xa (Zgx h0 (by have:=h.2.2.2.2;have:=h.2.2.2.1;omega))
theorem Z6R (h:IsR H p n c V) (k:Nat):decide (Zgb (Zm H p n) ((k:Nat):Int).toNat=dg (sM n (k:Nat)) ((V*2^k:Nat):Int))=true:=by
 refine Xa ?_;unfold Zgb sM;rw[h.2.2.1,← h.2.2.2.1,Zgg,Xg,Int.natCast_mul,Go.Wd.cast_pow]
theorem Z0N (h:IsR H p n c V) (k:Nat):(ZH (Zm H p n) || decide (((k:Nat):Int)<0))=false:=by
 rw[h.good,Xb (by omega)];rfl
theorem Z6S (h:IsR H p n c V) (h0:V≠0) {k:Nat}(hk:k≤200000):decide (((k:Nat):Int)>262144-ZcN (Zm H p n))=false:=by
 have hn:=h.2.2.2.2;have hl:=h.2.2.2.1;rw[h.2.2.1,Zgx h0 (by omega)];have:bitLen V≤32*n:=Go.Rn.len_le (by rw[← zw];rw[hl];exact Zal V);exact Xb (by omega)
theorem rNe (h:IsR H p n c V) (h0:V≠0):decide (n=0)=false:=by
 have:=zX h0;have:=h.2.2.2.1;exact Xb (by omega)
end
theorem ZsK {V k n:Nat}(h:V<4294967296^n):V*2^k<4294967296^sM n (k:Nat):=by
 unfold sM;rw[Xg,Nat.add_comm (k/32),zw];rw[zw] at h;have h2:(2:Nat)^k<2^(32*(k/32+1)):=Nat.pow_lt_pow_right (by omega) (by omega);have:=Nat.mul_lt_mul'' h h2;rw[← Nat.pow_add] at this;rw[show 32*(n+1+k/32)=32*n+32*(k/32+1) by omega];exact this
theorem ZsL {S P:Nat}(hP:P≠0) (hS:(d32 P).length≤(d32 S).length):S/P<4294967296^((d32 S).length-(d32 P).length+1):=by
 have h1:=Zal S;have h2:=Zwa (zX hP);have h3:=zX hP;rw[Nat.div_lt_iff_lt_mul (by omega)];refine Nat.lt_of_lt_of_le h1 ?_;refine Nat.le_trans ?_ (Nat.mul_le_mul_left _ h2);rw[← Nat.pow_add];exact Nat.pow_le_pow_right (by omega) (by omega)
theorem ZsM {S P:Nat}(h:P≤S):(d32 P).length≤(d32 S).length:=ZcL (b:=4294967296) (by omega) _ _ (Nat.lt_of_le_of_lt h (Zal S))
theorem Z0O {D:List UInt8}(h:ZF 10 D=true):psV ⟨⟨D⟩⟩=nmB 10 D:=by
 have key:∀ k,k≤D.length→zn (dgF ⟨⟨D⟩⟩) k=nmB 10 (D.take k):=by
  intro k
  induction k with
  | zero=>intro _;rfl
  | succ k ih=>
   intro hk;have hd:0≤zy (lq8 (D.getD k 0)) 10:=by
    unfold ZF at h;refine Xc (List.all_eq_true.1 h _ ?_);rw[List.getD_eq_getElem?_getD,List.getElem?_eq_getElem (by omega),Option.getD_some];exact List.getElem_mem (by omega)
   have e:dgF ⟨⟨D⟩⟩ k=zy (lq8 (D.getD k 0)) 10:=by
    have:=zG hd;unfold zy;rw[if_pos this];rfl
   rw[zn,ih (by omega),ZiB 10 D (by omega),e,Nat.mul_comm];rfl
 have:=key D.length (Nat.le_refl _);rw[List.take_length] at this;exact this
theorem Zwb {D:List UInt8}(h:ZF 10 D=true) (h0:D≠[]):okP ⟨⟨D⟩⟩=true:=by
 refine (Zhm _).2 ⟨List.length_pos_iff.2 h0,fun j hj=> ?_⟩;have hj:j<D.length:=hj;have hd:0≤zy (lq8 (D.getD j 0)) 10:=by
  unfold ZF at h;refine Xc (List.all_eq_true.1 h _ ?_);rw[List.getD_eq_getElem?_getD,List.getElem?_eq_getElem hj,Option.getD_some];exact List.getElem_mem hj
 have:=zG hd;show (decide (lq8 (D.getD j 0)<48) || decide (lq8 (D.getD j 0)>57))=false;rw[Xb (by omega),Xb (by omega)];rfl
theorem Zfo (k:Nat):(10:Nat)^k<4294967296^(k/9+1):=by
 refine Nat.lt_of_le_of_lt (Nat.pow_le_pow_right (by omega) (show k≤9*(k/9+1) by omega)) ?_;rw[Nat.pow_mul];exact Nat.pow_lt_pow_left (by decide) (by omega)
theorem Zhx {H:Hp}{b k:Nat}{j:Int}(hj:j=(k:Nat)) (hk:k≤2000) (hb:H.blk? b=some (wU (dg (pMi 10 j) ((10^k:Nat):Int)),tU)):IsR H (some ⟨b,0,none⟩) (Zg (dg (pMi 10 j) ((10^k:Nat):Int))) (pMi 10 j) (10^k)∧(d32 (10^k)).length≤k/9+1:=by
 have e:pMi 10 j=pM 10 k:=by unfold pMi;rw[hj,Xg];rfl
 have h:10^k<4294967296^pM 10 k∧pM 10 k≤1000:=by
  by_cases h0:k=0
  ·subst h0;exact⟨by show 1<4294967296^2;decide,by show 2≤1000;decide⟩
  ·exact Zvd (ZlK hk) (by omega) (Nat.le_refl _) (by omega)
 rw[e] at hb ⊢;exact⟨Zex hb h.1 h.2,ZcW (Zfo k)⟩
end Go.Proofs.YtgefjidphfdhdaaGreatDoor.Na
namespace Go.Proofs.YtgefjidphfdhdaaGreatDoor.Na
open Go.Proofs.Tryz
open Go.KRun Go.Nt
set_option maxRecDepth 100000
def Z4D (a:Value) (la:List Value) (V:Nat) (y:Lf):Prop:=∃ (D:List Int) (r w:Value) (Y:List Value×TypeId) (g:Nat→Value),y.1=dF a r (.slice (some ⟨2,0,none⟩) D.length grown) w++tl 38 g∧y.2.1=hB2 (wB (D.map asc)) Y la∧D.length<100000∧(∀ x∈D,Dg 10 x)∧vb 10 D=V∧(Y.1.all still)=true
theorem Zwc {o n c:Nat}{la:List Value}{N V:Nat}(hla:la.all still=true) (hN:N≤8192) (hV0:0<V) {e:Nat}(he:e=262144) (hV:V<2^e) (r:Nat) (y:Lf) (h:Z3f (sl 0 o n c) la N V r y):
  RunsW (Zx prog Zi ZaG ZeZ) (dL f80) y fun e z=>match e with | none=>∃ r',r'<r∧Z3f (sl 0 o n c) la N V r' z | some none=>False | some (some id')=>id'=0∧Z4D (sl 0 o n c) la V z:=by
 obtain⟨k,D,W,Z,w,g,ht,hh,hD,hDg,hwz,hW,hlen,hv,hr,hk9⟩:=h;obtain⟨t,h',sc⟩:=y;simp only at ht hh;subst ht hh;have hWw:wds W:=fun x hx=>hwz x (List.mem_append_left _ hx);have hWl:W.length≤N:=by rw[← hlen,List.length_append];omega
 have hpos:=Zi3 hWw hW;have hsm:Z8 N=true:=Zl.2 (by unfold ZX;omega);by_cases h0:0<W.length
 ·have lc:decide (((W.length:Nat):Int)>0)=true:=Xa (by omega);have hR:=hpos.2 h0;have hk:k<9040:=Z4x (k:=k) (V:=V) (by
   have:=Nat.mul_le_mul_left (10^(9*k)) (show 1≤vb 4294967296 W by omega);omega) he hV
  obtain⟨q1,Z',q2,q3,q4,q5⟩:=Zqc hwz;have hp:vb 4294967296 W % 1000000000<4294967296:=by omega
  have l1:Zu tU (wU (W++Z)) 0 W.length N=true:=ZT hwz (by rw[List.length_append];omega) hWl hsm;have l2:Zu tU (tpS (wU (W++Z)) W.length) 0 W.length N=true:=by
   rw[q2];exact ZT q4 (by rw[q5,List.length_append];omega) hWl hsm
  have stS:∀ v∈(tpS (wU (W++Z)) W.length),still v=true:=by
   rw[q2];exact List.all_eq_true.1 (Za6 _)
  have ep:∀ (D:List Int) (j:Nat),apB (wB (D.map asc)) (tpP (wU (W++Z)) W.length) j=wB ((D++ld j (vb 4294967296 W % 1000000000)).map asc):=fun D j=>by rw[q1];exact Zmg hp D j
  have dec:vb 4294967296 W/1000000000<vb 4294967296 W:=Nat.div_lt_self hR (by omega);have next:∀ (D:List Int),D.length=9*k→vb 10 D+10^(9*k)*vb 4294967296 W=V→(∀ x∈D,Dg 10 x)→∀ (z:Lf) (w':Value),(∃ g,z.1=dF (sl 0 o n c) (sl 1 0 (trS (wU (W++Z)) W.length) N) (.slice (some ⟨2,0,none⟩) (D.length+9) grown) w'++tl 38 g)→z.2.1=⟨3,[(wB ((D++ld 9 (vb 4294967296 W % 1000000000)).map asc),tBy),(tpS (wU (W++Z)) W.length,tU),(la,tR)]⟩→∃ r',r'<r∧Z3f (sl 0 o n c) la N V r' z:=fun D hD hv hDg z w' hz1 hz2=>by
   obtain⟨g',hz1⟩:=hz1;refine⟨_,by rw[hr];exact dec,k+1,D++ld 9 (vb 4294967296 W % 1000000000),db 4294967296 (vb 4294967296 W/1000000000),Z',w',g',?_,?_,?_,?_,q4,?_,by rw[q5];exact hlen,?_,?_⟩
   ·rw[hz1,q3];unfold dS;rw[if_neg (by omega),List.length_append,Zi2]
   ·rw[hz2,q2];unfold dX;rw[if_neg (by omega)];rfl
   ·rw[List.length_append,Zi2,hD];omega
   ·intro x hx;rcases List.mem_append.1 hx with hx | hx
    ·exact hDg x hx
    ·exact Z0c _ _ x hx
   ·exact (Zlj (by omega) _).2
   ·rw[Zbi (by omega)];exact ZjL hD hv
   ·exact⟨by rw[Zbi (by omega)],by omega⟩
  by_cases hk0:k=0
  ·have hDn:D=[]:=List.length_eq_zero_iff.1 (by omega);have ap:∀ (m j:Nat),m=j→m<1073741824→(apL [] (tpP (wU (W++Z)) W.length) m j).1=(apL [] (tpP (wU (W++Z)) W.length) m j).2:=fun m j hm hb=>by
    rw[q1];exact Zs3 hp [] (m:=m) (j:=j) (by simpa using hm) hb
   have e0:dS k D=ZD:=by unfold dS;rw[if_pos hk0]
   have e1:dX k D=[]:=by unfold dX;rw[if_pos hk0]
   rw[e0,e1];have stY:∀ v∈((apB [] (tpP (wU (W++Z)) W.length) 9,tBy):List Value×TypeId).1,still v=true:=by
    have:=ep [] 9;rw[show wB (List.map asc [])=[] from rfl] at this;simp only[this];exact List.all_eq_true.1 (Zfb _)
   refine ((Z0 (s0:=sc) Zgk (Z0m W.length N (sl 0 o n c) w (wU (W++Z)) la g) (Za l2 (Za rfl (Za (ap 8 8 (by simp) (by omega)) (Za rfl (Za (ap 7 7 (by simp) (by omega)) (Za rfl (Za (ap 6 6 (by simp) (by omega)) (Za rfl (Za (ap 5 5 (by simp) (by omega)) (Za rfl (Za (ap 4 4 (by simp) (by omega)) (Za rfl (Za (ap 3 3 (by simp) (by omega)) (Za rfl (Za (ap 2 2 (by simp) (by omega)) (Za rfl (Za (ap 1 1 (by simp) (by omega)) (Za rfl (Za rfl (Za rfl (Za rfl (Za rfl (Za l1 (Za hla (Za rfl (Zy lc))))))))))))))))))))))))))).kept (k:=2) (b:=19) (base:=[(tpS (wU (W++Z)) W.length,tU),(la,tR)]) (y:=(apB [] (tpP (wU (W++Z)) W.length) 9,tBy)) (front':=dF (sl 0 o n c) (sl 1 0 (trS (wU (W++Z)) W.length) N) (.slice (some ⟨2,0,none⟩) 9 grown) (uu (pNx (tpP (wU (W++Z)) W.length) 9))) rfl (by kernel_rfl) (fun i x hi=>by
    have hi2:i<2:=Hp.blk_lt hi;have h01:i=0∨i=1:=by omega
    rcases h01 with rfl | rfl
    ·obtain rfl:=(Option.some.inj hi).symm;exact⟨rfl,List.all_eq_true.1 hla⟩
    ·obtain rfl:=(Option.some.inj hi).symm;exact⟨rfl,stS⟩) rfl (by omega) stY (by
    intro v hv;simp only[dF,List.mem_cons,List.not_mem_nil,or_false] at hv;rcases hv with rfl | rfl | rfl | rfl | rfl | rfl | rfl | rfl<;>rfl)).mono fun e z hz=> ?_
   obtain⟨rfl,hz1,hz2⟩:=hz;have e9:=ep [] 9;rw[show wB (List.map asc [])=[] from rfl] at e9;rw[e9] at hz2;refine next [] (by rw[hk0];rfl) (by rw[← hDn];exact hv) (fun x hx=>by cases hx) z (uu (pNx (tpP (wU (W++Z)) W.length) 9)) hz1 hz2
  ·have e0:dS k D= .slice (some ⟨2,0,none⟩) D.length grown:=by unfold dS;rw[if_neg hk0]
   have e1:dX k D=[(wB (D.map asc),tBy)]:=by unfold dX;rw[if_neg hk0]
   rw[e0,e1];have ap:∀ (m j:Nat),m=D.length+j→m<1073741824→(apL (wB (D.map asc)) (tpP (wU (W++Z)) W.length) m j).1=(apL (wB (D.map asc)) (tpP (wU (W++Z)) W.length) m j).2:=fun m j hm hb=>by
    rw[q1];exact Zs3 hp D hm hb
   have lX:(([(wB (D.map asc),tBy)]:List (List Value×TypeId)).all fun x=>x.1.all still)=true:=by
    rw[List.all_cons,Zfb];rfl
   have stY:∀ v∈((apB (wB (D.map asc)) (tpP (wU (W++Z)) W.length) 9,tBy):List Value×TypeId).1,still v=true:=by
    simp only[ep D 9];exact List.all_eq_true.1 (Zfb _)
   refine ((Z0 (s0:=sc) Zgk (Z0n W.length N D.length (sl 0 o n c) w (wB (D.map asc)) (wU (W++Z)) la g) (Za l2 (Za rfl (Za (ap (D.length+8) 8 rfl (by omega)) (Za rfl (Za (ap (D.length+7) 7 rfl (by omega)) (Za rfl (Za (ap (D.length+6) 6 rfl (by omega)) (Za rfl (Za (ap (D.length+5) 5 rfl (by omega)) (Za rfl (Za (ap (D.length+4) 4 rfl (by omega)) (Za rfl (Za (ap (D.length+3) 3 rfl (by omega)) (Za rfl (Za (ap (D.length+2) 2 rfl (by omega)) (Za rfl (Za (ap (D.length+1) 1 rfl (by omega)) (Za rfl (Za (ap D.length 0 rfl (by omega)) (Za rfl (Za rfl (Za rfl (Za l1 (Za hla (Za lX (Zy lc))))))))))))))))))))))))))).kept (k:=2) (b:=20) (base:=[(tpS (wU (W++Z)) W.length,tU),(la,tR)]) (y:=(apB (wB (D.map asc)) (tpP (wU (W++Z)) W.length) 9,tBy)) (front':=dF (sl 0 o n c) (sl 1 0 (trS (wU (W++Z)) W.length) N) (.slice (some ⟨2,0,none⟩) (D.length+9) grown) (uu (pNx (tpP (wU (W++Z)) W.length) 9))) rfl (by kernel_rfl) (fun i x hi=>by
    have hi2:i<2:=Hp.blk_lt hi;have h01:i=0∨i=1:=by omega
    rcases h01 with rfl | rfl
    ·obtain rfl:=(Option.some.inj hi).symm;exact⟨rfl,List.all_eq_true.1 hla⟩
    ·obtain rfl:=(Option.some.inj hi).symm;exact⟨rfl,stS⟩) rfl (by omega) stY (by
    intro v hv;simp only[dF,List.mem_cons,List.not_mem_nil,or_false] at hv;rcases hv with rfl | rfl | rfl | rfl | rfl | rfl | rfl | rfl<;>rfl)).mono fun e z hz=> ?_
   obtain⟨rfl,hz1,hz2⟩:=hz;rw[ep D 9] at hz2;exact next D hD hv hDg z _ hz1 hz2
 ·have hR:vb 4294967296 W=0:=by
   rcases Nat.eq_zero_or_pos (vb 4294967296 W) with h1 | h1
   ·exact h1
   ·exact absurd (hpos.1 h1) h0
  rw[hR,Nat.mul_zero,Nat.add_zero] at hv;have hk0:k≠0:=fun hk=>by
   have:D=[]:=List.length_eq_zero_iff.1 (by omega);rw[this] at hv;simp [vb] at hv;omega
  refine (Z0 (s0:=sc) Zgk (Z0o W.length N (sl 0 o n c) (dS k D) w _ g) (Zy (Xb (by omega)))).mono fun e z hz=> ?_;obtain⟨rfl,⟨g',hz1⟩,hz2⟩:=hz;have e0:dS k D= .slice (some ⟨2,0,none⟩) D.length grown:=by unfold dS;rw[if_neg hk0]
  have e1:dX k D=[(wB (D.map asc),tBy)]:=by unfold dX;rw[if_neg hk0]
  rw[e0] at hz1;rw[e1] at hz2;exact⟨rfl,D,_,w,(wU (W++Z),tU),g',hz1,hz2,by omega,hDg,hv,Za6 _⟩
theorem Zq7 {D:List Int}{V:Nat}(hV:0<V) (hD:∀ x∈D,Dg 10 x) (hv:vb 10 D=V):trL 48 ((D.map asc).reverse.map fun n=>UInt8.ofNat n.toNat)=ZaT V:=by
 have h1:=Zmc hD;rw[hv] at h1;unfold ZaT Zyk;rw[if_neg (by omega),← h1];have key:∀ L:List Int,(∀ x∈L,Dg 10 x)→trL 48 ((L.map asc).map fun n=>UInt8.ofNat n.toNat)=(ZeY L).map fun x=>UInt8.ofNat (asc x).toNat:=by
  intro L
  induction L with
  | nil=>intro _;rfl
  | cons x L ih=>
   intro hL;have hx:=hL x Xe;have ih:=ih fun y hy=>hL y (Xd _ hy);have hx0:=hx.1;have hx1:x<10:=by have:=hx.2;omega
   have ev:(((UInt8.ofNat (asc x).toNat).toNat:Nat):Int)=48+x:=by
    unfold asc;simp;omega
   by_cases h0:x=0
   ·subst h0;unfold trL ZeY at*;rw[List.map_cons,List.map_cons,List.dropWhile_cons_of_pos (by rfl),List.dropWhile_cons_of_pos (by rfl)];exact ih
   ·unfold trL ZeY at*;rw[List.map_cons,List.map_cons,List.dropWhile_cons_of_neg (by rw[ev];simp;omega),List.dropWhile_cons_of_neg (by simpa using h0)];simp
 rw[← List.map_reverse];exact key D.reverse fun x hx=>hD x (List.mem_reverse.1 hx)
theorem Zgy:∀ L:List Int,ZaP (wB L)=some L
 | []=>rfl
 | x::L=>by
  show ZaP (ub x::wB L)=_;simp [ZaP,ub,Zgy L]
theorem Z4E {a r w:Value}{D:List Int}{Y:List Value×TypeId}{la:List Value}{V:Nat}(hla:la.all still=true) (hV:0<V) (hl:D.length<100000) (hD:∀ x∈D,Dg 10 x) (hv:vb 10 D=V) (hY:Y.1.all still=true) (g:Nat→Value) (sc:List Dec):
  RunsW (Zx prog Zi ZaG ZeZ) (dE f80) (dF a r (.slice (some ⟨2,0,none⟩) D.length grown) w++tl 38 g,hB2 (wB (D.map asc)) Y la,sc) fun e z=>(e=none∨e=some none)∧zE prog f80 z.1 z.2.1=some (.tuple #[bS (ZaT V),.nilIface]):=by
 have l1:ZfL ((wB (D.map asc)).reverse,tBy) 0 D.length ⟨⟨(D.map asc).reverse.map fun n=>UInt8.ofNat n.toNat⟩⟩=true:=by
  unfold ZfL;have e:(wB (D.map asc)).reverse=wB (D.map asc).reverse:=by simp [wB]
  have e2:((wB (D.map asc).reverse).drop 0).take D.length=wB (D.map asc).reverse:=by
   rw[List.drop_zero];exact List.take_of_length_le (by simp [wB])
  simp only[e,e2,Zgy];rw[show Zai tBy=false from by kernel_rfl,Nat.ble_eq_true_of_le (by simp [wB])];simp
 refine (Z0 (s0:=sc) Zgk (Z0p D.length a r w ⟨⟨(D.map asc).reverse.map fun n=>UInt8.ofNat n.toNat⟩⟩ (wB (D.map asc)) Y la g) (Za rfl (Za l1 (Za hY (Za rfl (Za rfl (Za (by rw[Zgi,List.length_map];exact Nat.beq_refl _) (Za (Zsz _) (Za rfl (Za hla (Zy (Zl.2 (by omega))))))))))))).mono fun e z hz=> ?_;obtain⟨rfl,⟨g',hz1⟩,hz2⟩:=hz;refine⟨.inr rfl,?_⟩;have et:=Zq7 hV hD hv;have:bS (trL 48 (⟨⟨(D.map asc).reverse.map fun n=>UInt8.ofNat n.toNat⟩⟩:ByteArray).data.toList)=bS (ZaT V):=by rw[← et]
 rw[this] at hz1;rw[hz1,hz2];rfl
theorem Zfp:f80.body=some (Zw f80):=by kernel_rfl
theorem Z0P {l:List Value}{o:Nat}{L:List Int}(h:Row l o L):cpD l o L.length=wU L∧cpC l o L.length=true:=by
 have e:L.length.min L.length=L.length:=Nat.min_self _;have h1:=h.cut;have h2:=h.len;unfold ZbE at h1;unfold cpD cpC;rw[e,h1];refine⟨by simp,?_⟩;rw[show Zai tR=false from by kernel_rfl,show ro tU=false from by kernel_rfl,Nat.ble_eq_true_of_le h2,Nat.ble_eq_true_of_le (by simp),ZyZ];rfl
theorem ZjR {L:List Int}(h:Za9 L):Zg L=L.length:=by
 apply Zc0
 ·intro i hi;simp [List.getD,List.getElem?_eq_none hi]
 ·exact h.2
theorem Zq8 {l:List Value}{o n c:Nat}(ha:Zu tR l o n c=true) (hb:ZH (Zt l o n)=false) (h0:0<n):
  RunsW (Zx prog Zi ZaG ZeZ) (Zaj (dP f80) (.seq (.block 0 (.loop (dL f80))) (dE f80))) ([sl 0 o n c]++List.replicate 45 undef,h1R l,[]) fun e z=>(e=none∨e=some none)∧zE prog f80 z.1 z.2.1=some (.tuple #[bS (ZaT (vb 4294967296 (Zt l o n))),.nilIface]):=by
 obtain⟨a1,a2,a3,a4,a5,a6,a7⟩:=Z4 ha;obtain⟨L,hL⟩:∃ L,L=Zt l o n:=⟨_,rfl⟩;rw[← hL] at a1 a2 hb ⊢;have h8:=Zb0 hb;have hc:=Zc3 a1.rng hb;have hla:l.all still=true:=List.all_eq_true.2 a7;have ht:=ZjR hc;have hw:wds L:=a1.rng;have hV:0<vb 4294967296 L:=(Zi3 hw ht).2 (by omega);obtain⟨k,hk⟩:∃ k:Nat,k=8192:=⟨_,rfl⟩;have hlt:=Zud (m:=k) hw (by omega);obtain⟨e,he⟩:∃ e:Nat,e=262144:=⟨_,rfl⟩;have hlt2:vb 4294967296 L<2^e:=by
  rw[show (4294967296:Nat)=2^32 from rfl,← Nat.pow_mul] at hlt;rw[show e=32*k by omega];exact hlt
 obtain⟨c1,c2⟩:=Z0P a1;rw[a2] at c1 c2;have rX:zg (h1R l) (some ⟨0,o,none⟩) n c=true:=by
  show Zu tR l o n c=true;exact ha
 have rO:Zm (h1R l) (some ⟨0,o,none⟩) n=L:=by rw[hL];rfl
 have lm:ZO 4 n n=true:=by unfold ZO;exact Xa ⟨by omega,by omega,by omega,by omega⟩
 refine ZbN Zgk (Z0k o n c l) (Za c2 (Za lm (Za (by simp;omega) (Za rX (Zy (by rw[rO];exact hb)))))) fun g=> ?_;refine RunsW.seq (P1:=fun e y=>e=none∧Z4D (sl 0 o n c) l (vb 4294967296 L) y) ?_ ?_ (fun e y he=>by cases he.1)
 ·refine (RunsW.forLoop (R:=fun _=>False) (P:=Z4D (sl 0 o n c) l (vb 4294967296 L)) (Z3f (sl 0 o n c) l n (vb 4294967296 L)) (Zwc hla (by omega) hV he hlt2) (n:=vb 4294967296 L) ⟨0,[],L,[],undef,g,?_,?_,rfl,(fun x hx=>by cases hx),(by simpa using hw),ht,by simpa using a2,by simp [vb],rfl,by omega⟩).mono fun e z hz=> ?_
  ·rw[a2];rfl
  ·show hX [] (cpD l o n) l=hX (dX 0 []) (wU (L++[])) l;rw[c1,List.append_nil];rfl
  ·match e,hz with
   | none,hz=>exact⟨rfl,hz⟩
 ·rintro⟨t,hh,s⟩ ⟨_,D,r,w,Y,g',e1,e2,e3,e4,e5,e6⟩;simp only at e1 e2;subst e1 e2;exact Z4E hla hV e3 e4 e5 e6 g' s
def gDc:Zba:=fun vals h s=>
 match vals,s with
 | [.slice p n c],.inr (.inr (.inr (.inl true)))::s'=>some (.tuple #[bS [],ZbH 1],h,s',[(zg h p n c,true),(ZH (Zm h p n),true)])
 | [.slice p n c],.inr (.inr (.inr (.inl false))):: .inr (.inr (.inr (.inr (.inr (.string b)))))::s'=>some (.tuple #[.string b,.nilIface],h,s',[(zg h p n c,true),(ZH (Zm h p n),false),(decide (ZaT (Zsn h p n)=b.data.toList),true)])
 | _,_=>none
theorem Z0Q:ZJ 80 gDc:=by
 intro vals h s v h' s' lg hg hl m B w E hv;unfold gDc at hg;split at hg
 ·rename_i p n c s2;cases hg;obtain⟨l1,q⟩:=Zct hl;obtain⟨l2,_⟩:=Zct q;rcases Z5 l1 with ⟨rfl,rfl,rfl,e0⟩ | ⟨b,o,x,rfl,hx,r1,e0⟩
  ·rw[e0,ZaF] at l2;cases l2
  ·rw[e0] at l2;obtain⟨a1,a2,a3,a4,a5,a6,a7⟩:=Z4 r1;have hr:Runs (Zx prog Zi ZaG ZeZ) (Zw f80) ([sl 0 o n c]++List.replicate 45 undef,h1R x.1,[]) fun e z=>(e=none∨e=some none)∧zE prog f80 z.1 z.2.1=some (.tuple #[bS [],ZbH 1]):=by
    refine (Zc Zgk (Z0l (some ⟨0,o,none⟩) n c (h1R x.1)) (Za (ZW r1) (Zy l2))).mono fun e z he=> ?_;obtain⟨rfl,⟨g,z1⟩,z2⟩:=he;exact⟨.inr rfl,by rw[z1,z2];rfl⟩
   exact zV (T:=Zx prog Zi ZaG ZeZ) func80 Zfp (ZcU a7) (vals:=[sl 0 o n c]) (fun v hv=>by rw[List.mem_singleton.1 hv];rfl) (by rfl) hr.w E (s:=fun _=>b) (ZaQ hx a5 a6 rfl)
 ·rename_i p n c t s2;cases hg;obtain⟨l1,q⟩:=Zct hl;obtain⟨l2,q⟩:=Zct q;obtain⟨l3,_⟩:=Zct q;have l3:=Xc l3;have et:Value.string t=bS t.data.toList:=rfl;rw[et,← l3];rcases Z5 l1 with ⟨rfl,rfl,rfl,e0⟩ | ⟨b,o,x,rfl,hx,r1,e0⟩
  ·have ev:Zsn h none 0=0:=by unfold Zsn;rw[e0];rfl
   rw[ev];have hr:Runs (Zx prog Zi ZaG ZeZ) (Zw f80) ([.slice none 0 0]++List.replicate 45 undef,⟨0,[]⟩,[]) fun e z=>(e=none∨e=some none)∧zE prog f80 z.1 z.2.1=some (.tuple #[bS (ZaT 0),.nilIface]):=by
    refine (Zc Zgk (Zme none 0 0 ⟨0,[]⟩) (Za rfl (Za rfl (Zy rfl)))).mono fun e z he=> ?_;obtain⟨rfl,⟨g,z1⟩,z2⟩:=he;exact⟨.inr rfl,by rw[z1,z2];rfl⟩
   exact zV (T:=Zx prog Zi ZaG ZeZ) func80 Zfp (h0:=⟨0,[]⟩) ⟨rfl,fun b x hx=>by have:b<0:=Hp.blk_lt hx;omega⟩ (vals:=[.slice none 0 0]) (fun v hv=>by rw[List.mem_singleton.1 hv];rfl) (by rfl) hr.w E (s:=fun i=>i) (fun i x hx=>by have:i<0:=Hp.blk_lt hx;omega)
  ·have ev:Zsn h (some ⟨b,o,none⟩) n=vb 4294967296 (Zt x.1 o n):=by unfold Zsn;rw[e0]
   rw[e0] at l2;obtain⟨a1,a2,a3,a4,a5,a6,a7⟩:=Z4 r1;rw[ev];by_cases hn:n=0
   ·subst hn;have e1:Zt x.1 o 0=[]:=List.length_eq_zero_iff.1 a2;have hr:Runs (Zx prog Zi ZaG ZeZ) (Zw f80) ([sl 0 o 0 c]++List.replicate 45 undef,h1R x.1,[]) fun e z=>(e=none∨e=some none)∧zE prog f80 z.1 z.2.1=some (.tuple #[bS (ZaT 0),.nilIface]):=by
     refine (Zc Zgk (Zme (some ⟨0,o,none⟩) 0 c (h1R x.1)) (Za rfl (Za (ZW r1) (Zy l2)))).mono fun e z he=> ?_;obtain⟨rfl,⟨g,z1⟩,z2⟩:=he;exact⟨.inr rfl,by rw[z1,z2];rfl⟩
    rw[e1];exact zV (T:=Zx prog Zi ZaG ZeZ) func80 Zfp (ZcU a7) (vals:=[sl 0 o 0 c]) (fun v hv=>by rw[List.mem_singleton.1 hv];rfl) (by rfl) hr.w E (s:=fun _=>b) (ZaQ hx a5 a6 rfl)
   ·exact zV (T:=Zx prog Zi ZaG ZeZ) func80 Zvs (ZcU a7) (vals:=[sl 0 o n c]) (fun v hv=>by rw[List.mem_singleton.1 hv];rfl) (by rfl) (Zq8 (ZW r1) l2 (by omega)) E (s:=fun _=>b) (ZaQ hx a5 a6 rfl)
 ·cases hg
end Go.Proofs.YtgefjidphfdhdaaGreatDoor.Na
