/-
  NumRm, RpG
-/
import Derived.Test.YtjlponbdflkbjaaGreatDoorG13
namespace Go.Rd
open Go.Rn Go.Nt
def bt (b:Bool):Nat:=match b with | true=>1 | false=>0
def loW (T:Nat):Nat:=(db 4294967296 T).length-8
def hiS (T:Nat):Nat:=T/2^(32*loW T)
def hiM (T:Nat) (m:Bool):Bool:=m || decide (T % 2^(32*loW T)≠0)
def hiE (T:Nat) (e:Int):Int:=e+32*(loW T:Nat)
theorem zP (k:Nat):(4294967296:Nat)^k=2^(32*k):=by rw[Nat.pow_mul]
theorem Z66 (T:Nat):hiS T<2^256:=by
 unfold hiS;rw[Nat.div_lt_iff_lt_mul (Nat.pow_pos (by omega)),← Nat.pow_add];have h1:=Zbl (b:=4294967296) (by omega) (db 4294967296 T) (Zfx (by omega) T);rw[ZbC (by omega) T,zP] at h1;exact Nat.lt_of_lt_of_le h1 (Nat.pow_le_pow_right (by omega) (by unfold loW;omega))
theorem Z1H {T:Nat}(h:loW T≠0):2^53≤hiS T:=by
 unfold hiS;rw[Nat.le_div_iff_mul_le (Nat.pow_pos (by omega)),← Nat.pow_add];rcases Nat.lt_or_ge T (2^(53+32*loW T)) with h1 | h1
 ·exfalso
  have h2:T<4294967296^(loW T+7):=by
   rw[zP];exact Nat.lt_of_lt_of_le h1 (Nat.pow_le_pow_right (by omega) (by omega))
  have:=ZaZ (b:=4294967296) (by omega) _ _ h2;unfold loW at*;omega
 ·exact h1
theorem Zri {m:Int}{n:Bool}{T:Nat}{b:Bool}{e:Int}:rnP m n (2*hiS T+bt (hiM T b)) (hiE T e-1)=rnP m n (2*T+bt b) (e-1)∧rnF m n (2*hiS T+bt (hiM T b)) (hiE T e-1)=rnF m n (2*T+bt b) (e-1):=by
 by_cases h0:loW T=0
 ·have e1:hiS T=T:=by unfold hiS;rw[h0,Nat.mul_zero,Nat.pow_zero,Nat.div_one]
  have e2:hiM T b=b:=by unfold hiM;rw[h0,Nat.mul_zero,Nat.pow_zero,Nat.mod_one];cases b<;>rfl
  have e3:hiE T e=e:=by unfold hiE;rw[h0];omega
  rw[e1,e2,e3];exact⟨rfl,rfl⟩
 ·have hp:0<2^(32*loW T):=Nat.pow_pos (by omega);have hbt:bt b≤1:=by cases b<;>decide
  have d1:(2*T+bt b)/2^(32*loW T+1)=hiS T:=by
   unfold hiS;rw[Nat.pow_succ,Nat.mul_comm (2^(32*loW T)) 2,← Nat.div_div_eq_div_mul];congr 1;omega
  have d2:(2*T+bt b) % 2^(32*loW T+1)=2*(T % 2^(32*loW T))+bt b:=by
   rw[Nat.pow_succ,Nat.mul_comm (2^(32*loW T)) 2,Nat.mod_mul,show (2*T+bt b)/2=T by omega];omega
  have st:stk (2*T+bt b) (32*loW T+1)=2*hiS T+bt (hiM T b):=by
   unfold stk;rw[d1,d2];congr 1;unfold hiM;cases b with
   | true=>rw[if_neg (by simp [bt])];rfl
   | false=>
    by_cases hz:T % 2^(32*loW T)=0
    ·rw[if_pos (by rw[hz];rfl),Xb (fun h=>h hz)];rfl
    ·rw[if_neg (by simp [bt];omega),Xa hz];rfl
  have hb:=Zc9 (Z1H h0);have r:=ZcC (m:=m) (neg:=n) (A:=2*T+bt b) (d:=32*loW T+1) (F:=e-1) (.inr (by rw[d1];omega));rw[st,show e-1+((32*loW T+1:Nat):Int)-1=hiE T e-1 by unfold hiE;omega] at r;exact r
def upT (A B:Nat):Nat:=((bitLen B:Int)+128-(bitLen A:Int)).toNat
theorem ZiO {A B:Nat}(hA:A≠0) (hB:B≠0):54≤bitLen (A*2^upT A B/B):=by
 refine Zc9 (k:=53) ?_;rw[Nat.le_div_iff_mul_le (by omega)];have h1:=(bitLen_spec A).2 hA;have h2:=(bitLen_spec B).1;have h3:=Za1 hA;have h4:bitLen B+128≤upT A B+bitLen A:=by unfold upT;omega
 refine Nat.le_trans (Nat.mul_le_mul_left _ (Nat.le_of_lt h2)) ?_;rw[← Nat.pow_add];refine Nat.le_trans (Nat.pow_le_pow_right (by omega) (show 53+bitLen B≤(bitLen A-1)+upT A B by omega)) ?_;rw[Nat.pow_add];exact Nat.mul_le_mul_right _ h1
def teT (A:Nat) (j:Int):Nat:=if 0≤j then A*10^j.toNat else A*2^upT A (10^(-j).toNat)/10^(-j).toNat
def teM (A:Nat) (j:Int):Bool:=if 0≤j then false else decide (A*2^upT A (10^(-j).toNat) % 10^(-j).toNat≠0)
def teE (A:Nat) (j:Int):Int:=if 0≤j then 0 else -((upT A (10^(-j).toNat):Nat):Int)
theorem Zrj {m:Int}{n:Bool}{A:Nat}{j:Int}(hA:A≠0):rnP m n (2*hiS (teT A j)+bt (hiM (teT A j) (teM A j))) (hiE (teT A j) (teE A j)-1)=deP m n A j∧rnF m n (2*hiS (teT A j)+bt (hiM (teT A j) (teM A j))) (hiE (teT A j) (teE A j)-1)=deF m n A j:=by
 obtain⟨h1,h2⟩:=Zri (m:=m) (n:=n) (T:=teT A j) (b:=teM A j) (e:=teE A j);rw[h1,h2];unfold teT teM teE;by_cases hj:0≤j
 ·rw[if_pos hj,if_pos hj,if_pos hj];have p:=ZaG m n (A*10^j.toNat) 1 0;have f:=ZaH m n (A*10^j.toNat) 1 0;obtain⟨q1,q2⟩:=Ztk m n (A*10^j.toNat);rw[show 2*(A*10^j.toNat)+bt false=A*10^j.toNat*2^1 by simp only[bt];omega];unfold deP deF;rw[show (-j).toNat=0 by omega,Nat.pow_zero,q1,q2];exact⟨p,f⟩
 ·rw[if_neg hj,if_neg hj,if_neg hj];have hB:=ZbO (-j).toNat;have r:=Znt (m:=m) (n:=n) hA hB (ZiO hA hB);have e:2*(A*2^upT A (10^(-j).toNat)/10^(-j).toNat)+bt (decide (A*2^upT A (10^(-j).toNat) % 10^(-j).toNat≠0))=dvK A (10^(-j).toNat) (upT A (10^(-j).toNat)):=by
   unfold dvK;congr 1;by_cases hz:A*2^upT A (10^(-j).toNat) % 10^(-j).toNat=0
   ·rw[if_pos hz,Xb (fun h=>h hz)];rfl
   ·rw[if_neg hz,Xa hz];rfl
  rw[e];unfold deP deF;rw[show j.toNat=0 by omega,Nat.pow_zero,Nat.mul_one];exact r
def noS (b:Int) (D:List UInt8) (k P:Int):Nat:=if b=16 then nmB 16 (shR 60 D) else hiS (teT (nmB 10 (shR 800 D)) (clF (k+P)-((shR 800 D).length:Nat)))
def noM (b:Int) (D:List UInt8) (k P:Int):Bool:=if b=16 then false else hiM (teT (nmB 10 (shR 800 D)) (clF (k+P)-((shR 800 D).length:Nat))) (teM (nmB 10 (shR 800 D)) (clF (k+P)-((shR 800 D).length:Nat)))
def noE (b:Int) (D:List UInt8) (k P:Int):Int:=if b=16 then P+4*(k-((shR 60 D).length:Nat)) else hiE (teT (nmB 10 (shR 800 D)) (clF (k+P)-((shR 800 D).length:Nat))) (teE (nmB 10 (shR 800 D)) (clF (k+P)-((shR 800 D).length:Nat)))
theorem ZnA (k:Nat) (D:List UInt8):(shR k D).length≤k+1:=by
 unfold shR;split
 ·omega
 ·rw[List.length_append,List.length_take,List.length_singleton];omega
theorem Z1I (b:Int) (D:List UInt8) (k P:Int):noS b D k P<2^256:=by
 unfold noS;split
 ·refine Nat.lt_of_lt_of_le (Zeo (.inr rfl) _) (Nat.pow_le_pow_right (by omega) ?_);have:=ZnA 60 D;omega
 ·exact Z66 _
theorem Zrk {m:Int}{n:Bool}{b:Int}(hb:b=10∨b=16) {l:List UInt8}(hl:l.length≤10000) (ha:zf b l=true) (hz:trZ l≠[]) {k:Nat}(hk:k≤l.length) {P Q:Int}(hP:ZgF Q P):
  rnP m n (2*noS b (nuD l) (((trZ l).length:Nat)-(k:Int)) Q+bt (noM b (nuD l) (((trZ l).length:Nat)-(k:Int)) Q)) (noE b (nuD l) (((trZ l).length:Nat)-(k:Int)) Q-1)=rnP m n (dnA b (trZ l) k P).1 (dnA b (trZ l) k P).2∧rnF m n (2*noS b (nuD l) (((trZ l).length:Nat)-(k:Int)) Q+bt (noM b (nuD l) (((trZ l).length:Nat)-(k:Int)) Q)) (noE b (nuD l) (((trZ l).length:Nat)-(k:Int)) Q-1)=rnF m n (dnA b (trZ l) k P).1 (dnA b (trZ l) k P).2:=by
 unfold noS noM noE;rcases hb with rfl | rfl
 ·rw[if_neg (by decide),if_neg (by decide),if_neg (by decide)];have hA:nmB 10 (shR 800 (nuD l))≠0:=by
   obtain⟨c,r,hT⟩:∃ c r,trZ l=c::r:=by
    cases h:trZ l with
    | nil=>exact absurd h hz
    | cons c r=>exact⟨c,r,rfl⟩
   have hc:=ZaQ ha hT;obtain⟨r',hr'⟩:=ZcH (b:=10) (r:=r) hc;obtain⟨r2,hr2⟩:∃ r2,shR 800 (nuD l)=c::r2:=by
    unfold nuD shR;rw[hT,hr'];split
    ·exact⟨_,rfl⟩
    ·exact⟨_,rfl⟩
   have:=Zbs (b:=10) (.inl rfl) (r:=r2) hc;rw[hr2];omega
  obtain⟨t1,t2⟩:=Zrj (m:=m) (n:=n) (j:=clF (((trZ l).length:Nat)-(k:Int)+Q)-((shR 800 (nuD l)).length:Nat)) hA;obtain⟨d1,d2⟩:=Zrh (m:=m) (n:=n) hl ha hz hk hP;exact⟨t1.trans d1,t2.trans d2⟩
 ·rw[if_pos rfl,if_pos rfl,if_pos rfl];have h:=Zrg (m:=m) (n:=n) hl ha hz hk hP;obtain⟨A,hA⟩:∃ A,A=nmB 16 (shR 60 (nuD l)):=⟨_,rfl⟩;obtain⟨E,hE⟩:∃ E,E=Q+4*(((trZ l).length:Nat)-(k:Int)-((shR 60 (nuD l)).length:Nat)):=⟨_,rfl⟩;rw[← hA,← hE] at h;rw[← hA,← hE];have p:=ZaG m n A 1 E;have f:=ZaH m n A 1 E;rw[show 2*A+bt false=A*2^1 by simp only[bt];omega];exact⟨p.trans h.1,f.trans h.2⟩
end Go.Rd
namespace Go.Proofs.YtjlponbdflkbjaaGreatDoor.Na
open Go.KRun Go.Nt Go.Rd
set_option maxRecDepth 100000
theorem Zep (V:Nat):V<4294967296^(d32 V).length:=by
 have:=Zbl (b:=4294967296) (by omega) (d32 V) (ZfB V);rw[show vb 4294967296 (d32 V)=V from ZbC (by omega) V] at this;exact this
theorem Zw7 {V:Nat}(h:0<(d32 V).length):4294967296^((d32 V).length-1)≤V:=by
 rcases Nat.lt_or_ge V (4294967296^((d32 V).length-1)) with h1 | h1
 ·have:(d32 V).length≤(d32 V).length-1:=ZaZ (b:=4294967296) (by omega) _ _ h1;omega
 ·exact h1
theorem Zbt {V:Nat}(h:V≠0):0<(d32 V).length:=(ZeX (b:=4294967296) (by omega)).2 (by omega)
theorem ZgH {V:Nat}(h0:V≠0) (h:(d32 V).length≤8192):Zdy (d32 V)=((bitLen V:Nat):Int):=by
 have hp:=Zbt h0;have hc:=Zc8 V;obtain⟨L,hL⟩:∃ L,L=d32 V:=⟨_,rfl⟩;have eV:vb 4294967296 L=V:=by rw[hL];exact ZbC (by omega) V
 rw[← hL] at hp hc h ⊢;have hb:ZU L=false:=by
  unfold ZU;rw[Xb (by omega),Bool.false_or];rcases hc.2 with h0 | h0
  ·omega
  ·rw[beq_eq_false_iff_ne.2 h0,Bool.and_false]
 have e1:Zdy L=32*((L.length-1:Nat):Int)+(bitLen (L.getD (L.length-1) 0).toNat:Nat):=by
  unfold Zdy;rw[hb,beq_eq_false_iff_ne.2 (show L.length≠0 by omega)];rfl
 have ht:=Zag 4294967296 L (L.length-1);rw[show L.length-1+1=L.length by omega,List.take_length,eV] at ht;have lo:vb 4294967296 (L.take (L.length-1))<4294967296^(L.length-1):=by
  have h1:=Zbl (b:=4294967296) (by omega) (L.take (L.length-1)) (fun x hx=>hc.1 x (List.mem_of_mem_take hx));rw[List.length_take,Nat.min_eq_left (by omega)] at h1;exact h1
 have hpw:0<4294967296^(L.length-1):=Nat.pow_pos (by omega);have htop:(L.getD (L.length-1) 0).toNat≠0:=by
  have hlt:L.length-1<L.length:=by omega
  have hw:=hc.1 (L.getD (L.length-1) 0) (by simp [List.getD,List.getElem?_eq_getElem hlt]);rcases hc.2 with h1 | h1
  ·omega
  ·have:L.getD (L.length-1) 0≠0:=h1;omega
 have hdiv:V/2^(32*(L.length-1))=(L.getD (L.length-1) 0).toNat:=by
  rw[← zP,ht,Nat.add_comm,Nat.mul_add_div hpw,Nat.div_eq_of_lt lo,Nat.add_zero]
 have hs:=bitLen_shift V (32*(L.length-1)) (by rw[hdiv];exact htop);rw[hdiv] at hs;rw[e1,hs];omega
section
variable {H : Hp} {p q : Option Addr} {n c n' c' V W : Nat}
theorem Z8C (h:IsR H p n c V) (h0:V≠0):decide (Zdy (Zq H p n)=((bitLen V:Nat):Int))=true:=by
 rw[h.2.2.1];exact Xa (ZgH h0 (by have:=h.2.2.2.2;have:=h.2.2.2.1;omega))
theorem Z9u (h:IsR H p n c V) (k:Nat):decide (ZgT (Zq H p n) ((k:Nat):Int).toNat=dg (sM n (k:Nat)) ((V*2^k:Nat):Int))=true:=by
 refine Xa ?_;unfold ZgT sM;rw[h.2.2.1,← h.2.2.2.1,Zg2,Xg,Int.natCast_mul,Go.Wd.cast_pow]
theorem Z67 (h:IsR H p n c V) (k:Nat):(ZU (Zq H p n) || decide (((k:Nat):Int)<0))=false:=by
 rw[h.good,Xb (by omega)];rfl
theorem Z9v (h:IsR H p n c V) (h0:V≠0) {k:Nat}(hk:k≤200000):decide (((k:Nat):Int)>262144-Zdy (Zq H p n))=false:=by
 have hn:=h.2.2.2.2;have hl:=h.2.2.2.1;rw[h.2.2.1,ZgH h0 (by omega)];have:bitLen V≤32*n:=Go.Rn.len_le (by rw[← zP];rw[hl];exact Zep V);exact Xb (by omega)
theorem rNe (h:IsR H p n c V) (h0:V≠0):decide (n=0)=false:=by
 have:=Zbt h0;have:=h.2.2.2.1;exact Xb (by omega)
end
theorem Z1J {V k n:Nat}(h:V<4294967296^n):V*2^k<4294967296^sM n (k:Nat):=by
 unfold sM;rw[Xg,Nat.add_comm (k/32),zP];rw[zP] at h;have h2:(2:Nat)^k<2^(32*(k/32+1)):=Nat.pow_lt_pow_right (by omega) (by omega);have:=Nat.mul_lt_mul'' h h2;rw[← Nat.pow_add] at this;rw[show 32*(n+1+k/32)=32*n+32*(k/32+1) by omega];exact this
theorem Z1K {S P:Nat}(hP:P≠0) (hS:(d32 P).length≤(d32 S).length):S/P<4294967296^((d32 S).length-(d32 P).length+1):=by
 have h1:=Zep S;have h2:=Zw7 (Zbt hP);have h3:=Zbt hP;rw[Nat.div_lt_iff_lt_mul (by omega)];refine Nat.lt_of_lt_of_le h1 ?_;refine Nat.le_trans ?_ (Nat.mul_le_mul_left _ h2);rw[← Nat.pow_add];exact Nat.pow_le_pow_right (by omega) (by omega)
theorem Z1L {S P:Nat}(h:P≤S):(d32 P).length≤(d32 S).length:=ZaZ (b:=4294967296) (by omega) _ _ (Nat.lt_of_le_of_lt h (Zep S))
theorem Z1M {D:List UInt8}(h:zf 10 D=true):psV ⟨⟨D⟩⟩=nmB 10 D:=by
 have key:∀ k,k≤D.length→zC (dgF ⟨⟨D⟩⟩) k=nmB 10 (D.take k):=by
  intro k
  induction k with
  | zero=>intro _;rfl
  | succ k ih=>
   intro hk;have hd:0≤ZO (lq8 (D.getD k 0)) 10:=by
    unfold zf at h;refine Xc (List.all_eq_true.1 h _ ?_);rw[List.getD_eq_getElem?_getD,List.getElem?_eq_getElem (by omega),Option.getD_some];exact List.getElem_mem (by omega)
   have e:dgF ⟨⟨D⟩⟩ k=ZO (lq8 (D.getD k 0)) 10:=by
    have:=ZaR hd;unfold ZO;rw[if_pos this];rfl
   rw[zC,ih (by omega),ZfM 10 D (by omega),e,Nat.mul_comm];rfl
 have:=key D.length (Nat.le_refl _);rw[List.take_length] at this;exact this
theorem Zw8 {D:List UInt8}(h:zf 10 D=true) (h0:D≠[]):okP ⟨⟨D⟩⟩=true:=by
 refine (Zht _).2 ⟨List.length_pos_iff.2 h0,fun j hj=> ?_⟩;have hj:j<D.length:=hj;have hd:0≤ZO (lq8 (D.getD j 0)) 10:=by
  unfold zf at h;refine Xc (List.all_eq_true.1 h _ ?_);rw[List.getD_eq_getElem?_getD,List.getElem?_eq_getElem hj,Option.getD_some];exact List.getElem_mem hj
 have:=ZaR hd;show (decide (lq8 (D.getD j 0)<48) || decide (lq8 (D.getD j 0)>57))=false;rw[Xb (by omega),Xb (by omega)];rfl
theorem Zh8 (k:Nat):(10:Nat)^k<4294967296^(k/9+1):=by
 refine Nat.lt_of_le_of_lt (Nat.pow_le_pow_right (by omega) (show k≤9*(k/9+1) by omega)) ?_;rw[Nat.pow_mul];exact Nat.pow_lt_pow_left (by decide) (by omega)
theorem Zh9 {H:Hp}{b k:Nat}{j:Int}(hj:j=(k:Nat)) (hk:k≤2000) (hb:H.blk? b=some (wU (dg (pMi 10 j) ((10^k:Nat):Int)),tU)):IsR H (some ⟨b,0,none⟩) (Zl (dg (pMi 10 j) ((10^k:Nat):Int))) (pMi 10 j) (10^k)∧(d32 (10^k)).length≤k/9+1:=by
 have e:pMi 10 j=pM 10 k:=by unfold pMi;rw[hj,Xg];rfl
 have h:10^k<4294967296^pM 10 k∧pM 10 k≤1000:=by
  by_cases h0:k=0
  ·subst h0;exact⟨by show 1<4294967296^2;decide,by show 2≤1000;decide⟩
  ·exact Z1p (Ztb hk) (by omega) (Nat.le_refl _) (by omega)
 rw[e] at hb ⊢;exact⟨Zkt hb h.1 h.2,ZjV (Zh8 k)⟩
end Go.Proofs.YtjlponbdflkbjaaGreatDoor.Na
