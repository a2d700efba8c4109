/-
  NumRj, NumRf, NumRg, NumRk, NumRl, NumRm, RpG
-/
import Derived.Test.YtjlponbdflkbjaaGreatDoorG13
import Derived.Lib.Bytealg
namespace Go.Rd
open Go.Rn
theorem Zrf {m:Int}{neg:Bool}{A d:Nat}{F:Int}(hA:A≠0) (h1:F+d+1≤ -1074) (h2:lgN A F≤ -1024):rnP m neg (stk A d) (F+d-1)=rnP m neg A F∧rnF m neg (stk A d) (F+d-1)=rnF m neg A F:=by
 have hp:0<2^d:=Nat.pow_pos (by omega);have hdm:=Nat.div_add_mod A (2^d);have hs:stk A d≠0:=by
  unfold stk;intro h;have hq:A/2^d=0:=by omega
  rw[hq,Nat.mul_zero,Nat.zero_add] at hdm;rw[hdm,if_neg hA] at h;omega
 have hl:lgN (stk A d) (F+d-1)≤ -1024:=by
  by_cases hq:A/2^d=0
  ·have h3:stk A d<2^1:=by unfold stk;rw[hq];split<;>omega
   have:=len_le h3;unfold lgN;omega
  ·rw[Zn0 hq];exact h2
 have l1:z5 (stk A d) (F+d-1)= -1074:=by unfold z5;rw[if_pos (by omega)]
 have l2:z5 A F= -1074:=by unfold z5;rw[if_pos (by omega)]
 have e1:p0 m neg (stk A d) (F+d-1)=p0 m neg A F:=by unfold p0;rw[l1,l2,ZhC m neg A d h1]
 have e2:ZdC m neg (stk A d) (F+d-1)=ZdC m neg A F:=by
  unfold ZdC;rw[if_neg (by omega),if_neg (by omega),Xa (show lgN (stk A d) (F+d-1)< -1022 by omega),Xa (show lgN A F< -1022 by omega)]
 unfold rnP rnF;rw[if_neg hs,if_neg hA,if_neg hs,if_neg hA,e1,l1,l2,Zny A d h1,e2];exact⟨rfl,rfl⟩
theorem Z1D {A B J:Nat}(hA:A≠0) (h:A*2^J<B):J+80≤upN A B:=by
 have h1:bitLen A+J≤bitLen B:=by
  have:=ZcC (T:=B) (k:=bitLen A-1+J) (by
   rw[Nat.pow_add];exact Nat.le_of_lt (Nat.lt_of_le_of_lt (Nat.mul_le_mul_right _ ((bitLen_spec A).2 hA)) h))
  have:=Za1 hA;omega
 unfold upN;omega
theorem Zwz {m:Int}{n:Bool}{A B J K:Nat}(hA:A≠0) (hB:B≠0) (hJ:J=1023) (hK:K=1075) (h:A*2^J<B):rnP m n (dvK A B K) (-(K:Int)-1)=rqP m n A B∧rnF m n (dvK A B K) (-(K:Int)-1)=rqF m n A B:=by
 have hu:=Z1D hA h;have hb:=ZcH hA hB;have hq:A*2^upN A B/B≠0:=fun h0=>by rw[h0] at hb;exact absurd hb (by decide)
 have hT:dvK A B (upN A B)≠0:=fun h0=>by
  unfold dvK at h0;omega
 have h1:A*2^upN A B/B<2^(upN A B-J):=by
  rw[Nat.div_lt_iff_lt_mul (by omega)];have e:2^upN A B=2^J*2^(upN A B-J):=by rw[← Nat.pow_add];congr 1;omega
  rw[e,← Nat.mul_assoc,Nat.mul_comm (2^(upN A B-J))];exact Nat.mul_lt_mul_of_pos_right h (Nat.pow_pos (by omega))
 have h2:=len_le h1;have h3:=Zwy hq;obtain⟨j,hj⟩:∃ j,upN A B=K+j:=⟨upN A B-K,by omega⟩;unfold rqP rqF;rw[hj] at hT h3 h2 ⊢;have r:=Zrf (m:=m) (neg:=n) (A:=dvK A B (K+j)) (d:=j+1) (F:= -((K+j:Nat):Int)-1) hT (by omega) (by omega);rw[Zn3,show -((K+j:Nat):Int)-1+((j+1:Nat):Int)-1= -(K:Int)-1 by omega] at r;exact r
theorem Ztt {q C r G k:Nat}(h0:0<r) (h1:r<C) (hk:k≤G):dvK (q*C+r) (10^G*C) k=2*(q*2^k/10^G)+1:=by
 have hC:0<C:=by omega
 have h2:0<2^k:=Nat.pow_pos (by omega);obtain⟨H,hH⟩:∃ H,10^G=H*2^k:=⟨2^(G-k)*5^G,by
  rw[show (10:Nat)=2*5 from rfl,Nat.mul_pow,Nat.mul_assoc,Nat.mul_comm (5^G),← Nat.mul_assoc,← Nat.pow_add,show G-k+k=G by omega]⟩
 have e1:10^G*C=C*H*2^k:=by rw[hH,Nat.mul_comm,Nat.mul_assoc]
 have e2:(q*C+r)/C=q:=by rw[Nat.mul_comm,Nat.mul_add_div hC,Nat.div_eq_of_lt h1,Nat.add_zero]
 have e3:(q*C+r) % C=r:=by rw[Nat.mul_comm,Nat.mul_add_mod,Nat.mod_eq_of_lt h1]
 have e4:(q*C+r) % (C*H)≠0:=fun h=>by
  have h3:C ∣ q*C+r:=Nat.dvd_trans ⟨H,rfl⟩ (Nat.dvd_of_mod_eq_zero h);have:=Nat.mod_eq_zero_of_dvd h3;omega
 unfold dvK;rw[e1,Nat.mul_div_mul_right _ _ h2,Nat.mul_mod_mul_right,← Nat.div_div_eq_div_mul,e2,hH,Nat.mul_div_mul_right _ _ h2,if_neg (fun h=>(Nat.mul_eq_zero.1 h).elim e4 (by omega))]
theorem Ztu {m:Int}{n:Bool}{q C r C' r' G k:Nat}(hr:0<r) (hC:r<C) (hr':0<r') (hC':r'<C') (hk:k≤G) (hb:54≤bitLen (q*2^k/10^G)):rqP m n (q*C+r) (10^G*C)=rqP m n (q*C'+r') (10^G*C')∧rqF m n (q*C+r) (10^G*C)=rqF m n (q*C'+r') (10^G*C'):=by
 have key:∀ {C r:Nat},0<r→r<C→rnP m n (2*(q*2^k/10^G)+1) (-(k:Int)-1)=rqP m n (q*C+r) (10^G*C)∧rnF m n (2*(q*2^k/10^G)+1) (-(k:Int)-1)=rqF m n (q*C+r) (10^G*C):=fun {C r} h0 h1=>by
  have e:=Ztt (q:=q) (G:=G) h0 h1 hk;have ed:(q*C+r)*2^k/(10^G*C)=q*2^k/10^G:=by unfold dvK at e;split at e<;>omega
  have:=Zn4 (m:=m) (n:=n) (A:=q*C+r) (B:=10^G*C) (k:=k) (by omega) (ZgJ (ZbQ _) (by omega)) (by rw[ed];exact hb);rw[e] at this;exact this
 obtain⟨a1,a2⟩:=key hr hC;obtain⟨b1,b2⟩:=key hr' hC';exact⟨a1.symm.trans b1,a2.symm.trans b2⟩
theorem Zw0 {m:Int}{n:Bool}{q C r C' r' G J K:Nat}(hr:0<r) (hC:r<C) (hr':0<r') (hC':r'<C') (hJ:J=1023) (hK:K=1075) (hk:K≤G) (hb:(q+1)*2^J≤10^G):rqP m n (q*C+r) (10^G*C)=rqP m n (q*C'+r') (10^G*C')∧rqF m n (q*C+r) (10^G*C)=rqF m n (q*C'+r') (10^G*C'):=by
 have key:∀ {C r:Nat},0<r→r<C→rnP m n (2*(q*2^K/10^G)+1) (-(K:Int)-1)=rqP m n (q*C+r) (10^G*C)∧rnF m n (2*(q*2^K/10^G)+1) (-(K:Int)-1)=rqF m n (q*C+r) (10^G*C):=fun {C r} h0 h1=>by
  have e:=Ztt (q:=q) (G:=G) h0 h1 hk;have h3:(q*C+r)*2^J<10^G*C:=by
   have h4:q*C+r<(q+1)*C:=by rw[Nat.add_mul,Nat.one_mul];omega
   refine Nat.lt_of_lt_of_le (Nat.mul_lt_mul_of_pos_right h4 (Nat.pow_pos (by omega))) ?_;rw[Nat.mul_right_comm];exact Nat.mul_le_mul_right _ hb
  have:=Zwz (m:=m) (n:=n) (A:=q*C+r) (B:=10^G*C) (by omega) (ZgJ (ZbQ _) (by omega)) hJ hK h3;rw[e] at this;exact this
 obtain⟨a1,a2⟩:=key hr hC;obtain⟨b1,b2⟩:=key hr' hC';exact⟨a1.symm.trans b1,a2.symm.trans b2⟩
theorem Z1E {j i:Nat}(h:j≤3*i):(10:Nat)^j≤2^(10*i):=by
 refine Nat.le_trans (Nat.pow_le_pow_right (by omega) h) ?_;rw[Nat.pow_mul,Nat.pow_mul];exact Nat.pow_le_pow_left (by decide) i
theorem Zrg {m:Int}{n:Bool}{q C r C' r' M G:Nat}{a:Int}(hM:M=799) (hG:(G:Int)=800-a) (ha:a≤400) (hq:10^M≤q) (hq':q<10^(M+1)) (hr:0<r) (hC:r<C) (hr':0<r') (hC':r'<C'):rqP m n (q*C+r) (10^G*C)=rqP m n (q*C'+r') (10^G*C')∧rqF m n (q*C+r) (10^G*C)=rqF m n (q*C'+r') (10^G*C'):=by
 by_cases h1:1≤a
 ·refine Ztu (k:=53) hr hC hr' hC' (by omega) (ZcC (k:=53) ?_);rw[Nat.le_div_iff_mul_le (Nat.pow_pos (by omega)),Nat.mul_comm];exact Nat.mul_le_mul_right _ (Nat.le_trans (Nat.pow_le_pow_right (by omega) (by omega)) hq)
 obtain⟨b,hb⟩:∃ b:Nat,a= -(b:Int):=⟨(-a).toNat,by omega⟩;have eG:G=M+(b+1):=by omega
 by_cases h2:b≤315
 ·refine Ztu (k:=53+10*((b+3)/3)) hr hC hr' hC' (by omega) (ZcC (k:=53) ?_);rw[Nat.le_div_iff_mul_le (Nat.pow_pos (by omega)),eG,Nat.pow_add,Nat.pow_add 2,Nat.mul_left_comm,Nat.mul_left_comm q];rw[Nat.mul_left_comm];refine Nat.mul_le_mul_left _ (Nat.mul_le_mul hq ?_);exact Z1E (by omega)
 ·obtain⟨J,hJ⟩:∃ J,J=1023:=⟨_,rfl⟩;obtain⟨K,hK⟩:∃ K,K=1075:=⟨_,rfl⟩;refine Zw0 (J:=J) (K:=K) hr hC hr' hC' hJ hK (by omega) ?_;rw[show G=(M+1)+b by omega,Nat.pow_add];exact Nat.mul_le_mul hq' (ZhD (i:=11) (by omega) (by omega))
def chD (d:Nat):UInt8:=UInt8.ofNat (48+d)
def Zkf:Nat→Nat→List UInt8
 | 0,_=>[]
 | f+1,n=>if n<10 then [chD n] else Zkf f (n/10)++[chD (n % 10)]
def dcL (n:Nat):List UInt8:=Zkf 20 n
theorem Zrh {d:Nat}(h:d<10):(([48,49,50,51,52,53,54,55,56,57]:List UInt8).drop d).take 1=[chD d]:=by
 have key:∀ x:Fin 10,(([48,49,50,51,52,53,54,55,56,57]:List UInt8).drop x.1).take 1=[chD x.1]:=by decide
 exact key ⟨d,h⟩
theorem Z1F {n:Nat}(h:n<18446744073709551616):n<10^20:=Nat.lt_trans h (by decide)
theorem Z64 (b:Int):ZU 46 b= -1:=by
 unfold ZU;rw[if_neg (by omega),if_neg (by omega)]
theorem Z65 {b:Int}{A:List UInt8}(h:zG b A=true) (p:Bool) (r:List UInt8):sc1 b p (A++r)=(A++(sc1 b p r).1,(if p=true then A.length else 0)+(sc1 b p r).2.1,(sc1 b p r).2.2):=by
 induction A with
 | nil=>simp
 | cons c A ih=>
  unfold zG at h ih;rw[List.all_cons,Xh] at h;have h1:=Xc h.1;have h46:lq8 c≠46:=fun h'=>by rw[h',Z64] at h1;omega
  rw[List.cons_append,sc1,if_neg (fun h'=>h46 h'.1),if_pos h1,ih h.2];cases p<;>simp<;>omega
theorem Zri {b:Int}{A B:List UInt8}(hA:zG b A=true) (hB:zG b B=true):zG b (A++B)=true:=by
 unfold zG at*;rw[List.all_append,hA,hB];rfl
theorem Zdv {c:UInt8}(h:0≤ZU (lq8 c) 10):48≤lq8 c∧lq8 c≤57:=by
 unfold ZU at h;split at h
 ·assumption
 ·rw[if_neg (by omega)] at h;omega
def dvB (c:Int):Int:=if 48≤c∧c≤57 then c-48 else if 97≤c∧c≤102 then c-87 else 16
theorem Z1G (c:Int):0≤dvB c∧dvB c≤16:=by
 unfold dvB;split
 ·omega
 ·split<;>omega
theorem Zdw {c b:Int}(hb:b=10∨b=16):dvB c<b↔0≤ZU c b:=by
 unfold dvB ZU;split
 ·constructor<;>omega
 ·split
  ·rcases hb with rfl | rfl
   ·rw[if_neg (by omega)];omega
   ·rw[if_pos (by omega)];omega
  ·rw[if_neg (by omega)];omega
theorem Zn9 {c b:Int}(h:0≤ZU c b):ZU c b=dvB c:=by
 unfold dvB;unfold ZU at*;split
 ·rfl
 ·rename_i h1;rw[if_neg h1] at h;split
  ·rename_i h2;rw[if_pos ⟨h2.2.1,h2.2.2⟩]
  ·rename_i h2;rw[if_neg h2] at h;omega
theorem ZgL {c d:UInt8}:lq8 c=lq8 d↔c=d:=by
 unfold lq8;constructor
 ·intro h;exact UInt8.toNat_inj.1 (by omega)
 ·intro h;rw[h]
def Zar (p l:List UInt8):Bool:=decide (p.length≤l.length∧l.take p.length=p)
theorem ZdG (d:UInt8) (l:List UInt8):Zar [d] l=true↔∃ r,l=d::r:=by
 unfold Zar;rw[Xi];constructor
 ·rintro⟨h1,h2⟩;cases l with
  | nil=>simp at h1
  | cons c r=>
   simp at h2;exact⟨r,by rw[h2]⟩
 ·rintro⟨r,rfl⟩;simp
theorem ZbR (d:UInt8) {c:UInt8}{r:List UInt8}(h:c≠d):Zar [d] (c::r)=false:=by
 rw[Bool.eq_false_iff];intro h';obtain⟨r',e⟩:=(ZdG d (c::r)).1 h'
 injection e with e1 e2
 exact h e1
theorem ZnA (l:List UInt8):sgT l=if Zar [45] l=true then (true,l.drop 1) else if Zar [43] l=true then (false,l.drop 1) else (false,l):=by
 cases l with
 | nil=>rfl
 | cons c r=>
  have e45:lq8 c=45↔c=45:=ZgL (d:=45);have e43:lq8 c=43↔c=43:=ZgL (d:=43);rw[sgT];by_cases h1:c=45
  ·rw[if_pos (e45.2 h1),if_pos ((ZdG 45 _).2 ⟨r,by rw[h1]⟩)];rfl
  ·rw[if_neg (fun h=>h1 (e45.1 h)),ZbR 45 h1,if_neg (show ¬ (false=true) by decide)];by_cases h2:c=43
   ·rw[if_pos (e43.2 h2),if_pos ((ZdG 43 _).2 ⟨r,by rw[h2]⟩)];rfl
   ·rw[if_neg (fun h=>h2 (e43.1 h)),ZbR 43 h2,if_neg (show ¬ (false=true) by decide)]
theorem Zw1 (u:List UInt8):rdB u=if Zar [48,120] u=true then (16,u.drop 2) else (10,u):=by
 unfold rdB Zar;by_cases h:1<u.length∧u.take 2=[48,120]
 ·rw[if_pos h,if_pos (Xa ⟨by simp;omega,h.2⟩)]
 ·rw[if_neg h,if_neg (fun h'=>h (by
   have:=Xc h';exact⟨by have:=this.1;simp at this;omega,this.2⟩))]
theorem ZhE (l:List UInt8):(sgT l).2.length≤l.length:=by
 rw[ZnA];split
 ·rw[List.length_drop];omega
 ·split
  ·rw[List.length_drop];omega
  ·exact Nat.le_refl _
def en1 (b:Int):Bool→List UInt8→Nat
 | _,[]=>0
 | p,c::l=>if dvB (lq8 c)<b then en1 b p l+1 else if lq8 c=46∧p=false then en1 b true l+1 else 0
theorem Ztv (b:Int) (p:Bool) (l:List UInt8):en1 b p l≤l.length:=by
 induction l generalizing p with
 | nil=>exact Nat.le_refl _
 | cons c l ih=>
  rw[List.length_cons];unfold en1;have h1:=ih p;have h2:=ih true;split
  ·omega
  ·split<;>omega
def ctA (l:List UInt8):List UInt8:=if 0≤Lib.indexByte l 46 then l.take (Lib.indexByte l 46).toNat else l
def ctB (l:List UInt8):List UInt8:=if 0≤Lib.indexByte l 46 then l.drop ((Lib.indexByte l 46).toNat+1) else []
theorem Z1H (l:List UInt8):ctA (46::l)=[]∧ctB (46::l)=l:=by
 have e:Lib.indexByte (46::l) 46=0:=by unfold Lib.indexByte;rfl
 unfold ctA ctB;rw[e];exact⟨rfl,rfl⟩
theorem ZhF {c:UInt8}(h:c≠46) (l:List UInt8):ctA (c::l)=c::ctA l∧ctB (c::l)=ctB l:=by
 have e:Lib.indexByte (c::l) 46=if Lib.indexByte l 46== -1 then -1 else Lib.indexByte l 46+1:=by
  rw[Lib.indexByte,if_neg (by simpa using h)]
 have hg:=Lib.indexByte_ge l 46;unfold ctA ctB;by_cases hm:Lib.indexByte l 46= -1
 ·have e':Lib.indexByte (c::l) 46= -1:=by rw[e,hm];rfl
  rw[e',hm,if_neg (by decide),if_neg (by decide),if_neg (by decide),if_neg (by decide)];exact⟨rfl,rfl⟩
 ·have e':Lib.indexByte (c::l) 46=Lib.indexByte l 46+1:=by rw[e,if_neg (by simpa using hm)]
  have e2:(Lib.indexByte l 46+1).toNat=(Lib.indexByte l 46).toNat+1:=by omega
  rw[e',if_pos (show 0≤Lib.indexByte l 46+1 by omega),if_pos (show 0≤Lib.indexByte l 46+1 by omega),if_pos (show 0≤Lib.indexByte l 46 by omega),if_pos (show 0≤Lib.indexByte l 46 by omega),e2];exact⟨rfl,rfl⟩
theorem Zrj {b:Int}(hb:b=10∨b=16) (l:List UInt8):sc1 b true l=(l.take (en1 b true l),en1 b true l,l.drop (en1 b true l))∧ctA (l.take (en1 b true l))=l.take (en1 b true l)∧ctB (l.take (en1 b true l))=[]:=by
 induction l with
 | nil=>exact⟨rfl,rfl,rfl⟩
 | cons c l ih=>
  obtain⟨i1,i2,i3⟩:=ih;unfold sc1 en1;rw[if_neg (by intro h;exact absurd h.2 (by decide))];by_cases hd:dvB (lq8 c)<b
  ·have hd':=(Zdw hb).1 hd;have hc:c≠46:=fun h=>by
    rw[h] at hd';exact absurd hd' (by rw[show lq8 46=46 from rfl,Z64];decide)
   rw[if_pos hd',if_pos hd,i1];obtain⟨c1,c2⟩:=ZhF hc (l.take (en1 b true l));refine⟨?_,?_,?_⟩
   ·rw[if_pos rfl,List.take_succ_cons,List.drop_succ_cons,Nat.add_comm]
   ·rw[List.take_succ_cons,c1,i2]
   ·rw[List.take_succ_cons,c2,i3]
  ·rw[if_neg (fun h=>hd ((Zdw hb).2 h)),if_neg hd,if_neg (by intro h;exact absurd h.2 (by decide))];exact⟨rfl,rfl,rfl⟩
theorem ZnB {b:Int}(hb:b=10∨b=16) (l:List UInt8):sc1 b false l=(ctA (l.take (en1 b false l))++ctB (l.take (en1 b false l)),(ctB (l.take (en1 b false l))).length,l.drop (en1 b false l)):=by
 induction l with
 | nil=>rfl
 | cons c l ih=>
  unfold sc1 en1;by_cases h46:lq8 c=46
  ·have hc:c=46:=(ZgL (d:=46)).1 h46;have hd:¬ dvB (lq8 c)<b:=fun h=>by
    have:=(Zdw hb).1 h;rw[h46,Z64] at this;exact absurd this (by decide)
   obtain⟨t1,t2,t3⟩:=Zrj hb l;rw[if_pos ⟨h46,rfl⟩,if_neg hd,if_pos ⟨h46,rfl⟩,t1,List.take_succ_cons,List.drop_succ_cons,hc,(Z1H _).1,(Z1H _).2,List.nil_append,List.length_take,Nat.min_eq_left (Ztv b true l)]
  ·have hc:c≠46:=fun h=>h46 (by rw[h];rfl);rw[if_neg (fun h=>h46 h.1)];by_cases hd:dvB (lq8 c)<b
   ·rw[if_pos ((Zdw hb).1 hd),if_pos hd,ih,List.take_succ_cons,List.drop_succ_cons,(ZhF hc _).1,(ZhF hc _).2,if_neg (by decide),Nat.zero_add,List.cons_append]
   ·rw[if_neg (fun h=>hd ((Zdw hb).2 h)),if_neg hd,if_neg (fun h=>h46 h.1)];rfl
theorem ZgM (M:Nat) (f:UInt8→Nat) (l:List UInt8) (a:Nat):l.foldl (fun a c=>min (a*10+f c) M) (min a M)=min (l.foldl (fun a c=>a*10+f c) a) M:=by
 induction l generalizing a with
 | nil=>rfl
 | cons c l ih=>
  rw[List.foldl_cons,List.foldl_cons,← ih (a*10+f c)];congr 1;omega
def pwM (M:Nat):Nat→List UInt8→Nat×Bool
 | a,[]=>(a,true)
 | a,c::l=>if dvB (lq8 c)<10 then pwM M (min (a*10+(dvB (lq8 c)).toNat) M) l else (0,false)
theorem ZcI (b:Int) (c:UInt8) (l:List UInt8):zG b (c::l)=(decide (0≤ZU (lq8 c) b) && zG b l):=rfl
theorem Zw2 (M a:Nat) (l:List UInt8):(pwM M a l).2=zG 10 l:=by
 induction l generalizing a with
 | nil=>rfl
 | cons c l ih=>
  unfold pwM;rw[ZcI];by_cases h:dvB (lq8 c)<10
  ·rw[if_pos h,ih,Xa ((Zdw (.inl rfl)).1 h),Bool.true_and]
  ·rw[if_neg h,Xb (fun h'=>h ((Zdw (.inl rfl)).2 h')),Bool.false_and]
theorem ZnC (a:Nat) (l:List UInt8):(pw1 a l).2=zG 10 l:=by
 induction l generalizing a with
 | nil=>rfl
 | cons c l ih=>
  unfold pw1;rw[ZcI];by_cases h:0≤ZU (lq8 c) 10
  ·rw[if_pos h,ih,Xa h,Bool.true_and]
  ·rw[if_neg h,Xb h,Bool.false_and]
theorem Zrk {M a:Nat}{l:List UInt8}(h:zG 10 l=true):(pwM M a l).1=l.foldl (fun a c=>min (a*10+(ZU (lq8 c) 10).toNat) M) a:=by
 induction l generalizing a with
 | nil=>rfl
 | cons c l ih=>
  rw[ZcI,Xh,Xi] at h;unfold pwM;rw[if_pos ((Zdw (.inl rfl)).2 h.1),ih h.2,List.foldl_cons,Zn9 h.1]
theorem Zrl {a:Nat}{l:List UInt8}(h:zG 10 l=true):(pw1 a l).1=l.foldl (fun a c=>min (a*10+(ZU (lq8 c) 10).toNat) 2000000) a:=by
 induction l generalizing a with
 | nil=>rfl
 | cons c l ih=>
  rw[ZcI,Xh,Xi] at h;unfold pw1;rw[if_pos h.1,ih h.2,List.foldl_cons,Nat.mul_comm 10 a]
theorem Zw3 {M:Nat}{l:List UInt8}(h:zG 10 l=true):(pwM M 0 l).1=min (nmB 10 l) M:=by
 have:=ZgM M (fun c=>(ZU (lq8 c) 10).toNat) l 0;rw[Nat.zero_min] at this;rw[Zrk h,this];rfl
theorem Zw4 {l:List UInt8}(h:zG 10 l=true):(pw1 0 l).1=min (nmB 10 l) 2000000:=by
 have:=ZgM 2000000 (fun c=>(ZU (lq8 c) 10).toNat) l 0;rw[Nat.zero_min] at this;rw[Zrl h,this];rfl
theorem Z1I {M a:Nat}(h:a≤M) (l:List UInt8):(pwM M a l).1≤M:=by
 induction l generalizing a with
 | nil=>exact h
 | cons c l ih=>
  unfold pwM;split
  ·exact ih (Nat.min_le_right _ _)
  ·exact Nat.zero_le _
def wnP (l:List UInt8):Int:=if (sgT l).1=true then -((pwM 10000000 0 (sgT l).2).1:Nat) else ((pwM 10000000 0 (sgT l).2).1:Nat)
def wnK (l:List UInt8):Bool:=zG 10 (sgT l).2 && decide ((sgT l).2≠[])
theorem Ztw (l:List UInt8): -10000000≤wnP l∧wnP l≤10000000:=by
 have:=Z1I (M:=10000000) (a:=0) (Nat.zero_le _) (sgT l).2;unfold wnP;split<;>omega
def ZgN (x y:Int):Prop:=x=y∨(2000000≤x∧2000000≤y)∨(x≤ -2000000∧y≤ -2000000)
def pwK (b:Int) (r:List UInt8):Bool:=if r=[] then decide (b=10) else Zar [if b=16 then 112 else 101] r && wnK (r.drop 1)
def pwP (r:List UInt8):Int:=if r=[] then 0 else wnP (r.drop 1)
theorem ZiQ {b:Int}(hb:b=10∨b=16) (r:List UInt8):pwK b r=(scE b r).2∧(pwK b r=true→ZgN (pwP r) (scE b r).1):=by
 cases r with
 | nil=>
  unfold pwK pwP scE;rw[if_pos rfl,if_pos rfl];exact⟨rfl,fun _=> .inl rfl⟩
 | cons c r=>
  have hne:¬ (c::r=[]):=by simp
  unfold pwK pwP;rw[scE,if_neg hne,if_neg hne,List.drop_succ_cons,List.drop_zero];by_cases hc:(b=10∧lq8 c≠101)∨(b=16∧lq8 c≠112)
  ·have:Zar [if b=16 then 112 else 101] (c::r)=false:=by
    refine ZbR _ fun h=> ?_;rcases hc with ⟨h1,h2⟩ | ⟨h1,h2⟩
    ·rw[if_neg (by omega)] at h;exact h2 (by rw[h];rfl)
    ·rw[if_pos h1] at h;exact h2 (by rw[h];rfl)
   rw[if_pos hc,this];exact⟨rfl,fun h=>by cases h⟩
  ·have hP:Zar [if b=16 then 112 else 101] (c::r)=true:=by
    refine (ZdG _ _).2 ⟨r,?_⟩;rcases hb with rfl | rfl
    ·rw[if_neg (by decide)];have:lq8 c=lq8 101:=by
      rcases Classical.em (lq8 c=101) with h | h
      ·exact h
      ·exact absurd (.inl ⟨rfl,h⟩) hc
     rw[ZgL.1 this]
    ·rw[if_pos rfl];have:lq8 c=lq8 112:=by
      rcases Classical.em (lq8 c=112) with h | h
      ·exact h
      ·exact absurd (.inr ⟨rfl,h⟩) hc
     rw[ZgL.1 this]
   rw[if_neg hc,hP,Bool.true_and];unfold wnK wnP;by_cases he:(sgT r).2=[]
   ·rw[if_pos he,he];exact⟨rfl,fun h=>by cases h⟩
   ·rw[if_neg he,Xa he,Bool.and_true];cases ha:zG 10 (sgT r).2 with
    | false=>
     rw[if_pos (by rw[ZnC,ha])];exact⟨rfl,fun h=>by cases h⟩
    | true=>
     rw[if_neg (by rw[ZnC,ha];decide)];refine⟨rfl,fun _=> ?_⟩;rw[Zw3 ha,Zw4 ha];unfold ZgN;dsimp only;split<;>omega
def trR (l:List UInt8):List UInt8:=(l.reverse.dropWhile fun c=>lq8 c==48).reverse
theorem Zw5:trR []=[]:=rfl
theorem Zcc (l:List UInt8) (c:UInt8):trR (l++[c])=if lq8 c=48 then trR l else l++[c]:=by
 unfold trR;rw[List.reverse_append,List.reverse_singleton,List.singleton_append,List.dropWhile_cons];by_cases h:lq8 c=48
 ·rw[if_pos (by simpa using h),if_pos h]
 ·rw[if_neg (by simpa using h),if_neg h,List.reverse_cons,List.reverse_reverse]
theorem ZdH {P:List UInt8→Prop}(h0:P []) (h1:∀ l c,P l→P (l++[c])) (l:List UInt8):P l:=by
 have key:∀ k (l:List UInt8),l.length=k→P l:=by
  intro k
  induction k with
  | zero=>intro l hl;rw[List.eq_nil_of_length_eq_zero hl];exact h0
  | succ k ih=>
   intro l hl;have hne:l≠[]:=fun h=>by rw[h] at hl;cases hl
   rw[← List.dropLast_concat_getLast hne];exact h1 _ _ (ih _ (by rw[List.length_dropLast];omega))
 exact key _ l rfl
theorem ZfQ (l:List UInt8):(trR l).length≤l.length:=by
 unfold trR;rw[List.length_reverse];have:=(List.dropWhile_sublist (l:=l.reverse) fun c=>lq8 c==48).length_le;rw[List.length_reverse] at this;exact this
theorem ZnD {b:Int}(l:List UInt8):nmB b l=nmB b (trR l)*b.toNat^(l.length-(trR l).length):=by
 refine ZdH (P:=fun l=>nmB b l=nmB b (trR l)*b.toNat^(l.length-(trR l).length)) ?_ ?_ l
 ·rfl
 ·intro l c ih;rw[Zcc];by_cases h:lq8 c=48
  ·have hd:(ZU 48 b).toNat=0:=by unfold ZU;rw[if_pos (by omega)];rfl
   have:=ZfQ l;rw[if_pos h,ZaQ,h,hd,Nat.add_zero,ih,Nat.mul_assoc,← Nat.pow_succ,List.length_append,List.length_singleton];congr 2;omega
  ·rw[if_neg h,Nat.sub_self,Nat.pow_zero,Nat.mul_one]
theorem ZhG {b:Int}{l:List UInt8}(h:zG b l=true):zG b (trR l)=true:=by
 unfold zG at*;rw[List.all_eq_true] at*;intro x hx;unfold trR at hx;have:=(List.dropWhile_sublist _).subset (List.mem_reverse.1 hx);exact h x (List.mem_reverse.1 this)
theorem ZiR {l r:List UInt8}{c:UInt8}(h:trR l=r++[c]):lq8 c≠48:=by
 have key:∀ l:List UInt8,∀ r c,trR l=r++[c]→lq8 c≠48:=by
  intro l;refine ZdH (P:=fun l=>∀ r c,trR l=r++[c]→lq8 c≠48) ?_ ?_ l
  ·intro r c h;rw[Zw5] at h;exact absurd h (by simp)
  ·intro l d ih r c h;rw[Zcc] at h;by_cases h1:lq8 d=48
   ·rw[if_pos h1] at h;exact ih r c h
   ·rw[if_neg h1] at h;have:=(List.append_inj' h rfl).2
    injection this with e
    rw[← e];exact h1
 exact key l r c h
theorem ZcJ {b:Int}{c:UInt8}{r:List UInt8}(h:0<ZU (lq8 c) b):∃ r',trR (c::r)=c::r':=by
 have key:∀ r:List UInt8,∃ r',trR (c::r)=c::r':=by
  intro r;refine ZdH (P:=fun r=>∃ r',trR (c::r)=c::r') ?_ ?_ r
  ·have h48:lq8 c≠48:=fun h0=>by
    rw[h0] at h;unfold ZU at h;rw[if_pos (by omega)] at h;omega
   refine⟨[],?_⟩;have:=Zcc [] c;rw[if_neg h48] at this;exact this
  ·intro l d ih;have:=Zcc (c::l) d;rw[List.cons_append] at this;rw[this];split
   ·exact ih
   ·exact⟨_,rfl⟩
 exact key r
def shR (k:Nat) (l:List UInt8):List UInt8:=if l.length≤k then l else l.take k++[49]
theorem Zw6 (b:Int) (x y:List UInt8):nmB b (x++y)=nmB b x*b.toNat^y.length+nmB b y:=by
 refine ZdH (P:=fun y=>nmB b (x++y)=nmB b x*b.toNat^y.length+nmB b y) ?_ ?_ y
 ·rw[List.append_nil];show nmB b x=nmB b x*1+0;omega
 ·intro l c ih;rw[← List.append_assoc,ZaQ,ZaQ,ih,List.length_append,List.length_singleton,Nat.pow_succ,Nat.add_mul,Nat.mul_assoc,Nat.add_assoc]
theorem Zrm {b:Int}{l:List UInt8}{c:UInt8}(h:zG b (l++[c])=true) (h48:lq8 c≠48):0<nmB b (l++[c]):=by
 have h1:0≤ZU (lq8 c) b:=by
  unfold zG at h;exact Xc (List.all_eq_true.1 h c (List.mem_append.2 (.inr Xf)))
 have h2:0<ZU (lq8 c) b:=by
  have:=Zn9 h1;unfold ZU at*;split
  ·omega
  ·rename_i h3;rw[if_neg h3] at h1;split
   ·omega
   ·rename_i h4;rw[if_neg h4] at h1;omega
 rw[ZaQ];omega
theorem ZgO {b:Int}(hb:b=10∨b=16) {l:List UInt8}{k:Nat}(hk:k<l.length) (ha:zG b l=true) (hl:∀ r c,l=r++[c]→lq8 c≠48):nmB b l=nmB b (l.take k)*b.toNat^(l.length-k)+nmB b (l.drop k)∧0<nmB b (l.drop k)∧nmB b (l.drop k)<b.toNat^(l.length-k):=by
 have e:=Zw6 b (l.take k) (l.drop k);rw[List.take_append_drop,List.length_drop] at e;refine⟨e,?_,?_⟩
 ·have hne:l.drop k≠[]:=fun h=>by
   have:=congrArg List.length h;rw[List.length_drop] at this;simp at this;omega
  have e2:=(List.dropLast_concat_getLast hne).symm;rw[e2];refine Zrm ?_ ?_
  ·rw[← e2];unfold zG at*;rw[List.all_eq_true] at*;exact fun x hx=>ha x (List.mem_of_mem_drop hx)
  ·exact hl (l.take k++(l.drop k).dropLast) _ (by rw[List.append_assoc,← e2,List.take_append_drop])
 ·have:=Zdu hb (l.drop k);rw[List.length_drop] at this;exact this
theorem Ztx (b:Int):(ZU (lq8 49) b).toNat=1:=by unfold ZU;rw[if_pos (by decide)];rfl
def nuD (l:List UInt8):List UInt8:=trR (trZ l)
theorem Zw7 {m:Int}{n:Bool}{D:List UInt8}{E:Int}(ha:zG 16 D=true) (hl:∀ r c,D=r++[c]→lq8 c≠48) {c:UInt8}{r:List UInt8}(hD:D=c::r) (hc:0<ZU (lq8 c) 16):
  rnP m n (nmB 16 (shR 60 D)) (E-4*((shR 60 D).length:Nat))=rnP m n (nmB 16 D) (E-4*(D.length:Nat))∧rnF m n (nmB 16 (shR 60 D)) (E-4*((shR 60 D).length:Nat))=rnF m n (nmB 16 D) (E-4*(D.length:Nat)):=by
 unfold shR;by_cases hk:D.length≤60
 ·rw[if_pos hk];exact⟨rfl,rfl⟩
 rw[if_neg hk];obtain⟨p1,p2,p3⟩:=ZgO (.inr rfl) (k:=60) (by omega) ha hl;have hq:2^53≤nmB 16 (D.take 60):=by
  have e:D.take 60=c::r.take 59:=by rw[hD];rfl
  have:=ZgK (b:=16) (r:=r.take 59) hc;have hlen:(r.take 59).length=59:=by
   rw[List.length_take];rw[hD,List.length_cons] at hk;omega
  rw[hlen] at this;rw[e];exact Nat.le_trans (by decide) this
 have hb:=ZcC hq;obtain⟨q,hqe⟩:∃ q,q=nmB 16 (D.take 60):=⟨_,rfl⟩;obtain⟨s,hse⟩:∃ s,s=nmB 16 (D.drop 60):=⟨_,rfl⟩;obtain⟨L,hL⟩:∃ L,L=D.length:=⟨_,rfl⟩;rw[← hqe] at p1 hb;rw[← hse] at p1 p2 p3;rw[← hL] at p1 p3;have e16:(16:Int).toNat^(L-60)=2^(4*(L-60)):=by rw[Nat.pow_mul];rfl
 rw[e16] at p1 p3;have hp:0<2^(4*(L-60)):=Nat.pow_pos (by omega);have d1:nmB 16 D/2^(4*(L-60))=q:=by rw[p1,Nat.mul_comm,Nat.mul_add_div hp,Nat.div_eq_of_lt p3,Nat.add_zero]
 have d2:nmB 16 D % 2^(4*(L-60))=s:=by rw[p1,Nat.mul_comm,Nat.mul_add_mod,Nat.mod_eq_of_lt p3]
 have a1:=ZcF (m:=m) (neg:=n) (A:=nmB 16 D) (d:=4*(L-60)) (F:=E-4*(L:Nat)) (.inr (by rw[d1];omega));have s1:stk (nmB 16 D) (4*(L-60))=2*q+1:=by unfold stk;rw[d1,d2,if_neg (by omega)]
 have e2:nmB 16 (D.take 60++[49])=q*16+1:=by rw[ZaQ,Ztx,hqe];rfl
 have hlen:(D.take 60++[49]).length=61:=by rw[List.length_append,List.length_take,List.length_singleton];omega
 have d3:(q*16+1)/2^4=q:=by omega
 have d4:(q*16+1) % 2^4=1:=by omega
 have a2:=ZcF (m:=m) (neg:=n) (A:=q*16+1) (d:=4) (F:=E-4*61) (.inr (by rw[d3];omega));have s2:stk (q*16+1) 4=2*q+1:=by unfold stk;rw[d3,d4,if_neg (by omega)]
 rw[s1,show E-4*(L:Nat)+((4*(L-60):Nat):Int)-1=E-241 by omega] at a1;rw[s2,show E-4*61+((4:Nat):Int)-1=E-241 by omega] at a2;rw[e2,hlen,← hL];exact⟨a2.1.symm.trans a1.1,a2.2.symm.trans a1.2⟩
theorem ZnE {b:Int}(hb:b=10∨b=16) (l:List UInt8):bitLen (nmB b l)≤4*l.length:=len_le (Zeq hb l)
theorem Zw8 {m:Int}{n:Bool}{A k:Nat}{x y z:Int}(hA:A≠0) (hk:bitLen A≤k) (hz: -100000≤z∧z+k≤100000) (h:ZgN x y):rnP m n A (x+z)=rnP m n A (y+z)∧rnF m n A (x+z)=rnF m n A (y+z):=by
 have h1:=Za1 hA;rcases h with h | ⟨h2,h3⟩ | ⟨h2,h3⟩
 ·rw[h];exact⟨rfl,rfl⟩
 ·obtain⟨a1,a2⟩:=Zep (m:=m) (neg:=n) (E:=x+z) hA (by unfold lgN;omega);obtain⟨b1,b2⟩:=Zep (m:=m) (neg:=n) (E:=y+z) hA (by unfold lgN;omega);exact⟨a1.trans b1.symm,a2.trans b2.symm⟩
 ·obtain⟨a1,a2⟩:=Zdt (m:=m) (neg:=n) (E:=x+z) hA (by unfold lgN;omega);obtain⟨b1,b2⟩:=Zdt (m:=m) (neg:=n) (E:=y+z) hA (by unfold lgN;omega);exact⟨a1.trans b1.symm,a2.trans b2.symm⟩
theorem Zrn {m:Int}{n:Bool}{l:List UInt8}(hl:l.length≤10000) (ha:zG 16 l=true) (hz:trZ l≠[]) {k:Nat}(hk:k≤l.length) {P Q:Int}(hP:ZgN Q P):
  rnP m n (nmB 16 (shR 60 (nuD l))) (Q+4*(((trZ l).length:Nat)-(k:Int)-((shR 60 (nuD l)).length:Nat)))=rnP m n (dnA 16 (trZ l) k P).1 (dnA 16 (trZ l) k P).2∧rnF m n (nmB 16 (shR 60 (nuD l))) (Q+4*(((trZ l).length:Nat)-(k:Int)-((shR 60 (nuD l)).length:Nat)))=rnF m n (dnA 16 (trZ l) k P).1 (dnA 16 (trZ l) k P).2:=by
 obtain⟨c,r,hT⟩:∃ c r,trZ l=c::r:=by
  cases h:trZ l with
  | nil=>exact absurd h hz
  | cons c r=>exact⟨c,r,rfl⟩
 have hc:=Zcb ha hT;have haT:=ZcG ha;obtain⟨r',hr'⟩:=ZcJ (b:=16) (r:=r) hc;have haD:zG 16 (nuD l)=true:=ZhG haT;have hlast:∀ r c,nuD l=r++[c]→lq8 c≠48:=fun r c h=>ZiR h;have eD:nuD l=c::r':=by unfold nuD;rw[hT,hr']
 have lT:=Zdk l;have lD:=ZfQ (trZ l);have hcut:=Zw7 (m:=m) (n:=n) (E:=Q+4*(((trZ l).length:Nat)-(k:Int))) haD hlast eD hc;have eE:Q+4*(((trZ l).length:Nat)-(k:Int)-((shR 60 (nuD l)).length:Nat))=Q+4*(((trZ l).length:Nat)-(k:Int))-4*((shR 60 (nuD l)).length:Nat):=by omega
 rw[eE,hcut.1,hcut.2];have hA:nmB 16 (nuD l)≠0:=by
  have:=ZbP (b:=16) (.inr rfl) (r:=r') hc;rw[eD];omega
 have eL:(nuD l).length≤(trZ l).length:=lD;have hfar:=Zw8 (m:=m) (n:=n) (k:=40000) (z:=4*(((trZ l).length:Nat)-(k:Int))-4*((nuD l).length:Nat)) hA (by
  have:=ZnE (b:=16) (.inr rfl) (nuD l);omega) (by omega) hP
 rw[show Q+4*(((trZ l).length:Nat)-(k:Int))-4*((nuD l).length:Nat)=Q+(4*(((trZ l).length:Nat)-(k:Int))-4*((nuD l).length:Nat)) by omega,hfar.1,hfar.2];have e1:=ZnD (b:=16) (trZ l);have e2:(16:Int).toNat^((trZ l).length-(trR (trZ l)).length)=2^(4*((trZ l).length-(nuD l).length)):=by rw[Nat.pow_mul];rfl
 rw[e2] at e1;have p:=ZaG m n (nmB 16 (nuD l)) (4*((trZ l).length-(nuD l).length)) (P+(4*(((trZ l).length:Nat)-(k:Int))-4*((nuD l).length:Nat)));have f:=ZaH m n (nmB 16 (nuD l)) (4*((trZ l).length-(nuD l).length)) (P+(4*(((trZ l).length:Nat)-(k:Int))-4*((nuD l).length:Nat)));rw[show P+(4*(((trZ l).length:Nat)-(k:Int))-4*((nuD l).length:Nat))-((4*((trZ l).length-(nuD l).length):Nat):Int)=P-4*k by omega] at p f;unfold dnA;rw[if_pos rfl];dsimp only;rw[e1];exact⟨p.symm,f.symm⟩
def clF (x:Int):Int:=min (max x (-400)) 400
theorem Zw9 {m:Int}{n:Bool}{D:List UInt8}{a a':Int}(ha:zG 10 D=true) (hl:∀ r c,D=r++[c]→lq8 c≠48) {c:UInt8}{r:List UInt8}(hD:D=c::r) (hc:0<ZU (lq8 c) 10) (h:a'=a∨(1000≤a∧1000≤a')∨(a≤ -1000∧a'≤ -1000)):
  deP m n (nmB 10 (shR 800 D)) (clF a'-((shR 800 D).length:Nat))=deP m n (nmB 10 D) (a-(D.length:Nat))∧deF m n (nmB 10 (shR 800 D)) (clF a'-((shR 800 D).length:Nat))=deF m n (nmB 10 D) (a-(D.length:Nat)):=by
 have e10:(10:Int).toNat=10:=rfl;obtain⟨r2,hr2⟩:∃ r2,shR 800 D=c::r2:=by
  unfold shR;split
  ·exact⟨r,hD⟩
  ·exact⟨_,by rw[hD];rfl⟩
 have g1:=ZgK (b:=10) (r:=r) hc;have g2:=ZgK (b:=10) (r:=r2) hc;have u1:=Zdu (b:=10) (.inl rfl) D;have u2:=Zdu (b:=10) (.inl rfl) (shR 800 D);rw[e10] at g1 g2 u1 u2;rw[← hD] at g1;rw[← hr2] at g2;have n1:nmB 10 D≠0:=by have:=ZbP (b:=10) (.inl rfl) (r:=r) hc;rw[hD];omega
 have n2:nmB 10 (shR 800 D)≠0:=by have:=ZbP (b:=10) (.inl rfl) (r:=r2) hc;rw[hr2];omega
 have l1:D.length=r.length+1:=by rw[hD];rfl
 have l2:(shR 800 D).length=r2.length+1:=by rw[hr2];rfl
 by_cases hbig:400<a
 ·have hc4:clF a'=400:=by unfold clF;omega
  obtain⟨a1,a2⟩:=Zn7 m n (j:=clF a'-((shR 800 D).length:Nat)) g2 (by omega);obtain⟨b1,b2⟩:=Zn7 m n (j:=a-(D.length:Nat)) g1 (by omega);exact⟨a1.trans b1.symm,a2.trans b2.symm⟩
 by_cases hlow:a< -400
 ·have hc4:clF a'= -400:=by unfold clF;omega
  obtain⟨a1,a2⟩:=Zn8 m n (j:=clF a'-((shR 800 D).length:Nat)) n2 u2 (by omega);obtain⟨b1,b2⟩:=Zn8 m n (j:=a-(D.length:Nat)) n1 u1 (by omega);exact⟨a1.trans b1.symm,a2.trans b2.symm⟩
 have hca:clF a'=a:=by unfold clF;omega
 rw[hca];unfold shR;by_cases hk:D.length≤800
 ·rw[if_pos hk];exact⟨rfl,rfl⟩
 rw[if_neg hk];obtain⟨p1,p2,p3⟩:=ZgO (.inl rfl) (k:=800) (by omega) ha hl;rw[e10] at p1 p3;obtain⟨M,hM⟩:∃ M,M=799:=⟨_,rfl⟩;have hlt:(D.take 800).length=M+1:=by rw[List.length_take];omega
 have hq:10^M≤nmB 10 (D.take 800):=by
  have e:D.take 800=c::r.take 799:=by rw[hD];rfl
  have:=ZgK (b:=10) (r:=r.take 799) hc;have hlen:(r.take 799).length=M:=by
   rw[List.length_take];omega
  rw[hlen,e10] at this;rw[e];exact this
 have hq':nmB 10 (D.take 800)<10^(M+1):=by
  have:=Zdu (b:=10) (.inl rfl) (D.take 800);rw[hlt,e10] at this;exact this
 obtain⟨G,hG⟩:∃ G:Nat,(G:Int)=800-a:=⟨(800-a).toNat,by omega⟩;obtain⟨q,hqe⟩:∃ q,q=nmB 10 (D.take 800):=⟨_,rfl⟩;have e2:nmB 10 (D.take 800++[49])=q*10+1:=by rw[ZaQ,Ztx,hqe];rfl
 have hlen:(D.take 800++[49]).length=801:=by rw[List.length_append,hlt,List.length_singleton];omega
 rw[← hqe] at hq hq' p1;have key:=Zrg (m:=m) (n:=n) (C:=10^1) (r:=1) (C':=10^(D.length-800)) (r':=nmB 10 (D.drop 800)) hM hG (by omega) hq hq' (by omega) (by decide) p2 p3;rw[← Nat.pow_add,← Nat.pow_add] at key;unfold deP deF;rw[e2,hlen,p1,show (a-((801:Nat):Int)).toNat=0 by omega,show (-(a-((801:Nat):Int))).toNat=G+1 by omega,show (a-(D.length:Nat)).toNat=0 by omega,show (-(a-((D.length:Nat):Int))).toNat=G+(D.length-800) by omega,Nat.pow_zero,Nat.mul_one,Nat.mul_one];exact key
theorem Zro {m:Int}{n:Bool}{l:List UInt8}(hl:l.length≤10000) (ha:zG 10 l=true) (hz:trZ l≠[]) {k:Nat}(hk:k≤l.length) {P Q:Int}(hP:ZgN Q P):
  deP m n (nmB 10 (shR 800 (nuD l))) (clF (((trZ l).length:Nat)-(k:Int)+Q)-((shR 800 (nuD l)).length:Nat))=rnP m n (dnA 10 (trZ l) k P).1 (dnA 10 (trZ l) k P).2∧deF m n (nmB 10 (shR 800 (nuD l))) (clF (((trZ l).length:Nat)-(k:Int)+Q)-((shR 800 (nuD l)).length:Nat))=rnF m n (dnA 10 (trZ l) k P).1 (dnA 10 (trZ l) k P).2:=by
 obtain⟨c,r,hT⟩:∃ c r,trZ l=c::r:=by
  cases h:trZ l with
  | nil=>exact absurd h hz
  | cons c r=>exact⟨c,r,rfl⟩
 have hc:=Zcb ha hT;have haT:=ZcG ha;obtain⟨r',hr'⟩:=ZcJ (b:=10) (r:=r) hc;have haD:zG 10 (nuD l)=true:=ZhG haT;have hlast:∀ r c,nuD l=r++[c]→lq8 c≠48:=fun r c h=>ZiR h;have eD:nuD l=c::r':=by unfold nuD;rw[hT,hr']
 have lT:=Zdk l;have lD:(nuD l).length≤(trZ l).length:=ZfQ (trZ l);have hA:nmB 10 (nuD l)≠0:=by
  have:=ZbP (b:=10) (.inl rfl) (r:=r') hc;rw[eD];omega
 have key:=Zw9 (m:=m) (n:=n) (a:=((trZ l).length:Nat)-(k:Int)+P) (a':=((trZ l).length:Nat)-(k:Int)+Q) haD hlast eD hc (by unfold ZgN at hP;omega);have hdn:=Z63 m n (c:=c) (r:=r) (k:=k) (P:=P) hc;rw[← hT] at hdn;have e1:=ZnD (b:=10) (trZ l);have hs:=Zre m n (A:=nmB 10 (nuD l)) hA ((trZ l).length-(nuD l).length) (((trZ l).length:Nat)-(k:Int)+P-((nuD l).length:Nat));rw[show ((trZ l).length:Nat)-(k:Int)+P-((nuD l).length:Nat)-(((trZ l).length-(nuD l).length:Nat):Int)=P-k by omega] at hs;have e2:nmB 10 (nuD l)*10^((trZ l).length-(nuD l).length)=nmB 10 (trZ l):=e1.symm;rw[e2] at hs;exact⟨key.1.trans (hs.1.symm.trans hdn.1.symm),key.2.trans (hs.2.symm.trans hdn.2.symm)⟩
end Go.Rd
namespace Go.Rd
open Go.Rn Go.Nt
def bt (b:Bool):Nat:=match b with | true=>1 | false=>0
def loW (T:Nat):Nat:=(db 4294967296 T).length-8
def hiS (T:Nat):Nat:=T/2^(32*loW T)
def hiM (T:Nat) (m:Bool):Bool:=m || decide (T % 2^(32*loW T)≠0)
def hiE (T:Nat) (e:Int):Int:=e+32*(loW T:Nat)
theorem zW (k:Nat):(4294967296:Nat)^k=2^(32*k):=by rw[Nat.pow_mul]
theorem Z66 (T:Nat):hiS T<2^256:=by
 unfold hiS;rw[Nat.div_lt_iff_lt_mul (Nat.pow_pos (by omega)),← Nat.pow_add];have h1:=Zbl (b:=4294967296) (by omega) (db 4294967296 T) (Zfy (by omega) T);rw[ZbC (by omega) T,zW] at h1;exact Nat.lt_of_lt_of_le h1 (Nat.pow_le_pow_right (by omega) (by unfold loW;omega))
theorem Z1J {T:Nat}(h:loW T≠0):2^53≤hiS T:=by
 unfold hiS;rw[Nat.le_div_iff_mul_le (Nat.pow_pos (by omega)),← Nat.pow_add];rcases Nat.lt_or_ge T (2^(53+32*loW T)) with h1 | h1
 ·exfalso
  have h2:T<4294967296^(loW T+7):=by
   rw[zW];exact Nat.lt_of_lt_of_le h1 (Nat.pow_le_pow_right (by omega) (by omega))
  have:=ZaZ (b:=4294967296) (by omega) _ _ h2;unfold loW at*;omega
 ·exact h1
theorem Zrp {m:Int}{n:Bool}{T:Nat}{b:Bool}{e:Int}:rnP m n (2*hiS T+bt (hiM T b)) (hiE T e-1)=rnP m n (2*T+bt b) (e-1)∧rnF m n (2*hiS T+bt (hiM T b)) (hiE T e-1)=rnF m n (2*T+bt b) (e-1):=by
 by_cases h0:loW T=0
 ·have e1:hiS T=T:=by unfold hiS;rw[h0,Nat.mul_zero,Nat.pow_zero,Nat.div_one]
  have e2:hiM T b=b:=by unfold hiM;rw[h0,Nat.mul_zero,Nat.pow_zero,Nat.mod_one];cases b<;>rfl
  have e3:hiE T e=e:=by unfold hiE;rw[h0];omega
  rw[e1,e2,e3];exact⟨rfl,rfl⟩
 ·have hp:0<2^(32*loW T):=Nat.pow_pos (by omega);have hbt:bt b≤1:=by cases b<;>decide
  have d1:(2*T+bt b)/2^(32*loW T+1)=hiS T:=by
   unfold hiS;rw[Nat.pow_succ,Nat.mul_comm (2^(32*loW T)) 2,← Nat.div_div_eq_div_mul];congr 1;omega
  have d2:(2*T+bt b) % 2^(32*loW T+1)=2*(T % 2^(32*loW T))+bt b:=by
   rw[Nat.pow_succ,Nat.mul_comm (2^(32*loW T)) 2,Nat.mod_mul,show (2*T+bt b)/2=T by omega];omega
  have st:stk (2*T+bt b) (32*loW T+1)=2*hiS T+bt (hiM T b):=by
   unfold stk;rw[d1,d2];congr 1;unfold hiM;cases b with
   | true=>rw[if_neg (by simp [bt])];rfl
   | false=>
    by_cases hz:T % 2^(32*loW T)=0
    ·rw[if_pos (by rw[hz];rfl),Xb (fun h=>h hz)];rfl
    ·rw[if_neg (by simp [bt];omega),Xa hz];rfl
  have hb:=ZcC (Z1J h0);have r:=ZcF (m:=m) (neg:=n) (A:=2*T+bt b) (d:=32*loW T+1) (F:=e-1) (.inr (by rw[d1];omega));rw[st,show e-1+((32*loW T+1:Nat):Int)-1=hiE T e-1 by unfold hiE;omega] at r;exact r
def upT (A B:Nat):Nat:=((bitLen B:Int)+128-(bitLen A:Int)).toNat
theorem ZiS {A B:Nat}(hA:A≠0) (hB:B≠0):54≤bitLen (A*2^upT A B/B):=by
 refine ZcC (k:=53) ?_;rw[Nat.le_div_iff_mul_le (by omega)];have h1:=(bitLen_spec A).2 hA;have h2:=(bitLen_spec B).1;have h3:=Za1 hA;have h4:bitLen B+128≤upT A B+bitLen A:=by unfold upT;omega
 refine Nat.le_trans (Nat.mul_le_mul_left _ (Nat.le_of_lt h2)) ?_;rw[← Nat.pow_add];refine Nat.le_trans (Nat.pow_le_pow_right (by omega) (show 53+bitLen B≤(bitLen A-1)+upT A B by omega)) ?_;rw[Nat.pow_add];exact Nat.mul_le_mul_right _ h1
def teT (A:Nat) (j:Int):Nat:=if 0≤j then A*10^j.toNat else A*2^upT A (10^(-j).toNat)/10^(-j).toNat
def teM (A:Nat) (j:Int):Bool:=if 0≤j then false else decide (A*2^upT A (10^(-j).toNat) % 10^(-j).toNat≠0)
def teE (A:Nat) (j:Int):Int:=if 0≤j then 0 else -((upT A (10^(-j).toNat):Nat):Int)
theorem Zrq {m:Int}{n:Bool}{A:Nat}{j:Int}(hA:A≠0):rnP m n (2*hiS (teT A j)+bt (hiM (teT A j) (teM A j))) (hiE (teT A j) (teE A j)-1)=deP m n A j∧rnF m n (2*hiS (teT A j)+bt (hiM (teT A j) (teM A j))) (hiE (teT A j) (teE A j)-1)=deF m n A j:=by
 obtain⟨h1,h2⟩:=Zrp (m:=m) (n:=n) (T:=teT A j) (b:=teM A j) (e:=teE A j);rw[h1,h2];unfold teT teM teE;by_cases hj:0≤j
 ·rw[if_pos hj,if_pos hj,if_pos hj];have p:=ZaG m n (A*10^j.toNat) 1 0;have f:=ZaH m n (A*10^j.toNat) 1 0;obtain⟨q1,q2⟩:=Zts m n (A*10^j.toNat);rw[show 2*(A*10^j.toNat)+bt false=A*10^j.toNat*2^1 by simp only[bt];omega];unfold deP deF;rw[show (-j).toNat=0 by omega,Nat.pow_zero,q1,q2];exact⟨p,f⟩
 ·rw[if_neg hj,if_neg hj,if_neg hj];have hB:=ZbQ (-j).toNat;have r:=Zn4 (m:=m) (n:=n) hA hB (ZiS hA hB);have e:2*(A*2^upT A (10^(-j).toNat)/10^(-j).toNat)+bt (decide (A*2^upT A (10^(-j).toNat) % 10^(-j).toNat≠0))=dvK A (10^(-j).toNat) (upT A (10^(-j).toNat)):=by
   unfold dvK;congr 1;by_cases hz:A*2^upT A (10^(-j).toNat) % 10^(-j).toNat=0
   ·rw[if_pos hz,Xb (fun h=>h hz)];rfl
   ·rw[if_neg hz,Xa hz];rfl
  rw[e];unfold deP deF;rw[show j.toNat=0 by omega,Nat.pow_zero,Nat.mul_one];exact r
def noS (b:Int) (D:List UInt8) (k P:Int):Nat:=if b=16 then nmB 16 (shR 60 D) else hiS (teT (nmB 10 (shR 800 D)) (clF (k+P)-((shR 800 D).length:Nat)))
def noM (b:Int) (D:List UInt8) (k P:Int):Bool:=if b=16 then false else hiM (teT (nmB 10 (shR 800 D)) (clF (k+P)-((shR 800 D).length:Nat))) (teM (nmB 10 (shR 800 D)) (clF (k+P)-((shR 800 D).length:Nat)))
def noE (b:Int) (D:List UInt8) (k P:Int):Int:=if b=16 then P+4*(k-((shR 60 D).length:Nat)) else hiE (teT (nmB 10 (shR 800 D)) (clF (k+P)-((shR 800 D).length:Nat))) (teE (nmB 10 (shR 800 D)) (clF (k+P)-((shR 800 D).length:Nat)))
theorem ZnF (k:Nat) (D:List UInt8):(shR k D).length≤k+1:=by
 unfold shR;split
 ·omega
 ·rw[List.length_append,List.length_take,List.length_singleton];omega
theorem Z1K (b:Int) (D:List UInt8) (k P:Int):noS b D k P<2^256:=by
 unfold noS;split
 ·refine Nat.lt_of_lt_of_le (Zeq (.inr rfl) _) (Nat.pow_le_pow_right (by omega) ?_);have:=ZnF 60 D;omega
 ·exact Z66 _
theorem Zrr {m:Int}{n:Bool}{b:Int}(hb:b=10∨b=16) {l:List UInt8}(hl:l.length≤10000) (ha:zG b l=true) (hz:trZ l≠[]) {k:Nat}(hk:k≤l.length) {P Q:Int}(hP:ZgN Q P):
  rnP m n (2*noS b (nuD l) (((trZ l).length:Nat)-(k:Int)) Q+bt (noM b (nuD l) (((trZ l).length:Nat)-(k:Int)) Q)) (noE b (nuD l) (((trZ l).length:Nat)-(k:Int)) Q-1)=rnP m n (dnA b (trZ l) k P).1 (dnA b (trZ l) k P).2∧rnF m n (2*noS b (nuD l) (((trZ l).length:Nat)-(k:Int)) Q+bt (noM b (nuD l) (((trZ l).length:Nat)-(k:Int)) Q)) (noE b (nuD l) (((trZ l).length:Nat)-(k:Int)) Q-1)=rnF m n (dnA b (trZ l) k P).1 (dnA b (trZ l) k P).2:=by
 unfold noS noM noE;rcases hb with rfl | rfl
 ·rw[if_neg (by decide),if_neg (by decide),if_neg (by decide)];have hA:nmB 10 (shR 800 (nuD l))≠0:=by
   obtain⟨c,r,hT⟩:∃ c r,trZ l=c::r:=by
    cases h:trZ l with
    | nil=>exact absurd h hz
    | cons c r=>exact⟨c,r,rfl⟩
   have hc:=Zcb ha hT;obtain⟨r',hr'⟩:=ZcJ (b:=10) (r:=r) hc;obtain⟨r2,hr2⟩:∃ r2,shR 800 (nuD l)=c::r2:=by
    unfold nuD shR;rw[hT,hr'];split
    ·exact⟨_,rfl⟩
    ·exact⟨_,rfl⟩
   have:=ZbP (b:=10) (.inl rfl) (r:=r2) hc;rw[hr2];omega
  obtain⟨t1,t2⟩:=Zrq (m:=m) (n:=n) (j:=clF (((trZ l).length:Nat)-(k:Int)+Q)-((shR 800 (nuD l)).length:Nat)) hA;obtain⟨d1,d2⟩:=Zro (m:=m) (n:=n) hl ha hz hk hP;exact⟨t1.trans d1,t2.trans d2⟩
 ·rw[if_pos rfl,if_pos rfl,if_pos rfl];have h:=Zrn (m:=m) (n:=n) hl ha hz hk hP;obtain⟨A,hA⟩:∃ A,A=nmB 16 (shR 60 (nuD l)):=⟨_,rfl⟩;obtain⟨E,hE⟩:∃ E,E=Q+4*(((trZ l).length:Nat)-(k:Int)-((shR 60 (nuD l)).length:Nat)):=⟨_,rfl⟩;rw[← hA,← hE] at h;rw[← hA,← hE];have p:=ZaG m n A 1 E;have f:=ZaH m n A 1 E;rw[show 2*A+bt false=A*2^1 by simp only[bt];omega];exact⟨p.trans h.1,f.trans h.2⟩
end Go.Rd
namespace Go.Proofs.YtjlponbdflkbjaaGreatDoor.Na
open Go.KRun Go.Nt Go.Rd
set_option maxRecDepth 100000
theorem Zer (V:Nat):V<4294967296^(d32 V).length:=by
 have:=Zbl (b:=4294967296) (by omega) (d32 V) (ZfE V);rw[show vb 4294967296 (d32 V)=V from ZbC (by omega) V] at this;exact this
theorem ZwA {V:Nat}(h:0<(d32 V).length):4294967296^((d32 V).length-1)≤V:=by
 rcases Nat.lt_or_ge V (4294967296^((d32 V).length-1)) with h1 | h1
 ·have:(d32 V).length≤(d32 V).length-1:=ZaZ (b:=4294967296) (by omega) _ _ h1;omega
 ·exact h1
theorem Zbt {V:Nat}(h:V≠0):0<(d32 V).length:=(Zfa (b:=4294967296) (by omega)).2 (by omega)
theorem ZgP {V:Nat}(h0:V≠0) (h:(d32 V).length≤8192):Zdz (d32 V)=((bitLen V:Nat):Int):=by
 have hp:=Zbt h0;have hc:=ZcB V;obtain⟨L,hL⟩:∃ L,L=d32 V:=⟨_,rfl⟩;have eV:vb 4294967296 L=V:=by rw[hL];exact ZbC (by omega) V
 rw[← hL] at hp hc h ⊢;have hb:ZT L=false:=by
  unfold ZT;rw[Xb (by omega),Bool.false_or];rcases hc.2 with h0 | h0
  ·omega
  ·rw[beq_eq_false_iff_ne.2 h0,Bool.and_false]
 have e1:Zdz L=32*((L.length-1:Nat):Int)+(bitLen (L.getD (L.length-1) 0).toNat:Nat):=by
  unfold Zdz;rw[hb,beq_eq_false_iff_ne.2 (show L.length≠0 by omega)];rfl
 have ht:=Zaj 4294967296 L (L.length-1);rw[show L.length-1+1=L.length by omega,List.take_length,eV] at ht;have lo:vb 4294967296 (L.take (L.length-1))<4294967296^(L.length-1):=by
  have h1:=Zbl (b:=4294967296) (by omega) (L.take (L.length-1)) (fun x hx=>hc.1 x (List.mem_of_mem_take hx));rw[List.length_take,Nat.min_eq_left (by omega)] at h1;exact h1
 have hpw:0<4294967296^(L.length-1):=Nat.pow_pos (by omega);have htop:(L.getD (L.length-1) 0).toNat≠0:=by
  have hlt:L.length-1<L.length:=by omega
  have hw:=hc.1 (L.getD (L.length-1) 0) (by simp [List.getD,List.getElem?_eq_getElem hlt]);rcases hc.2 with h1 | h1
  ·omega
  ·have:L.getD (L.length-1) 0≠0:=h1;omega
 have hdiv:V/2^(32*(L.length-1))=(L.getD (L.length-1) 0).toNat:=by
  rw[← zW,ht,Nat.add_comm,Nat.mul_add_div hpw,Nat.div_eq_of_lt lo,Nat.add_zero]
 have hs:=bitLen_shift V (32*(L.length-1)) (by rw[hdiv];exact htop);rw[hdiv] at hs;rw[e1,hs];omega
section
variable {H : Hp} {p q : Option Addr} {n c n' c' V W : Nat}
theorem Z8B (h:IsR H p n c V) (h0:V≠0):decide (Zdz (Zq H p n)=((bitLen V:Nat):Int))=true:=by
 rw[h.2.2.1];exact Xa (ZgP h0 (by have:=h.2.2.2.2;have:=h.2.2.2.1;omega))
theorem Z9t (h:IsR H p n c V) (k:Nat):decide (Zhb (Zq H p n) ((k:Nat):Int).toNat=dg (sM n (k:Nat)) ((V*2^k:Nat):Int))=true:=by
 refine Xa ?_;unfold Zhb sM;rw[h.2.2.1,← h.2.2.2.1,Zg9,Xg,Int.natCast_mul,Go.Wd.cast_pow]
theorem Z67 (h:IsR H p n c V) (k:Nat):(ZT (Zq H p n) || decide (((k:Nat):Int)<0))=false:=by
 rw[h.good,Xb (by omega)];rfl
theorem Z9u (h:IsR H p n c V) (h0:V≠0) {k:Nat}(hk:k≤200000):decide (((k:Nat):Int)>262144-Zdz (Zq H p n))=false:=by
 have hn:=h.2.2.2.2;have hl:=h.2.2.2.1;rw[h.2.2.1,ZgP h0 (by omega)];have:bitLen V≤32*n:=Go.Rn.len_le (by rw[← zW];rw[hl];exact Zer V);exact Xb (by omega)
theorem rNe (h:IsR H p n c V) (h0:V≠0):decide (n=0)=false:=by
 have:=Zbt h0;have:=h.2.2.2.1;exact Xb (by omega)
end
theorem Z1L {V k n:Nat}(h:V<4294967296^n):V*2^k<4294967296^sM n (k:Nat):=by
 unfold sM;rw[Xg,Nat.add_comm (k/32),zW];rw[zW] at h;have h2:(2:Nat)^k<2^(32*(k/32+1)):=Nat.pow_lt_pow_right (by omega) (by omega);have:=Nat.mul_lt_mul'' h h2;rw[← Nat.pow_add] at this;rw[show 32*(n+1+k/32)=32*n+32*(k/32+1) by omega];exact this
theorem Z1M {S P:Nat}(hP:P≠0) (hS:(d32 P).length≤(d32 S).length):S/P<4294967296^((d32 S).length-(d32 P).length+1):=by
 have h1:=Zer S;have h2:=ZwA (Zbt hP);have h3:=Zbt hP;rw[Nat.div_lt_iff_lt_mul (by omega)];refine Nat.lt_of_lt_of_le h1 ?_;refine Nat.le_trans ?_ (Nat.mul_le_mul_left _ h2);rw[← Nat.pow_add];exact Nat.pow_le_pow_right (by omega) (by omega)
theorem Z1N {S P:Nat}(h:P≤S):(d32 P).length≤(d32 S).length:=ZaZ (b:=4294967296) (by omega) _ _ (Nat.lt_of_le_of_lt h (Zer S))
theorem Z1O {D:List UInt8}(h:zG 10 D=true):psV ⟨⟨D⟩⟩=nmB 10 D:=by
 have key:∀ k,k≤D.length→zE (dgF ⟨⟨D⟩⟩) k=nmB 10 (D.take k):=by
  intro k
  induction k with
  | zero=>intro _;rfl
  | succ k ih=>
   intro hk;have hd:0≤ZU (lq8 (D.getD k 0)) 10:=by
    unfold zG at h;refine Xc (List.all_eq_true.1 h _ ?_);rw[List.getD_eq_getElem?_getD,List.getElem?_eq_getElem (by omega),Option.getD_some];exact List.getElem_mem (by omega)
   have e:dgF ⟨⟨D⟩⟩ k=ZU (lq8 (D.getD k 0)) 10:=by
    have:=Zdv hd;unfold ZU;rw[if_pos this];rfl
   rw[zE,ih (by omega),ZfP 10 D (by omega),e,Nat.mul_comm];rfl
 have:=key D.length (Nat.le_refl _);rw[List.take_length] at this;exact this
theorem ZwB {D:List UInt8}(h:zG 10 D=true) (h0:D≠[]):okP ⟨⟨D⟩⟩=true:=by
 refine (Zh3 _).2 ⟨List.length_pos_iff.2 h0,fun j hj=> ?_⟩;have hj:j<D.length:=hj;have hd:0≤ZU (lq8 (D.getD j 0)) 10:=by
  unfold zG at h;refine Xc (List.all_eq_true.1 h _ ?_);rw[List.getD_eq_getElem?_getD,List.getElem?_eq_getElem hj,Option.getD_some];exact List.getElem_mem hj
 have:=Zdv hd;show (decide (lq8 (D.getD j 0)<48) || decide (lq8 (D.getD j 0)>57))=false;rw[Xb (by omega),Xb (by omega)];rfl
theorem ZhH (k:Nat):(10:Nat)^k<4294967296^(k/9+1):=by
 refine Nat.lt_of_le_of_lt (Nat.pow_le_pow_right (by omega) (show k≤9*(k/9+1) by omega)) ?_;rw[Nat.pow_mul];exact Nat.pow_lt_pow_left (by decide) (by omega)
theorem ZhI {H:Hp}{b k:Nat}{j:Int}(hj:j=(k:Nat)) (hk:k≤2000) (hb:H.blk? b=some (wU (dg (pMi 10 j) ((10^k:Nat):Int)),tU)):IsR H (some ⟨b,0,none⟩) (Zl (dg (pMi 10 j) ((10^k:Nat):Int))) (pMi 10 j) (10^k)∧(d32 (10^k)).length≤k/9+1:=by
 have e:pMi 10 j=pM 10 k:=by unfold pMi;rw[hj,Xg];rfl
 have h:10^k<4294967296^pM 10 k∧pM 10 k≤1000:=by
  by_cases h0:k=0
  ·subst h0;exact⟨by show 1<4294967296^2;decide,by show 2≤1000;decide⟩
  ·exact Z1t (Ztj hk) (by omega) (Nat.le_refl _) (by omega)
 rw[e] at hb ⊢;exact⟨Zkz hb h.1 h.2,Zkb (ZhH k)⟩
end Go.Proofs.YtjlponbdflkbjaaGreatDoor.Na
