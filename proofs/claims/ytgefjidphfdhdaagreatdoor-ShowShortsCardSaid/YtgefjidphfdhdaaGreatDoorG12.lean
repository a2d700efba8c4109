/-
  NumRd, NumRe, NumRf, NumRg, NumRk, NumRm, RpG, UuB
-/
import Derived.Test.YtgefjidphfdhdaaGreatDoorG11
import Derived.Lib.Bytealg
import Derived.Laws.RangeAny
namespace Go.Rd
def zy (c b:Int):Int:=if 48≤c∧c≤57 then c-48 else if b=16∧97≤c∧c≤102 then c-87 else -1
theorem ZhI (c b:Int): -1≤zy c b∧zy c b<16:=by
 unfold zy;split
 ·omega
 ·split<;>omega
theorem Zru (c:Int):zy c 10<10:=by
 unfold zy;split
 ·omega
 ·rw[if_neg (by omega)];omega
def lq8 (c:UInt8):Int:=((c.toNat:Nat):Int)
def Zb2 (b:Int) (l:List UInt8):Bool:=l.all fun c=>decide (0≤zy (lq8 c) b)
def nmB (b:Int) (l:List UInt8):Nat:=l.foldl (fun a c=>a*b.toNat+(zy (lq8 c) b).toNat) 0
def sc1 (b:Int):Bool→List UInt8→List UInt8×Nat×List UInt8
 | _,[]=>([],0,[])
 | p,c::l=>
  if lq8 c=46∧p=false then sc1 b true l
  else if 0≤zy (lq8 c) b then (c::(sc1 b p l).1,(if p=true then 1 else 0)+(sc1 b p l).2.1,(sc1 b p l).2.2)
  else ([],0,c::l)
def pw1:Nat→List UInt8→Nat×Bool
 | a,[]=>(a,true)
 | a,c::l=>if 0≤zy (lq8 c) 10 then pw1 (min (10*a+(zy (lq8 c) 10).toNat) 2000000) l else (a,false)
def sgT:List UInt8→Bool×List UInt8
 | []=>(false,[])
 | c::r=>if lq8 c=45 then (true,r) else if lq8 c=43 then (false,r) else (false,c::r)
def scE (b:Int):List UInt8→Int×Bool
 | []=>(0,decide (b=10))
 | c::r=>
  if (b=10∧lq8 c≠101)∨(b=16∧lq8 c≠112) then (0,false)
  else if (sgT r).2=[] then (0,false)
  else if (pw1 0 (sgT r).2).2=false then (((pw1 0 (sgT r).2).1:Nat),false)
  else (if (sgT r).1=true then -((pw1 0 (sgT r).2).1:Nat) else ((pw1 0 (sgT r).2).1:Nat),true)
def scA (b:Int) (l:List UInt8):Int×Bool:=if (sc1 b false l).1=[] then (0,false) else scE b (sc1 b false l).2.2
theorem ZcB {l:List UInt8}{i:Nat}(h:i<l.length):l.drop i=l.getD i 0::l.drop (i+1):=by
 rw[List.getD_eq_getElem?_getD,List.getElem?_eq_getElem h,Option.getD_some];exact List.drop_eq_getElem_cons h
theorem Z0P (a:Nat) (l:List UInt8) (h:a≤2000000):(pw1 a l).1≤2000000:=by
 induction l generalizing a with
 | nil=>exact h
 | cons c l ih=>
  unfold pw1;split
  ·exact ih _ (by omega)
  ·exact h
theorem Z0Q (b:Int) (r:List UInt8): -2000000≤(scE b r).1∧(scE b r).1≤2000000:=by
 unfold scE;split
 ·exact⟨show (-2000000:Int)≤0 by decide,show (0:Int)≤2000000 by decide⟩
 ·rename_i c r;have:=Z0P 0 (sgT r).2 (by omega);split
  ·exact⟨by decide,by decide⟩
  ·split
   ·exact⟨by decide,by decide⟩
   ·split
    ·constructor<;>dsimp only<;>omega
    ·dsimp only;split<;>omega
theorem Zts (b:Int) (p:Bool) (l:List UInt8):(sc1 b p l).1.length≤l.length∧(sc1 b p l).2.1≤(sc1 b p l).1.length∧Zb2 b (sc1 b p l).1=true:=by
 induction l generalizing p with
 | nil=>exact⟨Nat.le_refl _,Nat.le_refl _,rfl⟩
 | cons c l ih=>
  unfold sc1;split
  ·obtain⟨h1,h2,h3⟩:=ih true;exact⟨by rw[List.length_cons];omega,h2,h3⟩
  ·split
   ·rename_i h;obtain⟨h1,h2,h3⟩:=ih p;refine⟨by dsimp only;rw[List.length_cons,List.length_cons];omega,by dsimp only;rw[List.length_cons];split<;>omega,?_⟩;show Zb2 b (c::(sc1 b p l).1)=true;unfold Zb2 at h3 ⊢;rw[List.all_cons,Xa h,h3];rfl
   ·exact⟨Nat.zero_le _,Nat.le_refl _,rfl⟩
theorem ZbU (b:Int) (l:List UInt8) (c:UInt8):nmB b (l++[c])=nmB b l*b.toNat+(zy (lq8 c) b).toNat:=by
 unfold nmB;rw[List.foldl_append];rfl
theorem Zrv (b:Int) (l:List UInt8) {i:Nat}(h:i<l.length):nmB b (l.take (i+1))=nmB b (l.take i)*b.toNat+(zy (lq8 (l.getD i 0)) b).toNat:=by
 rw[← ZbU];congr 1;rw[List.getD_eq_getElem?_getD,List.getElem?_eq_getElem h,Option.getD_some];exact (List.take_append_getElem h).symm
theorem Znp {b:Int}(hb:b=10∨b=16) (l:List UInt8):nmB b l<b.toNat^l.length:=by
 have key:∀ (l:List UInt8) (k:Nat),l.length=k→nmB b l<b.toNat^k:=by
  intro l k
  induction k generalizing l with
  | zero=>
   intro h;rw[List.eq_nil_of_length_eq_zero h];exact Nat.one_pos
  | succ k ih=>
   intro h;have hne:l≠[]:=fun h0=>by rw[h0] at h;cases h
   obtain⟨l',c,rfl⟩:∃ l' c,l=l'++[c]:=⟨l.dropLast,l.getLast hne,(List.dropLast_concat_getLast hne).symm⟩;have h1:=ih l' (by simpa using h);rw[ZbU,Nat.pow_succ];have hd:(zy (lq8 c) b).toNat<b.toNat:=by
    rcases hb with rfl | rfl
    ·have:=Zru (lq8 c);omega
    ·have:=(ZhI (lq8 c) 16).2;omega
   calc nmB b l'*b.toNat+(zy (lq8 c) b).toNat<nmB b l'*b.toNat+b.toNat:=by omega
    _=(nmB b l'+1)*b.toNat:=by rw[Nat.add_mul,Nat.one_mul]
    _≤b.toNat^k*b.toNat:=Nat.mul_le_mul_right _ h1
 exact key l l.length rfl
open Go.Rn
def trZ (l:List UInt8):List UInt8:=l.dropWhile fun c=>lq8 c==48
def upN (A B:Nat):Nat:=((bitLen B:Int)-(bitLen A:Int)+80).toNat
def dnA (b:Int) (l:List UInt8) (k P:Int):Nat×Int:=
 if b=16 then (nmB 16 l,P-4*k)
 else if 320<P-k+(l.length:Nat) then (1,3000)
 else if P-k+(l.length:Nat)< -340 then (1,-3000)
 else if 0≤P-k then (nmB 10 l*10^(P-k).toNat,0)
 else (dvK (nmB 10 l) (10^(k-P).toNat) (upN (nmB 10 l) (10^(k-P).toNat)),-((upN (nmB 10 l) (10^(k-P).toNat):Nat):Int)-1)
theorem Zjd {A B:Nat}(hA:A≠0):2^79*B≤A*2^upN A B:=by
 have h1:=(bitLen_spec A).2 hA;have h2:=(bitLen_spec B).1;have h3:=Zau hA;have h4:bitLen B+80≤upN A B+bitLen A:=by unfold upN;omega
 refine Nat.le_trans (Nat.mul_le_mul_left _ (Nat.le_of_lt h2)) ?_;rw[← Nat.pow_add];refine Nat.le_trans (Nat.pow_le_pow_right (by omega) (show 79+bitLen B≤(bitLen A-1)+upN A B by omega)) ?_;rw[Nat.pow_add];exact Nat.mul_le_mul_right _ h1
theorem ZdD (j:Nat):(10:Nat)^j<2^(4*j+1):=by
 have h1:(10:Nat)^j≤16^j:=Nat.pow_le_pow_left (by omega) j;have h2:(16:Nat)^j=2^(4*j):=by rw[Nat.pow_mul]
 have h3:(2:Nat)^(4*j)<2^(4*j+1):=Nat.pow_lt_pow_right (by omega) (by omega);omega
theorem Znq {b:Int}(hb:b=10∨b=16) (l:List UInt8):nmB b l<2^(4*l.length):=by
 refine Nat.lt_of_lt_of_le (Znp hb l) ?_;have h1:b.toNat^l.length≤16^l.length:=Nat.pow_le_pow_left (by omega) _;have h2:(16:Nat)^l.length=2^(4*l.length):=by rw[Nat.pow_mul]
 omega
theorem Zje {b:Int}{l:List UInt8}(h:Zb2 b l=true):Zb2 b (trZ l)=true:=by
 unfold Zb2 at*;rw[List.all_eq_true] at*;exact fun x hx=>h x ((List.dropWhile_sublist _).subset hx)
theorem Znr (l:List UInt8):(trZ l).length≤l.length:=(List.dropWhile_sublist _).length_le
theorem ZcC {c:UInt8}{l:List UInt8}:trZ (c::l)=if lq8 c=48 then trZ l else c::l:=by
 unfold trZ;rw[List.dropWhile_cons];by_cases h:lq8 c=48<;>simp [h]
theorem ZfE {b:Int}{l r:List UInt8}{c:UInt8}(h:Zb2 b l=true) (he:trZ l=c::r):0<zy (lq8 c) b:=by
 have h1:=Zje h;rw[he] at h1;unfold Zb2 at h1;rw[List.all_cons,Xh] at h1;have h2:=Xc h1.1;have h3:lq8 c≠48:=by
  intro h4;clear h h1
  induction l with
  | nil=>cases he
  | cons x l ih=>
   rw[ZcC] at he;by_cases hx:lq8 x=48
   ·rw[if_pos hx] at he;exact ih he
   ·rw[if_neg hx] at he;cases he;exact hx h4
 unfold zy at*;split
 ·omega
 ·rename_i h5;rw[if_neg h5] at h2;split
  ·omega
  ·rename_i h6;rw[if_neg h6] at h2;omega
theorem ZhJ {b:Int}(hb:b=10∨b=16) {c:UInt8}{r:List UInt8}(h:0<zy (lq8 c) b):0<nmB b (c::r):=by
 have key:∀ (r:List UInt8) (a:Nat),0<a→0<r.foldl (fun a c=>a*b.toNat+(zy (lq8 c) b).toNat) a:=by
  intro r
  induction r with
  | nil=>intro a h;exact h
  | cons x r ih=>
   intro a h;refine ih _ ?_;exact Nat.lt_of_lt_of_le (Nat.mul_pos h (by omega)) (Nat.le_add_right _ _)
 unfold nmB;rw[List.foldl_cons];exact key r _ (by rw[Nat.zero_mul];omega)
def rdB (u:List UInt8):Int×List UInt8:=if 1<u.length∧u.take 2=[48,120] then (16,u.drop 2) else (10,u)
def rdQ (m:Int) (n:Bool) (b:Int) (v:List UInt8):Int×Int×Int:=
 if (scA b v).2=false then (0,0,3)
 else if trZ (sc1 b false v).1=[] then (if n=true then 9223372036854775808 else 0,0,0)
 else (if n=true then 9223372036854775808+rnP m n (dnA b (trZ (sc1 b false v).1) ((sc1 b false v).2.1:Nat) (scA b v).1).1 (dnA b (trZ (sc1 b false v).1) ((sc1 b false v).2.1:Nat) (scA b v).1).2 else rnP m n (dnA b (trZ (sc1 b false v).1) ((sc1 b false v).2.1:Nat) (scA b v).1).1 (dnA b (trZ (sc1 b false v).1) ((sc1 b false v).2.1:Nat) (scA b v).1).2,rnF m n (dnA b (trZ (sc1 b false v).1) ((sc1 b false v).2.1:Nat) (scA b v).1).1 (dnA b (trZ (sc1 b false v).1) ((sc1 b false v).2.1:Nat) (scA b v).1).2,0)
def rdP (m:Int) (l:List UInt8):Int×Int×Int:=
 if 65536<l.length then (0,0,2)
 else if (sgT l).2=[110,97,110] then (9221120237041090560,0,0)
 else if (sgT l).2=[105,110,102] then (if (sgT l).1=true then 18442240474082181120 else 9218868437227405312,0,0)
 else rdQ m (sgT l).1 (rdB (sgT l).2).1 (rdB (sgT l).2).2
theorem Z0R (b:Int) (hb:b=10∨b=16) (l:List UInt8) (h:l.length≤10000) (k P:Int) (hk:0≤k∧k≤10000) (hP: -2000000≤P∧P≤2000000):(dnA b l k P).1<2^(16*5625)∧ -4000000≤(dnA b l k P).2∧(dnA b l k P).2≤4000000:=by
 obtain⟨J,hJ⟩:∃ J,J=16*5625:=⟨_,rfl⟩;rw[← hJ];have hn:=Znq hb l;have pb:∀ {j:Nat},j≤J→(2:Nat)^j≤2^J:=fun h=>Nat.pow_le_pow_right (by omega) h;unfold dnA;by_cases h16:b=16
 ·rw[if_pos h16];rw[h16] at hn;exact⟨Nat.lt_of_lt_of_le hn (pb (by omega)),by dsimp only;omega,by dsimp only;omega⟩
 rw[if_neg h16];have h10:b=10:=by omega
 rw[h10] at hn;have one:(1:Nat)<2^J:=Nat.one_lt_two_pow (by omega);split
 ·exact⟨one,by dsimp only;omega,by dsimp only;omega⟩
 split
 ·exact⟨one,by dsimp only;omega,by dsimp only;omega⟩
 rename_i h1 h2;split
 ·have tb:=ZdD (P-k).toNat;refine⟨?_,by dsimp only;omega,by dsimp only;omega⟩;dsimp only;refine Nat.lt_of_lt_of_le (Nat.mul_lt_mul'' hn tb) ?_;rw[← Nat.pow_add];exact pb (by omega)
 ·have tb:=ZdD (k-P).toNat;have bA:=len_le hn;have bB:=len_le tb;have hu:upN (nmB 10 l) (10^(k-P).toNat)≤41600:=by unfold upN;omega
  refine⟨?_,by dsimp only;omega,by dsimp only;omega⟩;dsimp only;unfold dvK;have h3:=Nat.div_le_self (nmB 10 l*2^upN (nmB 10 l) (10^(k-P).toNat)) (10^(k-P).toNat);have h4:nmB 10 l*2^upN (nmB 10 l) (10^(k-P).toNat)<2^(4*l.length+upN (nmB 10 l) (10^(k-P).toNat)):=by
   rw[Nat.pow_add];exact Nat.mul_lt_mul_of_pos_right hn (Nat.pow_pos (by omega))
  have h5:(2:Nat)^(4*l.length+upN (nmB 10 l) (10^(k-P).toNat))*4≤2^J:=by
   rw[show (4:Nat)=2^2 from rfl,← Nat.pow_add];exact pb (by omega)
  refine Nat.lt_of_lt_of_le ?_ h5;split<;>omega
end Go.Rd
namespace Go.Rd
open Go.Rn
theorem Zjf {m E:Int}{n:Bool}{A B k:Nat}(j:Nat) (h:54≤bitLen (A*2^k/B)):rnP m n (dvK A B k) (E+j)=rnP m n (dvK A B (k+j)) E∧rnF m n (dvK A B k) (E+j)=rnF m n (dvK A B (k+j)) E:=by
 have r:=Znm (m:=m) (neg:=n) (A:=dvK A B (k+j)) (d:=j+1) (F:=E) (.inr (by rw[Zno];exact h));rw[ZvY,show E+((j+1:Nat):Int)-1=E+(j:Int) by omega] at r;exact r
theorem ZvZ {m:Int}{n:Bool}{A B k j:Nat}(h:54≤bitLen (A*2^k/B)) (h':54≤bitLen (A*2^j/B)):rnP m n (dvK A B k) (-(k:Int)-1)=rnP m n (dvK A B j) (-(j:Int)-1)∧rnF m n (dvK A B k) (-(k:Int)-1)=rnF m n (dvK A B j) (-(j:Int)-1):=by
 rcases Nat.le_total k j with hk | hk
 ·have r:=Zjf (m:=m) (n:=n) (E:= -(j:Int)-1) (j-k) h;rw[show k+(j-k)=j by omega,show -(j:Int)-1+((j-k:Nat):Int)= -(k:Int)-1 by omega] at r;exact r
 ·have r:=Zjf (m:=m) (n:=n) (E:= -(k:Int)-1) (k-j) h';rw[show j+(k-j)=k by omega,show -(k:Int)-1+((k-j:Nat):Int)= -(j:Int)-1 by omega] at r;exact⟨r.1.symm,r.2.symm⟩
theorem ZbV {A B:Nat}(hA:A≠0) (hB:B≠0):80≤bitLen (A*2^upN A B/B):=by
 refine Zeq (k:=79) ?_;rw[Nat.le_div_iff_mul_le (by omega)];exact Zjd hA
def rqP (m:Int) (n:Bool) (A B:Nat):Int:=rnP m n (dvK A B (upN A B)) (-((upN A B:Nat):Int)-1)
def rqF (m:Int) (n:Bool) (A B:Nat):Int:=rnF m n (dvK A B (upN A B)) (-((upN A B:Nat):Int)-1)
theorem Zns {m:Int}{n:Bool}{A B k:Nat}(hA:A≠0) (hB:B≠0) (h:54≤bitLen (A*2^k/B)):rnP m n (dvK A B k) (-(k:Int)-1)=rqP m n A B∧rnF m n (dvK A B k) (-(k:Int)-1)=rqF m n A B:=
 ZvZ h (Nat.le_trans (by omega) (ZbV hA hB))
theorem Znt {A B c:Nat}(hc:0<c) (k:Nat):dvK (A*c) (B*c) k=dvK A B k:=by
 unfold dvK;have e:A*c*2^k=A*2^k*c:=by rw[Nat.mul_assoc,Nat.mul_comm c,← Nat.mul_assoc]
 rw[e,Nat.mul_div_mul_right _ _ hc,Nat.mul_mod_mul_right];by_cases h:A*2^k % B=0
 ·rw[if_pos h,if_pos (by rw[h,Nat.zero_mul])]
 ·rw[if_neg h,if_neg (fun h'=>h ((Nat.mul_eq_zero.1 h').resolve_right (by omega)))]
theorem Znu {m:Int}{n:Bool}{A B c:Nat}(hA:A≠0) (hB:B≠0) (hc:0<c):rqP m n (A*c) (B*c)=rqP m n A B∧rqF m n (A*c) (B*c)=rqF m n A B:=by
 have hA':A*c≠0:=fun h=>(Nat.mul_eq_zero.1 h).elim hA (by omega);have hB':B*c≠0:=fun h=>(Nat.mul_eq_zero.1 h).elim hB (by omega);have h:=ZbV hA hB;have e:A*c*2^upN A B/(B*c)=A*2^upN A B/B:=by rw[Nat.mul_assoc,Nat.mul_comm c,← Nat.mul_assoc,Nat.mul_div_mul_right _ _ hc]
 obtain⟨r1,r2⟩:=Zns (m:=m) (n:=n) (k:=upN A B) hA' hB' (by rw[e];omega);rw[Znt hc] at r1 r2;exact⟨r1.symm,r2.symm⟩
theorem Z0S (m:Int) (n:Bool) (A:Nat):rqP m n A 1=rnP m n A 0∧rqF m n A 1=rnF m n A 0:=by
 have e:dvK A 1 (upN A 1)=A*2^(upN A 1+1):=by
  unfold dvK;rw[Nat.div_one,Nat.mod_one,if_pos rfl,Nat.add_zero,Nat.pow_succ,Nat.mul_comm 2,Nat.mul_assoc]
 have p:=ZbJ m n A (upN A 1+1) 0;have f:=Zer m n A (upN A 1+1) 0;rw[show (0:Int)-((upN A 1+1:Nat):Int)= -((upN A 1:Nat):Int)-1 by omega] at p f;unfold rqP rqF;rw[e];exact⟨p,f⟩
theorem Z0T {A B k:Nat}(h:A*2^k/B≠0):lgN (dvK A B k) (-(k:Int)-1)=(bitLen (A*2^k/B):Int)-1-k:=by
 have e:bitLen (dvK A B k)=bitLen (A*2^k/B)+1:=by
  have h1:=(bitLen_spec (A*2^k/B)).1;have h2:=(bitLen_spec (A*2^k/B)).2 h;have h3:=Zau h;have e1:2^bitLen (A*2^k/B)=2^(bitLen (A*2^k/B)-1)*2:=by rw[← Nat.pow_succ];congr 1;omega
  refine Zay (k:=bitLen (A*2^k/B)) ?_ ?_
  ·unfold dvK;split<;>omega
  ·rw[Nat.pow_succ];unfold dvK;split<;>omega
 unfold lgN;rw[e];omega
theorem Z0U {m:Int}{n:Bool}{A B J:Nat}(hA:A≠0) (hB:B≠0) (hJ:1024≤J) (h:B*2^J≤A):rqP m n A B=bey m n∧rqF m n A B=20:=by
 have hb:=ZbV hA hB;have hq:A*2^upN A B/B≠0:=fun h0=>by rw[h0] at hb;exact absurd hb (by decide)
 have hT:dvK A B (upN A B)≠0:=fun h0=>by
  unfold dvK at h0;omega
 refine Znf hT ?_;rw[Z0T hq];have h1:2^(J+upN A B)≤A*2^upN A B/B:=by
  rw[Nat.le_div_iff_mul_le (by omega),Nat.pow_add,Nat.mul_comm,← Nat.mul_assoc];exact Nat.mul_le_mul_right _ h
 have:=Zeq h1;omega
theorem Z0V {m:Int}{n:Bool}{A B J:Nat}(hA:A≠0) (hB:B≠0) (hJ:1099≤J) (h:A*2^J<B):rqP m n A B=rnP m n 1 (-3000)∧rqF m n A B=rnF m n 1 (-3000):=by
 have hb:=ZbV hA hB;have hq:A*2^upN A B/B≠0:=fun h0=>by rw[h0] at hb;exact absurd hb (by decide)
 have hT:dvK A B (upN A B)≠0:=fun h0=>by
  unfold dvK at h0;omega
 have hu:J≤upN A B:=by
  have h1:bitLen A+J≤bitLen B:=by
   have:=Zeq (T:=B) (k:=bitLen A-1+J) (by
    rw[Nat.pow_add];exact Nat.le_of_lt (Nat.lt_of_le_of_lt (Nat.mul_le_mul_right _ ((bitLen_spec A).2 hA)) h))
   have:=Zau hA;omega
  unfold upN;omega
 have h1:A*2^upN A B/B<2^(upN A B-J):=by
  rw[Nat.div_lt_iff_lt_mul (by omega)];have e:2^upN A B=2^J*2^(upN A B-J):=by rw[← Nat.pow_add];congr 1;omega
  rw[e,← Nat.mul_assoc,Nat.mul_comm (2^(upN A B-J))];exact Nat.mul_lt_mul_of_pos_right h (Nat.pow_pos (by omega))
 have h2:=len_le h1;have l1:bitLen 1=1:=Zay (k:=0) (by decide) (by decide);obtain⟨a1,a2⟩:=Zjc (m:=m) (neg:=n) hT (by rw[Z0T hq];omega);obtain⟨b1,b2⟩:=Zjc (m:=m) (neg:=n) (T:=1) (E:= -3000) (by decide) (by unfold lgN;rw[l1];decide);exact⟨a1.trans b1.symm,a2.trans b2.symm⟩
theorem ZhK {e J i:Nat}(h1:28*i≤e) (h2:J≤93*i):2^J≤10^e:=by
 have h:(2:Nat)^93≤10^28:=by decide
 have h3:((2:Nat)^93)^i≤(10^28)^i:=Nat.pow_le_pow_left h i;rw[← Nat.pow_mul,← Nat.pow_mul] at h3;exact Nat.le_trans (Nat.pow_le_pow_right (by omega) h2) (Nat.le_trans h3 (Nat.pow_le_pow_right (by omega) h1))
def deP (m:Int) (n:Bool) (A:Nat) (j:Int):Int:=rqP m n (A*10^j.toNat) (10^(-j).toNat)
def deF (m:Int) (n:Bool) (A:Nat) (j:Int):Int:=rqF m n (A*10^j.toNat) (10^(-j).toNat)
theorem ZaO (j:Nat):10^j≠0:=fun h=>by have:=Nat.pow_pos (n:=j) (show 0<10 by omega);omega
theorem Zcd {A B:Nat}(hA:A≠0) (hB:B≠0):A*B≠0:=fun h=>(Nat.mul_eq_zero.1 h).elim hA hB
theorem ZcD (m:Int) (n:Bool) {A:Nat}(hA:A≠0) (c:Nat) (j:Int):deP m n (A*10^c) (j-c)=deP m n A j∧deF m n (A*10^c) (j-c)=deF m n A j:=by
 obtain⟨d,hd⟩:∃ d:Nat,(-(j-c)).toNat=(-j).toNat+d∧c+(j-c).toNat=j.toNat+d:=⟨(-(j-c)).toNat-(-j).toNat,by omega,by omega⟩;have e1:A*10^c*10^(j-c).toNat=A*10^j.toNat*10^d:=by rw[Nat.mul_assoc,← Nat.pow_add,hd.2,Nat.pow_add,Nat.mul_assoc]
 unfold deP deF;rw[e1,hd.1,Nat.pow_add];exact Znu (Zcd hA (ZaO _)) (ZaO _) (Nat.pow_pos (by omega))
theorem Z0W (m:Int) (n:Bool) {A L:Nat}{j:Int}(h:10^L≤A) (hj:309≤j+(L:Int)):deP m n A j=bey m n∧deF m n A j=20:=by
 have hA:A≠0:=fun h0=>by rw[h0] at h;exact ZaO L (Nat.le_zero.1 h)
 obtain⟨e,he⟩:∃ e:Nat,e+(-j).toNat=L+j.toNat∧309≤e:=⟨L+j.toNat-(-j).toNat,by omega,by omega⟩;obtain⟨J,hJ⟩:∃ J,J=1023:=⟨_,rfl⟩;obtain⟨E,hE⟩:∃ E,E=308:=⟨_,rfl⟩;have h2:2^(J+1)≤10^e:=by
  have h3:=ZhK (e:=E) (J:=J) (i:=11) (by omega) (by omega);refine Nat.le_trans ?_ (Nat.pow_le_pow_right (by omega) (show E+1≤e by omega));rw[Nat.pow_succ,Nat.pow_succ];omega
 refine Z0U (J:=J+1) (Zcd hA (ZaO _)) (ZaO _) (by omega) ?_;refine Nat.le_trans (Nat.mul_le_mul_left _ h2) ?_;rw[← Nat.pow_add,Nat.add_comm,he.1,Nat.pow_add];exact Nat.mul_le_mul_right _ h
theorem Z0X (m:Int) (n:Bool) {A L:Nat}{j:Int}(hA:A≠0) (h:A<10^L) (hj:j+(L:Int)≤ -336):deP m n A j=rnP m n 1 (-3000)∧deF m n A j=rnF m n 1 (-3000):=by
 obtain⟨e,he⟩:∃ e:Nat,L+e=(-j).toNat∧336≤e:=⟨(-j).toNat-L,by omega,by omega⟩;obtain⟨J,hJ⟩:∃ J,J=1099:=⟨_,rfl⟩;have h2:2^J≤10^e:=ZhK (i:=12) (by omega) (by omega);have hz:j.toNat=0:=by omega
 unfold deP deF;rw[hz,Nat.pow_zero,Nat.mul_one];refine Z0V (J:=J) hA (ZaO _) (by omega) ?_;rw[← he.1,Nat.pow_add];exact Nat.lt_of_lt_of_le (Nat.mul_lt_mul_of_pos_right h (Nat.pow_pos (by omega))) (Nat.mul_le_mul_left _ h2)
theorem Z0Y {b:Int}{c:UInt8}{r:List UInt8}(h:0<zy (lq8 c) b):b.toNat^r.length≤nmB b (c::r):=by
 have key:∀ (r:List UInt8) (a:Nat),a*b.toNat^r.length≤r.foldl (fun a c=>a*b.toNat+(zy (lq8 c) b).toNat) a:=by
  intro r
  induction r with
  | nil=>intro a;simp
  | cons x r ih=>
   intro a;rw[List.length_cons,Nat.pow_succ,Nat.mul_comm (b.toNat^r.length),← Nat.mul_assoc,List.foldl_cons];exact Nat.le_trans (Nat.mul_le_mul_right _ (Nat.le_add_right _ _)) (ih _)
 unfold nmB;rw[List.foldl_cons];refine Nat.le_trans ?_ (key r _);exact Nat.le_mul_of_pos_left _ (by rw[Nat.zero_mul];omega)
theorem Z6i (m:Int) (n:Bool) {c:UInt8}{r:List UInt8}{k P:Int}(h:0<zy (lq8 c) 10):rnP m n (dnA 10 (c::r) k P).1 (dnA 10 (c::r) k P).2=deP m n (nmB 10 (c::r)) (P-k)∧rnF m n (dnA 10 (c::r) k P).1 (dnA 10 (c::r) k P).2=deF m n (nmB 10 (c::r)) (P-k):=by
 have hp:=ZhJ (b:=10) (.inl rfl) (r:=r) h;have hg:=Z0Y (b:=10) (r:=r) h;have hl:=Znp (b:=10) (.inl rfl) (c::r);have e10:(10:Int).toNat=10:=rfl;rw[e10] at hg hl;have l1:bitLen 1=1:=Zay (k:=0) (by decide) (by decide);unfold dnA;rw[if_neg (by decide)];split
 ·rename_i h1;rw[List.length_cons] at h1;obtain⟨d1,d2⟩:=Z0W m n (j:=P-k) hg (by omega);obtain⟨b1,b2⟩:=Znf (m:=m) (neg:=n) (T:=1) (E:=3000) (by decide) (by unfold lgN;rw[l1];decide);exact⟨b1.trans d1.symm,b2.trans d2.symm⟩
 split
 ·rename_i h1 h2;obtain⟨d1,d2⟩:=Z0X m n (j:=P-k) (by omega) hl (by omega);exact⟨d1.symm,d2.symm⟩
 split
 ·rename_i h3;have hz:(-(P-k)).toNat=0:=by omega
  obtain⟨q1,q2⟩:=Z0S m n (nmB 10 (c::r)*10^(P-k).toNat);unfold deP deF;rw[hz,Nat.pow_zero];exact⟨q1.symm,q2.symm⟩
 ·rename_i h3;have hz:(P-k).toNat=0:=by omega
  have e:(-(P-k)).toNat=(k-P).toNat:=by omega
  unfold deP deF rqP rqF;rw[hz,e,Nat.pow_zero,Nat.mul_one];exact⟨rfl,rfl⟩
theorem Z0Z (m:Int) (n:Bool) (A:Nat) (j:Int):deP (swM m) (!n) A j=deP m n A j∧deF (swM m) (!n) A j=deF m n A j:=by
 unfold deP deF rqP rqF;rw[ZvQ,ZvR];exact⟨rfl,rfl⟩
def chD (d:Nat):UInt8:=UInt8.ofNat (48+d)
def Zba:Nat→Nat→List UInt8
 | 0,_=>[]
 | f+1,n=>if n<10 then [chD n] else Zba f (n/10)++[chD (n % 10)]
def dcL (n:Nat):List UInt8:=Zba 20 n
theorem Znv {d:Nat}(h:d<10):lq8 (chD d)=((48+d:Nat):Int):=by
 unfold lq8 chD;rw[UInt8.toNat_ofNat'];omega
theorem Zjg {d:Nat}(h:d<10) (b:Int):zy (lq8 (chD d)) b=(d:Int):=by
 rw[Znv h];unfold zy;rw[if_pos (by omega)];omega
theorem ZcE (f n:Nat) (b:Int):Zb2 b (Zba f n)=true:=by
 induction f generalizing n with
 | zero=>rfl
 | succ f ih=>
  unfold Zba;split
  ·rename_i h;unfold Zb2;rw[List.all_cons,Zjg h,Xa (by omega)];rfl
  ·unfold Zb2;rw[List.all_append];have:=ih (n/10);unfold Zb2 at this;rw[this,List.all_cons,Zjg (show n % 10<10 by omega),Xa (by omega)];rfl
theorem ZfF {f n:Nat}(h:n<10^f):nmB 10 (Zba f n)=n:=by
 induction f generalizing n with
 | zero=>
  have:n=0:=by simpa using h
  rw[this];rfl
 | succ f ih=>
  unfold Zba;split
  ·rename_i h1;show (0*(10:Int).toNat+(zy (lq8 (chD n)) 10).toNat)=n;rw[Zjg h1];omega
  ·rw[ZbU,ih (by rw[Nat.pow_succ] at h;omega),Zjg (show n % 10<10 by omega),show (10:Int).toNat=10 from rfl];omega
theorem ZdE (f n:Nat):(Zba f n).length≤f:=by
 induction f generalizing n with
 | zero=>exact Nat.le_refl _
 | succ f ih=>
  unfold Zba;split
  ·rw[List.length_singleton];omega
  ·rw[List.length_append,List.length_singleton];have:=ih (n/10);omega
theorem Zjh {n:Nat}(h:n<18446744073709551616):n<10^20:=Nat.lt_trans h (by decide)
theorem Ztt (n:Nat):dcL n≠[]:=by
 unfold dcL Zba;split
 ·simp
 ·simp
theorem Z8Y (b:Int):zy 46 b= -1:=by
 unfold zy;rw[if_neg (by omega),if_neg (by omega)]
theorem Z1a (b:Int) (r:List UInt8):sc1 b false (46::r)=sc1 b true r:=by
 rw[sc1,if_pos ⟨by rfl,rfl⟩]
theorem Zji {b:Int}{p:Bool}{c:UInt8}{r:List UInt8}(h:lq8 c≠46) (hd:zy (lq8 c) b<0):sc1 b p (c::r)=([],0,c::r):=by
 rw[sc1,if_neg (fun h'=>h h'.1),if_neg (by omega)]
theorem ZhL {b:Int}{A:List UInt8}(h:Zb2 b A=true) (p:Bool) (r:List UInt8):sc1 b p (A++r)=(A++(sc1 b p r).1,(if p=true then A.length else 0)+(sc1 b p r).2.1,(sc1 b p r).2.2):=by
 induction A with
 | nil=>simp
 | cons c A ih=>
  unfold Zb2 at h ih;rw[List.all_cons,Xh] at h;have h1:=Xc h.1;have h46:lq8 c≠46:=fun h'=>by rw[h',Z8Y] at h1;omega
  rw[List.cons_append,sc1,if_neg (fun h'=>h46 h'.1),if_pos h1,ih h.2];cases p<;>simp<;>omega
theorem Zwa (a:Nat) (l r:List UInt8) (h:(pw1 a l).2=true):pw1 a (l++r)=pw1 (pw1 a l).1 r:=by
 induction l generalizing a with
 | nil=>rfl
 | cons c l ih=>
  rw[List.cons_append,pw1,pw1];by_cases hc:0≤zy (lq8 c) 10
  ·rw[pw1,if_pos hc] at h;rw[if_pos hc,if_pos hc];exact ih _ h
  ·rw[pw1,if_neg hc] at h;cases h
theorem Z1b {l:List UInt8}(h:Zb2 10 l=true) (hv:nmB 10 l≤2000000):pw1 0 l=(nmB 10 l,true):=by
 have key:∀ (k:Nat) (l:List UInt8),l.length=k→Zb2 10 l=true→nmB 10 l≤2000000→pw1 0 l=(nmB 10 l,true):=by
  intro k
  induction k with
  | zero=>
   intro l hl _ _;rw[List.eq_nil_of_length_eq_zero hl];rfl
  | succ k ih=>
   intro l hl ha hv;have hne:l≠[]:=fun h0=>by rw[h0] at hl;cases hl
   obtain⟨l',c,rfl⟩:∃ l' c,l=l'++[c]:=⟨l.dropLast,l.getLast hne,(List.dropLast_concat_getLast hne).symm⟩;unfold Zb2 at ha ih;rw[List.all_append,Xh] at ha;rw[ZbU] at hv;have e10:(10:Int).toNat=10:=rfl;rw[e10] at hv;have h1:=ih l' (by simpa using hl) ha.1 (by omega);have hc:0≤zy (lq8 c) 10:=by
    have:=ha.2;simpa using this
   rw[Zwa _ _ _ (by rw[h1]),h1,ZbU,e10,pw1,if_pos hc,pw1];congr 1;dsimp only;omega
 exact key l.length l rfl h hv
theorem ZhM (b:Int) (l:List UInt8):nmB b (trZ l)=nmB b l:=by
 induction l with
 | nil=>rfl
 | cons c l ih=>
  rw[ZcC];by_cases h:lq8 c=48
  ·rw[if_pos h,ih];have:zy (lq8 c) b=0:=by
    rw[h];unfold zy;rw[if_pos (by omega)];rfl
   unfold nmB;rw[List.foldl_cons,this];simp
  ·rw[if_neg h]
theorem Znw {b:Int}(hb:b=10∨b=16) {l:List UInt8}(h:Zb2 b l=true):trZ l=[]↔nmB b l=0:=by
 constructor
 ·intro h0;rw[← ZhM,h0];rfl
 ·intro h0;cases h1:trZ l with
  | nil=>rfl
  | cons c r=>
   have:=ZhJ hb (r:=r) (ZfE h h1);rw[← h1,ZhM] at this;omega
def rdN (m:Int) (n:Bool) (A:Nat) (j:Int):Int×Int×Int:=
 if A=0 then (if n=true then 9223372036854775808 else 0,0,0) else (if n=true then 9223372036854775808+deP m n A j else deP m n A j,deF m n A j,0)
theorem Znx {m:Int}{n:Bool}{v:List UInt8}(h:(scA 10 v).2=true):rdQ m n 10 v=rdN m n (nmB 10 (sc1 10 false v).1) ((scA 10 v).1-((sc1 10 false v).2.1:Nat)):=by
 have ha:=(Zts 10 false v).2.2;unfold rdQ rdN;rw[if_neg (by rw[h];decide)];by_cases hz:trZ (sc1 10 false v).1=[]
 ·rw[if_pos hz,if_pos ((Znw (.inl rfl) ha).1 hz)]
 ·rw[if_neg hz,if_neg (fun h0=>hz ((Znw (.inl rfl) ha).2 h0))];cases h1:trZ (sc1 10 false v).1 with
  | nil=>exact absurd h1 hz
  | cons c r=>
   obtain⟨d1,d2⟩:=Z6i m n (r:=r) (k:=((sc1 10 false v).2.1:Nat)) (P:=(scA 10 v).1) (ZfE ha h1);rw[d1,d2,← h1,ZhM]
theorem Zny (m:Int) (n:Bool) (A c:Nat) (j:Int):rdN m n (A*10^c) (j-c)=rdN m n A j:=by
 unfold rdN;by_cases h:A=0
 ·rw[h,Nat.zero_mul,if_pos rfl,if_pos rfl]
 ·obtain⟨e1,e2⟩:=ZcD m n h c j;rw[if_neg h,if_neg (Zcd h (ZaO c)),e1,e2]
theorem Znz (m:Int) (n:Bool) (A:Nat) (j:Int):(rdN m n A j).2.2=0:=by
 unfold rdN;split<;>rfl
theorem ZbK {c:UInt8}(h:0≤zy (lq8 c) 10):48≤lq8 c∧lq8 c≤57:=by
 unfold zy at h;split at h
 ·assumption
 ·rw[if_neg (by omega)] at h;omega
theorem ZgI {c:UInt8}{r:List UInt8}(h:48≤lq8 c∧lq8 c≤57):sgT (c::r)=(false,c::r):=by
 unfold sgT;dsimp only;rw[if_neg (by omega),if_neg (by omega)]
theorem ZgJ (r:List UInt8):sgT (45::r)=(true,r):=by
 unfold sgT;dsimp only;rw[if_pos (by rfl)]
theorem Zjj {m:Int}{n:Bool}{l:List UInt8}{c:UInt8}{r:List UInt8}(hl:l.length≤65536) (hs:sgT l=(n,c::r)) (hc:48≤lq8 c∧lq8 c≤57) (hr:∀ d∈r,d≠120):rdP m l=rdQ m n 10 (c::r):=by
 unfold rdP;rw[if_neg (by omega),hs];dsimp only;rw[if_neg (fun h=>by cases h;exact absurd hc.2 (by decide)),if_neg (fun h=>by cases h;exact absurd hc.2 (by decide))];have e:rdB (c::r)=(10,c::r):=by
  unfold rdB;rw[if_neg];rintro⟨h1,h2⟩;cases r with
  | nil=>exact absurd h1 (by simp)
  | cons d t=>
   have:[c,d]=[48,120]:=h2;cases this;exact hr 120 Xe rfl
 rw[e]
def ZaB (x:Int):List UInt8:=if x<0 then 45::dcL x.natAbs else dcL x.natAbs
theorem Zrw (n:Nat):∃ c r,dcL n=c::r∧(48≤lq8 c∧lq8 c≤57):=by
 cases e:dcL n with
 | nil=>exact absurd e (Ztt n)
 | cons c r=>
  have ha:=ZcE 20 n 10;unfold dcL at e;rw[e] at ha;unfold Zb2 at ha;rw[List.all_cons,Xh] at ha;exact⟨c,r,rfl,ZbK (Xc ha.1)⟩
theorem Zwb (x:Int):sgT (ZaB x)=(decide (x<0),dcL x.natAbs):=by
 unfold ZaB;by_cases hx:x<0
 ·rw[if_pos hx,ZgJ,Xa hx]
 ·obtain⟨c,r,e,hc⟩:=Zrw x.natAbs;rw[if_neg hx,e,ZgI hc,Xb hx]
theorem Zn0 {b:Int}(hb:b=10∨b=16) {c:UInt8}(hc:(b=10→lq8 c=101)∧(b=16→lq8 c=112)) {x:Int}(h:x.natAbs≤2000000):scE b (c::ZaB x)=(x,true):=by
 have hp:pw1 0 (dcL x.natAbs)=(x.natAbs,true):=by
  have hn:=ZfF (f:=20) (n:=x.natAbs) (Zjh (by omega));have:=Z1b (l:=dcL x.natAbs) (ZcE 20 x.natAbs 10) (by unfold dcL;rw[hn];exact h);rw[this];unfold dcL;rw[hn]
 unfold scE;dsimp only;rw[if_neg (by rcases hb with hb | hb<;>simp [hb,hc.1,hc.2]),Zwb x];dsimp only;rw[if_neg (Ztt _),hp];dsimp only;rw[if_neg (by decide)];by_cases hx:x<0
 ·rw[if_pos (Xa hx)];congr 1;omega
 ·rw[if_neg (by simpa using hx)];congr 1;omega
def trR (l:List UInt8):List UInt8:=(l.reverse.dropWhile fun c=>lq8 c==48).reverse
theorem ZfG (l:List UInt8) (c:UInt8):trR (l++[c])=if lq8 c=48 then trR l else l++[c]:=by
 unfold trR;rw[List.reverse_append,List.reverse_singleton,List.singleton_append,List.dropWhile_cons];by_cases h:lq8 c=48
 ·rw[if_pos (by simpa using h),if_pos h]
 ·rw[if_neg (by simpa using h),if_neg h,List.reverse_cons,List.reverse_reverse]
theorem Zrx {P:List UInt8→Prop}(h0:P []) (h1:∀ l c,P l→P (l++[c])) (l:List UInt8):P l:=by
 have key:∀ k (l:List UInt8),l.length=k→P l:=by
  intro k
  induction k with
  | zero=>intro l hl;rw[List.eq_nil_of_length_eq_zero hl];exact h0
  | succ k ih=>
   intro l hl;have hne:l≠[]:=fun h=>by rw[h] at hl;cases hl
   rw[← List.dropLast_concat_getLast hne];exact h1 _ _ (ih _ (by rw[List.length_dropLast];omega))
 exact key _ l rfl
theorem Zn1 (l:List UInt8):(trR l).length≤l.length:=by
 unfold trR;rw[List.length_reverse];have:=(List.dropWhile_sublist (l:=l.reverse) fun c=>lq8 c==48).length_le;rw[List.length_reverse] at this;exact this
theorem Zwc {b:Int}(l:List UInt8):nmB b l=nmB b (trR l)*b.toNat^(l.length-(trR l).length):=by
 refine Zrx (P:=fun l=>nmB b l=nmB b (trR l)*b.toNat^(l.length-(trR l).length)) ?_ ?_ l
 ·rfl
 ·intro l c ih;rw[ZfG];by_cases h:lq8 c=48
  ·have hd:(zy 48 b).toNat=0:=by unfold zy;rw[if_pos (by omega)];rfl
   have:=Zn1 l;rw[if_pos h,ZbU,h,hd,Nat.add_zero,ih,Nat.mul_assoc,← Nat.pow_succ,List.length_append,List.length_singleton];congr 2;omega
  ·rw[if_neg h,Nat.sub_self,Nat.pow_zero,Nat.mul_one]
end Go.Rd
namespace Go.Rd
open Go.Rn Go.Nt
theorem ZcF (k:Nat):(4294967296:Nat)^k=2^(32*k):=by rw[Nat.pow_mul]
end Go.Rd
namespace Go.Proofs.YtgefjidphfdhdaaGreatDoor.Na
open Go.KRun Go.Nt Go.Rd
set_option maxRecDepth 100000
theorem ZcG (V:Nat):V<4294967296^(d32 V).length:=by
 have:=ZbG (b:=4294967296) (by omega) (d32 V) (Zh4 V);rw[show vb 4294967296 (d32 V)=V from Zc1 (by omega) V] at this;exact this
theorem Zwd {V:Nat}(h:0<(d32 V).length):4294967296^((d32 V).length-1)≤V:=by
 rcases Nat.lt_or_ge V (4294967296^((d32 V).length-1)) with h1 | h1
 ·have:(d32 V).length≤(d32 V).length-1:=Zbt (b:=4294967296) (by omega) _ _ h1;omega
 ·exact h1
theorem ZbL {V:Nat}(h:V≠0):0<(d32 V).length:=(Zdd (b:=4294967296) (by omega)).2 (by omega)
theorem Zn2 {V:Nat}(h0:V≠0) (h:(d32 V).length≤8192):Ze2 (d32 V)=((bitLen V:Nat):Int):=by
 have hp:=ZbL h0;have hc:=ZcA V;obtain⟨L,hL⟩:∃ L,L=d32 V:=⟨_,rfl⟩;have eV:vb 4294967296 L=V:=by rw[hL];exact Zc1 (by omega) V
 rw[← hL] at hp hc h ⊢;have hb:ZS L=false:=by
  unfold ZS;rw[Xb (by omega),Bool.false_or];rcases hc.2 with h0 | h0
  ·omega
  ·rw[beq_eq_false_iff_ne.2 h0,Bool.and_false]
 have e1:Ze2 L=32*((L.length-1:Nat):Int)+(bitLen (L.getD (L.length-1) 0).toNat:Nat):=by
  unfold Ze2;rw[hb,beq_eq_false_iff_ne.2 (show L.length≠0 by omega)];rfl
 have ht:=Za5 4294967296 L (L.length-1);rw[show L.length-1+1=L.length by omega,List.take_length,eV] at ht;have lo:vb 4294967296 (L.take (L.length-1))<4294967296^(L.length-1):=by
  have h1:=ZbG (b:=4294967296) (by omega) (L.take (L.length-1)) (fun x hx=>hc.1 x (List.mem_of_mem_take hx));rw[List.length_take,Nat.min_eq_left (by omega)] at h1;exact h1
 have hpw:0<4294967296^(L.length-1):=Nat.pow_pos (by omega);have htop:(L.getD (L.length-1) 0).toNat≠0:=by
  have hlt:L.length-1<L.length:=by omega
  have hw:=hc.1 (L.getD (L.length-1) 0) (by simp [List.getD,List.getElem?_eq_getElem hlt]);rcases hc.2 with h1 | h1
  ·omega
  ·have:L.getD (L.length-1) 0≠0:=h1;omega
 have hdiv:V/2^(32*(L.length-1))=(L.getD (L.length-1) 0).toNat:=by
  rw[← ZcF,ht,Nat.add_comm,Nat.mul_add_div hpw,Nat.div_eq_of_lt lo,Nat.add_zero]
 have hs:=bitLen_shift V (32*(L.length-1)) (by rw[hdiv];exact htop);rw[hdiv] at hs;rw[e1,hs];omega
section
variable {H : Hp} {p q : Option Addr} {n c n' c' V W : Nat}
theorem Z8Z (h:IsR H p n c V) (k:Nat):decide (Zhl (Zm H p n) ((k:Nat):Int).toNat=dg (sM n (k:Nat)) ((V*2^k:Nat):Int))=true:=by
 refine Xa ?_;unfold Zhl sM;rw[h.2.2.1,← h.2.2.2.1,ZgD,Xg,Int.natCast_mul,Go.Wd.cast_pow]
theorem Z6j (h:IsR H p n c V) (k:Nat):(ZS (Zm H p n) || decide (((k:Nat):Int)<0))=false:=by
 rw[h.good,Xb (by omega)];rfl
theorem Z9a (h:IsR H p n c V) (h0:V≠0) {k:Nat}(hk:k≤200000):decide (((k:Nat):Int)>262144-Ze2 (Zm H p n))=false:=by
 have hn:=h.2.2.2.2;have hl:=h.2.2.2.1;rw[h.2.2.1,Zn2 h0 (by omega)];have:bitLen V≤32*n:=Go.Rn.len_le (by rw[← ZcF];rw[hl];exact ZcG V);exact Xb (by omega)
theorem rNe (h:IsR H p n c V) (h0:V≠0):decide (n=0)=false:=by
 have:=ZbL h0;have:=h.2.2.2.1;exact Xb (by omega)
end
theorem Z1c {V k n:Nat}(h:V<4294967296^n):V*2^k<4294967296^sM n (k:Nat):=by
 unfold sM;rw[Xg,Nat.add_comm (k/32),ZcF];rw[ZcF] at h;have h2:(2:Nat)^k<2^(32*(k/32+1)):=Nat.pow_lt_pow_right (by omega) (by omega);have:=Nat.mul_lt_mul'' h h2;rw[← Nat.pow_add] at this;rw[show 32*(n+1+k/32)=32*n+32*(k/32+1) by omega];exact this
theorem Z1d {S P:Nat}(hP:P≠0) (hS:(d32 P).length≤(d32 S).length):S/P<4294967296^((d32 S).length-(d32 P).length+1):=by
 have h1:=ZcG S;have h2:=Zwd (ZbL hP);have h3:=ZbL hP;rw[Nat.div_lt_iff_lt_mul (by omega)];refine Nat.lt_of_lt_of_le h1 ?_;refine Nat.le_trans ?_ (Nat.mul_le_mul_left _ h2);rw[← Nat.pow_add];exact Nat.pow_le_pow_right (by omega) (by omega)
theorem Z1e {S P:Nat}(h:P≤S):(d32 P).length≤(d32 S).length:=Zbt (b:=4294967296) (by omega) _ _ (Nat.lt_of_le_of_lt h (ZcG S))
theorem Zwe (k:Nat):(10:Nat)^k<4294967296^(k/9+1):=by
 refine Nat.lt_of_le_of_lt (Nat.pow_le_pow_right (by omega) (show k≤9*(k/9+1) by omega)) ?_;rw[Nat.pow_mul];exact Nat.pow_lt_pow_left (by decide) (by omega)
end Go.Proofs.YtgefjidphfdhdaaGreatDoor.Na
namespace Go.Proofs.YtgefjidphfdhdaaGreatDoor
open Go.KRun
set_option maxRecDepth 100000
theorem Z1f {x:List Value×TypeId}{i:Nat}{z:List Value×TypeId}(hz:(⟨1,[x]⟩:Hp).blk? i=some z):i=0∧z=x:=by
 have:i<1:=Hp.blk_lt hz;have hi:i=0:=by omega
 subst hi;exact⟨rfl,(Option.some.inj hz).symm⟩
end Go.Proofs.YtgefjidphfdhdaaGreatDoor
