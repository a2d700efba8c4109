/-
  SuE, SuG, SuH, SuN, SuI, SuP, PrR, PrX, PrY, PrZ, PrK, CxA, CxB, CxC
-/
import Derived.Test.YtekebccjflilnaaGreatG16
import Derived.Test.YtekebccjflilnaaGreatG15
namespace Go.Proofs.YtekebccjflilnaaGreat
open Go.Proofs.Tryz
open Go.KRun Go.Nt Go.Wd Go.Rn
set_option maxRecDepth 100000
set_option linter.unusedVariables false
def Zyb (b:Nat) (l:List Value) (o c:Nat) (A:List Int):Prop:=∀ h:Hp,h.blk? b=some (l,tR)→zS h (some ⟨b,o,none⟩) A.length c=true∧Zu h (some ⟨b,o,none⟩) A.length=A
theorem Zmu (b:Nat) {ty:TypeId}{l:List Value}{o n c:Nat}(r:ZaK ty l o n c=true) (hs:∀ v∈l,still v=true):Zyb b l o c (zu l o n):=by
 intro h hb;have e2:=(ZU r).2.1;constructor
 ·rw[e2];unfold zS;simp only[hb];unfold ZaK at r ⊢;simp only[Xh,Bool.not_eq_true'] at r ⊢;obtain⟨⟨⟨⟨⟨⟨h1,h2⟩,h3⟩,h4⟩,h5⟩,h6⟩,h7⟩:=r;exact⟨⟨⟨⟨⟨⟨⟨by kernel_rfl,by kernel_rfl⟩,h3⟩,h4⟩,h5⟩,h6⟩,h7⟩,List.all_eq_true.2 hs⟩
 ·rw[e2];unfold Zu;simp only[hb]
theorem Zg5 {b:Nat}{l:List Value}{o c:Nat}{A:List Int}(hF:Zyb b l o c A) {h:Hp}(hh:h.blk? b=some (l,tR)):vO h (ad b o) A.length=vb 65536 A:=by
 unfold vO ad;rw[(hF h hh).2]
def Zcj (Ex Ey:Int) (n n':Nat):Int:=if n'=0 then Ex else if n=0 then Ey else Zl Ex Ey
def smS (nx ny:Bool) (Ex Ey:Int) (n n' X Y:Nat):Int:=smI (Zcj Ex Ey n n') nx Ex X ny Ey Y
def Zpt (F:Func) (V:Int) (sg:Bool) (low:Int) (z:Lf):Prop:=(V≠0→∃ k,Zau prog F z.1 z.2.1=some (vRN sg low (sOf k V.natAbs))∧∃ r,z.2.1.blk? k=some (wU (d16 V.natAbs)++r,tU))∧(V=0→Zau prog F z.1 z.2.1=some (vRN sg low Zn))
theorem ZhP (E:Int) (X:Nat):szF E E X=X:=by unfold szF;rw[Int.sub_self];simp
theorem Zbx (F E:Int):szF F E 0=0:=by unfold szF;simp
theorem Zc5 (n:Bool):sgI n 0=0:=by cases n<;>rfl
theorem Zmv {M:Int}{nx ny n:Bool}{A:Nat}(hA:A≠0):sgS M nx ny (sgI n A)=n:=by
 obtain⟨h1,h2⟩:=Zgs (n:=n) hA;unfold sgS;rw[if_neg h2,h1]
theorem ZhQ {A:List Int}(hC:Zap 65536 A):vb 65536 A=0↔A.length=0:=by
 constructor
 ·intro h;by_cases h0:A=[]
  ·rw[h0];rfl
  ·exact absurd h (Zq1 hC h0)
 ·intro h;rw[List.length_eq_zero_iff.1 h];rfl
theorem Zyc {A:List Int}(hC:Zap 65536 A) {k:Nat}(h:A.length≤k):vb 65536 A<2^(16*k):=by
 have h1:=Zcu (b:=65536) (by omega) A hC.1;rw[ZdH] at h1;exact Nat.lt_of_lt_of_le h1 (Nat.pow_le_pow_right (by omega) (by omega))
theorem Zmw {V n j:Nat}(h:V<2^(16*n)):(d16 (V*2^j)).length≤n+j/16+1:=by
 refine zI ?_;have hp:0<2^j:=Nat.pow_pos (by omega);have h2:=Nat.mul_lt_mul_of_pos_right h hp;rw[← Nat.pow_add] at h2;exact Nat.lt_of_lt_of_le h2 (Nat.pow_le_pow_right (by omega) (by omega))
theorem ZhR {x y:Int}(h: -400000≤x∧x≤400000) (h': -400000≤y∧y≤400000):dif x y=x-y:=by unfold dif;rw[ZL (by omega) (by omega)]
section
variable {la lb : List Value} {o c o' c' : Nat} {A B : List Int}
theorem Zpu {h:Hp}{b A:Nat}(hb:h.blk? b=some (wU (d16 A),tU)) (hl:(d16 A).length<1073741800):Z6 h (some ⟨b,0,none⟩) none (d16 A).length (d16 A).length 0 0=true:=by
 unfold Z6;rw[ZE hb (by omega),Zaa hb,Zk.2 (by omega)];rfl
theorem ZcY {b n:Nat}{l:List Value}{o c:Nat}{A:List Int}(hF:Zyb b l o c A) (hC:Zap 65536 A) (hn:A.length<1000000) {h:Hp}(hh:h.blk? b=some (l,tR)) {k:Int}(h0:0≤k) (h1:k≤1000000):ZM h (ad b o) A.length c k=true:=by
 unfold ZM ad;rw[(hF h hh).1,(hF h hh).2,ZaZ hC.1,Zk.2 (by omega),Xa h0];rfl
theorem Zg6 {n:Nat}(h:n=0):(((n:Nat):Int)==0)=true:=by rw[h];rfl
theorem ZdK {n:Nat}(h:n≠0):(((n:Nat):Int)==0)=false:=by simpa using h
theorem Zzc {n:Nat}(h:n≠0):decide (((n:Nat):Int)>0)=true:=Xa (by omega)
theorem Z2C {n:Nat}(h:n=0):decide (((n:Nat):Int)>0)=false:=Xb (by omega)
theorem ZdL {h:Hp}{b A:Nat}(hb:h.blk? b=some (wU (d16 A),tU)):vO h (ad b 0) (d16 A).length=A:=zq hb
theorem zV {F:Func}{S:Int}{V k:Nat}{sg:Bool}{low:Int}{z:Lf}(hS:S≠0) (hV:S.natAbs=V) (hr:Zau prog F z.1 z.2.1=some (vRN sg low (sOf k V))) (hb:z.2.1.blk? k=some (wU (d16 V),tU)):Zpt F S sg low z:=
 ⟨fun _=>⟨k,by rw[hV];exact hr,[],by rw[hV,List.append_nil];exact hb⟩,fun h=>absurd h hS⟩
theorem Zpv (hF:Zyb 0 la o c A) (hG:Zyb 1 lb o' c' B) (cA:Zap 65536 A) (cB:Zap 65536 B) (lA:A.length<20000) (lB:B.length<20000) {nx ny:Bool}{Ex Ey:Int}(hE: -400000≤Ex∧Ex≤400000) (hE': -400000≤Ey∧Ey≤400000) (M:Int):
  RunsW (Zp prog Zh Zo hcW) (Zv f50) ([vRN nx Ex (sl 0 o A.length c),vRN ny Ey (sl 1 o' B.length c'),.int .i64 M]++List.replicate 123 undef,h2 la lb,[]) fun ex z=>(ex=none∨ex=some none)∧
   Zpt f50 (smS nx ny Ex Ey A.length B.length (vb 65536 A) (vb 65536 B)) (sgS M nx ny (smS nx ny Ex Ey A.length B.length (vb 65536 A) (vb 65536 B))) (Zcj Ex Ey A.length B.length) z:=by
 have zA:=ZhQ cA;have zB:=ZhQ cB;have hb0:(hM nx Ex o A.length c ny Ey o' B.length c' la lb).blk? 0=some (la,tR):=rfl;have hb1:(hM nx Ex o A.length c ny Ey o' B.length c' la lb).blk? 1=some (lb,tR):=rfl;have vA:=Zg5 hF hb0;have vB:=Zg5 hG hb1;have dX:=ZhR hE hE;have dY:=ZhR hE' hE';rw[Int.sub_self] at dX dY;have bA:=Zyc cA (Nat.le_refl A.length);have bB:=Zyc cB (Nat.le_refl B.length);by_cases nB:B.length=0
 ·by_cases nA:A.length=0
  ·
   have hlow:Zcj Ex Ey A.length B.length=Ex:=by unfold Zcj;rw[if_pos nB]
   have hS:smS nx ny Ex Ey A.length B.length (vb 65536 A) (vb 65536 B)=0:=by
    unfold smS smI;rw[zA.2 nA,zB.2 nB,Zbx,Zbx,Zc5,Zc5];rfl
   rw[hS,hlow];have okz:Zx [(((B.length:Nat):Int)==0,true),(((A.length:Nat):Int)==0,true),(((B.length:Nat):Int)==0,true),(((A.length:Nat):Int)==0,true)]:=Za (Zg6 nB) (Za (Zg6 nA) (Za (Zg6 nB) (Zz (Zg6 nA))));have fin:∀ {sg:Bool}{ex:Go.KRun.Ex}{z:Lf},sgS M nx ny 0=sg→(ex=some none∧(∃ g,z.1=[vRN nx Ex (sl 0 o A.length c),vRN ny Ey (sl 1 o' B.length c'),.int .i64 M,.pointer (some ⟨2,0,none⟩),.pointer (some ⟨3,0,none⟩),undef,.pointer (some ⟨4,0,none⟩)]++tl 119 g)∧z.2.1=⟨5,[bOf sg Ex Zn,bOf ny Ey (sl 1 o' B.length c'),bOf nx Ex (sl 0 o A.length c),(lb,tR),(la,tR)]⟩)→(ex=none∨ex=some none)∧Zpt f50 0 (sgS M nx ny 0) Ex z:=fun hs hz=>by
    obtain⟨rfl,⟨g,z1⟩,z2⟩:=hz;refine⟨.inr rfl,(fun h=>absurd rfl h),fun _=> ?_⟩;rw[hs,z1,z2];rfl
   have e0:sgS M nx ny 0=if nx=ny then nx else decide (M=4):=by unfold sgS;rw[if_pos rfl]
   cases nx<;>cases ny
   ·exact (Zc (Zg Zd Z4) (Z3c Ex Ey M o A.length c o' B.length c' la lb) okz).mono fun ex z hz=>fin (by rw[e0];rfl) hz
   ·exact (Zc (Zg Zd Z4) (Z3g Ex Ey M o A.length c o' B.length c' la lb) okz).mono fun ex z hz=>fin (by rw[e0];rfl) hz
   ·exact (Zc (Zg Zd Z4) (Z3m Ex Ey M o A.length c o' B.length c' la lb) okz).mono fun ex z hz=>fin (by rw[e0];rfl) hz
   ·exact (Zc (Zg Zd Z4) (Z3s Ex Ey M o A.length c o' B.length c' la lb) okz).mono fun ex z hz=>fin (by rw[e0];rfl) hz
  ·
   have hlow:Zcj Ex Ey A.length B.length=Ex:=by unfold Zcj;rw[if_pos nB]
   have hX:vb 65536 A≠0:=fun h=>nA (zA.1 h);have hS:smS nx ny Ex Ey A.length B.length (vb 65536 A) (vb 65536 B)=sgI nx (vb 65536 A):=by
    unfold smS smI;rw[hlow,zB.2 nB,ZhP,Zbx,Zc5,Int.add_zero]
   obtain⟨_,hS0⟩:=Zgs (n:=nx) hX;have hab:=ZkN nx (vb 65536 A);rw[hS,hlow,Zmv hX];have eA:vO (hM nx Ex o A.length c ny Ey o' B.length c' la lb) (ad 0 o) A.length*2^(dif Ex Ex).toNat=vb 65536 A:=by rw[vA,dX];simp
   have hb5:(nxt (hM nx Ex o A.length c ny Ey o' B.length c' la lb) (vb 65536 A)).blk? 5=some (wU (d16 (vb 65536 A)),tU):=rfl;have eV:vO (nxt (hM nx Ex o A.length c ny Ey o' B.length c' la lb) (vb 65536 A)) (ad 5 0) (d16 (vb 65536 A)).length+vO (nxt (hM nx Ex o A.length c ny Ey o' B.length c' la lb) (vb 65536 A)) none 0=vb 65536 A:=by rw[ZdL hb5,Zd9];rfl
   have hd0:(d16 (vb 65536 A)).length≠0:=fun h=>hX (ZaW (by omega));have hdl:(d16 (vb 65536 A)).length≤A.length:=zI bA;have k1:=Zpu hb5 (by omega);have k2:decide (0<(d16 (vb 65536 A)).length∨0<0)=true:=Xa (.inl (by omega));have k3:(((((d16 (vb 65536 A)).length):Nat):Int)==0)=false:=ZdK hd0;have k4:ZM (hM nx Ex o A.length c ny Ey o' B.length c' la lb) (ad 0 o) A.length c (dif Ex Ex)=true:=ZcY (n:=0) hF cA (by omega) hb0 (by omega) (by omega);have k5:decide (0<A.length)=true:=Xa (by omega);have lg:Zx [(decide (((B.length:Nat):Int)>0),false),(ZM (hM nx Ex o A.length c ny Ey o' B.length c' la lb) (ad 0 o) A.length c (dif Ex Ex),true),(decide (0<A.length),true),(decide (((A.length:Nat):Int)>0),true),(((A.length:Nat):Int)==0,false),(((B.length:Nat):Int)==0,true),(((A.length:Nat):Int)==0,false)]:=
    Za (Z2C nB) (Za k4 (Za k5 (Za (Zzc nA) (Za (ZdK nA) (Za (Zg6 nB) (Zz (ZdK nA)))))))
   cases nx<;>cases ny
   ·have hw:=Z3e Ex Ey M o A.length c o' B.length c' la lb;rw[eA,eV] at hw;refine (Zc (Zg Zd Z4) hw (Za k1 (Za k2 (Za k3 lg)))).mono fun ex z hz=> ?_;obtain⟨rfl,⟨g,z1⟩,z2⟩:=hz;exact⟨.inr rfl,zV (k:=6) hS0 hab (by rw[z1,z2];rfl) (by rw[z2];rfl)⟩
   ·have hw:=Z3i Ex Ey M o A.length c o' B.length c' la lb;rw[eA,eV] at hw;refine (Zc (Zg Zd Z4) hw (Za k1 (Za k2 (Za k3 (Za rfl (Za k3 lg)))))).mono fun ex z hz=> ?_;obtain⟨rfl,⟨g,z1⟩,z2⟩:=hz;exact⟨.inr rfl,zV (k:=6) hS0 hab (by rw[z1,z2];rfl) (by rw[z2];rfl)⟩
   ·have hw:=Z3o Ex Ey M o A.length c o' B.length c' la lb;rw[eA,eV] at hw;refine (Zc (Zg Zd Z4) hw (Za k1 (Za k2 (Za k3 (Za rfl (Za k3 lg)))))).mono fun ex z hz=> ?_;obtain⟨rfl,⟨g,z1⟩,z2⟩:=hz;exact⟨.inr rfl,zV (k:=6) hS0 hab (by rw[z1,z2];rfl) (by rw[z2];rfl)⟩
   ·have hw:=Z3u Ex Ey M o A.length c o' B.length c' la lb;rw[eA,eV] at hw;refine (Zc (Zg Zd Z4) hw (Za k1 (Za k2 (Za k3 lg)))).mono fun ex z hz=> ?_;obtain⟨rfl,⟨g,z1⟩,z2⟩:=hz;exact⟨.inr rfl,zV (k:=6) hS0 hab (by rw[z1,z2];rfl) (by rw[z2];rfl)⟩
 ·by_cases nA:A.length=0
  ·
   have hlow:Zcj Ex Ey A.length B.length=Ey:=by unfold Zcj;rw[if_neg nB,if_pos nA]
   have hX:vb 65536 B≠0:=fun h=>nB (zB.1 h);have hS:smS nx ny Ex Ey A.length B.length (vb 65536 A) (vb 65536 B)=sgI ny (vb 65536 B):=by
    unfold smS smI;rw[hlow,zA.2 nA,ZhP,Zbx,Zc5,Int.zero_add]
   obtain⟨_,hS0⟩:=Zgs (n:=ny) hX;have hab:=ZkN ny (vb 65536 B);rw[hS,hlow,Zmv hX];have eA:vO (hM nx Ex o A.length c ny Ey o' B.length c' la lb) (ad 1 o') B.length*2^(dif Ey Ey).toNat=vb 65536 B:=by rw[vB,dY];simp
   have hb5:(nxt (hM nx Ex o A.length c ny Ey o' B.length c' la lb) (vb 65536 B)).blk? 5=some (wU (d16 (vb 65536 B)),tU):=rfl;have eV:vO (nxt (hM nx Ex o A.length c ny Ey o' B.length c' la lb) (vb 65536 B)) none 0+vO (nxt (hM nx Ex o A.length c ny Ey o' B.length c' la lb) (vb 65536 B)) (ad 5 0) (d16 (vb 65536 B)).length=vb 65536 B:=by rw[ZdL hb5,Zd9,Nat.zero_add]
   have hd0:(d16 (vb 65536 B)).length≠0:=fun h=>hX (ZaW (by omega));have hdl:(d16 (vb 65536 B)).length≤B.length:=zI bB;have k1:=Zmb hb5 (by omega);have k2:decide (0<0∨0<(d16 (vb 65536 B)).length)=true:=Xa (.inr (by omega));have k4:ZM (hM nx Ex o A.length c ny Ey o' B.length c' la lb) (ad 1 o') B.length c' (dif Ey Ey)=true:=ZcY (n:=0) hG cB (by omega) hb1 (by omega) (by omega);have k5:decide (0<B.length)=true:=Xa (by omega);have lg:Zx [(ZM (hM nx Ex o A.length c ny Ey o' B.length c' la lb) (ad 1 o') B.length c' (dif Ey Ey),true),(decide (0<B.length),true),(decide (((B.length:Nat):Int)>0),true),(decide (((A.length:Nat):Int)>0),false),(((B.length:Nat):Int)==0,false),(((A.length:Nat):Int)==0,true),(((B.length:Nat):Int)==0,false),(((A.length:Nat):Int)==0,true)]:=
    Za k4 (Za k5 (Za (Zzc nB) (Za (Z2C nA) (Za (ZdK nB) (Za (Zg6 nA) (Za (ZdK nB) (Zz (Zg6 nA))))))))
   cases nx<;>cases ny
   ·have hw:=Z3d Ex Ey M o A.length c o' B.length c' la lb;rw[eA,eV] at hw;refine (Zc (Zg Zd Z4) hw (Za k1 (Za k2 (Za rfl lg)))).mono fun ex z hz=> ?_;obtain⟨rfl,⟨g,z1⟩,z2⟩:=hz;exact⟨.inr rfl,zV (k:=6) hS0 hab (by rw[z1,z2];rfl) (by rw[z2];rfl)⟩
   ·have hw:=Z3h Ex Ey M o A.length c o' B.length c' la lb;rw[eA,eV] at hw;refine (Zc (Zg Zd Z4) hw (Za k1 (Za k2 (Za rfl (Za rfl lg))))).mono fun ex z hz=> ?_;obtain⟨rfl,⟨g,z1⟩,z2⟩:=hz;exact⟨.inr rfl,zV (k:=6) hS0 hab (by rw[z1,z2];rfl) (by rw[z2];rfl)⟩
   ·have hw:=Z3n Ex Ey M o A.length c o' B.length c' la lb;rw[eA,eV] at hw;refine (Zc (Zg Zd Z4) hw (Za k1 (Za k2 (Za rfl (Za rfl lg))))).mono fun ex z hz=> ?_;obtain⟨rfl,⟨g,z1⟩,z2⟩:=hz;exact⟨.inr rfl,zV (k:=6) hS0 hab (by rw[z1,z2];rfl) (by rw[z2];rfl)⟩
   ·have hw:=Z3t Ex Ey M o A.length c o' B.length c' la lb;rw[eA,eV] at hw;refine (Zc (Zg Zd Z4) hw (Za k1 (Za k2 (Za rfl lg)))).mono fun ex z hz=> ?_;obtain⟨rfl,⟨g,z1⟩,z2⟩:=hz;exact⟨.inr rfl,zV (k:=6) hS0 hab (by rw[z1,z2];rfl) (by rw[z2];rfl)⟩
  ·
   have hlow:Zcj Ex Ey A.length B.length=Zl Ex Ey:=by unfold Zcj;rw[if_neg nB,if_neg nA]
   have hm:Zl Ex Ey≤Ex∧Zl Ex Ey≤Ey∧ -400000≤Zl Ex Ey:=by unfold Zl;split<;>omega
   have d1:=ZhR hE (show -400000≤Zl Ex Ey∧Zl Ex Ey≤400000 from ⟨hm.2.2,by omega⟩);have d2:=ZhR hE' (show -400000≤Zl Ex Ey∧Zl Ex Ey≤400000 from ⟨hm.2.2,by omega⟩);obtain⟨PA,hPA⟩:∃ PA,PA=szF (Zl Ex Ey) Ex (vb 65536 A):=⟨_,rfl⟩;obtain⟨PB,hPB⟩:∃ PB,PB=szF (Zl Ex Ey) Ey (vb 65536 B):=⟨_,rfl⟩;have hA0:PA≠0:=by
    rw[hPA];unfold szF;exact Nat.mul_ne_zero (fun h=>nA (zA.1 h)) (Nat.pos_iff_ne_zero.1 (Nat.pow_pos (by omega)))
   have hB0:PB≠0:=by
    rw[hPB];unfold szF;exact Nat.mul_ne_zero (fun h=>nB (zB.1 h)) (Nat.pos_iff_ne_zero.1 (Nat.pow_pos (by omega)))
   have hS:smS nx ny Ex Ey A.length B.length (vb 65536 A) (vb 65536 B)=sgI nx PA+sgI ny PB:=by
    unfold smS smI;rw[hlow,← hPA,← hPB]
   rw[hS,hlow];have eA:vO (hM nx Ex o A.length c ny Ey o' B.length c' la lb) (ad 0 o) A.length*2^(dif Ex (Zl Ex Ey)).toNat=PA:=by rw[vA,d1,hPA];rfl
   have hb1':(nxt (hM nx Ex o A.length c ny Ey o' B.length c' la lb) PA).blk? 1=some (lb,tR):=rfl;have eB:vO (nxt (hM nx Ex o A.length c ny Ey o' B.length c' la lb) PA) (ad 1 o') B.length*2^(dif Ey (Zl Ex Ey)).toNat=PB:=by rw[Zg5 hG hb1',d2,hPB];rfl
   have hb5:(nxt (nxt (hM nx Ex o A.length c ny Ey o' B.length c' la lb) PA) PB).blk? 5=some (wU (d16 PA),tU):=rfl;have hb6:(nxt (nxt (hM nx Ex o A.length c ny Ey o' B.length c' la lb) PA) PB).blk? 6=some (wU (d16 PB),tU):=rfl;have eVA:=ZdL hb5;have eVB:=ZdL hb6;have la0:(d16 PA).length≠0:=fun h=>hA0 (ZaW (by omega));have lb0:(d16 PB).length≠0:=fun h=>hB0 (ZaW (by omega));have hda:(d16 PA).length≤100000:=by
    rw[hPA];unfold szF;have:=Zmw (j:=(Ex-Zl Ex Ey).toNat) bA;omega
   have hdb:(d16 PB).length≤100000:=by
    rw[hPB];unfold szF;have:=Zmw (j:=(Ey-Zl Ex Ey).toNat) bB;omega
   have k1:=Zc2 hb5 hb6 (by omega) (by omega);have k1':=Zc2 hb6 hb5 (by omega) (by omega);have k2:decide (0<(d16 PA).length∨0<(d16 PB).length)=true:=Xa (.inl (by omega));have k3:(((((d16 PA).length):Nat):Int)==0)=false:=ZdK la0;have k3':(((((d16 PB).length):Nat):Int)==0)=false:=ZdK lb0;have k4:ZM (hM nx Ex o A.length c ny Ey o' B.length c' la lb) (ad 0 o) A.length c (dif Ex (Zl Ex Ey))=true:=ZcY (n:=0) hF cA (by omega) hb0 (by omega) (by omega);have k5:ZM (nxt (hM nx Ex o A.length c ny Ey o' B.length c' la lb) PA) (ad 1 o') B.length c' (dif Ey (Zl Ex Ey))=true:=ZcY (n:=0) hG cB (by omega) hb1' (by omega) (by omega);have lg:Zx [(ZM (nxt (hM nx Ex o A.length c ny Ey o' B.length c' la lb) PA) (ad 1 o') B.length c' (dif Ey (Zl Ex Ey)),true),(decide (0<B.length),true),(decide (((B.length:Nat):Int)>0),true),(ZM (hM nx Ex o A.length c ny Ey o' B.length c' la lb) (ad 0 o) A.length c (dif Ex (Zl Ex Ey)),true),(decide (0<A.length),true),(decide (((A.length:Nat):Int)>0),true),(((A.length:Nat):Int)==0,false),(((B.length:Nat):Int)==0,false),(((A.length:Nat):Int)==0,false)]:=
    Za k5 (Za (Xa (by omega)) (Za (Zzc nB) (Za k4 (Za (Xa (by omega)) (Za (Zzc nA) (Za (ZdK nA) (Za (ZdK nB) (Zz (ZdK nA)))))))))
   by_cases hn:nx=ny
   ·have hab:(sgI nx PA+sgI ny PB).natAbs=PA+PB:=by subst hn;cases nx<;>simp only[sgI]<;>omega
    have hS0:sgI nx PA+sgI ny PB≠0:=by subst hn;cases nx<;>simp only[sgI]<;>omega
    have hsg:sgS M nx ny (sgI nx PA+sgI ny PB)=nx:=by
     unfold sgS;rw[if_neg hS0];subst hn;cases nx<;>simp only[sgI]
     ·exact Xb (by omega)
     ·exact Xa (by omega)
    rw[hsg];subst hn;cases nx
    ·have hw:=Z3f Ex Ey M o A.length c o' B.length c' la lb;rw[eA,eB,eVA,eVB] at hw;refine (Zc (Zg Zd Z4) hw (Za k1 (Za k2 (Za k3 lg)))).mono fun ex z hz=> ?_;obtain⟨rfl,⟨g,z1⟩,z2⟩:=hz;exact⟨.inr rfl,zV (k:=7) hS0 hab (by rw[z1,z2];rfl) (by rw[z2];rfl)⟩
    ·have hw:=Z3v Ex Ey M o A.length c o' B.length c' la lb;rw[eA,eB,eVA,eVB] at hw;refine (Zc (Zg Zd Z4) hw (Za k1 (Za k2 (Za k3 lg)))).mono fun ex z hz=> ?_;obtain⟨rfl,⟨g,z1⟩,z2⟩:=hz;exact⟨.inr rfl,zV (k:=7) hS0 hab (by rw[z1,z2];rfl) (by rw[z2];rfl)⟩
   ·have hz':(sgI nx PA+sgI ny PB=0)↔PA=PB:=by
     cases nx<;>cases ny<;>simp only[sgI,not_true_eq_false,reduceCtorEq,not_false_eq_true] at* <;>omega
    have hneg:PA≠PB→sgS M nx ny (sgI nx PA+sgI ny PB)=if PB<PA then nx else ny:=fun h=>by
     unfold sgS;rw[if_neg (fun e=>h (hz'.1 e))];cases nx<;>cases ny<;>simp only[sgI,not_true_eq_false,reduceCtorEq,not_false_eq_true] at* <;>split<;>first | exact Xa (by omega) | exact Xb (by omega)
    have hab:(sgI nx PA+sgI ny PB).natAbs=if PB<PA then PA-PB else PB-PA:=by
     cases nx<;>cases ny<;>simp only[sgI,not_true_eq_false,reduceCtorEq,not_false_eq_true] at* <;>split<;>omega
    rcases Nat.lt_trichotomy PA PB with h | h | h
    ·have cz:Zax PA PB= -1:=by unfold Zax;rw[if_pos h]
     have q0:(Zax PA PB==0)=false:=by rw[cz];rfl
     have q1:(Zax PA PB==1)=false:=by rw[cz];rfl
     have hS0:sgI nx PA+sgI ny PB≠0:=fun e=>by have:=hz'.1 e;omega
     have kk:(Z6 (nxt (nxt (hM nx Ex o A.length c ny Ey o' B.length c' la lb) PA) PB) (ad 6 0) (ad 5 0) (d16 PB).length (d16 PB).length (d16 PA).length (d16 PA).length && Nat.ble PA PB)=true:=by
      rw[show Z6 (nxt (nxt (hM nx Ex o A.length c ny Ey o' B.length c' la lb) PA) PB) (ad 6 0) (ad 5 0) (d16 PB).length (d16 PB).length (d16 PA).length (d16 PA).length=true from k1',Nat.ble_eq_true_of_le (by omega)];rfl
     rw[hneg (by omega),if_neg (by omega)];rw[if_neg (by omega)] at hab;cases nx<;>cases ny
     ·exact absurd rfl hn
     ·have hw:=Z3l Ex Ey M o A.length c o' B.length c' la lb;rw[eA,eB,eVA,eVB] at hw;refine (Zc (Zg Zd Z4) hw (Za kk (Za (Xa (by omega)) (Za q1 (Za q0 (Za k1 (Za k3' (Za k3 lg)))))))).mono fun ex z hz=> ?_;obtain⟨rfl,⟨g,z1⟩,z2⟩:=hz;exact⟨.inr rfl,zV (k:=7) hS0 hab (by rw[z1,z2];rfl) (by rw[z2];rfl)⟩
     ·have hw:=Z3r Ex Ey M o A.length c o' B.length c' la lb;rw[eA,eB,eVA,eVB] at hw;refine (Zc (Zg Zd Z4) hw (Za kk (Za (Xa (by omega)) (Za q1 (Za q0 (Za k1 (Za k3' (Za k3 lg)))))))).mono fun ex z hz=> ?_;obtain⟨rfl,⟨g,z1⟩,z2⟩:=hz;exact⟨.inr rfl,zV (k:=7) hS0 hab (by rw[z1,z2];rfl) (by rw[z2];rfl)⟩
     ·exact absurd rfl hn
    ·have cz:Zax PA PB=0:=by unfold Zax;rw[if_neg (by omega),if_pos h]
     have q0:(Zax PA PB==0)=true:=by rw[cz];rfl
     have hS0:=hz'.2 h;have hsg:sgS M nx ny (sgI nx PA+sgI ny PB)=(M==4):=by
      unfold sgS;rw[if_pos hS0,if_neg hn];rfl
     rw[hsg,hS0];cases nx<;>cases ny
     ·exact absurd rfl hn
     ·have hw:=Z3j Ex Ey M o A.length c o' B.length c' la lb;rw[eA,eB,eVA,eVB] at hw;refine (Zc (Zg Zd Z4) hw (Za q0 (Za k1 (Za k3' (Za k3 lg))))).mono fun ex z hz=> ?_;obtain⟨rfl,⟨g,z1⟩,z2⟩:=hz;exact⟨.inr rfl,(fun hh=>absurd rfl hh),fun _=>by rw[z1,z2];rfl⟩
     ·have hw:=Z3p Ex Ey M o A.length c o' B.length c' la lb;rw[eA,eB,eVA,eVB] at hw;refine (Zc (Zg Zd Z4) hw (Za q0 (Za k1 (Za k3' (Za k3 lg))))).mono fun ex z hz=> ?_;obtain⟨rfl,⟨g,z1⟩,z2⟩:=hz;exact⟨.inr rfl,(fun hh=>absurd rfl hh),fun _=>by rw[z1,z2];rfl⟩
     ·exact absurd rfl hn
    ·have cz:Zax PA PB=1:=by unfold Zax;rw[if_neg (by omega),if_neg (by omega)]
     have q0:(Zax PA PB==0)=false:=by rw[cz];rfl
     have q1:(Zax PA PB==1)=true:=by rw[cz];rfl
     have hS0:sgI nx PA+sgI ny PB≠0:=fun e=>by have:=hz'.1 e;omega
     have kk:(Z6 (nxt (nxt (hM nx Ex o A.length c ny Ey o' B.length c' la lb) PA) PB) (ad 5 0) (ad 6 0) (d16 PA).length (d16 PA).length (d16 PB).length (d16 PB).length && Nat.ble PB PA)=true:=by
      rw[show Z6 (nxt (nxt (hM nx Ex o A.length c ny Ey o' B.length c' la lb) PA) PB) (ad 5 0) (ad 6 0) (d16 PA).length (d16 PA).length (d16 PB).length (d16 PB).length=true from k1,Nat.ble_eq_true_of_le (by omega)];rfl
     rw[hneg (by omega),if_pos h];rw[if_pos h] at hab;cases nx<;>cases ny
     ·exact absurd rfl hn
     ·have hw:=Z3k Ex Ey M o A.length c o' B.length c' la lb;rw[eA,eB,eVA,eVB] at hw;refine (Zc (Zg Zd Z4) hw (Za kk (Za (Xa (by omega)) (Za q1 (Za q0 (Za k1 (Za k3' (Za k3 lg)))))))).mono fun ex z hz=> ?_;obtain⟨rfl,⟨g,z1⟩,z2⟩:=hz;exact⟨.inr rfl,zV (k:=7) hS0 hab (by rw[z1,z2];rfl) (by rw[z2];rfl)⟩
     ·have hw:=Z3q Ex Ey M o A.length c o' B.length c' la lb;rw[eA,eB,eVA,eVB] at hw;refine (Zc (Zg Zd Z4) hw (Za kk (Za (Xa (by omega)) (Za q1 (Za q0 (Za k1 (Za k3' (Za k3 lg)))))))).mono fun ex z hz=> ?_;obtain⟨rfl,⟨g,z1⟩,z2⟩:=hz;exact⟨.inr rfl,zV (k:=7) hS0 hab (by rw[z1,z2];rfl) (by rw[z2];rfl)⟩
     ·exact absurd rfl hn
end
def Zq5 (h:Hp) (p q:Option Addr) (n c n' c':Nat) (Ex Ey:Int):Bool:=zS h p n c && Zfg (Zu h p n) && Nat.blt n 20000 && (zS h q n' c' && Zfg (Zu h q n') && Nat.blt n' 20000) && decide ((-400000≤Ex∧Ex≤400000)∧(-400000≤Ey∧Ey≤400000))
def smH (h:Hp) (nx ny:Bool) (Ex Ey:Int) (b o n b' o' n':Nat):Int:=smS nx ny Ex Ey n n' (vO h (ad b o) n) (vO h (ad b' o') n')
def gSm:Zcl:=fun vals h s=>
 match vals,s with
 | [.agg cs,.agg ds,.int .i64 M],.inr (.inr (.inr (.inl d)))::s'=>
  match cs.toList,ds.toList with
  | [.bool nx,.int .i64 Ex,.slice (some ⟨b,o,none⟩) n c],[.bool ny,.int .i64 Ey,.slice (some ⟨b',o',none⟩) n' c']=>
   match d with
   | true=>some (vRN (sgS M nx ny (smH h nx ny Ex Ey b o n b' o' n')) (Zcj Ex Ey n n') (sOf h.n (smH h nx ny Ex Ey b o n b' o' n').natAbs),h.push (wU (d16 (smH h nx ny Ex Ey b o n b' o' n').natAbs)) tU,s',[(decide (smH h nx ny Ex Ey b o n b' o' n'≠0),true),(Zq5 h (ad b o) (ad b' o') n c n' c' Ex Ey,true)])
   | false=>some (vRN (sgS M nx ny (smH h nx ny Ex Ey b o n b' o' n')) (Zcj Ex Ey n n') Zn,h,s',[(decide (smH h nx ny Ex Ey b o n b' o' n'≠0),false),(Zq5 h (ad b o) (ad b' o') n c n' c' Ex Ey,true)])
  | _,_=>none
 | _,_=>none
theorem Zyd:za 50 gSm:=by
 intro vals h s v h' s' lg hg hl m B w E0 hv;unfold gSm at hg;split at hg
 ·rename_i cs ds M d s2;split at hg
  ·rename_i nx Ex b o n c ny Ey b' o' n' c' hcs hds;have ecs:cs= #[.bool nx,.int .i64 Ex,sl b o n c]:=by
    have:=congrArg List.toArray hcs;simpa [sl] using this
   have eds:ds= #[.bool ny,.int .i64 Ey,sl b' o' n' c']:=by
    have:=congrArg List.toArray hds;simpa [sl] using this
   have key:Zq5 h (ad b o) (ad b' o') n c n' c' Ex Ey=true→
     ∃ la lb,(∀ v∈la,still v=true)∧(∀ v∈lb,still v=true)∧(h2 la lb).fits (pair b b') h∧RunsW (Zp prog Zh Zo hcW) (Zv f50) ([vRN nx Ex (sl 0 o n c),vRN ny Ey (sl 1 o' n' c'),.int .i64 M]++List.replicate 123 undef,h2 la lb,[]) fun ex z=>(ex=none∨ex=some none)∧Zpt f50 (smH h nx ny Ex Ey b o n b' o' n') (sgS M nx ny (smH h nx ny Ex Ey b o n b' o' n')) (Zcj Ex Ey n n') z:=by
    intro l3;simp only[Zq5,Xh,Xi] at l3;obtain⟨⟨⟨⟨q1,q2⟩,q3⟩,⟨⟨p1,p2⟩,p3⟩⟩,q4⟩:=l3;have q2:=Zc1 q2;have q3:=Zk.1 q3;have p2:=Zc1 p2;have p3:=Zk.1 p3;rcases Z8 q1 with ⟨h0,_⟩ | ⟨b1,o1,x,hp,hx,r1,rs,e0⟩
    ·cases h0
    ·cases hp;rcases Z8 p1 with ⟨h0,_⟩ | ⟨b2,o2,y,hp',hy,t1,ts,f0⟩
     ·cases h0
     ·cases hp';rw[e0] at q2;rw[f0] at p2;obtain⟨h1,h2',h3,h4,h5,h6,h7⟩:=ZU r1;obtain⟨k1,k2,k3,k4,k5,k6,k7⟩:=ZU t1;have ev:vO h (ad b o) n=vb 65536 (zu x.1 o n):=by unfold vO;rw[e0]
      have ev':vO h (ad b' o') n'=vb 65536 (zu y.1 o' n'):=by unfold vO;rw[f0]
      have r:=Zpv (Zmu 0 r1 rs) (Zmu 1 t1 ts) q2 p2 (by rw[h2'];exact q3) (by rw[k2];exact p3) (nx:=nx) (ny:=ny) q4.1 q4.2 M;rw[h2',k2,← ev,← ev'] at r;exact⟨x.1,y.1,h7,k7,Zlg hx h5 h6 hy k5 k6,r⟩
   have evals:List.map (rn (pair b b')) [vRN nx Ex (sl 0 o n c),vRN ny Ey (sl 1 o' n' c'),.int .i64 M]=[.agg cs,.agg ds,.int .i64 M]:=by
    rw[ecs,eds];simp [rn,rn2,rn1,vRN,sl,pair]
   split at hg
   ·cases hg;have l1:=hl _ (Xe);have l2:=hl _ (Xd _ Xf);simp only[Xi] at l1;obtain⟨la,lb,p0,p1,p2,p3⟩:=key l2;have fin:=Zb6 (T:=Zp prog Zh Zo hcW) func50 ZhO (Zom p0 p1) (vals:=[vRN nx Ex (sl 0 o n c),vRN ny Ey (sl 1 o' n' c'),.int .i64 M]) (fun v hv=>by
     simp only[List.mem_cons,List.not_mem_nil,or_false] at hv;rcases hv with h1 | h1 | h1<;>rw[h1]<;>rfl) (v:=fun k=>vRN (sgS M nx ny (smH h nx ny Ex Ey b o n b' o' n')) (Zcj Ex Ey n n') (sOf k (smH h nx ny Ex Ey b o n b' o' n').natAbs)) (Zbu _) (by kernel_rfl) (p3.mono fun ex z hz=>⟨hz.1,hz.2.1 l1⟩) (fun k=>by simp [oc,oc2,oc1,sOf,sl,vRN]) E0 p2 (fun k=>by simp [rn,rn2,rn1,sOf,sl,vRN])
    rw[evals] at fin;exact fin
   ·cases hg;have l1:=hl _ (Xe);have l2:=hl _ (Xd _ Xf);simp only[decide_eq_false_iff_not,ne_eq,Decidable.not_not] at l1;obtain⟨la,lb,p0,p1,p2,p3⟩:=key l2;have fin:=ZH (T:=Zp prog Zh Zo hcW) func50 ZhO (Zom p0 p1) (vals:=[vRN nx Ex (sl 0 o n c),vRN ny Ey (sl 1 o' n' c'),.int .i64 M]) (fun v hv=>by
     simp only[List.mem_cons,List.not_mem_nil,or_false] at hv;rcases hv with h1 | h1 | h1<;>rw[h1]<;>rfl) (v:=vRN (sgS M nx ny (smH h nx ny Ex Ey b o n b' o' n')) (Zcj Ex Ey n n') Zn) (by rfl) (p3.mono fun ex z hz=>⟨hz.1,hz.2.2 l1⟩) E0 p2
    rw[evals] at fin;exact fin
  ·cases hg
 ·cases hg
end Go.Proofs.YtekebccjflilnaaGreat
namespace Go.Proofs.YtekebccjflilnaaGreat
open Go.Proofs.Tryz
open Go.KRun Go.Nt Go.Wd Go.Rn Go.Pt
set_option maxRecDepth 100000
set_option linter.unusedVariables false
def hcS:Hc:=Zb5 50 gSm (Zb5 51 gPt (Zb5 34 gRr hcN))
theorem ZhS:HcOk hcS:=ZA func50 rfl Zyd (ZA func51 rfl ZxN (ZA func34 rfl Zq2 ZfI))
def r0V (neg:Bool):Value:= .tuple #[.int .u64 (sS neg 0),.int .i64 0]
theorem r0a (neg:Bool) (E M:Int):Zw (Ze (Zi prog Zh Zo true) 200 34 [vRN neg E Zn,.int .i64 M] [cmp true,cmp true]) (r0V neg) [(((0:Nat):Int)==0,true),(decide (M<0),true)]:=by
 cases neg<;>exact by and_intros<;>kernel_rfl
theorem r0b (neg:Bool) (E M:Int):Zw (Ze (Zi prog Zh Zo true) 200 34 [vRN neg E Zn,.int .i64 M] [cmp false,cmp true,cmp true]) (r0V neg) [(((0:Nat):Int)==0,true),(decide (M>4),true),(decide (M<0),false)]:=by
 cases neg<;>exact by and_intros<;>kernel_rfl
theorem r0c (neg:Bool) (E M:Int):Zw (Ze (Zi prog Zh Zo true) 200 34 [vRN neg E Zn,.int .i64 M] [cmp false,cmp false,cmp true]) (r0V neg) [(((0:Nat):Int)==0,true),(decide (M>4),false),(decide (M<0),false)]:=by
 cases neg<;>exact by and_intros<;>kernel_rfl
def gR0:Ans:=fun vals s=>
 match vals with
 | [.agg cs,.int .i64 M]=>
  match cs.toList with
  | [.bool neg,.int .i64 E,.slice none 0 0]=>some (r0V neg,s,[])
  | _=>none
 | _=>none
theorem Zye:ZJ 34 gR0:=by
 intro vals s v s' lg h hl w;unfold gR0 at h;split at h
 ·rename_i cs M;split at h
  ·rename_i neg E hcs;have ecs:cs= #[.bool neg,.int .i64 E,Zn]:=by
    have:=congrArg List.toArray hcs;simpa [Zn] using this
   cases h;rw[ecs];by_cases h0:M<0
   ·exact Zb (Zf Zd) (r0a neg E M) (Za rfl (Zz (Xa h0))) (by rfl) (by rfl) w
   ·by_cases h4:M>4
    ·exact Zb (Zf Zd) (r0b neg E M) (Za rfl (Za (Xa h4) (Zz (Xb h0)))) (by rfl) (by rfl) w
    ·exact Zb (Zf Zd) (r0c neg E M) (Za rfl (Za (Xb h4) (Zz (Xb h0)))) (by rfl) (by rfl) w
  ·cases h
 ·cases h
def raT (p f:Int):Value:= .tuple #[.int .u64 p,.int .i64 f]
theorem Zmx (p:Int):Zw (Ze (Zi prog Zh Zo true) 200 32 [.int .u64 p] [cmp true]) (.int .u64 (p.tmod 9223372036854775808)) [(decide ((9223372036854775808:Int)=0),false)]:=by and_intros<;>kernel_rfl
theorem Zud:ZJ 32 (gU fun p=> .int .u64 (mag p)):=Zir fun p hp w=>by
 have e:p.tmod 9223372036854775808=mag p:=by
  unfold mag;exact Int.tmod_eq_emod_of_nonneg hp.1
 have:=Zmx p;rw[e] at this;exact Zb (Zf Zd) this (Zz rfl) (by rfl) (by rfl) w
def ZcJ:Con:=alt 34 gR0 (alt 32 (gU fun p=> .int .u64 (mag p)) ZfR)
theorem Zfc:ConOk ZcJ:=Zy func34 rfl Zye (Zy func32 rfl Zud Zfb)
end Go.Proofs.YtekebccjflilnaaGreat
namespace Go.Proofs.YtekebccjflilnaaGreat
open Go.KRun Go.Nt Go.Wd Go.Rn Go.Pt
set_option maxRecDepth 100000
theorem Zue {F Ex Ey:Int}(h1:F≤Ex) (h2:F≤Ey) (n n':Nat):F≤Zcj Ex Ey n n':=by
 unfold Zcj Zl;split
 ·exact h1
 ·split
  ·exact h2
  ·split<;>omega
theorem Zuf {F Ex Ey:Int}(h1:F≤Ex) (h2:F≤Ey) {n n' X Y:Nat}(hX:n=0↔X=0) (hY:n'=0↔Y=0) (nx ny:Bool):smI F nx Ex X ny Ey Y=smI (Zcj Ex Ey n n') nx Ex X ny Ey Y*((2^(Zcj Ex Ey n n'-F).toNat:Nat):Int):=by
 by_cases c1:n'=0
 ·have e:Zcj Ex Ey n n'=Ex:=by unfold Zcj;rw[if_pos c1]
  rw[e,hY.1 c1];unfold smI;rw[Zbx,Zbx,Zc5,Int.add_zero,Int.add_zero,ZeG h1 (Int.le_refl Ex),ZeH]
 ·by_cases c2:n=0
  ·have e:Zcj Ex Ey n n'=Ey:=by unfold Zcj;rw[if_neg c1,if_pos c2]
   rw[e,hX.1 c2];unfold smI;rw[Zbx,Zbx,Zc5,Int.zero_add,Int.zero_add,ZeG h2 (Int.le_refl Ey),ZeH]
  ·have e:Zcj Ex Ey n n'=Zl Ex Ey:=by unfold Zcj;rw[if_neg c1,if_neg c2]
   rw[e];exact ZkL (by unfold Zl;split<;>omega) (by unfold Zl;split<;>omega) (by unfold Zl;split<;>omega) nx ny X Y
theorem ZfS (V:Nat):(d16 V).length=0↔V=0:=by
 constructor
 ·intro h;exact ZaW (by omega)
 ·intro h;rw[h];unfold d16;rw[zx];rfl
theorem Zmy {Ex Ey:Int}(n n':Nat):Zcj Ex Ey n n'=Ex∨Zcj Ex Ey n n'=Ey:=by
 unfold Zcj Zl;split
 ·exact .inl rfl
 ·split
  ·exact .inr rfl
  ·split
   ·exact .inr rfl
   ·exact .inl rfl
theorem Zmz {F E:Int}{X k j:Nat}(hX:X<2^k) (h:(E-F).toNat≤j):szF F E X<2^(k+j):=by
 unfold szF;have hp:0<2^(E-F).toNat:=Nat.pow_pos (by omega);have h1:=Nat.mul_lt_mul_of_pos_right hX hp;rw[← Nat.pow_add] at h1;exact Nat.lt_of_lt_of_le h1 (Nat.pow_le_pow_right (by omega) (by omega))
end Go.Proofs.YtekebccjflilnaaGreat
namespace Go.Proofs.YtekebccjflilnaaGreat
open Go.Proofs.Tryz
open Go.IntKind
open Go.KRun Go.Nt Go.Wd Go.Pt Go.Rn
set_option maxRecDepth 100000
theorem Z1Y (a b:Int):Zw (Ze (Zp prog Zh ZcJ hcS) 300 31 [.int .u64 a,.int .u64 b] [cmp true,cmp true]) (.bool true) [(mag b==9218868437227405312,true),(mag a==0,true),lU b,lU a]:=by and_intros<;>kernel_rfl
theorem Zyf (a b:Int):Zw (Ze (Zp prog Zh ZcJ hcS) 300 31 [.int .u64 a,.int .u64 b] [cmp true,cmp false,cmp false]) (.bool false) [(mag b==0,false),(mag b==9218868437227405312,false),(mag a==0,true),lU b,lU a]:=by and_intros<;>kernel_rfl
theorem Zyg (a b:Int):Zw (Ze (Zp prog Zh ZcJ hcS) 300 31 [.int .u64 a,.int .u64 b] [cmp true,cmp false,cmp true,cmp false]) (.bool false) [(mag a==9218868437227405312,false),(mag b==0,true),(mag b==9218868437227405312,false),(mag a==0,true),lU b,lU a]:=by and_intros<;>kernel_rfl
theorem Z1Z (a b:Int):Zw (Ze (Zp prog Zh ZcJ hcS) 300 31 [.int .u64 a,.int .u64 b] [cmp false,cmp false]) (.bool false) [(mag b==0,false),(mag a==0,false),lU b,lU a]:=by and_intros<;>kernel_rfl
theorem Zyh (a b:Int):Zw (Ze (Zp prog Zh ZcJ hcS) 300 31 [.int .u64 a,.int .u64 b] [cmp false,cmp true,cmp true]) (.bool true) [(mag a==9218868437227405312,true),(mag b==0,true),(mag a==0,false),lU b,lU a]:=by and_intros<;>kernel_rfl
theorem Zyi (a b:Int):Zw (Ze (Zp prog Zh ZcJ hcS) 300 31 [.int .u64 a,.int .u64 b] [cmp false,cmp true,cmp false]) (.bool false) [(mag a==9218868437227405312,false),(mag b==0,true),(mag a==0,false),lU b,lU a]:=by and_intros<;>kernel_rfl
theorem Z2a (p a b:Int):Zw (Ze (Zp prog Zh ZcJ hcS) 300 33 [.int .u64 p,.int .u64 a,.int .u64 b] [cmp true,cmp true]) (.int .u64 p) [(decide (b≥9223372036854775808),true),(decide (a≥9223372036854775808),true)]:=by and_intros<;>kernel_rfl
theorem Z2b (p a b:Int):Zw (Ze (Zp prog Zh ZcJ hcS) 300 33 [.int .u64 p,.int .u64 a,.int .u64 b] [cmp true,cmp false]) (.int .u64 (u64.wrap (p+9223372036854775808))) [(decide (b≥9223372036854775808),false),(decide (a≥9223372036854775808),true)]:=by and_intros<;>kernel_rfl
theorem Z2c (p a b:Int):Zw (Ze (Zp prog Zh ZcJ hcS) 300 33 [.int .u64 p,.int .u64 a,.int .u64 b] [cmp false,cmp true]) (.int .u64 (u64.wrap (p+9223372036854775808))) [(decide (b≥9223372036854775808),true),(decide (a≥9223372036854775808),false)]:=by and_intros<;>kernel_rfl
theorem Z2d (p a b:Int):Zw (Ze (Zp prog Zh ZcJ hcS) 300 33 [.int .u64 p,.int .u64 a,.int .u64 b] [cmp false,cmp false]) (.int .u64 p) [(decide (b≥9223372036854775808),false),(decide (a≥9223372036854775808),false)]:=by and_intros<;>kernel_rfl
theorem Zug (p:Int):cl p=0↔mag p=0:=by
 have h1:=ZpZ p;have h2:=Zio p;have h3:=Zgk p;rw[h1];unfold cl;split
 ·split<;>omega
 ·split
  ·split
   ·omega
   ·split<;>omega
  ·omega
theorem Zjb (a b:Int) (ha:U a) (hb:U b) (w:World):Calls prog 31 #[.int .u64 a,.int .u64 b] w fun r w'=>r= .returned (.bool (zh a b))∧zg w w':=by
 have hv:([.int .u64 a,.int .u64 b].all (lt 0))=true:=rfl;have T:=Zg Zfc ZhS;have ka:decide (U a)=true:=Xa ha;have kb:decide (U b)=true:=Xa hb;have e:zh a b=decide ((mag a=0∧mag b=9218868437227405312)∨(mag a=9218868437227405312∧mag b=0)):=by
  unfold zh;simp only[Zug,(Zdy a).2.1,(Zdy b).2.1]
 rw[e];by_cases az:mag a=0
 ·have ai:mag a≠9218868437227405312:=by omega
  by_cases bi:mag b=9218868437227405312
  ·rw[Xa (.inl ⟨az,bi⟩)];exact Zb T (Z1Y a b) (Za (Z1 bi) (Za (Z1 az) (Za kb (Zz ka)))) hv (by rfl) w
  ·rw[Xb (by omega)];by_cases bz:mag b=0
   ·exact Zb T (Zyg a b) (Za (Zq ai) (Za (Z1 bz) (Za (Zq bi) (Za (Z1 az) (Za kb (Zz ka)))))) hv (by rfl) w
   ·exact Zb T (Zyf a b) (Za (Zq bz) (Za (Zq bi) (Za (Z1 az) (Za kb (Zz ka))))) hv (by rfl) w
 ·by_cases bz:mag b=0
  ·by_cases ai:mag a=9218868437227405312
   ·rw[Xa (.inr ⟨ai,bz⟩)];exact Zb T (Zyh a b) (Za (Z1 ai) (Za (Z1 bz) (Za (Zq az) (Za kb (Zz ka))))) hv (by rfl) w
   ·rw[Xb (by omega)];exact Zb T (Zyi a b) (Za (Zq ai) (Za (Z1 bz) (Za (Zq az) (Za kb (Zz ka))))) hv (by rfl) w
  ·rw[Xb (by omega)];exact Zb T (Z1Z a b) (Za (Zq bz) (Za (Zq az) (Za kb (Zz ka)))) hv (by rfl) w
def sgB (p a b:Int):Int:=sS (prN a b) p
theorem Zjc (p a b:Int) (hp:0≤p∧p<9223372036854775808) (w:World):Calls prog 33 #[.int .u64 p,.int .u64 a,.int .u64 b] w fun r w'=>r= .returned (.int .u64 (sgB p a b))∧zg w w':=by
 have hv:([.int .u64 p,.int .u64 a,.int .u64 b].all (lt 0))=true:=rfl;have T:=Zg Zfc ZhS;have e1:u64.wrap (p+9223372036854775808)=sS true p:=by
  rw[wrapU' ⟨by omega,by omega⟩];simp only[sS,if_true];omega
 have e0:p=sS false p:=by simp [sS]
 unfold sgB prN;by_cases sa:a≥9223372036854775808
 ·have na:sgn a=true:=Xa sa;by_cases sb:b≥9223372036854775808
  ·have nb:sgn b=true:=Xa sb;rw[na,nb,show (true !=true)=false from rfl,← e0];exact Zb T (Z2a p a b) (Za (Xa sb) (Zz (Xa sa))) hv (by rfl) w
  ·have nb:sgn b=false:=Xb sb;rw[na,nb,show (true !=false)=true from rfl,← e1];exact Zb T (Z2b p a b) (Za (Xb sb) (Zz (Xa sa))) hv (by rfl) w
 ·have na:sgn a=false:=Xb sa;by_cases sb:b≥9223372036854775808
  ·have nb:sgn b=true:=Xa sb;rw[na,nb,show (false !=true)=true from rfl,← e1];exact Zb T (Z2c p a b) (Za (Xa sb) (Zz (Xb sa))) hv (by rfl) w
  ·have nb:sgn b=false:=Xb sb;rw[na,nb,show (false !=false)=false from rfl,← e0];exact Zb T (Z2d p a b) (Za (Xb sb) (Zz (Xb sa))) hv (by rfl) w
def Z2e:Ans:=fun vals s=>
 match vals with
 | [.int .u64 p,.int .u64 a,.int .u64 b]=>some (.int .u64 (sgB p a b),s,[(decide (0≤p∧p<9223372036854775808),true)])
 | _=>none
theorem Zuh:ZJ 33 Z2e:=by
 intro vals s v s' lg h hl w;unfold Z2e at h;split at h
 ·cases h;exact Zjc _ _ _ (Xc (hl _ Xf)) w
 ·cases h
def z7:Con:=alt 31 (ZyS zh) (alt 33 Z2e ZcJ)
theorem ZhT:ConOk z7:=Zy func31 rfl (Zk4 Zjb) (Zy func33 rfl Zuh Zfc)
def hcM:Hc:=Zb5 69 ZsI hcS
theorem Zyj:HcOk hcM:=ZA func69 rfl ZhB ZhS
end Go.Proofs.YtekebccjflilnaaGreat
namespace Go.Proofs.YtekebccjflilnaaGreat
open Go.Proofs.Tryz
open Go.IntKind
open Go.KRun Go.Nt Go.Wd Go.Pt Go.Rn
set_option maxRecDepth 100000
set_option linter.unusedVariables false
theorem Zpw:f35.body=some (Zv f35):=by kernel_rfl
def hX5 (a b:Int):Hp:=⟨5,[bOf (sgn b) (xp b) (sOf 2 (sg b).toNat),bOf (sgn a) (xp a) (sOf 1 (sg a).toNat),(wU (d16 (sg b).toNat),tU),(wU (d16 (sg a).toNat),tU),bOf false 0 Zn]⟩
def vX (a b:Int):Nat:=vO (hX5 a b) (ad 1 0) (d16 (sg a).toNat).length*vO (hX5 a b) (ad 2 0) (d16 (sg b).toNat).length
theorem Zyk (a b:Int):Zm (evC (Zp prog Zh ZfR hcM) 200 false (Zv f35) ([.int .u64 a,.int .u64 b]++List.replicate 25 undef,⟨0,[]⟩,[]) ⟨[],[],[]⟩) 5 22 (some none) [.int .u64 a,.int .u64 b,.tuple #[],.tuple #[],.pointer (some ⟨0,0,none⟩)] ⟨6,[(wU (d16 (vX a b)),tU),bOf (sgn b) (xp b) (sOf 2 (sg b).toNat),bOf (sgn a) (xp a) (sOf 1 (sg a).toNat),(wU (d16 (sg b).toNat),tU),(wU (d16 (sg a).toNat),tU),bOf (prN a b) (i64.wrap (xp a+xp b)) (sOf 5 (vX a b))]⟩ [(Zqs (hX5 a b) (ad 1 0) (ad 2 0) (d16 (sg a).toNat).length (d16 (sg a).toNat).length (d16 (sg b).toNat).length (d16 (sg b).toNat).length,true),lU b,lU a]:=by and_intros<;>kernel_rfl
theorem Z2f (p:Int):(d16 (sg p).toNat).length≤4:=by
 have:=ZbK p;refine zI (k:=4) ?_;have e:(2:Nat)^(16*4)=18446744073709551616:=rfl;omega
theorem Z2g (a b:Int):vX a b=prV a b:=by
 have h1:(hX5 a b).blk? 1=some (wU (d16 (sg a).toNat),tU):=rfl;have h2:(hX5 a b).blk? 2=some (wU (d16 (sg b).toNat),tU):=rfl;unfold vX prV;rw[ZdL h1,ZdL h2]
theorem Zpx (a b:Int):Zqs (hX5 a b) (ad 1 0) (ad 2 0) (d16 (sg a).toNat).length (d16 (sg a).toNat).length (d16 (sg b).toNat).length (d16 (sg b).toNat).length=true:=by
 have h1:(hX5 a b).blk? 1=some (wU (d16 (sg a).toNat),tU):=rfl;have h2:(hX5 a b).blk? 2=some (wU (d16 (sg b).toNat),tU):=rfl;have la:=Z2f a;have lb:=Z2f b;unfold Zqs ad;rw[ZE h1 (by omega),Zaa h1,ZE h2 (by omega),Zaa h2,Zk.2 (by omega)];rfl
def gXx:Zcl:=fun vals h s=>
 match vals with
 | [.int .u64 a,.int .u64 b]=>some (vRN (prN a b) (prE a b) (sOf h.n (prV a b)),h.push (wU (d16 (prV a b))) tU,s,[(decide (U a∧U b),true)])
 | _=>none
theorem Zyl:za 35 gXx:=by
 intro vals h s v h' s' lg hg hl m B w E hv;unfold gXx at hg;split at hg
 ·rename_i a b;cases hg;obtain⟨q1,q2⟩:=Xc (hl _ Xf);have hE:=ZbB a b;have e1:i64.wrap (xp a+xp b)=prE a b:=ZY ⟨by unfold prE at hE;omega,by unfold prE at hE;omega⟩;have hr:RunsW (Zp prog Zh ZfR hcM) (Zv f35) ([.int .u64 a,.int .u64 b]++List.replicate 25 undef,⟨0,[]⟩,[]) fun e z=>(e=none∨e=some none)∧∃ k,Zau prog f35 z.1 z.2.1=some (vRN (prN a b) (prE a b) (sOf k (prV a b)))∧∃ r,z.2.1.blk? k=some (wU (d16 (prV a b))++r,tU):=by
   have hg:=Zyk a b;rw[e1,Z2g] at hg;refine (Zc (Zg Zfb Zyj) hg (Za (Zpx a b) (Za (Xa q2) (Zz (Xa q1))))).mono fun e z he=> ?_;obtain⟨rfl,⟨g,e1⟩,e2⟩:=he;exact⟨.inr rfl,5,by rw[e1,e2];rfl,[],by rw[e2,List.append_nil];rfl⟩
  have:=Zb6 (T:=Zp prog Zh ZfR hcM) func35 Zpw (h0:=⟨0,[]⟩) ⟨rfl,fun b x hx=>by have:b<0:=Hp.blk_lt hx;omega⟩ (vals:=[.int .u64 a,.int .u64 b]) (fun v hv=>by
   simp only[List.mem_cons,List.not_mem_nil,or_false] at hv;rcases hv with h1 | h1<;>rw[h1]<;>rfl) (v:=fun k=>vRN (prN a b) (prE a b) (sOf k (prV a b))) (Zbu _) (by kernel_rfl) hr (fun k=>by simp [oc,oc2,oc1,sOf,sl,vRN]) E (s:=fun i=>i) (fun i x hx _=>by have:i<0:=Hp.blk_lt hx;omega) (fun k=>by simp [rn,rn2,rn1,sOf,sl,vRN])
  exact this
 ·cases hg
def hcX:Hc:=Zb5 35 gXx hcS
theorem Zq6:HcOk hcX:=ZA func35 rfl Zyl ZhS
end Go.Proofs.YtekebccjflilnaaGreat
namespace Go.Proofs.YtekebccjflilnaaGreat
open Go.KRun Go.Nt Go.Wd Go.Pt Go.Rn
def hM1 (a b:Int):Hp:=⟨1,[(wU (d16 (prV a b)),tU)]⟩
def hM2 (a b c:Int):Hp:=⟨2,[(wU (d16 (sg c).toNat),tU),(wU (d16 (prV a b)),tU)]⟩
def sM (a b c:Int):Int:=smH (hM2 a b c) (prN a b) (sgn c) (prE a b) (xp c) 0 0 (d16 (prV a b)).length 1 0 (d16 (sg c).toNat).length
def lM (a b c:Int):Int:=Zcj (prE a b) (xp c) (d16 (prV a b)).length (d16 (sg c).toNat).length
def Zu9 (a b c:Int):Hp:=nxt (hM2 a b c) (sM a b c).natAbs
def nM (m a b c:Int):Bool:=sgS m (prN a b) (sgn c) (sM a b c)
end Go.Proofs.YtekebccjflilnaaGreat
namespace Go.Proofs.YtekebccjflilnaaGreat
open Go.Proofs.Tryz
open Go.KRun Go.Nt Go.Wd Go.Pt Go.Rn
set_option maxRecDepth 100000
theorem Z2h (a b m:Int):Zw (Ze (Zp prog Zh z7 hcX) 300 16 [.int .u64 a,.int .u64 b,.int .i64 m] [cmp true,cmp true]) (raT 9221120237041090560 1) [(cl a==5,true),lU a,(decide (cl a>3),true),lU a]:=by and_intros<;>kernel_rfl
theorem Z2i (a b m:Int):Zw (Ze (Zp prog Zh z7 hcX) 300 16 [.int .u64 a,.int .u64 b,.int .i64 m] [cmp true,cmp false,cmp true]) (raT 9221120237041090560 1) [(cl b==5,true),lU b,(cl a==5,false),lU a,(decide (cl a>3),true),lU a]:=by and_intros<;>kernel_rfl
theorem Z2j (a b m:Int):Zw (Ze (Zp prog Zh z7 hcX) 300 16 [.int .u64 a,.int .u64 b,.int .i64 m] [cmp true,cmp false,cmp false]) (raT 9221120237041090560 0) [(cl b==5,false),lU b,(cl a==5,false),lU a,(decide (cl a>3),true),lU a]:=by and_intros<;>kernel_rfl
theorem Z2k (a b m:Int):Zw (Ze (Zp prog Zh z7 hcX) 300 16 [.int .u64 a,.int .u64 b,.int .i64 m] [cmp false,cmp true,cmp false,cmp true]) (raT 9221120237041090560 1) [(cl b==5,true),lU b,(cl a==5,false),lU a,(decide (cl b>3),true),lU b,(decide (cl a>3),false),lU a]:=by and_intros<;>kernel_rfl
theorem Z2l (a b m:Int):Zw (Ze (Zp prog Zh z7 hcX) 300 16 [.int .u64 a,.int .u64 b,.int .i64 m] [cmp false,cmp true,cmp false,cmp false]) (raT 9221120237041090560 0) [(cl b==5,false),lU b,(cl a==5,false),lU a,(decide (cl b>3),true),lU b,(decide (cl a>3),false),lU a]:=by and_intros<;>kernel_rfl
theorem Zym (a b m:Int):Zw (Ze (Zp prog Zh z7 hcX) 300 16 [.int .u64 a,.int .u64 b,.int .i64 m] [cmp false,cmp false,cmp true]) (raT 9221120237041090560 1) [(zh a b,true),(decide (U a∧U b),true),(decide (cl b>3),false),lU b,(decide (cl a>3),false),lU a]:=by and_intros<;>kernel_rfl
theorem Z2m (a b m:Int):Zw (Ze (Zp prog Zh z7 hcX) 300 16 [.int .u64 a,.int .u64 b,.int .i64 m] [cmp false,cmp false,cmp false,cmp true]) (raT (sgB 9218868437227405312 a b) 0) [(decide ((0:Int)≤9218868437227405312∧(9218868437227405312:Int)<9223372036854775808),true),(mag a==9218868437227405312,true),lU a,(zh a b,false),(decide (U a∧U b),true),(decide (cl b>3),false),lU b,(decide (cl a>3),false),lU a]:=by and_intros<;>kernel_rfl
theorem Z2n (a b m:Int):Zw (Ze (Zp prog Zh z7 hcX) 300 16 [.int .u64 a,.int .u64 b,.int .i64 m] [cmp false,cmp false,cmp false,cmp false,cmp true]) (raT (sgB 9218868437227405312 a b) 0) [(decide ((0:Int)≤9218868437227405312∧(9218868437227405312:Int)<9223372036854775808),true),(mag b==9218868437227405312,true),lU b,(mag a==9218868437227405312,false),lU a,(zh a b,false),(decide (U a∧U b),true),(decide (cl b>3),false),lU b,(decide (cl a>3),false),lU a]:=by and_intros<;>kernel_rfl
theorem Zyn (a b m:Int):Zw (Ze (Zp prog Zh z7 hcX) 300 16 [.int .u64 a,.int .u64 b,.int .i64 m] [cmp false,cmp false,cmp false,cmp false,cmp false]) (raT (sS (prN a b) (rnP m (prN a b) (vO (hM1 a b) (ad 0 0) (d16 (prV a b)).length) (prE a b))) (rnF m (prN a b) (vO (hM1 a b) (ad 0 0) (d16 (prV a b)).length) (prE a b))) [(ZiX (hM1 a b) (ad 0 0) (d16 (prV a b)).length (d16 (prV a b)).length (prE a b),true),(decide (U a∧U b),true),(mag b==9218868437227405312,false),lU b,(mag a==9218868437227405312,false),lU a,(zh a b,false),(decide (U a∧U b),true),(decide (cl b>3),false),lU b,(decide (cl a>3),false),lU a]:=by and_intros<;>kernel_rfl
theorem Zyo (a b c m:Int):Zw (Ze (Zp prog Zh z7 hcX) 300 20 [.int .u64 a,.int .u64 b,.int .u64 c,.int .i64 m] [cmp true]) (raT 9221120237041090560 1) [(zh a b,true),(decide (U a∧U b),true)]:=by and_intros<;>kernel_rfl
theorem Zyp (a b c m:Int):Zw (Ze (Zp prog Zh z7 hcX) 300 20 [.int .u64 a,.int .u64 b,.int .u64 c,.int .i64 m] [cmp false,cmp true,cmp true,cmp true,cmp false]) (raT 9221120237041090560 1) [(cl c==5,true),lU c,(cl a==5,true),lU a,(decide (cl a>3),true),lU a,(zh a b,false),(decide (U a∧U b),true)]:=by and_intros<;>kernel_rfl
theorem Zyq (a b c m:Int):Zw (Ze (Zp prog Zh z7 hcX) 300 20 [.int .u64 a,.int .u64 b,.int .u64 c,.int .i64 m] [cmp false,cmp true,cmp true,cmp false,cmp false,cmp false]) (raT 9221120237041090560 1) [(cl c==5,false),lU c,(cl c==5,false),lU c,(cl a==5,true),lU a,(decide (cl a>3),true),lU a,(zh a b,false),(decide (U a∧U b),true)]:=by and_intros<;>kernel_rfl
theorem Zyr (a b c m:Int):Zw (Ze (Zp prog Zh z7 hcX) 300 20 [.int .u64 a,.int .u64 b,.int .u64 c,.int .i64 m] [cmp false,cmp true,cmp false,cmp true,cmp true,cmp false]) (raT 9221120237041090560 1) [(cl c==5,true),lU c,(cl b==5,true),lU b,(cl a==5,false),lU a,(decide (cl a>3),true),lU a,(zh a b,false),(decide (U a∧U b),true)]:=by and_intros<;>kernel_rfl
theorem Zys (a b c m:Int):Zw (Ze (Zp prog Zh z7 hcX) 300 20 [.int .u64 a,.int .u64 b,.int .u64 c,.int .i64 m] [cmp false,cmp true,cmp false,cmp true,cmp false,cmp false,cmp false]) (raT 9221120237041090560 1) [(cl c==5,false),lU c,(cl c==5,false),lU c,(cl b==5,true),lU b,(cl a==5,false),lU a,(decide (cl a>3),true),lU a,(zh a b,false),(decide (U a∧U b),true)]:=by and_intros<;>kernel_rfl
theorem Zyt (a b c m:Int):Zw (Ze (Zp prog Zh z7 hcX) 300 20 [.int .u64 a,.int .u64 b,.int .u64 c,.int .i64 m] [cmp false,cmp true,cmp false,cmp false,cmp true,cmp true]) (raT 9221120237041090560 1) [(cl c==5,true),lU c,(cl b==5,false),lU b,(cl a==5,false),lU a,(decide (cl a>3),true),lU a,(zh a b,false),(decide (U a∧U b),true)]:=by and_intros<;>kernel_rfl
theorem Zyu (a b c m:Int):Zw (Ze (Zp prog Zh z7 hcX) 300 20 [.int .u64 a,.int .u64 b,.int .u64 c,.int .i64 m] [cmp false,cmp true,cmp false,cmp false,cmp false,cmp false,cmp false]) (raT 9221120237041090560 0) [(cl c==5,false),lU c,(cl c==5,false),lU c,(cl b==5,false),lU b,(cl a==5,false),lU a,(decide (cl a>3),true),lU a,(zh a b,false),(decide (U a∧U b),true)]:=by and_intros<;>kernel_rfl
theorem Zyv (a b c m:Int):Zw (Ze (Zp prog Zh z7 hcX) 300 20 [.int .u64 a,.int .u64 b,.int .u64 c,.int .i64 m] [cmp false,cmp false,cmp true,cmp false,cmp true,cmp true,cmp false]) (raT 9221120237041090560 1) [(cl c==5,true),lU c,(cl b==5,true),lU b,(cl a==5,false),lU a,(decide (cl b>3),true),lU b,(decide (cl a>3),false),lU a,(zh a b,false),(decide (U a∧U b),true)]:=by and_intros<;>kernel_rfl
theorem Zyw (a b c m:Int):Zw (Ze (Zp prog Zh z7 hcX) 300 20 [.int .u64 a,.int .u64 b,.int .u64 c,.int .i64 m] [cmp false,cmp false,cmp true,cmp false,cmp true,cmp false,cmp false,cmp false]) (raT 9221120237041090560 1) [(cl c==5,false),lU c,(cl c==5,false),lU c,(cl b==5,true),lU b,(cl a==5,false),lU a,(decide (cl b>3),true),lU b,(decide (cl a>3),false),lU a,(zh a b,false),(decide (U a∧U b),true)]:=by and_intros<;>kernel_rfl
theorem Zyx (a b c m:Int):Zw (Ze (Zp prog Zh z7 hcX) 300 20 [.int .u64 a,.int .u64 b,.int .u64 c,.int .i64 m] [cmp false,cmp false,cmp true,cmp false,cmp false,cmp true,cmp true]) (raT 9221120237041090560 1) [(cl c==5,true),lU c,(cl b==5,false),lU b,(cl a==5,false),lU a,(decide (cl b>3),true),lU b,(decide (cl a>3),false),lU a,(zh a b,false),(decide (U a∧U b),true)]:=by and_intros<;>kernel_rfl
theorem Zyy (a b c m:Int):Zw (Ze (Zp prog Zh z7 hcX) 300 20 [.int .u64 a,.int .u64 b,.int .u64 c,.int .i64 m] [cmp false,cmp false,cmp true,cmp false,cmp false,cmp false,cmp false,cmp false]) (raT 9221120237041090560 0) [(cl c==5,false),lU c,(cl c==5,false),lU c,(cl b==5,false),lU b,(cl a==5,false),lU a,(decide (cl b>3),true),lU b,(decide (cl a>3),false),lU a,(zh a b,false),(decide (U a∧U b),true)]:=by and_intros<;>kernel_rfl
theorem Zyz (a b c m:Int):Zw (Ze (Zp prog Zh z7 hcX) 300 20 [.int .u64 a,.int .u64 b,.int .u64 c,.int .i64 m] [cmp false,cmp false,cmp false,cmp true,cmp false,cmp false,cmp true,cmp true]) (raT 9221120237041090560 1) [(cl c==5,true),lU c,(cl b==5,false),lU b,(cl a==5,false),lU a,(decide (cl c>3),true),lU c,(decide (cl b>3),false),lU b,(decide (cl a>3),false),lU a,(zh a b,false),(decide (U a∧U b),true)]:=by and_intros<;>kernel_rfl
theorem Zy0 (a b c m:Int):Zw (Ze (Zp prog Zh z7 hcX) 300 20 [.int .u64 a,.int .u64 b,.int .u64 c,.int .i64 m] [cmp false,cmp false,cmp false,cmp true,cmp false,cmp false,cmp false,cmp false,cmp false]) (raT 9221120237041090560 0) [(cl c==5,false),lU c,(cl c==5,false),lU c,(cl b==5,false),lU b,(cl a==5,false),lU a,(decide (cl c>3),true),lU c,(decide (cl b>3),false),lU b,(decide (cl a>3),false),lU a,(zh a b,false),(decide (U a∧U b),true)]:=by and_intros<;>kernel_rfl
theorem Zy1 (a b c m:Int):Zw (Ze (Zp prog Zh z7 hcX) 300 20 [.int .u64 a,.int .u64 b,.int .u64 c,.int .i64 m] [cmp false,cmp false,cmp false,cmp false,cmp true,cmp false]) (raT (sgB 9218868437227405312 a b) 0) [(mag c==9218868437227405312,false),lU c,(decide ((0:Int)≤9218868437227405312∧(9218868437227405312:Int)<9223372036854775808),true),(mag a==9218868437227405312,true),lU a,(decide (cl c>3),false),lU c,(decide (cl b>3),false),lU b,(decide (cl a>3),false),lU a,(zh a b,false),(decide (U a∧U b),true)]:=by and_intros<;>kernel_rfl
theorem Zui (a b c m:Int):Zw (Ze (Zp prog Zh z7 hcX) 300 20 [.int .u64 a,.int .u64 b,.int .u64 c,.int .i64 m] [cmp false,cmp false,cmp false,cmp false,cmp true,cmp true,cmp false]) (raT (sgB 9218868437227405312 a b) 0) [(c !=sgB 9218868437227405312 a b,false),(mag c==9218868437227405312,true),lU c,(decide ((0:Int)≤9218868437227405312∧(9218868437227405312:Int)<9223372036854775808),true),(mag a==9218868437227405312,true),lU a,(decide (cl c>3),false),lU c,(decide (cl b>3),false),lU b,(decide (cl a>3),false),lU a,(zh a b,false),(decide (U a∧U b),true)]:=by and_intros<;>kernel_rfl
theorem Zuj (a b c m:Int):Zw (Ze (Zp prog Zh z7 hcX) 300 20 [.int .u64 a,.int .u64 b,.int .u64 c,.int .i64 m] [cmp false,cmp false,cmp false,cmp false,cmp true,cmp true,cmp true]) (raT 9221120237041090560 1) [(c !=sgB 9218868437227405312 a b,true),(mag c==9218868437227405312,true),lU c,(decide ((0:Int)≤9218868437227405312∧(9218868437227405312:Int)<9223372036854775808),true),(mag a==9218868437227405312,true),lU a,(decide (cl c>3),false),lU c,(decide (cl b>3),false),lU b,(decide (cl a>3),false),lU a,(zh a b,false),(decide (U a∧U b),true)]:=by and_intros<;>kernel_rfl
theorem Zy2 (a b c m:Int):Zw (Ze (Zp prog Zh z7 hcX) 300 20 [.int .u64 a,.int .u64 b,.int .u64 c,.int .i64 m] [cmp false,cmp false,cmp false,cmp false,cmp false,cmp true,cmp false]) (raT (sgB 9218868437227405312 a b) 0) [(mag c==9218868437227405312,false),lU c,(decide ((0:Int)≤9218868437227405312∧(9218868437227405312:Int)<9223372036854775808),true),(mag b==9218868437227405312,true),lU b,(mag a==9218868437227405312,false),lU a,(decide (cl c>3),false),lU c,(decide (cl b>3),false),lU b,(decide (cl a>3),false),lU a,(zh a b,false),(decide (U a∧U b),true)]:=by and_intros<;>kernel_rfl
theorem Zuk (a b c m:Int):Zw (Ze (Zp prog Zh z7 hcX) 300 20 [.int .u64 a,.int .u64 b,.int .u64 c,.int .i64 m] [cmp false,cmp false,cmp false,cmp false,cmp false,cmp true,cmp true,cmp false]) (raT (sgB 9218868437227405312 a b) 0) [(c !=sgB 9218868437227405312 a b,false),(mag c==9218868437227405312,true),lU c,(decide ((0:Int)≤9218868437227405312∧(9218868437227405312:Int)<9223372036854775808),true),(mag b==9218868437227405312,true),lU b,(mag a==9218868437227405312,false),lU a,(decide (cl c>3),false),lU c,(decide (cl b>3),false),lU b,(decide (cl a>3),false),lU a,(zh a b,false),(decide (U a∧U b),true)]:=by and_intros<;>kernel_rfl
theorem Zul (a b c m:Int):Zw (Ze (Zp prog Zh z7 hcX) 300 20 [.int .u64 a,.int .u64 b,.int .u64 c,.int .i64 m] [cmp false,cmp false,cmp false,cmp false,cmp false,cmp true,cmp true,cmp true]) (raT 9221120237041090560 1) [(c !=sgB 9218868437227405312 a b,true),(mag c==9218868437227405312,true),lU c,(decide ((0:Int)≤9218868437227405312∧(9218868437227405312:Int)<9223372036854775808),true),(mag b==9218868437227405312,true),lU b,(mag a==9218868437227405312,false),lU a,(decide (cl c>3),false),lU c,(decide (cl b>3),false),lU b,(decide (cl a>3),false),lU a,(zh a b,false),(decide (U a∧U b),true)]:=by and_intros<;>kernel_rfl
theorem Z2o (a b c m:Int):Zw (Ze (Zp prog Zh z7 hcX) 300 20 [.int .u64 a,.int .u64 b,.int .u64 c,.int .i64 m] [cmp false,cmp false,cmp false,cmp false,cmp false,cmp false,cmp true]) (raT c 0) [(mag c==9218868437227405312,true),lU c,(mag b==9218868437227405312,false),lU b,(mag a==9218868437227405312,false),lU a,(decide (cl c>3),false),lU c,(decide (cl b>3),false),lU b,(decide (cl a>3),false),lU a,(zh a b,false),(decide (U a∧U b),true)]:=by and_intros<;>kernel_rfl
theorem Z2p (a b c m:Int):Zw (Ze (Zp prog Zh z7 hcX) 300 20 [.int .u64 a,.int .u64 b,.int .u64 c,.int .i64 m] [cmp false,cmp false,cmp false,cmp false,cmp false,cmp false,cmp false,cmp false]) (raT (sS (nM m a b c) 0) 0) [(decide (sM a b c≠0),false),(Zq5 (hM2 a b c) (ad 0 0) (ad 1 0) (d16 (prV a b)).length (d16 (prV a b)).length (d16 (sg c).toNat).length (d16 (sg c).toNat).length (prE a b) (xp c),true),lU c,(decide (U a∧U b),true),(mag c==9218868437227405312,false),lU c,(mag b==9218868437227405312,false),lU b,(mag a==9218868437227405312,false),lU a,(decide (cl c>3),false),lU c,(decide (cl b>3),false),lU b,(decide (cl a>3),false),lU a,(zh a b,false),(decide (U a∧U b),true)]:=by and_intros<;>kernel_rfl
theorem Z2q (a b c m:Int):Zw (Ze (Zp prog Zh z7 hcX) 300 20 [.int .u64 a,.int .u64 b,.int .u64 c,.int .i64 m] [cmp false,cmp false,cmp false,cmp false,cmp false,cmp false,cmp false,cmp true]) (raT (sS (nM m a b c) (rnP m (nM m a b c) (vO (Zu9 a b c) (ad 2 0) (d16 (sM a b c).natAbs).length) (lM a b c))) (rnF m (nM m a b c) (vO (Zu9 a b c) (ad 2 0) (d16 (sM a b c).natAbs).length) (lM a b c))) [(ZiX (Zu9 a b c) (ad 2 0) (d16 (sM a b c).natAbs).length (d16 (sM a b c).natAbs).length (lM a b c),true),(decide (sM a b c≠0),true),(Zq5 (hM2 a b c) (ad 0 0) (ad 1 0) (d16 (prV a b)).length (d16 (prV a b)).length (d16 (sg c).toNat).length (d16 (sg c).toNat).length (prE a b) (xp c),true),lU c,(decide (U a∧U b),true),(mag c==9218868437227405312,false),lU c,(mag b==9218868437227405312,false),lU b,(mag a==9218868437227405312,false),lU a,(decide (cl c>3),false),lU c,(decide (cl b>3),false),lU b,(decide (cl a>3),false),lU a,(zh a b,false),(decide (U a∧U b),true)]:=by and_intros<;>kernel_rfl
theorem Z2D (a b:Int):(d16 (prV a b)).length≤7:=by
 have:=Zhz a b;refine zI (k:=7) ?_;have e:(2:Nat)^(16*7)=5192296858534827628530496329220096:=rfl;omega
theorem Zy3 (a b:Int):ZiX (hM1 a b) (ad 0 0) (d16 (prV a b)).length (d16 (prV a b)).length (prE a b)=true:=by
 have h0:(hM1 a b).blk? 0=some (wU (d16 (prV a b)),tU):=rfl;have l:=Z2D a b;have hE:=ZbB a b;unfold ZiX ad;rw[ZE h0 (by omega),z6 h0,show Zfg (d16 (prV a b))=true from ZaV (ZcB (by omega) _),Zk.2 (by omega),Xa (by omega)];rfl
theorem Zq7 (a b c:Int):Zq5 (hM2 a b c) (ad 0 0) (ad 1 0) (d16 (prV a b)).length (d16 (prV a b)).length (d16 (sg c).toNat).length (d16 (sg c).toNat).length (prE a b) (xp c)=true:=by
 have h0:(hM2 a b c).blk? 0=some (wU (d16 (prV a b)),tU):=rfl;have h1:(hM2 a b c).blk? 1=some (wU (d16 (sg c).toNat),tU):=rfl;have l:=Z2D a b;have lc:=Z2f c;have hE:=ZbB a b;have xc:=ZbJ c;unfold Zq5 ad;rw[ZE h0 (by omega),z6 h0,ZE h1 (by omega),z6 h1,show Zfg (d16 (prV a b))=true from ZaV (ZcB (by omega) _),show Zfg (d16 (sg c).toNat)=true from ZaV (ZcB (by omega) _),Zk.2 (by omega),Zk.2 (by omega),Xa ⟨⟨by omega,by omega⟩,by omega,by omega⟩];rfl
theorem Zy4 (a b c:Int):sM a b c=smI (lM a b c) (prN a b) (prE a b) (prV a b) (sgn c) (xp c) (sg c).toNat:=by
 have h0:(hM2 a b c).blk? 0=some (wU (d16 (prV a b)),tU):=rfl;have h1:(hM2 a b c).blk? 1=some (wU (d16 (sg c).toNat),tU):=rfl;unfold sM smH smS;rw[ZdL h0,ZdL h1];rfl
theorem Zum (a b c:Int): -2148≤lM a b c∧(lM a b c=prE a b∨lM a b c=xp c):=by
 have hE:=ZbB a b;have xc:=ZbJ c;exact⟨Zue (by omega) (by omega) _ _,Zmy _ _⟩
theorem Zun (a b c:Int):fsI a b c=sM a b c*((2^(lM a b c - -2148).toNat:Nat):Int):=by
 have hE:=ZbB a b;have xc:=ZbJ c;rw[Zy4];exact Zuf (by omega) (by omega) (ZfS _) (ZfS _) _ _
theorem Zq8 (m a b c:Int):nM m a b c=fsN m a b c:=by
 unfold nM fsN;rw[Zun,ZkM m _ _ _ (Nat.pow_pos (by omega))]
theorem Zpy (m:Int) (n:Bool) (a b c:Int):rnP m n (sM a b c).natAbs (lM a b c)=rnP m n (fsI a b c).natAbs (-2148)∧rnF m n (sM a b c).natAbs (lM a b c)=rnF m n (fsI a b c).natAbs (-2148):=by
 have hl:=(Zum a b c).1;have ea:(fsI a b c).natAbs=(sM a b c).natAbs*2^(lM a b c - -2148).toNat:=by rw[Zun,Int.natAbs_mul,Int.natAbs_natCast]
 have eG:lM a b c-((lM a b c - -2148).toNat:Int)= -2148:=by omega
 have sp:=ZaA m n (sM a b c).natAbs (lM a b c - -2148).toNat (lM a b c);have sf:=ZaB m n (sM a b c).natAbs (lM a b c - -2148).toNat (lM a b c);rw[eG,← ea] at sp sf;exact⟨sp.symm,sf.symm⟩
theorem Zuo {a b c:Int}(h:sM a b c=0):fsI a b c=0:=by rw[Zun,h,Int.zero_mul]
theorem Z2r (a b c:Int):(sM a b c).natAbs<2^(16*300):=by
 have hE:=ZbB a b;have xc:=ZbJ c;have hV:=Zhz a b;have hc:=ZbK c;obtain⟨hl,hn⟩:=Zum a b c;have e106:(2:Nat)^106=81129638414606681695789005144064:=rfl;obtain⟨j,hj⟩:∃ j:Nat,j=4200:=⟨_,rfl⟩;have p1:=Zmz (F:=lM a b c) (E:=prE a b) (X:=prV a b) (k:=106) (j:=j) (by omega) (by omega);have p2:=Zmz (F:=lM a b c) (E:=xp c) (X:=(sg c).toNat) (k:=106) (j:=j) (by omega) (by omega);obtain⟨i,hi⟩:∃ i:Nat,i=494:=⟨_,rfl⟩;have e:(2:Nat)^(16*300)=2^i*2^(106+j):=by rw[← Nat.pow_add];congr 1;omega
 have h2:2^1≤2^i:=Nat.pow_le_pow_right (by omega) (by omega);have h3:=Nat.mul_le_mul_right (2^(106+j)) h2;have h4:2^1*2^(106+j)=2*2^(106+j):=rfl;rw[Zy4];unfold smI;rw[e];rw[h4] at h3;clear h4 h2 e;generalize szF (lM a b c) (prE a b) (prV a b)=P at*;generalize szF (lM a b c) (xp c) (sg c).toNat=Q at*;generalize (2:Nat)^(106+j)=Z at*;generalize (2:Nat)^i*Z=Y at*;cases prN a b<;>cases sgn c<;>simp only[sgI]<;>omega
theorem Zy5 (a b c:Int):ZiX (Zu9 a b c) (ad 2 0) (d16 (sM a b c).natAbs).length (d16 (sM a b c).natAbs).length (lM a b c)=true:=by
 have h2:(Zu9 a b c).blk? 2=some (wU (d16 (sM a b c).natAbs),tU):=rfl;have hl:(d16 (sM a b c).natAbs).length≤300:=zI (Z2r a b c);have hE:=ZbB a b;have xc:=ZbJ c;have hn:=(Zum a b c).2;unfold ZiX ad;rw[ZE h2 (by omega),z6 h2,show Zfg (d16 (sM a b c).natAbs)=true from ZaV (ZcB (by omega) _),Zk.2 (by omega),Xa (by omega)];rfl
theorem Zg7 (a b m:Int) (ha:U a) (hb:U b) (w:World):Calls prog 16 #[.int .u64 a,.int .u64 b,.int .i64 m] w fun r w'=>r= .returned (raT (muP m a b) (muF m a b))∧zg w w':=by
 have hv:([.int .u64 a,.int .u64 b,.int .i64 m].all (lt 0))=true:=rfl;have T:=Zg ZhT Zq6;have ka:decide (U a)=true:=Xa ha;have kb:decide (U b)=true:=Xa hb;have kab:decide (U a∧U b)=true:=Xa ⟨ha,hb⟩;obtain⟨a1,a2,a3⟩:=Zdy a;obtain⟨b1,b2,b3⟩:=Zdy b;by_cases ha3:3<cl a
 ·obtain⟨p1,p2⟩:=Zms (m:=m) (a:=a) (b:=b) (.inl ha3);rw[p1,p2];by_cases a5:cl a=5
  ·rw[if_pos (.inl a5)];exact Zb T (Z2h a b m) (Za (Z1 a5) (Za ka (Za (Xa ha3) (Zz ka)))) hv (by rfl) w
  ·by_cases b5:cl b=5
   ·rw[if_pos (.inr b5)];exact Zb T (Z2i a b m) (Za (Z1 b5) (Za kb (Za (Zq (by omega)) (Za ka (Za (Xa ha3) (Zz ka)))))) hv (by rfl) w
   ·rw[if_neg (by omega)];exact Zb T (Z2j a b m) (Za (Zq (by omega)) (Za kb (Za (Zq (by omega)) (Za ka (Za (Xa ha3) (Zz ka)))))) hv (by rfl) w
 ·by_cases hb3:3<cl b
  ·obtain⟨p1,p2⟩:=Zms (m:=m) (a:=a) (b:=b) (.inr hb3);rw[p1,p2];by_cases b5:cl b=5
   ·rw[if_pos (.inr b5)];exact Zb T (Z2k a b m) (Za (Z1 b5) (Za kb (Za (Zq (by omega)) (Za ka (Za (Xa hb3) (Za kb (Za (Xb ha3) (Zz ka)))))))) hv (by rfl) w
   ·rw[if_neg (by omega)];exact Zb T (Z2l a b m) (Za (Zq (by omega)) (Za kb (Za (Zq (by omega)) (Za ka (Za (Xa hb3) (Za kb (Za (Xb ha3) (Zz ka)))))))) hv (by rfl) w
  ·by_cases hbd:zh a b=true
   ·obtain⟨p1,p2⟩:=Zub (m:=m) hbd;rw[p1,p2];exact Zb T (Zym a b m) (Za hbd (Za kab (Za (Xb hb3) (Za kb (Za (Xb ha3) (Zz ka)))))) hv (by rfl) w
   ·have hb0:zh a b=false:=by simpa using hbd
    by_cases ae:cl a=3
    ·obtain⟨p1,p2⟩:=Zmt (m:=m) hbd (by omega) (.inl ae);rw[p1,p2];exact Zb T (Z2m a b m) (Za (by decide) (Za (Z1 (a2.1 ae)) (Za ka (Za hb0 (Za kab (Za (Xb hb3) (Za kb (Za (Xb ha3) (Zz ka))))))))) hv (by rfl) w
    ·by_cases be:cl b=3
     ·obtain⟨p1,p2⟩:=Zmt (m:=m) hbd (by omega) (.inr be);rw[p1,p2];exact Zb T (Z2n a b m) (Za (by decide) (Za (Z1 (b2.1 be)) (Za kb (Za (Zq (fun e=>ae (a2.2 e))) (Za ka (Za hb0 (Za kab (Za (Xb hb3) (Za kb (Za (Xb ha3) (Zz ka))))))))))) hv (by rfl) w
     ·obtain⟨p1,p2⟩:=Zuc (m:=m) (a:=a) (b:=b) (by omega) (by omega);have h0:(hM1 a b).blk? 0=some (wU (d16 (prV a b)),tU):=rfl;have hf:=Zyn a b m;rw[ZdL h0] at hf;rw[p1,p2];exact Zb T hf (Za (Zy3 a b) (Za kab (Za (Zq (fun e=>be (b2.2 e))) (Za kb (Za (Zq (fun e=>ae (a2.2 e))) (Za ka (Za hb0 (Za kab (Za (Xb hb3) (Za kb (Za (Xb ha3) (Zz ka)))))))))))) hv (by rfl) w
theorem Zg8 (a b c m:Int) (ha:U a) (hb:U b) (hcU:U c) (w:World):Calls prog 20 #[.int .u64 a,.int .u64 b,.int .u64 c,.int .i64 m] w fun r w'=>r= .returned (raT (fmP m a b c) (fmF m a b c))∧zg w w':=by
 have hv:([.int .u64 a,.int .u64 b,.int .u64 c,.int .i64 m].all (lt 0))=true:=rfl;have T:=Zg ZhT Zq6;have ka:decide (U a)=true:=Xa ha;have kb:decide (U b)=true:=Xa hb;have kc:decide (U c)=true:=Xa hcU;have kab:decide (U a∧U b)=true:=Xa ⟨ha,hb⟩;obtain⟨a1,a2,a3⟩:=Zdy a;obtain⟨b1,b2,b3⟩:=Zdy b;obtain⟨c1,c2,c3⟩:=Zdy c;unfold fmP fmF;by_cases hbd:zh a b=true
 ·rw[if_pos hbd,if_pos hbd];exact Zb T (Zyo a b c m) (Za hbd (Zz kab)) hv (by rfl) w
 ·have hb0:zh a b=false:=by simpa using hbd
  rw[if_neg hbd,if_neg hbd];by_cases ha3:3<cl a
  ·rw[if_pos (.inl ha3),if_pos (.inl ha3)];by_cases a5:cl a=5
   ·by_cases c5:cl c=5
    ·rw[if_pos (by omega)];exact Zb T (Zyp a b c m) (Za (Z1 c5) (Za kc (Za (Z1 a5) (Za ka (Za (Xa ha3) (Za ka (Za hb0 (Zz kab)))))))) hv (by rfl) w
    ·rw[if_pos (by omega)];exact Zb T (Zyq a b c m) (Za (Zq (by omega)) (Za kc (Za (Zq (by omega)) (Za kc (Za (Z1 a5) (Za ka (Za (Xa ha3) (Za ka (Za hb0 (Zz kab)))))))))) hv (by rfl) w
   ·by_cases b5:cl b=5
    ·by_cases c5:cl c=5
     ·rw[if_pos (by omega)];exact Zb T (Zyr a b c m) (Za (Z1 c5) (Za kc (Za (Z1 b5) (Za kb (Za (Zq (by omega)) (Za ka (Za (Xa ha3) (Za ka (Za hb0 (Zz kab)))))))))) hv (by rfl) w
     ·rw[if_pos (by omega)];exact Zb T (Zys a b c m) (Za (Zq (by omega)) (Za kc (Za (Zq (by omega)) (Za kc (Za (Z1 b5) (Za kb (Za (Zq (by omega)) (Za ka (Za (Xa ha3) (Za ka (Za hb0 (Zz kab)))))))))))) hv (by rfl) w
    ·by_cases c5:cl c=5
     ·rw[if_pos (by omega)];exact Zb T (Zyt a b c m) (Za (Z1 c5) (Za kc (Za (Zq (by omega)) (Za kb (Za (Zq (by omega)) (Za ka (Za (Xa ha3) (Za ka (Za hb0 (Zz kab)))))))))) hv (by rfl) w
     ·rw[if_neg (by omega)];exact Zb T (Zyu a b c m) (Za (Zq (by omega)) (Za kc (Za (Zq (by omega)) (Za kc (Za (Zq (by omega)) (Za kb (Za (Zq (by omega)) (Za ka (Za (Xa ha3) (Za ka (Za hb0 (Zz kab)))))))))))) hv (by rfl) w
  ·by_cases hb3:3<cl b
   ·rw[if_pos (.inr (.inl hb3)),if_pos (.inr (.inl hb3))];by_cases b5:cl b=5
    ·by_cases c5:cl c=5
     ·rw[if_pos (by omega)];exact Zb T (Zyv a b c m) (Za (Z1 c5) (Za kc (Za (Z1 b5) (Za kb (Za (Zq (by omega)) (Za ka (Za (Xa hb3) (Za kb (Za (Xb ha3) (Za ka (Za hb0 (Zz kab)))))))))))) hv (by rfl) w
     ·rw[if_pos (by omega)];exact Zb T (Zyw a b c m) (Za (Zq (by omega)) (Za kc (Za (Zq (by omega)) (Za kc (Za (Z1 b5) (Za kb (Za (Zq (by omega)) (Za ka (Za (Xa hb3) (Za kb (Za (Xb ha3) (Za ka (Za hb0 (Zz kab)))))))))))))) hv (by rfl) w
    ·by_cases c5:cl c=5
     ·rw[if_pos (by omega)];exact Zb T (Zyx a b c m) (Za (Z1 c5) (Za kc (Za (Zq (by omega)) (Za kb (Za (Zq (by omega)) (Za ka (Za (Xa hb3) (Za kb (Za (Xb ha3) (Za ka (Za hb0 (Zz kab)))))))))))) hv (by rfl) w
     ·rw[if_neg (by omega)];exact Zb T (Zyy a b c m) (Za (Zq (by omega)) (Za kc (Za (Zq (by omega)) (Za kc (Za (Zq (by omega)) (Za kb (Za (Zq (by omega)) (Za ka (Za (Xa hb3) (Za kb (Za (Xb ha3) (Za ka (Za hb0 (Zz kab)))))))))))))) hv (by rfl) w
   ·by_cases hc3:3<cl c
    ·rw[if_pos (.inr (.inr hc3)),if_pos (.inr (.inr hc3))];by_cases c5:cl c=5
     ·rw[if_pos (by omega)];exact Zb T (Zyz a b c m) (Za (Z1 c5) (Za kc (Za (Zq (by omega)) (Za kb (Za (Zq (by omega)) (Za ka (Za (Xa hc3) (Za kc (Za (Xb hb3) (Za kb (Za (Xb ha3) (Za ka (Za hb0 (Zz kab)))))))))))))) hv (by rfl) w
     ·rw[if_neg (by omega)];exact Zb T (Zy0 a b c m) (Za (Zq (by omega)) (Za kc (Za (Zq (by omega)) (Za kc (Za (Zq (by omega)) (Za kb (Za (Zq (by omega)) (Za ka (Za (Xa hc3) (Za kc (Za (Xb hb3) (Za kb (Za (Xb ha3) (Za ka (Za hb0 (Zz kab)))))))))))))))) hv (by rfl) w
    ·have hno:¬ (3<cl a∨3<cl b∨3<cl c):=by omega
     rw[if_neg hno,if_neg hno];have ci:cl (sS (prN a b) inf)=3:=by cases prN a b<;>decide
     by_cases ae:cl a=3
     ·rw[if_pos (.inl ae),if_pos (.inl ae)];by_cases ce:cl c=3
      ·by_cases hc:c=sgB 9218868437227405312 a b
       ·obtain⟨p1,p2⟩:=ZcX (m:=m) (b:=c) ci (by omega) (fun h=>h.2 hc.symm);rw[p1,p2];exact Zb T (Zui a b c m) (Za (ZrT hc) (Za (Z1 (c2.1 ce)) (Za kc (Za (by decide) (Za (Z1 (a2.1 ae)) (Za ka (Za (Xb hc3) (Za kc (Za (Xb hb3) (Za kb (Za (Xb ha3) (Za ka (Za hb0 (Zz kab)))))))))))))) hv (by rfl) w
       ·obtain⟨p1,p2⟩:=ZhN (m:=m) (b:=c) ci ce (fun h=>hc h.symm);rw[p1,p2];exact Zb T (Zuj a b c m) (Za (ZrS hc) (Za (Z1 (c2.1 ce)) (Za kc (Za (by decide) (Za (Z1 (a2.1 ae)) (Za ka (Za (Xb hc3) (Za kc (Za (Xb hb3) (Za kb (Za (Xb ha3) (Za ka (Za hb0 (Zz kab)))))))))))))) hv (by rfl) w
      ·obtain⟨p1,p2⟩:=ZcX (m:=m) (b:=c) ci (by omega) (fun h=>ce h.1);rw[p1,p2];exact Zb T (Zy1 a b c m) (Za (Zq (fun e=>ce (c2.2 e))) (Za kc (Za (by decide) (Za (Z1 (a2.1 ae)) (Za ka (Za (Xb hc3) (Za kc (Za (Xb hb3) (Za kb (Za (Xb ha3) (Za ka (Za hb0 (Zz kab))))))))))))) hv (by rfl) w
     ·by_cases be:cl b=3
      ·rw[if_pos (.inr be),if_pos (.inr be)];by_cases ce:cl c=3
       ·by_cases hc:c=sgB 9218868437227405312 a b
        ·obtain⟨p1,p2⟩:=ZcX (m:=m) (b:=c) ci (by omega) (fun h=>h.2 hc.symm);rw[p1,p2];exact Zb T (Zuk a b c m) (Za (ZrT hc) (Za (Z1 (c2.1 ce)) (Za kc (Za (by decide) (Za (Z1 (b2.1 be)) (Za kb (Za (Zq (fun e=>ae (a2.2 e))) (Za ka (Za (Xb hc3) (Za kc (Za (Xb hb3) (Za kb (Za (Xb ha3) (Za ka (Za hb0 (Zz kab)))))))))))))))) hv (by rfl) w
        ·obtain⟨p1,p2⟩:=ZhN (m:=m) (b:=c) ci ce (fun h=>hc h.symm);rw[p1,p2];exact Zb T (Zul a b c m) (Za (ZrS hc) (Za (Z1 (c2.1 ce)) (Za kc (Za (by decide) (Za (Z1 (b2.1 be)) (Za kb (Za (Zq (fun e=>ae (a2.2 e))) (Za ka (Za (Xb hc3) (Za kc (Za (Xb hb3) (Za kb (Za (Xb ha3) (Za ka (Za hb0 (Zz kab)))))))))))))))) hv (by rfl) w
       ·obtain⟨p1,p2⟩:=ZcX (m:=m) (b:=c) ci (by omega) (fun h=>ce h.1);rw[p1,p2];exact Zb T (Zy2 a b c m) (Za (Zq (fun e=>ce (c2.2 e))) (Za kc (Za (by decide) (Za (Z1 (b2.1 be)) (Za kb (Za (Zq (fun e=>ae (a2.2 e))) (Za ka (Za (Xb hc3) (Za kc (Za (Xb hb3) (Za kb (Za (Xb ha3) (Za ka (Za hb0 (Zz kab))))))))))))))) hv (by rfl) w
      ·have hno2:¬ (cl a=3∨cl b=3):=by omega
       rw[if_neg hno2,if_neg hno2];by_cases ce:cl c=3
       ·rw[if_pos ce,if_pos ce];exact Zb T (Z2o a b c m) (Za (Z1 (c2.1 ce)) (Za kc (Za (Zq (fun e=>be (b2.2 e))) (Za kb (Za (Zq (fun e=>ae (a2.2 e))) (Za ka (Za (Xb hc3) (Za kc (Za (Xb hb3) (Za kb (Za (Xb ha3) (Za ka (Za hb0 (Zz kab)))))))))))))) hv (by rfl) w
       ·rw[if_neg ce,if_neg ce];by_cases hz:sM a b c=0
        ·have hp:=Zuo hz;have e1:fsP m a b c=0:=by unfold fsP;rw[hp];simp [rnP]
         have e2:fsF m a b c=0:=by unfold fsF;rw[hp];simp [rnF]
         have hf:=Z2p a b c m;rw[Zq8] at hf;rw[e1,e2];exact Zb T hf (Za (Xb (fun h=>h hz)) (Za (Zq7 a b c) (Za kc (Za kab (Za (Zq (fun e=>ce (c2.2 e))) (Za kc (Za (Zq (fun e=>be (b2.2 e))) (Za kb (Za (Zq (fun e=>ae (a2.2 e))) (Za ka (Za (Xb hc3) (Za kc (Za (Xb hb3) (Za kb (Za (Xb ha3) (Za ka (Za hb0 (Zz kab)))))))))))))))))) hv (by rfl) w
        ·have hf:=Z2q a b c m;have h2:(Zu9 a b c).blk? 2=some (wU (d16 (sM a b c).natAbs),tU):=rfl;have hr:=Zpy m (fsN m a b c) a b c;rw[Zq8,ZdL h2,hr.1,hr.2] at hf;exact Zb T hf (Za (Zy5 a b c) (Za (Xa hz) (Za (Zq7 a b c) (Za kc (Za kab (Za (Zq (fun e=>ce (c2.2 e))) (Za kc (Za (Zq (fun e=>be (b2.2 e))) (Za kb (Za (Zq (fun e=>ae (a2.2 e))) (Za ka (Za (Xb hc3) (Za kc (Za (Xb hb3) (Za kb (Za (Xb ha3) (Za ka (Za hb0 (Zz kab))))))))))))))))))) hv (by rfl) w
def gRM:Ans:=fun vals s=>
 match vals with
 | [.int .u64 a,.int .u64 b,.int .i64 m]=>some (raT (muP m a b) (muF m a b),s,[(decide (U a∧U b),true)])
 | _=>none
theorem Zy6:ZJ 16 gRM:=by
 intro vals s v s' lg h hl w;unfold gRM at h;split at h
 ·cases h;obtain⟨h1,h2⟩:=Xc (hl _ Xf);exact Zg7 _ _ _ h1 h2 w
 ·cases h
def gRF:Ans:=fun vals s=>
 match vals with
 | [.int .u64 a,.int .u64 b,.int .u64 c,.int .i64 m]=>some (raT (fmP m a b c) (fmF m a b c),s,[(decide (U a∧U b∧U c),true)])
 | _=>none
theorem Zy7:ZJ 20 gRF:=by
 intro vals s v s' lg h hl w;unfold gRF at h;split at h
 ·cases h;obtain⟨h1,h2,h3⟩:=Xc (hl _ Xf);exact Zg8 _ _ _ _ h1 h2 h3 w
 ·cases h
end Go.Proofs.YtekebccjflilnaaGreat
namespace Go.Proofs.YtekebccjflilnaaGreat
open Go.KRun Go.Wd Go.Pt Go.Rn
set_option maxRecDepth 100000
theorem Zg9 (m:Int) (n:Bool) (T:Nat) (E:Int):0≤rnF m n T E∧rnF m n T E≤24:=by
 unfold rnF;split
 ·omega
 ·split
  ·omega
  ·split
   ·split<;>omega
   ·omega
theorem Zup (m a b:Int):0≤suF m a b∧suF m a b≤24:=by
 have h':0≤adF m a b∧adF m a b≤24:=Zg9 _ _ _ _;unfold suF;split
 ·split<;>omega
 ·split
  ·split<;>omega
  ·split<;>omega
theorem Zy8 (m a b:Int):0≤muF m a b∧muF m a b≤24:=by
 have h':0≤mlF m a b∧mlF m a b≤24:=Zg9 _ _ _ _;unfold muF;split
 ·omega
 ·split
  ·split<;>omega
  ·split<;>omega
theorem Zy9 (m a b c:Int):0≤fmF m a b c∧fmF m a b c≤24:=by
 have h':0≤fsF m a b c∧fsF m a b c≤24:=Zg9 _ _ _ _;unfold fmF;split
 ·omega
 ·split
  ·split<;>omega
  ·split
   ·exact Zup _ _ _
   ·split<;>omega
end Go.Proofs.YtekebccjflilnaaGreat
namespace Go.Proofs.YtekebccjflilnaaGreat
open Go.Proofs.Tryz
open Go.IntKind
open Go.KRun Go.Wd Go.Pt Go.Rn
set_option maxRecDepth 100000
def orB (f g:Int):Int:=u8.wrap ((BitVec.ofInt IntKind.u8.bits f ||| BitVec.ofInt IntKind.u8.bits g).toNat:Nat)
def orI (f g:Int):Int:=i64.wrap ((BitVec.ofInt IntKind.i64.bits f ||| BitVec.ofInt IntKind.i64.bits g).toNat:Nat)
def cpB (p q f:Int):Value:= .tuple #[.agg #[.int .u64 p,.int .u64 q],.int .u8 f]
def cpI (p q f:Int):Value:= .tuple #[.agg #[.int .u64 p,.int .u64 q],.int .i64 f]
abbrev fl5 (f:Int):Prop:=0≤f∧f<32
theorem ZgA {f g:Int}(hf:fl5 f) (hg:fl5 g):orB f g=orI f g∧fl5 (orB f g):=by
 obtain⟨x,rfl⟩:∃ x:Fin 32,f=(x.val:Int):=⟨⟨f.toNat,by unfold fl5 at hf;omega⟩,by unfold fl5 at hf;simp;omega⟩;obtain⟨y,rfl⟩:∃ y:Fin 32,g=(y.val:Int):=⟨⟨g.toNat,by unfold fl5 at hg;omega⟩,by unfold fl5 at hg;simp;omega⟩;have h:∀ x y:Fin 32,decide (orB (x.val:Int) (y.val:Int)=orI (x.val:Int) (y.val:Int))=true∧decide (0≤orB (x.val:Int) (y.val:Int)∧orB (x.val:Int) (y.val:Int)<32)=true:=by decide+kernel
 exact⟨Xc (h x y).1,Xc (h x y).2⟩
theorem Z2s (p:Int):Zw (Ze (Zi prog Zh Zo true) 300 52 [.int .u64 p] []) (.int .u64 (Zf1 p 9223372036854775808)) []:=by and_intros<;>kernel_rfl
theorem Zm0 (p:Int) (hp:U p) (w:World):Calls prog 52 #[.int .u64 p] w fun r w'=>r= .returned (.int .u64 (ng p))∧zg w w':=by
 have hv:([.int .u64 p].all (lt 0))=true:=rfl;rw[← Zua hp];exact Zb (Zf Zd) (Z2s p) (fun _ h=>by cases h) hv (by rfl) w
def Zpz:Con:=alt 52 (gU fun p=> .int .u64 (ng p)) Zo
theorem Zfd:ConOk Zpz:=Zy func52 rfl (Zir Zm0) Zd
def Zjd:Con:=alt 14 gPM (alt 19 gPF (alt 16 gRM (alt 20 gRF Zpz)))
theorem Zck:ConOk Zjd:=Zy func14 rfl ZxU (Zy func19 rfl ZxY (Zy func16 rfl Zy6 (Zy func20 rfl Zy7 Zfd)))
def pX (a b:Int):Value:= .agg #[.int .u64 a,.int .u64 b]
def gXY (k:Int→Int→Int→Int→Value):Ans:=fun vals s=>
 match vals with
 | [.agg ⟨[.int .u64 a,.int .u64 b]⟩,.agg ⟨[.int .u64 c,.int .u64 d]⟩]=>some (k a b c d,s,[(decide (U a∧U b∧U c∧U d),true)])
 | _=>none
theorem ZyA {f:Nat}{k:Int→Int→Int→Int→Value}(hk:∀ a b c d:Int,U a→U b→U c→U d→∀ w,Calls prog f #[pX a b,pX c d] w fun e w'=>e= .returned (k a b c d)∧zg w w'):ZJ f (gXY k):=by
 intro vals s v s' lg h hl w;unfold gXY at h;split at h
 ·cases h;obtain⟨h1,h2,h3,h4⟩:=Xc (hl _ Xf);exact hk _ _ _ _ h1 h2 h3 h4 w
 ·cases h
def reP (a b c d:Int):Int:=fmP 0 a c (ng (muP 0 b d))
def imP (a b c d:Int):Int:=fmP 0 a d (muP 0 b c)
def cmV (a b c d:Int):Value:=cpB (reP a b c d) (imP a b c d) (orB (orB (orB (muF 0 b d) (fmF 0 a c (ng (muP 0 b d)))) (muF 0 b c)) (fmF 0 a d (muP 0 b c)))
theorem cm (a b c d:Int):Zw (Ze (Zi prog Zh Zjd true) 300 21 [.agg #[.int .u64 a,.int .u64 b],.agg #[.int .u64 c,.int .u64 d]] []) (cpB (fmP 0 a c (ng (muP 0 b d))) (fmP 0 a d (muP 0 b c)) (orB (orB (orB (muF 0 b d) (fmF 0 a c (ng (muP 0 b d)))) (muF 0 b c)) (fmF 0 a d (muP 0 b c)))) [(decide (U a∧U d∧U (muP 0 b c)),true),(decide (U b∧U c),true),(decide (U a∧U c∧U (ng (muP 0 b d))),true),(decide (U (muP 0 b d)),true),(decide (U b∧U d),true)]:=by and_intros<;>kernel_rfl
theorem Zp0 (a b c d:Int) (ha:U a) (hb:U b) (hc:U c) (hd:U d) (w:World):Calls prog 21 #[pX a b,pX c d] w fun r w'=>r= .returned (cmV a b c d)∧zg w w':=
 Zb (Zf Zck) (cm a b c d) (Za (Xa ⟨ha,hd,Z1X _ _ _⟩) (Za (Xa ⟨hb,hc⟩) (Za (Xa ⟨ha,hc,(ZnI (Z1X 0 b d)).1⟩) (Za (Xa (Z1X 0 b d)) (Zz (Xa ⟨hb,hd⟩)))))) rfl (by rfl) w
def gIs:Ans:=fun vals s=>
 match vals with
 | [.agg ⟨[.int .u64 a,.int .u64 b]⟩,.int .u8 f,.agg ⟨[.int .u64 c,.int .u64 d]⟩,.int .i64 g]=>some (.bool true,s,[(decide (a=c∧b=d∧f=g∧0≤f∧f<32),true)])
 | _=>none
theorem Z3w (a b f:Int):Zw (Ze (Zi prog Zh Zo true) 300 11 [.agg #[.int .u64 a,.int .u64 b],.int .u8 f,.agg #[.int .u64 a,.int .u64 b],.int .i64 f] [sam true,cmp true]) (.bool true) [(i64.wrap f==f,true),(a==a && (b==b && true),true)]:=by and_intros<;>kernel_rfl
theorem ZyB:ZJ 11 gIs:=by
 intro vals s v s' lg h hl w;unfold gIs at h;split at h
 ·cases h;obtain⟨rfl,rfl,rfl,h4,h5⟩:=Xc (hl _ Xf);exact Zb (Zf Zd) (Z3w _ _ _) (Za (Z1 (ZY ⟨by omega,by omega⟩)) (Zz (by simp))) rfl (by rfl) w
 ·cases h
end Go.Proofs.YtekebccjflilnaaGreat
namespace Go.Proofs.YtekebccjflilnaaGreat
open Go.Proofs.Tryz
open Go.KRun Go.Wd Go.Pt Go.Rn
set_option maxRecDepth 100000
def Zuq:Con:=alt 21 (gXY cmV) Zpz
theorem ZhU:ConOk Zuq:=Zy func21 rfl (ZyA Zp0) Zfd
theorem ZyC:reP 4607182418800017408 4607182418800017408 4607182418800017408 4607182418800017408=0∧imP 4607182418800017408 4607182418800017408 4607182418800017408 4607182418800017408=4611686018427387904∧muF 0 4607182418800017408 4607182418800017408=0∧fmF 0 4607182418800017408 4607182418800017408 (ng (muP 0 4607182418800017408 4607182418800017408))=0∧fmF 0 4607182418800017408 4607182418800017408 (muP 0 4607182418800017408 4607182418800017408)=0:=⟨by kernel_rfl,by kernel_rfl,by kernel_rfl,by kernel_rfl,by kernel_rfl⟩
theorem ZyD:Zw (Ze (Zi prog Zh Zuq true) 300 12 [] [sam true,cmp true]) (.bool true) [(orB (orB (orB (muF 0 4607182418800017408 4607182418800017408) (fmF 0 4607182418800017408 4607182418800017408 (ng (muP 0 4607182418800017408 4607182418800017408)))) (muF 0 4607182418800017408 4607182418800017408)) (fmF 0 4607182418800017408 4607182418800017408 (muP 0 4607182418800017408 4607182418800017408))==0,true),(reP 4607182418800017408 4607182418800017408 4607182418800017408 4607182418800017408==0 && (imP 4607182418800017408 4607182418800017408 4607182418800017408 4607182418800017408==4611686018427387904 && true),true),(decide (U 4607182418800017408∧U 4607182418800017408∧U 4607182418800017408∧U 4607182418800017408),true)]:=by and_intros<;>kernel_rfl
def ZgB:Ans:=fun vals s=>match vals with | []=>some (.bool true,s,[]) | _=>none
theorem Zje:ZJ 12 ZgB:=by
 intro vals s v s' lg h hl w;unfold ZgB at h;split at h
 ·cases h;obtain⟨s1,s2,s3,s4,s5⟩:=ZyC;exact Zb (Zf ZhU) ZyD (Za (Z1 (by rw[s3,s4,s5];rfl)) (Za (by rw[s1,s2];rfl) (Zz (by decide)))) (by rfl) (by rfl) w
 ·cases h
def ZyE:Con:=alt 12 ZgB Zuq
theorem Zp1:ConOk ZyE:=Zy func12 rfl Zje ZhU
theorem ZyF (m a b:Int):fl5 (muF m a b):=by have:=Zy8 m a b;unfold fl5;omega
theorem ZyG (m a b c:Int):fl5 (fmF m a b c):=by have:=Zy9 m a b c;unfold fl5;omega
theorem Zm1 {p q f g:Int}(h:f=g∧fl5 f):decide (p=p∧q=q∧f=g∧0≤f∧f<32)=true:=Xa ⟨rfl,rfl,h.1,h.2.1,h.2.2⟩
end Go.Proofs.YtekebccjflilnaaGreat
