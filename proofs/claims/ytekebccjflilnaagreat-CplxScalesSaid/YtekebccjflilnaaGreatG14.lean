/-
  SuE, SuG, PtA, SuH, SuN, SuI, NumI, ConVG, ConVH, SuP, PrR, PrX, PrY
-/
import Derived.Test.YtekebccjflilnaaGreatG13
namespace Go.Proofs.YtekebccjflilnaaGreat
open Go.Proofs.Tryz
open Go.KRun Go.Nt Go.Wd Go.Rn
set_option maxRecDepth 100000
set_option linter.unusedVariables false
def ZwV (b:Nat) (l:List Value) (o c:Nat) (A:List Int):Prop:=∀ h:Hp,h.blk? b=some (l,tR)→zS h (some ⟨b,o,none⟩) A.length c=true∧Zu h (some ⟨b,o,none⟩) A.length=A
theorem ZlK (b:Nat) {ty:TypeId}{l:List Value}{o n c:Nat}(r:ZaK ty l o n c=true) (hs:∀ v∈l,still v=true):ZwV b l o c (zu l o n):=by
 intro h hb;have e2:=(ZU r).2.1;constructor
 ·rw[e2];unfold zS;simp only[hb];unfold ZaK at r ⊢;simp only[Xh,Bool.not_eq_true'] at r ⊢;obtain⟨⟨⟨⟨⟨⟨h1,h2⟩,h3⟩,h4⟩,h5⟩,h6⟩,h7⟩:=r;exact⟨⟨⟨⟨⟨⟨⟨by kernel_rfl,by kernel_rfl⟩,h3⟩,h4⟩,h5⟩,h6⟩,h7⟩,List.all_eq_true.2 hs⟩
 ·rw[e2];unfold Zu;simp only[hb]
theorem Zg2 {b:Nat}{l:List Value}{o c:Nat}{A:List Int}(hF:ZwV b l o c A) {h:Hp}(hh:h.blk? b=some (l,tR)):vO h (ad b o) A.length=vb 65536 A:=by
 unfold vO ad;rw[(hF h hh).2]
def Zce (Ex Ey:Int) (n n':Nat):Int:=if n'=0 then Ex else if n=0 then Ey else Zl Ex Ey
def smS (nx ny:Bool) (Ex Ey:Int) (n n' X Y:Nat):Int:=smI (Zce Ex Ey n n') nx Ex X ny Ey Y
def ZoP (F:Func) (V:Int) (sg:Bool) (low:Int) (z:Lf):Prop:=(V≠0→∃ k,Zau prog F z.1 z.2.1=some (vRN sg low (sOf k V.natAbs))∧∃ r,z.2.1.blk? k=some (wU (d16 V.natAbs)++r,tU))∧(V=0→Zau prog F z.1 z.2.1=some (vRN sg low Zn))
theorem ZhA (E:Int) (X:Nat):szF E E X=X:=by unfold szF;rw[Int.sub_self];simp
theorem Zbu (F E:Int):szF F E 0=0:=by unfold szF;simp
theorem Zc4 (n:Bool):sgI n 0=0:=by cases n<;>rfl
theorem ZlL {M:Int}{nx ny n:Bool}{A:Nat}(hA:A≠0):sgS M nx ny (sgI n A)=n:=by
 obtain⟨h1,h2⟩:=Zgu (n:=n) hA;unfold sgS;rw[if_neg h2,h1]
theorem ZhB {A:List Int}(hC:Zap 65536 A):vb 65536 A=0↔A.length=0:=by
 constructor
 ·intro h;by_cases h0:A=[]
  ·rw[h0];rfl
  ·exact absurd h (Zqs hC h0)
 ·intro h;rw[List.length_eq_zero_iff.1 h];rfl
theorem ZwW {A:List Int}(hC:Zap 65536 A) {k:Nat}(h:A.length≤k):vb 65536 A<2^(16*k):=by
 have h1:=Zcu (b:=65536) (by omega) A hC.1;rw[ZdH] at h1;exact Nat.lt_of_lt_of_le h1 (Nat.pow_le_pow_right (by omega) (by omega))
theorem ZlM {V n j:Nat}(h:V<2^(16*n)):(d16 (V*2^j)).length≤n+j/16+1:=by
 refine zI ?_;have hp:0<2^j:=Nat.pow_pos (by omega);have h2:=Nat.mul_lt_mul_of_pos_right h hp;rw[← Nat.pow_add] at h2;exact Nat.lt_of_lt_of_le h2 (Nat.pow_le_pow_right (by omega) (by omega))
theorem ZhC {x y:Int}(h: -400000≤x∧x≤400000) (h': -400000≤y∧y≤400000):dif x y=x-y:=by unfold dif;rw[ZL (by omega) (by omega)]
section
variable {la lb : List Value} {o c o' c' : Nat} {A B : List Int}
theorem ZoQ {h:Hp}{b A:Nat}(hb:h.blk? b=some (wU (d16 A),tU)) (hl:(d16 A).length<1073741800):Z6 h (some ⟨b,0,none⟩) none (d16 A).length (d16 A).length 0 0=true:=by
 unfold Z6;rw[ZE hb (by omega),Zaa hb,Zk.2 (by omega)];rfl
theorem ZcW {b n:Nat}{l:List Value}{o c:Nat}{A:List Int}(hF:ZwV b l o c A) (hC:Zap 65536 A) (hn:A.length<1000000) {h:Hp}(hh:h.blk? b=some (l,tR)) {k:Int}(h0:0≤k) (h1:k≤1000000):ZM h (ad b o) A.length c k=true:=by
 unfold ZM ad;rw[(hF h hh).1,(hF h hh).2,ZaZ hC.1,Zk.2 (by omega),Xa h0];rfl
theorem Zg3 {n:Nat}(h:n=0):(((n:Nat):Int)==0)=true:=by rw[h];rfl
theorem ZdK {n:Nat}(h:n≠0):(((n:Nat):Int)==0)=false:=by simpa using h
theorem ZyW {n:Nat}(h:n≠0):decide (((n:Nat):Int)>0)=true:=Xa (by omega)
theorem Z24 {n:Nat}(h:n=0):decide (((n:Nat):Int)>0)=false:=Xb (by omega)
theorem ZdL {h:Hp}{b A:Nat}(hb:h.blk? b=some (wU (d16 A),tU)):vO h (ad b 0) (d16 A).length=A:=zq hb
theorem zV {F:Func}{S:Int}{V k:Nat}{sg:Bool}{low:Int}{z:Lf}(hS:S≠0) (hV:S.natAbs=V) (hr:Zau prog F z.1 z.2.1=some (vRN sg low (sOf k V))) (hb:z.2.1.blk? k=some (wU (d16 V),tU)):ZoP F S sg low z:=
 ⟨fun _=>⟨k,by rw[hV];exact hr,[],by rw[hV,List.append_nil];exact hb⟩,fun h=>absurd h hS⟩
theorem ZoR (hF:ZwV 0 la o c A) (hG:ZwV 1 lb o' c' B) (cA:Zap 65536 A) (cB:Zap 65536 B) (lA:A.length<20000) (lB:B.length<20000) {nx ny:Bool}{Ex Ey:Int}(hE: -400000≤Ex∧Ex≤400000) (hE': -400000≤Ey∧Ey≤400000) (M:Int):
  RunsW (Zp prog Zh Zo hcW) (Zv f50) ([vRN nx Ex (sl 0 o A.length c),vRN ny Ey (sl 1 o' B.length c'),.int .i64 M]++List.replicate 123 undef,h2 la lb,[]) fun ex z=>(ex=none∨ex=some none)∧
   ZoP f50 (smS nx ny Ex Ey A.length B.length (vb 65536 A) (vb 65536 B)) (sgS M nx ny (smS nx ny Ex Ey A.length B.length (vb 65536 A) (vb 65536 B))) (Zce Ex Ey A.length B.length) z:=by
 have zA:=ZhB cA;have zB:=ZhB cB;have hb0:(hM nx Ex o A.length c ny Ey o' B.length c' la lb).blk? 0=some (la,tR):=rfl;have hb1:(hM nx Ex o A.length c ny Ey o' B.length c' la lb).blk? 1=some (lb,tR):=rfl;have vA:=Zg2 hF hb0;have vB:=Zg2 hG hb1;have dX:=ZhC hE hE;have dY:=ZhC hE' hE';rw[Int.sub_self] at dX dY;have bA:=ZwW cA (Nat.le_refl A.length);have bB:=ZwW cB (Nat.le_refl B.length);by_cases nB:B.length=0
 ·by_cases nA:A.length=0
  ·
   have hlow:Zce Ex Ey A.length B.length=Ex:=by unfold Zce;rw[if_pos nB]
   have hS:smS nx ny Ex Ey A.length B.length (vb 65536 A) (vb 65536 B)=0:=by
    unfold smS smI;rw[zA.2 nA,zB.2 nB,Zbu,Zbu,Zc4,Zc4];rfl
   rw[hS,hlow];have okz:Zx [(((B.length:Nat):Int)==0,true),(((A.length:Nat):Int)==0,true),(((B.length:Nat):Int)==0,true),(((A.length:Nat):Int)==0,true)]:=Za (Zg3 nB) (Za (Zg3 nA) (Za (Zg3 nB) (Zz (Zg3 nA))));have fin:∀ {sg:Bool}{ex:Go.KRun.Ex}{z:Lf},sgS M nx ny 0=sg→(ex=some none∧(∃ g,z.1=[vRN nx Ex (sl 0 o A.length c),vRN ny Ey (sl 1 o' B.length c'),.int .i64 M,.pointer (some ⟨2,0,none⟩),.pointer (some ⟨3,0,none⟩),undef,.pointer (some ⟨4,0,none⟩)]++tl 119 g)∧z.2.1=⟨5,[bOf sg Ex Zn,bOf ny Ey (sl 1 o' B.length c'),bOf nx Ex (sl 0 o A.length c),(lb,tR),(la,tR)]⟩)→(ex=none∨ex=some none)∧ZoP f50 0 (sgS M nx ny 0) Ex z:=fun hs hz=>by
    obtain⟨rfl,⟨g,z1⟩,z2⟩:=hz;refine⟨.inr rfl,(fun h=>absurd rfl h),fun _=> ?_⟩;rw[hs,z1,z2];rfl
   have e0:sgS M nx ny 0=if nx=ny then nx else decide (M=4):=by unfold sgS;rw[if_pos rfl]
   cases nx<;>cases ny
   ·exact (Zc (Zg Zd Z4) (Z2Q Ex Ey M o A.length c o' B.length c' la lb) okz).mono fun ex z hz=>fin (by rw[e0];rfl) hz
   ·exact (Zc (Zg Zd Z4) (Z2U Ex Ey M o A.length c o' B.length c' la lb) okz).mono fun ex z hz=>fin (by rw[e0];rfl) hz
   ·exact (Zc (Zg Zd Z4) (Z3a Ex Ey M o A.length c o' B.length c' la lb) okz).mono fun ex z hz=>fin (by rw[e0];rfl) hz
   ·exact (Zc (Zg Zd Z4) (Z3g Ex Ey M o A.length c o' B.length c' la lb) okz).mono fun ex z hz=>fin (by rw[e0];rfl) hz
  ·
   have hlow:Zce Ex Ey A.length B.length=Ex:=by unfold Zce;rw[if_pos nB]
   have hX:vb 65536 A≠0:=fun h=>nA (zA.1 h);have hS:smS nx ny Ex Ey A.length B.length (vb 65536 A) (vb 65536 B)=sgI nx (vb 65536 A):=by
    unfold smS smI;rw[hlow,zB.2 nB,ZhA,Zbu,Zc4,Int.add_zero]
   obtain⟨_,hS0⟩:=Zgu (n:=nx) hX;have hab:=ZkQ nx (vb 65536 A);rw[hS,hlow,ZlL hX];have eA:vO (hM nx Ex o A.length c ny Ey o' B.length c' la lb) (ad 0 o) A.length*2^(dif Ex Ex).toNat=vb 65536 A:=by rw[vA,dX];simp
   have hb5:(nxt (hM nx Ex o A.length c ny Ey o' B.length c' la lb) (vb 65536 A)).blk? 5=some (wU (d16 (vb 65536 A)),tU):=rfl;have eV:vO (nxt (hM nx Ex o A.length c ny Ey o' B.length c' la lb) (vb 65536 A)) (ad 5 0) (d16 (vb 65536 A)).length+vO (nxt (hM nx Ex o A.length c ny Ey o' B.length c' la lb) (vb 65536 A)) none 0=vb 65536 A:=by rw[ZdL hb5,Zd7];rfl
   have hd0:(d16 (vb 65536 A)).length≠0:=fun h=>hX (ZaW (by omega));have hdl:(d16 (vb 65536 A)).length≤A.length:=zI bA;have k1:=ZoQ hb5 (by omega);have k2:decide (0<(d16 (vb 65536 A)).length∨0<0)=true:=Xa (.inl (by omega));have k3:(((((d16 (vb 65536 A)).length):Nat):Int)==0)=false:=ZdK hd0;have k4:ZM (hM nx Ex o A.length c ny Ey o' B.length c' la lb) (ad 0 o) A.length c (dif Ex Ex)=true:=ZcW (n:=0) hF cA (by omega) hb0 (by omega) (by omega);have k5:decide (0<A.length)=true:=Xa (by omega);have lg:Zx [(decide (((B.length:Nat):Int)>0),false),(ZM (hM nx Ex o A.length c ny Ey o' B.length c' la lb) (ad 0 o) A.length c (dif Ex Ex),true),(decide (0<A.length),true),(decide (((A.length:Nat):Int)>0),true),(((A.length:Nat):Int)==0,false),(((B.length:Nat):Int)==0,true),(((A.length:Nat):Int)==0,false)]:=
    Za (Z24 nB) (Za k4 (Za k5 (Za (ZyW nA) (Za (ZdK nA) (Za (Zg3 nB) (Zz (ZdK nA)))))))
   cases nx<;>cases ny
   ·have hw:=Z2S Ex Ey M o A.length c o' B.length c' la lb;rw[eA,eV] at hw;refine (Zc (Zg Zd Z4) hw (Za k1 (Za k2 (Za k3 lg)))).mono fun ex z hz=> ?_;obtain⟨rfl,⟨g,z1⟩,z2⟩:=hz;exact⟨.inr rfl,zV (k:=6) hS0 hab (by rw[z1,z2];rfl) (by rw[z2];rfl)⟩
   ·have hw:=Z2W Ex Ey M o A.length c o' B.length c' la lb;rw[eA,eV] at hw;refine (Zc (Zg Zd Z4) hw (Za k1 (Za k2 (Za k3 (Za rfl (Za k3 lg)))))).mono fun ex z hz=> ?_;obtain⟨rfl,⟨g,z1⟩,z2⟩:=hz;exact⟨.inr rfl,zV (k:=6) hS0 hab (by rw[z1,z2];rfl) (by rw[z2];rfl)⟩
   ·have hw:=Z3c Ex Ey M o A.length c o' B.length c' la lb;rw[eA,eV] at hw;refine (Zc (Zg Zd Z4) hw (Za k1 (Za k2 (Za k3 (Za rfl (Za k3 lg)))))).mono fun ex z hz=> ?_;obtain⟨rfl,⟨g,z1⟩,z2⟩:=hz;exact⟨.inr rfl,zV (k:=6) hS0 hab (by rw[z1,z2];rfl) (by rw[z2];rfl)⟩
   ·have hw:=Z3i Ex Ey M o A.length c o' B.length c' la lb;rw[eA,eV] at hw;refine (Zc (Zg Zd Z4) hw (Za k1 (Za k2 (Za k3 lg)))).mono fun ex z hz=> ?_;obtain⟨rfl,⟨g,z1⟩,z2⟩:=hz;exact⟨.inr rfl,zV (k:=6) hS0 hab (by rw[z1,z2];rfl) (by rw[z2];rfl)⟩
 ·by_cases nA:A.length=0
  ·
   have hlow:Zce Ex Ey A.length B.length=Ey:=by unfold Zce;rw[if_neg nB,if_pos nA]
   have hX:vb 65536 B≠0:=fun h=>nB (zB.1 h);have hS:smS nx ny Ex Ey A.length B.length (vb 65536 A) (vb 65536 B)=sgI ny (vb 65536 B):=by
    unfold smS smI;rw[hlow,zA.2 nA,ZhA,Zbu,Zc4,Int.zero_add]
   obtain⟨_,hS0⟩:=Zgu (n:=ny) hX;have hab:=ZkQ ny (vb 65536 B);rw[hS,hlow,ZlL hX];have eA:vO (hM nx Ex o A.length c ny Ey o' B.length c' la lb) (ad 1 o') B.length*2^(dif Ey Ey).toNat=vb 65536 B:=by rw[vB,dY];simp
   have hb5:(nxt (hM nx Ex o A.length c ny Ey o' B.length c' la lb) (vb 65536 B)).blk? 5=some (wU (d16 (vb 65536 B)),tU):=rfl;have eV:vO (nxt (hM nx Ex o A.length c ny Ey o' B.length c' la lb) (vb 65536 B)) none 0+vO (nxt (hM nx Ex o A.length c ny Ey o' B.length c' la lb) (vb 65536 B)) (ad 5 0) (d16 (vb 65536 B)).length=vb 65536 B:=by rw[ZdL hb5,Zd7,Nat.zero_add]
   have hd0:(d16 (vb 65536 B)).length≠0:=fun h=>hX (ZaW (by omega));have hdl:(d16 (vb 65536 B)).length≤B.length:=zI bB;have k1:=ZlC hb5 (by omega);have k2:decide (0<0∨0<(d16 (vb 65536 B)).length)=true:=Xa (.inr (by omega));have k4:ZM (hM nx Ex o A.length c ny Ey o' B.length c' la lb) (ad 1 o') B.length c' (dif Ey Ey)=true:=ZcW (n:=0) hG cB (by omega) hb1 (by omega) (by omega);have k5:decide (0<B.length)=true:=Xa (by omega);have lg:Zx [(ZM (hM nx Ex o A.length c ny Ey o' B.length c' la lb) (ad 1 o') B.length c' (dif Ey Ey),true),(decide (0<B.length),true),(decide (((B.length:Nat):Int)>0),true),(decide (((A.length:Nat):Int)>0),false),(((B.length:Nat):Int)==0,false),(((A.length:Nat):Int)==0,true),(((B.length:Nat):Int)==0,false),(((A.length:Nat):Int)==0,true)]:=
    Za k4 (Za k5 (Za (ZyW nB) (Za (Z24 nA) (Za (ZdK nB) (Za (Zg3 nA) (Za (ZdK nB) (Zz (Zg3 nA))))))))
   cases nx<;>cases ny
   ·have hw:=Z2R Ex Ey M o A.length c o' B.length c' la lb;rw[eA,eV] at hw;refine (Zc (Zg Zd Z4) hw (Za k1 (Za k2 (Za rfl lg)))).mono fun ex z hz=> ?_;obtain⟨rfl,⟨g,z1⟩,z2⟩:=hz;exact⟨.inr rfl,zV (k:=6) hS0 hab (by rw[z1,z2];rfl) (by rw[z2];rfl)⟩
   ·have hw:=Z2V Ex Ey M o A.length c o' B.length c' la lb;rw[eA,eV] at hw;refine (Zc (Zg Zd Z4) hw (Za k1 (Za k2 (Za rfl (Za rfl lg))))).mono fun ex z hz=> ?_;obtain⟨rfl,⟨g,z1⟩,z2⟩:=hz;exact⟨.inr rfl,zV (k:=6) hS0 hab (by rw[z1,z2];rfl) (by rw[z2];rfl)⟩
   ·have hw:=Z3b Ex Ey M o A.length c o' B.length c' la lb;rw[eA,eV] at hw;refine (Zc (Zg Zd Z4) hw (Za k1 (Za k2 (Za rfl (Za rfl lg))))).mono fun ex z hz=> ?_;obtain⟨rfl,⟨g,z1⟩,z2⟩:=hz;exact⟨.inr rfl,zV (k:=6) hS0 hab (by rw[z1,z2];rfl) (by rw[z2];rfl)⟩
   ·have hw:=Z3h Ex Ey M o A.length c o' B.length c' la lb;rw[eA,eV] at hw;refine (Zc (Zg Zd Z4) hw (Za k1 (Za k2 (Za rfl lg)))).mono fun ex z hz=> ?_;obtain⟨rfl,⟨g,z1⟩,z2⟩:=hz;exact⟨.inr rfl,zV (k:=6) hS0 hab (by rw[z1,z2];rfl) (by rw[z2];rfl)⟩
  ·
   have hlow:Zce Ex Ey A.length B.length=Zl Ex Ey:=by unfold Zce;rw[if_neg nB,if_neg nA]
   have hm:Zl Ex Ey≤Ex∧Zl Ex Ey≤Ey∧ -400000≤Zl Ex Ey:=by unfold Zl;split<;>omega
   have d1:=ZhC hE (show -400000≤Zl Ex Ey∧Zl Ex Ey≤400000 from ⟨hm.2.2,by omega⟩);have d2:=ZhC hE' (show -400000≤Zl Ex Ey∧Zl Ex Ey≤400000 from ⟨hm.2.2,by omega⟩);obtain⟨PA,hPA⟩:∃ PA,PA=szF (Zl Ex Ey) Ex (vb 65536 A):=⟨_,rfl⟩;obtain⟨PB,hPB⟩:∃ PB,PB=szF (Zl Ex Ey) Ey (vb 65536 B):=⟨_,rfl⟩;have hA0:PA≠0:=by
    rw[hPA];unfold szF;exact Nat.mul_ne_zero (fun h=>nA (zA.1 h)) (Nat.pos_iff_ne_zero.1 (Nat.pow_pos (by omega)))
   have hB0:PB≠0:=by
    rw[hPB];unfold szF;exact Nat.mul_ne_zero (fun h=>nB (zB.1 h)) (Nat.pos_iff_ne_zero.1 (Nat.pow_pos (by omega)))
   have hS:smS nx ny Ex Ey A.length B.length (vb 65536 A) (vb 65536 B)=sgI nx PA+sgI ny PB:=by
    unfold smS smI;rw[hlow,← hPA,← hPB]
   rw[hS,hlow];have eA:vO (hM nx Ex o A.length c ny Ey o' B.length c' la lb) (ad 0 o) A.length*2^(dif Ex (Zl Ex Ey)).toNat=PA:=by rw[vA,d1,hPA];rfl
   have hb1':(nxt (hM nx Ex o A.length c ny Ey o' B.length c' la lb) PA).blk? 1=some (lb,tR):=rfl;have eB:vO (nxt (hM nx Ex o A.length c ny Ey o' B.length c' la lb) PA) (ad 1 o') B.length*2^(dif Ey (Zl Ex Ey)).toNat=PB:=by rw[Zg2 hG hb1',d2,hPB];rfl
   have hb5:(nxt (nxt (hM nx Ex o A.length c ny Ey o' B.length c' la lb) PA) PB).blk? 5=some (wU (d16 PA),tU):=rfl;have hb6:(nxt (nxt (hM nx Ex o A.length c ny Ey o' B.length c' la lb) PA) PB).blk? 6=some (wU (d16 PB),tU):=rfl;have eVA:=ZdL hb5;have eVB:=ZdL hb6;have la0:(d16 PA).length≠0:=fun h=>hA0 (ZaW (by omega));have lb0:(d16 PB).length≠0:=fun h=>hB0 (ZaW (by omega));have hda:(d16 PA).length≤100000:=by
    rw[hPA];unfold szF;have:=ZlM (j:=(Ex-Zl Ex Ey).toNat) bA;omega
   have hdb:(d16 PB).length≤100000:=by
    rw[hPB];unfold szF;have:=ZlM (j:=(Ey-Zl Ex Ey).toNat) bB;omega
   have k1:=Zc2 hb5 hb6 (by omega) (by omega);have k1':=Zc2 hb6 hb5 (by omega) (by omega);have k2:decide (0<(d16 PA).length∨0<(d16 PB).length)=true:=Xa (.inl (by omega));have k3:(((((d16 PA).length):Nat):Int)==0)=false:=ZdK la0;have k3':(((((d16 PB).length):Nat):Int)==0)=false:=ZdK lb0;have k4:ZM (hM nx Ex o A.length c ny Ey o' B.length c' la lb) (ad 0 o) A.length c (dif Ex (Zl Ex Ey))=true:=ZcW (n:=0) hF cA (by omega) hb0 (by omega) (by omega);have k5:ZM (nxt (hM nx Ex o A.length c ny Ey o' B.length c' la lb) PA) (ad 1 o') B.length c' (dif Ey (Zl Ex Ey))=true:=ZcW (n:=0) hG cB (by omega) hb1' (by omega) (by omega);have lg:Zx [(ZM (nxt (hM nx Ex o A.length c ny Ey o' B.length c' la lb) PA) (ad 1 o') B.length c' (dif Ey (Zl Ex Ey)),true),(decide (0<B.length),true),(decide (((B.length:Nat):Int)>0),true),(ZM (hM nx Ex o A.length c ny Ey o' B.length c' la lb) (ad 0 o) A.length c (dif Ex (Zl Ex Ey)),true),(decide (0<A.length),true),(decide (((A.length:Nat):Int)>0),true),(((A.length:Nat):Int)==0,false),(((B.length:Nat):Int)==0,false),(((A.length:Nat):Int)==0,false)]:=
    Za k5 (Za (Xa (by omega)) (Za (ZyW nB) (Za k4 (Za (Xa (by omega)) (Za (ZyW nA) (Za (ZdK nA) (Za (ZdK nB) (Zz (ZdK nA)))))))))
   by_cases hn:nx=ny
   ·have hab:(sgI nx PA+sgI ny PB).natAbs=PA+PB:=by subst hn;cases nx<;>simp only[sgI]<;>omega
    have hS0:sgI nx PA+sgI ny PB≠0:=by subst hn;cases nx<;>simp only[sgI]<;>omega
    have hsg:sgS M nx ny (sgI nx PA+sgI ny PB)=nx:=by
     unfold sgS;rw[if_neg hS0];subst hn;cases nx<;>simp only[sgI]
     ·exact Xb (by omega)
     ·exact Xa (by omega)
    rw[hsg];subst hn;cases nx
    ·have hw:=Z2T Ex Ey M o A.length c o' B.length c' la lb;rw[eA,eB,eVA,eVB] at hw;refine (Zc (Zg Zd Z4) hw (Za k1 (Za k2 (Za k3 lg)))).mono fun ex z hz=> ?_;obtain⟨rfl,⟨g,z1⟩,z2⟩:=hz;exact⟨.inr rfl,zV (k:=7) hS0 hab (by rw[z1,z2];rfl) (by rw[z2];rfl)⟩
    ·have hw:=Z3j Ex Ey M o A.length c o' B.length c' la lb;rw[eA,eB,eVA,eVB] at hw;refine (Zc (Zg Zd Z4) hw (Za k1 (Za k2 (Za k3 lg)))).mono fun ex z hz=> ?_;obtain⟨rfl,⟨g,z1⟩,z2⟩:=hz;exact⟨.inr rfl,zV (k:=7) hS0 hab (by rw[z1,z2];rfl) (by rw[z2];rfl)⟩
   ·have hz':(sgI nx PA+sgI ny PB=0)↔PA=PB:=by
     cases nx<;>cases ny<;>simp only[sgI,not_true_eq_false,reduceCtorEq,not_false_eq_true] at* <;>omega
    have hneg:PA≠PB→sgS M nx ny (sgI nx PA+sgI ny PB)=if PB<PA then nx else ny:=fun h=>by
     unfold sgS;rw[if_neg (fun e=>h (hz'.1 e))];cases nx<;>cases ny<;>simp only[sgI,not_true_eq_false,reduceCtorEq,not_false_eq_true] at* <;>split<;>first | exact Xa (by omega) | exact Xb (by omega)
    have hab:(sgI nx PA+sgI ny PB).natAbs=if PB<PA then PA-PB else PB-PA:=by
     cases nx<;>cases ny<;>simp only[sgI,not_true_eq_false,reduceCtorEq,not_false_eq_true] at* <;>split<;>omega
    rcases Nat.lt_trichotomy PA PB with h | h | h
    ·have cz:Zax PA PB= -1:=by unfold Zax;rw[if_pos h]
     have q0:(Zax PA PB==0)=false:=by rw[cz];rfl
     have q1:(Zax PA PB==1)=false:=by rw[cz];rfl
     have hS0:sgI nx PA+sgI ny PB≠0:=fun e=>by have:=hz'.1 e;omega
     have kk:(Z6 (nxt (nxt (hM nx Ex o A.length c ny Ey o' B.length c' la lb) PA) PB) (ad 6 0) (ad 5 0) (d16 PB).length (d16 PB).length (d16 PA).length (d16 PA).length && Nat.ble PA PB)=true:=by
      rw[show Z6 (nxt (nxt (hM nx Ex o A.length c ny Ey o' B.length c' la lb) PA) PB) (ad 6 0) (ad 5 0) (d16 PB).length (d16 PB).length (d16 PA).length (d16 PA).length=true from k1',Nat.ble_eq_true_of_le (by omega)];rfl
     rw[hneg (by omega),if_neg (by omega)];rw[if_neg (by omega)] at hab;cases nx<;>cases ny
     ·exact absurd rfl hn
     ·have hw:=Z2Z Ex Ey M o A.length c o' B.length c' la lb;rw[eA,eB,eVA,eVB] at hw;refine (Zc (Zg Zd Z4) hw (Za kk (Za (Xa (by omega)) (Za q1 (Za q0 (Za k1 (Za k3' (Za k3 lg)))))))).mono fun ex z hz=> ?_;obtain⟨rfl,⟨g,z1⟩,z2⟩:=hz;exact⟨.inr rfl,zV (k:=7) hS0 hab (by rw[z1,z2];rfl) (by rw[z2];rfl)⟩
     ·have hw:=Z3f Ex Ey M o A.length c o' B.length c' la lb;rw[eA,eB,eVA,eVB] at hw;refine (Zc (Zg Zd Z4) hw (Za kk (Za (Xa (by omega)) (Za q1 (Za q0 (Za k1 (Za k3' (Za k3 lg)))))))).mono fun ex z hz=> ?_;obtain⟨rfl,⟨g,z1⟩,z2⟩:=hz;exact⟨.inr rfl,zV (k:=7) hS0 hab (by rw[z1,z2];rfl) (by rw[z2];rfl)⟩
     ·exact absurd rfl hn
    ·have cz:Zax PA PB=0:=by unfold Zax;rw[if_neg (by omega),if_pos h]
     have q0:(Zax PA PB==0)=true:=by rw[cz];rfl
     have hS0:=hz'.2 h;have hsg:sgS M nx ny (sgI nx PA+sgI ny PB)=(M==4):=by
      unfold sgS;rw[if_pos hS0,if_neg hn];rfl
     rw[hsg,hS0];cases nx<;>cases ny
     ·exact absurd rfl hn
     ·have hw:=Z2X Ex Ey M o A.length c o' B.length c' la lb;rw[eA,eB,eVA,eVB] at hw;refine (Zc (Zg Zd Z4) hw (Za q0 (Za k1 (Za k3' (Za k3 lg))))).mono fun ex z hz=> ?_;obtain⟨rfl,⟨g,z1⟩,z2⟩:=hz;exact⟨.inr rfl,(fun hh=>absurd rfl hh),fun _=>by rw[z1,z2];rfl⟩
     ·have hw:=Z3d Ex Ey M o A.length c o' B.length c' la lb;rw[eA,eB,eVA,eVB] at hw;refine (Zc (Zg Zd Z4) hw (Za q0 (Za k1 (Za k3' (Za k3 lg))))).mono fun ex z hz=> ?_;obtain⟨rfl,⟨g,z1⟩,z2⟩:=hz;exact⟨.inr rfl,(fun hh=>absurd rfl hh),fun _=>by rw[z1,z2];rfl⟩
     ·exact absurd rfl hn
    ·have cz:Zax PA PB=1:=by unfold Zax;rw[if_neg (by omega),if_neg (by omega)]
     have q0:(Zax PA PB==0)=false:=by rw[cz];rfl
     have q1:(Zax PA PB==1)=true:=by rw[cz];rfl
     have hS0:sgI nx PA+sgI ny PB≠0:=fun e=>by have:=hz'.1 e;omega
     have kk:(Z6 (nxt (nxt (hM nx Ex o A.length c ny Ey o' B.length c' la lb) PA) PB) (ad 5 0) (ad 6 0) (d16 PA).length (d16 PA).length (d16 PB).length (d16 PB).length && Nat.ble PB PA)=true:=by
      rw[show Z6 (nxt (nxt (hM nx Ex o A.length c ny Ey o' B.length c' la lb) PA) PB) (ad 5 0) (ad 6 0) (d16 PA).length (d16 PA).length (d16 PB).length (d16 PB).length=true from k1,Nat.ble_eq_true_of_le (by omega)];rfl
     rw[hneg (by omega),if_pos h];rw[if_pos h] at hab;cases nx<;>cases ny
     ·exact absurd rfl hn
     ·have hw:=Z2Y Ex Ey M o A.length c o' B.length c' la lb;rw[eA,eB,eVA,eVB] at hw;refine (Zc (Zg Zd Z4) hw (Za kk (Za (Xa (by omega)) (Za q1 (Za q0 (Za k1 (Za k3' (Za k3 lg)))))))).mono fun ex z hz=> ?_;obtain⟨rfl,⟨g,z1⟩,z2⟩:=hz;exact⟨.inr rfl,zV (k:=7) hS0 hab (by rw[z1,z2];rfl) (by rw[z2];rfl)⟩
     ·have hw:=Z3e Ex Ey M o A.length c o' B.length c' la lb;rw[eA,eB,eVA,eVB] at hw;refine (Zc (Zg Zd Z4) hw (Za kk (Za (Xa (by omega)) (Za q1 (Za q0 (Za k1 (Za k3' (Za k3 lg)))))))).mono fun ex z hz=> ?_;obtain⟨rfl,⟨g,z1⟩,z2⟩:=hz;exact⟨.inr rfl,zV (k:=7) hS0 hab (by rw[z1,z2];rfl) (by rw[z2];rfl)⟩
     ·exact absurd rfl hn
end
def Zqu (h:Hp) (p q:Option Addr) (n c n' c':Nat) (Ex Ey:Int):Bool:=zS h p n c && Zff (Zu h p n) && Nat.blt n 20000 && (zS h q n' c' && Zff (Zu h q n') && Nat.blt n' 20000) && decide ((-400000≤Ex∧Ex≤400000)∧(-400000≤Ey∧Ey≤400000))
def smH (h:Hp) (nx ny:Bool) (Ex Ey:Int) (b o n b' o' n':Nat):Int:=smS nx ny Ex Ey n n' (vO h (ad b o) n) (vO h (ad b' o') n')
def gSm:Zcl:=fun vals h s=>
 match vals,s with
 | [.agg cs,.agg ds,.int .i64 M],.inr (.inr (.inr (.inl d)))::s'=>
  match cs.toList,ds.toList with
  | [.bool nx,.int .i64 Ex,.slice (some ⟨b,o,none⟩) n c],[.bool ny,.int .i64 Ey,.slice (some ⟨b',o',none⟩) n' c']=>
   match d with
   | true=>some (vRN (sgS M nx ny (smH h nx ny Ex Ey b o n b' o' n')) (Zce Ex Ey n n') (sOf h.n (smH h nx ny Ex Ey b o n b' o' n').natAbs),h.push (wU (d16 (smH h nx ny Ex Ey b o n b' o' n').natAbs)) tU,s',[(decide (smH h nx ny Ex Ey b o n b' o' n'≠0),true),(Zqu h (ad b o) (ad b' o') n c n' c' Ex Ey,true)])
   | false=>some (vRN (sgS M nx ny (smH h nx ny Ex Ey b o n b' o' n')) (Zce Ex Ey n n') Zn,h,s',[(decide (smH h nx ny Ex Ey b o n b' o' n'≠0),false),(Zqu h (ad b o) (ad b' o') n c n' c' Ex Ey,true)])
  | _,_=>none
 | _,_=>none
theorem ZwX:za 50 gSm:=by
 intro vals h s v h' s' lg hg hl m B w E0 hv;unfold gSm at hg;split at hg
 ·rename_i cs ds M d s2;split at hg
  ·rename_i nx Ex b o n c ny Ey b' o' n' c' hcs hds;have ecs:cs= #[.bool nx,.int .i64 Ex,sl b o n c]:=by
    have:=congrArg List.toArray hcs;simpa [sl] using this
   have eds:ds= #[.bool ny,.int .i64 Ey,sl b' o' n' c']:=by
    have:=congrArg List.toArray hds;simpa [sl] using this
   have key:Zqu h (ad b o) (ad b' o') n c n' c' Ex Ey=true→
     ∃ la lb,(∀ v∈la,still v=true)∧(∀ v∈lb,still v=true)∧(h2 la lb).fits (pair b b') h∧RunsW (Zp prog Zh Zo hcW) (Zv f50) ([vRN nx Ex (sl 0 o n c),vRN ny Ey (sl 1 o' n' c'),.int .i64 M]++List.replicate 123 undef,h2 la lb,[]) fun ex z=>(ex=none∨ex=some none)∧ZoP f50 (smH h nx ny Ex Ey b o n b' o' n') (sgS M nx ny (smH h nx ny Ex Ey b o n b' o' n')) (Zce Ex Ey n n') z:=by
    intro l3;simp only[Zqu,Xh,Xi] at l3;obtain⟨⟨⟨⟨q1,q2⟩,q3⟩,⟨⟨p1,p2⟩,p3⟩⟩,q4⟩:=l3;have q2:=Zc1 q2;have q3:=Zk.1 q3;have p2:=Zc1 p2;have p3:=Zk.1 p3;rcases Z8 q1 with ⟨h0,_⟩ | ⟨b1,o1,x,hp,hx,r1,rs,e0⟩
    ·cases h0
    ·cases hp;rcases Z8 p1 with ⟨h0,_⟩ | ⟨b2,o2,y,hp',hy,t1,ts,f0⟩
     ·cases h0
     ·cases hp';rw[e0] at q2;rw[f0] at p2;obtain⟨h1,h2',h3,h4,h5,h6,h7⟩:=ZU r1;obtain⟨k1,k2,k3,k4,k5,k6,k7⟩:=ZU t1;have ev:vO h (ad b o) n=vb 65536 (zu x.1 o n):=by unfold vO;rw[e0]
      have ev':vO h (ad b' o') n'=vb 65536 (zu y.1 o' n'):=by unfold vO;rw[f0]
      have r:=ZoR (ZlK 0 r1 rs) (ZlK 1 t1 ts) q2 p2 (by rw[h2'];exact q3) (by rw[k2];exact p3) (nx:=nx) (ny:=ny) q4.1 q4.2 M;rw[h2',k2,← ev,← ev'] at r;exact⟨x.1,y.1,h7,k7,ZkX hx h5 h6 hy k5 k6,r⟩
   have evals:List.map (rn (pair b b')) [vRN nx Ex (sl 0 o n c),vRN ny Ey (sl 1 o' n' c'),.int .i64 M]=[.agg cs,.agg ds,.int .i64 M]:=by
    rw[ecs,eds];simp [rn,rn2,rn1,vRN,sl,pair]
   split at hg
   ·cases hg;have l1:=hl _ (Xe);have l2:=hl _ (Xd _ Xf);simp only[Xi] at l1;obtain⟨la,lb,p0,p1,p2,p3⟩:=key l2;have fin:=Zb5 (T:=Zp prog Zh Zo hcW) func50 Zh9 (Zob p0 p1) (vals:=[vRN nx Ex (sl 0 o n c),vRN ny Ey (sl 1 o' n' c'),.int .i64 M]) (fun v hv=>by
     simp only[List.mem_cons,List.not_mem_nil,or_false] at hv;rcases hv with h1 | h1 | h1<;>rw[h1]<;>rfl) (v:=fun k=>vRN (sgS M nx ny (smH h nx ny Ex Ey b o n b' o' n')) (Zce Ex Ey n n') (sOf k (smH h nx ny Ex Ey b o n b' o' n').natAbs)) (Zbs _) (by kernel_rfl) (p3.mono fun ex z hz=>⟨hz.1,hz.2.1 l1⟩) (fun k=>by simp [oc,oc2,oc1,sOf,sl,vRN]) E0 p2 (fun k=>by simp [rn,rn2,rn1,sOf,sl,vRN])
    rw[evals] at fin;exact fin
   ·cases hg;have l1:=hl _ (Xe);have l2:=hl _ (Xd _ Xf);simp only[decide_eq_false_iff_not,ne_eq,Decidable.not_not] at l1;obtain⟨la,lb,p0,p1,p2,p3⟩:=key l2;have fin:=ZH (T:=Zp prog Zh Zo hcW) func50 Zh9 (Zob p0 p1) (vals:=[vRN nx Ex (sl 0 o n c),vRN ny Ey (sl 1 o' n' c'),.int .i64 M]) (fun v hv=>by
     simp only[List.mem_cons,List.not_mem_nil,or_false] at hv;rcases hv with h1 | h1 | h1<;>rw[h1]<;>rfl) (v:=vRN (sgS M nx ny (smH h nx ny Ex Ey b o n b' o' n')) (Zce Ex Ey n n') Zn) (by rfl) (p3.mono fun ex z hz=>⟨hz.1,hz.2.2 l1⟩) E0 p2
    rw[evals] at fin;exact fin
  ·cases hg
 ·cases hg
end Go.Proofs.YtekebccjflilnaaGreat
namespace Go.Proofs.YtekebccjflilnaaGreat
open Go.Proofs.Tryz
open Go.KRun Go.Nt Go.Wd Go.Rn Go.Pt
set_option maxRecDepth 100000
set_option linter.unusedVariables false
def bPt (p:Int):List Value×TypeId:=([.bool (sgn p),.int .i64 (cl p),.int .i64 (xp p),.int .u64 (sg p)],67)
def ZyX:Hc:=Zb4 45 Zwx hcN
theorem Ztx:HcOk ZyX:=ZA func45 rfl Zgz ZfD
def ZfK:Con:=alt 41 (gU vT) Zo
theorem ZeX:ConOk ZfK:=Zy func41 rfl Zqd Zd
theorem Zty:f51.body=some (Zv f51):=by kernel_rfl
theorem Z0R (p:Int):Zm (evC (Zp prog Zh ZfK ZyX) 200 false (Zv f51) ([.int .u64 p]++List.replicate 13 undef,⟨0,[]⟩,[]) ⟨[],[],[]⟩) 3 11 (some none) [.int .u64 p,undef,.pointer (some ⟨0,0,none⟩)] ⟨3,[(wU (d16 (sg p).toNat),tU),([.bool (sgn p),.int .i64 (cl p),.int .i64 (xp p),.int .u64 (sg p)],67),bOf (sgn p) (xp p) (sOf 2 (sg p).toNat)]⟩ [(decide (0≤sg p∧sg p<18446744073709551616),true),(decide (U p),true)]:=by and_intros<;>kernel_rfl
def gPt:Zcl:=fun vals h s=>
 match vals with
 | [.int .u64 p]=>some (vRN (sgn p) (xp p) (sOf h.n (sg p).toNat),h.push (wU (d16 (sg p).toNat)) tU,s,[(decide (U p),true)])
 | _=>none
theorem ZwY:za 51 gPt:=by
 intro vals h s v h' s' lg hg hl m B w E hv;unfold gPt at hg;split at hg
 ·rename_i p;cases hg;have q:=hl _ Xf;have hs:=ZbK p;have hr:RunsW (Zp prog Zh ZfK ZyX) (Zv f51) ([.int .u64 p]++List.replicate 13 undef,⟨0,[]⟩,[]) fun e z=>(e=none∨e=some none)∧∃ k,Zau prog f51 z.1 z.2.1=some (vRN (sgn p) (xp p) (sOf k (sg p).toNat))∧∃ r,z.2.1.blk? k=some (wU (d16 (sg p).toNat)++r,tU):=by
   refine (Zc (Zg ZeX Ztx) (Z0R p) (Za (Xa ⟨hs.1,by omega⟩) (Zz q))).mono fun e z he=> ?_;obtain⟨rfl,⟨g,e1⟩,e2⟩:=he;exact⟨.inr rfl,2,by rw[e1,e2];rfl,[],by rw[e2,List.append_nil];rfl⟩
  have:=Zb5 (T:=Zp prog Zh ZfK ZyX) func51 Zty (h0:=⟨0,[]⟩) ⟨rfl,fun b x hx=>by have:b<0:=Hp.blk_lt hx;omega⟩ (vals:=[.int .u64 p]) (fun v hv=>by rw[List.mem_singleton.1 hv];rfl) (v:=fun k=>vRN (sgn p) (xp p) (sOf k (sg p).toNat)) (Zbs _) (by kernel_rfl) hr (fun k=>by simp [oc,oc2,oc1,sOf,sl,vRN]) E (s:=fun i=>i) (fun i x hx _=>by have:i<0:=Hp.blk_lt hx;omega) (fun k=>by simp [rn,rn2,rn1,sOf,sl,vRN]);exact this
 ·cases hg
def hcS:Hc:=Zb4 50 gSm (Zb4 51 gPt (Zb4 34 gRr hcN))
theorem ZhD:HcOk hcS:=ZA func50 rfl ZwX (ZA func51 rfl ZwY (ZA func34 rfl Zqt ZfD))
def r0V (neg:Bool):Value:= .tuple #[.int .u64 (sS neg 0),.int .i64 0]
theorem r0a (neg:Bool) (E M:Int):Zw (Ze (Zi prog Zh Zo true) 200 34 [vRN neg E Zn,.int .i64 M] [cmp true,cmp true]) (r0V neg) [(((0:Nat):Int)==0,true),(decide (M<0),true)]:=by
 cases neg<;>exact by and_intros<;>kernel_rfl
theorem r0b (neg:Bool) (E M:Int):Zw (Ze (Zi prog Zh Zo true) 200 34 [vRN neg E Zn,.int .i64 M] [cmp false,cmp true,cmp true]) (r0V neg) [(((0:Nat):Int)==0,true),(decide (M>4),true),(decide (M<0),false)]:=by
 cases neg<;>exact by and_intros<;>kernel_rfl
theorem r0c (neg:Bool) (E M:Int):Zw (Ze (Zi prog Zh Zo true) 200 34 [vRN neg E Zn,.int .i64 M] [cmp false,cmp false,cmp true]) (r0V neg) [(((0:Nat):Int)==0,true),(decide (M>4),false),(decide (M<0),false)]:=by
 cases neg<;>exact by and_intros<;>kernel_rfl
def gR0:Ans:=fun vals s=>
 match vals with
 | [.agg cs,.int .i64 M]=>
  match cs.toList with
  | [.bool neg,.int .i64 E,.slice none 0 0]=>some (r0V neg,s,[])
  | _=>none
 | _=>none
theorem ZwZ:ZJ 34 gR0:=by
 intro vals s v s' lg h hl w;unfold gR0 at h;split at h
 ·rename_i cs M;split at h
  ·rename_i neg E hcs;have ecs:cs= #[.bool neg,.int .i64 E,Zn]:=by
    have:=congrArg List.toArray hcs;simpa [Zn] using this
   cases h;rw[ecs];by_cases h0:M<0
   ·exact Zb (Zf Zd) (r0a neg E M) (Za rfl (Zz (Xa h0))) (by rfl) (by rfl) w
   ·by_cases h4:M>4
    ·exact Zb (Zf Zd) (r0b neg E M) (Za rfl (Za (Xa h4) (Zz (Xb h0)))) (by rfl) (by rfl) w
    ·exact Zb (Zf Zd) (r0c neg E M) (Za rfl (Za (Xb h4) (Zz (Xb h0)))) (by rfl) (by rfl) w
  ·cases h
 ·cases h
def raT (p f:Int):Value:= .tuple #[.int .u64 p,.int .i64 f]
theorem ZlN (p:Int):Zw (Ze (Zi prog Zh Zo true) 200 32 [.int .u64 p] [cmp true]) (.int .u64 (p.tmod 9223372036854775808)) [(decide ((9223372036854775808:Int)=0),false)]:=by and_intros<;>kernel_rfl
theorem Ztz:ZJ 32 (gU fun p=> .int .u64 (mag p)):=Zis fun p hp w=>by
 have e:p.tmod 9223372036854775808=mag p:=by
  unfold mag;exact Int.tmod_eq_emod_of_nonneg hp.1
 have:=ZlN p;rw[e] at this;exact Zb (Zf Zd) this (Zz rfl) (by rfl) (by rfl) w
def ZcI:Con:=alt 34 gR0 (alt 32 (gU fun p=> .int .u64 (mag p)) ZfK)
theorem ZeY:ConOk ZcI:=Zy func34 rfl ZwZ (Zy func32 rfl Ztz ZeX)
end Go.Proofs.YtekebccjflilnaaGreat
namespace Go.Nt
theorem ZlO {b:Nat}:∀ {L:List Int}{j:Nat},j<L.length→∀ v:Int,vb b (L.set j v)+b^j*(L.getD j 0).toNat=vb b L+b^j*v.toNat
 | [],_,h,_=>by simp at h
 | x::L,0,_,v=>by simp [vb];omega
 | x::L,j+1,h,v=>by
  have ih:=ZlO (b:=b) (L:=L) (j:=j) (by simpa using h) v;have e:(x::L).getD (j+1) 0=L.getD j 0:=by simp [List.getD]
  simp only[List.set,vb,e];have h2:=congrArg (fun t=>b*t) ih;simp only[Nat.mul_add] at h2;rw[Nat.pow_succ,Nat.mul_comm (b^j) b,Nat.mul_assoc,Nat.mul_assoc];omega
theorem ZlP {L:List Int}(h:∀ x∈L,Dg 65536 x) {v:Int}(hv:Dg 65536 v) (j:Nat):∀ x∈L.set j v,Dg 65536 x:=fun x hx=>by
 rcases List.mem_or_eq_of_mem_set hx with hx | rfl
 ·exact h x hx
 ·exact hv
theorem ZoS {L:List Int}{j:Nat}(hj:j<L.length) (hL:∀ x∈L,Dg 65536 x) {c p q:Nat}(hc:c<65536) (hp:p<65536) (hq:q<65536):
  let t:=c+(L.getD j 0).toNat+p*q
  vb 65536 (L.set j ((t % 65536:Nat):Int))+t/65536*65536^(j+1)=vb 65536 L+c*65536^j+p*q*65536^j∧t/65536<65536∧(∀ x∈L.set j ((t % 65536:Nat):Int),Dg 65536 x):=by
 intro t;have hd:(L.getD j 0).toNat<65536:=ZzO hL j;have hpq:p*q≤65535*65535:=Nat.mul_le_mul (by omega) (by omega);have ht:t=c+(L.getD j 0).toNat+p*q:=rfl;refine⟨?_,by omega,ZlP hL ⟨by omega,by omega⟩ j⟩;have h1:=ZlO (b:=65536) hj ((t % 65536:Nat):Int);rw[Xg] at h1;have h2:=Nat.div_add_mod t 65536;have h3:65536^j*t=65536^j*(65536*(t/65536))+65536^j*(t % 65536):=by rw[← Nat.mul_add,h2]
 have h4:65536^j*t=65536^j*c+65536^j*(L.getD j 0).toNat+65536^j*(p*q):=by rw[ht,Nat.mul_add,Nat.mul_add]
 have h5:t/65536*65536^(j+1)=65536^j*(65536*(t/65536)):=by rw[Nat.pow_succ,Nat.mul_comm,Nat.mul_assoc]
 rw[h5,Nat.mul_comm c,Nat.mul_comm (p*q)];omega
end Go.Nt
namespace Go.Proofs.YtekebccjflilnaaGreat
open Go.Proofs.Tryz
open Go.IntKind
open Go.KRun Go.Nt
set_option maxRecDepth 100000
set_option linter.unusedVariables false
def muB (F:Func):Code:=ZB (Z5 (Z5 (Zv F)))
def muO (F:Func):Code:=cIn (cIn (Z5 (muB F)))
def muI (F:Func):Code:=cIn (ZB (Z5 (muO F)))
def muL (F:Func):Code:=cIn (cIn (Z5 (ZB (Z5 (muI F)))))
def Zu6 (F:Func):List Code:=[ZB (Zv F),ZB (Z5 (Zv F))]
def muE (F:Func):Code:=Z5 (Z5 (Z5 (Zv F)))
theorem ZfL:f69.body=some (Zaz (Zu6 f69) (.seq (.seq (ZB (muB f69)) (.block 0 (.loop (muO f69)))) (muE f69))):=by kernel_rfl
theorem ZhE:muO f69= .seq (ZB (muO f69)) (.seq (.block 1 (muI f69)) (Z5 (Z5 (muO f69)))):=by kernel_rfl
theorem ZoT:muI f69= .seq (ZB (muI f69)) (.seq (.seq (ZB (ZB (Z5 (muI f69)))) (.block 2 (.loop (muL f69)))) (Z5 (Z5 (muI f69)))):=by kernel_rfl
def mFr (o n c o' n' c' z:Nat) (i v7 v8:Value):List Value:=[sl 0 o n c,sl 1 o' n' c',undef,undef,Zn,sl 2 0 z z,i,v7,v8]
def hM3 (lo lb la:List Value):Hp:=⟨3,[(lo,tU),(lb,tR),(la,tR)]⟩
def zM (n n':Nat):Int:=i64.wrap ((n:Int)+n')
def inM (j:Int) (n:Nat):Bool×Bool:=(decide (0≤j∧j<(n:Int)),true)
def ceM (l:List Value) (o:Nat) (j x:Int):Bool×Bool:=(ZC (l[o+j.toNat*1]?) (.int .u32 x),true)
def stM (l:List Value) (j:Int):Bool×Bool:=(decide (0+j.toNat*1<l.length),true)
def d65:Bool×Bool:=(decide ((65536:Int)=0),false)
def tM (c7 d p q:Int):Int:=u64.wrap (u64.wrap (c7+u64.wrap d)+u64.wrap (u64.wrap p*u64.wrap q))
def ijM (i k:Int):Int:=i64.wrap (i+k)
theorem Zxa (o n c o' n' c':Nat) (la lb:List Value):Zm (evL (Zp prog Zh Zo hcV) 200 (Zu6 f69) ([sl 0 o n c,sl 1 o' n' c']++List.replicate 66 undef,h2 la lb,[at_]) ⟨[],[],[]⟩) 6 62 none [sl 0 o n c,sl 1 o' n' c',undef,undef,Zn,sl 2 0 (zM n n').toNat (zM n n').toNat] (hM3 (List.replicate (zM n n').toNat (.int .u32 0)) lb la) [(zf 4 (zM n n') (zM n n'),true)]:=by and_intros<;>kernel_rfl
theorem Zxb (v0 v1 v5:Value) (h:Hp) (g:Nat→Value):Zm (evC (Zp prog Zh Zo hcV) 200 false (ZB (muB f69)) ([v0,v1,undef,undef,Zn,v5]++tl 62 g,h,[]) ⟨[],[],[]⟩) 9 59 none [v0,v1,undef,undef,Zn,v5,.int .i64 0,g 1,g 2] h []:=by and_intros<;>kernel_rfl
theorem Z0S (o n c o' n' c' z:Nat) (i c7 k d p q:Int) (v7 v8:Value) (lo lb la:List Value) (g:Nat→Value):Zm (evC (Zp prog Zh Zo hcV) 200 false (ZB (muO f69)) (mFr o n c o' n' c' z (.int .i64 i) v7 v8++tl 59 g,hM3 lo lb la,[cmp true]) ⟨[],[],[]⟩) 9 59 none (mFr o n c o' n' c' z (.int .i64 i) v7 v8) (hM3 lo lb la) [(decide (i<(n:Int)),true)]:=by and_intros<;>kernel_rfl
theorem Z0T (o n c o' n' c' z:Nat) (i c7 k d p q:Int) (v7 v8:Value) (lo lb la:List Value) (g:Nat→Value):Zm (evC (Zp prog Zh Zo hcV) 200 false (ZB (muO f69)) (mFr o n c o' n' c' z (.int .i64 i) v7 v8++tl 59 g,hM3 lo lb la,[cmp false]) ⟨[],[],[]⟩) 9 59 (some (some 0)) (mFr o n c o' n' c' z (.int .i64 i) v7 v8) (hM3 lo lb la) [(decide (i<(n:Int)),false)]:=by and_intros<;>kernel_rfl
theorem Z0U (o n c o' n' c' z:Nat) (i c7 k d p q:Int) (v7 v8:Value) (lo lb la:List Value) (g:Nat→Value):Zm (evC (Zp prog Zh Zo hcV) 200 false (ZB (muI f69)) (mFr o n c o' n' c' z (.int .i64 i) v7 v8++tl 59 g,hM3 lo lb la,[]) ⟨[],[],[]⟩) 9 59 none (mFr o n c o' n' c' z (.int .i64 i) (.int .u64 0) v8) (hM3 lo lb la) []:=by and_intros<;>kernel_rfl
theorem Z0V (o n c o' n' c' z:Nat) (i c7 k d p q:Int) (v7 v8:Value) (lo lb la:List Value) (g:Nat→Value):Zm (evC (Zp prog Zh Zo hcV) 200 false (ZB (ZB (Z5 (muI f69)))) (mFr o n c o' n' c' z (.int .i64 i) v7 v8++tl 59 g,hM3 lo lb la,[]) ⟨[],[],[]⟩) 9 59 none (mFr o n c o' n' c' z (.int .i64 i) v7 (.int .i64 0)) (hM3 lo lb la) []:=by and_intros<;>kernel_rfl
theorem Z0W (o n c o' n' c' z:Nat) (i c7 k d p q:Int) (v7 v8:Value) (lo lb la:List Value) (g:Nat→Value):Zm (evC (Zp prog Zh Zo hcV) 200 false (muL f69) (mFr o n c o' n' c' z (.int .i64 i) (.int .u64 c7) (.int .i64 k)++tl 59 g,hM3 lo lb la,[cmp true,at_,val (.int .u32 d),at_,val (.int .u32 p),at_,val (.int .u32 q),cmp true,at_,at_]) ⟨[],[],[]⟩) 9 59 none (mFr o n c o' n' c' z (.int .i64 i) (.int .u64 (u64.wrap ((tM c7 d p q).tdiv 65536))) (.int .i64 (i64.wrap (k+1)))) (hM3 (lo.set (0+(ijM i k).toNat*1) (.int .u32 (u32.wrap ((tM c7 d p q).tmod 65536)))) lb la) [stM lo (ijM i k),inM (ijM i k) z,d65,ceM lb o' k q,inM k n',ceM la o i p,inM i n,ceM lo 0 (ijM i k) d,inM (ijM i k) z,(decide (k<(n':Int)),true)]:=by and_intros<;>kernel_rfl
theorem Zxc (o n c o' n' c' z:Nat) (i c7 k d p q:Int) (v7 v8:Value) (lo lb la:List Value) (g:Nat→Value):Zm (evC (Zp prog Zh Zo hcV) 200 false (muL f69) (mFr o n c o' n' c' z (.int .i64 i) (.int .u64 c7) (.int .i64 k)++tl 59 g,hM3 lo lb la,[cmp false]) ⟨[],[],[]⟩) 9 59 (some (some 2)) (mFr o n c o' n' c' z (.int .i64 i) (.int .u64 c7) (.int .i64 k)) (hM3 lo lb la) [(decide (k<(n':Int)),false)]:=by and_intros<;>kernel_rfl
theorem Zxd (o n c o' n' c' z:Nat) (i c7 k d p q:Int) (v7 v8:Value) (lo lb la:List Value) (g:Nat→Value):Zm (evC (Zp prog Zh Zo hcV) 200 false (Z5 (Z5 (muI f69))) (mFr o n c o' n' c' z (.int .i64 i) (.int .u64 c7) v8++tl 59 g,hM3 lo lb la,[at_,at_]) ⟨[],[],[]⟩) 9 59 none (mFr o n c o' n' c' z (.int .i64 i) (.int .u64 c7) v8) (hM3 (lo.set (0+(ijM i n').toNat*1) (.int .u32 (u32.wrap c7))) lb la) [stM lo (ijM i n'),inM (ijM i n') z]:=by and_intros<;>kernel_rfl
theorem Z0X (o n c o' n' c' z:Nat) (i c7 k d p q:Int) (v7 v8:Value) (lo lb la:List Value) (g:Nat→Value):Zm (evC (Zp prog Zh Zo hcV) 200 false (Z5 (Z5 (muO f69))) (mFr o n c o' n' c' z (.int .i64 i) v7 v8++tl 59 g,hM3 lo lb la,[]) ⟨[],[],[]⟩) 9 59 none (mFr o n c o' n' c' z (.int .i64 (i64.wrap (i+1))) v7 v8) (hM3 lo lb la) []:=by and_intros<;>kernel_rfl
theorem Zxe (o n c o' n' c' z:Nat) (i c7 k d p q:Int) (v7 v8:Value) (lo lb la:List Value) (g:Nat→Value):Zm (evC (Zp prog Zh Zo hcV) 200 false (muE f69) (mFr o n c o' n' c' z (.int .i64 i) v7 v8++tl 59 g,hM3 lo lb la,[]) ⟨[],[],[]⟩) 5 63 (some none) [sl 0 o n c,sl 1 o' n' c',undef,undef,sl 2 0 (Z3 (zu lo 0 z)) (Z3 (zu lo 0 z))] (hM3 lo lb la) [(ZaK tU lo 0 z z,true)]:=by and_intros<;>kernel_rfl
theorem Runs.next {T:Tab}{c1 c2:Code}{x:Lf}{front:List Value}{n:Nat}{h:Hp}{P:Ex→Lf→Prop}(h1:Runs T c1 x fun e y=>e=none∧(∃ g,y.1=front++tl n g)∧y.2.1=h) (h2:∀ g s,Runs T c2 (front++tl n g,h,s) P):Runs T (.seq c1 c2) x P:=by
 refine Runs.seq h1 (fun y hy=> ?_) (fun e y hy=>by cases hy.1);obtain⟨_,⟨g,e1⟩,e2⟩:=hy;obtain⟨t,hh,s⟩:=y;simp only at e1 e2;subst e1 e2;exact h2 g s
theorem ZlQ (O:List Int) (j:Nat) (v:Int):(wU O).set j (.int .u32 v)=wU (O.set j v):=by unfold wU;rw[List.map_set]
theorem ZbL {n:Int}(h0:0≤n) (h1:n<18446744073709551616):u64.wrap n=n:=by simp [IntKind.wrap,IntKind.bits,IntKind.signed];omega
theorem Zt0 {O:List Int}{j:Nat}(h:j<O.length):(wU O)[0+j*1]? =some (.int .u32 (O.getD j 0)):=by
 rw[Nat.zero_add,Nat.mul_one];unfold wU;rw[List.getElem?_map,List.getElem?_eq_getElem h];simp [List.getD,List.getElem?_eq_getElem h]
theorem ZlR {n:Nat}(h:n<1000000):ZW n=true:=by
 unfold ZW;exact Zk.2 (by have:ZV=4611686018427387904:=rfl;omega)
theorem ZlS {x:Int}(h:Dg 65536 x):∃ p:Nat,x=(p:Int)∧p<65536:=⟨x.toNat,by have:=h.1;omega,by have:=h.1;have:=h.2;omega⟩
section
variable {la lb : List Value} {o c o' c' : Nat} {A B : List Int}
def mSt (o n c o' n' c' z:Nat) (la lb:List Value) (O:List Int) (i:Nat) (v7 v8:Value) (Y:Lf):Prop:=(∃ g,Y.1=mFr o n c o' n' c' z (.int .i64 ((i:Nat):Int)) v7 v8++tl 59 g)∧Y.2.1=hM3 (wU O) lb la
def mOk (z i n':Nat) (O:List Int):Prop:=O.length=z∧(∀ x∈O,Dg 65536 x)∧∀ j,i+n'≤j→O.getD j 0=0
def mIn (o c o' c':Nat) (la lb:List Value) (A B:List Int) (i V:Nat) (m:Nat) (Y:Lf):Prop:=
 ∃ k O c7,m=B.length-k∧k≤B.length∧mOk (A.length+B.length) i B.length O∧c7<65536∧vb 65536 O+c7*65536^(i+k)=V+(A.getD i 0).toNat*vb 65536 (B.take k)*65536^i∧mSt o A.length c o' B.length c' (A.length+B.length) la lb O i (.int .u64 ((c7:Nat):Int)) (.int .i64 ((k:Nat):Int)) Y
def mFi (o c o' c':Nat) (la lb:List Value) (A B:List Int) (i V:Nat) (Y:Lf):Prop:=
 ∃ O c7 v8,mOk (A.length+B.length) i B.length O∧c7<65536∧vb 65536 O+c7*65536^(i+B.length)=V+(A.getD i 0).toNat*vb 65536 B*65536^i∧mSt o A.length c o' B.length c' (A.length+B.length) la lb O i (.int .u64 ((c7:Nat):Int)) v8 Y
theorem Zt1 {z i n':Nat}{O:List Int}(h:mOk z i n' O) {j:Nat}(hj:j<i+n') {v:Int}(hv:∀ x∈O.set j v,Dg 65536 x):mOk z i n' (O.set j v):=by
 refine⟨by rw[List.length_set];exact h.1,hv,fun t ht=> ?_⟩;have:=h.2.2 t ht;simp only[List.getD] at*;rw[List.getElem?_set_ne (by omega)];exact this
theorem ZiS (rA:Row la o A) (rB:Row lb o' B) (dA:∀ x∈A,Dg 65536 x) (dB:∀ x∈B,Dg 65536 x) (hz:A.length+B.length<1000000) {i V:Nat}(hi:i<A.length) {Y0:Lf}(h0:mIn o c o' c' la lb A B i V B.length Y0):
  Runs (Zp prog Zh Zo hcV) (.block 2 (.loop (muL f69))) Y0 fun e Y=>match e with | none=>mFi o c o' c' la lb A B i V Y | some none=>False | some (some _)=>False:=by
 refine Runs.forLoop (P:=mFi o c o' c' la lb A B i V) (R:=fun _=>False) (mIn o c o' c' la lb A B i V) ?_ (n:=B.length) h0;rintro m ⟨t,h',s⟩ ⟨k,O,c7,hm,hk,hO,hc,hval,⟨g,ht⟩,hh⟩;simp only at ht hh;subst ht hh;by_cases hlt:k<B.length
 ·have hj:i+k<O.length:=by rw[hO.1];omega
  obtain⟨p,ep,hp⟩:=ZlS (Zd5 dA i);obtain⟨q,eq,hq⟩:=ZlS (Zd5 dB k);obtain⟨d,ed,hd⟩:=ZlS (Zd5 hO.2.1 (i+k));have eij:ijM i k=((i+k:Nat):Int):=by unfold ijM;rw[ZL (by omega) (by omega)];omega
  have hpq:p*q≤65535*65535:=Nat.mul_le_mul (by omega) (by omega);have epq:(p:Int)*(q:Int)=((p*q:Nat):Int):=by simp
  have eT:tM c7 d p q=((c7+d+p*q:Nat):Int):=by
   unfold tM;rw[ZbL (n:=(d:Int)) (by omega) (by omega),ZbL (n:=(p:Int)) (by omega) (by omega),ZbL (n:=(q:Int)) (by omega) (by omega),epq,ZbL (n:=((p*q:Nat):Int)) (by omega) (by omega),ZbL (n:=(c7:Int)+(d:Int)) (by omega) (by omega),ZbL (by omega) (by omega)];omega
  have e1:u64.wrap ((tM c7 d p q).tdiv 65536)=(((c7+d+p*q)/65536:Nat):Int):=by
   rw[eT,Int.tdiv_eq_ediv_of_nonneg (by omega),ZbL (by omega) (by omega)];omega
  have e2:u32.wrap ((tM c7 d p q).tmod 65536)=(((c7+d+p*q) % 65536:Nat):Int):=by
   rw[eT,Int.tmod_eq_emod_of_nonneg (by omega),ze (by omega) (by omega)];omega
  have e3:i64.wrap ((k:Int)+1)=((k+1:Nat):Int):=by rw[ZL (by omega) (by omega)];omega
  have hstep:=ZoS hj hO.2.1 hc hp hq;rw[ed,Xg] at hstep;obtain⟨s1,s2,s3⟩:=hstep;have hw:=Z0W o A.length c o' B.length c' (A.length+B.length) i c7 k d p q undef undef (wU O) lb la g;have lg:Zx [stM (wU O) (ijM i k),inM (ijM i k) (A.length+B.length),d65,ceM lb o' k q,inM k B.length,ceM la o i p,inM i A.length,ceM (wU O) 0 (ijM i k) d,inM (ijM i k) (A.length+B.length),(decide ((k:Int)<((B.length:Nat):Int)),true)]:=by
   have g1:decide (0+(ijM i k).toNat*1<(wU O).length)=true:=Xa (by rw[eij,Xg,Zbr];omega);have g2:decide (0≤ijM i k∧ijM i k<((A.length+B.length:Nat):Int))=true:=Xa (by rw[eij];omega);have g3:ZC (lb[o'+(k:Int).toNat*1]?) (.int .u32 q)=true:=by rw[Xg,Nat.mul_one,rB.cell hlt,eq];simp [ZC]
   have g4:decide (0≤(k:Int)∧(k:Int)<((B.length:Nat):Int))=true:=Xa (by omega);have g5:ZC (la[o+(i:Int).toNat*1]?) (.int .u32 p)=true:=by rw[Xg,Nat.mul_one,rA.cell hi,ep];simp [ZC]
   have g6:decide (0≤(i:Int)∧(i:Int)<((A.length:Nat):Int))=true:=Xa (by omega);have g7:ZC ((wU O)[0+(ijM i k).toNat*1]?) (.int .u32 d)=true:=by rw[eij,Xg,Zt0 hj,ed];simp [ZC]
   exact Zt g1 (Zt g2 (Zt rfl (Zt g3 (Zt g4 (Zt g5 (Zt g6 (Zt g7 (Zt g2 (Z2 (Xa (by omega)))))))))))
  rw[e1,e2,e3,eij,Xg,Nat.zero_add,Nat.mul_one,ZlQ] at hw;refine (Zj (Zg Zd Zs) hw (by rw[← Xg (i+k),← eij] at*;exact lg)).mono fun e z hz=> ?_;obtain⟨rfl,z1,z2⟩:=hz;refine⟨B.length-(k+1),by omega,k+1,O.set (i+k) (((c7+d+p*q) % 65536:Nat):Int),(c7+d+p*q)/65536,rfl,by omega,Zt1 hO (by omega) s3,s2,?_,z1,z2⟩;rw[Zaw,Nat.mul_add,Nat.add_mul,eq,Xg,ep,Xg];rw[ep,Xg] at hval;have x1:p*(65536^k*q)*65536^i=p*q*65536^(i+k):=by rw[Nat.pow_add,Nat.mul_comm (65536^k) q,← Nat.mul_assoc,Nat.mul_assoc (p*q),Nat.mul_comm (65536^k)]
  rw[x1];have x2:i+(k+1)=i+k+1:=by omega
  rw[x2];omega
 ·have hkl:k=B.length:=by omega
  subst hkl;refine (Zj (Zg Zd Zs) (Zxc o A.length c o' B.length c' (A.length+B.length) i c7 ((B.length:Nat):Int) 0 0 0 undef undef (wU O) lb la g) (Z2 (Xb (by omega)))).mono fun e z hz=> ?_;obtain⟨rfl,z1,z2⟩:=hz;rw[List.take_length] at hval;exact⟨rfl,O,c7,_,hO,hc,hval,z1,z2⟩
theorem Z3k {T:Tab}{c:Code}{id:Nat}{x:Lf}{P:Lf→Prop}(h:Runs T c x fun e y=>e=none∧P y):Runs T (.block id c) x fun e y=>e=none∧P y:=
 Runs.block h (fun y hy=>hy) (fun y hy=>by cases hy.1) (fun y hy=>by cases hy.1) (fun id' y _ hy=>by cases hy.1)
def mOu (o c o' c':Nat) (la lb:List Value) (A B:List Int) (i:Nat) (Y:Lf):Prop:=
 ∃ O v7 v8,mOk (A.length+B.length) i B.length O∧vb 65536 O=vb 65536 (A.take i)*vb 65536 B∧mSt o A.length c o' B.length c' (A.length+B.length) la lb O i v7 v8 Y
theorem ZiT (rA:Row la o A) (rB:Row lb o' B) (dA:∀ x∈A,Dg 65536 x) (dB:∀ x∈B,Dg 65536 x) (hz:A.length+B.length<1000000) {i:Nat}(hi:i<A.length) {Y0:Lf}(h0:mOu o c o' c' la lb A B i Y0):
  Runs (Zp prog Zh Zo hcV) (muO f69) Y0 fun e Y=>e=none∧mOu o c o' c' la lb A B (i+1) Y:=by
 obtain⟨O,v7,v8,hO,hval,⟨g,ht⟩,hh⟩:=h0;obtain⟨t,h',s⟩:=Y0;simp only at ht hh;subst ht hh;have hT:=Zg Zd Zs;rw[ZhE];refine Runs.next (Zj hT (Z0S o A.length c o' B.length c' (A.length+B.length) i 0 0 0 0 0 v7 v8 (wU O) lb la g) (Z2 (Xa (by omega)))) fun g s=> ?_;refine Runs.seq (P1:=fun e Y=>e=none∧∃ O v7 v8,mOk (A.length+B.length) (i+1) B.length O∧vb 65536 O=vb 65536 (A.take (i+1))*vb 65536 B∧mSt o A.length c o' B.length c' (A.length+B.length) la lb O i v7 v8 Y) (Z3k ?_) ?_ (fun e y hy=>by cases hy.1)
 ·rw[ZoT];refine Runs.next (Zj hT (Z0U o A.length c o' B.length c' (A.length+B.length) i 0 0 0 0 0 v7 v8 (wU O) lb la g) (fun _ h=>by cases h)) fun g s=> ?_;refine Runs.seq (P1:=fun e Y=>e=none∧mFi o c o' c' la lb A B i (vb 65536 O) Y) ?_ ?_ (fun e y hy=>by cases hy.1)
  ·refine Runs.next (Zj hT (Z0V o A.length c o' B.length c' (A.length+B.length) i 0 0 0 0 0 (.int .u64 0) v8 (wU O) lb la g) (fun _ h=>by cases h)) fun g s=> ?_;refine (ZiS rA rB dA dB hz hi (V:=vb 65536 O) ⟨0,O,0,by omega,by omega,hO,by omega,?_,⟨g,rfl⟩,rfl⟩).mono fun e Y hY=> ?_
   ·simp [vb]
   ·match e,hY with
    | none,hY=>exact⟨rfl,hY⟩
    | some none,hY=>exact hY.elim
    | some (some _),hY=>exact hY.elim
  ·rintro⟨t,h',s⟩ ⟨_,O',c7,w8,hO',hc7,hv',⟨g,ht⟩,hh⟩;simp only at ht hh;subst ht hh;have hj:i+B.length<O'.length:=by rw[hO'.1];omega
   have eij:ijM i ((B.length:Nat):Int)=((i+B.length:Nat):Int):=by unfold ijM;rw[ZL (by omega) (by omega)];omega
   have e1:u32.wrap ((c7:Nat):Int)=((c7:Nat):Int):=ze (by omega) (by omega);have hw:=Zxd o A.length c o' B.length c' (A.length+B.length) i c7 0 0 0 0 undef w8 (wU O') lb la g;have g1:decide (0+(ijM i ((B.length:Nat):Int)).toNat*1<(wU O').length)=true:=Xa (by rw[eij,Xg,Zbr];omega);have g2:decide (0≤ijM i ((B.length:Nat):Int)∧ijM i ((B.length:Nat):Int)<((A.length+B.length:Nat):Int))=true:=Xa (by rw[eij];omega);have r:=Zj (s0:=s) hT hw (Zt g1 (Z2 g2));rw[e1,eij,Xg,Nat.zero_add,Nat.mul_one,ZlQ] at r;refine r.mono fun e z hz=> ?_;obtain⟨rfl,z1,z2⟩:=hz;have hdg:∀ x∈O'.set (i+B.length) ((c7:Nat):Int),Dg 65536 x:=ZlP hO'.2.1 ⟨by omega,by omega⟩ _;refine⟨rfl,O'.set (i+B.length) ((c7:Nat):Int),_,_,⟨by rw[List.length_set];exact hO'.1,hdg,fun j hj'=> ?_⟩,?_,z1,z2⟩
   ·have:=hO'.2.2 j (by omega);simp only[List.getD] at*;rw[List.getElem?_set_ne (by omega)];exact this
   ·have hs:=ZlO (b:=65536) hj ((c7:Nat):Int);rw[hO'.2.2 (i+B.length) (Nat.le_refl _),Xg] at hs;rw[Zaw,Nat.add_mul,← hval];have x1:65536^i*(A.getD i 0).toNat*vb 65536 B=(A.getD i 0).toNat*vb 65536 B*65536^i:=by rw[Nat.mul_assoc,Nat.mul_comm]
    rw[x1];have x2:c7*65536^(i+B.length)=65536^(i+B.length)*c7:=Nat.mul_comm _ _;have x3:(65536:Nat)^(i+B.length)*(0:Int).toNat=0:=by simp
    omega
 ·rintro⟨t,h',s⟩ ⟨_,O',w7,w8,hO',hv',⟨g,ht⟩,hh⟩;simp only at ht hh;subst ht hh;have e3:i64.wrap ((i:Int)+1)=((i+1:Nat):Int):=by rw[ZL (by omega) (by omega)];omega
  have hw:=Z0X o A.length c o' B.length c' (A.length+B.length) i 0 0 0 0 0 w7 w8 (wU O') lb la g;rw[e3] at hw;refine (Zj hT hw (fun _ h=>by cases h)).mono fun e z hz=> ?_;obtain⟨rfl,z1,z2⟩:=hz;exact⟨rfl,O',w7,w8,hO',hv',z1,z2⟩
theorem ZlT (rA:Row la o A) (rB:Row lb o' B) (dA:∀ x∈A,Dg 65536 x) (dB:∀ x∈B,Dg 65536 x) (hz:A.length+B.length<1000000) {Y0:Lf}(h0:mOu o c o' c' la lb A B 0 Y0):
  Runs (Zp prog Zh Zo hcV) (.block 0 (.loop (muO f69))) Y0 fun e Y=>match e with | none=>mOu o c o' c' la lb A B A.length Y | some none=>False | some (some _)=>False:=by
 refine Runs.forLoop (P:=mOu o c o' c' la lb A B A.length) (R:=fun _=>False) (fun m Y=>∃ i,m=A.length-i∧i≤A.length∧mOu o c o' c' la lb A B i Y) ?_ (n:=A.length) ⟨0,by omega,by omega,h0⟩;rintro m Y ⟨i,hm,hi,hY⟩;by_cases hlt:i<A.length
 ·refine (ZiT rA rB dA dB hz hlt hY).mono fun e z hz'=> ?_;obtain⟨rfl,z1⟩:=hz';exact⟨A.length-(i+1),by omega,i+1,rfl,by omega,z1⟩
 ·have hil:i=A.length:=by omega
  subst hil;obtain⟨O,v7,v8,hO,hval,⟨g,ht⟩,hh⟩:=hY;obtain⟨t,h',s⟩:=Y;simp only at ht hh;subst ht hh;rw[ZhE];refine Runs.seq (Zj (Zg Zd Zs) (Z0T o A.length c o' B.length c' (A.length+B.length) ((A.length:Nat):Int) 0 0 0 0 0 v7 v8 (wU O) lb la g) (Z2 (Xb (by omega)))) (fun y hy=>by cases hy.1) (fun e y hy=> ?_);obtain⟨e1,z1,z2⟩:=hy;cases e1;exact⟨rfl,O,v7,v8,hO,hval,z1,z2⟩
theorem ZlU (rA:Row la o A) (rB:Row lb o' B) (dA:∀ x∈A,Dg 65536 x) (dB:∀ x∈B,Dg 65536 x) (hz:A.length+B.length<1000000):
  Runs (Zp prog Zh Zo hcV) (Zaz (Zu6 f69) (.seq (.seq (ZB (muB f69)) (.block 0 (.loop (muO f69)))) (muE f69))) ([sl 0 o A.length c,sl 1 o' B.length c']++List.replicate 66 undef,h2 la lb,[]) fun e z=>(e=none∨e=some none)∧Zau prog f69 z.1 z.2.1=some (sl 2 0 (d16 (vb 65536 A*vb 65536 B)).length (d16 (vb 65536 A*vb 65536 B)).length)∧∃ r,z.2.1.blk? 2=some (wU (d16 (vb 65536 A*vb 65536 B))++r,tU):=by
 have hT:=Zg Zd Zs;have ez:zM A.length B.length=((A.length+B.length:Nat):Int):=by unfold zM;rw[ZL (by omega) (by omega)];omega
 have hp:=Zxa o A.length c o' B.length c' la lb;have mk:zf 4 (zM A.length B.length) (zM A.length B.length)=true:=by unfold zf;rw[ez];exact Xa (by omega)
 refine zl hT hp (Z2 mk) fun g=> ?_;rw[ez,Xg];have ew:List.replicate (A.length+B.length) (Value.int .u32 0)=wU (List.replicate (A.length+B.length) 0):=by unfold wU;rw[List.map_replicate]
 rw[ew];have hrep:mOk (A.length+B.length) 0 B.length (List.replicate (A.length+B.length) (0:Int)):=by
  refine⟨by simp,fun x hx=> ?_,fun j _=> ?_⟩
  ·rw[List.eq_of_mem_replicate hx];exact⟨by omega,by omega⟩
  ·simp only[List.getD,List.getElem?_replicate];split<;>rfl
 have hv0:∀ n:Nat,vb 65536 (List.replicate n (0:Int))=0:=fun n=>by
  induction n with
  | zero=>rfl
  | succ n ih=>rw[List.replicate_succ];simp only[vb,ih];rfl
 refine Runs.seq (P1:=fun e Y=>e=none∧mOu o c o' c' la lb A B A.length Y) ?_ ?_ (fun e y hy=>by cases hy.1)
 ·refine Runs.next (Zj hT (Zxb (sl 0 o A.length c) (sl 1 o' B.length c') (sl 2 0 (A.length+B.length) (A.length+B.length)) _ g) (fun _ h=>by cases h)) fun g s=> ?_;refine (ZlT rA rB dA dB hz ⟨List.replicate (A.length+B.length) 0,_,_,hrep,by rw[hv0];simp [vb],⟨g,rfl⟩,rfl⟩).mono fun e Y hY=> ?_
  match e,hY with
  | none,hY=>exact⟨rfl,hY⟩
  | some none,hY=>exact hY.elim
  | some (some _),hY=>exact hY.elim
 ·rintro⟨t,h',s⟩ ⟨_,O,v7,v8,hO,hval,⟨g,ht⟩,hh⟩;simp only at ht hh;subst ht hh;rw[List.take_length] at hval;have hl:=hO.1;have hrow:ZaK tU (wU O) 0 (A.length+B.length) (A.length+B.length)=true:=by
   have:=zY (L:=O) (fun x hx=>⟨(hO.2.1 x hx).1,by have:=(hO.2.1 x hx).2;omega⟩) (by rw[hl];omega) (c:=A.length+B.length) (by rw[hl];unfold Zd4;simp;exact .inl (ZlR (by omega)));rw[hl] at this;exact this
  have ec:zu (wU O) 0 (A.length+B.length)=O:=by
   have:=ZaD O;rw[hl] at this;exact this
  have et:Z3 O=(d16 (vb 65536 A*vb 65536 B)).length:=by
   rw[Zad (by omega) hO.2.1,hval];rfl
  refine (Zj hT (Zxe o A.length c o' B.length c' (A.length+B.length) ((A.length:Nat):Int) 0 0 0 0 0 v7 v8 (wU O) lb la g) (Z2 hrow)).mono fun e z hz'=> ?_;obtain⟨rfl,⟨g',e1⟩,e2⟩:=hz';refine⟨.inr rfl,?_,?_⟩
  ·rw[e1,e2,ec,et];rfl
  ·rw[e2];refine⟨wU (O.drop (Z3 O)),?_⟩;have e3:wU (d16 (vb 65536 A*vb 65536 B))++wU (O.drop (Z3 O))=wU O:=by
    unfold d16;rw[← hval,← zj (by omega) _ hO.2.1,← ZO,List.take_append_drop]
   rw[e3];rfl
end
def Zqv (h:Hp) (p q:Option Addr) (n c n' c':Nat):Bool:=zS h p n c && dgB (Zu h p n) && (zS h q n' c' && dgB (Zu h q n')) && Nat.blt (n+n') 1000000
def Zt2:Zcl:=fun vals h s=>
 match vals with
 | [.slice (some ⟨b,o,none⟩) n c,.slice (some ⟨b',o',none⟩) n' c']=>Zei (vO h (some ⟨b,o,none⟩) n*vO h (some ⟨b',o',none⟩) n') h s [(Zqv h (some ⟨b,o,none⟩) (some ⟨b',o',none⟩) n c n' c',true)]
 | _=>none
theorem ZhF:za 69 Zt2:=by
 intro vals h s v h' s' lg hg hl m B w E0 hv;unfold Zt2 at hg;split at hg
 ·rename_i b o n c b' o' n' c';unfold Zei at hg;cases hg;have l3:=hl _ Xf;simp only[Zqv,Xh] at l3;obtain⟨⟨⟨q1,q2⟩,⟨p1,p2⟩⟩,q4⟩:=l3;have q2:=ZaY q2;have p2:=ZaY p2;have q4:=Zk.1 q4;rcases Z8 q1 with ⟨h0,_⟩ | ⟨b1,o1,x,hp,hx,r1,rs,e0⟩
  ·cases h0
  ·cases hp;rcases Z8 p1 with ⟨h0,_⟩ | ⟨b2,o2,y,hp',hy,t1,ts,f0⟩
   ·cases h0
   ·cases hp';rw[e0] at q2;rw[f0] at p2;obtain⟨h1,h2',h3,h4,h5,h6,h7⟩:=ZU r1;obtain⟨k1,k2,k3,k4,k5,k6,k7⟩:=ZU t1;have ev:vO h (some ⟨b,o,none⟩) n=vb 65536 (zu x.1 o n):=by unfold vO;rw[e0]
    have ev':vO h (some ⟨b',o',none⟩) n'=vb 65536 (zu y.1 o' n'):=by unfold vO;rw[f0]
    have r:=ZlU (c:=c) (c':=c') h1 k1 q2 p2 (by rw[h2',k2];exact q4);rw[h2',k2,← ev,← ev'] at r;have evals:List.map (rn (pair b b')) [sl 0 o n c,sl 1 o' n' c']=[.slice (some ⟨b,o,none⟩) n c,.slice (some ⟨b',o',none⟩) n' c']:=by
     simp [rn,rn2,rn1,sl,pair]
    have fin:=zm (T:=Zp prog Zh Zo hcV) func69 ZfL (Zob h7 k7) (vals:=[sl 0 o n c,sl 1 o' n' c']) (fun v hv=>by
     simp only[List.mem_cons,List.not_mem_nil,or_false] at hv;rcases hv with h1 | h1<;>rw[h1]<;>rfl) (k:=2) (cs:=wU (d16 (vO h (some ⟨b,o,none⟩) n*vO h (some ⟨b',o',none⟩) n'))) (ty:=tU) (Zbs _) (by kernel_rfl) r.w (by rfl) E0 (s:=pair b b') (ZkX hx h5 h6 hy k5 k6)
    rw[evals] at fin;exact fin
 ·cases hg
end Go.Proofs.YtekebccjflilnaaGreat
namespace Go.Proofs.YtekebccjflilnaaGreat
open Go.KRun Go.Nt Go.Wd Go.Rn Go.Pt
set_option maxRecDepth 100000
theorem Zt3 {F Ex Ey:Int}(h1:F≤Ex) (h2:F≤Ey) (n n':Nat):F≤Zce Ex Ey n n':=by
 unfold Zce Zl;split
 ·exact h1
 ·split
  ·exact h2
  ·split<;>omega
theorem Zt4 {F Ex Ey:Int}(h1:F≤Ex) (h2:F≤Ey) {n n' X Y:Nat}(hX:n=0↔X=0) (hY:n'=0↔Y=0) (nx ny:Bool):smI F nx Ex X ny Ey Y=smI (Zce Ex Ey n n') nx Ex X ny Ey Y*((2^(Zce Ex Ey n n'-F).toNat:Nat):Int):=by
 by_cases c1:n'=0
 ·have e:Zce Ex Ey n n'=Ex:=by unfold Zce;rw[if_pos c1]
  rw[e,hY.1 c1];unfold smI;rw[Zbu,Zbu,Zc4,Int.add_zero,Int.add_zero,ZeH h1 (Int.le_refl Ex),ZeI]
 ·by_cases c2:n=0
  ·have e:Zce Ex Ey n n'=Ey:=by unfold Zce;rw[if_neg c1,if_pos c2]
   rw[e,hX.1 c2];unfold smI;rw[Zbu,Zbu,Zc4,Int.zero_add,Int.zero_add,ZeH h2 (Int.le_refl Ey),ZeI]
  ·have e:Zce Ex Ey n n'=Zl Ex Ey:=by unfold Zce;rw[if_neg c1,if_neg c2]
   rw[e];exact ZkO (by unfold Zl;split<;>omega) (by unfold Zl;split<;>omega) (by unfold Zl;split<;>omega) nx ny X Y
theorem ZfM (V:Nat):(d16 V).length=0↔V=0:=by
 constructor
 ·intro h;exact ZaW (by omega)
 ·intro h;rw[h];unfold d16;rw[zx];rfl
theorem ZlV {Ex Ey:Int}(n n':Nat):Zce Ex Ey n n'=Ex∨Zce Ex Ey n n'=Ey:=by
 unfold Zce Zl;split
 ·exact .inl rfl
 ·split
  ·exact .inr rfl
  ·split
   ·exact .inr rfl
   ·exact .inl rfl
theorem ZlW {F E:Int}{X k j:Nat}(hX:X<2^k) (h:(E-F).toNat≤j):szF F E X<2^(k+j):=by
 unfold szF;have hp:0<2^(E-F).toNat:=Nat.pow_pos (by omega);have h1:=Nat.mul_lt_mul_of_pos_right hX hp;rw[← Nat.pow_add] at h1;exact Nat.lt_of_lt_of_le h1 (Nat.pow_le_pow_right (by omega) (by omega))
end Go.Proofs.YtekebccjflilnaaGreat
namespace Go.Proofs.YtekebccjflilnaaGreat
open Go.Proofs.Tryz
open Go.IntKind
open Go.KRun Go.Nt Go.Wd Go.Pt Go.Rn
set_option maxRecDepth 100000
theorem Z0Y (a b:Int):Zw (Ze (Zp prog Zh ZcI hcS) 300 31 [.int .u64 a,.int .u64 b] [cmp true,cmp true]) (.bool true) [(mag b==9218868437227405312,true),(mag a==0,true),lU b,lU a]:=by and_intros<;>kernel_rfl
theorem Zxf (a b:Int):Zw (Ze (Zp prog Zh ZcI hcS) 300 31 [.int .u64 a,.int .u64 b] [cmp true,cmp false,cmp false]) (.bool false) [(mag b==0,false),(mag b==9218868437227405312,false),(mag a==0,true),lU b,lU a]:=by and_intros<;>kernel_rfl
theorem Zxg (a b:Int):Zw (Ze (Zp prog Zh ZcI hcS) 300 31 [.int .u64 a,.int .u64 b] [cmp true,cmp false,cmp true,cmp false]) (.bool false) [(mag a==9218868437227405312,false),(mag b==0,true),(mag b==9218868437227405312,false),(mag a==0,true),lU b,lU a]:=by and_intros<;>kernel_rfl
theorem Z0Z (a b:Int):Zw (Ze (Zp prog Zh ZcI hcS) 300 31 [.int .u64 a,.int .u64 b] [cmp false,cmp false]) (.bool false) [(mag b==0,false),(mag a==0,false),lU b,lU a]:=by and_intros<;>kernel_rfl
theorem Zxh (a b:Int):Zw (Ze (Zp prog Zh ZcI hcS) 300 31 [.int .u64 a,.int .u64 b] [cmp false,cmp true,cmp true]) (.bool true) [(mag a==9218868437227405312,true),(mag b==0,true),(mag a==0,false),lU b,lU a]:=by and_intros<;>kernel_rfl
theorem Zxi (a b:Int):Zw (Ze (Zp prog Zh ZcI hcS) 300 31 [.int .u64 a,.int .u64 b] [cmp false,cmp true,cmp false]) (.bool false) [(mag a==9218868437227405312,false),(mag b==0,true),(mag a==0,false),lU b,lU a]:=by and_intros<;>kernel_rfl
theorem Z1a (p a b:Int):Zw (Ze (Zp prog Zh ZcI hcS) 300 33 [.int .u64 p,.int .u64 a,.int .u64 b] [cmp true,cmp true]) (.int .u64 p) [(decide (b≥9223372036854775808),true),(decide (a≥9223372036854775808),true)]:=by and_intros<;>kernel_rfl
theorem Z1b (p a b:Int):Zw (Ze (Zp prog Zh ZcI hcS) 300 33 [.int .u64 p,.int .u64 a,.int .u64 b] [cmp true,cmp false]) (.int .u64 (u64.wrap (p+9223372036854775808))) [(decide (b≥9223372036854775808),false),(decide (a≥9223372036854775808),true)]:=by and_intros<;>kernel_rfl
theorem Z1c (p a b:Int):Zw (Ze (Zp prog Zh ZcI hcS) 300 33 [.int .u64 p,.int .u64 a,.int .u64 b] [cmp false,cmp true]) (.int .u64 (u64.wrap (p+9223372036854775808))) [(decide (b≥9223372036854775808),true),(decide (a≥9223372036854775808),false)]:=by and_intros<;>kernel_rfl
theorem Z1d (p a b:Int):Zw (Ze (Zp prog Zh ZcI hcS) 300 33 [.int .u64 p,.int .u64 a,.int .u64 b] [cmp false,cmp false]) (.int .u64 p) [(decide (b≥9223372036854775808),false),(decide (a≥9223372036854775808),false)]:=by and_intros<;>kernel_rfl
theorem Zt5 (p:Int):cl p=0↔mag p=0:=by
 have h1:=Zqe p;have h2:=Zio p;have h3:=Zgk p;rw[h1];unfold cl;split
 ·split<;>omega
 ·split
  ·split
   ·omega
   ·split<;>omega
  ·omega
theorem ZiU (a b:Int) (ha:U a) (hb:U b) (w:World):Calls prog 31 #[.int .u64 a,.int .u64 b] w fun r w'=>r= .returned (.bool (zh a b))∧zg w w':=by
 have hv:([.int .u64 a,.int .u64 b].all (lt 0))=true:=rfl;have T:=Zg ZeY ZhD;have ka:decide (U a)=true:=Xa ha;have kb:decide (U b)=true:=Xa hb;have e:zh a b=decide ((mag a=0∧mag b=9218868437227405312)∨(mag a=9218868437227405312∧mag b=0)):=by
  unfold zh;simp only[Zt5,(Zd1 a).2.1,(Zd1 b).2.1]
 rw[e];by_cases az:mag a=0
 ·have ai:mag a≠9218868437227405312:=by omega
  by_cases bi:mag b=9218868437227405312
  ·rw[Xa (.inl ⟨az,bi⟩)];exact Zb T (Z0Y a b) (Za (Z1 bi) (Za (Z1 az) (Za kb (Zz ka)))) hv (by rfl) w
  ·rw[Xb (by omega)];by_cases bz:mag b=0
   ·exact Zb T (Zxg a b) (Za (Zq ai) (Za (Z1 bz) (Za (Zq bi) (Za (Z1 az) (Za kb (Zz ka)))))) hv (by rfl) w
   ·exact Zb T (Zxf a b) (Za (Zq bz) (Za (Zq bi) (Za (Z1 az) (Za kb (Zz ka))))) hv (by rfl) w
 ·by_cases bz:mag b=0
  ·by_cases ai:mag a=9218868437227405312
   ·rw[Xa (.inr ⟨ai,bz⟩)];exact Zb T (Zxh a b) (Za (Z1 ai) (Za (Z1 bz) (Za (Zq az) (Za kb (Zz ka))))) hv (by rfl) w
   ·rw[Xb (by omega)];exact Zb T (Zxi a b) (Za (Zq ai) (Za (Z1 bz) (Za (Zq az) (Za kb (Zz ka))))) hv (by rfl) w
  ·rw[Xb (by omega)];exact Zb T (Z0Z a b) (Za (Zq bz) (Za (Zq az) (Za kb (Zz ka)))) hv (by rfl) w
def sgB (p a b:Int):Int:=sS (prN a b) p
theorem ZiV (p a b:Int) (hp:0≤p∧p<9223372036854775808) (w:World):Calls prog 33 #[.int .u64 p,.int .u64 a,.int .u64 b] w fun r w'=>r= .returned (.int .u64 (sgB p a b))∧zg w w':=by
 have hv:([.int .u64 p,.int .u64 a,.int .u64 b].all (lt 0))=true:=rfl;have T:=Zg ZeY ZhD;have e1:u64.wrap (p+9223372036854775808)=sS true p:=by
  rw[wrapU' ⟨by omega,by omega⟩];simp only[sS,if_true];omega
 have e0:p=sS false p:=by simp [sS]
 unfold sgB prN;by_cases sa:a≥9223372036854775808
 ·have na:sgn a=true:=Xa sa;by_cases sb:b≥9223372036854775808
  ·have nb:sgn b=true:=Xa sb;rw[na,nb,show (true !=true)=false from rfl,← e0];exact Zb T (Z1a p a b) (Za (Xa sb) (Zz (Xa sa))) hv (by rfl) w
  ·have nb:sgn b=false:=Xb sb;rw[na,nb,show (true !=false)=true from rfl,← e1];exact Zb T (Z1b p a b) (Za (Xb sb) (Zz (Xa sa))) hv (by rfl) w
 ·have na:sgn a=false:=Xb sa;by_cases sb:b≥9223372036854775808
  ·have nb:sgn b=true:=Xa sb;rw[na,nb,show (false !=true)=true from rfl,← e1];exact Zb T (Z1c p a b) (Za (Xa sb) (Zz (Xb sa))) hv (by rfl) w
  ·have nb:sgn b=false:=Xb sb;rw[na,nb,show (false !=false)=false from rfl,← e0];exact Zb T (Z1d p a b) (Za (Xb sb) (Zz (Xb sa))) hv (by rfl) w
def Z1e:Ans:=fun vals s=>
 match vals with
 | [.int .u64 p,.int .u64 a,.int .u64 b]=>some (.int .u64 (sgB p a b),s,[(decide (0≤p∧p<9223372036854775808),true)])
 | _=>none
theorem Zt6:ZJ 33 Z1e:=by
 intro vals s v s' lg h hl w;unfold Z1e at h;split at h
 ·cases h;exact ZiV _ _ _ (Xc (hl _ Xf)) w
 ·cases h
def z7:Con:=alt 31 (ZyT zh) (alt 33 Z1e ZcI)
theorem ZhG:ConOk z7:=Zy func31 rfl (ZkM ZiU) (Zy func33 rfl Zt6 ZeY)
def hcM:Hc:=Zb4 69 Zt2 hcS
theorem Zxj:HcOk hcM:=ZA func69 rfl ZhF ZhD
end Go.Proofs.YtekebccjflilnaaGreat
namespace Go.Proofs.YtekebccjflilnaaGreat
open Go.Proofs.Tryz
open Go.IntKind
open Go.KRun Go.Nt Go.Wd Go.Pt Go.Rn
set_option maxRecDepth 100000
set_option linter.unusedVariables false
theorem ZoU:f35.body=some (Zv f35):=by kernel_rfl
def hX5 (a b:Int):Hp:=⟨5,[bOf (sgn b) (xp b) (sOf 2 (sg b).toNat),bOf (sgn a) (xp a) (sOf 1 (sg a).toNat),(wU (d16 (sg b).toNat),tU),(wU (d16 (sg a).toNat),tU),bOf false 0 Zn]⟩
def vX (a b:Int):Nat:=vO (hX5 a b) (ad 1 0) (d16 (sg a).toNat).length*vO (hX5 a b) (ad 2 0) (d16 (sg b).toNat).length
theorem Zxk (a b:Int):Zm (evC (Zp prog Zh ZfK hcM) 200 false (Zv f35) ([.int .u64 a,.int .u64 b]++List.replicate 25 undef,⟨0,[]⟩,[]) ⟨[],[],[]⟩) 5 22 (some none) [.int .u64 a,.int .u64 b,.tuple #[],.tuple #[],.pointer (some ⟨0,0,none⟩)] ⟨6,[(wU (d16 (vX a b)),tU),bOf (sgn b) (xp b) (sOf 2 (sg b).toNat),bOf (sgn a) (xp a) (sOf 1 (sg a).toNat),(wU (d16 (sg b).toNat),tU),(wU (d16 (sg a).toNat),tU),bOf (prN a b) (i64.wrap (xp a+xp b)) (sOf 5 (vX a b))]⟩ [(Zqv (hX5 a b) (ad 1 0) (ad 2 0) (d16 (sg a).toNat).length (d16 (sg a).toNat).length (d16 (sg b).toNat).length (d16 (sg b).toNat).length,true),lU b,lU a]:=by and_intros<;>kernel_rfl
theorem Z1f (p:Int):(d16 (sg p).toNat).length≤4:=by
 have:=ZbK p;refine zI (k:=4) ?_;have e:(2:Nat)^(16*4)=18446744073709551616:=rfl;omega
theorem Z1g (a b:Int):vX a b=prV a b:=by
 have h1:(hX5 a b).blk? 1=some (wU (d16 (sg a).toNat),tU):=rfl;have h2:(hX5 a b).blk? 2=some (wU (d16 (sg b).toNat),tU):=rfl;unfold vX prV;rw[ZdL h1,ZdL h2]
theorem ZoV (a b:Int):Zqv (hX5 a b) (ad 1 0) (ad 2 0) (d16 (sg a).toNat).length (d16 (sg a).toNat).length (d16 (sg b).toNat).length (d16 (sg b).toNat).length=true:=by
 have h1:(hX5 a b).blk? 1=some (wU (d16 (sg a).toNat),tU):=rfl;have h2:(hX5 a b).blk? 2=some (wU (d16 (sg b).toNat),tU):=rfl;have la:=Z1f a;have lb:=Z1f b;unfold Zqv ad;rw[ZE h1 (by omega),Zaa h1,ZE h2 (by omega),Zaa h2,Zk.2 (by omega)];rfl
def gXx:Zcl:=fun vals h s=>
 match vals with
 | [.int .u64 a,.int .u64 b]=>some (vRN (prN a b) (prE a b) (sOf h.n (prV a b)),h.push (wU (d16 (prV a b))) tU,s,[(decide (U a∧U b),true)])
 | _=>none
theorem Zxl:za 35 gXx:=by
 intro vals h s v h' s' lg hg hl m B w E hv;unfold gXx at hg;split at hg
 ·rename_i a b;cases hg;obtain⟨q1,q2⟩:=Xc (hl _ Xf);have hE:=ZbB a b;have e1:i64.wrap (xp a+xp b)=prE a b:=ZY ⟨by unfold prE at hE;omega,by unfold prE at hE;omega⟩;have hr:RunsW (Zp prog Zh ZfK hcM) (Zv f35) ([.int .u64 a,.int .u64 b]++List.replicate 25 undef,⟨0,[]⟩,[]) fun e z=>(e=none∨e=some none)∧∃ k,Zau prog f35 z.1 z.2.1=some (vRN (prN a b) (prE a b) (sOf k (prV a b)))∧∃ r,z.2.1.blk? k=some (wU (d16 (prV a b))++r,tU):=by
   have hg:=Zxk a b;rw[e1,Z1g] at hg;refine (Zc (Zg ZeX Zxj) hg (Za (ZoV a b) (Za (Xa q2) (Zz (Xa q1))))).mono fun e z he=> ?_;obtain⟨rfl,⟨g,e1⟩,e2⟩:=he;exact⟨.inr rfl,5,by rw[e1,e2];rfl,[],by rw[e2,List.append_nil];rfl⟩
  have:=Zb5 (T:=Zp prog Zh ZfK hcM) func35 ZoU (h0:=⟨0,[]⟩) ⟨rfl,fun b x hx=>by have:b<0:=Hp.blk_lt hx;omega⟩ (vals:=[.int .u64 a,.int .u64 b]) (fun v hv=>by
   simp only[List.mem_cons,List.not_mem_nil,or_false] at hv;rcases hv with h1 | h1<;>rw[h1]<;>rfl) (v:=fun k=>vRN (prN a b) (prE a b) (sOf k (prV a b))) (Zbs _) (by kernel_rfl) hr (fun k=>by simp [oc,oc2,oc1,sOf,sl,vRN]) E (s:=fun i=>i) (fun i x hx _=>by have:i<0:=Hp.blk_lt hx;omega) (fun k=>by simp [rn,rn2,rn1,sOf,sl,vRN])
  exact this
 ·cases hg
def hcX:Hc:=Zb4 35 gXx hcS
theorem Zqw:HcOk hcX:=ZA func35 rfl Zxl ZhD
end Go.Proofs.YtekebccjflilnaaGreat
namespace Go.Proofs.YtekebccjflilnaaGreat
open Go.KRun Go.Nt Go.Wd Go.Pt Go.Rn
def hM1 (a b:Int):Hp:=⟨1,[(wU (d16 (prV a b)),tU)]⟩
def hM2 (a b c:Int):Hp:=⟨2,[(wU (d16 (sg c).toNat),tU),(wU (d16 (prV a b)),tU)]⟩
def sM (a b c:Int):Int:=smH (hM2 a b c) (prN a b) (sgn c) (prE a b) (xp c) 0 0 (d16 (prV a b)).length 1 0 (d16 (sg c).toNat).length
def lM (a b c:Int):Int:=Zce (prE a b) (xp c) (d16 (prV a b)).length (d16 (sg c).toNat).length
def Zu7 (a b c:Int):Hp:=nxt (hM2 a b c) (sM a b c).natAbs
def nM (m a b c:Int):Bool:=sgS m (prN a b) (sgn c) (sM a b c)
end Go.Proofs.YtekebccjflilnaaGreat
