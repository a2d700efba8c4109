/-
  ConVM, SlH, NumS, NumI, ConVG, ConVH, ConVU, SlM, ConO1, NumTo, ConO2, ConO3, NumDg
-/
import Derived.Test.YtjlponbdflkbjaaGreatDoorG09
namespace Go.Proofs.YtjlponbdflkbjaaGreatDoor
open Go.Proofs.Tryz
open Go.IntKind
open Go.KRun Go.Nt
set_option maxRecDepth 100000
set_option linter.unusedVariables false
theorem RunsW.next {T:Tab}{c1 c2:Code}{x:Lf}{front:List Value}{n:Nat}{h:Hp}{P:Ex→Lf→Prop}(h1:RunsW T c1 x fun e y=>e=none∧(∃ g,y.1=front++tl n g)∧y.2.1=h) (h2:∀ g s,RunsW T c2 (front++tl n g,h,s) P):RunsW T (.seq c1 c2) x P:=by
 refine RunsW.seq h1 (fun y hy=> ?_) (fun e y hy=>by cases hy.1);obtain⟨_,⟨g,e1⟩,e2⟩:=hy;obtain⟨t,hh,s⟩:=y;simp only at e1 e2;subst e1 e2;exact h2 g s
theorem ZbJ {h:Hp}{b A:Nat}{ty:TypeId}(hb:h.blk? b=some (wU (d16 A),ty)):Zq h (aP b 0) (d16 A).length=d16 A:=by
 unfold Zq aP;simp only[hb];exact ZaO _
theorem Zqv {h:Hp}{b A:Nat}{ty:TypeId}(hb:h.blk? b=some (wU (d16 A),ty)):vO h (aP b 0) (d16 A).length=A:=by
 unfold vO;rw[ZbJ hb];exact ZbC (by omega) A
theorem Zm0 (A:Nat):∀ x∈d16 A,0≤x∧x<4294967296:=fun x hx=>⟨(Zbd A x hx).1,by have:=(Zbd A x hx).2;omega⟩
theorem Z4s {n:Nat}(h:n<1000000000):ZcZ 0 n n=true:=by
 unfold ZcZ;have:ZA n=true:=by unfold ZA;exact Zo.2 (by have:za=4611686018427387904:=rfl;omega)
 rw[this,Nat.ble_eq_true_of_le (Nat.le_refl n)];rfl
theorem Zgx {h:Hp}{b A:Nat}(hb:h.blk? b=some (wU (d16 A),tU)) (hl:(d16 A).length<1000000000):zJ h (aP b 0) (d16 A).length (d16 A).length=true:=by
 unfold zJ aP;simp only[hb];rw[Zap (Zm0 A) (by omega) (Z4s hl),List.all_eq_true.2 (ZD _)];rfl
theorem Zd9 {h:Hp}{p q:Option Addr}{n c n' c':Nat}(h1:zJ h p n c=true) (h2:zJ h q n' c'=true) (h3:∀ x∈Zq h p n,Dg 65536 x) (h4:∀ x∈Zq h q n',Dg 65536 x) (h5:max n n'+2<1073741824):ZT h p q n c n' c'=true:=by
 unfold ZT;rw[h1,h2,ZbG h3,ZbG h4,Zo.2 h5];rfl
theorem Zc7 {A k:Nat}(h:A<65536^k):(d16 A).length≤k:=ZaZ (by omega) k A h
theorem Zi0 (V:Nat) (i:Int):atN (d16 V) i=if 0≤i then ((V/65536^i.toNat % 65536:Nat):Int) else 0:=by
 unfold atN;split
 ·have h1:=Zhv i.toNat V;have h2:=Zed (Zbd V) i.toNat;have h3:((d16 V).getD i.toNat 0).toNat=V/65536^i.toNat % 65536:=h1;have:=h2.1;omega
 ·rfl
theorem w64 {n:Int}(h0:0≤n) (h1:n<18446744073709551616):u64.wrap n=n:=by simp [IntKind.wrap,IntKind.bits,IntKind.signed];omega
theorem Z07 (V n:Nat) (hn:1≤n) (hn2:n<1000000):tR3 (d16 V) n=(Zqu V n:Int):=by
 have e1:i64.wrap ((n:Int)-1)=((n-1:Nat):Int):=by rw[Zw (by omega) (by omega)];omega
 have e2:i64.wrap ((n:Int)-2)=(n:Int)-2:=Zw (by omega) (by omega);have p32:(2:Int)^min (Int.toNat 32) 64=4294967296:=rfl;have p16:(2:Int)^min (Int.toNat 16) 64=65536:=rfl;have m1:=Nat.mod_lt (V/65536^n) (show 0<65536 by omega);have m2:=Nat.mod_lt (V/65536^(n-1)) (show 0<65536 by omega);have m3:=Nat.mod_lt (V/65536^(n-2)) (show 0<65536 by omega);unfold tR3 Zqu;rw[e1,e2,p32,p16,Zi0,Zi0,Zi0,if_pos (by omega),if_pos (by omega),Xg,Xg];by_cases h2:2≤n
 ·have e3:((n:Int)-2).toNat=n-2:=by omega
  rw[if_pos (by omega),if_pos h2,e3];generalize V/65536^n % 65536=a at*;generalize V/65536^(n-1) % 65536=b at*;generalize V/65536^(n-2) % 65536=d at*;rw[w64 (n:=(a:Int)) (by omega) (by omega),w64 (n:=(a:Int)*4294967296) (by omega) (by omega),w64 (n:=(b:Int)) (by omega) (by omega),w64 (n:=(b:Int)*65536) (by omega) (by omega),w64 (n:=(d:Int)) (by omega) (by omega),w64 (n:=(a:Int)*4294967296+(b:Int)*65536) (by omega) (by omega),w64 (by omega) (by omega)];omega
 ·rw[if_neg (by omega),if_neg h2];generalize V/65536^n % 65536=a at*;generalize V/65536^(n-1) % 65536=b at*;rw[w64 (n:=(a:Int)) (by omega) (by omega),w64 (n:=(a:Int)*4294967296) (by omega) (by omega),w64 (n:=(b:Int)) (by omega) (by omega),w64 (n:=(b:Int)*65536) (by omega) (by omega),w64 (n:=(0:Int)) (by omega) (by omega),w64 (n:=(a:Int)*4294967296+(b:Int)*65536) (by omega) (by omega),w64 (by omega) (by omega)];omega
theorem Z08 {L:List Int}(hC:Zbk 65536 L) (hn:1≤L.length) (hn2:L.length<1000000):tB2 (L.getD (L.length-1) 0) L L.length=(ZoE (vb 65536 L) L.length:Int):=by
 have e2:i64.wrap ((L.length:Int)-2)=(L.length:Int)-2:=Zw (by omega) (by omega);have p16:(2:Int)^min (Int.toNat 16) 64=65536:=rfl;obtain⟨B,hB⟩:∃ B,B=vb 65536 L:=⟨_,rfl⟩;have eL:L=d16 B:=by rw[hB];exact (Zls (by omega) hC).symm
 have ex:L.getD (L.length-1) 0=((B/65536^(L.length-1) % 65536:Nat):Int):=by
  have h1:=Zhv (L.length-1) B;have h2:=(Zed hC.1 (L.length-1)).1;have h3:(L.getD (L.length-1) 0).toNat=B/65536^(L.length-1) % 65536:=by
   rw[← h1];show (L.getD _ 0).toNat=((d16 B).getD _ 0).toNat;rw[← eL]
  omega
 have ea:atN L ((L.length:Int)-2)=if 0≤(L.length:Int)-2 then ((B/65536^((L.length:Int)-2).toNat % 65536:Nat):Int) else 0:=by
  have:=Zi0 B ((L.length:Int)-2);rw[← eL] at this;exact this
 have m2:=Nat.mod_lt (B/65536^(L.length-1)) (show 0<65536 by omega);have m3:=Nat.mod_lt (B/65536^(L.length-2)) (show 0<65536 by omega);unfold tB2 ZoE;rw[← hB,e2,p16,ea,ex];by_cases h2:2≤L.length
 ·have e3:((L.length:Int)-2).toNat=L.length-2:=by omega
  rw[if_pos (by omega),if_pos h2,e3];generalize B/65536^(L.length-1) % 65536=b at*;generalize B/65536^(L.length-2) % 65536=d at*;rw[w64 (n:=(b:Int)) (by omega) (by omega),w64 (n:=(b:Int)*65536) (by omega) (by omega),w64 (n:=(d:Int)) (by omega) (by omega),w64 (by omega) (by omega)];omega
 ·rw[if_neg (by omega),if_neg h2];generalize B/65536^(L.length-1) % 65536=b at*;rw[w64 (n:=(b:Int)) (by omega) (by omega),w64 (n:=(b:Int)*65536) (by omega) (by omega),w64 (n:=(0:Int)) (by omega) (by omega),w64 (by omega) (by omega)];omega
structure Two (la lb:List Value) (o o' c':Nat) (A L:List Int):Prop where
 ra:Row la o A
 rb:Row lb o' L
 dA:∀ x∈A,Dg 65536 x
 cL:Zbk 65536 L
 n1:1≤L.length
 n2:L.length<1000000
 a1:1≤A.length
 a2:A.length<1000000
 cb:Zbm tR lb o' L.length c'=true
 sb:∀ v∈lb,still v=true
 sa:∀ v∈la,still v=true
 eb:Zx lb o' L.length=L
section
variable {la lb : List Value} {o c o' c' : Nat} {A L : List Int}
theorem Two.row (H:Two la lb o o' c' A L) {h:Hp}(hb:h.blk? 1=some (lb,tR)):zJ h (aP 1 o') L.length c'=true∧Zq h (aP 1 o') L.length=L∧vO h (aP 1 o') L.length=vb 65536 L:=by
 have e:Zq h (aP 1 o') L.length=L:=by
  unfold Zq aP;simp only[hb];exact H.eb
 refine⟨?_,e,by unfold vO;rw[e]⟩;unfold zJ aP;simp only[hb];rw[H.cb,List.all_eq_true.2 H.sb];rfl
theorem Two.bnd (H:Two la lb o o' c' A L):65536^(L.length-1)≤vb 65536 L∧vb 65536 L<65536^L.length∧0<vb 65536 L:=by
 have h1:=Z03 H.cL H.n1;have h2:=Zbl (b:=65536) (by omega) L H.cL.1;have:0<65536^(L.length-1):=Nat.pow_pos (by omega);exact⟨h1,h2,by omega⟩
theorem Zb0:TabOk (Zr prog Zf Zn hcP):=Zh Zd Z04
theorem Zqw (V:Nat) {d:Int}(hd:Dg 65536 d):Zl (d::d16 V)=(d16 (d.toNat+65536*V)).length∧wU (d::d16 V)=wU (d16 (d.toNat+65536*V))++wU ((d::d16 V).drop (Zl (d::d16 V))):=by
 have hD:∀ x∈d::d16 V,Dg 65536 x:=fun x hx=>by
  rcases List.mem_cons.1 hx with rfl | hx
  ·exact hd
  ·exact Zbd V x hx
 have ev:vb 65536 (d::d16 V)=d.toNat+65536*V:=by
  simp only[vb];rw[show vb 65536 (d16 V)=V from ZbC (by omega) V]
 have h1:=Zat (b:=65536) (by omega) hD;have h2:=zj (b:=65536) (by omega) _ hD;rw[ev] at h1 h2;refine⟨h1,?_⟩;rw[← ZX];congr 1;show _=db 65536 _++_;rw[← h2,List.take_append_drop]
theorem Z09 {d:Int}(hd:Dg 65536 d):∀ x∈d::([]:List Int),0≤x∧x<4294967296:=fun x hx=>by
 rw[List.mem_singleton.1 hx];exact⟨hd.1,by have:=hd.2;omega⟩
theorem Zqx {wq:List Value}(hq:∀ v∈wq,still v=true) (hb:∀ v∈lb,still v=true) (ha:∀ v∈la,still v=true) {h:Hp}(h0:h.blk? 0=some (la,tR)) (h1:h.blk? 1=some (lb,tR)) (h2:h.blk? 2=some (wq,tU)):∀ i x,(⟨3,[(wq,tU),(lb,tR),(la,tR)]⟩:Hp).blk? i=some x→h.blk? i=some x∧∀ v∈x.1,still v=true:=by
 intro i x hx;have hi:i<3:=Hp.blk_lt hx;have h3:i=0∨i=1∨i=2:=by omega
 rcases h3 with rfl | rfl | rfl
 ·have:(la,tR)=x:=Option.some.inj hx;subst this;exact⟨h0,ha⟩
 ·have:(lb,tR)=x:=Option.some.inj hx;subst this;exact⟨h1,hb⟩
 ·have:(wq,tU)=x:=Option.some.inj hx;subst this;exact⟨h2,hq⟩
theorem ZsW {n n' z t:Nat}{i:Int}{v10 v11:Value}(k1:KRun.lt 4 v10=true) (k2:KRun.lt 4 v11=true):∀ v∈pFr o n c o' n' c' z (sl 3 0 t t) i v10 v11,KRun.lt 4 v=true:=by
 intro v hv;simp only[pFr,List.mem_cons,List.not_mem_nil,or_false] at hv;rcases hv with rfl | rfl | rfl | rfl | rfl | rfl | rfl | rfl | rfl | rfl | rfl | rfl
 ·rfl
 ·rfl
 ·rfl
 ·rfl
 ·rfl
 ·rfl
 ·rfl
 ·rfl
 ·rfl
 ·rfl
 ·exact k1
 ·exact k2
end
end Go.Proofs.YtjlponbdflkbjaaGreatDoor
namespace Go.Proofs.YtjlponbdflkbjaaGreatDoor.Na
open Go.KRun Go.Nt
set_option maxRecDepth 100000
set_option linter.unusedVariables false
def Z9i (H:Hp) (p:Option Addr) (n c V:Nat):Prop:=zJ H p n c=true∧Zq H p n=d32 V
theorem ZfB (V:Nat):wds (d32 V):=Zfx (by omega) V
theorem Zqy {L:List Int}(n:Nat):Zx (wU L) 0 n=L.take n:=by
 unfold Zx Zce wU;rw[List.drop_zero,← List.map_take,List.map_map];exact (List.map_congr_left fun z _=>rfl).trans (List.map_id' _)
theorem Z5K {H:Hp}{b V m:Nat}(hb:H.blk? b=some (wU (dg m (V:Int)),tU)) (hV:V<4294967296^m) (hm:m≤1000):Z9i H (some ⟨b,0,none⟩) (Zl (dg m (V:Int))) m V:=by
 have hw:=Za2 m (V:Int);have hl:=ZS m (V:Int);have ht:=Za4 (dg m (V:Int));refine⟨?_,?_⟩
 ·unfold zJ;simp only[hb];unfold Zbm;have e1:Zak tU=false:=by kernel_rfl
  have e2:Nat.beq (rt tU) tU=true:=by kernel_rfl
  have e3:Nat.ble (0+Zl (dg m (V:Int))) (wU (dg m (V:Int))).length=true:=Nat.ble_eq_true_of_le (by rw[Zah];omega);have e4:Nat.blt (Zl (dg m (V:Int))) 4611686018427387904=true:=Zo.2 (by omega);have e5:((Zce (wU (dg m (V:Int))) 0 (Zl (dg m (V:Int)))).all isU)=true:=by
   unfold Zce;rw[List.drop_zero];refine List.all_eq_true.2 fun v hv=> ?_;have hv:=List.mem_of_mem_take hv;unfold wU at hv;obtain⟨x,hx,rfl⟩:=List.mem_map.1 hv;exact Xa (hw x hx)
  have e6:ZcZ 0 (Zl (dg m (V:Int))) m=true:=by
   unfold ZcZ;rw[show ZA m=true from Zo.2 (by have:za=4611686018427387904:=rfl;omega),Nat.ble_eq_true_of_le (by omega)];rfl
  rw[e1,e2,e3,e4,e5,e6,List.all_eq_true.2 (ZD _)];rfl
 ·unfold Zq;simp only[hb];rw[Zqy];refine Zu8 ?_;have:((4294967296^m:Nat):Int)=4294967296^m:=by rw[Int.natCast_pow];rfl
  rw[← this];omega
end Go.Proofs.YtjlponbdflkbjaaGreatDoor.Na
namespace Go.Nt
def dgS (L:List Int) (i:Nat):Nat:=(L.getD i 0).toNat
theorem Zcm (k:Nat):2^k=65536^(k/16)*2^(k % 16):=by
 rw[Zf4,← Nat.pow_add];congr 1;omega
theorem Z5L {L:List Int}(h:∀ x∈L,Dg 65536 x) (i:Nat):dgS L i<65536:=by
 unfold dgS;by_cases hi:i<L.length
 ·have:=h (L.getD i 0) (by simp [List.getD,List.getElem?_eq_getElem hi]);omega
 ·simp [List.getD,List.getElem?_eq_none (show L.length≤i by omega)]
theorem Zm1 {L:List Int}(h:∀ x∈L,Dg 65536 x) (z:Nat):vb 65536 L/65536^z=vb 65536 (L.drop z)∧vb 65536 L % 65536^z=vb 65536 (L.take z):=by
 have hp:0<65536^z:=Nat.pow_pos (by omega);by_cases hz:z≤L.length
 ·have e:vb 65536 L=vb 65536 (L.take z)+65536^z*vb 65536 (L.drop z):=by
   conv=>lhs;rw[← List.take_append_drop z L]
   rw[Zay,List.length_take,show min z L.length=z by omega]
  have hl:vb 65536 (L.take z)<65536^z:=by
   have:=Zbl (b:=65536) (by omega) (L.take z) (fun x hx=>h x (List.mem_of_mem_take hx));rw[List.length_take,show min z L.length=z by omega] at this;exact this
  rw[e];exact⟨by rw[Nat.add_mul_div_left _ _ hp,Nat.div_eq_of_lt hl,Nat.zero_add],by rw[Nat.add_mul_mod_self_left,Nat.mod_eq_of_lt hl]⟩
 ·have hl:vb 65536 L<65536^z:=by
   have h1:=Zbl (b:=65536) (by omega) L h;have h2:=Nat.pow_le_pow_right (show 0<65536 by omega) (show L.length≤z by omega);omega
  rw[List.drop_of_length_le (by omega),List.take_of_length_le (by omega)];exact⟨Nat.div_eq_of_lt hl,Nat.mod_eq_of_lt hl⟩
theorem Zcj {L:List Int}{z:Nat}:vb 65536 (L.drop z)=dgS L z+65536*vb 65536 (L.drop (z+1)):=by
 by_cases hz:z<L.length
 ·rw[List.drop_eq_getElem_cons hz];simp only[vb,dgS];simp [List.getD,List.getElem?_eq_getElem hz]
 ·rw[List.drop_of_length_le (by omega),List.drop_of_length_le (by omega)];simp [vb,dgS,List.getD,List.getElem?_eq_none (show L.length≤z by omega)]
theorem Zhw {s:Nat}(h:s≤16):2^s*2^(16-s)=65536:=by rw[← Nat.pow_add,show s+(16-s)=16 by omega]
theorem Z0A {L:List Int}(h:∀ x∈L,Dg 65536 x) (k:Nat):vb 65536 L/2^k % 2=dgS L (k/16)/2^(k % 16) % 2:=by
 obtain⟨e,_⟩:=Zm1 h (k/16);rw[Zcm,← Nat.div_div_eq_div_mul,e,Zcj];have hd:=Zhw (s:=k % 16+1) (by omega);have e2:65536*vb 65536 (L.drop (k/16+1))=2^(k % 16)*(2*(2^(16-(k % 16+1))*vb 65536 (L.drop (k/16+1)))):=by
  rw[← hd,Nat.pow_succ];simp only[Nat.mul_assoc]
 have hp:0<2^(k % 16):=Nat.pow_pos (by omega);rw[e2,Nat.add_mul_div_left _ _ hp];omega
theorem lost_iff {L:List Int}(h:∀ x∈L,Dg 65536 x) (k:Nat):(vb 65536 L % 2^k≠0)↔(vb 65536 (L.take (k/16))≠0∨dgS L (k/16) % 2^(k % 16)≠0):=by
 obtain⟨e1,e2⟩:=Zm1 h (k/16);have hp:0<65536^(k/16):=Nat.pow_pos (by omega);rw[Zcm,Nat.mod_mul,e1,e2,Zcj];have hd:=Zhw (s:=k % 16) (by omega);have e3:(dgS L (k/16)+65536*vb 65536 (L.drop (k/16+1))) % 2^(k % 16)=dgS L (k/16) % 2^(k % 16):=by
  rw[← hd,Nat.mul_assoc,Nat.add_mul_mod_self_left]
 rw[e3];generalize dgS L (k/16) % 2^(k % 16)=r;generalize vb 65536 (L.take (k/16))=u;constructor
 ·intro h0;by_cases hu:u=0
  ·right
   intro hr;apply h0;rw[hu,hr,Nat.mul_zero]
  ·exact .inl hu
 ·rintro (h0 | h0) hh
  ·omega
  ·have:0<65536^(k/16)*r:=Nat.mul_pos hp (by omega);omega
theorem Zm2 {O:List Int}{P R y x0 x1 j W:Nat}(hPR:P*R=65536) (hO:O.length=j) (h:vb 65536 O*P+y=W+65536^j*(x0 % P)):
  vb 65536 (O++[((x0/P+x1 % P*R:Nat):Int)])*P+y=(W+65536^j*x0)+65536^(j+1)*(x1 % P):=by
 have e:vb 65536 (O++[((x0/P+x1 % P*R:Nat):Int)])=vb 65536 O+65536^j*(x0/P+x1 % P*R):=by
  rw[Zda,hO,Xg]
 have e2:=Nat.div_add_mod x0 P;have e3:65536^j*(x0/P+x1 % P*R)*P=65536^j*(P*(x0/P))+65536^(j+1)*(x1 % P):=by
  rw[Nat.mul_assoc,Nat.add_mul,Nat.mul_add,Nat.mul_comm (x0/P) P,Nat.mul_assoc (x1 % P),Nat.mul_comm R P,hPR,Nat.pow_succ,Nat.mul_comm (x1 % P),Nat.mul_assoc]
 have e4:65536^j*x0=65536^j*(P*(x0/P))+65536^j*(x0 % P):=by rw[← Nat.mul_add,e2]
 rw[e,Nat.add_mul,e3];omega
theorem Zm3 {P R x0 x1:Nat}(hP:0<P) (hPR:P*R=65536) (h0:x0<65536):x0/P+x1 % P*R<65536:=by
 have h1:x0/P<R:=Nat.div_lt_of_lt_mul (by omega);have h2:x1 % P+1≤P:=Nat.mod_lt _ hP;have h3:=Nat.mul_le_mul_right R h2;rw[Nat.add_mul,Nat.one_mul,hPR] at h3;omega
theorem Zqz {L:List Int}(h:∀ x∈L,Dg 65536 x) {k V':Nat}(e:V'*2^(k % 16)+dgS L (k/16) % 2^(k % 16)=vb 65536 (L.drop (k/16))):V'=vb 65536 L/2^k:=by
 have hp:0<2^(k % 16):=Nat.pow_pos (by omega);obtain⟨e1,_⟩:=Zm1 h (k/16);rw[Zcm,← Nat.div_div_eq_div_mul,e1,← e,Nat.add_comm,Nat.mul_comm,Nat.add_mul_div_left _ _ hp,Nat.div_eq_of_lt (Nat.mod_lt _ hp),Nat.zero_add]
theorem Zm4 {b:Nat}:∀ {L:List Int}{j:Nat},j<L.length→∀ v:Int,vb b (L.set j v)+b^j*(L.getD j 0).toNat=vb b L+b^j*v.toNat
 | [],_,h,_=>by simp at h
 | x::L,0,_,v=>by simp [vb];omega
 | x::L,j+1,h,v=>by
  have ih:=Zm4 (b:=b) (L:=L) (j:=j) (by simpa using h) v;have e:(x::L).getD (j+1) 0=L.getD j 0:=by simp [List.getD]
  simp only[List.set,vb,e];have h2:=congrArg (fun t=>b*t) ih;simp only[Nat.mul_add] at h2;rw[Nat.pow_succ,Nat.mul_comm (b^j) b,Nat.mul_assoc,Nat.mul_assoc];omega
theorem Zm5 {L:List Int}(h:∀ x∈L,Dg 65536 x) {v:Int}(hv:Dg 65536 v) (j:Nat):∀ x∈L.set j v,Dg 65536 x:=fun x hx=>by
 rcases List.mem_or_eq_of_mem_set hx with hx | rfl
 ·exact h x hx
 ·exact hv
theorem Zq0 {L:List Int}{j:Nat}(hj:j<L.length) (hL:∀ x∈L,Dg 65536 x) {c p q:Nat}(hc:c<65536) (hp:p<65536) (hq:q<65536):
  let t:=c+(L.getD j 0).toNat+p*q
  vb 65536 (L.set j ((t % 65536:Nat):Int))+t/65536*65536^(j+1)=vb 65536 L+c*65536^j+p*q*65536^j∧t/65536<65536∧(∀ x∈L.set j ((t % 65536:Nat):Int),Dg 65536 x):=by
 intro t;have hd:(L.getD j 0).toNat<65536:=Z5L hL j;have hpq:p*q≤65535*65535:=Nat.mul_le_mul (by omega) (by omega);have ht:t=c+(L.getD j 0).toNat+p*q:=rfl;refine⟨?_,by omega,Zm5 hL ⟨by omega,by omega⟩ j⟩;have h1:=Zm4 (b:=65536) hj ((t % 65536:Nat):Int);rw[Xg] at h1;have h2:=Nat.div_add_mod t 65536;have h3:65536^j*t=65536^j*(65536*(t/65536))+65536^j*(t % 65536):=by rw[← Nat.mul_add,h2]
 have h4:65536^j*t=65536^j*c+65536^j*(L.getD j 0).toNat+65536^j*(p*q):=by rw[ht,Nat.mul_add,Nat.mul_add]
 have h5:t/65536*65536^(j+1)=65536^j*(65536*(t/65536)):=by rw[Nat.pow_succ,Nat.mul_comm,Nat.mul_assoc]
 rw[h5,Nat.mul_comm c,Nat.mul_comm (p*q)];omega
end Go.Nt
namespace Go.Proofs.YtjlponbdflkbjaaGreatDoor
open Go.Proofs.Tryz
open Go.IntKind
open Go.KRun Go.Nt
set_option maxRecDepth 100000
set_option linter.unusedVariables false
def muB (F:Func):Code:=Z2 (Zz (Zz (Zs F)))
def muO (F:Func):Code:=cIn (cIn (Zz (muB F)))
def muI (F:Func):Code:=cIn (Z2 (Zz (muO F)))
def muL (F:Func):Code:=cIn (cIn (Zz (Z2 (Zz (muI F)))))
def ZyU (F:Func):List Code:=[Z2 (Zs F),Z2 (Zz (Zs F))]
def muE (F:Func):Code:=Zz (Zz (Zz (Zs F)))
theorem Zgy:f52.body=some (ZW (ZyU f52) (.seq (.seq (Z2 (muB f52)) (.block 0 (.loop (muO f52)))) (muE f52))):=by kernel_rfl
theorem Zi1:muO f52= .seq (Z2 (muO f52)) (.seq (.block 1 (muI f52)) (Zz (Zz (muO f52)))):=by kernel_rfl
theorem Zq1:muI f52= .seq (Z2 (muI f52)) (.seq (.seq (Z2 (Z2 (Zz (muI f52)))) (.block 2 (.loop (muL f52)))) (Zz (Zz (muI f52)))):=by kernel_rfl
def mFr (o n c o' n' c' z:Nat) (i v7 v8:Value):List Value:=[sl 0 o n c,sl 1 o' n' c',undef,undef,Zp,sl 2 0 z z,i,v7,v8]
def hM3 (lo lb la:List Value):Hp:=⟨3,[(lo,tU),(lb,tR),(la,tR)]⟩
def zM (n n':Nat):Int:=i64.wrap ((n:Int)+n')
def inM (j:Int) (n:Nat):Bool×Bool:=(decide (0≤j∧j<(n:Int)),true)
def ceM (l:List Value) (o:Nat) (j x:Int):Bool×Bool:=(Z5 (l[o+j.toNat*1]?) (.int .u32 x),true)
def stM (l:List Value) (j:Int):Bool×Bool:=(decide (0+j.toNat*1<l.length),true)
def d65:Bool×Bool:=(decide ((65536:Int)=0),false)
def tM (c7 d p q:Int):Int:=u64.wrap (u64.wrap (c7+u64.wrap d)+u64.wrap (u64.wrap p*u64.wrap q))
def ijM (i k:Int):Int:=i64.wrap (i+k)
theorem Z0B (o n c o' n' c':Nat) (la lb:List Value):Zg (evL (Zr prog Zf Zn hcV) 200 (ZyU f52) ([sl 0 o n c,sl 1 o' n' c']++List.replicate 66 undef,h2 la lb,[at_]) ⟨[],[],[]⟩) 6 62 none [sl 0 o n c,sl 1 o' n' c',undef,undef,Zp,sl 2 0 (zM n n').toNat (zM n n').toNat] (hM3 (List.replicate (zM n n').toNat (.int .u32 0)) lb la) [(ZI 4 (zM n n') (zM n n'),true)]:=by and_intros<;>kernel_rfl
theorem Z0C (v0 v1 v5:Value) (h:Hp) (g:Nat→Value):Zg (evC (Zr prog Zf Zn hcV) 200 false (Z2 (muB f52)) ([v0,v1,undef,undef,Zp,v5]++tl 62 g,h,[]) ⟨[],[],[]⟩) 9 59 none [v0,v1,undef,undef,Zp,v5,.int .i64 0,g 1,g 2] h []:=by and_intros<;>kernel_rfl
theorem Z5M (o n c o' n' c' z:Nat) (i c7 k d p q:Int) (v7 v8:Value) (lo lb la:List Value) (g:Nat→Value):Zg (evC (Zr prog Zf Zn hcV) 200 false (Z2 (muO f52)) (mFr o n c o' n' c' z (.int .i64 i) v7 v8++tl 59 g,hM3 lo lb la,[cmp true]) ⟨[],[],[]⟩) 9 59 none (mFr o n c o' n' c' z (.int .i64 i) v7 v8) (hM3 lo lb la) [(decide (i<(n:Int)),true)]:=by and_intros<;>kernel_rfl
theorem Z5N (o n c o' n' c' z:Nat) (i c7 k d p q:Int) (v7 v8:Value) (lo lb la:List Value) (g:Nat→Value):Zg (evC (Zr prog Zf Zn hcV) 200 false (Z2 (muO f52)) (mFr o n c o' n' c' z (.int .i64 i) v7 v8++tl 59 g,hM3 lo lb la,[cmp false]) ⟨[],[],[]⟩) 9 59 (some (some 0)) (mFr o n c o' n' c' z (.int .i64 i) v7 v8) (hM3 lo lb la) [(decide (i<(n:Int)),false)]:=by and_intros<;>kernel_rfl
theorem Z5O (o n c o' n' c' z:Nat) (i c7 k d p q:Int) (v7 v8:Value) (lo lb la:List Value) (g:Nat→Value):Zg (evC (Zr prog Zf Zn hcV) 200 false (Z2 (muI f52)) (mFr o n c o' n' c' z (.int .i64 i) v7 v8++tl 59 g,hM3 lo lb la,[]) ⟨[],[],[]⟩) 9 59 none (mFr o n c o' n' c' z (.int .i64 i) (.int .u64 0) v8) (hM3 lo lb la) []:=by and_intros<;>kernel_rfl
theorem Z5P (o n c o' n' c' z:Nat) (i c7 k d p q:Int) (v7 v8:Value) (lo lb la:List Value) (g:Nat→Value):Zg (evC (Zr prog Zf Zn hcV) 200 false (Z2 (Z2 (Zz (muI f52)))) (mFr o n c o' n' c' z (.int .i64 i) v7 v8++tl 59 g,hM3 lo lb la,[]) ⟨[],[],[]⟩) 9 59 none (mFr o n c o' n' c' z (.int .i64 i) v7 (.int .i64 0)) (hM3 lo lb la) []:=by and_intros<;>kernel_rfl
theorem Z5Q (o n c o' n' c' z:Nat) (i c7 k d p q:Int) (v7 v8:Value) (lo lb la:List Value) (g:Nat→Value):Zg (evC (Zr prog Zf Zn hcV) 200 false (muL f52) (mFr o n c o' n' c' z (.int .i64 i) (.int .u64 c7) (.int .i64 k)++tl 59 g,hM3 lo lb la,[cmp true,at_,val (.int .u32 d),at_,val (.int .u32 p),at_,val (.int .u32 q),cmp true,at_,at_]) ⟨[],[],[]⟩) 9 59 none (mFr o n c o' n' c' z (.int .i64 i) (.int .u64 (u64.wrap ((tM c7 d p q).tdiv 65536))) (.int .i64 (i64.wrap (k+1)))) (hM3 (lo.set (0+(ijM i k).toNat*1) (.int .u32 (u32.wrap ((tM c7 d p q).tmod 65536)))) lb la) [stM lo (ijM i k),inM (ijM i k) z,d65,ceM lb o' k q,inM k n',ceM la o i p,inM i n,ceM lo 0 (ijM i k) d,inM (ijM i k) z,(decide (k<(n':Int)),true)]:=by and_intros<;>kernel_rfl
theorem Z0D (o n c o' n' c' z:Nat) (i c7 k d p q:Int) (v7 v8:Value) (lo lb la:List Value) (g:Nat→Value):Zg (evC (Zr prog Zf Zn hcV) 200 false (muL f52) (mFr o n c o' n' c' z (.int .i64 i) (.int .u64 c7) (.int .i64 k)++tl 59 g,hM3 lo lb la,[cmp false]) ⟨[],[],[]⟩) 9 59 (some (some 2)) (mFr o n c o' n' c' z (.int .i64 i) (.int .u64 c7) (.int .i64 k)) (hM3 lo lb la) [(decide (k<(n':Int)),false)]:=by and_intros<;>kernel_rfl
theorem Z0E (o n c o' n' c' z:Nat) (i c7 k d p q:Int) (v7 v8:Value) (lo lb la:List Value) (g:Nat→Value):Zg (evC (Zr prog Zf Zn hcV) 200 false (Zz (Zz (muI f52))) (mFr o n c o' n' c' z (.int .i64 i) (.int .u64 c7) v8++tl 59 g,hM3 lo lb la,[at_,at_]) ⟨[],[],[]⟩) 9 59 none (mFr o n c o' n' c' z (.int .i64 i) (.int .u64 c7) v8) (hM3 (lo.set (0+(ijM i n').toNat*1) (.int .u32 (u32.wrap c7))) lb la) [stM lo (ijM i n'),inM (ijM i n') z]:=by and_intros<;>kernel_rfl
theorem Z5R (o n c o' n' c' z:Nat) (i c7 k d p q:Int) (v7 v8:Value) (lo lb la:List Value) (g:Nat→Value):Zg (evC (Zr prog Zf Zn hcV) 200 false (Zz (Zz (muO f52))) (mFr o n c o' n' c' z (.int .i64 i) v7 v8++tl 59 g,hM3 lo lb la,[]) ⟨[],[],[]⟩) 9 59 none (mFr o n c o' n' c' z (.int .i64 (i64.wrap (i+1))) v7 v8) (hM3 lo lb la) []:=by and_intros<;>kernel_rfl
theorem Z0F (o n c o' n' c' z:Nat) (i c7 k d p q:Int) (v7 v8:Value) (lo lb la:List Value) (g:Nat→Value):Zg (evC (Zr prog Zf Zn hcV) 200 false (muE f52) (mFr o n c o' n' c' z (.int .i64 i) v7 v8++tl 59 g,hM3 lo lb la,[]) ⟨[],[],[]⟩) 5 63 (some none) [sl 0 o n c,sl 1 o' n' c',undef,undef,sl 2 0 (Zl (Zx lo 0 z)) (Zl (Zx lo 0 z))] (hM3 lo lb la) [(Zbm tU lo 0 z z,true)]:=by and_intros<;>kernel_rfl
theorem Runs.next {T:Tab}{c1 c2:Code}{x:Lf}{front:List Value}{n:Nat}{h:Hp}{P:Ex→Lf→Prop}(h1:Runs T c1 x fun e y=>e=none∧(∃ g,y.1=front++tl n g)∧y.2.1=h) (h2:∀ g s,Runs T c2 (front++tl n g,h,s) P):Runs T (.seq c1 c2) x P:=by
 refine Runs.seq h1 (fun y hy=> ?_) (fun e y hy=>by cases hy.1);obtain⟨_,⟨g,e1⟩,e2⟩:=hy;obtain⟨t,hh,s⟩:=y;simp only at e1 e2;subst e1 e2;exact h2 g s
theorem Zm6 (O:List Int) (j:Nat) (v:Int):(wU O).set j (.int .u32 v)=wU (O.set j v):=by unfold wU;rw[List.map_set]
theorem Zcn {n:Int}(h0:0≤n) (h1:n<18446744073709551616):u64.wrap n=n:=by simp [IntKind.wrap,IntKind.bits,IntKind.signed];omega
theorem Zvk {O:List Int}{j:Nat}(h:j<O.length):(wU O)[0+j*1]? =some (.int .u32 (O.getD j 0)):=by
 rw[Nat.zero_add,Nat.mul_one];unfold wU;rw[List.getElem?_map,List.getElem?_eq_getElem h];simp [List.getD,List.getElem?_eq_getElem h]
theorem Zm7 {n:Nat}(h:n<1000000):ZA n=true:=by
 unfold ZA;exact Zo.2 (by have:za=4611686018427387904:=rfl;omega)
theorem Zm8 {x:Int}(h:Dg 65536 x):∃ p:Nat,x=(p:Int)∧p<65536:=⟨x.toNat,by have:=h.1;omega,by have:=h.1;have:=h.2;omega⟩
section
variable {la lb : List Value} {o c o' c' : Nat} {A B : List Int}
def mSt (o n c o' n' c' z:Nat) (la lb:List Value) (O:List Int) (i:Nat) (v7 v8:Value) (Y:Lf):Prop:=(∃ g,Y.1=mFr o n c o' n' c' z (.int .i64 ((i:Nat):Int)) v7 v8++tl 59 g)∧Y.2.1=hM3 (wU O) lb la
def mOk (z i n':Nat) (O:List Int):Prop:=O.length=z∧(∀ x∈O,Dg 65536 x)∧∀ j,i+n'≤j→O.getD j 0=0
def mIn (o c o' c':Nat) (la lb:List Value) (A B:List Int) (i V:Nat) (m:Nat) (Y:Lf):Prop:=
 ∃ k O c7,m=B.length-k∧k≤B.length∧mOk (A.length+B.length) i B.length O∧c7<65536∧vb 65536 O+c7*65536^(i+k)=V+(A.getD i 0).toNat*vb 65536 (B.take k)*65536^i∧mSt o A.length c o' B.length c' (A.length+B.length) la lb O i (.int .u64 ((c7:Nat):Int)) (.int .i64 ((k:Nat):Int)) Y
def mFi (o c o' c':Nat) (la lb:List Value) (A B:List Int) (i V:Nat) (Y:Lf):Prop:=
 ∃ O c7 v8,mOk (A.length+B.length) i B.length O∧c7<65536∧vb 65536 O+c7*65536^(i+B.length)=V+(A.getD i 0).toNat*vb 65536 B*65536^i∧mSt o A.length c o' B.length c' (A.length+B.length) la lb O i (.int .u64 ((c7:Nat):Int)) v8 Y
theorem Zvl {z i n':Nat}{O:List Int}(h:mOk z i n' O) {j:Nat}(hj:j<i+n') {v:Int}(hv:∀ x∈O.set j v,Dg 65536 x):mOk z i n' (O.set j v):=by
 refine⟨by rw[List.length_set];exact h.1,hv,fun t ht=> ?_⟩;have:=h.2.2 t ht;simp only[List.getD] at*;rw[List.getElem?_set_ne (by omega)];exact this
theorem ZjT (rA:Row la o A) (rB:Row lb o' B) (dA:∀ x∈A,Dg 65536 x) (dB:∀ x∈B,Dg 65536 x) (hz:A.length+B.length<1000000) {i V:Nat}(hi:i<A.length) {Y0:Lf}(h0:mIn o c o' c' la lb A B i V B.length Y0):
  Runs (Zr prog Zf Zn hcV) (.block 2 (.loop (muL f52))) Y0 fun e Y=>match e with | none=>mFi o c o' c' la lb A B i V Y | some none=>False | some (some _)=>False:=by
 refine Runs.forLoop (P:=mFi o c o' c' la lb A B i V) (R:=fun _=>False) (mIn o c o' c' la lb A B i V) ?_ (n:=B.length) h0;rintro m ⟨t,h',s⟩ ⟨k,O,c7,hm,hk,hO,hc,hval,⟨g,ht⟩,hh⟩;simp only at ht hh;subst ht hh;by_cases hlt:k<B.length
 ·have hj:i+k<O.length:=by rw[hO.1];omega
  obtain⟨p,ep,hp⟩:=Zm8 (Zed dA i);obtain⟨q,eq,hq⟩:=Zm8 (Zed dB k);obtain⟨d,ed,hd⟩:=Zm8 (Zed hO.2.1 (i+k));have eij:ijM i k=((i+k:Nat):Int):=by unfold ijM;rw[Zw (by omega) (by omega)];omega
  have hpq:p*q≤65535*65535:=Nat.mul_le_mul (by omega) (by omega);have epq:(p:Int)*(q:Int)=((p*q:Nat):Int):=by simp
  have eT:tM c7 d p q=((c7+d+p*q:Nat):Int):=by
   unfold tM;rw[Zcn (n:=(d:Int)) (by omega) (by omega),Zcn (n:=(p:Int)) (by omega) (by omega),Zcn (n:=(q:Int)) (by omega) (by omega),epq,Zcn (n:=((p*q:Nat):Int)) (by omega) (by omega),Zcn (n:=(c7:Int)+(d:Int)) (by omega) (by omega),Zcn (by omega) (by omega)];omega
  have e1:u64.wrap ((tM c7 d p q).tdiv 65536)=(((c7+d+p*q)/65536:Nat):Int):=by
   rw[eT,Int.tdiv_eq_ediv_of_nonneg (by omega),Zcn (by omega) (by omega)];omega
  have e2:u32.wrap ((tM c7 d p q).tmod 65536)=(((c7+d+p*q) % 65536:Nat):Int):=by
   rw[eT,Int.tmod_eq_emod_of_nonneg (by omega),zk (by omega) (by omega)];omega
  have e3:i64.wrap ((k:Int)+1)=((k+1:Nat):Int):=by rw[Zw (by omega) (by omega)];omega
  have hstep:=Zq0 hj hO.2.1 hc hp hq;rw[ed,Xg] at hstep;obtain⟨s1,s2,s3⟩:=hstep;have hw:=Z5Q o A.length c o' B.length c' (A.length+B.length) i c7 k d p q undef undef (wU O) lb la g;have lg:Z3 [stM (wU O) (ijM i k),inM (ijM i k) (A.length+B.length),d65,ceM lb o' k q,inM k B.length,ceM la o i p,inM i A.length,ceM (wU O) 0 (ijM i k) d,inM (ijM i k) (A.length+B.length),(decide ((k:Int)<((B.length:Nat):Int)),true)]:=by
   have g1:decide (0+(ijM i k).toNat*1<(wU O).length)=true:=Xa (by rw[eij,Xg,Zah];omega);have g2:decide (0≤ijM i k∧ijM i k<((A.length+B.length:Nat):Int))=true:=Xa (by rw[eij];omega);have g3:Z5 (lb[o'+(k:Int).toNat*1]?) (.int .u32 q)=true:=by rw[Xg,Nat.mul_one,rB.cell hlt,eq];simp [Z5]
   have g4:decide (0≤(k:Int)∧(k:Int)<((B.length:Nat):Int))=true:=Xa (by omega);have g5:Z5 (la[o+(i:Int).toNat*1]?) (.int .u32 p)=true:=by rw[Xg,Nat.mul_one,rA.cell hi,ep];simp [Z5]
   have g6:decide (0≤(i:Int)∧(i:Int)<((A.length:Nat):Int))=true:=Xa (by omega);have g7:Z5 ((wU O)[0+(ijM i k).toNat*1]?) (.int .u32 d)=true:=by rw[eij,Xg,Zvk hj,ed];simp [Z5]
   exact Zi g1 (Zi g2 (Zi rfl (Zi g3 (Zi g4 (Zi g5 (Zi g6 (Zi g7 (Zi g2 (Zt (Xa (by omega)))))))))))
  rw[e1,e2,e3,eij,Xg,Nat.zero_add,Nat.mul_one,Zm6] at hw;refine (Zb (Zh Zd Zu) hw (by rw[← Xg (i+k),← eij] at*;exact lg)).mono fun e z hz=> ?_;obtain⟨rfl,z1,z2⟩:=hz;refine⟨B.length-(k+1),by omega,k+1,O.set (i+k) (((c7+d+p*q) % 65536:Nat):Int),(c7+d+p*q)/65536,rfl,by omega,Zvl hO (by omega) s3,s2,?_,z1,z2⟩;rw[Zag,Nat.mul_add,Nat.add_mul,eq,Xg,ep,Xg];rw[ep,Xg] at hval;have x1:p*(65536^k*q)*65536^i=p*q*65536^(i+k):=by rw[Nat.pow_add,Nat.mul_comm (65536^k) q,← Nat.mul_assoc,Nat.mul_assoc (p*q),Nat.mul_comm (65536^k)]
  rw[x1];have x2:i+(k+1)=i+k+1:=by omega
  rw[x2];omega
 ·have hkl:k=B.length:=by omega
  subst hkl;refine (Zb (Zh Zd Zu) (Z0D o A.length c o' B.length c' (A.length+B.length) i c7 ((B.length:Nat):Int) 0 0 0 undef undef (wU O) lb la g) (Zt (Xb (by omega)))).mono fun e z hz=> ?_;obtain⟨rfl,z1,z2⟩:=hz;rw[List.take_length] at hval;exact⟨rfl,O,c7,_,hO,hc,hval,z1,z2⟩
theorem Z9j {T:Tab}{c:Code}{id:Nat}{x:Lf}{P:Lf→Prop}(h:Runs T c x fun e y=>e=none∧P y):Runs T (.block id c) x fun e y=>e=none∧P y:=
 Runs.block h (fun y hy=>hy) (fun y hy=>by cases hy.1) (fun y hy=>by cases hy.1) (fun id' y _ hy=>by cases hy.1)
def mOu (o c o' c':Nat) (la lb:List Value) (A B:List Int) (i:Nat) (Y:Lf):Prop:=
 ∃ O v7 v8,mOk (A.length+B.length) i B.length O∧vb 65536 O=vb 65536 (A.take i)*vb 65536 B∧mSt o A.length c o' B.length c' (A.length+B.length) la lb O i v7 v8 Y
theorem ZjU (rA:Row la o A) (rB:Row lb o' B) (dA:∀ x∈A,Dg 65536 x) (dB:∀ x∈B,Dg 65536 x) (hz:A.length+B.length<1000000) {i:Nat}(hi:i<A.length) {Y0:Lf}(h0:mOu o c o' c' la lb A B i Y0):
  Runs (Zr prog Zf Zn hcV) (muO f52) Y0 fun e Y=>e=none∧mOu o c o' c' la lb A B (i+1) Y:=by
 obtain⟨O,v7,v8,hO,hval,⟨g,ht⟩,hh⟩:=h0;obtain⟨t,h',s⟩:=Y0;simp only at ht hh;subst ht hh;have hT:=Zh Zd Zu;rw[Zi1];refine Runs.next (Zb hT (Z5M o A.length c o' B.length c' (A.length+B.length) i 0 0 0 0 0 v7 v8 (wU O) lb la g) (Zt (Xa (by omega)))) fun g s=> ?_;refine Runs.seq (P1:=fun e Y=>e=none∧∃ O v7 v8,mOk (A.length+B.length) (i+1) B.length O∧vb 65536 O=vb 65536 (A.take (i+1))*vb 65536 B∧mSt o A.length c o' B.length c' (A.length+B.length) la lb O i v7 v8 Y) (Z9j ?_) ?_ (fun e y hy=>by cases hy.1)
 ·rw[Zq1];refine Runs.next (Zb hT (Z5O o A.length c o' B.length c' (A.length+B.length) i 0 0 0 0 0 v7 v8 (wU O) lb la g) (fun _ h=>by cases h)) fun g s=> ?_;refine Runs.seq (P1:=fun e Y=>e=none∧mFi o c o' c' la lb A B i (vb 65536 O) Y) ?_ ?_ (fun e y hy=>by cases hy.1)
  ·refine Runs.next (Zb hT (Z5P o A.length c o' B.length c' (A.length+B.length) i 0 0 0 0 0 (.int .u64 0) v8 (wU O) lb la g) (fun _ h=>by cases h)) fun g s=> ?_;refine (ZjT rA rB dA dB hz hi (V:=vb 65536 O) ⟨0,O,0,by omega,by omega,hO,by omega,?_,⟨g,rfl⟩,rfl⟩).mono fun e Y hY=> ?_
   ·simp [vb]
   ·match e,hY with
    | none,hY=>exact⟨rfl,hY⟩
    | some none,hY=>exact hY.elim
    | some (some _),hY=>exact hY.elim
  ·rintro⟨t,h',s⟩ ⟨_,O',c7,w8,hO',hc7,hv',⟨g,ht⟩,hh⟩;simp only at ht hh;subst ht hh;have hj:i+B.length<O'.length:=by rw[hO'.1];omega
   have eij:ijM i ((B.length:Nat):Int)=((i+B.length:Nat):Int):=by unfold ijM;rw[Zw (by omega) (by omega)];omega
   have e1:u32.wrap ((c7:Nat):Int)=((c7:Nat):Int):=zk (by omega) (by omega);have hw:=Z0E o A.length c o' B.length c' (A.length+B.length) i c7 0 0 0 0 undef w8 (wU O') lb la g;have g1:decide (0+(ijM i ((B.length:Nat):Int)).toNat*1<(wU O').length)=true:=Xa (by rw[eij,Xg,Zah];omega);have g2:decide (0≤ijM i ((B.length:Nat):Int)∧ijM i ((B.length:Nat):Int)<((A.length+B.length:Nat):Int))=true:=Xa (by rw[eij];omega);have r:=Zb (s0:=s) hT hw (Zi g1 (Zt g2));rw[e1,eij,Xg,Nat.zero_add,Nat.mul_one,Zm6] at r;refine r.mono fun e z hz=> ?_;obtain⟨rfl,z1,z2⟩:=hz;have hdg:∀ x∈O'.set (i+B.length) ((c7:Nat):Int),Dg 65536 x:=Zm5 hO'.2.1 ⟨by omega,by omega⟩ _;refine⟨rfl,O'.set (i+B.length) ((c7:Nat):Int),_,_,⟨by rw[List.length_set];exact hO'.1,hdg,fun j hj'=> ?_⟩,?_,z1,z2⟩
   ·have:=hO'.2.2 j (by omega);simp only[List.getD] at*;rw[List.getElem?_set_ne (by omega)];exact this
   ·have hs:=Zm4 (b:=65536) hj ((c7:Nat):Int);rw[hO'.2.2 (i+B.length) (Nat.le_refl _),Xg] at hs;rw[Zag,Nat.add_mul,← hval];have x1:65536^i*(A.getD i 0).toNat*vb 65536 B=(A.getD i 0).toNat*vb 65536 B*65536^i:=by rw[Nat.mul_assoc,Nat.mul_comm]
    rw[x1];have x2:c7*65536^(i+B.length)=65536^(i+B.length)*c7:=Nat.mul_comm _ _;have x3:(65536:Nat)^(i+B.length)*(0:Int).toNat=0:=by simp
    omega
 ·rintro⟨t,h',s⟩ ⟨_,O',w7,w8,hO',hv',⟨g,ht⟩,hh⟩;simp only at ht hh;subst ht hh;have e3:i64.wrap ((i:Int)+1)=((i+1:Nat):Int):=by rw[Zw (by omega) (by omega)];omega
  have hw:=Z5R o A.length c o' B.length c' (A.length+B.length) i 0 0 0 0 0 w7 w8 (wU O') lb la g;rw[e3] at hw;refine (Zb hT hw (fun _ h=>by cases h)).mono fun e z hz=> ?_;obtain⟨rfl,z1,z2⟩:=hz;exact⟨rfl,O',w7,w8,hO',hv',z1,z2⟩
theorem Zm9 (rA:Row la o A) (rB:Row lb o' B) (dA:∀ x∈A,Dg 65536 x) (dB:∀ x∈B,Dg 65536 x) (hz:A.length+B.length<1000000) {Y0:Lf}(h0:mOu o c o' c' la lb A B 0 Y0):
  Runs (Zr prog Zf Zn hcV) (.block 0 (.loop (muO f52))) Y0 fun e Y=>match e with | none=>mOu o c o' c' la lb A B A.length Y | some none=>False | some (some _)=>False:=by
 refine Runs.forLoop (P:=mOu o c o' c' la lb A B A.length) (R:=fun _=>False) (fun m Y=>∃ i,m=A.length-i∧i≤A.length∧mOu o c o' c' la lb A B i Y) ?_ (n:=A.length) ⟨0,by omega,by omega,h0⟩;rintro m Y ⟨i,hm,hi,hY⟩;by_cases hlt:i<A.length
 ·refine (ZjU rA rB dA dB hz hlt hY).mono fun e z hz'=> ?_;obtain⟨rfl,z1⟩:=hz';exact⟨A.length-(i+1),by omega,i+1,rfl,by omega,z1⟩
 ·have hil:i=A.length:=by omega
  subst hil;obtain⟨O,v7,v8,hO,hval,⟨g,ht⟩,hh⟩:=hY;obtain⟨t,h',s⟩:=Y;simp only at ht hh;subst ht hh;rw[Zi1];refine Runs.seq (Zb (Zh Zd Zu) (Z5N o A.length c o' B.length c' (A.length+B.length) ((A.length:Nat):Int) 0 0 0 0 0 v7 v8 (wU O) lb la g) (Zt (Xb (by omega)))) (fun y hy=>by cases hy.1) (fun e y hy=> ?_);obtain⟨e1,z1,z2⟩:=hy;cases e1;exact⟨rfl,O,v7,v8,hO,hval,z1,z2⟩
theorem ZmA (rA:Row la o A) (rB:Row lb o' B) (dA:∀ x∈A,Dg 65536 x) (dB:∀ x∈B,Dg 65536 x) (hz:A.length+B.length<1000000):
  Runs (Zr prog Zf Zn hcV) (ZW (ZyU f52) (.seq (.seq (Z2 (muB f52)) (.block 0 (.loop (muO f52)))) (muE f52))) ([sl 0 o A.length c,sl 1 o' B.length c']++List.replicate 66 undef,h2 la lb,[]) fun e z=>(e=none∨e=some none)∧ZV prog f52 z.1 z.2.1=some (sl 2 0 (d16 (vb 65536 A*vb 65536 B)).length (d16 (vb 65536 A*vb 65536 B)).length)∧∃ r,z.2.1.blk? 2=some (wU (d16 (vb 65536 A*vb 65536 B))++r,tU):=by
 have hT:=Zh Zd Zu;have ez:zM A.length B.length=((A.length+B.length:Nat):Int):=by unfold zM;rw[Zw (by omega) (by omega)];omega
 have hp:=Z0B o A.length c o' B.length c' la lb;have mk:ZI 4 (zM A.length B.length) (zM A.length B.length)=true:=by unfold ZI;rw[ez];exact Xa (by omega)
 refine Zv hT hp (Zt mk) fun g=> ?_;rw[ez,Xg];have ew:List.replicate (A.length+B.length) (Value.int .u32 0)=wU (List.replicate (A.length+B.length) 0):=by unfold wU;rw[List.map_replicate]
 rw[ew];have hrep:mOk (A.length+B.length) 0 B.length (List.replicate (A.length+B.length) (0:Int)):=by
  refine⟨by simp,fun x hx=> ?_,fun j _=> ?_⟩
  ·rw[List.eq_of_mem_replicate hx];exact⟨by omega,by omega⟩
  ·simp only[List.getD,List.getElem?_replicate];split<;>rfl
 have hv0:∀ n:Nat,vb 65536 (List.replicate n (0:Int))=0:=fun n=>by
  induction n with
  | zero=>rfl
  | succ n ih=>rw[List.replicate_succ];simp only[vb,ih];rfl
 refine Runs.seq (P1:=fun e Y=>e=none∧mOu o c o' c' la lb A B A.length Y) ?_ ?_ (fun e y hy=>by cases hy.1)
 ·refine Runs.next (Zb hT (Z0C (sl 0 o A.length c) (sl 1 o' B.length c') (sl 2 0 (A.length+B.length) (A.length+B.length)) _ g) (fun _ h=>by cases h)) fun g s=> ?_;refine (Zm9 rA rB dA dB hz ⟨List.replicate (A.length+B.length) 0,_,_,hrep,by rw[hv0];simp [vb],⟨g,rfl⟩,rfl⟩).mono fun e Y hY=> ?_
  match e,hY with
  | none,hY=>exact⟨rfl,hY⟩
  | some none,hY=>exact hY.elim
  | some (some _),hY=>exact hY.elim
 ·rintro⟨t,h',s⟩ ⟨_,O,v7,v8,hO,hval,⟨g,ht⟩,hh⟩;simp only at ht hh;subst ht hh;rw[List.take_length] at hval;have hl:=hO.1;have hrow:Zbm tU (wU O) 0 (A.length+B.length) (A.length+B.length)=true:=by
   have:=Zap (L:=O) (fun x hx=>⟨(hO.2.1 x hx).1,by have:=(hO.2.1 x hx).2;omega⟩) (by rw[hl];omega) (c:=A.length+B.length) (by rw[hl];unfold ZcZ;simp;exact .inl (Zm7 (by omega)));rw[hl] at this;exact this
  have ec:Zx (wU O) 0 (A.length+B.length)=O:=by
   have:=ZaO O;rw[hl] at this;exact this
  have et:Zl O=(d16 (vb 65536 A*vb 65536 B)).length:=by
   rw[Zat (by omega) hO.2.1,hval];rfl
  refine (Zb hT (Z0F o A.length c o' B.length c' (A.length+B.length) ((A.length:Nat):Int) 0 0 0 0 0 v7 v8 (wU O) lb la g) (Zt hrow)).mono fun e z hz'=> ?_;obtain⟨rfl,⟨g',e1⟩,e2⟩:=hz';refine⟨.inr rfl,?_,?_⟩
  ·rw[e1,e2,ec,et];rfl
  ·rw[e2];refine⟨wU (O.drop (Zl O)),?_⟩;have e3:wU (d16 (vb 65536 A*vb 65536 B))++wU (O.drop (Zl O))=wU O:=by
    unfold d16;rw[← hval,← zj (by omega) _ hO.2.1,← ZX,List.take_append_drop]
   rw[e3];rfl
end
def ZsX (h:Hp) (p q:Option Addr) (n c n' c':Nat):Bool:=zJ h p n c && dgB (Zq h p n) && (zJ h q n' c' && dgB (Zq h q n')) && Nat.blt (n+n') 1000000
def Z0G:Zad:=fun vals h s=>
 match vals with
 | [.slice (some ⟨b,o,none⟩) n c,.slice (some ⟨b',o',none⟩) n' c']=>Zde (vO h (some ⟨b,o,none⟩) n*vO h (some ⟨b',o',none⟩) n') h s [(ZsX h (some ⟨b,o,none⟩) (some ⟨b',o',none⟩) n c n' c',true)]
 | _=>none
theorem Zq2:Z8 52 Z0G:=by
 intro vals h s v h' s' lg hg hl m B w E0 hv;unfold Z0G at hg;split at hg
 ·rename_i b o n c b' o' n' c';unfold Zde at hg;cases hg;have l3:=hl _ Xf;simp only[ZsX,Xh] at l3;obtain⟨⟨⟨q1,q2⟩,⟨p1,p2⟩⟩,q4⟩:=l3;have q2:=Zbw q2;have p2:=Zbw p2;have q4:=Zo.1 q4;rcases ZF q1 with ⟨h0,_⟩ | ⟨b1,o1,x,hp,hx,r1,rs,e0⟩
  ·cases h0
  ·cases hp;rcases ZF p1 with ⟨h0,_⟩ | ⟨b2,o2,y,hp',hy,t1,ts,f0⟩
   ·cases h0
   ·cases hp';rw[e0] at q2;rw[f0] at p2;obtain⟨h1,h2',h3,h4,h5,h6,h7⟩:=zt r1;obtain⟨k1,k2,k3,k4,k5,k6,k7⟩:=zt t1;have ev:vO h (some ⟨b,o,none⟩) n=vb 65536 (Zx x.1 o n):=by unfold vO;rw[e0]
    have ev':vO h (some ⟨b',o',none⟩) n'=vb 65536 (Zx y.1 o' n'):=by unfold vO;rw[f0]
    have r:=ZmA (c:=c) (c':=c') h1 k1 q2 p2 (by rw[h2',k2];exact q4);rw[h2',k2,← ev,← ev'] at r;have evals:List.map (rn (ZeQ b b')) [sl 0 o n c,sl 1 o' n' c']=[.slice (some ⟨b,o,none⟩) n c,.slice (some ⟨b',o',none⟩) n' c']:=by
     simp [rn,rn2,rn1,sl,ZeQ]
    have fin:=ZE (T:=Zr prog Zf Zn hcV) func52 Zgy (Zhe h7 k7) (vals:=[sl 0 o n c,sl 1 o' n' c']) (fun v hv=>by
     simp only[List.mem_cons,List.not_mem_nil,or_false] at hv;rcases hv with h1 | h1<;>rw[h1]<;>rfl) (k:=2) (cs:=wU (d16 (vO h (some ⟨b,o,none⟩) n*vO h (some ⟨b',o',none⟩) n'))) (ty:=tU) (Zbb _) (by kernel_rfl) r.w (by rfl) E0 (s:=ZeQ b b') (ZdT hx h5 h6 hy k5 k6)
    rw[evals] at fin;exact fin
 ·cases hg
def hN2 (lo la:List Value):Hp:=⟨2,[(lo,tU),(la,tR)]⟩
def mNr (o n c z:Nat) (i v7 v8:Value):List Value:=[sl 0 o n c,Zp,undef,undef,Zp,sl 1 0 z z,i,v7,v8]
def zU (n:Nat):List Value:=List.replicate n (.int .u32 0)
theorem Z0H (n:Nat):zU n=wU (List.replicate n 0):=by unfold zU wU;simp
theorem Zi2:∀ n:Nat,Zl (List.replicate n 0)=0
 | 0=>rfl
 | n+1=>by
  rw[List.replicate_succ];simp only[Zl];rw[Zi2 n];rfl
theorem ZsY (n:Nat):Zl (Zx (zU n) 0 n)=0:=by
 have h:=ZaO (List.replicate n 0);rw[List.length_replicate] at h;rw[Z0H,h,Zi2]
theorem ZsZ {n:Nat}(h:n<1000000):Zbm tU (zU n) 0 n n=true:=by
 have:=Zap (L:=List.replicate n 0) (fun x hx=>by rw[List.eq_of_mem_replicate hx];omega) (by simp;omega) (c:=n) (by simp only[List.length_replicate];exact Z4s (by omega));rw[List.length_replicate] at this;rw[Z0H];exact this
def zL (n:Nat):Int:=i64.wrap ((n:Int)+((0:Nat):Int))
def zR (n:Nat):Int:=i64.wrap (((0:Nat):Int)+(n:Int))
theorem Z5S {n:Nat}(h:n<1000000):zL n=(n:Int):=by unfold zL;rw[Zw (by omega) (by omega)];omega
theorem Z5T {n:Nat}(h:n<1000000):zR n=(n:Int):=by unfold zR;rw[Zw (by omega) (by omega)];omega
theorem Z0I (o n c:Nat) (la:List Value):Zg (evL (Zr prog Zf Zn hcV) 200 (ZyU f52) ([sl 0 o n c,Zp]++List.replicate 66 undef,⟨1,[(la,tR)]⟩,[at_]) ⟨[],[],[]⟩) 6 62 none [sl 0 o n c,Zp,undef,undef,Zp,sl 1 0 (zL n).toNat (zL n).toNat] (hN2 (zU (zL n).toNat) la) [(ZI 4 (zL n) (zL n),true)]:=by and_intros<;>kernel_rfl
theorem Z5U (o n c z:Nat) (i:Int) (v7 v8:Value) (lo la:List Value) (g:Nat→Value):Zg (evC (Zr prog Zf Zn hcV) 200 false (muO f52) (mNr o n c z (.int .i64 i) v7 v8++tl 59 g,hN2 lo la,[cmp true,cmp false,at_,at_]) ⟨[],[],[]⟩) 9 59 none (mNr o n c z (.int .i64 (i64.wrap (i+1))) (.int .u64 0) (.int .i64 0)) (hN2 (lo.set (0+(ijM i (0:Nat)).toNat*1) (.int .u32 0)) la) [stM lo (ijM i (0:Nat)),inM (ijM i (0:Nat)) z,(decide ((0:Int)<((0:Nat):Int)),false),(decide (i<(n:Int)),true)]:=by and_intros<;>kernel_rfl
theorem Z0J (o n c z:Nat) (i:Int) (v7 v8:Value) (lo la:List Value) (g:Nat→Value):Zg (evC (Zr prog Zf Zn hcV) 200 false (muO f52) (mNr o n c z (.int .i64 i) v7 v8++tl 59 g,hN2 lo la,[cmp false]) ⟨[],[],[]⟩) 9 59 (some (some 0)) (mNr o n c z (.int .i64 i) v7 v8) (hN2 lo la) [(decide (i<(n:Int)),false)]:=by and_intros<;>kernel_rfl
theorem Z0K (o n c z:Nat) (i v7 v8:Value) (lo la:List Value) (g:Nat→Value):Zg (evC (Zr prog Zf Zn hcV) 200 false (muE f52) (mNr o n c z i v7 v8++tl 59 g,hN2 lo la,[]) ⟨[],[],[]⟩) 5 63 (some none) [sl 0 o n c,Zp,undef,undef,sl 1 0 (Zl (Zx lo 0 z)) (Zl (Zx lo 0 z))] (hN2 lo la) [(Zbm tU lo 0 z z,true)]:=by and_intros<;>kernel_rfl
theorem Z9k (o n c:Nat) (la:List Value):Zg (evC (Zr prog Zf Zn hcV) 200 false (Zs f52) ([Zp,sl 0 o n c]++List.replicate 66 undef,⟨1,[(la,tR)]⟩,[at_,cmp false]) ⟨[],[],[]⟩) 5 63 (some none) [Zp,sl 0 o n c,undef,undef,sl 1 0 (Zl (Zx (zU (zR n).toNat) 0 (zR n).toNat)) (Zl (Zx (zU (zR n).toNat) 0 (zR n).toNat))] (hN2 (zU (zR n).toNat) la) [(Zbm tU (zU (zR n).toNat) 0 (zR n).toNat (zR n).toNat,true),(decide ((0:Int)<((0:Nat):Int)),false),(ZI 4 (zR n) (zR n),true)]:=by and_intros<;>kernel_rfl
theorem Z5V:Zg (evC (Zr prog Zf Zn hcV) 200 false (Zs f52) ([Zp,Zp]++List.replicate 66 undef,⟨0,[]⟩,[at_,cmp false]) ⟨[],[],[]⟩) 5 63 (some none) [Zp,Zp,undef,undef,sl 0 0 0 0] ⟨1,[([],tU)]⟩ [(Zbm tU [] 0 0 0,true),(decide ((0:Int)<((0:Nat):Int)),false),(true,true)]:=by and_intros<;>kernel_rfl
theorem Zfa:f52.body=some (Zs f52):=by kernel_rfl
theorem Zvm {la:List Value}{o n c:Nat}(hn:n<1000000):
  Runs (Zr prog Zf Zn hcV) (ZW (ZyU f52) (.seq (.seq (Z2 (muB f52)) (.block 0 (.loop (muO f52)))) (muE f52))) ([sl 0 o n c,Zp]++List.replicate 66 undef,⟨1,[(la,tR)]⟩,[]) fun e y=>(e=none∨e=some none)∧ZV prog f52 y.1 y.2.1=some (sl 1 0 0 0)∧y.2.1.blk? 1=some (zU n,tU):=by
 have hT:=Zh Zd Zu;have g0:=Z0I o n c la;rw[Z5S hn,Xg] at g0;refine Zv hT g0 (Zt (by unfold ZI;exact Xa (by omega))) fun g=> ?_;refine Runs.seq (P1:=fun e' y=>e'=none∧∃ (i v7 v8:Value) (g:Nat→Value),y.1=mNr o n c n i v7 v8++tl 59 g∧y.2.1=hN2 (zU n) la) ?_ ?_ (fun e y he=>by cases he.1)
 ·refine Runs.next (Zb hT (Z0C (sl 0 o n c) Zp (sl 1 0 n n) _ g) (fun _ h=>by cases h)) fun g s=> ?_;refine (Runs.forLoop (R:=fun _=>False) (P:=fun y=>∃ (i v7 v8:Value) (g:Nat→Value),y.1=mNr o n c n i v7 v8++tl 59 g∧y.2.1=hN2 (zU n) la)
   (fun r y=>∃ (k:Nat) (v7 v8:Value) (g:Nat→Value),k+r=n∧y.1=mNr o n c n (.int .i64 (k:Int)) v7 v8++tl 59 g∧y.2.1=hN2 (zU n) la)
   ?_ (n:=n) ⟨0,_,_,g,by omega,rfl,rfl⟩).mono fun e' y he=> ?_
  ·rintro r ⟨t,h',s'⟩ ⟨k,v7,v8,g,hk,ht,hh⟩;simp only at ht hh;subst ht hh;cases r with
   | zero=>
    refine (Zb hT (Z0J o n c n k v7 v8 _ la g) (Zt (Xb (by omega)))).mono fun e' y he=> ?_;obtain⟨rfl,⟨g1,e2⟩,e3⟩:=he;exact⟨rfl,_,_,_,g1,e2,e3⟩
   | succ r=>
    have ei:ijM (k:Int) (0:Nat)=(k:Int):=by unfold ijM;rw[Zw (by omega) (by omega)];omega
    have g1:=Z5U o n c n k v7 v8 (zU n) la g;rw[ei] at g1;have es:(zU n).set (0+((k:Int)).toNat*1) (.int .u32 0)=zU n:=by
     unfold zU;rw[Xg,Nat.zero_add,Nat.mul_one,List.set_replicate_self]
    rw[es] at g1;refine (Zb hT g1 (Zi (by unfold stM zU;exact Xa (by simp;omega)) (Zi (by unfold inM;exact Xa (by omega)) (Zi (by decide) (Zt (Xa (by omega))))))).mono fun e' y he=> ?_;obtain⟨rfl,⟨g2,e2⟩,e3⟩:=he;refine⟨r,by omega,k+1,.int .u64 0,.int .i64 0,g2,by omega,?_,e3⟩;rw[e2,Zw (by omega) (by omega)];rfl
  ·match e',he with
   | none,he=>exact⟨rfl,he⟩
   | some none,he=>exact he.elim
   | some (some _),he=>exact he.elim
 ·rintro⟨t,h',s'⟩ ⟨_,i,v7,v8,g,ht,hh⟩;simp only at ht hh;subst ht hh;have g1:=Z0K o n c n i v7 v8 (zU n) la g;rw[ZsY] at g1;refine (Zb hT g1 (Zt (ZsZ hn))).mono fun e' y he=> ?_;obtain⟨rfl,⟨g2,e2⟩,e3⟩:=he;refine⟨.inr rfl,?_,?_⟩
  ·rw[e2,e3];rfl
  ·rw[e3];rfl
def ZmB:Zad:=fun vals h s=>
 match vals,s with
 | [.slice p n c,.slice q n' c'],.inr (.inl V)::s'=>Zde V.toNat h s' [(decide (vO h p n*vO h q n'=V.toNat),true),(ZsX h p q n c n' c',true)]
 | _,_=>none
theorem Zvn:d16 0=[]:=zp 65536
theorem ZmC:Z8 52 ZmB:=by
 intro vals h s v h' s' lg hg hl m B w E hv;unfold ZmB at hg;split at hg
 ·rename_i p n c q n' c' V s2;unfold Zde at hg;cases hg;have l1:=Xc (hl _ Xe);have l3:=hl _ (Xd _ Xf);have l3':=l3;simp only[ZsX,Xh] at l3;obtain⟨⟨⟨q1,q2⟩,⟨p1,p2⟩⟩,q4⟩:=l3;have q4:=Zo.1 q4;rcases ZF q1 with ⟨rfl,rfl,rfl,e0⟩ | ⟨b,o,x,rfl,hx,r1,rs,e0⟩
  ·have hV:V.toNat=0:=by
    rw[← l1];unfold vO;rw[e0];simp [vb]
   rw[hV,Zvn];rcases ZF p1 with ⟨rfl,rfl,rfl,f0⟩ | ⟨b',o',y,rfl,hy,t1,ts,f0⟩
   ·have r:Runs (Zr prog Zf Zn hcV) (Zs f52) ([Zp,Zp]++List.replicate 66 undef,⟨0,[]⟩,[]) fun e z=>(e=none∨e=some none)∧ZV prog f52 z.1 z.2.1=some (sl 0 0 0 0)∧∃ r,z.2.1.blk? 0=some (wU []++r,tU):=by
     refine (Zb (Zh Zd Zu) Z5V (Zi (by kernel_rfl) (Zi (by decide) (Zt rfl)))).mono fun e z he=> ?_;obtain⟨rfl,⟨g,e1⟩,e2⟩:=he;exact⟨.inr rfl,by rw[e1,e2];rfl,[],by rw[e2];rfl⟩
    have:=ZE (T:=Zr prog Zf Zn hcV) func52 Zfa (h0:=⟨0,[]⟩) ⟨rfl,fun b x hx=>by have:b<0:=Hp.blk_lt hx;omega⟩ (vals:=[Zp,Zp]) (fun v hv=>by
     simp only[List.mem_cons,List.not_mem_nil,or_false] at hv;rcases hv with rfl | rfl<;>rfl) (k:=0) (cs:=wU []) (ty:=tU) (Zbb _) (by kernel_rfl) r.w (by rfl) E (s:=fun i=>i) (fun i x hx _=>by have:i<0:=Hp.blk_lt hx;omega)
    exact this
   ·obtain⟨b1,b2,b3,b4,b5,b6,b7⟩:=zt t1;have g0:=Z9k o' n' c' y.1;rw[Z5T (by omega),Xg,ZsY] at g0;have r:Runs (Zr prog Zf Zn hcV) (Zs f52) ([Zp,sl 0 o' n' c']++List.replicate 66 undef,⟨1,[(y.1,tR)]⟩,[]) fun e z=>(e=none∨e=some none)∧ZV prog f52 z.1 z.2.1=some (sl 1 0 0 0)∧∃ r,z.2.1.blk? 1=some (wU []++r,tU):=by
     refine (Zb (Zh Zd Zu) g0 (Zi (ZsZ (by omega)) (Zi (by decide) (Zt (by unfold ZI;exact Xa (by omega)))))).mono fun e z he=> ?_;obtain⟨rfl,⟨g,e1⟩,e2⟩:=he;exact⟨.inr rfl,by rw[e1,e2];rfl,zU n',by rw[e2];rfl⟩
    have evals:List.map (rn fun _=>b') [Zp,sl 0 o' n' c']=[.slice none 0 0,.slice (some ⟨b',o',none⟩) n' c']:=by simp [rn,rn2,rn1,sl,Zp]
    have:=ZE (T:=Zr prog Zf Zn hcV) func52 Zfa (ZaK b7) (vals:=[Zp,sl 0 o' n' c']) (fun v hv=>by
     simp only[List.mem_cons,List.not_mem_nil,or_false] at hv;rcases hv with rfl | rfl<;>rfl) (k:=1) (cs:=wU []) (ty:=tU) (Zbb _) (by kernel_rfl) r.w (by rfl) E (s:=fun _=>b') (zH hy b5 b6 rfl)
    rw[evals] at this;exact this
  ·rcases ZF p1 with ⟨rfl,rfl,rfl,f0⟩ | ⟨b',o',y,rfl,hy,t1,ts,f0⟩
   ·have hV:V.toNat=0:=by
     rw[← l1];unfold vO;rw[f0];simp [vb]
    rw[hV,Zvn];obtain⟨b1,b2,b3,b4,b5,b6,b7⟩:=zt r1;have r:Runs (Zr prog Zf Zn hcV) (ZW (ZyU f52) (.seq (.seq (Z2 (muB f52)) (.block 0 (.loop (muO f52)))) (muE f52))) ([sl 0 o n c,Zp]++List.replicate 66 undef,⟨1,[(x.1,tR)]⟩,[]) fun e z=>(e=none∨e=some none)∧ZV prog f52 z.1 z.2.1=some (sl 1 0 0 0)∧∃ r,z.2.1.blk? 1=some (wU []++r,tU):=
     (Zvm (by omega)).mono fun e z he=>⟨he.1,he.2.1,zU n,he.2.2⟩
    have evals:List.map (rn fun _=>b) [sl 0 o n c,Zp]=[.slice (some ⟨b,o,none⟩) n c,.slice none 0 0]:=by simp [rn,rn2,rn1,sl,Zp]
    have:=ZE (T:=Zr prog Zf Zn hcV) func52 Zgy (ZaK b7) (vals:=[sl 0 o n c,Zp]) (fun v hv=>by
     simp only[List.mem_cons,List.not_mem_nil,or_false] at hv;rcases hv with rfl | rfl<;>rfl) (k:=1) (cs:=wU []) (ty:=tU) (Zbb _) (by kernel_rfl) r.w (by rfl) E (s:=fun _=>b) (zH hx b5 b6 rfl)
    rw[evals] at this;exact this
   ·rw[← l1];exact Zq2 _ h [] _ _ [] [(ZsX h (some ⟨b,o,none⟩) (some ⟨b',o',none⟩) n c n' c',true)] rfl (Z4 l3') m B w E hv
 ·cases hg
end Go.Proofs.YtjlponbdflkbjaaGreatDoor
namespace Go.Proofs.YtjlponbdflkbjaaGreatDoor.Na
open Go.KRun Go.Nt
set_option maxRecDepth 100000
set_option linter.unusedVariables false
def Z4t:Zad:=fun vals h s=>
 match vals,s with
 | [.slice p n c,.slice q n' c'],.inr (.inr (.inr (.inl true)))::s'=>some (.tuple #[Zp,.nilIface],h,s',[(decide (n=0∨n'=0),true)])
 | [.slice p n c,.slice q n' c'],.inr (.inr (.inr (.inl false))):: .inr (.inl V)::s'=>some (.tuple #[sl h.n 0 (Zl (dg (n+n') V)) (n+n'),.nilIface],h.push (wU (dg (n+n') V)) tU,s',[(decide (Zhp (Zq h p n) (Zq h q n')=dg (n+n') V),true),(Zai h p n c,true),(Zai h q n' c',true),(!decide (n=0∨n'=0) && Nat.ble (n+n') 8192,true)])
 | _,_=>none
theorem ZmD:Z8 115 Z4t:=by
 intro vals h s v h' s' lg hg hl;unfold Z4t at hg;split at hg
 ·cases hg;exact Zmh _ h [cmp true] _ _ [] _ rfl hl
 ·rename_i p n c q n' c' V s3;cases hg;obtain⟨l1,l2⟩:=ZsS hl;have l1:=Xc l1;refine Zmh _ h [cmp false] _ _ [] _ ?_ l2;simp only[Z5m,l1]
 ·cases hg
theorem Z0L {x y m k:Nat}(hx:x<4294967296^m) (hy:y<4294967296^k):x*y<4294967296^(m+k):=by
 rw[Nat.pow_add];exact Nat.mul_lt_mul'' hx hy
end Go.Proofs.YtjlponbdflkbjaaGreatDoor.Na
namespace Go.Proofs.YtjlponbdflkbjaaGreatDoor.Na
open Go.Proofs.Tryz
open Go.IntKind
open Go.KRun Go.Nt
set_option maxRecDepth 100000
set_option linter.unusedVariables false
def h5 (la lb R Y Q:List Value):Hp:=⟨5,[(Q,tU),(Y,tU),(R,tU),(lb,tR),(la,tR)]⟩
def toT (k x d:Int):Int:=u64.wrap (k+u64.wrap (u64.wrap x*u64.wrap d))
def toW (k x d:Int):Int:=u32.wrap (toT k x d)
def toC (k x d:Int):Int:=(toT k x d).fdiv (2^min (Int.toNat 32) 64)
def toP (F:Func):List Code:=[Z2 (sn 0 F),Z2 (sn 1 F),Z2 (sn 2 F),Z2 (sn 3 F),Z2 (sn 4 F)]
def toB (F:Func):Code:=Z2 (sn 5 F)
def toL (F:Func):Code:=cIn (cIn (Zz (toB F)))
def toF (o m c n k:Nat) (d cy b:Int) (v11 v12:Value):List Value:=[sl 2 o m c,sl 3 0 n k,uu d,undef,undef,undef,.bool false,i6' n,sl 2 o n c,.int .u64 cy,uu b,v11,v12]
theorem Zek:f136.body=some (ZW (toP f136) (.seq (.seq (Z2 (toB f136)) (.block 0 (.loop (toL f136)))) (sn 6 f136))):=by kernel_rfl
theorem Z0M (o m c n k:Nat) (d:Int) (la lb R Y Q:List Value):Zg (evL (Zk prog Zf ZsH true) 100 (toP f136) ([sl 2 o m c,sl 3 0 n k,uu d]++List.replicate 62 undef,h5 la lb R Y Q,[num 0]) ⟨[],[],[]⟩) 13 52 none (toF o m c n k d 0 0 undef undef) (h5 la lb R Y Q) [(ZA c,true),(ZQ 0 n c c,true),(decide ((c:Int)=0∧(0:Int)≠0),false)]:=by and_intros<;>kernel_rfl
theorem Z9l (o m c n k:Nat) (d cy b:Int) (v11 v12:Value) (h:Hp) (g:Nat→Value):ZdS (evC (Zk prog Zf ZsH true) 100 false (Z2 (toB f136)) (toF o m c n k d cy b v11 v12++tl 52 g,h,[]) ⟨[],[],[]⟩) 13 5 3 44 none (toF o m c n k d cy b v11 v12) [sl 3 0 n k,i6' n,i6' 0] h []:=by and_intros<;>kernel_rfl
theorem Z0N (o m c n k:Nat) (d cy b j:Int) (v11 v12:Value) (h:Hp) (g g':Nat→Value):ZdS (evC (Zk prog Zf ZsH true) 100 false (toL f136) (ml (toF o m c n k d cy b v11 v12) 5 g [sl 3 0 n k,i6' n,i6' j] 44 g',h,[cmp false]) ⟨[],[],[]⟩) 13 5 3 44 (some (some 0)) (toF o m c n k d cy b v11 v12) [sl 3 0 n k,i6' n,i6' j] h [(decide (j<n),false)]:=by and_intros<;>kernel_rfl
theorem Z5W (o m c n k:Nat) (d cy b j x y:Int) (v11 v12:Value) (la lb R Y Q:List Value) (g g':Nat→Value):ZdS (evC (Zk prog Zf ZsH true) 100 false (toL f136) (ml (toF o m c n k d cy b v11 v12) 5 g [sl 3 0 n k,i6' n,i6' j] 44 g',h5 la lb R Y Q,[cmp true,at_,val (uu x),at_,val (uu y),at_,at_]) ⟨[],[],[]⟩) 13 5 3 44 none (toF o m c n k d (toC cy x d) (Zj4 y (toW cy x d) b) (i6' j) (uu x)) [sl 3 0 n k,i6' n,i6' (i64.wrap (j+1))] (h5 la lb (R.set (o+j.toNat*1) (uu (Zgo y (toW cy x d) b))) Y Q)
  [(decide ((32:Int)<0),false),(decide (o+j.toNat*1<R.length),true),inR j n,(wd4 y (toW cy x d) b,true),Zdr R o j y,inR j n,Zdr Y 0 j x,inR j n,(decide (j<n),true)]:=by and_intros<;>kernel_rfl
theorem Z0O (e:Bool) (o m c n k:Nat) (d cy b y:Int) (v11 v12 u1 u2 u3:Value) (la lb R Y Q:List Value) (g g':Nat→Value):Zg (evC (Zk prog Zf ZsH true) 100 false (sn 6 f136) (ml (toF o m c n k d cy b v11 v12) 5 g [u1,u2,u3] 44 g',h5 la lb R Y Q,[at_,val (uu y),at_,at_,cmp e]) ⟨[],[],[]⟩) 7 58 (some none) [sl 2 o m c,sl 3 0 n k,uu d,undef,undef,undef,.bool e] (h5 la lb (R.set (o+((n:Int)).toNat*1) (uu (Zgo y (u32.wrap cy) b))) Y Q)
  [(Zj4 y (u32.wrap cy) b !=0,e),(decide (o+((n:Int)).toNat*1<R.length),true),inR n m,(wd4 y (u32.wrap cy) b,true),Zdr R o n y,inR n m]:=by
 cases e<;>exact by and_intros<;>kernel_rfl
end Go.Proofs.YtjlponbdflkbjaaGreatDoor.Na
namespace Go.Nt
theorem Zvo {P a b x y k br d e l A B D W:Int}(hk:k+x*d=W+4294967296*e) (hs:y-W-br=D-4294967296*l) (h:a+P*((y+4294967296*A)-d*(x+4294967296*B)-k-br)=b):a+P*D+4294967296*P*(A-d*B-e-l)=b:=by
 rw[← h];have e1:(y+4294967296*A)-d*(x+4294967296*B)-k-br=D+4294967296*(A-d*B-e-l):=by
  rw[Int.mul_add d x,← Int.mul_assoc d 4294967296 B,Int.mul_comm d 4294967296,Int.mul_assoc 4294967296 d B,Int.mul_comm d x];omega
 rw[e1];generalize A-d*B-e-l=Z;rw[Int.mul_add P D,← Int.mul_assoc P 4294967296 Z,Int.mul_comm P 4294967296];omega
theorem Zvp {P a b x y br e A B D:Int}(hs:y+x+br=D+4294967296*e) (h:a+P*((y+4294967296*A)+(x+4294967296*B)+br)=b):a+P*D+4294967296*P*(A+B+e)=b:=by
 rw[← h];have e1:(y+4294967296*A)+(x+4294967296*B)+br=D+4294967296*(A+B+e):=by omega
 rw[e1];generalize A+B+e=Z;rw[Int.mul_add P D,← Int.mul_assoc P 4294967296 Z,Int.mul_comm P 4294967296];omega
theorem Zgz {dx:List Int}{D l V:Int}(hd:wds dx) (hD:0≤D∧D<4294967296) (h:vN dx+4294967296^dx.length*(D+4294967296*l)=V):dx++[D]=dg (dx.length+1) V∧V/4294967296^(dx.length+1)=l:=by
 have hw:wds (dx++[D]):=Zaf hd (fun x hx=>by rw[List.mem_singleton.1 hx];exact hD);have hv:vN (dx++[D])+4294967296^(dx.length+1)*l=V:=by
  rw[zo,← h,pw,Int.mul_add,← Int.mul_assoc,Int.mul_comm (4294967296^dx.length) 4294967296];omega
 have hl:(dx++[D]).length=dx.length+1:=by simp
 have hb:=ZaL (dx++[D]) hw;rw[hl] at hb;constructor
 ·rw[← hv,Zc2,← hl];exact (Zfw _ hw).symm
 ·rw[← hv,Int.add_mul_ediv_left _ _ (by have:=Zav (dx.length+1);omega),Int.ediv_eq_zero_of_lt hb.1 hb.2,Int.zero_add]
theorem Zvq {V Q l:Int}(hQ:0<Q) (h:V/Q=l):V<0↔l<0:=by
 subst h;constructor
 ·intro hv;exact Int.ediv_lt_of_lt_mul hQ (by omega)
 ·intro hl;refine Decidable.byContradiction fun hn=> ?_;have:=Int.ediv_nonneg (a:=V) (b:=Q) (by omega) (by omega);omega
end Go.Nt
namespace Go.Proofs.YtjlponbdflkbjaaGreatDoor.Na
open Go.Proofs.Tryz
open Go.IntKind
open Go.KRun Go.Nt
set_option maxRecDepth 100000
set_option linter.unusedVariables false
theorem Zvr {k x d:Int}(hk:0≤k∧k<4294967296) (hx:0≤x∧x<4294967296) (hd:0≤d∧d<4294967296):
  (0≤toW k x d∧toW k x d<4294967296)∧(0≤toC k x d∧toC k x d<4294967296)∧k+x*d=toW k x d+4294967296*toC k x d:=by
 have hxy:=Z0f hx hd;have e:toT k x d=k+x*d:=by
  unfold toT;simp only[ZoB];rw[Int.emod_eq_of_lt hx.1 (by omega),Int.emod_eq_of_lt hd.1 (by omega),Int.emod_eq_of_lt hxy.1 (by omega),Int.emod_eq_of_lt (by omega) (by omega)]
 unfold toW toC;rw[e,ZgS,show ((2:Int)^min (Int.toNat 32) 64)=4294967296 from by decide,Int.fdiv_eq_ediv_of_nonneg _ (by omega)];generalize x*d=W at*;omega
theorem Zi3 {x y c:Int}(hx:0≤x∧x<4294967296) (hy:0≤y∧y<4294967296) (hc:0≤c∧c≤1):wd4 x y c=true:=by
 unfold wd4;simp only[Xi];omega
theorem Zhx {F G la lb Y Q:List Value}{o c k:Nat}{M LB:List Int}{d:Int}(hF:F.length=o) (hM:wds M) (RB:Row Y 0 LB) (hl:M.length=LB.length+1) (hN:M.length<1099511627776) (hd:0≤d∧d<4294967296) (hc:M.length≤c) (hs:ZA c=true) (e:Bool) (he:decide (vN M-d*vN LB<0)=e):
  Runs (Zk prog Zf ZsH true) (ZW (toP f136) (.seq (.seq (Z2 (toB f136)) (.block 0 (.loop (toL f136)))) (sn 6 f136))) ([sl 2 o M.length c,sl 3 0 LB.length k,uu d]++List.replicate 62 undef,h5 la lb (F++(wU M++G)) Y Q,[]) fun e' y=>(e'=none∨e'=some none)∧ZV prog f136 y.1 y.2.1=some (.bool e)∧y.2.1.cut 5=h5 la lb (F++(wU (dg M.length (vN M-d*vN LB))++G)) Y Q:=by
 have hwB:=RB.rng;have hcs:c<4611686018427387904:=Zo.1 hs;have hT:=Zj Zul;refine Zv hT (Z0M o M.length c LB.length k d la lb _ Y Q) (Zi hs (Zi (by unfold ZQ;exact Xa (by omega)) (Zt (Xb (by omega))))) fun g=> ?_;refine Runs.seq (P1:=fun e' y=>e'=none∧∃ (dx:List Int) (t cy b:Int) (v11 v12 u1 u2 u3:Value) (g g':Nat→Value),dx.length=LB.length∧wds dx∧(0≤t∧t<4294967296)∧(0≤cy∧cy<4294967296)∧(0≤b∧b≤1)∧y.1=ml (toF o M.length c LB.length k d cy b v11 v12) 5 g [u1,u2,u3] 44 g'∧y.2.1=h5 la lb (F++(wU (dx++t::[])++G)) Y Q∧vN dx+4294967296^dx.length*(t-cy-b)=vN M-d*vN LB) ?_ ?_ (fun e y he=>by cases he.1)
 ·refine Runs.seq (P1:=fun e' y=>e'=none∧(∃ g g',y.1=ml (toF o M.length c LB.length k d 0 0 undef undef) 5 g [sl 3 0 LB.length k,i6' LB.length,i6' 0] 44 g')∧y.2.1=h5 la lb (F++(wU M++G)) Y Q) (z9 hT (Z9l o M.length c LB.length k d 0 0 undef undef _ g) (fun x hx=>by cases hx)) ?_ (fun e y he=>by cases he.1);rintro⟨t,h',s'⟩ ⟨_,⟨g1,g2,ht⟩,hh⟩;simp only at ht hh;subst ht hh;refine (Runs.forLoop (R:=fun _=>False) (P:=fun y=>∃ (dx:List Int) (t cy b:Int) (v11 v12 u1 u2 u3:Value) (g g':Nat→Value),dx.length=LB.length∧wds dx∧(0≤t∧t<4294967296)∧(0≤cy∧cy<4294967296)∧(0≤b∧b≤1)∧y.1=ml (toF o M.length c LB.length k d cy b v11 v12) 5 g [u1,u2,u3] 44 g'∧y.2.1=h5 la lb (F++(wU (dx++t::[])++G)) Y Q∧vN dx+4294967296^dx.length*(t-cy-b)=vN M-d*vN LB)
   (fun r y=>∃ (dx px bx:List Int) (cy b:Int) (v11 v12:Value) (g g':Nat→Value),px.length=r+1∧dx.length+px.length=M.length∧wds dx∧wds px∧bx=LB.drop dx.length∧(0≤cy∧cy<4294967296)∧(0≤b∧b≤1)∧y.1=ml (toF o M.length c LB.length k d cy b v11 v12) 5 g [sl 3 0 LB.length k,i6' LB.length,i6' dx.length] 44 g'∧y.2.1=h5 la lb (F++(wU (dx++px)++G)) Y Q∧vN dx+4294967296^dx.length*(vN px-d*vN bx-cy-b)=vN M-d*vN LB)
   ?_ (n:=LB.length) ⟨[],M,LB,0,0,undef,undef,g1,g2,by omega,by simp,(fun x hx=>by cases hx),hM,rfl,by omega,by omega,rfl,rfl,by simp [vN]⟩).mono fun e' y he=> ?_
  ·rintro r ⟨t,h',s'⟩ ⟨dx,px,bx,cy,b,v11,v12,g,g',hr,hlen,wd1,wd2,hb,hcy,hbb,ht,hh,hv⟩;simp only at ht hh;subst ht hh;cases r with
   | zero=>
    have hl':dx.length=LB.length:=by omega
    match px,hr,wd2,hv with
    | [t],hr,wd2,hv=>
     refine (z9 hT (Z0N o M.length c LB.length k d cy b dx.length v11 v12 _ g g') (Zt (Xb (by omega)))).mono fun e' y he=> ?_;obtain⟨rfl,⟨g1,g2,e2⟩,e3⟩:=he;have hbx:bx=[]:=by rw[hb,List.drop_eq_nil_of_le (by omega)]
     subst hbx;refine⟨rfl,dx,t,cy,b,v11,v12,_,_,_,g1,g2,hl',wd1,wd2 t Xf,hcy,hbb,e2,e3,?_⟩;simpa [vN] using hv
   | succ r=>
    match px,hr,hlen,wd2,hv with
    | y::px,hr,hlen,wd2,hv=>
     obtain⟨wy,wd2⟩:=Zae wd2;have hl':dx.length<LB.length:=by simp at hlen hr;omega
     have hx:=RB.cell (k:=dx.length) (by omega);have hxr:=hwB (LB.getD dx.length 0) (by simp [List.getD,List.getElem?_eq_getElem hl']);have hbx:bx=LB.getD dx.length 0::LB.drop (dx.length+1):=by
      rw[hb,List.drop_eq_getElem_cons hl'];simp [List.getD,List.getElem?_eq_getElem hl']
     generalize LB.getD dx.length 0=x at*;obtain⟨k1,k2,k3⟩:=Zvr hcy hxr hd;obtain⟨s1,s2,s3⟩:=Zgq wy k1 hbb;have cS:=Zeg hF dx y px G;have lS:o+dx.length<(F++(wU (dx++y::px)++G)).length:=(List.getElem?_eq_some_iff.1 cS).1;have l1:decide (o+((dx.length:Int)).toNat*1<(F++(wU (dx++y::px)++G)).length)=true:=by
      rw[Xg,Nat.mul_one];exact Xa lS
     have l2:(inR dx.length LB.length).1=(inR dx.length LB.length).2:=Xa (by omega);refine (z9 hT (Z5W o M.length c LB.length k d cy b dx.length x y v11 v12 la lb _ Y Q g g') (Zi (by decide) (Zi l1 (Zi l2 (Zi (Zi3 wy k1 hbb) (Zi (Zaw cS) (Zi l2 (Zi (Zaw hx) (Zi l2 (Zt (Xa (by omega)))))))))))).mono fun e' z he=> ?_;obtain⟨rfl,⟨g1,g2,e2⟩,e3⟩:=he;refine⟨r,by omega,dx++[Zgo y (toW cy x d) b],px,LB.drop (dx.length+1),toC cy x d,Zj4 y (toW cy x d) b,i6' dx.length,uu x,g1,g2,by simp at hr;omega,by simp at hlen ⊢;omega,Zaf wd1 (fun u hu=>by rw[List.mem_singleton.1 hu];exact s1),wd2,by simp,k2,s2,?_,?_,?_⟩
     ·rw[e2,Zw (by omega) (by omega)];simp
     ·rw[e3,Xg,Nat.mul_one,Zeh hF]
     ·rw[hbx] at hv;simp only[vN] at hv;rw[zo,List.length_append,List.length_singleton,pw];exact Zvo k3 s3 hv
  ·match e',he with
   | none,he=>exact⟨rfl,he⟩
   | some none,he=>exact he.elim
   | some (some _),he=>exact he.elim
 ·rintro⟨t,h',s'⟩ ⟨_,dx,tw,cy,b,v11,v12,u1,u2,u3,g,g',hdl,wd1,wt,hcy,hbb,ht,hh,hv⟩;simp only at ht hh;subst ht hh;have ew:u32.wrap cy=cy:=by rw[ZgS,Int.emod_eq_of_lt hcy.1 hcy.2]
  obtain⟨s1,s2,s3⟩:=Zgq wt hcy hbb;have cS:=Zeg hF dx tw [] G;have lS:o+dx.length<(F++(wU (dx++tw::[])++G)).length:=(List.getElem?_eq_some_iff.1 cS).1;obtain⟨f1,f2⟩:=Zgz (l:= - Zj4 tw cy b) (V:=vN M-d*vN LB) wd1 s1 (by rw[← hv,s3];congr 2;omega);have hn:=Zvq (Zav (dx.length+1)) f2;have g0:=Z0O e o M.length c LB.length k d cy b tw v11 v12 u1 u2 u3 la lb (F++(wU (dx++tw::[])++G)) Y Q g g';rw[ew,← hdl,Xg,Nat.mul_one,Zeh hF] at g0;have l0:(Zj4 tw cy b !=0)=e:=by
   rw[← he];by_cases hneg:vN M-d*vN LB<0
   ·rw[Xa hneg];have:=hn.1 hneg;exact bne_iff_ne.2 (by omega)
   ·rw[Xb hneg];have:Zj4 tw cy b=0:=Decidable.byContradiction fun h0=>hneg (hn.2 (by omega));rw[this];rfl
  have l2:(inR dx.length M.length).1=(inR dx.length M.length).2:=Xa (by omega);rw[← hdl];refine (Zb hT g0 (Zi l0 (Zi (Xa lS) (Zi l2 (Zi (Zi3 wt hcy hbb) (Zi (Zaw cS) (Zt l2))))))).mono fun e' y he=> ?_;obtain⟨rfl,⟨g1,e2⟩,e3⟩:=he;refine⟨.inr rfl,?_,?_⟩
  ·rw[e2,e3];rfl
  ·rw[e3,hl,← hdl,← f1,List.append_nil];rfl
def Zel (la lb R Y Q:List Value) (t0 t1 t2 t3 t4:TypeId) (o m c n k:Nat):Bool:=Nat.beq t0 tR && Nat.beq t1 tR && Nat.beq t2 tU && Nat.beq t3 tU && Nat.beq t4 tU && Z6 tU R o m c && Z6 tU Y 0 n k && Nat.beq m (n+1) && Nat.blt m 1099511627776 && la.all still && lb.all still && Q.all still
theorem ZfC {la lb R Y Q:List Value}{t0 t1 t2 t3 t4:TypeId}{o m c n k:Nat}(q:Zel la lb R Y Q t0 t1 t2 t3 t4 o m c n k=true):t0=tR∧t1=tR∧t2=tU∧t3=tU∧t4=tU∧Z6 tU R o m c=true∧Z6 tU Y 0 n k=true∧m=n+1∧m<1099511627776∧la.all still=true∧lb.all still=true∧Q.all still=true:=by
 unfold Zel at q;simp only[Xh] at q;obtain⟨⟨⟨⟨⟨⟨⟨⟨⟨⟨⟨q0,q1⟩,q2⟩,q3⟩,q4⟩,ra⟩,rb⟩,qn⟩,qN⟩,s0⟩,s1⟩,s2⟩:=q;exact⟨Xj q0,Xj q1,Xj q2,Xj q3,Xj q4,ra,rb,Xj qn,Zo.1 qN,s0,s1,s2⟩
theorem ZaD {R:List Value}{o m c:Nat}(ra:Z6 tU R o m c=true):R=R.take o++(wU (Zx R o m)++R.drop (o+m))∧(R.take o).length=o:=by
 obtain⟨a1,a2,a3,a4,a5,a6,a7⟩:=ZH ra;constructor
 ·have h1:=a1.cut;rw[a2] at h1;rw[← h1];unfold Zce;rw[← List.drop_drop,List.take_append_drop,List.take_append_drop]
 ·have:=a1.len;simp;omega
theorem ZmE {la lb R Y Q:List Value}{o m c n k:Nat}{L:List Int}(ra:Z6 tU R o m c=true) (rb:Z6 tU Y 0 n k=true) (s0:la.all still=true) (s1:lb.all still=true) (s2:Q.all still=true):(h5 la lb (tmS R o m L) Y Q).tight=true:=by
 obtain⟨a1,a2,a3,a4,a5,a6,a7⟩:=ZH ra;obtain⟨b1,b2,b3,b4,b5,b6,b7⟩:=ZH rb;unfold Hp.tight tmS h5;simp only[List.all_cons,List.all_nil,List.all_append,Bool.and_true,Xh];refine⟨zx (by omega) s2,zx (by omega) (List.all_eq_true.2 b7),⟨?_,Zbo _ _,?_⟩,zx (by omega) s1,zx (by omega) s0⟩
 ·rw[List.all_eq_true];exact fun v hv=>zg (by omega) (a7 v (List.mem_of_mem_take hv))
 ·rw[List.all_eq_true];exact fun v hv=>zg (by omega) (a7 v (List.mem_of_mem_drop hv))
def Z5X:Zad:=fun vals h s=>
 match vals,h,s with
 | [.slice (some ⟨2,o,none⟩) m c,.slice (some ⟨3,0,none⟩) n k,.int .u32 d],⟨5,[(Q,t4),(Y,t3),(R,t2),(lb,t1),(la,t0)]⟩,.inr (.inr (.inr (.inl e)))::s'=>some (.bool e,h5 la lb (tmS R o m (dg m (vN (Zx R o m)-d*vN (Zx Y 0 n)))) Y Q,s',[(Zel la lb R Y Q t0 t1 t2 t3 t4 o m c n k && decide (0≤d∧d<4294967296),true),(decide (vN (Zx R o m)-d*vN (Zx Y 0 n)<0),e)])
 | _,_,_=>none
theorem Zvs:Z8 136 Z5X:=by
 intro vals h s v h' s' lg hg hl m B w E hv;unfold Z5X at hg;split at hg
 ·rename_i o mm c n k d Q t4 Y t3 R t2 lb t1 la t0 e s2;cases hg;have l1:=hl _ Xe;have l2:=hl _ (Xd _ Xf);simp only[Xh,Xi] at l1 l2;obtain⟨l1,hd⟩:=l1;obtain⟨q0,q1,q2,q3,q4,ra,rb,qn,qN,st0,st1,st2⟩:=ZfC l1;subst q0 q1 q2 q3 q4;obtain⟨a1,a2,a3,a4,a5,a6,a7⟩:=ZH ra;obtain⟨b1,b2,b3,b4,b5,b6,b7⟩:=ZH rb;obtain⟨eS,hF⟩:=ZaD ra;have r:=Zhx (G:=R.drop (o+mm)) (la:=la) (lb:=lb) (Q:=Q) (c:=c) (k:=k) hF a1.rng b1 (by rw[a2,b2];exact qn) (by rw[a2];exact qN) hd (by rw[a2];exact a3) a4 e l2;rw[a2,b2,← eS] at r;exact zd (T:=Zk prog Zf ZsH true) func136 Zek (vals:=[sl 2 o mm c,sl 3 0 n k,uu d]) (v:= .bool e) (h:=h5 la lb R Y Q) (by rfl) (ZmE ra rb st0 st1 st2) r m B w E hv
 ·cases hg
def pbP (F:Func):List Code:=[Z2 (sn 0 F),Z2 (sn 1 F)]
def pbB (F:Func):Code:=Z2 (sn 2 F)
def pbL (F:Func):Code:=cIn (cIn (Zz (pbB F)))
def pbF (o m c n k:Nat) (b:Int) (v6 v7 u1 u2 u3:Value):List Value:=[sl 2 o m c,sl 3 0 n k,undef,undef,.bool false,uu b,v6,v7,u1,u2,u3]
def adD (x y c:Int):Int:=(x+y+c) % 4294967296
def adC (x y c:Int):Int:=(x+y+c)/4294967296
theorem Zvt:f137.body=some (ZW (pbP f137) (.seq (.seq (Z2 (pbB f137)) (.block 0 (.loop (pbL f137)))) (sn 3 f137))):=by kernel_rfl
theorem Z0P (o m c n k:Nat) (h:Hp):Zg (evL (Zk prog Zf ZsE true) 100 (pbP f137) ([sl 2 o m c,sl 3 0 n k]++List.replicate 43 undef,h,[]) ⟨[],[],[]⟩) 11 34 none (pbF o m c n k 0 undef undef undef undef undef) h []:=by and_intros<;>kernel_rfl
theorem Z9m (o m c n k:Nat) (b:Int) (v6 v7 u1 u2 u3:Value) (h:Hp) (g:Nat→Value):Zg (evC (Zk prog Zf ZsE true) 100 false (Z2 (pbB f137)) (pbF o m c n k b v6 v7 u1 u2 u3++tl 34 g,h,[]) ⟨[],[],[]⟩) 11 34 none (pbF o m c n k b v6 v7 (sl 3 0 n k) (i6' n) (i6' 0)) h []:=by and_intros<;>kernel_rfl
theorem Z0Q (o m c n k:Nat) (b j:Int) (v6 v7:Value) (h:Hp) (g:Nat→Value):Zg (evC (Zk prog Zf ZsE true) 100 false (pbL f137) (pbF o m c n k b v6 v7 (sl 3 0 n k) (i6' n) (i6' j)++tl 34 g,h,[cmp false]) ⟨[],[],[]⟩) 11 34 (some (some 0)) (pbF o m c n k b v6 v7 (sl 3 0 n k) (i6' n) (i6' j)) h [(decide (j<n),false)]:=by and_intros<;>kernel_rfl
theorem Z5Y (o m c n k:Nat) (b j x y:Int) (v6 v7:Value) (la lb R Y Q:List Value) (g:Nat→Value):Zg (evC (Zk prog Zf ZsE true) 100 false (pbL f137) (pbF o m c n k b v6 v7 (sl 3 0 n k) (i6' n) (i6' j)++tl 34 g,h5 la lb R Y Q,[cmp true,at_,val (uu x),at_,val (uu y),at_,at_]) ⟨[],[],[]⟩) 11 34 none (pbF o m c n k (adC y x b) (i6' j) (uu x) (sl 3 0 n k) (i6' n) (i6' (i64.wrap (j+1)))) (h5 la lb (R.set (o+j.toNat*1) (uu (adD y x b))) Y Q)
  [(decide (o+j.toNat*1<R.length),true),inR j m,(wd4 y x b,true),Zdr R o j y,inR j m,Zdr Y 0 j x,inR j n,(decide (j<n),true)]:=by and_intros<;>kernel_rfl
theorem Z0R (e:Bool) (o m c n k:Nat) (b y:Int) (v6 v7 u1 u2 u3:Value) (la lb R Y Q:List Value) (g:Nat→Value):Zg (evC (Zk prog Zf ZsE true) 100 false (sn 3 f137) (pbF o m c n k b v6 v7 u1 u2 u3++tl 34 g,h5 la lb R Y Q,[at_,val (uu y),at_,at_,cmp e]) ⟨[],[],[]⟩) 5 40 (some none) [sl 2 o m c,sl 3 0 n k,undef,undef,.bool e] (h5 la lb (R.set (o+((n:Int)).toNat*1) (uu (adD y 0 b))) Y Q)
  [(adC y 0 b !=0,e),(decide (o+((n:Int)).toNat*1<R.length),true),inR n m,(wd4 y 0 b,true),Zdr R o n y,inR n m]:=by
 cases e<;>exact by and_intros<;>kernel_rfl
theorem Zg0 {x y c:Int}(hx:0≤x∧x<4294967296) (hy:0≤y∧y<4294967296) (hc:0≤c∧c≤1):(0≤adD x y c∧adD x y c<4294967296)∧(0≤adC x y c∧adC x y c≤1)∧x+y+c=adD x y c+4294967296*adC x y c:=by
 unfold adD adC;omega
theorem Zvu {F G la lb Y Q:List Value}{o c k:Nat}{M LB:List Int}(hF:F.length=o) (hM:wds M) (RB:Row Y 0 LB) (hl:M.length=LB.length+1) (hN:M.length<1099511627776) (e:Bool) (he:decide (4294967296^M.length≤vN M+vN LB)=e):
  Runs (Zk prog Zf ZsE true) (ZW (pbP f137) (.seq (.seq (Z2 (pbB f137)) (.block 0 (.loop (pbL f137)))) (sn 3 f137))) ([sl 2 o M.length c,sl 3 0 LB.length k]++List.replicate 43 undef,h5 la lb (F++(wU M++G)) Y Q,[]) fun e' y=>(e'=none∨e'=some none)∧ZV prog f137 y.1 y.2.1=some (.bool e)∧y.2.1.cut 5=h5 la lb (F++(wU (dg M.length (vN M+vN LB))++G)) Y Q:=by
 have hwB:=RB.rng;have hT:=Zj Zuj;refine Zv hT (Z0P o M.length c LB.length k _) (fun x hx=>by cases hx) fun g=> ?_;refine Runs.seq (P1:=fun e' y=>e'=none∧∃ (dx:List Int) (t b:Int) (v6 v7 u1 u2 u3:Value) (g:Nat→Value),dx.length=LB.length∧wds dx∧(0≤t∧t<4294967296)∧(0≤b∧b≤1)∧y.1=pbF o M.length c LB.length k b v6 v7 u1 u2 u3++tl 34 g∧y.2.1=h5 la lb (F++(wU (dx++t::[])++G)) Y Q∧vN dx+4294967296^dx.length*(t+b)=vN M+vN LB) ?_ ?_ (fun e y he=>by cases he.1)
 ·refine Runs.seq (P1:=fun e' y=>e'=none∧(∃ g,y.1=pbF o M.length c LB.length k 0 undef undef (sl 3 0 LB.length k) (i6' LB.length) (i6' 0)++tl 34 g)∧y.2.1=h5 la lb (F++(wU M++G)) Y Q) (Zb hT (Z9m o M.length c LB.length k 0 undef undef undef undef undef _ g) (fun x hx=>by cases hx)) ?_ (fun e y he=>by cases he.1);rintro⟨t,h',s'⟩ ⟨_,⟨g1,ht⟩,hh⟩;simp only at ht hh;subst ht hh;refine (Runs.forLoop (R:=fun _=>False) (P:=fun y=>∃ (dx:List Int) (t b:Int) (v6 v7 u1 u2 u3:Value) (g:Nat→Value),dx.length=LB.length∧wds dx∧(0≤t∧t<4294967296)∧(0≤b∧b≤1)∧y.1=pbF o M.length c LB.length k b v6 v7 u1 u2 u3++tl 34 g∧y.2.1=h5 la lb (F++(wU (dx++t::[])++G)) Y Q∧vN dx+4294967296^dx.length*(t+b)=vN M+vN LB)
   (fun r y=>∃ (dx px bx:List Int) (b:Int) (v6 v7:Value) (g:Nat→Value),px.length=r+1∧dx.length+px.length=M.length∧wds dx∧wds px∧bx=LB.drop dx.length∧(0≤b∧b≤1)∧y.1=pbF o M.length c LB.length k b v6 v7 (sl 3 0 LB.length k) (i6' LB.length) (i6' dx.length)++tl 34 g∧y.2.1=h5 la lb (F++(wU (dx++px)++G)) Y Q∧vN dx+4294967296^dx.length*(vN px+vN bx+b)=vN M+vN LB)
   ?_ (n:=LB.length) ⟨[],M,LB,0,undef,undef,g1,by omega,by simp,(fun x hx=>by cases hx),hM,rfl,by omega,rfl,rfl,by simp [vN]⟩).mono fun e' y he=> ?_
  ·rintro r ⟨t,h',s'⟩ ⟨dx,px,bx,b,v6,v7,g,hr,hlen,wd1,wd2,hb,hbb,ht,hh,hv⟩;simp only at ht hh;subst ht hh;cases r with
   | zero=>
    have hl':dx.length=LB.length:=by omega
    match px,hr,wd2,hv with
    | [t],hr,wd2,hv=>
     refine (Zb hT (Z0Q o M.length c LB.length k b dx.length v6 v7 _ g) (Zt (Xb (by omega)))).mono fun e' y he=> ?_;obtain⟨rfl,⟨g1,e2⟩,e3⟩:=he;have hbx:bx=[]:=by rw[hb,List.drop_eq_nil_of_le (by omega)]
     subst hbx;refine⟨rfl,dx,t,b,v6,v7,_,_,_,g1,hl',wd1,wd2 t Xf,hbb,e2,e3,?_⟩;simpa [vN] using hv
   | succ r=>
    match px,hr,hlen,wd2,hv with
    | y::px,hr,hlen,wd2,hv=>
     obtain⟨wy,wd2⟩:=Zae wd2;have hl':dx.length<LB.length:=by simp at hlen hr;omega
     have hx:=RB.cell (k:=dx.length) (by omega);have hxr:=hwB (LB.getD dx.length 0) (by simp [List.getD,List.getElem?_eq_getElem hl']);have hbx:bx=LB.getD dx.length 0::LB.drop (dx.length+1):=by
      rw[hb,List.drop_eq_getElem_cons hl'];simp [List.getD,List.getElem?_eq_getElem hl']
     generalize LB.getD dx.length 0=x at*;obtain⟨s1,s2,s3⟩:=Zg0 wy hxr hbb;have cS:=Zeg hF dx y px G;have lS:o+dx.length<(F++(wU (dx++y::px)++G)).length:=(List.getElem?_eq_some_iff.1 cS).1;have l1:decide (o+((dx.length:Int)).toNat*1<(F++(wU (dx++y::px)++G)).length)=true:=by
      rw[Xg,Nat.mul_one];exact Xa lS
     have l2:(inR dx.length M.length).1=(inR dx.length M.length).2:=Xa (by omega);have l3:(inR dx.length LB.length).1=(inR dx.length LB.length).2:=Xa (by omega);refine (Zb hT (Z5Y o M.length c LB.length k b dx.length x y v6 v7 la lb _ Y Q g) (Zi l1 (Zi l2 (Zi (Zi3 wy hxr hbb) (Zi (Zaw cS) (Zi l2 (Zi (Zaw hx) (Zi l3 (Zt (Xa (by omega))))))))))).mono fun e' z he=> ?_;obtain⟨rfl,⟨g1,e2⟩,e3⟩:=he;refine⟨r,by omega,dx++[adD y x b],px,LB.drop (dx.length+1),adC y x b,i6' dx.length,uu x,g1,by simp at hr;omega,by simp at hlen ⊢;omega,Zaf wd1 (fun u hu=>by rw[List.mem_singleton.1 hu];exact s1),wd2,by simp,s2,?_,?_,?_⟩
     ·rw[e2,Zw (by omega) (by omega)];simp
     ·rw[e3,Xg,Nat.mul_one,Zeh hF]
     ·rw[hbx] at hv;simp only[vN] at hv;rw[zo,List.length_append,List.length_singleton,pw];exact Zvp s3 hv
  ·match e',he with
   | none,he=>exact⟨rfl,he⟩
   | some none,he=>exact he.elim
   | some (some _),he=>exact he.elim
 ·rintro⟨t,h',s'⟩ ⟨_,dx,tw,b,v6,v7,u1,u2,u3,g,hdl,wd1,wt,hbb,ht,hh,hv⟩;simp only at ht hh;subst ht hh;obtain⟨s1,s2,s3⟩:=Zg0 wt (show (0:Int)≤0∧(0:Int)<4294967296 by omega) hbb;have cS:=Zeg hF dx tw [] G;have lS:o+dx.length<(F++(wU (dx++tw::[])++G)).length:=(List.getElem?_eq_some_iff.1 cS).1;obtain⟨f1,f2⟩:=Zgz (l:=adC tw 0 b) (V:=vN M+vN LB) wd1 s1 (by rw[← hv,← s3];congr 2;omega);have g0:=Z0R e o M.length c LB.length k b tw v6 v7 u1 u2 u3 la lb (F++(wU (dx++tw::[])++G)) Y Q g;rw[← hdl,Xg,Nat.mul_one,Zeh hF] at g0;have l0:(adC tw 0 b !=0)=e:=by
   rw[← he,hl,← hdl,← f2];have hp:=Zav (dx.length+1);by_cases hbig:4294967296^(dx.length+1)≤vN M+vN LB
   ·rw[Xa hbig];have:(1:Int)≤(vN M+vN LB)/4294967296^(dx.length+1):=(Int.le_ediv_iff_mul_le hp).2 (by omega);exact bne_iff_ne.2 (by omega)
   ·rw[Xb hbig];have h1:=ZaL M hM;have h2:=ZaL LB hwB;rw[Int.ediv_eq_zero_of_lt (by omega) (by omega)];rfl
  have l2:(inR dx.length M.length).1=(inR dx.length M.length).2:=Xa (by omega);rw[← hdl];refine (Zb hT g0 (Zi l0 (Zi (Xa lS) (Zi l2 (Zi (Zi3 wt (by omega) hbb) (Zi (Zaw cS) (Zt l2))))))).mono fun e' y he=> ?_;obtain⟨rfl,⟨g1,e2⟩,e3⟩:=he;refine⟨.inr rfl,?_,?_⟩
  ·rw[e2,e3];rfl
  ·rw[e3,hl,← hdl,← f1,List.append_nil];rfl
def Z5Z:Zad:=fun vals h s=>
 match vals,h,s with
 | [.slice (some ⟨2,o,none⟩) m c,.slice (some ⟨3,0,none⟩) n k],⟨5,[(Q,t4),(Y,t3),(R,t2),(lb,t1),(la,t0)]⟩,.inr (.inr (.inr (.inl e)))::s'=>some (.bool e,h5 la lb (tmS R o m (dg m (vN (Zx R o m)+vN (Zx Y 0 n)))) Y Q,s',[(Zel la lb R Y Q t0 t1 t2 t3 t4 o m c n k,true),(decide (4294967296^m≤vN (Zx R o m)+vN (Zx Y 0 n)),e)])
 | _,_,_=>none
theorem Zvv:Z8 137 Z5Z:=by
 intro vals h s v h' s' lg hg hl m B w E hv;unfold Z5Z at hg;split at hg
 ·rename_i o mm c n k Q t4 Y t3 R t2 lb t1 la t0 e s2;cases hg;have l1:=hl _ Xe;have l2:=hl _ (Xd _ Xf);simp only at l1 l2;obtain⟨q0,q1,q2,q3,q4,ra,rb,qn,qN,st0,st1,st2⟩:=ZfC l1;subst q0 q1 q2 q3 q4;obtain⟨a1,a2,a3,a4,a5,a6,a7⟩:=ZH ra;obtain⟨b1,b2,b3,b4,b5,b6,b7⟩:=ZH rb;obtain⟨eS,hF⟩:=ZaD ra;have r:=Zvu (G:=R.drop (o+mm)) (la:=la) (lb:=lb) (Q:=Q) (c:=c) (k:=k) hF a1.rng b1 (by rw[a2,b2];exact qn) (by rw[a2];exact qN) e (by rw[a2];exact l2);rw[a2,b2,← eS] at r;exact zd (T:=Zk prog Zf ZsE true) func137 Zvt (vals:=[sl 2 o mm c,sl 3 0 n k]) (v:= .bool e) (h:=h5 la lb R Y Q) (by rfl) (ZmE ra rb st0 st1 st2) r m B w E hv
 ·cases hg
end Go.Proofs.YtjlponbdflkbjaaGreatDoor.Na
namespace Go.Nt
theorem Zq3 {M L:List Int}(hM:wds M) (hL:wds L) {n:Nat}(hm:M.length=n+1) (hl:L.length=n) (hn:0<n) (hb:0<L.getD (n-1) 0):vN M/vN L≤(M.getD n 0*4294967296+M.getD (n-1) 0)/L.getD (n-1) 0:=by
 have hP:=Zav (n-1);have eM:M=(M.take (n-1)++[M.getD (n-1) 0])++[M.getD n 0]:=by
  have h1:=Zax (L:=M) (k:=n) (by omega);have h2:=Zax (L:=M) (k:=n-1) (by omega);rw[show n-1+1=n by omega] at h2;rw[← h2,← h1,← hm,List.take_length]
 have eL:L=L.take (n-1)++[L.getD (n-1) 0]:=by
  have h2:=Zax (L:=L) (k:=n-1) (by omega);rw[← h2,show n-1+1=L.length by omega,List.take_length]
 have vM:vN M=vN (M.take (n-1))+4294967296^(n-1)*(M.getD n 0*4294967296+M.getD (n-1) 0):=by
  have:vN M=vN ((M.take (n-1)++[M.getD (n-1) 0])++[M.getD n 0]):=by rw[← eM]
  rw[this,zo,zo,List.length_append,List.length_take,Nat.min_eq_left (by omega),List.length_singleton,pw,Int.mul_add,Int.mul_comm (M.getD n 0) 4294967296,← Int.mul_assoc,Int.mul_comm (4294967296^(n-1)) 4294967296];omega
 have vL:vN L=vN (L.take (n-1))+4294967296^(n-1)*L.getD (n-1) 0:=by
  have:vN L=vN (L.take (n-1)++[L.getD (n-1) 0]):=by rw[← eL]
  rw[this,zo,List.length_take,Nat.min_eq_left (by omega)]
 have bM:=ZaL (M.take (n-1)) (Zcx hM _);have bL:=ZaL (L.take (n-1)) (Zcx hL _);rw[List.length_take,Nat.min_eq_left (by omega)] at bM bL;generalize M.getD n 0*4294967296+M.getD (n-1) 0=T at*;generalize L.getD (n-1) 0=b at*;generalize (4294967296:Int)^(n-1)=P at*;have hPb:0<P*b:=Int.mul_pos hP hb;have hq:=Int.mul_ediv_self_le (x:=vN M) (k:=vN L) (by omega);have hq0:0≤vN M/vN L:=by
  by_cases h0:0≤vN M
  ·exact Int.ediv_nonneg h0 (by omega)
  ·have:=(ZaL M hM).1;omega
 generalize hqd:vN M/vN L=q at*;refine (Int.le_ediv_iff_mul_le hb).2 ?_;have h1:P*b*q≤vN L*q:=Int.mul_le_mul_of_nonneg_right (by omega) hq0;have h2:P*b*q<P*(T+1):=by
  rw[Int.mul_add];omega
 rw[Int.mul_assoc] at h2;have h3:=Int.lt_of_mul_lt_mul_left h2 (by omega);rw[Int.mul_comm q b];omega
theorem Zi4 {h l b:Int}(hh:0≤h) (hl:0≤l∧l<4294967296) (hb:h<b):0≤(h*4294967296+l)/b∧(h*4294967296+l)/b<4294967296:=
 ⟨Int.ediv_nonneg (by omega) (by omega),Int.ediv_lt_of_lt_mul (by omega) (by omega)⟩
theorem Zi5 {M B:Int}(hB:0<B) (h0:0≤M) (h:M<4294967296*B):0≤M/B∧M/B≤4294967295:=by
 have h1:=Int.ediv_lt_of_lt_mul hB h;exact⟨Int.ediv_nonneg h0 (by omega),by omega⟩
theorem Zvw {M B d:Int}(hB:0<B) (h1:0≤M-d*B) (h2:M/B≤d):d=M/B∧M-d*B=M % B:=by
 have h3:d≤M/B:=(Int.le_ediv_iff_mul_le hB).2 (by omega);have e:d=M/B:=by omega
 refine⟨e,?_⟩;have:=Int.emod_add_mul_ediv M B;rw[e,Int.mul_comm (M/B) B];omega
theorem ZmF {M B d:Int}(hB:0<B) (h:M-d*B<0):M/B<d:=Int.ediv_lt_of_lt_mul hB (by omega)
theorem Z0S {m:Nat}{V:Int}(h0:V<0) (h1: -(4294967296^m)≤V):vN (dg m V)=V+4294967296^m:=by
 have:=Zc2 m V 1;rw[Int.mul_one] at this;rw[← this];exact ZjL m _ (by omega) (by omega)
end Go.Nt
