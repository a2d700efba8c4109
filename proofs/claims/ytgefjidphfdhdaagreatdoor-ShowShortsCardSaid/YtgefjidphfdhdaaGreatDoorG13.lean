/-
  Shl, RdX, RpA, RpB, NumSh, NumSi, NumSj, NumSk, NumRh, NumSm, NumSn, NumSp, NumSr, NumSs, NumSt
-/
import Derived.Shelf.LaysM
import Derived.Shelf.Strconv.Itoa3
import Derived.Shelf.Small.Strs
import Derived.Shelf.Strings.Repeat
import Derived.Test.YtgefjidphfdhdaaGreatDoorG12
namespace Go.Proofs.YtgefjidphfdhdaaGreatDoor
open Go.Proofs.Tryz
open Go.Shelf
def ZhN:Go.Shelf.Ren:=⟨fun | 106=>125 | 213=>168 | 265=>194 | n=>n,fun | 9=>9 | 3=>3 | n=>n,fun | n=>n⟩
theorem Zwf:Go.Proofs.Lays.n106 prog ZhN:={
 mixed:=by kernel_rfl
 f106:=func125.trans (congrArg some (by kernel_rfl))
 f213:=func168.trans (congrArg some (by kernel_rfl))
 f265:=func194.trans (congrArg some (by kernel_rfl))
 t3:=underlying3
 a3:=isAgg3
 z3:=sizeOf3
 v3:=zeroValue3
 t9:=underlying9
 a9:=isAgg9
 z9:=sizeOf9
 v9:=zeroValue9}
def ZgK:Go.Shelf.Ren:=⟨fun | 171=>46 | 243=>89 | 246=>142 | 283=>178 | 284=>179 | 285=>180 | 286=>181 | 129=>161 | 317=>200 | 318=>201 | 319=>202 | 320=>203 | 337=>211 | 338=>212 | n=>n,fun | 3=>3 | 9=>9 | 2=>2 | 4=>4 | 171=>239 | 0=>0 | 53=>22 | 37=>142 | 5=>5 | 173=>241 | 212=>255 | 51=>68 | 20=>20 | 213=>256 | 46=>42 | 232=>268 | 233=>269 | n=>n,fun | 17=>2 | 18=>5 | 19=>6 | n=>n⟩
theorem ZfH:Go.Proofs.LaysM.n171 prog ZgK:={
 mixed:=by kernel_rfl
 f129:=func161.trans (congrArg some (by kernel_rfl))
 f171:=func46.trans (congrArg some (by kernel_rfl))
 f243:=func89.trans (congrArg some (by kernel_rfl))
 f246:=func142.trans (congrArg some (by kernel_rfl))
 f283:=func178.trans (congrArg some (by kernel_rfl))
 f284:=func179.trans (congrArg some (by kernel_rfl))
 f285:=func180.trans (congrArg some (by kernel_rfl))
 f286:=func181.trans (congrArg some (by kernel_rfl))
 f317:=func200.trans (congrArg some (by kernel_rfl))
 f318:=func201.trans (congrArg some (by kernel_rfl))
 f319:=func202.trans (congrArg some (by kernel_rfl))
 f320:=func203.trans (congrArg some (by kernel_rfl))
 f337:=func211.trans (congrArg some (by kernel_rfl))
 f338:=func212.trans (congrArg some (by kernel_rfl))
 t0:=underlying0
 a0:=isAgg0
 z0:=sizeOf0
 v0:=zeroValue0
 t2:=underlying2
 a2:=isAgg2
 z2:=sizeOf2
 v2:=zeroValue2
 t3:=underlying3
 a3:=isAgg3
 z3:=sizeOf3
 v3:=zeroValue3
 t4:=underlying4
 a4:=isAgg4
 z4:=sizeOf4
 v4:=zeroValue4
 t5:=underlying5
 a5:=isAgg5
 z5:=sizeOf5
 v5:=zeroValue5
 t9:=underlying9
 a9:=isAgg9
 z9:=sizeOf9
 v9:=zeroValue9
 t20:=underlying20
 a20:=isAgg20
 z20:=sizeOf20
 v20:=zeroValue20
 t37:=underlying142
 a37:=isAgg142
 z37:=sizeOf142
 v37:=zeroValue142
 t46:=underlying42
 a46:=isAgg42
 z46:=sizeOf42
 v46:=zeroValue42
 t51:=underlying68
 a51:=isAgg68
 z51:=sizeOf68
 v51:=zeroValue68
 t53:=underlying22
 a53:=isAgg22
 z53:=sizeOf22
 v53:=zeroValue22
 t171:=underlying239
 a171:=isAgg239
 z171:=sizeOf239
 v171:=zeroValue239
 t173:=underlying241
 a173:=isAgg241
 z173:=sizeOf241
 v173:=zeroValue241
 t212:=underlying255
 a212:=isAgg255
 z212:=sizeOf255
 v212:=zeroValue255
 t213:=underlying256
 a213:=isAgg256
 z213:=sizeOf256
 t232:=underlying268
 a232:=isAgg268
 z232:=sizeOf268
 v232:=zeroValue268
 t233:=underlying269
 a233:=isAgg269
 z233:=sizeOf269
 v233:=zeroValue269
 g17:=by kernel_rfl
 g18:=by kernel_rfl
 g19:=by kernel_rfl
 i0:=by kernel_rfl
 i2:=by kernel_rfl
 i3:=by kernel_rfl
 i4:=by kernel_rfl
 i5:=by kernel_rfl
 i9:=by kernel_rfl
 i20:=by kernel_rfl
 i37:=by kernel_rfl
 i46:=by kernel_rfl
 i51:=by kernel_rfl
 i53:=by kernel_rfl
 i171:=by kernel_rfl
 i173:=by kernel_rfl
 i212:=by kernel_rfl
 i232:=by kernel_rfl
 i233:=by kernel_rfl
 m17:=by kernel_rfl
 m18:=by kernel_rfl
 m19:=by kernel_rfl}
def Zes:Go.Shelf.Ren:=⟨fun | 105=>72 | 212=>119 | 99=>120 | 165=>121 | 166=>122 | 170=>123 | 169=>124 | 263=>163 | 264=>164 | 206=>165 | 240=>166 | 241=>167 | 276=>192 | 277=>193 | n=>n,fun | 9=>9 | 3=>3 | 4=>4 | 20=>20 | 0=>0 | 46=>42 | 109=>173 | 5=>5 | 72=>178 | 76=>180 | 51=>68 | 146=>231 | 53=>22 | 148=>104 | 70=>176 | 37=>142 | 75=>27 | 127=>234 | 164=>122 | 80=>183 | n=>n,fun | n=>n⟩
theorem Zwg:Go.Proofs.Lays.n105 prog Zes:={
 mixed:=by kernel_rfl
 f99:=func120.trans (congrArg some (by kernel_rfl))
 f105:=func72.trans (congrArg some (by kernel_rfl))
 f165:=func121.trans (congrArg some (by kernel_rfl))
 f166:=func122.trans (congrArg some (by kernel_rfl))
 f169:=func124.trans (congrArg some (by kernel_rfl))
 f170:=func123.trans (congrArg some (by kernel_rfl))
 f206:=func165.trans (congrArg some (by kernel_rfl))
 f212:=func119.trans (congrArg some (by kernel_rfl))
 f240:=func166.trans (congrArg some (by kernel_rfl))
 f241:=func167.trans (congrArg some (by kernel_rfl))
 f263:=func163.trans (congrArg some (by kernel_rfl))
 f264:=func164.trans (congrArg some (by kernel_rfl))
 f276:=func192.trans (congrArg some (by kernel_rfl))
 f277:=func193.trans (congrArg some (by kernel_rfl))
 t0:=underlying0
 a0:=isAgg0
 z0:=sizeOf0
 v0:=zeroValue0
 t3:=underlying3
 a3:=isAgg3
 z3:=sizeOf3
 v3:=zeroValue3
 t4:=underlying4
 a4:=isAgg4
 z4:=sizeOf4
 v4:=zeroValue4
 t5:=underlying5
 a5:=isAgg5
 z5:=sizeOf5
 v5:=zeroValue5
 t9:=underlying9
 a9:=isAgg9
 z9:=sizeOf9
 v9:=zeroValue9
 t20:=underlying20
 a20:=isAgg20
 z20:=sizeOf20
 v20:=zeroValue20
 t37:=underlying142
 a37:=isAgg142
 z37:=sizeOf142
 v37:=zeroValue142
 t46:=underlying42
 a46:=isAgg42
 z46:=sizeOf42
 v46:=zeroValue42
 t51:=underlying68
 a51:=isAgg68
 z51:=sizeOf68
 v51:=zeroValue68
 t53:=underlying22
 a53:=isAgg22
 z53:=sizeOf22
 v53:=zeroValue22
 t70:=underlying176
 a70:=isAgg176
 z70:=sizeOf176
 v70:=zeroValue176
 t72:=underlying178
 a72:=isAgg178
 z72:=sizeOf178
 v72:=zeroValue178
 t75:=underlying27
 a75:=isAgg27
 z75:=sizeOf27
 v75:=zeroValue27
 t76:=underlying180
 a76:=isAgg180
 z76:=sizeOf180
 v76:=zeroValue180
 t109:=underlying173
 a109:=isAgg173
 z109:=sizeOf173
 v109:=zeroValue173
 t127:=underlying234
 a127:=isAgg234
 z127:=sizeOf234
 v127:=zeroValue234
 t146:=underlying231
 a146:=isAgg231
 z146:=sizeOf231
 v146:=zeroValue231
 t148:=underlying104
 a148:=isAgg104
 z148:=sizeOf104
 v148:=zeroValue104
 t164:=underlying122
 a164:=isAgg122
 z164:=sizeOf122
 v164:=zeroValue122}
theorem Zdi:Builder.Extra prog Zes:={
 sizeBuilder:=by kernel_rfl
 liesBuilder:=by kernel_rfl
 t5:=underlying5
 a5:=isAgg5
 z5:=sizeOf5
 v5:=zeroValue5
 infoByte:=by kernel_rfl
 cellsByte:=by kernel_rfl
 sizeByte:=by kernel_rfl
 neB5:=by decide}
end Go.Proofs.YtgefjidphfdhdaaGreatDoor
namespace Go.Proofs.YtgefjidphfdhdaaGreatDoor
open Go.IntKind
open Go.KRun Go.Rd
set_option maxRecDepth 100000
theorem Zca:Zx []:=fun _ h=>by cases h
def bR (l:List UInt8):Value:= .string ⟨⟨l⟩⟩
def byR (l:List UInt8) (i:Int):Int:=(((l.getD i.toNat 0).toNat:Nat):Int)
def sK (F:Func):Nat→Code
 | 0=>Zs F
 | n+1=>Z0 (sK F n)
def sP (F:Func) (k:Nat):Code:=Z2 (sK F k)
def pO (k:Nat):Value:= .pointer (some ⟨k,0,none⟩)
theorem ZeX (l l':List UInt8):((⟨⟨l⟩⟩:ByteArray)==⟨⟨l'⟩⟩)=decide (l=l'):=by
 rw[beq_toListBytes,ByteArray.toList_eq,ByteArray.toList_eq];show (l==l')=decide (l=l');by_cases h:l=l'
 ·rw[Xa h];simpa using h
 ·rw[Xb h];simpa using h
theorem za {x y:Int}(h:x=y):(x==y)=true:=by simpa using h
theorem ZR {x y:Int}(h:x≠y):(x==y)=false:=by simpa using h
theorem Ztu {x y:Int}(h:x≠y):(x !=y)=true:=by simpa using h
theorem Ztv {x y:Int}(h:x=y):(x !=y)=false:=by simpa using h
theorem wN {n:Nat}(h:n<1000000000):i64.wrap (((n:Nat):Int)+1)=((n+1:Nat):Int):=by rw[Zw (by omega) (by omega)];omega
end Go.Proofs.YtgefjidphfdhdaaGreatDoor
namespace Go.Proofs.YtgefjidphfdhdaaGreatDoor
open Go.KRun Go.Rd
set_option maxRecDepth 100000
def Zpf (u w:List UInt8) (d:Bool):Bool×Bool:=((⟨⟨u⟩⟩:ByteArray)==⟨⟨w⟩⟩,d)
theorem Zdj {u w:List UInt8}{d:Bool}(h:decide (u=w)=d):(Zpf u w d).1=(Zpf u w d).2:=by
 show ((⟨⟨u⟩⟩:ByteArray)==⟨⟨w⟩⟩)=d;rw[ZeX];exact h
end Go.Proofs.YtgefjidphfdhdaaGreatDoor
namespace Go.Proofs.YtgefjidphfdhdaaGreatDoor
open Go.Proofs.Tryz
open Go.IntKind
open Go.KRun Go.Nt Go.Rd
set_option maxRecDepth 100000
def trP (F:Func):Code:=Z2 (Zs F)
def Z1g (F:Func):Code:=cIn (cIn (Z2 (Z0 (Zs F))))
def trE (F:Func):Code:=Z0 (Z0 (Zs F))
theorem Zwh:f85.body=some (ZW [trP f85] (.seq (.block 0 (.loop (Z1g f85))) (trE f85))):=by kernel_rfl
def trF (l:List UInt8) (c:Int):List Value:=[bR l,.int .u8 c,undef,undef,bR []]
def lm1 (l:List UInt8):Int:=i64.wrap (((l.length:Nat):Int)-1)
theorem Z1h (l:List UInt8) (c:Int):Zg (evL (Zq prog Zf Zo true) 100 [trP f85] ([bR l,.int .u8 c]++List.replicate 21 undef,⟨0,[]⟩,[]) ⟨[],[],[]⟩) 5 18 none (trF l c) ⟨0,[]⟩ []:=by and_intros<;>kernel_rfl
theorem Z6k (l:List UInt8) (c:Int) (g:Nat→Value):Zg (evC (Zq prog Zf Zo true) 100 false (Z1g f85) (trF l c++tl 18 g,⟨0,[]⟩,[cmp true,cmp true,sam true]) ⟨[],[],[]⟩) 5 18 none (trF (l.take (lm1 l).toNat) c) ⟨0,[]⟩ [(decide (0≤lm1 l∧lm1 l≤(l.length:Nat)),true),(byR l (lm1 l)==c,true),(decide (0≤lm1 l∧(lm1 l).toNat<l.length),true),(decide (((l.length:Nat):Int)>0),true)]:=by and_intros<;>kernel_rfl
theorem Z1i (l:List UInt8) (c:Int) (g:Nat→Value):Zg (evC (Zq prog Zf Zo true) 100 false (Z1g f85) (trF l c++tl 18 g,⟨0,[]⟩,[cmp true,cmp false]) ⟨[],[],[]⟩) 5 18 (some (some 0)) (trF l c) ⟨0,[]⟩ [(byR l (lm1 l)==c,false),(decide (0≤lm1 l∧(lm1 l).toNat<l.length),true),(decide (((l.length:Nat):Int)>0),true)]:=by and_intros<;>kernel_rfl
theorem Z1j (l:List UInt8) (c:Int) (g:Nat→Value):Zg (evC (Zq prog Zf Zo true) 100 false (Z1g f85) (trF l c++tl 18 g,⟨0,[]⟩,[cmp false]) ⟨[],[],[]⟩) 5 18 (some (some 0)) (trF l c) ⟨0,[]⟩ [(decide (((l.length:Nat):Int)>0),false)]:=by and_intros<;>kernel_rfl
theorem Z1k (l:List UInt8) (c:Int) (g:Nat→Value):Zg (evC (Zq prog Zf Zo true) 100 false (trE f85) (trF l c++tl 18 g,⟨0,[]⟩,[]) ⟨[],[],[]⟩) 5 18 (some none) [bR l,.int .u8 c,undef,undef,bR l] ⟨0,[]⟩ []:=by and_intros<;>kernel_rfl
end Go.Proofs.YtgefjidphfdhdaaGreatDoor
namespace Go.Rd
open Go.Rn Go.Pt
theorem Z1l {A B u c:Nat}(hB:0<B) (h:c*B≤A*2^u):2*c≤dvK A B u:=by
 have:=(Nat.le_div_iff_mul_le hB).2 h;unfold dvK;omega
theorem Z1m {A B u c:Nat}(h:A*2^u≤c*B):dvK A B u≤2*c:=by
 have h1:A*2^u/B≤c:=Nat.div_le_of_le_mul (by rw[Nat.mul_comm B c];exact h);unfold dvK;by_cases h2:A*2^u/B=c
 ·have h3:=Nat.div_add_mod (A*2^u) B;have h4:A*2^u % B=0:=by
   rw[h2,Nat.mul_comm] at h3;omega
  rw[if_pos h4,h2];omega
 ·split<;>omega
theorem Zn3 {S r:Nat}(h0:S≠0) (hr:r<32):bitLen (32*S+r)=bitLen S+5:=by
 have h1:=(bitLen_spec S).1;have h2:=(bitLen_spec S).2 h0;have h3:=Zau h0;refine Zay (k:=bitLen S+4) ?_ ?_
 ·have e:2^(bitLen S+4)=2^(bitLen S-1)*32:=by rw[show (32:Nat)=2^5 from rfl,← Nat.pow_add];congr 1;omega
  omega
 ·have e:2^(bitLen S+4+1)=2^bitLen S*32:=by rw[show (32:Nat)=2^5 from rfl,← Nat.pow_add]
  omega
theorem Zwi (n:Bool) (S:Nat):rq 0 n (32*S+15) 5=S∧rq 0 n (32*S+17) 5=S+1:=by
 have e:(2:Nat)^5=32:=rfl;unfold rq;rw[e,show (32*S+15)/32=S by omega,show (32*S+15) % 32=15 by omega,show (32*S+17)/32=S by omega,show (32*S+17) % 32=17 by omega];have r1:zX 15 32=1:=by decide
 have r2:zX 17 32=3:=by decide
 have u1:∀ o,upR 0 n o 1=false:=fun o=>by cases n<;>cases o<;>decide
 have u2:∀ o,upR 0 n o 3=true:=fun o=>by cases n<;>cases o<;>decide
 rw[r1,r2,u1,u2];exact⟨rfl,rfl⟩
theorem Zn4 (n:Bool) {S:Nat}{x:Int}(hx: -1074≤x) (hS:S<9007199254740992) (h:x= -1074∨4503599627370496≤S) (hb:(x+1074)*4503599627370496+(S:Int)<9218868437227405312) (h0:S≠0):rnP 0 n (32*S+15) (x-5)=(x+1074)*4503599627370496+(S:Int):=by
 have hl:=Zn3 h0 (show 15<32 by omega);have l53:bitLen S≤53:=len_le (k:=53) (show S<2^53 from hS);have he:zA (32*S+15) (x-5)=x:=by
  unfold zA lgN;rw[hl];rcases h with h | h
  ·rw[if_pos (by omega)];omega
  ·have:53≤bitLen S:=Zeq (k:=52) h;split<;>omega
 have hq:toQ 0 n (32*S+15) (x-5) x=S:=by
  unfold toQ;rw[if_neg (by omega),show (x-(x-5)).toNat=5 by omega];exact (Zwi n S).1
 unfold rnP p0;rw[if_neg (by omega),he,hq,if_neg (by omega)]
theorem Zn5 (n:Bool) {S:Nat}{x:Int}(hx: -1074≤x) (hS:S<9007199254740992) (h:x= -1074∨4503599627370496<S) (hb:(x+1074)*4503599627370496+(S:Int)<9218868437227405312) (h0:S≠0):rnP 0 n (32*S-15) (x-5)=(x+1074)*4503599627370496+(S:Int):=by
 have l53:bitLen S≤53:=len_le (k:=53) (show S<2^53 from hS);have e1:32*S-15=32*(S-1)+17:=by omega
 have he:zA (32*S-15) (x-5)=x:=by
  unfold zA lgN;rcases h with h | h
  ·have h58:bitLen (32*S-15)≤bitLen S+5:=by
    refine len_le ?_;have h1:=(bitLen_spec S).1;rw[Nat.pow_add];omega
   rw[if_pos (by omega)];omega
  ·have h1:bitLen (32*S-15)=58:=by
    rw[e1,Zn3 (by omega) (by omega)];have:bitLen (S-1)=53:=Zay (k:=52) (show 2^52≤S-1 from by have:(2:Nat)^52=4503599627370496:=rfl;omega) (show S-1<2^53 from by have:(2:Nat)^53=9007199254740992:=rfl;omega);omega
   rw[h1];split<;>omega
 have hq:toQ 0 n (32*S-15) (x-5) x=S:=by
  unfold toQ;rw[if_neg (by omega),show (x-(x-5)).toNat=5 by omega,e1,(Zwi n (S-1)).2];omega
 unfold rnP p0;rw[if_neg (by omega),he,hq,if_neg (by omega)]
theorem Zn6 (n:Bool) {x:Int}(hx: -1074<x) (hb:(x+1074)*4503599627370496+4503599627370496<9218868437227405312):rnP 0 n (64*4503599627370496-15) (x-6)=(x+1074)*4503599627370496+4503599627370496:=by
 have e1:64*4503599627370496-15=32*9007199254740991+17:=by omega
 have h1:bitLen (64*4503599627370496-15)=58:=by
  rw[e1,Zn3 (by omega) (by omega)];have:bitLen 9007199254740991=53:=Zay (k:=52) (by decide) (by decide);omega
 have he:zA (64*4503599627370496-15) (x-6)=x-1:=by
  unfold zA lgN;rw[h1];split<;>omega
 have hq:toQ 0 n (64*4503599627370496-15) (x-6) (x-1)=9007199254740992:=by
  unfold toQ;rw[if_neg (by omega),show (x-1-(x-6)).toNat=5 by omega,e1,(Zwi n 9007199254740991).2]
 unfold rnP p0;rw[if_neg (by omega),he,hq,if_neg (by omega)];omega
theorem ZeY {n:Bool}{A B T U:Nat}{e f P:Int}(hA:A≠0) (hB:B≠0) (he: -1200≤e) (hf: -1200≤f) (h1:∀ u:Nat,1200≤u→T*2^(e+u).toNat*B≤A*2^u) (h2:∀ u:Nat,1200≤u→A*2^u≤U*2^(f+u).toNat*B) (hT:rnP 0 n T e=P) (hU:rnP 0 n U f=P):rqP 0 n A B=P:=by
 obtain⟨u,hu⟩:∃ u,u=1200+upN A B:=⟨_,rfl⟩;have hbits:54≤bitLen (A*2^u/B):=by
  have h3:=ZbV hA hB;have h4:A*2^upN A B/B≤A*2^u/B:=Nat.div_le_div_right (Nat.mul_le_mul_left _ (Nat.pow_le_pow_right (by omega) (by omega)));have h5:2^79≤A*2^upN A B/B:=by
   rw[Nat.le_div_iff_mul_le (by omega)];exact Zjd hA
  have:=Zeq (Nat.le_trans h5 h4);omega
 rw[← (Zns (m:=0) (n:=n) hA hB hbits).1];have a1:=Z1l (by omega) (h1 u (by omega));have a2:=Z1m (h2 u (by omega));have m1:=Zaz (m:=0) (neg:=n) (E:= -(u:Int)-1) a1;have m2:=Zaz (m:=0) (neg:=n) (E:= -(u:Int)-1) a2;have s1:=ZbJ 0 n T ((e+u).toNat+1) e;have s2:=ZbJ 0 n U ((f+u).toNat+1) f;rw[show e-(((e+u).toNat+1:Nat):Int)= -(u:Int)-1 by omega,hT,Nat.pow_succ,← Nat.mul_assoc,Nat.mul_comm _ 2] at s1;rw[show f-(((f+u).toNat+1:Nat):Int)= -(u:Int)-1 by omega,hU,Nat.pow_succ,← Nat.mul_assoc,Nat.mul_comm _ 2] at s2;rw[s1] at m1;rw[s2] at m2;omega
theorem ZfI {x:Int}{u:Nat}{d:Nat}(hd:d≤x+u):2^(x-d+u).toNat*2^d*2^(-x).toNat=2^x.toNat*2^u:=by
 rw[← Nat.pow_add,← Nat.pow_add,← Nat.pow_add];congr 1;omega
theorem Zry {n:Bool}{p:Int}(hf:ex p≠2047) (h0:(sg p).toNat≠0) {A B:Nat}(hA:A≠0) (hB:B≠0)
  (hi:20000000000000000*(A*2^(-(xp p)).toNat)≤20000000000000001*((sg p).toNat*(2^(xp p).toNat*B))) (hl:19999999999999999*((sg p).toNat*(2^(xp p).toNat*B))≤20000000000000000*(A*2^(-(xp p)).toNat)):rqP 0 n A B=mag p:=by
 have xb:=xp_bd p;have sb:=sg_lt p;have hm:mag p=(xp p+1074)*4503599627370496+(sg p).toNat∧(xp p= -1074∨4503599627370496≤(sg p).toNat)∧mag p<9218868437227405312:=by
  have h1:=ZhE p;have h2:=Zf9 p;have h4:mag p=4503599627370496*ex p+fr p:=by unfold mag ex fr;omega
  by_cases he:ex p=0
  ·have e1:sg p=fr p:=by unfold sg;rw[if_pos he]
   have e2:xp p= -1074:=by unfold xp;rw[if_pos he]
   rw[e1,e2];exact⟨by omega,.inl rfl,by omega⟩
  ·have e1:sg p=fr p+4503599627370496:=by unfold sg;rw[if_neg he,if_neg hf]
   have e2:xp p=ex p-1075:=by unfold xp;rw[if_neg he,if_neg hf]
   rw[e1,e2];exact⟨by omega,.inr (by omega),by omega⟩
 obtain⟨S,hS⟩:∃ S,S=(sg p).toNat:=⟨_,rfl⟩;obtain⟨x,hx⟩:∃ x,x=xp p:=⟨_,rfl⟩;rw[← hS,← hx] at hm;rw[← hS,← hx] at hi hl;rw[← hS] at h0;rw[← hx] at xb;obtain⟨m1,m2,m3⟩:=hm;obtain⟨M,hM⟩:∃ M,M=2^x.toNat*B:=⟨_,rfl⟩;obtain⟨Z,hZ⟩:∃ Z,Z=A*2^(-x).toNat:=⟨_,rfl⟩;rw[← hM,← hZ] at hi hl;have hV:0<2^(-x).toNat:=Nat.pow_pos (by omega);have up:32*Z≤(32*S+15)*M:=by
  have h1:32*(20000000000000001*S)*M≤20000000000000000*(32*S+15)*M:=Nat.mul_le_mul_right M (by omega);have e1:32*(20000000000000001*S)*M=32*(20000000000000001*(S*M)):=by rw[Nat.mul_assoc 32,Nat.mul_assoc 20000000000000001]
  have e2:20000000000000000*(32*S+15)*M=20000000000000000*((32*S+15)*M):=Nat.mul_assoc _ _ _;rw[e1,e2] at h1;omega
 have hup:∀ u:Nat,1200≤u→A*2^u≤(32*S+15)*2^(x-5+u).toNat*B:=fun u hu=>by
  have e:=ZfI (x:=x) (u:=u) (d:=5) (by omega);rw[show ((5:Nat):Int)=5 from rfl] at e;refine Nat.le_of_mul_le_mul_right (c:=32*2^(-x).toNat) ?_ (by omega);have l:A*2^u*(32*2^(-x).toNat)=32*Z*2^u:=by rw[hZ];ac_rfl
  have r:(32*S+15)*2^(x-5+u).toNat*B*(32*2^(-x).toNat)=(32*S+15)*M*2^u:=by
   obtain⟨K,hK⟩:∃ K,K=32*S+15:=⟨_,rfl⟩;rw[← hK];have:K*2^(x-5+u).toNat*B*(32*2^(-x).toNat)=K*(2^(x-5+u).toNat*2^5*2^(-x).toNat)*B:=by rw[show (32:Nat)=2^5 from rfl];ac_rfl
   rw[this,e,hM]
   ac_rfl
  rw[l,r];exact Nat.mul_le_mul_right _ up
 have hU:=Zn4 n (S:=S) (x:=x) (by omega) (by omega) m2 (by omega) h0;rw[← m1] at hU;by_cases ht:S=4503599627370496∧ -1074<x
 ·have dn:(64*S-15)*M≤64*Z:=by
   have h1:20000000000000000*(64*S-15)*M≤64*(19999999999999999*S)*M:=Nat.mul_le_mul_right M (by omega);have e1:64*(19999999999999999*S)*M=64*(19999999999999999*(S*M)):=by rw[Nat.mul_assoc 64,Nat.mul_assoc 19999999999999999]
   have e2:20000000000000000*(64*S-15)*M=20000000000000000*((64*S-15)*M):=Nat.mul_assoc _ _ _;rw[e1,e2] at h1;omega
  have hdn:∀ u:Nat,1200≤u→(64*S-15)*2^(x-6+u).toNat*B≤A*2^u:=fun u hu=>by
   have e:=ZfI (x:=x) (u:=u) (d:=6) (by omega);rw[show ((6:Nat):Int)=6 from rfl] at e;refine Nat.le_of_mul_le_mul_right (c:=64*2^(-x).toNat) ?_ (by omega);have l:A*2^u*(64*2^(-x).toNat)=64*Z*2^u:=by rw[hZ];ac_rfl
   have r:(64*S-15)*2^(x-6+u).toNat*B*(64*2^(-x).toNat)=(64*S-15)*M*2^u:=by
    obtain⟨K,hK⟩:∃ K,K=64*S-15:=⟨_,rfl⟩;rw[← hK];have:K*2^(x-6+u).toNat*B*(64*2^(-x).toNat)=K*(2^(x-6+u).toNat*2^6*2^(-x).toNat)*B:=by rw[show (64:Nat)=2^6 from rfl];ac_rfl
    rw[this,e,hM]
    ac_rfl
   rw[l,r];exact Nat.mul_le_mul_right _ dn
  have hT:=Zn6 n (x:=x) ht.2 (by omega);refine ZeY hA hB (e:=x-6) (f:=x-5) (by omega) (by omega) hdn hup ?_ hU;rw[ht.1,hT,m1,ht.1];rfl
 ·have dn:(32*S-15)*M≤32*Z:=by
   have h1:20000000000000000*(32*S-15)*M≤32*(19999999999999999*S)*M:=Nat.mul_le_mul_right M (by omega);have e1:32*(19999999999999999*S)*M=32*(19999999999999999*(S*M)):=by rw[Nat.mul_assoc 32,Nat.mul_assoc 19999999999999999]
   have e2:20000000000000000*(32*S-15)*M=20000000000000000*((32*S-15)*M):=Nat.mul_assoc _ _ _;rw[e1,e2] at h1;omega
  have hdn:∀ u:Nat,1200≤u→(32*S-15)*2^(x-5+u).toNat*B≤A*2^u:=fun u hu=>by
   have e:=ZfI (x:=x) (u:=u) (d:=5) (by omega);rw[show ((5:Nat):Int)=5 from rfl] at e;refine Nat.le_of_mul_le_mul_right (c:=32*2^(-x).toNat) ?_ (by omega);have l:A*2^u*(32*2^(-x).toNat)=32*Z*2^u:=by rw[hZ];ac_rfl
   have r:(32*S-15)*2^(x-5+u).toNat*B*(32*2^(-x).toNat)=(32*S-15)*M*2^u:=by
    obtain⟨K,hK⟩:∃ K,K=32*S-15:=⟨_,rfl⟩;rw[← hK];have:K*2^(x-5+u).toNat*B*(32*2^(-x).toNat)=K*(2^(x-5+u).toNat*2^5*2^(-x).toNat)*B:=by rw[show (32:Nat)=2^5 from rfl];ac_rfl
    rw[this,e,hM]
    ac_rfl
   rw[l,r];exact Nat.mul_le_mul_right _ dn
  have hT:=Zn5 n (S:=S) (x:=x) (by omega) (by omega) (by omega) (by omega) h0;rw[← m1] at hT;exact ZeY hA hB (e:=x-5) (f:=x-5) (by omega) (by omega) hdn hup hT hU
def paN (S:Nat) (E j:Int):Nat:=S*2^E.toNat*10^j.toNat
def pbN (E j:Int):Nat:=2^(-E).toNat*10^(-j).toNat
theorem zP (E j:Int):0<pbN E j:=Nat.mul_pos (Nat.pow_pos (by omega)) (Nat.pow_pos (by omega))
theorem ZfJ {S:Nat}(h:S≠0) (E j:Int):0<paN S E j:=Nat.mul_pos (Nat.mul_pos (by omega) (Nat.pow_pos (by omega))) (Nat.pow_pos (by omega))
theorem Zdk (S:Nat) (E j:Int) (c:Nat):paN S E (j+c)*pbN E j=paN S E j*10^c*pbN E (j+c):=by
 unfold paN pbN;have h:10^(j+c).toNat*10^(-j).toNat=10^j.toNat*10^c*10^(-(j+c)).toNat:=by
  rw[← Nat.pow_add,← Nat.pow_add,← Nat.pow_add];congr 1;omega
 have l:S*2^E.toNat*10^(j+c).toNat*(2^(-E).toNat*10^(-j).toNat)=S*2^E.toNat*2^(-E).toNat*(10^(j+c).toNat*10^(-j).toNat):=by ac_rfl
 rw[l,h]
 ac_rfl
theorem Zet {S:Nat}{E j:Int}{a:Nat}(c:Nat) (h:a*pbN E j≤paN S E j):a*10^c*pbN E (j+c)≤paN S E (j+c):=by
 have hs:=Zdk S E j c;refine Nat.le_of_mul_le_mul_right (c:=pbN E j) ?_ (zP E j);rw[hs];have e:a*10^c*pbN E (j+c)*pbN E j=a*pbN E j*(10^c*pbN E (j+c)):=by ac_rfl
 rw[e,Nat.mul_assoc (paN S E j)];exact Nat.mul_le_mul_right _ h
theorem ZfK {S:Nat}{E j:Int}{a:Nat}(c:Nat) (h:paN S E j<a*pbN E j):paN S E (j+c)<a*10^c*pbN E (j+c):=by
 have hs:=Zdk S E j c;refine Nat.lt_of_mul_lt_mul_right (a:=pbN E j) ?_;rw[hs];have e:a*10^c*pbN E (j+c)*pbN E j=a*pbN E j*(10^c*pbN E (j+c)):=by ac_rfl
 rw[e,Nat.mul_assoc (paN S E j)];exact Nat.mul_lt_mul_of_pos_right h (Nat.mul_pos (Nat.pow_pos (by omega)) (zP _ _))
def Zav (S:Nat) (E f:Int):Prop:=pbN E (-f)≤paN S E (-f)∧paN S E (-(f+1))<pbN E (-(f+1))
theorem Zdx {S:Nat}{E f:Int}(h:Zav S E f) {n:Nat}(hn:1≤n):10^(n-1)*pbN E ((n:Int)-1-f)≤paN S E ((n:Int)-1-f)∧paN S E ((n:Int)-1-f)<10^n*pbN E ((n:Int)-1-f):=by
 obtain⟨h1,h2⟩:=h;have a:=Zet (a:=1) (n-1) (by rw[Nat.one_mul];exact h1);have b:=ZfK (a:=1) n (by rw[Nat.one_mul];exact h2);rw[Nat.one_mul,show -f+((n-1:Nat):Int)=(n:Int)-1-f by omega] at a;rw[Nat.one_mul,show -(f+1)+(n:Int)=(n:Int)-1-f by omega] at b;exact⟨a,b⟩
theorem Zn7 {S:Nat}{E f g:Int}(hf:Zav S E f) (hg:Zav S E g):f=g:=by
 have key:∀ {f g:Int},Zav S E f→Zav S E g→¬ f<g:=by
  intro f g hf hg hlt;obtain⟨_,h2⟩:=hf;obtain⟨h3,_⟩:=hg;have a:=Zet (a:=1) (g-(f+1)).toNat (by rw[Nat.one_mul];exact h3);rw[show -g+(((g-(f+1)).toNat:Nat):Int)= -(f+1) by omega,Nat.one_mul] at a;have:pbN E (-(f+1))≤10^(g-(f+1)).toNat*pbN E (-(f+1)):=Nat.le_mul_of_pos_left _ (Nat.pow_pos (by omega));omega
 have h1:=key hf hg;have h2:=key hg hf;omega
theorem Zjk {S:Nat}{E f:Int}(h1:pbN E (-f)≤paN S E (-f)) (h2:¬ pbN E (-(f+1))≤paN S E (-(f+1))):Zav S E f:=⟨h1,by omega⟩
theorem Zn8 {n:Bool}{p:Int}(hf:ex p≠2047) (h0:(sg p).toNat≠0) {f:Int}(h:Zav (sg p).toNat (xp p) f) {q:Nat}(hq0:q≠0)
  (hi:2*(q*pbN (xp p) (16-f))≤2*paN (sg p).toNat (xp p) (16-f)+pbN (xp p) (16-f)) (hl:2*paN (sg p).toNat (xp p) (16-f)≤2*(q*pbN (xp p) (16-f))+pbN (xp p) (16-f)):deP 0 n q (f-16)=mag p:=by
 have hd:=(Zdx h (n:=17) (by omega)).1;rw[show ((17:Nat):Int)-1-f=16-f by omega] at hd;obtain⟨a,ha⟩:∃ a,a=paN (sg p).toNat (xp p) (16-f):=⟨_,rfl⟩;obtain⟨b,hb⟩:∃ b,b=pbN (xp p) (16-f):=⟨_,rfl⟩;rw[← ha,← hb] at hi hl hd;have e16:10^(17-1)=10000000000000000:=rfl;rw[e16] at hd;obtain⟨Q,hQ⟩:∃ Q,Q=q*b:=⟨_,rfl⟩;rw[← hQ] at hi hl;unfold deP;refine Zry hf h0 (Zcd hq0 (ZaO _)) (ZaO _) ?_ ?_
 ·have l:q*10^(f-16).toNat*2^(-(xp p)).toNat=Q:=by
   rw[hQ,hb];unfold pbN;rw[show (-(16-f)).toNat=(f-16).toNat by omega]
   ac_rfl
  have r:(sg p).toNat*(2^(xp p).toNat*10^(-(f-16)).toNat)=a:=by
   rw[ha];unfold paN;rw[show (-(f-16)).toNat=(16-f).toNat by omega]
   ac_rfl
  rw[l,r];omega
 ·have l:q*10^(f-16).toNat*2^(-(xp p)).toNat=Q:=by
   rw[hQ,hb];unfold pbN;rw[show (-(16-f)).toNat=(f-16).toNat by omega]
   ac_rfl
  have r:(sg p).toNat*(2^(xp p).toNat*10^(-(f-16)).toNat)=a:=by
   rw[ha];unfold paN;rw[show (-(f-16)).toNat=(16-f).toNat by omega]
   ac_rfl
  rw[l,r];omega
def n0F (top:Int):Int:=(top*30103).tdiv 100000+2
def n0K (k:Nat):Bool:=Nat.ble (2^((k:Int)-1073).toNat*10^(-(n0F ((k:Int)-1073)+1)).toNat) (10^(n0F ((k:Int)-1073)+1).toNat*2^(-((k:Int)-1073)).toNat)
theorem Z1n:(List.range 2100).all n0K=true:=by decide+kernel
theorem Z6l {top:Int}(h0: -1073≤top) (h1:top≤1026):2^top.toNat*10^(-(n0F top+1)).toNat≤10^(n0F top+1).toNat*2^(-top).toNat:=by
 have h:=List.all_eq_true.1 Z1n (top+1073).toNat (List.mem_range.2 (by omega));unfold n0K at h;rw[show (((top+1073).toNat:Nat):Int)-1073=top by omega] at h;exact Nat.le_of_ble_eq_true h
theorem ZhO {S:Nat}{E:Int}(h0:S≠0) (hE: -1074≤E) (hE1:E≤972) (hS:S<9007199254740992):¬ pbN E (-(n0F (E+(bitLen S:Nat))+1))≤paN S E (-(n0F (E+(bitLen S:Nat))+1)):=by
 have hl:=(bitLen_spec S).1;have h1:=Zau h0;have h53:bitLen S≤53:=len_le (k:=53) (show S<2^53 from hS);obtain⟨top,ht⟩:∃ top,top=E+((bitLen S:Nat):Int):=⟨_,rfl⟩;rw[← ht];have hk:=Z6l (top:=top) (by omega) (by omega);obtain⟨N,hN⟩:∃ N,N=n0F top+1:=⟨_,rfl⟩;rw[← hN] at hk ⊢;intro h;unfold pbN paN at h;rw[show (- -N).toNat=N.toNat by omega] at h;have e:2^top.toNat*2^(-E).toNat=2^E.toNat*2^bitLen S*2^(-top).toNat:=by
  rw[← Nat.pow_add,← Nat.pow_add,← Nat.pow_add];congr 1;omega
 have p1:0<2^E.toNat*10^(-N).toNat*2^(-top).toNat:=Nat.mul_pos (Nat.mul_pos (Nat.pow_pos (by omega)) (Nat.pow_pos (by omega))) (Nat.pow_pos (by omega));have a:S*2^E.toNat*10^(-N).toNat*2^(-top).toNat<2^bitLen S*(2^E.toNat*10^(-N).toNat*2^(-top).toNat):=by
  have:=Nat.mul_lt_mul_of_pos_right hl p1;have e2:S*(2^E.toNat*10^(-N).toNat*2^(-top).toNat)=S*2^E.toNat*10^(-N).toNat*2^(-top).toNat:=by ac_rfl
  rw[e2] at this;exact this
 have b:=Nat.mul_le_mul_right (2^(-top).toNat) h;have c:=Nat.mul_le_mul_right (2^(-E).toNat) hk;have e3:2^bitLen S*(2^E.toNat*10^(-N).toNat*2^(-top).toNat)=2^top.toNat*10^(-N).toNat*2^(-E).toNat:=by
  have:2^top.toNat*10^(-N).toNat*2^(-E).toNat=2^top.toNat*2^(-E).toNat*10^(-N).toNat:=by ac_rfl
  rw[this,e]
  ac_rfl
 have e4:2^(-E).toNat*10^N.toNat*2^(-top).toNat=10^N.toNat*2^(-top).toNat*2^(-E).toNat:=by ac_rfl
 rw[e3] at a;rw[e4] at b;omega
theorem ZgL {S:Nat}{E f:Int}(h0:S≠0) (hE: -1074≤E) (hf:f≤ -324):pbN E (-f)≤paN S E (-f):=by
 obtain⟨J,hJ⟩:∃ J:Nat,J=1074:=⟨_,rfl⟩;obtain⟨K,hK⟩:∃ K:Nat,K=1023:=⟨_,rfl⟩;obtain⟨L,hL⟩:∃ L:Nat,L=308:=⟨_,rfl⟩;have h1:(2:Nat)^J≤10^(-f).toNat:=by
  have h2:(2:Nat)^K≤10^L:=ZhK (i:=11) (by omega) (by omega);have h3:(2:Nat)^51≤10^16:=by decide
  have h4:=Nat.mul_le_mul h2 h3;rw[← Nat.pow_add,← Nat.pow_add] at h4;exact Nat.le_trans (Nat.pow_le_pow_right (by omega) (by omega)) (Nat.le_trans h4 (Nat.pow_le_pow_right (by omega) (by omega)))
 unfold pbN paN;rw[show (- -f).toNat=0 by omega,Nat.pow_zero,Nat.mul_one];refine Nat.le_trans (Nat.pow_le_pow_right (by omega) (show (-E).toNat≤J by omega)) (Nat.le_trans h1 ?_);exact Nat.le_mul_of_pos_left _ (Nat.mul_pos (by omega) (Nat.pow_pos (by omega)))
def frK (S:Nat) (E:Int):Nat→Int→Int
 | 0,n=>n
 | k+1,n=>if pbN E (-n)≤paN S E (-n) then n else frK S E k (n-1)
theorem Ztw {S:Nat}{E:Int}:∀ (k:Nat) (n:Int),¬ pbN E (-(n+1))≤paN S E (-(n+1))→pbN E (-(n-k))≤paN S E (-(n-k))→Zav S E (frK S E k n)∧n-k≤frK S E k n∧frK S E k n≤n
 | 0,n,h1,h2=>by
  rw[show n-((0:Nat):Int)=n by omega] at h2;exact⟨Zjk h2 h1,by unfold frK;omega,by unfold frK;omega⟩
 | k+1,n,h1,h2=>by
  unfold frK;by_cases h:pbN E (-n)≤paN S E (-n)
  ·rw[if_pos h];exact⟨Zjk h h1,by omega,by omega⟩
  ·rw[if_neg h];obtain⟨a,b,c⟩:=Ztw k (n-1) (by rw[show n-1+1=n by omega];exact h) (by rw[show n-1-(k:Int)=n-((k+1:Nat):Int) by omega];exact h2);exact⟨a,by omega,by omega⟩
def frS (S:Nat) (E:Int):Int:=frK S E (n0F (E+(bitLen S:Nat))+324).toNat (n0F (E+(bitLen S:Nat)))
theorem Ztx {top:Int}(h: -1073≤top) (h1:top≤1026): -324≤n0F top∧n0F top≤400:=by
 unfold n0F;have h2:(top*30103).tdiv 100000=if 0≤top then top*30103/100000 else -((-top)*30103/100000):=by
  split
  ·rw[Int.tdiv_eq_ediv_of_nonneg (by omega)]
  ·rw[show top*30103= -((-top)*30103) by omega,Int.neg_tdiv,Int.tdiv_eq_ediv_of_nonneg (by omega)]
 rw[h2];split<;>omega
theorem Z1o {S:Nat}{E:Int}(h0:S≠0) (hE: -1074≤E) (hE1:E≤972) (hS:S<9007199254740992):Zav S E (frS S E)∧ -324≤frS S E∧frS S E≤400:=by
 have hb:bitLen S≤53:=len_le (k:=53) hS;have hb1:=Zau h0;obtain⟨l1,l2⟩:=Ztx (top:=E+(bitLen S:Nat)) (by omega) (by omega);have ha:=ZhO h0 hE hE1 hS;unfold frS;obtain⟨n,hn⟩:∃ n,n=n0F (E+(bitLen S:Nat)):=⟨_,rfl⟩;rw[← hn] at ha l1 l2 ⊢;have hl:=ZgL (f:= -324) h0 hE (by omega);have:=Ztw (S:=S) (E:=E) (n+324).toNat n ha (by rw[show n-((n+324).toNat:Nat)= -324 by omega];exact hl);exact⟨this.1,by omega,by omega⟩
end Go.Rd
namespace Go.Rd
open Go.Rn
theorem Zjl {A:List UInt8}(h:Zb2 10 A=true):∀ d∈A,d≠120:=by
 intro d hd h0;unfold Zb2 at h;rw[List.all_eq_true] at h;have:=ZbK (Xc (h d hd));rw[h0] at this;exact absurd this.2 (by decide)
theorem Zty (x:Int):∀ d∈ZaB x,d≠120:=by
 intro d hd;unfold ZaB at hd;split at hd
 ·rcases List.mem_cons.1 hd with h | h
  ·rw[h];decide
  ·exact Zjl (ZcE 20 x.natAbs 10) d h
 ·exact Zjl (ZcE 20 x.natAbs 10) d hd
theorem Ztz {A B:List UInt8}(hA:∀ d∈A,d≠120) (hB:∀ d∈B,d≠120):∀ d∈A++B,d≠120:=fun d hd=>(List.mem_append.1 hd).elim (hA d) (hB d)
theorem ZhP {c:UInt8}{B:List UInt8}(hc:c≠120) (hB:∀ d∈B,d≠120):∀ d∈c::B,d≠120:=fun d hd=>(List.mem_cons.1 hd).elim (fun h=>by rw[h];exact hc) (hB d)
theorem Zt0 {b:Int}{v D:List UInt8}{k:Nat}{r:List UInt8}(h:sc1 b false v=(D,k,r)) (hD:D≠[]):scA b v=scE b r:=by
 unfold scA;rw[h];dsimp only;rw[if_neg hD]
theorem Z6m (m:Int) (n:Bool) {A:List UInt8}(hA:Zb2 10 A=true) (h0:A≠[]) {x:Int}(hx:x.natAbs≤2000000):rdQ m n 10 (A++101::ZaB x)=rdN m n (nmB 10 A) x:=by
 have es:sc1 10 false (101::ZaB x)=([],0,101::ZaB x):=Zji (by decide) (by decide);have e:sc1 10 false (A++101::ZaB x)=(A,0,101::ZaB x):=by
  rw[ZhL hA,es];simp
 have ea:=Zt0 e h0;rw[Zn0 (.inl rfl) ⟨fun _=>rfl,fun h=>absurd h (by decide)⟩ hx] at ea;rw[Znx (by rw[ea]),ea,e];dsimp only;congr 1;omega
theorem Z1p (m:Int) (n:Bool) {A B:List UInt8}(hA:Zb2 10 A=true) (hB:Zb2 10 B=true) (h0:A≠[]) {x:Int}(hx:x.natAbs≤2000000):rdQ m n 10 (A++46::(B++101::ZaB x))=rdN m n (nmB 10 (A++B)) (x-(B.length:Nat)):=by
 have es:sc1 10 true (101::ZaB x)=([],0,101::ZaB x):=Zji (by decide) (by decide);have e2:sc1 10 true (B++101::ZaB x)=(B,B.length,101::ZaB x):=by
  rw[ZhL hB,es];simp
 have e:sc1 10 false (A++46::(B++101::ZaB x))=(A++B,B.length,101::ZaB x):=by
  rw[ZhL hA,Z1a,e2];simp
 have ea:=Zt0 e (fun h=>h0 (List.append_eq_nil_iff.1 h).1);rw[Zn0 (.inl rfl) ⟨fun _=>rfl,fun h=>absurd h (by decide)⟩ hx] at ea;rw[Znx (by rw[ea]),ea,e]
theorem ZeZ (m:Int) {A t:List UInt8}(hA:Zb2 10 A=true) (h0:A≠[]) (ht:∀ d∈t,d≠120) (hl:(A++t).length≤65000):rdP m (A++t)=rdQ m false 10 (A++t)∧rdP m (45::(A++t))=rdQ m true 10 (A++t):=by
 cases A with
 | nil=>exact absurd rfl h0
 | cons c A=>
  have hn:=Zjl hA;unfold Zb2 at hA;rw[List.all_cons,Xh] at hA;have hc:=ZbK (Xc hA.1);have hr:∀ d∈A++t,d≠120:=Ztz (fun d hd=>hn d (Xd _ hd)) ht;rw[List.cons_append] at hl ⊢;exact⟨Zjj (by omega) (ZgI hc) hc hr,Zjj (by rw[List.length_cons];omega) (ZgJ _) hc hr⟩
theorem ZhQ (n:Nat):(dcL n).length≤20:=ZdE 20 n
theorem ZdF (x:Int):(ZaB x).length≤21:=by
 unfold ZaB;split
 ·rw[List.length_cons];have:=ZhQ x.natAbs;omega
 ·have:=ZhQ x.natAbs;omega
end Go.Rd
namespace Go.Rd
open Go.Rn Go.Pt
def txL (n:Bool) (s:List UInt8) (e:Int):List UInt8:=(if n=true then [45] else [])++((match s with | []=>[] | [c]=>[c] | c::r=>c::46::r)++101::ZaB e)
theorem Zn9 {f n:Nat}(h:10^(f-1)≤n) (hf:1≤f):(Zba f n).length=f:=by
 induction f generalizing n with
 | zero=>omega
 | succ f ih=>
  unfold Zba;by_cases h0:f=0
  ·subst h0;split
   ·rfl
   ·rfl
  ·have e:10^(f+1-1)=10*10^(f-1):=by rw[Nat.mul_comm,← Nat.pow_succ];congr 1;omega
   have hp:0<10^(f-1):=Nat.pow_pos (by omega);rw[e] at h;rw[if_neg (by omega),List.length_append,ih (by omega) (by omega)];rfl
theorem ZhR (m:Int) (mn:Bool) {n q:Nat}(hn:1≤n) (hn2:n≤2000) (h1:10^(n-1)≤q) (h2:q<10^n) {e:Int}(he:e.natAbs≤2000):rdP m (txL mn (Zba n q) e)=rdN m mn q (e-((n:Int)-1)):=by
 have hl:=Zn9 h1 hn;have ha:=ZcE n q 10;have hv:=ZfF h2;have le:=ZdF e;have key:∀ b:Bool,rdP m (txL b (Zba n q) e)=rdN m b q (e-((n:Int)-1)):=by
  intro b;cases hd:Zba n q with
  | nil=>rw[hd] at hl;simp at hl;omega
  | cons c r=>
   rw[hd] at hl ha hv;rw[List.length_cons] at hl;have hc:Zb2 10 [c]=true:=by
    unfold Zb2 at ha ⊢;rw[List.all_cons,Xh] at ha;rw[List.all_cons,ha.1];rfl
   have hr:Zb2 10 r=true:=by
    unfold Zb2 at ha ⊢;rw[List.all_cons,Xh] at ha;exact ha.2
   cases r with
   | nil=>
    have e1:∀ b,txL b [c] e=(if b=true then [45] else [])++([c]++101::ZaB e):=fun b=>rfl;have hlen:n=1:=by simp at hl;omega
    obtain⟨p1,p2⟩:=ZeZ m (t:=101::ZaB e) hc (by simp) (ZhP (by decide) (Zty e)) (by simp;omega);have q1:=Z6m m b hc (by simp) (x:=e) (by omega);rw[e1,hv] at*;rw[show e-((n:Int)-1)=e by omega,← q1];cases b with
    | true=>exact p2
    | false=>exact p1
   | cons d r=>
    have e1:∀ b,txL b (c::d::r) e=(if b=true then [45] else [])++([c]++46::((d::r)++101::ZaB e)):=fun b=>rfl;obtain⟨p1,p2⟩:=ZeZ m (t:=46::((d::r)++101::ZaB e)) hc (by simp) (ZhP (by decide) (Ztz (Zjl hr) (ZhP (by decide) (Zty e)))) (by simp at hl ⊢;omega);have q1:=Z1p m b hc hr (by simp) (x:=e) (by omega);have e2:nmB 10 ([c]++(d::r))=q:=hv;rw[e2] at q1;rw[e1,show e-((n:Int)-1)=e-((d::r).length:Nat) by rw[← hl];omega,← q1];cases b with
    | true=>exact p2
    | false=>exact p1
 exact key mn
def hiX (mn:Bool) (n q:Nat) (f:Int):List UInt8:=if q+1=10^n then txL mn (Zba n (10^(n-1))) (f+1) else txL mn (Zba n (q+1)) f
theorem Zwj (m:Int) (mn:Bool) {n q:Nat}(hn:1≤n) (hn2:n≤2000) (h1:10^(n-1)≤q) (h2:q<10^n) {f:Int}(hf:f.natAbs≤1000):rdP m (hiX mn n q f)=rdN m mn (q+1) (f-((n:Int)-1)):=by
 unfold hiX;by_cases h:q+1=10^n
 ·rw[if_pos h,ZhR m mn hn hn2 (Nat.le_refl _) (Nat.pow_lt_pow_right (by omega) (by omega)) (by omega),h];have e:=Zny m mn (10^(n-1)) 1 (f+1-((n:Int)-1));rw[← Nat.pow_add,show n-1+1=n by omega,show f+1-((n:Int)-1)-((1:Nat):Int)=f-((n:Int)-1) by omega] at e;exact e.symm
 ·rw[if_neg h,ZhR m mn hn hn2 (by omega) (by omega) (by omega)]
def qD (S:Nat) (E f:Int) (n:Nat):Nat:=paN S E ((n:Int)-1-f)/pbN E ((n:Int)-1-f)
def Zt1 (S:Nat) (E f:Int) (n:Nat):Nat:=paN S E ((n:Int)-1-f) % pbN E ((n:Int)-1-f)
theorem Zrz {S:Nat}{E f:Int}(h:Zav S E f) {n:Nat}(hn:1≤n):10^(n-1)≤qD S E f n∧qD S E f n<10^n:=by
 obtain⟨a,b⟩:=Zdx h hn;have hp:=zP E ((n:Int)-1-f);unfold qD;exact⟨(Nat.le_div_iff_mul_le hp).2 a,(Nat.div_lt_iff_lt_mul hp).2 b⟩
def loB (mn:Bool) (M:Int) (S:Nat) (E f:Int) (n:Nat):Bool:=decide (deP 0 mn (qD S E f n) (f-((n:Int)-1))=M)
def hiB (mn:Bool) (M:Int) (S:Nat) (E f:Int) (n:Nat):Bool:=decide (deP 0 mn (qD S E f n+1) (f-((n:Int)-1))=M)
def loK (mn:Bool) (M:Int) (S:Nat) (E f:Int) (n:Nat):Bool:=loB mn M S E f n && (!hiB mn M S E f n || decide (2*Zt1 S E f n<pbN E ((n:Int)-1-f)) || (decide (2*Zt1 S E f n=pbN E ((n:Int)-1-f)) && decide (qD S E f n % 2=0)))
def shK (mn:Bool) (M:Int) (S:Nat) (E f:Int):Nat→Nat→List UInt8
 | 0,_=>[]
 | k+1,n=>if loK mn M S E f n=true then txL mn (Zba n (qD S E f n)) f else if hiB mn M S E f n=true then hiX mn n (qD S E f n) f else shK mn M S E f k (n+1)
def shS (p:Int):List UInt8:=shK (decide (9223372036854775808≤p)) (mag p) (sg p).toNat (xp p) (frS (sg p).toNat (xp p)) 17 1
theorem Zwk {mn:Bool}{p:Int}(hf:ex p≠2047) (h0:(sg p).toNat≠0) {f:Int}(h:Zav (sg p).toNat (xp p) f):loB mn (mag p) (sg p).toNat (xp p) f 17=true∨hiB mn (mag p) (sg p).toNat (xp p) f 17=true:=by
 have hb:=(Zrz h (n:=17) (by omega)).1;have e:((17:Nat):Int)-1-f=16-f:=by omega
 have e2:f-(((17:Nat):Int)-1)=f-16:=by omega
 have hq0:qD (sg p).toNat (xp p) f 17≠0:=by
  have:0<10^(17-1):=Nat.pow_pos (by omega);omega
 have hdm:=Nat.div_add_mod (paN (sg p).toNat (xp p) (16-f)) (pbN (xp p) (16-f));have hm:=Nat.mod_lt (paN (sg p).toNat (xp p) (16-f)) (zP (xp p) (16-f));unfold loB hiB;rw[e2];obtain⟨q,hq⟩:∃ q,q=qD (sg p).toNat (xp p) f 17:=⟨_,rfl⟩;have eq:q=paN (sg p).toNat (xp p) (16-f)/pbN (xp p) (16-f):=by rw[hq];unfold qD;rw[e]
 rw[← hq] at hq0 ⊢;rw[← eq,Nat.mul_comm] at hdm;by_cases hh:2*(paN (sg p).toNat (xp p) (16-f) % pbN (xp p) (16-f))≤pbN (xp p) (16-f)
 ·exact .inl (Xa (Zn8 hf h0 h hq0 (by omega) (by omega)))
 ·refine .inr (Xa (Zn8 hf h0 h (by omega) ?_ ?_))
  ·rw[Nat.add_mul];omega
  ·rw[Nat.add_mul];omega
theorem ZnA (n:Bool) (A:Nat) (j:Int):deP 0 (!n) A j=deP 0 n A j:=(Z0Z 0 n A j).1
theorem Zjm (n k:Bool) (A:Nat) (j:Int):deP 0 n A j=deP 0 k A j:=by
 cases n<;>cases k
 ·rfl
 ·exact (ZnA false A j).symm
 ·exact ZnA false A j
 ·rfl
theorem ZfL (n k:Bool) (M:Int) (S:Nat) (E f:Int) (i:Nat):loB n M S E f i=loB k M S E f i:=by unfold loB;rw[Zjm n k]
theorem ZfM (n k:Bool) (M:Int) (S:Nat) (E f:Int) (i:Nat):hiB n M S E f i=hiB k M S E f i:=by unfold hiB;rw[Zjm n k]
theorem Zr0 (n k:Bool) (M:Int) (S:Nat) (E f:Int) (i:Nat):loK n M S E f i=loK k M S E f i:=by unfold loK;rw[ZfL n k,ZfM n k]
def shN (M:Int) (S:Nat) (E f:Int):Nat→Nat→Nat
 | 0,n=>n
 | k+1,n=>if loB false M S E f n=true∨hiB false M S E f n=true then n else shN M S E f k (n+1)
theorem ZnB {n:Bool}{M:Int}{S:Nat}{E f:Int}{i:Nat}(h:loK n M S E f i=true):loB n M S E f i=true:=by
 unfold loK at h;rw[Xh] at h;exact h.1
theorem ZnC {n:Bool}{M:Int}{S:Nat}{E f:Int}{i:Nat}(h:loB n M S E f i=true) (h2:hiB n M S E f i=false):loK n M S E f i=true:=by
 unfold loK;rw[h,h2];rfl
def shO (mn:Bool) (M:Int) (S:Nat) (E f:Int) (n:Nat):List UInt8:=if loK mn M S E f n=true then txL mn (Zba n (qD S E f n)) f else hiX mn n (qD S E f n) f
theorem Zt2 {mn:Bool}{M:Int}{S:Nat}{E f:Int}:∀ (k n:Nat),(∃ i,n≤i∧i<n+k∧(loB false M S E f i=true∨hiB false M S E f i=true))→shK mn M S E f k n=shO mn M S E f (shN M S E f k n)∧(n≤shN M S E f k n∧shN M S E f k n<n+k)∧(loB false M S E f (shN M S E f k n)=true∨hiB false M S E f (shN M S E f k n)=true)∧∀ i,n≤i→i<shN M S E f k n→loB false M S E f i=false∧hiB false M S E f i=false
 | 0,n,h=>by obtain⟨i,h1,h2,_⟩:=h;omega
 | k+1,n,h=>by
  unfold shN shK;by_cases hn:loB false M S E f n=true∨hiB false M S E f n=true
  ·rw[if_pos hn];refine⟨?_,⟨Nat.le_refl _,by omega⟩,hn,fun i h1 h2=>by omega⟩;unfold shO;split
   ·rfl
   ·rename_i hk;have hh:hiB mn M S E f n=true:=by
     cases hh:hiB mn M S E f n with
     | true=>rfl
     | false=>
      rcases hn with h1 | h1
      ·rw[ZfL false mn] at h1;exact absurd (ZnC h1 hh) hk
      ·rw[ZfM false mn,hh] at h1;cases h1
    rw[if_pos hh]
  ·rw[if_neg hn];have h3:loB false M S E f n=false∧hiB false M S E f n=false:=by
    constructor
    ·cases hx:loB false M S E f n with
     | false=>rfl
     | true=>exact absurd (.inl hx) hn
    ·cases hx:hiB false M S E f n with
     | false=>rfl
     | true=>exact absurd (.inr hx) hn
   have hk:¬ loK mn M S E f n=true:=fun hk=>by
    have:=ZnB hk;rw[ZfL mn false,h3.1] at this;cases this
   rw[if_neg hk,if_neg (by rw[ZfM mn false,h3.2];decide)];obtain⟨i,h1,h2,hi⟩:=h;have hni:i≠n:=fun e=>hn (by rw[← e];exact hi);obtain⟨a,b,c,d⟩:=Zt2 (mn:=mn) k (n+1) ⟨i,by omega,by omega,hi⟩;refine⟨a,by omega,c,fun j j1 j2=> ?_⟩;by_cases hj:j=n
   ·rw[hj];exact h3
   ·exact d j (by omega) j2
structure Fin14 (p:Int):Prop where
 fin:ex p≠2047
 ne:(sg p).toNat≠0
 e0: -1074≤xp p
 e1:xp p≤972
 s1:(sg p).toNat<9007199254740992
def frP (p:Int):Int:=frS (sg p).toNat (xp p)
def nP (p:Int):Nat:=shN (mag p) (sg p).toNat (xp p) (frP p) 17 1
theorem ZgM {p:Int}(h:Fin14 p):Zav (sg p).toNat (xp p) (frP p)∧ -324≤frP p∧frP p≤400:=Z1o h.ne h.e0 h.e1 h.s1
theorem ZbW {p:Int}(h:Fin14 p):shS p=shO (decide (9223372036854775808≤p)) (mag p) (sg p).toNat (xp p) (frP p) (nP p)∧(1≤nP p∧nP p≤17)∧(loB false (mag p) (sg p).toNat (xp p) (frP p) (nP p)=true∨hiB false (mag p) (sg p).toNat (xp p) (frP p) (nP p)=true)∧∀ i,1≤i→i<nP p→loB false (mag p) (sg p).toNat (xp p) (frP p) i=false∧hiB false (mag p) (sg p).toNat (xp p) (frP p) i=false:=by
 have:=Zt2 (mn:=decide (9223372036854775808≤p)) (M:=mag p) (S:=(sg p).toNat) (E:=xp p) (f:=frP p) 17 1 ⟨17,by omega,by omega,Zwk (mn:=false) h.fin h.ne (ZgM h).1⟩;obtain⟨a,b,c,d⟩:=this;exact⟨a,⟨b.1,by have:=b.2;unfold nP;omega⟩,c,d⟩
theorem ZhS (n:Bool) {S k T:Nat}{x E:Int}(hx: -1074≤x) (hS:S<9007199254740992) (h:x= -1074∨4503599627370496≤S) (hb:(x+1074)*4503599627370496+(S:Int)<9218868437227405312) (hE:E=x-(k:Nat)) (hk:1≤k) (h1:S*2^k≤T) (h2:T<(S+1)*2^k) (hT:T≠0):
  rnP 0 n T E=(x+1074)*4503599627370496+(S:Int)+(if S*2^k+2^(k-1)<T∨(T=S*2^k+2^(k-1)∧S % 2=1) then 1 else 0):=by
 have hp:0<2^k:=Nat.pow_pos (by omega);have hpe:2^k=2*2^(k-1):=by rw[Nat.mul_comm,← Nat.pow_succ];congr 1;omega
 have e53:(2:Nat)^53=9007199254740992:=rfl;have e52:(2:Nat)^52=4503599627370496:=rfl;have lb:bitLen T≤53+k:=by
  refine len_le ?_;refine Nat.lt_of_lt_of_le h2 ?_;rw[Nat.pow_add];exact Nat.mul_le_mul_right _ (by omega)
 have he:zA T E=x:=by
  unfold zA lgN;rcases h with h | h
  ·rw[if_pos (by omega)];omega
  ·have:52+k+1≤bitLen T:=by
    refine Zeq ?_;rw[Nat.pow_add];exact Nat.le_trans (Nat.mul_le_mul_right _ (by omega)) h1
   split<;>omega
 have hdiv:T/2^k=S:=Nat.div_eq_of_lt_le h1 h2;have hmod:T % 2^k=T-S*2^k:=by
  have:=Nat.div_add_mod T (2^k);rw[hdiv,Nat.mul_comm] at this;omega
 obtain⟨P,hP⟩:∃ P,P=2^(k-1):=⟨_,rfl⟩;obtain⟨Q,hQ⟩:∃ Q,Q=S*2^k:=⟨_,rfl⟩;have hs:(S+1)*2^k=Q+2*P:=by rw[Nat.add_mul,Nat.one_mul,hpe,← hP,hQ,hpe,hP]
 rw[← hQ,← hP];rw[hs] at h2;rw[← hQ] at h1 hmod;have hq:toQ 0 n T E x=S+(if Q+P<T∨(T=Q+P∧S % 2=1) then 1 else 0):=by
  unfold toQ;rw[if_neg (by omega),show (x-E).toNat=k by omega];unfold rq;rw[hdiv,hmod,hpe,← hP];congr 1;have hu:upR 0 n (odd S) (zX (T-Q) (2*P))=decide (Q+P<T∨(T=Q+P∧S % 2=1)):=by
   unfold zX odd upR;by_cases a0:T-Q=0
   ·rw[if_pos a0,if_pos rfl];exact (Xb (by omega)).symm
   ·rw[if_neg a0];by_cases a1:2*(T-Q)<2*P
    ·rw[if_pos a1];have:¬ (Q+P<T∨(T=Q+P∧S % 2=1)):=by omega
     rw[Xb this];simp
    ·rw[if_neg a1];by_cases a2:2*(T-Q)=2*P
     ·rw[if_pos a2];have e:(Q+P<T∨(T=Q+P∧S % 2=1))=(S % 2=1):=by
       apply propext;omega
      simp only[e];simp
     ·rw[if_neg a2];have:Q+P<T∨(T=Q+P∧S % 2=1):=by omega
      rw[Xa this];simp
  rw[hu];by_cases c:Q+P<T∨(T=Q+P∧S % 2=1)
  ·rw[Xa c,if_pos rfl,if_pos c]
  ·rw[Xb c,if_neg (by decide),if_neg c]
 have hbey:bey 0 n=9218868437227405312:=by unfold bey upR;simp
 unfold rnP p0;rw[if_neg hT,he,hq];split
 ·rw[hbey];omega
 ·omega
theorem ZgN {A B u c:Nat}(hB:0<B):dvK A B u≤2*c↔A*2^u≤c*B:=by
 constructor
 ·intro h;have h3:=Nat.div_add_mod (A*2^u) B;unfold dvK at h;by_cases hr:A*2^u % B=0
  ·rw[if_pos hr] at h;have:B*(A*2^u/B)≤B*c:=Nat.mul_le_mul_left _ (by omega);rw[Nat.mul_comm c];omega
  ·rw[if_neg hr] at h;have h1:A*2^u/B+1≤c:=by omega
   have:B*(A*2^u/B+1)≤B*c:=Nat.mul_le_mul_left _ h1;have hm:=Nat.mod_lt (A*2^u) hB;rw[Nat.mul_add,Nat.mul_one] at this;rw[Nat.mul_comm c];omega
 ·exact Z1m
theorem ZgO {A B u c:Nat}(hB:0<B):2*c≤dvK A B u↔c*B≤A*2^u:=by
 constructor
 ·intro h;have h1:c≤A*2^u/B:=by
   unfold dvK at h;split at h<;>omega
  exact (Nat.le_div_iff_mul_le hB).1 h1
 ·exact Z1l hB
theorem Zwl {p:Int}(hf:ex p≠2047):mag p=(xp p+1074)*4503599627370496+(sg p).toNat∧(xp p= -1074∨4503599627370496≤(sg p).toNat)∧mag p<9218868437227405312:=by
 have h1:=ZhE p;have h2:=Zf9 p;have h4:mag p=4503599627370496*ex p+fr p:=by unfold mag ex fr;omega
 by_cases he:ex p=0
 ·have e1:sg p=fr p:=by unfold sg;rw[if_pos he]
  have e2:xp p= -1074:=by unfold xp;rw[if_pos he]
  rw[e1,e2];exact⟨by omega,.inl rfl,by omega⟩
 ·have e1:sg p=fr p+4503599627370496:=by unfold sg;rw[if_neg he,if_neg hf]
  have e2:xp p=ex p-1075:=by unfold xp;rw[if_neg he,if_neg hf]
  rw[e1,e2];exact⟨by omega,.inr (by omega),by omega⟩
def mdL (S:Nat) (x:Int):Nat:=if S=4503599627370496∧ -1074<x then 4*S-1 else 4*S-2
def mdH (S:Nat):Nat:=4*S+2
theorem Zwm (n:Bool) {p:Int}(h:Fin14 p) {T k:Nat}(hk:3≤k):rnP 0 n T (xp p-(k:Nat))=mag p↔(if (sg p).toNat % 2=0 then mdL (sg p).toNat (xp p)*2^(k-2)≤T∧T≤mdH (sg p).toNat*2^(k-2) else mdL (sg p).toNat (xp p)*2^(k-2)<T∧T<mdH (sg p).toNat*2^(k-2)):=by
 obtain⟨m1,m2,m3⟩:=Zwl h.fin;obtain⟨S,hS⟩:∃ S,S=(sg p).toNat:=⟨_,rfl⟩;obtain⟨x,hx⟩:∃ x,x=xp p:=⟨_,rfl⟩;have f1:=h.ne;have f2:=h.e0;have f3:=h.s1;rw[← hS,← hx] at m1;rw[← hS] at f1 f3 m2;rw[← hx] at f2 m2;rw[← hS,← hx];obtain⟨Q,hQ⟩:∃ Q,Q=2^(k-2):=⟨_,rfl⟩;obtain⟨R,hR⟩:∃ R,R=2^(k-3):=⟨_,rfl⟩;have hQR:Q=2*R:=by rw[hQ,hR,Nat.mul_comm,← Nat.pow_succ];congr 1;omega
 have hR0:0<R:=by rw[hR];exact Nat.pow_pos (by omega)
 have hk0:2^k=4*Q:=by rw[hQ,show (4:Nat)=2^2 from rfl,← Nat.pow_add];congr 1;omega
 have hk1:2^(k-1)=2*Q:=by rw[hQ,Nat.mul_comm,← Nat.pow_succ];congr 1;omega
 rw[← hQ];have up:∀ T:Nat,S*(4*Q)≤T→T<(S+1)*(4*Q)→T≠0→rnP 0 n T (x-(k:Nat))=mag p+(if S*(4*Q)+2*Q<T∨(T=S*(4*Q)+2*Q∧S % 2=1) then 1 else 0):=fun T t1 t2 t3=>by
  have:=ZhS n (S:=S) (k:=k) (T:=T) (x:=x) (E:=x-(k:Nat)) f2 f3 m2 (by omega) rfl (by omega) (by rw[hk0];exact t1) (by rw[hk0];exact t2) t3;rw[hk0,hk1,← m1] at this;exact this
 have eSQ:S*(4*Q)=4*(S*Q):=by rw[← Nat.mul_assoc,Nat.mul_comm S 4,Nat.mul_assoc]
 have eS1:(S+1)*(4*Q)=4*(S*Q)+4*Q:=by rw[Nat.add_mul,eSQ,Nat.one_mul]
 have eH:mdH S*Q=4*(S*Q)+2*Q:=by unfold mdH;rw[Nat.add_mul,Nat.mul_assoc]
 have hSQ:Q≤S*Q:=Nat.le_mul_of_pos_left _ (by omega);obtain⟨W,hW⟩:∃ W,W=S*Q:=⟨_,rfl⟩;rw[eSQ,eS1] at up;rw[eH];rw[← hW] at up hSQ ⊢;have upA:∀ T,4*W+2*Q<T→mag p+1≤rnP 0 n T (x-(k:Nat)):=fun T ht=>by
  have a:=up (4*W+2*Q+1) (by omega) (by omega) (by omega);rw[if_pos (.inl (by omega))] at a;rw[← a];exact Zaz (by omega)
 have upM:=up (4*W+2*Q) (by omega) (by omega) (by omega);have upB:∀ T,T<4*W+2*Q→rnP 0 n T (x-(k:Nat))≤mag p:=fun T ht=>by
  have a:=up (4*W+2*Q-1) (by omega) (by omega) (by omega);rw[if_neg (by omega),Int.add_zero] at a;rw[← a];exact Zaz (by omega)
 have dn:∃ D,D=mdL S x*Q∧D<4*W∧(∀ T,D<T→mag p≤rnP 0 n T (x-(k:Nat)))∧rnP 0 n D (x-(k:Nat))=mag p-(if S % 2=1 then 1 else 0)∧(∀ T,T<D→rnP 0 n T (x-(k:Nat))≤mag p-1):=by
  by_cases ht:S=4503599627370496∧ -1074<x
  ·have eL:mdL S x*Q=4*W-Q:=by
    unfold mdL;rw[if_pos ht,Nat.sub_mul,Nat.one_mul,Nat.mul_assoc,← hW]
   have cell:∀ T:Nat,4*W-2*Q≤T→T<4*W→T≠0→rnP 0 n T (x-(k:Nat))=mag p-1+(if 4*W-Q<T∨(T=4*W-Q∧9007199254740991 % 2=1) then 1 else 0):=fun T t1 t2 t3=>by
    have hk2:2^(k-1-1)=Q:=by rw[hQ];congr 1
    have e1:9007199254740991*(2*Q)=4*W-2*Q:=by rw[hW,ht.1];omega
    have e2:(9007199254740991+1)*(2*Q)=4*W:=by rw[hW,ht.1];omega
    have:=ZhS n (S:=9007199254740991) (k:=k-1) (T:=T) (x:=x-1) (E:=x-(k:Nat)) (by omega) (by omega) (.inr (by omega)) (by omega) (by omega) (by omega) (by rw[hk1,e1];exact t1) (by rw[hk1,e2];exact t2) t3;rw[hk1,hk2,e1] at this;rw[this,m1,ht.1];have e3:4*W-2*Q+Q=4*W-Q:=by omega
    rw[e3];omega
   refine⟨4*W-Q,eL.symm,by omega,fun T t=> ?_,?_,fun T t=> ?_⟩
   ·have a:=cell (4*W-Q+1) (by omega) (by omega) (by omega);rw[if_pos (.inl (by omega))] at a;have b:=Zaz (m:=0) (neg:=n) (E:=x-(k:Nat)) (show 4*W-Q+1≤T by omega);omega
   ·have a:=cell (4*W-Q) (by omega) (by omega) (by omega);rw[if_pos (.inr ⟨rfl,rfl⟩)] at a;rw[a,if_neg (by omega)];omega
   ·have a:=cell (4*W-Q-1) (by omega) (by omega) (by omega);rw[if_neg (by omega)] at a;have b:=Zaz (m:=0) (neg:=n) (E:=x-(k:Nat)) (show T≤4*W-Q-1 by omega);omega
  ·have eL:mdL S x*Q=4*W-2*Q:=by
    unfold mdL;rw[if_neg ht,Nat.sub_mul,Nat.mul_assoc,← hW]
   have cell:∀ T:Nat,4*W-4*Q≤T→T<4*W→T≠0→rnP 0 n T (x-(k:Nat))=mag p-1+(if 4*W-2*Q<T∨(T=4*W-2*Q∧(S-1) % 2=1) then 1 else 0):=fun T t1 t2 t3=>by
    have e1:(S-1)*(4*Q)=4*W-4*Q:=by rw[Nat.sub_mul,eSQ,Nat.one_mul,← hW]
    have e2:(S-1+1)*(4*Q)=4*W:=by rw[show S-1+1=S by omega,eSQ,← hW]
    have:=ZhS n (S:=S-1) (k:=k) (T:=T) (x:=x) (E:=x-(k:Nat)) f2 (by omega) (by omega) (by omega) rfl (by omega) (by rw[hk0,e1];exact t1) (by rw[hk0,e2];exact t2) t3;rw[hk0,hk1,e1,show 4*W-4*Q+2*Q=4*W-2*Q by omega] at this;rw[this,m1];omega
   refine⟨4*W-2*Q,eL.symm,by omega,fun T t=> ?_,?_,fun T t=> ?_⟩
   ·have a:=cell (4*W-2*Q+1) (by omega) (by omega) (by omega);rw[if_pos (.inl (by omega))] at a;have b:=Zaz (m:=0) (neg:=n) (E:=x-(k:Nat)) (show 4*W-2*Q+1≤T by omega);omega
   ·have a:=cell (4*W-2*Q) (by omega) (by omega) (by omega);rw[a];split<;>split<;>omega
   ·have a:=cell (4*W-2*Q-1) (by omega) (by omega) (by omega);rw[if_neg (by omega)] at a;have b:=Zaz (m:=0) (neg:=n) (E:=x-(k:Nat)) (show T≤4*W-2*Q-1 by omega);omega
 obtain⟨D,hD,hDW,dnA,dnM,dnB⟩:=dn;rw[← hD];by_cases hpar:S % 2=0
 ·rw[if_pos hpar];rw[if_neg (by omega)] at upM dnM;constructor
  ·intro e;constructor
   ·rcases Nat.lt_or_ge T D with t | t
    ·have:=dnB T t;omega
    ·exact t
   ·rcases Nat.lt_or_ge (4*W+2*Q) T with t | t
    ·have:=upA T t;omega
    ·exact t
  ·rintro⟨t1,t2⟩;have a:mag p≤rnP 0 n T (x-(k:Nat)):=by
    rcases Nat.lt_or_ge D T with t | t
    ·exact dnA T t
    ·rw[show T=D by omega,dnM];omega
   have b:rnP 0 n T (x-(k:Nat))≤mag p:=by
    rcases Nat.lt_or_ge T (4*W+2*Q) with t | t
    ·exact upB T t
    ·rw[show T=4*W+2*Q by omega,upM];omega
   omega
 ·rw[if_neg hpar];rw[if_pos (.inr ⟨rfl,by omega⟩)] at upM;rw[if_pos (by omega)] at dnM;constructor
  ·intro e;constructor
   ·rcases Nat.lt_or_ge D T with t | t
    ·exact t
    ·have:=Zaz (m:=0) (neg:=n) (E:=x-(k:Nat)) t;omega
   ·rcases Nat.lt_or_ge T (4*W+2*Q) with t | t
    ·exact t
    ·have:=Zaz (m:=0) (neg:=n) (E:=x-(k:Nat)) t;omega
  ·rintro⟨t1,t2⟩;have a:=dnA T t1;have b:=upB T t2;omega
theorem Zwn (n:Bool) {p:Int}(h:Fin14 p) {A B:Nat}(hA:A≠0) (hB:B≠0):rqP 0 n A B=mag p↔(if (sg p).toNat % 2=0 then mdL (sg p).toNat (xp p)*(2^(xp p-2).toNat*B)≤A*2^(2-xp p).toNat∧A*2^(2-xp p).toNat≤mdH (sg p).toNat*(2^(xp p-2).toNat*B) else mdL (sg p).toNat (xp p)*(2^(xp p-2).toNat*B)<A*2^(2-xp p).toNat∧A*2^(2-xp p).toNat<mdH (sg p).toNat*(2^(xp p-2).toNat*B)):=by
 have f2:=h.e0;have f3:=h.e1;obtain⟨u,hu⟩:∃ u,u=1200+upN A B:=⟨_,rfl⟩;have hbits:54≤bitLen (A*2^u/B):=by
  have h3:=ZbV hA hB;have h4:A*2^upN A B/B≤A*2^u/B:=Nat.div_le_div_right (Nat.mul_le_mul_left _ (Nat.pow_le_pow_right (by omega) (by omega)));have h5:2^79≤A*2^upN A B/B:=by
   rw[Nat.le_div_iff_mul_le (by omega)];exact Zjd hA
  have:=Zeq (Nat.le_trans h5 h4);omega
 rw[← (Zns (m:=0) (n:=n) hA hB hbits).1];obtain⟨k,hk⟩:∃ k:Nat,(k:Int)=xp p+u+1:=⟨(xp p+u+1).toNat,by omega⟩;have hs:=Zwm n h (T:=dvK A B u) (k:=k) (by omega);rw[show xp p-(k:Nat)= -(u:Int)-1 by omega] at hs;rw[hs];obtain⟨x,hx⟩:∃ x,x=xp p:=⟨_,rfl⟩;rw[← hx] at hk f2 f3 ⊢;have hB0:0<B:=by omega
 have e2:2^(k-2)=2*2^(k-3):=by rw[Nat.mul_comm,← Nat.pow_succ];congr 1;omega
 have e3:∀ m,m*2^(k-2)=2*(m*2^(k-3)):=fun m=>by rw[e2,← Nat.mul_assoc,Nat.mul_comm m 2,Nat.mul_assoc]
 have ex:2^(k-3)*2^(2-x).toNat=2^(x-2).toNat*2^u:=by rw[← Nat.pow_add,← Nat.pow_add];congr 1;omega
 have hu0:0<2^u:=Nat.pow_pos (by omega);have hx0:0<2^(2-x).toNat:=Nat.pow_pos (by omega);have key:∀ m,(m*2^(k-3)*B≤A*2^u↔m*(2^(x-2).toNat*B)≤A*2^(2-x).toNat)∧(A*2^u≤m*2^(k-3)*B↔A*2^(2-x).toNat≤m*(2^(x-2).toNat*B)):=fun m=>by
  have l:m*2^(k-3)*B*2^(2-x).toNat=m*(2^(x-2).toNat*B)*2^u:=by
   have:m*2^(k-3)*B*2^(2-x).toNat=m*(2^(k-3)*2^(2-x).toNat)*B:=by ac_rfl
   rw[this,ex]
   ac_rfl
  have r:A*2^u*2^(2-x).toNat=A*2^(2-x).toNat*2^u:=by ac_rfl
  constructor
  ·rw[← Nat.mul_le_mul_right_iff hx0,l,r,Nat.mul_le_mul_right_iff hu0]
  ·rw[← Nat.mul_le_mul_right_iff hx0,l,r,Nat.mul_le_mul_right_iff hu0]
 rw[e3,e3];obtain⟨a1,a2⟩:=key (mdL (sg p).toNat x);obtain⟨b1,b2⟩:=key (mdH (sg p).toNat);have c1:=ZgO (A:=A) (u:=u) (c:=mdL (sg p).toNat x*2^(k-3)) hB0;have c2:=ZgN (A:=A) (u:=u) (c:=mdL (sg p).toNat x*2^(k-3)) hB0;have d1:=ZgO (A:=A) (u:=u) (c:=mdH (sg p).toNat*2^(k-3)) hB0;have d2:=ZgN (A:=A) (u:=u) (c:=mdH (sg p).toNat*2^(k-3)) hB0;split
 ·rw[c1,a1,d2,b2]
 ·rw[← Nat.not_le,← Nat.not_le,← Nat.not_le,← Nat.not_le,c2,a2,d1,b1]
def ovN (E j:Int):Nat:=2^(E-2).toNat*10^(-j).toNat
def ZaS (E j:Int):Nat:=2^(2-E).toNat*10^j.toNat
def Zhm (p j:Int) (N:Nat):Bool:=if (sg p).toNat % 2=0 then decide (mdL (sg p).toNat (xp p)*ovN (xp p) j≤N*ZaS (xp p) j) && decide (N*ZaS (xp p) j≤mdH (sg p).toNat*ovN (xp p) j) else decide (mdL (sg p).toNat (xp p)*ovN (xp p) j<N*ZaS (xp p) j) && decide (N*ZaS (xp p) j<mdH (sg p).toNat*ovN (xp p) j)
theorem ZnD (n:Bool) {p:Int}(h:Fin14 p) {N:Nat}(hN:N≠0) (j:Int):decide (deP 0 n N j=mag p)=Zhm p j N:=by
 have q:=Zwn n h (A:=N*10^j.toNat) (B:=10^(-j).toNat) (Zcd hN (ZaO _)) (ZaO _);have e:N*10^j.toNat*2^(2-xp p).toNat=N*ZaS (xp p) j:=by unfold ZaS;ac_rfl
 rw[e] at q;unfold deP Zhm ovN;split at q
 ·rename_i hp;rw[if_pos hp,← Bool.decide_and];exact decide_eq_decide.2 q
 ·rename_i hp;rw[if_neg hp,← Bool.decide_and];exact decide_eq_decide.2 q
def Z9 (E j:Int) (m:Nat):Nat:=m*ovN E j/ZaS E j
def Za7 (E j:Int) (m:Nat):Bool:=decide (m*ovN E j % ZaS E j≠0)
def ZP (p j:Int):Nat:=Z9 (xp p) j (4*(sg p).toNat)
def Zao (p j:Int):Bool:=Za7 (xp p) j (4*(sg p).toNat)
def Zb3 (p j:Int):Nat:=Z9 (xp p) j (mdL (sg p).toNat (xp p))+(if Za7 (xp p) j (mdL (sg p).toNat (xp p))=true∨(sg p).toNat % 2=1 then 1 else 0)
def Zb4 (p j:Int):Nat:=Z9 (xp p) j (mdH (sg p).toNat)-(if Za7 (xp p) j (mdH (sg p).toNat)=false∧(sg p).toNat % 2=1 then 1 else 0)
theorem ZfN (E j:Int):0<ZaS E j:=Nat.mul_pos (Nat.pow_pos (by omega)) (Nat.pow_pos (by omega))
theorem Zwo (E j:Int):0<ovN E j:=Nat.mul_pos (Nat.pow_pos (by omega)) (Nat.pow_pos (by omega))
theorem Z1q {N M U:Nat}(hU:0<U):M≤N*U↔M/U+(if M % U≠0 then 1 else 0)≤N:=by
 have h:=Nat.div_add_mod M U;have hm:=Nat.mod_lt M hU;rw[Nat.mul_comm] at h;constructor
 ·intro hn;rcases Nat.lt_or_ge N (M/U+(if M % U≠0 then 1 else 0)) with c | c
  ·split at c
   ·have:=Nat.mul_le_mul_right U (show N≤M/U by omega);omega
   ·have:=Nat.mul_le_mul_right U (show N+1≤M/U by omega);rw[Nat.add_mul] at this;omega
  ·exact c
 ·intro hn;split at hn
  ·have:=Nat.mul_le_mul_right U hn;rw[Nat.add_mul] at this;omega
  ·have:=Nat.mul_le_mul_right U (show M/U≤N by omega);omega
theorem Z1r {N M U:Nat}(hU:0<U):N*U≤M↔N≤M/U:=(Nat.le_div_iff_mul_le hU).symm
theorem Z6n {N M U:Nat}(hU:0<U):M<N*U↔M/U+1≤N:=by rw[← Nat.not_le,Z1r hU];omega
theorem Z6o {N M U:Nat}(hU:0<U) (hM:0<M):N*U<M↔N≤M/U-(if M % U=0 then 1 else 0):=by
 have h:=Z1q (N:=N) (M:=M) hU;rw[← Nat.not_le,h];have h2:M % U=0→1≤M/U:=fun h0=>by
  have:=Nat.div_add_mod M U;rcases Nat.eq_zero_or_pos (M/U) with c | c
  ·rw[c,h0] at this;omega
  ·exact c
 by_cases c:M % U=0
 ·have:=h2 c;rw[if_neg (by omega),if_pos c];omega
 ·rw[if_pos c,if_neg c,Nat.sub_zero,Nat.not_le,Nat.lt_add_one_iff]
theorem Z1s {p:Int}(h:Fin14 p) (j:Int) (N:Nat):Zhm p j N=(decide (Zb3 p j≤N) && decide (N≤Zb4 p j)):=by
 have hU:=ZfN (xp p) j;have hO:=Zwo (xp p) j;have f1:=h.ne;have hM:0<mdH (sg p).toNat*ovN (xp p) j:=Nat.mul_pos (by unfold mdH;omega) hO;obtain⟨a,ha⟩:∃ a,a=mdL (sg p).toNat (xp p)*ovN (xp p) j:=⟨_,rfl⟩;obtain⟨b,hb⟩:∃ b,b=mdH (sg p).toNat*ovN (xp p) j:=⟨_,rfl⟩;obtain⟨u,hu⟩:∃ u,u=ZaS (xp p) j:=⟨_,rfl⟩;unfold Zhm Zb3 Zb4 Z9 Za7;rw[← ha,← hb,← hu];rw[← hb] at hM;rw[← hu] at hU;have g1:=Z1q (N:=N) (M:=a) hU;have g2:=Z1r (N:=N) (M:=b) hU;have g3:=Z6n (N:=N) (M:=a) hU;have g4:=Z6o (N:=N) (M:=b) hU hM;have bo:∀ P Q R S:Prop,[Decidable P]→[Decidable Q]→[Decidable R]→[Decidable S]→(P↔R)→(Q↔S)→(decide P && decide Q)=(decide R && decide S):=by
  intro P Q R S _ _ _ _ h1 h2;rw[decide_eq_decide.2 h1,decide_eq_decide.2 h2]
 split
 ·rename_i hp;refine bo _ _ _ _ ?_ ?_
  ·rw[g1];by_cases c:a % u≠0
   ·rw[if_pos c,if_pos (.inl (Xa c))]
   ·rw[if_neg c,if_neg];rintro (d | d)
    ·exact c (Xc d)
    ·omega
  ·rw[g2,if_neg (fun c=>by omega),Nat.sub_zero]
 ·rename_i hp;refine bo _ _ _ _ ?_ ?_
  ·rw[g3,if_pos (.inr (by omega))]
  ·rw[g4];by_cases c:b % u=0
   ·rw[if_pos c,if_pos ⟨Xb (fun d=>d c),by omega⟩]
   ·rw[if_neg c,if_neg (fun d=>of_decide_eq_false d.1 c)]
def fx:Nat→Nat→List UInt8
 | 0,_=>[]
 | k+1,n=>fx k (n/10)++[chD (n % 10)]
theorem Z1t (k n:Nat):(fx k n).length=k:=by
 induction k generalizing n with
 | zero=>rfl
 | succ k ih=>unfold fx;rw[List.length_append,ih,List.length_singleton]
theorem ZnE {k n:Nat}(h0:1≤k) (h1:10^(k-1)≤n) (h2:n<10^k):fx k n=Zba k n:=by
 induction k generalizing n with
 | zero=>omega
 | succ k ih=>
  unfold fx Zba;by_cases hk:k=0
  ·subst hk;rw[if_pos (by simpa using h2),Nat.mod_eq_of_lt (by simpa using h2)];rfl
  ·have e:10^(k+1-1)=10*10^(k-1):=by rw[Nat.mul_comm,← Nat.pow_succ];congr 1;omega
   have hp:0<10^(k-1):=Nat.pow_pos (by omega);rw[e] at h1;rw[Nat.pow_succ] at h2;rw[if_neg (by omega),ih (by omega) (by omega) (by omega)]
theorem Z1u (a b n:Nat):fx (a+b) n=fx a (n/10^b)++fx b n:=by
 induction b generalizing n with
 | zero=>rw[Nat.pow_zero,Nat.div_one,Nat.add_zero];exact (List.append_nil _).symm
 | succ b ih=>
  rw[← Nat.add_assoc];show fx (a+b) (n/10)++[chD (n % 10)]=fx a (n/10^(b+1))++(fx b (n/10)++[chD (n % 10)]);rw[ih,Nat.div_div_eq_div_mul,Nat.pow_succ,Nat.mul_comm 10,List.append_assoc]
theorem Z1v (k n:Nat):fx k (n % 10^k)=fx k n:=by
 induction k generalizing n with
 | zero=>rfl
 | succ k ih=>
  unfold fx;have e1:n % 10^(k+1)/10=n/10 % 10^k:=by rw[Nat.pow_succ,Nat.mul_comm,Nat.mod_mul_right_div_self]
  have e2:n % 10^(k+1) % 10=n % 10:=by rw[Nat.pow_succ];exact Nat.mod_mul_left_mod _ _ _
  rw[e1,e2,ih]
theorem Zwp (k:Nat):fx k 0=List.replicate k 48:=by
 induction k with
 | zero=>rfl
 | succ k ih=>
  unfold fx;rw[Nat.zero_div,ih,List.replicate_succ'];rfl
theorem Z1w (a b n:Nat):fx (a+b) (n*10^b)=fx a n++List.replicate b 48:=by
 rw[Z1u,Nat.mul_div_cancel _ (Nat.pow_pos (by omega)),← Z1v b,Nat.mul_mod_left,Zwp]
theorem Z1x {d:Nat}(h:d<10):(lq8 (chD d)=48)=(d=0):=by
 rw[Znv h];apply propext;omega
def cmS:List UInt8→List UInt8→Int
 | [],[]=>0
 | [],_::_=> -1
 | _::_,[]=>1
 | a::l,b::r=>if lq8 a<lq8 b then -1 else if lq8 b<lq8 a then 1 else cmS l r
def trC (c:Int) (l:List UInt8):List UInt8:=(l.reverse.dropWhile fun x=>lq8 x==c).reverse
theorem Zjn (c:Int) (l:List UInt8) (x:UInt8):trC c (l++[x])=if lq8 x=c then trC c l else l++[x]:=by
 unfold trC;rw[List.reverse_append,List.reverse_singleton,List.singleton_append,List.dropWhile_cons];by_cases h:lq8 x=c
 ·rw[if_pos h,if_pos (by simpa using h)]
 ·rw[if_neg h,if_neg (by simpa using h)];simp
theorem Zjo {a b c d:Nat}(hb:0<b) (hd:0<d) (h:a*d=c*b):a/b=c/d∧a % b*d=c % d*b:=by
 have e1:a/b=a*d/(b*d):=(Nat.mul_div_mul_right _ _ hd).symm;have e2:c/d=c*b/(d*b):=(Nat.mul_div_mul_right _ _ hb).symm;have e3:a % b*d=a*d % (b*d):=(Nat.mul_mod_mul_right _ _ _).symm;have e4:c % d*b=c*b % (d*b):=(Nat.mul_mod_mul_right _ _ _).symm;rw[e1,e2,e3,e4,h,Nat.mul_comm d b];exact⟨rfl,rfl⟩
def lgB (t:Int):Int:=t*78913/262144
def lgK (k:Nat):Bool:=
 Nat.ble (10^(lgB ((k:Int)-1074)).toNat*2^(-((k:Int)-1074)).toNat) (2^((k:Int)-1074).toNat*10^(-(lgB ((k:Int)-1074))).toNat) &&
 Nat.ble (2^((k:Int)-1073).toNat*10^(-(lgB ((k:Int)-1074)+2)).toNat) (10^(lgB ((k:Int)-1074)+2).toNat*2^(-((k:Int)-1073)).toNat)
theorem Z1y:(List.range 2100).all lgK=true:=by decide+kernel
theorem Z6p {t:Int}(h0: -1074≤t) (h1:t≤1025):10^(lgB t).toNat*2^(-t).toNat≤2^t.toNat*10^(-(lgB t)).toNat∧2^(t+1).toNat*10^(-(lgB t+2)).toNat≤10^(lgB t+2).toNat*2^(-(t+1)).toNat:=by
 have h:=List.all_eq_true.1 Z1y (t+1074).toNat (List.mem_range.2 (by omega));unfold lgK at h;rw[show (((t+1074).toNat:Nat):Int)-1074=t by omega,show (((t+1074).toNat:Nat):Int)-1073=t+1 by omega,Xh] at h;exact⟨Nat.le_of_ble_eq_true h.1,Nat.le_of_ble_eq_true h.2⟩
def lgS (S:Nat) (E:Int):Int:=lgB (E+(bitLen S:Nat)-1)
theorem Zt3 {S:Nat}{E:Int}(h0:S≠0) (hE: -1074≤E) (hE1:E≤972) (hS:S<9007199254740992):(-324≤lgS S E∧lgS S E≤309)∧pbN E (-(lgS S E))≤paN S E (-(lgS S E))∧paN S E (-(lgS S E+2))<pbN E (-(lgS S E+2)):=by
 have hb:bitLen S≤53:=len_le (k:=53) hS;have hb1:=Zau h0;obtain⟨t,ht⟩:∃ t,t=E+((bitLen S:Nat):Int)-1:=⟨_,rfl⟩;unfold lgS;rw[← ht];obtain⟨k1,k2⟩:=Z6p (t:=t) (by omega) (by omega);have bd: -324≤lgB t∧lgB t≤309:=by unfold lgB;omega
 obtain⟨N,hN⟩:∃ N,N=lgB t:=⟨_,rfl⟩;rw[← hN] at k1 k2 bd ⊢;refine⟨bd,?_,?_⟩
 ·unfold pbN paN;rw[show (- -N).toNat=N.toNat by omega];have hl:=(bitLen_spec S).2 h0;have e:2^(-E).toNat*2^t.toNat=2^(bitLen S-1)*2^E.toNat*2^(-t).toNat:=by
   rw[← Nat.pow_add,← Nat.pow_add,← Nat.pow_add];congr 1;omega
  refine Nat.le_of_mul_le_mul_right (c:=2^(-t).toNat) ?_ (Nat.pow_pos (by omega));have a:=Nat.mul_le_mul_left (2^(-E).toNat) k1;have b:=Nat.mul_le_mul_right (2^E.toNat*2^(-t).toNat*10^(-N).toNat) hl;have e1:2^(-E).toNat*(2^t.toNat*10^(-N).toNat)=2^(bitLen S-1)*(2^E.toNat*2^(-t).toNat*10^(-N).toNat):=by
   rw[← Nat.mul_assoc,e]
   ac_rfl
  have e2:2^(-E).toNat*(10^N.toNat*2^(-t).toNat)=2^(-E).toNat*10^N.toNat*2^(-t).toNat:=by ac_rfl
  have e3:S*(2^E.toNat*2^(-t).toNat*10^(-N).toNat)=S*2^E.toNat*10^(-N).toNat*2^(-t).toNat:=by ac_rfl
  rw[e1,e2] at a;rw[e3] at b;exact Nat.le_trans a b
 ·unfold pbN paN;rw[show (- -(N+2)).toNat=(N+2).toNat by omega];have hl:=(bitLen_spec S).1;have e:2^(-E).toNat*2^(t+1).toNat=2^bitLen S*2^E.toNat*2^(-(t+1)).toNat:=by
   rw[← Nat.pow_add,← Nat.pow_add,← Nat.pow_add];congr 1;omega
  refine Nat.lt_of_mul_lt_mul_right (a:=2^(-(t+1)).toNat) ?_;have p1:0<2^E.toNat*2^(-(t+1)).toNat*10^(-(N+2)).toNat:=Nat.mul_pos (Nat.mul_pos (Nat.pow_pos (by omega)) (Nat.pow_pos (by omega))) (Nat.pow_pos (by omega));have a:=Nat.mul_le_mul_left (2^(-E).toNat) k2;have b:=Nat.mul_lt_mul_of_pos_right hl p1;have e1:2^(-E).toNat*(2^(t+1).toNat*10^(-(N+2)).toNat)=2^bitLen S*(2^E.toNat*2^(-(t+1)).toNat*10^(-(N+2)).toNat):=by
   rw[← Nat.mul_assoc,e]
   ac_rfl
  have e2:2^(-E).toNat*(10^(N+2).toNat*2^(-(t+1)).toNat)=2^(-E).toNat*10^(N+2).toNat*2^(-(t+1)).toNat:=by ac_rfl
  have e3:S*(2^E.toNat*2^(-(t+1)).toNat*10^(-(N+2)).toNat)=S*2^E.toNat*10^(-(N+2)).toNat*2^(-(t+1)).toNat:=by ac_rfl
  rw[e1,e2] at a;rw[e3] at b;exact Nat.lt_of_lt_of_le b a
def lsP (p:Int):Int:=lgS (sg p).toNat (xp p)-17
theorem Zjp (S:Nat) (E j:Int):4*S*ovN E j*pbN E (-j)=paN S E (-j)*ZaS E j:=by
 unfold ovN pbN paN ZaS;rw[show (- -j).toNat=j.toNat by omega];have e:2^2*2^(E-2).toNat*2^(-E).toNat=2^E.toNat*2^(2-E).toNat:=by
  rw[← Nat.pow_add,← Nat.pow_add,← Nat.pow_add];congr 1;omega
 have l:4*S*(2^(E-2).toNat*10^(-j).toNat)*(2^(-E).toNat*10^j.toNat)=S*(2^2*2^(E-2).toNat*2^(-E).toNat)*(10^(-j).toNat*10^j.toNat):=by
  rw[show (4:Nat)=2^2 from rfl]
  ac_rfl
 rw[l,e]
 ac_rfl
theorem Zr1 (p j:Int):ZP p j=paN (sg p).toNat (xp p) (-j)/pbN (xp p) (-j)∧Zao p j=decide (paN (sg p).toNat (xp p) (-j) % pbN (xp p) (-j)≠0):=by
 have hb:=zP (xp p) (-j);have hu:=ZfN (xp p) j;obtain⟨a,b⟩:=Zjo hu hb (Zjp (sg p).toNat (xp p) j);refine⟨a,?_⟩;unfold Zao Za7;refine decide_eq_decide.2 (not_congr ?_);constructor
 ·intro h;rw[h,Nat.zero_mul] at b;exact (Nat.mul_eq_zero.1 b.symm).resolve_right (by omega)
 ·intro h;rw[h,Nat.zero_mul] at b;exact (Nat.mul_eq_zero.1 b).resolve_right (by omega)
theorem Zwq {p:Int}(h:Fin14 p):10^17≤ZP p (lsP p)∧ZP p (lsP p)<10^19∧ -400≤lsP p∧lsP p≤300:=by
 obtain⟨bd,h1,h2⟩:=Zt3 h.ne h.e0 h.e1 h.s1;have hb:=zP (xp p) (-(lsP p));have a:=Zet (a:=1) 17 (by rw[Nat.one_mul];exact h1);have b:=ZfK (a:=1) 19 (by rw[Nat.one_mul];exact h2);have e1: -(lgS (sg p).toNat (xp p))+((17:Nat):Int)= -(lsP p):=by unfold lsP;omega
 have e2: -(lgS (sg p).toNat (xp p)+2)+((19:Nat):Int)= -(lsP p):=by unfold lsP;omega
 rw[e1,Nat.one_mul] at a;rw[e2,Nat.one_mul] at b;rw[(Zr1 p (lsP p)).1];exact⟨(Nat.le_div_iff_mul_le hb).2 a,(Nat.div_lt_iff_lt_mul hb).2 b,by unfold lsP;omega,by unfold lsP;omega⟩
def atL (p:Int):Nat:=if ZP p (lsP p)<10^18 then 18 else 19
theorem Zbw {p:Int}(h:Fin14 p):(18≤atL p∧atL p≤19)∧10^(atL p-1)≤ZP p (lsP p)∧ZP p (lsP p)<10^atL p:=by
 obtain⟨a,b,_⟩:=Zwq h;unfold atL;split
 ·rename_i c;exact⟨by omega,a,c⟩
 ·rename_i c;exact⟨by omega,Nat.le_of_not_lt c,b⟩
theorem ZdG {p:Int}(h:Fin14 p):frP p=lsP p+(atL p:Nat)-1:=by
 obtain⟨⟨l1,l2⟩,a,b⟩:=Zbw h;have hb:=zP (xp p) (-(lsP p));rw[(Zr1 p (lsP p)).1] at a b;have a:=(Nat.le_div_iff_mul_le hb).1 a;have b:=(Nat.div_lt_iff_lt_mul hb).1 b;refine Zn7 (ZgM h).1 ⟨?_,?_⟩
 ·rcases Nat.lt_or_ge (paN (sg p).toNat (xp p) (-(lsP p+(atL p:Nat)-1))) (pbN (xp p) (-(lsP p+(atL p:Nat)-1))) with c | c
  ·have d:=ZfK (a:=1) (atL p-1) (by rw[Nat.one_mul];exact c);rw[Nat.one_mul,show -(lsP p+(atL p:Nat)-1)+((atL p-1:Nat):Int)= -(lsP p) by omega] at d;omega
  ·exact c
 ·rcases Nat.lt_or_ge (paN (sg p).toNat (xp p) (-(lsP p+(atL p:Nat)-1+1))) (pbN (xp p) (-(lsP p+(atL p:Nat)-1+1))) with c | c
  ·exact c
  ·have d:=Zet (a:=1) (atL p) (by rw[Nat.one_mul];exact c);rw[Nat.one_mul,show -(lsP p+(atL p:Nat)-1+1)+(atL p:Int)= -(lsP p) by omega] at d;omega
def nrU (a:Nat) (m:Bool) (u:Nat):Bool:=decide (u/2<a % u) || (decide (a % u=u/2) && (m || decide (a/u % 2=1)))
section
variable {p : Int} {n : Nat}
theorem Z1z (h:Fin14 p) (h2:n≤18):qD (sg p).toNat (xp p) (frP p) n=ZP p (lsP p)/10^(atL p-n)∧Zt1 (sg p).toNat (xp p) (frP p) n*(pbN (xp p) (-(lsP p))*10^(atL p-n))=paN (sg p).toNat (xp p) (-(lsP p)) % (pbN (xp p) (-(lsP p))*10^(atL p-n))*pbN (xp p) ((n:Int)-1-frP p):=by
 have hf:=ZdG h;obtain⟨⟨l1,l2⟩,_⟩:=Zbw h;have hb:=zP (xp p) (-(lsP p));have hb2:=zP (xp p) ((n:Int)-1-frP p);have hs:=Zdk (sg p).toNat (xp p) ((n:Int)-1-frP p) (atL p-n);rw[show (n:Int)-1-frP p+((atL p-n:Nat):Int)= -(lsP p) by omega] at hs;have:=Zjo (a:=paN (sg p).toNat (xp p) ((n:Int)-1-frP p)) (b:=pbN (xp p) ((n:Int)-1-frP p)) (c:=paN (sg p).toNat (xp p) (-(lsP p))) (d:=pbN (xp p) (-(lsP p))*10^(atL p-n)) hb2 (Nat.mul_pos hb (Nat.pow_pos (by omega))) (by rw[hs];ac_rfl);unfold qD Zt1;rw[(Zr1 p (lsP p)).1,Nat.div_div_eq_div_mul];exact this
theorem Zwr (h:Fin14 p) (h2:n≤17):(decide (2*Zt1 (sg p).toNat (xp p) (frP p) n<pbN (xp p) ((n:Int)-1-frP p)) || (decide (2*Zt1 (sg p).toNat (xp p) (frP p) n=pbN (xp p) ((n:Int)-1-frP p)) && decide (qD (sg p).toNat (xp p) (frP p) n % 2=0)))= !nrU (ZP p (lsP p)) (Zao p (lsP p)) (10^(atL p-n)):=by
 obtain⟨⟨l1,l2⟩,_⟩:=Zbw h;obtain⟨k1,k2⟩:=Z1z h (n:=n) (by omega);obtain⟨a1,a2⟩:=Zr1 p (lsP p);have hb:=zP (xp p) (-(lsP p));have hb2:=zP (xp p) ((n:Int)-1-frP p);have hev:10^(atL p-n)=2*(5*10^(atL p-n-1)):=by
  have:10^(atL p-n)=10^(atL p-n-1)*10:=by rw[← Nat.pow_succ];congr 1;omega
  omega
 unfold nrU;rw[k1,a2,a1];obtain⟨A,hA⟩:∃ A,A=paN (sg p).toNat (xp p) (-(lsP p)):=⟨_,rfl⟩;obtain⟨B,hB⟩:∃ B,B=pbN (xp p) (-(lsP p)):=⟨_,rfl⟩;obtain⟨u,hu⟩:∃ u,u=10^(atL p-n):=⟨_,rfl⟩;obtain⟨r,hr⟩:∃ r,r=Zt1 (sg p).toNat (xp p) (frP p) n:=⟨_,rfl⟩;obtain⟨b,hb0⟩:∃ b,b=pbN (xp p) ((n:Int)-1-frP p):=⟨_,rfl⟩;obtain⟨v,hv⟩:∃ v,v=5*10^(atL p-n-1):=⟨_,rfl⟩;have hu0:0<u:=by rw[hu];exact Nat.pow_pos (by omega)
 rw[← hA,← hB,← hu,← hr,← hb0] at k2;rw[← hA,← hB,← hu,← hr,← hb0];rw[← hB] at hb;rw[← hb0] at hb2;rw[← hu,← hv] at hev;have em:A % (B*u)=A % B+B*(A/B % u):=Nat.mod_mul;obtain⟨s,hs⟩:∃ s,s=A/B % u:=⟨_,rfl⟩;obtain⟨z,hz⟩:∃ z,z=A % B:=⟨_,rfl⟩;have hzl:z<B:=by rw[hz];exact Nat.mod_lt _ hb
 rw[← hs,← hz] at em;rw[em] at k2;rw[← hs,← hz];have hBu:0<B*u:=Nat.mul_pos hb hu0;have c1:2*r<b↔2*(z+B*s)<B*u:=by
  rw[← Nat.mul_lt_mul_right hBu,Nat.mul_assoc,k2,← Nat.mul_assoc,Nat.mul_comm b,Nat.mul_lt_mul_right hb2]
 have c2:2*r=b↔2*(z+B*s)=B*u:=by
  constructor
  ·intro e;refine Nat.eq_of_mul_eq_mul_right hb2 ?_;rw[Nat.mul_assoc,← k2,← Nat.mul_assoc,e,Nat.mul_comm]
  ·intro e;refine Nat.eq_of_mul_eq_mul_right hBu ?_;rw[Nat.mul_assoc,k2,← Nat.mul_assoc,e,Nat.mul_comm]
 have d1:decide (2*r<b)=decide (2*(z+B*s)<B*u):=decide_eq_decide.2 c1;have d2:decide (2*r=b)=decide (2*(z+B*s)=B*u):=decide_eq_decide.2 c2;rw[d1,d2,show u/2=v by omega,hev];have eB:B*(2*v)=2*(B*v):=by ac_rfl
 rw[eB];rcases Nat.lt_trichotomy s v with h1 | h1 | h1
 ·have:=Nat.mul_le_mul_left B (show s+1≤v by omega);rw[Nat.mul_add,Nat.mul_one] at this;rw[Xa (show 2*(z+B*s)<2*(B*v) by omega),Xb (show ¬ v<s by omega),Xb (show ¬ s=v by omega)];rfl
 ·subst h1;rw[Xb (show ¬ s<s by omega),Xa (show s=s from rfl)];by_cases hz0:z=0
  ·rw[Xb (show ¬ 2*(z+B*s)<2*(B*s) by omega),Xa (show 2*(z+B*s)=2*(B*s) by omega),Xb (show ¬ z≠0 from fun c=>c hz0)];rcases Nat.mod_two_eq_zero_or_one (A/B/(2*s)) with c | c
   ·rw[c];rfl
   ·rw[c];rfl
  ·rw[Xb (show ¬ 2*(z+B*s)<2*(B*s) by omega),Xb (show ¬ 2*(z+B*s)=2*(B*s) by omega),Xa (show z≠0 from hz0)];rfl
 ·have:=Nat.mul_le_mul_left B (show v+1≤s by omega);rw[Nat.mul_add,Nat.mul_one] at this;rw[Xb (show ¬ 2*(z+B*s)<2*(B*v) by omega),Xb (show ¬ 2*(z+B*s)=2*(B*v) by omega),Xa (show v<s from h1)];rfl
def ZbM (p:Int) (n:Nat):Nat:=ZP p (lsP p)/10^(atL p-n)*10^(atL p-n)
def Zb5 (p:Int) (n:Nat):Nat:=(ZP p (lsP p)/10^(atL p-n)+1)*10^(atL p-n)
theorem Zt4 (h:Fin14 p) (h1:1≤n) (h2:n≤18):Zhm p (lsP p) (ZbM p n)=loB false (mag p) (sg p).toNat (xp p) (frP p) n:=by
 obtain⟨⟨l1,l2⟩,_⟩:=Zbw h;have hf:=ZdG h;have hq:=(Zrz (ZgM h).1 h1).1;have hp:0<10^(n-1):=Nat.pow_pos (by omega);have k1:=(Z1z h (n:=n) h2).1;have hq0:ZP p (lsP p)/10^(atL p-n)≠0:=by rw[← k1];omega
 have ds:=(ZcD 0 false hq0 (atL p-n) (frP p-((n:Int)-1))).1;rw[show frP p-((n:Int)-1)-((atL p-n:Nat):Int)=lsP p by omega] at ds;unfold loB ZbM;rw[← ZnD false h (Zcd hq0 (ZaO _)),ds,k1]
theorem Zt5 (h:Fin14 p) (h2:n≤18):Zhm p (lsP p) (Zb5 p n)=hiB false (mag p) (sg p).toNat (xp p) (frP p) n:=by
 obtain⟨⟨l1,l2⟩,_⟩:=Zbw h;have hf:=ZdG h;have k1:=(Z1z h (n:=n) h2).1;have hq0:ZP p (lsP p)/10^(atL p-n)+1≠0:=by omega
 have ds:=(ZcD 0 false hq0 (atL p-n) (frP p-((n:Int)-1))).1;rw[show frP p-((n:Int)-1)-((atL p-n:Nat):Int)=lsP p by omega] at ds;unfold hiB Zb5;rw[← ZnD false h (Zcd hq0 (ZaO _)),ds,k1]
theorem Zr2 (h:Fin14 p) (h1:1≤n) (h2:n≤nP p):(Zhm p (lsP p) (ZbM p n)=true∨Zhm p (lsP p) (Zb5 p n)=true)↔n=nP p:=by
 obtain⟨_,b,c,d⟩:=ZbW h;rw[Zt4 h h1 (by omega),Zt5 h (by omega)];constructor
 ·intro e;rcases Nat.lt_or_ge n (nP p) with l | l
  ·obtain⟨x,y⟩:=d n h1 l;rcases e with e | e
   ·rw[x] at e;cases e
   ·rw[y] at e;cases e
  ·omega
 ·intro e;rw[e];exact c
end
def shV (p:Int):Nat:=if loK false (mag p) (sg p).toNat (xp p) (frP p) (nP p)=true then ZbM p (nP p) else Zb5 p (nP p)
theorem Z10 {p:Int}(h:Fin14 p):shV p=if nrU (ZP p (lsP p)) (Zao p (lsP p)) (10^(atL p-nP p))=true then (if Zhm p (lsP p) (Zb5 p (nP p))=true then Zb5 p (nP p) else ZbM p (nP p)) else (if Zhm p (lsP p) (ZbM p (nP p))=true then ZbM p (nP p) else Zb5 p (nP p)):=by
 obtain⟨_,b,c,d⟩:=ZbW h;have hn:=Zwr h (n:=nP p) b.2;unfold shV loK;rw[Bool.or_assoc,hn,Zt4 h b.1 (by omega),Zt5 h (by omega)];clear hn d;generalize ZbM p (nP p)=lo;generalize Zb5 p (nP p)=hi;generalize nrU (ZP p (lsP p)) (Zao p (lsP p)) (10^(atL p-nP p))=nu;cases hl:loB false (mag p) (sg p).toNat (xp p) (frP p) (nP p)<;>cases hh:hiB false (mag p) (sg p).toNat (xp p) (frP p) (nP p)<;>cases nu<;>first | rfl | (rw[hl,hh] at c;rcases c with c | c<;>cases c)
theorem ZnF {n f g:Nat}(h:n<10^f) (hf:1≤f) (hg:f≤g):Zba g n=Zba f n:=by
 induction f generalizing n g with
 | zero=>omega
 | succ f ih=>
  obtain⟨g,rfl⟩:∃ g',g=g'+1:=⟨g-1,by omega⟩;unfold Zba;by_cases h10:n<10
  ·rw[if_pos h10,if_pos h10]
  ·have hf0:f≠0:=fun c=>by subst c;simp at h;omega
   rw[if_neg h10,if_neg h10,ih (n:=n/10) (by rw[Nat.pow_succ] at h;omega) (by omega) (by omega)]
theorem Zws (l:List UInt8) (c:Nat):trR (l++List.replicate c 48)=trR l:=by
 induction c with
 | zero=>rw[List.replicate_zero,List.append_nil]
 | succ c ih=>
  rw[List.replicate_succ',← List.append_assoc,ZfG,if_pos (by decide),ih]
theorem Zr3 {k n:Nat}(hk:1≤k) (h:n % 10≠0):trR (fx k n)=fx k n:=by
 obtain⟨k,rfl⟩:∃ k',k=k'+1:=⟨k-1,by omega⟩;have e:fx (k+1) n=fx k (n/10)++[chD (n % 10)]:=rfl;rw[e,ZfG,if_neg (fun c=>h ((Z1x (by omega)).mp c))]
theorem ZhT {n c v:Nat}(h0:1≤n) (hc:n+c≤20) (h1:10^(n-1)≤v) (h2:v<10^n) (h3:v % 10≠0):trR (dcL (v*10^c))=Zba n v∧(dcL (v*10^c)).length=n+c:=by
 have a1:10^(n+c-1)≤v*10^c:=by
  rw[show n+c-1=n-1+c by omega,Nat.pow_add];exact Nat.mul_le_mul_right _ h1
 have a2:v*10^c<10^(n+c):=by
  rw[Nat.pow_add];exact Nat.mul_lt_mul_of_pos_right h2 (Nat.pow_pos (by omega))
 have e:dcL (v*10^c)=fx n v++List.replicate c 48:=by
  unfold dcL;rw[ZnF a2 (by omega) hc,← ZnE (by omega) a1 a2,Z1w]
 rw[e,Zws,Zr3 h0 h3,ZnE h0 h1 h2];refine⟨rfl,?_⟩;rw[List.length_append,List.length_replicate,← ZnE h0 h1 h2,Z1t]
theorem Zr4 {p:Int}(h:Fin14 p):txL (decide (9223372036854775808≤p)) (trR (dcL (shV p))) (lsP p+((dcL (shV p)).length:Nat)-1)=shS p:=by
 obtain⟨e,b,c,d⟩:=ZbW h;obtain⟨⟨l1,l2⟩,_⟩:=Zbw h;have hf:=ZdG h;obtain⟨q1,q2⟩:=Zrz (ZgM h).1 b.1;have k1:=(Z1z h (n:=nP p) (by omega)).1;obtain⟨mn,hmn⟩:∃ mn,mn=decide (9223372036854775808≤p):=⟨_,rfl⟩;rw[e,← hmn];unfold shO shV;rw[Zr0 mn false];have fewer:1<nP p→qD (sg p).toNat (xp p) (frP p) (nP p-1)=qD (sg p).toNat (xp p) (frP p) (nP p)/10∧loB false (mag p) (sg p).toNat (xp p) (frP p) (nP p-1)=false∧hiB false (mag p) (sg p).toNat (xp p) (frP p) (nP p-1)=false:=fun hn=>by
  obtain⟨x,y⟩:=d (nP p-1) (by omega) (by omega);refine⟨?_,x,y⟩;rw[k1,(Z1z h (n:=nP p-1) (by omega)).1,Nat.div_div_eq_div_mul,← Nat.pow_succ];congr 2;omega
 have hp:0<10^(nP p-1):=Nat.pow_pos (by omega);obtain⟨n,hn⟩:∃ n,n=nP p:=⟨_,rfl⟩;rw[← hn] at b q1 q2 k1 fewer c hp ⊢;obtain⟨q,hq⟩:∃ q,q=qD (sg p).toNat (xp p) (frP p) n:=⟨_,rfl⟩;unfold ZbM Zb5 hiX;rw[← k1,← hq];clear k1 e d;obtain⟨l,hl⟩:∃ l,l=atL p:=⟨_,rfl⟩;obtain⟨j,hj⟩:∃ j,j=lsP p:=⟨_,rfl⟩;obtain⟨f,hf0⟩:∃ f,f=frP p:=⟨_,rfl⟩;rw[← hf0,← hj,← hl] at hf;rw[← hl] at l1 l2;rw[← hf0] at fewer c hq q1 q2;rw[← hf0,← hj,← hl];clear hl hj hf0 hn;split
 ·rename_i hk;have hlo:=ZnB hk;have h10:q % 10≠0:=by
   intro c0;by_cases h1:n=1
   ·rw[h1] at q1 q2 hq;rw[← hq] at q1 q2;simp at q1 q2;omega
   ·obtain⟨f1,f2,_⟩:=fewer (by omega);rw[← hq] at f1;have hq1:q/10≠0:=by
     have:10^(n-1)=10^(n-2)*10:=by rw[← Nat.pow_succ];congr 1;omega
     have:0<10^(n-2):=Nat.pow_pos (by omega);omega
    have ds:=(ZcD 0 false hq1 1 (f-(((n-1:Nat):Int)-1))).1;rw[Nat.pow_one,show q/10*10=q by omega,show f-(((n-1:Nat):Int)-1)-((1:Nat):Int)=f-((n:Int)-1) by omega] at ds;unfold loB at f2 hlo;rw[f1,← ds] at f2;rw[← hq,f2] at hlo;cases hlo
  rw[← hq] at q1 q2;obtain⟨t1,t2⟩:=ZhT (c:=l-n) b.1 (by omega) q1 q2 h10;rw[t1,t2,show j+((n+(l-n):Nat):Int)-1=f by omega]
 ·rename_i hk;have hhi:hiB false (mag p) (sg p).toNat (xp p) (f) n=true:=by
   rcases c with c | c
   ·cases hh:hiB false (mag p) (sg p).toNat (xp p) (f) n with
    | true=>rfl
    | false=>exact absurd (ZnC c hh) hk
   ·exact c
  have h10:1<n→(q+1) % 10≠0:=by
   intro h1 c0;obtain⟨f1,_,f2⟩:=fewer (by omega);rw[← hq] at f1;have ds:=(ZcD 0 false (show q/10+1≠0 by omega) 1 (f-(((n-1:Nat):Int)-1))).1;rw[Nat.pow_one,show (q/10+1)*10=q+1 by omega,show f-(((n-1:Nat):Int)-1)-((1:Nat):Int)=f-((n:Int)-1) by omega] at ds;unfold hiB at f2 hhi;rw[f1,← ds] at f2;rw[← hq,f2] at hhi;cases hhi
  rw[← hq] at q1 q2;by_cases hc:q+1=10^n
  ·rw[if_pos hc];have h1:n=1:=by
    rcases Nat.lt_or_ge 1 n with c0 | c0
    ·refine absurd ?_ (h10 c0);rw[hc,show n=n-1+1 by omega,Nat.pow_succ];omega
    ·omega
   rw[hc,h1,show 10^1*10^(l-1)=1*10^l by rw[← Nat.pow_add,Nat.one_mul];congr 1;omega];obtain⟨t1,t2⟩:=ZhT (n:=1) (c:=l) (v:=1) (by omega) (by omega) (by decide) (by decide) (by decide);rw[t1,t2,show j+((1+l:Nat):Int)-1=f+1 by omega]
  ·rw[if_neg hc];have h10':(q+1) % 10≠0:=by
    by_cases h1:n=1
    ·rw[h1] at q1 q2 hc;simp at q1 q2 hc;omega
    ·exact h10 (by omega)
   obtain⟨t1,t2⟩:=ZhT (c:=l-n) b.1 (by omega) (show 10^(n-1)≤q+1 by omega) (by omega) h10';rw[t1,t2,show j+((n+(l-n):Nat):Int)-1=f by omega]
end Go.Rd
