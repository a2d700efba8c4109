/-
  Shl, RdX, RpA, RpB, NumSh, NumSi, NumSj, NumSk, NumRh, NumSm, NumSn, NumSo, NumSp, NumSr, NumSs
-/
import Derived.Shelf.LaysM
import Derived.Shelf.Strconv.Itoa3
import Derived.Shelf.Small.Strs
import Derived.Shelf.Strings.Repeat
import Derived.Test.YtgefjidphfdhdaaGreatDoorG12
namespace Go.Proofs.YtgefjidphfdhdaaGreatDoor
open Go.Proofs.Tryz
open Go.Shelf
def Zi4:Go.Shelf.Ren:=⟨fun | 106=>125 | 213=>168 | 265=>194 | n=>n,fun | 9=>9 | 3=>3 | n=>n,fun | n=>n⟩
theorem Zye:Go.Proofs.Lays.n106 prog Zi4:={
 mixed:=by kernel_rfl
 f106:=func125.trans (congrArg some (by kernel_rfl))
 f213:=func168.trans (congrArg some (by kernel_rfl))
 f265:=func194.trans (congrArg some (by kernel_rfl))
 t3:=underlying3
 a3:=isAgg3
 z3:=sizeOf3
 v3:=zeroValue3
 t9:=underlying9
 a9:=isAgg9
 z9:=sizeOf9
 v9:=zeroValue9}
def Zhw:Go.Shelf.Ren:=⟨fun | 171=>46 | 243=>89 | 246=>142 | 283=>178 | 284=>179 | 285=>180 | 286=>181 | 129=>161 | 317=>200 | 318=>201 | 319=>202 | 320=>203 | 337=>211 | 338=>212 | n=>n,fun | 3=>3 | 9=>9 | 2=>2 | 4=>4 | 171=>239 | 0=>0 | 53=>22 | 37=>142 | 5=>5 | 173=>241 | 212=>255 | 51=>68 | 20=>20 | 213=>256 | 46=>42 | 232=>268 | 233=>269 | n=>n,fun | 17=>2 | 18=>5 | 19=>6 | n=>n⟩
theorem Zgg:Go.Proofs.LaysM.n171 prog Zhw:={
 mixed:=by kernel_rfl
 f129:=func161.trans (congrArg some (by kernel_rfl))
 f171:=func46.trans (congrArg some (by kernel_rfl))
 f243:=func89.trans (congrArg some (by kernel_rfl))
 f246:=func142.trans (congrArg some (by kernel_rfl))
 f283:=func178.trans (congrArg some (by kernel_rfl))
 f284:=func179.trans (congrArg some (by kernel_rfl))
 f285:=func180.trans (congrArg some (by kernel_rfl))
 f286:=func181.trans (congrArg some (by kernel_rfl))
 f317:=func200.trans (congrArg some (by kernel_rfl))
 f318:=func201.trans (congrArg some (by kernel_rfl))
 f319:=func202.trans (congrArg some (by kernel_rfl))
 f320:=func203.trans (congrArg some (by kernel_rfl))
 f337:=func211.trans (congrArg some (by kernel_rfl))
 f338:=func212.trans (congrArg some (by kernel_rfl))
 t0:=underlying0
 a0:=isAgg0
 z0:=sizeOf0
 v0:=zeroValue0
 t2:=underlying2
 a2:=isAgg2
 z2:=sizeOf2
 v2:=zeroValue2
 t3:=underlying3
 a3:=isAgg3
 z3:=sizeOf3
 v3:=zeroValue3
 t4:=underlying4
 a4:=isAgg4
 z4:=sizeOf4
 v4:=zeroValue4
 t5:=underlying5
 a5:=isAgg5
 z5:=sizeOf5
 v5:=zeroValue5
 t9:=underlying9
 a9:=isAgg9
 z9:=sizeOf9
 v9:=zeroValue9
 t20:=underlying20
 a20:=isAgg20
 z20:=sizeOf20
 v20:=zeroValue20
 t37:=underlying142
 a37:=isAgg142
 z37:=sizeOf142
 v37:=zeroValue142
 t46:=underlying42
 a46:=isAgg42
 z46:=sizeOf42
 v46:=zeroValue42
 t51:=underlying68
 a51:=isAgg68
 z51:=sizeOf68
 v51:=zeroValue68
 t53:=underlying22
 a53:=isAgg22
 z53:=sizeOf22
 v53:=zeroValue22
 t171:=underlying239
 a171:=isAgg239
 z171:=sizeOf239
 v171:=zeroValue239
 t173:=underlying241
 a173:=isAgg241
 z173:=sizeOf241
 v173:=zeroValue241
 t212:=underlying255
 a212:=isAgg255
 z212:=sizeOf255
 v212:=zeroValue255
 t213:=underlying256
 a213:=isAgg256
 z213:=sizeOf256
 t232:=underlying268
 a232:=isAgg268
 z232:=sizeOf268
 v232:=zeroValue268
 t233:=underlying269
 a233:=isAgg269
 z233:=sizeOf269
 v233:=zeroValue269
 g17:=by kernel_rfl
 g18:=by kernel_rfl
 g19:=by kernel_rfl
 i0:=by kernel_rfl
 i2:=by kernel_rfl
 i3:=by kernel_rfl
 i4:=by kernel_rfl
 i5:=by kernel_rfl
 i9:=by kernel_rfl
 i20:=by kernel_rfl
 i37:=by kernel_rfl
 i46:=by kernel_rfl
 i51:=by kernel_rfl
 i53:=by kernel_rfl
 i171:=by kernel_rfl
 i173:=by kernel_rfl
 i212:=by kernel_rfl
 i232:=by kernel_rfl
 i233:=by kernel_rfl
 m17:=by kernel_rfl
 m18:=by kernel_rfl
 m19:=by kernel_rfl}
def Ze9:Go.Shelf.Ren:=⟨fun | 105=>72 | 212=>119 | 99=>120 | 165=>121 | 166=>122 | 170=>123 | 169=>124 | 263=>163 | 264=>164 | 206=>165 | 240=>166 | 241=>167 | 276=>192 | 277=>193 | n=>n,fun | 9=>9 | 3=>3 | 4=>4 | 20=>20 | 0=>0 | 46=>42 | 109=>173 | 5=>5 | 72=>178 | 76=>180 | 51=>68 | 146=>231 | 53=>22 | 148=>104 | 70=>176 | 37=>142 | 75=>27 | 127=>234 | 164=>122 | 80=>183 | n=>n,fun | n=>n⟩
theorem Zyf:Go.Proofs.Lays.n105 prog Ze9:={
 mixed:=by kernel_rfl
 f99:=func120.trans (congrArg some (by kernel_rfl))
 f105:=func72.trans (congrArg some (by kernel_rfl))
 f165:=func121.trans (congrArg some (by kernel_rfl))
 f166:=func122.trans (congrArg some (by kernel_rfl))
 f169:=func124.trans (congrArg some (by kernel_rfl))
 f170:=func123.trans (congrArg some (by kernel_rfl))
 f206:=func165.trans (congrArg some (by kernel_rfl))
 f212:=func119.trans (congrArg some (by kernel_rfl))
 f240:=func166.trans (congrArg some (by kernel_rfl))
 f241:=func167.trans (congrArg some (by kernel_rfl))
 f263:=func163.trans (congrArg some (by kernel_rfl))
 f264:=func164.trans (congrArg some (by kernel_rfl))
 f276:=func192.trans (congrArg some (by kernel_rfl))
 f277:=func193.trans (congrArg some (by kernel_rfl))
 t0:=underlying0
 a0:=isAgg0
 z0:=sizeOf0
 v0:=zeroValue0
 t3:=underlying3
 a3:=isAgg3
 z3:=sizeOf3
 v3:=zeroValue3
 t4:=underlying4
 a4:=isAgg4
 z4:=sizeOf4
 v4:=zeroValue4
 t5:=underlying5
 a5:=isAgg5
 z5:=sizeOf5
 v5:=zeroValue5
 t9:=underlying9
 a9:=isAgg9
 z9:=sizeOf9
 v9:=zeroValue9
 t20:=underlying20
 a20:=isAgg20
 z20:=sizeOf20
 v20:=zeroValue20
 t37:=underlying142
 a37:=isAgg142
 z37:=sizeOf142
 v37:=zeroValue142
 t46:=underlying42
 a46:=isAgg42
 z46:=sizeOf42
 v46:=zeroValue42
 t51:=underlying68
 a51:=isAgg68
 z51:=sizeOf68
 v51:=zeroValue68
 t53:=underlying22
 a53:=isAgg22
 z53:=sizeOf22
 v53:=zeroValue22
 t70:=underlying176
 a70:=isAgg176
 z70:=sizeOf176
 v70:=zeroValue176
 t72:=underlying178
 a72:=isAgg178
 z72:=sizeOf178
 v72:=zeroValue178
 t75:=underlying27
 a75:=isAgg27
 z75:=sizeOf27
 v75:=zeroValue27
 t76:=underlying180
 a76:=isAgg180
 z76:=sizeOf180
 v76:=zeroValue180
 t109:=underlying173
 a109:=isAgg173
 z109:=sizeOf173
 v109:=zeroValue173
 t127:=underlying234
 a127:=isAgg234
 z127:=sizeOf234
 v127:=zeroValue234
 t146:=underlying231
 a146:=isAgg231
 z146:=sizeOf231
 v146:=zeroValue231
 t148:=underlying104
 a148:=isAgg104
 z148:=sizeOf104
 v148:=zeroValue104
 t164:=underlying122
 a164:=isAgg122
 z164:=sizeOf122
 v164:=zeroValue122}
theorem Zdy:Builder.Extra prog Ze9:={
 sizeBuilder:=by kernel_rfl
 liesBuilder:=by kernel_rfl
 t5:=underlying5
 a5:=isAgg5
 z5:=sizeOf5
 v5:=zeroValue5
 infoByte:=by kernel_rfl
 cellsByte:=by kernel_rfl
 sizeByte:=by kernel_rfl
 neB5:=by decide}
end Go.Proofs.YtgefjidphfdhdaaGreatDoor
namespace Go.Proofs.YtgefjidphfdhdaaGreatDoor
open Go.IntKind
open Go.KRun Go.Rd
set_option maxRecDepth 100000
theorem Zcb:Zx []:=fun _ h=>by cases h
def bR (l:List UInt8):Value:= .string ⟨⟨l⟩⟩
def byR (l:List UInt8) (i:Int):Int:=(((l.getD i.toNat 0).toNat:Nat):Int)
def sK (F:Func):Nat→Code
 | 0=>Zs F
 | n+1=>Z0 (sK F n)
def sP (F:Func) (k:Nat):Code:=Z1 (sK F k)
def pO (k:Nat):Value:= .pointer (some ⟨k,0,none⟩)
theorem Zft (l l':List UInt8):((⟨⟨l⟩⟩:ByteArray)==⟨⟨l'⟩⟩)=decide (l=l'):=by
 rw[beq_toListBytes,ByteArray.toList_eq,ByteArray.toList_eq];show (l==l')=decide (l=l');by_cases h:l=l'
 ·rw[Xa h];simpa using h
 ·rw[Xb h];simpa using h
theorem ZQ {x y:Int}(h:x=y):(x==y)=true:=by simpa using h
theorem ZI {x y:Int}(h:x≠y):(x==y)=false:=by simpa using h
theorem Zvb {x y:Int}(h:x≠y):(x !=y)=true:=by simpa using h
theorem Zvc {x y:Int}(h:x=y):(x !=y)=false:=by simpa using h
theorem wN {n:Nat}(h:n<1000000000):i64.wrap (((n:Nat):Int)+1)=((n+1:Nat):Int):=by rw[Zw (by omega) (by omega)];omega
theorem Zvd {x:Int}(h0:0≤x) (h1:x<256):u8.wrap x=x:=by
 simp [IntKind.wrap,IntKind.bits,IntKind.signed];omega
def ZeA (u w:List UInt8) (d:Bool):Bool×Bool:=((⟨⟨u⟩⟩:ByteArray)==⟨⟨w⟩⟩,d)
theorem ZaB {u w:List UInt8}{d:Bool}(h:decide (u=w)=d):(ZeA u w d).1=(ZeA u w d).2:=by
 show ((⟨⟨u⟩⟩:ByteArray)==⟨⟨w⟩⟩)=d;rw[Zft];exact h
end Go.Proofs.YtgefjidphfdhdaaGreatDoor
namespace Go.Proofs.YtgefjidphfdhdaaGreatDoor
open Go.Proofs.Tryz
open Go.IntKind
open Go.KRun Go.Nt Go.Rd
set_option maxRecDepth 100000
def trP (F:Func):Code:=Z1 (Zs F)
def Z3K (F:Func):Code:=cIn (cIn (Z1 (Z0 (Zs F))))
def trE (F:Func):Code:=Z0 (Z0 (Zs F))
theorem Zyg:f85.body=some (ZZ [trP f85] (.seq (.block 0 (.loop (Z3K f85))) (trE f85))):=by kernel_rfl
def trF (l:List UInt8) (c:Int):List Value:=[bR l,.int .u8 c,undef,undef,bR []]
def lm1 (l:List UInt8):Int:=i64.wrap (((l.length:Nat):Int)-1)
theorem Z3L (l:List UInt8) (c:Int):Zg (evL (Zq prog Zf Zn true) 100 [trP f85] ([bR l,.int .u8 c]++List.replicate 21 undef,⟨0,[]⟩,[]) ⟨[],[],[]⟩) 5 18 none (trF l c) ⟨0,[]⟩ []:=by and_intros<;>kernel_rfl
theorem Z9t (l:List UInt8) (c:Int) (g:Nat→Value):Zg (evC (Zq prog Zf Zn true) 100 false (Z3K f85) (trF l c++tl 18 g,⟨0,[]⟩,[cmp true,cmp true,sam true]) ⟨[],[],[]⟩) 5 18 none (trF (l.take (lm1 l).toNat) c) ⟨0,[]⟩ [(decide (0≤lm1 l∧lm1 l≤(l.length:Nat)),true),(byR l (lm1 l)==c,true),(decide (0≤lm1 l∧(lm1 l).toNat<l.length),true),(decide (((l.length:Nat):Int)>0),true)]:=by and_intros<;>kernel_rfl
theorem Z3M (l:List UInt8) (c:Int) (g:Nat→Value):Zg (evC (Zq prog Zf Zn true) 100 false (Z3K f85) (trF l c++tl 18 g,⟨0,[]⟩,[cmp true,cmp false]) ⟨[],[],[]⟩) 5 18 (some (some 0)) (trF l c) ⟨0,[]⟩ [(byR l (lm1 l)==c,false),(decide (0≤lm1 l∧(lm1 l).toNat<l.length),true),(decide (((l.length:Nat):Int)>0),true)]:=by and_intros<;>kernel_rfl
theorem Z3N (l:List UInt8) (c:Int) (g:Nat→Value):Zg (evC (Zq prog Zf Zn true) 100 false (Z3K f85) (trF l c++tl 18 g,⟨0,[]⟩,[cmp false]) ⟨[],[],[]⟩) 5 18 (some (some 0)) (trF l c) ⟨0,[]⟩ [(decide (((l.length:Nat):Int)>0),false)]:=by and_intros<;>kernel_rfl
theorem Z3O (l:List UInt8) (c:Int) (g:Nat→Value):Zg (evC (Zq prog Zf Zn true) 100 false (trE f85) (trF l c++tl 18 g,⟨0,[]⟩,[]) ⟨[],[],[]⟩) 5 18 (some none) [bR l,.int .u8 c,undef,undef,bR l] ⟨0,[]⟩ []:=by and_intros<;>kernel_rfl
end Go.Proofs.YtgefjidphfdhdaaGreatDoor
namespace Go.Rd
open Go.Rn Go.Pt
theorem Z3P {A B u c:Nat}(hB:0<B) (h:c*B≤A*2^u):2*c≤dvK A B u:=by
 have:=(Nat.le_div_iff_mul_le hB).2 h;unfold dvK;omega
theorem Z3Q {A B u c:Nat}(h:A*2^u≤c*B):dvK A B u≤2*c:=by
 have h1:A*2^u/B≤c:=Nat.div_le_of_le_mul (by rw[Nat.mul_comm B c];exact h);unfold dvK;by_cases h2:A*2^u/B=c
 ·have h3:=Nat.div_add_mod (A*2^u) B;have h4:A*2^u % B=0:=by
   rw[h2,Nat.mul_comm] at h3;omega
  rw[if_pos h4,h2];omega
 ·split<;>omega
theorem Zo8 {S r:Nat}(h0:S≠0) (hr:r<32):bitLen (32*S+r)=bitLen S+5:=by
 have h1:=(bitLen_spec S).1;have h2:=(bitLen_spec S).2 h0;have h3:=Zaz h0;refine Za2 (k:=bitLen S+4) ?_ ?_
 ·have e:2^(bitLen S+4)=2^(bitLen S-1)*32:=by rw[show (32:Nat)=2^5 from rfl,← Nat.pow_add];congr 1;omega
  omega
 ·have e:2^(bitLen S+4+1)=2^bitLen S*32:=by rw[show (32:Nat)=2^5 from rfl,← Nat.pow_add]
  omega
theorem Zyh (n:Bool) (S:Nat):rq 0 n (32*S+15) 5=S∧rq 0 n (32*S+17) 5=S+1:=by
 have e:(2:Nat)^5=32:=rfl;unfold rq;rw[e,show (32*S+15)/32=S by omega,show (32*S+15) % 32=15 by omega,show (32*S+17)/32=S by omega,show (32*S+17) % 32=17 by omega];have r1:Zad 15 32=1:=by decide
 have r2:Zad 17 32=3:=by decide
 have u1:∀ o,upR 0 n o 1=false:=fun o=>by cases n<;>cases o<;>decide
 have u2:∀ o,upR 0 n o 3=true:=fun o=>by cases n<;>cases o<;>decide
 rw[r1,r2,u1,u2];exact⟨rfl,rfl⟩
theorem Zo9 (n:Bool) {S:Nat}{x:Int}(hx: -1074≤x) (hS:S<9007199254740992) (h:x= -1074∨4503599627370496≤S) (hb:(x+1074)*4503599627370496+(S:Int)<9218868437227405312) (h0:S≠0):rnP 0 n (32*S+15) (x-5)=(x+1074)*4503599627370496+(S:Int):=by
 have hl:=Zo8 h0 (show 15<32 by omega);have l53:bitLen S≤53:=len_le (k:=53) (show S<2^53 from hS);have he:zH (32*S+15) (x-5)=x:=by
  unfold zH lgN;rw[hl];rcases h with h | h
  ·rw[if_pos (by omega)];omega
  ·have:53≤bitLen S:=Ze6 (k:=52) h;split<;>omega
 have hq:toQ 0 n (32*S+15) (x-5) x=S:=by
  unfold toQ;rw[if_neg (by omega),show (x-(x-5)).toNat=5 by omega];exact (Zyh n S).1
 unfold rnP p0;rw[if_neg (by omega),he,hq,if_neg (by omega)]
theorem ZoA (n:Bool) {S:Nat}{x:Int}(hx: -1074≤x) (hS:S<9007199254740992) (h:x= -1074∨4503599627370496<S) (hb:(x+1074)*4503599627370496+(S:Int)<9218868437227405312) (h0:S≠0):rnP 0 n (32*S-15) (x-5)=(x+1074)*4503599627370496+(S:Int):=by
 have l53:bitLen S≤53:=len_le (k:=53) (show S<2^53 from hS);have e1:32*S-15=32*(S-1)+17:=by omega
 have he:zH (32*S-15) (x-5)=x:=by
  unfold zH lgN;rcases h with h | h
  ·have h58:bitLen (32*S-15)≤bitLen S+5:=by
    refine len_le ?_;have h1:=(bitLen_spec S).1;rw[Nat.pow_add];omega
   rw[if_pos (by omega)];omega
  ·have h1:bitLen (32*S-15)=58:=by
    rw[e1,Zo8 (by omega) (by omega)];have:bitLen (S-1)=53:=Za2 (k:=52) (show 2^52≤S-1 from by have:(2:Nat)^52=4503599627370496:=rfl;omega) (show S-1<2^53 from by have:(2:Nat)^53=9007199254740992:=rfl;omega);omega
   rw[h1];split<;>omega
 have hq:toQ 0 n (32*S-15) (x-5) x=S:=by
  unfold toQ;rw[if_neg (by omega),show (x-(x-5)).toNat=5 by omega,e1,(Zyh n (S-1)).2];omega
 unfold rnP p0;rw[if_neg (by omega),he,hq,if_neg (by omega)]
theorem ZoB (n:Bool) {x:Int}(hx: -1074<x) (hb:(x+1074)*4503599627370496+4503599627370496<9218868437227405312):rnP 0 n (64*4503599627370496-15) (x-6)=(x+1074)*4503599627370496+4503599627370496:=by
 have e1:64*4503599627370496-15=32*9007199254740991+17:=by omega
 have h1:bitLen (64*4503599627370496-15)=58:=by
  rw[e1,Zo8 (by omega) (by omega)];have:bitLen 9007199254740991=53:=Za2 (k:=52) (by decide) (by decide);omega
 have he:zH (64*4503599627370496-15) (x-6)=x-1:=by
  unfold zH lgN;rw[h1];split<;>omega
 have hq:toQ 0 n (64*4503599627370496-15) (x-6) (x-1)=9007199254740992:=by
  unfold toQ;rw[if_neg (by omega),show (x-1-(x-6)).toNat=5 by omega,e1,(Zyh n 9007199254740991).2]
 unfold rnP p0;rw[if_neg (by omega),he,hq,if_neg (by omega)];omega
theorem Zfu {n:Bool}{A B T U:Nat}{e f P:Int}(hA:A≠0) (hB:B≠0) (he: -1200≤e) (hf: -1200≤f) (h1:∀ u:Nat,1200≤u→T*2^(e+u).toNat*B≤A*2^u) (h2:∀ u:Nat,1200≤u→A*2^u≤U*2^(f+u).toNat*B) (hT:rnP 0 n T e=P) (hU:rnP 0 n U f=P):rqP 0 n A B=P:=by
 obtain⟨u,hu⟩:∃ u,u=1200+upN A B:=⟨_,rfl⟩;have hbits:54≤bitLen (A*2^u/B):=by
  have h3:=Zcm hA hB;have h4:A*2^upN A B/B≤A*2^u/B:=Nat.div_le_div_right (Nat.mul_le_mul_left _ (Nat.pow_le_pow_right (by omega) (by omega)));have h5:2^79≤A*2^upN A B/B:=by
   rw[Nat.le_div_iff_mul_le (by omega)];exact ZjN hA
  have:=Ze6 (Nat.le_trans h5 h4);omega
 rw[← (Zoy (m:=0) (n:=n) hA hB hbits).1];have a1:=Z3P (by omega) (h1 u (by omega));have a2:=Z3Q (h2 u (by omega));have m1:=Za3 (m:=0) (neg:=n) (E:= -(u:Int)-1) a1;have m2:=Za3 (m:=0) (neg:=n) (E:= -(u:Int)-1) a2;have s1:=ZbZ 0 n T ((e+u).toNat+1) e;have s2:=ZbZ 0 n U ((f+u).toNat+1) f;rw[show e-(((e+u).toNat+1:Nat):Int)= -(u:Int)-1 by omega,hT,Nat.pow_succ,← Nat.mul_assoc,Nat.mul_comm _ 2] at s1;rw[show f-(((f+u).toNat+1:Nat):Int)= -(u:Int)-1 by omega,hU,Nat.pow_succ,← Nat.mul_assoc,Nat.mul_comm _ 2] at s2;rw[s1] at m1;rw[s2] at m2;omega
theorem Zgh {x:Int}{u:Nat}{d:Nat}(hd:d≤x+u):2^(x-d+u).toNat*2^d*2^(-x).toNat=2^x.toNat*2^u:=by
 rw[← Nat.pow_add,← Nat.pow_add,← Nat.pow_add];congr 1;omega
theorem ZsP {n:Bool}{p:Int}(hf:ex p≠2047) (h0:(sg p).toNat≠0) {A B:Nat}(hA:A≠0) (hB:B≠0)
  (hi:20000000000000000*(A*2^(-(xp p)).toNat)≤20000000000000001*((sg p).toNat*(2^(xp p).toNat*B))) (hl:19999999999999999*((sg p).toNat*(2^(xp p).toNat*B))≤20000000000000000*(A*2^(-(xp p)).toNat)):rqP 0 n A B=mag p:=by
 have xb:=xp_bd p;have sb:=sg_lt p;have hm:mag p=(xp p+1074)*4503599627370496+(sg p).toNat∧(xp p= -1074∨4503599627370496≤(sg p).toNat)∧mag p<9218868437227405312:=by
  have h1:=Zir p;have h2:=ZeR p;have h4:mag p=4503599627370496*ex p+fr p:=by unfold mag ex fr;omega
  by_cases he:ex p=0
  ·have e1:sg p=fr p:=by unfold sg;rw[if_pos he]
   have e2:xp p= -1074:=by unfold xp;rw[if_pos he]
   rw[e1,e2];exact⟨by omega,.inl rfl,by omega⟩
  ·have e1:sg p=fr p+4503599627370496:=by unfold sg;rw[if_neg he,if_neg hf]
   have e2:xp p=ex p-1075:=by unfold xp;rw[if_neg he,if_neg hf]
   rw[e1,e2];exact⟨by omega,.inr (by omega),by omega⟩
 obtain⟨S,hS⟩:∃ S,S=(sg p).toNat:=⟨_,rfl⟩;obtain⟨x,hx⟩:∃ x,x=xp p:=⟨_,rfl⟩;rw[← hS,← hx] at hm;rw[← hS,← hx] at hi hl;rw[← hS] at h0;rw[← hx] at xb;obtain⟨m1,m2,m3⟩:=hm;obtain⟨M,hM⟩:∃ M,M=2^x.toNat*B:=⟨_,rfl⟩;obtain⟨Z,hZ⟩:∃ Z,Z=A*2^(-x).toNat:=⟨_,rfl⟩;rw[← hM,← hZ] at hi hl;have hV:0<2^(-x).toNat:=Nat.pow_pos (by omega);have up:32*Z≤(32*S+15)*M:=by
  have h1:32*(20000000000000001*S)*M≤20000000000000000*(32*S+15)*M:=Nat.mul_le_mul_right M (by omega);have e1:32*(20000000000000001*S)*M=32*(20000000000000001*(S*M)):=by rw[Nat.mul_assoc 32,Nat.mul_assoc 20000000000000001]
  have e2:20000000000000000*(32*S+15)*M=20000000000000000*((32*S+15)*M):=Nat.mul_assoc _ _ _;rw[e1,e2] at h1;omega
 have hup:∀ u:Nat,1200≤u→A*2^u≤(32*S+15)*2^(x-5+u).toNat*B:=fun u hu=>by
  have e:=Zgh (x:=x) (u:=u) (d:=5) (by omega);rw[show ((5:Nat):Int)=5 from rfl] at e;refine Nat.le_of_mul_le_mul_right (c:=32*2^(-x).toNat) ?_ (by omega);have l:A*2^u*(32*2^(-x).toNat)=32*Z*2^u:=by rw[hZ];ac_rfl
  have r:(32*S+15)*2^(x-5+u).toNat*B*(32*2^(-x).toNat)=(32*S+15)*M*2^u:=by
   obtain⟨K,hK⟩:∃ K,K=32*S+15:=⟨_,rfl⟩;rw[← hK];have:K*2^(x-5+u).toNat*B*(32*2^(-x).toNat)=K*(2^(x-5+u).toNat*2^5*2^(-x).toNat)*B:=by rw[show (32:Nat)=2^5 from rfl];ac_rfl
   rw[this,e,hM]
   ac_rfl
  rw[l,r];exact Nat.mul_le_mul_right _ up
 have hU:=Zo9 n (S:=S) (x:=x) (by omega) (by omega) m2 (by omega) h0;rw[← m1] at hU;by_cases ht:S=4503599627370496∧ -1074<x
 ·have dn:(64*S-15)*M≤64*Z:=by
   have h1:20000000000000000*(64*S-15)*M≤64*(19999999999999999*S)*M:=Nat.mul_le_mul_right M (by omega);have e1:64*(19999999999999999*S)*M=64*(19999999999999999*(S*M)):=by rw[Nat.mul_assoc 64,Nat.mul_assoc 19999999999999999]
   have e2:20000000000000000*(64*S-15)*M=20000000000000000*((64*S-15)*M):=Nat.mul_assoc _ _ _;rw[e1,e2] at h1;omega
  have hdn:∀ u:Nat,1200≤u→(64*S-15)*2^(x-6+u).toNat*B≤A*2^u:=fun u hu=>by
   have e:=Zgh (x:=x) (u:=u) (d:=6) (by omega);rw[show ((6:Nat):Int)=6 from rfl] at e;refine Nat.le_of_mul_le_mul_right (c:=64*2^(-x).toNat) ?_ (by omega);have l:A*2^u*(64*2^(-x).toNat)=64*Z*2^u:=by rw[hZ];ac_rfl
   have r:(64*S-15)*2^(x-6+u).toNat*B*(64*2^(-x).toNat)=(64*S-15)*M*2^u:=by
    obtain⟨K,hK⟩:∃ K,K=64*S-15:=⟨_,rfl⟩;rw[← hK];have:K*2^(x-6+u).toNat*B*(64*2^(-x).toNat)=K*(2^(x-6+u).toNat*2^6*2^(-x).toNat)*B:=by rw[show (64:Nat)=2^6 from rfl];ac_rfl
    rw[this,e,hM]
    ac_rfl
   rw[l,r];exact Nat.mul_le_mul_right _ dn
  have hT:=ZoB n (x:=x) ht.2 (by omega);refine Zfu hA hB (e:=x-6) (f:=x-5) (by omega) (by omega) hdn hup ?_ hU;rw[ht.1,hT,m1,ht.1];rfl
 ·have dn:(32*S-15)*M≤32*Z:=by
   have h1:20000000000000000*(32*S-15)*M≤32*(19999999999999999*S)*M:=Nat.mul_le_mul_right M (by omega);have e1:32*(19999999999999999*S)*M=32*(19999999999999999*(S*M)):=by rw[Nat.mul_assoc 32,Nat.mul_assoc 19999999999999999]
   have e2:20000000000000000*(32*S-15)*M=20000000000000000*((32*S-15)*M):=Nat.mul_assoc _ _ _;rw[e1,e2] at h1;omega
  have hdn:∀ u:Nat,1200≤u→(32*S-15)*2^(x-5+u).toNat*B≤A*2^u:=fun u hu=>by
   have e:=Zgh (x:=x) (u:=u) (d:=5) (by omega);rw[show ((5:Nat):Int)=5 from rfl] at e;refine Nat.le_of_mul_le_mul_right (c:=32*2^(-x).toNat) ?_ (by omega);have l:A*2^u*(32*2^(-x).toNat)=32*Z*2^u:=by rw[hZ];ac_rfl
   have r:(32*S-15)*2^(x-5+u).toNat*B*(32*2^(-x).toNat)=(32*S-15)*M*2^u:=by
    obtain⟨K,hK⟩:∃ K,K=32*S-15:=⟨_,rfl⟩;rw[← hK];have:K*2^(x-5+u).toNat*B*(32*2^(-x).toNat)=K*(2^(x-5+u).toNat*2^5*2^(-x).toNat)*B:=by rw[show (32:Nat)=2^5 from rfl];ac_rfl
    rw[this,e,hM]
    ac_rfl
   rw[l,r];exact Nat.mul_le_mul_right _ dn
  have hT:=ZoA n (S:=S) (x:=x) (by omega) (by omega) (by omega) (by omega) h0;rw[← m1] at hT;exact Zfu hA hB (e:=x-5) (f:=x-5) (by omega) (by omega) hdn hup hT hU
def paN (S:Nat) (E j:Int):Nat:=S*2^E.toNat*10^j.toNat
def pbN (E j:Int):Nat:=2^(-E).toNat*10^(-j).toNat
theorem zJ (E j:Int):0<pbN E j:=Nat.mul_pos (Nat.pow_pos (by omega)) (Nat.pow_pos (by omega))
theorem Zgi {S:Nat}(h:S≠0) (E j:Int):0<paN S E j:=Nat.mul_pos (Nat.mul_pos (by omega) (Nat.pow_pos (by omega))) (Nat.pow_pos (by omega))
theorem Zdz (S:Nat) (E j:Int) (c:Nat):paN S E (j+c)*pbN E j=paN S E j*10^c*pbN E (j+c):=by
 unfold paN pbN;have h:10^(j+c).toNat*10^(-j).toNat=10^j.toNat*10^c*10^(-(j+c)).toNat:=by
  rw[← Nat.pow_add,← Nat.pow_add,← Nat.pow_add];congr 1;omega
 have l:S*2^E.toNat*10^(j+c).toNat*(2^(-E).toNat*10^(-j).toNat)=S*2^E.toNat*2^(-E).toNat*(10^(j+c).toNat*10^(-j).toNat):=by ac_rfl
 rw[l,h]
 ac_rfl
theorem ZeB {S:Nat}{E j:Int}{a:Nat}(c:Nat) (h:a*pbN E j≤paN S E j):a*10^c*pbN E (j+c)≤paN S E (j+c):=by
 have hs:=Zdz S E j c;refine Nat.le_of_mul_le_mul_right (c:=pbN E j) ?_ (zJ E j);rw[hs];have e:a*10^c*pbN E (j+c)*pbN E j=a*pbN E j*(10^c*pbN E (j+c)):=by ac_rfl
 rw[e,Nat.mul_assoc (paN S E j)];exact Nat.mul_le_mul_right _ h
theorem Zgj {S:Nat}{E j:Int}{a:Nat}(c:Nat) (h:paN S E j<a*pbN E j):paN S E (j+c)<a*10^c*pbN E (j+c):=by
 have hs:=Zdz S E j c;refine Nat.lt_of_mul_lt_mul_right (a:=pbN E j) ?_;rw[hs];have e:a*10^c*pbN E (j+c)*pbN E j=a*pbN E j*(10^c*pbN E (j+c)):=by ac_rfl
 rw[e,Nat.mul_assoc (paN S E j)];exact Nat.mul_lt_mul_of_pos_right h (Nat.mul_pos (Nat.pow_pos (by omega)) (zJ _ _))
def Zar (S:Nat) (E f:Int):Prop:=pbN E (-f)≤paN S E (-f)∧paN S E (-(f+1))<pbN E (-(f+1))
theorem ZdD {S:Nat}{E f:Int}(h:Zar S E f) {n:Nat}(hn:1≤n):10^(n-1)*pbN E ((n:Int)-1-f)≤paN S E ((n:Int)-1-f)∧paN S E ((n:Int)-1-f)<10^n*pbN E ((n:Int)-1-f):=by
 obtain⟨h1,h2⟩:=h;have a:=ZeB (a:=1) (n-1) (by rw[Nat.one_mul];exact h1);have b:=Zgj (a:=1) n (by rw[Nat.one_mul];exact h2);rw[Nat.one_mul,show -f+((n-1:Nat):Int)=(n:Int)-1-f by omega] at a;rw[Nat.one_mul,show -(f+1)+(n:Int)=(n:Int)-1-f by omega] at b;exact⟨a,b⟩
theorem Zhx {S:Nat}{E f g:Int}(hf:Zar S E f) (hg:Zar S E g):f=g:=by
 have key:∀ {f g:Int},Zar S E f→Zar S E g→¬ f<g:=by
  intro f g hf hg hlt;obtain⟨_,h2⟩:=hf;obtain⟨h3,_⟩:=hg;have a:=ZeB (a:=1) (g-(f+1)).toNat (by rw[Nat.one_mul];exact h3);rw[show -g+(((g-(f+1)).toNat:Nat):Int)= -(f+1) by omega,Nat.one_mul] at a;have:pbN E (-(f+1))≤10^(g-(f+1)).toNat*pbN E (-(f+1)):=Nat.le_mul_of_pos_left _ (Nat.pow_pos (by omega));omega
 have h1:=key hf hg;have h2:=key hg hf;omega
theorem ZjV {S:Nat}{E f:Int}(h1:pbN E (-f)≤paN S E (-f)) (h2:¬ pbN E (-(f+1))≤paN S E (-(f+1))):Zar S E f:=⟨h1,by omega⟩
theorem ZoC {n:Bool}{p:Int}(hf:ex p≠2047) (h0:(sg p).toNat≠0) {f:Int}(h:Zar (sg p).toNat (xp p) f) {q:Nat}(hq0:q≠0)
  (hi:2*(q*pbN (xp p) (16-f))≤2*paN (sg p).toNat (xp p) (16-f)+pbN (xp p) (16-f)) (hl:2*paN (sg p).toNat (xp p) (16-f)≤2*(q*pbN (xp p) (16-f))+pbN (xp p) (16-f)):deP 0 n q (f-16)=mag p:=by
 have hd:=(ZdD h (n:=17) (by omega)).1;rw[show ((17:Nat):Int)-1-f=16-f by omega] at hd;obtain⟨a,ha⟩:∃ a,a=paN (sg p).toNat (xp p) (16-f):=⟨_,rfl⟩;obtain⟨b,hb⟩:∃ b,b=pbN (xp p) (16-f):=⟨_,rfl⟩;rw[← ha,← hb] at hi hl hd;have e16:10^(17-1)=10000000000000000:=rfl;rw[e16] at hd;obtain⟨Q,hQ⟩:∃ Q,Q=q*b:=⟨_,rfl⟩;rw[← hQ] at hi hl;unfold deP;refine ZsP hf h0 (Zbd hq0 (ZaT _)) (ZaT _) ?_ ?_
 ·have l:q*10^(f-16).toNat*2^(-(xp p)).toNat=Q:=by
   rw[hQ,hb];unfold pbN;rw[show (-(16-f)).toNat=(f-16).toNat by omega]
   ac_rfl
  have r:(sg p).toNat*(2^(xp p).toNat*10^(-(f-16)).toNat)=a:=by
   rw[ha];unfold paN;rw[show (-(f-16)).toNat=(16-f).toNat by omega]
   ac_rfl
  rw[l,r];omega
 ·have l:q*10^(f-16).toNat*2^(-(xp p)).toNat=Q:=by
   rw[hQ,hb];unfold pbN;rw[show (-(16-f)).toNat=(f-16).toNat by omega]
   ac_rfl
  have r:(sg p).toNat*(2^(xp p).toNat*10^(-(f-16)).toNat)=a:=by
   rw[ha];unfold paN;rw[show (-(f-16)).toNat=(16-f).toNat by omega]
   ac_rfl
  rw[l,r];omega
def n0F (top:Int):Int:=(top*30103).tdiv 100000+2
def n0K (k:Nat):Bool:=Nat.ble (2^((k:Int)-1073).toNat*10^(-(n0F ((k:Int)-1073)+1)).toNat) (10^(n0F ((k:Int)-1073)+1).toNat*2^(-((k:Int)-1073)).toNat)
theorem Z3R:(List.range 2100).all n0K=true:=by decide+kernel
theorem Z9u {top:Int}(h0: -1073≤top) (h1:top≤1026):2^top.toNat*10^(-(n0F top+1)).toNat≤10^(n0F top+1).toNat*2^(-top).toNat:=by
 have h:=List.all_eq_true.1 Z3R (top+1073).toNat (List.mem_range.2 (by omega));unfold n0K at h;rw[show (((top+1073).toNat:Nat):Int)-1073=top by omega] at h;exact Nat.le_of_ble_eq_true h
theorem Zi5 {S:Nat}{E:Int}(h0:S≠0) (hE: -1074≤E) (hE1:E≤972) (hS:S<9007199254740992):¬ pbN E (-(n0F (E+(bitLen S:Nat))+1))≤paN S E (-(n0F (E+(bitLen S:Nat))+1)):=by
 have hl:=(bitLen_spec S).1;have h1:=Zaz h0;have h53:bitLen S≤53:=len_le (k:=53) (show S<2^53 from hS);obtain⟨top,ht⟩:∃ top,top=E+((bitLen S:Nat):Int):=⟨_,rfl⟩;rw[← ht];have hk:=Z9u (top:=top) (by omega) (by omega);obtain⟨N,hN⟩:∃ N,N=n0F top+1:=⟨_,rfl⟩;rw[← hN] at hk ⊢;intro h;unfold pbN paN at h;rw[show (- -N).toNat=N.toNat by omega] at h;have e:2^top.toNat*2^(-E).toNat=2^E.toNat*2^bitLen S*2^(-top).toNat:=by
  rw[← Nat.pow_add,← Nat.pow_add,← Nat.pow_add];congr 1;omega
 have p1:0<2^E.toNat*10^(-N).toNat*2^(-top).toNat:=Nat.mul_pos (Nat.mul_pos (Nat.pow_pos (by omega)) (Nat.pow_pos (by omega))) (Nat.pow_pos (by omega));have a:S*2^E.toNat*10^(-N).toNat*2^(-top).toNat<2^bitLen S*(2^E.toNat*10^(-N).toNat*2^(-top).toNat):=by
  have:=Nat.mul_lt_mul_of_pos_right hl p1;have e2:S*(2^E.toNat*10^(-N).toNat*2^(-top).toNat)=S*2^E.toNat*10^(-N).toNat*2^(-top).toNat:=by ac_rfl
  rw[e2] at this;exact this
 have b:=Nat.mul_le_mul_right (2^(-top).toNat) h;have c:=Nat.mul_le_mul_right (2^(-E).toNat) hk;have e3:2^bitLen S*(2^E.toNat*10^(-N).toNat*2^(-top).toNat)=2^top.toNat*10^(-N).toNat*2^(-E).toNat:=by
  have:2^top.toNat*10^(-N).toNat*2^(-E).toNat=2^top.toNat*2^(-E).toNat*10^(-N).toNat:=by ac_rfl
  rw[this,e]
  ac_rfl
 have e4:2^(-E).toNat*10^N.toNat*2^(-top).toNat=10^N.toNat*2^(-top).toNat*2^(-E).toNat:=by ac_rfl
 rw[e3] at a;rw[e4] at b;omega
theorem Zhy {S:Nat}{E f:Int}(h0:S≠0) (hE: -1074≤E) (hf:f≤ -324):pbN E (-f)≤paN S E (-f):=by
 obtain⟨J,hJ⟩:∃ J:Nat,J=1074:=⟨_,rfl⟩;obtain⟨K,hK⟩:∃ K:Nat,K=1023:=⟨_,rfl⟩;obtain⟨L,hL⟩:∃ L:Nat,L=308:=⟨_,rfl⟩;have h1:(2:Nat)^J≤10^(-f).toNat:=by
  have h2:(2:Nat)^K≤10^L:=Zi0 (i:=11) (by omega) (by omega);have h3:(2:Nat)^51≤10^16:=by decide
  have h4:=Nat.mul_le_mul h2 h3;rw[← Nat.pow_add,← Nat.pow_add] at h4;exact Nat.le_trans (Nat.pow_le_pow_right (by omega) (by omega)) (Nat.le_trans h4 (Nat.pow_le_pow_right (by omega) (by omega)))
 unfold pbN paN;rw[show (- -f).toNat=0 by omega,Nat.pow_zero,Nat.mul_one];refine Nat.le_trans (Nat.pow_le_pow_right (by omega) (show (-E).toNat≤J by omega)) (Nat.le_trans h1 ?_);exact Nat.le_mul_of_pos_left _ (Nat.mul_pos (by omega) (Nat.pow_pos (by omega)))
def frK (S:Nat) (E:Int):Nat→Int→Int
 | 0,n=>n
 | k+1,n=>if pbN E (-n)≤paN S E (-n) then n else frK S E k (n-1)
theorem Zve {S:Nat}{E:Int}:∀ (k:Nat) (n:Int),¬ pbN E (-(n+1))≤paN S E (-(n+1))→pbN E (-(n-k))≤paN S E (-(n-k))→Zar S E (frK S E k n)∧n-k≤frK S E k n∧frK S E k n≤n
 | 0,n,h1,h2=>by
  rw[show n-((0:Nat):Int)=n by omega] at h2;exact⟨ZjV h2 h1,by unfold frK;omega,by unfold frK;omega⟩
 | k+1,n,h1,h2=>by
  unfold frK;by_cases h:pbN E (-n)≤paN S E (-n)
  ·rw[if_pos h];exact⟨ZjV h h1,by omega,by omega⟩
  ·rw[if_neg h];obtain⟨a,b,c⟩:=Zve k (n-1) (by rw[show n-1+1=n by omega];exact h) (by rw[show n-1-(k:Int)=n-((k+1:Nat):Int) by omega];exact h2);exact⟨a,by omega,by omega⟩
def frS (S:Nat) (E:Int):Int:=frK S E (n0F (E+(bitLen S:Nat))+324).toNat (n0F (E+(bitLen S:Nat)))
theorem Zvf {top:Int}(h: -1073≤top) (h1:top≤1026): -324≤n0F top∧n0F top≤400:=by
 unfold n0F;have h2:(top*30103).tdiv 100000=if 0≤top then top*30103/100000 else -((-top)*30103/100000):=by
  split
  ·rw[Int.tdiv_eq_ediv_of_nonneg (by omega)]
  ·rw[show top*30103= -((-top)*30103) by omega,Int.neg_tdiv,Int.tdiv_eq_ediv_of_nonneg (by omega)]
 rw[h2];split<;>omega
theorem Z3S {S:Nat}{E:Int}(h0:S≠0) (hE: -1074≤E) (hE1:E≤972) (hS:S<9007199254740992):Zar S E (frS S E)∧ -324≤frS S E∧frS S E≤400:=by
 have hb:bitLen S≤53:=len_le (k:=53) hS;have hb1:=Zaz h0;obtain⟨l1,l2⟩:=Zvf (top:=E+(bitLen S:Nat)) (by omega) (by omega);have ha:=Zi5 h0 hE hE1 hS;unfold frS;obtain⟨n,hn⟩:∃ n,n=n0F (E+(bitLen S:Nat)):=⟨_,rfl⟩;rw[← hn] at ha l1 l2 ⊢;have hl:=Zhy (f:= -324) h0 hE (by omega);have:=Zve (S:=S) (E:=E) (n+324).toNat n ha (by rw[show n-((n+324).toNat:Nat)= -324 by omega];exact hl);exact⟨this.1,by omega,by omega⟩
end Go.Rd
namespace Go.Rd
open Go.Rn
theorem ZjW {A:List UInt8}(h:Zaw 10 A=true):∀ d∈A,d≠120:=by
 intro d hd h0;unfold Zaw at h;rw[List.all_eq_true] at h;have:=Zbe (Xc (h d hd));rw[h0] at this;exact absurd this.2 (by decide)
theorem Zvg (x:Int):∀ d∈ZaA x,d≠120:=by
 intro d hd;unfold ZaA at hd;split at hd
 ·rcases List.mem_cons.1 hd with h | h
  ·rw[h];decide
  ·exact ZjW (Zcn 20 x.natAbs 10) d h
 ·exact ZjW (Zcn 20 x.natAbs 10) d hd
theorem Zvh {A B:List UInt8}(hA:∀ d∈A,d≠120) (hB:∀ d∈B,d≠120):∀ d∈A++B,d≠120:=fun d hd=>(List.mem_append.1 hd).elim (hA d) (hB d)
theorem Zi6 {c:UInt8}{B:List UInt8}(hc:c≠120) (hB:∀ d∈B,d≠120):∀ d∈c::B,d≠120:=fun d hd=>(List.mem_cons.1 hd).elim (fun h=>by rw[h];exact hc) (hB d)
theorem Zvi {b:Int}{v D:List UInt8}{k:Nat}{r:List UInt8}(h:sc1 b false v=(D,k,r)) (hD:D≠[]):scA b v=scE b r:=by
 unfold scA;rw[h];dsimp only;rw[if_neg hD]
theorem Z9v (m:Int) (n:Bool) {A:List UInt8}(hA:Zaw 10 A=true) (h0:A≠[]) {x:Int}(hx:x.natAbs≤2000000):rdQ m n 10 (A++101::ZaA x)=rdN m n (nmB 10 A) x:=by
 have es:sc1 10 false (101::ZaA x)=([],0,101::ZaA x):=ZjS (by decide) (by decide);have e:sc1 10 false (A++101::ZaA x)=(A,0,101::ZaA x):=by
  rw[Zi1 hA,es];simp
 have ea:=Zvi e h0;rw[Zo5 (.inl rfl) ⟨fun _=>rfl,fun h=>absurd h (by decide)⟩ hx] at ea;rw[Zo2 (by rw[ea]),ea,e];dsimp only;congr 1;omega
theorem Z3T (m:Int) (n:Bool) {A B:List UInt8}(hA:Zaw 10 A=true) (hB:Zaw 10 B=true) (h0:A≠[]) {x:Int}(hx:x.natAbs≤2000000):rdQ m n 10 (A++46::(B++101::ZaA x))=rdN m n (nmB 10 (A++B)) (x-(B.length:Nat)):=by
 have es:sc1 10 true (101::ZaA x)=([],0,101::ZaA x):=ZjS (by decide) (by decide);have e2:sc1 10 true (B++101::ZaA x)=(B,B.length,101::ZaA x):=by
  rw[Zi1 hB,es];simp
 have e:sc1 10 false (A++46::(B++101::ZaA x))=(A++B,B.length,101::ZaA x):=by
  rw[Zi1 hA,Z3C,e2];simp
 have ea:=Zvi e (fun h=>h0 (List.append_eq_nil_iff.1 h).1);rw[Zo5 (.inl rfl) ⟨fun _=>rfl,fun h=>absurd h (by decide)⟩ hx] at ea;rw[Zo2 (by rw[ea]),ea,e]
theorem Zfv (m:Int) {A t:List UInt8}(hA:Zaw 10 A=true) (h0:A≠[]) (ht:∀ d∈t,d≠120) (hl:(A++t).length≤65000):rdP m (A++t)=rdQ m false 10 (A++t)∧rdP m (45::(A++t))=rdQ m true 10 (A++t):=by
 cases A with
 | nil=>exact absurd rfl h0
 | cons c A=>
  have hn:=ZjW hA;unfold Zaw at hA;rw[List.all_cons,Xh] at hA;have hc:=Zbe (Xc hA.1);have hr:∀ d∈A++t,d≠120:=Zvh (fun d hd=>hn d (Xd _ hd)) ht;rw[List.cons_append] at hl ⊢;exact⟨ZjT (by omega) (Zht hc) hc hr,ZjT (by rw[List.length_cons];omega) (Zhu _) hc hr⟩
theorem Zi7 (n:Nat):(dcL n).length≤20:=ZdU 20 n
theorem ZcT (x:Int):(ZaA x).length≤21:=by
 unfold ZaA;split
 ·rw[List.length_cons];have:=Zi7 x.natAbs;omega
 ·have:=Zi7 x.natAbs;omega
end Go.Rd
namespace Go.Rd
open Go.Rn Go.Pt
def txL (n:Bool) (s:List UInt8) (e:Int):List UInt8:=(if n=true then [45] else [])++((match s with | []=>[] | [c]=>[c] | c::r=>c::46::r)++101::ZaA e)
theorem Zhz {f n:Nat}(h:10^(f-1)≤n) (hf:1≤f):(ZaU f n).length=f:=by
 induction f generalizing n with
 | zero=>omega
 | succ f ih=>
  unfold ZaU;by_cases h0:f=0
  ·subst h0;split
   ·rfl
   ·rfl
  ·have e:10^(f+1-1)=10*10^(f-1):=by rw[Nat.mul_comm,← Nat.pow_succ];congr 1;omega
   have hp:0<10^(f-1):=Nat.pow_pos (by omega);rw[e] at h;rw[if_neg (by omega),List.length_append,ih (by omega) (by omega)];rfl
theorem Zi8 (m:Int) (mn:Bool) {n q:Nat}(hn:1≤n) (hn2:n≤2000) (h1:10^(n-1)≤q) (h2:q<10^n) {e:Int}(he:e.natAbs≤2000):rdP m (txL mn (ZaU n q) e)=rdN m mn q (e-((n:Int)-1)):=by
 have hl:=Zhz h1 hn;have ha:=Zcn n q 10;have hv:=Zge h2;have le:=ZcT e;have key:∀ b:Bool,rdP m (txL b (ZaU n q) e)=rdN m b q (e-((n:Int)-1)):=by
  intro b;cases hd:ZaU n q with
  | nil=>rw[hd] at hl;simp at hl;omega
  | cons c r=>
   rw[hd] at hl ha hv;rw[List.length_cons] at hl;have hc:Zaw 10 [c]=true:=by
    unfold Zaw at ha ⊢;rw[List.all_cons,Xh] at ha;rw[List.all_cons,ha.1];rfl
   have hr:Zaw 10 r=true:=by
    unfold Zaw at ha ⊢;rw[List.all_cons,Xh] at ha;exact ha.2
   cases r with
   | nil=>
    have e1:∀ b,txL b [c] e=(if b=true then [45] else [])++([c]++101::ZaA e):=fun b=>rfl;have hlen:n=1:=by simp at hl;omega
    obtain⟨p1,p2⟩:=Zfv m (t:=101::ZaA e) hc (by simp) (Zi6 (by decide) (Zvg e)) (by simp;omega);have q1:=Z9v m b hc (by simp) (x:=e) (by omega);rw[e1,hv] at*;rw[show e-((n:Int)-1)=e by omega,← q1];cases b with
    | true=>exact p2
    | false=>exact p1
   | cons d r=>
    have e1:∀ b,txL b (c::d::r) e=(if b=true then [45] else [])++([c]++46::((d::r)++101::ZaA e)):=fun b=>rfl;obtain⟨p1,p2⟩:=Zfv m (t:=46::((d::r)++101::ZaA e)) hc (by simp) (Zi6 (by decide) (Zvh (ZjW hr) (Zi6 (by decide) (Zvg e)))) (by simp at hl ⊢;omega);have q1:=Z3T m b hc hr (by simp) (x:=e) (by omega);have e2:nmB 10 ([c]++(d::r))=q:=hv;rw[e2] at q1;rw[e1,show e-((n:Int)-1)=e-((d::r).length:Nat) by rw[← hl];omega,← q1];cases b with
    | true=>exact p2
    | false=>exact p1
 exact key mn
def hiX (mn:Bool) (n q:Nat) (f:Int):List UInt8:=if q+1=10^n then txL mn (ZaU n (10^(n-1))) (f+1) else txL mn (ZaU n (q+1)) f
theorem Zyi (m:Int) (mn:Bool) {n q:Nat}(hn:1≤n) (hn2:n≤2000) (h1:10^(n-1)≤q) (h2:q<10^n) {f:Int}(hf:f.natAbs≤1000):rdP m (hiX mn n q f)=rdN m mn (q+1) (f-((n:Int)-1)):=by
 unfold hiX;by_cases h:q+1=10^n
 ·rw[if_pos h,Zi8 m mn hn hn2 (Nat.le_refl _) (Nat.pow_lt_pow_right (by omega) (by omega)) (by omega),h];have e:=Zo3 m mn (10^(n-1)) 1 (f+1-((n:Int)-1));rw[← Nat.pow_add,show n-1+1=n by omega,show f+1-((n:Int)-1)-((1:Nat):Int)=f-((n:Int)-1) by omega] at e;exact e.symm
 ·rw[if_neg h,Zi8 m mn hn hn2 (by omega) (by omega) (by omega)]
def qD (S:Nat) (E f:Int) (n:Nat):Nat:=paN S E ((n:Int)-1-f)/pbN E ((n:Int)-1-f)
def Zl6 (S:Nat) (E f:Int) (n:Nat):Nat:=paN S E ((n:Int)-1-f) % pbN E ((n:Int)-1-f)
theorem ZoD {S:Nat}{E f:Int}(h:Zar S E f) {n:Nat}(hn:1≤n):10^(n-1)≤qD S E f n∧qD S E f n<10^n:=by
 obtain⟨a,b⟩:=ZdD h hn;have hp:=zJ E ((n:Int)-1-f);unfold qD;exact⟨(Nat.le_div_iff_mul_le hp).2 a,(Nat.div_lt_iff_lt_mul hp).2 b⟩
def loB (mn:Bool) (M:Int) (S:Nat) (E f:Int) (n:Nat):Bool:=decide (deP 0 mn (qD S E f n) (f-((n:Int)-1))=M)
def hiB (mn:Bool) (M:Int) (S:Nat) (E f:Int) (n:Nat):Bool:=decide (deP 0 mn (qD S E f n+1) (f-((n:Int)-1))=M)
def loK (mn:Bool) (M:Int) (S:Nat) (E f:Int) (n:Nat):Bool:=loB mn M S E f n && (!hiB mn M S E f n || decide (2*Zl6 S E f n<pbN E ((n:Int)-1-f)) || (decide (2*Zl6 S E f n=pbN E ((n:Int)-1-f)) && decide (qD S E f n % 2=0)))
def shK (mn:Bool) (M:Int) (S:Nat) (E f:Int):Nat→Nat→List UInt8
 | 0,_=>[]
 | k+1,n=>if loK mn M S E f n=true then txL mn (ZaU n (qD S E f n)) f else if hiB mn M S E f n=true then hiX mn n (qD S E f n) f else shK mn M S E f k (n+1)
def shS (p:Int):List UInt8:=shK (decide (9223372036854775808≤p)) (mag p) (sg p).toNat (xp p) (frS (sg p).toNat (xp p)) 17 1
theorem Zyj {mn:Bool}{p:Int}(hf:ex p≠2047) (h0:(sg p).toNat≠0) {f:Int}(h:Zar (sg p).toNat (xp p) f):loB mn (mag p) (sg p).toNat (xp p) f 17=true∨hiB mn (mag p) (sg p).toNat (xp p) f 17=true:=by
 have hb:=(ZoD h (n:=17) (by omega)).1;have e:((17:Nat):Int)-1-f=16-f:=by omega
 have e2:f-(((17:Nat):Int)-1)=f-16:=by omega
 have hq0:qD (sg p).toNat (xp p) f 17≠0:=by
  have:0<10^(17-1):=Nat.pow_pos (by omega);omega
 have hdm:=Nat.div_add_mod (paN (sg p).toNat (xp p) (16-f)) (pbN (xp p) (16-f));have hm:=Nat.mod_lt (paN (sg p).toNat (xp p) (16-f)) (zJ (xp p) (16-f));unfold loB hiB;rw[e2];obtain⟨q,hq⟩:∃ q,q=qD (sg p).toNat (xp p) f 17:=⟨_,rfl⟩;have eq:q=paN (sg p).toNat (xp p) (16-f)/pbN (xp p) (16-f):=by rw[hq];unfold qD;rw[e]
 rw[← hq] at hq0 ⊢;rw[← eq,Nat.mul_comm] at hdm;by_cases hh:2*(paN (sg p).toNat (xp p) (16-f) % pbN (xp p) (16-f))≤pbN (xp p) (16-f)
 ·exact .inl (Xa (ZoC hf h0 h hq0 (by omega) (by omega)))
 ·refine .inr (Xa (ZoC hf h0 h (by omega) ?_ ?_))
  ·rw[Nat.add_mul];omega
  ·rw[Nat.add_mul];omega
theorem ZoE (n:Bool) (A:Nat) (j:Int):deP 0 (!n) A j=deP 0 n A j:=(Z3B 0 n A j).1
theorem ZjX (n k:Bool) (A:Nat) (j:Int):deP 0 n A j=deP 0 k A j:=by
 cases n<;>cases k
 ·rfl
 ·exact (ZoE false A j).symm
 ·exact ZoE false A j
 ·rfl
theorem Zgk (n k:Bool) (M:Int) (S:Nat) (E f:Int) (i:Nat):loB n M S E f i=loB k M S E f i:=by unfold loB;rw[ZjX n k]
theorem Zgl (n k:Bool) (M:Int) (S:Nat) (E f:Int) (i:Nat):hiB n M S E f i=hiB k M S E f i:=by unfold hiB;rw[ZjX n k]
theorem ZsQ (n k:Bool) (M:Int) (S:Nat) (E f:Int) (i:Nat):loK n M S E f i=loK k M S E f i:=by unfold loK;rw[Zgk n k,Zgl n k]
def shN (M:Int) (S:Nat) (E f:Int):Nat→Nat→Nat
 | 0,n=>n
 | k+1,n=>if loB false M S E f n=true∨hiB false M S E f n=true then n else shN M S E f k (n+1)
theorem ZoF {n:Bool}{M:Int}{S:Nat}{E f:Int}{i:Nat}(h:loK n M S E f i=true):loB n M S E f i=true:=by
 unfold loK at h;rw[Xh] at h;exact h.1
theorem ZoG {n:Bool}{M:Int}{S:Nat}{E f:Int}{i:Nat}(h:loB n M S E f i=true) (h2:hiB n M S E f i=false):loK n M S E f i=true:=by
 unfold loK;rw[h,h2];rfl
def shO (mn:Bool) (M:Int) (S:Nat) (E f:Int) (n:Nat):List UInt8:=if loK mn M S E f n=true then txL mn (ZaU n (qD S E f n)) f else hiX mn n (qD S E f n) f
theorem Zvj {mn:Bool}{M:Int}{S:Nat}{E f:Int}:∀ (k n:Nat),(∃ i,n≤i∧i<n+k∧(loB false M S E f i=true∨hiB false M S E f i=true))→shK mn M S E f k n=shO mn M S E f (shN M S E f k n)∧(n≤shN M S E f k n∧shN M S E f k n<n+k)∧(loB false M S E f (shN M S E f k n)=true∨hiB false M S E f (shN M S E f k n)=true)∧∀ i,n≤i→i<shN M S E f k n→loB false M S E f i=false∧hiB false M S E f i=false
 | 0,n,h=>by obtain⟨i,h1,h2,_⟩:=h;omega
 | k+1,n,h=>by
  unfold shN shK;by_cases hn:loB false M S E f n=true∨hiB false M S E f n=true
  ·rw[if_pos hn];refine⟨?_,⟨Nat.le_refl _,by omega⟩,hn,fun i h1 h2=>by omega⟩;unfold shO;split
   ·rfl
   ·rename_i hk;have hh:hiB mn M S E f n=true:=by
     cases hh:hiB mn M S E f n with
     | true=>rfl
     | false=>
      rcases hn with h1 | h1
      ·rw[Zgk false mn] at h1;exact absurd (ZoG h1 hh) hk
      ·rw[Zgl false mn,hh] at h1;cases h1
    rw[if_pos hh]
  ·rw[if_neg hn];have h3:loB false M S E f n=false∧hiB false M S E f n=false:=by
    constructor
    ·cases hx:loB false M S E f n with
     | false=>rfl
     | true=>exact absurd (.inl hx) hn
    ·cases hx:hiB false M S E f n with
     | false=>rfl
     | true=>exact absurd (.inr hx) hn
   have hk:¬ loK mn M S E f n=true:=fun hk=>by
    have:=ZoF hk;rw[Zgk mn false,h3.1] at this;cases this
   rw[if_neg hk,if_neg (by rw[Zgl mn false,h3.2];decide)];obtain⟨i,h1,h2,hi⟩:=h;have hni:i≠n:=fun e=>hn (by rw[← e];exact hi);obtain⟨a,b,c,d⟩:=Zvj (mn:=mn) k (n+1) ⟨i,by omega,by omega,hi⟩;refine⟨a,by omega,c,fun j j1 j2=> ?_⟩;by_cases hj:j=n
   ·rw[hj];exact h3
   ·exact d j (by omega) j2
structure Fin14 (p:Int):Prop where
 fin:ex p≠2047
 ne:(sg p).toNat≠0
 e0: -1074≤xp p
 e1:xp p≤972
 s1:(sg p).toNat<9007199254740992
def frP (p:Int):Int:=frS (sg p).toNat (xp p)
def nP (p:Int):Nat:=shN (mag p) (sg p).toNat (xp p) (frP p) 17 1
theorem ZeC {p:Int}(h:Fin14 p):Zar (sg p).toNat (xp p) (frP p)∧ -324≤frP p∧frP p≤400:=Z3S h.ne h.e0 h.e1 h.s1
theorem Zco {p:Int}(h:Fin14 p):shS p=shO (decide (9223372036854775808≤p)) (mag p) (sg p).toNat (xp p) (frP p) (nP p)∧(1≤nP p∧nP p≤17)∧(loB false (mag p) (sg p).toNat (xp p) (frP p) (nP p)=true∨hiB false (mag p) (sg p).toNat (xp p) (frP p) (nP p)=true)∧∀ i,1≤i→i<nP p→loB false (mag p) (sg p).toNat (xp p) (frP p) i=false∧hiB false (mag p) (sg p).toNat (xp p) (frP p) i=false:=by
 have:=Zvj (mn:=decide (9223372036854775808≤p)) (M:=mag p) (S:=(sg p).toNat) (E:=xp p) (f:=frP p) 17 1 ⟨17,by omega,by omega,Zyj (mn:=false) h.fin h.ne (ZeC h).1⟩;obtain⟨a,b,c,d⟩:=this;exact⟨a,⟨b.1,by have:=b.2;unfold nP;omega⟩,c,d⟩
def Zh0 (m:Int) (mn:Bool) (q r b:Nat):Bool:=if m=1 then decide (b≤2*r) else if m=2 then false else if m=3 then decide (0<r) && !mn else if m=4 then decide (0<r) && mn else decide (b<2*r) || (decide (2*r=b) && decide (q % 2=1))
def ZsR (p:Int) (n:Nat) (m:Int):List UInt8:=if Zh0 m (decide (9223372036854775808≤p)) (qD (sg p).toNat (xp p) (frP p) n) (Zl6 (sg p).toNat (xp p) (frP p) n) (pbN (xp p) ((n:Int)-1-frP p))=true then hiX (decide (9223372036854775808≤p)) n (qD (sg p).toNat (xp p) (frP p) n) (frP p) else txL (decide (9223372036854775808≤p)) (ZaU n (qD (sg p).toNat (xp p) (frP p) n)) (frP p)
def Z1a (mn:Bool) (c:UInt8) (h:List UInt8) (x:Int):List UInt8:=(if mn=true then [45] else [])++(48::120::c::((if h=[] then [] else 46::h)++112::ZaA x))
theorem Zi9 (n:Bool) {S k T:Nat}{x E:Int}(hx: -1074≤x) (hS:S<9007199254740992) (h:x= -1074∨4503599627370496≤S) (hb:(x+1074)*4503599627370496+(S:Int)<9218868437227405312) (hE:E=x-(k:Nat)) (hk:1≤k) (h1:S*2^k≤T) (h2:T<(S+1)*2^k) (hT:T≠0):
  rnP 0 n T E=(x+1074)*4503599627370496+(S:Int)+(if S*2^k+2^(k-1)<T∨(T=S*2^k+2^(k-1)∧S % 2=1) then 1 else 0):=by
 have hp:0<2^k:=Nat.pow_pos (by omega);have hpe:2^k=2*2^(k-1):=by rw[Nat.mul_comm,← Nat.pow_succ];congr 1;omega
 have e53:(2:Nat)^53=9007199254740992:=rfl;have e52:(2:Nat)^52=4503599627370496:=rfl;have lb:bitLen T≤53+k:=by
  refine len_le ?_;refine Nat.lt_of_lt_of_le h2 ?_;rw[Nat.pow_add];exact Nat.mul_le_mul_right _ (by omega)
 have he:zH T E=x:=by
  unfold zH lgN;rcases h with h | h
  ·rw[if_pos (by omega)];omega
  ·have:52+k+1≤bitLen T:=by
    refine Ze6 ?_;rw[Nat.pow_add];exact Nat.le_trans (Nat.mul_le_mul_right _ (by omega)) h1
   split<;>omega
 have hdiv:T/2^k=S:=Nat.div_eq_of_lt_le h1 h2;have hmod:T % 2^k=T-S*2^k:=by
  have:=Nat.div_add_mod T (2^k);rw[hdiv,Nat.mul_comm] at this;omega
 obtain⟨P,hP⟩:∃ P,P=2^(k-1):=⟨_,rfl⟩;obtain⟨Q,hQ⟩:∃ Q,Q=S*2^k:=⟨_,rfl⟩;have hs:(S+1)*2^k=Q+2*P:=by rw[Nat.add_mul,Nat.one_mul,hpe,← hP,hQ,hpe,hP]
 rw[← hQ,← hP];rw[hs] at h2;rw[← hQ] at h1 hmod;have hq:toQ 0 n T E x=S+(if Q+P<T∨(T=Q+P∧S % 2=1) then 1 else 0):=by
  unfold toQ;rw[if_neg (by omega),show (x-E).toNat=k by omega];unfold rq;rw[hdiv,hmod,hpe,← hP];congr 1;have hu:upR 0 n (odd S) (Zad (T-Q) (2*P))=decide (Q+P<T∨(T=Q+P∧S % 2=1)):=by
   unfold Zad odd upR;by_cases a0:T-Q=0
   ·rw[if_pos a0,if_pos rfl];exact (Xb (by omega)).symm
   ·rw[if_neg a0];by_cases a1:2*(T-Q)<2*P
    ·rw[if_pos a1];have:¬ (Q+P<T∨(T=Q+P∧S % 2=1)):=by omega
     rw[Xb this];simp
    ·rw[if_neg a1];by_cases a2:2*(T-Q)=2*P
     ·rw[if_pos a2];have e:(Q+P<T∨(T=Q+P∧S % 2=1))=(S % 2=1):=by
       apply propext;omega
      simp only[e];simp
     ·rw[if_neg a2];have:Q+P<T∨(T=Q+P∧S % 2=1):=by omega
      rw[Xa this];simp
  rw[hu];by_cases c:Q+P<T∨(T=Q+P∧S % 2=1)
  ·rw[Xa c,if_pos rfl,if_pos c]
  ·rw[Xb c,if_neg (by decide),if_neg c]
 have hbey:bey 0 n=9218868437227405312:=by unfold bey upR;simp
 unfold rnP p0;rw[if_neg hT,he,hq];split
 ·rw[hbey];omega
 ·omega
theorem Zh1 {A B u c:Nat}(hB:0<B):dvK A B u≤2*c↔A*2^u≤c*B:=by
 constructor
 ·intro h;have h3:=Nat.div_add_mod (A*2^u) B;unfold dvK at h;by_cases hr:A*2^u % B=0
  ·rw[if_pos hr] at h;have:B*(A*2^u/B)≤B*c:=Nat.mul_le_mul_left _ (by omega);rw[Nat.mul_comm c];omega
  ·rw[if_neg hr] at h;have h1:A*2^u/B+1≤c:=by omega
   have:B*(A*2^u/B+1)≤B*c:=Nat.mul_le_mul_left _ h1;have hm:=Nat.mod_lt (A*2^u) hB;rw[Nat.mul_add,Nat.mul_one] at this;rw[Nat.mul_comm c];omega
 ·exact Z3Q
theorem Zh2 {A B u c:Nat}(hB:0<B):2*c≤dvK A B u↔c*B≤A*2^u:=by
 constructor
 ·intro h;have h1:c≤A*2^u/B:=by
   unfold dvK at h;split at h<;>omega
  exact (Nat.le_div_iff_mul_le hB).1 h1
 ·exact Z3P hB
theorem Zyk {p:Int}(hf:ex p≠2047):mag p=(xp p+1074)*4503599627370496+(sg p).toNat∧(xp p= -1074∨4503599627370496≤(sg p).toNat)∧mag p<9218868437227405312:=by
 have h1:=Zir p;have h2:=ZeR p;have h4:mag p=4503599627370496*ex p+fr p:=by unfold mag ex fr;omega
 by_cases he:ex p=0
 ·have e1:sg p=fr p:=by unfold sg;rw[if_pos he]
  have e2:xp p= -1074:=by unfold xp;rw[if_pos he]
  rw[e1,e2];exact⟨by omega,.inl rfl,by omega⟩
 ·have e1:sg p=fr p+4503599627370496:=by unfold sg;rw[if_neg he,if_neg hf]
  have e2:xp p=ex p-1075:=by unfold xp;rw[if_neg he,if_neg hf]
  rw[e1,e2];exact⟨by omega,.inr (by omega),by omega⟩
def mdL (S:Nat) (x:Int):Nat:=if S=4503599627370496∧ -1074<x then 4*S-1 else 4*S-2
def mdH (S:Nat):Nat:=4*S+2
theorem Zyl (n:Bool) {p:Int}(h:Fin14 p) {T k:Nat}(hk:3≤k):rnP 0 n T (xp p-(k:Nat))=mag p↔(if (sg p).toNat % 2=0 then mdL (sg p).toNat (xp p)*2^(k-2)≤T∧T≤mdH (sg p).toNat*2^(k-2) else mdL (sg p).toNat (xp p)*2^(k-2)<T∧T<mdH (sg p).toNat*2^(k-2)):=by
 obtain⟨m1,m2,m3⟩:=Zyk h.fin;obtain⟨S,hS⟩:∃ S,S=(sg p).toNat:=⟨_,rfl⟩;obtain⟨x,hx⟩:∃ x,x=xp p:=⟨_,rfl⟩;have f1:=h.ne;have f2:=h.e0;have f3:=h.s1;rw[← hS,← hx] at m1;rw[← hS] at f1 f3 m2;rw[← hx] at f2 m2;rw[← hS,← hx];obtain⟨Q,hQ⟩:∃ Q,Q=2^(k-2):=⟨_,rfl⟩;obtain⟨R,hR⟩:∃ R,R=2^(k-3):=⟨_,rfl⟩;have hQR:Q=2*R:=by rw[hQ,hR,Nat.mul_comm,← Nat.pow_succ];congr 1;omega
 have hR0:0<R:=by rw[hR];exact Nat.pow_pos (by omega)
 have hk0:2^k=4*Q:=by rw[hQ,show (4:Nat)=2^2 from rfl,← Nat.pow_add];congr 1;omega
 have hk1:2^(k-1)=2*Q:=by rw[hQ,Nat.mul_comm,← Nat.pow_succ];congr 1;omega
 rw[← hQ];have up:∀ T:Nat,S*(4*Q)≤T→T<(S+1)*(4*Q)→T≠0→rnP 0 n T (x-(k:Nat))=mag p+(if S*(4*Q)+2*Q<T∨(T=S*(4*Q)+2*Q∧S % 2=1) then 1 else 0):=fun T t1 t2 t3=>by
  have:=Zi9 n (S:=S) (k:=k) (T:=T) (x:=x) (E:=x-(k:Nat)) f2 f3 m2 (by omega) rfl (by omega) (by rw[hk0];exact t1) (by rw[hk0];exact t2) t3;rw[hk0,hk1,← m1] at this;exact this
 have eSQ:S*(4*Q)=4*(S*Q):=by rw[← Nat.mul_assoc,Nat.mul_comm S 4,Nat.mul_assoc]
 have eS1:(S+1)*(4*Q)=4*(S*Q)+4*Q:=by rw[Nat.add_mul,eSQ,Nat.one_mul]
 have eH:mdH S*Q=4*(S*Q)+2*Q:=by unfold mdH;rw[Nat.add_mul,Nat.mul_assoc]
 have hSQ:Q≤S*Q:=Nat.le_mul_of_pos_left _ (by omega);obtain⟨W,hW⟩:∃ W,W=S*Q:=⟨_,rfl⟩;rw[eSQ,eS1] at up;rw[eH];rw[← hW] at up hSQ ⊢;have upA:∀ T,4*W+2*Q<T→mag p+1≤rnP 0 n T (x-(k:Nat)):=fun T ht=>by
  have a:=up (4*W+2*Q+1) (by omega) (by omega) (by omega);rw[if_pos (.inl (by omega))] at a;rw[← a];exact Za3 (by omega)
 have upM:=up (4*W+2*Q) (by omega) (by omega) (by omega);have upB:∀ T,T<4*W+2*Q→rnP 0 n T (x-(k:Nat))≤mag p:=fun T ht=>by
  have a:=up (4*W+2*Q-1) (by omega) (by omega) (by omega);rw[if_neg (by omega),Int.add_zero] at a;rw[← a];exact Za3 (by omega)
 have dn:∃ D,D=mdL S x*Q∧D<4*W∧(∀ T,D<T→mag p≤rnP 0 n T (x-(k:Nat)))∧rnP 0 n D (x-(k:Nat))=mag p-(if S % 2=1 then 1 else 0)∧(∀ T,T<D→rnP 0 n T (x-(k:Nat))≤mag p-1):=by
  by_cases ht:S=4503599627370496∧ -1074<x
  ·have eL:mdL S x*Q=4*W-Q:=by
    unfold mdL;rw[if_pos ht,Nat.sub_mul,Nat.one_mul,Nat.mul_assoc,← hW]
   have cell:∀ T:Nat,4*W-2*Q≤T→T<4*W→T≠0→rnP 0 n T (x-(k:Nat))=mag p-1+(if 4*W-Q<T∨(T=4*W-Q∧9007199254740991 % 2=1) then 1 else 0):=fun T t1 t2 t3=>by
    have hk2:2^(k-1-1)=Q:=by rw[hQ];congr 1
    have e1:9007199254740991*(2*Q)=4*W-2*Q:=by rw[hW,ht.1];omega
    have e2:(9007199254740991+1)*(2*Q)=4*W:=by rw[hW,ht.1];omega
    have:=Zi9 n (S:=9007199254740991) (k:=k-1) (T:=T) (x:=x-1) (E:=x-(k:Nat)) (by omega) (by omega) (.inr (by omega)) (by omega) (by omega) (by omega) (by rw[hk1,e1];exact t1) (by rw[hk1,e2];exact t2) t3;rw[hk1,hk2,e1] at this;rw[this,m1,ht.1];have e3:4*W-2*Q+Q=4*W-Q:=by omega
    rw[e3];omega
   refine⟨4*W-Q,eL.symm,by omega,fun T t=> ?_,?_,fun T t=> ?_⟩
   ·have a:=cell (4*W-Q+1) (by omega) (by omega) (by omega);rw[if_pos (.inl (by omega))] at a;have b:=Za3 (m:=0) (neg:=n) (E:=x-(k:Nat)) (show 4*W-Q+1≤T by omega);omega
   ·have a:=cell (4*W-Q) (by omega) (by omega) (by omega);rw[if_pos (.inr ⟨rfl,rfl⟩)] at a;rw[a,if_neg (by omega)];omega
   ·have a:=cell (4*W-Q-1) (by omega) (by omega) (by omega);rw[if_neg (by omega)] at a;have b:=Za3 (m:=0) (neg:=n) (E:=x-(k:Nat)) (show T≤4*W-Q-1 by omega);omega
  ·have eL:mdL S x*Q=4*W-2*Q:=by
    unfold mdL;rw[if_neg ht,Nat.sub_mul,Nat.mul_assoc,← hW]
   have cell:∀ T:Nat,4*W-4*Q≤T→T<4*W→T≠0→rnP 0 n T (x-(k:Nat))=mag p-1+(if 4*W-2*Q<T∨(T=4*W-2*Q∧(S-1) % 2=1) then 1 else 0):=fun T t1 t2 t3=>by
    have e1:(S-1)*(4*Q)=4*W-4*Q:=by rw[Nat.sub_mul,eSQ,Nat.one_mul,← hW]
    have e2:(S-1+1)*(4*Q)=4*W:=by rw[show S-1+1=S by omega,eSQ,← hW]
    have:=Zi9 n (S:=S-1) (k:=k) (T:=T) (x:=x) (E:=x-(k:Nat)) f2 (by omega) (by omega) (by omega) rfl (by omega) (by rw[hk0,e1];exact t1) (by rw[hk0,e2];exact t2) t3;rw[hk0,hk1,e1,show 4*W-4*Q+2*Q=4*W-2*Q by omega] at this;rw[this,m1];omega
   refine⟨4*W-2*Q,eL.symm,by omega,fun T t=> ?_,?_,fun T t=> ?_⟩
   ·have a:=cell (4*W-2*Q+1) (by omega) (by omega) (by omega);rw[if_pos (.inl (by omega))] at a;have b:=Za3 (m:=0) (neg:=n) (E:=x-(k:Nat)) (show 4*W-2*Q+1≤T by omega);omega
   ·have a:=cell (4*W-2*Q) (by omega) (by omega) (by omega);rw[a];split<;>split<;>omega
   ·have a:=cell (4*W-2*Q-1) (by omega) (by omega) (by omega);rw[if_neg (by omega)] at a;have b:=Za3 (m:=0) (neg:=n) (E:=x-(k:Nat)) (show T≤4*W-2*Q-1 by omega);omega
 obtain⟨D,hD,hDW,dnA,dnM,dnB⟩:=dn;rw[← hD];by_cases hpar:S % 2=0
 ·rw[if_pos hpar];rw[if_neg (by omega)] at upM dnM;constructor
  ·intro e;constructor
   ·rcases Nat.lt_or_ge T D with t | t
    ·have:=dnB T t;omega
    ·exact t
   ·rcases Nat.lt_or_ge (4*W+2*Q) T with t | t
    ·have:=upA T t;omega
    ·exact t
  ·rintro⟨t1,t2⟩;have a:mag p≤rnP 0 n T (x-(k:Nat)):=by
    rcases Nat.lt_or_ge D T with t | t
    ·exact dnA T t
    ·rw[show T=D by omega,dnM];omega
   have b:rnP 0 n T (x-(k:Nat))≤mag p:=by
    rcases Nat.lt_or_ge T (4*W+2*Q) with t | t
    ·exact upB T t
    ·rw[show T=4*W+2*Q by omega,upM];omega
   omega
 ·rw[if_neg hpar];rw[if_pos (.inr ⟨rfl,by omega⟩)] at upM;rw[if_pos (by omega)] at dnM;constructor
  ·intro e;constructor
   ·rcases Nat.lt_or_ge D T with t | t
    ·exact t
    ·have:=Za3 (m:=0) (neg:=n) (E:=x-(k:Nat)) t;omega
   ·rcases Nat.lt_or_ge T (4*W+2*Q) with t | t
    ·exact t
    ·have:=Za3 (m:=0) (neg:=n) (E:=x-(k:Nat)) t;omega
  ·rintro⟨t1,t2⟩;have a:=dnA T t1;have b:=upB T t2;omega
theorem Zym (n:Bool) {p:Int}(h:Fin14 p) {A B:Nat}(hA:A≠0) (hB:B≠0):rqP 0 n A B=mag p↔(if (sg p).toNat % 2=0 then mdL (sg p).toNat (xp p)*(2^(xp p-2).toNat*B)≤A*2^(2-xp p).toNat∧A*2^(2-xp p).toNat≤mdH (sg p).toNat*(2^(xp p-2).toNat*B) else mdL (sg p).toNat (xp p)*(2^(xp p-2).toNat*B)<A*2^(2-xp p).toNat∧A*2^(2-xp p).toNat<mdH (sg p).toNat*(2^(xp p-2).toNat*B)):=by
 have f2:=h.e0;have f3:=h.e1;obtain⟨u,hu⟩:∃ u,u=1200+upN A B:=⟨_,rfl⟩;have hbits:54≤bitLen (A*2^u/B):=by
  have h3:=Zcm hA hB;have h4:A*2^upN A B/B≤A*2^u/B:=Nat.div_le_div_right (Nat.mul_le_mul_left _ (Nat.pow_le_pow_right (by omega) (by omega)));have h5:2^79≤A*2^upN A B/B:=by
   rw[Nat.le_div_iff_mul_le (by omega)];exact ZjN hA
  have:=Ze6 (Nat.le_trans h5 h4);omega
 rw[← (Zoy (m:=0) (n:=n) hA hB hbits).1];obtain⟨k,hk⟩:∃ k:Nat,(k:Int)=xp p+u+1:=⟨(xp p+u+1).toNat,by omega⟩;have hs:=Zyl n h (T:=dvK A B u) (k:=k) (by omega);rw[show xp p-(k:Nat)= -(u:Int)-1 by omega] at hs;rw[hs];obtain⟨x,hx⟩:∃ x,x=xp p:=⟨_,rfl⟩;rw[← hx] at hk f2 f3 ⊢;have hB0:0<B:=by omega
 have e2:2^(k-2)=2*2^(k-3):=by rw[Nat.mul_comm,← Nat.pow_succ];congr 1;omega
 have e3:∀ m,m*2^(k-2)=2*(m*2^(k-3)):=fun m=>by rw[e2,← Nat.mul_assoc,Nat.mul_comm m 2,Nat.mul_assoc]
 have ex:2^(k-3)*2^(2-x).toNat=2^(x-2).toNat*2^u:=by rw[← Nat.pow_add,← Nat.pow_add];congr 1;omega
 have hu0:0<2^u:=Nat.pow_pos (by omega);have hx0:0<2^(2-x).toNat:=Nat.pow_pos (by omega);have key:∀ m,(m*2^(k-3)*B≤A*2^u↔m*(2^(x-2).toNat*B)≤A*2^(2-x).toNat)∧(A*2^u≤m*2^(k-3)*B↔A*2^(2-x).toNat≤m*(2^(x-2).toNat*B)):=fun m=>by
  have l:m*2^(k-3)*B*2^(2-x).toNat=m*(2^(x-2).toNat*B)*2^u:=by
   have:m*2^(k-3)*B*2^(2-x).toNat=m*(2^(k-3)*2^(2-x).toNat)*B:=by ac_rfl
   rw[this,ex]
   ac_rfl
  have r:A*2^u*2^(2-x).toNat=A*2^(2-x).toNat*2^u:=by ac_rfl
  constructor
  ·rw[← Nat.mul_le_mul_right_iff hx0,l,r,Nat.mul_le_mul_right_iff hu0]
  ·rw[← Nat.mul_le_mul_right_iff hx0,l,r,Nat.mul_le_mul_right_iff hu0]
 rw[e3,e3];obtain⟨a1,a2⟩:=key (mdL (sg p).toNat x);obtain⟨b1,b2⟩:=key (mdH (sg p).toNat);have c1:=Zh2 (A:=A) (u:=u) (c:=mdL (sg p).toNat x*2^(k-3)) hB0;have c2:=Zh1 (A:=A) (u:=u) (c:=mdL (sg p).toNat x*2^(k-3)) hB0;have d1:=Zh2 (A:=A) (u:=u) (c:=mdH (sg p).toNat*2^(k-3)) hB0;have d2:=Zh1 (A:=A) (u:=u) (c:=mdH (sg p).toNat*2^(k-3)) hB0;split
 ·rw[c1,a1,d2,b2]
 ·rw[← Nat.not_le,← Nat.not_le,← Nat.not_le,← Nat.not_le,c2,a2,d1,b1]
def ovN (E j:Int):Nat:=2^(E-2).toNat*10^(-j).toNat
def ZaY (E j:Int):Nat:=2^(2-E).toNat*10^j.toNat
def ZhR (p j:Int) (N:Nat):Bool:=if (sg p).toNat % 2=0 then decide (mdL (sg p).toNat (xp p)*ovN (xp p) j≤N*ZaY (xp p) j) && decide (N*ZaY (xp p) j≤mdH (sg p).toNat*ovN (xp p) j) else decide (mdL (sg p).toNat (xp p)*ovN (xp p) j<N*ZaY (xp p) j) && decide (N*ZaY (xp p) j<mdH (sg p).toNat*ovN (xp p) j)
theorem ZoH (n:Bool) {p:Int}(h:Fin14 p) {N:Nat}(hN:N≠0) (j:Int):decide (deP 0 n N j=mag p)=ZhR p j N:=by
 have q:=Zym n h (A:=N*10^j.toNat) (B:=10^(-j).toNat) (Zbd hN (ZaT _)) (ZaT _);have e:N*10^j.toNat*2^(2-xp p).toNat=N*ZaY (xp p) j:=by unfold ZaY;ac_rfl
 rw[e] at q;unfold deP ZhR ovN;split at q
 ·rename_i hp;rw[if_pos hp,← Bool.decide_and];exact decide_eq_decide.2 q
 ·rename_i hp;rw[if_neg hp,← Bool.decide_and];exact decide_eq_decide.2 q
def ZA (E j:Int) (m:Nat):Nat:=m*ovN E j/ZaY E j
def ZaD (E j:Int) (m:Nat):Bool:=decide (m*ovN E j % ZaY E j≠0)
def ZV (p j:Int):Nat:=ZA (xp p) j (4*(sg p).toNat)
def Zas (p j:Int):Bool:=ZaD (xp p) j (4*(sg p).toNat)
def ZbG (p j:Int):Nat:=ZA (xp p) j (mdL (sg p).toNat (xp p))+(if ZaD (xp p) j (mdL (sg p).toNat (xp p))=true∨(sg p).toNat % 2=1 then 1 else 0)
def ZbH (p j:Int):Nat:=ZA (xp p) j (mdH (sg p).toNat)-(if ZaD (xp p) j (mdH (sg p).toNat)=false∧(sg p).toNat % 2=1 then 1 else 0)
theorem Zgm (E j:Int):0<ZaY E j:=Nat.mul_pos (Nat.pow_pos (by omega)) (Nat.pow_pos (by omega))
theorem Zyn (E j:Int):0<ovN E j:=Nat.mul_pos (Nat.pow_pos (by omega)) (Nat.pow_pos (by omega))
theorem Z3U {N M U:Nat}(hU:0<U):M≤N*U↔M/U+(if M % U≠0 then 1 else 0)≤N:=by
 have h:=Nat.div_add_mod M U;have hm:=Nat.mod_lt M hU;rw[Nat.mul_comm] at h;constructor
 ·intro hn;rcases Nat.lt_or_ge N (M/U+(if M % U≠0 then 1 else 0)) with c | c
  ·split at c
   ·have:=Nat.mul_le_mul_right U (show N≤M/U by omega);omega
   ·have:=Nat.mul_le_mul_right U (show N+1≤M/U by omega);rw[Nat.add_mul] at this;omega
  ·exact c
 ·intro hn;split at hn
  ·have:=Nat.mul_le_mul_right U hn;rw[Nat.add_mul] at this;omega
  ·have:=Nat.mul_le_mul_right U (show M/U≤N by omega);omega
theorem Z3V {N M U:Nat}(hU:0<U):N*U≤M↔N≤M/U:=(Nat.le_div_iff_mul_le hU).symm
theorem Z9w {N M U:Nat}(hU:0<U):M<N*U↔M/U+1≤N:=by rw[← Nat.not_le,Z3V hU];omega
theorem Z9x {N M U:Nat}(hU:0<U) (hM:0<M):N*U<M↔N≤M/U-(if M % U=0 then 1 else 0):=by
 have h:=Z3U (N:=N) (M:=M) hU;rw[← Nat.not_le,h];have h2:M % U=0→1≤M/U:=fun h0=>by
  have:=Nat.div_add_mod M U;rcases Nat.eq_zero_or_pos (M/U) with c | c
  ·rw[c,h0] at this;omega
  ·exact c
 by_cases c:M % U=0
 ·have:=h2 c;rw[if_neg (by omega),if_pos c];omega
 ·rw[if_pos c,if_neg c,Nat.sub_zero,Nat.not_le,Nat.lt_add_one_iff]
theorem Z3W {p:Int}(h:Fin14 p) (j:Int) (N:Nat):ZhR p j N=(decide (ZbG p j≤N) && decide (N≤ZbH p j)):=by
 have hU:=Zgm (xp p) j;have hO:=Zyn (xp p) j;have f1:=h.ne;have hM:0<mdH (sg p).toNat*ovN (xp p) j:=Nat.mul_pos (by unfold mdH;omega) hO;obtain⟨a,ha⟩:∃ a,a=mdL (sg p).toNat (xp p)*ovN (xp p) j:=⟨_,rfl⟩;obtain⟨b,hb⟩:∃ b,b=mdH (sg p).toNat*ovN (xp p) j:=⟨_,rfl⟩;obtain⟨u,hu⟩:∃ u,u=ZaY (xp p) j:=⟨_,rfl⟩;unfold ZhR ZbG ZbH ZA ZaD;rw[← ha,← hb,← hu];rw[← hb] at hM;rw[← hu] at hU;have g1:=Z3U (N:=N) (M:=a) hU;have g2:=Z3V (N:=N) (M:=b) hU;have g3:=Z9w (N:=N) (M:=a) hU;have g4:=Z9x (N:=N) (M:=b) hU hM;have bo:∀ P Q R S:Prop,[Decidable P]→[Decidable Q]→[Decidable R]→[Decidable S]→(P↔R)→(Q↔S)→(decide P && decide Q)=(decide R && decide S):=by
  intro P Q R S _ _ _ _ h1 h2;rw[decide_eq_decide.2 h1,decide_eq_decide.2 h2]
 split
 ·rename_i hp;refine bo _ _ _ _ ?_ ?_
  ·rw[g1];by_cases c:a % u≠0
   ·rw[if_pos c,if_pos (.inl (Xa c))]
   ·rw[if_neg c,if_neg];rintro (d | d)
    ·exact c (Xc d)
    ·omega
  ·rw[g2,if_neg (fun c=>by omega),Nat.sub_zero]
 ·rename_i hp;refine bo _ _ _ _ ?_ ?_
  ·rw[g3,if_pos (.inr (by omega))]
  ·rw[g4];by_cases c:b % u=0
   ·rw[if_pos c,if_pos ⟨Xb (fun d=>d c),by omega⟩]
   ·rw[if_neg c,if_neg (fun d=>of_decide_eq_false d.1 c)]
def fx:Nat→Nat→List UInt8
 | 0,_=>[]
 | k+1,n=>fx k (n/10)++[chD (n % 10)]
theorem Zcw (k n:Nat):(fx k n).length=k:=by
 induction k generalizing n with
 | zero=>rfl
 | succ k ih=>unfold fx;rw[List.length_append,ih,List.length_singleton]
theorem ZdE {k n:Nat}(h0:1≤k) (h1:10^(k-1)≤n) (h2:n<10^k):fx k n=ZaU k n:=by
 induction k generalizing n with
 | zero=>omega
 | succ k ih=>
  unfold fx ZaU;by_cases hk:k=0
  ·subst hk;rw[if_pos (by simpa using h2),Nat.mod_eq_of_lt (by simpa using h2)];rfl
  ·have e:10^(k+1-1)=10*10^(k-1):=by rw[Nat.mul_comm,← Nat.pow_succ];congr 1;omega
   have hp:0<10^(k-1):=Nat.pow_pos (by omega);rw[e] at h1;rw[Nat.pow_succ] at h2;rw[if_neg (by omega),ih (by omega) (by omega) (by omega)]
theorem ZjY (a b n:Nat):fx (a+b) n=fx a (n/10^b)++fx b n:=by
 induction b generalizing n with
 | zero=>rw[Nat.pow_zero,Nat.div_one,Nat.add_zero];exact (List.append_nil _).symm
 | succ b ih=>
  rw[← Nat.add_assoc];show fx (a+b) (n/10)++[chD (n % 10)]=fx a (n/10^(b+1))++(fx b (n/10)++[chD (n % 10)]);rw[ih,Nat.div_div_eq_div_mul,Nat.pow_succ,Nat.mul_comm 10,List.append_assoc]
theorem Zvk (k n:Nat):fx k (n % 10^k)=fx k n:=by
 induction k generalizing n with
 | zero=>rfl
 | succ k ih=>
  unfold fx;have e1:n % 10^(k+1)/10=n/10 % 10^k:=by rw[Nat.pow_succ,Nat.mul_comm,Nat.mod_mul_right_div_self]
  have e2:n % 10^(k+1) % 10=n % 10:=by rw[Nat.pow_succ];exact Nat.mod_mul_left_mod _ _ _
  rw[e1,e2,ih]
theorem ZoI (a b n:Nat):(fx (a+b) n).take a=fx a (n/10^b):=by
 rw[ZjY];have:=List.take_left (l₁:=fx a (n/10^b)) (l₂:=fx b n);rw[Zcw] at this;exact this
theorem Zyo (a b n:Nat):(fx (a+b) n).drop a=fx b n:=by
 rw[ZjY];have:=List.drop_left (l₁:=fx a (n/10^b)) (l₂:=fx b n);rw[Zcw] at this;exact this
theorem Zyp (k:Nat):fx k 0=List.replicate k 48:=by
 induction k with
 | zero=>rfl
 | succ k ih=>
  unfold fx;rw[Nat.zero_div,ih,List.replicate_succ'];rfl
theorem Zvl (a b n:Nat):fx (a+b) (n*10^b)=fx a n++List.replicate b 48:=by
 rw[ZjY,Nat.mul_div_cancel _ (Nat.pow_pos (by omega)),← Zvk b,Nat.mul_mod_left,Zyp]
theorem ZjZ {d:Nat}(h:d<10):(lq8 (chD d)=48)=(d=0):=by
 rw[Ze8 h];apply propext;omega
theorem Zfw {k n:Nat}:trR (fx k n)=[]↔n % 10^k=0:=by
 induction k generalizing n with
 | zero=>simp [fx,Zi3,Nat.mod_one]
 | succ k ih=>
  unfold fx;rw[Zb2];have e:n % 10^(k+1)=n % 10+10*(n/10 % 10^k):=by rw[Nat.pow_succ,Nat.mul_comm,Nat.mod_mul]
  by_cases h:n % 10=0
  ·rw[if_pos (by rw[ZjZ (by omega)];exact h),ih,e,h];omega
  ·rw[if_neg (by rw[ZjZ (by omega)];exact h),e];constructor
   ·intro c;simp at c
   ·intro c;omega
def cmS:List UInt8→List UInt8→Int
 | [],[]=>0
 | [],_::_=> -1
 | _::_,[]=>1
 | a::l,b::r=>if lq8 a<lq8 b then -1 else if lq8 b<lq8 a then 1 else cmS l r
theorem Zyq {k r:Nat}(hr:r<10^k) (h0:r≠0):cmS (trR (fx k r)) [53]=(if 2*r<10^k then -1 else if 2*r=10^k then 0 else 1):=by
 cases k with
 | zero=>rw[Nat.pow_zero] at hr;omega
 | succ k=>
  have e1:fx (1+k) r=fx 1 (r/10^k)++fx k r:=ZjY 1 k r;rw[Nat.add_comm 1 k] at e1;have hp:0<10^k:=Nat.pow_pos (by omega);have hd:r/10^k<10:=by rw[Nat.div_lt_iff_lt_mul hp,Nat.mul_comm,← Nat.pow_succ];exact hr
  obtain⟨d,hd0⟩:∃ d,d=r/10^k:=⟨_,rfl⟩;obtain⟨s,hs⟩:∃ s,s=r % 10^k:=⟨_,rfl⟩;have hrs:r=d*10^k+s:=by rw[hd0,hs,Nat.mul_comm];exact (Nat.div_add_mod r (10^k)).symm
  have hs1:s<10^k:=by rw[hs];exact Nat.mod_lt _ hp
  rw[← hd0] at hd e1;have e2:fx 1 d=[chD d]:=by show []++[chD (d % 10)]=[chD d];rw[Nat.mod_eq_of_lt hd];rfl
  rw[e1,e2];have nl:trR (fx k r)=[]↔s=0:=by rw[Zfw,hs]
  have tr:∀ l:List UInt8,trR ([chD d]++l)=if trR l=[] then (if d=0 then [] else [chD d]) else chD d::trR l:=by
   intro l;refine ZjU (P:=fun l=>trR ([chD d]++l)=if trR l=[] then (if d=0 then [] else [chD d]) else chD d::trR l) ?_ ?_ l
   ·rw[Zi3,if_pos rfl,List.append_nil];have:=Zb2 [] (chD d);rw[List.nil_append] at this;rw[this,Zi3];have e:=ZjZ hd;by_cases h:d=0
    ·rw[if_pos h,if_pos (e.mpr h)]
    ·rw[if_neg h,if_neg (fun c=>h (e.mp c))]
   ·intro l c ih;rw[← List.append_assoc,Zb2,Zb2];by_cases hc:lq8 c=48
    ·rw[if_pos hc,if_pos hc,ih]
    ·rw[if_neg hc,if_neg hc,if_neg (by simp)];rfl
  rw[tr];have n53:lq8 53=53:=by decide
  have nd:=Ze8 hd;rw[Nat.pow_succ];obtain⟨P,hP⟩:∃ P,P=10^k:=⟨_,rfl⟩;rw[← hP] at hrs hs1 hp ⊢;have md:∀ c,d≤c→d*P≤c*P:=fun c h=>Nat.mul_le_mul_right _ h;have mu:∀ c,c≤d→c*P≤d*P:=fun c h=>Nat.mul_le_mul_right _ h;by_cases hz:trR (fx k r)=[]
  ·have hs0:=nl.1 hz;rw[if_pos hz,if_neg (fun c=>h0 (by rw[hrs,c,hs0];omega))];unfold cmS;rw[n53,nd];by_cases h1:d<5
   ·rw[if_pos (by omega),if_pos (by have:=md 4 (by omega);omega)]
   ·rw[if_neg (by omega)];by_cases h2:d=5
    ·rw[if_neg (by omega),if_neg (by rw[hrs,h2];omega),if_pos (by rw[hrs,h2];omega)];rfl
    ·have:=mu 6 (by omega);rw[if_pos (by omega),if_neg (by omega),if_neg (by omega)]
  ·have hs0:s≠0:=fun c=>hz (nl.2 c);rw[if_neg hz];unfold cmS;rw[n53,nd];by_cases h1:d<5
   ·rw[if_pos (by omega),if_pos (by have:=md 4 (by omega);omega)]
   ·rw[if_neg (by omega)];have:=mu 5 (by omega);rw[if_neg (show ¬ 2*r<P*10 by omega),if_neg (show ¬ 2*r=P*10 by omega)];by_cases h2:d=5
    ·rw[if_neg (by omega)];cases hl:trR (fx k r) with
     | nil=>exact absurd hl hz
     | cons a l=>rfl
    ·rw[if_pos (by omega)]
def trC (c:Int) (l:List UInt8):List UInt8:=(l.reverse.dropWhile fun x=>lq8 x==c).reverse
theorem Z3X (l:List UInt8):trC 48 l=trR l:=rfl
theorem Zgn (c:Int) (l:List UInt8) (x:UInt8):trC c (l++[x])=if lq8 x=c then trC c l else l++[x]:=by
 unfold trC;rw[List.reverse_append,List.reverse_singleton,List.singleton_append,List.dropWhile_cons];by_cases h:lq8 x=c
 ·rw[if_pos h,if_pos (by simpa using h)]
 ·rw[if_neg h,if_neg (by simpa using h)];simp
theorem Zgo (c:Int) (l:List UInt8):(trC c l).length≤l.length:=by
 unfold trC;rw[List.length_reverse];have:=(List.dropWhile_sublist (l:=l.reverse) fun x=>lq8 x==c).length_le;rw[List.length_reverse] at this;exact this
def Zb3 (l:List UInt8):List UInt8:=if trC 57 l=[] then 49::List.replicate (l.length-(trC 57 l).length) 48 else ((trC 57 l).take ((trC 57 l).length-1)++[UInt8.ofNat ((trC 57 l).getD ((trC 57 l).length-1) 0+1).toNat])++List.replicate (l.length-(trC 57 l).length) 48
theorem ZsS (l:List UInt8) (x:UInt8):Zb3 (l++[x])=if lq8 x=57 then Zb3 l++[48] else l++[UInt8.ofNat (x+1).toNat]:=by
 unfold Zb3;rw[Zgn];by_cases h:lq8 x=57
 ·have:=Zgo 57 l;rw[if_pos h,if_pos h,List.length_append,List.length_singleton,show l.length+1-(trC 57 l).length=l.length-(trC 57 l).length+1 by omega,List.replicate_succ'];split
  ·rfl
  ·simp only[List.append_assoc]
 ·rw[if_neg h,if_neg h,if_neg (by simp)];simp
theorem Zvm {d:Nat}(h:d<10):(lq8 (chD d)=57)=(d=9):=by
 rw[Ze8 h];apply propext;omega
theorem ZsT {d:Nat}(h:d<9):UInt8.ofNat (chD d+1).toNat=chD (d+1):=by
 have key:∀ x:Fin 9,UInt8.ofNat (chD x.1+1).toNat=chD (x.1+1):=by decide
 exact key ⟨d,h⟩
theorem Z3Y (k n:Nat) (h:n<10^k):Zb3 (fx k n)=if n+1=10^k then fx (k+1) (n+1) else fx k (n+1):=by
 induction k generalizing n with
 | zero=>
  have:n=0:=by simpa using h
  subst this;rfl
 | succ k ih=>
  have hp:0<10^k:=Nat.pow_pos (by omega);have e10:10^(k+1)=10*10^k:=by rw[Nat.pow_succ,Nat.mul_comm]
  have e1:fx (k+1) n=fx k (n/10)++[chD (n % 10)]:=rfl;have e2:fx (k+1) (n+1)=fx k ((n+1)/10)++[chD ((n+1) % 10)]:=rfl;have e3:fx (k+1+1) (n+1)=fx (k+1) ((n+1)/10)++[chD ((n+1) % 10)]:=rfl;rw[e1,ZsS,e2,e3];by_cases h9:n % 10=9
  ·rw[if_pos ((Zvm (by omega)).mpr h9),ih (n/10) (by omega),show (n+1)/10=n/10+1 by omega,show (n+1) % 10=0 by omega];by_cases hc:n+1=10^(k+1)
   ·rw[if_pos hc,if_pos (by omega)];rfl
   ·rw[if_neg hc,if_neg (by omega)];rfl
  ·rw[if_neg (fun c=>h9 ((Zvm (by omega)).mp c)),show (n+1)/10=n/10 by omega,show (n+1) % 10=n % 10+1 by omega,ZsT (by omega),if_neg (by omega)]
def Zqw (m:Int) (mn:Bool) (kept rest:List UInt8):Bool:=if trR rest=[] then false else if m=2 then false else if m=3 then !mn else if m=4 then mn else if m=1 then decide (0≤cmS (trR rest) [53]) else decide (0<cmS (trR rest) [53]) || (decide (cmS (trR rest) [53]=0) && decide ((lq8 (kept.getD (kept.length-1) 0)-48) % 2=1))
theorem Z3Z (m:Int) (mn:Bool) {n b W:Nat}(hn:1≤n):Zqw m mn (fx n (W/10^b)) (fx b W)=Zh0 m mn (W/10^b) (W % 10^b) (10^b):=by
 have hp:0<10^b:=Nat.pow_pos (by omega);have hr:=Nat.mod_lt W hp;obtain⟨r,hr0⟩:∃ r,r=W % 10^b:=⟨_,rfl⟩;obtain⟨q,hq⟩:∃ q,q=W/10^b:=⟨_,rfl⟩;have ef:fx b W=fx b r:=by rw[hr0,Zvk]
 have hz:trR (fx b r)=[]↔r=0:=by rw[Zfw,Nat.mod_eq_of_lt (by omega)]
 have el:(lq8 ((fx n q).getD ((fx n q).length-1) 0)-48) % 2=((q % 2:Nat):Int):=by
  obtain⟨k,hk⟩:∃ k,n=k+1:=⟨n-1,by omega⟩;subst hk;have e:fx (k+1) q=fx k (q/10)++[chD (q % 10)]:=rfl;rw[Zcw,e,show k+1-1=(fx k (q/10)).length by rw[Zcw];omega];have eg:(fx k (q/10)++[chD (q % 10)]).getD (fx k (q/10)).length 0=chD (q % 10):=by simp
  rw[eg,Ze8 (by omega)];omega
 rw[← hr0,← hq,ef];rw[← hr0] at hr;unfold Zqw Zh0;rw[el];by_cases h0:r=0
 ·rw[if_pos (hz.2 h0),h0];rw[Xb (show ¬ 10^b≤2*0 by omega),Xb (show ¬ 0<0 by omega),Xb (show ¬ 10^b<2*0 by omega),Xb (show ¬ 2*0=10^b by omega)];split
  ·rfl
  ·split
   ·rfl
   ·split
    ·rfl
    ·split<;>rfl
 ·rw[if_neg (fun c=>h0 (hz.1 c)),Zyq hr h0,Xa (show 0<r by omega)];by_cases m1:m=1
  ·subst m1;rw[if_neg (by decide),if_neg (by decide),if_neg (by decide),if_pos rfl,if_pos rfl];refine decide_eq_decide.2 ?_;split
   ·omega
   ·split<;>omega
  ·rw[if_neg m1,if_neg m1];by_cases m2:m=2
   ·rw[if_pos m2,if_pos m2]
   ·rw[if_neg m2,if_neg m2];by_cases m3:m=3
    ·rw[if_pos m3,if_pos m3];rfl
    ·rw[if_neg m3,if_neg m3];by_cases m4:m=4
     ·rw[if_pos m4,if_pos m4];rfl
     ·rw[if_neg m4,if_neg m4];have e3:decide (((q % 2:Nat):Int)=1)=decide (q % 2=1):=decide_eq_decide.2 (by omega);rw[e3];congr 1
      ·refine decide_eq_decide.2 ?_;split
       ·omega
       ·split<;>omega
      ·congr 1;refine decide_eq_decide.2 ?_;split
       ·omega
       ·split<;>omega
def wzN (E:Int):Nat:=(-E).toNat
def ZeN (S:Nat) (E:Int):Nat:=S*(5^wzN E*2^E.toNat)
theorem Zvn (S:Nat) (E j:Int):paN S E j*5^wzN E=ZeN S E*10^j.toNat:=by unfold paN ZeN;ac_rfl
theorem Zvo (E j:Int):pbN E j*5^wzN E=10^(wzN E+(-j).toNat):=by
 unfold pbN wzN;rw[Nat.pow_add,show (10:Nat)^(-E).toNat=2^(-E).toNat*5^(-E).toNat by rw[← Nat.mul_pow]]
 ac_rfl
theorem ZdV (k:Nat):0<5^k:=Nat.pow_pos (by omega)
theorem Z4a {S:Nat}(E:Int) (h:S≠0):ZeN S E≠0:=Zbd h (Zbd (fun c=>by have:=ZdV (wzN E);omega) (fun c=>by have:=Nat.pow_pos (n:=E.toNat) (show 0<2 by omega);omega))
theorem ZoJ {S L:Nat}{E:Int}(hL:1≤L) (h1:10^(L-1)≤ZeN S E) (h2:ZeN S E<10^L):Zar S E ((L:Int)-1-(wzN E:Nat)):=by
 obtain⟨f,hf⟩:∃ f:Int,f=(L:Int)-1-(wzN E:Nat):=⟨_,rfl⟩;rw[← hf];have h5:=ZdV (wzN E);have key:∀ (g:Int) (k:Nat),(k:Int)=wzN E+g→(pbN E (-g)≤paN S E (-g)↔10^k≤ZeN S E):=fun g k hk=>by
  rw[← Nat.mul_le_mul_right_iff h5,Zvn,Zvo];have e:10^(wzN E+(- -g).toNat)=10^k*10^(-g).toNat:=by rw[← Nat.pow_add];congr 1;omega
  rw[e,Nat.mul_le_mul_right_iff (Nat.pow_pos (by omega))]
 constructor
 ·exact (key f (L-1) (by omega)).2 h1
 ·rw[← Nat.not_le,key (f+1) L (by omega)];omega
theorem ZdW {a b c d:Nat}(hb:0<b) (hd:0<d) (h:a*d=c*b):a/b=c/d∧a % b*d=c % d*b:=by
 have e1:a/b=a*d/(b*d):=(Nat.mul_div_mul_right _ _ hd).symm;have e2:c/d=c*b/(d*b):=(Nat.mul_div_mul_right _ _ hb).symm;have e3:a % b*d=a*d % (b*d):=(Nat.mul_mod_mul_right _ _ _).symm;have e4:c % d*b=c*b % (d*b):=(Nat.mul_mod_mul_right _ _ _).symm;rw[e1,e2,e3,e4,h,Nat.mul_comm d b];exact⟨rfl,rfl⟩
theorem Zyr {m:Int}{mn:Bool}{q r b s d:Nat}(hb:0<b) (hd:0<d) (h:r*d=s*b):Zh0 m mn q r b=Zh0 m mn q s d:=by
 have k1:b≤2*r↔d≤2*s:=by
  rw[← Nat.mul_le_mul_right_iff hd,Nat.mul_assoc,h,← Nat.mul_assoc,Nat.mul_comm b d,Nat.mul_le_mul_right_iff hb]
 have k2:2*r≤b↔2*s≤d:=by
  rw[← Nat.mul_le_mul_right_iff hd,Nat.mul_assoc,h,← Nat.mul_assoc,Nat.mul_comm b d,Nat.mul_le_mul_right_iff hb]
 have k3:0<r↔0<s:=by
  constructor
  ·intro c;have:=Nat.mul_pos c hd;rw[h] at this;exact Nat.pos_of_mul_pos_right this
  ·intro c;have:=Nat.mul_pos c hb;rw[← h] at this;exact Nat.pos_of_mul_pos_right this
 unfold Zh0;rw[decide_eq_decide.2 k1,decide_eq_decide.2 k3,decide_eq_decide.2 (show b<2*r↔d<2*s by omega),decide_eq_decide.2 (show 2*r=b↔2*s=d by omega)]
theorem Zys (m:Int) (mn:Bool) (q:Nat) {b:Nat}(hb:0<b):Zh0 m mn q 0 b=false:=by
 unfold Zh0;rw[Xb (show ¬ b≤2*0 by omega),Xb (show ¬ 0<0 by omega),Xb (show ¬ b<2*0 by omega),Xb (show ¬ 2*0=b by omega)];split
 ·rfl
 ·split
  ·rfl
  ·split
   ·rfl
   ·split<;>rfl
def rnD (D:List UInt8) (e:Int) (n:Nat) (mn:Bool) (m:Int):List UInt8×Int:=
 if D.length≤n then (D++List.replicate (n-D.length) 48,e)
 else if Zqw m mn (D.take n) (D.drop n)=true then ((Zb3 (D.take n)).take n,e+((Zb3 (D.take n)).length:Nat)-n)
 else ((D.take n).take n,e+((D.take n).length:Nat)-n)
theorem Z4b {p:Int}(h:Fin14 p) {L n:Nat}(hn:1≤n) (m:Int) (hL:1≤L) (h1:10^(L-1)≤ZeN (sg p).toNat (xp p)) (h2:ZeN (sg p).toNat (xp p)<10^L):
  txL (decide (9223372036854775808≤p)) (rnD (ZaU L (ZeN (sg p).toNat (xp p))) ((L:Int)-1-(wzN (xp p):Nat)) n (decide (9223372036854775808≤p)) m).1 (rnD (ZaU L (ZeN (sg p).toNat (xp p))) ((L:Int)-1-(wzN (xp p):Nat)) n (decide (9223372036854775808≤p)) m).2=ZsR p n m:=by
 have ef:=Zhx (ZeC h).1 (ZoJ hL h1 h2);have q0:=ZoD (ZeC h).1 hn;obtain⟨mn,hmn⟩:∃ mn,mn=decide (9223372036854775808≤p):=⟨_,rfl⟩;unfold ZsR;rw[← hmn,← ef];obtain⟨f,hf⟩:∃ f,f=frP p:=⟨_,rfl⟩;rw[← hf] at ef q0 ⊢;obtain⟨S,hS⟩:∃ S,S=(sg p).toNat:=⟨_,rfl⟩;obtain⟨E,hE⟩:∃ E,E=xp p:=⟨_,rfl⟩;rw[← hS,← hE] at h1 h2 q0 ⊢;rw[← hE] at ef;obtain⟨W,hW⟩:∃ W,W=ZeN S E:=⟨_,rfl⟩;have h5:=ZdV (wzN E);have hb:=zJ E ((n:Int)-1-f);have pa:=Zvn S E ((n:Int)-1-f);have pb:=Zvo E ((n:Int)-1-f);rw[← hW] at h1 h2 pa ⊢;rw[← ZdE hL h1 h2];unfold rnD;rw[Zcw];by_cases hc:L≤n
 ·rw[if_pos hc];have eq:qD S E f n=W*10^(n-L)∧Zl6 S E f n=0:=by
   have:=ZdW (a:=paN S E ((n:Int)-1-f)) (b:=pbN E ((n:Int)-1-f)) (c:=W*10^(n-L)) (d:=1) hb (by omega) (by
    refine Nat.eq_of_mul_eq_mul_right h5 ?_;rw[Nat.mul_one,pa,Nat.mul_assoc,pb,Nat.mul_assoc,← Nat.pow_add];congr 2;omega)
   unfold qD Zl6;rw[Nat.div_one,Nat.mod_one,Nat.mul_one,Nat.zero_mul] at this;exact this
  rw[eq.1,eq.2,Zys _ _ _ hb,if_neg (by decide)];dsimp only;congr 1;have ep:=Zvl L (n-L) W;rw[show L+(n-L)=n by omega] at ep;rw[← ep];rw[eq.1] at q0;exact ZdE hn q0.1 q0.2
 ·rw[if_neg hc];obtain⟨b,hb0⟩:∃ b,L=n+b:=⟨L-n,by omega⟩;have hp:0<10^b:=Nat.pow_pos (by omega);have eq:qD S E f n=W/10^b∧Zl6 S E f n*10^b=W % 10^b*pbN E ((n:Int)-1-f):=ZdW hb hp (by
   refine Nat.eq_of_mul_eq_mul_right h5 ?_;have e1:paN S E ((n:Int)-1-f)*10^b*5^wzN E=W*10^((n:Int)-1-f).toNat*10^b:=by rw[← pa];ac_rfl
   rw[e1,Nat.mul_assoc W (pbN _ _),pb,Nat.mul_assoc,← Nat.pow_add];congr 2;omega)
  have eu:=Zyr (m:=m) (mn:=mn) (q:=qD S E f n) hb hp eq.2;rw[eu,eq.1];rw[eq.1] at q0;subst hb0;rw[ZoI,Zyo,Z3Z m mn hn];obtain⟨q,hq⟩:∃ q,q=W/10^b:=⟨_,rfl⟩;rw[← hq] at q0 ⊢;split
  ·dsimp only;rw[Z3Y n q q0.2];unfold hiX;by_cases hq1:q+1=10^n
   ·rw[if_pos hq1,if_pos hq1,Zcw];have ht:=ZoI n 1 (q+1);rw[ht,show f+((n+1:Nat):Int)-(n:Nat)=f+1 by omega];have e:(q+1)/10^1=10^(n-1):=by
     rw[hq1,Nat.pow_one];have:10^n=10^(n-1)*10:=by rw[← Nat.pow_succ];congr 1;omega
     omega
    rw[e,ZdE hn (Nat.le_refl _) (Nat.pow_lt_pow_right (by omega) (by omega))]
   ·rw[if_neg hq1,if_neg hq1,Zcw,show f+(n:Int)-(n:Nat)=f by omega,ZdE hn (by omega) (by omega)];have e:=Zhz (f:=n) (n:=q+1) (by omega) hn;rw[List.take_of_length_le (by omega)]
  ·dsimp only;rw[Zcw,show f+(n:Int)-(n:Nat)=f by omega,List.take_of_length_le (by rw[Zcw];omega),ZdE hn q0.1 q0.2]
end Go.Rd
