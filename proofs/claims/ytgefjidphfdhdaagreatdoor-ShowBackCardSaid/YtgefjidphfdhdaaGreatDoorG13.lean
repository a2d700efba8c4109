/-
  Shl, RdX, RpA, RpB, NumSh, NumSi, NumSj, NumSk, NumRh, NumSm, NumSn, NumSo
-/
import Derived.Shelf.LaysM
import Derived.Shelf.Strconv.Itoa3
import Derived.Shelf.Small.Strs
import Derived.Shelf.Strings.Repeat
import Derived.Test.YtgefjidphfdhdaaGreatDoorG11
namespace Go.Proofs.YtgefjidphfdhdaaGreatDoor
open Go.Proofs.Tryz
open Go.Shelf
def Zhy:Go.Shelf.Ren:=⟨fun | 106=>125 | 213=>168 | 265=>194 | n=>n,fun | 9=>9 | 3=>3 | n=>n,fun | n=>n⟩
theorem Zwd:Go.Proofs.Lays.n106 prog Zhy:={
 mixed:=by kernel_rfl
 f106:=func125.trans (congrArg some (by kernel_rfl))
 f213:=func168.trans (congrArg some (by kernel_rfl))
 f265:=func194.trans (congrArg some (by kernel_rfl))
 t3:=underlying3
 a3:=isAgg3
 z3:=sizeOf3
 v3:=zeroValue3
 t9:=underlying9
 a9:=isAgg9
 z9:=sizeOf9
 v9:=zeroValue9}
def Zgz:Go.Shelf.Ren:=⟨fun | 171=>46 | 243=>89 | 246=>142 | 283=>178 | 284=>179 | 285=>180 | 286=>181 | 129=>161 | 317=>200 | 318=>201 | 319=>202 | 320=>203 | 337=>211 | 338=>212 | n=>n,fun | 3=>3 | 9=>9 | 2=>2 | 4=>4 | 171=>239 | 0=>0 | 53=>22 | 37=>142 | 5=>5 | 173=>241 | 212=>255 | 51=>68 | 20=>20 | 213=>256 | 46=>42 | 232=>268 | 233=>269 | n=>n,fun | 17=>2 | 18=>5 | 19=>6 | n=>n⟩
theorem Zfq:Go.Proofs.LaysM.n171 prog Zgz:={
 mixed:=by kernel_rfl
 f129:=func161.trans (congrArg some (by kernel_rfl))
 f171:=func46.trans (congrArg some (by kernel_rfl))
 f243:=func89.trans (congrArg some (by kernel_rfl))
 f246:=func142.trans (congrArg some (by kernel_rfl))
 f283:=func178.trans (congrArg some (by kernel_rfl))
 f284:=func179.trans (congrArg some (by kernel_rfl))
 f285:=func180.trans (congrArg some (by kernel_rfl))
 f286:=func181.trans (congrArg some (by kernel_rfl))
 f317:=func200.trans (congrArg some (by kernel_rfl))
 f318:=func201.trans (congrArg some (by kernel_rfl))
 f319:=func202.trans (congrArg some (by kernel_rfl))
 f320:=func203.trans (congrArg some (by kernel_rfl))
 f337:=func211.trans (congrArg some (by kernel_rfl))
 f338:=func212.trans (congrArg some (by kernel_rfl))
 t0:=underlying0
 a0:=isAgg0
 z0:=sizeOf0
 v0:=zeroValue0
 t2:=underlying2
 a2:=isAgg2
 z2:=sizeOf2
 v2:=zeroValue2
 t3:=underlying3
 a3:=isAgg3
 z3:=sizeOf3
 v3:=zeroValue3
 t4:=underlying4
 a4:=isAgg4
 z4:=sizeOf4
 v4:=zeroValue4
 t5:=underlying5
 a5:=isAgg5
 z5:=sizeOf5
 v5:=zeroValue5
 t9:=underlying9
 a9:=isAgg9
 z9:=sizeOf9
 v9:=zeroValue9
 t20:=underlying20
 a20:=isAgg20
 z20:=sizeOf20
 v20:=zeroValue20
 t37:=underlying142
 a37:=isAgg142
 z37:=sizeOf142
 v37:=zeroValue142
 t46:=underlying42
 a46:=isAgg42
 z46:=sizeOf42
 v46:=zeroValue42
 t51:=underlying68
 a51:=isAgg68
 z51:=sizeOf68
 v51:=zeroValue68
 t53:=underlying22
 a53:=isAgg22
 z53:=sizeOf22
 v53:=zeroValue22
 t171:=underlying239
 a171:=isAgg239
 z171:=sizeOf239
 v171:=zeroValue239
 t173:=underlying241
 a173:=isAgg241
 z173:=sizeOf241
 v173:=zeroValue241
 t212:=underlying255
 a212:=isAgg255
 z212:=sizeOf255
 v212:=zeroValue255
 t213:=underlying256
 a213:=isAgg256
 z213:=sizeOf256
 t232:=underlying268
 a232:=isAgg268
 z232:=sizeOf268
 v232:=zeroValue268
 t233:=underlying269
 a233:=isAgg269
 z233:=sizeOf269
 v233:=zeroValue269
 g17:=by kernel_rfl
 g18:=by kernel_rfl
 g19:=by kernel_rfl
 i0:=by kernel_rfl
 i2:=by kernel_rfl
 i3:=by kernel_rfl
 i4:=by kernel_rfl
 i5:=by kernel_rfl
 i9:=by kernel_rfl
 i20:=by kernel_rfl
 i37:=by kernel_rfl
 i46:=by kernel_rfl
 i51:=by kernel_rfl
 i53:=by kernel_rfl
 i171:=by kernel_rfl
 i173:=by kernel_rfl
 i212:=by kernel_rfl
 i232:=by kernel_rfl
 i233:=by kernel_rfl
 m17:=by kernel_rfl
 m18:=by kernel_rfl
 m19:=by kernel_rfl}
def ZdL:Go.Shelf.Ren:=⟨fun | 105=>72 | 212=>119 | 99=>120 | 165=>121 | 166=>122 | 170=>123 | 169=>124 | 263=>163 | 264=>164 | 206=>165 | 240=>166 | 241=>167 | 276=>192 | 277=>193 | n=>n,fun | 9=>9 | 3=>3 | 4=>4 | 20=>20 | 0=>0 | 46=>42 | 109=>173 | 5=>5 | 72=>178 | 76=>180 | 51=>68 | 146=>231 | 53=>22 | 148=>104 | 70=>176 | 37=>142 | 75=>27 | 127=>234 | 164=>122 | 80=>183 | n=>n,fun | n=>n⟩
theorem Zwe:Go.Proofs.Lays.n105 prog ZdL:={
 mixed:=by kernel_rfl
 f99:=func120.trans (congrArg some (by kernel_rfl))
 f105:=func72.trans (congrArg some (by kernel_rfl))
 f165:=func121.trans (congrArg some (by kernel_rfl))
 f166:=func122.trans (congrArg some (by kernel_rfl))
 f169:=func124.trans (congrArg some (by kernel_rfl))
 f170:=func123.trans (congrArg some (by kernel_rfl))
 f206:=func165.trans (congrArg some (by kernel_rfl))
 f212:=func119.trans (congrArg some (by kernel_rfl))
 f240:=func166.trans (congrArg some (by kernel_rfl))
 f241:=func167.trans (congrArg some (by kernel_rfl))
 f263:=func163.trans (congrArg some (by kernel_rfl))
 f264:=func164.trans (congrArg some (by kernel_rfl))
 f276:=func192.trans (congrArg some (by kernel_rfl))
 f277:=func193.trans (congrArg some (by kernel_rfl))
 t0:=underlying0
 a0:=isAgg0
 z0:=sizeOf0
 v0:=zeroValue0
 t3:=underlying3
 a3:=isAgg3
 z3:=sizeOf3
 v3:=zeroValue3
 t4:=underlying4
 a4:=isAgg4
 z4:=sizeOf4
 v4:=zeroValue4
 t5:=underlying5
 a5:=isAgg5
 z5:=sizeOf5
 v5:=zeroValue5
 t9:=underlying9
 a9:=isAgg9
 z9:=sizeOf9
 v9:=zeroValue9
 t20:=underlying20
 a20:=isAgg20
 z20:=sizeOf20
 v20:=zeroValue20
 t37:=underlying142
 a37:=isAgg142
 z37:=sizeOf142
 v37:=zeroValue142
 t46:=underlying42
 a46:=isAgg42
 z46:=sizeOf42
 v46:=zeroValue42
 t51:=underlying68
 a51:=isAgg68
 z51:=sizeOf68
 v51:=zeroValue68
 t53:=underlying22
 a53:=isAgg22
 z53:=sizeOf22
 v53:=zeroValue22
 t70:=underlying176
 a70:=isAgg176
 z70:=sizeOf176
 v70:=zeroValue176
 t72:=underlying178
 a72:=isAgg178
 z72:=sizeOf178
 v72:=zeroValue178
 t75:=underlying27
 a75:=isAgg27
 z75:=sizeOf27
 v75:=zeroValue27
 t76:=underlying180
 a76:=isAgg180
 z76:=sizeOf180
 v76:=zeroValue180
 t109:=underlying173
 a109:=isAgg173
 z109:=sizeOf173
 v109:=zeroValue173
 t127:=underlying234
 a127:=isAgg234
 z127:=sizeOf234
 v127:=zeroValue234
 t146:=underlying231
 a146:=isAgg231
 z146:=sizeOf231
 v146:=zeroValue231
 t148:=underlying104
 a148:=isAgg104
 z148:=sizeOf104
 v148:=zeroValue104
 t164:=underlying122
 a164:=isAgg122
 z164:=sizeOf122
 v164:=zeroValue122}
theorem ZcA:Builder.Extra prog ZdL:={
 sizeBuilder:=by kernel_rfl
 liesBuilder:=by kernel_rfl
 t5:=underlying5
 a5:=isAgg5
 z5:=sizeOf5
 v5:=zeroValue5
 infoByte:=by kernel_rfl
 cellsByte:=by kernel_rfl
 sizeByte:=by kernel_rfl
 neB5:=by decide}
end Go.Proofs.YtgefjidphfdhdaaGreatDoor
namespace Go.Proofs.YtgefjidphfdhdaaGreatDoor
open Go.KRun Go.Rd
set_option maxRecDepth 100000
theorem Zbu:Zo []:=fun _ h=>by cases h
def bR (l:List UInt8):Value:= .string ⟨⟨l⟩⟩
def byR (l:List UInt8) (i:Int):Int:=(((l.getD i.toNat 0).toNat:Nat):Int)
def sK (F:Func):Nat→Code
 | 0=>Zw F
 | n+1=>ZV (sK F n)
def sP (F:Func) (k:Nat):Code:=ZA (sK F k)
def pO (k:Nat):Value:= .pointer (some ⟨k,0,none⟩)
theorem ZsN (l l':List UInt8):((⟨⟨l⟩⟩:ByteArray)==⟨⟨l'⟩⟩)=decide (l=l'):=by
 rw[beq_toListBytes,ByteArray.toList_eq,ByteArray.toList_eq];show (l==l')=decide (l=l');by_cases h:l=l'
 ·rw[Xa h];simpa using h
 ·rw[Xb h];simpa using h
theorem zH {x y:Int}(h:x=y):(x==y)=true:=by simpa using h
theorem zO {x y:Int}(h:x≠y):(x==y)=false:=by simpa using h
end Go.Proofs.YtgefjidphfdhdaaGreatDoor
namespace Go.Proofs.YtgefjidphfdhdaaGreatDoor
open Go.Proofs.Tryz
open Go.IntKind
open Go.KRun Go.Rd
set_option maxRecDepth 100000
theorem dv1 (c:Int):Zs (Zf (Ze prog Zi Zn true) 100 145 [.int .u8 c] [cmp true,cmp true]) (.int .i64 (i64.wrap (u8.wrap (c-48)))) [(decide (c≤57),true),(decide (c≥48),true)]:=by and_intros<;>kernel_rfl
theorem dv2 (c:Int):Zs (Zf (Ze prog Zi Zn true) 100 145 [.int .u8 c] [cmp true,cmp false,cmp true,cmp true]) (.int .i64 (i64.wrap (i64.wrap (u8.wrap (c-97))+10))) [(decide (c≤102),true),(decide (c≥97),true),(decide (c≤57),false),(decide (c≥48),true)]:=by and_intros<;>kernel_rfl
theorem dv3 (c:Int):Zs (Zf (Ze prog Zi Zn true) 100 145 [.int .u8 c] [cmp true,cmp false,cmp true,cmp false]) (.int .i64 16) [(decide (c≤102),false),(decide (c≥97),true),(decide (c≤57),false),(decide (c≥48),true)]:=by and_intros<;>kernel_rfl
theorem dv4 (c:Int):Zs (Zf (Ze prog Zi Zn true) 100 145 [.int .u8 c] [cmp true,cmp false,cmp false]) (.int .i64 16) [(decide (c≥97),false),(decide (c≤57),false),(decide (c≥48),true)]:=by and_intros<;>kernel_rfl
theorem dv5 (c:Int):Zs (Zf (Ze prog Zi Zn true) 100 145 [.int .u8 c] [cmp false,cmp false]) (.int .i64 16) [(decide (c≥97),false),(decide (c≥48),false)]:=by and_intros<;>kernel_rfl
def Z0R:Ans:=fun vals s=>
 match vals with
 | [.int .u8 c]=>some (.int .i64 (dvB c),s,[(decide (0≤c∧c<256),true)])
 | _=>none
theorem ZiJ {x:Int}(h0:0≤x) (h1:x<256):u8.wrap x=x:=by
 simp [IntKind.wrap,IntKind.bits,IntKind.signed];omega
theorem Zfr {x:Int}(h0: -9223372036854775808≤x) (h1:x<9223372036854775808):i64.wrap x=x:=by
 simp [IntKind.wrap,IntKind.bits,IntKind.signed];omega
theorem Zhz:ZC 145 Z0R:=by
 intro vals s v s' lg h hl w;unfold Z0R at h;split at h
 ·rename_i c;cases h;have q:=Xc (hl _ Xf);have hT:=Zd Zh;by_cases h1:c≥48
  ·by_cases h2:c≤57
   ·have e:dvB c=i64.wrap (u8.wrap (c-48)):=by
     rw[ZiJ (by omega) (by omega),Zfr (by omega) (by omega)];unfold dvB;rw[if_pos ⟨h1,h2⟩]
    rw[e];exact Zb hT (dv1 c) (Za (Xa h2) (Zy (Xa h1))) (by rfl) (by rfl) w
   ·by_cases h3:c≥97
    ·by_cases h4:c≤102
     ·have e:dvB c=i64.wrap (i64.wrap (u8.wrap (c-97))+10):=by
       rw[ZiJ (by omega) (by omega),Zfr (x:=c-97) (by omega) (by omega),Zfr (by omega) (by omega)];unfold dvB;rw[if_neg (by omega),if_pos ⟨h3,h4⟩];omega
      rw[e];exact Zb hT (dv2 c) (Za (Xa h4) (Za (Xa h3) (Za (Xb h2) (Zy (Xa h1))))) (by rfl) (by rfl) w
     ·have e:dvB c=16:=by unfold dvB;rw[if_neg (by omega),if_neg (by omega)]
      rw[e];exact Zb hT (dv3 c) (Za (Xb h4) (Za (Xa h3) (Za (Xb h2) (Zy (Xa h1))))) (by rfl) (by rfl) w
    ·have e:dvB c=16:=by unfold dvB;rw[if_neg (by omega),if_neg (by omega)]
     rw[e];exact Zb hT (dv4 c) (Za (Xb h3) (Za (Xb h2) (Zy (Xa h1)))) (by rfl) (by rfl) w
  ·have e:dvB c=16:=by unfold dvB;rw[if_neg (by omega),if_neg (by omega)]
   rw[e];exact Zb hT (dv5 c) (Za (Xb (by omega)) (Zy (Xb h1))) (by rfl) (by rfl) w
 ·cases h
def lPd (p l:List UInt8):Bool×Bool:=(decide ((0:Int)≤(p.length:Nat)∧((p.length:Nat):Int)≤(l.length:Nat)),true)
def lGe (p l:List UInt8) (d:Bool):Bool×Bool:=(decide (((l.length:Nat):Int)≥((p.length:Nat):Int)),d)
def Zaa (u w:List UInt8) (d:Bool):Bool×Bool:=((⟨⟨u⟩⟩:ByteArray)==⟨⟨w⟩⟩,d)
theorem Z9 {u w:List UInt8}{d:Bool}(h:decide (u=w)=d):(Zaa u w d).1=(Zaa u w d).2:=by
 show ((⟨⟨u⟩⟩:ByteArray)==⟨⟨w⟩⟩)=d;rw[ZsN];exact h
theorem cp1 (l p:List UInt8):Zs (Zf (Ze prog Zi Zn true) 100 90 [bR l,bR p] [cmp true,sam true,sam true,sam true]) (.tuple #[bR (l.drop p.length),.bool true]) [lPd p l,Zaa (l.take p.length) p true,lPd p l,lGe p l true]:=by and_intros<;>kernel_rfl
theorem cp2 (l p:List UInt8):Zs (Zf (Ze prog Zi Zn true) 100 90 [bR l,bR p] [cmp true,sam true,sam false]) (.tuple #[bR l,.bool false]) [Zaa (l.take p.length) p false,lPd p l,lGe p l true]:=by and_intros<;>kernel_rfl
theorem cp3 (l p:List UInt8):Zs (Zf (Ze prog Zi Zn true) 100 90 [bR l,bR p] [cmp false]) (.tuple #[bR l,.bool false]) [lGe p l false]:=by and_intros<;>kernel_rfl
theorem tp1 (l p:List UInt8):Zs (Zf (Ze prog Zi Zn true) 100 91 [bR l,bR p] [cmp true,sam true,sam true,sam true]) (bR (l.drop p.length)) [lPd p l,Zaa (l.take p.length) p true,lPd p l,lGe p l true]:=by and_intros<;>kernel_rfl
theorem tp2 (l p:List UInt8):Zs (Zf (Ze prog Zi Zn true) 100 91 [bR l,bR p] [cmp true,sam true,sam false]) (bR l) [Zaa (l.take p.length) p false,lPd p l,lGe p l true]:=by and_intros<;>kernel_rfl
theorem tp3 (l p:List UInt8):Zs (Zf (Ze prog Zi Zn true) 100 91 [bR l,bR p] [cmp false]) (bR l) [lGe p l false]:=by and_intros<;>kernel_rfl
theorem ZiK {p l:List UInt8}(h:zW p l=true):Zo [lPd p l,Zaa (l.take p.length) p true,lPd p l,lGe p l true]:=by
 have q:=Xc h;have h1:(lPd p l).1=true:=Xa ⟨by omega,by omega⟩;exact Za h1 (Za (Z9 (Xa q.2)) (Za h1 (Zy (Xa (by omega)))))
theorem ZiL {p l:List UInt8}(h1:p.length≤l.length) (h2:¬ l.take p.length=p):Zo [Zaa (l.take p.length) p false,lPd p l,lGe p l true]:=
 Za (Z9 (Xb h2)) (Za (Xa ⟨by omega,by omega⟩) (Zy (Xa (by omega))))
theorem ZmR {p l:List UInt8}(h:zW p l=false):¬ p.length≤l.length∨(p.length≤l.length∧¬ l.take p.length=p):=by
 have q:=of_decide_eq_false h;rcases Classical.em (p.length≤l.length) with h1 | h1
 ·exact .inr ⟨h1,fun h2=>q ⟨h1,h2⟩⟩
 ·exact .inl h1
def Zq9:Ans:=fun vals s=>
 match vals,s with
 | [.string a,.string b],.inr (.inr (.inr (.inl true)))::s'=>some (.tuple #[bR (a.data.toList.drop b.data.toList.length),.bool true],s',[(zW b.data.toList a.data.toList,true)])
 | [.string a,.string b],.inr (.inr (.inr (.inl false)))::s'=>some (.tuple #[bR a.data.toList,.bool false],s',[(zW b.data.toList a.data.toList,false)])
 | _,_=>none
theorem ZiM:ZC 90 Zq9:=by
 intro vals s v s' lg h hl w;have hT:=Zd Zh;unfold Zq9 at h;split at h
 ·rename_i a b s2;cases h;have q:zW b.data.toList a.data.toList=true:=hl _ Xf;exact Zb hT (cp1 a.data.toList b.data.toList) (ZiK q) (by rfl) (by rfl) w
 ·rename_i a b s2;cases h;have q:zW b.data.toList a.data.toList=false:=hl _ Xf;rcases ZmR q with h1 | ⟨h1,h2⟩
  ·exact Zb hT (cp3 a.data.toList b.data.toList) (Zy (Xb (by omega))) (by rfl) (by rfl) w
  ·exact Zb hT (cp2 a.data.toList b.data.toList) (ZiL h1 h2) (by rfl) (by rfl) w
 ·cases h
def Zwf:Ans:=fun vals s=>
 match vals,s with
 | [.string a,.string b],.inr (.inr (.inr (.inl true)))::s'=>some (bR (a.data.toList.drop b.data.toList.length),s',[(zW b.data.toList a.data.toList,true)])
 | [.string a,.string b],.inr (.inr (.inr (.inl false)))::s'=>some (bR a.data.toList,s',[(zW b.data.toList a.data.toList,false)])
 | _,_=>none
theorem ZqA:ZC 91 Zwf:=by
 intro vals s v s' lg h hl w;have hT:=Zd Zh;unfold Zwf at h;split at h
 ·rename_i a b s2;cases h;have q:zW b.data.toList a.data.toList=true:=hl _ Xf;exact Zb hT (tp1 a.data.toList b.data.toList) (ZiK q) (by rfl) (by rfl) w
 ·rename_i a b s2;cases h;have q:zW b.data.toList a.data.toList=false:=hl _ Xf;rcases ZmR q with h1 | ⟨h1,h2⟩
  ·exact Zb hT (tp3 a.data.toList b.data.toList) (Zy (Xb (by omega))) (by rfl) (by rfl) w
  ·exact Zb hT (tp2 a.data.toList b.data.toList) (ZiL h1 h2) (by rfl) (by rfl) w
 ·cases h
def ZqB:Con:=alt 90 Zq9 (alt 91 Zwf Zn)
theorem ZqC:ConOk ZqB:=Zr func90 rfl ZiM (Zr func91 rfl ZqA Zh)
theorem ts1 (l:List UInt8):Zs (Zf (Ze prog Zi ZqB true) 100 50 [bR l] [cmp true]) (.tuple #[.bool true,bR (l.drop 1)]) [(zW [45] l,true)]:=by and_intros<;>kernel_rfl
theorem ts2 (l:List UInt8):Zs (Zf (Ze prog Zi ZqB true) 100 50 [bR l] [cmp false,cmp true]) (.tuple #[.bool false,bR (l.drop 1)]) [(zW [43] l,true),(zW [45] l,false)]:=by and_intros<;>kernel_rfl
theorem ts3 (l:List UInt8):Zs (Zf (Ze prog Zi ZqB true) 100 50 [bR l] [cmp false,cmp false]) (.tuple #[.bool false,bR l]) [(zW [43] l,false),(zW [45] l,false)]:=by and_intros<;>kernel_rfl
def Z3g:Ans:=fun vals s=>
 match vals,s with
 | [.string a],.inr (.inr (.inr (.inl d)))::s'=>some (.tuple #[.bool d,bR (sgT a.data.toList).2],s',[((sgT a.data.toList).1,d)])
 | _,_=>none
theorem ZmS:ZC 50 Z3g:=by
 intro vals s v s' lg h hl w;have hT:=Zd ZqC;unfold Z3g at h;split at h
 ·rename_i a d s2;cases h;have q:(sgT a.data.toList).1=d:=hl _ Xf;rw[← q,ZmN];cases h1:zW [45] a.data.toList with
  | true=>
   rw[if_pos rfl];exact Zb hT (ts1 a.data.toList) (Zy h1) (by rfl) (by rfl) w
  | false=>
   rw[if_neg (by decide)];cases h2:zW [43] a.data.toList with
   | true=>
    rw[if_pos rfl];exact Zb hT (ts2 a.data.toList) (Za h2 (Zy h1)) (by rfl) (by rfl) w
   | false=>
    rw[if_neg (by decide)];exact Zb hT (ts3 a.data.toList) (Za h2 (Zy h1)) (by rfl) (by rfl) w
 ·cases h
def Z6T:List Value→Option (Value×Log)
 | [.string b,.int .u8 c]=>some (.int .i64 (Lib.indexByte b.data.toList c.toNat.toUInt8),[])
 | _=>none
def Z0S:Nat→List Value→Option (Value×Log):=fun f vals=>if f=217 then Z6T vals else none
theorem Zwg (f:Nat) (vals:List Value) (v:Value) (lg:Log) (h:Z0S f vals=some (v,lg)) (_:Zo lg) (w:World):(callFunc f vals.toArray).run prog w= .ok (.value v) w:=by
 unfold Z0S at h;split at h
 ·rename_i hf;subst hf;unfold Z6T at h;split at h
  ·rename_i b c;cases h;rw[run_callFunc_extern (e:=Extern.BytealgIndexByte.indexByte) func217 (by kernel_rfl) (by kernel_rfl) (by kernel_rfl) (by kernel_rfl),Lib.run_indexByteString];rfl
  ·cases h
 ·cases h
theorem ZmT {con:Con}(h:ConOk con):TabOk (Ze prog Z0S con true) where
 mixed:=mixed
 ext:=Zwg
 con:=fun f vals s v s' lg hc hl=>⟨by obtain⟨F,h1,h2⟩:=h.fn f vals s v s' lg hc;exact⟨F,(Zbh f F h1).1,(Zbh f F h1).2,h2⟩,h.calls f vals s v s' lg hc hl⟩
 fn:=Zbh
 hc:=fun _ _ _ _ _ _ _ _ h=>by cases h
theorem ix1 (l:List UInt8):Zs (Zf (Ze prog Z0S Zn true) 100 204 [bR l,bR [46]] [sam true]) (.int .i64 0) [Zaa [46] l true]:=by and_intros<;>kernel_rfl
theorem ix2 (l:List UInt8):Zs (Zf (Ze prog Z0S Zn true) 100 204 [bR l,bR [46]] [sam false]) (.int .i64 (Lib.indexByte l 46)) [(true,true),Zaa [46] l false]:=by and_intros<;>kernel_rfl
def Z4F:Ans:=fun vals s=>
 match vals with
 | [.string b,.string ⟨⟨[c]⟩⟩]=>some (.int .i64 (Lib.indexByte b.data.toList 46),s,[(decide (c=46),true)])
 | _=>none
theorem Zwh:ZC 204 Z4F:=by
 intro vals s v s' lg h hl w;unfold Z4F at h;split at h
 ·rename_i b c;cases h;have hc:=Xc (hl _ Xf);subst hc;by_cases h1:[46]=b.data.toList
  ·have e:Lib.indexByte b.data.toList 46=0:=by rw[← h1];rfl
   rw[e];exact Zb (ZmT Zh) (ix1 b.data.toList) (Zy (Z9 (Xa h1))) (by rfl) (by rfl) w
  ·exact Zb (ZmT Zh) (ix2 b.data.toList) (Za rfl (Zy (Z9 (Xb h1)))) (by rfl) (by rfl) w
 ·cases h
def ZjJ:Con:=alt 204 Z4F Zn
theorem Zdf:ConOk ZjJ:=Zr func204 rfl Zwh Zh
theorem Z7w (l:List UInt8):Zs (Zf (Ze prog Zi ZjJ true) 100 146 [bR l,bR [46]] [cmp true,sam true,sam true]) (.tuple #[bR (l.take (Lib.indexByte l 46).toNat),bR (l.drop (i64.wrap (Lib.indexByte l 46+1)).toNat),.bool true]) [(decide (0≤i64.wrap (Lib.indexByte l 46+1)∧i64.wrap (Lib.indexByte l 46+1)≤(l.length:Nat)),true),(decide (0≤Lib.indexByte l 46∧Lib.indexByte l 46≤(l.length:Nat)),true),(decide (Lib.indexByte l 46≥0),true),(true,true)]:=by and_intros<;>kernel_rfl
theorem Z7x (l:List UInt8):Zs (Zf (Ze prog Zi ZjJ true) 100 146 [bR l,bR [46]] [cmp false]) (.tuple #[bR l,bR [],.bool false]) [(decide (Lib.indexByte l 46≥0),false),(true,true)]:=by and_intros<;>kernel_rfl
theorem Z0T (l:List UInt8):Lib.indexByte l 46<(l.length:Nat):=by
 induction l with
 | nil=>decide
 | cons c l ih=>
  unfold Lib.indexByte;rw[List.length_cons];split
  ·omega
  ·split<;>omega
def Z4G:Ans:=fun vals s=>
 match vals,s with
 | [.string b,.string ⟨⟨[c]⟩⟩],.inr (.inr (.inr (.inl d)))::s'=>some (.tuple #[bR (ctA b.data.toList),bR (ctB b.data.toList),.bool d],s',[(decide (0≤Lib.indexByte b.data.toList 46),d),(decide (c=46),true),(decide (b.data.toList.length≤100000),true)])
 | _,_=>none
theorem Zwi:ZC 146 Z4G:=by
 intro vals s v s' lg h hl w;unfold Z4G at h;split at h
 ·rename_i b c d s2;cases h;have h1:=hl _ Xe;have hc:=Xc (hl _ (Xd _ Xe));have h3:=Xc (hl _ (Xd _ (Xd _ Xf)));have hb:=Z0T b.data.toList;dsimp only at h1;subst hc;unfold ctA ctB;cases d with
  | true=>
   have q:=Xc h1;have e:i64.wrap (Lib.indexByte b.data.toList 46+1)=Lib.indexByte b.data.toList 46+1:=Zfr (by omega) (by omega);have e2:(Lib.indexByte b.data.toList 46+1).toNat=(Lib.indexByte b.data.toList 46).toNat+1:=by omega
   have f:=Z7w b.data.toList;rw[e,e2] at f;rw[if_pos q,if_pos q];exact Zb (Zd Zdf) f (Za (Xa ⟨by omega,by omega⟩) (Za (Xa ⟨by omega,by omega⟩) (Za (Xa q) (Zy rfl)))) (by rfl) (by rfl) w
  | false=>
   have q:=of_decide_eq_false h1;rw[if_neg q,if_neg q];exact Zb (Zd Zdf) (Z7x b.data.toList) (Za (Xb q) (Zy rfl)) (by rfl) (by rfl) w
 ·cases h
end Go.Proofs.YtgefjidphfdhdaaGreatDoor
namespace Go.Proofs.YtgefjidphfdhdaaGreatDoor
open Go.Proofs.Tryz
open Go.IntKind
open Go.KRun Go.Nt Go.Rd
set_option maxRecDepth 100000
def trP (F:Func):Code:=ZA (Zw F)
def Zyn (F:Func):Code:=cIn (cIn (ZA (ZV (Zw F))))
def trE (F:Func):Code:=ZV (ZV (Zw F))
theorem ZmU:f85.body=some (Zaj [trP f85] (.seq (.block 0 (.loop (Zyn f85))) (trE f85))):=by kernel_rfl
def trF (l:List UInt8) (c:Int):List Value:=[bR l,.int .u8 c,undef,undef,bR []]
def lm1 (l:List UInt8):Int:=i64.wrap (((l.length:Nat):Int)-1)
theorem ZsO (l:List UInt8) (c:Int):Zk (evL (Ze prog Zi Zn true) 100 [trP f85] ([bR l,.int .u8 c]++List.replicate 21 undef,⟨0,[]⟩,[]) ⟨[],[],[]⟩) 5 18 none (trF l c) ⟨0,[]⟩ []:=by and_intros<;>kernel_rfl
theorem Z0U (l:List UInt8) (c:Int) (g:Nat→Value):Zk (evC (Ze prog Zi Zn true) 100 false (Zyn f85) (trF l c++tl 18 g,⟨0,[]⟩,[cmp true,cmp true,sam true]) ⟨[],[],[]⟩) 5 18 none (trF (l.take (lm1 l).toNat) c) ⟨0,[]⟩ [(decide (0≤lm1 l∧lm1 l≤(l.length:Nat)),true),(byR l (lm1 l)==c,true),(decide (0≤lm1 l∧(lm1 l).toNat<l.length),true),(decide (((l.length:Nat):Int)>0),true)]:=by and_intros<;>kernel_rfl
theorem ZsP (l:List UInt8) (c:Int) (g:Nat→Value):Zk (evC (Ze prog Zi Zn true) 100 false (Zyn f85) (trF l c++tl 18 g,⟨0,[]⟩,[cmp true,cmp false]) ⟨[],[],[]⟩) 5 18 (some (some 0)) (trF l c) ⟨0,[]⟩ [(byR l (lm1 l)==c,false),(decide (0≤lm1 l∧(lm1 l).toNat<l.length),true),(decide (((l.length:Nat):Int)>0),true)]:=by and_intros<;>kernel_rfl
theorem ZsQ (l:List UInt8) (c:Int) (g:Nat→Value):Zk (evC (Ze prog Zi Zn true) 100 false (Zyn f85) (trF l c++tl 18 g,⟨0,[]⟩,[cmp false]) ⟨[],[],[]⟩) 5 18 (some (some 0)) (trF l c) ⟨0,[]⟩ [(decide (((l.length:Nat):Int)>0),false)]:=by and_intros<;>kernel_rfl
theorem ZsR (l:List UInt8) (c:Int) (g:Nat→Value):Zk (evC (Ze prog Zi Zn true) 100 false (trE f85) (trF l c++tl 18 g,⟨0,[]⟩,[]) ⟨[],[],[]⟩) 5 18 (some none) [bR l,.int .u8 c,undef,undef,bR l] ⟨0,[]⟩ []:=by and_intros<;>kernel_rfl
theorem Zwj (L:List UInt8) (n:Nat) (x:Lf) (h:∃ (l:List UInt8) (g:Nat→Value),x.1=trF l 48++tl 18 g∧x.2.1=⟨0,[]⟩∧trR l=trR L∧l.length≤100000∧n=l.length):Runs (Ze prog Zi Zn true) (Zyn f85) x fun e y=>match e with | none=>∃ n',n'<n∧∃ (l:List UInt8) (g:Nat→Value),y.1=trF l 48++tl 18 g∧y.2.1=⟨0,[]⟩∧trR l=trR L∧l.length≤100000∧n'=l.length | some none=>False | some (some id')=>id'=0∧∃ g:Nat→Value,y.1=trF (trR L) 48++tl 18 g∧y.2.1=⟨0,[]⟩:=by
 obtain⟨l,g,e1,e2,h1,h3,h2⟩:=h;obtain⟨t,hh,s⟩:=x;have e1:t=_:=e1;have e2:hh=_:=e2;subst e1 e2;have T:=Zd Zh;by_cases hn:l=[]
 ·subst hn;refine (Zc T (ZsQ [] 48 g) (Zy (by decide))).mono fun e z he=> ?_;obtain⟨rfl,⟨g',z1⟩,z2⟩:=he;have:trR L=[]:=h1.symm;rw[this];exact⟨rfl,g',z1,z2⟩
 ·obtain⟨l',x,hl⟩:∃ l' x,l=l'++[x]:=⟨l.dropLast,l.getLast hn,(List.dropLast_concat_getLast hn).symm⟩;have hlen:l.length=l'.length+1:=by rw[hl,List.length_append];rfl
  have em:lm1 l=(l'.length:Nat):=by unfold lm1;rw[Zv (by omega) (by omega)];omega
  have eb:byR l (lm1 l)=lq8 x:=by
   unfold byR lq8;rw[em,Xg,hl];simp [List.getD]
  have et:l.take (lm1 l).toNat=l':=by
   rw[em,Xg,hl];exact List.take_left' rfl
  have k1:decide (0≤lm1 l∧(lm1 l).toNat<l.length)=true:=Xa (by omega);have k2:decide (((l.length:Nat):Int)>0)=true:=Xa (by omega);by_cases hx:lq8 x=48
  ·have hg:=Z0U l 48 g;rw[et] at hg;refine (Zc T hg (Za (Xa (by omega)) (Za (by rw[eb];simpa using hx) (Za k1 (Zy k2))))).mono fun e z he=> ?_;obtain⟨rfl,⟨g',z1⟩,z2⟩:=he;refine⟨l'.length,by omega,l',g',z1,z2,?_,by omega,rfl⟩;rw[← h1,hl,z6,if_pos hx]
  ·refine (Zc T (ZsP l 48 g) (Za (by rw[eb];simpa using hx) (Za k1 (Zy k2)))).mono fun e z he=> ?_;obtain⟨rfl,⟨g',z1⟩,z2⟩:=he;have:trR L=l:=by rw[← h1,hl,z6,if_neg hx]
   rw[this];exact⟨rfl,g',z1,z2⟩
theorem ZmV (l:List UInt8) (hl:l.length≤100000) (w:World):Calls prog 85 #[bR l,.int .u8 48] w fun r w'=>r= .returned (bR (trR l))∧zi w w':=by
 have hT:=Zd Zh;refine ZZ (T:=Ze prog Zi Zn true) func85 ZmU (by rfl) (by rfl) ?_ w;refine Zz hT (ZsO l 48) Zbu fun g=> ?_;refine Runs.seq (P1:=fun e y=>e=none∧∃ g:Nat→Value,y.1=trF (trR l) 48++tl 18 g∧y.2.1=⟨0,[]⟩) ?_ ?_ (fun e y he=>by cases he.1)
 ·refine (Runs.forLoop (R:=fun _=>False) (P:=fun y=>∃ g:Nat→Value,y.1=trF (trR l) 48++tl 18 g∧y.2.1=⟨0,[]⟩) (fun n x=>∃ (l':List UInt8) (g:Nat→Value),x.1=trF l' 48++tl 18 g∧x.2.1=⟨0,[]⟩∧trR l'=trR l∧l'.length≤100000∧n=l'.length) (Zwj l) (n:=l.length) ⟨l,g,rfl,rfl,rfl,hl,rfl⟩).mono fun e z hz=> ?_
  match e,hz with
  | none,hz=>exact⟨rfl,hz⟩
 ·intro y he;obtain⟨_,g',e1,e2⟩:=he;obtain⟨t,hh,s⟩:=y;have e1:t=_:=e1;have e2:hh=_:=e2;subst e1 e2;refine (Zc hT (ZsR (trR l) 48 g') Zbu).mono fun e z hz=> ?_;obtain⟨rfl,⟨g2,z1⟩,z2⟩:=hz;exact⟨.inr rfl,by rw[z1,z2];rfl⟩
def Z4H:Ans:=fun vals s=>
 match vals with
 | [.string b,.int .u8 c]=>some (bR (trR b.data.toList),s,[(decide (c=48),true),(decide (b.data.toList.length≤100000),true)])
 | _=>none
theorem Zwk:ZC 85 Z4H:=by
 intro vals s v s' lg h hl w;unfold Z4H at h;split at h
 ·rename_i b c;cases h;have hc:=Xc (hl _ Xe);have h2:=Xc (hl _ (Xd _ Xf));subst hc;exact ZmV _ h2 w
 ·cases h
def Zwl:Con:=alt 85 Z4H Zn
theorem ZiN:ConOk Zwl:=Zr func85 rfl Zwk Zh
theorem Z7y (l:List UInt8):Zs (Zf (Ze prog Zi Zwl true) 100 42 [bR l,bR [48]] [sam true]) (bR l) [Zaa l [] true]:=by and_intros<;>kernel_rfl
theorem Z7z (l:List UInt8):Zs (Zf (Ze prog Zi Zwl true) 100 42 [bR l,bR [48]] [sam false]) (bR (trR l)) [(true,true),(decide (l.length≤100000),true),(true,true),(true,true),Zaa l [] false]:=by and_intros<;>kernel_rfl
def Z4I:Ans:=fun vals s=>
 match vals with
 | [.string b,.string ⟨⟨[c]⟩⟩]=>some (bR (trR b.data.toList),s,[(decide (c=48),true),(decide (b.data.toList.length≤100000),true)])
 | _=>none
theorem Zwm:ZC 42 Z4I:=by
 intro vals s v s' lg h hl w;unfold Z4I at h;split at h
 ·rename_i b c;cases h;have hc:=Xc (hl _ Xe);have h2:=hl _ (Xd _ Xf);subst hc;by_cases hn:b.data.toList=[]
  ·have:=Zb (Zd ZiN) (Z7y b.data.toList) (Zy (Z9 (Xa hn))) (by rfl) (by rfl) w;have hb:b=⟨⟨[]⟩⟩:=by
    apply ByteArray.ext;apply Array.ext';exact hn
   rw[hn] at this ⊢;rw[hb];exact this
  ·exact Zb (Zd ZiN) (Z7z b.data.toList) (Za rfl (Za h2 (Za rfl (Za rfl (Zy (Z9 (Xb hn))))))) (by rfl) (by rfl) w
 ·cases h
def Zeb:Con:=alt 50 Z3g (alt 145 Z0R Zn)
theorem ZiO:ConOk Zeb:=Zr func50 rfl ZmS (Zr func145 rfl Zhz Zh)
def wnI (F:Func):Code:=ZA (sP F 3)
def wnL (F:Func):Code:=cIn (cIn (ZV (sP F 3)))
theorem Zwn:f94.body=some (Zaj [sP f94 0,sP f94 1,sP f94 2] (.seq (.seq (wnI f94) (.block 0 (.loop (wnL f94)))) (sK f94 4))):=by kernel_rfl
def wnT (s:List UInt8) (mn:Bool) (D:List UInt8):List Value:=[.tuple #[.bool mn,bR D],bR s,.tuple #[.bool mn,bR D],.bool mn,bR D]
def wnF (s:List UInt8) (mn:Bool) (D:List UInt8) (n:Int) (v7 v8:Value) (i:Int):List Value:=[bR s,undef,.int .i64 0,.bool false,.bool mn,bR D,.int .i64 n,v7,v8]++wnT s mn D++[bR D,.int .i64 (D.length:Nat),.int .i64 i]
theorem Z0V (s:List UInt8) (mn:Bool):Zk (evL (Ze prog Zi Zeb true) 100 [sP f94 0,sP f94 1,sP f94 2] ([bR s]++List.replicate 36 undef,⟨0,[]⟩,[cmp mn]) ⟨[],[],[]⟩) 14 23 none ([bR s,undef,.int .i64 0,.bool false,.bool mn,bR (sgT s).2,.int .i64 0,undef,undef]++wnT s mn (sgT s).2) ⟨0,[]⟩ [((sgT s).1,mn)]:=by and_intros<;>kernel_rfl
theorem Z70 (s:List UInt8) (mn:Bool) (D:List UInt8) (g:Nat→Value):Zk (evC (Ze prog Zi Zeb true) 100 false (wnI f94) ([bR s,undef,.int .i64 0,.bool false,.bool mn,bR D,.int .i64 0,undef,undef]++wnT s mn D++tl 23 g,⟨0,[]⟩,[]) ⟨[],[],[]⟩) 17 20 none (wnF s mn D 0 undef undef 0) ⟨0,[]⟩ []:=by and_intros<;>kernel_rfl
theorem Z71 (s:List UInt8) (mn:Bool) (D:List UInt8) (n:Int) (v7 v8:Value) (i:Int) (g:Nat→Value):Zk (evC (Ze prog Zi Zeb true) 100 false (wnL f94) (wnF s mn D n v7 v8 i++tl 20 g,⟨0,[]⟩,[cmp false]) ⟨[],[],[]⟩) 17 20 (some (some 0)) (wnF s mn D n v7 v8 i) ⟨0,[]⟩ [(decide (i<(D.length:Nat)),false)]:=by and_intros<;>kernel_rfl
theorem Z72 (s:List UInt8) (mn:Bool) (D:List UInt8) (n:Int) (v7 v8:Value) (i:Int) (g:Nat→Value):Zk (evC (Ze prog Zi Zeb true) 100 false (wnL f94) (wnF s mn D n v7 v8 i++tl 20 g,⟨0,[]⟩,[cmp true,cmp true]) ⟨[],[],[]⟩) 4 33 (some none) [bR s,undef,.int .i64 0,.bool false] ⟨0,[]⟩ [(decide (dvB (byR D i)≥10),true),(decide (0≤byR D i∧byR D i<256),true),(decide (0≤i∧i.toNat<D.length),true),(decide (i<(D.length:Nat)),true)]:=by and_intros<;>kernel_rfl
theorem Z73 (s:List UInt8) (mn:Bool) (D:List UInt8) (n:Int) (v7 v8:Value) (i:Int) (g:Nat→Value):Zk (evC (Ze prog Zi Zeb true) 100 false (wnL f94) (wnF s mn D n v7 v8 i++tl 20 g,⟨0,[]⟩,[cmp true,cmp false]) ⟨[],[],[]⟩) 17 20 none (wnF s mn D (if 10000000<i64.wrap (i64.wrap (n*10)+dvB (byR D i)) then 10000000 else i64.wrap (i64.wrap (n*10)+dvB (byR D i))) (.int .i64 i) (.int .i64 (dvB (byR D i))) (i64.wrap (i+1))) ⟨0,[]⟩ [(decide (dvB (byR D i)≥10),false),(decide (0≤byR D i∧byR D i<256),true),(decide (0≤i∧i.toNat<D.length),true),(decide (i<(D.length:Nat)),true)]:=by and_intros<;>kernel_rfl
def lNe (u:List UInt8) (d:Bool):Bool×Bool:=(!((⟨⟨u⟩⟩:ByteArray)==⟨⟨[]⟩⟩),d)
theorem ZmW {u:List UInt8}{d:Bool}(h:decide (u≠[])=d):(lNe u d).1=(lNe u d).2:=by
 show (!((⟨⟨u⟩⟩:ByteArray)==⟨⟨[]⟩⟩))=d;rw[ZsN,← h];by_cases hu:u=[]
 ·rw[Xa hu,Xb (fun h=>h hu)];rfl
 ·rw[Xb hu,Xa hu];rfl
theorem Z4J (s:List UInt8) (D:List UInt8) (n:Int) (v7 v8:Value) (i:Int) (d:Bool) (g:Nat→Value):Zk (evC (Ze prog Zi Zeb true) 100 false (sK f94 4) (wnF s true D n v7 v8 i++tl 20 g,⟨0,[]⟩,[sam d]) ⟨[],[],[]⟩) 4 33 (some none) [bR s,undef,.int .i64 (i64.wrap (0-n)),.bool d] ⟨0,[]⟩ [lNe D d]:=by and_intros<;>kernel_rfl
theorem Z4K (s:List UInt8) (D:List UInt8) (n:Int) (v7 v8:Value) (i:Int) (d:Bool) (g:Nat→Value):Zk (evC (Ze prog Zi Zeb true) 100 false (sK f94 4) (wnF s false D n v7 v8 i++tl 20 g,⟨0,[]⟩,[sam d]) ⟨[],[],[]⟩) 4 33 (some none) [bR s,undef,.int .i64 n,.bool d] ⟨0,[]⟩ [lNe D d]:=by and_intros<;>kernel_rfl
theorem ZiP (l:List UInt8) (i:Int):decide (0≤byR l i∧byR l i<256)=true:=by
 unfold byR;have:=(l.getD i.toNat 0).toNat_lt;exact Xa (by omega)
def wnJ (s:List UInt8) (mn:Bool) (D:List UInt8) (X:Nat×Bool) (i:Nat) (y:Lf):Prop:=∃ (a:Nat) (v7 v8:Value) (g:Nat→Value),i≤D.length∧a≤10000000∧X=pwM 10000000 a (D.drop i)∧y.1=wnF s mn D a v7 v8 i++tl 20 g∧y.2.1=⟨0,[]⟩
def wnO (s:List UInt8) (mn:Bool) (D:List UInt8) (X:Nat×Bool) (y:Lf):Prop:=∃ (a i:Nat) (v7 v8:Value) (g:Nat→Value),a≤10000000∧X=(a,true)∧y.1=wnF s mn D a v7 v8 i++tl 20 g∧y.2.1=⟨0,[]⟩
def wnW (n:Int) (d:Bool):Value:= .tuple #[.int .i64 n,.bool d]
def wnB (X:Nat×Bool) (y:Lf):Prop:=X.2=false∧zE prog f94 y.1 y.2.1=some (wnW 0 false)
theorem ZqD {s:List UInt8}{mn:Bool}{D:List UInt8}{X:Nat×Bool}(h2:D.length≤100000) (r:Nat) (y:Lf) (h:∃ i,r=D.length-i∧wnJ s mn D X i y):
  Runs (Ze prog Zi Zeb true) (wnL f94) y fun e z=>match e with | none=>∃ r',r'<r∧∃ i,r'=D.length-i∧wnJ s mn D X i z | some none=>wnB X z | some (some id')=>id'=0∧wnO s mn D X z:=by
 have hT:=Zd ZiO;obtain⟨i,hr,a,v7,v8,g,hi,ha,hX,ht,hh⟩:=h;obtain⟨t,h',sc⟩:=y;simp only at ht hh;subst ht hh;by_cases hc:i<D.length
 ·have lA:decide (((i:Nat):Int)<(D.length:Nat))=true:=Xa (by omega);have lI:decide ((0:Int)≤(i:Nat)∧((i:Nat):Int).toNat<D.length)=true:=Xa ⟨by omega,by rw[Xg];exact hc⟩;have ew:i64.wrap (((i:Nat):Int)+1)=((i+1:Nat):Int):=by rw[Zv (by omega) (by omega)];omega
  have ed:=ZiA hc;have eC:lq8 (D.getD i 0)=byR D (i:Nat):=by unfold lq8 byR;rw[Xg]
  have bD:=Z0H (byR D (i:Nat));by_cases hd:dvB (byR D (i:Nat))<10
  ·have hg:=Z73 s mn D a v7 v8 (i:Nat) g;have ev:i64.wrap (i64.wrap (((a:Nat):Int)*10)+dvB (byR D (i:Nat)))=((a:Nat):Int)*10+dvB (byR D (i:Nat)):=by
    rw[Zv (n:=((a:Nat):Int)*10) (by omega) (by omega),Zv (by omega) (by omega)]
   have em:(if 10000000<((a:Nat):Int)*10+dvB (byR D (i:Nat)) then 10000000 else ((a:Nat):Int)*10+dvB (byR D (i:Nat)))=((min (a*10+(dvB (byR D (i:Nat))).toNat) 10000000:Nat):Int):=by split<;>omega
   rw[ev,em,ew] at hg;refine (Zc (s0:=sc) hT hg (Za (Xb (by omega)) (Za (ZiP D _) (Za lI (Zy lA))))).mono fun e z he=> ?_;obtain⟨rfl,⟨g',z1⟩,z2⟩:=he;refine⟨D.length-(i+1),by omega,i+1,rfl,_,_,_,g',by omega,by omega,?_,z1,z2⟩;rw[hX,ed,pwM,eC,if_pos hd]
  ·refine (Zc (s0:=sc) hT (Z72 s mn D a v7 v8 (i:Nat) g) (Za (Xa (by omega)) (Za (ZiP D _) (Za lI (Zy lA))))).mono fun e z he=> ?_;obtain⟨rfl,⟨g',z1⟩,z2⟩:=he;refine⟨by rw[hX,ed,pwM,eC,if_neg hd],by rw[z1,z2];rfl⟩
 ·have es:D.drop i=[]:=List.drop_eq_nil_of_le (by omega);refine (Zc (s0:=sc) hT (Z71 s mn D a v7 v8 (i:Nat) g) (Zy (Xb (by omega)))).mono fun e z he=> ?_;obtain⟨rfl,⟨g',z1⟩,z2⟩:=he;exact⟨rfl,a,i,v7,v8,g',ha,by rw[hX,es];rfl,z1,z2⟩
theorem ZiQ (s:List UInt8) (hs:s.length≤100000) (w:World):Calls prog 94 #[bR s] w fun r w'=>r= .returned (if wnK s=true then wnW (wnP s) true else wnW 0 false)∧zi w w':=by
 have hT:=Zd ZiO;have hl2:=Zhu s;obtain⟨V,hV⟩:∃ V,V=(if wnK s=true then wnW (wnP s) true else wnW 0 false):=⟨_,rfl⟩;rw[← hV];refine ZZ (T:=Ze prog Zi Zeb true) func94 Zwn (by rfl) (by rw[hV];split<;>rfl) ?_ w;refine Zz hT (Z0V s (sgT s).1) (Zy rfl) fun g=> ?_;obtain⟨mn,hmn⟩:∃ mn,mn=(sgT s).1:=⟨_,rfl⟩;obtain⟨D,hD⟩:∃ D,D=(sgT s).2:=⟨_,rfl⟩;rw[← hmn,← hD];obtain⟨X,hX⟩:∃ X,X=pwM 10000000 0 D:=⟨_,rfl⟩;have eK:wnK s=(X.2 && decide (D≠[])):=by unfold wnK;rw[← hD,hX,ZvU]
 have eP:wnP s=if mn=true then -((X.1:Nat):Int) else ((X.1:Nat):Int):=by unfold wnP;rw[← hD,← hmn,hX]
 refine Runs.seq (P1:=fun e y=>match e with | none=>wnO s mn D X y | some none=>wnB X y | some (some _)=>False) ?_ ?_ ?_
 ·refine Runs.seq (P1:=fun e y=>e=none∧∃ g',y.1=wnF s mn D 0 undef undef 0++tl 20 g'∧y.2.1=⟨0,[]⟩) ?_ ?_ (fun e y he=>by cases he.1)
  ·refine (Zc hT (Z70 s mn D g) Zbu).mono fun e z he=> ?_;obtain⟨rfl,⟨g',z1⟩,z2⟩:=he;exact⟨rfl,g',z1,z2⟩
  ·rintro⟨t,hh,sc⟩ ⟨_,g',e1,e2⟩;simp only at e1 e2;subst e1 e2;exact Runs.forLoop (R:=wnB X) (P:=wnO s mn D X) (fun r y=>∃ i,r=D.length-i∧wnJ s mn D X i y) (ZqD (by rw[hD];omega)) (n:=D.length-0) ⟨0,rfl,0,undef,undef,g',Nat.zero_le _,Nat.zero_le _,hX,rfl,rfl⟩
 ·rintro⟨t,hh,sc⟩ ⟨a,i,v7,v8,g',ha,hx,e1,e2⟩;simp only at e1 e2;subst e1 e2;rw[hx] at eK eP;have eV:V=wnW (if mn=true then -(a:Int) else (a:Int)) (decide (D≠[])):=by
   rw[hV,eK,eP];by_cases hd:D=[]
   ·have ha0:a=0:=by
     rw[hd] at hX;rw[hx] at hX;exact congrArg Prod.fst hX
    rw[Xb (fun h=>h hd),Bool.and_false,if_neg (by decide),ha0];cases mn<;>rfl
   ·rw[Xa hd,Bool.and_true,if_pos rfl]
  rw[eV];cases mn with
  | true=>
   have hg:=Z4J s D a v7 v8 i (decide (D≠[])) g';rw[Zv (n:=0-((a:Nat):Int)) (by omega) (by omega),show (0:Int)-((a:Nat):Int)= -((a:Nat):Int) by omega] at hg;refine (Zc (s0:=sc) hT hg (Zy (ZmW rfl))).mono fun e z he=> ?_;obtain⟨rfl,⟨g2,z1⟩,z2⟩:=he;exact⟨.inr rfl,by rw[z1,z2,if_pos rfl];rfl⟩
  | false=>
   refine (Zc (s0:=sc) hT (Z4K s D a v7 v8 i (decide (D≠[])) g') (Zy (ZmW rfl))).mono fun e z he=> ?_;obtain⟨rfl,⟨g2,z1⟩,z2⟩:=he;exact⟨.inr rfl,by rw[z1,z2,if_neg (by decide)];rfl⟩
 ·rintro e y he
  match e,he with
  | none,he=>
   refine⟨.inr rfl,he.2.trans ?_⟩;rw[hV,eK,he.1];rfl
def Z4L:Ans:=fun vals s=>
 match vals,s with
 | [.string b],.inr (.inr (.inr (.inl true)))::s'=>some (wnW (wnP b.data.toList) true,s',[(wnK b.data.toList,true),(decide (b.data.toList.length≤100000),true)])
 | [.string b],.inr (.inr (.inr (.inl false)))::s'=>some (wnW 0 false,s',[(wnK b.data.toList,false),(decide (b.data.toList.length≤100000),true)])
 | _,_=>none
theorem Zwo:ZC 94 Z4L:=by
 intro vals s v s' lg h hl w;unfold Z4L at h;split at h
 ·rename_i b s2;cases h;have h1:wnK b.data.toList=true:=hl _ Xe;have h2:=Xc (hl _ (Xd _ Xf));have:=ZiQ _ h2 w;rw[if_pos h1] at this;exact this
 ·rename_i b s2;cases h;have h1:wnK b.data.toList=false:=hl _ Xe;have h2:=Xc (hl _ (Xd _ Xf));have:=ZiQ _ h2 w;rw[if_neg (by rw[h1];decide)] at this;exact this
 ·cases h
end Go.Proofs.YtgefjidphfdhdaaGreatDoor
namespace Go.Rd
open Go.Rn Go.Pt
theorem Z0W {A B u c:Nat}(hB:0<B) (h:c*B≤A*2^u):2*c≤dvK A B u:=by
 have:=(Nat.le_div_iff_mul_le hB).2 h;unfold dvK;omega
theorem Z0X {A B u c:Nat}(h:A*2^u≤c*B):dvK A B u≤2*c:=by
 have h1:A*2^u/B≤c:=Nat.div_le_of_le_mul (by rw[Nat.mul_comm B c];exact h);unfold dvK;by_cases h2:A*2^u/B=c
 ·have h3:=Nat.div_add_mod (A*2^u) B;have h4:A*2^u % B=0:=by
   rw[h2,Nat.mul_comm] at h3;omega
  rw[if_pos h4,h2];omega
 ·split<;>omega
theorem ZmX {S r:Nat}(h0:S≠0) (hr:r<32):bitLen (32*S+r)=bitLen S+5:=by
 have h1:=(bitLen_spec S).1;have h2:=(bitLen_spec S).2 h0;have h3:=zB h0;refine ZaH (k:=bitLen S+4) ?_ ?_
 ·have e:2^(bitLen S+4)=2^(bitLen S-1)*32:=by rw[show (32:Nat)=2^5 from rfl,← Nat.pow_add];congr 1;omega
  omega
 ·have e:2^(bitLen S+4+1)=2^bitLen S*32:=by rw[show (32:Nat)=2^5 from rfl,← Nat.pow_add]
  omega
theorem Zwp (n:Bool) (S:Nat):rq 0 n (32*S+15) 5=S∧rq 0 n (32*S+17) 5=S+1:=by
 have e:(2:Nat)^5=32:=rfl;unfold rq;rw[e,show (32*S+15)/32=S by omega,show (32*S+15) % 32=15 by omega,show (32*S+17)/32=S by omega,show (32*S+17) % 32=17 by omega];have r1:ze 15 32=1:=by decide
 have r2:ze 17 32=3:=by decide
 have u1:∀ o,upR 0 n o 1=false:=fun o=>by cases n<;>cases o<;>decide
 have u2:∀ o,upR 0 n o 3=true:=fun o=>by cases n<;>cases o<;>decide
 rw[r1,r2,u1,u2];exact⟨rfl,rfl⟩
theorem ZmY (n:Bool) {S:Nat}{x:Int}(hx: -1074≤x) (hS:S<9007199254740992) (h:x= -1074∨4503599627370496≤S) (hb:(x+1074)*4503599627370496+(S:Int)<9218868437227405312) (h0:S≠0):rnP 0 n (32*S+15) (x-5)=(x+1074)*4503599627370496+(S:Int):=by
 have hl:=ZmX h0 (show 15<32 by omega);have l53:bitLen S≤53:=len_le (k:=53) (show S<2^53 from hS);have he:Zak (32*S+15) (x-5)=x:=by
  unfold Zak lgN;rw[hl];rcases h with h | h
  ·rw[if_pos (by omega)];omega
  ·have:53≤bitLen S:=Za3 (k:=52) h;split<;>omega
 have hq:toQ 0 n (32*S+15) (x-5) x=S:=by
  unfold toQ;rw[if_neg (by omega),show (x-(x-5)).toNat=5 by omega];exact (Zwp n S).1
 unfold rnP p0;rw[if_neg (by omega),he,hq,if_neg (by omega)]
theorem ZmZ (n:Bool) {S:Nat}{x:Int}(hx: -1074≤x) (hS:S<9007199254740992) (h:x= -1074∨4503599627370496<S) (hb:(x+1074)*4503599627370496+(S:Int)<9218868437227405312) (h0:S≠0):rnP 0 n (32*S-15) (x-5)=(x+1074)*4503599627370496+(S:Int):=by
 have l53:bitLen S≤53:=len_le (k:=53) (show S<2^53 from hS);have e1:32*S-15=32*(S-1)+17:=by omega
 have he:Zak (32*S-15) (x-5)=x:=by
  unfold Zak lgN;rcases h with h | h
  ·have h58:bitLen (32*S-15)≤bitLen S+5:=by
    refine len_le ?_;have h1:=(bitLen_spec S).1;rw[Nat.pow_add];omega
   rw[if_pos (by omega)];omega
  ·have h1:bitLen (32*S-15)=58:=by
    rw[e1,ZmX (by omega) (by omega)];have:bitLen (S-1)=53:=ZaH (k:=52) (show 2^52≤S-1 from by have:(2:Nat)^52=4503599627370496:=rfl;omega) (show S-1<2^53 from by have:(2:Nat)^53=9007199254740992:=rfl;omega);omega
   rw[h1];split<;>omega
 have hq:toQ 0 n (32*S-15) (x-5) x=S:=by
  unfold toQ;rw[if_neg (by omega),show (x-(x-5)).toNat=5 by omega,e1,(Zwp n (S-1)).2];omega
 unfold rnP p0;rw[if_neg (by omega),he,hq,if_neg (by omega)]
theorem Zna (n:Bool) {x:Int}(hx: -1074<x) (hb:(x+1074)*4503599627370496+4503599627370496<9218868437227405312):rnP 0 n (64*4503599627370496-15) (x-6)=(x+1074)*4503599627370496+4503599627370496:=by
 have e1:64*4503599627370496-15=32*9007199254740991+17:=by omega
 have h1:bitLen (64*4503599627370496-15)=58:=by
  rw[e1,ZmX (by omega) (by omega)];have:bitLen 9007199254740991=53:=ZaH (k:=52) (by decide) (by decide);omega
 have he:Zak (64*4503599627370496-15) (x-6)=x-1:=by
  unfold Zak lgN;rw[h1];split<;>omega
 have hq:toQ 0 n (64*4503599627370496-15) (x-6) (x-1)=9007199254740992:=by
  unfold toQ;rw[if_neg (by omega),show (x-1-(x-6)).toNat=5 by omega,e1,(Zwp n 9007199254740991).2]
 unfold rnP p0;rw[if_neg (by omega),he,hq,if_neg (by omega)];omega
theorem Ze5 {n:Bool}{A B T U:Nat}{e f P:Int}(hA:A≠0) (hB:B≠0) (he: -1200≤e) (hf: -1200≤f) (h1:∀ u:Nat,1200≤u→T*2^(e+u).toNat*B≤A*2^u) (h2:∀ u:Nat,1200≤u→A*2^u≤U*2^(f+u).toNat*B) (hT:rnP 0 n T e=P) (hU:rnP 0 n U f=P):rqP 0 n A B=P:=by
 obtain⟨u,hu⟩:∃ u,u=1200+upN A B:=⟨_,rfl⟩;have hbits:54≤bitLen (A*2^u/B):=by
  have h3:=ZaK hA hB;have h4:A*2^upN A B/B≤A*2^u/B:=Nat.div_le_div_right (Nat.mul_le_mul_left _ (Nat.pow_le_pow_right (by omega) (by omega)));have h5:2^79≤A*2^upN A B/B:=by
   rw[Nat.le_div_iff_mul_le (by omega)];exact ZmE hA
  have:=Za3 (Nat.le_trans h5 h4);omega
 rw[← (Zgr (m:=0) (n:=n) hA hB hbits).1];have a1:=Z0W (by omega) (h1 u (by omega));have a2:=Z0X (h2 u (by omega));have m1:=zZ (m:=0) (neg:=n) (E:= -(u:Int)-1) a1;have m2:=zZ (m:=0) (neg:=n) (E:= -(u:Int)-1) a2;have s1:=zu 0 n T ((e+u).toNat+1) e;have s2:=zu 0 n U ((f+u).toNat+1) f;rw[show e-(((e+u).toNat+1:Nat):Int)= -(u:Int)-1 by omega,hT,Nat.pow_succ,← Nat.mul_assoc,Nat.mul_comm _ 2] at s1;rw[show f-(((f+u).toNat+1:Nat):Int)= -(u:Int)-1 by omega,hU,Nat.pow_succ,← Nat.mul_assoc,Nat.mul_comm _ 2] at s2;rw[s1] at m1;rw[s2] at m2;omega
theorem Zfs {x:Int}{u:Nat}{d:Nat}(hd:d≤x+u):2^(x-d+u).toNat*2^d*2^(-x).toNat=2^x.toNat*2^u:=by
 rw[← Nat.pow_add,← Nat.pow_add,← Nat.pow_add];congr 1;omega
theorem ZqE {n:Bool}{p:Int}(hf:ex p≠2047) (h0:(sg p).toNat≠0) {A B:Nat}(hA:A≠0) (hB:B≠0)
  (hi:20000000000000000*(A*2^(-(xp p)).toNat)≤20000000000000001*((sg p).toNat*(2^(xp p).toNat*B))) (hl:19999999999999999*((sg p).toNat*(2^(xp p).toNat*B))≤20000000000000000*(A*2^(-(xp p)).toNat)):rqP 0 n A B=mag p:=by
 have xb:=xp_bd p;have sb:=sg_lt p;have hm:mag p=(xp p+1074)*4503599627370496+(sg p).toNat∧(xp p= -1074∨4503599627370496≤(sg p).toNat)∧mag p<9218868437227405312:=by
  have h1:=Zhh p;have h2:=ZdD p;have h4:mag p=4503599627370496*ex p+fr p:=by unfold mag ex fr;omega
  by_cases he:ex p=0
  ·have e1:sg p=fr p:=by unfold sg;rw[if_pos he]
   have e2:xp p= -1074:=by unfold xp;rw[if_pos he]
   rw[e1,e2];exact⟨by omega,.inl rfl,by omega⟩
  ·have e1:sg p=fr p+4503599627370496:=by unfold sg;rw[if_neg he,if_neg hf]
   have e2:xp p=ex p-1075:=by unfold xp;rw[if_neg he,if_neg hf]
   rw[e1,e2];exact⟨by omega,.inr (by omega),by omega⟩
 obtain⟨S,hS⟩:∃ S,S=(sg p).toNat:=⟨_,rfl⟩;obtain⟨x,hx⟩:∃ x,x=xp p:=⟨_,rfl⟩;rw[← hS,← hx] at hm;rw[← hS,← hx] at hi hl;rw[← hS] at h0;rw[← hx] at xb;obtain⟨m1,m2,m3⟩:=hm;obtain⟨M,hM⟩:∃ M,M=2^x.toNat*B:=⟨_,rfl⟩;obtain⟨Z,hZ⟩:∃ Z,Z=A*2^(-x).toNat:=⟨_,rfl⟩;rw[← hM,← hZ] at hi hl;have hV:0<2^(-x).toNat:=Nat.pow_pos (by omega);have up:32*Z≤(32*S+15)*M:=by
  have h1:32*(20000000000000001*S)*M≤20000000000000000*(32*S+15)*M:=Nat.mul_le_mul_right M (by omega);have e1:32*(20000000000000001*S)*M=32*(20000000000000001*(S*M)):=by rw[Nat.mul_assoc 32,Nat.mul_assoc 20000000000000001]
  have e2:20000000000000000*(32*S+15)*M=20000000000000000*((32*S+15)*M):=Nat.mul_assoc _ _ _;rw[e1,e2] at h1;omega
 have hup:∀ u:Nat,1200≤u→A*2^u≤(32*S+15)*2^(x-5+u).toNat*B:=fun u hu=>by
  have e:=Zfs (x:=x) (u:=u) (d:=5) (by omega);rw[show ((5:Nat):Int)=5 from rfl] at e;refine Nat.le_of_mul_le_mul_right (c:=32*2^(-x).toNat) ?_ (by omega);have l:A*2^u*(32*2^(-x).toNat)=32*Z*2^u:=by rw[hZ];ac_rfl
  have r:(32*S+15)*2^(x-5+u).toNat*B*(32*2^(-x).toNat)=(32*S+15)*M*2^u:=by
   obtain⟨K,hK⟩:∃ K,K=32*S+15:=⟨_,rfl⟩;rw[← hK];have:K*2^(x-5+u).toNat*B*(32*2^(-x).toNat)=K*(2^(x-5+u).toNat*2^5*2^(-x).toNat)*B:=by rw[show (32:Nat)=2^5 from rfl];ac_rfl
   rw[this,e,hM]
   ac_rfl
  rw[l,r];exact Nat.mul_le_mul_right _ up
 have hU:=ZmY n (S:=S) (x:=x) (by omega) (by omega) m2 (by omega) h0;rw[← m1] at hU;by_cases ht:S=4503599627370496∧ -1074<x
 ·have dn:(64*S-15)*M≤64*Z:=by
   have h1:20000000000000000*(64*S-15)*M≤64*(19999999999999999*S)*M:=Nat.mul_le_mul_right M (by omega);have e1:64*(19999999999999999*S)*M=64*(19999999999999999*(S*M)):=by rw[Nat.mul_assoc 64,Nat.mul_assoc 19999999999999999]
   have e2:20000000000000000*(64*S-15)*M=20000000000000000*((64*S-15)*M):=Nat.mul_assoc _ _ _;rw[e1,e2] at h1;omega
  have hdn:∀ u:Nat,1200≤u→(64*S-15)*2^(x-6+u).toNat*B≤A*2^u:=fun u hu=>by
   have e:=Zfs (x:=x) (u:=u) (d:=6) (by omega);rw[show ((6:Nat):Int)=6 from rfl] at e;refine Nat.le_of_mul_le_mul_right (c:=64*2^(-x).toNat) ?_ (by omega);have l:A*2^u*(64*2^(-x).toNat)=64*Z*2^u:=by rw[hZ];ac_rfl
   have r:(64*S-15)*2^(x-6+u).toNat*B*(64*2^(-x).toNat)=(64*S-15)*M*2^u:=by
    obtain⟨K,hK⟩:∃ K,K=64*S-15:=⟨_,rfl⟩;rw[← hK];have:K*2^(x-6+u).toNat*B*(64*2^(-x).toNat)=K*(2^(x-6+u).toNat*2^6*2^(-x).toNat)*B:=by rw[show (64:Nat)=2^6 from rfl];ac_rfl
    rw[this,e,hM]
    ac_rfl
   rw[l,r];exact Nat.mul_le_mul_right _ dn
  have hT:=Zna n (x:=x) ht.2 (by omega);refine Ze5 hA hB (e:=x-6) (f:=x-5) (by omega) (by omega) hdn hup ?_ hU;rw[ht.1,hT,m1,ht.1];rfl
 ·have dn:(32*S-15)*M≤32*Z:=by
   have h1:20000000000000000*(32*S-15)*M≤32*(19999999999999999*S)*M:=Nat.mul_le_mul_right M (by omega);have e1:32*(19999999999999999*S)*M=32*(19999999999999999*(S*M)):=by rw[Nat.mul_assoc 32,Nat.mul_assoc 19999999999999999]
   have e2:20000000000000000*(32*S-15)*M=20000000000000000*((32*S-15)*M):=Nat.mul_assoc _ _ _;rw[e1,e2] at h1;omega
  have hdn:∀ u:Nat,1200≤u→(32*S-15)*2^(x-5+u).toNat*B≤A*2^u:=fun u hu=>by
   have e:=Zfs (x:=x) (u:=u) (d:=5) (by omega);rw[show ((5:Nat):Int)=5 from rfl] at e;refine Nat.le_of_mul_le_mul_right (c:=32*2^(-x).toNat) ?_ (by omega);have l:A*2^u*(32*2^(-x).toNat)=32*Z*2^u:=by rw[hZ];ac_rfl
   have r:(32*S-15)*2^(x-5+u).toNat*B*(32*2^(-x).toNat)=(32*S-15)*M*2^u:=by
    obtain⟨K,hK⟩:∃ K,K=32*S-15:=⟨_,rfl⟩;rw[← hK];have:K*2^(x-5+u).toNat*B*(32*2^(-x).toNat)=K*(2^(x-5+u).toNat*2^5*2^(-x).toNat)*B:=by rw[show (32:Nat)=2^5 from rfl];ac_rfl
    rw[this,e,hM]
    ac_rfl
   rw[l,r];exact Nat.mul_le_mul_right _ dn
  have hT:=ZmZ n (S:=S) (x:=x) (by omega) (by omega) (by omega) (by omega) h0;rw[← m1] at hT;exact Ze5 hA hB (e:=x-5) (f:=x-5) (by omega) (by omega) hdn hup hT hU
def paN (S:Nat) (E j:Int):Nat:=S*2^E.toNat*10^j.toNat
def pbN (E j:Int):Nat:=2^(-E).toNat*10^(-j).toNat
theorem zP (E j:Int):0<pbN E j:=Nat.mul_pos (Nat.pow_pos (by omega)) (Nat.pow_pos (by omega))
theorem ZcB (S:Nat) (E j:Int) (c:Nat):paN S E (j+c)*pbN E j=paN S E j*10^c*pbN E (j+c):=by
 unfold paN pbN;have h:10^(j+c).toNat*10^(-j).toNat=10^j.toNat*10^c*10^(-(j+c)).toNat:=by
  rw[← Nat.pow_add,← Nat.pow_add,← Nat.pow_add];congr 1;omega
 have l:S*2^E.toNat*10^(j+c).toNat*(2^(-E).toNat*10^(-j).toNat)=S*2^E.toNat*2^(-E).toNat*(10^(j+c).toNat*10^(-j).toNat):=by ac_rfl
 rw[l,h]
 ac_rfl
theorem ZdM {S:Nat}{E j:Int}{a:Nat}(c:Nat) (h:a*pbN E j≤paN S E j):a*10^c*pbN E (j+c)≤paN S E (j+c):=by
 have hs:=ZcB S E j c;refine Nat.le_of_mul_le_mul_right (c:=pbN E j) ?_ (zP E j);rw[hs];have e:a*10^c*pbN E (j+c)*pbN E j=a*pbN E j*(10^c*pbN E (j+c)):=by ac_rfl
 rw[e,Nat.mul_assoc (paN S E j)];exact Nat.mul_le_mul_right _ h
theorem Zft {S:Nat}{E j:Int}{a:Nat}(c:Nat) (h:paN S E j<a*pbN E j):paN S E (j+c)<a*10^c*pbN E (j+c):=by
 have hs:=ZcB S E j c;refine Nat.lt_of_mul_lt_mul_right (a:=pbN E j) ?_;rw[hs];have e:a*10^c*pbN E (j+c)*pbN E j=a*pbN E j*(10^c*pbN E (j+c)):=by ac_rfl
 rw[e,Nat.mul_assoc (paN S E j)];exact Nat.mul_lt_mul_of_pos_right h (Nat.mul_pos (Nat.pow_pos (by omega)) (zP _ _))
def zY (S:Nat) (E f:Int):Prop:=pbN E (-f)≤paN S E (-f)∧paN S E (-(f+1))<pbN E (-(f+1))
theorem ZcQ {S:Nat}{E f:Int}(h:zY S E f) {n:Nat}(hn:1≤n):10^(n-1)*pbN E ((n:Int)-1-f)≤paN S E ((n:Int)-1-f)∧paN S E ((n:Int)-1-f)<10^n*pbN E ((n:Int)-1-f):=by
 obtain⟨h1,h2⟩:=h;have a:=ZdM (a:=1) (n-1) (by rw[Nat.one_mul];exact h1);have b:=Zft (a:=1) n (by rw[Nat.one_mul];exact h2);rw[Nat.one_mul,show -f+((n-1:Nat):Int)=(n:Int)-1-f by omega] at a;rw[Nat.one_mul,show -(f+1)+(n:Int)=(n:Int)-1-f by omega] at b;exact⟨a,b⟩
theorem Zg0 {S:Nat}{E f g:Int}(hf:zY S E f) (hg:zY S E g):f=g:=by
 have key:∀ {f g:Int},zY S E f→zY S E g→¬ f<g:=by
  intro f g hf hg hlt;obtain⟨_,h2⟩:=hf;obtain⟨h3,_⟩:=hg;have a:=ZdM (a:=1) (g-(f+1)).toNat (by rw[Nat.one_mul];exact h3);rw[show -g+(((g-(f+1)).toNat:Nat):Int)= -(f+1) by omega,Nat.one_mul] at a;have:pbN E (-(f+1))≤10^(g-(f+1)).toNat*pbN E (-(f+1)):=Nat.le_mul_of_pos_left _ (Nat.pow_pos (by omega));omega
 have h1:=key hf hg;have h2:=key hg hf;omega
theorem ZiR {S:Nat}{E f:Int}(h1:pbN E (-f)≤paN S E (-f)) (h2:¬ pbN E (-(f+1))≤paN S E (-(f+1))):zY S E f:=⟨h1,by omega⟩
theorem Zfu {n:Bool}{p:Int}(hf:ex p≠2047) (h0:(sg p).toNat≠0) {f:Int}(h:zY (sg p).toNat (xp p) f) {q:Nat}(hq0:q≠0)
  (hi:2*(q*pbN (xp p) (16-f))≤2*paN (sg p).toNat (xp p) (16-f)+pbN (xp p) (16-f)) (hl:2*paN (sg p).toNat (xp p) (16-f)≤2*(q*pbN (xp p) (16-f))+pbN (xp p) (16-f)):deP 0 n q (f-16)=mag p:=by
 have hd:=(ZcQ h (n:=17) (by omega)).1;rw[show ((17:Nat):Int)-1-f=16-f by omega] at hd;obtain⟨a,ha⟩:∃ a,a=paN (sg p).toNat (xp p) (16-f):=⟨_,rfl⟩;obtain⟨b,hb⟩:∃ b,b=pbN (xp p) (16-f):=⟨_,rfl⟩;rw[← ha,← hb] at hi hl hd;have e16:10^(17-1)=10000000000000000:=rfl;rw[e16] at hd;obtain⟨Q,hQ⟩:∃ Q,Q=q*b:=⟨_,rfl⟩;rw[← hQ] at hi hl;unfold deP;refine ZqE hf h0 (Zah hq0 (zF _)) (zF _) ?_ ?_
 ·have l:q*10^(f-16).toNat*2^(-(xp p)).toNat=Q:=by
   rw[hQ,hb];unfold pbN;rw[show (-(16-f)).toNat=(f-16).toNat by omega]
   ac_rfl
  have r:(sg p).toNat*(2^(xp p).toNat*10^(-(f-16)).toNat)=a:=by
   rw[ha];unfold paN;rw[show (-(f-16)).toNat=(16-f).toNat by omega]
   ac_rfl
  rw[l,r];omega
 ·have l:q*10^(f-16).toNat*2^(-(xp p)).toNat=Q:=by
   rw[hQ,hb];unfold pbN;rw[show (-(16-f)).toNat=(f-16).toNat by omega]
   ac_rfl
  have r:(sg p).toNat*(2^(xp p).toNat*10^(-(f-16)).toNat)=a:=by
   rw[ha];unfold paN;rw[show (-(f-16)).toNat=(16-f).toNat by omega]
   ac_rfl
  rw[l,r];omega
def n0F (top:Int):Int:=(top*30103).tdiv 100000+2
def n0K (k:Nat):Bool:=Nat.ble (2^((k:Int)-1073).toNat*10^(-(n0F ((k:Int)-1073)+1)).toNat) (10^(n0F ((k:Int)-1073)+1).toNat*2^(-((k:Int)-1073)).toNat)
theorem Z0Y:(List.range 2100).all n0K=true:=by decide+kernel
theorem Z4M {top:Int}(h0: -1073≤top) (h1:top≤1026):2^top.toNat*10^(-(n0F top+1)).toNat≤10^(n0F top+1).toNat*2^(-top).toNat:=by
 have h:=List.all_eq_true.1 Z0Y (top+1073).toNat (List.mem_range.2 (by omega));unfold n0K at h;rw[show (((top+1073).toNat:Nat):Int)-1073=top by omega] at h;exact Nat.le_of_ble_eq_true h
theorem Zh0 {S:Nat}{E:Int}(h0:S≠0) (hE: -1074≤E) (hE1:E≤972) (hS:S<9007199254740992):¬ pbN E (-(n0F (E+(bitLen S:Nat))+1))≤paN S E (-(n0F (E+(bitLen S:Nat))+1)):=by
 have hl:=(bitLen_spec S).1;have h1:=zB h0;have h53:bitLen S≤53:=len_le (k:=53) (show S<2^53 from hS);obtain⟨top,ht⟩:∃ top,top=E+((bitLen S:Nat):Int):=⟨_,rfl⟩;rw[← ht];have hk:=Z4M (top:=top) (by omega) (by omega);obtain⟨N,hN⟩:∃ N,N=n0F top+1:=⟨_,rfl⟩;rw[← hN] at hk ⊢;intro h;unfold pbN paN at h;rw[show (- -N).toNat=N.toNat by omega] at h;have e:2^top.toNat*2^(-E).toNat=2^E.toNat*2^bitLen S*2^(-top).toNat:=by
  rw[← Nat.pow_add,← Nat.pow_add,← Nat.pow_add];congr 1;omega
 have p1:0<2^E.toNat*10^(-N).toNat*2^(-top).toNat:=Nat.mul_pos (Nat.mul_pos (Nat.pow_pos (by omega)) (Nat.pow_pos (by omega))) (Nat.pow_pos (by omega));have a:S*2^E.toNat*10^(-N).toNat*2^(-top).toNat<2^bitLen S*(2^E.toNat*10^(-N).toNat*2^(-top).toNat):=by
  have:=Nat.mul_lt_mul_of_pos_right hl p1;have e2:S*(2^E.toNat*10^(-N).toNat*2^(-top).toNat)=S*2^E.toNat*10^(-N).toNat*2^(-top).toNat:=by ac_rfl
  rw[e2] at this;exact this
 have b:=Nat.mul_le_mul_right (2^(-top).toNat) h;have c:=Nat.mul_le_mul_right (2^(-E).toNat) hk;have e3:2^bitLen S*(2^E.toNat*10^(-N).toNat*2^(-top).toNat)=2^top.toNat*10^(-N).toNat*2^(-E).toNat:=by
  have:2^top.toNat*10^(-N).toNat*2^(-E).toNat=2^top.toNat*2^(-E).toNat*10^(-N).toNat:=by ac_rfl
  rw[this,e]
  ac_rfl
 have e4:2^(-E).toNat*10^N.toNat*2^(-top).toNat=10^N.toNat*2^(-top).toNat*2^(-E).toNat:=by ac_rfl
 rw[e3] at a;rw[e4] at b;omega
theorem Znb {S:Nat}{E f:Int}(h0:S≠0) (hE: -1074≤E) (hf:f≤ -324):pbN E (-f)≤paN S E (-f):=by
 obtain⟨J,hJ⟩:∃ J:Nat,J=1074:=⟨_,rfl⟩;obtain⟨K,hK⟩:∃ K:Nat,K=1023:=⟨_,rfl⟩;obtain⟨L,hL⟩:∃ L:Nat,L=308:=⟨_,rfl⟩;have h1:(2:Nat)^J≤10^(-f).toNat:=by
  have h2:(2:Nat)^K≤10^L:=Zfh (i:=11) (by omega) (by omega);have h3:(2:Nat)^51≤10^16:=by decide
  have h4:=Nat.mul_le_mul h2 h3;rw[← Nat.pow_add,← Nat.pow_add] at h4;exact Nat.le_trans (Nat.pow_le_pow_right (by omega) (by omega)) (Nat.le_trans h4 (Nat.pow_le_pow_right (by omega) (by omega)))
 unfold pbN paN;rw[show (- -f).toNat=0 by omega,Nat.pow_zero,Nat.mul_one];refine Nat.le_trans (Nat.pow_le_pow_right (by omega) (show (-E).toNat≤J by omega)) (Nat.le_trans h1 ?_);exact Nat.le_mul_of_pos_left _ (Nat.mul_pos (by omega) (Nat.pow_pos (by omega)))
def frK (S:Nat) (E:Int):Nat→Int→Int
 | 0,n=>n
 | k+1,n=>if pbN E (-n)≤paN S E (-n) then n else frK S E k (n-1)
theorem ZsS {S:Nat}{E:Int}:∀ (k:Nat) (n:Int),¬ pbN E (-(n+1))≤paN S E (-(n+1))→pbN E (-(n-k))≤paN S E (-(n-k))→zY S E (frK S E k n)∧n-k≤frK S E k n∧frK S E k n≤n
 | 0,n,h1,h2=>by
  rw[show n-((0:Nat):Int)=n by omega] at h2;exact⟨ZiR h2 h1,by unfold frK;omega,by unfold frK;omega⟩
 | k+1,n,h1,h2=>by
  unfold frK;by_cases h:pbN E (-n)≤paN S E (-n)
  ·rw[if_pos h];exact⟨ZiR h h1,by omega,by omega⟩
  ·rw[if_neg h];obtain⟨a,b,c⟩:=ZsS k (n-1) (by rw[show n-1+1=n by omega];exact h) (by rw[show n-1-(k:Int)=n-((k+1:Nat):Int) by omega];exact h2);exact⟨a,by omega,by omega⟩
def frS (S:Nat) (E:Int):Int:=frK S E (n0F (E+(bitLen S:Nat))+324).toNat (n0F (E+(bitLen S:Nat)))
theorem Z0Z {top:Int}(h: -1073≤top) (h1:top≤1026): -324≤n0F top∧n0F top≤400:=by
 unfold n0F;have h2:(top*30103).tdiv 100000=if 0≤top then top*30103/100000 else -((-top)*30103/100000):=by
  split
  ·rw[Int.tdiv_eq_ediv_of_nonneg (by omega)]
  ·rw[show top*30103= -((-top)*30103) by omega,Int.neg_tdiv,Int.tdiv_eq_ediv_of_nonneg (by omega)]
 rw[h2];split<;>omega
theorem Z1a {S:Nat}{E:Int}(h0:S≠0) (hE: -1074≤E) (hE1:E≤972) (hS:S<9007199254740992):zY S E (frS S E)∧ -324≤frS S E∧frS S E≤400:=by
 have hb:bitLen S≤53:=len_le (k:=53) hS;have hb1:=zB h0;obtain⟨l1,l2⟩:=Z0Z (top:=E+(bitLen S:Nat)) (by omega) (by omega);have ha:=Zh0 h0 hE hE1 hS;unfold frS;obtain⟨n,hn⟩:∃ n,n=n0F (E+(bitLen S:Nat)):=⟨_,rfl⟩;rw[← hn] at ha l1 l2 ⊢;have hl:=Znb (f:= -324) h0 hE (by omega);have:=ZsS (S:=S) (E:=E) (n+324).toNat n ha (by rw[show n-((n+324).toNat:Nat)= -324 by omega];exact hl);exact⟨this.1,by omega,by omega⟩
end Go.Rd
namespace Go.Rd
open Go.Rn
theorem ZiS {A:List UInt8}(h:ZF 10 A=true):∀ d∈A,d≠120:=by
 intro d hd h0;unfold ZF at h;rw[List.all_eq_true] at h;have:=zG (Xc (h d hd));rw[h0] at this;exact absurd this.2 (by decide)
theorem ZsT (x:Int):∀ d∈Za7 x,d≠120:=by
 intro d hd;unfold Za7 at hd;split at hd
 ·rcases List.mem_cons.1 hd with h | h
  ·rw[h];decide
  ·exact ZiS (Zb7 20 x.natAbs 10) d h
 ·exact ZiS (Zb7 20 x.natAbs 10) d hd
theorem ZsU {A B:List UInt8}(hA:∀ d∈A,d≠120) (hB:∀ d∈B,d≠120):∀ d∈A++B,d≠120:=fun d hd=>(List.mem_append.1 hd).elim (hA d) (hB d)
theorem Zh1 {c:UInt8}{B:List UInt8}(hc:c≠120) (hB:∀ d∈B,d≠120):∀ d∈c::B,d≠120:=fun d hd=>(List.mem_cons.1 hd).elim (fun h=>by rw[h];exact hc) (hB d)
theorem ZsV {b:Int}{v D:List UInt8}{k:Nat}{r:List UInt8}(h:sc1 b false v=(D,k,r)) (hD:D≠[]):scA b v=scE b r:=by
 unfold scA;rw[h];dsimp only;rw[if_neg hD]
theorem Z4N (m:Int) (n:Bool) {A:List UInt8}(hA:ZF 10 A=true) (h0:A≠[]) {x:Int}(hx:x.natAbs≤2000000):rdQ m n 10 (A++101::Za7 x)=rdN m n (nmB 10 A) x:=by
 have es:sc1 10 false (101::Za7 x)=([],0,101::Za7 x):=Zfj (by decide) (by decide);have e:sc1 10 false (A++101::Za7 x)=(A,0,101::Za7 x):=by
  rw[ZdI hA,es];simp
 have ea:=ZsV e h0;rw[Zht (.inl rfl) ⟨fun _=>rfl,fun h=>absurd h (by decide)⟩ hx] at ea;rw[ZmK (by rw[ea]),ea,e];dsimp only;congr 1;omega
theorem Z1b (m:Int) (n:Bool) {A B:List UInt8}(hA:ZF 10 A=true) (hB:ZF 10 B=true) (h0:A≠[]) {x:Int}(hx:x.natAbs≤2000000):rdQ m n 10 (A++46::(B++101::Za7 x))=rdN m n (nmB 10 (A++B)) (x-(B.length:Nat)):=by
 have es:sc1 10 true (101::Za7 x)=([],0,101::Za7 x):=Zfj (by decide) (by decide);have e2:sc1 10 true (B++101::Za7 x)=(B,B.length,101::Za7 x):=by
  rw[ZdI hB,es];simp
 have e:sc1 10 false (A++46::(B++101::Za7 x))=(A++B,B.length,101::Za7 x):=by
  rw[ZdI hA,ZsG,e2];simp
 have ea:=ZsV e (fun h=>h0 (List.append_eq_nil_iff.1 h).1);rw[Zht (.inl rfl) ⟨fun _=>rfl,fun h=>absurd h (by decide)⟩ hx] at ea;rw[ZmK (by rw[ea]),ea,e]
theorem Ze6 (m:Int) {A t:List UInt8}(hA:ZF 10 A=true) (h0:A≠[]) (ht:∀ d∈t,d≠120) (hl:(A++t).length≤65000):rdP m (A++t)=rdQ m false 10 (A++t)∧rdP m (45::(A++t))=rdQ m true 10 (A++t):=by
 cases A with
 | nil=>exact absurd rfl h0
 | cons c A=>
  have hn:=ZiS hA;unfold ZF at hA;rw[List.all_cons,Xh] at hA;have hc:=zG (Xc hA.1);have hr:∀ d∈A++t,d≠120:=ZsU (fun d hd=>hn d (Xd _ hd)) ht;rw[List.cons_append] at hl ⊢;exact⟨ZiF (by omega) (ZdJ hc) hc hr,ZiF (by rw[List.length_cons];omega) (ZdK _) hc hr⟩
theorem Znc (n:Nat):(dcL n).length≤20:=Zb8 20 n
theorem Zb9 (x:Int):(Za7 x).length≤21:=by
 unfold Za7;split
 ·rw[List.length_cons];have:=Znc x.natAbs;omega
 ·have:=Znc x.natAbs;omega
end Go.Rd
namespace Go.Rd
open Go.Rn Go.Pt
def txL (n:Bool) (s:List UInt8) (e:Int):List UInt8:=(if n=true then [45] else [])++((match s with | []=>[] | [c]=>[c] | c::r=>c::46::r)++101::Za7 e)
theorem Zg1 {f n:Nat}(h:10^(f-1)≤n) (hf:1≤f):(Zbs f n).length=f:=by
 induction f generalizing n with
 | zero=>omega
 | succ f ih=>
  unfold Zbs;by_cases h0:f=0
  ·subst h0;split
   ·rfl
   ·rfl
  ·have e:10^(f+1-1)=10*10^(f-1):=by rw[Nat.mul_comm,← Nat.pow_succ];congr 1;omega
   have hp:0<10^(f-1):=Nat.pow_pos (by omega);rw[e] at h;rw[if_neg (by omega),List.length_append,ih (by omega) (by omega)];rfl
theorem Zfv (m:Int) (mn:Bool) {n q:Nat}(hn:1≤n) (hn2:n≤2000) (h1:10^(n-1)≤q) (h2:q<10^n) {e:Int}(he:e.natAbs≤2000):rdP m (txL mn (Zbs n q) e)=rdN m mn q (e-((n:Int)-1)):=by
 have hl:=Zg1 h1 hn;have ha:=Zb7 n q 10;have hv:=Zfi h2;have le:=Zb9 e;have key:∀ b:Bool,rdP m (txL b (Zbs n q) e)=rdN m b q (e-((n:Int)-1)):=by
  intro b;cases hd:Zbs n q with
  | nil=>rw[hd] at hl;simp at hl;omega
  | cons c r=>
   rw[hd] at hl ha hv;rw[List.length_cons] at hl;have hc:ZF 10 [c]=true:=by
    unfold ZF at ha ⊢;rw[List.all_cons,Xh] at ha;rw[List.all_cons,ha.1];rfl
   have hr:ZF 10 r=true:=by
    unfold ZF at ha ⊢;rw[List.all_cons,Xh] at ha;exact ha.2
   cases r with
   | nil=>
    have e1:∀ b,txL b [c] e=(if b=true then [45] else [])++([c]++101::Za7 e):=fun b=>rfl;have hlen:n=1:=by simp at hl;omega
    obtain⟨p1,p2⟩:=Ze6 m (t:=101::Za7 e) hc (by simp) (Zh1 (by decide) (ZsT e)) (by simp;omega);have q1:=Z4N m b hc (by simp) (x:=e) (by omega);rw[e1,hv] at*;rw[show e-((n:Int)-1)=e by omega,← q1];cases b with
    | true=>exact p2
    | false=>exact p1
   | cons d r=>
    have e1:∀ b,txL b (c::d::r) e=(if b=true then [45] else [])++([c]++46::((d::r)++101::Za7 e)):=fun b=>rfl;obtain⟨p1,p2⟩:=Ze6 m (t:=46::((d::r)++101::Za7 e)) hc (by simp) (Zh1 (by decide) (ZsU (ZiS hr) (Zh1 (by decide) (ZsT e)))) (by simp at hl ⊢;omega);have q1:=Z1b m b hc hr (by simp) (x:=e) (by omega);have e2:nmB 10 ([c]++(d::r))=q:=hv;rw[e2] at q1;rw[e1,show e-((n:Int)-1)=e-((d::r).length:Nat) by rw[← hl];omega,← q1];cases b with
    | true=>exact p2
    | false=>exact p1
 exact key mn
def hiX (mn:Bool) (n q:Nat) (f:Int):List UInt8:=if q+1=10^n then txL mn (Zbs n (10^(n-1))) (f+1) else txL mn (Zbs n (q+1)) f
theorem Znd (m:Int) (mn:Bool) {n q:Nat}(hn:1≤n) (hn2:n≤2000) (h1:10^(n-1)≤q) (h2:q<10^n) {f:Int}(hf:f.natAbs≤1000):rdP m (hiX mn n q f)=rdN m mn (q+1) (f-((n:Int)-1)):=by
 unfold hiX;by_cases h:q+1=10^n
 ·rw[if_pos h,Zfv m mn hn hn2 (Nat.le_refl _) (Nat.pow_lt_pow_right (by omega) (by omega)) (by omega),h];have e:=ZmL m mn (10^(n-1)) 1 (f+1-((n:Int)-1));rw[← Nat.pow_add,show n-1+1=n by omega,show f+1-((n:Int)-1)-((1:Nat):Int)=f-((n:Int)-1) by omega] at e;exact e.symm
 ·rw[if_neg h,Zfv m mn hn hn2 (by omega) (by omega) (by omega)]
def qD (S:Nat) (E f:Int) (n:Nat):Nat:=paN S E ((n:Int)-1-f)/pbN E ((n:Int)-1-f)
def ZjS (S:Nat) (E f:Int) (n:Nat):Nat:=paN S E ((n:Int)-1-f) % pbN E ((n:Int)-1-f)
theorem ZjT {S:Nat}{E f:Int}(h:zY S E f) {n:Nat}(hn:1≤n):10^(n-1)≤qD S E f n∧qD S E f n<10^n:=by
 obtain⟨a,b⟩:=ZcQ h hn;have hp:=zP E ((n:Int)-1-f);unfold qD;exact⟨(Nat.le_div_iff_mul_le hp).2 a,(Nat.div_lt_iff_lt_mul hp).2 b⟩
def loB (mn:Bool) (M:Int) (S:Nat) (E f:Int) (n:Nat):Bool:=decide (deP 0 mn (qD S E f n) (f-((n:Int)-1))=M)
def hiB (mn:Bool) (M:Int) (S:Nat) (E f:Int) (n:Nat):Bool:=decide (deP 0 mn (qD S E f n+1) (f-((n:Int)-1))=M)
def loK (mn:Bool) (M:Int) (S:Nat) (E f:Int) (n:Nat):Bool:=loB mn M S E f n && (!hiB mn M S E f n || decide (2*ZjS S E f n<pbN E ((n:Int)-1-f)) || (decide (2*ZjS S E f n=pbN E ((n:Int)-1-f)) && decide (qD S E f n % 2=0)))
def shK (mn:Bool) (M:Int) (S:Nat) (E f:Int):Nat→Nat→List UInt8
 | 0,_=>[]
 | k+1,n=>if loK mn M S E f n=true then txL mn (Zbs n (qD S E f n)) f else if hiB mn M S E f n=true then hiX mn n (qD S E f n) f else shK mn M S E f k (n+1)
def shS (p:Int):List UInt8:=shK (decide (9223372036854775808≤p)) (mag p) (sg p).toNat (xp p) (frS (sg p).toNat (xp p)) 17 1
theorem Zwq {mn:Bool}{p:Int}(hf:ex p≠2047) (h0:(sg p).toNat≠0) {f:Int}(h:zY (sg p).toNat (xp p) f):loB mn (mag p) (sg p).toNat (xp p) f 17=true∨hiB mn (mag p) (sg p).toNat (xp p) f 17=true:=by
 have hb:=(ZjT h (n:=17) (by omega)).1;have e:((17:Nat):Int)-1-f=16-f:=by omega
 have e2:f-(((17:Nat):Int)-1)=f-16:=by omega
 have hq0:qD (sg p).toNat (xp p) f 17≠0:=by
  have:0<10^(17-1):=Nat.pow_pos (by omega);omega
 have hdm:=Nat.div_add_mod (paN (sg p).toNat (xp p) (16-f)) (pbN (xp p) (16-f));have hm:=Nat.mod_lt (paN (sg p).toNat (xp p) (16-f)) (zP (xp p) (16-f));unfold loB hiB;rw[e2];obtain⟨q,hq⟩:∃ q,q=qD (sg p).toNat (xp p) f 17:=⟨_,rfl⟩;have eq:q=paN (sg p).toNat (xp p) (16-f)/pbN (xp p) (16-f):=by rw[hq];unfold qD;rw[e]
 rw[← hq] at hq0 ⊢;rw[← eq,Nat.mul_comm] at hdm;by_cases hh:2*(paN (sg p).toNat (xp p) (16-f) % pbN (xp p) (16-f))≤pbN (xp p) (16-f)
 ·exact .inl (Xa (Zfu hf h0 h hq0 (by omega) (by omega)))
 ·refine .inr (Xa (Zfu hf h0 h (by omega) ?_ ?_))
  ·rw[Nat.add_mul];omega
  ·rw[Nat.add_mul];omega
theorem Zne (n:Bool) (A:Nat) (j:Int):deP 0 (!n) A j=deP 0 n A j:=(Z0D 0 n A j).1
theorem ZiT (n k:Bool) (A:Nat) (j:Int):deP 0 n A j=deP 0 k A j:=by
 cases n<;>cases k
 ·rfl
 ·exact (Zne false A j).symm
 ·exact Zne false A j
 ·rfl
theorem Zdj (n k:Bool) (M:Int) (S:Nat) (E f:Int) (i:Nat):loB n M S E f i=loB k M S E f i:=by unfold loB;rw[ZiT n k]
theorem Zdk (n k:Bool) (M:Int) (S:Nat) (E f:Int) (i:Nat):hiB n M S E f i=hiB k M S E f i:=by unfold hiB;rw[ZiT n k]
theorem ZqF (n k:Bool) (M:Int) (S:Nat) (E f:Int) (i:Nat):loK n M S E f i=loK k M S E f i:=by unfold loK;rw[Zdj n k,Zdk n k]
def shN (M:Int) (S:Nat) (E f:Int):Nat→Nat→Nat
 | 0,n=>n
 | k+1,n=>if loB false M S E f n=true∨hiB false M S E f n=true then n else shN M S E f k (n+1)
theorem Zh2 {n:Bool}{M:Int}{S:Nat}{E f:Int}{i:Nat}(h:loK n M S E f i=true):loB n M S E f i=true:=by
 unfold loK at h;rw[Xh] at h;exact h.1
theorem Zh3 {n:Bool}{M:Int}{S:Nat}{E f:Int}{i:Nat}(h:loB n M S E f i=true) (h2:hiB n M S E f i=false):loK n M S E f i=true:=by
 unfold loK;rw[h,h2];rfl
def shO (mn:Bool) (M:Int) (S:Nat) (E f:Int) (n:Nat):List UInt8:=if loK mn M S E f n=true then txL mn (Zbs n (qD S E f n)) f else hiX mn n (qD S E f n) f
theorem ZsW {mn:Bool}{M:Int}{S:Nat}{E f:Int}:∀ (k n:Nat),(∃ i,n≤i∧i<n+k∧(loB false M S E f i=true∨hiB false M S E f i=true))→shK mn M S E f k n=shO mn M S E f (shN M S E f k n)∧(n≤shN M S E f k n∧shN M S E f k n<n+k)∧(loB false M S E f (shN M S E f k n)=true∨hiB false M S E f (shN M S E f k n)=true)∧∀ i,n≤i→i<shN M S E f k n→loB false M S E f i=false∧hiB false M S E f i=false
 | 0,n,h=>by obtain⟨i,h1,h2,_⟩:=h;omega
 | k+1,n,h=>by
  unfold shN shK;by_cases hn:loB false M S E f n=true∨hiB false M S E f n=true
  ·rw[if_pos hn];refine⟨?_,⟨Nat.le_refl _,by omega⟩,hn,fun i h1 h2=>by omega⟩;unfold shO;split
   ·rfl
   ·rename_i hk;have hh:hiB mn M S E f n=true:=by
     cases hh:hiB mn M S E f n with
     | true=>rfl
     | false=>
      rcases hn with h1 | h1
      ·rw[Zdj false mn] at h1;exact absurd (Zh3 h1 hh) hk
      ·rw[Zdk false mn,hh] at h1;cases h1
    rw[if_pos hh]
  ·rw[if_neg hn];have h3:loB false M S E f n=false∧hiB false M S E f n=false:=by
    constructor
    ·cases hx:loB false M S E f n with
     | false=>rfl
     | true=>exact absurd (.inl hx) hn
    ·cases hx:hiB false M S E f n with
     | false=>rfl
     | true=>exact absurd (.inr hx) hn
   have hk:¬ loK mn M S E f n=true:=fun hk=>by
    have:=Zh2 hk;rw[Zdj mn false,h3.1] at this;cases this
   rw[if_neg hk,if_neg (by rw[Zdk mn false,h3.2];decide)];obtain⟨i,h1,h2,hi⟩:=h;have hni:i≠n:=fun e=>hn (by rw[← e];exact hi);obtain⟨a,b,c,d⟩:=ZsW (mn:=mn) k (n+1) ⟨i,by omega,by omega,hi⟩;refine⟨a,by omega,c,fun j j1 j2=> ?_⟩;by_cases hj:j=n
   ·rw[hj];exact h3
   ·exact d j (by omega) j2
structure Fin14 (p:Int):Prop where
 fin:ex p≠2047
 ne:(sg p).toNat≠0
 e0: -1074≤xp p
 e1:xp p≤972
 s1:(sg p).toNat<9007199254740992
def frP (p:Int):Int:=frS (sg p).toNat (xp p)
def nP (p:Int):Nat:=shN (mag p) (sg p).toNat (xp p) (frP p) 17 1
theorem ZcR {p:Int}(h:Fin14 p):zY (sg p).toNat (xp p) (frP p)∧ -324≤frP p∧frP p≤400:=Z1a h.ne h.e0 h.e1 h.s1
theorem Za4 {p:Int}(h:Fin14 p):shS p=shO (decide (9223372036854775808≤p)) (mag p) (sg p).toNat (xp p) (frP p) (nP p)∧(1≤nP p∧nP p≤17)∧(loB false (mag p) (sg p).toNat (xp p) (frP p) (nP p)=true∨hiB false (mag p) (sg p).toNat (xp p) (frP p) (nP p)=true)∧∀ i,1≤i→i<nP p→loB false (mag p) (sg p).toNat (xp p) (frP p) i=false∧hiB false (mag p) (sg p).toNat (xp p) (frP p) i=false:=by
 have:=ZsW (mn:=decide (9223372036854775808≤p)) (M:=mag p) (S:=(sg p).toNat) (E:=xp p) (f:=frP p) 17 1 ⟨17,by omega,by omega,Zwq (mn:=false) h.fin h.ne (ZcR h).1⟩;obtain⟨a,b,c,d⟩:=this;exact⟨a,⟨b.1,by have:=b.2;unfold nP;omega⟩,c,d⟩
theorem ZqG {mn:Bool}{A:Nat}{j M:Int}(hA:A≠0) (h:deP 0 mn A j=M):(rdN 0 mn A j).1=(if mn=true then 9223372036854775808+M else M)∧(rdN 0 mn A j).2.2=0:=by
 refine⟨?_,ZvR 0 mn A j⟩;unfold rdN;rw[if_neg hA,← h]
theorem ZjU {p:Int}(h:Fin14 p):(rdP 0 (shS p)).1=(if decide (9223372036854775808≤p)=true then 9223372036854775808+mag p else mag p)∧(rdP 0 (shS p)).2.2=0:=by
 obtain⟨a,b,c,_⟩:=Za4 h;obtain⟨hf,f1,f2⟩:=ZcR h;obtain⟨q1,q2⟩:=ZjT hf b.1;have hp:0<10^(nP p-1):=Nat.pow_pos (by omega);obtain⟨mn,hmn⟩:∃ mn,mn=decide (9223372036854775808≤p):=⟨_,rfl⟩;rw[a,← hmn];unfold shO;split
 ·rename_i hk;have hl:=Xc (Zh2 hk);rw[Zfv 0 mn b.1 (by omega) q1 q2 (by omega)];exact ZqG (by omega) hl
 ·rename_i hk;have hh:hiB mn (mag p) (sg p).toNat (xp p) (frP p) (nP p)=true:=by
   cases hh:hiB mn (mag p) (sg p).toNat (xp p) (frP p) (nP p) with
   | true=>rfl
   | false=>
    rcases c with h1 | h1
    ·rw[Zdj false mn] at h1;exact absurd (Zh3 h1 hh) hk
    ·rw[Zdk false mn,hh] at h1;cases h1
  rw[Znd 0 mn b.1 (by omega) q1 q2 (by omega)];exact ZqG (by omega) (Xc hh)
def Zec (m:Int) (mn:Bool) (q r b:Nat):Bool:=if m=1 then decide (b≤2*r) else if m=2 then false else if m=3 then decide (0<r) && !mn else if m=4 then decide (0<r) && mn else decide (b<2*r) || (decide (2*r=b) && decide (q % 2=1))
def Zg2 (p:Int) (n:Nat) (m:Int):List UInt8:=if Zec m (decide (9223372036854775808≤p)) (qD (sg p).toNat (xp p) (frP p) n) (ZjS (sg p).toNat (xp p) (frP p) n) (pbN (xp p) ((n:Int)-1-frP p))=true then hiX (decide (9223372036854775808≤p)) n (qD (sg p).toNat (xp p) (frP p) n) (frP p) else txL (decide (9223372036854775808≤p)) (Zbs n (qD (sg p).toNat (xp p) (frP p) n)) (frP p)
theorem Znf {p:Int}(h:Fin14 p):(rdP 0 (Zg2 p 17 0)).1=(if decide (9223372036854775808≤p)=true then 9223372036854775808+mag p else mag p)∧(rdP 0 (Zg2 p 17 0)).2.2=0:=by
 obtain⟨hf,f1,f2⟩:=ZcR h;obtain⟨q1,q2⟩:=ZjT hf (n:=17) (by omega);have hp:0<10^(17-1):=Nat.pow_pos (by omega);have e:((17:Nat):Int)-1-frP p=16-frP p:=by omega
 have e2:frP p-(((17:Nat):Int)-1)=frP p-16:=by omega
 have hdm:=Nat.div_add_mod (paN (sg p).toNat (xp p) (16-frP p)) (pbN (xp p) (16-frP p));have hm:=Nat.mod_lt (paN (sg p).toNat (xp p) (16-frP p)) (zP (xp p) (16-frP p));obtain⟨q,hq⟩:∃ q,q=qD (sg p).toNat (xp p) (frP p) 17:=⟨_,rfl⟩;have eq:q=paN (sg p).toNat (xp p) (16-frP p)/pbN (xp p) (16-frP p):=by rw[hq];unfold qD;rw[e]
 have er:ZjS (sg p).toNat (xp p) (frP p) 17=paN (sg p).toNat (xp p) (16-frP p) % pbN (xp p) (16-frP p):=by unfold ZjS;rw[e]
 unfold Zg2;rw[er,e,← hq];rw[← hq] at q1 q2;rw[← eq,Nat.mul_comm] at hdm;obtain⟨mn,hmn⟩:∃ mn,mn=decide (9223372036854775808≤p):=⟨_,rfl⟩;rw[← hmn];split
 ·rename_i hu;rw[Znd 0 mn (by omega) (by omega) q1 q2 (by omega),e2];refine ZqG (by omega) (Zfu h.fin h.ne hf (by omega) ?_ ?_)
  all_goals
   unfold Zec at hu;rw[if_neg (by decide),if_neg (by decide),if_neg (by decide),if_neg (by decide),Bool.or_eq_true,Xh,Xi,Xi,Xi] at hu;rw[Nat.add_mul];omega
 ·rename_i hu;rw[Zfv 0 mn (by omega) (by omega) q1 q2 (by omega),e2];refine ZqG (by omega) (Zfu h.fin h.ne hf (by omega) ?_ ?_)
  all_goals
   unfold Zec at hu;rw[if_neg (by decide),if_neg (by decide),if_neg (by decide),if_neg (by decide),Bool.or_eq_true,Xh,Xi,Xi,Xi] at hu;omega
def Zng (mn:Bool) (c:UInt8) (h:List UInt8) (x:Int):List UInt8:=(if mn=true then [45] else [])++(48::120::c::((if h=[] then [] else 46::h)++112::Za7 x))
theorem Znh {c:UInt8}{h:List UInt8}{x:Int}(hc:ZF 16 [c]=true) (hh:ZF 16 h=true):sc1 16 false (c::((if h=[] then [] else 46::h)++112::Za7 x))=(c::h,h.length,112::Za7 x):=by
 have es:∀ p,sc1 16 p (112::Za7 x)=([],0,112::Za7 x):=fun p=>Zfj (by decide) (by decide);have e1:sc1 16 false ([c]++((if h=[] then [] else 46::h)++112::Za7 x))=_:=ZdI hc false _;rw[List.singleton_append] at e1;rw[e1];by_cases h0:h=[]
 ·rw[if_pos h0,h0,List.nil_append,es];rfl
 ·rw[if_neg h0,show 46::h++112::Za7 x=46::(h++112::Za7 x) from rfl,ZsG,ZdI hh true,es,if_pos rfl];simp
theorem Zni (m:Int) (mn:Bool) {c:UInt8}{h:List UInt8}{x:Int}(hc:ZF 16 [c]=true) (hh:ZF 16 h=true) (hl:h.length≤1000) (hx:x.natAbs≤2000000) (hz:nmB 16 (c::h)≠0):rdP m (Zng mn c h x)=(if mn=true then 9223372036854775808+rnP m mn (nmB 16 (c::h)) (x-4*(h.length:Nat)) else rnP m mn (nmB 16 (c::h)) (x-4*(h.length:Nat)),rnF m mn (nmB 16 (c::h)) (x-4*(h.length:Nat)),0):=by
 obtain⟨v,hv⟩:∃ v,v=c::((if h=[] then [] else 46::h)++112::Za7 x):=⟨_,rfl⟩;have hs:=Znh (x:=x) hc hh;rw[← hv] at hs;have le:=Zb9 x;have vl:v.length≤1100:=by
  rw[hv,List.length_cons,List.length_append,List.length_cons];split
  ·simp;omega
  ·rw[List.length_cons];omega
 have hall:ZF 16 (c::h)=true:=by
  unfold ZF at hc hh ⊢;rw[List.all_cons,hh,Bool.and_true];rw[List.all_cons] at hc;simpa using hc
 have hT:trZ (c::h)≠[]:=fun h0=>hz ((Zhs (.inr rfl) hall).1 h0);have key:∀ b:Bool,rdQ m b 16 v=(if b=true then 9223372036854775808+rnP m b (nmB 16 (c::h)) (x-4*(h.length:Nat)) else rnP m b (nmB 16 (c::h)) (x-4*(h.length:Nat)),rnF m b (nmB 16 (c::h)) (x-4*(h.length:Nat)),0):=by
  intro b;have ea:scA 16 v=(x,true):=by
   unfold scA;rw[hs];dsimp only;rw[if_neg (by simp),Zht (.inr rfl) ⟨fun h'=>absurd h' (by decide),fun _=>rfl⟩ hx]
  unfold rdQ;rw[ea,hs];dsimp only;rw[if_neg (by decide),if_neg hT];unfold dnA;rw[if_pos rfl];dsimp only;rw[Zfk]
 have hB:∀ r,rdB (48::120::r)=(16,r):=fun r=>by
  unfold rdB;rw[if_pos ⟨by simp,rfl⟩];rfl
 have e1:∀ b,Zng b c h x=(if b=true then [45] else [])++(48::120::v):=fun b=>by rw[hv];rfl
 rw[e1,← key mn];cases mn with
 | true=>
  show rdP m (45::48::120::v)=_;unfold rdP;rw[if_neg (by simp;omega),ZdK,if_neg (by simp),if_neg (by simp),hB]
 | false=>
  show rdP m (48::120::v)=_;unfold rdP;rw[if_neg (by simp;omega),ZdJ (c:=48) ⟨by decide,by decide⟩,if_neg (by simp),if_neg (by simp),hB]
theorem ZqH (m:Int) (n:Bool) (c:UInt8) (l:List UInt8) (x:Int):rnP m n (nmB 16 (c::trR l)) (x-4*((trR l).length:Nat))=rnP m n (nmB 16 (c::l)) (x-4*(l.length:Nat))∧rnF m n (nmB 16 (c::trR l)) (x-4*((trR l).length:Nat))=rnF m n (nmB 16 (c::l)) (x-4*(l.length:Nat)):=by
 have hl:=ZbS l;have e:=Zfm (b:=16) l;have e16:(16:Int).toNat=16:=rfl;have a1:=Zhw 16 [c] l;have a2:=Zhw 16 [c] (trR l);rw[List.singleton_append] at a1 a2;rw[e16] at e a1 a2;have hp:(16:Nat)^(l.length-(trR l).length)=2^(4*(l.length-(trR l).length)):=by rw[Nat.pow_mul]
 have key:nmB 16 (c::l)=nmB 16 (c::trR l)*2^(4*(l.length-(trR l).length)):=by
  rw[a1,a2,e,Nat.add_mul,← hp,Nat.mul_assoc,← Nat.pow_add];congr 3;omega
 have p:=zu m n (nmB 16 (c::trR l)) (4*(l.length-(trR l).length)) (x-4*((trR l).length:Nat));have f:=Zaf m n (nmB 16 (c::trR l)) (4*(l.length-(trR l).length)) (x-4*((trR l).length:Nat));rw[← key,show x-4*((trR l).length:Nat)-((4*(l.length-(trR l).length):Nat):Int)=x-4*(l.length:Nat) by omega] at p f;exact⟨p.symm,f.symm⟩
end Go.Rd
