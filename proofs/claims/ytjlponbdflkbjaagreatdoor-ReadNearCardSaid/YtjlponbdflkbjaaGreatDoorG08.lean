/-
  RpA, RpB, TxU, TxA, RpC, Con1
-/
import Derived.Test.YtjlponbdflkbjaaGreatDoorG06
import Derived.Test.YtjlponbdflkbjaaGreatDoorG07
import Derived.Test.YtjlponbdflkbjaaGreatDoorG05
import Derived.Scope
namespace Go.Proofs.YtjlponbdflkbjaaGreatDoor
open Go.KRun Go.Rd
set_option maxRecDepth 100000
theorem dv1(c:Int):Z7(Zn(Zi Tryz.prog Zf Zo true) 100 69 [.int .u8 c] [cmp true,cmp true])(.int .i64(IntKind.i64.wrap(IntKind.u8.wrap(c-48)))) [(decide(c≤57),true),(decide(c≥48),true)]:=⟨by kernel_rfl,by kernel_rfl,by kernel_rfl,by kernel_rfl⟩
theorem dv2(c:Int):Z7(Zn(Zi Tryz.prog Zf Zo true) 100 69 [.int .u8 c] [cmp true,cmp false,cmp true,cmp true])(.int .i64(IntKind.i64.wrap(IntKind.i64.wrap(IntKind.u8.wrap(c-97))+10))) [(decide(c≤102),true),(decide(c≥97),true),(decide(c≤57),false),(decide(c≥48),true)]:=⟨by kernel_rfl,by kernel_rfl,by kernel_rfl,by kernel_rfl⟩
theorem dv3(c:Int):Z7(Zn(Zi Tryz.prog Zf Zo true) 100 69 [.int .u8 c] [cmp true,cmp false,cmp true,cmp false])(.int .i64 16) [(decide(c≤102),false),(decide(c≥97),true),(decide(c≤57),false),(decide(c≥48),true)]:=⟨by kernel_rfl,by kernel_rfl,by kernel_rfl,by kernel_rfl⟩
theorem dv4(c:Int):Z7(Zn(Zi Tryz.prog Zf Zo true) 100 69 [.int .u8 c] [cmp true,cmp false,cmp false])(.int .i64 16) [(decide(c≥97),false),(decide(c≤57),false),(decide(c≥48),true)]:=⟨by kernel_rfl,by kernel_rfl,by kernel_rfl,by kernel_rfl⟩
theorem dv5(c:Int):Z7(Zn(Zi Tryz.prog Zf Zo true) 100 69 [.int .u8 c] [cmp false,cmp false])(.int .i64 16) [(decide(c≥97),false),(decide(c≥48),false)]:=⟨by kernel_rfl,by kernel_rfl,by kernel_rfl,by kernel_rfl⟩
def Z0a:Ans:=fun vals s=>
 match vals with
 | [.int .u8 c]=>some(.int .i64(dvB c),s,[(decide(0≤c∧c<256),true)])
 | _=>none
theorem ZsT{x:Int}(h0:0≤x)(h1:x<256):IntKind.u8.wrap x=x:=by
 simp [IntKind.wrap,IntKind.bits,IntKind.signed]
 omega
theorem Zf7{x:Int}(h0: -9223372036854775808≤x)(h1:x<9223372036854775808):IntKind.i64.wrap x=x:=by
 simp [IntKind.wrap,IntKind.bits,IntKind.signed]
 omega
theorem Zhq:ZT 69 Z0a:=by
 intro vals s v s' lg h hl w
 unfold Z0a at h
 split at h
 ·rename_i c
  cases h
  have q:=of_decide_eq_true(hl _(List.mem_singleton.2 rfl))
  have hT:=Zk Zd
  by_cases h1:c≥48
  ·by_cases h2:c≤57
   ·have e:dvB c=IntKind.i64.wrap(IntKind.u8.wrap(c-48)):=by
     rw[ZsT(by omega)(by omega),Zf7(by omega)(by omega)]
     unfold dvB;rw[if_pos⟨h1,h2⟩]
    rw[e]
    exact Zc hT(dv1 c)(Za(decide_eq_true h2)(Z3(decide_eq_true h1)))(by rfl)(by rfl) w
   ·by_cases h3:c≥97
    ·by_cases h4:c≤102
     ·have e:dvB c=IntKind.i64.wrap(IntKind.i64.wrap(IntKind.u8.wrap(c-97))+10):=by
       rw[ZsT(by omega)(by omega),Zf7(x:=c-97)(by omega)(by omega),Zf7(by omega)(by omega)]
       unfold dvB;rw[if_neg(by omega),if_pos⟨h3,h4⟩];omega
      rw[e]
      exact Zc hT(dv2 c)(Za(decide_eq_true h4)(Za(decide_eq_true h3)(Za(decide_eq_false h2)(Z3(decide_eq_true h1)))))(by rfl)(by rfl) w
     ·have e:dvB c=16:=by unfold dvB;rw[if_neg(by omega),if_neg(by omega)]
      rw[e]
      exact Zc hT(dv3 c)(Za(decide_eq_false h4)(Za(decide_eq_true h3)(Za(decide_eq_false h2)(Z3(decide_eq_true h1)))))(by rfl)(by rfl) w
    ·have e:dvB c=16:=by unfold dvB;rw[if_neg(by omega),if_neg(by omega)]
     rw[e]
     exact Zc hT(dv4 c)(Za(decide_eq_false h3)(Za(decide_eq_false h2)(Z3(decide_eq_true h1))))(by rfl)(by rfl) w
  ·have e:dvB c=16:=by unfold dvB;rw[if_neg(by omega),if_neg(by omega)]
   rw[e]
   exact Zc hT(dv5 c)(Za(decide_eq_false(by omega))(Z3(decide_eq_false h1)))(by rfl)(by rfl) w
 ·cases h
def lPd(p l:List UInt8):Bool×Bool:=(decide((0:Int)≤(p.length:Nat)∧((p.length:Nat):Int)≤(l.length:Nat)),true)
def lGe(p l:List UInt8)(d:Bool):Bool×Bool:=(decide(((l.length:Nat):Int)≥((p.length:Nat):Int)),d)
def Zb4(u w:List UInt8)(d:Bool):Bool×Bool:=((⟨⟨u⟩⟩:ByteArray)==⟨⟨w⟩⟩,d)
theorem zh{u w:List UInt8}{d:Bool}(h:decide(u=w)=d):(Zb4 u w d).1=(Zb4 u w d).2:=by
 show((⟨⟨u⟩⟩:ByteArray)==⟨⟨w⟩⟩)=d
 rw[Zc2]
 exact h
theorem cp1(l p:List UInt8):Z7(Zn(Zi Tryz.prog Zf Zo true) 100 28 [bR l,bR p] [cmp true,sam true,sam true,sam true])(.tuple #[bR(l.drop p.length),.bool true]) [lPd p l,Zb4(l.take p.length) p true,lPd p l,lGe p l true]:=⟨by kernel_rfl,by kernel_rfl,by kernel_rfl,by kernel_rfl⟩
theorem cp2(l p:List UInt8):Z7(Zn(Zi Tryz.prog Zf Zo true) 100 28 [bR l,bR p] [cmp true,sam true,sam false])(.tuple #[bR l,.bool false]) [Zb4(l.take p.length) p false,lPd p l,lGe p l true]:=⟨by kernel_rfl,by kernel_rfl,by kernel_rfl,by kernel_rfl⟩
theorem cp3(l p:List UInt8):Z7(Zn(Zi Tryz.prog Zf Zo true) 100 28 [bR l,bR p] [cmp false])(.tuple #[bR l,.bool false]) [lGe p l false]:=⟨by kernel_rfl,by kernel_rfl,by kernel_rfl,by kernel_rfl⟩
theorem tp1(l p:List UInt8):Z7(Zn(Zi Tryz.prog Zf Zo true) 100 29 [bR l,bR p] [cmp true,sam true,sam true,sam true])(bR(l.drop p.length)) [lPd p l,Zb4(l.take p.length) p true,lPd p l,lGe p l true]:=⟨by kernel_rfl,by kernel_rfl,by kernel_rfl,by kernel_rfl⟩
theorem tp2(l p:List UInt8):Z7(Zn(Zi Tryz.prog Zf Zo true) 100 29 [bR l,bR p] [cmp true,sam true,sam false])(bR l) [Zb4(l.take p.length) p false,lPd p l,lGe p l true]:=⟨by kernel_rfl,by kernel_rfl,by kernel_rfl,by kernel_rfl⟩
theorem tp3(l p:List UInt8):Z7(Zn(Zi Tryz.prog Zf Zo true) 100 29 [bR l,bR p] [cmp false])(bR l) [lGe p l false]:=⟨by kernel_rfl,by kernel_rfl,by kernel_rfl,by kernel_rfl⟩
theorem Zis{p l:List UInt8}(h:Zap p l=true):Z4 [lPd p l,Zb4(l.take p.length) p true,lPd p l,lGe p l true]:=by
 have q:=of_decide_eq_true h
 have h1:(lPd p l).1=true:=decide_eq_true⟨by omega,by omega⟩
 exact Za h1(Za(zh(decide_eq_true q.2))(Za h1(Z3(decide_eq_true(by omega)))))
theorem Zit{p l:List UInt8}(h1:p.length≤l.length)(h2:¬ l.take p.length=p):Z4 [Zb4(l.take p.length) p false,lPd p l,lGe p l true]:=
 Za(zh(decide_eq_false h2))(Za(decide_eq_true⟨by omega,by omega⟩)(Z3(decide_eq_true(by omega))))
theorem ZlM{p l:List UInt8}(h:Zap p l=false):¬ p.length≤l.length∨(p.length≤l.length∧¬ l.take p.length=p):=by
 have q:=of_decide_eq_false h
 rcases Classical.em(p.length≤l.length) with h1 | h1
 ·exact .inr⟨h1,fun h2=>q⟨h1,h2⟩⟩
 ·exact .inl h1
def Zp5:Ans:=fun vals s=>
 match vals,s with
 | [.string a,.string b],.inr(.inr(.inr(.inl true)))::s'=>some(.tuple #[bR(a.data.toList.drop b.data.toList.length),.bool true],s',[(Zap b.data.toList a.data.toList,true)])
 | [.string a,.string b],.inr(.inr(.inr(.inl false)))::s'=>some(.tuple #[bR a.data.toList,.bool false],s',[(Zap b.data.toList a.data.toList,false)])
 | _,_=>none
theorem Ziu:ZT 28 Zp5:=by
 intro vals s v s' lg h hl w
 have hT:=Zk Zd
 unfold Zp5 at h
 split at h
 ·rename_i a b s2
  cases h
  have q:Zap b.data.toList a.data.toList=true:=hl _(List.mem_singleton.2 rfl)
  exact Zc hT(cp1 a.data.toList b.data.toList)(Zis q)(by rfl)(by rfl) w
 ·rename_i a b s2
  cases h
  have q:Zap b.data.toList a.data.toList=false:=hl _(List.mem_singleton.2 rfl)
  rcases ZlM q with h1 | ⟨h1,h2⟩
  ·exact Zc hT(cp3 a.data.toList b.data.toList)(Z3(decide_eq_false(by omega)))(by rfl)(by rfl) w
  ·exact Zc hT(cp2 a.data.toList b.data.toList)(Zit h1 h2)(by rfl)(by rfl) w
 ·cases h
def Zu8:Ans:=fun vals s=>
 match vals,s with
 | [.string a,.string b],.inr(.inr(.inr(.inl true)))::s'=>some(bR(a.data.toList.drop b.data.toList.length),s',[(Zap b.data.toList a.data.toList,true)])
 | [.string a,.string b],.inr(.inr(.inr(.inl false)))::s'=>some(bR a.data.toList,s',[(Zap b.data.toList a.data.toList,false)])
 | _,_=>none
theorem Zp6:ZT 29 Zu8:=by
 intro vals s v s' lg h hl w
 have hT:=Zk Zd
 unfold Zu8 at h
 split at h
 ·rename_i a b s2
  cases h
  have q:Zap b.data.toList a.data.toList=true:=hl _(List.mem_singleton.2 rfl)
  exact Zc hT(tp1 a.data.toList b.data.toList)(Zis q)(by rfl)(by rfl) w
 ·rename_i a b s2
  cases h
  have q:Zap b.data.toList a.data.toList=false:=hl _(List.mem_singleton.2 rfl)
  rcases ZlM q with h1 | ⟨h1,h2⟩
  ·exact Zc hT(tp3 a.data.toList b.data.toList)(Z3(decide_eq_false(by omega)))(by rfl)(by rfl) w
  ·exact Zc hT(tp2 a.data.toList b.data.toList)(Zit h1 h2)(by rfl)(by rfl) w
 ·cases h
def Zp7:Con:=alt 28 Zp5(alt 29 Zu8 Zo)
theorem Zp8:ConOk Zp7:=ZA Tryz.func28 rfl Ziu(ZA Tryz.func29 rfl Zp6 Zd)
theorem ts1(l:List UInt8):Z7(Zn(Zi Tryz.prog Zf Zp7 true) 100 15 [bR l] [cmp true])(.tuple #[.bool true,bR(l.drop 1)]) [(Zap [45] l,true)]:=⟨by kernel_rfl,by kernel_rfl,by kernel_rfl,by kernel_rfl⟩
theorem ts2(l:List UInt8):Z7(Zn(Zi Tryz.prog Zf Zp7 true) 100 15 [bR l] [cmp false,cmp true])(.tuple #[.bool false,bR(l.drop 1)]) [(Zap [43] l,true),(Zap [45] l,false)]:=⟨by kernel_rfl,by kernel_rfl,by kernel_rfl,by kernel_rfl⟩
theorem ts3(l:List UInt8):Z7(Zn(Zi Tryz.prog Zf Zp7 true) 100 15 [bR l] [cmp false,cmp false])(.tuple #[.bool false,bR l]) [(Zap [43] l,false),(Zap [45] l,false)]:=⟨by kernel_rfl,by kernel_rfl,by kernel_rfl,by kernel_rfl⟩
def Z44:Ans:=fun vals s=>
 match vals,s with
 | [.string a],.inr(.inr(.inr(.inl d)))::s'=>some(.tuple #[.bool d,bR(sgT a.data.toList).2],s',[((sgT a.data.toList).1,d)])
 | _,_=>none
theorem ZlN:ZT 15 Z44:=by
 intro vals s v s' lg h hl w
 have hT:=Zk Zp8
 unfold Z44 at h
 split at h
 ·rename_i a d s2
  cases h
  have q:(sgT a.data.toList).1=d:=hl _(List.mem_singleton.2 rfl)
  rw[← q,ZlH]
  cases h1:Zap [45] a.data.toList with
  | true=>
   rw[if_pos rfl]
   exact Zc hT(ts1 a.data.toList)(Z3 h1)(by rfl)(by rfl) w
  | false=>
   rw[if_neg(by decide)]
   cases h2:Zap [43] a.data.toList with
   | true=>
    rw[if_pos rfl]
    exact Zc hT(ts2 a.data.toList)(Za h2(Z3 h1))(by rfl)(by rfl) w
   | false=>
    rw[if_neg(by decide)]
    exact Zc hT(ts3 a.data.toList)(Za h2(Z3 h1))(by rfl)(by rfl) w
 ·cases h
def Z8R:List Value→Option(Value×Log)
 | [.string b,.int .u8 c]=>some(.int .i64(Lib.indexByte b.data.toList c.toNat.toUInt8),[])
 | _=>none
def Z0b:Nat→List Value→Option(Value×Log):=fun f vals=>if f=148 then Z8R vals else none
theorem Zu9(f:Nat)(vals:List Value)(v:Value)(lg:Log)(h:Z0b f vals=some(v,lg))(_:Z4 lg)(w:World):(callFunc f vals.toArray).run Tryz.prog w= .ok(.value v) w:=by
 unfold Z0b at h
 split at h
 ·rename_i hf
  subst hf
  unfold Z8R at h
  split at h
  ·rename_i b c
   cases h
   rw[run_callFunc_extern(e:=Extern.BytealgIndexByte.indexByte) Tryz.func148(by kernel_rfl)(by kernel_rfl)(by kernel_rfl)(by kernel_rfl),Lib.run_indexByteString]
   rfl
  ·cases h
 ·cases h
theorem ZlO{con:Con}(h:ConOk con):TabOk(Zi Tryz.prog Z0b con true) where
 mixed:=mixed
 ext:=Zu9
 con:=fun f vals s v s' lg hc hl=>⟨by obtain⟨F,h1,h2⟩:=h.fn f vals s v s' lg hc;exact⟨F,(ZbD f F h1).1,(ZbD f F h1).2,h2⟩,h.calls f vals s v s' lg hc hl⟩
 fn:=ZbD
 hc:=fun _ _ _ _ _ _ _ _ h=>by cases h
theorem ix1(l:List UInt8):Z7(Zn(Zi Tryz.prog Z0b Zo true) 100 126 [bR l,bR [46]] [sam true])(.int .i64 0) [Zb4 [46] l true]:=⟨by kernel_rfl,by kernel_rfl,by kernel_rfl,by kernel_rfl⟩
theorem ix2(l:List UInt8):Z7(Zn(Zi Tryz.prog Z0b Zo true) 100 126 [bR l,bR [46]] [sam false])(.int .i64(Lib.indexByte l 46)) [(true,true),Zb4 [46] l false]:=⟨by kernel_rfl,by kernel_rfl,by kernel_rfl,by kernel_rfl⟩
def Z5n:Ans:=fun vals s=>
 match vals with
 | [.string b,.string⟨⟨[c]⟩⟩]=>some(.int .i64(Lib.indexByte b.data.toList 46),s,[(decide(c=46),true)])
 | _=>none
theorem ZuA:ZT 126 Z5n:=by
 intro vals s v s' lg h hl w
 unfold Z5n at h
 split at h
 ·rename_i b c
  cases h
  have hc:=of_decide_eq_true(hl _(List.mem_singleton.2 rfl))
  subst hc
  by_cases h1:[46]=b.data.toList
  ·have e:Lib.indexByte b.data.toList 46=0:=by rw[← h1];rfl
   rw[e]
   exact Zc(ZlO Zd)(ix1 b.data.toList)(Z3(zh(decide_eq_true h1)))(by rfl)(by rfl) w
  ·exact Zc(ZlO Zd)(ix2 b.data.toList)(Za rfl(Z3(zh(decide_eq_false h1))))(by rfl)(by rfl) w
 ·cases h
def Zj5:Con:=alt 126 Z5n Zo
theorem ZdB:ConOk Zj5:=ZA Tryz.func126 rfl ZuA Zd
theorem Z9c(l:List UInt8):Z7(Zn(Zi Tryz.prog Zf Zj5 true) 100 70 [bR l,bR [46]] [cmp true,sam true,sam true])(.tuple #[bR(l.take(Lib.indexByte l 46).toNat),bR(l.drop(IntKind.i64.wrap(Lib.indexByte l 46+1)).toNat),.bool true]) [(decide(0≤IntKind.i64.wrap(Lib.indexByte l 46+1)∧IntKind.i64.wrap(Lib.indexByte l 46+1)≤(l.length:Nat)),true),(decide(0≤Lib.indexByte l 46∧Lib.indexByte l 46≤(l.length:Nat)),true),(decide(Lib.indexByte l 46≥0),true),(true,true)]:=⟨by kernel_rfl,by kernel_rfl,by kernel_rfl,by kernel_rfl⟩
theorem Z9d(l:List UInt8):Z7(Zn(Zi Tryz.prog Zf Zj5 true) 100 70 [bR l,bR [46]] [cmp false])(.tuple #[bR l,bR [],.bool false]) [(decide(Lib.indexByte l 46≥0),false),(true,true)]:=⟨by kernel_rfl,by kernel_rfl,by kernel_rfl,by kernel_rfl⟩
theorem Z0c(l:List UInt8):Lib.indexByte l 46<(l.length:Nat):=by
 induction l with
 | nil=>decide
 | cons c l ih=>
  unfold Lib.indexByte
  rw[List.length_cons]
  split
  ·omega
  ·split<;>omega
def Z5o:Ans:=fun vals s=>
 match vals,s with
 | [.string b,.string⟨⟨[c]⟩⟩],.inr(.inr(.inr(.inl d)))::s'=>some(.tuple #[bR(ctA b.data.toList),bR(ctB b.data.toList),.bool d],s',[(decide(0≤Lib.indexByte b.data.toList 46),d),(decide(c=46),true),(decide(b.data.toList.length≤100000),true)])
 | _,_=>none
theorem ZuB:ZT 70 Z5o:=by
 intro vals s v s' lg h hl w
 unfold Z5o at h
 split at h
 ·rename_i b c d s2
  cases h
  have h1:=hl _ List.mem_cons_self
  have hc:=of_decide_eq_true(hl _(List.mem_cons_of_mem _ List.mem_cons_self))
  have h3:=of_decide_eq_true(hl _(List.mem_cons_of_mem _(List.mem_cons_of_mem _(List.mem_singleton.2 rfl))))
  have hb:=Z0c b.data.toList
  dsimp only at h1
  subst hc
  unfold ctA ctB
  cases d with
  | true=>
   have q:=of_decide_eq_true h1
   have e:IntKind.i64.wrap(Lib.indexByte b.data.toList 46+1)=Lib.indexByte b.data.toList 46+1:=Zf7(by omega)(by omega)
   have e2:(Lib.indexByte b.data.toList 46+1).toNat=(Lib.indexByte b.data.toList 46).toNat+1:=by omega
   have f:=Z9c b.data.toList
   rw[e,e2] at f
   rw[if_pos q,if_pos q]
   exact Zc(Zk ZdB) f(Za(decide_eq_true⟨by omega,by omega⟩)(Za(decide_eq_true⟨by omega,by omega⟩)(Za(decide_eq_true q)(Z3 rfl))))(by rfl)(by rfl) w
  | false=>
   have q:=of_decide_eq_false h1
   rw[if_neg q,if_neg q]
   exact Zc(Zk ZdB)(Z9d b.data.toList)(Za(decide_eq_false q)(Z3 rfl))(by rfl)(by rfl) w
 ·cases h
end Go.Proofs.YtjlponbdflkbjaaGreatDoor
namespace Go.Proofs.YtjlponbdflkbjaaGreatDoor
open Go.KRun Go.Nt Go.Rd
set_option maxRecDepth 100000
def trP(F:Func):Code:=Z5(Zt F)
def Z0d(F:Func):Code:=cIn(cIn(Z5(Z0(Zt F))))
def trE(F:Func):Code:=Z0(Z0(Zt F))
theorem ZuC:Tryz.f105.body=some(za [trP Tryz.f105](.seq(.block 0(.loop(Z0d Tryz.f105)))(trE Tryz.f105))):=by kernel_rfl
def trF(l:List UInt8)(c:Int):List Value:=[bR l,.int .u8 c,undef,undef,bR []]
def lm1(l:List UInt8):Int:=IntKind.i64.wrap(((l.length:Nat):Int)-1)
theorem Z0e(l:List UInt8)(c:Int):Zg(evL(Zi Tryz.prog Zf Zo true) 100 [trP Tryz.f105]([bR l,.int .u8 c]++List.replicate 21 undef,⟨0,[]⟩,[])⟨[],[],[]⟩) 5 18 none(trF l c)⟨0,[]⟩ []:=⟨by kernel_rfl,by kernel_rfl,by kernel_rfl⟩
theorem Z5p(l:List UInt8)(c:Int)(g:Nat→Value):Zg(evC(Zi Tryz.prog Zf Zo true) 100 false(Z0d Tryz.f105)(trF l c++tl 18 g,⟨0,[]⟩,[cmp true,cmp true,sam true])⟨[],[],[]⟩) 5 18 none(trF(l.take(lm1 l).toNat) c)⟨0,[]⟩ [(decide(0≤lm1 l∧lm1 l≤(l.length:Nat)),true),(byR l(lm1 l)==c,true),(decide(0≤lm1 l∧(lm1 l).toNat<l.length),true),(decide(((l.length:Nat):Int)>0),true)]:=⟨by kernel_rfl,by kernel_rfl,by kernel_rfl⟩
theorem Z0f(l:List UInt8)(c:Int)(g:Nat→Value):Zg(evC(Zi Tryz.prog Zf Zo true) 100 false(Z0d Tryz.f105)(trF l c++tl 18 g,⟨0,[]⟩,[cmp true,cmp false])⟨[],[],[]⟩) 5 18(some(some 0))(trF l c)⟨0,[]⟩ [(byR l(lm1 l)==c,false),(decide(0≤lm1 l∧(lm1 l).toNat<l.length),true),(decide(((l.length:Nat):Int)>0),true)]:=⟨by kernel_rfl,by kernel_rfl,by kernel_rfl⟩
theorem Z0g(l:List UInt8)(c:Int)(g:Nat→Value):Zg(evC(Zi Tryz.prog Zf Zo true) 100 false(Z0d Tryz.f105)(trF l c++tl 18 g,⟨0,[]⟩,[cmp false])⟨[],[],[]⟩) 5 18(some(some 0))(trF l c)⟨0,[]⟩ [(decide(((l.length:Nat):Int)>0),false)]:=⟨by kernel_rfl,by kernel_rfl,by kernel_rfl⟩
theorem Z0h(l:List UInt8)(c:Int)(g:Nat→Value):Zg(evC(Zi Tryz.prog Zf Zo true) 100 false(trE Tryz.f105)(trF l c++tl 18 g,⟨0,[]⟩,[])⟨[],[],[]⟩) 5 18(some none) [bR l,.int .u8 c,undef,undef,bR l]⟨0,[]⟩ []:=⟨by kernel_rfl,by kernel_rfl,by kernel_rfl⟩
theorem ZuD(L:List UInt8)(n:Nat)(x:Lf)(h:∃ (l:List UInt8)(g:Nat→Value),x.1=trF l 48++tl 18 g∧x.2.1=⟨0,[]⟩∧trR l=trR L∧l.length≤100000∧n=l.length):Runs(Zi Tryz.prog Zf Zo true)(Z0d Tryz.f105) x fun e y=>match e with | none=>∃ n',n'<n∧∃ (l:List UInt8)(g:Nat→Value),y.1=trF l 48++tl 18 g∧y.2.1=⟨0,[]⟩∧trR l=trR L∧l.length≤100000∧n'=l.length | some none=>False | some(some id')=>id'=0∧∃ g:Nat→Value,y.1=trF(trR L) 48++tl 18 g∧y.2.1=⟨0,[]⟩:=by
 obtain⟨l,g,e1,e2,h1,h3,h2⟩:=h
 obtain⟨t,hh,s⟩:=x
 have e1:t=_:=e1
 have e2:hh=_:=e2
 subst e1 e2
 have T:=Zk Zd
 by_cases hn:l=[]
 ·subst hn
  refine(Zb T(Z0g [] 48 g)(Z3(by decide))).mono fun e z he=> ?_
  obtain⟨rfl,⟨g',z1⟩,z2⟩:=he
  have:trR L=[]:=h1.symm
  rw[this]
  exact⟨rfl,g',z1,z2⟩
 ·obtain⟨l',x,hl⟩:∃ l' x,l=l'++[x]:=⟨l.dropLast,l.getLast hn,(List.dropLast_concat_getLast hn).symm⟩
  have hlen:l.length=l'.length+1:=by rw[hl,List.length_append];rfl
  have em:lm1 l=(l'.length:Nat):=by unfold lm1;rw[Zw(by omega)(by omega)];omega
  have eb:byR l(lm1 l)=lq8 x:=by
   unfold byR lq8
   rw[em,Int.toNat_natCast,hl]
   simp [List.getD]
  have et:l.take(lm1 l).toNat=l':=by
   rw[em,Int.toNat_natCast,hl]
   exact List.take_left' rfl
  have k1:decide(0≤lm1 l∧(lm1 l).toNat<l.length)=true:=decide_eq_true(by omega)
  have k2:decide(((l.length:Nat):Int)>0)=true:=decide_eq_true(by omega)
  by_cases hx:lq8 x=48
  ·have hg:=Z5p l 48 g
   rw[et] at hg
   refine(Zb T hg(Za(decide_eq_true(by omega))(Za(by rw[eb];simpa using hx)(Za k1(Z3 k2))))).mono fun e z he=> ?_
   obtain⟨rfl,⟨g',z1⟩,z2⟩:=he
   refine⟨l'.length,by omega,l',g',z1,z2,?_,by omega,rfl⟩
   rw[← h1,hl,ZbV,if_pos hx]
  ·refine(Zb T(Z0f l 48 g)(Za(by rw[eb];simpa using hx)(Za k1(Z3 k2)))).mono fun e z he=> ?_
   obtain⟨rfl,⟨g',z1⟩,z2⟩:=he
   have:trR L=l:=by rw[← h1,hl,ZbV,if_neg hx]
   rw[this]
   exact⟨rfl,g',z1,z2⟩
theorem ZlP(l:List UInt8)(hl:l.length≤100000)(w:World):Calls Tryz.prog 105 #[bR l,.int .u8 48] w fun r w'=>r= .returned(bR(trR l))∧Zad w w':=by
 have hT:=Zk Zd
 refine ZP(T:=Zi Tryz.prog Zf Zo true) Tryz.func105 ZuC(by rfl)(by rfl) ?_ w
 refine Zx hT(Z0e l 48) ZaZ fun g=> ?_
 refine Runs.seq(P1:=fun e y=>e=none∧∃ g:Nat→Value,y.1=trF(trR l) 48++tl 18 g∧y.2.1=⟨0,[]⟩) ?_ ?_(fun e y he=>by cases he.1)
 ·refine(Runs.forLoop(R:=fun _=>False)(P:=fun y=>∃ g:Nat→Value,y.1=trF(trR l) 48++tl 18 g∧y.2.1=⟨0,[]⟩)(fun n x=>∃ (l':List UInt8)(g:Nat→Value),x.1=trF l' 48++tl 18 g∧x.2.1=⟨0,[]⟩∧trR l'=trR l∧l'.length≤100000∧n=l'.length)(ZuD l)(n:=l.length)⟨l,g,rfl,rfl,rfl,hl,rfl⟩).mono fun e z hz=> ?_
  match e,hz with
  | none,hz=>exact⟨rfl,hz⟩
 ·intro y he
  obtain⟨_,g',e1,e2⟩:=he
  obtain⟨t,hh,s⟩:=y
  have e1:t=_:=e1
  have e2:hh=_:=e2
  subst e1 e2
  refine(Zb hT(Z0h(trR l) 48 g') ZaZ).mono fun e z hz=> ?_
  obtain⟨rfl,⟨g2,z1⟩,z2⟩:=hz
  exact⟨.inr rfl,by rw[z1,z2];rfl⟩
def Z5q:Ans:=fun vals s=>
 match vals with
 | [.string b,.int .u8 c]=>some(bR(trR b.data.toList),s,[(decide(c=48),true),(decide(b.data.toList.length≤100000),true)])
 | _=>none
theorem ZuE:ZT 105 Z5q:=by
 intro vals s v s' lg h hl w
 unfold Z5q at h
 split at h
 ·rename_i b c
  cases h
  have hc:=of_decide_eq_true(hl _ List.mem_cons_self)
  have h2:=of_decide_eq_true(hl _(List.mem_cons_of_mem _(List.mem_singleton.2 rfl)))
  subst hc
  exact ZlP _ h2 w
 ·cases h
def ZuF:Con:=alt 105 Z5q Zo
theorem Ziv:ConOk ZuF:=ZA Tryz.func105 rfl ZuE Zd
theorem Z9e(l:List UInt8):Z7(Zn(Zi Tryz.prog Zf ZuF true) 100 72 [bR l,bR [48]] [sam true])(bR l) [Zb4 l [] true]:=⟨by kernel_rfl,by kernel_rfl,by kernel_rfl,by kernel_rfl⟩
theorem Z9f(l:List UInt8):Z7(Zn(Zi Tryz.prog Zf ZuF true) 100 72 [bR l,bR [48]] [sam false])(bR(trR l)) [(true,true),(decide(l.length≤100000),true),(true,true),(true,true),Zb4 l [] false]:=⟨by kernel_rfl,by kernel_rfl,by kernel_rfl,by kernel_rfl⟩
def Z5r:Ans:=fun vals s=>
 match vals with
 | [.string b,.string⟨⟨[c]⟩⟩]=>some(bR(trR b.data.toList),s,[(decide(c=48),true),(decide(b.data.toList.length≤100000),true)])
 | _=>none
theorem ZuG:ZT 72 Z5r:=by
 intro vals s v s' lg h hl w
 unfold Z5r at h
 split at h
 ·rename_i b c
  cases h
  have hc:=of_decide_eq_true(hl _ List.mem_cons_self)
  have h2:=hl _(List.mem_cons_of_mem _(List.mem_singleton.2 rfl))
  subst hc
  by_cases hn:b.data.toList=[]
  ·have:=Zc(Zk Ziv)(Z9e b.data.toList)(Z3(zh(decide_eq_true hn)))(by rfl)(by rfl) w
   have hb:b=⟨⟨[]⟩⟩:=by
    apply ByteArray.ext
    apply Array.ext'
    exact hn
   rw[hn] at this ⊢
   rw[hb]
   exact this
  ·exact Zc(Zk Ziv)(Z9f b.data.toList)(Za rfl(Za h2(Za rfl(Za rfl(Z3(zh(decide_eq_false hn)))))))(by rfl)(by rfl) w
 ·cases h
def Ze5:Con:=alt 15 Z44(alt 69 Z0a Zo)
theorem Ziw:ConOk Ze5:=ZA Tryz.func15 rfl ZlN(ZA Tryz.func69 rfl Zhq Zd)
def wnI(F:Func):Code:=Z5(sP F 3)
def wnL(F:Func):Code:=cIn(cIn(Z0(sP F 3)))
theorem ZuH:Tryz.f32.body=some(za [sP Tryz.f32 0,sP Tryz.f32 1,sP Tryz.f32 2](.seq(.seq(wnI Tryz.f32)(.block 0(.loop(wnL Tryz.f32))))(sK Tryz.f32 4))):=by kernel_rfl
def wnT(s:List UInt8)(mn:Bool)(D:List UInt8):List Value:=[.tuple #[.bool mn,bR D],bR s,.tuple #[.bool mn,bR D],.bool mn,bR D]
def wnF(s:List UInt8)(mn:Bool)(D:List UInt8)(n:Int)(v7 v8:Value)(i:Int):List Value:=[bR s,undef,.int .i64 0,.bool false,.bool mn,bR D,.int .i64 n,v7,v8]++wnT s mn D++[bR D,.int .i64(D.length:Nat),.int .i64 i]
theorem Z0i(s:List UInt8)(mn:Bool):Zg(evL(Zi Tryz.prog Zf Ze5 true) 100 [sP Tryz.f32 0,sP Tryz.f32 1,sP Tryz.f32 2]([bR s]++List.replicate 36 undef,⟨0,[]⟩,[cmp mn])⟨[],[],[]⟩) 14 23 none([bR s,undef,.int .i64 0,.bool false,.bool mn,bR(sgT s).2,.int .i64 0,undef,undef]++wnT s mn(sgT s).2)⟨0,[]⟩ [((sgT s).1,mn)]:=⟨by kernel_rfl,by kernel_rfl,by kernel_rfl⟩
theorem Z9g(s:List UInt8)(mn:Bool)(D:List UInt8)(g:Nat→Value):Zg(evC(Zi Tryz.prog Zf Ze5 true) 100 false(wnI Tryz.f32)([bR s,undef,.int .i64 0,.bool false,.bool mn,bR D,.int .i64 0,undef,undef]++wnT s mn D++tl 23 g,⟨0,[]⟩,[])⟨[],[],[]⟩) 17 20 none(wnF s mn D 0 undef undef 0)⟨0,[]⟩ []:=⟨by kernel_rfl,by kernel_rfl,by kernel_rfl⟩
theorem Z9h(s:List UInt8)(mn:Bool)(D:List UInt8)(n:Int)(v7 v8:Value)(i:Int)(g:Nat→Value):Zg(evC(Zi Tryz.prog Zf Ze5 true) 100 false(wnL Tryz.f32)(wnF s mn D n v7 v8 i++tl 20 g,⟨0,[]⟩,[cmp false])⟨[],[],[]⟩) 17 20(some(some 0))(wnF s mn D n v7 v8 i)⟨0,[]⟩ [(decide(i<(D.length:Nat)),false)]:=⟨by kernel_rfl,by kernel_rfl,by kernel_rfl⟩
theorem Z9i(s:List UInt8)(mn:Bool)(D:List UInt8)(n:Int)(v7 v8:Value)(i:Int)(g:Nat→Value):Zg(evC(Zi Tryz.prog Zf Ze5 true) 100 false(wnL Tryz.f32)(wnF s mn D n v7 v8 i++tl 20 g,⟨0,[]⟩,[cmp true,cmp true])⟨[],[],[]⟩) 4 33(some none) [bR s,undef,.int .i64 0,.bool false]⟨0,[]⟩ [(decide(dvB(byR D i)≥10),true),(decide(0≤byR D i∧byR D i<256),true),(decide(0≤i∧i.toNat<D.length),true),(decide(i<(D.length:Nat)),true)]:=⟨by kernel_rfl,by kernel_rfl,by kernel_rfl⟩
theorem Z9j(s:List UInt8)(mn:Bool)(D:List UInt8)(n:Int)(v7 v8:Value)(i:Int)(g:Nat→Value):Zg(evC(Zi Tryz.prog Zf Ze5 true) 100 false(wnL Tryz.f32)(wnF s mn D n v7 v8 i++tl 20 g,⟨0,[]⟩,[cmp true,cmp false])⟨[],[],[]⟩) 17 20 none(wnF s mn D(if 10000000<IntKind.i64.wrap(IntKind.i64.wrap(n*10)+dvB(byR D i)) then 10000000 else IntKind.i64.wrap(IntKind.i64.wrap(n*10)+dvB(byR D i)))(.int .i64 i)(.int .i64(dvB(byR D i)))(IntKind.i64.wrap(i+1)))⟨0,[]⟩ [(decide(dvB(byR D i)≥10),false),(decide(0≤byR D i∧byR D i<256),true),(decide(0≤i∧i.toNat<D.length),true),(decide(i<(D.length:Nat)),true)]:=⟨by kernel_rfl,by kernel_rfl,by kernel_rfl⟩
def lNe(u:List UInt8)(d:Bool):Bool×Bool:=(!((⟨⟨u⟩⟩:ByteArray)==⟨⟨[]⟩⟩),d)
theorem ZlQ{u:List UInt8}{d:Bool}(h:decide(u≠[])=d):(lNe u d).1=(lNe u d).2:=by
 show(!((⟨⟨u⟩⟩:ByteArray)==⟨⟨[]⟩⟩))=d
 rw[Zc2,← h]
 by_cases hu:u=[]
 ·rw[decide_eq_true hu,decide_eq_false(fun h=>h hu)];rfl
 ·rw[decide_eq_false hu,decide_eq_true hu];rfl
theorem Z5s(s:List UInt8)(D:List UInt8)(n:Int)(v7 v8:Value)(i:Int)(d:Bool)(g:Nat→Value):Zg(evC(Zi Tryz.prog Zf Ze5 true) 100 false(sK Tryz.f32 4)(wnF s true D n v7 v8 i++tl 20 g,⟨0,[]⟩,[sam d])⟨[],[],[]⟩) 4 33(some none) [bR s,undef,.int .i64(IntKind.i64.wrap(0-n)),.bool d]⟨0,[]⟩ [lNe D d]:=⟨by kernel_rfl,by kernel_rfl,by kernel_rfl⟩
theorem Z5t(s:List UInt8)(D:List UInt8)(n:Int)(v7 v8:Value)(i:Int)(d:Bool)(g:Nat→Value):Zg(evC(Zi Tryz.prog Zf Ze5 true) 100 false(sK Tryz.f32 4)(wnF s false D n v7 v8 i++tl 20 g,⟨0,[]⟩,[sam d])⟨[],[],[]⟩) 4 33(some none) [bR s,undef,.int .i64 n,.bool d]⟨0,[]⟩ [lNe D d]:=⟨by kernel_rfl,by kernel_rfl,by kernel_rfl⟩
theorem Zix(l:List UInt8)(i:Int):decide(0≤byR l i∧byR l i<256)=true:=by
 unfold byR
 have:=(l.getD i.toNat 0).toNat_lt
 exact decide_eq_true(by omega)
def wnJ(s:List UInt8)(mn:Bool)(D:List UInt8)(X:Nat×Bool)(i:Nat)(y:Lf):Prop:=∃ (a:Nat)(v7 v8:Value)(g:Nat→Value),i≤D.length∧a≤10000000∧X=pwM 10000000 a(D.drop i)∧y.1=wnF s mn D a v7 v8 i++tl 20 g∧y.2.1=⟨0,[]⟩
def wnO(s:List UInt8)(mn:Bool)(D:List UInt8)(X:Nat×Bool)(y:Lf):Prop:=∃ (a i:Nat)(v7 v8:Value)(g:Nat→Value),a≤10000000∧X=(a,true)∧y.1=wnF s mn D a v7 v8 i++tl 20 g∧y.2.1=⟨0,[]⟩
def wnW(n:Int)(d:Bool):Value:= .tuple #[.int .i64 n,.bool d]
def wnB(X:Nat×Bool)(y:Lf):Prop:=X.2=false∧ZZ Tryz.prog Tryz.f32 y.1 y.2.1=some(wnW 0 false)
theorem Zp9{s:List UInt8}{mn:Bool}{D:List UInt8}{X:Nat×Bool}(h2:D.length≤100000)(r:Nat)(y:Lf)(h:∃ i,r=D.length-i∧wnJ s mn D X i y):
  Runs(Zi Tryz.prog Zf Ze5 true)(wnL Tryz.f32) y fun e z=>match e with | none=>∃ r',r'<r∧∃ i,r'=D.length-i∧wnJ s mn D X i z | some none=>wnB X z | some(some id')=>id'=0∧wnO s mn D X z:=by
 have hT:=Zk Ziw
 obtain⟨i,hr,a,v7,v8,g,hi,ha,hX,ht,hh⟩:=h
 obtain⟨t,h',sc⟩:=y
 simp only at ht hh
 subst ht hh
 by_cases hc:i<D.length
 ·have lA:decide(((i:Nat):Int)<(D.length:Nat))=true:=decide_eq_true(by omega)
  have lI:decide((0:Int)≤(i:Nat)∧((i:Nat):Int).toNat<D.length)=true:=decide_eq_true⟨by omega,by rw[Int.toNat_natCast];exact hc⟩
  have ew:IntKind.i64.wrap(((i:Nat):Int)+1)=((i+1:Nat):Int):=by rw[Zw(by omega)(by omega)];omega
  have ed:=Zbo hc
  have eC:lq8(D.getD i 0)=byR D(i:Nat):=by unfold lq8 byR;rw[Int.toNat_natCast]
  have bD:=ZzX(byR D(i:Nat))
  by_cases hd:dvB(byR D(i:Nat))<10
  ·have hg:=Z9j s mn D a v7 v8(i:Nat) g
   have ev:IntKind.i64.wrap(IntKind.i64.wrap(((a:Nat):Int)*10)+dvB(byR D(i:Nat)))=((a:Nat):Int)*10+dvB(byR D(i:Nat)):=by
    rw[Zw(n:=((a:Nat):Int)*10)(by omega)(by omega),Zw(by omega)(by omega)]
   have em:(if 10000000<((a:Nat):Int)*10+dvB(byR D(i:Nat)) then 10000000 else((a:Nat):Int)*10+dvB(byR D(i:Nat)))=((min(a*10+(dvB(byR D(i:Nat))).toNat) 10000000:Nat):Int):=by split<;>omega
   rw[ev,em,ew] at hg
   refine(Zb(s0:=sc) hT hg(Za(decide_eq_false(by omega))(Za(Zix D _)(Za lI(Z3 lA))))).mono fun e z he=> ?_
   obtain⟨rfl,⟨g',z1⟩,z2⟩:=he
   refine⟨D.length-(i+1),by omega,i+1,rfl,_,_,_,g',by omega,by omega,?_,z1,z2⟩
   rw[hX,ed,pwM,eC,if_pos hd]
  ·refine(Zb(s0:=sc) hT(Z9i s mn D a v7 v8(i:Nat) g)(Za(decide_eq_true(by omega))(Za(Zix D _)(Za lI(Z3 lA))))).mono fun e z he=> ?_
   obtain⟨rfl,⟨g',z1⟩,z2⟩:=he
   refine⟨by rw[hX,ed,pwM,eC,if_neg hd],by rw[z1,z2];rfl⟩
 ·have es:D.drop i=[]:=List.drop_eq_nil_of_le(by omega)
  refine(Zb(s0:=sc) hT(Z9h s mn D a v7 v8(i:Nat) g)(Z3(decide_eq_false(by omega)))).mono fun e z he=> ?_
  obtain⟨rfl,⟨g',z1⟩,z2⟩:=he
  exact⟨rfl,a,i,v7,v8,g',ha,by rw[hX,es];rfl,z1,z2⟩
theorem Ziy(s:List UInt8)(hs:s.length≤100000)(w:World):Calls Tryz.prog 32 #[bR s] w fun r w'=>r= .returned(if wnK s=true then wnW(wnP s) true else wnW 0 false)∧Zad w w':=by
 have hT:=Zk Ziw
 have hl2:=Zhn s
 obtain⟨V,hV⟩:∃ V,V=(if wnK s=true then wnW(wnP s) true else wnW 0 false):=⟨_,rfl⟩
 rw[← hV]
 refine ZP(T:=Zi Tryz.prog Zf Ze5 true) Tryz.func32 ZuH(by rfl)(by rw[hV];split<;>rfl) ?_ w
 refine Zx hT(Z0i s(sgT s).1)(Z3 rfl) fun g=> ?_
 obtain⟨mn,hmn⟩:∃ mn,mn=(sgT s).1:=⟨_,rfl⟩
 obtain⟨D,hD⟩:∃ D,D=(sgT s).2:=⟨_,rfl⟩
 rw[← hmn,← hD]
 obtain⟨X,hX⟩:∃ X,X=pwM 10000000 0 D:=⟨_,rfl⟩
 have eK:wnK s=(X.2 && decide(D≠[])):=by unfold wnK;rw[← hD,hX,Zu0]
 have eP:wnP s=if mn=true then -((X.1:Nat):Int) else((X.1:Nat):Int):=by unfold wnP;rw[← hD,← hmn,hX]
 refine Runs.seq(P1:=fun e y=>match e with | none=>wnO s mn D X y | some none=>wnB X y | some(some _)=>False) ?_ ?_ ?_
 ·refine Runs.seq(P1:=fun e y=>e=none∧∃ g',y.1=wnF s mn D 0 undef undef 0++tl 20 g'∧y.2.1=⟨0,[]⟩) ?_ ?_(fun e y he=>by cases he.1)
  ·refine(Zb hT(Z9g s mn D g) ZaZ).mono fun e z he=> ?_
   obtain⟨rfl,⟨g',z1⟩,z2⟩:=he
   exact⟨rfl,g',z1,z2⟩
  ·rintro⟨t,hh,sc⟩⟨_,g',e1,e2⟩
   simp only at e1 e2
   subst e1 e2
   exact Runs.forLoop(R:=wnB X)(P:=wnO s mn D X)(fun r y=>∃ i,r=D.length-i∧wnJ s mn D X i y)(Zp9(by rw[hD];omega))(n:=D.length-0)⟨0,rfl,0,undef,undef,g',Nat.zero_le _,Nat.zero_le _,hX,rfl,rfl⟩
 ·rintro⟨t,hh,sc⟩⟨a,i,v7,v8,g',ha,hx,e1,e2⟩
  simp only at e1 e2
  subst e1 e2
  rw[hx] at eK eP
  have eV:V=wnW(if mn=true then -(a:Int) else(a:Int))(decide(D≠[])):=by
   rw[hV,eK,eP]
   by_cases hd:D=[]
   ·have ha0:a=0:=by
     rw[hd] at hX
     rw[hx] at hX
     exact congrArg Prod.fst hX
    rw[decide_eq_false(fun h=>h hd),Bool.and_false,if_neg(by decide),ha0]
    cases mn<;>rfl
   ·rw[decide_eq_true hd,Bool.and_true,if_pos rfl]
  rw[eV]
  cases mn with
  | true=>
   have hg:=Z5s s D a v7 v8 i(decide(D≠[])) g'
   rw[Zw(n:=0-((a:Nat):Int))(by omega)(by omega),show(0:Int)-((a:Nat):Int)= -((a:Nat):Int) by omega] at hg
   refine(Zb(s0:=sc) hT hg(Z3(ZlQ rfl))).mono fun e z he=> ?_
   obtain⟨rfl,⟨g2,z1⟩,z2⟩:=he
   exact⟨.inr rfl,by rw[z1,z2,if_pos rfl];rfl⟩
  | false=>
   refine(Zb(s0:=sc) hT(Z5t s D a v7 v8 i(decide(D≠[])) g')(Z3(ZlQ rfl))).mono fun e z he=> ?_
   obtain⟨rfl,⟨g2,z1⟩,z2⟩:=he
   exact⟨.inr rfl,by rw[z1,z2,if_neg(by decide)];rfl⟩
 ·rintro e y he
  match e,he with
  | none,he=>
   refine⟨.inr rfl,he.2.trans ?_⟩
   rw[hV,eK,he.1]
   rfl
def Z5u:Ans:=fun vals s=>
 match vals,s with
 | [.string b],.inr(.inr(.inr(.inl true)))::s'=>some(wnW(wnP b.data.toList) true,s',[(wnK b.data.toList,true),(decide(b.data.toList.length≤100000),true)])
 | [.string b],.inr(.inr(.inr(.inl false)))::s'=>some(wnW 0 false,s',[(wnK b.data.toList,false),(decide(b.data.toList.length≤100000),true)])
 | _,_=>none
theorem ZuI:ZT 32 Z5u:=by
 intro vals s v s' lg h hl w
 unfold Z5u at h
 split at h
 ·rename_i b s2
  cases h
  have h1:wnK b.data.toList=true:=hl _ List.mem_cons_self
  have h2:=of_decide_eq_true(hl _(List.mem_cons_of_mem _(List.mem_singleton.2 rfl)))
  have:=Ziy _ h2 w
  rw[if_pos h1] at this
  exact this
 ·rename_i b s2
  cases h
  have h1:wnK b.data.toList=false:=hl _ List.mem_cons_self
  have h2:=of_decide_eq_true(hl _(List.mem_cons_of_mem _(List.mem_singleton.2 rfl)))
  have:=Ziy _ h2 w
  rw[if_neg(by rw[h1];decide)] at this
  exact this
 ·cases h
end Go.Proofs.YtjlponbdflkbjaaGreatDoor
namespace Go.Proofs.YtjlponbdflkbjaaGreatDoor.Na
open Go.KRun
set_option maxRecDepth 100000
theorem ZyU:Z4 []:=fun _ h=>by cases h
def bS(l:List UInt8):Value:= .string⟨⟨l⟩⟩
theorem Zj6(l l':List UInt8):((⟨⟨l⟩⟩:ByteArray)==⟨⟨l'⟩⟩)=decide(l=l'):=by
 rw[beq_toListBytes,ByteArray.toList_eq,ByteArray.toList_eq]
 show(l==l')=decide(l=l')
 by_cases h:l=l'
 ·rw[decide_eq_true h];simpa using h
 ·rw[decide_eq_false h];simpa using h
def tlP(F:Func):Code:=Z5(Zt F)
def tlL(F:Func):Code:=cIn(cIn(Z5(Z0(Zt F))))
def tlE(F:Func):Code:=Z0(Z0(Zt F))
theorem ZuJ:Tryz.f101.body=some(za [tlP Tryz.f101](.seq(.block 0(.loop(tlL Tryz.f101)))(tlE Tryz.f101))):=by kernel_rfl
def tlF(l:List UInt8)(c:Int):List Value:=[bS l,.int .u8 c,undef,undef,bS []]
theorem Z0j(l:List UInt8)(c:Int):Zg(evL(Zi Tryz.prog Zf Zo true) 100 [tlP Tryz.f101]([bS l,.int .u8 c]++List.replicate 15 undef,⟨0,[]⟩,[])⟨[],[],[]⟩) 5 12 none(tlF l c)⟨0,[]⟩ []:=⟨by kernel_rfl,by kernel_rfl,by kernel_rfl⟩
theorem Z5v(x:UInt8)(l:List UInt8)(c:Int)(g:Nat→Value):Zg(evC(Zi Tryz.prog Zf Zo true) 100 false(tlL Tryz.f101)(tlF(x::l) c++tl 12 g,⟨0,[]⟩,[cmp true,cmp true,sam true])⟨[],[],[]⟩) 5 12 none(tlF l c)⟨0,[]⟩ [(decide((0:Int)≤1∧(1:Int)≤((x::l).length:Nat)),true),(((x.toNat:Nat):Int)==c,true),(decide((0:Int)≤0∧0<(x::l).length),true),(decide((((x::l).length:Nat):Int)>0),true)]:=⟨by kernel_rfl,by kernel_rfl,by kernel_rfl⟩
theorem Z0k(x:UInt8)(l:List UInt8)(c:Int)(g:Nat→Value):Zg(evC(Zi Tryz.prog Zf Zo true) 100 false(tlL Tryz.f101)(tlF(x::l) c++tl 12 g,⟨0,[]⟩,[cmp true,cmp false])⟨[],[],[]⟩) 5 12(some(some 0))(tlF(x::l) c)⟨0,[]⟩ [(((x.toNat:Nat):Int)==c,false),(decide((0:Int)≤0∧0<(x::l).length),true),(decide((((x::l).length:Nat):Int)>0),true)]:=⟨by kernel_rfl,by kernel_rfl,by kernel_rfl⟩
theorem Z0l(c:Int)(g:Nat→Value):Zg(evC(Zi Tryz.prog Zf Zo true) 100 false(tlL Tryz.f101)(tlF [] c++tl 12 g,⟨0,[]⟩,[cmp false])⟨[],[],[]⟩) 5 12(some(some 0))(tlF [] c)⟨0,[]⟩ [(decide(((0:Nat):Int)>0),false)]:=⟨by kernel_rfl,by kernel_rfl,by kernel_rfl⟩
theorem Z0m(l:List UInt8)(c:Int)(g:Nat→Value):Zg(evC(Zi Tryz.prog Zf Zo true) 100 false(tlE Tryz.f101)(tlF l c++tl 12 g,⟨0,[]⟩,[])⟨[],[],[]⟩) 5 12(some none) [bS l,.int .u8 c,undef,undef,bS l]⟨0,[]⟩ []:=⟨by kernel_rfl,by kernel_rfl,by kernel_rfl⟩
def trL(c:Int)(l:List UInt8):List UInt8:=l.dropWhile fun x=>((x.toNat:Nat):Int)==c
theorem ZuK(c:Int)(L:List UInt8)(n:Nat)(x:Lf)(h:∃ (l:List UInt8)(g:Nat→Value),x.1=tlF l c++tl 12 g∧x.2.1=⟨0,[]⟩∧trL c l=trL c L∧n=l.length):Runs(Zi Tryz.prog Zf Zo true)(tlL Tryz.f101) x fun e y=>match e with | none=>∃ n',n'<n∧∃ (l:List UInt8)(g:Nat→Value),y.1=tlF l c++tl 12 g∧y.2.1=⟨0,[]⟩∧trL c l=trL c L∧n'=l.length | some none=>False | some(some id')=>id'=0∧∃ g:Nat→Value,y.1=tlF(trL c L) c++tl 12 g∧y.2.1=⟨0,[]⟩:=by
 obtain⟨l,g,e1,e2,h1,h2⟩:=h
 obtain⟨t,hh,s⟩:=x
 have e1:t=_:=e1
 have e2:hh=_:=e2
 subst e1 e2
 have T:=Zk Zd
 cases l with
 | nil=>
  refine(Zb T(Z0l c g)(Z3(by decide))).mono fun e z he=> ?_
  obtain⟨rfl,⟨g',z1⟩,z2⟩:=he
  have:trL c L=[]:=h1.symm
  rw[this]
  exact⟨rfl,g',z1,z2⟩
 | cons x l=>
  by_cases hx:((x.toNat:Nat):Int)=c
  ·refine(Zb T(Z5v x l c g)(Za(decide_eq_true(by rw[List.length_cons];omega))(Za(by simpa using hx)(Za(decide_eq_true(by rw[List.length_cons];omega))(Z3(decide_eq_true(by rw[List.length_cons];omega))))))).mono fun e z he=> ?_
   obtain⟨rfl,⟨g',z1⟩,z2⟩:=he
   refine⟨l.length,by rw[h2,List.length_cons];omega,l,g',z1,z2,?_,rfl⟩
   rw[← h1]
   unfold trL
   rw[List.dropWhile_cons_of_pos(by simpa using hx)]
  ·refine(Zb T(Z0k x l c g)(Za(by simpa using hx)(Za(decide_eq_true(by rw[List.length_cons];omega))(Z3(decide_eq_true(by rw[List.length_cons];omega)))))).mono fun e z he=> ?_
   obtain⟨rfl,⟨g',z1⟩,z2⟩:=he
   have:trL c L=x::l:=by
    rw[← h1]
    unfold trL
    rw[List.dropWhile_cons_of_neg(by simpa using hx)]
   rw[this]
   exact⟨rfl,g',z1,z2⟩
theorem ZlR(l:List UInt8)(c:Int)(w:World):Calls Tryz.prog 101 #[bS l,.int .u8 c] w fun r w'=>r= .returned(bS(trL c l))∧Zad w w':=by
 have hT:=Zk Zd
 refine ZP(T:=Zi Tryz.prog Zf Zo true) Tryz.func101 ZuJ(by rfl)(by rfl) ?_ w
 refine Zx hT(Z0j l c) ZyU fun g=> ?_
 refine Runs.seq(P1:=fun e y=>e=none∧∃ g:Nat→Value,y.1=tlF(trL c l) c++tl 12 g∧y.2.1=⟨0,[]⟩) ?_ ?_(fun e y he=>by cases he.1)
 ·refine(Runs.forLoop(R:=fun _=>False)(P:=fun y=>∃ g:Nat→Value,y.1=tlF(trL c l) c++tl 12 g∧y.2.1=⟨0,[]⟩)(fun n x=>∃ (l':List UInt8)(g:Nat→Value),x.1=tlF l' c++tl 12 g∧x.2.1=⟨0,[]⟩∧trL c l'=trL c l∧n=l'.length)(ZuK c l)(n:=l.length)⟨l,g,rfl,rfl,rfl,rfl⟩).mono fun e z hz=> ?_
  match e,hz with
  | none,hz=>exact⟨rfl,hz⟩
 ·intro y he
  obtain⟨_,g',e1,e2⟩:=he
  obtain⟨t,hh,s⟩:=y
  have e1:t=_:=e1
  have e2:hh=_:=e2
  subst e1 e2
  refine(Zb hT(Z0m(trL c l) c g') ZyU).mono fun e z hz=> ?_
  obtain⟨rfl,⟨g2,z1⟩,z2⟩:=hz
  exact⟨.inr rfl,by rw[z1,z2];rfl⟩
def Z5w:Ans:=fun vals s=>
 match vals with
 | [.string b,.int .u8 c]=>some(bS(trL c b.data.toList),s,[])
 | _=>none
theorem ZuL:ZT 101 Z5w:=by
 intro vals s v s' lg h hl w
 unfold Z5w at h
 split at h
 ·cases h
  exact ZlR _ _ w
 ·cases h
def ZuM:Con:=alt 101 Z5w Zo
theorem Ziz:ConOk ZuM:=ZA Tryz.func101 rfl ZuL Zd
theorem Z9k(l:List UInt8):Z7(Zn(Zi Tryz.prog Zf ZuM true) 100 71 [bS l,bS [48]] [sam true])(bS l) [((⟨⟨l⟩⟩:ByteArray)==⟨⟨[]⟩⟩,true)]:=⟨by kernel_rfl,by kernel_rfl,by kernel_rfl,by kernel_rfl⟩
theorem Z9l(l:List UInt8):Z7(Zn(Zi Tryz.prog Zf ZuM true) 100 71 [bS l,bS [48]] [sam false])(bS(trL 48 l)) [(true,true),(true,true),((⟨⟨l⟩⟩:ByteArray)==⟨⟨[]⟩⟩,false)]:=⟨by kernel_rfl,by kernel_rfl,by kernel_rfl,by kernel_rfl⟩
def Z5x:Ans:=fun vals s=>
 match vals with
 | [.string b,.string⟨⟨[c]⟩⟩]=>some(bS(trL 48 b.data.toList),s,[(decide(c=48),true)])
 | _=>none
theorem ZuN:ZT 71 Z5x:=by
 intro vals s v s' lg h hl w
 unfold Z5x at h
 split at h
 ·rename_i b c
  cases h
  have hc:=of_decide_eq_true(hl _(List.mem_singleton.2 rfl))
  subst hc
  by_cases hn:b.data.toList=[]
  ·have:=Zc(Zk Ziz)(Z9k b.data.toList)(Z3((Zj6 _ _).trans(decide_eq_true hn)))(by rfl)(by rfl) w
   rw[hn] at this ⊢
   have hb:b=⟨⟨[]⟩⟩:=by
    apply ByteArray.ext
    apply Array.ext'
    exact hn
   rw[hb]
   exact this
  ·exact Zc(Zk Ziz)(Z9l b.data.toList)(Za rfl(Za rfl(Z3((Zj6 _ _).trans(decide_eq_false hn)))))(by rfl)(by rfl) w
 ·cases h
end Go.Proofs.YtjlponbdflkbjaaGreatDoor.Na
namespace Go.KRun
theorem Runs.scope{T:Tab}{c:Code}{x:Lf}{P:Ex→Lf→Prop}(h:Runs T c x P):Runs T(.scope c) x P:=fun m B a w R Q hQ=>wp_scope_straight(h m B a w R _ fun e y he a' w' hR=>by
 have:=hQ e y he a' w' hR
 match e,this with
 | none,t=>exact t
 | some none,t=>exact t
 | some(some id),t=>exact t)
end Go.KRun
namespace Go.Proofs.YtjlponbdflkbjaaGreatDoor
open Go.KRun Go.Nt Go.Rd
set_option maxRecDepth 100000
def ZdW:Con:=alt 69 Z0a(alt 70 Z5o(alt 71 Na.Z5x(alt 72 Z5r Zo)))
theorem Zi0:ConOk ZdW:=ZA Tryz.func69 rfl Zhq(ZA Tryz.func70 rfl ZuB(ZA Tryz.func71 rfl Na.ZuN(ZA Tryz.func72 rfl ZuG Zd)))
def tdS(F:Func):Code:=cIn(Z0(Zt F))
def tdL(F:Func):Code:=cIn(cIn(Z5(Z0(Z0(tdS F)))))
def tdE(F:Func):Code:=Z0(Z0(Z0(tdS F)))
theorem Zhr:Tryz.f31.body=some(za [Z5(Zt Tryz.f31)](.scope(za [Z5(tdS Tryz.f31),Z5(Z0(tdS Tryz.f31))](.seq(.block 0(.loop(tdL Tryz.f31)))(tdE Tryz.f31))))):=by kernel_rfl
def nuB(b:Int)(D:List UInt8)(k P:Int):List Value×TypeId:=([.int .i64 b,bR D,.int .i64 k,.int .i64 P],47)
def tdM:Hp:=⟨1,[nuB 0 [] 0 0]⟩
def tdF(s:List UInt8)(b i:Int)(p:Bool)(v9:Value):List Value:=[bR s,.int .i64 b,undef,undef,pO 0,bR [],.bool false,.int .i64 i,.bool p,v9]
theorem Z5y(s:List UInt8)(b:Int):Zg(evL(Zi Tryz.prog Zf ZdW true) 100 [Z5(Zt Tryz.f31)]([bR s,.int .i64 b]++List.replicate 66 undef,⟨0,[]⟩,[])⟨[],[],[]⟩) 7 61 none [bR s,.int .i64 b,undef,undef,pO 0,bR [],.bool false] tdM []:=⟨by kernel_rfl,by kernel_rfl,by kernel_rfl⟩
theorem Z5z(s:List UInt8)(b:Int)(g:Nat→Value):Zg(evL(Zi Tryz.prog Zf ZdW true) 100 [Z5(tdS Tryz.f31),Z5(Z0(tdS Tryz.f31))]([bR s,.int .i64 b,undef,undef,pO 0,bR [],.bool false]++tl 61 g,tdM,[])⟨[],[],[]⟩) 9 59 none [bR s,.int .i64 b,undef,undef,pO 0,bR [],.bool false,.int .i64 0,.bool false] tdM []:=⟨by kernel_rfl,by kernel_rfl,by kernel_rfl⟩
theorem Z9m(s:List UInt8)(b i:Int)(p:Bool)(v9:Value)(g:Nat→Value):Zg(evC(Zi Tryz.prog Zf ZdW true) 100 false(tdL Tryz.f31)(tdF s b i p v9++tl 58 g,tdM,[cmp false])⟨[],[],[]⟩) 10 58(some(some 0))(tdF s b i p v9) tdM [(decide(i<(s.length:Nat)),false)]:=⟨by kernel_rfl,by kernel_rfl,by kernel_rfl⟩
theorem Z9n(s:List UInt8)(b i:Int)(p:Bool)(v9:Value)(g:Nat→Value):Zg(evC(Zi Tryz.prog Zf ZdW true) 100 false(tdL Tryz.f31)(tdF s b i p v9++tl 58 g,tdM,[cmp true,cmp true])⟨[],[],[]⟩) 10 58 none(tdF s b(IntKind.i64.wrap(i+1)) p(.int .u8(byR s i))) tdM [(decide(dvB(byR s i)<b),true),(decide(0≤byR s i∧byR s i<256),true),(decide(0≤i∧i.toNat<s.length),true),(decide(i<(s.length:Nat)),true)]:=⟨by kernel_rfl,by kernel_rfl,by kernel_rfl⟩
theorem Z9o(s:List UInt8)(b i:Int)(v9:Value)(g:Nat→Value):Zg(evC(Zi Tryz.prog Zf ZdW true) 100 false(tdL Tryz.f31)(tdF s b i false v9++tl 58 g,tdM,[cmp true,cmp false,cmp true])⟨[],[],[]⟩) 10 58 none(tdF s b(IntKind.i64.wrap(i+1)) true(.int .u8(byR s i))) tdM [(byR s i==46,true),(decide(dvB(byR s i)<b),false),(decide(0≤byR s i∧byR s i<256),true),(decide(0≤i∧i.toNat<s.length),true),(decide(i<(s.length:Nat)),true)]:=⟨by kernel_rfl,by kernel_rfl,by kernel_rfl⟩
theorem Z50(s:List UInt8)(b i:Int)(p:Bool)(v9:Value)(g:Nat→Value):Zg(evC(Zi Tryz.prog Zf ZdW true) 100 false(tdL Tryz.f31)(tdF s b i p v9++tl 58 g,tdM,[cmp true,cmp false,cmp false])⟨[],[],[]⟩) 10 58(some(some 0))(tdF s b i p(.int .u8(byR s i))) tdM [(byR s i==46,false),(decide(dvB(byR s i)<b),false),(decide(0≤byR s i∧byR s i<256),true),(decide(0≤i∧i.toNat<s.length),true),(decide(i<(s.length:Nat)),true)]:=⟨by kernel_rfl,by kernel_rfl,by kernel_rfl⟩
theorem Z51(s:List UInt8)(b i:Int)(v9:Value)(g:Nat→Value):Zg(evC(Zi Tryz.prog Zf ZdW true) 100 false(tdL Tryz.f31)(tdF s b i true v9++tl 58 g,tdM,[cmp true,cmp false,cmp true])⟨[],[],[]⟩) 10 58(some(some 0))(tdF s b i true(.int .u8(byR s i))) tdM [(byR s i==46,true),(decide(dvB(byR s i)<b),false),(decide(0≤byR s i∧byR s i<256),true),(decide(0≤i∧i.toNat<s.length),true),(decide(i<(s.length:Nat)),true)]:=⟨by kernel_rfl,by kernel_rfl,by kernel_rfl⟩
def alD(u:List UInt8):List UInt8:=ctA u++ctB u
def tdK(u:List UInt8):Int:=IntKind.i64.wrap(((ctA u).length:Nat)-IntKind.i64.wrap(((alD u).length:Nat)-((trZ(alD u)).length:Nat)))
theorem Z9p(s:List UInt8)(b i:Int)(p:Bool)(v9:Value)(d d':Bool)(g:Nat→Value):Zg(evC(Zi Tryz.prog Zf ZdW true) 100 false(tdE Tryz.f31)(tdF s b i p v9++tl 58 g,tdM,[sam true,cmp d,sam true,sam true,sam d'])⟨[],[],[]⟩) 7 61(some none) [bR s,.int .i64 b,undef,undef,pO 0,bR(s.drop i.toNat),.bool d']⟨2,[nuB b(nuD(alD(s.take i.toNat)))(tdK(s.take i.toNat)) 0,nuB b(nuD(alD(s.take i.toNat)))(tdK(s.take i.toNat)) 0]⟩ [lNe(alD(s.take i.toNat)) d',(decide(0≤i∧i≤(s.length:Nat)),true),(true,true),(decide((trZ(alD(s.take i.toNat))).length≤100000),true),(true,true),(decide((ctA(s.take i.toNat)).length+(ctB(s.take i.toNat)).length≤9223372036854775807),true),(decide(0≤Lib.indexByte(s.take i.toNat) 46),d),(true,true),(decide((s.take i.toNat).length≤100000),true),(decide(0≤i∧i≤(s.length:Nat)),true)]:=⟨by kernel_rfl,by kernel_rfl,by kernel_rfl⟩
def tdJ(s:List UInt8)(b:Int)(E i:Nat)(y:Lf):Prop:=∃ (p:Bool)(v9:Value)(g:Nat→Value),i≤s.length∧E=i+en1 b p(s.drop i)∧y.1=tdF s b i p v9++tl 58 g∧y.2.1=tdM
def tdO(s:List UInt8)(b:Int)(E:Nat)(y:Lf):Prop:=∃ (p:Bool)(v9:Value)(g:Nat→Value),E≤s.length∧y.1=tdF s b E p v9++tl 58 g∧y.2.1=tdM
theorem ZpA{s:List UInt8}{b:Int}{E:Nat}(h2:s.length≤100000)(r:Nat)(y:Lf)(h:∃ i,r=s.length-i∧tdJ s b E i y):
  Runs(Zi Tryz.prog Zf ZdW true)(tdL Tryz.f31) y fun e z=>match e with | none=>∃ r',r'<r∧∃ i,r'=s.length-i∧tdJ s b E i z | some none=>False | some(some id')=>id'=0∧tdO s b E z:=by
 have hT:=Zk Zi0
 obtain⟨i,hr,p,v9,g,hi,hE,ht,hh⟩:=h
 obtain⟨t,h',sc⟩:=y
 simp only at ht hh
 subst ht hh
 by_cases hc:i<s.length
 ·have lA:decide(((i:Nat):Int)<(s.length:Nat))=true:=decide_eq_true(by omega)
  have lI:decide((0:Int)≤(i:Nat)∧((i:Nat):Int).toNat<s.length)=true:=decide_eq_true⟨by omega,by rw[Int.toNat_natCast];exact hc⟩
  have ew:IntKind.i64.wrap(((i:Nat):Int)+1)=((i+1:Nat):Int):=by rw[Zw(by omega)(by omega)];omega
  have ed:=Zbo hc
  have eC:lq8(s.getD i 0)=byR s(i:Nat):=by unfold lq8 byR;rw[Int.toNat_natCast]
  have lB:=Zix s(i:Nat)
  rw[ed,en1,eC] at hE
  by_cases hd:dvB(byR s(i:Nat))<b
  ·rw[if_pos hd] at hE
   have hg:=Z9n s b(i:Nat) p v9 g
   rw[ew] at hg
   refine(Zb(s0:=sc) hT hg(Za(decide_eq_true hd)(Za lB(Za lI(Z3 lA))))).mono fun e z he=> ?_
   obtain⟨rfl,⟨g',z1⟩,z2⟩:=he
   exact⟨s.length-(i+1),by omega,i+1,rfl,p,_,g',by omega,by omega,z1,z2⟩
  ·rw[if_neg hd] at hE
   have lD:decide(dvB(byR s(i:Nat))<b)=false:=decide_eq_false hd
   by_cases h46:byR s(i:Nat)=46
   ·have l46:(byR s(i:Nat)==46)=true:=by simpa using h46
    cases p with
    | false=>
     rw[if_pos⟨h46,rfl⟩] at hE
     have hg:=Z9o s b(i:Nat) v9 g
     rw[ew] at hg
     refine(Zb(s0:=sc) hT hg(Za l46(Za lD(Za lB(Za lI(Z3 lA)))))).mono fun e z he=> ?_
     obtain⟨rfl,⟨g',z1⟩,z2⟩:=he
     exact⟨s.length-(i+1),by omega,i+1,rfl,true,_,g',by omega,by omega,z1,z2⟩
    | true=>
     rw[if_neg(fun h=>by cases h.2)] at hE
     refine(Zb(s0:=sc) hT(Z51 s b(i:Nat) v9 g)(Za l46(Za lD(Za lB(Za lI(Z3 lA)))))).mono fun e z he=> ?_
     obtain⟨rfl,⟨g',z1⟩,z2⟩:=he
     have:E=i:=by omega
     subst this
     exact⟨rfl,true,_,g',hi,z1,z2⟩
   ·rw[if_neg(fun h=>h46 h.1)] at hE
    refine(Zb(s0:=sc) hT(Z50 s b(i:Nat) p v9 g)(Za(by simpa using h46)(Za lD(Za lB(Za lI(Z3 lA)))))).mono fun e z he=> ?_
    obtain⟨rfl,⟨g',z1⟩,z2⟩:=he
    have:E=i:=by omega
    subst this
    exact⟨rfl,p,_,g',hi,z1,z2⟩
 ·have es:s.drop i=[]:=List.drop_eq_nil_of_le(by omega)
  rw[es] at hE
  have:E=i:=hE
  subst this
  refine(Zb(s0:=sc) hT(Z9m s b(E:Nat) p v9 g)(Z3(decide_eq_false(by omega)))).mono fun e z he=> ?_
  obtain⟨rfl,⟨g',z1⟩,z2⟩:=he
  exact⟨rfl,p,v9,g',hi,z1,z2⟩
def tdW(b:Int)(l:List UInt8)(d:Bool):Value:= .tuple #[.agg #[.int .i64 b,bR(nuD(sc1 b false l).1),.int .i64(((trZ(sc1 b false l).1).length:Nat)-((sc1 b false l).2.1:Nat)),.int .i64 0],bR(sc1 b false l).2.2,.bool d]
theorem ZpB(s:List UInt8)(b:Int)(hb:b=10∨b=16)(hs:s.length≤100000)(w:World):Calls Tryz.prog 31 #[bR s,.int .i64 b] w fun r w'=>r= .returned(tdW b s(decide((sc1 b false s).1≠[])))∧Zad w w':=by
 have hT:=Zk Zi0
 refine ZP(T:=Zi Tryz.prog Zf ZdW true) Tryz.func31 Zhr(by rfl)(by rfl) ?_ w
 refine Zx hT(Z5y s b) ZaZ fun g=> ?_
 refine Runs.scope ?_
 refine Zx hT(Z5z s b g) ZaZ fun g1=> ?_
 obtain⟨E,hE⟩:∃ E,E=en1 b false s:=⟨_,rfl⟩
 have hEl:=ZsQ b false s
 rw[← hE] at hEl
 refine Runs.seq(P1:=fun e y=>match e with | none=>tdO s b E y | some none=>False | some(some _)=>False) ?_ ?_ ?_
 ·have e0:[bR s,.int .i64 b,undef,undef,pO 0,bR [],.bool false,.int .i64 0,.bool false]++tl 59 g1=tdF s b 0 false(g1 0)++tl 58(fun n=>g1(n+1)):=by rfl
  rw[e0]
  exact Runs.forLoop(R:=fun _=>False)(P:=tdO s b E)(fun r y=>∃ i,r=s.length-i∧tdJ s b E i y)(ZpA hs)(n:=s.length-0)⟨0,rfl,false,_,_,Nat.zero_le _,by rw[hE,Nat.zero_add,List.drop_zero],rfl,rfl⟩
 ·rintro⟨t,hh,sc⟩⟨p,v9,g',hEs,e1,e2⟩
  simp only at e1 e2
  subst e1 e2
  have hS:=ZlI hb s
  rw[← hE] at hS
  obtain⟨u,hu⟩:∃ u,u=s.take E:=⟨_,rfl⟩
  rw[← hu] at hS
  have lu:u.length≤100000:=by rw[hu,List.length_take];omega
  have la:(alD u).length=(ctA u).length+(ctB u).length:=List.length_append
  have lz:=ZcY(alD u)
  have lA:(ctA u).length+(ctB u).length≤u.length:=by
   unfold ctA ctB
   split
   ·rw[List.length_take,List.length_drop];omega
   ·exact Nat.le_refl _
  have hg:=Z9p s b(E:Nat) p v9(decide(0≤Lib.indexByte u 46))(decide(alD u≠[])) g'
  rw[Int.toNat_natCast,← hu] at hg
  have ek:tdK u=((trZ(alD u)).length:Nat)-((ctB u).length:Nat):=by
   unfold tdK
   rw[Zw(n:=((alD u).length:Nat)-((trZ(alD u)).length:Nat))(by omega)(by omega),Zw(by omega)(by omega)]
   omega
  have lE:decide((0:Int)≤(E:Nat)∧((E:Nat):Int)≤(s.length:Nat))=true:=decide_eq_true⟨by omega,by omega⟩
  refine(Zb(s0:=sc) hT hg(Za(ZlQ rfl)(Za lE(Za rfl(Za(decide_eq_true(by omega))(Za rfl(Za(decide_eq_true(by omega))(Za rfl(Za rfl(Za(decide_eq_true lu)(Z3 lE))))))))))).mono fun e z he=> ?_
  obtain⟨rfl,⟨g2,z1⟩,z2⟩:=he
  refine⟨.inr rfl,?_⟩
  rw[z1,z2,ek]
  unfold tdW
  rw[hS]
  rfl
 ·rintro e y he
  match e,he with
  | none,he=>exact he.elim
def Z52:Ans:=fun vals s=>
 match vals,s with
 | [.string a,.int .i64 b],.inr(.inr(.inr(.inl d)))::s'=>some(tdW b a.data.toList d,s',[(decide((sc1 b false a.data.toList).1≠[]),d),(decide((b=10∨b=16)∧a.data.toList.length≤100000),true)])
 | _,_=>none
theorem ZuO:ZT 31 Z52:=by
 intro vals s v s' lg h hl w
 unfold Z52 at h
 split at h
 ·rename_i a b d s2
  cases h
  have h1:decide((sc1 b false a.data.toList).1≠[])=d:=hl _ List.mem_cons_self
  have h2:=of_decide_eq_true(hl _(List.mem_cons_of_mem _(List.mem_singleton.2 rfl)))
  have:=ZpB a.data.toList b h2.1 h2.2 w
  rw[h1] at this
  exact this
 ·cases h
end Go.Proofs.YtjlponbdflkbjaaGreatDoor
namespace Go.Proofs.YtjlponbdflkbjaaGreatDoor
open Go.KRun Go.Wd
def vW(x:W4):Value:= .agg #[.int .u64 x.a,.int .u64 x.b,.int .u64 x.c,.int .u64 x.d]
def w4:Value→Option W4
 | .agg cs=>
  match cs.toList with
  | [.int .u64 a,.int .u64 b,.int .u64 c,.int .u64 d]=>some⟨a,b,c,d⟩
  | _=>none
 | _=>none
theorem ZdX{v:Value}{x:W4}(h:w4 v=some x):v=vW x:=by
 unfold w4 at h
 split at h
 ·rename_i cs
  split at h
  ·rename_i a b c d hc
   cases h
   obtain⟨l⟩:=cs
   simp only at hc
   subst hc
   rfl
  ·cases h
 ·cases h
def g2(k:W4→W4→List Dec→Option(Value×List Dec×Log)):Ans:=fun vals s=>
 match vals with
 | [x,y]=>
  match w4 x,w4 y with
  | some a,some b=>
   match k a b s with
   | some r=>some(r.1,r.2.1,(decide(a.ok∧b.ok),true)::r.2.2)
   | none=>none
  | _,_=>none
 | _=>none
theorem Z53{f:Nat}{k:W4→W4→List Dec→Option(Value×List Dec×Log)}
  (hk:∀ x y:W4,x.ok→y.ok→∀ s v s' lg,k x y s=some(v,s',lg)→Z4 lg→∀ w,Calls Tryz.prog f #[vW x,vW y] w fun e w'=>e= .returned v∧Zad w w'):ZT f(g2 k):=by
 intro vals s v s' lg h hl w
 unfold g2 at h
 split at h
 ·split at h
  ·rename_i a b ha hb
   split at h
   ·rename_i r hr
    cases h
    have h1:=hl _(List.mem_cons_self)
    simp only[decide_eq_true_eq] at h1
    rw[ZdX ha,ZdX hb]
    exact hk a b h1.1 h1.2 s r.1 r.2.1 r.2.2 hr(fun p hp=>hl p(List.mem_cons_of_mem _ hp)) w
   ·cases h
  ·cases h
 ·cases h
def Zi1(k:W4→W4→Value):W4→W4→List Dec→Option(Value×List Dec×Log):=fun x y s=>some(k x y,s,[])
theorem Zg0{f:Nat}{k:W4→W4→Value}(hk:∀ x y:W4,x.ok→y.ok→∀ w,Calls Tryz.prog f #[vW x,vW y] w fun e w'=>e= .returned(k x y)∧Zad w w'):ZT f(g2(Zi1 k)):=
 Z53 fun x y hx hy s v s' lg h _ w=>by
  unfold Zi1 at h
  cases h
  exact hk x y hx hy w
def okA(x y c:Int):Bool×Bool:=(decide(0≤x∧0≤y∧0≤c∧c≤1),true)
theorem ZpC(x y:W4):Z7(Zn(Zi Tryz.prog Zf Zo true) 3000 73 [vW x,vW y] [])(.tuple #[vW(Z5h x y),.bool(Z5i x y !=0)])
  [okA x.d y.d(ca x.c y.c(ca x.b y.b(ca x.a y.a 0))),okA x.c y.c(ca x.b y.b(ca x.a y.a 0)),okA x.b y.b(ca x.a y.a 0),okA x.a y.a 0]:=⟨by kernel_rfl,by kernel_rfl,by kernel_rfl,by kernel_rfl⟩
def ZuP(x y:W4):Value:= .tuple #[vW(W4.of(x.val+y.val)),.bool(decide(115792089237316195423570985008687907853269984665640564039457584007913129639936≤x.val+y.val))]
theorem Zg1(x y:W4)(hx:x.ok)(hy:y.ok)(w:World):Calls Tryz.prog 73 #[vW x,vW y] w fun e w'=>e= .returned(ZuP x y)∧Zad w w':=by
 have h:=Zc(Zk Zd)(ZpC x y)(by
  obtain⟨h1,h2,h3,h4⟩:=hx
  obtain⟨k1,k2,k3,k4⟩:=hy
  have b1:0≤ca x.a y.a 0∧ca x.a y.a 0≤1:=by unfold ca;omega
  have b2:0≤ca x.b y.b(ca x.a y.a 0)∧ca x.b y.b(ca x.a y.a 0)≤1:=by generalize ca x.a y.a 0=k at*;unfold ca;omega
  have b3:0≤ca x.c y.c(ca x.b y.b(ca x.a y.a 0))∧ca x.c y.c(ca x.b y.b(ca x.a y.a 0))≤1:=by generalize ca x.b y.b(ca x.a y.a 0)=k at*;unfold ca;omega
  intro p hp
  simp only[List.mem_cons,List.not_mem_nil,or_false] at hp
  rcases hp with rfl | rfl | rfl | rfl<;>simp only[okA,decide_eq_true_eq]<;>omega)(by rfl)(by rfl) w
 rw[ZtZ hx hy,Zua hx hy] at h
 exact h
end Go.Proofs.YtjlponbdflkbjaaGreatDoor
