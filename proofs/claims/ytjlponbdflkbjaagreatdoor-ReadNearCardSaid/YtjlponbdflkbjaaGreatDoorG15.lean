/-
  RdX, RpA, RpB, RpC, Con1, Con2, RpD, Con3
-/
import Derived.Test.YtjlponbdflkbjaaGreatDoorG14
namespace Go.Proofs.YtjlponbdflkbjaaGreatDoor
open Go.IntKind
open Go.KRun Go.Rd
set_option maxRecDepth 100000
theorem ZaI:Z3 []:=fun _ h=>by cases h
def bR (l:List UInt8):Value:= .string ⟨⟨l⟩⟩
def byR (l:List UInt8) (i:Int):Int:=(((l.getD i.toNat 0).toNat:Nat):Int)
def sK (F:Func):Nat→Code
 | 0=>Zs F
 | n+1=>Zz (sK F n)
def sP (F:Func) (k:Nat):Code:=Z2 (sK F k)
def pO (k:Nat):Value:= .pointer (some ⟨k,0,none⟩)
theorem ZcI (l l':List UInt8):((⟨⟨l⟩⟩:ByteArray)==⟨⟨l'⟩⟩)=decide (l=l'):=by
 rw[beq_toListBytes,ByteArray.toList_eq,ByteArray.toList_eq];show (l==l')=decide (l=l');by_cases h:l=l'
 ·rw[Xa h];simpa using h
 ·rw[Xb h];simpa using h
theorem zv {x y:Int}(h:x=y):(x==y)=true:=by simpa using h
theorem zw {x y:Int}(h:x≠y):(x==y)=false:=by simpa using h
theorem Ztr {x y:Int}(h:x≠y):(x !=y)=true:=by simpa using h
theorem Zts {x y:Int}(h:x=y):(x !=y)=false:=by simpa using h
theorem wN {n:Nat}(h:n<1000000000):i64.wrap (((n:Nat):Int)+1)=((n+1:Nat):Int):=by rw[Zw (by omega) (by omega)];omega
end Go.Proofs.YtjlponbdflkbjaaGreatDoor
namespace Go.Proofs.YtjlponbdflkbjaaGreatDoor
open Go.Proofs.Tryz
open Go.IntKind
open Go.KRun Go.Rd
set_option maxRecDepth 100000
theorem dv1 (c:Int):Z7 (Zm (Zk prog Zf Zn true) 100 69 [.int .u8 c] [cmp true,cmp true]) (.int .i64 (i64.wrap (u8.wrap (c-48)))) [(decide (c≤57),true),(decide (c≥48),true)]:=by and_intros<;>kernel_rfl
theorem dv2 (c:Int):Z7 (Zm (Zk prog Zf Zn true) 100 69 [.int .u8 c] [cmp true,cmp false,cmp true,cmp true]) (.int .i64 (i64.wrap (i64.wrap (u8.wrap (c-97))+10))) [(decide (c≤102),true),(decide (c≥97),true),(decide (c≤57),false),(decide (c≥48),true)]:=by and_intros<;>kernel_rfl
theorem dv3 (c:Int):Z7 (Zm (Zk prog Zf Zn true) 100 69 [.int .u8 c] [cmp true,cmp false,cmp true,cmp false]) (.int .i64 16) [(decide (c≤102),false),(decide (c≥97),true),(decide (c≤57),false),(decide (c≥48),true)]:=by and_intros<;>kernel_rfl
theorem dv4 (c:Int):Z7 (Zm (Zk prog Zf Zn true) 100 69 [.int .u8 c] [cmp true,cmp false,cmp false]) (.int .i64 16) [(decide (c≥97),false),(decide (c≤57),false),(decide (c≥48),true)]:=by and_intros<;>kernel_rfl
theorem dv5 (c:Int):Z7 (Zm (Zk prog Zf Zn true) 100 69 [.int .u8 c] [cmp false,cmp false]) (.int .i64 16) [(decide (c≥97),false),(decide (c≥48),false)]:=by and_intros<;>kernel_rfl
def Z1N:Ans:=fun vals s=>
 match vals with
 | [.int .u8 c]=>some (.int .i64 (dvB c),s,[(decide (0≤c∧c<256),true)])
 | _=>none
theorem Ztt {x:Int}(h0:0≤x) (h1:x<256):u8.wrap x=x:=by
 simp [IntKind.wrap,IntKind.bits,IntKind.signed];omega
theorem ZfO {x:Int}(h0: -9223372036854775808≤x) (h1:x<9223372036854775808):i64.wrap x=x:=by
 simp [IntKind.wrap,IntKind.bits,IntKind.signed];omega
theorem ZhA:ZR 69 Z1N:=by
 intro vals s v s' lg h hl w;unfold Z1N at h;split at h
 ·rename_i c;cases h;have q:=Xc (hl _ Xf);have hT:=Zj Zd;by_cases h1:c≥48
  ·by_cases h2:c≤57
   ·have e:dvB c=i64.wrap (u8.wrap (c-48)):=by
     rw[Ztt (by omega) (by omega),ZfO (by omega) (by omega)];unfold dvB;rw[if_pos ⟨h1,h2⟩]
    rw[e];exact Zc hT (dv1 c) (Za (Xa h2) (Z4 (Xa h1))) (by rfl) (by rfl) w
   ·by_cases h3:c≥97
    ·by_cases h4:c≤102
     ·have e:dvB c=i64.wrap (i64.wrap (u8.wrap (c-97))+10):=by
       rw[Ztt (by omega) (by omega),ZfO (x:=c-97) (by omega) (by omega),ZfO (by omega) (by omega)];unfold dvB;rw[if_neg (by omega),if_pos ⟨h3,h4⟩];omega
      rw[e];exact Zc hT (dv2 c) (Za (Xa h4) (Za (Xa h3) (Za (Xb h2) (Z4 (Xa h1))))) (by rfl) (by rfl) w
     ·have e:dvB c=16:=by unfold dvB;rw[if_neg (by omega),if_neg (by omega)]
      rw[e];exact Zc hT (dv3 c) (Za (Xb h4) (Za (Xa h3) (Za (Xb h2) (Z4 (Xa h1))))) (by rfl) (by rfl) w
    ·have e:dvB c=16:=by unfold dvB;rw[if_neg (by omega),if_neg (by omega)]
     rw[e];exact Zc hT (dv4 c) (Za (Xb h3) (Za (Xb h2) (Z4 (Xa h1)))) (by rfl) (by rfl) w
  ·have e:dvB c=16:=by unfold dvB;rw[if_neg (by omega),if_neg (by omega)]
   rw[e];exact Zc hT (dv5 c) (Za (Xb (by omega)) (Z4 (Xb h1))) (by rfl) (by rfl) w
 ·cases h
def lPd (p l:List UInt8):Bool×Bool:=(decide ((0:Int)≤(p.length:Nat)∧((p.length:Nat):Int)≤(l.length:Nat)),true)
def lGe (p l:List UInt8) (d:Bool):Bool×Bool:=(decide (((l.length:Nat):Int)≥((p.length:Nat):Int)),d)
def Zb2 (u w:List UInt8) (d:Bool):Bool×Bool:=((⟨⟨u⟩⟩:ByteArray)==⟨⟨w⟩⟩,d)
theorem ze {u w:List UInt8}{d:Bool}(h:decide (u=w)=d):(Zb2 u w d).1=(Zb2 u w d).2:=by
 show ((⟨⟨u⟩⟩:ByteArray)==⟨⟨w⟩⟩)=d;rw[ZcI];exact h
theorem cp1 (l p:List UInt8):Z7 (Zm (Zk prog Zf Zn true) 100 28 [bR l,bR p] [cmp true,sam true,sam true,sam true]) (.tuple #[bR (l.drop p.length),.bool true]) [lPd p l,Zb2 (l.take p.length) p true,lPd p l,lGe p l true]:=by and_intros<;>kernel_rfl
theorem cp2 (l p:List UInt8):Z7 (Zm (Zk prog Zf Zn true) 100 28 [bR l,bR p] [cmp true,sam true,sam false]) (.tuple #[bR l,.bool false]) [Zb2 (l.take p.length) p false,lPd p l,lGe p l true]:=by and_intros<;>kernel_rfl
theorem cp3 (l p:List UInt8):Z7 (Zm (Zk prog Zf Zn true) 100 28 [bR l,bR p] [cmp false]) (.tuple #[bR l,.bool false]) [lGe p l false]:=by and_intros<;>kernel_rfl
theorem tp1 (l p:List UInt8):Z7 (Zm (Zk prog Zf Zn true) 100 29 [bR l,bR p] [cmp true,sam true,sam true,sam true]) (bR (l.drop p.length)) [lPd p l,Zb2 (l.take p.length) p true,lPd p l,lGe p l true]:=by and_intros<;>kernel_rfl
theorem tp2 (l p:List UInt8):Z7 (Zm (Zk prog Zf Zn true) 100 29 [bR l,bR p] [cmp true,sam true,sam false]) (bR l) [Zb2 (l.take p.length) p false,lPd p l,lGe p l true]:=by and_intros<;>kernel_rfl
theorem tp3 (l p:List UInt8):Z7 (Zm (Zk prog Zf Zn true) 100 29 [bR l,bR p] [cmp false]) (bR l) [lGe p l false]:=by and_intros<;>kernel_rfl
theorem ZiP {p l:List UInt8}(h:Zar p l=true):Z3 [lPd p l,Zb2 (l.take p.length) p true,lPd p l,lGe p l true]:=by
 have q:=Xc h;have h1:(lPd p l).1=true:=Xa ⟨by omega,by omega⟩;exact Za h1 (Za (ze (Xa q.2)) (Za h1 (Z4 (Xa (by omega)))))
theorem ZiQ {p l:List UInt8}(h1:p.length≤l.length) (h2:¬ l.take p.length=p):Z3 [Zb2 (l.take p.length) p false,lPd p l,lGe p l true]:=
 Za (ze (Xb h2)) (Za (Xa ⟨by omega,by omega⟩) (Z4 (Xa (by omega))))
theorem ZnB {p l:List UInt8}(h:Zar p l=false):¬ p.length≤l.length∨(p.length≤l.length∧¬ l.take p.length=p):=by
 have q:=of_decide_eq_false h;rcases Classical.em (p.length≤l.length) with h1 | h1
 ·exact .inr ⟨h1,fun h2=>q ⟨h1,h2⟩⟩
 ·exact .inl h1
def Zrl:Ans:=fun vals s=>
 match vals,s with
 | [.string a,.string b],.inr (.inr (.inr (.inl true)))::s'=>some (.tuple #[bR (a.data.toList.drop b.data.toList.length),.bool true],s',[(Zar b.data.toList a.data.toList,true)])
 | [.string a,.string b],.inr (.inr (.inr (.inl false)))::s'=>some (.tuple #[bR a.data.toList,.bool false],s',[(Zar b.data.toList a.data.toList,false)])
 | _,_=>none
theorem ZiR:ZR 28 Zrl:=by
 intro vals s v s' lg h hl w;have hT:=Zj Zd;unfold Zrl at h;split at h
 ·rename_i a b s2;cases h;have q:Zar b.data.toList a.data.toList=true:=hl _ Xf;exact Zc hT (cp1 a.data.toList b.data.toList) (ZiP q) (by rfl) (by rfl) w
 ·rename_i a b s2;cases h;have q:Zar b.data.toList a.data.toList=false:=hl _ Xf;rcases ZnB q with h1 | ⟨h1,h2⟩
  ·exact Zc hT (cp3 a.data.toList b.data.toList) (Z4 (Xb (by omega))) (by rfl) (by rfl) w
  ·exact Zc hT (cp2 a.data.toList b.data.toList) (ZiQ h1 h2) (by rfl) (by rfl) w
 ·cases h
def Zw9:Ans:=fun vals s=>
 match vals,s with
 | [.string a,.string b],.inr (.inr (.inr (.inl true)))::s'=>some (bR (a.data.toList.drop b.data.toList.length),s',[(Zar b.data.toList a.data.toList,true)])
 | [.string a,.string b],.inr (.inr (.inr (.inl false)))::s'=>some (bR a.data.toList,s',[(Zar b.data.toList a.data.toList,false)])
 | _,_=>none
theorem Zrm:ZR 29 Zw9:=by
 intro vals s v s' lg h hl w;have hT:=Zj Zd;unfold Zw9 at h;split at h
 ·rename_i a b s2;cases h;have q:Zar b.data.toList a.data.toList=true:=hl _ Xf;exact Zc hT (tp1 a.data.toList b.data.toList) (ZiP q) (by rfl) (by rfl) w
 ·rename_i a b s2;cases h;have q:Zar b.data.toList a.data.toList=false:=hl _ Xf;rcases ZnB q with h1 | ⟨h1,h2⟩
  ·exact Zc hT (tp3 a.data.toList b.data.toList) (Z4 (Xb (by omega))) (by rfl) (by rfl) w
  ·exact Zc hT (tp2 a.data.toList b.data.toList) (ZiQ h1 h2) (by rfl) (by rfl) w
 ·cases h
def Zrn:Con:=alt 28 Zrl (alt 29 Zw9 Zn)
theorem Zro:ConOk Zrn:=Z9 func28 rfl ZiR (Z9 func29 rfl Zrm Zd)
theorem ts1 (l:List UInt8):Z7 (Zm (Zk prog Zf Zrn true) 100 15 [bR l] [cmp true]) (.tuple #[.bool true,bR (l.drop 1)]) [(Zar [45] l,true)]:=by and_intros<;>kernel_rfl
theorem ts2 (l:List UInt8):Z7 (Zm (Zk prog Zf Zrn true) 100 15 [bR l] [cmp false,cmp true]) (.tuple #[.bool false,bR (l.drop 1)]) [(Zar [43] l,true),(Zar [45] l,false)]:=by and_intros<;>kernel_rfl
theorem ts3 (l:List UInt8):Z7 (Zm (Zk prog Zf Zrn true) 100 15 [bR l] [cmp false,cmp false]) (.tuple #[.bool false,bR l]) [(Zar [43] l,false),(Zar [45] l,false)]:=by and_intros<;>kernel_rfl
def Z4w:Ans:=fun vals s=>
 match vals,s with
 | [.string a],.inr (.inr (.inr (.inl d)))::s'=>some (.tuple #[.bool d,bR (sgT a.data.toList).2],s',[((sgT a.data.toList).1,d)])
 | _,_=>none
theorem ZnC:ZR 15 Z4w:=by
 intro vals s v s' lg h hl w;have hT:=Zj Zro;unfold Z4w at h;split at h
 ·rename_i a d s2;cases h;have q:(sgT a.data.toList).1=d:=hl _ Xf;rw[← q,Zn5];cases h1:Zar [45] a.data.toList with
  | true=>
   rw[if_pos rfl];exact Zc hT (ts1 a.data.toList) (Z4 h1) (by rfl) (by rfl) w
  | false=>
   rw[if_neg (by decide)];cases h2:Zar [43] a.data.toList with
   | true=>
    rw[if_pos rfl];exact Zc hT (ts2 a.data.toList) (Za h2 (Z4 h1)) (by rfl) (by rfl) w
   | false=>
    rw[if_neg (by decide)];exact Zc hT (ts3 a.data.toList) (Za h2 (Z4 h1)) (by rfl) (by rfl) w
 ·cases h
def Z8D:List Value→Option (Value×Log)
 | [.string b,.int .u8 c]=>some (.int .i64 (Lib.indexByte b.data.toList c.toNat.toUInt8),[])
 | _=>none
def Z1O:Nat→List Value→Option (Value×Log):=fun f vals=>if f=148 then Z8D vals else none
theorem ZwA (f:Nat) (vals:List Value) (v:Value) (lg:Log) (h:Z1O f vals=some (v,lg)) (_:Z3 lg) (w:World):(callFunc f vals.toArray).run prog w= .ok (.value v) w:=by
 unfold Z1O at h;split at h
 ·rename_i hf;subst hf;unfold Z8D at h;split at h
  ·rename_i b c;cases h;rw[run_callFunc_extern (e:=Extern.BytealgIndexByte.indexByte) func148 (by kernel_rfl) (by kernel_rfl) (by kernel_rfl) (by kernel_rfl),Lib.run_indexByteString];rfl
  ·cases h
 ·cases h
theorem ZnD {con:Con}(h:ConOk con):TabOk (Zk prog Z1O con true) where
 mixed:=mixed
 ext:=ZwA
 con:=fun f vals s v s' lg hc hl=>⟨by obtain⟨F,h1,h2⟩:=h.fn f vals s v s' lg hc;exact⟨F,(ZbA f F h1).1,(ZbA f F h1).2,h2⟩,h.calls f vals s v s' lg hc hl⟩
 fn:=ZbA
 hc:=fun _ _ _ _ _ _ _ _ h=>by cases h
theorem ix1 (l:List UInt8):Z7 (Zm (Zk prog Z1O Zn true) 100 126 [bR l,bR [46]] [sam true]) (.int .i64 0) [Zb2 [46] l true]:=by and_intros<;>kernel_rfl
theorem ix2 (l:List UInt8):Z7 (Zm (Zk prog Z1O Zn true) 100 126 [bR l,bR [46]] [sam false]) (.int .i64 (Lib.indexByte l 46)) [(true,true),Zb2 [46] l false]:=by and_intros<;>kernel_rfl
def Z68:Ans:=fun vals s=>
 match vals with
 | [.string b,.string ⟨⟨[c]⟩⟩]=>some (.int .i64 (Lib.indexByte b.data.toList 46),s,[(decide (c=46),true)])
 | _=>none
theorem ZwB:ZR 126 Z68:=by
 intro vals s v s' lg h hl w;unfold Z68 at h;split at h
 ·rename_i b c;cases h;have hc:=Xc (hl _ Xf);subst hc;by_cases h1:[46]=b.data.toList
  ·have e:Lib.indexByte b.data.toList 46=0:=by rw[← h1];rfl
   rw[e];exact Zc (ZnD Zd) (ix1 b.data.toList) (Z4 (ze (Xa h1))) (by rfl) (by rfl) w
  ·exact Zc (ZnD Zd) (ix2 b.data.toList) (Za rfl (Z4 (ze (Xb h1)))) (by rfl) (by rfl) w
 ·cases h
def Zj8:Con:=alt 126 Z68 Zn
theorem Zd8:ConOk Zj8:=Z9 func126 rfl ZwB Zd
theorem Z9w (l:List UInt8):Z7 (Zm (Zk prog Zf Zj8 true) 100 70 [bR l,bR [46]] [cmp true,sam true,sam true]) (.tuple #[bR (l.take (Lib.indexByte l 46).toNat),bR (l.drop (i64.wrap (Lib.indexByte l 46+1)).toNat),.bool true]) [(decide (0≤i64.wrap (Lib.indexByte l 46+1)∧i64.wrap (Lib.indexByte l 46+1)≤(l.length:Nat)),true),(decide (0≤Lib.indexByte l 46∧Lib.indexByte l 46≤(l.length:Nat)),true),(decide (Lib.indexByte l 46≥0),true),(true,true)]:=by and_intros<;>kernel_rfl
theorem Z9x (l:List UInt8):Z7 (Zm (Zk prog Zf Zj8 true) 100 70 [bR l,bR [46]] [cmp false]) (.tuple #[bR l,bR [],.bool false]) [(decide (Lib.indexByte l 46≥0),false),(true,true)]:=by and_intros<;>kernel_rfl
theorem Z1P (l:List UInt8):Lib.indexByte l 46<(l.length:Nat):=by
 induction l with
 | nil=>decide
 | cons c l ih=>
  unfold Lib.indexByte;rw[List.length_cons];split
  ·omega
  ·split<;>omega
def Z69:Ans:=fun vals s=>
 match vals,s with
 | [.string b,.string ⟨⟨[c]⟩⟩],.inr (.inr (.inr (.inl d)))::s'=>some (.tuple #[bR (ctA b.data.toList),bR (ctB b.data.toList),.bool d],s',[(decide (0≤Lib.indexByte b.data.toList 46),d),(decide (c=46),true),(decide (b.data.toList.length≤100000),true)])
 | _,_=>none
theorem ZwC:ZR 70 Z69:=by
 intro vals s v s' lg h hl w;unfold Z69 at h;split at h
 ·rename_i b c d s2;cases h;have h1:=hl _ Xe;have hc:=Xc (hl _ (Xd _ Xe));have h3:=Xc (hl _ (Xd _ (Xd _ Xf)));have hb:=Z1P b.data.toList;dsimp only at h1;subst hc;unfold ctA ctB;cases d with
  | true=>
   have q:=Xc h1;have e:i64.wrap (Lib.indexByte b.data.toList 46+1)=Lib.indexByte b.data.toList 46+1:=ZfO (by omega) (by omega);have e2:(Lib.indexByte b.data.toList 46+1).toNat=(Lib.indexByte b.data.toList 46).toNat+1:=by omega
   have f:=Z9w b.data.toList;rw[e,e2] at f;rw[if_pos q,if_pos q];exact Zc (Zj Zd8) f (Za (Xa ⟨by omega,by omega⟩) (Za (Xa ⟨by omega,by omega⟩) (Za (Xa q) (Z4 rfl)))) (by rfl) (by rfl) w
  | false=>
   have q:=of_decide_eq_false h1;rw[if_neg q,if_neg q];exact Zc (Zj Zd8) (Z9x b.data.toList) (Za (Xb q) (Z4 rfl)) (by rfl) (by rfl) w
 ·cases h
end Go.Proofs.YtjlponbdflkbjaaGreatDoor
namespace Go.Proofs.YtjlponbdflkbjaaGreatDoor
open Go.Proofs.Tryz
open Go.IntKind
open Go.KRun Go.Nt Go.Rd
set_option maxRecDepth 100000
def trP (F:Func):Code:=Z2 (Zs F)
def Z1Q (F:Func):Code:=cIn (cIn (Z2 (Zz (Zs F))))
def trE (F:Func):Code:=Zz (Zz (Zs F))
theorem ZwD:f105.body=some (ZW [trP f105] (.seq (.block 0 (.loop (Z1Q f105))) (trE f105))):=by kernel_rfl
def trF (l:List UInt8) (c:Int):List Value:=[bR l,.int .u8 c,undef,undef,bR []]
def lm1 (l:List UInt8):Int:=i64.wrap (((l.length:Nat):Int)-1)
theorem Z1R (l:List UInt8) (c:Int):Zg (evL (Zk prog Zf Zn true) 100 [trP f105] ([bR l,.int .u8 c]++List.replicate 21 undef,⟨0,[]⟩,[]) ⟨[],[],[]⟩) 5 18 none (trF l c) ⟨0,[]⟩ []:=by and_intros<;>kernel_rfl
theorem Z6A (l:List UInt8) (c:Int) (g:Nat→Value):Zg (evC (Zk prog Zf Zn true) 100 false (Z1Q f105) (trF l c++tl 18 g,⟨0,[]⟩,[cmp true,cmp true,sam true]) ⟨[],[],[]⟩) 5 18 none (trF (l.take (lm1 l).toNat) c) ⟨0,[]⟩ [(decide (0≤lm1 l∧lm1 l≤(l.length:Nat)),true),(byR l (lm1 l)==c,true),(decide (0≤lm1 l∧(lm1 l).toNat<l.length),true),(decide (((l.length:Nat):Int)>0),true)]:=by and_intros<;>kernel_rfl
theorem Z1S (l:List UInt8) (c:Int) (g:Nat→Value):Zg (evC (Zk prog Zf Zn true) 100 false (Z1Q f105) (trF l c++tl 18 g,⟨0,[]⟩,[cmp true,cmp false]) ⟨[],[],[]⟩) 5 18 (some (some 0)) (trF l c) ⟨0,[]⟩ [(byR l (lm1 l)==c,false),(decide (0≤lm1 l∧(lm1 l).toNat<l.length),true),(decide (((l.length:Nat):Int)>0),true)]:=by and_intros<;>kernel_rfl
theorem Z1T (l:List UInt8) (c:Int) (g:Nat→Value):Zg (evC (Zk prog Zf Zn true) 100 false (Z1Q f105) (trF l c++tl 18 g,⟨0,[]⟩,[cmp false]) ⟨[],[],[]⟩) 5 18 (some (some 0)) (trF l c) ⟨0,[]⟩ [(decide (((l.length:Nat):Int)>0),false)]:=by and_intros<;>kernel_rfl
theorem Z1U (l:List UInt8) (c:Int) (g:Nat→Value):Zg (evC (Zk prog Zf Zn true) 100 false (trE f105) (trF l c++tl 18 g,⟨0,[]⟩,[]) ⟨[],[],[]⟩) 5 18 (some none) [bR l,.int .u8 c,undef,undef,bR l] ⟨0,[]⟩ []:=by and_intros<;>kernel_rfl
theorem ZwE (L:List UInt8) (n:Nat) (x:Lf) (h:∃ (l:List UInt8) (g:Nat→Value),x.1=trF l 48++tl 18 g∧x.2.1=⟨0,[]⟩∧trR l=trR L∧l.length≤100000∧n=l.length):Runs (Zk prog Zf Zn true) (Z1Q f105) x fun e y=>match e with | none=>∃ n',n'<n∧∃ (l:List UInt8) (g:Nat→Value),y.1=trF l 48++tl 18 g∧y.2.1=⟨0,[]⟩∧trR l=trR L∧l.length≤100000∧n'=l.length | some none=>False | some (some id')=>id'=0∧∃ g:Nat→Value,y.1=trF (trR L) 48++tl 18 g∧y.2.1=⟨0,[]⟩:=by
 obtain⟨l,g,e1,e2,h1,h3,h2⟩:=h;obtain⟨t,hh,s⟩:=x;have e1:t=_:=e1;have e2:hh=_:=e2;subst e1 e2;have T:=Zj Zd;by_cases hn:l=[]
 ·subst hn;refine (Zb T (Z1T [] 48 g) (Z4 (by decide))).mono fun e z he=> ?_;obtain⟨rfl,⟨g',z1⟩,z2⟩:=he;have:trR L=[]:=h1.symm;rw[this];exact⟨rfl,g',z1,z2⟩
 ·obtain⟨l',x,hl⟩:∃ l' x,l=l'++[x]:=⟨l.dropLast,l.getLast hn,(List.dropLast_concat_getLast hn).symm⟩;have hlen:l.length=l'.length+1:=by rw[hl,List.length_append];rfl
  have em:lm1 l=(l'.length:Nat):=by unfold lm1;rw[Zw (by omega) (by omega)];omega
  have eb:byR l (lm1 l)=lq8 x:=by
   unfold byR lq8;rw[em,Xg,hl];simp [List.getD]
  have et:l.take (lm1 l).toNat=l':=by
   rw[em,Xg,hl];exact List.take_left' rfl
  have k1:decide (0≤lm1 l∧(lm1 l).toNat<l.length)=true:=Xa (by omega);have k2:decide (((l.length:Nat):Int)>0)=true:=Xa (by omega);by_cases hx:lq8 x=48
  ·have hg:=Z6A l 48 g;rw[et] at hg;refine (Zb T hg (Za (Xa (by omega)) (Za (by rw[eb];simpa using hx) (Za k1 (Z4 k2))))).mono fun e z he=> ?_;obtain⟨rfl,⟨g',z1⟩,z2⟩:=he;refine⟨l'.length,by omega,l',g',z1,z2,?_,by omega,rfl⟩;rw[← h1,hl,ZbY,if_pos hx]
  ·refine (Zb T (Z1S l 48 g) (Za (by rw[eb];simpa using hx) (Za k1 (Z4 k2)))).mono fun e z he=> ?_;obtain⟨rfl,⟨g',z1⟩,z2⟩:=he;have:trR L=l:=by rw[← h1,hl,ZbY,if_neg hx]
   rw[this];exact⟨rfl,g',z1,z2⟩
theorem ZnE (l:List UInt8) (hl:l.length≤100000) (w:World):Calls prog 105 #[bR l,.int .u8 48] w fun r w'=>r= .returned (bR (trR l))∧Zal w w':=by
 have hT:=Zj Zd;refine ZJ (T:=Zk prog Zf Zn true) func105 ZwD (by rfl) (by rfl) ?_ w;refine Zv hT (Z1R l 48) ZaI fun g=> ?_;refine Runs.seq (P1:=fun e y=>e=none∧∃ g:Nat→Value,y.1=trF (trR l) 48++tl 18 g∧y.2.1=⟨0,[]⟩) ?_ ?_ (fun e y he=>by cases he.1)
 ·refine (Runs.forLoop (R:=fun _=>False) (P:=fun y=>∃ g:Nat→Value,y.1=trF (trR l) 48++tl 18 g∧y.2.1=⟨0,[]⟩) (fun n x=>∃ (l':List UInt8) (g:Nat→Value),x.1=trF l' 48++tl 18 g∧x.2.1=⟨0,[]⟩∧trR l'=trR l∧l'.length≤100000∧n=l'.length) (ZwE l) (n:=l.length) ⟨l,g,rfl,rfl,rfl,hl,rfl⟩).mono fun e z hz=> ?_
  match e,hz with
  | none,hz=>exact⟨rfl,hz⟩
 ·intro y he;obtain⟨_,g',e1,e2⟩:=he;obtain⟨t,hh,s⟩:=y;have e1:t=_:=e1;have e2:hh=_:=e2;subst e1 e2;refine (Zb hT (Z1U (trR l) 48 g') ZaI).mono fun e z hz=> ?_;obtain⟨rfl,⟨g2,z1⟩,z2⟩:=hz;exact⟨.inr rfl,by rw[z1,z2];rfl⟩
def Z6B:Ans:=fun vals s=>
 match vals with
 | [.string b,.int .u8 c]=>some (bR (trR b.data.toList),s,[(decide (c=48),true),(decide (b.data.toList.length≤100000),true)])
 | _=>none
theorem ZwF:ZR 105 Z6B:=by
 intro vals s v s' lg h hl w;unfold Z6B at h;split at h
 ·rename_i b c;cases h;have hc:=Xc (hl _ Xe);have h2:=Xc (hl _ (Xd _ Xf));subst hc;exact ZnE _ h2 w
 ·cases h
def ZwG:Con:=alt 105 Z6B Zn
theorem ZiS:ConOk ZwG:=Z9 func105 rfl ZwF Zd
theorem Z9y (l:List UInt8):Z7 (Zm (Zk prog Zf ZwG true) 100 72 [bR l,bR [48]] [sam true]) (bR l) [Zb2 l [] true]:=by and_intros<;>kernel_rfl
theorem Z9z (l:List UInt8):Z7 (Zm (Zk prog Zf ZwG true) 100 72 [bR l,bR [48]] [sam false]) (bR (trR l)) [(true,true),(decide (l.length≤100000),true),(true,true),(true,true),Zb2 l [] false]:=by and_intros<;>kernel_rfl
def Z6C:Ans:=fun vals s=>
 match vals with
 | [.string b,.string ⟨⟨[c]⟩⟩]=>some (bR (trR b.data.toList),s,[(decide (c=48),true),(decide (b.data.toList.length≤100000),true)])
 | _=>none
theorem ZwH:ZR 72 Z6C:=by
 intro vals s v s' lg h hl w;unfold Z6C at h;split at h
 ·rename_i b c;cases h;have hc:=Xc (hl _ Xe);have h2:=hl _ (Xd _ Xf);subst hc;by_cases hn:b.data.toList=[]
  ·have:=Zc (Zj ZiS) (Z9y b.data.toList) (Z4 (ze (Xa hn))) (by rfl) (by rfl) w;have hb:b=⟨⟨[]⟩⟩:=by
    apply ByteArray.ext;apply Array.ext';exact hn
   rw[hn] at this ⊢;rw[hb];exact this
  ·exact Zc (Zj ZiS) (Z9z b.data.toList) (Za rfl (Za h2 (Za rfl (Za rfl (Z4 (ze (Xb hn))))))) (by rfl) (by rfl) w
 ·cases h
def Ze5:Con:=alt 15 Z4w (alt 69 Z1N Zn)
theorem ZiT:ConOk Ze5:=Z9 func15 rfl ZnC (Z9 func69 rfl ZhA Zd)
def wnI (F:Func):Code:=Z2 (sP F 3)
def wnL (F:Func):Code:=cIn (cIn (Zz (sP F 3)))
theorem ZwI:f32.body=some (ZW [sP f32 0,sP f32 1,sP f32 2] (.seq (.seq (wnI f32) (.block 0 (.loop (wnL f32)))) (sK f32 4))):=by kernel_rfl
def wnT (s:List UInt8) (mn:Bool) (D:List UInt8):List Value:=[.tuple #[.bool mn,bR D],bR s,.tuple #[.bool mn,bR D],.bool mn,bR D]
def wnF (s:List UInt8) (mn:Bool) (D:List UInt8) (n:Int) (v7 v8:Value) (i:Int):List Value:=[bR s,undef,.int .i64 0,.bool false,.bool mn,bR D,.int .i64 n,v7,v8]++wnT s mn D++[bR D,.int .i64 (D.length:Nat),.int .i64 i]
theorem Z1V (s:List UInt8) (mn:Bool):Zg (evL (Zk prog Zf Ze5 true) 100 [sP f32 0,sP f32 1,sP f32 2] ([bR s]++List.replicate 36 undef,⟨0,[]⟩,[cmp mn]) ⟨[],[],[]⟩) 14 23 none ([bR s,undef,.int .i64 0,.bool false,.bool mn,bR (sgT s).2,.int .i64 0,undef,undef]++wnT s mn (sgT s).2) ⟨0,[]⟩ [((sgT s).1,mn)]:=by and_intros<;>kernel_rfl
theorem Z90 (s:List UInt8) (mn:Bool) (D:List UInt8) (g:Nat→Value):Zg (evC (Zk prog Zf Ze5 true) 100 false (wnI f32) ([bR s,undef,.int .i64 0,.bool false,.bool mn,bR D,.int .i64 0,undef,undef]++wnT s mn D++tl 23 g,⟨0,[]⟩,[]) ⟨[],[],[]⟩) 17 20 none (wnF s mn D 0 undef undef 0) ⟨0,[]⟩ []:=by and_intros<;>kernel_rfl
theorem Z91 (s:List UInt8) (mn:Bool) (D:List UInt8) (n:Int) (v7 v8:Value) (i:Int) (g:Nat→Value):Zg (evC (Zk prog Zf Ze5 true) 100 false (wnL f32) (wnF s mn D n v7 v8 i++tl 20 g,⟨0,[]⟩,[cmp false]) ⟨[],[],[]⟩) 17 20 (some (some 0)) (wnF s mn D n v7 v8 i) ⟨0,[]⟩ [(decide (i<(D.length:Nat)),false)]:=by and_intros<;>kernel_rfl
theorem Z92 (s:List UInt8) (mn:Bool) (D:List UInt8) (n:Int) (v7 v8:Value) (i:Int) (g:Nat→Value):Zg (evC (Zk prog Zf Ze5 true) 100 false (wnL f32) (wnF s mn D n v7 v8 i++tl 20 g,⟨0,[]⟩,[cmp true,cmp true]) ⟨[],[],[]⟩) 4 33 (some none) [bR s,undef,.int .i64 0,.bool false] ⟨0,[]⟩ [(decide (dvB (byR D i)≥10),true),(decide (0≤byR D i∧byR D i<256),true),(decide (0≤i∧i.toNat<D.length),true),(decide (i<(D.length:Nat)),true)]:=by and_intros<;>kernel_rfl
theorem Z93 (s:List UInt8) (mn:Bool) (D:List UInt8) (n:Int) (v7 v8:Value) (i:Int) (g:Nat→Value):Zg (evC (Zk prog Zf Ze5 true) 100 false (wnL f32) (wnF s mn D n v7 v8 i++tl 20 g,⟨0,[]⟩,[cmp true,cmp false]) ⟨[],[],[]⟩) 17 20 none (wnF s mn D (if 10000000<i64.wrap (i64.wrap (n*10)+dvB (byR D i)) then 10000000 else i64.wrap (i64.wrap (n*10)+dvB (byR D i))) (.int .i64 i) (.int .i64 (dvB (byR D i))) (i64.wrap (i+1))) ⟨0,[]⟩ [(decide (dvB (byR D i)≥10),false),(decide (0≤byR D i∧byR D i<256),true),(decide (0≤i∧i.toNat<D.length),true),(decide (i<(D.length:Nat)),true)]:=by and_intros<;>kernel_rfl
def lNe (u:List UInt8) (d:Bool):Bool×Bool:=(!((⟨⟨u⟩⟩:ByteArray)==⟨⟨[]⟩⟩),d)
theorem ZnF {u:List UInt8}{d:Bool}(h:decide (u≠[])=d):(lNe u d).1=(lNe u d).2:=by
 show (!((⟨⟨u⟩⟩:ByteArray)==⟨⟨[]⟩⟩))=d;rw[ZcI,← h];by_cases hu:u=[]
 ·rw[Xa hu,Xb (fun h=>h hu)];rfl
 ·rw[Xb hu,Xa hu];rfl
theorem Z6D (s:List UInt8) (D:List UInt8) (n:Int) (v7 v8:Value) (i:Int) (d:Bool) (g:Nat→Value):Zg (evC (Zk prog Zf Ze5 true) 100 false (sK f32 4) (wnF s true D n v7 v8 i++tl 20 g,⟨0,[]⟩,[sam d]) ⟨[],[],[]⟩) 4 33 (some none) [bR s,undef,.int .i64 (i64.wrap (0-n)),.bool d] ⟨0,[]⟩ [lNe D d]:=by and_intros<;>kernel_rfl
theorem Z6E (s:List UInt8) (D:List UInt8) (n:Int) (v7 v8:Value) (i:Int) (d:Bool) (g:Nat→Value):Zg (evC (Zk prog Zf Ze5 true) 100 false (sK f32 4) (wnF s false D n v7 v8 i++tl 20 g,⟨0,[]⟩,[sam d]) ⟨[],[],[]⟩) 4 33 (some none) [bR s,undef,.int .i64 n,.bool d] ⟨0,[]⟩ [lNe D d]:=by and_intros<;>kernel_rfl
theorem ZiU (l:List UInt8) (i:Int):decide (0≤byR l i∧byR l i<256)=true:=by
 unfold byR;have:=(l.getD i.toNat 0).toNat_lt;exact Xa (by omega)
def wnJ (s:List UInt8) (mn:Bool) (D:List UInt8) (X:Nat×Bool) (i:Nat) (y:Lf):Prop:=∃ (a:Nat) (v7 v8:Value) (g:Nat→Value),i≤D.length∧a≤10000000∧X=pwM 10000000 a (D.drop i)∧y.1=wnF s mn D a v7 v8 i++tl 20 g∧y.2.1=⟨0,[]⟩
def wnO (s:List UInt8) (mn:Bool) (D:List UInt8) (X:Nat×Bool) (y:Lf):Prop:=∃ (a i:Nat) (v7 v8:Value) (g:Nat→Value),a≤10000000∧X=(a,true)∧y.1=wnF s mn D a v7 v8 i++tl 20 g∧y.2.1=⟨0,[]⟩
def wnW (n:Int) (d:Bool):Value:= .tuple #[.int .i64 n,.bool d]
def wnB (X:Nat×Bool) (y:Lf):Prop:=X.2=false∧ZV prog f32 y.1 y.2.1=some (wnW 0 false)
theorem Zrp {s:List UInt8}{mn:Bool}{D:List UInt8}{X:Nat×Bool}(h2:D.length≤100000) (r:Nat) (y:Lf) (h:∃ i,r=D.length-i∧wnJ s mn D X i y):
  Runs (Zk prog Zf Ze5 true) (wnL f32) y fun e z=>match e with | none=>∃ r',r'<r∧∃ i,r'=D.length-i∧wnJ s mn D X i z | some none=>wnB X z | some (some id')=>id'=0∧wnO s mn D X z:=by
 have hT:=Zj ZiT;obtain⟨i,hr,a,v7,v8,g,hi,ha,hX,ht,hh⟩:=h;obtain⟨t,h',sc⟩:=y;simp only at ht hh;subst ht hh;by_cases hc:i<D.length
 ·have lA:decide (((i:Nat):Int)<(D.length:Nat))=true:=Xa (by omega);have lI:decide ((0:Int)≤(i:Nat)∧((i:Nat):Int).toNat<D.length)=true:=Xa ⟨by omega,by rw[Xg];exact hc⟩;have ew:i64.wrap (((i:Nat):Int)+1)=((i+1:Nat):Int):=by rw[Zw (by omega) (by omega)];omega
  have ed:=Zbr hc;have eC:lq8 (D.getD i 0)=byR D (i:Nat):=by unfold lq8 byR;rw[Xg]
  have bD:=Z1E (byR D (i:Nat));by_cases hd:dvB (byR D (i:Nat))<10
  ·have hg:=Z93 s mn D a v7 v8 (i:Nat) g;have ev:i64.wrap (i64.wrap (((a:Nat):Int)*10)+dvB (byR D (i:Nat)))=((a:Nat):Int)*10+dvB (byR D (i:Nat)):=by
    rw[Zw (n:=((a:Nat):Int)*10) (by omega) (by omega),Zw (by omega) (by omega)]
   have em:(if 10000000<((a:Nat):Int)*10+dvB (byR D (i:Nat)) then 10000000 else ((a:Nat):Int)*10+dvB (byR D (i:Nat)))=((min (a*10+(dvB (byR D (i:Nat))).toNat) 10000000:Nat):Int):=by split<;>omega
   rw[ev,em,ew] at hg;refine (Zb (s0:=sc) hT hg (Za (Xb (by omega)) (Za (ZiU D _) (Za lI (Z4 lA))))).mono fun e z he=> ?_;obtain⟨rfl,⟨g',z1⟩,z2⟩:=he;refine⟨D.length-(i+1),by omega,i+1,rfl,_,_,_,g',by omega,by omega,?_,z1,z2⟩;rw[hX,ed,pwM,eC,if_pos hd]
  ·refine (Zb (s0:=sc) hT (Z92 s mn D a v7 v8 (i:Nat) g) (Za (Xa (by omega)) (Za (ZiU D _) (Za lI (Z4 lA))))).mono fun e z he=> ?_;obtain⟨rfl,⟨g',z1⟩,z2⟩:=he;refine⟨by rw[hX,ed,pwM,eC,if_neg hd],by rw[z1,z2];rfl⟩
 ·have es:D.drop i=[]:=List.drop_eq_nil_of_le (by omega);refine (Zb (s0:=sc) hT (Z91 s mn D a v7 v8 (i:Nat) g) (Z4 (Xb (by omega)))).mono fun e z he=> ?_;obtain⟨rfl,⟨g',z1⟩,z2⟩:=he;exact⟨rfl,a,i,v7,v8,g',ha,by rw[hX,es];rfl,z1,z2⟩
theorem ZiV (s:List UInt8) (hs:s.length≤100000) (w:World):Calls prog 32 #[bR s] w fun r w'=>r= .returned (if wnK s=true then wnW (wnP s) true else wnW 0 false)∧Zal w w':=by
 have hT:=Zj ZiT;have hl2:=Zh5 s;obtain⟨V,hV⟩:∃ V,V=(if wnK s=true then wnW (wnP s) true else wnW 0 false):=⟨_,rfl⟩;rw[← hV];refine ZJ (T:=Zk prog Zf Ze5 true) func32 ZwI (by rfl) (by rw[hV];split<;>rfl) ?_ w;refine Zv hT (Z1V s (sgT s).1) (Z4 rfl) fun g=> ?_;obtain⟨mn,hmn⟩:∃ mn,mn=(sgT s).1:=⟨_,rfl⟩;obtain⟨D,hD⟩:∃ D,D=(sgT s).2:=⟨_,rfl⟩;rw[← hmn,← hD];obtain⟨X,hX⟩:∃ X,X=pwM 10000000 0 D:=⟨_,rfl⟩;have eK:wnK s=(X.2 && decide (D≠[])):=by unfold wnK;rw[← hD,hX,Zwz]
 have eP:wnP s=if mn=true then -((X.1:Nat):Int) else ((X.1:Nat):Int):=by unfold wnP;rw[← hD,← hmn,hX]
 refine Runs.seq (P1:=fun e y=>match e with | none=>wnO s mn D X y | some none=>wnB X y | some (some _)=>False) ?_ ?_ ?_
 ·refine Runs.seq (P1:=fun e y=>e=none∧∃ g',y.1=wnF s mn D 0 undef undef 0++tl 20 g'∧y.2.1=⟨0,[]⟩) ?_ ?_ (fun e y he=>by cases he.1)
  ·refine (Zb hT (Z90 s mn D g) ZaI).mono fun e z he=> ?_;obtain⟨rfl,⟨g',z1⟩,z2⟩:=he;exact⟨rfl,g',z1,z2⟩
  ·rintro⟨t,hh,sc⟩ ⟨_,g',e1,e2⟩;simp only at e1 e2;subst e1 e2;exact Runs.forLoop (R:=wnB X) (P:=wnO s mn D X) (fun r y=>∃ i,r=D.length-i∧wnJ s mn D X i y) (Zrp (by rw[hD];omega)) (n:=D.length-0) ⟨0,rfl,0,undef,undef,g',Nat.zero_le _,Nat.zero_le _,hX,rfl,rfl⟩
 ·rintro⟨t,hh,sc⟩ ⟨a,i,v7,v8,g',ha,hx,e1,e2⟩;simp only at e1 e2;subst e1 e2;rw[hx] at eK eP;have eV:V=wnW (if mn=true then -(a:Int) else (a:Int)) (decide (D≠[])):=by
   rw[hV,eK,eP];by_cases hd:D=[]
   ·have ha0:a=0:=by
     rw[hd] at hX;rw[hx] at hX;exact congrArg Prod.fst hX
    rw[Xb (fun h=>h hd),Bool.and_false,if_neg (by decide),ha0];cases mn<;>rfl
   ·rw[Xa hd,Bool.and_true,if_pos rfl]
  rw[eV];cases mn with
  | true=>
   have hg:=Z6D s D a v7 v8 i (decide (D≠[])) g';rw[Zw (n:=0-((a:Nat):Int)) (by omega) (by omega),show (0:Int)-((a:Nat):Int)= -((a:Nat):Int) by omega] at hg;refine (Zb (s0:=sc) hT hg (Z4 (ZnF rfl))).mono fun e z he=> ?_;obtain⟨rfl,⟨g2,z1⟩,z2⟩:=he;exact⟨.inr rfl,by rw[z1,z2,if_pos rfl];rfl⟩
  | false=>
   refine (Zb (s0:=sc) hT (Z6E s D a v7 v8 i (decide (D≠[])) g') (Z4 (ZnF rfl))).mono fun e z he=> ?_;obtain⟨rfl,⟨g2,z1⟩,z2⟩:=he;exact⟨.inr rfl,by rw[z1,z2,if_neg (by decide)];rfl⟩
 ·rintro e y he
  match e,he with
  | none,he=>
   refine⟨.inr rfl,he.2.trans ?_⟩;rw[hV,eK,he.1];rfl
def Z6F:Ans:=fun vals s=>
 match vals,s with
 | [.string b],.inr (.inr (.inr (.inl true)))::s'=>some (wnW (wnP b.data.toList) true,s',[(wnK b.data.toList,true),(decide (b.data.toList.length≤100000),true)])
 | [.string b],.inr (.inr (.inr (.inl false)))::s'=>some (wnW 0 false,s',[(wnK b.data.toList,false),(decide (b.data.toList.length≤100000),true)])
 | _,_=>none
theorem ZwJ:ZR 32 Z6F:=by
 intro vals s v s' lg h hl w;unfold Z6F at h;split at h
 ·rename_i b s2;cases h;have h1:wnK b.data.toList=true:=hl _ Xe;have h2:=Xc (hl _ (Xd _ Xf));have:=ZiV _ h2 w;rw[if_pos h1] at this;exact this
 ·rename_i b s2;cases h;have h1:wnK b.data.toList=false:=hl _ Xe;have h2:=Xc (hl _ (Xd _ Xf));have:=ZiV _ h2 w;rw[if_neg (by rw[h1];decide)] at this;exact this
 ·cases h
end Go.Proofs.YtjlponbdflkbjaaGreatDoor
namespace Go.KRun
open Go.IntKind
theorem Runs.scope {T:Tab}{c:Code}{x:Lf}{P:Ex→Lf→Prop}(h:Runs T c x P):Runs T (.scope c) x P:=fun m B a w R Q hQ=>wp_scope_straight (h m B a w R _ fun e y he a' w' hR=>by
 have:=hQ e y he a' w' hR
 match e,this with
 | none,t=>exact t
 | some none,t=>exact t
 | some (some id),t=>exact t)
end Go.KRun
namespace Go.Proofs.YtjlponbdflkbjaaGreatDoor
open Go.Proofs.Tryz
open Go.IntKind
open Go.KRun Go.Nt Go.Rd
set_option maxRecDepth 100000
def Zeq:Con:=alt 69 Z1N (alt 70 Z69 (alt 71 Na.Z4K (alt 72 Z6C Zn)))
theorem ZiW:ConOk Zeq:=Z9 func69 rfl ZhA (Z9 func70 rfl ZwC (Z9 func71 rfl Na.Zuc (Z9 func72 rfl ZwH Zd)))
def tdS (F:Func):Code:=cIn (Zz (Zs F))
def tdL (F:Func):Code:=cIn (cIn (Z2 (Zz (Zz (tdS F)))))
def tdE (F:Func):Code:=Zz (Zz (Zz (tdS F)))
theorem Zhy:f31.body=some (ZW [Z2 (Zs f31)] (.scope (ZW [Z2 (tdS f31),Z2 (Zz (tdS f31))] (.seq (.block 0 (.loop (tdL f31))) (tdE f31))))):=by kernel_rfl
def nuB (b:Int) (D:List UInt8) (k P:Int):List Value×TypeId:=([.int .i64 b,bR D,.int .i64 k,.int .i64 P],47)
def tdM:Hp:=⟨1,[nuB 0 [] 0 0]⟩
def tdF (s:List UInt8) (b i:Int) (p:Bool) (v9:Value):List Value:=[bR s,.int .i64 b,undef,undef,pO 0,bR [],.bool false,.int .i64 i,.bool p,v9]
theorem Z6G (s:List UInt8) (b:Int):Zg (evL (Zk prog Zf Zeq true) 100 [Z2 (Zs f31)] ([bR s,.int .i64 b]++List.replicate 66 undef,⟨0,[]⟩,[]) ⟨[],[],[]⟩) 7 61 none [bR s,.int .i64 b,undef,undef,pO 0,bR [],.bool false] tdM []:=by and_intros<;>kernel_rfl
theorem Z6H (s:List UInt8) (b:Int) (g:Nat→Value):Zg (evL (Zk prog Zf Zeq true) 100 [Z2 (tdS f31),Z2 (Zz (tdS f31))] ([bR s,.int .i64 b,undef,undef,pO 0,bR [],.bool false]++tl 61 g,tdM,[]) ⟨[],[],[]⟩) 9 59 none [bR s,.int .i64 b,undef,undef,pO 0,bR [],.bool false,.int .i64 0,.bool false] tdM []:=by and_intros<;>kernel_rfl
theorem Z94 (s:List UInt8) (b i:Int) (p:Bool) (v9:Value) (g:Nat→Value):Zg (evC (Zk prog Zf Zeq true) 100 false (tdL f31) (tdF s b i p v9++tl 58 g,tdM,[cmp false]) ⟨[],[],[]⟩) 10 58 (some (some 0)) (tdF s b i p v9) tdM [(decide (i<(s.length:Nat)),false)]:=by and_intros<;>kernel_rfl
theorem Z95 (s:List UInt8) (b i:Int) (p:Bool) (v9:Value) (g:Nat→Value):Zg (evC (Zk prog Zf Zeq true) 100 false (tdL f31) (tdF s b i p v9++tl 58 g,tdM,[cmp true,cmp true]) ⟨[],[],[]⟩) 10 58 none (tdF s b (i64.wrap (i+1)) p (.int .u8 (byR s i))) tdM [(decide (dvB (byR s i)<b),true),(decide (0≤byR s i∧byR s i<256),true),(decide (0≤i∧i.toNat<s.length),true),(decide (i<(s.length:Nat)),true)]:=by and_intros<;>kernel_rfl
theorem Z96 (s:List UInt8) (b i:Int) (v9:Value) (g:Nat→Value):Zg (evC (Zk prog Zf Zeq true) 100 false (tdL f31) (tdF s b i false v9++tl 58 g,tdM,[cmp true,cmp false,cmp true]) ⟨[],[],[]⟩) 10 58 none (tdF s b (i64.wrap (i+1)) true (.int .u8 (byR s i))) tdM [(byR s i==46,true),(decide (dvB (byR s i)<b),false),(decide (0≤byR s i∧byR s i<256),true),(decide (0≤i∧i.toNat<s.length),true),(decide (i<(s.length:Nat)),true)]:=by and_intros<;>kernel_rfl
theorem Z6I (s:List UInt8) (b i:Int) (p:Bool) (v9:Value) (g:Nat→Value):Zg (evC (Zk prog Zf Zeq true) 100 false (tdL f31) (tdF s b i p v9++tl 58 g,tdM,[cmp true,cmp false,cmp false]) ⟨[],[],[]⟩) 10 58 (some (some 0)) (tdF s b i p (.int .u8 (byR s i))) tdM [(byR s i==46,false),(decide (dvB (byR s i)<b),false),(decide (0≤byR s i∧byR s i<256),true),(decide (0≤i∧i.toNat<s.length),true),(decide (i<(s.length:Nat)),true)]:=by and_intros<;>kernel_rfl
theorem Z6J (s:List UInt8) (b i:Int) (v9:Value) (g:Nat→Value):Zg (evC (Zk prog Zf Zeq true) 100 false (tdL f31) (tdF s b i true v9++tl 58 g,tdM,[cmp true,cmp false,cmp true]) ⟨[],[],[]⟩) 10 58 (some (some 0)) (tdF s b i true (.int .u8 (byR s i))) tdM [(byR s i==46,true),(decide (dvB (byR s i)<b),false),(decide (0≤byR s i∧byR s i<256),true),(decide (0≤i∧i.toNat<s.length),true),(decide (i<(s.length:Nat)),true)]:=by and_intros<;>kernel_rfl
def alD (u:List UInt8):List UInt8:=ctA u++ctB u
def tdK (u:List UInt8):Int:=i64.wrap (((ctA u).length:Nat)-i64.wrap (((alD u).length:Nat)-((trZ (alD u)).length:Nat)))
theorem Z97 (s:List UInt8) (b i:Int) (p:Bool) (v9:Value) (d d':Bool) (g:Nat→Value):Zg (evC (Zk prog Zf Zeq true) 100 false (tdE f31) (tdF s b i p v9++tl 58 g,tdM,[sam true,cmp d,sam true,sam true,sam d']) ⟨[],[],[]⟩) 7 61 (some none) [bR s,.int .i64 b,undef,undef,pO 0,bR (s.drop i.toNat),.bool d'] ⟨2,[nuB b (nuD (alD (s.take i.toNat))) (tdK (s.take i.toNat)) 0,nuB b (nuD (alD (s.take i.toNat))) (tdK (s.take i.toNat)) 0]⟩ [lNe (alD (s.take i.toNat)) d',(decide (0≤i∧i≤(s.length:Nat)),true),(true,true),(decide ((trZ (alD (s.take i.toNat))).length≤100000),true),(true,true),(decide ((ctA (s.take i.toNat)).length+(ctB (s.take i.toNat)).length≤9223372036854775807),true),(decide (0≤Lib.indexByte (s.take i.toNat) 46),d),(true,true),(decide ((s.take i.toNat).length≤100000),true),(decide (0≤i∧i≤(s.length:Nat)),true)]:=by and_intros<;>kernel_rfl
def tdJ (s:List UInt8) (b:Int) (E i:Nat) (y:Lf):Prop:=∃ (p:Bool) (v9:Value) (g:Nat→Value),i≤s.length∧E=i+en1 b p (s.drop i)∧y.1=tdF s b i p v9++tl 58 g∧y.2.1=tdM
def tdO (s:List UInt8) (b:Int) (E:Nat) (y:Lf):Prop:=∃ (p:Bool) (v9:Value) (g:Nat→Value),E≤s.length∧y.1=tdF s b E p v9++tl 58 g∧y.2.1=tdM
theorem Zrq {s:List UInt8}{b:Int}{E:Nat}(h2:s.length≤100000) (r:Nat) (y:Lf) (h:∃ i,r=s.length-i∧tdJ s b E i y):
  Runs (Zk prog Zf Zeq true) (tdL f31) y fun e z=>match e with | none=>∃ r',r'<r∧∃ i,r'=s.length-i∧tdJ s b E i z | some none=>False | some (some id')=>id'=0∧tdO s b E z:=by
 have hT:=Zj ZiW;obtain⟨i,hr,p,v9,g,hi,hE,ht,hh⟩:=h;obtain⟨t,h',sc⟩:=y;simp only at ht hh;subst ht hh;by_cases hc:i<s.length
 ·have lA:decide (((i:Nat):Int)<(s.length:Nat))=true:=Xa (by omega);have lI:decide ((0:Int)≤(i:Nat)∧((i:Nat):Int).toNat<s.length)=true:=Xa ⟨by omega,by rw[Xg];exact hc⟩;have ew:i64.wrap (((i:Nat):Int)+1)=((i+1:Nat):Int):=by rw[Zw (by omega) (by omega)];omega
  have ed:=Zbr hc;have eC:lq8 (s.getD i 0)=byR s (i:Nat):=by unfold lq8 byR;rw[Xg]
  have lB:=ZiU s (i:Nat);rw[ed,en1,eC] at hE;by_cases hd:dvB (byR s (i:Nat))<b
  ·rw[if_pos hd] at hE;have hg:=Z95 s b (i:Nat) p v9 g;rw[ew] at hg;refine (Zb (s0:=sc) hT hg (Za (Xa hd) (Za lB (Za lI (Z4 lA))))).mono fun e z he=> ?_;obtain⟨rfl,⟨g',z1⟩,z2⟩:=he;exact⟨s.length-(i+1),by omega,i+1,rfl,p,_,g',by omega,by omega,z1,z2⟩
  ·rw[if_neg hd] at hE;have lD:decide (dvB (byR s (i:Nat))<b)=false:=Xb hd;by_cases h46:byR s (i:Nat)=46
   ·have l46:(byR s (i:Nat)==46)=true:=by simpa using h46
    cases p with
    | false=>
     rw[if_pos ⟨h46,rfl⟩] at hE;have hg:=Z96 s b (i:Nat) v9 g;rw[ew] at hg;refine (Zb (s0:=sc) hT hg (Za l46 (Za lD (Za lB (Za lI (Z4 lA)))))).mono fun e z he=> ?_;obtain⟨rfl,⟨g',z1⟩,z2⟩:=he;exact⟨s.length-(i+1),by omega,i+1,rfl,true,_,g',by omega,by omega,z1,z2⟩
    | true=>
     rw[if_neg (fun h=>by cases h.2)] at hE;refine (Zb (s0:=sc) hT (Z6J s b (i:Nat) v9 g) (Za l46 (Za lD (Za lB (Za lI (Z4 lA)))))).mono fun e z he=> ?_;obtain⟨rfl,⟨g',z1⟩,z2⟩:=he;have:E=i:=by omega
     subst this;exact⟨rfl,true,_,g',hi,z1,z2⟩
   ·rw[if_neg (fun h=>h46 h.1)] at hE;refine (Zb (s0:=sc) hT (Z6I s b (i:Nat) p v9 g) (Za (by simpa using h46) (Za lD (Za lB (Za lI (Z4 lA)))))).mono fun e z he=> ?_;obtain⟨rfl,⟨g',z1⟩,z2⟩:=he;have:E=i:=by omega
    subst this;exact⟨rfl,p,_,g',hi,z1,z2⟩
 ·have es:s.drop i=[]:=List.drop_eq_nil_of_le (by omega);rw[es] at hE;have:E=i:=hE;subst this;refine (Zb (s0:=sc) hT (Z94 s b (E:Nat) p v9 g) (Z4 (Xb (by omega)))).mono fun e z he=> ?_;obtain⟨rfl,⟨g',z1⟩,z2⟩:=he;exact⟨rfl,p,v9,g',hi,z1,z2⟩
def tdW (b:Int) (l:List UInt8) (d:Bool):Value:= .tuple #[.agg #[.int .i64 b,bR (nuD (sc1 b false l).1),.int .i64 (((trZ (sc1 b false l).1).length:Nat)-((sc1 b false l).2.1:Nat)),.int .i64 0],bR (sc1 b false l).2.2,.bool d]
theorem Zrr (s:List UInt8) (b:Int) (hb:b=10∨b=16) (hs:s.length≤100000) (w:World):Calls prog 31 #[bR s,.int .i64 b] w fun r w'=>r= .returned (tdW b s (decide ((sc1 b false s).1≠[])))∧Zal w w':=by
 have hT:=Zj ZiW;refine ZJ (T:=Zk prog Zf Zeq true) func31 Zhy (by rfl) (by rfl) ?_ w;refine Zv hT (Z6G s b) ZaI fun g=> ?_;refine Runs.scope ?_;refine Zv hT (Z6H s b g) ZaI fun g1=> ?_;obtain⟨E,hE⟩:∃ E,E=en1 b false s:=⟨_,rfl⟩;have hEl:=Zto b false s;rw[← hE] at hEl;refine Runs.seq (P1:=fun e y=>match e with | none=>tdO s b E y | some none=>False | some (some _)=>False) ?_ ?_ ?_
 ·have e0:[bR s,.int .i64 b,undef,undef,pO 0,bR [],.bool false,.int .i64 0,.bool false]++tl 59 g1=tdF s b 0 false (g1 0)++tl 58 (fun n=>g1 (n+1)):=by rfl
  rw[e0];exact Runs.forLoop (R:=fun _=>False) (P:=tdO s b E) (fun r y=>∃ i,r=s.length-i∧tdJ s b E i y) (Zrq hs) (n:=s.length-0) ⟨0,rfl,false,_,_,Nat.zero_le _,by rw[hE,Nat.zero_add,List.drop_zero],rfl,rfl⟩
 ·rintro⟨t,hh,sc⟩ ⟨p,v9,g',hEs,e1,e2⟩;simp only at e1 e2;subst e1 e2;have hS:=Zn6 hb s;rw[← hE] at hS;obtain⟨u,hu⟩:∃ u,u=s.take E:=⟨_,rfl⟩;rw[← hu] at hS;have lu:u.length≤100000:=by rw[hu,List.length_take];omega
  have la:(alD u).length=(ctA u).length+(ctB u).length:=List.length_append;have lz:=Zdj (alD u);have lA:(ctA u).length+(ctB u).length≤u.length:=by
   unfold ctA ctB;split
   ·rw[List.length_take,List.length_drop];omega
   ·exact Nat.le_refl _
  have hg:=Z97 s b (E:Nat) p v9 (decide (0≤Lib.indexByte u 46)) (decide (alD u≠[])) g';rw[Xg,← hu] at hg;have ek:tdK u=((trZ (alD u)).length:Nat)-((ctB u).length:Nat):=by
   unfold tdK;rw[Zw (n:=((alD u).length:Nat)-((trZ (alD u)).length:Nat)) (by omega) (by omega),Zw (by omega) (by omega)];omega
  have lE:decide ((0:Int)≤(E:Nat)∧((E:Nat):Int)≤(s.length:Nat))=true:=Xa ⟨by omega,by omega⟩;refine (Zb (s0:=sc) hT hg (Za (ZnF rfl) (Za lE (Za rfl (Za (Xa (by omega)) (Za rfl (Za (Xa (by omega)) (Za rfl (Za rfl (Za (Xa lu) (Z4 lE))))))))))).mono fun e z he=> ?_;obtain⟨rfl,⟨g2,z1⟩,z2⟩:=he;refine⟨.inr rfl,?_⟩;rw[z1,z2,ek];unfold tdW;rw[hS];rfl
 ·rintro e y he
  match e,he with
  | none,he=>exact he.elim
def Z6K:Ans:=fun vals s=>
 match vals,s with
 | [.string a,.int .i64 b],.inr (.inr (.inr (.inl d)))::s'=>some (tdW b a.data.toList d,s',[(decide ((sc1 b false a.data.toList).1≠[]),d),(decide ((b=10∨b=16)∧a.data.toList.length≤100000),true)])
 | _,_=>none
theorem ZwK:ZR 31 Z6K:=by
 intro vals s v s' lg h hl w;unfold Z6K at h;split at h
 ·rename_i a b d s2;cases h;have h1:decide ((sc1 b false a.data.toList).1≠[])=d:=hl _ Xe;have h2:=Xc (hl _ (Xd _ Xf));have:=Zrr a.data.toList b h2.1 h2.2 w;rw[h1] at this;exact this
 ·cases h
end Go.Proofs.YtjlponbdflkbjaaGreatDoor
namespace Go.Proofs.YtjlponbdflkbjaaGreatDoor
open Go.Proofs.Tryz
open Go.KRun Go.Wd
def vW (x:W4):Value:= .agg #[.int .u64 x.a,.int .u64 x.b,.int .u64 x.c,.int .u64 x.d]
def w4:Value→Option W4
 | .agg cs=>
  match cs.toList with
  | [.int .u64 a,.int .u64 b,.int .u64 c,.int .u64 d]=>some ⟨a,b,c,d⟩
  | _=>none
 | _=>none
theorem Zer {v:Value}{x:W4}(h:w4 v=some x):v=vW x:=by
 unfold w4 at h;split at h
 ·rename_i cs;split at h
  ·rename_i a b c d hc;cases h;obtain⟨l⟩:=cs;simp only at hc;subst hc;rfl
  ·cases h
 ·cases h
def g2 (k:W4→W4→List Dec→Option (Value×List Dec×Log)):Ans:=fun vals s=>
 match vals with
 | [x,y]=>
  match w4 x,w4 y with
  | some a,some b=>
   match k a b s with
   | some r=>some (r.1,r.2.1,(decide (a.ok∧b.ok),true)::r.2.2)
   | none=>none
  | _,_=>none
 | _=>none
theorem Z6L {f:Nat}{k:W4→W4→List Dec→Option (Value×List Dec×Log)}
  (hk:∀ x y:W4,x.ok→y.ok→∀ s v s' lg,k x y s=some (v,s',lg)→Z3 lg→∀ w,Calls prog f #[vW x,vW y] w fun e w'=>e= .returned v∧Zal w w'):ZR f (g2 k):=by
 intro vals s v s' lg h hl w;unfold g2 at h;split at h
 ·split at h
  ·rename_i a b ha hb;split at h
   ·rename_i r hr;cases h;have h1:=hl _ (Xe);simp only[Xi] at h1;rw[Zer ha,Zer hb];exact hk a b h1.1 h1.2 s r.1 r.2.1 r.2.2 hr (fun p hp=>hl p (Xd _ hp)) w
   ·cases h
  ·cases h
 ·cases h
def ZiX (k:W4→W4→Value):W4→W4→List Dec→Option (Value×List Dec×Log):=fun x y s=>some (k x y,s,[])
theorem ZgI {f:Nat}{k:W4→W4→Value}(hk:∀ x y:W4,x.ok→y.ok→∀ w,Calls prog f #[vW x,vW y] w fun e w'=>e= .returned (k x y)∧Zal w w'):ZR f (g2 (ZiX k)):=
 Z6L fun x y hx hy s v s' lg h _ w=>by
  unfold ZiX at h;cases h;exact hk x y hx hy w
def okA (x y c:Int):Bool×Bool:=(decide (0≤x∧0≤y∧0≤c∧c≤1),true)
theorem Zrs (x y:W4):Z7 (Zm (Zk prog Zf Zn true) 3000 73 [vW x,vW y] []) (.tuple #[vW (Z60 x y),.bool (Z61 x y !=0)])
  [okA x.d y.d (ca x.c y.c (ca x.b y.b (ca x.a y.a 0))),okA x.c y.c (ca x.b y.b (ca x.a y.a 0)),okA x.b y.b (ca x.a y.a 0),okA x.a y.a 0]:=by and_intros<;>kernel_rfl
def ZwL (x y:W4):Value:= .tuple #[vW (W4.of (x.val+y.val)),.bool (decide (115792089237316195423570985008687907853269984665640564039457584007913129639936≤x.val+y.val))]
theorem ZgJ (x y:W4) (hx:x.ok) (hy:y.ok) (w:World):Calls prog 73 #[vW x,vW y] w fun e w'=>e= .returned (ZwL x y)∧Zal w w':=by
 have h:=Zc (Zj Zd) (Zrs x y) (by
  obtain⟨h1,h2,h3,h4⟩:=hx;obtain⟨k1,k2,k3,k4⟩:=hy;have b1:0≤ca x.a y.a 0∧ca x.a y.a 0≤1:=by unfold ca;omega
  have b2:0≤ca x.b y.b (ca x.a y.a 0)∧ca x.b y.b (ca x.a y.a 0)≤1:=by generalize ca x.a y.a 0=k at*;unfold ca;omega
  have b3:0≤ca x.c y.c (ca x.b y.b (ca x.a y.a 0))∧ca x.c y.c (ca x.b y.b (ca x.a y.a 0))≤1:=by generalize ca x.b y.b (ca x.a y.a 0)=k at*;unfold ca;omega
  intro p hp;simp only[List.mem_cons,List.not_mem_nil,or_false] at hp;rcases hp with rfl | rfl | rfl | rfl<;>simp only[okA,Xi]<;>omega) (by rfl) (by rfl) w
 rw[ZvZ hx hy,Zwa hx hy] at h;exact h
end Go.Proofs.YtjlponbdflkbjaaGreatDoor
namespace Go.Proofs.YtjlponbdflkbjaaGreatDoor
open Go.Proofs.Tryz
open Go.IntKind
open Go.KRun Go.Wd
def g1n (k:W4→Int→List Dec→Option (Value×List Dec×Log)):Ans:=fun vals s=>
 match vals with
 | [x,.int .i64 n]=>
  match w4 x with
  | some a=>
   match k a n s with
   | some r=>some (r.1,r.2.1,(decide (a.ok∧ -9223372036854775808≤n∧n≤9223372036854775807),true)::r.2.2)
   | none=>none
  | none=>none
 | _=>none
theorem Ztu {f:Nat}{k:W4→Int→List Dec→Option (Value×List Dec×Log)}
  (hk:∀ (x:W4) (n:Int),x.ok→ -9223372036854775808≤n→n≤9223372036854775807→∀ s v s' lg,k x n s=some (v,s',lg)→Z3 lg→∀ w,Calls prog f #[vW x,.int .i64 n] w fun e w'=>e= .returned v∧Zal w w'):ZR f (g1n k):=by
 intro vals s v s' lg h hl w;unfold g1n at h;split at h
 ·split at h
  ·rename_i a ha;split at h
   ·rename_i r hr;cases h;have h1:=hl _ (Xe);simp only[Xi] at h1;rw[Zer ha];exact hk a _ h1.1 h1.2.1 h1.2.2 s r.1 r.2.1 r.2.2 hr (fun p hp=>hl p (Xd _ hp)) w
   ·cases h
  ·cases h
 ·cases h
def Zdk (k:W4→Int→Value):W4→Int→List Dec→Option (Value×List Dec×Log):=fun x n s=>some (k x n,s,[])
theorem ZbZ {f:Nat}{k:W4→Int→Value}(hk:∀ (x:W4) (n:Int),x.ok→ -9223372036854775808≤n→n≤9223372036854775807→∀ w,Calls prog f #[vW x,.int .i64 n] w fun e w'=>e= .returned (k x n)∧Zal w w'):ZR f (g1n (Zdk k)):=
 Ztu fun x n hx h0 h1 s v s' lg h _ w=>by
  unfold Zdk at h;cases h;exact hk x n hx h0 h1 w
theorem Ze6 {p:Bool×Bool}(h:p.1=p.2):Z3 [p]:=fun x hx=>by rw[List.mem_singleton.1 hx];exact h
theorem ZL {p:Bool×Bool}{l:Log}(h:p.1=p.2) (hl:Z3 l):Z3 (p::l):=fun x hx=>by
 rcases List.mem_cons.1 hx with rfl | hx
 ·exact h
 ·exact hl x hx
def lu (n:Int):Bool×Bool:=(decide (prt n<0),false)
def ld (n:Int):Bool×Bool:=(decide (rem n<0),false)
def lq (n k:Int):Log:=[(decide ((64:Int)=0),false),(decide (i64.wrap (n.tdiv 64)=k),true),(decide (n≥256),false),(decide (n<1),false)]
theorem ZwM (x:W4) (n:Int):Z7 (Zm (Zk prog Zf Zn true) 3000 74 [vW x,.int .i64 n] [tst true]) (vW x) [(decide (n<1),true)]:=by and_intros<;>kernel_rfl
theorem Zrt (x:W4) (n:Int):Z7 (Zm (Zk prog Zf Zn true) 3000 74 [vW x,.int .i64 n] [tst false,tst true]) (vW ⟨0,0,0,0⟩) [(decide (n≥256),true),(decide (n<1),false)]:=by and_intros<;>kernel_rfl
theorem Z6M (x:W4) (n:Int):Z7 (Zm (Zk prog Zf Zn true) 3000 74 [vW x,.int .i64 n] [tst false,tst false,num 0]) (vW (Z1u x n)) (ld n::lu n::ld n::lu n::ld n::lu n::lu n::lq n 0):=by and_intros<;>kernel_rfl
theorem Z6N (x:W4) (n:Int):Z7 (Zm (Zk prog Zf Zn true) 3000 74 [vW x,.int .i64 n] [tst false,tst false,num 1]) (vW (Z1v x n)) (ld n::lu n::ld n::lu n::lu n::lq n 1):=by and_intros<;>kernel_rfl
theorem Z6O (x:W4) (n:Int):Z7 (Zm (Zk prog Zf Zn true) 3000 74 [vW x,.int .i64 n] [tst false,tst false,num 2]) (vW (Z1w x n)) (ld n::lu n::lu n::lq n 2):=by and_intros<;>kernel_rfl
theorem Z6P (x:W4) (n:Int):Z7 (Zm (Zk prog Zf Zn true) 3000 74 [vW x,.int .i64 n] [tst false,tst false,num 3]) (vW (Z1x x n)) (lu n::lq n 3):=by and_intros<;>kernel_rfl
def Ze7 (x:W4) (n:Int):W4:=if n<1 then x else if 256≤n then ⟨0,0,0,0⟩ else W4.of (x.val*2^n.toNat)
def ZnG (x:W4) (n:Int):Value:=vW (Ze7 x n)
theorem ZwN {n:Int}(h:0≤n):(lu n).1=(lu n).2:=by
 have:=ZmZ h;exact Xb (by omega)
theorem Z1W {n:Int}(h:0≤n):(ld n).1=(ld n).2:=by
 have:=Ztd h;exact Xb (by omega)
theorem ZgK {n k:Int}(h1:¬ n<1) (h2:¬ 256≤n) (h3:n/64=k):Z3 (lq n k):=by
 refine ZL (by rfl) (ZL (Xa ?_) (ZL (Xb h2) (Ze6 (Xb h1))));rw[Int.tdiv_eq_ediv_of_nonneg (by omega),ZbL (by omega) (by omega)];exact h3
theorem Zes (x:W4) (n:Int) (hx:x.ok) (_h0: -9223372036854775808≤n) (_h9:n≤9223372036854775807) (w:World):Calls prog 74 #[vW x,.int .i64 n] w fun e w'=>e= .returned (ZnG x n)∧Zal w w':=by
 unfold ZnG Ze7;by_cases h1:n<1
 ·rw[if_pos h1];exact Zc (Zj Zd) (ZwM x n) (Ze6 (Xa h1)) (by rfl) (by rfl) w
 ·rw[if_neg h1];by_cases h2:256≤n
  ·rw[if_pos h2];exact Zc (Zj Zd) (Zrt x n) (ZL (Xa h2) (Ze6 (Xb h1))) (by rfl) (by rfl) w
  ·rw[if_neg h2];have hn:0≤n:=by omega
   have u:=ZwN hn;have d:=Z1W hn;have hj:n/64=0∨n/64=1∨n/64=2∨n/64=3:=by omega
   rcases hj with hj | hj | hj | hj
   ·rw[← Zwb hx hn hj];exact Zc (Zj Zd) (Z6M x n) (ZL d (ZL u (ZL d (ZL u (ZL d (ZL u (ZL u (ZgK h1 h2 hj)))))))) (by rfl) (by rfl) w
   ·rw[← Zwc hx hn hj];exact Zc (Zj Zd) (Z6N x n) (ZL d (ZL u (ZL d (ZL u (ZL u (ZgK h1 h2 hj)))))) (by rfl) (by rfl) w
   ·rw[← Zwd hx hn hj];exact Zc (Zj Zd) (Z6O x n) (ZL d (ZL u (ZL u (ZgK h1 h2 hj)))) (by rfl) (by rfl) w
   ·rw[← Zwe hx hn hj];exact Zc (Zj Zd) (Z6P x n) (ZL u (ZgK h1 h2 hj)) (by rfl) (by rfl) w
def ZhB:Con:=alt 74 (g1n (Zdk ZnG)) Zn
theorem Zca:ConOk ZhB:=Z9 func74 rfl (ZbZ Zes) Zd
def lk (x:W4) (n:Int):Bool×Bool:=(decide (x.ok∧ -9223372036854775808≤n∧n≤9223372036854775807),true)
def Z4x (m x:W4) (n:Int):Value:= .tuple #[vW m,.bool (!(eqW (Ze7 m n) x))]
theorem ZwO (x:W4) (n:Int):Z7 (Zm (Zk prog Zf ZhB true) 3000 125 [vW x,.int .i64 n] [tst true]) (.tuple #[vW x,.bool false]) [(decide (n<1),true)]:=by and_intros<;>kernel_rfl
theorem Zru (x:W4) (n:Int):Z7 (Zm (Zk prog Zf ZhB true) 3000 125 [vW x,.int .i64 n] [tst false,tst true]) (.tuple #[vW ⟨0,0,0,0⟩,.bool (!(eqW x ⟨0,0,0,0⟩))]) [(decide (n≥256),true),(decide (n<1),false)]:=by and_intros<;>kernel_rfl
theorem Z6Q (x:W4) (n:Int):Z7 (Zm (Zk prog Zf ZhB true) 3000 125 [vW x,.int .i64 n] [tst false,tst false,num 0]) (Z4x (Zwf x n) x n) (lk (Zwf x n) n::lu n::ld n::lu n::ld n::lu n::ld n::lu n::lq n 0):=by and_intros<;>kernel_rfl
theorem Z6R (x:W4) (n:Int):Z7 (Zm (Zk prog Zf ZhB true) 3000 125 [vW x,.int .i64 n] [tst false,tst false,num 1]) (Z4x (Zwg x n) x n) (lk (Zwg x n) n::lu n::ld n::lu n::ld n::lu n::lq n 1):=by and_intros<;>kernel_rfl
theorem Z6S (x:W4) (n:Int):Z7 (Zm (Zk prog Zf ZhB true) 3000 125 [vW x,.int .i64 n] [tst false,tst false,num 2]) (Z4x (Zwh x n) x n) (lk (Zwh x n) n::lu n::ld n::lu n::lq n 2):=by and_intros<;>kernel_rfl
theorem Z6T (x:W4) (n:Int):Z7 (Zm (Zk prog Zf ZhB true) 3000 125 [vW x,.int .i64 n] [tst false,tst false,num 3]) (Z4x (Zwi x n) x n) (lk (Zwi x n) n::lu n::lq n 3):=by and_intros<;>kernel_rfl
def ZjZ (x:W4) (n:Int):W4:=if n<1 then x else if 256≤n then ⟨0,0,0,0⟩ else W4.of (x.val/2^n.toNat)
def ZgU (x:W4) (n:Int):Bool:=if n<1 then false else if 256≤n then decide (x.val≠0) else decide (x.val % 2^n.toNat≠0)
def Z1X (x:W4) (n:Int):Value:= .tuple #[vW (ZjZ x n),.bool (ZgU x n)]
theorem Zrv {x:W4}(hx:x.ok):(!(eqW x ⟨0,0,0,0⟩))=decide (x.val≠0):=by
 rw[Bool.eq_iff_iff];simp only[Bool.not_eq_true',Xi,← Bool.not_eq_true,ZfH];constructor
 ·intro h h0;exact h (W4.val_inj hx ⟨z64,z64,z64,z64⟩ (h0.trans (by rfl)))
 ·intro h h0;exact h (by rw[h0];rfl)
theorem lost_iff {x:W4}(hx:x.ok) {n:Int}(h1:¬ n<1) (h2:¬ 256≤n):(!(eqW (Ze7 (W4.of (x.val/2^n.toNat)) n) x))=decide (x.val % 2^n.toNat≠0):=by
 have hp:(0:Int)<2^n.toNat:=Int.pow_pos (by omega);have b:=W4.val_bd hx;have hm:=Int.mul_ediv_add_emod x.val (2^n.toNat);have h3:=Int.emod_nonneg x.val (Int.ne_of_gt hp);have h4:0≤x.val/2^n.toNat:=Int.ediv_nonneg b.1 (by omega);have h5:x.val/2^n.toNat≤x.val:=by
  have:=ZcA 1 (2^n.toNat) (x.val/2^n.toNat) h4 (by omega);rw[Int.mul_one,Int.mul_comm] at this;omega
 have e:Ze7 (W4.of (x.val/2^n.toNat)) n=W4.of (x.val-x.val % 2^n.toNat):=by
  unfold Ze7;rw[if_neg h1,if_neg h2,W4.val_of,Int.emod_eq_of_lt h4 (by omega),Int.mul_comm];congr 1;omega
 rw[e,Bool.eq_iff_iff];simp only[Bool.not_eq_true',Xi,← Bool.not_eq_true,ZfH];generalize x.val % 2^n.toNat=l at*;have h6:0≤2^n.toNat*(x.val/2^n.toNat):=Int.mul_nonneg (by omega) h4;constructor
 ·intro h h0;apply h;rw[h0,Int.sub_zero,W4.of_val hx]
 ·intro h h0;have h7:=congrArg W4.val h0;rw[W4.val_of,Int.emod_eq_of_lt (by omega) (by omega)] at h7;omega
theorem Zrw {x:W4}{n:Int}(h:x.ok) (h0: -9223372036854775808≤n) (h9:n≤9223372036854775807):(lk x n).1=(lk x n).2:=by
 unfold lk;exact Xa ⟨h,h0,h9⟩
set_option maxRecDepth 100000 in
theorem ZnH (x:W4) (n:Int) (hx:x.ok) (h0: -9223372036854775808≤n) (h9:n≤9223372036854775807) (w:World):Calls prog 125 #[vW x,.int .i64 n] w fun e w'=>e= .returned (Z1X x n)∧Zal w w':=by
 unfold Z1X ZjZ ZgU;by_cases h1:n<1
 ·rw[if_pos h1,if_pos h1];exact Zc (Zj Zca) (ZwO x n) (Ze6 (Xa h1)) (by rfl) (by rfl) w
 ·rw[if_neg h1,if_neg h1];by_cases h2:256≤n
  ·rw[if_pos h2,if_pos h2,← Zrv hx];exact Zc (Zj Zca) (Zru x n) (ZL (Xa h2) (Ze6 (Xb h1))) (by rfl) (by rfl) w
  ·rw[if_neg h2,if_neg h2];have hn:0≤n:=by omega
   have u:=ZwN hn;have d:=Z1W hn;have hl:=lost_iff hx h1 h2;have hj:n/64=0∨n/64=1∨n/64=2∨n/64=3:=by omega
   rw[← hl];rcases hj with hj | hj | hj | hj
   ·obtain⟨e1,e2⟩:=Znc hx hn hj;rw[← e1];exact Zc (Zj Zca) (Z6Q x n) (ZL (Zrw e2 h0 h9) (ZL u (ZL d (ZL u (ZL d (ZL u (ZL d (ZL u (ZgK h1 h2 hj))))))))) (by rfl) (by rfl) w
   ·obtain⟨e1,e2⟩:=Znd hx hn hj;rw[← e1];exact Zc (Zj Zca) (Z6R x n) (ZL (Zrw e2 h0 h9) (ZL u (ZL d (ZL u (ZL d (ZL u (ZgK h1 h2 hj))))))) (by rfl) (by rfl) w
   ·obtain⟨e1,e2⟩:=Zne hx hn hj;rw[← e1];exact Zc (Zj Zca) (Z6S x n) (ZL (Zrw e2 h0 h9) (ZL u (ZL d (ZL u (ZgK h1 h2 hj))))) (by rfl) (by rfl) w
   ·obtain⟨e1,e2⟩:=Znf hx hn hj;rw[← e1];exact Zc (Zj Zca) (Z6T x n) (ZL (Zrw e2 h0 h9) (ZL u (ZgK h1 h2 hj))) (by rfl) (by rfl) w
def Zka (b:Bool):List Dec→Bool×List Dec×Log
 | .inr (.inr (.inr (.inl d)))::s=>(d,s,[(b,d)])
 | s=>(b,s,[])
theorem Zrx {b:Bool}{s:List Dec}(h:Z3 (Zka b s).2.2):(Zka b s).1=b:=by
 unfold Zka at*;split at h
 ·rename_i d s;exact (h (b,d) Xf).symm
 ·rfl
def Z6U:W4→Int→List Dec→Option (Value×List Dec×Log):=fun x n s=>some (.tuple #[vW (ZjZ x n),.bool (Zka (ZgU x n) s).1],(Zka (ZgU x n) s).2.1,(Zka (ZgU x n) s).2.2)
theorem ZwP:ZR 125 (g1n Z6U):=Ztu fun x n hx h0 h1 s v s' lg h hl w=>by
 unfold Z6U at h;cases h;rw[Zrx hl];exact ZnH x n hx h0 h1 w
end Go.Proofs.YtjlponbdflkbjaaGreatDoor
namespace Go.Proofs.YtjlponbdflkbjaaGreatDoor
open Go.Proofs.Tryz
open Go.IntKind
open Go.KRun Go.Nt Go.Rd Go.Wd
set_option maxRecDepth 100000
theorem sh1 (D:List UInt8) (k:Int):Z7 (Zm (Zk prog Zf Zn true) 100 33 [bR D,.int .i64 k] [cmp true]) (bR D) [(decide (((D.length:Nat):Int)≤k),true)]:=by and_intros<;>kernel_rfl
theorem sh2 (D:List UInt8) (k:Int):Z7 (Zm (Zk prog Zf Zn true) 100 33 [bR D,.int .i64 k] [cmp false,sam true,sam true]) (bR (D.take k.toNat++[49])) [(decide ((D.take k.toNat).length+1≤9223372036854775807),true),(decide (0≤k∧k≤(D.length:Nat)),true),(decide (((D.length:Nat):Int)≤k),false)]:=by and_intros<;>kernel_rfl
def Z6V:Ans:=fun vals s=>
 match vals with
 | [.string a,.int .i64 k]=>some (bR (shR k.toNat a.data.toList),s,[(decide (0≤k∧k≤1000∧a.data.toList.length≤100000),true)])
 | _=>none
theorem ZwQ:ZR 33 Z6V:=by
 intro vals s v s' lg h hl w;unfold Z6V at h;split at h
 ·rename_i a k;cases h;have q:=Xc (hl _ Xf);have hT:=Zj Zd;unfold shR;by_cases h1:((a.data.toList.length:Nat):Int)≤k
  ·rw[if_pos (by omega)];exact Zc hT (sh1 a.data.toList k) (Z4 (Xa h1)) (by rfl) (by rfl) w
  ·rw[if_neg (by omega)];exact Zc hT (sh2 a.data.toList k) (Za (Xa (by rw[List.length_take];omega)) (Za (Xa (by omega)) (Z4 (Xb h1)))) (by rfl) (by rfl) w
 ·cases h
def ZgL:Con:=alt 74 (g1n (Zdk ZnG)) (alt 73 (g2 (ZiX ZwL)) (alt 69 Z1N Zn))
theorem ZiY:ConOk ZgL:=Z9 func74 rfl (ZbZ Zes) (Z9 func73 rfl (ZgI ZgJ) (Z9 func69 rfl ZhA Zd))
def sxI (F:Func):Code:=Z2 (sP F 2)
def sxL (F:Func):Code:=cIn (cIn (Zz (sP F 2)))
theorem ZwR:f34.body=some (ZW [sP f34 0,sP f34 1] (.seq (.seq (sxI f34) (.block 0 (.loop (sxL f34)))) (sK f34 3))):=by kernel_rfl
def wB9 (x:W4):List Value×TypeId:=([.int .u64 x.a,.int .u64 x.b,.int .u64 x.c,.int .u64 x.d],51)
def sxM (x:W4):Hp:=⟨2,[wB9 x,wB9 ⟨0,0,0,0⟩]⟩
def sxF (D:List UInt8) (v4:Value) (i:Int):List Value:=[bR D,undef,pO 0,pO 1,v4,bR D,.int .i64 (D.length:Nat),.int .i64 i]
theorem Z1Y (D:List UInt8):Zg (evL (Zk prog Zf ZgL true) 100 [sP f34 0,sP f34 1] ([bR D]++List.replicate 23 undef,⟨0,[]⟩,[]) ⟨[],[],[]⟩) 5 19 none [bR D,undef,pO 0,pO 1,undef] (sxM ⟨0,0,0,0⟩) []:=by and_intros<;>kernel_rfl
theorem Z98 (D:List UInt8) (g:Nat→Value):Zg (evC (Zk prog Zf ZgL true) 100 false (sxI f34) ([bR D,undef,pO 0,pO 1,undef]++tl 19 g,sxM ⟨0,0,0,0⟩,[]) ⟨[],[],[]⟩) 8 16 none (sxF D undef 0) (sxM ⟨0,0,0,0⟩) []:=by and_intros<;>kernel_rfl
theorem Z99 (D:List UInt8) (x:W4) (v4:Value) (i:Int) (g:Nat→Value):Zg (evC (Zk prog Zf ZgL true) 100 false (sxL f34) (sxF D v4 i++tl 16 g,sxM x,[cmp false]) ⟨[],[],[]⟩) 8 16 (some (some 0)) (sxF D v4 i) (sxM x) [(decide (i<(D.length:Nat)),false)]:=by and_intros<;>kernel_rfl
theorem Z9A (D:List UInt8) (x:W4) (v4:Value) (i:Int) (g:Nat→Value):Zg (evC (Zk prog Zf ZgL true) 100 false (sK f34 3) (sxF D v4 i++tl 16 g,sxM x,[]) ⟨[],[],[]⟩) 3 21 (some none) [bR D,undef,pO 0] ⟨2,[wB9 x,wB9 x]⟩ []:=by and_intros<;>kernel_rfl
def wD9 (d:Int):W4:=⟨u64.wrap d,0,0,0⟩
theorem Z9B (D:List UInt8) (x:W4) (v4:Value) (i:Int) (g:Nat→Value):Zg (evC (Zk prog Zf ZgL true) 100 false (sxL f34) (sxF D v4 i++tl 16 g,sxM x,[cmp true]) ⟨[],[],[]⟩) 8 16 none (sxF D (.int .i64 i) (i64.wrap (i+1))) (sxM (W4.of ((Ze7 x 4).val+(wD9 (dvB (byR D i))).val))) [(decide ((Ze7 x 4).ok∧(wD9 (dvB (byR D i))).ok),true),(decide (0≤byR D i∧byR D i<256),true),(decide (x.ok∧(-9223372036854775808:Int)≤4∧(4:Int)≤9223372036854775807),true),(decide (0≤i∧i.toNat<D.length),true),(decide (i<(D.length:Nat)),true)]:=by and_intros<;>kernel_rfl
theorem Z1Z {X d:Nat}(hX:X*16+d<2^256) (hd:d<16):(Ze7 (ofN X) 4).ok∧(wD9 (d:Nat)).ok∧W4.of ((Ze7 (ofN X) 4).val+(wD9 (d:Nat)).val)=ofN (X*16+d):=by
 have h2:(2:Nat)^256=115792089237316195423570985008687907853269984665640564039457584007913129639936:=rfl;have hX2:X<2^256:=by omega
 have hv:(ofN X).val=(X:Int):=by rw[W4.nat_val (zO X),Zbq hX2]
 have e1:Ze7 (ofN X) 4=W4.of (((X*16:Nat)):Int):=by
  unfold Ze7;rw[if_neg (by decide),if_neg (by decide),hv];congr 1
 have ew:u64.wrap ((d:Nat):Int)=(d:Int):=by
  simp [IntKind.wrap,IntKind.bits,IntKind.signed];omega
 have o2:(wD9 (d:Nat)).ok∧(wD9 (d:Nat)).val=(d:Int):=by
  unfold wD9;rw[ew];refine⟨⟨⟨by dsimp only;omega,by dsimp only;omega⟩,⟨by dsimp only;omega,by dsimp only;omega⟩,⟨by dsimp only;omega,by dsimp only;omega⟩,⟨by dsimp only;omega,by dsimp only;omega⟩⟩,?_⟩;unfold W4.val;simp only[Int.mul_zero,Int.add_zero]
 refine⟨by rw[e1];exact W4.ok_of _,o2.1,?_⟩;rw[e1,W4.val_of,o2.2,Int.emod_eq_of_lt (by omega) (by omega)];unfold ofN;congr 1
def sxJ (D:List UInt8) (i:Nat) (y:Lf):Prop:=∃ (v4:Value) (g:Nat→Value),i≤D.length∧y.1=sxF D v4 i++tl 16 g∧y.2.1=sxM (ofN (nmB 16 (D.take i)))
theorem Zry {D:List UInt8}(h2:D.length≤62) (ha:zf 16 D=true) (r:Nat) (y:Lf) (h:∃ i,r=D.length-i∧sxJ D i y):
  Runs (Zk prog Zf ZgL true) (sxL f34) y fun e z=>match e with | none=>∃ r',r'<r∧∃ i,r'=D.length-i∧sxJ D i z | some none=>False | some (some id')=>id'=0∧sxJ D D.length z:=by
 have hT:=Zj ZiY;obtain⟨i,hr,v4,g,hi,ht,hh⟩:=h;obtain⟨t,h',sc⟩:=y;simp only at ht hh;subst ht hh;by_cases hc:i<D.length
 ·have lA:decide (((i:Nat):Int)<(D.length:Nat))=true:=Xa (by omega);have lI:decide ((0:Int)≤(i:Nat)∧((i:Nat):Int).toNat<D.length)=true:=Xa ⟨by omega,by rw[Xg];exact hc⟩;have ew:i64.wrap (((i:Nat):Int)+1)=((i+1:Nat):Int):=by rw[Zw (by omega) (by omega)];omega
  have eC:lq8 (D.getD i 0)=byR D (i:Nat):=by unfold lq8 byR;rw[Xg]
  have hdg:0≤ZO (lq8 (D.getD i 0)) 16:=by
   unfold zf at ha;refine Xc (List.all_eq_true.1 ha _ ?_);rw[List.getD_eq_getElem?_getD,List.getElem?_eq_getElem hc,Option.getD_some];exact List.getElem_mem hc
  have hlt:=(ZfL (lq8 (D.getD i 0)) 16).2;obtain⟨d,hd⟩:∃ d:Nat,d=(ZO (lq8 (D.getD i 0)) 16).toNat:=⟨_,rfl⟩;have ed:dvB (byR D (i:Nat))=(d:Nat):=by rw[← eC,← Zn4 hdg];omega
  have ht:=ZfM 16 D hc;rw[← hd] at ht;have hb:nmB 16 (D.take i)*16+d<2^256:=by
   have h3:nmB 16 (D.take i)*16+d=nmB 16 (D.take (i+1)):=ht.symm;rw[h3];refine Nat.lt_of_lt_of_le (Zeo (.inr rfl) _) (Nat.pow_le_pow_right (by omega) ?_);rw[List.length_take];omega
  obtain⟨n1,n2,n3⟩:=Z1Z hb (by omega);have hg:=Z9B D (ofN (nmB 16 (D.take i))) v4 (i:Nat) g;rw[ew,ed,n3] at hg;refine (Zb (s0:=sc) hT hg (Za (Xa ⟨n1,n2⟩) (Za (ZiU D _) (Za (Xa ⟨zO _,by decide,by decide⟩) (Za lI (Z4 lA)))))).mono fun e z he=> ?_;obtain⟨rfl,⟨g',z1⟩,z2⟩:=he;refine⟨D.length-(i+1),by omega,i+1,rfl,_,g',by omega,z1,?_⟩;rw[z2,show nmB 16 (D.take (i+1))=nmB 16 (D.take i)*16+d from ht]
 ·have:i=D.length:=by omega
  subst this;refine (Zb (s0:=sc) hT (Z99 D _ v4 (D.length:Nat) g) (Z4 (Xb (by omega)))).mono fun e z he=> ?_;obtain⟨rfl,⟨g',z1⟩,z2⟩:=he;exact⟨rfl,v4,g',hi,z1,z2⟩
theorem Zrz (D:List UInt8) (hs:D.length≤62) (ha:zf 16 D=true) (w:World):Calls prog 34 #[bR D] w fun r w'=>r= .returned (vW (ofN (nmB 16 D)))∧Zal w w':=by
 have hT:=Zj ZiY;refine ZJ (T:=Zk prog Zf ZgL true) func34 ZwR (by rfl) (by rfl) ?_ w;refine Zv hT (Z1Y D) ZaI fun g=> ?_;refine Runs.seq (P1:=fun e y=>match e with | none=>sxJ D D.length y | some none=>False | some (some _)=>False) ?_ ?_ ?_
 ·refine Runs.seq (P1:=fun e y=>e=none∧∃ g',y.1=sxF D undef 0++tl 16 g'∧y.2.1=sxM ⟨0,0,0,0⟩) ?_ ?_ (fun e y he=>by cases he.1)
  ·refine (Zb hT (Z98 D g) ZaI).mono fun e z he=> ?_;obtain⟨rfl,⟨g',z1⟩,z2⟩:=he;exact⟨rfl,g',z1,z2⟩
  ·rintro⟨t,hh,sc⟩ ⟨_,g',e1,e2⟩;simp only at e1 e2;subst e1 e2;exact Runs.forLoop (R:=fun _=>False) (P:=sxJ D D.length) (fun r y=>∃ i,r=D.length-i∧sxJ D i y) (Zry hs ha) (n:=D.length-0) ⟨0,rfl,undef,g',Nat.zero_le _,rfl,by rw[show ofN (nmB 16 (D.take 0))=⟨0,0,0,0⟩ from ZcB]⟩
 ·rintro⟨t,hh,sc⟩ ⟨v4,g',_,e1,e2⟩;simp only at e1 e2;subst e1 e2;rw[List.take_length];refine (Zb (s0:=sc) hT (Z9A D _ v4 _ g') ZaI).mono fun e z he=> ?_;obtain⟨rfl,⟨g2,z1⟩,z2⟩:=he;exact⟨.inr rfl,by rw[z1,z2];rfl⟩
 ·rintro e y he
  match e,he with
  | none,he=>exact he.elim
def Z6W:Ans:=fun vals s=>
 match vals with
 | [.string a]=>some (vW (ofN (nmB 16 a.data.toList)),s,[(zf 16 a.data.toList,true),(decide (a.data.toList.length≤62),true)])
 | _=>none
theorem ZwS:ZR 34 Z6W:=by
 intro vals s v s' lg h hl w;unfold Z6W at h;split at h
 ·rename_i a;cases h;have h1:zf 16 a.data.toList=true:=hl _ Xe;have h2:=Xc (hl _ (Xd _ Xf));exact Zrz _ h2 h1 w
 ·cases h
end Go.Proofs.YtjlponbdflkbjaaGreatDoor
namespace Go.Proofs.YtjlponbdflkbjaaGreatDoor
open Go.Proofs.Tryz
open Go.IntKind
open Go.KRun Go.Wd
def ZaB:List UInt8:=(List.range 256).map fun i=>UInt8.ofNat (bitLen i)
def Zea (z:Int):Int:=((ZaB.getD (u8.wrap z).toNat 0).toNat:Int)
def lt8 (z:Int):Bool×Bool:=(decide (0≤u8.wrap z∧(u8.wrap z).toNat<ZaB.length),true)
def sh (z:Int) (k:Nat):Int:=z.fdiv (2^k)
def ge (z k:Int) (d:Bool):Bool×Bool:=(decide (z≥k),d)
def Zfy (m z:Int):Value:= .int .i64 (i64.wrap (m+i64.wrap (Zea z)))
def nz:Bool×Bool:=(false,false)
theorem ZwT (u:Int):Z7 (Zm (Zk prog Zf Zn true) 3000 124 [.int .u64 u] [tst false,tst false,tst false]) (Zfy 0 u) [lt8 u,ge u 256 false,ge u 65536 false,ge u 4294967296 false]:=by and_intros<;>kernel_rfl
theorem ZwU (u:Int):Z7 (Zm (Zk prog Zf Zn true) 3000 124 [.int .u64 u] [tst false,tst false,tst true]) (Zfy 8 (sh u 8)) [lt8 (sh u 8),nz,ge u 256 true,ge u 65536 false,ge u 4294967296 false]:=by and_intros<;>kernel_rfl
theorem ZwV (u:Int):Z7 (Zm (Zk prog Zf Zn true) 3000 124 [.int .u64 u] [tst false,tst true,tst false]) (Zfy 16 (sh u 16)) [lt8 (sh u 16),ge (sh u 16) 256 false,nz,ge u 65536 true,ge u 4294967296 false]:=by and_intros<;>kernel_rfl
theorem ZwW (u:Int):Z7 (Zm (Zk prog Zf Zn true) 3000 124 [.int .u64 u] [tst false,tst true,tst true]) (Zfy 24 (sh (sh u 16) 8)) [lt8 (sh (sh u 16) 8),nz,ge (sh u 16) 256 true,nz,ge u 65536 true,ge u 4294967296 false]:=by and_intros<;>kernel_rfl
theorem ZwX (u:Int):Z7 (Zm (Zk prog Zf Zn true) 3000 124 [.int .u64 u] [tst true,tst false,tst false]) (Zfy 32 (sh u 32)) [lt8 (sh u 32),ge (sh u 32) 256 false,ge (sh u 32) 65536 false,nz,ge u 4294967296 true]:=by and_intros<;>kernel_rfl
theorem ZwY (u:Int):Z7 (Zm (Zk prog Zf Zn true) 3000 124 [.int .u64 u] [tst true,tst false,tst true]) (Zfy 40 (sh (sh u 32) 8)) [lt8 (sh (sh u 32) 8),nz,ge (sh u 32) 256 true,ge (sh u 32) 65536 false,nz,ge u 4294967296 true]:=by and_intros<;>kernel_rfl
theorem ZwZ (u:Int):Z7 (Zm (Zk prog Zf Zn true) 3000 124 [.int .u64 u] [tst true,tst true,tst false]) (Zfy 48 (sh (sh u 32) 16)) [lt8 (sh (sh u 32) 16),ge (sh (sh u 32) 16) 256 false,nz,ge (sh u 32) 65536 true,nz,ge u 4294967296 true]:=by and_intros<;>kernel_rfl
theorem Zxa (u:Int):Z7 (Zm (Zk prog Zf Zn true) 3000 124 [.int .u64 u] [tst true,tst true,tst true]) (Zfy 56 (sh (sh (sh u 32) 16) 8)) [lt8 (sh (sh (sh u 32) 16) 8),nz,ge (sh (sh u 32) 16) 256 true,nz,ge (sh u 32) 65536 true,nz,ge u 4294967296 true]:=by and_intros<;>kernel_rfl
theorem Zdc:ZaB.length=256:=by unfold ZaB;rw[List.length_map,List.length_range]
theorem Zdd (b:Nat) (h:b<256):(ZaB.getD b 0).toNat=bitLen b:=by
 have h1:ZaB.getD b 0=UInt8.ofNat (bitLen b):=by
  unfold ZaB;rw[List.getD,List.getElem?_map,List.getElem?_range h];rfl
 have h2:=bitLen_le8 b h;rw[h1,UInt8.toNat_ofNat'];omega
theorem Zhh {z:Int}(h0:0≤z) (h1:z<256):u8.wrap z=z:=by
 simp [IntKind.wrap,IntKind.bits,IntKind.signed];omega
theorem zV {m:Int}{Z:Nat}(hm:0≤m) (hm':m≤56) (h1:Z<256):Zfy m (Z:Int)= .int .i64 (m+bitLen Z)∧(lt8 (Z:Int)).1=(lt8 (Z:Int)).2:=by
 have hb:=bitLen_le8 Z h1;have e:=Zhh (z:=(Z:Int)) (by omega) (by omega);refine⟨?_,?_⟩
 ·unfold Zfy Zea;rw[e,Xg,Zdd Z h1,ZbL (n:=((bitLen Z:Nat):Int)) (by omega) (by omega),ZbL (by omega) (by omega)]
 ·unfold lt8;rw[e,Xg];rw[Zdc];exact Xa (And.intro (by omega) h1)
theorem Za5 (Z k:Nat):sh (Z:Int) k=((Z/2^k:Nat):Int):=by
 unfold sh;rw[Int.fdiv_eq_ediv_of_nonneg _ (Int.le_of_lt (Int.pow_pos (by omega)))];simp
theorem Zku {z k:Int}(h:k≤z):(ge z k true).1=(ge z k true).2:=Xa h
theorem Zkv {z k:Int}(h:z<k):(ge z k false).1=(ge z k false).2:=Xb (by omega)
theorem Zbc:nz.1=nz.2:=rfl
theorem ZaC (x b:Nat) (h:2^b≤x):bitLen x=b+bitLen (x/2^b):=bitLen_shift x b (by
 have:0<x/2^b:=Nat.div_pos h (Nat.two_pow_pos b);omega)
def ZnI (u:Int):Value:= .int .i64 (bitLen u.toNat:Nat)
set_option maxRecDepth 100000 in
theorem ZhC (u:Int) (h0:0≤u) (h1:u<18446744073709551616) (w:World):Calls prog 124 #[.int .u64 u] w fun e w'=>e= .returned (ZnI u)∧Zal w w':=by
 obtain⟨U,rfl⟩:=Int.eq_ofNat_of_zero_le h0;unfold ZnI;rw[Xg];have p8:(2:Nat)^8=256:=rfl;have p16:(2:Nat)^16=65536:=rfl;have p32:(2:Nat)^32=4294967296:=rfl;have step:∀ {v:Value}{m:Int}{Z:Nat}{s:List Dec}{cs:Log},Z7 (Zm (Zk prog Zf Zn true) 3000 124 [.int .u64 (U:Int)] s) v cs→Z3 cs→v= .int .i64 (bitLen U:Nat)→Calls prog 124 #[.int .u64 (U:Int)] w fun e w'=>e= .returned (.int .i64 (bitLen U:Nat))∧Zal w w':=
  fun {v m Z s cs} hf hc hv=>by subst hv;exact Zc (Zj Zd) hf hc (by rfl) (by rfl) w
 by_cases a:U<4294967296
 ·by_cases b:U<65536
  ·by_cases c:U<256
   ·obtain⟨e1,e2⟩:=zV (m:=0) (by omega) (by omega) c;exact step (m:=0) (Z:=0) (ZwT U) (ZL e2 (ZL (Zkv (by omega)) (ZL (Zkv (by omega)) (Ze6 (Zkv (by omega)))))) (by rw[e1];congr 1;omega)
   ·have l:=ZaC U 8 (by omega);obtain⟨e1,e2⟩:=zV (m:=8) (Z:=U/2^8) (by omega) (by omega) (by omega);rw[← Za5] at e1 e2;exact step (m:=0) (Z:=0) (ZwU U) (ZL e2 (ZL Zbc (ZL (Zku (by omega)) (ZL (Zkv (by omega)) (Ze6 (Zkv (by omega))))))) (by rw[e1];congr 1;omega)
  ·have l:=ZaC U 16 (by omega);by_cases c:U/2^16<256
   ·obtain⟨e1,e2⟩:=zV (m:=16) (Z:=U/2^16) (by omega) (by omega) c;rw[← Za5] at e1 e2;exact step (m:=0) (Z:=0) (ZwV U) (ZL e2 (ZL (Zkv (by rw[Za5];omega)) (ZL Zbc (ZL (Zku (by omega)) (Ze6 (Zkv (by omega))))))) (by rw[e1];congr 1;omega)
   ·have l2:=ZaC (U/2^16) 8 (by omega);obtain⟨e1,e2⟩:=zV (m:=24) (Z:=U/2^16/2^8) (by omega) (by omega) (by omega);rw[← Za5,← Za5] at e1 e2;exact step (m:=0) (Z:=0) (ZwW U) (ZL e2 (ZL Zbc (ZL (Zku (by rw[Za5];omega)) (ZL Zbc (ZL (Zku (by omega)) (Ze6 (Zkv (by omega)))))))) (by rw[e1];congr 1;omega)
 ·have l0:=ZaC U 32 (by omega);have q:U/2^32<4294967296:=by omega
  by_cases b:U/2^32<65536
  ·by_cases c:U/2^32<256
   ·obtain⟨e1,e2⟩:=zV (m:=32) (Z:=U/2^32) (by omega) (by omega) c;rw[← Za5] at e1 e2;exact step (m:=0) (Z:=0) (ZwX U) (ZL e2 (ZL (Zkv (by rw[Za5];omega)) (ZL (Zkv (by rw[Za5];omega)) (ZL Zbc (Ze6 (Zku (by omega))))))) (by rw[e1];congr 1;omega)
   ·have l:=ZaC (U/2^32) 8 (by omega);obtain⟨e1,e2⟩:=zV (m:=40) (Z:=U/2^32/2^8) (by omega) (by omega) (by omega);rw[← Za5,← Za5] at e1 e2;exact step (m:=0) (Z:=0) (ZwY U) (ZL e2 (ZL Zbc (ZL (Zku (by rw[Za5];omega)) (ZL (Zkv (by rw[Za5];omega)) (ZL Zbc (Ze6 (Zku (by omega)))))))) (by rw[e1];congr 1;omega)
  ·have l:=ZaC (U/2^32) 16 (by omega);by_cases c:U/2^32/2^16<256
   ·obtain⟨e1,e2⟩:=zV (m:=48) (Z:=U/2^32/2^16) (by omega) (by omega) c;rw[← Za5,← Za5] at e1 e2;exact step (m:=0) (Z:=0) (ZwZ U) (ZL e2 (ZL (Zkv (by rw[Za5,Za5];omega)) (ZL Zbc (ZL (Zku (by rw[Za5];omega)) (ZL Zbc (Ze6 (Zku (by omega)))))))) (by rw[e1];congr 1;omega)
   ·have l2:=ZaC (U/2^32/2^16) 8 (by omega);obtain⟨e1,e2⟩:=zV (m:=56) (Z:=U/2^32/2^16/2^8) (by omega) (by omega) (by omega);rw[← Za5,← Za5,← Za5] at e1 e2;exact step (m:=0) (Z:=0) (Zxa U) (ZL e2 (ZL Zbc (ZL (Zku (by rw[Za5,Za5];omega)) (ZL Zbc (ZL (Zku (by rw[Za5];omega)) (ZL Zbc (Ze6 (Zku (by omega))))))))) (by rw[e1];congr 1;omega)
def gu (k:Int→Value):Ans:=fun vals s=>
 match vals with
 | [.int .u64 u]=>some (k u,s,[(decide (0≤u∧u<18446744073709551616),true)])
 | _=>none
theorem Z6X {f:Nat}{k:Int→Value}(hk:∀ u,0≤u→u<18446744073709551616→∀ w,Calls prog f #[.int .u64 u] w fun e w'=>e= .returned (k u)∧Zal w w'):ZR f (gu k):=by
 intro vals s v s' lg h hl w;unfold gu at h;split at h
 ·cases h;have h1:=hl _ Xf;simp only[Xi] at h1;exact hk _ h1.1 h1.2 w
 ·cases h
def ZeV:Con:=alt 124 (gu ZnI) Zn
theorem ZaT:ConOk ZeV:=Z9 func124 rfl (Z6X ZhC) Zd
def ne0 (a:Int) (d:Bool):Bool×Bool:=(a !=0,d)
def yes:Bool×Bool:=(true,true)
def no:Bool×Bool:=(false,false)
def wd (u:Int):Bool×Bool:=(decide (0≤u∧u<18446744073709551616),true)
def ZyX (m u:Int):Value:= .int .i64 (i64.wrap (m+(bitLen u.toNat:Nat)))
theorem Z2a (x:W4):Z7 (Zm (Zk prog Zf ZeV true) 3000 82 [vW x] [tst true,tst true]) (ZyX 192 x.d) [wd x.d,ne0 x.d true,yes]:=by and_intros<;>kernel_rfl
theorem Z2b (x:W4):Z7 (Zm (Zk prog Zf ZeV true) 3000 82 [vW x] [tst true,tst false,tst true,tst true]) (ZyX 128 x.c) [wd x.c,ne0 x.c true,yes,ne0 x.d false,yes]:=by and_intros<;>kernel_rfl
theorem Z2c (x:W4):Z7 (Zm (Zk prog Zf ZeV true) 3000 82 [vW x] [tst true,tst false,tst true,tst false,tst true,tst true]) (ZyX 64 x.b) [wd x.b,ne0 x.b true,yes,ne0 x.c false,yes,ne0 x.d false,yes]:=by and_intros<;>kernel_rfl
theorem Z2d (x:W4):Z7 (Zm (Zk prog Zf ZeV true) 3000 82 [vW x] [tst true,tst false,tst true,tst false,tst true,tst false,tst true,tst true]) (ZyX 0 x.a) [wd x.a,ne0 x.a true,yes,ne0 x.b false,yes,ne0 x.c false,yes,ne0 x.d false,yes]:=by and_intros<;>kernel_rfl
theorem Z2e (x:W4):Z7 (Zm (Zk prog Zf ZeV true) 3000 82 [vW x] [tst true,tst false,tst true,tst false,tst true,tst false,tst true,tst false,tst false]) (.int .i64 0) [no,ne0 x.a false,yes,ne0 x.b false,yes,ne0 x.c false,yes,ne0 x.d false,yes]:=by and_intros<;>kernel_rfl
def Z4y (x:W4):Int:=(bitLen x.val.toNat:Nat)
def Zxb (x:W4):Value:= .int .i64 (Z4y x)
theorem ZfP {m u:Int}(h0:0≤m) (h1:m≤192) (hu:0≤u∧u<18446744073709551616):ZyX m u= .int .i64 (m+(bitLen u.toNat:Nat)):=by
 have:bitLen u.toNat≤64:=by
  unfold bitLen;split
  ·omega
  ·rename_i h;have:=(Nat.log2_lt h).2 (show u.toNat<2^64 by have:(2:Nat)^64=18446744073709551616:=rfl;omega);omega
 unfold ZyX;rw[ZbL (by omega) (by omega)]
theorem Z4z {a:Int}(h:a≠0):(ne0 a true).1=(ne0 a true).2:=bne_iff_ne.2 h
theorem ZoG {a:Int}(h:a=0):(ne0 a false).1=(ne0 a false).2:=by subst h;rfl
theorem Zr0 {u:Int}(h:0≤u∧u<18446744073709551616):(wd u).1=(wd u).2:=Xa h
theorem ZaS:yes.1=yes.2:=rfl
theorem Z6Y:no.1=no.2:=rfl
theorem ZfQ {X b U:Nat}(hU:U≠0) (h:X/2^b=U):bitLen X=b+bitLen U:=by
 rw[← h];exact bitLen_shift X b (by omega)
set_option maxRecDepth 100000 in
theorem Zkb (x:W4) (hx:x.ok) (w:World):Calls prog 82 #[vW x] w fun e w'=>e= .returned (Zxb x)∧Zal w w':=by
 have hx':=hx;obtain⟨a,b,c,d⟩:=x;obtain⟨h1,h2,h3,h4⟩:=hx;unfold Zxb Z4y W4.val;dsimp only at*;by_cases e4:d=0
 ·by_cases e3:c=0
  ·by_cases e2:b=0
   ·by_cases e1:a=0
    ·subst e1 e2 e3 e4;exact Zc (Zj ZaT) (Z2e ⟨0,0,0,0⟩) (ZL Z6Y (ZL (ZoG rfl) (ZL ZaS (ZL (ZoG rfl) (ZL ZaS (ZL (ZoG rfl) (ZL ZaS (ZL (ZoG rfl) (Ze6 ZaS))))))))) (by rfl) (by rfl) w
    ·have h:=Zc (Zj ZaT) (Z2d ⟨a,b,c,d⟩) (ZL (Zr0 h1) (ZL (Z4z e1) (ZL ZaS (ZL (ZoG e2) (ZL ZaS (ZL (ZoG e3) (ZL ZaS (ZL (ZoG e4) (Ze6 ZaS))))))))) (by rfl) (by rfl) w;rw[ZfP (by omega) (by omega) h1] at h;subst e2 e3 e4;simp at h ⊢;exact h
   ·have h:=Zc (Zj ZaT) (Z2c ⟨a,b,c,d⟩) (ZL (Zr0 h2) (ZL (Z4z e2) (ZL ZaS (ZL (ZoG e3) (ZL ZaS (ZL (ZoG e4) (Ze6 ZaS))))))) (by rfl) (by rfl) w;rw[ZfP (by omega) (by omega) h2] at h;have p:(2:Nat)^64=18446744073709551616:=rfl;have l:=ZfQ (X:=(a+18446744073709551616*b+340282366920938463463374607431768211456*c+6277101735386680763835789423207666416102355444464034512896*d).toNat) (b:=64) (U:=b.toNat) (by omega) (by rw[p];omega);rw[l];simp at h ⊢;exact h
  ·have h:=Zc (Zj ZaT) (Z2b ⟨a,b,c,d⟩) (ZL (Zr0 h3) (ZL (Z4z e3) (ZL ZaS (ZL (ZoG e4) (Ze6 ZaS))))) (by rfl) (by rfl) w;rw[ZfP (by omega) (by omega) h3] at h;have p:(2:Nat)^128=340282366920938463463374607431768211456:=rfl;have l:=ZfQ (X:=(a+18446744073709551616*b+340282366920938463463374607431768211456*c+6277101735386680763835789423207666416102355444464034512896*d).toNat) (b:=128) (U:=c.toNat) (by omega) (by rw[p];omega);rw[l];simp at h ⊢;exact h
 ·have h:=Zc (Zj ZaT) (Z2a ⟨a,b,c,d⟩) (ZL (Zr0 h4) (ZL (Z4z e4) (Ze6 ZaS))) (by rfl) (by rfl) w;rw[ZfP (by omega) (by omega) h4] at h;have p:(2:Nat)^192=6277101735386680763835789423207666416102355444464034512896:=rfl;have l:=ZfQ (X:=(a+18446744073709551616*b+340282366920938463463374607431768211456*c+6277101735386680763835789423207666416102355444464034512896*d).toNat) (b:=192) (U:=d.toNat) (by omega) (by rw[p];omega);rw[l];simp at h ⊢;exact h
def g1 (k:W4→Value):Ans:=fun vals s=>
 match vals with
 | [x]=>
  match w4 x with
  | some a=>some (k a,s,[(decide a.ok,true)])
  | none=>none
 | _=>none
theorem Z6Z {f:Nat}{k:W4→Value}(hk:∀ x:W4,x.ok→∀ w,Calls prog f #[vW x] w fun e w'=>e= .returned (k x)∧Zal w w'):ZR f (g1 k):=by
 intro vals s v s' lg h hl w;unfold g1 at h;split at h
 ·split at h
  ·rename_i a ha;cases h;have h1:=hl _ Xf;simp only[Xi] at h1;rw[Zer ha];exact hk a h1 w
  ·cases h
 ·cases h
def Ztv (z:Int):Int:=u64.wrap ((BitVec.ofInt 64 z &&& BitVec.ofInt 64 1).toNat:Nat)
theorem ZnJ {z:Int}(h0:0≤z) (h1:z<18446744073709551616):Ztv z=z % 2:=by
 obtain⟨Z,rfl⟩:=Int.eq_ofNat_of_zero_le h0;unfold Ztv;have e1:(BitVec.ofInt 64 (Z:Int)).toNat=Z:=by simp;omega
 have e2:(BitVec.ofInt 64 1).toNat=1:=rfl;rw[BitVec.toNat_and,e1,e2,Nat.and_one_is_mod,ZbX];omega
def lb (n k:Int):Log:=[(decide ((64:Int)=0),false),(decide (i64.wrap (n.tdiv 64)=k),true),(decide (n≥256),false),(decide (n<0),false)]
theorem Zxc (x:W4) (n:Int):Z7 (Zm (Zk prog Zf Zn true) 3000 86 [vW x,.int .i64 n] [cmp true]) (.int .u64 0) [(decide (n<0),true)]:=by and_intros<;>kernel_rfl
theorem Zr1 (x:W4) (n:Int):Z7 (Zm (Zk prog Zf Zn true) 3000 86 [vW x,.int .i64 n] [cmp false,cmp true]) (.int .u64 0) [(decide (n≥256),true),(decide (n<0),false)]:=by and_intros<;>kernel_rfl
theorem Z7a (x:W4) (n:Int):Z7 (Zm (Zk prog Zf Zn true) 3000 86 [vW x,.int .i64 n] [cmp false,cmp false,num 0]) (.int .u64 (Ztv (dn' x.a n))) (lu n::lb n 0):=by and_intros<;>kernel_rfl
theorem Z7b (x:W4) (n:Int):Z7 (Zm (Zk prog Zf Zn true) 3000 86 [vW x,.int .i64 n] [cmp false,cmp false,num 1]) (.int .u64 (Ztv (dn' x.b n))) (lu n::lb n 1):=by and_intros<;>kernel_rfl
theorem Z7c (x:W4) (n:Int):Z7 (Zm (Zk prog Zf Zn true) 3000 86 [vW x,.int .i64 n] [cmp false,cmp false,num 2]) (.int .u64 (Ztv (dn' x.c n))) (lu n::lb n 2):=by and_intros<;>kernel_rfl
theorem Z7d (x:W4) (n:Int):Z7 (Zm (Zk prog Zf Zn true) 3000 86 [vW x,.int .i64 n] [cmp false,cmp false,num 3]) (.int .u64 (Ztv (dn' x.d n))) (lu n::lb n 3):=by and_intros<;>kernel_rfl
def ZnK (x:W4) (n:Int):Int:=if n<0 then 0 else if 256≤n then 0 else x.val/2^n.toNat % 2
def Zxd (x:W4) (n:Int):Value:= .int .u64 (ZnK x n)
theorem Zr2 {n k:Int}(h1:¬ n<0) (h2:¬ 256≤n) (h3:n/64=k):Z3 (lb n k):=by
 refine ZL (by rfl) (ZL (Xa ?_) (ZL (Xb h2) (Ze6 (Xb h1))));rw[Int.tdiv_eq_ediv_of_nonneg (by omega),ZbL (by omega) (by omega)];exact h3
theorem ZhD {x:W4}{n:Int}{a b:Int}(hn:0≤n) (ha:0≤a∧a<18446744073709551616) (hb:0≤b∧b<18446744073709551616) (h:(W4.of (x.val/2^n.toNat)).a=orr (dn' a n) (up' b n)):
  Ztv (dn' a n)=x.val/2^n.toNat % 2:=by
 obtain⟨l,o,d,s,m,l0,l1,e⟩:=zY hn ha hb;have ev:=ZqQ hn hb;rw[ZnJ d.1 d.2];rw[o] at h;unfold W4.of at h;dsimp only at h;omega
theorem Zr3 {x:W4}{n:Int}{a:Int}(hn:0≤n) (ha:0≤a∧a<18446744073709551616) (h:(W4.of (x.val/2^n.toNat)).a=dn' a n):Ztv (dn' a n)=x.val/2^n.toNat % 2:=by
 obtain⟨l,o,d,s,m,l0,l1,e⟩:=zY hn ha ha;rw[ZnJ d.1 d.2];unfold W4.of at h;dsimp only at h;omega
set_option maxRecDepth 100000 in
theorem ZnL (x:W4) (n:Int) (hx:x.ok) (_h0: -9223372036854775808≤n) (_h9:n≤9223372036854775807) (w:World):Calls prog 86 #[vW x,.int .i64 n] w fun e w'=>e= .returned (Zxd x n)∧Zal w w':=by
 unfold Zxd ZnK;by_cases h1:n<0
 ·rw[if_pos h1];exact Zc (Zj Zd) (Zxc x n) (Ze6 (Xa h1)) (by rfl) (by rfl) w
 ·rw[if_neg h1];by_cases h2:256≤n
  ·rw[if_pos h2];exact Zc (Zj Zd) (Zr1 x n) (ZL (Xa h2) (Ze6 (Xb h1))) (by rfl) (by rfl) w
  ·rw[if_neg h2];have hn:0≤n:=by omega
   have u:=ZwN hn;obtain⟨k1,k2,k3,k4⟩:=hx;have hj:n/64=0∨n/64=1∨n/64=2∨n/64=3:=by omega
   rcases hj with hj | hj | hj | hj
   ·obtain⟨e1,_⟩:=Znc (x:=x) ⟨k1,k2,k3,k4⟩ hn hj;rw[← ZhD hn k1 k2 (by rw[← e1];rfl)];exact Zc (Zj Zd) (Z7a x n) (ZL u (Zr2 h1 h2 hj)) (by rfl) (by rfl) w
   ·obtain⟨e1,_⟩:=Znd (x:=x) ⟨k1,k2,k3,k4⟩ hn hj;rw[← ZhD hn k2 k3 (by rw[← e1];rfl)];exact Zc (Zj Zd) (Z7b x n) (ZL u (Zr2 h1 h2 hj)) (by rfl) (by rfl) w
   ·obtain⟨e1,_⟩:=Zne (x:=x) ⟨k1,k2,k3,k4⟩ hn hj;rw[← ZhD hn k3 k4 (by rw[← e1];rfl)];exact Zc (Zj Zd) (Z7c x n) (ZL u (Zr2 h1 h2 hj)) (by rfl) (by rfl) w
   ·obtain⟨e1,_⟩:=Znf (x:=x) ⟨k1,k2,k3,k4⟩ hn hj;rw[← Zr3 hn k4 (by rw[← e1];rfl)];exact Zc (Zj Zd) (Z7d x n) (ZL u (Zr2 h1 h2 hj)) (by rfl) (by rfl) w
end Go.Proofs.YtjlponbdflkbjaaGreatDoor
