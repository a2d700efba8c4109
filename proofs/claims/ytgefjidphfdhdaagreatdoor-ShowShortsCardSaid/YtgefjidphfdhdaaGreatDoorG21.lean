/-
  ToP, RfL, RdF, RdG, ShB, ShC, ShD, ShE, ShQ, ShR
-/
import Derived.Test.YtgefjidphfdhdaaGreatDoorG20
namespace Go.Proofs.YtgefjidphfdhdaaGreatDoor
open Go.Proofs.Tryz
open Go.KRun Go.Nt
set_option maxRecDepth 100000
def Z7x:Zaf:=fun vals h s=>
 match vals,s with
 | [.slice (some ⟨b,o,none⟩) n c,.slice (some ⟨b',o',none⟩) n' c'],.inr (.inl V):: .inr (.inl U)::s'=>
  some (.tuple #[sl h.n 0 (d16 V.toNat).length (d16 V.toNat).length,sl (h.n+1) 0 (d16 U.toNat).length (d16 U.toNat).length],(h.push (wU (d16 V.toNat)) tU).push (wU (d16 U.toNat)) tU,s',[(decide (vO h (some ⟨b,o,none⟩) n/vO h (some ⟨b',o',none⟩) n'=V.toNat∧vO h (some ⟨b,o,none⟩) n % vO h (some ⟨b',o',none⟩) n'=U.toNat),true),(Zkp h (some ⟨b,o,none⟩) (some ⟨b',o',none⟩) n c n' c',true)])
 | _,_=>none
theorem ZpY:Z8 31 Z7x:=by
 intro vals h s v h' s' lg hg hl m B w E hv;unfold Z7x at hg;split at hg
 ·rename_i b o n c b' o' n' c' V U s2;cases hg;have l1:=Xc (hl _ Xe);have l2:=hl _ (Xd _ Xf);rw[← l1.1,← l1.2];exact Z5P _ h [] _ _ [] [(Zkp h (some ⟨b,o,none⟩) (some ⟨b',o',none⟩) n c n' c',true)] rfl (Z4 l2) m B w E hv
 ·cases hg
def hcT:Hc:=zd 31 Z7x ZB8
theorem Z5Q:HcOk hcT:=Zt func31 rfl ZpY Z0k
section
variable {h : Hp} {b b' V W : Nat}
theorem oPa (hb:h.blk? b=some (wU (d16 V),tU)) (hc:h.blk? b'=some (wU (d16 W),tU)) (hl:(d16 V).length<1000000) (hm:(d16 W).length<1000000) (h0:0<(d16 V).length) (h1:0<(d16 W).length):Zkp h (Z6 b) (Z6 b') (d16 V).length (d16 V).length (d16 W).length (d16 W).length=true:=by
 unfold Zkp Z6;rw[ZP hb (by omega),Zai hb,ZP hc (by omega),Zaq hc,show Zdf (d16 W)=true from ZbW (Zcv (by omega) W),Zl.2 hl,Zl.2 hm,Zl.2 h0,Zl.2 h1];rfl
end
end Go.Proofs.YtgefjidphfdhdaaGreatDoor
namespace Go.Proofs.YtgefjidphfdhdaaGreatDoor
open Go.Proofs.Tryz
open Go.KRun Go.Nt Go.Wd Go.Rn
set_option maxRecDepth 100000
set_option linter.unusedVariables false
def ZpZ (h:Hp) (p:Option Addr) (n c:Nat) (E:Int):Bool:=zC h p n c && Zdf (Zm h p n) && Nat.blt n 20000 && decide (-4000000≤E∧E≤4000000)
def ZAX:Zaf:=fun vals h s=>
 match vals with
 | [.agg cs,.int .i64 M]=>
  match cs.toList with
  | [.bool neg,.int .i64 E,.slice (some ⟨b,o,none⟩) n c]=>some (.tuple #[.int .u64 (sS neg (rnP M neg (vO h (some ⟨b,o,none⟩) n) E)),.int .i64 (rnF M neg (vO h (some ⟨b,o,none⟩) n) E)],h,s,[(ZpZ h (some ⟨b,o,none⟩) n c E,true)])
  | _=>none
 | _=>none
theorem Z0m:Z8 56 ZAX:=by
 intro vals h s v h' s' lg hg hl m B w E0 hv;unfold ZAX at hg;split at hg
 ·rename_i cs M;split at hg
  ·rename_i neg E b o n c hcs;have ecs:cs= #[.bool neg,.int .i64 E,sl b o n c]:=by
    have:=congrArg List.toArray hcs;simpa [sl] using this
   cases hg;have l3:=hl _ Xf;simp only[ZpZ,Xh,Xi] at l3;obtain⟨⟨⟨q1,q2⟩,q3⟩,q4⟩:=l3;have q2:=Zds q2;have q3:=Zl.1 q3;rcases ZF q1 with ⟨h0,_⟩ | ⟨b',o',x,hp,hx,r1,rs,e0⟩
   ·cases h0
   ·cases hp;rw[e0] at q2;obtain⟨h1,h2,h3,h4,h5,h6,h7⟩:=zm r1;have ev:vO h (some ⟨b,o,none⟩) n=vb 65536 (Zz x.1 o n):=by unfold vO;rw[e0]
    have r:=Zkn (ZhD r1 rs) q2 (by rw[h2];exact q3) (neg:=neg) q4 M;rw[h2,← ev] at r;have evals:List.map (rn fun _=>b) [vRN neg E (sl 0 o n c),.int .i64 M]=[.agg cs,.int .i64 M]:=by
     rw[ecs];simp [rn,rn2,rn1,vRN,sl]
    have fin:=Z9 (T:=Zk prog Zf ZeO hcQ) func56 ZiK (Za5 h7) (vals:=[vRN neg E (sl 0 o n c),.int .i64 M]) (fun v hv=>by
     simp only[List.mem_cons,List.not_mem_nil,or_false] at hv;rcases hv with h1 | h1<;>rw[h1]<;>rfl) (v:= .tuple #[.int .u64 (sS neg (rnP M neg (vO h (some ⟨b,o,none⟩) n) E)),.int .i64 (rnF M neg (vO h (some ⟨b,o,none⟩) n) E)]) (by rfl) r E0 (zD hx h5 h6 rfl)
    rw[evals] at fin;exact fin
  ·cases hg
 ·cases hg
def ZAY:Zaf:=fun vals h s=>
 match vals,s with
 | [.agg cs,.int .i64 M],.inr (.inl T)::s'=>
  match cs.toList with
  | [.bool neg,.int .i64 E,.slice (some ⟨b,o,none⟩) n c]=>some (.tuple #[.int .u64 (sS neg (Go.Rn.rnP M neg T.toNat E)),.int .i64 (Go.Rn.rnF M neg T.toNat E)],h,s',[(decide (vO h (some ⟨b,o,none⟩) n=T.toNat),true),(ZpZ h (some ⟨b,o,none⟩) n c E,true)])
  | _=>none
 | _,_=>none
theorem Z0n:Z8 56 ZAY:=by
 intro vals h s v h' s' lg hg hl;unfold ZAY at hg;split at hg
 ·rename_i cs M T s2;split at hg
  ·rename_i neg E b o n c hcs;cases hg;obtain⟨l1,l2⟩:=Zd2 hl;have l1:=Xc l1;refine Z0m _ h [] _ _ [] _ ?_ l2;simp only[ZAX,hcs,l1]
  ·cases hg
 ·cases hg
end Go.Proofs.YtgefjidphfdhdaaGreatDoor
namespace Go.Proofs.YtgefjidphfdhdaaGreatDoor
open Go.Proofs.Tryz
open Go.IntKind
open Go.KRun Go.Nt Go.Rd
set_option maxRecDepth 100000
def ZeT:Hc:=zd 67 Zsr (zd 111 ZAm hcT)
theorem Z0o:HcOk ZeT:=Zt func67 rfl Zj8 (Zt func111 rfl Zzh Z5Q)
theorem ZeH:TabOk (Zk prog Zf ZL ZeT):=Zh Zcp Z0o
def Z5R (F:Func):List Code:=[sP F 0,sP F 1]
def dnL (F:Func):Code:=cIn (cIn (sP F 2))
theorem Zqa:f57.body=some (ZZ (Z5R f57) (.seq (.block 0 (.loop (dnL f57))) (sK f57 3))):=by kernel_rfl
def tX (n:Bool) (b:Int) (D:List UInt8) (k P:Int):Value:= .agg #[.bool n,.int .i64 b,bR D,.int .i64 k,.int .i64 P]
def tC9 (n:Bool) (b:Int) (D:List UInt8) (k P:Int):List Value×TypeId:=([.bool n,.int .i64 b,bR D,.int .i64 k,.int .i64 P],94)
def nZ:List Value×TypeId:=([.bool false,.int .i64 0,Zo],56)
def dnM (n:Bool) (b:Int) (D:List UInt8) (k P:Int):Hp:=⟨2,[nZ,tC9 n b D k P]⟩
def dnF (n:Bool) (b:Int) (D:List UInt8) (k P:Int) (l:List UInt8):List Value:=[tX n b D k P,pO 0,pO 1,bR l]
def dnN (n:Bool) (b:Int) (D:List UInt8) (k P:Int) (Z:List Value×TypeId) (L:List Nat):Hp:=⟨2+L.length,(L.map w16).reverse++[Z,tC9 n b D k P]⟩
theorem Z5S (n:Bool) (b:Int) (D:List UInt8) (k P:Int):Zg (evL (Zk prog Zf ZL ZeT) 100 (Z5R f57) ([tX n b D k P]++List.replicate 107 undef,⟨0,[]⟩,[]) ⟨[],[],[]⟩) 4 104 none (dnF n b D k P D) (dnM n b D k P) []:=by and_intros<;>kernel_rfl
def upD (n:Bool) (b:Int) (D:List UInt8) (k P:Int) (A B:Nat):Int:=(if 0>(i64.wrap (i64.wrap (((bl (vO (dnN n b D k P nZ [A,B]) (Z6 3) (d16 B).length):Nat):Int)-((bl (vO (dnN n b D k P nZ [A,B]) (Z6 2) (d16 A).length):Nat):Int))+80)) then 0 else (i64.wrap (i64.wrap (((bl (vO (dnN n b D k P nZ [A,B]) (Z6 3) (d16 B).length):Nat):Int)-((bl (vO (dnN n b D k P nZ [A,B]) (Z6 2) (d16 A).length):Nat):Int))+80)))
theorem ZCC (n:Bool) (b:Int) (D:List UInt8) (k P:Int) (g:Nat→Value):Zg (evC (Zk prog Zf ZL ZeT) 100 false (dnL f57) (dnF n b D k P []++tl 104 g,dnM n b D k P,[cmp false]) ⟨[],[],[]⟩) 4 104 (some (some 0)) (dnF n b D k P []) (dnM n b D k P) [(false,false)]:=by and_intros<;>kernel_rfl
theorem ZCD (n:Bool) (b:Int) (D:List UInt8) (k P:Int) (c:UInt8) (l:List UInt8) (g:Nat→Value):Zg (evC (Zk prog Zf ZL ZeT) 100 false (dnL f57) (dnF n b D k P (c::l)++tl 104 g,dnM n b D k P,[cmp true,cmp false]) ⟨[],[],[]⟩) 4 104 (some (some 0)) (dnF n b D k P (c::l)) (dnM n b D k P) [(lq8 c==48,false),(decide ((0:Int)≤0∧0<(c::l).length),true),(decide ((((c::l).length:Nat):Int)>0),true)]:=by and_intros<;>kernel_rfl
theorem ZCE (n:Bool) (b:Int) (D:List UInt8) (k P:Int) (c:UInt8) (l:List UInt8) (g:Nat→Value):Zg (evC (Zk prog Zf ZL ZeT) 100 false (dnL f57) (dnF n b D k P (c::l)++tl 104 g,dnM n b D k P,[cmp true,cmp true,sam true]) ⟨[],[],[]⟩) 4 104 none (dnF n b D k P l) (dnM n b D k P) [(decide ((0:Int)≤1∧(1:Int)≤(((c::l).length:Nat):Int)),true),(lq8 c==48,true),(decide ((0:Int)≤0∧0<(c::l).length),true),(decide ((((c::l).length:Nat):Int)>0),true)]:=by and_intros<;>kernel_rfl
theorem ZCF (n:Bool) (b:Int) (D:List UInt8) (k P:Int) (l:List UInt8) (g:Nat→Value):Zg (evC (Zk prog Zf ZL ZeT) 200 false (sK f57 3) (dnF n b D k P l++tl 104 g,dnM n b D k P,[sam true]) ⟨[],[],[]⟩) 3 105 (some none) [tX n b D k P,pO 0,pO 1] ⟨2,[bOf n 0 Zo,tC9 n b D k P]⟩ [((⟨⟨l⟩⟩:ByteArray)==⟨⟨[]⟩⟩,true)]:=by and_intros<;>kernel_rfl
theorem ZCG (n:Bool) (b:Int) (D:List UInt8) (k P:Int) (l:List UInt8) (V:Nat) (g:Nat→Value):Zg (evC (Zk prog Zf ZL ZeT) 200 false (sK f57 3) (dnF n b D k P l++tl 104 g,dnM n b D k P,[sam false,cmp true,num V]) ⟨[],[],[]⟩) 3 105 (some none) [tX n b D k P,pO 0,pO 1] (dnN n b D k P (bOf n (i64.wrap (P-i64.wrap (4*k))) (sOf 2 V)) [V]) [(decide (nmB 16 l=V),true),(Ztt 16 l,true),(b==16,true),((⟨⟨l⟩⟩:ByteArray)==⟨⟨[]⟩⟩,false)]:=by and_intros<;>kernel_rfl
theorem ZCH (n:Bool) (b:Int) (D:List UInt8) (k P:Int) (l:List UInt8) (g:Nat→Value):Zg (evC (Zk prog Zf ZL ZeT) 200 false (sK f57 3) (dnF n b D k P l++tl 104 g,dnM n b D k P,[sam false,cmp false,cmp true]) ⟨[],[],[]⟩) 3 105 (some none) [tX n b D k P,pO 0,pO 1] (dnN n b D k P (bOf n 3000 (sOf 2 1)) [1]) [(true,true),(decide ((i64.wrap ((i64.wrap (P-k))+((l.length:Nat):Int)))>320),true),(b==16,false),((⟨⟨l⟩⟩:ByteArray)==⟨⟨[]⟩⟩,false)]:=by and_intros<;>kernel_rfl
theorem ZCI (n:Bool) (b:Int) (D:List UInt8) (k P:Int) (l:List UInt8) (g:Nat→Value):Zg (evC (Zk prog Zf ZL ZeT) 200 false (sK f57 3) (dnF n b D k P l++tl 104 g,dnM n b D k P,[sam false,cmp false,cmp false,cmp true]) ⟨[],[],[]⟩) 3 105 (some none) [tX n b D k P,pO 0,pO 1] (dnN n b D k P (bOf n (-3000) (sOf 2 1)) [1]) [(true,true),(decide ((i64.wrap ((i64.wrap (P-k))+((l.length:Nat):Int)))< -340),true),(decide ((i64.wrap ((i64.wrap (P-k))+((l.length:Nat):Int)))>320),false),(b==16,false),((⟨⟨l⟩⟩:ByteArray)==⟨⟨[]⟩⟩,false)]:=by and_intros<;>kernel_rfl
theorem ZCJ (n:Bool) (b:Int) (D:List UInt8) (k P:Int) (l:List UInt8) (A B V:Nat) (g:Nat→Value):Zg (evC (Zk prog Zf ZL ZeT) 200 false (sK f57 3) (dnF n b D k P l++tl 104 g,dnM n b D k P,[sam false,cmp false,cmp false,cmp false,num A,cmp true,cmp true,num B,num V]) ⟨[],[],[]⟩) 3 105 (some none) [tX n b D k P,pO 0,pO 1] (dnN n b D k P (bOf n 0 (sOf 4 V)) [A,B,V]) [(decide ((vO (dnN n b D k P nZ [A,B]) (Z6 2) (d16 A).length)*(vO (dnN n b D k P nZ [A,B]) (Z6 3) (d16 B).length)=V),true),(ZeM (dnN n b D k P nZ [A,B]) (Z6 2) (Z6 3) (d16 A).length (d16 A).length (d16 B).length (d16 B).length,true),(decide ((10:Int).toNat^(i64.wrap (P-k)).toNat=B),true),(Zg9 10 (i64.wrap (P-k)),true),(decide ((10:Int)=0∧2≤(i64.wrap (P-k))),false),(decide ((i64.wrap (P-k))≥0),true),(decide (nmB 10 l=A),true),(Ztt 10 l,true),(decide ((i64.wrap ((i64.wrap (P-k))+((l.length:Nat):Int)))< -340),false),(decide ((i64.wrap ((i64.wrap (P-k))+((l.length:Nat):Int)))>320),false),(b==16,false),((⟨⟨l⟩⟩:ByteArray)==⟨⟨[]⟩⟩,false)]:=by and_intros<;>kernel_rfl
theorem ZCK (n:Bool) (b:Int) (D:List UInt8) (k P:Int) (l:List UInt8) (A B X Q R Y:Nat) (g:Nat→Value):Zg (evC (Zk prog Zf ZL ZeT) 200 false (sK f57 3) (dnF n b D k P l++tl 104 g,dnM n b D k P,[sam false,cmp false,cmp false,cmp false,num A,cmp false,cmp true,num B,cmp true,num X,num Q,num R,cmp true,num Y,cmp false]) ⟨[],[],[]⟩) 3 105 (some none) [tX n b D k P,pO 0,pO 1] (dnN n b D k P (bOf n (i64.wrap (i64.wrap (0-(upD n b D k P A B))-1)) (sOf 7 Y)) [A,B,X,Q,R,Y]) [(decide (((d16 R).length:Int)>0),false),(decide ((vO (dnN n b D k P nZ [A,B,X,Q,R]) (Z6 5) (d16 Q).length)*2^(1:Int).toNat=Y),true),(Zea (dnN n b D k P nZ [A,B,X,Q,R]) (Z6 5) (d16 Q).length (d16 Q).length 1,true),(decide (0<(d16 Q).length),true),(decide ((vO (dnN n b D k P nZ [A,B,X]) (Z6 4) (d16 X).length)/(vO (dnN n b D k P nZ [A,B,X]) (Z6 3) (d16 B).length)=Q∧(vO (dnN n b D k P nZ [A,B,X]) (Z6 4) (d16 X).length) % (vO (dnN n b D k P nZ [A,B,X]) (Z6 3) (d16 B).length)=R),true),(Zkp (dnN n b D k P nZ [A,B,X]) (Z6 4) (Z6 3) (d16 X).length (d16 X).length (d16 B).length (d16 B).length,true),(decide ((vO (dnN n b D k P nZ [A,B]) (Z6 2) (d16 A).length)*2^(upD n b D k P A B).toNat=X),true),(Zea (dnN n b D k P nZ [A,B]) (Z6 2) (d16 A).length (d16 A).length (upD n b D k P A B),true),(decide (0<(d16 A).length),true),(zC (dnN n b D k P nZ [A,B]) (Z6 2) (d16 A).length (d16 A).length && Zdf (Zm (dnN n b D k P nZ [A,B]) (Z6 2) (d16 A).length) && Nat.blt (d16 A).length 1073741824,true),(zC (dnN n b D k P nZ [A,B]) (Z6 3) (d16 B).length (d16 B).length && Zdf (Zm (dnN n b D k P nZ [A,B]) (Z6 3) (d16 B).length) && Nat.blt (d16 B).length 1073741824,true),(decide ((10:Int).toNat^(i64.wrap (0-(i64.wrap (P-k)))).toNat=B),true),(Zg9 10 (i64.wrap (0-(i64.wrap (P-k)))),true),(decide ((10:Int)=0∧2≤(i64.wrap (0-(i64.wrap (P-k))))),false),(decide ((i64.wrap (P-k))≥0),false),(decide (nmB 10 l=A),true),(Ztt 10 l,true),(decide ((i64.wrap ((i64.wrap (P-k))+((l.length:Nat):Int)))< -340),false),(decide ((i64.wrap ((i64.wrap (P-k))+((l.length:Nat):Int)))>320),false),(b==16,false),((⟨⟨l⟩⟩:ByteArray)==⟨⟨[]⟩⟩,false)]:=by and_intros<;>kernel_rfl
theorem ZCL (n:Bool) (b:Int) (D:List UInt8) (k P:Int) (l:List UInt8) (A B X Q R Y V:Nat) (g:Nat→Value):Zg (evC (Zk prog Zf ZL ZeT) 200 false (sK f57 3) (dnF n b D k P l++tl 104 g,dnM n b D k P,[sam false,cmp false,cmp false,cmp false,num A,cmp false,cmp true,num B,cmp true,num X,num Q,num R,cmp true,num Y,cmp true,cmp true,num V]) ⟨[],[],[]⟩) 3 105 (some none) [tX n b D k P,pO 0,pO 1] (dnN n b D k P (bOf n (i64.wrap (i64.wrap (0-(upD n b D k P A B))-1)) (sOf 9 V)) [A,B,X,Q,R,Y,1,V]) [(decide ((vO (dnN n b D k P nZ [A,B,X,Q,R,Y,1]) (Z6 7) (d16 Y).length)+(vO (dnN n b D k P nZ [A,B,X,Q,R,Y,1]) (Z6 8) (d16 1).length)=V),true),(ZN (dnN n b D k P nZ [A,B,X,Q,R,Y,1]) (Z6 7) (Z6 8) (d16 Y).length (d16 Y).length (d16 1).length (d16 1).length,true),(decide (0<(d16 Y).length∨0<(d16 1).length),true),(true,true),(decide (((d16 R).length:Int)>0),true),(decide ((vO (dnN n b D k P nZ [A,B,X,Q,R]) (Z6 5) (d16 Q).length)*2^(1:Int).toNat=Y),true),(Zea (dnN n b D k P nZ [A,B,X,Q,R]) (Z6 5) (d16 Q).length (d16 Q).length 1,true),(decide (0<(d16 Q).length),true),(decide ((vO (dnN n b D k P nZ [A,B,X]) (Z6 4) (d16 X).length)/(vO (dnN n b D k P nZ [A,B,X]) (Z6 3) (d16 B).length)=Q∧(vO (dnN n b D k P nZ [A,B,X]) (Z6 4) (d16 X).length) % (vO (dnN n b D k P nZ [A,B,X]) (Z6 3) (d16 B).length)=R),true),(Zkp (dnN n b D k P nZ [A,B,X]) (Z6 4) (Z6 3) (d16 X).length (d16 X).length (d16 B).length (d16 B).length,true),(decide ((vO (dnN n b D k P nZ [A,B]) (Z6 2) (d16 A).length)*2^(upD n b D k P A B).toNat=X),true),(Zea (dnN n b D k P nZ [A,B]) (Z6 2) (d16 A).length (d16 A).length (upD n b D k P A B),true),(decide (0<(d16 A).length),true),(zC (dnN n b D k P nZ [A,B]) (Z6 2) (d16 A).length (d16 A).length && Zdf (Zm (dnN n b D k P nZ [A,B]) (Z6 2) (d16 A).length) && Nat.blt (d16 A).length 1073741824,true),(zC (dnN n b D k P nZ [A,B]) (Z6 3) (d16 B).length (d16 B).length && Zdf (Zm (dnN n b D k P nZ [A,B]) (Z6 3) (d16 B).length) && Nat.blt (d16 B).length 1073741824,true),(decide ((10:Int).toNat^(i64.wrap (0-(i64.wrap (P-k)))).toNat=B),true),(Zg9 10 (i64.wrap (0-(i64.wrap (P-k)))),true),(decide ((10:Int)=0∧2≤(i64.wrap (0-(i64.wrap (P-k))))),false),(decide ((i64.wrap (P-k))≥0),false),(decide (nmB 10 l=A),true),(Ztt 10 l,true),(decide ((i64.wrap ((i64.wrap (P-k))+((l.length:Nat):Int)))< -340),false),(decide ((i64.wrap ((i64.wrap (P-k))+((l.length:Nat):Int)))>320),false),(b==16,false),((⟨⟨l⟩⟩:ByteArray)==⟨⟨[]⟩⟩,false)]:=by and_intros<;>kernel_rfl
end Go.Proofs.YtgefjidphfdhdaaGreatDoor
namespace Go.Proofs.YtgefjidphfdhdaaGreatDoor
open Go.Proofs.Tryz
open Go.IntKind
open Go.KRun Go.Nt Go.Rd Go.Rn
set_option maxRecDepth 100000
def dnS (n:Bool) (b:Int) (D:List UInt8) (k P:Int) (l:List UInt8) (y:Lf):Prop:=trZ l=trZ D∧∃ g,y.1=dnF n b D k P l++tl 104 g∧y.2.1=dnM n b D k P
theorem ZtR {n:Bool}{b:Int}{D:List UInt8}{k P:Int}(r:Nat) (y:Lf) (h:∃ l,r=l.length∧dnS n b D k P l y):
  RunsW (Zk prog Zf ZL ZeT) (dnL f57) y fun e z=>match e with | none=>∃ r',r'<r∧∃ l,r'=l.length∧dnS n b D k P l z | some none=>False | some (some id')=>id'=0∧dnS n b D k P (trZ D) z:=by
 obtain⟨l,hr,hz,g,ht,hh⟩:=h;obtain⟨t,h',sc⟩:=y;simp only at ht hh;subst ht hh;cases l with
 | nil=>
  refine (Zb (s0:=sc) ZeH (ZCC n b D k P g) (Z4 rfl)).mono fun e z he=> ?_;obtain⟨rfl,⟨g',z1⟩,z2⟩:=he;have e0:trZ D=[]:=hz.symm;rw[e0];exact⟨rfl,e0.symm ▸ rfl,g',z1,z2⟩
 | cons c l=>
  have l0:decide ((((c::l).length:Nat):Int)>0)=true:=Xa (by rw[List.length_cons];omega);have l1:decide ((0:Int)≤0∧0<(c::l).length)=true:=Xa ⟨by omega,by rw[List.length_cons];omega⟩;by_cases hc:lq8 c=48
  ·refine (Zb (s0:=sc) ZeH (ZCE n b D k P c l g) (Za (Xa ⟨by omega,by rw[List.length_cons];omega⟩) (Za (ZQ hc) (Za l1 (Z4 l0))))).mono fun e z he=> ?_;obtain⟨rfl,⟨g',z1⟩,z2⟩:=he;rw[ZcQ,if_pos hc] at hz;exact⟨l.length,by rw[hr,List.length_cons];omega,l,rfl,hz,g',z1,z2⟩
  ·refine (Zb (s0:=sc) ZeH (ZCD n b D k P c l g) (Za (ZI hc) (Za l1 (Z4 l0)))).mono fun e z he=> ?_;obtain⟨rfl,⟨g',z1⟩,z2⟩:=he;have e0:trZ D=c::l:=by rw[← hz,ZcQ,if_neg hc]
   rw[e0];refine⟨rfl,?_,g',z1,z2⟩;rw[e0,ZcQ,if_neg hc]
def Z0p (b:Int) (D:List UInt8) (k P:Int):Bool:=decide ((b=10∨b=16)∧D.length≤10000∧(0≤k∧k≤10000)∧ -2000000≤P∧P≤2000000) && Zaw b D
def dnZ (n:Bool) (V:Nat) (E:Int) (e:Ex) (z:Lf):Prop:=(e=none∨e=some none)∧∃ j,ZY prog f57 z.1 z.2.1=some (vRN n E (sOf j V))∧∃ r,z.2.1.blk? j=some (wU (d16 V)++r,tU)
theorem Zcz {A j:Nat}(h:A<2^j):(d16 A).length≤j/16+1:=Zc8 (Nat.lt_of_lt_of_le h (Nat.pow_le_pow_right (by omega) (by omega)))
theorem ZaI {A:Nat}(h:0<A):0<(d16 A).length:=ZeG.2 h
theorem Z5T {h:Hp}{b V:Nat}(hb:h.blk? b=some (wU (d16 V),tU)) (hl:(d16 V).length<100000):(zC h (Z6 b) (d16 V).length (d16 V).length && Zdf (Zm h (Z6 b) (d16 V).length) && Nat.blt (d16 V).length 1073741824)=true:=by
 unfold Z6;rw[ZP hb (by omega),Zaq hb,show Zdf (d16 V)=true from ZbW (Zcv (by omega) _),Zl.2 (by omega)];rfl
theorem ZB9 {h:Hp}{b V:Nat}{i:Int}(hb:h.blk? b=some (wU (d16 V),tU)) (hl:(d16 V).length<100000) (h0:0≤i) (h1:i<100000):Zea h (Z6 b) (d16 V).length (d16 V).length i=true:=by
 unfold Zea Z6;rw[ZP hb (by omega),Zai hb,Zl.2 (by omega),Xa h0];rfl
theorem Z0q {n:Bool}{b:Int}{D:List UInt8}{k P:Int}{c:UInt8}{l:List UInt8}(hb:b=10∨b=16) (hD:(c::l).length≤10000) (hk:0≤k∧k≤10000) (hP: -2000000≤P∧P≤2000000) (hA:Zaw b (c::l)=true) (hc:0<zA (lq8 c) b) (g:Nat→Value) (s:List Dec):
  RunsW (Zk prog Zf ZL ZeT) (sK f57 3) (dnF n b D k P (c::l)++tl 104 g,dnM n b D k P,s) (dnZ n (dnA b (c::l) k P).1 (dnA b (c::l) k P).2):=by
 have hE:((⟨⟨c::l⟩⟩:ByteArray)==⟨⟨[]⟩⟩)=false:=by rw[Zft];exact Xb (by simp)
 have hby:byR (c::l) 0=lq8 c:=rfl;have hok:Ztt b (c::l)=true:=by
  unfold Ztt;rw[hA,hby,Xa hc,Xa ⟨hb,by omega⟩];rfl
 have hnp:=Ziz hb (r:=l) hc;have hnb:=Zow hb (c::l);unfold dnA;by_cases h16:b=16
 ·rw[if_pos h16];subst h16;have hg:=ZCG n 16 D k P (c::l) (nmB 16 (c::l)) g;rw[Zw (n:=4*k) (by omega) (by omega),Zw (by omega) (by omega)] at hg;refine (Zb (s0:=s) ZeH hg (Za (Xa rfl) (Za hok (Za (by decide) (Z4 hE))))).mono fun e z he=> ?_;obtain⟨rfl,⟨g',z1⟩,z2⟩:=he;exact⟨.inr rfl,2,by rw[z1,z2];rfl,[],by rw[z2,List.append_nil];rfl⟩
 rw[if_neg h16];have h10:b=10:=by omega
 subst h10;have k16:((10:Int)==16)=false:=by decide
 obtain⟨L,hL⟩:∃ L,L=(c::l).length:=⟨_,rfl⟩;have ePl:i64.wrap (P-k)=P-k:=Zw (by omega) (by omega);have eSm:i64.wrap (P-k+((L:Nat):Int))=P-k+((L:Nat):Int):=Zw (by omega) (by omega);by_cases ho:320<P-k+(((c::l).length:Nat):Int)
 ·rw[if_pos ho];have hg:=ZCH n 10 D k P (c::l) g;rw[ePl,← hL,eSm] at hg;rw[← hL] at ho;refine (Zb (s0:=s) ZeH hg (Za rfl (Za (Xa (by omega)) (Za k16 (Z4 hE))))).mono fun e z he=> ?_;obtain⟨rfl,⟨g',z1⟩,z2⟩:=he;exact⟨.inr rfl,2,by rw[z1,z2];rfl,[],by rw[z2,List.append_nil];rfl⟩
 rw[if_neg ho];by_cases hu:P-k+(((c::l).length:Nat):Int)< -340
 ·rw[if_pos hu];have hg:=ZCI n 10 D k P (c::l) g;rw[ePl,← hL,eSm] at hg;rw[← hL] at ho hu;refine (Zb (s0:=s) ZeH hg (Za rfl (Za (Xa (by omega)) (Za (Xb (by omega)) (Za k16 (Z4 hE)))))).mono fun e z he=> ?_;obtain⟨rfl,⟨g',z1⟩,z2⟩:=he;exact⟨.inr rfl,2,by rw[z1,z2];rfl,[],by rw[z2,List.append_nil];rfl⟩
 rw[if_neg hu];rw[← hL] at ho hu hnb hD;obtain⟨A,hAA⟩:∃ A,A=nmB 10 (c::l):=⟨_,rfl⟩;rw[← hAA] at hnp hnb ⊢;have lA:=Zcz hnb;have b2:Zx [(decide (nmB 10 (c::l)=A),true),(Ztt 10 (c::l),true),(decide (P-k+((L:Nat):Int)< -340),false),(decide (P-k+((L:Nat):Int)>320),false),((10:Int)==16,false),((⟨⟨c::l⟩⟩:ByteArray)==⟨⟨[]⟩⟩,false)]:=Za (Xa hAA.symm) (Za hok (Za (Xb hu) (Za (Xb (by omega)) (Za k16 (Z4 hE)))));by_cases hp:0≤P-k
 ·rw[if_pos hp];obtain⟨B,hB⟩:∃ B,B=10^(P-k).toNat:=⟨_,rfl⟩;rw[← hB];have tb:=ZdT (P-k).toNat;rw[← hB] at tb;have lB:=Zcz tb;have hg:=ZCJ n 10 D k P (c::l) A B (A*B) g;rw[ePl,← hL,eSm] at hg;refine (Zb (s0:=s) ZeH hg (Za (Xa (by rw[ZdL (V:=A) rfl,ZdL (V:=B) rfl])) (Za (oMu (V:=A) (W:=B) rfl rfl (by omega) (by omega)) (Za (Xa hB.symm) (Za (Xa ⟨by omega,by omega,by omega,by omega⟩) (Za (Xb (by omega)) (Za (Xa hp) b2))))))).mono fun e z he=> ?_;obtain⟨rfl,⟨g',z1⟩,z2⟩:=he;exact⟨.inr rfl,4,by rw[z1,z2];rfl,[],by rw[z2,List.append_nil];rfl⟩
 rw[if_neg hp];obtain⟨B,hB⟩:∃ B,B=10^(k-P).toNat:=⟨_,rfl⟩;rw[← hB];have tb:=ZdT (k-P).toNat;have B0:0<B:=by rw[hB];exact Nat.pow_pos (by omega)
 rw[← hB] at tb;have lB:=Zcz tb;have eNp:i64.wrap (0-(P-k))=k-P:=by rw[Zw (by omega) (by omega)];omega
 have vA:vO (dnN n 10 D k P nZ [A,B]) (Z6 2) (d16 A).length=A:=ZdL (V:=A) rfl;have vB:vO (dnN n 10 D k P nZ [A,B]) (Z6 3) (d16 B).length=B:=ZdL (V:=B) rfl;have bA:=len_le hnb;have bB:=len_le tb;have eU:upD n 10 D k P A B=((upN A B:Nat):Int):=by
  unfold upD;rw[vA,vB,Zbq,Zbq,Zw (n:=((bitLen B:Nat):Int)-((bitLen A:Nat):Int)) (by omega) (by omega),Zw (by omega) (by omega)];unfold upN;split<;>omega
 have hu1:upN A B≤41600:=by unfold upN;omega
 have hbig:=ZjN (A:=A) (B:=B) (by omega);obtain⟨X,hX⟩:∃ X,X=A*2^upN A B:=⟨_,rfl⟩;have hXb:X<2^(4*L+upN A B):=by rw[hX,Nat.pow_add];exact Nat.mul_lt_mul_of_pos_right hnb (Nat.pow_pos (by omega))
 have lX:=Zcz hXb;have X0:0<X:=by rw[hX];exact Nat.mul_pos hnp (Nat.pow_pos (by omega))
 rw[← hX] at hbig;have hQX:X/B≤X:=Nat.div_le_self _ _;have hQ0:0<X/B:=Nat.div_pos (Nat.le_trans (Nat.le_mul_of_pos_left B (by decide)) hbig) B0;have hRX:X % B≤X:=Nat.mod_le _ _;have lQ:=Zcz (Nat.lt_of_le_of_lt hQX hXb);have lR:=Zcz (Nat.lt_of_le_of_lt hRX hXb);have hYb:X/B*2+1<2^(4*L+upN A B+2):=by rw[Nat.pow_add];omega
 have lY:=Zcz (Nat.lt_of_le_of_lt (show X/B*2≤X/B*2+1 by omega) hYb);have lV:=Zcz hYb;obtain⟨Q,hQ⟩:∃ Q,Q=X/B:=⟨_,rfl⟩;obtain⟨R,hR⟩:∃ R,R=X % B:=⟨_,rfl⟩;rw[← hQ] at hQ0 lQ lY lV;rw[← hR] at lR;have eV:dvK A B (upN A B)=2*Q+(if R=0 then 0 else 1):=by unfold dvK;rw[← hX,← hQ,← hR]
 have eE:i64.wrap (i64.wrap (0-((upN A B:Nat):Int))-1)= -((upN A B:Nat):Int)-1:=by
  rw[Zw (n:=0-((upN A B:Nat):Int)) (by omega) (by omega),Zw (by omega) (by omega)];omega
 have ln2:=Z5T (h:=dnN n 10 D k P nZ [A,B]) (b:=2) (V:=A) rfl (by omega);have ln3:=Z5T (h:=dnN n 10 D k P nZ [A,B]) (b:=3) (V:=B) rfl (by omega);have mid:=Za (Xa (show vO (dnN n 10 D k P nZ [A,B,X,Q,R]) (Z6 5) (d16 Q).length*2^(1:Int).toNat=Q*2 by rw[ZdL (V:=Q) rfl];rfl)) (Za (ZB9 (h:=dnN n 10 D k P nZ [A,B,X,Q,R]) (b:=5) (V:=Q) (i:=1) rfl (by omega) (by omega) (by omega)) (Za (Xa (ZaI hQ0)) (Za (Xa (show vO (dnN n 10 D k P nZ [A,B,X]) (Z6 4) (d16 X).length/vO (dnN n 10 D k P nZ [A,B,X]) (Z6 3) (d16 B).length=Q∧vO (dnN n 10 D k P nZ [A,B,X]) (Z6 4) (d16 X).length % vO (dnN n 10 D k P nZ [A,B,X]) (Z6 3) (d16 B).length=R by rw[ZdL (V:=X) rfl,ZdL (V:=B) rfl];exact⟨hQ.symm,hR.symm⟩)) (Za (oPa (h:=dnN n 10 D k P nZ [A,B,X]) (b:=4) (b':=3) (V:=X) (W:=B) rfl rfl (by omega) (by omega) (ZaI X0) (ZaI B0)) (Za (Xa (show vO (dnN n 10 D k P nZ [A,B]) (Z6 2) (d16 A).length*2^(((upN A B:Nat):Int)).toNat=X by rw[vA,Xg,hX])) (Za (ZB9 (h:=dnN n 10 D k P nZ [A,B]) (b:=2) (V:=A) (i:=((upN A B:Nat):Int)) rfl (by omega) (by omega) (by omega)) (Za (Xa (ZaI hnp)) (Za ln2 (Za ln3 (Za (Xa (show (10:Int).toNat^(k-P).toNat=B from hB.symm)) (Za (show Zg9 10 (k-P)=true from Xa ⟨by omega,by omega,by omega,by omega⟩) (Za (Xb (show ¬ ((10:Int)=0∧2≤k-P) by omega)) (Za (Xb (show ¬ P-k≥0 by omega)) b2)))))))))))));by_cases hR0:R=0
 ·have hg:=ZCK n 10 D k P (c::l) A B X Q R (Q*2) g;rw[eU,eE,ePl,eNp,← hL,eSm] at hg;rw[eV,if_pos hR0,show 2*Q+0=Q*2 by omega];refine (Zb (s0:=s) ZeH hg (Za (Xb (by rw[hR0,ZkY];simp)) mid)).mono fun e z he=> ?_;obtain⟨rfl,⟨g',z1⟩,z2⟩:=he;exact⟨.inr rfl,7,by rw[z1,z2];rfl,[],by rw[z2,List.append_nil];rfl⟩
 ·have hg:=ZCL n 10 D k P (c::l) A B X Q R (Q*2) (Q*2+1) g;rw[eU,eE,ePl,eNp,← hL,eSm] at hg;rw[eV,if_neg hR0,show 2*Q+1=Q*2+1 by omega];have l1:=Zcz (A:=1) (j:=1) (by decide);refine (Zb (s0:=s) ZeH hg (Za (Xa (by rw[ZdL (V:=Q*2) rfl,ZdL (V:=1) rfl])) (Za (ZCA (V:=Q*2) (W:=1) rfl rfl (by omega) (by omega)) (Za (Xa (.inl (ZaI (by omega)))) (Za rfl (Za (Xa (by have:=ZaI (A:=R) (by omega);omega)) mid)))))).mono fun e z he=> ?_;obtain⟨rfl,⟨g',z1⟩,z2⟩:=he;exact⟨.inr rfl,9,by rw[z1,z2];rfl,[],by rw[z2,List.append_nil];rfl⟩
end Go.Proofs.YtgefjidphfdhdaaGreatDoor
namespace Go.Proofs.YtgefjidphfdhdaaGreatDoor
open Go.Proofs.Tryz
open Go.IntKind
open Go.KRun Go.Nt Go.Wd Go.Rn Go.Rd
set_option maxRecDepth 100000
set_option linter.unusedVariables false
def RowV (h:Hp) (p:Option Addr) (n c V:Nat):Prop:=zC h p n c=true∧Zm h p n=d16 V∧n<100000
section
variable {h : Hp} {p q : Option Addr} {n c n' c' V W : Nat}
theorem RowV.vo (r:RowV h p n c V):vO h p n=V:=by
 unfold vO;rw[r.2.1];exact ZbV (by omega) V
theorem RowV.dg (r:RowV h p n c V):dgB (Zm h p n)=true:=by
 rw[r.2.1];exact Zb8 (Zcv (by omega) V).1
theorem RowV.can (r:RowV h p n c V):Zdf (Zm h p n)=true:=by
 rw[r.2.1];exact ZbW (Zcv (by omega) V)
theorem RowV.pos (r:RowV h p n c V) (hV:0<V):0<n:=by
 have:=zE r.1;rw[r.2.1] at this;have:=ZeG.2 hV;omega
theorem RowV.at {b:Nat}(hb:h.blk? b=some (w16 V)) (hl:(d16 V).length<100000):RowV h (Z6 b) (d16 V).length (d16 V).length V:=⟨ZP hb (by omega),Zaq hb,hl⟩
theorem RowV.sh (r:RowV h p n c V) {k:Int}(h0:0≤k) (h1:k<100000):Zea h p n c k=true:=by
 unfold Zea;have:=r.2.2;rw[r.1,r.dg,Zl.2 (by omega),Xa h0];rfl
theorem RowV.mu (r:RowV h p n c V) (r':RowV h q n' c' W):ZeM h p q n c n' c'=true:=by
 unfold ZeM;have:=r.2.2;have:=r'.2.2;rw[r.1,r.dg,r'.1,r'.dg,Zl.2 (by omega)];rfl
theorem RowV.two (r:RowV h p n c V) (r':RowV h q n' c' W):ZN h p q n c n' c'=true:=by
 unfold ZN;have:=r.2.2;have:=r'.2.2;rw[r.1,r.dg,r'.1,r'.dg,Zl.2 (by omega)];rfl
end
theorem Zce {a b:Nat}:decide (Zag a b≥0)=decide (b≤a):=by
 unfold Zag;by_cases h:a<b
 ·rw[if_pos h,Xb (by omega),Xb (by omega)]
 ·rw[if_neg h,Xa (p:=b≤a) (by omega)];split<;>rfl
def Zeb:Hc:=zd 67 Zsr (zd 31 Z7x (zd 33 Zko (zd 36 Zki (zd 35 Zkj (zd 66 Zjy (zd 34 Zzp (zd 65 ZmU hcN)))))))
theorem Zqb:HcOk Zeb:=Zt func67 rfl Zj8 (Zt func31 rfl ZpY (Zt func33 rfl ZhG (Zt func36 rfl ZhA (Zt func35 rfl ZhB (Zt func66 rfl Zhi (Zt func34 rfl ZeF (Zt func65 rfl ZfN zx)))))))
theorem Zg0:TabOk (Zk prog Zf Zn Zeb):=Zh Zd Zqb
def Z5U (F:Func):List Code:=[sP F 0,sP F 1,sP F 2]
def ZiM (F:Func):Code:=cIn (cIn (sK F 3))
theorem ZtS:f29.body=some (Zs f29):=by kernel_rfl
theorem Zqc:Zs f29=ZZ (Z5U f29) (.block 0 (.loop (ZiM f29))):=by kernel_rfl
def ZeI (neg:Bool) (E top N:Int) (o n c:Nat):List Value:=[vRN neg E (sl 0 o n c),.pointer (some ⟨1,0,none⟩),.int .i64 0,.int .i64 top,.int .i64 N]
def ZD (neg:Bool) (E:Int) (o n c:Nat) (l:List Value) (L:List Nat):Hp:=⟨3+L.length,(L.map w16).reverse++[bX neg E o n c,bX neg E o n c,(l,tR)]⟩
def Z1k (neg:Bool) (E:Int) (o n c:Nat) (l:List Value):Int:=i64.wrap (E+((bl (vO (hX neg E o n c l) (aX o) n):Nat):Int))
theorem Z0r (neg:Bool) (E:Int) (o n c:Nat) (l:List Value):Zg (evL (Zk prog Zf Zn Zeb) 200 (Z5U f29) ([vRN neg E (sl 0 o n c)]++List.replicate 33 undef,⟨1,[(l,tR)]⟩,[]) ⟨[],[],[]⟩) 5 29 none (ZeI neg E (Z1k neg E o n c l) (i64.wrap (i64.wrap ((i64.wrap (Z1k neg E o n c l*30103)).tdiv 100000)+2)) o n c) (hX neg E o n c l) [(zC (hX neg E o n c l) (aX o) n c && Zdf (Zm (hX neg E o n c l) (aX o) n) && Nat.blt n 1073741824,true)]:=by and_intros<;>kernel_rfl
theorem Z0s (neg:Bool) (E top N K:Int) (o n c:Nat) (l:List Value) (A B V:Nat) (g:Nat→Value):Zg (evC (Zk prog Zf Zn Zeb) 200 false (ZiM f29) (ZeI neg E top N o n c++tl 29 g,hX neg E o n c l,[cmp true,cmp true,num A,cmp true,cmp true,num B,num V,num K,cmp true]) ⟨[],[],[]⟩) 6 28 (some none) ([vRN neg E (sl 0 o n c),.pointer (some ⟨1,0,none⟩),.int .i64 N,.int .i64 top,.int .i64 N]++[.slice (Z6 6) (d16 V).length (d16 V).length]) (ZD neg E o n c l [1,A,B,V]) [(decide (K≥0),true),(decide (Zag (vO (ZD neg E o n c l [1,A,B,V]) (Z6 6) (d16 V).length) (vO (ZD neg E o n c l [1,A,B,V]) (Z6 3) (d16 1).length)=K),true),(ZN (ZD neg E o n c l [1,A,B,V]) (Z6 6) (Z6 3) (d16 V).length (d16 V).length (d16 1).length (d16 1).length,true),(decide (vO (ZD neg E o n c l [1,A,B]) (Z6 4) (d16 A).length*vO (ZD neg E o n c l [1,A,B]) (Z6 5) (d16 B).length=V),true),(ZeM (ZD neg E o n c l [1,A,B]) (Z6 4) (Z6 5) (d16 A).length (d16 A).length (d16 B).length (d16 B).length,true),(decide ((10:Int).toNat^(i64.wrap (0-N)).toNat=B),true),(Zg9 10 (i64.wrap (0-N)),true),(decide ((10:Int)=0∧2≤(i64.wrap (0-N))),false),(decide (i64.wrap (0-N)≥0),true),(decide (vO (ZD neg E o n c l [1]) (aX o) n*2^E.toNat=A),true),(Zea (ZD neg E o n c l [1]) (aX o) n c E,true),(decide (0<n),true),(decide (E≥0),true),(true,true)]:=by and_intros<;>kernel_rfl
theorem Z0t (neg:Bool) (E top N K:Int) (o n c:Nat) (l:List Value) (A B V:Nat) (g:Nat→Value):Zg (evC (Zk prog Zf Zn Zeb) 200 false (ZiM f29) (ZeI neg E top N o n c++tl 29 g,hX neg E o n c l,[cmp true,cmp true,num A,cmp true,cmp true,num B,num V,num K,cmp false,cmp false]) ⟨[],[],[]⟩) 6 28 none (ZeI neg E top (i64.wrap (N-1)) o n c++[.slice (Z6 6) (d16 V).length (d16 V).length]) (ZD neg E o n c l [1,A,B,V]) [(decide (i64.wrap (N-1)< -400),false),(decide (K≥0),false),(decide (Zag (vO (ZD neg E o n c l [1,A,B,V]) (Z6 6) (d16 V).length) (vO (ZD neg E o n c l [1,A,B,V]) (Z6 3) (d16 1).length)=K),true),(ZN (ZD neg E o n c l [1,A,B,V]) (Z6 6) (Z6 3) (d16 V).length (d16 V).length (d16 1).length (d16 1).length,true),(decide (vO (ZD neg E o n c l [1,A,B]) (Z6 4) (d16 A).length*vO (ZD neg E o n c l [1,A,B]) (Z6 5) (d16 B).length=V),true),(ZeM (ZD neg E o n c l [1,A,B]) (Z6 4) (Z6 5) (d16 A).length (d16 A).length (d16 B).length (d16 B).length,true),(decide ((10:Int).toNat^(i64.wrap (0-N)).toNat=B),true),(Zg9 10 (i64.wrap (0-N)),true),(decide ((10:Int)=0∧2≤(i64.wrap (0-N))),false),(decide (i64.wrap (0-N)≥0),true),(decide (vO (ZD neg E o n c l [1]) (aX o) n*2^E.toNat=A),true),(Zea (ZD neg E o n c l [1]) (aX o) n c E,true),(decide (0<n),true),(decide (E≥0),true),(true,true)]:=by and_intros<;>kernel_rfl
theorem Z0u (neg:Bool) (E top N K:Int) (o n c:Nat) (l:List Value) (A B V:Nat) (g:Nat→Value):Zg (evC (Zk prog Zf Zn Zeb) 200 false (ZiM f29) (ZeI neg E top N o n c++tl 29 g,hX neg E o n c l,[cmp true,cmp true,num A,cmp false,cmp true,num B,num V,num K,cmp true]) ⟨[],[],[]⟩) 6 28 (some none) ([vRN neg E (sl 0 o n c),.pointer (some ⟨1,0,none⟩),.int .i64 N,.int .i64 top,.int .i64 N]++[.slice (Z6 4) (d16 A).length (d16 A).length]) (ZD neg E o n c l [1,A,B,V]) [(decide (K≥0),true),(decide (Zag (vO (ZD neg E o n c l [1,A,B,V]) (Z6 4) (d16 A).length) (vO (ZD neg E o n c l [1,A,B,V]) (Z6 6) (d16 V).length)=K),true),(ZN (ZD neg E o n c l [1,A,B,V]) (Z6 4) (Z6 6) (d16 A).length (d16 A).length (d16 V).length (d16 V).length,true),(decide (vO (ZD neg E o n c l [1,A,B]) (Z6 3) (d16 1).length*vO (ZD neg E o n c l [1,A,B]) (Z6 5) (d16 B).length=V),true),(ZeM (ZD neg E o n c l [1,A,B]) (Z6 3) (Z6 5) (d16 1).length (d16 1).length (d16 B).length (d16 B).length,true),(decide ((10:Int).toNat^(i64.wrap (0-i64.wrap (0-N))).toNat=B),true),(Zg9 10 (i64.wrap (0-i64.wrap (0-N))),true),(decide ((10:Int)=0∧2≤(i64.wrap (0-i64.wrap (0-N)))),false),(decide (i64.wrap (0-N)≥0),false),(decide (vO (ZD neg E o n c l [1]) (aX o) n*2^E.toNat=A),true),(Zea (ZD neg E o n c l [1]) (aX o) n c E,true),(decide (0<n),true),(decide (E≥0),true),(true,true)]:=by and_intros<;>kernel_rfl
theorem Z0v (neg:Bool) (E top N K:Int) (o n c:Nat) (l:List Value) (A B V:Nat) (g:Nat→Value):Zg (evC (Zk prog Zf Zn Zeb) 200 false (ZiM f29) (ZeI neg E top N o n c++tl 29 g,hX neg E o n c l,[cmp true,cmp true,num A,cmp false,cmp true,num B,num V,num K,cmp false,cmp false]) ⟨[],[],[]⟩) 6 28 none (ZeI neg E top (i64.wrap (N-1)) o n c++[.slice (Z6 4) (d16 A).length (d16 A).length]) (ZD neg E o n c l [1,A,B,V]) [(decide (i64.wrap (N-1)< -400),false),(decide (K≥0),false),(decide (Zag (vO (ZD neg E o n c l [1,A,B,V]) (Z6 4) (d16 A).length) (vO (ZD neg E o n c l [1,A,B,V]) (Z6 6) (d16 V).length)=K),true),(ZN (ZD neg E o n c l [1,A,B,V]) (Z6 4) (Z6 6) (d16 A).length (d16 A).length (d16 V).length (d16 V).length,true),(decide (vO (ZD neg E o n c l [1,A,B]) (Z6 3) (d16 1).length*vO (ZD neg E o n c l [1,A,B]) (Z6 5) (d16 B).length=V),true),(ZeM (ZD neg E o n c l [1,A,B]) (Z6 3) (Z6 5) (d16 1).length (d16 1).length (d16 B).length (d16 B).length,true),(decide ((10:Int).toNat^(i64.wrap (0-i64.wrap (0-N))).toNat=B),true),(Zg9 10 (i64.wrap (0-i64.wrap (0-N))),true),(decide ((10:Int)=0∧2≤(i64.wrap (0-i64.wrap (0-N)))),false),(decide (i64.wrap (0-N)≥0),false),(decide (vO (ZD neg E o n c l [1]) (aX o) n*2^E.toNat=A),true),(Zea (ZD neg E o n c l [1]) (aX o) n c E,true),(decide (0<n),true),(decide (E≥0),true),(true,true)]:=by and_intros<;>kernel_rfl
theorem Z0w (neg:Bool) (E top N K:Int) (o n c:Nat) (l:List Value) (A B V:Nat) (g:Nat→Value):Zg (evC (Zk prog Zf Zn Zeb) 200 false (ZiM f29) (ZeI neg E top N o n c++tl 29 g,hX neg E o n c l,[cmp false,cmp true,num A,cmp true,cmp true,num B,num V,num K,cmp true]) ⟨[],[],[]⟩) 6 28 (some none) ([vRN neg E (sl 0 o n c),.pointer (some ⟨1,0,none⟩),.int .i64 N,.int .i64 top,.int .i64 N]++[.slice (Z6 6) (d16 V).length (d16 V).length]) (ZD neg E o n c l [1,A,B,V]) [(decide (K≥0),true),(decide (Zag (vO (ZD neg E o n c l [1,A,B,V]) (Z6 6) (d16 V).length) (vO (ZD neg E o n c l [1,A,B,V]) (Z6 4) (d16 A).length)=K),true),(ZN (ZD neg E o n c l [1,A,B,V]) (Z6 6) (Z6 4) (d16 V).length (d16 V).length (d16 A).length (d16 A).length,true),(decide (vO (ZD neg E o n c l [1,A,B]) (aX o) n*vO (ZD neg E o n c l [1,A,B]) (Z6 5) (d16 B).length=V),true),(ZeM (ZD neg E o n c l [1,A,B]) (aX o) (Z6 5) n c (d16 B).length (d16 B).length,true),(decide ((10:Int).toNat^(i64.wrap (0-N)).toNat=B),true),(Zg9 10 (i64.wrap (0-N)),true),(decide ((10:Int)=0∧2≤(i64.wrap (0-N))),false),(decide (i64.wrap (0-N)≥0),true),(decide (vO (ZD neg E o n c l [1]) (Z6 3) (d16 1).length*2^(i64.wrap (0-E)).toNat=A),true),(Zea (ZD neg E o n c l [1]) (Z6 3) (d16 1).length (d16 1).length (i64.wrap (0-E)),true),(decide (0<(d16 1).length),true),(decide (E≥0),false),(true,true)]:=by and_intros<;>kernel_rfl
theorem Z0x (neg:Bool) (E top N K:Int) (o n c:Nat) (l:List Value) (A B V:Nat) (g:Nat→Value):Zg (evC (Zk prog Zf Zn Zeb) 200 false (ZiM f29) (ZeI neg E top N o n c++tl 29 g,hX neg E o n c l,[cmp false,cmp true,num A,cmp true,cmp true,num B,num V,num K,cmp false,cmp false]) ⟨[],[],[]⟩) 6 28 none (ZeI neg E top (i64.wrap (N-1)) o n c++[.slice (Z6 6) (d16 V).length (d16 V).length]) (ZD neg E o n c l [1,A,B,V]) [(decide (i64.wrap (N-1)< -400),false),(decide (K≥0),false),(decide (Zag (vO (ZD neg E o n c l [1,A,B,V]) (Z6 6) (d16 V).length) (vO (ZD neg E o n c l [1,A,B,V]) (Z6 4) (d16 A).length)=K),true),(ZN (ZD neg E o n c l [1,A,B,V]) (Z6 6) (Z6 4) (d16 V).length (d16 V).length (d16 A).length (d16 A).length,true),(decide (vO (ZD neg E o n c l [1,A,B]) (aX o) n*vO (ZD neg E o n c l [1,A,B]) (Z6 5) (d16 B).length=V),true),(ZeM (ZD neg E o n c l [1,A,B]) (aX o) (Z6 5) n c (d16 B).length (d16 B).length,true),(decide ((10:Int).toNat^(i64.wrap (0-N)).toNat=B),true),(Zg9 10 (i64.wrap (0-N)),true),(decide ((10:Int)=0∧2≤(i64.wrap (0-N))),false),(decide (i64.wrap (0-N)≥0),true),(decide (vO (ZD neg E o n c l [1]) (Z6 3) (d16 1).length*2^(i64.wrap (0-E)).toNat=A),true),(Zea (ZD neg E o n c l [1]) (Z6 3) (d16 1).length (d16 1).length (i64.wrap (0-E)),true),(decide (0<(d16 1).length),true),(decide (E≥0),false),(true,true)]:=by and_intros<;>kernel_rfl
theorem Z0y (neg:Bool) (E top N K:Int) (o n c:Nat) (l:List Value) (A B V:Nat) (g:Nat→Value):Zg (evC (Zk prog Zf Zn Zeb) 200 false (ZiM f29) (ZeI neg E top N o n c++tl 29 g,hX neg E o n c l,[cmp false,cmp true,num A,cmp false,cmp true,num B,num V,num K,cmp true]) ⟨[],[],[]⟩) 6 28 (some none) ([vRN neg E (sl 0 o n c),.pointer (some ⟨1,0,none⟩),.int .i64 N,.int .i64 top,.int .i64 N]++[.slice (aX o) n c]) (ZD neg E o n c l [1,A,B,V]) [(decide (K≥0),true),(decide (Zag (vO (ZD neg E o n c l [1,A,B,V]) (aX o) n) (vO (ZD neg E o n c l [1,A,B,V]) (Z6 6) (d16 V).length)=K),true),(ZN (ZD neg E o n c l [1,A,B,V]) (aX o) (Z6 6) n c (d16 V).length (d16 V).length,true),(decide (vO (ZD neg E o n c l [1,A,B]) (Z6 4) (d16 A).length*vO (ZD neg E o n c l [1,A,B]) (Z6 5) (d16 B).length=V),true),(ZeM (ZD neg E o n c l [1,A,B]) (Z6 4) (Z6 5) (d16 A).length (d16 A).length (d16 B).length (d16 B).length,true),(decide ((10:Int).toNat^(i64.wrap (0-i64.wrap (0-N))).toNat=B),true),(Zg9 10 (i64.wrap (0-i64.wrap (0-N))),true),(decide ((10:Int)=0∧2≤(i64.wrap (0-i64.wrap (0-N)))),false),(decide (i64.wrap (0-N)≥0),false),(decide (vO (ZD neg E o n c l [1]) (Z6 3) (d16 1).length*2^(i64.wrap (0-E)).toNat=A),true),(Zea (ZD neg E o n c l [1]) (Z6 3) (d16 1).length (d16 1).length (i64.wrap (0-E)),true),(decide (0<(d16 1).length),true),(decide (E≥0),false),(true,true)]:=by and_intros<;>kernel_rfl
theorem Z0z (neg:Bool) (E top N K:Int) (o n c:Nat) (l:List Value) (A B V:Nat) (g:Nat→Value):Zg (evC (Zk prog Zf Zn Zeb) 200 false (ZiM f29) (ZeI neg E top N o n c++tl 29 g,hX neg E o n c l,[cmp false,cmp true,num A,cmp false,cmp true,num B,num V,num K,cmp false,cmp false]) ⟨[],[],[]⟩) 6 28 none (ZeI neg E top (i64.wrap (N-1)) o n c++[.slice (aX o) n c]) (ZD neg E o n c l [1,A,B,V]) [(decide (i64.wrap (N-1)< -400),false),(decide (K≥0),false),(decide (Zag (vO (ZD neg E o n c l [1,A,B,V]) (aX o) n) (vO (ZD neg E o n c l [1,A,B,V]) (Z6 6) (d16 V).length)=K),true),(ZN (ZD neg E o n c l [1,A,B,V]) (aX o) (Z6 6) n c (d16 V).length (d16 V).length,true),(decide (vO (ZD neg E o n c l [1,A,B]) (Z6 4) (d16 A).length*vO (ZD neg E o n c l [1,A,B]) (Z6 5) (d16 B).length=V),true),(ZeM (ZD neg E o n c l [1,A,B]) (Z6 4) (Z6 5) (d16 A).length (d16 A).length (d16 B).length (d16 B).length,true),(decide ((10:Int).toNat^(i64.wrap (0-i64.wrap (0-N))).toNat=B),true),(Zg9 10 (i64.wrap (0-i64.wrap (0-N))),true),(decide ((10:Int)=0∧2≤(i64.wrap (0-i64.wrap (0-N)))),false),(decide (i64.wrap (0-N)≥0),false),(decide (vO (ZD neg E o n c l [1]) (Z6 3) (d16 1).length*2^(i64.wrap (0-E)).toNat=A),true),(Zea (ZD neg E o n c l [1]) (Z6 3) (d16 1).length (d16 1).length (i64.wrap (0-E)),true),(decide (0<(d16 1).length),true),(decide (E≥0),false),(true,true)]:=by and_intros<;>kernel_rfl
theorem Z00 {x:Value}{n:Nat}{g:Nat→Value}:∃ g',[x]++tl n g=tl (n+1) g':=by
 obtain⟨g',hg⟩:=ZgO (J:=[x]++tl n g) (n:=n+1) (by simp [Zfl]);exact⟨g',hg⟩
def Zq0 (S:Nat) (neg:Bool) (E top N:Int) (o n c:Nat) (l:List Value) (e:Ex) (z:Lf):Prop:=
 if pbN E (-N)≤paN S E (-N) then e=some none∧∃ t,z.1=[vRN neg E (sl 0 o n c),.pointer (some ⟨1,0,none⟩),.int .i64 N]++t else e=none∧(∃ g,z.1=ZeI neg E top (N-1) o n c++tl 29 g)∧z.2.1=hX neg E o n c l
section
variable {l : List Value} {o c : Nat} {A' : List Int}
theorem Zda {S:Nat}{neg:Bool}{E top N:Int}{n:Nat}{code:Code}{x0:Lf}{u:Value}{h:Hp}(hf:pbN E (-N)≤paN S E (-N)) (hr:RunsW (Zk prog Zf Zn Zeb) code x0 fun e z=>e=some none∧(∃ g,z.1=([vRN neg E (sl 0 o n c),.pointer (some ⟨1,0,none⟩),.int .i64 N,.int .i64 top,.int .i64 N]++[u])++tl 28 g)∧z.2.1=h):RunsW (Zk prog Zf Zn Zeb) code x0 (Zq0 S neg E top N o n c l):=by
 refine hr.mono fun e z he=> ?_;obtain⟨rfl,⟨g,h1⟩,_⟩:=he;unfold Zq0;rw[if_pos hf];exact⟨rfl,_,h1⟩
theorem Zkq {S:Nat}{neg:Bool}{E top N:Int}{n:Nat}{code:Code}{x0:Lf}{u:Value}{L:List Nat}(hf:¬ pbN E (-N)≤paN S E (-N)) (hN: -400≤N∧N≤400) (hl:∀ v∈l,lt1 2 v=true) (hr:RunsW (Zk prog Zf Zn Zeb) code x0 fun e z=>e=none∧(∃ g,z.1=(ZeI neg E top (i64.wrap (N-1)) o n c++[u])++tl 28 g)∧z.2.1=ZD neg E o n c l L):RunsW (Zk prog Zf Zn Zeb) code x0 (Zq0 S neg E top N o n c l):=by
 rw[Zw (by omega) (by omega)] at hr;have hc:=RunsW.cut (f1:=ZeI neg E top (N-1) o n c) (f2:=[]) (k:=2) (N:=3+L.length) (extra:=(L.map w16).reverse++[bX neg E o n c]) (base:=[bX neg E o n c,(l,tR)]) (by
  refine hr.mono fun e z he=> ?_;obtain⟨h1,h2,h3⟩:=he;refine⟨h1,h2,?_⟩;rw[h3];unfold ZD;rw[List.append_assoc];rfl) rfl (by simp;omega) (by omega) (by
  intro x hx;rcases List.mem_cons.1 hx with rfl | hx
  ·intro v hv;simp only[bX,bOf,List.mem_cons,List.not_mem_nil,or_false] at hv;rcases hv with rfl | rfl | rfl<;>rfl
  ·rw[List.mem_singleton.1 hx];exact hl) (by
  intro v hv;simp only[ZeI,List.mem_cons,List.not_mem_nil,or_false] at hv;rcases hv with rfl | rfl | rfl | rfl | rfl<;>rfl) (fun v hv=>absurd hv (List.not_mem_nil))
 refine hc.mono fun e z he=> ?_;obtain⟨rfl,⟨g,j,h1⟩,h2⟩:=he;unfold Zq0;rw[if_neg hf];obtain⟨g',hg⟩:=Z00 (x:=j) (n:=28) (g:=g);refine⟨rfl,⟨g',?_⟩,h2⟩;rw[h1,List.append_assoc,hg]
end
theorem Zbi (k:Nat):10^k<2^(4*k+1):=by
 have h:10^k≤16^k:=Nat.pow_le_pow_left (by omega) k;have e:(16:Nat)^k=2^(4*k):=by rw[Nat.pow_mul]
 have p:0<2^(4*k):=Nat.pow_pos (by omega);rw[Nat.pow_succ];omega
theorem zl {a b i j:Nat}(ha:a<2^i) (hb:b<2^j):a*b<2^(i+j):=by
 rw[Nat.pow_add];exact Nat.mul_lt_mul'' ha hb
theorem zn {a i:Nat}(h:a<2^i) (hi:i≤10000):(d16 a).length<100000:=by
 have:=Zcz h;omega
section
variable {l : List Value} {o c n S : Nat}
theorem ZhH (hX0:∀ h:Hp,h.blk? 0=some (l,tR)→RowV h (aX o) n c S) (hl:∀ v∈l,lt1 2 v=true) (h0:S≠0) (hS:S<2^53) {neg:Bool}{E top N:Int}(hE1: -1074≤E∧E≤972) (hN1: -324≤N∧N≤400) (hE:0≤E) (hN:N≤0) (g:Nat→Value) (s:List Dec):
  RunsW (Zk prog Zf Zn Zeb) (ZiM f29) (ZeI neg E top N o n c++tl 29 g,hX neg E o n c l,s) (Zq0 S neg E top N o n c l):=by
 obtain⟨A,hA⟩:∃ A,A=S*2^E.toNat:=⟨_,rfl⟩;obtain⟨B,hB⟩:∃ B,B=10^((-N).toNat):=⟨_,rfl⟩;obtain⟨V,hV⟩:∃ V,V=(S*2^E.toNat)*10^(-N).toNat:=⟨_,rfl⟩;have tS:S<2^53:=hS;obtain⟨J14,hJ14⟩:∃ J,J=1100:=⟨_,rfl⟩;obtain⟨K14,hK14⟩:∃ K,K=1700:=⟨_,rfl⟩;have tA:A<2^(53+J14):=by
  rw[hA];exact zl tS (Nat.pow_lt_pow_right (by omega) (by omega))
 have tB:B<2^K14:=by
  rw[hB];exact Nat.lt_of_lt_of_le (Zbi _) (Nat.pow_le_pow_right (by omega) (by omega))
 have eV:V=A*B:=by rw[hV,hA,hB]
 have tV:V<2^(53+J14+K14):=by
  rw[eV];exact zl tA tB
 have l1:(d16 1).length<100000:=zn (i:=1) (by decide) (by omega);have lA:=zn tA (by omega);have lB:=zn tB (by omega);have lV:=zn tV (by omega);have ea:V=paN S E (-N):=by
  unfold paN;exact hV
 have eb:1=pbN E (-N):=by
  unfold pbN;rw[show (-E).toNat=0 by omega,show (- -N).toNat=0 by omega]
 have q0:i64.wrap (0-N)= -N:=by rw[Zw (by omega) (by omega)];omega
 have gT:=Z0s neg E top N (Zag V 1) o n c l A B V g;rw[q0] at gT;have gF:=Z0t neg E top N (Zag V 1) o n c l A B V g;rw[q0] at gF;by_cases hf:pbN E (-N)≤paN S E (-N)
 ·exact Zda hf (Zb (s0:=s) Zg0 gT (Za (by rw[Zce,ea,eb];exact Xa hf) (Za (by rw[(RowV.at (h:=(ZD neg E o n c l [1,A,B,V])) (b:=6) (V:=V) rfl lV).vo,(RowV.at (h:=(ZD neg E o n c l [1,A,B,V])) (b:=3) (V:=1) rfl l1).vo];exact Xa rfl) (Za (RowV.two (RowV.at (h:=(ZD neg E o n c l [1,A,B,V])) (b:=6) (V:=V) rfl lV) (RowV.at (h:=(ZD neg E o n c l [1,A,B,V])) (b:=3) (V:=1) rfl l1)) (Za (by rw[(RowV.at (h:=(ZD neg E o n c l [1,A,B])) (b:=4) (V:=A) rfl lA).vo,(RowV.at (h:=(ZD neg E o n c l [1,A,B])) (b:=5) (V:=B) rfl lB).vo];exact Xa eV.symm) (Za (RowV.mu (RowV.at (h:=(ZD neg E o n c l [1,A,B])) (b:=4) (V:=A) rfl lA) (RowV.at (h:=(ZD neg E o n c l [1,A,B])) (b:=5) (V:=B) rfl lB)) (Za (Xa hB.symm) (Za (Xa ⟨by omega,by omega,by omega,by omega⟩) (Za (Xb (by omega)) (Za (Xa (by omega)) (Za (by rw[(hX0 (ZD neg E o n c l [1]) rfl).vo];exact Xa hA.symm) (Za (RowV.sh (hX0 (ZD neg E o n c l [1]) rfl) (by omega) (by omega)) (Za (Xa (RowV.pos (hX0 (ZD neg E o n c l [1]) rfl) (by omega))) (Za (Xa (by omega)) (Z4 rfl)))))))))))))))
 ·exact Zkq hf ⟨by omega,by omega⟩ hl (Zb (s0:=s) Zg0 gF (Za (by rw[Zw (by omega) (by omega)];exact Xb (by omega)) (Za (by rw[Zce,ea,eb];exact Xb hf) (Za (by rw[(RowV.at (h:=(ZD neg E o n c l [1,A,B,V])) (b:=6) (V:=V) rfl lV).vo,(RowV.at (h:=(ZD neg E o n c l [1,A,B,V])) (b:=3) (V:=1) rfl l1).vo];exact Xa rfl) (Za (RowV.two (RowV.at (h:=(ZD neg E o n c l [1,A,B,V])) (b:=6) (V:=V) rfl lV) (RowV.at (h:=(ZD neg E o n c l [1,A,B,V])) (b:=3) (V:=1) rfl l1)) (Za (by rw[(RowV.at (h:=(ZD neg E o n c l [1,A,B])) (b:=4) (V:=A) rfl lA).vo,(RowV.at (h:=(ZD neg E o n c l [1,A,B])) (b:=5) (V:=B) rfl lB).vo];exact Xa eV.symm) (Za (RowV.mu (RowV.at (h:=(ZD neg E o n c l [1,A,B])) (b:=4) (V:=A) rfl lA) (RowV.at (h:=(ZD neg E o n c l [1,A,B])) (b:=5) (V:=B) rfl lB)) (Za (Xa hB.symm) (Za (Xa ⟨by omega,by omega,by omega,by omega⟩) (Za (Xb (by omega)) (Za (Xa (by omega)) (Za (by rw[(hX0 (ZD neg E o n c l [1]) rfl).vo];exact Xa hA.symm) (Za (RowV.sh (hX0 (ZD neg E o n c l [1]) rfl) (by omega) (by omega)) (Za (Xa (RowV.pos (hX0 (ZD neg E o n c l [1]) rfl) (by omega))) (Za (Xa (by omega)) (Z4 rfl))))))))))))))))
theorem ZhI (hX0:∀ h:Hp,h.blk? 0=some (l,tR)→RowV h (aX o) n c S) (hl:∀ v∈l,lt1 2 v=true) (h0:S≠0) (hS:S<2^53) {neg:Bool}{E top N:Int}(hE1: -1074≤E∧E≤972) (hN1: -324≤N∧N≤400) (hE:0≤E) (hN:0<N) (g:Nat→Value) (s:List Dec):
  RunsW (Zk prog Zf Zn Zeb) (ZiM f29) (ZeI neg E top N o n c++tl 29 g,hX neg E o n c l,s) (Zq0 S neg E top N o n c l):=by
 obtain⟨A,hA⟩:∃ A,A=S*2^E.toNat:=⟨_,rfl⟩;obtain⟨B,hB⟩:∃ B,B=10^(N.toNat):=⟨_,rfl⟩;obtain⟨V,hV⟩:∃ V,V=1*10^N.toNat:=⟨_,rfl⟩;have tS:S<2^53:=hS;obtain⟨J14,hJ14⟩:∃ J,J=1100:=⟨_,rfl⟩;obtain⟨K14,hK14⟩:∃ K,K=1700:=⟨_,rfl⟩;have tA:A<2^(53+J14):=by
  rw[hA];exact zl tS (Nat.pow_lt_pow_right (by omega) (by omega))
 have tB:B<2^K14:=by
  rw[hB];exact Nat.lt_of_lt_of_le (Zbi _) (Nat.pow_le_pow_right (by omega) (by omega))
 have eV:V=1*B:=by rw[hV,hB]
 have tV:V<2^(53+J14+K14):=by
  rw[eV];exact zl (Nat.lt_of_lt_of_le (show 1<2^1 by decide) (Nat.pow_le_pow_right (by omega) (by omega))) tB
 have l1:(d16 1).length<100000:=zn (i:=1) (by decide) (by omega);have lA:=zn tA (by omega);have lB:=zn tB (by omega);have lV:=zn tV (by omega);have ea:A=paN S E (-N):=by
  unfold paN;rw[show (-N).toNat=0 by omega,hA,Nat.pow_zero,Nat.mul_one]
 have eb:V=pbN E (-N):=by
  unfold pbN;rw[show (-E).toNat=0 by omega,show (- -N).toNat=N.toNat by omega,hV]
 have q0:i64.wrap (0-N)= -N:=by rw[Zw (by omega) (by omega)];omega
 have q1:i64.wrap (0 - -N)=N:=by rw[Zw (by omega) (by omega)];omega
 have gT:=Z0u neg E top N (Zag A V) o n c l A B V g;rw[q0,q1] at gT;have gF:=Z0v neg E top N (Zag A V) o n c l A B V g;rw[q0,q1] at gF;by_cases hf:pbN E (-N)≤paN S E (-N)
 ·exact Zda hf (Zb (s0:=s) Zg0 gT (Za (by rw[Zce,ea,eb];exact Xa hf) (Za (by rw[(RowV.at (h:=(ZD neg E o n c l [1,A,B,V])) (b:=4) (V:=A) rfl lA).vo,(RowV.at (h:=(ZD neg E o n c l [1,A,B,V])) (b:=6) (V:=V) rfl lV).vo];exact Xa rfl) (Za (RowV.two (RowV.at (h:=(ZD neg E o n c l [1,A,B,V])) (b:=4) (V:=A) rfl lA) (RowV.at (h:=(ZD neg E o n c l [1,A,B,V])) (b:=6) (V:=V) rfl lV)) (Za (by rw[(RowV.at (h:=(ZD neg E o n c l [1,A,B])) (b:=3) (V:=1) rfl l1).vo,(RowV.at (h:=(ZD neg E o n c l [1,A,B])) (b:=5) (V:=B) rfl lB).vo];exact Xa eV.symm) (Za (RowV.mu (RowV.at (h:=(ZD neg E o n c l [1,A,B])) (b:=3) (V:=1) rfl l1) (RowV.at (h:=(ZD neg E o n c l [1,A,B])) (b:=5) (V:=B) rfl lB)) (Za (Xa hB.symm) (Za (Xa ⟨by omega,by omega,by omega,by omega⟩) (Za (Xb (by omega)) (Za (Xb (by omega)) (Za (by rw[(hX0 (ZD neg E o n c l [1]) rfl).vo];exact Xa hA.symm) (Za (RowV.sh (hX0 (ZD neg E o n c l [1]) rfl) (by omega) (by omega)) (Za (Xa (RowV.pos (hX0 (ZD neg E o n c l [1]) rfl) (by omega))) (Za (Xa (by omega)) (Z4 rfl)))))))))))))))
 ·exact Zkq hf ⟨by omega,by omega⟩ hl (Zb (s0:=s) Zg0 gF (Za (by rw[Zw (by omega) (by omega)];exact Xb (by omega)) (Za (by rw[Zce,ea,eb];exact Xb hf) (Za (by rw[(RowV.at (h:=(ZD neg E o n c l [1,A,B,V])) (b:=4) (V:=A) rfl lA).vo,(RowV.at (h:=(ZD neg E o n c l [1,A,B,V])) (b:=6) (V:=V) rfl lV).vo];exact Xa rfl) (Za (RowV.two (RowV.at (h:=(ZD neg E o n c l [1,A,B,V])) (b:=4) (V:=A) rfl lA) (RowV.at (h:=(ZD neg E o n c l [1,A,B,V])) (b:=6) (V:=V) rfl lV)) (Za (by rw[(RowV.at (h:=(ZD neg E o n c l [1,A,B])) (b:=3) (V:=1) rfl l1).vo,(RowV.at (h:=(ZD neg E o n c l [1,A,B])) (b:=5) (V:=B) rfl lB).vo];exact Xa eV.symm) (Za (RowV.mu (RowV.at (h:=(ZD neg E o n c l [1,A,B])) (b:=3) (V:=1) rfl l1) (RowV.at (h:=(ZD neg E o n c l [1,A,B])) (b:=5) (V:=B) rfl lB)) (Za (Xa hB.symm) (Za (Xa ⟨by omega,by omega,by omega,by omega⟩) (Za (Xb (by omega)) (Za (Xb (by omega)) (Za (by rw[(hX0 (ZD neg E o n c l [1]) rfl).vo];exact Xa hA.symm) (Za (RowV.sh (hX0 (ZD neg E o n c l [1]) rfl) (by omega) (by omega)) (Za (Xa (RowV.pos (hX0 (ZD neg E o n c l [1]) rfl) (by omega))) (Za (Xa (by omega)) (Z4 rfl))))))))))))))))
theorem ZhJ (hX0:∀ h:Hp,h.blk? 0=some (l,tR)→RowV h (aX o) n c S) (hl:∀ v∈l,lt1 2 v=true) (h0:S≠0) (hS:S<2^53) {neg:Bool}{E top N:Int}(hE1: -1074≤E∧E≤972) (hN1: -324≤N∧N≤400) (hE:E<0) (hN:N≤0) (g:Nat→Value) (s:List Dec):
  RunsW (Zk prog Zf Zn Zeb) (ZiM f29) (ZeI neg E top N o n c++tl 29 g,hX neg E o n c l,s) (Zq0 S neg E top N o n c l):=by
 obtain⟨A,hA⟩:∃ A,A=1*2^(-E).toNat:=⟨_,rfl⟩;obtain⟨B,hB⟩:∃ B,B=10^((-N).toNat):=⟨_,rfl⟩;obtain⟨V,hV⟩:∃ V,V=S*10^(-N).toNat:=⟨_,rfl⟩;have tS:S<2^53:=hS;obtain⟨J14,hJ14⟩:∃ J,J=1100:=⟨_,rfl⟩;obtain⟨K14,hK14⟩:∃ K,K=1700:=⟨_,rfl⟩;have tA:A<2^(53+J14):=by
  rw[hA];exact zl (show 1<2^53 by decide) (Nat.pow_lt_pow_right (by omega) (by omega))
 have tB:B<2^K14:=by
  rw[hB];exact Nat.lt_of_lt_of_le (Zbi _) (Nat.pow_le_pow_right (by omega) (by omega))
 have eV:V=S*B:=by rw[hV,hB]
 have tV:V<2^(53+J14+K14):=by
  rw[eV];exact zl (Nat.lt_of_lt_of_le tS (Nat.pow_le_pow_right (by omega) (by omega))) tB
 have l1:(d16 1).length<100000:=zn (i:=1) (by decide) (by omega);have lA:=zn tA (by omega);have lB:=zn tB (by omega);have lV:=zn tV (by omega);have ea:V=paN S E (-N):=by
  unfold paN;rw[show E.toNat=0 by omega,hV,Nat.pow_zero,Nat.mul_one]
 have eb:A=pbN E (-N):=by
  unfold pbN;rw[show (- -N).toNat=0 by omega,hA,Nat.pow_zero,Nat.mul_one,Nat.one_mul]
 have q0:i64.wrap (0-N)= -N:=by rw[Zw (by omega) (by omega)];omega
 have q2:i64.wrap (0-E)= -E:=by rw[Zw (by omega) (by omega)];omega
 have gT:=Z0w neg E top N (Zag V A) o n c l A B V g;rw[q0,q2] at gT;have gF:=Z0x neg E top N (Zag V A) o n c l A B V g;rw[q0,q2] at gF;by_cases hf:pbN E (-N)≤paN S E (-N)
 ·exact Zda hf (Zb (s0:=s) Zg0 gT (Za (by rw[Zce,ea,eb];exact Xa hf) (Za (by rw[(RowV.at (h:=(ZD neg E o n c l [1,A,B,V])) (b:=6) (V:=V) rfl lV).vo,(RowV.at (h:=(ZD neg E o n c l [1,A,B,V])) (b:=4) (V:=A) rfl lA).vo];exact Xa rfl) (Za (RowV.two (RowV.at (h:=(ZD neg E o n c l [1,A,B,V])) (b:=6) (V:=V) rfl lV) (RowV.at (h:=(ZD neg E o n c l [1,A,B,V])) (b:=4) (V:=A) rfl lA)) (Za (by rw[(hX0 (ZD neg E o n c l [1,A,B]) rfl).vo,(RowV.at (h:=(ZD neg E o n c l [1,A,B])) (b:=5) (V:=B) rfl lB).vo];exact Xa eV.symm) (Za (RowV.mu (hX0 (ZD neg E o n c l [1,A,B]) rfl) (RowV.at (h:=(ZD neg E o n c l [1,A,B])) (b:=5) (V:=B) rfl lB)) (Za (Xa hB.symm) (Za (Xa ⟨by omega,by omega,by omega,by omega⟩) (Za (Xb (by omega)) (Za (Xa (by omega)) (Za (by rw[(RowV.at (h:=(ZD neg E o n c l [1])) (b:=3) (V:=1) rfl l1).vo];exact Xa hA.symm) (Za (RowV.sh (RowV.at (h:=(ZD neg E o n c l [1])) (b:=3) (V:=1) rfl l1) (by omega) (by omega)) (Za (Xa (RowV.pos (RowV.at (h:=(ZD neg E o n c l [1])) (b:=3) (V:=1) rfl l1) (by omega))) (Za (Xb (by omega)) (Z4 rfl)))))))))))))))
 ·exact Zkq hf ⟨by omega,by omega⟩ hl (Zb (s0:=s) Zg0 gF (Za (by rw[Zw (by omega) (by omega)];exact Xb (by omega)) (Za (by rw[Zce,ea,eb];exact Xb hf) (Za (by rw[(RowV.at (h:=(ZD neg E o n c l [1,A,B,V])) (b:=6) (V:=V) rfl lV).vo,(RowV.at (h:=(ZD neg E o n c l [1,A,B,V])) (b:=4) (V:=A) rfl lA).vo];exact Xa rfl) (Za (RowV.two (RowV.at (h:=(ZD neg E o n c l [1,A,B,V])) (b:=6) (V:=V) rfl lV) (RowV.at (h:=(ZD neg E o n c l [1,A,B,V])) (b:=4) (V:=A) rfl lA)) (Za (by rw[(hX0 (ZD neg E o n c l [1,A,B]) rfl).vo,(RowV.at (h:=(ZD neg E o n c l [1,A,B])) (b:=5) (V:=B) rfl lB).vo];exact Xa eV.symm) (Za (RowV.mu (hX0 (ZD neg E o n c l [1,A,B]) rfl) (RowV.at (h:=(ZD neg E o n c l [1,A,B])) (b:=5) (V:=B) rfl lB)) (Za (Xa hB.symm) (Za (Xa ⟨by omega,by omega,by omega,by omega⟩) (Za (Xb (by omega)) (Za (Xa (by omega)) (Za (by rw[(RowV.at (h:=(ZD neg E o n c l [1])) (b:=3) (V:=1) rfl l1).vo];exact Xa hA.symm) (Za (RowV.sh (RowV.at (h:=(ZD neg E o n c l [1])) (b:=3) (V:=1) rfl l1) (by omega) (by omega)) (Za (Xa (RowV.pos (RowV.at (h:=(ZD neg E o n c l [1])) (b:=3) (V:=1) rfl l1) (by omega))) (Za (Xb (by omega)) (Z4 rfl))))))))))))))))
theorem ZhK (hX0:∀ h:Hp,h.blk? 0=some (l,tR)→RowV h (aX o) n c S) (hl:∀ v∈l,lt1 2 v=true) (h0:S≠0) (hS:S<2^53) {neg:Bool}{E top N:Int}(hE1: -1074≤E∧E≤972) (hN1: -324≤N∧N≤400) (hE:E<0) (hN:0<N) (g:Nat→Value) (s:List Dec):
  RunsW (Zk prog Zf Zn Zeb) (ZiM f29) (ZeI neg E top N o n c++tl 29 g,hX neg E o n c l,s) (Zq0 S neg E top N o n c l):=by
 obtain⟨A,hA⟩:∃ A,A=1*2^(-E).toNat:=⟨_,rfl⟩;obtain⟨B,hB⟩:∃ B,B=10^(N.toNat):=⟨_,rfl⟩;obtain⟨V,hV⟩:∃ V,V=(1*2^(-E).toNat)*10^N.toNat:=⟨_,rfl⟩;have tS:S<2^53:=hS;obtain⟨J14,hJ14⟩:∃ J,J=1100:=⟨_,rfl⟩;obtain⟨K14,hK14⟩:∃ K,K=1700:=⟨_,rfl⟩;have tA:A<2^(53+J14):=by
  rw[hA];exact zl (show 1<2^53 by decide) (Nat.pow_lt_pow_right (by omega) (by omega))
 have tB:B<2^K14:=by
  rw[hB];exact Nat.lt_of_lt_of_le (Zbi _) (Nat.pow_le_pow_right (by omega) (by omega))
 have eV:V=A*B:=by rw[hV,hA,hB]
 have tV:V<2^(53+J14+K14):=by
  rw[eV];exact zl tA tB
 have l1:(d16 1).length<100000:=zn (i:=1) (by decide) (by omega);have lA:=zn tA (by omega);have lB:=zn tB (by omega);have lV:=zn tV (by omega);have ea:S=paN S E (-N):=by
  unfold paN;rw[show E.toNat=0 by omega,show (-N).toNat=0 by omega,Nat.mul_one,Nat.mul_one]
 have eb:V=pbN E (-N):=by
  unfold pbN;rw[show (- -N).toNat=N.toNat by omega,hV,Nat.one_mul]
 have q0:i64.wrap (0-N)= -N:=by rw[Zw (by omega) (by omega)];omega
 have q1:i64.wrap (0 - -N)=N:=by rw[Zw (by omega) (by omega)];omega
 have q2:i64.wrap (0-E)= -E:=by rw[Zw (by omega) (by omega)];omega
 have gT:=Z0y neg E top N (Zag S V) o n c l A B V g;rw[q0,q1,q2] at gT;have gF:=Z0z neg E top N (Zag S V) o n c l A B V g;rw[q0,q1,q2] at gF;by_cases hf:pbN E (-N)≤paN S E (-N)
 ·exact Zda hf (Zb (s0:=s) Zg0 gT (Za (by rw[Zce,ea,eb];exact Xa hf) (Za (by rw[(hX0 (ZD neg E o n c l [1,A,B,V]) rfl).vo,(RowV.at (h:=(ZD neg E o n c l [1,A,B,V])) (b:=6) (V:=V) rfl lV).vo];exact Xa rfl) (Za (RowV.two (hX0 (ZD neg E o n c l [1,A,B,V]) rfl) (RowV.at (h:=(ZD neg E o n c l [1,A,B,V])) (b:=6) (V:=V) rfl lV)) (Za (by rw[(RowV.at (h:=(ZD neg E o n c l [1,A,B])) (b:=4) (V:=A) rfl lA).vo,(RowV.at (h:=(ZD neg E o n c l [1,A,B])) (b:=5) (V:=B) rfl lB).vo];exact Xa eV.symm) (Za (RowV.mu (RowV.at (h:=(ZD neg E o n c l [1,A,B])) (b:=4) (V:=A) rfl lA) (RowV.at (h:=(ZD neg E o n c l [1,A,B])) (b:=5) (V:=B) rfl lB)) (Za (Xa hB.symm) (Za (Xa ⟨by omega,by omega,by omega,by omega⟩) (Za (Xb (by omega)) (Za (Xb (by omega)) (Za (by rw[(RowV.at (h:=(ZD neg E o n c l [1])) (b:=3) (V:=1) rfl l1).vo];exact Xa hA.symm) (Za (RowV.sh (RowV.at (h:=(ZD neg E o n c l [1])) (b:=3) (V:=1) rfl l1) (by omega) (by omega)) (Za (Xa (RowV.pos (RowV.at (h:=(ZD neg E o n c l [1])) (b:=3) (V:=1) rfl l1) (by omega))) (Za (Xb (by omega)) (Z4 rfl)))))))))))))))
 ·exact Zkq hf ⟨by omega,by omega⟩ hl (Zb (s0:=s) Zg0 gF (Za (by rw[Zw (by omega) (by omega)];exact Xb (by omega)) (Za (by rw[Zce,ea,eb];exact Xb hf) (Za (by rw[(hX0 (ZD neg E o n c l [1,A,B,V]) rfl).vo,(RowV.at (h:=(ZD neg E o n c l [1,A,B,V])) (b:=6) (V:=V) rfl lV).vo];exact Xa rfl) (Za (RowV.two (hX0 (ZD neg E o n c l [1,A,B,V]) rfl) (RowV.at (h:=(ZD neg E o n c l [1,A,B,V])) (b:=6) (V:=V) rfl lV)) (Za (by rw[(RowV.at (h:=(ZD neg E o n c l [1,A,B])) (b:=4) (V:=A) rfl lA).vo,(RowV.at (h:=(ZD neg E o n c l [1,A,B])) (b:=5) (V:=B) rfl lB).vo];exact Xa eV.symm) (Za (RowV.mu (RowV.at (h:=(ZD neg E o n c l [1,A,B])) (b:=4) (V:=A) rfl lA) (RowV.at (h:=(ZD neg E o n c l [1,A,B])) (b:=5) (V:=B) rfl lB)) (Za (Xa hB.symm) (Za (Xa ⟨by omega,by omega,by omega,by omega⟩) (Za (Xb (by omega)) (Za (Xb (by omega)) (Za (by rw[(RowV.at (h:=(ZD neg E o n c l [1])) (b:=3) (V:=1) rfl l1).vo];exact Xa hA.symm) (Za (RowV.sh (RowV.at (h:=(ZD neg E o n c l [1])) (b:=3) (V:=1) rfl l1) (by omega) (by omega)) (Za (Xa (RowV.pos (RowV.at (h:=(ZD neg E o n c l [1])) (b:=3) (V:=1) rfl l1) (by omega))) (Za (Xb (by omega)) (Z4 rfl))))))))))))))))
theorem Zqd (hX0:∀ h:Hp,h.blk? 0=some (l,tR)→RowV h (aX o) n c S) (hl:∀ v∈l,lt1 2 v=true) (h0:S≠0) (hS:S<2^53) {neg:Bool}{E top N:Int}(hE1: -1074≤E∧E≤972) (hN1: -324≤N∧N≤400) (g:Nat→Value) (s:List Dec):
  RunsW (Zk prog Zf Zn Zeb) (ZiM f29) (ZeI neg E top N o n c++tl 29 g,hX neg E o n c l,s) (Zq0 S neg E top N o n c l):=by
 by_cases hE:0≤E
 ·by_cases hN:N≤0
  ·exact ZhH hX0 hl h0 hS hE1 hN1 hE hN g s
  ·exact ZhI hX0 hl h0 hS hE1 hN1 hE (by omega) g s
 ·by_cases hN:N≤0
  ·exact ZhJ hX0 hl h0 hS hE1 hN1 (by omega) hN g s
  ·exact ZhK hX0 hl h0 hS hE1 hN1 (by omega) (by omega) g s
def ZAZ (S:Nat) (neg:Bool) (E top:Int) (o n c:Nat) (l:List Value) (r:Nat) (y:Lf):Prop:=∃ N:Int,N+324=r∧N≤400∧frK S E r N=frS S E∧(∃ g,y.1=ZeI neg E top N o n c++tl 29 g)∧y.2.1=hX neg E o n c l
theorem ZtT (hX0:∀ h:Hp,h.blk? 0=some (l,tR)→RowV h (aX o) n c S) (hl:∀ v∈l,lt1 2 v=true) (h0:S≠0) (hS:S<2^53) {neg:Bool}{E top:Int}(hE1: -1074≤E∧E≤972) (r:Nat) (y:Lf) (hy:ZAZ S neg E top o n c l r y):
  RunsW (Zk prog Zf Zn Zeb) (ZiM f29) y fun e z=>match e with | none=>∃ r',r'<r∧ZAZ S neg E top o n c l r' z | some none=>∃ t,z.1=[vRN neg E (sl 0 o n c),.pointer (some ⟨1,0,none⟩),.int .i64 (frS S E)]++t | some (some id')=>id'=0∧False:=by
 obtain⟨N,h1,h2,h3,⟨g,h4⟩,h5⟩:=hy;obtain⟨t,h',sc⟩:=y;simp only at h4 h5;subst h4 h5;refine (Zqd hX0 hl h0 hS (neg:=neg) (E:=E) (top:=top) (N:=N) hE1 ⟨by omega,h2⟩ g sc).mono fun e z he=> ?_;unfold Zq0 at he;by_cases hf:pbN E (-N)≤paN S E (-N)
 ·rw[if_pos hf] at he;obtain⟨rfl,t,ht⟩:=he;have:N=frS S E:=by
   rw[← h3];cases r with
   | zero=>rfl
   | succ r=>unfold frK;rw[if_pos hf]
  rw[← this];exact⟨t,ht⟩
 ·rw[if_neg hf] at he;obtain⟨rfl,h6,h7⟩:=he;cases r with
  | zero=>exact absurd (Zhy h0 hE1.1 (show N≤ -324 by omega)) hf
  | succ r=>
   unfold frK at h3;rw[if_neg hf] at h3;exact⟨r,by omega,N-1,by omega,by omega,h3,h6,h7⟩
theorem ZtU (hX0:∀ h:Hp,h.blk? 0=some (l,tR)→RowV h (aX o) n c S) (hl:∀ v∈l,still v=true) (h0:S≠0) (hS:S<2^53) {neg:Bool}{E:Int}(hE1: -1074≤E∧E≤972):
  RunsW (Zk prog Zf Zn Zeb) (Zs f29) ([vRN neg E (sl 0 o n c)]++List.replicate 33 undef,⟨1,[(l,tR)]⟩,[]) fun e y=>(e=none∨e=some none)∧ZY prog f29 y.1 y.2.1=some (.int .i64 (frS S E)):=by
 have r:=hX0 (hX neg E o n c l) rfl;have hb:bitLen S≤53:=len_le (k:=53) hS;have hb1:=Zaz h0;have et:Z1k neg E o n c l=E+(bitLen S:Nat):=by
  unfold Z1k;rw[r.vo,Zbq,Zw (by omega) (by omega)]
 obtain⟨t1,t2⟩:=Zvf (top:=E+(bitLen S:Nat)) (by omega) (by omega);have en:i64.wrap (i64.wrap ((i64.wrap (Z1k neg E o n c l*30103)).tdiv 100000)+2)=n0F (E+(bitLen S:Nat)):=by
  unfold n0F at t1 t2 ⊢;rw[et,Zw (n:=(E+(bitLen S:Nat))*30103) (by omega) (by omega)];rw[Zw (n:=((E+(bitLen S:Nat))*30103).tdiv 100000) (by omega) (by omega),Zw (by omega) (by omega)]
 have hp:=Z0r neg E o n c l;rw[en] at hp;rw[Zqc];refine Zu Zg0 hp (Z4 ?_) fun g=> ?_
 ·rw[r.1,r.can,Zl.2 (by have:=r.2.2;omega)];rfl
 obtain⟨N,hN⟩:∃ N,N=n0F (E+(bitLen S:Nat)):=⟨_,rfl⟩;rw[← hN] at t1 t2 ⊢;refine (RunsW.forLoop (P:=fun _=>False) (R:=fun z=>∃ t,z.1=[vRN neg E (sl 0 o n c),.pointer (some ⟨1,0,none⟩),.int .i64 (frS S E)]++t) (ZAZ S neg E (Z1k neg E o n c l) o n c l) (fun r y hy=>ZtT hX0 (fun v hv=>zp (by omega) (hl v hv)) h0 hS hE1 r y hy) (n:=(N+324).toNat) ⟨N,by omega,t2,by unfold frS;rw[← hN],⟨g,rfl⟩,rfl⟩).mono fun e y he=> ?_
 match e,he with
 | none,he=>exact he.elim
 | some none,⟨t,ht⟩=>
  refine⟨.inr rfl,?_⟩;rw[ht];rfl
 | some (some _),he=>exact he.elim
end
def Z7y (h:Hp) (p:Option Addr) (n c V:Nat) (E:Int):Bool:=zC h p n c && decide (Zm h p n=d16 V) && decide (0<V∧V<9007199254740992∧ -1074≤E∧E≤972)
def ZBa:Zaf:=fun vals h s=>
 match vals,s with
 | [.agg cs],.inr (.inl V)::s'=>
  match cs.toList with
  | [.bool neg,.int .i64 E,.slice (some ⟨b,o,none⟩) n c]=>some (.int .i64 (frS V.toNat E),h,s',[(Z7y h (some ⟨b,o,none⟩) n c V.toNat E,true)])
  | _=>none
 | _,_=>none
theorem Z01:Z8 29 ZBa:=by
 intro vals h s v h' s' lg hg hl m B w E0 hv;unfold ZBa at hg;split at hg
 ·rename_i cs V s2;split at hg
  ·rename_i neg E b o n c hcs;have ecs:cs= #[.bool neg,.int .i64 E,sl b o n c]:=by
    have:=congrArg List.toArray hcs;simpa [sl] using this
   cases hg;have l3:=hl _ Xf;simp only[Z7y,Xh,Xi] at l3;obtain⟨⟨q1,q2⟩,q3,q4,q5,q6⟩:=l3;rcases ZF q1 with ⟨h0,_⟩ | ⟨b',o',x,hp,hx,r1,rs,e0⟩
   ·cases h0
   ·cases hp;obtain⟨h1,h2,h3,h4,h5,h6,h7⟩:=zm r1;rw[e0] at q2;have hn:n≤4:=by
     have:=Zc8 (A:=V.toNat) (k:=4) (by omega);rw[← q2,h2] at this;exact this
    have hX0:∀ h:Hp,h.blk? 0=some (x.1,tR)→RowV h (aX o) n c V.toNat:=by
     intro hh hb;obtain⟨a1,a2⟩:=ZhD r1 rs hh hb;rw[h2] at a1 a2;exact⟨a1,by rw[← q2];exact a2,by omega⟩
    have r:=ZtU hX0 h7 (by omega) (show V.toNat<2^53 by omega) (neg:=neg) ⟨q5,q6⟩;have evals:List.map (rn fun _=>b) [vRN neg E (sl 0 o n c)]=[.agg cs]:=by
     rw[ecs];simp [rn,rn2,rn1,vRN,sl]
    have fin:=Z9 (T:=(Zk prog Zf Zn Zeb)) func29 ZtS (Za5 h7) (vals:=[vRN neg E (sl 0 o n c)]) (fun v hv=>by
     rw[List.mem_singleton.1 hv];rfl) (v:= .int .i64 (frS V.toNat E)) (by rfl) r E0 (zD hx h5 h6 rfl)
    rw[evals] at fin;exact fin
  ·cases hg
 ·cases hg
end Go.Proofs.YtgefjidphfdhdaaGreatDoor
namespace Go.Proofs.YtgefjidphfdhdaaGreatDoor
open Go.KRun Go.Nt Go.Rd Go.Pt
set_option maxRecDepth 100000
def ZeU (p:Int):Int:=(sg p).tmod 4503599627370496
def ZvB (p:Int):List UInt8:=(hxW (ZeU p)).data.toList.drop 3
end Go.Proofs.YtgefjidphfdhdaaGreatDoor
namespace Go.Proofs.YtgefjidphfdhdaaGreatDoor
open Go.KRun Go.Nt Go.Rd Go.Pt
set_option maxRecDepth 100000
set_option linter.unusedSimpArgs false
def Z5V (p:Int):List UInt8:=if spK p≠0 then spL (spK p) else if cl p=0 then (if sgn p=true then [45] else [])++[48,120,48,112,48] else if cl p=1 then Z1a (sgn p) 48 (trR (ZvB p)) (-1022) else Z1a (sgn p) 49 (trR (ZvB p)) (xp p+52)
end Go.Proofs.YtgefjidphfdhdaaGreatDoor
namespace Go.Proofs.YtgefjidphfdhdaaGreatDoor
open Go.Proofs.Tryz
open Go.KRun Go.Nt Go.Rd Go.Wd Go.Pt
set_option maxRecDepth 100000
def Z5W:Con:=alt 44 Z4n (alt 45 Z7q Zn)
theorem ZtV:ConOk Z5W:=ZE func44 rfl ZiG (ZE func45 rfl ZoW Zd)
def Z02:Hc:=zd 46 (gT Z90) hcN
theorem Zqe:HcOk Z02:=Zt func46 rfl (Zgq Zyw) zx
theorem ZCM (b:Bool) (D:List UInt8) (e:Int):ZB (ZS (Zk prog Zf Z5W Z02) hT0 200 23 [.bool b,vDc D e] [sam true,sam true,sam true]) (bR (((mnL b++ptL D)++[101])++ZaA e)) [(decide (((mnL b++ptL D)++[101]).length+(ZaA e).length≤9223372036854775807),true),(decide (e.natAbs≤2000000),true),(decide ((mnL b++ptL D).length+1≤9223372036854775807),true),(decide ((mnL b).length+(ptL D).length≤9223372036854775807),true),(decide (1≤D.length∧D.length≤100000),true)]:=by and_intros<;>kernel_rfl
theorem ZiN (l:List UInt8):(ptL l).length≤l.length+1:=by
 unfold ptL;split
 ·simp
 ·simp
 ·simp only[List.length_cons];omega
theorem Z5X (b:Bool) (D:List UInt8) (e:Int):((mnL b++ptL D)++[101])++ZaA e=txL b D e:=by
 unfold txL mnL ptL;simp only[List.append_assoc,List.singleton_append];rfl
def ZBb:Ans:=fun vals s=>
 match vals with
 | [.bool b,v]=>
  match dc2 v with
  | some (D,e)=>some (bR (txL b D.data.toList e),s,[(decide (1≤D.data.toList.length∧D.data.toList.length≤100000∧e.natAbs≤2000000),true)])
  | none=>none
 | _=>none
theorem Z03:Zcx 23 ZBb:=by
 intro vals s v s' lg h hl w hk;unfold ZBb at h;split at h
 ·split at h
  ·rename_i b v0 o D e hv;rw[Zke hv];cases h;obtain⟨h1,h2,h3⟩:=Xc (hl _ Xf);have f:=ZCM b D.data.toList e;rw[Z5X] at f;have l1:=Zgs b;have l2:=ZiN D.data.toList;have l3:=ZcT e;exact Zcs (Zh ZtV Zqe) f (Za (Xa (by rw[List.length_append,List.length_append,List.length_singleton];omega)) (Za (Xa h3) (Za (Xa (by rw[List.length_append];omega)) (Za (Xa (by omega)) (Z4 (Xa ⟨h1,h2⟩)))))) (by rfl) (by rfl) hk
  ·cases h
 ·cases h
def Z5Y (p:Int):Bool:=decide (ex p≠2047∧(sg p).toNat≠0)
theorem ZeJ {p:Int}(h:Z5Y p=true):Fin14 p:=by
 obtain⟨h1,h2⟩:=Xc h;have a:=Go.Rn.xp_bd p;have b:=Go.Rn.sg_lt p;exact⟨h1,h2,a.1,a.2,by omega⟩
def ZBc:Ans:=fun vals s=>
 match vals,s with
 | [v],.inr (.inl p)::s'=>
  match vP4 v with
  | some (m,c,e,q)=>some (vDc (sdD p) (sdE p),s',[(m==sgn p,true),(decide (c=cl p∧e=xp p∧q=sg p),true),(Z5Y p,true)])
  | none=>none
 | _,_=>none
theorem Z04:Zcx 24 ZBc:=by
 intro vals s v s' lg h hl w hk;unfold ZBc at h;split at h
 ·split at h
  ·rename_i v0 p s2 o m c e q hv;rw[ZcU hv];cases h;have l1:(m==sgn p)=true:=hl _ Xe;obtain⟨l2,l3,l4⟩:=Xc (hl _ (Xd _ Xe));have l5:Z5Y p=true:=hl _ (Xd _ (Xd _ Xf));rw[eq_of_beq l1,l2,l3,l4];exact Ztp (ZeJ l5) w hk
  ·cases h
 ·cases h
theorem ZhL:zw 20 (gU vT):=Zlk Zln
def ZeV:Con:=alt 20 (gU vT) (alt 58 (gU fun p=> .int .i64 (cl p)) (alt 22 Z7r (alt 40 ZyE (alt 39 Zpb (alt 72 Z7p Zn)))))
theorem ZtW:ConOk ZeV:=ZE func20 rfl ZhL (ZE func58 rfl Zvv (ZE func22 rfl ZoX (ZE func40 rfl Zti (ZE func39 rfl Zpc (ZE func72 rfl ZoN Zd)))))
def Zq1:Hc:=zd 23 (gT ZBb) (zd 24 (gT ZBc) hcN)
theorem Z05:HcOk Zq1:=Zt func23 rfl (Zgq Z03) (Zt func24 rfl (Zgq Z04) zx)
theorem ZhM:TabOk (Zk prog Zf ZeV Zq1):=Zh ZtW Z05
def shT (p:Int):List UInt8:=if spK p≠0 then spL (spK p) else if cl p=0 then txL (sgn p) [48] 0 else shS p
theorem Z5Z (p:Int):ZB (ZS (Zk prog Zf ZeV Zq1) hT0 200 9 [.int .u64 p] [cmp false]) (bR (nmL (sgn p) (cl p))) [(decide (cl p≤2),false),(decide (U p),true),(decide (U p),true)]:=by and_intros<;>kernel_rfl
theorem Z6a (p:Int):ZB (ZS (Zk prog Zf ZeV Zq1) hT0 200 9 [.int .u64 p] [cmp true,cmp true]) (bR (txL (sgn p) [48] 0)) [(true,true),(cl p==0,true),(decide (cl p≤2),true),(decide (U p),true),(decide (U p),true)]:=by and_intros<;>kernel_rfl
theorem Z6b (p:Int):ZB (ZS (Zk prog Zf ZeV Zq1) hT0 200 9 [.int .u64 p] [cmp true,cmp false,num p]) (bR (txL (sgn p) (sdD p) (sdE p))) [(decide (1≤(sdD p).length∧(sdD p).length≤100000∧(sdE p).natAbs≤2000000),true),(sgn p==sgn p,true),(decide (cl p=cl p∧xp p=xp p∧sg p=sg p),true),(Z5Y p,true),(cl p==0,false),(decide (cl p≤2),true),(decide (U p),true),(decide (U p),true)]:=by and_intros<;>kernel_rfl
theorem ZtX {p:Int}(hp:U p) (h:¬ cl p≤2):spK p≠0∧nmL (sgn p) (cl p)=spL (spK p):=by
 have e:=Zsh hp;have h1:=Zir p;have h2:=ZeR p;unfold spK nmL;by_cases h3:3<cl p
 ·rw[if_pos h3,if_neg (by omega)];exact⟨by decide,rfl⟩
 ·have hc:cl p=3:=by omega
  have hx:ex p=2047∧fr p=0:=by
   unfold cl at hc;split at hc
   ·split at hc<;>omega
   ·split at hc
    ·split at hc
     ·constructor<;>assumption
     ·split at hc<;>omega
    ·omega
  rw[if_neg h3,if_pos hc];rw[hx.1,hx.2] at e;cases hs:sgn p with
  | true=>
   rw[hs,if_pos rfl] at e;rw[if_neg (by omega),if_pos (by omega)];exact⟨by decide,rfl⟩
  | false=>
   rw[hs,if_neg (by decide)] at e;rw[if_pos (by omega)];exact⟨by decide,rfl⟩
theorem Zkr {p:Int}(h:cl p≤2):spK p=0:=by
 have:∀ q:Int,(q=9218868437227405312∨q=18442240474082181120)→cl q=3:=by
  rintro q (rfl | rfl)<;>decide
 unfold spK;rw[if_neg (by omega),if_neg (fun c=>by have:=this p (.inl c);omega),if_neg (fun c=>by have:=this p (.inr c);omega)]
theorem Zqf {p:Int}(h:cl p≤2) (h0:cl p≠0):Z5Y p=true:=by
 have h1:=ZeR p;refine Xa ?_;unfold cl at h h0;unfold sg;by_cases c1:ex p=0
 ·rw[if_pos c1] at h h0 ⊢;by_cases c2:fr p=0
  ·rw[if_pos c2] at h0;exact absurd rfl h0
  ·omega
 ·rw[if_neg c1] at h h0 ⊢;by_cases c2:ex p=2047
  ·rw[if_pos c2] at h;split at h
   ·omega
   ·split at h<;>omega
  ·rw[if_neg c2];omega
theorem ZBd {p:Int}(h:Fin14 p):1≤(sdD p).length∧(sdD p).length≤100000∧(sdE p).natAbs≤2000000:=by
 obtain⟨_,_,j1,j2⟩:=Zyt h;have l1:=Zh8 (shV p);have l2:=Zo6 (dcL (shV p));refine⟨?_,by unfold sdD;omega,by unfold sdE;omega⟩;obtain⟨_,b,_⟩:=Zco h;obtain⟨b1,b2,b3⟩:=Zp5 h b.1 b.2;have t19:=ZcV h;have hp:0<10^(atL p-1):=Nat.pow_pos (by omega);have hv:0<shV p∧shV p<18446744073709551616:=by unfold shV;split<;>omega
 rcases Nat.eq_zero_or_pos (sdD p).length with c | c
 ·exfalso
  have c':trR (dcL (shV p))=[]:=List.length_eq_zero_iff.1 c;have e:=Zya (b:=10) (dcL (shV p));rw[c'] at e;have e2:nmB 10 (dcL (shV p))=shV p:=Zge (ZjR hv.2);rw[e2] at e;have e3:nmB 10 []=0:=rfl;rw[e3,Nat.zero_mul] at e;omega
 ·exact c
theorem ZtY (p:Int) (hp:U p) (w:World) (hk:knT w):Calls prog 9 #[.int .u64 p] w fun e w'=>e= .returned (bR (shT p))∧Zak w w':=by
 have hu:decide (U p)=true:=Xa hp;unfold shT;by_cases h2:cl p≤2
 ·rw[if_neg (fun c=>c (Zkr h2))];by_cases h0:cl p=0
  ·rw[if_pos h0];exact Zcs ZhM (Z6a p) (Za rfl (Za (ZQ h0) (Za (Xa h2) (Za hu (Z4 hu))))) (by rfl) (by rfl) hk
  ·rw[if_neg h0];have hf:=Zqf h2 h0;have ht:=ZsX (ZeJ hf);have f:=Z6b p;have et:txL (sgn p) (sdD p) (sdE p)=shS p:=ht;rw[et] at f;exact Zcs ZhM f (Za (Xa (ZBd (ZeJ hf))) (Za (by simp) (Za (Xa ⟨rfl,rfl,rfl⟩) (Za hf (Za (ZI h0) (Za (Xa h2) (Za hu (Z4 hu)))))))) (by rfl) (by rfl) hk
 ·obtain⟨a,b⟩:=ZtX hp h2;rw[if_pos a,← b];exact Zcs ZhM (Z5Z p) (Za (Xb h2) (Za hu (Z4 hu))) (by rfl) (by rfl) hk
def Zqg (k:Int):Value:= .iface 69 (.int .i64 k)
theorem Z6c (p n m:Int):ZB (ZS (Zk prog Zf ZeV Zq1) hT0 200 12 [.int .u64 p,.int .i64 n,.int .i64 m] [cmp true]) (.tuple #[bR [],Zqg 1]) [(decide (n<1),true)]:=by and_intros<;>kernel_rfl
theorem Z6d (p n m:Int):ZB (ZS (Zk prog Zf ZeV Zq1) hT0 200 12 [.int .u64 p,.int .i64 n,.int .i64 m] [cmp false,cmp true]) (.tuple #[bR [],Zqg 1]) [(decide (n>1000),true),(decide (n<1),false)]:=by and_intros<;>kernel_rfl
theorem Z6e (p n m:Int):ZB (ZS (Zk prog Zf ZeV Zq1) hT0 200 12 [.int .u64 p,.int .i64 n,.int .i64 m] [cmp false,cmp false,cmp false]) (.tuple #[bR (nmL (sgn p) (cl p)),.nilIface]) [(decide (cl p≤2),false),(decide (U p),true),(decide (U p),true),(decide (n>1000),false),(decide (n<1),false)]:=by and_intros<;>kernel_rfl
theorem Z6f (p n m:Int):ZB (ZS (Zk prog Zf ZeV Zq1) hT0 200 12 [.int .u64 p,.int .i64 n,.int .i64 m] [cmp false,cmp false,cmp true,cmp true]) (.tuple #[bR (txL (sgn p) (List.replicate n.toNat 48) 0),.nilIface]) [(decide (1≤(List.replicate n.toNat (48:UInt8)).length∧(List.replicate n.toNat (48:UInt8)).length≤100000∧Int.natAbs 0≤2000000),true),(decide (0≤n∧n≤100000),true),(cl p==0,true),(decide (cl p≤2),true),(decide (U p),true),(decide (U p),true),(decide (n>1000),false),(decide (n<1),false)]:=by and_intros<;>kernel_rfl
def aD (p:Int):List UInt8:=Zac (ZeN (sg p).toNat (xp p))
def aE (p:Int):Int:=((aD p).length:Int)-1-(wzN (xp p):Nat)
def aR (p n m:Int):List UInt8×Int:=rnD (aD p) (aE p) n.toNat (sgn p) m
theorem Z6g (p n m:Int):ZB (ZS (Zk prog Zf ZeV Zq1) hT0 200 12 [.int .u64 p,.int .i64 n,.int .i64 m] [cmp false,cmp false,cmp true,cmp false]) (.tuple #[bR (txL (sgn p) (aR p n m).1 (aR p n m).2),.nilIface]) [(decide (1≤(aR p n m).1.length∧(aR p n m).1.length≤100000∧(aR p n m).2.natAbs≤2000000),true),(Zaw 10 (aD p),true),(decide ((1≤(aD p).length∧(aD p).length≤90000)∧(1≤n∧n≤1000)∧(-100000≤aE p∧aE p≤100000)),true),(decide (1≤sg p∧sg p<9007199254740992∧ -1074≤xp p∧xp p≤972),true),(cl p==0,false),(decide (cl p≤2),true),(decide (U p),true),(decide (U p),true),(decide (n>1000),false),(decide (n<1),false)]:=by and_intros<;>kernel_rfl
def Zqh (p:Int) (n:Nat) (m:Int):List UInt8:=if spK p≠0 then spL (spK p) else if cl p=0 then txL (sgn p) (List.replicate n 48) 0 else ZsR p n m
theorem Z6h {D:List UInt8}{e:Int}{n:Nat}{mn:Bool}{m:Int}:(rnD D e n mn m).1.length=n∧e≤(rnD D e n mn m).2∧(rnD D e n mn m).2≤e+1:=by
 unfold rnD;by_cases h:D.length≤n
 ·rw[if_pos h];refine⟨?_,Int.le_refl _,by omega⟩;show (D++List.replicate (n-D.length) 48).length=n;rw[List.length_append,List.length_replicate];omega
 ·rw[if_neg h];have lt:(D.take n).length=n:=by rw[List.length_take];omega
  split
  ·obtain⟨n1,n2⟩:=Zpa (l:=D.take n);refine⟨?_,?_,?_⟩
   ·show ((Zb3 (D.take n)).take n).length=n;rw[List.length_take];omega
   ·show e≤e+((Zb3 (D.take n)).length:Nat)-n;omega
   ·show e+((Zb3 (D.take n)).length:Nat)-n≤e+1;omega
  ·refine⟨?_,?_,?_⟩
   ·show ((D.take n).take n).length=n;rw[List.length_take];omega
   ·show e≤e+((D.take n).length:Nat)-n;omega
   ·show e+((D.take n).length:Nat)-n≤e+1;omega
theorem Zqi (p:Int) (hp:U p) (n:Nat) (hn:1≤n∧n≤1000) (m:Int) (w:World) (hk:knT w):Calls prog 12 #[.int .u64 p,.int .i64 n,.int .i64 m] w fun e w'=>e= .returned (.tuple #[bR (Zqh p n m),.nilIface])∧Zak w w':=by
 have hu:decide (U p)=true:=Xa hp;have k0:Zx [(decide (((n:Nat):Int)>1000),false),(decide (((n:Nat):Int)<1),false)]:=Za (Xb (by omega)) (Z4 (Xb (by omega)));have k0:=Za hu (Za hu k0);unfold Zqh;by_cases h2:cl p≤2
 ·have k0:=Za (show decide (cl p≤2)=true from Xa h2) k0;rw[if_neg (fun c=>c (Zkr h2))];by_cases h0:cl p=0
  ·rw[if_pos h0];have f:=Z6f p n m;rw[Xg] at f;exact Zcs ZhM f (Za (Xa ⟨by rw[List.length_replicate];omega,by rw[List.length_replicate];omega,by decide⟩) (Za (Xa (by omega)) (Za (ZQ h0) k0))) (by rfl) (by rfl) hk
  ·rw[if_neg h0];have hf:=ZeJ (Zqf h2 h0);have hW:=Z4a (xp p) hf.ne;obtain⟨l1,l2,l3⟩:=ZaH hW;have hT:=Z4b hf hn.1 m l1 l2 l3;rw[← ZeD hW] at hT;have f:=Z6g p n m;have et:txL (sgn p) (aR p n m).1 (aR p n m).2=ZsR p n m:=by
    unfold aR;rw[Xg];exact hT
   rw[et] at f;have q0:=Go.Rn.sg_lt p;have q1:=hf.ne;have x0:=hf.e0;have x1:=hf.e1;obtain⟨K,hK⟩:∃ K,K=1074:=⟨_,rfl⟩;have wl:=Zpf hf.s1 ⟨x0,x1⟩ K hK;have lb:(aD p).length≤16+K:=by
    rcases Nat.lt_or_ge (16+K) (aD p).length with c | c
    ·have:=Nat.pow_le_pow_right (n:=10) (by omega) (show 16+K≤(aD p).length-1 by omega);have l2':10^((aD p).length-1)≤ZeN (sg p).toNat (xp p):=l2;omega
    ·exact c
   have zb:wzN (xp p)≤1074:=by unfold wzN;omega
   have l1':1≤(aD p).length:=l1;have eb: -2000≤aE p∧aE p≤2000:=by unfold aE;omega
   obtain⟨r1,r2,r3⟩:=Z6h (D:=aD p) (e:=aE p) (n:=(n:Int).toNat) (mn:=sgn p) (m:=m);rw[Xg] at r1;have al:Zaw 10 (aD p)=true:=by
    have:aD p=ZaU (aD p).length (ZeN (sg p).toNat (xp p)):=ZeD hW;rw[this];exact Zcn _ _ 10
   refine Zcs ZhM f (Za (Xa ?_) (Za al (Za (Xa ⟨⟨l1',by omega⟩,⟨by omega,by omega⟩,by omega,by omega⟩) (Za (Xa ⟨by omega,by omega,x0,x1⟩) (Za (ZI h0) k0))))) (by rfl) (by rfl) hk;have e1:(aR p n m).1.length=n:=by unfold aR;rw[Xg];exact r1
   have e2:aE p≤(aR p n m).2∧(aR p n m).2≤aE p+1:=⟨r2,r3⟩;omega
 ·obtain⟨a,b⟩:=ZtX hp h2;rw[if_pos a,← b];exact Zcs ZhM (Z6e p n m) (Za (Xb h2) k0) (by rfl) (by rfl) hk
def ZBe:Ans:=fun vals s=>
 match vals,s with
 | [.int .u64 p,.int .i64 n,.int .i64 m],.inr (.inr (.inr (.inl true)))::s'=>some (.tuple #[bR (Zqh p n.toNat m),.nilIface],s',[(decide (1≤n∧n≤1000),true),(decide (U p),true)])
 | [.int .u64 _,.int .i64 n,.int .i64 _],.inr (.inr (.inr (.inl false)))::s'=>some (.tuple #[bR [],Zqg 1],s',[(decide (1≤n∧n≤1000),false)])
 | _,_=>none
theorem Z06:Zcx 12 ZBe:=by
 intro vals s v s' lg h hl w hk;unfold ZBe at h;split at h
 ·rename_i p n m s2;cases h;obtain⟨l1,l2⟩:=Xc (hl _ Xe);have l3:=Xc (hl _ (Xd _ Xf));obtain⟨k,rfl⟩:∃ k:Nat,n=k:=⟨n.toNat,by omega⟩;exact Zqi p l3 k (by omega) m w hk
 ·rename_i p n m s2;cases h;have l1:=of_decide_eq_false (hl _ Xf);by_cases c:n<1
  ·exact Zcs ZhM (Z6c p n m) (Z4 (Xa c)) (by rfl) (by rfl) hk
  ·exact Zcs ZhM (Z6d p n m) (Za (Xa (by omega)) (Z4 (Xb c))) (by rfl) (by rfl) hk
 ·cases h
end Go.Proofs.YtgefjidphfdhdaaGreatDoor
