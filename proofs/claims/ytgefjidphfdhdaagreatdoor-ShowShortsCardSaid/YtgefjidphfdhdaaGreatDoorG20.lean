/-
  RdF, RdG, ShB, ShC, ShQ, ShS, SiM, SiC, ShW, RunO, PtA, PtT
-/
import Derived.Test.YtgefjidphfdhdaaGreatDoorG19
import Derived.Laws.Closers25b
namespace Go.Proofs.YtgefjidphfdhdaaGreatDoor
open Go.Proofs.Tryz
open Go.IntKind
open Go.KRun Go.Nt Go.Rd
set_option maxRecDepth 100000
def Ze8:Hc:=ZY 67 ZqY (ZY 111 Z6Y hcT)
theorem Zyd:HcOk Ze8:=Zt func67 rfl ZiR (Zt func111 rfl ZwW Z2Z)
theorem Zez:TabOk (Zk prog Zf ZF Ze8):=Zh ZbY Zyd
def Z3a (F:Func):List Code:=[sP F 0,sP F 1]
def dnL (F:Func):Code:=cIn (cIn (sP F 2))
theorem ZoN:f57.body=some (ZW (Z3a f57) (.seq (.block 0 (.loop (dnL f57))) (sK f57 3))):=by kernel_rfl
def tX (n:Bool) (b:Int) (D:List UInt8) (k P:Int):Value:= .agg #[.bool n,.int .i64 b,bR D,.int .i64 k,.int .i64 P]
def tC9 (n:Bool) (b:Int) (D:List UInt8) (k P:Int):List Value×TypeId:=([.bool n,.int .i64 b,bR D,.int .i64 k,.int .i64 P],94)
def nZ:List Value×TypeId:=([.bool false,.int .i64 0,Zn],56)
def dnM (n:Bool) (b:Int) (D:List UInt8) (k P:Int):Hp:=⟨2,[nZ,tC9 n b D k P]⟩
def dnF (n:Bool) (b:Int) (D:List UInt8) (k P:Int) (l:List UInt8):List Value:=[tX n b D k P,pO 0,pO 1,bR l]
def dnN (n:Bool) (b:Int) (D:List UInt8) (k P:Int) (Z:List Value×TypeId) (L:List Nat):Hp:=⟨2+L.length,(L.map w16).reverse++[Z,tC9 n b D k P]⟩
theorem Z3b (n:Bool) (b:Int) (D:List UInt8) (k P:Int):Zg (evL (Zk prog Zf ZF Ze8) 100 (Z3a f57) ([tX n b D k P]++List.replicate 107 undef,⟨0,[]⟩,[]) ⟨[],[],[]⟩) 4 104 none (dnF n b D k P D) (dnM n b D k P) []:=by and_intros<;>kernel_rfl
def upD (n:Bool) (b:Int) (D:List UInt8) (k P:Int) (A B:Nat):Int:=(if 0>(i64.wrap (i64.wrap (((bl (vO (dnN n b D k P nZ [A,B]) (Z7 3) (d16 B).length):Nat):Int)-((bl (vO (dnN n b D k P nZ [A,B]) (Z7 2) (d16 A).length):Nat):Int))+80)) then 0 else (i64.wrap (i64.wrap (((bl (vO (dnN n b D k P nZ [A,B]) (Z7 3) (d16 B).length):Nat):Int)-((bl (vO (dnN n b D k P nZ [A,B]) (Z7 2) (d16 A).length):Nat):Int))+80)))
theorem Z93 (n:Bool) (b:Int) (D:List UInt8) (k P:Int) (g:Nat→Value):Zg (evC (Zk prog Zf ZF Ze8) 100 false (dnL f57) (dnF n b D k P []++tl 104 g,dnM n b D k P,[cmp false]) ⟨[],[],[]⟩) 4 104 (some (some 0)) (dnF n b D k P []) (dnM n b D k P) [(false,false)]:=by and_intros<;>kernel_rfl
theorem Z94 (n:Bool) (b:Int) (D:List UInt8) (k P:Int) (c:UInt8) (l:List UInt8) (g:Nat→Value):Zg (evC (Zk prog Zf ZF Ze8) 100 false (dnL f57) (dnF n b D k P (c::l)++tl 104 g,dnM n b D k P,[cmp true,cmp false]) ⟨[],[],[]⟩) 4 104 (some (some 0)) (dnF n b D k P (c::l)) (dnM n b D k P) [(lq8 c==48,false),(decide ((0:Int)≤0∧0<(c::l).length),true),(decide ((((c::l).length:Nat):Int)>0),true)]:=by and_intros<;>kernel_rfl
theorem Z95 (n:Bool) (b:Int) (D:List UInt8) (k P:Int) (c:UInt8) (l:List UInt8) (g:Nat→Value):Zg (evC (Zk prog Zf ZF Ze8) 100 false (dnL f57) (dnF n b D k P (c::l)++tl 104 g,dnM n b D k P,[cmp true,cmp true,sam true]) ⟨[],[],[]⟩) 4 104 none (dnF n b D k P l) (dnM n b D k P) [(decide ((0:Int)≤1∧(1:Int)≤(((c::l).length:Nat):Int)),true),(lq8 c==48,true),(decide ((0:Int)≤0∧0<(c::l).length),true),(decide ((((c::l).length:Nat):Int)>0),true)]:=by and_intros<;>kernel_rfl
theorem Z96 (n:Bool) (b:Int) (D:List UInt8) (k P:Int) (l:List UInt8) (g:Nat→Value):Zg (evC (Zk prog Zf ZF Ze8) 200 false (sK f57 3) (dnF n b D k P l++tl 104 g,dnM n b D k P,[sam true]) ⟨[],[],[]⟩) 3 105 (some none) [tX n b D k P,pO 0,pO 1] ⟨2,[bOf n 0 Zn,tC9 n b D k P]⟩ [((⟨⟨l⟩⟩:ByteArray)==⟨⟨[]⟩⟩,true)]:=by and_intros<;>kernel_rfl
theorem Z97 (n:Bool) (b:Int) (D:List UInt8) (k P:Int) (l:List UInt8) (V:Nat) (g:Nat→Value):Zg (evC (Zk prog Zf ZF Ze8) 200 false (sK f57 3) (dnF n b D k P l++tl 104 g,dnM n b D k P,[sam false,cmp true,num V]) ⟨[],[],[]⟩) 3 105 (some none) [tX n b D k P,pO 0,pO 1] (dnN n b D k P (bOf n (i64.wrap (P-i64.wrap (4*k))) (sOf 2 V)) [V]) [(decide (nmB 16 l=V),true),(ZrM 16 l,true),(b==16,true),((⟨⟨l⟩⟩:ByteArray)==⟨⟨[]⟩⟩,false)]:=by and_intros<;>kernel_rfl
theorem Z98 (n:Bool) (b:Int) (D:List UInt8) (k P:Int) (l:List UInt8) (g:Nat→Value):Zg (evC (Zk prog Zf ZF Ze8) 200 false (sK f57 3) (dnF n b D k P l++tl 104 g,dnM n b D k P,[sam false,cmp false,cmp true]) ⟨[],[],[]⟩) 3 105 (some none) [tX n b D k P,pO 0,pO 1] (dnN n b D k P (bOf n 3000 (sOf 2 1)) [1]) [(true,true),(decide ((i64.wrap ((i64.wrap (P-k))+((l.length:Nat):Int)))>320),true),(b==16,false),((⟨⟨l⟩⟩:ByteArray)==⟨⟨[]⟩⟩,false)]:=by and_intros<;>kernel_rfl
theorem Z99 (n:Bool) (b:Int) (D:List UInt8) (k P:Int) (l:List UInt8) (g:Nat→Value):Zg (evC (Zk prog Zf ZF Ze8) 200 false (sK f57 3) (dnF n b D k P l++tl 104 g,dnM n b D k P,[sam false,cmp false,cmp false,cmp true]) ⟨[],[],[]⟩) 3 105 (some none) [tX n b D k P,pO 0,pO 1] (dnN n b D k P (bOf n (-3000) (sOf 2 1)) [1]) [(true,true),(decide ((i64.wrap ((i64.wrap (P-k))+((l.length:Nat):Int)))< -340),true),(decide ((i64.wrap ((i64.wrap (P-k))+((l.length:Nat):Int)))>320),false),(b==16,false),((⟨⟨l⟩⟩:ByteArray)==⟨⟨[]⟩⟩,false)]:=by and_intros<;>kernel_rfl
theorem Z9A (n:Bool) (b:Int) (D:List UInt8) (k P:Int) (l:List UInt8) (A B V:Nat) (g:Nat→Value):Zg (evC (Zk prog Zf ZF Ze8) 200 false (sK f57 3) (dnF n b D k P l++tl 104 g,dnM n b D k P,[sam false,cmp false,cmp false,cmp false,num A,cmp true,cmp true,num B,num V]) ⟨[],[],[]⟩) 3 105 (some none) [tX n b D k P,pO 0,pO 1] (dnN n b D k P (bOf n 0 (sOf 4 V)) [A,B,V]) [(decide ((vO (dnN n b D k P nZ [A,B]) (Z7 2) (d16 A).length)*(vO (dnN n b D k P nZ [A,B]) (Z7 3) (d16 B).length)=V),true),(Zgg (dnN n b D k P nZ [A,B]) (Z7 2) (Z7 3) (d16 A).length (d16 A).length (d16 B).length (d16 B).length,true),(decide ((10:Int).toNat^(i64.wrap (P-k)).toNat=B),true),(ZiQ 10 (i64.wrap (P-k)),true),(decide ((10:Int)=0∧2≤(i64.wrap (P-k))),false),(decide ((i64.wrap (P-k))≥0),true),(decide (nmB 10 l=A),true),(ZrM 10 l,true),(decide ((i64.wrap ((i64.wrap (P-k))+((l.length:Nat):Int)))< -340),false),(decide ((i64.wrap ((i64.wrap (P-k))+((l.length:Nat):Int)))>320),false),(b==16,false),((⟨⟨l⟩⟩:ByteArray)==⟨⟨[]⟩⟩,false)]:=by and_intros<;>kernel_rfl
theorem Z9B (n:Bool) (b:Int) (D:List UInt8) (k P:Int) (l:List UInt8) (A B X Q R Y:Nat) (g:Nat→Value):Zg (evC (Zk prog Zf ZF Ze8) 200 false (sK f57 3) (dnF n b D k P l++tl 104 g,dnM n b D k P,[sam false,cmp false,cmp false,cmp false,num A,cmp false,cmp true,num B,cmp true,num X,num Q,num R,cmp true,num Y,cmp false]) ⟨[],[],[]⟩) 3 105 (some none) [tX n b D k P,pO 0,pO 1] (dnN n b D k P (bOf n (i64.wrap (i64.wrap (0-(upD n b D k P A B))-1)) (sOf 7 Y)) [A,B,X,Q,R,Y]) [(decide (((d16 R).length:Int)>0),false),(decide ((vO (dnN n b D k P nZ [A,B,X,Q,R]) (Z7 5) (d16 Q).length)*2^(1:Int).toNat=Y),true),(Zff (dnN n b D k P nZ [A,B,X,Q,R]) (Z7 5) (d16 Q).length (d16 Q).length 1,true),(decide (0<(d16 Q).length),true),(decide ((vO (dnN n b D k P nZ [A,B,X]) (Z7 4) (d16 X).length)/(vO (dnN n b D k P nZ [A,B,X]) (Z7 3) (d16 B).length)=Q∧(vO (dnN n b D k P nZ [A,B,X]) (Z7 4) (d16 X).length) % (vO (dnN n b D k P nZ [A,B,X]) (Z7 3) (d16 B).length)=R),true),(Zj4 (dnN n b D k P nZ [A,B,X]) (Z7 4) (Z7 3) (d16 X).length (d16 X).length (d16 B).length (d16 B).length,true),(decide ((vO (dnN n b D k P nZ [A,B]) (Z7 2) (d16 A).length)*2^(upD n b D k P A B).toNat=X),true),(Zff (dnN n b D k P nZ [A,B]) (Z7 2) (d16 A).length (d16 A).length (upD n b D k P A B),true),(decide (0<(d16 A).length),true),(zx (dnN n b D k P nZ [A,B]) (Z7 2) (d16 A).length (d16 A).length && ZcQ (Zm (dnN n b D k P nZ [A,B]) (Z7 2) (d16 A).length) && Nat.blt (d16 A).length 1073741824,true),(zx (dnN n b D k P nZ [A,B]) (Z7 3) (d16 B).length (d16 B).length && ZcQ (Zm (dnN n b D k P nZ [A,B]) (Z7 3) (d16 B).length) && Nat.blt (d16 B).length 1073741824,true),(decide ((10:Int).toNat^(i64.wrap (0-(i64.wrap (P-k)))).toNat=B),true),(ZiQ 10 (i64.wrap (0-(i64.wrap (P-k)))),true),(decide ((10:Int)=0∧2≤(i64.wrap (0-(i64.wrap (P-k))))),false),(decide ((i64.wrap (P-k))≥0),false),(decide (nmB 10 l=A),true),(ZrM 10 l,true),(decide ((i64.wrap ((i64.wrap (P-k))+((l.length:Nat):Int)))< -340),false),(decide ((i64.wrap ((i64.wrap (P-k))+((l.length:Nat):Int)))>320),false),(b==16,false),((⟨⟨l⟩⟩:ByteArray)==⟨⟨[]⟩⟩,false)]:=by and_intros<;>kernel_rfl
theorem Z9C (n:Bool) (b:Int) (D:List UInt8) (k P:Int) (l:List UInt8) (A B X Q R Y V:Nat) (g:Nat→Value):Zg (evC (Zk prog Zf ZF Ze8) 200 false (sK f57 3) (dnF n b D k P l++tl 104 g,dnM n b D k P,[sam false,cmp false,cmp false,cmp false,num A,cmp false,cmp true,num B,cmp true,num X,num Q,num R,cmp true,num Y,cmp true,cmp true,num V]) ⟨[],[],[]⟩) 3 105 (some none) [tX n b D k P,pO 0,pO 1] (dnN n b D k P (bOf n (i64.wrap (i64.wrap (0-(upD n b D k P A B))-1)) (sOf 9 V)) [A,B,X,Q,R,Y,1,V]) [(decide ((vO (dnN n b D k P nZ [A,B,X,Q,R,Y,1]) (Z7 7) (d16 Y).length)+(vO (dnN n b D k P nZ [A,B,X,Q,R,Y,1]) (Z7 8) (d16 1).length)=V),true),(ZL (dnN n b D k P nZ [A,B,X,Q,R,Y,1]) (Z7 7) (Z7 8) (d16 Y).length (d16 Y).length (d16 1).length (d16 1).length,true),(decide (0<(d16 Y).length∨0<(d16 1).length),true),(true,true),(decide (((d16 R).length:Int)>0),true),(decide ((vO (dnN n b D k P nZ [A,B,X,Q,R]) (Z7 5) (d16 Q).length)*2^(1:Int).toNat=Y),true),(Zff (dnN n b D k P nZ [A,B,X,Q,R]) (Z7 5) (d16 Q).length (d16 Q).length 1,true),(decide (0<(d16 Q).length),true),(decide ((vO (dnN n b D k P nZ [A,B,X]) (Z7 4) (d16 X).length)/(vO (dnN n b D k P nZ [A,B,X]) (Z7 3) (d16 B).length)=Q∧(vO (dnN n b D k P nZ [A,B,X]) (Z7 4) (d16 X).length) % (vO (dnN n b D k P nZ [A,B,X]) (Z7 3) (d16 B).length)=R),true),(Zj4 (dnN n b D k P nZ [A,B,X]) (Z7 4) (Z7 3) (d16 X).length (d16 X).length (d16 B).length (d16 B).length,true),(decide ((vO (dnN n b D k P nZ [A,B]) (Z7 2) (d16 A).length)*2^(upD n b D k P A B).toNat=X),true),(Zff (dnN n b D k P nZ [A,B]) (Z7 2) (d16 A).length (d16 A).length (upD n b D k P A B),true),(decide (0<(d16 A).length),true),(zx (dnN n b D k P nZ [A,B]) (Z7 2) (d16 A).length (d16 A).length && ZcQ (Zm (dnN n b D k P nZ [A,B]) (Z7 2) (d16 A).length) && Nat.blt (d16 A).length 1073741824,true),(zx (dnN n b D k P nZ [A,B]) (Z7 3) (d16 B).length (d16 B).length && ZcQ (Zm (dnN n b D k P nZ [A,B]) (Z7 3) (d16 B).length) && Nat.blt (d16 B).length 1073741824,true),(decide ((10:Int).toNat^(i64.wrap (0-(i64.wrap (P-k)))).toNat=B),true),(ZiQ 10 (i64.wrap (0-(i64.wrap (P-k)))),true),(decide ((10:Int)=0∧2≤(i64.wrap (0-(i64.wrap (P-k))))),false),(decide ((i64.wrap (P-k))≥0),false),(decide (nmB 10 l=A),true),(ZrM 10 l,true),(decide ((i64.wrap ((i64.wrap (P-k))+((l.length:Nat):Int)))< -340),false),(decide ((i64.wrap ((i64.wrap (P-k))+((l.length:Nat):Int)))>320),false),(b==16,false),((⟨⟨l⟩⟩:ByteArray)==⟨⟨[]⟩⟩,false)]:=by and_intros<;>kernel_rfl
end Go.Proofs.YtgefjidphfdhdaaGreatDoor
namespace Go.Proofs.YtgefjidphfdhdaaGreatDoor
open Go.Proofs.Tryz
open Go.IntKind
open Go.KRun Go.Nt Go.Rd Go.Rn
set_option maxRecDepth 100000
def dnS (n:Bool) (b:Int) (D:List UInt8) (k P:Int) (l:List UInt8) (y:Lf):Prop:=trZ l=trZ D∧∃ g,y.1=dnF n b D k P l++tl 104 g∧y.2.1=dnM n b D k P
theorem Zsu {n:Bool}{b:Int}{D:List UInt8}{k P:Int}(r:Nat) (y:Lf) (h:∃ l,r=l.length∧dnS n b D k P l y):
  RunsW (Zk prog Zf ZF Ze8) (dnL f57) y fun e z=>match e with | none=>∃ r',r'<r∧∃ l,r'=l.length∧dnS n b D k P l z | some none=>False | some (some id')=>id'=0∧dnS n b D k P (trZ D) z:=by
 obtain⟨l,hr,hz,g,ht,hh⟩:=h;obtain⟨t,h',sc⟩:=y;simp only at ht hh;subst ht hh;cases l with
 | nil=>
  refine (Zb (s0:=sc) Zez (Z93 n b D k P g) (Z5 rfl)).mono fun e z he=> ?_;obtain⟨rfl,⟨g',z1⟩,z2⟩:=he;have e0:trZ D=[]:=hz.symm;rw[e0];exact⟨rfl,e0.symm ▸ rfl,g',z1,z2⟩
 | cons c l=>
  have l0:decide ((((c::l).length:Nat):Int)>0)=true:=Xa (by rw[List.length_cons];omega);have l1:decide ((0:Int)≤0∧0<(c::l).length)=true:=Xa ⟨by omega,by rw[List.length_cons];omega⟩;by_cases hc:lq8 c=48
  ·refine (Zb (s0:=sc) Zez (Z95 n b D k P c l g) (Za (Xa ⟨by omega,by rw[List.length_cons];omega⟩) (Za (za hc) (Za l1 (Z5 l0))))).mono fun e z he=> ?_;obtain⟨rfl,⟨g',z1⟩,z2⟩:=he;rw[ZcC,if_pos hc] at hz;exact⟨l.length,by rw[hr,List.length_cons];omega,l,rfl,hz,g',z1,z2⟩
  ·refine (Zb (s0:=sc) Zez (Z94 n b D k P c l g) (Za (ZR hc) (Za l1 (Z5 l0)))).mono fun e z he=> ?_;obtain⟨rfl,⟨g',z1⟩,z2⟩:=he;have e0:trZ D=c::l:=by rw[← hz,ZcC,if_neg hc]
   rw[e0];refine⟨rfl,?_,g',z1,z2⟩;rw[e0,ZcC,if_neg hc]
def Zye (b:Int) (D:List UInt8) (k P:Int):Bool:=decide ((b=10∨b=16)∧D.length≤10000∧(0≤k∧k≤10000)∧ -2000000≤P∧P≤2000000) && Zb2 b D
def dnZ (n:Bool) (V:Nat) (E:Int) (e:Ex) (z:Lf):Prop:=(e=none∨e=some none)∧∃ j,ZV prog f57 z.1 z.2.1=some (vRN n E (sOf j V))∧∃ r,z.2.1.blk? j=some (wU (d16 V)++r,tU)
theorem Zcg {A j:Nat}(h:A<2^j):(d16 A).length≤j/16+1:=Zco (Nat.lt_of_lt_of_le h (Nat.pow_le_pow_right (by omega) (by omega)))
theorem ZaC {A:Nat}(h:0<A):0<(d16 A).length:=Zey.2 h
theorem Z3c {h:Hp}{b V:Nat}(hb:h.blk? b=some (wU (d16 V),tU)) (hl:(d16 V).length<100000):(zx h (Z7 b) (d16 V).length (d16 V).length && ZcQ (Zm h (Z7 b) (d16 V).length) && Nat.blt (d16 V).length 1073741824)=true:=by
 unfold Z7;rw[ZJ hb (by omega),Zan hb,show ZcQ (d16 V)=true from ZbH (Zc2 (by omega) _),Zl.2 (by omega)];rfl
theorem Z81 {h:Hp}{b V:Nat}{i:Int}(hb:h.blk? b=some (wU (d16 V),tU)) (hl:(d16 V).length<100000) (h0:0≤i) (h1:i<100000):Zff h (Z7 b) (d16 V).length (d16 V).length i=true:=by
 unfold Zff Z7;rw[ZJ hb (by omega),Zaa hb,Zl.2 (by omega),Xa h0];rfl
theorem Zyf {n:Bool}{b:Int}{D:List UInt8}{k P:Int}{c:UInt8}{l:List UInt8}(hb:b=10∨b=16) (hD:(c::l).length≤10000) (hk:0≤k∧k≤10000) (hP: -2000000≤P∧P≤2000000) (hA:Zb2 b (c::l)=true) (hc:0<zy (lq8 c) b) (g:Nat→Value) (s:List Dec):
  RunsW (Zk prog Zf ZF Ze8) (sK f57 3) (dnF n b D k P (c::l)++tl 104 g,dnM n b D k P,s) (dnZ n (dnA b (c::l) k P).1 (dnA b (c::l) k P).2):=by
 have hE:((⟨⟨c::l⟩⟩:ByteArray)==⟨⟨[]⟩⟩)=false:=by rw[ZeX];exact Xb (by simp)
 have hby:byR (c::l) 0=lq8 c:=rfl;have hok:ZrM b (c::l)=true:=by
  unfold ZrM;rw[hA,hby,Xa hc,Xa ⟨hb,by omega⟩];rfl
 have hnp:=ZhJ hb (r:=l) hc;have hnb:=Znq hb (c::l);unfold dnA;by_cases h16:b=16
 ·rw[if_pos h16];subst h16;have hg:=Z97 n 16 D k P (c::l) (nmB 16 (c::l)) g;rw[Zw (n:=4*k) (by omega) (by omega),Zw (by omega) (by omega)] at hg;refine (Zb (s0:=s) Zez hg (Za (Xa rfl) (Za hok (Za (by decide) (Z5 hE))))).mono fun e z he=> ?_;obtain⟨rfl,⟨g',z1⟩,z2⟩:=he;exact⟨.inr rfl,2,by rw[z1,z2];rfl,[],by rw[z2,List.append_nil];rfl⟩
 rw[if_neg h16];have h10:b=10:=by omega
 subst h10;have k16:((10:Int)==16)=false:=by decide
 obtain⟨L,hL⟩:∃ L,L=(c::l).length:=⟨_,rfl⟩;have ePl:i64.wrap (P-k)=P-k:=Zw (by omega) (by omega);have eSm:i64.wrap (P-k+((L:Nat):Int))=P-k+((L:Nat):Int):=Zw (by omega) (by omega);by_cases ho:320<P-k+(((c::l).length:Nat):Int)
 ·rw[if_pos ho];have hg:=Z98 n 10 D k P (c::l) g;rw[ePl,← hL,eSm] at hg;rw[← hL] at ho;refine (Zb (s0:=s) Zez hg (Za rfl (Za (Xa (by omega)) (Za k16 (Z5 hE))))).mono fun e z he=> ?_;obtain⟨rfl,⟨g',z1⟩,z2⟩:=he;exact⟨.inr rfl,2,by rw[z1,z2];rfl,[],by rw[z2,List.append_nil];rfl⟩
 rw[if_neg ho];by_cases hu:P-k+(((c::l).length:Nat):Int)< -340
 ·rw[if_pos hu];have hg:=Z99 n 10 D k P (c::l) g;rw[ePl,← hL,eSm] at hg;rw[← hL] at ho hu;refine (Zb (s0:=s) Zez hg (Za rfl (Za (Xa (by omega)) (Za (Xb (by omega)) (Za k16 (Z5 hE)))))).mono fun e z he=> ?_;obtain⟨rfl,⟨g',z1⟩,z2⟩:=he;exact⟨.inr rfl,2,by rw[z1,z2];rfl,[],by rw[z2,List.append_nil];rfl⟩
 rw[if_neg hu];rw[← hL] at ho hu hnb hD;obtain⟨A,hAA⟩:∃ A,A=nmB 10 (c::l):=⟨_,rfl⟩;rw[← hAA] at hnp hnb ⊢;have lA:=Zcg hnb;have b2:Zx [(decide (nmB 10 (c::l)=A),true),(ZrM 10 (c::l),true),(decide (P-k+((L:Nat):Int)< -340),false),(decide (P-k+((L:Nat):Int)>320),false),((10:Int)==16,false),((⟨⟨c::l⟩⟩:ByteArray)==⟨⟨[]⟩⟩,false)]:=Za (Xa hAA.symm) (Za hok (Za (Xb hu) (Za (Xb (by omega)) (Za k16 (Z5 hE)))));by_cases hp:0≤P-k
 ·rw[if_pos hp];obtain⟨B,hB⟩:∃ B,B=10^(P-k).toNat:=⟨_,rfl⟩;rw[← hB];have tb:=ZdD (P-k).toNat;rw[← hB] at tb;have lB:=Zcg tb;have hg:=Z9A n 10 D k P (c::l) A B (A*B) g;rw[ePl,← hL,eSm] at hg;refine (Zb (s0:=s) Zez hg (Za (Xa (by rw[Zd5 (V:=A) rfl,Zd5 (V:=B) rfl])) (Za (oMu (V:=A) (W:=B) rfl rfl (by omega) (by omega)) (Za (Xa hB.symm) (Za (Xa ⟨by omega,by omega,by omega,by omega⟩) (Za (Xb (by omega)) (Za (Xa hp) b2))))))).mono fun e z he=> ?_;obtain⟨rfl,⟨g',z1⟩,z2⟩:=he;exact⟨.inr rfl,4,by rw[z1,z2];rfl,[],by rw[z2,List.append_nil];rfl⟩
 rw[if_neg hp];obtain⟨B,hB⟩:∃ B,B=10^(k-P).toNat:=⟨_,rfl⟩;rw[← hB];have tb:=ZdD (k-P).toNat;have B0:0<B:=by rw[hB];exact Nat.pow_pos (by omega)
 rw[← hB] at tb;have lB:=Zcg tb;have eNp:i64.wrap (0-(P-k))=k-P:=by rw[Zw (by omega) (by omega)];omega
 have vA:vO (dnN n 10 D k P nZ [A,B]) (Z7 2) (d16 A).length=A:=Zd5 (V:=A) rfl;have vB:vO (dnN n 10 D k P nZ [A,B]) (Z7 3) (d16 B).length=B:=Zd5 (V:=B) rfl;have bA:=len_le hnb;have bB:=len_le tb;have eU:upD n 10 D k P A B=((upN A B:Nat):Int):=by
  unfold upD;rw[vA,vB,Zbi,Zbi,Zw (n:=((bitLen B:Nat):Int)-((bitLen A:Nat):Int)) (by omega) (by omega),Zw (by omega) (by omega)];unfold upN;split<;>omega
 have hu1:upN A B≤41600:=by unfold upN;omega
 have hbig:=Zjd (A:=A) (B:=B) (by omega);obtain⟨X,hX⟩:∃ X,X=A*2^upN A B:=⟨_,rfl⟩;have hXb:X<2^(4*L+upN A B):=by rw[hX,Nat.pow_add];exact Nat.mul_lt_mul_of_pos_right hnb (Nat.pow_pos (by omega))
 have lX:=Zcg hXb;have X0:0<X:=by rw[hX];exact Nat.mul_pos hnp (Nat.pow_pos (by omega))
 rw[← hX] at hbig;have hQX:X/B≤X:=Nat.div_le_self _ _;have hQ0:0<X/B:=Nat.div_pos (Nat.le_trans (Nat.le_mul_of_pos_left B (by decide)) hbig) B0;have hRX:X % B≤X:=Nat.mod_le _ _;have lQ:=Zcg (Nat.lt_of_le_of_lt hQX hXb);have lR:=Zcg (Nat.lt_of_le_of_lt hRX hXb);have hYb:X/B*2+1<2^(4*L+upN A B+2):=by rw[Nat.pow_add];omega
 have lY:=Zcg (Nat.lt_of_le_of_lt (show X/B*2≤X/B*2+1 by omega) hYb);have lV:=Zcg hYb;obtain⟨Q,hQ⟩:∃ Q,Q=X/B:=⟨_,rfl⟩;obtain⟨R,hR⟩:∃ R,R=X % B:=⟨_,rfl⟩;rw[← hQ] at hQ0 lQ lY lV;rw[← hR] at lR;have eV:dvK A B (upN A B)=2*Q+(if R=0 then 0 else 1):=by unfold dvK;rw[← hX,← hQ,← hR]
 have eE:i64.wrap (i64.wrap (0-((upN A B:Nat):Int))-1)= -((upN A B:Nat):Int)-1:=by
  rw[Zw (n:=0-((upN A B:Nat):Int)) (by omega) (by omega),Zw (by omega) (by omega)];omega
 have ln2:=Z3c (h:=dnN n 10 D k P nZ [A,B]) (b:=2) (V:=A) rfl (by omega);have ln3:=Z3c (h:=dnN n 10 D k P nZ [A,B]) (b:=3) (V:=B) rfl (by omega);have mid:=Za (Xa (show vO (dnN n 10 D k P nZ [A,B,X,Q,R]) (Z7 5) (d16 Q).length*2^(1:Int).toNat=Q*2 by rw[Zd5 (V:=Q) rfl];rfl)) (Za (Z81 (h:=dnN n 10 D k P nZ [A,B,X,Q,R]) (b:=5) (V:=Q) (i:=1) rfl (by omega) (by omega) (by omega)) (Za (Xa (ZaC hQ0)) (Za (Xa (show vO (dnN n 10 D k P nZ [A,B,X]) (Z7 4) (d16 X).length/vO (dnN n 10 D k P nZ [A,B,X]) (Z7 3) (d16 B).length=Q∧vO (dnN n 10 D k P nZ [A,B,X]) (Z7 4) (d16 X).length % vO (dnN n 10 D k P nZ [A,B,X]) (Z7 3) (d16 B).length=R by rw[Zd5 (V:=X) rfl,Zd5 (V:=B) rfl];exact⟨hQ.symm,hR.symm⟩)) (Za (oPa (h:=dnN n 10 D k P nZ [A,B,X]) (b:=4) (b':=3) (V:=X) (W:=B) rfl rfl (by omega) (by omega) (ZaC X0) (ZaC B0)) (Za (Xa (show vO (dnN n 10 D k P nZ [A,B]) (Z7 2) (d16 A).length*2^(((upN A B:Nat):Int)).toNat=X by rw[vA,Xg,hX])) (Za (Z81 (h:=dnN n 10 D k P nZ [A,B]) (b:=2) (V:=A) (i:=((upN A B:Nat):Int)) rfl (by omega) (by omega) (by omega)) (Za (Xa (ZaC hnp)) (Za ln2 (Za ln3 (Za (Xa (show (10:Int).toNat^(k-P).toNat=B from hB.symm)) (Za (show ZiQ 10 (k-P)=true from Xa ⟨by omega,by omega,by omega,by omega⟩) (Za (Xb (show ¬ ((10:Int)=0∧2≤k-P) by omega)) (Za (Xb (show ¬ P-k≥0 by omega)) b2)))))))))))));by_cases hR0:R=0
 ·have hg:=Z9B n 10 D k P (c::l) A B X Q R (Q*2) g;rw[eU,eE,ePl,eNp,← hL,eSm] at hg;rw[eV,if_pos hR0,show 2*Q+0=Q*2 by omega];refine (Zb (s0:=s) Zez hg (Za (Xb (by rw[hR0,Zkm];simp)) mid)).mono fun e z he=> ?_;obtain⟨rfl,⟨g',z1⟩,z2⟩:=he;exact⟨.inr rfl,7,by rw[z1,z2];rfl,[],by rw[z2,List.append_nil];rfl⟩
 ·have hg:=Z9C n 10 D k P (c::l) A B X Q R (Q*2) (Q*2+1) g;rw[eU,eE,ePl,eNp,← hL,eSm] at hg;rw[eV,if_neg hR0,show 2*Q+1=Q*2+1 by omega];have l1:=Zcg (A:=1) (j:=1) (by decide);refine (Zb (s0:=s) Zez hg (Za (Xa (by rw[Zd5 (V:=Q*2) rfl,Zd5 (V:=1) rfl])) (Za (Z91 (V:=Q*2) (W:=1) rfl rfl (by omega) (by omega)) (Za (Xa (.inl (ZaC (by omega)))) (Za rfl (Za (Xa (by have:=ZaC (A:=R) (by omega);omega)) mid)))))).mono fun e z he=> ?_;obtain⟨rfl,⟨g',z1⟩,z2⟩:=he;exact⟨.inr rfl,9,by rw[z1,z2];rfl,[],by rw[z2,List.append_nil];rfl⟩
end Go.Proofs.YtgefjidphfdhdaaGreatDoor
namespace Go.Proofs.YtgefjidphfdhdaaGreatDoor
open Go.Proofs.Tryz
open Go.IntKind
open Go.KRun Go.Nt Go.Wd Go.Rn Go.Rd
set_option maxRecDepth 100000
set_option linter.unusedVariables false
def RowV (h:Hp) (p:Option Addr) (n c V:Nat):Prop:=zx h p n c=true∧Zm h p n=d16 V∧n<100000
section
variable {h : Hp} {p q : Option Addr} {n c n' c' V W : Nat}
theorem RowV.vo (r:RowV h p n c V):vO h p n=V:=by
 unfold vO;rw[r.2.1];exact Zc1 (by omega) V
theorem RowV.dg (r:RowV h p n c V):dgB (Zm h p n)=true:=by
 rw[r.2.1];exact Zbv (Zc2 (by omega) V).1
theorem RowV.can (r:RowV h p n c V):ZcQ (Zm h p n)=true:=by
 rw[r.2.1];exact ZbH (Zc2 (by omega) V)
theorem RowV.pos (r:RowV h p n c V) (hV:0<V):0<n:=by
 have:=z6 r.1;rw[r.2.1] at this;have:=Zey.2 hV;omega
theorem RowV.at {b:Nat}(hb:h.blk? b=some (w16 V)) (hl:(d16 V).length<100000):RowV h (Z7 b) (d16 V).length (d16 V).length V:=⟨ZJ hb (by omega),Zan hb,hl⟩
theorem RowV.sh (r:RowV h p n c V) {k:Int}(h0:0≤k) (h1:k<100000):Zff h p n c k=true:=by
 unfold Zff;have:=r.2.2;rw[r.1,r.dg,Zl.2 (by omega),Xa h0];rfl
theorem RowV.mu (r:RowV h p n c V) (r':RowV h q n' c' W):Zgg h p q n c n' c'=true:=by
 unfold Zgg;have:=r.2.2;have:=r'.2.2;rw[r.1,r.dg,r'.1,r'.dg,Zl.2 (by omega)];rfl
theorem RowV.two (r:RowV h p n c V) (r':RowV h q n' c' W):ZL h p q n c n' c'=true:=by
 unfold ZL;have:=r.2.2;have:=r'.2.2;rw[r.1,r.dg,r'.1,r'.dg,Zl.2 (by omega)];rfl
end
theorem ZbO {a b:Nat}:decide (zY a b≥0)=decide (b≤a):=by
 unfold zY;by_cases h:a<b
 ·rw[if_pos h,Xb (by omega),Xb (by omega)]
 ·rw[if_neg h,Xa (p:=b≤a) (by omega)];split<;>rfl
def ZdK:Hc:=ZY 67 ZqY (ZY 31 Z4v (ZY 33 Zj3 (ZY 36 Zjx (ZY 35 Zjy (ZY 66 ZiH (ZY 34 Zxe (ZY 65 ZlY hcN)))))))
theorem ZoO:HcOk ZdK:=Zt func67 rfl ZiR (Zt func31 rfl ZoL (Zt func33 rfl Zhb (Zt func36 rfl ZgV (Zt func35 rfl ZgW (Zt func66 rfl Zg9 (Zt func34 rfl Zex (Zt func65 rfl Zf0 zp)))))))
theorem ZfW:TabOk (Zk prog Zf Zo ZdK):=Zh Zd ZoO
def Z3d (F:Func):List Code:=[sP F 0,sP F 1,sP F 2]
def Zie (F:Func):Code:=cIn (cIn (sK F 3))
theorem Zsv:f29.body=some (Zs f29):=by kernel_rfl
theorem ZoP:Zs f29=ZW (Z3d f29) (.block 0 (.loop (Zie f29))):=by kernel_rfl
def Ze0 (neg:Bool) (E top N:Int) (o n c:Nat):List Value:=[vRN neg E (sl 0 o n c),.pointer (some ⟨1,0,none⟩),.int .i64 0,.int .i64 top,.int .i64 N]
def Zac (neg:Bool) (E:Int) (o n c:Nat) (l:List Value) (L:List Nat):Hp:=⟨3+L.length,(L.map w16).reverse++[bX neg E o n c,bX neg E o n c,(l,tR)]⟩
def ZyW (neg:Bool) (E:Int) (o n c:Nat) (l:List Value):Int:=i64.wrap (E+((bl (vO (hX neg E o n c l) (aX o) n):Nat):Int))
theorem Zyg (neg:Bool) (E:Int) (o n c:Nat) (l:List Value):Zg (evL (Zk prog Zf Zo ZdK) 200 (Z3d f29) ([vRN neg E (sl 0 o n c)]++List.replicate 33 undef,⟨1,[(l,tR)]⟩,[]) ⟨[],[],[]⟩) 5 29 none (Ze0 neg E (ZyW neg E o n c l) (i64.wrap (i64.wrap ((i64.wrap (ZyW neg E o n c l*30103)).tdiv 100000)+2)) o n c) (hX neg E o n c l) [(zx (hX neg E o n c l) (aX o) n c && ZcQ (Zm (hX neg E o n c l) (aX o) n) && Nat.blt n 1073741824,true)]:=by and_intros<;>kernel_rfl
def Z7L (neg:Bool) (E k ke kp K:Int) (o n c:Nat) (l:List Value) (A B V:Nat):Log:=[(decide (zY (vO (Zac neg E o n c l [1,A,B,V]) (Z7 6) (d16 V).length) (vO (Zac neg E o n c l [1,A,B,V]) (Z7 3) (d16 1).length)=K),true),(ZL (Zac neg E o n c l [1,A,B,V]) (Z7 6) (Z7 3) (d16 V).length (d16 V).length (d16 1).length (d16 1).length,true),(decide (vO (Zac neg E o n c l [1,A,B]) (Z7 4) (d16 A).length*vO (Zac neg E o n c l [1,A,B]) (Z7 5) (d16 B).length=V),true),(Zgg (Zac neg E o n c l [1,A,B]) (Z7 4) (Z7 5) (d16 A).length (d16 A).length (d16 B).length (d16 B).length,true),(decide ((10:Int).toNat^kp.toNat=B),true),(ZiQ 10 kp,true),(decide ((10:Int)=0∧2≤kp),false),(decide (k≥0),true),(decide (vO (Zac neg E o n c l [1]) (aX o) n*2^ke.toNat=A),true),(Zff (Zac neg E o n c l [1]) (aX o) n c ke,true),(decide (0<n),true),(decide (E≥0),true),(true,true)]
theorem Zyh (neg:Bool) (E top N K:Int) (o n c:Nat) (l:List Value) (A B V:Nat) (g:Nat→Value):Zg (evC (Zk prog Zf Zo ZdK) 200 false (Zie f29) (Ze0 neg E top N o n c++tl 29 g,hX neg E o n c l,[cmp true,cmp true,num A,cmp true,cmp true,num B,num V,num K,cmp true]) ⟨[],[],[]⟩) 6 28 (some none) ([vRN neg E (sl 0 o n c),.pointer (some ⟨1,0,none⟩),.int .i64 N,.int .i64 top,.int .i64 N]++[.slice (Z7 6) (d16 V).length (d16 V).length]) (Zac neg E o n c l [1,A,B,V]) ((decide (K≥0),true)::Z7L neg E (i64.wrap (0-N)) E (i64.wrap (0-N)) K o n c l A B V):=by and_intros<;>kernel_rfl
theorem Zyi (neg:Bool) (E top N K:Int) (o n c:Nat) (l:List Value) (A B V:Nat) (g:Nat→Value):Zg (evC (Zk prog Zf Zo ZdK) 200 false (Zie f29) (Ze0 neg E top N o n c++tl 29 g,hX neg E o n c l,[cmp true,cmp true,num A,cmp true,cmp true,num B,num V,num K,cmp false,cmp false]) ⟨[],[],[]⟩) 6 28 none (Ze0 neg E top (i64.wrap (N-1)) o n c++[.slice (Z7 6) (d16 V).length (d16 V).length]) (Zac neg E o n c l [1,A,B,V]) ((decide (i64.wrap (N-1)< -400),false)::(decide (K≥0),false)::Z7L neg E (i64.wrap (0-N)) E (i64.wrap (0-N)) K o n c l A B V):=by and_intros<;>kernel_rfl
def Z7M (neg:Bool) (E k ke kp K:Int) (o n c:Nat) (l:List Value) (A B V:Nat):Log:=[(decide (zY (vO (Zac neg E o n c l [1,A,B,V]) (Z7 4) (d16 A).length) (vO (Zac neg E o n c l [1,A,B,V]) (Z7 6) (d16 V).length)=K),true),(ZL (Zac neg E o n c l [1,A,B,V]) (Z7 4) (Z7 6) (d16 A).length (d16 A).length (d16 V).length (d16 V).length,true),(decide (vO (Zac neg E o n c l [1,A,B]) (Z7 3) (d16 1).length*vO (Zac neg E o n c l [1,A,B]) (Z7 5) (d16 B).length=V),true),(Zgg (Zac neg E o n c l [1,A,B]) (Z7 3) (Z7 5) (d16 1).length (d16 1).length (d16 B).length (d16 B).length,true),(decide ((10:Int).toNat^kp.toNat=B),true),(ZiQ 10 kp,true),(decide ((10:Int)=0∧2≤kp),false),(decide (k≥0),false),(decide (vO (Zac neg E o n c l [1]) (aX o) n*2^ke.toNat=A),true),(Zff (Zac neg E o n c l [1]) (aX o) n c ke,true),(decide (0<n),true),(decide (E≥0),true),(true,true)]
theorem Zyj (neg:Bool) (E top N K:Int) (o n c:Nat) (l:List Value) (A B V:Nat) (g:Nat→Value):Zg (evC (Zk prog Zf Zo ZdK) 200 false (Zie f29) (Ze0 neg E top N o n c++tl 29 g,hX neg E o n c l,[cmp true,cmp true,num A,cmp false,cmp true,num B,num V,num K,cmp true]) ⟨[],[],[]⟩) 6 28 (some none) ([vRN neg E (sl 0 o n c),.pointer (some ⟨1,0,none⟩),.int .i64 N,.int .i64 top,.int .i64 N]++[.slice (Z7 4) (d16 A).length (d16 A).length]) (Zac neg E o n c l [1,A,B,V]) ((decide (K≥0),true)::Z7M neg E (i64.wrap (0-N)) E (i64.wrap (0-i64.wrap (0-N))) K o n c l A B V):=by and_intros<;>kernel_rfl
theorem Zyk (neg:Bool) (E top N K:Int) (o n c:Nat) (l:List Value) (A B V:Nat) (g:Nat→Value):Zg (evC (Zk prog Zf Zo ZdK) 200 false (Zie f29) (Ze0 neg E top N o n c++tl 29 g,hX neg E o n c l,[cmp true,cmp true,num A,cmp false,cmp true,num B,num V,num K,cmp false,cmp false]) ⟨[],[],[]⟩) 6 28 none (Ze0 neg E top (i64.wrap (N-1)) o n c++[.slice (Z7 4) (d16 A).length (d16 A).length]) (Zac neg E o n c l [1,A,B,V]) ((decide (i64.wrap (N-1)< -400),false)::(decide (K≥0),false)::Z7M neg E (i64.wrap (0-N)) E (i64.wrap (0-i64.wrap (0-N))) K o n c l A B V):=by and_intros<;>kernel_rfl
def Z7N (neg:Bool) (E k ke kp K:Int) (o n c:Nat) (l:List Value) (A B V:Nat):Log:=[(decide (zY (vO (Zac neg E o n c l [1,A,B,V]) (Z7 6) (d16 V).length) (vO (Zac neg E o n c l [1,A,B,V]) (Z7 4) (d16 A).length)=K),true),(ZL (Zac neg E o n c l [1,A,B,V]) (Z7 6) (Z7 4) (d16 V).length (d16 V).length (d16 A).length (d16 A).length,true),(decide (vO (Zac neg E o n c l [1,A,B]) (aX o) n*vO (Zac neg E o n c l [1,A,B]) (Z7 5) (d16 B).length=V),true),(Zgg (Zac neg E o n c l [1,A,B]) (aX o) (Z7 5) n c (d16 B).length (d16 B).length,true),(decide ((10:Int).toNat^kp.toNat=B),true),(ZiQ 10 kp,true),(decide ((10:Int)=0∧2≤kp),false),(decide (k≥0),true),(decide (vO (Zac neg E o n c l [1]) (Z7 3) (d16 1).length*2^ke.toNat=A),true),(Zff (Zac neg E o n c l [1]) (Z7 3) (d16 1).length (d16 1).length ke,true),(decide (0<(d16 1).length),true),(decide (E≥0),false),(true,true)]
theorem Zyl (neg:Bool) (E top N K:Int) (o n c:Nat) (l:List Value) (A B V:Nat) (g:Nat→Value):Zg (evC (Zk prog Zf Zo ZdK) 200 false (Zie f29) (Ze0 neg E top N o n c++tl 29 g,hX neg E o n c l,[cmp false,cmp true,num A,cmp true,cmp true,num B,num V,num K,cmp true]) ⟨[],[],[]⟩) 6 28 (some none) ([vRN neg E (sl 0 o n c),.pointer (some ⟨1,0,none⟩),.int .i64 N,.int .i64 top,.int .i64 N]++[.slice (Z7 6) (d16 V).length (d16 V).length]) (Zac neg E o n c l [1,A,B,V]) ((decide (K≥0),true)::Z7N neg E (i64.wrap (0-N)) (i64.wrap (0-E)) (i64.wrap (0-N)) K o n c l A B V):=by and_intros<;>kernel_rfl
theorem Zym (neg:Bool) (E top N K:Int) (o n c:Nat) (l:List Value) (A B V:Nat) (g:Nat→Value):Zg (evC (Zk prog Zf Zo ZdK) 200 false (Zie f29) (Ze0 neg E top N o n c++tl 29 g,hX neg E o n c l,[cmp false,cmp true,num A,cmp true,cmp true,num B,num V,num K,cmp false,cmp false]) ⟨[],[],[]⟩) 6 28 none (Ze0 neg E top (i64.wrap (N-1)) o n c++[.slice (Z7 6) (d16 V).length (d16 V).length]) (Zac neg E o n c l [1,A,B,V]) ((decide (i64.wrap (N-1)< -400),false)::(decide (K≥0),false)::Z7N neg E (i64.wrap (0-N)) (i64.wrap (0-E)) (i64.wrap (0-N)) K o n c l A B V):=by and_intros<;>kernel_rfl
def Z7O (neg:Bool) (E k ke kp K:Int) (o n c:Nat) (l:List Value) (A B V:Nat):Log:=[(decide (zY (vO (Zac neg E o n c l [1,A,B,V]) (aX o) n) (vO (Zac neg E o n c l [1,A,B,V]) (Z7 6) (d16 V).length)=K),true),(ZL (Zac neg E o n c l [1,A,B,V]) (aX o) (Z7 6) n c (d16 V).length (d16 V).length,true),(decide (vO (Zac neg E o n c l [1,A,B]) (Z7 4) (d16 A).length*vO (Zac neg E o n c l [1,A,B]) (Z7 5) (d16 B).length=V),true),(Zgg (Zac neg E o n c l [1,A,B]) (Z7 4) (Z7 5) (d16 A).length (d16 A).length (d16 B).length (d16 B).length,true),(decide ((10:Int).toNat^kp.toNat=B),true),(ZiQ 10 kp,true),(decide ((10:Int)=0∧2≤kp),false),(decide (k≥0),false),(decide (vO (Zac neg E o n c l [1]) (Z7 3) (d16 1).length*2^ke.toNat=A),true),(Zff (Zac neg E o n c l [1]) (Z7 3) (d16 1).length (d16 1).length ke,true),(decide (0<(d16 1).length),true),(decide (E≥0),false),(true,true)]
theorem Zyn (neg:Bool) (E top N K:Int) (o n c:Nat) (l:List Value) (A B V:Nat) (g:Nat→Value):Zg (evC (Zk prog Zf Zo ZdK) 200 false (Zie f29) (Ze0 neg E top N o n c++tl 29 g,hX neg E o n c l,[cmp false,cmp true,num A,cmp false,cmp true,num B,num V,num K,cmp true]) ⟨[],[],[]⟩) 6 28 (some none) ([vRN neg E (sl 0 o n c),.pointer (some ⟨1,0,none⟩),.int .i64 N,.int .i64 top,.int .i64 N]++[.slice (aX o) n c]) (Zac neg E o n c l [1,A,B,V]) ((decide (K≥0),true)::Z7O neg E (i64.wrap (0-N)) (i64.wrap (0-E)) (i64.wrap (0-i64.wrap (0-N))) K o n c l A B V):=by and_intros<;>kernel_rfl
theorem Zyo (neg:Bool) (E top N K:Int) (o n c:Nat) (l:List Value) (A B V:Nat) (g:Nat→Value):Zg (evC (Zk prog Zf Zo ZdK) 200 false (Zie f29) (Ze0 neg E top N o n c++tl 29 g,hX neg E o n c l,[cmp false,cmp true,num A,cmp false,cmp true,num B,num V,num K,cmp false,cmp false]) ⟨[],[],[]⟩) 6 28 none (Ze0 neg E top (i64.wrap (N-1)) o n c++[.slice (aX o) n c]) (Zac neg E o n c l [1,A,B,V]) ((decide (i64.wrap (N-1)< -400),false)::(decide (K≥0),false)::Z7O neg E (i64.wrap (0-N)) (i64.wrap (0-E)) (i64.wrap (0-i64.wrap (0-N))) K o n c l A B V):=by and_intros<;>kernel_rfl
theorem Zyp {x:Value}{n:Nat}{g:Nat→Value}:∃ g',[x]++tl n g=tl (n+1) g':=by
 obtain⟨g',hg⟩:=Zgu (J:=[x]++tl n g) (n:=n+1) (by simp [ZeR]);exact⟨g',hg⟩
def Zpj (S:Nat) (neg:Bool) (E top N:Int) (o n c:Nat) (l:List Value) (e:Ex) (z:Lf):Prop:=
 if pbN E (-N)≤paN S E (-N) then e=some none∧∃ t,z.1=[vRN neg E (sl 0 o n c),.pointer (some ⟨1,0,none⟩),.int .i64 N]++t else e=none∧(∃ g,z.1=Ze0 neg E top (N-1) o n c++tl 29 g)∧z.2.1=hX neg E o n c l
section
variable {l : List Value} {o c : Nat} {A' : List Int}
theorem ZcM {S:Nat}{neg:Bool}{E top N:Int}{n:Nat}{code:Code}{x0:Lf}{u:Value}{h:Hp}(hf:pbN E (-N)≤paN S E (-N)) (hr:RunsW (Zk prog Zf Zo ZdK) code x0 fun e z=>e=some none∧(∃ g,z.1=([vRN neg E (sl 0 o n c),.pointer (some ⟨1,0,none⟩),.int .i64 N,.int .i64 top,.int .i64 N]++[u])++tl 28 g)∧z.2.1=h):RunsW (Zk prog Zf Zo ZdK) code x0 (Zpj S neg E top N o n c l):=by
 refine hr.mono fun e z he=> ?_;obtain⟨rfl,⟨g,h1⟩,_⟩:=he;unfold Zpj;rw[if_pos hf];exact⟨rfl,_,h1⟩
theorem Zj5 {S:Nat}{neg:Bool}{E top N:Int}{n:Nat}{code:Code}{x0:Lf}{u:Value}{L:List Nat}(hf:¬ pbN E (-N)≤paN S E (-N)) (hN: -400≤N∧N≤400) (hl:∀ v∈l,lt1 2 v=true) (hr:RunsW (Zk prog Zf Zo ZdK) code x0 fun e z=>e=none∧(∃ g,z.1=(Ze0 neg E top (i64.wrap (N-1)) o n c++[u])++tl 28 g)∧z.2.1=Zac neg E o n c l L):RunsW (Zk prog Zf Zo ZdK) code x0 (Zpj S neg E top N o n c l):=by
 rw[Zw (by omega) (by omega)] at hr;have hc:=RunsW.cut (f1:=Ze0 neg E top (N-1) o n c) (f2:=[]) (k:=2) (N:=3+L.length) (extra:=(L.map w16).reverse++[bX neg E o n c]) (base:=[bX neg E o n c,(l,tR)]) (by
  refine hr.mono fun e z he=> ?_;obtain⟨h1,h2,h3⟩:=he;refine⟨h1,h2,?_⟩;rw[h3];unfold Zac;rw[List.append_assoc];rfl) rfl (by simp;omega) (by omega) (by
  intro x hx;rcases List.mem_cons.1 hx with rfl | hx
  ·intro v hv;simp only[bX,bOf,List.mem_cons,List.not_mem_nil,or_false] at hv;rcases hv with rfl | rfl | rfl<;>rfl
  ·rw[List.mem_singleton.1 hx];exact hl) (by
  intro v hv;simp only[Ze0,List.mem_cons,List.not_mem_nil,or_false] at hv;rcases hv with rfl | rfl | rfl | rfl | rfl<;>rfl) (fun v hv=>absurd hv (List.not_mem_nil))
 refine hc.mono fun e z he=> ?_;obtain⟨rfl,⟨g,j,h1⟩,h2⟩:=he;unfold Zpj;rw[if_neg hf];obtain⟨g',hg⟩:=Zyp (x:=j) (n:=28) (g:=g);refine⟨rfl,⟨g',?_⟩,h2⟩;rw[h1,List.append_assoc,hg]
end
theorem Zbb (k:Nat):10^k<2^(4*k+1):=by
 have h:10^k≤16^k:=Nat.pow_le_pow_left (by omega) k;have e:(16:Nat)^k=2^(4*k):=by rw[Nat.pow_mul]
 have p:0<2^(4*k):=Nat.pow_pos (by omega);rw[Nat.pow_succ];omega
theorem zh {a b i j:Nat}(ha:a<2^i) (hb:b<2^j):a*b<2^(i+j):=by
 rw[Nat.pow_add];exact Nat.mul_lt_mul'' ha hb
theorem zk {a i:Nat}(h:a<2^i) (hi:i≤10000):(d16 a).length<100000:=by
 have:=Zcg h;omega
section
variable {l : List Value} {o c n S : Nat}
theorem Zhc (hX0:∀ h:Hp,h.blk? 0=some (l,tR)→RowV h (aX o) n c S) (hl:∀ v∈l,lt1 2 v=true) (h0:S≠0) (hS:S<2^53) {neg:Bool}{E top N:Int}(hE1: -1074≤E∧E≤972) (hN1: -324≤N∧N≤400) (hE:0≤E) (hN:N≤0) (g:Nat→Value) (s:List Dec):
  RunsW (Zk prog Zf Zo ZdK) (Zie f29) (Ze0 neg E top N o n c++tl 29 g,hX neg E o n c l,s) (Zpj S neg E top N o n c l):=by
 obtain⟨A,hA⟩:∃ A,A=S*2^E.toNat:=⟨_,rfl⟩;obtain⟨B,hB⟩:∃ B,B=10^((-N).toNat):=⟨_,rfl⟩;obtain⟨V,hV⟩:∃ V,V=(S*2^E.toNat)*10^(-N).toNat:=⟨_,rfl⟩;have tS:S<2^53:=hS;obtain⟨J14,hJ14⟩:∃ J,J=1100:=⟨_,rfl⟩;obtain⟨K14,hK14⟩:∃ K,K=1700:=⟨_,rfl⟩;have tA:A<2^(53+J14):=by
  rw[hA];exact zh tS (Nat.pow_lt_pow_right (by omega) (by omega))
 have tB:B<2^K14:=by
  rw[hB];exact Nat.lt_of_lt_of_le (Zbb _) (Nat.pow_le_pow_right (by omega) (by omega))
 have eV:V=A*B:=by rw[hV,hA,hB]
 have tV:V<2^(53+J14+K14):=by
  rw[eV];exact zh tA tB
 have l1:(d16 1).length<100000:=zk (i:=1) (by decide) (by omega);have lA:=zk tA (by omega);have lB:=zk tB (by omega);have lV:=zk tV (by omega);have ea:V=paN S E (-N):=by
  unfold paN;exact hV
 have eb:1=pbN E (-N):=by
  unfold pbN;rw[show (-E).toNat=0 by omega,show (- -N).toNat=0 by omega]
 have q0:i64.wrap (0-N)= -N:=by rw[Zw (by omega) (by omega)];omega
 have gT:=Zyh neg E top N (zY V 1) o n c l A B V g;rw[q0] at gT;have gF:=Zyi neg E top N (zY V 1) o n c l A B V g;rw[q0] at gF;have w1:=RowV.at (h:=(Zac neg E o n c l [1,A,B,V])) (b:=6) (V:=V) rfl lV;have w2:=RowV.at (h:=(Zac neg E o n c l [1,A,B,V])) (b:=3) (V:=1) rfl l1;have w3:=RowV.at (h:=(Zac neg E o n c l [1,A,B])) (b:=4) (V:=A) rfl lA;have w4:=RowV.at (h:=(Zac neg E o n c l [1,A,B])) (b:=5) (V:=B) rfl lB;have w5:=hX0 (Zac neg E o n c l [1]) rfl;have tlF:Zx (Z7L neg E (-N) E (-N) (zY V 1) o n c l A B V):=(Za (by rw[w1.vo,w2.vo];exact Xa rfl) (Za (RowV.two w1 w2) (Za (by rw[w3.vo,w4.vo];exact Xa eV.symm) (Za (RowV.mu w3 w4) (Za (Xa hB.symm) (Za (Xa ⟨by omega,by omega,by omega,by omega⟩) (Za (Xb (by omega)) (Za (Xa (by omega)) (Za (by rw[w5.vo];exact Xa hA.symm) (Za (RowV.sh w5 (by omega) (by omega)) (Za (Xa (RowV.pos w5 (by omega))) (Za (Xa (by omega)) (Z5 rfl)))))))))))));by_cases hf:pbN E (-N)≤paN S E (-N)
 ·exact ZcM hf (Zb (s0:=s) ZfW gT (Za (by rw[ZbO,ea,eb];exact Xa hf) tlF))
 ·exact Zj5 hf ⟨by omega,by omega⟩ hl (Zb (s0:=s) ZfW gF (Za (by rw[Zw (by omega) (by omega)];exact Xb (by omega)) (Za (by rw[ZbO,ea,eb];exact Xb hf) tlF)))
theorem Zhd (hX0:∀ h:Hp,h.blk? 0=some (l,tR)→RowV h (aX o) n c S) (hl:∀ v∈l,lt1 2 v=true) (h0:S≠0) (hS:S<2^53) {neg:Bool}{E top N:Int}(hE1: -1074≤E∧E≤972) (hN1: -324≤N∧N≤400) (hE:0≤E) (hN:0<N) (g:Nat→Value) (s:List Dec):
  RunsW (Zk prog Zf Zo ZdK) (Zie f29) (Ze0 neg E top N o n c++tl 29 g,hX neg E o n c l,s) (Zpj S neg E top N o n c l):=by
 obtain⟨A,hA⟩:∃ A,A=S*2^E.toNat:=⟨_,rfl⟩;obtain⟨B,hB⟩:∃ B,B=10^(N.toNat):=⟨_,rfl⟩;obtain⟨V,hV⟩:∃ V,V=1*10^N.toNat:=⟨_,rfl⟩;have tS:S<2^53:=hS;obtain⟨J14,hJ14⟩:∃ J,J=1100:=⟨_,rfl⟩;obtain⟨K14,hK14⟩:∃ K,K=1700:=⟨_,rfl⟩;have tA:A<2^(53+J14):=by
  rw[hA];exact zh tS (Nat.pow_lt_pow_right (by omega) (by omega))
 have tB:B<2^K14:=by
  rw[hB];exact Nat.lt_of_lt_of_le (Zbb _) (Nat.pow_le_pow_right (by omega) (by omega))
 have eV:V=1*B:=by rw[hV,hB]
 have tV:V<2^(53+J14+K14):=by
  rw[eV];exact zh (Nat.lt_of_lt_of_le (show 1<2^1 by decide) (Nat.pow_le_pow_right (by omega) (by omega))) tB
 have l1:(d16 1).length<100000:=zk (i:=1) (by decide) (by omega);have lA:=zk tA (by omega);have lB:=zk tB (by omega);have lV:=zk tV (by omega);have ea:A=paN S E (-N):=by
  unfold paN;rw[show (-N).toNat=0 by omega,hA,Nat.pow_zero,Nat.mul_one]
 have eb:V=pbN E (-N):=by
  unfold pbN;rw[show (-E).toNat=0 by omega,show (- -N).toNat=N.toNat by omega,hV]
 have q0:i64.wrap (0-N)= -N:=by rw[Zw (by omega) (by omega)];omega
 have q1:i64.wrap (0 - -N)=N:=by rw[Zw (by omega) (by omega)];omega
 have gT:=Zyj neg E top N (zY A V) o n c l A B V g;rw[q0,q1] at gT;have gF:=Zyk neg E top N (zY A V) o n c l A B V g;rw[q0,q1] at gF;have w1:=RowV.at (h:=(Zac neg E o n c l [1,A,B,V])) (b:=4) (V:=A) rfl lA;have w2:=RowV.at (h:=(Zac neg E o n c l [1,A,B,V])) (b:=6) (V:=V) rfl lV;have w3:=RowV.at (h:=(Zac neg E o n c l [1,A,B])) (b:=3) (V:=1) rfl l1;have w4:=RowV.at (h:=(Zac neg E o n c l [1,A,B])) (b:=5) (V:=B) rfl lB;have w5:=hX0 (Zac neg E o n c l [1]) rfl;have tlF:Zx (Z7M neg E (-N) E N (zY A V) o n c l A B V):=(Za (by rw[w1.vo,w2.vo];exact Xa rfl) (Za (RowV.two w1 w2) (Za (by rw[w3.vo,w4.vo];exact Xa eV.symm) (Za (RowV.mu w3 w4) (Za (Xa hB.symm) (Za (Xa ⟨by omega,by omega,by omega,by omega⟩) (Za (Xb (by omega)) (Za (Xb (by omega)) (Za (by rw[w5.vo];exact Xa hA.symm) (Za (RowV.sh w5 (by omega) (by omega)) (Za (Xa (RowV.pos w5 (by omega))) (Za (Xa (by omega)) (Z5 rfl)))))))))))));by_cases hf:pbN E (-N)≤paN S E (-N)
 ·exact ZcM hf (Zb (s0:=s) ZfW gT (Za (by rw[ZbO,ea,eb];exact Xa hf) tlF))
 ·exact Zj5 hf ⟨by omega,by omega⟩ hl (Zb (s0:=s) ZfW gF (Za (by rw[Zw (by omega) (by omega)];exact Xb (by omega)) (Za (by rw[ZbO,ea,eb];exact Xb hf) tlF)))
theorem Zhe (hX0:∀ h:Hp,h.blk? 0=some (l,tR)→RowV h (aX o) n c S) (hl:∀ v∈l,lt1 2 v=true) (h0:S≠0) (hS:S<2^53) {neg:Bool}{E top N:Int}(hE1: -1074≤E∧E≤972) (hN1: -324≤N∧N≤400) (hE:E<0) (hN:N≤0) (g:Nat→Value) (s:List Dec):
  RunsW (Zk prog Zf Zo ZdK) (Zie f29) (Ze0 neg E top N o n c++tl 29 g,hX neg E o n c l,s) (Zpj S neg E top N o n c l):=by
 obtain⟨A,hA⟩:∃ A,A=1*2^(-E).toNat:=⟨_,rfl⟩;obtain⟨B,hB⟩:∃ B,B=10^((-N).toNat):=⟨_,rfl⟩;obtain⟨V,hV⟩:∃ V,V=S*10^(-N).toNat:=⟨_,rfl⟩;have tS:S<2^53:=hS;obtain⟨J14,hJ14⟩:∃ J,J=1100:=⟨_,rfl⟩;obtain⟨K14,hK14⟩:∃ K,K=1700:=⟨_,rfl⟩;have tA:A<2^(53+J14):=by
  rw[hA];exact zh (show 1<2^53 by decide) (Nat.pow_lt_pow_right (by omega) (by omega))
 have tB:B<2^K14:=by
  rw[hB];exact Nat.lt_of_lt_of_le (Zbb _) (Nat.pow_le_pow_right (by omega) (by omega))
 have eV:V=S*B:=by rw[hV,hB]
 have tV:V<2^(53+J14+K14):=by
  rw[eV];exact zh (Nat.lt_of_lt_of_le tS (Nat.pow_le_pow_right (by omega) (by omega))) tB
 have l1:(d16 1).length<100000:=zk (i:=1) (by decide) (by omega);have lA:=zk tA (by omega);have lB:=zk tB (by omega);have lV:=zk tV (by omega);have ea:V=paN S E (-N):=by
  unfold paN;rw[show E.toNat=0 by omega,hV,Nat.pow_zero,Nat.mul_one]
 have eb:A=pbN E (-N):=by
  unfold pbN;rw[show (- -N).toNat=0 by omega,hA,Nat.pow_zero,Nat.mul_one,Nat.one_mul]
 have q0:i64.wrap (0-N)= -N:=by rw[Zw (by omega) (by omega)];omega
 have q2:i64.wrap (0-E)= -E:=by rw[Zw (by omega) (by omega)];omega
 have gT:=Zyl neg E top N (zY V A) o n c l A B V g;rw[q0,q2] at gT;have gF:=Zym neg E top N (zY V A) o n c l A B V g;rw[q0,q2] at gF;have w1:=RowV.at (h:=(Zac neg E o n c l [1,A,B,V])) (b:=6) (V:=V) rfl lV;have w2:=RowV.at (h:=(Zac neg E o n c l [1,A,B,V])) (b:=4) (V:=A) rfl lA;have w3:=hX0 (Zac neg E o n c l [1,A,B]) rfl;have w4:=RowV.at (h:=(Zac neg E o n c l [1,A,B])) (b:=5) (V:=B) rfl lB;have w5:=RowV.at (h:=(Zac neg E o n c l [1])) (b:=3) (V:=1) rfl l1;have tlF:Zx (Z7N neg E (-N) (-E) (-N) (zY V A) o n c l A B V):=(Za (by rw[w1.vo,w2.vo];exact Xa rfl) (Za (RowV.two w1 w2) (Za (by rw[w3.vo,w4.vo];exact Xa eV.symm) (Za (RowV.mu w3 w4) (Za (Xa hB.symm) (Za (Xa ⟨by omega,by omega,by omega,by omega⟩) (Za (Xb (by omega)) (Za (Xa (by omega)) (Za (by rw[w5.vo];exact Xa hA.symm) (Za (RowV.sh w5 (by omega) (by omega)) (Za (Xa (RowV.pos w5 (by omega))) (Za (Xb (by omega)) (Z5 rfl)))))))))))));by_cases hf:pbN E (-N)≤paN S E (-N)
 ·exact ZcM hf (Zb (s0:=s) ZfW gT (Za (by rw[ZbO,ea,eb];exact Xa hf) tlF))
 ·exact Zj5 hf ⟨by omega,by omega⟩ hl (Zb (s0:=s) ZfW gF (Za (by rw[Zw (by omega) (by omega)];exact Xb (by omega)) (Za (by rw[ZbO,ea,eb];exact Xb hf) tlF)))
theorem Zhf (hX0:∀ h:Hp,h.blk? 0=some (l,tR)→RowV h (aX o) n c S) (hl:∀ v∈l,lt1 2 v=true) (h0:S≠0) (hS:S<2^53) {neg:Bool}{E top N:Int}(hE1: -1074≤E∧E≤972) (hN1: -324≤N∧N≤400) (hE:E<0) (hN:0<N) (g:Nat→Value) (s:List Dec):
  RunsW (Zk prog Zf Zo ZdK) (Zie f29) (Ze0 neg E top N o n c++tl 29 g,hX neg E o n c l,s) (Zpj S neg E top N o n c l):=by
 obtain⟨A,hA⟩:∃ A,A=1*2^(-E).toNat:=⟨_,rfl⟩;obtain⟨B,hB⟩:∃ B,B=10^(N.toNat):=⟨_,rfl⟩;obtain⟨V,hV⟩:∃ V,V=(1*2^(-E).toNat)*10^N.toNat:=⟨_,rfl⟩;have tS:S<2^53:=hS;obtain⟨J14,hJ14⟩:∃ J,J=1100:=⟨_,rfl⟩;obtain⟨K14,hK14⟩:∃ K,K=1700:=⟨_,rfl⟩;have tA:A<2^(53+J14):=by
  rw[hA];exact zh (show 1<2^53 by decide) (Nat.pow_lt_pow_right (by omega) (by omega))
 have tB:B<2^K14:=by
  rw[hB];exact Nat.lt_of_lt_of_le (Zbb _) (Nat.pow_le_pow_right (by omega) (by omega))
 have eV:V=A*B:=by rw[hV,hA,hB]
 have tV:V<2^(53+J14+K14):=by
  rw[eV];exact zh tA tB
 have l1:(d16 1).length<100000:=zk (i:=1) (by decide) (by omega);have lA:=zk tA (by omega);have lB:=zk tB (by omega);have lV:=zk tV (by omega);have ea:S=paN S E (-N):=by
  unfold paN;rw[show E.toNat=0 by omega,show (-N).toNat=0 by omega,Nat.mul_one,Nat.mul_one]
 have eb:V=pbN E (-N):=by
  unfold pbN;rw[show (- -N).toNat=N.toNat by omega,hV,Nat.one_mul]
 have q0:i64.wrap (0-N)= -N:=by rw[Zw (by omega) (by omega)];omega
 have q1:i64.wrap (0 - -N)=N:=by rw[Zw (by omega) (by omega)];omega
 have q2:i64.wrap (0-E)= -E:=by rw[Zw (by omega) (by omega)];omega
 have gT:=Zyn neg E top N (zY S V) o n c l A B V g;rw[q0,q1,q2] at gT;have gF:=Zyo neg E top N (zY S V) o n c l A B V g;rw[q0,q1,q2] at gF;have w1:=hX0 (Zac neg E o n c l [1,A,B,V]) rfl;have w2:=RowV.at (h:=(Zac neg E o n c l [1,A,B,V])) (b:=6) (V:=V) rfl lV;have w3:=RowV.at (h:=(Zac neg E o n c l [1,A,B])) (b:=4) (V:=A) rfl lA;have w4:=RowV.at (h:=(Zac neg E o n c l [1,A,B])) (b:=5) (V:=B) rfl lB;have w5:=RowV.at (h:=(Zac neg E o n c l [1])) (b:=3) (V:=1) rfl l1;have tlF:Zx (Z7O neg E (-N) (-E) N (zY S V) o n c l A B V):=(Za (by rw[w1.vo,w2.vo];exact Xa rfl) (Za (RowV.two w1 w2) (Za (by rw[w3.vo,w4.vo];exact Xa eV.symm) (Za (RowV.mu w3 w4) (Za (Xa hB.symm) (Za (Xa ⟨by omega,by omega,by omega,by omega⟩) (Za (Xb (by omega)) (Za (Xb (by omega)) (Za (by rw[w5.vo];exact Xa hA.symm) (Za (RowV.sh w5 (by omega) (by omega)) (Za (Xa (RowV.pos w5 (by omega))) (Za (Xb (by omega)) (Z5 rfl)))))))))))));by_cases hf:pbN E (-N)≤paN S E (-N)
 ·exact ZcM hf (Zb (s0:=s) ZfW gT (Za (by rw[ZbO,ea,eb];exact Xa hf) tlF))
 ·exact Zj5 hf ⟨by omega,by omega⟩ hl (Zb (s0:=s) ZfW gF (Za (by rw[Zw (by omega) (by omega)];exact Xb (by omega)) (Za (by rw[ZbO,ea,eb];exact Xb hf) tlF)))
theorem ZoQ (hX0:∀ h:Hp,h.blk? 0=some (l,tR)→RowV h (aX o) n c S) (hl:∀ v∈l,lt1 2 v=true) (h0:S≠0) (hS:S<2^53) {neg:Bool}{E top N:Int}(hE1: -1074≤E∧E≤972) (hN1: -324≤N∧N≤400) (g:Nat→Value) (s:List Dec):
  RunsW (Zk prog Zf Zo ZdK) (Zie f29) (Ze0 neg E top N o n c++tl 29 g,hX neg E o n c l,s) (Zpj S neg E top N o n c l):=by
 by_cases hE:0≤E
 ·by_cases hN:N≤0
  ·exact Zhc hX0 hl h0 hS hE1 hN1 hE hN g s
  ·exact Zhd hX0 hl h0 hS hE1 hN1 hE (by omega) g s
 ·by_cases hN:N≤0
  ·exact Zhe hX0 hl h0 hS hE1 hN1 (by omega) hN g s
  ·exact Zhf hX0 hl h0 hS hE1 hN1 (by omega) (by omega) g s
def Z7P (S:Nat) (neg:Bool) (E top:Int) (o n c:Nat) (l:List Value) (r:Nat) (y:Lf):Prop:=∃ N:Int,N+324=r∧N≤400∧frK S E r N=frS S E∧(∃ g,y.1=Ze0 neg E top N o n c++tl 29 g)∧y.2.1=hX neg E o n c l
theorem Zsw (hX0:∀ h:Hp,h.blk? 0=some (l,tR)→RowV h (aX o) n c S) (hl:∀ v∈l,lt1 2 v=true) (h0:S≠0) (hS:S<2^53) {neg:Bool}{E top:Int}(hE1: -1074≤E∧E≤972) (r:Nat) (y:Lf) (hy:Z7P S neg E top o n c l r y):
  RunsW (Zk prog Zf Zo ZdK) (Zie f29) y fun e z=>match e with | none=>∃ r',r'<r∧Z7P S neg E top o n c l r' z | some none=>∃ t,z.1=[vRN neg E (sl 0 o n c),.pointer (some ⟨1,0,none⟩),.int .i64 (frS S E)]++t | some (some id')=>id'=0∧False:=by
 obtain⟨N,h1,h2,h3,⟨g,h4⟩,h5⟩:=hy;obtain⟨t,h',sc⟩:=y;simp only at h4 h5;subst h4 h5;refine (ZoQ hX0 hl h0 hS (neg:=neg) (E:=E) (top:=top) (N:=N) hE1 ⟨by omega,h2⟩ g sc).mono fun e z he=> ?_;unfold Zpj at he;by_cases hf:pbN E (-N)≤paN S E (-N)
 ·rw[if_pos hf] at he;obtain⟨rfl,t,ht⟩:=he;have:N=frS S E:=by
   rw[← h3];cases r with
   | zero=>rfl
   | succ r=>unfold frK;rw[if_pos hf]
  rw[← this];exact⟨t,ht⟩
 ·rw[if_neg hf] at he;obtain⟨rfl,h6,h7⟩:=he;cases r with
  | zero=>exact absurd (ZgL h0 hE1.1 (show N≤ -324 by omega)) hf
  | succ r=>
   unfold frK at h3;rw[if_neg hf] at h3;exact⟨r,by omega,N-1,by omega,by omega,h3,h6,h7⟩
theorem Zsx (hX0:∀ h:Hp,h.blk? 0=some (l,tR)→RowV h (aX o) n c S) (hl:∀ v∈l,still v=true) (h0:S≠0) (hS:S<2^53) {neg:Bool}{E:Int}(hE1: -1074≤E∧E≤972):
  RunsW (Zk prog Zf Zo ZdK) (Zs f29) ([vRN neg E (sl 0 o n c)]++List.replicate 33 undef,⟨1,[(l,tR)]⟩,[]) fun e y=>(e=none∨e=some none)∧ZV prog f29 y.1 y.2.1=some (.int .i64 (frS S E)):=by
 have r:=hX0 (hX neg E o n c l) rfl;have hb:bitLen S≤53:=len_le (k:=53) hS;have hb1:=Zau h0;have et:ZyW neg E o n c l=E+(bitLen S:Nat):=by
  unfold ZyW;rw[r.vo,Zbi,Zw (by omega) (by omega)]
 obtain⟨t1,t2⟩:=Ztx (top:=E+(bitLen S:Nat)) (by omega) (by omega);have en:i64.wrap (i64.wrap ((i64.wrap (ZyW neg E o n c l*30103)).tdiv 100000)+2)=n0F (E+(bitLen S:Nat)):=by
  unfold n0F at t1 t2 ⊢;rw[et,Zw (n:=(E+(bitLen S:Nat))*30103) (by omega) (by omega)];rw[Zw (n:=((E+(bitLen S:Nat))*30103).tdiv 100000) (by omega) (by omega),Zw (by omega) (by omega)]
 have hp:=Zyg neg E o n c l;rw[en] at hp;rw[ZoP];refine Zv ZfW hp (Z5 ?_) fun g=> ?_
 ·rw[r.1,r.can,Zl.2 (by have:=r.2.2;omega)];rfl
 obtain⟨N,hN⟩:∃ N,N=n0F (E+(bitLen S:Nat)):=⟨_,rfl⟩;rw[← hN] at t1 t2 ⊢;refine (RunsW.forLoop (P:=fun _=>False) (R:=fun z=>∃ t,z.1=[vRN neg E (sl 0 o n c),.pointer (some ⟨1,0,none⟩),.int .i64 (frS S E)]++t) (Z7P S neg E (ZyW neg E o n c l) o n c l) (fun r y hy=>Zsw hX0 (fun v hv=>zv (by omega) (hl v hv)) h0 hS hE1 r y hy) (n:=(N+324).toNat) ⟨N,by omega,t2,by unfold frS;rw[← hN],⟨g,rfl⟩,rfl⟩).mono fun e y he=> ?_
 match e,he with
 | none,he=>exact he.elim
 | some none,⟨t,ht⟩=>
  refine⟨.inr rfl,?_⟩;rw[ht];rfl
 | some (some _),he=>exact he.elim
end
def Z4w (h:Hp) (p:Option Addr) (n c V:Nat) (E:Int):Bool:=zx h p n c && decide (Zm h p n=d16 V) && decide (0<V∧V<9007199254740992∧ -1074≤E∧E≤972)
def Z7Q:Zae:=fun vals h s=>
 match vals,s with
 | [.agg cs],.inr (.inl V)::s'=>
  match cs.toList with
  | [.bool neg,.int .i64 E,.slice (some ⟨b,o,none⟩) n c]=>some (.int .i64 (frS V.toNat E),h,s',[(Z4w h (some ⟨b,o,none⟩) n c V.toNat E,true)])
  | _=>none
 | _,_=>none
theorem Zyq:Z6 29 Z7Q:=by
 intro vals h s v h' s' lg hg hl m B w E0 hv;unfold Z7Q at hg;split at hg
 ·rename_i cs V s2;split at hg
  ·rename_i neg E b o n c hcs;have ecs:cs= #[.bool neg,.int .i64 E,sl b o n c]:=by
    have:=congrArg List.toArray hcs;simpa [sl] using this
   cases hg;have l3:=hl _ Xf;simp only[Z4w,Xh,Xi] at l3;obtain⟨⟨q1,q2⟩,q3,q4,q5,q6⟩:=l3;rcases ZC q1 with ⟨h0,_⟩ | ⟨b',o',x,hp,hx,r1,rs,e0⟩
   ·cases h0
   ·cases hp;obtain⟨h1,h2,h3,h4,h5,h6,h7⟩:=zj r1;rw[e0] at q2;have hn:n≤4:=by
     have:=Zco (A:=V.toNat) (k:=4) (by omega);rw[← q2,h2] at this;exact this
    have hX0:∀ h:Hp,h.blk? 0=some (x.1,tR)→RowV h (aX o) n c V.toNat:=by
     intro hh hb;obtain⟨a1,a2⟩:=ZgY r1 rs hh hb;rw[h2] at a1 a2;exact⟨a1,by rw[← q2];exact a2,by omega⟩
    have r:=Zsx hX0 h7 (by omega) (show V.toNat<2^53 by omega) (neg:=neg) ⟨q5,q6⟩;have evals:List.map (rn fun _=>b) [vRN neg E (sl 0 o n c)]=[.agg cs]:=by
     rw[ecs];simp [rn,rn2,rn1,vRN,sl]
    have fin:=ZB (T:=(Zk prog Zf Zo ZdK)) func29 Zsv (ZaH h7) (vals:=[vRN neg E (sl 0 o n c)]) (fun v hv=>by
     rw[List.mem_singleton.1 hv];rfl) (v:= .int .i64 (frS V.toNat E)) (by rfl) r E0 (zS hx h5 h6 rfl)
    rw[evals] at fin;exact fin
  ·cases hg
 ·cases hg
end Go.Proofs.YtgefjidphfdhdaaGreatDoor
namespace Go.Proofs.YtgefjidphfdhdaaGreatDoor
open Go.Proofs.Tryz
open Go.KRun Go.Nt Go.Rd Go.Wd Go.Pt
set_option maxRecDepth 100000
def Z3e:Con:=alt 44 Z4p (alt 45 Z61 Zo)
theorem Zsy:ConOk Z3e:=ZM func44 rfl ZnT (ZM func45 rfl Zw0 Zd)
def Z4x:Hc:=ZY 46 (gT Z6r) hcN
theorem ZoR:HcOk Z4x:=Zt func46 rfl (Zeu Zwt) zp
theorem Z9D (b:Bool) (D:List UInt8) (e:Int):ZD (zg (Zk prog Zf Z3e Z4x) hT0 200 23 [.bool b,vDc D e] [sam true,sam true,sam true]) (bR (((mnL b++ptL D)++[101])++ZaB e)) [(decide (((mnL b++ptL D)++[101]).length+(ZaB e).length≤9223372036854775807),true),(decide (e.natAbs≤2000000),true),(decide ((mnL b++ptL D).length+1≤9223372036854775807),true),(decide ((mnL b).length+(ptL D).length≤9223372036854775807),true),(decide (1≤D.length∧D.length≤100000),true)]:=by and_intros<;>kernel_rfl
theorem ZoS (l:List UInt8):(ptL l).length≤l.length+1:=by
 unfold ptL;split
 ·simp
 ·simp
 ·simp only[List.length_cons];omega
theorem Z3f (b:Bool) (D:List UInt8) (e:Int):((mnL b++ptL D)++[101])++ZaB e=txL b D e:=by
 unfold txL mnL ptL;simp only[List.append_assoc,List.singleton_append];rfl
def Z4y:Ans:=fun vals s=>
 match vals with
 | [.bool b,v]=>
  match dc2 v with
  | some (D,e)=>some (bR (txL b D.data.toList e),s,[(decide (1≤D.data.toList.length∧D.data.toList.length≤100000∧e.natAbs≤2000000),true)])
  | none=>none
 | _=>none
theorem ZoT:Zce 23 Z4y:=by
 intro vals s v s' lg h hl w hk;unfold Z4y at h;split at h
 ·split at h
  ·rename_i b v0 o D e hv;rw[ZrA hv];cases h;obtain⟨h1,h2,h3⟩:=Xc (hl _ Xf);have f:=Z9D b D.data.toList e;rw[Z3f] at f;have l1:=ZhY b;have l2:=ZoS D.data.toList;have l3:=ZdF e;exact ZfP (Zh Zsy ZoR) f (Za (Xa (by rw[List.length_append,List.length_append,List.length_singleton];omega)) (Za (Xa h3) (Za (Xa (by rw[List.length_append];omega)) (Za (Xa (by omega)) (Z5 (Xa ⟨h1,h2⟩)))))) (by rfl) (by rfl) hk
  ·cases h
 ·cases h
def Z3g (p:Int):Bool:=decide (ex p≠2047∧(sg p).toNat≠0)
theorem ZfX {p:Int}(h:Z3g p=true):Fin14 p:=by
 obtain⟨h1,h2⟩:=Xc h;have a:=Go.Rn.xp_bd p;have b:=Go.Rn.sg_lt p;exact⟨h1,h2,a.1,a.2,by omega⟩
def Z7R:Ans:=fun vals s=>
 match vals,s with
 | [v],.inr (.inl p)::s'=>
  match vP4 v with
  | some (m,c,e,q)=>some (vDc (sdD p) (sdE p),s',[(m==sgn p,true),(decide (c=cl p∧e=xp p∧q=sg p),true),(Z3g p,true)])
  | none=>none
 | _,_=>none
theorem Zyr:Zce 24 Z7R:=by
 intro vals s v s' lg h hl w hk;unfold Z7R at h;split at h
 ·split at h
  ·rename_i v0 p s2 o m c e q hv;rw[ZdI hv];cases h;have l1:(m==sgn p)=true:=hl _ Xe;obtain⟨l2,l3,l4⟩:=Xc (hl _ (Xd _ Xe));have l5:Z3g p=true:=hl _ (Xd _ (Xd _ Xf));rw[eq_of_beq l1,l2,l3,l4];exact ZrJ (ZfX l5) w hk
  ·cases h
 ·cases h
theorem Zhg:zT 20 (gU vT):=ZnJ Zky
def Z3h:Hc:=ZY 23 (gT Z4y) (ZY 24 (gT Z7R) hcN)
theorem Zys:HcOk Z3h:=Zt func23 rfl (Zeu ZoT) (Zt func24 rfl (Zeu Zyr) zp)
def ZoU:Con:=alt 20 (gU vT) (alt 58 (gU fun p=> .int .i64 (cl p)) (alt 22 Z62 Zo))
theorem Zsz:ConOk ZoU:=ZM func20 rfl Zhg (ZM func58 rfl ZnO (ZM func22 rfl Zw2 Zd))
theorem Zyt:TabOk (Zk prog Zf ZoU Z3h):=Zh Zsz Zys
def shT (p:Int):List UInt8:=if spK p≠0 then spL (spK p) else if cl p=0 then txL (sgn p) [48] 0 else shS p
theorem Z3i (p:Int):ZD (zg (Zk prog Zf ZoU Z3h) hT0 200 9 [.int .u64 p] [cmp false]) (bR (nmL (sgn p) (cl p))) [(decide (cl p≤2),false),(decide (U p),true),(decide (U p),true)]:=by and_intros<;>kernel_rfl
theorem Z3j (p:Int):ZD (zg (Zk prog Zf ZoU Z3h) hT0 200 9 [.int .u64 p] [cmp true,cmp true]) (bR (txL (sgn p) [48] 0)) [(true,true),(cl p==0,true),(decide (cl p≤2),true),(decide (U p),true),(decide (U p),true)]:=by and_intros<;>kernel_rfl
theorem Z3k (p:Int):ZD (zg (Zk prog Zf ZoU Z3h) hT0 200 9 [.int .u64 p] [cmp true,cmp false,num p]) (bR (txL (sgn p) (sdD p) (sdE p))) [(decide (1≤(sdD p).length∧(sdD p).length≤100000∧(sdE p).natAbs≤2000000),true),(sgn p==sgn p,true),(decide (cl p=cl p∧xp p=xp p∧sg p=sg p),true),(Z3g p,true),(cl p==0,false),(decide (cl p≤2),true),(decide (U p),true),(decide (U p),true)]:=by and_intros<;>kernel_rfl
theorem Z3l {p:Int}(hp:U p) (h:¬ cl p≤2):spK p≠0∧nmL (sgn p) (cl p)=spL (spK p):=by
 have e:=ZqO hp;have h1:=ZhE p;have h2:=Zf9 p;unfold spK nmL;by_cases h3:3<cl p
 ·rw[if_pos h3,if_neg (by omega)];exact⟨by decide,rfl⟩
 ·have hc:cl p=3:=by omega
  have hx:ex p=2047∧fr p=0:=by
   unfold cl at hc;split at hc
   ·split at hc<;>omega
   ·split at hc
    ·split at hc
     ·constructor<;>assumption
     ·split at hc<;>omega
    ·omega
  rw[if_neg h3,if_pos hc];rw[hx.1,hx.2] at e;cases hs:sgn p with
  | true=>
   rw[hs,if_pos rfl] at e;rw[if_neg (by omega),if_pos (by omega)];exact⟨by decide,rfl⟩
  | false=>
   rw[hs,if_neg (by decide)] at e;rw[if_pos (by omega)];exact⟨by decide,rfl⟩
theorem ZtN {p:Int}(h:cl p≤2):spK p=0:=by
 have:∀ q:Int,(q=9218868437227405312∨q=18442240474082181120)→cl q=3:=by
  rintro q (rfl | rfl)<;>decide
 unfold spK;rw[if_neg (by omega),if_neg (fun c=>by have:=this p (.inl c);omega),if_neg (fun c=>by have:=this p (.inr c);omega)]
theorem ZtO {p:Int}(h:cl p≤2) (h0:cl p≠0):Z3g p=true:=by
 have h1:=Zf9 p;refine Xa ?_;unfold cl at h h0;unfold sg;by_cases c1:ex p=0
 ·rw[if_pos c1] at h h0 ⊢;by_cases c2:fr p=0
  ·rw[if_pos c2] at h0;exact absurd rfl h0
  ·omega
 ·rw[if_neg c1] at h h0 ⊢;by_cases c2:ex p=2047
  ·rw[if_pos c2] at h;split at h
   ·omega
   ·split at h<;>omega
  ·rw[if_neg c2];omega
theorem Z7S {p:Int}(h:Fin14 p):1≤(sdD p).length∧(sdD p).length≤100000∧(sdE p).natAbs≤2000000:=by
 obtain⟨_,_,j1,j2⟩:=Zwq h;have l1:=ZgT (shV p);have l2:=Zn1 (dcL (shV p));refine⟨?_,by unfold sdD;omega,by unfold sdE;omega⟩;obtain⟨_,b,_⟩:=ZbW h;obtain⟨b1,b2,b3⟩:=Zou h b.1 b.2;have t19:=ZcH h;have hp:0<10^(atL p-1):=Nat.pow_pos (by omega);have hv:0<shV p∧shV p<18446744073709551616:=by unfold shV;split<;>omega
 rcases Nat.eq_zero_or_pos (sdD p).length with c | c
 ·exfalso
  have c':trR (dcL (shV p))=[]:=List.length_eq_zero_iff.1 c;have e:=Zwc (b:=10) (dcL (shV p));rw[c'] at e;have e2:nmB 10 (dcL (shV p))=shV p:=ZfF (Zjh hv.2);rw[e2] at e;have e3:nmB 10 []=0:=rfl;rw[e3,Nat.zero_mul] at e;omega
 ·exact c
theorem Zs0 (p:Int) (hp:U p) (w:World) (hk:knT w):Calls prog 9 #[.int .u64 p] w fun e w'=>e= .returned (bR (shT p))∧Za0 w w':=by
 have hu:decide (U p)=true:=Xa hp;unfold shT;by_cases h2:cl p≤2
 ·rw[if_neg (fun c=>c (ZtN h2))];by_cases h0:cl p=0
  ·rw[if_pos h0];exact ZfP Zyt (Z3j p) (Za rfl (Za (za h0) (Za (Xa h2) (Za hu (Z5 hu))))) (by rfl) (by rfl) hk
  ·rw[if_neg h0];have hf:=ZtO h2 h0;have ht:=Zr4 (ZfX hf);have f:=Z3k p;have et:txL (sgn p) (sdD p) (sdE p)=shS p:=ht;rw[et] at f;exact ZfP Zyt f (Za (Xa (Z7S (ZfX hf))) (Za (by simp) (Za (Xa ⟨rfl,rfl,rfl⟩) (Za hf (Za (ZR h0) (Za (Xa h2) (Za hu (Z5 hu)))))))) (by rfl) (by rfl) hk
 ·obtain⟨a,b⟩:=Z3l hp h2;rw[if_pos a,← b];exact ZfP Zyt (Z3i p) (Za (Xb h2) (Za hu (Z5 hu))) (by rfl) (by rfl) hk
end Go.Proofs.YtgefjidphfdhdaaGreatDoor
namespace Go.Proofs.YtgefjidphfdhdaaGreatDoor
open Go.KRun Go.Nt Go.Rd Go.Wd Go.Pt
set_option maxRecDepth 100000
def Z4z:Ans:=gU fun p=>bR (shT p)
theorem ZoV:Zce 9 Z4z:=by
 intro vals s v s' lg h hl w hk;unfold Z4z gU at h;split at h
 ·cases h;exact Zs0 _ (Xc (hl _ Xf)) w hk
 ·cases h
end Go.Proofs.YtgefjidphfdhdaaGreatDoor
namespace Go.KRun
def Zs1 (r:Option (Value×Hp×List Dec×Lg)):=r.map fun r=>(r.1,r.2.2.2.cs.all (fun x=>x.1==x.2),r.2.2.2.es.map Prod.fst,r.2.2.2.bs.map Prod.fst)
def Zs2 (v:Value) (r:Option (Value×Hp×List Dec×Lg)):=some (match r with | some r=>(v,true,r.2.2.2.es.map Prod.snd,r.2.2.2.bs.map Prod.snd) | none=>(v,true,[],[]))
theorem Zhh {r:Option (Value×Hp×List Dec×Lg)}{v:Value}(h:Zs1 r=Zs2 v r):∃ cs,ZD r v cs∧Zx cs:=by
 cases r with
 | none=>cases h
 | some r=>
  simp only[Zs1,Zs2,Option.map_some,Option.some.injEq,Prod.mk.injEq] at h;obtain⟨h1,h2,h3,h4⟩:=h;refine⟨r.2.2.2.cs,⟨by rw[Option.map_some,h1],rfl,by rw[Option.map_some,Option.map_some,h3],by rw[Option.map_some,Option.map_some,h4]⟩,fun x hx=> ?_⟩;exact eq_of_beq (List.all_eq_true.1 h2 x hx)
end Go.KRun
namespace Go.Proofs.YtgefjidphfdhdaaGreatDoor
open Go.Proofs.Tryz
open Go.KRun Go.Nt Go.Rd Go.Pt
set_option maxRecDepth 100000
def ZoW:Con:=alt 20 (gU vT) (alt 58 (gU fun p=> .int .i64 (cl p)) Zo)
theorem Zj6:ConOk ZoW:=ZM func20 rfl Zhg (ZM func58 rfl ZnO Zd)
def Z7T:Hc:=ZY 23 (gT Z4y) (ZY 76 Na.Zrg (ZY 77 Na.Zrf (ZY 127 Na.Z0m (ZY 132 Na.Zg3 (ZY 79 Na.Z0B hcN)))))
theorem Zyu:HcOk Z7T:=Zt func23 rfl (Zeu ZoT) (Zt func76 rfl Na.ZiX (Zt func77 rfl Na.ZiW (Zt func127 rfl Na.ZhC (Zt func132 rfl Na.Zee (Zt func79 rfl Na.ZhF zp)))))
theorem Z9E:Zs1 (zg (Zk prog Zf ZoW Z7T) hT0 400 12 [.int .u64 4607182418800017408,.int .i64 3,.int .i64 0] ([cmp false,cmp false,cmp true,cmp false,cmp false,cmp false,num (5^52),cmp false,cmp false,cmp false,num (5^52),cmp false,cmp false,num (10^52)]++List.replicate 137 at_))=Zs2 (.tuple #[bR [49,46,48,48,101,48],.nilIface]) (zg (Zk prog Zf ZoW Z7T) hT0 400 12 [.int .u64 4607182418800017408,.int .i64 3,.int .i64 0] ([cmp false,cmp false,cmp true,cmp false,cmp false,cmp false,num (5^52),cmp false,cmp false,cmp false,num (5^52),cmp false,cmp false,num (10^52)]++List.replicate 137 at_)):=by kernel_rfl
theorem Z9F:Zs1 (zg (Zk prog Zf ZoW Z4x) hT0 400 15 [.int .u64 4609434218613702656] [])=Zs2 (bR [48,120,49,46,56,112,48]) (zg (Zk prog Zf ZoW Z4x) hT0 400 15 [.int .u64 4609434218613702656] []):=by kernel_rfl
def Z7U:Ans:=fun vals s=>
 match vals with
 | [.int .u64 p,.int .i64 n,.int .i64 m]=>if p=4607182418800017408∧n=3∧m=0 then some (.tuple #[bR [49,46,48,48,101,48],.nilIface],s,[]) else none
 | _=>none
theorem Zyv:Zce 12 Z7U:=by
 intro vals s v s' lg h hl w hk;unfold Z7U at h;split at h
 ·split at h
  ·rename_i c;obtain⟨rfl,rfl,rfl⟩:=c;cases h;obtain⟨cs,hF,hcs⟩:=Zhh Z9E;exact ZfP (Zh Zj6 Zyu) hF hcs (by rfl) (by rfl) hk
  ·cases h
 ·cases h
def Z7V:Ans:=fun vals s=>
 match vals with
 | [.int .u64 p]=>if p=4609434218613702656 then some (bR [48,120,49,46,56,112,48],s,[]) else none
 | _=>none
theorem Zyw:Zce 15 Z7V:=by
 intro vals s v s' lg h hl w hk;unfold Z7V at h;split at h
 ·split at h
  ·rename_i c;subst c;cases h;obtain⟨cs,hF,hcs⟩:=Zhh Z9F;exact ZfP (Zh Zj6 ZoR) hF hcs (by rfl) (by rfl) hk
  ·cases h
 ·cases h
def Z82:Hc:=ZY 9 (gT Z4z) (ZY 12 (gT Z7U) (ZY 15 (gT Z7V) hcN))
theorem Zyx:HcOk Z82:=Zt func9 rfl (Zeu ZoV) (Zt func12 rfl (Zeu Zyv) (Zt func15 rfl (Zeu Zyw) zp))
theorem Z7W:shT 4591870180066957722=[49,101,45,49]:=by decide+kernel
theorem Z7X:ZD (zg (Zk prog Zf Zo Z82) hT0 200 11 [] [sam true]) (.bool true) [Zpf (shT 4591870180066957722) [49,101,45,49] true,(decide (U 4591870180066957722),true)]:=by and_intros<;>kernel_rfl
def Z7Y:Ans:=fun vals s=>
 match vals with
 | []=>some (.bool true,s,[])
 | _=>none
theorem Zyy:Zce 11 Z7Y:=by
 intro vals s v s' lg h hl w hk;unfold Z7Y at h;split at h
 ·cases h;exact ZfP (Zh Zd Zyx) Z7X (Za (Zdj (by rw[Z7W];rfl)) (Z5 (by decide))) (by rfl) (by rfl) hk
 ·cases h
def Z83:Hc:=ZY 11 (gT Z7Y) (ZY 9 (gT Z4z) hcN)
theorem Zyz:HcOk Z83:=Zt func11 rfl (Zeu Zyy) (Zt func9 rfl (Zeu ZoV) zp)
end Go.Proofs.YtgefjidphfdhdaaGreatDoor
namespace Go.Proofs.YtgefjidphfdhdaaGreatDoor
open Go.Proofs.Tryz
open Go.KRun Go.Nt Go.Rd Go.Pt
set_option maxRecDepth 100000
def Zs3:Con:=alt 25 Z7x (alt 27 Z7y Zo)
theorem ZfY:ConOk Zs3:=ZM func25 rfl Zxm (ZM func27 rfl Zxn Zd)
theorem Z3m {k:Int}(h:k=1∨k=2∨k=3):(!(Zpf (spL k) [] true).1)=true:=by rcases h with rfl | rfl | rfl<;>rfl
theorem Zy0 (p:Int) (h:spK p≠0):spK p=1∨spK p=2∨spK p=3:=by
 unfold spK at h ⊢;split
 ·exact .inl rfl
 ·split
  ·exact .inr (.inl rfl)
  ·split
   ·exact .inr (.inr rfl)
   ·rename_i a b c;rw[if_neg a,if_neg b,if_neg c] at h;exact absurd rfl h
end Go.Proofs.YtgefjidphfdhdaaGreatDoor
namespace Go.Proofs.YtgefjidphfdhdaaGreatDoor
open Go.KRun Go.Nt Go.Rd Go.Pt
set_option maxRecDepth 100000
theorem Zy1 {a b q:Nat}(ha:1≤a) (hb:1≤b) (h1:10^(a-1)≤q) (h2:q<10^a) (h3:10^(b-1)≤q) (h4:q<10^b):a=b:=by
 rcases Nat.lt_trichotomy a b with c | c | c
 ·have:=Nat.pow_le_pow_right (n:=10) (by omega) (show a≤b-1 by omega);omega
 ·exact c
 ·have:=Nat.pow_le_pow_right (n:=10) (by omega) (show b≤a-1 by omega);omega
theorem ZfZ {n q:Nat}(hn:1≤n) (h1:10^(n-1)≤q) (h2:q<10^n):ZaW q=Zba n q∧(ZaW q).length=n:=by
 have hp:0<10^(n-1):=Nat.pow_pos (by omega);obtain⟨l1,l2,l3⟩:=ZbX (W:=q) (by omega);have e:=Zy1 l1 hn l2 l3 h1 h2;refine⟨?_,e⟩;have d:=ZnU (W:=q) (by omega);rw[e] at d;exact d
def dcT (mn:Bool) (n q:Nat) (f:Int):List UInt8:=if n<(ZaW q).length then txL mn ((ZaW q).take n) (f+1) else txL mn (ZaW q) f
theorem Zy2 (mn:Bool) {n q:Nat}(hn:1≤n) (h1:10^(n-1)≤q) (h2:q<10^n) (f:Int):dcT mn n q f=txL mn (Zba n q) f:=by
 obtain⟨a,b⟩:=ZfZ hn h1 h2;unfold dcT;rw[if_neg (by omega),a]
theorem Zs4 (mn:Bool) {n q:Nat}(hn:1≤n) (h1:10^(n-1)≤q) (h2:q<10^n) (f:Int):dcT mn n (q+1) f=hiX mn n q f:=by
 unfold hiX;by_cases h:q+1=10^n
 ·rw[if_pos h,h];have hp:10^(n+1)=10^n*10:=Nat.pow_succ ..;have hq:10^n=10^(n-1)*10:=by rw[← Nat.pow_succ];congr 1;omega
  have h0:0<10^(n-1):=Nat.pow_pos (by omega);obtain⟨a,b⟩:=ZfZ (n:=n+1) (q:=10^n) (by omega) (by rw[Nat.add_sub_cancel];exact Nat.le_refl _) (by omega);obtain⟨c,d⟩:=ZfZ (n:=n) (q:=10^(n-1)) hn (Nat.le_refl _) (by omega);unfold dcT;rw[if_pos (by omega),a];have e:Zba (n+1) (10^n)=Zba n (10^(n-1))++[chD (10^n % 10)]:=by
   rw[Zba,if_neg (by omega),show 10^n/10=10^(n-1) by omega]
  rw[e,List.take_left' (by rw[← c];exact d)]
 ·rw[if_neg h];exact Zy2 mn hn (by omega) (by omega) f
end Go.Proofs.YtgefjidphfdhdaaGreatDoor
namespace Go.KRun
open Go.RowKit
def Zga:(Nat→Value)→List (Option Value)→List Value
 | _,[]=>[]
 | j,o::r=>o.getD (j 0)::Zga (fun i=>j (i+1)) r
def Z40 (f:Nat→Nat):List (Option Value)→List Value→Prop
 | [],[]=>True
 | some u::r,v::s=>rn f u=v∧Z40 f r s
 | none::r,_::s=>Z40 f r s
 | _,_=>False
theorem Zgb {m:Mp}{f:Nat→Nat}{k:Nat}(hk:0<k):∀ (o:List (Option Value)) (t:List Value),Z40 f o t→(∀ v,some v∈o→lt k v=true)→∃ j,(Zga j o).map (mv fun i=>m (f i))=t.map (mv m)∧∀ v∈Zga j o,lt k v=true
 | [],[],_,_=>⟨fun _=>undef,rfl,fun v hv=>by cases hv⟩
 | [],_::_,h,_=>h.elim
 | some _::_,[],h,_=>h.elim
 | none::_,[],h,_=>h.elim
 | some u::r,v::s,h,hl=>by
  obtain⟨h1,h2⟩:=h;obtain⟨j,e1,e2⟩:=Zgb (m:=m) hk r s h2 fun x hx=>hl x (Xd _ hx);refine⟨fun i=>match i with | 0=>undef | i+1=>j i,?_,?_⟩
  ·show mv (fun i=>m (f i)) u::(Zga j r).map (mv fun i=>m (f i))=mv m v::s.map (mv m);rw[e1,← h1,Zcu]
  ·intro x hx;rcases List.mem_cons.1 (show x∈u::Zga j r from hx) with rfl | hx
   ·exact hl x Xe
   ·exact e2 x hx
 | none::r,v::s,h,hl=>by
  obtain⟨j,e1,e2⟩:=Zgb (m:=m) hk r s h fun x hx=>hl x (Xd _ hx);refine⟨fun i=>match i with | 0=> .iface zo (mv m v) | i+1=>j i,?_,?_⟩
  ·show mv (fun i=>m (f i)) (.iface zo (mv m v))::(Zga j r).map (mv fun i=>m (f i))=mv m v::s.map (mv m);rw[e1];simp [mv,mv2,mv1]
  ·intro x hx;rcases List.mem_cons.1 (show x∈Value.iface zo (mv m v)::Zga j r from hx) with rfl | hx
   ·simp [lt,lt2,lt1,hk,zo]
   ·exact e2 x hx
theorem Zs5 {m:Mp}{B:Nat}{t t':List Value}{h h':Hp}{s:List Dec}{a:Act}{w:World}(R:Rel m B (t,h,s) a w) (f:Nat→Nat) (hl:h'.l.length=h'.n)
  (hb:∀ i x,h'.blk? i=some x→(x.1.all (lt1 h'.n))=true∧h.blk? (f i)=some (x.1.map (rn1 f),x.2))
  (hi:∀ i j x y,h'.blk? i=some x→h'.blk? j=some y→f i=f j→i=j)
  (ht:t'.map (mv fun i=>m (f i))=t.map (mv m)) (hw:∀ v∈t',lt h'.n v=true):Rel (fun i=>m (f i)) B (t',h',s) a w:=by
 have E:=R.emb;have em:∀ l:List Value,(l.map (rn1 f)).map (mv1 m)=l.map (mv1 fun i=>m (f i)):=fun l=>by
  rw[List.map_map];exact List.map_congr_left fun v _=>Zlf m f v
 refine⟨by rw[R.tmps];simp only;rw[ht],R.dfr,⟨hl,?_,?_,?_,?_,?_,E.base,E.ice,?_⟩,hw⟩
 ·intro b x hx ht;have:=E.lies (f b) _ (hb b x hx).2 ht;rw[em] at this;exact this
 ·intro b x hx hr;exact E.low (f b) _ (hb b x hx).2 hr
 ·intro b x hx ht hr;exact E.ros (f b) _ (hb b x hx).2 ht hr
 ·intro b b' x x' hx hx' hr hr' he;exact hi b b' x x' hx hx' (E.inj _ _ _ _ (hb b x hx).2 (hb b' x' hx').2 hr hr' he)
 ·intro b x hx v hv;exact List.all_eq_true.1 (hb b x hx).1 v hv
 ·intro b x hx ha;have:=E.abs (f b) _ (hb b x hx).2 ha;rw[em] at this;exact this
theorem Zgc {bs:List Nat}{cells:List (List Value×TypeId)}(hl:cells.length=bs.length) {i:Nat}{x:List Value×TypeId}(h:(⟨bs.length,cells.reverse⟩:Hp).blk? i=some x):i<bs.length∧(bs.getD i 0,x)∈bs.zip cells:=by
 have hi:i<bs.length:=Hp.blk_lt h;refine⟨hi,?_⟩;unfold Hp.blk? at h;rw[if_pos (Zl.2 hi)] at h;have h':cells.reverse[bs.length-1-i]? =some x:=h;rw[List.getElem?_reverse (by omega),show cells.length-1-(bs.length-1-i)=i by omega] at h';refine List.mem_of_getElem? (i:=i) ?_;rw[List.getElem?_zip_eq_some];exact⟨by rw[List.getD_eq_getElem?_getD,List.getElem?_eq_getElem hi];rfl,h'⟩
theorem RunsW.preP {T:Tab}{c:Code}{P:Ex→Lf→Prop}{front:List Value}(o:List (Option Value)) {n:Nat}{h:Hp}(bs:List Nat) (cells:List (List Value×TypeId)) {s s':List Dec}{g:Nat→Value}(hr:∀ j g,RunsW T c (Zga j o++tl n g,⟨bs.length,cells.reverse⟩,s') P)
  (hl:cells.length=bs.length) (h0:0<bs.length) (hf:Z40 (fun i=>bs.getD i 0) o front) (hx:∀ q∈bs.zip cells,(q.2.1.all (lt1 bs.length))=true∧h.blk? q.1=some (q.2.1.map (rn1 fun i=>bs.getD i 0),q.2.2)) (hd:bs.Nodup) (hw:(o.all fun x=>x.all (lt bs.length))=true):
  RunsW T c (front++tl n g,h,s) P:=by
 intro m B a w R Q hQ;obtain⟨j,j1,j2⟩:=Zgb (m:=m) h0 o front hf fun v hv=>List.all_eq_true.1 hw _ hv;obtain⟨g',hg⟩:=Zgu (J:=(tl n g).map (fun v=>Value.iface zo (mv m v))) (n:=n) (by simp [ZeR]);have R2:Rel (fun i=>m (bs.getD i 0)) B (Zga j o++tl n g',⟨bs.length,cells.reverse⟩,s) a w:=by
  refine Zs5 R (fun i=>bs.getD i 0) (by simp [hl]) (fun i x hi=> ?_) (fun i k x y hi hk hik=> ?_) ?_ ?_
  ·obtain⟨_,q⟩:=Zgc hl hi;exact hx _ q
  ·obtain⟨q1,_⟩:=Zgc hl hi;obtain⟨q2,_⟩:=Zgc hl hk;have e1:bs.getD i 0=bs[i]:=by rw[List.getD_eq_getElem?_getD,List.getElem?_eq_getElem q1];rfl
   have e2:bs.getD k 0=bs[k]:=by rw[List.getD_eq_getElem?_getD,List.getElem?_eq_getElem q2];rfl
   rw[e1,e2] at hik;have hp:=List.pairwise_iff_getElem.1 hd;rcases Nat.lt_trichotomy i k with c | c | c
   ·exact absurd hik (hp i k q1 q2 c)
   ·exact c
   ·exact absurd hik.symm (hp k i q2 q1 c)
  ·rw[List.map_append,List.map_append,j1,← hg,List.map_map];congr 1
  ·intro v hv;rcases List.mem_append.1 hv with hv | hv
   ·exact j2 v hv
   ·rw[← hg] at hv;obtain⟨u,_,rfl⟩:=List.mem_map.1 hv;simp [lt,lt2,lt1,h0,zo]
 exact hr j g' _ B a w ⟨R2.tmps,R2.dfr,R2.emb,R2.wf⟩ Q hQ
theorem Zj7 (f:Nat→Nat):rn f undef=undef:=by kernel_rfl
end Go.KRun
namespace Go.Proofs.YtgefjidphfdhdaaGreatDoor
open Go.Proofs.Tryz
open Go.KRun Go.Nt Go.Wd Go.Rn Go.Pt
set_option maxRecDepth 100000
set_option linter.unusedVariables false
def Z41:Hc:=ZY 34 Zxe hcN
theorem Zy3:HcOk Z41:=Zt func34 rfl Zex zp
def Zs6:Con:=alt 47 (gU vT) Zo
theorem Zs7:ConOk Zs6:=ZM func47 rfl Zt9 Zd
theorem Zy4:f28.body=some (Zs f28):=by kernel_rfl
theorem Z7Z (p:Int):Zg (evC (Zk prog Zf Zs6 Z41) 200 false (Zs f28) ([.int .u64 p]++List.replicate 13 undef,⟨0,[]⟩,[]) ⟨[],[],[]⟩) 3 11 (some none) [.int .u64 p,undef,.pointer (some ⟨0,0,none⟩)] ⟨3,[(wU (d16 (sg p).toNat),tU),([.bool (sgn p),.int .i64 (cl p),.int .i64 (xp p),.int .u64 (sg p)],77),bOf (sgn p) (xp p) (sOf 2 (sg p).toNat)]⟩ [(decide (0≤sg p∧sg p<18446744073709551616),true),(decide (U p),true)]:=by and_intros<;>kernel_rfl
def gPt:Zae:=fun vals h s=>
 match vals with
 | [.int .u64 p]=>some (vRN (sgn p) (xp p) (sOf h.n (sg p).toNat),h.push (wU (d16 (sg p).toNat)) tU,s,[(decide (U p),true)])
 | _=>none
theorem Z3n:Z6 28 gPt:=by
 intro vals h s v h' s' lg hg hl m B w E hv;unfold gPt at hg;split at hg
 ·rename_i p;cases hg;have q:=hl _ Xf;have hs:=sg_lt p;have hr:RunsW (Zk prog Zf Zs6 Z41) (Zs f28) ([.int .u64 p]++List.replicate 13 undef,⟨0,[]⟩,[]) fun e z=>(e=none∨e=some none)∧∃ k,ZV prog f28 z.1 z.2.1=some (vRN (sgn p) (xp p) (sOf k (sg p).toNat))∧∃ r,z.2.1.blk? k=some (wU (d16 (sg p).toNat)++r,tU):=by
   refine (Zb (Zh Zs7 Zy3) (Z7Z p) (Za (Xa ⟨hs.1,by omega⟩) (Z5 q))).mono fun e z he=> ?_;obtain⟨rfl,⟨g,e1⟩,e2⟩:=he;exact⟨.inr rfl,2,by rw[e1,e2];rfl,[],by rw[e2,List.append_nil];rfl⟩
  have:=ZbS (T:=Zk prog Zf Zs6 Z41) func28 Zy4 (h0:=⟨0,[]⟩) ⟨rfl,fun b x hx=>by have:b<0:=Hp.blk_lt hx;omega⟩ (vals:=[.int .u64 p]) (fun v hv=>by rw[List.mem_singleton.1 hv];rfl) (v:=fun k=>vRN (sgn p) (xp p) (sOf k (sg p).toNat)) (ZaX _) (by kernel_rfl) hr (fun k=>by simp [oc,oc2,oc1,sOf,sl,vRN]) E (s:=fun i=>i) (fun i x hx _=>by have:i<0:=Hp.blk_lt hx;omega) (fun k=>by simp [rn,rn2,rn1,sOf,sl,vRN]);exact this
 ·cases hg
end Go.Proofs.YtgefjidphfdhdaaGreatDoor
namespace Go.Proofs.YtgefjidphfdhdaaGreatDoor
open Go.KRun Go.Nt Go.Pt Go.Rn
set_option maxRecDepth 100000
def Z8a:Zae:=fun vals h s=>
 match vals,s with
 | [.int .u64 p],.inr (.inr (.inr (.inl d)))::s'=>some (vRN d (xp p) (sOf h.n (sg p).toNat),h.push (wU (d16 (sg p).toNat)) tU,s',[(sgn p,d),(decide (U p),true)])
 | _,_=>none
theorem Zy5:Z6 28 Z8a:=by
 intro vals h s v h' s' lg hg hl;unfold Z8a at hg;split at hg
 ·rename_i p d s2;cases hg;obtain⟨l1,l2⟩:=Zdm hl;have l1:sgn p=d:=l1;refine Z3n _ h [] _ _ [] _ ?_ l2;simp only[gPt,l1]
 ·cases hg
end Go.Proofs.YtgefjidphfdhdaaGreatDoor
