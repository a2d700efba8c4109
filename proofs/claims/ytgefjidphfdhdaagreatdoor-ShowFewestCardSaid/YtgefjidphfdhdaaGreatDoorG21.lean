/-
  RdF, RdG, ShD, ShE, ShQ, ShR, ShS, ShT, ShV, RdH, SuN, RdI
-/
import Derived.Test.YtgefjidphfdhdaaGreatDoorG20
namespace Go.Proofs.YtgefjidphfdhdaaGreatDoor
open Go.Proofs.Tryz
open Go.IntKind
open Go.KRun Go.Nt Go.Rd
set_option maxRecDepth 100000
def ZeB:Hc:=zm 67 Zw0 (zm 111 Z8f hcT)
theorem Zza:HcOk ZeB:=Zu func67 rfl Zry (Zu func111 rfl Zyc Z4e)
theorem Ze5:TabOk (Zk prog Zf ZJ ZeB):=Zg Zce Zza
def Z4f (F:Func):List Code:=[sP F 0,sP F 1]
def dnL (F:Func):Code:=cIn (cIn (sP F 2))
theorem Zpl:f57.body=some (zg (Z4f f57) (.seq (.block 0 (.loop (dnL f57))) (sK f57 3))):=by kernel_rfl
def tX (n:Bool) (b:Int) (D:List UInt8) (k P:Int):Value:= .agg #[.bool n,.int .i64 b,bR D,.int .i64 k,.int .i64 P]
def tC9 (n:Bool) (b:Int) (D:List UInt8) (k P:Int):List Value×TypeId:=([.bool n,.int .i64 b,bR D,.int .i64 k,.int .i64 P],94)
def nZ:List Value×TypeId:=([.bool false,.int .i64 0,Zm],56)
def dnM (n:Bool) (b:Int) (D:List UInt8) (k P:Int):Hp:=⟨2,[nZ,tC9 n b D k P]⟩
def dnF (n:Bool) (b:Int) (D:List UInt8) (k P:Int) (l:List UInt8):List Value:=[tX n b D k P,pO 0,pO 1,bR l]
def dnN (n:Bool) (b:Int) (D:List UInt8) (k P:Int) (Z:List Value×TypeId) (L:List Nat):Hp:=⟨2+L.length,(L.map w16).reverse++[Z,tC9 n b D k P]⟩
theorem Z4g (n:Bool) (b:Int) (D:List UInt8) (k P:Int):Zh (evL (Zk prog Zf ZJ ZeB) 100 (Z4f f57) ([tX n b D k P]++List.replicate 107 undef,⟨0,[]⟩,[]) ⟨[],[],[]⟩) 4 104 none (dnF n b D k P D) (dnM n b D k P) []:=by and_intros<;>kernel_rfl
def upD (n:Bool) (b:Int) (D:List UInt8) (k P:Int) (A B:Nat):Int:=(if 0>(i64.wrap (i64.wrap (((bl (vO (dnN n b D k P nZ [A,B]) (Zad 3) (d16 B).length):Nat):Int)-((bl (vO (dnN n b D k P nZ [A,B]) (Zad 2) (d16 A).length):Nat):Int))+80)) then 0 else (i64.wrap (i64.wrap (((bl (vO (dnN n b D k P nZ [A,B]) (Zad 3) (d16 B).length):Nat):Int)-((bl (vO (dnN n b D k P nZ [A,B]) (Zad 2) (d16 A).length):Nat):Int))+80)))
theorem ZAl (n:Bool) (b:Int) (D:List UInt8) (k P:Int) (g:Nat→Value):Zh (evC (Zk prog Zf ZJ ZeB) 100 false (dnL f57) (dnF n b D k P []++tl 104 g,dnM n b D k P,[cmp false]) ⟨[],[],[]⟩) 4 104 (some (some 0)) (dnF n b D k P []) (dnM n b D k P) [(false,false)]:=by and_intros<;>kernel_rfl
theorem ZAm (n:Bool) (b:Int) (D:List UInt8) (k P:Int) (c:UInt8) (l:List UInt8) (g:Nat→Value):Zh (evC (Zk prog Zf ZJ ZeB) 100 false (dnL f57) (dnF n b D k P (c::l)++tl 104 g,dnM n b D k P,[cmp true,cmp false]) ⟨[],[],[]⟩) 4 104 (some (some 0)) (dnF n b D k P (c::l)) (dnM n b D k P) [(lq8 c==48,false),(decide ((0:Int)≤0∧0<(c::l).length),true),(decide ((((c::l).length:Nat):Int)>0),true)]:=by and_intros<;>kernel_rfl
theorem ZAn (n:Bool) (b:Int) (D:List UInt8) (k P:Int) (c:UInt8) (l:List UInt8) (g:Nat→Value):Zh (evC (Zk prog Zf ZJ ZeB) 100 false (dnL f57) (dnF n b D k P (c::l)++tl 104 g,dnM n b D k P,[cmp true,cmp true,sam true]) ⟨[],[],[]⟩) 4 104 none (dnF n b D k P l) (dnM n b D k P) [(decide ((0:Int)≤1∧(1:Int)≤(((c::l).length:Nat):Int)),true),(lq8 c==48,true),(decide ((0:Int)≤0∧0<(c::l).length),true),(decide ((((c::l).length:Nat):Int)>0),true)]:=by and_intros<;>kernel_rfl
theorem ZAo (n:Bool) (b:Int) (D:List UInt8) (k P:Int) (l:List UInt8) (g:Nat→Value):Zh (evC (Zk prog Zf ZJ ZeB) 200 false (sK f57 3) (dnF n b D k P l++tl 104 g,dnM n b D k P,[sam true]) ⟨[],[],[]⟩) 3 105 (some none) [tX n b D k P,pO 0,pO 1] ⟨2,[bOf n 0 Zm,tC9 n b D k P]⟩ [((⟨⟨l⟩⟩:ByteArray)==⟨⟨[]⟩⟩,true)]:=by and_intros<;>kernel_rfl
theorem ZAp (n:Bool) (b:Int) (D:List UInt8) (k P:Int) (l:List UInt8) (V:Nat) (g:Nat→Value):Zh (evC (Zk prog Zf ZJ ZeB) 200 false (sK f57 3) (dnF n b D k P l++tl 104 g,dnM n b D k P,[sam false,cmp true,num V]) ⟨[],[],[]⟩) 3 105 (some none) [tX n b D k P,pO 0,pO 1] (dnN n b D k P (bOf n (i64.wrap (P-i64.wrap (4*k))) (sOf 2 V)) [V]) [(decide (nmB 16 l=V),true),(Zs1 16 l,true),(b==16,true),((⟨⟨l⟩⟩:ByteArray)==⟨⟨[]⟩⟩,false)]:=by and_intros<;>kernel_rfl
theorem ZAq (n:Bool) (b:Int) (D:List UInt8) (k P:Int) (l:List UInt8) (g:Nat→Value):Zh (evC (Zk prog Zf ZJ ZeB) 200 false (sK f57 3) (dnF n b D k P l++tl 104 g,dnM n b D k P,[sam false,cmp false,cmp true]) ⟨[],[],[]⟩) 3 105 (some none) [tX n b D k P,pO 0,pO 1] (dnN n b D k P (bOf n 3000 (sOf 2 1)) [1]) [(true,true),(decide ((i64.wrap ((i64.wrap (P-k))+((l.length:Nat):Int)))>320),true),(b==16,false),((⟨⟨l⟩⟩:ByteArray)==⟨⟨[]⟩⟩,false)]:=by and_intros<;>kernel_rfl
theorem ZAr (n:Bool) (b:Int) (D:List UInt8) (k P:Int) (l:List UInt8) (g:Nat→Value):Zh (evC (Zk prog Zf ZJ ZeB) 200 false (sK f57 3) (dnF n b D k P l++tl 104 g,dnM n b D k P,[sam false,cmp false,cmp false,cmp true]) ⟨[],[],[]⟩) 3 105 (some none) [tX n b D k P,pO 0,pO 1] (dnN n b D k P (bOf n (-3000) (sOf 2 1)) [1]) [(true,true),(decide ((i64.wrap ((i64.wrap (P-k))+((l.length:Nat):Int)))< -340),true),(decide ((i64.wrap ((i64.wrap (P-k))+((l.length:Nat):Int)))>320),false),(b==16,false),((⟨⟨l⟩⟩:ByteArray)==⟨⟨[]⟩⟩,false)]:=by and_intros<;>kernel_rfl
theorem ZAs (n:Bool) (b:Int) (D:List UInt8) (k P:Int) (l:List UInt8) (A B V:Nat) (g:Nat→Value):Zh (evC (Zk prog Zf ZJ ZeB) 200 false (sK f57 3) (dnF n b D k P l++tl 104 g,dnM n b D k P,[sam false,cmp false,cmp false,cmp false,num A,cmp true,cmp true,num B,num V]) ⟨[],[],[]⟩) 3 105 (some none) [tX n b D k P,pO 0,pO 1] (dnN n b D k P (bOf n 0 (sOf 4 V)) [A,B,V]) [(decide ((vO (dnN n b D k P nZ [A,B]) (Zad 2) (d16 A).length)*(vO (dnN n b D k P nZ [A,B]) (Zad 3) (d16 B).length)=V),true),(ZtE (dnN n b D k P nZ [A,B]) (Zad 2) (Zad 3) (d16 A).length (d16 A).length (d16 B).length (d16 B).length,true),(decide ((10:Int).toNat^(i64.wrap (P-k)).toNat=B),true),(Zzx 10 (i64.wrap (P-k)),true),(decide ((10:Int)=0∧2≤(i64.wrap (P-k))),false),(decide ((i64.wrap (P-k))≥0),true),(decide (nmB 10 l=A),true),(Zs1 10 l,true),(decide ((i64.wrap ((i64.wrap (P-k))+((l.length:Nat):Int)))< -340),false),(decide ((i64.wrap ((i64.wrap (P-k))+((l.length:Nat):Int)))>320),false),(b==16,false),((⟨⟨l⟩⟩:ByteArray)==⟨⟨[]⟩⟩,false)]:=by and_intros<;>kernel_rfl
theorem ZAt (n:Bool) (b:Int) (D:List UInt8) (k P:Int) (l:List UInt8) (A B X Q R Y:Nat) (g:Nat→Value):Zh (evC (Zk prog Zf ZJ ZeB) 200 false (sK f57 3) (dnF n b D k P l++tl 104 g,dnM n b D k P,[sam false,cmp false,cmp false,cmp false,num A,cmp false,cmp true,num B,cmp true,num X,num Q,num R,cmp true,num Y,cmp false]) ⟨[],[],[]⟩) 3 105 (some none) [tX n b D k P,pO 0,pO 1] (dnN n b D k P (bOf n (i64.wrap (i64.wrap (0-(upD n b D k P A B))-1)) (sOf 7 Y)) [A,B,X,Q,R,Y]) [(decide (((d16 R).length:Int)>0),false),(decide ((vO (dnN n b D k P nZ [A,B,X,Q,R]) (Zad 5) (d16 Q).length)*2^(1:Int).toNat=Y),true),(ZsC (dnN n b D k P nZ [A,B,X,Q,R]) (Zad 5) (d16 Q).length (d16 Q).length 1,true),(decide (0<(d16 Q).length),true),(decide ((vO (dnN n b D k P nZ [A,B,X]) (Zad 4) (d16 X).length)/(vO (dnN n b D k P nZ [A,B,X]) (Zad 3) (d16 B).length)=Q∧(vO (dnN n b D k P nZ [A,B,X]) (Zad 4) (d16 X).length) % (vO (dnN n b D k P nZ [A,B,X]) (Zad 3) (d16 B).length)=R),true),(Zu3 (dnN n b D k P nZ [A,B,X]) (Zad 4) (Zad 3) (d16 X).length (d16 X).length (d16 B).length (d16 B).length,true),(decide ((vO (dnN n b D k P nZ [A,B]) (Zad 2) (d16 A).length)*2^(upD n b D k P A B).toNat=X),true),(ZsC (dnN n b D k P nZ [A,B]) (Zad 2) (d16 A).length (d16 A).length (upD n b D k P A B),true),(decide (0<(d16 A).length),true),(zP (dnN n b D k P nZ [A,B]) (Zad 2) (d16 A).length (d16 A).length && Zf6 (Zn (dnN n b D k P nZ [A,B]) (Zad 2) (d16 A).length) && Nat.blt (d16 A).length 1073741824,true),(zP (dnN n b D k P nZ [A,B]) (Zad 3) (d16 B).length (d16 B).length && Zf6 (Zn (dnN n b D k P nZ [A,B]) (Zad 3) (d16 B).length) && Nat.blt (d16 B).length 1073741824,true),(decide ((10:Int).toNat^(i64.wrap (0-(i64.wrap (P-k)))).toNat=B),true),(Zzx 10 (i64.wrap (0-(i64.wrap (P-k)))),true),(decide ((10:Int)=0∧2≤(i64.wrap (0-(i64.wrap (P-k))))),false),(decide ((i64.wrap (P-k))≥0),false),(decide (nmB 10 l=A),true),(Zs1 10 l,true),(decide ((i64.wrap ((i64.wrap (P-k))+((l.length:Nat):Int)))< -340),false),(decide ((i64.wrap ((i64.wrap (P-k))+((l.length:Nat):Int)))>320),false),(b==16,false),((⟨⟨l⟩⟩:ByteArray)==⟨⟨[]⟩⟩,false)]:=by and_intros<;>kernel_rfl
theorem ZAu (n:Bool) (b:Int) (D:List UInt8) (k P:Int) (l:List UInt8) (A B X Q R Y V:Nat) (g:Nat→Value):Zh (evC (Zk prog Zf ZJ ZeB) 200 false (sK f57 3) (dnF n b D k P l++tl 104 g,dnM n b D k P,[sam false,cmp false,cmp false,cmp false,num A,cmp false,cmp true,num B,cmp true,num X,num Q,num R,cmp true,num Y,cmp true,cmp true,num V]) ⟨[],[],[]⟩) 3 105 (some none) [tX n b D k P,pO 0,pO 1] (dnN n b D k P (bOf n (i64.wrap (i64.wrap (0-(upD n b D k P A B))-1)) (sOf 9 V)) [A,B,X,Q,R,Y,1,V]) [(decide ((vO (dnN n b D k P nZ [A,B,X,Q,R,Y,1]) (Zad 7) (d16 Y).length)+(vO (dnN n b D k P nZ [A,B,X,Q,R,Y,1]) (Zad 8) (d16 1).length)=V),true),(ZV (dnN n b D k P nZ [A,B,X,Q,R,Y,1]) (Zad 7) (Zad 8) (d16 Y).length (d16 Y).length (d16 1).length (d16 1).length,true),(decide (0<(d16 Y).length∨0<(d16 1).length),true),(true,true),(decide (((d16 R).length:Int)>0),true),(decide ((vO (dnN n b D k P nZ [A,B,X,Q,R]) (Zad 5) (d16 Q).length)*2^(1:Int).toNat=Y),true),(ZsC (dnN n b D k P nZ [A,B,X,Q,R]) (Zad 5) (d16 Q).length (d16 Q).length 1,true),(decide (0<(d16 Q).length),true),(decide ((vO (dnN n b D k P nZ [A,B,X]) (Zad 4) (d16 X).length)/(vO (dnN n b D k P nZ [A,B,X]) (Zad 3) (d16 B).length)=Q∧(vO (dnN n b D k P nZ [A,B,X]) (Zad 4) (d16 X).length) % (vO (dnN n b D k P nZ [A,B,X]) (Zad 3) (d16 B).length)=R),true),(Zu3 (dnN n b D k P nZ [A,B,X]) (Zad 4) (Zad 3) (d16 X).length (d16 X).length (d16 B).length (d16 B).length,true),(decide ((vO (dnN n b D k P nZ [A,B]) (Zad 2) (d16 A).length)*2^(upD n b D k P A B).toNat=X),true),(ZsC (dnN n b D k P nZ [A,B]) (Zad 2) (d16 A).length (d16 A).length (upD n b D k P A B),true),(decide (0<(d16 A).length),true),(zP (dnN n b D k P nZ [A,B]) (Zad 2) (d16 A).length (d16 A).length && Zf6 (Zn (dnN n b D k P nZ [A,B]) (Zad 2) (d16 A).length) && Nat.blt (d16 A).length 1073741824,true),(zP (dnN n b D k P nZ [A,B]) (Zad 3) (d16 B).length (d16 B).length && Zf6 (Zn (dnN n b D k P nZ [A,B]) (Zad 3) (d16 B).length) && Nat.blt (d16 B).length 1073741824,true),(decide ((10:Int).toNat^(i64.wrap (0-(i64.wrap (P-k)))).toNat=B),true),(Zzx 10 (i64.wrap (0-(i64.wrap (P-k)))),true),(decide ((10:Int)=0∧2≤(i64.wrap (0-(i64.wrap (P-k))))),false),(decide ((i64.wrap (P-k))≥0),false),(decide (nmB 10 l=A),true),(Zs1 10 l,true),(decide ((i64.wrap ((i64.wrap (P-k))+((l.length:Nat):Int)))< -340),false),(decide ((i64.wrap ((i64.wrap (P-k))+((l.length:Nat):Int)))>320),false),(b==16,false),((⟨⟨l⟩⟩:ByteArray)==⟨⟨[]⟩⟩,false)]:=by and_intros<;>kernel_rfl
end Go.Proofs.YtgefjidphfdhdaaGreatDoor
namespace Go.Proofs.YtgefjidphfdhdaaGreatDoor
open Go.Proofs.Tryz
open Go.IntKind
open Go.KRun Go.Nt Go.Rd Go.Rn
set_option maxRecDepth 100000
def dnS (n:Bool) (b:Int) (D:List UInt8) (k P:Int) (l:List UInt8) (y:Lf):Prop:=trZ l=trZ D∧∃ g,y.1=dnF n b D k P l++tl 104 g∧y.2.1=dnM n b D k P
theorem ZsT {n:Bool}{b:Int}{D:List UInt8}{k P:Int}(r:Nat) (y:Lf) (h:∃ l,r=l.length∧dnS n b D k P l y):
  RunsW (Zk prog Zf ZJ ZeB) (dnL f57) y fun e z=>match e with | none=>∃ r',r'<r∧∃ l,r'=l.length∧dnS n b D k P l z | some none=>False | some (some id')=>id'=0∧dnS n b D k P (trZ D) z:=by
 obtain⟨l,hr,hz,g,ht,hh⟩:=h;obtain⟨t,h',sc⟩:=y;simp only at ht hh;subst ht hh;cases l with
 | nil=>
  refine (Zc (s0:=sc) Ze5 (ZAl n b D k P g) (Z6 rfl)).mono fun e z he=> ?_;obtain⟨rfl,⟨g',z1⟩,z2⟩:=he;have e0:trZ D=[]:=hz.symm;rw[e0];exact⟨rfl,e0.symm ▸ rfl,g',z1,z2⟩
 | cons c l=>
  have l0:decide ((((c::l).length:Nat):Int)>0)=true:=Xa (by rw[List.length_cons];omega);have l1:decide ((0:Int)≤0∧0<(c::l).length)=true:=Xa ⟨by omega,by rw[List.length_cons];omega⟩;by_cases hc:lq8 c=48
  ·refine (Zc (s0:=sc) Ze5 (ZAn n b D k P c l g) (Za (Xa ⟨by omega,by rw[List.length_cons];omega⟩) (Za (ZN hc) (Za l1 (Z6 l0))))).mono fun e z he=> ?_;obtain⟨rfl,⟨g',z1⟩,z2⟩:=he;rw[ZcF,if_pos hc] at hz;exact⟨l.length,by rw[hr,List.length_cons];omega,l,rfl,hz,g',z1,z2⟩
  ·refine (Zc (s0:=sc) Ze5 (ZAm n b D k P c l g) (Za (ZE hc) (Za l1 (Z6 l0)))).mono fun e z he=> ?_;obtain⟨rfl,⟨g',z1⟩,z2⟩:=he;have e0:trZ D=c::l:=by rw[← hz,ZcF,if_neg hc]
   rw[e0];refine⟨rfl,?_,g',z1,z2⟩;rw[e0,ZcF,if_neg hc]
def Zzb (b:Int) (D:List UInt8) (k P:Int):Bool:=decide ((b=10∨b=16)∧D.length≤10000∧(0≤k∧k≤10000)∧ -2000000≤P∧P≤2000000) && Zac b D
def dnZ (n:Bool) (V:Nat) (E:Int) (e:Ex) (z:Lf):Prop:=(e=none∨e=some none)∧∃ j,ZW prog f57 z.1 z.2.1=some (vRN n E (sOf j V))∧∃ r,z.2.1.blk? j=some (wU (d16 V)++r,tU)
theorem ZcO {A j:Nat}(h:A<2^j):(d16 A).length≤j/16+1:=Zev (Nat.lt_of_lt_of_le h (Nat.pow_le_pow_right (by omega) (by omega)))
theorem Za9 {A:Nat}(h:0<A):0<(d16 A).length:=Zyj.2 h
theorem Z4h {h:Hp}{b V:Nat}(hb:h.blk? b=some (wU (d16 V),tU)) (hl:(d16 V).length<100000):(zP h (Zad b) (d16 V).length (d16 V).length && Zf6 (Zn h (Zad b) (d16 V).length) && Nat.blt (d16 V).length 1073741824)=true:=by
 unfold Zad;rw[ZQ hb (by omega),ZaJ hb,show Zf6 (d16 V)=true from Zdj (Zei (by omega) _),Zl.2 (by omega)];rfl
theorem Z9r {h:Hp}{b V:Nat}{i:Int}(hb:h.blk? b=some (wU (d16 V),tU)) (hl:(d16 V).length<100000) (h0:0≤i) (h1:i<100000):ZsC h (Zad b) (d16 V).length (d16 V).length i=true:=by
 unfold ZsC Zad;rw[ZQ hb (by omega),zY hb,Zl.2 (by omega),Xa h0];rfl
theorem Zzc {n:Bool}{b:Int}{D:List UInt8}{k P:Int}{c:UInt8}{l:List UInt8}(hb:b=10∨b=16) (hD:(c::l).length≤10000) (hk:0≤k∧k≤10000) (hP: -2000000≤P∧P≤2000000) (hA:Zac b (c::l)=true) (hc:0<zl (lq8 c) b) (g:Nat→Value) (s:List Dec):
  RunsW (Zk prog Zf ZJ ZeB) (sK f57 3) (dnF n b D k P (c::l)++tl 104 g,dnM n b D k P,s) (dnZ n (dnA b (c::l) k P).1 (dnA b (c::l) k P).2):=by
 have hE:((⟨⟨c::l⟩⟩:ByteArray)==⟨⟨[]⟩⟩)=false:=by rw[ZeZ];exact Xb (by simp)
 have hby:byR (c::l) 0=lq8 c:=rfl;have hok:Zs1 b (c::l)=true:=by
  unfold Zs1;rw[hA,hby,Xa hc,Xa ⟨hb,by omega⟩];rfl
 have hnp:=ZhJ hb (r:=l) hc;have hnb:=Zn3 hb (c::l);unfold dnA;by_cases h16:b=16
 ·rw[if_pos h16];subst h16;have hg:=ZAp n 16 D k P (c::l) (nmB 16 (c::l)) g;rw[Zv (n:=4*k) (by omega) (by omega),Zv (by omega) (by omega)] at hg;refine (Zc (s0:=s) Ze5 hg (Za (Xa rfl) (Za hok (Za (by decide) (Z6 hE))))).mono fun e z he=> ?_;obtain⟨rfl,⟨g',z1⟩,z2⟩:=he;exact⟨.inr rfl,2,by rw[z1,z2];rfl,[],by rw[z2,List.append_nil];rfl⟩
 rw[if_neg h16];have h10:b=10:=by omega
 subst h10;have k16:((10:Int)==16)=false:=by decide
 obtain⟨L,hL⟩:∃ L,L=(c::l).length:=⟨_,rfl⟩;have ePl:i64.wrap (P-k)=P-k:=Zv (by omega) (by omega);have eSm:i64.wrap (P-k+((L:Nat):Int))=P-k+((L:Nat):Int):=Zv (by omega) (by omega);by_cases ho:320<P-k+(((c::l).length:Nat):Int)
 ·rw[if_pos ho];have hg:=ZAq n 10 D k P (c::l) g;rw[ePl,← hL,eSm] at hg;rw[← hL] at ho;refine (Zc (s0:=s) Ze5 hg (Za rfl (Za (Xa (by omega)) (Za k16 (Z6 hE))))).mono fun e z he=> ?_;obtain⟨rfl,⟨g',z1⟩,z2⟩:=he;exact⟨.inr rfl,2,by rw[z1,z2];rfl,[],by rw[z2,List.append_nil];rfl⟩
 rw[if_neg ho];by_cases hu:P-k+(((c::l).length:Nat):Int)< -340
 ·rw[if_pos hu];have hg:=ZAr n 10 D k P (c::l) g;rw[ePl,← hL,eSm] at hg;rw[← hL] at ho hu;refine (Zc (s0:=s) Ze5 hg (Za rfl (Za (Xa (by omega)) (Za (Xb (by omega)) (Za k16 (Z6 hE)))))).mono fun e z he=> ?_;obtain⟨rfl,⟨g',z1⟩,z2⟩:=he;exact⟨.inr rfl,2,by rw[z1,z2];rfl,[],by rw[z2,List.append_nil];rfl⟩
 rw[if_neg hu];rw[← hL] at ho hu hnb hD;obtain⟨A,hAA⟩:∃ A,A=nmB 10 (c::l):=⟨_,rfl⟩;rw[← hAA] at hnp hnb ⊢;have lA:=ZcO hnb;have b2:Zx [(decide (nmB 10 (c::l)=A),true),(Zs1 10 (c::l),true),(decide (P-k+((L:Nat):Int)< -340),false),(decide (P-k+((L:Nat):Int)>320),false),((10:Int)==16,false),((⟨⟨c::l⟩⟩:ByteArray)==⟨⟨[]⟩⟩,false)]:=Za (Xa hAA.symm) (Za hok (Za (Xb hu) (Za (Xb (by omega)) (Za k16 (Z6 hE)))));by_cases hp:0≤P-k
 ·rw[if_pos hp];obtain⟨B,hB⟩:∃ B,B=10^(P-k).toNat:=⟨_,rfl⟩;rw[← hB];have tb:=ZdJ (P-k).toNat;rw[← hB] at tb;have lB:=ZcO tb;have hg:=ZAs n 10 D k P (c::l) A B (A*B) g;rw[ePl,← hL,eSm] at hg;refine (Zc (s0:=s) Ze5 hg (Za (Xa (by rw[Ze9 (V:=A) rfl,Ze9 (V:=B) rfl])) (Za (oMu (V:=A) (W:=B) rfl rfl (by omega) (by omega)) (Za (Xa hB.symm) (Za (Xa ⟨by omega,by omega,by omega,by omega⟩) (Za (Xb (by omega)) (Za (Xa hp) b2))))))).mono fun e z he=> ?_;obtain⟨rfl,⟨g',z1⟩,z2⟩:=he;exact⟨.inr rfl,4,by rw[z1,z2];rfl,[],by rw[z2,List.append_nil];rfl⟩
 rw[if_neg hp];obtain⟨B,hB⟩:∃ B,B=10^(k-P).toNat:=⟨_,rfl⟩;rw[← hB];have tb:=ZdJ (k-P).toNat;have B0:0<B:=by rw[hB];exact Nat.pow_pos (by omega)
 rw[← hB] at tb;have lB:=ZcO tb;have eNp:i64.wrap (0-(P-k))=k-P:=by rw[Zv (by omega) (by omega)];omega
 have vA:vO (dnN n 10 D k P nZ [A,B]) (Zad 2) (d16 A).length=A:=Ze9 (V:=A) rfl;have vB:vO (dnN n 10 D k P nZ [A,B]) (Zad 3) (d16 B).length=B:=Ze9 (V:=B) rfl;have bA:=len_le hnb;have bB:=len_le tb;have eU:upD n 10 D k P A B=((upN A B:Nat):Int):=by
  unfold upD;rw[vA,vB,ZbR,ZbR,Zv (n:=((bitLen B:Nat):Int)-((bitLen A:Nat):Int)) (by omega) (by omega),Zv (by omega) (by omega)];unfold upN;split<;>omega
 have hu1:upN A B≤41600:=by unfold upN;omega
 have hbig:=Zjd (A:=A) (B:=B) (by omega);obtain⟨X,hX⟩:∃ X,X=A*2^upN A B:=⟨_,rfl⟩;have hXb:X<2^(4*L+upN A B):=by rw[hX,Nat.pow_add];exact Nat.mul_lt_mul_of_pos_right hnb (Nat.pow_pos (by omega))
 have lX:=ZcO hXb;have X0:0<X:=by rw[hX];exact Nat.mul_pos hnp (Nat.pow_pos (by omega))
 rw[← hX] at hbig;have hQX:X/B≤X:=Nat.div_le_self _ _;have hQ0:0<X/B:=Nat.div_pos (Nat.le_trans (Nat.le_mul_of_pos_left B (by decide)) hbig) B0;have hRX:X % B≤X:=Nat.mod_le _ _;have lQ:=ZcO (Nat.lt_of_le_of_lt hQX hXb);have lR:=ZcO (Nat.lt_of_le_of_lt hRX hXb);have hYb:X/B*2+1<2^(4*L+upN A B+2):=by rw[Nat.pow_add];omega
 have lY:=ZcO (Nat.lt_of_le_of_lt (show X/B*2≤X/B*2+1 by omega) hYb);have lV:=ZcO hYb;obtain⟨Q,hQ⟩:∃ Q,Q=X/B:=⟨_,rfl⟩;obtain⟨R,hR⟩:∃ R,R=X % B:=⟨_,rfl⟩;rw[← hQ] at hQ0 lQ lY lV;rw[← hR] at lR;have eV:dvK A B (upN A B)=2*Q+(if R=0 then 0 else 1):=by unfold dvK;rw[← hX,← hQ,← hR]
 have eE:i64.wrap (i64.wrap (0-((upN A B:Nat):Int))-1)= -((upN A B:Nat):Int)-1:=by
  rw[Zv (n:=0-((upN A B:Nat):Int)) (by omega) (by omega),Zv (by omega) (by omega)];omega
 have ln2:=Z4h (h:=dnN n 10 D k P nZ [A,B]) (b:=2) (V:=A) rfl (by omega);have ln3:=Z4h (h:=dnN n 10 D k P nZ [A,B]) (b:=3) (V:=B) rfl (by omega);have mid:=Za (Xa (show vO (dnN n 10 D k P nZ [A,B,X,Q,R]) (Zad 5) (d16 Q).length*2^(1:Int).toNat=Q*2 by rw[Ze9 (V:=Q) rfl];rfl)) (Za (Z9r (h:=dnN n 10 D k P nZ [A,B,X,Q,R]) (b:=5) (V:=Q) (i:=1) rfl (by omega) (by omega) (by omega)) (Za (Xa (Za9 hQ0)) (Za (Xa (show vO (dnN n 10 D k P nZ [A,B,X]) (Zad 4) (d16 X).length/vO (dnN n 10 D k P nZ [A,B,X]) (Zad 3) (d16 B).length=Q∧vO (dnN n 10 D k P nZ [A,B,X]) (Zad 4) (d16 X).length % vO (dnN n 10 D k P nZ [A,B,X]) (Zad 3) (d16 B).length=R by rw[Ze9 (V:=X) rfl,Ze9 (V:=B) rfl];exact⟨hQ.symm,hR.symm⟩)) (Za (oPa (h:=dnN n 10 D k P nZ [A,B,X]) (b:=4) (b':=3) (V:=X) (W:=B) rfl rfl (by omega) (by omega) (Za9 X0) (Za9 B0)) (Za (Xa (show vO (dnN n 10 D k P nZ [A,B]) (Zad 2) (d16 A).length*2^(((upN A B:Nat):Int)).toNat=X by rw[vA,Xg,hX])) (Za (Z9r (h:=dnN n 10 D k P nZ [A,B]) (b:=2) (V:=A) (i:=((upN A B:Nat):Int)) rfl (by omega) (by omega) (by omega)) (Za (Xa (Za9 hnp)) (Za ln2 (Za ln3 (Za (Xa (show (10:Int).toNat^(k-P).toNat=B from hB.symm)) (Za (show Zzx 10 (k-P)=true from Xa ⟨by omega,by omega,by omega,by omega⟩) (Za (Xb (show ¬ ((10:Int)=0∧2≤k-P) by omega)) (Za (Xb (show ¬ P-k≥0 by omega)) b2)))))))))))));by_cases hR0:R=0
 ·have hg:=ZAt n 10 D k P (c::l) A B X Q R (Q*2) g;rw[eU,eE,ePl,eNp,← hL,eSm] at hg;rw[eV,if_pos hR0,show 2*Q+0=Q*2 by omega];refine (Zc (s0:=s) Ze5 hg (Za (Xb (by rw[hR0,ZvM];simp)) mid)).mono fun e z he=> ?_;obtain⟨rfl,⟨g',z1⟩,z2⟩:=he;exact⟨.inr rfl,7,by rw[z1,z2];rfl,[],by rw[z2,List.append_nil];rfl⟩
 ·have hg:=ZAu n 10 D k P (c::l) A B X Q R (Q*2) (Q*2+1) g;rw[eU,eE,ePl,eNp,← hL,eSm] at hg;rw[eV,if_neg hR0,show 2*Q+1=Q*2+1 by omega];have l1:=ZcO (A:=1) (j:=1) (by decide);refine (Zc (s0:=s) Ze5 hg (Za (Xa (by rw[Ze9 (V:=Q*2) rfl,Ze9 (V:=1) rfl])) (Za (ZAj (V:=Q*2) (W:=1) rfl rfl (by omega) (by omega)) (Za (Xa (.inl (Za9 (by omega)))) (Za rfl (Za (Xa (by have:=Za9 (A:=R) (by omega);omega)) mid)))))).mono fun e z he=> ?_;obtain⟨rfl,⟨g',z1⟩,z2⟩:=he;exact⟨.inr rfl,9,by rw[z1,z2];rfl,[],by rw[z2,List.append_nil];rfl⟩
end Go.Proofs.YtgefjidphfdhdaaGreatDoor
namespace Go.Proofs.YtgefjidphfdhdaaGreatDoor
open Go.KRun Go.Nt Go.Rd Go.Pt
set_option maxRecDepth 100000
def ZeC (p:Int):Int:=(sg p).tmod 4503599627370496
def Zu4 (p:Int):List UInt8:=(hxW (ZeC p)).data.toList.drop 3
end Go.Proofs.YtgefjidphfdhdaaGreatDoor
namespace Go.Proofs.YtgefjidphfdhdaaGreatDoor
open Go.KRun Go.Nt Go.Rd Go.Pt
set_option maxRecDepth 100000
set_option linter.unusedSimpArgs false
def Z4i (p:Int):List UInt8:=if spK p≠0 then spL (spK p) else if cl p=0 then (if sgn p=true then [45] else [])++[48,120,48,112,48] else if cl p=1 then Zz1 (sgn p) 48 (trR (Zu4 p)) (-1022) else Zz1 (sgn p) 49 (trR (Zu4 p)) (xp p+52)
end Go.Proofs.YtgefjidphfdhdaaGreatDoor
namespace Go.Proofs.YtgefjidphfdhdaaGreatDoor
open Go.Proofs.Tryz
open Go.KRun Go.Nt Go.Rd Go.Wd Go.Pt
set_option maxRecDepth 100000
def Z4j:Con:=alt 44 Z2A (alt 45 Z5o Zo)
theorem ZsU:ConOk Z4j:=ZI func44 rfl ZhZ (ZI func45 rfl Zof Zd)
def Zzd:Hc:=zm 46 (gT Z7t) hcN
theorem Zpm:HcOk Zzd:=Zu func46 rfl (ZfY Zxr) zO
theorem ZAv (b:Bool) (D:List UInt8) (e:Int):ZB (ZP (Zk prog Zf Z4j Zzd) hT0 200 23 [.bool b,vDc D e] [sam true,sam true,sam true]) (bR (((mnL b++ptL D)++[101])++Zbr e)) [(decide (((mnL b++ptL D)++[101]).length+(Zbr e).length≤9223372036854775807),true),(decide (e.natAbs≤2000000),true),(decide ((mnL b++ptL D).length+1≤9223372036854775807),true),(decide ((mnL b).length+(ptL D).length≤9223372036854775807),true),(decide (1≤D.length∧D.length≤100000),true)]:=by and_intros<;>kernel_rfl
theorem Zie (l:List UInt8):(ptL l).length≤l.length+1:=by
 unfold ptL;split
 ·simp
 ·simp
 ·simp only[List.length_cons];omega
theorem Z4k (b:Bool) (D:List UInt8) (e:Int):((mnL b++ptL D)++[101])++Zbr e=txL b D e:=by
 unfold txL mnL ptL;simp only[List.append_assoc,List.singleton_append];rfl
def Z8B:Ans:=fun vals s=>
 match vals with
 | [.bool b,v]=>
  match dc2 v with
  | some (D,e)=>some (bR (txL b D.data.toList e),s,[(decide (1≤D.data.toList.length∧D.data.toList.length≤100000∧e.natAbs≤2000000),true)])
  | none=>none
 | _=>none
theorem Zze:Zck 23 Z8B:=by
 intro vals s v s' lg h hl w hk;unfold Z8B at h;split at h
 ·split at h
  ·rename_i b v0 o D e hv;rw[Zjt hv];cases h;obtain⟨h1,h2,h3⟩:=Xc (hl _ Xf);have f:=ZAv b D.data.toList e;rw[Z4k] at f;have l1:=Zga b;have l2:=Zie D.data.toList;have l3:=ZdK e;exact Zcw (Zg ZsU Zpm) f (Za (Xa (by rw[List.length_append,List.length_append,List.length_singleton];omega)) (Za (Xa h3) (Za (Xa (by rw[List.length_append];omega)) (Za (Xa (by omega)) (Z6 (Xa ⟨h1,h2⟩)))))) (by rfl) (by rfl) hk
  ·cases h
 ·cases h
def Z4l (p:Int):Bool:=decide (ex p≠2047∧(sg p).toNat≠0)
theorem Zcx {p:Int}(h:Z4l p=true):Fin14 p:=by
 obtain⟨h1,h2⟩:=Xc h;have a:=Go.Rn.xp_bd p;have b:=Go.Rn.sg_lt p;exact⟨h1,h2,a.1,a.2,by omega⟩
def Z8C:Ans:=fun vals s=>
 match vals,s with
 | [v],.inr (.inl p)::s'=>
  match vP4 v with
  | some (m,c,e,q)=>some (vDc (sdD p) (sdE p),s',[(m==sgn p,true),(decide (c=cl p∧e=xp p∧q=sg p),true),(Z4l p,true)])
  | none=>none
 | _,_=>none
theorem Zzf:Zck 24 Z8C:=by
 intro vals s v s' lg h hl w hk;unfold Z8C at h;split at h
 ·split at h
  ·rename_i v0 p s2 o m c e q hv;rw[ZcI hv];cases h;have l1:(m==sgn p)=true:=hl _ Xe;obtain⟨l2,l3,l4⟩:=Xc (hl _ (Xd _ Xe));have l5:Z4l p=true:=hl _ (Xd _ (Xd _ Xf));rw[eq_of_beq l1,l2,l3,l4];exact Zsx (Zcx l5) w hk
  ·cases h
 ·cases h
theorem Zhg:z8 20 (gU vT):=Zsi Zku
def ZeD:Con:=alt 20 (gU vT) (alt 58 (gU fun p=> .int .i64 (cl p)) (alt 22 Z5p (alt 40 Zx9 (alt 39 Zok (alt 72 Z5n Zo)))))
theorem ZsV:ConOk ZeD:=ZI func20 rfl Zhg (ZI func58 rfl Zuo (ZI func22 rfl Zog (ZI func40 rfl Zsq (ZI func39 rfl Zol (ZI func72 rfl ZnZ Zd)))))
def Zp5:Hc:=zm 23 (gT Z8B) (zm 24 (gT Z8C) hcN)
theorem Zzg:HcOk Zp5:=Zu func23 rfl (ZfY Zze) (Zu func24 rfl (ZfY Zzf) zO)
theorem Zhh:TabOk (Zk prog Zf ZeD Zp5):=Zg ZsV Zzg
def shT (p:Int):List UInt8:=if spK p≠0 then spL (spK p) else if cl p=0 then txL (sgn p) [48] 0 else shS p
theorem Z4m (p:Int):ZB (ZP (Zk prog Zf ZeD Zp5) hT0 200 9 [.int .u64 p] [cmp false]) (bR (nmL (sgn p) (cl p))) [(decide (cl p≤2),false),(decide (U p),true),(decide (U p),true)]:=by and_intros<;>kernel_rfl
theorem Z4n (p:Int):ZB (ZP (Zk prog Zf ZeD Zp5) hT0 200 9 [.int .u64 p] [cmp true,cmp true]) (bR (txL (sgn p) [48] 0)) [(true,true),(cl p==0,true),(decide (cl p≤2),true),(decide (U p),true),(decide (U p),true)]:=by and_intros<;>kernel_rfl
theorem Z4o (p:Int):ZB (ZP (Zk prog Zf ZeD Zp5) hT0 200 9 [.int .u64 p] [cmp true,cmp false,num p]) (bR (txL (sgn p) (sdD p) (sdE p))) [(decide (1≤(sdD p).length∧(sdD p).length≤100000∧(sdE p).natAbs≤2000000),true),(sgn p==sgn p,true),(decide (cl p=cl p∧xp p=xp p∧sg p=sg p),true),(Z4l p,true),(cl p==0,false),(decide (cl p≤2),true),(decide (U p),true),(decide (U p),true)]:=by and_intros<;>kernel_rfl
theorem Zpn {p:Int}(hp:U p) (h:¬ cl p≤2):spK p≠0∧nmL (sgn p) (cl p)=spL (spK p):=by
 have e:=Zro hp;have h1:=Zkg p;have h2:=ZfF p;unfold spK nmL;by_cases h3:3<cl p
 ·rw[if_pos h3,if_neg (by omega)];exact⟨by decide,rfl⟩
 ·have hc:cl p=3:=by omega
  have hx:ex p=2047∧fr p=0:=by
   unfold cl at hc;split at hc
   ·split at hc<;>omega
   ·split at hc
    ·split at hc
     ·constructor<;>assumption
     ·split at hc<;>omega
    ·omega
  rw[if_neg h3,if_pos hc];rw[hx.1,hx.2] at e;cases hs:sgn p with
  | true=>
   rw[hs,if_pos rfl] at e;rw[if_neg (by omega),if_pos (by omega)];exact⟨by decide,rfl⟩
  | false=>
   rw[hs,if_neg (by decide)] at e;rw[if_pos (by omega)];exact⟨by decide,rfl⟩
theorem Zfn {p:Int}(h:cl p≤2):spK p=0:=by
 have:∀ q:Int,(q=9218868437227405312∨q=18442240474082181120)→cl q=3:=by
  rintro q (rfl | rfl)<;>decide
 unfold spK;rw[if_neg (by omega),if_neg (fun c=>by have:=this p (.inl c);omega),if_neg (fun c=>by have:=this p (.inr c);omega)]
theorem Zhi {p:Int}(h:cl p≤2) (h0:cl p≠0):Z4l p=true:=by
 have h1:=ZfF p;refine Xa ?_;unfold cl at h h0;unfold sg;by_cases c1:ex p=0
 ·rw[if_pos c1] at h h0 ⊢;by_cases c2:fr p=0
  ·rw[if_pos c2] at h0;exact absurd rfl h0
  ·omega
 ·rw[if_neg c1] at h h0 ⊢;by_cases c2:ex p=2047
  ·rw[if_pos c2] at h;split at h
   ·omega
   ·split at h<;>omega
  ·rw[if_neg c2];omega
theorem Z8D {p:Int}(h:Fin14 p):1≤(sdD p).length∧(sdD p).length≤100000∧(sdE p).natAbs≤2000000:=by
 obtain⟨_,_,j1,j2⟩:=Zxo h;have l1:=Zhb (shV p);have l2:=ZnE (dcL (shV p));refine⟨?_,by unfold sdD;omega,by unfold sdE;omega⟩;obtain⟨_,b,_⟩:=Zag h;obtain⟨b1,b2,b3⟩:=ZoE h b.1 b.2;have t19:=ZcJ h;have hp:0<10^(atL p-1):=Nat.pow_pos (by omega);have hv:0<shV p∧shV p<18446744073709551616:=by unfold shV;split<;>omega
 rcases Nat.eq_zero_or_pos (sdD p).length with c | c
 ·exfalso
  have c':trR (dcL (shV p))=[]:=List.length_eq_zero_iff.1 c;have e:=ZwV (b:=10) (dcL (shV p));rw[c'] at e;have e2:nmB 10 (dcL (shV p))=shV p:=ZfO (Zn8 hv.2);rw[e2] at e;have e3:nmB 10 []=0:=rfl;rw[e3,Nat.zero_mul] at e;omega
 ·exact c
theorem ZsW (p:Int) (hp:U p) (w:World) (hk:knT w):Calls prog 9 #[.int .u64 p] w fun e w'=>e= .returned (bR (shT p))∧Zav w w':=by
 have hu:decide (U p)=true:=Xa hp;unfold shT;by_cases h2:cl p≤2
 ·rw[if_neg (fun c=>c (Zfn h2))];by_cases h0:cl p=0
  ·rw[if_pos h0];exact Zcw Zhh (Z4n p) (Za rfl (Za (ZN h0) (Za (Xa h2) (Za hu (Z6 hu))))) (by rfl) (by rfl) hk
  ·rw[if_neg h0];have hf:=Zhi h2 h0;have ht:=Zse (Zcx hf);have f:=Z4o p;have et:txL (sgn p) (sdD p) (sdE p)=shS p:=ht;rw[et] at f;exact Zcw Zhh f (Za (Xa (Z8D (Zcx hf))) (Za (by simp) (Za (Xa ⟨rfl,rfl,rfl⟩) (Za hf (Za (ZE h0) (Za (Xa h2) (Za hu (Z6 hu)))))))) (by rfl) (by rfl) hk
 ·obtain⟨a,b⟩:=Zpn hp h2;rw[if_pos a,← b];exact Zcw Zhh (Z4m p) (Za (Xb h2) (Za hu (Z6 hu))) (by rfl) (by rfl) hk
def Zpo (k:Int):Value:= .iface 69 (.int .i64 k)
theorem Z4p (p n m:Int):ZB (ZP (Zk prog Zf ZeD Zp5) hT0 200 12 [.int .u64 p,.int .i64 n,.int .i64 m] [cmp true]) (.tuple #[bR [],Zpo 1]) [(decide (n<1),true)]:=by and_intros<;>kernel_rfl
theorem Z4q (p n m:Int):ZB (ZP (Zk prog Zf ZeD Zp5) hT0 200 12 [.int .u64 p,.int .i64 n,.int .i64 m] [cmp false,cmp true]) (.tuple #[bR [],Zpo 1]) [(decide (n>1000),true),(decide (n<1),false)]:=by and_intros<;>kernel_rfl
theorem Z4r (p n m:Int):ZB (ZP (Zk prog Zf ZeD Zp5) hT0 200 12 [.int .u64 p,.int .i64 n,.int .i64 m] [cmp false,cmp false,cmp false]) (.tuple #[bR (nmL (sgn p) (cl p)),.nilIface]) [(decide (cl p≤2),false),(decide (U p),true),(decide (U p),true),(decide (n>1000),false),(decide (n<1),false)]:=by and_intros<;>kernel_rfl
theorem Z4s (p n m:Int):ZB (ZP (Zk prog Zf ZeD Zp5) hT0 200 12 [.int .u64 p,.int .i64 n,.int .i64 m] [cmp false,cmp false,cmp true,cmp true]) (.tuple #[bR (txL (sgn p) (List.replicate n.toNat 48) 0),.nilIface]) [(decide (1≤(List.replicate n.toNat (48:UInt8)).length∧(List.replicate n.toNat (48:UInt8)).length≤100000∧Int.natAbs 0≤2000000),true),(decide (0≤n∧n≤100000),true),(cl p==0,true),(decide (cl p≤2),true),(decide (U p),true),(decide (U p),true),(decide (n>1000),false),(decide (n<1),false)]:=by and_intros<;>kernel_rfl
def aD (p:Int):List UInt8:=Zb6 (Ze7 (sg p).toNat (xp p))
def aE (p:Int):Int:=((aD p).length:Int)-1-(wzN (xp p):Nat)
def aR (p n m:Int):List UInt8×Int:=rnD (aD p) (aE p) n.toNat (sgn p) m
theorem Z4t (p n m:Int):ZB (ZP (Zk prog Zf ZeD Zp5) hT0 200 12 [.int .u64 p,.int .i64 n,.int .i64 m] [cmp false,cmp false,cmp true,cmp false]) (.tuple #[bR (txL (sgn p) (aR p n m).1 (aR p n m).2),.nilIface]) [(decide (1≤(aR p n m).1.length∧(aR p n m).1.length≤100000∧(aR p n m).2.natAbs≤2000000),true),(Zac 10 (aD p),true),(decide ((1≤(aD p).length∧(aD p).length≤90000)∧(1≤n∧n≤1000)∧(-100000≤aE p∧aE p≤100000)),true),(decide (1≤sg p∧sg p<9007199254740992∧ -1074≤xp p∧xp p≤972),true),(cl p==0,false),(decide (cl p≤2),true),(decide (U p),true),(decide (U p),true),(decide (n>1000),false),(decide (n<1),false)]:=by and_intros<;>kernel_rfl
def Zdv (p:Int) (n:Nat) (m:Int):List UInt8:=if spK p≠0 then spL (spK p) else if cl p=0 then txL (sgn p) (List.replicate n 48) 0 else ZfT p n m
theorem Z4u {D:List UInt8}{e:Int}{n:Nat}{mn:Bool}{m:Int}:(rnD D e n mn m).1.length=n∧e≤(rnD D e n mn m).2∧(rnD D e n mn m).2≤e+1:=by
 unfold rnD;by_cases h:D.length≤n
 ·rw[if_pos h];refine⟨?_,Int.le_refl _,by omega⟩;show (D++List.replicate (n-D.length) 48).length=n;rw[List.length_append,List.length_replicate];omega
 ·rw[if_neg h];have lt:(D.take n).length=n:=by rw[List.length_take];omega
  split
  ·obtain⟨n1,n2⟩:=Zoj (l:=D.take n);refine⟨?_,?_,?_⟩
   ·show ((Zbu (D.take n)).take n).length=n;rw[List.length_take];omega
   ·show e≤e+((Zbu (D.take n)).length:Nat)-n;omega
   ·show e+((Zbu (D.take n)).length:Nat)-n≤e+1;omega
  ·refine⟨?_,?_,?_⟩
   ·show ((D.take n).take n).length=n;rw[List.length_take];omega
   ·show e≤e+((D.take n).length:Nat)-n;omega
   ·show e+((D.take n).length:Nat)-n≤e+1;omega
theorem Zpp (p:Int) (hp:U p) (n:Nat) (hn:1≤n∧n≤1000) (m:Int) (w:World) (hk:knT w):Calls prog 12 #[.int .u64 p,.int .i64 n,.int .i64 m] w fun e w'=>e= .returned (.tuple #[bR (Zdv p n m),.nilIface])∧Zav w w':=by
 have hu:decide (U p)=true:=Xa hp;have k0:Zx [(decide (((n:Nat):Int)>1000),false),(decide (((n:Nat):Int)<1),false)]:=Za (Xb (by omega)) (Z6 (Xb (by omega)));have k0:=Za hu (Za hu k0);unfold Zdv;by_cases h2:cl p≤2
 ·have k0:=Za (show decide (cl p≤2)=true from Xa h2) k0;rw[if_neg (fun c=>c (Zfn h2))];by_cases h0:cl p=0
  ·rw[if_pos h0];have f:=Z4s p n m;rw[Xg] at f;exact Zcw Zhh f (Za (Xa ⟨by rw[List.length_replicate];omega,by rw[List.length_replicate];omega,by decide⟩) (Za (Xa (by omega)) (Za (ZN h0) k0))) (by rfl) (by rfl) hk
  ·rw[if_neg h0];have hf:=Zcx (Zhi h2 h0);have hW:=Z2z (xp p) hf.ne;obtain⟨l1,l2,l3⟩:=Zds hW;have hT:=Z20 hf hn.1 m l1 l2 l3;rw[← ZgY hW] at hT;have f:=Z4t p n m;have et:txL (sgn p) (aR p n m).1 (aR p n m).2=ZfT p n m:=by
    unfold aR;rw[Xg];exact hT
   rw[et] at f;have q0:=Go.Rn.sg_lt p;have q1:=hf.ne;have x0:=hf.e0;have x1:=hf.e1;obtain⟨K,hK⟩:∃ K,K=1074:=⟨_,rfl⟩;have wl:=Zoo hf.s1 ⟨x0,x1⟩ K hK;have lb:(aD p).length≤16+K:=by
    rcases Nat.lt_or_ge (16+K) (aD p).length with c | c
    ·have:=Nat.pow_le_pow_right (n:=10) (by omega) (show 16+K≤(aD p).length-1 by omega);have l2':10^((aD p).length-1)≤Ze7 (sg p).toNat (xp p):=l2;omega
    ·exact c
   have zb:wzN (xp p)≤1074:=by unfold wzN;omega
   have l1':1≤(aD p).length:=l1;have eb: -2000≤aE p∧aE p≤2000:=by unfold aE;omega
   obtain⟨r1,r2,r3⟩:=Z4u (D:=aD p) (e:=aE p) (n:=(n:Int).toNat) (mn:=sgn p) (m:=m);rw[Xg] at r1;have al:Zac 10 (aD p)=true:=by
    have:aD p=Zbz (aD p).length (Ze7 (sg p).toNat (xp p)):=ZgY hW;rw[this];exact Za5 _ _ 10
   refine Zcw Zhh f (Za (Xa ?_) (Za al (Za (Xa ⟨⟨l1',by omega⟩,⟨by omega,by omega⟩,by omega,by omega⟩) (Za (Xa ⟨by omega,by omega,x0,x1⟩) (Za (ZE h0) k0))))) (by rfl) (by rfl) hk;have e1:(aR p n m).1.length=n:=by unfold aR;rw[Xg];exact r1
   have e2:aE p≤(aR p n m).2∧(aR p n m).2≤aE p+1:=⟨r2,r3⟩;omega
 ·obtain⟨a,b⟩:=Zpn hp h2;rw[if_pos a,← b];exact Zcw Zhh (Z4r p n m) (Za (Xb h2) k0) (by rfl) (by rfl) hk
def Z8E:Ans:=fun vals s=>
 match vals,s with
 | [.int .u64 p,.int .i64 n,.int .i64 m],.inr (.inr (.inr (.inl true)))::s'=>some (.tuple #[bR (Zdv p n.toNat m),.nilIface],s',[(decide (1≤n∧n≤1000),true),(decide (U p),true)])
 | [.int .u64 _,.int .i64 n,.int .i64 _],.inr (.inr (.inr (.inl false)))::s'=>some (.tuple #[bR [],Zpo 1],s',[(decide (1≤n∧n≤1000),false)])
 | _,_=>none
theorem Zzh:Zck 12 Z8E:=by
 intro vals s v s' lg h hl w hk;unfold Z8E at h;split at h
 ·rename_i p n m s2;cases h;obtain⟨l1,l2⟩:=Xc (hl _ Xe);have l3:=Xc (hl _ (Xd _ Xf));obtain⟨k,rfl⟩:∃ k:Nat,n=k:=⟨n.toNat,by omega⟩;exact Zpp p l3 k (by omega) m w hk
 ·rename_i p n m s2;cases h;have l1:=of_decide_eq_false (hl _ Xf);by_cases c:n<1
  ·exact Zcw Zhh (Z4p p n m) (Z6 (Xa c)) (by rfl) (by rfl) hk
  ·exact Zcw Zhh (Z4q p n m) (Za (Xa (by omega)) (Z6 (Xb c))) (by rfl) (by rfl) hk
 ·cases h
end Go.Proofs.YtgefjidphfdhdaaGreatDoor
namespace Go.Proofs.YtgefjidphfdhdaaGreatDoor
open Go.Proofs.Tryz
open Go.IntKind
open Go.KRun Go.Nt Go.Rd Go.Wd Go.Pt
set_option maxRecDepth 100000
theorem ZsX:z8 43 (gU fun p=> .string (hxW p)):=Zsi ZoH
def Zk9:Con:=alt 20 (gU vT) (alt 22 Z5p (alt 44 Z2A (alt 45 Z5o (alt 43 (gU fun p=> .string (hxW p)) (alt 42 Z25 Zo)))))
theorem ZsY:ConOk Zk9:=ZI func20 rfl Zhg (ZI func22 rfl Zog (ZI func44 rfl ZhZ (ZI func45 rfl Zof (ZI func43 rfl ZsX (ZI func42 rfl ZhV Zd)))))
theorem ZsZ:TabOk (Zk prog Zf Zk9 Zzd):=Zg ZsY Zpm
def hfD (p:Int):List UInt8:=(hxW p).data.toList.drop 3
def hfT (p:Int) (c:UInt8):List UInt8:=ptL ([c]++trC 48 (hfD p))
def hfW (p:Int) (c:UInt8) (x:Int):List UInt8:=(((mnL (sgn p)++[48,120])++hfT p c)++[112])++Zbr x
def lHf (p:Int) (c:UInt8) (x:Int) (l:Log):Log:=(decide ((((mnL (sgn p)++[48,120])++hfT p c)++[112]).length+(Zbr x).length≤9223372036854775807),true)::(decide (x.natAbs≤2000000),true)::(decide (((mnL (sgn p)++[48,120])++hfT p c).length+1≤9223372036854775807),true)::(decide ((mnL (sgn p)++[48,120]).length+(hfT p c).length≤9223372036854775807),true)::(decide (1≤([c]++trC 48 (hfD p)).length∧([c]++trC 48 (hfD p)).length≤100000),true)::(decide (1+(trC 48 (hfD p)).length≤9223372036854775807),true)::(decide ((mnL (sgn p)).length+2≤9223372036854775807),true)::(true,true)::(decide ((hfD p).length≤100000),true)::(true,true)::(decide (U p),true)::l
theorem Z4v (p:Int):ZB (ZP (Zk prog Zf Zk9 Zzd) hT0 200 15 [.int .u64 p] [cmp false,cmp false,cmp false]) (bR (nmL (sgn p) (cl p))) [(cl p==2,false),(cl p==1,false),(cl p==0,false),(decide (U p),true)]:=by and_intros<;>kernel_rfl
theorem Z4w (p:Int):ZB (ZP (Zk prog Zf Zk9 Zzd) hT0 200 15 [.int .u64 p] [cmp true,sam true,sam true,sam true,sam true,sam true,sam true]) (bR (hfW p 48 0)) (lHf p 48 0 [(cl p==0,true),(decide (U p),true)]):=by and_intros<;>kernel_rfl
theorem Z4x (p:Int):ZB (ZP (Zk prog Zf Zk9 Zzd) hT0 200 15 [.int .u64 p] [cmp false,cmp true,sam true,sam true,sam true,sam true,sam true,sam true]) (bR (hfW p 48 (i64.wrap (xp p+52)))) (lHf p 48 (i64.wrap (xp p+52)) [(cl p==1,true),(cl p==0,false),(decide (U p),true)]):=by and_intros<;>kernel_rfl
theorem Z4y (p:Int):ZB (ZP (Zk prog Zf Zk9 Zzd) hT0 200 15 [.int .u64 p] [cmp false,cmp false,cmp true,sam true,sam true,sam true,sam true,sam true,sam true]) (bR (hfW p 49 (i64.wrap (xp p+52)))) (lHf p 49 (i64.wrap (xp p+52)) [(cl p==2,true),(cl p==1,false),(cl p==0,false),(decide (U p),true)]):=by and_intros<;>kernel_rfl
theorem Zif (p:Int):∀ k:Nat,hSn p k=p/16^k
 | 0=>by show p=p/16^0;rw[Int.pow_zero,Int.ediv_one]
 | k+1=>by
  show hSx (hSn p k)=_;rw[Zif p k];unfold hSx;have e:(2:Int)^min (Int.toNat 4) 64=16:=rfl;rw[e,Int.fdiv_eq_ediv_of_nonneg _ (by omega),Int.ediv_ediv_of_nonneg (Int.le_of_lt (Int.pow_pos (by omega))),Int.pow_succ]
theorem Zzi {q r:Int}(hq:U q) (hr:U r) (h:q % 16=r % 16):hBx q=hBx r:=by
 unfold hBx hC;have e:∀ q:Int,U q→ZiK q 15=q % 16:=fun q hq=>by
  rw[ZbP 0 4 hq (by rfl) (by decide)];have e0:(2:Int)^0=1:=rfl;have e4:(2:Int)^4=16:=rfl;rw[e0,e4];omega
 rw[e q hq,e r hr,h]
theorem Zpq {p:Int}(hp:U p) (k:Nat):U (p/16^k):=by
 have h1:(0:Int)<16^k:=Int.pow_pos (by omega);unfold U at hp ⊢;exact⟨Int.ediv_nonneg hp.1 (by omega),Int.lt_of_le_of_lt (Int.ediv_le_self _ hp.1) hp.2⟩
theorem Z4z {p:Int}(hp:U p):hfD p=Zu4 p:=by
 have key:∀ k:Nat,k≤12→hBx (hSn p k)=hBx (hSn (ZeC p) k):=fun k hk=>by
  rw[Zif,Zif];have hf:ZeC p=p % 4503599627370496:=by
   unfold ZeC;have h1:=ZfF p;have h2:fr p=p % 4503599627370496:=rfl;have h3:0≤sg p:=(Go.Rn.sg_lt p).1;rw[Int.tmod_eq_emod_of_nonneg h3,← h2];unfold sg;split
   ·omega
   ·split<;>omega
  have hu:U (ZeC p):=by rw[hf];unfold U;omega
  refine Zzi (Zpq hp k) (Zpq hu k) ?_;rw[hf];rcases (show k=0∨k=1∨k=2∨k=3∨k=4∨k=5∨k=6∨k=7∨k=8∨k=9∨k=10∨k=11∨k=12 by omega) with rfl | rfl | rfl | rfl | rfl | rfl | rfl | rfl | rfl | rfl | rfl | rfl | rfl
  all_goals
   simp only[show (16:Int)^0=1 from rfl,show (16:Int)^1=16 from rfl,show (16:Int)^2=256 from rfl,show (16:Int)^3=4096 from rfl,show (16:Int)^4=65536 from rfl,show (16:Int)^5=1048576 from rfl,show (16:Int)^6=16777216 from rfl,show (16:Int)^7=268435456 from rfl,show (16:Int)^8=4294967296 from rfl,show (16:Int)^9=68719476736 from rfl,show (16:Int)^10=1099511627776 from rfl,show (16:Int)^11=17592186044416 from rfl,show (16:Int)^12=281474976710656 from rfl];omega
 unfold hfD Zu4 hxW;show [hBx (hSn p 12),hBx (hSn p 11),hBx (hSn p 10),hBx (hSn p 9),hBx (hSn p 8),hBx (hSn p 7),hBx (hSn p 6),hBx (hSn p 5),hBx (hSn p 4),hBx (hSn p 3),hBx (hSn p 2),hBx (hSn p 1),hBx (hSn p 0)]=[hBx (hSn (ZeC p) 12),hBx (hSn (ZeC p) 11),hBx (hSn (ZeC p) 10),hBx (hSn (ZeC p) 9),hBx (hSn (ZeC p) 8),hBx (hSn (ZeC p) 7),hBx (hSn (ZeC p) 6),hBx (hSn (ZeC p) 5),hBx (hSn (ZeC p) 4),hBx (hSn (ZeC p) 3),hBx (hSn (ZeC p) 2),hBx (hSn (ZeC p) 1),hBx (hSn (ZeC p) 0)];rw[key 12 (by omega),key 11 (by omega),key 10 (by omega),key 9 (by omega),key 8 (by omega),key 7 (by omega),key 6 (by omega),key 5 (by omega),key 4 (by omega),key 3 (by omega),key 2 (by omega),key 1 (by omega),key 0 (by omega)]
theorem Zpr {p:Int}(hp:U p) (c:UInt8) (x:Int):hfW p c x=Zz1 (sgn p) c (trR (Zu4 p)) x:=by
 unfold hfW hfT Zz1 mnL;rw[Z4z hp,Z2w];cases trR (Zu4 p) with
 | nil=>simp [ptL]
 | cons a r=>simp [ptL]
theorem Zzj {p:Int}(h:ZeC p=0):trR (Zu4 p)=[]:=by
 unfold Zu4;rw[h]
 decide
theorem Zps {p:Int}(hp:U p) (c:UInt8) {x:Int}(hx:x.natAbs≤2000000) {l:Log}(hl:Zx l):Zx (lHf p c x l):=by
 have l0:(hfD p).length=13:=rfl;have l1:=Zga (sgn p);have l2:=ZfW 48 (hfD p);have l3:=Zie ([c]++trC 48 (hfD p));have l4:=ZdK x;have l5:([c]++trC 48 (hfD p)).length=1+(trC 48 (hfD p)).length:=by rw[List.length_append];rfl
 have l6:(hfT p c).length≤([c]++trC 48 (hfD p)).length+1:=l3;have l7:(mnL (sgn p)++[48,120]).length=(mnL (sgn p)).length+2:=by rw[List.length_append];rfl
 have l8:((mnL (sgn p)++[48,120])++hfT p c).length=(mnL (sgn p)).length+2+(hfT p c).length:=by rw[List.length_append,l7]
 have l9:(((mnL (sgn p)++[48,120])++hfT p c)++[112]).length=(mnL (sgn p)).length+2+(hfT p c).length+1:=by rw[List.length_append,l8];rfl
 exact Za (Xa (by omega)) (Za (Xa hx) (Za (Xa (by omega)) (Za (Xa (by omega)) (Za (Xa (by omega)) (Za (Xa (by omega)) (Za (Xa (by omega)) (Za rfl (Za (Xa (by omega)) (Za rfl (Za (Xa hp) hl))))))))))
theorem Zpt (p:Int) (hp:U p) (w:World) (hk:knT w):Calls prog 15 #[.int .u64 p] w fun e w'=>e= .returned (bR (Z4i p))∧Zav w w':=by
 have hu:decide (U p)=true:=Xa hp;have xb:=Go.Rn.xp_bd p;have ew:i64.wrap (xp p+52)=xp p+52:=Zv (by omega) (by omega);unfold Z4i;by_cases h2:cl p≤2
 ·rw[if_neg (fun c=>c (Zfn h2))];by_cases h0:cl p=0
  ·have hf:ZeC p=0:=by
    unfold ZeC;have:sg p=0:=by
     unfold cl at h0;unfold sg;split at h0
     ·rename_i c;rw[if_pos c];split at h0
      ·assumption
      ·omega
     ·split at h0
      ·split at h0
       ·omega
       ·split at h0<;>omega
      ·omega
    rw[this];rfl
   have f:=Z4w p;rw[Zpr hp,Zzj hf] at f;rw[if_pos h0];have e:Zz1 (sgn p) 48 [] 0=(if sgn p=true then [45] else [])++[48,120,48,112,48]:=by
    unfold Zz1;rfl
   rw[e] at f;exact Zcw ZsZ f (Zps hp 48 (by decide) (Za (ZN h0) (Z6 hu))) (by rfl) (by rfl) hk
  ·rw[if_neg h0];by_cases h1:cl p=1
   ·have ex0:xp p= -1074:=by
     have:=ZfZ p;unfold xp;rcases this with ⟨a,_⟩ | ⟨a,b⟩ | ⟨a,b,c⟩
     ·rw[if_pos a]
     ·omega
     ·omega
    have f:=Z4x p;rw[Zpr hp,ew,show xp p+52= -1022 by omega] at f;rw[if_pos h1];exact Zcw ZsZ f (Zps hp 48 (by decide) (Za (ZN h1) (Za (ZE h0) (Z6 hu)))) (by rfl) (by rfl) hk
   ·rw[if_neg h1];have h3:cl p=2:=by have:=ZfZ p;omega
    have f:=Z4y p;rw[Zpr hp,ew] at f;have lk:=Zps hp 49 (x:=xp p+52) (by omega) (Za (ZN h3) (Za (ZE h1) (Za (ZE h0) (Z6 hu))));exact Zcw ZsZ f lk (by rfl) (by rfl) hk
 ·obtain⟨a,b⟩:=Zpn hp h2;rw[if_pos a,← b];exact Zcw ZsZ (Z4v p) (Za (ZE (by omega)) (Za (ZE (by omega)) (Za (ZE (by omega)) (Z6 hu)))) (by rfl) (by rfl) hk
def Z8F:Ans:=gU fun p=>bR (shT p)
theorem Zzk:Zck 9 Z8F:=by
 intro vals s v s' lg h hl w hk;unfold Z8F gU at h;split at h
 ·cases h;exact ZsW _ (Xc (hl _ Xf)) w hk
 ·cases h
def Z8G:Ans:=gU fun p=>bR (Z4i p)
theorem Zzl:Zck 15 Z8G:=by
 intro vals s v s' lg h hl w hk;unfold Z8G gU at h;split at h
 ·cases h;exact Zpt _ (Xc (hl _ Xf)) w hk
 ·cases h
end Go.Proofs.YtgefjidphfdhdaaGreatDoor
namespace Go.Proofs.YtgefjidphfdhdaaGreatDoor
open Go.Proofs.Tryz
open Go.KRun Go.Nt Go.Rd Go.Pt
set_option maxRecDepth 100000
def Z8H:Hc:=zm 9 (gT Z8F) (zm 12 (gT Z8E) (zm 15 (gT Z8G) hcN))
theorem Zpu:HcOk Z8H:=Zu func9 rfl (ZfY Zzk) (Zu func12 rfl (ZfY Zzh) (Zu func15 rfl (ZfY Zzl) zO))
theorem ZAw:shT 4591870180066957722=[49,101,45,49]:=by decide+kernel
theorem ZAx:Zdv 4607182418800017408 3 0=[49,46,48,48,101,48]:=by decide+kernel
theorem ZAy:Z4i 4609434218613702656=[48,120,49,46,56,112,48]:=by decide+kernel
theorem ZAz:ZB (ZP (Zk prog Zf Zo Z8H) hT0 200 11 [] [cmp true,sam true,sam true,sam true]) (.bool true) [Zfa (Z4i 4609434218613702656) [48,120,49,46,56,112,48] true,(decide (U 4609434218613702656),true),Zfa (Zdv 4607182418800017408 3 0) [49,46,48,48,101,48] true,Zfa (shT 4591870180066957722) [49,101,45,49] true,(decide (U 4591870180066957722),true),(decide ((1:Int)≤3∧(3:Int)≤1000),true),(decide (U 4607182418800017408),true)]:=by and_intros<;>kernel_rfl
def Zzm:Ans:=fun vals s=>
 match vals with
 | []=>some (.bool true,s,[])
 | _=>none
theorem Zta:Zck 11 Zzm:=by
 intro vals s v s' lg h hl w hk;unfold Zzm at h;split at h
 ·cases h;exact Zcw (Zg Zd Zpu) ZAz (Za (ZaL (by rw[ZAy];rfl)) (Za (by decide) (Za (ZaL (by rw[ZAx];rfl)) (Za (ZaL (by rw[ZAw];rfl)) (Za (by decide) (Za (by decide) (Z6 (by decide)))))))) (by rfl) (by rfl) hk
 ·cases h
def Zfo:Hc:=zm 11 (gT Zzm) Z8H
theorem Zzn:HcOk Zfo:=Zu func11 rfl (ZfY Zta) Zpu
end Go.Proofs.YtgefjidphfdhdaaGreatDoor
namespace Go.Proofs.YtgefjidphfdhdaaGreatDoor
open Go.KRun Go.Nt Go.Rd Go.Pt
set_option maxRecDepth 100000
theorem Zcf (b:Bool) (s:List UInt8) (e:Int):(txL b s e).length≤s.length+24:=by
 rw[← Z4k,List.length_append,List.length_append,List.length_append];have l1:=Zga b;have l2:=Zie s;have l3:=ZdK e;have l4:([101]:List UInt8).length=1:=rfl;omega
theorem Zj0 (b:Bool) (n q:Nat) (f:Int):(hiX b n q f).length≤n+24:=by
 unfold hiX;split
 ·exact Nat.le_trans (Zcf _ _ _) (Nat.add_le_add_right (Zcd _ _) 24)
 ·exact Nat.le_trans (Zcf _ _ _) (Nat.add_le_add_right (Zcd _ _) 24)
theorem Zj1 (k:Int):(spL k).length≤4:=by
 unfold spL
 repeat' split
 all_goals decide
theorem Ztb {p:Int}(hp:U p):(shT p).length≤100:=by
 unfold shT;split
 ·exact Nat.le_trans (Zj1 _) (by omega)
 ·rename_i h;split
  ·exact Nat.le_trans (Zcf _ _ _) (by simp)
  ·rename_i h0;have h2:cl p≤2:=by
    rcases Int.lt_or_le 2 (cl p) with c | c
    ·exact absurd (Zpn hp (by omega)).1 h
    ·exact c
   have hf:=Zcx (Zhi h2 h0);obtain⟨a,b,_⟩:=Zag hf;rw[a];unfold shO;split
   ·exact Nat.le_trans (Nat.le_trans (Zcf _ _ _) (Nat.add_le_add_right (Zcd _ _) 24)) (by omega)
   ·exact Nat.le_trans (Zj0 _ _ _ _) (by omega)
theorem Ztc (p:Int) (n:Nat) (m:Int):(Zdv p n m).length≤n+24:=by
 unfold Zdv;split
 ·exact Nat.le_trans (Zj1 _) (by omega)
 ·split
  ·exact Nat.le_trans (Zcf _ _ _) (by rw[List.length_replicate];omega)
  ·unfold ZfT;split
   ·exact Zj0 _ _ _ _
   ·exact Nat.le_trans (Zcf _ _ _) (Nat.add_le_add_right (Zcd _ _) 24)
structure Oth14 (P q:Int):Prop where
 ex:ex P=ex q
 fr:fr P=fr q
 mag:mag P=mag q
 sg:sg P=sg q
 xp:xp P=xp q
 cl:cl P=cl q
 s1:sgn P=true
 s0:sgn q=false
end Go.Proofs.YtgefjidphfdhdaaGreatDoor
namespace Go.Proofs.YtgefjidphfdhdaaGreatDoor
open Go.Proofs.Tryz
open Go.KRun Go.Nt Go.Rd Go.Rn
set_option maxRecDepth 100000
theorem Zpv {n:Bool}{b:Int}{D:List UInt8}{k P:Int}{Q:Ex→Lf→Prop}(h:∀ g s,RunsW (Zk prog Zf ZJ ZeB) (sK f57 3) (dnF n b D k P (trZ D)++tl 104 g,dnM n b D k P,s) Q):RunsW (Zk prog Zf ZJ ZeB) (zg (Z4f f57) (.seq (.block 0 (.loop (dnL f57))) (sK f57 3))) ([tX n b D k P]++List.replicate 107 undef,⟨0,[]⟩,[]) Q:=by
 refine Zz Ze5 (Z4g n b D k P) Zbt fun g=> ?_;refine RunsW.seq (P1:=fun e y=>match e with | none=>dnS n b D k P (trZ D) y | some none=>False | some (some _)=>False) (RunsW.forLoop (R:=fun _=>False) (P:=dnS n b D k P (trZ D)) (fun r y=>∃ l,r=l.length∧dnS n b D k P l y) ZsT (n:=D.length) ⟨D,rfl,rfl,g,rfl,rfl⟩) ?_ (fun e y he=>by match e,he with | none,he=>exact he.elim | some _,he=>exact he.elim);rintro⟨t,hh,sc⟩ ⟨_,g',e1,e2⟩;simp only at e1 e2;subst e1 e2;exact h g' sc
def gDn:Zab:=fun vals h s=>
 match vals,s with
 | [.agg cs],.inr (.inr (.inr (.inl true)))::s'=>
  match cs.toList with
  | [.bool n,.int .i64 b,.string ⟨⟨D⟩⟩,.int .i64 k,.int .i64 P]=>some (vRN n 0 Zm,h,s',[(decide (trZ D=[]),true),(Zzb b D k P,true)])
  | _=>none
 | [.agg cs],.inr (.inr (.inr (.inl false))):: .inr (.inl V):: .inr (.inl E)::s'=>
  match cs.toList with
  | [.bool n,.int .i64 b,.string ⟨⟨D⟩⟩,.int .i64 k,.int .i64 P]=>some (vRN n E (sOf h.n V.toNat),h.push (wU (d16 V.toNat)) tU,s',[(decide (dnA b (trZ D) k P=(V.toNat,E)),true),(decide (trZ D=[]),false),(Zzb b D k P,true)])
  | _=>none
 | _,_=>none
theorem Z40:Z7 57 gDn:=by
 intro vals h s v h' s' lg hg hl m B w E0 hv;unfold gDn at hg;split at hg
 ·rename_i cs s2;split at hg
  ·rename_i n b D k P hcs;have ecs:cs= #[.bool n,.int .i64 b,bR D,.int .i64 k,.int .i64 P]:=by
    have:=congrArg List.toArray hcs;simpa [bR] using this
   cases hg;rw[Zqt,Zqt] at hl;obtain⟨l1,_,_⟩:=hl;have l1:trZ D=[]:=Xc l1;rw[ecs];have r:RunsW (Zk prog Zf ZJ ZeB) (zg (Z4f f57) (.seq (.block 0 (.loop (dnL f57))) (sK f57 3))) ([tX n b D k P]++List.replicate 107 undef,⟨0,[]⟩,[]) fun e z=>(e=none∨e=some none)∧ZW prog f57 z.1 z.2.1=some (vRN n 0 Zm):=Zpv fun g s=>by
    rw[l1];refine (Zc (s0:=s) Ze5 (ZAo n b D k P [] g) (Z6 (by rw[ZeZ];rfl))).mono fun e z he=> ?_;obtain⟨rfl,⟨g',z1⟩,z2⟩:=he;exact⟨.inr rfl,by rw[z1,z2];rfl⟩
   have evals:List.map (rn fun i=>i) [tX n b D k P]=[.agg #[.bool n,.int .i64 b,bR D,.int .i64 k,.int .i64 P]]:=by simp [rn,rn2,rn1,tX,bR]
   have fin:=Z9 (T:=(Zk prog Zf ZJ ZeB)) func57 Zpl (h0:=⟨0,[]⟩) ⟨rfl,fun b x hx=>by have:b<0:=Hp.blk_lt hx;omega⟩ (vals:=[tX n b D k P]) (fun v hv=>by rw[List.mem_singleton.1 hv];rfl) (v:=vRN n 0 Zm) (by rfl) r E0 (s:=fun i=>i) (fun i x hx=>by have:i<0:=Hp.blk_lt hx;omega);rw[evals] at fin;exact fin
  ·cases hg
 ·rename_i cs V E s2;split at hg
  ·rename_i n b D k P hcs;have ecs:cs= #[.bool n,.int .i64 b,bR D,.int .i64 k,.int .i64 P]:=by
    have:=congrArg List.toArray hcs;simpa [bR] using this
   cases hg;rw[Zqt,Zqt,Zqt] at hl;obtain⟨l0,l1,l2,_⟩:=hl;have l0:dnA b (trZ D) k P=(V.toNat,E):=Xc l0;have l1:¬ trZ D=[]:=of_decide_eq_false l1;unfold Zzb at l2;simp only[Xh,Xi] at l2;obtain⟨⟨q1,q2,q3,q4⟩,q5⟩:=l2;obtain⟨c,l,hcl⟩:∃ c l,trZ D=c::l:=by
    cases h3:trZ D with
    | nil=>exact absurd h3 l1
    | cons c l=>exact⟨c,l,rfl⟩
   have r:RunsW (Zk prog Zf ZJ ZeB) (zg (Z4f f57) (.seq (.block 0 (.loop (dnL f57))) (sK f57 3))) ([tX n b D k P]++List.replicate 107 undef,⟨0,[]⟩,[]) (dnZ n V.toNat E):=Zpv fun g s=>by
    have ht:=Zn4 D;have:=Zzc (n:=n) (b:=b) (D:=D) (k:=k) (P:=P) (c:=c) (l:=l) q1 (by rw[← hcl];omega) q3 q4 (by rw[← hcl];exact Zje q5) (ZfN q5 hcl) g s;rw[← hcl,l0] at this;exact this
   rw[ecs];have evals:List.map (rn fun i=>i) [tX n b D k P]=[.agg #[.bool n,.int .i64 b,bR D,.int .i64 k,.int .i64 P]]:=by simp [rn,rn2,rn1,tX,bR]
   have fin:=Zdg (T:=(Zk prog Zf ZJ ZeB)) func57 Zpl (h0:=⟨0,[]⟩) ⟨rfl,fun b x hx=>by have:b<0:=Hp.blk_lt hx;omega⟩ (vals:=[tX n b D k P]) (fun v hv=>by rw[List.mem_singleton.1 hv];rfl) (v:=fun j=>vRN n E (sOf j V.toNat)) (Zbn _) (by kernel_rfl) r (fun k=>by simp [oc,oc2,oc1,sOf,sl,vRN]) E0 (s:=fun i=>i) (fun i x hx=>by have:i<0:=Hp.blk_lt hx;omega) (fun k=>by simp [rn,rn2,rn1,sOf,sl,vRN]);rw[evals] at fin;exact fin
  ·cases hg
 ·cases hg
end Go.Proofs.YtgefjidphfdhdaaGreatDoor
namespace Go.Proofs.YtgefjidphfdhdaaGreatDoor
open Go.Proofs.Tryz
open Go.KRun Go.Nt Go.Wd Go.Rn Go.Pt
set_option maxRecDepth 100000
set_option linter.unusedVariables false
def r0V (neg:Bool):Value:= .tuple #[.int .u64 (sS neg 0),.int .i64 0]
theorem r0a (neg:Bool) (E M:Int):ZB (Zr (Zp prog Zf Zo true) 200 56 [vRN neg E Zm,.int .i64 M] [cmp true,cmp true]) (r0V neg) [(((0:Nat):Int)==0,true),(decide (M<0),true)]:=by
 cases neg<;>exact by and_intros<;>kernel_rfl
theorem r0b (neg:Bool) (E M:Int):ZB (Zr (Zp prog Zf Zo true) 200 56 [vRN neg E Zm,.int .i64 M] [cmp false,cmp true,cmp true]) (r0V neg) [(((0:Nat):Int)==0,true),(decide (M>4),true),(decide (M<0),false)]:=by
 cases neg<;>exact by and_intros<;>kernel_rfl
theorem r0c (neg:Bool) (E M:Int):ZB (Zr (Zp prog Zf Zo true) 200 56 [vRN neg E Zm,.int .i64 M] [cmp false,cmp false,cmp true]) (r0V neg) [(((0:Nat):Int)==0,true),(decide (M>4),false),(decide (M<0),false)]:=by
 cases neg<;>exact by and_intros<;>kernel_rfl
def gR0:Ans:=fun vals s=>
 match vals with
 | [.agg cs,.int .i64 M]=>
  match cs.toList with
  | [.bool neg,.int .i64 E,.slice none 0 0]=>some (r0V neg,s,[])
  | _=>none
 | _=>none
theorem Z41:z8 56 gR0:=by
 intro vals s v s' lg h hl w;unfold gR0 at h;split at h
 ·rename_i cs M;split at h
  ·rename_i neg E hcs;have ecs:cs= #[.bool neg,.int .i64 E,Zm]:=by
    have:=congrArg List.toArray hcs;simpa [Zm] using this
   cases h;rw[ecs];by_cases h0:M<0
   ·exact Ze (Zq Zd) (r0a neg E M) (Za rfl (Z6 (Xa h0))) (by rfl) (by rfl) w
   ·by_cases h4:M>4
    ·exact Ze (Zq Zd) (r0b neg E M) (Za rfl (Za (Xa h4) (Z6 (Xb h0)))) (by rfl) (by rfl) w
    ·exact Ze (Zq Zd) (r0c neg E M) (Za rfl (Za (Xb h4) (Z6 (Xb h0)))) (by rfl) (by rfl) w
  ·cases h
 ·cases h
end Go.Proofs.YtgefjidphfdhdaaGreatDoor
namespace Go.Proofs.YtgefjidphfdhdaaGreatDoor
open Go.Proofs.Tryz
open Go.KRun Go.Nt Go.Rd Go.Rn
set_option maxRecDepth 100000
def zA:Con:=alt 55 Z8m (alt 56 gR0 Zo)
theorem ZdR:ConOk zA:=ZI func55 rfl Zyd (ZI func56 rfl Z41 Zd)
def ZbD:Hc:=zm 57 gDn (zm 56 Z8A hcN)
theorem Zgg:HcOk ZbD:=Zu func57 rfl Z40 (Zu func56 rfl ZyZ zO)
def lN1 (l:List UInt8) (k:Int) (d:Bool):Bool×Bool:=(decide (((l.length:Nat):Int)>k),d)
def lX0 (l:List UInt8):Bool×Bool:=(decide ((0:Int)≤0∧0<l.length),true)
def lCh (c:UInt8) (k:Int) (d:Bool):Bool×Bool:=(lq8 c==k,d)
def lPt (l:List UInt8) (k:Int):Bool×Bool:=(decide ((0:Int)≤k∧k≤((l.length:Nat):Int)),true)
def lIs (u w:List UInt8) (d:Bool):Bool×Bool:=((⟨⟨u⟩⟩:ByteArray)==⟨⟨w⟩⟩,d)
def lSm (c:UInt8) (r:List UInt8):Log:=[lPt (c::r) 1,lCh c 45 true,lX0 (c::r),lN1 (c::r) 0 true,lCh c 45 true,lX0 (c::r),lN1 (c::r) 0 true,lN1 (c::r) 65536 false]
def lSp (c:UInt8) (r:List UInt8):Log:=[lPt (c::r) 1,lCh c 43 true,lX0 (c::r),lCh c 45 false,lX0 (c::r),lN1 (c::r) 0 true,lCh c 45 false,lX0 (c::r),lN1 (c::r) 0 true,lN1 (c::r) 65536 false]
def ZkG (c:UInt8) (r:List UInt8):Log:=[lCh c 43 false,lX0 (c::r),lCh c 45 false,lX0 (c::r),lN1 (c::r) 0 true,lCh c 45 false,lX0 (c::r),lN1 (c::r) 0 true,lN1 (c::r) 65536 false]
def lSe:Log:=[lN1 [] 0 false,lN1 [] 0 false,lN1 [] 65536 false]
def lBn (u:List UInt8) (l:Log):Log:=lIs u [105,110,102] false::lIs u [110,97,110] false::l
def Ztd (u:List UInt8) (l:Log):Log:=lPt u 2::lIs (u.take 2) [48,120] true::lPt u 2::lN1 u 1 true::lBn u l
def lBa (u:List UInt8) (l:Log):Log:=lIs (u.take 2) [48,120] false::lPt u 2::lN1 u 1 true::lBn u l
def lBb (u:List UInt8) (l:Log):Log:=lN1 u 1 false::lBn u l
def lSc (b:Int) (v:List UInt8) (d:Bool) (l:Log):Log:=((scA b v).2,d)::(decide ((b=10∨b=16)∧v.length≤100000),true)::l
def dgs (b:Int) (v:List UInt8):List UInt8:=(sc1 b false v).1
def bhd (b:Int) (v:List UInt8):Int:=(((sc1 b false v).2.1:Nat):Int)
def lDz (b:Int) (v:List UInt8) (l:Log):Log:=(decide (trZ (dgs b v)=[]),true)::(Zzb b (dgs b v) (bhd b v) (scA b v).1,true)::l
def hPz (n:Bool) (b:Int) (v:List UInt8) (V:Nat):Hp:=⟨2,[w16 V,tC9 n b (dgs b v) (bhd b v) (scA b v).1]⟩
def lDn (n:Bool) (b:Int) (v:List UInt8) (V:Nat) (E:Int) (l:Log):Log:=(decide (vO (hPz n b v V) (Zad 1) (d16 V).length=V),true)::(Zpk (hPz n b v V) (Zad 1) (d16 V).length (d16 V).length E,true)::(decide (dnA b (trZ (dgs b v)) (bhd b v) (scA b v).1=(V,E)),true)::(decide (trZ (dgs b v)=[]),false)::(Zzb b (dgs b v) (bhd b v) (scA b v).1,true)::l
theorem ZA0 (l:List UInt8) (m:Int):ZB (Zr (Zk prog Zf zA ZbD) 300 19 [bR l,.int .i64 m] [cmp true]) (.tuple #[.int .u64 0,.int .i64 0,.int .i64 2]) ([(decide (((l.length:Nat):Int)>65536),true)]):=by and_intros<;>kernel_rfl
theorem ZA1 (m:Int):ZB (Zr (Zk prog Zf zA ZbD) 300 19 [bR [],.int .i64 m] [cmp false,cmp false,cmp false,sam false,sam false,cmp false,cmp false]) (.tuple #[.int .u64 0,.int .i64 0,.int .i64 3]) (lSc 10 [] false (lBb [] lSe)):=by and_intros<;>kernel_rfl
theorem Z8I (c:UInt8) (r:List UInt8) (m:Int):ZB (Zr (Zk prog Zf zA ZbD) 300 19 [bR (c::r),.int .i64 m] [cmp false,cmp true,cmp true,cmp true,cmp true,sam true,sam true]) (.tuple #[.int .u64 9221120237041090560,.int .i64 0,.int .i64 0]) (lIs r [110,97,110] true::lSm c r):=by and_intros<;>kernel_rfl
theorem Z8J (c:UInt8) (r:List UInt8) (m:Int):ZB (Zr (Zk prog Zf zA ZbD) 300 19 [bR (c::r),.int .i64 m] [cmp false,cmp true,cmp true,cmp true,cmp true,sam true,sam false,sam true]) (.tuple #[.int .u64 18442240474082181120,.int .i64 0,.int .i64 0]) (lIs r [105,110,102] true::lIs r [110,97,110] false::lSm c r):=by and_intros<;>kernel_rfl
theorem Z42 (c:UInt8) (r:List UInt8) (m:Int):ZB (Zr (Zk prog Zf zA ZbD) 300 19 [bR (c::r),.int .i64 m] [cmp false,cmp true,cmp true,cmp true,cmp true,sam true,sam false,sam false,cmp true,sam true,sam true,sam true,cmp false]) (.tuple #[.int .u64 0,.int .i64 0,.int .i64 3]) (lSc 16 (r.drop 2) false (Ztd r (lSm c r))):=by and_intros<;>kernel_rfl
theorem Z43 (c:UInt8) (r:List UInt8) (m:Int):ZB (Zr (Zk prog Zf zA ZbD) 300 19 [bR (c::r),.int .i64 m] [cmp false,cmp true,cmp true,cmp true,cmp true,sam true,sam false,sam false,cmp true,sam true,sam true,sam true,cmp true,cmp true]) (.tuple #[.int .u64 9223372036854775808,.int .i64 0,.int .i64 0]) (lDz 16 (r.drop 2) (lSc 16 (r.drop 2) true (Ztd r (lSm c r)))):=by and_intros<;>kernel_rfl
theorem Z44 (c:UInt8) (r:List UInt8) (m:Int) (V:Nat) (E:Int):ZB (Zr (Zk prog Zf zA ZbD) 300 19 [bR (c::r),.int .i64 m] [cmp false,cmp true,cmp true,cmp true,cmp true,sam true,sam false,sam false,cmp true,sam true,sam true,sam true,cmp true,cmp false,num V,num E,num V]) (.tuple #[.int .u64 (sS true (rnP m true V E)),.int .i64 (rnF m true V E),.int .i64 0]) (lDn true 16 (r.drop 2) V E (lSc 16 (r.drop 2) true (Ztd r (lSm c r)))):=by and_intros<;>kernel_rfl
theorem Z45 (c:UInt8) (r:List UInt8) (m:Int):ZB (Zr (Zk prog Zf zA ZbD) 300 19 [bR (c::r),.int .i64 m] [cmp false,cmp true,cmp true,cmp true,cmp true,sam true,sam false,sam false,cmp true,sam true,sam false,cmp false]) (.tuple #[.int .u64 0,.int .i64 0,.int .i64 3]) (lSc 10 r false (lBa r (lSm c r))):=by and_intros<;>kernel_rfl
theorem Z46 (c:UInt8) (r:List UInt8) (m:Int):ZB (Zr (Zk prog Zf zA ZbD) 300 19 [bR (c::r),.int .i64 m] [cmp false,cmp true,cmp true,cmp true,cmp true,sam true,sam false,sam false,cmp true,sam true,sam false,cmp true,cmp true]) (.tuple #[.int .u64 9223372036854775808,.int .i64 0,.int .i64 0]) (lDz 10 r (lSc 10 r true (lBa r (lSm c r)))):=by and_intros<;>kernel_rfl
theorem Z47 (c:UInt8) (r:List UInt8) (m:Int) (V:Nat) (E:Int):ZB (Zr (Zk prog Zf zA ZbD) 300 19 [bR (c::r),.int .i64 m] [cmp false,cmp true,cmp true,cmp true,cmp true,sam true,sam false,sam false,cmp true,sam true,sam false,cmp true,cmp false,num V,num E,num V]) (.tuple #[.int .u64 (sS true (rnP m true V E)),.int .i64 (rnF m true V E),.int .i64 0]) (lDn true 10 r V E (lSc 10 r true (lBa r (lSm c r)))):=by and_intros<;>kernel_rfl
theorem Z48 (c:UInt8) (r:List UInt8) (m:Int):ZB (Zr (Zk prog Zf zA ZbD) 300 19 [bR (c::r),.int .i64 m] [cmp false,cmp true,cmp true,cmp true,cmp true,sam true,sam false,sam false,cmp false,cmp false]) (.tuple #[.int .u64 0,.int .i64 0,.int .i64 3]) (lSc 10 r false (lBb r (lSm c r))):=by and_intros<;>kernel_rfl
theorem Z49 (c:UInt8) (r:List UInt8) (m:Int):ZB (Zr (Zk prog Zf zA ZbD) 300 19 [bR (c::r),.int .i64 m] [cmp false,cmp true,cmp true,cmp true,cmp true,sam true,sam false,sam false,cmp false,cmp true,cmp true]) (.tuple #[.int .u64 9223372036854775808,.int .i64 0,.int .i64 0]) (lDz 10 r (lSc 10 r true (lBb r (lSm c r)))):=by and_intros<;>kernel_rfl
theorem Z4A (c:UInt8) (r:List UInt8) (m:Int) (V:Nat) (E:Int):ZB (Zr (Zk prog Zf zA ZbD) 300 19 [bR (c::r),.int .i64 m] [cmp false,cmp true,cmp true,cmp true,cmp true,sam true,sam false,sam false,cmp false,cmp true,cmp false,num V,num E,num V]) (.tuple #[.int .u64 (sS true (rnP m true V E)),.int .i64 (rnF m true V E),.int .i64 0]) (lDn true 10 r V E (lSc 10 r true (lBb r (lSm c r)))):=by and_intros<;>kernel_rfl
theorem Z8K (c:UInt8) (r:List UInt8) (m:Int):ZB (Zr (Zk prog Zf zA ZbD) 300 19 [bR (c::r),.int .i64 m] [cmp false,cmp true,cmp false,cmp true,cmp false,cmp true,sam true,sam true]) (.tuple #[.int .u64 9221120237041090560,.int .i64 0,.int .i64 0]) (lIs r [110,97,110] true::lSp c r):=by and_intros<;>kernel_rfl
theorem Z8L (c:UInt8) (r:List UInt8) (m:Int):ZB (Zr (Zk prog Zf zA ZbD) 300 19 [bR (c::r),.int .i64 m] [cmp false,cmp true,cmp false,cmp true,cmp false,cmp true,sam true,sam false,sam true]) (.tuple #[.int .u64 9218868437227405312,.int .i64 0,.int .i64 0]) (lIs r [105,110,102] true::lIs r [110,97,110] false::lSp c r):=by and_intros<;>kernel_rfl
theorem Z4B (c:UInt8) (r:List UInt8) (m:Int):ZB (Zr (Zk prog Zf zA ZbD) 300 19 [bR (c::r),.int .i64 m] [cmp false,cmp true,cmp false,cmp true,cmp false,cmp true,sam true,sam false,sam false,cmp true,sam true,sam true,sam true,cmp false]) (.tuple #[.int .u64 0,.int .i64 0,.int .i64 3]) (lSc 16 (r.drop 2) false (Ztd r (lSp c r))):=by and_intros<;>kernel_rfl
theorem Z4C (c:UInt8) (r:List UInt8) (m:Int):ZB (Zr (Zk prog Zf zA ZbD) 300 19 [bR (c::r),.int .i64 m] [cmp false,cmp true,cmp false,cmp true,cmp false,cmp true,sam true,sam false,sam false,cmp true,sam true,sam true,sam true,cmp true,cmp true]) (.tuple #[.int .u64 0,.int .i64 0,.int .i64 0]) (lDz 16 (r.drop 2) (lSc 16 (r.drop 2) true (Ztd r (lSp c r)))):=by and_intros<;>kernel_rfl
theorem Z4D (c:UInt8) (r:List UInt8) (m:Int) (V:Nat) (E:Int):ZB (Zr (Zk prog Zf zA ZbD) 300 19 [bR (c::r),.int .i64 m] [cmp false,cmp true,cmp false,cmp true,cmp false,cmp true,sam true,sam false,sam false,cmp true,sam true,sam true,sam true,cmp true,cmp false,num V,num E,num V]) (.tuple #[.int .u64 (sS false (rnP m false V E)),.int .i64 (rnF m false V E),.int .i64 0]) (lDn false 16 (r.drop 2) V E (lSc 16 (r.drop 2) true (Ztd r (lSp c r)))):=by and_intros<;>kernel_rfl
theorem Z4E (c:UInt8) (r:List UInt8) (m:Int):ZB (Zr (Zk prog Zf zA ZbD) 300 19 [bR (c::r),.int .i64 m] [cmp false,cmp true,cmp false,cmp true,cmp false,cmp true,sam true,sam false,sam false,cmp true,sam true,sam false,cmp false]) (.tuple #[.int .u64 0,.int .i64 0,.int .i64 3]) (lSc 10 r false (lBa r (lSp c r))):=by and_intros<;>kernel_rfl
theorem Z4F (c:UInt8) (r:List UInt8) (m:Int):ZB (Zr (Zk prog Zf zA ZbD) 300 19 [bR (c::r),.int .i64 m] [cmp false,cmp true,cmp false,cmp true,cmp false,cmp true,sam true,sam false,sam false,cmp true,sam true,sam false,cmp true,cmp true]) (.tuple #[.int .u64 0,.int .i64 0,.int .i64 0]) (lDz 10 r (lSc 10 r true (lBa r (lSp c r)))):=by and_intros<;>kernel_rfl
theorem Z4G (c:UInt8) (r:List UInt8) (m:Int) (V:Nat) (E:Int):ZB (Zr (Zk prog Zf zA ZbD) 300 19 [bR (c::r),.int .i64 m] [cmp false,cmp true,cmp false,cmp true,cmp false,cmp true,sam true,sam false,sam false,cmp true,sam true,sam false,cmp true,cmp false,num V,num E,num V]) (.tuple #[.int .u64 (sS false (rnP m false V E)),.int .i64 (rnF m false V E),.int .i64 0]) (lDn false 10 r V E (lSc 10 r true (lBa r (lSp c r)))):=by and_intros<;>kernel_rfl
theorem Z4H (c:UInt8) (r:List UInt8) (m:Int):ZB (Zr (Zk prog Zf zA ZbD) 300 19 [bR (c::r),.int .i64 m] [cmp false,cmp true,cmp false,cmp true,cmp false,cmp true,sam true,sam false,sam false,cmp false,cmp false]) (.tuple #[.int .u64 0,.int .i64 0,.int .i64 3]) (lSc 10 r false (lBb r (lSp c r))):=by and_intros<;>kernel_rfl
theorem Z4I (c:UInt8) (r:List UInt8) (m:Int):ZB (Zr (Zk prog Zf zA ZbD) 300 19 [bR (c::r),.int .i64 m] [cmp false,cmp true,cmp false,cmp true,cmp false,cmp true,sam true,sam false,sam false,cmp false,cmp true,cmp true]) (.tuple #[.int .u64 0,.int .i64 0,.int .i64 0]) (lDz 10 r (lSc 10 r true (lBb r (lSp c r)))):=by and_intros<;>kernel_rfl
theorem Z4J (c:UInt8) (r:List UInt8) (m:Int) (V:Nat) (E:Int):ZB (Zr (Zk prog Zf zA ZbD) 300 19 [bR (c::r),.int .i64 m] [cmp false,cmp true,cmp false,cmp true,cmp false,cmp true,sam true,sam false,sam false,cmp false,cmp true,cmp false,num V,num E,num V]) (.tuple #[.int .u64 (sS false (rnP m false V E)),.int .i64 (rnF m false V E),.int .i64 0]) (lDn false 10 r V E (lSc 10 r true (lBb r (lSp c r)))):=by and_intros<;>kernel_rfl
theorem Z8M (c:UInt8) (r:List UInt8) (m:Int):ZB (Zr (Zk prog Zf zA ZbD) 300 19 [bR (c::r),.int .i64 m] [cmp false,cmp true,cmp false,cmp true,cmp false,cmp false,sam true]) (.tuple #[.int .u64 9221120237041090560,.int .i64 0,.int .i64 0]) (lIs (c::r) [110,97,110] true::ZkG c r):=by and_intros<;>kernel_rfl
theorem Z8N (c:UInt8) (r:List UInt8) (m:Int):ZB (Zr (Zk prog Zf zA ZbD) 300 19 [bR (c::r),.int .i64 m] [cmp false,cmp true,cmp false,cmp true,cmp false,cmp false,sam false,sam true]) (.tuple #[.int .u64 9218868437227405312,.int .i64 0,.int .i64 0]) (lIs (c::r) [105,110,102] true::lIs (c::r) [110,97,110] false::ZkG c r):=by and_intros<;>kernel_rfl
theorem Z4K (c:UInt8) (r:List UInt8) (m:Int):ZB (Zr (Zk prog Zf zA ZbD) 300 19 [bR (c::r),.int .i64 m] [cmp false,cmp true,cmp false,cmp true,cmp false,cmp false,sam false,sam false,cmp true,sam true,sam true,sam true,cmp false]) (.tuple #[.int .u64 0,.int .i64 0,.int .i64 3]) (lSc 16 ((c::r).drop 2) false (Ztd (c::r) (ZkG c r))):=by and_intros<;>kernel_rfl
theorem Z4L (c:UInt8) (r:List UInt8) (m:Int):ZB (Zr (Zk prog Zf zA ZbD) 300 19 [bR (c::r),.int .i64 m] [cmp false,cmp true,cmp false,cmp true,cmp false,cmp false,sam false,sam false,cmp true,sam true,sam true,sam true,cmp true,cmp true]) (.tuple #[.int .u64 0,.int .i64 0,.int .i64 0]) (lDz 16 ((c::r).drop 2) (lSc 16 ((c::r).drop 2) true (Ztd (c::r) (ZkG c r)))):=by and_intros<;>kernel_rfl
theorem Z4M (c:UInt8) (r:List UInt8) (m:Int) (V:Nat) (E:Int):ZB (Zr (Zk prog Zf zA ZbD) 300 19 [bR (c::r),.int .i64 m] [cmp false,cmp true,cmp false,cmp true,cmp false,cmp false,sam false,sam false,cmp true,sam true,sam true,sam true,cmp true,cmp false,num V,num E,num V]) (.tuple #[.int .u64 (sS false (rnP m false V E)),.int .i64 (rnF m false V E),.int .i64 0]) (lDn false 16 ((c::r).drop 2) V E (lSc 16 ((c::r).drop 2) true (Ztd (c::r) (ZkG c r)))):=by and_intros<;>kernel_rfl
theorem Z4N (c:UInt8) (r:List UInt8) (m:Int):ZB (Zr (Zk prog Zf zA ZbD) 300 19 [bR (c::r),.int .i64 m] [cmp false,cmp true,cmp false,cmp true,cmp false,cmp false,sam false,sam false,cmp true,sam true,sam false,cmp false]) (.tuple #[.int .u64 0,.int .i64 0,.int .i64 3]) (lSc 10 (c::r) false (lBa (c::r) (ZkG c r))):=by and_intros<;>kernel_rfl
theorem Z4O (c:UInt8) (r:List UInt8) (m:Int):ZB (Zr (Zk prog Zf zA ZbD) 300 19 [bR (c::r),.int .i64 m] [cmp false,cmp true,cmp false,cmp true,cmp false,cmp false,sam false,sam false,cmp true,sam true,sam false,cmp true,cmp true]) (.tuple #[.int .u64 0,.int .i64 0,.int .i64 0]) (lDz 10 (c::r) (lSc 10 (c::r) true (lBa (c::r) (ZkG c r)))):=by and_intros<;>kernel_rfl
theorem Z4P (c:UInt8) (r:List UInt8) (m:Int) (V:Nat) (E:Int):ZB (Zr (Zk prog Zf zA ZbD) 300 19 [bR (c::r),.int .i64 m] [cmp false,cmp true,cmp false,cmp true,cmp false,cmp false,sam false,sam false,cmp true,sam true,sam false,cmp true,cmp false,num V,num E,num V]) (.tuple #[.int .u64 (sS false (rnP m false V E)),.int .i64 (rnF m false V E),.int .i64 0]) (lDn false 10 (c::r) V E (lSc 10 (c::r) true (lBa (c::r) (ZkG c r)))):=by and_intros<;>kernel_rfl
theorem Z4Q (c:UInt8) (r:List UInt8) (m:Int):ZB (Zr (Zk prog Zf zA ZbD) 300 19 [bR (c::r),.int .i64 m] [cmp false,cmp true,cmp false,cmp true,cmp false,cmp false,sam false,sam false,cmp false,cmp false]) (.tuple #[.int .u64 0,.int .i64 0,.int .i64 3]) (lSc 10 (c::r) false (lBb (c::r) (ZkG c r))):=by and_intros<;>kernel_rfl
theorem Z4R (c:UInt8) (r:List UInt8) (m:Int):ZB (Zr (Zk prog Zf zA ZbD) 300 19 [bR (c::r),.int .i64 m] [cmp false,cmp true,cmp false,cmp true,cmp false,cmp false,sam false,sam false,cmp false,cmp true,cmp true]) (.tuple #[.int .u64 0,.int .i64 0,.int .i64 0]) (lDz 10 (c::r) (lSc 10 (c::r) true (lBb (c::r) (ZkG c r)))):=by and_intros<;>kernel_rfl
theorem Z4S (c:UInt8) (r:List UInt8) (m:Int) (V:Nat) (E:Int):ZB (Zr (Zk prog Zf zA ZbD) 300 19 [bR (c::r),.int .i64 m] [cmp false,cmp true,cmp false,cmp true,cmp false,cmp false,sam false,sam false,cmp false,cmp true,cmp false,num V,num E,num V]) (.tuple #[.int .u64 (sS false (rnP m false V E)),.int .i64 (rnF m false V E),.int .i64 0]) (lDn false 10 (c::r) V E (lSc 10 (c::r) true (lBb (c::r) (ZkG c r)))):=by and_intros<;>kernel_rfl
end Go.Proofs.YtgefjidphfdhdaaGreatDoor
