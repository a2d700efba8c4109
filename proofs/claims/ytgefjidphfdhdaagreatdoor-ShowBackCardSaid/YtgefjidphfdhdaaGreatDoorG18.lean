/-
  NumRn, RpE, RpF, RpH, RpI, RdZ
-/
import Derived.Test.YtgefjidphfdhdaaGreatDoorG17
namespace Go.Rd
open Go.IntKind
open Go.Wd
def orW (y w:Int) (s:Nat):Int:=u64.wrap (((BitVec.ofInt 64 y ||| BitVec.ofInt 64 (u64.wrap (u64.wrap w*2^s))).toNat:Nat):Int)
theorem ZhI {z:Int}(h0:0≤z) (h1:z<18446744073709551616):u64.wrap z=z:=by
 simp [IntKind.wrap,IntKind.bits,IntKind.signed];omega
theorem Zby {y w s:Nat}(hs:s=0∨s=32) (hy:y<2^s) (hw:w<4294967296):orW (y:Int) (w:Int) s=((y+w*2^s:Nat):Int):=by
 have e32:(2:Nat)^32=4294967296:=rfl;have e0:(2:Nat)^0=1:=rfl;have hb:y+w*2^s<18446744073709551616:=by rcases hs with rfl | rfl<;>omega
 have hy2:y<18446744073709551616:=by omega
 have e1:((w:Nat):Int)*2^s=((w*2^s:Nat):Int):=by rw[cast_pow,Int.natCast_mul]
 have h64:((2:Nat)^64:Nat)=18446744073709551616:=rfl;have b1:∀ z:Nat,z<18446744073709551616→(BitVec.ofInt 64 (z:Int)).toNat=z:=fun z hz=>by
  rw[BitVec.toNat_ofInt];omega
 unfold orW;rw[ZhI (z:=(w:Int)) (by omega) (by omega),e1,ZhI (z:=((w*2^s:Nat):Int)) (by omega) (by omega),BitVec.toNat_or,b1 y hy2,b1 _ (by omega)];have h:=Nat.shiftLeft_add_eq_or_of_lt (i:=s) hy w;rw[Nat.shiftLeft_eq,Nat.or_comm] at h;rw[← h,ZhI (by omega) (by omega),Nat.add_comm]
def Z6l (x:W4) (w:Int):W4:=⟨orW x.a w 0,x.b,x.c,x.d⟩
theorem ZxG {V w:Nat}(hV:V<1) (hw:w<4294967296):Z6l (ofN V) (w:Int)=ofN (V+1*w):=by
 have e:(ofN V).a=((V:Nat):Int):=by
  show ((V:Nat):Int) % 18446744073709551616=_;omega
 have q:=Zby (y:=V) (w:=w) (s:=0) (by omega) (by have h1:(2:Nat)^0=1:=rfl;omega) hw;have h2:(2:Nat)^0=1:=rfl;rw[h2] at q;unfold Z6l;refine W4.ext' ?_ ?_ ?_ ?_
 ·show orW (ofN V).a w 0=((V+1*w:Nat):Int) % 18446744073709551616;rw[e,q];omega
 ·show ((V:Nat):Int)/18446744073709551616 % 18446744073709551616=((V+1*w:Nat):Int)/18446744073709551616 % 18446744073709551616;omega
 ·show ((V:Nat):Int)/340282366920938463463374607431768211456 % 18446744073709551616=((V+1*w:Nat):Int)/340282366920938463463374607431768211456 % 18446744073709551616;omega
 ·show ((V:Nat):Int)/6277101735386680763835789423207666416102355444464034512896 % 18446744073709551616=((V+1*w:Nat):Int)/6277101735386680763835789423207666416102355444464034512896 % 18446744073709551616;omega
def Z6m (x:W4) (w:Int):W4:=⟨orW x.a w 32,x.b,x.c,x.d⟩
theorem ZxH {V w:Nat}(hV:V<4294967296) (hw:w<4294967296):Z6m (ofN V) (w:Int)=ofN (V+4294967296*w):=by
 have e:(ofN V).a=((V:Nat):Int):=by
  show ((V:Nat):Int) % 18446744073709551616=_;omega
 have q:=Zby (y:=V) (w:=w) (s:=32) (by omega) (by have h1:(2:Nat)^32=4294967296:=rfl;omega) hw;have h2:(2:Nat)^32=4294967296:=rfl;rw[h2] at q;unfold Z6m;refine W4.ext' ?_ ?_ ?_ ?_
 ·show orW (ofN V).a w 32=((V+4294967296*w:Nat):Int) % 18446744073709551616;rw[e,q];omega
 ·show ((V:Nat):Int)/18446744073709551616 % 18446744073709551616=((V+4294967296*w:Nat):Int)/18446744073709551616 % 18446744073709551616;omega
 ·show ((V:Nat):Int)/340282366920938463463374607431768211456 % 18446744073709551616=((V+4294967296*w:Nat):Int)/340282366920938463463374607431768211456 % 18446744073709551616;omega
 ·show ((V:Nat):Int)/6277101735386680763835789423207666416102355444464034512896 % 18446744073709551616=((V+4294967296*w:Nat):Int)/6277101735386680763835789423207666416102355444464034512896 % 18446744073709551616;omega
def Z6n (x:W4) (w:Int):W4:=⟨x.a,orW x.b w 0,x.c,x.d⟩
theorem ZxI {V w:Nat}(hV:V<18446744073709551616) (hw:w<4294967296):Z6n (ofN V) (w:Int)=ofN (V+18446744073709551616*w):=by
 have e:(ofN V).b=((V/18446744073709551616:Nat):Int):=by
  show ((V:Nat):Int)/18446744073709551616 % 18446744073709551616=_;omega
 have q:=Zby (y:=V/18446744073709551616) (w:=w) (s:=0) (by omega) (by have h1:(2:Nat)^0=1:=rfl;omega) hw;have h2:(2:Nat)^0=1:=rfl;rw[h2] at q;unfold Z6n;refine W4.ext' ?_ ?_ ?_ ?_
 ·show ((V:Nat):Int) % 18446744073709551616=((V+18446744073709551616*w:Nat):Int) % 18446744073709551616;omega
 ·show orW (ofN V).b w 0=((V+18446744073709551616*w:Nat):Int)/18446744073709551616 % 18446744073709551616;rw[e,q];omega
 ·show ((V:Nat):Int)/340282366920938463463374607431768211456 % 18446744073709551616=((V+18446744073709551616*w:Nat):Int)/340282366920938463463374607431768211456 % 18446744073709551616;omega
 ·show ((V:Nat):Int)/6277101735386680763835789423207666416102355444464034512896 % 18446744073709551616=((V+18446744073709551616*w:Nat):Int)/6277101735386680763835789423207666416102355444464034512896 % 18446744073709551616;omega
def Z6o (x:W4) (w:Int):W4:=⟨x.a,orW x.b w 32,x.c,x.d⟩
theorem ZxJ {V w:Nat}(hV:V<79228162514264337593543950336) (hw:w<4294967296):Z6o (ofN V) (w:Int)=ofN (V+79228162514264337593543950336*w):=by
 have e:(ofN V).b=((V/18446744073709551616:Nat):Int):=by
  show ((V:Nat):Int)/18446744073709551616 % 18446744073709551616=_;omega
 have q:=Zby (y:=V/18446744073709551616) (w:=w) (s:=32) (by omega) (by have h1:(2:Nat)^32=4294967296:=rfl;omega) hw;have h2:(2:Nat)^32=4294967296:=rfl;rw[h2] at q;unfold Z6o;refine W4.ext' ?_ ?_ ?_ ?_
 ·show ((V:Nat):Int) % 18446744073709551616=((V+79228162514264337593543950336*w:Nat):Int) % 18446744073709551616;omega
 ·show orW (ofN V).b w 32=((V+79228162514264337593543950336*w:Nat):Int)/18446744073709551616 % 18446744073709551616;rw[e,q];omega
 ·show ((V:Nat):Int)/340282366920938463463374607431768211456 % 18446744073709551616=((V+79228162514264337593543950336*w:Nat):Int)/340282366920938463463374607431768211456 % 18446744073709551616;omega
 ·show ((V:Nat):Int)/6277101735386680763835789423207666416102355444464034512896 % 18446744073709551616=((V+79228162514264337593543950336*w:Nat):Int)/6277101735386680763835789423207666416102355444464034512896 % 18446744073709551616;omega
def Z6p (x:W4) (w:Int):W4:=⟨x.a,x.b,orW x.c w 0,x.d⟩
theorem ZxK {V w:Nat}(hV:V<340282366920938463463374607431768211456) (hw:w<4294967296):Z6p (ofN V) (w:Int)=ofN (V+340282366920938463463374607431768211456*w):=by
 have e:(ofN V).c=((V/340282366920938463463374607431768211456:Nat):Int):=by
  show ((V:Nat):Int)/340282366920938463463374607431768211456 % 18446744073709551616=_;omega
 have q:=Zby (y:=V/340282366920938463463374607431768211456) (w:=w) (s:=0) (by omega) (by have h1:(2:Nat)^0=1:=rfl;omega) hw;have h2:(2:Nat)^0=1:=rfl;rw[h2] at q;unfold Z6p;refine W4.ext' ?_ ?_ ?_ ?_
 ·show ((V:Nat):Int) % 18446744073709551616=((V+340282366920938463463374607431768211456*w:Nat):Int) % 18446744073709551616;omega
 ·show ((V:Nat):Int)/18446744073709551616 % 18446744073709551616=((V+340282366920938463463374607431768211456*w:Nat):Int)/18446744073709551616 % 18446744073709551616;omega
 ·show orW (ofN V).c w 0=((V+340282366920938463463374607431768211456*w:Nat):Int)/340282366920938463463374607431768211456 % 18446744073709551616;rw[e,q];omega
 ·show ((V:Nat):Int)/6277101735386680763835789423207666416102355444464034512896 % 18446744073709551616=((V+340282366920938463463374607431768211456*w:Nat):Int)/6277101735386680763835789423207666416102355444464034512896 % 18446744073709551616;omega
def Z6q (x:W4) (w:Int):W4:=⟨x.a,x.b,orW x.c w 32,x.d⟩
theorem ZxL {V w:Nat}(hV:V<1461501637330902918203684832716283019655932542976) (hw:w<4294967296):Z6q (ofN V) (w:Int)=ofN (V+1461501637330902918203684832716283019655932542976*w):=by
 have e:(ofN V).c=((V/340282366920938463463374607431768211456:Nat):Int):=by
  show ((V:Nat):Int)/340282366920938463463374607431768211456 % 18446744073709551616=_;omega
 have q:=Zby (y:=V/340282366920938463463374607431768211456) (w:=w) (s:=32) (by omega) (by have h1:(2:Nat)^32=4294967296:=rfl;omega) hw;have h2:(2:Nat)^32=4294967296:=rfl;rw[h2] at q;unfold Z6q;refine W4.ext' ?_ ?_ ?_ ?_
 ·show ((V:Nat):Int) % 18446744073709551616=((V+1461501637330902918203684832716283019655932542976*w:Nat):Int) % 18446744073709551616;omega
 ·show ((V:Nat):Int)/18446744073709551616 % 18446744073709551616=((V+1461501637330902918203684832716283019655932542976*w:Nat):Int)/18446744073709551616 % 18446744073709551616;omega
 ·show orW (ofN V).c w 32=((V+1461501637330902918203684832716283019655932542976*w:Nat):Int)/340282366920938463463374607431768211456 % 18446744073709551616;rw[e,q];omega
 ·show ((V:Nat):Int)/6277101735386680763835789423207666416102355444464034512896 % 18446744073709551616=((V+1461501637330902918203684832716283019655932542976*w:Nat):Int)/6277101735386680763835789423207666416102355444464034512896 % 18446744073709551616;omega
def Z6r (x:W4) (w:Int):W4:=⟨x.a,x.b,x.c,orW x.d w 0⟩
theorem ZxM {V w:Nat}(hV:V<6277101735386680763835789423207666416102355444464034512896) (hw:w<4294967296):Z6r (ofN V) (w:Int)=ofN (V+6277101735386680763835789423207666416102355444464034512896*w):=by
 have e:(ofN V).d=((V/6277101735386680763835789423207666416102355444464034512896:Nat):Int):=by
  show ((V:Nat):Int)/6277101735386680763835789423207666416102355444464034512896 % 18446744073709551616=_;omega
 have q:=Zby (y:=V/6277101735386680763835789423207666416102355444464034512896) (w:=w) (s:=0) (by omega) (by have h1:(2:Nat)^0=1:=rfl;omega) hw;have h2:(2:Nat)^0=1:=rfl;rw[h2] at q;unfold Z6r;refine W4.ext' ?_ ?_ ?_ ?_
 ·show ((V:Nat):Int) % 18446744073709551616=((V+6277101735386680763835789423207666416102355444464034512896*w:Nat):Int) % 18446744073709551616;omega
 ·show ((V:Nat):Int)/18446744073709551616 % 18446744073709551616=((V+6277101735386680763835789423207666416102355444464034512896*w:Nat):Int)/18446744073709551616 % 18446744073709551616;omega
 ·show ((V:Nat):Int)/340282366920938463463374607431768211456 % 18446744073709551616=((V+6277101735386680763835789423207666416102355444464034512896*w:Nat):Int)/340282366920938463463374607431768211456 % 18446744073709551616;omega
 ·show orW (ofN V).d w 0=((V+6277101735386680763835789423207666416102355444464034512896*w:Nat):Int)/6277101735386680763835789423207666416102355444464034512896 % 18446744073709551616;rw[e,q];omega
def Z6s (x:W4) (w:Int):W4:=⟨x.a,x.b,x.c,orW x.d w 32⟩
theorem ZxN {V w:Nat}(hV:V<26959946667150639794667015087019630673637144422540572481103610249216) (hw:w<4294967296):Z6s (ofN V) (w:Int)=ofN (V+26959946667150639794667015087019630673637144422540572481103610249216*w):=by
 have e:(ofN V).d=((V/6277101735386680763835789423207666416102355444464034512896:Nat):Int):=by
  show ((V:Nat):Int)/6277101735386680763835789423207666416102355444464034512896 % 18446744073709551616=_;omega
 have q:=Zby (y:=V/6277101735386680763835789423207666416102355444464034512896) (w:=w) (s:=32) (by omega) (by have h1:(2:Nat)^32=4294967296:=rfl;omega) hw;have h2:(2:Nat)^32=4294967296:=rfl;rw[h2] at q;unfold Z6s;refine W4.ext' ?_ ?_ ?_ ?_
 ·show ((V:Nat):Int) % 18446744073709551616=((V+26959946667150639794667015087019630673637144422540572481103610249216*w:Nat):Int) % 18446744073709551616;omega
 ·show ((V:Nat):Int)/18446744073709551616 % 18446744073709551616=((V+26959946667150639794667015087019630673637144422540572481103610249216*w:Nat):Int)/18446744073709551616 % 18446744073709551616;omega
 ·show ((V:Nat):Int)/340282366920938463463374607431768211456 % 18446744073709551616=((V+26959946667150639794667015087019630673637144422540572481103610249216*w:Nat):Int)/340282366920938463463374607431768211456 % 18446744073709551616;omega
 ·show orW (ofN V).d w 32=((V+26959946667150639794667015087019630673637144422540572481103610249216*w:Nat):Int)/6277101735386680763835789423207666416102355444464034512896 % 18446744073709551616;rw[e,q];omega
end Go.Rd
namespace Go.Proofs.YtgefjidphfdhdaaGreatDoor
open Go.Proofs.Tryz
open Go.IntKind
open Go.KRun Go.Nt Go.Rd Go.Wd
set_option maxRecDepth 100000
def uN (x:Int):Value:= .int .u32 x
def nB9 (n:Bool) (e:Int) (x:W4) (b:Bool):List Value×TypeId:=([.bool n,.int .i64 e,.int .u64 x.a,.int .u64 x.b,.int .u64 x.c,.int .u64 x.d,.bool b],89)
def hgM (l:List Value) (e:Int) (x:W4) (b:Bool):Hp:=⟨3,[nB9 false e x b,nB9 false 0 ⟨0,0,0,0⟩ false,(l,tR)]⟩
def Zyw (F:Func):Code:=cIn (cIn (ZV (sP F 3)))
def Zkq (F:Func):Code:=cIn (cIn (ZV (sP F 4)))
theorem ZxO:f151.body=some (Zaj [sP f151 0,sP f151 1,sP f151 2] (.seq (.seq (ZA (sP f151 3)) (.block 0 (.loop (Zyw f151)))) (.seq (.seq (ZA (sP f151 4)) (.block 2 (.loop (Zkq f151)))) (sK f151 5)))):=by kernel_rfl
def q10 (q:Nat→Value):List Value:=[q 0,q 1,q 2,q 3,q 4,q 5,q 6,q 7,q 8,q 9]
def q11 (q:Nat→Value):List Value:=[q 0,q 1,q 2,q 3,q 4,q 5,q 6,q 7,q 8,q 9,q 10]
def hgA (a:Value) (e:Int) (m:Bool) (k:Int) (v10 v11 v12:Value) (q:Nat→Value):List Value:=[a,.int .i64 e,.bool m,undef,undef,undef,pO 1,.int .i64 k,pO 2,undef,v10,v11,v12]++q10 q
def hgB (a:Value) (e:Int) (m:Bool) (v10 v11 v12:Value) (q:Nat→Value) (o c k:Nat) (i:Int):List Value:=hgA a e m (k:Nat) v10 v11 v12 q++[a,.int .i64 (k:Nat),sl 0 o k c,.int .i64 (k:Nat),.int .i64 i]
def hgC (a:Value) (e:Int) (m:Bool) (v10 v11 v12:Value) (q q':Nat→Value) (o n c k:Nat) (j i:Int):List Value:=hgB a e m v10 v11 v12 q o c k j++q11 q'++[a,.int .i64 (k:Nat),sl 0 (o+k*1) (n-k) (c-k),.int .i64 ((n-k:Nat):Int),.int .i64 i]
def Ztx (n:Nat):Int:=if 0>i64.wrap ((n:Int)-8) then 0 else i64.wrap ((n:Int)-8)
def hgE (n:Nat) (e:Int):Int:=i64.wrap (e+i64.wrap (32*Ztx n))
def hgQ (o n c:Nat) (e:Int) (m:Bool):Nat→Value:=fun i=>[sl 0 o n c,.int .i64 (n:Nat),.int .i64 (i64.wrap ((n:Int)-8)),.int .i64 (Ztx n),.int .i64 e,.int .i64 (Ztx n),.int .i64 (i64.wrap (32*Ztx n)),.int .i64 (hgE n e),.bool m,.agg #[.bool false,.int .i64 (hgE n e),.int .u64 0,.int .u64 0,.int .u64 0,.int .u64 0,.bool m]].getD i undef
theorem Z22 (l:List Value) (o n c:Nat) (e:Int) (m:Bool):Zk (evL (Zx prog Zi Zn hcN) 100 [sP f151 0,sP f151 1,sP f151 2] ([sl 0 o n c,.int .i64 e,.bool m]++List.replicate 62 undef,⟨1,[(l,tR)]⟩,[]) ⟨[],[],[]⟩) 23 42 none (hgA (sl 0 o n c) e m (Ztx n) undef undef undef (hgQ o n c e m)) (hgM l (hgE n e) ⟨0,0,0,0⟩ m) []:=by and_intros<;>kernel_rfl
theorem Z6t (l:List Value) (o n c k:Nat) (e E:Int) (m:Bool) (x:W4) (q g:Nat→Value):Zk (evC (Zx prog Zi Zn hcN) 100 false (ZA (sP f151 3)) (hgA (sl 0 o n c) e m (k:Nat) undef undef undef q++tl 42 g,hgM l E x m,[num 0]) ⟨[],[],[]⟩) 28 37 none (hgB (sl 0 o n c) e m undef undef undef q o c k 0) (hgM l E x m) [(Z8 c,true),(ZR 0 (k:Nat) (c:Nat) (c:Nat),true),(decide ((c:Int)=0∧(0:Int)≠0),false)]:=by and_intros<;>kernel_rfl
theorem Z6u (l:List Value) (a:Value) (o c k:Nat) (e E i:Int) (m mo:Bool) (x:W4) (v10:Value) (q g:Nat→Value):Zk (evC (Zx prog Zi Zn hcN) 100 false (Zyw f151) (hgB a e m v10 undef undef q o c k i++tl 37 g,hgM l E x mo,[cmp false]) ⟨[],[],[]⟩) 28 37 (some (some 0)) (hgB a e m v10 undef undef q o c k i) (hgM l E x mo) [(decide (i<(k:Nat)),false)]:=by and_intros<;>kernel_rfl
theorem Z6v (l:List Value) (a:Value) (o c k:Nat) (e E i w:Int) (m d:Bool) (x:W4) (v10:Value) (q g:Nat→Value):Zk (evC (Zx prog Zi Zn hcN) 100 false (Zyw f151) (hgB a e m v10 undef undef q o c k i++tl 37 g,hgM l E x false,[cmp true,at_,val (uN w),cmp d]) ⟨[],[],[]⟩) 28 37 none (hgB a e m (uN w) undef undef q o c k (i64.wrap (i+1))) (hgM l E x d) [(w !=0,d),(Z6 (l[o+i.toNat*1]?) (uN w),true),(decide (0≤i∧i<(k:Nat)),true),(decide (i<(k:Nat)),true)]:=by and_intros<;>kernel_rfl
theorem Z6w (l:List Value) (a:Value) (o c k:Nat) (e E i w:Int) (m:Bool) (x:W4) (v10:Value) (q g:Nat→Value):Zk (evC (Zx prog Zi Zn hcN) 100 false (Zyw f151) (hgB a e m v10 undef undef q o c k i++tl 37 g,hgM l E x true,[cmp true,at_,val (uN w)]) ⟨[],[],[]⟩) 28 37 none (hgB a e m (uN w) undef undef q o c k (i64.wrap (i+1))) (hgM l E x true) [(Z6 (l[o+i.toNat*1]?) (uN w),true),(decide (0≤i∧i<(k:Nat)),true),(decide (i<(k:Nat)),true)]:=by and_intros<;>kernel_rfl
theorem Z6x (l:List Value) (o n c k:Nat) (e E j:Int) (m mo:Bool) (x:W4) (v10:Value) (q g:Nat→Value):Zk (evC (Zx prog Zi Zn hcN) 100 false (ZA (sP f151 4)) (hgB (sl 0 o n c) e m v10 undef undef q o c k j++tl 37 g,hgM l E x mo,[num 0]) ⟨[],[],[]⟩) 44 21 none (hgC (sl 0 o n c) e m v10 undef undef q g o n c k j 0) (hgM l E x mo) [(Z8 c,true),(ZR (k:Nat) (n:Nat) (c:Nat) (c:Nat),true),(decide ((c:Int)=(k:Nat)∧((k:Nat):Int)≠0),false)]:=by and_intros<;>kernel_rfl
theorem Z6y (l:List Value) (a:Value) (o n c k:Nat) (e E j i:Int) (m mo:Bool) (x:W4) (v10 v11 v12:Value) (q q' g:Nat→Value):Zk (evC (Zx prog Zi Zn hcN) 100 false (Zkq f151) (hgC a e m v10 v11 v12 q q' o n c k j i++tl 21 g,hgM l E x mo,[cmp false]) ⟨[],[],[]⟩) 44 21 (some (some 2)) (hgC a e m v10 v11 v12 q q' o n c k j i) (hgM l E x mo) [(decide (i<((n-k:Nat):Int)),false)]:=by and_intros<;>kernel_rfl
theorem Z6z (l:List Value) (a:Value) (o n c k:Nat) (e E j w:Int) (m mo:Bool) (x:W4) (v10 v11 v12:Value) (q q' g:Nat→Value):Zk (evC (Zx prog Zi Zn hcN) 100 false (Zkq f151) (hgC a e m v10 v11 v12 q q' o n c k j 0++tl 21 g,hgM l E x mo,[cmp true,at_,val (uN w)]) ⟨[],[],[]⟩) 44 21 none (hgC a e m v10 (.int .i64 0) (uN w) q q' o n c k j 1) (hgM l E (Z6l x w) mo) [(false,false),(Z6 (l[o+k*1+0]?) (uN w),true),(decide ((0:Int)≤0∧(0:Int)<((n-k:Nat):Int)),true),(decide ((0:Int)<((n-k:Nat):Int)),true)]:=by and_intros<;>kernel_rfl
theorem Z60 (l:List Value) (a:Value) (o n c k:Nat) (e E j w:Int) (m mo:Bool) (x:W4) (v10 v11 v12:Value) (q q' g:Nat→Value):Zk (evC (Zx prog Zi Zn hcN) 100 false (Zkq f151) (hgC a e m v10 v11 v12 q q' o n c k j 1++tl 21 g,hgM l E x mo,[cmp true,at_,val (uN w)]) ⟨[],[],[]⟩) 44 21 none (hgC a e m v10 (.int .i64 1) (uN w) q q' o n c k j 2) (hgM l E (Z6m x w) mo) [(false,false),(Z6 (l[o+k*1+1]?) (uN w),true),(decide ((0:Int)≤1∧(1:Int)<((n-k:Nat):Int)),true),(decide ((1:Int)<((n-k:Nat):Int)),true)]:=by and_intros<;>kernel_rfl
theorem Z61 (l:List Value) (a:Value) (o n c k:Nat) (e E j w:Int) (m mo:Bool) (x:W4) (v10 v11 v12:Value) (q q' g:Nat→Value):Zk (evC (Zx prog Zi Zn hcN) 100 false (Zkq f151) (hgC a e m v10 v11 v12 q q' o n c k j 2++tl 21 g,hgM l E x mo,[cmp true,at_,val (uN w)]) ⟨[],[],[]⟩) 44 21 none (hgC a e m v10 (.int .i64 2) (uN w) q q' o n c k j 3) (hgM l E (Z6n x w) mo) [(false,false),(Z6 (l[o+k*1+2]?) (uN w),true),(decide ((0:Int)≤2∧(2:Int)<((n-k:Nat):Int)),true),(decide ((2:Int)<((n-k:Nat):Int)),true)]:=by and_intros<;>kernel_rfl
theorem Z62 (l:List Value) (a:Value) (o n c k:Nat) (e E j w:Int) (m mo:Bool) (x:W4) (v10 v11 v12:Value) (q q' g:Nat→Value):Zk (evC (Zx prog Zi Zn hcN) 100 false (Zkq f151) (hgC a e m v10 v11 v12 q q' o n c k j 3++tl 21 g,hgM l E x mo,[cmp true,at_,val (uN w)]) ⟨[],[],[]⟩) 44 21 none (hgC a e m v10 (.int .i64 3) (uN w) q q' o n c k j 4) (hgM l E (Z6o x w) mo) [(false,false),(Z6 (l[o+k*1+3]?) (uN w),true),(decide ((0:Int)≤3∧(3:Int)<((n-k:Nat):Int)),true),(decide ((3:Int)<((n-k:Nat):Int)),true)]:=by and_intros<;>kernel_rfl
theorem Z63 (l:List Value) (a:Value) (o n c k:Nat) (e E j w:Int) (m mo:Bool) (x:W4) (v10 v11 v12:Value) (q q' g:Nat→Value):Zk (evC (Zx prog Zi Zn hcN) 100 false (Zkq f151) (hgC a e m v10 v11 v12 q q' o n c k j 4++tl 21 g,hgM l E x mo,[cmp true,at_,val (uN w)]) ⟨[],[],[]⟩) 44 21 none (hgC a e m v10 (.int .i64 4) (uN w) q q' o n c k j 5) (hgM l E (Z6p x w) mo) [(false,false),(Z6 (l[o+k*1+4]?) (uN w),true),(decide ((0:Int)≤4∧(4:Int)<((n-k:Nat):Int)),true),(decide ((4:Int)<((n-k:Nat):Int)),true)]:=by and_intros<;>kernel_rfl
theorem Z64 (l:List Value) (a:Value) (o n c k:Nat) (e E j w:Int) (m mo:Bool) (x:W4) (v10 v11 v12:Value) (q q' g:Nat→Value):Zk (evC (Zx prog Zi Zn hcN) 100 false (Zkq f151) (hgC a e m v10 v11 v12 q q' o n c k j 5++tl 21 g,hgM l E x mo,[cmp true,at_,val (uN w)]) ⟨[],[],[]⟩) 44 21 none (hgC a e m v10 (.int .i64 5) (uN w) q q' o n c k j 6) (hgM l E (Z6q x w) mo) [(false,false),(Z6 (l[o+k*1+5]?) (uN w),true),(decide ((0:Int)≤5∧(5:Int)<((n-k:Nat):Int)),true),(decide ((5:Int)<((n-k:Nat):Int)),true)]:=by and_intros<;>kernel_rfl
theorem Z65 (l:List Value) (a:Value) (o n c k:Nat) (e E j w:Int) (m mo:Bool) (x:W4) (v10 v11 v12:Value) (q q' g:Nat→Value):Zk (evC (Zx prog Zi Zn hcN) 100 false (Zkq f151) (hgC a e m v10 v11 v12 q q' o n c k j 6++tl 21 g,hgM l E x mo,[cmp true,at_,val (uN w)]) ⟨[],[],[]⟩) 44 21 none (hgC a e m v10 (.int .i64 6) (uN w) q q' o n c k j 7) (hgM l E (Z6r x w) mo) [(false,false),(Z6 (l[o+k*1+6]?) (uN w),true),(decide ((0:Int)≤6∧(6:Int)<((n-k:Nat):Int)),true),(decide ((6:Int)<((n-k:Nat):Int)),true)]:=by and_intros<;>kernel_rfl
theorem Z66 (l:List Value) (a:Value) (o n c k:Nat) (e E j w:Int) (m mo:Bool) (x:W4) (v10 v11 v12:Value) (q q' g:Nat→Value):Zk (evC (Zx prog Zi Zn hcN) 100 false (Zkq f151) (hgC a e m v10 v11 v12 q q' o n c k j 7++tl 21 g,hgM l E x mo,[cmp true,at_,val (uN w)]) ⟨[],[],[]⟩) 44 21 none (hgC a e m v10 (.int .i64 7) (uN w) q q' o n c k j 8) (hgM l E (Z6s x w) mo) [(false,false),(Z6 (l[o+k*1+7]?) (uN w),true),(decide ((0:Int)≤7∧(7:Int)<((n-k:Nat):Int)),true),(decide ((7:Int)<((n-k:Nat):Int)),true)]:=by and_intros<;>kernel_rfl
theorem Z7Q (l:List Value) (a:Value) (o n c k:Nat) (e E j i:Int) (m mo:Bool) (x:W4) (v10 v11 v12:Value) (q q' g:Nat→Value):Zk (evC (Zx prog Zi Zn hcN) 100 false (sK f151 5) (hgC a e m v10 v11 v12 q q' o n c k j i++tl 21 g,hgM l E x mo,[]) ⟨[],[],[]⟩) 7 58 (some none) ([a,.int .i64 e,.bool m,undef,undef,undef,pO 1]) (⟨3,[nB9 false E x mo,nB9 false E x mo,(l,tR)]⟩) []:=by and_intros<;>kernel_rfl
theorem vbz {L:List Int}(h:∀ x∈L,Dg 4294967296 x) (k:Nat):vb 4294967296 (L.take k)<4294967296^k:=by
 have h1:=Zd6 (b:=4294967296) (by omega) (L.take k) (fun x hx=>h x (List.mem_of_mem_take hx));have h2:(L.take k).length≤k:=by rw[List.length_take];omega
 exact Nat.lt_of_lt_of_le h1 (Nat.pow_le_pow_right (by omega) h2)
def ZrH (L:List Int) (m:Bool):Bool:=m || decide (vb 4294967296 L≠0)
theorem Zot {L:List Int}{m:Bool}{i:Nat}(hL:∀ x∈L,Dg 4294967296 x) (hi:i<L.length):ZrH (L.take (i+1)) m=(ZrH (L.take i) m || (L.getD i 0 !=0)):=by
 have hd:0≤L.getD i 0:=by
  have:L.getD i 0∈L:=by
   rw[List.getD_eq_getElem?_getD,List.getElem?_eq_getElem hi,Option.getD_some];exact List.getElem_mem hi
  exact (hL _ this).1
 have e:=ZgZ 4294967296 L i;have hp:0<4294967296^i:=Nat.pow_pos (by omega);unfold ZrH;rw[Bool.or_assoc];congr 1;by_cases h0:L.getD i 0=0
 ·rw[h0] at e;rw[e,h0];simp
 ·have h1:vb 4294967296 (L.take (i+1))≠0:=by
   rw[e];have h2:0<4294967296^i*(L.getD i 0).toNat:=Nat.mul_pos hp (by omega);omega
  rw[Xa h1,show (L.getD i 0 !=0)=true by simpa using h0,Bool.or_true]
def Zyx (l:List Value) (a:Value) (o c k:Nat) (e E:Int) (m:Bool) (q:Nat→Value) (L:List Int) (i:Nat) (y:Lf):Prop:=∃ (v10:Value) (g:Nat→Value),i≤k∧y.1=hgB a e m v10 undef undef q o c k i++tl 37 g∧y.2.1=hgM l E ⟨0,0,0,0⟩ (ZrH (L.take i) m)
theorem Zou {l:List Value}{a:Value}{o c k:Nat}{e E:Int}{m:Bool}{q:Nat→Value}{L:List Int}(hR:Row l o L) (hk:k≤L.length) (hk2:k≤100000) (r:Nat) (y:Lf) (h:∃ i,r=k-i∧Zyx l a o c k e E m q L i y):
  Runs (Zx prog Zi Zn hcN) (Zyw f151) y fun e' z=>match e' with | none=>∃ r',r'<r∧∃ i,r'=k-i∧Zyx l a o c k e E m q L i z | some none=>False | some (some id')=>id'=0∧Zyx l a o c k e E m q L k z:=by
 have hT:=Z3 Zh zo;obtain⟨i,hr,v10,g,hi,ht,hh⟩:=h;obtain⟨t,h',sc⟩:=y;simp only at ht hh;subst ht hh;by_cases hc:i<k
 ·have lA:decide (((i:Nat):Int)<(k:Nat))=true:=Xa (by omega);have lI:decide ((0:Int)≤(i:Nat)∧((i:Nat):Int)<(k:Nat))=true:=Xa ⟨by omega,by omega⟩;have ew:i64.wrap (((i:Nat):Int)+1)=((i+1:Nat):Int):=by rw[Zv (by omega) (by omega)];omega
  have lC:Z6 (l[o+((i:Nat):Int).toNat*1]?) (uN (L.getD i 0))=true:=by
   rw[Xg,Nat.mul_one,hR.cell (by omega)];simp [Z6,uN]
  have hn:=Zot (m:=m) hR.rng (show i<L.length by omega);cases hb:ZrH (L.take i) m with
  | true=>
   have hg:=Z6w l a o c k e E (i:Nat) (L.getD i 0) m ⟨0,0,0,0⟩ v10 q g;rw[ew] at hg;rw[hb,Bool.true_or] at hn;refine (Zc (s0:=sc) hT hg (Za lC (Za lI (Zy lA)))).mono fun e' z he=> ?_;obtain⟨rfl,⟨g',z1⟩,z2⟩:=he;exact⟨k-(i+1),by omega,i+1,rfl,_,g',by omega,z1,by rw[z2,hn]⟩
  | false=>
   have hg:=Z6v l a o c k e E (i:Nat) (L.getD i 0) m (L.getD i 0 !=0) ⟨0,0,0,0⟩ v10 q g;rw[ew] at hg;rw[hb,Bool.false_or] at hn;refine (Zc (s0:=sc) hT hg (Za rfl (Za lC (Za lI (Zy lA))))).mono fun e' z he=> ?_;obtain⟨rfl,⟨g',z1⟩,z2⟩:=he;exact⟨k-(i+1),by omega,i+1,rfl,_,g',by omega,z1,by rw[z2,hn]⟩
 ·have:i=k:=by omega
  subst this;refine (Zc (s0:=sc) hT (Z6u l a o c i e E (i:Nat) m _ _ v10 q g) (Zy (Xb (by omega)))).mono fun e' z he=> ?_;obtain⟨rfl,⟨g',z1⟩,z2⟩:=he;exact⟨rfl,v10,g',hi,z1,z2⟩
def ZxP (l:List Value) (a:Value) (o n c k:Nat) (e E j:Int) (m mo:Bool) (q q':Nat→Value) (K:List Int) (i:Nat) (y:Lf):Prop:=∃ (v10 v11 v12:Value) (g:Nat→Value),i≤n-k∧y.1=hgC a e m v10 v11 v12 q q' o n c k j i++tl 21 g∧y.2.1=hgM l E (ofN (vb 4294967296 (K.take i))) mo
theorem Zov {l:List Value}{a:Value}{o n c k:Nat}{e E j:Int}{m mo:Bool}{q q':Nat→Value}{K:List Int}(hR:∀ i,i<n-k→l[o+k*1+i]? =some (uN (K.getD i 0))) (hK:∀ x∈K,Dg 4294967296 x) (hn:n-k≤8) (hl:K.length=n-k) (r:Nat) (y:Lf) (h:∃ i,r=n-k-i∧ZxP l a o n c k e E j m mo q q' K i y):
  Runs (Zx prog Zi Zn hcN) (Zkq f151) y fun e' z=>match e' with | none=>∃ r',r'<r∧∃ i,r'=n-k-i∧ZxP l a o n c k e E j m mo q q' K i z | some none=>False | some (some id')=>id'=2∧ZxP l a o n c k e E j m mo q q' K (n-k) z:=by
 have hT:=Z3 Zh zo;obtain⟨i,hr,v10,v11,v12,g,hi,ht,hh⟩:=h;obtain⟨t,h',sc⟩:=y;simp only at ht hh;subst ht hh;by_cases hc:i<n-k
 ·have hw:Dg 4294967296 (K.getD i 0):=by
   refine hK _ ?_;rw[List.getD_eq_getElem?_getD,List.getElem?_eq_getElem (by omega),Option.getD_some];exact List.getElem_mem (by omega)
  obtain⟨w,ew⟩:∃ w:Nat,K.getD i 0=(w:Int):=⟨(K.getD i 0).toNat,by have:=hw.1;omega⟩;have hw2:w<4294967296:=by have:=hw.2;rw[ew] at this;omega
  have lC:Z6 (l[o+k*1+i]?) (uN (w:Int))=true:=by
   rw[hR i hc,ew];simp [Z6,uN]
  have hV:=vbz hK i;have ev:=ZgZ 4294967296 K i;rw[ew,Xg] at ev;obtain⟨V,hVe⟩:∃ V,V=vb 4294967296 (K.take i):=⟨_,rfl⟩;rw[← hVe] at hV ev;rw[← hVe];have i8:i=0∨i=1∨i=2∨i=3∨i=4∨i=5∨i=6∨i=7:=by omega
  have fin:∀ (s':Lf) (X:W4),X=ofN (vb 4294967296 (K.take (i+1)))→(∃ g',s'.1=hgC a e m v10 (.int .i64 (i:Nat)) (uN (w:Int)) q q' o n c k j ((i+1:Nat):Int)++tl 21 g')→s'.2.1=hgM l E X mo→∃ r',r'<r∧∃ i,r'=n-k-i∧ZxP l a o n c k e E j m mo q q' K i s':=by
   rintro s' X hX ⟨g',e1⟩ e2;exact⟨n-k-(i+1),by omega,i+1,rfl,v10,_,_,g',by omega,e1,by rw[e2,hX]⟩
  rcases i8 with rfl | rfl | rfl | rfl | rfl | rfl | rfl | rfl
  ·have hg:=Z6z l a o n c k e E j (w:Int) m mo (ofN V) v10 v11 v12 q q' g;have lT:decide ((0:Int)<((n-k:Nat):Int))=true:=Xa (by omega);refine (Zc (s0:=sc) hT hg (Za rfl (Za lC (Za (Xa ⟨by omega,by omega⟩) (Zy lT))))).mono fun e' z he=> ?_;obtain⟨rfl,⟨g',z1⟩,z2⟩:=he;refine fin z _ ?_ ⟨g',z1⟩ z2;rw[ZxG (show V<1 from hV) hw2,ev]
  ·have hg:=Z60 l a o n c k e E j (w:Int) m mo (ofN V) v10 v11 v12 q q' g;have lT:decide ((1:Int)<((n-k:Nat):Int))=true:=Xa (by omega);refine (Zc (s0:=sc) hT hg (Za rfl (Za lC (Za (Xa ⟨by omega,by omega⟩) (Zy lT))))).mono fun e' z he=> ?_;obtain⟨rfl,⟨g',z1⟩,z2⟩:=he;refine fin z _ ?_ ⟨g',z1⟩ z2;rw[ZxH (show V<4294967296 from hV) hw2,ev]
  ·have hg:=Z61 l a o n c k e E j (w:Int) m mo (ofN V) v10 v11 v12 q q' g;have lT:decide ((2:Int)<((n-k:Nat):Int))=true:=Xa (by omega);refine (Zc (s0:=sc) hT hg (Za rfl (Za lC (Za (Xa ⟨by omega,by omega⟩) (Zy lT))))).mono fun e' z he=> ?_;obtain⟨rfl,⟨g',z1⟩,z2⟩:=he;refine fin z _ ?_ ⟨g',z1⟩ z2;rw[ZxI (show V<18446744073709551616 from hV) hw2,ev]
  ·have hg:=Z62 l a o n c k e E j (w:Int) m mo (ofN V) v10 v11 v12 q q' g;have lT:decide ((3:Int)<((n-k:Nat):Int))=true:=Xa (by omega);refine (Zc (s0:=sc) hT hg (Za rfl (Za lC (Za (Xa ⟨by omega,by omega⟩) (Zy lT))))).mono fun e' z he=> ?_;obtain⟨rfl,⟨g',z1⟩,z2⟩:=he;refine fin z _ ?_ ⟨g',z1⟩ z2;rw[ZxJ (show V<79228162514264337593543950336 from hV) hw2,ev]
  ·have hg:=Z63 l a o n c k e E j (w:Int) m mo (ofN V) v10 v11 v12 q q' g;have lT:decide ((4:Int)<((n-k:Nat):Int))=true:=Xa (by omega);refine (Zc (s0:=sc) hT hg (Za rfl (Za lC (Za (Xa ⟨by omega,by omega⟩) (Zy lT))))).mono fun e' z he=> ?_;obtain⟨rfl,⟨g',z1⟩,z2⟩:=he;refine fin z _ ?_ ⟨g',z1⟩ z2;rw[ZxK (show V<340282366920938463463374607431768211456 from hV) hw2,ev]
  ·have hg:=Z64 l a o n c k e E j (w:Int) m mo (ofN V) v10 v11 v12 q q' g;have lT:decide ((5:Int)<((n-k:Nat):Int))=true:=Xa (by omega);refine (Zc (s0:=sc) hT hg (Za rfl (Za lC (Za (Xa ⟨by omega,by omega⟩) (Zy lT))))).mono fun e' z he=> ?_;obtain⟨rfl,⟨g',z1⟩,z2⟩:=he;refine fin z _ ?_ ⟨g',z1⟩ z2;rw[ZxL (show V<1461501637330902918203684832716283019655932542976 from hV) hw2,ev]
  ·have hg:=Z65 l a o n c k e E j (w:Int) m mo (ofN V) v10 v11 v12 q q' g;have lT:decide ((6:Int)<((n-k:Nat):Int))=true:=Xa (by omega);refine (Zc (s0:=sc) hT hg (Za rfl (Za lC (Za (Xa ⟨by omega,by omega⟩) (Zy lT))))).mono fun e' z he=> ?_;obtain⟨rfl,⟨g',z1⟩,z2⟩:=he;refine fin z _ ?_ ⟨g',z1⟩ z2;rw[ZxM (show V<6277101735386680763835789423207666416102355444464034512896 from hV) hw2,ev]
  ·have hg:=Z66 l a o n c k e E j (w:Int) m mo (ofN V) v10 v11 v12 q q' g;have lT:decide ((7:Int)<((n-k:Nat):Int))=true:=Xa (by omega);refine (Zc (s0:=sc) hT hg (Za rfl (Za lC (Za (Xa ⟨by omega,by omega⟩) (Zy lT))))).mono fun e' z he=> ?_;obtain⟨rfl,⟨g',z1⟩,z2⟩:=he;refine fin z _ ?_ ⟨g',z1⟩ z2;rw[ZxN (show V<26959946667150639794667015087019630673637144422540572481103610249216 from hV) hw2,ev]
 ·have:i=n-k:=by omega
  subst this;refine (Zc (s0:=sc) hT (Z6y l a o n c k e E j ((n-k:Nat):Int) m mo _ v10 v11 v12 q q' g) (Zy (Xb (by omega)))).mono fun e' z he=> ?_;obtain⟨rfl,⟨g',z1⟩,z2⟩:=he;exact⟨rfl,v10,v11,v12,g',hi,z1,z2⟩
theorem Z23 {n:Nat}(h:n≤100000):Ztx n=((n-8:Nat):Int):=by
 unfold Ztx;rw[Zv (by omega) (by omega)];split<;>omega
theorem ZxQ {l:List Value}{o c:Nat}{e:Int}{m:Bool}{V:Nat}(hR:Row l o (db 4294967296 V)) (hn:(db 4294967296 V).length≤1000) (hc:(db 4294967296 V).length≤c) (hs:Z8 c=true) (he: -1000000≤e∧e≤1000000):
  Runs (Zx prog Zi Zn hcN) (Zaj [sP f151 0,sP f151 1,sP f151 2] (.seq (.seq (ZA (sP f151 3)) (.block 0 (.loop (Zyw f151)))) (.seq (.seq (ZA (sP f151 4)) (.block 2 (.loop (Zkq f151)))) (sK f151 5)))) ([sl 0 o (db 4294967296 V).length c,.int .i64 e,.bool m]++List.replicate 62 undef,⟨1,[(l,tR)]⟩,[]) fun e' z=>(e'=none∨e'=some none)∧zE prog f151 z.1 z.2.1=some (vN false (hiE V e) (ofN (hiS V)) (hiM V m)):=by
 have hT:=Z3 Zh zo;obtain⟨L,hL⟩:∃ L,L=db 4294967296 V:=⟨_,rfl⟩;have hdg:∀ x∈L,Dg 4294967296 x:=by rw[hL];exact ZeM (by omega) V
 have eV:vb 4294967296 L=V:=by rw[hL];exact Zbi (by omega) V
 rw[← hL] at hR hn hc ⊢;obtain⟨n,hnl⟩:∃ n,n=L.length:=⟨_,rfl⟩;rw[← hnl] at hn hc ⊢;obtain⟨k,hk⟩:∃ k,k=n-8:=⟨_,rfl⟩;have elow:Ztx n=(k:Nat):=by rw[Z23 (by omega),hk]
 have eE:hgE n e=hiE V e:=by
  unfold hgE hiE loW;rw[elow,Zv (n:=32*((k:Nat):Int)) (by omega) (by omega),Zv (by omega) (by omega),← hL,← hnl,← hk]
 have dead_c:(c:Int)<4611686018427387904:=by
  have:=Zl.1 hs;have e:ZX=4611686018427387904:=rfl;omega
 have hp:=Z22 l o n c e m;rw[elow,eE] at hp;refine Zz hT hp Zbu fun g=> ?_;have okc:ZR 0 (k:Nat) (c:Nat) (c:Nat)=true:=Xa ⟨by omega,by omega,by omega,by omega,by omega⟩;refine Runs.seq (P1:=fun e' y=>match e' with | none=>Zyx l (sl 0 o n c) o c k e (hiE V e) m (hgQ o n c e m) L k y | some none=>False | some (some _)=>False) ?_ ?_ ?_
 ·refine Runs.seq (Zc hT (Z6t l o n c k e (hiE V e) m ⟨0,0,0,0⟩ (hgQ o n c e m) g) (Za hs (Za okc (Zy (Xb (fun h=>h.2 rfl)))))) ?_ (fun e' y hy=>by cases hy.1);rintro⟨t,h',s⟩ ⟨_,⟨g',ht⟩,hh⟩;simp only at ht hh;subst ht hh;exact Runs.forLoop (R:=fun _=>False) (P:=Zyx l (sl 0 o n c) o c k e (hiE V e) m (hgQ o n c e m) L k) (fun r y=>∃ i,r=k-i∧Zyx l (sl 0 o n c) o c k e (hiE V e) m (hgQ o n c e m) L i y) (Zou hR (by omega) (by omega)) (n:=k-0) ⟨0,rfl,undef,g',Nat.zero_le _,rfl,by rw[show ZrH (L.take 0) m=m by unfold ZrH;cases m<;>rfl]⟩
 ·rintro⟨t,h',s⟩ ⟨v10,g1,_,ht,hh⟩;simp only at ht hh;subst ht hh;obtain⟨mo,hmo⟩:∃ mo,mo=ZrH (L.take k) m:=⟨_,rfl⟩;rw[← hmo];have okn:ZR (k:Nat) (n:Nat) (c:Nat) (c:Nat)=true:=Xa ⟨by omega,by omega,by omega,by omega,by omega⟩;have hKl:(L.drop k).length=n-k:=by rw[List.length_drop,← hnl]
  refine Runs.seq (P1:=fun e' y=>match e' with | none=>ZxP l (sl 0 o n c) o n c k e (hiE V e) (k:Nat) m mo (hgQ o n c e m) g1 (L.drop k) (n-k) y | some none=>False | some (some _)=>False) ?_ ?_ ?_
  ·refine Runs.seq (Zc (s0:=s) hT (Z6x l o n c k e (hiE V e) (k:Nat) m mo ⟨0,0,0,0⟩ v10 (hgQ o n c e m) g1) (Za hs (Za okn (Zy (Xb (fun h=>by omega)))))) ?_ (fun e' y hy=>by cases hy.1);rintro⟨t,h',s⟩ ⟨_,⟨g',ht⟩,hh⟩;simp only at ht hh;subst ht hh;refine Runs.forLoop (R:=fun _=>False) (P:=ZxP l (sl 0 o n c) o n c k e (hiE V e) (k:Nat) m mo (hgQ o n c e m) g1 (L.drop k) (n-k)) (fun r y=>∃ i,r=n-k-i∧ZxP l (sl 0 o n c) o n c k e (hiE V e) (k:Nat) m mo (hgQ o n c e m) g1 (L.drop k) i y) (Zov (fun i hi=> ?_) (fun x hx=>hdg x (List.mem_of_mem_drop hx)) (by omega) hKl) (n:=n-k-0) ⟨0,rfl,v10,undef,undef,g',Nat.zero_le _,rfl,by rw[show ofN (vb 4294967296 ((L.drop k).take 0))=⟨0,0,0,0⟩ from Zcl]⟩;rw[Nat.mul_one,Nat.add_assoc,hR.cell (by omega)];simp [uN,List.getD,List.getElem?_drop]
  ·rintro⟨t,h',s⟩ ⟨v10,v11,v12,g',_,ht,hh⟩;simp only at ht hh;subst ht hh;rw[show (L.drop k).take (n-k)=L.drop k by rw[← hKl,List.take_length]];refine (Zc (s0:=s) hT (Z7Q l (sl 0 o n c) o n c k e (hiE V e) (k:Nat) _ m mo _ v10 v11 v12 (hgQ o n c e m) g1 g') Zbu).mono fun e' z he=> ?_;obtain⟨rfl,⟨g2,z1⟩,z2⟩:=he;refine⟨.inr rfl,?_⟩;have hsp:vb 4294967296 (L.take k)+4294967296^k*vb 4294967296 (L.drop k)=V:=by
    have:=Zce 4294967296 (L.take k) (L.drop k);rw[List.take_append_drop,eV,List.length_take,Nat.min_eq_left (by omega)] at this;exact this.symm
   have hlt:=vbz hdg k;have hp:0<4294967296^k:=Nat.pow_pos (by omega);have elo:loW V=k:=by unfold loW;rw[← hL,← hnl,hk]
   have e1:vb 4294967296 (L.drop k)=hiS V:=by
    unfold hiS;rw[elo,← zw,← hsp,Nat.add_comm,Nat.mul_add_div hp,Nat.div_eq_of_lt hlt,Nat.add_zero]
   have e2:mo=hiM V m:=by
    rw[hmo];unfold ZrH hiM;rw[elo,← zw,← hsp,Nat.add_comm,Nat.mul_add_mod,Nat.mod_eq_of_lt hlt]
   rw[z1,z2,e1,e2];rfl
  ·rintro e' y he
   match e',he with
   | none,he=>exact he.elim
 ·rintro e' y he
  match e',he with
  | none,he=>exact he.elim
def Z67:Zba:=fun vals h s=>
 match vals,s with
 | [.slice (some ⟨b,o,none⟩) n c,.int .i64 e,.bool m],.inr (.inl V)::s'=>
  match h.blk? b with
  | some x=>some (vN false (hiE V.toNat e) (ofN (hiS V.toNat)) (hiM V.toNat m),h,s',[(Zu x.2 x.1 o n c,true),(decide (Zt x.1 o n=db 4294967296 V.toNat),true),(decide (n≤1000∧ -1000000≤e∧e≤1000000),true)])
  | _=>none
 | _,_=>none
theorem ZxR:ZJ 151 Z67:=by
 intro vals h s v h' s' lg hg hl m B w E hv;unfold Z67 at hg;split at hg
 ·rename_i b o n c e mo V s2;split at hg
  ·rename_i x hx;cases hg;have ra:Zu x.2 x.1 o n c=true:=hl _ Xe;have q1:=Xc (hl _ (Xd _ Xe));have q2:=Xc (hl _ (Xd _ (Xd _ Xf)));obtain⟨h1,h2,h3,h4,h5,h6,h7⟩:=Z4 ra;rw[q1] at h1 h2;have r:=ZxQ (c:=c) (e:=e) (m:=mo) h1 (by omega) (by omega) h4 q2.2;rw[h2] at r;exact zV (T:=Zx prog Zi Zn hcN) func151 ZxO (ZcU h7) (vals:=[sl 0 o n c,.int .i64 e,.bool mo]) (fun v hv=>by
    simp only[List.mem_cons,List.not_mem_nil,or_false] at hv;rcases hv with rfl | rfl | rfl<;>rfl) (by rfl) r.w E (s:=fun _=>b) (ZaQ hx h5 h6 rfl)
  ·cases hg
 ·cases hg
def Z3q:Hc:=zJ 150 Na.gPs (zJ 76 Na.ZlP (zJ 129 Na.Zve (zJ 77 Na.ZlM (zJ 152 Na.Z3b (zJ 127 Na.Zyj (zJ 132 Na.Zew (zJ 151 Z67 hcN)))))))
theorem ZxS:HcOk Z3q:=Zq func150 rfl Na.Z0z (Zq func76 rfl Na.ZeX (Zq func129 rfl Na.ZpO (Zq func77 rfl Na.ZeW (Zq func152 rfl Na.ZlH (Zq func127 rfl Na.ZeU (Zq func132 rfl Na.Zcg (Zq func151 rfl ZxR zo)))))))
theorem Z24:TabOk (Zx prog Zi Zn Z3q):=Z3 Zh ZxS
def r32 (m V:Nat):List Value×TypeId:=(wU (dg m (V:Int)),tU)
def z7:List Value×TypeId:=nB9 false 0 ⟨0,0,0,0⟩ false
def pA9 (k:Nat):Option Addr:=some ⟨k,0,none⟩
def lw9 (A:Nat):Nat:=(db 4294967296 A).length
def tn (m V:Nat):Nat:=Zg (dg m (V:Int))
def Zty (D:List UInt8) (A:Nat) (j:Int) (P:Nat):Hp:=⟨3,[r32 (Na.pMi 10 j) P,r32 (Na.psN ⟨⟨D⟩⟩) A,z7]⟩
def lPs (D:List UInt8) (A:Nat) (l:Log):Log:=(decide (Na.psV ⟨⟨D⟩⟩=A),true)::(Na.okP ⟨⟨D⟩⟩,true)::(Nat.ble D.length 20000,true)::l
def lPw (j:Int) (P:Nat) (l:Log):Log:=(decide (((10^j.toNat:Nat):Int)=(P:Int)),true)::(Na.Zvf 10 j,true)::(decide ((10:Int)=0∧1≤j),false)::l
def lHg (m V:Nat) (e:Int) (l:Log):Log:=(Zu tU (wU (dg m (V:Int))) 0 (tn m V) m,true)::(decide (Zt (wU (dg m (V:Int))) 0 (tn m V)=db 4294967296 V),true)::(decide (tn m V≤1000∧ -1000000≤e∧e≤1000000),true)::l
def Z7R (H:Hp) (p q:Option Addr) (n c n' c' T:Nat) (l:Log):Log:=(decide (Na.ZgK (Zm H p n) (Zm H q n')=dg (n+n') (T:Int)),true)::(Na.zg H p n c,true)::(Na.zg H q n' c',true)::(!decide (n=0∨n'=0) && Nat.ble (n+n') 8192,true)::(Na.zg H p n c,true)::(Na.zg H q n' c',true)::(Na.ZH (Zm H p n) || Na.ZH (Zm H q n'),false)::l
def teV (T:Nat) (e:Int) (m:Bool):Value:=vN false (hiE T e) (ofN (hiS T)) (hiM T m)
theorem Z68 (D:List UInt8) (j:Int) (A P T:Nat):Zs (Zf (Zx prog Zi Zn Z3q) 200 97 [bR D,.int .i64 j] [cmp true,num A,cmp true,cmp false,cmp false,num P,cmp false,cmp false,num T,num T]) (teV T 0 false) (lHg (lw9 A+tn (Na.pMi 10 j) P) T 0 (Z7R (Zty D A j P) (pA9 1) (pA9 2) (lw9 A) (Na.psN ⟨⟨D⟩⟩) (tn (Na.pMi 10 j) P) (Na.pMi 10 j) T (lPw j P ((decide (j≥0),true)::lPs D A [])))):=by and_intros<;>kernel_rfl
def ngJ (j:Int):Int:=i64.wrap (0-j)
def upE (a b:Int):Int:=if 0>i64.wrap (i64.wrap (b+128)-a) then 0 else i64.wrap (i64.wrap (b+128)-a)
def Z69 (D:List UInt8) (A:Nat) (j:Int) (P:Nat) (k:Int) (S:Nat):Hp:=⟨4,[r32 (Na.sM (lw9 A) k) S,r32 (Na.pMi 10 j) P,r32 (Na.psN ⟨⟨D⟩⟩) A,z7]⟩
def lLn (H:Hp) (p:Option Addr) (n c:Nat) (k:Int) (l:Log):Log:=(decide (Na.ZcN (Zm H p n)=k),true)::(Na.zg H p n c,true)::l
def lSh (H:Hp) (p:Option Addr) (n c:Nat) (k:Int) (S:Nat) (l:Log):Log:=(decide (Zgb (Zm H p n) k.toNat=dg (Na.sM n k) (S:Int)),true)::(Na.zg H p n c,true)::(Na.ZH (Zm H p n) || decide (k<0),false)::(decide (n=0),false)::(decide (k>262144-Na.ZcN (Zm H p n)),false)::l
def lDv (H:Hp) (p q:Option Addr) (n c n' c':Nat) (Q R:Nat) (l:Log):Log:=(decide (Go.Nt.vN (Zm H p n)/Go.Nt.vN (Zm H q n')=(Q:Int)∧Go.Nt.vN (Zm H p n) % Go.Nt.vN (Zm H q n')=(R:Int)),true)::(Na.zg H p n c,true)::(Na.zg H q n' c',true)::(!(Na.ZH (Zm H p n) || Na.ZH (Zm H q n')) && decide (0<n'∧¬ ZbG (Zm H p n) (Zm H q n')<0),true)::l
theorem Z6A (D:List UInt8) (j:Int) (A P:Nat) (a b:Int) (S Q R:Nat) (d:Bool):Zs (Zf (Zx prog Zi Zn Z3q) 200 97 [bR D,.int .i64 j] [cmp true,num A,cmp false,cmp false,cmp false,num P,num b,num a,cmp false,cmp false,cmp false,num S,cmp false,cmp false,cmp false,num Q,num R,cmp d,num Q]) (teV Q (i64.wrap (0-upE a b)) d)
  (lHg (tn (Na.sM (lw9 A) (upE a b)) S-tn (Na.pMi 10 (ngJ j)) P+1) Q (i64.wrap (0-upE a b)) ((decide (((tn (tn (Na.sM (lw9 A) (upE a b)) S+1) R:Nat):Int)>0),d)::lDv (Z69 D A (ngJ j) P (upE a b) S) (pA9 3) (pA9 2) (tn (Na.sM (lw9 A) (upE a b)) S) (Na.sM (lw9 A) (upE a b)) (tn (Na.pMi 10 (ngJ j)) P) (Na.pMi 10 (ngJ j)) Q R
   (lSh (Zty D A (ngJ j) P) (pA9 1) (lw9 A) (Na.psN ⟨⟨D⟩⟩) (upE a b) S (lLn (Zty D A (ngJ j) P) (pA9 1) (lw9 A) (Na.psN ⟨⟨D⟩⟩) a (lLn (Zty D A (ngJ j) P) (pA9 2) (tn (Na.pMi 10 (ngJ j)) P) (Na.pMi 10 (ngJ j)) b (lPw (ngJ j) P ((decide (j≥0),false)::lPs D A []))))))):=by and_intros<;>kernel_rfl
theorem Z25 {m V:Nat}(hV:V<4294967296^m) (hm:m≤1000) {e:Int}(he: -1000000≤e∧e≤1000000) {l:Log}(hl:Zo l):Zo (lHg m V e l):=by
 have r:=Na.Zex (H:=⟨1,[r32 m V]⟩) (b:=0) rfl hV hm;have ht:tn m V≤1000:=r.2.2.2.2;refine Za ?_ (Za (Xa r.2.2.1) (Za (Xa ⟨ht,he⟩) hl));have:=za (dg m (V:Int));have hd:=ZB m (V:Int);exact Na.ZT (Zac _ _) (by show 0+tn m V≤_;unfold tn;omega) (by unfold tn;omega) (Na.zf (by omega))
theorem Z26 {m V:Nat}(hV:V<4294967296^m) (hm:m≤1000):tn m V=(Na.d32 V).length:=(Na.Zex (H:=⟨1,[r32 m V]⟩) (b:=0) rfl hV hm).2.2.2.1
theorem Ztz {H:Hp}{b A:Nat}{D:List UInt8}(hA:A<10^D.length) (hD:D.length≤801) (hb:H.blk? b=some (r32 (Na.psN ⟨⟨D⟩⟩) A)):Na.IsR H (pA9 b) (lw9 A) (Na.psN ⟨⟨D⟩⟩) A:=by
 have e:Na.psN ⟨⟨D⟩⟩=D.length/9+1:=rfl;have h:=Na.Zex (H:=H) (b:=b) (V:=A) (m:=Na.psN ⟨⟨D⟩⟩) hb (Nat.lt_trans hA (Na.Zfo D.length)) (by omega);have e2:lw9 A=Zg (dg (Na.psN ⟨⟨D⟩⟩) (A:Int)):=h.2.2.2.1.symm;rw[e2];exact h
theorem Z27 {D:List UInt8}(ha:ZF 10 D=true) (h0:D≠[]) (hl:D.length≤801):Zo (lPs D (nmB 10 D) []):=
 Za (Xa (Na.Z0O ha)) (Za (Na.Zwb ha h0) (Zy (Nat.ble_eq_true_of_le (by omega))))
theorem Zt0 {j:Int}{k:Nat}(hj:j=(k:Nat)) (hk:k≤2000) {l:Log}(hl:Zo l):Zo (lPw j (10^k) l):=by
 refine Za (Xa (by rw[hj,Xg])) (Za ?_ (Za (Xb (fun h=>absurd h.1 (by decide))) hl));exact Xa ⟨by decide,by decide,by omega,.inr ⟨.inl rfl,by omega⟩⟩
theorem ZrI {D:List UInt8}(ha:ZF 10 D=true) (hA:nmB 10 D≠0) (hl:D.length≤801) {j:Int}(hj: -1900≤j∧j≤1900) (w:World):Calls prog 97 #[bR D,.int .i64 j] w fun e w'=>e= .returned (teV (teT (nmB 10 D) j) (teE (nmB 10 D) j) (teM (nmB 10 D) j))∧zi w w':=by
 have h0:D≠[]:=fun h=>hA (by rw[h];rfl);obtain⟨A,eA⟩:∃ A,A=nmB 10 D:=⟨_,rfl⟩;have hlt:A<10^D.length:=by rw[eA];exact ZdG (b:=10) (.inl rfl) D
 have lp:=Z27 ha h0 hl;rw[← eA] at lp hA;rw[← eA];have epN:Na.psN ⟨⟨D⟩⟩=D.length/9+1:=rfl;have lA:(Na.d32 A).length≤90:=by
  have:=ZcL (b:=4294967296) (by omega) _ _ (Nat.lt_trans hlt (Na.Zfo D.length));show (db 4294967296 A).length≤90;omega
 unfold teT teE teM;by_cases h1:0≤j
 ·rw[if_pos h1,if_pos h1,if_pos h1];obtain⟨k,hk⟩:∃ k:Nat,j=(k:Nat):=⟨j.toNat,by omega⟩;obtain⟨rP,lP⟩:=Na.Zhx (H:=Zty D A j (10^k)) (b:=2) hk (by omega) rfl;have rA:Na.IsR (Zty D A j (10^k)) (pA9 1) (lw9 A) (Na.psN ⟨⟨D⟩⟩) A:=Ztz hlt hl rfl;have eP:tn (Na.pMi 10 j) (10^k)=(Na.d32 (10^k)).length:=rP.2.2.2.1;have hP0:=zF k;have pA:=Na.zX hA;have pP:=Na.zX hP0;have hT:A*10^k<4294967296^(lw9 A+tn (Na.pMi 10 j) (10^k)):=Na.Zzt (Na.rLt rA) (Na.rLt rP);have lsum:lw9 A+tn (Na.pMi 10 j) (10^k)≤1000:=by rw[eP];show (Na.d32 A).length+_≤_;omega
  have f:=Z68 D j A (10^k) (A*10^k);have hnz:(!decide (lw9 A=0∨tn (Na.pMi 10 j) (10^k)=0) && Nat.ble (lw9 A+tn (Na.pMi 10 j) (10^k)) 8192)=true:=Na.Zgh pA (by rw[eP];exact pP) (by omega);rw[show j.toNat=k by omega];refine Zb Z24 f (Z25 hT lsum ⟨by decide,by decide⟩ ?_) (by rfl) (by rfl) w;refine Za (Na.Zsw rA rP) (Za (Na.rX rA) (Za (Na.rX rP) (Za hnz (Za (Na.rX rA) (Za (Na.rX rP) (Za (Na.rOr rA rP) ?_))))));exact Zt0 hk (by omega) (Za (Xa h1) lp)
 ·rw[if_neg h1,if_neg h1,if_neg h1];obtain⟨k,hk⟩:∃ k:Nat,-j=(k:Nat):=⟨(-j).toNat,by omega⟩;have eN:ngJ j=(k:Nat):=by unfold ngJ;rw[Zv (by omega) (by omega)];omega
  obtain⟨B,eB⟩:∃ B,B=10^k:=⟨_,rfl⟩;have hP0:B≠0:=by rw[eB];exact zF k
  rw[show (-j).toNat=k by omega,← eB];obtain⟨u,hu⟩:∃ u,u=upT A B:=⟨_,rfl⟩;obtain⟨rP,lP⟩:=Na.Zhx (H:=Zty D A (ngJ j) (10^k)) (b:=2) eN (by omega) rfl;have rA:Na.IsR (Zty D A (ngJ j) B) (pA9 1) (lw9 A) (Na.psN ⟨⟨D⟩⟩) A:=Ztz hlt hl rfl;rw[← eB] at rP lP;have eP:tn (Na.pMi 10 (ngJ j)) B=(Na.d32 B).length:=rP.2.2.2.1;have pA:=Na.zX hA;have pP:=Na.zX hP0;obtain⟨M,hM⟩:∃ M,M=90:=⟨_,rfl⟩;obtain⟨M',hM'⟩:∃ M,M=213:=⟨_,rfl⟩;have bA:bitLen A≤32*M:=Go.Rn.len_le (by rw[← zw];exact Nat.lt_of_lt_of_le (Na.Zal A) (Nat.pow_le_pow_right (by omega) (by omega)));have bB:bitLen B≤32*M':=Go.Rn.len_le (by rw[← zw];exact Nat.lt_of_lt_of_le (Na.Zal B) (Nat.pow_le_pow_right (by omega) (by omega)));have eU:upE ((bitLen A:Nat):Int) ((bitLen B:Nat):Int)=(u:Nat):=by
   unfold upE;rw[Zv (n:=((bitLen B:Nat):Int)+128) (by omega) (by omega),Zv (by omega) (by omega),hu];unfold upT;split<;>omega
  have hu2:u≤7000:=by rw[hu];unfold upT;omega
  have hAw:A<4294967296^lw9 A:=Na.Zal A;have hS:=Na.ZsK (k:=u) hAw;have hSm:Na.sM (lw9 A) (u:Nat)≤1000:=by
   unfold Na.sM;rw[Xg];show u/32+((Na.d32 A).length+1)≤1000;omega
  obtain⟨S,eS⟩:∃ S,S=A*2^u:=⟨_,rfl⟩;rw[← eS] at hS;have hS0:S≠0:=by rw[eS];exact Zah hA (fun h=>by have:=Nat.pow_pos (n:=u) (show 0<2 by omega);omega)
  have eSn:=Z26 hS hSm;have rS:Na.IsR (Z69 D A (ngJ j) B (u:Nat) S) (pA9 3) (tn (Na.sM (lw9 A) (u:Nat)) S) (Na.sM (lw9 A) (u:Nat)) S:=Na.Zex rfl hS hSm;obtain⟨rP3,_⟩:=Na.Zhx (H:=Z69 D A (ngJ j) (10^k) (u:Nat) S) (b:=2) eN (by omega) rfl;rw[← eB] at rP3;have hBS:B≤S:=by
   have:=ZiI hA hP0;rw[← hu,← eS] at this;rcases Nat.lt_or_ge S B with h2 | h2
   ·rw[Nat.div_eq_of_lt h2] at this;exact absurd this (by decide)
   ·exact h2
  have hle:=Na.ZsM hBS;have hQ:S/B<4294967296^(tn (Na.sM (lw9 A) (u:Nat)) S-tn (Na.pMi 10 (ngJ j)) B+1):=by
   rw[eSn,eP];exact Na.ZsL hP0 hle
  have sl:(Na.d32 S).length≤Na.sM (lw9 A) (u:Nat):=by
   rw[← eSn];have:=za (dg (Na.sM (lw9 A) (u:Nat)) (S:Int));rw[ZB] at this;exact this
  have hR:S % B<4294967296^(tn (Na.sM (lw9 A) (u:Nat)) S+1):=by
   have h2:S % B<S+1:=Nat.lt_succ_of_le (Nat.mod_le _ _);refine Nat.lt_of_lt_of_le h2 ?_;rw[eSn,Nat.pow_succ];have:=Na.Zal S;omega
  have sl2:Na.sM (lw9 A) (u:Nat)≤400:=by
   unfold Na.sM;rw[Xg];show u/32+((Na.d32 A).length+1)≤400;omega
  have eRn:=Z26 hR (by rw[eSn];omega);have eW:i64.wrap (0-((u:Nat):Int))= -((u:Nat):Int):=by rw[Zv (by omega) (by omega)];omega
  have hd:decide (((tn (tn (Na.sM (lw9 A) (u:Nat)) S+1) (S % B):Nat):Int)>0)=decide (S % B≠0):=by
   rw[eRn];by_cases hz:S % B=0
   ·have h2:(Na.d32 (S % B)).length=0:=by rw[hz];show (db 4294967296 0).length=0;rw[zp];rfl
    rw[h2,Xb (show ¬ (S % B≠0) from fun h=>h hz)];rfl
   ·have:=Na.zX hz;rw[Xa hz];exact Xa (by omega)
  have f:=Z6A D j A B ((bitLen A:Nat):Int) ((bitLen B:Nat):Int) S (S/B) (S % B) (decide (S % B≠0));rw[eU,eW] at f;rw[← hu,← eS];refine Zb Z24 f (Z25 hQ (by rw[eSn];omega) ⟨by omega,by omega⟩ (Za hd ?_)) (by rfl) (by rfl) w;refine Za (Na.Z6P rS rP3) (Za (Na.rX rS) (Za (Na.rX rP3) (Za (Na.rG rS rP3 (by show 0<tn (Na.pMi 10 (ngJ j)) B;rw[eP];exact pP) hBS) ?_)));have hsh:=Na.Z6R rA u;rw[← eS] at hsh;refine Za hsh (Za (Na.rX rA) (Za (Na.Z0N rA u) (Za (Na.rNe rA hA) (Za (Na.Z6S rA hA (by omega)) ?_))));refine Za (Na.Z6Q rA hA) (Za (Na.rX rA) (Za (Na.Z6Q rP hP0) (Za (Na.rX rP) ?_)));rw[eB];exact Zt0 eN (by omega) (Za (Xb h1) lp)
def Z6B:Ans:=fun vals s=>
 match vals with
 | [.string a,.int .i64 j]=>some (teV (teT (nmB 10 a.data.toList) j) (teE (nmB 10 a.data.toList) j) (teM (nmB 10 a.data.toList) j),s,[(ZF 10 a.data.toList,true),(decide (nmB 10 a.data.toList≠0),true),(decide (a.data.toList.length≤801∧ -1900≤j∧j≤1900),true)])
 | _=>none
theorem ZxT:ZC 97 Z6B:=by
 intro vals s v s' lg h hl w;unfold Z6B at h;split at h
 ·rename_i a j;cases h;have h1:ZF 10 a.data.toList=true:=hl _ Xe;have h2:=Xc (hl _ (Xd _ Xe));have h3:=Xc (hl _ (Xd _ (Xd _ Xf)));exact ZrI h1 h2 h3.1 h3.2 w
 ·cases h
def ZrJ:Con:=alt 95 Z6j (alt 96 Z6k (alt 97 Z6B Zn))
theorem ZrK:ConOk ZrJ:=Zr func95 rfl ZxD (Zr func96 rfl ZxF (Zr func97 rfl ZxT Zh))
def nuW (b:Int) (D:List UInt8) (k P:Int):Value:= .agg #[.int .i64 b,bR D,.int .i64 k,.int .i64 P]
theorem Z7S (D:List UInt8) (b k P:Int):Zs (Zf (Ze prog Zi ZrJ true) 100 53 [nuW b D k P] [sam true]) (vN false 0 ⟨0,0,0,0⟩ false) [Zaa D [] true]:=by and_intros<;>kernel_rfl
theorem Z7T (D:List UInt8) (b k P:Int):Zs (Zf (Ze prog Zi ZrJ true) 100 53 [nuW b D k P] [sam false,cmp true]) (vN false (i64.wrap (P+i64.wrap (4*i64.wrap (k-((shR 60 D).length:Nat))))) (ofN (nmB 16 (shR 60 D))) false) [(ZF 16 (shR 60 D),true),(decide ((shR 60 D).length≤62),true),(decide ((0:Int)≤60∧(60:Int)≤1000∧D.length≤100000),true),(b==16,true),Zaa D [] false]:=by and_intros<;>kernel_rfl
def clE (k P:Int):Int:=if 400<(if -400>i64.wrap (k+P) then -400 else i64.wrap (k+P)) then 400 else (if -400>i64.wrap (k+P) then -400 else i64.wrap (k+P))
def jN (D:List UInt8) (k P:Int):Int:=i64.wrap (clE k P-((shR 800 D).length:Nat))
theorem Z7U (D:List UInt8) (b k P:Int):Zs (Zf (Ze prog Zi ZrJ true) 100 53 [nuW b D k P] [sam false,cmp false]) (teV (teT (nmB 10 (shR 800 D)) (jN D k P)) (teE (nmB 10 (shR 800 D)) (jN D k P)) (teM (nmB 10 (shR 800 D)) (jN D k P))) [(ZF 10 (shR 800 D),true),(decide (nmB 10 (shR 800 D)≠0),true),(decide ((shR 800 D).length≤801∧ -1900≤jN D k P∧jN D k P≤1900),true),(decide ((0:Int)≤800∧(800:Int)≤1000∧D.length≤100000),true),(b==16,false),Zaa D [] false]:=by and_intros<;>kernel_rfl
theorem Z28 {k P:Int}(h: -1000000000≤k+P∧k+P≤1000000000):clE k P=clF (k+P):=by
 unfold clE clF;rw[Zv (by omega) (by omega)];split<;>split at* <;>omega
theorem Zt1 {b:Int}{D:List UInt8}(h:ZF b D=true) (k:Nat):ZF b (shR k D)=true:=by
 unfold shR;split
 ·exact h
 ·refine Zqw ?_ ?_
  ·unfold ZF at*;rw[List.all_eq_true] at*;exact fun x hx=>h x (List.mem_of_mem_take hx)
  ·unfold ZF zy;rfl
def Zyy (b:Int) (D:List UInt8) (k P:Int):Bool:=ZF b D && decide ((b=10∨b=16)∧(b=10→nmB 10 (shR 800 D)≠0)∧D.length≤100000∧ -100000≤k∧k≤100000∧ -10000000≤P∧P≤10000000)
def nu4:Value→Option (Int×ByteArray×Int×Int)
 | .agg cs=>
  match cs.toList with
  | [.int .i64 b,.string D,.int .i64 k,.int .i64 P]=>some (b,D,k,P)
  | _=>none
 | _=>none
theorem Zjp {v:Value}{b:Int}{D:ByteArray}{k P:Int}(h:nu4 v=some (b,D,k,P)):v=nuW b D.data.toList k P:=by
 unfold nu4 at h;split at h
 ·rename_i cs;split at h
  ·rename_i hc;cases h;obtain⟨l⟩:=cs;simp only at hc;subst hc;rfl
  ·cases h
 ·cases h
def Z6C:Ans:=fun vals s=>
 match vals,s with
 | [v],.inr (.inr (.inr (.inl true)))::s'=>
  match nu4 v with
  | some (_,D,_,_)=>some (vN false 0 ⟨0,0,0,0⟩ false,s',[(decide (D.data.toList=[]),true)])
  | none=>none
 | [v],.inr (.inr (.inr (.inl false)))::s'=>
  match nu4 v with
  | some (b,D,k,P)=>some (vN false (noE b D.data.toList k P) (ofN (noS b D.data.toList k P)) (noM b D.data.toList k P),s',[(decide (D.data.toList=[]),false),(Zyy b D.data.toList k P,true)])
  | none=>none
 | _,_=>none
theorem ZxU:ZC 53 Z6C:=by
 intro vals s v s' lg h hl w;have hT:=Zd ZrK;unfold Z6C at h;split at h
 ·rename_i v0 s2;split at h
  rotate_left
  ·cases h
  rename_i b D k P hv;rw[Zjp hv];cases h;have h1:decide (D.data.toList=[])=true:=hl _ Xf;exact Zb hT (Z7S D.data.toList b k P) (Zy (Z9 h1)) (by rfl) (by rfl) w
 ·rename_i v0 s2;split at h
  rotate_left
  ·cases h
  rename_i b D k P hv;rw[Zjp hv];cases h;have h1:decide (D.data.toList=[])=false:=hl _ Xe;have h2:Zyy b D.data.toList k P=true:=hl _ (Xd _ Xf);unfold Zyy at h2;rw[Xh,Xi] at h2;obtain⟨ha,hb,hz,hl,hk1,hk2,hP1,hP2⟩:=h2;by_cases h16:b=16
  ·have sl:=ZmQ 60 D.data.toList;have f:=Z7T D.data.toList b k P;have e:i64.wrap (P+i64.wrap (4*i64.wrap (k-((shR 60 D.data.toList).length:Nat))))=P+4*(k-((shR 60 D.data.toList).length:Nat)):=by
    rw[Zv (n:=k-((shR 60 D.data.toList).length:Nat)) (by omega) (by omega),Zv (n:=4*(k-((shR 60 D.data.toList).length:Nat))) (by omega) (by omega),Zv (by omega) (by omega)]
   rw[e] at f;unfold noE noS noM;rw[if_pos h16,if_pos h16,if_pos h16];rw[h16] at ha;exact Zb hT f (Za (Zt1 ha 60) (Za (Xa (by omega)) (Za (Xa ⟨by decide,by decide,hl⟩) (Za (by simpa using h16) (Zy (Z9 h1)))))) (by rfl) (by rfl) w
  ·have h10:b=10:=by omega
   have sl:=ZmQ 800 D.data.toList;have f:=Z7U D.data.toList b k P;have ec:=Z28 (k:=k) (P:=P) (by omega);have bc: -400≤clF (k+P)∧clF (k+P)≤400:=by unfold clF;omega
   have e:jN D.data.toList k P=clF (k+P)-((shR 800 D.data.toList).length:Nat):=by
    unfold jN;rw[ec,Zv (by omega) (by omega)]
   rw[e] at f;unfold noE noS noM;rw[if_neg h16,if_neg h16,if_neg h16];rw[h10] at ha;exact Zb hT f (Za (Zt1 ha 800) (Za (Xa (hz h10)) (Za (Xa ⟨by omega,by omega,by omega⟩) (Za (Xa ⟨by decide,by decide,hl⟩) (Za (by simpa using h16) (Zy (Z9 h1))))))) (by rfl) (by rfl) w
 ·cases h
end Go.Proofs.YtgefjidphfdhdaaGreatDoor
namespace Go.Proofs.YtgefjidphfdhdaaGreatDoor
open Go.Proofs.Tryz
open Go.KRun Go.Nt Go.Rd Go.Wd Go.Rn
set_option maxRecDepth 100000
def ZaZ:Con:=alt 50 Z3g (alt 90 Zq9 (alt 93 Z6i (alt 94 Z4L (alt 53 Z6C (alt 54 gRd Zn)))))
theorem ZfB:ConOk ZaZ:=Zr func50 rfl ZmS (Zr func90 rfl ZiM (Zr func93 rfl ZxC (Zr func94 rfl Zwo (Zr func53 rfl ZxU (Zr func54 rfl Z2i Zh)))))
def paW (p f:Int) (e:Value):Value:= .tuple #[.int .u64 p,.int .u8 f,e]
def erZ (k:Int):Value:= .iface 69 (.int .i64 k)
def Zyz:List UInt8:=[105,110,102]
def Z3r:List UInt8:=[110,97,110]
def lB0 (l:List UInt8) (mn:Bool):Log:=[Zaa (sgT l).2 Z3r false,Zaa (sgT l).2 Zyz false,((sgT l).1,mn),(decide (((l.length:Nat):Int)>65536),false)]
def lTd (b:Int) (v:List UInt8) (d:Bool) (l:Log):Log:=(decide ((sc1 b false v).1≠[]),d)::(decide ((b=10∨b=16)∧v.length≤100000),true)::l
def lWn (r:List UInt8) (d:Bool) (l:Log):Log:=(wnK r,d)::(decide (r.length≤100000),true)::l
def ZhJ (b:Int) (v:List UInt8):List UInt8:=nuD (sc1 b false v).1
def nuK (b:Int) (v:List UInt8):Int:=((trZ (sc1 b false v).1).length:Nat)-((sc1 b false v).2.1:Nat)
def rst (b:Int) (v:List UInt8):List UInt8:=(sc1 b false v).2.2
def lNo (b:Int) (v:List UInt8) (P:Int) (l:Log):Log:=(decide (ofN (noS b (ZhJ b v) (nuK b v) P)).ok,true)::(decide (ZhJ b v=[]),false)::(Zyy b (ZhJ b v) (nuK b v) P,true)::l
def lNz (b:Int) (v:List UInt8) (l:Log):Log:=(decide (⟨0,0,0,0⟩:W4).ok,true)::(decide (ZhJ b v=[]),true)::l
def pzV (m:Int) (mn:Bool):Value:=paW (sS mn (rnP m mn (tw ⟨0,0,0,0⟩ false) (clp 0-1))) (rnF m mn (tw ⟨0,0,0,0⟩ false) (clp 0-1)) .nilIface
def pnV (m:Int) (mn:Bool) (b:Int) (D:List UInt8) (k P:Int):Value:=paW (sS mn (rnP m mn (tw (ofN (noS b D k P)) (noM b D k P)) (clp (noE b D k P)-1))) (rnF m mn (tw (ofN (noS b D k P)) (noM b D k P)) (clp (noE b D k P)-1)) .nilIface
theorem ZrL (l:List UInt8) (m:Int):Zs (Zf (Ze prog Zi ZaZ true) 300 17 [bR l,.int .i64 m] [cmp true]) (paW 0 0 (erZ 2)) ([(decide (((l.length:Nat):Int)>65536),true)]):=by and_intros<;>kernel_rfl
theorem ZrM (l:List UInt8) (m:Int):Zs (Zf (Ze prog Zi ZaZ true) 300 17 [bR l,.int .i64 m] [cmp false,cmp true,sam true]) (paW 18442240474082181120 0 .nilIface) ([Zaa (sgT l).2 Zyz true,((sgT l).1,true),(decide (((l.length:Nat):Int)>65536),false)]):=by and_intros<;>kernel_rfl
theorem ZrN (l:List UInt8) (m:Int):Zs (Zf (Ze prog Zi ZaZ true) 300 17 [bR l,.int .i64 m] [cmp false,cmp false,sam true]) (paW 9218868437227405312 0 .nilIface) ([Zaa (sgT l).2 Zyz true,((sgT l).1,false),(decide (((l.length:Nat):Int)>65536),false)]):=by and_intros<;>kernel_rfl
theorem ZxV (l:List UInt8) (m:Int) (mn:Bool):Zs (Zf (Ze prog Zi ZaZ true) 300 17 [bR l,.int .i64 m] [cmp false,cmp mn,sam false,sam true]) (paW 9221120237041090560 0 .nilIface) ([Zaa (sgT l).2 Z3r true,Zaa (sgT l).2 Zyz false,((sgT l).1,mn),(decide (((l.length:Nat):Int)>65536),false)]):=by and_intros<;>kernel_rfl
theorem Z29 (l:List UInt8) (m:Int) (mn:Bool):Zs (Zf (Ze prog Zi ZaZ true) 300 17 [bR l,.int .i64 m] [cmp false,cmp mn,sam false,sam false,cmp false,cmp false]) (paW 0 0 (erZ 3)) (lTd 10 (sgT l).2 false ((zW [48,120] (sgT l).2,false)::lB0 l mn)):=by and_intros<;>kernel_rfl
theorem Z2A (l:List UInt8) (m:Int) (mn:Bool):Zs (Zf (Ze prog Zi ZaZ true) 300 17 [bR l,.int .i64 m] [cmp false,cmp mn,sam false,sam false,cmp false,cmp true,sam false,cmp false]) (paW 0 0 (erZ 3)) ((zW [101] (rst 10 (sgT l).2),false)::Zaa (rst 10 (sgT l).2) [] false::lTd 10 (sgT l).2 true ((zW [48,120] (sgT l).2,false)::lB0 l mn)):=by and_intros<;>kernel_rfl
theorem Z2B (l:List UInt8) (m:Int) (mn:Bool):Zs (Zf (Ze prog Zi ZaZ true) 300 17 [bR l,.int .i64 m] [cmp false,cmp mn,sam false,sam false,cmp false,cmp true,sam false,cmp true,cmp false]) (paW 0 0 (erZ 3)) (lWn ((rst 10 (sgT l).2).drop 1) false ((zW [101] (rst 10 (sgT l).2),true)::Zaa (rst 10 (sgT l).2) [] false::lTd 10 (sgT l).2 true ((zW [48,120] (sgT l).2,false)::lB0 l mn))):=by and_intros<;>kernel_rfl
theorem ZxW (l:List UInt8) (m:Int) (mn:Bool):Zs (Zf (Ze prog Zi ZaZ true) 300 17 [bR l,.int .i64 m] [cmp false,cmp mn,sam false,sam false,cmp false,cmp true,sam true,cmp true]) (pzV m mn) (lNz 10 (sgT l).2 (Zaa (rst 10 (sgT l).2) [] true::lTd 10 (sgT l).2 true ((zW [48,120] (sgT l).2,false)::lB0 l mn))):=by and_intros<;>kernel_rfl
theorem Z2C (l:List UInt8) (m:Int) (mn:Bool):Zs (Zf (Ze prog Zi ZaZ true) 300 17 [bR l,.int .i64 m] [cmp false,cmp mn,sam false,sam false,cmp false,cmp true,sam true,cmp false]) (pnV m mn 10 (ZhJ 10 (sgT l).2) (nuK 10 (sgT l).2) 0) (lNo 10 (sgT l).2 0 (Zaa (rst 10 (sgT l).2) [] true::lTd 10 (sgT l).2 true ((zW [48,120] (sgT l).2,false)::lB0 l mn))):=by and_intros<;>kernel_rfl
theorem ZxX (l:List UInt8) (m:Int) (mn:Bool):Zs (Zf (Ze prog Zi ZaZ true) 300 17 [bR l,.int .i64 m] [cmp false,cmp mn,sam false,sam false,cmp false,cmp true,sam false,cmp true,cmp true,cmp true]) (pzV m mn) (lNz 10 (sgT l).2 (lWn ((rst 10 (sgT l).2).drop 1) true ((zW [101] (rst 10 (sgT l).2),true)::Zaa (rst 10 (sgT l).2) [] false::lTd 10 (sgT l).2 true ((zW [48,120] (sgT l).2,false)::lB0 l mn)))):=by and_intros<;>kernel_rfl
theorem Z2D (l:List UInt8) (m:Int) (mn:Bool):Zs (Zf (Ze prog Zi ZaZ true) 300 17 [bR l,.int .i64 m] [cmp false,cmp mn,sam false,sam false,cmp false,cmp true,sam false,cmp true,cmp true,cmp false]) (pnV m mn 10 (ZhJ 10 (sgT l).2) (nuK 10 (sgT l).2) (wnP ((rst 10 (sgT l).2).drop 1))) (lNo 10 (sgT l).2 (wnP ((rst 10 (sgT l).2).drop 1)) (lWn ((rst 10 (sgT l).2).drop 1) true ((zW [101] (rst 10 (sgT l).2),true)::Zaa (rst 10 (sgT l).2) [] false::lTd 10 (sgT l).2 true ((zW [48,120] (sgT l).2,false)::lB0 l mn)))):=by and_intros<;>kernel_rfl
theorem Z2E (l:List UInt8) (m:Int) (mn:Bool):Zs (Zf (Ze prog Zi ZaZ true) 300 17 [bR l,.int .i64 m] [cmp false,cmp mn,sam false,sam false,cmp true,cmp false]) (paW 0 0 (erZ 3)) (lTd 16 ((sgT l).2.drop 2) false ((zW [48,120] (sgT l).2,true)::lB0 l mn)):=by and_intros<;>kernel_rfl
theorem Z2F (l:List UInt8) (m:Int) (mn:Bool):Zs (Zf (Ze prog Zi ZaZ true) 300 17 [bR l,.int .i64 m] [cmp false,cmp mn,sam false,sam false,cmp true,cmp true,sam true]) (paW 0 0 (erZ 3)) (Zaa (rst 16 ((sgT l).2.drop 2)) [] true::lTd 16 ((sgT l).2.drop 2) true ((zW [48,120] (sgT l).2,true)::lB0 l mn)):=by and_intros<;>kernel_rfl
theorem Z2G (l:List UInt8) (m:Int) (mn:Bool):Zs (Zf (Ze prog Zi ZaZ true) 300 17 [bR l,.int .i64 m] [cmp false,cmp mn,sam false,sam false,cmp true,cmp true,sam false,cmp false]) (paW 0 0 (erZ 3)) ((zW [112] (rst 16 ((sgT l).2.drop 2)),false)::Zaa (rst 16 ((sgT l).2.drop 2)) [] false::lTd 16 ((sgT l).2.drop 2) true ((zW [48,120] (sgT l).2,true)::lB0 l mn)):=by and_intros<;>kernel_rfl
theorem Z2H (l:List UInt8) (m:Int) (mn:Bool):Zs (Zf (Ze prog Zi ZaZ true) 300 17 [bR l,.int .i64 m] [cmp false,cmp mn,sam false,sam false,cmp true,cmp true,sam false,cmp true,cmp false]) (paW 0 0 (erZ 3)) (lWn ((rst 16 ((sgT l).2.drop 2)).drop 1) false ((zW [112] (rst 16 ((sgT l).2.drop 2)),true)::Zaa (rst 16 ((sgT l).2.drop 2)) [] false::lTd 16 ((sgT l).2.drop 2) true ((zW [48,120] (sgT l).2,true)::lB0 l mn))):=by and_intros<;>kernel_rfl
theorem ZxY (l:List UInt8) (m:Int) (mn:Bool):Zs (Zf (Ze prog Zi ZaZ true) 300 17 [bR l,.int .i64 m] [cmp false,cmp mn,sam false,sam false,cmp true,cmp true,sam false,cmp true,cmp true,cmp true]) (pzV m mn) (lNz 16 ((sgT l).2.drop 2) (lWn ((rst 16 ((sgT l).2.drop 2)).drop 1) true ((zW [112] (rst 16 ((sgT l).2.drop 2)),true)::Zaa (rst 16 ((sgT l).2.drop 2)) [] false::lTd 16 ((sgT l).2.drop 2) true ((zW [48,120] (sgT l).2,true)::lB0 l mn)))):=by and_intros<;>kernel_rfl
theorem Z2I (l:List UInt8) (m:Int) (mn:Bool):Zs (Zf (Ze prog Zi ZaZ true) 300 17 [bR l,.int .i64 m] [cmp false,cmp mn,sam false,sam false,cmp true,cmp true,sam false,cmp true,cmp true,cmp false]) (pnV m mn 16 (ZhJ 16 ((sgT l).2.drop 2)) (nuK 16 ((sgT l).2.drop 2)) (wnP ((rst 16 ((sgT l).2.drop 2)).drop 1))) (lNo 16 ((sgT l).2.drop 2) (wnP ((rst 16 ((sgT l).2.drop 2)).drop 1)) (lWn ((rst 16 ((sgT l).2.drop 2)).drop 1) true ((zW [112] (rst 16 ((sgT l).2.drop 2)),true)::Zaa (rst 16 ((sgT l).2.drop 2)) [] false::lTd 16 ((sgT l).2.drop 2) true ((zW [48,120] (sgT l).2,true)::lB0 l mn)))):=by and_intros<;>kernel_rfl
def ZrO (l:List UInt8):Bool:=decide (l.length≤10000∨65536<l.length)
theorem Z6D (m:Int) (n:Bool) {S:Nat}(hS:S<2^256) (b:Bool) (E:Int):rnP m n (tw (ofN S) b) (clp E-1)=rnP m n (2*S+bt b) (E-1)∧rnF m n (tw (ofN S) b) (clp E-1)=rnF m n (2*S+bt b) (E-1):=by
 obtain⟨p,f⟩:=Ze4 (m:=m) (neg:=n) (zv S) b (C:=clp E) (D:=E) (by unfold clp;split<;>split<;>omega);obtain⟨p',f'⟩:=Ze4 (m:=m) (neg:=n) (zv S) b (C:=E) (D:=E) (.inl rfl);have e:tw (ofN S) b=2*S+bt b:=by unfold tw;rw[ZaI hS];rfl
 rw[e] at p f p' f';rw[e];exact⟨p.trans p'.symm,f.trans f'.symm⟩
theorem Zow {b:Int}{l:List UInt8}(ha:ZF b l=true):nuD l=[]↔trZ l=[]:=by
 unfold nuD;constructor
 ·intro h;cases hT:trZ l with
  | nil=>rfl
  | cons c r=>
   obtain⟨r',hr'⟩:=Zcp (b:=b) (r:=r) (ZaJ ha hT);rw[hT,hr'] at h;cases h
 ·intro h;rw[h];rfl
theorem ZxZ {l:List UInt8}(ha:ZF 10 l=true) (hz:trZ l≠[]):nmB 10 (shR 800 (nuD l))≠0:=by
 cases hT:trZ l with
 | nil=>exact absurd hT hz
 | cons c r=>
  have hc:=ZaJ ha hT;obtain⟨r',hr'⟩:=Zcp (b:=10) (r:=r) hc;obtain⟨r2,hr2⟩:∃ r2,shR 800 (nuD l)=c::r2:=by
   unfold nuD shR;rw[hT,hr'];split
   ·exact⟨_,rfl⟩
   ·exact⟨_,rfl⟩
  have:=Zbr (b:=10) (.inl rfl) (r:=r2) hc;rw[hr2];omega
def paV (x:Int×Int×Int):Value:=if x.2.2=0 then paW x.1 x.2.1 .nilIface else paW 0 0 (erZ x.2.2)
theorem Zya (m:Int) (mn:Bool):pzV m mn=paW (if mn=true then 9223372036854775808 else 0) 0 .nilIface:=by
 cases mn<;>rfl
theorem Zox (b:Int) (p:Bool) (v:List UInt8):(sc1 b p v).2.2.length≤v.length:=by
 induction v generalizing p with
 | nil=>exact Nat.le_refl _
 | cons c l ih=>
  unfold sc1;split
  ·have:=ih true;rw[List.length_cons];omega
  ·split
   ·have:=ih p;rw[List.length_cons];dsimp only;omega
   ·exact Nat.le_refl _
theorem ZhK {b:Int}(hb:b=10∨b=16) {v:List UInt8}(hv:v.length≤10000) (hz:trZ (sc1 b false v).1≠[]) {P:Int}(hP: -10000000≤P∧P≤10000000):Zyy b (ZhJ b v) (nuK b v) P=true:=by
 obtain⟨h1,h2,h3⟩:=Zgq b false v;have lT:=Zfg (sc1 b false v).1;have lD:(nuD (sc1 b false v).1).length≤(trZ (sc1 b false v).1).length:=ZbS _;have ha:ZF b (ZhJ b v)=true:=Zfn (Zdh h3);unfold Zyy;rw[ha,Bool.true_and];unfold nuK ZhJ;exact Xa ⟨hb,fun h10=>by subst h10;exact ZxZ h3 hz,by omega,by omega,by omega,hP.1,hP.2⟩
theorem Zoy {m:Int}{n:Bool}{b:Int}(hb:b=10∨b=16) {v:List UInt8}(hv:v.length≤10000) (hz:trZ (sc1 b false v).1≠[]) {P Q:Int}(hP:Zgv Q P):pnV m n b (ZhJ b v) (nuK b v) Q=paW (if n=true then 9223372036854775808+rnP m n (dnA b (trZ (sc1 b false v).1) ((sc1 b false v).2.1:Nat) P).1 (dnA b (trZ (sc1 b false v).1) ((sc1 b false v).2.1:Nat) P).2 else rnP m n (dnA b (trZ (sc1 b false v).1) ((sc1 b false v).2.1:Nat) P).1 (dnA b (trZ (sc1 b false v).1) ((sc1 b false v).2.1:Nat) P).2) (rnF m n (dnA b (trZ (sc1 b false v).1) ((sc1 b false v).2.1:Nat) P).1 (dnA b (trZ (sc1 b false v).1) ((sc1 b false v).2.1:Nat) P).2) .nilIface:=by
 obtain⟨h1,h2,h3⟩:=Zgq b false v;obtain⟨r1,r2⟩:=Z6D m n (Z0M b (ZhJ b v) (nuK b v) Q) (noM b (ZhJ b v) (nuK b v) Q) (noE b (ZhJ b v) (nuK b v) Q);obtain⟨q1,q2⟩:=Zq6 (m:=m) (n:=n) hb (l:=(sc1 b false v).1) (by omega) h3 hz (k:=(sc1 b false v).2.1) h2 hP;unfold pnV;rw[r1,r2];unfold ZhJ nuK;rw[q1,q2];rfl
theorem Z6E (l:List UInt8) (m:Int) (h65:l.length≤10000) (h0:¬ (sgT l).2=Zyz) (h1:¬ (sgT l).2=Z3r) (h16:zW [48,120] (sgT l).2=false) (w:World):Calls prog 17 #[bR l,.int .i64 m] w fun e w'=>e= .returned (paV (rdQ m (sgT l).1 10 (sgT l).2))∧zi w w':=by
 have hT:=Zd ZfB;have lb:Zo (lB0 l (sgT l).1):=Za (Z9 (Xb h1)) (Za (Z9 (Xb h0)) (Za rfl (Zy (Xb (by omega)))));have l0:=Za h16 lb;have hs:=Zhu l;obtain⟨v,hv⟩:∃ v,v=(sgT l).2:=⟨_,rfl⟩;have vl:v.length≤10000:=by rw[hv];omega
 have f1:=Z29 l m (sgT l).1;have f5:=Z2C l m (sgT l).1;have f5z:=ZxW l m (sgT l).1;have f3:=Z2A l m (sgT l).1;have f4:=Z2B l m (sgT l).1;have f6:=Z2D l m (sgT l).1;have f6z:=ZxX l m (sgT l).1;obtain⟨mn,hmn⟩:∃ mn,mn=(sgT l).1:=⟨_,rfl⟩;rw[← hv] at f1 f3 f4 f6 f6z f5 f5z;rw[← hmn] at f1 f3 f4 f6 f6z l0 f5 f5z;rw[← hv] at l0;rw[← hv,← hmn];have hB:decide (((10:Int)=10∨(10:Int)=16)∧v.length≤100000)=true:=Xa ⟨(.inl rfl),by omega⟩;obtain⟨sb1,sb2,sb3⟩:=Zgq 10 false v;have rl:(rst 10 v).length≤v.length:=Zox 10 false v;have dl:decide (((rst 10 v).drop 1).length≤100000)=true:=Xa (by rw[List.length_drop];omega);by_cases hD:(sc1 10 false v).1=[]
 ·have e:rdQ m mn 10 v=(0,0,3):=by unfold rdQ scA;rw[if_pos hD,if_pos rfl]
  rw[e];exact Zb hT f1 (Za (Xb (fun h=>h hD)) (Za hB l0)) (by rfl) (by rfl) w
 have l1:=Za (show decide ((sc1 10 false v).1≠[])=true from Xa hD) (Za hB l0);have eS:scA 10 v=scE 10 (rst 10 v):=by unfold scA;rw[if_neg hD];rfl
 obtain⟨k1,k2⟩:=ZiG (b:=10) (.inl rfl) (rst 10 v);rw[← eS] at k1 k2;have eQz:(scA 10 v).2=true→trZ (sc1 10 false v).1=[]→rdQ m mn 10 v=(if mn=true then 9223372036854775808 else 0,0,0):=fun h2 h3=>by unfold rdQ;rw[if_neg (by rw[h2];decide),if_pos h3]
 have eQn:(scA 10 v).2=true→¬ trZ (sc1 10 false v).1=[]→rdQ m mn 10 v=(if mn=true then 9223372036854775808+rnP m mn (dnA 10 (trZ (sc1 10 false v).1) ((sc1 10 false v).2.1:Nat) (scA 10 v).1).1 (dnA 10 (trZ (sc1 10 false v).1) ((sc1 10 false v).2.1:Nat) (scA 10 v).1).2 else rnP m mn (dnA 10 (trZ (sc1 10 false v).1) ((sc1 10 false v).2.1:Nat) (scA 10 v).1).1 (dnA 10 (trZ (sc1 10 false v).1) ((sc1 10 false v).2.1:Nat) (scA 10 v).1).2,rnF m mn (dnA 10 (trZ (sc1 10 false v).1) ((sc1 10 false v).2.1:Nat) (scA 10 v).1).1 (dnA 10 (trZ (sc1 10 false v).1) ((sc1 10 false v).2.1:Nat) (scA 10 v).1).2,0):=fun h2 h3=>by unfold rdQ;rw[if_neg (by rw[h2];decide),if_neg h3]
 have eQe:(scA 10 v).2=false→rdQ m mn 10 v=(0,0,3):=fun h2=>by unfold rdQ;rw[if_pos h2]
 have nz:=Zow sb3;by_cases hr:rst 10 v=[]
 ·have l2:=Za (show (Zaa (rst 10 v) [] true).1=true from Z9 (Xa hr)) l1;have ek:pwK 10 (rst 10 v)=true:=by unfold pwK;rw[if_pos hr];rfl
  have al:=k2 ek;have ep:Go.Rd.pwP (rst 10 v)=0:=by unfold Go.Rd.pwP;rw[if_pos hr]
  rw[ep] at al;rw[ek] at k1;by_cases hz:trZ (sc1 10 false v).1=[]
  ·rw[eQz k1.symm hz];have f:=f5z;rw[Zya] at f;exact Zb hT f (Za (Xa (by decide)) (Za (Xa (nz.2 hz)) l2)) (by rfl) (by rfl) w
  ·rw[eQn k1.symm hz];have f:=f5;rw[Zoy (.inl rfl) vl hz al] at f;exact Zb hT f (Za (Xa (zv _)) (Za (Xb (fun h=>hz (nz.1 h))) (Za (ZhK (.inl rfl) vl hz ⟨by decide,by decide⟩) l2))) (by rfl) (by rfl) w
 ·have l2:=Za (show (Zaa (rst 10 v) [] false).1=false from Z9 (Xb hr)) l1;have ek:pwK 10 (rst 10 v)=(zW [101] (rst 10 v) && wnK ((rst 10 v).drop 1)):=by unfold pwK;rw[if_neg hr];rfl
  cases hm:zW [101] (rst 10 v) with
  | false=>
   rw[hm,Bool.false_and] at ek;rw[ek] at k1;rw[eQe k1.symm];exact Zb hT f3 (Za hm l2) (by rfl) (by rfl) w
  | true=>
   have l3:=Za hm l2;rw[hm,Bool.true_and] at ek;cases hw:wnK ((rst 10 v).drop 1) with
   | false=>
    rw[hw] at ek;rw[ek] at k1;rw[eQe k1.symm];exact Zb hT f4 (Za hw (Za dl l3)) (by rfl) (by rfl) w
   | true=>
    have l4:=Za hw (Za dl l3);rw[hw] at ek;have al:=k2 ek;have ep:Go.Rd.pwP (rst 10 v)=wnP ((rst 10 v).drop 1):=by unfold Go.Rd.pwP;rw[if_neg hr]
    rw[ep] at al;rw[ek] at k1;by_cases hz:trZ (sc1 10 false v).1=[]
    ·rw[eQz k1.symm hz];have f:=f6z;rw[Zya] at f;exact Zb hT f (Za (Xa (by decide)) (Za (Xa (nz.2 hz)) l4)) (by rfl) (by rfl) w
    ·rw[eQn k1.symm hz];have f:=f6;rw[Zoy (.inl rfl) vl hz al] at f;exact Zb hT f (Za (Xa (zv _)) (Za (Xb (fun h=>hz (nz.1 h))) (Za (ZhK (.inl rfl) vl hz (ZsI _)) l4))) (by rfl) (by rfl) w
theorem Z6F (l:List UInt8) (m:Int) (h65:l.length≤10000) (h0:¬ (sgT l).2=Zyz) (h1:¬ (sgT l).2=Z3r) (h16:zW [48,120] (sgT l).2=true) (w:World):Calls prog 17 #[bR l,.int .i64 m] w fun e w'=>e= .returned (paV (rdQ m (sgT l).1 16 ((sgT l).2.drop 2)))∧zi w w':=by
 have hT:=Zd ZfB;have lb:Zo (lB0 l (sgT l).1):=Za (Z9 (Xb h1)) (Za (Z9 (Xb h0)) (Za rfl (Zy (Xb (by omega)))));have l0:=Za h16 lb;have hs:=Zhu l;obtain⟨v,hv⟩:∃ v,v=((sgT l).2.drop 2):=⟨_,rfl⟩;have vl:v.length≤10000:=by rw[hv];rw[List.length_drop];omega
 have f1:=Z2E l m (sgT l).1;have f2:=Z2F l m (sgT l).1;have f3:=Z2G l m (sgT l).1;have f4:=Z2H l m (sgT l).1;have f6:=Z2I l m (sgT l).1;have f6z:=ZxY l m (sgT l).1;obtain⟨mn,hmn⟩:∃ mn,mn=(sgT l).1:=⟨_,rfl⟩;rw[← hv] at f1 f3 f4 f6 f6z f2;rw[← hmn] at f1 f3 f4 f6 f6z l0 f2;rw[← hv,← hmn];have hB:decide (((16:Int)=10∨(16:Int)=16)∧v.length≤100000)=true:=Xa ⟨(.inr rfl),by omega⟩;obtain⟨sb1,sb2,sb3⟩:=Zgq 16 false v;have rl:(rst 16 v).length≤v.length:=Zox 16 false v;have dl:decide (((rst 16 v).drop 1).length≤100000)=true:=Xa (by rw[List.length_drop];omega);by_cases hD:(sc1 16 false v).1=[]
 ·have e:rdQ m mn 16 v=(0,0,3):=by unfold rdQ scA;rw[if_pos hD,if_pos rfl]
  rw[e];exact Zb hT f1 (Za (Xb (fun h=>h hD)) (Za hB l0)) (by rfl) (by rfl) w
 have l1:=Za (show decide ((sc1 16 false v).1≠[])=true from Xa hD) (Za hB l0);have eS:scA 16 v=scE 16 (rst 16 v):=by unfold scA;rw[if_neg hD];rfl
 obtain⟨k1,k2⟩:=ZiG (b:=16) (.inr rfl) (rst 16 v);rw[← eS] at k1 k2;have eQz:(scA 16 v).2=true→trZ (sc1 16 false v).1=[]→rdQ m mn 16 v=(if mn=true then 9223372036854775808 else 0,0,0):=fun h2 h3=>by unfold rdQ;rw[if_neg (by rw[h2];decide),if_pos h3]
 have eQn:(scA 16 v).2=true→¬ trZ (sc1 16 false v).1=[]→rdQ m mn 16 v=(if mn=true then 9223372036854775808+rnP m mn (dnA 16 (trZ (sc1 16 false v).1) ((sc1 16 false v).2.1:Nat) (scA 16 v).1).1 (dnA 16 (trZ (sc1 16 false v).1) ((sc1 16 false v).2.1:Nat) (scA 16 v).1).2 else rnP m mn (dnA 16 (trZ (sc1 16 false v).1) ((sc1 16 false v).2.1:Nat) (scA 16 v).1).1 (dnA 16 (trZ (sc1 16 false v).1) ((sc1 16 false v).2.1:Nat) (scA 16 v).1).2,rnF m mn (dnA 16 (trZ (sc1 16 false v).1) ((sc1 16 false v).2.1:Nat) (scA 16 v).1).1 (dnA 16 (trZ (sc1 16 false v).1) ((sc1 16 false v).2.1:Nat) (scA 16 v).1).2,0):=fun h2 h3=>by unfold rdQ;rw[if_neg (by rw[h2];decide),if_neg h3]
 have eQe:(scA 16 v).2=false→rdQ m mn 16 v=(0,0,3):=fun h2=>by unfold rdQ;rw[if_pos h2]
 have nz:=Zow sb3;by_cases hr:rst 16 v=[]
 ·have l2:=Za (show (Zaa (rst 16 v) [] true).1=true from Z9 (Xa hr)) l1;have ek:pwK 16 (rst 16 v)=false:=by unfold pwK;rw[if_pos hr];rfl
  rw[ek] at k1;rw[eQe k1.symm];exact Zb hT f2 l2 (by rfl) (by rfl) w
 ·have l2:=Za (show (Zaa (rst 16 v) [] false).1=false from Z9 (Xb hr)) l1;have ek:pwK 16 (rst 16 v)=(zW [112] (rst 16 v) && wnK ((rst 16 v).drop 1)):=by unfold pwK;rw[if_neg hr];rfl
  cases hm:zW [112] (rst 16 v) with
  | false=>
   rw[hm,Bool.false_and] at ek;rw[ek] at k1;rw[eQe k1.symm];exact Zb hT f3 (Za hm l2) (by rfl) (by rfl) w
  | true=>
   have l3:=Za hm l2;rw[hm,Bool.true_and] at ek;cases hw:wnK ((rst 16 v).drop 1) with
   | false=>
    rw[hw] at ek;rw[ek] at k1;rw[eQe k1.symm];exact Zb hT f4 (Za hw (Za dl l3)) (by rfl) (by rfl) w
   | true=>
    have l4:=Za hw (Za dl l3);rw[hw] at ek;have al:=k2 ek;have ep:Go.Rd.pwP (rst 16 v)=wnP ((rst 16 v).drop 1):=by unfold Go.Rd.pwP;rw[if_neg hr]
    rw[ep] at al;rw[ek] at k1;by_cases hz:trZ (sc1 16 false v).1=[]
    ·rw[eQz k1.symm hz];have f:=f6z;rw[Zya] at f;exact Zb hT f (Za (Xa (by decide)) (Za (Xa (nz.2 hz)) l4)) (by rfl) (by rfl) w
    ·rw[eQn k1.symm hz];have f:=f6;rw[Zoy (.inr rfl) vl hz al] at f;exact Zb hT f (Za (Xa (zv _)) (Za (Xb (fun h=>hz (nz.1 h))) (Za (ZhK (.inr rfl) vl hz (ZsI _)) l4))) (by rfl) (by rfl) w
theorem Zjq (l:List UInt8) (m:Int) (ho:ZrO l=true) (w:World):Calls prog 17 #[bR l,.int .i64 m] w fun e w'=>e= .returned (paV (rdP m l))∧zi w w':=by
 have hT:=Zd ZfB;have ho:=Xc ho;unfold rdP;by_cases h65:65536<l.length
 ·rw[if_pos h65];exact Zb hT (ZrL l m) (Zy (Xa (by omega))) (by rfl) (by rfl) w
 have h6:decide (((l.length:Nat):Int)>65536)=false:=Xb (by omega);rw[if_neg h65];by_cases h1:(sgT l).2=[110,97,110]
 ·rw[if_pos h1];exact Zb hT (ZxV l m (sgT l).1) (Za (Z9 (Xa h1)) (Za (Z9 (Xb (by rw[h1];decide))) (Za rfl (Zy h6)))) (by rfl) (by rfl) w
 rw[if_neg h1];by_cases h2:(sgT l).2=[105,110,102]
 ·rw[if_pos h2];cases hn:(sgT l).1 with
  | true=>exact Zb hT (ZrM l m) (Za (Z9 (Xa h2)) (Za hn (Zy h6))) (by rfl) (by rfl) w
  | false=>exact Zb hT (ZrN l m) (Za (Z9 (Xa h2)) (Za hn (Zy h6))) (by rfl) (by rfl) w
 rw[if_neg h2,ZvT];cases h16:zW [48,120] (sgT l).2 with
 | true=>
  rw[if_pos rfl];exact Z6F l m (by omega) h2 h1 h16 w
 | false=>
  rw[if_neg (by decide)];exact Z6E l m (by omega) h2 h1 h16 w
def gPR:Ans:=fun vals s=>
 match vals,s with
 | [.string a,.int .i64 m],.inr (.inr (.inr (.inl true)))::s'=>some (paW (rdP m a.data.toList).1 (rdP m a.data.toList).2.1 .nilIface,s',[(decide ((rdP m a.data.toList).2.2=0),true),(ZrO a.data.toList,true)])
 | [.string a,.int .i64 m],.inr (.inr (.inr (.inl false)))::s'=>some (paW 0 0 (erZ (rdP m a.data.toList).2.2),s',[(decide ((rdP m a.data.toList).2.2=0),false),(ZrO a.data.toList,true)])
 | _,_=>none
theorem Z2J:ZC 17 gPR:=by
 intro vals s v s' lg h hl w;unfold gPR at h;split at h
 ·rename_i a m s2;cases h;have h1:=Xc (hl _ Xe);have h2:ZrO a.data.toList=true:=hl _ (Xd _ Xf);have:=Zjq a.data.toList m h2 w;unfold paV at this;rw[if_pos h1] at this;exact this
 ·rename_i a m s2;cases h;have h1:=of_decide_eq_false (hl _ Xe);have h2:ZrO a.data.toList=true:=hl _ (Xd _ Xf);have:=Zjq a.data.toList m h2 w;unfold paV at this;rw[if_neg h1] at this;exact this
 ·cases h
end Go.Proofs.YtgefjidphfdhdaaGreatDoor
