/-
  RdC, RdD, RdE, ConVB, ConVC, ConVD
-/
import Derived.Test.YtjlponbdflkbjaaGreatDoorG17
namespace Go.Proofs.YtjlponbdflkbjaaGreatDoor
open Go.Proofs.Tryz
open Go.IntKind
open Go.KRun Go.Rd
set_option maxRecDepth 100000
def Zt9 (F:Func):Code:=cIn (cIn (sP F 3))
def Zzh (F:Func):Code:=cIn (cIn (sP F 11))
theorem Zob:f20.body=some (ZW [sP f20 0,sP f20 1,sP f20 2] (.seq (.block 0 (.loop (Zt9 f20))) (sK f20 4))):=by kernel_rfl
theorem Zbe:sK f20 4=ZW [sP f20 4,sP f20 5,sP f20 6,sP f20 7,sP f20 8,sP f20 9,sP f20 10] (.seq (.block 2 (.loop (Zzh f20))) (sK f20 12)):=by kernel_rfl
def ZcJ (b:Int) (D:List UInt8) (k P:Int):List Value×TypeId:=([.bool false,.int .i64 b,bR D,.int .i64 k,.int .i64 P],57)
def zB:List Value×TypeId:=([.bool false,.int .i64 0,bR [],.int .i64 0,.int .i64 0],57)
def ZcK (l:List UInt8) (b i q:Int):List Value:=[bR l,.int .i64 b,undef,undef,pO 0,.bool false,pO 1,.int .i64 i,.int .i64 q]
def ZgV (l:List UInt8) (b i q:Int) (mn:Bool):List Value:=[bR l,.int .i64 b,undef,undef,pO 0,.bool false,pO 1,.int .i64 i,.int .i64 q,.bool mn]
def scM (b:Int) (D:List UInt8) (k P:Int):Hp:=⟨2,[ZcJ b D k P,zB]⟩
theorem Z2G (l:List UInt8) (b:Int):Zg (evL (Zk prog Zf ZG true) 100 [sP f20 0,sP f20 1,sP f20 2] ([bR l,.int .i64 b]++List.replicate 147 undef,⟨0,[]⟩,[]) ⟨[],[],[]⟩) 9 140 none (ZcK l b 0 0) (scM b [] 0 0) []:=by and_intros<;>kernel_rfl
theorem Z9S (l:List UInt8) (b i q:Int) (D:List UInt8) (k P:Int) (g:Nat→Value):Zg (evC (Zk prog Zf ZG true) 100 false (Zt9 f20) (ZcK l b i q++tl 140 g,scM b D k P,[cmp false]) ⟨[],[],[]⟩) 9 140 (some (some 0)) (ZcK l b i q) (scM b D k P) [(decide (i<(l.length:Nat)),false)]:=by and_intros<;>kernel_rfl
theorem Z7Q (l:List UInt8) (b i q:Int) (D:List UInt8) (k P:Int) (g:Nat→Value):Zg (evC (Zk prog Zf ZG true) 100 false (Zt9 f20) (ZcK l b i q++tl 140 g,scM b D k P,[cmp true,cmp false,cmp false]) ⟨[],[],[]⟩) 9 140 (some (some 0)) (ZcK l b i q) (scM b D k P) [(decide (ZO (byR l i) b≥0),false),(decide (b=10∨b=16),true),(decide (0≤i∧i.toNat<l.length),true),(byR l i==46,false),(decide (0≤i∧i.toNat<l.length),true),(decide (i<(l.length:Nat)),true)]:=by and_intros<;>kernel_rfl
theorem Z7R (l:List UInt8) (b i q:Int) (D:List UInt8) (k P:Int) (g:Nat→Value):Zg (evC (Zk prog Zf ZG true) 100 false (Zt9 f20) (ZcK l b i q++tl 140 g,scM b D k P,[cmp true,cmp true,cmp false,cmp false]) ⟨[],[],[]⟩) 9 140 (some (some 0)) (ZcK l b i q) (scM b D k P) [(decide (ZO (byR l i) b≥0),false),(decide (b=10∨b=16),true),(decide (0≤i∧i.toNat<l.length),true),(q==0,false),(byR l i==46,true),(decide (0≤i∧i.toNat<l.length),true),(decide (i<(l.length:Nat)),true)]:=by and_intros<;>kernel_rfl
theorem Z9T (l:List UInt8) (b i q:Int) (D:List UInt8) (k P:Int) (g:Nat→Value):Zg (evC (Zk prog Zf ZG true) 100 false (Zt9 f20) (ZcK l b i q++tl 140 g,scM b D k P,[cmp true,cmp true,cmp true,cmp true]) ⟨[],[],[]⟩) 9 140 none (ZcK l b (i64.wrap (i+1)) (i64.wrap (q+1))) (scM b D k P) [(byR l i==46,true),(decide (0≤i∧i.toNat<l.length),true),(q==0,true),(byR l i==46,true),(decide (0≤i∧i.toNat<l.length),true),(decide (i<(l.length:Nat)),true)]:=by and_intros<;>kernel_rfl
theorem Z9U (l:List UInt8) (b i q:Int) (D:List UInt8) (k P:Int) (g:Nat→Value):Zg (evC (Zk prog Zf ZG true) 100 false (Zt9 f20) (ZcK l b i q++tl 140 g,scM b D k P,[cmp true,cmp false,cmp true,cmp false,sam true,sam true]) ⟨[],[],[]⟩) 9 140 none (ZcK l b (i64.wrap (i+1)) q) (scM b (D++((l.drop i.toNat).take ((i64.wrap (i+1)).toNat-i.toNat))) (i64.wrap (k+q)) P) [(decide (D.length+((l.drop i.toNat).take ((i64.wrap (i+1)).toNat-i.toNat)).length≤9223372036854775807),true),(decide (0≤i∧i≤(i64.wrap (i+1))∧(i64.wrap (i+1))≤((l.length:Nat):Int)),true),(byR l i==46,false),(decide (0≤i∧i.toNat<l.length),true),(decide (ZO (byR l i) b≥0),true),(decide (b=10∨b=16),true),(decide (0≤i∧i.toNat<l.length),true),(byR l i==46,false),(decide (0≤i∧i.toNat<l.length),true),(decide (i<(l.length:Nat)),true)]:=by and_intros<;>kernel_rfl
theorem Z9V (l:List UInt8) (b i q:Int) (D:List UInt8) (k P:Int) (g:Nat→Value):Zg (evC (Zk prog Zf ZG true) 100 false (sK f20 4) (ZcK l b i q++tl 140 g,scM b D k P,[sam true]) ⟨[],[],[]⟩) 6 143 (some none) [bR l,.int .i64 b,undef,undef,pO 0,.bool false] ⟨2,[ZcJ b D k P,ZcJ b D k P]⟩ [((⟨⟨D⟩⟩:ByteArray)==⟨⟨[]⟩⟩,true)]:=by and_intros<;>kernel_rfl
theorem Z9W (l:List UInt8) (b i q:Int) (D:List UInt8) (k P:Int) (g:Nat→Value) (d:Bool):Zg (evC (Zk prog Zf ZG true) 100 false (sK f20 4) (ZcK l b i q++tl 140 g,scM b D k P,[sam false,cmp true,cmp d]) ⟨[],[],[]⟩) 6 143 (some none) [bR l,.int .i64 b,undef,undef,pO 0,.bool d] ⟨2,[ZcJ b D k P,ZcJ b D k P]⟩ [(b==10,d),(i==(l.length:Nat),true),((⟨⟨D⟩⟩:ByteArray)==⟨⟨[]⟩⟩,false)]:=by and_intros<;>kernel_rfl
theorem Z7S (l:List UInt8) (b i q:Int) (D:List UInt8) (k P:Int) (g:Nat→Value):Zg (evC (Zk prog Zf ZG true) 100 false (sK f20 4) (ZcK l b i q++tl 140 g,scM b D k P,[sam false,cmp false,cmp true,cmp true]) ⟨[],[],[]⟩) 6 143 (some none) [bR l,.int .i64 b,undef,undef,pO 0,.bool false] ⟨2,[ZcJ b D k P,ZcJ b D k P]⟩ [(byR l i !=101,true),(decide (0≤i∧i.toNat<l.length),true),(b==10,true),(i==(l.length:Nat),false),((⟨⟨D⟩⟩:ByteArray)==⟨⟨[]⟩⟩,false)]:=by and_intros<;>kernel_rfl
theorem Z7T (l:List UInt8) (b i q:Int) (D:List UInt8) (k P:Int) (g:Nat→Value):Zg (evC (Zk prog Zf ZG true) 100 false (sK f20 4) (ZcK l b i q++tl 140 g,scM b D k P,[sam false,cmp false,cmp false,cmp true,cmp true]) ⟨[],[],[]⟩) 6 143 (some none) [bR l,.int .i64 b,undef,undef,pO 0,.bool false] ⟨2,[ZcJ b D k P,ZcJ b D k P]⟩ [(byR l i !=112,true),(decide (0≤i∧i.toNat<l.length),true),(b==16,true),(b==10,false),(i==(l.length:Nat),false),((⟨⟨D⟩⟩:ByteArray)==⟨⟨[]⟩⟩,false)]:=by and_intros<;>kernel_rfl
theorem Z7U (l:List UInt8) (b i q:Int) (D:List UInt8) (k P:Int) (g:Nat→Value):Zg (evC (Zk prog Zf ZG true) 100 false (sK f20 4) (ZcK l b i q++tl 140 g,scM b D k P,[sam false,cmp false,cmp true,cmp false,cmp false,cmp false,cmp false,cmp true]) ⟨[],[],[]⟩) 6 143 (some none) [bR l,.int .i64 b,undef,undef,pO 0,.bool false] ⟨2,[ZcJ b D k P,ZcJ b D k P]⟩ [((i64.wrap (i+1))==(l.length:Nat),true),(decide ((i64.wrap (i+1))<(l.length:Nat)),false),(decide ((i64.wrap (i+1))<(l.length:Nat)),false),(b==16,false),(byR l i !=101,false),(decide (0≤i∧i.toNat<l.length),true),(b==10,true),(i==(l.length:Nat),false),((⟨⟨D⟩⟩:ByteArray)==⟨⟨[]⟩⟩,false)]:=by and_intros<;>kernel_rfl
theorem Z2H (l:List UInt8) (b i q:Int) (D:List UInt8) (k P:Int) (g:Nat→Value):Zg (evC (Zk prog Zf ZG true) 100 false (sK f20 4) (ZcK l b i q++tl 140 g,scM b D k P,[sam false,cmp false,cmp true,cmp false,cmp false,cmp true,cmp true,cmp true,cmp true,cmp true]) ⟨[],[],[]⟩) 6 143 (some none) [bR l,.int .i64 b,undef,undef,pO 0,.bool false] ⟨2,[ZcJ b D k P,ZcJ b D k P]⟩ [((i64.wrap ((i64.wrap (i+1))+1))==(l.length:Nat),true),(byR l (i64.wrap (i+1))==45,true),(decide (0≤(i64.wrap (i+1))∧(i64.wrap (i+1)).toNat<l.length),true),(decide ((i64.wrap (i+1))<(l.length:Nat)),true),(byR l (i64.wrap (i+1))==45,true),(decide (0≤(i64.wrap (i+1))∧(i64.wrap (i+1)).toNat<l.length),true),(decide ((i64.wrap (i+1))<(l.length:Nat)),true),(b==16,false),(byR l i !=101,false),(decide (0≤i∧i.toNat<l.length),true),(b==10,true),(i==(l.length:Nat),false),((⟨⟨D⟩⟩:ByteArray)==⟨⟨[]⟩⟩,false)]:=by and_intros<;>kernel_rfl
theorem Z2I (l:List UInt8) (b i q:Int) (D:List UInt8) (k P:Int) (g:Nat→Value):Zg (evL (Zk prog Zf ZG true) 100 [sP f20 4,sP f20 5,sP f20 6,sP f20 7,sP f20 8,sP f20 9,sP f20 10] (ZcK l b i q++tl 140 g,scM b D k P,[sam false,cmp false,cmp true,cmp false,cmp false,cmp true,cmp true,cmp true,cmp true,cmp false]) ⟨[],[],[]⟩) 10 139 none (ZgV l b (i64.wrap ((i64.wrap (i+1))+1)) q true) (scM b D k P) [((i64.wrap ((i64.wrap (i+1))+1))==(l.length:Nat),false),(byR l (i64.wrap (i+1))==45,true),(decide (0≤(i64.wrap (i+1))∧(i64.wrap (i+1)).toNat<l.length),true),(decide ((i64.wrap (i+1))<(l.length:Nat)),true),(byR l (i64.wrap (i+1))==45,true),(decide (0≤(i64.wrap (i+1))∧(i64.wrap (i+1)).toNat<l.length),true),(decide ((i64.wrap (i+1))<(l.length:Nat)),true),(b==16,false),(byR l i !=101,false),(decide (0≤i∧i.toNat<l.length),true),(b==10,true),(i==(l.length:Nat),false),((⟨⟨D⟩⟩:ByteArray)==⟨⟨[]⟩⟩,false)]:=by and_intros<;>kernel_rfl
theorem Z2J (l:List UInt8) (b i q:Int) (D:List UInt8) (k P:Int) (g:Nat→Value):Zg (evC (Zk prog Zf ZG true) 100 false (sK f20 4) (ZcK l b i q++tl 140 g,scM b D k P,[sam false,cmp false,cmp true,cmp false,cmp false,cmp true,cmp false,cmp true,cmp false,cmp true,cmp true]) ⟨[],[],[]⟩) 6 143 (some none) [bR l,.int .i64 b,undef,undef,pO 0,.bool false] ⟨2,[ZcJ b D k P,ZcJ b D k P]⟩ [((i64.wrap ((i64.wrap (i+1))+1))==(l.length:Nat),true),(byR l (i64.wrap (i+1))==43,true),(decide (0≤(i64.wrap (i+1))∧(i64.wrap (i+1)).toNat<l.length),true),(byR l (i64.wrap (i+1))==45,false),(decide (0≤(i64.wrap (i+1))∧(i64.wrap (i+1)).toNat<l.length),true),(decide ((i64.wrap (i+1))<(l.length:Nat)),true),(byR l (i64.wrap (i+1))==45,false),(decide (0≤(i64.wrap (i+1))∧(i64.wrap (i+1)).toNat<l.length),true),(decide ((i64.wrap (i+1))<(l.length:Nat)),true),(b==16,false),(byR l i !=101,false),(decide (0≤i∧i.toNat<l.length),true),(b==10,true),(i==(l.length:Nat),false),((⟨⟨D⟩⟩:ByteArray)==⟨⟨[]⟩⟩,false)]:=by and_intros<;>kernel_rfl
theorem Z2K (l:List UInt8) (b i q:Int) (D:List UInt8) (k P:Int) (g:Nat→Value):Zg (evL (Zk prog Zf ZG true) 100 [sP f20 4,sP f20 5,sP f20 6,sP f20 7,sP f20 8,sP f20 9,sP f20 10] (ZcK l b i q++tl 140 g,scM b D k P,[sam false,cmp false,cmp true,cmp false,cmp false,cmp true,cmp false,cmp true,cmp false,cmp true,cmp false]) ⟨[],[],[]⟩) 10 139 none (ZgV l b (i64.wrap ((i64.wrap (i+1))+1)) q false) (scM b D k P) [((i64.wrap ((i64.wrap (i+1))+1))==(l.length:Nat),false),(byR l (i64.wrap (i+1))==43,true),(decide (0≤(i64.wrap (i+1))∧(i64.wrap (i+1)).toNat<l.length),true),(byR l (i64.wrap (i+1))==45,false),(decide (0≤(i64.wrap (i+1))∧(i64.wrap (i+1)).toNat<l.length),true),(decide ((i64.wrap (i+1))<(l.length:Nat)),true),(byR l (i64.wrap (i+1))==45,false),(decide (0≤(i64.wrap (i+1))∧(i64.wrap (i+1)).toNat<l.length),true),(decide ((i64.wrap (i+1))<(l.length:Nat)),true),(b==16,false),(byR l i !=101,false),(decide (0≤i∧i.toNat<l.length),true),(b==10,true),(i==(l.length:Nat),false),((⟨⟨D⟩⟩:ByteArray)==⟨⟨[]⟩⟩,false)]:=by and_intros<;>kernel_rfl
theorem Z2L (l:List UInt8) (b i q:Int) (D:List UInt8) (k P:Int) (g:Nat→Value):Zg (evL (Zk prog Zf ZG true) 100 [sP f20 4,sP f20 5,sP f20 6,sP f20 7,sP f20 8,sP f20 9,sP f20 10] (ZcK l b i q++tl 140 g,scM b D k P,[sam false,cmp false,cmp true,cmp false,cmp false,cmp true,cmp false,cmp true,cmp false,cmp false,cmp false]) ⟨[],[],[]⟩) 10 139 none (ZgV l b (i64.wrap (i+1)) q false) (scM b D k P) [((i64.wrap (i+1))==(l.length:Nat),false),(byR l (i64.wrap (i+1))==43,false),(decide (0≤(i64.wrap (i+1))∧(i64.wrap (i+1)).toNat<l.length),true),(byR l (i64.wrap (i+1))==45,false),(decide (0≤(i64.wrap (i+1))∧(i64.wrap (i+1)).toNat<l.length),true),(decide ((i64.wrap (i+1))<(l.length:Nat)),true),(byR l (i64.wrap (i+1))==45,false),(decide (0≤(i64.wrap (i+1))∧(i64.wrap (i+1)).toNat<l.length),true),(decide ((i64.wrap (i+1))<(l.length:Nat)),true),(b==16,false),(byR l i !=101,false),(decide (0≤i∧i.toNat<l.length),true),(b==10,true),(i==(l.length:Nat),false),((⟨⟨D⟩⟩:ByteArray)==⟨⟨[]⟩⟩,false)]:=by and_intros<;>kernel_rfl
theorem Z7V (l:List UInt8) (b i q:Int) (D:List UInt8) (k P:Int) (g:Nat→Value):Zg (evC (Zk prog Zf ZG true) 100 false (sK f20 4) (ZcK l b i q++tl 140 g,scM b D k P,[sam false,cmp false,cmp false,cmp true,cmp false,cmp false,cmp false,cmp true]) ⟨[],[],[]⟩) 6 143 (some none) [bR l,.int .i64 b,undef,undef,pO 0,.bool false] ⟨2,[ZcJ b D k P,ZcJ b D k P]⟩ [((i64.wrap (i+1))==(l.length:Nat),true),(decide ((i64.wrap (i+1))<(l.length:Nat)),false),(decide ((i64.wrap (i+1))<(l.length:Nat)),false),(byR l i !=112,false),(decide (0≤i∧i.toNat<l.length),true),(b==16,true),(b==10,false),(i==(l.length:Nat),false),((⟨⟨D⟩⟩:ByteArray)==⟨⟨[]⟩⟩,false)]:=by and_intros<;>kernel_rfl
theorem Z2M (l:List UInt8) (b i q:Int) (D:List UInt8) (k P:Int) (g:Nat→Value):Zg (evC (Zk prog Zf ZG true) 100 false (sK f20 4) (ZcK l b i q++tl 140 g,scM b D k P,[sam false,cmp false,cmp false,cmp true,cmp false,cmp true,cmp true,cmp true,cmp true,cmp true]) ⟨[],[],[]⟩) 6 143 (some none) [bR l,.int .i64 b,undef,undef,pO 0,.bool false] ⟨2,[ZcJ b D k P,ZcJ b D k P]⟩ [((i64.wrap ((i64.wrap (i+1))+1))==(l.length:Nat),true),(byR l (i64.wrap (i+1))==45,true),(decide (0≤(i64.wrap (i+1))∧(i64.wrap (i+1)).toNat<l.length),true),(decide ((i64.wrap (i+1))<(l.length:Nat)),true),(byR l (i64.wrap (i+1))==45,true),(decide (0≤(i64.wrap (i+1))∧(i64.wrap (i+1)).toNat<l.length),true),(decide ((i64.wrap (i+1))<(l.length:Nat)),true),(byR l i !=112,false),(decide (0≤i∧i.toNat<l.length),true),(b==16,true),(b==10,false),(i==(l.length:Nat),false),((⟨⟨D⟩⟩:ByteArray)==⟨⟨[]⟩⟩,false)]:=by and_intros<;>kernel_rfl
theorem Z2N (l:List UInt8) (b i q:Int) (D:List UInt8) (k P:Int) (g:Nat→Value):Zg (evL (Zk prog Zf ZG true) 100 [sP f20 4,sP f20 5,sP f20 6,sP f20 7,sP f20 8,sP f20 9,sP f20 10] (ZcK l b i q++tl 140 g,scM b D k P,[sam false,cmp false,cmp false,cmp true,cmp false,cmp true,cmp true,cmp true,cmp true,cmp false]) ⟨[],[],[]⟩) 10 139 none (ZgV l b (i64.wrap ((i64.wrap (i+1))+1)) q true) (scM b D k P) [((i64.wrap ((i64.wrap (i+1))+1))==(l.length:Nat),false),(byR l (i64.wrap (i+1))==45,true),(decide (0≤(i64.wrap (i+1))∧(i64.wrap (i+1)).toNat<l.length),true),(decide ((i64.wrap (i+1))<(l.length:Nat)),true),(byR l (i64.wrap (i+1))==45,true),(decide (0≤(i64.wrap (i+1))∧(i64.wrap (i+1)).toNat<l.length),true),(decide ((i64.wrap (i+1))<(l.length:Nat)),true),(byR l i !=112,false),(decide (0≤i∧i.toNat<l.length),true),(b==16,true),(b==10,false),(i==(l.length:Nat),false),((⟨⟨D⟩⟩:ByteArray)==⟨⟨[]⟩⟩,false)]:=by and_intros<;>kernel_rfl
theorem Z2O (l:List UInt8) (b i q:Int) (D:List UInt8) (k P:Int) (g:Nat→Value):Zg (evC (Zk prog Zf ZG true) 100 false (sK f20 4) (ZcK l b i q++tl 140 g,scM b D k P,[sam false,cmp false,cmp false,cmp true,cmp false,cmp true,cmp false,cmp true,cmp false,cmp true,cmp true]) ⟨[],[],[]⟩) 6 143 (some none) [bR l,.int .i64 b,undef,undef,pO 0,.bool false] ⟨2,[ZcJ b D k P,ZcJ b D k P]⟩ [((i64.wrap ((i64.wrap (i+1))+1))==(l.length:Nat),true),(byR l (i64.wrap (i+1))==43,true),(decide (0≤(i64.wrap (i+1))∧(i64.wrap (i+1)).toNat<l.length),true),(byR l (i64.wrap (i+1))==45,false),(decide (0≤(i64.wrap (i+1))∧(i64.wrap (i+1)).toNat<l.length),true),(decide ((i64.wrap (i+1))<(l.length:Nat)),true),(byR l (i64.wrap (i+1))==45,false),(decide (0≤(i64.wrap (i+1))∧(i64.wrap (i+1)).toNat<l.length),true),(decide ((i64.wrap (i+1))<(l.length:Nat)),true),(byR l i !=112,false),(decide (0≤i∧i.toNat<l.length),true),(b==16,true),(b==10,false),(i==(l.length:Nat),false),((⟨⟨D⟩⟩:ByteArray)==⟨⟨[]⟩⟩,false)]:=by and_intros<;>kernel_rfl
theorem Z2P (l:List UInt8) (b i q:Int) (D:List UInt8) (k P:Int) (g:Nat→Value):Zg (evL (Zk prog Zf ZG true) 100 [sP f20 4,sP f20 5,sP f20 6,sP f20 7,sP f20 8,sP f20 9,sP f20 10] (ZcK l b i q++tl 140 g,scM b D k P,[sam false,cmp false,cmp false,cmp true,cmp false,cmp true,cmp false,cmp true,cmp false,cmp true,cmp false]) ⟨[],[],[]⟩) 10 139 none (ZgV l b (i64.wrap ((i64.wrap (i+1))+1)) q false) (scM b D k P) [((i64.wrap ((i64.wrap (i+1))+1))==(l.length:Nat),false),(byR l (i64.wrap (i+1))==43,true),(decide (0≤(i64.wrap (i+1))∧(i64.wrap (i+1)).toNat<l.length),true),(byR l (i64.wrap (i+1))==45,false),(decide (0≤(i64.wrap (i+1))∧(i64.wrap (i+1)).toNat<l.length),true),(decide ((i64.wrap (i+1))<(l.length:Nat)),true),(byR l (i64.wrap (i+1))==45,false),(decide (0≤(i64.wrap (i+1))∧(i64.wrap (i+1)).toNat<l.length),true),(decide ((i64.wrap (i+1))<(l.length:Nat)),true),(byR l i !=112,false),(decide (0≤i∧i.toNat<l.length),true),(b==16,true),(b==10,false),(i==(l.length:Nat),false),((⟨⟨D⟩⟩:ByteArray)==⟨⟨[]⟩⟩,false)]:=by and_intros<;>kernel_rfl
theorem Z2Q (l:List UInt8) (b i q:Int) (D:List UInt8) (k P:Int) (g:Nat→Value):Zg (evL (Zk prog Zf ZG true) 100 [sP f20 4,sP f20 5,sP f20 6,sP f20 7,sP f20 8,sP f20 9,sP f20 10] (ZcK l b i q++tl 140 g,scM b D k P,[sam false,cmp false,cmp false,cmp true,cmp false,cmp true,cmp false,cmp true,cmp false,cmp false,cmp false]) ⟨[],[],[]⟩) 10 139 none (ZgV l b (i64.wrap (i+1)) q false) (scM b D k P) [((i64.wrap (i+1))==(l.length:Nat),false),(byR l (i64.wrap (i+1))==43,false),(decide (0≤(i64.wrap (i+1))∧(i64.wrap (i+1)).toNat<l.length),true),(byR l (i64.wrap (i+1))==45,false),(decide (0≤(i64.wrap (i+1))∧(i64.wrap (i+1)).toNat<l.length),true),(decide ((i64.wrap (i+1))<(l.length:Nat)),true),(byR l (i64.wrap (i+1))==45,false),(decide (0≤(i64.wrap (i+1))∧(i64.wrap (i+1)).toNat<l.length),true),(decide ((i64.wrap (i+1))<(l.length:Nat)),true),(byR l i !=112,false),(decide (0≤i∧i.toNat<l.length),true),(b==16,true),(b==10,false),(i==(l.length:Nat),false),((⟨⟨D⟩⟩:ByteArray)==⟨⟨[]⟩⟩,false)]:=by and_intros<;>kernel_rfl
theorem Z9X (l:List UInt8) (b i q:Int) (mn:Bool) (D:List UInt8) (k P:Int) (g:Nat→Value):Zg (evC (Zk prog Zf ZG true) 100 false (Zzh f20) (ZgV l b i q mn++tl 139 g,scM b D k P,[cmp false]) ⟨[],[],[]⟩) 10 139 (some (some 2)) (ZgV l b i q mn) (scM b D k P) [(decide (i<(l.length:Nat)),false)]:=by and_intros<;>kernel_rfl
theorem Z9Y (l:List UInt8) (b i q:Int) (mn:Bool) (D:List UInt8) (k P:Int) (g:Nat→Value):Zg (evC (Zk prog Zf ZG true) 100 false (Zzh f20) (ZgV l b i q mn++tl 139 g,scM b D k P,[cmp true,cmp true]) ⟨[],[],[]⟩) 6 143 (some none) [bR l,.int .i64 b,undef,undef,pO 0,.bool false] ⟨2,[ZcJ b D k P,ZcJ b D k P]⟩ [(decide (ZO (byR l i) 10<0),true),(true,true),(decide (0≤i∧i.toNat<l.length),true),(decide (i<(l.length:Nat)),true)]:=by and_intros<;>kernel_rfl
theorem Z9Z (l:List UInt8) (b i q:Int) (mn:Bool) (D:List UInt8) (k P:Int) (g:Nat→Value):Zg (evC (Zk prog Zf ZG true) 100 false (Zzh f20) (ZgV l b i q mn++tl 139 g,scM b D k P,[cmp true,cmp false]) ⟨[],[],[]⟩) 10 139 none (ZgV l b (i64.wrap (i+1)) q mn) (scM b D k (if 2000000<(i64.wrap (i64.wrap (10*P)+ZO (byR l i) 10)) then 2000000 else (i64.wrap (i64.wrap (10*P)+ZO (byR l i) 10)))) [(true,true),(true,true),(decide (0≤i∧i.toNat<l.length),true),(decide (ZO (byR l i) 10<0),false),(true,true),(decide (0≤i∧i.toNat<l.length),true),(decide (i<(l.length:Nat)),true)]:=by and_intros<;>kernel_rfl
theorem ZAa (l:List UInt8) (b i q:Int) (D:List UInt8) (k P:Int) (g:Nat→Value):Zg (evC (Zk prog Zf ZG true) 100 false (sK f20 12) (ZgV l b i q true++tl 139 g,scM b D k P,[]) ⟨[],[],[]⟩) 6 143 (some none) [bR l,.int .i64 b,undef,undef,pO 0,.bool true] ⟨2,[ZcJ b D k (i64.wrap (0-P)),ZcJ b D k (i64.wrap (0-P))]⟩ []:=by and_intros<;>kernel_rfl
theorem ZAb (l:List UInt8) (b i q:Int) (D:List UInt8) (k P:Int) (g:Nat→Value):Zg (evC (Zk prog Zf ZG true) 100 false (sK f20 12) (ZgV l b i q false++tl 139 g,scM b D k P,[]) ⟨[],[],[]⟩) 6 143 (some none) [bR l,.int .i64 b,undef,undef,pO 0,.bool true] ⟨2,[ZcJ b D k P,ZcJ b D k P]⟩ []:=by and_intros<;>kernel_rfl
end Go.Proofs.YtjlponbdflkbjaaGreatDoor
namespace Go.Proofs.YtjlponbdflkbjaaGreatDoor
open Go.Proofs.Tryz
open Go.IntKind
open Go.KRun Go.Nt Go.Rd
set_option maxRecDepth 100000
def q1R (p:Bool):Int:=if p=true then 1 else 0
def scS (b:Int) (l:List UInt8) (i:Nat) (y:Lf):Prop:=∃ (p:Bool) (D:List UInt8) (k:Nat) (g:Nat→Value),i≤l.length∧D.length≤i∧k≤i∧sc1 b false l=(D++(sc1 b p (l.drop i)).1,k+(sc1 b p (l.drop i)).2.1,(sc1 b p (l.drop i)).2.2)∧y.1=ZcK l b i (q1R p)++tl 140 g∧y.2.1=scM b D k 0
def scO (b:Int) (l:List UInt8) (y:Lf):Prop:=∃ (i:Nat) (p:Bool) (D:List UInt8) (k:Nat) (g:Nat→Value),i≤l.length∧D.length≤i∧k≤i∧sc1 b false l=(D,k,l.drop i)∧y.1=ZcK l b i (q1R p)++tl 140 g∧y.2.1=scM b D k 0
theorem ZrU {b:Int}{l:List UInt8}(hb:b=10∨b=16) (h2:l.length≤100000) (r:Nat) (y:Lf) (h:∃ i,r=l.length-i∧scS b l i y):
  Runs (Zk prog Zf ZG true) (Zt9 f20) y fun e z=>match e with | none=>∃ r',r'<r∧∃ i,r'=l.length-i∧scS b l i z | some none=>False | some (some id')=>id'=0∧scO b l z:=by
 have hT:=Zj Zcb;obtain⟨i,hr,p,D,k,g,hi,hD,hk,hS,ht,hh⟩:=h;obtain⟨t,h',sc⟩:=y;simp only at ht hh;subst ht hh;by_cases hc:i<l.length
 ·have lA:decide (((i:Nat):Int)<(l.length:Nat))=true:=Xa (by omega);have lI:decide ((0:Int)≤(i:Nat)∧((i:Nat):Int).toNat<l.length)=true:=Xa ⟨by omega,by rw[Xg];exact hc⟩;have lB:decide (b=10∨b=16)=true:=Xa hb;have ew:=wN (n:=i) (by omega);have ed:=Zbr hc;have eC:lq8 (l.getD i 0)=byR l (i:Nat):=by unfold lq8 byR;rw[Xg]
  by_cases h46:byR l (i:Nat)=46
  ·have c46:(byR l (i:Nat)==46)=true:=zv h46;cases p with
   | false=>
    have hg:=Z9T l b (i:Nat) (q1R false) D k 0 g;rw[ew] at hg;refine (Zb (s0:=sc) hT hg (Za c46 (Za lI (Za (by decide) (Za c46 (Za lI (Z4 lA))))))).mono fun e z he=> ?_;obtain⟨rfl,⟨g',z1⟩,z2⟩:=he;have es:sc1 b false (l.drop i)=sc1 b true (l.drop (i+1)):=by
     rw[ed];unfold sc1;rw[eC,if_pos ⟨h46,rfl⟩];exact sc1.eq_def b true _ ▸ rfl
    rw[es] at hS;exact⟨l.length-(i+1),by omega,i+1,rfl,true,D,k,g',by omega,by omega,by omega,hS,z1,z2⟩
   | true=>
    have hn:ZO (byR l (i:Nat)) b= -1:=by
     rw[h46];unfold ZO;rw[if_neg (by omega),if_neg (by omega)]
    refine (Zb (s0:=sc) hT (Z7R l b (i:Nat) (q1R true) D k 0 g) (Za (Xb (by rw[hn];decide)) (Za lB (Za lI (Za (by decide) (Za c46 (Za lI (Z4 lA)))))))).mono fun e z he=> ?_;obtain⟨rfl,⟨g',z1⟩,z2⟩:=he;have es:sc1 b true (l.drop i)=([],0,l.drop i):=by
     rw[ed,sc1,eC,if_neg (fun h=>by cases h.2),if_neg (by rw[hn];decide)]
    rw[es] at hS;simp only[List.append_nil,Nat.add_zero] at hS;exact⟨rfl,i,true,D,k,g',hi,hD,hk,hS,z1,z2⟩
  ·have c46:(byR l (i:Nat)==46)=false:=zw h46;by_cases hd:0≤ZO (byR l (i:Nat)) b
   ·have hg:=Z9U l b (i:Nat) (q1R p) D k 0 g;rw[ew] at hg;have ep:(l.drop ((i:Nat):Int).toNat).take (((i+1:Nat):Int).toNat-((i:Nat):Int).toNat)=[l.getD i 0]:=by
     rw[Xg,Xg,show i+1-i=1 by omega,ed];rfl
    rw[ep] at hg;have ek:i64.wrap (((k:Nat):Int)+q1R p)=((k+(if p=true then 1 else 0):Nat):Int):=by
     unfold q1R;rw[Zw (by split<;>omega) (by split<;>omega)];split<;>omega
    rw[ek] at hg;refine (Zb (s0:=sc) hT hg (Za (Xa (by rw[List.length_singleton];omega)) (Za (Xa ⟨by omega,by omega,by omega⟩) (Za c46 (Za lI (Za (Xa hd) (Za lB (Za lI (Za c46 (Za lI (Z4 lA))))))))))).mono fun e z he=> ?_;obtain⟨rfl,⟨g',z1⟩,z2⟩:=he;have es:sc1 b p (l.drop i)=(l.getD i 0::(sc1 b p (l.drop (i+1))).1,(if p=true then 1 else 0)+(sc1 b p (l.drop (i+1))).2.1,(sc1 b p (l.drop (i+1))).2.2):=by
     rw[ed,sc1,eC,if_neg (fun h=>h46 h.1),if_pos hd]
    rw[es] at hS;refine⟨l.length-(i+1),by omega,i+1,rfl,p,D++[l.getD i 0],k+(if p=true then 1 else 0),g',by omega,by rw[List.length_append,List.length_singleton];omega,by split<;>omega,?_,z1,z2⟩;rw[hS];simp only[List.append_assoc,List.singleton_append,Nat.add_assoc]
   ·have es:sc1 b p (l.drop i)=([],0,l.drop i):=by
     rw[ed,sc1,eC,if_neg (fun h=>h46 h.1),if_neg hd]
    refine (Zb (s0:=sc) hT (Z7Q l b (i:Nat) (q1R p) D k 0 g) (Za (Xb (by omega)) (Za lB (Za lI (Za c46 (Za lI (Z4 lA))))))).mono fun e z he=> ?_;obtain⟨rfl,⟨g',z1⟩,z2⟩:=he;rw[es] at hS;simp only[List.append_nil,Nat.add_zero] at hS;exact⟨rfl,i,p,D,k,g',hi,hD,hk,hS,z1,z2⟩
 ·have es:l.drop i=[]:=List.drop_eq_nil_of_le (by omega);refine (Zb (s0:=sc) hT (Z9S l b (i:Nat) (q1R p) D k 0 g) (Z4 (Xb (by omega)))).mono fun e z he=> ?_;obtain⟨rfl,⟨g',z1⟩,z2⟩:=he;refine⟨rfl,i,p,D,k,g',hi,hD,hk,?_,z1,z2⟩;rw[hS,es,sc1];simp only[List.append_nil,Nat.add_zero]
def scW (b:Int) (D:List UInt8) (k:Nat) (P:Int) (v:Bool):Value:= .tuple #[.agg #[.bool false,.int .i64 b,bR D,.int .i64 k,.int .i64 P],.bool v]
def scZ (b:Int) (D:List UInt8) (k:Nat) (P:Int) (v:Bool) (e:Ex) (z:Lf):Prop:=(e=none∨e=some none)∧ZV prog f20 z.1 z.2.1=some (scW b D k P v)
theorem Zbf {l:List UInt8}{b:Int}{D:List UInt8}{k:Nat}{P:Int}{v:Bool}{e:Ex}{z:Lf}(h:e=some none∧(∃ g,z.1=[bR l,.int .i64 b,undef,undef,pO 0,.bool v]++tl 143 g)∧z.2.1=⟨2,[ZcJ b D k P,ZcJ b D k P]⟩):scZ b D k P v e z:=by
 obtain⟨rfl,⟨g,z1⟩,z2⟩:=h;exact⟨.inr rfl,by rw[z1,z2];rfl⟩
def pwJ (b q:Int) (mn:Bool) (l:List UInt8) (D:List UInt8) (k:Nat) (X:Nat×Bool) (i:Nat) (y:Lf):Prop:=∃ (a:Nat) (g:Nat→Value),i≤l.length∧a≤2000000∧X=pw1 a (l.drop i)∧y.1=ZgV l b i q mn++tl 139 g∧y.2.1=scM b D k a
def pwO (b q:Int) (mn:Bool) (l:List UInt8) (D:List UInt8) (k:Nat) (X:Nat×Bool) (y:Lf):Prop:=∃ (a i:Nat) (g:Nat→Value),a≤2000000∧X=(a,true)∧y.1=ZgV l b i q mn++tl 139 g∧y.2.1=scM b D k a
def pwB (b:Int) (D:List UInt8) (k:Nat) (X:Nat×Bool) (y:Lf):Prop:=X.2=false∧scZ b D k (X.1:Nat) false (some none) y
theorem Zoc {b q:Int}{mn:Bool}{l D:List UInt8}{k:Nat}{X:Nat×Bool}(h2:l.length≤100000) (r:Nat) (y:Lf) (h:∃ i,r=l.length-i∧pwJ b q mn l D k X i y):
  Runs (Zk prog Zf ZG true) (Zzh f20) y fun e z=>match e with | none=>∃ r',r'<r∧∃ i,r'=l.length-i∧pwJ b q mn l D k X i z | some none=>pwB b D k X z | some (some id')=>id'=2∧pwO b q mn l D k X z:=by
 have hT:=Zj Zcb;obtain⟨i,hr,a,g,hi,ha,hX,ht,hh⟩:=h;obtain⟨t,h',sc⟩:=y;simp only at ht hh;subst ht hh;by_cases hc:i<l.length
 ·have lA:decide (((i:Nat):Int)<(l.length:Nat))=true:=Xa (by omega);have lI:decide ((0:Int)≤(i:Nat)∧((i:Nat):Int).toNat<l.length)=true:=Xa ⟨by omega,by rw[Xg];exact hc⟩;have ew:=wN (n:=i) (by omega);have ed:=Zbr hc;have eC:lq8 (l.getD i 0)=byR l (i:Nat):=by unfold lq8 byR;rw[Xg]
  have bD:=ZfL (byR l (i:Nat)) 10;by_cases hd:0≤ZO (byR l (i:Nat)) 10
  ·have hg:=Z9Z l b (i:Nat) q mn D k a g;have ev:i64.wrap (i64.wrap (10*((a:Nat):Int))+ZO (byR l (i:Nat)) 10)=10*((a:Nat):Int)+ZO (byR l (i:Nat)) 10:=by
    rw[Zw (n:=10*((a:Nat):Int)) (by omega) (by omega),Zw (by omega) (by omega)]
   have em:(if 2000000<10*((a:Nat):Int)+ZO (byR l (i:Nat)) 10 then 2000000 else 10*((a:Nat):Int)+ZO (byR l (i:Nat)) 10)=((min (10*a+(ZO (byR l (i:Nat)) 10).toNat) 2000000:Nat):Int):=by split<;>omega
   rw[ev,em,ew] at hg;refine (Zb (s0:=sc) hT hg (Za rfl (Za rfl (Za lI (Za (Xb (by omega)) (Za rfl (Za lI (Z4 lA)))))))).mono fun e z he=> ?_;obtain⟨rfl,⟨g',z1⟩,z2⟩:=he;refine⟨l.length-(i+1),by omega,i+1,rfl,_,g',by omega,by omega,?_,z1,z2⟩;rw[hX,ed,pw1,eC,if_pos hd]
  ·refine (Zb (s0:=sc) hT (Z9Y l b (i:Nat) q mn D k a g) (Za (Xa (by omega)) (Za rfl (Za lI (Z4 lA))))).mono fun e z he=> ?_;have hx:X=(a,false):=by rw[hX,ed,pw1,eC,if_neg hd]
   have hz:=Zbf he;obtain⟨rfl,_⟩:=he;rw[hx];exact⟨rfl,hz⟩
 ·have es:l.drop i=[]:=List.drop_eq_nil_of_le (by omega);refine (Zb (s0:=sc) hT (Z9X l b (i:Nat) q mn D k a g) (Z4 (Xb (by omega)))).mono fun e z he=> ?_;obtain⟨rfl,⟨g',z1⟩,z2⟩:=he;exact⟨rfl,a,i,g',ha,by rw[hX,es];rfl,z1,z2⟩
theorem Zfe {b q:Int}{mn:Bool}{l D:List UInt8}{k j:Nat}(h2:l.length≤100000) (hj:j≤l.length) (g:Nat→Value) (s:List Dec):
  Runs (Zk prog Zf ZG true) (.seq (.block 2 (.loop (Zzh f20))) (sK f20 12)) (ZgV l b j q mn++tl 139 g,scM b D k 0,s) (scZ b D k (if (pw1 0 (l.drop j)).2=false then ((pw1 0 (l.drop j)).1:Nat) else if mn=true then -((pw1 0 (l.drop j)).1:Nat) else ((pw1 0 (l.drop j)).1:Nat)) (pw1 0 (l.drop j)).2):=by
 have hT:=Zj Zcb;obtain⟨X,hX⟩:∃ X,X=pw1 0 (l.drop j):=⟨_,rfl⟩;rw[← hX];refine Runs.seq (P1:=fun e y=>match e with | none=>pwO b q mn l D k X y | some none=>pwB b D k X y | some (some _)=>False) (Runs.forLoop (R:=pwB b D k X) (P:=pwO b q mn l D k X) (fun r y=>∃ i,r=l.length-i∧pwJ b q mn l D k X i y) (Zoc h2) (n:=l.length-j) ⟨j,rfl,0,g,hj,by omega,hX,rfl,rfl⟩) ?_ ?_
 ·rintro⟨t,hh,sc⟩ ⟨a,i,g',ha,hx,e1,e2⟩;simp only at e1 e2;subst e1 e2;rw[hx];dsimp only;cases mn with
  | true=>
   have hg:=ZAa l b (i:Nat) q D k a g';rw[Zw (n:=0-((a:Nat):Int)) (by omega) (by omega),show (0:Int)-((a:Nat):Int)= -((a:Nat):Int) by omega] at hg;refine (Zb (s0:=sc) hT hg ZaI).mono fun e z he=> ?_;have hz:=Zbf he;rw[if_neg (by decide),if_pos rfl];exact hz
  | false=>
   refine (Zb (s0:=sc) hT (ZAb l b (i:Nat) q D k a g') ZaI).mono fun e z he=> ?_;have hz:=Zbf he;rw[if_neg (by decide),if_neg (by decide)];exact hz
 ·rintro e ⟨t,hh,sc⟩ hc
  match e,hc with
  | none,hc=>
   obtain⟨h3,h4⟩:=hc;rw[if_pos h3,h3];exact h4
theorem Zff {b:Int}{D:List UInt8}{k:Nat}{X:Nat×Bool}{mn:Bool}{e:Ex}{z:Lf}(h:scZ b D k (if X.2=false then (X.1:Nat) else if mn=true then -(X.1:Nat) else (X.1:Nat)) X.2 e z):scZ b D k (if X.2=false then ((X.1:Nat),false) else (if mn=true then -(X.1:Nat) else (X.1:Nat),true):Int×Bool).1 (if X.2=false then ((X.1:Nat),false) else (if mn=true then -(X.1:Nat) else (X.1:Nat),true):Int×Bool).2 e z:=by
 cases h2:X.2 with
 | true=>
  rw[h2,if_neg (by decide)] at h;rw[if_neg (by decide)];exact h
 | false=>
  rw[h2,if_pos rfl] at h;rw[if_pos rfl];exact h
theorem Zod {b:Int}{l:List UInt8}(hb:b=10∨b=16) (h2:l.length≤100000):Runs (Zk prog Zf ZG true) (ZW [sP f20 0,sP f20 1,sP f20 2] (.seq (.block 0 (.loop (Zt9 f20))) (sK f20 4))) ([bR l,.int .i64 b]++List.replicate 147 undef,⟨0,[]⟩,[]) (scZ b (sc1 b false l).1 (sc1 b false l).2.1 (scA b l).1 (scA b l).2):=by
 have hT:=Zj Zcb;refine Zv hT (Z2G l b) ZaI fun g=> ?_;refine Runs.seq (P1:=fun e y=>match e with | none=>scO b l y | some none=>False | some (some _)=>False) (Runs.forLoop (R:=fun _=>False) (P:=scO b l) (fun r y=>∃ i,r=l.length-i∧scS b l i y) (ZrU hb h2) (n:=l.length) ⟨0,by omega,false,[],0,g,by omega,by exact Nat.le_refl _,by omega,by simp,rfl,rfl⟩) ?_ (fun e y he=>by match e,he with | none,he=>exact he.elim | some _,he=>exact he.elim);rintro⟨t,hh,sc⟩ ⟨i,p,D,k,g',hi,hD,hk,hS,e1,e2⟩;simp only at e1 e2;subst e1 e2;have eA:scA b l=if D=[] then (0,false) else scE b (l.drop i):=by unfold scA;rw[hS]
 rw[eA,hS];dsimp only;by_cases hN:D=[]
 ·rw[if_pos hN];exact (Zb (s0:=sc) hT (Z9V l b (i:Nat) (q1R p) D k 0 g') (Z4 (by rw[ZcI];exact Xa hN))).mono fun e z he=>Zbf he
 have eN:((⟨⟨D⟩⟩:ByteArray)==⟨⟨[]⟩⟩)=false:=by rw[ZcI];exact Xb hN
 rw[if_neg hN];by_cases hc:¬ i<l.length
 ·have es:l.drop i=[]:=List.drop_eq_nil_of_le (by omega);rw[es];unfold scE;dsimp only;exact (Zb (s0:=sc) hT (Z9W l b (i:Nat) (q1R p) D k 0 g' (decide (b=10))) (Za (by by_cases h:b=10<;>simp [h]) (Za (zv (by omega)) (Z4 eN)))).mono fun e z he=>Zbf he
 have hc:i<l.length:=by omega
 have lQ:(((i:Nat):Int)==(l.length:Nat))=false:=zw (by omega);have lI:decide ((0:Int)≤(i:Nat)∧((i:Nat):Int).toNat<l.length)=true:=Xa ⟨by omega,by rw[Xg];exact hc⟩;have ed:=Zbr hc;have eC:lq8 (l.getD i 0)=byR l (i:Nat):=by unfold lq8 byR;rw[Xg]
 rw[ed];unfold scE;dsimp only;rw[eC];have ew:=wN (n:=i) (by omega);rcases hb with hb | hb
 ·skip
  by_cases hm:byR l (i:Nat)≠101
  ·rw[if_pos (.inl ⟨hb,hm⟩)];exact (Zb (s0:=sc) hT (Z7S l b (i:Nat) (q1R p) D k 0 g') (Za (Ztr hm) (Za lI (Za (zv hb) (Za lQ (Z4 eN)))))).mono fun e z he=>Zbf he
  have hm:byR l (i:Nat)=101:=Decidable.of_not_not hm;rw[if_neg (by omega)];have lg:=(Za (zw (show b≠16 by omega)) (Za (Zts hm) (Za lI (Za (zv hb) (Za lQ (Z4 eN))))));by_cases hc1:¬ i+1<l.length
  ·have es:l.drop (i+1)=[]:=List.drop_eq_nil_of_le (by omega);rw[es,if_pos (show (sgT []).2=[] from rfl)];have hg:=Z7U l b (i:Nat) (q1R p) D k 0 g';rw[ew] at hg;exact (Zb (s0:=sc) hT hg (Za (zv (by omega)) (Za (Xb (by omega)) (Za (Xb (by omega)) lg)))).mono fun e z he=>Zbf he
  have hc1:i+1<l.length:=by omega
  have lA1:decide (((i+1:Nat):Int)<(l.length:Nat))=true:=Xa (by omega);have lI1:decide ((0:Int)≤((i+1:Nat):Int)∧((i+1:Nat):Int).toNat<l.length)=true:=Xa ⟨by omega,by rw[Xg];exact hc1⟩;have ed1:=Zbr hc1;have eC1:lq8 (l.getD (i+1) 0)=byR l ((i+1:Nat):Int):=by unfold lq8 byR;rw[Xg]
  have ew1:=wN (n:=i+1) (by omega);rw[Zbe];by_cases h45:byR l ((i+1:Nat):Int)=45
  ·have esg:sgT (l.drop (i+1))=(true,l.drop (i+1+1)):=by rw[ed1];unfold sgT;dsimp only;rw[eC1,if_pos h45]
   rw[esg];dsimp only;have lm:=Za (zv h45) (Za lI1 (Za lA1 (Za (zv h45) (Za lI1 (Za lA1 lg)))));by_cases hc2:l.drop (i+1+1)=[]
   ·rw[if_pos hc2,← Zbe];have hl2:l.length≤i+1+1:=List.drop_eq_nil_iff.1 hc2;have hg:=Z2H l b (i:Nat) (q1R p) D k 0 g';rw[ew,ew1] at hg;exact (Zb (s0:=sc) hT hg (Za (zv (by omega)) lm)).mono fun e z he=>Zbf he
   ·rw[if_neg hc2];have hl2:¬ l.length≤i+1+1:=fun h=>hc2 (List.drop_eq_nil_iff.2 h);have hg:=Z2I l b (i:Nat) (q1R p) D k 0 g';rw[ew,ew1] at hg;refine Zv hT hg (Za (zw (by omega)) lm) fun g2=> ?_;refine (Zfe (b:=b) (q:=q1R p) (mn:=true) (l:=l) (D:=D) (k:=k) (j:=i+1+1) h2 (by omega) g2 _).mono fun e z hz=> ?_;exact Zff hz
  by_cases h43:byR l ((i+1:Nat):Int)=43
  ·have esg:sgT (l.drop (i+1))=(false,l.drop (i+1+1)):=by rw[ed1];unfold sgT;dsimp only;rw[eC1,if_neg h45,if_pos h43]
   rw[esg];dsimp only;have lm:=Za (zv h43) (Za lI1 (Za (zw h45) (Za lI1 (Za lA1 (Za (zw h45) (Za lI1 (Za lA1 lg)))))));by_cases hc2:l.drop (i+1+1)=[]
   ·rw[if_pos hc2,← Zbe];have hl2:l.length≤i+1+1:=List.drop_eq_nil_iff.1 hc2;have hg:=Z2J l b (i:Nat) (q1R p) D k 0 g';rw[ew,ew1] at hg;exact (Zb (s0:=sc) hT hg (Za (zv (by omega)) lm)).mono fun e z he=>Zbf he
   ·rw[if_neg hc2];have hl2:¬ l.length≤i+1+1:=fun h=>hc2 (List.drop_eq_nil_iff.2 h);have hg:=Z2K l b (i:Nat) (q1R p) D k 0 g';rw[ew,ew1] at hg;refine Zv hT hg (Za (zw (by omega)) lm) fun g2=> ?_;refine (Zfe (b:=b) (q:=q1R p) (mn:=false) (l:=l) (D:=D) (k:=k) (j:=i+1+1) h2 (by omega) g2 _).mono fun e z hz=> ?_;exact Zff hz
  ·have esg:sgT (l.drop (i+1))=(false,l.drop (i+1)):=by rw[ed1];unfold sgT;dsimp only;rw[eC1,if_neg h45,if_neg h43]
   rw[esg];dsimp only;have lm:=Za (zw h43) (Za lI1 (Za (zw h45) (Za lI1 (Za lA1 (Za (zw h45) (Za lI1 (Za lA1 lg)))))));rw[if_neg (fun h=>by have:=List.drop_eq_nil_iff.1 h;omega)];have hg:=Z2L l b (i:Nat) (q1R p) D k 0 g';rw[ew] at hg;refine Zv hT hg (Za (zw (by omega)) lm) fun g2=> ?_;refine (Zfe (b:=b) (q:=q1R p) (mn:=false) (l:=l) (D:=D) (k:=k) (j:=i+1) h2 (by omega) g2 _).mono fun e z hz=> ?_;exact Zff hz
 ·skip
  by_cases hm:byR l (i:Nat)≠112
  ·rw[if_pos (.inr ⟨hb,hm⟩)];exact (Zb (s0:=sc) hT (Z7T l b (i:Nat) (q1R p) D k 0 g') (Za (Ztr hm) (Za lI (Za (zv hb) (Za (zw (by omega)) (Za lQ (Z4 eN))))))).mono fun e z he=>Zbf he
  have hm:byR l (i:Nat)=112:=Decidable.of_not_not hm;rw[if_neg (by omega)];have lg:=(Za (Zts hm) (Za lI (Za (zv hb) (Za (zw (show b≠10 by omega)) (Za lQ (Z4 eN))))));by_cases hc1:¬ i+1<l.length
  ·have es:l.drop (i+1)=[]:=List.drop_eq_nil_of_le (by omega);rw[es,if_pos (show (sgT []).2=[] from rfl)];have hg:=Z7V l b (i:Nat) (q1R p) D k 0 g';rw[ew] at hg;exact (Zb (s0:=sc) hT hg (Za (zv (by omega)) (Za (Xb (by omega)) (Za (Xb (by omega)) lg)))).mono fun e z he=>Zbf he
  have hc1:i+1<l.length:=by omega
  have lA1:decide (((i+1:Nat):Int)<(l.length:Nat))=true:=Xa (by omega);have lI1:decide ((0:Int)≤((i+1:Nat):Int)∧((i+1:Nat):Int).toNat<l.length)=true:=Xa ⟨by omega,by rw[Xg];exact hc1⟩;have ed1:=Zbr hc1;have eC1:lq8 (l.getD (i+1) 0)=byR l ((i+1:Nat):Int):=by unfold lq8 byR;rw[Xg]
  have ew1:=wN (n:=i+1) (by omega);rw[Zbe];by_cases h45:byR l ((i+1:Nat):Int)=45
  ·have esg:sgT (l.drop (i+1))=(true,l.drop (i+1+1)):=by rw[ed1];unfold sgT;dsimp only;rw[eC1,if_pos h45]
   rw[esg];dsimp only;have lm:=Za (zv h45) (Za lI1 (Za lA1 (Za (zv h45) (Za lI1 (Za lA1 lg)))));by_cases hc2:l.drop (i+1+1)=[]
   ·rw[if_pos hc2,← Zbe];have hl2:l.length≤i+1+1:=List.drop_eq_nil_iff.1 hc2;have hg:=Z2M l b (i:Nat) (q1R p) D k 0 g';rw[ew,ew1] at hg;exact (Zb (s0:=sc) hT hg (Za (zv (by omega)) lm)).mono fun e z he=>Zbf he
   ·rw[if_neg hc2];have hl2:¬ l.length≤i+1+1:=fun h=>hc2 (List.drop_eq_nil_iff.2 h);have hg:=Z2N l b (i:Nat) (q1R p) D k 0 g';rw[ew,ew1] at hg;refine Zv hT hg (Za (zw (by omega)) lm) fun g2=> ?_;refine (Zfe (b:=b) (q:=q1R p) (mn:=true) (l:=l) (D:=D) (k:=k) (j:=i+1+1) h2 (by omega) g2 _).mono fun e z hz=> ?_;exact Zff hz
  by_cases h43:byR l ((i+1:Nat):Int)=43
  ·have esg:sgT (l.drop (i+1))=(false,l.drop (i+1+1)):=by rw[ed1];unfold sgT;dsimp only;rw[eC1,if_neg h45,if_pos h43]
   rw[esg];dsimp only;have lm:=Za (zv h43) (Za lI1 (Za (zw h45) (Za lI1 (Za lA1 (Za (zw h45) (Za lI1 (Za lA1 lg)))))));by_cases hc2:l.drop (i+1+1)=[]
   ·rw[if_pos hc2,← Zbe];have hl2:l.length≤i+1+1:=List.drop_eq_nil_iff.1 hc2;have hg:=Z2O l b (i:Nat) (q1R p) D k 0 g';rw[ew,ew1] at hg;exact (Zb (s0:=sc) hT hg (Za (zv (by omega)) lm)).mono fun e z he=>Zbf he
   ·rw[if_neg hc2];have hl2:¬ l.length≤i+1+1:=fun h=>hc2 (List.drop_eq_nil_iff.2 h);have hg:=Z2P l b (i:Nat) (q1R p) D k 0 g';rw[ew,ew1] at hg;refine Zv hT hg (Za (zw (by omega)) lm) fun g2=> ?_;refine (Zfe (b:=b) (q:=q1R p) (mn:=false) (l:=l) (D:=D) (k:=k) (j:=i+1+1) h2 (by omega) g2 _).mono fun e z hz=> ?_;exact Zff hz
  ·have esg:sgT (l.drop (i+1))=(false,l.drop (i+1)):=by rw[ed1];unfold sgT;dsimp only;rw[eC1,if_neg h45,if_neg h43]
   rw[esg];dsimp only;have lm:=Za (zw h43) (Za lI1 (Za (zw h45) (Za lI1 (Za lA1 (Za (zw h45) (Za lI1 (Za lA1 lg)))))));rw[if_neg (fun h=>by have:=List.drop_eq_nil_iff.1 h;omega)];have hg:=Z2Q l b (i:Nat) (q1R p) D k 0 g';rw[ew] at hg;refine Zv hT hg (Za (zw (by omega)) lm) fun g2=> ?_;refine (Zfe (b:=b) (q:=q1R p) (mn:=false) (l:=l) (D:=D) (k:=k) (j:=i+1) h2 (by omega) g2 _).mono fun e z hz=> ?_;exact Zff hz
theorem Zki (l:List UInt8) (b:Int) (hb:b=10∨b=16) (h2:l.length≤100000) (w:World):Calls prog 20 #[bR l,.int .i64 b] w fun r w'=>r= .returned (scW b (sc1 b false l).1 (sc1 b false l).2.1 (scA b l).1 (scA b l).2)∧Zal w w':=
 ZJ (T:=(Zk prog Zf ZG true)) func20 Zob (by rfl) (by rfl) (Zod hb h2) w
def Z7W:Ans:=fun vals s=>
 match vals,s with
 | [.string ⟨⟨l⟩⟩,.int .i64 b],.inr (.inr (.inr (.inl d)))::s'=>some (scW b (sc1 b false l).1 (sc1 b false l).2.1 (scA b l).1 d,s',[((scA b l).2,d),(decide ((b=10∨b=16)∧l.length≤100000),true)])
 | _,_=>none
theorem ZxL:ZR 20 Z7W:=by
 intro vals s v s' lg h hl w;unfold Z7W at h;split at h
 ·rename_i l b d s2;cases h;rw[ZcQ,ZcQ] at hl;obtain⟨l1,l2,_⟩:=hl;obtain⟨q1,q2⟩:=Xc l2;have l1:(scA b l).2=d:=l1;rw[← l1];exact Zki l b q1 q2 w
 ·cases h
end Go.Proofs.YtjlponbdflkbjaaGreatDoor
namespace Go.Proofs.YtjlponbdflkbjaaGreatDoor
open Go.Proofs.Tryz
open Go.IntKind
open Go.KRun Go.Nt
set_option maxRecDepth 100000
def f4 (n:Int):List Int:=[u32.wrap (n.tmod 65536),u32.wrap ((u64.wrap (n.tdiv 65536)).tmod 65536),u32.wrap ((u64.wrap (n.tdiv 4294967296)).tmod 65536),u32.wrap (u64.wrap (n.tdiv 281474976710656))]
theorem ZrV:f48.body=some (Zs f48):=by kernel_rfl
theorem Z2R (n:Int):Zg (evC (Zr prog Zf Zn hcV) 100 false (Zs f48) ([.int .u64 n]++List.replicate 18 undef,⟨0,[]⟩,[cmp true,cmp true,cmp true]) ⟨[],[],[]⟩) 3 16 (some none) [.int .u64 n,undef,sl 0 0 (Zl (Zx (wU (f4 n)) 0 4)) (Zl (Zx (wU (f4 n)) 0 4))] ⟨1,[(wU (f4 n),tU)]⟩ [(Zbm tU (wU (f4 n)) 0 4 4,true),(decide ((65536:Int)=0),false),(decide ((65536:Int)=0),false),(decide ((65536:Int)=0),false)]:=by and_intros<;>kernel_rfl
theorem Zfg {n:Int}(h0:0≤n) (h1:n<18446744073709551616):u64.wrap n=n:=by simp [IntKind.wrap,IntKind.bits,IntKind.signed];omega
theorem Z2S {n:Int}(h0:0≤n) (h1:n<18446744073709551616):f4 n=[n % 65536,n/65536 % 65536,n/4294967296 % 65536,n/281474976710656]:=by
 unfold f4;rw[Int.tmod_eq_emod_of_nonneg h0,Int.tdiv_eq_ediv_of_nonneg h0,Int.tdiv_eq_ediv_of_nonneg h0,Int.tdiv_eq_ediv_of_nonneg h0,Zfg (n:=n/65536) (by omega) (by omega),Zfg (n:=n/4294967296) (by omega) (by omega),Zfg (n:=n/281474976710656) (by omega) (by omega),Int.tmod_eq_emod_of_nonneg (by omega),Int.tmod_eq_emod_of_nonneg (by omega),zk (n:=n % 65536) (by omega) (by omega),zk (n:=n/65536 % 65536) (by omega) (by omega),zk (n:=n/4294967296 % 65536) (by omega) (by omega),zk (by omega) (by omega)]
theorem Z7X {n:Int}(h0:0≤n) (h1:n<18446744073709551616):∀ x∈f4 n,Dg 65536 x:=by
 rw[Z2S h0 h1];intro x hx;simp only[List.mem_cons,List.not_mem_nil,or_false] at hx;rcases hx with rfl | rfl | rfl | rfl<;>exact⟨by omega,by omega⟩
theorem Z2T {n:Int}(h0:0≤n) (h1:n<18446744073709551616):vb 65536 (f4 n)=n.toNat:=by
 rw[Z2S h0 h1];simp only[vb];omega
def Z43:Zad:=fun vals h s=>
 match vals with
 | [.int .u64 n]=>Zde n.toNat h s [(decide (0≤n∧n<18446744073709551616),true)]
 | _=>none
theorem Zoe:Z8 48 Z43:=by
 intro vals h s v h' s' lg hg hl m B w E hv;unfold Z43 at hg;split at hg
 ·rename_i n;unfold Zde at hg;cases hg;have q:=Xc (hl _ Xf);have hd:=Z7X q.1 q.2;have hv4:=Z2T q.1 q.2;have hl4:(f4 n).length=4:=rfl;have ec:Zx (wU (f4 n)) 0 4=f4 n:=by
   have:=ZaO (f4 n);rw[hl4] at this;exact this
  have et:Zl (f4 n)=(d16 n.toNat).length:=by
   rw[Zat (by omega) hd,hv4];rfl
  have hrow:Zbm tU (wU (f4 n)) 0 4 4=true:=by
   have:=Zap (L:=f4 n) (fun x hx=>⟨(hd x hx).1,by have:=(hd x hx).2;omega⟩) (by rw[hl4];omega) (c:=4) (by rw[hl4];rfl);rw[hl4] at this;exact this
  have hr:Runs (Zr prog Zf Zn hcV) (Zs f48) ([.int .u64 n]++List.replicate 18 undef,⟨0,[]⟩,[]) fun e z=>(e=none∨e=some none)∧ZV prog f48 z.1 z.2.1=some (sl 0 0 (d16 n.toNat).length (d16 n.toNat).length)∧∃ r,z.2.1.blk? 0=some (wU (d16 n.toNat)++r,tU):=by
   refine (Zb (Zh Zd Zu) (Z2R n) (Zi hrow (Zi rfl (Zi rfl (Zt rfl))))).mono fun e z he=> ?_;obtain⟨rfl,⟨g,e1⟩,e2⟩:=he;refine⟨.inr rfl,?_,?_⟩
   ·rw[e1,e2,ec,et];rfl
   ·rw[e2];refine⟨wU ((f4 n).drop (Zl (f4 n))),?_⟩;have e3:wU (d16 n.toNat)++wU ((f4 n).drop (Zl (f4 n)))=wU (f4 n):=by
     unfold d16;rw[← hv4,← zj (by omega) _ hd,← ZX,List.take_append_drop]
    rw[e3];rfl
  have:=ZE (T:=Zr prog Zf Zn hcV) func48 ZrV (h0:=⟨0,[]⟩) ⟨rfl,fun b x hx=>by have:b<0:=Hp.blk_lt hx;omega⟩ (vals:=[.int .u64 n]) (fun v hv=>by rw[List.mem_singleton.1 hv];rfl) (k:=0) (cs:=wU (d16 n.toNat)) (ty:=tU) (Zbb _) (by kernel_rfl) hr.w (by rfl) E (s:=fun i=>i) (fun i x hx _=>by have:i<0:=Hp.blk_lt hx;omega);exact this
 ·cases hg
def Zzi (F:Func):List Code:=[Z2 (Zs F),Z2 (Zz (Zs F))]
def wR2 (F:Func):Code:=Z2 (Z2 (Zz (Zz (Zs F))))
def wLp (F:Func):Code:=cIn (cIn (Zz (Z2 (Zz (Zz (Zs F))))))
def wEn (F:Func):Code:=Zz (Zz (Zz (Zs F)))
def m4 (n:Nat):Int:=i64.wrap ((if (4:Int)<(n:Int) then 4 else (n:Int))-1)
theorem Zof:f50.body=some (ZW (Zzi f50) (.seq (.seq (wR2 f50) (.block 0 (.loop (wLp f50)))) (wEn f50))):=by kernel_rfl
theorem ZrW (a:Value) (h:Hp):Zg (evL (Zr prog Zf Zn hcV) 100 (Zzi f50) ([a]++List.replicate 21 undef,h,[]) ⟨[],[],[]⟩) 4 18 none [a,undef,.int .u64 0,.int .u64 0] h []:=by and_intros<;>kernel_rfl
theorem ZxM (p:Option Addr) (n c:Nat) (h:Hp) (g:Nat→Value):Zg (evC (Zr prog Zf Zn hcV) 100 false (wR2 f50) ([.slice p n c,undef,.int .u64 0,.int .u64 0]++tl 18 g,h,[]) ⟨[],[],[]⟩) 5 17 none [.slice p n c,undef,.int .u64 0,.int .u64 0,.int .i64 (m4 n)] h []:=by and_intros<;>kernel_rfl
def lw (y x:Int):Int:=u64.wrap (u64.wrap (65536*y)+u64.wrap x)
theorem ZxN (o n c:Nat) (x y k:Int) (l:List Value) (g:Nat→Value):Zg (evC (Zr prog Zf Zn hcV) 100 false (wLp f50) ([sl 0 o n c,undef,.int .u64 0,.int .u64 y,.int .i64 k]++tl 17 g,⟨1,[(l,tR)]⟩,[cmp true,at_,val (.int .u32 x)]) ⟨[],[],[]⟩) 5 17 none [sl 0 o n c,undef,.int .u64 0,.int .u64 (lw y x),.int .i64 (i64.wrap (k-1))] ⟨1,[(l,tR)]⟩ [(Z5 (l[o+k.toNat*1]?) (.int .u32 x),true),(decide (0≤k∧k<n),true),(decide (k≥0),true)]:=by and_intros<;>kernel_rfl
theorem ZrX (a:Value) (y k:Int) (h:Hp) (g:Nat→Value):Zg (evC (Zr prog Zf Zn hcV) 100 false (wLp f50) ([a,undef,.int .u64 0,.int .u64 y,.int .i64 k]++tl 17 g,h,[cmp false]) ⟨[],[],[]⟩) 5 17 (some (some 0)) [a,undef,.int .u64 0,.int .u64 y,.int .i64 k] h [(decide (k≥0),false)]:=by and_intros<;>kernel_rfl
theorem ZrY (a:Value) (y k:Int) (h:Hp) (g:Nat→Value):Zg (evC (Zr prog Zf Zn hcV) 100 false (wEn f50) ([a,undef,.int .u64 0,.int .u64 y,.int .i64 k]++tl 17 g,h,[]) ⟨[],[],[]⟩) 3 19 (some none) [a,undef,.int .u64 y] h []:=by and_intros<;>kernel_rfl
def hiV (L:List Int) (k:Nat):Nat:=vb 65536 ((L.take 4).drop k)
theorem ZrZ {L:List Int}{k:Nat}(hk:k<(L.take 4).length):hiV L k=dgN L k+65536*hiV L (k+1):=by
 unfold hiV dgN;rw[List.drop_eq_getElem_cons hk];simp only[vb];congr 2;rw[List.getElem_take];rw[List.length_take] at hk;simp [List.getD,List.getElem?_eq_getElem (show k<L.length by omega)]
theorem ZtA {L:List Int}(hd:∀ x∈L,Dg 65536 x) (k:Nat):hiV L k<65536^(4-k):=by
 have h:=Zbl (b:=65536) (by omega) ((L.take 4).drop k) (fun x hx=>hd x (List.mem_of_mem_take (List.mem_of_mem_drop hx)));have hl:((L.take 4).drop k).length≤4-k:=by simp;omega
 exact Nat.lt_of_lt_of_le h (Nat.pow_le_pow_right (by omega) hl)
theorem Zsa {L:List Int}(hd:∀ x∈L,Dg 65536 x):hiV L 0=vb 65536 L % 18446744073709551616:=by
 have e:L=L.take 4++L.drop 4:=(List.take_append_drop 4 L).symm;have h4:=ZtA hd 0;unfold hiV at*;rw[List.drop_zero] at*;have ev:vb 65536 L=vb 65536 (L.take 4)+65536^(L.take 4).length*vb 65536 (L.drop 4):=by
  conv=>lhs;rw[e]
  exact Zay _ _ _
 rw[ev];have e4:(65536:Nat)^(4-0)=18446744073709551616:=rfl;by_cases hl:L.length≤4
 ·rw[List.drop_of_length_le hl];simp only[vb,Nat.mul_zero,Nat.add_zero];omega
 ·have:(L.take 4).length=4:=by simp;omega
  have e5:(65536:Nat)^4=18446744073709551616:=rfl;rw[this,e5];omega
theorem Zog {l:List Value}{o c:Nat}{L:List Int}(hR:Row l o L) (hd:∀ x∈L,Dg 65536 x) (hn:L.length<1073741824):
  Runs (Zr prog Zf Zn hcV) (ZW (Zzi f50) (.seq (.seq (wR2 f50) (.block 0 (.loop (wLp f50)))) (wEn f50))) ([sl 0 o L.length c]++List.replicate 21 undef,⟨1,[(l,tR)]⟩,[]) fun e z=>(e=none∨e=some none)∧ZV prog f50 z.1 z.2.1=some (.int .u64 ((vb 65536 L % 18446744073709551616:Nat):Int)):=by
 have hm:m4 L.length=(((L.take 4).length:Nat):Int)-1:=by
  unfold m4;rw[List.length_take];split
  ·rw[Zw (by omega) (by omega)];omega
  ·rw[Zw (by omega) (by omega)];omega
 have hz:hiV L (L.take 4).length=0:=by unfold hiV;rw[List.drop_of_length_le (Nat.le_refl _)];rfl
 refine Zv (Zh Zd Zu) (ZrW _ _) (fun x hx=>by cases hx) fun g=> ?_;refine Runs.seq (P1:=fun e Y=>match e with | none=>(∃ g,Y.1=[sl 0 o L.length c,undef,.int .u64 0,.int .u64 (hiV L 0:Nat),.int .i64 (-1)]++tl 17 g)∧Y.2.1=⟨1,[(l,tR)]⟩ | some none=>False | some (some _)=>False) (Runs.seq (P1:=fun e Y=>e=none∧(∃ g,Y.1=[sl 0 o L.length c,undef,.int .u64 0,.int .u64 0,.int .i64 (m4 L.length)]++tl 17 g)∧Y.2.1=⟨1,[(l,tR)]⟩) (Zb (Zh Zd Zu) (ZxM _ L.length c _ g) (fun x hx=>by cases hx)) ?_ (fun e y he=>by cases he.1)) ?_ (fun e Y he=>by match e,he with | none,he=>exact he.elim | some id,he=>exact he.elim)
 ·rintro⟨t,h',s⟩ ⟨_,⟨g',ht⟩,hh⟩;simp only at ht hh;subst ht hh;refine Runs.script (s:=[]) (Runs.forLoop (P:=fun Y=>(∃ g,Y.1=[sl 0 o L.length c,undef,.int .u64 0,.int .u64 (hiV L 0:Nat),.int .i64 (-1)]++tl 17 g)∧Y.2.1=⟨1,[(l,tR)]⟩) (R:=fun _=>False)
   (fun k Y=>k≤(L.take 4).length∧(∃ g,Y.1=[sl 0 o L.length c,undef,.int .u64 0,.int .u64 (hiV L k:Nat),.int .i64 ((k:Int)-1)]++tl 17 g)∧Y.2.1=⟨1,[(l,tR)]⟩) ?_ (n:=(L.take 4).length) ⟨Nat.le_refl _,⟨g',by rw[hz,hm];rfl⟩,rfl⟩)
  rintro k ⟨t,h',s⟩ ⟨hk,⟨g,ht⟩,hh⟩;simp only at ht hh;subst ht hh;have hl4:(L.take 4).length≤L.length:=by simp;omega
  have hl5:(L.take 4).length≤4:=by simp;omega
  cases k with
  | zero=>
   refine (Zb (Zh Zd Zu) (ZrX _ _ _ _ g) (Zt (Xb (by omega)))).mono fun e z hz=> ?_;obtain⟨rfl,⟨g',z1⟩,z2⟩:=hz;exact⟨rfl,⟨g',z1⟩,z2⟩
  | succ k=>
   have hd1:=zy hd k;have hlt:=ZtA hd (k+1);have hs:=ZrZ (L:=L) (k:=k) (by omega);have ek:((k+1:Nat):Int)-1=(k:Int):=by omega
   have hp:hiV L (k+1)<281474976710656:=by
    have:65536^(4-(k+1))≤65536^3:=Nat.pow_le_pow_right (by omega) (by omega);have e3:(65536:Nat)^3=281474976710656:=rfl;omega
   rw[ek];refine (Zb (Zh Zd Zu) (ZxN o L.length c (L.getD k 0) _ k l g) (Zi (by rw[Xg,Nat.mul_one,hR.cell (by omega)];simp [Z5]) (Zi (Xa (by omega)) (Zt (show decide ((k:Int)≥0)=true from Xa (by omega)))))).mono fun e z hz=> ?_;obtain⟨rfl,⟨g',z1⟩,z2⟩:=hz;have e1:lw (hiV L (k+1):Nat) (L.getD k 0)=((hiV L k:Nat):Int):=by
    unfold lw;rw[← hd1.2,Zfg (n:=65536*((hiV L (k+1):Nat):Int)) (by omega) (by omega),Zfg (n:=((dgN L k:Nat):Int)) (by omega) (by omega),Zfg (by omega) (by omega)];omega
   have e2:i64.wrap ((k:Int)-1)=(k:Int)-1:=Zw (by omega) (by omega);exact⟨k,by omega,by omega,⟨g',by rw[z1,e1,e2]⟩,z2⟩
 ·rintro⟨t,h',s⟩ ⟨⟨g',ht⟩,hh⟩;simp only at ht hh;subst ht hh;refine (Zb (Zh Zd Zu) (ZrY _ _ _ _ g') (fun x hx=>by cases hx)).mono fun e z hz=> ?_;obtain⟨rfl,⟨g2,z1⟩,z2⟩:=hz;refine⟨.inr rfl,?_⟩;rw[z1,z2,Zsa hd];rfl
theorem Zkj:f50.body=some (Zs f50):=by kernel_rfl
theorem Zoh (p:Option Addr) (c:Nat) (h:Hp):Zg (evC (Zr prog Zf Zn hcV) 100 false (Zs f50) ([.slice p 0 c]++List.replicate 21 undef,h,[cmp false]) ⟨[],[],[]⟩) 3 19 (some none) [.slice p 0 c,undef,.int .u64 0] h [(decide (m4 0≥0),false)]:=by and_intros<;>kernel_rfl
theorem ZxO:decide (m4 0≥0)=false:=by decide
def ZxP (h:Hp) (p:Option Addr) (n c:Nat):Bool:=zJ h p n c && dgB (Zq h p n) && Nat.blt n 1073741824
def ZxQ:Zad:=fun vals h s=>
 match vals with
 | [.slice p n c]=>some (.int .u64 ((vO h p n % 18446744073709551616:Nat):Int),h,s,[(ZxP h p n c,true)])
 | _=>none
theorem Zsb:Z8 50 ZxQ:=by
 intro vals h s v h' s' lg hg hl m B w E hv;unfold ZxQ at hg;split at hg
 ·rename_i p n c;cases hg;have q:=hl _ Xf;simp only[ZxP,Xh] at q;obtain⟨⟨q1,q2⟩,q3⟩:=q;have q2:=Zbw q2;have q3:=Zo.1 q3;have hlen:=zK q1;by_cases hn:n=0
  ·subst hn;have e0:Zq h p 0=[]:=List.length_eq_zero_iff.1 hlen;have ev:vO h p 0=0:=by unfold vO;rw[e0];rfl
   obtain⟨x,p',a,NA,eA,fA⟩:=ZbF 0 q1;have hr:Runs (Zr prog Zf Zn hcV) (Zs f50) ([.slice p' 0 c]++List.replicate 21 undef,⟨1,[x]⟩,[]) fun e z=>(e=none∨e=some none)∧ZV prog f50 z.1 z.2.1=some (.int .u64 ((vO h p 0 % 18446744073709551616:Nat):Int)):=by
    refine (Zb (Zh Zd Zu) (Zoh p' c _) (Zt ZxO)).mono fun e z he=> ?_;obtain⟨rfl,⟨g,e2⟩,e3⟩:=he;refine⟨.inr rfl,?_⟩;rw[e2,e3,ev];rfl
   have b1:∀ {i:Nat}{z:List Value×TypeId},(⟨1,[x]⟩:Hp).blk? i=some z→i=0∧z=x:=fun {i z} hz=>by
    have:i<1:=Hp.blk_lt hz;have hi:i=0:=by omega
    subst hi;exact⟨rfl,(Option.some.inj hz).symm⟩
   have:=ZB (T:=Zr prog Zf Zn hcV) func50 Zkj (h0:=⟨1,[x]⟩) ⟨rfl,fun b z hz=>by obtain⟨_,rfl⟩:=b1 hz;exact⟨NA.ros.1,NA.lt0,NA.ros.2⟩⟩ (vals:=[.slice p' 0 c]) (fun v hv=>by rw[List.mem_singleton.1 hv];exact NA.lt (by show 0<1;omega)) (by rfl) hr.w E (s:=fun _=>a) (fun i z hz ht=>by obtain⟨_,rfl⟩:=b1 hz;exact fA ht);simp only[List.map_cons,List.map_nil] at this;rw[eA _ rfl] at this;exact this
  rcases ZF q1 with ⟨rfl,rfl,rfl,e0⟩ | ⟨b,o,x,rfl,hx,r1,_,e0⟩
  ·exact absurd rfl hn
  ·rw[e0] at q2 hlen;obtain⟨h1,h2,h3,h4,h5,h6,h7⟩:=zt r1;have r:=Zog (c:=c) h1 q2 (by rw[h2];exact q3);rw[h2] at r;have ev:vO h (some ⟨b,o,none⟩) n=vb 65536 (Zx x.1 o n):=by unfold vO;rw[e0]
   rw[ev];exact ZB (T:=Zr prog Zf Zn hcV) func50 Zof (ZaK h7) (vals:=[sl 0 o n c]) (fun v hv=>by rw[List.mem_singleton.1 hv];rfl) (by rfl) r.w E (s:=fun _=>b) (zH hx h5 h6 rfl)
 ·cases hg
theorem Zoi:f90.body=some (ZW (Zzi f90) (.seq (.seq (wR2 f90) (.block 0 (.loop (wLp f90)))) (wEn f90))):=by kernel_rfl
theorem Zsc (p:Option Addr) (n c:Nat) (k:Int) (h:Hp):Zg (evL (Zr prog Zf Zn hcV) 100 (Zzi f90) ([.slice p n c,.int .i64 k]++List.replicate 20 undef,h,[]) ⟨[],[],[]⟩) 6 16 none [.slice p n c,.int .i64 k,undef,undef,.int .i64 0,.int .u32 (atN (Zq h p n) (k16 k))] h [(zJ h p n c,true)]:=by and_intros<;>kernel_rfl
theorem ZxR (a:Value) (k x:Int) (h:Hp) (g:Nat→Value):Zg (evC (Zr prog Zf Zn hcV) 100 false (wR2 f90) ([a,.int .i64 k,undef,undef,.int .i64 0,.int .u32 x]++tl 16 g,h,[]) ⟨[],[],[]⟩) 7 15 none [a,.int .i64 k,undef,undef,.int .i64 0,.int .u32 x,.int .i64 0] h []:=by and_intros<;>kernel_rfl
theorem ZxS (a:Value) (k x i:Int) (h:Hp) (g:Nat→Value):Zg (evC (Zr prog Zf Zn hcV) 100 false (wLp f90) ([a,.int .i64 k,undef,undef,.int .i64 0,.int .u32 x,.int .i64 i]++tl 15 g,h,[cmp true,cmp true]) ⟨[],[],[]⟩) 7 15 none [a,.int .i64 k,undef,undef,.int .i64 0,.int .u32 (u32.wrap (x.tdiv 2)),.int .i64 (i64.wrap (i+1))] h [(decide (i<k.tmod 16),true),(decide ((16:Int)=0),false)]:=by and_intros<;>kernel_rfl
theorem Zsd (a:Value) (k x i:Int) (h:Hp) (g:Nat→Value):Zg (evC (Zr prog Zf Zn hcV) 100 false (wLp f90) ([a,.int .i64 k,undef,undef,.int .i64 0,.int .u32 x,.int .i64 i]++tl 15 g,h,[cmp true,cmp false]) ⟨[],[],[]⟩) 7 15 (some (some 0)) [a,.int .i64 k,undef,undef,.int .i64 0,.int .u32 x,.int .i64 i] h [(decide (i<k.tmod 16),false),(decide ((16:Int)=0),false)]:=by and_intros<;>kernel_rfl
theorem Zse (a:Value) (k x i:Int) (h:Hp) (g:Nat→Value):Zg (evC (Zr prog Zf Zn hcV) 100 false (wEn f90) ([a,.int .i64 k,undef,undef,.int .i64 0,.int .u32 x,.int .i64 i]++tl 15 g,h,[cmp true]) ⟨[],[],[]⟩) 5 17 (some none) [a,.int .i64 k,undef,undef,.int .i64 (i64.wrap (x.tmod 2))] h [(decide ((2:Int)=0),false)]:=by and_intros<;>kernel_rfl
theorem Zoj (a:Value) (k x:Nat) (hx:x<65536) (h:Hp) (g:Nat→Value):
  Runs (Zr prog Zf Zn hcV) (.block 0 (.loop (wLp f90))) ([a,.int .i64 (k:Nat),undef,undef,.int .i64 0,.int .u32 (x:Nat),.int .i64 0]++tl 15 g,h,[]) fun e Y=>match e with | none=>(∃ g i,Y.1=[a,.int .i64 (k:Nat),undef,undef,.int .i64 0,.int .u32 ((x/2^(k % 16):Nat):Int),.int .i64 i]++tl 15 g)∧Y.2.1=h | some none=>False | some (some _)=>False:=by
 have em:(k:Int).tmod 16=((k % 16:Nat):Int):=by rw[Int.tmod_eq_emod_of_nonneg (by omega)];omega
 refine Runs.forLoop (P:=fun Y=>(∃ g i,Y.1=[a,.int .i64 (k:Nat),undef,undef,.int .i64 0,.int .u32 ((x/2^(k % 16):Nat):Int),.int .i64 i]++tl 15 g)∧Y.2.1=h) (R:=fun _=>False)
  (fun m Y=>∃ j:Nat,j≤k % 16∧m=k % 16-j∧(∃ g,Y.1=[a,.int .i64 (k:Nat),undef,undef,.int .i64 0,.int .u32 ((x/2^j:Nat):Int),.int .i64 (j:Nat)]++tl 15 g)∧Y.2.1=h) ?_ (n:=k % 16) ⟨0,by omega,by omega,⟨g,by simp⟩,rfl⟩
 rintro m ⟨t,h',s⟩ ⟨j,hj,hm,⟨g,ht⟩,hh⟩;simp only at ht hh;subst ht hh;have hle:x/2^j≤x:=Nat.div_le_self _ _;by_cases hlt:j<k % 16
 ·refine (Zb (Zh Zd Zu) (ZxS a k _ j h' g) (Zi (by rw[em];exact Xa (by omega)) (Zt rfl))).mono fun e z hz=> ?_;obtain⟨rfl,⟨g',z1⟩,z2⟩:=hz;have e1:u32.wrap (((x/2^j:Nat):Int).tdiv 2)=((x/2^(j+1):Nat):Int):=by
   rw[Nat.pow_succ,← Nat.div_div_eq_div_mul];generalize x/2^j=y at hle ⊢;rw[Int.tdiv_eq_ediv_of_nonneg (by omega),zk (by omega) (by omega)];rfl
  have e2:i64.wrap ((j:Int)+1)=((j+1:Nat):Int):=by rw[Zw (by omega) (by omega)];omega
  exact⟨k % 16-(j+1),by omega,j+1,by omega,rfl,⟨g',by rw[z1,e1,e2]⟩,z2⟩
 ·have hj':j=k % 16:=by omega
  subst hj';refine (Zb (Zh Zd Zu) (Zsd a k _ _ h' g) (Zi (by rw[em];exact Xb (by omega)) (Zt rfl))).mono fun e z hz=> ?_;obtain⟨rfl,⟨g',z1⟩,z2⟩:=hz;exact⟨rfl,⟨g',_,z1⟩,z2⟩
def ZxT (h:Hp) (p:Option Addr) (n c:Nat):Bool:=zJ h p n c && dgB (Zq h p n) && Nat.blt n 1073741824
def ZxU:Zad:=fun vals h s=>
 match vals with
 | [.slice p n c,.int .i64 k]=>some (.int .i64 ((vO h p n/2^k.toNat % 2:Nat):Int),h,s,[(ZxT h p n c,true),(decide (0≤k∧k<4611686018427387904),true)])
 | _=>none
theorem ZtB (L:List Int) (i:Nat):dgS L i=dgN L i:=rfl
theorem ZgN {x:List Value×TypeId}{i:Nat}{z:List Value×TypeId}(hz:(⟨1,[x]⟩:Hp).blk? i=some z):i=0∧z=x:=by
 have:i<1:=Hp.blk_lt hz;have hi:i=0:=by omega
 subst hi;exact⟨rfl,(Option.some.inj hz).symm⟩
theorem Zsf:Z8 90 ZxU:=by
 intro vals h s v h' s' lg hg hl m B w E hv;unfold ZxU at hg;split at hg
 ·rename_i p n c k;cases hg;have q:=hl _ (Xe);have qk:=Xc (hl _ (Xd _ Xf));simp only[ZxT,Xh] at q;obtain⟨⟨q1,q2⟩,q3⟩:=q;have q2:=Zbw q2;obtain⟨K,rfl⟩:=Int.eq_ofNat_of_zero_le qk.1;obtain⟨x,p',a,NA,eA,fA⟩:=ZbF 0 q1;obtain⟨rp,ro'⟩:=NA.row ⟨1,[x]⟩ rfl;have ek:k16 (K:Int)=((K/16:Nat):Int):=by unfold k16;rw[Int.tdiv_eq_ediv_of_nonneg (by omega),Zw (by omega) (by omega)];omega
  have hd:=zy q2 (K/16);have hr:Runs (Zr prog Zf Zn hcV) (ZW (Zzi f90) (.seq (.seq (wR2 f90) (.block 0 (.loop (wLp f90)))) (wEn f90))) ([.slice p' n c,.int .i64 (K:Nat)]++List.replicate 20 undef,⟨1,[x]⟩,[]) fun e z=>(e=none∨e=some none)∧ZV prog f90 z.1 z.2.1=some (.int .i64 ((vO h p n/2^K % 2:Nat):Int)):=by
   refine Zv (Zh Zd Zu) (Zsc p' n c K _) (Zt rp) fun g=> ?_;rw[ro',ek,Zaq,← hd.2];refine Runs.seq (P1:=fun e Y=>match e with | none=>(∃ g i,Y.1=[.slice p' n c,.int .i64 (K:Nat),undef,undef,.int .i64 0,.int .u32 ((dgN (Zq h p n) (K/16)/2^(K % 16):Nat):Int),.int .i64 i]++tl 15 g)∧Y.2.1=⟨1,[x]⟩ | some none=>False | some (some _)=>False) (Runs.seq (P1:=fun e Y=>e=none∧(∃ g,Y.1=[.slice p' n c,.int .i64 (K:Nat),undef,undef,.int .i64 0,.int .u32 ((dgN (Zq h p n) (K/16):Nat):Int),.int .i64 0]++tl 15 g)∧Y.2.1=⟨1,[x]⟩) (Zb (Zh Zd Zu) (ZxR _ K _ _ g) (fun x hx=>by cases hx)) ?_ (fun e y he=>by cases he.1)) ?_ (fun e Y he=>by match e,he with | none,he=>exact he.elim | some id,he=>exact he.elim)
   ·rintro⟨t,h',s⟩ ⟨_,⟨g',ht⟩,hh⟩;simp only at ht hh;subst ht hh;exact Runs.script (Zoj _ K _ hd.1 _ g')
   ·rintro⟨t,h',s⟩ ⟨⟨g',i,ht⟩,hh⟩;simp only at ht hh;subst ht hh;refine (Zb (Zh Zd Zu) (Zse _ _ _ _ _ g') (Zt rfl)).mono fun e z hz=> ?_;obtain⟨rfl,⟨g2,z1⟩,z2⟩:=hz;refine⟨.inr rfl,?_⟩;have e1:i64.wrap ((((dgN (Zq h p n) (K/16)/2^(K % 16):Nat):Int)).tmod 2)=((vO h p n/2^K % 2:Nat):Int):=by
     unfold vO;rw[Z0A q2 K,ZtB];generalize dgN (Zq h p n) (K/16)/2^(K % 16)=y;rw[Int.tmod_eq_emod_of_nonneg (by omega),Zw (by omega) (by omega)];rfl
    rw[z1,z2,e1];rfl
  have:=ZB (T:=Zr prog Zf Zn hcV) func90 Zoi (h0:=⟨1,[x]⟩) ⟨rfl,fun b z hz=>by obtain⟨_,rfl⟩:=ZgN hz;exact⟨NA.ros.1,NA.lt0,NA.ros.2⟩⟩ (vals:=[.slice p' n c,.int .i64 (K:Nat)]) (fun v hv=>by
   simp only[List.mem_cons,List.not_mem_nil,or_false] at hv;rcases hv with rfl | rfl
   ·exact NA.lt (by show 0<1;omega)
   ·rfl) (by rfl) hr.w E (s:=fun _=>a) (fun i z hz ht=>by obtain⟨_,rfl⟩:=ZgN hz;exact fA ht)
  simp only[List.map_cons,List.map_nil] at this;rw[eA _ rfl] at this;exact this
 ·cases hg
def rB (F:Func):Code:=Zz (Zz (Zz (Zz (Zs F))))
def rPr (F:Func):List Code:=[Z2 (Zs F),Z2 (Zz (Zs F)),Z2 (Zz (Zz (Zs F))),Z2 (Zz (Zz (Zz (Zs F))))]
def rR5 (F:Func):Code:=Z2 (Z2 (rB F))
def rL1 (F:Func):Code:=cIn (cIn (Zz (Z2 (rB F))))
def rC (F:Func):Code:=Zz (rB F)
def rIf (F:Func):Code:=Z2 (rC F)
def Z7Y (F:Func):Code:=Z2 (Zz (rC F))
def rD (F:Func):Code:=Zz (Zz (rC F))
def Z7Z (F:Func):Code:=Z2 (Z2 (rD F))
def rL2 (F:Func):Code:=cIn (cIn (Zz (Z2 (rD F))))
def Z44 (F:Func):Code:=Z2 (Zz (rD F))
def Z8a (F:Func):Code:=Z2 (Zz (Zz (rD F)))
def rE (F:Func):Code:=Zz (Zz (Zz (rD F)))
def Z8b (F:Func):Code:=Z2 (Z2 (rE F))
def rL3 (F:Func):Code:=cIn (cIn (Zz (Z2 (rE F))))
def rEn (F:Func):Code:=Zz (rE F)
theorem Zok:f89.body=some (ZW (rPr f89) (.seq (.seq (rR5 f89) (.block 0 (.loop (rL1 f89)))) (.seq (rIf f89) (.seq (Z7Y f89) (.seq (.seq (Z7Z f89) (.block 2 (.loop (rL2 f89)))) (.seq (Z44 f89) (.seq (Z8a f89) (.seq (.seq (Z8b f89) (.block 4 (.loop (rL3 f89)))) (rEn f89))))))))):=by kernel_rfl
theorem Zkk:f89.body=some (Zs f89):=by kernel_rfl
theorem ZxV (p:Option Addr) (n c:Nat) (k:Int) (h:Hp):Zg (evL (Zr prog Zf Zn hcV) 100 (rPr f89) ([.slice p n c,.int .i64 k]++List.replicate 87 undef,h,[cmp false]) ⟨[],[],[]⟩) 8 81 none [.slice p n c,.int .i64 k,undef,undef,Zp,.bool false,.bool false,.int .i64 (k16 k)] h [(decide (k≤0),false)]:=by and_intros<;>kernel_rfl
theorem Z2U (a:Value) (k b:Int) (h:Hp) (g:Nat→Value):Zg (evC (Zr prog Zf Zn hcV) 100 false (rR5 f89) ([a,.int .i64 k,undef,undef,Zp,.bool false,.bool false,.int .i64 b]++tl 81 g,h,[]) ⟨[],[],[]⟩) 9 80 none [a,.int .i64 k,undef,undef,Zp,.bool false,.bool false,.int .i64 b,.int .i64 0] h []:=by and_intros<;>kernel_rfl
theorem ZxW (p:Option Addr) (n c:Nat) (k b i:Int) (h:Hp) (g:Nat→Value):Zg (evC (Zr prog Zf Zn hcV) 100 false (rL1 f89) ([.slice p n c,.int .i64 k,undef,undef,Zp,.bool false,.bool true,.int .i64 b,.int .i64 i]++tl 80 g,h,[cmp true,cmp true]) ⟨[],[],[]⟩) 9 80 none [.slice p n c,.int .i64 k,undef,undef,Zp,.bool false,.bool true,.int .i64 b,.int .i64 (i64.wrap (i+1))] h [(decide (i<n),true),(decide (i<b),true)]:=by and_intros<;>kernel_rfl
theorem ZxX (o n c:Nat) (k b i x:Int) (l:List Value) (d:Bool) (g:Nat→Value):Zg (evC (Zr prog Zf Zn hcV) 100 false (rL1 f89) ([sl 0 o n c,.int .i64 k,undef,undef,Zp,.bool false,.bool false,.int .i64 b,.int .i64 i]++tl 80 g,⟨1,[(l,tR)]⟩,[cmp true,cmp true,at_,val (.int .u32 x),cmp d]) ⟨[],[],[]⟩) 9 80 none [sl 0 o n c,.int .i64 k,undef,undef,Zp,.bool false,.bool d,.int .i64 b,.int .i64 (i64.wrap (i+1))] ⟨1,[(l,tR)]⟩ [(x !=0,d),(Z5 (l[o+i.toNat*1]?) (.int .u32 x),true),(decide (0≤i∧i<n),true),(decide (i<n),true),(decide (i<b),true)]:=by and_intros<;>kernel_rfl
theorem ZxY (p:Option Addr) (n c:Nat) (k b i:Int) (e:Bool) (h:Hp) (g:Nat→Value):Zg (evC (Zr prog Zf Zn hcV) 100 false (rL1 f89) ([.slice p n c,.int .i64 k,undef,undef,Zp,.bool false,.bool e,.int .i64 b,.int .i64 i]++tl 80 g,h,[cmp false]) ⟨[],[],[]⟩) 9 80 (some (some 0)) [.slice p n c,.int .i64 k,undef,undef,Zp,.bool false,.bool e,.int .i64 b,.int .i64 i] h [(decide (i<b),false)]:=by and_intros<;>kernel_rfl
theorem ZxZ (p:Option Addr) (n c:Nat) (k b i:Int) (e:Bool) (h:Hp) (g:Nat→Value):Zg (evC (Zr prog Zf Zn hcV) 100 false (rL1 f89) ([.slice p n c,.int .i64 k,undef,undef,Zp,.bool false,.bool e,.int .i64 b,.int .i64 i]++tl 80 g,h,[cmp true,cmp false]) ⟨[],[],[]⟩) 9 80 (some (some 0)) [.slice p n c,.int .i64 k,undef,undef,Zp,.bool false,.bool e,.int .i64 b,.int .i64 i] h [(decide (i<n),false),(decide (i<b),true)]:=by and_intros<;>kernel_rfl
theorem Zya (p:Option Addr) (n c:Nat) (k b i:Int) (e:Bool) (h:Hp) (g:Nat→Value):Zg (evC (Zr prog Zf Zn hcV) 100 false (rIf f89) ([.slice p n c,.int .i64 k,undef,undef,Zp,.bool false,.bool e,.int .i64 b,.int .i64 i]++tl 80 g,h,[cmp true]) ⟨[],[],[]⟩) 6 83 (some none) [.slice p n c,.int .i64 k,undef,undef,Zp,.bool e] h [(decide (b≥n),true)]:=by and_intros<;>kernel_rfl
theorem Zyb (p:Option Addr) (n c:Nat) (k b i:Int) (e:Bool) (h:Hp) (g:Nat→Value):Zg (evC (Zr prog Zf Zn hcV) 100 false (rIf f89) ([.slice p n c,.int .i64 k,undef,undef,Zp,.bool false,.bool e,.int .i64 b,.int .i64 i]++tl 80 g,h,[cmp false]) ⟨[],[],[]⟩) 9 80 none [.slice p n c,.int .i64 k,undef,undef,Zp,.bool false,.bool e,.int .i64 b,.int .i64 i] h [(decide (b≥n),false)]:=by and_intros<;>kernel_rfl
theorem Zyc (a:Value) (k b i:Int) (e:Bool) (h:Hp) (g:Nat→Value):Zg (evC (Zr prog Zf Zn hcV) 100 false (Z7Y f89) ([a,.int .i64 k,undef,undef,Zp,.bool false,.bool e,.int .i64 b,.int .i64 i]++tl 80 g,h,[]) ⟨[],[],[]⟩) 10 79 none [a,.int .i64 k,undef,undef,Zp,.bool false,.bool e,.int .i64 b,.int .i64 i,.int .u32 1] h []:=by and_intros<;>kernel_rfl
theorem Zyd (a:Value) (k b i:Int) (e:Bool) (h:Hp) (g:Nat→Value):Zg (evC (Zr prog Zf Zn hcV) 100 false (Z7Z f89) ([a,.int .i64 k,undef,undef,Zp,.bool false,.bool e,.int .i64 b,.int .i64 i,.int .u32 1]++tl 79 g,h,[]) ⟨[],[],[]⟩) 11 78 none [a,.int .i64 k,undef,undef,Zp,.bool false,.bool e,.int .i64 b,.int .i64 i,.int .u32 1,.int .i64 0] h []:=by and_intros<;>kernel_rfl
theorem Z2V (a:Value) (k b u i q:Int) (e:Bool) (h:Hp) (g:Nat→Value):Zg (evC (Zr prog Zf Zn hcV) 100 false (rL2 f89) ([a,.int .i64 k,undef,undef,Zp,.bool false,.bool e,.int .i64 b,.int .i64 u,.int .u32 q,.int .i64 i]++tl 78 g,h,[cmp true,cmp true]) ⟨[],[],[]⟩) 11 78 none [a,.int .i64 k,undef,undef,Zp,.bool false,.bool e,.int .i64 b,.int .i64 u,.int .u32 (u32.wrap (2*q)),.int .i64 (i64.wrap (i+1))] h [(decide (i<k.tmod 16),true),(decide ((16:Int)=0),false)]:=by and_intros<;>kernel_rfl
theorem Z2W (a:Value) (k b u i q:Int) (e:Bool) (h:Hp) (g:Nat→Value):Zg (evC (Zr prog Zf Zn hcV) 100 false (rL2 f89) ([a,.int .i64 k,undef,undef,Zp,.bool false,.bool e,.int .i64 b,.int .i64 u,.int .u32 q,.int .i64 i]++tl 78 g,h,[cmp true,cmp false]) ⟨[],[],[]⟩) 11 78 (some (some 2)) [a,.int .i64 k,undef,undef,Zp,.bool false,.bool e,.int .i64 b,.int .i64 u,.int .u32 q,.int .i64 i] h [(decide (i<k.tmod 16),false),(decide ((16:Int)=0),false)]:=by and_intros<;>kernel_rfl
theorem Zye (a:Value) (k b u i q:Int) (h:Hp) (g:Nat→Value):Zg (evC (Zr prog Zf Zn hcV) 100 false (Z44 f89) ([a,.int .i64 k,undef,undef,Zp,.bool false,.bool true,.int .i64 b,.int .i64 u,.int .u32 q,.int .i64 i]++tl 78 g,h,[]) ⟨[],[],[]⟩) 11 78 none [a,.int .i64 k,undef,undef,Zp,.bool false,.bool true,.int .i64 b,.int .i64 u,.int .u32 q,.int .i64 i] h []:=by and_intros<;>kernel_rfl
theorem Zyf (o n c:Nat) (k b u i q x:Int) (l:List Value) (d:Bool) (g:Nat→Value):Zg (evC (Zr prog Zf Zn hcV) 100 false (Z44 f89) ([sl 0 o n c,.int .i64 k,undef,undef,Zp,.bool false,.bool false,.int .i64 b,.int .i64 u,.int .u32 q,.int .i64 i]++tl 78 g,⟨1,[(l,tR)]⟩,[at_,val (.int .u32 x),cmp false,cmp d]) ⟨[],[],[]⟩) 11 78 none [sl 0 o n c,.int .i64 k,undef,undef,Zp,.bool false,.bool d,.int .i64 b,.int .i64 u,.int .u32 q,.int .i64 i] ⟨1,[(l,tR)]⟩ [(x.tmod q !=0,d),(decide (q=0),false),(Z5 (l[o+b.toNat*1]?) (.int .u32 x),true),(decide (0≤b∧b<n),true)]:=by and_intros<;>kernel_rfl
theorem Zyg (a:Value) (k b u i q:Int) (e:Bool) (h:Hp) (g:Nat→Value):Zg (evC (Zr prog Zf Zn hcV) 100 false (Z8a f89) ([a,.int .i64 k,undef,undef,Zp,.bool false,.bool e,.int .i64 b,.int .i64 u,.int .u32 q,.int .i64 i]++tl 78 g,h,[]) ⟨[],[],[]⟩) 12 77 none [a,.int .i64 k,undef,undef,Zp,.bool false,.bool e,.int .i64 b,.int .i64 u,.int .u32 q,.int .i64 i,Zp] h []:=by and_intros<;>kernel_rfl
theorem Zyh (a:Value) (k b u i q:Int) (e:Bool) (h:Hp) (g:Nat→Value):Zg (evC (Zr prog Zf Zn hcV) 100 false (Z8b f89) ([a,.int .i64 k,undef,undef,Zp,.bool false,.bool e,.int .i64 b,.int .i64 u,.int .u32 q,.int .i64 i,Zp]++tl 77 g,h,[]) ⟨[],[],[]⟩) 13 76 none [a,.int .i64 k,undef,undef,Zp,.bool false,.bool e,.int .i64 b,.int .i64 u,.int .u32 q,.int .i64 i,Zp,.int .i64 b] h []:=by and_intros<;>kernel_rfl
theorem ZtC (p:Option Addr) (n c:Nat) (v:Value) (k b u u2 i q:Int) (e:Bool) (h:Hp) (g:Nat→Value):Zg (evC (Zr prog Zf Zn hcV) 100 false (rL3 f89) ([.slice p n c,.int .i64 k,undef,undef,Zp,.bool false,.bool e,.int .i64 b,.int .i64 u,.int .u32 q,.int .i64 u2,v,.int .i64 i]++tl 76 g,h,[cmp false]) ⟨[],[],[]⟩) 13 76 (some (some 4)) [.slice p n c,.int .i64 k,undef,undef,Zp,.bool false,.bool e,.int .i64 b,.int .i64 u,.int .u32 q,.int .i64 u2,v,.int .i64 i] h [(decide (i<n),false)]:=by and_intros<;>kernel_rfl
def dwn (h:Hp) (o n:Nat) (i q q1 q2:Int):Int:=u32.wrap (q1+u32.wrap ((atN (Zq h (some ⟨0,o,none⟩) n) (i64.wrap (i+1))).tmod q*q2))
def lDw (h:Hp) (l:List Value) (o n c:Nat) (i q x q1 q2:Int):Log:=[(decide (q=0),false),(zJ h (some ⟨0,o,none⟩) n c,true),(decide (q=0),false),(decide (u32.wrap (Int.tdiv 65536 q)=q2),true),(decide (q=0),false),(decide (u32.wrap (x.tdiv q)=q1),true),(Z5 (l[o+i.toNat*1]?) (.int .u32 x),true),(decide (0≤i∧i<n),true),(decide (i<n),true)]
theorem Zyi (o n c:Nat) (k b u u2 i q x q1 q2:Int) (e:Bool) (l:List Value) (g:Nat→Value):Zg (evC (Zr prog Zf Zn hcV) 100 false (rL3 f89) ([sl 0 o n c,.int .i64 k,undef,undef,Zp,.bool false,.bool e,.int .i64 b,.int .i64 u,.int .u32 q,.int .i64 u2,Zp,.int .i64 i]++tl 76 g,⟨1,[(l,tR)]⟩,[cmp true,at_,val (.int .u32 x),num q1,num q2,cmp false]) ⟨[],[],[]⟩) 13 76 none [sl 0 o n c,.int .i64 k,undef,undef,Zp,.bool false,.bool e,.int .i64 b,.int .i64 u,.int .u32 q,.int .i64 u2,sl 2 0 1 grown,.int .i64 (i64.wrap (i+1))] ⟨3,[([.int .u32 (dwn ⟨1,[(l,tR)]⟩ o n i q q1 q2)],tU),([.int .u32 (dwn ⟨1,[(l,tR)]⟩ o n i q q1 q2)],tU),(l,tR)]⟩ (lDw ⟨1,[(l,tR)]⟩ l o n c i q x q1 q2):=by and_intros<;>kernel_rfl
theorem Zyj (o n c z:Nat) (k b u u2 i q x q1 q2:Int) (e:Bool) (l lo:List Value) (g:Nat→Value):Zg (evC (Zr prog Zf Zn hcV) 100 false (rL3 f89) ([sl 0 o n c,.int .i64 k,undef,undef,Zp,.bool false,.bool e,.int .i64 b,.int .i64 u,.int .u32 q,.int .i64 u2,sl 1 0 z grown,.int .i64 i]++tl 76 g,⟨2,[(lo,tU),(l,tR)]⟩,[cmp true,at_,val (.int .u32 x),num q1,num q2,cmp false,at_]) ⟨[],[],[]⟩) 13 76 none [sl 0 o n c,.int .i64 k,undef,undef,Zp,.bool false,.bool e,.int .i64 b,.int .i64 u,.int .u32 q,.int .i64 u2,sl 3 0 (z+1) grown,.int .i64 (i64.wrap (i+1))] ⟨4,[(lo++[.int .u32 (dwn ⟨2,[(lo,tU),(l,tR)]⟩ o n i q q1 q2)],tU),([.int .u32 (dwn ⟨2,[(lo,tU),(l,tR)]⟩ o n i q q1 q2)],tU),([],2*za),(l,tR)]⟩ ((Zab tU (lo,tU) ([.int .u32 (dwn ⟨2,[(lo,tU),(l,tR)]⟩ o n i q q1 q2)],tU) z 0 1,true)::lDw ⟨2,[(lo,tU),(l,tR)]⟩ l o n c i q x q1 q2):=by and_intros<;>kernel_rfl
theorem Zyk (a:Value) (k b u u2 q u3:Int) (e:Bool) (z:Nat) (x:List Value×TypeId) (lo:List Value) (g:Nat→Value):Zg (evC (Zr prog Zf Zn hcV) 100 false (rEn f89) ([a,.int .i64 k,undef,undef,Zp,.bool false,.bool e,.int .i64 b,.int .i64 u,.int .u32 q,.int .i64 u2,sl 1 0 z grown,.int .i64 u3]++tl 76 g,⟨2,[(lo,tU),x]⟩,[]) ⟨[],[],[]⟩) 6 83 (some none) [a,.int .i64 k,undef,undef,sl 1 0 (Zl (Zx lo 0 z)) (Zl (Zx lo 0 z)),.bool e] ⟨2,[(lo,tU),x]⟩ [(Zbm tU lo 0 z grown,true)]:=by and_intros<;>kernel_rfl
theorem Zol (p:Option Addr) (c:Nat) (k:Int) (h:Hp):Zg (evC (Zr prog Zf Zn hcV) 100 false (Zs f89) ([.slice p 0 c,.int .i64 k]++List.replicate 87 undef,h,[cmp false,cmp true,cmp false,cmp true]) ⟨[],[],[]⟩) 6 83 (some none) [.slice p 0 c,.int .i64 k,undef,undef,Zp,.bool false] h [(decide (k16 k≥((0:Nat):Int)),true),(decide ((0:Int)<((0:Nat):Int)),false),(decide (0<k16 k),true),(decide (k≤0),false)]:=by and_intros<;>kernel_rfl
theorem Zkl (p:Option Addr) (c:Nat) (k:Int) (h:Hp):Zg (evC (Zr prog Zf Zn hcV) 100 false (Zs f89) ([.slice p 0 c,.int .i64 k]++List.replicate 87 undef,h,[cmp false,cmp false,cmp true]) ⟨[],[],[]⟩) 6 83 (some none) [.slice p 0 c,.int .i64 k,undef,undef,Zp,.bool false] h [(decide (k16 k≥((0:Nat):Int)),true),(decide (0<k16 k),false),(decide (k≤0),false)]:=by and_intros<;>kernel_rfl
end Go.Proofs.YtjlponbdflkbjaaGreatDoor
