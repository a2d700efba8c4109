/-
  RdC, RdD, RdE, TxN, TxO, ConVB
-/
import Derived.Test.YtgefjidphfdhdaaGreatDoorG15
namespace Go.Proofs.YtgefjidphfdhdaaGreatDoor
open Go.Proofs.Tryz
open Go.IntKind
open Go.KRun Go.Rd
set_option maxRecDepth 100000
def ZtH (F:Func):Code:=cIn (cIn (sP F 3))
def ZyT (F:Func):Code:=cIn (cIn (sP F 11))
theorem Zox:f55.body=some (ZW [sP f55 0,sP f55 1,sP f55 2] (.seq (.block 0 (.loop (ZtH f55))) (sK f55 4))):=by kernel_rfl
theorem Zbj:sK f55 4=ZW [sP f55 4,sP f55 5,sP f55 6,sP f55 7,sP f55 8,sP f55 9,sP f55 10] (.seq (.block 2 (.loop (ZyT f55))) (sK f55 12)):=by kernel_rfl
def ZcI (b:Int) (D:List UInt8) (k P:Int):List Value×TypeId:=([.bool false,.int .i64 b,bR D,.int .i64 k,.int .i64 P],94)
def zB:List Value×TypeId:=([.bool false,.int .i64 0,bR [],.int .i64 0,.int .i64 0],94)
def ZcJ (l:List UInt8) (b i q:Int):List Value:=[bR l,.int .i64 b,undef,undef,pO 0,.bool false,pO 1,.int .i64 i,.int .i64 q]
def Zhn (l:List UInt8) (b i q:Int) (mn:Bool):List Value:=[bR l,.int .i64 b,undef,undef,pO 0,.bool false,pO 1,.int .i64 i,.int .i64 q,.bool mn]
def scM (b:Int) (D:List UInt8) (k P:Int):Hp:=⟨2,[ZcI b D k P,zB]⟩
theorem Z2b (l:List UInt8) (b:Int):Zg (evL (Zq prog Zf ZF true) 100 [sP f55 0,sP f55 1,sP f55 2] ([bR l,.int .i64 b]++List.replicate 147 undef,⟨0,[]⟩,[]) ⟨[],[],[]⟩) 9 140 none (ZcJ l b 0 0) (scM b [] 0 0) []:=by and_intros<;>kernel_rfl
theorem Z9o (l:List UInt8) (b i q:Int) (D:List UInt8) (k P:Int) (g:Nat→Value):Zg (evC (Zq prog Zf ZF true) 100 false (ZtH f55) (ZcJ l b i q++tl 140 g,scM b D k P,[cmp false]) ⟨[],[],[]⟩) 9 140 (some (some 0)) (ZcJ l b i q) (scM b D k P) [(decide (i<(l.length:Nat)),false)]:=by and_intros<;>kernel_rfl
theorem Z6Z (l:List UInt8) (b i q:Int) (D:List UInt8) (k P:Int) (g:Nat→Value):Zg (evC (Zq prog Zf ZF true) 100 false (ZtH f55) (ZcJ l b i q++tl 140 g,scM b D k P,[cmp true,cmp false,cmp false]) ⟨[],[],[]⟩) 9 140 (some (some 0)) (ZcJ l b i q) (scM b D k P) [(decide (zy (byR l i) b≥0),false),(decide (b=10∨b=16),true),(decide (0≤i∧i.toNat<l.length),true),(byR l i==46,false),(decide (0≤i∧i.toNat<l.length),true),(decide (i<(l.length:Nat)),true)]:=by and_intros<;>kernel_rfl
theorem Z7a (l:List UInt8) (b i q:Int) (D:List UInt8) (k P:Int) (g:Nat→Value):Zg (evC (Zq prog Zf ZF true) 100 false (ZtH f55) (ZcJ l b i q++tl 140 g,scM b D k P,[cmp true,cmp true,cmp false,cmp false]) ⟨[],[],[]⟩) 9 140 (some (some 0)) (ZcJ l b i q) (scM b D k P) [(decide (zy (byR l i) b≥0),false),(decide (b=10∨b=16),true),(decide (0≤i∧i.toNat<l.length),true),(q==0,false),(byR l i==46,true),(decide (0≤i∧i.toNat<l.length),true),(decide (i<(l.length:Nat)),true)]:=by and_intros<;>kernel_rfl
theorem Z9p (l:List UInt8) (b i q:Int) (D:List UInt8) (k P:Int) (g:Nat→Value):Zg (evC (Zq prog Zf ZF true) 100 false (ZtH f55) (ZcJ l b i q++tl 140 g,scM b D k P,[cmp true,cmp true,cmp true,cmp true]) ⟨[],[],[]⟩) 9 140 none (ZcJ l b (i64.wrap (i+1)) (i64.wrap (q+1))) (scM b D k P) [(byR l i==46,true),(decide (0≤i∧i.toNat<l.length),true),(q==0,true),(byR l i==46,true),(decide (0≤i∧i.toNat<l.length),true),(decide (i<(l.length:Nat)),true)]:=by and_intros<;>kernel_rfl
theorem Z9q (l:List UInt8) (b i q:Int) (D:List UInt8) (k P:Int) (g:Nat→Value):Zg (evC (Zq prog Zf ZF true) 100 false (ZtH f55) (ZcJ l b i q++tl 140 g,scM b D k P,[cmp true,cmp false,cmp true,cmp false,sam true,sam true]) ⟨[],[],[]⟩) 9 140 none (ZcJ l b (i64.wrap (i+1)) q) (scM b (D++((l.drop i.toNat).take ((i64.wrap (i+1)).toNat-i.toNat))) (i64.wrap (k+q)) P) [(decide (D.length+((l.drop i.toNat).take ((i64.wrap (i+1)).toNat-i.toNat)).length≤9223372036854775807),true),(decide (0≤i∧i≤(i64.wrap (i+1))∧(i64.wrap (i+1))≤((l.length:Nat):Int)),true),(byR l i==46,false),(decide (0≤i∧i.toNat<l.length),true),(decide (zy (byR l i) b≥0),true),(decide (b=10∨b=16),true),(decide (0≤i∧i.toNat<l.length),true),(byR l i==46,false),(decide (0≤i∧i.toNat<l.length),true),(decide (i<(l.length:Nat)),true)]:=by and_intros<;>kernel_rfl
theorem Z9r (l:List UInt8) (b i q:Int) (D:List UInt8) (k P:Int) (g:Nat→Value):Zg (evC (Zq prog Zf ZF true) 100 false (sK f55 4) (ZcJ l b i q++tl 140 g,scM b D k P,[sam true]) ⟨[],[],[]⟩) 6 143 (some none) [bR l,.int .i64 b,undef,undef,pO 0,.bool false] ⟨2,[ZcI b D k P,ZcI b D k P]⟩ [((⟨⟨D⟩⟩:ByteArray)==⟨⟨[]⟩⟩,true)]:=by and_intros<;>kernel_rfl
theorem Z9s (l:List UInt8) (b i q:Int) (D:List UInt8) (k P:Int) (g:Nat→Value) (d:Bool):Zg (evC (Zq prog Zf ZF true) 100 false (sK f55 4) (ZcJ l b i q++tl 140 g,scM b D k P,[sam false,cmp true,cmp d]) ⟨[],[],[]⟩) 6 143 (some none) [bR l,.int .i64 b,undef,undef,pO 0,.bool d] ⟨2,[ZcI b D k P,ZcI b D k P]⟩ [(b==10,d),(i==(l.length:Nat),true),((⟨⟨D⟩⟩:ByteArray)==⟨⟨[]⟩⟩,false)]:=by and_intros<;>kernel_rfl
theorem Z7b (l:List UInt8) (b i q:Int) (D:List UInt8) (k P:Int) (g:Nat→Value):Zg (evC (Zq prog Zf ZF true) 100 false (sK f55 4) (ZcJ l b i q++tl 140 g,scM b D k P,[sam false,cmp false,cmp true,cmp true]) ⟨[],[],[]⟩) 6 143 (some none) [bR l,.int .i64 b,undef,undef,pO 0,.bool false] ⟨2,[ZcI b D k P,ZcI b D k P]⟩ [(byR l i !=101,true),(decide (0≤i∧i.toNat<l.length),true),(b==10,true),(i==(l.length:Nat),false),((⟨⟨D⟩⟩:ByteArray)==⟨⟨[]⟩⟩,false)]:=by and_intros<;>kernel_rfl
theorem Z7c (l:List UInt8) (b i q:Int) (D:List UInt8) (k P:Int) (g:Nat→Value):Zg (evC (Zq prog Zf ZF true) 100 false (sK f55 4) (ZcJ l b i q++tl 140 g,scM b D k P,[sam false,cmp false,cmp false,cmp true,cmp true]) ⟨[],[],[]⟩) 6 143 (some none) [bR l,.int .i64 b,undef,undef,pO 0,.bool false] ⟨2,[ZcI b D k P,ZcI b D k P]⟩ [(byR l i !=112,true),(decide (0≤i∧i.toNat<l.length),true),(b==16,true),(b==10,false),(i==(l.length:Nat),false),((⟨⟨D⟩⟩:ByteArray)==⟨⟨[]⟩⟩,false)]:=by and_intros<;>kernel_rfl
theorem Z7d (l:List UInt8) (b i q:Int) (D:List UInt8) (k P:Int) (g:Nat→Value):Zg (evC (Zq prog Zf ZF true) 100 false (sK f55 4) (ZcJ l b i q++tl 140 g,scM b D k P,[sam false,cmp false,cmp true,cmp false,cmp false,cmp false,cmp false,cmp true]) ⟨[],[],[]⟩) 6 143 (some none) [bR l,.int .i64 b,undef,undef,pO 0,.bool false] ⟨2,[ZcI b D k P,ZcI b D k P]⟩ [((i64.wrap (i+1))==(l.length:Nat),true),(decide ((i64.wrap (i+1))<(l.length:Nat)),false),(decide ((i64.wrap (i+1))<(l.length:Nat)),false),(b==16,false),(byR l i !=101,false),(decide (0≤i∧i.toNat<l.length),true),(b==10,true),(i==(l.length:Nat),false),((⟨⟨D⟩⟩:ByteArray)==⟨⟨[]⟩⟩,false)]:=by and_intros<;>kernel_rfl
theorem Z2c (l:List UInt8) (b i q:Int) (D:List UInt8) (k P:Int) (g:Nat→Value):Zg (evC (Zq prog Zf ZF true) 100 false (sK f55 4) (ZcJ l b i q++tl 140 g,scM b D k P,[sam false,cmp false,cmp true,cmp false,cmp false,cmp true,cmp true,cmp true,cmp true,cmp true]) ⟨[],[],[]⟩) 6 143 (some none) [bR l,.int .i64 b,undef,undef,pO 0,.bool false] ⟨2,[ZcI b D k P,ZcI b D k P]⟩ [((i64.wrap ((i64.wrap (i+1))+1))==(l.length:Nat),true),(byR l (i64.wrap (i+1))==45,true),(decide (0≤(i64.wrap (i+1))∧(i64.wrap (i+1)).toNat<l.length),true),(decide ((i64.wrap (i+1))<(l.length:Nat)),true),(byR l (i64.wrap (i+1))==45,true),(decide (0≤(i64.wrap (i+1))∧(i64.wrap (i+1)).toNat<l.length),true),(decide ((i64.wrap (i+1))<(l.length:Nat)),true),(b==16,false),(byR l i !=101,false),(decide (0≤i∧i.toNat<l.length),true),(b==10,true),(i==(l.length:Nat),false),((⟨⟨D⟩⟩:ByteArray)==⟨⟨[]⟩⟩,false)]:=by and_intros<;>kernel_rfl
theorem Z2d (l:List UInt8) (b i q:Int) (D:List UInt8) (k P:Int) (g:Nat→Value):Zg (evL (Zq prog Zf ZF true) 100 [sP f55 4,sP f55 5,sP f55 6,sP f55 7,sP f55 8,sP f55 9,sP f55 10] (ZcJ l b i q++tl 140 g,scM b D k P,[sam false,cmp false,cmp true,cmp false,cmp false,cmp true,cmp true,cmp true,cmp true,cmp false]) ⟨[],[],[]⟩) 10 139 none (Zhn l b (i64.wrap ((i64.wrap (i+1))+1)) q true) (scM b D k P) [((i64.wrap ((i64.wrap (i+1))+1))==(l.length:Nat),false),(byR l (i64.wrap (i+1))==45,true),(decide (0≤(i64.wrap (i+1))∧(i64.wrap (i+1)).toNat<l.length),true),(decide ((i64.wrap (i+1))<(l.length:Nat)),true),(byR l (i64.wrap (i+1))==45,true),(decide (0≤(i64.wrap (i+1))∧(i64.wrap (i+1)).toNat<l.length),true),(decide ((i64.wrap (i+1))<(l.length:Nat)),true),(b==16,false),(byR l i !=101,false),(decide (0≤i∧i.toNat<l.length),true),(b==10,true),(i==(l.length:Nat),false),((⟨⟨D⟩⟩:ByteArray)==⟨⟨[]⟩⟩,false)]:=by and_intros<;>kernel_rfl
theorem Z2e (l:List UInt8) (b i q:Int) (D:List UInt8) (k P:Int) (g:Nat→Value):Zg (evC (Zq prog Zf ZF true) 100 false (sK f55 4) (ZcJ l b i q++tl 140 g,scM b D k P,[sam false,cmp false,cmp true,cmp false,cmp false,cmp true,cmp false,cmp true,cmp false,cmp true,cmp true]) ⟨[],[],[]⟩) 6 143 (some none) [bR l,.int .i64 b,undef,undef,pO 0,.bool false] ⟨2,[ZcI b D k P,ZcI b D k P]⟩ [((i64.wrap ((i64.wrap (i+1))+1))==(l.length:Nat),true),(byR l (i64.wrap (i+1))==43,true),(decide (0≤(i64.wrap (i+1))∧(i64.wrap (i+1)).toNat<l.length),true),(byR l (i64.wrap (i+1))==45,false),(decide (0≤(i64.wrap (i+1))∧(i64.wrap (i+1)).toNat<l.length),true),(decide ((i64.wrap (i+1))<(l.length:Nat)),true),(byR l (i64.wrap (i+1))==45,false),(decide (0≤(i64.wrap (i+1))∧(i64.wrap (i+1)).toNat<l.length),true),(decide ((i64.wrap (i+1))<(l.length:Nat)),true),(b==16,false),(byR l i !=101,false),(decide (0≤i∧i.toNat<l.length),true),(b==10,true),(i==(l.length:Nat),false),((⟨⟨D⟩⟩:ByteArray)==⟨⟨[]⟩⟩,false)]:=by and_intros<;>kernel_rfl
theorem Z2f (l:List UInt8) (b i q:Int) (D:List UInt8) (k P:Int) (g:Nat→Value):Zg (evL (Zq prog Zf ZF true) 100 [sP f55 4,sP f55 5,sP f55 6,sP f55 7,sP f55 8,sP f55 9,sP f55 10] (ZcJ l b i q++tl 140 g,scM b D k P,[sam false,cmp false,cmp true,cmp false,cmp false,cmp true,cmp false,cmp true,cmp false,cmp true,cmp false]) ⟨[],[],[]⟩) 10 139 none (Zhn l b (i64.wrap ((i64.wrap (i+1))+1)) q false) (scM b D k P) [((i64.wrap ((i64.wrap (i+1))+1))==(l.length:Nat),false),(byR l (i64.wrap (i+1))==43,true),(decide (0≤(i64.wrap (i+1))∧(i64.wrap (i+1)).toNat<l.length),true),(byR l (i64.wrap (i+1))==45,false),(decide (0≤(i64.wrap (i+1))∧(i64.wrap (i+1)).toNat<l.length),true),(decide ((i64.wrap (i+1))<(l.length:Nat)),true),(byR l (i64.wrap (i+1))==45,false),(decide (0≤(i64.wrap (i+1))∧(i64.wrap (i+1)).toNat<l.length),true),(decide ((i64.wrap (i+1))<(l.length:Nat)),true),(b==16,false),(byR l i !=101,false),(decide (0≤i∧i.toNat<l.length),true),(b==10,true),(i==(l.length:Nat),false),((⟨⟨D⟩⟩:ByteArray)==⟨⟨[]⟩⟩,false)]:=by and_intros<;>kernel_rfl
theorem Z2g (l:List UInt8) (b i q:Int) (D:List UInt8) (k P:Int) (g:Nat→Value):Zg (evL (Zq prog Zf ZF true) 100 [sP f55 4,sP f55 5,sP f55 6,sP f55 7,sP f55 8,sP f55 9,sP f55 10] (ZcJ l b i q++tl 140 g,scM b D k P,[sam false,cmp false,cmp true,cmp false,cmp false,cmp true,cmp false,cmp true,cmp false,cmp false,cmp false]) ⟨[],[],[]⟩) 10 139 none (Zhn l b (i64.wrap (i+1)) q false) (scM b D k P) [((i64.wrap (i+1))==(l.length:Nat),false),(byR l (i64.wrap (i+1))==43,false),(decide (0≤(i64.wrap (i+1))∧(i64.wrap (i+1)).toNat<l.length),true),(byR l (i64.wrap (i+1))==45,false),(decide (0≤(i64.wrap (i+1))∧(i64.wrap (i+1)).toNat<l.length),true),(decide ((i64.wrap (i+1))<(l.length:Nat)),true),(byR l (i64.wrap (i+1))==45,false),(decide (0≤(i64.wrap (i+1))∧(i64.wrap (i+1)).toNat<l.length),true),(decide ((i64.wrap (i+1))<(l.length:Nat)),true),(b==16,false),(byR l i !=101,false),(decide (0≤i∧i.toNat<l.length),true),(b==10,true),(i==(l.length:Nat),false),((⟨⟨D⟩⟩:ByteArray)==⟨⟨[]⟩⟩,false)]:=by and_intros<;>kernel_rfl
theorem Z7e (l:List UInt8) (b i q:Int) (D:List UInt8) (k P:Int) (g:Nat→Value):Zg (evC (Zq prog Zf ZF true) 100 false (sK f55 4) (ZcJ l b i q++tl 140 g,scM b D k P,[sam false,cmp false,cmp false,cmp true,cmp false,cmp false,cmp false,cmp true]) ⟨[],[],[]⟩) 6 143 (some none) [bR l,.int .i64 b,undef,undef,pO 0,.bool false] ⟨2,[ZcI b D k P,ZcI b D k P]⟩ [((i64.wrap (i+1))==(l.length:Nat),true),(decide ((i64.wrap (i+1))<(l.length:Nat)),false),(decide ((i64.wrap (i+1))<(l.length:Nat)),false),(byR l i !=112,false),(decide (0≤i∧i.toNat<l.length),true),(b==16,true),(b==10,false),(i==(l.length:Nat),false),((⟨⟨D⟩⟩:ByteArray)==⟨⟨[]⟩⟩,false)]:=by and_intros<;>kernel_rfl
theorem Z2h (l:List UInt8) (b i q:Int) (D:List UInt8) (k P:Int) (g:Nat→Value):Zg (evC (Zq prog Zf ZF true) 100 false (sK f55 4) (ZcJ l b i q++tl 140 g,scM b D k P,[sam false,cmp false,cmp false,cmp true,cmp false,cmp true,cmp true,cmp true,cmp true,cmp true]) ⟨[],[],[]⟩) 6 143 (some none) [bR l,.int .i64 b,undef,undef,pO 0,.bool false] ⟨2,[ZcI b D k P,ZcI b D k P]⟩ [((i64.wrap ((i64.wrap (i+1))+1))==(l.length:Nat),true),(byR l (i64.wrap (i+1))==45,true),(decide (0≤(i64.wrap (i+1))∧(i64.wrap (i+1)).toNat<l.length),true),(decide ((i64.wrap (i+1))<(l.length:Nat)),true),(byR l (i64.wrap (i+1))==45,true),(decide (0≤(i64.wrap (i+1))∧(i64.wrap (i+1)).toNat<l.length),true),(decide ((i64.wrap (i+1))<(l.length:Nat)),true),(byR l i !=112,false),(decide (0≤i∧i.toNat<l.length),true),(b==16,true),(b==10,false),(i==(l.length:Nat),false),((⟨⟨D⟩⟩:ByteArray)==⟨⟨[]⟩⟩,false)]:=by and_intros<;>kernel_rfl
theorem Z2i (l:List UInt8) (b i q:Int) (D:List UInt8) (k P:Int) (g:Nat→Value):Zg (evL (Zq prog Zf ZF true) 100 [sP f55 4,sP f55 5,sP f55 6,sP f55 7,sP f55 8,sP f55 9,sP f55 10] (ZcJ l b i q++tl 140 g,scM b D k P,[sam false,cmp false,cmp false,cmp true,cmp false,cmp true,cmp true,cmp true,cmp true,cmp false]) ⟨[],[],[]⟩) 10 139 none (Zhn l b (i64.wrap ((i64.wrap (i+1))+1)) q true) (scM b D k P) [((i64.wrap ((i64.wrap (i+1))+1))==(l.length:Nat),false),(byR l (i64.wrap (i+1))==45,true),(decide (0≤(i64.wrap (i+1))∧(i64.wrap (i+1)).toNat<l.length),true),(decide ((i64.wrap (i+1))<(l.length:Nat)),true),(byR l (i64.wrap (i+1))==45,true),(decide (0≤(i64.wrap (i+1))∧(i64.wrap (i+1)).toNat<l.length),true),(decide ((i64.wrap (i+1))<(l.length:Nat)),true),(byR l i !=112,false),(decide (0≤i∧i.toNat<l.length),true),(b==16,true),(b==10,false),(i==(l.length:Nat),false),((⟨⟨D⟩⟩:ByteArray)==⟨⟨[]⟩⟩,false)]:=by and_intros<;>kernel_rfl
theorem Z2j (l:List UInt8) (b i q:Int) (D:List UInt8) (k P:Int) (g:Nat→Value):Zg (evC (Zq prog Zf ZF true) 100 false (sK f55 4) (ZcJ l b i q++tl 140 g,scM b D k P,[sam false,cmp false,cmp false,cmp true,cmp false,cmp true,cmp false,cmp true,cmp false,cmp true,cmp true]) ⟨[],[],[]⟩) 6 143 (some none) [bR l,.int .i64 b,undef,undef,pO 0,.bool false] ⟨2,[ZcI b D k P,ZcI b D k P]⟩ [((i64.wrap ((i64.wrap (i+1))+1))==(l.length:Nat),true),(byR l (i64.wrap (i+1))==43,true),(decide (0≤(i64.wrap (i+1))∧(i64.wrap (i+1)).toNat<l.length),true),(byR l (i64.wrap (i+1))==45,false),(decide (0≤(i64.wrap (i+1))∧(i64.wrap (i+1)).toNat<l.length),true),(decide ((i64.wrap (i+1))<(l.length:Nat)),true),(byR l (i64.wrap (i+1))==45,false),(decide (0≤(i64.wrap (i+1))∧(i64.wrap (i+1)).toNat<l.length),true),(decide ((i64.wrap (i+1))<(l.length:Nat)),true),(byR l i !=112,false),(decide (0≤i∧i.toNat<l.length),true),(b==16,true),(b==10,false),(i==(l.length:Nat),false),((⟨⟨D⟩⟩:ByteArray)==⟨⟨[]⟩⟩,false)]:=by and_intros<;>kernel_rfl
theorem Z2k (l:List UInt8) (b i q:Int) (D:List UInt8) (k P:Int) (g:Nat→Value):Zg (evL (Zq prog Zf ZF true) 100 [sP f55 4,sP f55 5,sP f55 6,sP f55 7,sP f55 8,sP f55 9,sP f55 10] (ZcJ l b i q++tl 140 g,scM b D k P,[sam false,cmp false,cmp false,cmp true,cmp false,cmp true,cmp false,cmp true,cmp false,cmp true,cmp false]) ⟨[],[],[]⟩) 10 139 none (Zhn l b (i64.wrap ((i64.wrap (i+1))+1)) q false) (scM b D k P) [((i64.wrap ((i64.wrap (i+1))+1))==(l.length:Nat),false),(byR l (i64.wrap (i+1))==43,true),(decide (0≤(i64.wrap (i+1))∧(i64.wrap (i+1)).toNat<l.length),true),(byR l (i64.wrap (i+1))==45,false),(decide (0≤(i64.wrap (i+1))∧(i64.wrap (i+1)).toNat<l.length),true),(decide ((i64.wrap (i+1))<(l.length:Nat)),true),(byR l (i64.wrap (i+1))==45,false),(decide (0≤(i64.wrap (i+1))∧(i64.wrap (i+1)).toNat<l.length),true),(decide ((i64.wrap (i+1))<(l.length:Nat)),true),(byR l i !=112,false),(decide (0≤i∧i.toNat<l.length),true),(b==16,true),(b==10,false),(i==(l.length:Nat),false),((⟨⟨D⟩⟩:ByteArray)==⟨⟨[]⟩⟩,false)]:=by and_intros<;>kernel_rfl
theorem Z2l (l:List UInt8) (b i q:Int) (D:List UInt8) (k P:Int) (g:Nat→Value):Zg (evL (Zq prog Zf ZF true) 100 [sP f55 4,sP f55 5,sP f55 6,sP f55 7,sP f55 8,sP f55 9,sP f55 10] (ZcJ l b i q++tl 140 g,scM b D k P,[sam false,cmp false,cmp false,cmp true,cmp false,cmp true,cmp false,cmp true,cmp false,cmp false,cmp false]) ⟨[],[],[]⟩) 10 139 none (Zhn l b (i64.wrap (i+1)) q false) (scM b D k P) [((i64.wrap (i+1))==(l.length:Nat),false),(byR l (i64.wrap (i+1))==43,false),(decide (0≤(i64.wrap (i+1))∧(i64.wrap (i+1)).toNat<l.length),true),(byR l (i64.wrap (i+1))==45,false),(decide (0≤(i64.wrap (i+1))∧(i64.wrap (i+1)).toNat<l.length),true),(decide ((i64.wrap (i+1))<(l.length:Nat)),true),(byR l (i64.wrap (i+1))==45,false),(decide (0≤(i64.wrap (i+1))∧(i64.wrap (i+1)).toNat<l.length),true),(decide ((i64.wrap (i+1))<(l.length:Nat)),true),(byR l i !=112,false),(decide (0≤i∧i.toNat<l.length),true),(b==16,true),(b==10,false),(i==(l.length:Nat),false),((⟨⟨D⟩⟩:ByteArray)==⟨⟨[]⟩⟩,false)]:=by and_intros<;>kernel_rfl
theorem Z9t (l:List UInt8) (b i q:Int) (mn:Bool) (D:List UInt8) (k P:Int) (g:Nat→Value):Zg (evC (Zq prog Zf ZF true) 100 false (ZyT f55) (Zhn l b i q mn++tl 139 g,scM b D k P,[cmp false]) ⟨[],[],[]⟩) 10 139 (some (some 2)) (Zhn l b i q mn) (scM b D k P) [(decide (i<(l.length:Nat)),false)]:=by and_intros<;>kernel_rfl
theorem Z9u (l:List UInt8) (b i q:Int) (mn:Bool) (D:List UInt8) (k P:Int) (g:Nat→Value):Zg (evC (Zq prog Zf ZF true) 100 false (ZyT f55) (Zhn l b i q mn++tl 139 g,scM b D k P,[cmp true,cmp true]) ⟨[],[],[]⟩) 6 143 (some none) [bR l,.int .i64 b,undef,undef,pO 0,.bool false] ⟨2,[ZcI b D k P,ZcI b D k P]⟩ [(decide (zy (byR l i) 10<0),true),(true,true),(decide (0≤i∧i.toNat<l.length),true),(decide (i<(l.length:Nat)),true)]:=by and_intros<;>kernel_rfl
theorem Z9v (l:List UInt8) (b i q:Int) (mn:Bool) (D:List UInt8) (k P:Int) (g:Nat→Value):Zg (evC (Zq prog Zf ZF true) 100 false (ZyT f55) (Zhn l b i q mn++tl 139 g,scM b D k P,[cmp true,cmp false]) ⟨[],[],[]⟩) 10 139 none (Zhn l b (i64.wrap (i+1)) q mn) (scM b D k (if 2000000<(i64.wrap (i64.wrap (10*P)+zy (byR l i) 10)) then 2000000 else (i64.wrap (i64.wrap (10*P)+zy (byR l i) 10)))) [(true,true),(true,true),(decide (0≤i∧i.toNat<l.length),true),(decide (zy (byR l i) 10<0),false),(true,true),(decide (0≤i∧i.toNat<l.length),true),(decide (i<(l.length:Nat)),true)]:=by and_intros<;>kernel_rfl
theorem Z9w (l:List UInt8) (b i q:Int) (D:List UInt8) (k P:Int) (g:Nat→Value):Zg (evC (Zq prog Zf ZF true) 100 false (sK f55 12) (Zhn l b i q true++tl 139 g,scM b D k P,[]) ⟨[],[],[]⟩) 6 143 (some none) [bR l,.int .i64 b,undef,undef,pO 0,.bool true] ⟨2,[ZcI b D k (i64.wrap (0-P)),ZcI b D k (i64.wrap (0-P))]⟩ []:=by and_intros<;>kernel_rfl
theorem Z9x (l:List UInt8) (b i q:Int) (D:List UInt8) (k P:Int) (g:Nat→Value):Zg (evC (Zq prog Zf ZF true) 100 false (sK f55 12) (Zhn l b i q false++tl 139 g,scM b D k P,[]) ⟨[],[],[]⟩) 6 143 (some none) [bR l,.int .i64 b,undef,undef,pO 0,.bool true] ⟨2,[ZcI b D k P,ZcI b D k P]⟩ []:=by and_intros<;>kernel_rfl
end Go.Proofs.YtgefjidphfdhdaaGreatDoor
namespace Go.Proofs.YtgefjidphfdhdaaGreatDoor
open Go.Proofs.Tryz
open Go.IntKind
open Go.KRun Go.Nt Go.Rd
set_option maxRecDepth 100000
def q1R (p:Bool):Int:=if p=true then 1 else 0
def scS (b:Int) (l:List UInt8) (i:Nat) (y:Lf):Prop:=∃ (p:Bool) (D:List UInt8) (k:Nat) (g:Nat→Value),i≤l.length∧D.length≤i∧k≤i∧sc1 b false l=(D++(sc1 b p (l.drop i)).1,k+(sc1 b p (l.drop i)).2.1,(sc1 b p (l.drop i)).2.2)∧y.1=ZcJ l b i (q1R p)++tl 140 g∧y.2.1=scM b D k 0
def scO (b:Int) (l:List UInt8) (y:Lf):Prop:=∃ (i:Nat) (p:Bool) (D:List UInt8) (k:Nat) (g:Nat→Value),i≤l.length∧D.length≤i∧k≤i∧sc1 b false l=(D,k,l.drop i)∧y.1=ZcJ l b i (q1R p)++tl 140 g∧y.2.1=scM b D k 0
theorem ZrP {b:Int}{l:List UInt8}(hb:b=10∨b=16) (h2:l.length≤100000) (r:Nat) (y:Lf) (h:∃ i,r=l.length-i∧scS b l i y):
  Runs (Zq prog Zf ZF true) (ZtH f55) y fun e z=>match e with | none=>∃ r',r'<r∧∃ i,r'=l.length-i∧scS b l i z | some none=>False | some (some id')=>id'=0∧scO b l z:=by
 have hT:=Zp ZbY;obtain⟨i,hr,p,D,k,g,hi,hD,hk,hS,ht,hh⟩:=h;obtain⟨t,h',sc⟩:=y;simp only at ht hh;subst ht hh;by_cases hc:i<l.length
 ·have lA:decide (((i:Nat):Int)<(l.length:Nat))=true:=Xa (by omega);have lI:decide ((0:Int)≤(i:Nat)∧((i:Nat):Int).toNat<l.length)=true:=Xa ⟨by omega,by rw[Xg];exact hc⟩;have lB:decide (b=10∨b=16)=true:=Xa hb;have ew:=wN (n:=i) (by omega);have ed:=ZcB hc;have eC:lq8 (l.getD i 0)=byR l (i:Nat):=by unfold lq8 byR;rw[Xg]
  by_cases h46:byR l (i:Nat)=46
  ·have c46:(byR l (i:Nat)==46)=true:=za h46;cases p with
   | false=>
    have hg:=Z9p l b (i:Nat) (q1R false) D k 0 g;rw[ew] at hg;refine (Zc (s0:=sc) hT hg (Za c46 (Za lI (Za (by decide) (Za c46 (Za lI (Z5 lA))))))).mono fun e z he=> ?_;obtain⟨rfl,⟨g',z1⟩,z2⟩:=he;have es:sc1 b false (l.drop i)=sc1 b true (l.drop (i+1)):=by
     rw[ed];unfold sc1;rw[eC,if_pos ⟨h46,rfl⟩];exact sc1.eq_def b true _ ▸ rfl
    rw[es] at hS;exact⟨l.length-(i+1),by omega,i+1,rfl,true,D,k,g',by omega,by omega,by omega,hS,z1,z2⟩
   | true=>
    have hn:zy (byR l (i:Nat)) b= -1:=by
     rw[h46];unfold zy;rw[if_neg (by omega),if_neg (by omega)]
    refine (Zc (s0:=sc) hT (Z7a l b (i:Nat) (q1R true) D k 0 g) (Za (Xb (by rw[hn];decide)) (Za lB (Za lI (Za (by decide) (Za c46 (Za lI (Z5 lA)))))))).mono fun e z he=> ?_;obtain⟨rfl,⟨g',z1⟩,z2⟩:=he;have es:sc1 b true (l.drop i)=([],0,l.drop i):=by
     rw[ed,sc1,eC,if_neg (fun h=>by cases h.2),if_neg (by rw[hn];decide)]
    rw[es] at hS;simp only[List.append_nil,Nat.add_zero] at hS;exact⟨rfl,i,true,D,k,g',hi,hD,hk,hS,z1,z2⟩
  ·have c46:(byR l (i:Nat)==46)=false:=ZR h46;by_cases hd:0≤zy (byR l (i:Nat)) b
   ·have hg:=Z9q l b (i:Nat) (q1R p) D k 0 g;rw[ew] at hg;have ep:(l.drop ((i:Nat):Int).toNat).take (((i+1:Nat):Int).toNat-((i:Nat):Int).toNat)=[l.getD i 0]:=by
     rw[Xg,Xg,show i+1-i=1 by omega,ed];rfl
    rw[ep] at hg;have ek:i64.wrap (((k:Nat):Int)+q1R p)=((k+(if p=true then 1 else 0):Nat):Int):=by
     unfold q1R;rw[Zw (by split<;>omega) (by split<;>omega)];split<;>omega
    rw[ek] at hg;refine (Zc (s0:=sc) hT hg (Za (Xa (by rw[List.length_singleton];omega)) (Za (Xa ⟨by omega,by omega,by omega⟩) (Za c46 (Za lI (Za (Xa hd) (Za lB (Za lI (Za c46 (Za lI (Z5 lA))))))))))).mono fun e z he=> ?_;obtain⟨rfl,⟨g',z1⟩,z2⟩:=he;have es:sc1 b p (l.drop i)=(l.getD i 0::(sc1 b p (l.drop (i+1))).1,(if p=true then 1 else 0)+(sc1 b p (l.drop (i+1))).2.1,(sc1 b p (l.drop (i+1))).2.2):=by
     rw[ed,sc1,eC,if_neg (fun h=>h46 h.1),if_pos hd]
    rw[es] at hS;refine⟨l.length-(i+1),by omega,i+1,rfl,p,D++[l.getD i 0],k+(if p=true then 1 else 0),g',by omega,by rw[List.length_append,List.length_singleton];omega,by split<;>omega,?_,z1,z2⟩;rw[hS];simp only[List.append_assoc,List.singleton_append,Nat.add_assoc]
   ·have es:sc1 b p (l.drop i)=([],0,l.drop i):=by
     rw[ed,sc1,eC,if_neg (fun h=>h46 h.1),if_neg hd]
    refine (Zc (s0:=sc) hT (Z6Z l b (i:Nat) (q1R p) D k 0 g) (Za (Xb (by omega)) (Za lB (Za lI (Za c46 (Za lI (Z5 lA))))))).mono fun e z he=> ?_;obtain⟨rfl,⟨g',z1⟩,z2⟩:=he;rw[es] at hS;simp only[List.append_nil,Nat.add_zero] at hS;exact⟨rfl,i,p,D,k,g',hi,hD,hk,hS,z1,z2⟩
 ·have es:l.drop i=[]:=List.drop_eq_nil_of_le (by omega);refine (Zc (s0:=sc) hT (Z9o l b (i:Nat) (q1R p) D k 0 g) (Z5 (Xb (by omega)))).mono fun e z he=> ?_;obtain⟨rfl,⟨g',z1⟩,z2⟩:=he;refine⟨rfl,i,p,D,k,g',hi,hD,hk,?_,z1,z2⟩;rw[hS,es,sc1];simp only[List.append_nil,Nat.add_zero]
def scW (b:Int) (D:List UInt8) (k:Nat) (P:Int) (v:Bool):Value:= .tuple #[.agg #[.bool false,.int .i64 b,bR D,.int .i64 k,.int .i64 P],.bool v]
def scZ (b:Int) (D:List UInt8) (k:Nat) (P:Int) (v:Bool) (e:Ex) (z:Lf):Prop:=(e=none∨e=some none)∧ZV prog f55 z.1 z.2.1=some (scW b D k P v)
theorem Zbk {l:List UInt8}{b:Int}{D:List UInt8}{k:Nat}{P:Int}{v:Bool}{e:Ex}{z:Lf}(h:e=some none∧(∃ g,z.1=[bR l,.int .i64 b,undef,undef,pO 0,.bool v]++tl 143 g)∧z.2.1=⟨2,[ZcI b D k P,ZcI b D k P]⟩):scZ b D k P v e z:=by
 obtain⟨rfl,⟨g,z1⟩,z2⟩:=h;exact⟨.inr rfl,by rw[z1,z2];rfl⟩
def pwJ (b q:Int) (mn:Bool) (l:List UInt8) (D:List UInt8) (k:Nat) (X:Nat×Bool) (i:Nat) (y:Lf):Prop:=∃ (a:Nat) (g:Nat→Value),i≤l.length∧a≤2000000∧X=pw1 a (l.drop i)∧y.1=Zhn l b i q mn++tl 139 g∧y.2.1=scM b D k a
def pwO (b q:Int) (mn:Bool) (l:List UInt8) (D:List UInt8) (k:Nat) (X:Nat×Bool) (y:Lf):Prop:=∃ (a i:Nat) (g:Nat→Value),a≤2000000∧X=(a,true)∧y.1=Zhn l b i q mn++tl 139 g∧y.2.1=scM b D k a
def pwB (b:Int) (D:List UInt8) (k:Nat) (X:Nat×Bool) (y:Lf):Prop:=X.2=false∧scZ b D k (X.1:Nat) false (some none) y
theorem Zoy {b q:Int}{mn:Bool}{l D:List UInt8}{k:Nat}{X:Nat×Bool}(h2:l.length≤100000) (r:Nat) (y:Lf) (h:∃ i,r=l.length-i∧pwJ b q mn l D k X i y):
  Runs (Zq prog Zf ZF true) (ZyT f55) y fun e z=>match e with | none=>∃ r',r'<r∧∃ i,r'=l.length-i∧pwJ b q mn l D k X i z | some none=>pwB b D k X z | some (some id')=>id'=2∧pwO b q mn l D k X z:=by
 have hT:=Zp ZbY;obtain⟨i,hr,a,g,hi,ha,hX,ht,hh⟩:=h;obtain⟨t,h',sc⟩:=y;simp only at ht hh;subst ht hh;by_cases hc:i<l.length
 ·have lA:decide (((i:Nat):Int)<(l.length:Nat))=true:=Xa (by omega);have lI:decide ((0:Int)≤(i:Nat)∧((i:Nat):Int).toNat<l.length)=true:=Xa ⟨by omega,by rw[Xg];exact hc⟩;have ew:=wN (n:=i) (by omega);have ed:=ZcB hc;have eC:lq8 (l.getD i 0)=byR l (i:Nat):=by unfold lq8 byR;rw[Xg]
  have bD:=ZhI (byR l (i:Nat)) 10;by_cases hd:0≤zy (byR l (i:Nat)) 10
  ·have hg:=Z9v l b (i:Nat) q mn D k a g;have ev:i64.wrap (i64.wrap (10*((a:Nat):Int))+zy (byR l (i:Nat)) 10)=10*((a:Nat):Int)+zy (byR l (i:Nat)) 10:=by
    rw[Zw (n:=10*((a:Nat):Int)) (by omega) (by omega),Zw (by omega) (by omega)]
   have em:(if 2000000<10*((a:Nat):Int)+zy (byR l (i:Nat)) 10 then 2000000 else 10*((a:Nat):Int)+zy (byR l (i:Nat)) 10)=((min (10*a+(zy (byR l (i:Nat)) 10).toNat) 2000000:Nat):Int):=by split<;>omega
   rw[ev,em,ew] at hg;refine (Zc (s0:=sc) hT hg (Za rfl (Za rfl (Za lI (Za (Xb (by omega)) (Za rfl (Za lI (Z5 lA)))))))).mono fun e z he=> ?_;obtain⟨rfl,⟨g',z1⟩,z2⟩:=he;refine⟨l.length-(i+1),by omega,i+1,rfl,_,g',by omega,by omega,?_,z1,z2⟩;rw[hX,ed,pw1,eC,if_pos hd]
  ·refine (Zc (s0:=sc) hT (Z9u l b (i:Nat) q mn D k a g) (Za (Xa (by omega)) (Za rfl (Za lI (Z5 lA))))).mono fun e z he=> ?_;have hx:X=(a,false):=by rw[hX,ed,pw1,eC,if_neg hd]
   have hz:=Zbk he;obtain⟨rfl,_⟩:=he;rw[hx];exact⟨rfl,hz⟩
 ·have es:l.drop i=[]:=List.drop_eq_nil_of_le (by omega);refine (Zc (s0:=sc) hT (Z9t l b (i:Nat) q mn D k a g) (Z5 (Xb (by omega)))).mono fun e z he=> ?_;obtain⟨rfl,⟨g',z1⟩,z2⟩:=he;exact⟨rfl,a,i,g',ha,by rw[hX,es];rfl,z1,z2⟩
theorem Zfc {b q:Int}{mn:Bool}{l D:List UInt8}{k j:Nat}(h2:l.length≤100000) (hj:j≤l.length) (g:Nat→Value) (s:List Dec):
  Runs (Zq prog Zf ZF true) (.seq (.block 2 (.loop (ZyT f55))) (sK f55 12)) (Zhn l b j q mn++tl 139 g,scM b D k 0,s) (scZ b D k (if (pw1 0 (l.drop j)).2=false then ((pw1 0 (l.drop j)).1:Nat) else if mn=true then -((pw1 0 (l.drop j)).1:Nat) else ((pw1 0 (l.drop j)).1:Nat)) (pw1 0 (l.drop j)).2):=by
 have hT:=Zp ZbY;obtain⟨X,hX⟩:∃ X,X=pw1 0 (l.drop j):=⟨_,rfl⟩;rw[← hX];refine Runs.seq (P1:=fun e y=>match e with | none=>pwO b q mn l D k X y | some none=>pwB b D k X y | some (some _)=>False) (Runs.forLoop (R:=pwB b D k X) (P:=pwO b q mn l D k X) (fun r y=>∃ i,r=l.length-i∧pwJ b q mn l D k X i y) (Zoy h2) (n:=l.length-j) ⟨j,rfl,0,g,hj,by omega,hX,rfl,rfl⟩) ?_ ?_
 ·rintro⟨t,hh,sc⟩ ⟨a,i,g',ha,hx,e1,e2⟩;simp only at e1 e2;subst e1 e2;rw[hx];dsimp only;cases mn with
  | true=>
   have hg:=Z9w l b (i:Nat) q D k a g';rw[Zw (n:=0-((a:Nat):Int)) (by omega) (by omega),show (0:Int)-((a:Nat):Int)= -((a:Nat):Int) by omega] at hg;refine (Zc (s0:=sc) hT hg Zca).mono fun e z he=> ?_;have hz:=Zbk he;rw[if_neg (by decide),if_pos rfl];exact hz
  | false=>
   refine (Zc (s0:=sc) hT (Z9x l b (i:Nat) q D k a g') Zca).mono fun e z he=> ?_;have hz:=Zbk he;rw[if_neg (by decide),if_neg (by decide)];exact hz
 ·rintro e ⟨t,hh,sc⟩ hc
  match e,hc with
  | none,hc=>
   obtain⟨h3,h4⟩:=hc;rw[if_pos h3,h3];exact h4
theorem Zfd {b:Int}{D:List UInt8}{k:Nat}{X:Nat×Bool}{mn:Bool}{e:Ex}{z:Lf}(h:scZ b D k (if X.2=false then (X.1:Nat) else if mn=true then -(X.1:Nat) else (X.1:Nat)) X.2 e z):scZ b D k (if X.2=false then ((X.1:Nat),false) else (if mn=true then -(X.1:Nat) else (X.1:Nat),true):Int×Bool).1 (if X.2=false then ((X.1:Nat),false) else (if mn=true then -(X.1:Nat) else (X.1:Nat),true):Int×Bool).2 e z:=by
 cases h2:X.2 with
 | true=>
  rw[h2,if_neg (by decide)] at h;rw[if_neg (by decide)];exact h
 | false=>
  rw[h2,if_pos rfl] at h;rw[if_pos rfl];exact h
theorem Zoz {b:Int}{l:List UInt8}(hb:b=10∨b=16) (h2:l.length≤100000):Runs (Zq prog Zf ZF true) (ZW [sP f55 0,sP f55 1,sP f55 2] (.seq (.block 0 (.loop (ZtH f55))) (sK f55 4))) ([bR l,.int .i64 b]++List.replicate 147 undef,⟨0,[]⟩,[]) (scZ b (sc1 b false l).1 (sc1 b false l).2.1 (scA b l).1 (scA b l).2):=by
 have hT:=Zp ZbY;refine Z3 hT (Z2b l b) Zca fun g=> ?_;refine Runs.seq (P1:=fun e y=>match e with | none=>scO b l y | some none=>False | some (some _)=>False) (Runs.forLoop (R:=fun _=>False) (P:=scO b l) (fun r y=>∃ i,r=l.length-i∧scS b l i y) (ZrP hb h2) (n:=l.length) ⟨0,by omega,false,[],0,g,by omega,by exact Nat.le_refl _,by omega,by simp,rfl,rfl⟩) ?_ (fun e y he=>by match e,he with | none,he=>exact he.elim | some _,he=>exact he.elim);rintro⟨t,hh,sc⟩ ⟨i,p,D,k,g',hi,hD,hk,hS,e1,e2⟩;simp only at e1 e2;subst e1 e2;have eA:scA b l=if D=[] then (0,false) else scE b (l.drop i):=by unfold scA;rw[hS]
 rw[eA,hS];dsimp only;by_cases hN:D=[]
 ·rw[if_pos hN];exact (Zc (s0:=sc) hT (Z9r l b (i:Nat) (q1R p) D k 0 g') (Z5 (by rw[ZeX];exact Xa hN))).mono fun e z he=>Zbk he
 have eN:((⟨⟨D⟩⟩:ByteArray)==⟨⟨[]⟩⟩)=false:=by rw[ZeX];exact Xb hN
 rw[if_neg hN];by_cases hc:¬ i<l.length
 ·have es:l.drop i=[]:=List.drop_eq_nil_of_le (by omega);rw[es];unfold scE;dsimp only;exact (Zc (s0:=sc) hT (Z9s l b (i:Nat) (q1R p) D k 0 g' (decide (b=10))) (Za (by by_cases h:b=10<;>simp [h]) (Za (za (by omega)) (Z5 eN)))).mono fun e z he=>Zbk he
 have hc:i<l.length:=by omega
 have lQ:(((i:Nat):Int)==(l.length:Nat))=false:=ZR (by omega);have lI:decide ((0:Int)≤(i:Nat)∧((i:Nat):Int).toNat<l.length)=true:=Xa ⟨by omega,by rw[Xg];exact hc⟩;have ed:=ZcB hc;have eC:lq8 (l.getD i 0)=byR l (i:Nat):=by unfold lq8 byR;rw[Xg]
 rw[ed];unfold scE;dsimp only;rw[eC];have ew:=wN (n:=i) (by omega);rcases hb with hb | hb
 ·skip
  by_cases hm:byR l (i:Nat)≠101
  ·rw[if_pos (.inl ⟨hb,hm⟩)];exact (Zc (s0:=sc) hT (Z7b l b (i:Nat) (q1R p) D k 0 g') (Za (Ztu hm) (Za lI (Za (za hb) (Za lQ (Z5 eN)))))).mono fun e z he=>Zbk he
  have hm:byR l (i:Nat)=101:=Decidable.of_not_not hm;rw[if_neg (by omega)];have lg:=(Za (ZR (show b≠16 by omega)) (Za (Ztv hm) (Za lI (Za (za hb) (Za lQ (Z5 eN))))));by_cases hc1:¬ i+1<l.length
  ·have es:l.drop (i+1)=[]:=List.drop_eq_nil_of_le (by omega);rw[es,if_pos (show (sgT []).2=[] from rfl)];have hg:=Z7d l b (i:Nat) (q1R p) D k 0 g';rw[ew] at hg;exact (Zc (s0:=sc) hT hg (Za (za (by omega)) (Za (Xb (by omega)) (Za (Xb (by omega)) lg)))).mono fun e z he=>Zbk he
  have hc1:i+1<l.length:=by omega
  have lA1:decide (((i+1:Nat):Int)<(l.length:Nat))=true:=Xa (by omega);have lI1:decide ((0:Int)≤((i+1:Nat):Int)∧((i+1:Nat):Int).toNat<l.length)=true:=Xa ⟨by omega,by rw[Xg];exact hc1⟩;have ed1:=ZcB hc1;have eC1:lq8 (l.getD (i+1) 0)=byR l ((i+1:Nat):Int):=by unfold lq8 byR;rw[Xg]
  have ew1:=wN (n:=i+1) (by omega);rw[Zbj];by_cases h45:byR l ((i+1:Nat):Int)=45
  ·have esg:sgT (l.drop (i+1))=(true,l.drop (i+1+1)):=by rw[ed1];unfold sgT;dsimp only;rw[eC1,if_pos h45]
   rw[esg];dsimp only;have lm:=Za (za h45) (Za lI1 (Za lA1 (Za (za h45) (Za lI1 (Za lA1 lg)))));by_cases hc2:l.drop (i+1+1)=[]
   ·rw[if_pos hc2,← Zbj];have hl2:l.length≤i+1+1:=List.drop_eq_nil_iff.1 hc2;have hg:=Z2c l b (i:Nat) (q1R p) D k 0 g';rw[ew,ew1] at hg;exact (Zc (s0:=sc) hT hg (Za (za (by omega)) lm)).mono fun e z he=>Zbk he
   ·rw[if_neg hc2];have hl2:¬ l.length≤i+1+1:=fun h=>hc2 (List.drop_eq_nil_iff.2 h);have hg:=Z2d l b (i:Nat) (q1R p) D k 0 g';rw[ew,ew1] at hg;refine Z3 hT hg (Za (ZR (by omega)) lm) fun g2=> ?_;refine (Zfc (b:=b) (q:=q1R p) (mn:=true) (l:=l) (D:=D) (k:=k) (j:=i+1+1) h2 (by omega) g2 _).mono fun e z hz=> ?_;exact Zfd hz
  by_cases h43:byR l ((i+1:Nat):Int)=43
  ·have esg:sgT (l.drop (i+1))=(false,l.drop (i+1+1)):=by rw[ed1];unfold sgT;dsimp only;rw[eC1,if_neg h45,if_pos h43]
   rw[esg];dsimp only;have lm:=Za (za h43) (Za lI1 (Za (ZR h45) (Za lI1 (Za lA1 (Za (ZR h45) (Za lI1 (Za lA1 lg)))))));by_cases hc2:l.drop (i+1+1)=[]
   ·rw[if_pos hc2,← Zbj];have hl2:l.length≤i+1+1:=List.drop_eq_nil_iff.1 hc2;have hg:=Z2e l b (i:Nat) (q1R p) D k 0 g';rw[ew,ew1] at hg;exact (Zc (s0:=sc) hT hg (Za (za (by omega)) lm)).mono fun e z he=>Zbk he
   ·rw[if_neg hc2];have hl2:¬ l.length≤i+1+1:=fun h=>hc2 (List.drop_eq_nil_iff.2 h);have hg:=Z2f l b (i:Nat) (q1R p) D k 0 g';rw[ew,ew1] at hg;refine Z3 hT hg (Za (ZR (by omega)) lm) fun g2=> ?_;refine (Zfc (b:=b) (q:=q1R p) (mn:=false) (l:=l) (D:=D) (k:=k) (j:=i+1+1) h2 (by omega) g2 _).mono fun e z hz=> ?_;exact Zfd hz
  ·have esg:sgT (l.drop (i+1))=(false,l.drop (i+1)):=by rw[ed1];unfold sgT;dsimp only;rw[eC1,if_neg h45,if_neg h43]
   rw[esg];dsimp only;have lm:=Za (ZR h43) (Za lI1 (Za (ZR h45) (Za lI1 (Za lA1 (Za (ZR h45) (Za lI1 (Za lA1 lg)))))));rw[if_neg (fun h=>by have:=List.drop_eq_nil_iff.1 h;omega)];have hg:=Z2g l b (i:Nat) (q1R p) D k 0 g';rw[ew] at hg;refine Z3 hT hg (Za (ZR (by omega)) lm) fun g2=> ?_;refine (Zfc (b:=b) (q:=q1R p) (mn:=false) (l:=l) (D:=D) (k:=k) (j:=i+1) h2 (by omega) g2 _).mono fun e z hz=> ?_;exact Zfd hz
 ·skip
  by_cases hm:byR l (i:Nat)≠112
  ·rw[if_pos (.inr ⟨hb,hm⟩)];exact (Zc (s0:=sc) hT (Z7c l b (i:Nat) (q1R p) D k 0 g') (Za (Ztu hm) (Za lI (Za (za hb) (Za (ZR (by omega)) (Za lQ (Z5 eN))))))).mono fun e z he=>Zbk he
  have hm:byR l (i:Nat)=112:=Decidable.of_not_not hm;rw[if_neg (by omega)];have lg:=(Za (Ztv hm) (Za lI (Za (za hb) (Za (ZR (show b≠10 by omega)) (Za lQ (Z5 eN))))));by_cases hc1:¬ i+1<l.length
  ·have es:l.drop (i+1)=[]:=List.drop_eq_nil_of_le (by omega);rw[es,if_pos (show (sgT []).2=[] from rfl)];have hg:=Z7e l b (i:Nat) (q1R p) D k 0 g';rw[ew] at hg;exact (Zc (s0:=sc) hT hg (Za (za (by omega)) (Za (Xb (by omega)) (Za (Xb (by omega)) lg)))).mono fun e z he=>Zbk he
  have hc1:i+1<l.length:=by omega
  have lA1:decide (((i+1:Nat):Int)<(l.length:Nat))=true:=Xa (by omega);have lI1:decide ((0:Int)≤((i+1:Nat):Int)∧((i+1:Nat):Int).toNat<l.length)=true:=Xa ⟨by omega,by rw[Xg];exact hc1⟩;have ed1:=ZcB hc1;have eC1:lq8 (l.getD (i+1) 0)=byR l ((i+1:Nat):Int):=by unfold lq8 byR;rw[Xg]
  have ew1:=wN (n:=i+1) (by omega);rw[Zbj];by_cases h45:byR l ((i+1:Nat):Int)=45
  ·have esg:sgT (l.drop (i+1))=(true,l.drop (i+1+1)):=by rw[ed1];unfold sgT;dsimp only;rw[eC1,if_pos h45]
   rw[esg];dsimp only;have lm:=Za (za h45) (Za lI1 (Za lA1 (Za (za h45) (Za lI1 (Za lA1 lg)))));by_cases hc2:l.drop (i+1+1)=[]
   ·rw[if_pos hc2,← Zbj];have hl2:l.length≤i+1+1:=List.drop_eq_nil_iff.1 hc2;have hg:=Z2h l b (i:Nat) (q1R p) D k 0 g';rw[ew,ew1] at hg;exact (Zc (s0:=sc) hT hg (Za (za (by omega)) lm)).mono fun e z he=>Zbk he
   ·rw[if_neg hc2];have hl2:¬ l.length≤i+1+1:=fun h=>hc2 (List.drop_eq_nil_iff.2 h);have hg:=Z2i l b (i:Nat) (q1R p) D k 0 g';rw[ew,ew1] at hg;refine Z3 hT hg (Za (ZR (by omega)) lm) fun g2=> ?_;refine (Zfc (b:=b) (q:=q1R p) (mn:=true) (l:=l) (D:=D) (k:=k) (j:=i+1+1) h2 (by omega) g2 _).mono fun e z hz=> ?_;exact Zfd hz
  by_cases h43:byR l ((i+1:Nat):Int)=43
  ·have esg:sgT (l.drop (i+1))=(false,l.drop (i+1+1)):=by rw[ed1];unfold sgT;dsimp only;rw[eC1,if_neg h45,if_pos h43]
   rw[esg];dsimp only;have lm:=Za (za h43) (Za lI1 (Za (ZR h45) (Za lI1 (Za lA1 (Za (ZR h45) (Za lI1 (Za lA1 lg)))))));by_cases hc2:l.drop (i+1+1)=[]
   ·rw[if_pos hc2,← Zbj];have hl2:l.length≤i+1+1:=List.drop_eq_nil_iff.1 hc2;have hg:=Z2j l b (i:Nat) (q1R p) D k 0 g';rw[ew,ew1] at hg;exact (Zc (s0:=sc) hT hg (Za (za (by omega)) lm)).mono fun e z he=>Zbk he
   ·rw[if_neg hc2];have hl2:¬ l.length≤i+1+1:=fun h=>hc2 (List.drop_eq_nil_iff.2 h);have hg:=Z2k l b (i:Nat) (q1R p) D k 0 g';rw[ew,ew1] at hg;refine Z3 hT hg (Za (ZR (by omega)) lm) fun g2=> ?_;refine (Zfc (b:=b) (q:=q1R p) (mn:=false) (l:=l) (D:=D) (k:=k) (j:=i+1+1) h2 (by omega) g2 _).mono fun e z hz=> ?_;exact Zfd hz
  ·have esg:sgT (l.drop (i+1))=(false,l.drop (i+1)):=by rw[ed1];unfold sgT;dsimp only;rw[eC1,if_neg h45,if_neg h43]
   rw[esg];dsimp only;have lm:=Za (ZR h43) (Za lI1 (Za (ZR h45) (Za lI1 (Za lA1 (Za (ZR h45) (Za lI1 (Za lA1 lg)))))));rw[if_neg (fun h=>by have:=List.drop_eq_nil_iff.1 h;omega)];have hg:=Z2l l b (i:Nat) (q1R p) D k 0 g';rw[ew] at hg;refine Z3 hT hg (Za (ZR (by omega)) lm) fun g2=> ?_;refine (Zfc (b:=b) (q:=q1R p) (mn:=false) (l:=l) (D:=D) (k:=k) (j:=i+1) h2 (by omega) g2 _).mono fun e z hz=> ?_;exact Zfd hz
theorem Zk1 (l:List UInt8) (b:Int) (hb:b=10∨b=16) (h2:l.length≤100000) (w:World):Calls prog 55 #[bR l,.int .i64 b] w fun r w'=>r= .returned (scW b (sc1 b false l).1 (sc1 b false l).2.1 (scA b l).1 (scA b l).2)∧Za0 w w':=
 Zai (T:=(Zq prog Zf ZF true)) func55 Zox (by rfl) (by rfl) (Zoz hb h2) w
def Z7f:Ans:=fun vals s=>
 match vals,s with
 | [.string ⟨⟨l⟩⟩,.int .i64 b],.inr (.inr (.inr (.inl d)))::s'=>some (scW b (sc1 b false l).1 (sc1 b false l).2.1 (scA b l).1 d,s',[((scA b l).2,d),(decide ((b=10∨b=16)∧l.length≤100000),true)])
 | _,_=>none
theorem ZwX:zT 55 Z7f:=by
 intro vals s v s' lg h hl w;unfold Z7f at h;split at h
 ·rename_i l b d s2;cases h;rw[ZlD,ZlD] at hl;obtain⟨l1,l2,_⟩:=hl;obtain⟨q1,q2⟩:=Xc l2;have l1:(scA b l).2=d:=l1;rw[← l1];exact Zk1 l b q1 q2 w
 ·cases h
end Go.Proofs.YtgefjidphfdhdaaGreatDoor
namespace Go.Proofs.YtgefjidphfdhdaaGreatDoor
open Go.Proofs.Tryz
open Go.IntKind
open Go.KRun Go.Nt
set_option maxRecDepth 100000
def ZdJ:Hc:=ZY 68 Zg1 hcN
theorem ZwY:HcOk ZdJ:=Zt func68 rfl Zed zp
theorem Zd4:TabOk (Zk prog Zf Zo ZdJ):=Zh Zd ZwY
def eC (F:Func):Nat→Code
 | 0=>Zs F
 | n+1=>Z0 (eC F n)
def eP (F:Func):List Code:=[Z2 (eC F 0),Z2 (eC F 1),Z2 (eC F 2)]
def eL (F:Func):Code:=cIn (cIn (Z2 (eC F 3)))
def eE (F:Func):Code:=eC F 4
def eA (F:Func):Code:=Z2 (eL F)
def eB (F:Func):Code:=cIn (Z0 (eL F))
def eQ (F:Func):List Code:=[Z2 (eB F),Z2 (Z0 (eB F)),Z2 (Z0 (Z0 (eB F)))]
def eB3 (F:Func):Code:=Z0 (Z0 (Z0 (eB F)))
def e8 (F:Func):Code:=Z2 (Z2 (eB3 F))
def eI (F:Func):Code:=cIn (cIn (Z0 (Z2 (eB3 F))))
def eZ (F:Func):Code:=Z0 (eB3 F)
theorem ZwZ:f32.body=some (ZW (eP f32) (.seq (.block 0 (.loop (.seq (eA f32) (.block 1 (ZW (eQ f32) (.seq (.seq (e8 f32) (.block 2 (.loop (eI f32)))) (eZ f32))))))) (eE f32))):=by kernel_rfl
theorem ZrQ:f32.body=some (Zs f32):=by kernel_rfl
def hQd (X:List (List Value×TypeId)) (Q:List Value):Hp:=⟨X.length+1,(Q,tU)::X⟩
def eF (a s q r i:Value):List Value:=[a,undef,bS [],s,q,r,i]
theorem ZrR (p:Option Addr) (n c:Nat) (h:Hp):Zg (evC (Zk prog Zf Zo ZdJ) 100 false (Zs f32) ([.slice p n c]++List.replicate 45 undef,h,[cmp true]) ⟨[],[],[]⟩) 3 43 (some none) [.slice p n c,undef,bS [48]] h [((n:Int)==0,true)]:=by and_intros<;>kernel_rfl
theorem Z2m (n c o:Nat) (h:Hp):Zg (evL (Zk prog Zf Zo ZdJ) 100 (eP f32) ([sl 0 o n c]++List.replicate 45 undef,h,[cmp false]) ⟨[],[],[]⟩) 7 39 none (eF (sl 0 o n c) (bS []) undef undef undef) h [((n:Int)==0,false)]:=by and_intros<;>kernel_rfl
theorem Z7g (b o n c:Nat) (d:Bool) (s q r i:Value) (h:Hp) (g:Nat→Value):Zg (evC (Zk prog Zf Zo ZdJ) 100 false (eA f32) (eF (sl b o n c) s q r i++tl 39 g,h,[cmp d]) ⟨[],[],[]⟩) 7 39 (match d with | true=>none | false=>some (some 0)) (eF (sl b o n c) s q r i) h [(decide ((n:Int)>0),d)]:=by
 cases d<;>exact by and_intros<;>kernel_rfl
theorem Z7h (o n c:Nat) (s q r i:Value) (l:List Value) (t:TypeId) (g:Nat→Value):Zg (evL (Zk prog Zf Zo ZdJ) 100 (eQ f32) (eF (sl 0 o n c) s q r i++tl 39 g,⟨1,[(l,t)]⟩,[at_]) ⟨[],[],[]⟩) 7 39 none (eF (sl 0 o n c) s (.slice (some ⟨1,0,none⟩) n grown) (uu 0) i) (hQd [(l,t)] ((l.drop o).take n)) [(Zdp (l,t) o n,true)]:=by and_intros<;>kernel_rfl
theorem Z7i (n c:Nat) (s q r i:Value) (A:List Value) (x:List Value×TypeId) (g:Nat→Value):Zg (evL (Zk prog Zf Zo ZdJ) 100 (eQ f32) (eF (sl 1 0 n c) s q r i++tl 39 g,⟨2,[(A,tU),x]⟩,[at_]) ⟨[],[],[]⟩) 7 39 none (eF (sl 1 0 n c) s (.slice (some ⟨2,0,none⟩) n grown) (uu 0) i) (hQd [(A,tU),x] ((A.drop 0).take n)) [(Zdp (A,tU) 0 n,true)]:=by and_intros<;>kernel_rfl
theorem Z9y (a s r i:Value) (b n:Nat) (h:Hp) (g:Nat→Value):Zg (evC (Zk prog Zf Zo ZdJ) 100 false (e8 f32) (eF a s (.slice (some ⟨b,0,none⟩) n grown) r i++tl 39 g,h,[]) ⟨[],[],[]⟩) 7 39 none (eF a s (.slice (some ⟨b,0,none⟩) n grown) r (.int .i64 (i64.wrap ((n:Int)-1)))) h []:=by and_intros<;>kernel_rfl
theorem Z9z (a s r:Value) (b n:Nat) (i:Int) (h:Hp) (g:Nat→Value):Zg (evC (Zk prog Zf Zo ZdJ) 100 false (eI f32) (eF a s (.slice (some ⟨b,0,none⟩) n grown) r (.int .i64 i)++tl 39 g,h,[cmp false]) ⟨[],[],[]⟩) 7 39 (some (some 2)) (eF a s (.slice (some ⟨b,0,none⟩) n grown) r (.int .i64 i)) h [(decide (i≥0),false)]:=by and_intros<;>kernel_rfl
def Z4s (r x:Int):Int:=u32.wrap (u32.wrap (65536*r)+x)
def Zph (r x:Int):Int:=u32.wrap ((Z4s r x).tdiv 10)
def Zxa (r x:Int):Int:=(Z4s r x).tmod 10
theorem Z7j (a s:Value) (n:Nat) (r i x:Int) (x1:List Value×TypeId) (Q:List Value) (g:Nat→Value):Zg (evC (Zk prog Zf Zo ZdJ) 100 false (eI f32) (eF a s (.slice (some ⟨1,0,none⟩) n grown) (uu r) (.int .i64 i)++tl 39 g,hQd [x1] Q,[cmp true,at_,val (uu x),at_,at_]) ⟨[],[],[]⟩) 7 39 none (eF a s (.slice (some ⟨1,0,none⟩) n grown) (uu (Zxa r x)) (.int .i64 (i64.wrap (i-1)))) (hQd [x1] (Q.set (0+i.toNat*1) (uu (Zph r x)))) [(decide (0+i.toNat*1<Q.length),true),inR i n,ZcP Q 0 i x,inR i n,(decide (i≥0),true)]:=by and_intros<;>kernel_rfl
theorem Z7k (a s:Value) (n:Nat) (r i x:Int) (x1 x2:List Value×TypeId) (Q:List Value) (g:Nat→Value):Zg (evC (Zk prog Zf Zo ZdJ) 100 false (eI f32) (eF a s (.slice (some ⟨2,0,none⟩) n grown) (uu r) (.int .i64 i)++tl 39 g,hQd [x1,x2] Q,[cmp true,at_,val (uu x),at_,at_]) ⟨[],[],[]⟩) 7 39 none (eF a s (.slice (some ⟨2,0,none⟩) n grown) (uu (Zxa r x)) (.int .i64 (i64.wrap (i-1)))) (hQd [x1,x2] (Q.set (0+i.toNat*1) (uu (Zph r x)))) [(decide (0+i.toNat*1<Q.length),true),inR i n,ZcP Q 0 i x,inR i n,(decide (i≥0),true)]:=by and_intros<;>kernel_rfl
theorem Z7l {X:List (List Value×TypeId)}(hX:X.length=1∨X.length=2) (a s:Value) (n:Nat) (r i x:Int) (Q:List Value) (g:Nat→Value):Zg (evC (Zk prog Zf Zo ZdJ) 100 false (eI f32) (eF a s (.slice (some ⟨X.length,0,none⟩) n grown) (uu r) (.int .i64 i)++tl 39 g,hQd X Q,[cmp true,at_,val (uu x),at_,at_]) ⟨[],[],[]⟩) 7 39 none (eF a s (.slice (some ⟨X.length,0,none⟩) n grown) (uu (Zxa r x)) (.int .i64 (i64.wrap (i-1)))) (hQd X (Q.set (0+i.toNat*1) (uu (Zph r x)))) [(decide (0+i.toNat*1<Q.length),true),inR i n,ZcP Q 0 i x,inR i n,(decide (i≥0),true)]:=by
 match X,hX with
 | [x1],_=>exact Z7j a s n r i x x1 Q g
 | [x1,x2],_=>exact Z7k a s n r i x x1 x2 Q g
def Zpi:List UInt8:=[48,49,50,51,52,53,54,55,56,57]
def Z2n (r:Int) (l:List UInt8):List UInt8:=(Zpi.drop r.toNat).take ((u32.wrap (r+1)).toNat-r.toNat)++l
theorem Z7m (a i:Value) (l:List UInt8) (n:Nat) (r:Int) (x1:List Value×TypeId) (Q:List Value) (g:Nat→Value):Zg (evC (Zk prog Zf Zo ZdJ) 100 false (eZ f32) (eF a (bS l) (.slice (some ⟨1,0,none⟩) n grown) (uu r) i++tl 39 g,hQd [x1] Q,[sam true,sam true]) ⟨[],[],[]⟩) 7 39 none (eF (sl 1 0 (Zi (Zz Q 0 n)) (Zi (Zz Q 0 n))) (bS (Z2n r l)) (.slice (some ⟨1,0,none⟩) n grown) (uu r) i) (hQd [x1] Q) [(ZaQ tU Q 0 n grown,true),(decide (((Zpi.drop r.toNat).take ((u32.wrap (r+1)).toNat-r.toNat)).length+l.length≤9223372036854775807),true),(decide (0≤r∧r≤u32.wrap (r+1)∧u32.wrap (r+1)≤((Zpi.length:Nat):Int)),true)]:=by and_intros<;>kernel_rfl
theorem Z7n (a i:Value) (l:List UInt8) (n:Nat) (r:Int) (x1 x2:List Value×TypeId) (Q:List Value) (g:Nat→Value):Zg (evC (Zk prog Zf Zo ZdJ) 100 false (eZ f32) (eF a (bS l) (.slice (some ⟨2,0,none⟩) n grown) (uu r) i++tl 39 g,hQd [x1,x2] Q,[sam true,sam true]) ⟨[],[],[]⟩) 7 39 none (eF (sl 2 0 (Zi (Zz Q 0 n)) (Zi (Zz Q 0 n))) (bS (Z2n r l)) (.slice (some ⟨2,0,none⟩) n grown) (uu r) i) (hQd [x1,x2] Q) [(ZaQ tU Q 0 n grown,true),(decide (((Zpi.drop r.toNat).take ((u32.wrap (r+1)).toNat-r.toNat)).length+l.length≤9223372036854775807),true),(decide (0≤r∧r≤u32.wrap (r+1)∧u32.wrap (r+1)≤((Zpi.length:Nat):Int)),true)]:=by and_intros<;>kernel_rfl
theorem Z2o (a s q r i:Value) (h:Hp) (g:Nat→Value):Zg (evC (Zk prog Zf Zo ZdJ) 100 false (eE f32) (eF a s q r i++tl 39 g,h,[]) ⟨[],[],[]⟩) 3 43 (some none) [a,undef,s] h []:=by and_intros<;>kernel_rfl
theorem Z2p {r x:Int}(hr:0≤r∧r<10) (hx:0≤x∧x<65536):Zph r x=(65536*r+x)/10∧Zxa r x=(65536*r+x) % 10∧0≤Zph r x∧Zph r x<65536:=by
 have eT:Z4s r x=65536*r+x:=by
  unfold Z4s;simp [IntKind.wrap,IntKind.bits,IntKind.signed];omega
 have q2:Zph r x=(65536*r+x)/10:=by
  unfold Zph;rw[eT,Int.tdiv_eq_ediv_of_nonneg (by omega)];simp [IntKind.wrap,IntKind.bits,IntKind.signed];omega
 have q3:Zxa r x=(65536*r+x) % 10:=by
  unfold Zxa;rw[eT,Int.tmod_eq_emod_of_nonneg (by omega)]
 rw[q2,q3];exact⟨rfl,rfl,by omega,by omega⟩
def a8 (x:Int):UInt8:=UInt8.ofNat (asc x).toNat
theorem Zxb:∀ k:Fin 10,(Zpi.drop k.val).take 1=[UInt8.ofNat (48+k.val)]:=by decide
theorem Zxc {r:Int}(hr:0≤r∧r<10) (l:List UInt8):Z2n r l=a8 r::l∧((Zpi.drop r.toNat).take ((u32.wrap (r+1)).toNat-r.toNat)).length=1∧u32.wrap (r+1)=r+1:=by
 have ew:u32.wrap (r+1)=r+1:=by
  simp [IntKind.wrap,IntKind.bits,IntKind.signed];omega
 have e1:(u32.wrap (r+1)).toNat-r.toNat=1:=by rw[ew];omega
 have h:=Zxb ⟨r.toNat,by omega⟩;simp only at h;unfold Z2n;rw[e1,h];refine⟨?_,rfl,ew⟩;unfold a8 asc;rw[show (48+r).toNat=48+r.toNat by omega];rfl
theorem Z90 {L:List Int}(h:∀ x∈L,Dg 65536 x):∀ x∈L,0≤x∧x<4294967296:=fun x hx=>⟨(h x hx).1,by have:=(h x hx).2;omega⟩
theorem Z2q {X:List (List Value×TypeId)}(hX:X.length=1∨X.length=2) (a:Value) (l:List UInt8) (i:Value) {L:List Int}(hL:∀ x∈L,Dg 65536 x) (hN:L.length<1073741824) (hl:l.length<9223372036854775000) (g:Nat→Value) (sc:List Dec):
  RunsW (Zk prog Zf Zo ZdJ) (.seq (.seq (e8 f32) (.block 2 (.loop (eI f32)))) (eZ f32)) (eF a (bS l) (.slice (some ⟨X.length,0,none⟩) L.length grown) (uu 0) i++tl 39 g,hQd X (wU L),sc) fun e z=>e=none∧∃ Q:List Int,Q.length=L.length∧(∀ x∈Q,Dg 65536 x)∧vb 65536 Q=vb 65536 L/10∧z.2.1=hQd X (wU Q)∧∃ (j:Int) (g:Nat→Value),z.1=eF (sl X.length 0 (Zi Q) (Zi Q)) (bS (a8 ((vb 65536 L % 10:Nat):Int)::l)) (.slice (some ⟨X.length,0,none⟩) L.length grown) (uu ((vb 65536 L % 10:Nat):Int)) (.int .i64 j)++tl 39 g:=by
 refine RunsW.seq (P1:=fun e z=>e=none∧∃ Q:List Int,Q.length=L.length∧(∀ x∈Q,Dg 65536 x)∧vb 65536 Q=vb 65536 L/10∧z.2.1=hQd X (wU Q)∧∃ (j:Int) (g:Nat→Value),z.1=eF a (bS l) (.slice (some ⟨X.length,0,none⟩) L.length grown) (uu ((vb 65536 L % 10:Nat):Int)) (.int .i64 j)++tl 39 g) ?_ ?_ (fun e y he=>by cases he.1)
 ·refine RunsW.seq (Zb (s0:=sc) Zd4 (Z9y a (bS l) (uu 0) i X.length L.length _ g) Z8y) ?_ (fun e y he=>by cases he.1);rintro⟨t,hh,s⟩ ⟨_,⟨g',e1⟩,e2⟩;have ew:i64.wrap ((L.length:Int)-1)=(L.length:Int)-1:=Zw (by omega) (by omega);rw[ew] at e1;refine (RunsW.forLoop (R:=fun _=>False) (P:=fun z=>∃ Q:List Int,Q.length=L.length∧(∀ x∈Q,Dg 65536 x)∧vb 65536 Q=vb 65536 L/10∧z.2.1=hQd X (wU Q)∧∃ (j:Int) (g:Nat→Value),z.1=eF a (bS l) (.slice (some ⟨X.length,0,none⟩) L.length grown) (uu ((vb 65536 L % 10:Nat):Int)) (.int .i64 j)++tl 39 g)
   (fun m y=>∃ (A Q H:List Int) (r:Nat) (g:Nat→Value),y.1=eF a (bS l) (.slice (some ⟨X.length,0,none⟩) L.length grown) (uu (r:Nat)) (.int .i64 ((A.length:Int)-1))++tl 39 g∧y.2.1=hQd X (wU (A++Q))∧L=A++H∧H.length=Q.length∧(∀ x∈Q,Dg 65536 x)∧r<10∧vb 65536 H=vb 65536 Q*10+r∧m=A.length)
   ?_ (n:=L.length) ⟨L,[],[],0,g',e1,by rw[List.append_nil];exact e2,by simp,rfl,(fun x hx=>by cases hx),by omega,rfl,rfl⟩).mono fun e z hz=> ?_
  ·rintro m ⟨t,h',s'⟩ ⟨A,Q,H,r,g,ht,hh,hLA,hHQ,wQ,hr,hv,hm⟩;simp only at ht hh;subst ht hh;rcases List.eq_nil_or_concat A with rfl | ⟨A',x,rfl⟩
   ·refine (Zb (s0:=s') Zd4 (Z9z a (bS l) _ X.length L.length _ _ g) (Z5 (Xb (by simp)))).mono fun e z he=> ?_;obtain⟨rfl,⟨g',z1⟩,z2⟩:=he;have eH:L=H:=by simpa using hLA
    rw[← eH] at hv hHQ;refine⟨rfl,Q,hHQ.symm,wQ,by omega,z2,((([]:List Int).length:Nat):Int)-1,g',?_⟩;rw[show vb 65536 L % 10=r by omega];exact z1
   ·rw[List.concat_eq_append] at*;have hlen:L.length=A'.length+1+H.length:=by rw[hLA];simp;omega
    have hx:=hL x (by rw[hLA];simp);have hx':0≤x∧x<65536:=⟨hx.1,by have:=hx.2;omega⟩;obtain⟨n1,n2,n3,n4⟩:=Z2p (r:=((r:Nat):Int)) ⟨by omega,by omega⟩ hx';have ei:(((A'++[x]).length:Nat):Int)-1=(A'.length:Nat):=by simp
    have eS:wU (A'++[x]++Q)=wU (A'++x::Q):=by simp
    have cS:(wU (A'++x::Q))[0+A'.length]? =some (uu x):=by
     rw[Nat.zero_add];exact ZsW A' x Q
    have l1:decide (0+((A'.length:Nat):Int).toNat*1<(wU (A'++x::Q)).length)=true:=Xa (by unfold wU;simp);have l2:(inR (A'.length:Nat) L.length).1=(inR (A'.length:Nat) L.length).2:=Xa (by omega);have l3:(ZcP (wU (A'++x::Q)) 0 (A'.length:Nat) x).1=(ZcP (wU (A'++x::Q)) 0 (A'.length:Nat) x).2:=Za2 cS;rw[ei,eS];refine (Zb (s0:=s') Zd4 (Z7l hX a (bS l) L.length (r:Nat) (A'.length:Nat) x (wU (A'++x::Q)) g) (Za l1 (Za l2 (Za l3 (Za l2 (Z5 (Xa (by omega)))))))).mono fun e z he=> ?_;obtain⟨rfl,⟨g',z1⟩,z2⟩:=he;obtain⟨r',hr'⟩:=Int.eq_ofNat_of_zero_le (show 0≤Zxa (r:Nat) x by rw[n2];omega);rw[hr'] at z1 n2;refine⟨A'.length,by rw[hm];simp,A',Zph (r:Nat) x::Q,x::H,r',g',?_,?_,by rw[hLA];simp,by simp [hHQ],?_,by omega,?_,rfl⟩
    ·rw[z1,Zw (by omega) (by omega)]
    ·rw[z2,Xg,Nat.mul_one,Nat.zero_add,Ziw];simp
    ·intro y hy;rcases List.mem_cons.1 hy with rfl | hy
     ·exact⟨n3,by omega⟩
     ·exact wQ y hy
    ·show x.toNat+65536*vb 65536 H=((Zph (r:Nat) x).toNat+65536*vb 65536 Q)*10+r';rw[hv];omega
  ·match e,hz with
   | none,hz=>exact⟨rfl,hz⟩
 ·rintro⟨t,hh,s⟩ ⟨_,Q,q1,q2,q3,q4,j,g',q5⟩;simp only at q4 q5;subst q4 q5;obtain⟨c1,c2,c3⟩:=Zxc (r:=((vb 65536 L % 10:Nat):Int)) ⟨by omega,by omega⟩ l;have ec:Zz (wU Q) 0 L.length=Q:=by rw[ZvO,← q1,List.take_length]
  have lc:ZaQ tU (wU Q) 0 L.length grown=true:=by
   rw[← q1];exact Zal (Z90 q2) (by omega) (by rfl)
  have hG:Zg (evC (Zk prog Zf Zo ZdJ) 100 false (eZ f32) (eF a (bS l) (.slice (some ⟨X.length,0,none⟩) L.length grown) (uu ((vb 65536 L % 10:Nat):Int)) (.int .i64 j)++tl 39 g',hQd X (wU Q),[sam true,sam true]) ⟨[],[],[]⟩) 7 39 none (eF (sl X.length 0 (Zi (Zz (wU Q) 0 L.length)) (Zi (Zz (wU Q) 0 L.length))) (bS (Z2n ((vb 65536 L % 10:Nat):Int) l)) (.slice (some ⟨X.length,0,none⟩) L.length grown) (uu ((vb 65536 L % 10:Nat):Int)) (.int .i64 j)) (hQd X (wU Q)) [(ZaQ tU (wU Q) 0 L.length grown,true),(decide (((Zpi.drop (((vb 65536 L % 10:Nat):Int)).toNat).take ((u32.wrap (((vb 65536 L % 10:Nat):Int)+1)).toNat-(((vb 65536 L % 10:Nat):Int)).toNat)).length+l.length≤9223372036854775807),true),(decide (0≤((vb 65536 L % 10:Nat):Int)∧((vb 65536 L % 10:Nat):Int)≤u32.wrap (((vb 65536 L % 10:Nat):Int)+1)∧u32.wrap (((vb 65536 L % 10:Nat):Int)+1)≤((Zpi.length:Nat):Int)),true)]:=by
   match X,hX with
   | [x1],_=>exact Z7m a _ l L.length _ x1 (wU Q) g'
   | [x1,x2],_=>exact Z7n a _ l L.length _ x1 x2 (wU Q) g'
  rw[c1,ec] at hG;refine (Zb (s0:=s) Zd4 hG (Za lc (Za (Xa (by rw[c2];omega)) (Z5 (Xa ⟨by omega,by rw[c3];omega,by rw[c3,show Zpi.length=10 from rfl];omega⟩))))).mono fun e z he=> ?_;obtain⟨rfl,⟨g2,z1⟩,z2⟩:=he;exact⟨rfl,Q,q1,q2,q3,z2,j,g2,z1⟩
def rdI (V0 V:Nat) (l:List UInt8):Prop:=((db 10 V).reverse.map a8)++l=ZaW V0
theorem Zjw {V0 V:Nat}{l:List UInt8}(hV:0<V) (h:rdI V0 V l):rdI V0 (V/10) (a8 ((V % 10:Nat):Int)::l):=by
 unfold rdI at*;rw[ZaU (by omega) (by omega),List.reverse_cons,List.map_append,List.append_assoc] at h;exact h
theorem Zxd {V0 V:Nat}{l:List UInt8}(h:rdI V0 V l):l.length≤(ZaW V0).length:=by
 unfold rdI at h;rw[← h,List.length_append];omega
theorem ZrS {V n:Nat}(h:V<65536^n) (hn:0<n):(ZaW V).length≤5*n:=by
 unfold ZaW ZvP;by_cases h0:V=0
 ·rw[if_pos h0];simp;omega
 ·rw[if_neg h0,List.length_map,List.length_reverse];refine Zbt (by omega) _ V (Nat.lt_of_lt_of_le h ?_);rw[Nat.pow_mul];exact Nat.pow_le_pow_left (by decide) n
def rdO (V0:Nat) (z:Lf):Prop:=∃ (a q r i:Value) (g:Nat→Value),z.1=eF a (bS (ZaW V0)) q r i++tl 39 g
def ZyU (la:List Value) (V0:Nat) (m:Nat) (z:Lf):Prop:=∃ (Q:List Int) (l:List UInt8) (k j:Nat) (r i:Int) (g:Nat→Value),z.1=eF (sl 1 0 (Zi Q) (Zi Q)) (bS l) (.slice (some ⟨1,0,none⟩) k grown) (uu r) (.int .i64 i)++tl 39 g∧z.2.1=⟨2,[(wU Q,tU),(la,tR)]⟩∧(∀ x∈Q,Dg 65536 x)∧Q.length<1073741824∧rdI V0 (vb 65536 Q) l∧m=vb 65536 Q∧j=0
theorem Zo0 {L:List Int}{n:Nat}(h0:0<n) (hn:n≤L.length) (hb:n<1073741824):Zdp (wU L,tU) 0 n=true:=by
 unfold Zdp;rw[show Zad tU=false from by kernel_rfl,Nat.ble_eq_true_of_le (show 0+n≤(wU L).length by unfold wU;simp;omega),Zl.2 h0,Nat.ble_eq_true_of_le (by omega)];have:(((wU L).drop 0).take n).all one=true:=by
  rw[List.drop_zero,List.all_eq_true];exact fun v hv=>List.all_eq_true.1 (Zi2 L) v (List.mem_of_mem_take hv)
 rw[this];rfl
theorem ZrT {la:List Value}(hla:la.all still=true) {V0:Nat}(hV0:(ZaW V0).length<9223372036854775000) (m:Nat) (z:Lf) (h:ZyU la V0 m z):
  RunsW (Zk prog Zf Zo ZdJ) (.seq (eA f32) (.block 1 (ZW (eQ f32) (.seq (.seq (e8 f32) (.block 2 (.loop (eI f32)))) (eZ f32))))) z fun e y=>match e with | none=>∃ m',m'<m∧ZyU la V0 m' y | some none=>False | some (some id')=>id'=0∧rdO V0 y:=by
 obtain⟨Q,l,k,j,r,i,g,ht,hh,hDQ,hQl,hI,hm,hj⟩:=h;obtain⟨t,h',sc⟩:=z;simp only at ht hh;subst ht hh;have htr:=Zaj (b:=65536) (by omega) hDQ;have hle:=zQ Q;have hpos:0<Zi Q↔0<vb 65536 Q:=by
  rw[htr,List.length_pos_iff,ne_eq,Zcc (by omega)];omega
 by_cases h0:0<Zi Q
 ·have hV:=hpos.1 h0;have hll:=Zxd hI;refine RunsW.seq (P1:=fun e y=>e=none∧(∃ g,y.1=eF (sl 1 0 (Zi Q) (Zi Q)) (bS l) (.slice (some ⟨1,0,none⟩) k grown) (uu r) (.int .i64 i)++tl 39 g)∧y.2.1=⟨2,[(wU Q,tU),(la,tR)]⟩) (Zb (s0:=sc) Zd4 (Z7g 1 0 (Zi Q) (Zi Q) true _ _ _ _ _ g) (Z5 (Xa (by omega)))) ?_ (fun e y he=>by cases he.1);rintro⟨t,hh,s⟩ ⟨_,⟨g1,e1⟩,e2⟩;simp only at e1 e2;subst e1 e2;have hin:RunsW (Zk prog Zf Zo ZdJ) (ZW (eQ f32) (.seq (.seq (e8 f32) (.block 2 (.loop (eI f32)))) (eZ f32))) (eF (sl 1 0 (Zi Q) (Zi Q)) (bS l) (.slice (some ⟨1,0,none⟩) k grown) (uu r) (.int .i64 i)++tl 39 g1,⟨2,[(wU Q,tU),(la,tR)]⟩,s) fun e y=>e=none∧∃ Q':List Int,Q'.length=Zi Q∧(∀ x∈Q',Dg 65536 x)∧vb 65536 Q'=vb 65536 Q/10∧∃ (j:Int) (g:Nat→Value),y.1=eF (sl 2 0 (Zi Q') (Zi Q')) (bS (a8 ((vb 65536 Q % 10:Nat):Int)::l)) (.slice (some ⟨2,0,none⟩) (Zi Q) grown) (uu ((vb 65536 Q % 10:Nat):Int)) (.int .i64 j)++tl 39 g∧y.2.1=hQd [(wU Q,tU),(la,tR)] (wU Q'):=by
   refine Zv Zd4 (Z7i (Zi Q) (Zi Q) (bS l) _ _ _ (wU Q) (la,tR) g1) (Z5 (Zo0 h0 hle (by omega))) fun g2=> ?_;have ecp:((wU Q).drop 0).take (Zi Q)=wU (db 65536 (vb 65536 Q)):=by
    rw[List.drop_zero,← zf (by omega) Q hDQ];unfold wU;rw[List.map_take]
   rw[ecp];have hr:=Z2q (X:=[(wU Q,tU),(la,tR)]) (.inr rfl) (sl 1 0 (Zi Q) (Zi Q)) l (.int .i64 i) (L:=db 65536 (vb 65536 Q)) (ZjP (by omega) _) (by rw[← htr];omega) (by omega) g2 [];rw[Zc1 (by omega),← htr] at hr;refine hr.mono fun e y he=> ?_;obtain⟨rfl,Q',p1,p2,p3,p4,j',g3,p5⟩:=he;exact⟨rfl,Q',p1,p2,p3,j',g3,p5,p4⟩
  have hblk:=RunsW.block (id:=1) (P:=fun e y=>e=none∧∃ Q':List Int,Q'.length=Zi Q∧(∀ x∈Q',Dg 65536 x)∧vb 65536 Q'=vb 65536 Q/10∧∃ (j:Int) (g:Nat→Value),y.1=eF (sl 2 0 (Zi Q') (Zi Q')) (bS (a8 ((vb 65536 Q % 10:Nat):Int)::l)) (.slice (some ⟨2,0,none⟩) (Zi Q) grown) (uu ((vb 65536 Q % 10:Nat):Int)) (.int .i64 j)++tl 39 g∧y.2.1=hQd [(wU Q,tU),(la,tR)] (wU Q')) hin (fun y he=>he) (fun y he=>by cases he.1) (fun y he=>by cases he.1) (fun id' y _ he=>by cases he.1);refine hblk.small (P':=fun e y=>match e with | none=>∃ m',m'<m∧ZyU la V0 m' y | some none=>False | some (some id')=>id'=0∧rdO V0 y) fun e y he=> .inr ?_;obtain⟨rfl,Q',p1,p2,p3,j',g3,p5,p4⟩:=he;obtain⟨t,hh,s3⟩:=y;simp only at p4 p5;subst p4 p5;refine⟨eF (sl 2 0 (Zi Q') (Zi Q')) (bS (a8 ((vb 65536 Q % 10:Nat):Int)::l)) (.slice (some ⟨2,0,none⟩) (Zi Q) grown) (uu ((vb 65536 Q % 10:Nat):Int)) (.int .i64 j'),eF (sl 1 0 (Zi Q') (Zi Q')) (bS (a8 ((vb 65536 Q % 10:Nat):Int)::l)) (.slice (some ⟨1,0,none⟩) (Zi Q) grown) (uu ((vb 65536 Q % 10:Nat):Int)) (.int .i64 j'),tl 39 g3,_,⟨2,[(wU Q',tU),(la,tR)]⟩,s3,zK 1 2,rfl,by kernel_rfl,rfl,Nat.succ_pos 1,fun i x hx=> ?_,fun i j x y hi hj _ _ hij=> ?_,?_,fun g4=> ?_⟩
  ·have hi2:i<2:=Hp.blk_lt hx;have h01:i=0∨i=1:=by omega
   rcases h01 with rfl | rfl
   ·obtain rfl:=(Option.some.inj hx).symm;exact⟨List.all_eq_true.1 hla,(la,tR),[],rfl,rfl,(List.append_nil _).symm⟩
   ·obtain rfl:=(Option.some.inj hx).symm;exact⟨List.all_eq_true.1 (Zbs _),(wU Q',tU),[],rfl,rfl,(List.append_nil _).symm⟩
  ·have hi2:i<2:=Hp.blk_lt hi;have hj2:j<2:=Hp.blk_lt hj;have h01:i=0∨i=1:=by omega
   have h02:j=0∨j=1:=by omega
   rcases h01 with rfl | rfl<;>rcases h02 with rfl | rfl
   ·rfl
   ·exact absurd hij (by decide)
   ·exact absurd hij (by decide)
   ·rfl
  ·intro v hv;simp only[eF,List.mem_cons,List.not_mem_nil,or_false] at hv;rcases hv with rfl | rfl | rfl | rfl | rfl | rfl | rfl<;>rfl
  ·have hl39:(tl 39 g3).length=39:=by simp [tl]
   refine⟨vb 65536 Q',by rw[hm,p3];exact Nat.div_lt_self hV (by omega),Q',a8 ((vb 65536 Q % 10:Nat):Int)::l,Zi Q,0,((vb 65536 Q % 10:Nat):Int),j',g4,by rw[hl39],rfl,p2,by omega,?_,rfl,rfl⟩;rw[p3];exact Zjw hV hI
 ·have hz:vb 65536 Q=0:=by
   rcases Nat.eq_zero_or_pos (vb 65536 Q) with h1 | h1
   ·exact h1
   ·exact absurd (hpos.2 h1) h0
  refine RunsW.seq (P1:=fun e y=>e=some (some 0)∧rdO V0 y) ((Zb (s0:=sc) Zd4 (Z7g 1 0 (Zi Q) (Zi Q) false _ _ _ _ _ g) (Z5 (Xb (by omega)))).mono fun e y he=> ?_) (fun y he=>by cases he.1) (fun e y he=> ?_)
  ·obtain⟨rfl,⟨g',z1⟩,z2⟩:=he;unfold rdI at hI;rw[hz,zc] at hI;have:l=ZaW V0:=by simpa using hI
   rw[this] at z1;exact⟨rfl,_,_,_,_,g',z1⟩
  ·obtain⟨h1,h2⟩:=he;cases h1;exact⟨rfl,h2⟩
theorem Zo1 {la:List Value}{o n c:Nat}{L:List Int}(hR:Row la o L) (hn:L.length=n) (hla:la.all still=true) (hD:∀ x∈L,Dg 65536 x) (h0:0<n) (hb:n<1073741824) (hV:0<vb 65536 L):
  RunsW (Zk prog Zf Zo ZdJ) (ZW (eP f32) (.seq (.block 0 (.loop (.seq (eA f32) (.block 1 (ZW (eQ f32) (.seq (.seq (e8 f32) (.block 2 (.loop (eI f32)))) (eZ f32))))))) (eE f32))) ([sl 0 o n c]++List.replicate 45 undef,h1R la,[]) fun e z=>(e=none∨e=some none)∧ZV prog f32 z.1 z.2.1=some (bS (ZaW (vb 65536 L))):=by
 have hV0:(ZaW (vb 65536 L)).length<9223372036854775000:=by
  have:=ZrS (V:=vb 65536 L) (n:=L.length) (ZbG (by omega) L hD) (by omega);omega
 have hI0:rdI (vb 65536 L) (vb 65536 L) []:=by
  unfold rdI ZaW ZvP;rw[if_neg (by omega),List.append_nil];rfl
 refine Zv Zd4 (Z2m n c o _) (Z5 (by simp;omega)) fun g=> ?_;refine RunsW.seq (P1:=fun e y=>e=none∧rdO (vb 65536 L) y) ?_ ?_ (fun e y he=>by cases he.1)
 ·
  refine (RunsW.forLoop (R:=fun _=>False) (P:=rdO (vb 65536 L)) (fun m z=>(m=vb 65536 L+1∧(∃ g,z.1=eF (sl 0 o n c) (bS []) undef undef undef++tl 39 g)∧z.2.1=h1R la)∨(m≤vb 65536 L∧ZyU la (vb 65536 L) m z)) ?_ (n:=vb 65536 L+1) (.inl ⟨rfl,⟨g,rfl⟩,rfl⟩)).mono fun e z hz=> ?_
  ·rintro m z (⟨hm,⟨g,ht⟩,hh⟩ | ⟨hm,hS⟩)
   ·obtain⟨t,h',sc⟩:=z;simp only at ht hh;subst ht hh;refine RunsW.seq (P1:=fun e y=>e=none∧(∃ g,y.1=eF (sl 0 o n c) (bS []) undef undef undef++tl 39 g)∧y.2.1=h1R la) (Zb (s0:=sc) Zd4 (Z7g 0 o n c true _ _ _ _ _ g) (Z5 (Xa (by omega)))) ?_ (fun e y he=>by cases he.1);rintro⟨t,hh,s⟩ ⟨_,⟨g1,e1⟩,e2⟩;simp only at e1 e2;subst e1 e2;have lc:Zdp (la,tR) o n=true:=by
     have h1:=hR.cut;have h2:=hR.len;unfold ZbR at h1;rw[hn] at h1 h2;unfold Zdp;simp only;rw[show Zad tR=false from by kernel_rfl,Nat.ble_eq_true_of_le h2,Zl.2 h0,h1,Zi2,Nat.ble_eq_true_of_le (by omega)];rfl
    have hin:RunsW (Zk prog Zf Zo ZdJ) (ZW (eQ f32) (.seq (.seq (e8 f32) (.block 2 (.loop (eI f32)))) (eZ f32))) (eF (sl 0 o n c) (bS []) undef undef undef++tl 39 g1,h1R la,s) fun e y=>e=none∧∃ m',m'<m∧(m'≤vb 65536 L∧ZyU la (vb 65536 L) m' y):=by
     refine Zv Zd4 (Z7h o n c (bS []) undef undef undef la tR g1) (Z5 lc) fun g2=> ?_;have ecp:(la.drop o).take n=wU L:=by
      have h1:=hR.cut;unfold ZbR at h1;rw[hn] at h1;exact h1
     rw[ecp];have hr:=Z2q (X:=[(la,tR)]) (.inl rfl) (sl 0 o n c) [] undef hD (by omega) (by decide) g2 [];rw[hn] at hr;refine hr.mono fun e y he=> ?_;obtain⟨rfl,Q',p1,p2,p3,p4,j',g3,p5⟩:=he;refine⟨rfl,vb 65536 Q',by rw[hm,p3];have:=Nat.div_le_self (vb 65536 L) 10;omega,by rw[p3];exact Nat.div_le_self _ _,Q',_,n,0,_,j',g3,p5,p4,p2,by omega,?_,rfl,rfl⟩;rw[p3];exact Zjw hV hI0
    refine (RunsW.block (id:=1) (P:=fun e y=>e=none∧∃ m',m'<m∧(m'≤vb 65536 L∧ZyU la (vb 65536 L) m' y)) hin (fun y he=>he) (fun y he=>by cases he.1) (fun y he=>by cases he.1) (fun id' y _ he=>by cases he.1)).mono fun e y he=> ?_;obtain⟨rfl,m',h1,h2⟩:=he;exact⟨m',h1,.inr h2⟩
   ·refine (ZrT hla hV0 m z hS).mono fun e y he=> ?_
    match e,he with
    | none,he=>
     obtain⟨m',h1,h2⟩:=he;exact⟨m',h1,.inr ⟨by omega,h2⟩⟩
    | some (some id'),he=>exact he
  ·match e,hz with
   | none,hz=>exact⟨rfl,hz⟩
 ·rintro⟨t,hh,s⟩ ⟨_,a,q,r,i,g',e1⟩;simp only at e1;subst e1;refine (Zb (s0:=s) Zd4 (Z2o a _ q r i hh g') Z8y).mono fun e z he=> ?_;obtain⟨rfl,⟨g2,z1⟩,z2⟩:=he;refine⟨.inr rfl,?_⟩;rw[z1];rfl
def Z4t:Zae:=fun vals h s=>
 match vals,s with
 | [.slice p n c],.inr (.inr (.inr (.inr (.inr (.string b)))))::s'=>some (.string b,h,s',[(zx h p n c && ZcQ (Zm h p n) && Nat.blt n 1073741824,true),(decide (ZaW (vO h p n)=b.data.toList),true)])
 | _,_=>none
theorem Zo2:Z6 32 Z4t:=by
 intro vals h s v h' s' lg hg hl m B w E hv;unfold Z4t at hg;split at hg
 ·rename_i p n c b s2;cases hg;obtain⟨q,q0⟩:=Z8z hl;obtain⟨l3,_⟩:=Z8z q0;have l3:=Xc l3;have et:Value.string b=bS b.data.toList:=rfl;rw[et,← l3];simp only[Xh] at q;obtain⟨⟨q1,q2⟩,q3⟩:=q;have q2:=Zdc q2;have q3:=Zl.1 q3;have hlen:=z6 q1;by_cases hn:n=0
  ·subst hn;have e0:Zm h p 0=[]:=List.length_eq_zero_iff.1 hlen;have ev:vO h p 0=0:=by unfold vO;rw[e0];rfl
   obtain⟨x,p',a,NA,eA,fA⟩:=Zb0 0 q1;have hr:Runs (Zk prog Zf Zo ZdJ) (Zs f32) ([.slice p' 0 c]++List.replicate 45 undef,⟨1,[x]⟩,[]) fun e z=>(e=none∨e=some none)∧ZV prog f32 z.1 z.2.1=some (bS (ZaW (vO h p 0))):=by
    refine (Zc Zd4 (ZrR p' 0 c _) (Z5 rfl)).mono fun e z he=> ?_;obtain⟨rfl,⟨g,e2⟩,e3⟩:=he;refine⟨.inr rfl,?_⟩;rw[e2,e3,ev];rfl
   have:=ZB (T:=(Zk prog Zf Zo ZdJ)) func32 ZrQ (h0:=⟨1,[x]⟩) ⟨rfl,fun b z hz=>by obtain⟨_,rfl⟩:=Z1f hz;exact⟨NA.ros.1,NA.lt0,NA.ros.2⟩⟩ (vals:=[.slice p' 0 c]) (fun v hv=>by rw[List.mem_singleton.1 hv];exact NA.lt (by show 0<1;omega)) (by rfl) hr.w E (s:=fun _=>a) (fun i z hz ht=>by obtain⟨_,rfl⟩:=Z1f hz;exact fA ht);simp only[List.map_cons,List.map_nil] at this;rw[eA _ rfl] at this;exact this
  ·rcases ZC q1 with ⟨rfl,rfl,rfl,e0⟩ | ⟨bk,o,x,rfl,hx,r1,_,e0⟩
   ·exact absurd rfl hn
   ·rw[e0] at q2 hlen;obtain⟨h1,h2,h3,h4,h5,h6,h7⟩:=zj r1;have ev:vO h (some ⟨bk,o,none⟩) n=vb 65536 (Zz x.1 o n):=by unfold vO;rw[e0]
    rw[ev];have hVp:0<vb 65536 (Zz x.1 o n):=by
     rcases Nat.eq_zero_or_pos (vb 65536 (Zz x.1 o n)) with hz | hz
     ·exfalso
      have:=Zi1 (by omega) q2;rw[hz,zc] at this;rw[← this] at hlen;exact hn hlen.symm
     ·exact hz
    exact ZB (T:=(Zk prog Zf Zo ZdJ)) func32 ZwZ (ZaH h7) (vals:=[sl 0 o n c]) (fun v hv=>by rw[List.mem_singleton.1 hv];rfl) (by rfl) (Zo1 h1 h2 (List.all_eq_true.2 h7) q2.1 (by omega) q3 hVp) E (s:=fun _=>bk) (zS hx h5 h6 rfl)
 ·cases hg
def f4 (n:Int):List Int:=[u32.wrap (n.tmod 65536),u32.wrap ((u64.wrap (n.tdiv 65536)).tmod 65536),u32.wrap ((u64.wrap (n.tdiv 4294967296)).tmod 65536),u32.wrap (u64.wrap (n.tdiv 281474976710656))]
theorem ZrU:f34.body=some (Zs f34):=by kernel_rfl
theorem Z2r (n:Int):Zg (evC (Zk prog Zf Zo hcV) 100 false (Zs f34) ([.int .u64 n]++List.replicate 18 undef,⟨0,[]⟩,[cmp true,cmp true,cmp true]) ⟨[],[],[]⟩) 3 16 (some none) [.int .u64 n,undef,sl 0 0 (Zi (Zz (wU (f4 n)) 0 4)) (Zi (Zz (wU (f4 n)) 0 4))] ⟨1,[(wU (f4 n),tU)]⟩ [(ZaQ tU (wU (f4 n)) 0 4 4,true),(decide ((65536:Int)=0),false),(decide ((65536:Int)=0),false),(decide ((65536:Int)=0),false)]:=by and_intros<;>kernel_rfl
theorem Zfe {n:Int}(h0:0≤n) (h1:n<18446744073709551616):u64.wrap n=n:=by simp [IntKind.wrap,IntKind.bits,IntKind.signed];omega
theorem Z2s {n:Int}(h0:0≤n) (h1:n<18446744073709551616):f4 n=[n % 65536,n/65536 % 65536,n/4294967296 % 65536,n/281474976710656]:=by
 unfold f4;rw[Int.tmod_eq_emod_of_nonneg h0,Int.tdiv_eq_ediv_of_nonneg h0,Int.tdiv_eq_ediv_of_nonneg h0,Int.tdiv_eq_ediv_of_nonneg h0,Zfe (n:=n/65536) (by omega) (by omega),Zfe (n:=n/4294967296) (by omega) (by omega),Zfe (n:=n/281474976710656) (by omega) (by omega),Int.tmod_eq_emod_of_nonneg (by omega),Int.tmod_eq_emod_of_nonneg (by omega),zt (n:=n % 65536) (by omega) (by omega),zt (n:=n/65536 % 65536) (by omega) (by omega),zt (n:=n/4294967296 % 65536) (by omega) (by omega),zt (by omega) (by omega)]
theorem Z7o {n:Int}(h0:0≤n) (h1:n<18446744073709551616):∀ x∈f4 n,Dg 65536 x:=by
 rw[Z2s h0 h1];intro x hx;simp only[List.mem_cons,List.not_mem_nil,or_false] at hx;rcases hx with rfl | rfl | rfl | rfl<;>exact⟨by omega,by omega⟩
theorem Z2t {n:Int}(h0:0≤n) (h1:n<18446744073709551616):vb 65536 (f4 n)=n.toNat:=by
 rw[Z2s h0 h1];simp only[vb];omega
def Zxe:Zae:=fun vals h s=>
 match vals with
 | [.int .u64 n]=>Zda n.toNat h s [(decide (0≤n∧n<18446744073709551616),true)]
 | _=>none
theorem Zex:Z6 34 Zxe:=by
 intro vals h s v h' s' lg hg hl m B w E hv;unfold Zxe at hg;split at hg
 ·rename_i n;unfold Zda at hg;cases hg;have q:=Xc (hl _ Xf);have hd:=Z7o q.1 q.2;have hv4:=Z2t q.1 q.2;have hl4:(f4 n).length=4:=rfl;have ec:Zz (wU (f4 n)) 0 4=f4 n:=by
   have:=ZaV (f4 n);rw[hl4] at this;exact this
  have et:Zi (f4 n)=(d16 n.toNat).length:=by
   rw[Zaj (by omega) hd,hv4];rfl
  have hrow:ZaQ tU (wU (f4 n)) 0 4 4=true:=by
   have:=Zal (L:=f4 n) (fun x hx=>⟨(hd x hx).1,by have:=(hd x hx).2;omega⟩) (by rw[hl4];omega) (c:=4) (by rw[hl4];rfl);rw[hl4] at this;exact this
  have hr:Runs (Zk prog Zf Zo hcV) (Zs f34) ([.int .u64 n]++List.replicate 18 undef,⟨0,[]⟩,[]) fun e z=>(e=none∨e=some none)∧ZV prog f34 z.1 z.2.1=some (sl 0 0 (d16 n.toNat).length (d16 n.toNat).length)∧∃ r,z.2.1.blk? 0=some (wU (d16 n.toNat)++r,tU):=by
   refine (Zc (Zh Zd Zy) (Z2r n) (Zj hrow (Zj rfl (Zj rfl (Zu rfl))))).mono fun e z he=> ?_;obtain⟨rfl,⟨g,e1⟩,e2⟩:=he;refine⟨.inr rfl,?_,?_⟩
   ·rw[e1,e2,ec,et];rfl
   ·rw[e2];refine⟨wU ((f4 n).drop (Zi (f4 n))),?_⟩;have e3:wU (d16 n.toNat)++wU ((f4 n).drop (Zi (f4 n)))=wU (f4 n):=by
     unfold d16;rw[← hv4,← zf (by omega) _ hd,← ZU,List.take_append_drop]
    rw[e3];rfl
  have:=ZI (T:=Zk prog Zf Zo hcV) func34 ZrU (h0:=⟨0,[]⟩) ⟨rfl,fun b x hx=>by have:b<0:=Hp.blk_lt hx;omega⟩ (vals:=[.int .u64 n]) (fun v hv=>by rw[List.mem_singleton.1 hv];rfl) (k:=0) (cs:=wU (d16 n.toNat)) (ty:=tU) (ZaX _) (by kernel_rfl) hr.w (by rfl) E (s:=fun i=>i) (fun i x hx _=>by have:i<0:=Hp.blk_lt hx;omega);exact this
 ·cases hg
def ZyV (F:Func):List Code:=[Z2 (Zs F),Z2 (Z0 (Zs F))]
def wR2 (F:Func):Code:=Z2 (Z2 (Z0 (Z0 (Zs F))))
def wLp (F:Func):Code:=cIn (cIn (Z0 (Z2 (Z0 (Z0 (Zs F))))))
def wEn (F:Func):Code:=Z0 (Z0 (Z0 (Zs F)))
def m4 (n:Nat):Int:=i64.wrap ((if (4:Int)<(n:Int) then 4 else (n:Int))-1)
theorem Zo3:f110.body=some (ZW (ZyV f110) (.seq (.seq (wR2 f110) (.block 0 (.loop (wLp f110)))) (wEn f110))):=by kernel_rfl
theorem ZrV (a:Value) (h:Hp):Zg (evL (Zk prog Zf Zo hcV) 100 (ZyV f110) ([a]++List.replicate 21 undef,h,[]) ⟨[],[],[]⟩) 4 18 none [a,undef,.int .u64 0,.int .u64 0] h []:=by and_intros<;>kernel_rfl
theorem Zxf (p:Option Addr) (n c:Nat) (h:Hp) (g:Nat→Value):Zg (evC (Zk prog Zf Zo hcV) 100 false (wR2 f110) ([.slice p n c,undef,.int .u64 0,.int .u64 0]++tl 18 g,h,[]) ⟨[],[],[]⟩) 5 17 none [.slice p n c,undef,.int .u64 0,.int .u64 0,.int .i64 (m4 n)] h []:=by and_intros<;>kernel_rfl
def lw (y x:Int):Int:=u64.wrap (u64.wrap (65536*y)+u64.wrap x)
theorem Zxg (o n c:Nat) (x y k:Int) (l:List Value) (g:Nat→Value):Zg (evC (Zk prog Zf Zo hcV) 100 false (wLp f110) ([sl 0 o n c,undef,.int .u64 0,.int .u64 y,.int .i64 k]++tl 17 g,⟨1,[(l,tR)]⟩,[cmp true,at_,val (.int .u32 x)]) ⟨[],[],[]⟩) 5 17 none [sl 0 o n c,undef,.int .u64 0,.int .u64 (lw y x),.int .i64 (i64.wrap (k-1))] ⟨1,[(l,tR)]⟩ [(Z4 (l[o+k.toNat*1]?) (.int .u32 x),true),(decide (0≤k∧k<n),true),(decide (k≥0),true)]:=by and_intros<;>kernel_rfl
theorem ZrW (a:Value) (y k:Int) (h:Hp) (g:Nat→Value):Zg (evC (Zk prog Zf Zo hcV) 100 false (wLp f110) ([a,undef,.int .u64 0,.int .u64 y,.int .i64 k]++tl 17 g,h,[cmp false]) ⟨[],[],[]⟩) 5 17 (some (some 0)) [a,undef,.int .u64 0,.int .u64 y,.int .i64 k] h [(decide (k≥0),false)]:=by and_intros<;>kernel_rfl
theorem ZrX (a:Value) (y k:Int) (h:Hp) (g:Nat→Value):Zg (evC (Zk prog Zf Zo hcV) 100 false (wEn f110) ([a,undef,.int .u64 0,.int .u64 y,.int .i64 k]++tl 17 g,h,[]) ⟨[],[],[]⟩) 3 19 (some none) [a,undef,.int .u64 y] h []:=by and_intros<;>kernel_rfl
def hiV (L:List Int) (k:Nat):Nat:=vb 65536 ((L.take 4).drop k)
theorem ZrY {L:List Int}{k:Nat}(hk:k<(L.take 4).length):hiV L k=dgN L k+65536*hiV L (k+1):=by
 unfold hiV dgN;rw[List.drop_eq_getElem_cons hk];simp only[vb];congr 2;rw[List.getElem_take];rw[List.length_take] at hk;simp [List.getD,List.getElem?_eq_getElem (show k<L.length by omega)]
theorem ZtI {L:List Int}(hd:∀ x∈L,Dg 65536 x) (k:Nat):hiV L k<65536^(4-k):=by
 have h:=ZbG (b:=65536) (by omega) ((L.take 4).drop k) (fun x hx=>hd x (List.mem_of_mem_take (List.mem_of_mem_drop hx)));have hl:((L.take 4).drop k).length≤4-k:=by simp;omega
 exact Nat.lt_of_lt_of_le h (Nat.pow_le_pow_right (by omega) hl)
theorem ZrZ {L:List Int}(hd:∀ x∈L,Dg 65536 x):hiV L 0=vb 65536 L % 18446744073709551616:=by
 have e:L=L.take 4++L.drop 4:=(List.take_append_drop 4 L).symm;have h4:=ZtI hd 0;unfold hiV at*;rw[List.drop_zero] at*;have ev:vb 65536 L=vb 65536 (L.take 4)+65536^(L.take 4).length*vb 65536 (L.drop 4):=by
  conv=>lhs;rw[e]
  exact ZaJ _ _ _
 rw[ev];have e4:(65536:Nat)^(4-0)=18446744073709551616:=rfl;by_cases hl:L.length≤4
 ·rw[List.drop_of_length_le hl];simp only[vb,Nat.mul_zero,Nat.add_zero];omega
 ·have:(L.take 4).length=4:=by simp;omega
  have e5:(65536:Nat)^4=18446744073709551616:=rfl;rw[this,e5];omega
theorem Zo4 {l:List Value}{o c:Nat}{L:List Int}(hR:Row l o L) (hd:∀ x∈L,Dg 65536 x) (hn:L.length<1073741824):
  Runs (Zk prog Zf Zo hcV) (ZW (ZyV f110) (.seq (.seq (wR2 f110) (.block 0 (.loop (wLp f110)))) (wEn f110))) ([sl 0 o L.length c]++List.replicate 21 undef,⟨1,[(l,tR)]⟩,[]) fun e z=>(e=none∨e=some none)∧ZV prog f110 z.1 z.2.1=some (.int .u64 ((vb 65536 L % 18446744073709551616:Nat):Int)):=by
 have hm:m4 L.length=(((L.take 4).length:Nat):Int)-1:=by
  unfold m4;rw[List.length_take];split
  ·rw[Zw (by omega) (by omega)];omega
  ·rw[Zw (by omega) (by omega)];omega
 have hz:hiV L (L.take 4).length=0:=by unfold hiV;rw[List.drop_of_length_le (Nat.le_refl _)];rfl
 refine Z3 (Zh Zd Zy) (ZrV _ _) (fun x hx=>by cases hx) fun g=> ?_;refine Runs.seq (P1:=fun e Y=>match e with | none=>(∃ g,Y.1=[sl 0 o L.length c,undef,.int .u64 0,.int .u64 (hiV L 0:Nat),.int .i64 (-1)]++tl 17 g)∧Y.2.1=⟨1,[(l,tR)]⟩ | some none=>False | some (some _)=>False) (Runs.seq (P1:=fun e Y=>e=none∧(∃ g,Y.1=[sl 0 o L.length c,undef,.int .u64 0,.int .u64 0,.int .i64 (m4 L.length)]++tl 17 g)∧Y.2.1=⟨1,[(l,tR)]⟩) (Zc (Zh Zd Zy) (Zxf _ L.length c _ g) (fun x hx=>by cases hx)) ?_ (fun e y he=>by cases he.1)) ?_ (fun e Y he=>by match e,he with | none,he=>exact he.elim | some id,he=>exact he.elim)
 ·rintro⟨t,h',s⟩ ⟨_,⟨g',ht⟩,hh⟩;simp only at ht hh;subst ht hh;refine Runs.script (s:=[]) (Runs.forLoop (P:=fun Y=>(∃ g,Y.1=[sl 0 o L.length c,undef,.int .u64 0,.int .u64 (hiV L 0:Nat),.int .i64 (-1)]++tl 17 g)∧Y.2.1=⟨1,[(l,tR)]⟩) (R:=fun _=>False)
   (fun k Y=>k≤(L.take 4).length∧(∃ g,Y.1=[sl 0 o L.length c,undef,.int .u64 0,.int .u64 (hiV L k:Nat),.int .i64 ((k:Int)-1)]++tl 17 g)∧Y.2.1=⟨1,[(l,tR)]⟩) ?_ (n:=(L.take 4).length) ⟨Nat.le_refl _,⟨g',by rw[hz,hm];rfl⟩,rfl⟩)
  rintro k ⟨t,h',s⟩ ⟨hk,⟨g,ht⟩,hh⟩;simp only at ht hh;subst ht hh;have hl4:(L.take 4).length≤L.length:=by simp;omega
  have hl5:(L.take 4).length≤4:=by simp;omega
  cases k with
  | zero=>
   refine (Zc (Zh Zd Zy) (ZrW _ _ _ _ g) (Zu (Xb (by omega)))).mono fun e z hz=> ?_;obtain⟨rfl,⟨g',z1⟩,z2⟩:=hz;exact⟨rfl,⟨g',z1⟩,z2⟩
  | succ k=>
   have hd1:=zC hd k;have hlt:=ZtI hd (k+1);have hs:=ZrY (L:=L) (k:=k) (by omega);have ek:((k+1:Nat):Int)-1=(k:Int):=by omega
   have hp:hiV L (k+1)<281474976710656:=by
    have:65536^(4-(k+1))≤65536^3:=Nat.pow_le_pow_right (by omega) (by omega);have e3:(65536:Nat)^3=281474976710656:=rfl;omega
   rw[ek];refine (Zc (Zh Zd Zy) (Zxg o L.length c (L.getD k 0) _ k l g) (Zj (by rw[Xg,Nat.mul_one,hR.cell (by omega)];simp [Z4]) (Zj (Xa (by omega)) (Zu (show decide ((k:Int)≥0)=true from Xa (by omega)))))).mono fun e z hz=> ?_;obtain⟨rfl,⟨g',z1⟩,z2⟩:=hz;have e1:lw (hiV L (k+1):Nat) (L.getD k 0)=((hiV L k:Nat):Int):=by
    unfold lw;rw[← hd1.2,Zfe (n:=65536*((hiV L (k+1):Nat):Int)) (by omega) (by omega),Zfe (n:=((dgN L k:Nat):Int)) (by omega) (by omega),Zfe (by omega) (by omega)];omega
   have e2:i64.wrap ((k:Int)-1)=(k:Int)-1:=Zw (by omega) (by omega);exact⟨k,by omega,by omega,⟨g',by rw[z1,e1,e2]⟩,z2⟩
 ·rintro⟨t,h',s⟩ ⟨⟨g',ht⟩,hh⟩;simp only at ht hh;subst ht hh;refine (Zc (Zh Zd Zy) (ZrX _ _ _ _ g') (fun x hx=>by cases hx)).mono fun e z hz=> ?_;obtain⟨rfl,⟨g2,z1⟩,z2⟩:=hz;refine⟨.inr rfl,?_⟩;rw[z1,z2,ZrZ hd];rfl
theorem Zk2:f110.body=some (Zs f110):=by kernel_rfl
theorem Zo5 (p:Option Addr) (c:Nat) (h:Hp):Zg (evC (Zk prog Zf Zo hcV) 100 false (Zs f110) ([.slice p 0 c]++List.replicate 21 undef,h,[cmp false]) ⟨[],[],[]⟩) 3 19 (some none) [.slice p 0 c,undef,.int .u64 0] h [(decide (m4 0≥0),false)]:=by and_intros<;>kernel_rfl
theorem Zxh:decide (m4 0≥0)=false:=by decide
def Zxi (h:Hp) (p:Option Addr) (n c:Nat):Bool:=zx h p n c && dgB (Zm h p n) && Nat.blt n 1073741824
def Zxj:Zae:=fun vals h s=>
 match vals with
 | [.slice p n c]=>some (.int .u64 ((vO h p n % 18446744073709551616:Nat):Int),h,s,[(Zxi h p n c,true)])
 | _=>none
theorem Zsa:Z6 110 Zxj:=by
 intro vals h s v h' s' lg hg hl m B w E hv;unfold Zxj at hg;split at hg
 ·rename_i p n c;cases hg;have q:=hl _ Xf;simp only[Zxi,Xh] at q;obtain⟨⟨q1,q2⟩,q3⟩:=q;have q2:=Zbu q2;have q3:=Zl.1 q3;have hlen:=z6 q1;by_cases hn:n=0
  ·subst hn;have e0:Zm h p 0=[]:=List.length_eq_zero_iff.1 hlen;have ev:vO h p 0=0:=by unfold vO;rw[e0];rfl
   obtain⟨x,p',a,NA,eA,fA⟩:=Zb0 0 q1;have hr:Runs (Zk prog Zf Zo hcV) (Zs f110) ([.slice p' 0 c]++List.replicate 21 undef,⟨1,[x]⟩,[]) fun e z=>(e=none∨e=some none)∧ZV prog f110 z.1 z.2.1=some (.int .u64 ((vO h p 0 % 18446744073709551616:Nat):Int)):=by
    refine (Zc (Zh Zd Zy) (Zo5 p' c _) (Zu Zxh)).mono fun e z he=> ?_;obtain⟨rfl,⟨g,e2⟩,e3⟩:=he;refine⟨.inr rfl,?_⟩;rw[e2,e3,ev];rfl
   have b1:∀ {i:Nat}{z:List Value×TypeId},(⟨1,[x]⟩:Hp).blk? i=some z→i=0∧z=x:=fun {i z} hz=>by
    have:i<1:=Hp.blk_lt hz;have hi:i=0:=by omega
    subst hi;exact⟨rfl,(Option.some.inj hz).symm⟩
   have:=ZB (T:=Zk prog Zf Zo hcV) func110 Zk2 (h0:=⟨1,[x]⟩) ⟨rfl,fun b z hz=>by obtain⟨_,rfl⟩:=b1 hz;exact⟨NA.ros.1,NA.lt0,NA.ros.2⟩⟩ (vals:=[.slice p' 0 c]) (fun v hv=>by rw[List.mem_singleton.1 hv];exact NA.lt (by show 0<1;omega)) (by rfl) hr.w E (s:=fun _=>a) (fun i z hz ht=>by obtain⟨_,rfl⟩:=b1 hz;exact fA ht);simp only[List.map_cons,List.map_nil] at this;rw[eA _ rfl] at this;exact this
  rcases ZC q1 with ⟨rfl,rfl,rfl,e0⟩ | ⟨b,o,x,rfl,hx,r1,_,e0⟩
  ·exact absurd rfl hn
  ·rw[e0] at q2 hlen;obtain⟨h1,h2,h3,h4,h5,h6,h7⟩:=zj r1;have r:=Zo4 (c:=c) h1 q2 (by rw[h2];exact q3);rw[h2] at r;have ev:vO h (some ⟨b,o,none⟩) n=vb 65536 (Zz x.1 o n):=by unfold vO;rw[e0]
   rw[ev];exact ZB (T:=Zk prog Zf Zo hcV) func110 Zo3 (ZaH h7) (vals:=[sl 0 o n c]) (fun v hv=>by rw[List.mem_singleton.1 hv];rfl) (by rfl) r.w E (s:=fun _=>b) (zS hx h5 h6 rfl)
 ·cases hg
end Go.Proofs.YtgefjidphfdhdaaGreatDoor
