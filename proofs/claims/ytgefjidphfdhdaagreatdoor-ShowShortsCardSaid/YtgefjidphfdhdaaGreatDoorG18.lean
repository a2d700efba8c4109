/-
  RfD, RfE, RfF, RfG, RnE
-/
import Derived.Test.YtgefjidphfdhdaaGreatDoorG17
namespace Go.Proofs.YtgefjidphfdhdaaGreatDoor
open Go.Proofs.Tryz
open Go.IntKind
open Go.KRun Go.Nt Go.Wd
set_option maxRecDepth 100000
set_option linter.unusedVariables false
def tC (F:Func):Nat→Code
 | 0=>Zs F
 | n+1=>Z0 (tC F n)
def tS1 (F:Func):List Code:=[Z2 (tC F 0),Z2 (tC F 1),Z2 (tC F 2),Z2 (tC F 3),Z2 (tC F 4),Z2 (tC F 5)]
def tS2 (F:Func):List Code:=[Z2 (tC F 6),Z2 (tC F 7),Z2 (tC F 8)]
def tS3 (F:Func):Code:=Z2 (tC F 9)
def tS4 (F:Func):Code:=Z2 (tC F 10)
def tS5 (F:Func):Code:=tC F 11
theorem Zen:f109.body=some (Zs f109):=by kernel_rfl
theorem Zsj:f109.body=some (ZW (tS1 f109) (ZW (tS2 f109) (.seq (tS3 f109) (.seq (tS4 f109) (tS5 f109))))):=by kernel_rfl
abbrev pX9 (neg:Bool) (E N M:Int) (o n c:Nat) (r:List Value):List Value:=vRN neg E (sl 0 o n c):: .int .i64 N:: .int .i64 M:: .pointer (some ⟨1,0,none⟩)::undef::undef::r
def bX (neg:Bool) (E:Int) (o n c:Nat):List Value×TypeId:=bOf neg E (sl 0 o n c)
def hX (neg:Bool) (E:Int) (o n c:Nat) (l:List Value):Hp:=⟨2,[bX neg E o n c,(l,tR)]⟩
def hQ (neg:Bool) (E:Int) (o n c:Nat) (l:List Value) (q:Nat):Hp:=⟨3,[(wU (d16 q),tU),bX neg E o n c,(l,tR)]⟩
def aX (o:Nat):Option Addr:=some ⟨0,o,none⟩
def dif (x y:Int):Int:=i64.wrap (x-y)
def ZcL (h:Hp) (p:Option Addr) (n c:Nat) (k:Int):Bool:=zx h p n c && dgB (Zm h p n) && Nat.blt (k.toNat/16+n+3) 1073741824 && decide (0≤k)
def Zab (h:Hp) (p:Option Addr) (n c:Nat):Bool:=zx h p n c && ZcQ (Zm h p n) && Nat.blt n 1073741824
theorem Z21 (neg:Bool) (E N M:Int) (o n c:Nat) (l:List Value):Zg (evC (Zk prog Zf Zo hcW) 200 false (Zs f109) ([vRN neg E (sl 0 o n c),.int .i64 N,.int .i64 M]++List.replicate 103 undef,⟨1,[(l,tR)]⟩,[cmp true,cmp true]) ⟨[],[],[]⟩) 8 98 (some none) (pX9 neg E N M o n c [sOf 2 ((vO (hX neg E o n c l) (aX o) n)*2^(dif E N).toNat),.bool false]) (nxt (hX neg E o n c l) ((vO (hX neg E o n c l) (aX o) n)*2^(dif E N).toNat)) [(ZcL (hX neg E o n c l) (aX o) n c (dif E N),true),(decide (0<n),true),(decide (E≥N),true)]:=by and_intros<;>kernel_rfl
theorem Z22 (neg:Bool) (E N M:Int) (o n c:Nat) (l:List Value):Zg (evC (Zk prog Zf Zo hcW) 200 false (Zs f109) ([vRN neg E (sl 0 o n c),.int .i64 N,.int .i64 M]++List.replicate 103 undef,⟨1,[(l,tR)]⟩,[cmp true,cmp false]) ⟨[],[],[]⟩) 8 98 (some none) (pX9 neg E N M o n c [Zn,.bool false]) (hX neg E o n c l) [(zx (hX neg E o n c l) (aX o) n c,true),(decide (0<n),false),(decide (E≥N),true)]:=by and_intros<;>kernel_rfl
theorem Z23 (neg:Bool) (E N M:Int) (o n c:Nat) (l:List Value):Zg (evC (Zk prog Zf Zo hcW) 200 false (Zs f109) ([vRN neg E (sl 0 o n c),.int .i64 N,.int .i64 M]++List.replicate 103 undef,⟨1,[(l,tR)]⟩,[cmp false,cmp true,cmp false]) ⟨[],[],[]⟩) 8 98 (some none) (pX9 neg E N M o n c [sOf 2 ((vO (hX neg E o n c l) (aX o) n)/2^(dif N E).toNat),.bool false]) (nxt (hX neg E o n c l) ((vO (hX neg E o n c l) (aX o) n)/2^(dif N E).toNat)) [(decide ((vO (hX neg E o n c l) (aX o) n) % 2^(dif N E).toNat≠0),false),(decide ((dif N E).toNat/16<n),true),(Ze7 (hX neg E o n c l) (aX o) n c (dif N E),true),(decide (E≥N),false)]:=by and_intros<;>kernel_rfl
theorem Z24 (neg:Bool) (E N M:Int) (o n c:Nat) (l:List Value):Zg (evC (Zk prog Zf Zo hcW) 200 false (Zs f109) ([vRN neg E (sl 0 o n c),.int .i64 N,.int .i64 M]++List.replicate 103 undef,⟨1,[(l,tR)]⟩,[cmp false,cmp false,cmp false]) ⟨[],[],[]⟩) 8 98 (some none) (pX9 neg E N M o n c [Zn,.bool false]) (hX neg E o n c l) [(decide ((vO (hX neg E o n c l) (aX o) n) % 2^(dif N E).toNat≠0),false),(decide ((dif N E).toNat/16<n),false),(Ze7 (hX neg E o n c l) (aX o) n c (dif N E),true),(decide (E≥N),false)]:=by and_intros<;>kernel_rfl
theorem Z25 (neg d:Bool) (E N M:Int) (o n c:Nat) (l:List Value):Zg (evL (Zk prog Zf Zo hcW) 200 (tS1 f109) ([vRN neg E (sl 0 o n c),.int .i64 N,.int .i64 M]++List.replicate 103 undef,⟨1,[(l,tR)]⟩,[cmp false,cmp true,cmp true,cmp d]) ⟨[],[],[]⟩) 12 94 none (pX9 neg E N M o n c [Zn,.bool false,.int .i64 (dif N E),sOf 2 ((vO (hX neg E o n c l) (aX o) n)/2^(dif N E).toNat),.bool true,.bool d]) (nxt (hX neg E o n c l) ((vO (hX neg E o n c l) (aX o) n)/2^(dif N E).toNat)) [(((vO (nxt (hX neg E o n c l) ((vO (hX neg E o n c l) (aX o) n)/2^(dif N E).toNat)) (aX o) n/2^(dif (dif N E) 1).toNat % 2:Nat):Int)==1,d),(Zxq (nxt (hX neg E o n c l) ((vO (hX neg E o n c l) (aX o) n)/2^(dif N E).toNat)) (aX o) n c,true),(decide (0≤dif (dif N E) 1∧dif (dif N E) 1<4611686018427387904),true),(decide ((vO (hX neg E o n c l) (aX o) n) % 2^(dif N E).toNat≠0),true),(decide ((dif N E).toNat/16<n),true),(Ze7 (hX neg E o n c l) (aX o) n c (dif N E),true),(decide (E≥N),false)]:=by and_intros<;>kernel_rfl
theorem Z26 (neg d:Bool) (E N M:Int) (o n c:Nat) (l:List Value):Zg (evL (Zk prog Zf Zo hcW) 200 (tS1 f109) ([vRN neg E (sl 0 o n c),.int .i64 N,.int .i64 M]++List.replicate 103 undef,⟨1,[(l,tR)]⟩,[cmp false,cmp false,cmp true,cmp d]) ⟨[],[],[]⟩) 12 94 none (pX9 neg E N M o n c [Zn,.bool false,.int .i64 (dif N E),Zn,.bool true,.bool d]) (hX neg E o n c l) [(((vO (hX neg E o n c l) (aX o) n/2^(dif (dif N E) 1).toNat % 2:Nat):Int)==1,d),(Zxq (hX neg E o n c l) (aX o) n c,true),(decide (0≤dif (dif N E) 1∧dif (dif N E) 1<4611686018427387904),true),(decide ((vO (hX neg E o n c l) (aX o) n) % 2^(dif N E).toNat≠0),true),(decide ((dif N E).toNat/16<n),false),(Ze7 (hX neg E o n c l) (aX o) n c (dif N E),true),(decide (E≥N),false)]:=by and_intros<;>kernel_rfl
theorem ZxA (neg j:Bool) (E N M b:Int) (o n c q:Nat) (l:List Value) (g:Nat→Value):Zg (evL (Zk prog Zf Zo hcW) 200 (tS2 f109) ((pX9 neg E N M o n c [Zn,.bool false,.int .i64 b,sOf 2 q,.bool true,.bool false])++tl 94 g,(hQ neg E o n c l q),[cmp false]) ⟨[],[],[]⟩) 14 92 none (pX9 neg E N M o n c [Zn,.bool false,.int .i64 b,sOf 2 q,.bool true,.bool false,sl 0 o n c,.bool false]) (hQ neg E o n c l q) [(decide (b≤((bl (vO (hQ neg E o n c l q) (aX o) n):Nat):Int)),false),(Zab (hQ neg E o n c l q) (aX o) n c,true)]:=by and_intros<;>kernel_rfl
theorem ZxB (neg j:Bool) (E N M b:Int) (o n c q:Nat) (l:List Value) (g:Nat→Value):Zg (evL (Zk prog Zf Zo hcW) 200 (tS2 f109) ((pX9 neg E N M o n c [Zn,.bool false,.int .i64 b,sOf 2 q,.bool true,.bool true])++tl 94 g,(hQ neg E o n c l q),[cmp false,cmp true,cmp j]) ⟨[],[],[]⟩) 14 92 none (pX9 neg E N M o n c [Zn,.bool false,.int .i64 b,sOf 2 q,.bool true,.bool true,sl 0 o n c,.bool j]) (nxt (nxt (hQ neg E o n c l q) 1) (vO (nxt (hQ neg E o n c l q) 1) (some ⟨3,0,none⟩) (d16 1).length*2^(dif b 1).toNat)) [(zY (vO (nxt (nxt (hQ neg E o n c l q) 1) (vO (nxt (hQ neg E o n c l q) 1) (some ⟨3,0,none⟩) (d16 1).length*2^(dif b 1).toNat)) (aX o) n) (vO (nxt (nxt (hQ neg E o n c l q) 1) (vO (nxt (hQ neg E o n c l q) 1) (some ⟨3,0,none⟩) (d16 1).length*2^(dif b 1).toNat)) (some ⟨4,0,none⟩) (d16 (vO (nxt (hQ neg E o n c l q) 1) (some ⟨3,0,none⟩) (d16 1).length*2^(dif b 1).toNat)).length)==0,j),(ZL (nxt (nxt (hQ neg E o n c l q) 1) (vO (nxt (hQ neg E o n c l q) 1) (some ⟨3,0,none⟩) (d16 1).length*2^(dif b 1).toNat)) (aX o) (some ⟨4,0,none⟩) n c (d16 (vO (nxt (hQ neg E o n c l q) 1) (some ⟨3,0,none⟩) (d16 1).length*2^(dif b 1).toNat)).length (d16 (vO (nxt (hQ neg E o n c l q) 1) (some ⟨3,0,none⟩) (d16 1).length*2^(dif b 1).toNat)).length,true),(ZcL (nxt (hQ neg E o n c l q) 1) (some ⟨3,0,none⟩) (d16 1).length (d16 1).length (dif b 1),true),(decide (0<(d16 1).length),true),ZcK,(decide (b≤((bl (vO (hQ neg E o n c l q) (aX o) n):Nat):Int)),false),(Zab (hQ neg E o n c l q) (aX o) n c,true)]:=by and_intros<;>kernel_rfl
theorem ZxC (neg j:Bool) (E N M b:Int) (o n c q:Nat) (l:List Value) (g:Nat→Value):Zg (evL (Zk prog Zf Zo hcW) 200 (tS2 f109) ((pX9 neg E N M o n c [Zn,.bool false,.int .i64 b,sOf 2 q,.bool true,.bool false])++tl 94 g,(hQ neg E o n c l q),[cmp true,cmp true,cmp true]) ⟨[],[],[]⟩) 14 92 none (pX9 neg E N M o n c [Zn,.bool false,.int .i64 b,sOf 2 q,.bool true,.bool false,sOf 4 (vO (nxt (hQ neg E o n c l q) (vO (hQ neg E o n c l q) (some ⟨2,0,none⟩) (d16 q).length*2^b.toNat)) (aX o) n-vO (nxt (hQ neg E o n c l q) (vO (hQ neg E o n c l q) (some ⟨2,0,none⟩) (d16 q).length*2^b.toNat)) (some ⟨3,0,none⟩) (d16 (vO (hQ neg E o n c l q) (some ⟨2,0,none⟩) (d16 q).length*2^b.toNat)).length),.bool false]) (nxt (nxt (hQ neg E o n c l q) (vO (hQ neg E o n c l q) (some ⟨2,0,none⟩) (d16 q).length*2^b.toNat)) (vO (nxt (hQ neg E o n c l q) (vO (hQ neg E o n c l q) (some ⟨2,0,none⟩) (d16 q).length*2^b.toNat)) (aX o) n-vO (nxt (hQ neg E o n c l q) (vO (hQ neg E o n c l q) (some ⟨2,0,none⟩) (d16 q).length*2^b.toNat)) (some ⟨3,0,none⟩) (d16 (vO (hQ neg E o n c l q) (some ⟨2,0,none⟩) (d16 q).length*2^b.toNat)).length)) [(ZL (nxt (hQ neg E o n c l q) (vO (hQ neg E o n c l q) (some ⟨2,0,none⟩) (d16 q).length*2^b.toNat)) (aX o) (some ⟨3,0,none⟩) n c (d16 (vO (hQ neg E o n c l q) (some ⟨2,0,none⟩) (d16 q).length*2^b.toNat)).length (d16 (vO (hQ neg E o n c l q) (some ⟨2,0,none⟩) (d16 q).length*2^b.toNat)).length && Nat.ble (vO (nxt (hQ neg E o n c l q) (vO (hQ neg E o n c l q) (some ⟨2,0,none⟩) (d16 q).length*2^b.toNat)) (some ⟨3,0,none⟩) (d16 (vO (hQ neg E o n c l q) (some ⟨2,0,none⟩) (d16 q).length*2^b.toNat)).length) (vO (nxt (hQ neg E o n c l q) (vO (hQ neg E o n c l q) (some ⟨2,0,none⟩) (d16 q).length*2^b.toNat)) (aX o) n),true),(decide (0<n),true),(ZcL (hQ neg E o n c l q) (some ⟨2,0,none⟩) (d16 q).length (d16 q).length b,true),(decide (0<(d16 q).length),true),(decide (b≤((bl (vO (hQ neg E o n c l q) (aX o) n):Nat):Int)),true),(Zab (hQ neg E o n c l q) (aX o) n c,true)]:=by and_intros<;>kernel_rfl
theorem ZxD (neg j:Bool) (E N M b:Int) (o n c q:Nat) (l:List Value) (g:Nat→Value):Zg (evL (Zk prog Zf Zo hcW) 200 (tS2 f109) ((pX9 neg E N M o n c [Zn,.bool false,.int .i64 b,sOf 2 q,.bool true,.bool true])++tl 94 g,(hQ neg E o n c l q),[cmp true,cmp true,cmp true,cmp true,cmp j]) ⟨[],[],[]⟩) 14 92 none (pX9 neg E N M o n c [Zn,.bool false,.int .i64 b,sOf 2 q,.bool true,.bool true,sOf 4 (vO (nxt (hQ neg E o n c l q) (vO (hQ neg E o n c l q) (some ⟨2,0,none⟩) (d16 q).length*2^b.toNat)) (aX o) n-vO (nxt (hQ neg E o n c l q) (vO (hQ neg E o n c l q) (some ⟨2,0,none⟩) (d16 q).length*2^b.toNat)) (some ⟨3,0,none⟩) (d16 (vO (hQ neg E o n c l q) (some ⟨2,0,none⟩) (d16 q).length*2^b.toNat)).length),.bool j]) (nxt (nxt (nxt (nxt (hQ neg E o n c l q) (vO (hQ neg E o n c l q) (some ⟨2,0,none⟩) (d16 q).length*2^b.toNat)) (vO (nxt (hQ neg E o n c l q) (vO (hQ neg E o n c l q) (some ⟨2,0,none⟩) (d16 q).length*2^b.toNat)) (aX o) n-vO (nxt (hQ neg E o n c l q) (vO (hQ neg E o n c l q) (some ⟨2,0,none⟩) (d16 q).length*2^b.toNat)) (some ⟨3,0,none⟩) (d16 (vO (hQ neg E o n c l q) (some ⟨2,0,none⟩) (d16 q).length*2^b.toNat)).length)) 1) (vO (nxt (nxt (nxt (hQ neg E o n c l q) (vO (hQ neg E o n c l q) (some ⟨2,0,none⟩) (d16 q).length*2^b.toNat)) (vO (nxt (hQ neg E o n c l q) (vO (hQ neg E o n c l q) (some ⟨2,0,none⟩) (d16 q).length*2^b.toNat)) (aX o) n-vO (nxt (hQ neg E o n c l q) (vO (hQ neg E o n c l q) (some ⟨2,0,none⟩) (d16 q).length*2^b.toNat)) (some ⟨3,0,none⟩) (d16 (vO (hQ neg E o n c l q) (some ⟨2,0,none⟩) (d16 q).length*2^b.toNat)).length)) 1) (some ⟨5,0,none⟩) (d16 1).length*2^(dif b 1).toNat)) [(zY (vO (nxt (nxt (nxt (nxt (hQ neg E o n c l q) (vO (hQ neg E o n c l q) (some ⟨2,0,none⟩) (d16 q).length*2^b.toNat)) (vO (nxt (hQ neg E o n c l q) (vO (hQ neg E o n c l q) (some ⟨2,0,none⟩) (d16 q).length*2^b.toNat)) (aX o) n-vO (nxt (hQ neg E o n c l q) (vO (hQ neg E o n c l q) (some ⟨2,0,none⟩) (d16 q).length*2^b.toNat)) (some ⟨3,0,none⟩) (d16 (vO (hQ neg E o n c l q) (some ⟨2,0,none⟩) (d16 q).length*2^b.toNat)).length)) 1) (vO (nxt (nxt (nxt (hQ neg E o n c l q) (vO (hQ neg E o n c l q) (some ⟨2,0,none⟩) (d16 q).length*2^b.toNat)) (vO (nxt (hQ neg E o n c l q) (vO (hQ neg E o n c l q) (some ⟨2,0,none⟩) (d16 q).length*2^b.toNat)) (aX o) n-vO (nxt (hQ neg E o n c l q) (vO (hQ neg E o n c l q) (some ⟨2,0,none⟩) (d16 q).length*2^b.toNat)) (some ⟨3,0,none⟩) (d16 (vO (hQ neg E o n c l q) (some ⟨2,0,none⟩) (d16 q).length*2^b.toNat)).length)) 1) (some ⟨5,0,none⟩) (d16 1).length*2^(dif b 1).toNat)) (some ⟨4,0,none⟩) (d16 (vO (nxt (hQ neg E o n c l q) (vO (hQ neg E o n c l q) (some ⟨2,0,none⟩) (d16 q).length*2^b.toNat)) (aX o) n-vO (nxt (hQ neg E o n c l q) (vO (hQ neg E o n c l q) (some ⟨2,0,none⟩) (d16 q).length*2^b.toNat)) (some ⟨3,0,none⟩) (d16 (vO (hQ neg E o n c l q) (some ⟨2,0,none⟩) (d16 q).length*2^b.toNat)).length)).length) (vO (nxt (nxt (nxt (nxt (hQ neg E o n c l q) (vO (hQ neg E o n c l q) (some ⟨2,0,none⟩) (d16 q).length*2^b.toNat)) (vO (nxt (hQ neg E o n c l q) (vO (hQ neg E o n c l q) (some ⟨2,0,none⟩) (d16 q).length*2^b.toNat)) (aX o) n-vO (nxt (hQ neg E o n c l q) (vO (hQ neg E o n c l q) (some ⟨2,0,none⟩) (d16 q).length*2^b.toNat)) (some ⟨3,0,none⟩) (d16 (vO (hQ neg E o n c l q) (some ⟨2,0,none⟩) (d16 q).length*2^b.toNat)).length)) 1) (vO (nxt (nxt (nxt (hQ neg E o n c l q) (vO (hQ neg E o n c l q) (some ⟨2,0,none⟩) (d16 q).length*2^b.toNat)) (vO (nxt (hQ neg E o n c l q) (vO (hQ neg E o n c l q) (some ⟨2,0,none⟩) (d16 q).length*2^b.toNat)) (aX o) n-vO (nxt (hQ neg E o n c l q) (vO (hQ neg E o n c l q) (some ⟨2,0,none⟩) (d16 q).length*2^b.toNat)) (some ⟨3,0,none⟩) (d16 (vO (hQ neg E o n c l q) (some ⟨2,0,none⟩) (d16 q).length*2^b.toNat)).length)) 1) (some ⟨5,0,none⟩) (d16 1).length*2^(dif b 1).toNat)) (some ⟨6,0,none⟩) (d16 (vO (nxt (nxt (nxt (hQ neg E o n c l q) (vO (hQ neg E o n c l q) (some ⟨2,0,none⟩) (d16 q).length*2^b.toNat)) (vO (nxt (hQ neg E o n c l q) (vO (hQ neg E o n c l q) (some ⟨2,0,none⟩) (d16 q).length*2^b.toNat)) (aX o) n-vO (nxt (hQ neg E o n c l q) (vO (hQ neg E o n c l q) (some ⟨2,0,none⟩) (d16 q).length*2^b.toNat)) (some ⟨3,0,none⟩) (d16 (vO (hQ neg E o n c l q) (some ⟨2,0,none⟩) (d16 q).length*2^b.toNat)).length)) 1) (some ⟨5,0,none⟩) (d16 1).length*2^(dif b 1).toNat)).length)==0,j),(ZL (nxt (nxt (nxt (nxt (hQ neg E o n c l q) (vO (hQ neg E o n c l q) (some ⟨2,0,none⟩) (d16 q).length*2^b.toNat)) (vO (nxt (hQ neg E o n c l q) (vO (hQ neg E o n c l q) (some ⟨2,0,none⟩) (d16 q).length*2^b.toNat)) (aX o) n-vO (nxt (hQ neg E o n c l q) (vO (hQ neg E o n c l q) (some ⟨2,0,none⟩) (d16 q).length*2^b.toNat)) (some ⟨3,0,none⟩) (d16 (vO (hQ neg E o n c l q) (some ⟨2,0,none⟩) (d16 q).length*2^b.toNat)).length)) 1) (vO (nxt (nxt (nxt (hQ neg E o n c l q) (vO (hQ neg E o n c l q) (some ⟨2,0,none⟩) (d16 q).length*2^b.toNat)) (vO (nxt (hQ neg E o n c l q) (vO (hQ neg E o n c l q) (some ⟨2,0,none⟩) (d16 q).length*2^b.toNat)) (aX o) n-vO (nxt (hQ neg E o n c l q) (vO (hQ neg E o n c l q) (some ⟨2,0,none⟩) (d16 q).length*2^b.toNat)) (some ⟨3,0,none⟩) (d16 (vO (hQ neg E o n c l q) (some ⟨2,0,none⟩) (d16 q).length*2^b.toNat)).length)) 1) (some ⟨5,0,none⟩) (d16 1).length*2^(dif b 1).toNat)) (some ⟨4,0,none⟩) (some ⟨6,0,none⟩) (d16 (vO (nxt (hQ neg E o n c l q) (vO (hQ neg E o n c l q) (some ⟨2,0,none⟩) (d16 q).length*2^b.toNat)) (aX o) n-vO (nxt (hQ neg E o n c l q) (vO (hQ neg E o n c l q) (some ⟨2,0,none⟩) (d16 q).length*2^b.toNat)) (some ⟨3,0,none⟩) (d16 (vO (hQ neg E o n c l q) (some ⟨2,0,none⟩) (d16 q).length*2^b.toNat)).length)).length (d16 (vO (nxt (hQ neg E o n c l q) (vO (hQ neg E o n c l q) (some ⟨2,0,none⟩) (d16 q).length*2^b.toNat)) (aX o) n-vO (nxt (hQ neg E o n c l q) (vO (hQ neg E o n c l q) (some ⟨2,0,none⟩) (d16 q).length*2^b.toNat)) (some ⟨3,0,none⟩) (d16 (vO (hQ neg E o n c l q) (some ⟨2,0,none⟩) (d16 q).length*2^b.toNat)).length)).length (d16 (vO (nxt (nxt (nxt (hQ neg E o n c l q) (vO (hQ neg E o n c l q) (some ⟨2,0,none⟩) (d16 q).length*2^b.toNat)) (vO (nxt (hQ neg E o n c l q) (vO (hQ neg E o n c l q) (some ⟨2,0,none⟩) (d16 q).length*2^b.toNat)) (aX o) n-vO (nxt (hQ neg E o n c l q) (vO (hQ neg E o n c l q) (some ⟨2,0,none⟩) (d16 q).length*2^b.toNat)) (some ⟨3,0,none⟩) (d16 (vO (hQ neg E o n c l q) (some ⟨2,0,none⟩) (d16 q).length*2^b.toNat)).length)) 1) (some ⟨5,0,none⟩) (d16 1).length*2^(dif b 1).toNat)).length (d16 (vO (nxt (nxt (nxt (hQ neg E o n c l q) (vO (hQ neg E o n c l q) (some ⟨2,0,none⟩) (d16 q).length*2^b.toNat)) (vO (nxt (hQ neg E o n c l q) (vO (hQ neg E o n c l q) (some ⟨2,0,none⟩) (d16 q).length*2^b.toNat)) (aX o) n-vO (nxt (hQ neg E o n c l q) (vO (hQ neg E o n c l q) (some ⟨2,0,none⟩) (d16 q).length*2^b.toNat)) (some ⟨3,0,none⟩) (d16 (vO (hQ neg E o n c l q) (some ⟨2,0,none⟩) (d16 q).length*2^b.toNat)).length)) 1) (some ⟨5,0,none⟩) (d16 1).length*2^(dif b 1).toNat)).length,true),(ZcL (nxt (nxt (nxt (hQ neg E o n c l q) (vO (hQ neg E o n c l q) (some ⟨2,0,none⟩) (d16 q).length*2^b.toNat)) (vO (nxt (hQ neg E o n c l q) (vO (hQ neg E o n c l q) (some ⟨2,0,none⟩) (d16 q).length*2^b.toNat)) (aX o) n-vO (nxt (hQ neg E o n c l q) (vO (hQ neg E o n c l q) (some ⟨2,0,none⟩) (d16 q).length*2^b.toNat)) (some ⟨3,0,none⟩) (d16 (vO (hQ neg E o n c l q) (some ⟨2,0,none⟩) (d16 q).length*2^b.toNat)).length)) 1) (some ⟨5,0,none⟩) (d16 1).length (d16 1).length (dif b 1),true),(decide (0<(d16 1).length),true),ZcK,(ZL (nxt (hQ neg E o n c l q) (vO (hQ neg E o n c l q) (some ⟨2,0,none⟩) (d16 q).length*2^b.toNat)) (aX o) (some ⟨3,0,none⟩) n c (d16 (vO (hQ neg E o n c l q) (some ⟨2,0,none⟩) (d16 q).length*2^b.toNat)).length (d16 (vO (hQ neg E o n c l q) (some ⟨2,0,none⟩) (d16 q).length*2^b.toNat)).length && Nat.ble (vO (nxt (hQ neg E o n c l q) (vO (hQ neg E o n c l q) (some ⟨2,0,none⟩) (d16 q).length*2^b.toNat)) (some ⟨3,0,none⟩) (d16 (vO (hQ neg E o n c l q) (some ⟨2,0,none⟩) (d16 q).length*2^b.toNat)).length) (vO (nxt (hQ neg E o n c l q) (vO (hQ neg E o n c l q) (some ⟨2,0,none⟩) (d16 q).length*2^b.toNat)) (aX o) n),true),(decide (0<n),true),(ZcL (hQ neg E o n c l q) (some ⟨2,0,none⟩) (d16 q).length (d16 q).length b,true),(decide (0<(d16 q).length),true),(decide (b≤((bl (vO (hQ neg E o n c l q) (aX o) n):Nat):Int)),true),(Zab (hQ neg E o n c l q) (aX o) n c,true)]:=by and_intros<;>kernel_rfl
theorem ZxE (neg j:Bool) (E N M b:Int) (o n c q:Nat) (l:List Value) (g:Nat→Value):Zg (evL (Zk prog Zf Zo hcW) 200 (tS2 f109) ((pX9 neg E N M o n c [Zn,.bool false,.int .i64 b,sOf 2 q,.bool true,.bool false])++tl 94 g,(hQ neg E o n c l q),[cmp true,cmp false,cmp true]) ⟨[],[],[]⟩) 14 92 none (pX9 neg E N M o n c [Zn,.bool false,.int .i64 b,sOf 2 q,.bool true,.bool false,sOf 3 (vO (hQ neg E o n c l q) (aX o) n-vO (hQ neg E o n c l q) none 0),.bool false]) (nxt (hQ neg E o n c l q) (vO (hQ neg E o n c l q) (aX o) n-vO (hQ neg E o n c l q) none 0)) [(ZL (hQ neg E o n c l q) (aX o) none n c 0 0 && Nat.ble (vO (hQ neg E o n c l q) none 0) (vO (hQ neg E o n c l q) (aX o) n),true),(decide (0<n),true),(zx (hQ neg E o n c l q) (some ⟨2,0,none⟩) (d16 q).length (d16 q).length,true),(decide (0<(d16 q).length),false),(decide (b≤((bl (vO (hQ neg E o n c l q) (aX o) n):Nat):Int)),true),(Zab (hQ neg E o n c l q) (aX o) n c,true)]:=by and_intros<;>kernel_rfl
theorem ZxF (neg j:Bool) (E N M b:Int) (o n c q:Nat) (l:List Value) (g:Nat→Value):Zg (evL (Zk prog Zf Zo hcW) 200 (tS2 f109) ((pX9 neg E N M o n c [Zn,.bool false,.int .i64 b,sOf 2 q,.bool true,.bool true])++tl 94 g,(hQ neg E o n c l q),[cmp true,cmp false,cmp true,cmp true,cmp j]) ⟨[],[],[]⟩) 14 92 none (pX9 neg E N M o n c [Zn,.bool false,.int .i64 b,sOf 2 q,.bool true,.bool true,sOf 3 (vO (hQ neg E o n c l q) (aX o) n-vO (hQ neg E o n c l q) none 0),.bool j]) (nxt (nxt (nxt (hQ neg E o n c l q) (vO (hQ neg E o n c l q) (aX o) n-vO (hQ neg E o n c l q) none 0)) 1) (vO (nxt (nxt (hQ neg E o n c l q) (vO (hQ neg E o n c l q) (aX o) n-vO (hQ neg E o n c l q) none 0)) 1) (some ⟨4,0,none⟩) (d16 1).length*2^(dif b 1).toNat)) [(zY (vO (nxt (nxt (nxt (hQ neg E o n c l q) (vO (hQ neg E o n c l q) (aX o) n-vO (hQ neg E o n c l q) none 0)) 1) (vO (nxt (nxt (hQ neg E o n c l q) (vO (hQ neg E o n c l q) (aX o) n-vO (hQ neg E o n c l q) none 0)) 1) (some ⟨4,0,none⟩) (d16 1).length*2^(dif b 1).toNat)) (some ⟨3,0,none⟩) (d16 (vO (hQ neg E o n c l q) (aX o) n-vO (hQ neg E o n c l q) none 0)).length) (vO (nxt (nxt (nxt (hQ neg E o n c l q) (vO (hQ neg E o n c l q) (aX o) n-vO (hQ neg E o n c l q) none 0)) 1) (vO (nxt (nxt (hQ neg E o n c l q) (vO (hQ neg E o n c l q) (aX o) n-vO (hQ neg E o n c l q) none 0)) 1) (some ⟨4,0,none⟩) (d16 1).length*2^(dif b 1).toNat)) (some ⟨5,0,none⟩) (d16 (vO (nxt (nxt (hQ neg E o n c l q) (vO (hQ neg E o n c l q) (aX o) n-vO (hQ neg E o n c l q) none 0)) 1) (some ⟨4,0,none⟩) (d16 1).length*2^(dif b 1).toNat)).length)==0,j),(ZL (nxt (nxt (nxt (hQ neg E o n c l q) (vO (hQ neg E o n c l q) (aX o) n-vO (hQ neg E o n c l q) none 0)) 1) (vO (nxt (nxt (hQ neg E o n c l q) (vO (hQ neg E o n c l q) (aX o) n-vO (hQ neg E o n c l q) none 0)) 1) (some ⟨4,0,none⟩) (d16 1).length*2^(dif b 1).toNat)) (some ⟨3,0,none⟩) (some ⟨5,0,none⟩) (d16 (vO (hQ neg E o n c l q) (aX o) n-vO (hQ neg E o n c l q) none 0)).length (d16 (vO (hQ neg E o n c l q) (aX o) n-vO (hQ neg E o n c l q) none 0)).length (d16 (vO (nxt (nxt (hQ neg E o n c l q) (vO (hQ neg E o n c l q) (aX o) n-vO (hQ neg E o n c l q) none 0)) 1) (some ⟨4,0,none⟩) (d16 1).length*2^(dif b 1).toNat)).length (d16 (vO (nxt (nxt (hQ neg E o n c l q) (vO (hQ neg E o n c l q) (aX o) n-vO (hQ neg E o n c l q) none 0)) 1) (some ⟨4,0,none⟩) (d16 1).length*2^(dif b 1).toNat)).length,true),(ZcL (nxt (nxt (hQ neg E o n c l q) (vO (hQ neg E o n c l q) (aX o) n-vO (hQ neg E o n c l q) none 0)) 1) (some ⟨4,0,none⟩) (d16 1).length (d16 1).length (dif b 1),true),(decide (0<(d16 1).length),true),ZcK,(ZL (hQ neg E o n c l q) (aX o) none n c 0 0 && Nat.ble (vO (hQ neg E o n c l q) none 0) (vO (hQ neg E o n c l q) (aX o) n),true),(decide (0<n),true),(zx (hQ neg E o n c l q) (some ⟨2,0,none⟩) (d16 q).length (d16 q).length,true),(decide (0<(d16 q).length),false),(decide (b≤((bl (vO (hQ neg E o n c l q) (aX o) n):Nat):Int)),true),(Zab (hQ neg E o n c l q) (aX o) n c,true)]:=by and_intros<;>kernel_rfl
theorem ZxG (neg j:Bool) (E N M b:Int) (o n c q:Nat) (l:List Value) (g:Nat→Value):Zg (evL (Zk prog Zf Zo hcW) 200 (tS2 f109) ((pX9 neg E N M o n c [Zn,.bool false,.int .i64 b,Zn,.bool true,.bool false])++tl 94 g,(hX neg E o n c l),[cmp false]) ⟨[],[],[]⟩) 14 92 none (pX9 neg E N M o n c [Zn,.bool false,.int .i64 b,Zn,.bool true,.bool false,sl 0 o n c,.bool false]) (hX neg E o n c l) [(decide (b≤((bl (vO (hX neg E o n c l) (aX o) n):Nat):Int)),false),(Zab (hX neg E o n c l) (aX o) n c,true)]:=by and_intros<;>kernel_rfl
theorem ZxH (neg j:Bool) (E N M b:Int) (o n c q:Nat) (l:List Value) (g:Nat→Value):Zg (evL (Zk prog Zf Zo hcW) 200 (tS2 f109) ((pX9 neg E N M o n c [Zn,.bool false,.int .i64 b,Zn,.bool true,.bool true])++tl 94 g,(hX neg E o n c l),[cmp false,cmp true,cmp j]) ⟨[],[],[]⟩) 14 92 none (pX9 neg E N M o n c [Zn,.bool false,.int .i64 b,Zn,.bool true,.bool true,sl 0 o n c,.bool j]) (nxt (nxt (hX neg E o n c l) 1) (vO (nxt (hX neg E o n c l) 1) (some ⟨2,0,none⟩) (d16 1).length*2^(dif b 1).toNat)) [(zY (vO (nxt (nxt (hX neg E o n c l) 1) (vO (nxt (hX neg E o n c l) 1) (some ⟨2,0,none⟩) (d16 1).length*2^(dif b 1).toNat)) (aX o) n) (vO (nxt (nxt (hX neg E o n c l) 1) (vO (nxt (hX neg E o n c l) 1) (some ⟨2,0,none⟩) (d16 1).length*2^(dif b 1).toNat)) (some ⟨3,0,none⟩) (d16 (vO (nxt (hX neg E o n c l) 1) (some ⟨2,0,none⟩) (d16 1).length*2^(dif b 1).toNat)).length)==0,j),(ZL (nxt (nxt (hX neg E o n c l) 1) (vO (nxt (hX neg E o n c l) 1) (some ⟨2,0,none⟩) (d16 1).length*2^(dif b 1).toNat)) (aX o) (some ⟨3,0,none⟩) n c (d16 (vO (nxt (hX neg E o n c l) 1) (some ⟨2,0,none⟩) (d16 1).length*2^(dif b 1).toNat)).length (d16 (vO (nxt (hX neg E o n c l) 1) (some ⟨2,0,none⟩) (d16 1).length*2^(dif b 1).toNat)).length,true),(ZcL (nxt (hX neg E o n c l) 1) (some ⟨2,0,none⟩) (d16 1).length (d16 1).length (dif b 1),true),(decide (0<(d16 1).length),true),ZcK,(decide (b≤((bl (vO (hX neg E o n c l) (aX o) n):Nat):Int)),false),(Zab (hX neg E o n c l) (aX o) n c,true)]:=by and_intros<;>kernel_rfl
theorem ZxI (neg j:Bool) (E N M b:Int) (o n c q:Nat) (l:List Value) (g:Nat→Value):Zg (evL (Zk prog Zf Zo hcW) 200 (tS2 f109) ((pX9 neg E N M o n c [Zn,.bool false,.int .i64 b,Zn,.bool true,.bool false])++tl 94 g,(hX neg E o n c l),[cmp true,cmp false,cmp true]) ⟨[],[],[]⟩) 14 92 none (pX9 neg E N M o n c [Zn,.bool false,.int .i64 b,Zn,.bool true,.bool false,sOf 2 (vO (hX neg E o n c l) (aX o) n-vO (hX neg E o n c l) none 0),.bool false]) (nxt (hX neg E o n c l) (vO (hX neg E o n c l) (aX o) n-vO (hX neg E o n c l) none 0)) [(ZL (hX neg E o n c l) (aX o) none n c 0 0 && Nat.ble (vO (hX neg E o n c l) none 0) (vO (hX neg E o n c l) (aX o) n),true),(decide (0<n),true),(zx (hX neg E o n c l) none 0 0,true),(decide (0<0),false),(decide (b≤((bl (vO (hX neg E o n c l) (aX o) n):Nat):Int)),true),(Zab (hX neg E o n c l) (aX o) n c,true)]:=by and_intros<;>kernel_rfl
theorem ZxJ (neg j:Bool) (E N M b:Int) (o n c q:Nat) (l:List Value) (g:Nat→Value):Zg (evL (Zk prog Zf Zo hcW) 200 (tS2 f109) ((pX9 neg E N M o n c [Zn,.bool false,.int .i64 b,Zn,.bool true,.bool true])++tl 94 g,(hX neg E o n c l),[cmp true,cmp false,cmp true,cmp true,cmp j]) ⟨[],[],[]⟩) 14 92 none (pX9 neg E N M o n c [Zn,.bool false,.int .i64 b,Zn,.bool true,.bool true,sOf 2 (vO (hX neg E o n c l) (aX o) n-vO (hX neg E o n c l) none 0),.bool j]) (nxt (nxt (nxt (hX neg E o n c l) (vO (hX neg E o n c l) (aX o) n-vO (hX neg E o n c l) none 0)) 1) (vO (nxt (nxt (hX neg E o n c l) (vO (hX neg E o n c l) (aX o) n-vO (hX neg E o n c l) none 0)) 1) (some ⟨3,0,none⟩) (d16 1).length*2^(dif b 1).toNat)) [(zY (vO (nxt (nxt (nxt (hX neg E o n c l) (vO (hX neg E o n c l) (aX o) n-vO (hX neg E o n c l) none 0)) 1) (vO (nxt (nxt (hX neg E o n c l) (vO (hX neg E o n c l) (aX o) n-vO (hX neg E o n c l) none 0)) 1) (some ⟨3,0,none⟩) (d16 1).length*2^(dif b 1).toNat)) (some ⟨2,0,none⟩) (d16 (vO (hX neg E o n c l) (aX o) n-vO (hX neg E o n c l) none 0)).length) (vO (nxt (nxt (nxt (hX neg E o n c l) (vO (hX neg E o n c l) (aX o) n-vO (hX neg E o n c l) none 0)) 1) (vO (nxt (nxt (hX neg E o n c l) (vO (hX neg E o n c l) (aX o) n-vO (hX neg E o n c l) none 0)) 1) (some ⟨3,0,none⟩) (d16 1).length*2^(dif b 1).toNat)) (some ⟨4,0,none⟩) (d16 (vO (nxt (nxt (hX neg E o n c l) (vO (hX neg E o n c l) (aX o) n-vO (hX neg E o n c l) none 0)) 1) (some ⟨3,0,none⟩) (d16 1).length*2^(dif b 1).toNat)).length)==0,j),(ZL (nxt (nxt (nxt (hX neg E o n c l) (vO (hX neg E o n c l) (aX o) n-vO (hX neg E o n c l) none 0)) 1) (vO (nxt (nxt (hX neg E o n c l) (vO (hX neg E o n c l) (aX o) n-vO (hX neg E o n c l) none 0)) 1) (some ⟨3,0,none⟩) (d16 1).length*2^(dif b 1).toNat)) (some ⟨2,0,none⟩) (some ⟨4,0,none⟩) (d16 (vO (hX neg E o n c l) (aX o) n-vO (hX neg E o n c l) none 0)).length (d16 (vO (hX neg E o n c l) (aX o) n-vO (hX neg E o n c l) none 0)).length (d16 (vO (nxt (nxt (hX neg E o n c l) (vO (hX neg E o n c l) (aX o) n-vO (hX neg E o n c l) none 0)) 1) (some ⟨3,0,none⟩) (d16 1).length*2^(dif b 1).toNat)).length (d16 (vO (nxt (nxt (hX neg E o n c l) (vO (hX neg E o n c l) (aX o) n-vO (hX neg E o n c l) none 0)) 1) (some ⟨3,0,none⟩) (d16 1).length*2^(dif b 1).toNat)).length,true),(ZcL (nxt (nxt (hX neg E o n c l) (vO (hX neg E o n c l) (aX o) n-vO (hX neg E o n c l) none 0)) 1) (some ⟨3,0,none⟩) (d16 1).length (d16 1).length (dif b 1),true),(decide (0<(d16 1).length),true),ZcK,(ZL (hX neg E o n c l) (aX o) none n c 0 0 && Nat.ble (vO (hX neg E o n c l) none 0) (vO (hX neg E o n c l) (aX o) n),true),(decide (0<n),true),(zx (hX neg E o n c l) none 0 0,true),(decide (0<0),false),(decide (b≤((bl (vO (hX neg E o n c l) (aX o) n):Nat):Int)),true),(Zab (hX neg E o n c l) (aX o) n c,true)]:=by and_intros<;>kernel_rfl
theorem Z27 (neg d:Bool) (E N M b x:Int) (o n c q:Nat) (l:List Value) (J:Value) (g:Nat→Value):Zg (evC (Zk prog Zf Zo hcW) 200 false (tS3 f109) ((pX9 neg E N M o n c [Zn,.bool false,.int .i64 b,sOf 2 q,.bool true,.bool false,J,.bool false])++tl 92 g,(hQ neg E o n c l q),[]) ⟨[],[],[]⟩) 15 91 none (pX9 neg E N M o n c [Zn,.bool false,.int .i64 b,sOf 2 q,.bool true,.bool false,J,.bool false,.bool false]) (hQ neg E o n c l q) []:=by and_intros<;>kernel_rfl
theorem ZxK (neg d:Bool) (E N M b x:Int) (o n c q:Nat) (l:List Value) (J:Value) (g:Nat→Value):Zg (evC (Zk prog Zf Zo hcW) 200 false (tS3 f109) ((pX9 neg E N M o n c [Zn,.bool false,.int .i64 b,sOf 2 q,.bool true,.bool true,J,.bool false])++tl 92 g,(hQ neg E o n c l q),[]) ⟨[],[],[]⟩) 15 91 none (pX9 neg E N M o n c [Zn,.bool false,.int .i64 b,sOf 2 q,.bool true,.bool true,J,.bool false,.bool true]) (hQ neg E o n c l q) []:=by and_intros<;>kernel_rfl
theorem Z28 (neg d:Bool) (E N M b x:Int) (o n c q:Nat) (l:List Value) (J:Value) (g:Nat→Value):Zg (evC (Zk prog Zf Zo hcW) 200 false (tS3 f109) ((pX9 neg E N M o n c [Zn,.bool false,.int .i64 b,Zn,.bool true,.bool false,J,.bool false])++tl 92 g,(hX neg E o n c l),[]) ⟨[],[],[]⟩) 15 91 none (pX9 neg E N M o n c [Zn,.bool false,.int .i64 b,Zn,.bool true,.bool false,J,.bool false,.bool false]) (hX neg E o n c l) []:=by and_intros<;>kernel_rfl
theorem ZxL (neg d:Bool) (E N M b x:Int) (o n c q:Nat) (l:List Value) (J:Value) (g:Nat→Value):Zg (evC (Zk prog Zf Zo hcW) 200 false (tS3 f109) ((pX9 neg E N M o n c [Zn,.bool false,.int .i64 b,Zn,.bool true,.bool true,J,.bool false])++tl 92 g,(hX neg E o n c l),[]) ⟨[],[],[]⟩) 15 91 none (pX9 neg E N M o n c [Zn,.bool false,.int .i64 b,Zn,.bool true,.bool true,J,.bool false,.bool true]) (hX neg E o n c l) []:=by and_intros<;>kernel_rfl
theorem ZxM (neg d:Bool) (E N M b x:Int) (o n c q:Nat) (l:List Value) (J:Value) (g:Nat→Value):Zg (evC (Zk prog Zf Zo hcW) 200 false (tS3 f109) ((pX9 neg E N M o n c [Zn,.bool false,.int .i64 b,sOf 2 q,.bool true,.bool true,J,.bool true])++tl 92 g,(hQ neg E o n c l q),[cmp true,at_,val (.int .u32 x),cmp true,cmp d]) ⟨[],[],[]⟩) 15 91 none (pX9 neg E N M o n c [Zn,.bool false,.int .i64 b,sOf 2 q,.bool true,.bool true,J,.bool true,.bool d]) (hQ neg E o n c l q) [(x.tmod 2==1,d),(decide ((2:Int)=0),false),(Z4 ((wU (d16 q))[0]?) (.int .u32 x),true),(decide ((0:Int)≤0∧(0:Int)<((d16 q).length:Nat)),true),(decide (((d16 q).length:Int)>0),true)]:=by and_intros<;>kernel_rfl
theorem Zsk (neg d:Bool) (E N M b x:Int) (o n c q:Nat) (l:List Value) (J:Value) (g:Nat→Value):Zg (evC (Zk prog Zf Zo hcW) 200 false (tS3 f109) ((pX9 neg E N M o n c [Zn,.bool false,.int .i64 b,sOf 2 q,.bool true,.bool true,J,.bool true])++tl 92 g,(hQ neg E o n c l q),[cmp false]) ⟨[],[],[]⟩) 15 91 none (pX9 neg E N M o n c [Zn,.bool false,.int .i64 b,sOf 2 q,.bool true,.bool true,J,.bool true,.bool false]) (hQ neg E o n c l q) [(decide (((d16 q).length:Int)>0),false)]:=by and_intros<;>kernel_rfl
theorem Zsl (neg d:Bool) (E N M b x:Int) (o n c q:Nat) (l:List Value) (J:Value) (g:Nat→Value):Zg (evC (Zk prog Zf Zo hcW) 200 false (tS3 f109) ((pX9 neg E N M o n c [Zn,.bool false,.int .i64 b,Zn,.bool true,.bool true,J,.bool true])++tl 92 g,(hX neg E o n c l),[cmp false]) ⟨[],[],[]⟩) 15 91 none (pX9 neg E N M o n c [Zn,.bool false,.int .i64 b,Zn,.bool true,.bool true,J,.bool true,.bool false]) (hX neg E o n c l) [(decide (((0:Nat):Int)>0),false)]:=by and_intros<;>kernel_rfl
theorem Z29 (neg half just up:Bool) (E N M b:Int) (o n c q:Nat) (l:List Value) (J:Value) (g:Nat→Value):Zg (evC (Zk prog Zf Zo hcW) 200 false (tS4 f109) ((pX9 neg E N M o n c [Zn,.bool false,.int .i64 b,sOf 2 q,.bool true,.bool half,J,.bool just,.bool up])++tl 91 g,(hQ neg E o n c l q),[cmp true]) ⟨[],[],[]⟩) 15 91 none (pX9 neg E N M o n c [Zn,.bool false,.int .i64 b,sOf 2 q,.bool true,.bool half,J,.bool just,.bool half]) (hQ neg E o n c l q) [(M==1,true)]:=by and_intros<;>kernel_rfl
theorem Z2A (neg half just up:Bool) (E N M b:Int) (o n c q:Nat) (l:List Value) (J:Value) (g:Nat→Value):Zg (evC (Zk prog Zf Zo hcW) 200 false (tS4 f109) ((pX9 neg E N M o n c [Zn,.bool false,.int .i64 b,sOf 2 q,.bool true,.bool half,J,.bool just,.bool up])++tl 91 g,(hQ neg E o n c l q),[cmp false,cmp true]) ⟨[],[],[]⟩) 15 91 none (pX9 neg E N M o n c [Zn,.bool false,.int .i64 b,sOf 2 q,.bool true,.bool half,J,.bool just,.bool false]) (hQ neg E o n c l q) [(M==2,true),(M==1,false)]:=by and_intros<;>kernel_rfl
theorem Z2B (neg half just up:Bool) (E N M b:Int) (o n c q:Nat) (l:List Value) (J:Value) (g:Nat→Value):Zg (evC (Zk prog Zf Zo hcW) 200 false (tS4 f109) ((pX9 neg E N M o n c [Zn,.bool false,.int .i64 b,sOf 2 q,.bool true,.bool half,J,.bool just,.bool up])++tl 91 g,(hQ neg E o n c l q),[cmp false,cmp false,cmp true]) ⟨[],[],[]⟩) 15 91 none (pX9 neg E N M o n c [Zn,.bool false,.int .i64 b,sOf 2 q,.bool true,.bool half,J,.bool just,.bool (!neg)]) (hQ neg E o n c l q) [(M==3,true),(M==2,false),(M==1,false)]:=by and_intros<;>kernel_rfl
theorem Z2C (neg half just up:Bool) (E N M b:Int) (o n c q:Nat) (l:List Value) (J:Value) (g:Nat→Value):Zg (evC (Zk prog Zf Zo hcW) 200 false (tS4 f109) ((pX9 neg E N M o n c [Zn,.bool false,.int .i64 b,sOf 2 q,.bool true,.bool half,J,.bool just,.bool up])++tl 91 g,(hQ neg E o n c l q),[cmp false,cmp false,cmp false,cmp true]) ⟨[],[],[]⟩) 15 91 none (pX9 neg E N M o n c [Zn,.bool false,.int .i64 b,sOf 2 q,.bool true,.bool half,J,.bool just,.bool neg]) (hQ neg E o n c l q) [(M==4,true),(M==3,false),(M==2,false),(M==1,false)]:=by and_intros<;>kernel_rfl
theorem Z2D (neg half just up:Bool) (E N M b:Int) (o n c q:Nat) (l:List Value) (J:Value) (g:Nat→Value):Zg (evC (Zk prog Zf Zo hcW) 200 false (tS4 f109) ((pX9 neg E N M o n c [Zn,.bool false,.int .i64 b,sOf 2 q,.bool true,.bool half,J,.bool just,.bool up])++tl 91 g,(hQ neg E o n c l q),[cmp false,cmp false,cmp false,cmp false]) ⟨[],[],[]⟩) 15 91 none (pX9 neg E N M o n c [Zn,.bool false,.int .i64 b,sOf 2 q,.bool true,.bool half,J,.bool just,.bool up]) (hQ neg E o n c l q) [(M==4,false),(M==3,false),(M==2,false),(M==1,false)]:=by and_intros<;>kernel_rfl
theorem Z2E (neg half just up:Bool) (E N M b:Int) (o n c q:Nat) (l:List Value) (J:Value) (g:Nat→Value):Zg (evC (Zk prog Zf Zo hcW) 200 false (tS4 f109) ((pX9 neg E N M o n c [Zn,.bool false,.int .i64 b,Zn,.bool true,.bool half,J,.bool just,.bool up])++tl 91 g,(hX neg E o n c l),[cmp true]) ⟨[],[],[]⟩) 15 91 none (pX9 neg E N M o n c [Zn,.bool false,.int .i64 b,Zn,.bool true,.bool half,J,.bool just,.bool half]) (hX neg E o n c l) [(M==1,true)]:=by and_intros<;>kernel_rfl
theorem Z2F (neg half just up:Bool) (E N M b:Int) (o n c q:Nat) (l:List Value) (J:Value) (g:Nat→Value):Zg (evC (Zk prog Zf Zo hcW) 200 false (tS4 f109) ((pX9 neg E N M o n c [Zn,.bool false,.int .i64 b,Zn,.bool true,.bool half,J,.bool just,.bool up])++tl 91 g,(hX neg E o n c l),[cmp false,cmp true]) ⟨[],[],[]⟩) 15 91 none (pX9 neg E N M o n c [Zn,.bool false,.int .i64 b,Zn,.bool true,.bool half,J,.bool just,.bool false]) (hX neg E o n c l) [(M==2,true),(M==1,false)]:=by and_intros<;>kernel_rfl
theorem Z2G (neg half just up:Bool) (E N M b:Int) (o n c q:Nat) (l:List Value) (J:Value) (g:Nat→Value):Zg (evC (Zk prog Zf Zo hcW) 200 false (tS4 f109) ((pX9 neg E N M o n c [Zn,.bool false,.int .i64 b,Zn,.bool true,.bool half,J,.bool just,.bool up])++tl 91 g,(hX neg E o n c l),[cmp false,cmp false,cmp true]) ⟨[],[],[]⟩) 15 91 none (pX9 neg E N M o n c [Zn,.bool false,.int .i64 b,Zn,.bool true,.bool half,J,.bool just,.bool (!neg)]) (hX neg E o n c l) [(M==3,true),(M==2,false),(M==1,false)]:=by and_intros<;>kernel_rfl
theorem Z2H (neg half just up:Bool) (E N M b:Int) (o n c q:Nat) (l:List Value) (J:Value) (g:Nat→Value):Zg (evC (Zk prog Zf Zo hcW) 200 false (tS4 f109) ((pX9 neg E N M o n c [Zn,.bool false,.int .i64 b,Zn,.bool true,.bool half,J,.bool just,.bool up])++tl 91 g,(hX neg E o n c l),[cmp false,cmp false,cmp false,cmp true]) ⟨[],[],[]⟩) 15 91 none (pX9 neg E N M o n c [Zn,.bool false,.int .i64 b,Zn,.bool true,.bool half,J,.bool just,.bool neg]) (hX neg E o n c l) [(M==4,true),(M==3,false),(M==2,false),(M==1,false)]:=by and_intros<;>kernel_rfl
theorem Z2I (neg half just up:Bool) (E N M b:Int) (o n c q:Nat) (l:List Value) (J:Value) (g:Nat→Value):Zg (evC (Zk prog Zf Zo hcW) 200 false (tS4 f109) ((pX9 neg E N M o n c [Zn,.bool false,.int .i64 b,Zn,.bool true,.bool half,J,.bool just,.bool up])++tl 91 g,(hX neg E o n c l),[cmp false,cmp false,cmp false,cmp false]) ⟨[],[],[]⟩) 15 91 none (pX9 neg E N M o n c [Zn,.bool false,.int .i64 b,Zn,.bool true,.bool half,J,.bool just,.bool up]) (hX neg E o n c l) [(M==4,false),(M==3,false),(M==2,false),(M==1,false)]:=by and_intros<;>kernel_rfl
theorem Z2J (neg half just:Bool) (E N M b:Int) (o n c q:Nat) (l:List Value) (J:Value) (g:Nat→Value):Zg (evC (Zk prog Zf Zo hcW) 200 false (tS5 f109) ((pX9 neg E N M o n c [Zn,.bool false,.int .i64 b,sOf 2 q,.bool true,.bool half,J,.bool just,.bool true])++tl 91 g,(hQ neg E o n c l q),[cmp true]) ⟨[],[],[]⟩) 8 98 (some none) (pX9 neg E N M o n c [sOf 4 (vO (nxt (hQ neg E o n c l q) 1) (some ⟨2,0,none⟩) (d16 q).length+vO (nxt (hQ neg E o n c l q) 1) (some ⟨3,0,none⟩) (d16 1).length),.bool true]) (nxt (nxt (hQ neg E o n c l q) 1) (vO (nxt (hQ neg E o n c l q) 1) (some ⟨2,0,none⟩) (d16 q).length+vO (nxt (hQ neg E o n c l q) 1) (some ⟨3,0,none⟩) (d16 1).length)) [(ZL (nxt (hQ neg E o n c l q) 1) (some ⟨2,0,none⟩) (some ⟨3,0,none⟩) (d16 q).length (d16 q).length (d16 1).length (d16 1).length,true),(decide (0<(d16 q).length∨0<(d16 1).length),true),ZcK]:=by and_intros<;>kernel_rfl
theorem Z2K (neg half just:Bool) (E N M b:Int) (o n c q:Nat) (l:List Value) (J:Value) (g:Nat→Value):Zg (evC (Zk prog Zf Zo hcW) 200 false (tS5 f109) ((pX9 neg E N M o n c [Zn,.bool false,.int .i64 b,sOf 2 q,.bool true,.bool half,J,.bool just,.bool false])++tl 91 g,(hQ neg E o n c l q),[]) ⟨[],[],[]⟩) 8 98 (some none) (pX9 neg E N M o n c [sOf 2 q,.bool true]) (hQ neg E o n c l q) []:=by and_intros<;>kernel_rfl
theorem Z2L (neg half just:Bool) (E N M b:Int) (o n c q:Nat) (l:List Value) (J:Value) (g:Nat→Value):Zg (evC (Zk prog Zf Zo hcW) 200 false (tS5 f109) ((pX9 neg E N M o n c [Zn,.bool false,.int .i64 b,Zn,.bool true,.bool half,J,.bool just,.bool true])++tl 91 g,(hX neg E o n c l),[cmp true]) ⟨[],[],[]⟩) 8 98 (some none) (pX9 neg E N M o n c [sOf 3 (vO (nxt (hX neg E o n c l) 1) none 0+vO (nxt (hX neg E o n c l) 1) (some ⟨2,0,none⟩) (d16 1).length),.bool true]) (nxt (nxt (hX neg E o n c l) 1) (vO (nxt (hX neg E o n c l) 1) none 0+vO (nxt (hX neg E o n c l) 1) (some ⟨2,0,none⟩) (d16 1).length)) [(ZL (nxt (hX neg E o n c l) 1) none (some ⟨2,0,none⟩) 0 0 (d16 1).length (d16 1).length,true),(decide (0<0∨0<(d16 1).length),true),ZcK]:=by and_intros<;>kernel_rfl
theorem Z2M (neg half just:Bool) (E N M b:Int) (o n c q:Nat) (l:List Value) (J:Value) (g:Nat→Value):Zg (evC (Zk prog Zf Zo hcW) 200 false (tS5 f109) ((pX9 neg E N M o n c [Zn,.bool false,.int .i64 b,Zn,.bool true,.bool half,J,.bool just,.bool false])++tl 91 g,(hX neg E o n c l),[]) ⟨[],[],[]⟩) 8 98 (some none) (pX9 neg E N M o n c [Zn,.bool true]) (hX neg E o n c l) []:=by and_intros<;>kernel_rfl
end Go.Proofs.YtgefjidphfdhdaaGreatDoor
namespace Go.Proofs.YtgefjidphfdhdaaGreatDoor
open Go.Proofs.Tryz
open Go.KRun Go.Nt Go.Wd Go.Rn
set_option maxRecDepth 100000
set_option linter.unusedVariables false
section
variable {l : List Value} {o c : Nat} {A : List Int}
theorem Zbx (hF:Fst l o c A) {h:Hp}(hh:h.blk? 0=some (l,tR)):vO h (aX o) A.length=vb 65536 A:=by
 unfold vO aX;rw[(hF h hh).2]
theorem ZaP (hF:Fst l o c A) (hC:Zbq 65536 A) (hn:A.length<1073741824) {h:Hp}(hh:h.blk? 0=some (l,tR)):Zab h (aX o) A.length c=true:=by
 unfold Zab aX;rw[(hF h hh).1,(hF h hh).2,ZbH hC,Zl.2 hn];rfl
theorem Zbl {h:Hp}{b A:Nat}{k:Int}(hb:h.blk? b=some (wU (d16 A),tU)) (hk:0≤k) (hl:k.toNat/16+(d16 A).length+3<1073741824):ZcL h (some ⟨b,0,none⟩) (d16 A).length (d16 A).length k=true:=by
 unfold ZcL;rw[ZJ hb (by omega),Zaa hb,Zl.2 hl,Xa hk];rfl
theorem Zib (hF:Fst l o c A) (hC:Zbq 65536 A) (hn:A.length<1073741800) {h:Hp}(hh:h.blk? 0=some (l,tR)) {b V:Nat}(hb:h.blk? b=some (wU (d16 V),tU)) (hl:(d16 V).length<1073741800):ZL h (aX o) (some ⟨b,0,none⟩) A.length c (d16 V).length (d16 V).length=true:=by
 unfold ZL aX;rw[(hF h hh).1,(hF h hh).2,Zbv hC.1,ZJ hb (by omega),Zaa hb,Zl.2 (by omega)];rfl
theorem Zj0 (hF:Fst l o c A) (hC:Zbq 65536 A) (hn:A.length<1073741800) {h:Hp}(hh:h.blk? 0=some (l,tR)):ZL h (aX o) none A.length c 0 0=true:=by
 unfold ZL aX;rw[(hF h hh).1,(hF h hh).2,Zbv hC.1,Zl.2 (by omega)];rfl
def fT (neg:Bool) (E N M:Int) (o n c:Nat) (b:Int) (Q:Value):List Value:=[vRN neg E (sl 0 o n c),.int .i64 N,.int .i64 M,.pointer (some ⟨1,0,none⟩),undef,undef,Zn,.bool false,.int .i64 b,Q]
def hS (s:Bool) (neg:Bool) (E:Int) (o n c:Nat) (l:List Value) (q:Nat):Hp:=match s with | true=>hQ neg E o n c l q | false=>hX neg E o n c l
def qS (s:Bool) (q:Nat):Value:=match s with | true=>sOf 2 q | false=>Zn
theorem ZxN (s:Bool) {neg:Bool}{E N M:Int}{q:Nat}{half just u:Bool}{b:Int}{J:Value}(hq:(d16 q).length<1073741800) (hq0:s=false→q=0) (g:Nat→Value):
  RunsW (Zk prog Zf Zo hcW) (tS5 f109) (fT neg E N M o A.length c b (qS s q)++[.bool true,.bool half,J,.bool just,.bool u]++tl 91 g,hS s neg E o A.length c l q,[]) fun ex z=>(ex=none∨ex=some none)∧
   ((s=true∨u=true)→∃ k,ZV prog f109 z.1 z.2.1=some (.tuple #[sOf k (q+(if u=true then 1 else 0)),.bool true])∧∃ r,z.2.1.blk? k=some (wU (d16 (q+(if u=true then 1 else 0)))++r,tU))∧
   ((s=false∧u=false)→ZV prog f109 z.1 z.2.1=some (.tuple #[Zn,.bool true])):=by
 cases s with
 | true=>
  cases u with
  | true=>
   have e1:vO (nxt (hQ neg E o A.length c l q) 1) (some ⟨2,0,none⟩) (d16 q).length+vO (nxt (hQ neg E o A.length c l q) 1) (some ⟨3,0,none⟩) (d16 1).length=q+1:=by
    rw[zE (A:=q) (ty:=tU) rfl,zE (A:=1) (ty:=tU) rfl]
   refine (Zb (Zh Zd ZN) (Z2J neg half just E N M b o A.length c q l J g) (Zj (ZfA (A:=q) (A':=1) rfl rfl hq (by rw[zV];omega)) (Zj (Xa (.inr (by rw[zV];omega))) (Zu (by decide))))).mono fun ex z hz=> ?_;rw[e1] at hz;obtain⟨rfl,⟨g',z1⟩,z2⟩:=hz;refine⟨.inr rfl,fun _=>⟨4,?_,[],?_⟩,fun h=>by cases h.1⟩
   ·rw[z1,z2];rfl
   ·rw[z2,List.append_nil];rfl
  | false=>
   refine (Zb (Zh Zd ZN) (Z2K neg half just E N M b o A.length c q l J g) (fun x hx=>by cases hx)).mono fun ex z hz=> ?_;obtain⟨rfl,⟨g',z1⟩,z2⟩:=hz;refine⟨.inr rfl,fun _=>⟨2,?_,[],?_⟩,fun h=>by cases h.1⟩
   ·rw[z1,z2];rfl
   ·rw[z2,List.append_nil];rfl
 | false=>
  have hq1:=hq0 rfl;subst hq1;cases u with
  | true=>
   have e1:vO (nxt (hX neg E o A.length c l) 1) none 0+vO (nxt (hX neg E o A.length c l) 1) (some ⟨2,0,none⟩) (d16 1).length=0+1:=by
    rw[ZgE,zE (A:=1) (ty:=tU) rfl]
   refine (Zb (Zh Zd ZN) (Z2L neg half just E N M b o A.length c 0 l J g) (Zj (ZvH (A:=1) rfl (by rw[zV];omega)) (Zj (Xa (.inr (by rw[zV];omega))) (Zu (by decide))))).mono fun ex z hz=> ?_;rw[e1] at hz;obtain⟨rfl,⟨g',z1⟩,z2⟩:=hz;refine⟨.inr rfl,fun _=>⟨3,?_,[],?_⟩,fun h=>by cases h.2⟩
   ·rw[z1,z2];rfl
   ·rw[z2,List.append_nil];rfl
  | false=>
   refine (Zb (Zh Zd ZN) (Z2M neg half just E N M b o A.length c 0 l J g) (fun x hx=>by cases hx)).mono fun ex z hz=> ?_;obtain⟨rfl,⟨g',z1⟩,z2⟩:=hz;refine⟨.inr rfl,(fun h=>by rcases h with h | h<;>cases h),fun _=> ?_⟩;rw[z1,z2];rfl
def upM (M:Int) (neg half ev:Bool):Bool:=if M=2 then false else if M=3 then !neg else if M=4 then neg else if M=1 then half else ev
theorem ZxO (s:Bool) {neg:Bool}{E N M:Int}{n q:Nat}{half just u:Bool}{b:Int}{J:Value}(g:Nat→Value):
  RunsW (Zk prog Zf Zo hcW) (tS4 f109) (fT neg E N M o n c b (qS s q)++[.bool true,.bool half,J,.bool just,.bool u]++tl 91 g,hS s neg E o n c l q,[]) fun ex z=>ex=none∧(∃ g,z.1=fT neg E N M o n c b (qS s q)++[.bool true,.bool half,J,.bool just,.bool (upM M neg half u)]++tl 91 g)∧z.2.1=hS s neg E o n c l q:=by
 unfold upM;by_cases h1:M=1
 ·have n2:¬ M=2:=by omega
  have n3:¬ M=3:=by omega
  have n4:¬ M=4:=by omega
  rw[if_neg n2,if_neg n3,if_neg n4,if_pos h1];cases s with
  | true=>exact Zb (Zh Zd ZN) (Z29 neg half just u E N M b o n c q l J g) (Zu (by rw[h1];rfl))
  | false=>exact Zb (Zh Zd ZN) (Z2E neg half just u E N M b o n c q l J g) (Zu (by rw[h1];rfl))
 ·have b1:(M==1)=false:=by simp [h1]
  by_cases h2:M=2
  ·rw[if_pos h2];cases s with
   | true=>exact Zb (Zh Zd ZN) (Z2A neg half just u E N M b o n c q l J g) (Zj (by rw[h2];rfl) (Zu b1))
   | false=>exact Zb (Zh Zd ZN) (Z2F neg half just u E N M b o n c q l J g) (Zj (by rw[h2];rfl) (Zu b1))
  ·have b2:(M==2)=false:=by simp [h2]
   rw[if_neg h2];by_cases h3:M=3
   ·rw[if_pos h3];cases s with
    | true=>exact Zb (Zh Zd ZN) (Z2B neg half just u E N M b o n c q l J g) (Zj (by rw[h3];rfl) (Zj b2 (Zu b1)))
    | false=>exact Zb (Zh Zd ZN) (Z2G neg half just u E N M b o n c q l J g) (Zj (by rw[h3];rfl) (Zj b2 (Zu b1)))
   ·have b3:(M==3)=false:=by simp [h3]
    rw[if_neg h3];by_cases h4:M=4
    ·rw[if_pos h4];cases s with
     | true=>exact Zb (Zh Zd ZN) (Z2C neg half just u E N M b o n c q l J g) (Zj (by rw[h4];rfl) (Zj b3 (Zj b2 (Zu b1))))
     | false=>exact Zb (Zh Zd ZN) (Z2H neg half just u E N M b o n c q l J g) (Zj (by rw[h4];rfl) (Zj b3 (Zj b2 (Zu b1))))
    ·have b4:(M==4)=false:=by simp [h4]
     rw[if_neg h4,if_neg h1];cases s with
     | true=>exact Zb (Zh Zd ZN) (Z2D neg half just u E N M b o n c q l J g) (Zj b4 (Zj b3 (Zj b2 (Zu b1))))
     | false=>exact Zb (Zh Zd ZN) (Z2I neg half just u E N M b o n c q l J g) (Zj b4 (Zj b3 (Zj b2 (Zu b1))))
theorem ZxP (s:Bool) {neg:Bool}{E N M:Int}{n q:Nat}{half just:Bool}{b:Int}{J:Value}(hq0:s=false→q=0) (hj:half=false→just=false) (g:Nat→Value):
  RunsW (Zk prog Zf Zo hcW) (tS3 f109) (fT neg E N M o n c b (qS s q)++[.bool true,.bool half,J,.bool just]++tl 92 g,hS s neg E o n c l q,[]) fun ex z=>ex=none∧(∃ g,z.1=fT neg E N M o n c b (qS s q)++[.bool true,.bool half,J,.bool just,.bool (half && (!just || odd q))]++tl 91 g)∧z.2.1=hS s neg E o n c l q:=by
 cases half with
 | false=>
  have:=hj rfl;subst this;cases s with
  | true=>exact Zb (Zh Zd ZN) (Z27 neg false E N M b 0 o n c q l J g) (fun x hx=>by cases hx)
  | false=>exact Zb (Zh Zd ZN) (Z28 neg false E N M b 0 o n c q l J g) (fun x hx=>by cases hx)
 | true=>
  cases just with
  | false=>
   cases s with
   | true=>exact Zb (Zh Zd ZN) (ZxK neg false E N M b 0 o n c q l J g) (fun x hx=>by cases hx)
   | false=>exact Zb (Zh Zd ZN) (ZxL neg false E N M b 0 o n c q l J g) (fun x hx=>by cases hx)
  | true=>
   simp only[Bool.true_and,Bool.not_true,Bool.false_or];cases s with
   | true=>
    by_cases hl:0<(d16 q).length
    ·have hne:=ZmS hl;have hd:d16 q=((q % 65536:Nat):Int)::db 65536 (q/65536):=ZaU (by omega) hne;have ho:(((q % 65536:Nat):Int).tmod 2==1)=odd q:=by
      unfold odd;rw[Int.tmod_eq_emod_of_nonneg (by omega),Bool.eq_iff_iff];simp only[beq_iff_eq,Xi];omega
     have hcell:Z4 ((wU (d16 q))[0]?) (.int .u32 ((q % 65536:Nat):Int))=true:=by
      rw[hd];simp [wU,Z4]
     exact Zb (Zh Zd ZN) (ZxM neg (odd q) E N M b ((q % 65536:Nat):Int) o n c q l J g) (Zj ho (Zj rfl (Zj hcell (Zj (Xa ⟨by omega,by omega⟩) (Zu (Xa (by omega)))))))
    ·have h0:=Zjz hl;have ho:odd q=false:=by rw[h0];rfl
     rw[ho];exact Zb (Zh Zd ZN) (Zsk neg false E N M b 0 o n c q l J g) (Zu (Xb (by omega)))
   | false=>
    have ho:odd q=false:=by rw[hq0 rfl];rfl
    rw[ho];exact Zb (Zh Zd ZN) (Zsl neg false E N M b 0 o n c q l J g) (Zu rfl)
end
section
variable {l : List Value} {o c : Nat} {A : List Int}
def ZoF (s:Bool) (neg:Bool) (E:Int) (o n c:Nat) (l:List Value) (q:Nat):List (List Value×TypeId):=match s with | true=>[(wU (d16 q),tU),bX neg E o n c,(l,tR)] | false=>[bX neg E o n c,(l,tR)]
def kS (s:Bool):Nat:=match s with | true=>3 | false=>2
theorem ZxQ (s neg:Bool) (E:Int) (n q:Nat):hS s neg E o n c l q=⟨kS s,ZoF s neg E o n c l q⟩:=by cases s<;>rfl
theorem ZxR (s neg:Bool) (E:Int) (n q:Nat) (hl:∀ v∈l,still v=true):∀ x∈ZoF s neg E o n c l q,∀ v∈x.1,lt1 (kS s) v=true:=by
 have hb:∀ k,0<k→∀ v∈(bX neg E o n c).1,lt1 k v=true:=fun k hk v hv=>by
  simp only[bX,bOf,List.mem_cons,List.not_mem_nil,or_false] at hv;rcases hv with rfl | rfl | rfl
  ·rfl
  ·rfl
  ·exact Zl.2 hk
 intro x hx v hv;cases s with
 | true=>
  simp only[ZoF,List.mem_cons,List.not_mem_nil,or_false] at hx;rcases hx with rfl | rfl | rfl
  ·exact zl (Nat.zero_le _) (ZaX _ v hv)
  ·exact hb 3 (by omega) v hv
  ·exact zv (by decide) (hl v hv)
 | false=>
  simp only[ZoF,List.mem_cons,List.not_mem_nil,or_false] at hx;rcases hx with rfl | rfl
  ·exact hb 2 (by omega) v hv
  ·exact zv (by decide) (hl v hv)
theorem Z74 (s:Bool) {neg:Bool}{E N M:Int}{n q:Nat}{b:Int}{half:Bool}:∀ v∈fT neg E N M o n c b (qS s q)++[.bool true,.bool half],lt (kS s) v=true:=by
 intro v hv;simp only[fT,List.mem_append,List.mem_cons,List.not_mem_nil,or_false] at hv;rcases hv with (rfl | rfl | rfl | rfl | rfl | rfl | rfl | rfl | rfl | rfl) | rfl | rfl<;>cases s<;>rfl
theorem Zcf (s:Bool) {neg:Bool}{E N M:Int}{n q:Nat}{b:Int}{half just:Bool}{X:Code}{P:Ex→Lf→Prop}(hl:∀ v∈l,still v=true)
  (h:∀ J g,RunsW (Zk prog Zf Zo hcW) X (fT neg E N M o n c b (qS s q)++[.bool true,.bool half,J,.bool just]++tl 92 g,hS s neg E o n c l q,[]) P)
  (u:Value) (g:Nat→Value) (sc:List Dec) {hp:Hp}{extra:List (List Value×TypeId)}(he:hp=⟨extra.length+kS s,extra++ZoF s neg E o n c l q⟩):
  RunsW (Zk prog Zf Zo hcW) X (fT neg E N M o n c b (qS s q)++[.bool true,.bool half,u,.bool just]++tl 92 g,hp,sc) P:=by
 have e1:∀ v:Value,fT neg E N M o n c b (qS s q)++[.bool true,.bool half,v,.bool just]=(fT neg E N M o n c b (qS s q)++[.bool true,.bool half])++v::[.bool just]:=fun v=>by simp
 rw[he,e1];refine RunsW.pre (k:=kS s) (s':=[]) (fun j g=> ?_) (by cases s<;>rfl) rfl (by cases s<;>decide) (ZxR s neg E n q hl) (Z74 s) (fun v hv=>by rw[List.mem_singleton.1 hv];rfl);rw[← e1,← ZxQ];exact h j g
theorem Zcp {x y:Nat}:(zY x y==0)=decide (x=y):=by
 unfold zY;by_cases h1:x<y
 ·rw[if_pos h1,Xb (by omega)];rfl
 ·rw[if_neg h1];by_cases h2:x=y
  ·rw[if_pos h2,Xa h2];rfl
  ·rw[if_neg h2,Xb h2];rfl
theorem ZxS (s:Bool) (hF:Fst l o c A) (hl:∀ v∈l,still v=true) (hC:Zbq 65536 A) (hn:A.length<1000000) {neg:Bool}{E N M:Int}{q k:Nat}(hk:k<1000000) (hq:q=vb 65536 A/2^(k+1)) (hs:s=decide ((k+1)/16<A.length)) (hlost:vb 65536 A % 2^(k+1)≠0) {half:Bool}{X:Code}{P:Ex→Lf→Prop}
  (h:∀ J g,RunsW (Zk prog Zf Zo hcW) X (fT neg E N M o A.length c ((k+1:Nat):Int) (qS s q)++[.bool true,.bool half,J,.bool (half && decide (vb 65536 A % 2^(k+1)=2^k))]++tl 92 g,hS s neg E o A.length c l q,[]) P) (g:Nat→Value):
  RunsW (Zk prog Zf Zo hcW) (ZW (tS2 f109) X) (fT neg E N M o A.length c ((k+1:Nat):Int) (qS s q)++[.bool true,.bool half]++tl 94 g,hS s neg E o A.length c l q,[]) P:=by
 have hT0:vb 65536 A≠0:=fun h0=>hlost (by rw[h0];exact Nat.zero_mod _);have hn0:0<A.length:=by
  rcases Nat.eq_zero_or_pos A.length with h0 | h0
  ·have:A=[]:=List.length_eq_zero_iff.1 h0;subst this;exact absurd rfl hT0
  ·exact h0
 have hp:0<2^(k+1):=Nat.pow_pos (by omega);have hdm:=Nat.div_add_mod (vb 65536 A) (2^(k+1));rw[← hq] at hdm;have hqle:q≤vb 65536 A:=by rw[hq];exact Nat.div_le_self _ _
 have hTl:vb 65536 A<65536^A.length:=ZbG (by omega) A hC.1;have lenOf:∀ V,V≤vb 65536 A→(d16 V).length≤A.length:=fun V hV=>Zbt (by omega) _ V (by omega);have hql:=lenOf q hqle;have e1:dif ((k+1:Nat):Int) 1=(k:Int):=by unfold dif;rw[Zw (by omega) (by omega)];omega
 have e2:(((k+1:Nat):Int)).toNat=k+1:=by omega
 have hA3:(d16 (1*2^k)).length≤k+1:=Zbt (by omega) _ _ (by
  rw[Zfz];have:=Nat.pow_lt_pow_right (show 1<2 by omega) (show k<16*(k+1) by omega);omega)
 have b1:∀ q',(hS s neg E o A.length c l q').blk? 0=some (l,tR):=fun q'=>by cases s<;>rfl
 have sq0:s=false→q=0:=fun h0=>by
  rw[h0] at hs;have h1:=of_decide_eq_false hs.symm;rw[hq];refine Nat.div_eq_of_lt (Nat.lt_of_lt_of_le hTl ?_);rw[Zfz];exact Nat.pow_le_pow_right (by omega) (by omega)
 have hlen:=ZaP hF hC (by omega) (b1 q);have hvT:=Zbx hF (b1 q);by_cases hdl:((k+1:Nat):Int)≤((bl (vb 65536 A):Nat):Int)
 ·by_cases hdq:0<(d16 q).length
  ·
   have hq1:=ZmS hdq;cases s with
   | false=>exact absurd (sq0 rfl) hq1
   | true=>
    simp only[hS,qS] at*;have r2:(hQ neg E o A.length c l q).blk? 2=some (wU (d16 q),tU):=rfl;have hsub:vb 65536 A-q*2^(k+1)=vb 65536 A % 2^(k+1):=by rw[Nat.mul_comm];omega
    have hle:q*2^(k+1)≤vb 65536 A:=by rw[Nat.mul_comm];omega
    have eA:vO (hQ neg E o A.length c l q) (some ⟨2,0,none⟩) (d16 q).length*2^(((k+1:Nat):Int)).toNat=q*2^(k+1):=by rw[zE (A:=q) (ty:=tU) rfl,e2]
    have lA:=lenOf _ hle;have lS:=lenOf (vb 65536 A % 2^(k+1)) (Nat.mod_le _ _);have eS:vO (nxt (hQ neg E o A.length c l q) (q*2^(k+1))) (aX o) A.length-vO (nxt (hQ neg E o A.length c l q) (q*2^(k+1))) (some ⟨3,0,none⟩) (d16 (q*2^(k+1))).length=vb 65536 A % 2^(k+1):=by
     rw[Zbx hF rfl,zE (A:=q*2^(k+1)) (ty:=tU) rfl,hsub]
    have g1:Zx [(ZL (nxt (hQ neg E o A.length c l q) (q*2^(k+1))) (aX o) (some ⟨3,0,none⟩) A.length c (d16 (q*2^(k+1))).length (d16 (q*2^(k+1))).length && Nat.ble (vO (nxt (hQ neg E o A.length c l q) (q*2^(k+1))) (some ⟨3,0,none⟩) (d16 (q*2^(k+1))).length) (vO (nxt (hQ neg E o A.length c l q) (q*2^(k+1))) (aX o) A.length),true),(decide (0<A.length),true),(ZcL (hQ neg E o A.length c l q) (some ⟨2,0,none⟩) (d16 q).length (d16 q).length ((k+1:Nat):Int),true),(decide (0<(d16 q).length),true),(decide (((k+1:Nat):Int)≤((bl (vO (hQ neg E o A.length c l q) (aX o) A.length):Nat):Int)),true),(Zab (hQ neg E o A.length c l q) (aX o) A.length c,true)]:=by
     have p5:decide (((k+1:Nat):Int)≤((bl (vO (hQ neg E o A.length c l q) (aX o) A.length):Nat):Int))=true:=by rw[hvT];exact Xa hdl
     have p3:ZcL (hQ neg E o A.length c l q) (some ⟨2,0,none⟩) (d16 q).length (d16 q).length ((k+1:Nat):Int)=true:=Zbl r2 (by omega) (by omega);have p6:Zab (hQ neg E o A.length c l q) (aX o) A.length c=true:=ZaP hF hC (by omega) rfl;have p2:decide (0<A.length)=true:=Xa hn0;have p4:decide (0<(d16 q).length)=true:=Xa hdq;refine Za ?_ (Za p2 (Za p3 (Za p4 (Za p5 (Z5 p6)))));rw[Zib hF hC (by omega) rfl (V:=q*2^(k+1)) rfl (by omega),Zbx hF rfl,zE (A:=q*2^(k+1)) (ty:=tU) rfl,Nat.ble_eq_true_of_le hle];rfl
    cases half with
    | false=>
     refine Zv (Zh Zd ZN) (ZxC neg false E N M _ o A.length c q l g) (by rw[eA];exact g1) fun g'=> ?_;rw[eA,eS];exact Zcf true (q:=q) hl h _ g' _ (extra:=[(wU (d16 (vb 65536 A % 2^(k+1))),tU),(wU (d16 (q*2^(k+1))),tU)]) rfl
    | true=>
     have eP:vO (nxt (nxt (nxt (hQ neg E o A.length c l q) (q*2^(k+1))) (vb 65536 A % 2^(k+1))) 1) (some ⟨5,0,none⟩) (d16 1).length*2^(dif ((k+1:Nat):Int) 1).toNat=1*2^k:=by rw[zE (A:=1) (ty:=tU) rfl,e1,Xg]
     refine Zv (Zh Zd ZN) (ZxD neg (decide (vb 65536 A % 2^(k+1)=2^k)) E N M _ o A.length c q l g) ?_ fun g'=> ?_
     ·rw[eA,eS,eP];refine Zj ?_ (Zj (ZfA (A:=vb 65536 A % 2^(k+1)) (A':=1*2^k) rfl rfl (by omega) (by omega)) (Zj (by rw[e1];exact Zbl (A:=1) rfl (by omega) (by rw[zV];omega)) (Zj (Xa (by rw[zV];omega)) (Zj (by decide) g1))));dsimp only;rw[zE (A:=vb 65536 A % 2^(k+1)) (ty:=tU) rfl,zE (A:=1*2^k) (ty:=tU) rfl,Zcp,Nat.one_mul]
     ·rw[eA,eS,eP];exact Zcf true (q:=q) hl h _ g' _ (extra:=[(wU (d16 (1*2^k)),tU),(wU (d16 1),tU),(wU (d16 (vb 65536 A % 2^(k+1))),tU),(wU (d16 (q*2^(k+1))),tU)]) rfl
  ·
   have hq1:q=0:=Zjz hdq;have hTm:vb 65536 A % 2^(k+1)=vb 65536 A:=by rw[hq1,Nat.mul_zero,Nat.zero_add] at hdm;exact hdm
   cases s with
   | true=>
    simp only[hS,qS] at*;have p6:Zab (hQ neg E o A.length c l q) (aX o) A.length c=true:=ZaP hF hC (by omega) rfl;have w1:vO (hQ neg E o A.length c l q) (aX o) A.length=vb 65536 A:=Zbx hF rfl;have p2:decide (0<A.length)=true:=Xa hn0;have eS:(vO (hQ neg E o A.length c l q) (aX o) A.length-vO (hQ neg E o A.length c l q) none 0)=vb 65536 A % 2^(k+1):=by rw[w1,ZgE,Nat.sub_zero,hTm]
    have p5:decide (((k+1:Nat):Int)≤((bl (vO (hQ neg E o A.length c l q) (aX o) A.length):Nat):Int))=true:=by rw[w1];exact Xa hdl
    have p3:zx (hQ neg E o A.length c l q) (some ⟨2,0,none⟩) (d16 q).length (d16 q).length=true:=ZJ (A:=q) rfl (by omega);have p4:decide (0<(d16 q).length)=false:=Xb hdq;have p1:(ZL (hQ neg E o A.length c l q) (aX o) none A.length c 0 0 && Nat.ble (vO (hQ neg E o A.length c l q) none 0) (vO (hQ neg E o A.length c l q) (aX o) A.length))=true:=by rw[Zj0 hF hC (by omega) rfl,ZgE];rfl
    have lS:=lenOf (vb 65536 A % 2^(k+1)) (Nat.mod_le _ _);cases half with
    | false=>
     refine Zv (Zh Zd ZN) (ZxE neg false E N M _ o A.length c q l g) (Za p1 (Za p2 (Za p3 (Za p4 (Za p5 (Z5 p6)))))) fun g'=> ?_;rw[eS];exact Zcf true (q:=q) hl h _ g' _ (extra:=[(wU (d16 (vb 65536 A % 2^(k+1))),tU)]) rfl
    | true=>
     have eP:vO (nxt (nxt (hQ neg E o A.length c l q) (vb 65536 A % 2^(k+1))) 1) (some ⟨4,0,none⟩) (d16 1).length*2^(dif ((k+1:Nat):Int) 1).toNat=1*2^k:=by rw[zE (A:=1) (ty:=tU) rfl,e1,Xg]
     refine Zv (Zh Zd ZN) (ZxF neg (decide (vb 65536 A % 2^(k+1)=2^k)) E N M _ o A.length c q l g) ?_ fun g'=> ?_
     ·rw[eS,eP];refine Zj ?_ (Zj (ZfA (A:=vb 65536 A % 2^(k+1)) (A':=1*2^k) rfl rfl (by omega) (by omega)) (Zj (by rw[e1];exact Zbl (A:=1) rfl (by omega) (by rw[zV];omega)) (Zj (Xa (by rw[zV];omega)) (Zj (by decide) (Za p1 (Za p2 (Za p3 (Za p4 (Za p5 (Z5 p6))))))))));dsimp only;rw[zE (A:=vb 65536 A % 2^(k+1)) (ty:=tU) rfl,zE (A:=1*2^k) (ty:=tU) rfl,Zcp,Nat.one_mul]
     ·rw[eS,eP];exact Zcf true (q:=q) hl h _ g' _ (extra:=[(wU (d16 (1*2^k)),tU),(wU (d16 1),tU),(wU (d16 (vb 65536 A % 2^(k+1))),tU)]) rfl
   | false=>
    simp only[hS,qS] at*;have p6:Zab (hX neg E o A.length c l) (aX o) A.length c=true:=ZaP hF hC (by omega) rfl;have w1:vO (hX neg E o A.length c l) (aX o) A.length=vb 65536 A:=Zbx hF rfl;have p2:decide (0<A.length)=true:=Xa hn0;have eS:(vO (hX neg E o A.length c l) (aX o) A.length-vO (hX neg E o A.length c l) none 0)=vb 65536 A % 2^(k+1):=by rw[w1,ZgE,Nat.sub_zero,hTm]
    have p5:decide (((k+1:Nat):Int)≤((bl (vO (hX neg E o A.length c l) (aX o) A.length):Nat):Int))=true:=by rw[w1];exact Xa hdl
    have p3:zx (hX neg E o A.length c l) none 0 0=true:=rfl;have p4:decide (0<0)=false:=rfl;have p1:(ZL (hX neg E o A.length c l) (aX o) none A.length c 0 0 && Nat.ble (vO (hX neg E o A.length c l) none 0) (vO (hX neg E o A.length c l) (aX o) A.length))=true:=by rw[Zj0 hF hC (by omega) rfl,ZgE];rfl
    have lS:=lenOf (vb 65536 A % 2^(k+1)) (Nat.mod_le _ _);cases half with
    | false=>
     refine Zv (Zh Zd ZN) (ZxI neg false E N M _ o A.length c q l g) (Za p1 (Za p2 (Za p3 (Za p4 (Za p5 (Z5 p6)))))) fun g'=> ?_;rw[eS];exact Zcf false (q:=q) hl h _ g' _ (extra:=[(wU (d16 (vb 65536 A % 2^(k+1))),tU)]) rfl
    | true=>
     have eP:vO (nxt (nxt (hX neg E o A.length c l) (vb 65536 A % 2^(k+1))) 1) (some ⟨3,0,none⟩) (d16 1).length*2^(dif ((k+1:Nat):Int) 1).toNat=1*2^k:=by rw[zE (A:=1) (ty:=tU) rfl,e1,Xg]
     refine Zv (Zh Zd ZN) (ZxJ neg (decide (vb 65536 A % 2^(k+1)=2^k)) E N M _ o A.length c q l g) ?_ fun g'=> ?_
     ·rw[eS,eP];refine Zj ?_ (Zj (ZfA (A:=vb 65536 A % 2^(k+1)) (A':=1*2^k) rfl rfl (by omega) (by omega)) (Zj (by rw[e1];exact Zbl (A:=1) rfl (by omega) (by rw[zV];omega)) (Zj (Xa (by rw[zV];omega)) (Zj (by decide) (Za p1 (Za p2 (Za p3 (Za p4 (Za p5 (Z5 p6))))))))));dsimp only;rw[zE (A:=vb 65536 A % 2^(k+1)) (ty:=tU) rfl,zE (A:=1*2^k) (ty:=tU) rfl,Zcp,Nat.one_mul]
     ·rw[eS,eP];exact Zcf false (q:=q) hl h _ g' _ (extra:=[(wU (d16 (1*2^k)),tU),(wU (d16 1),tU),(wU (d16 (vb 65536 A % 2^(k+1))),tU)]) rfl
 ·
  have hTs:vb 65536 A<2^(k+1):=by
   have h1:=Zu1 (vb 65536 A);have h2:=Nat.pow_le_pow_right (show 0<2 by omega) (show bl (vb 65536 A)≤k+1 by omega);omega
  have hTm:vb 65536 A % 2^(k+1)=vb 65536 A:=Nat.mod_eq_of_lt hTs;cases s with
  | true=>
   simp only[hS,qS] at*;have p6:Zab (hQ neg E o A.length c l q) (aX o) A.length c=true:=ZaP hF hC (by omega) rfl;have w1:vO (hQ neg E o A.length c l q) (aX o) A.length=vb 65536 A:=Zbx hF rfl;have p5:decide (((k+1:Nat):Int)≤((bl (vO (hQ neg E o A.length c l q) (aX o) A.length):Nat):Int))=false:=by rw[w1];exact Xb hdl
   cases half with
   | false=>
    refine Zv (Zh Zd ZN) (ZxA neg false E N M _ o A.length c q l g) (Za p5 (Z5 p6)) fun g'=> ?_;exact Zcf true (q:=q) hl h _ g' _ (extra:=[]) rfl
   | true=>
    have eP:vO (nxt (hQ neg E o A.length c l q) 1) (some ⟨3,0,none⟩) (d16 1).length*2^(dif ((k+1:Nat):Int) 1).toNat=1*2^k:=by rw[zE (A:=1) (ty:=tU) rfl,e1,Xg]
    refine Zv (Zh Zd ZN) (ZxB neg (decide (vb 65536 A % 2^(k+1)=2^k)) E N M _ o A.length c q l g) ?_ fun g'=> ?_
    ·rw[eP];have pt:ZL (nxt (nxt (hQ neg E o A.length c l q) 1) (1*2^k)) (aX o) (some ⟨4,0,none⟩) A.length c (d16 (1*2^k)).length (d16 (1*2^k)).length=true:=Zib hF hC (by omega) rfl (V:=1*2^k) rfl (by omega);refine Zj ?_ (Zj (by dsimp only;exact pt) (Zj (by rw[e1];exact Zbl (A:=1) rfl (by omega) (by rw[zV];omega)) (Zj (Xa (by rw[zV];omega)) (Zj (by decide) (Za p5 (Z5 p6))))));dsimp only;rw[Zbx hF rfl,zE (A:=1*2^k) (ty:=tU) rfl,Zcp,Nat.one_mul,hTm]
    ·rw[eP];exact Zcf true (q:=q) hl h _ g' _ (extra:=[(wU (d16 (1*2^k)),tU),(wU (d16 1),tU)]) rfl
  | false=>
   simp only[hS,qS] at*;have p6:Zab (hX neg E o A.length c l) (aX o) A.length c=true:=ZaP hF hC (by omega) rfl;have w1:vO (hX neg E o A.length c l) (aX o) A.length=vb 65536 A:=Zbx hF rfl;have p5:decide (((k+1:Nat):Int)≤((bl (vO (hX neg E o A.length c l) (aX o) A.length):Nat):Int))=false:=by rw[w1];exact Xb hdl
   cases half with
   | false=>
    refine Zv (Zh Zd ZN) (ZxG neg false E N M _ o A.length c q l g) (Za p5 (Z5 p6)) fun g'=> ?_;exact Zcf false (q:=q) hl h _ g' _ (extra:=[]) rfl
   | true=>
    have eP:vO (nxt (hX neg E o A.length c l) 1) (some ⟨2,0,none⟩) (d16 1).length*2^(dif ((k+1:Nat):Int) 1).toNat=1*2^k:=by rw[zE (A:=1) (ty:=tU) rfl,e1,Xg]
    refine Zv (Zh Zd ZN) (ZxH neg (decide (vb 65536 A % 2^(k+1)=2^k)) E N M _ o A.length c q l g) ?_ fun g'=> ?_
    ·rw[eP];have pt:ZL (nxt (nxt (hX neg E o A.length c l) 1) (1*2^k)) (aX o) (some ⟨3,0,none⟩) A.length c (d16 (1*2^k)).length (d16 (1*2^k)).length=true:=Zib hF hC (by omega) rfl (V:=1*2^k) rfl (by omega);refine Zj ?_ (Zj (by dsimp only;exact pt) (Zj (by rw[e1];exact Zbl (A:=1) rfl (by omega) (by rw[zV];omega)) (Zj (Xa (by rw[zV];omega)) (Zj (by decide) (Za p5 (Z5 p6))))));dsimp only;rw[Zbx hF rfl,zE (A:=1*2^k) (ty:=tU) rfl,Zcp,Nat.one_mul,hTm]
    ·rw[eP];exact Zcf false (q:=q) hl h _ g' _ (extra:=[(wU (d16 (1*2^k)),tU),(wU (d16 1),tU)]) rfl
end
def Zdn (M:Int) (neg:Bool) (T n:Nat) (E N:Int):Bool:=if N≤E then decide (0<n) else (decide ((N-E).toNat/16<n) || (decide (T % 2^(N-E).toNat≠0) && upR M neg (odd (T/2^(N-E).toNat)) (zX (T % 2^(N-E).toNat) (2^(N-E).toNat))))
def ZxT (F:Func) (rw:Bool) (V:Nat) (oth:Bool) (z:Lf):Prop:=(rw=true→∃ k,ZV prog F z.1 z.2.1=some (.tuple #[sOf k V,.bool oth])∧∃ r,z.2.1.blk? k=some (wU (d16 V)++r,tU))∧(rw=false→ZV prog F z.1 z.2.1=some (.tuple #[Zn,.bool oth]))
section
variable {l : List Value} {o c : Nat} {A : List Int}
theorem Zsm (hF:Fst l o c A) (hC:Zbq 65536 A) (hn:A.length<1073741824) {h:Hp}(hh:h.blk? 0=some (l,tR)):Zxq h (aX o) A.length c=true:=by
 unfold Zxq aX;rw[(hF h hh).1,(hF h hh).2,Zbv hC.1,Zl.2 hn];rfl
theorem ZhD (hF:Fst l o c A) (hl:∀ v∈l,still v=true) (hC:Zbq 65536 A) (hn:A.length<1000000) {neg:Bool}{E N M:Int}(hE: -400000≤E∧E≤400000) (hN: -400000≤N∧N≤400000):
  RunsW (Zk prog Zf Zo hcW) (Zs f109) ([vRN neg E (sl 0 o A.length c),.int .i64 N,.int .i64 M]++List.replicate 103 undef,⟨1,[(l,tR)]⟩,[]) fun ex z=>(ex=none∨ex=some none)∧ZxT f109 (Zdn M neg (vb 65536 A) A.length E N) (toQ M neg (vb 65536 A) E N) (toL (vb 65536 A) E N) z:=by
 have hb0:(hX neg E o A.length c l).blk? 0=some (l,tR):=rfl;have hv:=Zbx hF hb0;have hrow:=(hF _ hb0).1;have hrf:=(hF _ hb0).2;by_cases hup:N≤E
 ·have ed:dif E N=((E-N).toNat:Int):=by unfold dif;rw[Zw (by omega) (by omega)];omega
  have ge:decide (E≥N)=true:=Xa hup;unfold Zdn toQ toL;rw[if_pos hup,if_pos hup,if_pos hup];by_cases h0:0<A.length
  ·rw[Xa h0];have ok:ZcL (hX neg E o A.length c l) (aX o) A.length c (dif E N)=true:=by
    unfold ZcL aX;rw[hrow,hrf,Zbv hC.1,ed,Xg,Zl.2 (by omega),Xa (by omega)];rfl
   refine (Zb (Zh Zd ZN) (Z21 neg E N M o A.length c l) (Za ok (Za (Xa h0) (Z5 ge)))).mono fun ex z hz=> ?_;rw[hv,ed,Xg] at hz;obtain⟨rfl,⟨g',z1⟩,z2⟩:=hz;refine⟨.inr rfl,fun _=>⟨2,?_,[],?_⟩,fun h=>by cases h⟩
   ·rw[z1,z2];rfl
   ·rw[z2,List.append_nil];rfl
  ·rw[Xb h0];refine (Zb (Zh Zd ZN) (Z22 neg E N M o A.length c l) (Za hrow (Za (Xb h0) (Z5 ge)))).mono fun ex z hz=> ?_;obtain⟨rfl,⟨g',z1⟩,z2⟩:=hz;refine⟨.inr rfl,(fun h=>by cases h),fun _=> ?_⟩;rw[z1,z2];rfl
 ·obtain⟨k,hk⟩:∃ k:Nat,N-E=((k+1:Nat):Int):=⟨(N-E).toNat-1,by omega⟩;have ed:dif N E=((k+1:Nat):Int):=by unfold dif;rw[Zw (by omega) (by omega),hk]
  have ekn:(N-E).toNat=k+1:=by omega
  have e2:(((k+1:Nat):Int)).toNat=k+1:=by omega
  have ge:decide (E≥N)=false:=Xb (by omega);have ok:Ze7 (hX neg E o A.length c l) (aX o) A.length c (dif N E)=true:=by
   unfold Ze7 aX;rw[hrow,hrf,Zbv hC.1,ed,Zl.2 (by omega),Xa (by omega)];rfl
  have ew:decide ((dif N E).toNat/16<A.length)=decide ((k+1)/16<A.length):=by rw[ed,e2]
  have el:decide (vO (hX neg E o A.length c l) (aX o) A.length % 2^(dif N E).toNat≠0)=decide (vb 65536 A % 2^(k+1)≠0):=by rw[hv,ed,e2]
  unfold Zdn toQ toL;rw[if_neg hup,if_neg hup,if_neg hup,ekn];by_cases hlost:vb 65536 A % 2^(k+1)=0
  ·have ed0:decide (vb 65536 A % 2^(k+1)≠0)=false:=Xb (by omega);rw[ed0,ZfC hlost,Bool.false_and,Bool.or_false];rw[ed0] at el;by_cases hw:(k+1)/16<A.length
   ·rw[Xa hw] at ew ⊢;refine (Zb (Zh Zd ZN) (Z23 neg E N M o A.length c l) (Za el (Za ew (Za ok (Z5 ge))))).mono fun ex z hz=> ?_;rw[hv,ed,e2] at hz;obtain⟨rfl,⟨g',z1⟩,z2⟩:=hz;refine⟨.inr rfl,fun _=>⟨2,?_,[],?_⟩,fun h=>by cases h⟩
    ·rw[z1,z2];rfl
    ·rw[z2,List.append_nil];rfl
   ·rw[Xb hw] at ew ⊢;refine (Zb (Zh Zd ZN) (Z24 neg E N M o A.length c l) (Za el (Za ew (Za ok (Z5 ge))))).mono fun ex z hz=> ?_;obtain⟨rfl,⟨g',z1⟩,z2⟩:=hz;refine⟨.inr rfl,(fun h=>by cases h),fun _=> ?_⟩;rw[z1,z2];rfl
  ·have ed1:decide (vb 65536 A % 2^(k+1)≠0)=true:=Xa hlost;rw[ed1,Bool.true_and];rw[ed1] at el;have ecode:Zs f109=ZW (tS1 f109) (ZW (tS2 f109) (.seq (tS3 f109) (.seq (tS4 f109) (tS5 f109)))):=Option.some.inj (Zen.symm.trans Zsj);rw[ecode];have hTl:vb 65536 A<65536^A.length:=ZbG (by omega) A hC.1;have hql:(d16 (vb 65536 A/2^(k+1))).length≤A.length:=Zbt (by omega) _ _ (Nat.lt_of_le_of_lt (Nat.div_le_self _ _) hTl);have sq0:decide ((k+1)/16<A.length)=false→vb 65536 A/2^(k+1)=0:=fun h0=>by
    have h1:=of_decide_eq_false h0;refine Nat.div_eq_of_lt (Nat.lt_of_lt_of_le hTl ?_);rw[Zfz];exact Nat.pow_le_pow_right (by omega) (by omega)
   have e1:dif (dif N E) 1=(k:Int):=by rw[ed];unfold dif;rw[Zw (by omega) (by omega)];omega
   have hh:∀ T:Nat,(((T/2^k % 2:Nat):Int)==1)=decide (2^k≤T % 2^(k+1)):=fun T=>by
    rw[Bool.eq_iff_iff];simp only[beq_iff_eq,Xi,← Zrp];omega
   have hu:=Z0J (r:=vb 65536 A % 2^(k+1)) (k:=k) hlost M neg (odd (vb 65536 A/2^(k+1)));have rest:∀ s,s=decide ((k+1)/16<A.length)→∀ g,RunsW (Zk prog Zf Zo hcW) (ZW (tS2 f109) (.seq (tS3 f109) (.seq (tS4 f109) (tS5 f109)))) (fT neg E N M o A.length c ((k+1:Nat):Int) (qS s (vb 65536 A/2^(k+1)))++[.bool true,.bool (decide (2^k≤vb 65536 A % 2^(k+1)))]++tl 94 g,hS s neg E o A.length c l (vb 65536 A/2^(k+1)),[])
     fun ex z=>(ex=none∨ex=some none)∧ZxT f109 (s || upR M neg (odd (vb 65536 A/2^(k+1))) (zX (vb 65536 A % 2^(k+1)) (2^(k+1)))) (rq M neg (vb 65536 A) (k+1)) true z:=by
    intro s hs g;refine ZxS s hF hl hC hn (by omega) rfl hs hlost (fun J g=> ?_) g;refine RunsW.seq (ZxP s (fun h0=>sq0 (by rw[← hs];exact h0)) (fun h0=>by rw[h0];rfl) g) ?_ (fun e y he=>by cases he.1);rintro⟨t,h',sc⟩ ⟨_,⟨g,ht⟩,hh'⟩;simp only at ht hh';subst ht hh';refine RunsW.seq (RunsW.script (ZxO s g)) ?_ (fun e y he=>by cases he.1);rintro⟨t,h',sc⟩ ⟨_,⟨g,ht⟩,hh'⟩;simp only at ht hh';subst ht hh';have eu:upM M neg (decide (2^k≤vb 65536 A % 2^(k+1))) (decide (2^k≤vb 65536 A % 2^(k+1)) && (!(decide (2^k≤vb 65536 A % 2^(k+1)) && decide (vb 65536 A % 2^(k+1)=2^k)) || odd (vb 65536 A/2^(k+1))))=upR M neg (odd (vb 65536 A/2^(k+1))) (zX (vb 65536 A % 2^(k+1)) (2^(k+1))):=by
     rw[hu];unfold upM;cases decide (2^k≤vb 65536 A % 2^(k+1))<;>simp
    rw[eu];refine (RunsW.script (ZxN s (by omega) (fun h0=>sq0 (by rw[← hs];exact h0)) g)).mono fun ex z hz=> ?_;obtain⟨z0,z1,z2⟩:=hz;unfold rq;refine⟨z0,fun hr=>z1 (by simpa using hr),fun hr=>z2 (by simpa using hr)⟩
   by_cases hw:(k+1)/16<A.length
   ·rw[Xa hw] at ew ⊢;have rs:=rest true (Xa hw).symm;refine Zv (Zh Zd ZN) (Z25 neg (decide (2^k≤vb 65536 A % 2^(k+1))) E N M o A.length c l) ?_ fun g=> ?_
    ·have hbn:(nxt (hX neg E o A.length c l) (vO (hX neg E o A.length c l) (aX o) A.length/2^(dif N E).toNat)).blk? 0=some (l,tR):=rfl;refine Za ?_ (Za ?_ (Za ?_ (Za el (Za ew (Za ok (Z5 ge))))))
     ·rw[Zbx hF hbn,e1,Xg];exact hh _
     ·exact Zsm hF hC (by omega) hbn
     ·rw[e1];exact Xa ⟨by omega,by omega⟩
    ·rw[hv,ed,e2];exact rs g
   ·rw[Xb hw] at ew ⊢;have rs:=rest false (Xb hw).symm;refine Zv (Zh Zd ZN) (Z26 neg (decide (2^k≤vb 65536 A % 2^(k+1))) E N M o A.length c l) ?_ fun g=> ?_
    ·refine Za ?_ (Za ?_ (Za ?_ (Za el (Za ew (Za ok (Z5 ge))))))
     ·rw[hv,e1,Xg];exact hh _
     ·unfold Zxq aX;rw[hrow,hrf,Zbv hC.1,Zl.2 (by omega)];rfl
     ·rw[e1];exact Xa ⟨by omega,by omega⟩
    ·rw[ed];exact rs g
end
def Zeo (h:Hp) (p:Option Addr) (n c:Nat) (E N:Int):Bool:=zx h p n c && ZcQ (Zm h p n) && Nat.blt n 1000000 && decide ((-400000≤E∧E≤400000)∧(-400000≤N∧N≤400000))
def gTo:Zae:=fun vals h s=>
 match vals,s with
 | [.agg cs,.int .i64 N,.int .i64 M],.inr (.inr (.inr (.inl d))):: .inr (.inr (.inr (.inl e)))::s'=>
  match cs.toList with
  | [.bool neg,.int .i64 E,.slice (some ⟨b,o,none⟩) n c]=>
   match d with
   | true=>some (.tuple #[sOf h.n (toQ M neg (vO h (some ⟨b,o,none⟩) n) E N),.bool e],h.push (wU (d16 (toQ M neg (vO h (some ⟨b,o,none⟩) n) E N))) tU,s',[(toL (vO h (some ⟨b,o,none⟩) n) E N,e),(Zdn M neg (vO h (some ⟨b,o,none⟩) n) n E N,true),(Zeo h (some ⟨b,o,none⟩) n c E N,true)])
   | false=>some (.tuple #[Zn,.bool e],h,s',[(toL (vO h (some ⟨b,o,none⟩) n) E N,e),(Zdn M neg (vO h (some ⟨b,o,none⟩) n) n E N,false),(Zeo h (some ⟨b,o,none⟩) n c E N,true)])
  | _=>none
 | _,_=>none
theorem Z2N:Z6 109 gTo:=by
 intro vals h s v h' s' lg hg hl m B w E0 hv;unfold gTo at hg;split at hg
 ·rename_i cs N M d e s2;split at hg
  ·rename_i neg E b o n c hcs;have ecs:cs= #[.bool neg,.int .i64 E,sl b o n c]:=by
    have:=congrArg List.toArray hcs;simpa [sl] using this
   have key:toL (vO h (some ⟨b,o,none⟩) n) E N=e→Zdn M neg (vO h (some ⟨b,o,none⟩) n) n E N=d→Zeo h (some ⟨b,o,none⟩) n c E N=true→
     ∃ l,(∀ v∈l,still v=true)∧(⟨1,[(l,tR)]⟩:Hp).fits (fun _=>b) h∧RunsW (Zk prog Zf Zo hcW) (Zs f109) ([vRN neg E (sl 0 o n c),.int .i64 N,.int .i64 M]++List.replicate 103 undef,⟨1,[(l,tR)]⟩,[]) fun ex z=>(ex=none∨ex=some none)∧ZxT f109 d (toQ M neg (vO h (some ⟨b,o,none⟩) n) E N) e z:=by
    intro l1 l2 l3;simp only[Zeo,Xh,Xi] at l3;obtain⟨⟨⟨q1,q2⟩,q3⟩,q4⟩:=l3;have q2:=Zdc q2;have q3:=Zl.1 q3;rcases ZC q1 with ⟨h0,_⟩ | ⟨b',o',x,hp,hx,r1,rs,e0⟩
    ·cases h0
    ·cases hp;rw[e0] at q2;obtain⟨h1,h2,h3,h4,h5,h6,h7⟩:=zj r1;have ev:vO h (some ⟨b,o,none⟩) n=vb 65536 (Zz x.1 o n):=by unfold vO;rw[e0]
     have r:=ZhD (ZgY r1 rs) h7 q2 (by rw[h2];exact q3) (neg:=neg) (M:=M) q4.1 q4.2;rw[h2,← ev,l1,l2] at r;exact⟨x.1,h7,zS hx h5 h6 rfl,r⟩
   have evals:List.map (rn fun _=>b) [vRN neg E (sl 0 o n c),.int .i64 N,.int .i64 M]=[.agg cs,.int .i64 N,.int .i64 M]:=by
    rw[ecs];simp [rn,rn2,rn1,vRN,sl]
   split at hg
   ·cases hg;obtain⟨l,p1,p2,p3⟩:=key (hl _ (Xe)) (hl _ (Xd _ (Xe))) (hl _ (Xd _ (Xd _ Xf)));have fin:=ZbS (T:=Zk prog Zf Zo hcW) func109 Zen (ZaH p1) (vals:=[vRN neg E (sl 0 o n c),.int .i64 N,.int .i64 M]) (fun v hv=>by
     simp only[List.mem_cons,List.not_mem_nil,or_false] at hv;rcases hv with h1 | h1 | h1<;>rw[h1]<;>rfl) (v:=fun k=> .tuple #[sOf k (toQ M neg (vO h (some ⟨b,o,none⟩) n) E N),.bool e]) (ZaX _) (by kernel_rfl) (p3.mono fun ex z hz=>⟨hz.1,hz.2.1 rfl⟩) (fun k=>by simp [oc,oc2,oc1,sOf,sl]) E0 p2 (fun k=>by simp [rn,rn2,rn1,sOf,sl])
    rw[evals] at fin;exact fin
   ·cases hg;obtain⟨l,p1,p2,p3⟩:=key (hl _ (Xe)) (hl _ (Xd _ (Xe))) (hl _ (Xd _ (Xd _ Xf)));have fin:=ZB (T:=Zk prog Zf Zo hcW) func109 Zen (ZaH p1) (vals:=[vRN neg E (sl 0 o n c),.int .i64 N,.int .i64 M]) (fun v hv=>by
     simp only[List.mem_cons,List.not_mem_nil,or_false] at hv;rcases hv with h1 | h1 | h1<;>rw[h1]<;>rfl) (v:= .tuple #[Zn,.bool e]) (by rfl) (p3.mono fun ex z hz=>⟨hz.1,hz.2.2 rfl⟩) E0 p2
    rw[evals] at fin;exact fin
  ·cases hg
 ·cases hg
end Go.Proofs.YtgefjidphfdhdaaGreatDoor
namespace Go.Proofs.YtgefjidphfdhdaaGreatDoor
open Go.KRun Go.Wd Go.Pt Go.Rn
set_option maxRecDepth 100000
def sS (n:Bool) (p:Int):Int:=if n=true then 9223372036854775808+p else p
end Go.Proofs.YtgefjidphfdhdaaGreatDoor
