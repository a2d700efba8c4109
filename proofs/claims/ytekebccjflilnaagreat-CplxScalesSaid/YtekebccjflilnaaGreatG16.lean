/-
  ConVL, ConVM, ConVU, ToS, ToD, ToA, ToC, NumQu, QuR, ConVN, ConVO, ConVQ, ToE, ToP, NumK
-/
import Derived.Test.YtekebccjflilnaaGreatG15
namespace Go.Proofs.YtekebccjflilnaaGreat
open Go.Proofs.Tryz
open Go.IntKind
open Go.KRun Go.Nt
set_option maxRecDepth 100000
set_option linter.unusedVariables false
def paP (F:Func):List Code:=[ZB (Zv F),ZB (Z5 (Zv F)),ZB (Z5 (Z5 (Zv F))),ZB (Z5 (Z5 (Z5 (Zv F))))]
def paS (F:Func):Code:=Z5 (Z5 (Z5 (Z5 (Zv F))))
def paB (F:Func):Code:=ZB (paS F)
def paL (F:Func):Code:=cIn (cIn (Z5 (paB F)))
def paE (F:Func):Code:=Z5 (paS F)
def paH (F:Func):Code:=ZB (paL F)
def paX (F:Func):Code:=cIn (ZB (Z5 (paL F)))
def paI (F:Func):Code:=Z5 (Z5 (paL F))
def x7 (F:Func):Code:=ZB (paX F)
def x8 (F:Func):Code:=ZB (Z5 (paX F))
def x9 (F:Func):Code:=ZB (Z5 (Z5 (paX F)))
def x10 (F:Func):Code:=ZB (Z5 (Z5 (Z5 (paX F))))
def x11 (F:Func):Code:=ZB (Z5 (Z5 (Z5 (Z5 (paX F)))))
def xT (F:Func):Code:=Z5 (Z5 (Z5 (Z5 (Z5 (paX F)))))
def yL (F:Func):Code:=cIn (cIn (ZB (xT F)))
def yH (F:Func):Code:=ZB (yL F)
def yB (F:Func):Code:=cIn (Z5 (yL F))
def xE (F:Func):Code:=Z5 (xT F)
def hcP:Hc:=Zb4 77 Z1z (Zb4 75 Zls (Zb4 78 Zoo (Zb4 76 gAt (Zb4 74 Zh2 hcN))))
def pFr (o n c o' n' c' z:Nat) (r:Value) (i:Int) (v10 v11:Value):List Value:=[sl 0 o n c,sl 1 o' n' c',undef,undef,Zn,Zn,r,sl 2 0 z z,.int .i64 n',.int .i64 i,v10,v11]
def hB3 (wq lb la:List Value):Hp:=⟨3,[(wq,tU),(lb,tR),(la,tR)]⟩
def hB4 (wr wq lb la:List Value):Hp:=⟨4,[(wr,tU),(wq,tU),(lb,tR),(la,tR)]⟩
def hB5 (wp wr wq lb la:List Value):Hp:=⟨5,[(wp,tU),(wr,tU),(wq,tU),(lb,tR),(la,tR)]⟩
theorem ZxL:HcOk hcP:=ZA func77 rfl ZtK (ZA func75 rfl ZeS (ZA func78 rfl Zh4 (ZA func76 rfl Zql (ZA func74 rfl ZfE ZfD))))
theorem ZtM:f43.body=some (Zaz (paP f43) (.seq (.seq (ZB (paB f43)) (.block 0 (.loop (paL f43)))) (paE f43))):=by kernel_rfl
theorem Zme:paL f43= .seq (paH f43) (.seq (.block 1 (paX f43)) (paI f43)):=by kernel_rfl
theorem Z3m:paX f43= .seq (x7 f43) (.seq (x8 f43) (.seq (x9 f43) (.seq (x10 f43) (.seq (x11 f43) (.seq (.block 2 (.loop (yL f43))) (xE f43)))))):=by kernel_rfl
theorem Z3n:yL f43= .seq (yH f43) (.block 3 (yB f43)):=by kernel_rfl
def aP (b o:Nat):Option Addr:=some ⟨b,o,none⟩
def inP (i:Int) (n:Nat):Bool×Bool:=(decide (0≤i∧i<(n:Int)),true)
def ceP (l:List Value) (o:Nat) (i x:Int):Bool×Bool:=(ZC (l[o+i.toNat*1]?) (.int .u32 x),true)
def tR3 (R:List Int) (n':Nat):Int:=u64.wrap (u64.wrap (u64.wrap (u64.wrap (atN R n')*2^min (Int.toNat 32) 64)+u64.wrap (u64.wrap (atN R (i64.wrap ((n':Int)-1)))*2^min (Int.toNat 16) 64))+u64.wrap (atN R (i64.wrap ((n':Int)-2))))
def tB2 (x:Int) (L:List Int) (n':Nat):Int:=u64.wrap (u64.wrap (u64.wrap x*2^min (Int.toNat 16) 64)+u64.wrap (atN L (i64.wrap ((n':Int)-2))))
def Z12 (q:Int):Int:=if 65535<q then 65535 else q
theorem ZxM (o n c o' n' c':Nat) (la lb:List Value):Zm (evL (Zp prog Zh Zo hcP) 200 (paP f43) ([sl 0 o n c,sl 1 o' n' c']++List.replicate 93 undef,⟨2,[(lb,tR),(la,tR)]⟩,[at_]) ⟨[],[],[]⟩) 12 83 none [sl 0 o n c,sl 1 o' n' c',undef,undef,Zn,Zn,Zn,sl 2 0 (n:Int).toNat (n:Int).toNat,.int .i64 n',undef,undef,undef] (hB3 (List.replicate (n:Int).toNat (.int .u32 0)) lb la) [(zf 4 (n:Int) (n:Int),true)]:=by and_intros<;>kernel_rfl
theorem Z13 (o n c o' n' c' z:Nat) (r v9 v10 v11:Value) (h:Hp) (g:Nat→Value):Zm (evC (Zp prog Zh Zo hcP) 200 false (ZB (paB f43)) ([sl 0 o n c,sl 1 o' n' c',undef,undef,Zn,Zn,r,sl 2 0 z z,.int .i64 n',v9,v10,v11]++tl 83 g,h,[]) ⟨[],[],[]⟩) 12 83 none (pFr o n c o' n' c' z r (i64.wrap ((n:Int)-1)) v10 v11) h []:=by and_intros<;>kernel_rfl
theorem Z14 (o n c o' n' c' z:Nat) (r v10 v11:Value) (i:Int) (h:Hp) (g:Nat→Value):Zm (evC (Zp prog Zh Zo hcP) 200 false (paH f43) (pFr o n c o' n' c' z r i v10 v11++tl 83 g,h,[cmp true]) ⟨[],[],[]⟩) 12 83 none (pFr o n c o' n' c' z r i v10 v11) h [(decide (i≥0),true)]:=by and_intros<;>kernel_rfl
theorem Z15 (o n c o' n' c' z:Nat) (r v10 v11:Value) (i:Int) (h:Hp) (g:Nat→Value):Zm (evC (Zp prog Zh Zo hcP) 200 false (paH f43) (pFr o n c o' n' c' z r i v10 v11++tl 83 g,h,[cmp false]) ⟨[],[],[]⟩) 12 83 (some (some 0)) (pFr o n c o' n' c' z r i v10 v11) h [(decide (i≥0),false)]:=by and_intros<;>kernel_rfl
theorem Z16 (o n c o' n' c' z:Nat) (v10 v11:Value) (i d:Int) (wq lb la:List Value) (g:Nat→Value):Zm (evC (Zp prog Zh Zo hcP) 200 false (x7 f43) (pFr o n c o' n' c' z Zn i v10 v11++tl 83 g,hB3 wq lb la,[at_,val (.int .u32 d)]) ⟨[],[],[]⟩) 12 83 none (pFr o n c o' n' c' z (sl 3 0 (Z3 (zu [.int .u32 d] 0 1)) (Z3 (zu [.int .u32 d] 0 1))) i v10 v11) (hB4 [.int .u32 d] wq lb la) [(ZaK tU [.int .u32 d] 0 1 1,true),ceP la o i d,inP i n]:=by and_intros<;>kernel_rfl
theorem Z17 (o n c o' n' c' z:Nat) (v10 v11:Value) (i d:Int) (wr wq lb la:List Value) (g:Nat→Value):Zm (evC (Zp prog Zh Zo hcP) 200 false (x7 f43) (pFr o n c o' n' c' z (sl 3 0 0 0) i v10 v11++tl 83 g,hB4 wr wq lb la,[at_,val (.int .u32 d)]) ⟨[],[],[]⟩) 12 83 none (pFr o n c o' n' c' z (sl 4 0 (Z3 (zu [.int .u32 d] 0 1)) (Z3 (zu [.int .u32 d] 0 1))) i v10 v11) (hB5 [.int .u32 d] wr wq lb la) [(ZaK tU [.int .u32 d] 0 1 1,true),ceP la o i d,inP i n]:=by and_intros<;>kernel_rfl
theorem Z18 (o n c o' n' c' z k:Nat) (v10 v11:Value) (i d:Int) (wr wq lb la:List Value) (g:Nat→Value):Zm (evC (Zp prog Zh Zo hcP) 200 false (x7 f43) (pFr o n c o' n' c' z (sl 3 0 k k) i v10 v11++tl 83 g,hB4 wr wq lb la,[at_,val (.int .u32 d),num 0]) ⟨[],[],[]⟩) 12 83 none (pFr o n c o' n' c' z (sl 5 0 (Z3 (zu ([.int .u32 d]++List.take k (List.drop 0 wr)) 0 (1+k))) (Z3 (zu ([.int .u32 d]++List.take k (List.drop 0 wr)) 0 (1+k)))) i v10 v11) ⟨6,[(([.int .u32 d]++List.take k (List.drop 0 wr)),tU),([.int .u32 d],tU),(wr,tU),(wq,tU),(lb,tR),(la,tR)]⟩ [(ZaK tU ([.int .u32 d]++List.take k (List.drop 0 wr)) 0 (1+k) grown,true),(Zc7 ([.int .u32 d],tU) (wr,tU) 1 1 0 k,true),ceP la o i d,inP i n]:=by and_intros<;>kernel_rfl
theorem Z19 (o n c o' n' c' z k:Nat) (v10 v11:Value) (i:Int) (wr wq lb la:List Value) (g:Nat→Value):Zm (evC (Zp prog Zh Zo hcP) 200 false (x8 f43) (pFr o n c o' n' c' z (sl 3 0 k k) i v10 v11++tl 83 g,hB4 wr wq lb la,[cmp true]) ⟨[],[],[]⟩) 12 83 (some (some 1)) (pFr o n c o' n' c' z (sl 3 0 k k) i v10 v11) (hB4 wr wq lb la) [(decide (Zax (vO (hB4 wr wq lb la) (aP 3 0) k) (vO (hB4 wr wq lb la) (aP 1 o') n')<0),true),(Z6 (hB4 wr wq lb la) (aP 3 0) (aP 1 o') k k n' c',true)]:=by and_intros<;>kernel_rfl
theorem Z1A (o n c o' n' c' z k:Nat) (v10 v11:Value) (i:Int) (wr wq lb la:List Value) (g:Nat→Value):Zm (evC (Zp prog Zh Zo hcP) 200 false (x8 f43) (pFr o n c o' n' c' z (sl 3 0 k k) i v10 v11++tl 83 g,hB4 wr wq lb la,[cmp false]) ⟨[],[],[]⟩) 12 83 none (pFr o n c o' n' c' z (sl 3 0 k k) i v10 v11) (hB4 wr wq lb la) [(decide (Zax (vO (hB4 wr wq lb la) (aP 3 0) k) (vO (hB4 wr wq lb la) (aP 1 o') n')<0),false),(Z6 (hB4 wr wq lb la) (aP 3 0) (aP 1 o') k k n' c',true)]:=by and_intros<;>kernel_rfl
theorem Z3o (o n c o' n' c' z:Nat) (r v10 v11:Value) (i:Int) (h:Hp) (g:Nat→Value):Zm (evC (Zp prog Zh Zo hcP) 200 false (paI f43) (pFr o n c o' n' c' z r i v10 v11++tl 83 g,h,[]) ⟨[],[],[]⟩) 12 83 none (pFr o n c o' n' c' z r (i64.wrap (i-1)) v10 v11) h []:=by and_intros<;>kernel_rfl
theorem Z3p (o n c o' n' c' z k:Nat) (v10 v11:Value) (i:Int) (wr wq lb la:List Value) (g:Nat→Value):Zm (evC (Zp prog Zh Zo hcP) 200 false (x9 f43) (pFr o n c o' n' c' z (sl 3 0 k k) i v10 v11++tl 83 g,hB4 wr wq lb la,[]) ⟨[],[],[]⟩) 12 83 none (pFr o n c o' n' c' z (sl 3 0 k k) i (.int .u64 (tR3 (Zu (hB4 wr wq lb la) (aP 3 0) k) n')) v11) (hB4 wr wq lb la) [(zS (hB4 wr wq lb la) (aP 3 0) k k,true),(decide ((16:Int)<0),false),(zS (hB4 wr wq lb la) (aP 3 0) k k,true),(decide ((32:Int)<0),false),(zS (hB4 wr wq lb la) (aP 3 0) k k,true)]:=by and_intros<;>kernel_rfl
theorem Z1B (o n c o' n' c' z k:Nat) (v11:Value) (i t x q:Int) (wr wq lb la:List Value) (g:Nat→Value):Zm (evC (Zp prog Zh Zo hcP) 200 false (x10 f43) (pFr o n c o' n' c' z (sl 3 0 k k) i (.int .u64 t) v11++tl 83 g,hB4 wr wq lb la,[at_,val (.int .u32 x),num q]) ⟨[],[],[]⟩) 12 83 none (pFr o n c o' n' c' z (sl 3 0 k k) i (.int .u64 t) (.int .u64 (Z12 q))) (hB4 wr wq lb la) [(decide ((tB2 x (Zu (hB4 wr wq lb la) (aP 1 o') n') n')=0),false),(decide (u64.wrap (t.tdiv (tB2 x (Zu (hB4 wr wq lb la) (aP 1 o') n') n'))=q),true),(zS (hB4 wr wq lb la) (aP 1 o') n' c',true),(decide ((16:Int)<0),false),ceP lb o' (i64.wrap ((n':Int)-1)) x,inP (i64.wrap ((n':Int)-1)) n']:=by and_intros<;>kernel_rfl
def pV (h:Hp) (o' n':Nat) (e:Int):Nat:=vO h (aP 1 o') n'*(u32.wrap e).toNat+Int.toNat 0
theorem Z1C (o n c o' n' c' z k:Nat) (v10:Value) (i e:Int) (wr wq lb la:List Value) (g:Nat→Value):Zm (evC (Zp prog Zh Zo hcP) 200 false (x11 f43) (pFr o n c o' n' c' z (sl 3 0 k k) i v10 (.int .u64 e)++tl 83 g,hB4 wr wq lb la,[cmp true]) ⟨[],[],[]⟩) 13 82 none (pFr o n c o' n' c' z (sl 3 0 k k) i v10 (.int .u64 e)++[sl 4 0 (d16 (pV (hB4 wr wq lb la) o' n' e)).length (d16 (pV (hB4 wr wq lb la) o' n' e)).length]) (hB5 (wU (d16 (pV (hB4 wr wq lb la) o' n' e))) wr wq lb la) [(ZiZ (hB4 wr wq lb la) (aP 1 o') n' c' (u32.wrap e) 0,true),(decide (0<n'∨(0:Int)<0),true)]:=by and_intros<;>kernel_rfl
theorem Z1D (o n c o' n' c' z k j:Nat) (v10:Value) (i e:Int) (wp wr wq lb la:List Value) (g:Nat→Value):Zm (evC (Zp prog Zh Zo hcP) 200 false (yH f43) (pFr o n c o' n' c' z (sl 3 0 k k) i v10 (.int .u64 e)++[sl 4 0 j j]++tl 82 g,hB5 wp wr wq lb la,[cmp true]) ⟨[],[],[]⟩) 13 82 none (pFr o n c o' n' c' z (sl 3 0 k k) i v10 (.int .u64 e)++[sl 4 0 j j]) (hB5 wp wr wq lb la) [(decide (Zax (vO (hB5 wp wr wq lb la) (aP 4 0) j) (vO (hB5 wp wr wq lb la) (aP 3 0) k)>0),true),(Z6 (hB5 wp wr wq lb la) (aP 4 0) (aP 3 0) j j k k,true)]:=by and_intros<;>kernel_rfl
theorem Z1E (o n c o' n' c' z k j:Nat) (v10:Value) (i e:Int) (wp wr wq lb la:List Value) (g:Nat→Value):Zm (evC (Zp prog Zh Zo hcP) 200 false (yH f43) (pFr o n c o' n' c' z (sl 3 0 k k) i v10 (.int .u64 e)++[sl 4 0 j j]++tl 82 g,hB5 wp wr wq lb la,[cmp false]) ⟨[],[],[]⟩) 13 82 (some (some 2)) (pFr o n c o' n' c' z (sl 3 0 k k) i v10 (.int .u64 e)++[sl 4 0 j j]) (hB5 wp wr wq lb la) [(decide (Zax (vO (hB5 wp wr wq lb la) (aP 4 0) j) (vO (hB5 wp wr wq lb la) (aP 3 0) k)>0),false),(Z6 (hB5 wp wr wq lb la) (aP 4 0) (aP 3 0) j j k k,true)]:=by and_intros<;>kernel_rfl
theorem Z1F (o n c o' n' c' z k j:Nat) (v10:Value) (i e:Int) (wp wr wq lb la:List Value) (g:Nat→Value):Zm (evC (Zp prog Zh Zo hcP) 200 false (yB f43) (pFr o n c o' n' c' z (sl 3 0 k k) i v10 (.int .u64 e)++[sl 4 0 j j]++tl 82 g,hB5 wp wr wq lb la,[cmp true]) ⟨[],[],[]⟩) 13 82 none (pFr o n c o' n' c' z (sl 3 0 k k) i v10 (.int .u64 (u64.wrap (e-1)))++[sl 5 0 (d16 (vO (hB5 wp wr wq lb la) (aP 4 0) j-vO (hB5 wp wr wq lb la) (aP 1 o') n')).length (d16 (vO (hB5 wp wr wq lb la) (aP 4 0) j-vO (hB5 wp wr wq lb la) (aP 1 o') n')).length]) ⟨6,[(wU (d16 (vO (hB5 wp wr wq lb la) (aP 4 0) j-vO (hB5 wp wr wq lb la) (aP 1 o') n')),tU),(wp,tU),(wr,tU),(wq,tU),(lb,tR),(la,tR)]⟩ [(Z6 (hB5 wp wr wq lb la) (aP 4 0) (aP 1 o') j j n' c' && Nat.ble (vO (hB5 wp wr wq lb la) (aP 1 o') n') (vO (hB5 wp wr wq lb la) (aP 4 0) j),true),(decide (0<j),true)]:=by and_intros<;>kernel_rfl
theorem Z3q (o n c o' n' c' z k j:Nat) (v10:Value) (i e:Int) (wp wr wq lb la:List Value) (g:Nat→Value):Zm (evC (Zp prog Zh Zo hcP) 200 false (xE f43) (pFr o n c o' n' c' z (sl 3 0 k k) i v10 (.int .u64 e)++[sl 4 0 j j]++tl 82 g,hB5 wp wr wq lb la,[cmp true,at_,at_]) ⟨[],[],[]⟩) 12 83 none (pFr o n c o' n' c' z (sl 5 0 (d16 (vO (hB5 wp wr wq lb la) (aP 3 0) k-vO (hB5 wp wr wq lb la) (aP 4 0) j)).length (d16 (vO (hB5 wp wr wq lb la) (aP 3 0) k-vO (hB5 wp wr wq lb la) (aP 4 0) j)).length) i v10 (.int .u64 e)) ⟨6,[(wU (d16 (vO (hB5 wp wr wq lb la) (aP 3 0) k-vO (hB5 wp wr wq lb la) (aP 4 0) j)),tU),(wp,tU),(wr,tU),(wq.set (0+i.toNat*1) (.int .u32 (u32.wrap e)),tU),(lb,tR),(la,tR)]⟩ [(decide (0+i.toNat*1<wq.length),true),inP i z,(Z6 (hB5 wp wr wq lb la) (aP 3 0) (aP 4 0) k k j j && Nat.ble (vO (hB5 wp wr wq lb la) (aP 4 0) j) (vO (hB5 wp wr wq lb la) (aP 3 0) k),true),(decide (0<k),true)]:=by and_intros<;>kernel_rfl
theorem ZxN (o n c o' n' c' z k:Nat) (v9 v10 v11:Value) (wr wq lb la:List Value) (g:Nat→Value):Zm (evC (Zp prog Zh Zo hcP) 200 false (paE f43) ([sl 0 o n c,sl 1 o' n' c',undef,undef,Zn,Zn,sl 3 0 k k,sl 2 0 z z,.int .i64 n',v9,v10,v11]++tl 83 g,hB4 wr wq lb la,[]) ⟨[],[],[]⟩) 6 89 (some none) [sl 0 o n c,sl 1 o' n' c',undef,undef,sl 2 0 (Z3 (zu wq 0 z)) (Z3 (zu wq 0 z)),sl 3 0 k k] (hB4 wr wq lb la) [(ZaK tU wq 0 z z,true)]:=by and_intros<;>kernel_rfl
theorem RunsW.next {T:Tab}{c1 c2:Code}{x:Lf}{front:List Value}{n:Nat}{h:Hp}{P:Ex→Lf→Prop}(h1:RunsW T c1 x fun e y=>e=none∧(∃ g,y.1=front++tl n g)∧y.2.1=h) (h2:∀ g s,RunsW T c2 (front++tl n g,h,s) P):RunsW T (.seq c1 c2) x P:=by
 refine RunsW.seq h1 (fun y hy=> ?_) (fun e y hy=>by cases hy.1);obtain⟨_,⟨g,e1⟩,e2⟩:=hy;obtain⟨t,hh,s⟩:=y;simp only at e1 e2;subst e1 e2;exact h2 g s
theorem Zbv {h:Hp}{b A:Nat}{ty:TypeId}(hb:h.blk? b=some (wU (d16 A),ty)):Zu h (aP b 0) (d16 A).length=d16 A:=by
 unfold Zu aP;simp only[hb];exact ZaD _
theorem Zpg {h:Hp}{b A:Nat}{ty:TypeId}(hb:h.blk? b=some (wU (d16 A),ty)):vO h (aP b 0) (d16 A).length=A:=by
 unfold vO;rw[Zbv hb];exact Zkw (by omega) A
theorem Zmf (A:Nat):∀ x∈d16 A,0≤x∧x<4294967296:=fun x hx=>⟨(ZaF A x hx).1,by have:=(ZaF A x hx).2;omega⟩
theorem ZyZ {n:Nat}(h:n<1000000000):Zd4 0 n n=true:=by
 unfold Zd4;have:ZW n=true:=by unfold ZW;exact Zk.2 (by have:ZV=4611686018427387904:=rfl;omega)
 rw[this,Nat.ble_eq_true_of_le (Nat.le_refl n)];rfl
theorem ZfN {h:Hp}{b A:Nat}(hb:h.blk? b=some (wU (d16 A),tU)) (hl:(d16 A).length<1000000000):zS h (aP b 0) (d16 A).length (d16 A).length=true:=by
 unfold zS aP;simp only[hb];rw[zY (Zmf A) (by omega) (ZyZ hl),List.all_eq_true.2 (ZP _)];rfl
theorem ZcX {h:Hp}{p q:Option Addr}{n c n' c':Nat}(h1:zS h p n c=true) (h2:zS h q n' c'=true) (h3:∀ x∈Zu h p n,Dg 65536 x) (h4:∀ x∈Zu h q n',Dg 65536 x) (h5:max n n'+2<1073741824):Z6 h p q n c n' c'=true:=by
 unfold Z6;rw[h1,h2,ZaZ h3,ZaZ h4,Zk.2 h5];rfl
theorem Zcg {A k:Nat}(h:A<65536^k):(d16 A).length≤k:=Zdx (by omega) k A h
theorem ZhL (V:Nat) (i:Int):atN (d16 V) i=if 0≤i then ((V/65536^i.toNat % 65536:Nat):Int) else 0:=by
 unfold atN;split
 ·have h1:=Zg9 i.toNat V;have h2:=Zd5 (ZaF V) i.toNat;have h3:((d16 V).getD i.toNat 0).toNat=V/65536^i.toNat % 65536:=h1;have:=h2.1;omega
 ·rfl
theorem w64 {n:Int}(h0:0≤n) (h1:n<18446744073709551616):u64.wrap n=n:=by simp [IntKind.wrap,IntKind.bits,IntKind.signed];omega
theorem ZxO (V n:Nat) (hn:1≤n) (hn2:n<1000000):tR3 (d16 V) n=(Zpf V n:Int):=by
 have e1:i64.wrap ((n:Int)-1)=((n-1:Nat):Int):=by rw[ZL (by omega) (by omega)];omega
 have e2:i64.wrap ((n:Int)-2)=(n:Int)-2:=ZL (by omega) (by omega);have p32:(2:Int)^min (Int.toNat 32) 64=4294967296:=rfl;have p16:(2:Int)^min (Int.toNat 16) 64=65536:=rfl;have m1:=Nat.mod_lt (V/65536^n) (show 0<65536 by omega);have m2:=Nat.mod_lt (V/65536^(n-1)) (show 0<65536 by omega);have m3:=Nat.mod_lt (V/65536^(n-2)) (show 0<65536 by omega);unfold tR3 Zpf;rw[e1,e2,p32,p16,ZhL,ZhL,ZhL,if_pos (by omega),if_pos (by omega),Xg,Xg];by_cases h2:2≤n
 ·have e3:((n:Int)-2).toNat=n-2:=by omega
  rw[if_pos (by omega),if_pos h2,e3];generalize V/65536^n % 65536=a at*;generalize V/65536^(n-1) % 65536=b at*;generalize V/65536^(n-2) % 65536=d at*;rw[w64 (n:=(a:Int)) (by omega) (by omega),w64 (n:=(a:Int)*4294967296) (by omega) (by omega),w64 (n:=(b:Int)) (by omega) (by omega),w64 (n:=(b:Int)*65536) (by omega) (by omega),w64 (n:=(d:Int)) (by omega) (by omega),w64 (n:=(a:Int)*4294967296+(b:Int)*65536) (by omega) (by omega),w64 (by omega) (by omega)];omega
 ·rw[if_neg (by omega),if_neg h2];generalize V/65536^n % 65536=a at*;generalize V/65536^(n-1) % 65536=b at*;rw[w64 (n:=(a:Int)) (by omega) (by omega),w64 (n:=(a:Int)*4294967296) (by omega) (by omega),w64 (n:=(b:Int)) (by omega) (by omega),w64 (n:=(b:Int)*65536) (by omega) (by omega),w64 (n:=(0:Int)) (by omega) (by omega),w64 (n:=(a:Int)*4294967296+(b:Int)*65536) (by omega) (by omega),w64 (by omega) (by omega)];omega
theorem ZxP {L:List Int}(hC:Zap 65536 L) (hn:1≤L.length) (hn2:L.length<1000000):tB2 (L.getD (L.length-1) 0) L L.length=(Zm9 (vb 65536 L) L.length:Int):=by
 have e2:i64.wrap ((L.length:Int)-2)=(L.length:Int)-2:=ZL (by omega) (by omega);have p16:(2:Int)^min (Int.toNat 16) 64=65536:=rfl;obtain⟨B,hB⟩:∃ B,B=vb 65536 L:=⟨_,rfl⟩;have eL:L=d16 B:=by rw[hB];exact (Zkx (by omega) hC).symm
 have ex:L.getD (L.length-1) 0=((B/65536^(L.length-1) % 65536:Nat):Int):=by
  have h1:=Zg9 (L.length-1) B;have h2:=(Zd5 hC.1 (L.length-1)).1;have h3:(L.getD (L.length-1) 0).toNat=B/65536^(L.length-1) % 65536:=by
   rw[← h1];show (L.getD _ 0).toNat=((d16 B).getD _ 0).toNat;rw[← eL]
  omega
 have ea:atN L ((L.length:Int)-2)=if 0≤(L.length:Int)-2 then ((B/65536^((L.length:Int)-2).toNat % 65536:Nat):Int) else 0:=by
  have:=ZhL B ((L.length:Int)-2);rw[← eL] at this;exact this
 have m2:=Nat.mod_lt (B/65536^(L.length-1)) (show 0<65536 by omega);have m3:=Nat.mod_lt (B/65536^(L.length-2)) (show 0<65536 by omega);unfold tB2 Zm9;rw[← hB,e2,p16,ea,ex];by_cases h2:2≤L.length
 ·have e3:((L.length:Int)-2).toNat=L.length-2:=by omega
  rw[if_pos (by omega),if_pos h2,e3];generalize B/65536^(L.length-1) % 65536=b at*;generalize B/65536^(L.length-2) % 65536=d at*;rw[w64 (n:=(b:Int)) (by omega) (by omega),w64 (n:=(b:Int)*65536) (by omega) (by omega),w64 (n:=(d:Int)) (by omega) (by omega),w64 (by omega) (by omega)];omega
 ·rw[if_neg (by omega),if_neg h2];generalize B/65536^(L.length-1) % 65536=b at*;rw[w64 (n:=(b:Int)) (by omega) (by omega),w64 (n:=(b:Int)*65536) (by omega) (by omega),w64 (n:=(0:Int)) (by omega) (by omega),w64 (by omega) (by omega)];omega
structure Two (la lb:List Value) (o o' c':Nat) (A L:List Int):Prop where
 ra:Row la o A
 rb:Row lb o' L
 dA:∀ x∈A,Dg 65536 x
 cL:Zap 65536 L
 n1:1≤L.length
 n2:L.length<1000000
 a1:1≤A.length
 a2:A.length<1000000
 cb:ZaK tR lb o' L.length c'=true
 sb:∀ v∈lb,still v=true
 sa:∀ v∈la,still v=true
 eb:zu lb o' L.length=L
section
variable {la lb : List Value} {o c o' c' : Nat} {A L : List Int}
theorem Two.row (H:Two la lb o o' c' A L) {h:Hp}(hb:h.blk? 1=some (lb,tR)):zS h (aP 1 o') L.length c'=true∧Zu h (aP 1 o') L.length=L∧vO h (aP 1 o') L.length=vb 65536 L:=by
 have e:Zu h (aP 1 o') L.length=L:=by
  unfold Zu aP;simp only[hb];exact H.eb
 refine⟨?_,e,by unfold vO;rw[e]⟩;unfold zS aP;simp only[hb];rw[H.cb,List.all_eq_true.2 H.sb];rfl
theorem Two.bnd (H:Two la lb o o' c' A L):65536^(L.length-1)≤vb 65536 L∧vb 65536 L<65536^L.length∧0<vb 65536 L:=by
 have h1:=ZxK H.cL H.n1;have h2:=Zcu (b:=65536) (by omega) L H.cL.1;have:0<65536^(L.length-1):=Nat.pow_pos (by omega);exact⟨h1,h2,by omega⟩
theorem Zbb:TabOk (Zp prog Zh Zo hcP):=Zg Zd ZxL
theorem Zph (V:Nat) {d:Int}(hd:Dg 65536 d):Z3 (d::d16 V)=(d16 (d.toNat+65536*V)).length∧wU (d::d16 V)=wU (d16 (d.toNat+65536*V))++wU ((d::d16 V).drop (Z3 (d::d16 V))):=by
 have hD:∀ x∈d::d16 V,Dg 65536 x:=fun x hx=>by
  rcases List.mem_cons.1 hx with rfl | hx
  ·exact hd
  ·exact ZaF V x hx
 have ev:vb 65536 (d::d16 V)=d.toNat+65536*V:=by
  simp only[vb];rw[show vb 65536 (d16 V)=V from Zkw (by omega) V]
 have h1:=Zad (b:=65536) (by omega) hD;have h2:=zj (b:=65536) (by omega) _ hD;rw[ev] at h1 h2;refine⟨h1,?_⟩;rw[← ZO];congr 1;show _=db 65536 _++_;rw[← h2,List.take_append_drop]
theorem ZxQ {d:Int}(hd:Dg 65536 d):∀ x∈d::([]:List Int),0≤x∧x<4294967296:=fun x hx=>by
 rw[List.mem_singleton.1 hx];exact⟨hd.1,by have:=hd.2;omega⟩
theorem Zpi {wq:List Value}(hq:∀ v∈wq,still v=true) (hb:∀ v∈lb,still v=true) (ha:∀ v∈la,still v=true) {h:Hp}(h0:h.blk? 0=some (la,tR)) (h1:h.blk? 1=some (lb,tR)) (h2:h.blk? 2=some (wq,tU)):∀ i x,(⟨3,[(wq,tU),(lb,tR),(la,tR)]⟩:Hp).blk? i=some x→h.blk? i=some x∧∀ v∈x.1,still v=true:=by
 intro i x hx;have hi:i<3:=Hp.blk_lt hx;have h3:i=0∨i=1∨i=2:=by omega
 rcases h3 with rfl | rfl | rfl
 ·have:(la,tR)=x:=Option.some.inj hx;subst this;exact⟨h0,ha⟩
 ·have:(lb,tR)=x:=Option.some.inj hx;subst this;exact⟨h1,hb⟩
 ·have:(wq,tU)=x:=Option.some.inj hx;subst this;exact⟨h2,hq⟩
theorem Zqz {n n' z t:Nat}{i:Int}{v10 v11:Value}(k1:KRun.lt 4 v10=true) (k2:KRun.lt 4 v11=true):∀ v∈pFr o n c o' n' c' z (sl 3 0 t t) i v10 v11,KRun.lt 4 v=true:=by
 intro v hv;simp only[pFr,List.mem_cons,List.not_mem_nil,or_false] at hv;rcases hv with rfl | rfl | rfl | rfl | rfl | rfl | rfl | rfl | rfl | rfl | rfl | rfl
 ·rfl
 ·rfl
 ·rfl
 ·rfl
 ·rfl
 ·rfl
 ·rfl
 ·rfl
 ·rfl
 ·rfl
 ·exact k1
 ·exact k2
end
def hN2 (lo la:List Value):Hp:=⟨2,[(lo,tU),(la,tR)]⟩
def mNr (o n c z:Nat) (i v7 v8:Value):List Value:=[sl 0 o n c,Zn,undef,undef,Zn,sl 1 0 z z,i,v7,v8]
def zU (n:Nat):List Value:=List.replicate n (.int .u32 0)
theorem ZxR (n:Nat):zU n=wU (List.replicate n 0):=by unfold zU wU;simp
theorem ZhM:∀ n:Nat,Z3 (List.replicate n 0)=0
 | 0=>rfl
 | n+1=>by
  rw[List.replicate_succ];simp only[Z3];rw[ZhM n];rfl
theorem Zq0 (n:Nat):Z3 (zu (zU n) 0 n)=0:=by
 have h:=ZaD (List.replicate n 0);rw[List.length_replicate] at h;rw[ZxR,h,ZhM]
theorem Zq1 {n:Nat}(h:n<1000000):ZaK tU (zU n) 0 n n=true:=by
 have:=zY (L:=List.replicate n 0) (fun x hx=>by rw[List.eq_of_mem_replicate hx];omega) (by simp;omega) (c:=n) (by simp only[List.length_replicate];exact ZyZ (by omega));rw[List.length_replicate] at this;rw[ZxR];exact this
def zL (n:Nat):Int:=i64.wrap ((n:Int)+((0:Nat):Int))
def zR (n:Nat):Int:=i64.wrap (((0:Nat):Int)+(n:Int))
theorem Z1G {n:Nat}(h:n<1000000):zL n=(n:Int):=by unfold zL;rw[ZL (by omega) (by omega)];omega
theorem Z1H {n:Nat}(h:n<1000000):zR n=(n:Int):=by unfold zR;rw[ZL (by omega) (by omega)];omega
theorem ZxS (o n c:Nat) (la:List Value):Zm (evL (Zp prog Zh Zo hcV) 200 (Zu6 f69) ([sl 0 o n c,Zn]++List.replicate 66 undef,⟨1,[(la,tR)]⟩,[at_]) ⟨[],[],[]⟩) 6 62 none [sl 0 o n c,Zn,undef,undef,Zn,sl 1 0 (zL n).toNat (zL n).toNat] (hN2 (zU (zL n).toNat) la) [(zf 4 (zL n) (zL n),true)]:=by and_intros<;>kernel_rfl
theorem Z1I (o n c z:Nat) (i:Int) (v7 v8:Value) (lo la:List Value) (g:Nat→Value):Zm (evC (Zp prog Zh Zo hcV) 200 false (muO f69) (mNr o n c z (.int .i64 i) v7 v8++tl 59 g,hN2 lo la,[cmp true,cmp false,at_,at_]) ⟨[],[],[]⟩) 9 59 none (mNr o n c z (.int .i64 (i64.wrap (i+1))) (.int .u64 0) (.int .i64 0)) (hN2 (lo.set (0+(ijM i (0:Nat)).toNat*1) (.int .u32 0)) la) [stM lo (ijM i (0:Nat)),inM (ijM i (0:Nat)) z,(decide ((0:Int)<((0:Nat):Int)),false),(decide (i<(n:Int)),true)]:=by and_intros<;>kernel_rfl
theorem ZxT (o n c z:Nat) (i:Int) (v7 v8:Value) (lo la:List Value) (g:Nat→Value):Zm (evC (Zp prog Zh Zo hcV) 200 false (muO f69) (mNr o n c z (.int .i64 i) v7 v8++tl 59 g,hN2 lo la,[cmp false]) ⟨[],[],[]⟩) 9 59 (some (some 0)) (mNr o n c z (.int .i64 i) v7 v8) (hN2 lo la) [(decide (i<(n:Int)),false)]:=by and_intros<;>kernel_rfl
theorem ZxU (o n c z:Nat) (i v7 v8:Value) (lo la:List Value) (g:Nat→Value):Zm (evC (Zp prog Zh Zo hcV) 200 false (muE f69) (mNr o n c z i v7 v8++tl 59 g,hN2 lo la,[]) ⟨[],[],[]⟩) 5 63 (some none) [sl 0 o n c,Zn,undef,undef,sl 1 0 (Z3 (zu lo 0 z)) (Z3 (zu lo 0 z))] (hN2 lo la) [(ZaK tU lo 0 z z,true)]:=by and_intros<;>kernel_rfl
theorem Z3r (o n c:Nat) (la:List Value):Zm (evC (Zp prog Zh Zo hcV) 200 false (Zv f69) ([Zn,sl 0 o n c]++List.replicate 66 undef,⟨1,[(la,tR)]⟩,[at_,cmp false]) ⟨[],[],[]⟩) 5 63 (some none) [Zn,sl 0 o n c,undef,undef,sl 1 0 (Z3 (zu (zU (zR n).toNat) 0 (zR n).toNat)) (Z3 (zu (zU (zR n).toNat) 0 (zR n).toNat))] (hN2 (zU (zR n).toNat) la) [(ZaK tU (zU (zR n).toNat) 0 (zR n).toNat (zR n).toNat,true),(decide ((0:Int)<((0:Nat):Int)),false),(zf 4 (zR n) (zR n),true)]:=by and_intros<;>kernel_rfl
theorem Z1J:Zm (evC (Zp prog Zh Zo hcV) 200 false (Zv f69) ([Zn,Zn]++List.replicate 66 undef,⟨0,[]⟩,[at_,cmp false]) ⟨[],[],[]⟩) 5 63 (some none) [Zn,Zn,undef,undef,sl 0 0 0 0] ⟨1,[([],tU)]⟩ [(ZaK tU [] 0 0 0,true),(decide ((0:Int)<((0:Nat):Int)),false),(true,true)]:=by and_intros<;>kernel_rfl
theorem Zep:f69.body=some (Zv f69):=by kernel_rfl
theorem ZtN {la:List Value}{o n c:Nat}(hn:n<1000000):
  Runs (Zp prog Zh Zo hcV) (Zaz (Zu6 f69) (.seq (.seq (ZB (muB f69)) (.block 0 (.loop (muO f69)))) (muE f69))) ([sl 0 o n c,Zn]++List.replicate 66 undef,⟨1,[(la,tR)]⟩,[]) fun e y=>(e=none∨e=some none)∧Zau prog f69 y.1 y.2.1=some (sl 1 0 0 0)∧y.2.1.blk? 1=some (zU n,tU):=by
 have hT:=Zg Zd Zs;have g0:=ZxS o n c la;rw[Z1G hn,Xg] at g0;refine zl hT g0 (Z2 (by unfold zf;exact Xa (by omega))) fun g=> ?_;refine Runs.seq (P1:=fun e' y=>e'=none∧∃ (i v7 v8:Value) (g:Nat→Value),y.1=mNr o n c n i v7 v8++tl 59 g∧y.2.1=hN2 (zU n) la) ?_ ?_ (fun e y he=>by cases he.1)
 ·refine Runs.next (Zj hT (Zxb (sl 0 o n c) Zn (sl 1 0 n n) _ g) (fun _ h=>by cases h)) fun g s=> ?_;refine (Runs.forLoop (R:=fun _=>False) (P:=fun y=>∃ (i v7 v8:Value) (g:Nat→Value),y.1=mNr o n c n i v7 v8++tl 59 g∧y.2.1=hN2 (zU n) la)
   (fun r y=>∃ (k:Nat) (v7 v8:Value) (g:Nat→Value),k+r=n∧y.1=mNr o n c n (.int .i64 (k:Int)) v7 v8++tl 59 g∧y.2.1=hN2 (zU n) la)
   ?_ (n:=n) ⟨0,_,_,g,by omega,rfl,rfl⟩).mono fun e' y he=> ?_
  ·rintro r ⟨t,h',s'⟩ ⟨k,v7,v8,g,hk,ht,hh⟩;simp only at ht hh;subst ht hh;cases r with
   | zero=>
    refine (Zj hT (ZxT o n c n k v7 v8 _ la g) (Z2 (Xb (by omega)))).mono fun e' y he=> ?_;obtain⟨rfl,⟨g1,e2⟩,e3⟩:=he;exact⟨rfl,_,_,_,g1,e2,e3⟩
   | succ r=>
    have ei:ijM (k:Int) (0:Nat)=(k:Int):=by unfold ijM;rw[ZL (by omega) (by omega)];omega
    have g1:=Z1I o n c n k v7 v8 (zU n) la g;rw[ei] at g1;have es:(zU n).set (0+((k:Int)).toNat*1) (.int .u32 0)=zU n:=by
     unfold zU;rw[Xg,Nat.zero_add,Nat.mul_one,List.set_replicate_self]
    rw[es] at g1;refine (Zj hT g1 (Zt (by unfold stM zU;exact Xa (by simp;omega)) (Zt (by unfold inM;exact Xa (by omega)) (Zt (by decide) (Z2 (Xa (by omega))))))).mono fun e' y he=> ?_;obtain⟨rfl,⟨g2,e2⟩,e3⟩:=he;refine⟨r,by omega,k+1,.int .u64 0,.int .i64 0,g2,by omega,?_,e3⟩;rw[e2,ZL (by omega) (by omega)];rfl
  ·match e',he with
   | none,he=>exact⟨rfl,he⟩
   | some none,he=>exact he.elim
   | some (some _),he=>exact he.elim
 ·rintro⟨t,h',s'⟩ ⟨_,i,v7,v8,g,ht,hh⟩;simp only at ht hh;subst ht hh;have g1:=ZxU o n c n i v7 v8 (zU n) la g;rw[Zq0] at g1;refine (Zj hT g1 (Z2 (Zq1 hn))).mono fun e' y he=> ?_;obtain⟨rfl,⟨g2,e2⟩,e3⟩:=he;refine⟨.inr rfl,?_,?_⟩
  ·rw[e2,e3];rfl
  ·rw[e3];rfl
def Zmg:Zcl:=fun vals h s=>
 match vals,s with
 | [.slice p n c,.slice q n' c'],.inr (.inl V)::s'=>Zei V.toNat h s' [(decide (vO h p n*vO h q n'=V.toNat),true),(Zqv h p q n c n' c',true)]
 | _,_=>none
theorem ZxV:d16 0=[]:=zx 65536
theorem Zmh:za 69 Zmg:=by
 intro vals h s v h' s' lg hg hl m B w E hv;unfold Zmg at hg;split at hg
 ·rename_i p n c q n' c' V s2;unfold Zei at hg;cases hg;have l1:=Xc (hl _ Xe);have l3:=hl _ (Xd _ Xf);have l3':=l3;simp only[Zqv,Xh] at l3;obtain⟨⟨⟨q1,q2⟩,⟨p1,p2⟩⟩,q4⟩:=l3;have q4:=Zk.1 q4;rcases Z8 q1 with ⟨rfl,rfl,rfl,e0⟩ | ⟨b,o,x,rfl,hx,r1,rs,e0⟩
  ·have hV:V.toNat=0:=by
    rw[← l1];unfold vO;rw[e0];simp [vb]
   rw[hV,ZxV];rcases Z8 p1 with ⟨rfl,rfl,rfl,f0⟩ | ⟨b',o',y,rfl,hy,t1,ts,f0⟩
   ·have r:Runs (Zp prog Zh Zo hcV) (Zv f69) ([Zn,Zn]++List.replicate 66 undef,⟨0,[]⟩,[]) fun e z=>(e=none∨e=some none)∧Zau prog f69 z.1 z.2.1=some (sl 0 0 0 0)∧∃ r,z.2.1.blk? 0=some (wU []++r,tU):=by
     refine (Zj (Zg Zd Zs) Z1J (Zt (by kernel_rfl) (Zt (by decide) (Z2 rfl)))).mono fun e z he=> ?_;obtain⟨rfl,⟨g,e1⟩,e2⟩:=he;exact⟨.inr rfl,by rw[e1,e2];rfl,[],by rw[e2];rfl⟩
    have:=zm (T:=Zp prog Zh Zo hcV) func69 Zep (h0:=⟨0,[]⟩) ⟨rfl,fun b x hx=>by have:b<0:=Hp.blk_lt hx;omega⟩ (vals:=[Zn,Zn]) (fun v hv=>by
     simp only[List.mem_cons,List.not_mem_nil,or_false] at hv;rcases hv with rfl | rfl<;>rfl) (k:=0) (cs:=wU []) (ty:=tU) (Zbs _) (by kernel_rfl) r.w (by rfl) E (s:=fun i=>i) (fun i x hx _=>by have:i<0:=Hp.blk_lt hx;omega)
    exact this
   ·obtain⟨b1,b2,b3,b4,b5,b6,b7⟩:=ZU t1;have g0:=Z3r o' n' c' y.1;rw[Z1H (by omega),Xg,Zq0] at g0;have r:Runs (Zp prog Zh Zo hcV) (Zv f69) ([Zn,sl 0 o' n' c']++List.replicate 66 undef,⟨1,[(y.1,tR)]⟩,[]) fun e z=>(e=none∨e=some none)∧Zau prog f69 z.1 z.2.1=some (sl 1 0 0 0)∧∃ r,z.2.1.blk? 1=some (wU []++r,tU):=by
     refine (Zj (Zg Zd Zs) g0 (Zt (Zq1 (by omega)) (Zt (by decide) (Z2 (by unfold zf;exact Xa (by omega)))))).mono fun e z he=> ?_;obtain⟨rfl,⟨g,e1⟩,e2⟩:=he;exact⟨.inr rfl,by rw[e1,e2];rfl,zU n',by rw[e2];rfl⟩
    have evals:List.map (rn fun _=>b') [Zn,sl 0 o' n' c']=[.slice none 0 0,.slice (some ⟨b',o',none⟩) n' c']:=by simp [rn,rn2,rn1,sl,Zn]
    have:=zm (T:=Zp prog Zh Zo hcV) func69 Zep (ZcH b7) (vals:=[Zn,sl 0 o' n' c']) (fun v hv=>by
     simp only[List.mem_cons,List.not_mem_nil,or_false] at hv;rcases hv with rfl | rfl<;>rfl) (k:=1) (cs:=wU []) (ty:=tU) (Zbs _) (by kernel_rfl) r.w (by rfl) E (s:=fun _=>b') (Zbq hy b5 b6 rfl)
    rw[evals] at this;exact this
  ·rcases Z8 p1 with ⟨rfl,rfl,rfl,f0⟩ | ⟨b',o',y,rfl,hy,t1,ts,f0⟩
   ·have hV:V.toNat=0:=by
     rw[← l1];unfold vO;rw[f0];simp [vb]
    rw[hV,ZxV];obtain⟨b1,b2,b3,b4,b5,b6,b7⟩:=ZU r1;have r:Runs (Zp prog Zh Zo hcV) (Zaz (Zu6 f69) (.seq (.seq (ZB (muB f69)) (.block 0 (.loop (muO f69)))) (muE f69))) ([sl 0 o n c,Zn]++List.replicate 66 undef,⟨1,[(x.1,tR)]⟩,[]) fun e z=>(e=none∨e=some none)∧Zau prog f69 z.1 z.2.1=some (sl 1 0 0 0)∧∃ r,z.2.1.blk? 1=some (wU []++r,tU):=
     (ZtN (by omega)).mono fun e z he=>⟨he.1,he.2.1,zU n,he.2.2⟩
    have evals:List.map (rn fun _=>b) [sl 0 o n c,Zn]=[.slice (some ⟨b,o,none⟩) n c,.slice none 0 0]:=by simp [rn,rn2,rn1,sl,Zn]
    have:=zm (T:=Zp prog Zh Zo hcV) func69 ZfL (ZcH b7) (vals:=[sl 0 o n c,Zn]) (fun v hv=>by
     simp only[List.mem_cons,List.not_mem_nil,or_false] at hv;rcases hv with rfl | rfl<;>rfl) (k:=1) (cs:=wU []) (ty:=tU) (Zbs _) (by kernel_rfl) r.w (by rfl) E (s:=fun _=>b) (Zbq hx b5 b6 rfl)
    rw[evals] at this;exact this
   ·rw[← l1];exact ZhF _ h [] _ _ [] [(Zqv h (some ⟨b,o,none⟩) (some ⟨b',o',none⟩) n c n' c',true)] rfl (Zz l3') m B w E hv
 ·cases hg
end Go.Proofs.YtekebccjflilnaaGreat
namespace Go.Proofs.YtekebccjflilnaaGreat
open Go.KRun Go.Nt
set_option maxRecDepth 100000
theorem Zfb {x:Bool×Bool}{l:Log}(h:Zx (x::l)):x.1=x.2∧Zx l:=⟨h _ Xe,fun y hy=>h y (Xd _ hy)⟩
def Zpj (h:Hp) (p:Option Addr) (n c:Nat) (k:Int):Bool:=zS h p n c && dgB (Zu h p n) && Nat.blt (k.toNat/16+n+3) 1073741824 && decide (0≤k)
def Zmi:Zcl:=fun vals h s=>
 match vals,s with
 | [.slice p n c,.int .i64 k],.inr (.inr (.inr (.inl d)))::s'=>
  match d,s' with
  | true,.inr (.inl V)::s2=>Zei V.toNat h s2 [(decide (vO h p n*2^k.toNat=V.toNat),true),(Zpj h p n c k,true),(decide (0<n),true)]
  | false,_=>some (Zn,h,s',[(zS h p n c,true),(decide (0<n),false)])
  | _,_=>none
 | _,_=>none
theorem Zmj:za 44 Zmi:=by
 intro vals h s v h' s' lg hg hl;unfold Zmi at hg;split at hg
 ·rename_i p n c k d s2;split at hg
  ·rename_i V s3;unfold Zei at hg;cases hg;obtain⟨l1,l2⟩:=Zfb hl;have l1:=Xc l1;refine ZeT _ h [cmp true] _ _ [] _ ?_ l2;simp only[Zo2,Zei,l1];rfl
  ·cases hg;exact ZeT _ h [cmp false] _ _ [] _ rfl hl
  ·cases hg
 ·cases hg
def Zmk:Zcl:=fun vals h s=>
 match vals,s with
 | [.slice p n c,.slice q n' c'],.inr (.inl k)::s'=>some (.int .i64 k,h,s',[(decide (Zax (vO h p n) (vO h q n')=k),true),(Z6 h p q n c n' c',true)])
 | _,_=>none
theorem Zml:za 75 Zmk:=by
 intro vals h s v h' s' lg hg hl;unfold Zmk at hg;split at hg
 ·rename_i p n c q n' c' V s3;cases hg;obtain⟨l1,l2⟩:=Zfb hl;have l1:=Xc l1;refine ZeS _ h [] _ _ [] _ ?_ l2;simp only[Zls,l1]
 ·cases hg
section
variable {h : Hp} {b b' V W : Nat}
theorem oSh {k:Nat}(hb:h.blk? b=some (wU (d16 V),tU)) (hl:(d16 V).length<100000) (hk:k<100000):Zpj h (some ⟨b,0,none⟩) (d16 V).length (d16 V).length (k:Int)=true:=by
 unfold Zpj;rw[ZE hb (by omega),Zaa hb,Zk.2 (by rw[Xg];omega),Xa (by omega)];rfl
theorem Z26 (hb:h.blk? b=some (wU (d16 V),tU)) (hc:h.blk? b'=some (wU (d16 W),tU)) (hl:(d16 V).length<100000) (hm:(d16 W).length<100000):Z6 h (some ⟨b,0,none⟩) (some ⟨b',0,none⟩) (d16 V).length (d16 V).length (d16 W).length (d16 W).length=true:=by
 unfold Z6;rw[ZE hb (by omega),Zaa hb,ZE hc (by omega),Zaa hc,Zk.2 (by omega)];rfl
end
def Za7 (b:Nat):Option Addr:=some ⟨b,0,none⟩
def w16 (X:Nat):List Value×TypeId:=(wU (d16 X),tU)
theorem zF (L:List Int):(wU L).all Za2=true:=by
 unfold wU;rw[List.all_eq_true];intro v hv;obtain⟨x,_,rfl⟩:=List.mem_map.1 hv;rfl
section
variable {h : Hp} {b V : Nat}
theorem ZbA (hb:h.blk? b=some (wU (d16 V),tU)):vO h (Za7 b) (d16 V).length=V:=zq hb
theorem Zc5:0<(d16 V).length↔0<V:=by
 unfold d16;rw[List.length_pos_iff,ne_eq,Zef (by omega)];omega
end
def Zmm:Zcl:=fun vals h s=>
 match vals,s with
 | [.slice p n c,.slice q n' c'],.inr (.inr (.inr (.inl d)))::s'=>
  match d,s' with
  | true,.inr (.inl V)::s2=>Zei V.toNat h s2 [(decide (vO h p n+vO h q n'=V.toNat),true),(Z6 h p q n c n' c',true),(decide (0<n∨0<n'),true)]
  | false,_=>some (Zn,h,s',[(Z6 h p q n c n' c',true),(decide (0<n∨0<n'),false)])
  | _,_=>none
 | _,_=>none
theorem Zmn:za 46 Zmm:=by
 intro vals h s v h' s' lg hg hl;unfold Zmm at hg;split at hg
 ·rename_i p n c q n' c' d s2;split at hg
  ·rename_i V s3;unfold Zei at hg;cases hg;obtain⟨l1,l2⟩:=Zfb hl;have l1:=Xc l1;refine ZeR _ h [cmp true] _ _ [] _ ?_ l2;simp only[Zoj,Zei,l1]
  ·cases hg;exact ZeR _ h [cmp false] _ _ [] _ rfl hl
  ·cases hg
 ·cases hg
end Go.Proofs.YtekebccjflilnaaGreat
namespace Go.Proofs.YtekebccjflilnaaGreat
open Go.Proofs.Tryz
open Go.KRun Go.Nt
set_option maxRecDepth 100000
def Z1K:Zcl:=fun vals h s=>
 match vals,s with
 | [.agg cs,.int .i64 M],.inr (.inl T)::s'=>
  match cs.toList with
  | [.bool neg,.int .i64 E,.slice (some ⟨b,o,none⟩) n c]=>some (.tuple #[.int .u64 (sS neg (Go.Rn.rnP M neg T.toNat E)),.int .i64 (Go.Rn.rnF M neg T.toNat E)],h,s',[(decide (vO h (some ⟨b,o,none⟩) n=T.toNat),true),(ZiR h (some ⟨b,o,none⟩) n c E,true)])
  | _=>none
 | _,_=>none
theorem ZtO:za 34 Z1K:=by
 intro vals h s v h' s' lg hg hl;unfold Z1K at hg;split at hg
 ·rename_i cs M T s2;split at hg
  ·rename_i neg E b o n c hcs;cases hg;obtain⟨l1,l2⟩:=Zfb hl;have l1:=Xc l1;refine Zqt _ h [] _ _ [] _ ?_ l2;simp only[gRr,hcs,l1]
  ·cases hg
 ·cases hg
def Z27:Hc:=Zb4 46 Zmm (Zb4 44 Zmi (Zb4 75 Zmk (Zb4 69 Zmg (Zb4 45 Zwx (Zb4 65 Zov (Zb4 34 Z1K hcN))))))
theorem ZtP:HcOk Z27:=ZA func46 rfl Zmn (ZA func44 rfl Zmj (ZA func75 rfl Zml (ZA func69 rfl Zmh (ZA func45 rfl Zgz (ZA func65 rfl Zh6 (ZA func34 rfl ZtO ZfD))))))
end Go.Proofs.YtekebccjflilnaaGreat
namespace Go.Proofs.YtekebccjflilnaaGreat
open Go.KRun Go.Nt Go.Wd Go.Pt Go.Rn
set_option maxRecDepth 100000
section
variable {h : Hp} {b V : Nat}
theorem oRo {E:Int}(hb:h.blk? b=some (wU (d16 V),tU)) (hl:(d16 V).length<20000) (hE: -400000≤E∧E≤400000):ZiR h (Za7 b) (d16 V).length (d16 V).length E=true:=by
 unfold ZiR Za7;rw[ZE hb (by omega),z6 hb,show Zff (d16 V)=true from ZaV (ZcB (by omega) V),Zk.2 hl,Xa hE];rfl
end
end Go.Proofs.YtekebccjflilnaaGreat
namespace Go.Rn
open Go.Nt Go.Wd Go.Pt
def dvK (A B k:Nat):Nat:=2*(A*2^k/B)+(if A*2^k % B=0 then 0 else 1)
theorem Zmo {A B:Nat}(k:Nat):A*2^k % (B*2^k)=A % B*2^k:=Nat.mul_mod_mul_right (2^k) A B
theorem Zmp (A B k j:Nat):dvK A B (k+j)/2^(j+1)=A*2^k/B:=by
 have hp:0<2^j:=Nat.pow_pos (by omega);have e1:A*2^(k+j)/B/2^j=A*2^k/B:=by
  rw[Nat.div_div_eq_div_mul,Nat.pow_add,← Nat.mul_assoc,Nat.mul_div_mul_right _ _ hp]
 have:dvK A B (k+j)/2=A*2^(k+j)/B:=by unfold dvK;split<;>omega
 rw[Nat.pow_succ,Nat.mul_comm (2^j) 2,← Nat.div_div_eq_div_mul,this,e1]
theorem ZtQ (A B k j:Nat):stk (dvK A B (k+j)) (j+1)=dvK A B k:=by
 have hp:0<2^j:=Nat.pow_pos (by omega);have e1:A*2^(k+j)/B/2^j=A*2^k/B:=by
  rw[Nat.div_div_eq_div_mul,Nat.pow_add,← Nat.mul_assoc,Nat.mul_div_mul_right _ _ hp]
 have e2:=Zmp A B k j;have e3:dvK A B (k+j) % 2^(j+1)=0↔A*2^k % B=0:=by
  have d2:dvK A B (k+j)/2=A*2^(k+j)/B:=by unfold dvK;split<;>omega
  have m2:dvK A B (k+j) % 2=if A*2^(k+j) % B=0 then 0 else 1:=by unfold dvK;split<;>omega
  rw[Nat.pow_succ,Nat.mul_comm (2^j) 2,Nat.mod_mul,d2,m2];have e:A*2^(k+j) % B+B*(A*2^(k+j)/B % 2^j)=A*2^k % B*2^j:=by
   rw[← Nat.mod_mul,← Zmo,Nat.mul_assoc,← Nat.pow_add]
  constructor
  ·intro h;have h1:A*2^(k+j) % B=0:=by
    by_cases h0:A*2^(k+j) % B=0
    ·exact h0
    ·rw[if_neg h0] at h;omega
   have h2:A*2^(k+j)/B % 2^j=0:=by omega
   rw[h1,h2,Nat.mul_zero] at e;rcases Nat.mul_eq_zero.1 e.symm with h3 | h3
   ·exact h3
   ·omega
  ·intro h;rw[h,Nat.zero_mul] at e;have h1:A*2^(k+j) % B=0:=by omega
   rw[if_pos h1];rcases Nat.mul_eq_zero.1 (show B*(A*2^(k+j)/B % 2^j)=0 by omega) with h2 | h2
   ·rw[h2,Nat.div_zero,Nat.zero_mod]
   ·rw[h2]
 unfold stk;rw[e2];by_cases h:A*2^k % B=0
 ·rw[if_pos (e3.2 h)];unfold dvK;rw[if_pos h]
 ·rw[if_neg (fun h'=>h (e3.1 h'))];unfold dvK;rw[if_neg h]
theorem ZtR {A B k:Nat}(hA:A≠0) (hB:B≠0) (h:B<9007199254740992) (hk:106≤k):54≤bitLen (A*2^k/B):=by
 refine Zhe (k:=53) ?_;rw[Nat.le_div_iff_mul_le (by omega)];have h1:2^106≤2^k:=Nat.pow_le_pow_right (by omega) hk;have h2:2^k≤A*2^k:=Nat.le_mul_of_pos_left _ (by omega);have h3:2^53*B≤2^53*2^53:=Nat.mul_le_mul_left _ (by omega);rw[← Nat.pow_add] at h3;exact Nat.le_trans h3 (Nat.le_trans h1 h2)
theorem Zmq {m E:Int}{n:Bool}{A B k j:Nat}(hB:B≠0) (h:B<9007199254740992) (hk:106≤k):rnP m n (dvK A B k) (E+j)=rnP m n (dvK A B (k+j)) E∧rnF m n (dvK A B k) (E+j)=rnF m n (dvK A B (k+j)) E:=by
 have r:=Zf9 (m:=m) (neg:=n) (A:=dvK A B (k+j)) (d:=j+1) (F:=E) (by
  by_cases hA:A=0
  ·left;subst hA;unfold dvK;simp
  ·right
   rw[Zmp];exact ZtR hA hB h hk)
 rw[ZtQ,show E+((j+1:Nat):Int)-1=E+(j:Int) by omega] at r;exact r
def dvT (a b:Int):Nat:=dvK (sg a).toNat (sg b).toNat 128
def dvE (a b:Int):Int:=xp a-xp b-129
def dvP (m a b:Int):Int:=rnP m (prN a b) (dvT a b) (dvE a b)
def dvF (m a b:Int):Int:=rnF m (prN a b) (dvT a b) (dvE a b)
theorem ZxW {m a b:Int}(hb:sg b≠0):rnP m (prN a b) (dvK (sg a).toNat (sg b).toNat 120) (xp a-xp b-121)=dvP m a b∧rnF m (prN a b) (dvK (sg a).toNat (sg b).toNat 120) (xp a-xp b-121)=dvF m a b:=by
 have h:=ZbK b;have r:=Zmq (m:=m) (E:=dvE a b) (n:=prN a b) (A:=(sg a).toNat) (B:=(sg b).toNat) (k:=120) (j:=8) (by omega) (by omega) (by omega);rw[show dvE a b+((8:Nat):Int)=xp a-xp b-121 by unfold dvE;omega] at r;exact r
end Go.Rn
namespace Go.Proofs.YtekebccjflilnaaGreat
open Go.Proofs.Tryz
open Go.IntKind
open Go.KRun Go.Nt Go.Wd Go.Pt Go.Rn
set_option maxRecDepth 100000
theorem Z1L (p:Int):Zw (Ze (Zi prog Zh Zo true) 300 42 [.int .u64 p,.bool true] []) (.int .u64 (u64.wrap (p+9223372036854775808))) []:=by and_intros<;>kernel_rfl
theorem Z1M (p:Int):Zw (Ze (Zi prog Zh Zo true) 300 42 [.int .u64 p,.bool false] []) (.int .u64 p) []:=by and_intros<;>kernel_rfl
theorem Zmr (p:Int) (n:Bool) (hp:0≤p∧p<9223372036854775808) (w:World):Calls prog 42 #[.int .u64 p,.bool n] w fun r w'=>r= .returned (.int .u64 (sS n p))∧zg w w':=by
 cases n with
 | true=>
  have e1:u64.wrap (p+9223372036854775808)=sS true p:=by
   rw[wrapU' ⟨by omega,by omega⟩];simp only[sS,if_true];omega
  rw[← e1];exact Zb (Zf Zd) (Z1L p) Zne (by rfl) (by rfl) w
 | false=>
  have e0:sS false p=p:=by simp [sS]
  rw[e0];exact Zb (Zf Zd) (Z1M p) Zne (by rfl) (by rfl) w
def Z1N:Ans:=fun vals s=>
 match vals with
 | [.int .u64 p,.bool n]=>some (.int .u64 (sS n p),s,[(decide (0≤p∧p<9223372036854775808),true)])
 | _=>none
theorem ZtS:ZJ 42 Z1N:=by
 intro vals s v s' lg h hl w;unfold Z1N at h;split at h
 ·cases h;exact Zmr _ _ (Xc (hl _ Xf)) w
 ·cases h
def ZbN:Con:=alt 42 Z1N (alt 41 (gU vT) Zo)
theorem ZhN:ConOk ZbN:=Zy func42 rfl ZtS (Zy func41 rfl Zqd Zd)
end Go.Proofs.YtekebccjflilnaaGreat
namespace Go.Proofs.YtekebccjflilnaaGreat
open Go.Proofs.Tryz
open Go.KRun Go.Nt
set_option maxRecDepth 100000
set_option linter.unusedVariables false
section
variable {la lb : List Value} {o c o' c' : Nat} {A L : List Int}
def rIn (V:Nat) (Q:List Int) (la lb:List Value) (r:Value) (h:Hp):Prop:=(V=0∧r=Zn∧h=hB3 (wU Q) lb la)∨(r=sl 3 0 (d16 V).length (d16 V).length∧h=hB4 (wU (d16 V)) (wU Q) lb la)
theorem Zpk (H:Two la lb o o' c' A L) {V:Nat}(hV:V<vb 65536 L) {Q:List Int}{k:Nat}(hk:k<A.length) {v10 v11:Value}(k1:KRun.lt 4 v10=true) (k2:KRun.lt 4 v11=true) (s1:∀ b:Nat,rn (zv 3 b) v10=v10) (s2:∀ b:Nat,rn (zv 3 b) v11=v11) {r:Value}{h:Hp}(hr:rIn V Q la lb r h) (g:Nat→Value) (s:List Dec):
  RunsW (Zp prog Zh Zo hcP) (x7 f43) (pFr o A.length c o' L.length c' A.length r ((k:Nat):Int) v10 v11++tl 83 g,h,s) fun e z=>e=none∧(∃ g,z.1=pFr o A.length c o' L.length c' A.length (sl 3 0 (d16 ((A.getD k 0).toNat+65536*V)).length (d16 ((A.getD k 0).toNat+65536*V)).length) ((k:Nat):Int) v10 v11++tl 83 g)∧z.2.1=hB4 (wU (d16 ((A.getD k 0).toNat+65536*V))) (wU Q) lb la:=by
 have hd:=Zd5 H.dA k;generalize hdd:A.getD k 0=d at*;obtain⟨t1,t2⟩:=Zph V hd;have b2:=H.bnd.2.1;have hlen:(d16 V).length≤L.length:=Zcg (Nat.lt_trans hV b2);have n2:=H.n2;have gc:ZC (la[o+((k:Nat):Int).toNat*1]?) (.int .u32 d)=true:=by rw[Xg,Nat.mul_one,H.ra.cell hk,hdd];simp [ZC]
 have gi:decide (0≤((k:Nat):Int)∧((k:Nat):Int)<((A.length:Nat):Int))=true:=Xa (by omega);have one:ZaK tU [.int .u32 d] 0 1 1=true:=zY (L:=[d]) (ZxQ hd) (by show 1<_;omega) (ZyZ (by show 1<_;omega));have c1:zu [.int .u32 d] 0 1=[d]:=ZaD [d];have lt':∀ t:Nat,∀ v∈pFr o A.length c o' L.length c' A.length (sl 3 0 t t) ((k:Nat):Int) v10 v11,KRun.lt 4 v=true:=fun t=>Zqz k1 k2;have front:∀ b t:Nat,3≤b→(pFr o A.length c o' L.length c' A.length (sl 3 0 t t) ((k:Nat):Int) v10 v11).map (rn (zv 3 b))=pFr o A.length c o' L.length c' A.length (sl b 0 t t) ((k:Nat):Int) v10 v11:=fun b t hb=>by
  simp only[pFr,List.map_cons,List.map_nil,s1,s2]
  kernel_rfl
 by_cases h0:V=0
 ·subst h0;have e0:d16 0=[]:=zx _;rw[e0] at t1 t2;rcases hr with ⟨_,rfl,rfl⟩ | ⟨rfl,rfl⟩
  ·have r:=Zc (s0:=s) Zbb (Z16 o A.length c o' L.length c' A.length v10 v11 ((k:Nat):Int) d (wU Q) lb la g) (Zt one (Zt gc (Z2 gi)));rw[c1,t1] at r;exact r.keptP (k:=3) (b:=3) (base:=[(wU Q,tU),(lb,tR),(la,tR)]) (y:=(wU (d16 (d.toNat+65536*0)),tU)) (r:=wU ([d].drop (Z3 [d]))) rfl (front 3 _ (Nat.le_refl _)) (Zpi (ZP Q) H.sb H.sa rfl rfl rfl) (by
    show some ([Value.int .u32 d],tU)=_;rw[← t2];rfl) (Nat.le_refl _) (ZP _) (lt' _)
  ·rw[e0];have r:=Zc (s0:=s) Zbb (Z17 o A.length c o' L.length c' A.length v10 v11 ((k:Nat):Int) d (wU []) (wU Q) lb la g) (Zt one (Zt gc (Z2 gi)));rw[c1,t1] at r;exact r.keptP (k:=3) (b:=4) (base:=[(wU Q,tU),(lb,tR),(la,tR)]) (y:=(wU (d16 (d.toNat+65536*0)),tU)) (r:=wU ([d].drop (Z3 [d]))) rfl (front 4 _ (by omega)) (Zpi (ZP Q) H.sb H.sa rfl rfl rfl) (by
    show some ([Value.int .u32 d],tU)=_;rw[← t2];rfl) (by omega) (ZP _) (lt' _)
 ·rcases hr with ⟨h1,_,_⟩ | ⟨rfl,rfl⟩
  ·exact absurd h1 h0
  ·have hpos:0<(d16 V).length:=by
    rcases Nat.eq_zero_or_pos (d16 V).length with h1 | h1
    ·exact absurd ((Zef (b:=65536) (by omega)).1 (List.eq_nil_of_length_eq_zero h1)) h0
    ·exact h1
   have et:List.take (d16 V).length (List.drop 0 (wU (d16 V)))=wU (d16 V):=by rw[List.drop_zero,← Zbr,List.take_length]
   have e1:[.int .u32 d]++List.take (d16 V).length (List.drop 0 (wU (d16 V)))=wU (d::d16 V):=by rw[et];rfl
   have hD:∀ x∈d::d16 V,0≤x∧x<4294967296:=fun x hx=>by
    rcases List.mem_cons.1 hx with rfl | hx
    ·exact⟨hd.1,by have:=hd.2;omega⟩
    ·exact Zmf V x hx
   have row:ZaK tU (wU (d::d16 V)) 0 (1+(d16 V).length) grown=true:=by
    have:=zY (L:=d::d16 V) hD (by simp only[List.length_cons];omega) (c:=grown) (Zu3 _);rw[List.length_cons,Nat.add_comm] at this;exact this
   have chz:Zc7 ([.int .u32 d],tU) (wU (d16 V),tU) 1 1 0 (d16 V).length=true:=ZfG (L:=[d]) (M:=d16 V) rfl rfl hpos (by simp only[List.length_singleton];omega);have cD:zu (wU (d::d16 V)) 0 (1+(d16 V).length)=d::d16 V:=by
    have:=ZaD (d::d16 V);rw[List.length_cons,Nat.add_comm] at this;exact this
   have q:=Z18 o A.length c o' L.length c' A.length (d16 V).length v10 v11 ((k:Nat):Int) d (wU (d16 V)) (wU Q) lb la g;rw[e1] at q;have r:=Zc (s0:=s) Zbb q (Zt row (Zt chz (Zt gc (Z2 gi))));rw[cD,t1] at r;exact r.keptP (k:=3) (b:=5) (base:=[(wU Q,tU),(lb,tR),(la,tR)]) (y:=(wU (d16 (d.toNat+65536*V)),tU)) (r:=wU ((d::d16 V).drop (Z3 (d::d16 V)))) rfl (front 5 _ (by omega)) (Zpi (ZP Q) H.sb H.sa rfl rfl rfl) (by
    show some (wU (d::d16 V),tU)=_;rw[← t2]) (by omega) (ZP _) (lt' _)
end
end Go.Proofs.YtekebccjflilnaaGreat
namespace Go.Proofs.YtekebccjflilnaaGreat
open Go.Proofs.Tryz
open Go.IntKind
open Go.KRun Go.Nt
set_option maxRecDepth 100000
set_option linter.unusedVariables false
section
variable {la lb : List Value} {o c o' c' : Nat} {A L : List Int}
theorem Zms (a b:Nat):(Zax a b<0↔a<b)∧(Zax a b>0↔b<a):=by
 unfold Zax;constructor<;>split<;>(try split)<;>omega
def iV (e:Int):Value:= .int .u64 e
theorem Zpl (H:Two la lb o o' c' A L) {V:Nat}(hV:V<65536*vb 65536 L) {Q:List Int}{k:Nat}{v10:Value}(k1:KRun.lt 5 v10=true) (s1:∀ b:Nat,rn (zv 4 b) v10=v10) {e0:Nat}(he0:e0<65536) (hge:V/vb 65536 L≤e0) (g:Nat→Value) (s:List Dec):
  RunsW (Zp prog Zh Zo hcP) (.block 2 (.loop (yL f43))) (pFr o A.length c o' L.length c' A.length (sl 3 0 (d16 V).length (d16 V).length) ((k:Nat):Int) v10 (iV (e0:Nat))++[sl 4 0 (d16 (vb 65536 L*e0)).length (d16 (vb 65536 L*e0)).length]++tl 82 g,hB5 (wU (d16 (vb 65536 L*e0))) (wU (d16 V)) (wU Q) lb la,s) fun e z=>match e with
   | none=>(∃ g,z.1=pFr o A.length c o' L.length c' A.length (sl 3 0 (d16 V).length (d16 V).length) ((k:Nat):Int) v10 (iV (V/vb 65536 L:Nat))++[sl 4 0 (d16 (vb 65536 L*(V/vb 65536 L))).length (d16 (vb 65536 L*(V/vb 65536 L))).length]++tl 82 g)∧z.2.1=hB5 (wU (d16 (vb 65536 L*(V/vb 65536 L)))) (wU (d16 V)) (wU Q) lb la
   | some none=>False
   | some (some _)=>False:=by
 obtain⟨b0,b1,b2⟩:=H.bnd;have n2:=H.n2;generalize hB:vb 65536 L=B at*;have hP:∀ e:Nat,e<65536→(d16 (B*e)).length≤L.length+1:=fun e he=>Zcg (by
  rw[Nat.pow_succ];exact Nat.mul_lt_mul_of_lt_of_le b1 (by omega) (by omega))
 have hlV:(d16 V).length≤L.length+1:=Zcg (by
  rw[Nat.pow_succ,Nat.mul_comm];exact Nat.lt_trans hV (Nat.mul_lt_mul_of_pos_left b1 (by omega)))
 refine RunsW.forLoop (P:=fun z=>(∃ g,z.1=pFr o A.length c o' L.length c' A.length (sl 3 0 (d16 V).length (d16 V).length) ((k:Nat):Int) v10 (iV (V/B:Nat))++[sl 4 0 (d16 (B*(V/B))).length (d16 (B*(V/B))).length]++tl 82 g)∧z.2.1=hB5 (wU (d16 (B*(V/B)))) (wU (d16 V)) (wU Q) lb la) (R:=fun _=>False)
  (fun m z=>m<65536∧V/B≤m∧(∃ g,z.1=pFr o A.length c o' L.length c' A.length (sl 3 0 (d16 V).length (d16 V).length) ((k:Nat):Int) v10 (iV (m:Nat))++[sl 4 0 (d16 (B*m)).length (d16 (B*m)).length]++tl 82 g)∧z.2.1=hB5 (wU (d16 (B*m))) (wU (d16 V)) (wU Q) lb la) ?_ (n:=e0) ⟨he0,hge,⟨g,rfl⟩,rfl⟩
 rintro m ⟨t,h',s⟩ ⟨hm,hle,⟨g,ht⟩,hh⟩;simp only at ht hh;subst ht hh;have p4:(hB5 (wU (d16 (B*m))) (wU (d16 V)) (wU Q) lb la).blk? 4=some (wU (d16 (B*m)),tU):=rfl;have p3:(hB5 (wU (d16 (B*m))) (wU (d16 V)) (wU Q) lb la).blk? 3=some (wU (d16 V),tU):=rfl;have p1:(hB5 (wU (d16 (B*m))) (wU (d16 V)) (wU Q) lb la).blk? 1=some (lb,tR):=rfl;have hPm:=hP m hm;have q4:=ZfN p4 (by omega);have q3:=ZfN p3 (by omega);obtain⟨q1,w1,u1⟩:=H.row p1;rw[hB] at u1;have hy:∀ d:Bool,decide (V<B*m)=d→Zx [(decide (Zax (vO (hB5 (wU (d16 (B*m))) (wU (d16 V)) (wU Q) lb la) (aP 4 0) (d16 (B*m)).length) (vO (hB5 (wU (d16 (B*m))) (wU (d16 V)) (wU Q) lb la) (aP 3 0) (d16 V).length)>0),d),(Z6 (hB5 (wU (d16 (B*m))) (wU (d16 V)) (wU Q) lb la) (aP 4 0) (aP 3 0) (d16 (B*m)).length (d16 (B*m)).length (d16 V).length (d16 V).length,true)]:=fun d hd=>by
  refine Za ?_ (Zz (ZcX q4 q3 (by rw[Zbv p4];exact ZaF _) (by rw[Zbv p3];exact ZaF _) (by omega)));rw[Zpg p4,Zpg p3,← hd];exact decide_eq_decide.2 (Zms (B*m) V).2
 rw[Z3n];by_cases hlt:V<B*m
 ·have hmd:V/B<m:=by
   rw[Nat.div_lt_iff_lt_mul b2,Nat.mul_comm];exact hlt
  have hm1:1≤m:=Nat.lt_of_le_of_lt (Nat.zero_le _) hmd;have hpos:0<(d16 (B*m)).length:=by
   rcases Nat.eq_zero_or_pos (d16 (B*m)).length with h1 | h1
   ·have:=(Zef (b:=65536) (by omega)).1 (List.eq_nil_of_length_eq_zero h1);omega
   ·exact h1
  have eB:B*m-B=B*(m-1):=by rw[Nat.mul_sub,Nat.mul_one]
  have hBm:B≤B*m:=Nat.le_mul_of_pos_right B (by omega);refine RunsW.next (front:=pFr o A.length c o' L.length c' A.length (sl 3 0 (d16 V).length (d16 V).length) ((k:Nat):Int) v10 (iV (m:Nat))++[sl 4 0 (d16 (B*m)).length (d16 (B*m)).length]) (Zc Zbb (Z1D o A.length c o' L.length c' A.length (d16 V).length (d16 (B*m)).length v10 ((k:Nat):Int) ((m:Nat):Int) (wU (d16 (B*m))) (wU (d16 V)) (wU Q) lb la g) (hy true (Xa hlt))) fun g s=> ?_;have rb:=Zc (s0:=s) Zbb (Z1F o A.length c o' L.length c' A.length (d16 V).length (d16 (B*m)).length v10 ((k:Nat):Int) ((m:Nat):Int) (wU (d16 (B*m))) (wU (d16 V)) (wU Q) lb la g) (Za (by
   rw[ZcX q4 q1 (by rw[Zbv p4];exact ZaF _) (by rw[w1];exact H.cL.1) (by omega),Zpg p4,u1,Nat.ble_eq_true_of_le hBm];rfl) (Zz (Xa hpos)))
  have e64:u64.wrap (((m:Nat):Int)-1)=((m-1:Nat):Int):=by rw[w64 (by omega) (by omega)];omega
  rw[Zpg p4,u1,eB,e64] at rb;have rk:=rb.kept (k:=4) (b:=5) (base:=[(wU (d16 V),tU),(wU Q,tU),(lb,tR),(la,tR)]) (y:=(wU (d16 (B*(m-1))),tU)) (front':=pFr o A.length c o' L.length c' A.length (sl 3 0 (d16 V).length (d16 V).length) ((k:Nat):Int) v10 (iV ((m-1:Nat):Int))++[sl 4 0 (d16 (B*(m-1))).length (d16 (B*(m-1))).length]) rfl (by
    simp only[pFr,List.map_append,List.map_cons,List.map_nil,s1]
    kernel_rfl) (by
    intro i x hx;have hi:i<4:=Hp.blk_lt hx;have h3:i=0∨i=1∨i=2∨i=3:=by omega
    rcases h3 with rfl | rfl | rfl | rfl
    ·have:(la,tR)=x:=Option.some.inj hx;subst this;exact⟨rfl,H.sa⟩
    ·have:(lb,tR)=x:=Option.some.inj hx;subst this;exact⟨rfl,H.sb⟩
    ·have:(wU Q,tU)=x:=Option.some.inj hx;subst this;exact⟨rfl,ZP _⟩
    ·have:(wU (d16 V),tU)=x:=Option.some.inj hx;subst this;exact⟨rfl,ZP _⟩) rfl (by omega) (ZP _) (by
    intro v hv;simp only[pFr,List.mem_append,List.mem_cons,List.not_mem_nil,or_false] at hv;rcases hv with (rfl | rfl | rfl | rfl | rfl | rfl | rfl | rfl | rfl | rfl | rfl | rfl) | rfl
    ·rfl
    ·rfl
    ·rfl
    ·rfl
    ·rfl
    ·rfl
    ·rfl
    ·rfl
    ·rfl
    ·rfl
    ·exact k1
    ·rfl
    ·rfl)
  refine RunsW.block (P1:=fun e z=>e=none∧(∃ g,z.1=pFr o A.length c o' L.length c' A.length (sl 3 0 (d16 V).length (d16 V).length) ((k:Nat):Int) v10 (iV ((m-1:Nat):Int))++[sl 4 0 (d16 (B*(m-1))).length (d16 (B*(m-1))).length]++tl 82 g)∧z.2.1=hB5 (wU (d16 (B*(m-1)))) (wU (d16 V)) (wU Q) lb la) rk (fun y hy=> ?_) (fun y hy=>by cases hy.1) (fun y hy=>by cases hy.1) (fun id y _ hy=>by cases hy.1);exact⟨m-1,by omega,by omega,Nat.le_sub_one_of_lt hmd,hy.2.1,hy.2.2⟩
 ·have hmd:m=V/B:=by
   have h1:m≤V/B:=by rw[Nat.le_div_iff_mul_le b2,Nat.mul_comm];omega
   omega
  subst hmd;refine RunsW.seq (Zc Zbb (Z1E o A.length c o' L.length c' A.length (d16 V).length (d16 (B*(V/B))).length v10 ((k:Nat):Int) ((V/B:Nat):Int) (wU (d16 (B*(V/B)))) (wU (d16 V)) (wU Q) lb la g) (hy false (Xb hlt))) (fun y hy=>by cases hy.1) (fun e y hy=> ?_);obtain⟨e1,z1,z2⟩:=hy;cases e1;exact⟨rfl,z1,z2⟩
def Z1O (o c o' c':Nat) (la lb:List Value) (A L:List Int) (V:Nat) (Q:List Int) (i:Int) (z:Lf):Prop:=
 ∃ v10 v11:Value,(KRun.lt 4 v10=true∧KRun.lt 4 v11=true∧(∀ k b:Nat,rn (zv k b) v10=v10)∧(∀ k b:Nat,rn (zv k b) v11=v11))∧(∃ g,z.1=pFr o A.length c o' L.length c' A.length (sl 3 0 (d16 V).length (d16 V).length) i v10 v11++tl 83 g)∧z.2.1=hB4 (wU (d16 V)) (wU Q) lb la
theorem Zpm (H:Two la lb o o' c' A L) {V:Nat}(hV:V<vb 65536 L) {Q:List Int}(hQ:Q.length=A.length) {k:Nat}(hk:k<A.length) {v10 v11:Value}(hv:KRun.lt 4 v10=true∧KRun.lt 4 v11=true∧(∀ k b:Nat,rn (zv k b) v10=v10)∧(∀ k b:Nat,rn (zv k b) v11=v11)) {r:Value}{h:Hp}(hr:rIn V Q la lb r h) (g:Nat→Value) (s:List Dec):
  RunsW (Zp prog Zh Zo hcP) (paL f43) (pFr o A.length c o' L.length c' A.length r ((k:Nat):Int) v10 v11++tl 83 g,h,s) fun e z=>e=none∧∃ V' Q',V'=(A.getD k 0).toNat+65536*V∧Q'=(if V'<vb 65536 L then Q else Q.set k ((V'/vb 65536 L:Nat):Int))∧Z1O o c o' c' la lb A L (V' % vb 65536 L) Q' (((k:Nat):Int)-1) z:=by
 obtain⟨b0,b1,b2⟩:=H.bnd;have n1:=H.n1;have n2:=H.n2;have a2:=H.a2;obtain⟨l1,l2,s1,s2⟩:=hv;rw[Zme];refine RunsW.next (Zc Zbb (Z14 o A.length c o' L.length c' A.length r v10 v11 ((k:Nat):Int) h g) (Zz (Xa (Int.natCast_nonneg k)))) fun g s=> ?_;have hd:=Zd5 H.dA k;obtain⟨W,hW⟩:∃ W,W=(A.getD k 0).toNat+65536*V:=⟨_,rfl⟩;have hWB:W<65536*vb 65536 L:=by
  have:=hd.2;have:=hd.1;have h3:65536*V+65536≤65536*vb 65536 L:=by
   have:=Nat.mul_le_mul_left 65536 (Nat.succ_le_of_lt hV);rw[Nat.mul_succ] at this;exact this
  omega
 obtain⟨B,hB⟩:∃ B,B=vb 65536 L:=⟨_,rfl⟩;have hlW:(d16 W).length≤L.length+1:=Zcg (by
  rw[Nat.pow_succ,Nat.mul_comm];exact Nat.lt_trans hWB (Nat.mul_lt_mul_of_pos_left b1 (by omega)))
 have e1:i64.wrap (((k:Nat):Int)-1)=((k:Nat):Int)-1:=ZL (by omega) (by omega);refine RunsW.seq (P1:=fun e z=>e=none∧Z1O o c o' c' la lb A L (W % vb 65536 L) (if W<vb 65536 L then Q else Q.set k ((W/vb 65536 L:Nat):Int)) ((k:Nat):Int) z) ?_ ?_ (fun e y hy=>by cases hy.1)
 ·refine RunsW.block (P1:=fun e z=>(e=none∨e=some (some 1))∧Z1O o c o' c' la lb A L (W % vb 65536 L) (if W<vb 65536 L then Q else Q.set k ((W/vb 65536 L:Nat):Int)) ((k:Nat):Int) z) ?_ (fun y hy=>⟨rfl,hy.2⟩) (fun y hy=>by rcases hy.1 with h | h<;>cases h) (fun y hy=>⟨rfl,hy.2⟩) (fun id y hid hy=>by
   rcases hy.1 with h | h
   ·cases h
   ·cases h;exact absurd rfl hid)
  rw[Z3m];have h7:=Zpk (c:=c) H hV (Q:=Q) hk l1 l2 (s1 3) (s2 3) hr g s;rw[← hW] at h7;refine RunsW.next h7 fun g s=> ?_;have p3:(hB4 (wU (d16 W)) (wU Q) lb la).blk? 3=some (wU (d16 W),tU):=rfl;have p1:(hB4 (wU (d16 W)) (wU Q) lb la).blk? 1=some (lb,tR):=rfl;have q3:=ZfN p3 (by omega);obtain⟨q1,w1,u1⟩:=H.row p1;have h8:∀ d:Bool,decide (W<vb 65536 L)=d→Zx [(decide (Zax (vO (hB4 (wU (d16 W)) (wU Q) lb la) (aP 3 0) (d16 W).length) (vO (hB4 (wU (d16 W)) (wU Q) lb la) (aP 1 o') L.length)<0),d),(Z6 (hB4 (wU (d16 W)) (wU Q) lb la) (aP 3 0) (aP 1 o') (d16 W).length (d16 W).length L.length c',true)]:=fun d hd=>by
   refine Za ?_ (Zz (ZcX q3 q1 (by rw[Zbv p3];exact ZaF _) (by rw[w1];exact H.cL.1) (by omega)));rw[Zpg p3,u1,← hd];exact decide_eq_decide.2 (Zms W (vb 65536 L)).1
  by_cases hlt:W<vb 65536 L
  ·refine RunsW.seq (Zc Zbb (Z19 o A.length c o' L.length c' A.length (d16 W).length v10 v11 ((k:Nat):Int) (wU (d16 W)) (wU Q) lb la g) (h8 true (Xa hlt))) (fun y hy=>by cases hy.1) (fun e y hy=> ?_);obtain⟨e2,z1,z2⟩:=hy;cases e2;rw[if_pos hlt,Nat.mod_eq_of_lt hlt];exact⟨.inr rfl,v10,v11,⟨l1,l2,s1,s2⟩,z1,z2⟩
  ·rw[if_neg hlt];refine RunsW.next (Zc Zbb (Z1A o A.length c o' L.length c' A.length (d16 W).length v10 v11 ((k:Nat):Int) (wU (d16 W)) (wU Q) lb la g) (h8 false (Xb hlt))) fun g s=> ?_;have g9:=Z3p o A.length c o' L.length c' A.length (d16 W).length v10 v11 ((k:Nat):Int) (wU (d16 W)) (wU Q) lb la g;rw[Zbv p3,ZxO W L.length n1 n2] at g9;refine RunsW.next (Zc Zbb g9 (Za q3 (Za rfl (Za q3 (Za rfl (Zz q3)))))) fun g s=> ?_;obtain⟨t1,t2,t3,t4,t5⟩:=ZxJ n1 b0 b1 hWB;have etb:=ZxP H.cL n1 n2;generalize Zpf W L.length=tp at*;generalize Zm9 (vb 65536 L) L.length=tb at*;obtain⟨tq,htq⟩:∃ tq,tq=tp/tb:=⟨_,rfl⟩;have htq':tq≤tp:=by rw[htq];exact Nat.div_le_self _ _
   rw[← htq] at t4;have eix:i64.wrap ((L.length:Int)-1)=((L.length-1:Nat):Int):=by rw[ZL (by omega) (by omega)];omega
   have g10:=Z1B o A.length c o' L.length c' A.length (d16 W).length v11 ((k:Nat):Int) ((tp:Nat):Int) (L.getD (L.length-1) 0) ((tq:Nat):Int) (wU (d16 W)) (wU Q) lb la g;have eq:u64.wrap (((tp:Nat):Int).tdiv ((tb:Nat):Int))=((tq:Nat):Int):=by
    rw[← Int.ofNat_tdiv,← htq,w64 (by omega) (by omega)]
   refine RunsW.next (Zc Zbb g10 (by
    rw[w1,etb];refine Za (Xb (by omega)) (Za (Xa eq) (Za q1 (Za rfl (Za ?_ (Zz ?_)))))
    ·rw[eix,Xg,Nat.mul_one,H.rb.cell (by omega)];simp [ZC]
    ·rw[eix];exact Xa (by omega))) fun g s=> ?_
   obtain⟨e,he⟩:∃ e:Nat,e=min tq 65535:=⟨_,rfl⟩;have em:Z12 ((tq:Nat):Int)=((e:Nat):Int):=by unfold Z12;rw[he];split<;>omega
   rw[em];have e16:e<65536:=by omega
   have hde:W/vb 65536 L≤e:=by omega
   have w32:u32.wrap ((e:Nat):Int)=((e:Nat):Int):=ze (by omega) (by omega);have ep:pV (hB4 (wU (d16 W)) (wU Q) lb la) o' L.length ((e:Nat):Int)=vb 65536 L*e:=by
    unfold pV;rw[u1,w32,Xg];rfl
   have g11:=Z1C o A.length c o' L.length c' A.length (d16 W).length (iV ((tp:Nat):Int)) ((k:Nat):Int) ((e:Nat):Int) (wU (d16 W)) (wU Q) lb la g;rw[ep] at g11;refine RunsW.next (front:=pFr o A.length c o' L.length c' A.length (sl 3 0 (d16 W).length (d16 W).length) ((k:Nat):Int) (iV ((tp:Nat):Int)) (iV ((e:Nat):Int))++[sl 4 0 (d16 (vb 65536 L*e)).length (d16 (vb 65536 L*e)).length]) (Zc Zbb g11 (Za (by
    unfold ZiZ;rw[q1,w1,ZaZ H.cL.1,Zk.2 (by omega),w32,Xa ⟨⟨by omega,by omega⟩,by omega,by omega⟩];rfl) (Zz (Xa (.inl (by omega)))))) fun g s=> ?_
   refine RunsW.seq (P1:=fun e z=>e=none∧(∃ g,z.1=pFr o A.length c o' L.length c' A.length (sl 3 0 (d16 W).length (d16 W).length) ((k:Nat):Int) (iV ((tp:Nat):Int)) (iV (W/vb 65536 L:Nat))++[sl 4 0 (d16 (vb 65536 L*(W/vb 65536 L))).length (d16 (vb 65536 L*(W/vb 65536 L))).length]++tl 82 g)∧z.2.1=hB5 (wU (d16 (vb 65536 L*(W/vb 65536 L)))) (wU (d16 W)) (wU Q) lb la) ((Zpl (c:=c) H hWB rfl (fun b=>rfl) e16 hde g s).mono fun e z hz=> ?_) ?_ (fun e y hy=>by cases hy.1)
   ·match e,hz with
    | none,hz=>exact⟨rfl,hz⟩
    | some none,hz=>exact hz.elim
    | some (some _),hz=>exact hz.elim
   ·rintro⟨t,h',s⟩ ⟨_,⟨g,ht⟩,hh⟩;simp only at ht hh;subst ht hh;have p4:(hB5 (wU (d16 (vb 65536 L*(W/vb 65536 L)))) (wU (d16 W)) (wU Q) lb la).blk? 4=some (wU (d16 (vb 65536 L*(W/vb 65536 L))),tU):=rfl;have p3':(hB5 (wU (d16 (vb 65536 L*(W/vb 65536 L)))) (wU (d16 W)) (wU Q) lb la).blk? 3=some (wU (d16 W),tU):=rfl;have hle:vb 65536 L*(W/vb 65536 L)≤W:=Nat.mul_div_le W (vb 65536 L);have hl4:(d16 (vb 65536 L*(W/vb 65536 L))).length≤L.length+1:=Zcg (by
     rw[Nat.pow_succ];exact Nat.mul_lt_mul_of_lt_of_le b1 (by omega) (by omega))
    have q4:=ZfN p4 (by omega);have q3':=ZfN p3' (by omega);have hpos:0<(d16 W).length:=by
     rcases Nat.eq_zero_or_pos (d16 W).length with h1 | h1
     ·have:=(Zef (b:=65536) (by omega)).1 (List.eq_nil_of_length_eq_zero h1);omega
     ·exact h1
    have ge:=Z3q o A.length c o' L.length c' A.length (d16 W).length (d16 (vb 65536 L*(W/vb 65536 L))).length (iV ((tp:Nat):Int)) ((k:Nat):Int) ((W/vb 65536 L:Nat):Int) (wU (d16 (vb 65536 L*(W/vb 65536 L)))) (wU (d16 W)) (wU Q) lb la g;have wd:u32.wrap ((W/vb 65536 L:Nat):Int)=((W/vb 65536 L:Nat):Int):=ze (Int.natCast_nonneg _) (by omega);have em2:W-vb 65536 L*(W/vb 65536 L)=W % vb 65536 L:=by have:=Nat.div_add_mod W (vb 65536 L);omega
    have eset:(wU Q).set (0+((k:Nat):Int).toNat*1) (.int .u32 ((W/vb 65536 L:Nat):Int))=wU (Q.set k ((W/vb 65536 L:Nat):Int)):=by
     rw[Xg,Nat.zero_add,Nat.mul_one];unfold wU;rw[List.map_set]
    have re:=Zc (s0:=s) Zbb ge (Za (Xa (by rw[Xg,Zbr];omega)) (Za (Xa (by omega)) (Za (by
     rw[ZcX q3' q4 (by rw[Zbv p3'];exact ZaF _) (by rw[Zbv p4];exact ZaF _) (by omega),Zpg p4,Zpg p3',Nat.ble_eq_true_of_le hle];rfl) (Zz (Xa hpos)))))
    rw[Zpg p4,Zpg p3',em2,wd,eset] at re;have rk:=re.kept (k:=3) (b:=5) (base:=[(wU (Q.set k ((W/vb 65536 L:Nat):Int)),tU),(lb,tR),(la,tR)]) (y:=(wU (d16 (W % vb 65536 L)),tU)) (front':=pFr o A.length c o' L.length c' A.length (sl 3 0 (d16 (W % vb 65536 L)).length (d16 (W % vb 65536 L)).length) ((k:Nat):Int) (iV ((tp:Nat):Int)) (iV (W/vb 65536 L:Nat))) rfl (by
     simp only[pFr,List.map_cons,List.map_nil]
     kernel_rfl) (Zpi (ZP _) H.sb H.sa rfl rfl rfl) rfl (by omega) (ZP _) (Zqz rfl rfl)
    refine rk.mono fun e z hz=> ?_;obtain⟨e3,z1,z2⟩:=hz;exact⟨.inl e3,_,_,⟨rfl,rfl,fun k b=>rfl,fun k b=>rfl⟩,z1,z2⟩
 ·rintro⟨t,h',s⟩ ⟨_,u10,u11,hu,⟨g,ht⟩,hh⟩;simp only at ht hh;subst ht hh;have gi:=Z3o o A.length c o' L.length c' A.length (sl 3 0 (d16 (W % vb 65536 L)).length (d16 (W % vb 65536 L)).length) u10 u11 ((k:Nat):Int) (hB4 (wU (d16 (W % vb 65536 L))) (wU (if W<vb 65536 L then Q else Q.set k ((W/vb 65536 L:Nat):Int))) lb la) g;rw[e1] at gi;refine (Zc Zbb gi (fun x hx=>by cases hx)).mono fun e z hz=> ?_;obtain⟨e2,z1,z2⟩:=hz;exact⟨e2,W,_,hW,rfl,u10,u11,hu,z1,z2⟩
end
section
variable {la lb : List Value} {o c o' c' : Nat} {A L : List Int}
def okV (v10 v11:Value):Prop:=KRun.lt 4 v10=true∧KRun.lt 4 v11=true∧(∀ k b:Nat,rn (zv k b) v10=v10)∧(∀ k b:Nat,rn (zv k b) v11=v11)
def Z1P (A L:List Int) (i V:Nat) (Q:List Int):Prop:=i≤A.length∧Q.length=A.length∧(∀ x∈Q,Dg 65536 x)∧(∀ j,j<i→Q.getD j 0=0)∧vb 65536 (A.drop i)=vb 65536 (Q.drop i)*vb 65536 L+V∧V<vb 65536 L
def ZxX (o c o' c':Nat) (la lb:List Value) (A L:List Int) (i:Nat) (z:Lf):Prop:=
 ∃ V Q,Z1P A L i V Q∧∃ v10 v11 r,okV v10 v11∧(∃ g,z.1=pFr o A.length c o' L.length c' A.length r (((i:Nat):Int)-1) v10 v11++tl 83 g)∧rIn V Q la lb r z.2.1∧(i<A.length→r=sl 3 0 (d16 V).length (d16 V).length∧z.2.1=hB4 (wU (d16 V)) (wU Q) lb la)
theorem Zmt (H:Two la lb o o' c' A L) {k V:Nat}{Q:List Int}(h:Z1P A L (k+1) V Q):Z1P A L k (((A.getD k 0).toNat+65536*V) % vb 65536 L) (if (A.getD k 0).toNat+65536*V<vb 65536 L then Q else Q.set k ((((A.getD k 0).toNat+65536*V)/vb 65536 L:Nat):Int)):=by
 obtain⟨h1,h2,h3,h4,h5,h6⟩:=h;have hB:=H.bnd.2.2;have hd:=Zd5 H.dA k;have hA:vb 65536 (A.drop k)=(A.getD k 0).toNat+65536*vb 65536 (A.drop (k+1)):=Zfa (by omega);obtain⟨W,hW⟩:∃ W,W=(A.getD k 0).toNat+65536*V:=⟨_,rfl⟩;have hWB:W<65536*vb 65536 L:=by
  have:=hd.2;have:=hd.1;have h3:65536*V+65536≤65536*vb 65536 L:=by
   have:=Nat.mul_le_mul_left 65536 (Nat.succ_le_of_lt h6);rw[Nat.mul_succ] at this;exact this
  omega
 have hq:W/vb 65536 L<65536:=by rw[Nat.div_lt_iff_lt_mul hB];exact hWB
 have hdm:=Nat.div_add_mod W (vb 65536 L);have hml:=Nat.mod_lt W hB;rw[← hW];have hk:k<Q.length:=by omega
 have hQ:vb 65536 (Q.drop k)=(Q.getD k 0).toNat+65536*vb 65536 (Q.drop (k+1)):=Zfa hk;have key:∀ q:Nat,vb 65536 (A.drop k)=(q+65536*vb 65536 (Q.drop (k+1)))*vb 65536 L+(W-q*vb 65536 L)↔q*vb 65536 L≤W∨vb 65536 (A.drop k)=(q+65536*vb 65536 (Q.drop (k+1)))*vb 65536 L+(W-q*vb 65536 L):=fun q=>by
  refine⟨.inr,fun h=>h.elim (fun h=> ?_) id⟩;rw[hA,h5,Nat.add_mul,Nat.mul_add,Nat.mul_assoc];omega
 by_cases hlt:W<vb 65536 L
 ·rw[if_pos hlt,Nat.mod_eq_of_lt hlt];refine⟨by omega,h2,h3,fun j hj=>h4 j (by omega),?_,hlt⟩;have h0:(Q.getD k 0).toNat=0:=by rw[h4 k (by omega)];rfl
  rw[hQ,h0];have:=(key 0).2 (.inl (by omega));rw[Nat.zero_mul,Nat.sub_zero] at this;exact this
 ·rw[if_neg hlt];refine⟨by omega,by rw[List.length_set];exact h2,ZlP h3 ⟨Int.natCast_nonneg _,by omega⟩ k,fun j hj=> ?_,?_,hml⟩
  ·have:=h4 j (by omega);simp only[List.getD] at*;rw[List.getElem?_set_ne (by omega)];exact this
  ·have hk':k<(Q.set k ((W/vb 65536 L:Nat):Int)).length:=by rw[List.length_set];exact hk
   have e1:((Q.set k ((W/vb 65536 L:Nat):Int)).getD k 0).toNat=W/vb 65536 L:=by
    simp only[List.getD,List.getElem?_set_self hk,Option.getD_some,Xg]
   have e2:(Q.set k ((W/vb 65536 L:Nat):Int)).drop (k+1)=Q.drop (k+1):=by rw[List.drop_set_of_lt (by omega)]
   rw[Zfa hk',e1,e2];have e3:W % vb 65536 L=W-W/vb 65536 L*vb 65536 L:=by rw[Nat.mul_comm] at hdm;omega
   rw[e3];exact (key _).2 (.inl (by rw[Nat.mul_comm] at hdm;omega))
theorem Zpn (H:Two la lb o o' c' A L) {z0:Lf}(h0:ZxX o c o' c' la lb A L A.length z0):
  RunsW (Zp prog Zh Zo hcP) (.block 0 (.loop (paL f43))) z0 fun e z=>match e with | none=>ZxX o c o' c' la lb A L 0 z | some none=>False | some (some _)=>False:=by
 refine RunsW.forLoop (P:=ZxX o c o' c' la lb A L 0) (R:=fun _=>False) (ZxX o c o' c' la lb A L) ?_ h0;rintro m ⟨t,h',s⟩ hI;obtain⟨V,Q,hn,v10,v11,r,hv,⟨g,ht⟩,hr,hrow⟩:=hI;simp only at ht hr hrow;subst ht;cases m with
 | zero=>
  have e0:(((0:Nat):Int)-1)= -1:=rfl;rw[Zme];refine RunsW.seq (Zc Zbb (Z15 o A.length c o' L.length c' A.length r v10 v11 (((0:Nat):Int)-1) h' g) (Zz (Xb (by omega)))) (fun y hy=>by cases hy.1) (fun e y hy=> ?_);obtain⟨e1,z1,z2⟩:=hy;cases e1;exact⟨rfl,V,Q,hn,v10,v11,r,hv,z1,by rw[z2];exact hr,fun hl=>by rw[z2];exact hrow hl⟩
 | succ k=>
  have hk:k<A.length:=by have:=hn.1;omega
  have ek:(((k+1:Nat):Int)-1)=((k:Nat):Int):=by omega
  rw[ek];have hn':=Zmt H hn;refine (Zpm (c:=c) H hn.2.2.2.2.2 (Q:=Q) hn.2.1 hk hv hr g s).mono fun e z hz=> ?_;obtain⟨rfl,V',Q',hV',hQ',u10,u11,hu,z1,z2⟩:=hz;rw[hV'] at hQ' z1 z2;rw[← hQ'] at hn';exact⟨k,by omega,_,Q',hn',u10,u11,_,hu,z1,.inr ⟨rfl,z2⟩,fun _=>⟨rfl,z2⟩⟩
theorem ZtT (H:Two la lb o o' c' A L):
  RunsW (Zp prog Zh Zo hcP) (Zaz (paP f43) (.seq (.seq (ZB (paB f43)) (.block 0 (.loop (paL f43)))) (paE f43))) ([sl 0 o A.length c,sl 1 o' L.length c']++List.replicate 93 undef,h2 la lb,[]) fun e z=>(e=none∨e=some none)∧∃ k j,k≠j∧Zau prog f43 z.1 z.2.1=some (.tuple #[sl k 0 (d16 (vb 65536 A/vb 65536 L)).length (d16 (vb 65536 A/vb 65536 L)).length,sl j 0 (d16 (vb 65536 A % vb 65536 L)).length (d16 (vb 65536 A % vb 65536 L)).length])∧(∃ r,z.2.1.blk? k=some (wU (d16 (vb 65536 A/vb 65536 L))++r,tU))∧∃ r,z.2.1.blk? j=some (wU (d16 (vb 65536 A % vb 65536 L))++r,tU):=by
 have a2:=H.a2;have a1:=H.a1;have hB:=H.bnd.2.2;have mk:zf 4 ((A.length:Nat):Int) ((A.length:Nat):Int)=true:=by unfold zf;exact Xa (by omega)
 refine Z0 Zbb (ZxM o A.length c o' L.length c' la lb) (Z2 mk) fun g=> ?_;rw[Xg];have ew:List.replicate A.length (Value.int .u32 0)=wU (List.replicate A.length 0):=by unfold wU;rw[List.map_replicate]
 rw[ew];have e1:i64.wrap ((A.length:Int)-1)=((A.length:Nat):Int)-1:=ZL (by omega) (by omega);refine RunsW.seq (P1:=fun e z=>e=none∧ZxX o c o' c' la lb A L 0 z) ?_ ?_ (fun e y hy=>by cases hy.1)
 ·have g4:=Z13 o A.length c o' L.length c' A.length Zn undef undef undef (hB3 (wU (List.replicate A.length 0)) lb la) g;rw[e1] at g4;refine RunsW.next (Zc Zbb g4 (fun x hx=>by cases hx)) fun g s=> ?_;refine (Zpn H ⟨0,List.replicate A.length 0,⟨Nat.le_refl _,by simp,fun x hx=> ?_,fun j _=> ?_,?_,hB⟩,undef,undef,Zn,⟨rfl,rfl,fun k b=>by kernel_rfl,fun k b=>by kernel_rfl⟩,⟨g,rfl⟩,.inl ⟨rfl,rfl,rfl⟩,fun h=>absurd h (Nat.lt_irrefl _)⟩).mono fun e z hz=> ?_
  ·rw[List.eq_of_mem_replicate hx];exact⟨by omega,by omega⟩
  ·simp only[List.getD,List.getElem?_replicate];split<;>rfl
  ·rw[List.drop_of_length_le (Nat.le_refl _),List.drop_of_length_le (by simp)];simp [vb]
  ·match e,hz with
   | none,hz=>exact⟨rfl,hz⟩
   | some none,hz=>exact hz.elim
   | some (some _),hz=>exact hz.elim
 ·rintro⟨t,h',s⟩ ⟨_,V,Q,hn,v10,v11,r,hv,⟨g,ht⟩,hr,hrow⟩;obtain⟨e2,e3⟩:=hrow (by omega);simp only at ht e3;subst ht e2 e3;obtain⟨_,q1,q2,_,q4,q5⟩:=hn;rw[List.drop_zero,List.drop_zero] at q4;have hdiv:vb 65536 A/vb 65536 L=vb 65536 Q:=by
   rw[q4,Nat.mul_comm,Nat.mul_add_div hB,Nat.div_eq_of_lt q5,Nat.add_zero]
  have hmod:vb 65536 A % vb 65536 L=V:=by
   rw[q4,Nat.mul_comm,Nat.mul_add_mod,Nat.mod_eq_of_lt q5]
  have rngQ:∀ x∈Q,0≤x∧x<4294967296:=fun x hx=>⟨(q2 x hx).1,by have:=(q2 x hx).2;omega⟩;have row:ZaK tU (wU Q) 0 A.length A.length=true:=by
   have:=zY (L:=Q) rngQ (by omega) (c:=Q.length) (ZyZ (by omega));rw[q1] at this;exact this
  have cq:zu (wU Q) 0 A.length=Q:=by
   have:=ZaD Q;rw[q1] at this;exact this
  have et:Z3 Q=(d16 (vb 65536 Q)).length:=Zad (b:=65536) (by omega) q2;have ge:=ZxN o A.length c o' L.length c' A.length (d16 V).length (.int .i64 (((0:Nat):Int)-1)) v10 v11 (wU (d16 V)) (wU Q) lb la g;rw[cq,et] at ge;refine (Zc Zbb ge (Z2 row)).mono fun e z hz=> ?_;obtain⟨rfl,⟨g',z1⟩,z2⟩:=hz;rw[hdiv,hmod];refine⟨.inr rfl,2,3,by omega,by rw[z1,z2];rfl,⟨wU (Q.drop (Z3 Q)),?_⟩,⟨[],by rw[z2,List.append_nil];rfl⟩⟩;have e4:wU (d16 (vb 65536 Q))++wU (Q.drop (Z3 Q))=wU Q:=by
   unfold d16;rw[← zj (by omega) _ q2,← ZO,List.take_append_drop]
  rw[z2,e4];rfl
end
def Zq2 (h:Hp) (p q:Option Addr) (n c n' c':Nat):Bool:=zS h p n c && dgB (Zu h p n) && (zS h q n' c' && Zff (Zu h q n')) && (Nat.blt n 1000000 && Nat.blt n' 1000000 && Nat.blt 0 n && Nat.blt 0 n')
def gPa:Zcl:=fun vals h s=>
 match vals with
 | [.slice (some ⟨b,o,none⟩) n c,.slice (some ⟨b',o',none⟩) n' c']=>
  some (.tuple #[sl h.n 0 (d16 (vO h (aP b o) n/vO h (aP b' o') n')).length (d16 (vO h (aP b o) n/vO h (aP b' o') n')).length,sl (h.n+1) 0 (d16 (vO h (aP b o) n % vO h (aP b' o') n')).length (d16 (vO h (aP b o) n % vO h (aP b' o') n')).length],
   (h.push (wU (d16 (vO h (aP b o) n/vO h (aP b' o') n'))) tU).push (wU (d16 (vO h (aP b o) n % vO h (aP b' o') n'))) tU,s,[(Zq2 h (aP b o) (aP b' o') n c n' c',true)])
 | _=>none
theorem ZxY:za 43 gPa:=by
 intro vals h s v h' s' lg hg hl m B w E0 hv;unfold gPa at hg;split at hg
 ·rename_i b o n c b' o' n' c';cases hg;have l3:=hl _ Xf;simp only[Zq2,Xh] at l3;obtain⟨⟨⟨q1,q2⟩,⟨p1,p2⟩⟩,⟨⟨⟨r1,r2⟩,r3⟩,r4⟩⟩:=l3;have q2:=ZaY q2;have p2:=Zc1 p2;have r1:=Zk.1 r1;have r2:=Zk.1 r2;have r3:=Zk.1 r3;have r4:=Zk.1 r4;rcases Z8 q1 with ⟨h0,_⟩ | ⟨b1,o1,x,hp,hx,k1,ks,e0⟩
  ·cases h0
  ·cases hp;rcases Z8 p1 with ⟨h0,_⟩ | ⟨b2,o2,y,hp',hy,t1,ts,f0⟩
   ·cases h0
   ·cases hp';rw[e0] at q2;rw[f0] at p2;obtain⟨h1,h2',h3,h4,h5,h6,h7⟩:=ZU k1;obtain⟨g1,g2,g3,g4,g5,g6,g7⟩:=ZU t1;have ev:vO h (aP b o) n=vb 65536 (zu x.1 o n):=by unfold vO;rw[e0]
    have ev':vO h (aP b' o') n'=vb 65536 (zu y.1 o' n'):=by unfold vO;rw[f0]
    have cb:ZaK tR y.1 o' n' c'=true:=by
     unfold ZaK at t1 ⊢;simp only[Xh,Bool.not_eq_true'] at t1 ⊢;obtain⟨⟨⟨⟨⟨⟨_,_⟩,j3⟩,j4⟩,j5⟩,j6⟩,j7⟩:=t1;exact⟨⟨⟨⟨⟨⟨ZeO,by kernel_rfl⟩,j3⟩,j4⟩,j5⟩,j6⟩,j7⟩
    have H:Two x.1 y.1 o o' c' (zu x.1 o n) (zu y.1 o' n'):=⟨h1,g1,q2,p2,by rw[g2];omega,by rw[g2];exact r2,by rw[h2'];omega,by rw[h2'];exact r1,by rw[g2];exact cb,ts,ks,by rw[g2]⟩;have r:=ZtT (c:=c) H;rw[h2',g2,← ev,← ev'] at r;have evals:List.map (rn (pair b b')) [sl 0 o n c,sl 1 o' n' c']=[.slice (some ⟨b,o,none⟩) n c,.slice (some ⟨b',o',none⟩) n' c']:=by
     simp [rn,rn2,rn1,sl,pair]
    have fin:=Zja (T:=Zp prog Zh Zo hcP) func43 ZtM (Zob h7 g7) (vals:=[sl 0 o n c,sl 1 o' n' c']) (fun v hv=>by
     simp only[List.mem_cons,List.not_mem_nil,or_false] at hv;rcases hv with h1 | h1<;>rw[h1]<;>rfl) (v:=fun k j=> .tuple #[sl k 0 (d16 (vO h (aP b o) n/vO h (aP b' o') n')).length (d16 (vO h (aP b o) n/vO h (aP b' o') n')).length,sl j 0 (d16 (vO h (aP b o) n % vO h (aP b' o') n')).length (d16 (vO h (aP b o) n % vO h (aP b' o') n')).length]) (Zbs _) (Zbs _) (by kernel_rfl) r (fun k j=>by simp [oc,oc2,oc1,sl]) E0 (ZkX hx h5 h6 hy g5 g6) (fun k j g=>by simp [rn,rn2,rn1,sl])
    rw[evals] at fin;exact fin
 ·cases hg
end Go.Proofs.YtekebccjflilnaaGreat
namespace Go.Proofs.YtekebccjflilnaaGreat
open Go.KRun Go.Nt
set_option maxRecDepth 100000
def Z1Q:Zcl:=fun vals h s=>
 match vals,s with
 | [.slice (some ⟨b,o,none⟩) n c,.slice (some ⟨b',o',none⟩) n' c'],.inr (.inl V):: .inr (.inl U)::s'=>
  some (.tuple #[sl h.n 0 (d16 V.toNat).length (d16 V.toNat).length,sl (h.n+1) 0 (d16 U.toNat).length (d16 U.toNat).length],(h.push (wU (d16 V.toNat)) tU).push (wU (d16 U.toNat)) tU,s',[(decide (vO h (some ⟨b,o,none⟩) n/vO h (some ⟨b',o',none⟩) n'=V.toNat∧vO h (some ⟨b,o,none⟩) n % vO h (some ⟨b',o',none⟩) n'=U.toNat),true),(Zq2 h (some ⟨b,o,none⟩) (some ⟨b',o',none⟩) n c n' c',true)])
 | _,_=>none
theorem ZtU:za 43 Z1Q:=by
 intro vals h s v h' s' lg hg hl m B w E hv;unfold Z1Q at hg;split at hg
 ·rename_i b o n c b' o' n' c' V U s2;cases hg;have l1:=Xc (hl _ Xe);have l2:=hl _ (Xd _ Xf);rw[← l1.1,← l1.2];exact ZxY _ h [] _ _ [] [(Zq2 h (some ⟨b,o,none⟩) (some ⟨b',o',none⟩) n c n' c',true)] rfl (Zz l2) m B w E hv
 ·cases hg
section
variable {h : Hp} {b b' V W : Nat}
theorem oPa (hb:h.blk? b=some (wU (d16 V),tU)) (hc:h.blk? b'=some (wU (d16 W),tU)) (hl:(d16 V).length<1000000) (hm:(d16 W).length<1000000) (h0:0<(d16 V).length) (h1:0<(d16 W).length):Zq2 h (Za7 b) (Za7 b') (d16 V).length (d16 V).length (d16 W).length (d16 W).length=true:=by
 unfold Zq2 Za7;rw[ZE hb (by omega),Zaa hb,ZE hc (by omega),z6 hc,show Zff (d16 W)=true from ZaV (ZcB (by omega) W),Zk.2 hl,Zk.2 hm,Zk.2 h0,Zk.2 h1];rfl
end
end Go.Proofs.YtekebccjflilnaaGreat
namespace Go.Proofs.YtekebccjflilnaaGreat
open Go.Proofs.Tryz
open Go.KRun Go.Nt
set_option maxRecDepth 100000
def hcT:Hc:=Zb4 43 Z1Q Z27
theorem Zq3:HcOk hcT:=ZA func43 rfl ZtU ZtP
end Go.Proofs.YtekebccjflilnaaGreat
namespace Go.Wd
theorem ZfO {B R dt d0 N p0:Int}(hR:0<R) (hd:0<dt) (h0:0≤d0) (hp:p0<R) (hq0:0≤(N*R+p0)/(dt*R+d0)) (hP:N*R+p0<B*(dt*R+d0)):
  (N*R+p0)/(dt*R+d0)≤N/dt∧(N*R+p0)/(dt*R+d0)≤B-1:=by
 have hD:0<dt*R+d0:=by have:=Int.mul_pos hd hR;omega
 have e:=Int.mul_ediv_add_emod (N*R+p0) (dt*R+d0);have m:=Int.emod_nonneg (N*R+p0) (show dt*R+d0≠0 by omega);generalize hq:(N*R+p0)/(dt*R+d0)=q at*;refine⟨?_,?_⟩
 ·refine Int.le_ediv_of_mul_le hd ?_;have h1:q*dt*R≤N*R+p0:=by
   have:(dt*R+d0)*q=q*dt*R+d0*q:=by rw[Int.add_mul,Int.mul_right_comm,Int.mul_comm dt q]
   have h2:0≤d0*q:=Int.mul_nonneg h0 hq0;omega
  have h3:q*dt*R<(N+1)*R:=by rw[Int.add_mul];omega
  have:=Int.lt_of_mul_lt_mul_right h3 (Int.le_of_lt hR);omega
 ·have h1:q*(dt*R+d0)<B*(dt*R+d0):=by rw[Int.mul_comm q];omega
  have:=Int.lt_of_mul_lt_mul_right h1 (Int.le_of_lt hD);omega
theorem Zjb {B R dt d0 N p0 g:Int}(hR:0<R) (hd:0<dt) (hB:B≤2*dt) (h1:d0<R) (hp0:0≤p0) (hP:N*R+p0<B*(dt*R+d0)) (h0:0≤d0) (hg:g≤N/dt):
  g≤(N*R+p0)/(dt*R+d0)+2:=by
 have hD:0<dt*R+d0:=by have:=Int.mul_pos hd hR;omega
 have e:=Int.lt_mul_ediv_self_add hD (x:=N*R+p0);have hqB:(N*R+p0)/(dt*R+d0)<B:=Int.ediv_lt_of_lt_mul hD hP;generalize (N*R+p0)/(dt*R+d0)=q at*;have a1:g*dt≤N:=Int.le_trans (Int.mul_le_mul_of_nonneg_right hg (Int.le_of_lt hd)) (Int.ediv_mul_le N (by omega));have a2:g*dt*R≤N*R:=Int.mul_le_mul_of_nonneg_right a1 (Int.le_of_lt hR);rcases Int.lt_or_le g (q+3) with hc | hc
 ·omega
 ·exfalso
  by_cases hq:0≤q+1
  ·have a3:(dt*R+d0)*(q+1)≤(dt*R+R)*(q+1):=Int.mul_le_mul_of_nonneg_right (by omega) hq;have a4:(dt*R+d0)*q+(dt*R+d0)=(dt*R+d0)*(q+1):=by rw[Int.mul_add,Int.mul_one]
   have a5:(dt*R+R)*(q+1)=(dt+1)*(q+1)*R:=by rw[show dt*R+R=(dt+1)*R from by rw[Int.add_mul,Int.one_mul],Int.mul_right_comm]
   have a6:g*dt*R<(dt+1)*(q+1)*R:=by omega
   have a7:=Int.lt_of_mul_lt_mul_right a6 (Int.le_of_lt hR);have a8:(q+3)*dt≤g*dt:=Int.mul_le_mul_of_nonneg_right hc (Int.le_of_lt hd);have a9:(q+3)*dt=q*dt+3*dt:=Int.add_mul ..;have b1:(dt+1)*(q+1)=q*dt+dt+q+1:=by rw[Int.add_mul,Int.mul_add,Int.mul_comm dt q];omega
   omega
  ·have c1:g*dt*R+p0<(dt*R+d0)*(q+1):=by
    have a4:(dt*R+d0)*q+(dt*R+d0)=(dt*R+d0)*(q+1):=by rw[Int.mul_add,Int.mul_one]
    omega
   have c2:(q+3)*dt≤g*dt:=Int.mul_le_mul_of_nonneg_right hc (Int.le_of_lt hd);have c3:(q+3)*dt*R≤g*dt*R:=Int.mul_le_mul_of_nonneg_right c2 (Int.le_of_lt hR);have c4:(dt*R+d0)*(q+1)≤dt*R*(q+1):=by
    rw[Int.add_mul];have:d0*(q+1)≤0:=Int.mul_nonpos_of_nonneg_of_nonpos h0 (by omega);omega
   have c5:(q+3)*dt*R=dt*R*(q+1)+2*(dt*R):=by
    rw[Int.mul_assoc,Int.mul_comm (q+3),show q+3=(q+1)+2 from by omega,Int.mul_add,Int.mul_comm (dt*R) 2]
   have c6:=Int.mul_pos hd hR;omega
end Go.Wd
