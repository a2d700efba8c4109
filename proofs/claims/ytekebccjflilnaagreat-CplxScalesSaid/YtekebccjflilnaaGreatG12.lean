/-
  ConVL, ConVM, ConVU, ConVB, ConVC, ConVD, ConVE
-/
import Derived.Test.YtekebccjflilnaaGreatG11
namespace Go.Proofs.YtekebccjflilnaaGreat
open Go.Proofs.Tryz
open Go.IntKind
open Go.KRun Go.Nt
set_option maxRecDepth 100000
set_option linter.unusedVariables false
def paP (F:Func):List Code:=[ZB (Zv F),ZB (Z5 (Zv F)),ZB (Z5 (Z5 (Zv F))),ZB (Z5 (Z5 (Z5 (Zv F))))]
def paS (F:Func):Code:=Z5 (Z5 (Z5 (Z5 (Zv F))))
def paB (F:Func):Code:=ZB (paS F)
def paL (F:Func):Code:=cIn (cIn (Z5 (paB F)))
def paE (F:Func):Code:=Z5 (paS F)
def paH (F:Func):Code:=ZB (paL F)
def paX (F:Func):Code:=cIn (ZB (Z5 (paL F)))
def paI (F:Func):Code:=Z5 (Z5 (paL F))
def x7 (F:Func):Code:=ZB (paX F)
def x8 (F:Func):Code:=ZB (Z5 (paX F))
def x9 (F:Func):Code:=ZB (Z5 (Z5 (paX F)))
def x10 (F:Func):Code:=ZB (Z5 (Z5 (Z5 (paX F))))
def x11 (F:Func):Code:=ZB (Z5 (Z5 (Z5 (Z5 (paX F)))))
def xT (F:Func):Code:=Z5 (Z5 (Z5 (Z5 (Z5 (paX F)))))
def yL (F:Func):Code:=cIn (cIn (ZB (xT F)))
def yH (F:Func):Code:=ZB (yL F)
def yB (F:Func):Code:=cIn (Z5 (yL F))
def xE (F:Func):Code:=Z5 (xT F)
def hcP:Hc:=Zb5 77 Z0B (Zb5 75 ZlD (Zb5 78 Zo7 (Zb5 76 gAt (Zb5 74 Zh8 hcN))))
def pFr (o n c o' n' c' z:Nat) (r:Value) (i:Int) (v10 v11:Value):List Value:=[sl 0 o n c,sl 1 o' n' c',undef,undef,Zn,Zn,r,sl 2 0 z z,.int .i64 n',.int .i64 i,v10,v11]
def hB3 (wq lb la:List Value):Hp:=⟨3,[(wq,tU),(lb,tR),(la,tR)]⟩
def hB4 (wr wq lb la:List Value):Hp:=⟨4,[(wr,tU),(wq,tU),(lb,tR),(la,tR)]⟩
def hB5 (wp wr wq lb la:List Value):Hp:=⟨5,[(wp,tU),(wr,tU),(wq,tU),(lb,tR),(la,tR)]⟩
theorem Zxb:HcOk hcP:=ZA func77 rfl ZsN (ZA func75 rfl ZeU (ZA func78 rfl ZhF (ZA func76 rfl Zqq (ZA func74 rfl ZfJ ZfI))))
theorem Zta:f43.body=some (Zaz (paP f43) (.seq (.seq (ZB (paB f43)) (.block 0 (.loop (paL f43)))) (paE f43))):=by kernel_rfl
theorem ZlM:paL f43= .seq (paH f43) (.seq (.block 1 (paX f43)) (paI f43)):=by kernel_rfl
theorem Z2S:paX f43= .seq (x7 f43) (.seq (x8 f43) (.seq (x9 f43) (.seq (x10 f43) (.seq (x11 f43) (.seq (.block 2 (.loop (yL f43))) (xE f43)))))):=by kernel_rfl
theorem Z2T:yL f43= .seq (yH f43) (.block 3 (yB f43)):=by kernel_rfl
def aP (b o:Nat):Option Addr:=some ⟨b,o,none⟩
def inP (i:Int) (n:Nat):Bool×Bool:=(decide (0≤i∧i<(n:Int)),true)
def ceP (l:List Value) (o:Nat) (i x:Int):Bool×Bool:=(ZC (l[o+i.toNat*1]?) (.int .u32 x),true)
def tR3 (R:List Int) (n':Nat):Int:=u64.wrap (u64.wrap (u64.wrap (u64.wrap (atN R n')*2^min (Int.toNat 32) 64)+u64.wrap (u64.wrap (atN R (i64.wrap ((n':Int)-1)))*2^min (Int.toNat 16) 64))+u64.wrap (atN R (i64.wrap ((n':Int)-2))))
def tB2 (x:Int) (L:List Int) (n':Nat):Int:=u64.wrap (u64.wrap (u64.wrap x*2^min (Int.toNat 16) 64)+u64.wrap (atN L (i64.wrap ((n':Int)-2))))
def Z0K (q:Int):Int:=if 65535<q then 65535 else q
theorem Zxc (o n c o' n' c':Nat) (la lb:List Value):Zm (evL (Zp prog Zh Zo hcP) 200 (paP f43) ([sl 0 o n c,sl 1 o' n' c']++List.replicate 93 undef,⟨2,[(lb,tR),(la,tR)]⟩,[at_]) ⟨[],[],[]⟩) 12 83 none [sl 0 o n c,sl 1 o' n' c',undef,undef,Zn,Zn,Zn,sl 2 0 (n:Int).toNat (n:Int).toNat,.int .i64 n',undef,undef,undef] (hB3 (List.replicate (n:Int).toNat (.int .u32 0)) lb la) [(zf 4 (n:Int) (n:Int),true)]:=by and_intros<;>kernel_rfl
theorem Z0L (o n c o' n' c' z:Nat) (r v9 v10 v11:Value) (h:Hp) (g:Nat→Value):Zm (evC (Zp prog Zh Zo hcP) 200 false (ZB (paB f43)) ([sl 0 o n c,sl 1 o' n' c',undef,undef,Zn,Zn,r,sl 2 0 z z,.int .i64 n',v9,v10,v11]++tl 83 g,h,[]) ⟨[],[],[]⟩) 12 83 none (pFr o n c o' n' c' z r (i64.wrap ((n:Int)-1)) v10 v11) h []:=by and_intros<;>kernel_rfl
theorem Z0M (o n c o' n' c' z:Nat) (r v10 v11:Value) (i:Int) (h:Hp) (g:Nat→Value):Zm (evC (Zp prog Zh Zo hcP) 200 false (paH f43) (pFr o n c o' n' c' z r i v10 v11++tl 83 g,h,[cmp true]) ⟨[],[],[]⟩) 12 83 none (pFr o n c o' n' c' z r i v10 v11) h [(decide (i≥0),true)]:=by and_intros<;>kernel_rfl
theorem Z0N (o n c o' n' c' z:Nat) (r v10 v11:Value) (i:Int) (h:Hp) (g:Nat→Value):Zm (evC (Zp prog Zh Zo hcP) 200 false (paH f43) (pFr o n c o' n' c' z r i v10 v11++tl 83 g,h,[cmp false]) ⟨[],[],[]⟩) 12 83 (some (some 0)) (pFr o n c o' n' c' z r i v10 v11) h [(decide (i≥0),false)]:=by and_intros<;>kernel_rfl
theorem Z0O (o n c o' n' c' z:Nat) (v10 v11:Value) (i d:Int) (wq lb la:List Value) (g:Nat→Value):Zm (evC (Zp prog Zh Zo hcP) 200 false (x7 f43) (pFr o n c o' n' c' z Zn i v10 v11++tl 83 g,hB3 wq lb la,[at_,val (.int .u32 d)]) ⟨[],[],[]⟩) 12 83 none (pFr o n c o' n' c' z (sl 3 0 (Z3 (zu [.int .u32 d] 0 1)) (Z3 (zu [.int .u32 d] 0 1))) i v10 v11) (hB4 [.int .u32 d] wq lb la) [(ZaK tU [.int .u32 d] 0 1 1,true),ceP la o i d,inP i n]:=by and_intros<;>kernel_rfl
theorem Z0P (o n c o' n' c' z:Nat) (v10 v11:Value) (i d:Int) (wr wq lb la:List Value) (g:Nat→Value):Zm (evC (Zp prog Zh Zo hcP) 200 false (x7 f43) (pFr o n c o' n' c' z (sl 3 0 0 0) i v10 v11++tl 83 g,hB4 wr wq lb la,[at_,val (.int .u32 d)]) ⟨[],[],[]⟩) 12 83 none (pFr o n c o' n' c' z (sl 4 0 (Z3 (zu [.int .u32 d] 0 1)) (Z3 (zu [.int .u32 d] 0 1))) i v10 v11) (hB5 [.int .u32 d] wr wq lb la) [(ZaK tU [.int .u32 d] 0 1 1,true),ceP la o i d,inP i n]:=by and_intros<;>kernel_rfl
theorem Z0Q (o n c o' n' c' z k:Nat) (v10 v11:Value) (i d:Int) (wr wq lb la:List Value) (g:Nat→Value):Zm (evC (Zp prog Zh Zo hcP) 200 false (x7 f43) (pFr o n c o' n' c' z (sl 3 0 k k) i v10 v11++tl 83 g,hB4 wr wq lb la,[at_,val (.int .u32 d),num 0]) ⟨[],[],[]⟩) 12 83 none (pFr o n c o' n' c' z (sl 5 0 (Z3 (zu ([.int .u32 d]++List.take k (List.drop 0 wr)) 0 (1+k))) (Z3 (zu ([.int .u32 d]++List.take k (List.drop 0 wr)) 0 (1+k)))) i v10 v11) ⟨6,[(([.int .u32 d]++List.take k (List.drop 0 wr)),tU),([.int .u32 d],tU),(wr,tU),(wq,tU),(lb,tR),(la,tR)]⟩ [(ZaK tU ([.int .u32 d]++List.take k (List.drop 0 wr)) 0 (1+k) grown,true),(Zc7 ([.int .u32 d],tU) (wr,tU) 1 1 0 k,true),ceP la o i d,inP i n]:=by and_intros<;>kernel_rfl
theorem Z0R (o n c o' n' c' z k:Nat) (v10 v11:Value) (i:Int) (wr wq lb la:List Value) (g:Nat→Value):Zm (evC (Zp prog Zh Zo hcP) 200 false (x8 f43) (pFr o n c o' n' c' z (sl 3 0 k k) i v10 v11++tl 83 g,hB4 wr wq lb la,[cmp true]) ⟨[],[],[]⟩) 12 83 (some (some 1)) (pFr o n c o' n' c' z (sl 3 0 k k) i v10 v11) (hB4 wr wq lb la) [(decide (Zax (vO (hB4 wr wq lb la) (aP 3 0) k) (vO (hB4 wr wq lb la) (aP 1 o') n')<0),true),(Z6 (hB4 wr wq lb la) (aP 3 0) (aP 1 o') k k n' c',true)]:=by and_intros<;>kernel_rfl
theorem Z0S (o n c o' n' c' z k:Nat) (v10 v11:Value) (i:Int) (wr wq lb la:List Value) (g:Nat→Value):Zm (evC (Zp prog Zh Zo hcP) 200 false (x8 f43) (pFr o n c o' n' c' z (sl 3 0 k k) i v10 v11++tl 83 g,hB4 wr wq lb la,[cmp false]) ⟨[],[],[]⟩) 12 83 none (pFr o n c o' n' c' z (sl 3 0 k k) i v10 v11) (hB4 wr wq lb la) [(decide (Zax (vO (hB4 wr wq lb la) (aP 3 0) k) (vO (hB4 wr wq lb la) (aP 1 o') n')<0),false),(Z6 (hB4 wr wq lb la) (aP 3 0) (aP 1 o') k k n' c',true)]:=by and_intros<;>kernel_rfl
theorem Z2U (o n c o' n' c' z:Nat) (r v10 v11:Value) (i:Int) (h:Hp) (g:Nat→Value):Zm (evC (Zp prog Zh Zo hcP) 200 false (paI f43) (pFr o n c o' n' c' z r i v10 v11++tl 83 g,h,[]) ⟨[],[],[]⟩) 12 83 none (pFr o n c o' n' c' z r (i64.wrap (i-1)) v10 v11) h []:=by and_intros<;>kernel_rfl
theorem Z2V (o n c o' n' c' z k:Nat) (v10 v11:Value) (i:Int) (wr wq lb la:List Value) (g:Nat→Value):Zm (evC (Zp prog Zh Zo hcP) 200 false (x9 f43) (pFr o n c o' n' c' z (sl 3 0 k k) i v10 v11++tl 83 g,hB4 wr wq lb la,[]) ⟨[],[],[]⟩) 12 83 none (pFr o n c o' n' c' z (sl 3 0 k k) i (.int .u64 (tR3 (Zu (hB4 wr wq lb la) (aP 3 0) k) n')) v11) (hB4 wr wq lb la) [(zS (hB4 wr wq lb la) (aP 3 0) k k,true),(decide ((16:Int)<0),false),(zS (hB4 wr wq lb la) (aP 3 0) k k,true),(decide ((32:Int)<0),false),(zS (hB4 wr wq lb la) (aP 3 0) k k,true)]:=by and_intros<;>kernel_rfl
theorem Z0T (o n c o' n' c' z k:Nat) (v11:Value) (i t x q:Int) (wr wq lb la:List Value) (g:Nat→Value):Zm (evC (Zp prog Zh Zo hcP) 200 false (x10 f43) (pFr o n c o' n' c' z (sl 3 0 k k) i (.int .u64 t) v11++tl 83 g,hB4 wr wq lb la,[at_,val (.int .u32 x),num q]) ⟨[],[],[]⟩) 12 83 none (pFr o n c o' n' c' z (sl 3 0 k k) i (.int .u64 t) (.int .u64 (Z0K q))) (hB4 wr wq lb la) [(decide ((tB2 x (Zu (hB4 wr wq lb la) (aP 1 o') n') n')=0),false),(decide (u64.wrap (t.tdiv (tB2 x (Zu (hB4 wr wq lb la) (aP 1 o') n') n'))=q),true),(zS (hB4 wr wq lb la) (aP 1 o') n' c',true),(decide ((16:Int)<0),false),ceP lb o' (i64.wrap ((n':Int)-1)) x,inP (i64.wrap ((n':Int)-1)) n']:=by and_intros<;>kernel_rfl
def pV (h:Hp) (o' n':Nat) (e:Int):Nat:=vO h (aP 1 o') n'*(u32.wrap e).toNat+Int.toNat 0
theorem Z0U (o n c o' n' c' z k:Nat) (v10:Value) (i e:Int) (wr wq lb la:List Value) (g:Nat→Value):Zm (evC (Zp prog Zh Zo hcP) 200 false (x11 f43) (pFr o n c o' n' c' z (sl 3 0 k k) i v10 (.int .u64 e)++tl 83 g,hB4 wr wq lb la,[cmp true]) ⟨[],[],[]⟩) 13 82 none (pFr o n c o' n' c' z (sl 3 0 k k) i v10 (.int .u64 e)++[sl 4 0 (d16 (pV (hB4 wr wq lb la) o' n' e)).length (d16 (pV (hB4 wr wq lb la) o' n' e)).length]) (hB5 (wU (d16 (pV (hB4 wr wq lb la) o' n' e))) wr wq lb la) [(ZiF (hB4 wr wq lb la) (aP 1 o') n' c' (u32.wrap e) 0,true),(decide (0<n'∨(0:Int)<0),true)]:=by and_intros<;>kernel_rfl
theorem Z0V (o n c o' n' c' z k j:Nat) (v10:Value) (i e:Int) (wp wr wq lb la:List Value) (g:Nat→Value):Zm (evC (Zp prog Zh Zo hcP) 200 false (yH f43) (pFr o n c o' n' c' z (sl 3 0 k k) i v10 (.int .u64 e)++[sl 4 0 j j]++tl 82 g,hB5 wp wr wq lb la,[cmp true]) ⟨[],[],[]⟩) 13 82 none (pFr o n c o' n' c' z (sl 3 0 k k) i v10 (.int .u64 e)++[sl 4 0 j j]) (hB5 wp wr wq lb la) [(decide (Zax (vO (hB5 wp wr wq lb la) (aP 4 0) j) (vO (hB5 wp wr wq lb la) (aP 3 0) k)>0),true),(Z6 (hB5 wp wr wq lb la) (aP 4 0) (aP 3 0) j j k k,true)]:=by and_intros<;>kernel_rfl
theorem Z0W (o n c o' n' c' z k j:Nat) (v10:Value) (i e:Int) (wp wr wq lb la:List Value) (g:Nat→Value):Zm (evC (Zp prog Zh Zo hcP) 200 false (yH f43) (pFr o n c o' n' c' z (sl 3 0 k k) i v10 (.int .u64 e)++[sl 4 0 j j]++tl 82 g,hB5 wp wr wq lb la,[cmp false]) ⟨[],[],[]⟩) 13 82 (some (some 2)) (pFr o n c o' n' c' z (sl 3 0 k k) i v10 (.int .u64 e)++[sl 4 0 j j]) (hB5 wp wr wq lb la) [(decide (Zax (vO (hB5 wp wr wq lb la) (aP 4 0) j) (vO (hB5 wp wr wq lb la) (aP 3 0) k)>0),false),(Z6 (hB5 wp wr wq lb la) (aP 4 0) (aP 3 0) j j k k,true)]:=by and_intros<;>kernel_rfl
theorem Z0X (o n c o' n' c' z k j:Nat) (v10:Value) (i e:Int) (wp wr wq lb la:List Value) (g:Nat→Value):Zm (evC (Zp prog Zh Zo hcP) 200 false (yB f43) (pFr o n c o' n' c' z (sl 3 0 k k) i v10 (.int .u64 e)++[sl 4 0 j j]++tl 82 g,hB5 wp wr wq lb la,[cmp true]) ⟨[],[],[]⟩) 13 82 none (pFr o n c o' n' c' z (sl 3 0 k k) i v10 (.int .u64 (u64.wrap (e-1)))++[sl 5 0 (d16 (vO (hB5 wp wr wq lb la) (aP 4 0) j-vO (hB5 wp wr wq lb la) (aP 1 o') n')).length (d16 (vO (hB5 wp wr wq lb la) (aP 4 0) j-vO (hB5 wp wr wq lb la) (aP 1 o') n')).length]) ⟨6,[(wU (d16 (vO (hB5 wp wr wq lb la) (aP 4 0) j-vO (hB5 wp wr wq lb la) (aP 1 o') n')),tU),(wp,tU),(wr,tU),(wq,tU),(lb,tR),(la,tR)]⟩ [(Z6 (hB5 wp wr wq lb la) (aP 4 0) (aP 1 o') j j n' c' && Nat.ble (vO (hB5 wp wr wq lb la) (aP 1 o') n') (vO (hB5 wp wr wq lb la) (aP 4 0) j),true),(decide (0<j),true)]:=by and_intros<;>kernel_rfl
theorem Z2W (o n c o' n' c' z k j:Nat) (v10:Value) (i e:Int) (wp wr wq lb la:List Value) (g:Nat→Value):Zm (evC (Zp prog Zh Zo hcP) 200 false (xE f43) (pFr o n c o' n' c' z (sl 3 0 k k) i v10 (.int .u64 e)++[sl 4 0 j j]++tl 82 g,hB5 wp wr wq lb la,[cmp true,at_,at_]) ⟨[],[],[]⟩) 12 83 none (pFr o n c o' n' c' z (sl 5 0 (d16 (vO (hB5 wp wr wq lb la) (aP 3 0) k-vO (hB5 wp wr wq lb la) (aP 4 0) j)).length (d16 (vO (hB5 wp wr wq lb la) (aP 3 0) k-vO (hB5 wp wr wq lb la) (aP 4 0) j)).length) i v10 (.int .u64 e)) ⟨6,[(wU (d16 (vO (hB5 wp wr wq lb la) (aP 3 0) k-vO (hB5 wp wr wq lb la) (aP 4 0) j)),tU),(wp,tU),(wr,tU),(wq.set (0+i.toNat*1) (.int .u32 (u32.wrap e)),tU),(lb,tR),(la,tR)]⟩ [(decide (0+i.toNat*1<wq.length),true),inP i z,(Z6 (hB5 wp wr wq lb la) (aP 3 0) (aP 4 0) k k j j && Nat.ble (vO (hB5 wp wr wq lb la) (aP 4 0) j) (vO (hB5 wp wr wq lb la) (aP 3 0) k),true),(decide (0<k),true)]:=by and_intros<;>kernel_rfl
theorem Zxd (o n c o' n' c' z k:Nat) (v9 v10 v11:Value) (wr wq lb la:List Value) (g:Nat→Value):Zm (evC (Zp prog Zh Zo hcP) 200 false (paE f43) ([sl 0 o n c,sl 1 o' n' c',undef,undef,Zn,Zn,sl 3 0 k k,sl 2 0 z z,.int .i64 n',v9,v10,v11]++tl 83 g,hB4 wr wq lb la,[]) ⟨[],[],[]⟩) 6 89 (some none) [sl 0 o n c,sl 1 o' n' c',undef,undef,sl 2 0 (Z3 (zu wq 0 z)) (Z3 (zu wq 0 z)),sl 3 0 k k] (hB4 wr wq lb la) [(ZaK tU wq 0 z z,true)]:=by and_intros<;>kernel_rfl
theorem RunsW.next {T:Tab}{c1 c2:Code}{x:Lf}{front:List Value}{n:Nat}{h:Hp}{P:Ex→Lf→Prop}(h1:RunsW T c1 x fun e y=>e=none∧(∃ g,y.1=front++tl n g)∧y.2.1=h) (h2:∀ g s,RunsW T c2 (front++tl n g,h,s) P):RunsW T (.seq c1 c2) x P:=by
 refine RunsW.seq h1 (fun y hy=> ?_) (fun e y hy=>by cases hy.1);obtain⟨_,⟨g,e1⟩,e2⟩:=hy;obtain⟨t,hh,s⟩:=y;simp only at e1 e2;subst e1 e2;exact h2 g s
theorem Zbw {h:Hp}{b A:Nat}{ty:TypeId}(hb:h.blk? b=some (wU (d16 A),ty)):Zu h (aP b 0) (d16 A).length=d16 A:=by
 unfold Zu aP;simp only[hb];exact ZaE _
theorem ZoN {h:Hp}{b A:Nat}{ty:TypeId}(hb:h.blk? b=some (wU (d16 A),ty)):vO h (aP b 0) (d16 A).length=A:=by
 unfold vO;rw[Zbw hb];exact Zk6 (by omega) A
theorem ZlN (A:Nat):∀ x∈d16 A,0≤x∧x<4294967296:=fun x hx=>⟨(ZaG A x hx).1,by have:=(ZaG A x hx).2;omega⟩
theorem ZyZ {n:Nat}(h:n<1000000000):Zd6 0 n n=true:=by
 unfold Zd6;have:ZW n=true:=by unfold ZW;exact Zk.2 (by have:ZV=4611686018427387904:=rfl;omega)
 rw[this,Nat.ble_eq_true_of_le (Nat.le_refl n)];rfl
theorem ZfN {h:Hp}{b A:Nat}(hb:h.blk? b=some (wU (d16 A),tU)) (hl:(d16 A).length<1000000000):zS h (aP b 0) (d16 A).length (d16 A).length=true:=by
 unfold zS aP;simp only[hb];rw[zY (ZlN A) (by omega) (ZyZ hl),List.all_eq_true.2 (ZP _)];rfl
theorem ZcW {h:Hp}{p q:Option Addr}{n c n' c':Nat}(h1:zS h p n c=true) (h2:zS h q n' c'=true) (h3:∀ x∈Zu h p n,Dg 65536 x) (h4:∀ x∈Zu h q n',Dg 65536 x) (h5:max n n'+2<1073741824):Z6 h p q n c n' c'=true:=by
 unfold Z6;rw[h1,h2,ZaZ h3,ZaZ h4,Zk.2 h5];rfl
theorem Zch {A k:Nat}(h:A<65536^k):(d16 A).length≤k:=Zd0 (by omega) k A h
theorem ZhI (V:Nat) (i:Int):atN (d16 V) i=if 0≤i then ((V/65536^i.toNat % 65536:Nat):Int) else 0:=by
 unfold atN;split
 ·have h1:=Zg0 i.toNat V;have h2:=Zd7 (ZaG V) i.toNat;have h3:((d16 V).getD i.toNat 0).toNat=V/65536^i.toNat % 65536:=h1;have:=h2.1;omega
 ·rfl
theorem w64 {n:Int}(h0:0≤n) (h1:n<18446744073709551616):u64.wrap n=n:=by simp [IntKind.wrap,IntKind.bits,IntKind.signed];omega
theorem Zxe (V n:Nat) (hn:1≤n) (hn2:n<1000000):tR3 (d16 V) n=(ZoM V n:Int):=by
 have e1:i64.wrap ((n:Int)-1)=((n-1:Nat):Int):=by rw[ZL (by omega) (by omega)];omega
 have e2:i64.wrap ((n:Int)-2)=(n:Int)-2:=ZL (by omega) (by omega);have p32:(2:Int)^min (Int.toNat 32) 64=4294967296:=rfl;have p16:(2:Int)^min (Int.toNat 16) 64=65536:=rfl;have m1:=Nat.mod_lt (V/65536^n) (show 0<65536 by omega);have m2:=Nat.mod_lt (V/65536^(n-1)) (show 0<65536 by omega);have m3:=Nat.mod_lt (V/65536^(n-2)) (show 0<65536 by omega);unfold tR3 ZoM;rw[e1,e2,p32,p16,ZhI,ZhI,ZhI,if_pos (by omega),if_pos (by omega),Xg,Xg];by_cases h2:2≤n
 ·have e3:((n:Int)-2).toNat=n-2:=by omega
  rw[if_pos (by omega),if_pos h2,e3];generalize V/65536^n % 65536=a at*;generalize V/65536^(n-1) % 65536=b at*;generalize V/65536^(n-2) % 65536=d at*;rw[w64 (n:=(a:Int)) (by omega) (by omega),w64 (n:=(a:Int)*4294967296) (by omega) (by omega),w64 (n:=(b:Int)) (by omega) (by omega),w64 (n:=(b:Int)*65536) (by omega) (by omega),w64 (n:=(d:Int)) (by omega) (by omega),w64 (n:=(a:Int)*4294967296+(b:Int)*65536) (by omega) (by omega),w64 (by omega) (by omega)];omega
 ·rw[if_neg (by omega),if_neg h2];generalize V/65536^n % 65536=a at*;generalize V/65536^(n-1) % 65536=b at*;rw[w64 (n:=(a:Int)) (by omega) (by omega),w64 (n:=(a:Int)*4294967296) (by omega) (by omega),w64 (n:=(b:Int)) (by omega) (by omega),w64 (n:=(b:Int)*65536) (by omega) (by omega),w64 (n:=(0:Int)) (by omega) (by omega),w64 (n:=(a:Int)*4294967296+(b:Int)*65536) (by omega) (by omega),w64 (by omega) (by omega)];omega
theorem Zxf {L:List Int}(hC:Zap 65536 L) (hn:1≤L.length) (hn2:L.length<1000000):tB2 (L.getD (L.length-1) 0) L L.length=(ZmA (vb 65536 L) L.length:Int):=by
 have e2:i64.wrap ((L.length:Int)-2)=(L.length:Int)-2:=ZL (by omega) (by omega);have p16:(2:Int)^min (Int.toNat 16) 64=65536:=rfl;obtain⟨B,hB⟩:∃ B,B=vb 65536 L:=⟨_,rfl⟩;have eL:L=d16 B:=by rw[hB];exact (Zk7 (by omega) hC).symm
 have ex:L.getD (L.length-1) 0=((B/65536^(L.length-1) % 65536:Nat):Int):=by
  have h1:=Zg0 (L.length-1) B;have h2:=(Zd7 hC.1 (L.length-1)).1;have h3:(L.getD (L.length-1) 0).toNat=B/65536^(L.length-1) % 65536:=by
   rw[← h1];show (L.getD _ 0).toNat=((d16 B).getD _ 0).toNat;rw[← eL]
  omega
 have ea:atN L ((L.length:Int)-2)=if 0≤(L.length:Int)-2 then ((B/65536^((L.length:Int)-2).toNat % 65536:Nat):Int) else 0:=by
  have:=ZhI B ((L.length:Int)-2);rw[← eL] at this;exact this
 have m2:=Nat.mod_lt (B/65536^(L.length-1)) (show 0<65536 by omega);have m3:=Nat.mod_lt (B/65536^(L.length-2)) (show 0<65536 by omega);unfold tB2 ZmA;rw[← hB,e2,p16,ea,ex];by_cases h2:2≤L.length
 ·have e3:((L.length:Int)-2).toNat=L.length-2:=by omega
  rw[if_pos (by omega),if_pos h2,e3];generalize B/65536^(L.length-1) % 65536=b at*;generalize B/65536^(L.length-2) % 65536=d at*;rw[w64 (n:=(b:Int)) (by omega) (by omega),w64 (n:=(b:Int)*65536) (by omega) (by omega),w64 (n:=(d:Int)) (by omega) (by omega),w64 (by omega) (by omega)];omega
 ·rw[if_neg (by omega),if_neg h2];generalize B/65536^(L.length-1) % 65536=b at*;rw[w64 (n:=(b:Int)) (by omega) (by omega),w64 (n:=(b:Int)*65536) (by omega) (by omega),w64 (n:=(0:Int)) (by omega) (by omega),w64 (by omega) (by omega)];omega
structure Two (la lb:List Value) (o o' c':Nat) (A L:List Int):Prop where
 ra:Row la o A
 rb:Row lb o' L
 dA:∀ x∈A,Dg 65536 x
 cL:Zap 65536 L
 n1:1≤L.length
 n2:L.length<1000000
 a1:1≤A.length
 a2:A.length<1000000
 cb:ZaK tR lb o' L.length c'=true
 sb:∀ v∈lb,still v=true
 sa:∀ v∈la,still v=true
 eb:zu lb o' L.length=L
section
variable {la lb : List Value} {o c o' c' : Nat} {A L : List Int}
theorem Two.row (H:Two la lb o o' c' A L) {h:Hp}(hb:h.blk? 1=some (lb,tR)):zS h (aP 1 o') L.length c'=true∧Zu h (aP 1 o') L.length=L∧vO h (aP 1 o') L.length=vb 65536 L:=by
 have e:Zu h (aP 1 o') L.length=L:=by
  unfold Zu aP;simp only[hb];exact H.eb
 refine⟨?_,e,by unfold vO;rw[e]⟩;unfold zS aP;simp only[hb];rw[H.cb,List.all_eq_true.2 H.sb];rfl
theorem Two.bnd (H:Two la lb o o' c' A L):65536^(L.length-1)≤vb 65536 L∧vb 65536 L<65536^L.length∧0<vb 65536 L:=by
 have h1:=Zxa H.cL H.n1;have h2:=Zcu (b:=65536) (by omega) L H.cL.1;have:0<65536^(L.length-1):=Nat.pow_pos (by omega);exact⟨h1,h2,by omega⟩
theorem Zbb:TabOk (Zp prog Zh Zo hcP):=Zg Zd Zxb
theorem ZoO (V:Nat) {d:Int}(hd:Dg 65536 d):Z3 (d::d16 V)=(d16 (d.toNat+65536*V)).length∧wU (d::d16 V)=wU (d16 (d.toNat+65536*V))++wU ((d::d16 V).drop (Z3 (d::d16 V))):=by
 have hD:∀ x∈d::d16 V,Dg 65536 x:=fun x hx=>by
  rcases List.mem_cons.1 hx with rfl | hx
  ·exact hd
  ·exact ZaG V x hx
 have ev:vb 65536 (d::d16 V)=d.toNat+65536*V:=by
  simp only[vb];rw[show vb 65536 (d16 V)=V from Zk6 (by omega) V]
 have h1:=Zad (b:=65536) (by omega) hD;have h2:=zj (b:=65536) (by omega) _ hD;rw[ev] at h1 h2;refine⟨h1,?_⟩;rw[← ZO];congr 1;show _=db 65536 _++_;rw[← h2,List.take_append_drop]
theorem Zxg {d:Int}(hd:Dg 65536 d):∀ x∈d::([]:List Int),0≤x∧x<4294967296:=fun x hx=>by
 rw[List.mem_singleton.1 hx];exact⟨hd.1,by have:=hd.2;omega⟩
theorem ZoP {wq:List Value}(hq:∀ v∈wq,still v=true) (hb:∀ v∈lb,still v=true) (ha:∀ v∈la,still v=true) {h:Hp}(h0:h.blk? 0=some (la,tR)) (h1:h.blk? 1=some (lb,tR)) (h2:h.blk? 2=some (wq,tU)):∀ i x,(⟨3,[(wq,tU),(lb,tR),(la,tR)]⟩:Hp).blk? i=some x→h.blk? i=some x∧∀ v∈x.1,still v=true:=by
 intro i x hx;have hi:i<3:=Hp.blk_lt hx;have h3:i=0∨i=1∨i=2:=by omega
 rcases h3 with rfl | rfl | rfl
 ·have:(la,tR)=x:=Option.some.inj hx;subst this;exact⟨h0,ha⟩
 ·have:(lb,tR)=x:=Option.some.inj hx;subst this;exact⟨h1,hb⟩
 ·have:(wq,tU)=x:=Option.some.inj hx;subst this;exact⟨h2,hq⟩
theorem Zqt {n n' z t:Nat}{i:Int}{v10 v11:Value}(k1:KRun.lt 4 v10=true) (k2:KRun.lt 4 v11=true):∀ v∈pFr o n c o' n' c' z (sl 3 0 t t) i v10 v11,KRun.lt 4 v=true:=by
 intro v hv;simp only[pFr,List.mem_cons,List.not_mem_nil,or_false] at hv;rcases hv with rfl | rfl | rfl | rfl | rfl | rfl | rfl | rfl | rfl | rfl | rfl | rfl
 ·rfl
 ·rfl
 ·rfl
 ·rfl
 ·rfl
 ·rfl
 ·rfl
 ·rfl
 ·rfl
 ·rfl
 ·exact k1
 ·exact k2
end
def hN2 (lo la:List Value):Hp:=⟨2,[(lo,tU),(la,tR)]⟩
def mNr (o n c z:Nat) (i v7 v8:Value):List Value:=[sl 0 o n c,Zn,undef,undef,Zn,sl 1 0 z z,i,v7,v8]
def zU (n:Nat):List Value:=List.replicate n (.int .u32 0)
theorem Zxh (n:Nat):zU n=wU (List.replicate n 0):=by unfold zU wU;simp
theorem ZhJ:∀ n:Nat,Z3 (List.replicate n 0)=0
 | 0=>rfl
 | n+1=>by
  rw[List.replicate_succ];simp only[Z3];rw[ZhJ n];rfl
theorem Zqu (n:Nat):Z3 (zu (zU n) 0 n)=0:=by
 have h:=ZaE (List.replicate n 0);rw[List.length_replicate] at h;rw[Zxh,h,ZhJ]
theorem Zqv {n:Nat}(h:n<1000000):ZaK tU (zU n) 0 n n=true:=by
 have:=zY (L:=List.replicate n 0) (fun x hx=>by rw[List.eq_of_mem_replicate hx];omega) (by simp;omega) (c:=n) (by simp only[List.length_replicate];exact ZyZ (by omega));rw[List.length_replicate] at this;rw[Zxh];exact this
def zL (n:Nat):Int:=i64.wrap ((n:Int)+((0:Nat):Int))
def zR (n:Nat):Int:=i64.wrap (((0:Nat):Int)+(n:Int))
theorem Z0Y {n:Nat}(h:n<1000000):zL n=(n:Int):=by unfold zL;rw[ZL (by omega) (by omega)];omega
theorem Z0Z {n:Nat}(h:n<1000000):zR n=(n:Int):=by unfold zR;rw[ZL (by omega) (by omega)];omega
theorem Zxi (o n c:Nat) (la:List Value):Zm (evL (Zp prog Zh Zo hcV) 200 (Zu7 f69) ([sl 0 o n c,Zn]++List.replicate 66 undef,⟨1,[(la,tR)]⟩,[at_]) ⟨[],[],[]⟩) 6 62 none [sl 0 o n c,Zn,undef,undef,Zn,sl 1 0 (zL n).toNat (zL n).toNat] (hN2 (zU (zL n).toNat) la) [(zf 4 (zL n) (zL n),true)]:=by and_intros<;>kernel_rfl
theorem Z1a (o n c z:Nat) (i:Int) (v7 v8:Value) (lo la:List Value) (g:Nat→Value):Zm (evC (Zp prog Zh Zo hcV) 200 false (muO f69) (mNr o n c z (.int .i64 i) v7 v8++tl 59 g,hN2 lo la,[cmp true,cmp false,at_,at_]) ⟨[],[],[]⟩) 9 59 none (mNr o n c z (.int .i64 (i64.wrap (i+1))) (.int .u64 0) (.int .i64 0)) (hN2 (lo.set (0+(ijM i (0:Nat)).toNat*1) (.int .u32 0)) la) [stM lo (ijM i (0:Nat)),inM (ijM i (0:Nat)) z,(decide ((0:Int)<((0:Nat):Int)),false),(decide (i<(n:Int)),true)]:=by and_intros<;>kernel_rfl
theorem Zxj (o n c z:Nat) (i:Int) (v7 v8:Value) (lo la:List Value) (g:Nat→Value):Zm (evC (Zp prog Zh Zo hcV) 200 false (muO f69) (mNr o n c z (.int .i64 i) v7 v8++tl 59 g,hN2 lo la,[cmp false]) ⟨[],[],[]⟩) 9 59 (some (some 0)) (mNr o n c z (.int .i64 i) v7 v8) (hN2 lo la) [(decide (i<(n:Int)),false)]:=by and_intros<;>kernel_rfl
theorem Zxk (o n c z:Nat) (i v7 v8:Value) (lo la:List Value) (g:Nat→Value):Zm (evC (Zp prog Zh Zo hcV) 200 false (muE f69) (mNr o n c z i v7 v8++tl 59 g,hN2 lo la,[]) ⟨[],[],[]⟩) 5 63 (some none) [sl 0 o n c,Zn,undef,undef,sl 1 0 (Z3 (zu lo 0 z)) (Z3 (zu lo 0 z))] (hN2 lo la) [(ZaK tU lo 0 z z,true)]:=by and_intros<;>kernel_rfl
theorem Z2X (o n c:Nat) (la:List Value):Zm (evC (Zp prog Zh Zo hcV) 200 false (Zv f69) ([Zn,sl 0 o n c]++List.replicate 66 undef,⟨1,[(la,tR)]⟩,[at_,cmp false]) ⟨[],[],[]⟩) 5 63 (some none) [Zn,sl 0 o n c,undef,undef,sl 1 0 (Z3 (zu (zU (zR n).toNat) 0 (zR n).toNat)) (Z3 (zu (zU (zR n).toNat) 0 (zR n).toNat))] (hN2 (zU (zR n).toNat) la) [(ZaK tU (zU (zR n).toNat) 0 (zR n).toNat (zR n).toNat,true),(decide ((0:Int)<((0:Nat):Int)),false),(zf 4 (zR n) (zR n),true)]:=by and_intros<;>kernel_rfl
theorem Z1b:Zm (evC (Zp prog Zh Zo hcV) 200 false (Zv f69) ([Zn,Zn]++List.replicate 66 undef,⟨0,[]⟩,[at_,cmp false]) ⟨[],[],[]⟩) 5 63 (some none) [Zn,Zn,undef,undef,sl 0 0 0 0] ⟨1,[([],tU)]⟩ [(ZaK tU [] 0 0 0,true),(decide ((0:Int)<((0:Nat):Int)),false),(true,true)]:=by and_intros<;>kernel_rfl
theorem Zek:f69.body=some (Zv f69):=by kernel_rfl
theorem Ztb {la:List Value}{o n c:Nat}(hn:n<1000000):
  Runs (Zp prog Zh Zo hcV) (Zaz (Zu7 f69) (.seq (.seq (ZB (muB f69)) (.block 0 (.loop (muO f69)))) (muE f69))) ([sl 0 o n c,Zn]++List.replicate 66 undef,⟨1,[(la,tR)]⟩,[]) fun e y=>(e=none∨e=some none)∧Zau prog f69 y.1 y.2.1=some (sl 1 0 0 0)∧y.2.1.blk? 1=some (zU n,tU):=by
 have hT:=Zg Zd Zs;have g0:=Zxi o n c la;rw[Z0Y hn,Xg] at g0;refine zl hT g0 (Z2 (by unfold zf;exact Xa (by omega))) fun g=> ?_;refine Runs.seq (P1:=fun e' y=>e'=none∧∃ (i v7 v8:Value) (g:Nat→Value),y.1=mNr o n c n i v7 v8++tl 59 g∧y.2.1=hN2 (zU n) la) ?_ ?_ (fun e y he=>by cases he.1)
 ·refine Runs.next (Zj hT (ZwQ (sl 0 o n c) Zn (sl 1 0 n n) _ g) (fun _ h=>by cases h)) fun g s=> ?_;refine (Runs.forLoop (R:=fun _=>False) (P:=fun y=>∃ (i v7 v8:Value) (g:Nat→Value),y.1=mNr o n c n i v7 v8++tl 59 g∧y.2.1=hN2 (zU n) la)
   (fun r y=>∃ (k:Nat) (v7 v8:Value) (g:Nat→Value),k+r=n∧y.1=mNr o n c n (.int .i64 (k:Int)) v7 v8++tl 59 g∧y.2.1=hN2 (zU n) la)
   ?_ (n:=n) ⟨0,_,_,g,by omega,rfl,rfl⟩).mono fun e' y he=> ?_
  ·rintro r ⟨t,h',s'⟩ ⟨k,v7,v8,g,hk,ht,hh⟩;simp only at ht hh;subst ht hh;cases r with
   | zero=>
    refine (Zj hT (Zxj o n c n k v7 v8 _ la g) (Z2 (Xb (by omega)))).mono fun e' y he=> ?_;obtain⟨rfl,⟨g1,e2⟩,e3⟩:=he;exact⟨rfl,_,_,_,g1,e2,e3⟩
   | succ r=>
    have ei:ijM (k:Int) (0:Nat)=(k:Int):=by unfold ijM;rw[ZL (by omega) (by omega)];omega
    have g1:=Z1a o n c n k v7 v8 (zU n) la g;rw[ei] at g1;have es:(zU n).set (0+((k:Int)).toNat*1) (.int .u32 0)=zU n:=by
     unfold zU;rw[Xg,Nat.zero_add,Nat.mul_one,List.set_replicate_self]
    rw[es] at g1;refine (Zj hT g1 (Zt (by unfold stM zU;exact Xa (by simp;omega)) (Zt (by unfold inM;exact Xa (by omega)) (Zt (by decide) (Z2 (Xa (by omega))))))).mono fun e' y he=> ?_;obtain⟨rfl,⟨g2,e2⟩,e3⟩:=he;refine⟨r,by omega,k+1,.int .u64 0,.int .i64 0,g2,by omega,?_,e3⟩;rw[e2,ZL (by omega) (by omega)];rfl
  ·match e',he with
   | none,he=>exact⟨rfl,he⟩
   | some none,he=>exact he.elim
   | some (some _),he=>exact he.elim
 ·rintro⟨t,h',s'⟩ ⟨_,i,v7,v8,g,ht,hh⟩;simp only at ht hh;subst ht hh;have g1:=Zxk o n c n i v7 v8 (zU n) la g;rw[Zqu] at g1;refine (Zj hT g1 (Z2 (Zqv hn))).mono fun e' y he=> ?_;obtain⟨rfl,⟨g2,e2⟩,e3⟩:=he;refine⟨.inr rfl,?_,?_⟩
  ·rw[e2,e3];rfl
  ·rw[e3];rfl
def ZlO:Zcl:=fun vals h s=>
 match vals,s with
 | [.slice p n c,.slice q n' c'],.inr (.inl V)::s'=>Zei V.toNat h s' [(decide (vO h p n*vO h q n'=V.toNat),true),(Zqs h p q n c n' c',true)]
 | _,_=>none
theorem Zxl:d16 0=[]:=zx 65536
theorem ZlP:za 69 ZlO:=by
 intro vals h s v h' s' lg hg hl m B w E hv;unfold ZlO at hg;split at hg
 ·rename_i p n c q n' c' V s2;unfold Zei at hg;cases hg;have l1:=Xc (hl _ Xe);have l3:=hl _ (Xd _ Xf);have l3':=l3;simp only[Zqs,Xh] at l3;obtain⟨⟨⟨q1,q2⟩,⟨p1,p2⟩⟩,q4⟩:=l3;have q4:=Zk.1 q4;rcases Z8 q1 with ⟨rfl,rfl,rfl,e0⟩ | ⟨b,o,x,rfl,hx,r1,rs,e0⟩
  ·have hV:V.toNat=0:=by
    rw[← l1];unfold vO;rw[e0];simp [vb]
   rw[hV,Zxl];rcases Z8 p1 with ⟨rfl,rfl,rfl,f0⟩ | ⟨b',o',y,rfl,hy,t1,ts,f0⟩
   ·have r:Runs (Zp prog Zh Zo hcV) (Zv f69) ([Zn,Zn]++List.replicate 66 undef,⟨0,[]⟩,[]) fun e z=>(e=none∨e=some none)∧Zau prog f69 z.1 z.2.1=some (sl 0 0 0 0)∧∃ r,z.2.1.blk? 0=some (wU []++r,tU):=by
     refine (Zj (Zg Zd Zs) Z1b (Zt (by kernel_rfl) (Zt (by decide) (Z2 rfl)))).mono fun e z he=> ?_;obtain⟨rfl,⟨g,e1⟩,e2⟩:=he;exact⟨.inr rfl,by rw[e1,e2];rfl,[],by rw[e2];rfl⟩
    have:=zm (T:=Zp prog Zh Zo hcV) func69 Zek (h0:=⟨0,[]⟩) ⟨rfl,fun b x hx=>by have:b<0:=Hp.blk_lt hx;omega⟩ (vals:=[Zn,Zn]) (fun v hv=>by
     simp only[List.mem_cons,List.not_mem_nil,or_false] at hv;rcases hv with rfl | rfl<;>rfl) (k:=0) (cs:=wU []) (ty:=tU) (Zbu _) (by kernel_rfl) r.w (by rfl) E (s:=fun i=>i) (fun i x hx _=>by have:i<0:=Hp.blk_lt hx;omega)
    exact this
   ·obtain⟨b1,b2,b3,b4,b5,b6,b7⟩:=ZU t1;have g0:=Z2X o' n' c' y.1;rw[Z0Z (by omega),Xg,Zqu] at g0;have r:Runs (Zp prog Zh Zo hcV) (Zv f69) ([Zn,sl 0 o' n' c']++List.replicate 66 undef,⟨1,[(y.1,tR)]⟩,[]) fun e z=>(e=none∨e=some none)∧Zau prog f69 z.1 z.2.1=some (sl 1 0 0 0)∧∃ r,z.2.1.blk? 1=some (wU []++r,tU):=by
     refine (Zj (Zg Zd Zs) g0 (Zt (Zqv (by omega)) (Zt (by decide) (Z2 (by unfold zf;exact Xa (by omega)))))).mono fun e z he=> ?_;obtain⟨rfl,⟨g,e1⟩,e2⟩:=he;exact⟨.inr rfl,by rw[e1,e2];rfl,zU n',by rw[e2];rfl⟩
    have evals:List.map (rn fun _=>b') [Zn,sl 0 o' n' c']=[.slice none 0 0,.slice (some ⟨b',o',none⟩) n' c']:=by simp [rn,rn2,rn1,sl,Zn]
    have:=zm (T:=Zp prog Zh Zo hcV) func69 Zek (ZcH b7) (vals:=[Zn,sl 0 o' n' c']) (fun v hv=>by
     simp only[List.mem_cons,List.not_mem_nil,or_false] at hv;rcases hv with rfl | rfl<;>rfl) (k:=1) (cs:=wU []) (ty:=tU) (Zbu _) (by kernel_rfl) r.w (by rfl) E (s:=fun _=>b') (Zbs hy b5 b6 rfl)
    rw[evals] at this;exact this
  ·rcases Z8 p1 with ⟨rfl,rfl,rfl,f0⟩ | ⟨b',o',y,rfl,hy,t1,ts,f0⟩
   ·have hV:V.toNat=0:=by
     rw[← l1];unfold vO;rw[f0];simp [vb]
    rw[hV,Zxl];obtain⟨b1,b2,b3,b4,b5,b6,b7⟩:=ZU r1;have r:Runs (Zp prog Zh Zo hcV) (Zaz (Zu7 f69) (.seq (.seq (ZB (muB f69)) (.block 0 (.loop (muO f69)))) (muE f69))) ([sl 0 o n c,Zn]++List.replicate 66 undef,⟨1,[(x.1,tR)]⟩,[]) fun e z=>(e=none∨e=some none)∧Zau prog f69 z.1 z.2.1=some (sl 1 0 0 0)∧∃ r,z.2.1.blk? 1=some (wU []++r,tU):=
     (Ztb (by omega)).mono fun e z he=>⟨he.1,he.2.1,zU n,he.2.2⟩
    have evals:List.map (rn fun _=>b) [sl 0 o n c,Zn]=[.slice (some ⟨b,o,none⟩) n c,.slice none 0 0]:=by simp [rn,rn2,rn1,sl,Zn]
    have:=zm (T:=Zp prog Zh Zo hcV) func69 ZfL (ZcH b7) (vals:=[sl 0 o n c,Zn]) (fun v hv=>by
     simp only[List.mem_cons,List.not_mem_nil,or_false] at hv;rcases hv with rfl | rfl<;>rfl) (k:=1) (cs:=wU []) (ty:=tU) (Zbu _) (by kernel_rfl) r.w (by rfl) E (s:=fun _=>b) (Zbs hx b5 b6 rfl)
    rw[evals] at this;exact this
   ·rw[← l1];exact ZhB _ h [] _ _ [] [(Zqs h (some ⟨b,o,none⟩) (some ⟨b',o',none⟩) n c n' c',true)] rfl (Zz l3') m B w E hv
 ·cases hg
end Go.Proofs.YtekebccjflilnaaGreat
namespace Go.Proofs.YtekebccjflilnaaGreat
open Go.Proofs.Tryz
open Go.IntKind
open Go.KRun Go.Nt
set_option maxRecDepth 100000
def f4 (n:Int):List Int:=[u32.wrap (n.tmod 65536),u32.wrap ((u64.wrap (n.tdiv 65536)).tmod 65536),u32.wrap ((u64.wrap (n.tdiv 4294967296)).tmod 65536),u32.wrap (u64.wrap (n.tdiv 281474976710656))]
theorem ZoQ:f45.body=some (Zv f45):=by kernel_rfl
theorem Zxm (n:Int):Zm (evC (Zp prog Zh Zo hcV) 100 false (Zv f45) ([.int .u64 n]++List.replicate 18 undef,⟨0,[]⟩,[cmp true,cmp true,cmp true]) ⟨[],[],[]⟩) 3 16 (some none) [.int .u64 n,undef,sl 0 0 (Z3 (zu (wU (f4 n)) 0 4)) (Z3 (zu (wU (f4 n)) 0 4))] ⟨1,[(wU (f4 n),tU)]⟩ [(ZaK tU (wU (f4 n)) 0 4 4,true),(decide ((65536:Int)=0),false),(decide ((65536:Int)=0),false),(decide ((65536:Int)=0),false)]:=by and_intros<;>kernel_rfl
theorem Zel {n:Int}(h0:0≤n) (h1:n<18446744073709551616):u64.wrap n=n:=by simp [IntKind.wrap,IntKind.bits,IntKind.signed];omega
theorem Zxn {n:Int}(h0:0≤n) (h1:n<18446744073709551616):f4 n=[n % 65536,n/65536 % 65536,n/4294967296 % 65536,n/281474976710656]:=by
 unfold f4;rw[Int.tmod_eq_emod_of_nonneg h0,Int.tdiv_eq_ediv_of_nonneg h0,Int.tdiv_eq_ediv_of_nonneg h0,Int.tdiv_eq_ediv_of_nonneg h0,Zel (n:=n/65536) (by omega) (by omega),Zel (n:=n/4294967296) (by omega) (by omega),Zel (n:=n/281474976710656) (by omega) (by omega),Int.tmod_eq_emod_of_nonneg (by omega),Int.tmod_eq_emod_of_nonneg (by omega),ze (n:=n % 65536) (by omega) (by omega),ze (n:=n/65536 % 65536) (by omega) (by omega),ze (n:=n/4294967296 % 65536) (by omega) (by omega),ze (by omega) (by omega)]
theorem Z1c {n:Int}(h0:0≤n) (h1:n<18446744073709551616):∀ x∈f4 n,Dg 65536 x:=by
 rw[Zxn h0 h1];intro x hx;simp only[List.mem_cons,List.not_mem_nil,or_false] at hx;rcases hx with rfl | rfl | rfl | rfl<;>exact⟨by omega,by omega⟩
theorem Zxo {n:Int}(h0:0≤n) (h1:n<18446744073709551616):vb 65536 (f4 n)=n.toNat:=by
 rw[Zxn h0 h1];simp only[vb];omega
def Zxp:Zcl:=fun vals h s=>
 match vals with
 | [.int .u64 n]=>Zei n.toNat h s [(decide (0≤n∧n<18446744073709551616),true)]
 | _=>none
theorem Zg1:za 45 Zxp:=by
 intro vals h s v h' s' lg hg hl m B w E hv;unfold Zxp at hg;split at hg
 ·rename_i n;unfold Zei at hg;cases hg;have q:=Xc (hl _ Xf);have hd:=Z1c q.1 q.2;have hv4:=Zxo q.1 q.2;have hl4:(f4 n).length=4:=rfl;have ec:zu (wU (f4 n)) 0 4=f4 n:=by
   have:=ZaE (f4 n);rw[hl4] at this;exact this
  have et:Z3 (f4 n)=(d16 n.toNat).length:=by
   rw[Zad (by omega) hd,hv4];rfl
  have hrow:ZaK tU (wU (f4 n)) 0 4 4=true:=by
   have:=zY (L:=f4 n) (fun x hx=>⟨(hd x hx).1,by have:=(hd x hx).2;omega⟩) (by rw[hl4];omega) (c:=4) (by rw[hl4];rfl);rw[hl4] at this;exact this
  have hr:Runs (Zp prog Zh Zo hcV) (Zv f45) ([.int .u64 n]++List.replicate 18 undef,⟨0,[]⟩,[]) fun e z=>(e=none∨e=some none)∧Zau prog f45 z.1 z.2.1=some (sl 0 0 (d16 n.toNat).length (d16 n.toNat).length)∧∃ r,z.2.1.blk? 0=some (wU (d16 n.toNat)++r,tU):=by
   refine (Zj (Zg Zd Zs) (Zxm n) (Zt hrow (Zt rfl (Zt rfl (Z2 rfl))))).mono fun e z he=> ?_;obtain⟨rfl,⟨g,e1⟩,e2⟩:=he;refine⟨.inr rfl,?_,?_⟩
   ·rw[e1,e2,ec,et];rfl
   ·rw[e2];refine⟨wU ((f4 n).drop (Z3 (f4 n))),?_⟩;have e3:wU (d16 n.toNat)++wU ((f4 n).drop (Z3 (f4 n)))=wU (f4 n):=by
     unfold d16;rw[← hv4,← zj (by omega) _ hd,← ZO,List.take_append_drop]
    rw[e3];rfl
  have:=zm (T:=Zp prog Zh Zo hcV) func45 ZoQ (h0:=⟨0,[]⟩) ⟨rfl,fun b x hx=>by have:b<0:=Hp.blk_lt hx;omega⟩ (vals:=[.int .u64 n]) (fun v hv=>by rw[List.mem_singleton.1 hv];rfl) (k:=0) (cs:=wU (d16 n.toNat)) (ty:=tU) (Zbu _) (by kernel_rfl) hr.w (by rfl) E (s:=fun i=>i) (fun i x hx _=>by have:i<0:=Hp.blk_lt hx;omega);exact this
 ·cases hg
def Zu8 (F:Func):List Code:=[ZB (Zv F),ZB (Z5 (Zv F))]
def wR2 (F:Func):Code:=ZB (ZB (Z5 (Z5 (Zv F))))
def wLp (F:Func):Code:=cIn (cIn (Z5 (ZB (Z5 (Z5 (Zv F))))))
def wEn (F:Func):Code:=Z5 (Z5 (Z5 (Zv F)))
def m4 (n:Nat):Int:=i64.wrap ((if (4:Int)<(n:Int) then 4 else (n:Int))-1)
theorem ZlQ:f68.body=some (Zaz (Zu8 f68) (.seq (.seq (wR2 f68) (.block 0 (.loop (wLp f68)))) (wEn f68))):=by kernel_rfl
theorem ZoR (a:Value) (h:Hp):Zm (evL (Zp prog Zh Zo hcV) 100 (Zu8 f68) ([a]++List.replicate 21 undef,h,[]) ⟨[],[],[]⟩) 4 18 none [a,undef,.int .u64 0,.int .u64 0] h []:=by and_intros<;>kernel_rfl
theorem Ztc (p:Option Addr) (n c:Nat) (h:Hp) (g:Nat→Value):Zm (evC (Zp prog Zh Zo hcV) 100 false (wR2 f68) ([.slice p n c,undef,.int .u64 0,.int .u64 0]++tl 18 g,h,[]) ⟨[],[],[]⟩) 5 17 none [.slice p n c,undef,.int .u64 0,.int .u64 0,.int .i64 (m4 n)] h []:=by and_intros<;>kernel_rfl
def lw (y x:Int):Int:=u64.wrap (u64.wrap (65536*y)+u64.wrap x)
theorem Ztd (o n c:Nat) (x y k:Int) (l:List Value) (g:Nat→Value):Zm (evC (Zp prog Zh Zo hcV) 100 false (wLp f68) ([sl 0 o n c,undef,.int .u64 0,.int .u64 y,.int .i64 k]++tl 17 g,⟨1,[(l,tR)]⟩,[cmp true,at_,val (.int .u32 x)]) ⟨[],[],[]⟩) 5 17 none [sl 0 o n c,undef,.int .u64 0,.int .u64 (lw y x),.int .i64 (i64.wrap (k-1))] ⟨1,[(l,tR)]⟩ [(ZC (l[o+k.toNat*1]?) (.int .u32 x),true),(decide (0≤k∧k<n),true),(decide (k≥0),true)]:=by and_intros<;>kernel_rfl
theorem ZoS (a:Value) (y k:Int) (h:Hp) (g:Nat→Value):Zm (evC (Zp prog Zh Zo hcV) 100 false (wLp f68) ([a,undef,.int .u64 0,.int .u64 y,.int .i64 k]++tl 17 g,h,[cmp false]) ⟨[],[],[]⟩) 5 17 (some (some 0)) [a,undef,.int .u64 0,.int .u64 y,.int .i64 k] h [(decide (k≥0),false)]:=by and_intros<;>kernel_rfl
theorem ZoT (a:Value) (y k:Int) (h:Hp) (g:Nat→Value):Zm (evC (Zp prog Zh Zo hcV) 100 false (wEn f68) ([a,undef,.int .u64 0,.int .u64 y,.int .i64 k]++tl 17 g,h,[]) ⟨[],[],[]⟩) 3 19 (some none) [a,undef,.int .u64 y] h []:=by and_intros<;>kernel_rfl
def hiV (L:List Int) (k:Nat):Nat:=vb 65536 ((L.take 4).drop k)
theorem ZoU {L:List Int}{k:Nat}(hk:k<(L.take 4).length):hiV L k=dgN L k+65536*hiV L (k+1):=by
 unfold hiV dgN;rw[List.drop_eq_getElem_cons hk];simp only[vb];congr 2;rw[List.getElem_take];rw[List.length_take] at hk;simp [List.getD,List.getElem?_eq_getElem (show k<L.length by omega)]
theorem Zqw {L:List Int}(hd:∀ x∈L,Dg 65536 x) (k:Nat):hiV L k<65536^(4-k):=by
 have h:=Zcu (b:=65536) (by omega) ((L.take 4).drop k) (fun x hx=>hd x (List.mem_of_mem_take (List.mem_of_mem_drop hx)));have hl:((L.take 4).drop k).length≤4-k:=by simp;omega
 exact Nat.lt_of_lt_of_le h (Nat.pow_le_pow_right (by omega) hl)
theorem ZoV {L:List Int}(hd:∀ x∈L,Dg 65536 x):hiV L 0=vb 65536 L % 18446744073709551616:=by
 have e:L=L.take 4++L.drop 4:=(List.take_append_drop 4 L).symm;have h4:=Zqw hd 0;unfold hiV at*;rw[List.drop_zero] at*;have ev:vb 65536 L=vb 65536 (L.take 4)+65536^(L.take 4).length*vb 65536 (L.drop 4):=by
  conv=>lhs;rw[e]
  exact Zav _ _ _
 rw[ev];have e4:(65536:Nat)^(4-0)=18446744073709551616:=rfl;by_cases hl:L.length≤4
 ·rw[List.drop_of_length_le hl];simp only[vb,Nat.mul_zero,Nat.add_zero];omega
 ·have:(L.take 4).length=4:=by simp;omega
  have e5:(65536:Nat)^4=18446744073709551616:=rfl;rw[this,e5];omega
theorem ZlR {l:List Value}{o c:Nat}{L:List Int}(hR:Row l o L) (hd:∀ x∈L,Dg 65536 x) (hn:L.length<1073741824):
  Runs (Zp prog Zh Zo hcV) (Zaz (Zu8 f68) (.seq (.seq (wR2 f68) (.block 0 (.loop (wLp f68)))) (wEn f68))) ([sl 0 o L.length c]++List.replicate 21 undef,⟨1,[(l,tR)]⟩,[]) fun e z=>(e=none∨e=some none)∧Zau prog f68 z.1 z.2.1=some (.int .u64 ((vb 65536 L % 18446744073709551616:Nat):Int)):=by
 have hm:m4 L.length=(((L.take 4).length:Nat):Int)-1:=by
  unfold m4;rw[List.length_take];split
  ·rw[ZL (by omega) (by omega)];omega
  ·rw[ZL (by omega) (by omega)];omega
 have hz:hiV L (L.take 4).length=0:=by unfold hiV;rw[List.drop_of_length_le (Nat.le_refl _)];rfl
 refine zl (Zg Zd Zs) (ZoR _ _) (fun x hx=>by cases hx) fun g=> ?_;refine Runs.seq (P1:=fun e Y=>match e with | none=>(∃ g,Y.1=[sl 0 o L.length c,undef,.int .u64 0,.int .u64 (hiV L 0:Nat),.int .i64 (-1)]++tl 17 g)∧Y.2.1=⟨1,[(l,tR)]⟩ | some none=>False | some (some _)=>False) (Runs.seq (P1:=fun e Y=>e=none∧(∃ g,Y.1=[sl 0 o L.length c,undef,.int .u64 0,.int .u64 0,.int .i64 (m4 L.length)]++tl 17 g)∧Y.2.1=⟨1,[(l,tR)]⟩) (Zj (Zg Zd Zs) (Ztc _ L.length c _ g) (fun x hx=>by cases hx)) ?_ (fun e y he=>by cases he.1)) ?_ (fun e Y he=>by match e,he with | none,he=>exact he.elim | some id,he=>exact he.elim)
 ·rintro⟨t,h',s⟩ ⟨_,⟨g',ht⟩,hh⟩;simp only at ht hh;subst ht hh;refine Runs.script (s:=[]) (Runs.forLoop (P:=fun Y=>(∃ g,Y.1=[sl 0 o L.length c,undef,.int .u64 0,.int .u64 (hiV L 0:Nat),.int .i64 (-1)]++tl 17 g)∧Y.2.1=⟨1,[(l,tR)]⟩) (R:=fun _=>False)
   (fun k Y=>k≤(L.take 4).length∧(∃ g,Y.1=[sl 0 o L.length c,undef,.int .u64 0,.int .u64 (hiV L k:Nat),.int .i64 ((k:Int)-1)]++tl 17 g)∧Y.2.1=⟨1,[(l,tR)]⟩) ?_ (n:=(L.take 4).length) ⟨Nat.le_refl _,⟨g',by rw[hz,hm];rfl⟩,rfl⟩)
  rintro k ⟨t,h',s⟩ ⟨hk,⟨g,ht⟩,hh⟩;simp only at ht hh;subst ht hh;have hl4:(L.take 4).length≤L.length:=by simp;omega
  have hl5:(L.take 4).length≤4:=by simp;omega
  cases k with
  | zero=>
   refine (Zj (Zg Zd Zs) (ZoS _ _ _ _ g) (Z2 (Xb (by omega)))).mono fun e z hz=> ?_;obtain⟨rfl,⟨g',z1⟩,z2⟩:=hz;exact⟨rfl,⟨g',z1⟩,z2⟩
  | succ k=>
   have hd1:=zn hd k;have hlt:=Zqw hd (k+1);have hs:=ZoU (L:=L) (k:=k) (by omega);have ek:((k+1:Nat):Int)-1=(k:Int):=by omega
   have hp:hiV L (k+1)<281474976710656:=by
    have:65536^(4-(k+1))≤65536^3:=Nat.pow_le_pow_right (by omega) (by omega);have e3:(65536:Nat)^3=281474976710656:=rfl;omega
   rw[ek];refine (Zj (Zg Zd Zs) (Ztd o L.length c (L.getD k 0) _ k l g) (Zt (by rw[Xg,Nat.mul_one,hR.cell (by omega)];simp [ZC]) (Zt (Xa (by omega)) (Z2 (show decide ((k:Int)≥0)=true from Xa (by omega)))))).mono fun e z hz=> ?_;obtain⟨rfl,⟨g',z1⟩,z2⟩:=hz;have e1:lw (hiV L (k+1):Nat) (L.getD k 0)=((hiV L k:Nat):Int):=by
    unfold lw;rw[← hd1.2,Zel (n:=65536*((hiV L (k+1):Nat):Int)) (by omega) (by omega),Zel (n:=((dgN L k:Nat):Int)) (by omega) (by omega),Zel (by omega) (by omega)];omega
   have e2:i64.wrap ((k:Int)-1)=(k:Int)-1:=ZL (by omega) (by omega);exact⟨k,by omega,by omega,⟨g',by rw[z1,e1,e2]⟩,z2⟩
 ·rintro⟨t,h',s⟩ ⟨⟨g',ht⟩,hh⟩;simp only at ht hh;subst ht hh;refine (Zj (Zg Zd Zs) (ZoT _ _ _ _ g') (fun x hx=>by cases hx)).mono fun e z hz=> ?_;obtain⟨rfl,⟨g2,z1⟩,z2⟩:=hz;refine⟨.inr rfl,?_⟩;rw[z1,z2,ZoV hd];rfl
theorem ZiP:f68.body=some (Zv f68):=by kernel_rfl
theorem ZlS (p:Option Addr) (c:Nat) (h:Hp):Zm (evC (Zp prog Zh Zo hcV) 100 false (Zv f68) ([.slice p 0 c]++List.replicate 21 undef,h,[cmp false]) ⟨[],[],[]⟩) 3 19 (some none) [.slice p 0 c,undef,.int .u64 0] h [(decide (m4 0≥0),false)]:=by and_intros<;>kernel_rfl
theorem Zte:decide (m4 0≥0)=false:=by decide
def Ztf (h:Hp) (p:Option Addr) (n c:Nat):Bool:=zS h p n c && dgB (Zu h p n) && Nat.blt n 1073741824
def Ztg:Zcl:=fun vals h s=>
 match vals with
 | [.slice p n c]=>some (.int .u64 ((vO h p n % 18446744073709551616:Nat):Int),h,s,[(Ztf h p n c,true)])
 | _=>none
theorem ZoW:za 68 Ztg:=by
 intro vals h s v h' s' lg hg hl m B w E hv;unfold Ztg at hg;split at hg
 ·rename_i p n c;cases hg;have q:=hl _ Xf;simp only[Ztf,Xh] at q;obtain⟨⟨q1,q2⟩,q3⟩:=q;have q2:=ZaY q2;have q3:=Zk.1 q3;have hlen:=zT q1;by_cases hn:n=0
  ·subst hn;have e0:Zu h p 0=[]:=List.length_eq_zero_iff.1 hlen;have ev:vO h p 0=0:=by unfold vO;rw[e0];rfl
   obtain⟨x,p',a,NA,eA,fA⟩:=Zbv 0 q1;have hr:Runs (Zp prog Zh Zo hcV) (Zv f68) ([.slice p' 0 c]++List.replicate 21 undef,⟨1,[x]⟩,[]) fun e z=>(e=none∨e=some none)∧Zau prog f68 z.1 z.2.1=some (.int .u64 ((vO h p 0 % 18446744073709551616:Nat):Int)):=by
    refine (Zj (Zg Zd Zs) (ZlS p' c _) (Z2 Zte)).mono fun e z he=> ?_;obtain⟨rfl,⟨g,e2⟩,e3⟩:=he;refine⟨.inr rfl,?_⟩;rw[e2,e3,ev];rfl
   have b1:∀ {i:Nat}{z:List Value×TypeId},(⟨1,[x]⟩:Hp).blk? i=some z→i=0∧z=x:=fun {i z} hz=>by
    have:i<1:=Hp.blk_lt hz;have hi:i=0:=by omega
    subst hi;exact⟨rfl,(Option.some.inj hz).symm⟩
   have:=ZH (T:=Zp prog Zh Zo hcV) func68 ZiP (h0:=⟨1,[x]⟩) ⟨rfl,fun b z hz=>by obtain⟨_,rfl⟩:=b1 hz;exact⟨NA.ros.1,NA.lt0,NA.ros.2⟩⟩ (vals:=[.slice p' 0 c]) (fun v hv=>by rw[List.mem_singleton.1 hv];exact NA.lt (by show 0<1;omega)) (by rfl) hr.w E (s:=fun _=>a) (fun i z hz ht=>by obtain⟨_,rfl⟩:=b1 hz;exact fA ht);simp only[List.map_cons,List.map_nil] at this;rw[eA _ rfl] at this;exact this
  rcases Z8 q1 with ⟨rfl,rfl,rfl,e0⟩ | ⟨b,o,x,rfl,hx,r1,_,e0⟩
  ·exact absurd rfl hn
  ·rw[e0] at q2 hlen;obtain⟨h1,h2,h3,h4,h5,h6,h7⟩:=ZU r1;have r:=ZlR (c:=c) h1 q2 (by rw[h2];exact q3);rw[h2] at r;have ev:vO h (some ⟨b,o,none⟩) n=vb 65536 (zu x.1 o n):=by unfold vO;rw[e0]
   rw[ev];exact ZH (T:=Zp prog Zh Zo hcV) func68 ZlQ (ZcH h7) (vals:=[sl 0 o n c]) (fun v hv=>by rw[List.mem_singleton.1 hv];rfl) (by rfl) r.w E (s:=fun _=>b) (Zbs hx h5 h6 rfl)
 ·cases hg
theorem ZlT:f101.body=some (Zaz (Zu8 f101) (.seq (.seq (wR2 f101) (.block 0 (.loop (wLp f101)))) (wEn f101))):=by kernel_rfl
theorem ZoX (p:Option Addr) (n c:Nat) (k:Int) (h:Hp):Zm (evL (Zp prog Zh Zo hcV) 100 (Zu8 f101) ([.slice p n c,.int .i64 k]++List.replicate 20 undef,h,[]) ⟨[],[],[]⟩) 6 16 none [.slice p n c,.int .i64 k,undef,undef,.int .i64 0,.int .u32 (atN (Zu h p n) (k16 k))] h [(zS h p n c,true)]:=by and_intros<;>kernel_rfl
theorem Zth (a:Value) (k x:Int) (h:Hp) (g:Nat→Value):Zm (evC (Zp prog Zh Zo hcV) 100 false (wR2 f101) ([a,.int .i64 k,undef,undef,.int .i64 0,.int .u32 x]++tl 16 g,h,[]) ⟨[],[],[]⟩) 7 15 none [a,.int .i64 k,undef,undef,.int .i64 0,.int .u32 x,.int .i64 0] h []:=by and_intros<;>kernel_rfl
theorem Zti (a:Value) (k x i:Int) (h:Hp) (g:Nat→Value):Zm (evC (Zp prog Zh Zo hcV) 100 false (wLp f101) ([a,.int .i64 k,undef,undef,.int .i64 0,.int .u32 x,.int .i64 i]++tl 15 g,h,[cmp true,cmp true]) ⟨[],[],[]⟩) 7 15 none [a,.int .i64 k,undef,undef,.int .i64 0,.int .u32 (u32.wrap (x.tdiv 2)),.int .i64 (i64.wrap (i+1))] h [(decide (i<k.tmod 16),true),(decide ((16:Int)=0),false)]:=by and_intros<;>kernel_rfl
theorem ZoY (a:Value) (k x i:Int) (h:Hp) (g:Nat→Value):Zm (evC (Zp prog Zh Zo hcV) 100 false (wLp f101) ([a,.int .i64 k,undef,undef,.int .i64 0,.int .u32 x,.int .i64 i]++tl 15 g,h,[cmp true,cmp false]) ⟨[],[],[]⟩) 7 15 (some (some 0)) [a,.int .i64 k,undef,undef,.int .i64 0,.int .u32 x,.int .i64 i] h [(decide (i<k.tmod 16),false),(decide ((16:Int)=0),false)]:=by and_intros<;>kernel_rfl
theorem ZoZ (a:Value) (k x i:Int) (h:Hp) (g:Nat→Value):Zm (evC (Zp prog Zh Zo hcV) 100 false (wEn f101) ([a,.int .i64 k,undef,undef,.int .i64 0,.int .u32 x,.int .i64 i]++tl 15 g,h,[cmp true]) ⟨[],[],[]⟩) 5 17 (some none) [a,.int .i64 k,undef,undef,.int .i64 (i64.wrap (x.tmod 2))] h [(decide ((2:Int)=0),false)]:=by and_intros<;>kernel_rfl
theorem ZlU (a:Value) (k x:Nat) (hx:x<65536) (h:Hp) (g:Nat→Value):
  Runs (Zp prog Zh Zo hcV) (.block 0 (.loop (wLp f101))) ([a,.int .i64 (k:Nat),undef,undef,.int .i64 0,.int .u32 (x:Nat),.int .i64 0]++tl 15 g,h,[]) fun e Y=>match e with | none=>(∃ g i,Y.1=[a,.int .i64 (k:Nat),undef,undef,.int .i64 0,.int .u32 ((x/2^(k % 16):Nat):Int),.int .i64 i]++tl 15 g)∧Y.2.1=h | some none=>False | some (some _)=>False:=by
 have em:(k:Int).tmod 16=((k % 16:Nat):Int):=by rw[Int.tmod_eq_emod_of_nonneg (by omega)];omega
 refine Runs.forLoop (P:=fun Y=>(∃ g i,Y.1=[a,.int .i64 (k:Nat),undef,undef,.int .i64 0,.int .u32 ((x/2^(k % 16):Nat):Int),.int .i64 i]++tl 15 g)∧Y.2.1=h) (R:=fun _=>False)
  (fun m Y=>∃ j:Nat,j≤k % 16∧m=k % 16-j∧(∃ g,Y.1=[a,.int .i64 (k:Nat),undef,undef,.int .i64 0,.int .u32 ((x/2^j:Nat):Int),.int .i64 (j:Nat)]++tl 15 g)∧Y.2.1=h) ?_ (n:=k % 16) ⟨0,by omega,by omega,⟨g,by simp⟩,rfl⟩
 rintro m ⟨t,h',s⟩ ⟨j,hj,hm,⟨g,ht⟩,hh⟩;simp only at ht hh;subst ht hh;have hle:x/2^j≤x:=Nat.div_le_self _ _;by_cases hlt:j<k % 16
 ·refine (Zj (Zg Zd Zs) (Zti a k _ j h' g) (Zt (by rw[em];exact Xa (by omega)) (Z2 rfl))).mono fun e z hz=> ?_;obtain⟨rfl,⟨g',z1⟩,z2⟩:=hz;have e1:u32.wrap (((x/2^j:Nat):Int).tdiv 2)=((x/2^(j+1):Nat):Int):=by
   rw[Nat.pow_succ,← Nat.div_div_eq_div_mul];generalize x/2^j=y at hle ⊢;rw[Int.tdiv_eq_ediv_of_nonneg (by omega),ze (by omega) (by omega)];rfl
  have e2:i64.wrap ((j:Int)+1)=((j+1:Nat):Int):=by rw[ZL (by omega) (by omega)];omega
  exact⟨k % 16-(j+1),by omega,j+1,by omega,rfl,⟨g',by rw[z1,e1,e2]⟩,z2⟩
 ·have hj':j=k % 16:=by omega
  subst hj';refine (Zj (Zg Zd Zs) (ZoY a k _ _ h' g) (Zt (by rw[em];exact Xb (by omega)) (Z2 rfl))).mono fun e z hz=> ?_;obtain⟨rfl,⟨g',z1⟩,z2⟩:=hz;exact⟨rfl,⟨g',_,z1⟩,z2⟩
def Ztj (h:Hp) (p:Option Addr) (n c:Nat):Bool:=zS h p n c && dgB (Zu h p n) && Nat.blt n 1073741824
def Ztk:Zcl:=fun vals h s=>
 match vals with
 | [.slice p n c,.int .i64 k]=>some (.int .i64 ((vO h p n/2^k.toNat % 2:Nat):Int),h,s,[(Ztj h p n c,true),(decide (0≤k∧k<4611686018427387904),true)])
 | _=>none
theorem Zqx (L:List Int) (i:Nat):dgS L i=dgN L i:=rfl
theorem ZfO {x:List Value×TypeId}{i:Nat}{z:List Value×TypeId}(hz:(⟨1,[x]⟩:Hp).blk? i=some z):i=0∧z=x:=by
 have:i<1:=Hp.blk_lt hz;have hi:i=0:=by omega
 subst hi;exact⟨rfl,(Option.some.inj hz).symm⟩
theorem Zpa:za 101 Ztk:=by
 intro vals h s v h' s' lg hg hl m B w E hv;unfold Ztk at hg;split at hg
 ·rename_i p n c k;cases hg;have q:=hl _ (Xe);have qk:=Xc (hl _ (Xd _ Xf));simp only[Ztj,Xh] at q;obtain⟨⟨q1,q2⟩,q3⟩:=q;have q2:=ZaY q2;obtain⟨K,rfl⟩:=Int.eq_ofNat_of_zero_le qk.1;obtain⟨x,p',a,NA,eA,fA⟩:=Zbv 0 q1;obtain⟨rp,ro'⟩:=NA.row ⟨1,[x]⟩ rfl;have ek:k16 (K:Int)=((K/16:Nat):Int):=by unfold k16;rw[Int.tdiv_eq_ediv_of_nonneg (by omega),ZL (by omega) (by omega)];omega
  have hd:=zn q2 (K/16);have hr:Runs (Zp prog Zh Zo hcV) (Zaz (Zu8 f101) (.seq (.seq (wR2 f101) (.block 0 (.loop (wLp f101)))) (wEn f101))) ([.slice p' n c,.int .i64 (K:Nat)]++List.replicate 20 undef,⟨1,[x]⟩,[]) fun e z=>(e=none∨e=some none)∧Zau prog f101 z.1 z.2.1=some (.int .i64 ((vO h p n/2^K % 2:Nat):Int)):=by
   refine zl (Zg Zd Zs) (ZoX p' n c K _) (Z2 rp) fun g=> ?_;rw[ro',ek,zZ,← hd.2];refine Runs.seq (P1:=fun e Y=>match e with | none=>(∃ g i,Y.1=[.slice p' n c,.int .i64 (K:Nat),undef,undef,.int .i64 0,.int .u32 ((dgN (Zu h p n) (K/16)/2^(K % 16):Nat):Int),.int .i64 i]++tl 15 g)∧Y.2.1=⟨1,[x]⟩ | some none=>False | some (some _)=>False) (Runs.seq (P1:=fun e Y=>e=none∧(∃ g,Y.1=[.slice p' n c,.int .i64 (K:Nat),undef,undef,.int .i64 0,.int .u32 ((dgN (Zu h p n) (K/16):Nat):Int),.int .i64 0]++tl 15 g)∧Y.2.1=⟨1,[x]⟩) (Zj (Zg Zd Zs) (Zth _ K _ _ g) (fun x hx=>by cases hx)) ?_ (fun e y he=>by cases he.1)) ?_ (fun e Y he=>by match e,he with | none,he=>exact he.elim | some id,he=>exact he.elim)
   ·rintro⟨t,h',s⟩ ⟨_,⟨g',ht⟩,hh⟩;simp only at ht hh;subst ht hh;exact Runs.script (ZlU _ K _ hd.1 _ g')
   ·rintro⟨t,h',s⟩ ⟨⟨g',i,ht⟩,hh⟩;simp only at ht hh;subst ht hh;refine (Zj (Zg Zd Zs) (ZoZ _ _ _ _ _ g') (Z2 rfl)).mono fun e z hz=> ?_;obtain⟨rfl,⟨g2,z1⟩,z2⟩:=hz;refine⟨.inr rfl,?_⟩;have e1:i64.wrap ((((dgN (Zu h p n) (K/16)/2^(K % 16):Nat):Int)).tmod 2)=((vO h p n/2^K % 2:Nat):Int):=by
     unfold vO;rw[Zv0 q2 K,Zqx];generalize dgN (Zu h p n) (K/16)/2^(K % 16)=y;rw[Int.tmod_eq_emod_of_nonneg (by omega),ZL (by omega) (by omega)];rfl
    rw[z1,z2,e1];rfl
  have:=ZH (T:=Zp prog Zh Zo hcV) func101 ZlT (h0:=⟨1,[x]⟩) ⟨rfl,fun b z hz=>by obtain⟨_,rfl⟩:=ZfO hz;exact⟨NA.ros.1,NA.lt0,NA.ros.2⟩⟩ (vals:=[.slice p' n c,.int .i64 (K:Nat)]) (fun v hv=>by
   simp only[List.mem_cons,List.not_mem_nil,or_false] at hv;rcases hv with rfl | rfl
   ·exact NA.lt (by show 0<1;omega)
   ·rfl) (by rfl) hr.w E (s:=fun _=>a) (fun i z hz ht=>by obtain⟨_,rfl⟩:=ZfO hz;exact fA ht)
  simp only[List.map_cons,List.map_nil] at this;rw[eA _ rfl] at this;exact this
 ·cases hg
def rB (F:Func):Code:=Z5 (Z5 (Z5 (Z5 (Zv F))))
def rPr (F:Func):List Code:=[ZB (Zv F),ZB (Z5 (Zv F)),ZB (Z5 (Z5 (Zv F))),ZB (Z5 (Z5 (Z5 (Zv F))))]
def rR5 (F:Func):Code:=ZB (ZB (rB F))
def rL1 (F:Func):Code:=cIn (cIn (Z5 (ZB (rB F))))
def rC (F:Func):Code:=Z5 (rB F)
def rIf (F:Func):Code:=ZB (rC F)
def Z1d (F:Func):Code:=ZB (Z5 (rC F))
def rD (F:Func):Code:=Z5 (Z5 (rC F))
def Z1e (F:Func):Code:=ZB (ZB (rD F))
def rL2 (F:Func):Code:=cIn (cIn (Z5 (ZB (rD F))))
def Zza (F:Func):Code:=ZB (Z5 (rD F))
def Z1f (F:Func):Code:=ZB (Z5 (Z5 (rD F)))
def rE (F:Func):Code:=Z5 (Z5 (Z5 (rD F)))
def Z1g (F:Func):Code:=ZB (ZB (rE F))
def rL3 (F:Func):Code:=cIn (cIn (Z5 (ZB (rE F))))
def rEn (F:Func):Code:=Z5 (rE F)
theorem ZlV:f100.body=some (Zaz (rPr f100) (.seq (.seq (rR5 f100) (.block 0 (.loop (rL1 f100)))) (.seq (rIf f100) (.seq (Z1d f100) (.seq (.seq (Z1e f100) (.block 2 (.loop (rL2 f100)))) (.seq (Zza f100) (.seq (Z1f f100) (.seq (.seq (Z1g f100) (.block 4 (.loop (rL3 f100)))) (rEn f100))))))))):=by kernel_rfl
theorem ZiQ:f100.body=some (Zv f100):=by kernel_rfl
theorem Ztl (p:Option Addr) (n c:Nat) (k:Int) (h:Hp):Zm (evL (Zp prog Zh Zo hcV) 100 (rPr f100) ([.slice p n c,.int .i64 k]++List.replicate 87 undef,h,[cmp false]) ⟨[],[],[]⟩) 8 81 none [.slice p n c,.int .i64 k,undef,undef,Zn,.bool false,.bool false,.int .i64 (k16 k)] h [(decide (k≤0),false)]:=by and_intros<;>kernel_rfl
theorem Zxq (a:Value) (k b:Int) (h:Hp) (g:Nat→Value):Zm (evC (Zp prog Zh Zo hcV) 100 false (rR5 f100) ([a,.int .i64 k,undef,undef,Zn,.bool false,.bool false,.int .i64 b]++tl 81 g,h,[]) ⟨[],[],[]⟩) 9 80 none [a,.int .i64 k,undef,undef,Zn,.bool false,.bool false,.int .i64 b,.int .i64 0] h []:=by and_intros<;>kernel_rfl
theorem Ztm (p:Option Addr) (n c:Nat) (k b i:Int) (h:Hp) (g:Nat→Value):Zm (evC (Zp prog Zh Zo hcV) 100 false (rL1 f100) ([.slice p n c,.int .i64 k,undef,undef,Zn,.bool false,.bool true,.int .i64 b,.int .i64 i]++tl 80 g,h,[cmp true,cmp true]) ⟨[],[],[]⟩) 9 80 none [.slice p n c,.int .i64 k,undef,undef,Zn,.bool false,.bool true,.int .i64 b,.int .i64 (i64.wrap (i+1))] h [(decide (i<n),true),(decide (i<b),true)]:=by and_intros<;>kernel_rfl
theorem Ztn (o n c:Nat) (k b i x:Int) (l:List Value) (d:Bool) (g:Nat→Value):Zm (evC (Zp prog Zh Zo hcV) 100 false (rL1 f100) ([sl 0 o n c,.int .i64 k,undef,undef,Zn,.bool false,.bool false,.int .i64 b,.int .i64 i]++tl 80 g,⟨1,[(l,tR)]⟩,[cmp true,cmp true,at_,val (.int .u32 x),cmp d]) ⟨[],[],[]⟩) 9 80 none [sl 0 o n c,.int .i64 k,undef,undef,Zn,.bool false,.bool d,.int .i64 b,.int .i64 (i64.wrap (i+1))] ⟨1,[(l,tR)]⟩ [(x !=0,d),(ZC (l[o+i.toNat*1]?) (.int .u32 x),true),(decide (0≤i∧i<n),true),(decide (i<n),true),(decide (i<b),true)]:=by and_intros<;>kernel_rfl
theorem Zto (p:Option Addr) (n c:Nat) (k b i:Int) (e:Bool) (h:Hp) (g:Nat→Value):Zm (evC (Zp prog Zh Zo hcV) 100 false (rL1 f100) ([.slice p n c,.int .i64 k,undef,undef,Zn,.bool false,.bool e,.int .i64 b,.int .i64 i]++tl 80 g,h,[cmp false]) ⟨[],[],[]⟩) 9 80 (some (some 0)) [.slice p n c,.int .i64 k,undef,undef,Zn,.bool false,.bool e,.int .i64 b,.int .i64 i] h [(decide (i<b),false)]:=by and_intros<;>kernel_rfl
theorem Ztp (p:Option Addr) (n c:Nat) (k b i:Int) (e:Bool) (h:Hp) (g:Nat→Value):Zm (evC (Zp prog Zh Zo hcV) 100 false (rL1 f100) ([.slice p n c,.int .i64 k,undef,undef,Zn,.bool false,.bool e,.int .i64 b,.int .i64 i]++tl 80 g,h,[cmp true,cmp false]) ⟨[],[],[]⟩) 9 80 (some (some 0)) [.slice p n c,.int .i64 k,undef,undef,Zn,.bool false,.bool e,.int .i64 b,.int .i64 i] h [(decide (i<n),false),(decide (i<b),true)]:=by and_intros<;>kernel_rfl
theorem Ztq (p:Option Addr) (n c:Nat) (k b i:Int) (e:Bool) (h:Hp) (g:Nat→Value):Zm (evC (Zp prog Zh Zo hcV) 100 false (rIf f100) ([.slice p n c,.int .i64 k,undef,undef,Zn,.bool false,.bool e,.int .i64 b,.int .i64 i]++tl 80 g,h,[cmp true]) ⟨[],[],[]⟩) 6 83 (some none) [.slice p n c,.int .i64 k,undef,undef,Zn,.bool e] h [(decide (b≥n),true)]:=by and_intros<;>kernel_rfl
theorem Ztr (p:Option Addr) (n c:Nat) (k b i:Int) (e:Bool) (h:Hp) (g:Nat→Value):Zm (evC (Zp prog Zh Zo hcV) 100 false (rIf f100) ([.slice p n c,.int .i64 k,undef,undef,Zn,.bool false,.bool e,.int .i64 b,.int .i64 i]++tl 80 g,h,[cmp false]) ⟨[],[],[]⟩) 9 80 none [.slice p n c,.int .i64 k,undef,undef,Zn,.bool false,.bool e,.int .i64 b,.int .i64 i] h [(decide (b≥n),false)]:=by and_intros<;>kernel_rfl
theorem Zts (a:Value) (k b i:Int) (e:Bool) (h:Hp) (g:Nat→Value):Zm (evC (Zp prog Zh Zo hcV) 100 false (Z1d f100) ([a,.int .i64 k,undef,undef,Zn,.bool false,.bool e,.int .i64 b,.int .i64 i]++tl 80 g,h,[]) ⟨[],[],[]⟩) 10 79 none [a,.int .i64 k,undef,undef,Zn,.bool false,.bool e,.int .i64 b,.int .i64 i,.int .u32 1] h []:=by and_intros<;>kernel_rfl
theorem Ztt (a:Value) (k b i:Int) (e:Bool) (h:Hp) (g:Nat→Value):Zm (evC (Zp prog Zh Zo hcV) 100 false (Z1e f100) ([a,.int .i64 k,undef,undef,Zn,.bool false,.bool e,.int .i64 b,.int .i64 i,.int .u32 1]++tl 79 g,h,[]) ⟨[],[],[]⟩) 11 78 none [a,.int .i64 k,undef,undef,Zn,.bool false,.bool e,.int .i64 b,.int .i64 i,.int .u32 1,.int .i64 0] h []:=by and_intros<;>kernel_rfl
theorem Zxr (a:Value) (k b u i q:Int) (e:Bool) (h:Hp) (g:Nat→Value):Zm (evC (Zp prog Zh Zo hcV) 100 false (rL2 f100) ([a,.int .i64 k,undef,undef,Zn,.bool false,.bool e,.int .i64 b,.int .i64 u,.int .u32 q,.int .i64 i]++tl 78 g,h,[cmp true,cmp true]) ⟨[],[],[]⟩) 11 78 none [a,.int .i64 k,undef,undef,Zn,.bool false,.bool e,.int .i64 b,.int .i64 u,.int .u32 (u32.wrap (2*q)),.int .i64 (i64.wrap (i+1))] h [(decide (i<k.tmod 16),true),(decide ((16:Int)=0),false)]:=by and_intros<;>kernel_rfl
theorem Zxs (a:Value) (k b u i q:Int) (e:Bool) (h:Hp) (g:Nat→Value):Zm (evC (Zp prog Zh Zo hcV) 100 false (rL2 f100) ([a,.int .i64 k,undef,undef,Zn,.bool false,.bool e,.int .i64 b,.int .i64 u,.int .u32 q,.int .i64 i]++tl 78 g,h,[cmp true,cmp false]) ⟨[],[],[]⟩) 11 78 (some (some 2)) [a,.int .i64 k,undef,undef,Zn,.bool false,.bool e,.int .i64 b,.int .i64 u,.int .u32 q,.int .i64 i] h [(decide (i<k.tmod 16),false),(decide ((16:Int)=0),false)]:=by and_intros<;>kernel_rfl
theorem Ztu (a:Value) (k b u i q:Int) (h:Hp) (g:Nat→Value):Zm (evC (Zp prog Zh Zo hcV) 100 false (Zza f100) ([a,.int .i64 k,undef,undef,Zn,.bool false,.bool true,.int .i64 b,.int .i64 u,.int .u32 q,.int .i64 i]++tl 78 g,h,[]) ⟨[],[],[]⟩) 11 78 none [a,.int .i64 k,undef,undef,Zn,.bool false,.bool true,.int .i64 b,.int .i64 u,.int .u32 q,.int .i64 i] h []:=by and_intros<;>kernel_rfl
theorem Ztv (o n c:Nat) (k b u i q x:Int) (l:List Value) (d:Bool) (g:Nat→Value):Zm (evC (Zp prog Zh Zo hcV) 100 false (Zza f100) ([sl 0 o n c,.int .i64 k,undef,undef,Zn,.bool false,.bool false,.int .i64 b,.int .i64 u,.int .u32 q,.int .i64 i]++tl 78 g,⟨1,[(l,tR)]⟩,[at_,val (.int .u32 x),cmp false,cmp d]) ⟨[],[],[]⟩) 11 78 none [sl 0 o n c,.int .i64 k,undef,undef,Zn,.bool false,.bool d,.int .i64 b,.int .i64 u,.int .u32 q,.int .i64 i] ⟨1,[(l,tR)]⟩ [(x.tmod q !=0,d),(decide (q=0),false),(ZC (l[o+b.toNat*1]?) (.int .u32 x),true),(decide (0≤b∧b<n),true)]:=by and_intros<;>kernel_rfl
theorem Ztw (a:Value) (k b u i q:Int) (e:Bool) (h:Hp) (g:Nat→Value):Zm (evC (Zp prog Zh Zo hcV) 100 false (Z1f f100) ([a,.int .i64 k,undef,undef,Zn,.bool false,.bool e,.int .i64 b,.int .i64 u,.int .u32 q,.int .i64 i]++tl 78 g,h,[]) ⟨[],[],[]⟩) 12 77 none [a,.int .i64 k,undef,undef,Zn,.bool false,.bool e,.int .i64 b,.int .i64 u,.int .u32 q,.int .i64 i,Zn] h []:=by and_intros<;>kernel_rfl
theorem Ztx (a:Value) (k b u i q:Int) (e:Bool) (h:Hp) (g:Nat→Value):Zm (evC (Zp prog Zh Zo hcV) 100 false (Z1g f100) ([a,.int .i64 k,undef,undef,Zn,.bool false,.bool e,.int .i64 b,.int .i64 u,.int .u32 q,.int .i64 i,Zn]++tl 77 g,h,[]) ⟨[],[],[]⟩) 13 76 none [a,.int .i64 k,undef,undef,Zn,.bool false,.bool e,.int .i64 b,.int .i64 u,.int .u32 q,.int .i64 i,Zn,.int .i64 b] h []:=by and_intros<;>kernel_rfl
theorem Zqy (p:Option Addr) (n c:Nat) (v:Value) (k b u u2 i q:Int) (e:Bool) (h:Hp) (g:Nat→Value):Zm (evC (Zp prog Zh Zo hcV) 100 false (rL3 f100) ([.slice p n c,.int .i64 k,undef,undef,Zn,.bool false,.bool e,.int .i64 b,.int .i64 u,.int .u32 q,.int .i64 u2,v,.int .i64 i]++tl 76 g,h,[cmp false]) ⟨[],[],[]⟩) 13 76 (some (some 4)) [.slice p n c,.int .i64 k,undef,undef,Zn,.bool false,.bool e,.int .i64 b,.int .i64 u,.int .u32 q,.int .i64 u2,v,.int .i64 i] h [(decide (i<n),false)]:=by and_intros<;>kernel_rfl
def dwn (h:Hp) (o n:Nat) (i q q1 q2:Int):Int:=u32.wrap (q1+u32.wrap ((atN (Zu h (some ⟨0,o,none⟩) n) (i64.wrap (i+1))).tmod q*q2))
def lDw (h:Hp) (l:List Value) (o n c:Nat) (i q x q1 q2:Int):Log:=[(decide (q=0),false),(zS h (some ⟨0,o,none⟩) n c,true),(decide (q=0),false),(decide (u32.wrap (Int.tdiv 65536 q)=q2),true),(decide (q=0),false),(decide (u32.wrap (x.tdiv q)=q1),true),(ZC (l[o+i.toNat*1]?) (.int .u32 x),true),(decide (0≤i∧i<n),true),(decide (i<n),true)]
theorem Zty (o n c:Nat) (k b u u2 i q x q1 q2:Int) (e:Bool) (l:List Value) (g:Nat→Value):Zm (evC (Zp prog Zh Zo hcV) 100 false (rL3 f100) ([sl 0 o n c,.int .i64 k,undef,undef,Zn,.bool false,.bool e,.int .i64 b,.int .i64 u,.int .u32 q,.int .i64 u2,Zn,.int .i64 i]++tl 76 g,⟨1,[(l,tR)]⟩,[cmp true,at_,val (.int .u32 x),num q1,num q2,cmp false]) ⟨[],[],[]⟩) 13 76 none [sl 0 o n c,.int .i64 k,undef,undef,Zn,.bool false,.bool e,.int .i64 b,.int .i64 u,.int .u32 q,.int .i64 u2,sl 2 0 1 grown,.int .i64 (i64.wrap (i+1))] ⟨3,[([.int .u32 (dwn ⟨1,[(l,tR)]⟩ o n i q q1 q2)],tU),([.int .u32 (dwn ⟨1,[(l,tR)]⟩ o n i q q1 q2)],tU),(l,tR)]⟩ (lDw ⟨1,[(l,tR)]⟩ l o n c i q x q1 q2):=by and_intros<;>kernel_rfl
theorem Ztz (o n c z:Nat) (k b u u2 i q x q1 q2:Int) (e:Bool) (l lo:List Value) (g:Nat→Value):Zm (evC (Zp prog Zh Zo hcV) 100 false (rL3 f100) ([sl 0 o n c,.int .i64 k,undef,undef,Zn,.bool false,.bool e,.int .i64 b,.int .i64 u,.int .u32 q,.int .i64 u2,sl 1 0 z grown,.int .i64 i]++tl 76 g,⟨2,[(lo,tU),(l,tR)]⟩,[cmp true,at_,val (.int .u32 x),num q1,num q2,cmp false,at_]) ⟨[],[],[]⟩) 13 76 none [sl 0 o n c,.int .i64 k,undef,undef,Zn,.bool false,.bool e,.int .i64 b,.int .i64 u,.int .u32 q,.int .i64 u2,sl 3 0 (z+1) grown,.int .i64 (i64.wrap (i+1))] ⟨4,[(lo++[.int .u32 (dwn ⟨2,[(lo,tU),(l,tR)]⟩ o n i q q1 q2)],tU),([.int .u32 (dwn ⟨2,[(lo,tU),(l,tR)]⟩ o n i q q1 q2)],tU),([],2*ZV),(l,tR)]⟩ ((zQ tU (lo,tU) ([.int .u32 (dwn ⟨2,[(lo,tU),(l,tR)]⟩ o n i q q1 q2)],tU) z 0 1,true)::lDw ⟨2,[(lo,tU),(l,tR)]⟩ l o n c i q x q1 q2):=by and_intros<;>kernel_rfl
theorem Zt0 (a:Value) (k b u u2 q u3:Int) (e:Bool) (z:Nat) (x:List Value×TypeId) (lo:List Value) (g:Nat→Value):Zm (evC (Zp prog Zh Zo hcV) 100 false (rEn f100) ([a,.int .i64 k,undef,undef,Zn,.bool false,.bool e,.int .i64 b,.int .i64 u,.int .u32 q,.int .i64 u2,sl 1 0 z grown,.int .i64 u3]++tl 76 g,⟨2,[(lo,tU),x]⟩,[]) ⟨[],[],[]⟩) 6 83 (some none) [a,.int .i64 k,undef,undef,sl 1 0 (Z3 (zu lo 0 z)) (Z3 (zu lo 0 z)),.bool e] ⟨2,[(lo,tU),x]⟩ [(ZaK tU lo 0 z grown,true)]:=by and_intros<;>kernel_rfl
theorem ZlW (p:Option Addr) (c:Nat) (k:Int) (h:Hp):Zm (evC (Zp prog Zh Zo hcV) 100 false (Zv f100) ([.slice p 0 c,.int .i64 k]++List.replicate 87 undef,h,[cmp false,cmp true,cmp false,cmp true]) ⟨[],[],[]⟩) 6 83 (some none) [.slice p 0 c,.int .i64 k,undef,undef,Zn,.bool false] h [(decide (k16 k≥((0:Nat):Int)),true),(decide ((0:Int)<((0:Nat):Int)),false),(decide (0<k16 k),true),(decide (k≤0),false)]:=by and_intros<;>kernel_rfl
theorem ZiR (p:Option Addr) (c:Nat) (k:Int) (h:Hp):Zm (evC (Zp prog Zh Zo hcV) 100 false (Zv f100) ([.slice p 0 c,.int .i64 k]++List.replicate 87 undef,h,[cmp false,cmp false,cmp true]) ⟨[],[],[]⟩) 6 83 (some none) [.slice p 0 c,.int .i64 k,undef,undef,Zn,.bool false] h [(decide (k16 k≥((0:Nat):Int)),true),(decide (0<k16 k),false),(decide (k≤0),false)]:=by and_intros<;>kernel_rfl
section
variable {l : List Value} {o c : Nat} {A : List Int}
theorem ZlX (A:List Int) (j:Nat):vb 65536 (A.take (j+1))=vb 65536 (A.take j)+65536^j*dgN A j:=Zaw 65536 A j
theorem ZiS (hR:Row l o A) (hA:∀ x∈A,Dg 65536 x) (hn:A.length<1073741824) (k:Int) {z:Nat}(hz:z<4611686018427387904) (g:Nat→Value):
  Runs (Zp prog Zh Zo hcV) (.block 0 (.loop (rL1 f100))) ([sl 0 o A.length c,.int .i64 k,undef,undef,Zn,.bool false,.bool false,.int .i64 (z:Nat),.int .i64 0]++tl 80 g,⟨1,[(l,tR)]⟩,[]) fun e Y=>match e with | none=>(∃ g u,Y.1=[sl 0 o A.length c,.int .i64 k,undef,undef,Zn,.bool false,.bool (decide (vb 65536 (A.take z)≠0)),.int .i64 (z:Nat),.int .i64 u]++tl 80 g)∧Y.2.1=⟨1,[(l,tR)]⟩ | some none=>False | some (some _)=>False:=by
 refine Runs.forLoop (P:=fun Y=>(∃ g u,Y.1=[sl 0 o A.length c,.int .i64 k,undef,undef,Zn,.bool false,.bool (decide (vb 65536 (A.take z)≠0)),.int .i64 (z:Nat),.int .i64 u]++tl 80 g)∧Y.2.1=⟨1,[(l,tR)]⟩) (R:=fun _=>False)
  (fun m Y=>∃ j:Nat,j≤z∧j≤A.length∧m=A.length-j∧(∃ g,Y.1=[sl 0 o A.length c,.int .i64 k,undef,undef,Zn,.bool false,.bool (decide (vb 65536 (A.take j)≠0)),.int .i64 (z:Nat),.int .i64 (j:Nat)]++tl 80 g)∧Y.2.1=⟨1,[(l,tR)]⟩) ?_ (n:=A.length) ⟨0,by omega,by omega,by omega,⟨g,by simp [vb]⟩,rfl⟩
 rintro m ⟨t,h',s⟩ ⟨j,hj,hj',hm,⟨g,ht⟩,hh⟩;simp only at ht hh;subst ht hh;have e2:i64.wrap ((j:Int)+1)=((j+1:Nat):Int):=by rw[ZL (by omega) (by omega)];omega
 have hs:=ZlX A j;have hp:0<65536^j:=Nat.pow_pos (by omega);by_cases h1:j<z
 ·by_cases h2:j<A.length
  ·have hd:=zn hA j;by_cases h0:vb 65536 (A.take j)=0
   ·have ef:decide (vb 65536 (A.take j)≠0)=false:=Xb (by omega);rw[ef];refine (Zj (Zg Zd Zs) (Ztn o A.length c k z j (A.getD j 0) l (A.getD j 0 !=0) g) (Zt rfl (Zt (by rw[Xg,Nat.mul_one,hR.cell h2];simp [ZC]) (Zt (Xa (by omega)) (Zt (Xa (by omega)) (Z2 (Xa (by omega)))))))).mono fun e w hw=> ?_;obtain⟨rfl,⟨g',z1⟩,z2⟩:=hw;have e3:(A.getD j 0 !=0)=decide (vb 65536 (A.take (j+1))≠0):=by
     rw[hs,h0,Nat.zero_add,← hd.2,Bool.eq_iff_iff];simp only[bne_iff_ne,ne_eq,Xi,Nat.mul_eq_zero];omega
    exact⟨A.length-(j+1),by omega,j+1,by omega,by omega,rfl,⟨g',by rw[z1,e2,e3]⟩,z2⟩
   ·have ef:decide (vb 65536 (A.take j)≠0)=true:=Xa h0;rw[ef];refine (Zj (Zg Zd Zs) (Ztm _ A.length c k z j _ g) (Zt (Xa (by omega)) (Z2 (Xa (by omega))))).mono fun e w hw=> ?_;obtain⟨rfl,⟨g',z1⟩,z2⟩:=hw;have e3:true=decide (vb 65536 (A.take (j+1))≠0):=(Xa (by rw[hs];omega)).symm;exact⟨A.length-(j+1),by omega,j+1,by omega,by omega,rfl,⟨g',by rw[z1,e2,← e3];rfl⟩,z2⟩
  ·have hjl:A.take j=A.take z:=by rw[List.take_of_length_le (by omega),List.take_of_length_le (by omega)]
   rw[hjl];refine (Zj (Zg Zd Zs) (Ztp _ A.length c k z j _ _ g) (Zt (Xb (by omega)) (Z2 (Xa (by omega))))).mono fun e w hw=> ?_;obtain⟨rfl,⟨g',z1⟩,z2⟩:=hw;exact⟨rfl,⟨g',_,z1⟩,z2⟩
 ·have hjz:j=z:=by omega
  subst hjz;refine (Zj (Zg Zd Zs) (Zto _ A.length c k j j _ _ g) (Z2 (Xb (by omega)))).mono fun e w hw=> ?_;obtain⟨rfl,⟨g',z1⟩,z2⟩:=hw;exact⟨rfl,⟨g',_,z1⟩,z2⟩
theorem ZiT (a:Value) (k:Nat) (b u:Int) (e:Bool) (h:Hp) (g:Nat→Value):
  Runs (Zp prog Zh Zo hcV) (.block 2 (.loop (rL2 f100))) ([a,.int .i64 (k:Nat),undef,undef,Zn,.bool false,.bool e,.int .i64 b,.int .i64 u,.int .u32 1,.int .i64 0]++tl 78 g,h,[]) fun ex Y=>match ex with | none=>(∃ g u2,Y.1=[a,.int .i64 (k:Nat),undef,undef,Zn,.bool false,.bool e,.int .i64 b,.int .i64 u,.int .u32 ((2^(k % 16):Nat):Int),.int .i64 u2]++tl 78 g)∧Y.2.1=h | some none=>False | some (some _)=>False:=by
 have em:(k:Int).tmod 16=((k % 16:Nat):Int):=by rw[Int.tmod_eq_emod_of_nonneg (by omega)];omega
 refine Runs.forLoop (P:=fun Y=>(∃ g u2,Y.1=[a,.int .i64 (k:Nat),undef,undef,Zn,.bool false,.bool e,.int .i64 b,.int .i64 u,.int .u32 ((2^(k % 16):Nat):Int),.int .i64 u2]++tl 78 g)∧Y.2.1=h) (R:=fun _=>False)
  (fun m Y=>∃ j:Nat,j≤k % 16∧m=k % 16-j∧(∃ g,Y.1=[a,.int .i64 (k:Nat),undef,undef,Zn,.bool false,.bool e,.int .i64 b,.int .i64 u,.int .u32 ((2^j:Nat):Int),.int .i64 (j:Nat)]++tl 78 g)∧Y.2.1=h) ?_ (n:=k % 16) ⟨0,by omega,by omega,⟨g,rfl⟩,rfl⟩
 rintro m ⟨t,h',s⟩ ⟨j,hj,hm,⟨g,ht⟩,hh⟩;simp only at ht hh;subst ht hh;by_cases hlt:j<k % 16
 ·refine (Zj (Zg Zd Zs) (Zxr a k b u j _ e h' g) (Zt (by rw[em];exact Xa (by omega)) (Z2 rfl))).mono fun ex w hw=> ?_;obtain⟨rfl,⟨g',z1⟩,z2⟩:=hw;have hp:2^j≤32768:=by
   have:=Nat.pow_le_pow_right (show 0<2 by omega) (show j≤15 by omega);omega
  have e1:u32.wrap (2*((2^j:Nat):Int))=((2^(j+1):Nat):Int):=by
   rw[Nat.pow_succ];generalize 2^j=Q at hp ⊢;rw[ze (by omega) (by omega)];omega
  have e2:i64.wrap ((j:Int)+1)=((j+1:Nat):Int):=by rw[ZL (by omega) (by omega)];omega
  exact⟨k % 16-(j+1),by omega,j+1,by omega,rfl,⟨g',by rw[z1,e1,e2]⟩,z2⟩
 ·have hj':j=k % 16:=by omega
  subst hj';refine (Zj (Zg Zd Zs) (Zxs a k b u _ _ e h' g) (Zt (by rw[em];exact Xb (by omega)) (Z2 rfl))).mono fun ex w hw=> ?_;obtain⟨rfl,⟨g',z1⟩,z2⟩:=hw;exact⟨rfl,⟨g',_,z1⟩,z2⟩
def Fst (l:List Value) (o c:Nat) (A:List Int):Prop:=∀ h:Hp,h.blk? 0=some (l,tR)→zS h (some ⟨0,o,none⟩) A.length c=true∧Zu h (some ⟨0,o,none⟩) A.length=A
def dwV (A:List Int) (P R i:Nat):Nat:=dgN A i/P+dgN A (i+1) % P*R
def rSt (l:List Value) (o c:Nat) (A:List Int) (k b u u2:Int) (e:Bool) (P j i:Nat) (O:List Int) (Y:Lf):Prop:=
 (j=0∧(∃ g,Y.1=[sl 0 o A.length c,.int .i64 k,undef,undef,Zn,.bool false,.bool e,.int .i64 b,.int .i64 u,.int .u32 (P:Nat),.int .i64 u2,Zn,.int .i64 (i:Nat)]++tl 76 g)∧Y.2.1=⟨1,[(l,tR)]⟩)∨
 (0<j∧(∃ g,Y.1=[sl 0 o A.length c,.int .i64 k,undef,undef,Zn,.bool false,.bool e,.int .i64 b,.int .i64 u,.int .u32 (P:Nat),.int .i64 u2,sl 1 0 j grown,.int .i64 (i:Nat)]++tl 76 g)∧Y.2.1=⟨2,[(wU O,tU),(l,tR)]⟩)
theorem ZiU (hR:Row l o A) (hF:Fst l o c A) (hs:∀ v∈l,still v=true) (hA:∀ x∈A,Dg 65536 x) (hn:A.length+2<1073741824) {k b u u2:Int}{e:Bool}{P R j i:Nat}{O:List Int}(hP:0<P) (hPR:P*R=65536) (hO:O.length=j) (hj:j≤i) (hi:i<A.length) {Y:Lf}(hY:rSt l o c A k b u u2 e P j i O Y):
  RunsW (Zp prog Zh Zo hcV) (rL3 f100) Y fun ex W=>ex=none∧(∃ g,W.1=[sl 0 o A.length c,.int .i64 k,undef,undef,Zn,.bool false,.bool e,.int .i64 b,.int .i64 u,.int .u32 (P:Nat),.int .i64 u2,sl 1 0 (j+1) grown,.int .i64 ((i+1:Nat):Int)]++tl 76 g)∧W.2.1=⟨2,[(wU (O++[((dwV A P R i:Nat):Int)]),tU),(l,tR)]⟩:=by
 obtain⟨t,h',s⟩:=Y;have hd:=zn hA i;have hd1:=zn hA (i+1);have hPb:P≤65536:=by
  rcases Nat.eq_zero_or_pos R with h0 | h0
  ·rw[h0] at hPR;omega
  ·have:=Nat.mul_le_mul_left P h0;omega
 have hRb:R≤65536:=by
  have:=Nat.mul_le_mul_right R hP;omega
 have e3:i64.wrap ((i:Int)+1)=((i+1:Nat):Int):=by rw[ZL (by omega) (by omega)];omega
 have ne0:decide ((P:Int)=0)=false:=Xb (by omega);have hdiv:dgN A i/P≤dgN A i:=Nat.div_le_self _ _;have eq1:u32.wrap ((A.getD i 0).tdiv (P:Int))=((dgN A i/P:Nat):Int):=by
  rw[← hd.2,Int.tdiv_eq_ediv_of_nonneg (by omega),show ((dgN A i:Nat):Int)/(P:Int)=((dgN A i/P:Nat):Int) from rfl];generalize dgN A i/P=y at hdiv ⊢;exact ze (by omega) (by omega)
 have eq2:u32.wrap (Int.tdiv 65536 (P:Int))=(R:Int):=by
  have:65536/P=R:=by rw[← hPR,Nat.mul_div_cancel_left _ hP]
  rw[Int.tdiv_eq_ediv_of_nonneg (by omega),show (65536:Int)/(P:Int)=((65536/P:Nat):Int) from rfl,this];exact ze (by omega) (by omega)
 have hlt:=ZkC (x1:=dgN A (i+1)) hP hPR hd.1;have hdw:∀ h:Hp,h.blk? 0=some (l,tR)→dwn h o A.length i P ((dgN A i/P:Nat):Int) R=((dwV A P R i:Nat):Int):=fun h hh=>by
  unfold dwn dwV;rw[(hF h hh).2,e3,zZ,← hd1.2,Int.tmod_eq_emod_of_nonneg (by omega),show ((dgN A (i+1):Nat):Int) % (P:Int)=((dgN A (i+1) % P:Nat):Int) from rfl,show ((dgN A (i+1) % P:Nat):Int)*(R:Int)=((dgN A (i+1) % P*R:Nat):Int) from by simp];generalize dgN A i/P=y1 at hlt ⊢;generalize dgN A (i+1) % P*R=y2 at hlt ⊢;rw[ze (n:=(y2:Int)) (by omega) (by omega),ze (by omega) (by omega)];omega
 have hlog:∀ h:Hp,h.blk? 0=some (l,tR)→Zx (lDw h l o A.length c i P (A.getD i 0) ((dgN A i/P:Nat):Int) R):=fun h hh=>Zt ne0 (Zt (hF h hh).1 (Zt ne0 (Zt (Xa eq2) (Zt ne0 (Zt (Xa eq1) (Zt (by
  show ZC (l[o+(i:Int).toNat*1]?) _=true;rw[Xg,Nat.mul_one,hR.cell hi];simp [ZC]) (Zt (Xa (by omega)) (Z2 (Xa (by omega))))))))))
 have key:∀ {h:Hp}{bb:Nat},1≤bb→h.blk? 0=some (l,tR)→h.blk? bb=some (wU (O++[((dwV A P R i:Nat):Int)]),tU)→RunsW (Zp prog Zh Zo hcV) (rL3 f100) (t,h',s) (fun ex W=>ex=none∧(∃ g,W.1=[sl 0 o A.length c,.int .i64 k,undef,undef,Zn,.bool false,.bool e,.int .i64 b,.int .i64 u,.int .u32 (P:Nat),.int .i64 u2,sl bb 0 (j+1) grown,.int .i64 ((i+1:Nat):Int)]++tl 76 g)∧W.2.1=h)→
   RunsW (Zp prog Zh Zo hcV) (rL3 f100) (t,h',s) fun ex W=>ex=none∧(∃ g,W.1=[sl 0 o A.length c,.int .i64 k,undef,undef,Zn,.bool false,.bool e,.int .i64 b,.int .i64 u,.int .u32 (P:Nat),.int .i64 u2,sl 1 0 (j+1) grown,.int .i64 ((i+1:Nat):Int)]++tl 76 g)∧W.2.1=⟨2,[(wU (O++[((dwV A P R i:Nat):Int)]),tU),(l,tR)]⟩:=fun {h bb} hb h0 hB fin=>
  fin.kept (k:=1) (b:=bb) (base:=[(l,tR)]) (y:=(wU (O++[((dwV A P R i:Nat):Int)]),tU)) (front':=[sl 0 o A.length c,.int .i64 k,undef,undef,Zn,.bool false,.bool e,.int .i64 b,.int .i64 u,.int .u32 (P:Nat),.int .i64 u2,sl 1 0 (j+1) grown,.int .i64 ((i+1:Nat):Int)]) rfl
   (by kernel_rfl) (fun j x hx=>by
    obtain⟨rfl,rfl⟩:=ZfO hx;exact⟨h0,hs⟩) hB hb (ZP _) (fun v hv=>by
    simp only[List.mem_cons,List.not_mem_nil,or_false] at hv;rcases hv with rfl | rfl | rfl | rfl | rfl | rfl | rfl | rfl | rfl | rfl | rfl | rfl | rfl<;>rfl)
 rcases hY with ⟨h0,⟨g,ht⟩,hh⟩ | ⟨h0,⟨g,ht⟩,hh⟩
 ·simp only at ht hh;subst ht hh;have hO0:O=[]:=List.length_eq_zero_iff.1 (by omega);subst hO0;subst h0;have fin:=Zc (Zg Zd Zs) (s0:=s) (Zty o A.length c k b u u2 i P (A.getD i 0) ((dgN A i/P:Nat):Int) R e l g) (hlog _ rfl);rw[e3,hdw _ rfl] at fin;exact key (bb:=2) (by omega) rfl rfl fin
 ·simp only at ht hh;subst ht hh;have hchk:zQ tU (wU O,tU) ([.int .u32 ((dwV A P R i:Nat):Int)],tU) j 0 1=true:=
   ZaF (L:=O) (M:=[((dwV A P R i:Nat):Int)]) hO.symm (show 0<1 by omega) (by show O.length+1≤_;omega)
  have ew:wU O++[.int .u32 ((dwV A P R i:Nat):Int)]=wU (O++[((dwV A P R i:Nat):Int)]):=by rw[ZO];rfl
  have fin:=Zc (Zg Zd Zs) (s0:=s) (Ztz o A.length c j k b u u2 i P (A.getD i 0) ((dgN A i/P:Nat):Int) R e l (wU O) g) (Zt (by rw[hdw _ rfl];exact hchk) (hlog _ rfl));rw[e3,hdw _ rfl,ew] at fin;exact key (bb:=3) (by omega) rfl rfl fin
def Z1h (l:List Value) (o c:Nat) (A:List Int) (k b u u2:Int) (e:Bool) (P z:Nat) (Y:Lf):Prop:=
 ∃ O:List Int,O.length=A.length-z∧(∀ x∈O,Dg 65536 x)∧vb 65536 O*P+dgN A z % P=vb 65536 (A.drop z)∧rSt l o c A k b u u2 e P (A.length-z) A.length O Y
def Z2Y (l:List Value) (o c:Nat) (A:List Int) (k b u u2:Int) (e:Bool) (P z:Nat) (m:Nat) (Y:Lf):Prop:=
 ∃ (i:Nat) (O:List Int),m=A.length-i∧z≤i∧i≤A.length∧O.length=i-z∧(∀ x∈O,Dg 65536 x)∧vb 65536 O*P+dgN A z % P=vb 65536 ((A.drop z).take (i-z))+65536^(i-z)*(dgN A i % P)∧rSt l o c A k b u u2 e P (i-z) i O Y
theorem ZlY (A:List Int) (z j:Nat):(A.drop z).getD j 0=A.getD (z+j) 0:=by simp [List.getD,List.getElem?_drop]
theorem ZiV (hR:Row l o A) (hF:Fst l o c A) (hs:∀ v∈l,still v=true) (hA:∀ x∈A,Dg 65536 x) (hn:A.length+2<1073741824) {k b u u2:Int}{e:Bool}{P R z:Nat}(hP:0<P) (hPR:P*R=65536) (hz:z≤A.length) (g:Nat→Value):
  RunsW (Zp prog Zh Zo hcV) (.block 4 (.loop (rL3 f100))) ([sl 0 o A.length c,.int .i64 k,undef,undef,Zn,.bool false,.bool e,.int .i64 b,.int .i64 u,.int .u32 (P:Nat),.int .i64 u2,Zn,.int .i64 (z:Nat)]++tl 76 g,⟨1,[(l,tR)]⟩,[]) fun ex Y=>match ex with | none=>Z1h l o c A k b u u2 e P z Y | some none=>False | some (some _)=>False:=by
 refine RunsW.forLoop (P:=Z1h l o c A k b u u2 e P z) (R:=fun _=>False) (Z2Y l o c A k b u u2 e P z) ?_ (n:=A.length-z) ⟨z,[],rfl,Nat.le_refl _,hz,by simp,(fun x hx=>by cases hx),by simp [vb],.inl ⟨by omega,⟨g,rfl⟩,rfl⟩⟩;rintro m Y ⟨i,O,hm,hzi,hi,hO,hOd,hv,hY⟩;by_cases hlt:i<A.length
 ·refine (ZiU hR hF hs hA hn hP hPR hO (by omega) hlt hY).mono fun ex W hW=> ?_;obtain⟨rfl,z1,z2⟩:=hW;have hd:=zn hA i;have hl:=ZkC (x1:=dgN A (i+1)) hP hPR hd.1;have ej:i+1-z=i-z+1:=by omega
  refine⟨A.length-(i+1),by omega,i+1,O++[((dwV A P R i:Nat):Int)],rfl,by omega,by omega,by rw[List.length_append,hO,ej];rfl,fun x hx=> ?_,?_,.inr ⟨by omega,by rw[ej];exact z1,z2⟩⟩
  ·rcases List.mem_append.1 hx with hx | hx
   ·exact hOd x hx
   ·rw[List.mem_singleton.1 hx];unfold dwV;exact⟨Int.natCast_nonneg _,Int.ofNat_lt.2 hl⟩
  ·have h1:=ZkB (x1:=dgN A (i+1)) hPR hO hv;have h2:vb 65536 ((A.drop z).take (i-z+1))=vb 65536 ((A.drop z).take (i-z))+65536^(i-z)*dgN A i:=by
    rw[Zaw,ZlY,show z+(i-z)=i by omega];rfl
   rw[ej,h2];exact h1
 ·have hil:i=A.length:=by omega
  subst hil;have hz0:dgN A A.length=0:=by unfold dgN;simp [List.getD]
  rw[List.take_of_length_le (by simp),hz0] at hv;simp only[Nat.zero_mod,Nat.mul_zero,Nat.add_zero] at hv;obtain⟨t,h',s⟩:=Y;rcases hY with ⟨h0,⟨g,ht⟩,hh⟩ | ⟨h0,⟨g,ht⟩,hh⟩
  ·simp only at ht hh;subst ht hh;refine (Zc (Zg Zd Zs) (Zqy _ _ _ _ _ _ _ _ _ _ _ _ g) (Z2 (Xb (by omega)))).mono fun ex W hW=> ?_;obtain⟨rfl,⟨g',z1⟩,z2⟩:=hW;exact⟨rfl,O,hO,hOd,hv,.inl ⟨h0,⟨g',z1⟩,z2⟩⟩
  ·simp only at ht hh;subst ht hh;refine (Zc (Zg Zd Zs) (Zqy _ _ _ _ _ _ _ _ _ _ _ _ g) (Z2 (Xb (by omega)))).mono fun ex W hW=> ?_;obtain⟨rfl,⟨g',z1⟩,z2⟩:=hW;exact⟨rfl,O,hO,hOd,hv,.inr ⟨h0,⟨g',z1⟩,z2⟩⟩
end
end Go.Proofs.YtekebccjflilnaaGreat
