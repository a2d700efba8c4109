/-
  ConVL, ConVM, SlH, NumQ, ConNC, ConNB, UuX, ConND, NumTm, ConNM, ConNN, ConNO, ConNE, NumR, ConNF
-/
import Derived.Test.YtgefjidphfdhdaaGreatDoorG07
import Derived.Laws.MathBits
namespace Go.Proofs.YtgefjidphfdhdaaGreatDoor
open Go.Proofs.Tryz
open Go.IntKind
open Go.KRun Go.Nt
set_option maxRecDepth 100000
set_option linter.unusedVariables false
def paP (F:Func):List Code:=[Z2 (Zs F),Z2 (Z0 (Zs F)),Z2 (Z0 (Z0 (Zs F))),Z2 (Z0 (Z0 (Z0 (Zs F))))]
def paS (F:Func):Code:=Z0 (Z0 (Z0 (Z0 (Zs F))))
def paB (F:Func):Code:=Z2 (paS F)
def paL (F:Func):Code:=cIn (cIn (Z0 (paB F)))
def paE (F:Func):Code:=Z0 (paS F)
def paH (F:Func):Code:=Z2 (paL F)
def paX (F:Func):Code:=cIn (Z2 (Z0 (paL F)))
def paI (F:Func):Code:=Z0 (Z0 (paL F))
def x7 (F:Func):Code:=Z2 (paX F)
def x8 (F:Func):Code:=Z2 (Z0 (paX F))
def x9 (F:Func):Code:=Z2 (Z0 (Z0 (paX F)))
def x10 (F:Func):Code:=Z2 (Z0 (Z0 (Z0 (paX F))))
def x11 (F:Func):Code:=Z2 (Z0 (Z0 (Z0 (Z0 (paX F)))))
def xT (F:Func):Code:=Z0 (Z0 (Z0 (Z0 (Z0 (paX F)))))
def yL (F:Func):Code:=cIn (cIn (Z2 (xT F)))
def yH (F:Func):Code:=Z2 (yL F)
def yB (F:Func):Code:=cIn (Z0 (yL F))
def xE (F:Func):Code:=Z0 (xT F)
def hcP:Hc:=ZY 70 Z4j (ZY 35 ZlS (ZY 71 Zqf (ZY 69 gAt (ZY 68 Zg1 hcN))))
def pFr (o n c o' n' c' z:Nat) (r:Value) (i:Int) (v10 v11:Value):List Value:=[sl 0 o n c,sl 1 o' n' c',undef,undef,Zn,Zn,r,sl 2 0 z z,.int .i64 n',.int .i64 i,v10,v11]
def hB3 (wq lb la:List Value):Hp:=⟨3,[(wq,tU),(lb,tR),(la,tR)]⟩
def hB4 (wr wq lb la:List Value):Hp:=⟨4,[(wr,tU),(wq,tU),(lb,tR),(la,tR)]⟩
def hB5 (wp wr wq lb la:List Value):Hp:=⟨5,[(wp,tU),(wr,tU),(wq,tU),(lb,tR),(la,tR)]⟩
theorem ZzE:HcOk hcP:=Zt func70 rfl Zh2 (Zt func35 rfl Zfy (Zt func71 rfl Zi5 (Zt func69 rfl Zta (Zt func68 rfl Zed zp))))
theorem ZuH:f31.body=some (ZW (paP f31) (.seq (.seq (Z2 (paB f31)) (.block 0 (.loop (paL f31)))) (paE f31))):=by kernel_rfl
theorem Zmj:paL f31= .seq (paH f31) (.seq (.block 1 (paX f31)) (paI f31)):=by kernel_rfl
theorem Z8G:paX f31= .seq (x7 f31) (.seq (x8 f31) (.seq (x9 f31) (.seq (x10 f31) (.seq (x11 f31) (.seq (.block 2 (.loop (yL f31))) (xE f31)))))):=by kernel_rfl
theorem Z8H:yL f31= .seq (yH f31) (.block 3 (yB f31)):=by kernel_rfl
def aP (b o:Nat):Option Addr:=some ⟨b,o,none⟩
def inP (i:Int) (n:Nat):Bool×Bool:=(decide (0≤i∧i<(n:Int)),true)
def ceP (l:List Value) (o:Nat) (i x:Int):Bool×Bool:=(Z4 (l[o+i.toNat*1]?) (.int .u32 x),true)
def tR3 (R:List Int) (n':Nat):Int:=u64.wrap (u64.wrap (u64.wrap (u64.wrap (atN R n')*2^min (Int.toNat 32) 64)+u64.wrap (u64.wrap (atN R (i64.wrap ((n':Int)-1)))*2^min (Int.toNat 16) 64))+u64.wrap (atN R (i64.wrap ((n':Int)-2))))
def tB2 (x:Int) (L:List Int) (n':Nat):Int:=u64.wrap (u64.wrap (u64.wrap x*2^min (Int.toNat 16) 64)+u64.wrap (atN L (i64.wrap ((n':Int)-2))))
def Z5c (q:Int):Int:=if 65535<q then 65535 else q
theorem ZzF (o n c o' n' c':Nat) (la lb:List Value):Zg (evL (Zk prog Zf Zo hcP) 200 (paP f31) ([sl 0 o n c,sl 1 o' n' c']++List.replicate 93 undef,⟨2,[(lb,tR),(la,tR)]⟩,[at_]) ⟨[],[],[]⟩) 12 83 none [sl 0 o n c,sl 1 o' n' c',undef,undef,Zn,Zn,Zn,sl 2 0 (n:Int).toNat (n:Int).toNat,.int .i64 n',undef,undef,undef] (hB3 (List.replicate (n:Int).toNat (.int .u32 0)) lb la) [(ZO 4 (n:Int) (n:Int),true)]:=by and_intros<;>kernel_rfl
theorem Z5d (o n c o' n' c' z:Nat) (r v9 v10 v11:Value) (h:Hp) (g:Nat→Value):Zg (evC (Zk prog Zf Zo hcP) 200 false (Z2 (paB f31)) ([sl 0 o n c,sl 1 o' n' c',undef,undef,Zn,Zn,r,sl 2 0 z z,.int .i64 n',v9,v10,v11]++tl 83 g,h,[]) ⟨[],[],[]⟩) 12 83 none (pFr o n c o' n' c' z r (i64.wrap ((n:Int)-1)) v10 v11) h []:=by and_intros<;>kernel_rfl
theorem Z5e (o n c o' n' c' z:Nat) (r v10 v11:Value) (i:Int) (h:Hp) (g:Nat→Value):Zg (evC (Zk prog Zf Zo hcP) 200 false (paH f31) (pFr o n c o' n' c' z r i v10 v11++tl 83 g,h,[cmp true]) ⟨[],[],[]⟩) 12 83 none (pFr o n c o' n' c' z r i v10 v11) h [(decide (i≥0),true)]:=by and_intros<;>kernel_rfl
theorem Z5f (o n c o' n' c' z:Nat) (r v10 v11:Value) (i:Int) (h:Hp) (g:Nat→Value):Zg (evC (Zk prog Zf Zo hcP) 200 false (paH f31) (pFr o n c o' n' c' z r i v10 v11++tl 83 g,h,[cmp false]) ⟨[],[],[]⟩) 12 83 (some (some 0)) (pFr o n c o' n' c' z r i v10 v11) h [(decide (i≥0),false)]:=by and_intros<;>kernel_rfl
theorem Z5g (o n c o' n' c' z:Nat) (v10 v11:Value) (i d:Int) (wq lb la:List Value) (g:Nat→Value):Zg (evC (Zk prog Zf Zo hcP) 200 false (x7 f31) (pFr o n c o' n' c' z Zn i v10 v11++tl 83 g,hB3 wq lb la,[at_,val (.int .u32 d)]) ⟨[],[],[]⟩) 12 83 none (pFr o n c o' n' c' z (sl 3 0 (Zi (Zz [.int .u32 d] 0 1)) (Zi (Zz [.int .u32 d] 0 1))) i v10 v11) (hB4 [.int .u32 d] wq lb la) [(ZaQ tU [.int .u32 d] 0 1 1,true),ceP la o i d,inP i n]:=by and_intros<;>kernel_rfl
theorem Z5h (o n c o' n' c' z:Nat) (v10 v11:Value) (i d:Int) (wr wq lb la:List Value) (g:Nat→Value):Zg (evC (Zk prog Zf Zo hcP) 200 false (x7 f31) (pFr o n c o' n' c' z (sl 3 0 0 0) i v10 v11++tl 83 g,hB4 wr wq lb la,[at_,val (.int .u32 d)]) ⟨[],[],[]⟩) 12 83 none (pFr o n c o' n' c' z (sl 4 0 (Zi (Zz [.int .u32 d] 0 1)) (Zi (Zz [.int .u32 d] 0 1))) i v10 v11) (hB5 [.int .u32 d] wr wq lb la) [(ZaQ tU [.int .u32 d] 0 1 1,true),ceP la o i d,inP i n]:=by and_intros<;>kernel_rfl
theorem Z5i (o n c o' n' c' z k:Nat) (v10 v11:Value) (i d:Int) (wr wq lb la:List Value) (g:Nat→Value):Zg (evC (Zk prog Zf Zo hcP) 200 false (x7 f31) (pFr o n c o' n' c' z (sl 3 0 k k) i v10 v11++tl 83 g,hB4 wr wq lb la,[at_,val (.int .u32 d),num 0]) ⟨[],[],[]⟩) 12 83 none (pFr o n c o' n' c' z (sl 5 0 (Zi (Zz ([.int .u32 d]++List.take k (List.drop 0 wr)) 0 (1+k))) (Zi (Zz ([.int .u32 d]++List.take k (List.drop 0 wr)) 0 (1+k)))) i v10 v11) ⟨6,[(([.int .u32 d]++List.take k (List.drop 0 wr)),tU),([.int .u32 d],tU),(wr,tU),(wq,tU),(lb,tR),(la,tR)]⟩ [(ZaQ tU ([.int .u32 d]++List.take k (List.drop 0 wr)) 0 (1+k) grown,true),(Zdq ([.int .u32 d],tU) (wr,tU) 1 1 0 k,true),ceP la o i d,inP i n]:=by and_intros<;>kernel_rfl
theorem Z5j (o n c o' n' c' z k:Nat) (v10 v11:Value) (i:Int) (wr wq lb la:List Value) (g:Nat→Value):Zg (evC (Zk prog Zf Zo hcP) 200 false (x8 f31) (pFr o n c o' n' c' z (sl 3 0 k k) i v10 v11++tl 83 g,hB4 wr wq lb la,[cmp true]) ⟨[],[],[]⟩) 12 83 (some (some 1)) (pFr o n c o' n' c' z (sl 3 0 k k) i v10 v11) (hB4 wr wq lb la) [(decide (zY (vO (hB4 wr wq lb la) (aP 3 0) k) (vO (hB4 wr wq lb la) (aP 1 o') n')<0),true),(ZL (hB4 wr wq lb la) (aP 3 0) (aP 1 o') k k n' c',true)]:=by and_intros<;>kernel_rfl
theorem Z5k (o n c o' n' c' z k:Nat) (v10 v11:Value) (i:Int) (wr wq lb la:List Value) (g:Nat→Value):Zg (evC (Zk prog Zf Zo hcP) 200 false (x8 f31) (pFr o n c o' n' c' z (sl 3 0 k k) i v10 v11++tl 83 g,hB4 wr wq lb la,[cmp false]) ⟨[],[],[]⟩) 12 83 none (pFr o n c o' n' c' z (sl 3 0 k k) i v10 v11) (hB4 wr wq lb la) [(decide (zY (vO (hB4 wr wq lb la) (aP 3 0) k) (vO (hB4 wr wq lb la) (aP 1 o') n')<0),false),(ZL (hB4 wr wq lb la) (aP 3 0) (aP 1 o') k k n' c',true)]:=by and_intros<;>kernel_rfl
theorem Z8I (o n c o' n' c' z:Nat) (r v10 v11:Value) (i:Int) (h:Hp) (g:Nat→Value):Zg (evC (Zk prog Zf Zo hcP) 200 false (paI f31) (pFr o n c o' n' c' z r i v10 v11++tl 83 g,h,[]) ⟨[],[],[]⟩) 12 83 none (pFr o n c o' n' c' z r (i64.wrap (i-1)) v10 v11) h []:=by and_intros<;>kernel_rfl
theorem Z8J (o n c o' n' c' z k:Nat) (v10 v11:Value) (i:Int) (wr wq lb la:List Value) (g:Nat→Value):Zg (evC (Zk prog Zf Zo hcP) 200 false (x9 f31) (pFr o n c o' n' c' z (sl 3 0 k k) i v10 v11++tl 83 g,hB4 wr wq lb la,[]) ⟨[],[],[]⟩) 12 83 none (pFr o n c o' n' c' z (sl 3 0 k k) i (.int .u64 (tR3 (Zm (hB4 wr wq lb la) (aP 3 0) k) n')) v11) (hB4 wr wq lb la) [(zx (hB4 wr wq lb la) (aP 3 0) k k,true),(decide ((16:Int)<0),false),(zx (hB4 wr wq lb la) (aP 3 0) k k,true),(decide ((32:Int)<0),false),(zx (hB4 wr wq lb la) (aP 3 0) k k,true)]:=by and_intros<;>kernel_rfl
theorem Z5l (o n c o' n' c' z k:Nat) (v11:Value) (i t x q:Int) (wr wq lb la:List Value) (g:Nat→Value):Zg (evC (Zk prog Zf Zo hcP) 200 false (x10 f31) (pFr o n c o' n' c' z (sl 3 0 k k) i (.int .u64 t) v11++tl 83 g,hB4 wr wq lb la,[at_,val (.int .u32 x),num q]) ⟨[],[],[]⟩) 12 83 none (pFr o n c o' n' c' z (sl 3 0 k k) i (.int .u64 t) (.int .u64 (Z5c q))) (hB4 wr wq lb la) [(decide ((tB2 x (Zm (hB4 wr wq lb la) (aP 1 o') n') n')=0),false),(decide (u64.wrap (t.tdiv (tB2 x (Zm (hB4 wr wq lb la) (aP 1 o') n') n'))=q),true),(zx (hB4 wr wq lb la) (aP 1 o') n' c',true),(decide ((16:Int)<0),false),ceP lb o' (i64.wrap ((n':Int)-1)) x,inP (i64.wrap ((n':Int)-1)) n']:=by and_intros<;>kernel_rfl
def pV (h:Hp) (o' n':Nat) (e:Int):Nat:=vO h (aP 1 o') n'*(u32.wrap e).toNat+Int.toNat 0
theorem Z5m (o n c o' n' c' z k:Nat) (v10:Value) (i e:Int) (wr wq lb la:List Value) (g:Nat→Value):Zg (evC (Zk prog Zf Zo hcP) 200 false (x11 f31) (pFr o n c o' n' c' z (sl 3 0 k k) i v10 (.int .u64 e)++tl 83 g,hB4 wr wq lb la,[cmp true]) ⟨[],[],[]⟩) 13 82 none (pFr o n c o' n' c' z (sl 3 0 k k) i v10 (.int .u64 e)++[sl 4 0 (d16 (pV (hB4 wr wq lb la) o' n' e)).length (d16 (pV (hB4 wr wq lb la) o' n' e)).length]) (hB5 (wU (d16 (pV (hB4 wr wq lb la) o' n' e))) wr wq lb la) [(ZaZ (hB4 wr wq lb la) (aP 1 o') n' c' (u32.wrap e) 0,true),(decide (0<n'∨(0:Int)<0),true)]:=by and_intros<;>kernel_rfl
theorem Z5n (o n c o' n' c' z k j:Nat) (v10:Value) (i e:Int) (wp wr wq lb la:List Value) (g:Nat→Value):Zg (evC (Zk prog Zf Zo hcP) 200 false (yH f31) (pFr o n c o' n' c' z (sl 3 0 k k) i v10 (.int .u64 e)++[sl 4 0 j j]++tl 82 g,hB5 wp wr wq lb la,[cmp true]) ⟨[],[],[]⟩) 13 82 none (pFr o n c o' n' c' z (sl 3 0 k k) i v10 (.int .u64 e)++[sl 4 0 j j]) (hB5 wp wr wq lb la) [(decide (zY (vO (hB5 wp wr wq lb la) (aP 4 0) j) (vO (hB5 wp wr wq lb la) (aP 3 0) k)>0),true),(ZL (hB5 wp wr wq lb la) (aP 4 0) (aP 3 0) j j k k,true)]:=by and_intros<;>kernel_rfl
theorem Z5o (o n c o' n' c' z k j:Nat) (v10:Value) (i e:Int) (wp wr wq lb la:List Value) (g:Nat→Value):Zg (evC (Zk prog Zf Zo hcP) 200 false (yH f31) (pFr o n c o' n' c' z (sl 3 0 k k) i v10 (.int .u64 e)++[sl 4 0 j j]++tl 82 g,hB5 wp wr wq lb la,[cmp false]) ⟨[],[],[]⟩) 13 82 (some (some 2)) (pFr o n c o' n' c' z (sl 3 0 k k) i v10 (.int .u64 e)++[sl 4 0 j j]) (hB5 wp wr wq lb la) [(decide (zY (vO (hB5 wp wr wq lb la) (aP 4 0) j) (vO (hB5 wp wr wq lb la) (aP 3 0) k)>0),false),(ZL (hB5 wp wr wq lb la) (aP 4 0) (aP 3 0) j j k k,true)]:=by and_intros<;>kernel_rfl
theorem Z5p (o n c o' n' c' z k j:Nat) (v10:Value) (i e:Int) (wp wr wq lb la:List Value) (g:Nat→Value):Zg (evC (Zk prog Zf Zo hcP) 200 false (yB f31) (pFr o n c o' n' c' z (sl 3 0 k k) i v10 (.int .u64 e)++[sl 4 0 j j]++tl 82 g,hB5 wp wr wq lb la,[cmp true]) ⟨[],[],[]⟩) 13 82 none (pFr o n c o' n' c' z (sl 3 0 k k) i v10 (.int .u64 (u64.wrap (e-1)))++[sl 5 0 (d16 (vO (hB5 wp wr wq lb la) (aP 4 0) j-vO (hB5 wp wr wq lb la) (aP 1 o') n')).length (d16 (vO (hB5 wp wr wq lb la) (aP 4 0) j-vO (hB5 wp wr wq lb la) (aP 1 o') n')).length]) ⟨6,[(wU (d16 (vO (hB5 wp wr wq lb la) (aP 4 0) j-vO (hB5 wp wr wq lb la) (aP 1 o') n')),tU),(wp,tU),(wr,tU),(wq,tU),(lb,tR),(la,tR)]⟩ [(ZL (hB5 wp wr wq lb la) (aP 4 0) (aP 1 o') j j n' c' && Nat.ble (vO (hB5 wp wr wq lb la) (aP 1 o') n') (vO (hB5 wp wr wq lb la) (aP 4 0) j),true),(decide (0<j),true)]:=by and_intros<;>kernel_rfl
theorem Z8K (o n c o' n' c' z k j:Nat) (v10:Value) (i e:Int) (wp wr wq lb la:List Value) (g:Nat→Value):Zg (evC (Zk prog Zf Zo hcP) 200 false (xE f31) (pFr o n c o' n' c' z (sl 3 0 k k) i v10 (.int .u64 e)++[sl 4 0 j j]++tl 82 g,hB5 wp wr wq lb la,[cmp true,at_,at_]) ⟨[],[],[]⟩) 12 83 none (pFr o n c o' n' c' z (sl 5 0 (d16 (vO (hB5 wp wr wq lb la) (aP 3 0) k-vO (hB5 wp wr wq lb la) (aP 4 0) j)).length (d16 (vO (hB5 wp wr wq lb la) (aP 3 0) k-vO (hB5 wp wr wq lb la) (aP 4 0) j)).length) i v10 (.int .u64 e)) ⟨6,[(wU (d16 (vO (hB5 wp wr wq lb la) (aP 3 0) k-vO (hB5 wp wr wq lb la) (aP 4 0) j)),tU),(wp,tU),(wr,tU),(wq.set (0+i.toNat*1) (.int .u32 (u32.wrap e)),tU),(lb,tR),(la,tR)]⟩ [(decide (0+i.toNat*1<wq.length),true),inP i z,(ZL (hB5 wp wr wq lb la) (aP 3 0) (aP 4 0) k k j j && Nat.ble (vO (hB5 wp wr wq lb la) (aP 4 0) j) (vO (hB5 wp wr wq lb la) (aP 3 0) k),true),(decide (0<k),true)]:=by and_intros<;>kernel_rfl
theorem ZzG (o n c o' n' c' z k:Nat) (v9 v10 v11:Value) (wr wq lb la:List Value) (g:Nat→Value):Zg (evC (Zk prog Zf Zo hcP) 200 false (paE f31) ([sl 0 o n c,sl 1 o' n' c',undef,undef,Zn,Zn,sl 3 0 k k,sl 2 0 z z,.int .i64 n',v9,v10,v11]++tl 83 g,hB4 wr wq lb la,[]) ⟨[],[],[]⟩) 6 89 (some none) [sl 0 o n c,sl 1 o' n' c',undef,undef,sl 2 0 (Zi (Zz wq 0 z)) (Zi (Zz wq 0 z)),sl 3 0 k k] (hB4 wr wq lb la) [(ZaQ tU wq 0 z z,true)]:=by and_intros<;>kernel_rfl
theorem RunsW.next {T:Tab}{c1 c2:Code}{x:Lf}{front:List Value}{n:Nat}{h:Hp}{P:Ex→Lf→Prop}(h1:RunsW T c1 x fun e y=>e=none∧(∃ g,y.1=front++tl n g)∧y.2.1=h) (h2:∀ g s,RunsW T c2 (front++tl n g,h,s) P):RunsW T (.seq c1 c2) x P:=by
 refine RunsW.seq h1 (fun y hy=> ?_) (fun e y hy=>by cases hy.1);obtain⟨_,⟨g,e1⟩,e2⟩:=hy;obtain⟨t,hh,s⟩:=y;simp only at e1 e2;subst e1 e2;exact h2 g s
theorem ZbI {h:Hp}{b A:Nat}{ty:TypeId}(hb:h.blk? b=some (wU (d16 A),ty)):Zm h (aP b 0) (d16 A).length=d16 A:=by
 unfold Zm aP;simp only[hb];exact ZaV _
theorem Zq0 {h:Hp}{b A:Nat}{ty:TypeId}(hb:h.blk? b=some (wU (d16 A),ty)):vO h (aP b 0) (d16 A).length=A:=by
 unfold vO;rw[ZbI hb];exact Zc1 (by omega) A
theorem Zmk (A:Nat):∀ x∈d16 A,0≤x∧x<4294967296:=fun x hx=>⟨(Zbg A x hx).1,by have:=(Zbg A x hx).2;omega⟩
theorem Z4k {n:Nat}(h:n<1000000000):ZcY 0 n n=true:=by
 unfold ZcY;have:ZG n=true:=by unfold ZG;exact Zl.2 (by have:zo=4611686018427387904:=rfl;omega)
 rw[this,Nat.ble_eq_true_of_le (Nat.le_refl n)];rfl
theorem Zg7 {h:Hp}{b A:Nat}(hb:h.blk? b=some (wU (d16 A),tU)) (hl:(d16 A).length<1000000000):zx h (aP b 0) (d16 A).length (d16 A).length=true:=by
 unfold zx aP;simp only[hb];rw[Zal (Zmk A) (by omega) (Z4k hl),List.all_eq_true.2 (ZE _)];rfl
theorem ZdB {h:Hp}{p q:Option Addr}{n c n' c':Nat}(h1:zx h p n c=true) (h2:zx h q n' c'=true) (h3:∀ x∈Zm h p n,Dg 65536 x) (h4:∀ x∈Zm h q n',Dg 65536 x) (h5:max n n'+2<1073741824):ZL h p q n c n' c'=true:=by
 unfold ZL;rw[h1,h2,Zbv h3,Zbv h4,Zl.2 h5];rfl
theorem Zc8 {A k:Nat}(h:A<65536^k):(d16 A).length≤k:=Zbt (by omega) k A h
theorem ZiA (V:Nat) (i:Int):atN (d16 V) i=if 0≤i then ((V/65536^i.toNat % 65536:Nat):Int) else 0:=by
 unfold atN;split
 ·have h1:=Zh3 i.toNat V;have h2:=Zef (Zbg V) i.toNat;have h3:((d16 V).getD i.toNat 0).toNat=V/65536^i.toNat % 65536:=h1;have:=h2.1;omega
 ·rfl
theorem w64 {n:Int}(h0:0≤n) (h1:n<18446744073709551616):u64.wrap n=n:=by simp [IntKind.wrap,IntKind.bits,IntKind.signed];omega
theorem ZzH (V n:Nat) (hn:1≤n) (hn2:n<1000000):tR3 (d16 V) n=(Zqz V n:Int):=by
 have e1:i64.wrap ((n:Int)-1)=((n-1:Nat):Int):=by rw[Zw (by omega) (by omega)];omega
 have e2:i64.wrap ((n:Int)-2)=(n:Int)-2:=Zw (by omega) (by omega);have p32:(2:Int)^min (Int.toNat 32) 64=4294967296:=rfl;have p16:(2:Int)^min (Int.toNat 16) 64=65536:=rfl;have m1:=Nat.mod_lt (V/65536^n) (show 0<65536 by omega);have m2:=Nat.mod_lt (V/65536^(n-1)) (show 0<65536 by omega);have m3:=Nat.mod_lt (V/65536^(n-2)) (show 0<65536 by omega);unfold tR3 Zqz;rw[e1,e2,p32,p16,ZiA,ZiA,ZiA,if_pos (by omega),if_pos (by omega),Xg,Xg];by_cases h2:2≤n
 ·have e3:((n:Int)-2).toNat=n-2:=by omega
  rw[if_pos (by omega),if_pos h2,e3];generalize V/65536^n % 65536=a at*;generalize V/65536^(n-1) % 65536=b at*;generalize V/65536^(n-2) % 65536=d at*;rw[w64 (n:=(a:Int)) (by omega) (by omega),w64 (n:=(a:Int)*4294967296) (by omega) (by omega),w64 (n:=(b:Int)) (by omega) (by omega),w64 (n:=(b:Int)*65536) (by omega) (by omega),w64 (n:=(d:Int)) (by omega) (by omega),w64 (n:=(a:Int)*4294967296+(b:Int)*65536) (by omega) (by omega),w64 (by omega) (by omega)];omega
 ·rw[if_neg (by omega),if_neg h2];generalize V/65536^n % 65536=a at*;generalize V/65536^(n-1) % 65536=b at*;rw[w64 (n:=(a:Int)) (by omega) (by omega),w64 (n:=(a:Int)*4294967296) (by omega) (by omega),w64 (n:=(b:Int)) (by omega) (by omega),w64 (n:=(b:Int)*65536) (by omega) (by omega),w64 (n:=(0:Int)) (by omega) (by omega),w64 (n:=(a:Int)*4294967296+(b:Int)*65536) (by omega) (by omega),w64 (by omega) (by omega)];omega
theorem ZzI {L:List Int}(hC:Zbq 65536 L) (hn:1≤L.length) (hn2:L.length<1000000):tB2 (L.getD (L.length-1) 0) L L.length=(Zpd (vb 65536 L) L.length:Int):=by
 have e2:i64.wrap ((L.length:Int)-2)=(L.length:Int)-2:=Zw (by omega) (by omega);have p16:(2:Int)^min (Int.toNat 16) 64=65536:=rfl;obtain⟨B,hB⟩:∃ B,B=vb 65536 L:=⟨_,rfl⟩;have eL:L=d16 B:=by rw[hB];exact (Zi1 (by omega) hC).symm
 have ex:L.getD (L.length-1) 0=((B/65536^(L.length-1) % 65536:Nat):Int):=by
  have h1:=Zh3 (L.length-1) B;have h2:=(Zef hC.1 (L.length-1)).1;have h3:(L.getD (L.length-1) 0).toNat=B/65536^(L.length-1) % 65536:=by
   rw[← h1];show (L.getD _ 0).toNat=((d16 B).getD _ 0).toNat;rw[← eL]
  omega
 have ea:atN L ((L.length:Int)-2)=if 0≤(L.length:Int)-2 then ((B/65536^((L.length:Int)-2).toNat % 65536:Nat):Int) else 0:=by
  have:=ZiA B ((L.length:Int)-2);rw[← eL] at this;exact this
 have m2:=Nat.mod_lt (B/65536^(L.length-1)) (show 0<65536 by omega);have m3:=Nat.mod_lt (B/65536^(L.length-2)) (show 0<65536 by omega);unfold tB2 Zpd;rw[← hB,e2,p16,ea,ex];by_cases h2:2≤L.length
 ·have e3:((L.length:Int)-2).toNat=L.length-2:=by omega
  rw[if_pos (by omega),if_pos h2,e3];generalize B/65536^(L.length-1) % 65536=b at*;generalize B/65536^(L.length-2) % 65536=d at*;rw[w64 (n:=(b:Int)) (by omega) (by omega),w64 (n:=(b:Int)*65536) (by omega) (by omega),w64 (n:=(d:Int)) (by omega) (by omega),w64 (by omega) (by omega)];omega
 ·rw[if_neg (by omega),if_neg h2];generalize B/65536^(L.length-1) % 65536=b at*;rw[w64 (n:=(b:Int)) (by omega) (by omega),w64 (n:=(b:Int)*65536) (by omega) (by omega),w64 (n:=(0:Int)) (by omega) (by omega),w64 (by omega) (by omega)];omega
structure Two (la lb:List Value) (o o' c':Nat) (A L:List Int):Prop where
 ra:Row la o A
 rb:Row lb o' L
 dA:∀ x∈A,Dg 65536 x
 cL:Zbq 65536 L
 n1:1≤L.length
 n2:L.length<1000000
 a1:1≤A.length
 a2:A.length<1000000
 cb:ZaQ tR lb o' L.length c'=true
 sb:∀ v∈lb,still v=true
 sa:∀ v∈la,still v=true
 eb:Zz lb o' L.length=L
section
variable {la lb : List Value} {o c o' c' : Nat} {A L : List Int}
theorem Two.row (H:Two la lb o o' c' A L) {h:Hp}(hb:h.blk? 1=some (lb,tR)):zx h (aP 1 o') L.length c'=true∧Zm h (aP 1 o') L.length=L∧vO h (aP 1 o') L.length=vb 65536 L:=by
 have e:Zm h (aP 1 o') L.length=L:=by
  unfold Zm aP;simp only[hb];exact H.eb
 refine⟨?_,e,by unfold vO;rw[e]⟩;unfold zx aP;simp only[hb];rw[H.cb,List.all_eq_true.2 H.sb];rfl
theorem Two.bnd (H:Two la lb o o' c' A L):65536^(L.length-1)≤vb 65536 L∧vb 65536 L<65536^L.length∧0<vb 65536 L:=by
 have h1:=ZzD H.cL H.n1;have h2:=ZbG (b:=65536) (by omega) L H.cL.1;have:0<65536^(L.length-1):=Nat.pow_pos (by omega);exact⟨h1,h2,by omega⟩
theorem Zb1:TabOk (Zk prog Zf Zo hcP):=Zh Zd ZzE
theorem Zq1 (V:Nat) {d:Int}(hd:Dg 65536 d):Zi (d::d16 V)=(d16 (d.toNat+65536*V)).length∧wU (d::d16 V)=wU (d16 (d.toNat+65536*V))++wU ((d::d16 V).drop (Zi (d::d16 V))):=by
 have hD:∀ x∈d::d16 V,Dg 65536 x:=fun x hx=>by
  rcases List.mem_cons.1 hx with rfl | hx
  ·exact hd
  ·exact Zbg V x hx
 have ev:vb 65536 (d::d16 V)=d.toNat+65536*V:=by
  simp only[vb];rw[show vb 65536 (d16 V)=V from Zc1 (by omega) V]
 have h1:=Zaj (b:=65536) (by omega) hD;have h2:=zf (b:=65536) (by omega) _ hD;rw[ev] at h1 h2;refine⟨h1,?_⟩;rw[← ZU];congr 1;show _=db 65536 _++_;rw[← h2,List.take_append_drop]
theorem ZzJ {d:Int}(hd:Dg 65536 d):∀ x∈d::([]:List Int),0≤x∧x<4294967296:=fun x hx=>by
 rw[List.mem_singleton.1 hx];exact⟨hd.1,by have:=hd.2;omega⟩
theorem Zq2 {wq:List Value}(hq:∀ v∈wq,still v=true) (hb:∀ v∈lb,still v=true) (ha:∀ v∈la,still v=true) {h:Hp}(h0:h.blk? 0=some (la,tR)) (h1:h.blk? 1=some (lb,tR)) (h2:h.blk? 2=some (wq,tU)):∀ i x,(⟨3,[(wq,tU),(lb,tR),(la,tR)]⟩:Hp).blk? i=some x→h.blk? i=some x∧∀ v∈x.1,still v=true:=by
 intro i x hx;have hi:i<3:=Hp.blk_lt hx;have h3:i=0∨i=1∨i=2:=by omega
 rcases h3 with rfl | rfl | rfl
 ·have:(la,tR)=x:=Option.some.inj hx;subst this;exact⟨h0,ha⟩
 ·have:(lb,tR)=x:=Option.some.inj hx;subst this;exact⟨h1,hb⟩
 ·have:(wq,tU)=x:=Option.some.inj hx;subst this;exact⟨h2,hq⟩
theorem Zte {n n' z t:Nat}{i:Int}{v10 v11:Value}(k1:KRun.lt 4 v10=true) (k2:KRun.lt 4 v11=true):∀ v∈pFr o n c o' n' c' z (sl 3 0 t t) i v10 v11,KRun.lt 4 v=true:=by
 intro v hv;simp only[pFr,List.mem_cons,List.not_mem_nil,or_false] at hv;rcases hv with rfl | rfl | rfl | rfl | rfl | rfl | rfl | rfl | rfl | rfl | rfl | rfl
 ·rfl
 ·rfl
 ·rfl
 ·rfl
 ·rfl
 ·rfl
 ·rfl
 ·rfl
 ·rfl
 ·rfl
 ·exact k1
 ·exact k2
end
end Go.Proofs.YtgefjidphfdhdaaGreatDoor
namespace Go.Proofs.YtgefjidphfdhdaaGreatDoor.Na
open Go.KRun Go.Nt
set_option maxRecDepth 100000
set_option linter.unusedVariables false
def Z8L (H:Hp) (p:Option Addr) (n c V:Nat):Prop:=zx H p n c=true∧Zm H p n=d32 V
theorem Zh4 (V:Nat):wds (d32 V):=ZjP (by omega) V
theorem Zq3 {L:List Int}(n:Nat):Zz (wU L) 0 n=L.take n:=by
 unfold Zz ZbR wU;rw[List.drop_zero,← List.map_take,List.map_map];exact (List.map_congr_left fun z _=>rfl).trans (List.map_id' _)
theorem Z5q {H:Hp}{b V m:Nat}(hb:H.blk? b=some (wU (dg m (V:Int)),tU)) (hV:V<4294967296^m) (hm:m≤1000):Z8L H (some ⟨b,0,none⟩) (Zi (dg m (V:Int))) m V:=by
 have hw:=Zbd m (V:Int);have hl:=ZZ m (V:Int);have ht:=zQ (dg m (V:Int));refine⟨?_,?_⟩
 ·unfold zx;simp only[hb];unfold ZaQ;have e1:Zad tU=false:=by kernel_rfl
  have e2:Nat.beq (rt tU) tU=true:=by kernel_rfl
  have e3:Nat.ble (0+Zi (dg m (V:Int))) (wU (dg m (V:Int))).length=true:=Nat.ble_eq_true_of_le (by rw[Zak];omega);have e4:Nat.blt (Zi (dg m (V:Int))) 4611686018427387904=true:=Zl.2 (by omega);have e5:((ZbR (wU (dg m (V:Int))) 0 (Zi (dg m (V:Int)))).all isU)=true:=by
   unfold ZbR;rw[List.drop_zero];refine List.all_eq_true.2 fun v hv=> ?_;have hv:=List.mem_of_mem_take hv;unfold wU at hv;obtain⟨x,hx,rfl⟩:=List.mem_map.1 hv;exact Xa (hw x hx)
  have e6:ZcY 0 (Zi (dg m (V:Int))) m=true:=by
   unfold ZcY;rw[show ZG m=true from Zl.2 (by have:zo=4611686018427387904:=rfl;omega),Nat.ble_eq_true_of_le (by omega)];rfl
  rw[e1,e2,e3,e4,e5,e6,List.all_eq_true.2 (ZE _)];rfl
 ·unfold Zm;simp only[hb];rw[Zq3];refine Zu5 ?_;have:((4294967296^m:Nat):Int)=4294967296^m:=by rw[Int.natCast_pow];rfl
  rw[← this];omega
end Go.Proofs.YtgefjidphfdhdaaGreatDoor.Na
namespace Go.Nt
theorem Zdw:∀ (m:Nat) (V c:Int),dg m (V+4294967296^m*c)=dg m V
 | 0,_,_=>rfl
 | m+1,V,c=>by
  simp only[dg];rw[pw,Int.mul_assoc];generalize hZ:(4294967296:Int)^m*c=Z;have e1:(V+4294967296*Z) % 4294967296=V % 4294967296:=by omega
  have e2:(V+4294967296*Z)/4294967296=V/4294967296+Z:=by omega
  rw[e1,e2,← hZ,Zdw m]
theorem Zeh {k:Nat}(h:k≤32):(2:Int)^k*2^(32-k)=4294967296:=by
 rw[← Int.pow_add,show k+(32-k)=32 from by omega];rfl
theorem Ztf {k:Nat}{z y:Int}(z0:0≤z) (y0:0≤y) (y1:y<2^k) (hs:2^k*z+y<4294967296):(((BitVec.ofInt 32 (2^k*z) ||| BitVec.ofInt 32 y).toNat:Nat):Int)=2^k*z+y:=by
 obtain⟨Z,rfl⟩:=Int.eq_ofNat_of_zero_le z0;obtain⟨Y,rfl⟩:=Int.eq_ofNat_of_zero_le y0;have ex:(2:Int)^k*(Z:Nat)=((2^k*Z:Nat):Int):=by simp
 have hY:Y<2^k:=by
  have:((Y:Nat):Int)<((2^k:Nat):Int):=by simpa using y1
  exact Int.ofNat_lt.1 this
 rw[ex] at hs ⊢;have hX:2^k*Z+Y<4294967296:=by omega
 have e1:∀ m:Nat,m<4294967296→(BitVec.ofInt 32 (m:Int)).toNat=m:=fun m hm=>by
  simp;omega
 rw[BitVec.toNat_or,e1 _ (by omega),e1 _ (by omega),← Nat.two_pow_add_eq_or_of_lt hY];omega
theorem ZuI {x l q r:Int}(hq:1≤q) (hr:1≤r) (hqr:q*r=4294967296) (hx:0≤x∧x<4294967296) (hl:0≤l∧l<q):
  x*q=4294967296*(x/r)+q*(x % r)∧0≤q*(x % r)∧q*(x % r)+l<4294967296∧0≤x/r∧x/r<q:=by
 have h1:=Int.mul_ediv_add_emod x r;have h2:=Int.emod_nonneg x (show r≠0 by omega);have h3:=Int.emod_lt_of_pos x (show 0<r by omega);have h4:0≤x/r:=Int.ediv_nonneg hx.1 (by omega);generalize x/r=hi at*;generalize x % r=lo at*;have e1:x*q=4294967296*hi+q*lo:=by
  rw[← h1,← hqr,Int.add_mul,Int.mul_assoc q r hi,Int.mul_comm (r*hi) q,Int.mul_comm lo q]
 have e2:q*lo+q≤4294967296:=by
  have:=Int.mul_le_mul_of_nonneg_left (show lo+1≤r by omega) (show 0≤q by omega);rw[Int.mul_add,Int.mul_one,hqr] at this;exact this
 refine⟨e1,Int.mul_nonneg (by omega) h2,by omega,h4,?_⟩;rcases Int.lt_or_le hi q with h | h
 ·exact h
 ·exfalso
  have:=Int.mul_le_mul_of_nonneg_left h (show 0≤r by omega);rw[Int.mul_comm r q,hqr] at this;omega
theorem Zml {P a b q x l d e A:Int}(he:x*q+l=d+4294967296*e) (h:a+P*((x+4294967296*A)*q+l)=b):a+P*d+4294967296*P*(A*q+e)=b:=by
 rw[← h];have e1:(x+4294967296*A)*q+l=d+4294967296*(A*q+e):=by
  rw[Int.add_mul,Int.mul_assoc];omega
 rw[e1];generalize A*q+e=Z;rw[Int.mul_add P d,← Int.mul_assoc P 4294967296 Z,Int.mul_comm P 4294967296];omega
end Go.Nt
namespace Go.Proofs.YtgefjidphfdhdaaGreatDoor.Na
open Go.Proofs.Tryz
open Go.IntKind
open Go.KRun Go.Nt
set_option maxRecDepth 100000
def upU (x k:Int):Int:=u32.wrap (x*2^min k.toNat 32)
def Zq4 (x k l:Int):Int:=brr (upU x k) l
def Zq5 (x k:Int):Int:=x.fdiv (2^min (i64.wrap (32-k)).toNat 32)
theorem Z8v {x l:Int}{k:Nat}(hx:0≤x∧x<4294967296) (hl:0≤l∧l<2^k) (hk:k<32):
  (0≤Zq4 x k l∧Zq4 x k l<4294967296)∧(0≤Zq5 x k∧Zq5 x k<2^k)∧x*2^k+l=Zq4 x k l+4294967296*Zq5 x k:=by
 have q1:(1:Int)≤2^k:=by have:(0:Int)<2^k:=Int.pow_pos (by omega);omega
 have r1:(1:Int)≤2^(32-k):=by have:(0:Int)<2^(32-k):=Int.pow_pos (by omega);omega
 obtain⟨u1,u2,u3,u4,u5⟩:=ZuI q1 r1 (Zeh (by omega)) hx hl;have eL:Zq5 x k=x/2^(32-k):=by
  unfold Zq5;rw[Zw (by omega) (by omega),show min ((32:Int)-(k:Nat)).toNat 32=32-k from by omega,Int.fdiv_eq_ediv_of_nonneg _ (by omega)]
 have eU:upU x k=2^k*(x % 2^(32-k)):=by
  unfold upU;rw[Xg,show min k 32=k from by omega,Zhj,u1];omega
 have lo0:=Int.emod_nonneg x (show (2:Int)^(32-k)≠0 by omega);have eN:Zq4 x k l=2^k*(x % 2^(32-k))+l:=by
  unfold Zq4 brr;rw[eU,Ztf lo0 hl.1 hl.2 u3,Zhj];omega
 rw[eL,eN];omega
def mR0 (F:Func):List Code:=[Z2 (Zs F),Z2 (Z0 (Zs F))]
def mL (F:Func):Code:=cIn (cIn (Z0 (Z0 (Zs F))))
theorem ZiB:f130.body=some (ZW (mR0 f130) (.block 0 (.loop (mL f130)))):=by kernel_rfl
def mF (w k l i x s n j:Value):List Value:=[w,k,undef,undef,l,i,x,s,n,j]
def hU (S la:List Value):Hp:=⟨2,[(S,tU),(la,tR)]⟩
theorem Zmm (b o n c:Nat) (k:Value) (h:Hp):Zg (evL (Zq prog Zf Zo true) 100 (mR0 f130) ([sl b o n c,k]++List.replicate 25 undef,h,[]) ⟨[],[],[]⟩) 10 17 none (mF (sl b o n c) k (uu 0) undef undef (sl b o n c) (i6' n) (i6' 0)) h []:=by and_intros<;>kernel_rfl
theorem Zmn (w k l i x s:Value) (n:Nat) (j:Int) (h:Hp) (g:Nat→Value):Zg (evC (Zq prog Zf Zo true) 100 false (mL f130) (mF w k l i x s (i6' n) (i6' j)++tl 17 g,h,[cmp false]) ⟨[],[],[]⟩) 10 17 (some (some 0)) (mF w k l i x s (i6' n) (i6' j)) h [(decide (j<n),false)]:=by and_intros<;>kernel_rfl
theorem ZzK (o n c:Nat) (k l j x:Int) (i0 x0:Value) (la S:List Value) (g:Nat→Value):Zg (evC (Zq prog Zf Zo true) 100 false (mL f130) (mF (sl 1 o n c) (i6' k) (uu l) i0 x0 (sl 1 o n c) (i6' n) (i6' j)++tl 17 g,hU S la,[cmp true,at_,val (uu x),at_,at_]) ⟨[],[],[]⟩) 10 17 none
  (mF (sl 1 o n c) (i6' k) (uu (Zq5 x k)) (i6' j) (uu x) (sl 1 o n c) (i6' n) (i6' (i64.wrap (j+1)))) (hU (S.set (o+j.toNat*1) (uu (Zq4 x k l))) la) [(decide (i64.wrap (32-k)<0),false),(decide (o+j.toNat*1<S.length),true),inR j n,(decide (k<0),false),ZcP S o j x,inR j n,(decide (j<n),true)]:=by and_intros<;>kernel_rfl
theorem Zmo (w k l i x s n j:Value) (h:Hp) (g:Nat→Value):ZV prog f130 (mF w k l i x s n j++tl 17 g) h=some (.tuple #[]):=by kernel_rfl
def ZaK:List UInt8:=(List.range 256).map fun i=>UInt8.ofNat (bitLen i)
def Zei (z:Int):Int:=((ZaK.getD (u8.wrap z).toNat 0).toNat:Int)
def lt8 (z:Int):Bool×Bool:=(decide (0≤u8.wrap z∧(u8.wrap z).toNat<ZaK.length),true)
def shd (z:Int) (k:Nat):Int:=z.fdiv (2^k)
def geq (z k:Int) (d:Bool):Bool×Bool:=(decide (z≥k),d)
def Zf3 (m z:Int):Value:= .int .i64 (i64.wrap (m+i64.wrap (Zei z)))
def nz:Bool×Bool:=(false,false)
theorem ZzL (u:Int):ZD (Zr (Zq prog Zf Zo true) 3000 169 [uu u] [tst false,tst false]) (Zf3 0 u) [lt8 u,geq u 256 false,geq u 65536 false]:=by and_intros<;>kernel_rfl
theorem ZzM (u:Int):ZD (Zr (Zq prog Zf Zo true) 3000 169 [uu u] [tst false,tst true]) (Zf3 8 (shd u 8)) [lt8 (shd u 8),nz,geq u 256 true,geq u 65536 false]:=by and_intros<;>kernel_rfl
theorem ZzN (u:Int):ZD (Zr (Zq prog Zf Zo true) 3000 169 [uu u] [tst true,tst false]) (Zf3 16 (shd u 16)) [lt8 (shd u 16),geq (shd u 16) 256 false,nz,geq u 65536 true]:=by and_intros<;>kernel_rfl
theorem ZzO (u:Int):ZD (Zr (Zq prog Zf Zo true) 3000 169 [uu u] [tst true,tst true]) (Zf3 24 (shd (shd u 16) 8)) [lt8 (shd (shd u 16) 8),nz,geq (shd u 16) 256 true,nz,geq u 65536 true]:=by and_intros<;>kernel_rfl
theorem Zde:ZaK.length=256:=by unfold ZaK;rw[List.length_map,List.length_range]
theorem Zdf (b:Nat) (h:b<256):(ZaK.getD b 0).toNat=bitLen b:=by
 have h1:ZaK.getD b 0=UInt8.ofNat (bitLen b):=by
  unfold ZaK;rw[List.getD,List.getElem?_map,List.getElem?_range h];rfl
 have h2:=bitLen_le8 b h;rw[h1,UInt8.toNat_ofNat'];omega
theorem Zh5 {z:Int}(h0:0≤z) (h1:z<256):u8.wrap z=z:=by
 simp [IntKind.wrap,IntKind.bits,IntKind.signed];omega
theorem zZ {m:Int}{Z:Nat}(hm:0≤m) (hm':m≤56) (h1:Z<256):Zf3 m (Z:Int)= .int .i64 (m+bitLen Z)∧(lt8 (Z:Int)).1=(lt8 (Z:Int)).2:=by
 have hb:=bitLen_le8 Z h1;have e:=Zh5 (z:=(Z:Int)) (by omega) (by omega);refine⟨?_,?_⟩
 ·unfold Zf3 Zei;rw[e,Xg,Zdf Z h1,Zw (n:=((bitLen Z:Nat):Int)) (by omega) (by omega),Zw (by omega) (by omega)]
 ·unfold lt8;rw[e,Xg];rw[Zde];exact Xa (And.intro (by omega) h1)
theorem Zej (Z k:Nat):shd (Z:Int) k=((Z/2^k:Nat):Int):=by
 unfold shd;rw[Int.fdiv_eq_ediv_of_nonneg _ (Int.le_of_lt (Int.pow_pos (by omega)))];simp
theorem Zmp {z k:Int}(h:k≤z):(geq z k true).1=(geq z k true).2:=Xa h
theorem Zf4 {z k:Int}(h:z<k):(geq z k false).1=(geq z k false).2:=Xb (by omega)
theorem Zbh:nz.1=nz.2:=rfl
theorem ZaL (x b:Nat) (h:2^b≤x):bitLen x=b+bitLen (x/2^b):=bitLen_shift x b (by
 have:0<x/2^b:=Nat.div_pos h (Nat.two_pow_pos b);omega)
def Zmq (u:Int):Value:= .int .i64 (bitLen u.toNat:Nat)
theorem Zh6 (u:Int) (h0:0≤u) (h1:u<4294967296) (w:World):Calls prog 169 #[uu u] w fun e w'=>e= .returned (Zmq u)∧Za0 w w':=by
 obtain⟨U,rfl⟩:=Int.eq_ofNat_of_zero_le h0;unfold Zmq;rw[Xg];have p8:(2:Nat)^8=256:=rfl;have p16:(2:Nat)^16=65536:=rfl;have step:∀ {v:Value}{s:List Dec}{cs:Log},ZD (Zr (Zq prog Zf Zo true) 3000 169 [uu (U:Int)] s) v cs→Zx cs→v= .int .i64 (bitLen U:Nat)→Calls prog 169 #[uu (U:Int)] w fun e w'=>e= .returned (.int .i64 (bitLen U:Nat))∧Za0 w w':=
  fun {v s cs} hf hc hv=>by subst hv;exact Ze (Zp Zd) hf hc (by rfl) (by rfl) w
 by_cases b:U<65536
 ·by_cases c:U<256
  ·obtain⟨e1,e2⟩:=zZ (m:=0) (by omega) (by omega) c;exact step (ZzL U) (Zj e2 (Zj (Zf4 (by omega)) (Zu (Zf4 (by omega))))) (by rw[e1];congr 1;omega)
  ·have l:=ZaL U 8 (by omega);obtain⟨e1,e2⟩:=zZ (m:=8) (Z:=U/2^8) (by omega) (by omega) (by omega);rw[← Zej] at e1 e2;exact step (ZzM U) (Zj e2 (Zj Zbh (Zj (Zmp (by omega)) (Zu (Zf4 (by omega)))))) (by rw[e1];congr 1;omega)
 ·have l:=ZaL U 16 (by omega);by_cases c:U/2^16<256
  ·obtain⟨e1,e2⟩:=zZ (m:=16) (Z:=U/2^16) (by omega) (by omega) c;rw[← Zej] at e1 e2;exact step (ZzN U) (Zj e2 (Zj (Zf4 (by rw[Zej];omega)) (Zj Zbh (Zu (Zmp (by omega)))))) (by rw[e1];congr 1;omega)
  ·have l2:=ZaL (U/2^16) 8 (by omega);obtain⟨e1,e2⟩:=zZ (m:=24) (Z:=U/2^16/2^8) (by omega) (by omega) (by omega);rw[← Zej,← Zej] at e1 e2;exact step (ZzO U) (Zj e2 (Zj Zbh (Zj (Zmp (by rw[Zej];omega)) (Zj Zbh (Zu (Zmp (by omega))))))) (by rw[e1];congr 1;omega)
def Zmr:Ans:=fun vals s=>
 match vals with
 | [.int .u32 x]=>some (Zmq x,s,[(decide (0≤x∧x<4294967296),true)])
 | _=>none
theorem Zms:zT 169 Zmr:=by
 intro vals s v s' lg h hl w;unfold Zmr at h;split at h
 ·rename_i x;cases h;have hr:=hl _ Xf;simp only[Xi] at hr;exact Zh6 x hr.1 hr.2 w
 ·cases h
def Zhk:Con:=alt 169 Zmr Zo
theorem Zdg:ConOk Zhk:=ZM func169 rfl Zms Zd
theorem Zmt:f129.body=some (Zs f129):=by kernel_rfl
theorem ZzP (p:Option Addr) (n c:Nat) (h:Hp):Zg (evC (Zk prog Zf Zhk hcK) 100 false (Zs f129) ([.slice p n c]++List.replicate 22 undef,h,[cmp true]) ⟨[],[],[]⟩) 3 20 (some none) [.slice p n c,undef,i6' 0] h [((n:Int)==0,true)]:=by and_intros<;>kernel_rfl
theorem Zq6 (o n c:Nat) (l:List Value):Zg (evC (Zk prog Zf Zhk hcK) 100 false (Zs f129) ([sl 0 o n c]++List.replicate 22 undef,⟨1,[(l,tR)]⟩,[cmp false,cmp true]) ⟨[],[],[]⟩) 3 20 (some none) [sl 0 o n c,undef,i6' 0] ⟨1,[(l,tR)]⟩ [Zhy l o n c,(ZS (Zz l o n),true),((n:Int)==0,false)]:=by and_intros<;>kernel_rfl
theorem Zmu (o n c:Nat) (x:Int) (l:List Value):Zg (evC (Zk prog Zf Zhk hcK) 100 false (Zs f129) ([sl 0 o n c]++List.replicate 22 undef,⟨1,[(l,tR)]⟩,[cmp false,cmp false,at_,val (uu x)]) ⟨[],[],[]⟩) 3 20 (some none) [sl 0 o n c,undef,i6' (i64.wrap (i64.wrap (n1 n*32)+(bitLen x.toNat:Nat)))] ⟨1,[(l,tR)]⟩ [(decide (0≤x∧x<4294967296),true),(Z4 (l[o+(n1 n).toNat*1]?) (.int .u32 x),true),(decide (0≤n1 n∧n1 n<n),true),Zhy l o n c,(ZS (Zz l o n),false),((n:Int)==0,false)]:=by and_intros<;>kernel_rfl
def Ze2 (L:List Int):Int:=match (L.length==0 || ZS L) with | true=>0 | false=>32*((L.length-1:Nat):Int)+(bitLen (L.getD (L.length-1) 0).toNat:Nat)
theorem Zek {x:Int}(h0:0≤x) (h1:x<4294967296):bitLen x.toNat≤32:=by
 by_cases h:65536≤x.toNat
 ·have p8:(2:Nat)^8=256:=rfl;have p16:(2:Nat)^16=65536:=rfl;have l:=ZaL x.toNat 16 (by omega);by_cases h2:256≤x.toNat/2^16
  ·have l2:=ZaL (x.toNat/2^16) 8 (by omega);have:=bitLen_le8 (x.toNat/2^16/2^8) (by omega);omega
  ·have:=bitLen_le8 (x.toNat/2^16) (by omega);omega
 ·have p8:(2:Nat)^8=256:=rfl;by_cases h2:256≤x.toNat
  ·have l2:=ZaL x.toNat 8 (by omega);have:=bitLen_le8 (x.toNat/2^8) (by omega);omega
  ·have:=bitLen_le8 x.toNat (by omega);omega
theorem Zmv {l:List Value}{o n c:Nat}(ha:Z8 tR l o n c=true):
  Runs (Zk prog Zf Zhk hcK) (Zs f129) ([sl 0 o n c]++List.replicate 22 undef,⟨1,[(l,tR)]⟩,[]) fun e y=>(e=none∨e=some none)∧ZV prog f129 y.1 y.2.1=some (i6' (Ze2 (Zz l o n))):=by
 obtain⟨a1,a2,a3,a4,a5,a6,a7⟩:=ZH ha;unfold Ze2;by_cases h0:n=0
 ·have e0:((Zz l o n).length==0)=true:=by rw[a2,h0];rfl
  rw[e0,Bool.true_or];refine (Zc (Zh Zdg ZeO) (ZzP (some ⟨0,o,none⟩) n c _) (Zu (by rw[h0];rfl))).mono fun e y he=> ?_;obtain⟨rfl,⟨g,e2⟩,e3⟩:=he;refine⟨.inr rfl,?_⟩;rw[e2,e3];rfl
 ·have e0:((Zz l o n).length==0)=false:=by rw[a2];simpa using h0
  have e1:((n:Int)==0)=false:=by simpa using h0
  rw[e0,Bool.false_or];cases hb:ZS (Zz l o n) with
  | true=>
   refine (Zc (Zh Zdg ZeO) (Zq6 o n c l) (Zj ha (Zj hb (Zu e1)))).mono fun e y he=> ?_;obtain⟨rfl,⟨g,e2⟩,e3⟩:=he;refine⟨.inr rfl,?_⟩;rw[e2,e3];rfl
  | false=>
   have h8:n≤8192:=by
    unfold ZS at hb;simp only[Bool.or_eq_false_iff,decide_eq_false_iff_not,a2] at hb;omega
   have ek:n1 n=((n-1:Nat):Int):=by
    unfold n1;rw[Zw (by omega) (by omega)];omega
   rw[a2];have hx:=a1.rng ((Zz l o n).getD (n-1) 0) (by
    have hk':n-1<(Zz l o n).length:=by omega
    simp [List.getD,List.getElem?_eq_getElem hk'])
   have hc:=a1.cell (k:=n-1) (by omega);have b32:=Zek hx.1 hx.2;refine (Zc (Zh Zdg ZeO) (Zmu o n c ((Zz l o n).getD (n-1) 0) l) (Zj (Xa hx) (Zj (by
    rw[ek,Xg,Nat.mul_one,hc];simp [Z4]) (Zj (by rw[ek];exact Xa (by omega)) (Zj ha (Zj hb (Zu e1))))))).mono fun e y he=> ?_
   obtain⟨rfl,⟨g,e2⟩,e3⟩:=he;refine⟨.inr rfl,?_⟩;have e4:i64.wrap (i64.wrap (n1 n*32)+(bitLen ((Zz l o n).getD (n-1) 0).toNat:Nat))=32*((n-1:Nat):Int)+(bitLen ((Zz l o n).getD (n-1) 0).toNat:Nat):=by
    rw[ek,Zw (n:=((n-1:Nat):Int)*32) (by omega) (by omega),Zw (by omega) (by omega)];omega
   rw[e2,e3,e4];rfl
theorem Zq7:ZD (Zr (Zq prog Zf Zo true) 100 129 [Zn] []) (i6' 0) []:=by and_intros<;>kernel_rfl
def Z5r:Zae:=fun vals h s=>
 match vals with
 | [.slice none 0 0]=>some (i6' 0,h,s,[])
 | [.slice (some ⟨b,o,none⟩) n c]=>
  match h.blk? b with
  | some x=>some (i6' (Ze2 (Zz x.1 o n)),h,s,[(Z8 x.2 x.1 o n c,true)])
  | _=>none
 | _=>none
theorem ZuJ:Z6 129 Z5r:=by
 intro vals h s v h' s' lg hg hl m B w E hv;unfold Z5r at hg;split at hg
 ·cases hg;refine (Ze (Zp Zd) Zq7 (fun x hx=>by cases hx) (by rfl) (by rfl) w).mono fun e w' he=> ?_;obtain⟨E',hb⟩:=ZT E he.2;exact⟨m,he.1,⟨Agree.refl _ _,E',hb,Nat.le_refl _,rfl⟩⟩
 ·rename_i b o n c;split at hg
  ·rename_i x hx;cases hg;have ra:=hl _ Xf;obtain⟨h1,h2,h3,h4,h5,h6,h7⟩:=ZH ra;have hlt:=Hp.blk_lt hx;have r:=Zmv (zJ ra);have:=zn (T:=Zk prog Zf Zhk hcK) func129 Zmt (ZaH h7) (vals:=[sl 0 o n c]) (fun v hv=>by rw[List.mem_singleton.1 hv];rfl) (by rfl) r E (s:=fun _=>b) (fun i _=>hlt) (zS hx h5 h6 rfl);exact this.mono fun e w' he=>⟨m,he.1,he.2⟩
  ·cases hg
 ·cases hg
end Go.Proofs.YtgefjidphfdhdaaGreatDoor.Na
namespace Go.Proofs.YtgefjidphfdhdaaGreatDoor
open Go.KRun Go.Nt
set_option maxRecDepth 100000
theorem Zbs (L:List Int):(wU L).all still=true:=by
 unfold wU;rw[List.all_eq_true];intro v hv;obtain⟨x,_,rfl⟩:=List.mem_map.1 hv;rfl
end Go.Proofs.YtgefjidphfdhdaaGreatDoor
namespace Go.Proofs.YtgefjidphfdhdaaGreatDoor.Na
open Go.Proofs.Tryz
open Go.IntKind
open Go.KRun Go.Nt
set_option maxRecDepth 100000
theorem Ztg {F:List Value}{o:Nat}(hF:F.length=o) (dx:List Int) (x:Int) (px:List Int):(F++wU (dx++x::px))[o+dx.length]? =some (uu x):=by
 rw[List.getElem?_append_right (by omega),hF,Nat.add_sub_cancel_left];exact ZsW dx x px
theorem Zth {F:List Value}{o:Nat}(hF:F.length=o) (dx:List Int) (x d:Int) (px:List Int):(F++wU (dx++x::px)).set (o+dx.length) (uu d)=F++wU ((dx++[d])++px):=by
 rw[List.set_append_right _ _ (by omega),hF,Nat.add_sub_cancel_left,Ziw]
theorem Zq8 {F la:List Value}{o c k:Nat}{L:List Int}(hF:F.length=o) (hL:wds L) (hk:k<32) (hN:L.length<4611686018427387904):
  Runs (Zq prog Zf Zo true) (ZW (mR0 f130) (.block 0 (.loop (mL f130)))) ([sl 1 o L.length c,i6' k]++List.replicate 25 undef,hU (F++wU L) la,[]) fun e y=>(e=none∨e=some none)∧ZV prog f130 y.1 y.2.1=some (.tuple #[])∧y.2.1.cut 2=hU (F++wU (dg L.length (vN L*2^k))) la:=by
 refine Z3 (Zp Zd) (Zmm 1 o L.length c (i6' k) _) (fun x hx=>by cases hx) fun g=> ?_;refine (Runs.forLoop (R:=fun _=>False) (P:=fun y=>∃ (l i x j:Value) (g:Nat→Value),y.1=mF (sl 1 o L.length c) (i6' k) l i x (sl 1 o L.length c) (i6' L.length) j++tl 17 g∧y.2.1=hU (F++wU (dg L.length (vN L*2^k))) la)
  (fun r y=>∃ (dx px:List Int) (l:Int) (i0 x0:Value) (g:Nat→Value),px.length=r∧dx.length+px.length=L.length∧wds dx∧wds px∧(0≤l∧l<2^k)∧y.1=mF (sl 1 o L.length c) (i6' k) (uu l) i0 x0 (sl 1 o L.length c) (i6' L.length) (i6' dx.length)++tl 17 g∧y.2.1=hU (F++wU (dx++px)) la∧vN dx+4294967296^dx.length*(vN px*2^k+l)=vN L*2^k)
  ?_ (n:=L.length) ⟨[],L,0,undef,undef,g,rfl,by simp,(fun x hx=>by cases hx),hL,⟨by omega,Int.pow_pos (by omega)⟩,rfl,rfl,by simp [vN]⟩).mono fun e' y he=> ?_
 ·rintro r ⟨t,h',s'⟩ ⟨dx,px,l,i0,x0,g,hr,hl,wd1,wd2,hlo,ht,hh,hv⟩;simp only at ht hh;subst ht hh
  match px,hr,hl,wd2,hv with
  | [],hr,hl,wd2,hv=>
   have hl':dx.length=L.length:=by simpa using hl
   refine (Zc (Zp Zd) (Zmn _ _ _ _ _ _ L.length dx.length _ g) (Zu (Xb (by omega)))).mono fun e' y he=> ?_;obtain⟨rfl,⟨g1,e2⟩,e3⟩:=he;refine⟨rfl,_,_,_,_,g1,e2,?_⟩;simp only[vN] at hv;rw[Int.zero_mul,Int.zero_add] at hv;have e5:=Zdw dx.length (vN dx) l;rw[hv,Zhz dx wd1,hl'] at e5;rw[e3,e5,List.append_nil]
  | x::px,hr,hl,wd2,hv=>
   obtain⟨wx,wd2⟩:=Zax wd2;obtain⟨k1,k2,k3⟩:=Z8v wx hlo hk;have cS:=Ztg hF dx x px;have lS:(F++wU (dx++x::px)).length=o+L.length:=by
    unfold wU;simp at hl ⊢;omega
   have hl':dx.length<L.length:=by simp at hl;omega
   have l1:decide (o+((dx.length:Int)).toNat*1<(F++wU (dx++x::px)).length)=true:=by
    rw[lS,Xg];exact Xa (by omega)
   have l2:(inR dx.length L.length).1=(inR dx.length L.length).2:=Xa (by omega);have l4:(ZcP (F++wU (dx++x::px)) o dx.length x).1=(ZcP (F++wU (dx++x::px)) o dx.length x).2:=Za2 cS;have e32:i64.wrap (32-(k:Int))=32-(k:Int):=Zw (by omega) (by omega);have l5:decide (i64.wrap (32-(k:Int))<0)=false:=by
    rw[e32];exact Xb (by omega)
   have l6:decide ((k:Int)<0)=false:=Xb (by omega);have l7:decide ((dx.length:Int)<(L.length:Nat))=true:=Xa (by omega);refine (Zc (Zp Zd) (ZzK o L.length c k l dx.length x i0 x0 la (F++wU (dx++x::px)) g) (Zj l5 (Zj l1 (Zj l2 (Zj l6 (Zj l4 (Zj l2 (Zu l7)))))))).mono fun e' y he=> ?_;obtain⟨rfl,⟨g1,e2⟩,e3⟩:=he;refine⟨px.length,by simp at hr;omega,dx++[Zq4 x k l],px,Zq5 x k,i6' dx.length,uu x,g1,rfl,by simp at hl ⊢;omega,Zas wd1 (fun z hz=>by rw[List.mem_singleton.1 hz];exact k1),wd2,k2,?_,?_,?_⟩
   ·rw[e2,Zw (by omega) (by omega)];simp
   ·rw[e3,Xg,Nat.mul_one,Zth hF]
   ·simp only[vN] at hv;rw[z8,List.length_append,List.length_singleton,pw];exact Zml k3 hv
 ·match e',he with
  | none,he=>
   obtain⟨l,i,x,j,g,e1,e2⟩:=he;refine⟨.inl rfl,?_,?_⟩
   ·rw[e1];exact Zmo _ _ _ _ _ _ _ _ _ _
   ·rw[e2];rfl
  | some none,he=>exact he.elim
  | some (some _),he=>exact he.elim
def upS (S:List Value) (o n:Nat) (k:Int):List Value:=S.take o++wU (dg n (vN (Zz S o n)*2^k.toNat))
def Z5s:Zae:=fun vals h s=>
 match vals,h with
 | [.slice (some ⟨1,o,none⟩) n c,.int .i64 k],⟨2,[(S,t),(la,t')]⟩=>some (.tuple #[],⟨2,[(upS S o n k,tU),(la,tR)]⟩,s,[(Nat.beq t tU,true),(Nat.beq t' tR,true),(Z8 t S o n c,true),(Nat.beq (o+n) S.length,true),(la.all still,true),(decide (0≤k∧k<32),true)])
 | _,_=>none
theorem Zc9 (L:List Int) (n:Nat):(wU L).all (lt1 n)=true:=by
 unfold wU;rw[List.all_eq_true];intro v hv;obtain⟨x,_,rfl⟩:=List.mem_map.1 hv;rfl
theorem zD {l:List Value}{n:Nat}(hn:0<n) (h:l.all still=true):l.all (lt1 n)=true:=by
 rw[List.all_eq_true] at*;exact fun v hv=>zv hn (h v hv)
theorem ZuK:Z6 130 Z5s:=by
 intro vals h s v h' s' lg hg hl m B w E hv;unfold Z5s at hg;split at hg
 ·rename_i o n c k S t la t';cases hg;have q1:=Xj (hl _ (Xe));have q2:=Xj (hl _ (Xd _ Xe));have ra:=hl _ (Xd _ (Xd _ Xe));have q4:=Xj (hl _ (Xd _ (Xd _ (Xd _ Xe))));have q5:=hl _ (Xd _ (Xd _ (Xd _ (Xd _ Xe))));have q6:=Xc (hl _ (Xd _ (Xd _ (Xd _ (Xd _ (Xd _ Xf))))));simp only at q1 q2 q4 q5;subst q1 q2;obtain⟨a1,a2,a3,a4,a5,a6,a7⟩:=ZH ra;obtain⟨K,rfl⟩:=Int.eq_ofNat_of_zero_le q6.1;have hc:c<4611686018427387904:=Zl.1 a4;have eS:S=S.take o++wU (Zz S o n):=by
   have h1:=a1.cut;rw[a2] at h1;rw[← h1];unfold ZbR;rw[show n=(S.drop o).length from by simp;omega,List.take_length,List.take_append_drop]
  have hF:(S.take o).length=o:=by simp;omega
  have r:=Zq8 (la:=la) (c:=c) (k:=K) hF a1.rng (by omega) (by omega);rw[a2,← eS] at r;have ht:(Hp.tight ⟨2,[(upS S o n K,tU),(la,tR)]⟩)=true:=by
   unfold Hp.tight upS;simp only[List.all_cons,List.all_nil,List.all_append,Bool.and_true,Xh];refine⟨⟨?_,Zc9 _ _⟩,zD (by omega) q5⟩;rw[List.all_eq_true];exact fun v hv=>zv (by omega) (a7 v (List.mem_of_mem_take hv))
  exact zi (T:=Zq prog Zf Zo true) func130 ZiB (vals:=[sl 1 o n c,i6' K]) (v:= .tuple #[]) (h:=hU S la) (by rfl) ht r m B w E hv
 ·cases hg
end Go.Proofs.YtgefjidphfdhdaaGreatDoor.Na
namespace Go.Nt
theorem Zmw:∀ (m:Nat) (V:Int),vN (dg m V)+4294967296^m*(V/4294967296^m)=V
 | 0,V=>by simp [dg,vN]
 | m+1,V=>by
  have h:=Zmw m (V/4294967296);simp only[dg,vN];rw[pw,← Int.ediv_ediv_of_nonneg (show (0:Int)≤4294967296 by omega),Int.mul_assoc];omega
theorem ZuL {P a b x y z k d e A B:Int}(he:k+(x*y+z)=d+4294967296*e) (h:a+P*((z+4294967296*A)+x*(y+4294967296*B)+k)=b):a+P*d+4294967296*P*(A+x*B+e)=b:=by
 rw[← h];have e1:(z+4294967296*A)+x*(y+4294967296*B)+k=d+4294967296*(A+x*B+e):=by
  rw[Int.mul_add x y,← Int.mul_assoc x 4294967296 B,Int.mul_comm x 4294967296,Int.mul_assoc 4294967296 x B];omega
 rw[e1];generalize A+x*B+e=Z;rw[Int.mul_add P d,← Int.mul_assoc P 4294967296 Z,Int.mul_comm P 4294967296];omega
theorem ZzQ {x y:Int}(hx:0≤x∧x<4294967296) (hy:0≤y∧y<4294967296):0≤x*y∧x*y≤18446744065119617025:=by
 constructor
 ·exact Int.mul_nonneg hx.1 hy.1
 ·have h1:x*y≤4294967295*y:=Int.mul_le_mul_of_nonneg_right (by omega) hy.1;omega
theorem Z5t {M B x Q:Int}(hM:0≤M∧M<Q) (hB:0≤B∧B<Q) (hx:0≤x∧x<4294967296):0≤M+x*B∧M+x*B<Q*4294967296:=by
 have h0:=Int.mul_nonneg hx.1 hB.1;have h1:x*B≤4294967295*B:=Int.mul_le_mul_of_nonneg_right (by omega) hB.1;omega
theorem Zq9 {T Q:Int}(hQ:0<Q) (h:0≤T∧T<Q*4294967296):0≤T/Q∧T/Q<4294967296:=
 ⟨Int.ediv_nonneg h.1 (by omega),Int.ediv_lt_of_lt_mul hQ (by rw[Int.mul_comm];exact h.2)⟩
theorem ZqA {M:List Int}{T:Int}(hT:0≤T∧T<4294967296^M.length*4294967296):∃ y m,dg M.length T++[T/4294967296^M.length]=y::m∧m.length=M.length∧wds [y]∧wds m∧y+4294967296*vN m=T:=by
 have hc:=Zq9 (ZaI M.length) hT;have hw:wds (dg M.length T++[T/4294967296^M.length]):=Zas (Zbd _ _) (fun x hx=>by rw[List.mem_singleton.1 hx];exact hc);have hl:(dg M.length T++[T/4294967296^M.length]).length=M.length+1:=by rw[List.length_append,ZZ];rfl
 have hv:vN (dg M.length T++[T/4294967296^M.length])=T:=by rw[z8,ZZ];exact Zmw _ _
 cases h:dg M.length T++[T/4294967296^M.length] with
 | nil=>rw[h] at hl;simp at hl
 | cons y m=>
  rw[h] at hw hl hv;obtain⟨w1,w2⟩:=Zax hw;refine⟨y,m,rfl,by simpa using hl,fun x hx=>by rw[List.mem_singleton.1 hx];exact w1,w2,hv⟩
theorem ZuM {P d m A B x y m':Int}(hT:y+4294967296*m'=m+x*B) (h:d+P*m=A*B):d+P*y+4294967296*P*m'=(A+P*x)*B:=by
 have e1:P*y+4294967296*P*m'=P*(m+x*B):=by
  rw[← hT,Int.mul_add,← Int.mul_assoc P 4294967296 m',Int.mul_comm P 4294967296]
 rw[Int.add_mul,← h,Int.mul_assoc P x B];rw[Int.mul_add] at e1;omega
theorem Zti:∀ n:Nat,vN (List.replicate n 0)=0
 | 0=>rfl
 | n+1=>by
  rw[List.replicate_succ];simp only[vN];rw[Zti n];rfl
end Go.Nt
namespace Go.Proofs.YtgefjidphfdhdaaGreatDoor.Na
open Go.Proofs.Tryz
open Go.IntKind
open Go.KRun Go.Nt
set_option maxRecDepth 100000
set_option linter.unusedVariables false
def tK (k x y z:Int):Int:=u64.wrap (k+u64.wrap (u64.wrap (u64.wrap x*u64.wrap y)+u64.wrap z))
def tC (k x y z:Int):Int:=(tK k x y z).fdiv (2^min (Int.toNat 32) 64)
def tD (k x y z:Int):Int:=u32.wrap (tK k x y z)
theorem ZuN {k x y z:Int}(hk:0≤k∧k<4294967296) (hx:0≤x∧x<4294967296) (hy:0≤y∧y<4294967296) (hz:0≤z∧z<4294967296):
  (0≤tD k x y z∧tD k x y z<4294967296)∧(0≤tC k x y z∧tC k x y z<4294967296)∧k+(x*y+z)=tD k x y z+4294967296*tC k x y z:=by
 have hxy:=ZzQ hx hy;have e:tK k x y z=k+(x*y+z):=by
  unfold tK;simp only[Zd1];rw[Int.emod_eq_of_lt hx.1 (by omega),Int.emod_eq_of_lt hy.1 (by omega),Int.emod_eq_of_lt hz.1 (by omega),Int.emod_eq_of_lt hxy.1 (by omega),Int.emod_eq_of_lt (by omega) (by omega),Int.emod_eq_of_lt (by omega) (by omega)]
 unfold tD tC;rw[e,Zhj,show ((2:Int)^min (Int.toNat 32) 64)=4294967296 from by decide,Int.fdiv_eq_ediv_of_nonneg _ (by omega)];generalize x*y=W at*;omega
def tmP (F:Func):List Code:=[Z2 (Zs F),Z2 (Z0 (Zs F)),Z2 (Z0 (Z0 (Zs F)))]
def tmB (F:Func):Code:=Z2 (Z0 (Z0 (Z0 (Zs F))))
def tmL (F:Func):Code:=cIn (cIn (Z0 (tmB F)))
def tmE (F:Func):Code:=Z0 (Z0 (Z0 (Z0 (Zs F))))
def tmF (o n c o' c':Nat) (x k:Int) (v8 v9 u1 u2 u3 u4:Value) (j:Int):List Value:=[sl 2 o n c,sl 1 o' n c',uu x,undef,undef,undef,uu 0,.int .u64 k,v8,v9,u1,u2,u3,u4,sl 1 o' n c',i6' n,i6' j]
theorem ZuO:f170.body=some (ZW (tmP f170) (.seq (.seq (Z2 (tmB f170)) (.block 0 (.loop (tmL f170)))) (tmE f170))):=by kernel_rfl
def tmA (o n c o' c':Nat) (x:Int):List Value:=[sl 2 o n c,sl 1 o' n c',uu x,undef,undef,undef,uu 0,.int .u64 0,undef,undef,sl 2 o n c,sl 1 o' n c',i6' n,sl 2 o n c]
theorem ZzR (o n c o' c':Nat) (x:Int) (S la lb:List Value):Zg (evL (Zq prog Zf Zo true) 100 (tmP f170) ([sl 2 o n c,sl 1 o' n c',uu x]++List.replicate 41 undef,h3 la lb S,[num 0]) ⟨[],[],[]⟩) 14 30 none (tmA o n c o' c' x) (h3 la lb S) [(ZG c,true),(ze 0 n c c,true),(decide ((c:Int)=0∧(0:Int)≠0),false)]:=by and_intros<;>kernel_rfl
theorem Z5u (o n c o' c':Nat) (x:Int) (S la lb:List Value) (g:Nat→Value):Zg (evC (Zq prog Zf Zo true) 100 false (Z2 (tmB f170)) (tmA o n c o' c' x++tl 30 g,h3 la lb S,[]) ⟨[],[],[]⟩) 17 27 none (tmF o n c o' c' x 0 undef undef (sl 2 o n c) (sl 1 o' n c') (i6' n) (sl 2 o n c) 0) (h3 la lb S) []:=by and_intros<;>kernel_rfl
theorem ZzS (o n c o' c':Nat) (x k j:Int) (v8 v9 u1 u2 u3 u4:Value) (S la lb:List Value) (g:Nat→Value):Zg (evC (Zq prog Zf Zo true) 100 false (tmL f170) (tmF o n c o' c' x k v8 v9 u1 u2 u3 u4 j++tl 27 g,h3 la lb S,[cmp false]) ⟨[],[],[]⟩) 17 27 (some (some 0)) (tmF o n c o' c' x k v8 v9 u1 u2 u3 u4 j) (h3 la lb S) [(decide (j<n),false)]:=by and_intros<;>kernel_rfl
theorem Z5v (o n c o' c':Nat) (x k j y z:Int) (v8 v9 u1 u2 u3 u4:Value) (S la lb:List Value) (g:Nat→Value):Zg (evC (Zq prog Zf Zo true) 100 false (tmL f170) (tmF o n c o' c' x k v8 v9 u1 u2 u3 u4 j++tl 27 g,h3 la lb S,[cmp true,at_,val (uu y),at_,val (uu z),at_,at_]) ⟨[],[],[]⟩) 17 27 none (tmF o n c o' c' x (tC k x y z) (i6' j) (uu y) u1 u2 u3 u4 (i64.wrap (j+1))) (h3 la lb (S.set (o+j.toNat*1) (uu (tD k x y z)))) [(decide ((32:Int)<0),false),(decide (o+j.toNat*1<S.length),true),inR j n,ZcP S o j z,inR j n,ZcP lb o' j y,inR j n,(decide (j<n),true)]:=by and_intros<;>kernel_rfl
theorem ZzT (o n c o' c':Nat) (x k j:Int) (v8 v9 u1 u2 u3 u4:Value) (h:Hp) (g:Nat→Value):Zg (evC (Zq prog Zf Zo true) 100 false (tmE f170) (tmF o n c o' c' x k v8 v9 u1 u2 u3 u4 j++tl 27 g,h,[]) ⟨[],[],[]⟩) 7 37 (some none) [sl 2 o n c,sl 1 o' n c',uu x,undef,undef,undef,uu (u32.wrap k)] h []:=by and_intros<;>kernel_rfl
theorem Zel {F:List Value}{o:Nat}(hF:F.length=o) (dx:List Int) (x:Int) (px:List Int) (R:List Value):(F++(wU (dx++x::px)++R))[o+dx.length]? =some (uu x):=by
 rw[← List.append_assoc,List.getElem?_append_left (by unfold wU;simp;omega)];exact Ztg hF dx x px
theorem Zem {F:List Value}{o:Nat}(hF:F.length=o) (dx:List Int) (x d:Int) (px:List Int) (R:List Value):(F++(wU (dx++x::px)++R)).set (o+dx.length) (uu d)=F++(wU ((dx++[d])++px)++R):=by
 rw[← List.append_assoc,List.set_append_left _ _ (by unfold wU;simp;omega),Zth hF,List.append_assoc]
def tmR (M B:List Int) (x:Int):List Int:=dg M.length (vN M+x*vN B)
def tmC (M B:List Int) (x:Int):Int:=(vN M+x*vN B)/4294967296^M.length
theorem ZuP {F R la lb:List Value}{o c o' c':Nat}{M LB:List Int}{x:Int}(hF:F.length=o) (hM:wds M) (RB:Row lb o' LB) (hl:M.length=LB.length) (hN:M.length<1099511627776) (hx:0≤x∧x<4294967296) (hc:M.length≤c) (hs:ZG c=true):
  Runs (Zq prog Zf Zo true) (ZW (tmP f170) (.seq (.seq (Z2 (tmB f170)) (.block 0 (.loop (tmL f170)))) (tmE f170))) ([sl 2 o M.length c,sl 1 o' M.length c',uu x]++List.replicate 41 undef,h3 la lb (F++(wU M++R)),[]) fun e y=>(e=none∨e=some none)∧ZV prog f170 y.1 y.2.1=some (uu (tmC M LB x))∧y.2.1.cut 3=h3 la lb (F++(wU (tmR M LB x)++R)):=by
 have hwB:=RB.rng;have hcs:c<4611686018427387904:=Zl.1 hs;refine Z3 (Zp Zd) (ZzR o M.length c o' c' x _ la lb) (Zj hs (Zj (by unfold ze;exact Xa (by omega)) (Zu (Xb (by omega))))) fun g=> ?_;refine Runs.seq (P1:=fun e' y=>e'=none∧∃ (k j:Int) (v8 v9 u1 u2 u3 u4:Value) (g:Nat→Value),y.1=tmF o M.length c o' c' x k v8 v9 u1 u2 u3 u4 j++tl 27 g∧(0≤k∧k<4294967296)∧k=tmC M LB x∧y.2.1=h3 la lb (F++(wU (tmR M LB x)++R))) ?_ ?_ (fun e y he=>by cases he.1)
 ·refine Runs.seq (P1:=fun e' y=>e'=none∧(∃ g,y.1=tmF o M.length c o' c' x 0 undef undef (sl 2 o M.length c) (sl 1 o' M.length c') (i6' M.length) (sl 2 o M.length c) 0++tl 27 g)∧y.2.1=h3 la lb (F++(wU M++R))) (Zc (Zp Zd) (Z5u o M.length c o' c' x _ la lb g) (fun x hx=>by cases hx)) ?_ (fun e y he=>by cases he.1);rintro⟨t,h',s'⟩ ⟨_,⟨g1,ht⟩,hh⟩;simp only at ht hh;subst ht hh;refine (Runs.forLoop (R:=fun _=>False) (P:=fun y=>∃ (k j:Int) (v8 v9 u1 u2 u3 u4:Value) (g:Nat→Value),y.1=tmF o M.length c o' c' x k v8 v9 u1 u2 u3 u4 j++tl 27 g∧(0≤k∧k<4294967296)∧k=tmC M LB x∧y.2.1=h3 la lb (F++(wU (tmR M LB x)++R)))
   (fun r y=>∃ (dx px bx:List Int) (k:Int) (v8 v9 u1 u2 u3 u4:Value) (g:Nat→Value),px.length=r∧dx.length+px.length=M.length∧wds dx∧wds px∧bx=LB.drop dx.length∧(0≤k∧k<4294967296)∧y.1=tmF o M.length c o' c' x k v8 v9 u1 u2 u3 u4 dx.length++tl 27 g∧y.2.1=h3 la lb (F++(wU (dx++px)++R))∧vN dx+4294967296^dx.length*(vN px+x*vN bx+k)=vN M+x*vN LB)
   ?_ (n:=M.length) ⟨[],M,LB,0,undef,undef,_,_,_,_,g1,rfl,by simp,(fun x hx=>by cases hx),hM,rfl,by omega,rfl,rfl,by simp [vN]⟩).mono fun e' y he=> ?_
  ·rintro r ⟨t,h',s'⟩ ⟨dx,px,bx,k,v8,v9,u1,u2,u3,u4,g,hr,hlen,wd1,wd2,hb,hk,ht,hh,hv⟩;simp only at ht hh;subst ht hh
   match px,hr,hlen,wd2,hv with
   | [],hr,hlen,wd2,hv=>
    have hl':dx.length=M.length:=by simpa using hlen
    refine (Zc (Zp Zd) (ZzS o M.length c o' c' x k dx.length v8 v9 u1 u2 u3 u4 _ la lb g) (Zu (Xb (by omega)))).mono fun e' y he=> ?_;obtain⟨rfl,⟨g1,e2⟩,e3⟩:=he;have hbx:bx=[]:=by rw[hb,List.drop_eq_nil_of_le (by omega)]
    subst hbx;simp only[vN] at hv;rw[Int.mul_zero,Int.zero_add,Int.zero_add] at hv;have hbd:=Zbe dx wd1;refine⟨rfl,k,dx.length,v8,v9,u1,u2,u3,u4,g1,e2,hk,?_,?_⟩
    ·unfold tmC;rw[← hv,← hl',Int.add_mul_ediv_left _ _ (by have:=ZaI dx.length;omega),Int.ediv_eq_zero_of_lt hbd.1 hbd.2,Int.zero_add]
    ·unfold tmR;rw[e3,← hv,← hl',Zdw,Zhz dx wd1,List.append_nil]
   | z::px,hr,hlen,wd2,hv=>
    obtain⟨wz,wd2⟩:=Zax wd2;have hl':dx.length<M.length:=by simp at hlen;omega
    have hy:=RB.cell (k:=dx.length) (by omega);have hyr:=hwB (LB.getD dx.length 0) (by
     have hk':dx.length<LB.length:=by omega
     simp [List.getD,List.getElem?_eq_getElem hk'])
    have hbx:bx=LB.getD dx.length 0::LB.drop (dx.length+1):=by
     have hk':dx.length<LB.length:=by omega
     rw[hb,List.drop_eq_getElem_cons hk'];simp [List.getD,List.getElem?_eq_getElem hk']
    generalize LB.getD dx.length 0=yv at*;obtain⟨k1,k2,k3⟩:=ZuN hk hx hyr wz;have cS:=Zel hF dx z px R;have lS:o+dx.length<(F++(wU (dx++z::px)++R)).length:=(List.getElem?_eq_some_iff.1 cS).1;have l1:decide (o+((dx.length:Int)).toNat*1<(F++(wU (dx++z::px)++R)).length)=true:=by
     rw[Xg,Nat.mul_one];exact Xa lS
    have l2:(inR dx.length M.length).1=(inR dx.length M.length).2:=Xa (by omega);refine (Zc (Zp Zd) (Z5v o M.length c o' c' x k dx.length yv z v8 v9 u1 u2 u3 u4 _ la lb g) (Zj (by decide) (Zj l1 (Zj l2 (Zj (Za2 cS) (Zj l2 (Zj (Za2 hy) (Zj l2 (Zu (Xa (by omega))))))))))).mono fun e' y he=> ?_;obtain⟨rfl,⟨g1,e2⟩,e3⟩:=he;refine⟨px.length,by simp at hr;omega,dx++[tD k x yv z],px,LB.drop (dx.length+1),tC k x yv z,i6' dx.length,uu yv,u1,u2,u3,u4,g1,rfl,by simp at hlen ⊢;omega,Zas wd1 (fun u hu=>by rw[List.mem_singleton.1 hu];exact k1),wd2,by simp,k2,?_,?_,?_⟩
    ·rw[e2,Zw (by omega) (by omega)];simp
    ·rw[e3,Xg,Nat.mul_one,Zem hF]
    ·rw[hbx] at hv;simp only[vN] at hv;rw[z8,List.length_append,List.length_singleton,pw];exact ZuL k3 hv
  ·match e',he with
   | none,he=>exact⟨rfl,he⟩
   | some none,he=>exact he.elim
   | some (some _),he=>exact he.elim
 ·rintro⟨t,h',s'⟩ ⟨_,k,j,v8,v9,u1,u2,u3,u4,g,ht,hk,hkv,hh⟩;simp only at ht hh;subst ht hh;refine (Zc (Zp Zd) (ZzT o M.length c o' c' x k j v8 v9 u1 u2 u3 u4 _ g) (fun x hx=>by cases hx)).mono fun e' y he=> ?_;obtain⟨rfl,⟨g1,e2⟩,e3⟩:=he;have ek:u32.wrap k=tmC M LB x:=by rw[Zhj,Int.emod_eq_of_lt hk.1 hk.2,hkv]
  rw[ek] at e2;refine⟨.inr rfl,?_,?_⟩
  ·rw[e2,e3];rfl
  ·rw[e3];rfl
def tmS (S:List Value) (o n:Nat) (L:List Int):List Value:=S.take o++(wU L++S.drop (o+n))
def ZzU (S lb la:List Value) (t t' t'':TypeId) (o n c o' n' c':Nat) (x:Int):Bool:=Nat.beq t tU && Nat.beq t' tR && Nat.beq t'' tR && Z8 t S o n c && Z8 t' lb o' n' c' && Nat.beq n n' && Nat.blt n 1099511627776 && la.all still && decide (0≤x∧x<4294967296)
def Z5w:Zae:=fun vals h s=>
 match vals,h with
 | [.slice (some ⟨2,o,none⟩) n c,.slice (some ⟨1,o',none⟩) n' c',.int .u32 x],⟨3,[(S,t),(lb,t'),(la,t'')]⟩=>some (uu (tmC (Zz S o n) (Zz lb o' n') x),⟨3,[(tmS S o n (tmR (Zz S o n) (Zz lb o' n') x),tU),(lb,tR),(la,tR)]⟩,s,[(ZzU S lb la t t' t'' o n c o' n' c' x,true)])
 | _,_=>none
theorem ZuQ:Z6 170 Z5w:=by
 intro vals h s v h' s' lg hg hl m B w E hv;unfold Z5w at hg;split at hg
 ·rename_i o n c o' n' c' x S t lb t' la t'';cases hg;have q:=hl _ Xf;unfold ZzU at q;simp only[Xh,Xi] at q;obtain⟨⟨⟨⟨⟨⟨⟨⟨q1,q2⟩,q3⟩,ra⟩,rb⟩,qn⟩,qN⟩,q5⟩,q6⟩:=q;have q1:=Xj q1;have q2:=Xj q2;have q3:=Xj q3;have qn:=Xj qn;have qN:n<1099511627776:=Zl.1 qN;subst q1 q2 q3 qn;obtain⟨a1,a2,a3,a4,a5,a6,a7⟩:=ZH ra;obtain⟨b1,b2,b3,b4,b5,b6,b7⟩:=ZH rb;have eS:S=S.take o++(wU (Zz S o n)++S.drop (o+n)):=by
   have h1:=a1.cut;rw[a2] at h1;rw[← h1];unfold ZbR;rw[← List.drop_drop,List.take_append_drop,List.take_append_drop]
  have hF:(S.take o).length=o:=by
   have:=a1.len;simp;omega
  have r:=ZuP (R:=S.drop (o+n)) (la:=la) (c:=c) (c':=c') hF a1.rng b1 (by rw[a2,b2]) (by rw[a2];exact qN) q6 (by rw[a2];exact a3) a4;rw[a2,← eS] at r;have ht:(Hp.tight ⟨3,[(tmS S o n (tmR (Zz S o n) (Zz lb o' n) x),tU),(lb,tR),(la,tR)]⟩)=true:=by
   unfold Hp.tight tmS;simp only[List.all_cons,List.all_nil,List.all_append,Bool.and_true,Xh];refine⟨⟨?_,Zc9 _ _,?_⟩,zD (by omega) (List.all_eq_true.2 b7),zD (by omega) q5⟩
   ·rw[List.all_eq_true];exact fun v hv=>zv (by omega) (a7 v (List.mem_of_mem_take hv))
   ·rw[List.all_eq_true];exact fun v hv=>zv (by omega) (a7 v (List.mem_of_mem_drop hv))
  exact zi (T:=Zq prog Zf Zo true) func170 ZuO (vals:=[sl 2 o n c,sl 1 o' n c',uu x]) (v:=uu (tmC (Zz S o n) (Zz lb o' n) x)) (h:=h3 la lb S) (by rfl) ht r m B w E hv
 ·cases hg
def hcM:Hc:=ZY 170 Z5w (ZY 131 Zhw hcN)
theorem Zmx:HcOk hcM:=Zt func170 rfl ZuQ (Zt func131 rfl Zcx zp)
def pdP (F:Func):List Code:=[Z2 (sn 0 F),Z2 (sn 1 F),Z2 (sn 2 F),Z2 (sn 3 F)]
def pdL (F:Func):Code:=cIn (cIn (Z0 (Z2 (sn 4 F))))
def pdF (o n c o' n' c' z:Nat) (v7 v8:Value):List Value:=[sl 0 o n c,sl 1 o' n' c',undef,undef,Zn,.nilIface,sl 2 0 z z,v7,v8]
theorem ZuR:f127.body=some (ZW (pdP f127) (.seq (.seq (Z2 (Z2 (sn 4 f127))) (.block 0 (.loop (pdL f127)))) (Z0 (sn 4 f127)))):=by kernel_rfl
def pZ (n n':Nat):Int:=i64.wrap ((n:Int)+(n':Int))
theorem ZzV (o n c o' n' c':Nat) (la lb:List Value):Zg (evL (Zk prog Zf Zo hcM) 100 (pdP f127) ([sl 0 o n c,sl 1 o' n' c']++List.replicate 57 undef,h2 la lb,[cmp false,cmp false,cmp false,at_]) ⟨[],[],[]⟩) 9 50 none (pdF o n c o' n' c' (pZ n n').toNat undef undef) (h3 la lb (List.replicate (pZ n n').toNat (uu 0))) [(ZO 4 (pZ n n') (pZ n n'),true),(decide (i64.wrap (pZ n n'-1)>8192),false),((n':Int)==0,false),((n:Int)==0,false)]:=by and_intros<;>kernel_rfl
theorem Z8M (o n c o' n' c' z:Nat) (v7 v8:Value) (la lb S:List Value) (g:Nat→Value):Zgx (evC (Zk prog Zf Zo hcM) 100 false (Z2 (Z2 (sn 4 f127))) (pdF o n c o' n' c' z v7 v8++tl 50 g,h3 la lb S,[]) ⟨[],[],[]⟩) 9 22 3 25 none (pdF o n c o' n' c' z v7 v8) [sl 0 o n c,i6' n,i6' 0] (h3 la lb S) []:=by and_intros<;>kernel_rfl
theorem ZzW (o n c o' n' c' z:Nat) (j:Int) (v7 v8:Value) (la lb S:List Value) (g g':Nat→Value):Zgx (evC (Zk prog Zf Zo hcM) 100 false (pdL f127) (ml (pdF o n c o' n' c' z v7 v8) 22 g [sl 0 o n c,i6' n,i6' j] 25 g',h3 la lb S,[cmp false]) ⟨[],[],[]⟩) 9 22 3 25 (some (some 0)) (pdF o n c o' n' c' z v7 v8) [sl 0 o n c,i6' n,i6' j] (h3 la lb S) [(decide (j<n),false)]:=by and_intros<;>kernel_rfl
def pJ (j:Int):Nat:=0+j.toNat*1
def pK (j:Int) (n':Nat):Int:=i64.wrap (j+n')
def pLn (j:Int) (n':Nat):Nat:=(pK j n').toNat-j.toNat
def pS (S lb:List Value) (o' n':Nat) (j x:Int):List Value:=tmS S (pJ j) (pLn j n') (tmR (Zz S (pJ j) (pLn j n')) (Zz lb o' n') x)
def pC (S lb:List Value) (o' n':Nat) (j x:Int):Int:=tmC (Zz S (pJ j) (pLn j n')) (Zz lb o' n') x
theorem Z5x (o n c o' n' c' z:Nat) (j x:Int) (v7 v8:Value) (la lb S:List Value) (g g':Nat→Value):Zgx (evC (Zk prog Zf Zo hcM) 100 false (pdL f127) (ml (pdF o n c o' n' c' z v7 v8) 22 g [sl 0 o n c,i6' n,i6' j] 25 g',h3 la lb S,[cmp true,at_,val (uu x),num 0,at_,at_]) ⟨[],[],[]⟩) 9 22 3 25 none (pdF o n c o' n' c' z (i6' j) (uu x)) [sl 0 o n c,i6' n,i6' (i64.wrap (j+1))]
  (h3 la lb ((pS S lb o' n' j x).set (0+(pK j n').toNat*1) (uu (pC S lb o' n' j x))))
  [(decide (0+(pK j n').toNat*1<(pS S lb o' n' j x).length),true),inR (pK j n') z,(ZzU S lb la tU tR tR (pJ j) (pLn j n') (z-j.toNat) o' n' c' x,true),(ZG z,true),(ze j (pK j n') z z,true),(decide ((z:Int)=j∧j≠0),false),ZcP la o j x,inR j n,(decide (j<n),true)]:=by and_intros<;>kernel_rfl
theorem ZzX (o n c o' n' c' z:Nat) (v7 v8 u1 u2 u3:Value) (la lb S:List Value) (g g':Nat→Value):Zg (evC (Zk prog Zf Zo hcM) 100 false (Z0 (sn 4 f127)) (ml (pdF o n c o' n' c' z v7 v8) 22 g [u1,u2,u3] 25 g',h3 la lb S,[cmp false]) ⟨[],[],[]⟩) 6 53 (some none) [sl 0 o n c,sl 1 o' n' c',undef,undef,sl 2 0 (Zi (Zz S 0 z)) z,.nilIface] (h3 la lb S) [(decide ((Zi (Zz S 0 z):Int)>8192),false),(Z8 tU S 0 z z,true)]:=by and_intros<;>kernel_rfl
theorem Z5y (p q:Option Addr) (n c n' c':Nat) (h:Hp):Zg (evC (Zk prog Zf Zo hcM) 100 false (Zs f127) ([.slice p n c,.slice q n' c']++List.replicate 57 undef,h,[cmp true]) ⟨[],[],[]⟩) 6 53 (some none) [.slice p n c,.slice q n' c',undef,undef,Zn,.nilIface] h [((n:Int)==0,true)]:=by and_intros<;>kernel_rfl
theorem Z5z (p q:Option Addr) (n c n' c':Nat) (h:Hp):Zg (evC (Zk prog Zf Zo hcM) 100 false (Zs f127) ([.slice p n c,.slice q n' c']++List.replicate 57 undef,h,[cmp false,cmp true]) ⟨[],[],[]⟩) 6 53 (some none) [.slice p n c,.slice q n' c',undef,undef,Zn,.nilIface] h [((n':Int)==0,true),((n:Int)==0,false)]:=by and_intros<;>kernel_rfl
theorem ZiC:f127.body=some (Zs f127):=by kernel_rfl
end Go.Proofs.YtgefjidphfdhdaaGreatDoor.Na
namespace Go.Proofs.YtgefjidphfdhdaaGreatDoor.Na
open Go.Proofs.Tryz
open Go.IntKind
open Go.KRun Go.Nt
set_option maxRecDepth 100000
def hcS:Hc:=ZY 128 Z4e (ZY 129 Z5r (ZY 130 Z5s (ZY 131 Zhw hcN)))
theorem ZiD:HcOk hcS:=Zt func128 rfl Zly (Zt func129 rfl ZuJ (Zt func130 rfl ZuK (Zt func131 rfl Zcx zp)))
def skI (k:Int):Int:=i64.wrap (k.tdiv 32)
def rmI (k:Int):Int:=k.tmod 32
def zI (n:Nat) (k:Int):Int:=i64.wrap (i64.wrap (skI k+n)+1)
def zN (n:Nat) (k:Int):Nat:=(zI n k).toNat
def oN (k:Int):Nat:=0+(skI k).toNat*1
def pN (n:Nat) (k:Int):Nat:=zN n k-(skI k).toNat
def cpN (n:Nat) (k:Int):Nat:=Nat.min n (pN n k)
def cpL (la:List Value) (o n:Nat) (k:Int):List Value:=(List.replicate (zN n k) (uu 0)).take (oN k)++(la.drop o).take (cpN n k)++(List.replicate (zN n k) (uu 0)).drop (oN k+cpN n k)
def Z50 (la:List Value) (o n:Nat) (k:Int):Bool:= !(Zad tR) && !(ro tU) && Nat.ble (o+cpN n k) la.length && Nat.ble (oN k+cpN n k) (List.replicate (zN n k) (uu 0)).length && ((la.drop o).take (cpN n k)).all one
def upM (la:List Value) (o n:Nat) (k:Int):List Value:=upS (cpL la o n k) (oN k) (pN n k) (rmI k)
def lnI (la:List Value) (o n:Nat):Int:=i64.wrap (262144-Ze2 (Zz la o n))
def fS (o n c:Nat) (k:Int) (r e:Value):List Value:=[sl 0 o n c,i6' k,undef,undef,r,e]
theorem Zf5:f77.body=some (Zs f77):=by kernel_rfl
theorem ZuS (o n c:Nat) (k:Int) (la:List Value):Zg (evC (Zk prog Zf Zo hcS) 200 false (Zs f77) ([sl 0 o n c,i6' k]++List.replicate 45 undef,⟨1,[(la,tR)]⟩,[cmp true]) ⟨[],[],[]⟩) 6 41 (some none) (fS o n c k Zn (Zd0 1)) ⟨1,[(la,tR)]⟩ [Zhy la o n c,(ZS (Zz la o n),true)]:=by and_intros<;>kernel_rfl
theorem ZuT (o n c:Nat) (k:Int) (la:List Value):Zg (evC (Zk prog Zf Zo hcS) 200 false (Zs f77) ([sl 0 o n c,i6' k]++List.replicate 45 undef,⟨1,[(la,tR)]⟩,[cmp false,cmp true]) ⟨[],[],[]⟩) 6 41 (some none) (fS o n c k Zn (Zd0 1)) ⟨1,[(la,tR)]⟩ [(decide (k<0),true),Zhy la o n c,(ZS (Zz la o n),false)]:=by and_intros<;>kernel_rfl
theorem ZuU (o n c:Nat) (k:Int) (la:List Value):Zg (evC (Zk prog Zf Zo hcS) 200 false (Zs f77) ([sl 0 o n c,i6' k]++List.replicate 45 undef,⟨1,[(la,tR)]⟩,[cmp false,cmp false,cmp true]) ⟨[],[],[]⟩) 6 41 (some none) (fS o n c k Zn .nilIface) ⟨1,[(la,tR)]⟩ [((n:Int)==0,true),(decide (k<0),false),Zhy la o n c,(ZS (Zz la o n),false)]:=by and_intros<;>kernel_rfl
theorem ZqB (o n c:Nat) (k:Int) (la:List Value):Zg (evC (Zk prog Zf Zo hcS) 200 false (Zs f77) ([sl 0 o n c,i6' k]++List.replicate 45 undef,⟨1,[(la,tR)]⟩,[cmp false,cmp false,cmp false,cmp true]) ⟨[],[],[]⟩) 6 41 (some none) (fS o n c k Zn (Zd0 2)) ⟨1,[(la,tR)]⟩ [(decide (k>lnI la o n),true),Zhy la o n c,((n:Int)==0,false),(decide (k<0),false),Zhy la o n c,(ZS (Zz la o n),false)]:=by and_intros<;>kernel_rfl
theorem ZqC (o n c:Nat) (k:Int) (la:List Value):Zg (evC (Zk prog Zf Zo hcS) 200 false (Zs f77) ([sl 0 o n c,i6' k]++List.replicate 45 undef,⟨1,[(la,tR)]⟩,[cmp false,cmp false,cmp false,cmp false,at_,num 0,at_,num 0]) ⟨[],[],[]⟩) 6 41 (some none) (fS o n c k (sl 1 0 (Zi (Zz (upM la o n k) 0 (zN n k))) (zN n k)) .nilIface) (hU (upM la o n k) la)
  [(Z8 tU (upM la o n k) 0 (zN n k) (zN n k),true),(Nat.beq tU tU,true),(Nat.beq tR tR,true),(Z8 tU (cpL la o n k) (oN k) (pN n k) (pN n k),true),(Nat.beq (oN k+pN n k) (cpL la o n k).length,true),(la.all still,true),(decide (0≤rmI k∧rmI k<32),true),
   (ZG (zN n k),true),(ze (skI k) (zN n k) (zN n k) (zN n k),true),(decide (((zN n k:Nat):Int)=skI k∧skI k≠0),false),(Z50 la o n k,true),(ZG (zN n k),true),(ze (skI k) (zN n k) (zN n k) (zN n k),true),(decide (((zN n k:Nat):Int)=skI k∧skI k≠0),false),(ZO 4 (zI n k) (zI n k),true),
   (decide (k>lnI la o n),false),Zhy la o n c,((n:Int)==0,false),(decide (k<0),false),Zhy la o n c,(ZS (Zz la o n),false)]:=by and_intros<;>kernel_rfl
end Go.Proofs.YtgefjidphfdhdaaGreatDoor.Na
namespace Go.Nt
theorem Zmy:∀ (s m:Nat) (V:Int),dg (s+m) (4294967296^s*V)=List.replicate s 0++dg m V
 | 0,m,V=>by simp
 | s+1,m,V=>by
  rw[show s+1+m=(s+m)+1 from by omega];simp only[dg];rw[pw,Int.mul_assoc];generalize hZ:(4294967296:Int)^s*V=Z;have e1:(4294967296*Z) % 4294967296=0:=by omega
  have e2:(4294967296*Z)/4294967296=Z:=by omega
  rw[e1,e2,← hZ,Zmy s m V,List.replicate_succ,List.cons_append]
theorem Zmz (K:Nat):(2:Int)^K=4294967296^(K/32)*2^(K % 32):=by
 have e:(4294967296:Int)=2^32:=rfl;rw[e,← Int.pow_mul,← Int.pow_add,show 32*(K/32)+K % 32=K from by omega]
def Zhl (L:List Int) (K:Nat):List Int:=dg (K/32+(L.length+1)) (vN L*2^K)
theorem ZuV (L:List Int) (K:Nat):Zhl L K=List.replicate (K/32) 0++dg (L.length+1) (vN L*2^(K % 32)):=by
 unfold Zhl;rw[Zmz K,← Int.mul_assoc,Int.mul_comm (vN L),Int.mul_assoc,Zmy]
end Go.Nt
namespace Go.Proofs.YtgefjidphfdhdaaGreatDoor.Na
open Go.Proofs.Tryz
open Go.KRun Go.Nt
set_option maxRecDepth 100000
theorem Zm0 {L:List Int}(hL:wds L):0≤Ze2 L∧Ze2 L≤262144:=by
 unfold Ze2;cases h:(L.length==0 || ZS L) with
 | true=>
  show (0:Int)≤0∧(0:Int)≤262144;omega
 | false=>
  simp only[Bool.or_eq_false_iff] at h;have h8:=Zcz h.2;have h0:L.length≠0:=by simpa using h.1
  have hx:=hL (L.getD (L.length-1) 0) (by
   have hk':L.length-1<L.length:=by omega
   simp [List.getD,List.getElem?_eq_getElem hk'])
  have:=Zek hx.1 hx.2;simp only;omega
theorem Zm1 {K:Nat}(h:K≤262144):skI K=((K/32:Nat):Int):=by
 unfold skI;have e:((K:Nat):Int).tdiv 32=((K/32:Nat):Int):=rfl;rw[e,Zw (by omega) (by omega)]
theorem ZzY (K:Nat):rmI K=((K % 32:Nat):Int):=rfl
theorem ZzZ {n K:Nat}(h:K≤262144) (hn:n≤8192):zI n K=((K/32+(n+1):Nat):Int):=by
 unfold zI;rw[Zm1 h,Zw (n:=((K/32:Nat):Int)+(n:Nat)) (by omega) (by omega),Zw (by omega) (by omega)];omega
theorem ZqD {n K:Nat}(h:K≤262144) (hn:n≤8192):zN n K=K/32+(n+1):=by unfold zN;rw[ZzZ h hn,Xg]
theorem Zm2 {K:Nat}(h:K≤262144):oN K=K/32:=by unfold oN;rw[Zm1 h,Xg];omega
theorem ZqE {n K:Nat}(h:K≤262144) (hn:n≤8192):pN n K=n+1:=by unfold pN;rw[Zm1 h,ZqD h hn,Xg];omega
theorem Ztj {n K:Nat}(h:K≤262144) (hn:n≤8192):cpN n K=n:=by unfold cpN;rw[ZqE h hn];simp
theorem Zm3 {la:List Value}{o K:Nat}{L:List Int}(hR:Row la o L) (h:K≤262144) (hn:L.length≤8192):cpL la o L.length K=wU (List.replicate (K/32) 0++(L++[0])):=by
 unfold cpL;rw[Ztj h hn,ZqD h hn,Zm2 h];have e1:(la.drop o).take L.length=wU L:=hR.cut;rw[e1,List.drop_replicate,List.take_replicate,show K/32+(L.length+1)-(K/32+L.length)=1 from by omega,show min (K/32) (K/32+(L.length+1))=K/32 from by omega];unfold wU uu;simp
theorem ZuW {la:List Value}{o K:Nat}{L:List Int}(hR:Row la o L) (h:K≤262144) (hn:L.length≤8192):Z50 la o L.length K=true:=by
 unfold Z50;rw[Ztj h hn,ZqD h hn,Zm2 h];have e1:(la.drop o).take L.length=wU L:=hR.cut;rw[e1,Zbp,Zec];have h1:Nat.ble (o+L.length) la.length=true:=Nat.ble_eq_true_of_le hR.len;have h2:Nat.ble (K/32+L.length) (List.replicate (K/32+(L.length+1)) (uu 0)).length=true:=Nat.ble_eq_true_of_le (by rw[List.length_replicate];omega);have h3:((wU L).all one)=true:=by
  unfold wU;rw[List.all_eq_true];intro v hv;obtain⟨x,_,rfl⟩:=List.mem_map.1 hv;rfl
 rw[h1,h2,h3];rfl
theorem ZiE (A B:List Int):Zz (wU (A++B)) A.length B.length=B:=by
 unfold Zz ZbR wU;rw[List.map_append,List.drop_append_of_le_length (by simp),show A.length=(A.map (Value.int .u32)).length from by simp,List.drop_length,List.nil_append,List.take_of_length_le (by simp),List.map_map];exact (List.map_congr_left fun x _=>rfl).trans (List.map_id' _)
theorem Zh7 (s:Nat):wds (List.replicate s 0):=fun x hx=>by rw[List.eq_of_mem_replicate hx];omega
theorem Zf6 {L:List Int}(h:wds L):wds (L++[0]):=Zas h (fun x hx=>by rw[List.mem_singleton.1 hx];omega)
theorem Z0a {la:List Value}{o K:Nat}{L:List Int}(hR:Row la o L) (h:K≤262144) (hn:L.length≤8192):upM la o L.length K=wU (Zhl L K):=by
 unfold upM upS;rw[Zm3 hR h hn,Zm2 h,ZqE h hn,ZzY,Xg];have e1:=ZiE (List.replicate (K/32) 0) (L++[0]);rw[List.length_replicate,List.length_append,List.length_singleton] at e1;rw[e1,z8,Int.mul_zero,Int.add_zero,ZuV];unfold wU;rw[List.map_append,List.map_append,List.take_append_of_le_length (by simp),List.take_of_length_le (by simp),List.map_append]
theorem ZuX {la:List Value}{o K:Nat}{L:List Int}(hR:Row la o L) (h:K≤262144) (hn:L.length≤8192):Z8 tU (cpL la o L.length K) (oN K) (pN L.length K) (pN L.length K)=true:=by
 rw[Zm3 hR h hn,Zm2 h,ZqE h hn];unfold Z8;have e1:=ZiE (List.replicate (K/32) 0) (L++[0]);rw[show Zad tU=false from by kernel_rfl,show Nat.beq (rt tU) tU=true from by kernel_rfl,Nat.ble_eq_true_of_le (show K/32+(L.length+1)≤(wU (List.replicate (K/32) 0++(L++[0]))).length by unfold wU;simp),Nat.ble_eq_true_of_le (Nat.le_refl _),show ZG (L.length+1)=true from Zl.2 (by unfold zo;omega),Zbs];have h3:((ZbR (wU (List.replicate (K/32) 0++(L++[0]))) (K/32) (L.length+1)).all isU)=true:=by
  rw[List.all_eq_true];intro v hv;unfold ZbR wU at hv;obtain⟨x,hx,rfl⟩:=List.mem_map.1 (List.mem_of_mem_drop (List.mem_of_mem_take hv));exact Xa ((Zas (Zh7 _) (Zf6 hR.rng)) x hx)
 rw[h3];rfl
theorem ZqF {la:List Value}{o n c K:Nat}(ha:Z8 tR la o n c=true) (hb:ZS (Zz la o n)=false) (h0:n≠0) (hK:(K:Int)≤262144-Ze2 (Zz la o n)):
  Runs (Zk prog Zf Zo hcS) (Zs f77) ([sl 0 o n c,i6' K]++List.replicate 45 undef,⟨1,[(la,tR)]⟩,[]) fun e y=>(e=none∨e=some none)∧ZV prog f77 y.1 y.2.1=some (.tuple #[sl 1 0 (Zi (Zhl (Zz la o n) K)) (K/32+(n+1)),.nilIface])∧y.2.1.blk? 1=some (wU (Zhl (Zz la o n) K),tU):=by
 obtain⟨a1,a2,a3,a4,a5,a6,a7⟩:=ZH ha;have h8:=Zcz hb;have hl:=Zm0 a1.rng;have g0:=ZqC o n c K la;have lI:lnI la o n=262144-Ze2 (Zz la o n):=by unfold lnI;rw[Zw (by omega) (by omega)]
 rw[lI] at g0;generalize hL:Zz la o n=L at*;subst a2;have hK2:K≤262144:=by omega
 rw[Z0a a1 hK2 h8] at g0;have ez:=ZqD (n:=L.length) hK2 h8;have esm:ZG (zN L.length K)=true:=Zl.2 (by rw[ez];unfold zo;omega);have r1:=ZsX (Zbd (K/32+(L.length+1)) (vN L*2^K)) (c:=zN L.length K) (by rw[ZZ,ez];exact Nat.le_refl _) esm;rw[ZZ,← ez] at r1;have r2:Z8 tU (wU (Zhl L K)) 0 (zN L.length K) (zN L.length K)=true:=by unfold Zhl;rw[← ez];exact r1.1
 have r3:Zz (wU (Zhl L K)) 0 (zN L.length K)=Zhl L K:=by unfold Zhl;rw[← ez];exact r1.2
 have part:ze (skI K) (zN L.length K) (zN L.length K) (zN L.length K)=true:=by unfold ze;rw[Zm1 hK2,ez];exact Xa (by omega)
 have part2:decide (((zN L.length K:Nat):Int)=skI K∧skI K≠0)=false:=by rw[Zm1 hK2,ez];exact Xb (by omega)
 have mk:ZO 4 (zI L.length K) (zI L.length K)=true:=by unfold ZO;rw[ZzZ hK2 h8];exact Xa (by omega)
 have len:Nat.beq (oN K+pN L.length K) (cpL la o L.length K).length=true:=by
  rw[Zm3 a1 hK2 h8,Zm2 hK2,ZqE hK2 h8];unfold wU;simp
 have calm:la.all still=true:=List.all_eq_true.2 a7;have d1:decide (0≤rmI K∧rmI K<32)=true:=by rw[ZzY];exact Xa (by omega)
 have d2:decide ((K:Int)>262144-Ze2 L)=false:=Xb (by omega);have d3:((L.length:Int)==0)=false:=by simpa using h0
 have d4:decide ((K:Int)<0)=false:=Xb (by omega);refine (Zc (Zh Zd ZiD) g0 (Zj r2 (Zj (by kernel_rfl) (Zj (by kernel_rfl) (Zj (ZuX a1 hK2 h8) (Zj len (Zj calm (Zj d1
  (Zj esm (Zj part (Zj part2 (Zj (ZuW a1 hK2 h8) (Zj esm (Zj part (Zj part2 (Zj mk (Zj d2 (Zj ha (Zj d3 (Zj d4 (Zj ha (Zu hb)))))))))))))))))))))).mono fun e y he=> ?_
 obtain⟨rfl,⟨g,e2⟩,e3⟩:=he;refine⟨.inr rfl,?_,?_⟩
 ·rw[e2,e3,r3,ez];rfl
 ·rw[e3];rfl
theorem Zf7 {la:List Value}{o n c:Nat}{k:Int}{r e:Value}{cs:Log}{s:List Dec}(g0:Zg (evC (Zk prog Zf Zo hcS) 200 false (Zs f77) ([sl 0 o n c,i6' k]++List.replicate 45 undef,⟨1,[(la,tR)]⟩,s) ⟨[],[],[]⟩) 6 41 (some none) (fS o n c k r e) ⟨1,[(la,tR)]⟩ cs) (hcs:Zx cs)
  (hres:∀ g,ZV prog f77 (fS o n c k r e++tl 41 g) ⟨1,[(la,tR)]⟩=some (.tuple #[r,e])):
  Runs (Zk prog Zf Zo hcS) (Zs f77) ([sl 0 o n c,i6' k]++List.replicate 45 undef,⟨1,[(la,tR)]⟩,[]) fun e' y=>(e'=none∨e'=some none)∧ZV prog f77 y.1 y.2.1=some (.tuple #[r,e]):=by
 refine (Zc (Zh Zd ZiD) g0 hcs).mono fun e' y he=> ?_;obtain⟨rfl,⟨g,e2⟩,e3⟩:=he;refine⟨.inr rfl,?_⟩;rw[e2,e3];exact hres g
def ZuY:Zae:=fun vals h s=>
 match vals with
 | [.slice (some ⟨b,o,none⟩) n c,.int .i64 k]=>
  match h.blk? b,s with
  | some x,.inr (.inr (.inr (.inl true)))::s'=>some (.tuple #[Zn,Zd0 1],h,s',[(Z8 x.2 x.1 o n c,true),(ZS (Zz x.1 o n) || decide (k<0),true)])
  | some x,.inr (.inr (.inr (.inl false))):: .inr (.inr (.inr (.inl true)))::s'=>some (.tuple #[Zn,.nilIface],h,s',[(Z8 x.2 x.1 o n c,true),(ZS (Zz x.1 o n) || decide (k<0),false),(decide (n=0),true)])
  | some x,.inr (.inr (.inr (.inl false))):: .inr (.inr (.inr (.inl false))):: .inr (.inr (.inr (.inl true)))::s'=>some (.tuple #[Zn,Zd0 2],h,s',[(Z8 x.2 x.1 o n c,true),(ZS (Zz x.1 o n) || decide (k<0),false),(decide (n=0),false),(decide (k>262144-Ze2 (Zz x.1 o n)),true)])
  | some x,.inr (.inr (.inr (.inl false))):: .inr (.inr (.inr (.inl false))):: .inr (.inr (.inr (.inl false)))::s'=>some (.tuple #[sl h.n 0 (Zi (Zhl (Zz x.1 o n) k.toNat)) (k.toNat/32+(n+1)),.nilIface],h.push (wU (Zhl (Zz x.1 o n) k.toNat)) tU,s',[(Z8 x.2 x.1 o n c,true),(ZS (Zz x.1 o n) || decide (k<0),false),(decide (n=0),false),(decide (k>262144-Ze2 (Zz x.1 o n)),false)])
  | _,_=>none
 | _=>none
theorem ZuZ:Z6 77 ZuY:=by
 intro vals h s v h' s' lg hg hl m B w E hv;unfold ZuY at hg;split at hg
 ·rename_i b o n c k;have one1:∀ x:List Value×TypeId,h.blk? b=some x→Z8 x.2 x.1 o n c=true→∀ v0:Value,oc (List.range 1) v0=true→rn (fun _=>b) v0=v0→
    Runs (Zk prog Zf Zo hcS) (Zs f77) ([sl 0 o n c,i6' k]++List.replicate 45 undef,⟨1,[(x.1,tR)]⟩,[]) (fun e y=>(e=none∨e=some none)∧ZV prog f77 y.1 y.2.1=some v0)→
    Calls prog 77 (([.slice (some ⟨b,o,none⟩) n c,.int .i64 k]:List Value).map (mv m)).toArray w fun e w'=>∃ m',e= .returned (mv m' v0)∧Came m B h w v0 h m' w':=by
   intro x hx ra v0 ho e0 r;obtain⟨a1,a2,a3,a4,a5,a6,a7⟩:=ZH ra;have hlt:=Hp.blk_lt hx;have:=zn (T:=Zk prog Zf Zo hcS) func77 Zf5 (ZaH a7) (vals:=[sl 0 o n c,i6' k]) (fun v hv=>by
    simp only[List.mem_cons,List.not_mem_nil,or_false] at hv;rcases hv with rfl | rfl<;>rfl) ho r E (s:=fun _=>b) (fun i _=>hlt) (zS hx a5 a6 rfl)
   rw[e0] at this;exact this.mono fun e w' he=>⟨m,he.1,he.2⟩
  split at hg
  ·rename_i x s2 hx;cases hg;have ra:=hl _ (Xe);have hd:=hl _ (Xd _ Xf);simp only at hd;refine one1 x hx ra _ (by rfl) (Zd9 (by rfl)) ?_;cases hb:ZS (Zz x.1 o n) with
   | true=>exact Zf7 (ZuS o n c k x.1) (Zj (zJ ra) (Zu hb)) (fun _=>rfl)
   | false=>
    rw[hb,Bool.false_or] at hd;exact Zf7 (ZuT o n c k x.1) (Zj hd (Zj (zJ ra) (Zu hb))) (fun _=>rfl)
  ·rename_i x s2 hx;cases hg;have ra:=hl _ (Xe);have hd:=hl _ (Xd _ Xe);have h0:=Xc (hl _ (Xd _ (Xd _ Xf)));simp only[Bool.or_eq_false_iff] at hd;have d3:((n:Int)==0)=true:=by rw[h0];rfl
   exact one1 x hx ra _ (by rfl) (Zd9 (by rfl)) (Zf7 (ZuU o n c k x.1) (Zj d3 (Zj hd.2 (Zj (zJ ra) (Zu hd.1)))) (fun _=>rfl))
  ·rename_i x s2 hx;cases hg;have ra:=hl _ (Xe);have hd:=hl _ (Xd _ Xe);have h0:=of_decide_eq_false (hl _ (Xd _ (Xd _ Xe)));have hk:=hl _ (Xd _ (Xd _ (Xd _ Xf)));simp only[Bool.or_eq_false_iff] at hd;have d3:((n:Int)==0)=false:=by simpa using h0
   obtain⟨a1,a2,a3,a4,a5,a6,a7⟩:=ZH ra;have hle:=Zm0 a1.rng;have lI:lnI x.1 o n=262144-Ze2 (Zz x.1 o n):=by unfold lnI;rw[Zw (by omega) (by omega)]
   have g0:=ZqB o n c k x.1;rw[lI] at g0;exact one1 x hx ra _ (by rfl) (Zd9 (by rfl)) (Zf7 g0 (Zj hk (Zj (zJ ra) (Zj d3 (Zj hd.2 (Zj (zJ ra) (Zu hd.1)))))) (fun _=>rfl))
  ·rename_i x s2 hx;cases hg;have ra:=hl _ (Xe);have hd:=hl _ (Xd _ Xe);have h0:=of_decide_eq_false (hl _ (Xd _ (Xd _ Xe)));have hk:=of_decide_eq_false (hl _ (Xd _ (Xd _ (Xd _ Xf))));simp only[Bool.or_eq_false_iff] at hd;have hk0:=of_decide_eq_false hd.2;obtain⟨K,rfl⟩:=Int.eq_ofNat_of_zero_le (show 0≤k by omega);rw[Xg];obtain⟨a1,a2,a3,a4,a5,a6,a7⟩:=ZH ra;have r:=ZqF (K:=K) (zJ ra) hd.1 h0 (by omega);have e1:∀ j M:Nat,rn (fun _=>h.n) (.tuple #[sl 1 0 j M,.nilIface])= .tuple #[sl h.n 0 j M,.nilIface]:=fun j M=>by simp [rn,rn2,rn1,sl]
   have:=ZI (T:=Zk prog Zf Zo hcS) func77 Zf5 (ZaH a7) (vals:=[sl 0 o n c,i6' K]) (fun v hv=>by
    simp only[List.mem_cons,List.not_mem_nil,or_false] at hv;rcases hv with rfl | rfl<;>rfl) (k:=1) (ZcW _) Zec (r.w.mono fun e y h=>⟨h.1,h.2.1,[],by rw[List.append_nil];exact h.2.2⟩) (by rfl) E (s:=fun _=>b) (zS hx a5 a6 rfl)
   rw[e1] at this;exact this
  ·cases hg
 ·cases hg
end Go.Proofs.YtgefjidphfdhdaaGreatDoor.Na
