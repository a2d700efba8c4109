/-
  RfR, RfS, RfT, RfU, RfV, ToA, ConVN, ConVO, ConVQ, ToP, RfL
-/
import Derived.Test.YtgefjidphfdhdaaGreatDoorG18
namespace Go.Proofs.YtgefjidphfdhdaaGreatDoor
open Go.Proofs.Tryz
open Go.IntKind
open Go.KRun Go.Nt Go.Wd Go.Rn
set_option maxRecDepth 100000
set_option linter.unusedVariables false
def gOv:Ans:=fun vals s=>
 match vals with
 | [.bool n,.int .i64 m]=>some (.int .u64 (bey m n),s,[])
 | _=>none
theorem ov2 (n:Bool) (m:Int):ZD (Zr (Zq prog Zf Zo true) 300 108 [.bool n,.int .i64 m] [cmp true]) (.int .u64 9218868437227405311) [(m==2,true)]:=by and_intros<;>kernel_rfl
def ovV (b:Bool):Value:=match b with | true=> .int .u64 9218868437227405311 | false=> .int .u64 9218868437227405312
theorem ov3 (n:Bool) (m:Int):ZD (Zr (Zq prog Zf Zo true) 300 108 [.bool n,.int .i64 m] [cmp false,cmp true,cmp false]) (ovV n) (match n with | true=>[(m==3,true),(m==2,false)] | false=>[(m==4,false),(m==3,true),(m==2,false)]):=by
 cases n<;>exact by and_intros<;>kernel_rfl
theorem ov4 (n:Bool) (m:Int):ZD (Zr (Zq prog Zf Zo true) 300 108 [.bool n,.int .i64 m] [cmp false,cmp false,cmp true]) (ovV (!n)) [(m==4,true),(m==3,false),(m==2,false)]:=by
 cases n<;>exact by and_intros<;>kernel_rfl
theorem ov0 (n:Bool) (m:Int):ZD (Zr (Zq prog Zf Zo true) 300 108 [.bool n,.int .i64 m] [cmp false,cmp false,cmp false]) (.int .u64 9218868437227405312) [(m==4,false),(m==3,false),(m==2,false)]:=by
 cases n<;>exact by and_intros<;>kernel_rfl
theorem Z2O:zT 108 gOv:=by
 intro vals s v s' lg h hl w;unfold gOv at h;split at h
 ·rename_i n m;cases h;have hv:([.bool n,.int .i64 m].all (lt 0))=true:=rfl;by_cases h2:m=2
  ·have e:bey m n=9218868437227405311:=by rw[h2];cases n<;>rfl
   rw[e];exact Ze (Zp Zd) (ov2 n m) (Z5 (by rw[h2];rfl)) hv (by rfl) w
  ·have b2:(m==2)=false:=by simp [h2]
   by_cases h3:m=3
   ·have e:Value.int .u64 (bey m n)=ovV n:=by rw[h3];cases n<;>rfl
    rw[e];cases n
    ·exact Ze (Zp Zd) (ov3 false m) (Za (by rw[h3];rfl) (Za (by rw[h3];rfl) (Z5 b2))) hv (by rfl) w
    ·exact Ze (Zp Zd) (ov3 true m) (Za (by rw[h3];rfl) (Z5 b2)) hv (by rfl) w
   ·have b3:(m==3)=false:=by simp [h3]
    by_cases h4:m=4
    ·have e:Value.int .u64 (bey m n)=ovV (!n):=by rw[h4];cases n<;>rfl
     rw[e];exact Ze (Zp Zd) (ov4 n m) (Za (by rw[h4];rfl) (Za b3 (Z5 b2))) hv (by cases n<;>rfl) w
    ·have b4:(m==4)=false:=by simp [h4]
     have e:bey m n=9218868437227405312:=by
      unfold bey upR;rw[if_neg h2,if_neg h3,if_neg h4];split<;>first | omega | (simp;done)
     rw[e];exact Ze (Zp Zd) (ov0 n m) (Za b4 (Za b3 (Z5 b2))) hv (by rfl) w
 ·cases h
def sgV (n:Bool) (p:Int):Int:=match n with | true=>u64.wrap (p+9223372036854775808) | false=>p
theorem ZxU (n:Bool) (p:Int):ZD (Zr (Zq prog Zf Zo true) 300 107 [.int .u64 p,.bool n] []) (.int .u64 (sgV n p)) []:=by
 cases n<;>exact by and_intros<;>kernel_rfl
def gSg:Ans:=fun vals s=>
 match vals with
 | [.int .u64 p,.bool n]=>some (.int .u64 (sS n p),s,[(decide (0≤p∧p≤9218868437227405312),true)])
 | _=>none
theorem Z2P:zT 107 gSg:=by
 intro vals s v s' lg h hl w;unfold gSg at h;split at h
 ·rename_i p n;cases h;have hp:=Xc (hl _ Xf);have e:sS n p=sgV n p:=by
   cases n
   ·rfl
   ·simp only[sS,sgV,if_true];rw[Go.Pt.wrapU' ⟨by omega,by omega⟩];omega
  rw[e];exact Ze (Zp Zd) (ZxU n p) Z8B (by rfl) (by rfl) w
 ·cases h
def Ze3:Con:=alt 108 gOv (alt 107 gSg Zo)
theorem Zaw:ConOk Ze3:=ZM func108 rfl Z2O (ZM func107 rfl Z2P Zd)
def hcQ:Hc:=ZY 109 gTo hcW
theorem ZaN:HcOk hcQ:=Zt func109 rfl Z2N ZN
theorem Zic:f56.body=some (Zs f56):=by kernel_rfl
def rS1 (F:Func):List Code:=[Z2 (tC F 0),Z2 (tC F 1)]
def rS2 (F:Func):List Code:=[Z2 (tC F 2),Z2 (tC F 3),Z2 (tC F 4),Z2 (tC F 5)]
def rS3 (F:Func):List Code:=[Z2 (tC F 6),Z2 (tC F 7),Z2 (tC F 8),Z2 (tC F 9)]
theorem Zsn:f56.body=some (ZW (rS1 f56) (tC f56 2)):=by kernel_rfl
theorem Z75 (neg:Bool) (E M:Int) (o n c:Nat) (l:List Value):Zg (evL (Zk prog Zf Ze3 hcQ) 200 (rS1 f56) ([vRN neg E (sl 0 o n c),.int .i64 M]++List.replicate 107 undef,⟨1,[(l,tR)]⟩,[cmp true]) ⟨[],[],[]⟩) 6 103 none [vRN neg E (sl 0 o n c),.int .i64 0,.pointer (some ⟨1,0,none⟩),undef,.int .u64 0,.int .i64 0] (hX neg E o n c l) [(decide (M<0),true)]:=by and_intros<;>kernel_rfl
theorem Z76 (neg:Bool) (E M:Int) (o n c:Nat) (l:List Value):Zg (evL (Zk prog Zf Ze3 hcQ) 200 (rS1 f56) ([vRN neg E (sl 0 o n c),.int .i64 M]++List.replicate 107 undef,⟨1,[(l,tR)]⟩,[cmp false,cmp true]) ⟨[],[],[]⟩) 6 103 none [vRN neg E (sl 0 o n c),.int .i64 0,.pointer (some ⟨1,0,none⟩),undef,.int .u64 0,.int .i64 0] (hX neg E o n c l) [(decide (M>4),true),(decide (M<0),false)]:=by and_intros<;>kernel_rfl
theorem Z77 (neg:Bool) (E M:Int) (o n c:Nat) (l:List Value):Zg (evL (Zk prog Zf Ze3 hcQ) 200 (rS1 f56) ([vRN neg E (sl 0 o n c),.int .i64 M]++List.replicate 107 undef,⟨1,[(l,tR)]⟩,[cmp false,cmp false]) ⟨[],[],[]⟩) 6 103 none [vRN neg E (sl 0 o n c),.int .i64 M,.pointer (some ⟨1,0,none⟩),undef,.int .u64 0,.int .i64 0] (hX neg E o n c l) [(decide (M>4),false),(decide (M<0),false)]:=by and_intros<;>kernel_rfl
def Zdz (x y:Int):Int:=i64.wrap (x+y)
def okP (p:Int):Bool×Bool:=(decide (0≤p∧p≤9218868437227405312),true)
theorem ZxV (neg:Bool) (E m:Int) (o n c:Nat) (l:List Value) (g:Nat→Value):Zg (evC (Zk prog Zf Ze3 hcQ) 200 false (tC f56 2) ([vRN neg E (sl 0 o n c),.int .i64 m,.pointer (some ⟨1,0,none⟩),undef,.int .u64 0,.int .i64 0]++tl 103 g,(hX neg E o n c l),[cmp true]) ⟨[],[],[]⟩) 6 103 (some none) [vRN neg E (sl 0 o n c),.int .i64 m,.pointer (some ⟨1,0,none⟩),undef,.int .u64 (sS neg 0),.int .i64 0] (hX neg E o n c l) [okP 0,((n:Int)==0,true)]:=by and_intros<;>kernel_rfl
theorem Z2Q (neg:Bool) (E m:Int) (o n c:Nat) (l:List Value) (g:Nat→Value):Zg (evC (Zk prog Zf Ze3 hcQ) 200 false (tC f56 2) ([vRN neg E (sl 0 o n c),.int .i64 m,.pointer (some ⟨1,0,none⟩),undef,.int .u64 0,.int .i64 0]++tl 103 g,(hX neg E o n c l),[cmp false,cmp true]) ⟨[],[],[]⟩) 6 103 (some none) [vRN neg E (sl 0 o n c),.int .i64 m,.pointer (some ⟨1,0,none⟩),undef,.int .u64 (sS neg (bey m neg)),.int .i64 20] (hX neg E o n c l) [okP (bey m neg),(decide ((Zdz E ((bl (vO (hX neg E o n c l) (aX o) n):Nat):Int))>1100),true),(Zab (hX neg E o n c l) (aX o) n c,true),((n:Int)==0,false)]:=by and_intros<;>kernel_rfl
theorem Z2R (neg:Bool) (E m:Int) (o n c:Nat) (l:List Value) (g:Nat→Value):Zg (evL (Zk prog Zf Ze3 hcQ) 200 (rS2 f56) ([vRN neg E (sl 0 o n c),.int .i64 m,.pointer (some ⟨1,0,none⟩),undef,.int .u64 0,.int .i64 0]++tl 103 g,(hX neg E o n c l),[cmp false,cmp false,cmp false]) ⟨[],[],[]⟩) 7 102 none [vRN neg E (sl 0 o n c),.int .i64 m,.pointer (some ⟨1,0,none⟩),undef,.int .u64 0,.int .i64 0,.int .i64 (Zdz E ((bl (vO (hX neg E o n c l) (aX o) n):Nat):Int))] (hX neg E o n c l) [(decide ((Zdz E ((bl (vO (hX neg E o n c l) (aX o) n):Nat):Int))< -1200),false),(decide ((Zdz E ((bl (vO (hX neg E o n c l) (aX o) n):Nat):Int))>1100),false),(Zab (hX neg E o n c l) (aX o) n c,true),((n:Int)==0,false)]:=by and_intros<;>kernel_rfl
def hLo (neg:Bool) (l:List Value):Hp:=⟨3,[(wU (d16 1),tU),bOf neg (-1300) (sOf 2 1),(l,tR)]⟩
theorem Z2S (neg:Bool) (E m:Int) (o n c:Nat) (l:List Value) (g:Nat→Value):Zg (evL (Zk prog Zf Ze3 hcQ) 200 (rS2 f56) ([vRN neg E (sl 0 o n c),.int .i64 m,.pointer (some ⟨1,0,none⟩),undef,.int .u64 0,.int .i64 0]++tl 103 g,(hX neg E o n c l),[cmp false,cmp false,cmp true]) ⟨[],[],[]⟩) 7 102 none [vRN neg E (sl 0 o n c),.int .i64 m,.pointer (some ⟨1,0,none⟩),undef,.int .u64 0,.int .i64 0,.int .i64 (-1299)] (hLo neg l) [ZcK,ZcK,(decide ((Zdz E ((bl (vO (hX neg E o n c l) (aX o) n):Nat):Int))< -1200),true),(decide ((Zdz E ((bl (vO (hX neg E o n c l) (aX o) n):Nat):Int))>1100),false),(Zab (hX neg E o n c l) (aX o) n c,true),((n:Int)==0,false)]:=by and_intros<;>kernel_rfl
def nOf (t:Int):Int:=if -1074>dif t 53 then -1074 else dif t 53
def sRw (k:Nat) (d:Bool) (V:Nat):Value:=match d with | true=>sOf k V | false=>Zn
def pRw (h:Hp) (d:Bool) (V:Nat):Hp:=match d with | true=>h.push (wU (d16 V)) tU | false=>h
def hB (L:List (List Value×TypeId)) (neg:Bool) (E:Int) (S:Value) (b0:List Value×TypeId):Hp:=⟨2+L.length,L++[bOf neg E S,b0]⟩
def fr7 (x0:Value) (m t:Int):List Value:=[x0,.int .i64 m,.pointer (some ⟨1,0,none⟩),undef,.int .u64 0,.int .i64 0,.int .i64 t]
def fl (y:Bool):Int:=match y with | true=>24 | false=>16
def aB (b o:Nat):Option Addr:=some ⟨b,o,none⟩
def vF (h:Hp) (k:Nat) (d:Bool) (V:Nat):Nat:=match d with | true=>vO h (aB k 0) (d16 V).length | false=>vO h none 0
def okF (h:Hp) (k:Nat) (d:Bool) (V:Nat):Bool:=match d with | true=>Zab h (aB k 0) (d16 V).length (d16 V).length | false=>Zab h none 0 0
def qB (m:Int) (neg:Bool) (h:Hp) (b o n:Nat) (E N:Int):Nat:=toQ m neg (vO h (aB b o) n) E N
theorem Z78 (d:Bool) (L:List (List Value×TypeId)) (hL:L.length≤1) (neg:Bool) (x0:Value) (E m t:Int) (b o n c:Nat) (b0:List Value×TypeId) (g:Nat→Value):
  Zg (evL (Zk prog Zf Ze3 hcQ) 200 (rS3 f56) (fr7 x0 m t++tl 102 g,hB L neg E (sl b o n c) b0,[cmp d,cmp false]) ⟨[],[],[]⟩) 11 98 none
   (fr7 x0 m t++[.int .i64 (nOf t),sRw (hB L neg E (sl b o n c) b0).n d (qB m neg (hB L neg E (sl b o n c) b0) b o n E (nOf t)),.bool false,.int .i64 0])
   (pRw (hB L neg E (sl b o n c) b0) d (qB m neg (hB L neg E (sl b o n c) b0) b o n E (nOf t)))
   [(toL (vO (hB L neg E (sl b o n c) b0) (aB b o) n) E (nOf t),false),(Zdn m neg (vO (hB L neg E (sl b o n c) b0) (aB b o) n) n E (nOf t),d),(Zeo (hB L neg E (sl b o n c) b0) (aB b o) n c E (nOf t),true)]:=by
 rcases L with _ | ⟨u,_ | ⟨u',L⟩⟩
 ·cases d<;>exact by and_intros<;>kernel_rfl
 ·cases d<;>exact by and_intros<;>kernel_rfl
 ·exact absurd hL (by simp)
theorem Z79 (d d2 y e2:Bool) (L:List (List Value×TypeId)) (hL:L.length≤1) (neg:Bool) (x0:Value) (E m t:Int) (b o n c:Nat) (b0:List Value×TypeId) (g:Nat→Value) (Q Q2:Nat) (hQ:Q=qB m neg (hB L neg E (sl b o n c) b0) b o n E (nOf t)) (hQ2:Q2=qB m neg (pRw (hB L neg E (sl b o n c) b0) d Q) b o n E (dif t 53)):
  Zg (evL (Zk prog Zf Ze3 hcQ) 200 (rS3 f56) (fr7 x0 m t++tl 102 g,hB L neg E (sl b o n c) b0,[cmp d,cmp true,cmp d2,cmp e2,cmp y]) ⟨[],[],[]⟩) 11 98 none
   (fr7 x0 m t++[.int .i64 (nOf t),sRw (hB L neg E (sl b o n c) b0).n d Q,.bool true,.int .i64 (fl y)])
   (pRw (pRw (hB L neg E (sl b o n c) b0) d Q) d2 Q2)
   [(decide (dif (Zdz ((bl (vF (pRw (pRw (hB L neg E (sl b o n c) b0) d Q) d2 Q2) (pRw (hB L neg E (sl b o n c) b0) d Q).n d2 Q2):Nat):Int) t) 53≤ -1022),y),(okF (pRw (pRw (hB L neg E (sl b o n c) b0) d Q) d2 Q2) (pRw (hB L neg E (sl b o n c) b0) d Q).n d2 Q2,true),
    (toL (vO (pRw (hB L neg E (sl b o n c) b0) d Q) (aB b o) n) E (dif t 53),e2),(Zdn m neg (vO (pRw (hB L neg E (sl b o n c) b0) d Q) (aB b o) n) n E (dif t 53),d2),(Zeo (pRw (hB L neg E (sl b o n c) b0) d Q) (aB b o) n c E (dif t 53),true),
    (toL (vO (hB L neg E (sl b o n c) b0) (aB b o) n) E (nOf t),true),(Zdn m neg (vO (hB L neg E (sl b o n c) b0) (aB b o) n) n E (nOf t),d),(Zeo (hB L neg E (sl b o n c) b0) (aB b o) n c E (nOf t),true)]:=by
 subst hQ2;subst hQ;rcases L with _ | ⟨u,_ | ⟨u',L⟩⟩
 ·cases d<;>cases d2<;>cases y<;>exact by and_intros<;>kernel_rfl
 ·cases d<;>cases d2<;>cases y<;>exact by and_intros<;>kernel_rfl
 ·exact absurd hL (by simp)
def pk (N s:Int):Int:=u64.wrap (u64.wrap (u64.wrap (u64.wrap (i64.wrap (N+1075))*4503599627370496)+s)-4503599627370496)
def lwR (h:Hp) (p:Option Addr) (n:Nat):Int:=((vO h p n % 18446744073709551616:Nat):Int)
def fr6 (x0:Value) (m r f:Int):List Value:=[x0,.int .i64 m,.pointer (some ⟨1,0,none⟩),undef,.int .u64 r,.int .i64 f]
section
variable (L : List (List Value × TypeId)) (hL : L.length ≤ 3) (neg : Bool) (x0 : Value) (E m t N f : Int) (S : Value) (p : Option Addr) (nq cq : Nat) (e : Bool) (b0 : List Value × TypeId) (g : Nat → Value)
include hL
theorem Z7A:Zg (evC (Zk prog Zf Ze3 hcQ) 200 false (tC f56 10) ((fr7 x0 m t++[.int .i64 N,.slice p nq cq,.bool e,.int .i64 f])++tl 98 g,hB L neg E S b0,[cmp true]) ⟨[],[],[]⟩) 6 103 (some none) (fr6 x0 m (sS neg (bey m neg)) 20) (hB L neg E S b0)
  [okP (bey m neg),(decide (Zdz ((bl (vO (hB L neg E S b0) p nq):Nat):Int) N>1024),true),(Zab (hB L neg E S b0) p nq cq,true)]:=by
 rcases L with _ | ⟨u,_ | ⟨u',_ | ⟨u'',_ | ⟨u3,L⟩⟩⟩⟩
 iterate 4
  ·exact by and_intros<;>kernel_rfl
 ·exact absurd hL (by simp)
theorem Z7B:Zg (evC (Zk prog Zf Ze3 hcQ) 200 false (tC f56 10) ((fr7 x0 m t++[.int .i64 N,.slice p nq cq,.bool e,.int .i64 f])++tl 98 g,hB L neg E S b0,[cmp false,cmp false,cmp false]) ⟨[],[],[]⟩) 6 103 (some none) (fr6 x0 m (sS neg (lwR (hB L neg E S b0) p nq)) f) (hB L neg E S b0)
  [okP (lwR (hB L neg E S b0) p nq),(decide (lwR (hB L neg E S b0) p nq≥4503599627370496),false),(lwR (hB L neg E S b0) p nq==9007199254740992,false),(Zxi (hB L neg E S b0) p nq cq,true),(decide (Zdz ((bl (vO (hB L neg E S b0) p nq):Nat):Int) N>1024),false),(Zab (hB L neg E S b0) p nq cq,true)]:=by
 rcases L with _ | ⟨u,_ | ⟨u',_ | ⟨u'',_ | ⟨u3,L⟩⟩⟩⟩
 iterate 4
  ·exact by and_intros<;>kernel_rfl
 ·exact absurd hL (by simp)
theorem Z7C:Zg (evC (Zk prog Zf Ze3 hcQ) 200 false (tC f56 10) ((fr7 x0 m t++[.int .i64 N,.slice p nq cq,.bool e,.int .i64 f])++tl 98 g,hB L neg E S b0,[cmp false,cmp false,cmp true]) ⟨[],[],[]⟩) 6 103 (some none) (fr6 x0 m (sS neg (pk N (lwR (hB L neg E S b0) p nq))) f) (hB L neg E S b0)
  [okP (pk N (lwR (hB L neg E S b0) p nq)),(decide (lwR (hB L neg E S b0) p nq≥4503599627370496),true),(lwR (hB L neg E S b0) p nq==9007199254740992,false),(Zxi (hB L neg E S b0) p nq cq,true),(decide (Zdz ((bl (vO (hB L neg E S b0) p nq):Nat):Int) N>1024),false),(Zab (hB L neg E S b0) p nq cq,true)]:=by
 rcases L with _ | ⟨u,_ | ⟨u',_ | ⟨u'',_ | ⟨u3,L⟩⟩⟩⟩
 iterate 4
  ·exact by and_intros<;>kernel_rfl
 ·exact absurd hL (by simp)
theorem Z7D:Zg (evC (Zk prog Zf Ze3 hcQ) 200 false (tC f56 10) ((fr7 x0 m t++[.int .i64 N,.slice p nq cq,.bool e,.int .i64 f])++tl 98 g,hB L neg E S b0,[cmp false,cmp true]) ⟨[],[],[]⟩) 6 103 (some none) (fr6 x0 m (sS neg (pk (Zdz N 1) 4503599627370496)) f) (hB L neg E S b0)
  [okP (pk (Zdz N 1) 4503599627370496),(lwR (hB L neg E S b0) p nq==9007199254740992,true),(Zxi (hB L neg E S b0) p nq cq,true),(decide (Zdz ((bl (vO (hB L neg E S b0) p nq):Nat):Int) N>1024),false),(Zab (hB L neg E S b0) p nq cq,true)]:=by
 rcases L with _ | ⟨u,_ | ⟨u',_ | ⟨u'',_ | ⟨u3,L⟩⟩⟩⟩
 iterate 4
  ·exact by and_intros<;>kernel_rfl
 ·exact absurd hL (by simp)
end
theorem Zj1 {m:Int}{neg:Bool}{T n:Nat}{E N:Int}(hT:T<65536^n) (h:Zdn m neg T n E N=false):toQ m neg T E N=0:=by
 unfold Zdn at h;unfold toQ;split at h
 ·rename_i hu;rw[if_pos hu];have:=of_decide_eq_false h;have e:n=0:=by omega
  rw[e,Nat.pow_zero] at hT;have:T=0:=by omega
  rw[this,Nat.zero_mul]
 ·rename_i hu;rw[if_neg hu];rw[Bool.or_eq_false_iff] at h;have h1:=of_decide_eq_false h.1;have hz:T/2^(N-E).toNat=0:=by
   refine Nat.div_eq_of_lt (Nat.lt_of_lt_of_le hT ?_);rw[Zfz];exact Nat.pow_le_pow_right (by omega) (by omega)
  by_cases hl:T % 2^(N-E).toNat=0
  ·rw[ZfC hl,hz]
  ·have h2:=h.2;rw[Xa hl,Bool.true_and] at h2;unfold rq;rw[h2,hz];rfl
def QOk (h:Hp) (v:Value) (Q:Nat):Prop:=∃ p nq cq,v= .slice p nq cq∧vO h p nq=Q∧Zab h p nq cq=true∧Zxi h p nq cq=true
theorem ZtL {Q:Nat}(h:Q≤9007199254740992):(d16 Q).length≤4:=Zco (k:=4) (by omega)
theorem ZgZ {h:Hp}{k Q:Nat}(hb:h.blk? k=some (wU (d16 Q),tU)) (hQ:Q≤9007199254740992):Zab h (some ⟨k,0,none⟩) (d16 Q).length (d16 Q).length=true:=by
 have hl:=ZtL hQ;unfold Zab;rw[ZJ hb (by omega),Zan hb,show ZcQ (d16 Q)=true from ZbH (Zc2 (by omega) Q),Zl.2 (by omega)];rfl
theorem ZtM {h:Hp}{k Q:Nat}{d:Bool}(h1:d=true→h.blk? k=some (wU (d16 Q),tU)) (h0:d=false→Q=0) (hQ:Q≤9007199254740992):QOk h (sRw k d Q) Q:=by
 cases d
 ·refine⟨none,0,0,rfl,?_,rfl,rfl⟩;rw[h0 rfl];rfl
 ·have hb:=h1 rfl;have hl:=ZtL hQ;refine⟨some ⟨k,0,none⟩,_,_,rfl,zE hb,ZgZ hb hQ,?_⟩;unfold Zxi;rw[ZJ hb (by omega),Zaa hb,Zl.2 (by omega)];rfl
def Z7E (d:Bool) (Q:Nat):List (List Value×TypeId):=match d with | true=>[(wU (d16 Q),tU)] | false=>[]
theorem ZfT (d:Bool) (Q:Nat):(Z7E d Q).length≤1:=by cases d<;>simp [Z7E]
theorem Zfi (L:List (List Value×TypeId)) (neg:Bool) (E:Int) (S:Value) (b0:List Value×TypeId) (d:Bool) (Q:Nat):pRw (hB L neg E S b0) d Q=hB (Z7E d Q++L) neg E S b0:=by cases d<;>rfl
theorem Z2T (L:List (List Value×TypeId)) (neg:Bool) (E:Int) (S:Value) (b0:List Value×TypeId):(hB L neg E S b0).l.length=(hB L neg E S b0).n:=by
 simp [hB];omega
theorem ZxW {h:Hp}(hl:h.l.length=h.n) (d:Bool) (Q:Nat):(pRw h d Q).l.length=(pRw h d Q).n:=by
 cases d
 ·exact hl
 ·simp [pRw,Hp.push,hl]
theorem ZoG {h:Hp}(hl:h.l.length=h.n) (d:Bool) (Q:Nat) {b:Nat}{x:List Value×TypeId}(hb:h.blk? b=some x):(pRw h d Q).blk? b=some x:=by
 cases d
 ·exact hb
 ·have:=Hp.blk_lt hb;show (h.push _ _).blk? b=_;rw[Hp.blk_push hl,if_neg (by omega)];exact hb
theorem ZfU {h:Hp}(hl:h.l.length=h.n) (d:Bool) (Q:Nat) (hd:d=true):(pRw h d Q).blk? h.n=some (wU (d16 Q),tU):=by
 subst hd;show (h.push _ _).blk? _=_;rw[Hp.blk_push hl,if_pos rfl]
theorem ZoH (m:Int) (neg:Bool):0≤bey m neg∧bey m neg≤9218868437227405312:=by unfold bey;split<;>omega
theorem Zha {p:Int}(h:0≤p∧p≤9218868437227405312):decide (0≤p∧p≤9218868437227405312)=true:=Xa h
theorem Z2U {N s:Int}(h0: -1074≤N) (h1:N≤2000) (h2:4503599627370496≤s) (h3:s≤9007199254740992):pk N s=(N+1074)*4503599627370496+s:=by
 unfold pk;have e1:u64.wrap (N+1075)=N+1075:=Go.Pt.wrapU' ⟨by omega,by omega⟩;have e2:u64.wrap ((N+1075)*4503599627370496)=(N+1075)*4503599627370496:=Go.Pt.wrapU' ⟨by omega,by omega⟩;have e3:u64.wrap ((N+1075)*4503599627370496+s)=(N+1075)*4503599627370496+s:=Go.Pt.wrapU' ⟨by omega,by omega⟩;rw[Zw (by omega) (by omega),e1,e2,e3,Go.Pt.wrapU' ⟨by omega,by omega⟩];omega
def ZfV (m:Int) (neg:Bool) (T:Nat) (E:Int) (ex:Ex) (z:Lf):Prop:=(ex=none∨ex=some none)∧ZV prog f56 z.1 z.2.1=some (.tuple #[.int .u64 (sS neg (rnP m neg T E)),.int .i64 (rnF m neg T E)])
theorem Zfj {x0:Value}{m r f:Int}{neg:Bool}{T:Nat}{E:Int}{h:Hp}(h1:r=sS neg (rnP m neg T E)) (h2:f=rnF m neg T E):∀ ex z,(ex=some none∧(∃ g,z.1=fr6 x0 m r f++tl 103 g)∧z.2.1=h)→ZfV m neg T E ex z:=by
 rintro ex z ⟨rfl,⟨g,z1⟩,z2⟩;subst h1 h2;refine⟨.inr rfl,?_⟩;rw[z1];rfl
theorem ZoI {L:List (List Value×TypeId)}(hL:L.length≤3) {neg:Bool}{x0:Value}{E' E m t f:Int}{S q:Value}{e:Bool}{b0:List Value×TypeId}{g:Nat→Value}{T:Nat}(hT:T≠0) (hq:QOk (hB L neg E' S b0) q (toQ m neg T E (zA T E))) (hlo:zA T E≤1100) (hf:¬ 9218868437227405312≤p0 m neg T E→f=rnF m neg T E):
  RunsW (Zk prog Zf Ze3 hcQ) (tC f56 10) ((fr7 x0 m t++[.int .i64 (zA T E),q,.bool e,.int .i64 f])++tl 98 g,hB L neg E' S b0,[]) (ZfV m neg T E):=by
 obtain⟨p,nq,cq,rfl,hv,hok,hrs⟩:=hq;have hge:=ZfD T E;have hhi:=Zja m neg T E;have hover:=Zrr (m:=m) (neg:=neg) (E:=E) hT;have hbl:bitLen (toQ m neg T E (zA T E))≤54:=by
  have:toQ m neg T E (zA T E)<2^54:=by have e:(2:Nat)^54=18014398509481984:=rfl;omega
  exact len_le this
 have hsum:Zdz ((bl (vO (hB L neg E' S b0) p nq):Nat):Int) (zA T E)=(bitLen (toQ m neg T E (zA T E)):Int)+zA T E:=by
  rw[hv,Zbi];unfold Zdz;exact Zw (by omega) (by omega)
 have hlw:lwR (hB L neg E' S b0) p nq=((toQ m neg T E (zA T E):Nat):Int):=by
  unfold lwR;rw[hv,Nat.mod_eq_of_lt (by omega)]
 by_cases ho:9218868437227405312≤p0 m neg T E
 ·refine (Zb (Zh Zaw ZaN) (Z7A L hL neg x0 E' m t (zA T E) f S p nq cq e b0 g) (Za (Zha (ZoH m neg)) (Za ?_ (Z5 hok)))).mono (Zfj ?_ ?_)
  ·rw[hsum,hover];exact Xa ho
  ·unfold rnP;rw[if_neg hT,if_pos ho]
  ·unfold rnF;rw[if_neg hT,if_pos ho]
 ·have hno:decide (Zdz ((bl (vO (hB L neg E' S b0) p nq):Nat):Int) (zA T E)>1024)=false:=by
   rw[hsum,hover];exact Xb ho
  have hr:rnP m neg T E=p0 m neg T E:=by
   unfold rnP;rw[if_neg hT,if_neg ho]
  have hp0:p0 m neg T E=(zA T E+1074)*4503599627370496+(toQ m neg T E (zA T E):Nat):=rfl;by_cases h53:toQ m neg T E (zA T E)=9007199254740992
  ·have es:Zdz (zA T E) 1=zA T E+1:=by unfold Zdz;exact Zw (by omega) (by omega)
   have ep:pk (Zdz (zA T E) 1) 4503599627370496=p0 m neg T E:=by
    rw[es,Z2U (by omega) (by omega) (by omega) (by omega),hp0,h53];omega
   refine (Zb (Zh Zaw ZaN) (Z7D L hL neg x0 E' m t (zA T E) f S p nq cq e b0 g) (Za (Zha ?_) (Za ?_ (Za hrs (Za hno (Z5 hok)))))).mono (Zfj ?_ (hf ho))
   ·rw[ep];omega
   ·rw[hlw,h53];rfl
   ·rw[ep,hr]
  ·have n53:(lwR (hB L neg E' S b0) p nq==9007199254740992)=false:=by
    rw[hlw];simp only[beq_eq_false_iff_ne,ne_eq];omega
   by_cases h52:4503599627370496≤toQ m neg T E (zA T E)
   ·have ep:pk (zA T E) (lwR (hB L neg E' S b0) p nq)=p0 m neg T E:=by
     rw[hlw,Z2U (by omega) (by omega) (by omega) (by omega),hp0]
    refine (Zb (Zh Zaw ZaN) (Z7C L hL neg x0 E' m t (zA T E) f S p nq cq e b0 g) (Za (Zha ?_) (Za ?_ (Za n53 (Za hrs (Za hno (Z5 hok))))))).mono (Zfj ?_ (hf ho))
    ·rw[ep];omega
    ·rw[hlw];exact Xa (by omega)
    ·rw[ep,hr]
   ·have hn:zA T E= -1074:=by
     by_cases hc: -1074≤lgN T E-52
     ·exact absurd (Zjb (m:=m) (neg:=neg) hT hc) h52
     ·unfold zA;rw[if_pos (by omega)]
    have ep:lwR (hB L neg E' S b0) p nq=p0 m neg T E:=by
     rw[hlw,hp0,hn];omega
    refine (Zb (Zh Zaw ZaN) (Z7B L hL neg x0 E' m t (zA T E) f S p nq cq e b0 g) (Za (Zha ?_) (Za ?_ (Za n53 (Za hrs (Za hno (Z5 hok))))))).mono (Zfj ?_ (hf ho))
    ·rw[ep];omega
    ·rw[hlw];exact Xb (by omega)
    ·rw[ep,hr]
end Go.Proofs.YtgefjidphfdhdaaGreatDoor
namespace Go.Proofs.YtgefjidphfdhdaaGreatDoor
open Go.Proofs.Tryz
open Go.KRun Go.Nt Go.Wd Go.Rn
set_option maxRecDepth 100000
set_option linter.unusedVariables false
theorem ZoJ {L:List (List Value×TypeId)}(hL:L.length≤1) {neg:Bool}{E t:Int}{b o n c:Nat}{b0 x:List Value×TypeId}{A:List Int}(hRow:∀ h':Hp,h'.blk? b=some x→zx h' (aB b o) n c=true∧Zm h' (aB b o) n=A) (hb:(hB L neg E (sl b o n c) b0).blk? b=some x) (hC:Zbq 65536 A) (hn:A.length=n) (hn2:n<20000) (hE: -400000≤E∧E≤400000) (hT:vb 65536 A≠0) (ht:t=E+(bitLen (vb 65536 A):Nat)) (htr: -1300≤t∧t≤1100) (x0:Value) (m:Int) (g:Nat→Value):
  RunsW (Zk prog Zf Ze3 hcQ) (ZW (rS3 f56) (tC f56 10)) (fr7 x0 m t++tl 102 g,hB L neg E (sl b o n c) b0,[]) (ZfV m neg (vb 65536 A) E):=by
 have hlg:lgN (vb 65536 A) E=t-1:=by unfold lgN;omega
 have hd:dif t 53=lgN (vb 65536 A) E-52:=by unfold dif;rw[Zw (by omega) (by omega)];omega
 have hN:nOf t=zA (vb 65536 A) E:=by
  unfold nOf zA;rw[hd];split<;>split<;>omega
 have hge:=ZfD (vb 65536 A) E;have hlo:zA (vb 65536 A) E≤1100:=by unfold zA;split<;>omega
 have hTl:vb 65536 A<65536^n:=by rw[← hn];exact ZbG (by omega) A hC.1
 have hv:∀ h':Hp,h'.blk? b=some x→vO h' (aB b o) n=vb 65536 A:=fun h' hh=>by
  unfold vO;rw[(hRow h' hh).2]
 have hok:∀ (h':Hp) (N:Int),h'.blk? b=some x→(-400000≤N∧N≤400000)→Zeo h' (aB b o) n c E N=true:=fun h' N hh hN=>by
  unfold Zeo;rw[(hRow h' hh).1,(hRow h' hh).2,ZbH hC,Zl.2 (by omega),Xa ⟨hE,hN⟩];rfl
 have hl:=Z2T L neg E (sl b o n c) b0;have hQ53:=Zja m neg (vb 65536 A) E;have eQ:toQ m neg (vb 65536 A) E (zA (vb 65536 A) E)=qB m neg (hB L neg E (sl b o n c) b0) b o n E (nOf t):=by
  unfold qB;rw[hv _ hb,hN]
 obtain⟨d,hdd⟩:∃ d,d=Zdn m neg (vb 65536 A) n E (zA (vb 65536 A) E):=⟨_,rfl⟩;obtain⟨Q,hQ⟩:∃ Q,Q=toQ m neg (vb 65536 A) E (zA (vb 65536 A) E):=⟨_,rfl⟩;have hq0:d=false→Q=0:=fun h0=>by rw[hQ];exact Zj1 hTl (hdd.symm.trans h0)
 have hb1:=ZoG hl d Q hb;have hl1:=ZxW hl d Q;by_cases ho:toL (vb 65536 A) E (zA (vb 65536 A) E)=true
 ·have eQ2:toQ m neg (vb 65536 A) E (lgN (vb 65536 A) E-52)=qB m neg (pRw (hB L neg E (sl b o n c) b0) d Q) b o n E (dif t 53):=by
   unfold qB;rw[hv _ hb1,hd]
  obtain⟨d2,hdd2⟩:∃ d2,d2=Zdn m neg (vb 65536 A) n E (lgN (vb 65536 A) E-52):=⟨_,rfl⟩;obtain⟨Q2,hQ2⟩:∃ Q2,Q2=toQ m neg (vb 65536 A) E (lgN (vb 65536 A) E-52):=⟨_,rfl⟩;have hq20:d2=false→Q2=0:=fun h0=>by rw[hQ2];exact Zj1 hTl (hdd2.symm.trans h0)
  have hQ253:Q2≤9007199254740992:=by rw[hQ2];exact Znd (n:=53) (by unfold lgN;omega)
  have hvF:vF (pRw (pRw (hB L neg E (sl b o n c) b0) d Q) d2 Q2) (pRw (hB L neg E (sl b o n c) b0) d Q).n d2 Q2=Q2:=by
   cases d2
   ·rw[hq20 rfl];rfl
   ·exact zE (ZfU hl1 true Q2 rfl)
  have hokF:okF (pRw (pRw (hB L neg E (sl b o n c) b0) d Q) d2 Q2) (pRw (hB L neg E (sl b o n c) b0) d Q).n d2 Q2=true:=by
   cases d2
   ·rfl
   ·exact ZgZ (ZfU hl1 true Q2 rfl) hQ253
  have hbl:bitLen Q2≤54:=len_le (by have e:(2:Nat)^54=18014398509481984:=rfl;omega);have hty:=Zrq (m:=m) (neg:=neg) (E:=E) hT;refine Zv (Zh Zaw ZaN) (Z79 d d2 (ZhG m neg (vb 65536 A) E) (toL (vb 65536 A) E (lgN (vb 65536 A) E-52)) L hL neg x0 E m t b o n c b0 g Q Q2 (hQ.trans eQ) (hQ2.trans eQ2)) ?_ fun g'=> ?_
  ·refine Za ?_ (Za hokF (Za ?_ (Za ?_ (Za (hok _ _ hb1 (by omega)) (Za ?_ (Za ?_ (Z5 (hok _ _ hb (by omega)))))))))
   ·rw[hvF,Zbi,← hty,← hQ2];have e1:Zdz (bitLen Q2:Nat) t=(bitLen Q2:Nat)+t:=by unfold Zdz;exact Zw (by omega) (by omega)
    have e2:dif ((bitLen Q2:Nat)+t) 53=(bitLen Q2:Nat)+t-53:=by unfold dif;exact Zw (by omega) (by omega)
    rw[e1,e2,hlg];congr 1;simp only[eq_iff_iff];omega
   ·rw[hv _ hb1,hd]
   ·rw[hv _ hb1,hd,hdd2]
   ·rw[hv _ hb,hN,ho]
   ·rw[hv _ hb,hN,hdd]
  ·have hq:QOk (pRw (pRw (hB L neg E (sl b o n c) b0) d Q) d2 Q2) (sRw (hB L neg E (sl b o n c) b0).n d Q) Q:=ZtM (fun h1=>ZoG hl1 d2 Q2 (ZfU hl d Q h1)) hq0 (by omega);rw[Zfi,Zfi,hQ] at hq;rw[Zfi,Zfi,hN,hQ];refine ZoI ?_ hT hq hlo fun hno=> ?_
   ·have h1:=ZfT d (toQ m neg (vb 65536 A) E (zA (vb 65536 A) E));have h2:=ZfT d2 Q2;simp only[List.length_append];omega
   ·unfold rnF;rw[if_neg hT,if_neg hno,if_pos ho];cases ZhG m neg (vb 65536 A) E<;>rfl
 ·have ho:=(Bool.not_eq_true _).mp ho;refine Zv (Zh Zaw ZaN) (Z78 d L hL neg x0 E m t b o n c b0 g) ?_ fun g'=> ?_
  ·refine Za ?_ (Za ?_ (Z5 (hok _ _ hb (by omega))))
   ·rw[hv _ hb,hN,ho]
   ·rw[hv _ hb,hN,hdd]
  ·rw[← eQ,← hQ];have hq:QOk (pRw (hB L neg E (sl b o n c) b0) d Q) (sRw (hB L neg E (sl b o n c) b0).n d Q) Q:=ZtM (fun h1=>ZfU hl d Q h1) hq0 (by omega);rw[Zfi,hQ] at hq;rw[Zfi,hN,hQ];refine ZoI ?_ hT hq hlo fun hno=> ?_
   ·have h1:=ZfT d (toQ m neg (vb 65536 A) E (zA (vb 65536 A) E));simp only[List.length_append];omega
   ·unfold rnF;rw[if_neg hT,if_neg hno,ho];rfl
theorem Zso:tC f56 2=ZW (rS2 f56) (ZW (rS3 f56) (tC f56 10)):=by kernel_rfl
theorem Z2V {A:List Int}(hC:Zbq 65536 A) (h:A≠[]):vb 65536 A≠0:=fun h0=>by
 have:=Zi1 (by omega) hC;rw[h0] at this;apply h;rw[← this];exact zc _
section
variable {l : List Value} {o c : Nat} {A : List Int}
theorem Zsp (hF:Fst l o c A) (hC:Zbq 65536 A) (hn:A.length<20000) {neg:Bool}{E:Int}(hE: -4000000≤E∧E≤4000000) (m:Int) (g:Nat→Value):
  RunsW (Zk prog Zf Ze3 hcQ) (tC f56 2) ([vRN neg E (sl 0 o A.length c),.int .i64 m,.pointer (some ⟨1,0,none⟩),undef,.int .u64 0,.int .i64 0]++tl 103 g,hX neg E o A.length c l,[]) (ZfV m neg (vb 65536 A) E):=by
 have hb0:(hX neg E o A.length c l).blk? 0=some (l,tR):=rfl;have hv:=Zbx hF hb0;by_cases h0:A.length=0
 ·have hz:vb 65536 A=0:=by rw[List.eq_nil_of_length_eq_zero h0];rfl
  refine (Zb (Zh Zaw ZaN) (ZxV neg E m o A.length c l g) (Za (by rfl) (Z5 ?_))).mono (Zfj ?_ ?_)
  ·rw[h0];rfl
  ·rw[hz];rfl
  ·rw[hz];rfl
 ·have hT:=Z2V hC (fun h=>h0 (by rw[h];rfl));have hTl:vb 65536 A<2^(16*A.length):=by rw[← Zfz];exact ZbG (by omega) A hC.1
  have hbl:=len_le hTl;have e0:(((A.length:Nat):Int)==0)=false:=by
   simp only[beq_eq_false_iff_ne,ne_eq];omega
  have hok:Zab (hX neg E o A.length c l) (aX o) A.length c=true:=ZaP hF hC (by omega) hb0;have es:Zdz E ((bl (vO (hX neg E o A.length c l) (aX o) A.length):Nat):Int)=E+(bitLen (vb 65536 A):Nat):=by
   rw[hv,Zbi];unfold Zdz;exact Zw (by omega) (by omega)
  have hlg:lgN (vb 65536 A) E=E+(bitLen (vb 65536 A):Nat)-1:=rfl;by_cases hbig:E+(bitLen (vb 65536 A):Nat)>1100
  ·have hr:=Znf (m:=m) (neg:=neg) hT (show 1024≤lgN (vb 65536 A) E by omega);refine (Zb (Zh Zaw ZaN) (Z2Q neg E m o A.length c l g) (Za (Zha (ZoH m neg)) (Za ?_ (Za hok (Z5 e0))))).mono (Zfj ?_ ?_)
   ·rw[es];exact Xa hbig
   ·rw[hr.1]
   ·rw[hr.2]
  ·have nb:decide (Zdz E ((bl (vO (hX neg E o A.length c l) (aX o) A.length):Nat):Int)>1100)=false:=by
    rw[es];exact Xb hbig
   rw[Zso];by_cases hlow:E+(bitLen (vb 65536 A):Nat)< -1200
   ·have lb:decide (Zdz E ((bl (vO (hX neg E o A.length c l) (aX o) A.length):Nat):Int)< -1200)=true:=by
     rw[es];exact Xa hlow
    have e1:vb 65536 (d16 1)=1:=Zc1 (by omega) 1;have eb:bitLen 1=1:=Zay (k:=0) (by decide) (by decide);have r1:=Zjc (m:=m) (neg:=neg) hT (show lgN (vb 65536 A) E≤ -1100 by omega);have r2:=Zjc (m:=m) (neg:=neg) (T:=1) (E:= -1300) (by decide) (by unfold lgN;rw[eb];decide);refine Zv (Zh Zaw ZaN) (Z2S neg E m o A.length c l g) (Za (by rfl) (Za (by rfl) (Za lb (Za nb (Za hok (Z5 e0)))))) fun g'=> ?_;refine (ZoJ (L:=[(wU (d16 1),tU)]) (b:=2) (o:=0) (n:=(d16 1).length) (c:=(d16 1).length) (b0:=(l,tR)) (x:=(wU (d16 1),tU)) (A:=d16 1) (E:= -1300) (t:= -1299) (neg:=neg) (by decide) (fun h' hh=>⟨ZJ hh (by rw[zV];omega),Zan hh⟩) rfl (Zc2 (by omega) 1) rfl (by rw[zV];omega) (by omega) (by rw[e1];omega) (by rw[e1,eb];omega) (by omega) (vRN neg E (sl 0 o A.length c)) m g').mono fun ex z hz=> ?_;unfold ZfV at hz ⊢;rw[e1,r2.1,r2.2] at hz;rw[r1.1,r1.2];exact hz
   ·have lb:decide (Zdz E ((bl (vO (hX neg E o A.length c l) (aX o) A.length):Nat):Int)< -1200)=false:=by
     rw[es];exact Xb hlow
    refine Zv (Zh Zaw ZaN) (Z2R neg E m o A.length c l g) (Za lb (Za nb (Za hok (Z5 e0)))) fun g'=> ?_;exact ZoJ (L:=[]) (b:=0) (b0:=(l,tR)) (x:=(l,tR)) (neg:=neg) (by decide) (fun h' hh=>hF h' hh) rfl hC rfl (by omega) (show -400000≤E∧E≤400000 by omega) hT es (by omega) (vRN neg E (sl 0 o A.length c)) m g'
theorem Zj2 (hF:Fst l o c A) (hC:Zbq 65536 A) (hn:A.length<20000) {neg:Bool}{E:Int}(hE: -4000000≤E∧E≤4000000) (M:Int):
  RunsW (Zk prog Zf Ze3 hcQ) (Zs f56) ([vRN neg E (sl 0 o A.length c),.int .i64 M]++List.replicate 107 undef,⟨1,[(l,tR)]⟩,[]) (ZfV M neg (vb 65536 A) E):=by
 have ecode:Zs f56=ZW (rS1 f56) (tC f56 2):=Option.some.inj (Zic.symm.trans Zsn);rw[ecode];have fin:∀ m,m=mN M→∀ g,RunsW (Zk prog Zf Ze3 hcQ) (tC f56 2) ([vRN neg E (sl 0 o A.length c),.int .i64 m,.pointer (some ⟨1,0,none⟩),undef,.int .u64 0,.int .i64 0]++tl 103 g,hX neg E o A.length c l,[]) (ZfV M neg (vb 65536 A) E):=fun m hm g=>by
  have:=Zsp (neg:=neg) hF hC hn hE m g;unfold ZfV at this ⊢;rw[hm,Z0K,Z0L] at this;rw[hm];exact this
 by_cases h1:M<0
 ·exact Zv (Zh Zaw ZaN) (Z75 neg E M o A.length c l) (Z5 (Xa h1)) fun g=>fin 0 (by unfold mN;rw[if_pos h1]) g
 ·by_cases h2:M>4
  ·exact Zv (Zh Zaw ZaN) (Z76 neg E M o A.length c l) (Za (Xa h2) (Z5 (Xb h1))) fun g=>fin 0 (by unfold mN;rw[if_neg h1,if_pos h2]) g
  ·exact Zv (Zh Zaw ZaN) (Z77 neg E M o A.length c l) (Za (Xb h2) (Z5 (Xb h1))) fun g=>fin M (by unfold mN;rw[if_neg h1,if_neg h2]) g
theorem ZxX (hF:Fst l o c A) (hC:Zbq 65536 A) (hn:A.length<20000) {neg:Bool}{E:Int}(hE: -400000≤E∧E≤400000) (M:Int):
  RunsW (Zk prog Zf Ze3 hcQ) (Zs f56) ([vRN neg E (sl 0 o A.length c),.int .i64 M]++List.replicate 107 undef,⟨1,[(l,tR)]⟩,[]) (ZfV M neg (vb 65536 A) E):=Zj2 hF hC hn ⟨by omega,by omega⟩ M
end
def Z7F (h:Hp) (p:Option Addr) (n c:Nat) (E:Int):Bool:=zx h p n c && ZcQ (Zm h p n) && Nat.blt n 20000 && decide (-400000≤E∧E≤400000)
def gRr:Zae:=fun vals h s=>
 match vals with
 | [.agg cs,.int .i64 M]=>
  match cs.toList with
  | [.bool neg,.int .i64 E,.slice (some ⟨b,o,none⟩) n c]=>some (.tuple #[.int .u64 (sS neg (rnP M neg (vO h (some ⟨b,o,none⟩) n) E)),.int .i64 (rnF M neg (vO h (some ⟨b,o,none⟩) n) E)],h,s,[(Z7F h (some ⟨b,o,none⟩) n c E,true)])
  | _=>none
 | _=>none
theorem Z2W:Z6 56 gRr:=by
 intro vals h s v h' s' lg hg hl m B w E0 hv;unfold gRr at hg;split at hg
 ·rename_i cs M;split at hg
  ·rename_i neg E b o n c hcs;have ecs:cs= #[.bool neg,.int .i64 E,sl b o n c]:=by
    have:=congrArg List.toArray hcs;simpa [sl] using this
   cases hg;have l3:=hl _ Xf;simp only[Z7F,Xh,Xi] at l3;obtain⟨⟨⟨q1,q2⟩,q3⟩,q4⟩:=l3;have q2:=Zdc q2;have q3:=Zl.1 q3;rcases ZC q1 with ⟨h0,_⟩ | ⟨b',o',x,hp,hx,r1,rs,e0⟩
   ·cases h0
   ·cases hp;rw[e0] at q2;obtain⟨h1,h2,h3,h4,h5,h6,h7⟩:=zj r1;have ev:vO h (some ⟨b,o,none⟩) n=vb 65536 (Zz x.1 o n):=by unfold vO;rw[e0]
    have r:=ZxX (ZgY r1 rs) q2 (by rw[h2];exact q3) (neg:=neg) q4 M;rw[h2,← ev] at r;have evals:List.map (rn fun _=>b) [vRN neg E (sl 0 o n c),.int .i64 M]=[.agg cs,.int .i64 M]:=by
     rw[ecs];simp [rn,rn2,rn1,vRN,sl]
    have fin:=ZB (T:=Zk prog Zf Ze3 hcQ) func56 Zic (ZaH h7) (vals:=[vRN neg E (sl 0 o n c),.int .i64 M]) (fun v hv=>by
     simp only[List.mem_cons,List.not_mem_nil,or_false] at hv;rcases hv with h1 | h1<;>rw[h1]<;>rfl) (v:= .tuple #[.int .u64 (sS neg (rnP M neg (vO h (some ⟨b,o,none⟩) n) E)),.int .i64 (rnF M neg (vO h (some ⟨b,o,none⟩) n) E)]) (by rfl) r E0 (zS hx h5 h6 rfl)
    rw[evals] at fin;exact fin
  ·cases hg
 ·cases hg
end Go.Proofs.YtgefjidphfdhdaaGreatDoor
namespace Go.Proofs.YtgefjidphfdhdaaGreatDoor
open Go.Proofs.Tryz
open Go.KRun Go.Nt
set_option maxRecDepth 100000
def Zj3:Zae:=fun vals h s=>
 match vals,s with
 | [.slice p n c,.slice q n' c'],.inr (.inr (.inr (.inl d)))::s'=>
  match d,s' with
  | true,.inr (.inl V)::s2=>Zda V.toNat h s2 [(decide (vO h p n+vO h q n'=V.toNat),true),(ZL h p q n c n' c',true),(decide (0<n∨0<n'),true)]
  | false,_=>some (Zn,h,s',[(ZL h p q n c n' c',true),(decide (0<n∨0<n'),false)])
  | _,_=>none
 | _,_=>none
theorem Zhb:Z6 33 Zj3:=by
 intro vals h s v h' s' lg hg hl;unfold Zj3 at hg;split at hg
 ·rename_i p n c q n' c' d s2;split at hg
  ·rename_i V s3;unfold Zda at hg;cases hg;obtain⟨l1,l2⟩:=Zdm hl;have l1:=Xc l1;refine Zfx _ h [cmp true] _ _ [] _ ?_ l2;simp only[Zqa,Zda,l1]
  ·cases hg;exact Zfx _ h [cmp false] _ _ [] _ rfl hl
  ·cases hg
 ·cases hg
def Z7G:Zae:=fun vals h s=>
 match vals,s with
 | [.agg cs,.int .i64 M],.inr (.inl T)::s'=>
  match cs.toList with
  | [.bool neg,.int .i64 E,.slice (some ⟨b,o,none⟩) n c]=>some (.tuple #[.int .u64 (sS neg (Go.Rn.rnP M neg T.toNat E)),.int .i64 (Go.Rn.rnF M neg T.toNat E)],h,s',[(decide (vO h (some ⟨b,o,none⟩) n=T.toNat),true),(Z7F h (some ⟨b,o,none⟩) n c E,true)])
  | _=>none
 | _,_=>none
theorem ZxY:Z6 56 Z7G:=by
 intro vals h s v h' s' lg hg hl;unfold Z7G at hg;split at hg
 ·rename_i cs M T s2;split at hg
  ·rename_i neg E b o n c hcs;cases hg;obtain⟨l1,l2⟩:=Zdm hl;have l1:=Xc l1;refine Z2W _ h [] _ _ [] _ ?_ l2;simp only[gRr,hcs,l1]
  ·cases hg
 ·cases hg
def Z80:Hc:=ZY 33 Zj3 (ZY 36 Zjx (ZY 35 Zjy (ZY 66 ZiH (ZY 34 Zxe (ZY 65 ZlY (ZY 56 Z7G hcN))))))
theorem ZxZ:HcOk Z80:=Zt func33 rfl Zhb (Zt func36 rfl ZgV (Zt func35 rfl ZgW (Zt func66 rfl Zg9 (Zt func34 rfl Zex (Zt func65 rfl Zf0 (Zt func56 rfl ZxY zp))))))
section
variable {h : Hp} {b b' V W : Nat}
theorem oMu (hb:h.blk? b=some (wU (d16 V),tU)) (hc:h.blk? b'=some (wU (d16 W),tU)) (hl:(d16 V).length<100000) (hm:(d16 W).length<100000):Zgg h (some ⟨b,0,none⟩) (some ⟨b',0,none⟩) (d16 V).length (d16 V).length (d16 W).length (d16 W).length=true:=by
 unfold Zgg;rw[ZJ hb (by omega),Zaa hb,ZJ hc (by omega),Zaa hc,Zl.2 (by omega)];rfl
end
end Go.Proofs.YtgefjidphfdhdaaGreatDoor
namespace Go.Proofs.YtgefjidphfdhdaaGreatDoor
open Go.Proofs.Tryz
open Go.KRun Go.Nt
set_option maxRecDepth 100000
set_option linter.unusedVariables false
section
variable {la lb : List Value} {o c o' c' : Nat} {A L : List Int}
def rIn (V:Nat) (Q:List Int) (la lb:List Value) (r:Value) (h:Hp):Prop:=(V=0∧r=Zn∧h=hB3 (wU Q) lb la)∨(r=sl 3 0 (d16 V).length (d16 V).length∧h=hB4 (wU (d16 V)) (wU Q) lb la)
theorem Zsq (H:Two la lb o o' c' A L) {V:Nat}(hV:V<vb 65536 L) {Q:List Int}{k:Nat}(hk:k<A.length) {v10 v11:Value}(k1:KRun.lt 4 v10=true) (k2:KRun.lt 4 v11=true) (s1:∀ b:Nat,rn (zK 3 b) v10=v10) (s2:∀ b:Nat,rn (zK 3 b) v11=v11) {r:Value}{h:Hp}(hr:rIn V Q la lb r h) (g:Nat→Value) (s:List Dec):
  RunsW (Zk prog Zf Zo hcP) (x7 f31) (pFr o A.length c o' L.length c' A.length r ((k:Nat):Int) v10 v11++tl 83 g,h,s) fun e z=>e=none∧(∃ g,z.1=pFr o A.length c o' L.length c' A.length (sl 3 0 (d16 ((A.getD k 0).toNat+65536*V)).length (d16 ((A.getD k 0).toNat+65536*V)).length) ((k:Nat):Int) v10 v11++tl 83 g)∧z.2.1=hB4 (wU (d16 ((A.getD k 0).toNat+65536*V))) (wU Q) lb la:=by
 have hd:=Zef H.dA k;generalize hdd:A.getD k 0=d at*;obtain⟨t1,t2⟩:=Zq1 V hd;have b2:=H.bnd.2.1;have hlen:(d16 V).length≤L.length:=Zc8 (Nat.lt_trans hV b2);have n2:=H.n2;have gc:Z4 (la[o+((k:Nat):Int).toNat*1]?) (.int .u32 d)=true:=by rw[Xg,Nat.mul_one,H.ra.cell hk,hdd];simp [Z4]
 have gi:decide (0≤((k:Nat):Int)∧((k:Nat):Int)<((A.length:Nat):Int))=true:=Xa (by omega);have one:ZaQ tU [.int .u32 d] 0 1 1=true:=Zal (L:=[d]) (ZzJ hd) (by show 1<_;omega) (Z4k (by show 1<_;omega));have c1:Zz [.int .u32 d] 0 1=[d]:=ZaV [d];have lt':∀ t:Nat,∀ v∈pFr o A.length c o' L.length c' A.length (sl 3 0 t t) ((k:Nat):Int) v10 v11,KRun.lt 4 v=true:=fun t=>Zte k1 k2;have front:∀ b t:Nat,3≤b→(pFr o A.length c o' L.length c' A.length (sl 3 0 t t) ((k:Nat):Int) v10 v11).map (rn (zK 3 b))=pFr o A.length c o' L.length c' A.length (sl b 0 t t) ((k:Nat):Int) v10 v11:=fun b t hb=>by
  simp only[pFr,List.map_cons,List.map_nil,s1,s2]
  kernel_rfl
 by_cases h0:V=0
 ·subst h0;have e0:d16 0=[]:=zc _;rw[e0] at t1 t2;rcases hr with ⟨_,rfl,rfl⟩ | ⟨rfl,rfl⟩
  ·have r:=Zb (s0:=s) Zb1 (Z5g o A.length c o' L.length c' A.length v10 v11 ((k:Nat):Int) d (wU Q) lb la g) (Zj one (Zj gc (Zu gi)));rw[c1,t1] at r;exact r.keptP (k:=3) (b:=3) (base:=[(wU Q,tU),(lb,tR),(la,tR)]) (y:=(wU (d16 (d.toNat+65536*0)),tU)) (r:=wU ([d].drop (Zi [d]))) rfl (front 3 _ (Nat.le_refl _)) (Zq2 (ZE Q) H.sb H.sa rfl rfl rfl) (by
    show some ([Value.int .u32 d],tU)=_;rw[← t2];rfl) (Nat.le_refl _) (ZE _) (lt' _)
  ·rw[e0];have r:=Zb (s0:=s) Zb1 (Z5h o A.length c o' L.length c' A.length v10 v11 ((k:Nat):Int) d (wU []) (wU Q) lb la g) (Zj one (Zj gc (Zu gi)));rw[c1,t1] at r;exact r.keptP (k:=3) (b:=4) (base:=[(wU Q,tU),(lb,tR),(la,tR)]) (y:=(wU (d16 (d.toNat+65536*0)),tU)) (r:=wU ([d].drop (Zi [d]))) rfl (front 4 _ (by omega)) (Zq2 (ZE Q) H.sb H.sa rfl rfl rfl) (by
    show some ([Value.int .u32 d],tU)=_;rw[← t2];rfl) (by omega) (ZE _) (lt' _)
 ·rcases hr with ⟨h1,_,_⟩ | ⟨rfl,rfl⟩
  ·exact absurd h1 h0
  ·have hpos:0<(d16 V).length:=by
    rcases Nat.eq_zero_or_pos (d16 V).length with h1 | h1
    ·exact absurd ((Zcc (b:=65536) (by omega)).1 (List.eq_nil_of_length_eq_zero h1)) h0
    ·exact h1
   have et:List.take (d16 V).length (List.drop 0 (wU (d16 V)))=wU (d16 V):=by rw[List.drop_zero,← Zak,List.take_length]
   have e1:[.int .u32 d]++List.take (d16 V).length (List.drop 0 (wU (d16 V)))=wU (d::d16 V):=by rw[et];rfl
   have hD:∀ x∈d::d16 V,0≤x∧x<4294967296:=fun x hx=>by
    rcases List.mem_cons.1 hx with rfl | hx
    ·exact⟨hd.1,by have:=hd.2;omega⟩
    ·exact Zmk V x hx
   have row:ZaQ tU (wU (d::d16 V)) 0 (1+(d16 V).length) grown=true:=by
    have:=Zal (L:=d::d16 V) hD (by simp only[List.length_cons];omega) (c:=grown) (ZyJ _);rw[List.length_cons,Nat.add_comm] at this;exact this
   have chz:Zdq ([.int .u32 d],tU) (wU (d16 V),tU) 1 1 0 (d16 V).length=true:=Zg6 (L:=[d]) (M:=d16 V) rfl rfl hpos (by simp only[List.length_singleton];omega);have cD:Zz (wU (d::d16 V)) 0 (1+(d16 V).length)=d::d16 V:=by
    have:=ZaV (d::d16 V);rw[List.length_cons,Nat.add_comm] at this;exact this
   have q:=Z5i o A.length c o' L.length c' A.length (d16 V).length v10 v11 ((k:Nat):Int) d (wU (d16 V)) (wU Q) lb la g;rw[e1] at q;have r:=Zb (s0:=s) Zb1 q (Zj row (Zj chz (Zj gc (Zu gi))));rw[cD,t1] at r;exact r.keptP (k:=3) (b:=5) (base:=[(wU Q,tU),(lb,tR),(la,tR)]) (y:=(wU (d16 (d.toNat+65536*V)),tU)) (r:=wU ((d::d16 V).drop (Zi (d::d16 V)))) rfl (front 5 _ (by omega)) (Zq2 (ZE Q) H.sb H.sa rfl rfl rfl) (by
    show some (wU (d::d16 V),tU)=_;rw[← t2]) (by omega) (ZE _) (lt' _)
end
end Go.Proofs.YtgefjidphfdhdaaGreatDoor
namespace Go.Proofs.YtgefjidphfdhdaaGreatDoor
open Go.Proofs.Tryz
open Go.IntKind
open Go.KRun Go.Nt
set_option maxRecDepth 100000
set_option linter.unusedVariables false
section
variable {la lb : List Value} {o c o' c' : Nat} {A L : List Int}
theorem Zid (a b:Nat):(zY a b<0↔a<b)∧(zY a b>0↔b<a):=by
 unfold zY;constructor<;>split<;>(try split)<;>omega
def iV (e:Int):Value:= .int .u64 e
theorem Zsr (H:Two la lb o o' c' A L) {V:Nat}(hV:V<65536*vb 65536 L) {Q:List Int}{k:Nat}{v10:Value}(k1:KRun.lt 5 v10=true) (s1:∀ b:Nat,rn (zK 4 b) v10=v10) {e0:Nat}(he0:e0<65536) (hge:V/vb 65536 L≤e0) (g:Nat→Value) (s:List Dec):
  RunsW (Zk prog Zf Zo hcP) (.block 2 (.loop (yL f31))) (pFr o A.length c o' L.length c' A.length (sl 3 0 (d16 V).length (d16 V).length) ((k:Nat):Int) v10 (iV (e0:Nat))++[sl 4 0 (d16 (vb 65536 L*e0)).length (d16 (vb 65536 L*e0)).length]++tl 82 g,hB5 (wU (d16 (vb 65536 L*e0))) (wU (d16 V)) (wU Q) lb la,s) fun e z=>match e with
   | none=>(∃ g,z.1=pFr o A.length c o' L.length c' A.length (sl 3 0 (d16 V).length (d16 V).length) ((k:Nat):Int) v10 (iV (V/vb 65536 L:Nat))++[sl 4 0 (d16 (vb 65536 L*(V/vb 65536 L))).length (d16 (vb 65536 L*(V/vb 65536 L))).length]++tl 82 g)∧z.2.1=hB5 (wU (d16 (vb 65536 L*(V/vb 65536 L)))) (wU (d16 V)) (wU Q) lb la
   | some none=>False
   | some (some _)=>False:=by
 obtain⟨b0,b1,b2⟩:=H.bnd;have n2:=H.n2;generalize hB:vb 65536 L=B at*;have hP:∀ e:Nat,e<65536→(d16 (B*e)).length≤L.length+1:=fun e he=>Zc8 (by
  rw[Nat.pow_succ];exact Nat.mul_lt_mul_of_lt_of_le b1 (by omega) (by omega))
 have hlV:(d16 V).length≤L.length+1:=Zc8 (by
  rw[Nat.pow_succ,Nat.mul_comm];exact Nat.lt_trans hV (Nat.mul_lt_mul_of_pos_left b1 (by omega)))
 refine RunsW.forLoop (P:=fun z=>(∃ g,z.1=pFr o A.length c o' L.length c' A.length (sl 3 0 (d16 V).length (d16 V).length) ((k:Nat):Int) v10 (iV (V/B:Nat))++[sl 4 0 (d16 (B*(V/B))).length (d16 (B*(V/B))).length]++tl 82 g)∧z.2.1=hB5 (wU (d16 (B*(V/B)))) (wU (d16 V)) (wU Q) lb la) (R:=fun _=>False)
  (fun m z=>m<65536∧V/B≤m∧(∃ g,z.1=pFr o A.length c o' L.length c' A.length (sl 3 0 (d16 V).length (d16 V).length) ((k:Nat):Int) v10 (iV (m:Nat))++[sl 4 0 (d16 (B*m)).length (d16 (B*m)).length]++tl 82 g)∧z.2.1=hB5 (wU (d16 (B*m))) (wU (d16 V)) (wU Q) lb la) ?_ (n:=e0) ⟨he0,hge,⟨g,rfl⟩,rfl⟩
 rintro m ⟨t,h',s⟩ ⟨hm,hle,⟨g,ht⟩,hh⟩;simp only at ht hh;subst ht hh;have p4:(hB5 (wU (d16 (B*m))) (wU (d16 V)) (wU Q) lb la).blk? 4=some (wU (d16 (B*m)),tU):=rfl;have p3:(hB5 (wU (d16 (B*m))) (wU (d16 V)) (wU Q) lb la).blk? 3=some (wU (d16 V),tU):=rfl;have p1:(hB5 (wU (d16 (B*m))) (wU (d16 V)) (wU Q) lb la).blk? 1=some (lb,tR):=rfl;have hPm:=hP m hm;have q4:=Zg7 p4 (by omega);have q3:=Zg7 p3 (by omega);obtain⟨q1,w1,u1⟩:=H.row p1;rw[hB] at u1;have hy:∀ d:Bool,decide (V<B*m)=d→Zx [(decide (zY (vO (hB5 (wU (d16 (B*m))) (wU (d16 V)) (wU Q) lb la) (aP 4 0) (d16 (B*m)).length) (vO (hB5 (wU (d16 (B*m))) (wU (d16 V)) (wU Q) lb la) (aP 3 0) (d16 V).length)>0),d),(ZL (hB5 (wU (d16 (B*m))) (wU (d16 V)) (wU Q) lb la) (aP 4 0) (aP 3 0) (d16 (B*m)).length (d16 (B*m)).length (d16 V).length (d16 V).length,true)]:=fun d hd=>by
  refine Za ?_ (Z5 (ZdB q4 q3 (by rw[ZbI p4];exact Zbg _) (by rw[ZbI p3];exact Zbg _) (by omega)));rw[Zq0 p4,Zq0 p3,← hd];exact decide_eq_decide.2 (Zid (B*m) V).2
 rw[Z8H];by_cases hlt:V<B*m
 ·have hmd:V/B<m:=by
   rw[Nat.div_lt_iff_lt_mul b2,Nat.mul_comm];exact hlt
  have hm1:1≤m:=Nat.lt_of_le_of_lt (Nat.zero_le _) hmd;have hpos:0<(d16 (B*m)).length:=by
   rcases Nat.eq_zero_or_pos (d16 (B*m)).length with h1 | h1
   ·have:=(Zcc (b:=65536) (by omega)).1 (List.eq_nil_of_length_eq_zero h1);omega
   ·exact h1
  have eB:B*m-B=B*(m-1):=by rw[Nat.mul_sub,Nat.mul_one]
  have hBm:B≤B*m:=Nat.le_mul_of_pos_right B (by omega);refine RunsW.next (front:=pFr o A.length c o' L.length c' A.length (sl 3 0 (d16 V).length (d16 V).length) ((k:Nat):Int) v10 (iV (m:Nat))++[sl 4 0 (d16 (B*m)).length (d16 (B*m)).length]) (Zb Zb1 (Z5n o A.length c o' L.length c' A.length (d16 V).length (d16 (B*m)).length v10 ((k:Nat):Int) ((m:Nat):Int) (wU (d16 (B*m))) (wU (d16 V)) (wU Q) lb la g) (hy true (Xa hlt))) fun g s=> ?_;have rb:=Zb (s0:=s) Zb1 (Z5p o A.length c o' L.length c' A.length (d16 V).length (d16 (B*m)).length v10 ((k:Nat):Int) ((m:Nat):Int) (wU (d16 (B*m))) (wU (d16 V)) (wU Q) lb la g) (Za (by
   rw[ZdB q4 q1 (by rw[ZbI p4];exact Zbg _) (by rw[w1];exact H.cL.1) (by omega),Zq0 p4,u1,Nat.ble_eq_true_of_le hBm];rfl) (Z5 (Xa hpos)))
  have e64:u64.wrap (((m:Nat):Int)-1)=((m-1:Nat):Int):=by rw[w64 (by omega) (by omega)];omega
  rw[Zq0 p4,u1,eB,e64] at rb;have rk:=rb.kept (k:=4) (b:=5) (base:=[(wU (d16 V),tU),(wU Q,tU),(lb,tR),(la,tR)]) (y:=(wU (d16 (B*(m-1))),tU)) (front':=pFr o A.length c o' L.length c' A.length (sl 3 0 (d16 V).length (d16 V).length) ((k:Nat):Int) v10 (iV ((m-1:Nat):Int))++[sl 4 0 (d16 (B*(m-1))).length (d16 (B*(m-1))).length]) rfl (by
    simp only[pFr,List.map_append,List.map_cons,List.map_nil,s1]
    kernel_rfl) (by
    intro i x hx;have hi:i<4:=Hp.blk_lt hx;have h3:i=0∨i=1∨i=2∨i=3:=by omega
    rcases h3 with rfl | rfl | rfl | rfl
    ·have:(la,tR)=x:=Option.some.inj hx;subst this;exact⟨rfl,H.sa⟩
    ·have:(lb,tR)=x:=Option.some.inj hx;subst this;exact⟨rfl,H.sb⟩
    ·have:(wU Q,tU)=x:=Option.some.inj hx;subst this;exact⟨rfl,ZE _⟩
    ·have:(wU (d16 V),tU)=x:=Option.some.inj hx;subst this;exact⟨rfl,ZE _⟩) rfl (by omega) (ZE _) (by
    intro v hv;simp only[pFr,List.mem_append,List.mem_cons,List.not_mem_nil,or_false] at hv;rcases hv with (rfl | rfl | rfl | rfl | rfl | rfl | rfl | rfl | rfl | rfl | rfl | rfl) | rfl
    ·rfl
    ·rfl
    ·rfl
    ·rfl
    ·rfl
    ·rfl
    ·rfl
    ·rfl
    ·rfl
    ·rfl
    ·exact k1
    ·rfl
    ·rfl)
  refine RunsW.block (P1:=fun e z=>e=none∧(∃ g,z.1=pFr o A.length c o' L.length c' A.length (sl 3 0 (d16 V).length (d16 V).length) ((k:Nat):Int) v10 (iV ((m-1:Nat):Int))++[sl 4 0 (d16 (B*(m-1))).length (d16 (B*(m-1))).length]++tl 82 g)∧z.2.1=hB5 (wU (d16 (B*(m-1)))) (wU (d16 V)) (wU Q) lb la) rk (fun y hy=> ?_) (fun y hy=>by cases hy.1) (fun y hy=>by cases hy.1) (fun id y _ hy=>by cases hy.1);exact⟨m-1,by omega,by omega,Nat.le_sub_one_of_lt hmd,hy.2.1,hy.2.2⟩
 ·have hmd:m=V/B:=by
   have h1:m≤V/B:=by rw[Nat.le_div_iff_mul_le b2,Nat.mul_comm];omega
   omega
  subst hmd;refine RunsW.seq (Zb Zb1 (Z5o o A.length c o' L.length c' A.length (d16 V).length (d16 (B*(V/B))).length v10 ((k:Nat):Int) ((V/B:Nat):Int) (wU (d16 (B*(V/B)))) (wU (d16 V)) (wU Q) lb la g) (hy false (Xb hlt))) (fun y hy=>by cases hy.1) (fun e y hy=> ?_);obtain⟨e1,z1,z2⟩:=hy;cases e1;exact⟨rfl,z1,z2⟩
def Z7H (o c o' c':Nat) (la lb:List Value) (A L:List Int) (V:Nat) (Q:List Int) (i:Int) (z:Lf):Prop:=
 ∃ v10 v11:Value,(KRun.lt 4 v10=true∧KRun.lt 4 v11=true∧(∀ k b:Nat,rn (zK k b) v10=v10)∧(∀ k b:Nat,rn (zK k b) v11=v11))∧(∃ g,z.1=pFr o A.length c o' L.length c' A.length (sl 3 0 (d16 V).length (d16 V).length) i v10 v11++tl 83 g)∧z.2.1=hB4 (wU (d16 V)) (wU Q) lb la
theorem Zss (H:Two la lb o o' c' A L) {V:Nat}(hV:V<vb 65536 L) {Q:List Int}(hQ:Q.length=A.length) {k:Nat}(hk:k<A.length) {v10 v11:Value}(hv:KRun.lt 4 v10=true∧KRun.lt 4 v11=true∧(∀ k b:Nat,rn (zK k b) v10=v10)∧(∀ k b:Nat,rn (zK k b) v11=v11)) {r:Value}{h:Hp}(hr:rIn V Q la lb r h) (g:Nat→Value) (s:List Dec):
  RunsW (Zk prog Zf Zo hcP) (paL f31) (pFr o A.length c o' L.length c' A.length r ((k:Nat):Int) v10 v11++tl 83 g,h,s) fun e z=>e=none∧∃ V' Q',V'=(A.getD k 0).toNat+65536*V∧Q'=(if V'<vb 65536 L then Q else Q.set k ((V'/vb 65536 L:Nat):Int))∧Z7H o c o' c' la lb A L (V' % vb 65536 L) Q' (((k:Nat):Int)-1) z:=by
 obtain⟨b0,b1,b2⟩:=H.bnd;have n1:=H.n1;have n2:=H.n2;have a2:=H.a2;obtain⟨l1,l2,s1,s2⟩:=hv;rw[Zmj];refine RunsW.next (Zb Zb1 (Z5e o A.length c o' L.length c' A.length r v10 v11 ((k:Nat):Int) h g) (Z5 (Xa (Int.natCast_nonneg k)))) fun g s=> ?_;have hd:=Zef H.dA k;obtain⟨W,hW⟩:∃ W,W=(A.getD k 0).toNat+65536*V:=⟨_,rfl⟩;have hWB:W<65536*vb 65536 L:=by
  have:=hd.2;have:=hd.1;have h3:65536*V+65536≤65536*vb 65536 L:=by
   have:=Nat.mul_le_mul_left 65536 (Nat.succ_le_of_lt hV);rw[Nat.mul_succ] at this;exact this
  omega
 obtain⟨B,hB⟩:∃ B,B=vb 65536 L:=⟨_,rfl⟩;have hlW:(d16 W).length≤L.length+1:=Zc8 (by
  rw[Nat.pow_succ,Nat.mul_comm];exact Nat.lt_trans hWB (Nat.mul_lt_mul_of_pos_left b1 (by omega)))
 have e1:i64.wrap (((k:Nat):Int)-1)=((k:Nat):Int)-1:=Zw (by omega) (by omega);refine RunsW.seq (P1:=fun e z=>e=none∧Z7H o c o' c' la lb A L (W % vb 65536 L) (if W<vb 65536 L then Q else Q.set k ((W/vb 65536 L:Nat):Int)) ((k:Nat):Int) z) ?_ ?_ (fun e y hy=>by cases hy.1)
 ·refine RunsW.block (P1:=fun e z=>(e=none∨e=some (some 1))∧Z7H o c o' c' la lb A L (W % vb 65536 L) (if W<vb 65536 L then Q else Q.set k ((W/vb 65536 L:Nat):Int)) ((k:Nat):Int) z) ?_ (fun y hy=>⟨rfl,hy.2⟩) (fun y hy=>by rcases hy.1 with h | h<;>cases h) (fun y hy=>⟨rfl,hy.2⟩) (fun id y hid hy=>by
   rcases hy.1 with h | h
   ·cases h
   ·cases h;exact absurd rfl hid)
  rw[Z8G];have h7:=Zsq (c:=c) H hV (Q:=Q) hk l1 l2 (s1 3) (s2 3) hr g s;rw[← hW] at h7;refine RunsW.next h7 fun g s=> ?_;have p3:(hB4 (wU (d16 W)) (wU Q) lb la).blk? 3=some (wU (d16 W),tU):=rfl;have p1:(hB4 (wU (d16 W)) (wU Q) lb la).blk? 1=some (lb,tR):=rfl;have q3:=Zg7 p3 (by omega);obtain⟨q1,w1,u1⟩:=H.row p1;have h8:∀ d:Bool,decide (W<vb 65536 L)=d→Zx [(decide (zY (vO (hB4 (wU (d16 W)) (wU Q) lb la) (aP 3 0) (d16 W).length) (vO (hB4 (wU (d16 W)) (wU Q) lb la) (aP 1 o') L.length)<0),d),(ZL (hB4 (wU (d16 W)) (wU Q) lb la) (aP 3 0) (aP 1 o') (d16 W).length (d16 W).length L.length c',true)]:=fun d hd=>by
   refine Za ?_ (Z5 (ZdB q3 q1 (by rw[ZbI p3];exact Zbg _) (by rw[w1];exact H.cL.1) (by omega)));rw[Zq0 p3,u1,← hd];exact decide_eq_decide.2 (Zid W (vb 65536 L)).1
  by_cases hlt:W<vb 65536 L
  ·refine RunsW.seq (Zb Zb1 (Z5j o A.length c o' L.length c' A.length (d16 W).length v10 v11 ((k:Nat):Int) (wU (d16 W)) (wU Q) lb la g) (h8 true (Xa hlt))) (fun y hy=>by cases hy.1) (fun e y hy=> ?_);obtain⟨e2,z1,z2⟩:=hy;cases e2;rw[if_pos hlt,Nat.mod_eq_of_lt hlt];exact⟨.inr rfl,v10,v11,⟨l1,l2,s1,s2⟩,z1,z2⟩
  ·rw[if_neg hlt];refine RunsW.next (Zb Zb1 (Z5k o A.length c o' L.length c' A.length (d16 W).length v10 v11 ((k:Nat):Int) (wU (d16 W)) (wU Q) lb la g) (h8 false (Xb hlt))) fun g s=> ?_;have g9:=Z8J o A.length c o' L.length c' A.length (d16 W).length v10 v11 ((k:Nat):Int) (wU (d16 W)) (wU Q) lb la g;rw[ZbI p3,ZzH W L.length n1 n2] at g9;refine RunsW.next (Zb Zb1 g9 (Za q3 (Za rfl (Za q3 (Za rfl (Z5 q3)))))) fun g s=> ?_;obtain⟨t1,t2,t3,t4,t5⟩:=ZzC n1 b0 b1 hWB;have etb:=ZzI H.cL n1 n2;generalize Zqz W L.length=tp at*;generalize Zpd (vb 65536 L) L.length=tb at*;obtain⟨tq,htq⟩:∃ tq,tq=tp/tb:=⟨_,rfl⟩;have htq':tq≤tp:=by rw[htq];exact Nat.div_le_self _ _
   rw[← htq] at t4;have eix:i64.wrap ((L.length:Int)-1)=((L.length-1:Nat):Int):=by rw[Zw (by omega) (by omega)];omega
   have g10:=Z5l o A.length c o' L.length c' A.length (d16 W).length v11 ((k:Nat):Int) ((tp:Nat):Int) (L.getD (L.length-1) 0) ((tq:Nat):Int) (wU (d16 W)) (wU Q) lb la g;have eq:u64.wrap (((tp:Nat):Int).tdiv ((tb:Nat):Int))=((tq:Nat):Int):=by
    rw[← Int.ofNat_tdiv,← htq,w64 (by omega) (by omega)]
   refine RunsW.next (Zb Zb1 g10 (by
    rw[w1,etb];refine Za (Xb (by omega)) (Za (Xa eq) (Za q1 (Za rfl (Za ?_ (Z5 ?_)))))
    ·rw[eix,Xg,Nat.mul_one,H.rb.cell (by omega)];simp [Z4]
    ·rw[eix];exact Xa (by omega))) fun g s=> ?_
   obtain⟨e,he⟩:∃ e:Nat,e=min tq 65535:=⟨_,rfl⟩;have em:Z5c ((tq:Nat):Int)=((e:Nat):Int):=by unfold Z5c;rw[he];split<;>omega
   rw[em];have e16:e<65536:=by omega
   have hde:W/vb 65536 L≤e:=by omega
   have w32:u32.wrap ((e:Nat):Int)=((e:Nat):Int):=zt (by omega) (by omega);have ep:pV (hB4 (wU (d16 W)) (wU Q) lb la) o' L.length ((e:Nat):Int)=vb 65536 L*e:=by
    unfold pV;rw[u1,w32,Xg];rfl
   have g11:=Z5m o A.length c o' L.length c' A.length (d16 W).length (iV ((tp:Nat):Int)) ((k:Nat):Int) ((e:Nat):Int) (wU (d16 W)) (wU Q) lb la g;rw[ep] at g11;refine RunsW.next (front:=pFr o A.length c o' L.length c' A.length (sl 3 0 (d16 W).length (d16 W).length) ((k:Nat):Int) (iV ((tp:Nat):Int)) (iV ((e:Nat):Int))++[sl 4 0 (d16 (vb 65536 L*e)).length (d16 (vb 65536 L*e)).length]) (Zb Zb1 g11 (Za (by
    unfold ZaZ;rw[q1,w1,Zbv H.cL.1,Zl.2 (by omega),w32,Xa ⟨⟨by omega,by omega⟩,by omega,by omega⟩];rfl) (Z5 (Xa (.inl (by omega)))))) fun g s=> ?_
   refine RunsW.seq (P1:=fun e z=>e=none∧(∃ g,z.1=pFr o A.length c o' L.length c' A.length (sl 3 0 (d16 W).length (d16 W).length) ((k:Nat):Int) (iV ((tp:Nat):Int)) (iV (W/vb 65536 L:Nat))++[sl 4 0 (d16 (vb 65536 L*(W/vb 65536 L))).length (d16 (vb 65536 L*(W/vb 65536 L))).length]++tl 82 g)∧z.2.1=hB5 (wU (d16 (vb 65536 L*(W/vb 65536 L)))) (wU (d16 W)) (wU Q) lb la) ((Zsr (c:=c) H hWB rfl (fun b=>rfl) e16 hde g s).mono fun e z hz=> ?_) ?_ (fun e y hy=>by cases hy.1)
   ·match e,hz with
    | none,hz=>exact⟨rfl,hz⟩
    | some none,hz=>exact hz.elim
    | some (some _),hz=>exact hz.elim
   ·rintro⟨t,h',s⟩ ⟨_,⟨g,ht⟩,hh⟩;simp only at ht hh;subst ht hh;have p4:(hB5 (wU (d16 (vb 65536 L*(W/vb 65536 L)))) (wU (d16 W)) (wU Q) lb la).blk? 4=some (wU (d16 (vb 65536 L*(W/vb 65536 L))),tU):=rfl;have p3':(hB5 (wU (d16 (vb 65536 L*(W/vb 65536 L)))) (wU (d16 W)) (wU Q) lb la).blk? 3=some (wU (d16 W),tU):=rfl;have hle:vb 65536 L*(W/vb 65536 L)≤W:=Nat.mul_div_le W (vb 65536 L);have hl4:(d16 (vb 65536 L*(W/vb 65536 L))).length≤L.length+1:=Zc8 (by
     rw[Nat.pow_succ];exact Nat.mul_lt_mul_of_lt_of_le b1 (by omega) (by omega))
    have q4:=Zg7 p4 (by omega);have q3':=Zg7 p3' (by omega);have hpos:0<(d16 W).length:=by
     rcases Nat.eq_zero_or_pos (d16 W).length with h1 | h1
     ·have:=(Zcc (b:=65536) (by omega)).1 (List.eq_nil_of_length_eq_zero h1);omega
     ·exact h1
    have ge:=Z8K o A.length c o' L.length c' A.length (d16 W).length (d16 (vb 65536 L*(W/vb 65536 L))).length (iV ((tp:Nat):Int)) ((k:Nat):Int) ((W/vb 65536 L:Nat):Int) (wU (d16 (vb 65536 L*(W/vb 65536 L)))) (wU (d16 W)) (wU Q) lb la g;have wd:u32.wrap ((W/vb 65536 L:Nat):Int)=((W/vb 65536 L:Nat):Int):=zt (Int.natCast_nonneg _) (by omega);have em2:W-vb 65536 L*(W/vb 65536 L)=W % vb 65536 L:=by have:=Nat.div_add_mod W (vb 65536 L);omega
    have eset:(wU Q).set (0+((k:Nat):Int).toNat*1) (.int .u32 ((W/vb 65536 L:Nat):Int))=wU (Q.set k ((W/vb 65536 L:Nat):Int)):=by
     rw[Xg,Nat.zero_add,Nat.mul_one];unfold wU;rw[List.map_set]
    have re:=Zb (s0:=s) Zb1 ge (Za (Xa (by rw[Xg,Zak];omega)) (Za (Xa (by omega)) (Za (by
     rw[ZdB q3' q4 (by rw[ZbI p3'];exact Zbg _) (by rw[ZbI p4];exact Zbg _) (by omega),Zq0 p4,Zq0 p3',Nat.ble_eq_true_of_le hle];rfl) (Z5 (Xa hpos)))))
    rw[Zq0 p4,Zq0 p3',em2,wd,eset] at re;have rk:=re.kept (k:=3) (b:=5) (base:=[(wU (Q.set k ((W/vb 65536 L:Nat):Int)),tU),(lb,tR),(la,tR)]) (y:=(wU (d16 (W % vb 65536 L)),tU)) (front':=pFr o A.length c o' L.length c' A.length (sl 3 0 (d16 (W % vb 65536 L)).length (d16 (W % vb 65536 L)).length) ((k:Nat):Int) (iV ((tp:Nat):Int)) (iV (W/vb 65536 L:Nat))) rfl (by
     simp only[pFr,List.map_cons,List.map_nil]
     kernel_rfl) (Zq2 (ZE _) H.sb H.sa rfl rfl rfl) rfl (by omega) (ZE _) (Zte rfl rfl)
    refine rk.mono fun e z hz=> ?_;obtain⟨e3,z1,z2⟩:=hz;exact⟨.inl e3,_,_,⟨rfl,rfl,fun k b=>rfl,fun k b=>rfl⟩,z1,z2⟩
 ·rintro⟨t,h',s⟩ ⟨_,u10,u11,hu,⟨g,ht⟩,hh⟩;simp only at ht hh;subst ht hh;have gi:=Z8I o A.length c o' L.length c' A.length (sl 3 0 (d16 (W % vb 65536 L)).length (d16 (W % vb 65536 L)).length) u10 u11 ((k:Nat):Int) (hB4 (wU (d16 (W % vb 65536 L))) (wU (if W<vb 65536 L then Q else Q.set k ((W/vb 65536 L:Nat):Int))) lb la) g;rw[e1] at gi;refine (Zb Zb1 gi (fun x hx=>by cases hx)).mono fun e z hz=> ?_;obtain⟨e2,z1,z2⟩:=hz;exact⟨e2,W,_,hW,rfl,u10,u11,hu,z1,z2⟩
end
section
variable {la lb : List Value} {o c o' c' : Nat} {A L : List Int}
def okV (v10 v11:Value):Prop:=KRun.lt 4 v10=true∧KRun.lt 4 v11=true∧(∀ k b:Nat,rn (zK k b) v10=v10)∧(∀ k b:Nat,rn (zK k b) v11=v11)
def Z7I (A L:List Int) (i V:Nat) (Q:List Int):Prop:=i≤A.length∧Q.length=A.length∧(∀ x∈Q,Dg 65536 x)∧(∀ j,j<i→Q.getD j 0=0)∧vb 65536 (A.drop i)=vb 65536 (Q.drop i)*vb 65536 L+V∧V<vb 65536 L
def Z2X (o c o' c':Nat) (la lb:List Value) (A L:List Int) (i:Nat) (z:Lf):Prop:=
 ∃ V Q,Z7I A L i V Q∧∃ v10 v11 r,okV v10 v11∧(∃ g,z.1=pFr o A.length c o' L.length c' A.length r (((i:Nat):Int)-1) v10 v11++tl 83 g)∧rIn V Q la lb r z.2.1∧(i<A.length→r=sl 3 0 (d16 V).length (d16 V).length∧z.2.1=hB4 (wU (d16 V)) (wU Q) lb la)
theorem ZoK (H:Two la lb o o' c' A L) {k V:Nat}{Q:List Int}(h:Z7I A L (k+1) V Q):Z7I A L k (((A.getD k 0).toNat+65536*V) % vb 65536 L) (if (A.getD k 0).toNat+65536*V<vb 65536 L then Q else Q.set k ((((A.getD k 0).toNat+65536*V)/vb 65536 L:Nat):Int)):=by
 obtain⟨h1,h2,h3,h4,h5,h6⟩:=h;have hB:=H.bnd.2.2;have hd:=Zef H.dA k;have hA:vb 65536 (A.drop k)=(A.getD k 0).toNat+65536*vb 65536 (A.drop (k+1)):=Zf2 (by omega);obtain⟨W,hW⟩:∃ W,W=(A.getD k 0).toNat+65536*V:=⟨_,rfl⟩;have hWB:W<65536*vb 65536 L:=by
  have:=hd.2;have:=hd.1;have h3:65536*V+65536≤65536*vb 65536 L:=by
   have:=Nat.mul_le_mul_left 65536 (Nat.succ_le_of_lt h6);rw[Nat.mul_succ] at this;exact this
  omega
 have hq:W/vb 65536 L<65536:=by rw[Nat.div_lt_iff_lt_mul hB];exact hWB
 have hdm:=Nat.div_add_mod W (vb 65536 L);have hml:=Nat.mod_lt W hB;rw[← hW];have hk:k<Q.length:=by omega
 have hQ:vb 65536 (Q.drop k)=(Q.getD k 0).toNat+65536*vb 65536 (Q.drop (k+1)):=Zf2 hk;have key:∀ q:Nat,vb 65536 (A.drop k)=(q+65536*vb 65536 (Q.drop (k+1)))*vb 65536 L+(W-q*vb 65536 L)↔q*vb 65536 L≤W∨vb 65536 (A.drop k)=(q+65536*vb 65536 (Q.drop (k+1)))*vb 65536 L+(W-q*vb 65536 L):=fun q=>by
  refine⟨.inr,fun h=>h.elim (fun h=> ?_) id⟩;rw[hA,h5,Nat.add_mul,Nat.mul_add,Nat.mul_assoc];omega
 by_cases hlt:W<vb 65536 L
 ·rw[if_pos hlt,Nat.mod_eq_of_lt hlt];refine⟨by omega,h2,h3,fun j hj=>h4 j (by omega),?_,hlt⟩;have h0:(Q.getD k 0).toNat=0:=by rw[h4 k (by omega)];rfl
  rw[hQ,h0];have:=(key 0).2 (.inl (by omega));rw[Nat.zero_mul,Nat.sub_zero] at this;exact this
 ·rw[if_neg hlt];refine⟨by omega,by rw[List.length_set];exact h2,Zm9 h3 ⟨Int.natCast_nonneg _,by omega⟩ k,fun j hj=> ?_,?_,hml⟩
  ·have:=h4 j (by omega);simp only[List.getD] at*;rw[List.getElem?_set_ne (by omega)];exact this
  ·have hk':k<(Q.set k ((W/vb 65536 L:Nat):Int)).length:=by rw[List.length_set];exact hk
   have e1:((Q.set k ((W/vb 65536 L:Nat):Int)).getD k 0).toNat=W/vb 65536 L:=by
    simp only[List.getD,List.getElem?_set_self hk,Option.getD_some,Xg]
   have e2:(Q.set k ((W/vb 65536 L:Nat):Int)).drop (k+1)=Q.drop (k+1):=by rw[List.drop_set_of_lt (by omega)]
   rw[Zf2 hk',e1,e2];have e3:W % vb 65536 L=W-W/vb 65536 L*vb 65536 L:=by rw[Nat.mul_comm] at hdm;omega
   rw[e3];exact (key _).2 (.inl (by rw[Nat.mul_comm] at hdm;omega))
theorem Zst (H:Two la lb o o' c' A L) {z0:Lf}(h0:Z2X o c o' c' la lb A L A.length z0):
  RunsW (Zk prog Zf Zo hcP) (.block 0 (.loop (paL f31))) z0 fun e z=>match e with | none=>Z2X o c o' c' la lb A L 0 z | some none=>False | some (some _)=>False:=by
 refine RunsW.forLoop (P:=Z2X o c o' c' la lb A L 0) (R:=fun _=>False) (Z2X o c o' c' la lb A L) ?_ h0;rintro m ⟨t,h',s⟩ hI;obtain⟨V,Q,hn,v10,v11,r,hv,⟨g,ht⟩,hr,hrow⟩:=hI;simp only at ht hr hrow;subst ht;cases m with
 | zero=>
  have e0:(((0:Nat):Int)-1)= -1:=rfl;rw[Zmj];refine RunsW.seq (Zb Zb1 (Z5f o A.length c o' L.length c' A.length r v10 v11 (((0:Nat):Int)-1) h' g) (Z5 (Xb (by omega)))) (fun y hy=>by cases hy.1) (fun e y hy=> ?_);obtain⟨e1,z1,z2⟩:=hy;cases e1;exact⟨rfl,V,Q,hn,v10,v11,r,hv,z1,by rw[z2];exact hr,fun hl=>by rw[z2];exact hrow hl⟩
 | succ k=>
  have hk:k<A.length:=by have:=hn.1;omega
  have ek:(((k+1:Nat):Int)-1)=((k:Nat):Int):=by omega
  rw[ek];have hn':=ZoK H hn;refine (Zss (c:=c) H hn.2.2.2.2.2 (Q:=Q) hn.2.1 hk hv hr g s).mono fun e z hz=> ?_;obtain⟨rfl,V',Q',hV',hQ',u10,u11,hu,z1,z2⟩:=hz;rw[hV'] at hQ' z1 z2;rw[← hQ'] at hn';exact⟨k,by omega,_,Q',hn',u10,u11,_,hu,z1,.inr ⟨rfl,z2⟩,fun _=>⟨rfl,z2⟩⟩
theorem Zya (H:Two la lb o o' c' A L):
  RunsW (Zk prog Zf Zo hcP) (ZW (paP f31) (.seq (.seq (Z2 (paB f31)) (.block 0 (.loop (paL f31)))) (paE f31))) ([sl 0 o A.length c,sl 1 o' L.length c']++List.replicate 93 undef,h2 la lb,[]) fun e z=>(e=none∨e=some none)∧∃ k j,k≠j∧ZV prog f31 z.1 z.2.1=some (.tuple #[sl k 0 (d16 (vb 65536 A/vb 65536 L)).length (d16 (vb 65536 A/vb 65536 L)).length,sl j 0 (d16 (vb 65536 A % vb 65536 L)).length (d16 (vb 65536 A % vb 65536 L)).length])∧(∃ r,z.2.1.blk? k=some (wU (d16 (vb 65536 A/vb 65536 L))++r,tU))∧∃ r,z.2.1.blk? j=some (wU (d16 (vb 65536 A % vb 65536 L))++r,tU):=by
 have a2:=H.a2;have a1:=H.a1;have hB:=H.bnd.2.2;have mk:ZO 4 ((A.length:Nat):Int) ((A.length:Nat):Int)=true:=by unfold ZO;exact Xa (by omega)
 refine Zv Zb1 (ZzF o A.length c o' L.length c' la lb) (Zu mk) fun g=> ?_;rw[Xg];have ew:List.replicate A.length (Value.int .u32 0)=wU (List.replicate A.length 0):=by unfold wU;rw[List.map_replicate]
 rw[ew];have e1:i64.wrap ((A.length:Int)-1)=((A.length:Nat):Int)-1:=Zw (by omega) (by omega);refine RunsW.seq (P1:=fun e z=>e=none∧Z2X o c o' c' la lb A L 0 z) ?_ ?_ (fun e y hy=>by cases hy.1)
 ·have g4:=Z5d o A.length c o' L.length c' A.length Zn undef undef undef (hB3 (wU (List.replicate A.length 0)) lb la) g;rw[e1] at g4;refine RunsW.next (Zb Zb1 g4 (fun x hx=>by cases hx)) fun g s=> ?_;refine (Zst H ⟨0,List.replicate A.length 0,⟨Nat.le_refl _,by simp,fun x hx=> ?_,fun j _=> ?_,?_,hB⟩,undef,undef,Zn,⟨rfl,rfl,fun k b=>by kernel_rfl,fun k b=>by kernel_rfl⟩,⟨g,rfl⟩,.inl ⟨rfl,rfl,rfl⟩,fun h=>absurd h (Nat.lt_irrefl _)⟩).mono fun e z hz=> ?_
  ·rw[List.eq_of_mem_replicate hx];exact⟨by omega,by omega⟩
  ·simp only[List.getD,List.getElem?_replicate];split<;>rfl
  ·rw[List.drop_of_length_le (Nat.le_refl _),List.drop_of_length_le (by simp)];simp [vb]
  ·match e,hz with
   | none,hz=>exact⟨rfl,hz⟩
   | some none,hz=>exact hz.elim
   | some (some _),hz=>exact hz.elim
 ·rintro⟨t,h',s⟩ ⟨_,V,Q,hn,v10,v11,r,hv,⟨g,ht⟩,hr,hrow⟩;obtain⟨e2,e3⟩:=hrow (by omega);simp only at ht e3;subst ht e2 e3;obtain⟨_,q1,q2,_,q4,q5⟩:=hn;rw[List.drop_zero,List.drop_zero] at q4;have hdiv:vb 65536 A/vb 65536 L=vb 65536 Q:=by
   rw[q4,Nat.mul_comm,Nat.mul_add_div hB,Nat.div_eq_of_lt q5,Nat.add_zero]
  have hmod:vb 65536 A % vb 65536 L=V:=by
   rw[q4,Nat.mul_comm,Nat.mul_add_mod,Nat.mod_eq_of_lt q5]
  have rngQ:∀ x∈Q,0≤x∧x<4294967296:=fun x hx=>⟨(q2 x hx).1,by have:=(q2 x hx).2;omega⟩;have row:ZaQ tU (wU Q) 0 A.length A.length=true:=by
   have:=Zal (L:=Q) rngQ (by omega) (c:=Q.length) (Z4k (by omega));rw[q1] at this;exact this
  have cq:Zz (wU Q) 0 A.length=Q:=by
   have:=ZaV Q;rw[q1] at this;exact this
  have et:Zi Q=(d16 (vb 65536 Q)).length:=Zaj (b:=65536) (by omega) q2;have ge:=ZzG o A.length c o' L.length c' A.length (d16 V).length (.int .i64 (((0:Nat):Int)-1)) v10 v11 (wU (d16 V)) (wU Q) lb la g;rw[cq,et] at ge;refine (Zb Zb1 ge (Zu row)).mono fun e z hz=> ?_;obtain⟨rfl,⟨g',z1⟩,z2⟩:=hz;rw[hdiv,hmod];refine⟨.inr rfl,2,3,by omega,by rw[z1,z2];rfl,⟨wU (Q.drop (Zi Q)),?_⟩,⟨[],by rw[z2,List.append_nil];rfl⟩⟩;have e4:wU (d16 (vb 65536 Q))++wU (Q.drop (Zi Q))=wU Q:=by
   unfold d16;rw[← zf (by omega) _ q2,← ZU,List.take_append_drop]
  rw[z2,e4];rfl
end
def Zj4 (h:Hp) (p q:Option Addr) (n c n' c':Nat):Bool:=zx h p n c && dgB (Zm h p n) && (zx h q n' c' && ZcQ (Zm h q n')) && (Nat.blt n 1000000 && Nat.blt n' 1000000 && Nat.blt 0 n && Nat.blt 0 n')
def gPa:Zae:=fun vals h s=>
 match vals with
 | [.slice (some ⟨b,o,none⟩) n c,.slice (some ⟨b',o',none⟩) n' c']=>
  some (.tuple #[sl h.n 0 (d16 (vO h (aP b o) n/vO h (aP b' o') n')).length (d16 (vO h (aP b o) n/vO h (aP b' o') n')).length,sl (h.n+1) 0 (d16 (vO h (aP b o) n % vO h (aP b' o') n')).length (d16 (vO h (aP b o) n % vO h (aP b' o') n')).length],
   (h.push (wU (d16 (vO h (aP b o) n/vO h (aP b' o') n'))) tU).push (wU (d16 (vO h (aP b o) n % vO h (aP b' o') n'))) tU,s,[(Zj4 h (aP b o) (aP b' o') n c n' c',true)])
 | _=>none
theorem Z2Y:Z6 31 gPa:=by
 intro vals h s v h' s' lg hg hl m B w E0 hv;unfold gPa at hg;split at hg
 ·rename_i b o n c b' o' n' c';cases hg;have l3:=hl _ Xf;simp only[Zj4,Xh] at l3;obtain⟨⟨⟨q1,q2⟩,⟨p1,p2⟩⟩,⟨⟨⟨r1,r2⟩,r3⟩,r4⟩⟩:=l3;have q2:=Zbu q2;have p2:=Zdc p2;have r1:=Zl.1 r1;have r2:=Zl.1 r2;have r3:=Zl.1 r3;have r4:=Zl.1 r4;rcases ZC q1 with ⟨h0,_⟩ | ⟨b1,o1,x,hp,hx,k1,ks,e0⟩
  ·cases h0
  ·cases hp;rcases ZC p1 with ⟨h0,_⟩ | ⟨b2,o2,y,hp',hy,t1,ts,f0⟩
   ·cases h0
   ·cases hp';rw[e0] at q2;rw[f0] at p2;obtain⟨h1,h2',h3,h4,h5,h6,h7⟩:=zj k1;obtain⟨g1,g2,g3,g4,g5,g6,g7⟩:=zj t1;have ev:vO h (aP b o) n=vb 65536 (Zz x.1 o n):=by unfold vO;rw[e0]
    have ev':vO h (aP b' o') n'=vb 65536 (Zz y.1 o' n'):=by unfold vO;rw[f0]
    have cb:ZaQ tR y.1 o' n' c'=true:=by
     unfold ZaQ at t1 ⊢;simp only[Xh,Bool.not_eq_true'] at t1 ⊢;obtain⟨⟨⟨⟨⟨⟨_,_⟩,j3⟩,j4⟩,j5⟩,j6⟩,j7⟩:=t1;exact⟨⟨⟨⟨⟨⟨Zbp,by kernel_rfl⟩,j3⟩,j4⟩,j5⟩,j6⟩,j7⟩
    have H:Two x.1 y.1 o o' c' (Zz x.1 o n) (Zz y.1 o' n'):=⟨h1,g1,q2,p2,by rw[g2];omega,by rw[g2];exact r2,by rw[h2'];omega,by rw[h2'];exact r1,by rw[g2];exact cb,ts,ks,by rw[g2]⟩;have r:=Zya (c:=c) H;rw[h2',g2,← ev,← ev'] at r;have evals:List.map (rn (ZdY b b')) [sl 0 o n c,sl 1 o' n' c']=[.slice (some ⟨b,o,none⟩) n c,.slice (some ⟨b',o',none⟩) n' c']:=by
     simp [rn,rn2,rn1,sl,ZdY]
    have fin:=ZeS (T:=Zk prog Zf Zo hcP) func31 ZuH (Zgv h7 g7) (vals:=[sl 0 o n c,sl 1 o' n' c']) (fun v hv=>by
     simp only[List.mem_cons,List.not_mem_nil,or_false] at hv;rcases hv with h1 | h1<;>rw[h1]<;>rfl) (v:=fun k j=> .tuple #[sl k 0 (d16 (vO h (aP b o) n/vO h (aP b' o') n')).length (d16 (vO h (aP b o) n/vO h (aP b' o') n')).length,sl j 0 (d16 (vO h (aP b o) n % vO h (aP b' o') n')).length (d16 (vO h (aP b o) n % vO h (aP b' o') n')).length]) (ZaX _) (ZaX _) (by kernel_rfl) r (fun k j=>by simp [oc,oc2,oc1,sl]) E0 (Zdu hx h5 h6 hy g5 g6) (fun k j g=>by simp [rn,rn2,rn1,sl])
    rw[evals] at fin;exact fin
 ·cases hg
end Go.Proofs.YtgefjidphfdhdaaGreatDoor
namespace Go.Proofs.YtgefjidphfdhdaaGreatDoor
open Go.Proofs.Tryz
open Go.KRun Go.Nt
set_option maxRecDepth 100000
def Z4v:Zae:=fun vals h s=>
 match vals,s with
 | [.slice (some ⟨b,o,none⟩) n c,.slice (some ⟨b',o',none⟩) n' c'],.inr (.inl V):: .inr (.inl U)::s'=>
  some (.tuple #[sl h.n 0 (d16 V.toNat).length (d16 V.toNat).length,sl (h.n+1) 0 (d16 U.toNat).length (d16 U.toNat).length],(h.push (wU (d16 V.toNat)) tU).push (wU (d16 U.toNat)) tU,s',[(decide (vO h (some ⟨b,o,none⟩) n/vO h (some ⟨b',o',none⟩) n'=V.toNat∧vO h (some ⟨b,o,none⟩) n % vO h (some ⟨b',o',none⟩) n'=U.toNat),true),(Zj4 h (some ⟨b,o,none⟩) (some ⟨b',o',none⟩) n c n' c',true)])
 | _,_=>none
theorem ZoL:Z6 31 Z4v:=by
 intro vals h s v h' s' lg hg hl m B w E hv;unfold Z4v at hg;split at hg
 ·rename_i b o n c b' o' n' c' V U s2;cases hg;have l1:=Xc (hl _ Xe);have l2:=hl _ (Xd _ Xf);rw[← l1.1,← l1.2];exact Z2Y _ h [] _ _ [] [(Zj4 h (some ⟨b,o,none⟩) (some ⟨b',o',none⟩) n c n' c',true)] rfl (Z5 l2) m B w E hv
 ·cases hg
def hcT:Hc:=ZY 31 Z4v Z80
theorem Z2Z:HcOk hcT:=Zt func31 rfl ZoL ZxZ
section
variable {h : Hp} {b b' V W : Nat}
theorem oPa (hb:h.blk? b=some (wU (d16 V),tU)) (hc:h.blk? b'=some (wU (d16 W),tU)) (hl:(d16 V).length<1000000) (hm:(d16 W).length<1000000) (h0:0<(d16 V).length) (h1:0<(d16 W).length):Zj4 h (Z7 b) (Z7 b') (d16 V).length (d16 V).length (d16 W).length (d16 W).length=true:=by
 unfold Zj4 Z7;rw[ZJ hb (by omega),Zaa hb,ZJ hc (by omega),Zan hc,show ZcQ (d16 W)=true from ZbH (Zc2 (by omega) W),Zl.2 hl,Zl.2 hm,Zl.2 h0,Zl.2 h1];rfl
end
end Go.Proofs.YtgefjidphfdhdaaGreatDoor
namespace Go.Proofs.YtgefjidphfdhdaaGreatDoor
open Go.Proofs.Tryz
open Go.KRun Go.Nt Go.Wd Go.Rn
set_option maxRecDepth 100000
set_option linter.unusedVariables false
def ZoM (h:Hp) (p:Option Addr) (n c:Nat) (E:Int):Bool:=zx h p n c && ZcQ (Zm h p n) && Nat.blt n 20000 && decide (-4000000≤E∧E≤4000000)
def Z7J:Zae:=fun vals h s=>
 match vals with
 | [.agg cs,.int .i64 M]=>
  match cs.toList with
  | [.bool neg,.int .i64 E,.slice (some ⟨b,o,none⟩) n c]=>some (.tuple #[.int .u64 (sS neg (rnP M neg (vO h (some ⟨b,o,none⟩) n) E)),.int .i64 (rnF M neg (vO h (some ⟨b,o,none⟩) n) E)],h,s,[(ZoM h (some ⟨b,o,none⟩) n c E,true)])
  | _=>none
 | _=>none
theorem Zyb:Z6 56 Z7J:=by
 intro vals h s v h' s' lg hg hl m B w E0 hv;unfold Z7J at hg;split at hg
 ·rename_i cs M;split at hg
  ·rename_i neg E b o n c hcs;have ecs:cs= #[.bool neg,.int .i64 E,sl b o n c]:=by
    have:=congrArg List.toArray hcs;simpa [sl] using this
   cases hg;have l3:=hl _ Xf;simp only[ZoM,Xh,Xi] at l3;obtain⟨⟨⟨q1,q2⟩,q3⟩,q4⟩:=l3;have q2:=Zdc q2;have q3:=Zl.1 q3;rcases ZC q1 with ⟨h0,_⟩ | ⟨b',o',x,hp,hx,r1,rs,e0⟩
   ·cases h0
   ·cases hp;rw[e0] at q2;obtain⟨h1,h2,h3,h4,h5,h6,h7⟩:=zj r1;have ev:vO h (some ⟨b,o,none⟩) n=vb 65536 (Zz x.1 o n):=by unfold vO;rw[e0]
    have r:=Zj2 (ZgY r1 rs) q2 (by rw[h2];exact q3) (neg:=neg) q4 M;rw[h2,← ev] at r;have evals:List.map (rn fun _=>b) [vRN neg E (sl 0 o n c),.int .i64 M]=[.agg cs,.int .i64 M]:=by
     rw[ecs];simp [rn,rn2,rn1,vRN,sl]
    have fin:=ZB (T:=Zk prog Zf Ze3 hcQ) func56 Zic (ZaH h7) (vals:=[vRN neg E (sl 0 o n c),.int .i64 M]) (fun v hv=>by
     simp only[List.mem_cons,List.not_mem_nil,or_false] at hv;rcases hv with h1 | h1<;>rw[h1]<;>rfl) (v:= .tuple #[.int .u64 (sS neg (rnP M neg (vO h (some ⟨b,o,none⟩) n) E)),.int .i64 (rnF M neg (vO h (some ⟨b,o,none⟩) n) E)]) (by rfl) r E0 (zS hx h5 h6 rfl)
    rw[evals] at fin;exact fin
  ·cases hg
 ·cases hg
def Z7K:Zae:=fun vals h s=>
 match vals,s with
 | [.agg cs,.int .i64 M],.inr (.inl T)::s'=>
  match cs.toList with
  | [.bool neg,.int .i64 E,.slice (some ⟨b,o,none⟩) n c]=>some (.tuple #[.int .u64 (sS neg (Go.Rn.rnP M neg T.toNat E)),.int .i64 (Go.Rn.rnF M neg T.toNat E)],h,s',[(decide (vO h (some ⟨b,o,none⟩) n=T.toNat),true),(ZoM h (some ⟨b,o,none⟩) n c E,true)])
  | _=>none
 | _,_=>none
theorem Zyc:Z6 56 Z7K:=by
 intro vals h s v h' s' lg hg hl;unfold Z7K at hg;split at hg
 ·rename_i cs M T s2;split at hg
  ·rename_i neg E b o n c hcs;cases hg;obtain⟨l1,l2⟩:=Zdm hl;have l1:=Xc l1;refine Zyb _ h [] _ _ [] _ ?_ l2;simp only[Z7J,hcs,l1]
  ·cases hg
 ·cases hg
end Go.Proofs.YtgefjidphfdhdaaGreatDoor
