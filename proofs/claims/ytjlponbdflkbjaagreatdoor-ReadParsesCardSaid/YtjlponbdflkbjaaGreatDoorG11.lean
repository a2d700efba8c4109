/-
  ConVU, SlM, ConO1, NumTo, ConO2, ConO3, NumDg, NumU, ConO4, ConO5, ConO6, NumDn, ConO7, ConO8
-/
import Derived.Test.YtjlponbdflkbjaaGreatDoorG10
import GoSem.Core.Sem
namespace Go.Proofs.YtjlponbdflkbjaaGreatDoor
open Go.Proofs.Tryz
open Go.IntKind
open Go.KRun Go.Nt
set_option maxRecDepth 100000
set_option linter.unusedVariables false
def hN2 (lo la:List Value):Hp:=⟨2,[(lo,tU),(la,tR)]⟩
def mNr (o n c z:Nat) (i v7 v8:Value):List Value:=[sl 0 o n c,Zp,undef,undef,Zp,sl 1 0 z z,i,v7,v8]
def zU (n:Nat):List Value:=List.replicate n (.int .u32 0)
theorem Z0L (n:Nat):zU n=wU (List.replicate n 0):=by unfold zU wU;simp
theorem Zi9:∀ n:Nat,Zl (List.replicate n 0)=0
 | 0=>rfl
 | n+1=>by
  rw[List.replicate_succ];simp only[Zl];rw[Zi9 n];rfl
theorem Ztg (n:Nat):Zl (Zx (zU n) 0 n)=0:=by
 have h:=ZaO (List.replicate n 0);rw[List.length_replicate] at h;rw[Z0L,h,Zi9]
theorem Zth {n:Nat}(h:n<1000000):Zbm tU (zU n) 0 n n=true:=by
 have:=Zap (L:=List.replicate n 0) (fun x hx=>by rw[List.eq_of_mem_replicate hx];omega) (by simp;omega) (c:=n) (by simp only[List.length_replicate];exact Z4p (by omega));rw[List.length_replicate] at this;rw[Z0L];exact this
def zL (n:Nat):Int:=i64.wrap ((n:Int)+((0:Nat):Int))
def zR (n:Nat):Int:=i64.wrap (((0:Nat):Int)+(n:Int))
theorem Z5Q {n:Nat}(h:n<1000000):zL n=(n:Int):=by unfold zL;rw[Zv (by omega) (by omega)];omega
theorem Z5R {n:Nat}(h:n<1000000):zR n=(n:Int):=by unfold zR;rw[Zv (by omega) (by omega)];omega
theorem Z0M (o n c:Nat) (la:List Value):Zg (evL (Zr prog Zf Zn hcV) 200 (ZyW f52) ([sl 0 o n c,Zp]++List.replicate 66 undef,⟨1,[(la,tR)]⟩,[at_]) ⟨[],[],[]⟩) 6 62 none [sl 0 o n c,Zp,undef,undef,Zp,sl 1 0 (zL n).toNat (zL n).toNat] (hN2 (zU (zL n).toNat) la) [(ZI 4 (zL n) (zL n),true)]:=by and_intros<;>kernel_rfl
theorem Z5S (o n c z:Nat) (i:Int) (v7 v8:Value) (lo la:List Value) (g:Nat→Value):Zg (evC (Zr prog Zf Zn hcV) 200 false (muO f52) (mNr o n c z (.int .i64 i) v7 v8++tl 59 g,hN2 lo la,[cmp true,cmp false,at_,at_]) ⟨[],[],[]⟩) 9 59 none (mNr o n c z (.int .i64 (i64.wrap (i+1))) (.int .u64 0) (.int .i64 0)) (hN2 (lo.set (0+(ijM i (0:Nat)).toNat*1) (.int .u32 0)) la) [stM lo (ijM i (0:Nat)),inM (ijM i (0:Nat)) z,(decide ((0:Int)<((0:Nat):Int)),false),(decide (i<(n:Int)),true)]:=by and_intros<;>kernel_rfl
theorem Z0N (o n c z:Nat) (i:Int) (v7 v8:Value) (lo la:List Value) (g:Nat→Value):Zg (evC (Zr prog Zf Zn hcV) 200 false (muO f52) (mNr o n c z (.int .i64 i) v7 v8++tl 59 g,hN2 lo la,[cmp false]) ⟨[],[],[]⟩) 9 59 (some (some 0)) (mNr o n c z (.int .i64 i) v7 v8) (hN2 lo la) [(decide (i<(n:Int)),false)]:=by and_intros<;>kernel_rfl
theorem Z0O (o n c z:Nat) (i v7 v8:Value) (lo la:List Value) (g:Nat→Value):Zg (evC (Zr prog Zf Zn hcV) 200 false (muE f52) (mNr o n c z i v7 v8++tl 59 g,hN2 lo la,[]) ⟨[],[],[]⟩) 5 63 (some none) [sl 0 o n c,Zp,undef,undef,sl 1 0 (Zl (Zx lo 0 z)) (Zl (Zx lo 0 z))] (hN2 lo la) [(Zbm tU lo 0 z z,true)]:=by and_intros<;>kernel_rfl
theorem Z9j (o n c:Nat) (la:List Value):Zg (evC (Zr prog Zf Zn hcV) 200 false (Zs f52) ([Zp,sl 0 o n c]++List.replicate 66 undef,⟨1,[(la,tR)]⟩,[at_,cmp false]) ⟨[],[],[]⟩) 5 63 (some none) [Zp,sl 0 o n c,undef,undef,sl 1 0 (Zl (Zx (zU (zR n).toNat) 0 (zR n).toNat)) (Zl (Zx (zU (zR n).toNat) 0 (zR n).toNat))] (hN2 (zU (zR n).toNat) la) [(Zbm tU (zU (zR n).toNat) 0 (zR n).toNat (zR n).toNat,true),(decide ((0:Int)<((0:Nat):Int)),false),(ZI 4 (zR n) (zR n),true)]:=by and_intros<;>kernel_rfl
theorem Z5T:Zg (evC (Zr prog Zf Zn hcV) 200 false (Zs f52) ([Zp,Zp]++List.replicate 66 undef,⟨0,[]⟩,[at_,cmp false]) ⟨[],[],[]⟩) 5 63 (some none) [Zp,Zp,undef,undef,sl 0 0 0 0] ⟨1,[([],tU)]⟩ [(Zbm tU [] 0 0 0,true),(decide ((0:Int)<((0:Nat):Int)),false),(true,true)]:=by and_intros<;>kernel_rfl
theorem Zfd:f52.body=some (Zs f52):=by kernel_rfl
theorem Zvt {la:List Value}{o n c:Nat}(hn:n<1000000):
  Runs (Zr prog Zf Zn hcV) (za (ZyW f52) (.seq (.seq (Z3 (muB f52)) (.block 0 (.loop (muO f52)))) (muE f52))) ([sl 0 o n c,Zp]++List.replicate 66 undef,⟨1,[(la,tR)]⟩,[]) fun e y=>(e=none∨e=some none)∧ZV prog f52 y.1 y.2.1=some (sl 1 0 0 0)∧y.2.1.blk? 1=some (zU n,tU):=by
 have hT:=Zh Zd Zu;have g0:=Z0M o n c la;rw[Z5Q hn,Xg] at g0;refine Zw hT g0 (Zt (by unfold ZI;exact Xa (by omega))) fun g=> ?_;refine Runs.seq (P1:=fun e' y=>e'=none∧∃ (i v7 v8:Value) (g:Nat→Value),y.1=mNr o n c n i v7 v8++tl 59 g∧y.2.1=hN2 (zU n) la) ?_ ?_ (fun e y he=>by cases he.1)
 ·refine Runs.next (Zb hT (Z0G (sl 0 o n c) Zp (sl 1 0 n n) _ g) (fun _ h=>by cases h)) fun g s=> ?_;refine (Runs.forLoop (R:=fun _=>False) (P:=fun y=>∃ (i v7 v8:Value) (g:Nat→Value),y.1=mNr o n c n i v7 v8++tl 59 g∧y.2.1=hN2 (zU n) la)
   (fun r y=>∃ (k:Nat) (v7 v8:Value) (g:Nat→Value),k+r=n∧y.1=mNr o n c n (.int .i64 (k:Int)) v7 v8++tl 59 g∧y.2.1=hN2 (zU n) la)
   ?_ (n:=n) ⟨0,_,_,g,by omega,rfl,rfl⟩).mono fun e' y he=> ?_
  ·rintro r ⟨t,h',s'⟩ ⟨k,v7,v8,g,hk,ht,hh⟩;simp only at ht hh;subst ht hh;cases r with
   | zero=>
    refine (Zb hT (Z0N o n c n k v7 v8 _ la g) (Zt (Xb (by omega)))).mono fun e' y he=> ?_;obtain⟨rfl,⟨g1,e2⟩,e3⟩:=he;exact⟨rfl,_,_,_,g1,e2,e3⟩
   | succ r=>
    have ei:ijM (k:Int) (0:Nat)=(k:Int):=by unfold ijM;rw[Zv (by omega) (by omega)];omega
    have g1:=Z5S o n c n k v7 v8 (zU n) la g;rw[ei] at g1;have es:(zU n).set (0+((k:Int)).toNat*1) (.int .u32 0)=zU n:=by
     unfold zU;rw[Xg,Nat.zero_add,Nat.mul_one,List.set_replicate_self]
    rw[es] at g1;refine (Zb hT g1 (Zi (by unfold stM zU;exact Xa (by simp;omega)) (Zi (by unfold inM;exact Xa (by omega)) (Zi (by decide) (Zt (Xa (by omega))))))).mono fun e' y he=> ?_;obtain⟨rfl,⟨g2,e2⟩,e3⟩:=he;refine⟨r,by omega,k+1,.int .u64 0,.int .i64 0,g2,by omega,?_,e3⟩;rw[e2,Zv (by omega) (by omega)];rfl
  ·match e',he with
   | none,he=>exact⟨rfl,he⟩
   | some none,he=>exact he.elim
   | some (some _),he=>exact he.elim
 ·rintro⟨t,h',s'⟩ ⟨_,i,v7,v8,g,ht,hh⟩;simp only at ht hh;subst ht hh;have g1:=Z0O o n c n i v7 v8 (zU n) la g;rw[Ztg] at g1;refine (Zb hT g1 (Zt (Zth hn))).mono fun e' y he=> ?_;obtain⟨rfl,⟨g2,e2⟩,e3⟩:=he;refine⟨.inr rfl,?_,?_⟩
  ·rw[e2,e3];rfl
  ·rw[e3];rfl
def ZmM:Zac:=fun vals h s=>
 match vals,s with
 | [.slice p n c,.slice q n' c'],.inr (.inl V)::s'=>Zdf V.toNat h s' [(decide (vO h p n*vO h q n'=V.toNat),true),(Ztf h p q n c n' c',true)]
 | _,_=>none
theorem Zvu:d16 0=[]:=zt 65536
theorem ZmN:Z8 52 ZmM:=by
 intro vals h s v h' s' lg hg hl m B w E hv;unfold ZmM at hg;split at hg
 ·rename_i p n c q n' c' V s2;unfold Zdf at hg;cases hg;have l1:=Xc (hl _ Xe);have l3:=hl _ (Xd _ Xf);have l3':=l3;simp only[Ztf,Xh] at l3;obtain⟨⟨⟨q1,q2⟩,⟨p1,p2⟩⟩,q4⟩:=l3;have q4:=Zo.1 q4;rcases ZF q1 with ⟨rfl,rfl,rfl,e0⟩ | ⟨b,o,x,rfl,hx,r1,rs,e0⟩
  ·have hV:V.toNat=0:=by
    rw[← l1];unfold vO;rw[e0];simp [vb]
   rw[hV,Zvu];rcases ZF p1 with ⟨rfl,rfl,rfl,f0⟩ | ⟨b',o',y,rfl,hy,t1,ts,f0⟩
   ·have r:Runs (Zr prog Zf Zn hcV) (Zs f52) ([Zp,Zp]++List.replicate 66 undef,⟨0,[]⟩,[]) fun e z=>(e=none∨e=some none)∧ZV prog f52 z.1 z.2.1=some (sl 0 0 0 0)∧∃ r,z.2.1.blk? 0=some (wU []++r,tU):=by
     refine (Zb (Zh Zd Zu) Z5T (Zi (by kernel_rfl) (Zi (by decide) (Zt rfl)))).mono fun e z he=> ?_;obtain⟨rfl,⟨g,e1⟩,e2⟩:=he;exact⟨.inr rfl,by rw[e1,e2];rfl,[],by rw[e2];rfl⟩
    have:=ZE (T:=Zr prog Zf Zn hcV) func52 Zfd (h0:=⟨0,[]⟩) ⟨rfl,fun b x hx=>by have:b<0:=Hp.blk_lt hx;omega⟩ (vals:=[Zp,Zp]) (fun v hv=>by
     simp only[List.mem_cons,List.not_mem_nil,or_false] at hv;rcases hv with rfl | rfl<;>rfl) (k:=0) (cs:=wU []) (ty:=tU) (Zbb _) (by kernel_rfl) r.w (by rfl) E (s:=fun i=>i) (fun i x hx _=>by have:i<0:=Hp.blk_lt hx;omega)
    exact this
   ·obtain⟨b1,b2,b3,b4,b5,b6,b7⟩:=zu t1;have g0:=Z9j o' n' c' y.1;rw[Z5R (by omega),Xg,Ztg] at g0;have r:Runs (Zr prog Zf Zn hcV) (Zs f52) ([Zp,sl 0 o' n' c']++List.replicate 66 undef,⟨1,[(y.1,tR)]⟩,[]) fun e z=>(e=none∨e=some none)∧ZV prog f52 z.1 z.2.1=some (sl 1 0 0 0)∧∃ r,z.2.1.blk? 1=some (wU []++r,tU):=by
     refine (Zb (Zh Zd Zu) g0 (Zi (Zth (by omega)) (Zi (by decide) (Zt (by unfold ZI;exact Xa (by omega)))))).mono fun e z he=> ?_;obtain⟨rfl,⟨g,e1⟩,e2⟩:=he;exact⟨.inr rfl,by rw[e1,e2];rfl,zU n',by rw[e2];rfl⟩
    have evals:List.map (rn fun _=>b') [Zp,sl 0 o' n' c']=[.slice none 0 0,.slice (some ⟨b',o',none⟩) n' c']:=by simp [rn,rn2,rn1,sl,Zp]
    have:=ZE (T:=Zr prog Zf Zn hcV) func52 Zfd (ZaJ b7) (vals:=[Zp,sl 0 o' n' c']) (fun v hv=>by
     simp only[List.mem_cons,List.not_mem_nil,or_false] at hv;rcases hv with rfl | rfl<;>rfl) (k:=1) (cs:=wU []) (ty:=tU) (Zbb _) (by kernel_rfl) r.w (by rfl) E (s:=fun _=>b') (zQ hy b5 b6 rfl)
    rw[evals] at this;exact this
  ·rcases ZF p1 with ⟨rfl,rfl,rfl,f0⟩ | ⟨b',o',y,rfl,hy,t1,ts,f0⟩
   ·have hV:V.toNat=0:=by
     rw[← l1];unfold vO;rw[f0];simp [vb]
    rw[hV,Zvu];obtain⟨b1,b2,b3,b4,b5,b6,b7⟩:=zu r1;have r:Runs (Zr prog Zf Zn hcV) (za (ZyW f52) (.seq (.seq (Z3 (muB f52)) (.block 0 (.loop (muO f52)))) (muE f52))) ([sl 0 o n c,Zp]++List.replicate 66 undef,⟨1,[(x.1,tR)]⟩,[]) fun e z=>(e=none∨e=some none)∧ZV prog f52 z.1 z.2.1=some (sl 1 0 0 0)∧∃ r,z.2.1.blk? 1=some (wU []++r,tU):=
     (Zvt (by omega)).mono fun e z he=>⟨he.1,he.2.1,zU n,he.2.2⟩
    have evals:List.map (rn fun _=>b) [sl 0 o n c,Zp]=[.slice (some ⟨b,o,none⟩) n c,.slice none 0 0]:=by simp [rn,rn2,rn1,sl,Zp]
    have:=ZE (T:=Zr prog Zf Zn hcV) func52 Zg5 (ZaJ b7) (vals:=[sl 0 o n c,Zp]) (fun v hv=>by
     simp only[List.mem_cons,List.not_mem_nil,or_false] at hv;rcases hv with rfl | rfl<;>rfl) (k:=1) (cs:=wU []) (ty:=tU) (Zbb _) (by kernel_rfl) r.w (by rfl) E (s:=fun _=>b) (zQ hx b5 b6 rfl)
    rw[evals] at this;exact this
   ·rw[← l1];exact Zq9 _ h [] _ _ [] [(Ztf h (some ⟨b,o,none⟩) (some ⟨b',o',none⟩) n c n' c',true)] rfl (Z4 l3') m B w E hv
 ·cases hg
end Go.Proofs.YtjlponbdflkbjaaGreatDoor
namespace Go.Proofs.YtjlponbdflkbjaaGreatDoor.Na
open Go.KRun Go.Nt
set_option maxRecDepth 100000
set_option linter.unusedVariables false
def Z4q:Zac:=fun vals h s=>
 match vals,s with
 | [.slice p n c,.slice q n' c'],.inr (.inr (.inr (.inl true)))::s'=>some (.tuple #[Zp,.nilIface],h,s',[(decide (n=0∨n'=0),true)])
 | [.slice p n c,.slice q n' c'],.inr (.inr (.inr (.inl false))):: .inr (.inl V)::s'=>some (.tuple #[sl h.n 0 (Zl (dg (n+n') V)) (n+n'),.nilIface],h.push (wU (dg (n+n') V)) tU,s',[(decide (Zhz (Zq h p n) (Zq h q n')=dg (n+n') V),true),(Zal h p n c,true),(Zal h q n' c',true),(!decide (n=0∨n'=0) && Nat.ble (n+n') 8192,true)])
 | _,_=>none
theorem ZmO:Z8 115 Z4q:=by
 intro vals h s v h' s' lg hg hl;unfold Z4q at hg;split at hg
 ·cases hg;exact Zmt _ h [cmp true] _ _ [] _ rfl hl
 ·rename_i p n c q n' c' V s3;cases hg;obtain⟨l1,l2⟩:=Zta hl;have l1:=Xc l1;refine Zmt _ h [cmp false] _ _ [] _ ?_ l2;simp only[Z5k,l1]
 ·cases hg
theorem Z0P {x y m k:Nat}(hx:x<4294967296^m) (hy:y<4294967296^k):x*y<4294967296^(m+k):=by
 rw[Nat.pow_add];exact Nat.mul_lt_mul'' hx hy
end Go.Proofs.YtjlponbdflkbjaaGreatDoor.Na
namespace Go.Proofs.YtjlponbdflkbjaaGreatDoor.Na
open Go.Proofs.Tryz
open Go.IntKind
open Go.KRun Go.Nt
set_option maxRecDepth 100000
set_option linter.unusedVariables false
def h5 (la lb R Y Q:List Value):Hp:=⟨5,[(Q,tU),(Y,tU),(R,tU),(lb,tR),(la,tR)]⟩
def toT (k x d:Int):Int:=u64.wrap (k+u64.wrap (u64.wrap x*u64.wrap d))
def toW (k x d:Int):Int:=u32.wrap (toT k x d)
def toC (k x d:Int):Int:=(toT k x d).fdiv (2^min (Int.toNat 32) 64)
def toP (F:Func):List Code:=[Z3 (sn 0 F),Z3 (sn 1 F),Z3 (sn 2 F),Z3 (sn 3 F),Z3 (sn 4 F)]
def toB (F:Func):Code:=Z3 (sn 5 F)
def toL (F:Func):Code:=cIn (cIn (Z0 (toB F)))
def toF (o m c n k:Nat) (d cy b:Int) (v11 v12:Value):List Value:=[sl 2 o m c,sl 3 0 n k,uu d,undef,undef,undef,.bool false,i6' n,sl 2 o n c,.int .u64 cy,uu b,v11,v12]
theorem Zem:f136.body=some (za (toP f136) (.seq (.seq (Z3 (toB f136)) (.block 0 (.loop (toL f136)))) (sn 6 f136))):=by kernel_rfl
theorem Z0Q (o m c n k:Nat) (d:Int) (la lb R Y Q:List Value):Zg (evL (Zk prog Zf ZsO true) 100 (toP f136) ([sl 2 o m c,sl 3 0 n k,uu d]++List.replicate 62 undef,h5 la lb R Y Q,[num 0]) ⟨[],[],[]⟩) 13 52 none (toF o m c n k d 0 0 undef undef) (h5 la lb R Y Q) [(ZA c,true),(ZP 0 n c c,true),(decide ((c:Int)=0∧(0:Int)≠0),false)]:=by and_intros<;>kernel_rfl
theorem Z9k (o m c n k:Nat) (d cy b:Int) (v11 v12:Value) (h:Hp) (g:Nat→Value):ZdU (evC (Zk prog Zf ZsO true) 100 false (Z3 (toB f136)) (toF o m c n k d cy b v11 v12++tl 52 g,h,[]) ⟨[],[],[]⟩) 13 5 3 44 none (toF o m c n k d cy b v11 v12) [sl 3 0 n k,i6' n,i6' 0] h []:=by and_intros<;>kernel_rfl
theorem Z0R (o m c n k:Nat) (d cy b j:Int) (v11 v12:Value) (h:Hp) (g g':Nat→Value):ZdU (evC (Zk prog Zf ZsO true) 100 false (toL f136) (ml (toF o m c n k d cy b v11 v12) 5 g [sl 3 0 n k,i6' n,i6' j] 44 g',h,[cmp false]) ⟨[],[],[]⟩) 13 5 3 44 (some (some 0)) (toF o m c n k d cy b v11 v12) [sl 3 0 n k,i6' n,i6' j] h [(decide (j<n),false)]:=by and_intros<;>kernel_rfl
theorem Z5U (o m c n k:Nat) (d cy b j x y:Int) (v11 v12:Value) (la lb R Y Q:List Value) (g g':Nat→Value):ZdU (evC (Zk prog Zf ZsO true) 100 false (toL f136) (ml (toF o m c n k d cy b v11 v12) 5 g [sl 3 0 n k,i6' n,i6' j] 44 g',h5 la lb R Y Q,[cmp true,at_,val (uu x),at_,val (uu y),at_,at_]) ⟨[],[],[]⟩) 13 5 3 44 none (toF o m c n k d (toC cy x d) (Zj7 y (toW cy x d) b) (i6' j) (uu x)) [sl 3 0 n k,i6' n,i6' (i64.wrap (j+1))] (h5 la lb (R.set (o+j.toNat*1) (uu (Zgs y (toW cy x d) b))) Y Q)
  [(decide ((32:Int)<0),false),(decide (o+j.toNat*1<R.length),true),inR j n,(wd4 y (toW cy x d) b,true),Zdr R o j y,inR j n,Zdr Y 0 j x,inR j n,(decide (j<n),true)]:=by and_intros<;>kernel_rfl
theorem Z0S (e:Bool) (o m c n k:Nat) (d cy b y:Int) (v11 v12 u1 u2 u3:Value) (la lb R Y Q:List Value) (g g':Nat→Value):Zg (evC (Zk prog Zf ZsO true) 100 false (sn 6 f136) (ml (toF o m c n k d cy b v11 v12) 5 g [u1,u2,u3] 44 g',h5 la lb R Y Q,[at_,val (uu y),at_,at_,cmp e]) ⟨[],[],[]⟩) 7 58 (some none) [sl 2 o m c,sl 3 0 n k,uu d,undef,undef,undef,.bool e] (h5 la lb (R.set (o+((n:Int)).toNat*1) (uu (Zgs y (u32.wrap cy) b))) Y Q)
  [(Zj7 y (u32.wrap cy) b !=0,e),(decide (o+((n:Int)).toNat*1<R.length),true),inR n m,(wd4 y (u32.wrap cy) b,true),Zdr R o n y,inR n m]:=by
 cases e<;>exact by and_intros<;>kernel_rfl
end Go.Proofs.YtjlponbdflkbjaaGreatDoor.Na
namespace Go.Nt
theorem Zvv {P a b x y k br d e l A B D W:Int}(hk:k+x*d=W+4294967296*e) (hs:y-W-br=D-4294967296*l) (h:a+P*((y+4294967296*A)-d*(x+4294967296*B)-k-br)=b):a+P*D+4294967296*P*(A-d*B-e-l)=b:=by
 rw[← h];have e1:(y+4294967296*A)-d*(x+4294967296*B)-k-br=D+4294967296*(A-d*B-e-l):=by
  rw[Int.mul_add d x,← Int.mul_assoc d 4294967296 B,Int.mul_comm d 4294967296,Int.mul_assoc 4294967296 d B,Int.mul_comm d x];omega
 rw[e1];generalize A-d*B-e-l=Z;rw[Int.mul_add P D,← Int.mul_assoc P 4294967296 Z,Int.mul_comm P 4294967296];omega
theorem Zvw {P a b x y br e A B D:Int}(hs:y+x+br=D+4294967296*e) (h:a+P*((y+4294967296*A)+(x+4294967296*B)+br)=b):a+P*D+4294967296*P*(A+B+e)=b:=by
 rw[← h];have e1:(y+4294967296*A)+(x+4294967296*B)+br=D+4294967296*(A+B+e):=by omega
 rw[e1];generalize A+B+e=Z;rw[Int.mul_add P D,← Int.mul_assoc P 4294967296 Z,Int.mul_comm P 4294967296];omega
theorem Zg6 {dx:List Int}{D l V:Int}(hd:wds dx) (hD:0≤D∧D<4294967296) (h:vN dx+4294967296^dx.length*(D+4294967296*l)=V):dx++[D]=dg (dx.length+1) V∧V/4294967296^(dx.length+1)=l:=by
 have hw:wds (dx++[D]):=Zai hd (fun x hx=>by rw[List.mem_singleton.1 hx];exact hD);have hv:vN (dx++[D])+4294967296^(dx.length+1)*l=V:=by
  rw[zp,← h,pw,Int.mul_add,← Int.mul_assoc,Int.mul_comm (4294967296^dx.length) 4294967296];omega
 have hl:(dx++[D]).length=dx.length+1:=by simp
 have hb:=ZaK (dx++[D]) hw;rw[hl] at hb;constructor
 ·rw[← hv,Zc5,← hl];exact (Zfx _ hw).symm
 ·rw[← hv,Int.add_mul_ediv_left _ _ (by have:=Zaw (dx.length+1);omega),Int.ediv_eq_zero_of_lt hb.1 hb.2,Int.zero_add]
theorem Zvx {V Q l:Int}(hQ:0<Q) (h:V/Q=l):V<0↔l<0:=by
 subst h;constructor
 ·intro hv;exact Int.ediv_lt_of_lt_mul hQ (by omega)
 ·intro hl;refine Decidable.byContradiction fun hn=> ?_;have:=Int.ediv_nonneg (a:=V) (b:=Q) (by omega) (by omega);omega
end Go.Nt
namespace Go.Proofs.YtjlponbdflkbjaaGreatDoor.Na
open Go.Proofs.Tryz
open Go.IntKind
open Go.KRun Go.Nt
set_option maxRecDepth 100000
set_option linter.unusedVariables false
theorem Zvy {k x d:Int}(hk:0≤k∧k<4294967296) (hx:0≤x∧x<4294967296) (hd:0≤d∧d<4294967296):
  (0≤toW k x d∧toW k x d<4294967296)∧(0≤toC k x d∧toC k x d<4294967296)∧k+x*d=toW k x d+4294967296*toC k x d:=by
 have hxy:=Z0j hx hd;have e:toT k x d=k+x*d:=by
  unfold toT;simp only[ZoC];rw[Int.emod_eq_of_lt hx.1 (by omega),Int.emod_eq_of_lt hd.1 (by omega),Int.emod_eq_of_lt hxy.1 (by omega),Int.emod_eq_of_lt (by omega) (by omega)]
 unfold toW toC;rw[e,Zha,show ((2:Int)^min (Int.toNat 32) 64)=4294967296 from by decide,Int.fdiv_eq_ediv_of_nonneg _ (by omega)];generalize x*d=W at*;omega
theorem ZiA {x y c:Int}(hx:0≤x∧x<4294967296) (hy:0≤y∧y<4294967296) (hc:0≤c∧c≤1):wd4 x y c=true:=by
 unfold wd4;simp only[Xi];omega
theorem Zh7 {F G la lb Y Q:List Value}{o c k:Nat}{M LB:List Int}{d:Int}(hF:F.length=o) (hM:wds M) (RB:Row Y 0 LB) (hl:M.length=LB.length+1) (hN:M.length<1099511627776) (hd:0≤d∧d<4294967296) (hc:M.length≤c) (hs:ZA c=true) (e:Bool) (he:decide (vN M-d*vN LB<0)=e):
  Runs (Zk prog Zf ZsO true) (za (toP f136) (.seq (.seq (Z3 (toB f136)) (.block 0 (.loop (toL f136)))) (sn 6 f136))) ([sl 2 o M.length c,sl 3 0 LB.length k,uu d]++List.replicate 62 undef,h5 la lb (F++(wU M++G)) Y Q,[]) fun e' y=>(e'=none∨e'=some none)∧ZV prog f136 y.1 y.2.1=some (.bool e)∧y.2.1.cut 5=h5 la lb (F++(wU (dg M.length (vN M-d*vN LB))++G)) Y Q:=by
 have hwB:=RB.rng;have hcs:c<4611686018427387904:=Zo.1 hs;have hT:=Zj Zuq;refine Zw hT (Z0Q o M.length c LB.length k d la lb _ Y Q) (Zi hs (Zi (by unfold ZP;exact Xa (by omega)) (Zt (Xb (by omega))))) fun g=> ?_;refine Runs.seq (P1:=fun e' y=>e'=none∧∃ (dx:List Int) (t cy b:Int) (v11 v12 u1 u2 u3:Value) (g g':Nat→Value),dx.length=LB.length∧wds dx∧(0≤t∧t<4294967296)∧(0≤cy∧cy<4294967296)∧(0≤b∧b≤1)∧y.1=ml (toF o M.length c LB.length k d cy b v11 v12) 5 g [u1,u2,u3] 44 g'∧y.2.1=h5 la lb (F++(wU (dx++t::[])++G)) Y Q∧vN dx+4294967296^dx.length*(t-cy-b)=vN M-d*vN LB) ?_ ?_ (fun e y he=>by cases he.1)
 ·refine Runs.seq (P1:=fun e' y=>e'=none∧(∃ g g',y.1=ml (toF o M.length c LB.length k d 0 0 undef undef) 5 g [sl 3 0 LB.length k,i6' LB.length,i6' 0] 44 g')∧y.2.1=h5 la lb (F++(wU M++G)) Y Q) (zC hT (Z9k o M.length c LB.length k d 0 0 undef undef _ g) (fun x hx=>by cases hx)) ?_ (fun e y he=>by cases he.1);rintro⟨t,h',s'⟩ ⟨_,⟨g1,g2,ht⟩,hh⟩;simp only at ht hh;subst ht hh;refine (Runs.forLoop (R:=fun _=>False) (P:=fun y=>∃ (dx:List Int) (t cy b:Int) (v11 v12 u1 u2 u3:Value) (g g':Nat→Value),dx.length=LB.length∧wds dx∧(0≤t∧t<4294967296)∧(0≤cy∧cy<4294967296)∧(0≤b∧b≤1)∧y.1=ml (toF o M.length c LB.length k d cy b v11 v12) 5 g [u1,u2,u3] 44 g'∧y.2.1=h5 la lb (F++(wU (dx++t::[])++G)) Y Q∧vN dx+4294967296^dx.length*(t-cy-b)=vN M-d*vN LB)
   (fun r y=>∃ (dx px bx:List Int) (cy b:Int) (v11 v12:Value) (g g':Nat→Value),px.length=r+1∧dx.length+px.length=M.length∧wds dx∧wds px∧bx=LB.drop dx.length∧(0≤cy∧cy<4294967296)∧(0≤b∧b≤1)∧y.1=ml (toF o M.length c LB.length k d cy b v11 v12) 5 g [sl 3 0 LB.length k,i6' LB.length,i6' dx.length] 44 g'∧y.2.1=h5 la lb (F++(wU (dx++px)++G)) Y Q∧vN dx+4294967296^dx.length*(vN px-d*vN bx-cy-b)=vN M-d*vN LB)
   ?_ (n:=LB.length) ⟨[],M,LB,0,0,undef,undef,g1,g2,by omega,by simp,(fun x hx=>by cases hx),hM,rfl,by omega,by omega,rfl,rfl,by simp [vN]⟩).mono fun e' y he=> ?_
  ·rintro r ⟨t,h',s'⟩ ⟨dx,px,bx,cy,b,v11,v12,g,g',hr,hlen,wd1,wd2,hb,hcy,hbb,ht,hh,hv⟩;simp only at ht hh;subst ht hh;cases r with
   | zero=>
    have hl':dx.length=LB.length:=by omega
    match px,hr,wd2,hv with
    | [t],hr,wd2,hv=>
     refine (zC hT (Z0R o M.length c LB.length k d cy b dx.length v11 v12 _ g g') (Zt (Xb (by omega)))).mono fun e' y he=> ?_;obtain⟨rfl,⟨g1,g2,e2⟩,e3⟩:=he;have hbx:bx=[]:=by rw[hb,List.drop_eq_nil_of_le (by omega)]
     subst hbx;refine⟨rfl,dx,t,cy,b,v11,v12,_,_,_,g1,g2,hl',wd1,wd2 t Xf,hcy,hbb,e2,e3,?_⟩;simpa [vN] using hv
   | succ r=>
    match px,hr,hlen,wd2,hv with
    | y::px,hr,hlen,wd2,hv=>
     obtain⟨wy,wd2⟩:=Zah wd2;have hl':dx.length<LB.length:=by simp at hlen hr;omega
     have hx:=RB.cell (k:=dx.length) (by omega);have hxr:=hwB (LB.getD dx.length 0) (by simp [List.getD,List.getElem?_eq_getElem hl']);have hbx:bx=LB.getD dx.length 0::LB.drop (dx.length+1):=by
      rw[hb,List.drop_eq_getElem_cons hl'];simp [List.getD,List.getElem?_eq_getElem hl']
     generalize LB.getD dx.length 0=x at*;obtain⟨k1,k2,k3⟩:=Zvy hcy hxr hd;obtain⟨s1,s2,s3⟩:=Zgu wy k1 hbb;have cS:=Zei hF dx y px G;have lS:o+dx.length<(F++(wU (dx++y::px)++G)).length:=(List.getElem?_eq_some_iff.1 cS).1;have l1:decide (o+((dx.length:Int)).toNat*1<(F++(wU (dx++y::px)++G)).length)=true:=by
      rw[Xg,Nat.mul_one];exact Xa lS
     have l2:(inR dx.length LB.length).1=(inR dx.length LB.length).2:=Xa (by omega);refine (zC hT (Z5U o M.length c LB.length k d cy b dx.length x y v11 v12 la lb _ Y Q g g') (Zi (by decide) (Zi l1 (Zi l2 (Zi (ZiA wy k1 hbb) (Zi (Zav cS) (Zi l2 (Zi (Zav hx) (Zi l2 (Zt (Xa (by omega)))))))))))).mono fun e' z he=> ?_;obtain⟨rfl,⟨g1,g2,e2⟩,e3⟩:=he;refine⟨r,by omega,dx++[Zgs y (toW cy x d) b],px,LB.drop (dx.length+1),toC cy x d,Zj7 y (toW cy x d) b,i6' dx.length,uu x,g1,g2,by simp at hr;omega,by simp at hlen ⊢;omega,Zai wd1 (fun u hu=>by rw[List.mem_singleton.1 hu];exact s1),wd2,by simp,k2,s2,?_,?_,?_⟩
     ·rw[e2,Zv (by omega) (by omega)];simp
     ·rw[e3,Xg,Nat.mul_one,Zej hF]
     ·rw[hbx] at hv;simp only[vN] at hv;rw[zp,List.length_append,List.length_singleton,pw];exact Zvv k3 s3 hv
  ·match e',he with
   | none,he=>exact⟨rfl,he⟩
   | some none,he=>exact he.elim
   | some (some _),he=>exact he.elim
 ·rintro⟨t,h',s'⟩ ⟨_,dx,tw,cy,b,v11,v12,u1,u2,u3,g,g',hdl,wd1,wt,hcy,hbb,ht,hh,hv⟩;simp only at ht hh;subst ht hh;have ew:u32.wrap cy=cy:=by rw[Zha,Int.emod_eq_of_lt hcy.1 hcy.2]
  obtain⟨s1,s2,s3⟩:=Zgu wt hcy hbb;have cS:=Zei hF dx tw [] G;have lS:o+dx.length<(F++(wU (dx++tw::[])++G)).length:=(List.getElem?_eq_some_iff.1 cS).1;obtain⟨f1,f2⟩:=Zg6 (l:= - Zj7 tw cy b) (V:=vN M-d*vN LB) wd1 s1 (by rw[← hv,s3];congr 2;omega);have hn:=Zvx (Zaw (dx.length+1)) f2;have g0:=Z0S e o M.length c LB.length k d cy b tw v11 v12 u1 u2 u3 la lb (F++(wU (dx++tw::[])++G)) Y Q g g';rw[ew,← hdl,Xg,Nat.mul_one,Zej hF] at g0;have l0:(Zj7 tw cy b !=0)=e:=by
   rw[← he];by_cases hneg:vN M-d*vN LB<0
   ·rw[Xa hneg];have:=hn.1 hneg;exact bne_iff_ne.2 (by omega)
   ·rw[Xb hneg];have:Zj7 tw cy b=0:=Decidable.byContradiction fun h0=>hneg (hn.2 (by omega));rw[this];rfl
  have l2:(inR dx.length M.length).1=(inR dx.length M.length).2:=Xa (by omega);rw[← hdl];refine (Zb hT g0 (Zi l0 (Zi (Xa lS) (Zi l2 (Zi (ZiA wt hcy hbb) (Zi (Zav cS) (Zt l2))))))).mono fun e' y he=> ?_;obtain⟨rfl,⟨g1,e2⟩,e3⟩:=he;refine⟨.inr rfl,?_,?_⟩
  ·rw[e2,e3];rfl
  ·rw[e3,hl,← hdl,← f1,List.append_nil];rfl
def Zen (la lb R Y Q:List Value) (t0 t1 t2 t3 t4:TypeId) (o m c n k:Nat):Bool:=Nat.beq t0 tR && Nat.beq t1 tR && Nat.beq t2 tU && Nat.beq t3 tU && Nat.beq t4 tU && Z6 tU R o m c && Z6 tU Y 0 n k && Nat.beq m (n+1) && Nat.blt m 1099511627776 && la.all still && lb.all still && Q.all still
theorem ZfF {la lb R Y Q:List Value}{t0 t1 t2 t3 t4:TypeId}{o m c n k:Nat}(q:Zen la lb R Y Q t0 t1 t2 t3 t4 o m c n k=true):t0=tR∧t1=tR∧t2=tU∧t3=tU∧t4=tU∧Z6 tU R o m c=true∧Z6 tU Y 0 n k=true∧m=n+1∧m<1099511627776∧la.all still=true∧lb.all still=true∧Q.all still=true:=by
 unfold Zen at q;simp only[Xh] at q;obtain⟨⟨⟨⟨⟨⟨⟨⟨⟨⟨⟨q0,q1⟩,q2⟩,q3⟩,q4⟩,ra⟩,rb⟩,qn⟩,qN⟩,s0⟩,s1⟩,s2⟩:=q;exact⟨Xj q0,Xj q1,Xj q2,Xj q3,Xj q4,ra,rb,Xj qn,Zo.1 qN,s0,s1,s2⟩
theorem ZaD {R:List Value}{o m c:Nat}(ra:Z6 tU R o m c=true):R=R.take o++(wU (Zx R o m)++R.drop (o+m))∧(R.take o).length=o:=by
 obtain⟨a1,a2,a3,a4,a5,a6,a7⟩:=ZH ra;constructor
 ·have h1:=a1.cut;rw[a2] at h1;rw[← h1];unfold Zch;rw[← List.drop_drop,List.take_append_drop,List.take_append_drop]
 ·have:=a1.len;simp;omega
theorem ZmP {la lb R Y Q:List Value}{o m c n k:Nat}{L:List Int}(ra:Z6 tU R o m c=true) (rb:Z6 tU Y 0 n k=true) (s0:la.all still=true) (s1:lb.all still=true) (s2:Q.all still=true):(h5 la lb (tmS R o m L) Y Q).tight=true:=by
 obtain⟨a1,a2,a3,a4,a5,a6,a7⟩:=ZH ra;obtain⟨b1,b2,b3,b4,b5,b6,b7⟩:=ZH rb;unfold Hp.tight tmS h5;simp only[List.all_cons,List.all_nil,List.all_append,Bool.and_true,Xh];refine⟨zx (by omega) s2,zx (by omega) (List.all_eq_true.2 b7),⟨?_,Zbo _ _,?_⟩,zx (by omega) s1,zx (by omega) s0⟩
 ·rw[List.all_eq_true];exact fun v hv=>zh (by omega) (a7 v (List.mem_of_mem_take hv))
 ·rw[List.all_eq_true];exact fun v hv=>zh (by omega) (a7 v (List.mem_of_mem_drop hv))
def Z5V:Zac:=fun vals h s=>
 match vals,h,s with
 | [.slice (some ⟨2,o,none⟩) m c,.slice (some ⟨3,0,none⟩) n k,.int .u32 d],⟨5,[(Q,t4),(Y,t3),(R,t2),(lb,t1),(la,t0)]⟩,.inr (.inr (.inr (.inl e)))::s'=>some (.bool e,h5 la lb (tmS R o m (dg m (vN (Zx R o m)-d*vN (Zx Y 0 n)))) Y Q,s',[(Zen la lb R Y Q t0 t1 t2 t3 t4 o m c n k && decide (0≤d∧d<4294967296),true),(decide (vN (Zx R o m)-d*vN (Zx Y 0 n)<0),e)])
 | _,_,_=>none
theorem Zvz:Z8 136 Z5V:=by
 intro vals h s v h' s' lg hg hl m B w E hv;unfold Z5V at hg;split at hg
 ·rename_i o mm c n k d Q t4 Y t3 R t2 lb t1 la t0 e s2;cases hg;have l1:=hl _ Xe;have l2:=hl _ (Xd _ Xf);simp only[Xh,Xi] at l1 l2;obtain⟨l1,hd⟩:=l1;obtain⟨q0,q1,q2,q3,q4,ra,rb,qn,qN,st0,st1,st2⟩:=ZfF l1;subst q0 q1 q2 q3 q4;obtain⟨a1,a2,a3,a4,a5,a6,a7⟩:=ZH ra;obtain⟨b1,b2,b3,b4,b5,b6,b7⟩:=ZH rb;obtain⟨eS,hF⟩:=ZaD ra;have r:=Zh7 (G:=R.drop (o+mm)) (la:=la) (lb:=lb) (Q:=Q) (c:=c) (k:=k) hF a1.rng b1 (by rw[a2,b2];exact qn) (by rw[a2];exact qN) hd (by rw[a2];exact a3) a4 e l2;rw[a2,b2,← eS] at r;exact zf (T:=Zk prog Zf ZsO true) func136 Zem (vals:=[sl 2 o mm c,sl 3 0 n k,uu d]) (v:= .bool e) (h:=h5 la lb R Y Q) (by rfl) (ZmP ra rb st0 st1 st2) r m B w E hv
 ·cases hg
def pbP (F:Func):List Code:=[Z3 (sn 0 F),Z3 (sn 1 F)]
def pbB (F:Func):Code:=Z3 (sn 2 F)
def pbL (F:Func):Code:=cIn (cIn (Z0 (pbB F)))
def pbF (o m c n k:Nat) (b:Int) (v6 v7 u1 u2 u3:Value):List Value:=[sl 2 o m c,sl 3 0 n k,undef,undef,.bool false,uu b,v6,v7,u1,u2,u3]
def adD (x y c:Int):Int:=(x+y+c) % 4294967296
def adC (x y c:Int):Int:=(x+y+c)/4294967296
theorem Zv0:f137.body=some (za (pbP f137) (.seq (.seq (Z3 (pbB f137)) (.block 0 (.loop (pbL f137)))) (sn 3 f137))):=by kernel_rfl
theorem Z0T (o m c n k:Nat) (h:Hp):Zg (evL (Zk prog Zf ZsM true) 100 (pbP f137) ([sl 2 o m c,sl 3 0 n k]++List.replicate 43 undef,h,[]) ⟨[],[],[]⟩) 11 34 none (pbF o m c n k 0 undef undef undef undef undef) h []:=by and_intros<;>kernel_rfl
theorem Z9l (o m c n k:Nat) (b:Int) (v6 v7 u1 u2 u3:Value) (h:Hp) (g:Nat→Value):Zg (evC (Zk prog Zf ZsM true) 100 false (Z3 (pbB f137)) (pbF o m c n k b v6 v7 u1 u2 u3++tl 34 g,h,[]) ⟨[],[],[]⟩) 11 34 none (pbF o m c n k b v6 v7 (sl 3 0 n k) (i6' n) (i6' 0)) h []:=by and_intros<;>kernel_rfl
theorem Z0U (o m c n k:Nat) (b j:Int) (v6 v7:Value) (h:Hp) (g:Nat→Value):Zg (evC (Zk prog Zf ZsM true) 100 false (pbL f137) (pbF o m c n k b v6 v7 (sl 3 0 n k) (i6' n) (i6' j)++tl 34 g,h,[cmp false]) ⟨[],[],[]⟩) 11 34 (some (some 0)) (pbF o m c n k b v6 v7 (sl 3 0 n k) (i6' n) (i6' j)) h [(decide (j<n),false)]:=by and_intros<;>kernel_rfl
theorem Z5W (o m c n k:Nat) (b j x y:Int) (v6 v7:Value) (la lb R Y Q:List Value) (g:Nat→Value):Zg (evC (Zk prog Zf ZsM true) 100 false (pbL f137) (pbF o m c n k b v6 v7 (sl 3 0 n k) (i6' n) (i6' j)++tl 34 g,h5 la lb R Y Q,[cmp true,at_,val (uu x),at_,val (uu y),at_,at_]) ⟨[],[],[]⟩) 11 34 none (pbF o m c n k (adC y x b) (i6' j) (uu x) (sl 3 0 n k) (i6' n) (i6' (i64.wrap (j+1)))) (h5 la lb (R.set (o+j.toNat*1) (uu (adD y x b))) Y Q)
  [(decide (o+j.toNat*1<R.length),true),inR j m,(wd4 y x b,true),Zdr R o j y,inR j m,Zdr Y 0 j x,inR j n,(decide (j<n),true)]:=by and_intros<;>kernel_rfl
theorem Z0V (e:Bool) (o m c n k:Nat) (b y:Int) (v6 v7 u1 u2 u3:Value) (la lb R Y Q:List Value) (g:Nat→Value):Zg (evC (Zk prog Zf ZsM true) 100 false (sn 3 f137) (pbF o m c n k b v6 v7 u1 u2 u3++tl 34 g,h5 la lb R Y Q,[at_,val (uu y),at_,at_,cmp e]) ⟨[],[],[]⟩) 5 40 (some none) [sl 2 o m c,sl 3 0 n k,undef,undef,.bool e] (h5 la lb (R.set (o+((n:Int)).toNat*1) (uu (adD y 0 b))) Y Q)
  [(adC y 0 b !=0,e),(decide (o+((n:Int)).toNat*1<R.length),true),inR n m,(wd4 y 0 b,true),Zdr R o n y,inR n m]:=by
 cases e<;>exact by and_intros<;>kernel_rfl
theorem Zg7 {x y c:Int}(hx:0≤x∧x<4294967296) (hy:0≤y∧y<4294967296) (hc:0≤c∧c≤1):(0≤adD x y c∧adD x y c<4294967296)∧(0≤adC x y c∧adC x y c≤1)∧x+y+c=adD x y c+4294967296*adC x y c:=by
 unfold adD adC;omega
theorem Zv1 {F G la lb Y Q:List Value}{o c k:Nat}{M LB:List Int}(hF:F.length=o) (hM:wds M) (RB:Row Y 0 LB) (hl:M.length=LB.length+1) (hN:M.length<1099511627776) (e:Bool) (he:decide (4294967296^M.length≤vN M+vN LB)=e):
  Runs (Zk prog Zf ZsM true) (za (pbP f137) (.seq (.seq (Z3 (pbB f137)) (.block 0 (.loop (pbL f137)))) (sn 3 f137))) ([sl 2 o M.length c,sl 3 0 LB.length k]++List.replicate 43 undef,h5 la lb (F++(wU M++G)) Y Q,[]) fun e' y=>(e'=none∨e'=some none)∧ZV prog f137 y.1 y.2.1=some (.bool e)∧y.2.1.cut 5=h5 la lb (F++(wU (dg M.length (vN M+vN LB))++G)) Y Q:=by
 have hwB:=RB.rng;have hT:=Zj Zuo;refine Zw hT (Z0T o M.length c LB.length k _) (fun x hx=>by cases hx) fun g=> ?_;refine Runs.seq (P1:=fun e' y=>e'=none∧∃ (dx:List Int) (t b:Int) (v6 v7 u1 u2 u3:Value) (g:Nat→Value),dx.length=LB.length∧wds dx∧(0≤t∧t<4294967296)∧(0≤b∧b≤1)∧y.1=pbF o M.length c LB.length k b v6 v7 u1 u2 u3++tl 34 g∧y.2.1=h5 la lb (F++(wU (dx++t::[])++G)) Y Q∧vN dx+4294967296^dx.length*(t+b)=vN M+vN LB) ?_ ?_ (fun e y he=>by cases he.1)
 ·refine Runs.seq (P1:=fun e' y=>e'=none∧(∃ g,y.1=pbF o M.length c LB.length k 0 undef undef (sl 3 0 LB.length k) (i6' LB.length) (i6' 0)++tl 34 g)∧y.2.1=h5 la lb (F++(wU M++G)) Y Q) (Zb hT (Z9l o M.length c LB.length k 0 undef undef undef undef undef _ g) (fun x hx=>by cases hx)) ?_ (fun e y he=>by cases he.1);rintro⟨t,h',s'⟩ ⟨_,⟨g1,ht⟩,hh⟩;simp only at ht hh;subst ht hh;refine (Runs.forLoop (R:=fun _=>False) (P:=fun y=>∃ (dx:List Int) (t b:Int) (v6 v7 u1 u2 u3:Value) (g:Nat→Value),dx.length=LB.length∧wds dx∧(0≤t∧t<4294967296)∧(0≤b∧b≤1)∧y.1=pbF o M.length c LB.length k b v6 v7 u1 u2 u3++tl 34 g∧y.2.1=h5 la lb (F++(wU (dx++t::[])++G)) Y Q∧vN dx+4294967296^dx.length*(t+b)=vN M+vN LB)
   (fun r y=>∃ (dx px bx:List Int) (b:Int) (v6 v7:Value) (g:Nat→Value),px.length=r+1∧dx.length+px.length=M.length∧wds dx∧wds px∧bx=LB.drop dx.length∧(0≤b∧b≤1)∧y.1=pbF o M.length c LB.length k b v6 v7 (sl 3 0 LB.length k) (i6' LB.length) (i6' dx.length)++tl 34 g∧y.2.1=h5 la lb (F++(wU (dx++px)++G)) Y Q∧vN dx+4294967296^dx.length*(vN px+vN bx+b)=vN M+vN LB)
   ?_ (n:=LB.length) ⟨[],M,LB,0,undef,undef,g1,by omega,by simp,(fun x hx=>by cases hx),hM,rfl,by omega,rfl,rfl,by simp [vN]⟩).mono fun e' y he=> ?_
  ·rintro r ⟨t,h',s'⟩ ⟨dx,px,bx,b,v6,v7,g,hr,hlen,wd1,wd2,hb,hbb,ht,hh,hv⟩;simp only at ht hh;subst ht hh;cases r with
   | zero=>
    have hl':dx.length=LB.length:=by omega
    match px,hr,wd2,hv with
    | [t],hr,wd2,hv=>
     refine (Zb hT (Z0U o M.length c LB.length k b dx.length v6 v7 _ g) (Zt (Xb (by omega)))).mono fun e' y he=> ?_;obtain⟨rfl,⟨g1,e2⟩,e3⟩:=he;have hbx:bx=[]:=by rw[hb,List.drop_eq_nil_of_le (by omega)]
     subst hbx;refine⟨rfl,dx,t,b,v6,v7,_,_,_,g1,hl',wd1,wd2 t Xf,hbb,e2,e3,?_⟩;simpa [vN] using hv
   | succ r=>
    match px,hr,hlen,wd2,hv with
    | y::px,hr,hlen,wd2,hv=>
     obtain⟨wy,wd2⟩:=Zah wd2;have hl':dx.length<LB.length:=by simp at hlen hr;omega
     have hx:=RB.cell (k:=dx.length) (by omega);have hxr:=hwB (LB.getD dx.length 0) (by simp [List.getD,List.getElem?_eq_getElem hl']);have hbx:bx=LB.getD dx.length 0::LB.drop (dx.length+1):=by
      rw[hb,List.drop_eq_getElem_cons hl'];simp [List.getD,List.getElem?_eq_getElem hl']
     generalize LB.getD dx.length 0=x at*;obtain⟨s1,s2,s3⟩:=Zg7 wy hxr hbb;have cS:=Zei hF dx y px G;have lS:o+dx.length<(F++(wU (dx++y::px)++G)).length:=(List.getElem?_eq_some_iff.1 cS).1;have l1:decide (o+((dx.length:Int)).toNat*1<(F++(wU (dx++y::px)++G)).length)=true:=by
      rw[Xg,Nat.mul_one];exact Xa lS
     have l2:(inR dx.length M.length).1=(inR dx.length M.length).2:=Xa (by omega);have l3:(inR dx.length LB.length).1=(inR dx.length LB.length).2:=Xa (by omega);refine (Zb hT (Z5W o M.length c LB.length k b dx.length x y v6 v7 la lb _ Y Q g) (Zi l1 (Zi l2 (Zi (ZiA wy hxr hbb) (Zi (Zav cS) (Zi l2 (Zi (Zav hx) (Zi l3 (Zt (Xa (by omega))))))))))).mono fun e' z he=> ?_;obtain⟨rfl,⟨g1,e2⟩,e3⟩:=he;refine⟨r,by omega,dx++[adD y x b],px,LB.drop (dx.length+1),adC y x b,i6' dx.length,uu x,g1,by simp at hr;omega,by simp at hlen ⊢;omega,Zai wd1 (fun u hu=>by rw[List.mem_singleton.1 hu];exact s1),wd2,by simp,s2,?_,?_,?_⟩
     ·rw[e2,Zv (by omega) (by omega)];simp
     ·rw[e3,Xg,Nat.mul_one,Zej hF]
     ·rw[hbx] at hv;simp only[vN] at hv;rw[zp,List.length_append,List.length_singleton,pw];exact Zvw s3 hv
  ·match e',he with
   | none,he=>exact⟨rfl,he⟩
   | some none,he=>exact he.elim
   | some (some _),he=>exact he.elim
 ·rintro⟨t,h',s'⟩ ⟨_,dx,tw,b,v6,v7,u1,u2,u3,g,hdl,wd1,wt,hbb,ht,hh,hv⟩;simp only at ht hh;subst ht hh;obtain⟨s1,s2,s3⟩:=Zg7 wt (show (0:Int)≤0∧(0:Int)<4294967296 by omega) hbb;have cS:=Zei hF dx tw [] G;have lS:o+dx.length<(F++(wU (dx++tw::[])++G)).length:=(List.getElem?_eq_some_iff.1 cS).1;obtain⟨f1,f2⟩:=Zg6 (l:=adC tw 0 b) (V:=vN M+vN LB) wd1 s1 (by rw[← hv,← s3];congr 2;omega);have g0:=Z0V e o M.length c LB.length k b tw v6 v7 u1 u2 u3 la lb (F++(wU (dx++tw::[])++G)) Y Q g;rw[← hdl,Xg,Nat.mul_one,Zej hF] at g0;have l0:(adC tw 0 b !=0)=e:=by
   rw[← he,hl,← hdl,← f2];have hp:=Zaw (dx.length+1);by_cases hbig:4294967296^(dx.length+1)≤vN M+vN LB
   ·rw[Xa hbig];have:(1:Int)≤(vN M+vN LB)/4294967296^(dx.length+1):=(Int.le_ediv_iff_mul_le hp).2 (by omega);exact bne_iff_ne.2 (by omega)
   ·rw[Xb hbig];have h1:=ZaK M hM;have h2:=ZaK LB hwB;rw[Int.ediv_eq_zero_of_lt (by omega) (by omega)];rfl
  have l2:(inR dx.length M.length).1=(inR dx.length M.length).2:=Xa (by omega);rw[← hdl];refine (Zb hT g0 (Zi l0 (Zi (Xa lS) (Zi l2 (Zi (ZiA wt (by omega) hbb) (Zi (Zav cS) (Zt l2))))))).mono fun e' y he=> ?_;obtain⟨rfl,⟨g1,e2⟩,e3⟩:=he;refine⟨.inr rfl,?_,?_⟩
  ·rw[e2,e3];rfl
  ·rw[e3,hl,← hdl,← f1,List.append_nil];rfl
def Z5X:Zac:=fun vals h s=>
 match vals,h,s with
 | [.slice (some ⟨2,o,none⟩) m c,.slice (some ⟨3,0,none⟩) n k],⟨5,[(Q,t4),(Y,t3),(R,t2),(lb,t1),(la,t0)]⟩,.inr (.inr (.inr (.inl e)))::s'=>some (.bool e,h5 la lb (tmS R o m (dg m (vN (Zx R o m)+vN (Zx Y 0 n)))) Y Q,s',[(Zen la lb R Y Q t0 t1 t2 t3 t4 o m c n k,true),(decide (4294967296^m≤vN (Zx R o m)+vN (Zx Y 0 n)),e)])
 | _,_,_=>none
theorem Zv2:Z8 137 Z5X:=by
 intro vals h s v h' s' lg hg hl m B w E hv;unfold Z5X at hg;split at hg
 ·rename_i o mm c n k Q t4 Y t3 R t2 lb t1 la t0 e s2;cases hg;have l1:=hl _ Xe;have l2:=hl _ (Xd _ Xf);simp only at l1 l2;obtain⟨q0,q1,q2,q3,q4,ra,rb,qn,qN,st0,st1,st2⟩:=ZfF l1;subst q0 q1 q2 q3 q4;obtain⟨a1,a2,a3,a4,a5,a6,a7⟩:=ZH ra;obtain⟨b1,b2,b3,b4,b5,b6,b7⟩:=ZH rb;obtain⟨eS,hF⟩:=ZaD ra;have r:=Zv1 (G:=R.drop (o+mm)) (la:=la) (lb:=lb) (Q:=Q) (c:=c) (k:=k) hF a1.rng b1 (by rw[a2,b2];exact qn) (by rw[a2];exact qN) e (by rw[a2];exact l2);rw[a2,b2,← eS] at r;exact zf (T:=Zk prog Zf ZsM true) func137 Zv0 (vals:=[sl 2 o mm c,sl 3 0 n k]) (v:= .bool e) (h:=h5 la lb R Y Q) (by rfl) (ZmP ra rb st0 st1 st2) r m B w E hv
 ·cases hg
end Go.Proofs.YtjlponbdflkbjaaGreatDoor.Na
namespace Go.Nt
theorem ZqA {M L:List Int}(hM:wds M) (hL:wds L) {n:Nat}(hm:M.length=n+1) (hl:L.length=n) (hn:0<n) (hb:0<L.getD (n-1) 0):vN M/vN L≤(M.getD n 0*4294967296+M.getD (n-1) 0)/L.getD (n-1) 0:=by
 have hP:=Zaw (n-1);have eM:M=(M.take (n-1)++[M.getD (n-1) 0])++[M.getD n 0]:=by
  have h1:=Zax (L:=M) (k:=n) (by omega);have h2:=Zax (L:=M) (k:=n-1) (by omega);rw[show n-1+1=n by omega] at h2;rw[← h2,← h1,← hm,List.take_length]
 have eL:L=L.take (n-1)++[L.getD (n-1) 0]:=by
  have h2:=Zax (L:=L) (k:=n-1) (by omega);rw[← h2,show n-1+1=L.length by omega,List.take_length]
 have vM:vN M=vN (M.take (n-1))+4294967296^(n-1)*(M.getD n 0*4294967296+M.getD (n-1) 0):=by
  have:vN M=vN ((M.take (n-1)++[M.getD (n-1) 0])++[M.getD n 0]):=by rw[← eM]
  rw[this,zp,zp,List.length_append,List.length_take,Nat.min_eq_left (by omega),List.length_singleton,pw,Int.mul_add,Int.mul_comm (M.getD n 0) 4294967296,← Int.mul_assoc,Int.mul_comm (4294967296^(n-1)) 4294967296];omega
 have vL:vN L=vN (L.take (n-1))+4294967296^(n-1)*L.getD (n-1) 0:=by
  have:vN L=vN (L.take (n-1)++[L.getD (n-1) 0]):=by rw[← eL]
  rw[this,zp,List.length_take,Nat.min_eq_left (by omega)]
 have bM:=ZaK (M.take (n-1)) (Zc0 hM _);have bL:=ZaK (L.take (n-1)) (Zc0 hL _);rw[List.length_take,Nat.min_eq_left (by omega)] at bM bL;generalize M.getD n 0*4294967296+M.getD (n-1) 0=T at*;generalize L.getD (n-1) 0=b at*;generalize (4294967296:Int)^(n-1)=P at*;have hPb:0<P*b:=Int.mul_pos hP hb;have hq:=Int.mul_ediv_self_le (x:=vN M) (k:=vN L) (by omega);have hq0:0≤vN M/vN L:=by
  by_cases h0:0≤vN M
  ·exact Int.ediv_nonneg h0 (by omega)
  ·have:=(ZaK M hM).1;omega
 generalize hqd:vN M/vN L=q at*;refine (Int.le_ediv_iff_mul_le hb).2 ?_;have h1:P*b*q≤vN L*q:=Int.mul_le_mul_of_nonneg_right (by omega) hq0;have h2:P*b*q<P*(T+1):=by
  rw[Int.mul_add];omega
 rw[Int.mul_assoc] at h2;have h3:=Int.lt_of_mul_lt_mul_left h2 (by omega);rw[Int.mul_comm q b];omega
theorem ZiB {h l b:Int}(hh:0≤h) (hl:0≤l∧l<4294967296) (hb:h<b):0≤(h*4294967296+l)/b∧(h*4294967296+l)/b<4294967296:=
 ⟨Int.ediv_nonneg (by omega) (by omega),Int.ediv_lt_of_lt_mul (by omega) (by omega)⟩
theorem ZiC {M B:Int}(hB:0<B) (h0:0≤M) (h:M<4294967296*B):0≤M/B∧M/B≤4294967295:=by
 have h1:=Int.ediv_lt_of_lt_mul hB h;exact⟨Int.ediv_nonneg h0 (by omega),by omega⟩
theorem Zv3 {M B d:Int}(hB:0<B) (h1:0≤M-d*B) (h2:M/B≤d):d=M/B∧M-d*B=M % B:=by
 have h3:d≤M/B:=(Int.le_ediv_iff_mul_le hB).2 (by omega);have e:d=M/B:=by omega
 refine⟨e,?_⟩;have:=Int.emod_add_mul_ediv M B;rw[e,Int.mul_comm (M/B) B];omega
theorem ZmQ {M B d:Int}(hB:0<B) (h:M-d*B<0):M/B<d:=Int.ediv_lt_of_lt_mul hB (by omega)
theorem Z0W {m:Nat}{V:Int}(h0:V<0) (h1: -(4294967296^m)≤V):vN (dg m V)=V+4294967296^m:=by
 have:=Zc5 m V 1;rw[Int.mul_one] at this;rw[← this];exact ZjR m _ (by omega) (by omega)
end Go.Nt
namespace Go.Pt
open Go.IntKind
def bOr (x y:Int):Int:=u64.wrap ((BitVec.ofInt 64 x ||| BitVec.ofInt 64 y).toNat:Nat)
def Z5Y (x y:Int):Int:=u64.wrap ((BitVec.ofInt 64 x ^^^ BitVec.ofInt 64 y).toNat:Nat)
def Z88 (x y:Int):Int:=u64.wrap ((BitVec.ofInt 64 x &&& ~~~(BitVec.ofInt 64 y)).toNat:Nat)
abbrev U (p:Int):Prop:=0≤p∧p<18446744073709551616
abbrev I (n:Int):Prop:= -9223372036854775808≤n∧n≤9223372036854775807
theorem Z5Z (n:Int):u64.wrap n=n % 18446744073709551616:=by simp [IntKind.wrap,IntKind.bits,IntKind.signed]
theorem wrapU' {n:Int}(h:U n):u64.wrap n=n:=by rw[Z5Z];unfold U at h;omega
theorem Zbx {n:Int}(h:I n):i64.wrap n=n:=by
 unfold I at h;simp [IntKind.wrap,IntKind.bits,IntKind.signed];omega
theorem ofU {Z:Nat}(h:Z<18446744073709551616):(BitVec.ofInt 64 (Z:Int)).toNat=Z:=by simp;omega
theorem ZqB {V:BitVec 64}:u64.wrap (V.toNat:Nat)=(V.toNat:Int):=by
 have:=V.isLt;exact wrapU' ⟨by omega,by omega⟩
theorem or_low {p q:Int}(k:Nat) {z:Int}(hz:0≤z) (hq:q=2^k*z) (hp:0≤p) (hk:p<2^k) (hs:q+p<18446744073709551616):bOr p q=q+p:=by
 obtain⟨Z,rfl⟩:=Int.eq_ofNat_of_zero_le hz;obtain⟨Y,rfl⟩:=Int.eq_ofNat_of_zero_le hp;have ex:(2:Int)^k*(Z:Nat)=((2^k*Z:Nat):Int):=by simp
 have hY:Y<2^k:=by
  have:((Y:Nat):Int)<((2^k:Nat):Int):=by simpa using hk
  exact Int.ofNat_lt.1 this
 subst hq;rw[ex] at hs ⊢;have hX:2^k*Z+Y<18446744073709551616:=by omega
 unfold bOr;rw[ZqB,BitVec.toNat_or,ofU (by omega),ofU (by omega),Nat.or_comm,← Nat.two_pow_add_eq_or_of_lt hY];omega
theorem Z0X {p:Int}(hp:U p):Z88 p 9223372036854775808=p % 9223372036854775808:=by
 obtain⟨h0,h1⟩:=hp;obtain⟨Z,rfl⟩:=Int.eq_ofNat_of_zero_le h0;unfold Z88;have e:(~~~(BitVec.ofInt 64 9223372036854775808)).toNat=2^63-1:=by decide
 rw[ZqB,BitVec.toNat_and,ofU (by omega),e,Nat.and_two_pow_sub_one_eq_mod];omega
theorem ZiD (r:Nat) (h:r<2^63):r ^^^ 2^63=2^63+r:=by
 have e:2^63+r=2^63 ||| r:=by
  have:=Nat.two_pow_add_eq_or_of_lt h 1;simpa using this
 rw[e];refine Nat.eq_of_testBit_eq fun i=> ?_;rw[Nat.testBit_xor,Nat.testBit_or,Nat.testBit_two_pow];by_cases hi:63=i
 ·subst hi;rw[Nat.testBit_lt_two_pow h];simp
 ·simp [hi]
theorem ZmR {p:Int}(hp:U p):Z5Y p 9223372036854775808=(p+9223372036854775808) % 18446744073709551616:=by
 obtain⟨h0,h1⟩:=hp;obtain⟨Z,rfl⟩:=Int.eq_ofNat_of_zero_le h0;unfold Z5Y;have e:(BitVec.ofInt 64 9223372036854775808).toNat=2^63:=by decide
 rw[ZqB,BitVec.toNat_xor,ofU (by omega),e];by_cases hz:Z<2^63
 ·rw[ZiD Z hz];omega
 ·have h2:=ZiD (Z-2^63) (by omega);have e2:Z=(Z-2^63) ^^^ 2^63:=by rw[h2];omega
  have e3:Z ^^^ 2^63=Z-2^63:=by
   rw[e2,Nat.xor_assoc,Nat.xor_self,Nat.xor_zero,← e2]
  rw[e3];omega
end Go.Pt
namespace Go.Proofs.YtjlponbdflkbjaaGreatDoor.Na
open Go.Proofs.Tryz
open Go.IntKind
open Go.KRun Go.Nt
set_option maxRecDepth 100000
set_option linter.unusedVariables false
def gsV (h l b:Int):Int:=if b≤h then 4294967295 else (h*4294967296+l)/b
def Z4r (h l b:Int):Bool:=decide ((0≤h∧h<4294967296)∧(0≤l∧l<4294967296)∧0<b∧b<4294967296)
theorem Z6a (h l b:Int):Z7 (Zm (Zk prog Zf Zn true) 100 135 [uu h,uu l,uu b] [cmp true]) (uu 4294967295) [(decide (h≥b),true)]:=by and_intros<;>kernel_rfl
theorem Z6b (h l b q:Int):Z7 (Zm (Zk prog Zf Zn true) 100 135 [uu h,uu l,uu b] [cmp false,num q]) (uu (u32.wrap q)) [(decide (u64.wrap b=0),false),(decide (u64.wrap ((Go.Pt.bOr (u64.wrap (u64.wrap h*2^min (Int.toNat 32) 64)) (u64.wrap l)).tdiv (u64.wrap b))=q),true),(decide ((32:Int)<0),false),(decide (h≥b),false)]:=by and_intros<;>kernel_rfl
theorem Zv4 (p q:Int):Go.Pt.bOr p q=Go.Pt.bOr q p:=by unfold Go.Pt.bOr;rw[BitVec.or_comm]
def gGs:Ans:=fun vals s=>
 match vals with
 | [.int .u32 h,.int .u32 l,.int .u32 b]=>some (uu (gsV h l b),s,[(Z4r h l b,true)])
 | _=>none
theorem Z0Y:ZQ 135 gGs:=by
 intro vals s v s' lg h hl w;unfold gGs at h;split at h
 ·rename_i x y z;cases h;have hr:=hl _ Xf;simp only[Z4r,Xi] at hr;obtain⟨hx,hy,hz⟩:=hr;unfold gsV;by_cases hc:z≤x
  ·rw[if_pos hc];exact Zc (Zj Zd) (Z6a x y z) (Zt (Xa hc)) (by rfl) (by rfl) w
  ·rw[if_neg hc];have hb:=ZiB hx.1 hy (show x<z by omega);have e1:Go.Pt.bOr (u64.wrap (u64.wrap x*2^min (Int.toNat 32) 64)) (u64.wrap y)=x*4294967296+y:=by
    simp only[ZoC];rw[Int.emod_eq_of_lt hx.1 (by omega),Int.emod_eq_of_lt hy.1 (by omega),show ((2:Int)^min (Int.toNat 32) 64)=4294967296 from by decide,Int.emod_eq_of_lt (by omega) (by omega),Zv4];exact Go.Pt.or_low 32 (z:=x) hx.1 (by omega) hy.1 (by omega) (by omega)
   have e2:u64.wrap z=z:=by rw[ZoC,Int.emod_eq_of_lt (by omega) (by omega)]
   have e3:u32.wrap ((x*4294967296+y)/z)=(x*4294967296+y)/z:=by rw[Zha,Int.emod_eq_of_lt hb.1 hb.2]
   have:=Zc (Zj Zd) (Z6b x y z ((x*4294967296+y)/z)) (Zi (by rw[e2];exact Xb (by omega)) (Zi (by rw[e1,e2,Int.tdiv_eq_ediv_of_nonneg (by omega),ZoC,Int.emod_eq_of_lt hb.1 (by omega)];exact Xa rfl) (Zi (by decide) (Zt (Xb (by omega)))))) (by rfl) (by rfl) w;rw[e3] at this;exact this
 ·cases h
def Zti:Con:=alt 135 gGs Zn
theorem Zv5:ConOk Zti:=Z9 func135 rfl Z0Y Zd
def hcG:Hc:=zP 136 Z5V (zP 137 Z5X hcN)
theorem Z0Z:HcOk hcG:=Zz func136 rfl Zvz (Zz func137 rfl Zv2 Zag)
def tdP (F:Func):List Code:=[Z3 (sn 0 F),Z3 (sn 1 F),Z3 (sn 2 F)]
def tdB (F:Func):Code:=Z3 (sn 3 F)
def tdL (F:Func):Code:=cIn (cIn (Z0 (tdB F)))
def tdF (o m c n k:Nat) (d:Int):List Value:=[sl 2 o m c,sl 3 0 n k,undef,undef,uu 0,i6' n,uu d]
def tdG (o m c n k:Nat) (d:Int) (b:Bool):List Value:=[sl 2 o m c,sl 3 0 n k,undef,undef,uu 0,i6' n,uu d,.bool b]
theorem Zh8:f122.body=some (za (tdP f122) (.seq (.seq (Z3 (tdB f122)) (.block 0 (.loop (tdL f122)))) (sn 4 f122))):=by kernel_rfl
theorem Z1a (o m c n k:Nat) (x y z:Int) (la lb R Y Q:List Value):Zg (evL (Zr prog Zf Zti hcG) 100 (tdP f122) ([sl 2 o m c,sl 3 0 n k]++List.replicate 35 undef,h5 la lb R Y Q,[at_,val (uu x),at_,val (uu y),at_,val (uu z)]) ⟨[],[],[]⟩) 7 30 none (tdF o m c n k (gsV x y z)) (h5 la lb R Y Q) [(Z4r x y z,true),Zdr Y 0 (n1 n) z,inR (n1 n) n,Zdr R o (n1 n) y,inR (n1 n) m,Zdr R o n x,inR n m]:=by and_intros<;>kernel_rfl
theorem Z9m (e:Bool) (o m c n k:Nat) (d:Int) (la lb R Y Q:List Value) (g:Nat→Value):Zg (evC (Zr prog Zf Zti hcG) 100 false (Z3 (tdB f122)) (tdF o m c n k d++tl 30 g,h5 la lb R Y Q,[cmp e]) ⟨[],[],[]⟩) 8 29 none (tdG o m c n k d e) (h5 la lb (tmS R o m (dg m (vN (Zx R o m)-d*vN (Zx Y 0 n)))) Y Q) [(Zen la lb R Y Q tR tR tU tU tU o m c n k && decide (0≤d∧d<4294967296),true),(decide (vN (Zx R o m)-d*vN (Zx Y 0 n)<0),e)]:=by and_intros<;>kernel_rfl
theorem Z6c (e:Bool) (o m c n k:Nat) (d:Int) (la lb R Y Q:List Value) (g:Nat→Value):Zg (evC (Zr prog Zf Zti hcG) 100 false (tdL f122) (tdG o m c n k d true++tl 29 g,h5 la lb R Y Q,[cmp e]) ⟨[],[],[]⟩) 8 29 none (tdG o m c n k (u32.wrap (d-1)) (!e)) (h5 la lb (tmS R o m (dg m (vN (Zx R o m)+vN (Zx Y 0 n)))) Y Q) [(Zen la lb R Y Q tR tR tU tU tU o m c n k,true),(decide (4294967296^m≤vN (Zx R o m)+vN (Zx Y 0 n)),e)]:=by and_intros<;>kernel_rfl
theorem Z1b (o m c n k:Nat) (d:Int) (h:Hp) (g:Nat→Value):Zg (evC (Zr prog Zf Zti hcG) 100 false (tdL f122) (tdG o m c n k d false++tl 29 g,h,[]) ⟨[],[],[]⟩) 8 29 (some (some 0)) (tdG o m c n k d false) h []:=by and_intros<;>kernel_rfl
theorem Z1c (o m c n k:Nat) (d:Int) (b:Bool) (h:Hp) (g:Nat→Value):Zg (evC (Zr prog Zf Zti hcG) 100 false (sn 4 f122) (tdG o m c n k d b++tl 29 g,h,[]) ⟨[],[],[]⟩) 5 32 (some none) [sl 2 o m c,sl 3 0 n k,undef,undef,uu d] h []:=by and_intros<;>kernel_rfl
theorem Zv6 {R:List Value}{o m c:Nat}{L:List Int}(ra:Z6 tU R o m c=true) (hl:L.length=m):Zx (tmS R o m L) o m=L:=by
 obtain⟨_,hF⟩:=ZaD ra;unfold tmS Zx Zch;rw[List.drop_left' hF,List.take_left' (by rw[Zak,hl])];unfold wU;rw[List.map_map];exact (List.map_congr_left fun x _=>rfl).trans (List.map_id' _)
theorem Zv7 {R:List Value}{o m c:Nat}{L L':List Int}(ra:Z6 tU R o m c=true) (hl:L.length=m):tmS (tmS R o m L) o m L'=tmS R o m L':=by
 obtain⟨_,hF⟩:=ZaD ra;have e1:(tmS R o m L).take o=R.take o:=by unfold tmS;exact List.take_left' hF
 have e2:(tmS R o m L).drop (o+m)=R.drop (o+m):=by
  unfold tmS;rw[← List.append_assoc];exact List.drop_left' (by rw[List.length_append,hF,Zak,hl])
 show (tmS R o m L).take o++(wU L'++(tmS R o m L).drop (o+m))=_;rw[e1,e2];rfl
theorem Zv8 {R:List Value}{o m c:Nat}{L:List Int}(ra:Z6 tU R o m c=true) (hl:L.length=m) (hw:wds L):Z6 tU (tmS R o m L) o m c=true:=by
 obtain⟨a1,a2,a3,a4,a5,a6,a7⟩:=ZH ra;obtain⟨_,hF⟩:=ZaD ra;have hr:=a1.len;rw[a2] at hr;unfold Z6;have ec:Zch (tmS R o m L) o m=wU L:=by
  unfold tmS Zch;rw[List.drop_left' hF,List.take_left' (by rw[Zak,hl])]
 have h3:((Zch (tmS R o m L) o m).all isU)=true:=by
  rw[ec,List.all_eq_true];intro v hv;unfold wU at hv;obtain⟨x,hx,rfl⟩:=List.mem_map.1 hv;exact Xa (hw x hx)
 have h4:(tmS R o m L).all still=true:=by
  unfold tmS;simp only[List.all_append,Xh];exact⟨List.all_eq_true.2 fun v hv=>a7 v (List.mem_of_mem_take hv),ZbE _,List.all_eq_true.2 fun v hv=>a7 v (List.mem_of_mem_drop hv)⟩
 have h5:o+m≤(tmS R o m L).length:=by
  unfold tmS;rw[List.length_append,List.length_append,hF,Zak,hl];omega
 rw[show Zab tU=false from by kernel_rfl,show Nat.beq (rt tU) tU=true from by kernel_rfl,Nat.ble_eq_true_of_le h5,Nat.ble_eq_true_of_le a3,a4,h3,h4];rfl
theorem Zv9 {la lb R Y Q:List Value}{o m c n k:Nat}{M LB:List Int}(hM:Zx R o m=M) (hB:Zx Y 0 n=LB) (hok:Zen la lb R Y Q tR tR tU tU tU o m c n k=true) (hn:0<n) (htop:0<LB.getD (n-1) 0) (hlt:vN M<4294967296*vN LB):
  Runs (Zr prog Zf Zti hcG) (za (tdP f122) (.seq (.seq (Z3 (tdB f122)) (.block 0 (.loop (tdL f122)))) (sn 4 f122))) ([sl 2 o m c,sl 3 0 n k]++List.replicate 35 undef,h5 la lb R Y Q,[]) fun e' y=>(e'=none∨e'=some none)∧ZV prog f122 y.1 y.2.1=some (uu (vN M/vN LB))∧y.2.1.cut 5=h5 la lb (tmS R o m (dg m (vN M % vN LB))) Y Q:=by
 have hT:=Zh Zv5 Z0Z;obtain⟨_,_,_,_,_,ra,rb,qn,qN,st0,st1,st2⟩:=ZfF hok;obtain⟨a1,a2,a3,a4,a5,a6,a7⟩:=ZH ra;obtain⟨b1,b2,b3,b4,b5,b6,b7⟩:=ZH rb;rw[hM] at a1 a2;rw[hB] at b1 b2;have w1:=a1.rng;have w2:=b1.rng;have bM:=ZaK M w1;have bB:=ZaK LB w2;rw[a2] at bM;rw[b2] at bB;have hpos:0<vN LB:=by
  have:=Zgt (L:=LB) w2 (by omega) (by rw[b2];omega);have h2:=Zaw (LB.length-1);omega
 have hge:=ZqA w1 w2 (n:=n) (by omega) b2 hn htop;have en:n1 n=((n-1:Nat):Int):=by unfold n1;rw[Zv (by omega) (by omega)];omega
 have rng:∀ i,i<M.length→0≤M.getD i 0∧M.getD i 0<4294967296:=fun i hi=>w1 _ (by simp [List.getD,List.getElem?_eq_getElem hi]);have rngB:∀ i,i<LB.length→0≤LB.getD i 0∧LB.getD i 0<4294967296:=fun i hi=>w2 _ (by simp [List.getD,List.getElem?_eq_getElem hi]);have r1:=rng n (by omega);have r2:=rng (n-1) (by omega);have r3:=rngB (n-1) (by omega);have c1:=a1.cell (k:=n) (by omega);have c2:=a1.cell (k:=n-1) (by omega);have c3:=b1.cell (k:=n-1) (by omega);have hq:=ZiC hpos bM.1 hlt;have hG:vN M/vN LB≤gsV (M.getD n 0) (M.getD (n-1) 0) (LB.getD (n-1) 0)∧0≤gsV (M.getD n 0) (M.getD (n-1) 0) (LB.getD (n-1) 0)∧gsV (M.getD n 0) (M.getD (n-1) 0) (LB.getD (n-1) 0)<4294967296:=by
  unfold gsV;split
  ·omega
  ·have:=ZiB r1.1 r2 (b:=LB.getD (n-1) 0) (by omega);omega
 have g0:=Z1a o m c n k (M.getD n 0) (M.getD (n-1) 0) (LB.getD (n-1) 0) la lb R Y Q;rw[en] at g0;refine Zw hT g0 (Zi (by unfold Z4r;exact Xa ⟨r1,r2,htop,r3.2⟩) (Zi (Zav c3) (Zi (Xa (by omega)) (Zi (Zav c2) (Zi (Xa (by omega)) (Zi (Zav c1) (Zt (Xa (by omega))))))))) fun g=> ?_;generalize gsV (M.getD n 0) (M.getD (n-1) 0) (LB.getD (n-1) 0)=d at*;refine Runs.seq (P1:=fun e' y=>e'=none∧∃ g,y.1=tdG o m c n k (vN M/vN LB) false++tl 29 g∧y.2.1=h5 la lb (tmS R o m (dg m (vN M % vN LB))) Y Q) ?_ ?_ (fun e y he=>by cases he.1)
 ·have g1:=Z9m (decide (vN M-d*vN LB<0)) o m c n k d la lb R Y Q g;rw[hM,hB] at g1;refine Runs.seq (P1:=fun e' y=>e'=none∧(∃ g,y.1=tdG o m c n k d (decide (vN M-d*vN LB<0))++tl 29 g)∧y.2.1=h5 la lb (tmS R o m (dg m (vN M-d*vN LB))) Y Q) (Zb hT g1 (Zi (by rw[hok,Xa hG.2];rfl) (Zt rfl))) ?_ (fun e y he=>by cases he.1);rintro⟨t,h',s'⟩ ⟨_,⟨g1,ht⟩,hh⟩;simp only at ht hh;subst ht hh;refine (Runs.forLoop (R:=fun _=>False) (P:=fun y=>∃ g,y.1=tdG o m c n k (vN M/vN LB) false++tl 29 g∧y.2.1=h5 la lb (tmS R o m (dg m (vN M % vN LB))) Y Q)
   (fun r y=>∃ (d:Int) (g:Nat→Value),d=vN M/vN LB+r∧d<4294967296∧y.1=tdG o m c n k d (decide (vN M-d*vN LB<0))++tl 29 g∧y.2.1=h5 la lb (tmS R o m (dg m (vN M-d*vN LB))) Y Q)
   ?_ (n:=(d-vN M/vN LB).toNat) ⟨d,g1,by omega,hG.2.2,rfl,rfl⟩).mono fun e' y he=> ?_
  ·rintro r ⟨t,h',s'⟩ ⟨d,g,hd,hdl,ht,hh⟩;simp only at ht hh;subst ht hh;by_cases hneg:vN M-d*vN LB<0
   ·rw[Xa hneg];have hmore:=ZmQ hpos hneg;have hlo: -(4294967296^m)≤vN M-d*vN LB:=by
     have h1:d*vN LB≤4294967296*vN LB:=Int.mul_le_mul_of_nonneg_right (by omega) (by omega);rw[qn,pw];omega
    have hvd:=Z0W hneg hlo;have hwd:=Za2 m (vN M-d*vN LB);have hld:=ZR m (vN M-d*vN LB);have ra':=Zv8 ra hld hwd;have ec:=Zv6 ra hld;have eV:vN M-d*vN LB+4294967296^m+vN LB=(vN M-(d-1)*vN LB)+4294967296^m*1:=by
     rw[Int.sub_mul,Int.one_mul,Int.mul_one];omega
    have g2:=Z6c (decide (4294967296^m≤vN M-d*vN LB+4294967296^m+vN LB)) o m c n k d la lb (tmS R o m (dg m (vN M-d*vN LB))) Y Q g;rw[ec,hB,hvd,eV,Zc5,Zv7 ra hld,Zha,Int.emod_eq_of_lt (by omega) (by omega)] at g2;have hok':Zen la lb (tmS R o m (dg m (vN M-d*vN LB))) Y Q tR tR tU tU tU o m c n k=true:=by
     unfold Zen at hok ⊢;rw[ra'];rw[ra] at hok;exact hok
    refine (Zb hT g2 (Zi hok' (Zt rfl))).mono fun e' y he=> ?_;obtain⟨rfl,⟨g3,e2⟩,e3⟩:=he;refine⟨r-1,by omega,d-1,g3,by omega,by omega,?_,e3⟩;rw[e2];congr 2;by_cases h0:vN M-(d-1)*vN LB<0
    ·rw[Xa h0,Xb (by omega)];rfl
    ·rw[Xb h0,Xa (by omega)];rfl
   ·rw[Xb hneg];obtain⟨f1,f2⟩:=Zv3 hpos (show 0≤vN M-d*vN LB by omega) (show vN M/vN LB≤d by omega);refine (Zb hT (Z1b o m c n k d _ g) (fun x hx=>by cases hx)).mono fun e' y he=> ?_;obtain⟨rfl,⟨g3,e2⟩,e3⟩:=he;rw[f2] at e3;rw[f1] at e2;exact⟨rfl,g3,e2,e3⟩
  ·match e',he with
   | none,he=>exact⟨rfl,he⟩
   | some none,he=>exact he.elim
   | some (some _),he=>exact he.elim
 ·rintro⟨t,h',s'⟩ ⟨_,g,ht,hh⟩;simp only at ht hh;subst ht hh;refine (Zb hT (Z1c o m c n k (vN M/vN LB) false _ g) (fun x hx=>by cases hx)).mono fun e' y he=> ?_;obtain⟨rfl,⟨g1,e2⟩,e3⟩:=he;refine⟨.inr rfl,?_,?_⟩
  ·rw[e2,e3];rfl
  ·rw[e3];rfl
def Z6d:Zac:=fun vals h s=>
 match vals,h with
 | [.slice (some ⟨2,o,none⟩) m c,.slice (some ⟨3,0,none⟩) n k],⟨5,[(Q,t4),(Y,t3),(R,t2),(lb,t1),(la,t0)]⟩=>some (uu (vN (Zx R o m)/vN (Zx Y 0 n)),h5 la lb (tmS R o m (dg m (vN (Zx R o m) % vN (Zx Y 0 n)))) Y Q,s,[(Zen la lb R Y Q t0 t1 t2 t3 t4 o m c n k && decide (0<n∧0<(Zx Y 0 n).getD (n-1) 0∧vN (Zx R o m)<4294967296*vN (Zx Y 0 n)),true)])
 | _,_=>none
theorem ZvA:Z8 122 Z6d:=by
 intro vals h s v h' s' lg hg hl m B w E hv;unfold Z6d at hg;split at hg
 ·rename_i o mm c n k Q t4 Y t3 R t2 lb t1 la t0;cases hg;have l1:=hl _ Xf;simp only[Xh,Xi] at l1;obtain⟨l1,h0,h1,h2⟩:=l1;obtain⟨q0,q1,q2,q3,q4,ra,rb,qn,qN,st0,st1,st2⟩:=ZfF l1;subst q0 q1 q2 q3 q4;have r:=Zv9 rfl rfl l1 h0 h1 h2;exact zf (T:=Zr prog Zf Zti hcG) func122 Zh8 (vals:=[sl 2 o mm c,sl 3 0 n k]) (v:=uu (vN (Zx R o mm)/vN (Zx Y 0 n))) (h:=h5 la lb R Y Q) (by rfl) (ZmP ra rb st0 st1 st2) r m B w E hv
 ·cases hg
def mB (q:Bool):Nat:=match q with | true=>3 | false=>2
def h4q (q:Bool) (S X la lb:List Value):Hp:=match q with | true=>⟨4,[(S,tU),(X,tU),(lb,tR),(la,tR)]⟩ | false=>⟨4,[(X,tU),(S,tU),(lb,tR),(la,tR)]⟩
theorem ZvB (q:Bool) (S X la lb:List Value):(h4q q S X la lb).cut 4=h4q q S X la lb:=by cases q<;>rfl
theorem ZvC (q:Bool) (o n c:Nat) (k l j x:Int) (i0 x0:Value) (X la lb S:List Value) (g:Nat→Value):Zg (evC (Zk prog Zf Zn true) 100 false (mL f119) (mF (sl (mB q) o n c) (i6' k) (uu l) i0 x0 (sl (mB q) o n c) (i6' n) (i6' j)++tl 17 g,h4q q S X la lb,[cmp true,at_,val (uu x),at_,at_]) ⟨[],[],[]⟩) 10 17 none
  (mF (sl (mB q) o n c) (i6' k) (uu (ZpD x k)) (i6' j) (uu x) (sl (mB q) o n c) (i6' n) (i6' (i64.wrap (j+1)))) (h4q q (S.set (o+j.toNat*1) (uu (ZpC x k l))) X la lb) [(decide (i64.wrap (32-k)<0),false),(decide (o+j.toNat*1<S.length),true),inR j n,(decide (k<0),false),Zdr S o j x,inR j n,(decide (j<n),true)]:=by
 cases q<;>exact by and_intros<;>kernel_rfl
theorem ZmS (q:Bool) {F X la lb G:List Value}{o c k:Nat}{L:List Int}(hF:F.length=o) (hL:wds L) (hk:k<32) (hN:L.length<4611686018427387904):
  Runs (Zk prog Zf Zn true) (za (mR0 f119) (.block 0 (.loop (mL f119)))) ([sl (mB q) o L.length c,i6' k]++List.replicate 25 undef,h4q q (F++(wU L++G)) X la lb,[]) fun e y=>(e=none∨e=some none)∧ZV prog f119 y.1 y.2.1=some (.tuple #[])∧y.2.1.cut 4=h4q q (F++(wU (dg L.length (vN L*2^k))++G)) X la lb:=by
 refine Zw (Zj Zd) (ZlC (mB q) o L.length c (i6' k) _) (fun x hx=>by cases hx) fun g=> ?_;refine (Runs.forLoop (R:=fun _=>False) (P:=fun y=>∃ (l i x j:Value) (g:Nat→Value),y.1=mF (sl (mB q) o L.length c) (i6' k) l i x (sl (mB q) o L.length c) (i6' L.length) j++tl 17 g∧y.2.1=h4q q (F++(wU (dg L.length (vN L*2^k))++G)) X la lb)
  (fun r y=>∃ (dx px:List Int) (l:Int) (i0 x0:Value) (g:Nat→Value),px.length=r∧dx.length+px.length=L.length∧wds dx∧wds px∧(0≤l∧l<2^k)∧y.1=mF (sl (mB q) o L.length c) (i6' k) (uu l) i0 x0 (sl (mB q) o L.length c) (i6' L.length) (i6' dx.length)++tl 17 g∧y.2.1=h4q q (F++(wU (dx++px)++G)) X la lb∧vN dx+4294967296^dx.length*(vN px*2^k+l)=vN L*2^k)
  ?_ (n:=L.length) ⟨[],L,0,undef,undef,g,rfl,by simp,(fun x hx=>by cases hx),hL,⟨by omega,Int.pow_pos (by omega)⟩,rfl,rfl,by simp [vN]⟩).mono fun e' y he=> ?_
 ·rintro r ⟨t,h',s'⟩ ⟨dx,px,l,i0,x0,g,hr,hl,wd1,wd2,hlo,ht,hh,hv⟩;simp only at ht hh;subst ht hh
  match px,hr,hl,wd2,hv with
  | [],hr,hl,wd2,hv=>
   have hl':dx.length=L.length:=by simpa using hl
   refine (Zb (Zj Zd) (ZlD _ _ _ _ _ _ L.length dx.length _ g) (Zt (Xb (by omega)))).mono fun e' y he=> ?_;obtain⟨rfl,⟨g1,e2⟩,e3⟩:=he;refine⟨rfl,_,_,_,_,g1,e2,?_⟩;simp only[vN] at hv;rw[Int.zero_mul,Int.zero_add] at hv;have e5:=Zc5 dx.length (vN dx) l;rw[hv,Zfx dx wd1,hl'] at e5;rw[e3,e5,List.append_nil]
  | x::px,hr,hl,wd2,hv=>
   obtain⟨wx,wd2⟩:=Zah wd2;obtain⟨k1,k2,k3⟩:=Z87 wx hlo hk;have cS:=Zei hF dx x px G;have lS:o+dx.length<(F++(wU (dx++x::px)++G)).length:=(List.getElem?_eq_some_iff.1 cS).1;have hl':dx.length<L.length:=by simp at hl;omega
   have l1:decide (o+((dx.length:Int)).toNat*1<(F++(wU (dx++x::px)++G)).length)=true:=by
    rw[Xg,Nat.mul_one];exact Xa lS
   have l2:(inR dx.length L.length).1=(inR dx.length L.length).2:=Xa (by omega);have l4:(Zdr (F++(wU (dx++x::px)++G)) o dx.length x).1=(Zdr (F++(wU (dx++x::px)++G)) o dx.length x).2:=Zav cS;have e32:i64.wrap (32-(k:Int))=32-(k:Int):=Zv (by omega) (by omega);have l5:decide (i64.wrap (32-(k:Int))<0)=false:=by
    rw[e32];exact Xb (by omega)
   have l6:decide ((k:Int)<0)=false:=Xb (by omega);have l7:decide ((dx.length:Int)<(L.length:Nat))=true:=Xa (by omega);refine (Zb (Zj Zd) (ZvC q o L.length c k l dx.length x i0 x0 X la lb (F++(wU (dx++x::px)++G)) g) (Zi l5 (Zi l1 (Zi l2 (Zi l6 (Zi l4 (Zi l2 (Zt l7)))))))).mono fun e' y he=> ?_;obtain⟨rfl,⟨g1,e2⟩,e3⟩:=he;refine⟨px.length,by simp at hr;omega,dx++[ZpC x k l],px,ZpD x k,i6' dx.length,uu x,g1,rfl,by simp at hl ⊢;omega,Zai wd1 (fun z hz=>by rw[List.mem_singleton.1 hz];exact k1),wd2,k2,?_,?_,?_⟩
   ·rw[e2,Zv (by omega) (by omega)];simp
   ·rw[e3,Xg,Nat.mul_one,Zej hF]
   ·simp only[vN] at hv;rw[zp,List.length_append,List.length_singleton,pw];exact ZlB k3 hv
 ·match e',he with
  | none,he=>
   obtain⟨l,i,x,j,g,e1,e2⟩:=he;refine⟨.inl rfl,?_,?_⟩
   ·rw[e1];exact ZlE _ _ _ _ _ _ _ _ _ _
   ·rw[e2];exact ZvB _ _ _ _ _
  | some none,he=>exact he.elim
  | some (some _),he=>exact he.elim
def ZoG (X la lb S:List Value) (t0 t1 t2 t3:TypeId) (o n c:Nat) (k:Int):Bool:=Nat.beq t0 tR && Nat.beq t1 tR && Nat.beq t2 tU && Nat.beq t3 tU && Z6 tU S o n c && X.all still && la.all still && lb.all still && decide (0≤k∧k<32)
theorem ZmT {X la lb S:List Value}{t0 t1 t2 t3:TypeId}{o n c:Nat}{k:Int}(q:ZoG X la lb S t0 t1 t2 t3 o n c k=true):t0=tR∧t1=tR∧t2=tU∧t3=tU∧Z6 tU S o n c=true∧X.all still=true∧la.all still=true∧lb.all still=true∧0≤k∧k<32:=by
 unfold ZoG at q;simp only[Xh,Xi] at q;obtain⟨⟨⟨⟨⟨⟨⟨⟨q0,q1⟩,q2⟩,q3⟩,ra⟩,s0⟩,s1⟩,s2⟩,h⟩:=q;exact⟨Xj q0,Xj q1,Xj q2,Xj q3,ra,s0,s1,s2,h.1,h.2⟩
def upT (S:List Value) (o n:Nat) (k:Int):List Value:=tmS S o n (dg n (vN (Zx S o n)*2^k.toNat))
def ZvD:Zac:=fun vals h s=>
 match vals,h with
 | [.slice (some ⟨3,o,none⟩) n c,.int .i64 k],⟨4,[(S,t3),(X,t2),(lb,t1),(la,t0)]⟩=>some (.tuple #[],⟨4,[(upT S o n k,tU),(X,tU),(lb,tR),(la,tR)]⟩,s,[(ZoG X la lb S t0 t1 t2 t3 o n c k,true)])
 | [.slice (some ⟨2,o,none⟩) n c,.int .i64 k],⟨4,[(X,t3),(S,t2),(lb,t1),(la,t0)]⟩=>some (.tuple #[],⟨4,[(X,tU),(upT S o n k,tU),(lb,tR),(la,tR)]⟩,s,[(ZoG X la lb S t0 t1 t2 t3 o n c k,true)])
 | _,_=>none
theorem Z1d (q:Bool) {X la lb S:List Value}{o n c:Nat}{L:List Int}(ra:Z6 tU S o n c=true) (s0:X.all still=true) (s1:la.all still=true) (s2:lb.all still=true):(h4q q (tmS S o n L) X la lb).tight=true:=by
 obtain⟨a1,a2,a3,a4,a5,a6,a7⟩:=ZH ra;have hS:(tmS S o n L).all (lt1 4)=true:=by
  unfold tmS;simp only[List.all_append,Xh];refine⟨?_,Zbo _ _,?_⟩
  ·rw[List.all_eq_true];exact fun v hv=>zh (by omega) (a7 v (List.mem_of_mem_take hv))
  ·rw[List.all_eq_true];exact fun v hv=>zh (by omega) (a7 v (List.mem_of_mem_drop hv))
 have h1:=zx (n:=4) (by omega) s0;have h2:=zx (n:=4) (by omega) s1;have h3:=zx (n:=4) (by omega) s2;cases q<;>simp [Hp.tight,h4q,hS,h1,h2,h3]
theorem Zg8 (q:Bool) {X la lb S:List Value}{o n c:Nat}{k:Int}(ra:Z6 tU S o n c=true) (s0:X.all still=true) (s1:la.all still=true) (s2:lb.all still=true) (k0:0≤k) (k1:k<32) (m:Mp) (B:Nat) (w:World) (E:Emb m B (h4q q S X la lb) w) (hv:∀ v∈[sl (mB q) o n c,i6' k],KRun.lt (h4q q S X la lb).n v=true):
  Calls prog 119 (([sl (mB q) o n c,i6' k]:List Value).map (mv m)).toArray w fun e w'=>∃ m',e= .returned (mv m' (.tuple #[]))∧Came m B (h4q q S X la lb) w (.tuple #[]) (h4q q (upT S o n k) X la lb) m' w':=by
 obtain⟨a1,a2,a3,a4,a5,a6,a7⟩:=ZH ra;obtain⟨K,rfl⟩:=Int.eq_ofNat_of_zero_le k0;have hc:c<4611686018427387904:=Zo.1 a4;obtain⟨eS,hF⟩:=ZaD ra;have r:=ZmS q (X:=X) (la:=la) (lb:=lb) (G:=S.drop (o+n)) (c:=c) (k:=K) hF a1.rng (by omega) (by omega);rw[a2,← eS] at r;have hn:(h4q q S X la lb).n=4:=by cases q<;>rfl
 exact zf (T:=Zk prog Zf Zn true) func119 Zit (vals:=[sl (mB q) o n c,i6' K]) (v:= .tuple #[]) (h:=h4q q S X la lb) (by rfl) (Z1d q ra s0 s1 s2) (by rw[hn];exact r) m B w E hv
theorem ZqC:Z8 119 ZvD:=by
 intro vals h s v h' s' lg hg hl m B w E hv;unfold ZvD at hg;split at hg
 ·rename_i o n c k S t3 X t2 lb t1 la t0;cases hg;obtain⟨q0,q1,q2,q3,ra,s0,s1,s2,k0,k1⟩:=ZmT (hl _ Xf);subst q0 q1 q2 q3;exact Zg8 true ra s0 s1 s2 k0 k1 m B w E hv
 ·rename_i o n c k X t3 S t2 lb t1 la t0;cases hg;obtain⟨q0,q1,q2,q3,ra,s0,s1,s2,k0,k1⟩:=ZmT (hl _ Xf);subst q0 q1 q2 q3;exact Zg8 false ra s0 s1 s2 k0 k1 m B w E hv
 ·cases hg
def dnX (x k:Int):Int:=x.fdiv (2^min k.toNat 32)
def dnW (x k l:Int):Int:=brr (dnX x k) l
def dnH (x k:Int):Int:=u32.wrap (x*2^min (i64.wrap (32-k)).toNat 32)
def mdP (F:Func):List Code:=[Z3 (sn 0 F),Z3 (sn 1 F)]
def mdL (F:Func):Code:=cIn (cIn (sn 2 F))
def mdF (w:Value) (k l i:Int) (x:Value):List Value:=[w,i6' k,undef,undef,uu l,i6' i,x]
theorem ZvE:f123.body=some (za (mdP f123) (.block 0 (.loop (mdL f123)))):=by kernel_rfl
theorem Z1e (b o m c:Nat) (k:Int) (h:Hp):Zg (evL (Zk prog Zf Zn true) 100 (mdP f123) ([sl b o m c,i6' k]++List.replicate 28 undef,h,[]) ⟨[],[],[]⟩) 7 23 none (mdF (sl b o m c) k 0 (n1 m) undef) h []:=by and_intros<;>kernel_rfl
theorem Z1f (w x:Value) (k l i:Int) (h:Hp) (g:Nat→Value):Zg (evC (Zk prog Zf Zn true) 100 false (mdL f123) (mdF w k l i x++tl 23 g,h,[cmp false]) ⟨[],[],[]⟩) 7 23 (some (some 0)) (mdF w k l i x) h [(decide (i≥0),false)]:=by and_intros<;>kernel_rfl
theorem Z6e (o m c:Nat) (k l i x:Int) (x0:Value) (la lb R Y Q:List Value) (g:Nat→Value):Zg (evC (Zk prog Zf Zn true) 100 false (mdL f123) (mdF (sl 2 o m c) k l i x0++tl 23 g,h5 la lb R Y Q,[cmp true,at_,val (uu x),at_,at_]) ⟨[],[],[]⟩) 7 23 none (mdF (sl 2 o m c) k (dnH x k) (i64.wrap (i-1)) (uu x)) (h5 la lb (R.set (o+i.toNat*1) (uu (dnW x k l))) Y Q)
  [(decide (i64.wrap (32-k)<0),false),(decide (o+i.toNat*1<R.length),true),inR i m,(decide (k<0),false),Zdr R o i x,inR i m,(decide (i≥0),true)]:=by and_intros<;>kernel_rfl
theorem Z1g (w x:Value) (k l i:Int) (h:Hp) (g:Nat→Value):ZV prog f123 (mdF w k l i x++tl 23 g) h=some (.tuple #[]):=by kernel_rfl
end Go.Proofs.YtjlponbdflkbjaaGreatDoor.Na
namespace Go.Nt
theorem ZmU {p q x U:Int}(hq:1≤q) (hp:1≤p) (hpq:q*p=4294967296) (hx:0≤x∧x<4294967296) (_hU:0≤U):
  (0≤x/q∧x/q<p)∧(0≤U % q∧U % q<q)∧(0≤x/q+p*(U % q)∧x/q+p*(U % q)<4294967296)∧(x+4294967296*U)/q=x/q+p*(U % q)+4294967296*(U/q)∧(x+4294967296*U) % q=x % q:=by
 have h1:0≤x/q:=Int.ediv_nonneg hx.1 (by omega);have h2:x/q<p:=Int.ediv_lt_of_lt_mul (by omega) (by rw[Int.mul_comm,hpq];exact hx.2);have h3:=Int.emod_nonneg U (show q≠0 by omega);have h4:=Int.emod_lt_of_pos U (show 0<q by omega);have h5:p*(U % q)≤p*(q-1):=Int.mul_le_mul_of_nonneg_left (by omega) (by omega);have h6:p*(q-1)=4294967296-p:=by rw[Int.mul_sub,Int.mul_one,Int.mul_comm,hpq]
 have h7:0≤p*(U % q):=Int.mul_nonneg (by omega) h3;have hU':=Int.emod_add_mul_ediv U q;have e1:x+4294967296*U=x+q*(p*U):=by rw[← Int.mul_assoc,hpq]
 have e2:p*U=p*(U % q)+4294967296*(U/q):=by
  have:p*U=p*(U % q+q*(U/q)):=by rw[hU']
  rw[this,Int.mul_add,← Int.mul_assoc,Int.mul_comm p q,hpq]
 refine⟨⟨h1,h2⟩,⟨h3,h4⟩,by omega,?_,?_⟩
 ·rw[e1,Int.add_mul_ediv_left _ _ (by omega),e2];omega
 ·rw[e1,Int.add_mul_emod_self_left]
end Go.Nt
namespace Go.Proofs.YtjlponbdflkbjaaGreatDoor.Na
open Go.Proofs.Tryz
open Go.IntKind
open Go.KRun Go.Nt
set_option maxRecDepth 100000
set_option linter.unusedVariables false
theorem Z6f {x U:Int}{k:Nat}(hk:k<32) (hx:0≤x∧x<4294967296) (hU:0≤U):dnW x k (2^(32-k)*(U % 2^k))=x/2^k+2^(32-k)*(U % 2^k)∧dnH x k=2^(32-k)*(x % 2^k):=by
 have q1:(1:Int)≤2^k:=by have:(0:Int)<2^k:=Int.pow_pos (by omega);omega
 have p1:(1:Int)≤2^(32-k):=by have:(0:Int)<2^(32-k):=Int.pow_pos (by omega);omega
 have hpq:=Zeb (show k≤32 by omega);obtain⟨⟨h1,h2⟩,⟨h3,h4⟩,⟨h5,h6⟩,_,_⟩:=ZmU q1 p1 hpq hx hU;have eX:dnX x k=x/2^k:=by
  unfold dnX;rw[Xg,show min k 32=k from by omega,Int.fdiv_eq_ediv_of_nonneg _ (by omega)]
 constructor
 ·unfold dnW brr;rw[eX,BitVec.or_comm,ZsV h3 h1 h2 (by omega),Zha,Int.emod_eq_of_lt (by omega) (by omega)];omega
 ·unfold dnH;rw[Zv (by omega) (by omega),show min ((32:Int)-(k:Nat)).toNat 32=32-k from by omega,Zha,← hpq,Int.mul_comm x,Int.mul_comm (2^k)];exact Int.mul_emod_mul_of_pos _ _ (by omega)
theorem ZvF {F G la lb Y Q:List Value}{o c k:Nat}{L:List Int}(hF:F.length=o) (hL:wds L) (hk:k<32) (hN:L.length<1099511627776):
  Runs (Zk prog Zf Zn true) (za (mdP f123) (.block 0 (.loop (mdL f123)))) ([sl 2 o L.length c,i6' k]++List.replicate 28 undef,h5 la lb (F++(wU L++G)) Y Q,[]) fun e y=>(e=none∨e=some none)∧ZV prog f123 y.1 y.2.1=some (.tuple #[])∧y.2.1.cut 5=h5 la lb (F++(wU (dg L.length (vN L/2^k))++G)) Y Q:=by
 have hT:=Zj Zd;have q1:(1:Int)≤2^k:=by have:(0:Int)<2^k:=Int.pow_pos (by omega);omega
 have p1:(1:Int)≤2^(32-k):=by have:(0:Int)<2^(32-k):=Int.pow_pos (by omega);omega
 have hpq:=Zeb (show k≤32 by omega);have e0:L=L.take L.length++dg (L.length-L.length) (vN (L.drop L.length)/2^k):=by rw[List.take_length,Nat.sub_self];simp [dg]
 refine Zw hT (Z1e 2 o L.length c k _) (fun x hx=>by cases hx) fun g=> ?_;refine (Runs.forLoop (R:=fun _=>False) (P:=fun y=>∃ (l i:Int) (x:Value) (g:Nat→Value),y.1=mdF (sl 2 o L.length c) k l i x++tl 23 g∧y.2.1=h5 la lb (F++(wU (dg L.length (vN L/2^k))++G)) Y Q)
  (fun r y=>∃ (x0:Value) (g:Nat→Value),r≤L.length∧y.1=mdF (sl 2 o L.length c) k (2^(32-k)*(vN (L.drop r) % 2^k)) ((r:Int)-1) x0++tl 23 g∧y.2.1=h5 la lb (F++(wU (L.take r++dg (L.length-r) (vN (L.drop r)/2^k))++G)) Y Q)
  ?_ (n:=L.length) ⟨undef,g,Nat.le_refl _,?_,by rw[← e0]⟩).mono fun e' y he=> ?_
 ·rintro r ⟨t,h',s'⟩ ⟨x0,g,hr,ht,hh⟩;simp only at ht hh;subst ht hh;cases r with
  | zero=>
   refine (Zb hT (Z1f _ x0 k _ _ _ g) (Zt (Xb (by omega)))).mono fun e' y he=> ?_;obtain⟨rfl,⟨g1,e2⟩,e3⟩:=he;exact⟨rfl,_,_,_,g1,e2,e3⟩
  | succ r=>
   have hlt:r<L.length:=by omega
   have hx:=hL (L.getD r 0) (by simp [List.getD,List.getElem?_eq_getElem hlt]);have et:=Zax hlt;have ed:L.drop r=L.getD r 0::L.drop (r+1):=by
    rw[List.drop_eq_getElem_cons hlt];simp [List.getD,List.getElem?_eq_getElem hlt]
   generalize L.getD r 0=x at*;have hU:=(ZaK (L.drop (r+1)) (fun z hz=>hL z (List.mem_of_mem_drop hz))).1;have hsp:L.take (r+1)++dg (L.length-(r+1)) (vN (L.drop (r+1))/2^k)=L.take r++x::dg (L.length-(r+1)) (vN (L.drop (r+1))/2^k):=by rw[et];simp
   rw[hsp];generalize hux:L.drop (r+1)=ux at*;obtain⟨w1,w2⟩:=Z6f hk hx hU;obtain⟨_,_,⟨w3,w4⟩,w5,w6⟩:=ZmU q1 p1 hpq hx hU;have lt:(L.take r).length=r:=by rw[List.length_take];omega
   have cS:=Zei hF (L.take r) x (dg (L.length-(r+1)) (vN ux/2^k)) G;have eS:=Zej hF (L.take r) x (x/2^k+2^(32-k)*(vN ux % 2^k)) (dg (L.length-(r+1)) (vN ux/2^k)) G;rw[lt] at cS eS;have lS:o+r<(F++(wU (L.take r++x::dg (L.length-(r+1)) (vN ux/2^k))++G)).length:=(List.getElem?_eq_some_iff.1 cS).1;have ei:((r+1:Nat):Int)-1=(r:Int):=by omega
   have g1:=Z6e o L.length c k (2^(32-k)*(vN ux % 2^k)) r x x0 la lb (F++(wU (L.take r++x::dg (L.length-(r+1)) (vN ux/2^k))++G)) Y Q g;rw[w1,w2,Xg,Nat.mul_one,eS] at g1;rw[ei];have l2:(inR r L.length).1=(inR r L.length).2:=Xa (by omega);have d1:decide (i64.wrap (32-(k:Int))<0)=false:=by
    rw[Zv (by omega) (by omega)];exact Xb (by omega)
   have d2:decide ((k:Int)<0)=false:=Xb (by omega);have d3:decide ((r:Int)≥0)=true:=Xa (by omega);have d4:decide (o+r<(F++(wU (L.take r++x::dg (L.length-(r+1)) (vN ux/2^k))++G)).length)=true:=Xa lS;refine (Zb hT g1 (Zi d1 (Zi d4 (Zi l2 (Zi d2 (Zi (Zav cS) (Zi l2 (Zt d3)))))))).mono fun e' y he=> ?_;obtain⟨rfl,⟨g2,e2⟩,e3⟩:=he;refine⟨r,by omega,uu x,g2,by omega,?_,?_⟩
   ·rw[e2,ed];simp only[vN];rw[w6,Zv (by omega) (by omega)]
   ·rw[e3,ed];simp only[vN];rw[w5,show L.length-r=(L.length-(r+1))+1 by omega];simp only[dg];have m1:(x/2^k+2^(32-k)*(vN ux % 2^k)+4294967296*(vN ux/2^k)) % 4294967296=x/2^k+2^(32-k)*(vN ux % 2^k):=by omega
    have m2:(x/2^k+2^(32-k)*(vN ux % 2^k)+4294967296*(vN ux/2^k))/4294967296=vN ux/2^k:=by omega
    rw[m1,m2];simp
 ·show mdF _ _ _ _ _++_=_;rw[List.drop_length,show n1 L.length=((L.length:Nat):Int)-1 from by unfold n1;rw[Zv (by omega) (by omega)]];simp [vN]
 ·match e',he with
  | none,he=>
   obtain⟨l,i,x,g,e1,e2⟩:=he;refine⟨.inl rfl,?_,?_⟩
   ·rw[e1];exact Z1g _ _ _ _ _ _ _
   ·rw[e2];rfl
  | some none,he=>exact he.elim
  | some (some _),he=>exact he.elim
def Z1h (la lb R Y Q:List Value) (t0 t1 t2 t3 t4:TypeId) (o n c:Nat) (k:Int):Bool:=Nat.beq t0 tR && Nat.beq t1 tR && Nat.beq t2 tU && Nat.beq t3 tU && Nat.beq t4 tU && Z6 tU R o n c && Nat.blt n 1099511627776 && la.all still && lb.all still && Y.all still && Q.all still && decide (0≤k∧k<32)
def Z6g:Zac:=fun vals h s=>
 match vals,h with
 | [.slice (some ⟨2,o,none⟩) n c,.int .i64 k],⟨5,[(Q,t4),(Y,t3),(R,t2),(lb,t1),(la,t0)]⟩=>some (.tuple #[],h5 la lb (tmS R o n (dg n (vN (Zx R o n)/2^k.toNat))) Y Q,s,[(Z1h la lb R Y Q t0 t1 t2 t3 t4 o n c k,true)])
 | _,_=>none
theorem ZvG:Z8 123 Z6g:=by
 intro vals h s v h' s' lg hg hl m B w E hv;unfold Z6g at hg;split at hg
 ·rename_i o n c k Q t4 Y t3 R t2 lb t1 la t0;cases hg;have q:=hl _ Xf;unfold Z1h at q;simp only[Xh,Xi] at q;obtain⟨⟨⟨⟨⟨⟨⟨⟨⟨⟨⟨q0,q1⟩,q2⟩,q3⟩,q4⟩,ra⟩,qN⟩,s0⟩,s1⟩,s2⟩,s3⟩,k0,k1⟩:=q;have q0:=Xj q0;have q1:=Xj q1;have q2:=Xj q2;have q3:=Xj q3;have q4:=Xj q4;subst q0 q1 q2 q3 q4;obtain⟨a1,a2,a3,a4,a5,a6,a7⟩:=ZH ra;obtain⟨K,rfl⟩:=Int.eq_ofNat_of_zero_le k0;obtain⟨eS,hF⟩:=ZaD ra;have r:=ZvF (G:=R.drop (o+n)) (la:=la) (lb:=lb) (Y:=Y) (Q:=Q) (c:=c) (k:=K) hF a1.rng (by omega) (by rw[a2];exact Zo.1 qN);rw[a2,← eS] at r;have ht:(h5 la lb (tmS R o n (dg n (vN (Zx R o n)/2^K))) Y Q).tight=true:=by
   unfold Hp.tight tmS h5;simp only[List.all_cons,List.all_nil,List.all_append,Bool.and_true,Xh];refine⟨zx (by omega) s3,zx (by omega) s2,⟨?_,Zbo _ _,?_⟩,zx (by omega) s1,zx (by omega) s0⟩
   ·rw[List.all_eq_true];exact fun v hv=>zh (by omega) (a7 v (List.mem_of_mem_take hv))
   ·rw[List.all_eq_true];exact fun v hv=>zh (by omega) (a7 v (List.mem_of_mem_drop hv))
  exact zf (T:=Zk prog Zf Zn true) func123 ZvE (vals:=[sl 2 o n c,i6' K]) (v:= .tuple #[]) (h:=h5 la lb R Y Q) (by rfl) ht r m B w E hv
 ·cases hg
def hcD:Hc:=zP 122 Z6d (zP 119 ZvD (zP 123 Z6g (zP 116 Zj3 (zP 120 Z4g (zP 112 Zgq hcN)))))
theorem Z1i:HcOk hcD:=Zz func122 rfl ZvA (Zz func119 rfl ZqC (Zz func123 rfl ZvG (Zz func116 rfl Zcy (Zz func120 rfl ZdX (Zz func112 rfl ZbW Zag)))))
def dmP (F:Func):List Code:=[Z3 (sn 0 F),Z3 (sn 1 F),Z3 (sn 2 F),Z3 (sn 3 F),Z3 (sn 4 F),Z3 (sn 5 F),Z3 (sn 6 F),Z3 (sn 7 F),Z3 (sn 8 F),Z3 (sn 9 F),Z3 (sn 10 F),Z3 (sn 11 F)]
def dmL (F:Func):Code:=cIn (cIn (Z0 (Z3 (sn 12 F))))
theorem ZvH:f81.body=some (za (dmP f81) (.seq (.seq (Z3 (Z3 (sn 12 f81))) (.block 0 (.loop (dmL f81)))) (sn 13 f81))):=by kernel_rfl
theorem ZdB:f81.body=some (Zs f81):=by kernel_rfl
def dmU (x:Int):Int:=i64.wrap (32-((Go.bitLen x.toNat:Nat):Int))
def dmQ (n n':Nat):Int:=i64.wrap (i64.wrap ((n:Int)-(n':Int))+1)
def dmF (o n c o' n' c' zr zb zq:Nat) (u:Int):List Value:=[sl 0 o n c,sl 1 o' n' c',undef,undef,Zp,Zp,.nilIface,.nilIface,sl 2 0 zr zr,i6' u,sl 3 0 zb zb,sl 4 0 zq zq]
def dmY (lb:List Value) (o' n':Nat) (x:Int):List Value:=upT (cpS lb o' n') 0 ((n':Int)).toNat (dmU x)
def dmR (la:List Value) (o n:Nat) (x:Int):List Value:=upT (cpy la o n) 0 (nP n).toNat (dmU x)
theorem Z1j (o n c o' n' c':Nat) (x:Int) (la lb:List Value):Zg (evL (Zr prog Zf ZeY hcD) 300 (dmP f81) ([sl 0 o n c,sl 1 o' n' c']++List.replicate 87 undef,h2 la lb,[cmp false,cmp false,at_,at_,cmp false,at_,val (uu x),at_,at_,at_]) ⟨[],[],[]⟩) 12 77 none (dmF o n c o' n' c' (nP n).toNat ((n':Int)).toNat (dmQ n n').toNat (dmU x)) (h5 la lb (dmR la o n x) (dmY lb o' n' x) (List.replicate (dmQ n n').toNat (uu 0)))
  [(ZI 4 (dmQ n n') (dmQ n n'),true),(ZoG (dmY lb o' n' x) la lb (cpy la o n) tR tR tU tU 0 (nP n).toNat (nP n).toNat (dmU x),true),(ZoG (cpy la o n) la lb (cpS lb o' n') tR tR tU tU 0 ((n':Int)).toNat ((n':Int)).toNat (dmU x),true),(Z4M lb o' n',true),(ZI 4 n' n',true),(decide (0≤x∧x<4294967296),true),Zdr lb o' (n1 n') x,inR (n1 n') n',
   (decide (Zck (Zx la o n) (Zx lb o' n')<0),false),(Z6 tR la o n c,true),(Z6 tR lb o' n' c',true),(Z4i la o n,true),(ZI 4 (nP n) (nP n),true),((n':Int)==0,false),(Z6 tR la o n c,true),(Z6 tR lb o' n' c',true),(ZT (Zx la o n) || ZT (Zx lb o' n'),false)]:=by and_intros<;>kernel_rfl
def dmG (o n c o' n' c' zr zb zq:Nat) (u i:Int):List Value:=[sl 0 o n c,sl 1 o' n' c',undef,undef,Zp,Zp,.nilIface,.nilIface,sl 2 0 zr zr,i6' u,sl 3 0 zb zb,sl 4 0 zq zq,i6' i]
theorem Z9n (o n c o' n' c' zr zb zq:Nat) (u:Int) (h:Hp) (g:Nat→Value):Zg (evC (Zr prog Zf ZeY hcD) 300 false (Z3 (Z3 (sn 12 f81))) (dmF o n c o' n' c' zr zb zq u++tl 77 g,h,[]) ⟨[],[],[]⟩) 13 76 none (dmG o n c o' n' c' zr zb zq u (n1 zq)) h []:=by and_intros<;>kernel_rfl
theorem Z1k (o n c o' n' c' zr zb zq:Nat) (u i:Int) (h:Hp) (g:Nat→Value):Zg (evC (Zr prog Zf ZeY hcD) 300 false (dmL f81) (dmG o n c o' n' c' zr zb zq u i++tl 76 g,h,[cmp false]) ⟨[],[],[]⟩) 13 76 (some (some 0)) (dmG o n c o' n' c' zr zb zq u i) h [(decide (i≥0),false)]:=by and_intros<;>kernel_rfl
def dmH (i:Int) (zb:Nat):Int:=i64.wrap (i64.wrap (i+(zb:Int))+1)
def dmN (i:Int) (zb:Nat):Nat:=(dmH i zb).toNat-i.toNat
theorem Z6h (o n c o' n' c' zr zb zq:Nat) (u i:Int) (la lb R Y Q:List Value) (g:Nat→Value):Zg (evC (Zr prog Zf ZeY hcD) 300 false (dmL f81) (dmG o n c o' n' c' zr zb zq u i++tl 76 g,h5 la lb R Y Q,[cmp true,num 0,at_,at_]) ⟨[],[],[]⟩) 13 76 none (dmG o n c o' n' c' zr zb zq u (i64.wrap (i-1)))
  (h5 la lb (tmS R (pJ i) (dmN i zb) (dg (dmN i zb) (vN (Zx R (pJ i) (dmN i zb)) % vN (Zx Y 0 zb)))) Y (Q.set (pJ i) (uu (vN (Zx R (pJ i) (dmN i zb))/vN (Zx Y 0 zb)))))
  [(decide (pJ i<Q.length),true),inR i zq,(Zen la lb R Y Q tR tR tU tU tU (pJ i) (dmN i zb) (zr-i.toNat) zb zb && decide (0<zb∧0<(Zx Y 0 zb).getD (zb-1) 0∧vN (Zx R (pJ i) (dmN i zb))<4294967296*vN (Zx Y 0 zb)),true),(ZA zr,true),(ZP i (dmH i zb) zr zr,true),(decide ((zr:Int)=i∧i≠0),false),(decide (i≥0),true)]:=by and_intros<;>kernel_rfl
def dmD (R:List Value) (zr:Nat) (u:Int):List Value:=tmS R 0 zr (dg zr (vN (Zx R 0 zr)/2^u.toNat))
theorem Z1l (o n c o' n' c' zr zb zq:Nat) (u i:Int) (la lb R Y Q:List Value) (g:Nat→Value):Zg (evC (Zr prog Zf ZeY hcD) 300 false (sn 13 f81) (dmG o n c o' n' c' zr zb zq u i++tl 76 g,h5 la lb R Y Q,[]) ⟨[],[],[]⟩) 7 82 (some none) [sl 0 o n c,sl 1 o' n' c',undef,undef,sl 4 0 (Zl (Zx Q 0 zq)) zq,sl 2 0 (Zl (Zx (dmD R zr u) 0 zr)) zr,.nilIface] (h5 la lb (dmD R zr u) Y Q)
  [(Z6 tU (dmD R zr u) 0 zr zr,true),(Z6 tU Q 0 zq zq,true),(Z1h la lb R Y Q tR tR tU tU tU 0 zr zr u,true)]:=by and_intros<;>kernel_rfl
end Go.Proofs.YtjlponbdflkbjaaGreatDoor.Na
