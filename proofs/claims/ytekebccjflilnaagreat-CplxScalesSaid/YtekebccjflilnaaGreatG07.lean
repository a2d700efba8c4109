/-
  SuB, PatA, GnW, NumH, GnA, SuC, GnC, Con4, Con5, Con6, NumPr, PrA, PrB
-/
import Derived.Test.YtekebccjflilnaaGreatG06
namespace Go.Proofs.YtekebccjflilnaaGreat
open Go.Proofs.Tryz
open Go.IntKind
open Go.KRun Go.Wd Go.Pt Go.Rn
set_option maxRecDepth 100000
def uE (Ex:Int) (X:W4) (Ey:Int) (Y:W4):Int:=i64.wrap ((if ZcG Ey Y.nat>ZcG Ex X.nat then ZcG Ey Y.nat else ZcG Ex X.nat)-254)
def eX (Ex:Int) (X:W4) (Ey:Int) (Y:W4):W4:=ofN (iuQ Ex (uE Ex X Ey Y) X.nat)
def eY (Ex:Int) (X:W4) (Ey:Int) (Y:W4):W4:=ofN (iuQ Ey (uE Ex X Ey Y) Y.nat)
def xbX (Ex:Int) (X:W4) (Ey:Int) (Y:W4):Bool:=iuB Ex (uE Ex X Ey Y) X.nat
def xbY (Ex:Int) (X:W4) (Ey:Int) (Y:W4):Bool:=iuB Ey (uE Ex X Ey Y) Y.nat
def lIu (X:W4) (Ex u:Int):Bool×Bool:=(ZyS X Ex u,true)
def lEx (X Y:W4) (Ex Ey:Int):Log:=[lIu Y Ey (uE Ex X Ey Y),lIu X Ex (uE Ex X Ey Y),lIu Y Ey (uE Ex X Ey Y),lIu Y Ey (uE Ex X Ey Y),lIu X Ex (uE Ex X Ey Y),lIu Y Ey (uE Ex X Ey Y),lIu X Ex (uE Ex X Ey Y),lIu Y Ey (uE Ex X Ey Y),lIu Y Ey (uE Ex X Ey Y),lIu X Ex (uE Ex X Ey Y),lIu Y Ey (uE Ex X Ey Y),lIu Y Ey (uE Ex X Ey Y),lIu Y Ey (uE Ex X Ey Y),lIu Y Ey (uE Ex X Ey Y),lIu Y Ey (uE Ex X Ey Y),lIu X Ex (uE Ex X Ey Y),(Zv7 Y Ey,true),(Zv7 X Ex,true),(Zir Ey Y false,true),(decide Y.ok,true),(Zir Ex X false,true),(decide X.ok,true)]
theorem ZvD (X Y:W4) (Ex Ey m:Int):Zw (Ze (Zi prog Zh ZeF true) 300 49 [vN false Ex X false,vN false Ey Y false,.int .i64 m] [cmp true,cmp true]) (.tuple #[vN false (uE Ex X Ey Y) (ofN ((eX Ex X Ey Y).nat+(eY Ex X Ey Y).nat)) ((xbX Ex X Ey Y) || (xbY Ex X Ey Y)),.nilIface]) ((decide ((eX Ex X Ey Y).ok∧(eY Ex X Ey Y).ok),true)::lEx X Y Ex Ey):=by and_intros<;>kernel_rfl
theorem ZvE (X Y:W4) (Ex Ey m:Int):Zw (Ze (Zi prog Zh ZeF true) 300 49 [vN false Ex X false,vN true Ey Y false,.int .i64 m] [cmp true,cmp true,num 1]) (.tuple #[vN false (uE Ex X Ey Y) (ofN (apQ (eX Ex X Ey Y).nat (eY Ex X Ey Y).nat (xbY Ex X Ey Y))) ((xbX Ex X Ey Y) || (xbY Ex X Ey Y)),.nilIface]) ((decide ((eX Ex X Ey Y).ok∧(eY Ex X Ey Y).ok∧(eY Ex X Ey Y).nat<(eX Ex X Ey Y).nat),true)::(decide ((eX Ex X Ey Y).ok∧(eY Ex X Ey Y).ok),true)::(decide (Zdp (eX Ex X Ey Y) (eY Ex X Ey Y)=1),true)::lEx X Y Ex Ey):=by and_intros<;>kernel_rfl
theorem ZvF (X Y:W4) (Ex Ey m:Int):Zw (Ze (Zi prog Zh ZeF true) 300 49 [vN false Ex X false,vN true Ey Y false,.int .i64 m] [cmp true,cmp true,num (-1)]) (.tuple #[vN true (uE Ex X Ey Y) (ofN (apQ (eY Ex X Ey Y).nat (eX Ex X Ey Y).nat (xbX Ex X Ey Y))) ((xbY Ex X Ey Y) || (xbX Ex X Ey Y)),.nilIface]) ((decide ((eY Ex X Ey Y).ok∧(eX Ex X Ey Y).ok∧(eX Ex X Ey Y).nat<(eY Ex X Ey Y).nat),true)::(decide ((eX Ex X Ey Y).ok∧(eY Ex X Ey Y).ok),true)::(decide (Zdp (eX Ex X Ey Y) (eY Ex X Ey Y)= -1),true)::lEx X Y Ex Ey):=by and_intros<;>kernel_rfl
theorem ZvG (X Y:W4) (Ex Ey m:Int):Zw (Ze (Zi prog Zh ZeF true) 300 49 [vN false Ex X false,vN true Ey Y false,.int .i64 m] [cmp true,cmp true,num 0]) (.tuple #[vN (m==4) (uE Ex X Ey Y) ⟨0,0,0,0⟩ false,.nilIface]) ((decide ((eX Ex X Ey Y).ok∧(eY Ex X Ey Y).ok),true)::(decide (Zdp (eX Ex X Ey Y) (eY Ex X Ey Y)=0),true)::lEx X Y Ex Ey):=by and_intros<;>kernel_rfl
theorem ZvH (X Y:W4) (Ex Ey m:Int):Zw (Ze (Zi prog Zh ZeF true) 300 49 [vN true Ex X false,vN false Ey Y false,.int .i64 m] [cmp true,cmp true,num 1]) (.tuple #[vN true (uE Ex X Ey Y) (ofN (apQ (eX Ex X Ey Y).nat (eY Ex X Ey Y).nat (xbY Ex X Ey Y))) ((xbX Ex X Ey Y) || (xbY Ex X Ey Y)),.nilIface]) ((decide ((eX Ex X Ey Y).ok∧(eY Ex X Ey Y).ok∧(eY Ex X Ey Y).nat<(eX Ex X Ey Y).nat),true)::(decide ((eX Ex X Ey Y).ok∧(eY Ex X Ey Y).ok),true)::(decide (Zdp (eX Ex X Ey Y) (eY Ex X Ey Y)=1),true)::lEx X Y Ex Ey):=by and_intros<;>kernel_rfl
theorem ZvI (X Y:W4) (Ex Ey m:Int):Zw (Ze (Zi prog Zh ZeF true) 300 49 [vN true Ex X false,vN false Ey Y false,.int .i64 m] [cmp true,cmp true,num (-1)]) (.tuple #[vN false (uE Ex X Ey Y) (ofN (apQ (eY Ex X Ey Y).nat (eX Ex X Ey Y).nat (xbX Ex X Ey Y))) ((xbY Ex X Ey Y) || (xbX Ex X Ey Y)),.nilIface]) ((decide ((eY Ex X Ey Y).ok∧(eX Ex X Ey Y).ok∧(eX Ex X Ey Y).nat<(eY Ex X Ey Y).nat),true)::(decide ((eX Ex X Ey Y).ok∧(eY Ex X Ey Y).ok),true)::(decide (Zdp (eX Ex X Ey Y) (eY Ex X Ey Y)= -1),true)::lEx X Y Ex Ey):=by and_intros<;>kernel_rfl
theorem ZvJ (X Y:W4) (Ex Ey m:Int):Zw (Ze (Zi prog Zh ZeF true) 300 49 [vN true Ex X false,vN false Ey Y false,.int .i64 m] [cmp true,cmp true,num 0]) (.tuple #[vN (m==4) (uE Ex X Ey Y) ⟨0,0,0,0⟩ false,.nilIface]) ((decide ((eX Ex X Ey Y).ok∧(eY Ex X Ey Y).ok),true)::(decide (Zdp (eX Ex X Ey Y) (eY Ex X Ey Y)=0),true)::lEx X Y Ex Ey):=by and_intros<;>kernel_rfl
theorem ZvK (X Y:W4) (Ex Ey m:Int):Zw (Ze (Zi prog Zh ZeF true) 300 49 [vN true Ex X false,vN true Ey Y false,.int .i64 m] [cmp true,cmp true]) (.tuple #[vN true (uE Ex X Ey Y) (ofN ((eX Ex X Ey Y).nat+(eY Ex X Ey Y).nat)) ((xbX Ex X Ey Y) || (xbY Ex X Ey Y)),.nilIface]) ((decide ((eX Ex X Ey Y).ok∧(eY Ex X Ey Y).ok),true)::lEx X Y Ex Ey):=by and_intros<;>kernel_rfl
theorem Zcy {E:Int}{X:W4}(_h:X.ok):Zir E X false=true↔May E X.nat:=by
 have hl:Zgh X≤128↔X.nat<2^128:=by
  rw[ZcT];constructor
  ·intro h1;exact Nat.lt_of_lt_of_le (bitLen_spec X.nat).1 (Nat.pow_le_pow_right (by omega) (by omega))
  ·intro h1;have:=ZaX h1;omega
 unfold Zir May;simp only[Xh,Xi,Bool.not_false,and_true,hl];exact⟨fun ⟨⟨a,b⟩,c⟩=>⟨a,b,c⟩,fun ⟨a,b,c⟩=>⟨⟨a,b⟩,c⟩⟩
theorem Zhr {E:Int}{X:Nat}(h:May E X): -100000≤ZcG E X∧ZcG E X≤100128:=by
 obtain⟨a,b,c⟩:=h;have:=ZaX a;unfold ZcG;split<;>omega
theorem ZzQ {Ex Ey:Int}{X Y:Nat}(hX:May Ex X) (hY:May Ey Y): -100254≤unN Ex X Ey Y∧unN Ex X Ey Y≤100128:=by
 have h1:=Zhr hX;have h2:=Zhr hY;unfold unN;omega
theorem ZzR {Ex Ey:Int}{X Y:W4}(hX:May Ex X.nat) (hY:May Ey Y.nat):uE Ex X Ey Y=unN Ex X.nat Ey Y.nat:=by
 have h1:=Zhr hX;have h2:=Zhr hY;have e:(if ZcG Ey Y.nat>ZcG Ex X.nat then ZcG Ey Y.nat else ZcG Ex X.nat)=max (ZcG Ex X.nat) (ZcG Ey Y.nat):=by split<;>omega
 unfold uE unN;rw[e,ZY ⟨by omega,by omega⟩]
theorem ZrX {x y:W4}(hx:x.ok) (hy:y.ok):(y.nat<x.nat→Zdp x y=1)∧(x.nat<y.nat→Zdp x y= -1)∧(x.nat=y.nat→Zdp x y=0):=by
 have e1:=W4.nat_val hx;have e2:=W4.nat_val hy;unfold Zdp;refine⟨fun h=> ?_,fun h=> ?_,fun h=> ?_⟩
 ·rw[if_neg (by omega),if_neg (by omega)]
 ·rw[if_pos (by omega)]
 ·rw[if_neg (by omega),if_pos (by omega)]
def xuV (m:Int) (nx:Bool) (Ex:Int) (X:W4) (ny:Bool) (Ey:Int) (Y:W4):Value:=vN (xuN m nx Ex X.nat ny Ey Y.nat) (unN Ex X.nat Ey Y.nat) (ofN (xuQ nx Ex X.nat ny Ey Y.nat)) (xuB nx Ex X.nat ny Ey Y.nat)
theorem Zgr (nx ny:Bool) (X Y:W4) (Ex Ey m:Int) (hX:X.ok) (hY:Y.ok) (mX:Zir Ex X false=true) (mY:Zir Ey Y false=true) (w:World):Calls prog 49 #[vN nx Ex X false,vN ny Ey Y false,.int .i64 m] w fun r w'=>r= .returned (.tuple #[xuV m nx Ex X ny Ey Y,.nilIface])∧zg w w':=by
 have dX:=(Zcy hX).1 mX;have dY:=(Zcy hY).1 mY;have eu:=ZzR dX dY;have hu:=ZzQ dX dY;have kx:decide X.ok=true:=Xa hX;have ky:decide Y.ok=true:=Xa hY;have tx:Zv7 X Ex=true:=Xa ⟨hX,by have:=dX.2;omega,by have:=dX.2;omega⟩;have ty:Zv7 Y Ey=true:=Xa ⟨hY,by have:=dY.2;omega,by have:=dY.2;omega⟩;have ix:ZyS X Ex (uE Ex X Ey Y)=true:=Xa ⟨hX,by have:=dX.2;omega,by have:=dX.2;omega,by omega,by omega⟩;have iy:ZyS Y Ey (uE Ex X Ey Y)=true:=Xa ⟨hY,by have:=dY.2;omega,by have:=dY.2;omega,by omega,by omega⟩;have hlog:Zx (lEx X Y Ex Ey):=by simp only[lEx,lIu,Zea,Zka,kx,ky,tx,ty,ix,iy,mX,mY,and_self]
 have lx:=Zhp (Ex:=Ex) (Ey:=Ey) (X:=X.nat) (Y:=Y.nat);have ly:=Zhp (Ex:=Ey) (Ey:=Ex) (X:=Y.nat) (Y:=X.nat);rw[Zgp] at ly;have e256:(2:Nat)^256=4*2^254:=rfl;have ox:(eX Ex X Ey Y).ok:=ZZ _;have oy:(eY Ex X Ey Y).ok:=ZZ _;have nX:(eX Ex X Ey Y).nat=iuQ Ex (unN Ex X.nat Ey Y.nat) X.nat:=by unfold eX;rw[eu];exact zX (by omega)
 have nY:(eY Ex X Ey Y).nat=iuQ Ey (unN Ex X.nat Ey Y.nat) Y.nat:=by unfold eY;rw[eu];exact zX (by omega)
 have k2:decide ((eX Ex X Ey Y).ok∧(eY Ex X Ey Y).ok)=true:=Xa ⟨ox,oy⟩;have cbX:xbX Ex X Ey Y=iuB Ex (unN Ex X.nat Ey Y.nat) X.nat:=by unfold xbX;rw[eu]
 have cbY:xbY Ex X Ey Y=iuB Ey (unN Ex X.nat Ey Y.nat) Y.nat:=by unfold xbY;rw[eu]
 obtain⟨cg,cl',cz⟩:=ZrX ox oy;have hv:∀ a b:Bool,([vN a Ex X false,vN b Ey Y false,.int .i64 m].all (lt 0))=true:=fun a b=>rfl;by_cases hn:nx=ny
 ·have ev:xuV m nx Ex X ny Ey Y=vN nx (uE Ex X Ey Y) (ofN ((eX Ex X Ey Y).nat+(eY Ex X Ey Y).nat)) ((xbX Ex X Ey Y) || (xbY Ex X Ey Y)):=by
   unfold xuV xuN xuQ xuB exN exQ exB;rw[if_pos hn,if_pos hn,if_pos hn,eu,nX,nY,cbX,cbY]
  rw[ev];subst hn;cases nx
  ·exact Zb (Zf Za0) (ZvD X Y Ex Ey m) (Za k2 hlog) (hv _ _) (by rfl) w
  ·exact Zb (Zf Za0) (ZvK X Y Ex Ey m) (Za k2 hlog) (hv _ _) (by rfl) w
 ·rcases Nat.lt_trichotomy (eX Ex X Ey Y).nat (eY Ex X Ey Y).nat with h | h | h
  ·have ev:xuV m nx Ex X ny Ey Y=vN ny (uE Ex X Ey Y) (ofN (apQ (eY Ex X Ey Y).nat (eX Ex X Ey Y).nat (xbX Ex X Ey Y))) ((xbY Ex X Ey Y) || (xbX Ex X Ey Y)):=by
    rw[nX,nY] at h;unfold xuV xuN xuQ xuB exN exQ exB apQ;rw[if_neg hn,if_neg hn,if_neg hn,if_neg (Nat.lt_asymm h),if_pos h,if_neg (Nat.lt_asymm h),if_pos h,if_neg (Nat.lt_asymm h),if_pos h,eu,nX,nY,cbX,cbY]
   have k3:decide ((eY Ex X Ey Y).ok∧(eX Ex X Ey Y).ok∧(eX Ex X Ey Y).nat<(eY Ex X Ey Y).nat)=true:=Xa ⟨oy,ox,h⟩;have k4:decide (Zdp (eX Ex X Ey Y) (eY Ex X Ey Y)= -1)=true:=Xa (cl' h);rw[ev];cases nx<;>cases ny
   ·exact absurd rfl hn
   ·exact Zb (Zf Za0) (ZvF X Y Ex Ey m) (Za k3 (Za k2 (Za k4 hlog))) (hv _ _) (by rfl) w
   ·exact Zb (Zf Za0) (ZvI X Y Ex Ey m) (Za k3 (Za k2 (Za k4 hlog))) (hv _ _) (by rfl) w
   ·exact absurd rfl hn
  ·have ev:xuV m nx Ex X ny Ey Y=vN (m==4) (uE Ex X Ey Y) ⟨0,0,0,0⟩ false:=by
    rw[nX,nY] at h;unfold xuV xuN xuQ xuB exN exQ exB;rw[if_neg hn,if_neg hn,if_neg hn,h,if_neg (Nat.lt_irrefl _),if_neg (Nat.lt_irrefl _),if_neg (Nat.lt_irrefl _),if_neg (Nat.lt_irrefl _),if_neg (Nat.lt_irrefl _),if_neg (Nat.lt_irrefl _),eu,ZbW];rfl
   have k4:decide (Zdp (eX Ex X Ey Y) (eY Ex X Ey Y)=0)=true:=Xa (cz h);rw[ev];cases nx<;>cases ny
   ·exact absurd rfl hn
   ·exact Zb (Zf Za0) (ZvG X Y Ex Ey m) (Za k2 (Za k4 hlog)) (hv _ _) (by rfl) w
   ·exact Zb (Zf Za0) (ZvJ X Y Ex Ey m) (Za k2 (Za k4 hlog)) (hv _ _) (by rfl) w
   ·exact absurd rfl hn
  ·have ev:xuV m nx Ex X ny Ey Y=vN nx (uE Ex X Ey Y) (ofN (apQ (eX Ex X Ey Y).nat (eY Ex X Ey Y).nat (xbY Ex X Ey Y))) ((xbX Ex X Ey Y) || (xbY Ex X Ey Y)):=by
    rw[nX,nY] at h;unfold xuV xuN xuQ xuB exN exQ exB apQ;rw[if_neg hn,if_neg hn,if_neg hn,if_pos h,if_pos h,if_pos h,eu,nX,nY,cbX,cbY]
   have k3:decide ((eX Ex X Ey Y).ok∧(eY Ex X Ey Y).ok∧(eY Ex X Ey Y).nat<(eX Ex X Ey Y).nat)=true:=Xa ⟨ox,oy,h⟩;have k4:decide (Zdp (eX Ex X Ey Y) (eY Ex X Ey Y)=1)=true:=Xa (cg h);rw[ev];cases nx<;>cases ny
   ·exact absurd rfl hn
   ·exact Zb (Zf Za0) (ZvE X Y Ex Ey m) (Za k3 (Za k2 (Za k4 hlog))) (hv _ _) (by rfl) w
   ·exact Zb (Zf Za0) (ZvH X Y Ex Ey m) (Za k3 (Za k2 (Za k4 hlog))) (hv _ _) (by rfl) w
   ·exact absurd rfl hn
def ZrY (Ex:Int) (X:W4) (b:Bool) (Ey:Int) (Y:W4) (c:Bool):Bool:=decide (X.ok∧Y.ok∧b=false∧c=false∧Zir Ex X false=true∧Zir Ey Y false=true)
def gEx:Ans:=fun vals s=>
 match vals with
 | [v,t,.int .i64 m]=>
  match n7 v with
  | some (nx,Ex,X,b)=>
   match n7 t with
   | some (ny,Ey,Y,c)=>some (.tuple #[xuV m nx Ex X ny Ey Y,.nilIface],s,[(ZrY Ex X b Ey Y c,true)])
   | none=>none
  | none=>none
 | _=>none
theorem ZvL:ZJ 49 gEx:=by
 intro vals s v s' lg h hl w;unfold gEx at h;split at h
 ·split at h
  ·rename_i nx Ex X b hn;split at h
   ·rename_i ny Ey Y c hp;cases h;rw[zw hn,zw hp];obtain⟨h1,h2,rfl,rfl,h5,h6⟩:=Xc (hl _ Xf);exact Zgr nx ny X Y Ex Ey _ h1 h2 h5 h6 w
   ·cases h
  ·cases h
 ·cases h
end Go.Proofs.YtekebccjflilnaaGreat
namespace Go.Proofs.YtekebccjflilnaaGreat
open Go.Proofs.Tryz
open Go.IntKind
open Go.KRun Go.Pt
set_option maxRecDepth 100000
def gU (k:Int→Value):Ans:=fun vals s=>
 match vals with
 | [.int .u64 p]=>some (k p,s,[(decide (U p),true)])
 | _=>none
theorem Zis {f:Nat}{k:Int→Value}(hk:∀ p:Int,U p→∀ w,Calls prog f #[.int .u64 p] w fun e w'=>e= .returned (k p)∧zg w w'):ZJ f (gU k):=by
 intro vals s v s' lg h hl w;unfold gU at h;split at h
 ·cases h;exact hk _ (Xc (hl _ Xf)) w
 ·cases h
theorem ZnG (p:Int):Zw (Ze (Zi prog Zh Zo true) 300 70 [.int .u64 p] []) (.int .u64 (Zm7 p 9223372036854775808)) []:=by and_intros<;>kernel_rfl
theorem ZvM:ZJ 70 (gU fun p=> .int .u64 (mag p)):=Zis fun p hp w=>by
 have:=Zb (Zf Zd) (ZnG p) (fun x hx=>by cases hx) (by rfl) (by rfl) w;rw[Zkk hp] at this;exact this
def Zu1:Con:=alt 70 (gU fun p=> .int .u64 (mag p)) Zo
theorem Zdz:ConOk Zu1:=Zy func70 rfl ZvM Zd
def exM (p:Int):Int:=i64.wrap ((mag p).fdiv (2^min (52:Int).toNat 64))
theorem Zqb (p:Int):exM p=ex p:=by
 have e:((2:Int)^min (52:Int).toNat 64)=4503599627370496:=by rfl
 unfold exM;rw[e,Int.fdiv_eq_ediv_of_nonneg _ (by omega),Zvj];have:=Zio p;exact ZY ⟨by omega,by omega⟩
def frM (p:Int):Int:=Zf0 p 4503599627370495
def lX (p:Int) (l:Log):Log:=(decide ((52:Int)<0),false)::(decide (U p),true)::l
theorem ZzS {p:Int}(hp:U p):Zx (lX p []):=Za rfl (Zz (Xa hp))
def lQ (p:Int):Bool:=Zf0 (frM p) 2251799813685248 !=0
theorem ZkE (p:Int) (d:Bool):Zw (Ze (Zi prog Zh Zu1 true) 300 54 [.int .u64 p] [cmp true,cmp d]) (.int .i64 (match d with | true=>0 | false=>1)) ((frM p==0,d)::(exM p==0,true)::lX p []):=by
 cases d<;>exact by and_intros<;>kernel_rfl
theorem Zgs (p:Int):Zw (Ze (Zi prog Zh Zu1 true) 300 54 [.int .u64 p] [cmp false,cmp true,cmp true]) (.int .i64 3) ((frM p==0,true)::(exM p==2047,true)::(exM p==0,false)::lX p []):=by and_intros<;>kernel_rfl
theorem ZkF (p:Int) (d:Bool):Zw (Ze (Zi prog Zh Zu1 true) 300 54 [.int .u64 p] [cmp false,cmp true,cmp false,cmp d]) (.int .i64 (match d with | true=>4 | false=>5)) ((lQ p,d)::(frM p==0,false)::(exM p==2047,true)::(exM p==0,false)::lX p []):=by
 cases d<;>exact by and_intros<;>kernel_rfl
theorem ZkG (p:Int):Zw (Ze (Zi prog Zh Zu1 true) 300 54 [.int .u64 p] [cmp false,cmp false]) (.int .i64 2) ((exM p==2047,false)::(exM p==0,false)::lX p []):=by and_intros<;>kernel_rfl
theorem ZkH {p:Int}(hp:U p):frM p=fr p:=Zkl hp
theorem ZzT {p:Int}(hp:U p):lQ p=decide (2251799813685248≤fr p):=by
 have:=Zgk p;unfold lQ;rw[ZkH hp,Zin ⟨by omega,by omega⟩];by_cases h:2251799813685248≤fr p
 ·rw[Xa h,show fr p/2251799813685248=1 from by omega];rfl
 ·rw[Xb h,show fr p/2251799813685248=0 from by omega];rfl
theorem Zqc:ZJ 54 (gU fun p=> .int .i64 (cl p)):=Zis fun p hp w=>by
 have hl:=ZzS hp;have ee:=Zqb p;have ef:=ZkH hp;unfold cl;by_cases h0:ex p=0
 ·rw[if_pos h0];have:=Zb (Zf Zdz) (ZkE p (frM p==0)) (Za rfl (Za (by rw[ee];simp [h0]) hl)) (by rfl) (by cases (frM p==0)<;>rfl) w;rw[ef] at this;by_cases h1:fr p=0
  ·rw[if_pos h1];rw[show (fr p==0)=true from by simp [h1]] at this;exact this
  ·rw[if_neg h1];rw[show (fr p==0)=false from by simp [h1]] at this;exact this
 ·rw[if_neg h0];by_cases h2:ex p=2047
  ·rw[if_pos h2];by_cases h1:fr p=0
   ·rw[if_pos h1];exact Zb (Zf Zdz) (Zgs p) (Za (by rw[ef];simp [h1]) (Za (by rw[ee];simp [h2]) (Za (by rw[ee];simp [h0]) hl))) (by rfl) (by rfl) w
   ·rw[if_neg h1];have:=Zb (Zf Zdz) (ZkF p (lQ p)) (Za rfl (Za (by rw[ef];simp [h1]) (Za (by rw[ee];simp [h2]) (Za (by rw[ee];simp [h0]) hl)))) (by rfl) (by cases (lQ p)<;>rfl) w;rw[ZzT hp] at this;by_cases h3:2251799813685248≤fr p
    ·rw[if_pos h3];rw[Xa h3] at this;exact this
    ·rw[if_neg h3];rw[Xb h3] at this;exact this
  ·rw[if_neg h2];exact Zb (Zf Zdz) (ZkG p) (Za (by rw[ee];simp [h2]) (Za (by rw[ee];simp [h0]) hl)) (by rfl) (by rfl) w
def ZvN:Con:=alt 54 (gU fun p=> .int .i64 (cl p)) Zu1
theorem ZeG:ConOk ZvN:=Zy func54 rfl Zqc Zdz
def vP (m:Bool) (c e s:Int):Value:= .agg #[.bool m,.int .i64 c,.int .i64 e,.int .u64 s]
def vT (p:Int):Value:=vP (sgn p) (cl p) (xp p) (sg p)
def lS (p:Int) (d:Bool):Bool×Bool:=(Zf0 p 9223372036854775808 !=0,d)
def lU (p:Int):Bool×Bool:=(decide (U p),true)
theorem Zgt (p:Int) (d:Bool):Zw (Ze (Zi prog Zh ZvN true) 300 82 [.int .u64 p] [cmp d,cmp true]) (vP d (cl p) (-1074) (frM p)) [(cl p==0,true),lU p,lS p d]:=by and_intros<;>kernel_rfl
theorem ZkI (p:Int) (d:Bool):Zw (Ze (Zi prog Zh ZvN true) 300 82 [.int .u64 p] [cmp d,cmp false,cmp true]) (vP d (cl p) (-1074) (frM p)) [(cl p==1,true),(cl p==0,false),lU p,lS p d]:=by and_intros<;>kernel_rfl
theorem Zit (p:Int) (d:Bool):Zw (Ze (Zi prog Zh ZvN true) 300 82 [.int .u64 p] [cmp d,cmp false,cmp false,cmp true]) (vP d (cl p) (i64.wrap (exM p-1075)) (bOr (frM p) 4503599627370496)) [(decide ((52:Int)<0),false),lU p,(cl p==2,true),(cl p==1,false),(cl p==0,false),lU p,lS p d]:=by and_intros<;>kernel_rfl
theorem Ziu (p:Int) (d:Bool):Zw (Ze (Zi prog Zh ZvN true) 300 82 [.int .u64 p] [cmp d,cmp false,cmp false,cmp false]) (vP d (cl p) 0 (frM p)) [(cl p==2,false),(cl p==1,false),(cl p==0,false),lU p,lS p d]:=by and_intros<;>kernel_rfl
theorem ZrZ {p:Int}(hp:U p):(Zf0 p 9223372036854775808 !=0)=sgn p:=by
 rw[Zf3 hp];unfold sgn;unfold U at hp;by_cases h:9223372036854775808≤p
 ·rw[Xa h,show p/9223372036854775808=1 from by omega];rfl
 ·rw[Xb h,show p/9223372036854775808=0 from by omega];rfl
theorem ZnH (p:Int):(ex p=0∧(cl p=0∨cl p=1))∨(ex p=2047∧3≤cl p)∨(ex p≠0∧ex p≠2047∧cl p=2):=by
 unfold cl;split
 ·split<;>omega
 ·split
  ·split
   ·omega
   ·split<;>omega
  ·omega
theorem Zsa {p:Int}:bOr (fr p) 4503599627370496=fr p+4503599627370496:=by
 have:=Zgk p;rw[ZpO 52 (z:=1) (by omega) (by rfl) this.1 (show fr p<2^52 from this.2) (by omega)];omega
theorem Ziv (p:Int) (hp:U p) (w:World):Calls prog 82 #[.int .u64 p] w fun e w'=>e= .returned (vT p)∧zg w w':=by
 have hu:decide (U p)=true:=Xa hp;have hs:=ZrZ hp;have hf:=ZkH hp;have he:=Zqb p;have hx:=Zio p;unfold vT xp sg;rcases ZnH p with ⟨h1,h2⟩ | ⟨h1,h2⟩ | ⟨h1,h2,h3⟩
 ·rw[if_pos h1,if_pos h1];rcases h2 with h2 | h2
  ·have:=Zb (Zf ZeG) (Zgt p (sgn p)) (Za (by simp [h2]) (Za hu (Zz hs))) (by rfl) (by rfl) w;rw[hf] at this;exact this
  ·have:=Zb (Zf ZeG) (ZkI p (sgn p)) (Za (by simp [h2]) (Za (by simp [h2]) (Za hu (Zz hs)))) (by rfl) (by rfl) w;rw[hf] at this;exact this
 ·have h0:¬ ex p=0:=by omega
  simp only[if_neg h0,if_pos h1];have h3:¬ cl p=0:=by omega
  have h4:¬ cl p=1:=by omega
  have h5:¬ cl p=2:=by omega
  have:=Zb (Zf ZeG) (Ziu p (sgn p)) (Za (by simp [h5]) (Za (by simp [h4]) (Za (by simp [h3]) (Za hu (Zz hs))))) (by rfl) (by rfl) w;rw[hf] at this;exact this
 ·rw[if_neg h1,if_neg h1,if_neg h2,if_neg h2];have:=Zb (Zf ZeG) (Zit p (sgn p)) (Za rfl (Za hu (Za (by simp [h3]) (Za (by simp [h3]) (Za (by simp [h3]) (Za hu (Zz hs))))))) (by rfl) (by rfl) w;rw[hf,he,ZY ⟨by omega,by omega⟩,Zsa] at this;exact this
theorem Zsb:ZJ 82 (gU vT):=Zis Ziv
def exR (p:Int):Int:=(u64.wrap (p.tdiv 4503599627370496)).tmod 2048
def frR (p:Int):Int:=p.tmod 4503599627370496
def lR (p:Int) (d:Bool):Log:=[(decide (p≥9223372036854775808),d),(decide ((4503599627370496:Int)=0),false),(decide ((2048:Int)=0),false)]
theorem ZkJ (p:Int) (d:Bool):Zw (Ze (Zi prog Zh Zo true) 300 41 [.int .u64 p] [cmp true,cmp true,cmp d,cmp false,cmp false]) (vP d 2 (i64.wrap (i64.wrap (exR p)-1075)) (u64.wrap (frR p+4503599627370496))) ((exR p==0,false)::(exR p==2047,false)::lR p d):=by and_intros<;>kernel_rfl
theorem ZkK (p:Int) (d:Bool):Zw (Ze (Zi prog Zh Zo true) 300 41 [.int .u64 p] [cmp true,cmp true,cmp d,cmp true,cmp true]) (vP d 4 0 (frR p)) ((decide (frR p≥2251799813685248),true)::(exR p==2047,true)::lR p d):=by and_intros<;>kernel_rfl
theorem ZfA (p:Int) (d b:Bool):Zw (Ze (Zi prog Zh Zo true) 300 41 [.int .u64 p] [cmp true,cmp true,cmp d,cmp true,cmp false,cmp b]) (vP d (match b with | true=>5 | false=>3) 0 (frR p)) ((decide (frR p>0),b)::(decide (frR p≥2251799813685248),false)::(exR p==2047,true)::lR p d):=by
 cases b<;>exact by and_intros<;>kernel_rfl
theorem ZfB (p:Int) (d b:Bool):Zw (Ze (Zi prog Zh Zo true) 300 41 [.int .u64 p] [cmp true,cmp true,cmp d,cmp false,cmp true,cmp b]) (vP d (match b with | true=>1 | false=>0) (-1074) (frR p)) ((decide (frR p>0),b)::(exR p==0,true)::(exR p==2047,false)::lR p d):=by
 cases b<;>exact by and_intros<;>kernel_rfl
theorem ZvO {p:Int}(hp:U p):exR p=ex p:=by
 unfold exR ex U at*;rw[Int.tdiv_eq_ediv_of_nonneg hp.1,wrapU' ⟨by omega,by omega⟩,Int.tmod_eq_emod_of_nonneg (by omega)]
theorem ZvP {p:Int}(hp:U p):frR p=fr p:=by unfold frR fr U at*;rw[Int.tmod_eq_emod_of_nonneg hp.1]
theorem ZkL (p:Int) (hp:U p) (w:World):Calls prog 41 #[.int .u64 p] w fun e w'=>e= .returned (vT p)∧zg w w':=by
 have hl:Zx (lR p (sgn p)):=Za rfl (Za rfl (Zz rfl));have hf:=ZvP hp;have he:=ZvO hp;have hx:=Zio p;have hy:=Zgk p;unfold vT xp sg cl;by_cases h0:ex p=0
 ·simp only[if_pos h0];by_cases h1:fr p=0
  ·simp only[if_pos h1];have:=Zb (Zf Zd) (ZfB p (sgn p) false) (Za (by rw[hf];simp [h1]) (Za (by rw[he];simp [h0]) (Za (by rw[he];simp [h0]) hl))) (by rfl) (by rfl) w;rw[hf] at this;exact this
  ·simp only[if_neg h1];have:=Zb (Zf Zd) (ZfB p (sgn p) true) (Za (by rw[hf];exact Xa (by omega)) (Za (by rw[he];simp [h0]) (Za (by rw[he];simp [h0]) hl))) (by rfl) (by rfl) w;rw[hf] at this;exact this
 ·simp only[if_neg h0];by_cases h2:ex p=2047
  ·simp only[if_pos h2];by_cases h3:2251799813685248≤fr p
   ·simp only[if_pos h3,if_neg (show ¬ fr p=0 by omega)];have:=Zb (Zf Zd) (ZkK p (sgn p)) (Za (by rw[hf];exact Xa h3) (Za (by rw[he];simp [h2]) hl)) (by rfl) (by rfl) w;rw[hf] at this;exact this
   ·by_cases h1:fr p=0
    ·simp only[if_pos h1];have:=Zb (Zf Zd) (ZfA p (sgn p) false) (Za (by rw[hf];simp [h1]) (Za (by rw[hf];exact Xb h3) (Za (by rw[he];simp [h2]) hl))) (by rfl) (by rfl) w;rw[hf] at this;exact this
    ·simp only[if_neg h1,if_neg h3];have:=Zb (Zf Zd) (ZfA p (sgn p) true) (Za (by rw[hf];exact Xa (by omega)) (Za (by rw[hf];exact Xb h3) (Za (by rw[he];simp [h2]) hl))) (by rfl) (by rfl) w;rw[hf] at this;exact this
  ·simp only[if_neg h2];have:=Zb (Zf Zd) (ZkJ p (sgn p)) (Za (by rw[he];simp [h0]) (Za (by rw[he];simp [h2]) hl)) (by rfl) (by rfl) w;rw[hf,he,ZY (n:=ex p) ⟨by omega,by omega⟩,ZY ⟨by omega,by omega⟩,wrapU' ⟨by omega,by omega⟩] at this;exact this
theorem Zqd:ZJ 41 (gU vT):=Zis ZkL
end Go.Proofs.YtekebccjflilnaaGreat
namespace Go.Proofs.YtekebccjflilnaaGreat
open Go.Proofs.Tryz
open Go.KRun Go.Pt
set_option maxRecDepth 100000
def ZyT (k:Int→Int→Bool):Ans:=fun vals s=>
 match vals,s with
 | [.int .u64 a,.int .u64 b],.inr (.inr (.inr (.inl d)))::s'=>some (.bool d,s',[(k a b,d),(decide (U a∧U b),true)])
 | _,_=>none
theorem ZkM {f:Nat}{k:Int→Int→Bool}(hk:∀ a b:Int,U a→U b→∀ w,Calls prog f #[.int .u64 a,.int .u64 b] w fun e w'=>e= .returned (.bool (k a b))∧zg w w'):ZJ f (ZyT k):=by
 intro vals s v s' lg h hl w;unfold ZyT at h;split at h
 ·cases h;have e:=hl _ (Xe);obtain⟨h1,h2⟩:=Xc (hl _ (Xd _ Xf));simp only at e;rw[← e];exact hk _ _ h1 h2 w
 ·cases h
def gUU (k:Int→Int→Value) (c:Int→Int→Bool):Ans:=fun vals s=>
 match vals with
 | [.int .u64 a,.int .u64 b]=>some (k a b,s,[(c a b,true),(decide (U a∧U b),true)])
 | _=>none
theorem ZkN {f:Nat}{k:Int→Int→Value}{c:Int→Int→Bool}(hk:∀ a b:Int,U a→U b→c a b=true→∀ w,Calls prog f #[.int .u64 a,.int .u64 b] w fun e w'=>e= .returned (k a b)∧zg w w'):ZJ f (gUU k c):=by
 intro vals s v s' lg h hl w;unfold gUU at h;split at h
 ·cases h;have e:=hl _ (Xe);obtain⟨h1,h2⟩:=Xc (hl _ (Xd _ Xf));exact hk _ _ h1 h2 e w
 ·cases h
theorem Z1 {x y:Int}(h:x=y):(x==y)=true:=by simpa using h
theorem Zq {x y:Int}(h:x≠y):(x==y)=false:=by simpa using h
theorem Zsc {x y:Int}(h:x≠y):(x !=y)=true:=by simpa using h
theorem Zsd {x y:Int}(h:x=y):(x !=y)=false:=by simpa using h
theorem Zd0 (p:Int):0≤cl p∧cl p≤5:=by
 unfold cl;split
 ·split<;>omega
 ·split
  ·split
   ·omega
   ·split<;>omega
  ·omega
theorem Zqe (p:Int):mag p=4503599627370496*ex p+fr p:=by unfold mag ex fr;omega
theorem Zd1 (p:Int):(3<cl p↔9218868437227405312<mag p)∧(cl p=3↔mag p=9218868437227405312)∧(cl p≤2↔mag p<9218868437227405312):=by
 have h1:=Zqe p;have h2:=Zio p;have h3:=Zgk p;rw[h1];unfold cl;split
 ·split<;>omega
 ·split
  ·split
   ·omega
   ·split<;>omega
  ·omega
end Go.Proofs.YtekebccjflilnaaGreat
namespace Go.Rn
open Go.Nt Go.Wd Go.Pt
theorem ZeH {F G E:Int}(h1:F≤G) (h2:G≤E) (X:Nat):szF F E X=szF G E X*2^(G-F).toNat:=by
 unfold szF;rw[Nat.mul_assoc,← Nat.pow_add];congr 2;omega
theorem ZeI (n:Bool) (A K:Nat):sgI n (A*K)=sgI n A*(K:Int):=by
 cases n
 ·simp [sgI]
 ·simp only[sgI,Int.natCast_mul];rw[Int.neg_mul]
theorem ZkO {F G Ex Ey:Int}(h1:F≤G) (h2:G≤Ex) (h3:G≤Ey) (nx ny:Bool) (X Y:Nat):smI F nx Ex X ny Ey Y=smI G nx Ex X ny Ey Y*((2^(G-F).toNat:Nat):Int):=by
 unfold smI;rw[ZeH h1 h2,ZeH h1 h3,ZeI,ZeI,Int.add_mul]
theorem ZkP (m:Int) (nx ny:Bool) (S:Int) {K:Nat}(hK:0<K):sgS m nx ny (S*(K:Int))=sgS m nx ny S:=by
 have hk:(0:Int)<(K:Int):=by omega
 have e0:S*(K:Int)=0↔S=0:=by rw[Int.mul_eq_zero];omega
 have e1:S*(K:Int)<0↔S<0:=by
  constructor
  ·intro h;rcases Int.lt_or_le S 0 with h1 | h1
   ·exact h1
   ·have:=Int.mul_nonneg h1 (Int.le_of_lt hk);omega
  ·intro h;exact Int.mul_neg_of_neg_of_pos h hk
 unfold sgS;simp only[e0,e1]
theorem ZnI {G Ex Ey:Int}{X Y:Nat}(hX:May Ex X) (hY:May Ey Y) (hx:G≤Ex) (hy:G≤Ey) (k m:Int) (n nx ny:Bool):
  rnP k n (2*xuQ nx Ex X ny Ey Y+bN (xuB nx Ex X ny Ey Y)) (unN Ex X Ey Y-1)=rnP k n (smI G nx Ex X ny Ey Y).natAbs G
  ∧rnF k n (2*xuQ nx Ex X ny Ey Y+bN (xuB nx Ex X ny Ey Y)) (unN Ex X Ey Y-1)=rnF k n (smI G nx Ex X ny Ey Y).natAbs G
  ∧xuN m nx Ex X ny Ey Y=sgS m nx ny (smI G nx Ex X ny Ey Y):=by
 obtain⟨F,hF⟩:∃ F,F=min (unN Ex X Ey Y) G:=⟨_,rfl⟩;have h1:F≤unN Ex X Ey Y:=by omega
 have h2:F≤G:=by omega
 obtain⟨a,b,c⟩:=Zv5 hX hY h1 (by omega) (by omega) m nx ny;have hK:0<2^(G-F).toNat:=Nat.pow_pos (by omega);have es:=ZkO (X:=X) (Y:=Y) h2 hx hy nx ny;have ea:(smI F nx Ex X ny Ey Y).natAbs=(smI G nx Ex X ny Ey Y).natAbs*2^(G-F).toNat:=by rw[es,Int.natAbs_mul,Int.natAbs_natCast]
 obtain⟨p,q⟩:=Zf9 (m:=k) (neg:=n) (F:=F) b;have eu:F+((unN Ex X Ey Y-F).toNat:Int)-1=unN Ex X Ey Y-1:=by omega
 have eG:G-((G-F).toNat:Int)=F:=by omega
 have sp:=ZaA k n (smI G nx Ex X ny Ey Y).natAbs (G-F).toNat G;have sf:=ZaB k n (smI G nx Ex X ny Ey Y).natAbs (G-F).toNat G;rw[eG,← ea] at sp sf;rw[eu] at p q;refine⟨by rw[a,p,sp],by rw[a,q,sf],?_⟩;rw[c,es,ZkP m nx ny _ hK]
def uV (p:Int):Nat:=szF (-1074) (xp p) (sg p).toNat
def pvI (p:Int):Int:=sgI (sgn p) (uV p)
def psI (a b:Int):Int:=pvI a+pvI b
theorem ZbJ (p:Int): -1074≤xp p∧xp p≤972:=by
 have:=Zio p;unfold xp;split
 ·omega
 ·split<;>omega
theorem ZbK (p:Int):0≤sg p∧sg p<9007199254740992:=by
 have:=Zgk p;unfold sg;split
 ·omega
 ·split<;>omega
theorem ZeJ (p:Int):May (xp p) (sg p).toNat:=by
 have h1:=ZbJ p;have h2:=ZbK p;refine⟨?_,by omega,by omega⟩;have:(2:Nat)^128=340282366920938463463374607431768211456:=rfl;omega
def adN (m a b:Int):Bool:=sgS m (sgn a) (sgn b) (psI a b)
def adP (m a b:Int):Int:=rnP m (adN m a b) (psI a b).natAbs (-1074)
def adF (m a b:Int):Int:=rnF m (adN m a b) (psI a b).natAbs (-1074)
def ng (p:Int):Int:=(p+9223372036854775808) % 18446744073709551616
theorem ZnJ {p:Int}(hp:U p):U (ng p)∧sgn (ng p)= !sgn p∧ex (ng p)=ex p∧fr (ng p)=fr p∧mag (ng p)=mag p:=by
 unfold U at hp;unfold ng U sgn ex fr mag;refine⟨by omega,?_,by omega,by omega,by omega⟩;by_cases h:9223372036854775808≤p
 ·rw[Xa h,Xb (by omega)];rfl
 ·rw[Xb h,Xa (by omega)];rfl
theorem ZkQ (n:Bool) (A:Nat):(sgI n A).natAbs=A:=by cases n<;>simp [sgI]
theorem Zgu {n:Bool}{A:Nat}(h:A≠0):decide (sgI n A<0)=n∧sgI n A≠0:=by
 cases n
 ·exact⟨Xb (by simp only[sgI];omega),by simp only[sgI];omega⟩
 ·exact⟨Xa (by simp only[sgI];omega),by simp only[sgI];omega⟩
end Go.Rn
namespace Go.Proofs.YtekebccjflilnaaGreat
open Go.Proofs.Tryz
open Go.IntKind
open Go.KRun Go.Wd Go.Pt Go.Rn
set_option maxRecDepth 100000
def ZnK:Con:=alt 27 gRd (alt 82 (gU vT) (alt 54 (gU fun p=> .int .i64 (cl p)) Zo))
theorem ZeK:ConOk ZnK:=Zy func27 rfl Zvt (Zy func82 rfl Zsb (Zy func54 rfl Zqc Zd))
def wSg (p:Int):W4:=⟨sg p,0,0,0⟩
def lp0:Bool×Bool:=(decide ((0:Int)<((2:Nat):Int)),true)
def lp1:Bool×Bool:=(decide (i64.wrap (0+1)<((2:Nat):Int)),true)
def lp2:Bool×Bool:=(decide (i64.wrap (i64.wrap (0+1)+1)<((2:Nat):Int)),false)
theorem ZaC (p:Int):(wSg p).ok:=by
 have h:=ZbK p;exact⟨⟨h.1,by unfold wSg;dsimp only;omega⟩,⟨by unfold wSg;dsimp only;omega,by unfold wSg;dsimp only;omega⟩,⟨by unfold wSg;dsimp only;omega,by unfold wSg;dsimp only;omega⟩,⟨by unfold wSg;dsimp only;omega,by unfold wSg;dsimp only;omega⟩⟩
theorem ZaT (p:Int):(wSg p).nat=(sg p).toNat:=by
 unfold W4.nat W4.val wSg;simp only[Int.mul_zero,Int.add_zero]
theorem Zse {q:Nat}(h:q<2^256) (b:Bool):tw (ofN q) b=2*q+bN b:=by
 unfold tw;rw[zX h];cases b<;>rfl
theorem Zd2 (k:Int) (n:Bool) {x:W4}(hx:x.ok) (b:Bool) (u:Int):rnP k n (tw x b) (clp u-1)=rnP k n (tw x b) (u-1)∧rnF k n (tw x b) (clp u-1)=rnF k n (tw x b) (u-1):=by
 have h1:=Zeh (m:=k) (neg:=n) hx b (C:=clp u) (D:=u) (by unfold clp;split<;>(try split)<;>omega);have h2:=Zeh (m:=k) (neg:=n) hx b (C:=u) (D:=u) (.inl rfl);exact⟨by rw[h1.1,h2.1],by rw[h1.2,h2.2]⟩
end Go.Proofs.YtekebccjflilnaaGreat
namespace Go.Proofs.YtekebccjflilnaaGreat
open Go.Proofs.Tryz
open Go.KRun Go.Wd Go.Pt Go.Rn
set_option maxRecDepth 100000
def Zcz:Con:=alt 49 gEx ZnK
theorem zD:ConOk Zcz:=Zy func49 rfl ZvL ZeK
theorem ZvQ (a b m:Int):Zw (Ze (Zi prog Zh Zcz true) 300 47 [.int .u64 a,.int .u64 b,.int .i64 m] [cmp true,cmp true,cmp true,cmp true,cmp true,cmp false]) (rdT 9221120237041090560 1) [lp2,(cl b==5,true),lU b,lp1,(cl a==5,true),lU a,(decide (cl a>3),true),lU a,lp0]:=by and_intros<;>kernel_rfl
theorem ZvR (a b m:Int):Zw (Ze (Zi prog Zh Zcz true) 300 47 [.int .u64 a,.int .u64 b,.int .i64 m] [cmp true,cmp true,cmp true,cmp true,cmp false,cmp false]) (rdT 9221120237041090560 1) [lp2,(cl b==5,false),lU b,lp1,(cl a==5,true),lU a,(decide (cl a>3),true),lU a,lp0]:=by and_intros<;>kernel_rfl
theorem ZvS (a b m:Int):Zw (Ze (Zi prog Zh Zcz true) 300 47 [.int .u64 a,.int .u64 b,.int .i64 m] [cmp true,cmp true,cmp false,cmp true,cmp true,cmp false]) (rdT 9221120237041090560 1) [lp2,(cl b==5,true),lU b,lp1,(cl a==5,false),lU a,(decide (cl a>3),true),lU a,lp0]:=by and_intros<;>kernel_rfl
theorem ZvT (a b m:Int):Zw (Ze (Zi prog Zh Zcz true) 300 47 [.int .u64 a,.int .u64 b,.int .i64 m] [cmp true,cmp true,cmp false,cmp true,cmp false,cmp false]) (rdT 9221120237041090560 0) [lp2,(cl b==5,false),lU b,lp1,(cl a==5,false),lU a,(decide (cl a>3),true),lU a,lp0]:=by and_intros<;>kernel_rfl
theorem ZzU (a b m:Int):Zw (Ze (Zi prog Zh Zcz true) 300 47 [.int .u64 a,.int .u64 b,.int .i64 m] [cmp true,cmp false,cmp false,cmp true,cmp true,cmp true,cmp false]) (rdT 9221120237041090560 1) [lp2,(cl b==5,true),lU b,(decide (cl b>3),true),lU b,lp1,(cl a==5,false),lU a,(decide (cl a>3),false),lU a,lp0]:=by and_intros<;>kernel_rfl
theorem ZzV (a b m:Int):Zw (Ze (Zi prog Zh Zcz true) 300 47 [.int .u64 a,.int .u64 b,.int .i64 m] [cmp true,cmp false,cmp false,cmp true,cmp true,cmp false,cmp false]) (rdT 9221120237041090560 0) [lp2,(cl b==5,false),lU b,(decide (cl b>3),true),lU b,lp1,(cl a==5,false),lU a,(decide (cl a>3),false),lU a,lp0]:=by and_intros<;>kernel_rfl
theorem ZzW (a b m:Int):Zw (Ze (Zi prog Zh Zcz true) 300 47 [.int .u64 a,.int .u64 b,.int .i64 m] [cmp true,cmp false,cmp false,cmp true,cmp false,cmp false,cmp false,cmp true,cmp true,cmp true]) (rdT 9221120237041090560 1) [(a !=b,true),(cl b==3,true),lU b,(cl a==3,true),lU a,lp2,(cl b==5,false),lU b,(decide (cl b>3),false),lU b,lp1,(cl a==5,false),lU a,(decide (cl a>3),false),lU a,lp0]:=by and_intros<;>kernel_rfl
theorem ZzX (a b m:Int):Zw (Ze (Zi prog Zh Zcz true) 300 47 [.int .u64 a,.int .u64 b,.int .i64 m] [cmp true,cmp false,cmp false,cmp true,cmp false,cmp false,cmp false,cmp true,cmp true,cmp false,cmp true]) (rdT a 0) [(cl a==3,true),lU a,(a !=b,false),(cl b==3,true),lU b,(cl a==3,true),lU a,lp2,(cl b==5,false),lU b,(decide (cl b>3),false),lU b,lp1,(cl a==5,false),lU a,(decide (cl a>3),false),lU a,lp0]:=by and_intros<;>kernel_rfl
theorem ZzY (a b m:Int):Zw (Ze (Zi prog Zh Zcz true) 300 47 [.int .u64 a,.int .u64 b,.int .i64 m] [cmp true,cmp false,cmp false,cmp true,cmp false,cmp false,cmp false,cmp true,cmp false,cmp true]) (rdT a 0) [(cl a==3,true),lU a,(cl b==3,false),lU b,(cl a==3,true),lU a,lp2,(cl b==5,false),lU b,(decide (cl b>3),false),lU b,lp1,(cl a==5,false),lU a,(decide (cl a>3),false),lU a,lp0]:=by and_intros<;>kernel_rfl
theorem ZzZ (a b m:Int):Zw (Ze (Zi prog Zh Zcz true) 300 47 [.int .u64 a,.int .u64 b,.int .i64 m] [cmp true,cmp false,cmp false,cmp true,cmp false,cmp false,cmp false,cmp false,cmp false,cmp true]) (rdT b 0) [(cl b==3,true),lU b,(cl a==3,false),lU a,(cl a==3,false),lU a,lp2,(cl b==5,false),lU b,(decide (cl b>3),false),lU b,lp1,(cl a==5,false),lU a,(decide (cl a>3),false),lU a,lp0]:=by and_intros<;>kernel_rfl
theorem ZvU (a b m:Int):Zw (Ze (Zi prog Zh Zcz true) 300 47 [.int .u64 a,.int .u64 b,.int .i64 m] [cmp true,cmp false,cmp false,cmp true,cmp false,cmp false,cmp false,cmp false,cmp false,cmp false,cmp true,cmp true]) (rdV m (xuN m (sgn a) (xp a) (wSg a).nat (sgn b) (xp b) (wSg b).nat) (tw (ofN (xuQ (sgn a) (xp a) (wSg a).nat (sgn b) (xp b) (wSg b).nat)) (xuB (sgn a) (xp a) (wSg a).nat (sgn b) (xp b) (wSg b).nat)) (clp (unN (xp a) (wSg a).nat (xp b) (wSg b).nat)-1)) [(decide (ofN (xuQ (sgn a) (xp a) (wSg a).nat (sgn b) (xp b) (wSg b).nat)).ok,true),(ZrY (xp a) (wSg a) false (xp b) (wSg b) false,true),lU b,(decide (cl b≤2),true),lU b,lU a,(decide (cl a≤2),true),lU a,(cl b==3,false),lU b,(cl a==3,false),lU a,(cl a==3,false),lU a,lp2,(cl b==5,false),lU b,(decide (cl b>3),false),lU b,lp1,(cl a==5,false),lU a,(decide (cl a>3),false),lU a,lp0]:=by and_intros<;>kernel_rfl
theorem ZvV (k m:Int) {G Ex Ey:Int}{X Y:Nat}(hX:May Ex X) (hY:May Ey Y) (hx:G≤Ex) (hy:G≤Ey) (nx ny:Bool):
  rdV k (xuN m nx Ex X ny Ey Y) (tw (ofN (xuQ nx Ex X ny Ey Y)) (xuB nx Ex X ny Ey Y)) (clp (unN Ex X Ey Y)-1)=rdV k (sgS m nx ny (smI G nx Ex X ny Ey Y)) (smI G nx Ex X ny Ey Y).natAbs G:=by
 have hq:=Zv4 nx Ex X ny Ey Y;have e:(2:Nat)^256=2*2^255:=rfl;obtain⟨c1,c2⟩:=Zd2 k (xuN m nx Ex X ny Ey Y) (ZZ (xuQ nx Ex X ny Ey Y)) (xuB nx Ex X ny Ey Y) (unN Ex X Ey Y);obtain⟨p,q,r⟩:=ZnI hX hY hx hy k m (xuN m nx Ex X ny Ey Y) nx ny;unfold rdV;rw[c1,c2,Zse (by omega),p,q,r]
def suP (m a b:Int):Int:=if 3<cl a∨3<cl b then 9221120237041090560 else if cl a=3 then (if cl b=3∧a≠b then 9221120237041090560 else a) else if cl b=3 then b else sS (adN m a b) (adP m a b)
def suF (m a b:Int):Int:=if 3<cl a∨3<cl b then (if cl a=5∨cl b=5 then 1 else 0) else if cl a=3 then (if cl b=3∧a≠b then 1 else 0) else if cl b=3 then 0 else adF m a b
def suV (m a b:Int):Value:=rdT (suP m a b) (suF m a b)
theorem Ziw (a b m:Int) (ha:U a) (hb:U b) (w:World):Calls prog 47 #[.int .u64 a,.int .u64 b,.int .i64 m] w fun r w'=>r= .returned (suV m a b)∧zg w w':=by
 have hv:([.int .u64 a,.int .u64 b,.int .i64 m].all (lt 0))=true:=rfl;have ka:decide (U a)=true:=Xa ha;have kb:decide (U b)=true:=Xa hb;have k0:lp0.1=lp0.2:=by decide
 have k1:lp1.1=lp1.2:=by decide
 have k2:lp2.1=lp2.2:=by decide
 have ba:=Zd0 a;have bb:=Zd0 b;unfold suV suP suF;by_cases hna:3<cl a
 ·have g1:decide (cl a>3)=true:=Xa hna;rw[if_pos (.inl hna),if_pos (.inl hna)];have mk:∀ {d e:Bool},(cl a==5)=d→(cl b==5)=e→Zx [lp2,(cl b==5,e),lU b,lp1,(cl a==5,d),lU a,(decide (cl a>3),true),lU a,lp0]:=fun h1 h2=>
   Za k2 (Za h2 (Za kb (Za k1 (Za h1 (Za ka (Za g1 (Za ka (Zz k0))))))))
  by_cases ca:cl a=5<;>by_cases cb:cl b=5
  ·rw[if_pos (.inl ca)];exact Zb (Zf zD) (ZvQ a b m) (mk (Z1 ca) (Z1 cb)) hv (by rfl) w
  ·rw[if_pos (.inl ca)];exact Zb (Zf zD) (ZvR a b m) (mk (Z1 ca) (Zq cb)) hv (by rfl) w
  ·rw[if_pos (.inr cb)];exact Zb (Zf zD) (ZvS a b m) (mk (Zq ca) (Z1 cb)) hv (by rfl) w
  ·rw[if_neg (by omega)];exact Zb (Zf zD) (ZvT a b m) (mk (Zq ca) (Zq cb)) hv (by rfl) w
 ·have g1:decide (cl a>3)=false:=Xb hna;have ca:(cl a==5)=false:=Zq (by omega);by_cases hnb:3<cl b
  ·have g2:decide (cl b>3)=true:=Xa hnb;rw[if_pos (.inr hnb),if_pos (.inr hnb)];by_cases cb:cl b=5
   ·rw[if_pos (.inr cb)];exact Zb (Zf zD) (ZzU a b m) (Za k2 (Za (Z1 cb) (Za kb (Za g2 (Za kb (Za k1 (Za ca (Za ka (Za g1 (Za ka (Zz k0))))))))))) hv (by rfl) w
   ·rw[if_neg (by omega)];exact Zb (Zf zD) (ZzV a b m) (Za k2 (Za (Zq cb) (Za kb (Za g2 (Za kb (Za k1 (Za ca (Za ka (Za g1 (Za ka (Zz k0))))))))))) hv (by rfl) w
  ·have g2:decide (cl b>3)=false:=Xb hnb;have cb:(cl b==5)=false:=Zq (by omega);have lN:Zx [lp2,(cl b==5,false),lU b,(decide (cl b>3),false),lU b,lp1,(cl a==5,false),lU a,(decide (cl a>3),false),lU a,lp0]:=
    Za k2 (Za cb (Za kb (Za g2 (Za kb (Za k1 (Za ca (Za ka (Za g1 (Za ka (Zz k0))))))))))
   have hno:¬ (3<cl a∨3<cl b):=by omega
   rw[if_neg hno,if_neg hno];by_cases ea:cl a=3
   ·rw[if_pos ea,if_pos ea];by_cases eb:cl b=3
    ·by_cases hab:a=b
     ·rw[if_neg (fun h=>h.2 hab),if_neg (fun h=>h.2 hab)];exact Zb (Zf zD) (ZzX a b m) (Za (Z1 ea) (Za ka (Za (Zsd hab) (Za (Z1 eb) (Za kb (Za (Z1 ea) (Za ka lN))))))) hv (by rfl) w
     ·rw[if_pos ⟨eb,hab⟩,if_pos ⟨eb,hab⟩];exact Zb (Zf zD) (ZzW a b m) (Za (Zsc hab) (Za (Z1 eb) (Za kb (Za (Z1 ea) (Za ka lN))))) hv (by rfl) w
    ·rw[if_neg (fun h=>eb h.1),if_neg (fun h=>eb h.1)];exact Zb (Zf zD) (ZzY a b m) (Za (Z1 ea) (Za ka (Za (Zq eb) (Za kb (Za (Z1 ea) (Za ka lN)))))) hv (by rfl) w
   ·rw[if_neg ea,if_neg ea];by_cases eb:cl b=3
    ·rw[if_pos eb,if_pos eb];exact Zb (Zf zD) (ZzZ a b m) (Za (Z1 eb) (Za kb (Za (Zq ea) (Za ka (Za (Zq ea) (Za ka lN)))))) hv (by rfl) w
    ·rw[if_neg eb,if_neg eb];have mA:May (xp a) (wSg a).nat:=by rw[ZaT];exact ZeJ a
     have mB:May (xp b) (wSg b).nat:=by rw[ZaT];exact ZeJ b
     have kE:ZrY (xp a) (wSg a) false (xp b) (wSg b) false=true:=Xa ⟨ZaC a,ZaC b,rfl,rfl,(Zcy (ZaC a)).2 mA,(Zcy (ZaC b)).2 mB⟩;have fa:decide (cl a≤2)=true:=Xa (by omega);have fb:decide (cl b≤2)=true:=Xa (by omega);have hf:=ZvU a b m;rw[ZvV m m mA mB (ZbJ a).1 (ZbJ b).1,ZaT,ZaT] at hf;exact Zb (Zf zD) hf (Za (Xa (ZZ _)) (Za kE (Za kb (Za fb (Za kb (Za ka (Za fa (Za ka (Za (Zq eb) (Za kb (Za (Zq ea) (Za ka (Za (Zq ea) (Za ka lN)))))))))))))) hv (by rfl) w
def gSA:Ans:=fun vals s=>
 match vals with
 | [.int .u64 a,.int .u64 b,.int .i64 m]=>some (suV m a b,s,[(decide (U a∧U b),true)])
 | _=>none
theorem ZvW:ZJ 47 gSA:=by
 intro vals s v s' lg h hl w;unfold gSA at h;split at h
 ·cases h;obtain⟨h1,h2⟩:=Xc (hl _ Xf);exact Ziw _ _ _ h1 h2 w
 ·cases h
end Go.Proofs.YtekebccjflilnaaGreat
namespace Go.Proofs.YtekebccjflilnaaGreat
open Go.KRun Go.Wd Go.Pt Go.Rn
set_option maxRecDepth 100000
def nzW (x:W4):Bool:= !(x.a==0 && (x.b==0 && (x.c==0 && (x.d==0 && true))))
theorem ZvX {n:Int}(h0:0≤n) (h1:n<115792089237316195423570985008687907853269984665640564039457584007913129639936):nzW (W4.of n)=decide (n≠0):=by
 have ev:(W4.of n).val=n:=by rw[W4.val_of,Int.emod_eq_of_lt h0 h1]
 have ok:=W4.ok_of n;by_cases hz:n=0
 ·subst hz;rfl
 ·rw[Xa hz];unfold nzW;cases hc:((W4.of n).a==0 && ((W4.of n).b==0 && ((W4.of n).c==0 && ((W4.of n).d==0 && true))))
  ·rfl
  ·exfalso
   simp only[Xh,beq_iff_eq] at hc;obtain⟨e1,e2,e3,e4,_⟩:=hc;apply hz;rw[← ev];unfold W4.val;rw[e1,e2,e3,e4];rfl
theorem ZeL (p:Int):(wSg p).val=sg p:=by
 have h:=ZbK p;rw[W4.nat_val (ZaC p),ZaT];omega
theorem Zsf {u:Nat}(h:u≤199):(2:Int)^u≤803469022129495137770981046170581301261101496891396417650688:=by
 have h1:(2:Nat)^u≤2^199:=Nat.pow_le_pow_right (by omega) h;have h2:(2:Nat)^199=803469022129495137770981046170581301261101496891396417650688:=rfl;rw[h2] at h1;have:=ZaQ u;omega
theorem ZvY (p:Int) {u:Nat}(h0:1≤u) (h:u≤199):(Zac (wSg p) (u:Int)).ok∧(Zac (wSg p) (u:Int)).val=(((sg p).toNat*2^u:Nat):Int):=by
 have hs:=ZbK p;have hp:=Zsf h;have hq:(0:Int)<2^u:=by rw[ZaQ];exact_mod_cast Nat.pow_pos (by omega)
 have e:(wSg p).val*2^u=(((sg p).toNat*2^u:Nat):Int):=by
  rw[ZeL,Int.natCast_mul,← ZaQ,Int.toNat_of_nonneg hs.1]
 have hb:(((sg p).toNat*2^u:Nat):Int)<115792089237316195423570985008687907853269984665640564039457584007913129639936:=by
  rw[← e,ZeL];have:=Int.mul_le_mul (show sg p≤9007199254740991 by omega) hp (by omega) (by omega);omega
 unfold Zac;rw[if_neg (by omega),if_neg (by omega),Xg,e];exact⟨W4.ok_of _,by rw[W4.val_of,Int.emod_eq_of_lt (by omega) hb]⟩
theorem ZeM {p:Int}(h:cl p≤2):sg p=0↔cl p=0:=by
 have h3:=Zgk p;unfold sg cl at*;split at h
 ·rename_i h1;rw[if_pos h1];split<;>omega
 ·rename_i h1;split at h
  ·split at h
   ·omega
   ·split at h<;>omega
  ·rename_i h2;rw[if_neg h1,if_neg h2];omega
end Go.Proofs.YtekebccjflilnaaGreat
namespace Go.Proofs.YtekebccjflilnaaGreat
open Go.Proofs.Tryz
open Go.IntKind
open Go.KRun Go.Wd
def ZnL (z:Int):Int:=u64.wrap ((BitVec.ofInt 64 z &&& BitVec.ofInt 64 4294967295).toNat:Nat)
def Zhs (z:Int):Int:=z.fdiv (2^min ((32:Int).toNat) 64)
def l32:Bool×Bool:=(decide ((32:Int)<0),false)
theorem Zgv (z:Int):Zhs z=z/4294967296:=by
 unfold Zhs;rw[show (2:Int)^min ((32:Int).toNat) 64=4294967296 from rfl,Int.fdiv_eq_ediv_of_nonneg _ (by omega)]
theorem Zd3 {z:Int}(h0:0≤z) (h1:z<18446744073709551616):ZnL z=z % 4294967296:=by
 unfold ZnL;have e1:(BitVec.ofInt 64 z).toNat=z.toNat:=by
  rw[BitVec.toNat_ofInt];omega
 have e2:(BitVec.ofInt 64 4294967295).toNat=2^32-1:=by rfl
 rw[BitVec.toNat_and,e1,e2,Nat.and_two_pow_sub_one_eq_mod,ZK];omega
def mT (x y:Int):Int:=u64.wrap (u64.wrap (Zhs x*ZnL y)+Zhs (u64.wrap (ZnL x*ZnL y)))
def mW (x y:Int):Int:=u64.wrap (ZnL (mT x y)+u64.wrap (ZnL x*Zhs y))
def mH (x y:Int):Int:=u64.wrap (u64.wrap (u64.wrap (Zhs x*Zhs y)+Zhs (mT x y))+Zhs (mW x y))
def mL (x y:Int):Int:=u64.wrap (x*y)
abbrev u_ (n:Int):Value:= .int .u64 n
theorem Zix (x y:Int):Zw (Ze (Zi prog Zh Zo true) 3000 107 [u_ x,u_ y] []) (.tuple #[u_ (mH x y),u_ (mL x y)]) [l32,l32,l32,l32,l32]:=by and_intros<;>kernel_rfl
theorem ZkR (x y:Int) (hx:0≤x∧x<18446744073709551616) (hy:0≤y∧y<18446744073709551616):mH x y=x*y/18446744073709551616∧mL x y=x*y % 18446744073709551616:=by
 refine⟨?_,by unfold mL;rw[ZK]⟩;have x0:0≤x % 4294967296∧x % 4294967296<4294967296:=by omega
 have y0:0≤y % 4294967296∧y % 4294967296<4294967296:=by omega
 have x1:0≤x/4294967296∧x/4294967296<4294967296:=by omega
 have y1:0≤y/4294967296∧y/4294967296<4294967296:=by omega
 have bd:∀ p q:Int,(0≤p∧p<4294967296)→(0≤q∧q<4294967296)→0≤p*q∧p*q≤18446744065119617025:=fun p q hp hq=>by
  refine⟨Int.mul_nonneg hp.1 hq.1,?_⟩;have:=Int.mul_le_mul (show p≤4294967295 by omega) (show q≤4294967295 by omega) hq.1 (by omega);omega
 have ex:x*y=18446744073709551616*(x/4294967296*(y/4294967296))+4294967296*(x/4294967296*(y % 4294967296))+4294967296*(x % 4294967296*(y/4294967296))+x % 4294967296*(y % 4294967296):=by
  have h1:=Int.mul_ediv_add_emod x 4294967296;have h2:=Int.mul_ediv_add_emod y 4294967296;generalize x/4294967296=p at*;generalize x % 4294967296=q at*;generalize y/4294967296=r at*;generalize y % 4294967296=s at*;rw[← h1,← h2,Int.add_mul,Int.mul_add,Int.mul_add,Int.mul_assoc,Int.mul_left_comm p,Int.mul_left_comm q,Int.mul_assoc];omega
 have a1:=bd _ _ x0 y0;have a2:=bd _ _ x1 y0;have a3:=bd _ _ x0 y1;have a4:=bd _ _ x1 y1;unfold mH mW mT;simp only[Zgv,Zd3 hx.1 hx.2,Zd3 hy.1 hy.2];generalize x/4294967296*(y/4294967296)=d at*;generalize x/4294967296*(y % 4294967296)=b at*;generalize x % 4294967296*(y/4294967296)=c at*;generalize x % 4294967296*(y % 4294967296)=a at*;rw[ex];have w1:u64.wrap a=a:=ZN (by omega) (by omega);have w2:u64.wrap b=b:=ZN (by omega) (by omega);have w3:u64.wrap c=c:=ZN (by omega) (by omega);have w4:u64.wrap d=d:=ZN (by omega) (by omega);have w5:u64.wrap (b+a/4294967296)=b+a/4294967296:=ZN (by omega) (by omega);rw[w1,w2,w3,w4,w5,Zd3 (z:=b+a/4294967296) (by omega) (by omega)];rw[ZN (n:=(b+a/4294967296) % 4294967296+c) (by omega) (by omega),ZN (n:=d+(b+a/4294967296)/4294967296) (by omega) (by omega),ZN (by omega) (by omega)];omega
theorem Zbp:l32.1=l32.2:=rfl
abbrev zd (x:Int):Prop:=0≤x∧x<18446744073709551616
theorem Zgw (x y:Int) (hx:zd x) (hy:zd y) (w:World):Calls prog 107 #[u_ x,u_ y] w fun e w'=>e= .returned (.tuple #[u_ (x*y/18446744073709551616),u_ (x*y % 18446744073709551616)])∧zg w w':=by
 have h:=Zb (Zf Zd) (Zix x y) (Za Zbp (Za Zbp (Za Zbp (Za Zbp (Zz Zbp))))) (by rfl) (by rfl) w;obtain⟨e1,e2⟩:=ZkR x y hx hy;rw[e1,e2] at h;exact h
end Go.Proofs.YtekebccjflilnaaGreat
namespace Go.Proofs.YtekebccjflilnaaGreat
open Go.Proofs.Tryz
open Go.IntKind
open Go.KRun Go.Wd
set_option maxRecDepth 100000
def u1m:Value→Option Int
 | .int .u64 n=>some n
 | _=>none
theorem zE {v:Value}{n:Int}(h:u1m v=some n):v=u_ n:=by
 unfold u1m at h;split at h
 ·cases h;rfl
 ·cases h
def Z0a:Ans:=fun vals s=>
 match vals with
 | [x,y]=>
  match u1m x,u1m y with
  | some a,some b=>some (.tuple #[u_ (a*b/18446744073709551616),u_ (a*b % 18446744073709551616)],s,[(decide (zd a∧zd b),true)])
  | _,_=>none
 | _=>none
theorem Zsg:ZJ 107 Z0a:=by
 intro vals s v s' lg h hl w;unfold Z0a at h;split at h
 ·split at h
  ·rename_i a b ha hb;cases h;have h1:=hl _ Xf;simp only[Xi] at h1;rw[zE ha,zE hb];exact Zgw a b h1.1 h1.2 w
  ·cases h
 ·cases h
def Z21:Con:=alt 107 Z0a Zo
theorem Zsh:ConOk Z21:=Zy func107 rfl Zsg Zd
def pL (x y m:Int):Int:=Wd.ad (x*y % 18446744073709551616) m 0
def oA (x y c:Int):Bool×Bool:=(decide (0≤x∧0≤y∧0≤c∧c≤1),true)
theorem Zsi (x y m c:Int):Zw (Ze (Zi prog Zh Z21 true) 3000 99 [u_ x,u_ y,u_ m,u_ c] [])
  (.tuple #[u_ (Wd.ad (pL x y m) c 0),u_ (u64.wrap (u64.wrap (x*y/18446744073709551616+ca (x*y % 18446744073709551616) m 0)+ca (pL x y m) c 0))])
  [oA (pL x y m) c 0,oA (x*y % 18446744073709551616) m 0,(decide (zd x∧zd y),true)]:=by and_intros<;>kernel_rfl
theorem Zht {x y:Int}(hx:zd x) (hy:zd y):0≤x*y∧x*y≤340282366920938463426481119284349108225:=by
 refine⟨Int.mul_nonneg hx.1 hy.1,?_⟩;have:=Int.mul_le_mul (show x≤18446744073709551615 by omega) (show y≤18446744073709551615 by omega) hy.1 (by omega);omega
theorem ZnM (x y m c:Int) (hx:zd x) (hy:zd y) (hm:zd m) (hc:zd c) (w:World):Calls prog 99 #[u_ x,u_ y,u_ m,u_ c] w fun e w'=>
  e= .returned (.tuple #[u_ ((x*y+m+c) % 18446744073709551616),u_ ((x*y+m+c)/18446744073709551616)])∧zg w w':=by
 have bd:=Zht hx hy;have h:=Zb (Zf Zsh) (Zsi x y m c) (Za (Xa (by unfold pL Wd.ad;omega)) (Za (Xa (by omega)) (Zz (Xa ⟨hx,hy⟩)))) (by rfl) (by rfl) w;have e1:Wd.ad (pL x y m) c 0=(x*y+m+c) % 18446744073709551616:=by unfold pL Wd.ad;omega
 have e2:u64.wrap (u64.wrap (x*y/18446744073709551616+ca (x*y % 18446744073709551616) m 0)+ca (pL x y m) c 0)=(x*y+m+c)/18446744073709551616:=by
  unfold pL ca Wd.ad;rw[ZK,ZK];omega
 rw[e1,e2] at h;exact h
def gMA:Ans:=fun vals s=>
 match vals with
 | [x,y,m,c]=>
  match u1m x,u1m y,u1m m,u1m c with
  | some x,some y,some m,some c=>some (.tuple #[u_ ((x*y+m+c) % 18446744073709551616),u_ ((x*y+m+c)/18446744073709551616)],s,[(decide (zd x∧zd y∧zd m∧zd c),true)])
  | _,_,_,_=>none
 | _=>none
theorem Zqf:ZJ 99 gMA:=by
 intro vals s v s' lg h hl w;unfold gMA at h;split at h
 ·split at h
  ·rename_i x y m c hx hy hm hc;cases h;have h1:=hl _ Xf;simp only[Xi] at h1;rw[zE hx,zE hy,zE hm,zE hc];exact ZnM _ _ _ _ h1.1 h1.2.1 h1.2.2.1 h1.2.2.2 w
  ·cases h
 ·cases h
def ZvZ:Con:=alt 99 gMA Zo
theorem ZnN:ConOk ZvZ:=Zy func99 rfl Zqf Zd
def lo (x y z c:Int):Int:=(x*y+z+c) % 18446744073709551616
def hi (x y z c:Int):Int:=(x*y+z+c)/18446744073709551616
def Zm8 (x:Int):List Int→List Int→Int→List Int
 | y::ys,z::zs,c=>lo x y z c::Zm8 x ys zs (hi x y z c)
 | _,_,c=>[c]
def jl (j:Int):Bool×Bool:=(decide (j<4),true)
def je:Bool×Bool:=(decide ((4:Int)<4),false)
def wl (x y z c:Int):Bool×Bool:=(decide (zd x∧zd y∧zd z∧zd c),true)
def Z0b (x:Int):List Int→List Int→Int→Int→Log→Log
 | y::ys,z::zs,c,j,L=>Z0b x ys zs (hi x y z c) (j+1) (wl x y z c::jl j::L)
 | _,_,_,_,L=>je::L
def ZbY (d:Bool) (x:Int) (ys zs:List Int):List Int:=
 match d with
 | true=>zs++[0]
 | false=>Zm8 x ys zs 0
def Zu2 (d:Bool) (i x:Int) (ys zs:List Int) (L:Log):Log:=
 match d with
 | true=>(x==0,true)::jl i::L
 | false=>Z0b x ys zs 0 0 ((x==0,false)::jl i::L)
def Zjk (y:W4):List Int:=[y.a,y.b,y.c,y.d]
def r0 (d:Bool) (x y:W4):List Int:=ZbY d x.a (Zjk y) [0,0,0,0]
def r1 (d e:Bool) (x y:W4):List Int:=ZbY e x.b (Zjk y) (r0 d x y).tail
def r2 (d e f:Bool) (x y:W4):List Int:=ZbY f x.c (Zjk y) (r1 d e x y).tail
def r3 (d e f g:Bool) (x y:W4):List Int:=ZbY g x.d (Zjk y) (r2 d e f x y).tail
def hd (l:List Int):Int:=l.headD 0
def w4T (l:List Int):W4:=⟨l.getD 0 0,l.getD 1 0,l.getD 2 0,l.getD 3 0⟩
def Zqg (d e f g:Bool) (x y:W4):Log:=je::Zu2 g 3 x.d (Zjk y) (r2 d e f x y).tail (Zu2 f 2 x.c (Zjk y) (r1 d e x y).tail (Zu2 e 1 x.b (Zjk y) (r0 d x y).tail (Zu2 d 0 x.a (Zjk y) [0,0,0,0] [])))
def scr (d:Bool) (s:List Dec):List Dec:=
 match d with
 | true=>cmp true::cmp true::s
 | false=>cmp true::cmp false::cmp true::cmp true::cmp true::cmp true::cmp false::s
def Z0c (d e f g:Bool) (x y:W4):Value:= .tuple #[vW ⟨hd (r0 d x y),hd (r1 d e x y),hd (r2 d e f x y),hd (r3 d e f g x y)⟩,vW (w4T (r3 d e f g x y).tail)]
theorem ZnO (x y:W4) (d e f g:Bool):Zw (Ze (Zi prog Zh ZvZ true) 3000 63 [vW x,vW y] (scr d (scr e (scr f (scr g [cmp false]))))) (Z0c d e f g x y) (Zqg d e f g x y):=by
 cases d<;>cases e<;>cases f<;>cases g<;>exact by and_intros<;>kernel_rfl
end Go.Proofs.YtekebccjflilnaaGreat
namespace Go.Proofs.YtekebccjflilnaaGreat
open Go.Proofs.Tryz
open Go.KRun Go.Wd
set_option maxRecDepth 100000
def vB:List Int→Int
 | []=>0
 | d::ds=>d+18446744073709551616*vB ds
def ZT (l:List Int):Prop:=∀ d∈l,zd d
theorem Z22 {x y z c:Int}(hx:zd x) (hy:zd y) (hz:zd z) (hc:zd c):zd (lo x y z c)∧zd (hi x y z c)∧lo x y z c+18446744073709551616*hi x y z c=x*y+z+c:=by
 have bd:=Zht hx hy;unfold lo hi zd at*;generalize x*y=p at*;omega
theorem Zhu {x:Int}(hx:zd x):∀ (ys zs:List Int) (c j:Int) (L:Log),ZT ys→ZT zs→zd c→ys.length=zs.length→0≤j→j+ys.length≤4→Zx L→
  ZT (Zm8 x ys zs c)∧(Zm8 x ys zs c).length=ys.length+1∧vB (Zm8 x ys zs c)=vB zs+x*vB ys+c∧Zx (Z0b x ys zs c j L)
 | [],[],c,j,L,_,_,hc,_,_,_,hL=>by
  refine⟨fun d hd=> ?_,rfl,by simp [Zm8,vB],Za (by rfl) hL⟩;simp only[Zm8,List.mem_singleton] at hd;rw[hd];exact hc
 | y::ys,z::zs,c,j,L,hy,hz,hc,hl,h0,hj,hL=>by
  have y1:=hy y Xe;have z1:=hz z Xe;obtain⟨e1,e2,e3⟩:=Z22 hx y1 z1 hc;simp only[List.length_cons] at hl hj;obtain⟨g1,g2,g3,g4⟩:=Zhu hx ys zs (hi x y z c) (j+1) (wl x y z c::jl j::L) (fun d hd=>hy d (Xd _ hd)) (fun d hd=>hz d (Xd _ hd)) e2 (by omega) (by omega) (by omega)
   (Za (Xa ⟨hx,y1,z1,hc⟩) (Za (Xa (by omega:j<4)) hL))
  refine⟨fun d hd=> ?_,by simp only[Zm8,List.length_cons,g2],?_,g4⟩
  ·simp only[Zm8] at hd;rcases List.mem_cons.1 hd with rfl | hd
   ·exact e1
   ·exact g1 d hd
  ·simp only[Zm8,vB];rw[g3];have:x*(y+18446744073709551616*vB ys)=x*y+18446744073709551616*(x*vB ys):=by rw[Int.mul_add,Int.mul_left_comm]
   rw[this];generalize x*vB ys=q at*;generalize x*y=p at*;omega
 | [],_::_,_,_,_,_,_,_,hl,_,_,_=>by simp at hl
 | _::_,[],_,_,_,_,_,_,hl,_,_,_=>by simp at hl
theorem Zhv:∀ l:List Int,vB (l++[0])=vB l
 | []=>rfl
 | d::ds=>by simp only[List.cons_append,vB,Zhv ds]
theorem Zb3 {x i:Int}(hx:zd x) (hi:i<4) {ys zs:List Int}(hy:ZT ys) (hz:ZT zs) (ly:ys.length=4) (lz:zs.length=4) {L:Log}(hL:Zx L):
  ∃ h t,ZbY (x==0) x ys zs=h::t∧zd h∧ZT t∧t.length=4∧h+18446744073709551616*vB t=vB zs+x*vB ys∧Zx (Zu2 (x==0) i x ys zs L):=by
 have key:ZT (ZbY (x==0) x ys zs)∧(ZbY (x==0) x ys zs).length=5∧vB (ZbY (x==0) x ys zs)=vB zs+x*vB ys∧Zx (Zu2 (x==0) i x ys zs L):=by
  have ji:(jl i).1=(jl i).2:=Xa hi;by_cases h:x=0
  ·have hb:(x==0)=true:=beq_iff_eq.2 h;rw[hb];refine⟨fun d hd=> ?_,by simp [ZbY,lz],?_,Za hb (Za ji hL)⟩
   ·simp only[ZbY] at hd;rcases List.mem_append.1 hd with hd | hd
    ·exact hz d hd
    ·rw[List.mem_singleton.1 hd];unfold zd;omega
   ·simp only[ZbY,Zhv];rw[h];omega
  ·have hb:(x==0)=false:=beq_eq_false_iff_ne.2 h;rw[hb];obtain⟨g1,g2,g3,g4⟩:=Zhu hx ys zs 0 0 ((x==0,false)::jl i::L) hy hz (by unfold zd;omega) (by omega) (by omega) (by omega) (Za hb (Za ji hL));exact⟨g1,by simp only[ZbY];omega,by simp only[ZbY];omega,g4⟩
 obtain⟨k1,k2,k3,k4⟩:=key
 match hr:ZbY (x==0) x ys zs,k1,k2,k3 with
 | h::t,k1,k2,k3=>
  exact⟨h,t,rfl,k1 h Xe,fun d hd=>k1 d (Xd _ hd),by simpa using k2,k3,k4⟩
def ZnP (x y:W4):Value:= .tuple #[vW (W4.of (x.val*y.val)),vW (W4.of (x.val*y.val/115792089237316195423570985008687907853269984665640564039457584007913129639936))]
theorem ZnQ (y:W4):vB (Zjk y)=y.val:=by unfold Zjk W4.val;simp only[vB];omega
theorem ZkS (x y:W4) (hx:x.ok) (hy:y.ok) (w:World):Calls prog 63 #[vW x,vW y] w fun e w'=>e= .returned (ZnP x y)∧zg w w':=by
 obtain⟨x0,x1,x2,x3⟩:=hx;have wy:ZT (Zjk y):=fun d hd=>by
  obtain⟨y0,y1,y2,y3⟩:=hy;unfold Zjk at hd;simp only[List.mem_cons,List.not_mem_nil,or_false] at hd;rcases hd with rfl | rfl | rfl | rfl
  ·exact y0
  ·exact y1
  ·exact y2
  ·exact y3
 have wz:ZT [0,0,0,0]:=fun d hd=>by
  simp only[List.mem_cons,List.not_mem_nil,or_false,or_self] at hd;rw[hd];unfold zd;omega
 obtain⟨h0,t0,e0,a0,b0,l0,v0,g0⟩:=Zb3 (x:=x.a) (i:=0) x0 (by omega) wy wz rfl rfl Zne;obtain⟨h1,t1,e1,a1,b1,l1,v1,g1⟩:=Zb3 (x:=x.b) (i:=1) x1 (by omega) wy b0 rfl l0 g0;obtain⟨h2,t2,e2,a2,b2,l2,v2,g2⟩:=Zb3 (x:=x.c) (i:=2) x2 (by omega) wy b1 rfl l1 g1;obtain⟨h3,t3,e3,a3,b3,l3,v3,g3⟩:=Zb3 (x:=x.d) (i:=3) x3 (by omega) wy b2 rfl l2 g2;have E0:r0 (x.a==0) x y=h0::t0:=e0;have E1:r1 (x.a==0) (x.b==0) x y=h1::t1:=by unfold r1;rw[E0];exact e1
 have E2:r2 (x.a==0) (x.b==0) (x.c==0) x y=h2::t2:=by unfold r2;rw[E1];exact e2
 have E3:r3 (x.a==0) (x.b==0) (x.c==0) (x.d==0) x y=h3::t3:=by unfold r3;rw[E2];exact e3
 have h:=Zb (Zf ZnN) (ZnO x y (x.a==0) (x.b==0) (x.c==0) (x.d==0)) (by
  unfold Zqg;rw[E0,E1,E2];exact Za (by rfl) g3) (by rfl) (by rfl) w
 have hv:Z0c (x.a==0) (x.b==0) (x.c==0) (x.d==0) x y=ZnP x y:=by
  unfold Z0c ZnP;rw[E0,E1,E2,E3]
  match t3,l3,b3,v3 with
  | [q0,q1,q2,q3],_,b3,v3=>
   simp only[hd,List.headD_cons,List.tail_cons,w4T,List.getD_cons_zero,List.getD_cons_succ];have ok1:(⟨h0,h1,h2,h3⟩:W4).ok:=⟨a0,a1,a2,a3⟩;have ok2:(⟨q0,q1,q2,q3⟩:W4).ok:=⟨b3 q0 (by simp),b3 q1 (by simp),b3 q2 (by simp),b3 q3 (by simp)⟩;have key:x.val*y.val=(⟨h0,h1,h2,h3⟩:W4).val+115792089237316195423570985008687907853269984665640564039457584007913129639936*(⟨q0,q1,q2,q3⟩:W4).val:=by
    rw[ZnQ] at v0 v1 v2 v3;rw[ZaP x y.val];generalize x.a*y.val=p0 at*;generalize x.b*y.val=p1 at*;generalize x.c*y.val=p2 at*;generalize x.d*y.val=p3 at*;simp only[vB] at v0 v1 v2 v3;unfold W4.val;dsimp only;omega
   have bd1:=W4.val_bd ok1;have eL:W4.of (x.val*y.val)=⟨h0,h1,h2,h3⟩:=W4.of_eq ok1 key;have eH:x.val*y.val/115792089237316195423570985008687907853269984665640564039457584007913129639936=(⟨q0,q1,q2,q3⟩:W4).val:=by rw[key];omega
   rw[eL,eH,W4.of_val ok2]
 rw[hv] at h;exact h
end Go.Proofs.YtekebccjflilnaaGreat
namespace Go.Rn
open Go.Nt Go.Wd Go.Pt
def prN (a b:Int):Bool:=sgn a !=sgn b
def prV (a b:Int):Nat:=(sg a).toNat*(sg b).toNat
def prE (a b:Int):Int:=xp a+xp b
theorem ZbB (a b:Int): -2148≤prE a b∧prE a b≤1944:=by
 have h1:=ZbJ a;have h2:=ZbJ b;unfold prE;omega
theorem Zhw (a b:Int):prV a b<81129638414606681695789005144064:=by
 have h1:=ZbK a;have h2:=ZbK b;have:=Nat.mul_le_mul (show (sg a).toNat≤9007199254740991 by omega) (show (sg b).toNat≤9007199254740991 by omega);unfold prV;omega
theorem Zhx (a b:Int):May (prE a b) (prV a b):=by
 have h1:=ZbB a b;have h2:=Zhw a b;refine⟨?_,by omega,by omega⟩;have:(2:Nat)^128=340282366920938463463374607431768211456:=rfl;omega
def mlP (m a b:Int):Int:=rnP m (prN a b) (prV a b) (prE a b)
def mlF (m a b:Int):Int:=rnF m (prN a b) (prV a b) (prE a b)
theorem Z0d (m a b:Int):0≤mlP m a b∧mlP m a b≤9218868437227405312:=Zvk _ _ _ _
def fsI (a b c:Int):Int:=smI (-2148) (prN a b) (prE a b) (prV a b) (sgn c) (xp c) (sg c).toNat
def fsN (m a b c:Int):Bool:=sgS m (prN a b) (sgn c) (fsI a b c)
def fsP (m a b c:Int):Int:=rnP m (fsN m a b c) (fsI a b c).natAbs (-2148)
def fsF (m a b c:Int):Int:=rnF m (fsN m a b c) (fsI a b c).natAbs (-2148)
end Go.Rn
namespace Go.Proofs.YtekebccjflilnaaGreat
open Go.Proofs.Tryz
open Go.IntKind
open Go.KRun Go.Wd Go.Pt Go.Rn
set_option maxRecDepth 100000
def ZeN:Con:=alt 63 (g2 (Zdo ZnP)) (alt 47 gSA Zcz)
theorem Za1:ConOk ZeN:=Zy func63 rfl (Zbk ZkS) (Zy func47 rfl ZvW zD)
def zh (a b:Int):Bool:=decide ((cl a=0∧cl b=3)∨(cl a=3∧cl b=0))
theorem Z0e (a b:Int):Zw (Ze (Zi prog Zh ZeN true) 300 22 [.int .u64 a,.int .u64 b] [cmp true,cmp true]) (.bool true) [(cl b==3,true),lU b,(cl a==0,true),lU a]:=by and_intros<;>kernel_rfl
theorem Zwa (a b:Int):Zw (Ze (Zi prog Zh ZeN true) 300 22 [.int .u64 a,.int .u64 b] [cmp true,cmp false,cmp false]) (.bool false) [(cl a==3,false),lU a,(cl b==3,false),lU b,(cl a==0,true),lU a]:=by and_intros<;>kernel_rfl
theorem Z0f (a b:Int):Zw (Ze (Zi prog Zh ZeN true) 300 22 [.int .u64 a,.int .u64 b] [cmp false,cmp false]) (.bool false) [(cl a==3,false),lU a,(cl a==0,false),lU a]:=by and_intros<;>kernel_rfl
theorem Zwb (a b:Int):Zw (Ze (Zi prog Zh ZeN true) 300 22 [.int .u64 a,.int .u64 b] [cmp false,cmp true,cmp true]) (.bool true) [(cl b==0,true),lU b,(cl a==3,true),lU a,(cl a==0,false),lU a]:=by and_intros<;>kernel_rfl
theorem Zwc (a b:Int):Zw (Ze (Zi prog Zh ZeN true) 300 22 [.int .u64 a,.int .u64 b] [cmp false,cmp true,cmp false]) (.bool false) [(cl b==0,false),lU b,(cl a==3,true),lU a,(cl a==0,false),lU a]:=by and_intros<;>kernel_rfl
theorem ZnR (a b:Int) (ha:U a) (hb:U b) (w:World):Calls prog 22 #[.int .u64 a,.int .u64 b] w fun r w'=>r= .returned (.bool (zh a b))∧zg w w':=by
 have hv:([.int .u64 a,.int .u64 b].all (lt 0))=true:=rfl;have ka:decide (U a)=true:=Xa ha;have kb:decide (U b)=true:=Xa hb;by_cases h0:cl a=0
 ·by_cases h3:cl b=3
  ·rw[show zh a b=true from Xa (.inl ⟨h0,h3⟩)];exact Zb (Zf Za1) (Z0e a b) (Za (Z1 h3) (Za kb (Za (Z1 h0) (Zz ka)))) hv (by rfl) w
  ·rw[show zh a b=false from Xb (by omega)];exact Zb (Zf Za1) (Zwa a b) (Za (Zq (by omega)) (Za ka (Za (Zq h3) (Za kb (Za (Z1 h0) (Zz ka)))))) hv (by rfl) w
 ·by_cases h3:cl a=3
  ·by_cases hz:cl b=0
   ·rw[show zh a b=true from Xa (.inr ⟨h3,hz⟩)];exact Zb (Zf Za1) (Zwb a b) (Za (Z1 hz) (Za kb (Za (Z1 h3) (Za ka (Za (Zq h0) (Zz ka)))))) hv (by rfl) w
   ·rw[show zh a b=false from Xb (by omega)];exact Zb (Zf Za1) (Zwc a b) (Za (Zq hz) (Za kb (Za (Z1 h3) (Za ka (Za (Zq h0) (Zz ka)))))) hv (by rfl) w
  ·rw[show zh a b=false from Xb (by omega)];exact Zb (Zf Za1) (Z0f a b) (Za (Zq h3) (Za ka (Za (Zq h0) (Zz ka)))) hv (by rfl) w
theorem ZkT {a b:Int}(ha:U a) (hb:U b):U (Zf1 a b)∧Zf0 (Zf1 a b) 9223372036854775808=if prN a b=true then 9223372036854775808 else 0:=by
 obtain⟨A,rfl⟩:=Int.eq_ofNat_of_zero_le ha.1;obtain⟨B,rfl⟩:=Int.eq_ofNat_of_zero_le hb.1;have h1:A<2^64:=by have:=ha.2;omega
 have h2:B<2^64:=by have:=hb.2;omega
 have hx:A ^^^ B<2^64:=Nat.xor_lt_two_pow h1 h2;have e:Zf1 (A:Int) (B:Int)=((A ^^^ B:Nat):Int):=by
  unfold Zf1;rw[Zkj,BitVec.toNat_xor,ofU (by omega),ofU (by omega)]
 have hU:U (Zf1 (A:Int) (B:Int)):=by rw[e];exact⟨by omega,by omega⟩
 refine⟨hU,?_⟩;rw[Zf3 hU,e];have hd:(A ^^^ B)/2^63=A/2^63 ^^^ B/2^63:=Nat.xor_div_two_pow;have a1:A/2^63<2:=by omega
 have b1:B/2^63<2:=by omega
 have hA:sgn (A:Int)=decide (A/2^63=1):=by
  unfold sgn;by_cases h:A/2^63=1
  ·rw[Xa h];exact Xa (by omega)
  ·rw[Xb h];exact Xb (by omega)
 have hB:sgn (B:Int)=decide (B/2^63=1):=by
  unfold sgn;by_cases h:B/2^63=1
  ·rw[Xa h];exact Xa (by omega)
  ·rw[Xb h];exact Xb (by omega)
 have e2:((A ^^^ B:Nat):Int)/9223372036854775808=((A/2^63 ^^^ B/2^63:Nat):Int):=by rw[← hd];omega
 rw[e2];unfold prN;rw[hA,hB];generalize A/2^63=x at*;generalize B/2^63=y at*;have hx:x=0∨x=1:=by omega
 have hy:y=0∨y=1:=by omega
 rcases hx with rfl | rfl<;>rcases hy with rfl | rfl<;>decide
def inf:Int:=9218868437227405312
theorem Zsj (a b:Int):Zw (Ze (Zi prog Zh ZeN true) 300 26 [.int .u64 a,.int .u64 b] []) (.int .u64 (bOr (Zm7 9218868437227405312 9223372036854775808) (Zf0 (Zf1 a b) 9223372036854775808))) []:=by and_intros<;>kernel_rfl
theorem Zwd {a b:Int}(ha:U a) (hb:U b):bOr (Zm7 9218868437227405312 9223372036854775808) (Zf0 (Zf1 a b) 9223372036854775808)=sS (prN a b) inf:=by
 rw[(ZkT ha hb).2];cases prN a b<;>decide
theorem ZnS (a b:Int) (ha:U a) (hb:U b) (w:World):Calls prog 26 #[.int .u64 a,.int .u64 b] w fun r w'=>r= .returned (.int .u64 (sS (prN a b) inf))∧zg w w':=by
 have:=Zb (Zf Za1) (Zsj a b) (fun x hx=>by cases hx) (by rfl) (by rfl) w;rw[Zwd ha hb] at this;exact this
theorem Zsk (a b:Int):Zw (Ze (Zi prog Zh ZeN true) 300 28 [.int .u64 a,.int .u64 b] [cmp true,cmp true]) (vN (prN a b) (i64.wrap (xp a+xp b)) (W4.of ((wSg a).val*(wSg b).val)) false) [(decide ((wSg a).ok∧(wSg b).ok),true),lU b,(decide (cl b≤2),true),lU b,lU a,(decide (cl a≤2),true),lU a]:=by and_intros<;>kernel_rfl
def vPx (a b:Int):Value:=vN (prN a b) (prE a b) (ofN (prV a b)) false
def Zwe (a b:Int):Bool:=decide (cl a≤2∧cl b≤2)
theorem ZnT (a b:Int) (ha:U a) (hb:U b) (h:Zwe a b=true) (w:World):Calls prog 28 #[.int .u64 a,.int .u64 b] w fun r w'=>r= .returned (vPx a b)∧zg w w':=by
 obtain⟨ca,cb⟩:=Xc h;have ka:decide (U a)=true:=Xa ha;have kb:decide (U b)=true:=Xa hb;have hE:=ZbB a b;have e1:i64.wrap (xp a+xp b)=prE a b:=ZY ⟨by unfold prE at hE;omega,by unfold prE at hE;omega⟩;have e2:W4.of ((wSg a).val*(wSg b).val)=ofN (prV a b):=by
  unfold ofN prV;rw[W4.nat_val (ZaC a),W4.nat_val (ZaC b),ZaT,ZaT,Int.natCast_mul]
 have:=Zb (Zf Za1) (Zsk a b) (Za (Xa ⟨ZaC a,ZaC b⟩) (Za kb (Za (Xa cb) (Za kb (Za ka (Za (Xa ca) (Zz ka))))))) (by rfl) (by rfl) w;rw[e1,e2] at this;exact this
def Zaq:Con:=alt 22 (ZyT zh) (alt 26 (gUU (fun a b=> .int .u64 (sS (prN a b) inf)) (fun _ _=>true)) (alt 28 (gUU vPx Zwe) ZeN))
theorem Zhy:ConOk Zaq:=Zy func22 rfl (ZkM ZnR) (Zy func26 rfl (ZkN fun a b ha hb _ w=>ZnS a b ha hb w) (Zy func28 rfl (ZkN ZnT) Za1))
theorem Zwf (a b m:Int):Zw (Ze (Zi prog Zh Zaq true) 300 14 [.int .u64 a,.int .u64 b,.int .i64 m] [cmp true]) (rdT 9221120237041090560 1) [(zh a b,true),(decide (U a∧U b),true)]:=by and_intros<;>kernel_rfl
theorem Z0g (a b m:Int):Zw (Ze (Zi prog Zh Zaq true) 300 14 [.int .u64 a,.int .u64 b,.int .i64 m] [cmp false,cmp true,cmp true,cmp true]) (rdT 9221120237041090560 1) [(cl a==5,true),lU a,(decide ((0:Int)<((2:Nat):Int)),true),(decide (cl a>3),true),lU a,(zh a b,false),(decide (U a∧U b),true)]:=by and_intros<;>kernel_rfl
theorem Z0h (a b m:Int):Zw (Ze (Zi prog Zh Zaq true) 300 14 [.int .u64 a,.int .u64 b,.int .i64 m] [cmp false,cmp true,cmp true,cmp false,cmp true,cmp true]) (rdT 9221120237041090560 1) [(cl b==5,true),lU b,(decide (i64.wrap (0+1)<((2:Nat):Int)),true),(cl a==5,false),lU a,(decide ((0:Int)<((2:Nat):Int)),true),(decide (cl a>3),true),lU a,(zh a b,false),(decide (U a∧U b),true)]:=by and_intros<;>kernel_rfl
theorem Z0i (a b m:Int):Zw (Ze (Zi prog Zh Zaq true) 300 14 [.int .u64 a,.int .u64 b,.int .i64 m] [cmp false,cmp true,cmp true,cmp false,cmp true,cmp false,cmp false]) (rdT 9221120237041090560 0) [(decide (i64.wrap (i64.wrap (0+1)+1)<((2:Nat):Int)),false),(cl b==5,false),lU b,(decide (i64.wrap (0+1)<((2:Nat):Int)),true),(cl a==5,false),lU a,(decide ((0:Int)<((2:Nat):Int)),true),(decide (cl a>3),true),lU a,(zh a b,false),(decide (U a∧U b),true)]:=by and_intros<;>kernel_rfl
theorem Z0j (a b m:Int):Zw (Ze (Zi prog Zh Zaq true) 300 14 [.int .u64 a,.int .u64 b,.int .i64 m] [cmp false,cmp false,cmp true,cmp true,cmp false,cmp true,cmp true]) (rdT 9221120237041090560 1) [(cl b==5,true),lU b,(decide (i64.wrap (0+1)<((2:Nat):Int)),true),(cl a==5,false),lU a,(decide ((0:Int)<((2:Nat):Int)),true),(decide (cl b>3),true),lU b,(decide (cl a>3),false),lU a,(zh a b,false),(decide (U a∧U b),true)]:=by and_intros<;>kernel_rfl
theorem Z0k (a b m:Int):Zw (Ze (Zi prog Zh Zaq true) 300 14 [.int .u64 a,.int .u64 b,.int .i64 m] [cmp false,cmp false,cmp true,cmp true,cmp false,cmp true,cmp false,cmp false]) (rdT 9221120237041090560 0) [(decide (i64.wrap (i64.wrap (0+1)+1)<((2:Nat):Int)),false),(cl b==5,false),lU b,(decide (i64.wrap (0+1)<((2:Nat):Int)),true),(cl a==5,false),lU a,(decide ((0:Int)<((2:Nat):Int)),true),(decide (cl b>3),true),lU b,(decide (cl a>3),false),lU a,(zh a b,false),(decide (U a∧U b),true)]:=by and_intros<;>kernel_rfl
theorem Z0l (a b m:Int):Zw (Ze (Zi prog Zh Zaq true) 300 14 [.int .u64 a,.int .u64 b,.int .i64 m] [cmp false,cmp false,cmp false,cmp true]) (rdT (sS (prN a b) inf) 0) [(true,true),(decide (U a∧U b),true),(cl a==3,true),lU a,(decide (cl b>3),false),lU b,(decide (cl a>3),false),lU a,(zh a b,false),(decide (U a∧U b),true)]:=by and_intros<;>kernel_rfl
theorem Z0m (a b m:Int):Zw (Ze (Zi prog Zh Zaq true) 300 14 [.int .u64 a,.int .u64 b,.int .i64 m] [cmp false,cmp false,cmp false,cmp false,cmp true]) (rdT (sS (prN a b) inf) 0) [(true,true),(decide (U a∧U b),true),(cl b==3,true),lU b,(cl a==3,false),lU a,(decide (cl b>3),false),lU b,(decide (cl a>3),false),lU a,(zh a b,false),(decide (U a∧U b),true)]:=by and_intros<;>kernel_rfl
theorem Zwg (a b m:Int):Zw (Ze (Zi prog Zh Zaq true) 300 14 [.int .u64 a,.int .u64 b,.int .i64 m] [cmp false,cmp false,cmp false,cmp false,cmp false]) (rdV m (prN a b) (tw (ofN (prV a b)) false) (clp (prE a b)-1)) [(decide (ofN (prV a b)).ok,true),(Zwe a b,true),(decide (U a∧U b),true),(cl b==3,false),lU b,(cl a==3,false),lU a,(decide (cl b>3),false),lU b,(decide (cl a>3),false),lU a,(zh a b,false),(decide (U a∧U b),true)]:=by and_intros<;>kernel_rfl
def muP (m a b:Int):Int:=if zh a b=true then 9221120237041090560 else if 3<cl a∨3<cl b then 9221120237041090560 else if cl a=3∨cl b=3 then sS (prN a b) inf else sS (prN a b) (mlP m a b)
def muF (m a b:Int):Int:=if zh a b=true then 1 else if 3<cl a∨3<cl b then (if cl a=5∨cl b=5 then 1 else 0) else if cl a=3∨cl b=3 then 0 else mlF m a b
theorem Zgx (a b:Int):prV a b<2^256:=by
 have:=Zhw a b;exact Nat.lt_trans this (by decide)
theorem ZnU (m a b:Int):rdV m (prN a b) (tw (ofN (prV a b)) false) (clp (prE a b)-1)=rdT (sS (prN a b) (mlP m a b)) (mlF m a b):=by
 obtain⟨c1,c2⟩:=Zd2 m (prN a b) (ZZ (prV a b)) false (prE a b);have e:=Zse (Zgx a b) false;have e2:2*prV a b+bN false=prV a b*2^1:=by show 2*prV a b+0=_;omega
 have p:=ZaA m (prN a b) (prV a b) 1 (prE a b);have q:=ZaB m (prN a b) (prV a b) 1 (prE a b);have e3:prE a b-((1:Nat):Int)=prE a b-1:=rfl;rw[e3] at p q;unfold rdV mlP mlF;rw[c1,c2,e,e2,p,q]
theorem Ziy (a b m:Int) (ha:U a) (hb:U b) (w:World):Calls prog 14 #[.int .u64 a,.int .u64 b,.int .i64 m] w fun r w'=>r= .returned (rdT (muP m a b) (muF m a b))∧zg w w':=by
 have hv:([.int .u64 a,.int .u64 b,.int .i64 m].all (lt 0))=true:=rfl;have T:=Zf Zhy;have ka:decide (U a)=true:=Xa ha;have kb:decide (U b)=true:=Xa hb;have kab:decide (U a∧U b)=true:=Xa ⟨ha,hb⟩;have ba:=Zd0 a;have bb:=Zd0 b;unfold muP muF;by_cases hbd:zh a b=true
 ·rw[if_pos hbd,if_pos hbd];exact Zb T (Zwf a b m) (Za hbd (Zz kab)) hv (by rfl) w
 ·have hb0:zh a b=false:=by simpa using hbd
  rw[if_neg hbd,if_neg hbd];by_cases ha3:3<cl a
  ·rw[if_pos (.inl ha3),if_pos (.inl ha3)];by_cases a5:cl a=5
   ·rw[if_pos (.inl a5)];exact Zb T (Z0g a b m) (Za (Z1 a5) (Za ka (Za (by decide) (Za (Xa ha3) (Za ka (Za hb0 (Zz kab))))))) hv (by rfl) w
   ·by_cases b5:cl b=5
    ·rw[if_pos (.inr b5)];exact Zb T (Z0h a b m) (Za (Z1 b5) (Za kb (Za (by decide) (Za (Zq (by omega)) (Za ka (Za (by decide) (Za (Xa ha3) (Za ka (Za hb0 (Zz kab)))))))))) hv (by rfl) w
    ·rw[if_neg (by omega)];exact Zb T (Z0i a b m) (Za (by decide) (Za (Zq (by omega)) (Za kb (Za (by decide) (Za (Zq (by omega)) (Za ka (Za (by decide) (Za (Xa ha3) (Za ka (Za hb0 (Zz kab))))))))))) hv (by rfl) w
  ·by_cases hb3:3<cl b
   ·rw[if_pos (.inr hb3),if_pos (.inr hb3)];by_cases b5:cl b=5
    ·rw[if_pos (.inr b5)];exact Zb T (Z0j a b m) (Za (Z1 b5) (Za kb (Za (by decide) (Za (Zq (by omega)) (Za ka (Za (by decide) (Za (Xa hb3) (Za kb (Za (Xb ha3) (Za ka (Za hb0 (Zz kab)))))))))))) hv (by rfl) w
    ·rw[if_neg (by omega)];exact Zb T (Z0k a b m) (Za (by decide) (Za (Zq (by omega)) (Za kb (Za (by decide) (Za (Zq (by omega)) (Za ka (Za (by decide) (Za (Xa hb3) (Za kb (Za (Xb ha3) (Za ka (Za hb0 (Zz kab))))))))))))) hv (by rfl) w
   ·have hno:¬ (3<cl a∨3<cl b):=by omega
    rw[if_neg hno,if_neg hno];by_cases ae:cl a=3
    ·rw[if_pos (.inl ae),if_pos (.inl ae)];exact Zb T (Z0l a b m) (Za rfl (Za kab (Za (Z1 ae) (Za ka (Za (Xb hb3) (Za kb (Za (Xb ha3) (Za ka (Za hb0 (Zz kab)))))))))) hv (by rfl) w
    ·by_cases be:cl b=3
     ·rw[if_pos (.inr be),if_pos (.inr be)];exact Zb T (Z0m a b m) (Za rfl (Za kab (Za (Z1 be) (Za kb (Za (Zq ae) (Za ka (Za (Xb hb3) (Za kb (Za (Xb ha3) (Za ka (Za hb0 (Zz kab)))))))))))) hv (by rfl) w
     ·have hno2:¬ (cl a=3∨cl b=3):=by omega
      rw[if_neg hno2,if_neg hno2];have hf:=Zwg a b m;rw[ZnU] at hf;exact Zb T hf (Za (Xa (ZZ _)) (Za (Xa ⟨by omega,by omega⟩) (Za kab (Za (Zq be) (Za kb (Za (Zq ae) (Za ka (Za (Xb hb3) (Za kb (Za (Xb ha3) (Za ka (Za hb0 (Zz kab))))))))))))) hv (by rfl) w
def gPM:Ans:=fun vals s=>
 match vals with
 | [.int .u64 a,.int .u64 b,.int .i64 m]=>some (rdT (muP m a b) (muF m a b),s,[(decide (U a∧U b),true)])
 | _=>none
theorem Zwh:ZJ 14 gPM:=by
 intro vals s v s' lg h hl w;unfold gPM at h;split at h
 ·cases h;obtain⟨h1,h2⟩:=Xc (hl _ Xf);exact Ziy _ _ _ h1 h2 w
 ·cases h
end Go.Proofs.YtekebccjflilnaaGreat
