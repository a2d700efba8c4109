/-
  RnD, RnE, RdZ, RdK, NumRh, RdL, RdM, RdA, RdB
-/
import Derived.Test.YtjlponbdflkbjaaGreatDoorG16
namespace Go.Proofs.YtjlponbdflkbjaaGreatDoor
open Go.Proofs.Tryz
open Go.IntKind
open Go.KRun Go.Wd Go.Pt Go.Rn
set_option maxRecDepth 100000
def clp (e:Int):Int:=if 2000<(if -2000>e then -2000 else e) then 2000 else (if -2000>e then -2000 else e)
theorem ZnR (e:Int): -2000≤clp e∧clp e≤2000:=by unfold clp;split<;>split<;>omega
theorem Zxw (n b:Bool) (x:W4) (e:Int):Z7 (Zm (Zk prog Zf Zn true) 300 38 [vN n e x b] []) (vN n (clp e) x b) []:=by and_intros<;>kernel_rfl
def Zxx:Ans:=fun vals s=>
 match vals with
 | [v]=>
  match n7 v with
  | some (n,e,x,b)=>some (vN n (clp e) x b,s,[])
  | none=>none
 | _=>none
theorem ZrD:ZR 38 Zxx:=by
 intro vals s v s' lg h hl w;unfold Zxx at h;split at h
 ·split at h
  ·rename_i n e x b hn;cases h;rw[Zco hn];exact Zc (Zj Zd) (Zxw n b x e) ZoA (by rfl) (by rfl) w
  ·cases h
 ·cases h
theorem Z9I (n:Bool) (m:Int):Z7 (Zm (Zk prog Zf Zzc true) 300 42 [.bool n,.int .i64 m] [tst true]) (.int .u64 9218868437227405312) [(upR m n true 3,true)]:=by and_intros<;>kernel_rfl
theorem Z9J (n:Bool) (m:Int):Z7 (Zm (Zk prog Zf Zzc true) 300 42 [.bool n,.int .i64 m] [tst false]) (.int .u64 9218868437227405311) [(upR m n true 3,false)]:=by and_intros<;>kernel_rfl
def Z79:Ans:=fun vals s=>
 match vals with
 | [.bool n,.int .i64 m]=>some (.int .u64 (bey m n),s,[])
 | _=>none
theorem Zxy:ZR 42 Z79:=by
 intro vals s v s' lg h hl w;unfold Z79 at h;split at h
 ·rename_i n m;cases h;unfold bey;by_cases hu:upR m n true 3=true
  ·rw[if_pos hu];exact Zc (Zj Zeu) (Z9I n m) (Z4 hu) (by rfl) (by rfl) w
  ·rw[if_neg hu];exact Zc (Zj Zeu) (Z9J n m) (Z4 (by simpa using hu)) (by rfl) (by rfl) w
 ·cases h
def m52 (k:Int):Int:=i64.wrap (k-52)
def tnQ (m:Int) (n:Bool) (x:W4) (b:Bool) (ex k:Int):W4:=ofN (toQ m n (tw x b) (ex-1) (m52 k))
def lgW (e:Int) (x:W4):Int:=i64.wrap (i64.wrap (e+Z4y x)-1)
theorem ti0 (n b:Bool) (x:W4) (ex k m:Int):Z7 (Zm (Zk prog Zf Zzc true) 300 43 [vN n ex x b,.int .i64 k,.int .i64 m] [cmp true]) (.bool (decide (k< -1022))) [(k != -1023,true)]:=by and_intros<;>kernel_rfl
theorem ti1 (n b:Bool) (x:W4) (ex k m:Int):Z7 (Zm (Zk prog Zf Zzc true) 300 43 [vN n ex x b,.int .i64 k,.int .i64 m] [cmp false,cmp true]) (.bool (decide (lgW (m52 k) (tnQ m n x b ex k)< -1022))) [(decide (tnQ m n x b ex k).ok,true),(decide (toQ m n (tw x b) (ex-1) (m52 k)<2^256),true),(Zhn x ex (m52 k),true),(k != -1023,false)]:=by and_intros<;>kernel_rfl
def tnK (m:Int) (n:Bool) (T:Nat) (E k:Int):Bool:=if k= -1023 then decide (toQ m n T E (-1075)<9007199254740992) else decide (k< -1022)
theorem Zjf (x:W4):Z4y x=(bitLen x.nat:Nat):=rfl
theorem ZrE {q:Nat}:bitLen q<54↔q<9007199254740992:=by
 constructor
 ·intro h;have h1:=(bitLen_spec q).1;have h2:=Nat.pow_le_pow_right (show 0<2 by omega) (show bitLen q≤53 by omega);have e:(2:Nat)^53=9007199254740992:=rfl;omega
 ·intro h;have:=len_le (T:=q) (k:=53) h;omega
theorem Zkd (n b:Bool) (x:W4) (ex k m:Int) (h1:x.ok∧ -4000≤ex∧ex≤4000∧ -4000≤(0:Int)∧(0:Int)≤4000) (h2:k= -1023→toQ m n (tw x b) (ex-1) (-1075)<2^256) (w:World):Calls prog 43 #[vN n ex x b,.int .i64 k,.int .i64 m] w fun r w'=>r= .returned (.bool (tnK m n (tw x b) (ex-1) k))∧Zal w w':=by
 unfold tnK;by_cases hk:k= -1023
 ·rw[if_pos hk];have e0:m52 k= -1075:=by rw[hk];rfl
  have hq:=h2 hk;have hlen:bitLen (toQ m n (tw x b) (ex-1) (-1075))≤256:=len_le hq;have e1:lgW (m52 k) (tnQ m n x b ex k)= -1076+(bitLen (toQ m n (tw x b) (ex-1) (-1075)):Nat):=by
   unfold lgW tnQ;rw[e0,Zjf,Zbq hq,Zbx (n:= -1075+((bitLen (toQ m n (tw x b) (ex-1) (-1075)):Nat):Int)) ⟨by omega,by omega⟩,Zbx ⟨by omega,by omega⟩];omega
  have h:=Zc (Zj Zeu) (ti1 n b x ex k m) (Za (Xa (zO _)) (Za (by rw[e0];exact Xa hq) (Za (by rw[e0];exact Xa ⟨h1.1,h1.2.1,h1.2.2.1,by omega,by omega⟩) (Z4 (by rw[hk];rfl))))) (by rfl) (by rfl) w;rw[e1] at h;have e2:decide (-1076+((bitLen (toQ m n (tw x b) (ex-1) (-1075)):Nat):Int)< -1022)=decide (toQ m n (tw x b) (ex-1) (-1075)<9007199254740992):=by
   congr 1;rw[← ZrE];simp only[eq_iff_iff];omega
  rw[e2] at h;exact h
 ·rw[if_neg hk];exact Zc (Zj Zeu) (ti0 n b x ex k m) (Z4 (by simpa using hk)) (by rfl) (by rfl) w
def Zxz:Ans:=fun vals s=>
 match vals with
 | [v,.int .i64 k,.int .i64 m]=>
  match n7 v,s with
  | some (n,ex,x,b),.inr (.inr (.inr (.inl d)))::s'=>some (.bool d,s',[(tnK m n (tw x b) (ex-1) k,d),(decide (k= -1023→toQ m n (tw x b) (ex-1) (-1075)<2^256),true),(Zhn x ex 0,true)])
  | _,_=>none
 | _=>none
theorem ZrF:ZR 43 Zxz:=by
 intro vals s v s' lg h hl w;unfold Zxz at h;split at h
 ·split at h
  ·rename_i n ex x b d s2 hn;cases h;rw[ZcQ,ZcQ,ZcQ] at hl;rw[Zco hn,← hl.1];exact Zkd n b x ex _ _ (Xc hl.2.2.1) (Xc hl.2.1) w
  ·cases h
 ·cases h
def ZgM:Con:=alt 38 Zxx (alt 42 Z79 (alt 43 Zxz Zzc))
theorem Zbv:ConOk ZgM:=Z9 func38 rfl ZrD (Z9 func42 rfl Zxy (Z9 func43 rfl ZrF Zeu))
def lgR (ex:Int) (x:W4):Int:=lgW (clp ex) x
def e0 (ex:Int) (x:W4):Int:=if -1074>m52 (lgR ex x) then -1074 else m52 (lgR ex x)
def qR (m:Int) (n:Bool) (x:W4) (b:Bool) (ex:Int):Nat:=toQ m n (tw x b) (clp ex-1) (e0 ex x)
def oR (x:W4) (b:Bool) (ex:Int):Bool:=toL (tw x b) (clp ex-1) (e0 ex x)
def pR (m:Int) (n:Bool) (x:W4) (b:Bool) (ex:Int):Int:=u64.wrap (u64.wrap (u64.wrap (i64.wrap (e0 ex x - -1074))*2^min (Int.toNat 52) 64)+(ofN (qR m n x b ex)).a)
def sgR (n:Bool) (p:Int):Int:=match n with | true=>Z6a p 9223372036854775808 | false=>p
def lTm (m:Int) (n:Bool) (x:W4) (b:Bool) (ex:Int) (o d:Bool):Log:=[(oR x b ex,o),(decide (qR m n x b ex<2^256),true),(Zhn x (clp ex) (e0 ex x),true),(decide x.ok,true),(eqW x ⟨0,0,0,0⟩,d)]
def Zzd (m:Int) (n:Bool) (x:W4) (b:Bool) (ex:Int) (d:Bool):Bool×Bool:=(decide (pR m n x b ex≥9218868437227405312),d)
def l52:Bool×Bool:=(decide ((52:Int)<0),false)
def rdT (p f:Int):Value:= .tuple #[.int .u64 p,.int .u8 f]
theorem Zx0 (n:Bool) (x:W4) (ex m:Int):Z7 (Zm (Zk prog Zf ZgM true) 300 19 [vN n ex x false,.int .i64 m] [sam true]) (rdT (sgR n 0) 0) [(eqW x ⟨0,0,0,0⟩,true)]:=by
 cases n<;>exact by and_intros<;>kernel_rfl
theorem Z2q (n b o:Bool) (x:W4) (ex m:Int):Z7 (Zm (Zk prog Zf ZgM true) 300 19 [vN n ex x b,.int .i64 m] [sam false,cmp true,cmp o,cmp true]) (rdT (sgR n (bey m n)) 20) (Zzd m n x b ex true::l52::lTm m n x b ex o false):=by
 cases n<;>cases o<;>exact by and_intros<;>kernel_rfl
theorem Zx1 (n o:Bool) (x:W4) (ex m:Int):Z7 (Zm (Zk prog Zf ZgM true) 300 19 [vN n ex x true,.int .i64 m] [sam true,cmp true,cmp o,cmp true]) (rdT (sgR n (bey m n)) 20) (Zzd m n x true ex true::l52::lTm m n x true ex o true):=by
 cases n<;>cases o<;>exact by and_intros<;>kernel_rfl
theorem Zx2 (n b:Bool) (x:W4) (ex m:Int):Z7 (Zm (Zk prog Zf ZgM true) 300 19 [vN n ex x b,.int .i64 m] [sam false,cmp true,cmp false,cmp false]) (rdT (sgR n (pR m n x b ex)) 0) (Zzd m n x b ex false::l52::lTm m n x b ex false false):=by
 cases n<;>exact by and_intros<;>kernel_rfl
theorem ZrG (n:Bool) (x:W4) (ex m:Int):Z7 (Zm (Zk prog Zf ZgM true) 300 19 [vN n ex x true,.int .i64 m] [sam true,cmp true,cmp false,cmp false]) (rdT (sgR n (pR m n x true ex)) 0) (Zzd m n x true ex false::l52::lTm m n x true ex false true):=by
 cases n<;>exact by and_intros<;>kernel_rfl
def fgT (t:Bool):Int:=match t with | true=>24 | false=>16
def lTn (m:Int) (n:Bool) (x:W4) (b:Bool) (ex:Int) (t:Bool) (l:Log):Log:=(tnK m n (tw x b) (clp ex-1) (lgR ex x),t)::(decide (lgR ex x= -1023→toQ m n (tw x b) (clp ex-1) (-1075)<2^256),true)::(Zhn x (clp ex) 0,true)::l
theorem Zx3 (n b t:Bool) (x:W4) (ex m:Int):Z7 (Zm (Zk prog Zf ZgM true) 300 19 [vN n ex x b,.int .i64 m] [sam false,cmp true,cmp true,cmp false,cmp t]) (rdT (sgR n (pR m n x b ex)) (fgT t)) (lTn m n x b ex t (Zzd m n x b ex false::l52::lTm m n x b ex true false)):=by
 cases n<;>cases t<;>exact by and_intros<;>kernel_rfl
theorem ZrH (n t:Bool) (x:W4) (ex m:Int):Z7 (Zm (Zk prog Zf ZgM true) 300 19 [vN n ex x true,.int .i64 m] [sam true,cmp true,cmp true,cmp false,cmp t]) (rdT (sgR n (pR m n x true ex)) (fgT t)) (lTn m n x true ex t (Zzd m n x true ex false::l52::lTm m n x true ex true true)):=by
 cases n<;>cases t<;>exact by and_intros<;>kernel_rfl
theorem Zt3 {x:W4}{b:Bool}(h:tw x b≠0):bitLen (tw x b)=bitLen x.nat+1:=by
 have hd:tw x b/2^1=x.nat:=by
  have:=Znh x b 0;simpa using this
 by_cases h0:x.nat=0
 ·have:tw x b=1:=by
   have e:tw x b/2=x.nat:=by simpa using hd
   omega
  rw[this,h0];rfl
 ·rw[bitLen_shift (tw x b) 1 (by rw[hd];exact h0),hd];omega
theorem Zt4 {x:W4}(hx:x.ok):bitLen x.nat≤256:=len_le (W4.nat_lt hx)
theorem Zt5 {x:W4}{b:Bool}{ex:Int}(hx:x.ok) (h:tw x b≠0):lgR ex x=lgN (tw x b) (clp ex-1):=by
 have h1:=ZnR ex;have h2:=Zt4 hx;unfold lgR lgW lgN;rw[Zjf,Zt3 h,Zbx (n:=clp ex+((bitLen x.nat:Nat):Int)) ⟨by omega,by omega⟩,Zbx ⟨by omega,by omega⟩];omega
theorem Zt6 {x:W4}{b:Bool}{ex:Int}(hx:x.ok) (h:tw x b≠0): -2002≤lgN (tw x b) (clp ex-1)∧lgN (tw x b) (clp ex-1)≤2300:=by
 have h1:=ZnR ex;have h2:=Zt4 hx;unfold lgN;rw[Zt3 h];omega
theorem Z2r {x:W4}{b:Bool}{ex:Int}(hx:x.ok) (h:tw x b≠0):e0 ex x=z5 (tw x b) (clp ex-1):=by
 have hb:=Zt6 (ex:=ex) hx h;unfold e0 m52 z5;rw[Zt5 hx h,Zbx ⟨by omega,by omega⟩];split<;>split<;>omega
theorem ZnS {x:W4}{b:Bool}{ex:Int}(hx:x.ok) (h:tw x b≠0): -1074≤z5 (tw x b) (clp ex-1)∧z5 (tw x b) (clp ex-1)≤2300:=by
 have hb:=Zt6 (ex:=ex) hx h;unfold z5;split<;>omega
theorem Z7A {q:Nat}(h:q<18446744073709551616):(ofN q).a=(q:Int):=by unfold ofN W4.of;dsimp only;omega
theorem Z7B {m:Int}{n:Bool}{x:W4}{b:Bool}{ex:Int}(hx:x.ok) (h:tw x b≠0):pR m n x b ex=p0 m n (tw x b) (clp ex-1)∧p0 m n (tw x b) (clp ex-1)<18446744073709551616:=by
 have hb:=ZnS (ex:=ex) hx h;have hq:=Zg8 m n (tw x b) (clp ex-1);have e1:((2:Int)^min (Int.toNat 52) 64)=4503599627370496:=by rfl
 unfold pR qR p0;rw[Z2r hx h,Z7A (by omega),e1,Zbx ⟨by omega,by omega⟩,wrapU' (n:=z5 (tw x b) (clp ex-1) - -1074) ⟨by omega,by omega⟩,wrapU' (n:=(z5 (tw x b) (clp ex-1) - -1074)*4503599627370496) ⟨by omega,by omega⟩,wrapU' ⟨by omega,by omega⟩];omega
def sS (n:Bool) (p:Int):Int:=if n=true then 9223372036854775808+p else p
theorem ZnT {n:Bool}{p:Int}(h0:0≤p) (h1:p≤9218868437227405312):sgR n p=sS n p:=by
 cases n
 ·rfl
 ·simp only[sgR,sS,if_true];rw[ZmG ⟨by omega,by omega⟩];omega
theorem Z2s (m:Int) (n:Bool) (T:Nat) (E:Int):tnK m n T E (lgN T E)=ZdB m n T E:=rfl
def rdV (m:Int) (n:Bool) (T:Nat) (E:Int):Value:=rdT (sS n (rnP m n T E)) (rnF m n T E)
theorem ZhF (n b:Bool) (x:W4) (ex m:Int) (hx:x.ok) (w:World):Calls prog 19 #[vN n ex x b,.int .i64 m] w fun r w'=>r= .returned (rdV m n (tw x b) (clp ex-1))∧Zal w w':=by
 have hv:([vN n ex x b,.int .i64 m].all (lt 0))=true:=rfl;unfold rdV;by_cases hz:tw x b=0
 ·have h1:=(Zni hx).1 hz;rw[Xh] at h1;have hb:b=false:=by simpa using h1.2
  subst hb;have h:=Zc (Zj Zbv) (Zx0 n x ex m) (Z4 h1.1) hv (by rfl) w;rw[ZnT (by omega) (by omega)] at h;unfold rnP rnF;rw[if_pos hz,if_pos hz];exact h
 ·obtain⟨ep,hp⟩:=Z7B (m:=m) (n:=n) (ex:=ex) hx hz;have hbd:=ZnR ex;have hel:=ZnS (ex:=ex) hx hz;have hq:=Zg8 m n (tw x b) (clp ex-1);have ee:=Z2r (ex:=ex) hx hz;have el:=Zt5 (ex:=ex) hx hz;have hp0:=ZmY m n (tw x b) (clp ex-1);have e256:(2:Nat)^256=115792089237316195423570985008687907853269984665640564039457584007913129639936:=rfl;have kq:decide (qR m n x b ex<2^256)=true:=Xa (by unfold qR;rw[ee];omega);have kt:Zhn x (clp ex) (e0 ex x)=true:=Xa ⟨hx,by omega,by omega,by omega,by omega⟩;have kt0:Zhn x (clp ex) 0=true:=Xa ⟨hx,by omega,by omega,by omega,by omega⟩;have kx:decide x.ok=true:=Xa hx;have ko:oR x b ex=toL (tw x b) (clp ex-1) (z5 (tw x b) (clp ex-1)):=by unfold oR;rw[ee]
  have kn:decide (lgR ex x= -1023→toQ m n (tw x b) (clp ex-1) (-1075)<2^256)=true:=Xa fun hl=>by
   rw[el] at hl;have:toQ m n (tw x b) (clp ex-1) (-1075)≤2^53:=ZiG (by unfold lgN at hl;omega);have e53:(2:Nat)^53=9007199254740992:=rfl;omega
  have key:∃ d,eqW x ⟨0,0,0,0⟩=d∧(d=false∨(d=true∧b=true)):=by
   refine⟨_,rfl,?_⟩;cases he:eqW x ⟨0,0,0,0⟩
   ·exact .inl rfl
   ·right
    refine⟨rfl,?_⟩;cases hb:b
    ·exact absurd ((Zni hx).2 (by rw[he,hb];rfl)) hz
    ·rfl
  obtain⟨d,hd,hdb⟩:=key;have lt5:∀ o,oR x b ex=o→Z3 (lTm m n x b ex o d):=fun o ho=>Za ho (Za kq (Za kt (Za kx (Z4 hd))));unfold rnP rnF;rw[if_neg hz,if_neg hz];by_cases hbig:9218868437227405312≤p0 m n (tw x b) (clp ex-1)
  ·rw[if_pos hbig,if_pos hbig];have hb2:=Z1r m n;have hs:sgR n (bey m n)=sS n (bey m n):=ZnT (by omega) (by omega);rw[← hs];have lB:decide (pR m n x b ex≥9218868437227405312)=true:=Xa (by rw[ep];exact hbig);rcases hdb with rfl | ⟨rfl,rfl⟩
   ·exact Zc (Zj Zbv) (Z2q n b (oR x b ex) x ex m) (Za lB (Za rfl (lt5 _ rfl))) hv (by rfl) w
   ·exact Zc (Zj Zbv) (Zx1 n (oR x true ex) x ex m) (Za lB (Za rfl (lt5 _ rfl))) hv (by rfl) w
  ·rw[if_neg hbig,if_neg hbig];have hs:sgR n (pR m n x b ex)=sS n (p0 m n (tw x b) (clp ex-1)):=by rw[ep];exact ZnT hp0 (by omega)
   rw[← hs];have lB:decide (pR m n x b ex≥9218868437227405312)=false:=Xb (by rw[ep];exact hbig);by_cases hl:toL (tw x b) (clp ex-1) (z5 (tw x b) (clp ex-1))=true
   ·rw[if_pos hl];have ht:tnK m n (tw x b) (clp ex-1) (lgR ex x)=ZdB m n (tw x b) (clp ex-1):=by rw[el,Z2s]
    have ef:(if ZdB m n (tw x b) (clp ex-1)=true then (24:Int) else 16)=fgT (ZdB m n (tw x b) (clp ex-1)):=by
     cases ZdB m n (tw x b) (clp ex-1)<;>rfl
    rw[ef];rcases hdb with rfl | ⟨rfl,rfl⟩
    ·exact Zc (Zj Zbv) (Zx3 n b (ZdB m n (tw x b) (clp ex-1)) x ex m) (Za ht (Za kn (Za kt0 (Za lB (Za rfl (lt5 _ (ko.trans hl))))))) hv (by rfl) w
    ·exact Zc (Zj Zbv) (ZrH n (ZdB m n (tw x true) (clp ex-1)) x ex m) (Za ht (Za kn (Za kt0 (Za lB (Za rfl (lt5 _ (ko.trans hl))))))) hv (by rfl) w
   ·rw[if_neg hl];have hl':=ko.trans (by simpa using hl);rcases hdb with rfl | ⟨rfl,rfl⟩
    ·exact Zc (Zj Zbv) (Zx2 n b x ex m) (Za lB (Za rfl (lt5 _ hl'))) hv (by rfl) w
    ·exact Zc (Zj Zbv) (ZrG n x ex m) (Za lB (Za rfl (lt5 _ hl'))) hv (by rfl) w
def gRd:Ans:=fun vals s=>
 match vals with
 | [v,.int .i64 m]=>
  match n7 v with
  | some (n,ex,x,b)=>some (rdV m n (tw x b) (clp ex-1),s,[(decide x.ok,true)])
  | none=>none
 | _=>none
theorem Z2t:ZR 19 gRd:=by
 intro vals s v s' lg h hl w;unfold gRd at h;split at h
 ·split at h
  ·rename_i n ex x b hn;cases h;rw[Zco hn];exact ZhF n b x ex _ (Xc (hl _ Xf)) w
  ·cases h
 ·cases h
end Go.Proofs.YtjlponbdflkbjaaGreatDoor
namespace Go.Proofs.YtjlponbdflkbjaaGreatDoor
open Go.Proofs.Tryz
open Go.KRun Go.Nt Go.Rd Go.Wd Go.Rn
set_option maxRecDepth 100000
def Zb1:Con:=alt 15 Z4w (alt 28 Zrl (alt 31 Z6K (alt 32 Z6F (alt 18 Z77 (alt 19 gRd Zn)))))
theorem ZfT:ConOk Zb1:=Z9 func15 rfl ZnC (Z9 func28 rfl ZiR (Z9 func31 rfl ZwK (Z9 func32 rfl ZwJ (Z9 func18 rfl Zxt (Z9 func19 rfl Z2t Zd)))))
def paW (p f:Int) (e:Value):Value:= .tuple #[.int .u64 p,.int .u8 f,e]
def erZ (k:Int):Value:= .iface 42 (.int .i64 k)
def Zze:List UInt8:=[105,110,102]
def Z42:List UInt8:=[110,97,110]
def lB0 (l:List UInt8) (mn:Bool):Log:=[Zb2 (sgT l).2 Z42 false,Zb2 (sgT l).2 Zze false,((sgT l).1,mn),(decide (((l.length:Nat):Int)>65536),false)]
def lTd (b:Int) (v:List UInt8) (d:Bool) (l:Log):Log:=(decide ((sc1 b false v).1≠[]),d)::(decide ((b=10∨b=16)∧v.length≤100000),true)::l
def lWn (r:List UInt8) (d:Bool) (l:Log):Log:=(wnK r,d)::(decide (r.length≤100000),true)::l
def ZhG (b:Int) (v:List UInt8):List UInt8:=nuD (sc1 b false v).1
def nuK (b:Int) (v:List UInt8):Int:=((trZ (sc1 b false v).1).length:Nat)-((sc1 b false v).2.1:Nat)
def rst (b:Int) (v:List UInt8):List UInt8:=(sc1 b false v).2.2
def lNo (b:Int) (v:List UInt8) (P:Int) (l:Log):Log:=(decide (ofN (noS b (ZhG b v) (nuK b v) P)).ok,true)::(decide (ZhG b v=[]),false)::(Zza b (ZhG b v) (nuK b v) P,true)::l
def lNz (b:Int) (v:List UInt8) (l:Log):Log:=(decide (⟨0,0,0,0⟩:W4).ok,true)::(decide (ZhG b v=[]),true)::l
def pzV (m:Int) (mn:Bool):Value:=paW (sS mn (rnP m mn (tw ⟨0,0,0,0⟩ false) (clp 0-1))) (rnF m mn (tw ⟨0,0,0,0⟩ false) (clp 0-1)) .nilIface
def pnV (m:Int) (mn:Bool) (b:Int) (D:List UInt8) (k P:Int):Value:=paW (sS mn (rnP m mn (tw (ofN (noS b D k P)) (noM b D k P)) (clp (noE b D k P)-1))) (rnF m mn (tw (ofN (noS b D k P)) (noM b D k P)) (clp (noE b D k P)-1)) .nilIface
theorem ZrI (l:List UInt8) (m:Int):Z7 (Zm (Zk prog Zf Zb1 true) 300 9 [bR l,.int .i64 m] [cmp true]) (paW 0 0 (erZ 2)) ([(decide (((l.length:Nat):Int)>65536),true)]):=by and_intros<;>kernel_rfl
theorem ZrJ (l:List UInt8) (m:Int):Z7 (Zm (Zk prog Zf Zb1 true) 300 9 [bR l,.int .i64 m] [cmp false,cmp true,sam true]) (paW 18442240474082181120 0 .nilIface) ([Zb2 (sgT l).2 Zze true,((sgT l).1,true),(decide (((l.length:Nat):Int)>65536),false)]):=by and_intros<;>kernel_rfl
theorem ZrK (l:List UInt8) (m:Int):Z7 (Zm (Zk prog Zf Zb1 true) 300 9 [bR l,.int .i64 m] [cmp false,cmp false,sam true]) (paW 9218868437227405312 0 .nilIface) ([Zb2 (sgT l).2 Zze true,((sgT l).1,false),(decide (((l.length:Nat):Int)>65536),false)]):=by and_intros<;>kernel_rfl
theorem Zx4 (l:List UInt8) (m:Int) (mn:Bool):Z7 (Zm (Zk prog Zf Zb1 true) 300 9 [bR l,.int .i64 m] [cmp false,cmp mn,sam false,sam true]) (paW 9221120237041090560 0 .nilIface) ([Zb2 (sgT l).2 Z42 true,Zb2 (sgT l).2 Zze false,((sgT l).1,mn),(decide (((l.length:Nat):Int)>65536),false)]):=by and_intros<;>kernel_rfl
theorem Z2u (l:List UInt8) (m:Int) (mn:Bool):Z7 (Zm (Zk prog Zf Zb1 true) 300 9 [bR l,.int .i64 m] [cmp false,cmp mn,sam false,sam false,cmp false,cmp false]) (paW 0 0 (erZ 3)) (lTd 10 (sgT l).2 false ((Zar [48,120] (sgT l).2,false)::lB0 l mn)):=by and_intros<;>kernel_rfl
theorem Z2v (l:List UInt8) (m:Int) (mn:Bool):Z7 (Zm (Zk prog Zf Zb1 true) 300 9 [bR l,.int .i64 m] [cmp false,cmp mn,sam false,sam false,cmp false,cmp true,sam false,cmp false]) (paW 0 0 (erZ 3)) ((Zar [101] (rst 10 (sgT l).2),false)::Zb2 (rst 10 (sgT l).2) [] false::lTd 10 (sgT l).2 true ((Zar [48,120] (sgT l).2,false)::lB0 l mn)):=by and_intros<;>kernel_rfl
theorem Z2w (l:List UInt8) (m:Int) (mn:Bool):Z7 (Zm (Zk prog Zf Zb1 true) 300 9 [bR l,.int .i64 m] [cmp false,cmp mn,sam false,sam false,cmp false,cmp true,sam false,cmp true,cmp false]) (paW 0 0 (erZ 3)) (lWn ((rst 10 (sgT l).2).drop 1) false ((Zar [101] (rst 10 (sgT l).2),true)::Zb2 (rst 10 (sgT l).2) [] false::lTd 10 (sgT l).2 true ((Zar [48,120] (sgT l).2,false)::lB0 l mn))):=by and_intros<;>kernel_rfl
theorem Zx5 (l:List UInt8) (m:Int) (mn:Bool):Z7 (Zm (Zk prog Zf Zb1 true) 300 9 [bR l,.int .i64 m] [cmp false,cmp mn,sam false,sam false,cmp false,cmp true,sam true,cmp true]) (pzV m mn) (lNz 10 (sgT l).2 (Zb2 (rst 10 (sgT l).2) [] true::lTd 10 (sgT l).2 true ((Zar [48,120] (sgT l).2,false)::lB0 l mn))):=by and_intros<;>kernel_rfl
theorem Z2x (l:List UInt8) (m:Int) (mn:Bool):Z7 (Zm (Zk prog Zf Zb1 true) 300 9 [bR l,.int .i64 m] [cmp false,cmp mn,sam false,sam false,cmp false,cmp true,sam true,cmp false]) (pnV m mn 10 (ZhG 10 (sgT l).2) (nuK 10 (sgT l).2) 0) (lNo 10 (sgT l).2 0 (Zb2 (rst 10 (sgT l).2) [] true::lTd 10 (sgT l).2 true ((Zar [48,120] (sgT l).2,false)::lB0 l mn))):=by and_intros<;>kernel_rfl
theorem Zx6 (l:List UInt8) (m:Int) (mn:Bool):Z7 (Zm (Zk prog Zf Zb1 true) 300 9 [bR l,.int .i64 m] [cmp false,cmp mn,sam false,sam false,cmp false,cmp true,sam false,cmp true,cmp true,cmp true]) (pzV m mn) (lNz 10 (sgT l).2 (lWn ((rst 10 (sgT l).2).drop 1) true ((Zar [101] (rst 10 (sgT l).2),true)::Zb2 (rst 10 (sgT l).2) [] false::lTd 10 (sgT l).2 true ((Zar [48,120] (sgT l).2,false)::lB0 l mn)))):=by and_intros<;>kernel_rfl
theorem Z2y (l:List UInt8) (m:Int) (mn:Bool):Z7 (Zm (Zk prog Zf Zb1 true) 300 9 [bR l,.int .i64 m] [cmp false,cmp mn,sam false,sam false,cmp false,cmp true,sam false,cmp true,cmp true,cmp false]) (pnV m mn 10 (ZhG 10 (sgT l).2) (nuK 10 (sgT l).2) (wnP ((rst 10 (sgT l).2).drop 1))) (lNo 10 (sgT l).2 (wnP ((rst 10 (sgT l).2).drop 1)) (lWn ((rst 10 (sgT l).2).drop 1) true ((Zar [101] (rst 10 (sgT l).2),true)::Zb2 (rst 10 (sgT l).2) [] false::lTd 10 (sgT l).2 true ((Zar [48,120] (sgT l).2,false)::lB0 l mn)))):=by and_intros<;>kernel_rfl
theorem Z2z (l:List UInt8) (m:Int) (mn:Bool):Z7 (Zm (Zk prog Zf Zb1 true) 300 9 [bR l,.int .i64 m] [cmp false,cmp mn,sam false,sam false,cmp true,cmp false]) (paW 0 0 (erZ 3)) (lTd 16 ((sgT l).2.drop 2) false ((Zar [48,120] (sgT l).2,true)::lB0 l mn)):=by and_intros<;>kernel_rfl
theorem Z20 (l:List UInt8) (m:Int) (mn:Bool):Z7 (Zm (Zk prog Zf Zb1 true) 300 9 [bR l,.int .i64 m] [cmp false,cmp mn,sam false,sam false,cmp true,cmp true,sam true]) (paW 0 0 (erZ 3)) (Zb2 (rst 16 ((sgT l).2.drop 2)) [] true::lTd 16 ((sgT l).2.drop 2) true ((Zar [48,120] (sgT l).2,true)::lB0 l mn)):=by and_intros<;>kernel_rfl
theorem Z21 (l:List UInt8) (m:Int) (mn:Bool):Z7 (Zm (Zk prog Zf Zb1 true) 300 9 [bR l,.int .i64 m] [cmp false,cmp mn,sam false,sam false,cmp true,cmp true,sam false,cmp false]) (paW 0 0 (erZ 3)) ((Zar [112] (rst 16 ((sgT l).2.drop 2)),false)::Zb2 (rst 16 ((sgT l).2.drop 2)) [] false::lTd 16 ((sgT l).2.drop 2) true ((Zar [48,120] (sgT l).2,true)::lB0 l mn)):=by and_intros<;>kernel_rfl
theorem Z22 (l:List UInt8) (m:Int) (mn:Bool):Z7 (Zm (Zk prog Zf Zb1 true) 300 9 [bR l,.int .i64 m] [cmp false,cmp mn,sam false,sam false,cmp true,cmp true,sam false,cmp true,cmp false]) (paW 0 0 (erZ 3)) (lWn ((rst 16 ((sgT l).2.drop 2)).drop 1) false ((Zar [112] (rst 16 ((sgT l).2.drop 2)),true)::Zb2 (rst 16 ((sgT l).2.drop 2)) [] false::lTd 16 ((sgT l).2.drop 2) true ((Zar [48,120] (sgT l).2,true)::lB0 l mn))):=by and_intros<;>kernel_rfl
theorem Zx7 (l:List UInt8) (m:Int) (mn:Bool):Z7 (Zm (Zk prog Zf Zb1 true) 300 9 [bR l,.int .i64 m] [cmp false,cmp mn,sam false,sam false,cmp true,cmp true,sam false,cmp true,cmp true,cmp true]) (pzV m mn) (lNz 16 ((sgT l).2.drop 2) (lWn ((rst 16 ((sgT l).2.drop 2)).drop 1) true ((Zar [112] (rst 16 ((sgT l).2.drop 2)),true)::Zb2 (rst 16 ((sgT l).2.drop 2)) [] false::lTd 16 ((sgT l).2.drop 2) true ((Zar [48,120] (sgT l).2,true)::lB0 l mn)))):=by and_intros<;>kernel_rfl
theorem Z23 (l:List UInt8) (m:Int) (mn:Bool):Z7 (Zm (Zk prog Zf Zb1 true) 300 9 [bR l,.int .i64 m] [cmp false,cmp mn,sam false,sam false,cmp true,cmp true,sam false,cmp true,cmp true,cmp false]) (pnV m mn 16 (ZhG 16 ((sgT l).2.drop 2)) (nuK 16 ((sgT l).2.drop 2)) (wnP ((rst 16 ((sgT l).2.drop 2)).drop 1))) (lNo 16 ((sgT l).2.drop 2) (wnP ((rst 16 ((sgT l).2.drop 2)).drop 1)) (lWn ((rst 16 ((sgT l).2.drop 2)).drop 1) true ((Zar [112] (rst 16 ((sgT l).2.drop 2)),true)::Zb2 (rst 16 ((sgT l).2.drop 2)) [] false::lTd 16 ((sgT l).2.drop 2) true ((Zar [48,120] (sgT l).2,true)::lB0 l mn)))):=by and_intros<;>kernel_rfl
def ZrL (l:List UInt8):Bool:=decide (l.length≤10000∨65536<l.length)
theorem Z7C (m:Int) (n:Bool) {S:Nat}(hS:S<2^256) (b:Bool) (E:Int):rnP m n (tw (ofN S) b) (clp E-1)=rnP m n (2*S+bt b) (E-1)∧rnF m n (tw (ofN S) b) (clp E-1)=rnF m n (2*S+bt b) (E-1):=by
 obtain⟨p,f⟩:=Zfc (m:=m) (neg:=n) (zO S) b (C:=clp E) (D:=E) (by unfold clp;split<;>split<;>omega);obtain⟨p',f'⟩:=Zfc (m:=m) (neg:=n) (zO S) b (C:=E) (D:=E) (.inl rfl);have e:tw (ofN S) b=2*S+bt b:=by unfold tw;rw[Zbq hS];rfl
 rw[e] at p f p' f';rw[e];exact⟨p.trans p'.symm,f.trans f'.symm⟩
theorem ZnU {b:Int}{l:List UInt8}(ha:zf b l=true):nuD l=[]↔trZ l=[]:=by
 unfold nuD;constructor
 ·intro h;cases hT:trZ l with
  | nil=>rfl
  | cons c r=>
   obtain⟨r',hr'⟩:=ZcH (b:=b) (r:=r) (ZaQ ha hT);rw[hT,hr'] at h;cases h
 ·intro h;rw[h];rfl
theorem Zx8 {l:List UInt8}(ha:zf 10 l=true) (hz:trZ l≠[]):nmB 10 (shR 800 (nuD l))≠0:=by
 cases hT:trZ l with
 | nil=>exact absurd hT hz
 | cons c r=>
  have hc:=ZaQ ha hT;obtain⟨r',hr'⟩:=ZcH (b:=10) (r:=r) hc;obtain⟨r2,hr2⟩:∃ r2,shR 800 (nuD l)=c::r2:=by
   unfold nuD shR;rw[hT,hr'];split
   ·exact⟨_,rfl⟩
   ·exact⟨_,rfl⟩
  have:=Zbs (b:=10) (.inl rfl) (r:=r2) hc;rw[hr2];omega
def paV (x:Int×Int×Int):Value:=if x.2.2=0 then paW x.1 x.2.1 .nilIface else paW 0 0 (erZ x.2.2)
theorem Zx9 (m:Int) (mn:Bool):pzV m mn=paW (if mn=true then 9223372036854775808 else 0) 0 .nilIface:=by
 cases mn<;>rfl
theorem ZnV (b:Int) (p:Bool) (v:List UInt8):(sc1 b p v).2.2.length≤v.length:=by
 induction v generalizing p with
 | nil=>exact Nat.le_refl _
 | cons c l ih=>
  unfold sc1;split
  ·have:=ih true;rw[List.length_cons];omega
  ·split
   ·have:=ih p;rw[List.length_cons];dsimp only;omega
   ·exact Nat.le_refl _
theorem ZhH {b:Int}(hb:b=10∨b=16) {v:List UInt8}(hv:v.length≤10000) (hz:trZ (sc1 b false v).1≠[]) {P:Int}(hP: -10000000≤P∧P≤10000000):Zza b (ZhG b v) (nuK b v) P=true:=by
 obtain⟨h1,h2,h3⟩:=Zfd b false v;have lT:=Zdj (sc1 b false v).1;have lD:(nuD (sc1 b false v).1).length≤(trZ (sc1 b false v).1).length:=ZfN _;have ha:zf b (ZhG b v)=true:=Zh7 (ZcD h3);unfold Zza;rw[ha,Bool.true_and];unfold nuK ZhG;exact Xa ⟨hb,fun h10=>by subst h10;exact Zx8 h3 hz,by omega,by omega,by omega,hP.1,hP.2⟩
theorem ZnW {m:Int}{n:Bool}{b:Int}(hb:b=10∨b=16) {v:List UInt8}(hv:v.length≤10000) (hz:trZ (sc1 b false v).1≠[]) {P Q:Int}(hP:ZgF Q P):pnV m n b (ZhG b v) (nuK b v) Q=paW (if n=true then 9223372036854775808+rnP m n (dnA b (trZ (sc1 b false v).1) ((sc1 b false v).2.1:Nat) P).1 (dnA b (trZ (sc1 b false v).1) ((sc1 b false v).2.1:Nat) P).2 else rnP m n (dnA b (trZ (sc1 b false v).1) ((sc1 b false v).2.1:Nat) P).1 (dnA b (trZ (sc1 b false v).1) ((sc1 b false v).2.1:Nat) P).2) (rnF m n (dnA b (trZ (sc1 b false v).1) ((sc1 b false v).2.1:Nat) P).1 (dnA b (trZ (sc1 b false v).1) ((sc1 b false v).2.1:Nat) P).2) .nilIface:=by
 obtain⟨h1,h2,h3⟩:=Zfd b false v;obtain⟨r1,r2⟩:=Z7C m n (Z1I b (ZhG b v) (nuK b v) Q) (noM b (ZhG b v) (nuK b v) Q) (noE b (ZhG b v) (nuK b v) Q);obtain⟨q1,q2⟩:=Zrk (m:=m) (n:=n) hb (l:=(sc1 b false v).1) (by omega) h3 hz (k:=(sc1 b false v).2.1) h2 hP;unfold pnV;rw[r1,r2];unfold ZhG nuK;rw[q1,q2];rfl
theorem Z7D (l:List UInt8) (m:Int) (h65:l.length≤10000) (h0:¬ (sgT l).2=Zze) (h1:¬ (sgT l).2=Z42) (h16:Zar [48,120] (sgT l).2=false) (w:World):Calls prog 9 #[bR l,.int .i64 m] w fun e w'=>e= .returned (paV (rdQ m (sgT l).1 10 (sgT l).2))∧Zal w w':=by
 have hT:=Zj ZfT;have lb:Z3 (lB0 l (sgT l).1):=Za (ze (Xb h1)) (Za (ze (Xb h0)) (Za rfl (Z4 (Xb (by omega)))));have l0:=Za h16 lb;have hs:=Zh5 l;obtain⟨v,hv⟩:∃ v,v=(sgT l).2:=⟨_,rfl⟩;have vl:v.length≤10000:=by rw[hv];omega
 have f1:=Z2u l m (sgT l).1;have f5:=Z2x l m (sgT l).1;have f5z:=Zx5 l m (sgT l).1;have f3:=Z2v l m (sgT l).1;have f4:=Z2w l m (sgT l).1;have f6:=Z2y l m (sgT l).1;have f6z:=Zx6 l m (sgT l).1;obtain⟨mn,hmn⟩:∃ mn,mn=(sgT l).1:=⟨_,rfl⟩;rw[← hv] at f1 f3 f4 f6 f6z f5 f5z;rw[← hmn] at f1 f3 f4 f6 f6z l0 f5 f5z;rw[← hv] at l0;rw[← hv,← hmn];have hB:decide (((10:Int)=10∨(10:Int)=16)∧v.length≤100000)=true:=Xa ⟨(.inl rfl),by omega⟩;obtain⟨sb1,sb2,sb3⟩:=Zfd 10 false v;have rl:(rst 10 v).length≤v.length:=ZnV 10 false v;have dl:decide (((rst 10 v).drop 1).length≤100000)=true:=Xa (by rw[List.length_drop];omega);by_cases hD:(sc1 10 false v).1=[]
 ·have e:rdQ m mn 10 v=(0,0,3):=by unfold rdQ scA;rw[if_pos hD,if_pos rfl]
  rw[e];exact Zc hT f1 (Za (Xb (fun h=>h hD)) (Za hB l0)) (by rfl) (by rfl) w
 have l1:=Za (show decide ((sc1 10 false v).1≠[])=true from Xa hD) (Za hB l0);have eS:scA 10 v=scE 10 (rst 10 v):=by unfold scA;rw[if_neg hD];rfl
 obtain⟨k1,k2⟩:=ZiM (b:=10) (.inl rfl) (rst 10 v);rw[← eS] at k1 k2;have eQz:(scA 10 v).2=true→trZ (sc1 10 false v).1=[]→rdQ m mn 10 v=(if mn=true then 9223372036854775808 else 0,0,0):=fun h2 h3=>by unfold rdQ;rw[if_neg (by rw[h2];decide),if_pos h3]
 have eQn:(scA 10 v).2=true→¬ trZ (sc1 10 false v).1=[]→rdQ m mn 10 v=(if mn=true then 9223372036854775808+rnP m mn (dnA 10 (trZ (sc1 10 false v).1) ((sc1 10 false v).2.1:Nat) (scA 10 v).1).1 (dnA 10 (trZ (sc1 10 false v).1) ((sc1 10 false v).2.1:Nat) (scA 10 v).1).2 else rnP m mn (dnA 10 (trZ (sc1 10 false v).1) ((sc1 10 false v).2.1:Nat) (scA 10 v).1).1 (dnA 10 (trZ (sc1 10 false v).1) ((sc1 10 false v).2.1:Nat) (scA 10 v).1).2,rnF m mn (dnA 10 (trZ (sc1 10 false v).1) ((sc1 10 false v).2.1:Nat) (scA 10 v).1).1 (dnA 10 (trZ (sc1 10 false v).1) ((sc1 10 false v).2.1:Nat) (scA 10 v).1).2,0):=fun h2 h3=>by unfold rdQ;rw[if_neg (by rw[h2];decide),if_neg h3]
 have eQe:(scA 10 v).2=false→rdQ m mn 10 v=(0,0,3):=fun h2=>by unfold rdQ;rw[if_pos h2]
 have nz:=ZnU sb3;by_cases hr:rst 10 v=[]
 ·have l2:=Za (show (Zb2 (rst 10 v) [] true).1=true from ze (Xa hr)) l1;have ek:pwK 10 (rst 10 v)=true:=by unfold pwK;rw[if_pos hr];rfl
  have al:=k2 ek;have ep:Go.Rd.pwP (rst 10 v)=0:=by unfold Go.Rd.pwP;rw[if_pos hr]
  rw[ep] at al;rw[ek] at k1;by_cases hz:trZ (sc1 10 false v).1=[]
  ·rw[eQz k1.symm hz];have f:=f5z;rw[Zx9] at f;exact Zc hT f (Za (Xa (by decide)) (Za (Xa (nz.2 hz)) l2)) (by rfl) (by rfl) w
  ·rw[eQn k1.symm hz];have f:=f5;rw[ZnW (.inl rfl) vl hz al] at f;exact Zc hT f (Za (Xa (zO _)) (Za (Xb (fun h=>hz (nz.1 h))) (Za (ZhH (.inl rfl) vl hz ⟨by decide,by decide⟩) l2))) (by rfl) (by rfl) w
 ·have l2:=Za (show (Zb2 (rst 10 v) [] false).1=false from ze (Xb hr)) l1;have ek:pwK 10 (rst 10 v)=(Zar [101] (rst 10 v) && wnK ((rst 10 v).drop 1)):=by unfold pwK;rw[if_neg hr];rfl
  cases hm:Zar [101] (rst 10 v) with
  | false=>
   rw[hm,Bool.false_and] at ek;rw[ek] at k1;rw[eQe k1.symm];exact Zc hT f3 (Za hm l2) (by rfl) (by rfl) w
  | true=>
   have l3:=Za hm l2;rw[hm,Bool.true_and] at ek;cases hw:wnK ((rst 10 v).drop 1) with
   | false=>
    rw[hw] at ek;rw[ek] at k1;rw[eQe k1.symm];exact Zc hT f4 (Za hw (Za dl l3)) (by rfl) (by rfl) w
   | true=>
    have l4:=Za hw (Za dl l3);rw[hw] at ek;have al:=k2 ek;have ep:Go.Rd.pwP (rst 10 v)=wnP ((rst 10 v).drop 1):=by unfold Go.Rd.pwP;rw[if_neg hr]
    rw[ep] at al;rw[ek] at k1;by_cases hz:trZ (sc1 10 false v).1=[]
    ·rw[eQz k1.symm hz];have f:=f6z;rw[Zx9] at f;exact Zc hT f (Za (Xa (by decide)) (Za (Xa (nz.2 hz)) l4)) (by rfl) (by rfl) w
    ·rw[eQn k1.symm hz];have f:=f6;rw[ZnW (.inl rfl) vl hz al] at f;exact Zc hT f (Za (Xa (zO _)) (Za (Xb (fun h=>hz (nz.1 h))) (Za (ZhH (.inl rfl) vl hz (Ztp _)) l4))) (by rfl) (by rfl) w
theorem Z7E (l:List UInt8) (m:Int) (h65:l.length≤10000) (h0:¬ (sgT l).2=Zze) (h1:¬ (sgT l).2=Z42) (h16:Zar [48,120] (sgT l).2=true) (w:World):Calls prog 9 #[bR l,.int .i64 m] w fun e w'=>e= .returned (paV (rdQ m (sgT l).1 16 ((sgT l).2.drop 2)))∧Zal w w':=by
 have hT:=Zj ZfT;have lb:Z3 (lB0 l (sgT l).1):=Za (ze (Xb h1)) (Za (ze (Xb h0)) (Za rfl (Z4 (Xb (by omega)))));have l0:=Za h16 lb;have hs:=Zh5 l;obtain⟨v,hv⟩:∃ v,v=((sgT l).2.drop 2):=⟨_,rfl⟩;have vl:v.length≤10000:=by rw[hv];rw[List.length_drop];omega
 have f1:=Z2z l m (sgT l).1;have f2:=Z20 l m (sgT l).1;have f3:=Z21 l m (sgT l).1;have f4:=Z22 l m (sgT l).1;have f6:=Z23 l m (sgT l).1;have f6z:=Zx7 l m (sgT l).1;obtain⟨mn,hmn⟩:∃ mn,mn=(sgT l).1:=⟨_,rfl⟩;rw[← hv] at f1 f3 f4 f6 f6z f2;rw[← hmn] at f1 f3 f4 f6 f6z l0 f2;rw[← hv,← hmn];have hB:decide (((16:Int)=10∨(16:Int)=16)∧v.length≤100000)=true:=Xa ⟨(.inr rfl),by omega⟩;obtain⟨sb1,sb2,sb3⟩:=Zfd 16 false v;have rl:(rst 16 v).length≤v.length:=ZnV 16 false v;have dl:decide (((rst 16 v).drop 1).length≤100000)=true:=Xa (by rw[List.length_drop];omega);by_cases hD:(sc1 16 false v).1=[]
 ·have e:rdQ m mn 16 v=(0,0,3):=by unfold rdQ scA;rw[if_pos hD,if_pos rfl]
  rw[e];exact Zc hT f1 (Za (Xb (fun h=>h hD)) (Za hB l0)) (by rfl) (by rfl) w
 have l1:=Za (show decide ((sc1 16 false v).1≠[])=true from Xa hD) (Za hB l0);have eS:scA 16 v=scE 16 (rst 16 v):=by unfold scA;rw[if_neg hD];rfl
 obtain⟨k1,k2⟩:=ZiM (b:=16) (.inr rfl) (rst 16 v);rw[← eS] at k1 k2;have eQz:(scA 16 v).2=true→trZ (sc1 16 false v).1=[]→rdQ m mn 16 v=(if mn=true then 9223372036854775808 else 0,0,0):=fun h2 h3=>by unfold rdQ;rw[if_neg (by rw[h2];decide),if_pos h3]
 have eQn:(scA 16 v).2=true→¬ trZ (sc1 16 false v).1=[]→rdQ m mn 16 v=(if mn=true then 9223372036854775808+rnP m mn (dnA 16 (trZ (sc1 16 false v).1) ((sc1 16 false v).2.1:Nat) (scA 16 v).1).1 (dnA 16 (trZ (sc1 16 false v).1) ((sc1 16 false v).2.1:Nat) (scA 16 v).1).2 else rnP m mn (dnA 16 (trZ (sc1 16 false v).1) ((sc1 16 false v).2.1:Nat) (scA 16 v).1).1 (dnA 16 (trZ (sc1 16 false v).1) ((sc1 16 false v).2.1:Nat) (scA 16 v).1).2,rnF m mn (dnA 16 (trZ (sc1 16 false v).1) ((sc1 16 false v).2.1:Nat) (scA 16 v).1).1 (dnA 16 (trZ (sc1 16 false v).1) ((sc1 16 false v).2.1:Nat) (scA 16 v).1).2,0):=fun h2 h3=>by unfold rdQ;rw[if_neg (by rw[h2];decide),if_neg h3]
 have eQe:(scA 16 v).2=false→rdQ m mn 16 v=(0,0,3):=fun h2=>by unfold rdQ;rw[if_pos h2]
 have nz:=ZnU sb3;by_cases hr:rst 16 v=[]
 ·have l2:=Za (show (Zb2 (rst 16 v) [] true).1=true from ze (Xa hr)) l1;have ek:pwK 16 (rst 16 v)=false:=by unfold pwK;rw[if_pos hr];rfl
  rw[ek] at k1;rw[eQe k1.symm];exact Zc hT f2 l2 (by rfl) (by rfl) w
 ·have l2:=Za (show (Zb2 (rst 16 v) [] false).1=false from ze (Xb hr)) l1;have ek:pwK 16 (rst 16 v)=(Zar [112] (rst 16 v) && wnK ((rst 16 v).drop 1)):=by unfold pwK;rw[if_neg hr];rfl
  cases hm:Zar [112] (rst 16 v) with
  | false=>
   rw[hm,Bool.false_and] at ek;rw[ek] at k1;rw[eQe k1.symm];exact Zc hT f3 (Za hm l2) (by rfl) (by rfl) w
  | true=>
   have l3:=Za hm l2;rw[hm,Bool.true_and] at ek;cases hw:wnK ((rst 16 v).drop 1) with
   | false=>
    rw[hw] at ek;rw[ek] at k1;rw[eQe k1.symm];exact Zc hT f4 (Za hw (Za dl l3)) (by rfl) (by rfl) w
   | true=>
    have l4:=Za hw (Za dl l3);rw[hw] at ek;have al:=k2 ek;have ep:Go.Rd.pwP (rst 16 v)=wnP ((rst 16 v).drop 1):=by unfold Go.Rd.pwP;rw[if_neg hr]
    rw[ep] at al;rw[ek] at k1;by_cases hz:trZ (sc1 16 false v).1=[]
    ·rw[eQz k1.symm hz];have f:=f6z;rw[Zx9] at f;exact Zc hT f (Za (Xa (by decide)) (Za (Xa (nz.2 hz)) l4)) (by rfl) (by rfl) w
    ·rw[eQn k1.symm hz];have f:=f6;rw[ZnW (.inr rfl) vl hz al] at f;exact Zc hT f (Za (Xa (zO _)) (Za (Xb (fun h=>hz (nz.1 h))) (Za (ZhH (.inr rfl) vl hz (Ztp _)) l4))) (by rfl) (by rfl) w
theorem Zjg (l:List UInt8) (m:Int) (ho:ZrL l=true) (w:World):Calls prog 9 #[bR l,.int .i64 m] w fun e w'=>e= .returned (paV (rdP m l))∧Zal w w':=by
 have hT:=Zj ZfT;have ho:=Xc ho;unfold rdP;by_cases h65:65536<l.length
 ·rw[if_pos h65];exact Zc hT (ZrI l m) (Z4 (Xa (by omega))) (by rfl) (by rfl) w
 have h6:decide (((l.length:Nat):Int)>65536)=false:=Xb (by omega);rw[if_neg h65];by_cases h1:(sgT l).2=[110,97,110]
 ·rw[if_pos h1];exact Zc hT (Zx4 l m (sgT l).1) (Za (ze (Xa h1)) (Za (ze (Xb (by rw[h1];decide))) (Za rfl (Z4 h6)))) (by rfl) (by rfl) w
 rw[if_neg h1];by_cases h2:(sgT l).2=[105,110,102]
 ·rw[if_pos h2];cases hn:(sgT l).1 with
  | true=>exact Zc hT (ZrJ l m) (Za (ze (Xa h2)) (Za hn (Z4 h6))) (by rfl) (by rfl) w
  | false=>exact Zc hT (ZrK l m) (Za (ze (Xa h2)) (Za hn (Z4 h6))) (by rfl) (by rfl) w
 rw[if_neg h2,Zwy];cases h16:Zar [48,120] (sgT l).2 with
 | true=>
  rw[if_pos rfl];exact Z7E l m (by omega) h2 h1 h16 w
 | false=>
  rw[if_neg (by decide)];exact Z7D l m (by omega) h2 h1 h16 w
def gPR:Ans:=fun vals s=>
 match vals,s with
 | [.string a,.int .i64 m],.inr (.inr (.inr (.inl true)))::s'=>some (paW (rdP m a.data.toList).1 (rdP m a.data.toList).2.1 .nilIface,s',[(decide ((rdP m a.data.toList).2.2=0),true),(ZrL a.data.toList,true)])
 | [.string a,.int .i64 m],.inr (.inr (.inr (.inl false)))::s'=>some (paW 0 0 (erZ (rdP m a.data.toList).2.2),s',[(decide ((rdP m a.data.toList).2.2=0),false),(ZrL a.data.toList,true)])
 | _,_=>none
theorem Z24:ZR 9 gPR:=by
 intro vals s v s' lg h hl w;unfold gPR at h;split at h
 ·rename_i a m s2;cases h;have h1:=Xc (hl _ Xe);have h2:ZrL a.data.toList=true:=hl _ (Xd _ Xf);have:=Zjg a.data.toList m h2 w;unfold paV at this;rw[if_pos h1] at this;exact this
 ·rename_i a m s2;cases h;have h1:=of_decide_eq_false (hl _ Xe);have h2:ZrL a.data.toList=true:=hl _ (Xd _ Xf);have:=Zjg a.data.toList m h2 w;unfold paV at this;rw[if_neg h1] at this;exact this
 ·cases h
end Go.Proofs.YtjlponbdflkbjaaGreatDoor
namespace Go.Proofs.YtjlponbdflkbjaaGreatDoor
open Go.Proofs.Tryz
open Go.IntKind
open Go.KRun Go.Nt Go.Rd
set_option maxRecDepth 100000
def dlL (F:Func):Code:=cIn (cIn (sP F 2))
def dlF (n:Int) (s:List UInt8):List Value:=[.int .u64 n,undef,bR [],bR s]
theorem ZrM:f12.body=some (ZW [sP f12 0,sP f12 1] (.seq (.block 0 (.loop (dlL f12))) (sK f12 3))):=by kernel_rfl
theorem ZxA (n:Int):Zg (evL (Zk prog Zf Zn true) 100 [sP f12 0,sP f12 1] ([.int .u64 n]++List.replicate 20 undef,⟨0,[]⟩,[]) ⟨[],[],[]⟩) 4 17 none (dlF n []) ⟨0,[]⟩ []:=by and_intros<;>kernel_rfl
theorem Z7F (n:Int) (s:List UInt8) (g:Nat→Value):Zg (evC (Zk prog Zf Zn true) 100 false (dlL f12) (dlF n s++tl 17 g,⟨0,[]⟩,[cmp true,cmp false,cmp false,sam true,sam true]) ⟨[],[],[]⟩) 4 17 none (dlF (u64.wrap (n.tdiv 10)) ((((([48,49,50,51,52,53,54,55,56,57]:List UInt8).drop (n.tmod 10).toNat).take ((u64.wrap (n.tmod 10+1)).toNat-(n.tmod 10).toNat)))++s)) ⟨0,[]⟩ [(decide ((((([48,49,50,51,52,53,54,55,56,57]:List UInt8).drop (n.tmod 10).toNat).take ((u64.wrap (n.tmod 10+1)).toNat-(n.tmod 10).toNat))).length+s.length≤9223372036854775807),true),(decide (0≤n.tmod 10∧n.tmod 10≤u64.wrap (n.tmod 10+1)∧u64.wrap (n.tmod 10+1)≤((10:Nat):Int)),true),(decide ((10:Int)=0),false),(decide ((10:Int)=0),false),(decide (n>0),true)]:=by and_intros<;>kernel_rfl
theorem Z7G (n:Int) (s:List UInt8) (g:Nat→Value):Zg (evC (Zk prog Zf Zn true) 100 false (dlL f12) (dlF n s++tl 17 g,⟨0,[]⟩,[cmp false,sam true,cmp false,cmp false,sam true,sam true]) ⟨[],[],[]⟩) 4 17 none (dlF (u64.wrap (n.tdiv 10)) ((((([48,49,50,51,52,53,54,55,56,57]:List UInt8).drop (n.tmod 10).toNat).take ((u64.wrap (n.tmod 10+1)).toNat-(n.tmod 10).toNat)))++s)) ⟨0,[]⟩ [(decide ((((([48,49,50,51,52,53,54,55,56,57]:List UInt8).drop (n.tmod 10).toNat).take ((u64.wrap (n.tmod 10+1)).toNat-(n.tmod 10).toNat))).length+s.length≤9223372036854775807),true),(decide (0≤n.tmod 10∧n.tmod 10≤u64.wrap (n.tmod 10+1)∧u64.wrap (n.tmod 10+1)≤((10:Nat):Int)),true),(decide ((10:Int)=0),false),(decide ((10:Int)=0),false),((⟨⟨s⟩⟩:ByteArray)==⟨⟨[]⟩⟩,true),(decide (n>0),false)]:=by and_intros<;>kernel_rfl
theorem Z7H (n:Int) (s:List UInt8) (g:Nat→Value):Zg (evC (Zk prog Zf Zn true) 100 false (dlL f12) (dlF n s++tl 17 g,⟨0,[]⟩,[cmp false,sam false]) ⟨[],[],[]⟩) 4 17 (some (some 0)) (dlF n s) ⟨0,[]⟩ [((⟨⟨s⟩⟩:ByteArray)==⟨⟨[]⟩⟩,false),(decide (n>0),false)]:=by and_intros<;>kernel_rfl
theorem Z7I (n:Int) (s:List UInt8) (g:Nat→Value):Zg (evC (Zk prog Zf Zn true) 100 false (sK f12 3) (dlF n s++tl 17 g,⟨0,[]⟩,[]) ⟨[],[],[]⟩) 3 18 (some none) [.int .u64 n,undef,bR s] ⟨0,[]⟩ []:=by and_intros<;>kernel_rfl
def dlS (N:Nat) (c:Nat) (s:List UInt8) (y:Lf):Prop:=∃ (f:Nat) (g:Nat→Value),c<10^f∧c<18446744073709551616∧s.length+f≤20∧1≤f+s.length∧(s=[]→1≤f)∧Zga 20 N=(if c=0∧s≠[] then [] else Zga f c)++s∧y.1=dlF c s++tl 17 g∧y.2.1=⟨0,[]⟩
theorem ZrN {N:Nat}(r:Nat) (y:Lf) (h:∃ c s,r=2*c+(if s=[] then 1 else 0)∧dlS N c s y):
  Runs (Zk prog Zf Zn true) (dlL f12) y fun e z=>match e with | none=>∃ r',r'<r∧∃ c s,r'=2*c+(if s=[] then 1 else 0)∧dlS N c s z | some none=>False | some (some id')=>id'=0∧dlS N 0 (Zga 20 N) z∧Zga 20 N≠[]:=by
 have hT:=Zj Zd;obtain⟨c,s,hr,f,g,hc,hu,hf,hf1,hf2,hS,ht,hh⟩:=h;obtain⟨t,h',sc⟩:=y;simp only at ht hh;subst ht hh;by_cases hx:c=0∧s≠[]
 ·have es:Zga 20 N=s:=by rw[hS,if_pos hx];rfl
  refine (Zb (s0:=sc) hT (Z7H (c:Nat) s g) (Za (by rw[ZcI];exact Xb hx.2) (Z4 (Xb (by omega))))).mono fun e z he=> ?_;obtain⟨rfl,⟨g',z1⟩,z2⟩:=he;rw[hx.1] at z1;refine⟨rfl,⟨f,g',Nat.pow_pos (by omega),by omega,by rw[es];exact hf,by rw[es];exact hf1,by rw[es];exact hf2,?_,by rw[es];exact z1,z2⟩,by rw[es];exact hx.2⟩;rw[es,if_pos ⟨rfl,hx.2⟩];rfl
 ·rw[if_neg hx] at hS;have et:((c:Nat):Int).tmod 10=((c % 10:Nat):Int):=by rw[Int.tmod_eq_emod_of_nonneg (by omega)];omega
  have ed:u64.wrap (((c:Nat):Int).tdiv 10)=((c/10:Nat):Int):=by
   rw[Int.tdiv_eq_ediv_of_nonneg (by omega)];simp [IntKind.wrap,IntKind.bits,IntKind.signed];omega
  have ew:u64.wrap (((c % 10:Nat):Int)+1)=((c % 10+1:Nat):Int):=by
   simp [IntKind.wrap,IntKind.bits,IntKind.signed];omega
  have hm:c % 10<10:=Nat.mod_lt _ (by omega);have ep:((([48,49,50,51,52,53,54,55,56,57]:List UInt8).drop ((c % 10:Nat):Int).toNat).take (((c % 10+1:Nat):Int).toNat-((c % 10:Nat):Int).toNat))=[chD (c % 10)]:=by
   rw[Xg,Xg,show c % 10+1-c % 10=1 by omega];exact ZiJ hm
  obtain⟨f',rfl⟩:∃ f',f=f'+1:=by
   cases f with
   | zero=>
    exfalso
    have h0:c=0:=by simpa using hc
    exact hx ⟨h0,fun h=>by have:=hf2 h;omega⟩
   | succ f=>exact⟨f,rfl⟩
  have fin:∀ z:Lf,((none:Ex)=none∧(∃ g',z.1=dlF ((c/10:Nat):Int) ([chD (c % 10)]++s)++tl 17 g')∧z.2.1=⟨0,[]⟩)→∃ r',r'<r∧∃ c s,r'=2*c+(if s=[] then 1 else 0)∧dlS N c s z:=fun z hz=>by
   obtain⟨_,⟨g',z1⟩,z2⟩:=hz;refine⟨2*(c/10),?_,c/10,chD (c % 10)::s,by rw[if_neg (by simp),Nat.add_zero],f',g',by rw[Nat.pow_succ] at hc;omega,by omega,by rw[List.length_cons];omega,by rw[List.length_cons];omega,fun h=>by simp at h,?_,z1,z2⟩
   ·rw[hr];by_cases h0:c=0
    ·have:s=[]:=Decidable.of_not_not fun h=>hx ⟨h0,h⟩;rw[if_pos this];omega
    ·omega
   ·rw[hS,Zga];by_cases h1:c<10
    ·rw[if_pos h1,if_pos ⟨by omega,by simp⟩,Nat.mod_eq_of_lt h1];rfl
    ·rw[if_neg h1,if_neg (fun h=>by have:=h.1;omega)];simp
  have hs19:s.length≤20:=by omega
  by_cases h0:0<c
  ·have hg:=Z7F (c:Nat) s g;rw[et,ed,ew,ep] at hg;refine (Zb (s0:=sc) hT hg (Za (Xa (by rw[List.length_singleton];omega)) (Za (Xa ⟨by omega,by omega,by omega⟩) (Za (by decide) (Za (by decide) (Z4 (Xa (by omega)))))))).mono fun e z he=> ?_;obtain⟨rfl,he⟩:=he;exact fin z ⟨rfl,he⟩
  ·have hs0:s=[]:=Decidable.of_not_not fun h=>hx ⟨by omega,h⟩;have hg:=Z7G (c:Nat) s g;rw[et,ed,ew,ep] at hg;refine (Zb (s0:=sc) hT hg (Za (Xa (by rw[List.length_singleton];omega)) (Za (Xa ⟨by omega,by omega,by omega⟩) (Za (by decide) (Za (by decide) (Za (by rw[ZcI];exact Xa hs0) (Z4 (Xb (by omega))))))))).mono fun e z he=> ?_;obtain⟨rfl,he⟩:=he;exact fin z ⟨rfl,he⟩
theorem Zke (n:Int) (hn:0≤n∧n<18446744073709551616) (w:World):Calls prog 12 #[.int .u64 n] w fun r w'=>r= .returned (bR (dcL n.toNat))∧Zal w w':=by
 have hT:=Zj Zd;refine ZJ (T:=(Zk prog Zf Zn true)) func12 ZrM (by rfl) (by rfl) ?_ w;obtain⟨N,rfl⟩:∃ N:Nat,n=(N:Int):=⟨n.toNat,by omega⟩;rw[Xg];refine Zv hT (ZxA (N:Nat)) ZaI fun g=> ?_;refine Runs.seq (P1:=fun e y=>match e with | none=>dlS N 0 (Zga 20 N) y∧Zga 20 N≠[] | some none=>False | some (some _)=>False) (Runs.forLoop (R:=fun _=>False) (P:=fun y=>dlS N 0 (Zga 20 N) y∧Zga 20 N≠[]) (fun r y=>∃ c s,r=2*c+(if s=[] then 1 else 0)∧dlS N c s y) ZrN (n:=2*N+1) ⟨N,[],rfl,20,g,Z1C (by omega),by omega,by simp,by omega,by omega,by rw[if_neg (by simp),List.append_nil],rfl,rfl⟩) ?_ (fun e y he=>by match e,he with | none,he=>exact he.elim | some _,he=>exact he.elim);rintro⟨t,hh,sc⟩ ⟨⟨f,g',_,_,_,_,_,_,e1,e2⟩,_⟩;simp only at e1 e2;subst e1 e2;refine (Zb (s0:=sc) hT (Z7I ((0:Nat):Int) (Zga 20 N) g') ZaI).mono fun e z he=> ?_;obtain⟨rfl,⟨g2,z1⟩,z2⟩:=he;exact⟨.inr rfl,by rw[z1,z2];rfl⟩
def Z7J:Ans:=fun vals s=>
 match vals with
 | [.int .u64 n]=>some (bR (dcL n.toNat),s,[(decide (0≤n∧n<18446744073709551616),true)])
 | _=>none
theorem ZxB:ZR 12 Z7J:=by
 intro vals s v s' lg h hl w;unfold Z7J at h;split at h
 ·cases h;exact Zke _ (Xc (hl _ Xf)) w
 ·cases h
end Go.Proofs.YtjlponbdflkbjaaGreatDoor
namespace Go.Rd
open Go.Rn
theorem Zt7 {A:List UInt8}(h:zf 10 A=true):∀ d∈A,d≠120:=by
 intro d hd h0;unfold zf at h;rw[List.all_eq_true] at h;have:=ZaR (Xc (h d hd));rw[h0] at this;exact absurd this.2 (by decide)
theorem Z25 {A B:List UInt8}(hA:∀ d∈A,d≠120) (hB:∀ d∈B,d≠120):∀ d∈A++B,d≠120:=fun d hd=>(List.mem_append.1 hd).elim (hA d) (hB d)
theorem ZxC {c:UInt8}{B:List UInt8}(hc:c≠120) (hB:∀ d∈B,d≠120):∀ d∈c::B,d≠120:=fun d hd=>(List.mem_cons.1 hd).elim (fun h=>by rw[h];exact hc) (hB d)
theorem Z26 {b:Int}{v D:List UInt8}{k:Nat}{r:List UInt8}(h:sc1 b false v=(D,k,r)) (hD:D≠[]):scA b v=scE b r:=by
 unfold scA;rw[h];dsimp only;rw[if_neg hD]
theorem Z7K (m:Int) (n:Bool) {A B:List UInt8}(hA:zf 10 A=true) (hB:zf 10 B=true) (h0:A≠[]):rdQ m n 10 (A++46::B)=rdN m n (nmB 10 (A++B)) (0-(B.length:Nat)):=by
 have e2:sc1 10 true B=(B,B.length,[]):=by
  have:=Znz hB true [];rw[List.append_nil,Zwv] at this;rw[this];simp
 have e:sc1 10 false (A++46::B)=(A++B,B.length,[]):=by
  rw[Znz hA,Z1D,e2];simp
 have ea:=Z26 e (fun h=>h0 (List.append_eq_nil_iff.1 h).1);have er:scE 10 []=(0,true):=rfl;rw[er] at ea;rw[Zww (by rw[ea]),ea,e]
theorem Zkf (m:Int) {A t:List UInt8}(hA:zf 10 A=true) (h0:A≠[]) (ht:∀ d∈t,d≠120) (hl:(A++t).length≤65000):rdP m (A++t)=rdQ m false 10 (A++t)∧rdP m (45::(A++t))=rdQ m true 10 (A++t):=by
 cases A with
 | nil=>exact absurd rfl h0
 | cons c A=>
  have hn:=Zt7 hA;unfold zf at hA;rw[List.all_cons,Xh] at hA;have hc:=ZaR (Xc hA.1);have hr:∀ d∈A++t,d≠120:=Z25 (fun d hd=>hn d (Xd _ hd)) ht;rw[List.cons_append] at hl ⊢;exact⟨ZiL (by omega) (Zn2 hc) hc hr,ZiL (by rw[List.length_cons];omega) (Zn3 _) hc hr⟩
theorem ZnX (n:Nat):zf 10 (dcL n)=true:=Zra 20 n 10
theorem ZnY (n:Nat):(dcL n).length≤20:=Zrb 20 n
theorem ZxD (m:Int) (N k d:Nat) (hk:k≤1000) (hd:d<10):(rdP m (dcL N++46::(List.replicate k 48++[chD d]))).2.2=0:=by
 have h1:zf 10 [chD d]=true:=by
  unfold zf;rw[List.all_cons,Zny hd,Xa (by omega)];rfl
 have hB:zf 10 (List.replicate k 48++[chD d])=true:=ZiK (Zn1 10 k) h1;have hl:=ZnY N;rw[(Zkf m (ZnX N) (Ztn N) (ZxC (by decide) (Zt7 hB)) (by rw[List.length_append,List.length_cons,List.length_append,List.length_replicate,List.length_singleton];omega)).1,Z7K m false (ZnX N) hB (Ztn N)];exact Zwx _ _ _ _
end Go.Rd
namespace Go.Proofs.YtjlponbdflkbjaaGreatDoor
open Go.Proofs.Tryz
open Go.KRun Go.Nt Go.Rd Go.Rn
set_option maxRecDepth 100000
def ZxE:Con:=alt 9 gPR (alt 12 Z7J Zn)
theorem Zjh:ConOk ZxE:=Z9 func9 rfl Z24 (Z9 func12 rfl ZxB Zd)
def Z27:List UInt8:=[48,46,49]
def Z28:List UInt8:=[48,120,49,112,45,49,48,55,52]
theorem Z29:Z7 (Zm (Zk prog Zf ZxE true) 300 8 [] [cmp true,cmp true,cmp true,cmp true,cmp true,cmp true]) (.bool true) [((rdP 4 Z28).2.1==0,true),((rdP 4 Z28).1==1,true),((rdP 0 Z27).2.1==16,true),((rdP 0 Z27).1==4591870180066957722,true),(decide ((rdP 4 Z28).2.2=0),true),(ZrL Z28,true),(decide ((rdP 0 Z27).2.2=0),true),(ZrL Z27,true)]:=by and_intros<;>kernel_rfl
theorem Zev:rdP 0 Z27=(4591870180066957722,16,0):=by kernel_rfl
theorem Zew:rdP 4 Z28=(1,0,0):=by kernel_rfl
def ZhI:Ans:=fun vals s=>match vals with | []=>some (.bool true,s,[]) | _=>none
theorem Zkg:ZR 8 ZhI:=by
 intro vals s v s' lg h hl w;unfold ZhI at h;split at h
 ·cases h;exact Zc (Zj Zjh) Z29 (Za (by rw[Zew];rfl) (Za (by rw[Zew];rfl) (Za (by rw[Zev];rfl) (Za (by rw[Zev];rfl) (Za (by rw[Zew];rfl) (Za (by rfl) (Za (by rw[Zev];rfl) (Z4 (by rfl))))))))) (by rfl) (by rfl) w
 ·cases h
def Z2A:Con:=alt 8 ZhI ZxE
theorem ZrO:ConOk Z2A:=Z9 func8 rfl Zkg Zjh
end Go.Proofs.YtjlponbdflkbjaaGreatDoor
namespace Go.Proofs.YtjlponbdflkbjaaGreatDoor
open Go.IntKind
open Go.KRun Go.Nt Go.Rd Go.Rn
set_option maxRecDepth 100000
def ofV (a b:Int):Value:= .agg #[.int .i64 a,.int .i64 b]
def rnM (a b:Int):Hp:=⟨1,[([.int .i64 a,.int .i64 b],34)]⟩
def dcP (d:Int):List UInt8:=(([48,49,50,51,52,53,54,55,56,57]:List UInt8).drop (d.tmod 10).toNat).take ((u64.wrap (d.tmod 10+1)).toNat-(d.tmod 10).toNat)
theorem Z2B {d:Int}(h:0≤d):dcP d=[chD (d.toNat % 10)]:=by
 have e:d.tmod 10=((d.toNat % 10:Nat):Int):=by rw[Int.tmod_eq_emod_of_nonneg h];omega
 have ew:u64.wrap (((d.toNat % 10:Nat):Int)+1)=((d.toNat % 10+1:Nat):Int):=by
  simp [IntKind.wrap,IntKind.bits,IntKind.signed];omega
 unfold dcP;rw[e,ew,Xg,Xg,show d.toNat % 10+1-d.toNat % 10=1 by omega];exact ZiJ (Nat.mod_lt _ (by omega))
theorem ZxF (m:Int) (n:Bool) (T:Nat) (E:Int):0≤rnF m n T E∧rnF m n T E≤24:=by
 unfold rnF;split
 ·exact⟨by decide,by decide⟩
 split
 ·exact⟨by decide,by decide⟩
 split
 ·split
  ·exact⟨by decide,by decide⟩
  ·exact⟨by decide,by decide⟩
 ·exact⟨by decide,by decide⟩
theorem ZnZ {n:Int}(h:0≤n) (h1:n<18446744073709551616):u64.wrap n=n:=by
 simp [IntKind.wrap,IntKind.bits,IntKind.signed];omega
theorem Z2C (m:Int) (l:List UInt8):0≤(rdP m l).2.1∧(rdP m l).2.1≤24:=by
 unfold rdP;split
 ·exact⟨by decide,by decide⟩
 split
 ·exact⟨by decide,by decide⟩
 split
 ·exact⟨show (0:Int)≤0 by decide,show (0:Int)≤24 by decide⟩
 unfold rdQ;split
 ·exact⟨by decide,by decide⟩
 split
 ·exact⟨show (0:Int)≤0 by decide,show (0:Int)≤24 by decide⟩
 ·exact ZxF _ _ _ _
end Go.Proofs.YtjlponbdflkbjaaGreatDoor
namespace Go.Proofs.YtjlponbdflkbjaaGreatDoor
open Go.Proofs.Tryz
open Go.IntKind
open Go.KRun Go.Rd
set_option maxRecDepth 100000
def Zzf:List UInt8:=[48,49,50,51,52,53,54,55,56,57,97,98,99,100,101,102]
def Z2D (F:Func):Code:=cIn (cIn (Zz (sP F 1)))
theorem ZxG:f44.body=some (ZW [sP f44 0] (.seq (.seq (Z2 (sP f44 1)) (.block 0 (.loop (Z2D f44)))) (sK f44 2))):=by kernel_rfl
def Zt8 (c b i:Int):List Value:=[.int .u8 c,.int .i64 b,undef,undef,.int .i64 0,.int .i64 i]
theorem Z2E (c b:Int):Zg (evL (Zk prog Zf Zn true) 100 [sP f44 0] ([.int .u8 c,.int .i64 b]++List.replicate 14 undef,⟨0,[]⟩,[]) ⟨[],[],[]⟩) 5 11 none [.int .u8 c,.int .i64 b,undef,undef,.int .i64 0] ⟨0,[]⟩ []:=by and_intros<;>kernel_rfl
theorem Z9K (c b:Int) (g:Nat→Value):Zg (evC (Zk prog Zf Zn true) 100 false (Z2 (sP f44 1)) ([.int .u8 c,.int .i64 b,undef,undef,.int .i64 0]++tl 11 g,⟨0,[]⟩,[]) ⟨[],[],[]⟩) 6 10 none (Zt8 c b 0) ⟨0,[]⟩ []:=by and_intros<;>kernel_rfl
theorem Z9L (c b i:Int) (g:Nat→Value):Zg (evC (Zk prog Zf Zn true) 100 false (Z2D f44) (Zt8 c b i++tl 10 g,⟨0,[]⟩,[cmp false]) ⟨[],[],[]⟩) 6 10 (some (some 0)) (Zt8 c b i) ⟨0,[]⟩ [(decide (i<b),false)]:=by and_intros<;>kernel_rfl
theorem Z9M (c b i:Int) (g:Nat→Value):Zg (evC (Zk prog Zf Zn true) 100 false (Z2D f44) (Zt8 c b i++tl 10 g,⟨0,[]⟩,[cmp true,cmp true]) ⟨[],[],[]⟩) 5 11 (some none) [.int .u8 c,.int .i64 b,undef,undef,.int .i64 i] ⟨0,[]⟩ [(byR Zzf i==c,true),(decide (0≤i∧i.toNat<16),true),(decide (i<b),true)]:=by and_intros<;>kernel_rfl
theorem Z9N (c b i:Int) (g:Nat→Value):Zg (evC (Zk prog Zf Zn true) 100 false (Z2D f44) (Zt8 c b i++tl 10 g,⟨0,[]⟩,[cmp true,cmp false]) ⟨[],[],[]⟩) 6 10 none (Zt8 c b (i64.wrap (i+1))) ⟨0,[]⟩ [(byR Zzf i==c,false),(decide (0≤i∧i.toNat<16),true),(decide (i<b),true)]:=by and_intros<;>kernel_rfl
theorem Z9O (c b i:Int) (g:Nat→Value):Zg (evC (Zk prog Zf Zn true) 100 false (sK f44 2) (Zt8 c b i++tl 10 g,⟨0,[]⟩,[]) ⟨[],[],[]⟩) 5 11 (some none) [.int .u8 c,.int .i64 b,undef,undef,.int .i64 (-1)] ⟨0,[]⟩ []:=by and_intros<;>kernel_rfl
theorem Zoa {i:Nat}(h:i<16):byR Zzf (i:Int)=if i<10 then 48+(i:Int) else 87+(i:Int):=by
 have k:∀ j:Fin 16,byR Zzf (j.val:Int)=if j.val<10 then 48+(j.val:Int) else 87+(j.val:Int):=by decide
 exact k ⟨i,h⟩
def Zzg (c b:Int) (i:Nat) (y:Lf):Prop:=∃ g:Nat→Value,(i:Int)≤b∧(∀ j:Nat,j<i→byR Zzf (j:Int)≠c)∧y.1=Zt8 c b i++tl 10 g∧y.2.1=⟨0,[]⟩
def Z7L (c b:Int) (y:Lf):Prop:=ZV prog f44 y.1 y.2.1=some (.int .i64 (ZO c b))
theorem ZrP {c b:Int}(hb:b=10∨b=16) (r:Nat) (y:Lf) (h:∃ i,r=b.toNat-i∧Zzg c b i y):
  Runs (Zk prog Zf Zn true) (Z2D f44) y fun e z=>match e with | none=>∃ r',r'<r∧∃ i,r'=b.toNat-i∧Zzg c b i z | some none=>Z7L c b z | some (some id')=>id'=0∧Zzg c b b.toNat z:=by
 have hT:=Zj Zd;obtain⟨i,hr,g,hi,hn,ht,hh⟩:=h;obtain⟨t,h',sc⟩:=y;simp only at ht hh;subst ht hh;by_cases hc:(i:Int)<b
 ·have lA:decide (((i:Nat):Int)<b)=true:=Xa hc;have lI:decide ((0:Int)≤(i:Nat)∧((i:Nat):Int).toNat<16)=true:=Xa (by omega);have ha:=Zoa (i:=i) (by omega);by_cases hd:byR Zzf (i:Int)=c
  ·refine (Zb (s0:=sc) hT (Z9M c b (i:Nat) g) (Za (zv hd) (Za lI (Z4 lA)))).mono fun e z he=> ?_;obtain⟨rfl,⟨g',z1⟩,z2⟩:=he;have e:ZO c b=(i:Int):=by
    rw[ha] at hd;unfold ZO;split at hd
    ·rw[if_pos (by omega)];omega
    ·rw[if_neg (by omega),if_pos (by omega)];omega
   show ZV prog f44 z.1 z.2.1=some (.int .i64 (ZO c b));rw[e,z1,z2];rfl
  ·have hg:=Z9N c b (i:Nat) g;rw[wN (by omega)] at hg;refine (Zb (s0:=sc) hT hg (Za (zw hd) (Za lI (Z4 lA)))).mono fun e z he=> ?_;obtain⟨rfl,⟨g',z1⟩,z2⟩:=he;refine⟨b.toNat-(i+1),by omega,i+1,rfl,g',by omega,fun j hj=> ?_,z1,z2⟩;by_cases hji:j=i
   ·rw[hji];exact hd
   ·exact hn j (by omega)
 ·have e:i=b.toNat:=by omega
  subst e;refine (Zb (s0:=sc) hT (Z9L c b _ g) (Z4 (Xb hc))).mono fun e z he=> ?_;obtain⟨rfl,⟨g',z1⟩,z2⟩:=he;exact⟨rfl,g',hi,hn,z1,z2⟩
theorem ZrQ {c b:Int}(hb:b=10∨b=16) (w:World):Calls prog 44 #[.int .u8 c,.int .i64 b] w fun r w'=>r= .returned (.int .i64 (ZO c b))∧Zal w w':=by
 have hT:=Zj Zd;refine ZJ (T:=Zk prog Zf Zn true) func44 ZxG (by rfl) (by rfl) ?_ w;refine Zv hT (Z2E c b) ZaI fun g=> ?_;refine Runs.seq (P1:=fun e y=>match e with | none=>Zzg c b b.toNat y | some none=>Z7L c b y | some (some _)=>False) ?_ ?_ ?_
 ·refine Runs.seq (Zb hT (Z9K c b g) ZaI) ?_ (fun e y he=>by cases he.1);rintro⟨t,hh,sc⟩ ⟨_,⟨g',e1⟩,e2⟩;simp only at e1 e2;subst e1 e2;exact Runs.forLoop (R:=Z7L c b) (P:=Zzg c b b.toNat) (fun r y=>∃ i,r=b.toNat-i∧Zzg c b i y) (ZrP hb) (n:=b.toNat-0) ⟨0,rfl,g',by omega,fun j hj=>absurd hj (Nat.not_lt_zero _),rfl,rfl⟩
 ·rintro⟨t,hh,sc⟩ ⟨g',_,hn,e1,e2⟩;simp only at e1 e2;subst e1 e2;refine (Zb (s0:=sc) hT (Z9O c b _ g') ZaI).mono fun e z he=> ?_;obtain⟨rfl,⟨g2,z1⟩,z2⟩:=he;have e:ZO c b= -1:=by
   unfold ZO;rw[if_neg,if_neg]
   ·rintro⟨h1,h2,h3⟩;refine hn (c-87).toNat (by omega) ?_;rw[Zoa (by omega),if_neg (by omega)];omega
   ·rintro⟨h2,h3⟩;refine hn (c-48).toNat (by omega) ?_;rw[Zoa (by omega),if_pos (by omega)];omega
  rw[e];exact⟨.inr rfl,by rw[z1,z2];rfl⟩
 ·rintro e y he
  match e,he with
  | none,he=>exact⟨.inr rfl,he⟩
def Z7M:Ans:=fun vals s=>
 match vals with
 | [.int .u8 c,.int .i64 b]=>some (.int .i64 (ZO c b),s,[(decide (b=10∨b=16),true)])
 | _=>none
theorem ZxH:ZR 44 Z7M:=by
 intro vals s v s' lg h hl w;unfold Z7M at h;split at h
 ·rename_i c b;cases h;exact ZrQ (Xc (hl _ Xf)) w
 ·cases h
def ZG:Con:=alt 44 Z7M Zn
theorem Zcb:ConOk ZG:=Z9 func44 rfl ZxH Zd
end Go.Proofs.YtjlponbdflkbjaaGreatDoor
namespace Go.Proofs.YtjlponbdflkbjaaGreatDoor
open Go.Proofs.Tryz
open Go.IntKind
open Go.KRun Go.Nt Go.Rd
set_option maxRecDepth 100000
def rfP (F:Func):List Code:=[Z2 (Zs F),Z2 (Zz (Zs F))]
def rfI (F:Func):Code:=Z2 (Z2 (Zz (Zz (Zs F))))
def rfL (F:Func):Code:=cIn (cIn (Zz (Z2 (Zz (Zz (Zs F))))))
def rfE (F:Func):Code:=Zz (Zz (Zz (Zs F)))
theorem ZxI:f51.body=some (ZW (rfP f51) (.seq (.seq (rfI f51) (.block 0 (.loop (rfL f51)))) (rfE f51))):=by kernel_rfl
theorem Zkh:TabOk (Zr prog Zf ZG Zd0):=Zh Zcb ZmN
def rfF (l:List UInt8) (b:Int) (out:Value) (i:Int):List Value:=[bR l,.int .i64 b,undef,undef,Zp,out,.int .i64 i]
theorem Z2F (l:List UInt8) (b:Int):Zg (evL (Zr prog Zf ZG Zd0) 100 (rfP f51) ([bR l,.int .i64 b]++List.replicate 22 undef,⟨0,[]⟩,[]) ⟨[],[],[]⟩) 6 18 none [bR l,.int .i64 b,undef,undef,Zp,Zp] ⟨0,[]⟩ []:=by and_intros<;>kernel_rfl
theorem Z9P (l:List UInt8) (b:Int) (h:Hp) (g:Nat→Value):Zg (evC (Zr prog Zf ZG Zd0) 100 false (rfI f51) ([bR l,.int .i64 b,undef,undef,Zp,Zp]++tl 18 g,h,[]) ⟨[],[],[]⟩) 7 17 none (rfF l b Zp 0) h []:=by and_intros<;>kernel_rfl
theorem Z9Q (l:List UInt8) (b:Int) (out:Value) (i:Int) (h:Hp) (g:Nat→Value):Zg (evC (Zr prog Zf ZG Zd0) 100 false (rfL f51) (rfF l b out i++tl 17 g,h,[cmp false]) ⟨[],[],[]⟩) 7 17 (some (some 0)) (rfF l b out i) h [(decide (i<(l.length:Nat)),false)]:=by and_intros<;>kernel_rfl
theorem Z7N (l:List UInt8) (b i:Int) (W:Nat) (g:Nat→Value):Zg (evC (Zr prog Zf ZG Zd0) 100 false (rfL f51) (rfF l b Zp i++tl 17 g,⟨0,[]⟩,[cmp true,cmp true,num W]) ⟨[],[],[]⟩) 7 17 none (rfF l b (sq0 W) (i64.wrap (i+1))) (pA W) [(decide (vO ⟨0,[]⟩ none 0*(u32.wrap b).toNat+(u32.wrap (ZO (byR l i) b)).toNat=W),true),(ZaV ⟨0,[]⟩ none 0 0 (u32.wrap b) (u32.wrap (ZO (byR l i) b)),true),(decide (0<0∨0<(u32.wrap (ZO (byR l i) b))),true),(decide (b=10∨b=16),true),(decide (0≤i∧i.toNat<l.length),true),(decide (i<(l.length:Nat)),true)]:=by and_intros<;>kernel_rfl
theorem Z7O (l:List UInt8) (b i:Int) (V W:Nat) (g:Nat→Value):Zg (evC (Zr prog Zf ZG Zd0) 100 false (rfL f51) (rfF l b (sq0 V) i++tl 17 g,pA V,[cmp true,cmp true,num W]) ⟨[],[],[]⟩) 7 17 none (rfF l b (sl 1 0 (d16 W).length (d16 W).length) (i64.wrap (i+1))) ⟨2,[wq W,wq V]⟩ [(decide (vO (pA V) (some ⟨0,0,none⟩) (d16 V).length*(u32.wrap b).toNat+(u32.wrap (ZO (byR l i) b)).toNat=W),true),(ZaV (pA V) (some ⟨0,0,none⟩) (d16 V).length (d16 V).length (u32.wrap b) (u32.wrap (ZO (byR l i) b)),true),(decide (0<(d16 V).length∨0<(u32.wrap (ZO (byR l i) b))),true),(decide (b=10∨b=16),true),(decide (0≤i∧i.toNat<l.length),true),(decide (i<(l.length:Nat)),true)]:=by and_intros<;>kernel_rfl
theorem Z9R (l:List UInt8) (b:Int) (out:Value) (i:Int) (h:Hp) (g:Nat→Value):Zg (evC (Zr prog Zf ZG Zd0) 100 false (rfE f51) (rfF l b out i++tl 17 g,h,[]) ⟨[],[],[]⟩) 5 19 (some none) [bR l,.int .i64 b,undef,undef,out] h []:=by and_intros<;>kernel_rfl
def ZrR (b:Int) (l:List UInt8):Bool:=decide ((b=10∨b=16)∧l.length≤20000) && zf b l && decide (0<ZO (byR l 0) b)
theorem ZrS {b:Int}{l:List UInt8}(h:zf b l=true) {i:Nat}(hi:i<l.length):0≤ZO (byR l (i:Nat)) b:=by
 unfold zf at h;rw[List.all_eq_true] at h;have h1:=h (l.getD i 0) (by rw[List.getD_eq_getElem?_getD,List.getElem?_eq_getElem hi,Option.getD_some];exact List.getElem_mem hi);unfold byR;rw[Xg];exact Xc h1
theorem Zn9 {b:Int}(hb:b=10∨b=16) (l:List UInt8):(d16 (nmB b l)).length≤l.length:=by
 refine Zem (Nat.lt_of_lt_of_le (Zdu hb l) ?_);have h1:b.toNat^l.length≤16^l.length:=Nat.pow_le_pow_left (by omega) _;have h2:(16:Nat)^l.length=2^(4*l.length):=by rw[Nat.pow_mul]
 have h3:(2:Nat)^(4*l.length)≤2^(16*l.length):=Nat.pow_le_pow_right (by omega) (by omega);omega
def rfS (b:Int) (l:List UInt8) (i:Nat) (y:Lf):Prop:=(i=0∧∃ g,y.1=rfF l b Zp i++tl 17 g∧y.2.1=⟨0,[]⟩)∨(0<i∧0<nmB b (l.take i)∧∃ g,y.1=rfF l b (sq0 (nmB b (l.take i))) i++tl 17 g∧y.2.1=pA (nmB b (l.take i)))
theorem ZrT {b:Int}{l:List UInt8}(hb:b=10∨b=16) (h2:l.length≤20000) (hA:zf b l=true) (h0:0<ZO (byR l 0) b) (r:Nat) (y:Lf) (h:∃ i,i≤l.length∧r=l.length-i∧rfS b l i y):
  RunsW (Zr prog Zf ZG Zd0) (rfL f51) y fun e z=>match e with | none=>∃ r',r'<r∧∃ i,i≤l.length∧r'=l.length-i∧rfS b l i z | some none=>False | some (some id')=>id'=0∧rfS b l l.length z:=by
 obtain⟨i,hi,hr,hS⟩:=h;obtain⟨t,h',sc⟩:=y;by_cases hc:i<l.length
 ·have lA:decide (((i:Nat):Int)<(l.length:Nat))=true:=Xa (by omega);have lI:decide ((0:Int)≤(i:Nat)∧((i:Nat):Int).toNat<l.length)=true:=Xa ⟨by omega,by rw[Xg];exact hc⟩;have lB:decide (b=10∨b=16)=true:=Xa hb;have ew:i64.wrap (((i:Nat):Int)+1)=((i+1:Nat):Int):=by rw[Zw (by omega) (by omega)];omega
  have bD:=ZfL (byR l (i:Nat)) b;have bd0:=ZrS hA hc;have eD:(u32.wrap (ZO (byR l (i:Nat)) b))=ZO (byR l (i:Nat)) b:=by
   simp [IntKind.wrap,IntKind.bits,IntKind.signed];omega
  have eB:u32.wrap b=b:=by
   simp [IntKind.wrap,IntKind.bits,IntKind.signed];omega
  have eV:=ZfM b l hc;have eC:lq8 (l.getD i 0)=byR l (i:Nat):=by unfold lq8 byR;rw[Xg]
  rw[eC] at eV;rcases hS with ⟨hz,g,ht,hh⟩ | ⟨hz,hp,g,ht,hh⟩
  ·simp only at ht hh;subst ht hh;have hg:=Z7N l b (i:Nat) (nmB b (l.take (i+1))) g;rw[ew,eD,eB] at hg;have d0:0<ZO (byR l (i:Nat)) b:=by rw[hz];exact h0
   have e0:nmB b (l.take i)=0:=by rw[hz];rfl
   have k0:ZaV ⟨0,[]⟩ none 0 0 b (ZO (byR l (i:Nat)) b)=true:=by
    unfold ZaV;rw[Xa ⟨⟨by omega,by omega⟩,by omega,by omega⟩];rfl
   refine (Ze (s0:=sc) Zkh hg (Za (Xa (by rw[eV,e0,show vO ⟨0,[]⟩ none 0=0 from rfl])) (Za k0 (Za (Xa (.inr d0)) (Za lB (Za lI (Z4 lA))))))).mono fun e z he=> ?_;obtain⟨rfl,⟨g',z1⟩,z2⟩:=he;exact⟨l.length-(i+1),by omega,i+1,by omega,rfl,.inr ⟨by omega,by rw[eV,e0];omega,g',z1,z2⟩⟩
  ·simp only at ht hh;subst ht hh;have lV:=Zn9 hb (l.take i);have lT:(l.take i).length≤i:=by rw[List.length_take];omega
   obtain⟨V,hV⟩:∃ V,V=nmB b (l.take i):=⟨_,rfl⟩;rw[← hV] at eV lV hp;have h1:0<(d16 V).length:=by
    unfold d16;rw[List.length_pos_iff,ne_eq,Zcz (by omega)];omega
   have k1:ZaV (pA V) (some ⟨0,0,none⟩) (d16 V).length (d16 V).length b (ZO (byR l (i:Nat)) b)=true:=by
    unfold ZaV;rw[ZN (h:=pA V) (b:=0) (A:=V) rfl (by omega),zW (h:=pA V) (b:=0) (A:=V) (ty:=tU) rfl,Zo.2 (by omega),Xa ⟨⟨by omega,by omega⟩,by omega,by omega⟩];rfl
   have q1:decide (vO (pA V) (some ⟨0,0,none⟩) (d16 V).length*b.toNat+(ZO (byR l (i:Nat)) b).toNat=nmB b (l.take (i+1)))=true:=Xa (by rw[z4 (h:=pA V) (b:=0) (A:=V) (ty:=tU) rfl,eV]);have hg:=Z7O l b (i:Nat) V (nmB b (l.take (i+1))) g;rw[ew,eD,eB] at hg;rw[← hV];have hb0:0<b.toNat:=by omega
   have hW:0<nmB b (l.take (i+1)):=by rw[eV];have:=Nat.mul_pos hp hb0;omega
   refine ((Ze (s0:=sc) Zkh hg (Za q1 (Za k1 (Za (Xa (.inl h1)) (Za lB (Za lI (Z4 lA))))))).kept (k:=0) (b:=1) (base:=[]) (y:=wq (nmB b (l.take (i+1)))) (front':=rfF l b (sq0 (nmB b (l.take (i+1)))) ((i+1:Nat):Int)) rfl (by kernel_rfl) (fun j x hx=>by have:j<0:=Hp.blk_lt hx;omega) rfl (by omega) (ZD _) (by
    intro v hv;simp only[rfF,List.mem_cons,List.not_mem_nil,or_false] at hv;rcases hv with rfl | rfl | rfl | rfl | rfl | rfl | rfl<;>rfl)).mono fun e z he=> ?_
   obtain⟨rfl,⟨g',z1⟩,z2⟩:=he;exact⟨l.length-(i+1),by omega,i+1,by omega,rfl,.inr ⟨by omega,hW,g',z1,z2⟩⟩
 ·have his:i=l.length:=by omega
  have out:∀ (o:Value) (g:Nat→Value),RunsW (Zr prog Zf ZG Zd0) (rfL f51) (rfF l b o i++tl 17 g,h',sc) fun e z=>e=some (some 0)∧(∃ g,z.1=rfF l b o i++tl 17 g)∧z.2.1=h':=fun o g=>Ze (s0:=sc) Zkh (Z9Q l b o (i:Nat) h' g) (Z4 (Xb (by omega)));rw[← his];rcases hS with ⟨hz,g,ht,hh⟩ | ⟨hz,hp,g,ht,hh⟩
  ·simp only at ht hh;subst ht;refine (out _ g).mono fun e z he=> ?_;obtain⟨rfl,⟨g',z1⟩,z2⟩:=he;exact⟨rfl,.inl ⟨hz,g',z1,z2.trans hh⟩⟩
  ·simp only at ht hh;subst ht;refine (out _ g).mono fun e z he=> ?_;obtain⟨rfl,⟨g',z1⟩,z2⟩:=he;exact⟨rfl,.inr ⟨hz,hp,g',z1,z2.trans hh⟩⟩
theorem ZxJ {b:Int}{l:List UInt8}(hb:b=10∨b=16) (h2:l.length≤20000) (hA:zf b l=true) (h0:0<ZO (byR l 0) b):RunsW (Zr prog Zf ZG Zd0) (ZW (rfP f51) (.seq (.seq (rfI f51) (.block 0 (.loop (rfL f51)))) (rfE f51))) ([bR l,.int .i64 b]++List.replicate 22 undef,⟨0,[]⟩,[]) fun e z=>(e=none∨e=some none)∧ZV prog f51 z.1 z.2.1=some (sl 0 0 (d16 (nmB b l)).length (d16 (nmB b l)).length)∧∃ r,z.2.1.blk? 0=some (wU (d16 (nmB b l))++r,tU):=by
 refine Z0 Zkh (Z2F l b) ZaI fun g=> ?_;refine RunsW.seq (P1:=fun e y=>match e with | none=>rfS b l l.length y | some none=>False | some (some _)=>False) ?_ ?_ ?_
 ·refine RunsW.seq (Ze Zkh (Z9P l b _ g) ZaI) ?_ (fun e y he=>by cases he.1);rintro⟨t,hh,sc⟩ ⟨_,⟨g',e1⟩,e2⟩;refine RunsW.forLoop (R:=fun _=>False) (P:=rfS b l l.length) (fun r y=>∃ i,i≤l.length∧r=l.length-i∧rfS b l i y) (ZrT hb h2 hA h0) (n:=l.length) ⟨0,by omega,rfl,.inl ⟨rfl,g',e1,e2⟩⟩
 ·rintro⟨t,hh,sc⟩ hS;have et:l.take l.length=l:=List.take_length;rcases hS with ⟨hz,g',e1,e2⟩ | ⟨hz,hp,g',e1,e2⟩
  ·exfalso
   have:l=[]:=List.eq_nil_of_length_eq_zero hz;rw[this] at h0;have e:ZO (byR [] 0) b= -1:=by
    unfold byR ZO;rw[if_neg (by decide),if_neg (by intro h;exact absurd h.2.1 (by decide))]
   omega
  ·simp only at e1 e2;subst e1 e2;rw[et];refine (Ze (s0:=sc) Zkh (Z9R l b _ _ _ g') ZaI).mono fun e z he=> ?_;obtain⟨rfl,⟨g2,z1⟩,z2⟩:=he;exact⟨.inr rfl,by rw[z1,z2];rfl,[],by rw[z2,List.append_nil];rfl⟩
 ·rintro e ⟨t,hh,sc⟩ hc
  match e,hc with
  | none,hc=>exact hc.elim
  | some _,hc=>exact hc.elim
def Z7P:Zad:=fun vals h s=>
 match vals,s with
 | [.string ⟨⟨l⟩⟩,.int .i64 b],.inr (.inl V)::s'=>Zde V.toNat h s' [(decide (nmB b l=V.toNat),true),(ZrR b l,true)]
 | _,_=>none
theorem ZxK:Z8 51 Z7P:=by
 intro vals h s v h' s' lg hg hl m B w E hv;unfold Z7P at hg;split at hg
 ·rename_i l b V s2;unfold Zde at hg;cases hg;rw[ZcQ,ZcQ] at hl;obtain⟨l0,l1,_⟩:=hl;have l0:=Xc l0;rw[← l0];unfold ZrR at l1;simp only[Xh,Xi] at l1;obtain⟨⟨⟨q1,q2⟩,q3⟩,q4⟩:=l1;have r:=ZxJ q1 q2 q3 q4;have e:rn (fun _=>h.n) (sl 0 0 (d16 (nmB b l)).length (d16 (nmB b l)).length)=sl h.n 0 (d16 (nmB b l)).length (d16 (nmB b l)).length:=by kernel_rfl
  have:=ZE (T:=(Zr prog Zf ZG Zd0)) func51 ZxI (h0:=⟨0,[]⟩) ⟨rfl,fun b x hx=>by have:b<0:=Hp.blk_lt hx;omega⟩ (vals:=[bR l,.int .i64 b]) (fun v hv=>by
   simp only[List.mem_cons,List.not_mem_nil,or_false] at hv;rcases hv with h1 | h1<;>rw[h1]<;>rfl) (k:=0) (cs:=wU (d16 (nmB b l))) (ty:=tU) (Zbb _) (by kernel_rfl) r (by rfl) E (s:=fun i=>i) (fun i x hx=>by have:i<0:=Hp.blk_lt hx;omega)
  rw[e] at this;exact this
 ·cases hg
end Go.Proofs.YtjlponbdflkbjaaGreatDoor
