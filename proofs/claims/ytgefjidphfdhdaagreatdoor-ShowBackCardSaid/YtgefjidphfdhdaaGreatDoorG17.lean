/-
  RnB, RnC, RnD, RnE, ShD, ShE, ShQ, ShR, ShS, ShT, ShV, RpC, RpD
-/
import Derived.Test.YtgefjidphfdhdaaGreatDoorG16
namespace Go.Proofs.YtgefjidphfdhdaaGreatDoor
open Go.Proofs.Tryz
open Go.KRun Go.Wd Go.Pt Go.Rn
set_option maxRecDepth 100000
def Z3p (x:W4) (b:Bool) (d:Nat):Value:= .tuple #[vW (ofN (tw x b/2^(d+1))),.int .i64 (ze (tw x b % 2^(d+1)) (2^(d+1)))]
theorem Zje {x:W4}{n:Int}(h:x.ok) (h0: -9223372036854775808≤n) (h1:n≤9223372036854775807):decide (x.ok∧ -9223372036854775808≤n∧n≤9223372036854775807)=true:=Xa ⟨h,h0,h1⟩
theorem Zoe (n b:Bool) (x:W4) (ex e:Int) (hx:x.ok) (h1: -4000≤ex) (h2:ex≤e) (h3:e≤4000) (w:World):Calls prog 155 #[vN n ex x b,.int .i64 e] w fun r w'=>r= .returned (Z3p x b (e-ex).toNat)∧zi w w':=by
 obtain⟨d,hd⟩:∃ d:Nat,e-ex=(d:Int):=⟨(e-ex).toNat,by omega⟩;have e1:dnI ex e=(d:Int):=by unfold dnI;rw[Za2 ⟨by omega,by omega⟩,hd]
 have e2:dn1 ex e=(d:Int)-1:=by
  unfold dn1;rw[Za2 (n:=e-ex) ⟨by omega,by omega⟩,hd,Za2 ⟨by omega,by omega⟩]
 have eV:∀ c,c=ze (tw x b % 2^(d+1)) (2^(d+1))→ctV x ex e c=Z3p x b (e-ex).toNat:=fun c hc=>by
  unfold ctV Z3p;rw[e1,Zjd hx (by omega),hd,Xg,Zm1,hc]
 have k1:decide (x.ok∧ -9223372036854775808≤dnI ex e∧dnI ex e≤9223372036854775807)=true:=Zje hx (by omega) (by omega);have k2:decide (x.ok∧ -9223372036854775808≤dn1 ex e∧dn1 ex e≤9223372036854775807)=true:=Zje hx (by omega) (by omega);have kl:ZgM x (dnI ex e)=decide (x.nat % 2^d≠0):=by rw[e1,Zru hx (by omega),Xg]
 have hv:([vN n ex x b,.int .i64 e].all (lt 0))=true:=rfl;by_cases hl:x.nat % 2^d=0
 ·have kf:ZgM x (dnI ex e)=false:=by rw[kl];simp [hl]
  cases b
  ·rw[← eV 0 (by rw[ZvH hl])];exact Zb (Zd ZaN) (ct0 n x ex e) (Za k1 (Zy kf)) hv (by rfl) w
  ·cases d with
   | zero=>
    rw[← eV 2 (by rw[ZvI])];exact Zb (Zd ZaN) (ct1 n x ex e) (Za (by rw[e1];rfl) (Za k1 (Zy kf))) hv (by rfl) w
   | succ j=>
    have k0:(dnI ex e==0)=false:=by rw[e1];simp;omega
    have e3:dn1 ex e=(j:Int):=by rw[e2];omega
    have kb:ZnC x (dn1 ex e)=((x.nat/2^j % 2:Nat):Int):=by rw[e3,Zf7 hx (by omega),Xg]
    by_cases hb:x.nat/2^j % 2=0
    ·rw[← eV 1 (by rw[Zi9 hb (.inr rfl)])];exact Zb (Zd ZaN) (ct2 n x ex e true) (Za (by rw[kb,hb];rfl) (Za k2 (Za k0 (Za k1 (Zy kf))))) hv (by rfl) w
    ·have hb':x.nat/2^j % 2=1:=by omega
     rw[← eV 3 (by rw[Zff hb' (.inr rfl)])];exact Zb (Zd ZaN) (ct2 n x ex e false) (Za (by rw[kb,hb'];rfl) (Za k2 (Za k0 (Za k1 (Zy kf))))) hv (by rfl) w
 ·have kf:ZgM x (dnI ex e)=true:=by rw[kl];simp [hl]
  cases d with
  | zero=>exact absurd (by simp [Nat.mod_one]) hl
  | succ j=>
   have k0:(dnI ex e==0)=false:=by rw[e1];simp;omega
   have e3:dn1 ex e=(j:Int):=by rw[e2];omega
   have kb:ZnC x (dn1 ex e)=((x.nat/2^j % 2:Nat):Int):=by rw[e3,Zf7 hx (by omega),Xg]
   by_cases hb:x.nat/2^j % 2=0
   ·rw[← eV 1 (by rw[Zi9 hb (.inl hl)])];exact Zb (Zd ZaN) (ct4 n b x ex e) (Za (by rw[kb,hb];rfl) (Za k2 (Za k0 (Za k1 (Zy kf))))) hv (by rfl) w
   ·have hb':x.nat/2^j % 2=1:=by omega
    cases b
    ·have hs:Zkd x (dnI ex e)=ofN (x.nat/2^(j+1)):=by rw[e1,Zjd hx (by omega),Xg]
     have hlt:=W4.nat_lt hx;have hle:x.nat/2^(j+1)≤x.nat:=Nat.div_le_self _ _;have hle2:2*(x.nat/2^(j+1))≤x.nat:=by
      have:=Nat.div_mul_le_self x.nat (2^(j+1));have hp:0<2^j:=Nat.pow_pos (by omega);have h9:2*(x.nat/2^(j+1))≤x.nat/2^(j+1)*2^(j+1):=by
       rw[Nat.mul_comm 2,Nat.pow_succ];exact Nat.mul_le_mul_left _ (by omega)
      omega
     have ht:tw (Zkd x (dnI ex e)) true=2*(x.nat/2^(j+1))+1:=by
      unfold tw;rw[hs,ZaI (by omega)]
     have hk:bkW x ex e=ofN ((2*(x.nat/2^(j+1))+1)*2^j):=by
      unfold bkW;have e256:(2:Nat)^256=115792089237316195423570985008687907853269984665640564039457584007913129639936:=rfl;rw[ht,e3,Zf6 (zv _) (by omega),Xg,ZaI (by omega)]
     have kq:eqW x (bkW x ex e)=decide (x.nat % 2^j=0):=by rw[hk,Zqq hx hb']
     have kok:decide ((ofN (tw (Zkd x (dnI ex e)) true)).ok∧ -9223372036854775808≤dn1 ex e∧dn1 ex e≤9223372036854775807)=true:=Zje (zv _) (by omega) (by omega);have ks:decide (Zkd x (dnI ex e)).ok=true:=by rw[hs];exact Xa (zv _)
     by_cases hz:x.nat % 2^j=0
     ·rw[← eV 2 (by rw[ZvJ hb' hz])];exact Zb (Zd ZaN) (ct6 n x ex e false) (Za (by rw[kq,Xa hz];rfl) (Za kok (Za ks (Za (by rw[kb,hb'];rfl) (Za k2 (Za k0 (Za k1 (Zy kf)))))))) hv (by rfl) w
     ·rw[← eV 3 (by rw[Zff hb' (.inl hz)])];exact Zb (Zd ZaN) (ct6 n x ex e true) (Za (by rw[kq,Xb hz];rfl) (Za kok (Za ks (Za (by rw[kb,hb'];rfl) (Za k2 (Za k0 (Za k1 (Zy kf)))))))) hv (by rfl) w
    ·rw[← eV 3 (by rw[Zff hb' (.inr rfl)])];exact Zb (Zd ZaN) (ct5 n x ex e) (Za (by rw[kb,hb'];rfl) (Za k2 (Za k0 (Za k1 (Zy kf))))) hv (by rfl) w
def Zkh (x:W4) (ex e:Int):Bool:=decide (x.ok∧ -4000≤ex∧ex≤e∧e≤4000)
def Z5S:Ans:=fun vals s=>
 match vals with
 | [v,.int .i64 e]=>
  match n7 v with
  | some (_,ex,x,b)=>some (Z3p x b (e-ex).toNat,s,[(Zkh x ex e,true)])
  | none=>none
 | _=>none
theorem Zxt:ZC 155 Z5S:=by
 intro vals s v s' lg h hl w;unfold Z5S at h;split at h
 ·split at h
  ·rename_i n ex x b hn;cases h;have h1:=Xc (hl _ Xf);rw[ZbT hn];exact Zoe n b x ex _ h1.1 h1.2.1 h1.2.2.1 h1.2.2.2 w
  ·cases h
 ·cases h
def Zyt:Con:=alt 156 gUp (alt 155 Z5S Ztr)
theorem ZdQ:ConOk Zyt:=Zr func156 rfl Z2b (Zr func155 rfl Zxt ZaN)
end Go.Proofs.YtgefjidphfdhdaaGreatDoor
namespace Go.Proofs.YtgefjidphfdhdaaGreatDoor
open Go.Proofs.Tryz
open Go.IntKind
open Go.KRun Go.Wd Go.Pt Go.Rn
set_option maxRecDepth 100000
def ZcX (x:W4) (b:Bool) (ex e:Int):W4:=ofN (tw x b/2^((e-ex).toNat+1))
def rsI (x:W4) (b:Bool) (ex e:Int):Int:=ze (tw x b % 2^((e-ex).toNat+1)) (2^((e-ex).toNat+1))
def upX (m:Int) (n:Bool) (x:W4) (b:Bool) (ex e:Int):Bool:=upR m n (ZnC (ZcX x b ex e) 0 !=0) (rsI x b ex e)
def up1 (ex e:Int):Int:=i64.wrap (i64.wrap (ex-e)-1)
def w1:W4:=⟨1,0,0,0⟩
def w63:W4:=⟨0,0,0,9223372036854775808⟩
def lAd (x:W4):Bool×Bool:=(decide (x.ok∧w1.ok),true)
def lBt (x:W4):Bool×Bool:=(decide (x.ok∧(-9223372036854775808:Int)≤0∧(0:Int)≤9223372036854775807),true)
def lOv (x:W4) (d:Bool):Bool×Bool:=(decide (115792089237316195423570985008687907853269984665640564039457584007913129639936≤x.val+w1.val),d)
def tmR (n:Bool) (e:Int) (x:W4) (l:Bool):Value:= .tuple #[vN n e x false,.bool l]
theorem tm0 (n b:Bool) (x:W4) (ex e m:Int):Zs (Zf (Ze prog Zi Zyt true) 300 102 [vN n ex x b,.int .i64 e,.int .i64 m] [cmp true]) (tmR n e (Zee (ofN (tw x b)) (up1 ex e)) false) [lok (ofN (tw x b)) (up1 ex e),(decide x.ok,true),(decide (e<ex),true)]:=by and_intros<;>kernel_rfl
theorem tm1 (n b:Bool) (x:W4) (ex e m:Int):Zs (Zf (Ze prog Zi Zyt true) 300 102 [vN n ex x b,.int .i64 e,.int .i64 m] [cmp false,tst false,tst false]) (tmR n e (ZcX x b ex e) (rsI x b ex e !=0)) [(upX m n x b ex e,false),lBt (ZcX x b ex e),(Zkh x ex e,true),(false,false),(decide (e<ex),false)]:=by and_intros<;>kernel_rfl
theorem tm2 (n b:Bool) (x:W4) (ex e m:Int):Zs (Zf (Ze prog Zi Zyt true) 300 102 [vN n ex x b,.int .i64 e,.int .i64 m] [cmp false,tst false,tst true,tst false]) (tmR n e (W4.of ((ZcX x b ex e).val+w1.val)) (rsI x b ex e !=0)) [lOv (ZcX x b ex e) false,lAd (ZcX x b ex e),lAd (ZcX x b ex e),lAd (ZcX x b ex e),(upX m n x b ex e,true),lBt (ZcX x b ex e),(Zkh x ex e,true),(false,false),(decide (e<ex),false)]:=by and_intros<;>kernel_rfl
theorem tm3 (n b:Bool) (x:W4) (ex e m:Int):Zs (Zf (Ze prog Zi Zyt true) 300 102 [vN n ex x b,.int .i64 e,.int .i64 m] [cmp false,tst false,tst true,tst true]) (tmR n (i64.wrap (e+1)) w63 (rsI x b ex e !=0)) [lOv (ZcX x b ex e) true,lAd (ZcX x b ex e),lAd (ZcX x b ex e),lAd (ZcX x b ex e),(upX m n x b ex e,true),lBt (ZcX x b ex e),(Zkh x ex e,true),(false,false),(decide (e<ex),false)]:=by and_intros<;>kernel_rfl
theorem Zrw (n:Nat):(ofN n).nat=n % 2^256:=by
 have e:(2:Nat)^256=115792089237316195423570985008687907853269984665640564039457584007913129639936:=rfl;unfold W4.nat ofN;rw[W4.val_of,e];omega
theorem Zjf {x:W4}(hx:x.ok) (b:Bool) (d:Nat):tw x b/2^(d+1)<2^256:=by
 rw[Zm1];exact Nat.lt_of_le_of_lt (Nat.div_le_self _ _) (W4.nat_lt hx)
theorem Zts {m:Int}{n:Bool}{x:W4}{b:Bool}{ex e:Int}(hx:x.ok):upX m n x b ex e=upR m n (odd (tw x b/2^((e-ex).toNat+1))) (rsI x b ex e):=by
 unfold upX ZcX;congr 1;rw[Zf7 (zv _) (by omega),ZaI (Zjf hx _ _)];unfold odd;generalize tw x b/2^((e-ex).toNat+1)=q;have e0:q/2^(0:Int).toNat % 2=q % 2:=by simp
 rw[e0,Bool.eq_iff_iff];simp only[bne_iff_ne,ne_eq,Xi];omega
theorem Zjg {m:Int}{n:Bool}{T:Nat}{ex e:Int}(h:ex≤e):toQ m n T (ex-1) e=rq m n T ((e-ex).toNat+1):=by
 unfold toQ;rw[if_neg (by omega)];congr 1;omega
theorem Zrx {T:Nat}{ex e:Int}(h:ex≤e):toL T (ex-1) e=decide (T % 2^((e-ex).toNat+1)≠0):=by
 unfold toL;rw[if_neg (by omega),show (e-(ex-1)).toNat=(e-ex).toNat+1 by omega]
theorem Z2d {x:W4}{b:Bool}{ex e:Int}(h:ex≤e):(rsI x b ex e !=0)=toL (tw x b) (ex-1) e:=by
 rw[Zrx h,Bool.eq_iff_iff];simp only[bne_iff_ne,ne_eq,Xi];unfold rsI;rw[Zmp]
theorem Zjh (n b:Bool) (x:W4) (ex e m:Int) (hx:x.ok) (h1: -4000≤ex) (h1':ex≤4000) (h2: -4000≤e) (h3:e≤4000) (hq:toQ m n (tw x b) (ex-1) e<2^256) (w:World):Calls prog 102 #[vN n ex x b,.int .i64 e,.int .i64 m] w fun r w'=>r= .returned (tmR n e (ofN (toQ m n (tw x b) (ex-1) e)) (toL (tw x b) (ex-1) e))∧zi w w':=by
 have hv:([vN n ex x b,.int .i64 e,.int .i64 m].all (lt 0))=true:=rfl;by_cases hlt:e<ex
 ·have e1:up1 ex e=ex-e-1:=by unfold up1;rw[Za2 (n:=ex-e) ⟨by omega,by omega⟩,Za2 ⟨by omega,by omega⟩]
  have h:=Zb (Zd ZdQ) (tm0 n b x ex e m) (Za (Zje (zv _) (by omega) (by omega)) (Za (Xa hx) (Zy (Xa hlt)))) hv (by rfl) w;rw[e1,Zf6 (zv _) (by omega),Zrw,Zhp] at h;unfold toQ toL;rw[if_pos (by omega),if_pos (by omega),show (ex-1-e).toNat=(ex-e-1).toNat by omega];exact h
 ·have hle:ex≤e:=by omega
  have kc:Zkh x ex e=true:=Xa ⟨hx,h1,hle,h3⟩;have kb:(decide ((ZcX x b ex e).ok∧(-9223372036854775808:Int)≤0∧(0:Int)≤9223372036854775807))=true:=Xa ⟨zv _,by omega,by omega⟩;have kl:decide (e<ex)=false:=Xb hlt;have ka:decide ((ZcX x b ex e).ok∧w1.ok)=true:=Xa ⟨zv _,W4.ok_of 1⟩;rw[Zjg hle] at hq ⊢;rw[← Z2d hle];have hu:=Zts (m:=m) (n:=n) (b:=b) (ex:=ex) (e:=e) hx;unfold rq at hq ⊢;by_cases hup:upX m n x b ex e=true
  ·rw[hu] at hup;unfold rsI at hup;rw[if_pos hup] at hq ⊢;have hval:(ZcX x b ex e).val=((tw x b/2^((e-ex).toNat+1):Nat):Int):=by
    unfold ZcX;rw[W4.nat_val (zv _),ZaI (Zjf hx _ _)]
   have e256:(2:Nat)^256=115792089237316195423570985008687907853269984665640564039457584007913129639936:=rfl;have hw1:w1.val=1:=rfl;have ko:decide (115792089237316195423570985008687907853269984665640564039457584007913129639936≤(ZcX x b ex e).val+w1.val)=false:=Xb (by rw[hval,hw1];omega);have h:=Zb (Zd ZdQ) (tm2 n b x ex e m) (Za ko (Za ka (Za ka (Za ka (Za (by rw[hu];exact hup) (Za kb (Za kc (Za rfl (Zy kl))))))))) hv (by rfl) w;rw[hval,hw1] at h;exact h
  ·rw[Bool.not_eq_true] at hup;have h:=Zb (Zd ZdQ) (tm1 n b x ex e m) (Za hup (Za kb (Za kc (Za rfl (Zy kl))))) hv (by rfl) w;rw[hu] at hup;unfold rsI at hup;rw[hup];exact h
theorem Zxu (n b:Bool) (x:W4) (ex e m:Int) (hx:x.ok) (h1: -4000≤ex) (hle:ex≤e) (h3:e≤4000) (hq:¬ toQ m n (tw x b) (ex-1) e<2^256) (w:World):Calls prog 102 #[vN n ex x b,.int .i64 e,.int .i64 m] w fun r w'=>r= .returned (tmR n (e+1) w63 (toL (tw x b) (ex-1) e))∧zi w w':=by
 have hv:([vN n ex x b,.int .i64 e,.int .i64 m].all (lt 0))=true:=rfl;have hlt:¬ e<ex:=by omega
 have kc:Zkh x ex e=true:=Xa ⟨hx,h1,hle,h3⟩;have kb:(decide ((ZcX x b ex e).ok∧(-9223372036854775808:Int)≤0∧(0:Int)≤9223372036854775807))=true:=Xa ⟨zv _,by omega,by omega⟩;have kl:decide (e<ex)=false:=Xb hlt;have ka:decide ((ZcX x b ex e).ok∧w1.ok)=true:=Xa ⟨zv _,W4.ok_of 1⟩;rw[Zjg hle] at hq;rw[← Z2d hle];have hu:=Zts (m:=m) (n:=n) (b:=b) (ex:=ex) (e:=e) hx;have hlw:=Zjf hx b (e-ex).toNat;unfold rq at hq;by_cases hup:upX m n x b ex e=true
 ·have hup':=hup;rw[hu] at hup;unfold rsI at hup;rw[if_pos hup] at hq;have hval:(ZcX x b ex e).val=((tw x b/2^((e-ex).toNat+1):Nat):Int):=by
   unfold ZcX;rw[W4.nat_val (zv _),ZaI (Zjf hx _ _)]
  have e256:(2:Nat)^256=115792089237316195423570985008687907853269984665640564039457584007913129639936:=rfl;have hw1:w1.val=1:=rfl;have ko:decide (115792089237316195423570985008687907853269984665640564039457584007913129639936≤(ZcX x b ex e).val+w1.val)=true:=Xa (by rw[hval,hw1];omega);have h:=Zb (Zd ZdQ) (tm3 n b x ex e m) (Za ko (Za ka (Za ka (Za ka (Za hup' (Za kb (Za kc (Za rfl (Zy kl))))))))) hv (by rfl) w;rw[Za2 ⟨by omega,by omega⟩] at h;exact h
 ·rw[hu] at hup;unfold rsI at hup;rw[if_neg hup] at hq;omega
def Zhd (x:W4) (ex e:Int):Bool:=decide (x.ok∧ -4000≤ex∧ex≤4000∧ -4000≤e∧e≤4000)
def gTm:Ans:=fun vals s=>
 match vals with
 | [v,.int .i64 e,.int .i64 m]=>
  match n7 v,s with
  | some (n,ex,x,b),.inr (.inr (.inr (.inl true))):: .inr (.inr (.inr (.inl d)))::s'=>some (tmR n e (ofN (toQ m n (tw x b) (ex-1) e)) d,s',[(toL (tw x b) (ex-1) e,d),(decide (toQ m n (tw x b) (ex-1) e<2^256),true),(Zhd x ex e,true)])
  | some (n,ex,x,b),[.inr (.inr (.inr (.inl true)))]=>some (tmR n e (ofN (toQ m n (tw x b) (ex-1) e)) (toL (tw x b) (ex-1) e),[],[(decide (toQ m n (tw x b) (ex-1) e<2^256),true),(Zhd x ex e,true)])
  | some (n,ex,x,b),.inr (.inr (.inr (.inl false)))::s'=>some (tmR n (e+1) w63 (toL (tw x b) (ex-1) e),s',[(decide (toQ m n (tw x b) (ex-1) e<2^256),false),(decide (ex≤e),true),(Zhd x ex e,true)])
  | _,_=>none
 | _=>none
theorem Z2e:ZC 102 gTm:=by
 intro vals s v s' lg h hl w;unfold gTm at h;split at h
 ·split at h
  ·rename_i n ex x b d s2 hn;cases h;rw[ZeN,ZeN,ZeN] at hl;have h1:=Xc hl.2.2.1;rw[ZbT hn,← hl.1];exact Zjh n b x ex _ _ h1.1 h1.2.1 h1.2.2.1 h1.2.2.2.1 h1.2.2.2.2 (Xc hl.2.1) w
  ·rename_i n ex x b hn;cases h;rw[ZeN,ZeN] at hl;have h1:=Xc hl.2.1;rw[ZbT hn];exact Zjh n b x ex _ _ h1.1 h1.2.1 h1.2.2.1 h1.2.2.2.1 h1.2.2.2.2 (Xc hl.1) w
  ·rename_i n ex x b s2 hn;cases h;rw[ZeN,ZeN,ZeN] at hl;have h1:=Xc hl.2.2.1;rw[ZbT hn];exact Zxu n b x ex _ _ h1.1 h1.2.1 (Xc hl.2.1) h1.2.2.2.2 (of_decide_eq_false hl.1) w
  ·cases h
 ·cases h
def Zyu:Con:=alt 102 gTm Zyt
theorem ZdR:ConOk Zyu:=Zr func102 rfl Z2e ZdQ
def clp (e:Int):Int:=if 2000<(if -2000>e then -2000 else e) then 2000 else (if -2000>e then -2000 else e)
theorem Zof (e:Int): -2000≤clp e∧clp e≤2000:=by unfold clp;split<;>split<;>omega
theorem Zxv (n b:Bool) (x:W4) (e:Int):Zs (Zf (Ze prog Zi Zn true) 300 100 [vN n e x b] []) (vN n (clp e) x b) []:=by and_intros<;>kernel_rfl
def Zxw:Ans:=fun vals s=>
 match vals with
 | [v]=>
  match n7 v with
  | some (n,e,x,b)=>some (vN n (clp e) x b,s,[])
  | none=>none
 | _=>none
theorem Zry:ZC 100 Zxw:=by
 intro vals s v s' lg h hl w;unfold Zxw at h;split at h
 ·split at h
  ·rename_i n e x b hn;cases h;rw[ZbT hn];exact Zb (Zd Zh) (Zxv n b x e) Zps (by rfl) (by rfl) w
  ·cases h
 ·cases h
theorem Z7B (n:Bool) (m:Int):Zs (Zf (Ze prog Zi Zyu true) 300 104 [.bool n,.int .i64 m] [tst true]) (.int .u64 9218868437227405312) [(upR m n true 3,true)]:=by and_intros<;>kernel_rfl
theorem Z7C (n:Bool) (m:Int):Zs (Zf (Ze prog Zi Zyu true) 300 104 [.bool n,.int .i64 m] [tst false]) (.int .u64 9218868437227405311) [(upR m n true 3,false)]:=by and_intros<;>kernel_rfl
def Z5T:Ans:=fun vals s=>
 match vals with
 | [.bool n,.int .i64 m]=>some (.int .u64 (bey m n),s,[])
 | _=>none
theorem Zxx:ZC 104 Z5T:=by
 intro vals s v s' lg h hl w;unfold Z5T at h;split at h
 ·rename_i n m;cases h;unfold bey;by_cases hu:upR m n true 3=true
  ·rw[if_pos hu];exact Zb (Zd ZdR) (Z7B n m) (Zy hu) (by rfl) (by rfl) w
  ·rw[if_neg hu];exact Zb (Zd ZdR) (Z7C n m) (Zy (by simpa using hu)) (by rfl) (by rfl) w
 ·cases h
def m52 (k:Int):Int:=i64.wrap (k-52)
def tnQ (m:Int) (n:Bool) (x:W4) (b:Bool) (ex k:Int):W4:=ofN (toQ m n (tw x b) (ex-1) (m52 k))
def lgW (e:Int) (x:W4):Int:=i64.wrap (i64.wrap (e+Z3m x)-1)
theorem ti0 (n b:Bool) (x:W4) (ex k m:Int):Zs (Zf (Ze prog Zi Zyu true) 300 105 [vN n ex x b,.int .i64 k,.int .i64 m] [cmp true]) (.bool (decide (k< -1022))) [(k != -1023,true)]:=by and_intros<;>kernel_rfl
theorem ti1 (n b:Bool) (x:W4) (ex k m:Int):Zs (Zf (Ze prog Zi Zyu true) 300 105 [vN n ex x b,.int .i64 k,.int .i64 m] [cmp false,cmp true]) (.bool (decide (lgW (m52 k) (tnQ m n x b ex k)< -1022))) [(decide (tnQ m n x b ex k).ok,true),(decide (toQ m n (tw x b) (ex-1) (m52 k)<2^256),true),(Zhd x ex (m52 k),true),(k != -1023,false)]:=by and_intros<;>kernel_rfl
def tnK (m:Int) (n:Bool) (T:Nat) (E k:Int):Bool:=if k= -1023 then decide (toQ m n T E (-1075)<9007199254740992) else decide (k< -1022)
theorem Zji (x:W4):Z3m x=(bitLen x.nat:Nat):=rfl
theorem Zrz {q:Nat}:bitLen q<54↔q<9007199254740992:=by
 constructor
 ·intro h;have h1:=(bitLen_spec q).1;have h2:=Nat.pow_le_pow_right (show 0<2 by omega) (show bitLen q≤53 by omega);have e:(2:Nat)^53=9007199254740992:=rfl;omega
 ·intro h;have:=len_le (T:=q) (k:=53) h;omega
theorem Zki (n b:Bool) (x:W4) (ex k m:Int) (h1:x.ok∧ -4000≤ex∧ex≤4000∧ -4000≤(0:Int)∧(0:Int)≤4000) (h2:k= -1023→toQ m n (tw x b) (ex-1) (-1075)<2^256) (w:World):Calls prog 105 #[vN n ex x b,.int .i64 k,.int .i64 m] w fun r w'=>r= .returned (.bool (tnK m n (tw x b) (ex-1) k))∧zi w w':=by
 unfold tnK;by_cases hk:k= -1023
 ·rw[if_pos hk];have e0:m52 k= -1075:=by rw[hk];rfl
  have hq:=h2 hk;have hlen:bitLen (toQ m n (tw x b) (ex-1) (-1075))≤256:=len_le hq;have e1:lgW (m52 k) (tnQ m n x b ex k)= -1076+(bitLen (toQ m n (tw x b) (ex-1) (-1075)):Nat):=by
   unfold lgW tnQ;rw[e0,Zji,ZaI hq,Za2 (n:= -1075+((bitLen (toQ m n (tw x b) (ex-1) (-1075)):Nat):Int)) ⟨by omega,by omega⟩,Za2 ⟨by omega,by omega⟩];omega
  have h:=Zb (Zd ZdR) (ti1 n b x ex k m) (Za (Xa (zv _)) (Za (by rw[e0];exact Xa hq) (Za (by rw[e0];exact Xa ⟨h1.1,h1.2.1,h1.2.2.1,by omega,by omega⟩) (Zy (by rw[hk];rfl))))) (by rfl) (by rfl) w;rw[e1] at h;have e2:decide (-1076+((bitLen (toQ m n (tw x b) (ex-1) (-1075)):Nat):Int)< -1022)=decide (toQ m n (tw x b) (ex-1) (-1075)<9007199254740992):=by
   congr 1;rw[← Zrz];simp only[eq_iff_iff];omega
  rw[e2] at h;exact h
 ·rw[if_neg hk];exact Zb (Zd ZdR) (ti0 n b x ex k m) (Zy (by simpa using hk)) (by rfl) (by rfl) w
def Zxy:Ans:=fun vals s=>
 match vals with
 | [v,.int .i64 k,.int .i64 m]=>
  match n7 v,s with
  | some (n,ex,x,b),.inr (.inr (.inr (.inl d)))::s'=>some (.bool d,s',[(tnK m n (tw x b) (ex-1) k,d),(decide (k= -1023→toQ m n (tw x b) (ex-1) (-1075)<2^256),true),(Zhd x ex 0,true)])
  | _,_=>none
 | _=>none
theorem Zr0:ZC 105 Zxy:=by
 intro vals s v s' lg h hl w;unfold Zxy at h;split at h
 ·split at h
  ·rename_i n ex x b d s2 hn;cases h;rw[ZeN,ZeN,ZeN] at hl;rw[ZbT hn,← hl.1];exact Zki n b x ex _ _ (Xc hl.2.2.1) (Xc hl.2.1) w
  ·cases h
 ·cases h
def ZgE:Con:=alt 100 Zxw (alt 104 Z5T (alt 105 Zxy Zyu))
theorem ZaO:ConOk ZgE:=Zr func100 rfl Zry (Zr func104 rfl Zxx (Zr func105 rfl Zr0 ZdR))
def lgR (ex:Int) (x:W4):Int:=lgW (clp ex) x
def e0 (ex:Int) (x:W4):Int:=if -1074>m52 (lgR ex x) then -1074 else m52 (lgR ex x)
def qR (m:Int) (n:Bool) (x:W4) (b:Bool) (ex:Int):Nat:=toQ m n (tw x b) (clp ex-1) (e0 ex x)
def oR (x:W4) (b:Bool) (ex:Int):Bool:=toL (tw x b) (clp ex-1) (e0 ex x)
def pR (m:Int) (n:Bool) (x:W4) (b:Bool) (ex:Int):Int:=u64.wrap (u64.wrap (u64.wrap (i64.wrap (e0 ex x - -1074))*2^min (Int.toNat 52) 64)+(ofN (qR m n x b ex)).a)
def sgR (n:Bool) (p:Int):Int:=match n with | true=>Z3P p 9223372036854775808 | false=>p
def lTm (m:Int) (n:Bool) (x:W4) (b:Bool) (ex:Int) (o d:Bool):Log:=[(oR x b ex,o),(decide (qR m n x b ex<2^256),true),(Zhd x (clp ex) (e0 ex x),true),(decide x.ok,true),(eqW x ⟨0,0,0,0⟩,d)]
def Zyv (m:Int) (n:Bool) (x:W4) (b:Bool) (ex:Int) (d:Bool):Bool×Bool:=(decide (pR m n x b ex≥9218868437227405312),d)
def l52:Bool×Bool:=(decide ((52:Int)<0),false)
def rdT (p f:Int):Value:= .tuple #[.int .u64 p,.int .u8 f]
theorem Zxz (n:Bool) (x:W4) (ex m:Int):Zs (Zf (Ze prog Zi ZgE true) 300 54 [vN n ex x false,.int .i64 m] [sam true]) (rdT (sgR n 0) 0) [(eqW x ⟨0,0,0,0⟩,true)]:=by
 cases n<;>exact by and_intros<;>kernel_rfl
theorem Z2f (n b o:Bool) (x:W4) (ex m:Int):Zs (Zf (Ze prog Zi ZgE true) 300 54 [vN n ex x b,.int .i64 m] [sam false,cmp true,cmp o,cmp true]) (rdT (sgR n (bey m n)) 20) (Zyv m n x b ex true::l52::lTm m n x b ex o false):=by
 cases n<;>cases o<;>exact by and_intros<;>kernel_rfl
theorem Zx0 (n o:Bool) (x:W4) (ex m:Int):Zs (Zf (Ze prog Zi ZgE true) 300 54 [vN n ex x true,.int .i64 m] [sam true,cmp true,cmp o,cmp true]) (rdT (sgR n (bey m n)) 20) (Zyv m n x true ex true::l52::lTm m n x true ex o true):=by
 cases n<;>cases o<;>exact by and_intros<;>kernel_rfl
theorem Zx1 (n b:Bool) (x:W4) (ex m:Int):Zs (Zf (Ze prog Zi ZgE true) 300 54 [vN n ex x b,.int .i64 m] [sam false,cmp true,cmp false,cmp false]) (rdT (sgR n (pR m n x b ex)) 0) (Zyv m n x b ex false::l52::lTm m n x b ex false false):=by
 cases n<;>exact by and_intros<;>kernel_rfl
theorem Zr1 (n:Bool) (x:W4) (ex m:Int):Zs (Zf (Ze prog Zi ZgE true) 300 54 [vN n ex x true,.int .i64 m] [sam true,cmp true,cmp false,cmp false]) (rdT (sgR n (pR m n x true ex)) 0) (Zyv m n x true ex false::l52::lTm m n x true ex false true):=by
 cases n<;>exact by and_intros<;>kernel_rfl
def fgT (t:Bool):Int:=match t with | true=>24 | false=>16
def lTn (m:Int) (n:Bool) (x:W4) (b:Bool) (ex:Int) (t:Bool) (l:Log):Log:=(tnK m n (tw x b) (clp ex-1) (lgR ex x),t)::(decide (lgR ex x= -1023→toQ m n (tw x b) (clp ex-1) (-1075)<2^256),true)::(Zhd x (clp ex) 0,true)::l
theorem Zx2 (n b t:Bool) (x:W4) (ex m:Int):Zs (Zf (Ze prog Zi ZgE true) 300 54 [vN n ex x b,.int .i64 m] [sam false,cmp true,cmp true,cmp false,cmp t]) (rdT (sgR n (pR m n x b ex)) (fgT t)) (lTn m n x b ex t (Zyv m n x b ex false::l52::lTm m n x b ex true false)):=by
 cases n<;>cases t<;>exact by and_intros<;>kernel_rfl
theorem Zr2 (n t:Bool) (x:W4) (ex m:Int):Zs (Zf (Ze prog Zi ZgE true) 300 54 [vN n ex x true,.int .i64 m] [sam true,cmp true,cmp true,cmp false,cmp t]) (rdT (sgR n (pR m n x true ex)) (fgT t)) (lTn m n x true ex t (Zyv m n x true ex false::l52::lTm m n x true ex true true)):=by
 cases n<;>cases t<;>exact by and_intros<;>kernel_rfl
theorem Ztt {x:W4}{b:Bool}(h:tw x b≠0):bitLen (tw x b)=bitLen x.nat+1:=by
 have hd:tw x b/2^1=x.nat:=by
  have:=Zm1 x b 0;simpa using this
 by_cases h0:x.nat=0
 ·have:tw x b=1:=by
   have e:tw x b/2=x.nat:=by simpa using hd
   omega
  rw[this,h0];rfl
 ·rw[bitLen_shift (tw x b) 1 (by rw[hd];exact h0),hd];omega
theorem Ztu {x:W4}(hx:x.ok):bitLen x.nat≤256:=len_le (W4.nat_lt hx)
theorem Ztv {x:W4}{b:Bool}{ex:Int}(hx:x.ok) (h:tw x b≠0):lgR ex x=lgN (tw x b) (clp ex-1):=by
 have h1:=Zof ex;have h2:=Ztu hx;unfold lgR lgW lgN;rw[Zji,Ztt h,Za2 (n:=clp ex+((bitLen x.nat:Nat):Int)) ⟨by omega,by omega⟩,Za2 ⟨by omega,by omega⟩];omega
theorem Ztw {x:W4}{b:Bool}{ex:Int}(hx:x.ok) (h:tw x b≠0): -2002≤lgN (tw x b) (clp ex-1)∧lgN (tw x b) (clp ex-1)≤2300:=by
 have h1:=Zof ex;have h2:=Ztu hx;unfold lgN;rw[Ztt h];omega
theorem Z2g {x:W4}{b:Bool}{ex:Int}(hx:x.ok) (h:tw x b≠0):e0 ex x=Zak (tw x b) (clp ex-1):=by
 have hb:=Ztw (ex:=ex) hx h;unfold e0 m52 Zak;rw[Ztv hx h,Za2 ⟨by omega,by omega⟩];split<;>split<;>omega
theorem Zog {x:W4}{b:Bool}{ex:Int}(hx:x.ok) (h:tw x b≠0): -1074≤Zak (tw x b) (clp ex-1)∧Zak (tw x b) (clp ex-1)≤2300:=by
 have hb:=Ztw (ex:=ex) hx h;unfold Zak;split<;>omega
theorem Z5U {q:Nat}(h:q<18446744073709551616):(ofN q).a=(q:Int):=by unfold ofN W4.of;dsimp only;omega
theorem Z5V {m:Int}{n:Bool}{x:W4}{b:Bool}{ex:Int}(hx:x.ok) (h:tw x b≠0):pR m n x b ex=p0 m n (tw x b) (clp ex-1)∧p0 m n (tw x b) (clp ex-1)<18446744073709551616:=by
 have hb:=Zog (ex:=ex) hx h;have hq:=Zmr m n (tw x b) (clp ex-1);have e1:((2:Int)^min (Int.toNat 52) 64)=4503599627370496:=by rfl
 unfold pR qR p0;rw[Z2g hx h,Z5U (by omega),e1,Za2 ⟨by omega,by omega⟩,Zir (n:=Zak (tw x b) (clp ex-1) - -1074) ⟨by omega,by omega⟩,Zir (n:=(Zak (tw x b) (clp ex-1) - -1074)*4503599627370496) ⟨by omega,by omega⟩,Zir ⟨by omega,by omega⟩];omega
def sS (n:Bool) (p:Int):Int:=if n=true then 9223372036854775808+p else p
theorem Zoh {n:Bool}{p:Int}(h0:0≤p) (h1:p≤9218868437227405312):sgR n p=sS n p:=by
 cases n
 ·rfl
 ·simp only[sgR,sS,if_true];rw[Zl8 ⟨by omega,by omega⟩];omega
theorem Z2h (m:Int) (n:Bool) (T:Nat) (E:Int):tnK m n T E (lgN T E)=Ze0 m n T E:=rfl
def rdV (m:Int) (n:Bool) (T:Nat) (E:Int):Value:=rdT (sS n (rnP m n T E)) (rnF m n T E)
theorem ZhG (n b:Bool) (x:W4) (ex m:Int) (hx:x.ok) (w:World):Calls prog 54 #[vN n ex x b,.int .i64 m] w fun r w'=>r= .returned (rdV m n (tw x b) (clp ex-1))∧zi w w':=by
 have hv:([vN n ex x b,.int .i64 m].all (lt 0))=true:=rfl;unfold rdV;by_cases hz:tw x b=0
 ·have h1:=(Zm2 hx).1 hz;rw[Xh] at h1;have hb:b=false:=by simpa using h1.2
  subst hb;have h:=Zb (Zd ZaO) (Zxz n x ex m) (Zy h1.1) hv (by rfl) w;rw[Zoh (by omega) (by omega)] at h;unfold rnP rnF;rw[if_pos hz,if_pos hz];exact h
 ·obtain⟨ep,hp⟩:=Z5V (m:=m) (n:=n) (ex:=ex) hx hz;have hbd:=Zof ex;have hel:=Zog (ex:=ex) hx hz;have hq:=Zmr m n (tw x b) (clp ex-1);have ee:=Z2g (ex:=ex) hx hz;have el:=Ztv (ex:=ex) hx hz;have hp0:=Zgn m n (tw x b) (clp ex-1);have e256:(2:Nat)^256=115792089237316195423570985008687907853269984665640564039457584007913129639936:=rfl;have kq:decide (qR m n x b ex<2^256)=true:=Xa (by unfold qR;rw[ee];omega);have kt:Zhd x (clp ex) (e0 ex x)=true:=Xa ⟨hx,by omega,by omega,by omega,by omega⟩;have kt0:Zhd x (clp ex) 0=true:=Xa ⟨hx,by omega,by omega,by omega,by omega⟩;have kx:decide x.ok=true:=Xa hx;have ko:oR x b ex=toL (tw x b) (clp ex-1) (Zak (tw x b) (clp ex-1)):=by unfold oR;rw[ee]
  have kn:decide (lgR ex x= -1023→toQ m n (tw x b) (clp ex-1) (-1075)<2^256)=true:=Xa fun hl=>by
   rw[el] at hl;have:toQ m n (tw x b) (clp ex-1) (-1075)≤2^53:=Zs5 (by unfold lgN at hl;omega);have e53:(2:Nat)^53=9007199254740992:=rfl;omega
  have key:∃ d,eqW x ⟨0,0,0,0⟩=d∧(d=false∨(d=true∧b=true)):=by
   refine⟨_,rfl,?_⟩;cases he:eqW x ⟨0,0,0,0⟩
   ·exact .inl rfl
   ·right
    refine⟨rfl,?_⟩;cases hb:b
    ·exact absurd ((Zm2 hx).2 (by rw[he,hb];rfl)) hz
    ·rfl
  obtain⟨d,hd,hdb⟩:=key;have lt5:∀ o,oR x b ex=o→Zo (lTm m n x b ex o d):=fun o ho=>Za ho (Za kq (Za kt (Za kx (Zy hd))));unfold rnP rnF;rw[if_neg hz,if_neg hz];by_cases hbig:9218868437227405312≤p0 m n (tw x b) (clp ex-1)
  ·rw[if_pos hbig,if_pos hbig];have hb2:=Zms m n;have hs:sgR n (bey m n)=sS n (bey m n):=Zoh (by omega) (by omega);rw[← hs];have lB:decide (pR m n x b ex≥9218868437227405312)=true:=Xa (by rw[ep];exact hbig);rcases hdb with rfl | ⟨rfl,rfl⟩
   ·exact Zb (Zd ZaO) (Z2f n b (oR x b ex) x ex m) (Za lB (Za rfl (lt5 _ rfl))) hv (by rfl) w
   ·exact Zb (Zd ZaO) (Zx0 n (oR x true ex) x ex m) (Za lB (Za rfl (lt5 _ rfl))) hv (by rfl) w
  ·rw[if_neg hbig,if_neg hbig];have hs:sgR n (pR m n x b ex)=sS n (p0 m n (tw x b) (clp ex-1)):=by rw[ep];exact Zoh hp0 (by omega)
   rw[← hs];have lB:decide (pR m n x b ex≥9218868437227405312)=false:=Xb (by rw[ep];exact hbig);by_cases hl:toL (tw x b) (clp ex-1) (Zak (tw x b) (clp ex-1))=true
   ·rw[if_pos hl];have ht:tnK m n (tw x b) (clp ex-1) (lgR ex x)=Ze0 m n (tw x b) (clp ex-1):=by rw[el,Z2h]
    have ef:(if Ze0 m n (tw x b) (clp ex-1)=true then (24:Int) else 16)=fgT (Ze0 m n (tw x b) (clp ex-1)):=by
     cases Ze0 m n (tw x b) (clp ex-1)<;>rfl
    rw[ef];rcases hdb with rfl | ⟨rfl,rfl⟩
    ·exact Zb (Zd ZaO) (Zx2 n b (Ze0 m n (tw x b) (clp ex-1)) x ex m) (Za ht (Za kn (Za kt0 (Za lB (Za rfl (lt5 _ (ko.trans hl))))))) hv (by rfl) w
    ·exact Zb (Zd ZaO) (Zr2 n (Ze0 m n (tw x true) (clp ex-1)) x ex m) (Za ht (Za kn (Za kt0 (Za lB (Za rfl (lt5 _ (ko.trans hl))))))) hv (by rfl) w
   ·rw[if_neg hl];have hl':=ko.trans (by simpa using hl);rcases hdb with rfl | ⟨rfl,rfl⟩
    ·exact Zb (Zd ZaO) (Zx1 n b x ex m) (Za lB (Za rfl (lt5 _ hl'))) hv (by rfl) w
    ·exact Zb (Zd ZaO) (Zr1 n x ex m) (Za lB (Za rfl (lt5 _ hl'))) hv (by rfl) w
def gRd:Ans:=fun vals s=>
 match vals with
 | [v,.int .i64 m]=>
  match n7 v with
  | some (n,ex,x,b)=>some (rdV m n (tw x b) (clp ex-1),s,[(decide x.ok,true)])
  | none=>none
 | _=>none
theorem Z2i:ZC 54 gRd:=by
 intro vals s v s' lg h hl w;unfold gRd at h;split at h
 ·split at h
  ·rename_i n ex x b hn;cases h;rw[ZbT hn];exact ZhG n b x ex _ (Xc (hl _ Xf)) w
  ·cases h
 ·cases h
end Go.Proofs.YtgefjidphfdhdaaGreatDoor
namespace Go.Proofs.YtgefjidphfdhdaaGreatDoor
open Go.KRun Go.Nt Go.Rd Go.Pt
set_option maxRecDepth 100000
def zR (p:Int):Int:=(sg p).tmod 4503599627370496
def Zf8 (p:Int):List UInt8:=(hxW (zR p)).data.toList.drop 3
end Go.Proofs.YtgefjidphfdhdaaGreatDoor
namespace Go.Proofs.YtgefjidphfdhdaaGreatDoor
open Go.KRun Go.Nt Go.Rd Go.Pt
set_option maxRecDepth 100000
set_option linter.unusedSimpArgs false
def ZgN (p:Int):List UInt8:=if spK p≠0 then spL (spK p) else if cl p=0 then (if sgn p=true then [45] else [])++[48,120,48,112,48] else if cl p=1 then Zng (sgn p) 48 (trR (Zf8 p)) (-1022) else Zng (sgn p) 49 (trR (Zf8 p)) (xp p+52)
end Go.Proofs.YtgefjidphfdhdaaGreatDoor
namespace Go.Proofs.YtgefjidphfdhdaaGreatDoor
open Go.Proofs.Tryz
open Go.KRun Go.Nt Go.Rd Go.Wd Go.Pt
set_option maxRecDepth 100000
def Z2j:Con:=alt 44 Z1t (alt 45 Z3i Zn)
theorem Zr3:ConOk Z2j:=Zr func44 rfl ZhB (Zr func45 rfl Znv Zh)
def Zx3:Hc:=zJ 46 (gT Z4S) hcN
theorem Zoi:HcOk Zx3:=Zq func46 rfl (Zf0 Zw3) zo
theorem Z7D (b:Bool) (D:List UInt8) (e:Int):Zs (ZE (Zx prog Zi Z2j Zx3) hT0 200 23 [.bool b,vDc D e] [sam true,sam true,sam true]) (bR (((mnL b++ptL D)++[101])++Za7 e)) [(decide (((mnL b++ptL D)++[101]).length+(Za7 e).length≤9223372036854775807),true),(decide (e.natAbs≤2000000),true),(decide ((mnL b++ptL D).length+1≤9223372036854775807),true),(decide ((mnL b).length+(ptL D).length≤9223372036854775807),true),(decide (1≤D.length∧D.length≤100000),true)]:=by and_intros<;>kernel_rfl
theorem ZhH (l:List UInt8):(ptL l).length≤l.length+1:=by
 unfold ptL;split
 ·simp
 ·simp
 ·simp only[List.length_cons];omega
theorem Z2k (b:Bool) (D:List UInt8) (e:Int):((mnL b++ptL D)++[101])++Za7 e=txL b D e:=by
 unfold txL mnL ptL;simp only[List.append_assoc,List.singleton_append];rfl
def Z5W:Ans:=fun vals s=>
 match vals with
 | [.bool b,v]=>
  match dc2 v with
  | some (D,e)=>some (bR (txL b D.data.toList e),s,[(decide (1≤D.data.toList.length∧D.data.toList.length≤100000∧e.natAbs≤2000000),true)])
  | none=>none
 | _=>none
theorem Zx4:ZbJ 23 Z5W:=by
 intro vals s v s' lg h hl w hk;unfold Z5W at h;split at h
 ·split at h
  ·rename_i b v0 o D e hv;rw[Zja hv];cases h;obtain⟨h1,h2,h3⟩:=Xc (hl _ Xf);have f:=Z7D b D.data.toList e;rw[Z2k] at f;have l1:=Zf1 b;have l2:=ZhH D.data.toList;have l3:=Zb9 e;exact Zbw (Z3 Zr3 Zoi) f (Za (Xa (by rw[List.length_append,List.length_append,List.length_singleton];omega)) (Za (Xa h3) (Za (Xa (by rw[List.length_append];omega)) (Za (Xa (by omega)) (Zy (Xa ⟨h1,h2⟩)))))) (by rfl) (by rfl) hk
  ·cases h
 ·cases h
def Z2l (p:Int):Bool:=decide (ex p≠2047∧(sg p).toNat≠0)
theorem ZcG {p:Int}(h:Z2l p=true):Fin14 p:=by
 obtain⟨h1,h2⟩:=Xc h;have a:=Go.Rn.xp_bd p;have b:=Go.Rn.sg_lt p;exact⟨h1,h2,a.1,a.2,by omega⟩
def Z5X:Ans:=fun vals s=>
 match vals,s with
 | [v],.inr (.inl p)::s'=>
  match vP4 v with
  | some (m,c,e,q)=>some (vDc (sdD p) (sdE p),s',[(m==sgn p,true),(decide (c=cl p∧e=xp p∧q=sg p),true),(Z2l p,true)])
  | none=>none
 | _,_=>none
theorem Zx5:ZbJ 24 Z5X:=by
 intro vals s v s' lg h hl w hk;unfold Z5X at h;split at h
 ·split at h
  ·rename_i v0 p s2 o m c e q hv;rw[Zcq hv];cases h;have l1:(m==sgn p)=true:=hl _ Xe;obtain⟨l2,l3,l4⟩:=Xc (hl _ (Xd _ Xe));have l5:Z2l p=true:=hl _ (Xd _ (Xd _ Xf));rw[eq_of_beq l1,l2,l3,l4];exact Zrr (ZcG l5) w hk
  ·cases h
 ·cases h
theorem ZgF:ZC 20 (gU vT):=ZqR ZjZ
def Zef:Con:=alt 20 (gU vT) (alt 58 (gU fun p=> .int .i64 (cl p)) (alt 22 Z3j (alt 40 ZwL (alt 39 Zn0 (alt 72 Z3h Zn)))))
theorem Zr4:ConOk Zef:=Zr func20 rfl ZgF (Zr func58 rfl Zti (Zr func22 rfl Znw (Zr func40 rfl ZqZ (Zr func39 rfl Zn1 (Zr func72 rfl Znp Zh)))))
def Zo9:Hc:=zJ 23 (gT Z5W) (zJ 24 (gT Z5X) hcN)
theorem Zx6:HcOk Zo9:=Zq func23 rfl (Zf0 Zx4) (Zq func24 rfl (Zf0 Zx5) zo)
theorem ZgG:TabOk (Zx prog Zi Zef Zo9):=Z3 Zr4 Zx6
def shT (p:Int):List UInt8:=if spK p≠0 then spL (spK p) else if cl p=0 then txL (sgn p) [48] 0 else shS p
theorem Z2m (p:Int):Zs (ZE (Zx prog Zi Zef Zo9) hT0 200 9 [.int .u64 p] [cmp false]) (bR (nmL (sgn p) (cl p))) [(decide (cl p≤2),false),(decide (U p),true),(decide (U p),true)]:=by and_intros<;>kernel_rfl
theorem Z2n (p:Int):Zs (ZE (Zx prog Zi Zef Zo9) hT0 200 9 [.int .u64 p] [cmp true,cmp true]) (bR (txL (sgn p) [48] 0)) [(true,true),(cl p==0,true),(decide (cl p≤2),true),(decide (U p),true),(decide (U p),true)]:=by and_intros<;>kernel_rfl
theorem Z2o (p:Int):Zs (ZE (Zx prog Zi Zef Zo9) hT0 200 9 [.int .u64 p] [cmp true,cmp false,num p]) (bR (txL (sgn p) (sdD p) (sdE p))) [(decide (1≤(sdD p).length∧(sdD p).length≤100000∧(sdE p).natAbs≤2000000),true),(sgn p==sgn p,true),(decide (cl p=cl p∧xp p=xp p∧sg p=sg p),true),(Z2l p,true),(cl p==0,false),(decide (cl p≤2),true),(decide (U p),true),(decide (U p),true)]:=by and_intros<;>kernel_rfl
theorem Zoj {p:Int}(hp:U p) (h:¬ cl p≤2):spK p≠0∧nmL (sgn p) (cl p)=spL (spK p):=by
 have e:=Zit hp;have h1:=Zhh p;have h2:=ZdD p;unfold spK nmL;by_cases h3:3<cl p
 ·rw[if_pos h3,if_neg (by omega)];exact⟨by decide,rfl⟩
 ·have hc:cl p=3:=by omega
  have hx:ex p=2047∧fr p=0:=by
   unfold cl at hc;split at hc
   ·split at hc<;>omega
   ·split at hc
    ·split at hc
     ·constructor<;>assumption
     ·split at hc<;>omega
    ·omega
  rw[if_neg h3,if_pos hc];rw[hx.1,hx.2] at e;cases hs:sgn p with
  | true=>
   rw[hs,if_pos rfl] at e;rw[if_neg (by omega),if_pos (by omega)];exact⟨by decide,rfl⟩
  | false=>
   rw[hs,if_neg (by decide)] at e;rw[if_pos (by omega)];exact⟨by decide,rfl⟩
theorem Zok {p:Int}(h:cl p≤2):spK p=0:=by
 have:∀ q:Int,(q=9218868437227405312∨q=18442240474082181120)→cl q=3:=by
  rintro q (rfl | rfl)<;>decide
 unfold spK;rw[if_neg (by omega),if_neg (fun c=>by have:=this p (.inl c);omega),if_neg (fun c=>by have:=this p (.inr c);omega)]
theorem Zjj {p:Int}(h:cl p≤2) (h0:cl p≠0):Z2l p=true:=by
 have h1:=ZdD p;refine Xa ?_;unfold cl at h h0;unfold sg;by_cases c1:ex p=0
 ·rw[if_pos c1] at h h0 ⊢;by_cases c2:fr p=0
  ·rw[if_pos c2] at h0;exact absurd rfl h0
  ·omega
 ·rw[if_neg c1] at h h0 ⊢;by_cases c2:ex p=2047
  ·rw[if_pos c2] at h;split at h
   ·omega
   ·split at h<;>omega
  ·rw[if_neg c2];omega
theorem Z5Y {p:Int}(h:Fin14 p):1≤(sdD p).length∧(sdD p).length≤100000∧(sdE p).natAbs≤2000000:=by
 obtain⟨_,_,j1,j2⟩:=Zw0 h;have l1:=ZgC (shV p);have l2:=ZbS (dcL (shV p));refine⟨?_,by unfold sdD;omega,by unfold sdE;omega⟩;obtain⟨_,b,_⟩:=Za4 h;obtain⟨b1,b2,b3⟩:=ZnZ h b.1 b.2;have t19:=Zcr h;have hp:0<10^(atL p-1):=Nat.pow_pos (by omega);have hv:0<shV p∧shV p<18446744073709551616:=by unfold shV;split<;>omega
 rcases Nat.eq_zero_or_pos (sdD p).length with c | c
 ·exfalso
  have c':trR (dcL (shV p))=[]:=List.length_eq_zero_iff.1 c;have e:=Zfm (b:=10) (dcL (shV p));rw[c'] at e;have e2:nmB 10 (dcL (shV p))=shV p:=Zfi (ZmJ hv.2);rw[e2] at e;have e3:nmB 10 []=0:=rfl;rw[e3,Nat.zero_mul] at e;omega
 ·exact c
theorem Zr5 (p:Int) (hp:U p) (w:World) (hk:knT w):Calls prog 9 #[.int .u64 p] w fun e w'=>e= .returned (bR (shT p))∧zi w w':=by
 have hu:decide (U p)=true:=Xa hp;unfold shT;by_cases h2:cl p≤2
 ·rw[if_neg (fun c=>c (Zok h2))];by_cases h0:cl p=0
  ·rw[if_pos h0];exact Zbw ZgG (Z2n p) (Za rfl (Za (zH h0) (Za (Xa h2) (Za hu (Zy hu))))) (by rfl) (by rfl) hk
  ·rw[if_neg h0];have hf:=Zjj h2 h0;have ht:=ZqN (ZcG hf);have f:=Z2o p;have et:txL (sgn p) (sdD p) (sdE p)=shS p:=ht;rw[et] at f;exact Zbw ZgG f (Za (Xa (Z5Y (ZcG hf))) (Za (by simp) (Za (Xa ⟨rfl,rfl,rfl⟩) (Za hf (Za (zO h0) (Za (Xa h2) (Za hu (Zy hu)))))))) (by rfl) (by rfl) hk
 ·obtain⟨a,b⟩:=Zoj hp h2;rw[if_pos a,← b];exact Zbw ZgG (Z2m p) (Za (Xb h2) (Za hu (Zy hu))) (by rfl) (by rfl) hk
def Zol (k:Int):Value:= .iface 69 (.int .i64 k)
theorem Z2p (p n m:Int):Zs (ZE (Zx prog Zi Zef Zo9) hT0 200 12 [.int .u64 p,.int .i64 n,.int .i64 m] [cmp true]) (.tuple #[bR [],Zol 1]) [(decide (n<1),true)]:=by and_intros<;>kernel_rfl
theorem Z2q (p n m:Int):Zs (ZE (Zx prog Zi Zef Zo9) hT0 200 12 [.int .u64 p,.int .i64 n,.int .i64 m] [cmp false,cmp true]) (.tuple #[bR [],Zol 1]) [(decide (n>1000),true),(decide (n<1),false)]:=by and_intros<;>kernel_rfl
theorem Z2r (p n m:Int):Zs (ZE (Zx prog Zi Zef Zo9) hT0 200 12 [.int .u64 p,.int .i64 n,.int .i64 m] [cmp false,cmp false,cmp false]) (.tuple #[bR (nmL (sgn p) (cl p)),.nilIface]) [(decide (cl p≤2),false),(decide (U p),true),(decide (U p),true),(decide (n>1000),false),(decide (n<1),false)]:=by and_intros<;>kernel_rfl
theorem Z2s (p n m:Int):Zs (ZE (Zx prog Zi Zef Zo9) hT0 200 12 [.int .u64 p,.int .i64 n,.int .i64 m] [cmp false,cmp false,cmp true,cmp true]) (.tuple #[bR (txL (sgn p) (List.replicate n.toNat 48) 0),.nilIface]) [(decide (1≤(List.replicate n.toNat (48:UInt8)).length∧(List.replicate n.toNat (48:UInt8)).length≤100000∧Int.natAbs 0≤2000000),true),(decide (0≤n∧n≤100000),true),(cl p==0,true),(decide (cl p≤2),true),(decide (U p),true),(decide (U p),true),(decide (n>1000),false),(decide (n<1),false)]:=by and_intros<;>kernel_rfl
def aD (p:Int):List UInt8:=ZaT (ZdU (sg p).toNat (xp p))
def aE (p:Int):Int:=((aD p).length:Int)-1-(wzN (xp p):Nat)
def aR (p n m:Int):List UInt8×Int:=rnD (aD p) (aE p) n.toNat (sgn p) m
theorem Z2t (p n m:Int):Zs (ZE (Zx prog Zi Zef Zo9) hT0 200 12 [.int .u64 p,.int .i64 n,.int .i64 m] [cmp false,cmp false,cmp true,cmp false]) (.tuple #[bR (txL (sgn p) (aR p n m).1 (aR p n m).2),.nilIface]) [(decide (1≤(aR p n m).1.length∧(aR p n m).1.length≤100000∧(aR p n m).2.natAbs≤2000000),true),(ZF 10 (aD p),true),(decide ((1≤(aD p).length∧(aD p).length≤90000)∧(1≤n∧n≤1000)∧(-100000≤aE p∧aE p≤100000)),true),(decide (1≤sg p∧sg p<9007199254740992∧ -1074≤xp p∧xp p≤972),true),(cl p==0,false),(decide (cl p≤2),true),(decide (U p),true),(decide (U p),true),(decide (n>1000),false),(decide (n<1),false)]:=by and_intros<;>kernel_rfl
def ZbU (p:Int) (n:Nat) (m:Int):List UInt8:=if spK p≠0 then spL (spK p) else if cl p=0 then txL (sgn p) (List.replicate n 48) 0 else Zg2 p n m
theorem Z2u {D:List UInt8}{e:Int}{n:Nat}{mn:Bool}{m:Int}:(rnD D e n mn m).1.length=n∧e≤(rnD D e n mn m).2∧(rnD D e n mn m).2≤e+1:=by
 unfold rnD;by_cases h:D.length≤n
 ·rw[if_pos h];refine⟨?_,Int.le_refl _,by omega⟩;show (D++List.replicate (n-D.length) 48).length=n;rw[List.length_append,List.length_replicate];omega
 ·rw[if_neg h];have lt:(D.take n).length=n:=by rw[List.length_take];omega
  split
  ·obtain⟨n1,n2⟩:=Znz (l:=D.take n);refine⟨?_,?_,?_⟩
   ·show ((ZaL (D.take n)).take n).length=n;rw[List.length_take];omega
   ·show e≤e+((ZaL (D.take n)).length:Nat)-n;omega
   ·show e+((ZaL (D.take n)).length:Nat)-n≤e+1;omega
  ·refine⟨?_,?_,?_⟩
   ·show ((D.take n).take n).length=n;rw[List.length_take];omega
   ·show e≤e+((D.take n).length:Nat)-n;omega
   ·show e+((D.take n).length:Nat)-n≤e+1;omega
theorem Zom (p:Int) (hp:U p) (n:Nat) (hn:1≤n∧n≤1000) (m:Int) (w:World) (hk:knT w):Calls prog 12 #[.int .u64 p,.int .i64 n,.int .i64 m] w fun e w'=>e= .returned (.tuple #[bR (ZbU p n m),.nilIface])∧zi w w':=by
 have hu:decide (U p)=true:=Xa hp;have k0:Zo [(decide (((n:Nat):Int)>1000),false),(decide (((n:Nat):Int)<1),false)]:=Za (Xb (by omega)) (Zy (Xb (by omega)));have k0:=Za hu (Za hu k0);unfold ZbU;by_cases h2:cl p≤2
 ·have k0:=Za (show decide (cl p≤2)=true from Xa h2) k0;rw[if_neg (fun c=>c (Zok h2))];by_cases h0:cl p=0
  ·rw[if_pos h0];have f:=Z2s p n m;rw[Xg] at f;exact Zbw ZgG f (Za (Xa ⟨by rw[List.length_replicate];omega,by rw[List.length_replicate];omega,by decide⟩) (Za (Xa (by omega)) (Za (zH h0) k0))) (by rfl) (by rfl) hk
  ·rw[if_neg h0];have hf:=ZcG (Zjj h2 h0);have hW:=Z1i (xp p) hf.ne;obtain⟨l1,l2,l3⟩:=ZcD hW;have hT:=Z1j hf hn.1 m l1 l2 l3;rw[← Zg6 hW] at hT;have f:=Z2t p n m;have et:txL (sgn p) (aR p n m).1 (aR p n m).2=Zg2 p n m:=by
    unfold aR;rw[Xg];exact hT
   rw[et] at f;have q0:=Go.Rn.sg_lt p;have q1:=hf.ne;have x0:=hf.e0;have x1:=hf.e1;obtain⟨K,hK⟩:∃ K,K=1074:=⟨_,rfl⟩;have wl:=Zn4 hf.s1 ⟨x0,x1⟩ K hK;have lb:(aD p).length≤16+K:=by
    rcases Nat.lt_or_ge (16+K) (aD p).length with c | c
    ·have:=Nat.pow_le_pow_right (n:=10) (by omega) (show 16+K≤(aD p).length-1 by omega);have l2':10^((aD p).length-1)≤ZdU (sg p).toNat (xp p):=l2;omega
    ·exact c
   have zb:wzN (xp p)≤1074:=by unfold wzN;omega
   have l1':1≤(aD p).length:=l1;have eb: -2000≤aE p∧aE p≤2000:=by unfold aE;omega
   obtain⟨r1,r2,r3⟩:=Z2u (D:=aD p) (e:=aE p) (n:=(n:Int).toNat) (mn:=sgn p) (m:=m);rw[Xg] at r1;have al:ZF 10 (aD p)=true:=by
    have:aD p=Zbs (aD p).length (ZdU (sg p).toNat (xp p)):=Zg6 hW;rw[this];exact Zb7 _ _ 10
   refine Zbw ZgG f (Za (Xa ?_) (Za al (Za (Xa ⟨⟨l1',by omega⟩,⟨by omega,by omega⟩,by omega,by omega⟩) (Za (Xa ⟨by omega,by omega,x0,x1⟩) (Za (zO h0) k0))))) (by rfl) (by rfl) hk;have e1:(aR p n m).1.length=n:=by unfold aR;rw[Xg];exact r1
   have e2:aE p≤(aR p n m).2∧(aR p n m).2≤aE p+1:=⟨r2,r3⟩;omega
 ·obtain⟨a,b⟩:=Zoj hp h2;rw[if_pos a,← b];exact Zbw ZgG (Z2r p n m) (Za (Xb h2) k0) (by rfl) (by rfl) hk
def Z5Z:Ans:=fun vals s=>
 match vals,s with
 | [.int .u64 p,.int .i64 n,.int .i64 m],.inr (.inr (.inr (.inl true)))::s'=>some (.tuple #[bR (ZbU p n.toNat m),.nilIface],s',[(decide (1≤n∧n≤1000),true),(decide (U p),true)])
 | [.int .u64 _,.int .i64 n,.int .i64 _],.inr (.inr (.inr (.inl false)))::s'=>some (.tuple #[bR [],Zol 1],s',[(decide (1≤n∧n≤1000),false)])
 | _,_=>none
theorem Zx7:ZbJ 12 Z5Z:=by
 intro vals s v s' lg h hl w hk;unfold Z5Z at h;split at h
 ·rename_i p n m s2;cases h;obtain⟨l1,l2⟩:=Xc (hl _ Xe);have l3:=Xc (hl _ (Xd _ Xf));obtain⟨k,rfl⟩:∃ k:Nat,n=k:=⟨n.toNat,by omega⟩;exact Zom p l3 k (by omega) m w hk
 ·rename_i p n m s2;cases h;have l1:=of_decide_eq_false (hl _ Xf);by_cases c:n<1
  ·exact Zbw ZgG (Z2p p n m) (Zy (Xa c)) (by rfl) (by rfl) hk
  ·exact Zbw ZgG (Z2q p n m) (Za (Xa (by omega)) (Zy (Xb c))) (by rfl) (by rfl) hk
 ·cases h
end Go.Proofs.YtgefjidphfdhdaaGreatDoor
namespace Go.Proofs.YtgefjidphfdhdaaGreatDoor
open Go.Proofs.Tryz
open Go.IntKind
open Go.KRun Go.Nt Go.Rd Go.Wd Go.Pt
set_option maxRecDepth 100000
theorem Zr6:ZC 43 (gU fun p=> .string (hxW p)):=ZqR Zoc
def Zkj:Con:=alt 20 (gU vT) (alt 22 Z3j (alt 44 Z1t (alt 45 Z3i (alt 43 (gU fun p=> .string (hxW p)) (alt 42 Z1o Zn)))))
theorem Zr7:ConOk Zkj:=Zr func20 rfl ZgF (Zr func22 rfl Znw (Zr func44 rfl ZhB (Zr func45 rfl Znv (Zr func43 rfl Zr6 (Zr func42 rfl Zh7 Zh)))))
theorem Zr8:TabOk (Zx prog Zi Zkj Zx3):=Z3 Zr7 Zoi
def hfD (p:Int):List UInt8:=(hxW p).data.toList.drop 3
def hfT (p:Int) (c:UInt8):List UInt8:=ptL ([c]++trC 48 (hfD p))
def hfW (p:Int) (c:UInt8) (x:Int):List UInt8:=(((mnL (sgn p)++[48,120])++hfT p c)++[112])++Za7 x
def lHf (p:Int) (c:UInt8) (x:Int) (l:Log):Log:=(decide ((((mnL (sgn p)++[48,120])++hfT p c)++[112]).length+(Za7 x).length≤9223372036854775807),true)::(decide (x.natAbs≤2000000),true)::(decide (((mnL (sgn p)++[48,120])++hfT p c).length+1≤9223372036854775807),true)::(decide ((mnL (sgn p)++[48,120]).length+(hfT p c).length≤9223372036854775807),true)::(decide (1≤([c]++trC 48 (hfD p)).length∧([c]++trC 48 (hfD p)).length≤100000),true)::(decide (1+(trC 48 (hfD p)).length≤9223372036854775807),true)::(decide ((mnL (sgn p)).length+2≤9223372036854775807),true)::(true,true)::(decide ((hfD p).length≤100000),true)::(true,true)::(decide (U p),true)::l
theorem Z2v (p:Int):Zs (ZE (Zx prog Zi Zkj Zx3) hT0 200 15 [.int .u64 p] [cmp false,cmp false,cmp false]) (bR (nmL (sgn p) (cl p))) [(cl p==2,false),(cl p==1,false),(cl p==0,false),(decide (U p),true)]:=by and_intros<;>kernel_rfl
theorem Z2w (p:Int):Zs (ZE (Zx prog Zi Zkj Zx3) hT0 200 15 [.int .u64 p] [cmp true,sam true,sam true,sam true,sam true,sam true,sam true]) (bR (hfW p 48 0)) (lHf p 48 0 [(cl p==0,true),(decide (U p),true)]):=by and_intros<;>kernel_rfl
theorem Z2x (p:Int):Zs (ZE (Zx prog Zi Zkj Zx3) hT0 200 15 [.int .u64 p] [cmp false,cmp true,sam true,sam true,sam true,sam true,sam true,sam true]) (bR (hfW p 48 (i64.wrap (xp p+52)))) (lHf p 48 (i64.wrap (xp p+52)) [(cl p==1,true),(cl p==0,false),(decide (U p),true)]):=by and_intros<;>kernel_rfl
theorem Z2y (p:Int):Zs (ZE (Zx prog Zi Zkj Zx3) hT0 200 15 [.int .u64 p] [cmp false,cmp false,cmp true,sam true,sam true,sam true,sam true,sam true,sam true]) (bR (hfW p 49 (i64.wrap (xp p+52)))) (lHf p 49 (i64.wrap (xp p+52)) [(cl p==2,true),(cl p==1,false),(cl p==0,false),(decide (U p),true)]):=by and_intros<;>kernel_rfl
theorem ZdS (p:Int):∀ k:Nat,hSn p k=p/16^k
 | 0=>by show p=p/16^0;rw[Int.pow_zero,Int.ediv_one]
 | k+1=>by
  show hSx (hSn p k)=_;rw[ZdS p k];unfold hSx;have e:(2:Int)^min (Int.toNat 4) 64=16:=rfl;rw[e,Int.fdiv_eq_ediv_of_nonneg _ (by omega),Int.ediv_ediv_of_nonneg (Int.le_of_lt (Int.pow_pos (by omega))),Int.pow_succ]
theorem Zon {q r:Int}(hq:U q) (hr:U r) (h:q % 16=r % 16):hBx q=hBx r:=by
 unfold hBx hC;have e:∀ q:Int,U q→Ziq q 15=q % 16:=fun q hq=>by
  rw[Zbk 0 4 hq (by rfl) (by decide)];have e0:(2:Int)^0=1:=rfl;have e4:(2:Int)^4=16:=rfl;rw[e0,e4];omega
 rw[e q hq,e r hr,h]
theorem Zf9 {p:Int}(hp:U p) (k:Nat):U (p/16^k):=by
 have h1:(0:Int)<16^k:=Int.pow_pos (by omega);unfold U at hp ⊢;exact⟨Int.ediv_nonneg hp.1 (by omega),Int.lt_of_le_of_lt (Int.ediv_le_self _ hp.1) hp.2⟩
theorem Z2z {p:Int}(hp:U p):hfD p=Zf8 p:=by
 have key:∀ k:Nat,k≤12→hBx (hSn p k)=hBx (hSn (zR p) k):=fun k hk=>by
  rw[ZdS,ZdS];have hf:zR p=p % 4503599627370496:=by
   unfold zR;have h1:=ZdD p;have h2:fr p=p % 4503599627370496:=rfl;have h3:0≤sg p:=(Go.Rn.sg_lt p).1;rw[Int.tmod_eq_emod_of_nonneg h3,← h2];unfold sg;split
   ·omega
   ·split<;>omega
  have hu:U (zR p):=by rw[hf];unfold U;omega
  refine Zon (Zf9 hp k) (Zf9 hu k) ?_;rw[hf];rcases (show k=0∨k=1∨k=2∨k=3∨k=4∨k=5∨k=6∨k=7∨k=8∨k=9∨k=10∨k=11∨k=12 by omega) with rfl | rfl | rfl | rfl | rfl | rfl | rfl | rfl | rfl | rfl | rfl | rfl | rfl
  all_goals
   simp only[show (16:Int)^0=1 from rfl,show (16:Int)^1=16 from rfl,show (16:Int)^2=256 from rfl,show (16:Int)^3=4096 from rfl,show (16:Int)^4=65536 from rfl,show (16:Int)^5=1048576 from rfl,show (16:Int)^6=16777216 from rfl,show (16:Int)^7=268435456 from rfl,show (16:Int)^8=4294967296 from rfl,show (16:Int)^9=68719476736 from rfl,show (16:Int)^10=1099511627776 from rfl,show (16:Int)^11=17592186044416 from rfl,show (16:Int)^12=281474976710656 from rfl];omega
 unfold hfD Zf8 hxW;show [hBx (hSn p 12),hBx (hSn p 11),hBx (hSn p 10),hBx (hSn p 9),hBx (hSn p 8),hBx (hSn p 7),hBx (hSn p 6),hBx (hSn p 5),hBx (hSn p 4),hBx (hSn p 3),hBx (hSn p 2),hBx (hSn p 1),hBx (hSn p 0)]=[hBx (hSn (zR p) 12),hBx (hSn (zR p) 11),hBx (hSn (zR p) 10),hBx (hSn (zR p) 9),hBx (hSn (zR p) 8),hBx (hSn (zR p) 7),hBx (hSn (zR p) 6),hBx (hSn (zR p) 5),hBx (hSn (zR p) 4),hBx (hSn (zR p) 3),hBx (hSn (zR p) 2),hBx (hSn (zR p) 1),hBx (hSn (zR p) 0)];rw[key 12 (by omega),key 11 (by omega),key 10 (by omega),key 9 (by omega),key 8 (by omega),key 7 (by omega),key 6 (by omega),key 5 (by omega),key 4 (by omega),key 3 (by omega),key 2 (by omega),key 1 (by omega),key 0 (by omega)]
theorem Zoo {p:Int}(hp:U p) (c:UInt8) (x:Int):hfW p c x=Zng (sgn p) c (trR (Zf8 p)) x:=by
 unfold hfW hfT Zng mnL;rw[Z2z hp,Z1f];cases trR (Zf8 p) with
 | nil=>simp [ptL]
 | cons a r=>simp [ptL]
theorem Zx8 {p:Int}(h:zR p=0):trR (Zf8 p)=[]:=by
 unfold Zf8;rw[h]
 decide
theorem Zop {p:Int}(hp:U p) (c:UInt8) {x:Int}(hx:x.natAbs≤2000000) {l:Log}(hl:Zo l):Zo (lHf p c x l):=by
 have l0:(hfD p).length=13:=rfl;have l1:=Zf1 (sgn p);have l2:=Zfy 48 (hfD p);have l3:=ZhH ([c]++trC 48 (hfD p));have l4:=Zb9 x;have l5:([c]++trC 48 (hfD p)).length=1+(trC 48 (hfD p)).length:=by rw[List.length_append];rfl
 have l6:(hfT p c).length≤([c]++trC 48 (hfD p)).length+1:=l3;have l7:(mnL (sgn p)++[48,120]).length=(mnL (sgn p)).length+2:=by rw[List.length_append];rfl
 have l8:((mnL (sgn p)++[48,120])++hfT p c).length=(mnL (sgn p)).length+2+(hfT p c).length:=by rw[List.length_append,l7]
 have l9:(((mnL (sgn p)++[48,120])++hfT p c)++[112]).length=(mnL (sgn p)).length+2+(hfT p c).length+1:=by rw[List.length_append,l8];rfl
 exact Za (Xa (by omega)) (Za (Xa hx) (Za (Xa (by omega)) (Za (Xa (by omega)) (Za (Xa (by omega)) (Za (Xa (by omega)) (Za (Xa (by omega)) (Za rfl (Za (Xa (by omega)) (Za rfl (Za (Xa hp) hl))))))))))
theorem Zoq (p:Int) (hp:U p) (w:World) (hk:knT w):Calls prog 15 #[.int .u64 p] w fun e w'=>e= .returned (bR (ZgN p))∧zi w w':=by
 have hu:decide (U p)=true:=Xa hp;have xb:=Go.Rn.xp_bd p;have ew:i64.wrap (xp p+52)=xp p+52:=Zv (by omega) (by omega);unfold ZgN;by_cases h2:cl p≤2
 ·rw[if_neg (fun c=>c (Zok h2))];by_cases h0:cl p=0
  ·have hf:zR p=0:=by
    unfold zR;have:sg p=0:=by
     unfold cl at h0;unfold sg;split at h0
     ·rename_i c;rw[if_pos c];split at h0
      ·assumption
      ·omega
     ·split at h0
      ·split at h0
       ·omega
       ·split at h0<;>omega
      ·omega
    rw[this];rfl
   have f:=Z2w p;rw[Zoo hp,Zx8 hf] at f;rw[if_pos h0];have e:Zng (sgn p) 48 [] 0=(if sgn p=true then [45] else [])++[48,120,48,112,48]:=by
    unfold Zng;rfl
   rw[e] at f;exact Zbw Zr8 f (Zop hp 48 (by decide) (Za (zH h0) (Zy hu))) (by rfl) (by rfl) hk
  ·rw[if_neg h0];by_cases h1:cl p=1
   ·have ex0:xp p= -1074:=by
     have:=Zdp p;unfold xp;rcases this with ⟨a,_⟩ | ⟨a,b⟩ | ⟨a,b,c⟩
     ·rw[if_pos a]
     ·omega
     ·omega
    have f:=Z2x p;rw[Zoo hp,ew,show xp p+52= -1022 by omega] at f;rw[if_pos h1];exact Zbw Zr8 f (Zop hp 48 (by decide) (Za (zH h1) (Za (zO h0) (Zy hu)))) (by rfl) (by rfl) hk
   ·rw[if_neg h1];have h3:cl p=2:=by have:=Zdp p;omega
    have f:=Z2y p;rw[Zoo hp,ew] at f;have lk:=Zop hp 49 (x:=xp p+52) (by omega) (Za (zH h3) (Za (zO h1) (Za (zO h0) (Zy hu))));exact Zbw Zr8 f lk (by rfl) (by rfl) hk
 ·obtain⟨a,b⟩:=Zoj hp h2;rw[if_pos a,← b];exact Zbw Zr8 (Z2v p) (Za (zO (by omega)) (Za (zO (by omega)) (Za (zO (by omega)) (Zy hu)))) (by rfl) (by rfl) hk
def Z6a:Ans:=gU fun p=>bR (shT p)
theorem Zx9:ZbJ 9 Z6a:=by
 intro vals s v s' lg h hl w hk;unfold Z6a gU at h;split at h
 ·cases h;exact Zr5 _ (Xc (hl _ Xf)) w hk
 ·cases h
def Z6b:Ans:=gU fun p=>bR (ZgN p)
theorem ZxA:ZbJ 15 Z6b:=by
 intro vals s v s' lg h hl w hk;unfold Z6b gU at h;split at h
 ·cases h;exact Zoq _ (Xc (hl _ Xf)) w hk
 ·cases h
end Go.Proofs.YtgefjidphfdhdaaGreatDoor
namespace Go.Proofs.YtgefjidphfdhdaaGreatDoor
open Go.Proofs.Tryz
open Go.KRun Go.Nt Go.Rd Go.Pt
set_option maxRecDepth 100000
def Z6c:Hc:=zJ 9 (gT Z6a) (zJ 12 (gT Z5Z) (zJ 15 (gT Z6b) hcN))
theorem Zor:HcOk Z6c:=Zq func9 rfl (Zf0 Zx9) (Zq func12 rfl (Zf0 Zx7) (Zq func15 rfl (Zf0 ZxA) zo))
theorem Z7E:shT 4591870180066957722=[49,101,45,49]:=by decide+kernel
theorem Z7F:ZbU 4607182418800017408 3 0=[49,46,48,48,101,48]:=by decide+kernel
theorem Z7G:ZgN 4609434218613702656=[48,120,49,46,56,112,48]:=by decide+kernel
theorem Z7H:Zs (ZE (Zx prog Zi Zn Z6c) hT0 200 11 [] [cmp true,sam true,sam true,sam true]) (.bool true) [Zaa (ZgN 4609434218613702656) [48,120,49,46,56,112,48] true,(decide (U 4609434218613702656),true),Zaa (ZbU 4607182418800017408 3 0) [49,46,48,48,101,48] true,Zaa (shT 4591870180066957722) [49,101,45,49] true,(decide (U 4591870180066957722),true),(decide ((1:Int)≤3∧(3:Int)≤1000),true),(decide (U 4607182418800017408),true)]:=by and_intros<;>kernel_rfl
def ZxB:Ans:=fun vals s=>
 match vals with
 | []=>some (.bool true,s,[])
 | _=>none
theorem Zr9:ZbJ 11 ZxB:=by
 intro vals s v s' lg h hl w hk;unfold ZxB at h;split at h
 ·cases h;exact Zbw (Z3 Zh Zor) Z7H (Za (Z9 (by rw[Z7G];rfl)) (Za (by decide) (Za (Z9 (by rw[Z7F];rfl)) (Za (Z9 (by rw[Z7E];rfl)) (Za (by decide) (Za (by decide) (Zy (by decide)))))))) (by rfl) (by rfl) hk
 ·cases h
def Z6d:Hc:=zJ 11 (gT ZxB) Z6c
theorem Zos:HcOk Z6d:=Zq func11 rfl (Zf0 Zr9) Zor
end Go.Proofs.YtgefjidphfdhdaaGreatDoor
namespace Go.Proofs.YtgefjidphfdhdaaGreatDoor
open Go.KRun Go.Nt Go.Rd Go.Pt
set_option maxRecDepth 100000
theorem ZbC (b:Bool) (s:List UInt8) (e:Int):(txL b s e).length≤s.length+24:=by
 rw[← Z2k,List.length_append,List.length_append,List.length_append];have l1:=Zf1 b;have l2:=ZhH s;have l3:=Zb9 e;have l4:([101]:List UInt8).length=1:=rfl;omega
theorem Zjk (b:Bool) (n q:Nat) (f:Int):(hiX b n q f).length≤n+24:=by
 unfold hiX;split
 ·exact Nat.le_trans (ZbC _ _ _) (Nat.add_le_add_right (Zb8 _ _) 24)
 ·exact Nat.le_trans (ZbC _ _ _) (Nat.add_le_add_right (Zb8 _ _) 24)
theorem ZfA (k:Int):(spL k).length≤4:=by
 unfold spL
 repeat' split
 all_goals decide
theorem ZrA {p:Int}(hp:U p):(shT p).length≤100:=by
 unfold shT;split
 ·exact Nat.le_trans (ZfA _) (by omega)
 ·rename_i h;split
  ·exact Nat.le_trans (ZbC _ _ _) (by simp)
  ·rename_i h0;have h2:cl p≤2:=by
    rcases Int.lt_or_le 2 (cl p) with c | c
    ·exact absurd (Zoj hp (by omega)).1 h
    ·exact c
   have hf:=ZcG (Zjj h2 h0);obtain⟨a,b,_⟩:=Za4 hf;rw[a];unfold shO;split
   ·exact Nat.le_trans (Nat.le_trans (ZbC _ _ _) (Nat.add_le_add_right (Zb8 _ _) 24)) (by omega)
   ·exact Nat.le_trans (Zjk _ _ _ _) (by omega)
theorem ZrB (p:Int) (n:Nat) (m:Int):(ZbU p n m).length≤n+24:=by
 unfold ZbU;split
 ·exact Nat.le_trans (ZfA _) (by omega)
 ·split
  ·exact Nat.le_trans (ZbC _ _ _) (by rw[List.length_replicate];omega)
  ·unfold Zg2;split
   ·exact Zjk _ _ _ _
   ·exact Nat.le_trans (ZbC _ _ _) (Nat.add_le_add_right (Zb8 _ _) 24)
theorem Zjl (b:Bool) (c:UInt8) (h:List UInt8) (x:Int):(Zng b c h x).length≤h.length+30:=by
 have e:=Zb9 x;unfold Zng;cases b<;>by_cases h0:h=[]<;>simp [h0]<;>omega
theorem Zjm (p:Int):(trR (Zf8 p)).length≤13:=Nat.le_trans (ZbS _) (show (Zf8 p).length≤13 from Nat.le_of_eq rfl)
theorem ZrC (p:Int):(ZgN p).length≤100:=by
 have hd:=Zjm p;unfold ZgN;split
 ·exact Nat.le_trans (ZfA _) (by omega)
 ·split
  ·cases sgn p<;>decide
  ·split
   ·exact Nat.le_trans (Zjl _ _ _ _) (by omega)
   ·exact Nat.le_trans (Zjl _ _ _ _) (by omega)
structure Oth14 (P q:Int):Prop where
 ex:ex P=ex q
 fr:fr P=fr q
 mag:mag P=mag q
 sg:sg P=sg q
 xp:xp P=xp q
 cl:cl P=cl q
 s1:sgn P=true
 s0:sgn q=false
end Go.Proofs.YtgefjidphfdhdaaGreatDoor
namespace Go.KRun
open Go.IntKind
theorem Runs.scope {T:Tab}{c:Code}{x:Lf}{P:Ex→Lf→Prop}(h:Runs T c x P):Runs T (.scope c) x P:=fun m B a w R Q hQ=>wp_scope_straight (h m B a w R _ fun e y he a' w' hR=>by
 have:=hQ e y he a' w' hR
 match e,this with
 | none,t=>exact t
 | some none,t=>exact t
 | some (some id),t=>exact t)
end Go.KRun
namespace Go.Proofs.YtgefjidphfdhdaaGreatDoor
open Go.Proofs.Tryz
open Go.IntKind
open Go.KRun Go.Nt Go.Rd
set_option maxRecDepth 100000
def ZdT:Con:=alt 145 Z0R (alt 146 Z4G (alt 135 Na.Z3e (alt 42 Z4I Zn)))
theorem Zjn:ConOk ZdT:=Zr func145 rfl Zhz (Zr func146 rfl Zwi (Zr func135 rfl Na.ZlR (Zr func42 rfl Zwm Zh)))
def tdS (F:Func):Code:=cIn (ZV (Zw F))
def tdL (F:Func):Code:=cIn (cIn (ZA (ZV (ZV (tdS F)))))
def tdE (F:Func):Code:=ZV (ZV (ZV (tdS F)))
theorem Zhi:f93.body=some (Zaj [ZA (Zw f93)] (.scope (Zaj [ZA (tdS f93),ZA (ZV (tdS f93))] (.seq (.block 0 (.loop (tdL f93))) (tdE f93))))):=by kernel_rfl
def nuB (b:Int) (D:List UInt8) (k P:Int):List Value×TypeId:=([.int .i64 b,bR D,.int .i64 k,.int .i64 P],83)
def tdM:Hp:=⟨1,[nuB 0 [] 0 0]⟩
def tdF (s:List UInt8) (b i:Int) (p:Bool) (v9:Value):List Value:=[bR s,.int .i64 b,undef,undef,pO 0,bR [],.bool false,.int .i64 i,.bool p,v9]
theorem Z6e (s:List UInt8) (b:Int):Zk (evL (Ze prog Zi ZdT true) 100 [ZA (Zw f93)] ([bR s,.int .i64 b]++List.replicate 66 undef,⟨0,[]⟩,[]) ⟨[],[],[]⟩) 7 61 none [bR s,.int .i64 b,undef,undef,pO 0,bR [],.bool false] tdM []:=by and_intros<;>kernel_rfl
theorem Z6f (s:List UInt8) (b:Int) (g:Nat→Value):Zk (evL (Ze prog Zi ZdT true) 100 [ZA (tdS f93),ZA (ZV (tdS f93))] ([bR s,.int .i64 b,undef,undef,pO 0,bR [],.bool false]++tl 61 g,tdM,[]) ⟨[],[],[]⟩) 9 59 none [bR s,.int .i64 b,undef,undef,pO 0,bR [],.bool false,.int .i64 0,.bool false] tdM []:=by and_intros<;>kernel_rfl
theorem Z7I (s:List UInt8) (b i:Int) (p:Bool) (v9:Value) (g:Nat→Value):Zk (evC (Ze prog Zi ZdT true) 100 false (tdL f93) (tdF s b i p v9++tl 58 g,tdM,[cmp false]) ⟨[],[],[]⟩) 10 58 (some (some 0)) (tdF s b i p v9) tdM [(decide (i<(s.length:Nat)),false)]:=by and_intros<;>kernel_rfl
theorem Z7J (s:List UInt8) (b i:Int) (p:Bool) (v9:Value) (g:Nat→Value):Zk (evC (Ze prog Zi ZdT true) 100 false (tdL f93) (tdF s b i p v9++tl 58 g,tdM,[cmp true,cmp true]) ⟨[],[],[]⟩) 10 58 none (tdF s b (i64.wrap (i+1)) p (.int .u8 (byR s i))) tdM [(decide (dvB (byR s i)<b),true),(decide (0≤byR s i∧byR s i<256),true),(decide (0≤i∧i.toNat<s.length),true),(decide (i<(s.length:Nat)),true)]:=by and_intros<;>kernel_rfl
theorem Z7K (s:List UInt8) (b i:Int) (v9:Value) (g:Nat→Value):Zk (evC (Ze prog Zi ZdT true) 100 false (tdL f93) (tdF s b i false v9++tl 58 g,tdM,[cmp true,cmp false,cmp true]) ⟨[],[],[]⟩) 10 58 none (tdF s b (i64.wrap (i+1)) true (.int .u8 (byR s i))) tdM [(byR s i==46,true),(decide (dvB (byR s i)<b),false),(decide (0≤byR s i∧byR s i<256),true),(decide (0≤i∧i.toNat<s.length),true),(decide (i<(s.length:Nat)),true)]:=by and_intros<;>kernel_rfl
theorem Z6g (s:List UInt8) (b i:Int) (p:Bool) (v9:Value) (g:Nat→Value):Zk (evC (Ze prog Zi ZdT true) 100 false (tdL f93) (tdF s b i p v9++tl 58 g,tdM,[cmp true,cmp false,cmp false]) ⟨[],[],[]⟩) 10 58 (some (some 0)) (tdF s b i p (.int .u8 (byR s i))) tdM [(byR s i==46,false),(decide (dvB (byR s i)<b),false),(decide (0≤byR s i∧byR s i<256),true),(decide (0≤i∧i.toNat<s.length),true),(decide (i<(s.length:Nat)),true)]:=by and_intros<;>kernel_rfl
theorem Z6h (s:List UInt8) (b i:Int) (v9:Value) (g:Nat→Value):Zk (evC (Ze prog Zi ZdT true) 100 false (tdL f93) (tdF s b i true v9++tl 58 g,tdM,[cmp true,cmp false,cmp true]) ⟨[],[],[]⟩) 10 58 (some (some 0)) (tdF s b i true (.int .u8 (byR s i))) tdM [(byR s i==46,true),(decide (dvB (byR s i)<b),false),(decide (0≤byR s i∧byR s i<256),true),(decide (0≤i∧i.toNat<s.length),true),(decide (i<(s.length:Nat)),true)]:=by and_intros<;>kernel_rfl
def alD (u:List UInt8):List UInt8:=ctA u++ctB u
def tdK (u:List UInt8):Int:=i64.wrap (((ctA u).length:Nat)-i64.wrap (((alD u).length:Nat)-((trZ (alD u)).length:Nat)))
theorem Z7L (s:List UInt8) (b i:Int) (p:Bool) (v9:Value) (d d':Bool) (g:Nat→Value):Zk (evC (Ze prog Zi ZdT true) 100 false (tdE f93) (tdF s b i p v9++tl 58 g,tdM,[sam true,cmp d,sam true,sam true,sam d']) ⟨[],[],[]⟩) 7 61 (some none) [bR s,.int .i64 b,undef,undef,pO 0,bR (s.drop i.toNat),.bool d'] ⟨2,[nuB b (nuD (alD (s.take i.toNat))) (tdK (s.take i.toNat)) 0,nuB b (nuD (alD (s.take i.toNat))) (tdK (s.take i.toNat)) 0]⟩ [lNe (alD (s.take i.toNat)) d',(decide (0≤i∧i≤(s.length:Nat)),true),(true,true),(decide ((trZ (alD (s.take i.toNat))).length≤100000),true),(true,true),(decide ((ctA (s.take i.toNat)).length+(ctB (s.take i.toNat)).length≤9223372036854775807),true),(decide (0≤Lib.indexByte (s.take i.toNat) 46),d),(true,true),(decide ((s.take i.toNat).length≤100000),true),(decide (0≤i∧i≤(s.length:Nat)),true)]:=by and_intros<;>kernel_rfl
def tdJ (s:List UInt8) (b:Int) (E i:Nat) (y:Lf):Prop:=∃ (p:Bool) (v9:Value) (g:Nat→Value),i≤s.length∧E=i+en1 b p (s.drop i)∧y.1=tdF s b i p v9++tl 58 g∧y.2.1=tdM
def tdO (s:List UInt8) (b:Int) (E:Nat) (y:Lf):Prop:=∃ (p:Bool) (v9:Value) (g:Nat→Value),E≤s.length∧y.1=tdF s b E p v9++tl 58 g∧y.2.1=tdM
theorem ZrD {s:List UInt8}{b:Int}{E:Nat}(h2:s.length≤100000) (r:Nat) (y:Lf) (h:∃ i,r=s.length-i∧tdJ s b E i y):
  Runs (Ze prog Zi ZdT true) (tdL f93) y fun e z=>match e with | none=>∃ r',r'<r∧∃ i,r'=s.length-i∧tdJ s b E i z | some none=>False | some (some id')=>id'=0∧tdO s b E z:=by
 have hT:=Zd Zjn;obtain⟨i,hr,p,v9,g,hi,hE,ht,hh⟩:=h;obtain⟨t,h',sc⟩:=y;simp only at ht hh;subst ht hh;by_cases hc:i<s.length
 ·have lA:decide (((i:Nat):Int)<(s.length:Nat))=true:=Xa (by omega);have lI:decide ((0:Int)≤(i:Nat)∧((i:Nat):Int).toNat<s.length)=true:=Xa ⟨by omega,by rw[Xg];exact hc⟩;have ew:i64.wrap (((i:Nat):Int)+1)=((i+1:Nat):Int):=by rw[Zv (by omega) (by omega)];omega
  have ed:=ZiA hc;have eC:lq8 (s.getD i 0)=byR s (i:Nat):=by unfold lq8 byR;rw[Xg]
  have lB:=ZiP s (i:Nat);rw[ed,en1,eC] at hE;by_cases hd:dvB (byR s (i:Nat))<b
  ·rw[if_pos hd] at hE;have hg:=Z7J s b (i:Nat) p v9 g;rw[ew] at hg;refine (Zc (s0:=sc) hT hg (Za (Xa hd) (Za lB (Za lI (Zy lA))))).mono fun e z he=> ?_;obtain⟨rfl,⟨g',z1⟩,z2⟩:=he;exact⟨s.length-(i+1),by omega,i+1,rfl,p,_,g',by omega,by omega,z1,z2⟩
  ·rw[if_neg hd] at hE;have lD:decide (dvB (byR s (i:Nat))<b)=false:=Xb hd;by_cases h46:byR s (i:Nat)=46
   ·have l46:(byR s (i:Nat)==46)=true:=by simpa using h46
    cases p with
    | false=>
     rw[if_pos ⟨h46,rfl⟩] at hE;have hg:=Z7K s b (i:Nat) v9 g;rw[ew] at hg;refine (Zc (s0:=sc) hT hg (Za l46 (Za lD (Za lB (Za lI (Zy lA)))))).mono fun e z he=> ?_;obtain⟨rfl,⟨g',z1⟩,z2⟩:=he;exact⟨s.length-(i+1),by omega,i+1,rfl,true,_,g',by omega,by omega,z1,z2⟩
    | true=>
     rw[if_neg (fun h=>by cases h.2)] at hE;refine (Zc (s0:=sc) hT (Z6h s b (i:Nat) v9 g) (Za l46 (Za lD (Za lB (Za lI (Zy lA)))))).mono fun e z he=> ?_;obtain⟨rfl,⟨g',z1⟩,z2⟩:=he;have:E=i:=by omega
     subst this;exact⟨rfl,true,_,g',hi,z1,z2⟩
   ·rw[if_neg (fun h=>h46 h.1)] at hE;refine (Zc (s0:=sc) hT (Z6g s b (i:Nat) p v9 g) (Za (by simpa using h46) (Za lD (Za lB (Za lI (Zy lA)))))).mono fun e z he=> ?_;obtain⟨rfl,⟨g',z1⟩,z2⟩:=he;have:E=i:=by omega
    subst this;exact⟨rfl,p,_,g',hi,z1,z2⟩
 ·have es:s.drop i=[]:=List.drop_eq_nil_of_le (by omega);rw[es] at hE;have:E=i:=hE;subst this;refine (Zc (s0:=sc) hT (Z7I s b (E:Nat) p v9 g) (Zy (Xb (by omega)))).mono fun e z he=> ?_;obtain⟨rfl,⟨g',z1⟩,z2⟩:=he;exact⟨rfl,p,v9,g',hi,z1,z2⟩
def tdW (b:Int) (l:List UInt8) (d:Bool):Value:= .tuple #[.agg #[.int .i64 b,bR (nuD (sc1 b false l).1),.int .i64 (((trZ (sc1 b false l).1).length:Nat)-((sc1 b false l).2.1:Nat)),.int .i64 0],bR (sc1 b false l).2.2,.bool d]
theorem ZrE (s:List UInt8) (b:Int) (hb:b=10∨b=16) (hs:s.length≤100000) (w:World):Calls prog 93 #[bR s,.int .i64 b] w fun r w'=>r= .returned (tdW b s (decide ((sc1 b false s).1≠[])))∧zi w w':=by
 have hT:=Zd Zjn;refine ZZ (T:=Ze prog Zi ZdT true) func93 Zhi (by rfl) (by rfl) ?_ w;refine Zz hT (Z6e s b) Zbu fun g=> ?_;refine Runs.scope ?_;refine Zz hT (Z6f s b g) Zbu fun g1=> ?_;obtain⟨E,hE⟩:∃ E,E=en1 b false s:=⟨_,rfl⟩;have hEl:=ZsH b false s;rw[← hE] at hEl;refine Runs.seq (P1:=fun e y=>match e with | none=>tdO s b E y | some none=>False | some (some _)=>False) ?_ ?_ ?_
 ·have e0:[bR s,.int .i64 b,undef,undef,pO 0,bR [],.bool false,.int .i64 0,.bool false]++tl 59 g1=tdF s b 0 false (g1 0)++tl 58 (fun n=>g1 (n+1)):=by rfl
  rw[e0];exact Runs.forLoop (R:=fun _=>False) (P:=tdO s b E) (fun r y=>∃ i,r=s.length-i∧tdJ s b E i y) (ZrD hs) (n:=s.length-0) ⟨0,rfl,false,_,_,Nat.zero_le _,by rw[hE,Nat.zero_add,List.drop_zero],rfl,rfl⟩
 ·rintro⟨t,hh,sc⟩ ⟨p,v9,g',hEs,e1,e2⟩;simp only at e1 e2;subst e1 e2;have hS:=ZmO hb s;rw[← hE] at hS;obtain⟨u,hu⟩:∃ u,u=s.take E:=⟨_,rfl⟩;rw[← hu] at hS;have lu:u.length≤100000:=by rw[hu,List.length_take];omega
  have la:(alD u).length=(ctA u).length+(ctB u).length:=List.length_append;have lz:=Zfg (alD u);have lA:(ctA u).length+(ctB u).length≤u.length:=by
   unfold ctA ctB;split
   ·rw[List.length_take,List.length_drop];omega
   ·exact Nat.le_refl _
  have hg:=Z7L s b (E:Nat) p v9 (decide (0≤Lib.indexByte u 46)) (decide (alD u≠[])) g';rw[Xg,← hu] at hg;have ek:tdK u=((trZ (alD u)).length:Nat)-((ctB u).length:Nat):=by
   unfold tdK;rw[Zv (n:=((alD u).length:Nat)-((trZ (alD u)).length:Nat)) (by omega) (by omega),Zv (by omega) (by omega)];omega
  have lE:decide ((0:Int)≤(E:Nat)∧((E:Nat):Int)≤(s.length:Nat))=true:=Xa ⟨by omega,by omega⟩;refine (Zc (s0:=sc) hT hg (Za (ZmW rfl) (Za lE (Za rfl (Za (Xa (by omega)) (Za rfl (Za (Xa (by omega)) (Za rfl (Za rfl (Za (Xa lu) (Zy lE))))))))))).mono fun e z he=> ?_;obtain⟨rfl,⟨g2,z1⟩,z2⟩:=he;refine⟨.inr rfl,?_⟩;rw[z1,z2,ek];unfold tdW;rw[hS];rfl
 ·rintro e y he
  match e,he with
  | none,he=>exact he.elim
def Z6i:Ans:=fun vals s=>
 match vals,s with
 | [.string a,.int .i64 b],.inr (.inr (.inr (.inl d)))::s'=>some (tdW b a.data.toList d,s',[(decide ((sc1 b false a.data.toList).1≠[]),d),(decide ((b=10∨b=16)∧a.data.toList.length≤100000),true)])
 | _,_=>none
theorem ZxC:ZC 93 Z6i:=by
 intro vals s v s' lg h hl w;unfold Z6i at h;split at h
 ·rename_i a b d s2;cases h;have h1:decide ((sc1 b false a.data.toList).1≠[])=d:=hl _ Xe;have h2:=Xc (hl _ (Xd _ Xf));have:=ZrE a.data.toList b h2.1 h2.2 w;rw[h1] at this;exact this
 ·cases h
end Go.Proofs.YtgefjidphfdhdaaGreatDoor
namespace Go.Proofs.YtgefjidphfdhdaaGreatDoor
open Go.Proofs.Tryz
open Go.IntKind
open Go.KRun Go.Nt Go.Rd Go.Wd
set_option maxRecDepth 100000
theorem sh1 (D:List UInt8) (k:Int):Zs (Zf (Ze prog Zi Zn true) 100 95 [bR D,.int .i64 k] [cmp true]) (bR D) [(decide (((D.length:Nat):Int)≤k),true)]:=by and_intros<;>kernel_rfl
theorem sh2 (D:List UInt8) (k:Int):Zs (Zf (Ze prog Zi Zn true) 100 95 [bR D,.int .i64 k] [cmp false,sam true,sam true]) (bR (D.take k.toNat++[49])) [(decide ((D.take k.toNat).length+1≤9223372036854775807),true),(decide (0≤k∧k≤(D.length:Nat)),true),(decide (((D.length:Nat):Int)≤k),false)]:=by and_intros<;>kernel_rfl
def Z6j:Ans:=fun vals s=>
 match vals with
 | [.string a,.int .i64 k]=>some (bR (shR k.toNat a.data.toList),s,[(decide (0≤k∧k≤1000∧a.data.toList.length≤100000),true)])
 | _=>none
theorem ZxD:ZC 95 Z6j:=by
 intro vals s v s' lg h hl w;unfold Z6j at h;split at h
 ·rename_i a k;cases h;have q:=Xc (hl _ Xf);have hT:=Zd Zh;unfold shR;by_cases h1:((a.data.toList.length:Nat):Int)≤k
  ·rw[if_pos (by omega)];exact Zb hT (sh1 a.data.toList k) (Zy (Xa h1)) (by rfl) (by rfl) w
  ·rw[if_neg (by omega)];exact Zb hT (sh2 a.data.toList k) (Za (Xa (by rw[List.length_take];omega)) (Za (Xa (by omega)) (Zy (Xb h1)))) (by rfl) (by rfl) w
 ·cases h
def ZgH:Con:=alt 148 (g1n (ZcF Zn8)) (alt 147 (g2 (Zjc ZwO)) (alt 145 Z0R Zn))
theorem Zjo:ConOk ZgH:=Zr func148 rfl (ZbA ZdO) (Zr func147 rfl (Zg7 Zg8) (Zr func145 rfl Zhz Zh))
def sxI (F:Func):Code:=ZA (sP F 2)
def sxL (F:Func):Code:=cIn (cIn (ZV (sP F 2)))
theorem ZxE:f96.body=some (Zaj [sP f96 0,sP f96 1] (.seq (.seq (sxI f96) (.block 0 (.loop (sxL f96)))) (sK f96 3))):=by kernel_rfl
def wB9 (x:W4):List Value×TypeId:=([.int .u64 x.a,.int .u64 x.b,.int .u64 x.c,.int .u64 x.d],87)
def sxM (x:W4):Hp:=⟨2,[wB9 x,wB9 ⟨0,0,0,0⟩]⟩
def sxF (D:List UInt8) (v4:Value) (i:Int):List Value:=[bR D,undef,pO 0,pO 1,v4,bR D,.int .i64 (D.length:Nat),.int .i64 i]
theorem Z20 (D:List UInt8):Zk (evL (Ze prog Zi ZgH true) 100 [sP f96 0,sP f96 1] ([bR D]++List.replicate 23 undef,⟨0,[]⟩,[]) ⟨[],[],[]⟩) 5 19 none [bR D,undef,pO 0,pO 1,undef] (sxM ⟨0,0,0,0⟩) []:=by and_intros<;>kernel_rfl
theorem Z7M (D:List UInt8) (g:Nat→Value):Zk (evC (Ze prog Zi ZgH true) 100 false (sxI f96) ([bR D,undef,pO 0,pO 1,undef]++tl 19 g,sxM ⟨0,0,0,0⟩,[]) ⟨[],[],[]⟩) 8 16 none (sxF D undef 0) (sxM ⟨0,0,0,0⟩) []:=by and_intros<;>kernel_rfl
theorem Z7N (D:List UInt8) (x:W4) (v4:Value) (i:Int) (g:Nat→Value):Zk (evC (Ze prog Zi ZgH true) 100 false (sxL f96) (sxF D v4 i++tl 16 g,sxM x,[cmp false]) ⟨[],[],[]⟩) 8 16 (some (some 0)) (sxF D v4 i) (sxM x) [(decide (i<(D.length:Nat)),false)]:=by and_intros<;>kernel_rfl
theorem Z7O (D:List UInt8) (x:W4) (v4:Value) (i:Int) (g:Nat→Value):Zk (evC (Ze prog Zi ZgH true) 100 false (sK f96 3) (sxF D v4 i++tl 16 g,sxM x,[]) ⟨[],[],[]⟩) 3 21 (some none) [bR D,undef,pO 0] ⟨2,[wB9 x,wB9 x]⟩ []:=by and_intros<;>kernel_rfl
def wD9 (d:Int):W4:=⟨u64.wrap d,0,0,0⟩
theorem Z7P (D:List UInt8) (x:W4) (v4:Value) (i:Int) (g:Nat→Value):Zk (evC (Ze prog Zi ZgH true) 100 false (sxL f96) (sxF D v4 i++tl 16 g,sxM x,[cmp true]) ⟨[],[],[]⟩) 8 16 none (sxF D (.int .i64 i) (i64.wrap (i+1))) (sxM (W4.of ((Zee x 4).val+(wD9 (dvB (byR D i))).val))) [(decide ((Zee x 4).ok∧(wD9 (dvB (byR D i))).ok),true),(decide (0≤byR D i∧byR D i<256),true),(decide (x.ok∧(-9223372036854775808:Int)≤4∧(4:Int)≤9223372036854775807),true),(decide (0≤i∧i.toNat<D.length),true),(decide (i<(D.length:Nat)),true)]:=by and_intros<;>kernel_rfl
theorem Z21 {X d:Nat}(hX:X*16+d<2^256) (hd:d<16):(Zee (ofN X) 4).ok∧(wD9 (d:Nat)).ok∧W4.of ((Zee (ofN X) 4).val+(wD9 (d:Nat)).val)=ofN (X*16+d):=by
 have h2:(2:Nat)^256=115792089237316195423570985008687907853269984665640564039457584007913129639936:=rfl;have hX2:X<2^256:=by omega
 have hv:(ofN X).val=(X:Int):=by rw[W4.nat_val (zv X),ZaI hX2]
 have e1:Zee (ofN X) 4=W4.of (((X*16:Nat)):Int):=by
  unfold Zee;rw[if_neg (by decide),if_neg (by decide),hv];congr 1
 have ew:u64.wrap ((d:Nat):Int)=(d:Int):=by
  simp [IntKind.wrap,IntKind.bits,IntKind.signed];omega
 have o2:(wD9 (d:Nat)).ok∧(wD9 (d:Nat)).val=(d:Int):=by
  unfold wD9;rw[ew];refine⟨⟨⟨by dsimp only;omega,by dsimp only;omega⟩,⟨by dsimp only;omega,by dsimp only;omega⟩,⟨by dsimp only;omega,by dsimp only;omega⟩,⟨by dsimp only;omega,by dsimp only;omega⟩⟩,?_⟩;unfold W4.val;simp only[Int.mul_zero,Int.add_zero]
 refine⟨by rw[e1];exact W4.ok_of _,o2.1,?_⟩;rw[e1,W4.val_of,o2.2,Int.emod_eq_of_lt (by omega) (by omega)];unfold ofN;congr 1
def sxJ (D:List UInt8) (i:Nat) (y:Lf):Prop:=∃ (v4:Value) (g:Nat→Value),i≤D.length∧y.1=sxF D v4 i++tl 16 g∧y.2.1=sxM (ofN (nmB 16 (D.take i)))
theorem ZrF {D:List UInt8}(h2:D.length≤62) (ha:ZF 16 D=true) (r:Nat) (y:Lf) (h:∃ i,r=D.length-i∧sxJ D i y):
  Runs (Ze prog Zi ZgH true) (sxL f96) y fun e z=>match e with | none=>∃ r',r'<r∧∃ i,r'=D.length-i∧sxJ D i z | some none=>False | some (some id')=>id'=0∧sxJ D D.length z:=by
 have hT:=Zd Zjo;obtain⟨i,hr,v4,g,hi,ht,hh⟩:=h;obtain⟨t,h',sc⟩:=y;simp only at ht hh;subst ht hh;by_cases hc:i<D.length
 ·have lA:decide (((i:Nat):Int)<(D.length:Nat))=true:=Xa (by omega);have lI:decide ((0:Int)≤(i:Nat)∧((i:Nat):Int).toNat<D.length)=true:=Xa ⟨by omega,by rw[Xg];exact hc⟩;have ew:i64.wrap (((i:Nat):Int)+1)=((i+1:Nat):Int):=by rw[Zv (by omega) (by omega)];omega
  have eC:lq8 (D.getD i 0)=byR D (i:Nat):=by unfold lq8 byR;rw[Xg]
  have hdg:0≤zy (lq8 (D.getD i 0)) 16:=by
   unfold ZF at ha;refine Xc (List.all_eq_true.1 ha _ ?_);rw[List.getD_eq_getElem?_getD,List.getElem?_eq_getElem hc,Option.getD_some];exact List.getElem_mem hc
  have hlt:=(ZmD (lq8 (D.getD i 0)) 16).2;obtain⟨d,hd⟩:∃ d:Nat,d=(zy (lq8 (D.getD i 0)) 16).toNat:=⟨_,rfl⟩;have ed:dvB (byR D (i:Nat))=(d:Nat):=by rw[← eC,← ZmM hdg];omega
  have ht:=ZiB 16 D hc;rw[← hd] at ht;have hb:nmB 16 (D.take i)*16+d<2^256:=by
   have h3:nmB 16 (D.take i)*16+d=nmB 16 (D.take (i+1)):=ht.symm;rw[h3];refine Nat.lt_of_lt_of_le (Zhr (.inr rfl) _) (Nat.pow_le_pow_right (by omega) ?_);rw[List.length_take];omega
  obtain⟨n1,n2,n3⟩:=Z21 hb (by omega);have hg:=Z7P D (ofN (nmB 16 (D.take i))) v4 (i:Nat) g;rw[ew,ed,n3] at hg;refine (Zc (s0:=sc) hT hg (Za (Xa ⟨n1,n2⟩) (Za (ZiP D _) (Za (Xa ⟨zv _,by decide,by decide⟩) (Za lI (Zy lA)))))).mono fun e z he=> ?_;obtain⟨rfl,⟨g',z1⟩,z2⟩:=he;refine⟨D.length-(i+1),by omega,i+1,rfl,_,g',by omega,z1,?_⟩;rw[z2,show nmB 16 (D.take (i+1))=nmB 16 (D.take i)*16+d from ht]
 ·have:i=D.length:=by omega
  subst this;refine (Zc (s0:=sc) hT (Z7N D _ v4 (D.length:Nat) g) (Zy (Xb (by omega)))).mono fun e z he=> ?_;obtain⟨rfl,⟨g',z1⟩,z2⟩:=he;exact⟨rfl,v4,g',hi,z1,z2⟩
theorem ZrG (D:List UInt8) (hs:D.length≤62) (ha:ZF 16 D=true) (w:World):Calls prog 96 #[bR D] w fun r w'=>r= .returned (vW (ofN (nmB 16 D)))∧zi w w':=by
 have hT:=Zd Zjo;refine ZZ (T:=Ze prog Zi ZgH true) func96 ZxE (by rfl) (by rfl) ?_ w;refine Zz hT (Z20 D) Zbu fun g=> ?_;refine Runs.seq (P1:=fun e y=>match e with | none=>sxJ D D.length y | some none=>False | some (some _)=>False) ?_ ?_ ?_
 ·refine Runs.seq (P1:=fun e y=>e=none∧∃ g',y.1=sxF D undef 0++tl 16 g'∧y.2.1=sxM ⟨0,0,0,0⟩) ?_ ?_ (fun e y he=>by cases he.1)
  ·refine (Zc hT (Z7M D g) Zbu).mono fun e z he=> ?_;obtain⟨rfl,⟨g',z1⟩,z2⟩:=he;exact⟨rfl,g',z1,z2⟩
  ·rintro⟨t,hh,sc⟩ ⟨_,g',e1,e2⟩;simp only at e1 e2;subst e1 e2;exact Runs.forLoop (R:=fun _=>False) (P:=sxJ D D.length) (fun r y=>∃ i,r=D.length-i∧sxJ D i y) (ZrF hs ha) (n:=D.length-0) ⟨0,rfl,undef,g',Nat.zero_le _,rfl,by rw[show ofN (nmB 16 (D.take 0))=⟨0,0,0,0⟩ from Zcl]⟩
 ·rintro⟨t,hh,sc⟩ ⟨v4,g',_,e1,e2⟩;simp only at e1 e2;subst e1 e2;rw[List.take_length];refine (Zc (s0:=sc) hT (Z7O D _ v4 _ g') Zbu).mono fun e z he=> ?_;obtain⟨rfl,⟨g2,z1⟩,z2⟩:=he;exact⟨.inr rfl,by rw[z1,z2];rfl⟩
 ·rintro e y he
  match e,he with
  | none,he=>exact he.elim
def Z6k:Ans:=fun vals s=>
 match vals with
 | [.string a]=>some (vW (ofN (nmB 16 a.data.toList)),s,[(ZF 16 a.data.toList,true),(decide (a.data.toList.length≤62),true)])
 | _=>none
theorem ZxF:ZC 96 Z6k:=by
 intro vals s v s' lg h hl w;unfold Z6k at h;split at h
 ·rename_i a;cases h;have h1:ZF 16 a.data.toList=true:=hl _ Xe;have h2:=Xc (hl _ (Xd _ Xf));exact ZrG _ h2 h1 w
 ·cases h
end Go.Proofs.YtgefjidphfdhdaaGreatDoor
