/-
  RnB, RnC, RnD, RnE, PatA, GnW, NumN, NumV, NumW, NumL, NumS, NumT, NumR4, NumR5, NumF, NumG
-/
import Derived.Test.YtekebccjflilnaaGreatG05
namespace Go.Proofs.YtekebccjflilnaaGreat
open Go.Proofs.Tryz
open Go.KRun Go.Wd Go.Pt Go.Rn
set_option maxRecDepth 100000
def ZyR (x:W4) (b:Bool) (d:Nat):Value:= .tuple #[vW (ofN (tw x b/2^(d+1))),.int .i64 (zt (tw x b % 2^(d+1)) (2^(d+1)))]
theorem Zec {x:W4}{n:Int}(h:x.ok) (h0: -9223372036854775808≤n) (h1:n≤9223372036854775807):decide (x.ok∧ -9223372036854775808≤n∧n≤9223372036854775807)=true:=Xa ⟨h,h0,h1⟩
theorem Zkr (n b:Bool) (x:W4) (ex e:Int) (hx:x.ok) (h1: -4000≤ex) (h2:ex≤e) (h3:e≤4000) (w:World):Calls prog 95 #[vN n ex x b,.int .i64 e] w fun r w'=>r= .returned (ZyR x b (e-ex).toNat)∧zg w w':=by
 obtain⟨d,hd⟩:∃ d:Nat,e-ex=(d:Int):=⟨(e-ex).toNat,by omega⟩;have e1:dnI ex e=(d:Int):=by unfold dnI;rw[ZY ⟨by omega,by omega⟩,hd]
 have e2:dn1 ex e=(d:Int)-1:=by
  unfold dn1;rw[ZY (n:=e-ex) ⟨by omega,by omega⟩,hd,ZY ⟨by omega,by omega⟩]
 have eV:∀ c,c=zt (tw x b % 2^(d+1)) (2^(d+1))→ctV x ex e c=ZyR x b (e-ex).toNat:=fun c hc=>by
  unfold ctV ZyR;rw[e1,ZeD hx (by omega),hd,Xg,Zko,hc]
 have k1:decide (x.ok∧ -9223372036854775808≤dnI ex e∧dnI ex e≤9223372036854775807)=true:=Zec hx (by omega) (by omega);have k2:decide (x.ok∧ -9223372036854775808≤dn1 ex e∧dn1 ex e≤9223372036854775807)=true:=Zec hx (by omega) (by omega);have kl:Zfw x (dnI ex e)=decide (x.nat % 2^d≠0):=by rw[e1,Zhk hx (by omega),Xg]
 have hv:([vN n ex x b,.int .i64 e].all (lt 0))=true:=rfl;by_cases hl:x.nat % 2^d=0
 ·have kf:Zfw x (dnI ex e)=false:=by rw[kl];simp [hl]
  cases b
  ·rw[← eV 0 (by rw[ZrB hl])];exact Zb (Zf ZaR) (ct0 n x ex e) (Za k1 (Zz kf)) hv (by rfl) w
  ·cases d with
   | zero=>
    rw[← eV 2 (by rw[ZrC])];exact Zb (Zf ZaR) (ct1 n x ex e) (Za (by rw[e1];rfl) (Za k1 (Zz kf))) hv (by rfl) w
   | succ j=>
    have k0:(dnI ex e==0)=false:=by rw[e1];simp;omega
    have e3:dn1 ex e=(j:Int):=by rw[e2];omega
    have kb:Zkg x (dn1 ex e)=((x.nat/2^j % 2:Nat):Int):=by rw[e3,ZeE hx (by omega),Xg]
    by_cases hb:x.nat/2^j % 2=0
    ·rw[← eV 1 (by rw[Zhj hb (.inr rfl)])];exact Zb (Zf ZaR) (ct2 n x ex e true) (Za (by rw[kb,hb];rfl) (Za k2 (Za k0 (Za k1 (Zz kf))))) hv (by rfl) w
    ·have hb':x.nat/2^j % 2=1:=by omega
     rw[← eV 3 (by rw[ZeC hb' (.inr rfl)])];exact Zb (Zf ZaR) (ct2 n x ex e false) (Za (by rw[kb,hb'];rfl) (Za k2 (Za k0 (Za k1 (Zz kf))))) hv (by rfl) w
 ·have kf:Zfw x (dnI ex e)=true:=by rw[kl];simp [hl]
  cases d with
  | zero=>exact absurd (by simp [Nat.mod_one]) hl
  | succ j=>
   have k0:(dnI ex e==0)=false:=by rw[e1];simp;omega
   have e3:dn1 ex e=(j:Int):=by rw[e2];omega
   have kb:Zkg x (dn1 ex e)=((x.nat/2^j % 2:Nat):Int):=by rw[e3,ZeE hx (by omega),Xg]
   by_cases hb:x.nat/2^j % 2=0
   ·rw[← eV 1 (by rw[Zhj hb (.inl hl)])];exact Zb (Zf ZaR) (ct4 n b x ex e) (Za (by rw[kb,hb];rfl) (Za k2 (Za k0 (Za k1 (Zz kf))))) hv (by rfl) w
   ·have hb':x.nat/2^j % 2=1:=by omega
    cases b
    ·have hs:Zfe x (dnI ex e)=ofN (x.nat/2^(j+1)):=by rw[e1,ZeD hx (by omega),Xg]
     have hlt:=W4.nat_lt hx;have hle:x.nat/2^(j+1)≤x.nat:=Nat.div_le_self _ _;have hle2:2*(x.nat/2^(j+1))≤x.nat:=by
      have:=Nat.div_mul_le_self x.nat (2^(j+1));have hp:0<2^j:=Nat.pow_pos (by omega);have h9:2*(x.nat/2^(j+1))≤x.nat/2^(j+1)*2^(j+1):=by
       rw[Nat.mul_comm 2,Nat.pow_succ];exact Nat.mul_le_mul_left _ (by omega)
      omega
     have ht:tw (Zfe x (dnI ex e)) true=2*(x.nat/2^(j+1))+1:=by
      unfold tw;rw[hs,zX (by omega)]
     have hk:bkW x ex e=ofN ((2*(x.nat/2^(j+1))+1)*2^j):=by
      unfold bkW;have e256:(2:Nat)^256=115792089237316195423570985008687907853269984665640564039457584007913129639936:=rfl;rw[ht,e3,ZcS (ZZ _) (by omega),Xg,zX (by omega)]
     have kq:eqW x (bkW x ex e)=decide (x.nat % 2^j=0):=by rw[hk,Znx hx hb']
     have kok:decide ((ofN (tw (Zfe x (dnI ex e)) true)).ok∧ -9223372036854775808≤dn1 ex e∧dn1 ex e≤9223372036854775807)=true:=Zec (ZZ _) (by omega) (by omega);have ks:decide (Zfe x (dnI ex e)).ok=true:=by rw[hs];exact Xa (ZZ _)
     by_cases hz:x.nat % 2^j=0
     ·rw[← eV 2 (by rw[ZrD hb' hz])];exact Zb (Zf ZaR) (ct6 n x ex e false) (Za (by rw[kq,Xa hz];rfl) (Za kok (Za ks (Za (by rw[kb,hb'];rfl) (Za k2 (Za k0 (Za k1 (Zz kf)))))))) hv (by rfl) w
     ·rw[← eV 3 (by rw[ZeC hb' (.inl hz)])];exact Zb (Zf ZaR) (ct6 n x ex e true) (Za (by rw[kq,Xb hz];rfl) (Za kok (Za ks (Za (by rw[kb,hb'];rfl) (Za k2 (Za k0 (Za k1 (Zz kf)))))))) hv (by rfl) w
    ·rw[← eV 3 (by rw[ZeC hb' (.inr rfl)])];exact Zb (Zf ZaR) (ct5 n x ex e) (Za (by rw[kb,hb'];rfl) (Za k2 (Za k0 (Za k1 (Zz kf))))) hv (by rfl) w
def Zip (x:W4) (ex e:Int):Bool:=decide (x.ok∧ -4000≤ex∧ex≤e∧e≤4000)
def ZzK:Ans:=fun vals s=>
 match vals with
 | [v,.int .i64 e]=>
  match n7 v with
  | some (_,ex,x,b)=>some (ZyR x b (e-ex).toNat,s,[(Zip x ex e,true)])
  | none=>none
 | _=>none
theorem ZrF:ZJ 95 ZzK:=by
 intro vals s v s' lg h hl w;unfold ZzK at h;split at h
 ·split at h
  ·rename_i n ex x b hn;cases h;have h1:=Xc (hl _ Xf);rw[zw hn];exact Zkr n b x ex _ h1.1 h1.2.1 h1.2.2.1 h1.2.2.2 w
  ·cases h
 ·cases h
def Zuy:Con:=alt 96 gUp (alt 95 ZzK ZpR)
theorem Zdu:ConOk Zuy:=Zy func96 rfl Zvm (Zy func95 rfl ZrF ZaR)
end Go.Proofs.YtekebccjflilnaaGreat
namespace Go.Proofs.YtekebccjflilnaaGreat
open Go.Proofs.Tryz
open Go.IntKind
open Go.KRun Go.Wd Go.Pt Go.Rn
set_option maxRecDepth 100000
def ZcF (x:W4) (b:Bool) (ex e:Int):W4:=ofN (tw x b/2^((e-ex).toNat+1))
def rsI (x:W4) (b:Bool) (ex e:Int):Int:=zt (tw x b % 2^((e-ex).toNat+1)) (2^((e-ex).toNat+1))
def upX (m:Int) (n:Bool) (x:W4) (b:Bool) (ex e:Int):Bool:=upR m n (Zkg (ZcF x b ex e) 0 !=0) (rsI x b ex e)
def up1 (ex e:Int):Int:=i64.wrap (i64.wrap (ex-e)-1)
def w1:W4:=⟨1,0,0,0⟩
def w63:W4:=⟨0,0,0,9223372036854775808⟩
def lAd (x:W4):Bool×Bool:=(decide (x.ok∧w1.ok),true)
def lBt (x:W4):Bool×Bool:=(decide (x.ok∧(-9223372036854775808:Int)≤0∧(0:Int)≤9223372036854775807),true)
def lOv (x:W4) (d:Bool):Bool×Bool:=(decide (115792089237316195423570985008687907853269984665640564039457584007913129639936≤x.val+w1.val),d)
def tmR (n:Bool) (e:Int) (x:W4) (l:Bool):Value:= .tuple #[vN n e x false,.bool l]
theorem tm0 (n b:Bool) (x:W4) (ex e m:Int):Zw (Ze (Zi prog Zh Zuy true) 300 59 [vN n ex x b,.int .i64 e,.int .i64 m] [cmp true]) (tmR n e (Zac (ofN (tw x b)) (up1 ex e)) false) [lok (ofN (tw x b)) (up1 ex e),(decide x.ok,true),(decide (e<ex),true)]:=by and_intros<;>kernel_rfl
theorem tm1 (n b:Bool) (x:W4) (ex e m:Int):Zw (Ze (Zi prog Zh Zuy true) 300 59 [vN n ex x b,.int .i64 e,.int .i64 m] [cmp false,tst false,tst false]) (tmR n e (ZcF x b ex e) (rsI x b ex e !=0)) [(upX m n x b ex e,false),lBt (ZcF x b ex e),(Zip x ex e,true),(false,false),(decide (e<ex),false)]:=by and_intros<;>kernel_rfl
theorem tm2 (n b:Bool) (x:W4) (ex e m:Int):Zw (Ze (Zi prog Zh Zuy true) 300 59 [vN n ex x b,.int .i64 e,.int .i64 m] [cmp false,tst false,tst true,tst false]) (tmR n e (W4.of ((ZcF x b ex e).val+w1.val)) (rsI x b ex e !=0)) [lOv (ZcF x b ex e) false,lAd (ZcF x b ex e),lAd (ZcF x b ex e),lAd (ZcF x b ex e),(upX m n x b ex e,true),lBt (ZcF x b ex e),(Zip x ex e,true),(false,false),(decide (e<ex),false)]:=by and_intros<;>kernel_rfl
theorem tm3 (n b:Bool) (x:W4) (ex e m:Int):Zw (Ze (Zi prog Zh Zuy true) 300 59 [vN n ex x b,.int .i64 e,.int .i64 m] [cmp false,tst false,tst true,tst true]) (tmR n (i64.wrap (e+1)) w63 (rsI x b ex e !=0)) [lOv (ZcF x b ex e) true,lAd (ZcF x b ex e),lAd (ZcF x b ex e),lAd (ZcF x b ex e),(upX m n x b ex e,true),lBt (ZcF x b ex e),(Zip x ex e,true),(false,false),(decide (e<ex),false)]:=by and_intros<;>kernel_rfl
theorem Zn0 (n:Nat):(ofN n).nat=n % 2^256:=by
 have e:(2:Nat)^256=115792089237316195423570985008687907853269984665640564039457584007913129639936:=rfl;unfold W4.nat ofN;rw[W4.val_of,e];omega
theorem Zhl {x:W4}(hx:x.ok) (b:Bool) (d:Nat):tw x b/2^(d+1)<2^256:=by
 rw[Zko];exact Nat.lt_of_le_of_lt (Nat.div_le_self _ _) (W4.nat_lt hx)
theorem ZpS {m:Int}{n:Bool}{x:W4}{b:Bool}{ex e:Int}(hx:x.ok):upX m n x b ex e=upR m n (odd (tw x b/2^((e-ex).toNat+1))) (rsI x b ex e):=by
 unfold upX ZcF;congr 1;rw[ZeE (ZZ _) (by omega),zX (Zhl hx _ _)];unfold odd;generalize tw x b/2^((e-ex).toNat+1)=q;have e0:q/2^(0:Int).toNat % 2=q % 2:=by simp
 rw[e0,Bool.eq_iff_iff];simp only[bne_iff_ne,ne_eq,Xi];omega
theorem Zhm {m:Int}{n:Bool}{T:Nat}{ex e:Int}(h:ex≤e):toQ m n T (ex-1) e=rq m n T ((e-ex).toNat+1):=by
 unfold toQ;rw[if_neg (by omega)];congr 1;omega
theorem Zn1 {T:Nat}{ex e:Int}(h:ex≤e):toL T (ex-1) e=decide (T % 2^((e-ex).toNat+1)≠0):=by
 unfold toL;rw[if_neg (by omega),show (e-(ex-1)).toNat=(e-ex).toNat+1 by omega]
theorem Zvo {x:W4}{b:Bool}{ex e:Int}(h:ex≤e):(rsI x b ex e !=0)=toL (tw x b) (ex-1) e:=by
 rw[Zn1 h,Bool.eq_iff_iff];simp only[bne_iff_ne,ne_eq,Xi];unfold rsI;rw[Zfx]
theorem Zhn (n b:Bool) (x:W4) (ex e m:Int) (hx:x.ok) (h1: -4000≤ex) (h1':ex≤4000) (h2: -4000≤e) (h3:e≤4000) (hq:toQ m n (tw x b) (ex-1) e<2^256) (w:World):Calls prog 59 #[vN n ex x b,.int .i64 e,.int .i64 m] w fun r w'=>r= .returned (tmR n e (ofN (toQ m n (tw x b) (ex-1) e)) (toL (tw x b) (ex-1) e))∧zg w w':=by
 have hv:([vN n ex x b,.int .i64 e,.int .i64 m].all (lt 0))=true:=rfl;by_cases hlt:e<ex
 ·have e1:up1 ex e=ex-e-1:=by unfold up1;rw[ZY (n:=ex-e) ⟨by omega,by omega⟩,ZY ⟨by omega,by omega⟩]
  have h:=Zb (Zf Zdu) (tm0 n b x ex e m) (Za (Zec (ZZ _) (by omega) (by omega)) (Za (Xa hx) (Zz (Xa hlt)))) hv (by rfl) w;rw[e1,ZcS (ZZ _) (by omega),Zn0,Zgm] at h;unfold toQ toL;rw[if_pos (by omega),if_pos (by omega),show (ex-1-e).toNat=(ex-e-1).toNat by omega];exact h
 ·have hle:ex≤e:=by omega
  have kc:Zip x ex e=true:=Xa ⟨hx,h1,hle,h3⟩;have kb:(decide ((ZcF x b ex e).ok∧(-9223372036854775808:Int)≤0∧(0:Int)≤9223372036854775807))=true:=Xa ⟨ZZ _,by omega,by omega⟩;have kl:decide (e<ex)=false:=Xb hlt;have ka:decide ((ZcF x b ex e).ok∧w1.ok)=true:=Xa ⟨ZZ _,W4.ok_of 1⟩;rw[Zhm hle] at hq ⊢;rw[← Zvo hle];have hu:=ZpS (m:=m) (n:=n) (b:=b) (ex:=ex) (e:=e) hx;unfold rq at hq ⊢;by_cases hup:upX m n x b ex e=true
  ·rw[hu] at hup;unfold rsI at hup;rw[if_pos hup] at hq ⊢;have hval:(ZcF x b ex e).val=((tw x b/2^((e-ex).toNat+1):Nat):Int):=by
    unfold ZcF;rw[W4.nat_val (ZZ _),zX (Zhl hx _ _)]
   have e256:(2:Nat)^256=115792089237316195423570985008687907853269984665640564039457584007913129639936:=rfl;have hw1:w1.val=1:=rfl;have ko:decide (115792089237316195423570985008687907853269984665640564039457584007913129639936≤(ZcF x b ex e).val+w1.val)=false:=Xb (by rw[hval,hw1];omega);have h:=Zb (Zf Zdu) (tm2 n b x ex e m) (Za ko (Za ka (Za ka (Za ka (Za (by rw[hu];exact hup) (Za kb (Za kc (Za rfl (Zz kl))))))))) hv (by rfl) w;rw[hval,hw1] at h;exact h
  ·rw[Bool.not_eq_true] at hup;have h:=Zb (Zf Zdu) (tm1 n b x ex e m) (Za hup (Za kb (Za kc (Za rfl (Zz kl))))) hv (by rfl) w;rw[hu] at hup;unfold rsI at hup;rw[hup];exact h
theorem ZrG (n b:Bool) (x:W4) (ex e m:Int) (hx:x.ok) (h1: -4000≤ex) (hle:ex≤e) (h3:e≤4000) (hq:¬ toQ m n (tw x b) (ex-1) e<2^256) (w:World):Calls prog 59 #[vN n ex x b,.int .i64 e,.int .i64 m] w fun r w'=>r= .returned (tmR n (e+1) w63 (toL (tw x b) (ex-1) e))∧zg w w':=by
 have hv:([vN n ex x b,.int .i64 e,.int .i64 m].all (lt 0))=true:=rfl;have hlt:¬ e<ex:=by omega
 have kc:Zip x ex e=true:=Xa ⟨hx,h1,hle,h3⟩;have kb:(decide ((ZcF x b ex e).ok∧(-9223372036854775808:Int)≤0∧(0:Int)≤9223372036854775807))=true:=Xa ⟨ZZ _,by omega,by omega⟩;have kl:decide (e<ex)=false:=Xb hlt;have ka:decide ((ZcF x b ex e).ok∧w1.ok)=true:=Xa ⟨ZZ _,W4.ok_of 1⟩;rw[Zhm hle] at hq;rw[← Zvo hle];have hu:=ZpS (m:=m) (n:=n) (b:=b) (ex:=ex) (e:=e) hx;have hlw:=Zhl hx b (e-ex).toNat;unfold rq at hq;by_cases hup:upX m n x b ex e=true
 ·have hup':=hup;rw[hu] at hup;unfold rsI at hup;rw[if_pos hup] at hq;have hval:(ZcF x b ex e).val=((tw x b/2^((e-ex).toNat+1):Nat):Int):=by
   unfold ZcF;rw[W4.nat_val (ZZ _),zX (Zhl hx _ _)]
  have e256:(2:Nat)^256=115792089237316195423570985008687907853269984665640564039457584007913129639936:=rfl;have hw1:w1.val=1:=rfl;have ko:decide (115792089237316195423570985008687907853269984665640564039457584007913129639936≤(ZcF x b ex e).val+w1.val)=true:=Xa (by rw[hval,hw1];omega);have h:=Zb (Zf Zdu) (tm3 n b x ex e m) (Za ko (Za ka (Za ka (Za ka (Za hup' (Za kb (Za kc (Za rfl (Zz kl))))))))) hv (by rfl) w;rw[ZY ⟨by omega,by omega⟩] at h;exact h
 ·rw[hu] at hup;unfold rsI at hup;rw[if_neg hup] at hq;omega
def Zn2 (x:W4) (ex e:Int):Bool:=decide (x.ok∧ -4000≤ex∧ex≤4000∧ -4000≤e∧e≤4000)
def gTm:Ans:=fun vals s=>
 match vals with
 | [v,.int .i64 e,.int .i64 m]=>
  match n7 v,s with
  | some (n,ex,x,b),.inr (.inr (.inr (.inl true))):: .inr (.inr (.inr (.inl d)))::s'=>some (tmR n e (ofN (toQ m n (tw x b) (ex-1) e)) d,s',[(toL (tw x b) (ex-1) e,d),(decide (toQ m n (tw x b) (ex-1) e<2^256),true),(Zn2 x ex e,true)])
  | some (n,ex,x,b),[.inr (.inr (.inr (.inl true)))]=>some (tmR n e (ofN (toQ m n (tw x b) (ex-1) e)) (toL (tw x b) (ex-1) e),[],[(decide (toQ m n (tw x b) (ex-1) e<2^256),true),(Zn2 x ex e,true)])
  | some (n,ex,x,b),.inr (.inr (.inr (.inl false)))::s'=>some (tmR n (e+1) w63 (toL (tw x b) (ex-1) e),s',[(decide (toQ m n (tw x b) (ex-1) e<2^256),false),(decide (ex≤e),true),(Zn2 x ex e,true)])
  | _,_=>none
 | _=>none
theorem Zvp:ZJ 59 gTm:=by
 intro vals s v s' lg h hl w;unfold gTm at h;split at h
 ·split at h
  ·rename_i n ex x b d s2 hn;cases h;rw[Zea,Zea,Zea] at hl;have h1:=Xc hl.2.2.1;rw[zw hn,← hl.1];exact Zhn n b x ex _ _ h1.1 h1.2.1 h1.2.2.1 h1.2.2.2.1 h1.2.2.2.2 (Xc hl.2.1) w
  ·rename_i n ex x b hn;cases h;rw[Zea,Zea] at hl;have h1:=Xc hl.2.1;rw[zw hn];exact Zhn n b x ex _ _ h1.1 h1.2.1 h1.2.2.1 h1.2.2.2.1 h1.2.2.2.2 (Xc hl.1) w
  ·rename_i n ex x b s2 hn;cases h;rw[Zea,Zea,Zea] at hl;have h1:=Xc hl.2.2.1;rw[zw hn];exact ZrG n b x ex _ _ h1.1 h1.2.1 (Xc hl.2.1) h1.2.2.2.2 (of_decide_eq_false hl.1) w
  ·cases h
 ·cases h
def Zuz:Con:=alt 59 gTm Zuy
theorem Zdv:ConOk Zuz:=Zy func59 rfl Zvp Zdu
def clp (e:Int):Int:=if 2000<(if -2000>e then -2000 else e) then 2000 else (if -2000>e then -2000 else e)
theorem Zks (e:Int): -2000≤clp e∧clp e≤2000:=by unfold clp;split<;>split<;>omega
theorem ZrH (n b:Bool) (x:W4) (e:Int):Zw (Ze (Zi prog Zh Zo true) 300 57 [vN n e x b] []) (vN n (clp e) x b) []:=by and_intros<;>kernel_rfl
def ZrI:Ans:=fun vals s=>
 match vals with
 | [v]=>
  match n7 v with
  | some (n,e,x,b)=>some (vN n (clp e) x b,s,[])
  | none=>none
 | _=>none
theorem Zn3:ZJ 57 ZrI:=by
 intro vals s v s' lg h hl w;unfold ZrI at h;split at h
 ·split at h
  ·rename_i n e x b hn;cases h;rw[zw hn];exact Zb (Zf Zd) (ZrH n b x e) Zka (by rfl) (by rfl) w
  ·cases h
 ·cases h
theorem Z2I (n:Bool) (m:Int):Zw (Ze (Zi prog Zh Zuz true) 300 61 [.bool n,.int .i64 m] [tst true]) (.int .u64 9218868437227405312) [(upR m n true 3,true)]:=by and_intros<;>kernel_rfl
theorem Z2J (n:Bool) (m:Int):Zw (Ze (Zi prog Zh Zuz true) 300 61 [.bool n,.int .i64 m] [tst false]) (.int .u64 9218868437227405311) [(upR m n true 3,false)]:=by and_intros<;>kernel_rfl
def ZzL:Ans:=fun vals s=>
 match vals with
 | [.bool n,.int .i64 m]=>some (.int .u64 (bey m n),s,[])
 | _=>none
theorem ZrJ:ZJ 61 ZzL:=by
 intro vals s v s' lg h hl w;unfold ZzL at h;split at h
 ·rename_i n m;cases h;unfold bey;by_cases hu:upR m n true 3=true
  ·rw[if_pos hu];exact Zb (Zf Zdv) (Z2I n m) (Zz hu) (by rfl) (by rfl) w
  ·rw[if_neg hu];exact Zb (Zf Zdv) (Z2J n m) (Zz (by simpa using hu)) (by rfl) (by rfl) w
 ·cases h
def m52 (k:Int):Int:=i64.wrap (k-52)
def tnQ (m:Int) (n:Bool) (x:W4) (b:Bool) (ex k:Int):W4:=ofN (toQ m n (tw x b) (ex-1) (m52 k))
def lgW (e:Int) (x:W4):Int:=i64.wrap (i64.wrap (e+Zgh x)-1)
theorem ti0 (n b:Bool) (x:W4) (ex k m:Int):Zw (Ze (Zi prog Zh Zuz true) 300 62 [vN n ex x b,.int .i64 k,.int .i64 m] [cmp true]) (.bool (decide (k< -1022))) [(k != -1023,true)]:=by and_intros<;>kernel_rfl
theorem ti1 (n b:Bool) (x:W4) (ex k m:Int):Zw (Ze (Zi prog Zh Zuz true) 300 62 [vN n ex x b,.int .i64 k,.int .i64 m] [cmp false,cmp true]) (.bool (decide (lgW (m52 k) (tnQ m n x b ex k)< -1022))) [(decide (tnQ m n x b ex k).ok,true),(decide (toQ m n (tw x b) (ex-1) (m52 k)<2^256),true),(Zn2 x ex (m52 k),true),(k != -1023,false)]:=by and_intros<;>kernel_rfl
def tnK (m:Int) (n:Bool) (T:Nat) (E k:Int):Bool:=if k= -1023 then decide (toQ m n T E (-1075)<9007199254740992) else decide (k< -1022)
theorem ZcT (x:W4):Zgh x=(bitLen x.nat:Nat):=rfl
theorem Zn4 {q:Nat}:bitLen q<54↔q<9007199254740992:=by
 constructor
 ·intro h;have h1:=(bitLen_spec q).1;have h2:=Nat.pow_le_pow_right (show 0<2 by omega) (show bitLen q≤53 by omega);have e:(2:Nat)^53=9007199254740992:=rfl;omega
 ·intro h;have:=ZaX (T:=q) (k:=53) h;omega
theorem Ziq (n b:Bool) (x:W4) (ex k m:Int) (h1:x.ok∧ -4000≤ex∧ex≤4000∧ -4000≤(0:Int)∧(0:Int)≤4000) (h2:k= -1023→toQ m n (tw x b) (ex-1) (-1075)<2^256) (w:World):Calls prog 62 #[vN n ex x b,.int .i64 k,.int .i64 m] w fun r w'=>r= .returned (.bool (tnK m n (tw x b) (ex-1) k))∧zg w w':=by
 unfold tnK;by_cases hk:k= -1023
 ·rw[if_pos hk];have e0:m52 k= -1075:=by rw[hk];rfl
  have hq:=h2 hk;have hlen:bitLen (toQ m n (tw x b) (ex-1) (-1075))≤256:=ZaX hq;have e1:lgW (m52 k) (tnQ m n x b ex k)= -1076+(bitLen (toQ m n (tw x b) (ex-1) (-1075)):Nat):=by
   unfold lgW tnQ;rw[e0,ZcT,zX hq,ZY (n:= -1075+((bitLen (toQ m n (tw x b) (ex-1) (-1075)):Nat):Int)) ⟨by omega,by omega⟩,ZY ⟨by omega,by omega⟩];omega
  have h:=Zb (Zf Zdv) (ti1 n b x ex k m) (Za (Xa (ZZ _)) (Za (by rw[e0];exact Xa hq) (Za (by rw[e0];exact Xa ⟨h1.1,h1.2.1,h1.2.2.1,by omega,by omega⟩) (Zz (by rw[hk];rfl))))) (by rfl) (by rfl) w;rw[e1] at h;have e2:decide (-1076+((bitLen (toQ m n (tw x b) (ex-1) (-1075)):Nat):Int)< -1022)=decide (toQ m n (tw x b) (ex-1) (-1075)<9007199254740992):=by
   congr 1;rw[← Zn4];simp only[eq_iff_iff];omega
  rw[e2] at h;exact h
 ·rw[if_neg hk];exact Zb (Zf Zdv) (ti0 n b x ex k m) (Zz (by simpa using hk)) (by rfl) (by rfl) w
def ZrK:Ans:=fun vals s=>
 match vals with
 | [v,.int .i64 k,.int .i64 m]=>
  match n7 v,s with
  | some (n,ex,x,b),.inr (.inr (.inr (.inl d)))::s'=>some (.bool d,s',[(tnK m n (tw x b) (ex-1) k,d),(decide (k= -1023→toQ m n (tw x b) (ex-1) (-1075)<2^256),true),(Zn2 x ex 0,true)])
  | _,_=>none
 | _=>none
theorem Zn5:ZJ 62 ZrK:=by
 intro vals s v s' lg h hl w;unfold ZrK at h;split at h
 ·split at h
  ·rename_i n ex x b d s2 hn;cases h;rw[Zea,Zea,Zea] at hl;rw[zw hn,← hl.1];exact Ziq n b x ex _ _ (Xc hl.2.2.1) (Xc hl.2.1) w
  ·cases h
 ·cases h
def Zf8:Con:=alt 57 ZrI (alt 61 ZzL (alt 62 ZrK Zuz))
theorem ZaS:ConOk Zf8:=Zy func57 rfl Zn3 (Zy func61 rfl ZrJ (Zy func62 rfl Zn5 Zdv))
def lgR (ex:Int) (x:W4):Int:=lgW (clp ex) x
def e0 (ex:Int) (x:W4):Int:=if -1074>m52 (lgR ex x) then -1074 else m52 (lgR ex x)
def qR (m:Int) (n:Bool) (x:W4) (b:Bool) (ex:Int):Nat:=toQ m n (tw x b) (clp ex-1) (e0 ex x)
def oR (x:W4) (b:Bool) (ex:Int):Bool:=toL (tw x b) (clp ex-1) (e0 ex x)
def pR (m:Int) (n:Bool) (x:W4) (b:Bool) (ex:Int):Int:=u64.wrap (u64.wrap (u64.wrap (i64.wrap (e0 ex x - -1074))*2^min (Int.toNat 52) 64)+(ofN (qR m n x b ex)).a)
def sgR (n:Bool) (p:Int):Int:=match n with | true=>Zf1 p 9223372036854775808 | false=>p
def lTm (m:Int) (n:Bool) (x:W4) (b:Bool) (ex:Int) (o d:Bool):Log:=[(oR x b ex,o),(decide (qR m n x b ex<2^256),true),(Zn2 x (clp ex) (e0 ex x),true),(decide x.ok,true),(eqW x ⟨0,0,0,0⟩,d)]
def Zu0 (m:Int) (n:Bool) (x:W4) (b:Bool) (ex:Int) (d:Bool):Bool×Bool:=(decide (pR m n x b ex≥9218868437227405312),d)
def l52:Bool×Bool:=(decide ((52:Int)<0),false)
def rdT (p f:Int):Value:= .tuple #[.int .u64 p,.int .u8 f]
theorem ZrL (n:Bool) (x:W4) (ex m:Int):Zw (Ze (Zi prog Zh Zf8 true) 300 27 [vN n ex x false,.int .i64 m] [sam true]) (rdT (sgR n 0) 0) [(eqW x ⟨0,0,0,0⟩,true)]:=by
 cases n<;>exact by and_intros<;>kernel_rfl
theorem Zvq (n b o:Bool) (x:W4) (ex m:Int):Zw (Ze (Zi prog Zh Zf8 true) 300 27 [vN n ex x b,.int .i64 m] [sam false,cmp true,cmp o,cmp true]) (rdT (sgR n (bey m n)) 20) (Zu0 m n x b ex true::l52::lTm m n x b ex o false):=by
 cases n<;>cases o<;>exact by and_intros<;>kernel_rfl
theorem ZrM (n o:Bool) (x:W4) (ex m:Int):Zw (Ze (Zi prog Zh Zf8 true) 300 27 [vN n ex x true,.int .i64 m] [sam true,cmp true,cmp o,cmp true]) (rdT (sgR n (bey m n)) 20) (Zu0 m n x true ex true::l52::lTm m n x true ex o true):=by
 cases n<;>cases o<;>exact by and_intros<;>kernel_rfl
theorem ZrN (n b:Bool) (x:W4) (ex m:Int):Zw (Ze (Zi prog Zh Zf8 true) 300 27 [vN n ex x b,.int .i64 m] [sam false,cmp true,cmp false,cmp false]) (rdT (sgR n (pR m n x b ex)) 0) (Zu0 m n x b ex false::l52::lTm m n x b ex false false):=by
 cases n<;>exact by and_intros<;>kernel_rfl
theorem Zn6 (n:Bool) (x:W4) (ex m:Int):Zw (Ze (Zi prog Zh Zf8 true) 300 27 [vN n ex x true,.int .i64 m] [sam true,cmp true,cmp false,cmp false]) (rdT (sgR n (pR m n x true ex)) 0) (Zu0 m n x true ex false::l52::lTm m n x true ex false true):=by
 cases n<;>exact by and_intros<;>kernel_rfl
def fgT (t:Bool):Int:=match t with | true=>24 | false=>16
def lTn (m:Int) (n:Bool) (x:W4) (b:Bool) (ex:Int) (t:Bool) (l:Log):Log:=(tnK m n (tw x b) (clp ex-1) (lgR ex x),t)::(decide (lgR ex x= -1023→toQ m n (tw x b) (clp ex-1) (-1075)<2^256),true)::(Zn2 x (clp ex) 0,true)::l
theorem ZrO (n b t:Bool) (x:W4) (ex m:Int):Zw (Ze (Zi prog Zh Zf8 true) 300 27 [vN n ex x b,.int .i64 m] [sam false,cmp true,cmp true,cmp false,cmp t]) (rdT (sgR n (pR m n x b ex)) (fgT t)) (lTn m n x b ex t (Zu0 m n x b ex false::l52::lTm m n x b ex true false)):=by
 cases n<;>cases t<;>exact by and_intros<;>kernel_rfl
theorem Zn7 (n t:Bool) (x:W4) (ex m:Int):Zw (Ze (Zi prog Zh Zf8 true) 300 27 [vN n ex x true,.int .i64 m] [sam true,cmp true,cmp true,cmp false,cmp t]) (rdT (sgR n (pR m n x true ex)) (fgT t)) (lTn m n x true ex t (Zu0 m n x true ex false::l52::lTm m n x true ex true true)):=by
 cases n<;>cases t<;>exact by and_intros<;>kernel_rfl
theorem ZpT {x:W4}{b:Bool}(h:tw x b≠0):bitLen (tw x b)=bitLen x.nat+1:=by
 have hd:tw x b/2^1=x.nat:=by
  have:=Zko x b 0;simpa using this
 by_cases h0:x.nat=0
 ·have:tw x b=1:=by
   have e:tw x b/2=x.nat:=by simpa using hd
   omega
  rw[this,h0];rfl
 ·rw[bitLen_shift (tw x b) 1 (by rw[hd];exact h0),hd];omega
theorem Zkt {x:W4}(hx:x.ok):bitLen x.nat≤256:=ZaX (W4.nat_lt hx)
theorem ZpU {x:W4}{b:Bool}{ex:Int}(hx:x.ok) (h:tw x b≠0):lgR ex x=lgN (tw x b) (clp ex-1):=by
 have h1:=Zks ex;have h2:=Zkt hx;unfold lgR lgW lgN;rw[ZcT,ZpT h,ZY (n:=clp ex+((bitLen x.nat:Nat):Int)) ⟨by omega,by omega⟩,ZY ⟨by omega,by omega⟩];omega
theorem ZpV {x:W4}{b:Bool}{ex:Int}(hx:x.ok) (h:tw x b≠0): -2002≤lgN (tw x b) (clp ex-1)∧lgN (tw x b) (clp ex-1)≤2300:=by
 have h1:=Zks ex;have h2:=Zkt hx;unfold lgN;rw[ZpT h];omega
theorem Zvr {x:W4}{b:Bool}{ex:Int}(hx:x.ok) (h:tw x b≠0):e0 ex x=zr (tw x b) (clp ex-1):=by
 have hb:=ZpV (ex:=ex) hx h;unfold e0 m52 zr;rw[ZpU hx h,ZY ⟨by omega,by omega⟩];split<;>split<;>omega
theorem Zku {x:W4}{b:Bool}{ex:Int}(hx:x.ok) (h:tw x b≠0): -1074≤zr (tw x b) (clp ex-1)∧zr (tw x b) (clp ex-1)≤2300:=by
 have hb:=ZpV (ex:=ex) hx h;unfold zr;split<;>omega
theorem ZzM {q:Nat}(h:q<18446744073709551616):(ofN q).a=(q:Int):=by unfold ofN W4.of;dsimp only;omega
theorem ZzN {m:Int}{n:Bool}{x:W4}{b:Bool}{ex:Int}(hx:x.ok) (h:tw x b≠0):pR m n x b ex=p0 m n (tw x b) (clp ex-1)∧p0 m n (tw x b) (clp ex-1)<18446744073709551616:=by
 have hb:=Zku (ex:=ex) hx h;have hq:=Zf4 m n (tw x b) (clp ex-1);have e1:((2:Int)^min (Int.toNat 52) 64)=4503599627370496:=by rfl
 unfold pR qR p0;rw[Zvr hx h,ZzM (by omega),e1,ZY ⟨by omega,by omega⟩,wrapU' (n:=zr (tw x b) (clp ex-1) - -1074) ⟨by omega,by omega⟩,wrapU' (n:=(zr (tw x b) (clp ex-1) - -1074)*4503599627370496) ⟨by omega,by omega⟩,wrapU' ⟨by omega,by omega⟩];omega
def sS (n:Bool) (p:Int):Int:=if n=true then 9223372036854775808+p else p
theorem Zkv {n:Bool}{p:Int}(h0:0≤p) (h1:p≤9218868437227405312):sgR n p=sS n p:=by
 cases n
 ·rfl
 ·simp only[sgR,sS,if_true];rw[Zf2 ⟨by omega,by omega⟩];omega
theorem Zvs (m:Int) (n:Bool) (T:Nat) (E:Int):tnK m n T E (lgN T E)=ZdG m n T E:=rfl
def rdV (m:Int) (n:Bool) (T:Nat) (E:Int):Value:=rdT (sS n (rnP m n T E)) (rnF m n T E)
theorem Zgn (n b:Bool) (x:W4) (ex m:Int) (hx:x.ok) (w:World):Calls prog 27 #[vN n ex x b,.int .i64 m] w fun r w'=>r= .returned (rdV m n (tw x b) (clp ex-1))∧zg w w':=by
 have hv:([vN n ex x b,.int .i64 m].all (lt 0))=true:=rfl;unfold rdV;by_cases hz:tw x b=0
 ·have h1:=(Zkp hx).1 hz;rw[Xh] at h1;have hb:b=false:=by simpa using h1.2
  subst hb;have h:=Zb (Zf ZaS) (ZrL n x ex m) (Zz h1.1) hv (by rfl) w;rw[Zkv (by omega) (by omega)] at h;unfold rnP rnF;rw[if_pos hz,if_pos hz];exact h
 ·obtain⟨ep,hp⟩:=ZzN (m:=m) (n:=n) (ex:=ex) hx hz;have hbd:=Zks ex;have hel:=Zku (ex:=ex) hx hz;have hq:=Zf4 m n (tw x b) (clp ex-1);have ee:=Zvr (ex:=ex) hx hz;have el:=ZpU (ex:=ex) hx hz;have hp0:=Zf5 m n (tw x b) (clp ex-1);have e256:(2:Nat)^256=115792089237316195423570985008687907853269984665640564039457584007913129639936:=rfl;have kq:decide (qR m n x b ex<2^256)=true:=Xa (by unfold qR;rw[ee];omega);have kt:Zn2 x (clp ex) (e0 ex x)=true:=Xa ⟨hx,by omega,by omega,by omega,by omega⟩;have kt0:Zn2 x (clp ex) 0=true:=Xa ⟨hx,by omega,by omega,by omega,by omega⟩;have kx:decide x.ok=true:=Xa hx;have ko:oR x b ex=toL (tw x b) (clp ex-1) (zr (tw x b) (clp ex-1)):=by unfold oR;rw[ee]
  have kn:decide (lgR ex x= -1023→toQ m n (tw x b) (clp ex-1) (-1075)<2^256)=true:=Xa fun hl=>by
   rw[el] at hl;have:toQ m n (tw x b) (clp ex-1) (-1075)≤2^53:=Zhi (by unfold lgN at hl;omega);have e53:(2:Nat)^53=9007199254740992:=rfl;omega
  have key:∃ d,eqW x ⟨0,0,0,0⟩=d∧(d=false∨(d=true∧b=true)):=by
   refine⟨_,rfl,?_⟩;cases he:eqW x ⟨0,0,0,0⟩
   ·exact .inl rfl
   ·right
    refine⟨rfl,?_⟩;cases hb:b
    ·exact absurd ((Zkp hx).2 (by rw[he,hb];rfl)) hz
    ·rfl
  obtain⟨d,hd,hdb⟩:=key;have lt5:∀ o,oR x b ex=o→Zx (lTm m n x b ex o d):=fun o ho=>Za ho (Za kq (Za kt (Za kx (Zz hd))));unfold rnP rnF;rw[if_neg hz,if_neg hz];by_cases hbig:9218868437227405312≤p0 m n (tw x b) (clp ex-1)
  ·rw[if_pos hbig,if_pos hbig];have hb2:=ZpQ m n;have hs:sgR n (bey m n)=sS n (bey m n):=Zkv (by omega) (by omega);rw[← hs];have lB:decide (pR m n x b ex≥9218868437227405312)=true:=Xa (by rw[ep];exact hbig);rcases hdb with rfl | ⟨rfl,rfl⟩
   ·exact Zb (Zf ZaS) (Zvq n b (oR x b ex) x ex m) (Za lB (Za rfl (lt5 _ rfl))) hv (by rfl) w
   ·exact Zb (Zf ZaS) (ZrM n (oR x true ex) x ex m) (Za lB (Za rfl (lt5 _ rfl))) hv (by rfl) w
  ·rw[if_neg hbig,if_neg hbig];have hs:sgR n (pR m n x b ex)=sS n (p0 m n (tw x b) (clp ex-1)):=by rw[ep];exact Zkv hp0 (by omega)
   rw[← hs];have lB:decide (pR m n x b ex≥9218868437227405312)=false:=Xb (by rw[ep];exact hbig);by_cases hl:toL (tw x b) (clp ex-1) (zr (tw x b) (clp ex-1))=true
   ·rw[if_pos hl];have ht:tnK m n (tw x b) (clp ex-1) (lgR ex x)=ZdG m n (tw x b) (clp ex-1):=by rw[el,Zvs]
    have ef:(if ZdG m n (tw x b) (clp ex-1)=true then (24:Int) else 16)=fgT (ZdG m n (tw x b) (clp ex-1)):=by
     cases ZdG m n (tw x b) (clp ex-1)<;>rfl
    rw[ef];rcases hdb with rfl | ⟨rfl,rfl⟩
    ·exact Zb (Zf ZaS) (ZrO n b (ZdG m n (tw x b) (clp ex-1)) x ex m) (Za ht (Za kn (Za kt0 (Za lB (Za rfl (lt5 _ (ko.trans hl))))))) hv (by rfl) w
    ·exact Zb (Zf ZaS) (Zn7 n (ZdG m n (tw x true) (clp ex-1)) x ex m) (Za ht (Za kn (Za kt0 (Za lB (Za rfl (lt5 _ (ko.trans hl))))))) hv (by rfl) w
   ·rw[if_neg hl];have hl':=ko.trans (by simpa using hl);rcases hdb with rfl | ⟨rfl,rfl⟩
    ·exact Zb (Zf ZaS) (ZrN n b x ex m) (Za lB (Za rfl (lt5 _ hl'))) hv (by rfl) w
    ·exact Zb (Zf ZaS) (Zn6 n x ex m) (Za lB (Za rfl (lt5 _ hl'))) hv (by rfl) w
def gRd:Ans:=fun vals s=>
 match vals with
 | [v,.int .i64 m]=>
  match n7 v with
  | some (n,ex,x,b)=>some (rdV m n (tw x b) (clp ex-1),s,[(decide x.ok,true)])
  | none=>none
 | _=>none
theorem Zvt:ZJ 27 gRd:=by
 intro vals s v s' lg h hl w;unfold gRd at h;split at h
 ·split at h
  ·rename_i n ex x b hn;cases h;rw[zw hn];exact Zgn n b x ex _ (Xc (hl _ Xf)) w
  ·cases h
 ·cases h
end Go.Proofs.YtekebccjflilnaaGreat
namespace Go.Proofs.YtekebccjflilnaaGreat
open Go.Proofs.Tryz
open Go.IntKind
open Go.KRun Go.Pt
set_option maxRecDepth 100000
def gU (k:Int→Value):Ans:=fun vals s=>
 match vals with
 | [.int .u64 p]=>some (k p,s,[(decide (U p),true)])
 | _=>none
theorem Zir {f:Nat}{k:Int→Value}(hk:∀ p:Int,U p→∀ w,Calls prog f #[.int .u64 p] w fun e w'=>e= .returned (k p)∧zg w w'):ZJ f (gU k):=by
 intro vals s v s' lg h hl w;unfold gU at h;split at h
 ·cases h;exact hk _ (Xc (hl _ Xf)) w
 ·cases h
theorem Zn8 (p:Int):Zw (Ze (Zi prog Zh Zo true) 300 70 [.int .u64 p] []) (.int .u64 (Zm7 p 9223372036854775808)) []:=by and_intros<;>kernel_rfl
theorem Zvu:ZJ 70 (gU fun p=> .int .u64 (mag p)):=Zir fun p hp w=>by
 have:=Zb (Zf Zd) (Zn8 p) (fun x hx=>by cases hx) (by rfl) (by rfl) w;rw[Zkk hp] at this;exact this
def Zu1:Con:=alt 70 (gU fun p=> .int .u64 (mag p)) Zo
theorem Zdw:ConOk Zu1:=Zy func70 rfl Zvu Zd
def exM (p:Int):Int:=i64.wrap ((mag p).fdiv (2^min (52:Int).toNat 64))
theorem ZpW (p:Int):exM p=ex p:=by
 have e:((2:Int)^min (52:Int).toNat 64)=4503599627370496:=by rfl
 unfold exM;rw[e,Int.fdiv_eq_ediv_of_nonneg _ (by omega),Zvj];have:=Zio p;exact ZY ⟨by omega,by omega⟩
def frM (p:Int):Int:=Zf0 p 4503599627370495
def lX (p:Int) (l:Log):Log:=(decide ((52:Int)<0),false)::(decide (U p),true)::l
theorem ZzO {p:Int}(hp:U p):Zx (lX p []):=Za rfl (Zz (Xa hp))
def lQ (p:Int):Bool:=Zf0 (frM p) 2251799813685248 !=0
theorem Zkw (p:Int) (d:Bool):Zw (Ze (Zi prog Zh Zu1 true) 300 54 [.int .u64 p] [cmp true,cmp d]) (.int .i64 (match d with | true=>0 | false=>1)) ((frM p==0,d)::(exM p==0,true)::lX p []):=by
 cases d<;>exact by and_intros<;>kernel_rfl
theorem Zgo (p:Int):Zw (Ze (Zi prog Zh Zu1 true) 300 54 [.int .u64 p] [cmp false,cmp true,cmp true]) (.int .i64 3) ((frM p==0,true)::(exM p==2047,true)::(exM p==0,false)::lX p []):=by and_intros<;>kernel_rfl
theorem Zkx (p:Int) (d:Bool):Zw (Ze (Zi prog Zh Zu1 true) 300 54 [.int .u64 p] [cmp false,cmp true,cmp false,cmp d]) (.int .i64 (match d with | true=>4 | false=>5)) ((lQ p,d)::(frM p==0,false)::(exM p==2047,true)::(exM p==0,false)::lX p []):=by
 cases d<;>exact by and_intros<;>kernel_rfl
theorem Zky (p:Int):Zw (Ze (Zi prog Zh Zu1 true) 300 54 [.int .u64 p] [cmp false,cmp false]) (.int .i64 2) ((exM p==2047,false)::(exM p==0,false)::lX p []):=by and_intros<;>kernel_rfl
theorem Zkz {p:Int}(hp:U p):frM p=fr p:=Zkl hp
theorem ZzP {p:Int}(hp:U p):lQ p=decide (2251799813685248≤fr p):=by
 have:=Zgk p;unfold lQ;rw[Zkz hp,Zin ⟨by omega,by omega⟩];by_cases h:2251799813685248≤fr p
 ·rw[Xa h,show fr p/2251799813685248=1 from by omega];rfl
 ·rw[Xb h,show fr p/2251799813685248=0 from by omega];rfl
theorem ZpX:ZJ 54 (gU fun p=> .int .i64 (cl p)):=Zir fun p hp w=>by
 have hl:=ZzO hp;have ee:=ZpW p;have ef:=Zkz hp;unfold cl;by_cases h0:ex p=0
 ·rw[if_pos h0];have:=Zb (Zf Zdw) (Zkw p (frM p==0)) (Za rfl (Za (by rw[ee];simp [h0]) hl)) (by rfl) (by cases (frM p==0)<;>rfl) w;rw[ef] at this;by_cases h1:fr p=0
  ·rw[if_pos h1];rw[show (fr p==0)=true from by simp [h1]] at this;exact this
  ·rw[if_neg h1];rw[show (fr p==0)=false from by simp [h1]] at this;exact this
 ·rw[if_neg h0];by_cases h2:ex p=2047
  ·rw[if_pos h2];by_cases h1:fr p=0
   ·rw[if_pos h1];exact Zb (Zf Zdw) (Zgo p) (Za (by rw[ef];simp [h1]) (Za (by rw[ee];simp [h2]) (Za (by rw[ee];simp [h0]) hl))) (by rfl) (by rfl) w
   ·rw[if_neg h1];have:=Zb (Zf Zdw) (Zkx p (lQ p)) (Za rfl (Za (by rw[ef];simp [h1]) (Za (by rw[ee];simp [h2]) (Za (by rw[ee];simp [h0]) hl)))) (by rfl) (by cases (lQ p)<;>rfl) w;rw[ZzP hp] at this;by_cases h3:2251799813685248≤fr p
    ·rw[if_pos h3];rw[Xa h3] at this;exact this
    ·rw[if_neg h3];rw[Xb h3] at this;exact this
  ·rw[if_neg h2];exact Zb (Zf Zdw) (Zky p) (Za (by rw[ee];simp [h2]) (Za (by rw[ee];simp [h0]) hl)) (by rfl) (by rfl) w
def Zvv:Con:=alt 54 (gU fun p=> .int .i64 (cl p)) Zu1
theorem ZeF:ConOk Zvv:=Zy func54 rfl ZpX Zdw
def vP (m:Bool) (c e s:Int):Value:= .agg #[.bool m,.int .i64 c,.int .i64 e,.int .u64 s]
def vT (p:Int):Value:=vP (sgn p) (cl p) (xp p) (sg p)
def lS (p:Int) (d:Bool):Bool×Bool:=(Zf0 p 9223372036854775808 !=0,d)
def lU (p:Int):Bool×Bool:=(decide (U p),true)
theorem Zgp (p:Int) (d:Bool):Zw (Ze (Zi prog Zh Zvv true) 300 82 [.int .u64 p] [cmp d,cmp true]) (vP d (cl p) (-1074) (frM p)) [(cl p==0,true),lU p,lS p d]:=by and_intros<;>kernel_rfl
theorem Zk0 (p:Int) (d:Bool):Zw (Ze (Zi prog Zh Zvv true) 300 82 [.int .u64 p] [cmp d,cmp false,cmp true]) (vP d (cl p) (-1074) (frM p)) [(cl p==1,true),(cl p==0,false),lU p,lS p d]:=by and_intros<;>kernel_rfl
theorem Zis (p:Int) (d:Bool):Zw (Ze (Zi prog Zh Zvv true) 300 82 [.int .u64 p] [cmp d,cmp false,cmp false,cmp true]) (vP d (cl p) (i64.wrap (exM p-1075)) (bOr (frM p) 4503599627370496)) [(decide ((52:Int)<0),false),lU p,(cl p==2,true),(cl p==1,false),(cl p==0,false),lU p,lS p d]:=by and_intros<;>kernel_rfl
theorem Zit (p:Int) (d:Bool):Zw (Ze (Zi prog Zh Zvv true) 300 82 [.int .u64 p] [cmp d,cmp false,cmp false,cmp false]) (vP d (cl p) 0 (frM p)) [(cl p==2,false),(cl p==1,false),(cl p==0,false),lU p,lS p d]:=by and_intros<;>kernel_rfl
theorem ZrP {p:Int}(hp:U p):(Zf0 p 9223372036854775808 !=0)=sgn p:=by
 rw[Zf3 hp];unfold sgn;unfold U at hp;by_cases h:9223372036854775808≤p
 ·rw[Xa h,show p/9223372036854775808=1 from by omega];rfl
 ·rw[Xb h,show p/9223372036854775808=0 from by omega];rfl
theorem Zn9 (p:Int):(ex p=0∧(cl p=0∨cl p=1))∨(ex p=2047∧3≤cl p)∨(ex p≠0∧ex p≠2047∧cl p=2):=by
 unfold cl;split
 ·split<;>omega
 ·split
  ·split
   ·omega
   ·split<;>omega
  ·omega
theorem ZrQ {p:Int}:bOr (fr p) 4503599627370496=fr p+4503599627370496:=by
 have:=Zgk p;rw[ZpO 52 (z:=1) (by omega) (by rfl) this.1 (show fr p<2^52 from this.2) (by omega)];omega
theorem Ziu (p:Int) (hp:U p) (w:World):Calls prog 82 #[.int .u64 p] w fun e w'=>e= .returned (vT p)∧zg w w':=by
 have hu:decide (U p)=true:=Xa hp;have hs:=ZrP hp;have hf:=Zkz hp;have he:=ZpW p;have hx:=Zio p;unfold vT xp sg;rcases Zn9 p with ⟨h1,h2⟩ | ⟨h1,h2⟩ | ⟨h1,h2,h3⟩
 ·rw[if_pos h1,if_pos h1];rcases h2 with h2 | h2
  ·have:=Zb (Zf ZeF) (Zgp p (sgn p)) (Za (by simp [h2]) (Za hu (Zz hs))) (by rfl) (by rfl) w;rw[hf] at this;exact this
  ·have:=Zb (Zf ZeF) (Zk0 p (sgn p)) (Za (by simp [h2]) (Za (by simp [h2]) (Za hu (Zz hs)))) (by rfl) (by rfl) w;rw[hf] at this;exact this
 ·have h0:¬ ex p=0:=by omega
  simp only[if_neg h0,if_pos h1];have h3:¬ cl p=0:=by omega
  have h4:¬ cl p=1:=by omega
  have h5:¬ cl p=2:=by omega
  have:=Zb (Zf ZeF) (Zit p (sgn p)) (Za (by simp [h5]) (Za (by simp [h4]) (Za (by simp [h3]) (Za hu (Zz hs))))) (by rfl) (by rfl) w;rw[hf] at this;exact this
 ·rw[if_neg h1,if_neg h1,if_neg h2,if_neg h2];have:=Zb (Zf ZeF) (Zis p (sgn p)) (Za rfl (Za hu (Za (by simp [h3]) (Za (by simp [h3]) (Za (by simp [h3]) (Za hu (Zz hs))))))) (by rfl) (by rfl) w;rw[hf,he,ZY ⟨by omega,by omega⟩,ZrQ] at this;exact this
theorem ZrR:ZJ 82 (gU vT):=Zir Ziu
def exR (p:Int):Int:=(u64.wrap (p.tdiv 4503599627370496)).tmod 2048
def frR (p:Int):Int:=p.tmod 4503599627370496
def lR (p:Int) (d:Bool):Log:=[(decide (p≥9223372036854775808),d),(decide ((4503599627370496:Int)=0),false),(decide ((2048:Int)=0),false)]
theorem Zk1 (p:Int) (d:Bool):Zw (Ze (Zi prog Zh Zo true) 300 41 [.int .u64 p] [cmp true,cmp true,cmp d,cmp false,cmp false]) (vP d 2 (i64.wrap (i64.wrap (exR p)-1075)) (u64.wrap (frR p+4503599627370496))) ((exR p==0,false)::(exR p==2047,false)::lR p d):=by and_intros<;>kernel_rfl
theorem Zk2 (p:Int) (d:Bool):Zw (Ze (Zi prog Zh Zo true) 300 41 [.int .u64 p] [cmp true,cmp true,cmp d,cmp true,cmp true]) (vP d 4 0 (frR p)) ((decide (frR p≥2251799813685248),true)::(exR p==2047,true)::lR p d):=by and_intros<;>kernel_rfl
theorem Zf9 (p:Int) (d b:Bool):Zw (Ze (Zi prog Zh Zo true) 300 41 [.int .u64 p] [cmp true,cmp true,cmp d,cmp true,cmp false,cmp b]) (vP d (match b with | true=>5 | false=>3) 0 (frR p)) ((decide (frR p>0),b)::(decide (frR p≥2251799813685248),false)::(exR p==2047,true)::lR p d):=by
 cases b<;>exact by and_intros<;>kernel_rfl
theorem ZfA (p:Int) (d b:Bool):Zw (Ze (Zi prog Zh Zo true) 300 41 [.int .u64 p] [cmp true,cmp true,cmp d,cmp false,cmp true,cmp b]) (vP d (match b with | true=>1 | false=>0) (-1074) (frR p)) ((decide (frR p>0),b)::(exR p==0,true)::(exR p==2047,false)::lR p d):=by
 cases b<;>exact by and_intros<;>kernel_rfl
theorem Zvw {p:Int}(hp:U p):exR p=ex p:=by
 unfold exR ex U at*;rw[Int.tdiv_eq_ediv_of_nonneg hp.1,wrapU' ⟨by omega,by omega⟩,Int.tmod_eq_emod_of_nonneg (by omega)]
theorem Zvx {p:Int}(hp:U p):frR p=fr p:=by unfold frR fr U at*;rw[Int.tmod_eq_emod_of_nonneg hp.1]
theorem Zk3 (p:Int) (hp:U p) (w:World):Calls prog 41 #[.int .u64 p] w fun e w'=>e= .returned (vT p)∧zg w w':=by
 have hl:Zx (lR p (sgn p)):=Za rfl (Za rfl (Zz rfl));have hf:=Zvx hp;have he:=Zvw hp;have hx:=Zio p;have hy:=Zgk p;unfold vT xp sg cl;by_cases h0:ex p=0
 ·simp only[if_pos h0];by_cases h1:fr p=0
  ·simp only[if_pos h1];have:=Zb (Zf Zd) (ZfA p (sgn p) false) (Za (by rw[hf];simp [h1]) (Za (by rw[he];simp [h0]) (Za (by rw[he];simp [h0]) hl))) (by rfl) (by rfl) w;rw[hf] at this;exact this
  ·simp only[if_neg h1];have:=Zb (Zf Zd) (ZfA p (sgn p) true) (Za (by rw[hf];exact Xa (by omega)) (Za (by rw[he];simp [h0]) (Za (by rw[he];simp [h0]) hl))) (by rfl) (by rfl) w;rw[hf] at this;exact this
 ·simp only[if_neg h0];by_cases h2:ex p=2047
  ·simp only[if_pos h2];by_cases h3:2251799813685248≤fr p
   ·simp only[if_pos h3,if_neg (show ¬ fr p=0 by omega)];have:=Zb (Zf Zd) (Zk2 p (sgn p)) (Za (by rw[hf];exact Xa h3) (Za (by rw[he];simp [h2]) hl)) (by rfl) (by rfl) w;rw[hf] at this;exact this
   ·by_cases h1:fr p=0
    ·simp only[if_pos h1];have:=Zb (Zf Zd) (Zf9 p (sgn p) false) (Za (by rw[hf];simp [h1]) (Za (by rw[hf];exact Xb h3) (Za (by rw[he];simp [h2]) hl))) (by rfl) (by rfl) w;rw[hf] at this;exact this
    ·simp only[if_neg h1,if_neg h3];have:=Zb (Zf Zd) (Zf9 p (sgn p) true) (Za (by rw[hf];exact Xa (by omega)) (Za (by rw[hf];exact Xb h3) (Za (by rw[he];simp [h2]) hl))) (by rfl) (by rfl) w;rw[hf] at this;exact this
  ·simp only[if_neg h2];have:=Zb (Zf Zd) (Zk1 p (sgn p)) (Za (by rw[he];simp [h0]) (Za (by rw[he];simp [h2]) hl)) (by rfl) (by rfl) w;rw[hf,he,ZY (n:=ex p) ⟨by omega,by omega⟩,ZY ⟨by omega,by omega⟩,wrapU' ⟨by omega,by omega⟩] at this;exact this
theorem ZpY:ZJ 41 (gU vT):=Zir Zk3
end Go.Proofs.YtekebccjflilnaaGreat
namespace Go.Proofs.YtekebccjflilnaaGreat
open Go.Proofs.Tryz
open Go.KRun Go.Pt
set_option maxRecDepth 100000
def ZyS (k:Int→Int→Bool):Ans:=fun vals s=>
 match vals,s with
 | [.int .u64 a,.int .u64 b],.inr (.inr (.inr (.inl d)))::s'=>some (.bool d,s',[(k a b,d),(decide (U a∧U b),true)])
 | _,_=>none
theorem Zk4 {f:Nat}{k:Int→Int→Bool}(hk:∀ a b:Int,U a→U b→∀ w,Calls prog f #[.int .u64 a,.int .u64 b] w fun e w'=>e= .returned (.bool (k a b))∧zg w w'):ZJ f (ZyS k):=by
 intro vals s v s' lg h hl w;unfold ZyS at h;split at h
 ·cases h;have e:=hl _ (Xe);obtain⟨h1,h2⟩:=Xc (hl _ (Xd _ Xf));simp only at e;rw[← e];exact hk _ _ h1 h2 w
 ·cases h
def gUU (k:Int→Int→Value) (c:Int→Int→Bool):Ans:=fun vals s=>
 match vals with
 | [.int .u64 a,.int .u64 b]=>some (k a b,s,[(c a b,true),(decide (U a∧U b),true)])
 | _=>none
theorem Zk5 {f:Nat}{k:Int→Int→Value}{c:Int→Int→Bool}(hk:∀ a b:Int,U a→U b→c a b=true→∀ w,Calls prog f #[.int .u64 a,.int .u64 b] w fun e w'=>e= .returned (k a b)∧zg w w'):ZJ f (gUU k c):=by
 intro vals s v s' lg h hl w;unfold gUU at h;split at h
 ·cases h;have e:=hl _ (Xe);obtain⟨h1,h2⟩:=Xc (hl _ (Xd _ Xf));exact hk _ _ h1 h2 e w
 ·cases h
theorem Z1 {x y:Int}(h:x=y):(x==y)=true:=by simpa using h
theorem Zq {x y:Int}(h:x≠y):(x==y)=false:=by simpa using h
theorem ZrS {x y:Int}(h:x≠y):(x !=y)=true:=by simpa using h
theorem ZrT {x y:Int}(h:x=y):(x !=y)=false:=by simpa using h
theorem Zdx (p:Int):0≤cl p∧cl p≤5:=by
 unfold cl;split
 ·split<;>omega
 ·split
  ·split
   ·omega
   ·split<;>omega
  ·omega
theorem ZpZ (p:Int):mag p=4503599627370496*ex p+fr p:=by unfold mag ex fr;omega
theorem Zdy (p:Int):(3<cl p↔9218868437227405312<mag p)∧(cl p=3↔mag p=9218868437227405312)∧(cl p≤2↔mag p<9218868437227405312):=by
 have h1:=ZpZ p;have h2:=Zio p;have h3:=Zgk p;rw[h1];unfold cl;split
 ·split<;>omega
 ·split
  ·split
   ·omega
   ·split<;>omega
  ·omega
end Go.Proofs.YtekebccjflilnaaGreat
namespace Go.Nt
def Z3:List Int→Nat
 | []=>0
 | x::r=>if Z3 r=0 then (if x=0 then 0 else 1) else Z3 r+1
theorem ZcU:∀ L:List Int,Z3 L≤L.length
 | []=>Nat.le_refl _
 | x::r=>by
  have:=ZcU r;unfold Z3;split
  ·split<;>simp
  ·simp;omega
theorem Zed:∀ (L:List Int) (i:Nat),Z3 L≤i→L.getD i 0=0
 | [],i,_=>by simp
 | x::r,i,h=>by
  unfold Z3 at h;cases i with
  | zero=>
   split at h
   ·split at h
    ·rename_i h1;simp [h1]
    ·omega
   ·omega
  | succ i=>
   have:=Zed r i (by split at h<;>(try split at h)<;>omega);simpa using this
theorem Zdz:∀ L:List Int,Z3 L=0∨L.getD (Z3 L-1) 0≠0
 | []=> .inl rfl
 | x::r=>by
  have ih:=Zdz r;unfold Z3;split
  ·split
   ·exact .inl rfl
   ·rename_i h;exact .inr (by simpa using h)
  ·rename_i h;rcases ih with ih | ih
   ·exact absurd ih h
   ·refine .inr ?_;obtain⟨k,hk⟩:∃ k,Z3 r=k+1:=⟨Z3 r-1,by omega⟩;rw[hk] at ih ⊢;simpa using ih
theorem Zee {L:List Int}{k:Nat}(h1:∀ i,k≤i→L.getD i 0=0) (h2:k=0∨L.getD (k-1) 0≠0):Z3 L=k:=by
 rcases Nat.lt_trichotomy (Z3 L) k with h | h | h
 ·rcases h2 with h2 | h2
  ·omega
  ·exact absurd (Zed L (k-1) (by omega)) h2
 ·exact h
 ·rcases Zdz L with h3 | h3
  ·omega
  ·exact absurd (h1 (Z3 L-1) (by omega)) h3
def vb (b:Nat):List Int→Nat
 | []=>0
 | x::l=>x.toNat+b*vb b l
def db (b V:Nat):List Int:=if _h:V=0∨b<2 then [] else ((V % b:Nat):Int)::db b (V/b)
 termination_by V
 decreasing_by exact Nat.div_lt_self (by omega) (by omega)
abbrev Dg (b:Nat) (x:Int):Prop:=0≤x∧x<b
theorem zx (b:Nat):db b 0=[]:=by rw[db];simp
theorem ZbX {b V:Nat}(hb:2≤b) (hV:V≠0):db b V=((V % b:Nat):Int)::db b (V/b):=by
 rw[db];rw[dif_neg (by omega)]
theorem Zk6 {b:Nat}(hb:2≤b) (V:Nat):vb b (db b V)=V:=by
 induction V using Nat.strongRecOn with
 | ind V ih=>
  by_cases hV:V=0
  ·subst hV;rw[zx];rfl
  ·rw[ZbX hb hV];simp only[vb];rw[ih (V/b) (Nat.div_lt_self (by omega) (by omega)),Xg];exact Nat.mod_add_div V b
theorem Zvy {b:Nat}(hb:2≤b) (V:Nat):∀ x∈db b V,Dg b x:=by
 induction V using Nat.strongRecOn with
 | ind V ih=>
  by_cases hV:V=0
  ·subst hV;rw[zx];intro x hx;cases hx
  ·rw[ZbX hb hV];intro x hx;rcases List.mem_cons.1 hx with rfl | hx
   ·have:=Nat.mod_lt V (show b>0 by omega);exact⟨by omega,by omega⟩
   ·exact ih (V/b) (Nat.div_lt_self (by omega) (by omega)) x hx
theorem Zef {b V:Nat}(hb:2≤b):db b V=[]↔V=0:=by
 constructor
 ·intro h;by_cases hV:V=0
  ·exact hV
  ·rw[ZbX hb hV] at h;cases h
 ·rintro rfl;exact zx b
theorem zj {b:Nat}(hb:2≤b):∀ (L:List Int),(∀ x∈L,Dg b x)→L.take (Z3 L)=db b (vb b L)
 | [],_=>by simp [vb,zx]
 | x::r,h=>by
  have ih:=zj hb r (fun y hy=>h y (Xd _ hy));have hx:=h x (Xe);have hxn:((x.toNat:Nat):Int)=x:=Int.toNat_of_nonneg hx.1;have hlt:x.toNat<b:=by omega
  have e1:(x.toNat+b*vb b r) % b=x.toNat:=by rw[Nat.add_mul_mod_self_left,Nat.mod_eq_of_lt hlt]
  have e2:(x.toNat+b*vb b r)/b=vb b r:=by rw[Nat.add_mul_div_left _ _ (by omega),Nat.div_eq_of_lt hlt,Nat.zero_add]
  unfold Z3;by_cases h0:Z3 r=0
  ·rw[if_pos h0];rw[h0,List.take_zero] at ih;have hv:vb b r=0:=(Zef hb).1 ih.symm;by_cases hx0:x=0
   ·rw[if_pos hx0];simp only[List.take_zero,vb,hv,hx0];simp [zx]
   ·rw[if_neg hx0];have hx1:x.toNat≠0:=by omega
    show [x]=_;simp only[vb];rw[ZbX hb (by rw[hv];omega),e1,e2,hv,zx,hxn]
  ·rw[if_neg h0];have hv:vb b r≠0:=fun hv=>by
    rw[hv,zx] at ih;have hl:=congrArg List.length ih;have:=ZcU r;simp at hl;rcases hl with hl | hl
    ·exact h0 hl
    ·subst hl;exact h0 rfl
   have hpos:0<b*vb b r:=Nat.mul_pos (by omega) (by omega);show x::r.take (Z3 r)=_;simp only[vb];rw[ZbX hb (by omega),e1,e2,hxn,ih]
theorem Zad {b:Nat}(hb:2≤b) {L:List Int}(h:∀ x∈L,Dg b x):Z3 L=(db b (vb b L)).length:=by
 rw[← zj hb L h];have:=ZcU L;simp;omega
def Zap (b:Nat) (L:List Int):Prop:=(∀ x∈L,Dg b x)∧Z3 L=L.length
theorem ZcB {b:Nat}(hb:2≤b) (V:Nat):Zap b (db b V):=by
 have h:=Zvy hb V;refine⟨h,?_⟩;have:=Zad hb h;rw[Zk6 hb] at this;exact this
theorem Zk7 {b:Nat}(hb:2≤b) {L:List Int}(h:Zap b L):db b (vb b L)=L:=by
 rw[← zj hb L h.1,h.2,List.take_length]
theorem Zd0 {b:Nat}(hb:2≤b):∀ (k V:Nat),V<b^k→(db b V).length≤k
 | 0,V,h=>by
  have:V=0:=by simpa using h
  subst this;rw[zx];exact Nat.le_refl _
 | k+1,V,h=>by
  by_cases hV:V=0
  ·subst hV;rw[zx];exact Nat.zero_le _
  ·rw[ZbX hb hV];have:V/b<b^k:=Nat.div_lt_of_lt_mul (by rw[Nat.pow_succ] at h;rw[Nat.mul_comm];exact h);have:=Zd0 hb k (V/b) this;simp;omega
theorem Zcu {b:Nat}(hb:2≤b):∀ (L:List Int),(∀ x∈L,Dg b x)→vb b L<b^L.length
 | [],_=>by simp [vb]
 | x::r,h=>by
  have ih:=Zcu hb r (fun y hy=>h y (Xd _ hy));have hx:=h x (Xe);have hlt:x.toNat<b:=by omega
  simp only[vb,List.length_cons,Nat.pow_succ]
  calc x.toNat+b*vb b r<b+b*vb b r:=by omega
   _=b*(vb b r+1):=by rw[Nat.mul_add,Nat.mul_one,Nat.add_comm]
   _≤b*b^r.length:=Nat.mul_le_mul_left _ ih
   _=b^r.length*b:=Nat.mul_comm _ _
theorem Zav (b:Nat):∀ (L M:List Int),vb b (L++M)=vb b L+b^L.length*vb b M
 | [],M=>by simp [vb]
 | x::r,M=>by
  simp only[List.cons_append,vb,Zav b r M,List.length_cons,Nat.pow_succ];rw[Nat.mul_add,← Nat.mul_assoc,Nat.mul_comm b (b^r.length)];omega
theorem Zqa (b:Nat) (x:Int):vb b [x]=x.toNat:=by simp [vb]
theorem Zaw (b:Nat) (L:List Int) (i:Nat):vb b (L.take (i+1))=vb b (L.take i)+b^i*(L.getD i 0).toNat:=by
 by_cases h:i<L.length
 ·have e:L.take (i+1)=L.take i++[L.getD i 0]:=by
   rw[List.take_add_one,List.getElem?_eq_getElem h];simp [List.getD,List.getElem?_eq_getElem h]
  rw[e,Zav,Zqa,List.length_take];rw[show min i L.length=i from by omega]
 ·rw[List.take_of_length_le (by omega),List.take_of_length_le (by omega)];simp [List.getD,List.getElem?_eq_none (show L.length≤i by omega)]
theorem Zcv (b:Nat) (O:List Int) (x:Int):vb b (O++[x])=vb b O+b^O.length*x.toNat:=by rw[Zav,Zqa]
theorem Zk8 {b:Nat}{O:List Int}{X Y:Nat}{k a c:Nat}(h:vb b O+b^O.length*k=X+Y):
  vb b (O++[(((k+a+c) % b:Nat):Int)])+b^(O.length+1)*((k+a+c)/b)=(X+b^O.length*a)+(Y+b^O.length*c):=by
 rw[Zcv,Xg,Nat.pow_succ,Nat.mul_assoc];have e:=Nat.mod_add_div (k+a+c) b;generalize hP:b^O.length=P at*;have e1:P*((k+a+c) % b)+P*(b*((k+a+c)/b))=P*(k+a+c):=by rw[← Nat.mul_add,e]
 have e2:P*(k+a+c)=P*k+P*a+P*c:=by rw[Nat.mul_add,Nat.mul_add]
 omega
def bl (V:Nat):Nat:=if _h:V=0 then 0 else bl (V/2)+1
 termination_by V
 decreasing_by omega
theorem Zcw:bl 0=0:=by rw[bl];simp
theorem Zeg {V:Nat}(h:V≠0):bl V=bl (V/2)+1:=by rw[bl];rw[dif_neg h]
theorem ZrU (V:Nat):V<2^bl V:=by
 induction V using Nat.strongRecOn with
 | ind V ih=>
  by_cases h:V=0
  ·subst h;rw[Zcw];decide
  ·rw[Zeg h,Nat.pow_succ];have:=ih (V/2) (by omega);omega
theorem ZrV {V:Nat}(h:V≠0):2^(bl V-1)≤V:=by
 induction V using Nat.strongRecOn with
 | ind V ih=>
  rw[Zeg h,Nat.add_sub_cancel];by_cases h2:V/2=0
  ·rw[h2,Zcw];omega
  ·have i:=ih (V/2) (by omega) h2;have e:bl (V/2)=(bl (V/2)-1)+1:=by
    have:=Zeg h2;omega
   rw[e,Nat.pow_succ];omega
theorem Zk9 {V k:Nat}(h0:2^k≤V) (h1:V<2^(k+1)):bl V=k+1:=by
 have hp:0<2^k:=Nat.pow_pos (by omega);have hV:V≠0:=by omega
 have a1:=ZrU V;have a2:=ZrV hV;have a3:bl V≠0:=by have:=Zeg hV;omega
 rcases Nat.lt_or_ge (bl V) (k+1) with h | h
 ·have:=Nat.pow_le_pow_right (show 0<2 by omega) (show bl V≤k by omega);omega
 ·rcases Nat.lt_or_ge (k+1) (bl V) with h' | h'
  ·have:=Nat.pow_le_pow_right (show 0<2 by omega) (show k+1≤bl V-1 by omega);omega
  ·omega
theorem ZnA {V k:Nat}(h:V<2^k):bl V≤k:=by
 by_cases hV:V=0
 ·subst hV;rw[Zcw];omega
 ·have a:=ZrV hV;rcases Nat.lt_or_ge k (bl V) with h' | h'
  ·have:=Nat.pow_le_pow_right (show 0<2 by omega) (show k≤bl V-1 by omega);omega
  ·exact h'
theorem ZdH (k:Nat):65536^k=2^(16*k):=by rw[show (65536:Nat)=2^16 from rfl,← Nat.pow_mul]
theorem Zvz {t lo k:Nat}(ht:t≠0) (hlo:lo<65536^k):bl (lo+65536^k*t)=16*k+bl t:=by
 have a1:=ZrU t;have a2:=ZrV ht;have a3:bl t≠0:=by have:=Zeg ht;omega
 rw[ZdH] at*;have e:16*k+bl t=(16*k+(bl t-1))+1:=by omega
 rw[e];refine Zk9 ?_ ?_
 ·rw[Nat.pow_add];have:=Nat.mul_le_mul_left (2^(16*k)) a2;omega
 ·rw[Nat.add_assoc,show bl t-1+1=bl t by omega,Nat.pow_add];have:=Nat.mul_le_mul_left (2^(16*k)) (show t+1≤2^bl t by omega);rw[Nat.mul_add,Nat.mul_one] at this;omega
def dgS (L:List Int) (i:Nat):Nat:=(L.getD i 0).toNat
theorem ZbH (k:Nat):2^k=65536^(k/16)*2^(k % 16):=by
 rw[ZdH,← Nat.pow_add];congr 1;omega
theorem ZzQ {L:List Int}(h:∀ x∈L,Dg 65536 x) (i:Nat):dgS L i<65536:=by
 unfold dgS;by_cases hi:i<L.length
 ·have:=h (L.getD i 0) (by simp [List.getD,List.getElem?_eq_getElem hi]);omega
 ·simp [List.getD,List.getElem?_eq_none (show L.length≤i by omega)]
theorem ZkA {L:List Int}(h:∀ x∈L,Dg 65536 x) (z:Nat):vb 65536 L/65536^z=vb 65536 (L.drop z)∧vb 65536 L % 65536^z=vb 65536 (L.take z):=by
 have hp:0<65536^z:=Nat.pow_pos (by omega);by_cases hz:z≤L.length
 ·have e:vb 65536 L=vb 65536 (L.take z)+65536^z*vb 65536 (L.drop z):=by
   conv=>lhs;rw[← List.take_append_drop z L]
   rw[Zav,List.length_take,show min z L.length=z by omega]
  have hl:vb 65536 (L.take z)<65536^z:=by
   have:=Zcu (b:=65536) (by omega) (L.take z) (fun x hx=>h x (List.mem_of_mem_take hx));rw[List.length_take,show min z L.length=z by omega] at this;exact this
  rw[e];exact⟨by rw[Nat.add_mul_div_left _ _ hp,Nat.div_eq_of_lt hl,Nat.zero_add],by rw[Nat.add_mul_mod_self_left,Nat.mod_eq_of_lt hl]⟩
 ·have hl:vb 65536 L<65536^z:=by
   have h1:=Zcu (b:=65536) (by omega) L h;have h2:=Nat.pow_le_pow_right (show 0<65536 by omega) (show L.length≤z by omega);omega
  rw[List.drop_of_length_le (by omega),List.take_of_length_le (by omega)];exact⟨Nat.div_eq_of_lt hl,Nat.mod_eq_of_lt hl⟩
theorem ZbI {L:List Int}{z:Nat}:vb 65536 (L.drop z)=dgS L z+65536*vb 65536 (L.drop (z+1)):=by
 by_cases hz:z<L.length
 ·rw[List.drop_eq_getElem_cons hz];simp only[vb,dgS];simp [List.getD,List.getElem?_eq_getElem hz]
 ·rw[List.drop_of_length_le (by omega),List.drop_of_length_le (by omega)];simp [vb,dgS,List.getD,List.getElem?_eq_none (show L.length≤z by omega)]
theorem Zgq {s:Nat}(h:s≤16):2^s*2^(16-s)=65536:=by rw[← Nat.pow_add,show s+(16-s)=16 by omega]
theorem Zv0 {L:List Int}(h:∀ x∈L,Dg 65536 x) (k:Nat):vb 65536 L/2^k % 2=dgS L (k/16)/2^(k % 16) % 2:=by
 obtain⟨e,_⟩:=ZkA h (k/16);rw[ZbH,← Nat.div_div_eq_div_mul,e,ZbI];have hd:=Zgq (s:=k % 16+1) (by omega);have e2:65536*vb 65536 (L.drop (k/16+1))=2^(k % 16)*(2*(2^(16-(k % 16+1))*vb 65536 (L.drop (k/16+1)))):=by
  rw[← hd,Nat.pow_succ];simp only[Nat.mul_assoc]
 have hp:0<2^(k % 16):=Nat.pow_pos (by omega);rw[e2,Nat.add_mul_div_left _ _ hp];omega
theorem lost_iff {L:List Int}(h:∀ x∈L,Dg 65536 x) (k:Nat):(vb 65536 L % 2^k≠0)↔(vb 65536 (L.take (k/16))≠0∨dgS L (k/16) % 2^(k % 16)≠0):=by
 obtain⟨e1,e2⟩:=ZkA h (k/16);have hp:0<65536^(k/16):=Nat.pow_pos (by omega);rw[ZbH,Nat.mod_mul,e1,e2,ZbI];have hd:=Zgq (s:=k % 16) (by omega);have e3:(dgS L (k/16)+65536*vb 65536 (L.drop (k/16+1))) % 2^(k % 16)=dgS L (k/16) % 2^(k % 16):=by
  rw[← hd,Nat.mul_assoc,Nat.add_mul_mod_self_left]
 rw[e3];generalize dgS L (k/16) % 2^(k % 16)=r;generalize vb 65536 (L.take (k/16))=u;constructor
 ·intro h0;by_cases hu:u=0
  ·right
   intro hr;apply h0;rw[hu,hr,Nat.mul_zero]
  ·exact .inl hu
 ·rintro (h0 | h0) hh
  ·omega
  ·have:0<65536^(k/16)*r:=Nat.mul_pos hp (by omega);omega
theorem ZkB {O:List Int}{P R y x0 x1 j W:Nat}(hPR:P*R=65536) (hO:O.length=j) (h:vb 65536 O*P+y=W+65536^j*(x0 % P)):
  vb 65536 (O++[((x0/P+x1 % P*R:Nat):Int)])*P+y=(W+65536^j*x0)+65536^(j+1)*(x1 % P):=by
 have e:vb 65536 (O++[((x0/P+x1 % P*R:Nat):Int)])=vb 65536 O+65536^j*(x0/P+x1 % P*R):=by
  rw[Zcv,hO,Xg]
 have e2:=Nat.div_add_mod x0 P;have e3:65536^j*(x0/P+x1 % P*R)*P=65536^j*(P*(x0/P))+65536^(j+1)*(x1 % P):=by
  rw[Nat.mul_assoc,Nat.add_mul,Nat.mul_add,Nat.mul_comm (x0/P) P,Nat.mul_assoc (x1 % P),Nat.mul_comm R P,hPR,Nat.pow_succ,Nat.mul_comm (x1 % P),Nat.mul_assoc]
 have e4:65536^j*x0=65536^j*(P*(x0/P))+65536^j*(x0 % P):=by rw[← Nat.mul_add,e2]
 rw[e,Nat.add_mul,e3];omega
theorem ZkC {P R x0 x1:Nat}(hP:0<P) (hPR:P*R=65536) (h0:x0<65536):x0/P+x1 % P*R<65536:=by
 have h1:x0/P<R:=Nat.div_lt_of_lt_mul (by omega);have h2:x1 % P+1≤P:=Nat.mod_lt _ hP;have h3:=Nat.mul_le_mul_right R h2;rw[Nat.add_mul,Nat.one_mul,hPR] at h3;omega
theorem ZnB {L:List Int}(h:∀ x∈L,Dg 65536 x) {k V':Nat}(e:V'*2^(k % 16)+dgS L (k/16) % 2^(k % 16)=vb 65536 (L.drop (k/16))):V'=vb 65536 L/2^k:=by
 have hp:0<2^(k % 16):=Nat.pow_pos (by omega);obtain⟨e1,_⟩:=ZkA h (k/16);rw[ZbH,← Nat.div_div_eq_div_mul,e1,← e,Nat.add_comm,Nat.mul_comm,Nat.add_mul_div_left _ _ hp,Nat.div_eq_of_lt (Nat.mod_lt _ hp),Nat.zero_add]
end Go.Nt
namespace Go.Rn
open Go.Nt
theorem Zd1 (V:Nat):bl V=bitLen V:=by
 by_cases h:V=0
 ·subst h;rw[Zcw];rfl
 ·have h1:=(bitLen_spec V).1;have h2:=(bitLen_spec V).2 h;have h3:=Zbo h;obtain⟨k,hk⟩:∃ k,bitLen V=k+1:=⟨bitLen V-1,by omega⟩;rw[hk] at h1 h2 ⊢;exact Zk9 h2 h1
theorem ZnC (T k:Nat):(T/2^k % 2=1)↔2^k≤T % 2^(k+1):=by
 have hp:0<2^k:=Nat.pow_pos (by omega);have e:T % 2^(k+1)=T % 2^k+2^k*(T/2^k % 2):=by rw[Nat.pow_succ,Nat.mod_mul]
 have hl:=Nat.mod_lt T hp;have h2:T/2^k % 2=0∨T/2^k % 2=1:=by omega
 rw[e];clear e;generalize T % 2^k=r at hl;generalize T/2^k % 2=b at h2;generalize 2^k=P at hl hp;rcases h2 with h | h
 ·subst h;simp only[Nat.mul_zero,Nat.add_zero];omega
 ·subst h;rw[Nat.mul_one];exact⟨fun _=>Nat.le_add_left _ _,fun _=>rfl⟩
theorem Zv1 {r k:Nat}(hr:r≠0) (M:Int) (neg o:Bool):
  upR M neg o (zt r (2^(k+1)))=(if M=2 then false else if M=3 then !neg else if M=4 then neg else if M=1 then decide (2^k≤r) else (decide (2^k≤r) && (!decide (r=2^k) || o))):=by
 have hc:¬ zt r (2^(k+1))=0:=by rw[Zfx];exact hr
 unfold upR;rw[if_neg hc];by_cases h2:M=2
 ·rw[if_pos h2,if_pos h2]
 ·rw[if_neg h2,if_neg h2];by_cases h3:M=3
  ·rw[if_pos h3,if_pos h3]
  ·rw[if_neg h3,if_neg h3];by_cases h4:M=4
   ·rw[if_pos h4,if_pos h4]
   ·rw[if_neg h4,if_neg h4];have e:2^(k+1)=2*2^k:=by rw[Nat.pow_succ,Nat.mul_comm]
    unfold zt;rw[if_neg hr,e];generalize 2^k=P;by_cases a:2*r<2*P
    ·rw[if_pos a];have:decide (P≤r)=false:=Xb (by omega);rw[this];split<;>simp
    ·rw[if_neg a];by_cases b:2*r=2*P
     ·rw[if_pos b];have h1:decide (P≤r)=true:=Xa (by omega);have h5:decide (r=P)=true:=Xa (by omega);rw[h1,h5];split<;>simp
     ·rw[if_neg b];have h1:decide (P≤r)=true:=Xa (by omega);have h5:decide (r=P)=false:=Xb (by omega);rw[h1,h5];split<;>simp
end Go.Rn
namespace Go.Rn
open Go.Nt Go.Wd
theorem ZrW {k:Nat}(hk:300≤k):4*2^256≤2^k:=by
 obtain⟨j,rfl⟩:∃ j,k=256+(2+j):=⟨k-258,by omega⟩;have hj:0<2^j:=Nat.pow_pos (by omega);rw[Nat.pow_add,Nat.pow_add,Nat.mul_comm 4];refine Nat.mul_le_mul_left _ ?_;show 4≤4*2^j;omega
def mN (m:Int):Int:=if m<0 then 0 else if m>4 then 0 else m
theorem Zqb (m:Int) (neg o:Bool) (c:Int):upR (mN m) neg o c=upR m neg o c:=by
 unfold mN;by_cases h0:m<0
 ·rw[if_pos h0];unfold upR;rw[if_neg (show ¬ m=2 by omega),if_neg (show ¬ m=3 by omega),if_neg (show ¬ m=4 by omega),if_neg (show ¬ m=1 by omega)];simp
 ·rw[if_neg h0];by_cases h4:m>4
  ·rw[if_pos h4];unfold upR;rw[if_neg (show ¬ m=2 by omega),if_neg (show ¬ m=3 by omega),if_neg (show ¬ m=4 by omega),if_neg (show ¬ m=1 by omega)];simp
  ·rw[if_neg h4]
theorem Zqc (m:Int) (neg:Bool) (T:Nat) (E e:Int):toQ (mN m) neg T E e=toQ m neg T E e:=by
 unfold toQ rq;simp only[Zqb]
def rT (x:W4) (b:Bool):Nat:=match b with | true=>2*x.nat+1 | false=>x.nat
def jB (b:Bool):Int:=match b with | true=>1 | false=>0
theorem ZzR {x:W4}(hx:x.ok) (b:Bool):rT x b<2*2^256:=by
 have:=W4.nat_lt hx;unfold rT;cases b<;>simp only<;>omega
theorem Zv2 (m:Int) (neg:Bool) (T:Nat) (E:Int):rnP (mN m) neg T E=rnP m neg T E:=by
 unfold rnP p0 bey;simp only[Zqc,Zqb]
theorem Zv3 (m:Int) (neg:Bool) (T:Nat) (E:Int):rnF (mN m) neg T E=rnF m neg T E:=by
 unfold rnF p0 ZdG;simp only[Zqc]
theorem Zv4 {m:Int}{neg:Bool}{T:Nat}{E:Int}(hT:T≠0) (h:1024≤lgN T E):9218868437227405312≤p0 m neg T E:=by
 have hq:=Zkm (m:=m) (neg:=neg) (T:=T) (E:=E) hT (by omega);have hl:zr T E=lgN T E-52:=by unfold zr;rw[if_neg (by omega)]
 unfold p0;rw[hl] at hq ⊢;omega
theorem ZkD {m:Int}{neg:Bool}{T:Nat}{E:Int}(hT:T≠0) (h:1024≤lgN T E):rnP m neg T E=bey m neg∧rnF m neg T E=20:=by
 have:=Zv4 (m:=m) (neg:=neg) hT h;unfold rnP rnF;rw[if_neg hT,if_neg hT,if_pos this,if_pos this];exact⟨rfl,rfl⟩
theorem Zho {m:Int}{neg:Bool}{T:Nat}{E:Int}(hT:T≠0) (h:lgN T E≤ -1100):rnP m neg T E=(if upR m neg false 1=true then 1 else 0)∧rnF m neg T E=24:=by
 have hb:=(bitLen_spec T).1;have hl:zr T E= -1074:=by unfold zr;rw[if_pos (by omega)]
 have hE:¬ (-1074:Int)≤E:=by unfold lgN at h;have:=Zbo hT;omega
 have hk:bitLen T+2≤(-1074-E).toNat:=by unfold lgN at h;omega
 have hp:=Nat.pow_le_pow_right (show 0<2 by omega) hk;have e4:2^(bitLen T+2)=4*2^bitLen T:=by rw[Nat.pow_add,Nat.mul_comm]
 have hlt:2*T<2^(-1074-E).toNat:=by omega
 have hd:T/2^(-1074-E).toNat=0:=Nat.div_eq_of_lt (by omega);have hm:T % 2^(-1074-E).toNat=T:=Nat.mod_eq_of_lt (by omega);have hr:zt T (2^(-1074-E).toNat)=1:=by unfold zt;rw[if_neg hT,if_pos hlt]
 have hq:toQ m neg T E (-1074)=if upR m neg false 1=true then 1 else 0:=by
  unfold toQ rq;rw[if_neg hE,hd,hm,hr];have ho:odd 0=false:=rfl;rw[ho];simp
 have hL:toL T E (-1074)=true:=by unfold toL;rw[if_neg hE,hm];exact Xa hT
 have hti:ZdG m neg T E=true:=by unfold ZdG;rw[if_neg (by omega)];exact Xa (by omega)
 have hp0:p0 m neg T E=if upR m neg false 1=true then 1 else 0:=by
  unfold p0;rw[hl,hq];split<;>rfl
 unfold rnP rnF;rw[if_neg hT,if_neg hT,hp0,hl,hL,hti];split<;>simp
theorem Zeh {m:Int}{neg:Bool}{x:W4}(hx:x.ok) (b:Bool) {C D:Int}(h:(C=D)∨(1700≤C∧1700≤D)∨(C≤ -1700∧D≤ -1700)):rnP m neg (tw x b) (C-1)=rnP m neg (rT x b) (D-jB b)∧rnF m neg (tw x b) (C-1)=rnF m neg (rT x b) (D-jB b):=by
 have hj:0≤jB b∧jB b≤1:=by cases b<;>simp [jB]
 have e:rnP m neg (tw x b) (C-1)=rnP m neg (rT x b) (C-jB b)∧rnF m neg (tw x b) (C-1)=rnF m neg (rT x b) (C-jB b):=by
  cases b with
  | true=>exact⟨rfl,rfl⟩
  | false=>
   have e1:tw x false=x.nat*2^1:=by unfold tw;simp [Nat.mul_comm]
   rw[e1];simp only[rT,jB,Int.sub_zero];exact⟨ZaA m neg x.nat 1 C,ZaB m neg x.nat 1 C⟩
 rw[e.1,e.2];rcases h with h | h | h
 ·rw[h];exact⟨rfl,rfl⟩
 ·by_cases hT:rT x b=0
  ·rw[hT];unfold rnP rnF;simp
  ·have hl:=Zbo hT;obtain⟨a1,a2⟩:=ZkD (m:=m) (neg:=neg) (E:=C-jB b) hT (by unfold lgN;omega);obtain⟨b1,b2⟩:=ZkD (m:=m) (neg:=neg) (E:=D-jB b) hT (by unfold lgN;omega);rw[a1,a2,b1,b2];exact⟨rfl,rfl⟩
 ·by_cases hT:rT x b=0
  ·rw[hT];unfold rnP rnF;simp
  ·have hlt:=ZzR hx b;obtain⟨k,hk⟩:∃ k:Nat,k=300:=⟨300,rfl⟩;have hfp:=ZrW (show 300≤k by omega);have hl:bitLen (rT x b)≤k:=ZaX (by omega);obtain⟨a1,a2⟩:=Zho (m:=m) (neg:=neg) (E:=C-jB b) hT (by unfold lgN;omega);obtain⟨b1,b2⟩:=Zho (m:=m) (neg:=neg) (E:=D-jB b) hT (by unfold lgN;omega);rw[a1,a2,b1,b2];exact⟨rfl,rfl⟩
theorem Zv5 {q:Nat}(h0:4503599627370496≤q) (h1:q≤9007199254740992):bitLen q=if q=9007199254740992 then 54 else 53:=by
 split
 ·rename_i h;rw[h];exact ZcR (k:=53) (by decide) (by decide)
 ·exact ZcR (k:=52) h0 (show q<2^53 by have:(2:Nat)^53=9007199254740992:=rfl;omega)
theorem ZnD {m:Int}{neg:Bool}{T:Nat}{E:Int}(hT:T≠0):decide ((bitLen (toQ m neg T E (lgN T E-52)):Int)+(lgN T E+1)-53≤ -1022)=ZdG m neg T E:=by
 have h0:4503599627370496≤toQ m neg T E (lgN T E-52):=ZpP (n:=52) hT (by unfold lgN;omega);have h1:toQ m neg T E (lgN T E-52)≤9007199254740992:=Zhi (n:=53) (by unfold lgN;omega);have hl:=Zv5 h0 h1;unfold ZdG;by_cases he:lgN T E= -1023
 ·have e:lgN T E-52= -1075:=by omega
  rw[e] at h0 h1 hl ⊢;rw[if_pos he,hl];congr 1;simp only[eq_iff_iff];split<;>omega
 ·rw[if_neg he,hl];congr 1;simp only[eq_iff_iff];split<;>omega
theorem ZnE {m:Int}{neg:Bool}{T:Nat}{E:Int}(hT:T≠0):decide ((bitLen (toQ m neg T E (zr T E)):Int)+zr T E>1024)=decide (9218868437227405312≤p0 m neg T E):=by
 have h1:=Zf4 m neg T E;have hle:=ZeA T E;congr 1;simp only[eq_iff_iff];unfold p0;by_cases hn:zr T E= -1074
 ·have hl:bitLen (toQ m neg T E (zr T E))≤54:=by
   have:toQ m neg T E (zr T E)<2^54:=by have e:(2:Nat)^54=18014398509481984:=rfl;omega
   exact ZaX this
  omega
 ·have h0:=Zkm (m:=m) (neg:=neg) (E:=E) hT (by unfold zr at hn;split at hn<;>omega);have hl:=Zv5 h0 h1;rw[hl];split<;>omega
def stk (A d:Nat):Nat:=2*(A/2^d)+(if A % 2^d=0 then 0 else 1)
theorem ZrX (A d:Nat):(if A % 2^d=0 then 0 else 1)≤1:=by split<;>omega
theorem ZkE (A d j:Nat):stk A d/2^(j+1)=A/2^(d+j):=by
 have e:stk A d/2=A/2^d:=by unfold stk;split<;>omega
 rw[Nat.pow_succ,Nat.mul_comm,← Nat.div_div_eq_div_mul,e,Nat.div_div_eq_div_mul,Nat.pow_add]
theorem ZkF (A d j:Nat):stk A d % 2^(j+1)=2*(A/2^d % 2^j)+(if A % 2^d=0 then 0 else 1):=by
 rw[Nat.pow_succ,Nat.mul_comm,Nat.mod_mul];have e:stk A d/2=A/2^d:=by unfold stk;split<;>omega
 rw[e];unfold stk;split<;>omega
theorem ZkG (A d j:Nat):A % 2^(d+j)=A % 2^d+2^d*(A/2^d % 2^j):=by rw[Nat.pow_add,Nat.mod_mul]
theorem ZnF (A d j:Nat):stk A d % 2^(j+1)=0↔A % 2^(d+j)=0:=by
 have hD:0<2^d:=Nat.pow_pos (by omega);rw[ZkF,ZkG];generalize A/2^d % 2^j=r;constructor
 ·intro h;have h1:A % 2^d=0:=by
   by_cases h0:A % 2^d=0
   ·exact h0
   ·rw[if_neg h0] at h;omega
  rw[if_pos h1] at h;have:r=0:=by omega
  rw[h1,this];simp
 ·intro h;have h1:A % 2^d=0:=by omega
  rw[if_pos h1];have h2:2^d*r=0:=by omega
  rcases Nat.mul_eq_zero.1 h2 with h3 | h3
  ·omega
  ·rw[h3]
theorem ZkH {r r' D Q s:Nat}(hD:r'<D) (hQ:0<Q) (hb:s≤1) (hs:s=0↔r'=0):zt (2*r+s) (4*Q)=zt (r'+D*r) (2*(D*Q)):=by
 have hDr:r≤D*r:=Nat.le_mul_of_pos_left r (by omega);unfold zt;by_cases h0:r'+D*r=0
 ·have:r'=0:=by omega
  have:=hs.2 this;rw[if_pos h0,if_pos (by omega)]
 ·have hz:¬ 2*r+s=0:=by
   intro h;apply h0;have h1:r=0:=by omega
   have h2:=hs.1 (by omega);rw[h1,h2];rfl
  rw[if_neg h0,if_neg hz];rcases Nat.lt_trichotomy r Q with h | h | h
  ·have h1:D*r+D≤D*Q:=by rw[← Nat.mul_succ];exact Nat.mul_le_mul_left D h
   rw[if_pos (by omega),if_pos (by omega)]
  ·subst h;by_cases hs0:s=0
   ·have:=hs.1 hs0;rw[if_neg (by omega),if_pos (by omega),if_neg (by omega),if_pos (by omega)]
   ·have:r'≠0:=fun h=>hs0 (hs.2 h);rw[if_neg (by omega),if_neg (by omega),if_neg (by omega),if_neg (by omega)]
  ·have h1:D*Q+D≤D*r:=by rw[← Nat.mul_succ];exact Nat.mul_le_mul_left D h
   rw[if_neg (by omega),if_neg (by omega),if_neg (by omega),if_neg (by omega)]
theorem ZnG (A d j:Nat):zt (stk A d % 2^(j+2)) (2^(j+2))=zt (A % 2^(d+(j+1))) (2^(d+(j+1))):=by
 have hD:0<2^d:=Nat.pow_pos (by omega);have hQ:0<2^j:=Nat.pow_pos (by omega);have eP:2^(j+1+1)=4*2^j:=by rw[Nat.pow_succ,Nat.pow_succ];omega
 have eP2:2^(d+(j+1))=2*(2^d*2^j):=by rw[Nat.pow_add,Nat.pow_succ,← Nat.mul_assoc];omega
 have e1:=ZkF A d (j+1);have e2:=ZkG A d (j+1);rw[show j+2=(j+1)+1 by omega,e1,e2,eP,eP2];exact ZkH (Nat.mod_lt A hD) hQ (ZrX A d) (by split<;>omega)
theorem Zv6 (m:Int) (neg:Bool) (A d j:Nat):rq m neg (stk A d) (j+2)=rq m neg A (d+(j+1)):=by
 unfold rq;rw[ZnG,show j+2=(j+1)+1 by omega,ZkE]
theorem ZkI (m:Int) (neg:Bool) (A d:Nat) {F e:Int}(h:F+d+1≤e):toQ m neg (stk A d) (F+d-1) e=toQ m neg A F e:=by
 obtain⟨j,hj⟩:∃ j:Nat,e=F+d+1+j:=⟨(e-(F+d+1)).toNat,by omega⟩;unfold toQ;rw[if_neg (by omega),if_neg (by omega),show (e-(F+d-1)).toNat=j+2 by omega,show (e-F).toNat=d+(j+1) by omega,Zv6]
theorem ZrY (A d:Nat) {F e:Int}(h:F+d+1≤e):toL (stk A d) (F+d-1) e=toL A F e:=by
 obtain⟨j,hj⟩:∃ j:Nat,e=F+d+1+j:=⟨(e-(F+d+1)).toNat,by omega⟩;unfold toL;rw[if_neg (by omega),if_neg (by omega),show (e-(F+d-1)).toNat=j+1+1 by omega,show (e-F).toNat=d+(j+1) by omega];congr 1;simp only[ne_eq,eq_iff_iff];exact not_congr (ZnF A d (j+1))
theorem ZkJ {A d:Nat}(h:A/2^d≠0):bitLen (stk A d)=bitLen (A/2^d)+1:=by
 have e:stk A d/2^1=A/2^d:=by
  have:=ZkE A d 0;simpa using this
 rw[bitLen_shift (stk A d) 1 (by rw[e];exact h),e];omega
theorem ZrZ {A d:Nat}{F:Int}(h:A/2^d≠0):lgN (stk A d) (F+d-1)=lgN A F:=by
 have e:=bitLen_shift A d h;unfold lgN;rw[ZkJ h];omega
theorem ZfB {m:Int}{neg:Bool}{A d:Nat}{F:Int}(h:A % 2^d=0∨54≤bitLen (A/2^d)):rnP m neg (stk A d) (F+d-1)=rnP m neg A F∧rnF m neg (stk A d) (F+d-1)=rnF m neg A F:=by
 by_cases h0:A % 2^d=0
 ·have e1:stk A d=A/2^d*2^1:=by unfold stk;rw[if_pos h0];omega
  have e2:A=A/2^d*2^d:=by
   have:=Nat.div_add_mod A (2^d);rw[h0,Nat.mul_comm] at this;omega
  have p1:=ZaA m neg (A/2^d) 1 (F+d);have p2:=ZaA m neg (A/2^d) d (F+d);have f1:=ZaB m neg (A/2^d) 1 (F+d);have f2:=ZaB m neg (A/2^d) d (F+d);rw[show F+(d:Int)-((1:Nat):Int)=F+d-1 by omega,← e1] at p1 f1;rw[show F+(d:Int)-(d:Int)=F by omega,← e2] at p2 f2;exact⟨by rw[p1,p2],by rw[f1,f2]⟩
 ·have hb:54≤bitLen (A/2^d):=by exact h.resolve_left h0
  have hq:A/2^d≠0:=fun h=>by rw[h] at hb;simp [bitLen] at hb
  have hA:A≠0:=fun h=>h0 (by rw[h];simp);have hs:stk A d≠0:=by unfold stk;omega
  have hl:=ZrZ (F:=F) hq;have hlw:zr (stk A d) (F+d-1)=zr A F:=by unfold zr;rw[hl]
  have hlg:lgN A F=F+d+bitLen (A/2^d)-1:=by rw[← hl];unfold lgN;rw[ZkJ hq];omega
  have hge:F+d+1≤zr A F:=by unfold zr;split<;>omega
  have hp:p0 m neg (stk A d) (F+d-1)=p0 m neg A F:=by unfold p0;rw[hlw,ZkI m neg A d hge]
  have ht:ZdG m neg (stk A d) (F+d-1)=ZdG m neg A F:=by
   unfold ZdG;rw[hl];by_cases hn:lgN A F= -1023
   ·rw[if_pos hn,if_pos hn,ZkI m neg A d (by omega)]
   ·rw[if_neg hn,if_neg hn]
  unfold rnP rnF;rw[if_neg hs,if_neg hA,if_neg hs,if_neg hA,hp,hlw,ZrY A d hge,ht];exact⟨rfl,rfl⟩
theorem dm {A D q r:Nat}(h:A=D*q+r) (hr:r<D):A/D=q∧A % D=r:=by
 subst h;constructor
 ·rw[Nat.mul_add_div (by omega),Nat.div_eq_of_lt hr,Nat.add_zero]
 ·rw[Nat.mul_add_mod,Nat.mod_eq_of_lt hr]
def bN (b:Bool):Nat:=match b with | true=>1 | false=>0
theorem ZkK {A d q r:Nat}(h:A=2^d*q+r) (hr:r<2^d):2*q+bN (decide (r≠0))=stk A d∧A/2^d=q∧A % 2^d=r:=by
 obtain⟨h1,h2⟩:=dm h hr;refine⟨?_,h1,h2⟩;unfold stk;rw[h1,h2];by_cases h0:r=0
 ·rw[if_pos h0];simp [bN,h0]
 ·rw[if_neg h0];simp [bN,h0]
def sgI (n:Bool) (A:Nat):Int:=match n with | true=> -(A:Int) | false=>(A:Int)
def sgS (m:Int) (nx ny:Bool) (S:Int):Bool:=if S=0 then (if nx=ny then nx else decide (m=4)) else decide (S<0)
def exN (m:Int) (nx ny:Bool) (p q:Nat):Bool:=if nx=ny then nx else if q<p then nx else if p<q then ny else decide (m=4)
def exQ (nx ny:Bool) (p:Nat) (bx:Bool) (q:Nat) (b:Bool):Nat:=if nx=ny then p+q else if q<p then p-q-bN b else if p<q then q-p-bN bx else 0
def exB (nx ny:Bool) (p:Nat) (bx:Bool) (q:Nat) (b:Bool):Bool:=if nx=ny then bx || b else if q<p then bx || b else if p<q then b || bx else false
def Far (p r q s K L:Nat):Prop:=r=0∨(s=0∧K≤q∧p<L)
theorem Zqd {K:Nat}(h54:2^53≤K) {d Ax Ay p r q s:Nat}(hx:Ax=2^d*p+r) (hy:Ay=2^d*q+s) (hs:s<2^d) (hr:r=0) (hlt:q<p) (hK:s=0∨K+q+1≤p):
  Ay<Ax∧2*(p-q-bN (decide (s≠0)))+bN (decide (s≠0))=stk (Ax-Ay) d∧((Ax-Ay) % 2^d=0∨54≤bitLen ((Ax-Ay)/2^d)):=by
 have hm:2^d*q+2^d≤2^d*p:=by rw[← Nat.mul_succ];exact Nat.mul_le_mul_left _ hlt
 refine⟨by omega,?_⟩;by_cases h0:s=0
 ·have e:Ax-Ay=2^d*(p-q)+0:=by rw[Nat.mul_sub];omega
  obtain⟨a,b,c⟩:=ZkK e (Nat.pow_pos (by omega));rw[← a];refine⟨?_,.inl c⟩;simp [h0,bN]
 ·have e:Ax-Ay=2^d*(p-q-1)+(2^d-s):=by
   rw[Nat.mul_sub,Nat.mul_sub,Nat.mul_one];omega
  obtain⟨a,b,c⟩:=ZkK e (by omega);have h1:decide (2^d-s≠0)=true:=Xa (by omega);have h2:decide (s≠0)=true:=Xa h0;rw[h1] at a;rw[← a,h2];refine⟨rfl,.inr ?_⟩;rw[b];exact Zhe (k:=53) (by rcases hK with h | h<;>omega)
theorem Zsa {K L:Nat}(hKL:2^53+L+1≤K) {d Ax Ay p r q s:Nat}(hx:Ax=2^d*p+r) (hr:r<2^d) (hy:Ay=2^d*q+s) (hs:s<2^d) (h1:Far p r q s K L) (h2:Far q s p r K L) (m:Int) (nx ny:Bool):
  2*exQ nx ny p (decide (r≠0)) q (decide (s≠0))+bN (exB nx ny p (decide (r≠0)) q (decide (s≠0)))=stk (sgI nx Ax+sgI ny Ay).natAbs d
  ∧((sgI nx Ax+sgI ny Ay).natAbs % 2^d=0∨54≤bitLen ((sgI nx Ax+sgI ny Ay).natAbs/2^d))
  ∧exN m nx ny p q=sgS m nx ny (sgI nx Ax+sgI ny Ay):=by
 unfold Far at h1 h2;by_cases hn:nx=ny
 ·have ha:(sgI nx Ax+sgI ny Ay).natAbs=Ax+Ay:=by subst hn;cases nx<;>simp only[sgI]<;>omega
  have hsg:nx=sgS m nx ny (sgI nx Ax+sgI ny Ay):=by
   unfold sgS;split
   ·rfl
   ·rename_i h0;subst hn;cases nx<;>simp only[sgI] at* <;>symm
    ·exact Xb (by omega)
    ·exact Xa (by omega)
  rw[ha];unfold exQ exB exN;rw[if_pos hn,if_pos hn,if_pos hn];have e:Ax+Ay=2^d*(p+q)+(r+s):=by rw[Nat.mul_add];omega
  obtain⟨a,b,c⟩:=ZkK e (by omega);refine⟨?_,?_,hsg⟩
  ·rw[← a];congr 2;by_cases r0:r=0<;>by_cases s0:s=0<;>simp [r0,s0]
  ·rw[b,c];by_cases r0:r=0
   ·by_cases s0:s=0
    ·left;omega
    ·right;exact Zhe (k:=53) (by omega)
   ·right;exact Zhe (k:=53) (by omega)
 ·unfold exQ exB exN;rw[if_neg hn,if_neg hn,if_neg hn];have hab:(sgI nx Ax+sgI ny Ay).natAbs=if Ay<Ax then Ax-Ay else Ay-Ax:=by
   cases nx<;>cases ny<;>simp only[sgI,not_true_eq_false,reduceCtorEq,not_false_eq_true] at* <;>split<;>omega
  have hz:(sgI nx Ax+sgI ny Ay=0)↔Ax=Ay:=by
   cases nx<;>cases ny<;>simp only[sgI,not_true_eq_false,reduceCtorEq,not_false_eq_true] at* <;>omega
  have hneg:Ax≠Ay→sgS m nx ny (sgI nx Ax+sgI ny Ay)=if Ay<Ax then nx else ny:=fun h=>by
   unfold sgS;rw[if_neg (fun e=>h (hz.1 e))];cases nx<;>cases ny<;>simp only[sgI,not_true_eq_false,reduceCtorEq,not_false_eq_true] at* <;>split<;>first | exact Xa (by omega) | exact Xb (by omega)
  rw[hab];rcases Nat.lt_trichotomy p q with h | h | h
  ·have s0:s=0:=by omega
   obtain⟨a,b,c⟩:=Zqd (K:=2^53) (Nat.le_refl _) hy hx hr s0 h (by omega);rw[if_neg (by omega),if_pos h,if_neg (by omega),if_pos h,if_neg (by omega),if_neg (by omega),if_pos h];have e0:decide (s≠0)=false:=Xb (by omega);rw[hneg (by omega),if_neg (by omega),e0,Bool.false_or];exact⟨b,c,rfl⟩
  ·subst h;have r0:r=0:=by omega
   have s0:s=0:=by omega
   have he:Ax=Ay:=by omega
   rw[if_neg (Nat.lt_irrefl _),if_neg (Nat.lt_irrefl _),if_neg (Nat.lt_irrefl _),if_neg (Nat.lt_irrefl _),if_neg (by omega),if_neg (Nat.lt_irrefl _),if_neg (Nat.lt_irrefl _)];refine⟨?_,?_,?_⟩
   ·rw[he];simp [stk,bN]
   ·left;rw[he];simp
   ·unfold sgS;rw[if_pos (hz.2 he),if_neg hn]
  ·have r0:r=0:=by omega
   obtain⟨a,b,c⟩:=Zqd (K:=2^53) (Nat.le_refl _) hx hy hs r0 h (by omega);rw[if_pos h,if_pos h,if_pos h,if_pos a];have e0:decide (r≠0)=false:=Xb (by omega);rw[hneg (by omega),if_pos a,e0,Bool.false_or];exact⟨b,c,rfl⟩
def iuQ (E u:Int) (X:Nat):Nat:=if u≤E then X*2^(E-u).toNat else X/2^(u-E).toNat
def iuB (E u:Int) (X:Nat):Bool:=if u≤E then false else decide (X % 2^(u-E).toNat≠0)
def szF (F E:Int) (X:Nat):Nat:=X*2^(E-F).toNat
theorem Zv7 {F E u:Int}(h1:F≤u) (h2:F≤E) (X:Nat):iuQ E u X=szF F E X/2^(u-F).toNat∧iuB E u X=decide (szF F E X % 2^(u-F).toNat≠0):=by
 unfold iuQ iuB szF;by_cases h:u≤E
 ·rw[if_pos h,if_pos h];have e:X*2^(E-F).toNat=X*2^(E-u).toNat*2^(u-F).toNat:=by rw[Nat.mul_assoc,← Nat.pow_add];congr 2;omega
  rw[e,Nat.mul_div_cancel _ (Nat.pow_pos (by omega)),Nat.mul_mod_left];simp
 ·rw[if_neg h,if_neg h];have e:(u-F).toNat=(u-E).toNat+(E-F).toNat:=by omega
  have hp:0<2^(E-F).toNat:=Nat.pow_pos (by omega);rw[e,Nat.pow_add,Nat.mul_div_mul_right _ _ hp,Nat.mul_mod_mul_right];refine⟨rfl,?_⟩;congr 1;rw[ne_eq,ne_eq,Nat.mul_eq_zero];simp only[eq_iff_iff];omega
def ZcG (E:Int) (X:Nat):Int:=if X=0 then -100000 else E+(bitLen X:Nat)
def unN (Ex:Int) (X:Nat) (Ey:Int) (Y:Nat):Int:=max (ZcG Ex X) (ZcG Ey Y)-254
theorem Zgr (Ex:Int) (X:Nat) (Ey:Int) (Y:Nat):unN Ex X Ey Y=unN Ey Y Ex X:=by unfold unN;omega
def May (E:Int) (X:Nat):Prop:=X<2^128∧ -100000≤E∧E≤100000
theorem Zhp {Ex Ey:Int}{X Y:Nat}:iuQ Ex (unN Ex X Ey Y) X<2^254:=by
 by_cases h0:X=0
 ·subst h0;unfold iuQ;split<;>simp
 ·have hb:=(bitLen_spec X).1;have ht:ZcG Ex X=Ex+(bitLen X:Nat):=by unfold ZcG;rw[if_neg h0]
  have hu:Ex+(bitLen X:Nat)-254≤unN Ex X Ey Y:=by unfold unN;omega
  unfold iuQ;by_cases h:unN Ex X Ey Y≤Ex
  ·rw[if_pos h];have hp:0<2^(Ex-unN Ex X Ey Y).toNat:=Nat.pow_pos (by omega);have h3:=Nat.mul_lt_mul_of_pos_right hb hp;rw[← Nat.pow_add] at h3;exact Nat.lt_of_lt_of_le h3 (Nat.pow_le_pow_right (by omega) (by omega))
  ·rw[if_neg h];refine Nat.div_lt_of_lt_mul ?_;rw[← Nat.pow_add];exact Nat.lt_of_lt_of_le hb (Nat.pow_le_pow_right (by omega) (by omega))
theorem Zqe {Ex Ey:Int}{X Y:Nat}(hX:May Ex X) (hY:May Ey Y) (h:iuB Ey (unN Ex X Ey Y) Y=true):iuB Ex (unN Ex X Ey Y) X=false∧2^253≤iuQ Ex (unN Ex X Ey Y) X∧iuQ Ey (unN Ex X Ey Y) Y<2^128:=by
 obtain⟨x1,x2,x3⟩:=hX;obtain⟨y1,y2,y3⟩:=hY;unfold iuB at h;have hu:¬ unN Ex X Ey Y≤Ey:=fun hc=>by rw[if_pos hc] at h;cases h
 rw[if_neg hu] at h;have hY0:Y≠0:=fun h0=>by rw[h0] at h;simp at h
 have lY:bitLen Y≤128:=ZaX y1;have lX:bitLen X≤128:=ZaX x1;have pY:=Zbo hY0;have tY:ZcG Ey Y=Ey+(bitLen Y:Nat):=by unfold ZcG;rw[if_neg hY0]
 have hX0:X≠0:=fun h0=>by
  apply hu;unfold unN;rw[tY];unfold ZcG;rw[if_pos h0];omega
 have tX:ZcG Ex X=Ex+(bitLen X:Nat):=by unfold ZcG;rw[if_neg hX0]
 have eu:unN Ex X Ey Y=Ex+(bitLen X:Nat)-254:=by unfold unN at hu ⊢;omega
 have hle:unN Ex X Ey Y≤Ex:=by omega
 refine⟨by unfold iuB;rw[if_pos hle],?_,?_⟩
 ·unfold iuQ;rw[if_pos hle];have h2:=(bitLen_spec X).2 hX0;have pX:=Zbo hX0;have h3:=Nat.mul_le_mul_right (2^(Ex-unN Ex X Ey Y).toNat) h2;rw[← Nat.pow_add] at h3;exact Nat.le_trans (Nat.pow_le_pow_right (by omega) (by omega)) h3
 ·unfold iuQ;rw[if_neg hu];exact Nat.lt_of_le_of_lt (Nat.div_le_self _ _) y1
def smI (F:Int) (nx:Bool) (Ex:Int) (X:Nat) (ny:Bool) (Ey:Int) (Y:Nat):Int:=sgI nx (szF F Ex X)+sgI ny (szF F Ey Y)
def xuQ (nx:Bool) (Ex:Int) (X:Nat) (ny:Bool) (Ey:Int) (Y:Nat):Nat:=exQ nx ny (iuQ Ex (unN Ex X Ey Y) X) (iuB Ex (unN Ex X Ey Y) X) (iuQ Ey (unN Ex X Ey Y) Y) (iuB Ey (unN Ex X Ey Y) Y)
def xuB (nx:Bool) (Ex:Int) (X:Nat) (ny:Bool) (Ey:Int) (Y:Nat):Bool:=exB nx ny (iuQ Ex (unN Ex X Ey Y) X) (iuB Ex (unN Ex X Ey Y) X) (iuQ Ey (unN Ex X Ey Y) Y) (iuB Ey (unN Ex X Ey Y) Y)
def xuN (m:Int) (nx:Bool) (Ex:Int) (X:Nat) (ny:Bool) (Ey:Int) (Y:Nat):Bool:=exN m nx ny (iuQ Ex (unN Ex X Ey Y) X) (iuQ Ey (unN Ex X Ey Y) Y)
theorem Zv8 (nx:Bool) (Ex:Int) (X:Nat) (ny:Bool) (Ey:Int) (Y:Nat):xuQ nx Ex X ny Ey Y<2^255:=by
 have h1:=Zhp (Ex:=Ex) (Ey:=Ey) (X:=X) (Y:=Y);have h2:=Zhp (Ex:=Ey) (Ey:=Ex) (X:=Y) (Y:=X);rw[Zgr] at h2;have e:(2:Nat)^255=2*2^254:=by rw[show 255=254+1 from rfl,Nat.pow_succ,Nat.mul_comm]
 unfold xuQ exQ;rw[e];generalize (2:Nat)^254=P at*;split
 ·omega
 ·split
  ·omega
  ·split<;>omega
theorem Zv9 {F Ex Ey:Int}{X Y:Nat}(hX:May Ex X) (hY:May Ey Y) (hF:F≤unN Ex X Ey Y) (hx:F≤Ex) (hy:F≤Ey) (m:Int) (nx ny:Bool):
  2*xuQ nx Ex X ny Ey Y+bN (xuB nx Ex X ny Ey Y)=stk (smI F nx Ex X ny Ey Y).natAbs (unN Ex X Ey Y-F).toNat
  ∧((smI F nx Ex X ny Ey Y).natAbs % 2^(unN Ex X Ey Y-F).toNat=0∨54≤bitLen ((smI F nx Ex X ny Ey Y).natAbs/2^(unN Ex X Ey Y-F).toNat))
  ∧xuN m nx Ex X ny Ey Y=sgS m nx ny (smI F nx Ex X ny Ey Y):=by
 have fx:=Zqe hY hX (Ex:=Ey) (Ey:=Ex) (X:=Y) (Y:=X);have fy:=Zqe hX hY (Ex:=Ex) (Ey:=Ey) (X:=X) (Y:=Y);rw[Zgr Ey Y Ex X] at fx;obtain⟨ax,bx⟩:=Zv7 hF hx X;obtain⟨ay,by'⟩:=Zv7 hF hy Y;unfold xuQ xuB xuN smI;rw[ax,ay,bx,by'] at fx fy;rw[ax,ay,bx,by'];have hD:0<2^(unN Ex X Ey Y-F).toNat:=Nat.pow_pos (by omega);refine Zsa (K:=2^253) (L:=2^128) (by decide) (Nat.div_add_mod _ _).symm (Nat.mod_lt _ hD) (Nat.div_add_mod _ _).symm (Nat.mod_lt _ hD) ?_ ?_ m nx ny
 ·by_cases h0:szF F Ex X % 2^(unN Ex X Ey Y-F).toNat=0
  ·exact .inl h0
  ·obtain⟨p1,p2,p3⟩:=fx (Xa h0);exact .inr ⟨by simpa using p1,p2,p3⟩
 ·by_cases h0:szF F Ey Y % 2^(unN Ex X Ey Y-F).toNat=0
  ·exact .inl h0
  ·obtain⟨p1,p2,p3⟩:=fy (Xa h0);exact .inr ⟨by simpa using p1,p2,p3⟩
end Go.Rn
