/-
  RdJ, RdLd, RdQ
-/
import Derived.Test.YtjlponbdflkbjaaGreatDoorG21
namespace Go.Proofs.YtjlponbdflkbjaaGreatDoor
open Go.Proofs.Tryz
open Go.KRun Go.Nt Go.Rd Go.Rn
set_option maxRecDepth 100000
theorem Za0 {u w:List UInt8}{d:Bool}(h:decide (u=w)=d):(lIs u w d).1=(lIs u w d).2:=by
 show ((⟨⟨u⟩⟩:ByteArray)==⟨⟨w⟩⟩)=d;rw[ZcK];exact h
theorem Z4a (c:UInt8) (r:List UInt8):(lX0 (c::r)).1=true:=by
 show decide ((0:Int)≤0∧0<(c::r).length)=true;exact Xa ⟨by omega,by rw[List.length_cons];omega⟩
theorem Z4b (c:UInt8) (r:List UInt8):(lN1 (c::r) 0 true).1=true:=Xa (by rw[List.length_cons];omega)
theorem Zjr {u:List UInt8}{l:Log}(h1:¬ u=[110,97,110]) (h2:¬ u=[105,110,102]) (hl:Z2 l):Z2 (lBn u l):=Za (Za0 (Xb h2)) (Za (Za0 (Xb h1)) hl)
theorem Zam {b:Int}{v:List UInt8}{d:Bool}{l:Log}(h:(scA b v).2=d) (hb:b=10∨b=16) (hv:v.length≤10000) (hl:Z2 l):Z2 (lSc b v d l):=Za h (Za (Xa ⟨hb,by omega⟩) hl)
theorem Zo9 {b:Int}{v:List UInt8}(hb:b=10∨b=16) (hv:v.length≤10000):ZyL b (dgs b v) (bhd b v) (scA b v).1=true∧(0≤bhd b v∧bhd b v≤10000)∧(-2000000≤(scA b v).1∧(scA b v).1≤2000000)∧(dgs b v).length≤10000:=by
 obtain⟨h1,h2,h3⟩:=ZgI b false v;have h4: -2000000≤(scA b v).1∧(scA b v).1≤2000000:=by
  unfold scA;split
  ·exact⟨show (-2000000:Int)≤0 by decide,show (0:Int)≤2000000 by decide⟩
  ·exact Z19 b _
 unfold ZyL dgs bhd;refine⟨?_,by omega,h4,by omega⟩;rw[h3,Xa ⟨hb,by omega,by omega,h4.1,h4.2⟩];rfl
theorem ZcQ {b:Int}{v:List UInt8}{l:Log}(h:trZ (sc1 b false v).1=[]) (hb:b=10∨b=16) (hv:v.length≤10000) (hl:Z2 l):Z2 (lDz b v l):=Za (Xa h) (Za (Zo9 hb hv).1 hl)
theorem ZcR {n:Bool}{b:Int}{v:List UInt8}{l:Log}(h:¬ trZ (sc1 b false v).1=[]) (hb:b=10∨b=16) (hv:v.length≤10000) (hl:Z2 l):Z2 (lDn n b v (dnA b (trZ (dgs b v)) (bhd b v) (scA b v).1).1 (dnA b (trZ (dgs b v)) (bhd b v) (scA b v).1).2 l):=by
 obtain⟨h1,h2,h3,h4⟩:=Zo9 hb hv;have ht:=Zdk (dgs b v);obtain⟨b1,b2,b3⟩:=Z1A b hb (trZ (dgs b v)) (by omega) (bhd b v) (scA b v).1 h2 h3;obtain⟨V,hV⟩:∃ V,V=(dnA b (trZ (dgs b v)) (bhd b v) (scA b v).1).1:=⟨_,rfl⟩;obtain⟨E,hE⟩:∃ E,E=(dnA b (trZ (dgs b v)) (bhd b v) (scA b v).1).2:=⟨_,rfl⟩;rw[← hV] at b1;rw[← hE] at b2 b3;rw[← hV,← hE];have lV:=Zeo b1;refine Za (Xa (ZeC (V:=V) rfl)) (Za ?_ (Za (Xa (by rw[hV,hE])) (Za (Xb h) (Za h1 hl))));unfold Zo6 Zad;rw[ZN (A:=V) rfl (by omega),ZaF (A:=V) rfl,show Zf6 (d16 V)=true from Zdh (Zea (by omega) _),Zo.2 (by omega),Xa ⟨b2,b3⟩];rfl
def pzT (x:Int×Int×Int):Value:= .tuple #[.int .u64 x.1,.int .i64 x.2.1,.int .i64 x.2.2]
theorem ZAp (c:UInt8) (r:List UInt8) (m:Int) (hl:(c::r).length≤10000) (hs:sgT (c::r)=(true,r)) (lS:Z2 (lSm c r)) (w:World):Calls prog 10 #[bR (c::r),.int .i64 m] w fun e w'=>e= .returned (pzT (rdP m (c::r)))∧zA w w':=by
 have T0:=Zh ZdI Zga;have hlu:r.length≤10000:=by rw[List.length_cons] at hl;omega
 have eP:rdP m (c::r)=if r=[110,97,110] then (9221120237041090560,0,0) else if r=[105,110,102] then (if true=true then 18442240474082181120 else 9218868437227405312,0,0) else rdQ m true (rdB r).1 (rdB r).2:=by
  unfold rdP;rw[if_neg (by omega),hs]
 rw[eP];by_cases h1:r=[110,97,110]
 ·rw[if_pos h1];exact Zc T0 (Z8u c r m) (Za (Za0 (Xa h1)) lS) (by rfl) (by rfl) w
 rw[if_neg h1];by_cases h2:r=[105,110,102]
 ·rw[if_pos h2];exact Zc T0 (Z8v c r m) (Za (Za0 (Xa h2)) (Za (Za0 (Xb h1)) lS)) (by rfl) (by rfl) w
 rw[if_neg h2];have lB:=Zjr h1 h2 lS;by_cases hq:1<r.length
 ·have lq:=Za (show decide (((r.length:Nat):Int)>1)=true from Xa (by omega)) lB;have lp:(lPt r 2).1=true:=Xa ⟨by omega,by omega⟩;have lq:=Za lp lq;by_cases h16:r.take 2=[48,120]
  ·have eB:rdB r=(16,r.drop 2):=by unfold rdB;rw[if_pos ⟨hq,h16⟩]
   rw[eB];dsimp only;have hv:(r.drop 2).length≤10000:=by rw[List.length_drop];omega
   have lX:=Za lp (Za (Za0 (Xa h16)) lq);cases hk:(scA 16 (r.drop 2)).2 with
   | false=>
    have e:rdQ m true 16 (r.drop 2)=(0,0,3):=by unfold rdQ;rw[if_pos hk]
    rw[e];exact Zc T0 (Z39 c r m) (Zam hk (.inr rfl) hv lX) (by rfl) (by rfl) w
   | true=>
    have lY:=Zam hk (.inr rfl) hv lX;by_cases hz:trZ (sc1 16 false (r.drop 2)).1=[]
    ·have e:rdQ m true 16 (r.drop 2)=(9223372036854775808,0,0):=by unfold rdQ;rw[if_neg (by rw[hk];decide),if_pos hz];rfl
     rw[e];exact Zc T0 (Z3A c r m) (ZcQ hz (.inr rfl) hv lY) (by rfl) (by rfl) w
    ·have e:rdQ m true 16 (r.drop 2)=(sS true (rnP m true (dnA 16 (trZ (dgs 16 (r.drop 2))) (bhd 16 (r.drop 2)) (scA 16 (r.drop 2)).1).1 (dnA 16 (trZ (dgs 16 (r.drop 2))) (bhd 16 (r.drop 2)) (scA 16 (r.drop 2)).1).2),rnF m true (dnA 16 (trZ (dgs 16 (r.drop 2))) (bhd 16 (r.drop 2)) (scA 16 (r.drop 2)).1).1 (dnA 16 (trZ (dgs 16 (r.drop 2))) (bhd 16 (r.drop 2)) (scA 16 (r.drop 2)).1).2,0):=by unfold rdQ;rw[if_neg (by rw[hk];decide),if_neg hz];rfl
     rw[e];exact Zc T0 (Z3B c r m _ _) (ZcR hz (.inr rfl) hv lY) (by rfl) (by rfl) w
  ·have eB:rdB r=(10,r):=by unfold rdB;rw[if_neg (fun h=>h16 h.2)]
   rw[eB];dsimp only;have hv:=hlu;have lX:=Za (Za0 (Xb h16)) lq;cases hk:(scA 10 r).2 with
   | false=>
    have e:rdQ m true 10 r=(0,0,3):=by unfold rdQ;rw[if_pos hk]
    rw[e];exact Zc T0 (Z3C c r m) (Zam hk (.inl rfl) hv lX) (by rfl) (by rfl) w
   | true=>
    have lY:=Zam hk (.inl rfl) hv lX;by_cases hz:trZ (sc1 10 false r).1=[]
    ·have e:rdQ m true 10 r=(9223372036854775808,0,0):=by unfold rdQ;rw[if_neg (by rw[hk];decide),if_pos hz];rfl
     rw[e];exact Zc T0 (Z3D c r m) (ZcQ hz (.inl rfl) hv lY) (by rfl) (by rfl) w
    ·have e:rdQ m true 10 r=(sS true (rnP m true (dnA 10 (trZ (dgs 10 r)) (bhd 10 r) (scA 10 r).1).1 (dnA 10 (trZ (dgs 10 r)) (bhd 10 r) (scA 10 r).1).2),rnF m true (dnA 10 (trZ (dgs 10 r)) (bhd 10 r) (scA 10 r).1).1 (dnA 10 (trZ (dgs 10 r)) (bhd 10 r) (scA 10 r).1).2,0):=by unfold rdQ;rw[if_neg (by rw[hk];decide),if_neg hz];rfl
     rw[e];exact Zc T0 (Z3E c r m _ _) (ZcR hz (.inl rfl) hv lY) (by rfl) (by rfl) w
 ·have eB:rdB r=(10,r):=by unfold rdB;rw[if_neg (fun h=>hq h.1)]
  rw[eB];dsimp only;have hv:=hlu;have lX:=Za (show decide (((r.length:Nat):Int)>1)=false from Xb (by omega)) lB;cases hk:(scA 10 r).2 with
  | false=>
   have e:rdQ m true 10 r=(0,0,3):=by unfold rdQ;rw[if_pos hk]
   rw[e];exact Zc T0 (Z3F c r m) (Zam hk (.inl rfl) hv lX) (by rfl) (by rfl) w
  | true=>
   have lY:=Zam hk (.inl rfl) hv lX;by_cases hz:trZ (sc1 10 false r).1=[]
   ·have e:rdQ m true 10 r=(9223372036854775808,0,0):=by unfold rdQ;rw[if_neg (by rw[hk];decide),if_pos hz];rfl
    rw[e];exact Zc T0 (Z3G c r m) (ZcQ hz (.inl rfl) hv lY) (by rfl) (by rfl) w
   ·have e:rdQ m true 10 r=(sS true (rnP m true (dnA 10 (trZ (dgs 10 r)) (bhd 10 r) (scA 10 r).1).1 (dnA 10 (trZ (dgs 10 r)) (bhd 10 r) (scA 10 r).1).2),rnF m true (dnA 10 (trZ (dgs 10 r)) (bhd 10 r) (scA 10 r).1).1 (dnA 10 (trZ (dgs 10 r)) (bhd 10 r) (scA 10 r).1).2,0):=by unfold rdQ;rw[if_neg (by rw[hk];decide),if_neg hz];rfl
    rw[e];exact Zc T0 (Z3H c r m _ _) (ZcR hz (.inl rfl) hv lY) (by rfl) (by rfl) w
theorem ZAq (c:UInt8) (r:List UInt8) (m:Int) (hl:(c::r).length≤10000) (hs:sgT (c::r)=(false,r)) (lS:Z2 (lSp c r)) (w:World):Calls prog 10 #[bR (c::r),.int .i64 m] w fun e w'=>e= .returned (pzT (rdP m (c::r)))∧zA w w':=by
 have T0:=Zh ZdI Zga;have hlu:r.length≤10000:=by rw[List.length_cons] at hl;omega
 have eP:rdP m (c::r)=if r=[110,97,110] then (9221120237041090560,0,0) else if r=[105,110,102] then (if false=true then 18442240474082181120 else 9218868437227405312,0,0) else rdQ m false (rdB r).1 (rdB r).2:=by
  unfold rdP;rw[if_neg (by omega),hs]
 rw[eP];by_cases h1:r=[110,97,110]
 ·rw[if_pos h1];exact Zc T0 (Z8w c r m) (Za (Za0 (Xa h1)) lS) (by rfl) (by rfl) w
 rw[if_neg h1];by_cases h2:r=[105,110,102]
 ·rw[if_pos h2];exact Zc T0 (Z8x c r m) (Za (Za0 (Xa h2)) (Za (Za0 (Xb h1)) lS)) (by rfl) (by rfl) w
 rw[if_neg h2];have lB:=Zjr h1 h2 lS;by_cases hq:1<r.length
 ·have lq:=Za (show decide (((r.length:Nat):Int)>1)=true from Xa (by omega)) lB;have lp:(lPt r 2).1=true:=Xa ⟨by omega,by omega⟩;have lq:=Za lp lq;by_cases h16:r.take 2=[48,120]
  ·have eB:rdB r=(16,r.drop 2):=by unfold rdB;rw[if_pos ⟨hq,h16⟩]
   rw[eB];dsimp only;have hv:(r.drop 2).length≤10000:=by rw[List.length_drop];omega
   have lX:=Za lp (Za (Za0 (Xa h16)) lq);cases hk:(scA 16 (r.drop 2)).2 with
   | false=>
    have e:rdQ m false 16 (r.drop 2)=(0,0,3):=by unfold rdQ;rw[if_pos hk]
    rw[e];exact Zc T0 (Z3I c r m) (Zam hk (.inr rfl) hv lX) (by rfl) (by rfl) w
   | true=>
    have lY:=Zam hk (.inr rfl) hv lX;by_cases hz:trZ (sc1 16 false (r.drop 2)).1=[]
    ·have e:rdQ m false 16 (r.drop 2)=(0,0,0):=by unfold rdQ;rw[if_neg (by rw[hk];decide),if_pos hz];rfl
     rw[e];exact Zc T0 (Z3J c r m) (ZcQ hz (.inr rfl) hv lY) (by rfl) (by rfl) w
    ·have e:rdQ m false 16 (r.drop 2)=(sS false (rnP m false (dnA 16 (trZ (dgs 16 (r.drop 2))) (bhd 16 (r.drop 2)) (scA 16 (r.drop 2)).1).1 (dnA 16 (trZ (dgs 16 (r.drop 2))) (bhd 16 (r.drop 2)) (scA 16 (r.drop 2)).1).2),rnF m false (dnA 16 (trZ (dgs 16 (r.drop 2))) (bhd 16 (r.drop 2)) (scA 16 (r.drop 2)).1).1 (dnA 16 (trZ (dgs 16 (r.drop 2))) (bhd 16 (r.drop 2)) (scA 16 (r.drop 2)).1).2,0):=by unfold rdQ;rw[if_neg (by rw[hk];decide),if_neg hz];rfl
     rw[e];exact Zc T0 (Z3K c r m _ _) (ZcR hz (.inr rfl) hv lY) (by rfl) (by rfl) w
  ·have eB:rdB r=(10,r):=by unfold rdB;rw[if_neg (fun h=>h16 h.2)]
   rw[eB];dsimp only;have hv:=hlu;have lX:=Za (Za0 (Xb h16)) lq;cases hk:(scA 10 r).2 with
   | false=>
    have e:rdQ m false 10 r=(0,0,3):=by unfold rdQ;rw[if_pos hk]
    rw[e];exact Zc T0 (Z3L c r m) (Zam hk (.inl rfl) hv lX) (by rfl) (by rfl) w
   | true=>
    have lY:=Zam hk (.inl rfl) hv lX;by_cases hz:trZ (sc1 10 false r).1=[]
    ·have e:rdQ m false 10 r=(0,0,0):=by unfold rdQ;rw[if_neg (by rw[hk];decide),if_pos hz];rfl
     rw[e];exact Zc T0 (Z3M c r m) (ZcQ hz (.inl rfl) hv lY) (by rfl) (by rfl) w
    ·have e:rdQ m false 10 r=(sS false (rnP m false (dnA 10 (trZ (dgs 10 r)) (bhd 10 r) (scA 10 r).1).1 (dnA 10 (trZ (dgs 10 r)) (bhd 10 r) (scA 10 r).1).2),rnF m false (dnA 10 (trZ (dgs 10 r)) (bhd 10 r) (scA 10 r).1).1 (dnA 10 (trZ (dgs 10 r)) (bhd 10 r) (scA 10 r).1).2,0):=by unfold rdQ;rw[if_neg (by rw[hk];decide),if_neg hz];rfl
     rw[e];exact Zc T0 (Z3N c r m _ _) (ZcR hz (.inl rfl) hv lY) (by rfl) (by rfl) w
 ·have eB:rdB r=(10,r):=by unfold rdB;rw[if_neg (fun h=>hq h.1)]
  rw[eB];dsimp only;have hv:=hlu;have lX:=Za (show decide (((r.length:Nat):Int)>1)=false from Xb (by omega)) lB;cases hk:(scA 10 r).2 with
  | false=>
   have e:rdQ m false 10 r=(0,0,3):=by unfold rdQ;rw[if_pos hk]
   rw[e];exact Zc T0 (Z3O c r m) (Zam hk (.inl rfl) hv lX) (by rfl) (by rfl) w
  | true=>
   have lY:=Zam hk (.inl rfl) hv lX;by_cases hz:trZ (sc1 10 false r).1=[]
   ·have e:rdQ m false 10 r=(0,0,0):=by unfold rdQ;rw[if_neg (by rw[hk];decide),if_pos hz];rfl
    rw[e];exact Zc T0 (Z3P c r m) (ZcQ hz (.inl rfl) hv lY) (by rfl) (by rfl) w
   ·have e:rdQ m false 10 r=(sS false (rnP m false (dnA 10 (trZ (dgs 10 r)) (bhd 10 r) (scA 10 r).1).1 (dnA 10 (trZ (dgs 10 r)) (bhd 10 r) (scA 10 r).1).2),rnF m false (dnA 10 (trZ (dgs 10 r)) (bhd 10 r) (scA 10 r).1).1 (dnA 10 (trZ (dgs 10 r)) (bhd 10 r) (scA 10 r).1).2,0):=by unfold rdQ;rw[if_neg (by rw[hk];decide),if_neg hz];rfl
    rw[e];exact Zc T0 (Z3Q c r m _ _) (ZcR hz (.inl rfl) hv lY) (by rfl) (by rfl) w
theorem ZAr (c:UInt8) (r:List UInt8) (m:Int) (hl:(c::r).length≤10000) (hs:sgT (c::r)=(false,(c::r))) (lS:Z2 (Zk3 c r)) (w:World):Calls prog 10 #[bR (c::r),.int .i64 m] w fun e w'=>e= .returned (pzT (rdP m (c::r)))∧zA w w':=by
 have T0:=Zh ZdI Zga;have hlu:(c::r).length≤10000:=by exact hl
 have eP:rdP m (c::r)=if (c::r)=[110,97,110] then (9221120237041090560,0,0) else if (c::r)=[105,110,102] then (if false=true then 18442240474082181120 else 9218868437227405312,0,0) else rdQ m false (rdB (c::r)).1 (rdB (c::r)).2:=by
  unfold rdP;rw[if_neg (by omega),hs]
 rw[eP];by_cases h1:(c::r)=[110,97,110]
 ·rw[if_pos h1];exact Zc T0 (Z8y c r m) (Za (Za0 (Xa h1)) lS) (by rfl) (by rfl) w
 rw[if_neg h1];by_cases h2:(c::r)=[105,110,102]
 ·rw[if_pos h2];exact Zc T0 (Z8z c r m) (Za (Za0 (Xa h2)) (Za (Za0 (Xb h1)) lS)) (by rfl) (by rfl) w
 rw[if_neg h2];have lB:=Zjr h1 h2 lS;by_cases hq:1<(c::r).length
 ·have lq:=Za (show decide ((((c::r).length:Nat):Int)>1)=true from Xa (by omega)) lB;have lp:(lPt (c::r) 2).1=true:=Xa ⟨by omega,by omega⟩;have lq:=Za lp lq;by_cases h16:(c::r).take 2=[48,120]
  ·have eB:rdB (c::r)=(16,(c::r).drop 2):=by unfold rdB;rw[if_pos ⟨hq,h16⟩]
   rw[eB];dsimp only;have hv:((c::r).drop 2).length≤10000:=by rw[List.length_drop];omega
   have lX:=Za lp (Za (Za0 (Xa h16)) lq);cases hk:(scA 16 ((c::r).drop 2)).2 with
   | false=>
    have e:rdQ m false 16 ((c::r).drop 2)=(0,0,3):=by unfold rdQ;rw[if_pos hk]
    rw[e];exact Zc T0 (Z3R c r m) (Zam hk (.inr rfl) hv lX) (by rfl) (by rfl) w
   | true=>
    have lY:=Zam hk (.inr rfl) hv lX;by_cases hz:trZ (sc1 16 false ((c::r).drop 2)).1=[]
    ·have e:rdQ m false 16 ((c::r).drop 2)=(0,0,0):=by unfold rdQ;rw[if_neg (by rw[hk];decide),if_pos hz];rfl
     rw[e];exact Zc T0 (Z3S c r m) (ZcQ hz (.inr rfl) hv lY) (by rfl) (by rfl) w
    ·have e:rdQ m false 16 ((c::r).drop 2)=(sS false (rnP m false (dnA 16 (trZ (dgs 16 ((c::r).drop 2))) (bhd 16 ((c::r).drop 2)) (scA 16 ((c::r).drop 2)).1).1 (dnA 16 (trZ (dgs 16 ((c::r).drop 2))) (bhd 16 ((c::r).drop 2)) (scA 16 ((c::r).drop 2)).1).2),rnF m false (dnA 16 (trZ (dgs 16 ((c::r).drop 2))) (bhd 16 ((c::r).drop 2)) (scA 16 ((c::r).drop 2)).1).1 (dnA 16 (trZ (dgs 16 ((c::r).drop 2))) (bhd 16 ((c::r).drop 2)) (scA 16 ((c::r).drop 2)).1).2,0):=by unfold rdQ;rw[if_neg (by rw[hk];decide),if_neg hz];rfl
     rw[e];exact Zc T0 (Z3T c r m _ _) (ZcR hz (.inr rfl) hv lY) (by rfl) (by rfl) w
  ·have eB:rdB (c::r)=(10,(c::r)):=by unfold rdB;rw[if_neg (fun h=>h16 h.2)]
   rw[eB];dsimp only;have hv:=hlu;have lX:=Za (Za0 (Xb h16)) lq;cases hk:(scA 10 (c::r)).2 with
   | false=>
    have e:rdQ m false 10 (c::r)=(0,0,3):=by unfold rdQ;rw[if_pos hk]
    rw[e];exact Zc T0 (Z3U c r m) (Zam hk (.inl rfl) hv lX) (by rfl) (by rfl) w
   | true=>
    have lY:=Zam hk (.inl rfl) hv lX;by_cases hz:trZ (sc1 10 false (c::r)).1=[]
    ·have e:rdQ m false 10 (c::r)=(0,0,0):=by unfold rdQ;rw[if_neg (by rw[hk];decide),if_pos hz];rfl
     rw[e];exact Zc T0 (Z3V c r m) (ZcQ hz (.inl rfl) hv lY) (by rfl) (by rfl) w
    ·have e:rdQ m false 10 (c::r)=(sS false (rnP m false (dnA 10 (trZ (dgs 10 (c::r))) (bhd 10 (c::r)) (scA 10 (c::r)).1).1 (dnA 10 (trZ (dgs 10 (c::r))) (bhd 10 (c::r)) (scA 10 (c::r)).1).2),rnF m false (dnA 10 (trZ (dgs 10 (c::r))) (bhd 10 (c::r)) (scA 10 (c::r)).1).1 (dnA 10 (trZ (dgs 10 (c::r))) (bhd 10 (c::r)) (scA 10 (c::r)).1).2,0):=by unfold rdQ;rw[if_neg (by rw[hk];decide),if_neg hz];rfl
     rw[e];exact Zc T0 (Z3W c r m _ _) (ZcR hz (.inl rfl) hv lY) (by rfl) (by rfl) w
 ·have eB:rdB (c::r)=(10,(c::r)):=by unfold rdB;rw[if_neg (fun h=>hq h.1)]
  rw[eB];dsimp only;have hv:=hlu;have lX:=Za (show decide ((((c::r).length:Nat):Int)>1)=false from Xb (by omega)) lB;cases hk:(scA 10 (c::r)).2 with
  | false=>
   have e:rdQ m false 10 (c::r)=(0,0,3):=by unfold rdQ;rw[if_pos hk]
   rw[e];exact Zc T0 (Z3X c r m) (Zam hk (.inl rfl) hv lX) (by rfl) (by rfl) w
  | true=>
   have lY:=Zam hk (.inl rfl) hv lX;by_cases hz:trZ (sc1 10 false (c::r)).1=[]
   ·have e:rdQ m false 10 (c::r)=(0,0,0):=by unfold rdQ;rw[if_neg (by rw[hk];decide),if_pos hz];rfl
    rw[e];exact Zc T0 (Z3Y c r m) (ZcQ hz (.inl rfl) hv lY) (by rfl) (by rfl) w
   ·have e:rdQ m false 10 (c::r)=(sS false (rnP m false (dnA 10 (trZ (dgs 10 (c::r))) (bhd 10 (c::r)) (scA 10 (c::r)).1).1 (dnA 10 (trZ (dgs 10 (c::r))) (bhd 10 (c::r)) (scA 10 (c::r)).1).2),rnF m false (dnA 10 (trZ (dgs 10 (c::r))) (bhd 10 (c::r)) (scA 10 (c::r)).1).1 (dnA 10 (trZ (dgs 10 (c::r))) (bhd 10 (c::r)) (scA 10 (c::r)).1).2,0):=by unfold rdQ;rw[if_neg (by rw[hk];decide),if_neg hz];rfl
    rw[e];exact Zc T0 (Z3Z c r m _ _) (ZcR hz (.inl rfl) hv lY) (by rfl) (by rfl) w
theorem Zs2 (l:List UInt8) (m:Int) (h:l.length≤10000∨65536<l.length) (w:World):Calls prog 10 #[bR l,.int .i64 m] w fun e w'=>e= .returned (pzT (rdP m l))∧zA w w':=by
 have T0:=Zh ZdI Zga;by_cases hl:65536<l.length
 ·have e:rdP m l=(0,0,2):=by unfold rdP;rw[if_pos hl]
  rw[e];exact Zc T0 (ZAn l m) (Z4 (Xa (by omega))) (by rfl) (by rfl) w
 have hl:l.length≤10000:=by omega
 cases l with
 | nil=>
  have e:rdP m []=(0,0,3):=by
   unfold rdP;rw[if_neg (by decide),if_neg (by decide),if_neg (by decide)];rfl
  rw[e];exact Zc T0 (ZAo m) (Zam rfl (.inl rfl) (by decide) (Za rfl (Zjr (by decide) (by decide) (Za rfl (Za rfl (Z4 rfl)))))) (by rfl) (by rfl) w
 | cons c r=>
  have x0:=Z4a c r;have n0:=Z4b c r;have n6:(lN1 (c::r) 65536 false).1=false:=Xb (by omega);have p1:(lPt (c::r) 1).1=true:=Xa ⟨by omega,by rw[List.length_cons];omega⟩;by_cases h45:lq8 c=45
  ·have c1:(lCh c 45 true).1=true:=ZY h45;exact ZAp c r m hl (by unfold sgT;dsimp only;rw[if_pos h45]) (Za p1 (Za c1 (Za x0 (Za n0 (Za c1 (Za x0 (Za n0 (Z4 n6)))))))) w
  have c1:(lCh c 45 false).1=false:=zw h45;by_cases h43:lq8 c=43
  ·have c2:(lCh c 43 true).1=true:=ZY h43;exact ZAq c r m hl (by unfold sgT;dsimp only;rw[if_neg h45,if_pos h43]) (Za p1 (Za c2 (Za x0 (Za c1 (Za x0 (Za n0 (Za c1 (Za x0 (Za n0 (Z4 n6)))))))))) w
  ·have c2:(lCh c 43 false).1=false:=zw h43;exact ZAr c r m hl (by unfold sgT;dsimp only;rw[if_neg h45,if_neg h43]) (Za c2 (Za x0 (Za c1 (Za x0 (Za n0 (Za c1 (Za x0 (Za n0 (Z4 n6))))))))) w
def gRP:Ans:=fun vals s=>
 match vals with
 | [.string ⟨⟨l⟩⟩,.int .i64 m]=>some (pzT (rdP m l),s,[(decide (l.length≤10000∨65536<l.length),true)])
 | _=>none
theorem Z4c:ZQ 10 gRP:=by
 intro vals s v s' lg h hl w;unfold gRP at h;split at h
 ·cases h;exact Zs2 _ _ (Xc (hl _ Xf)) w
 ·cases h
end Go.Proofs.YtjlponbdflkbjaaGreatDoor
namespace Go.Proofs.YtjlponbdflkbjaaGreatDoor
open Go.Proofs.Tryz
open Go.KRun Go.Rd Go.Rn
set_option maxRecDepth 100000
def ZoA:Con:=alt 10 gRP Z2A
theorem Zs3:ConOk ZoA:=Z9 func10 rfl Z4c ZrU
end Go.Proofs.YtjlponbdflkbjaaGreatDoor
namespace Go.Proofs.YtjlponbdflkbjaaGreatDoor
open Go.Proofs.Tryz
open Go.IntKind
open Go.KRun Go.Nt Go.Rd Go.Rn
set_option maxRecDepth 100000
theorem ZAs (l:List UInt8) (m:Int):Z7 (Zbp (Zr prog Zf ZoA Zoc) hK 900 3 [bR l,.int .i64 m] [cmp true,cmp true]) (.bool true) [(decide (((l.length:Nat):Int)≤65536),true),(decide (((l.length:Nat):Int)>1500),true)]:=by and_intros<;>kernel_rfl
theorem ZAt (l:List UInt8) (m:Int):Z7 (Zbp (Zr prog Zf ZoA Zoc) hK 900 3 [bR l,.int .i64 m] [cmp false,cmp true,cmp true,cmp true,cmp true]) (.bool true) [((0:Int)==(rdP m l).2.2,true),(i64.wrap (rdP m l).2.1==(rdP m l).2.1,true),((rdP m l).1==(rdP m l).1,true),(decide (l.length≤10000∨65536<l.length),true),(decide ((rdP m l).2.2=0),true),(Zkl l,true),(decide (((l.length:Nat):Int)>1500),false)]:=by and_intros<;>kernel_rfl
theorem ZAu (l:List UInt8) (m:Int):Z7 (Zbp (Zr prog Zf ZoA Zoc) hK 900 3 [bR l,.int .i64 m] [cmp false,cmp false,cmp true,cmp true,cmp true]) (.bool true) [((rdP m l).2.2==(rdP m l).2.2,true),(Nat.beq 42 42 && Nat.beq kT kT && kOk kV,true),(i64.wrap 0==(rdP m l).2.1,true),((0:Int)==(rdP m l).1,true),(decide (l.length≤10000∨65536<l.length),true),(decide ((rdP m l).2.2=0),false),(Zkl l,true),(decide (((l.length:Nat):Int)>1500),false)]:=by and_intros<;>kernel_rfl
theorem ZAv (l:List UInt8) (m:Int):Z7 (Zbp (Zr prog Zf ZoA Zoc) hK 900 3 [bR l,.int .i64 m] [cmp true,cmp false,cmp false,cmp true,cmp true,cmp true]) (.bool true) [((rdP m l).2.2==(rdP m l).2.2,true),(Nat.beq 42 42 && Nat.beq kT kT && kOk kV,true),(i64.wrap 0==(rdP m l).2.1,true),((0:Int)==(rdP m l).1,true),(decide (l.length≤10000∨65536<l.length),true),(decide ((rdP m l).2.2=0),false),(Zkl l,true),(decide (((l.length:Nat):Int)≤65536),false),(decide (((l.length:Nat):Int)>1500),true)]:=by and_intros<;>kernel_rfl
theorem ZgY (l:List UInt8) (m:Int) (w:World) (hk:Ze7 w):Calls prog 3 #[bR l,.int .i64 m] w fun e w'=>e= .returned (.bool true)∧zA w w':=by
 have T0:=Zh Zs3 ZrV;by_cases h1:1500<l.length
 ·by_cases h2:l.length≤65536
  ·exact ZaP T0 (ZAs l m) (Za (Xa (by omega)) (Z4 (Xa (by omega)))) (by rfl) (by rfl) (Zix hk)
  ·have hl:l.length≤10000∨65536<l.length:=by omega
   have hr:rdP m l=(0,0,2):=by unfold rdP;rw[if_pos (by omega)]
   have hz:¬ (rdP m l).2.2=0:=by rw[hr];decide
   obtain⟨e1,e2⟩:=Zod m l hz;exact ZaP T0 (ZAv l m) (Za (ZY rfl) (Za (by kernel_rfl) (Za (ZY (by rw[e2];rfl)) (Za (ZY e1.symm) (Za (Xa hl) (Za (Xb hz) (Za (show Zkl l=true from Xa hl) (Za (Xb (by omega)) (Z4 (Xa (by omega))))))))))) (by rfl) (by rfl) (Zix hk)
 have hl:l.length≤10000∨65536<l.length:=by omega
 have hf:=ZxH m l;by_cases hz:(rdP m l).2.2=0
 ·exact ZaP T0 (ZAt l m) (Za (ZY hz.symm) (Za (ZY (Zv (by omega) (by omega))) (Za (ZY rfl) (Za (Xa hl) (Za (Xa hz) (Za (show Zkl l=true from Xa hl) (Z4 (Xb (by omega))))))))) (by rfl) (by rfl) (Zix hk)
 ·obtain⟨e1,e2⟩:=Zod m l hz;exact ZaP T0 (ZAu l m) (Za (ZY rfl) (Za (by kernel_rfl) (Za (ZY (by rw[e2];rfl)) (Za (ZY e1.symm) (Za (Xa hl) (Za (Xb hz) (Za (show Zkl l=true from Xa hl) (Z4 (Xb (by omega)))))))))) (by rfl) (by rfl) (Zix hk)
end Go.Proofs.YtjlponbdflkbjaaGreatDoor
