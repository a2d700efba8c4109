/-
  RdJ, RdLd, RdN, Flat
-/
import Derived.Test.YtjlponbdflkbjaaGreatDoorG21
namespace Go.Proofs.YtjlponbdflkbjaaGreatDoor
open Go.Proofs.Tryz
open Go.KRun Go.Nt Go.Rd Go.Rn
set_option maxRecDepth 100000
theorem Za0 {u w:List UInt8}{d:Bool}(h:decide (u=w)=d):(lIs u w d).1=(lIs u w d).2:=by
 show ((⟨⟨u⟩⟩:ByteArray)==⟨⟨w⟩⟩)=d;rw[ZcI];exact h
theorem Z4c (c:UInt8) (r:List UInt8):(lX0 (c::r)).1=true:=by
 show decide ((0:Int)≤0∧0<(c::r).length)=true;exact Xa ⟨by omega,by rw[List.length_cons];omega⟩
theorem Z4d (c:UInt8) (r:List UInt8):(lN1 (c::r) 0 true).1=true:=Xa (by rw[List.length_cons];omega)
theorem Zjn {u:List UInt8}{l:Log}(h1:¬ u=[110,97,110]) (h2:¬ u=[105,110,102]) (hl:Z3 l):Z3 (lBn u l):=Za (Za0 (Xb h2)) (Za (Za0 (Xb h1)) hl)
theorem Zaj {b:Int}{v:List UInt8}{d:Bool}{l:Log}(h:(scA b v).2=d) (hb:b=10∨b=16) (hv:v.length≤10000) (hl:Z3 l):Z3 (lSc b v d l):=Za h (Za (Xa ⟨hb,by omega⟩) hl)
theorem Zo5 {b:Int}{v:List UInt8}(hb:b=10∨b=16) (hv:v.length≤10000):ZyJ b (dgs b v) (bhd b v) (scA b v).1=true∧(0≤bhd b v∧bhd b v≤10000)∧(-2000000≤(scA b v).1∧(scA b v).1≤2000000)∧(dgs b v).length≤10000:=by
 obtain⟨h1,h2,h3⟩:=Zfd b false v;have h4: -2000000≤(scA b v).1∧(scA b v).1≤2000000:=by
  unfold scA;split
  ·exact⟨show (-2000000:Int)≤0 by decide,show (0:Int)≤2000000 by decide⟩
  ·exact Z15 b _
 unfold ZyJ dgs bhd;refine⟨?_,by omega,h4,by omega⟩;rw[h3,Xa ⟨hb,by omega,by omega,h4.1,h4.2⟩];rfl
theorem ZcO {b:Int}{v:List UInt8}{l:Log}(h:trZ (sc1 b false v).1=[]) (hb:b=10∨b=16) (hv:v.length≤10000) (hl:Z3 l):Z3 (lDz b v l):=Za (Xa h) (Za (Zo5 hb hv).1 hl)
theorem ZcP {n:Bool}{b:Int}{v:List UInt8}{l:Log}(h:¬ trZ (sc1 b false v).1=[]) (hb:b=10∨b=16) (hv:v.length≤10000) (hl:Z3 l):Z3 (lDn n b v (dnA b (trZ (dgs b v)) (bhd b v) (scA b v).1).1 (dnA b (trZ (dgs b v)) (bhd b v) (scA b v).1).2 l):=by
 obtain⟨h1,h2,h3,h4⟩:=Zo5 hb hv;have ht:=Zdj (dgs b v);obtain⟨b1,b2,b3⟩:=Z16 b hb (trZ (dgs b v)) (by omega) (bhd b v) (scA b v).1 h2 h3;obtain⟨V,hV⟩:∃ V,V=(dnA b (trZ (dgs b v)) (bhd b v) (scA b v).1).1:=⟨_,rfl⟩;obtain⟨E,hE⟩:∃ E,E=(dnA b (trZ (dgs b v)) (bhd b v) (scA b v).1).2:=⟨_,rfl⟩;rw[← hV] at b1;rw[← hE] at b2 b3;rw[← hV,← hE];have lV:=Zem b1;refine Za (Xa (Ze9 (V:=V) rfl)) (Za ?_ (Za (Xa (by rw[hV,hE])) (Za (Xb h) (Za h1 hl))));unfold Zo2 Zaa;rw[ZN (A:=V) rfl (by omega),ZaF (A:=V) rfl,show Zf5 (d16 V)=true from Zdg (ZdY (by omega) _),Zo.2 (by omega),Xa ⟨b2,b3⟩];rfl
def pzT (x:Int×Int×Int):Value:= .tuple #[.int .u64 x.1,.int .i64 x.2.1,.int .i64 x.2.2]
theorem ZAq (c:UInt8) (r:List UInt8) (m:Int) (hl:(c::r).length≤10000) (hs:sgT (c::r)=(true,r)) (lS:Z3 (lSm c r)) (w:World):Calls prog 10 #[bR (c::r),.int .i64 m] w fun e w'=>e= .returned (pzT (rdP m (c::r)))∧Zal w w':=by
 have T0:=Zh ZdG ZfX;have hlu:r.length≤10000:=by rw[List.length_cons] at hl;omega
 have eP:rdP m (c::r)=if r=[110,97,110] then (9221120237041090560,0,0) else if r=[105,110,102] then (if true=true then 18442240474082181120 else 9218868437227405312,0,0) else rdQ m true (rdB r).1 (rdB r).2:=by
  unfold rdP;rw[if_neg (by omega),hs]
 rw[eP];by_cases h1:r=[110,97,110]
 ·rw[if_pos h1];exact Zc T0 (Z8v c r m) (Za (Za0 (Xa h1)) lS) (by rfl) (by rfl) w
 rw[if_neg h1];by_cases h2:r=[105,110,102]
 ·rw[if_pos h2];exact Zc T0 (Z8w c r m) (Za (Za0 (Xa h2)) (Za (Za0 (Xb h1)) lS)) (by rfl) (by rfl) w
 rw[if_neg h2];have lB:=Zjn h1 h2 lS;by_cases hq:1<r.length
 ·have lq:=Za (show decide (((r.length:Nat):Int)>1)=true from Xa (by omega)) lB;have lp:(lPt r 2).1=true:=Xa ⟨by omega,by omega⟩;have lq:=Za lp lq;by_cases h16:r.take 2=[48,120]
  ·have eB:rdB r=(16,r.drop 2):=by unfold rdB;rw[if_pos ⟨hq,h16⟩]
   rw[eB];dsimp only;have hv:(r.drop 2).length≤10000:=by rw[List.length_drop];omega
   have lX:=Za lp (Za (Za0 (Xa h16)) lq);cases hk:(scA 16 (r.drop 2)).2 with
   | false=>
    have e:rdQ m true 16 (r.drop 2)=(0,0,3):=by unfold rdQ;rw[if_pos hk]
    rw[e];exact Zc T0 (Z3B c r m) (Zaj hk (.inr rfl) hv lX) (by rfl) (by rfl) w
   | true=>
    have lY:=Zaj hk (.inr rfl) hv lX;by_cases hz:trZ (sc1 16 false (r.drop 2)).1=[]
    ·have e:rdQ m true 16 (r.drop 2)=(9223372036854775808,0,0):=by unfold rdQ;rw[if_neg (by rw[hk];decide),if_pos hz];rfl
     rw[e];exact Zc T0 (Z3C c r m) (ZcO hz (.inr rfl) hv lY) (by rfl) (by rfl) w
    ·have e:rdQ m true 16 (r.drop 2)=(sS true (rnP m true (dnA 16 (trZ (dgs 16 (r.drop 2))) (bhd 16 (r.drop 2)) (scA 16 (r.drop 2)).1).1 (dnA 16 (trZ (dgs 16 (r.drop 2))) (bhd 16 (r.drop 2)) (scA 16 (r.drop 2)).1).2),rnF m true (dnA 16 (trZ (dgs 16 (r.drop 2))) (bhd 16 (r.drop 2)) (scA 16 (r.drop 2)).1).1 (dnA 16 (trZ (dgs 16 (r.drop 2))) (bhd 16 (r.drop 2)) (scA 16 (r.drop 2)).1).2,0):=by unfold rdQ;rw[if_neg (by rw[hk];decide),if_neg hz];rfl
     rw[e];exact Zc T0 (Z3D c r m _ _) (ZcP hz (.inr rfl) hv lY) (by rfl) (by rfl) w
  ·have eB:rdB r=(10,r):=by unfold rdB;rw[if_neg (fun h=>h16 h.2)]
   rw[eB];dsimp only;have hv:=hlu;have lX:=Za (Za0 (Xb h16)) lq;cases hk:(scA 10 r).2 with
   | false=>
    have e:rdQ m true 10 r=(0,0,3):=by unfold rdQ;rw[if_pos hk]
    rw[e];exact Zc T0 (Z3E c r m) (Zaj hk (.inl rfl) hv lX) (by rfl) (by rfl) w
   | true=>
    have lY:=Zaj hk (.inl rfl) hv lX;by_cases hz:trZ (sc1 10 false r).1=[]
    ·have e:rdQ m true 10 r=(9223372036854775808,0,0):=by unfold rdQ;rw[if_neg (by rw[hk];decide),if_pos hz];rfl
     rw[e];exact Zc T0 (Z3F c r m) (ZcO hz (.inl rfl) hv lY) (by rfl) (by rfl) w
    ·have e:rdQ m true 10 r=(sS true (rnP m true (dnA 10 (trZ (dgs 10 r)) (bhd 10 r) (scA 10 r).1).1 (dnA 10 (trZ (dgs 10 r)) (bhd 10 r) (scA 10 r).1).2),rnF m true (dnA 10 (trZ (dgs 10 r)) (bhd 10 r) (scA 10 r).1).1 (dnA 10 (trZ (dgs 10 r)) (bhd 10 r) (scA 10 r).1).2,0):=by unfold rdQ;rw[if_neg (by rw[hk];decide),if_neg hz];rfl
     rw[e];exact Zc T0 (Z3G c r m _ _) (ZcP hz (.inl rfl) hv lY) (by rfl) (by rfl) w
 ·have eB:rdB r=(10,r):=by unfold rdB;rw[if_neg (fun h=>hq h.1)]
  rw[eB];dsimp only;have hv:=hlu;have lX:=Za (show decide (((r.length:Nat):Int)>1)=false from Xb (by omega)) lB;cases hk:(scA 10 r).2 with
  | false=>
   have e:rdQ m true 10 r=(0,0,3):=by unfold rdQ;rw[if_pos hk]
   rw[e];exact Zc T0 (Z3H c r m) (Zaj hk (.inl rfl) hv lX) (by rfl) (by rfl) w
  | true=>
   have lY:=Zaj hk (.inl rfl) hv lX;by_cases hz:trZ (sc1 10 false r).1=[]
   ·have e:rdQ m true 10 r=(9223372036854775808,0,0):=by unfold rdQ;rw[if_neg (by rw[hk];decide),if_pos hz];rfl
    rw[e];exact Zc T0 (Z3I c r m) (ZcO hz (.inl rfl) hv lY) (by rfl) (by rfl) w
   ·have e:rdQ m true 10 r=(sS true (rnP m true (dnA 10 (trZ (dgs 10 r)) (bhd 10 r) (scA 10 r).1).1 (dnA 10 (trZ (dgs 10 r)) (bhd 10 r) (scA 10 r).1).2),rnF m true (dnA 10 (trZ (dgs 10 r)) (bhd 10 r) (scA 10 r).1).1 (dnA 10 (trZ (dgs 10 r)) (bhd 10 r) (scA 10 r).1).2,0):=by unfold rdQ;rw[if_neg (by rw[hk];decide),if_neg hz];rfl
    rw[e];exact Zc T0 (Z3J c r m _ _) (ZcP hz (.inl rfl) hv lY) (by rfl) (by rfl) w
theorem ZAr (c:UInt8) (r:List UInt8) (m:Int) (hl:(c::r).length≤10000) (hs:sgT (c::r)=(false,r)) (lS:Z3 (lSp c r)) (w:World):Calls prog 10 #[bR (c::r),.int .i64 m] w fun e w'=>e= .returned (pzT (rdP m (c::r)))∧Zal w w':=by
 have T0:=Zh ZdG ZfX;have hlu:r.length≤10000:=by rw[List.length_cons] at hl;omega
 have eP:rdP m (c::r)=if r=[110,97,110] then (9221120237041090560,0,0) else if r=[105,110,102] then (if false=true then 18442240474082181120 else 9218868437227405312,0,0) else rdQ m false (rdB r).1 (rdB r).2:=by
  unfold rdP;rw[if_neg (by omega),hs]
 rw[eP];by_cases h1:r=[110,97,110]
 ·rw[if_pos h1];exact Zc T0 (Z8x c r m) (Za (Za0 (Xa h1)) lS) (by rfl) (by rfl) w
 rw[if_neg h1];by_cases h2:r=[105,110,102]
 ·rw[if_pos h2];exact Zc T0 (Z8y c r m) (Za (Za0 (Xa h2)) (Za (Za0 (Xb h1)) lS)) (by rfl) (by rfl) w
 rw[if_neg h2];have lB:=Zjn h1 h2 lS;by_cases hq:1<r.length
 ·have lq:=Za (show decide (((r.length:Nat):Int)>1)=true from Xa (by omega)) lB;have lp:(lPt r 2).1=true:=Xa ⟨by omega,by omega⟩;have lq:=Za lp lq;by_cases h16:r.take 2=[48,120]
  ·have eB:rdB r=(16,r.drop 2):=by unfold rdB;rw[if_pos ⟨hq,h16⟩]
   rw[eB];dsimp only;have hv:(r.drop 2).length≤10000:=by rw[List.length_drop];omega
   have lX:=Za lp (Za (Za0 (Xa h16)) lq);cases hk:(scA 16 (r.drop 2)).2 with
   | false=>
    have e:rdQ m false 16 (r.drop 2)=(0,0,3):=by unfold rdQ;rw[if_pos hk]
    rw[e];exact Zc T0 (Z3K c r m) (Zaj hk (.inr rfl) hv lX) (by rfl) (by rfl) w
   | true=>
    have lY:=Zaj hk (.inr rfl) hv lX;by_cases hz:trZ (sc1 16 false (r.drop 2)).1=[]
    ·have e:rdQ m false 16 (r.drop 2)=(0,0,0):=by unfold rdQ;rw[if_neg (by rw[hk];decide),if_pos hz];rfl
     rw[e];exact Zc T0 (Z3L c r m) (ZcO hz (.inr rfl) hv lY) (by rfl) (by rfl) w
    ·have e:rdQ m false 16 (r.drop 2)=(sS false (rnP m false (dnA 16 (trZ (dgs 16 (r.drop 2))) (bhd 16 (r.drop 2)) (scA 16 (r.drop 2)).1).1 (dnA 16 (trZ (dgs 16 (r.drop 2))) (bhd 16 (r.drop 2)) (scA 16 (r.drop 2)).1).2),rnF m false (dnA 16 (trZ (dgs 16 (r.drop 2))) (bhd 16 (r.drop 2)) (scA 16 (r.drop 2)).1).1 (dnA 16 (trZ (dgs 16 (r.drop 2))) (bhd 16 (r.drop 2)) (scA 16 (r.drop 2)).1).2,0):=by unfold rdQ;rw[if_neg (by rw[hk];decide),if_neg hz];rfl
     rw[e];exact Zc T0 (Z3M c r m _ _) (ZcP hz (.inr rfl) hv lY) (by rfl) (by rfl) w
  ·have eB:rdB r=(10,r):=by unfold rdB;rw[if_neg (fun h=>h16 h.2)]
   rw[eB];dsimp only;have hv:=hlu;have lX:=Za (Za0 (Xb h16)) lq;cases hk:(scA 10 r).2 with
   | false=>
    have e:rdQ m false 10 r=(0,0,3):=by unfold rdQ;rw[if_pos hk]
    rw[e];exact Zc T0 (Z3N c r m) (Zaj hk (.inl rfl) hv lX) (by rfl) (by rfl) w
   | true=>
    have lY:=Zaj hk (.inl rfl) hv lX;by_cases hz:trZ (sc1 10 false r).1=[]
    ·have e:rdQ m false 10 r=(0,0,0):=by unfold rdQ;rw[if_neg (by rw[hk];decide),if_pos hz];rfl
     rw[e];exact Zc T0 (Z3O c r m) (ZcO hz (.inl rfl) hv lY) (by rfl) (by rfl) w
    ·have e:rdQ m false 10 r=(sS false (rnP m false (dnA 10 (trZ (dgs 10 r)) (bhd 10 r) (scA 10 r).1).1 (dnA 10 (trZ (dgs 10 r)) (bhd 10 r) (scA 10 r).1).2),rnF m false (dnA 10 (trZ (dgs 10 r)) (bhd 10 r) (scA 10 r).1).1 (dnA 10 (trZ (dgs 10 r)) (bhd 10 r) (scA 10 r).1).2,0):=by unfold rdQ;rw[if_neg (by rw[hk];decide),if_neg hz];rfl
     rw[e];exact Zc T0 (Z3P c r m _ _) (ZcP hz (.inl rfl) hv lY) (by rfl) (by rfl) w
 ·have eB:rdB r=(10,r):=by unfold rdB;rw[if_neg (fun h=>hq h.1)]
  rw[eB];dsimp only;have hv:=hlu;have lX:=Za (show decide (((r.length:Nat):Int)>1)=false from Xb (by omega)) lB;cases hk:(scA 10 r).2 with
  | false=>
   have e:rdQ m false 10 r=(0,0,3):=by unfold rdQ;rw[if_pos hk]
   rw[e];exact Zc T0 (Z3Q c r m) (Zaj hk (.inl rfl) hv lX) (by rfl) (by rfl) w
  | true=>
   have lY:=Zaj hk (.inl rfl) hv lX;by_cases hz:trZ (sc1 10 false r).1=[]
   ·have e:rdQ m false 10 r=(0,0,0):=by unfold rdQ;rw[if_neg (by rw[hk];decide),if_pos hz];rfl
    rw[e];exact Zc T0 (Z3R c r m) (ZcO hz (.inl rfl) hv lY) (by rfl) (by rfl) w
   ·have e:rdQ m false 10 r=(sS false (rnP m false (dnA 10 (trZ (dgs 10 r)) (bhd 10 r) (scA 10 r).1).1 (dnA 10 (trZ (dgs 10 r)) (bhd 10 r) (scA 10 r).1).2),rnF m false (dnA 10 (trZ (dgs 10 r)) (bhd 10 r) (scA 10 r).1).1 (dnA 10 (trZ (dgs 10 r)) (bhd 10 r) (scA 10 r).1).2,0):=by unfold rdQ;rw[if_neg (by rw[hk];decide),if_neg hz];rfl
    rw[e];exact Zc T0 (Z3S c r m _ _) (ZcP hz (.inl rfl) hv lY) (by rfl) (by rfl) w
theorem ZAs (c:UInt8) (r:List UInt8) (m:Int) (hl:(c::r).length≤10000) (hs:sgT (c::r)=(false,(c::r))) (lS:Z3 (Zkx c r)) (w:World):Calls prog 10 #[bR (c::r),.int .i64 m] w fun e w'=>e= .returned (pzT (rdP m (c::r)))∧Zal w w':=by
 have T0:=Zh ZdG ZfX;have hlu:(c::r).length≤10000:=by exact hl
 have eP:rdP m (c::r)=if (c::r)=[110,97,110] then (9221120237041090560,0,0) else if (c::r)=[105,110,102] then (if false=true then 18442240474082181120 else 9218868437227405312,0,0) else rdQ m false (rdB (c::r)).1 (rdB (c::r)).2:=by
  unfold rdP;rw[if_neg (by omega),hs]
 rw[eP];by_cases h1:(c::r)=[110,97,110]
 ·rw[if_pos h1];exact Zc T0 (Z8z c r m) (Za (Za0 (Xa h1)) lS) (by rfl) (by rfl) w
 rw[if_neg h1];by_cases h2:(c::r)=[105,110,102]
 ·rw[if_pos h2];exact Zc T0 (Z80 c r m) (Za (Za0 (Xa h2)) (Za (Za0 (Xb h1)) lS)) (by rfl) (by rfl) w
 rw[if_neg h2];have lB:=Zjn h1 h2 lS;by_cases hq:1<(c::r).length
 ·have lq:=Za (show decide ((((c::r).length:Nat):Int)>1)=true from Xa (by omega)) lB;have lp:(lPt (c::r) 2).1=true:=Xa ⟨by omega,by omega⟩;have lq:=Za lp lq;by_cases h16:(c::r).take 2=[48,120]
  ·have eB:rdB (c::r)=(16,(c::r).drop 2):=by unfold rdB;rw[if_pos ⟨hq,h16⟩]
   rw[eB];dsimp only;have hv:((c::r).drop 2).length≤10000:=by rw[List.length_drop];omega
   have lX:=Za lp (Za (Za0 (Xa h16)) lq);cases hk:(scA 16 ((c::r).drop 2)).2 with
   | false=>
    have e:rdQ m false 16 ((c::r).drop 2)=(0,0,3):=by unfold rdQ;rw[if_pos hk]
    rw[e];exact Zc T0 (Z3T c r m) (Zaj hk (.inr rfl) hv lX) (by rfl) (by rfl) w
   | true=>
    have lY:=Zaj hk (.inr rfl) hv lX;by_cases hz:trZ (sc1 16 false ((c::r).drop 2)).1=[]
    ·have e:rdQ m false 16 ((c::r).drop 2)=(0,0,0):=by unfold rdQ;rw[if_neg (by rw[hk];decide),if_pos hz];rfl
     rw[e];exact Zc T0 (Z3U c r m) (ZcO hz (.inr rfl) hv lY) (by rfl) (by rfl) w
    ·have e:rdQ m false 16 ((c::r).drop 2)=(sS false (rnP m false (dnA 16 (trZ (dgs 16 ((c::r).drop 2))) (bhd 16 ((c::r).drop 2)) (scA 16 ((c::r).drop 2)).1).1 (dnA 16 (trZ (dgs 16 ((c::r).drop 2))) (bhd 16 ((c::r).drop 2)) (scA 16 ((c::r).drop 2)).1).2),rnF m false (dnA 16 (trZ (dgs 16 ((c::r).drop 2))) (bhd 16 ((c::r).drop 2)) (scA 16 ((c::r).drop 2)).1).1 (dnA 16 (trZ (dgs 16 ((c::r).drop 2))) (bhd 16 ((c::r).drop 2)) (scA 16 ((c::r).drop 2)).1).2,0):=by unfold rdQ;rw[if_neg (by rw[hk];decide),if_neg hz];rfl
     rw[e];exact Zc T0 (Z3V c r m _ _) (ZcP hz (.inr rfl) hv lY) (by rfl) (by rfl) w
  ·have eB:rdB (c::r)=(10,(c::r)):=by unfold rdB;rw[if_neg (fun h=>h16 h.2)]
   rw[eB];dsimp only;have hv:=hlu;have lX:=Za (Za0 (Xb h16)) lq;cases hk:(scA 10 (c::r)).2 with
   | false=>
    have e:rdQ m false 10 (c::r)=(0,0,3):=by unfold rdQ;rw[if_pos hk]
    rw[e];exact Zc T0 (Z3W c r m) (Zaj hk (.inl rfl) hv lX) (by rfl) (by rfl) w
   | true=>
    have lY:=Zaj hk (.inl rfl) hv lX;by_cases hz:trZ (sc1 10 false (c::r)).1=[]
    ·have e:rdQ m false 10 (c::r)=(0,0,0):=by unfold rdQ;rw[if_neg (by rw[hk];decide),if_pos hz];rfl
     rw[e];exact Zc T0 (Z3X c r m) (ZcO hz (.inl rfl) hv lY) (by rfl) (by rfl) w
    ·have e:rdQ m false 10 (c::r)=(sS false (rnP m false (dnA 10 (trZ (dgs 10 (c::r))) (bhd 10 (c::r)) (scA 10 (c::r)).1).1 (dnA 10 (trZ (dgs 10 (c::r))) (bhd 10 (c::r)) (scA 10 (c::r)).1).2),rnF m false (dnA 10 (trZ (dgs 10 (c::r))) (bhd 10 (c::r)) (scA 10 (c::r)).1).1 (dnA 10 (trZ (dgs 10 (c::r))) (bhd 10 (c::r)) (scA 10 (c::r)).1).2,0):=by unfold rdQ;rw[if_neg (by rw[hk];decide),if_neg hz];rfl
     rw[e];exact Zc T0 (Z3Y c r m _ _) (ZcP hz (.inl rfl) hv lY) (by rfl) (by rfl) w
 ·have eB:rdB (c::r)=(10,(c::r)):=by unfold rdB;rw[if_neg (fun h=>hq h.1)]
  rw[eB];dsimp only;have hv:=hlu;have lX:=Za (show decide ((((c::r).length:Nat):Int)>1)=false from Xb (by omega)) lB;cases hk:(scA 10 (c::r)).2 with
  | false=>
   have e:rdQ m false 10 (c::r)=(0,0,3):=by unfold rdQ;rw[if_pos hk]
   rw[e];exact Zc T0 (Z3Z c r m) (Zaj hk (.inl rfl) hv lX) (by rfl) (by rfl) w
  | true=>
   have lY:=Zaj hk (.inl rfl) hv lX;by_cases hz:trZ (sc1 10 false (c::r)).1=[]
   ·have e:rdQ m false 10 (c::r)=(0,0,0):=by unfold rdQ;rw[if_neg (by rw[hk];decide),if_pos hz];rfl
    rw[e];exact Zc T0 (Z4a c r m) (ZcO hz (.inl rfl) hv lY) (by rfl) (by rfl) w
   ·have e:rdQ m false 10 (c::r)=(sS false (rnP m false (dnA 10 (trZ (dgs 10 (c::r))) (bhd 10 (c::r)) (scA 10 (c::r)).1).1 (dnA 10 (trZ (dgs 10 (c::r))) (bhd 10 (c::r)) (scA 10 (c::r)).1).2),rnF m false (dnA 10 (trZ (dgs 10 (c::r))) (bhd 10 (c::r)) (scA 10 (c::r)).1).1 (dnA 10 (trZ (dgs 10 (c::r))) (bhd 10 (c::r)) (scA 10 (c::r)).1).2,0):=by unfold rdQ;rw[if_neg (by rw[hk];decide),if_neg hz];rfl
    rw[e];exact Zc T0 (Z4b c r m _ _) (ZcP hz (.inl rfl) hv lY) (by rfl) (by rfl) w
theorem Zsv (l:List UInt8) (m:Int) (h:l.length≤10000∨65536<l.length) (w:World):Calls prog 10 #[bR l,.int .i64 m] w fun e w'=>e= .returned (pzT (rdP m l))∧Zal w w':=by
 have T0:=Zh ZdG ZfX;by_cases hl:65536<l.length
 ·have e:rdP m l=(0,0,2):=by unfold rdP;rw[if_pos hl]
  rw[e];exact Zc T0 (ZAo l m) (Z4 (Xa (by omega))) (by rfl) (by rfl) w
 have hl:l.length≤10000:=by omega
 cases l with
 | nil=>
  have e:rdP m []=(0,0,3):=by
   unfold rdP;rw[if_neg (by decide),if_neg (by decide),if_neg (by decide)];rfl
  rw[e];exact Zc T0 (ZAp m) (Zaj rfl (.inl rfl) (by decide) (Za rfl (Zjn (by decide) (by decide) (Za rfl (Za rfl (Z4 rfl)))))) (by rfl) (by rfl) w
 | cons c r=>
  have x0:=Z4c c r;have n0:=Z4d c r;have n6:(lN1 (c::r) 65536 false).1=false:=Xb (by omega);have p1:(lPt (c::r) 1).1=true:=Xa ⟨by omega,by rw[List.length_cons];omega⟩;by_cases h45:lq8 c=45
  ·have c1:(lCh c 45 true).1=true:=zv h45;exact ZAq c r m hl (by unfold sgT;dsimp only;rw[if_pos h45]) (Za p1 (Za c1 (Za x0 (Za n0 (Za c1 (Za x0 (Za n0 (Z4 n6)))))))) w
  have c1:(lCh c 45 false).1=false:=zw h45;by_cases h43:lq8 c=43
  ·have c2:(lCh c 43 true).1=true:=zv h43;exact ZAr c r m hl (by unfold sgT;dsimp only;rw[if_neg h45,if_pos h43]) (Za p1 (Za c2 (Za x0 (Za c1 (Za x0 (Za n0 (Za c1 (Za x0 (Za n0 (Z4 n6)))))))))) w
  ·have c2:(lCh c 43 false).1=false:=zw h43;exact ZAs c r m hl (by unfold sgT;dsimp only;rw[if_neg h45,if_neg h43]) (Za c2 (Za x0 (Za c1 (Za x0 (Za n0 (Za c1 (Za x0 (Za n0 (Z4 n6))))))))) w
def gRP:Ans:=fun vals s=>
 match vals with
 | [.string ⟨⟨l⟩⟩,.int .i64 m]=>some (pzT (rdP m l),s,[(decide (l.length≤10000∨65536<l.length),true)])
 | _=>none
theorem Z4e:ZR 10 gRP:=by
 intro vals s v s' lg h hl w;unfold gRP at h;split at h
 ·cases h;exact Zsv _ _ (Xc (hl _ Xf)) w
 ·cases h
end Go.Proofs.YtjlponbdflkbjaaGreatDoor
namespace Go.Proofs.YtjlponbdflkbjaaGreatDoor
open Go.Proofs.Tryz
open Go.KRun Go.Rd Go.Rn
set_option maxRecDepth 100000
def ZgQ:Con:=alt 10 gRP Z2A
theorem Zjo:ConOk ZgQ:=Z9 func10 rfl Z4e ZrO
end Go.Proofs.YtjlponbdflkbjaaGreatDoor
namespace Go.Proofs.YtjlponbdflkbjaaGreatDoor
open Go.Proofs.Tryz
open Go.IntKind
open Go.KRun Go.Nt Go.Rd Go.Rn
set_option maxRecDepth 100000
def rnG (n a b m k d:Int) (s:List UInt8):List Value:=[.int .u64 n,ofV a b,.int .i64 m,undef,pO 0,undef,.bool false,.int .i64 k,.int .u64 d,bR s]
def ZyL (n a b m k d:Int) (s:List UInt8) (i:Int):List Value:=[.int .u64 n,ofV a b,.int .i64 m,undef,pO 0,undef,.bool false,.int .i64 k,.int .u64 d,bR s,.int .i64 i]
def rnI (F:Func):Code:=Z2 (sP F 3)
def rnL (F:Func):Code:=cIn (cIn (Zz (sP F 3)))
theorem Zo6:Tryz.f4.body=some (ZW [sP Tryz.f4 0,sP Tryz.f4 1,sP Tryz.f4 2] (.seq (.seq (rnI Tryz.f4) (.block 0 (.loop (rnL Tryz.f4)))) (sK Tryz.f4 4))):=by kernel_rfl
theorem Z4f (n a b m:Int):Zg (evL (Zk prog Zf ZgQ true) 100 [sP Tryz.f4 0,sP Tryz.f4 1,sP Tryz.f4 2] ([.int .u64 n,ofV a b,.int .i64 m]++List.replicate 78 undef,⟨0,[]⟩,[cmp false,cmp false,sam true]) ⟨[],[],[]⟩) 10 71 none (rnG n a b m (i64.wrap ((u64.wrap a).tmod 900)) (u64.wrap b) (dcL (u64.wrap (u64.wrap (9007199254740992+u64.wrap (2*n.tmod 2251799813685248))+1)).toNat++[46])) (rnM a b) [(decide ((dcL (u64.wrap (u64.wrap (9007199254740992+u64.wrap (2*n.tmod 2251799813685248))+1)).toNat).length+1≤9223372036854775807),true),(decide (0≤(u64.wrap (u64.wrap (9007199254740992+u64.wrap (2*n.tmod 2251799813685248))+1))∧(u64.wrap (u64.wrap (9007199254740992+u64.wrap (2*n.tmod 2251799813685248))+1))<18446744073709551616),true),(decide ((2251799813685248:Int)=0),false),(decide ((900:Int)=0),false)]:=by and_intros<;>kernel_rfl
theorem ZAt (n a b m k d:Int) (s:List UInt8) (g:Nat→Value):Zg (evC (Zk prog Zf ZgQ true) 100 false (rnI Tryz.f4) (rnG n a b m k d s++tl 71 g,rnM a b,[]) ⟨[],[],[]⟩) 11 70 none (ZyL n a b m k d s 0) (rnM a b) []:=by and_intros<;>kernel_rfl
theorem ZAu (n a b m k d:Int) (s:List UInt8) (i:Int) (g:Nat→Value):Zg (evC (Zk prog Zf ZgQ true) 100 false (rnL Tryz.f4) (ZyL n a b m k d s i++tl 70 g,rnM a b,[cmp false]) ⟨[],[],[]⟩) 11 70 (some (some 0)) (ZyL n a b m k d s i) (rnM a b) [(decide (i<k),false)]:=by and_intros<;>kernel_rfl
theorem ZAv (n a b m k d:Int) (s:List UInt8) (i:Int) (g:Nat→Value):Zg (evC (Zk prog Zf ZgQ true) 100 false (rnL Tryz.f4) (ZyL n a b m k d s i++tl 70 g,rnM a b,[cmp true,sam true]) ⟨[],[],[]⟩) 11 70 none (ZyL n a b m k d (s++[48]) (i64.wrap (i+1))) (rnM a b) [(decide (s.length+1≤9223372036854775807),true),(decide (i<k),true)]:=by and_intros<;>kernel_rfl
theorem ZAw (n a b m k d:Int) (s:List UInt8) (i:Int) (g:Nat→Value):Zg (evC (Zk prog Zf ZgQ true) 100 false (sK Tryz.f4 4) (ZyL n a b m k d s i++tl 70 g,rnM a b,[cmp false,cmp false,sam true,sam true,cmp true,cmp true,cmp true,cmp true]) ⟨[],[],[]⟩) 7 74 (some none) [.int .u64 n,ofV a b,.int .i64 m,undef,pO 0,undef,.bool true] (rnM a b) [((rdP m (s++dcP d)).2.2==0,true),(i64.wrap (rdP m (s++dcP d)).2.1==(rdP m (s++dcP d)).2.1,true),((rdP m (s++dcP d)).1==(rdP m (s++dcP d)).1,true),(decide ((s++dcP d).length≤10000∨65536<(s++dcP d).length),true),(decide ((rdP m (s++dcP d)).2.2=0),true),(ZrL (s++dcP d),true),(decide (s.length+(dcP d).length≤9223372036854775807),true),(decide (0≤d.tmod 10∧d.tmod 10≤u64.wrap (d.tmod 10+1)∧u64.wrap (d.tmod 10+1)≤((10:Nat):Int)),true),(decide ((10:Int)=0),false),(decide ((10:Int)=0),false)]:=by and_intros<;>kernel_rfl
def nrS (n a b m d:Int) (k:Nat) (s:List UInt8) (i:Nat) (y:Lf):Prop:=i≤k∧∃ g,y.1=ZyL n a b m k d (s++List.replicate i 48) i++tl 70 g∧y.2.1=rnM a b
theorem Zsw {n a b m d:Int}{k:Nat}{s:List UInt8}(hk:k≤100000) (hs:s.length≤100000) (r:Nat) (y:Lf) (h:∃ i,r=k-i∧nrS n a b m d k s i y):
  Runs (Zk prog Zf ZgQ true) (rnL Tryz.f4) y fun e z=>match e with | none=>∃ r',r'<r∧∃ i,r'=k-i∧nrS n a b m d k s i z | some none=>False | some (some id')=>id'=0∧nrS n a b m d k s k z:=by
 have hT:=Zj Zjo;obtain⟨i,hr,hi,g,ht,hh⟩:=h;obtain⟨t,h',sc⟩:=y;simp only at ht hh;subst ht hh;by_cases hc:i<k
 ·have hg:=ZAv n a b m k d (s++List.replicate i 48) (i:Nat) g;rw[wN (by omega),List.append_assoc,← List.replicate_succ'] at hg;refine (Zb (s0:=sc) hT hg (Za (Xa (by rw[List.length_append,List.length_replicate];omega)) (Z4 (Xa (by omega))))).mono fun e z he=> ?_;obtain⟨rfl,⟨g',z1⟩,z2⟩:=he;exact⟨k-(i+1),by omega,i+1,rfl,by omega,g',z1,z2⟩
 ·have hik:i=k:=by omega
  subst hik;refine (Zb (s0:=sc) hT (ZAu n a b m i d (s++List.replicate i 48) (i:Nat) g) (Z4 (Xb (by omega)))).mono fun e z he=> ?_;obtain⟨rfl,⟨g',z1⟩,z2⟩:=he;exact⟨rfl,hi,g',z1,z2⟩
theorem Zkr (n a b m:Int) (hn:0≤n∧n<18446744073709551616) (w:World):Calls prog 4 #[.int .u64 n,ofV a b,.int .i64 m] w fun e w'=>e= .returned (.bool true)∧Zal w w':=by
 have hT:=Zj Zjo;refine ZJ (T:=(Zk prog Zf ZgQ true)) func4 Zo6 (by rfl) (by rfl) ?_ w;have hm:n.tmod 2251799813685248=n % 2251799813685248:=Int.tmod_eq_emod_of_nonneg hn.1;have hN:(u64.wrap (u64.wrap (9007199254740992+u64.wrap (2*n.tmod 2251799813685248))+1))=9007199254740992+2*(n % 2251799813685248)+1:=by
  rw[hm,ZnZ (n:=2*(n % 2251799813685248)) (by omega) (by omega),ZnZ (n:=9007199254740992+2*(n % 2251799813685248)) (by omega) (by omega),ZnZ (by omega) (by omega)]
 have ha:0≤u64.wrap a:=by simp [IntKind.wrap,IntKind.bits,IntKind.signed];omega
 have hb:0≤u64.wrap b∧u64.wrap b<18446744073709551616:=by simp [IntKind.wrap,IntKind.bits,IntKind.signed];omega
 obtain⟨k,hk,hk2⟩:∃ k:Nat,(i64.wrap ((u64.wrap a).tmod 900))=(k:Int)∧k<900:=by
  have h1:(u64.wrap a).tmod 900=u64.wrap a % 900:=Int.tmod_eq_emod_of_nonneg ha;refine⟨(u64.wrap a % 900).toNat,?_,by omega⟩;rw[h1,Zw (by omega) (by omega)];omega
 obtain⟨d,hd⟩:∃ d,d=u64.wrap b:=⟨_,rfl⟩;rw[← hd] at hb;obtain⟨N,hNN⟩:∃ N:Nat,N=(9007199254740992+2*(n % 2251799813685248)+1).toNat:=⟨_,rfl⟩;have hlen:=ZnY N;have hp:=Z4f n a b m;rw[hN,hk,← hNN,← hd] at hp;refine Zv hT hp (Za (Xa (by omega)) (Za (Xa ⟨by omega,by omega⟩) (Za (by decide) (Z4 (by decide))))) fun g=> ?_;have hs:(dcL N++[46]).length≤100000:=by rw[List.length_append,List.length_singleton];omega
 refine Runs.seq (P1:=fun e y=>match e with | none=>nrS n a b m d k (dcL N++[46]) k y | some none=>False | some (some _)=>False) ?_ ?_ (fun e y he=>by match e,he with | none,he=>exact he.elim | some _,he=>exact he.elim)
 ·refine Runs.seq (Zb hT (ZAt n a b m k d (dcL N++[46]) g) ZaI) ?_ (fun e y he=>by cases he.1);rintro⟨t,hh,sc⟩ ⟨_,⟨g',e1⟩,e2⟩;exact Runs.forLoop (R:=fun _=>False) (P:=nrS n a b m d k (dcL N++[46]) k) (fun r y=>∃ i,r=k-i∧nrS n a b m d k (dcL N++[46]) i y) (Zsw (by omega) hs) (n:=k) ⟨0,by omega,by omega,g',by rw[e1];simp,e2⟩
 ·rintro⟨t,hh,sc⟩ ⟨_,g',e1,e2⟩;simp only at e1 e2;subst e1 e2;have hg:=ZAw n a b m k d (dcL N++[46]++List.replicate k 48) (k:Nat) g';have h10:d.toNat % 10<10:=Nat.mod_lt _ (by omega);have et:d.tmod 10=((d.toNat % 10:Nat):Int):=by rw[Int.tmod_eq_emod_of_nonneg hb.1];omega
  have ew:u64.wrap (((d.toNat % 10:Nat):Int)+1)=((d.toNat % 10+1:Nat):Int):=by
   simp [IntKind.wrap,IntKind.bits,IntKind.signed];omega
  have eL:dcL N++[46]++List.replicate k 48++[chD (d.toNat % 10)]=dcL N++46::(List.replicate k 48++[chD (d.toNat % 10)]):=by simp
  rw[Z2B hb.1,et,ew,eL] at hg;have hz:=ZxD m N k (d.toNat % 10) (by omega) h10;obtain⟨L,hL⟩:∃ L,L=dcL N++46::(List.replicate k 48++[chD (d.toNat % 10)]):=⟨_,rfl⟩;have hLl:L.length≤10000:=by
   rw[hL];simp only[List.length_append,List.length_cons,List.length_replicate,List.length_nil];omega
  rw[← hL] at hg hz;have hf:=Z2C m L;refine (Zb (s0:=sc) hT hg (Za (zv hz) (Za (zv (Zw (by omega) (by omega))) (Za (zv rfl) (Za (Xa (.inl hLl)) (Za (Xa hz) (Za (show ZrL L=true from Xa (.inl hLl)) (Za (Xa (by simp only[List.length_append,List.length_cons,List.length_replicate,List.length_nil];omega)) (Za (Xa ⟨by omega,by omega,by omega⟩) (Za (by decide) (Z4 (by decide)))))))))))).mono fun e z he=> ?_;obtain⟨rfl,⟨g2,z1⟩,z2⟩:=he;exact⟨.inr rfl,by rw[z1,z2];rfl⟩
end Go.Proofs.YtjlponbdflkbjaaGreatDoor
namespace Go.KRun
open Go.ChangeShapes Go.WideShapes Go.ChangeAt Go.RowKit Go.Joins
def okC:List (Option IntKind)→List Value→Prop
 | [],[]=>True
 | none::l,v::vs=>(∃ b,v= .bool b)∧okC l vs
 | some k::l,v::vs=>(∃ n,v= .int k n∧(Lit.int k n).wf=true)∧okC l vs
 | _,_=>False
theorem Zcc:∀ {l1:List (Option IntKind)}{v1:List Value}{l2:List (Option IntKind)}{v2:List Value},okC l1 v1→okC l2 v2→okC (l1++l2) (v1++v2)
 | [],[],_,_,_,h2=>by simpa using h2
 | none::l,v::vs,_,_,h1,h2=>⟨h1.1,Zcc (l1:=l) (v1:=vs) h1.2 h2⟩
 | some k::l,v::vs,_,_,h1,h2=>⟨h1.1,Zcc (l1:=l) (v1:=vs) h1.2 h2⟩
 | [],_::_,_,_,h1,_=>h1.elim
 | none::_,[],_,_,h1,_=>h1.elim
 | some _::_,[],_,_,h1,_=>h1.elim
theorem Zdm:∀ {l:List (Option IntKind)}{vs:List Value},okC l vs→vs.length=l.length
 | [],[],_=>rfl
 | none::l,v::vs,h=>by simp [Zdm (l:=l) h.2]
 | some k::l,v::vs,h=>by simp [Zdm (l:=l) h.2]
 | [],_::_,h=>h.elim
 | none::_,[],h=>h.elim
 | some _::_,[],h=>h.elim
def Ze0 (P:Program) (q:TypeId→Option (List (Option IntKind))):Nat→List Field→Option (List (Option IntKind))
 | _,[]=>some []
 | off,f::fs=>
  match q f.type with
  | some l=>
   if (Nat.beq f.offset off && Nat.beq (P.cellsOf f.type) l.length)=true then
    match Ze0 P q (off+l.length) fs with
    | some r=>some (l++r)
    | none=>none
   else none
  | none=>none
def ZaW (P:Program) (e:TypeId) (l:List (Option IntKind)):Nat→List (Option IntKind)
 | 0=>[]
 | n+1=>l++ZaW P e l n
def zQ (P:Program):Nat→TypeId→Option (List (Option IntKind))
 | 0,_=>none
 | n+1,t=>
  match P.underlying t with
  | some .bool=>some [none]
  | some (.int k)=>some [some k]
  | some (.struct fs)=>
   match Ze0 P (zQ P n) 0 fs.toList with
   | some l=>if Nat.beq (P.cellsOf t) l.length=true then some l else none
   | none=>none
  | some (.array m e)=>
   match zQ P n e with
   | some l=>if (Nat.beq (P.cellsOf e) l.length && Nat.beq (P.cellsOf t) (ZaW P e l m).length)=true then some (ZaW P e l m) else none
   | none=>none
  | _=>none
theorem ZtG {α:Type}(cs:List α) (off a b:Nat):((cs.drop off).take (a+b))=((cs.drop off).take a)++((cs.drop (off+a)).take b):=by
 rw[List.take_add,List.drop_drop]
section
variable {H : Type} {enc : TypeId × Value → H} {P : Program}
def Zo7 (enc:TypeId×Value→H) (P:Program) (t:TypeId) (L:List (Option IntKind)):Prop:=
 ∀ w base spare held fuel cs x,DataW.trod enc P w base spare held fuel t cs=some x→okC L cs∧x.2=[]∧∀ w' base' spare' held',DataW.trod enc P w' base' spare' held' fuel t cs=some x
theorem Ze1 {q:TypeId→Option (List (Option IntKind))}(hq:∀ t L,q t=some L→Zo7 enc P t L) {w:World}{base:Nat}{spare:Nat→Bool}{held:Bool}{fuel:Nat}{cs:List Value}:
  ∀ (fs:List Field) (off:Nat) (L:List (Option IntKind)),Ze0 P q off fs=some L→∀ xs,fs.mapM (fun f=>DataW.trod enc P w base spare held fuel f.type ((cs.drop f.offset).take (P.cellsOf f.type)))=some xs→
   okC L ((cs.drop off).take L.length)∧xs.flatMap (·.2)=[]∧∀ w' base' spare' held',fs.mapM (fun f=>DataW.trod enc P w' base' spare' held' fuel f.type ((cs.drop f.offset).take (P.cellsOf f.type)))=some xs
 | [],off,L,hL,xs,hx=>by
  simp only[Ze0] at hL;cases hL;simp at hx;subst hx;exact⟨by simp [okC],by simp,fun _ _ _ _=>by simp⟩
 | f::fs,off,L,hL,xs,hx=>by
  unfold Ze0 at hL;split at hL
  ·rename_i l hl;split at hL
   ·rename_i hc;simp only[Xh] at hc;have ho:=Xj hc.1;have hs:=Xj hc.2;split at hL
    ·rename_i r hr;cases hL;rw[List.mapM_cons] at hx;simp only[bind,Option.bind_eq_some_iff,pure,Option.some.injEq] at hx;obtain⟨y,hy,ys,hys,rfl⟩:=hx;obtain⟨a1,a2,a3⟩:=hq _ _ hl _ _ _ _ _ _ _ hy;obtain⟨b1,b2,b3⟩:=Ze1 hq fs (off+l.length) r hr ys hys;rw[ho,hs] at a1;refine⟨?_,?_,fun w' base' spare' held'=> ?_⟩
     ·rw[List.length_append,ZtG];exact Zcc a1 b1
     ·simp [a2,b2]
     ·rw[List.mapM_cons,a3 w' base' spare' held',b3 w' base' spare' held'];rfl
    ·cases hL
   ·cases hL
  ·cases hL
theorem Zfl {e:TypeId}{l:List (Option IntKind)}(hl:Zo7 enc P e l) (hs:P.cellsOf e=l.length) {w:World}{base:Nat}{spare:Nat→Bool}{held:Bool}{fuel:Nat}{cs:List Value}:
  ∀ (n k:Nat) xs,(List.range' k n).mapM (fun i=>DataW.trod enc P w base spare held fuel e ((cs.drop (i*P.cellsOf e)).take (P.cellsOf e)))=some xs→
   okC (ZaW P e l n) ((cs.drop (k*l.length)).take (ZaW P e l n).length)∧xs.flatMap (·.2)=[]∧∀ w' base' spare' held',(List.range' k n).mapM (fun i=>DataW.trod enc P w' base' spare' held' fuel e ((cs.drop (i*P.cellsOf e)).take (P.cellsOf e)))=some xs
 | 0,k,xs,hx=>by
  simp at hx;subst hx;exact⟨by simp [ZaW,okC],by simp,fun _ _ _ _=>by simp⟩
 | n+1,k,xs,hx=>by
  rw[List.range'_succ,List.mapM_cons] at hx;simp only[bind,Option.bind_eq_some_iff,pure,Option.some.injEq] at hx;obtain⟨y,hy,ys,hys,rfl⟩:=hx;obtain⟨a1,a2,a3⟩:=hl _ _ _ _ _ _ _ hy;obtain⟨b1,b2,b3⟩:=Zfl hl hs n (k+1) ys hys;rw[hs] at a1;refine⟨?_,?_,fun w' base' spare' held'=> ?_⟩
  ·show okC (l++ZaW P e l n) _;rw[show (ZaW P e l (n+1)).length=l.length+(ZaW P e l n).length by simp [ZaW],ZtG];rw[Nat.add_mul,Nat.one_mul] at b1;exact Zcc a1 b1
  ·simp [a2,b2]
  ·rw[List.range'_succ,List.mapM_cons,a3 w' base' spare' held',b3 w' base' spare' held'];rfl
theorem ZhL:∀ (n:Nat) (t:TypeId) (L:List (Option IntKind)),zQ P n t=some L→Zo7 enc P t L
 | 0,t,L,h=>by simp [zQ] at h
 | n+1,t,L,h=>by
  intro w base spare held fuel cs x hx;cases fuel with
  | zero=>simp [DataW.trod] at hx
  | succ fuel=>
   unfold zQ at h;split at h
   ·rename_i hu;cases h;obtain⟨b,rfl,rfl⟩:=DataW.trod_bool hu hx;exact⟨⟨⟨b,rfl⟩,trivial⟩,rfl,fun _ _ _ _=>by simp [DataW.trod,hu]⟩
   ·rename_i k hu;cases h;obtain⟨a,rfl,rfl,hw⟩:=DataW.trod_int hu hx;exact⟨⟨⟨a,rfl,hw⟩,trivial⟩,rfl,fun _ _ _ _=>by simp [DataW.trod,hu,hw]⟩
   ·rename_i fs hu;split at h
    ·rename_i l hl;split at h
     ·rename_i hc;cases h;have hc:=Xj hc;have key:∀ (w:World) (base:Nat) (spare:Nat→Bool) (held:Bool),DataW.trod enc P w base spare held (fuel+1) t cs=if cs.length=P.cellsOf t then (fs.toList.mapM fun f=>DataW.trod enc P w base spare held fuel f.type ((cs.drop f.offset).take (P.cellsOf f.type))).map fun xs=>(.agg (xs.map (·.1)),xs.flatMap (·.2)) else none:=fun w base spare held=>by
       rw[DataW.trod.eq_def];simp only[hu]
      rw[key] at hx;split at hx
      ·rename_i hlen;simp only[Option.map_eq_some_iff] at hx;obtain⟨xs,hxs,rfl⟩:=hx;obtain⟨b1,b2,b3⟩:=Ze1 (fun t L h=>ZhL n t L h) fs.toList 0 L hl xs hxs;refine⟨?_,b2,fun w' base' spare' held'=> ?_⟩
       ·rw[List.drop_zero,← hc,← hlen,List.take_length] at b1;exact b1
       ·rw[key,if_pos hlen,b3];rfl
      ·cases hx
     ·cases h
    ·cases h
   ·rename_i m e hu;split at h
    ·rename_i l hl;split at h
     ·rename_i hc;cases h;simp only[Xh] at hc;have hs:=Xj hc.1;have hc:=Xj hc.2;have key:∀ (w:World) (base:Nat) (spare:Nat→Bool) (held:Bool),DataW.trod enc P w base spare held (fuel+1) t cs=if cs.length=P.cellsOf t then ((List.range m).mapM fun i=>DataW.trod enc P w base spare held fuel e ((cs.drop (i*P.cellsOf e)).take (P.cellsOf e))).map fun xs=>(.agg (xs.map (·.1)),xs.flatMap (·.2)) else none:=fun w base spare held=>by
       rw[DataW.trod.eq_def];simp only[hu]
      rw[key] at hx;split at hx
      ·rename_i hlen;simp only[Option.map_eq_some_iff] at hx;obtain⟨xs,hxs,rfl⟩:=hx;rw[List.range_eq_range'] at hxs;obtain⟨b1,b2,b3⟩:=Zfl (ZhL n e l hl) hs m 0 xs hxs;refine⟨?_,b2,fun w' base' spare' held'=> ?_⟩
       ·rw[Nat.zero_mul,List.drop_zero,← hc,← hlen,List.take_length] at b1;exact b1
       ·rw[key,if_pos hlen,List.range_eq_range',b3];rfl
      ·cases hx
     ·cases h
    ·cases h
   ·cases h
theorem Zo8 {w:World}{base:Nat}{spare:Nat→Bool}{held:Bool}{t:TypeId}{v:Value}{d:DataW H}{p:List MemPlace}{L:List (Option IntKind)}(hL:zQ P 6 t=some L) (h:DataW.Trod enc P w base spare held t v d p):
  okC L v.cells.toList∧p=[]∧∀ w' base' spare' held',DataW.Trod enc P w' base' spare' held' t v d []:=by
 obtain⟨fuel,hf⟩:=h;obtain⟨h1,h2,h3⟩:=ZhL 6 t L hL _ _ _ _ _ _ _ hf;simp only at h2;subst h2;exact⟨h1,rfl,fun w' base' spare' held'=>⟨fuel,h3 w' base' spare' held'⟩⟩
theorem Zo9 {r:Go.Reach}{w:World}{b0:Nat}{t e:TypeId}{n:Nat}{v:Value}(hu:P.underlying t=some (.array n e)) (hv:Value.okWide P w r b0 t v):∃ cs:Array Value,v= .agg cs:=by
 have hv':=hv;simp only[Value.okWide,hu] at hv';obtain⟨cs,h,_⟩:=hv';exact⟨cs,h⟩
end
end Go.KRun
