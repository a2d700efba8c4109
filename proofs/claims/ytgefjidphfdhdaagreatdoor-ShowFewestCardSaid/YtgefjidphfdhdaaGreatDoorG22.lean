/-
  RdJ, ShY, RowN
-/
import Derived.Test.YtgefjidphfdhdaaGreatDoorG21
import Derived.Lib.LaidTab
import Derived.ChangeSame
import Derived.RowKit
namespace Go.Proofs.YtgefjidphfdhdaaGreatDoor
open Go.Proofs.Tryz
open Go.KRun Go.Nt Go.Rd Go.Rn
set_option maxRecDepth 100000
theorem Za0 {u w:List UInt8}{d:Bool}(h:decide (u=w)=d):(lIs u w d).1=(lIs u w d).2:=by
 show ((⟨⟨u⟩⟩:ByteArray)==⟨⟨w⟩⟩)=d;rw[ZeZ];exact h
theorem Z4T (c:UInt8) (r:List UInt8):(lX0 (c::r)).1=true:=by
 show decide ((0:Int)≤0∧0<(c::r).length)=true;exact Xa ⟨by omega,by rw[List.length_cons];omega⟩
theorem Z4U (c:UInt8) (r:List UInt8):(lN1 (c::r) 0 true).1=true:=Xa (by rw[List.length_cons];omega)
theorem Zj2 {u:List UInt8}{l:Log}(h1:¬ u=[110,97,110]) (h2:¬ u=[105,110,102]) (hl:Zx l):Zx (lBn u l):=Za (Za0 (Xb h2)) (Za (Za0 (Xb h1)) hl)
theorem Zai {b:Int}{v:List UInt8}{d:Bool}{l:Log}(h:(scA b v).2=d) (hb:b=10∨b=16) (hv:v.length≤10000) (hl:Zx l):Zx (lSc b v d l):=Za h (Za (Xa ⟨hb,by omega⟩) hl)
theorem Zpw {b:Int}{v:List UInt8}(hb:b=10∨b=16) (hv:v.length≤10000):Zzb b (dgs b v) (bhd b v) (scA b v).1=true∧(0≤bhd b v∧bhd b v≤10000)∧(-2000000≤(scA b v).1∧(scA b v).1≤2000000)∧(dgs b v).length≤10000:=by
 obtain⟨h1,h2,h3⟩:=ZtU b false v;have h4: -2000000≤(scA b v).1∧(scA b v).1≤2000000:=by
  unfold scA;split
  ·exact⟨show (-2000000:Int)≤0 by decide,show (0:Int)≤2000000 by decide⟩
  ·exact Z1R b _
 unfold Zzb dgs bhd;refine⟨?_,by omega,h4,by omega⟩;rw[h3,Xa ⟨hb,by omega,by omega,h4.1,h4.2⟩];rfl
theorem ZcP {b:Int}{v:List UInt8}{l:Log}(h:trZ (sc1 b false v).1=[]) (hb:b=10∨b=16) (hv:v.length≤10000) (hl:Zx l):Zx (lDz b v l):=Za (Xa h) (Za (Zpw hb hv).1 hl)
theorem ZcQ {n:Bool}{b:Int}{v:List UInt8}{l:Log}(h:¬ trZ (sc1 b false v).1=[]) (hb:b=10∨b=16) (hv:v.length≤10000) (hl:Zx l):Zx (lDn n b v (dnA b (trZ (dgs b v)) (bhd b v) (scA b v).1).1 (dnA b (trZ (dgs b v)) (bhd b v) (scA b v).1).2 l):=by
 obtain⟨h1,h2,h3,h4⟩:=Zpw hb hv;have ht:=Zn4 (dgs b v);obtain⟨b1,b2,b3⟩:=Z1S b hb (trZ (dgs b v)) (by omega) (bhd b v) (scA b v).1 h2 h3;obtain⟨V,hV⟩:∃ V,V=(dnA b (trZ (dgs b v)) (bhd b v) (scA b v).1).1:=⟨_,rfl⟩;obtain⟨E,hE⟩:∃ E,E=(dnA b (trZ (dgs b v)) (bhd b v) (scA b v).1).2:=⟨_,rfl⟩;rw[← hV] at b1;rw[← hE] at b2 b3;rw[← hV,← hE];have lV:=Zev b1;refine Za (Xa (Ze9 (V:=V) rfl)) (Za ?_ (Za (Xa (by rw[hV,hE])) (Za (Xb h) (Za h1 hl))));unfold Zpk Zad;rw[ZQ (A:=V) rfl (by omega),ZaJ (A:=V) rfl,show Zf6 (d16 V)=true from Zdj (Zei (by omega) _),Zl.2 (by omega),Xa ⟨b2,b3⟩];rfl
def pzT (x:Int×Int×Int):Value:= .tuple #[.int .u64 x.1,.int .i64 x.2.1,.int .i64 x.2.2]
theorem ZA2 (c:UInt8) (r:List UInt8) (m:Int) (hl:(c::r).length≤10000) (hs:sgT (c::r)=(true,r)) (lS:Zx (lSm c r)) (w:World):Calls prog 19 #[bR (c::r),.int .i64 m] w fun e w'=>e= .returned (pzT (rdP m (c::r)))∧Zav w w':=by
 have T0:=Zg ZdR Zgg;have hlu:r.length≤10000:=by rw[List.length_cons] at hl;omega
 have eP:rdP m (c::r)=if r=[110,97,110] then (9221120237041090560,0,0) else if r=[105,110,102] then (if true=true then 18442240474082181120 else 9218868437227405312,0,0) else rdQ m true (rdB r).1 (rdB r).2:=by
  unfold rdP;rw[if_neg (by omega),hs]
 rw[eP];by_cases h1:r=[110,97,110]
 ·rw[if_pos h1];exact Ze T0 (Z8I c r m) (Za (Za0 (Xa h1)) lS) (by rfl) (by rfl) w
 rw[if_neg h1];by_cases h2:r=[105,110,102]
 ·rw[if_pos h2];exact Ze T0 (Z8J c r m) (Za (Za0 (Xa h2)) (Za (Za0 (Xb h1)) lS)) (by rfl) (by rfl) w
 rw[if_neg h2];have lB:=Zj2 h1 h2 lS;by_cases hq:1<r.length
 ·have lq:=Za (show decide (((r.length:Nat):Int)>1)=true from Xa (by omega)) lB;have lp:(lPt r 2).1=true:=Xa ⟨by omega,by omega⟩;have lq:=Za lp lq;by_cases h16:r.take 2=[48,120]
  ·have eB:rdB r=(16,r.drop 2):=by unfold rdB;rw[if_pos ⟨hq,h16⟩]
   rw[eB];dsimp only;have hv:(r.drop 2).length≤10000:=by rw[List.length_drop];omega
   have lX:=Za lp (Za (Za0 (Xa h16)) lq);cases hk:(scA 16 (r.drop 2)).2 with
   | false=>
    have e:rdQ m true 16 (r.drop 2)=(0,0,3):=by unfold rdQ;rw[if_pos hk]
    rw[e];exact Ze T0 (Z42 c r m) (Zai hk (.inr rfl) hv lX) (by rfl) (by rfl) w
   | true=>
    have lY:=Zai hk (.inr rfl) hv lX;by_cases hz:trZ (sc1 16 false (r.drop 2)).1=[]
    ·have e:rdQ m true 16 (r.drop 2)=(9223372036854775808,0,0):=by unfold rdQ;rw[if_neg (by rw[hk];decide),if_pos hz];rfl
     rw[e];exact Ze T0 (Z43 c r m) (ZcP hz (.inr rfl) hv lY) (by rfl) (by rfl) w
    ·have e:rdQ m true 16 (r.drop 2)=(sS true (rnP m true (dnA 16 (trZ (dgs 16 (r.drop 2))) (bhd 16 (r.drop 2)) (scA 16 (r.drop 2)).1).1 (dnA 16 (trZ (dgs 16 (r.drop 2))) (bhd 16 (r.drop 2)) (scA 16 (r.drop 2)).1).2),rnF m true (dnA 16 (trZ (dgs 16 (r.drop 2))) (bhd 16 (r.drop 2)) (scA 16 (r.drop 2)).1).1 (dnA 16 (trZ (dgs 16 (r.drop 2))) (bhd 16 (r.drop 2)) (scA 16 (r.drop 2)).1).2,0):=by unfold rdQ;rw[if_neg (by rw[hk];decide),if_neg hz];rfl
     rw[e];exact Ze T0 (Z44 c r m _ _) (ZcQ hz (.inr rfl) hv lY) (by rfl) (by rfl) w
  ·have eB:rdB r=(10,r):=by unfold rdB;rw[if_neg (fun h=>h16 h.2)]
   rw[eB];dsimp only;have hv:=hlu;have lX:=Za (Za0 (Xb h16)) lq;cases hk:(scA 10 r).2 with
   | false=>
    have e:rdQ m true 10 r=(0,0,3):=by unfold rdQ;rw[if_pos hk]
    rw[e];exact Ze T0 (Z45 c r m) (Zai hk (.inl rfl) hv lX) (by rfl) (by rfl) w
   | true=>
    have lY:=Zai hk (.inl rfl) hv lX;by_cases hz:trZ (sc1 10 false r).1=[]
    ·have e:rdQ m true 10 r=(9223372036854775808,0,0):=by unfold rdQ;rw[if_neg (by rw[hk];decide),if_pos hz];rfl
     rw[e];exact Ze T0 (Z46 c r m) (ZcP hz (.inl rfl) hv lY) (by rfl) (by rfl) w
    ·have e:rdQ m true 10 r=(sS true (rnP m true (dnA 10 (trZ (dgs 10 r)) (bhd 10 r) (scA 10 r).1).1 (dnA 10 (trZ (dgs 10 r)) (bhd 10 r) (scA 10 r).1).2),rnF m true (dnA 10 (trZ (dgs 10 r)) (bhd 10 r) (scA 10 r).1).1 (dnA 10 (trZ (dgs 10 r)) (bhd 10 r) (scA 10 r).1).2,0):=by unfold rdQ;rw[if_neg (by rw[hk];decide),if_neg hz];rfl
     rw[e];exact Ze T0 (Z47 c r m _ _) (ZcQ hz (.inl rfl) hv lY) (by rfl) (by rfl) w
 ·have eB:rdB r=(10,r):=by unfold rdB;rw[if_neg (fun h=>hq h.1)]
  rw[eB];dsimp only;have hv:=hlu;have lX:=Za (show decide (((r.length:Nat):Int)>1)=false from Xb (by omega)) lB;cases hk:(scA 10 r).2 with
  | false=>
   have e:rdQ m true 10 r=(0,0,3):=by unfold rdQ;rw[if_pos hk]
   rw[e];exact Ze T0 (Z48 c r m) (Zai hk (.inl rfl) hv lX) (by rfl) (by rfl) w
  | true=>
   have lY:=Zai hk (.inl rfl) hv lX;by_cases hz:trZ (sc1 10 false r).1=[]
   ·have e:rdQ m true 10 r=(9223372036854775808,0,0):=by unfold rdQ;rw[if_neg (by rw[hk];decide),if_pos hz];rfl
    rw[e];exact Ze T0 (Z49 c r m) (ZcP hz (.inl rfl) hv lY) (by rfl) (by rfl) w
   ·have e:rdQ m true 10 r=(sS true (rnP m true (dnA 10 (trZ (dgs 10 r)) (bhd 10 r) (scA 10 r).1).1 (dnA 10 (trZ (dgs 10 r)) (bhd 10 r) (scA 10 r).1).2),rnF m true (dnA 10 (trZ (dgs 10 r)) (bhd 10 r) (scA 10 r).1).1 (dnA 10 (trZ (dgs 10 r)) (bhd 10 r) (scA 10 r).1).2,0):=by unfold rdQ;rw[if_neg (by rw[hk];decide),if_neg hz];rfl
    rw[e];exact Ze T0 (Z4A c r m _ _) (ZcQ hz (.inl rfl) hv lY) (by rfl) (by rfl) w
theorem ZA3 (c:UInt8) (r:List UInt8) (m:Int) (hl:(c::r).length≤10000) (hs:sgT (c::r)=(false,r)) (lS:Zx (lSp c r)) (w:World):Calls prog 19 #[bR (c::r),.int .i64 m] w fun e w'=>e= .returned (pzT (rdP m (c::r)))∧Zav w w':=by
 have T0:=Zg ZdR Zgg;have hlu:r.length≤10000:=by rw[List.length_cons] at hl;omega
 have eP:rdP m (c::r)=if r=[110,97,110] then (9221120237041090560,0,0) else if r=[105,110,102] then (if false=true then 18442240474082181120 else 9218868437227405312,0,0) else rdQ m false (rdB r).1 (rdB r).2:=by
  unfold rdP;rw[if_neg (by omega),hs]
 rw[eP];by_cases h1:r=[110,97,110]
 ·rw[if_pos h1];exact Ze T0 (Z8K c r m) (Za (Za0 (Xa h1)) lS) (by rfl) (by rfl) w
 rw[if_neg h1];by_cases h2:r=[105,110,102]
 ·rw[if_pos h2];exact Ze T0 (Z8L c r m) (Za (Za0 (Xa h2)) (Za (Za0 (Xb h1)) lS)) (by rfl) (by rfl) w
 rw[if_neg h2];have lB:=Zj2 h1 h2 lS;by_cases hq:1<r.length
 ·have lq:=Za (show decide (((r.length:Nat):Int)>1)=true from Xa (by omega)) lB;have lp:(lPt r 2).1=true:=Xa ⟨by omega,by omega⟩;have lq:=Za lp lq;by_cases h16:r.take 2=[48,120]
  ·have eB:rdB r=(16,r.drop 2):=by unfold rdB;rw[if_pos ⟨hq,h16⟩]
   rw[eB];dsimp only;have hv:(r.drop 2).length≤10000:=by rw[List.length_drop];omega
   have lX:=Za lp (Za (Za0 (Xa h16)) lq);cases hk:(scA 16 (r.drop 2)).2 with
   | false=>
    have e:rdQ m false 16 (r.drop 2)=(0,0,3):=by unfold rdQ;rw[if_pos hk]
    rw[e];exact Ze T0 (Z4B c r m) (Zai hk (.inr rfl) hv lX) (by rfl) (by rfl) w
   | true=>
    have lY:=Zai hk (.inr rfl) hv lX;by_cases hz:trZ (sc1 16 false (r.drop 2)).1=[]
    ·have e:rdQ m false 16 (r.drop 2)=(0,0,0):=by unfold rdQ;rw[if_neg (by rw[hk];decide),if_pos hz];rfl
     rw[e];exact Ze T0 (Z4C c r m) (ZcP hz (.inr rfl) hv lY) (by rfl) (by rfl) w
    ·have e:rdQ m false 16 (r.drop 2)=(sS false (rnP m false (dnA 16 (trZ (dgs 16 (r.drop 2))) (bhd 16 (r.drop 2)) (scA 16 (r.drop 2)).1).1 (dnA 16 (trZ (dgs 16 (r.drop 2))) (bhd 16 (r.drop 2)) (scA 16 (r.drop 2)).1).2),rnF m false (dnA 16 (trZ (dgs 16 (r.drop 2))) (bhd 16 (r.drop 2)) (scA 16 (r.drop 2)).1).1 (dnA 16 (trZ (dgs 16 (r.drop 2))) (bhd 16 (r.drop 2)) (scA 16 (r.drop 2)).1).2,0):=by unfold rdQ;rw[if_neg (by rw[hk];decide),if_neg hz];rfl
     rw[e];exact Ze T0 (Z4D c r m _ _) (ZcQ hz (.inr rfl) hv lY) (by rfl) (by rfl) w
  ·have eB:rdB r=(10,r):=by unfold rdB;rw[if_neg (fun h=>h16 h.2)]
   rw[eB];dsimp only;have hv:=hlu;have lX:=Za (Za0 (Xb h16)) lq;cases hk:(scA 10 r).2 with
   | false=>
    have e:rdQ m false 10 r=(0,0,3):=by unfold rdQ;rw[if_pos hk]
    rw[e];exact Ze T0 (Z4E c r m) (Zai hk (.inl rfl) hv lX) (by rfl) (by rfl) w
   | true=>
    have lY:=Zai hk (.inl rfl) hv lX;by_cases hz:trZ (sc1 10 false r).1=[]
    ·have e:rdQ m false 10 r=(0,0,0):=by unfold rdQ;rw[if_neg (by rw[hk];decide),if_pos hz];rfl
     rw[e];exact Ze T0 (Z4F c r m) (ZcP hz (.inl rfl) hv lY) (by rfl) (by rfl) w
    ·have e:rdQ m false 10 r=(sS false (rnP m false (dnA 10 (trZ (dgs 10 r)) (bhd 10 r) (scA 10 r).1).1 (dnA 10 (trZ (dgs 10 r)) (bhd 10 r) (scA 10 r).1).2),rnF m false (dnA 10 (trZ (dgs 10 r)) (bhd 10 r) (scA 10 r).1).1 (dnA 10 (trZ (dgs 10 r)) (bhd 10 r) (scA 10 r).1).2,0):=by unfold rdQ;rw[if_neg (by rw[hk];decide),if_neg hz];rfl
     rw[e];exact Ze T0 (Z4G c r m _ _) (ZcQ hz (.inl rfl) hv lY) (by rfl) (by rfl) w
 ·have eB:rdB r=(10,r):=by unfold rdB;rw[if_neg (fun h=>hq h.1)]
  rw[eB];dsimp only;have hv:=hlu;have lX:=Za (show decide (((r.length:Nat):Int)>1)=false from Xb (by omega)) lB;cases hk:(scA 10 r).2 with
  | false=>
   have e:rdQ m false 10 r=(0,0,3):=by unfold rdQ;rw[if_pos hk]
   rw[e];exact Ze T0 (Z4H c r m) (Zai hk (.inl rfl) hv lX) (by rfl) (by rfl) w
  | true=>
   have lY:=Zai hk (.inl rfl) hv lX;by_cases hz:trZ (sc1 10 false r).1=[]
   ·have e:rdQ m false 10 r=(0,0,0):=by unfold rdQ;rw[if_neg (by rw[hk];decide),if_pos hz];rfl
    rw[e];exact Ze T0 (Z4I c r m) (ZcP hz (.inl rfl) hv lY) (by rfl) (by rfl) w
   ·have e:rdQ m false 10 r=(sS false (rnP m false (dnA 10 (trZ (dgs 10 r)) (bhd 10 r) (scA 10 r).1).1 (dnA 10 (trZ (dgs 10 r)) (bhd 10 r) (scA 10 r).1).2),rnF m false (dnA 10 (trZ (dgs 10 r)) (bhd 10 r) (scA 10 r).1).1 (dnA 10 (trZ (dgs 10 r)) (bhd 10 r) (scA 10 r).1).2,0):=by unfold rdQ;rw[if_neg (by rw[hk];decide),if_neg hz];rfl
    rw[e];exact Ze T0 (Z4J c r m _ _) (ZcQ hz (.inl rfl) hv lY) (by rfl) (by rfl) w
theorem ZA4 (c:UInt8) (r:List UInt8) (m:Int) (hl:(c::r).length≤10000) (hs:sgT (c::r)=(false,(c::r))) (lS:Zx (ZkG c r)) (w:World):Calls prog 19 #[bR (c::r),.int .i64 m] w fun e w'=>e= .returned (pzT (rdP m (c::r)))∧Zav w w':=by
 have T0:=Zg ZdR Zgg;have hlu:(c::r).length≤10000:=by exact hl
 have eP:rdP m (c::r)=if (c::r)=[110,97,110] then (9221120237041090560,0,0) else if (c::r)=[105,110,102] then (if false=true then 18442240474082181120 else 9218868437227405312,0,0) else rdQ m false (rdB (c::r)).1 (rdB (c::r)).2:=by
  unfold rdP;rw[if_neg (by omega),hs]
 rw[eP];by_cases h1:(c::r)=[110,97,110]
 ·rw[if_pos h1];exact Ze T0 (Z8M c r m) (Za (Za0 (Xa h1)) lS) (by rfl) (by rfl) w
 rw[if_neg h1];by_cases h2:(c::r)=[105,110,102]
 ·rw[if_pos h2];exact Ze T0 (Z8N c r m) (Za (Za0 (Xa h2)) (Za (Za0 (Xb h1)) lS)) (by rfl) (by rfl) w
 rw[if_neg h2];have lB:=Zj2 h1 h2 lS;by_cases hq:1<(c::r).length
 ·have lq:=Za (show decide ((((c::r).length:Nat):Int)>1)=true from Xa (by omega)) lB;have lp:(lPt (c::r) 2).1=true:=Xa ⟨by omega,by omega⟩;have lq:=Za lp lq;by_cases h16:(c::r).take 2=[48,120]
  ·have eB:rdB (c::r)=(16,(c::r).drop 2):=by unfold rdB;rw[if_pos ⟨hq,h16⟩]
   rw[eB];dsimp only;have hv:((c::r).drop 2).length≤10000:=by rw[List.length_drop];omega
   have lX:=Za lp (Za (Za0 (Xa h16)) lq);cases hk:(scA 16 ((c::r).drop 2)).2 with
   | false=>
    have e:rdQ m false 16 ((c::r).drop 2)=(0,0,3):=by unfold rdQ;rw[if_pos hk]
    rw[e];exact Ze T0 (Z4K c r m) (Zai hk (.inr rfl) hv lX) (by rfl) (by rfl) w
   | true=>
    have lY:=Zai hk (.inr rfl) hv lX;by_cases hz:trZ (sc1 16 false ((c::r).drop 2)).1=[]
    ·have e:rdQ m false 16 ((c::r).drop 2)=(0,0,0):=by unfold rdQ;rw[if_neg (by rw[hk];decide),if_pos hz];rfl
     rw[e];exact Ze T0 (Z4L c r m) (ZcP hz (.inr rfl) hv lY) (by rfl) (by rfl) w
    ·have e:rdQ m false 16 ((c::r).drop 2)=(sS false (rnP m false (dnA 16 (trZ (dgs 16 ((c::r).drop 2))) (bhd 16 ((c::r).drop 2)) (scA 16 ((c::r).drop 2)).1).1 (dnA 16 (trZ (dgs 16 ((c::r).drop 2))) (bhd 16 ((c::r).drop 2)) (scA 16 ((c::r).drop 2)).1).2),rnF m false (dnA 16 (trZ (dgs 16 ((c::r).drop 2))) (bhd 16 ((c::r).drop 2)) (scA 16 ((c::r).drop 2)).1).1 (dnA 16 (trZ (dgs 16 ((c::r).drop 2))) (bhd 16 ((c::r).drop 2)) (scA 16 ((c::r).drop 2)).1).2,0):=by unfold rdQ;rw[if_neg (by rw[hk];decide),if_neg hz];rfl
     rw[e];exact Ze T0 (Z4M c r m _ _) (ZcQ hz (.inr rfl) hv lY) (by rfl) (by rfl) w
  ·have eB:rdB (c::r)=(10,(c::r)):=by unfold rdB;rw[if_neg (fun h=>h16 h.2)]
   rw[eB];dsimp only;have hv:=hlu;have lX:=Za (Za0 (Xb h16)) lq;cases hk:(scA 10 (c::r)).2 with
   | false=>
    have e:rdQ m false 10 (c::r)=(0,0,3):=by unfold rdQ;rw[if_pos hk]
    rw[e];exact Ze T0 (Z4N c r m) (Zai hk (.inl rfl) hv lX) (by rfl) (by rfl) w
   | true=>
    have lY:=Zai hk (.inl rfl) hv lX;by_cases hz:trZ (sc1 10 false (c::r)).1=[]
    ·have e:rdQ m false 10 (c::r)=(0,0,0):=by unfold rdQ;rw[if_neg (by rw[hk];decide),if_pos hz];rfl
     rw[e];exact Ze T0 (Z4O c r m) (ZcP hz (.inl rfl) hv lY) (by rfl) (by rfl) w
    ·have e:rdQ m false 10 (c::r)=(sS false (rnP m false (dnA 10 (trZ (dgs 10 (c::r))) (bhd 10 (c::r)) (scA 10 (c::r)).1).1 (dnA 10 (trZ (dgs 10 (c::r))) (bhd 10 (c::r)) (scA 10 (c::r)).1).2),rnF m false (dnA 10 (trZ (dgs 10 (c::r))) (bhd 10 (c::r)) (scA 10 (c::r)).1).1 (dnA 10 (trZ (dgs 10 (c::r))) (bhd 10 (c::r)) (scA 10 (c::r)).1).2,0):=by unfold rdQ;rw[if_neg (by rw[hk];decide),if_neg hz];rfl
     rw[e];exact Ze T0 (Z4P c r m _ _) (ZcQ hz (.inl rfl) hv lY) (by rfl) (by rfl) w
 ·have eB:rdB (c::r)=(10,(c::r)):=by unfold rdB;rw[if_neg (fun h=>hq h.1)]
  rw[eB];dsimp only;have hv:=hlu;have lX:=Za (show decide ((((c::r).length:Nat):Int)>1)=false from Xb (by omega)) lB;cases hk:(scA 10 (c::r)).2 with
  | false=>
   have e:rdQ m false 10 (c::r)=(0,0,3):=by unfold rdQ;rw[if_pos hk]
   rw[e];exact Ze T0 (Z4Q c r m) (Zai hk (.inl rfl) hv lX) (by rfl) (by rfl) w
  | true=>
   have lY:=Zai hk (.inl rfl) hv lX;by_cases hz:trZ (sc1 10 false (c::r)).1=[]
   ·have e:rdQ m false 10 (c::r)=(0,0,0):=by unfold rdQ;rw[if_neg (by rw[hk];decide),if_pos hz];rfl
    rw[e];exact Ze T0 (Z4R c r m) (ZcP hz (.inl rfl) hv lY) (by rfl) (by rfl) w
   ·have e:rdQ m false 10 (c::r)=(sS false (rnP m false (dnA 10 (trZ (dgs 10 (c::r))) (bhd 10 (c::r)) (scA 10 (c::r)).1).1 (dnA 10 (trZ (dgs 10 (c::r))) (bhd 10 (c::r)) (scA 10 (c::r)).1).2),rnF m false (dnA 10 (trZ (dgs 10 (c::r))) (bhd 10 (c::r)) (scA 10 (c::r)).1).1 (dnA 10 (trZ (dgs 10 (c::r))) (bhd 10 (c::r)) (scA 10 (c::r)).1).2,0):=by unfold rdQ;rw[if_neg (by rw[hk];decide),if_neg hz];rfl
    rw[e];exact Ze T0 (Z4S c r m _ _) (ZcQ hz (.inl rfl) hv lY) (by rfl) (by rfl) w
theorem Zte (l:List UInt8) (m:Int) (h:l.length≤10000∨65536<l.length) (w:World):Calls prog 19 #[bR l,.int .i64 m] w fun e w'=>e= .returned (pzT (rdP m l))∧Zav w w':=by
 have T0:=Zg ZdR Zgg;by_cases hl:65536<l.length
 ·have e:rdP m l=(0,0,2):=by unfold rdP;rw[if_pos hl]
  rw[e];exact Ze T0 (ZA0 l m) (Z6 (Xa (by omega))) (by rfl) (by rfl) w
 have hl:l.length≤10000:=by omega
 cases l with
 | nil=>
  have e:rdP m []=(0,0,3):=by
   unfold rdP;rw[if_neg (by decide),if_neg (by decide),if_neg (by decide)];rfl
  rw[e];exact Ze T0 (ZA1 m) (Zai rfl (.inl rfl) (by decide) (Za rfl (Zj2 (by decide) (by decide) (Za rfl (Za rfl (Z6 rfl)))))) (by rfl) (by rfl) w
 | cons c r=>
  have x0:=Z4T c r;have n0:=Z4U c r;have n6:(lN1 (c::r) 65536 false).1=false:=Xb (by omega);have p1:(lPt (c::r) 1).1=true:=Xa ⟨by omega,by rw[List.length_cons];omega⟩;by_cases h45:lq8 c=45
  ·have c1:(lCh c 45 true).1=true:=ZN h45;exact ZA2 c r m hl (by unfold sgT;dsimp only;rw[if_pos h45]) (Za p1 (Za c1 (Za x0 (Za n0 (Za c1 (Za x0 (Za n0 (Z6 n6)))))))) w
  have c1:(lCh c 45 false).1=false:=ZE h45;by_cases h43:lq8 c=43
  ·have c2:(lCh c 43 true).1=true:=ZN h43;exact ZA3 c r m hl (by unfold sgT;dsimp only;rw[if_neg h45,if_pos h43]) (Za p1 (Za c2 (Za x0 (Za c1 (Za x0 (Za n0 (Za c1 (Za x0 (Za n0 (Z6 n6)))))))))) w
  ·have c2:(lCh c 43 false).1=false:=ZE h43;exact ZA4 c r m hl (by unfold sgT;dsimp only;rw[if_neg h45,if_neg h43]) (Za c2 (Za x0 (Za c1 (Za x0 (Za n0 (Za c1 (Za x0 (Za n0 (Z6 n6))))))))) w
def gRP:Ans:=fun vals s=>
 match vals with
 | [.string ⟨⟨l⟩⟩,.int .i64 m]=>some (pzT (rdP m l),s,[(decide (l.length≤10000∨65536<l.length),true)])
 | _=>none
theorem Z4V:z8 19 gRP:=by
 intro vals s v s' lg h hl w;unfold gRP at h;split at h
 ·cases h;exact Zte _ _ (Xc (hl _ Xf)) w
 ·cases h
end Go.Proofs.YtgefjidphfdhdaaGreatDoor
namespace Go.Proofs.YtgefjidphfdhdaaGreatDoor
open Go.Proofs.Tryz
open Go.IntKind
open Go.KRun Go.Nt Go.Rd Go.Pt
set_option maxRecDepth 100000
def cnE:List UInt8→Nat
 | []=>0
 | c::r=>if lq8 c=101 then 0 else (if 48≤lq8 c∧lq8 c≤57 then 1 else 0)+cnE r
theorem Zu5 {s:List UInt8}(h:Zac 10 s=true) (t:List UInt8):cnE (s++101::t)=s.length:=by
 induction s with
 | nil=>rfl
 | cons c r ih=>
  have h':(0≤zl (lq8 c) 10)∧Zac 10 r=true:=by
   unfold Zac at h ⊢;rw[List.all_cons,Xh] at h;exact⟨Xc h.1,h.2⟩
  have hc:48≤lq8 c∧lq8 c≤57:=by
   have h1:=h'.1;unfold zl at h1;split at h1
   ·assumption
   ·rw[if_neg (fun x=>absurd x.1 (by decide))] at h1;omega
  show (if lq8 c=101 then 0 else (if 48≤lq8 c∧lq8 c≤57 then 1 else 0)+cnE (r++101::t))=r.length+1;rw[if_neg (by omega),if_pos hc,ih h'.2];omega
theorem Ztf (b:Bool) {s:List UInt8}(h:Zac 10 s=true) (e:Int):cnE (txL b s e)=s.length:=by
 have hm:∀ l,cnE (45::l)=cnE l:=fun l=>by
  show (if lq8 45=101 then 0 else (if 48≤lq8 45∧lq8 45≤57 then 1 else 0)+cnE l)=cnE l;rw[if_neg (by decide),if_neg (by decide)];omega
 have hp:∀ l,cnE (46::l)=cnE l:=fun l=>by
  show (if lq8 46=101 then 0 else (if 48≤lq8 46∧lq8 46≤57 then 1 else 0)+cnE l)=cnE l;rw[if_neg (by decide),if_neg (by decide)];omega
 have key:cnE (txL false s e)=s.length:=by
  unfold txL;rw[if_neg (by decide),List.nil_append]
  match s,h with
  | [],_=>rfl
  | [c],h=>exact Zu5 (s:=[c]) h _
  | c::d::r,h=>
   have h1:=Zu5 h (Zbr e);have e1:cnE (c::46::(d::r++101::Zbr e))=cnE (c::(d::r++101::Zbr e)):=by
    show (if lq8 c=101 then 0 else (if 48≤lq8 c∧lq8 c≤57 then 1 else 0)+cnE (46::(d::r++101::Zbr e)))=(if lq8 c=101 then 0 else (if 48≤lq8 c∧lq8 c≤57 then 1 else 0)+cnE (d::r++101::Zbr e));rw[hp]
   exact e1.trans h1
 cases b with
 | false=>exact key
 | true=>rw[ZrX,hm];exact key
theorem Zcy {n q:Nat}(hn:1≤n) (h1:10^(n-1)≤q) (h2:q<10^n):(Zbz n q).length=n:=by
 obtain⟨k,rfl⟩:∃ k,n=k+1:=⟨n-1,by omega⟩;clear hn
 induction k generalizing q with
 | zero=>
  unfold Zbz;rw[if_pos (by omega)];rfl
 | succ k ih=>
  unfold Zbz;have e:10^(k+1+1-1)=10^(k+1-1)*10:=by rw[← Nat.pow_succ];congr 1
  have e2:10^(k+1+1)=10^(k+1)*10:=Nat.pow_succ ..;have p1:0<10^(k+1-1):=Nat.pow_pos (by omega);rw[if_neg (by omega),List.length_append,ih (by omega) (by omega)];rfl
theorem Z8O (b:Bool) {n q:Nat}(hn:1≤n) (h1:10^(n-1)≤q) (h2:q<10^n) (f:Int):cnE (hiX b n q f)=n:=by
 have p1:10^n=10^(n-1)*10:=by rw[← Nat.pow_succ];congr 1;omega
 have p0:0<10^(n-1):=Nat.pow_pos (by omega);unfold hiX;split
 ·rw[Ztf b (Za5 _ _ 10)];exact Zcy hn (Nat.le_refl _) (by omega)
 ·rw[Ztf b (Za5 _ _ 10)];exact Zcy hn (by omega) (by omega)
theorem Zpx {p:Int}(h:Fin14 p):cnE (shS p)=nP p:=by
 obtain⟨a,b,_⟩:=Zag h;obtain⟨q1,q2⟩:=Zkp (Zd5 h).1 b.1;rw[a];unfold shO;split
 ·rw[Ztf _ (Za5 _ _ 10)];exact Zcy b.1 q1 q2
 ·exact Z8O _ b.1 q1 q2 _
theorem Z8P {p:Int}(hp:U p):cnE (shT p)≤17:=by
 unfold shT;by_cases hs:spK p≠0
 ·rw[if_pos hs];have:∀ k,cnE (spL k)≤17:=fun k=>by
   unfold spL
   repeat' split
   all_goals decide
  exact this _
 ·rw[if_neg hs];by_cases h0:cl p=0
  ·rw[if_pos h0,Ztf _ (by decide)]
   decide
  ·rw[if_neg h0];have h2:cl p≤2:=by
    rcases Int.lt_or_le 2 (cl p) with c | c
    ·exact absurd (Zpn hp (by omega)).1 hs
    ·exact c
   have hf:=Zcx (Zhi h2 h0);rw[Zpx hf];exact (Zag hf).2.1.2
theorem Zzo {S:List UInt8}{i:Nat}(h:i<S.length):cnE (S.drop i)=if lq8 (S.getD i 0)=101 then 0 else (if 48≤lq8 (S.getD i 0)∧lq8 (S.getD i 0)≤57 then 1 else 0)+cnE (S.drop (i+1)):=by
 have e:S.drop i=S.getD i 0::S.drop (i+1):=by
  rw[List.drop_eq_getElem_cons h];congr 1;simp [List.getD,h]
 rw[e];rfl
theorem Zpy:∀ S:List UInt8,cnE S≤S.length
 | []=>Nat.le_refl _
 | c::r=>by
  have:=Zpy r;show (if lq8 c=101 then 0 else (if 48≤lq8 c∧lq8 c≤57 then 1 else 0)+cnE r)≤r.length+1;split
  ·omega
  ·split<;>omega
theorem Zpz {p:Int}(hp:U p):(if decide (9223372036854775808≤p)=true then 9223372036854775808+mag p else mag p)=p:=by
 unfold U at hp;unfold mag;by_cases hh:(9223372036854775808:Int)≤p
 ·rw[if_pos (Xa hh)];omega
 ·rw[if_neg (by simpa using hh)];omega
def Zbi:Con:=alt 19 gRP Zo
theorem Ztg:ConOk Zbi:=ZI func19 rfl Z4V Zd
theorem Zcz:TabOk (Zk prog Zf Zbi Zfo):=Zg Ztg Zzn
def feF (p:Int) (S:List UInt8) (n:Int):List Value:=[.int .u64 p,undef,.bool false,bR S,.int .i64 n]
def feG (p:Int) (S:List UInt8) (n i:Int):List Value:=[.int .u64 p,undef,.bool false,bR S,.int .i64 n,.int .i64 i]
def feH (p:Int) (S:List UInt8) (n i m:Int):List Value:=[.int .u64 p,undef,.bool false,bR S,.int .i64 n,.int .i64 i,.int .i64 m]
def Zzp (F:Func):Code:=cIn (cIn (Z1 (sP F 3)))
def Z5u (F:Func):Code:=cIn (cIn (Z1 (sP F 5)))
theorem Zzq:f7.body=some (zg [sP f7 0,sP f7 1,sP f7 2] (.seq (.seq (Z3 (sP f7 3)) (.block 0 (.loop (Zzp f7)))) (.seq (sP f7 4) (.seq (.seq (Z3 (sP f7 5)) (.block 2 (.loop (Z5u f7)))) (sK f7 6))))):=by kernel_rfl
theorem Z4W (p:Int):Zh (evL (Zk prog Zf Zbi Zfo) 200 [sP f7 0,sP f7 1,sP f7 2] ([.int .u64 p]++List.replicate 88 undef,hT0,[]) ⟨[],[],[]⟩) 5 84 none (feF p (shT p) 0) hT0 [(decide (U p),true)]:=by and_intros<;>kernel_rfl
theorem Z8Q (p n:Int) (S:List UInt8) (g:Nat→Value):Zh (evC (Zk prog Zf Zbi Zfo) 200 false (Z3 (sP f7 3)) (feF p S n++tl 84 g,hT0,[]) ⟨[],[],[]⟩) 6 83 none (feG p S n 0) hT0 []:=by and_intros<;>kernel_rfl
def ltS (S:List UInt8) (i:Int):Bool×Bool:=(decide (i<((S.length:Nat):Int)),true)
def inS (S:List UInt8) (i:Int):Bool×Bool:=(decide (0≤i∧i.toNat<S.length),true)
theorem Z8R (p n i:Int) (S:List UInt8) (g:Nat→Value):Zh (evC (Zk prog Zf Zbi Zfo) 200 false (Zzp f7) (feG p S n i++tl 83 g,hT0,[cmp false]) ⟨[],[],[]⟩) 6 83 (some (some 0)) (feG p S n i) hT0 [(decide (i<((S.length:Nat):Int)),false)]:=by and_intros<;>kernel_rfl
theorem Z8S (p n i:Int) (S:List UInt8) (g:Nat→Value):Zh (evC (Zk prog Zf Zbi Zfo) 200 false (Zzp f7) (feG p S n i++tl 83 g,hT0,[cmp true,cmp false]) ⟨[],[],[]⟩) 6 83 (some (some 0)) (feG p S n i) hT0 [(lq8 (S.getD i.toNat 0) !=101,false),inS S i,ltS S i]:=by and_intros<;>kernel_rfl
theorem Z8T (p n i:Int) (S:List UInt8) (g:Nat→Value):Zh (evC (Zk prog Zf Zbi Zfo) 200 false (Zzp f7) (feG p S n i++tl 83 g,hT0,[cmp true,cmp true,cmp true,cmp true]) ⟨[],[],[]⟩) 6 83 none (feG p S (i64.wrap (n+1)) (i64.wrap (i+1))) hT0 [(decide (lq8 (S.getD i.toNat 0)≤57),true),inS S i,(decide (lq8 (S.getD i.toNat 0)≥48),true),inS S i,(lq8 (S.getD i.toNat 0) !=101,true),inS S i,ltS S i]:=by and_intros<;>kernel_rfl
theorem Z8U (p n i:Int) (S:List UInt8) (g:Nat→Value):Zh (evC (Zk prog Zf Zbi Zfo) 200 false (Zzp f7) (feG p S n i++tl 83 g,hT0,[cmp true,cmp true,cmp true,cmp false]) ⟨[],[],[]⟩) 6 83 none (feG p S n (i64.wrap (i+1))) hT0 [(decide (lq8 (S.getD i.toNat 0)≤57),false),inS S i,(decide (lq8 (S.getD i.toNat 0)≥48),true),inS S i,(lq8 (S.getD i.toNat 0) !=101,true),inS S i,ltS S i]:=by and_intros<;>kernel_rfl
theorem Z8V (p n i:Int) (S:List UInt8) (g:Nat→Value):Zh (evC (Zk prog Zf Zbi Zfo) 200 false (Zzp f7) (feG p S n i++tl 83 g,hT0,[cmp true,cmp true,cmp false]) ⟨[],[],[]⟩) 6 83 none (feG p S n (i64.wrap (i+1))) hT0 [(decide (lq8 (S.getD i.toNat 0)≥48),false),inS S i,(lq8 (S.getD i.toNat 0) !=101,true),inS S i,ltS S i]:=by and_intros<;>kernel_rfl
def mgS (p:Int):Int:=Z5i p 9223372036854775808
def feR (p:Int) (S:List UInt8) (n i:Int):List Value:=[.int .u64 p,undef,.bool true,bR S,.int .i64 n,.int .i64 i]
theorem Z8W (p n i:Int) (S:List UInt8) (g:Nat→Value):Zh (evC (Zk prog Zf Zbi Zfo) 200 false (sP f7 4) (feG p S n i++tl 83 g,hT0,[cmp true,cmp true]) ⟨[],[],[]⟩) 6 83 (some none) (feR p S n i) hT0 [(decide (n≤17),true),(mgS p==0,true)]:=by and_intros<;>kernel_rfl
theorem Z8X (p n i:Int) (S:List UInt8) (g:Nat→Value):Zh (evC (Zk prog Zf Zbi Zfo) 200 false (sP f7 4) (feG p S n i++tl 83 g,hT0,[cmp false,cmp true,cmp true]) ⟨[],[],[]⟩) 6 83 (some none) (feR p S n i) hT0 [(decide (n≤17),true),(decide (mgS p≥9218868437227405312),true),(mgS p==0,false)]:=by and_intros<;>kernel_rfl
theorem Z8Y (p n i:Int) (S:List UInt8) (g:Nat→Value):Zh (evC (Zk prog Zf Zbi Zfo) 200 false (sP f7 4) (feG p S n i++tl 83 g,hT0,[cmp false,cmp false,cmp true,cmp true]) ⟨[],[],[]⟩) 6 83 (some none) (feR p S n i) hT0 [(decide (n≤17),true),(decide (n<2),true),(decide (mgS p≥9218868437227405312),false),(mgS p==0,false)]:=by and_intros<;>kernel_rfl
theorem Z8Z (p n i:Int) (S:List UInt8) (g:Nat→Value):Zh (evC (Zk prog Zf Zbi Zfo) 200 false (sP f7 4) (feG p S n i++tl 83 g,hT0,[cmp false,cmp false,cmp false]) ⟨[],[],[]⟩) 6 83 none (feG p S n i) hT0 [(decide (n<2),false),(decide (mgS p≥9218868437227405312),false),(mgS p==0,false)]:=by and_intros<;>kernel_rfl
theorem Z9a (p n i:Int) (S:List UInt8) (g:Nat→Value):Zh (evC (Zk prog Zf Zbi Zfo) 200 false (Z3 (sP f7 5)) (feG p S n i++tl 83 g,hT0,[]) ⟨[],[],[]⟩) 7 82 none (feH p S n i 0) hT0 []:=by and_intros<;>kernel_rfl
theorem Z9b (p n i m:Int) (S:List UInt8) (g:Nat→Value):Zh (evC (Zk prog Zf Zbi Zfo) 200 false (Z5u f7) (feH p S n i m++tl 82 g,hT0,[cmp false]) ⟨[],[],[]⟩) 7 82 (some (some 2)) (feH p S n i m) hT0 [(decide (m≤4),false)]:=by and_intros<;>kernel_rfl
def nd1 (n:Int):Int:=i64.wrap (n-1)
theorem Z9c (p n i m:Int) (S:List UInt8) (g:Nat→Value):Zh (evC (Zk prog Zf Zbi Zfo) 200 false (Z5u f7) (feH p S n i m++tl 82 g,hT0,[cmp true,cmp true,cmp false,cmp false]) ⟨[],[],[]⟩) 7 82 none (feH p S n i (i64.wrap (m+1))) hT0 [((rdP 0 (Zdv p (nd1 n).toNat m)).1==p,false),((rdP 0 (Zdv p (nd1 n).toNat m)).2.2 !=0,false),(decide ((Zdv p (nd1 n).toNat m).length≤10000∨65536<(Zdv p (nd1 n).toNat m).length),true),(decide (1≤nd1 n∧nd1 n≤1000),true),(decide (U p),true),(decide (m≤4),true)]:=by and_intros<;>kernel_rfl
theorem ZA5 (p n i m:Int) (S:List UInt8) (g:Nat→Value):Zh (evC (Zk prog Zf Zbi Zfo) 200 false (sK f7 6) (feH p S n i m++tl 82 g,hT0,[cmp true]) ⟨[],[],[]⟩) 6 83 (some none) (feR p S n i) hT0 [(decide (n≤17),true)]:=by and_intros<;>kernel_rfl
def feS (p:Int) (S:List UInt8) (i:Nat) (y:Lf):Prop:=i≤S.length∧∃ (k:Nat) (g:Nat→Value),k+cnE (S.drop i)=cnE S∧y.1=feG p S k i++tl 83 g∧y.2.1=hT0
def feD (p:Int) (S:List UInt8) (y:Lf):Prop:=∃ (i:Int) (g:Nat→Value),y.1=feG p S (cnE S:Nat) i++tl 83 g∧y.2.1=hT0
theorem Z9d (p:Int) (S:List UInt8) (hS:S.length≤10000) (r:Nat) (y:Lf) (hy:∃ i,r=S.length-i∧feS p S i y):
  Runs (Zk prog Zf Zbi Zfo) (Zzp f7) y fun e z=>match e with | none=>∃ r',r'<r∧∃ i,r'=S.length-i∧feS p S i z | some none=>False | some (some id')=>id'=0∧feD p S z:=by
 obtain⟨i,hr,hi,k,g,hk,ht,hh⟩:=hy;obtain⟨t,h',sc⟩:=y;simp only at ht hh;subst ht hh;by_cases hc:i<S.length
 ·have hd:=Zzo hc;have l1:(ltS S (i:Nat)).1=(ltS S (i:Nat)).2:=Xa (by omega);have l2:(inS S (i:Nat)).1=(inS S (i:Nat)).2:=Xa ⟨by omega,by rw[Xg];exact hc⟩;have ei:i64.wrap (((i:Nat):Int)+1)=((i+1:Nat):Int):=by rw[Zv (by omega) (by omega)];omega
  have kb:cnE S≤S.length:=Zpy S;have ek:i64.wrap (((k:Nat):Int)+1)=((k+1:Nat):Int):=by rw[Zv (by omega) (by omega)];omega
  obtain⟨c,hcc⟩:∃ c,c=lq8 (S.getD i 0):=⟨_,rfl⟩;rw[← hcc] at hd;have hcc':lq8 (S.getD ((i:Nat):Int).toNat 0)=c:=by rw[Xg,← hcc]
  by_cases h1:c=101
  ·rw[if_pos h1] at hd;refine (Zb (s0:=sc) Zcz (Z8S p k i S g) (Za (by rw[hcc',h1];rfl) (Za l2 (Z6 l1)))).mono fun e z he=> ?_;obtain⟨rfl,⟨g',z1⟩,z2⟩:=he;have:k=cnE S:=by omega
   rw[this] at z1;exact⟨rfl,_,g',z1,z2⟩
  ·rw[if_neg h1] at hd;have l3:(lq8 (S.getD ((i:Nat):Int).toNat 0) !=101)=true:=by rw[hcc'];simpa using h1
   by_cases h2:48≤c
   ·by_cases h3:c≤57
    ·rw[if_pos ⟨h2,h3⟩] at hd;have hg:=Z8T p k i S g;rw[ei,ek] at hg;refine (Zb (s0:=sc) Zcz hg (Za (Xa (by rw[hcc'];exact h3)) (Za l2 (Za (Xa (by rw[hcc'];exact h2)) (Za l2 (Za l3 (Za l2 (Z6 l1)))))))).mono fun e z he=> ?_;obtain⟨rfl,⟨g',z1⟩,z2⟩:=he;exact⟨S.length-(i+1),by omega,i+1,rfl,by omega,k+1,g',by omega,z1,z2⟩
    ·rw[if_neg (fun x=>h3 x.2)] at hd;have hg:=Z8U p k i S g;rw[ei] at hg;refine (Zb (s0:=sc) Zcz hg (Za (Xb (by rw[hcc'];exact h3)) (Za l2 (Za (Xa (by rw[hcc'];exact h2)) (Za l2 (Za l3 (Za l2 (Z6 l1)))))))).mono fun e z he=> ?_;obtain⟨rfl,⟨g',z1⟩,z2⟩:=he;exact⟨S.length-(i+1),by omega,i+1,rfl,by omega,k,g',by omega,z1,z2⟩
   ·rw[if_neg (fun x=>h2 x.1)] at hd;have hg:=Z8V p k i S g;rw[ei] at hg;refine (Zb (s0:=sc) Zcz hg (Za (Xb (by rw[hcc'];exact h2)) (Za l2 (Za l3 (Za l2 (Z6 l1)))))).mono fun e z he=> ?_;obtain⟨rfl,⟨g',z1⟩,z2⟩:=he;exact⟨S.length-(i+1),by omega,i+1,rfl,by omega,k,g',by omega,z1,z2⟩
 ·refine (Zb (s0:=sc) Zcz (Z8R p k i S g) (Z6 (Xb (by omega)))).mono fun e z he=> ?_;obtain⟨rfl,⟨g',z1⟩,z2⟩:=he;have hz:S.drop i=[]:=List.drop_eq_nil_of_le (by omega);rw[hz] at hk;have:k=cnE S:=hk;rw[this] at z1;exact⟨rfl,_,g',z1,z2⟩
def feT (p:Int) (S:List UInt8) (i:Int) (m:Nat) (y:Lf):Prop:=m≤5∧∃ (g:Nat→Value),y.1=feH p S (cnE S:Nat) i m++tl 82 g∧y.2.1=hT0
theorem Z9e {p:Int}(hp:U p) (hf:Fin14 p) (hs:cl p≤2) (h0:cl p≠0) (hn:2≤nP p) (i:Int) (r:Nat) (y:Lf) (hy:∃ m,r=5-m∧feT p (shT p) i m y):
  Runs (Zk prog Zf Zbi Zfo) (Z5u f7) y fun e z=>match e with | none=>∃ r',r'<r∧∃ m,r'=5-m∧feT p (shT p) i m z | some none=>False | some (some id')=>id'=2∧feT p (shT p) i 5 z:=by
 obtain⟨m,hr,hm,g,ht,hh⟩:=hy;obtain⟨t,h',sc⟩:=y;simp only at ht hh;subst ht hh;have es:shT p=shS p:=by unfold shT;rw[if_neg (fun c=>c (Zfn hs)),if_neg h0]
 have ec:cnE (shT p)=nP p:=by rw[es,Zpx hf]
 have hb:=(Zag hf).2.1;by_cases hc:m<5
 ·have en:nd1 ((cnE (shT p):Nat):Int)=((nP p-1:Nat):Int):=by unfold nd1;rw[ec,Zv (by omega) (by omega)];omega
  have em:i64.wrap (((m:Nat):Int)+1)=((m+1:Nat):Int):=by rw[Zv (by omega) (by omega)];omega
  have hd:Zdv p (nP p-1) m=ZfT p (nP p-1) m:=by unfold Zdv;rw[if_neg (fun c=>c (Zfn hs)),if_neg h0]
  obtain⟨f1,f2⟩:=ZnR hf (n:=nP p-1) (by omega) (by omega) (m:Int);rw[Zpz hp,← hd] at f2;rw[← hd] at f1;have hl:=Ztc p (nP p-1) m;have hg:=Z9c p ((cnE (shT p):Nat):Int) i m (shT p) g;rw[en,em,Xg] at hg;refine (Zb (s0:=sc) Zcz hg (Za (ZE f2) (Za (by rw[f1];rfl) (Za (Xa (.inl (by omega))) (Za (Xa (by omega)) (Za (Xa hp) (Z6 (Xa (by omega))))))))).mono fun e z he=> ?_;obtain⟨rfl,⟨g',z1⟩,z2⟩:=he;exact⟨5-(m+1),by omega,m+1,rfl,by omega,g',z1,z2⟩
 ·have e5:m=5:=by omega
  subst e5;refine (Zb (s0:=sc) Zcz (Z9b p ((cnE (shT p):Nat):Int) i ((5:Nat):Int) (shT p) g) (Z6 (by decide))).mono fun e z he=> ?_;obtain⟨rfl,⟨g',z1⟩,z2⟩:=he;exact⟨rfl,Nat.le_refl _,g',z1,z2⟩
theorem ZkA (p:Int) (hp:0≤p∧p<18446744073709551616) (w:World) (hk:knT w):Calls prog 7 #[.int .u64 p] w fun e w'=>e= .returned (.bool true)∧Zav w w':=by
 have ev:∀ m:Mp,[Value.int .u64 p].map (mv m)=[Value.int .u64 p]:=fun m=>(List.map_congr_left fun y hy=>ZA (by rw[List.mem_singleton.1 hy];rfl)).trans (List.map_id' _);have main:=Zci (T:=Zk prog Zf Zbi Zfo) func7 Zzq (h0:=hT0) (vals:=[.int .u64 p]) (fun v hv=>by rw[List.mem_singleton.1 hv];rfl) (v:= .bool true) (by rfl) (m:=fun b=>(b,0)) (w:=w) ?_ (ZnW hk)
 ·rw[ev] at main;exact main
 have hu:U p:=hp;have hS:=Ztb hu;have h17:=Z8P hu;refine Z0 Zcz (Z4W p) (Z6 (Xa hu)) fun g=> ?_;refine Runs.seq (P1:=fun e y=>e=none∧feD p (shT p) y) ?_ ?_ (fun e y he=>by cases he.1)
 ·refine Runs.seq (P1:=fun e y=>e=none∧feS p (shT p) 0 y) ?_ ?_ (fun e y he=>by cases he.1)
  ·refine (Zb Zcz (Z8Q p 0 (shT p) g) Zbt).mono fun e z he=> ?_;obtain⟨rfl,⟨g',z1⟩,z2⟩:=he;exact⟨rfl,Nat.zero_le _,0,g',by simp,z1,z2⟩
  ·rintro y ⟨_,hy⟩;refine (Runs.forLoop (R:=fun _=>False) (P:=feD p (shT p)) (fun r y=>∃ i,r=(shT p).length-i∧feS p (shT p) i y) (Z9d p (shT p) (by omega)) (n:=(shT p).length-0) ⟨0,rfl,hy⟩).mono fun e z hz=> ?_
   match e,hz with
   | none,hz=>exact⟨rfl,hz⟩
 rintro⟨t,hh,sc⟩ ⟨_,i,g1,e1,e2⟩;simp only at e1 e2;subst e1 e2;have emg:mgS p=p % 9223372036854775808:=ZgF hu;have l17:decide (((cnE (shT p):Nat):Int)≤17)=true:=Xa (by omega);by_cases c0:mgS p=0
 ·refine Runs.seq (P1:=fun e y=>e=some none∧∃ g:Nat→Value,y.1=feR p (shT p) (cnE (shT p):Nat) i++tl 83 g∧y.2.1=hT0) ?_ (fun y he=>by cases he.1) ?_
  ·refine (Zb (s0:=sc) Zcz (Z8W p (cnE (shT p):Nat) i (shT p) g1) (Za l17 (Z6 (ZN c0)))).mono fun e z he=> ?_;obtain⟨rfl,⟨g',z1⟩,z2⟩:=he;exact⟨rfl,g',z1,z2⟩
  ·rintro e y ⟨he,g',z1,z2⟩;cases he;exact⟨.inr rfl,by rw[z1,z2];rfl⟩
 by_cases c1:mgS p≥9218868437227405312
 ·refine Runs.seq (P1:=fun e y=>e=some none∧∃ g:Nat→Value,y.1=feR p (shT p) (cnE (shT p):Nat) i++tl 83 g∧y.2.1=hT0) ?_ (fun y he=>by cases he.1) ?_
  ·refine (Zb (s0:=sc) Zcz (Z8X p (cnE (shT p):Nat) i (shT p) g1) (Za l17 (Za (Xa c1) (Z6 (ZE c0))))).mono fun e z he=> ?_;obtain⟨rfl,⟨g',z1⟩,z2⟩:=he;exact⟨rfl,g',z1,z2⟩
  ·rintro e y ⟨he,g',z1,z2⟩;cases he;exact⟨.inr rfl,by rw[z1,z2];rfl⟩
 by_cases c2:((cnE (shT p):Nat):Int)<2
 ·refine Runs.seq (P1:=fun e y=>e=some none∧∃ g:Nat→Value,y.1=feR p (shT p) (cnE (shT p):Nat) i++tl 83 g∧y.2.1=hT0) ?_ (fun y he=>by cases he.1) ?_
  ·refine (Zb (s0:=sc) Zcz (Z8Y p (cnE (shT p):Nat) i (shT p) g1) (Za l17 (Za (Xa c2) (Za (Xb c1) (Z6 (ZE c0)))))).mono fun e z he=> ?_;obtain⟨rfl,⟨g',z1⟩,z2⟩:=he;exact⟨rfl,g',z1,z2⟩
  ·rintro e y ⟨he,g',z1,z2⟩;cases he;exact⟨.inr rfl,by rw[z1,z2];rfl⟩
 have hl:ex p≠2047:=by unfold ex;omega
 have hc2:cl p≤2:=by
  unfold cl;rw[if_neg hl];split
  ·split<;>omega
  ·omega
 have hc0:cl p≠0:=fun c=>by
  apply c0;have x:ex p=0∧fr p=0:=by
   unfold cl at c;split at c
   ·rename_i a;split at c
    ·rename_i b;exact⟨a,b⟩
    ·omega
   ·exact absurd c (by decide)
  unfold ex fr at x;omega
 have hf:=Zcx (Zhi hc2 hc0);have es:shT p=shS p:=by unfold shT;rw[if_neg (fun c=>c (Zfn hc2)),if_neg hc0]
 have hn:2≤nP p:=by rw[es,Zpx hf] at c2;omega
 refine Runs.seq (P1:=fun e y=>e=none∧∃ g:Nat→Value,y.1=feG p (shT p) (cnE (shT p):Nat) i++tl 83 g∧y.2.1=hT0) ?_ ?_ (fun e y he=>by cases he.1)
 ·refine (Zb (s0:=sc) Zcz (Z8Z p (cnE (shT p):Nat) i (shT p) g1) (Za (Xb c2) (Za (Xb c1) (Z6 (ZE c0))))).mono fun e z he=> ?_;obtain⟨rfl,⟨g',z1⟩,z2⟩:=he;exact⟨rfl,g',z1,z2⟩
 rintro⟨t,hh,sc2⟩ ⟨_,g2,e1,e2⟩;simp only at e1 e2;subst e1 e2;refine Runs.seq (P1:=fun e y=>e=none∧feT p (shT p) i 5 y) ?_ ?_ (fun e y he=>by cases he.1)
 ·refine Runs.seq (P1:=fun e y=>e=none∧feT p (shT p) i 0 y) ?_ ?_ (fun e y he=>by cases he.1)
  ·refine (Zb (s0:=sc2) Zcz (Z9a p (cnE (shT p):Nat) i (shT p) g2) Zbt).mono fun e z he=> ?_;obtain⟨rfl,⟨g',z1⟩,z2⟩:=he;exact⟨rfl,Nat.zero_le _,g',z1,z2⟩
  ·rintro y ⟨_,hy⟩;refine (Runs.forLoop (R:=fun _=>False) (P:=feT p (shT p) i 5) (fun r y=>∃ m,r=5-m∧feT p (shT p) i m y) (Z9e hu hf hc2 hc0 hn i) (n:=5-0) ⟨0,rfl,hy⟩).mono fun e z hz=> ?_
   match e,hz with
   | none,hz=>exact⟨rfl,hz⟩
 rintro⟨t,hh,sc3⟩ ⟨_,_,g3,e1,e2⟩;simp only at e1 e2;subst e1 e2;refine (Zb (s0:=sc3) Zcz (ZA5 p (cnE (shT p):Nat) i ((5:Nat):Int) (shT p) g3) (Z6 l17)).mono fun e z he=> ?_;obtain⟨rfl,⟨g',z1⟩,z2⟩:=he;exact⟨.inr rfl,by rw[z1,z2];rfl⟩
end Go.Proofs.YtgefjidphfdhdaaGreatDoor
namespace Go.Proofs.YtgefjidphfdhdaaGreatDoor
open Go.Proofs.Tryz
open Go.KRun Go.RowKit Go.ChangeShapes
set_option maxRecDepth 100000
theorem Zp0 {H:Type}{enc:TypeId×Value→H}{P:Program}{f:Func}{s:ChangeSpec}{apart fresh handsOn again:Bool}{W W':World}{args:Array Value}{v:Value}{ds gs:List (DataW H)}
  (hW:DataW.Whole enc P f.params.toList s.vars apart W args.toList ds gs [])
  (hres:∀ (b:Nat) (sp:Nat→Bool) (hd:Bool),DataW.TrodAll enc P W' b sp hd f.resultTypes.toList (v.resultList f.resultTypes.size) (s.fn H (ds++gs)).results [])
  (hargs:∀ sp:Nat→Bool,DataW.TrodAll enc P W' 0 sp true f.params.toList args.toList (s.fn H (ds++gs)).args [])
  (hvars:∀ sp:Nat→Bool,DataW.TrodVars enc P W' sp s.vars (s.fn H (ds++gs)).vars [])
  (hk:W.keptBut W' (· ∈([]:List MemPlace)))
  (hok:∀ (j:Nat) (t:TypeId) (r:Value),f.resultTypes[j]? =some t→(v.resultList f.resultTypes.size)[j]? =some r→Value.okWide P W' .any 0 t r):
  s.post enc P f apart fresh handsOn again W args v W':=by
 refine⟨ds,gs,[],[],[],[],hW,hres _ _ _,hargs _,hvars _,World.keptBut_mono (fun p hp=>absurd hp List.not_mem_nil) hk,fun _=> ?_⟩;obtain⟨_,_,_,_,_,_,hn⟩:=hW;refine⟨hok,_,_,([]++[])++[],⟨[]++[],[],trodAll_append (hargs _) (hres _ _ _),hvars _,rfl,?_,?_⟩,?_⟩
 ·intro b off hp;exact absurd hp List.not_mem_nil
 ·intro ha;exact hn ha
 ·intro p hp _;exact absurd hp List.not_mem_nil
theorem Z4X {P:Program}{w:World}:∀ {l:List (String×DataW Unit)}{ps:List MemPlace},DataW.LaidVars P w l ps→∀ {n:String}{d:DataW Unit},(n,d)∈l→∃ g t cs fuel p,P.globalNamed n=some g∧(P.globals[g]?).map (·.type)=some t∧w.var? P n=some cs∧DataW.trod (fun _=>()) P w 0 (fun _=>true) false fuel t cs.toList=some (d,p)
 | [],_,_,_,_,hm=>absurd hm List.not_mem_nil
 | (n',d')::r,ps,h,n,d,hm=>by
  obtain⟨g,t,cs,fuel,p,q,h1,h2,h3,h4,h5,_⟩:=h;rcases List.mem_cons.1 hm with e | e
  ·cases e;exact⟨g,t,cs,fuel,p,h1,h2,h3,h4⟩
  ·exact Z4X h5 e
theorem Zth {l:List (String×DataW Unit)}{W:World}(h:laidMet prog l W) {n:String}{d:DataW Unit}(hm:(n,d)∈l) (hn:prog.globalNamed n=some 2) (hd:d=Lib.tabData .u64 Lib.pow10Tab):knT W:=by
 obtain⟨ps,hl,_⟩:=h;obtain⟨g,t,cs,fuel,p,h1,h2,h3,h4⟩:=Z4X hl hm;obtain rfl:=Option.some.inj (hn.symm.trans h1);have ht:(prog.globals[2]?).map (·.type)=some 255:=by kernel_rfl
 obtain rfl:=Option.some.inj (ht.symm.trans h2);rw[hd] at h4;have hc:=Lib.cells_of_tab underlying255 underlying22 (by kernel_rfl) (by kernel_rfl) h4;unfold World.var? at h3;rw[hn] at h3;simp only[Option.bind_some] at h3;split at h3
 ·rename_i c e z hb;cases h3;refine⟨e,z,?_⟩;rw[hb];congr 2;apply Array.toList_inj.1;rw[hc];rfl
 ·cases h3
end Go.Proofs.YtgefjidphfdhdaaGreatDoor
