/-
  QuB, QuC, QuS, QuK, CxE, Row, Flat
-/
import Derived.Test.YtekebccjflilnaaGreatG17
import Derived.WalkKit
import Derived.ProofKit
import Derived.OpenShut
import Derived.Laws.IdiomArrays
import Derived.Lib.SmallJoins
namespace Go.Proofs.YtekebccjflilnaaGreat
open Go.Proofs.Tryz
open Go.IntKind
open Go.KRun Go.Wd Go.Pt Go.Rn
set_option maxRecDepth 100000
def q1 (a b:Int):Bool×Bool:=(decide ((Zac (wSg a) 128).ok∧(wSg b).ok∧(wSg b).val≠0),true)
def q2 (a:Int):Bool×Bool:=(decide ((wSg a).ok∧ -9223372036854775808≤(128:Int)∧(128:Int)≤9223372036854775807),true)
theorem Z3s (a b:Int):Zw (Ze (Zi prog Zh Zup true) 300 40 [.int .u64 a,.int .u64 b] [cmp true,cmp true,sam true]) (vN (prN a b) (i64.wrap (i64.wrap (xp a-xp b)-128)) (W4.of ((Zac (wSg a) 128).val/(wSg b).val)) true) [(nzW (W4.of ((Zac (wSg a) 128).val % (wSg b).val)),true),q1 a b,q2 a,q1 a b,q1 a b,q2 a,q1 a b,q2 a,q1 a b,q1 a b,q2 a,q1 a b,q1 a b,q1 a b,q1 a b,q1 a b,q2 a,lU b,(decide (cl b≤2),true),lU b,lU a,(decide (cl a≤2),true),lU a]:=by and_intros<;>kernel_rfl
theorem Z3t (a b:Int):Zw (Ze (Zi prog Zh Zup true) 300 40 [.int .u64 a,.int .u64 b] [cmp true,cmp true,sam false]) (vN (prN a b) (i64.wrap (i64.wrap (xp a-xp b)-128)) (W4.of ((Zac (wSg a) 128).val/(wSg b).val)) false) [(nzW (W4.of ((Zac (wSg a) 128).val % (wSg b).val)),false),q1 a b,q2 a,q1 a b,q1 a b,q2 a,q1 a b,q2 a,q1 a b,q1 a b,q2 a,q1 a b,q1 a b,q1 a b,q1 a b,q1 a b,q2 a,lU b,(decide (cl b≤2),true),lU b,lU a,(decide (cl a≤2),true),lU a]:=by and_intros<;>kernel_rfl
def dvQ (a b:Int):Nat:=(sg a).toNat*2^128/(sg b).toNat
def dvM (a b:Int):Bool:=decide ((sg a).toNat*2^128 % (sg b).toNat≠0)
def vQo (a b:Int):Value:=vN (prN a b) (xp a-xp b-128) (ofN (dvQ a b)) (dvM a b)
def Zzc (a b:Int):Bool:=decide (cl a≤2∧cl b≤2∧cl b≠0)
theorem Zpz (a b:Int) (ha:U a) (hb:U b) (h:Zzc a b=true) (w:World):Calls prog 40 #[.int .u64 a,.int .u64 b] w fun r w'=>r= .returned (vQo a b)∧zg w w':=by
 obtain⟨ha2,hb2,hb0⟩:=Xc h;have ka:decide (U a)=true:=Xa ha;have kb:decide (U b)=true:=Xa hb;have ca:decide (cl a≤2)=true:=Xa ha2;have cb:decide (cl b≤2)=true:=Xa hb2;have nz:sg b≠0:=fun h0=>hb0 ((ZeM hb2).1 h0);have sb:=ZbK b;obtain⟨o1,v1⟩:=ZvY a (u:=128) (by omega) (by omega);have v1:(Zac (wSg a) 128).val=(((sg a).toNat*2^128:Nat):Int):=v1;have o1:(Zac (wSg a) 128).ok:=o1;have bd:=W4.val_bd o1;have k1:(q1 a b).1=(q1 a b).2:=Xa ⟨o1,ZaC b,by rw[ZeL];exact nz⟩;have k2:(q2 a).1=(q2 a).2:=Xa ⟨ZaC a,by omega,by omega⟩;have xa:=ZbJ a;have xb:=ZbJ b;have e1:i64.wrap (i64.wrap (xp a-xp b)-128)=xp a-xp b-128:=by
  rw[ZY (n:=xp a-xp b) ⟨by omega,by omega⟩,ZY ⟨by omega,by omega⟩]
 have eb:(wSg b).val=(((sg b).toNat:Nat):Int):=by rw[ZeL];omega
 have e2:W4.of ((Zac (wSg a) 128).val/(wSg b).val)=ofN (dvQ a b):=by
  rw[v1,eb,← Int.natCast_ediv];rfl
 have er:(Zac (wSg a) 128).val % (wSg b).val=(((sg a).toNat*2^128 % (sg b).toNat:Nat):Int):=by
  rw[v1,eb,← Int.natCast_emod]
 have hM:nzW (W4.of ((Zac (wSg a) 128).val % (wSg b).val))=dvM a b:=by
  have hl:=Nat.mod_lt ((sg a).toNat*2^128) (show 0<(sg b).toNat by omega);rw[er,ZvX (by omega) (by omega)];unfold dvM;exact decide_eq_decide.2 (by omega)
 unfold vQo;cases hd:dvM a b with
 | true=>
  have:=Zb (Zf ZhT) (Z3s a b) (Za (hM.trans hd) (Za k1 (Za k2 (Za k1 (Za k1 (Za k2 (Za k1 (Za k2 (Za k1 (Za k1 (Za k2 (Za k1 (Za k1 (Za k1 (Za k1 (Za k1 (Za k2 (Za kb (Za cb (Za kb (Za ka (Za ca (Zz ka))))))))))))))))))))))) (by rfl) (by rfl) w;rw[e1,e2] at this;exact this
 | false=>
  have:=Zb (Zf ZhT) (Z3t a b) (Za (hM.trans hd) (Za k1 (Za k2 (Za k1 (Za k1 (Za k2 (Za k1 (Za k2 (Za k1 (Za k1 (Za k2 (Za k1 (Za k1 (Za k1 (Za k1 (Za k1 (Za k2 (Za kb (Za cb (Za kb (Za ka (Za ca (Zz ka))))))))))))))))))))))) (by rfl) (by rfl) w;rw[e1,e2] at this;exact this
def Zck:Con:=alt 40 (gUU vQo Zzc) ZnK
theorem Zp0:ConOk Zck:=Zy func40 rfl (ZkN Zpz) ZeK
theorem ZhU (m a b:Int):rdV m (prN a b) (tw (ofN (dvQ a b)) (dvM a b)) (clp (xp a-xp b-128)-1)=rdT (sS (prN a b) (dvP m a b)) (dvF m a b):=by
 have sb:=ZbK b;have sa:=ZbK a;obtain⟨c1,c2⟩:=Zd2 m (prN a b) (ZZ (dvQ a b)) (dvM a b) (xp a-xp b-128);have hq:dvQ a b<2^256:=by
  unfold dvQ;refine Nat.lt_of_le_of_lt (Nat.div_le_self _ _) ?_;have:=Nat.mul_le_mul_right (2^128) (show (sg a).toNat≤9007199254740991 by omega);exact Nat.lt_of_le_of_lt this (by decide)
 have e:=Zse hq (dvM a b);have e2:2*dvQ a b+bN (dvM a b)=dvT a b:=by
  unfold dvT dvK dvQ dvM;by_cases h0:(sg a).toNat*2^128 % (sg b).toNat=0
  ·rw[if_pos h0,Xb (by omega)];rfl
  ·rw[if_neg h0,Xa h0];rfl
 have e3:xp a-xp b-128-1=dvE a b:=by unfold dvE;omega
 rw[e3] at c1 c2;unfold rdV dvP dvF;rw[c1,c2,e,e2]
theorem Z1V (a b m:Int):Zw (Ze (Zi prog Zh Zck true) 300 17 [.int .u64 a,.int .u64 b,.int .i64 m] [cmp true,cmp true,cmp true]) (rdT 9221120237041090560 1) [(cl a==5,true),lU a,(decide ((0:Int)<((2:Nat):Int)),true),(decide (cl a>3),true),lU a]:=by and_intros<;>kernel_rfl
theorem Z1W (a b m:Int):Zw (Ze (Zi prog Zh Zck true) 300 17 [.int .u64 a,.int .u64 b,.int .i64 m] [cmp true,cmp true,cmp false,cmp true,cmp true]) (rdT 9221120237041090560 1) [(cl b==5,true),lU b,(decide (i64.wrap (0+1)<((2:Nat):Int)),true),(cl a==5,false),lU a,(decide ((0:Int)<((2:Nat):Int)),true),(decide (cl a>3),true),lU a]:=by and_intros<;>kernel_rfl
theorem Z1X (a b m:Int):Zw (Ze (Zi prog Zh Zck true) 300 17 [.int .u64 a,.int .u64 b,.int .i64 m] [cmp true,cmp true,cmp false,cmp true,cmp false,cmp false]) (rdT 9221120237041090560 0) [(decide (i64.wrap (i64.wrap (0+1)+1)<((2:Nat):Int)),false),(cl b==5,false),lU b,(decide (i64.wrap (0+1)<((2:Nat):Int)),true),(cl a==5,false),lU a,(decide ((0:Int)<((2:Nat):Int)),true),(decide (cl a>3),true),lU a]:=by and_intros<;>kernel_rfl
theorem Z1Y (a b m:Int):Zw (Ze (Zi prog Zh Zck true) 300 17 [.int .u64 a,.int .u64 b,.int .i64 m] [cmp false,cmp true,cmp true,cmp false,cmp true,cmp true]) (rdT 9221120237041090560 1) [(cl b==5,true),lU b,(decide (i64.wrap (0+1)<((2:Nat):Int)),true),(cl a==5,false),lU a,(decide ((0:Int)<((2:Nat):Int)),true),(decide (cl b>3),true),lU b,(decide (cl a>3),false),lU a]:=by and_intros<;>kernel_rfl
theorem Z1Z (a b m:Int):Zw (Ze (Zi prog Zh Zck true) 300 17 [.int .u64 a,.int .u64 b,.int .i64 m] [cmp false,cmp true,cmp true,cmp false,cmp true,cmp false,cmp false]) (rdT 9221120237041090560 0) [(decide (i64.wrap (i64.wrap (0+1)+1)<((2:Nat):Int)),false),(cl b==5,false),lU b,(decide (i64.wrap (0+1)<((2:Nat):Int)),true),(cl a==5,false),lU a,(decide ((0:Int)<((2:Nat):Int)),true),(decide (cl b>3),true),lU b,(decide (cl a>3),false),lU a]:=by and_intros<;>kernel_rfl
theorem Z2a (a b m:Int):Zw (Ze (Zi prog Zh Zck true) 300 17 [.int .u64 a,.int .u64 b,.int .i64 m] [cmp false,cmp false,cmp true,cmp true]) (rdT 9221120237041090560 1) [(cl b==0,true),lU b,(cl a==0,true),lU a,(decide (cl b>3),false),lU b,(decide (cl a>3),false),lU a]:=by and_intros<;>kernel_rfl
theorem Z2b (a b m:Int):Zw (Ze (Zi prog Zh Zck true) 300 17 [.int .u64 a,.int .u64 b,.int .i64 m] [cmp false,cmp false,cmp false,cmp true,cmp true]) (rdT 9221120237041090560 1) [(cl b==3,true),lU b,(cl a==3,true),lU a,(cl a==0,false),lU a,(decide (cl b>3),false),lU b,(decide (cl a>3),false),lU a]:=by and_intros<;>kernel_rfl
theorem Z2c (a b m:Int):Zw (Ze (Zi prog Zh Zck true) 300 17 [.int .u64 a,.int .u64 b,.int .i64 m] [cmp false,cmp false,cmp false,cmp true,cmp false,cmp true]) (rdT (bOr (Zm7 9218868437227405312 9223372036854775808) (Zf0 (Zf1 a b) 9223372036854775808)) 0) [(cl a==3,true),lU a,(cl b==3,false),lU b,(cl a==3,true),lU a,(cl a==0,false),lU a,(decide (cl b>3),false),lU b,(decide (cl a>3),false),lU a]:=by and_intros<;>kernel_rfl
theorem Z2d (a b m:Int):Zw (Ze (Zi prog Zh Zck true) 300 17 [.int .u64 a,.int .u64 b,.int .i64 m] [cmp false,cmp false,cmp false,cmp false,cmp false,cmp true]) (rdT (bOr (Zm7 0 9223372036854775808) (Zf0 (Zf1 a b) 9223372036854775808)) 0) [(cl b==3,true),lU b,(cl a==3,false),lU a,(cl a==3,false),lU a,(cl a==0,false),lU a,(decide (cl b>3),false),lU b,(decide (cl a>3),false),lU a]:=by and_intros<;>kernel_rfl
theorem Z2e (a b m:Int):Zw (Ze (Zi prog Zh Zck true) 300 17 [.int .u64 a,.int .u64 b,.int .i64 m] [cmp false,cmp false,cmp true,cmp false,cmp false,cmp false,cmp true]) (rdT (bOr (Zm7 0 9223372036854775808) (Zf0 (Zf1 a b) 9223372036854775808)) 0) [(cl b==3,true),lU b,(cl a==3,false),lU a,(cl a==3,false),lU a,(cl b==0,false),lU b,(cl a==0,true),lU a,(decide (cl b>3),false),lU b,(decide (cl a>3),false),lU a]:=by and_intros<;>kernel_rfl
theorem Z2f (a b m:Int):Zw (Ze (Zi prog Zh Zck true) 300 17 [.int .u64 a,.int .u64 b,.int .i64 m] [cmp false,cmp false,cmp false,cmp false,cmp false,cmp false,cmp true]) (rdT (bOr (Zm7 9218868437227405312 9223372036854775808) (Zf0 (Zf1 a b) 9223372036854775808)) 2) [(cl b==0,true),lU b,(cl b==3,false),lU b,(cl a==3,false),lU a,(cl a==3,false),lU a,(cl a==0,false),lU a,(decide (cl b>3),false),lU b,(decide (cl a>3),false),lU a]:=by and_intros<;>kernel_rfl
theorem Z3u (a b m:Int):Zw (Ze (Zi prog Zh Zck true) 300 17 [.int .u64 a,.int .u64 b,.int .i64 m] [cmp false,cmp false,cmp false,cmp false,cmp false,cmp false,cmp false]) (rdV m (prN a b) (tw (ofN (dvQ a b)) (dvM a b)) (clp (xp a-xp b-128)-1)) [(decide (ofN (dvQ a b)).ok,true),(Zzc a b,true),(decide (U a∧U b),true),(cl b==0,false),lU b,(cl b==3,false),lU b,(cl a==3,false),lU a,(cl a==3,false),lU a,(cl a==0,false),lU a,(decide (cl b>3),false),lU b,(decide (cl a>3),false),lU a]:=by and_intros<;>kernel_rfl
theorem Z2g (a b m:Int):Zw (Ze (Zi prog Zh Zck true) 300 17 [.int .u64 a,.int .u64 b,.int .i64 m] [cmp false,cmp false,cmp true,cmp false,cmp false,cmp false,cmp false,cmp false]) (rdV m (prN a b) (tw (ofN (dvQ a b)) (dvM a b)) (clp (xp a-xp b-128)-1)) [(decide (ofN (dvQ a b)).ok,true),(Zzc a b,true),(decide (U a∧U b),true),(cl b==0,false),lU b,(cl b==3,false),lU b,(cl a==3,false),lU a,(cl a==3,false),lU a,(cl b==0,false),lU b,(cl a==0,true),lU a,(decide (cl b>3),false),lU b,(decide (cl a>3),false),lU a]:=by and_intros<;>kernel_rfl
def quP (m a b:Int):Int:=if 3<cl a∨3<cl b then 9221120237041090560 else if (cl a=0∧cl b=0)∨(cl a=3∧cl b=3) then 9221120237041090560 else if cl a=3 then sS (prN a b) inf else if cl b=3 then sS (prN a b) 0 else if cl b=0 then sS (prN a b) inf else sS (prN a b) (dvP m a b)
def quF (m a b:Int):Int:=if 3<cl a∨3<cl b then (if cl a=5∨cl b=5 then 1 else 0) else if (cl a=0∧cl b=0)∨(cl a=3∧cl b=3) then 1 else if cl a=3 then 0 else if cl b=3 then 0 else if cl b=0 then 2 else dvF m a b
theorem ZyD {a b:Int}(ha:U a) (hb:U b):bOr (Zm7 0 9223372036854775808) (Zf0 (Zf1 a b) 9223372036854775808)=sS (prN a b) 0:=by
 rw[(ZkT ha hb).2];cases prN a b<;>decide
theorem Zjd (a b m:Int) (ha:U a) (hb:U b) (w:World):Calls prog 17 #[.int .u64 a,.int .u64 b,.int .i64 m] w fun r w'=>r= .returned (rdT (quP m a b) (quF m a b))∧zg w w':=by
 have hv:([.int .u64 a,.int .u64 b,.int .i64 m].all (lt 0))=true:=rfl;have T:=Zf Zp0;have ka:decide (U a)=true:=Xa ha;have kb:decide (U b)=true:=Xa hb;have kab:decide (U a∧U b)=true:=Xa ⟨ha,hb⟩;have ba:=Zd0 a;have bb:=Zd0 b;have en:=Zwd ha hb;have en0:=ZyD ha hb;unfold quP quF;by_cases ha3:3<cl a
 ·rw[if_pos (.inl ha3),if_pos (.inl ha3)];by_cases a5:cl a=5
  ·rw[if_pos (.inl a5)];exact Zb T (Z1V a b m) (Za (Z1 (by omega)) (Za ka (Za (by decide) (Za (Xa (by omega)) (Zz ka))))) hv (by rfl) w
  ·by_cases b5:cl b=5
   ·rw[if_pos (.inr b5)];exact Zb T (Z1W a b m) (Za (Z1 (by omega)) (Za kb (Za (by decide) (Za (Zq (by omega)) (Za ka (Za (by decide) (Za (Xa (by omega)) (Zz ka)))))))) hv (by rfl) w
   ·rw[if_neg (by omega)];exact Zb T (Z1X a b m) (Za (by decide) (Za (Zq (by omega)) (Za kb (Za (by decide) (Za (Zq (by omega)) (Za ka (Za (by decide) (Za (Xa (by omega)) (Zz ka))))))))) hv (by rfl) w
 ·by_cases hb3:3<cl b
  ·rw[if_pos (.inr hb3),if_pos (.inr hb3)];by_cases b5:cl b=5
   ·rw[if_pos (.inr b5)];exact Zb T (Z1Y a b m) (Za (Z1 (by omega)) (Za kb (Za (by decide) (Za (Zq (by omega)) (Za ka (Za (by decide) (Za (Xa (by omega)) (Za kb (Za (Xb (by omega)) (Zz ka)))))))))) hv (by rfl) w
   ·rw[if_neg (by omega)];exact Zb T (Z1Z a b m) (Za (by decide) (Za (Zq (by omega)) (Za kb (Za (by decide) (Za (Zq (by omega)) (Za ka (Za (by decide) (Za (Xa (by omega)) (Za kb (Za (Xb (by omega)) (Zz ka))))))))))) hv (by rfl) w
  ·have hno:¬ (3<cl a∨3<cl b):=by omega
   rw[if_neg hno,if_neg hno];by_cases az:cl a=0
   ·by_cases bz:cl b=0
    ·rw[if_pos (.inl ⟨az,bz⟩),if_pos (.inl ⟨az,bz⟩)];exact Zb T (Z2a a b m) (Za (Z1 (by omega)) (Za kb (Za (Z1 (by omega)) (Za ka (Za (Xb (by omega)) (Za kb (Za (Xb (by omega)) (Zz ka)))))))) hv (by rfl) w
    ·have hn2:¬ ((cl a=0∧cl b=0)∨(cl a=3∧cl b=3)):=by omega
     have a3:¬ cl a=3:=by omega
     rw[if_neg hn2,if_neg hn2,if_neg a3,if_neg a3];by_cases b3:cl b=3
     ·rw[if_pos b3,if_pos b3,← en0];exact Zb T (Z2e a b m) (Za (Z1 (by omega)) (Za kb (Za (Zq (by omega)) (Za ka (Za (Zq (by omega)) (Za ka (Za (Zq (by omega)) (Za kb (Za (Z1 (by omega)) (Za ka (Za (Xb (by omega)) (Za kb (Za (Xb (by omega)) (Zz ka)))))))))))))) hv (by rfl) w
     ·rw[if_neg b3,if_neg b3,if_neg bz,if_neg bz];have hf:=Z2g a b m;rw[ZhU] at hf;exact Zb T hf (Za (Xa (ZZ _)) (Za (Xa ⟨by omega,by omega,by omega⟩) (Za kab (Za (Zq (by omega)) (Za kb (Za (Zq (by omega)) (Za kb (Za (Zq (by omega)) (Za ka (Za (Zq (by omega)) (Za ka (Za (Zq (by omega)) (Za kb (Za (Z1 (by omega)) (Za ka (Za (Xb (by omega)) (Za kb (Za (Xb (by omega)) (Zz ka))))))))))))))))))) hv (by rfl) w
   ·by_cases a3:cl a=3
    ·by_cases b3:cl b=3
     ·rw[if_pos (.inr ⟨a3,b3⟩),if_pos (.inr ⟨a3,b3⟩)];exact Zb T (Z2b a b m) (Za (Z1 (by omega)) (Za kb (Za (Z1 (by omega)) (Za ka (Za (Zq (by omega)) (Za ka (Za (Xb (by omega)) (Za kb (Za (Xb (by omega)) (Zz ka)))))))))) hv (by rfl) w
     ·have hn2:¬ ((cl a=0∧cl b=0)∨(cl a=3∧cl b=3)):=by omega
      rw[if_neg hn2,if_neg hn2,if_pos a3,if_pos a3,← en];exact Zb T (Z2c a b m) (Za (Z1 (by omega)) (Za ka (Za (Zq (by omega)) (Za kb (Za (Z1 (by omega)) (Za ka (Za (Zq (by omega)) (Za ka (Za (Xb (by omega)) (Za kb (Za (Xb (by omega)) (Zz ka)))))))))))) hv (by rfl) w
    ·have hn2:¬ ((cl a=0∧cl b=0)∨(cl a=3∧cl b=3)):=by omega
     rw[if_neg hn2,if_neg hn2,if_neg a3,if_neg a3];by_cases b3:cl b=3
     ·rw[if_pos b3,if_pos b3,← en0];exact Zb T (Z2d a b m) (Za (Z1 (by omega)) (Za kb (Za (Zq (by omega)) (Za ka (Za (Zq (by omega)) (Za ka (Za (Zq (by omega)) (Za ka (Za (Xb (by omega)) (Za kb (Za (Xb (by omega)) (Zz ka)))))))))))) hv (by rfl) w
     ·rw[if_neg b3,if_neg b3];by_cases bz:cl b=0
      ·rw[if_pos bz,if_pos bz,← en];exact Zb T (Z2f a b m) (Za (Z1 (by omega)) (Za kb (Za (Zq (by omega)) (Za kb (Za (Zq (by omega)) (Za ka (Za (Zq (by omega)) (Za ka (Za (Zq (by omega)) (Za ka (Za (Xb (by omega)) (Za kb (Za (Xb (by omega)) (Zz ka)))))))))))))) hv (by rfl) w
      ·rw[if_neg bz,if_neg bz];have hf:=Z3u a b m;rw[ZhU] at hf;exact Zb T hf (Za (Xa (ZZ _)) (Za (Xa ⟨by omega,by omega,by omega⟩) (Za kab (Za (Zq (by omega)) (Za kb (Za (Zq (by omega)) (Za kb (Za (Zq (by omega)) (Za ka (Za (Zq (by omega)) (Za ka (Za (Zq (by omega)) (Za ka (Za (Xb (by omega)) (Za kb (Za (Xb (by omega)) (Zz ka))))))))))))))))) hv (by rfl) w
def gQD:Ans:=fun vals s=>
 match vals with
 | [.int .u64 a,.int .u64 b,.int .i64 m]=>some (rdT (quP m a b) (quF m a b),s,[(decide (U a∧U b),true)])
 | _=>none
theorem ZyE:ZJ 17 gQD:=by
 intro vals s v s' lg h hl w;unfold gQD at h;split at h
 ·cases h;obtain⟨h1,h2⟩:=Xc (hl _ Xf);exact Zjd _ _ _ h1 h2 w
 ·cases h
end Go.Proofs.YtekebccjflilnaaGreat
namespace Go.Proofs.YtekebccjflilnaaGreat
open Go.Proofs.Tryz
open Go.IntKind
open Go.KRun Go.Nt Go.Wd Go.Pt Go.Rn
set_option maxRecDepth 100000
def M3 (a b:Int):Hp:=⟨3,[w16 (sg a).toNat,bPt b,bPt a]⟩
def M5 (a b:Int) (V:Nat):Hp:=⟨5,[w16 (sg b).toNat,w16 V,w16 (sg a).toNat,bPt b,bPt a]⟩
def L7 (a b:Int) (V Q R:Nat):List (List Value×TypeId):=[w16 R,w16 Q,w16 (sg b).toNat,w16 V,w16 (sg a).toNat,bPt b,bPt a]
def M7 (a b:Int) (V Q R:Nat):Hp:=⟨7,L7 a b V Q R⟩
def M8 (a b:Int) (V Q R:Nat):Hp:=⟨8,bOf false 0 Zn::L7 a b V Q R⟩
def M9 (a b:Int) (V Q R S:Nat):Hp:=⟨9,bOf (prN a b) (i64.wrap (i64.wrap (xp a-xp b)-121)) (sOf 7 S)::w16 S::L7 a b V Q R⟩
def M10 (a b:Int) (V Q R S:Nat):Hp:=⟨10,w16 1::bOf (prN a b) (i64.wrap (i64.wrap (xp a-xp b)-121)) (sOf 7 S)::w16 S::L7 a b V Q R⟩
def M11 (a b:Int) (V Q R S T:Nat):Hp:=⟨11,w16 T::w16 1::bOf (prN a b) (i64.wrap (i64.wrap (xp a-xp b)-121)) (sOf 10 T)::w16 S::L7 a b V Q R⟩
theorem Z3v (a b m:Int) (V Q R S T:Nat):Zw (Ze (Zp prog Zh ZbN hcT) 300 18 [.int .u64 a,.int .u64 b,.int .i64 m] [cmp false,cmp false,cmp false,cmp false,cmp false,cmp false,cmp false,cmp false,cmp true,num V,num Q,num R,at_,num 1,at_,num 2,at_,num 8,num 2,cmp true,num S,num 89,num 13,cmp true,cmp true,num T,num T]) (.tuple #[.int .u64 (sS (prN a b) (rnP m (prN a b) T (i64.wrap (i64.wrap (xp a-xp b)-121)))),.int .i64 (rnF m (prN a b) T (i64.wrap (i64.wrap (xp a-xp b)-121)))]) [(decide (vO (M11 a b V Q R S T) (Za7 10) (d16 T).length=T),true),(ZiR (M11 a b V Q R S T) (Za7 10) (d16 T).length (d16 T).length (i64.wrap (i64.wrap (xp a-xp b)-121)),true),(decide (vO (M10 a b V Q R S) (Za7 7) (d16 S).length+vO (M10 a b V Q R S) (Za7 9) (d16 1).length=T),true),(Z6 (M10 a b V Q R S) (Za7 7) (Za7 9) (d16 S).length (d16 S).length (d16 1).length (d16 1).length,true),(decide (0<(d16 S).length∨0<(d16 1).length),true),(decide (0≤(1:Int)∧(1:Int)<18446744073709551616),true),(decide (vO (M10 a b V Q R S) (Za7 7) (d16 S).length+vO (M10 a b V Q R S) (Za7 9) (d16 1).length=T),true),(Z6 (M10 a b V Q R S) (Za7 7) (Za7 9) (d16 S).length (d16 S).length (d16 1).length (d16 1).length,true),(decide (0<(d16 S).length∨0<(d16 1).length),true),(decide (0≤(1:Int)∧(1:Int)<18446744073709551616),true),(decide ((((d16 R).length:Nat):Int)>0),true),((wU (d16 S)).all Za2,true),((wU (d16 R)).all Za2,true),((wU (d16 Q)).all Za2,true),((wU (d16 (sg b).toNat)).all Za2,true),((wU (d16 V)).all Za2,true),((wU (d16 (sg a).toNat)).all Za2,true),(decide (vO (M8 a b V Q R) (Za7 5) (d16 Q).length*2^(1:Int).toNat=S),true),(Zpj (M8 a b V Q R) (Za7 5) (d16 Q).length (d16 Q).length 1,true),(decide (0<(d16 Q).length),true),(decide (vO (M7 a b V Q R) (Za7 5) (d16 Q).length*2^(1:Int).toNat=S),true),(Zpj (M7 a b V Q R) (Za7 5) (d16 Q).length (d16 Q).length 1,true),(decide (0<(d16 Q).length),true),(decide (vO (M5 a b V) (Za7 3) (d16 V).length/vO (M5 a b V) (Za7 4) (d16 (sg b).toNat).length=Q∧vO (M5 a b V) (Za7 3) (d16 V).length % vO (M5 a b V) (Za7 4) (d16 (sg b).toNat).length=R),true),(Zq2 (M5 a b V) (Za7 3) (Za7 4) (d16 V).length (d16 V).length (d16 (sg b).toNat).length (d16 (sg b).toNat).length,true),(decide (0≤sg b∧sg b<18446744073709551616),true),(decide (vO (M3 a b) (Za7 2) (d16 (sg a).toNat).length*2^(120:Int).toNat=V),true),(Zpj (M3 a b) (Za7 2) (d16 (sg a).toNat).length (d16 (sg a).toNat).length 120,true),(decide (0<(d16 (sg a).toNat).length),true),(decide (0≤sg a∧sg a<18446744073709551616),true),(cl b==0,false),(cl a==0,false),(cl b==3,false),(cl a==3,false),(cl a==0,false),(cl a==3,false),(decide (cl b>3),false),lU b,(decide (cl a>3),false),lU a,lU b,lU a]:=by and_intros<;>kernel_rfl
theorem Z3w (a b m:Int) (V Q R S:Nat):Zw (Ze (Zp prog Zh ZbN hcT) 300 18 [.int .u64 a,.int .u64 b,.int .i64 m] [cmp false,cmp false,cmp false,cmp false,cmp false,cmp false,cmp false,cmp false,cmp true,num V,num Q,num R,at_,num 1,at_,num 2,at_,num 8,num 2,cmp true,num S,num 89,num 13,cmp false,num S]) (.tuple #[.int .u64 (sS (prN a b) (rnP m (prN a b) S (i64.wrap (i64.wrap (xp a-xp b)-121)))),.int .i64 (rnF m (prN a b) S (i64.wrap (i64.wrap (xp a-xp b)-121)))]) [(decide (vO (M9 a b V Q R S) (Za7 7) (d16 S).length=S),true),(ZiR (M9 a b V Q R S) (Za7 7) (d16 S).length (d16 S).length (i64.wrap (i64.wrap (xp a-xp b)-121)),true),(decide ((((d16 R).length:Nat):Int)>0),false),((wU (d16 S)).all Za2,true),((wU (d16 R)).all Za2,true),((wU (d16 Q)).all Za2,true),((wU (d16 (sg b).toNat)).all Za2,true),((wU (d16 V)).all Za2,true),((wU (d16 (sg a).toNat)).all Za2,true),(decide (vO (M8 a b V Q R) (Za7 5) (d16 Q).length*2^(1:Int).toNat=S),true),(Zpj (M8 a b V Q R) (Za7 5) (d16 Q).length (d16 Q).length 1,true),(decide (0<(d16 Q).length),true),(decide (vO (M7 a b V Q R) (Za7 5) (d16 Q).length*2^(1:Int).toNat=S),true),(Zpj (M7 a b V Q R) (Za7 5) (d16 Q).length (d16 Q).length 1,true),(decide (0<(d16 Q).length),true),(decide (vO (M5 a b V) (Za7 3) (d16 V).length/vO (M5 a b V) (Za7 4) (d16 (sg b).toNat).length=Q∧vO (M5 a b V) (Za7 3) (d16 V).length % vO (M5 a b V) (Za7 4) (d16 (sg b).toNat).length=R),true),(Zq2 (M5 a b V) (Za7 3) (Za7 4) (d16 V).length (d16 V).length (d16 (sg b).toNat).length (d16 (sg b).toNat).length,true),(decide (0≤sg b∧sg b<18446744073709551616),true),(decide (vO (M3 a b) (Za7 2) (d16 (sg a).toNat).length*2^(120:Int).toNat=V),true),(Zpj (M3 a b) (Za7 2) (d16 (sg a).toNat).length (d16 (sg a).toNat).length 120,true),(decide (0<(d16 (sg a).toNat).length),true),(decide (0≤sg a∧sg a<18446744073709551616),true),(cl b==0,false),(cl a==0,false),(cl b==3,false),(cl a==3,false),(cl a==0,false),(cl a==3,false),(decide (cl b>3),false),lU b,(decide (cl a>3),false),lU a,lU b,lU a]:=by and_intros<;>kernel_rfl
theorem Z2h (a b m:Int):Zw (Ze (Zp prog Zh ZbN hcT) 300 18 [.int .u64 a,.int .u64 b,.int .i64 m] [cmp true,cmp true]) (.tuple #[.int .u64 9221120237041090560,.int .i64 1]) [(cl a==5,true),lU a,(decide (cl a>3),true),lU a,lU b,lU a]:=by and_intros<;>kernel_rfl
theorem Z2i (a b m:Int):Zw (Ze (Zp prog Zh ZbN hcT) 300 18 [.int .u64 a,.int .u64 b,.int .i64 m] [cmp true,cmp false,cmp true]) (.tuple #[.int .u64 9221120237041090560,.int .i64 1]) [(cl b==5,true),lU b,(cl a==5,false),lU a,(decide (cl a>3),true),lU a,lU b,lU a]:=by and_intros<;>kernel_rfl
theorem Z2j (a b m:Int):Zw (Ze (Zp prog Zh ZbN hcT) 300 18 [.int .u64 a,.int .u64 b,.int .i64 m] [cmp true,cmp false,cmp false]) (.tuple #[.int .u64 9221120237041090560,.int .i64 0]) [(cl b==5,false),lU b,(cl a==5,false),lU a,(decide (cl a>3),true),lU a,lU b,lU a]:=by and_intros<;>kernel_rfl
theorem Z2k (a b m:Int):Zw (Ze (Zp prog Zh ZbN hcT) 300 18 [.int .u64 a,.int .u64 b,.int .i64 m] [cmp false,cmp true,cmp false,cmp true]) (.tuple #[.int .u64 9221120237041090560,.int .i64 1]) [(cl b==5,true),lU b,(cl a==5,false),lU a,(decide (cl b>3),true),lU b,(decide (cl a>3),false),lU a,lU b,lU a]:=by and_intros<;>kernel_rfl
theorem Z2l (a b m:Int):Zw (Ze (Zp prog Zh ZbN hcT) 300 18 [.int .u64 a,.int .u64 b,.int .i64 m] [cmp false,cmp true,cmp false,cmp false]) (.tuple #[.int .u64 9221120237041090560,.int .i64 0]) [(cl b==5,false),lU b,(cl a==5,false),lU a,(decide (cl b>3),true),lU b,(decide (cl a>3),false),lU a,lU b,lU a]:=by and_intros<;>kernel_rfl
theorem Z2m (a b m:Int):Zw (Ze (Zp prog Zh ZbN hcT) 300 18 [.int .u64 a,.int .u64 b,.int .i64 m] [cmp false,cmp false,cmp true,cmp true]) (.tuple #[.int .u64 9221120237041090560,.int .i64 1]) [(cl b==3,true),(cl a==3,true),(decide (cl b>3),false),lU b,(decide (cl a>3),false),lU a,lU b,lU a]:=by and_intros<;>kernel_rfl
theorem Z2n (a b m:Int):Zw (Ze (Zp prog Zh ZbN hcT) 300 18 [.int .u64 a,.int .u64 b,.int .i64 m] [cmp false,cmp false,cmp false,cmp true,cmp true]) (.tuple #[.int .u64 9221120237041090560,.int .i64 1]) [(cl b==0,true),(cl a==0,true),(cl a==3,false),(decide (cl b>3),false),lU b,(decide (cl a>3),false),lU a,lU b,lU a]:=by and_intros<;>kernel_rfl
theorem Z2o (a b m:Int):Zw (Ze (Zp prog Zh ZbN hcT) 300 18 [.int .u64 a,.int .u64 b,.int .i64 m] [cmp false,cmp false,cmp true,cmp false,cmp false,cmp true]) (.tuple #[.int .u64 (sS (prN a b) 9218868437227405312),.int .i64 0]) [(decide ((0:Int)≤9218868437227405312∧9218868437227405312<9223372036854775808),true),(cl a==3,true),(cl a==0,false),(cl b==3,false),(cl a==3,true),(decide (cl b>3),false),lU b,(decide (cl a>3),false),lU a,lU b,lU a]:=by and_intros<;>kernel_rfl
theorem Z2p (a b m:Int):Zw (Ze (Zp prog Zh ZbN hcT) 300 18 [.int .u64 a,.int .u64 b,.int .i64 m] [cmp false,cmp false,cmp false,cmp false,cmp false,cmp true]) (.tuple #[.int .u64 (sS (prN a b) 0),.int .i64 0]) [(decide ((0:Int)≤0∧0<9223372036854775808),true),(cl b==3,true),(cl a==3,false),(cl a==0,false),(cl a==3,false),(decide (cl b>3),false),lU b,(decide (cl a>3),false),lU a,lU b,lU a]:=by and_intros<;>kernel_rfl
theorem Z2q (a b m:Int):Zw (Ze (Zp prog Zh ZbN hcT) 300 18 [.int .u64 a,.int .u64 b,.int .i64 m] [cmp false,cmp false,cmp false,cmp true,cmp false,cmp false,cmp true]) (.tuple #[.int .u64 (sS (prN a b) 0),.int .i64 0]) [(decide ((0:Int)≤0∧0<9223372036854775808),true),(cl b==3,true),(cl a==3,false),(cl b==0,false),(cl a==0,true),(cl a==3,false),(decide (cl b>3),false),lU b,(decide (cl a>3),false),lU a,lU b,lU a]:=by and_intros<;>kernel_rfl
theorem Z2r (a b m:Int):Zw (Ze (Zp prog Zh ZbN hcT) 300 18 [.int .u64 a,.int .u64 b,.int .i64 m] [cmp false,cmp false,cmp false,cmp true,cmp false,cmp false,cmp false,cmp true]) (.tuple #[.int .u64 (sS (prN a b) 0),.int .i64 0]) [(decide ((0:Int)≤0∧0<9223372036854775808),true),(cl a==0,true),(cl b==3,false),(cl a==3,false),(cl b==0,false),(cl a==0,true),(cl a==3,false),(decide (cl b>3),false),lU b,(decide (cl a>3),false),lU a,lU b,lU a]:=by and_intros<;>kernel_rfl
theorem Z2s (a b m:Int):Zw (Ze (Zp prog Zh ZbN hcT) 300 18 [.int .u64 a,.int .u64 b,.int .i64 m] [cmp false,cmp false,cmp false,cmp false,cmp false,cmp false,cmp false,cmp true]) (.tuple #[.int .u64 (sS (prN a b) 9218868437227405312),.int .i64 2]) [(decide ((0:Int)≤9218868437227405312∧9218868437227405312<9223372036854775808),true),(cl b==0,true),(cl a==0,false),(cl b==3,false),(cl a==3,false),(cl a==0,false),(cl a==3,false),(decide (cl b>3),false),lU b,(decide (cl a>3),false),lU a,lU b,lU a]:=by and_intros<;>kernel_rfl
def vRD (m a b:Int):Value:= .tuple #[.int .u64 (quP m a b),.int .i64 (quF m a b)]
theorem Zuq {m a b:Int}(h:sg a=0):dvP m a b=0∧dvF m a b=0:=by
 have e:dvT a b=0:=by unfold dvT dvK;rw[h];simp
 unfold dvP dvF rnP rnF;rw[e,if_pos rfl,if_pos rfl];exact⟨rfl,rfl⟩
theorem Zp1 (a b m:Int) (ha:U a) (hb:U b) (ca:cl a=1∨cl a=2) (cb:cl b=1∨cl b=2) (w:World):Calls prog 18 #[.int .u64 a,.int .u64 b,.int .i64 m] w fun r w'=>r= .returned (vRD m a b)∧zg w w':=by
 have hv:([.int .u64 a,.int .u64 b,.int .i64 m].all (lt 0))=true:=rfl;have T0:=Zg ZhN Zq3;have ka:decide (U a)=true:=Xa ha;have kb:decide (U b)=true:=Xa hb;have sa:=ZbK a;have sb:=ZbK b;have na:sg a≠0:=fun h=>by have:=(ZeM (p:=a) (by omega)).1 h;omega
 have nb:sg b≠0:=fun h=>by have:=(ZeM (p:=b) (by omega)).1 h;omega
 have xa:=ZbJ a;have xb:=ZbJ b;have eX:(i64.wrap (i64.wrap (xp a-xp b)-121))=xp a-xp b-121:=by
  rw[ZY (n:=xp a-xp b) ⟨by omega,by omega⟩,ZY ⟨by omega,by omega⟩]
 have eE: -400000≤(i64.wrap (i64.wrap (xp a-xp b)-121))∧(i64.wrap (i64.wrap (xp a-xp b)-121))≤400000:=by rw[eX];omega
 obtain⟨V,hV⟩:∃ V,V=(sg a).toNat*2^120:=⟨_,rfl⟩;obtain⟨Q,hQ⟩:∃ Q,Q=V/(sg b).toNat:=⟨_,rfl⟩;obtain⟨R,hR⟩:∃ R,R=V % (sg b).toNat:=⟨_,rfl⟩;obtain⟨S,hS⟩:∃ S,S=Q*2^1:=⟨_,rfl⟩;obtain⟨T,hT⟩:∃ T,T=S+1:=⟨_,rfl⟩;have p120:(2:Nat)^120=1329227995784915872903807060280344576:=rfl;have vB:V<2^(16*11):=by
  have:(2:Nat)^(16*11)=95780971304118053647396689196894323976171195136475136:=rfl;rw[hV,p120,this];omega
 have v1:(sg b).toNat≤V:=by rw[hV,p120];omega
 have qB:Q≤V:=by rw[hQ];exact Nat.div_le_self _ _
 have q0:0<Q:=by rw[hQ];exact Nat.div_pos v1 (by omega)
 have rB:R<(sg b).toNat:=by rw[hR];exact Nat.mod_lt _ (by omega)
 have e53:(2:Nat)^(16*4)=18446744073709551616:=rfl;have l1:=zI (A:=(sg a).toNat) (k:=4) (by omega);have l2:=zI (A:=(sg b).toNat) (k:=4) (by omega);have l3:=zI (A:=V) (k:=11) vB;have l4:=zI (A:=Q) (k:=11) (by omega);have l5:=zI (A:=R) (k:=4) (by omega);have e12:(2:Nat)^(16*12)=2^(16*11)*65536:=by rw[← Nat.pow_add 2 (16*11) 16]
 have l6:=zI (A:=S) (k:=12) (by omega);have l7:=zI (A:=T) (k:=12) (by omega);have l8:=zI (A:=1) (k:=1) (by decide);have z1:0<(d16 (sg a).toNat).length:=Zc5.2 (by omega);have z2:0<(d16 (sg b).toNat).length:=Zc5.2 (by omega);have z3:0<(d16 V).length:=Zc5.2 (by omega);have z4:0<(d16 Q).length:=Zc5.2 q0;have z5:0<(d16 R).length↔0<R:=Zc5;have z8:0<(d16 1).length:=Zc5.2 (by omega);obtain⟨e1,e2⟩:quP m a b=sS (prN a b) (dvP m a b)∧quF m a b=dvF m a b:=by
  unfold quP quF;have h0:¬ (3<cl a∨3<cl b):=by omega
  have h1:¬ ((cl a=0∧cl b=0)∨(cl a=3∧cl b=3)):=by omega
  have h2:¬ cl a=3:=by omega
  have h3:¬ cl b=3:=by omega
  have h4:¬ cl b=0:=by omega
  rw[if_neg h0,if_neg h0,if_neg h1,if_neg h1,if_neg h2,if_neg h2,if_neg h3,if_neg h3,if_neg h4,if_neg h4];exact⟨rfl,rfl⟩
 obtain⟨d1,d2⟩:=ZxW (m:=m) (a:=a) (b:=b) nb;have hK:dvK (sg a).toNat (sg b).toNat 120=S+(if R=0 then 0 else 1):=by
  unfold dvK;rw[← hV,← hQ,← hR,hS];omega
 rw[hK] at d1 d2;unfold vRD;rw[e1,e2,← d1,← d2,← eX];by_cases r0:R=0
 ·rw[if_pos r0,Nat.add_zero];have z5:¬ 0<(d16 R).length:=fun h=>by have:=z5.1 h;omega
  exact Zb T0 (Z3w a b m V Q R S) (Za (Xa (ZbA (V:=S) rfl)) (Za (oRo (V:=S) rfl (by omega) eE) (Za (Xb (by omega)) (Za (zF _) (Za (zF _) (Za (zF _) (Za (zF _) (Za (zF _) (Za (zF _) (Za (Xa (by rw[ZbA (V:=Q) rfl];exact hS.symm)) (Za (oSh (k:=1) (V:=Q) rfl (by omega) (by omega)) (Za (Xa (by omega)) (Za (Xa (by rw[ZbA (V:=Q) rfl];exact hS.symm)) (Za (oSh (k:=1) (V:=Q) rfl (by omega) (by omega)) (Za (Xa (by omega)) (Za (Xa (by rw[ZbA (V:=V) rfl,ZbA (V:=(sg b).toNat) rfl];exact⟨hQ.symm,hR.symm⟩)) (Za (oPa (V:=V) (W:=(sg b).toNat) rfl rfl (by omega) (by omega) (by omega) (by omega)) (Za (Xa ⟨by omega,by omega⟩) (Za (Xa (by rw[ZbA (V:=(sg a).toNat) rfl];exact hV.symm)) (Za (oSh (k:=120) (V:=(sg a).toNat) rfl (by omega) (by omega)) (Za (Xa (by omega)) (Za (Xa ⟨by omega,by omega⟩) (Za (Zq (by omega)) (Za (Zq (by omega)) (Za (Zq (by omega)) (Za (Zq (by omega)) (Za (Zq (by omega)) (Za (Zq (by omega)) (Za (Xb (by omega)) (Za kb (Za (Xb (by omega)) (Za ka (Za kb (Zz ka)))))))))))))))))))))))))))))))))) hv (by rfl) w
 ·rw[if_neg r0,← hT];have z5:0<(d16 R).length:=z5.2 (by omega);exact Zb T0 (Z3v a b m V Q R S T) (Za (Xa (ZbA (V:=T) rfl)) (Za (oRo (V:=T) rfl (by omega) eE) (Za (Xa (by rw[ZbA (V:=S) rfl,ZbA (V:=1) rfl];exact hT.symm)) (Za (Z26 (V:=S) (W:=1) rfl rfl (by omega) (by omega)) (Za (Xa (by omega)) (Za (by decide) (Za (Xa (by rw[ZbA (V:=S) rfl,ZbA (V:=1) rfl];exact hT.symm)) (Za (Z26 (V:=S) (W:=1) rfl rfl (by omega) (by omega)) (Za (Xa (by omega)) (Za (by decide) (Za (Xa (by omega)) (Za (zF _) (Za (zF _) (Za (zF _) (Za (zF _) (Za (zF _) (Za (zF _) (Za (Xa (by rw[ZbA (V:=Q) rfl];exact hS.symm)) (Za (oSh (k:=1) (V:=Q) rfl (by omega) (by omega)) (Za (Xa (by omega)) (Za (Xa (by rw[ZbA (V:=Q) rfl];exact hS.symm)) (Za (oSh (k:=1) (V:=Q) rfl (by omega) (by omega)) (Za (Xa (by omega)) (Za (Xa (by rw[ZbA (V:=V) rfl,ZbA (V:=(sg b).toNat) rfl];exact⟨hQ.symm,hR.symm⟩)) (Za (oPa (V:=V) (W:=(sg b).toNat) rfl rfl (by omega) (by omega) (by omega) (by omega)) (Za (Xa ⟨by omega,by omega⟩) (Za (Xa (by rw[ZbA (V:=(sg a).toNat) rfl];exact hV.symm)) (Za (oSh (k:=120) (V:=(sg a).toNat) rfl (by omega) (by omega)) (Za (Xa (by omega)) (Za (Xa ⟨by omega,by omega⟩) (Za (Zq (by omega)) (Za (Zq (by omega)) (Za (Zq (by omega)) (Za (Zq (by omega)) (Za (Zq (by omega)) (Za (Zq (by omega)) (Za (Xb (by omega)) (Za kb (Za (Xb (by omega)) (Za ka (Za kb (Zz ka)))))))))))))))))))))))))))))))))))))))))) hv (by rfl) w
theorem Zje (a b m:Int) (ha:U a) (hb:U b) (w:World):Calls prog 18 #[.int .u64 a,.int .u64 b,.int .i64 m] w fun r w'=>r= .returned (vRD m a b)∧zg w w':=by
 have hv:([.int .u64 a,.int .u64 b,.int .i64 m].all (lt 0))=true:=rfl;have T:=Zg ZhN Zq3;have ka:decide (U a)=true:=Xa ha;have kb:decide (U b)=true:=Xa hb;have ba:=Zd0 a;have bb:=Zd0 b;by_cases hf:(cl a=1∨cl a=2)∧(cl b=1∨cl b=2)
 ·exact Zp1 a b m ha hb hf.1 hf.2 w
 unfold vRD quP quF;by_cases ha3:3<cl a
 ·rw[if_pos (.inl ha3),if_pos (.inl ha3)];by_cases a5:cl a=5
  ·rw[if_pos (.inl a5)];exact Zb T (Z2h a b m) (Za (Z1 (by omega)) (Za ka (Za (Xa (by omega)) (Za ka (Za kb (Zz ka)))))) hv (by rfl) w
  ·by_cases b5:cl b=5
   ·rw[if_pos (.inr b5)];exact Zb T (Z2i a b m) (Za (Z1 (by omega)) (Za kb (Za (Zq (by omega)) (Za ka (Za (Xa (by omega)) (Za ka (Za kb (Zz ka)))))))) hv (by rfl) w
   ·rw[if_neg (by omega)];exact Zb T (Z2j a b m) (Za (Zq (by omega)) (Za kb (Za (Zq (by omega)) (Za ka (Za (Xa (by omega)) (Za ka (Za kb (Zz ka)))))))) hv (by rfl) w
 ·by_cases hb3:3<cl b
  ·rw[if_pos (.inr hb3),if_pos (.inr hb3)];by_cases b5:cl b=5
   ·rw[if_pos (.inr b5)];exact Zb T (Z2k a b m) (Za (Z1 (by omega)) (Za kb (Za (Zq (by omega)) (Za ka (Za (Xa (by omega)) (Za kb (Za (Xb (by omega)) (Za ka (Za kb (Zz ka)))))))))) hv (by rfl) w
   ·rw[if_neg (by omega)];exact Zb T (Z2l a b m) (Za (Zq (by omega)) (Za kb (Za (Zq (by omega)) (Za ka (Za (Xa (by omega)) (Za kb (Za (Xb (by omega)) (Za ka (Za kb (Zz ka)))))))))) hv (by rfl) w
  ·have hno:¬ (3<cl a∨3<cl b):=by omega
   rw[if_neg hno,if_neg hno];by_cases az:cl a=0
   ·by_cases bz:cl b=0
    ·rw[if_pos (.inl ⟨az,bz⟩),if_pos (.inl ⟨az,bz⟩)];exact Zb T (Z2n a b m) (Za (Z1 (by omega)) (Za (Z1 (by omega)) (Za (Zq (by omega)) (Za (Xb (by omega)) (Za kb (Za (Xb (by omega)) (Za ka (Za kb (Zz ka))))))))) hv (by rfl) w
    ·have hn2:¬ ((cl a=0∧cl b=0)∨(cl a=3∧cl b=3)):=by omega
     have a3:¬ cl a=3:=by omega
     rw[if_neg hn2,if_neg hn2,if_neg a3,if_neg a3];by_cases b3:cl b=3
     ·rw[if_pos b3,if_pos b3];exact Zb T (Z2q a b m) (Za (by decide) (Za (Z1 (by omega)) (Za (Zq (by omega)) (Za (Zq (by omega)) (Za (Z1 (by omega)) (Za (Zq (by omega)) (Za (Xb (by omega)) (Za kb (Za (Xb (by omega)) (Za ka (Za kb (Zz ka)))))))))))) hv (by rfl) w
     ·rw[if_neg b3,if_neg b3,if_neg bz,if_neg bz];obtain⟨d1,d2⟩:=Zuq (m:=m) (b:=b) ((ZeM (p:=a) (by omega)).2 az);rw[d1,d2];exact Zb T (Z2r a b m) (Za (by decide) (Za (Z1 (by omega)) (Za (Zq (by omega)) (Za (Zq (by omega)) (Za (Zq (by omega)) (Za (Z1 (by omega)) (Za (Zq (by omega)) (Za (Xb (by omega)) (Za kb (Za (Xb (by omega)) (Za ka (Za kb (Zz ka))))))))))))) hv (by rfl) w
   ·by_cases a3:cl a=3
    ·by_cases b3:cl b=3
     ·rw[if_pos (.inr ⟨a3,b3⟩),if_pos (.inr ⟨a3,b3⟩)];exact Zb T (Z2m a b m) (Za (Z1 (by omega)) (Za (Z1 (by omega)) (Za (Xb (by omega)) (Za kb (Za (Xb (by omega)) (Za ka (Za kb (Zz ka)))))))) hv (by rfl) w
     ·have hn2:¬ ((cl a=0∧cl b=0)∨(cl a=3∧cl b=3)):=by omega
      rw[if_neg hn2,if_neg hn2,if_pos a3,if_pos a3];exact Zb T (Z2o a b m) (Za (by decide) (Za (Z1 (by omega)) (Za (Zq (by omega)) (Za (Zq (by omega)) (Za (Z1 (by omega)) (Za (Xb (by omega)) (Za kb (Za (Xb (by omega)) (Za ka (Za kb (Zz ka))))))))))) hv (by rfl) w
    ·have hn2:¬ ((cl a=0∧cl b=0)∨(cl a=3∧cl b=3)):=by omega
     rw[if_neg hn2,if_neg hn2,if_neg a3,if_neg a3];by_cases b3:cl b=3
     ·rw[if_pos b3,if_pos b3];exact Zb T (Z2p a b m) (Za (by decide) (Za (Z1 (by omega)) (Za (Zq (by omega)) (Za (Zq (by omega)) (Za (Zq (by omega)) (Za (Xb (by omega)) (Za kb (Za (Xb (by omega)) (Za ka (Za kb (Zz ka))))))))))) hv (by rfl) w
     ·rw[if_neg b3,if_neg b3];have bz:cl b=0:=by omega
      rw[if_pos bz,if_pos bz];exact Zb T (Z2s a b m) (Za (by decide) (Za (Z1 (by omega)) (Za (Zq (by omega)) (Za (Zq (by omega)) (Za (Zq (by omega)) (Za (Zq (by omega)) (Za (Zq (by omega)) (Za (Xb (by omega)) (Za kb (Za (Xb (by omega)) (Za ka (Za kb (Zz ka))))))))))))) hv (by rfl) w
def gRD:Ans:=fun vals s=>
 match vals with
 | [.int .u64 a,.int .u64 b,.int .i64 m]=>some (vRD m a b,s,[(decide (U a∧U b),true)])
 | _=>none
theorem ZyF:ZJ 18 gRD:=by
 intro vals s v s' lg h hl w;unfold gRD at h;split at h
 ·cases h;obtain⟨h1,h2⟩:=Xc (hl _ Xf);exact Zje _ _ _ h1 h2 w
 ·cases h
end Go.Proofs.YtekebccjflilnaaGreat
namespace Go.Proofs.YtekebccjflilnaaGreat
open Go.KRun Go.Wd Go.Pt Go.Rn
set_option maxRecDepth 100000
theorem ZyG (m a b:Int):0≤quF m a b∧quF m a b≤24:=by
 have h':0≤dvF m a b∧dvF m a b≤24:=by
  unfold dvF rnF;split
  ·omega
  ·split
   ·omega
   ·split
    ·split<;>omega
    ·omega
 unfold quF;split
 ·split<;>omega
 split
 ·omega
 split
 ·omega
 split
 ·omega
 split
 ·omega
 ·exact h'
end Go.Proofs.YtekebccjflilnaaGreat
namespace Go.Proofs.YtekebccjflilnaaGreat
open Go.Proofs.Tryz
open Go.KRun Go.Wd Go.Pt Go.Rn
set_option maxRecDepth 100000
def gXP (k:Int→Int→Int→Value):Ans:=fun vals s=>
 match vals with
 | [.agg ⟨[.int .u64 a,.int .u64 b]⟩,.int .u64 p]=>some (k a b p,s,[(decide (U a∧U b∧U p),true)])
 | _=>none
theorem ZhV {f:Nat}{k:Int→Int→Int→Value}(hk:∀ a b p:Int,U a→U b→U p→∀ w,Calls prog f #[pX a b,.int .u64 p] w fun e w'=>e= .returned (k a b p)∧zg w w'):ZJ f (gXP k):=by
 intro vals s v s' lg h hl w;unfold gXP at h;split at h
 ·cases h;obtain⟨h1,h2,h3⟩:=Xc (hl _ Xf);exact hk _ _ _ h1 h2 h3 w
 ·cases h
def Zzd (k:Int→Int→Int→Int→Int→Value):Ans:=fun vals s=>
 match vals with
 | [.agg ⟨[.int .u64 a,.int .u64 b]⟩,.int .u64 p,.agg ⟨[.int .u64 c,.int .u64 d]⟩]=>some (k a b p c d,s,[(decide (U a∧U b∧U p∧U c∧U d),true)])
 | _=>none
theorem Zm2 {f:Nat}{k:Int→Int→Int→Int→Int→Value}(hk:∀ a b p c d:Int,U a→U b→U p→U c→U d→∀ w,Calls prog f #[pX a b,.int .u64 p,pX c d] w fun e w'=>e= .returned (k a b p c d)∧zg w w'):ZJ f (Zzd k):=by
 intro vals s v s' lg h hl w;unfold Zzd at h;split at h
 ·cases h;obtain⟨h1,h2,h3,h4,h5⟩:=Xc (hl _ Xf);exact hk _ _ _ _ _ h1 h2 h3 h4 h5 w
 ·cases h
def ccV (a b p:Int):Value:=cpB (muP 0 a p) (muP 0 b p) (orB (muF 0 a p) (muF 0 b p))
def rcV (a b p:Int):Value:=cpI (muP 0 a p) (muP 0 b p) (orI (muF 0 a p) (muF 0 b p))
def cvV (a b p:Int):Value:=cpB (quP 0 a p) (quP 0 b p) (orB (quF 0 a p) (quF 0 b p))
def rvV (a b p:Int):Value:=cpI (quP 0 a p) (quP 0 b p) (orI (quF 0 a p) (quF 0 b p))
def Zur (a b p c d:Int):Value:=cpB (fmP 0 a p c) (fmP 0 b p d) (orB (fmF 0 a p c) (fmF 0 b p d))
def Zus (a b p c d:Int):Value:=cpI (fmP 0 a p c) (fmP 0 b p d) (orI (fmF 0 a p c) (fmF 0 b p d))
theorem Z3x (a b p:Int):Zw (Ze (Zi prog Zh ZiW true) 300 4 [pX a b,.int .u64 p] []) (ccV a b p) [(decide (U b∧U p),true),(decide (U a∧U p),true)]:=by and_intros<;>kernel_rfl
theorem Zjf (a b p:Int) (ha:U a) (hb:U b) (hp:U p) (w:World):Calls prog 4 #[pX a b,.int .u64 p] w fun r w'=>r= .returned (ccV a b p)∧zg w w':=
 Zb (Zf Zcf) (Z3x a b p) (Za (Xa ⟨hb,hp⟩) (Zz (Xa ⟨ha,hp⟩))) rfl (by rfl) w
theorem Z2t (a b p:Int):Zw (Ze (Zi prog Zh ZiW true) 300 6 [pX a b,.int .u64 p] []) (rcV a b p) [(decide (U b∧U p),true),(decide (U a∧U p),true)]:=by and_intros<;>kernel_rfl
theorem ZgC (a b p:Int) (ha:U a) (hb:U b) (hp:U p) (w:World):Calls prog 6 #[pX a b,.int .u64 p] w fun r w'=>r= .returned (rcV a b p)∧zg w w':=
 Zb (Zf Zcf) (Z2t a b p) (Za (Xa ⟨hb,hp⟩) (Zz (Xa ⟨ha,hp⟩))) rfl (by rfl) w
theorem Z3y (a b p c d:Int):Zw (Ze (Zi prog Zh ZiW true) 300 9 [pX a b,.int .u64 p,pX c d] []) (Zur a b p c d) [(decide (U b∧U p∧U d),true),(decide (U a∧U p∧U c),true)]:=by and_intros<;>kernel_rfl
theorem Zjg (a b p c d:Int) (ha:U a) (hb:U b) (hp:U p) (hc:U c) (hd:U d) (w:World):Calls prog 9 #[pX a b,.int .u64 p,pX c d] w fun r w'=>r= .returned (Zur a b p c d)∧zg w w':=
 Zb (Zf Zcf) (Z3y a b p c d) (Za (Xa ⟨hb,hp,hd⟩) (Zz (Xa ⟨ha,hp,hc⟩))) rfl (by rfl) w
theorem Z2u (a b p c d:Int):Zw (Ze (Zi prog Zh ZiW true) 300 10 [pX a b,.int .u64 p,pX c d] []) (Zus a b p c d) [(decide (U b∧U p∧U d),true),(decide (U a∧U p∧U c),true)]:=by and_intros<;>kernel_rfl
theorem ZgD (a b p c d:Int) (ha:U a) (hb:U b) (hp:U p) (hc:U c) (hd:U d) (w:World):Calls prog 10 #[pX a b,.int .u64 p,pX c d] w fun r w'=>r= .returned (Zus a b p c d)∧zg w w':=
 Zb (Zf Zcf) (Z2u a b p c d) (Za (Xa ⟨hb,hp,hd⟩) (Zz (Xa ⟨ha,hp,hc⟩))) rfl (by rfl) w
def Zut:Con:=alt 17 gQD (alt 18 gRD ZoX)
theorem ZhW:ConOk Zut:=Zy func17 rfl ZyE (Zy func18 rfl ZyF ZeZ)
theorem Z3z (a b p:Int):Zw (Ze (Zi prog Zh Zut true) 300 7 [pX a b,.int .u64 p] []) (cvV a b p) [(decide (U b∧U p),true),(decide (U a∧U p),true)]:=by and_intros<;>kernel_rfl
theorem Zjh (a b p:Int) (ha:U a) (hb:U b) (hp:U p) (w:World):Calls prog 7 #[pX a b,.int .u64 p] w fun r w'=>r= .returned (cvV a b p)∧zg w w':=
 Zb (Zf ZhW) (Z3z a b p) (Za (Xa ⟨hb,hp⟩) (Zz (Xa ⟨ha,hp⟩))) rfl (by rfl) w
theorem Z2v (a b p:Int):Zw (Ze (Zi prog Zh Zut true) 300 8 [pX a b,.int .u64 p] []) (rvV a b p) [(decide (U b∧U p),true),(decide (U a∧U p),true)]:=by and_intros<;>kernel_rfl
theorem ZgE (a b p:Int) (ha:U a) (hb:U b) (hp:U p) (w:World):Calls prog 8 #[pX a b,.int .u64 p] w fun r w'=>r= .returned (rvV a b p)∧zg w w':=
 Zb (Zf ZhW) (Z2v a b p) (Za (Xa ⟨hb,hp⟩) (Zz (Xa ⟨ha,hp⟩))) rfl (by rfl) w
theorem ZyH (m a b:Int):fl5 (quF m a b):=by have:=ZyG m a b;unfold fl5;omega
def ZyI:Con:=alt 4 (gXP ccV) (alt 6 (gXP rcV) (alt 7 (gXP cvV) (alt 8 (gXP rvV) (alt 9 (Zzd Zur) (alt 10 (Zzd Zus) (alt 11 gIs ZxE))))))
theorem Zp2:ConOk ZyI:=Zy func4 rfl (ZhV Zjf) (Zy func6 rfl (ZhV ZgC) (Zy func7 rfl (ZhV Zjh) (Zy func8 rfl (ZhV ZgE) (Zy func9 rfl (Zm2 Zjg) (Zy func10 rfl (Zm2 ZgD) (Zy func11 rfl ZxB ZoZ))))))
end Go.Proofs.YtekebccjflilnaaGreat
namespace Go.KRun
open Go.ChangeShapes Go.WideShapes Go.ChangeAt Go.RowKit Go.Joins
theorem ZgF {w w':World}(h:zg w w') (a:Addr):w'.frozen? a=w.frozen? a:=by
 unfold World.frozen?;by_cases h1:a.block<w.heap.size
 ·rw[h.1.block _ h1]
 ·rw[Array.getElem?_eq_none (by omega:w.heap.size≤a.block)];by_cases h2:a.block<w'.heap.size
  ·have h3:=h.2 a.block (by omega) h2;unfold ZuA at h3;split
   ·rename_i c e lo hi hc;have:=h3 _ _ _ hc;cases this;simp
   ·rfl
  ·rw[Array.getElem?_eq_none (by omega:w'.heap.size≤a.block)]
theorem ZaJ {n:Int}(h:(Lit.int .u64 n).wf=true):0≤n∧n<18446744073709551616:=by
 simp [Lit.wf,IntKind.min,IntKind.max,IntKind.signed,IntKind.bits] at h;omega
def okC:List (Option IntKind)→List Value→Prop
 | [],[]=>True
 | none::l,v::vs=>(∃ b,v= .bool b)∧okC l vs
 | some k::l,v::vs=>(∃ n,v= .int k n∧(Lit.int k n).wf=true)∧okC l vs
 | _,_=>False
theorem Zb7:∀ {l1:List (Option IntKind)}{v1:List Value}{l2:List (Option IntKind)}{v2:List Value},okC l1 v1→okC l2 v2→okC (l1++l2) (v1++v2)
 | [],[],_,_,_,h2=>by simpa using h2
 | none::l,v::vs,_,_,h1,h2=>⟨h1.1,Zb7 (l1:=l) (v1:=vs) h1.2 h2⟩
 | some k::l,v::vs,_,_,h1,h2=>⟨h1.1,Zb7 (l1:=l) (v1:=vs) h1.2 h2⟩
 | [],_::_,_,_,h1,_=>h1.elim
 | none::_,[],_,_,h1,_=>h1.elim
 | some _::_,[],_,_,h1,_=>h1.elim
theorem Zb8:∀ {l:List (Option IntKind)}{vs:List Value},okC l vs→vs.length=l.length
 | [],[],_=>rfl
 | none::l,v::vs,h=>by simp [Zb8 (l:=l) h.2]
 | some k::l,v::vs,h=>by simp [Zb8 (l:=l) h.2]
 | [],_::_,h=>h.elim
 | none::_,[],h=>h.elim
 | some _::_,[],h=>h.elim
def ZdB (P:Program) (q:TypeId→Option (List (Option IntKind))):Nat→List Field→Option (List (Option IntKind))
 | _,[]=>some []
 | off,f::fs=>
  match q f.type with
  | some l=>
   if (Nat.beq f.offset off && Nat.beq (P.cellsOf f.type) l.length)=true then
    match ZdB P q (off+l.length) fs with
    | some r=>some (l++r)
    | none=>none
   else none
  | none=>none
def Za6 (P:Program) (e:TypeId) (l:List (Option IntKind)):Nat→List (Option IntKind)
 | 0=>[]
 | n+1=>l++Za6 P e l n
def z9 (P:Program):Nat→TypeId→Option (List (Option IntKind))
 | 0,_=>none
 | n+1,t=>
  match P.underlying t with
  | some .bool=>some [none]
  | some (.int k)=>some [some k]
  | some (.struct fs)=>
   match ZdB P (z9 P n) 0 fs.toList with
   | some l=>if Nat.beq (P.cellsOf t) l.length=true then some l else none
   | none=>none
  | some (.array m e)=>
   match z9 P n e with
   | some l=>if (Nat.beq (P.cellsOf e) l.length && Nat.beq (P.cellsOf t) (Za6 P e l m).length)=true then some (Za6 P e l m) else none
   | none=>none
  | _=>none
theorem Zq9 {α:Type}(cs:List α) (off a b:Nat):((cs.drop off).take (a+b))=((cs.drop off).take a)++((cs.drop (off+a)).take b):=by
 rw[List.take_add,List.drop_drop]
section
variable {H : Type} {enc : TypeId × Value → H} {P : Program}
def Zm3 (enc:TypeId×Value→H) (P:Program) (t:TypeId) (L:List (Option IntKind)):Prop:=
 ∀ w base spare held fuel cs x,DataW.trod enc P w base spare held fuel t cs=some x→okC L cs∧x.2=[]∧∀ w' base' spare' held',DataW.trod enc P w' base' spare' held' fuel t cs=some x
theorem ZdC {q:TypeId→Option (List (Option IntKind))}(hq:∀ t L,q t=some L→Zm3 enc P t L) {w:World}{base:Nat}{spare:Nat→Bool}{held:Bool}{fuel:Nat}{cs:List Value}:
  ∀ (fs:List Field) (off:Nat) (L:List (Option IntKind)),ZdB P q off fs=some L→∀ xs,fs.mapM (fun f=>DataW.trod enc P w base spare held fuel f.type ((cs.drop f.offset).take (P.cellsOf f.type)))=some xs→
   okC L ((cs.drop off).take L.length)∧xs.flatMap (·.2)=[]∧∀ w' base' spare' held',fs.mapM (fun f=>DataW.trod enc P w' base' spare' held' fuel f.type ((cs.drop f.offset).take (P.cellsOf f.type)))=some xs
 | [],off,L,hL,xs,hx=>by
  simp only[ZdB] at hL;cases hL;simp at hx;subst hx;exact⟨by simp [okC],by simp,fun _ _ _ _=>by simp⟩
 | f::fs,off,L,hL,xs,hx=>by
  unfold ZdB at hL;split at hL
  ·rename_i l hl;split at hL
   ·rename_i hc;simp only[Xh] at hc;have ho:=Xj hc.1;have hs:=Xj hc.2;split at hL
    ·rename_i r hr;cases hL;rw[List.mapM_cons] at hx;simp only[bind,Option.bind_eq_some_iff,pure,Option.some.injEq] at hx;obtain⟨y,hy,ys,hys,rfl⟩:=hx;obtain⟨a1,a2,a3⟩:=hq _ _ hl _ _ _ _ _ _ _ hy;obtain⟨b1,b2,b3⟩:=ZdC hq fs (off+l.length) r hr ys hys;rw[ho,hs] at a1;refine⟨?_,?_,fun w' base' spare' held'=> ?_⟩
     ·rw[List.length_append,Zq9];exact Zb7 a1 b1
     ·simp [a2,b2]
     ·rw[List.mapM_cons,a3 w' base' spare' held',b3 w' base' spare' held'];rfl
    ·cases hL
   ·cases hL
  ·cases hL
theorem Zeq {e:TypeId}{l:List (Option IntKind)}(hl:Zm3 enc P e l) (hs:P.cellsOf e=l.length) {w:World}{base:Nat}{spare:Nat→Bool}{held:Bool}{fuel:Nat}{cs:List Value}:
  ∀ (n k:Nat) xs,(List.range' k n).mapM (fun i=>DataW.trod enc P w base spare held fuel e ((cs.drop (i*P.cellsOf e)).take (P.cellsOf e)))=some xs→
   okC (Za6 P e l n) ((cs.drop (k*l.length)).take (Za6 P e l n).length)∧xs.flatMap (·.2)=[]∧∀ w' base' spare' held',(List.range' k n).mapM (fun i=>DataW.trod enc P w' base' spare' held' fuel e ((cs.drop (i*P.cellsOf e)).take (P.cellsOf e)))=some xs
 | 0,k,xs,hx=>by
  simp at hx;subst hx;exact⟨by simp [Za6,okC],by simp,fun _ _ _ _=>by simp⟩
 | n+1,k,xs,hx=>by
  rw[List.range'_succ,List.mapM_cons] at hx;simp only[bind,Option.bind_eq_some_iff,pure,Option.some.injEq] at hx;obtain⟨y,hy,ys,hys,rfl⟩:=hx;obtain⟨a1,a2,a3⟩:=hl _ _ _ _ _ _ _ hy;obtain⟨b1,b2,b3⟩:=Zeq hl hs n (k+1) ys hys;rw[hs] at a1;refine⟨?_,?_,fun w' base' spare' held'=> ?_⟩
  ·show okC (l++Za6 P e l n) _;rw[show (Za6 P e l (n+1)).length=l.length+(Za6 P e l n).length by simp [Za6],Zq9];rw[Nat.add_mul,Nat.one_mul] at b1;exact Zb7 a1 b1
  ·simp [a2,b2]
  ·rw[List.range'_succ,List.mapM_cons,a3 w' base' spare' held',b3 w' base' spare' held'];rfl
theorem ZgG:∀ (n:Nat) (t:TypeId) (L:List (Option IntKind)),z9 P n t=some L→Zm3 enc P t L
 | 0,t,L,h=>by simp [z9] at h
 | n+1,t,L,h=>by
  intro w base spare held fuel cs x hx;cases fuel with
  | zero=>simp [DataW.trod] at hx
  | succ fuel=>
   unfold z9 at h;split at h
   ·rename_i hu;cases h;obtain⟨b,rfl,rfl⟩:=DataW.trod_bool hu hx;exact⟨⟨⟨b,rfl⟩,trivial⟩,rfl,fun _ _ _ _=>by simp [DataW.trod,hu]⟩
   ·rename_i k hu;cases h;obtain⟨a,rfl,rfl,hw⟩:=DataW.trod_int hu hx;exact⟨⟨⟨a,rfl,hw⟩,trivial⟩,rfl,fun _ _ _ _=>by simp [DataW.trod,hu,hw]⟩
   ·rename_i fs hu;split at h
    ·rename_i l hl;split at h
     ·rename_i hc;cases h;have hc:=Xj hc;have key:∀ (w:World) (base:Nat) (spare:Nat→Bool) (held:Bool),DataW.trod enc P w base spare held (fuel+1) t cs=if cs.length=P.cellsOf t then (fs.toList.mapM fun f=>DataW.trod enc P w base spare held fuel f.type ((cs.drop f.offset).take (P.cellsOf f.type))).map fun xs=>(.agg (xs.map (·.1)),xs.flatMap (·.2)) else none:=fun w base spare held=>by
       rw[DataW.trod.eq_def];simp only[hu]
      rw[key] at hx;split at hx
      ·rename_i hlen;simp only[Option.map_eq_some_iff] at hx;obtain⟨xs,hxs,rfl⟩:=hx;obtain⟨b1,b2,b3⟩:=ZdC (fun t L h=>ZgG n t L h) fs.toList 0 L hl xs hxs;refine⟨?_,b2,fun w' base' spare' held'=> ?_⟩
       ·rw[List.drop_zero,← hc,← hlen,List.take_length] at b1;exact b1
       ·rw[key,if_pos hlen,b3];rfl
      ·cases hx
     ·cases h
    ·cases h
   ·rename_i m e hu;split at h
    ·rename_i l hl;split at h
     ·rename_i hc;cases h;simp only[Xh] at hc;have hs:=Xj hc.1;have hc:=Xj hc.2;have key:∀ (w:World) (base:Nat) (spare:Nat→Bool) (held:Bool),DataW.trod enc P w base spare held (fuel+1) t cs=if cs.length=P.cellsOf t then ((List.range m).mapM fun i=>DataW.trod enc P w base spare held fuel e ((cs.drop (i*P.cellsOf e)).take (P.cellsOf e))).map fun xs=>(.agg (xs.map (·.1)),xs.flatMap (·.2)) else none:=fun w base spare held=>by
       rw[DataW.trod.eq_def];simp only[hu]
      rw[key] at hx;split at hx
      ·rename_i hlen;simp only[Option.map_eq_some_iff] at hx;obtain⟨xs,hxs,rfl⟩:=hx;rw[List.range_eq_range'] at hxs;obtain⟨b1,b2,b3⟩:=Zeq (ZgG n e l hl) hs m 0 xs hxs;refine⟨?_,b2,fun w' base' spare' held'=> ?_⟩
       ·rw[Nat.zero_mul,List.drop_zero,← hc,← hlen,List.take_length] at b1;exact b1
       ·rw[key,if_pos hlen,List.range_eq_range',b3];rfl
      ·cases hx
     ·cases h
    ·cases h
   ·cases h
theorem ZfT {w:World}{base:Nat}{spare:Nat→Bool}{held:Bool}{t:TypeId}{v:Value}{d:DataW H}{p:List MemPlace}{L:List (Option IntKind)}(hL:z9 P 6 t=some L) (h:DataW.Trod enc P w base spare held t v d p):
  okC L v.cells.toList∧p=[]∧∀ w' base' spare' held',DataW.Trod enc P w' base' spare' held' t v d []:=by
 obtain⟨fuel,hf⟩:=h;obtain⟨h1,h2,h3⟩:=ZgG 6 t L hL _ _ _ _ _ _ _ hf;simp only at h2;subst h2;exact⟨h1,rfl,fun w' base' spare' held'=>⟨fuel,h3 w' base' spare' held'⟩⟩
theorem Zer {r:Go.Reach}{w:World}{b0:Nat}{t:TypeId}{v:Value}{fs:Array Field}(hu:P.underlying t=some (.struct fs)) (hv:Value.okWide P w r b0 t v):∃ cs:Array Value,v= .agg cs:=by
 obtain⟨cs,h,_⟩:=okWide_struct hu hv;exact⟨cs,h⟩
end
end Go.KRun
