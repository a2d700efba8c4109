/-
  PrA, QuA, QuB, QuC, RunW, Hcs, ConN1, RunY, ConV1, ConV2, ConV3, ConV4
-/
import Derived.Test.YtekebccjflilnaaGreatG08
import Derived.OneCell
namespace Go.Proofs.YtekebccjflilnaaGreat
open Go.Proofs.Tryz
open Go.IntKind
open Go.KRun Go.Wd Go.Pt Go.Rn
set_option maxRecDepth 100000
def ZeP:Con:=alt 63 (g2 (Zdo ZnS)) (alt 47 gSA Zc0)
theorem Za1:ConOk ZeP:=Zy func63 rfl (Zbk ZkV) (Zy func47 rfl ZwC zE)
def zh (a b:Int):Bool:=decide ((cl a=0∧cl b=3)∨(cl a=3∧cl b=0))
theorem Z0i (a b:Int):Zw (Ze (Zi prog Zh ZeP true) 300 22 [.int .u64 a,.int .u64 b] [cmp true,cmp true]) (.bool true) [(cl b==3,true),lU b,(cl a==0,true),lU a]:=by and_intros<;>kernel_rfl
theorem ZwF (a b:Int):Zw (Ze (Zi prog Zh ZeP true) 300 22 [.int .u64 a,.int .u64 b] [cmp true,cmp false,cmp false]) (.bool false) [(cl a==3,false),lU a,(cl b==3,false),lU b,(cl a==0,true),lU a]:=by and_intros<;>kernel_rfl
theorem Z0j (a b:Int):Zw (Ze (Zi prog Zh ZeP true) 300 22 [.int .u64 a,.int .u64 b] [cmp false,cmp false]) (.bool false) [(cl a==3,false),lU a,(cl a==0,false),lU a]:=by and_intros<;>kernel_rfl
theorem ZwG (a b:Int):Zw (Ze (Zi prog Zh ZeP true) 300 22 [.int .u64 a,.int .u64 b] [cmp false,cmp true,cmp true]) (.bool true) [(cl b==0,true),lU b,(cl a==3,true),lU a,(cl a==0,false),lU a]:=by and_intros<;>kernel_rfl
theorem ZwH (a b:Int):Zw (Ze (Zi prog Zh ZeP true) 300 22 [.int .u64 a,.int .u64 b] [cmp false,cmp true,cmp false]) (.bool false) [(cl b==0,false),lU b,(cl a==3,true),lU a,(cl a==0,false),lU a]:=by and_intros<;>kernel_rfl
theorem Zoc (a b:Int) (ha:U a) (hb:U b) (w:World):Calls prog 22 #[.int .u64 a,.int .u64 b] w fun r w'=>r= .returned (.bool (zh a b))∧zg w w':=by
 have hv:([.int .u64 a,.int .u64 b].all (lt 0))=true:=rfl;have ka:decide (U a)=true:=Xa ha;have kb:decide (U b)=true:=Xa hb;by_cases h0:cl a=0
 ·by_cases h3:cl b=3
  ·rw[show zh a b=true from Xa (.inl ⟨h0,h3⟩)];exact Zb (Zf Za1) (Z0i a b) (Za (Z1 h3) (Za kb (Za (Z1 h0) (Zz ka)))) hv (by rfl) w
  ·rw[show zh a b=false from Xb (by omega)];exact Zb (Zf Za1) (ZwF a b) (Za (Zq (by omega)) (Za ka (Za (Zq h3) (Za kb (Za (Z1 h0) (Zz ka)))))) hv (by rfl) w
 ·by_cases h3:cl a=3
  ·by_cases hz:cl b=0
   ·rw[show zh a b=true from Xa (.inr ⟨h3,hz⟩)];exact Zb (Zf Za1) (ZwG a b) (Za (Z1 hz) (Za kb (Za (Z1 h3) (Za ka (Za (Zq h0) (Zz ka)))))) hv (by rfl) w
   ·rw[show zh a b=false from Xb (by omega)];exact Zb (Zf Za1) (ZwH a b) (Za (Zq hz) (Za kb (Za (Z1 h3) (Za ka (Za (Zq h0) (Zz ka)))))) hv (by rfl) w
  ·rw[show zh a b=false from Xb (by omega)];exact Zb (Zf Za1) (Z0j a b) (Za (Zq h3) (Za ka (Za (Zq h0) (Zz ka)))) hv (by rfl) w
theorem Zle {a b:Int}(ha:U a) (hb:U b):U (Zf1 a b)∧Zf0 (Zf1 a b) 9223372036854775808=if prN a b=true then 9223372036854775808 else 0:=by
 obtain⟨A,rfl⟩:=Int.eq_ofNat_of_zero_le ha.1;obtain⟨B,rfl⟩:=Int.eq_ofNat_of_zero_le hb.1;have h1:A<2^64:=by have:=ha.2;omega
 have h2:B<2^64:=by have:=hb.2;omega
 have hx:A ^^^ B<2^64:=Nat.xor_lt_two_pow h1 h2;have e:Zf1 (A:Int) (B:Int)=((A ^^^ B:Nat):Int):=by
  unfold Zf1;rw[Zkj,BitVec.toNat_xor,ofU (by omega),ofU (by omega)]
 have hU:U (Zf1 (A:Int) (B:Int)):=by rw[e];exact⟨by omega,by omega⟩
 refine⟨hU,?_⟩;rw[Zf3 hU,e];have hd:(A ^^^ B)/2^63=A/2^63 ^^^ B/2^63:=Nat.xor_div_two_pow;have a1:A/2^63<2:=by omega
 have b1:B/2^63<2:=by omega
 have hA:sgn (A:Int)=decide (A/2^63=1):=by
  unfold sgn;by_cases h:A/2^63=1
  ·rw[Xa h];exact Xa (by omega)
  ·rw[Xb h];exact Xb (by omega)
 have hB:sgn (B:Int)=decide (B/2^63=1):=by
  unfold sgn;by_cases h:B/2^63=1
  ·rw[Xa h];exact Xa (by omega)
  ·rw[Xb h];exact Xb (by omega)
 have e2:((A ^^^ B:Nat):Int)/9223372036854775808=((A/2^63 ^^^ B/2^63:Nat):Int):=by rw[← hd];omega
 rw[e2];unfold prN;rw[hA,hB];generalize A/2^63=x at*;generalize B/2^63=y at*;have hx:x=0∨x=1:=by omega
 have hy:y=0∨y=1:=by omega
 rcases hx with rfl | rfl<;>rcases hy with rfl | rfl<;>decide
def inf:Int:=9218868437227405312
theorem Zs6 (a b:Int):Zw (Ze (Zi prog Zh ZeP true) 300 26 [.int .u64 a,.int .u64 b] []) (.int .u64 (bOr (Zm7 9218868437227405312 9223372036854775808) (Zf0 (Zf1 a b) 9223372036854775808))) []:=by and_intros<;>kernel_rfl
theorem ZwI {a b:Int}(ha:U a) (hb:U b):bOr (Zm7 9218868437227405312 9223372036854775808) (Zf0 (Zf1 a b) 9223372036854775808)=sS (prN a b) inf:=by
 rw[(Zle ha hb).2];cases prN a b<;>decide
theorem Zod (a b:Int) (ha:U a) (hb:U b) (w:World):Calls prog 26 #[.int .u64 a,.int .u64 b] w fun r w'=>r= .returned (.int .u64 (sS (prN a b) inf))∧zg w w':=by
 have:=Zb (Zf Za1) (Zs6 a b) (fun x hx=>by cases hx) (by rfl) (by rfl) w;rw[ZwI ha hb] at this;exact this
theorem Zs7 (a b:Int):Zw (Ze (Zi prog Zh ZeP true) 300 28 [.int .u64 a,.int .u64 b] [cmp true,cmp true]) (vN (prN a b) (i64.wrap (xp a+xp b)) (W4.of ((wSg a).val*(wSg b).val)) false) [(decide ((wSg a).ok∧(wSg b).ok),true),lU b,(decide (cl b≤2),true),lU b,lU a,(decide (cl a≤2),true),lU a]:=by and_intros<;>kernel_rfl
def vPx (a b:Int):Value:=vN (prN a b) (prE a b) (ofN (prV a b)) false
def ZwJ (a b:Int):Bool:=decide (cl a≤2∧cl b≤2)
theorem Zoe (a b:Int) (ha:U a) (hb:U b) (h:ZwJ a b=true) (w:World):Calls prog 28 #[.int .u64 a,.int .u64 b] w fun r w'=>r= .returned (vPx a b)∧zg w w':=by
 obtain⟨ca,cb⟩:=Xc h;have ka:decide (U a)=true:=Xa ha;have kb:decide (U b)=true:=Xa hb;have hE:=ZbB a b;have e1:i64.wrap (xp a+xp b)=prE a b:=ZY ⟨by unfold prE at hE;omega,by unfold prE at hE;omega⟩;have e2:W4.of ((wSg a).val*(wSg b).val)=ofN (prV a b):=by
  unfold ofN prV;rw[W4.nat_val (ZaC a),W4.nat_val (ZaC b),ZaT,ZaT,Int.natCast_mul]
 have:=Zb (Zf Za1) (Zs7 a b) (Za (Xa ⟨ZaC a,ZaC b⟩) (Za kb (Za (Xa cb) (Za kb (Za ka (Za (Xa ca) (Zz ka))))))) (by rfl) (by rfl) w;rw[e1,e2] at this;exact this
def Zaq:Con:=alt 22 (ZyS zh) (alt 26 (gUU (fun a b=> .int .u64 (sS (prN a b) inf)) (fun _ _=>true)) (alt 28 (gUU vPx ZwJ) ZeP))
theorem Zh3:ConOk Zaq:=Zy func22 rfl (Zk4 Zoc) (Zy func26 rfl (Zk5 fun a b ha hb _ w=>Zod a b ha hb w) (Zy func28 rfl (Zk5 Zoe) Za1))
end Go.Proofs.YtekebccjflilnaaGreat
namespace Go.Proofs.YtekebccjflilnaaGreat
open Go.Proofs.Tryz
open Go.KRun Go.Wd Go.Pt Go.Rn
set_option maxRecDepth 100000
def Zs8:Con:=alt 72 (g1n (Za3 Zgd)) (alt 71 gQR ZnJ)
theorem Zh4:ConOk Zs8:=Zy func72 rfl (zN Zbm) (Zy func71 rfl Zwo ZeJ)
end Go.Proofs.YtekebccjflilnaaGreat
namespace Go.Proofs.YtekebccjflilnaaGreat
open Go.Proofs.Tryz
open Go.IntKind
open Go.KRun Go.Wd Go.Pt Go.Rn
set_option maxRecDepth 100000
def q1 (a b:Int):Bool×Bool:=(decide ((Zac (wSg a) 128).ok∧(wSg b).ok∧(wSg b).val≠0),true)
def q2 (a:Int):Bool×Bool:=(decide ((wSg a).ok∧ -9223372036854775808≤(128:Int)∧(128:Int)≤9223372036854775807),true)
theorem Z2K (a b:Int):Zw (Ze (Zi prog Zh Zs8 true) 300 40 [.int .u64 a,.int .u64 b] [cmp true,cmp true,sam true]) (vN (prN a b) (i64.wrap (i64.wrap (xp a-xp b)-128)) (W4.of ((Zac (wSg a) 128).val/(wSg b).val)) true) [(nzW (W4.of ((Zac (wSg a) 128).val % (wSg b).val)),true),q1 a b,q2 a,q1 a b,q1 a b,q2 a,q1 a b,q2 a,q1 a b,q1 a b,q2 a,q1 a b,q1 a b,q1 a b,q1 a b,q1 a b,q2 a,lU b,(decide (cl b≤2),true),lU b,lU a,(decide (cl a≤2),true),lU a]:=by and_intros<;>kernel_rfl
theorem Z2L (a b:Int):Zw (Ze (Zi prog Zh Zs8 true) 300 40 [.int .u64 a,.int .u64 b] [cmp true,cmp true,sam false]) (vN (prN a b) (i64.wrap (i64.wrap (xp a-xp b)-128)) (W4.of ((Zac (wSg a) 128).val/(wSg b).val)) false) [(nzW (W4.of ((Zac (wSg a) 128).val % (wSg b).val)),false),q1 a b,q2 a,q1 a b,q1 a b,q2 a,q1 a b,q2 a,q1 a b,q1 a b,q2 a,q1 a b,q1 a b,q1 a b,q1 a b,q1 a b,q2 a,lU b,(decide (cl b≤2),true),lU b,lU a,(decide (cl a≤2),true),lU a]:=by and_intros<;>kernel_rfl
def dvQ (a b:Int):Nat:=(sg a).toNat*2^128/(sg b).toNat
def dvM (a b:Int):Bool:=decide ((sg a).toNat*2^128 % (sg b).toNat≠0)
def vQo (a b:Int):Value:=vN (prN a b) (xp a-xp b-128) (ofN (dvQ a b)) (dvM a b)
def ZyW (a b:Int):Bool:=decide (cl a≤2∧cl b≤2∧cl b≠0)
theorem Zof (a b:Int) (ha:U a) (hb:U b) (h:ZyW a b=true) (w:World):Calls prog 40 #[.int .u64 a,.int .u64 b] w fun r w'=>r= .returned (vQo a b)∧zg w w':=by
 obtain⟨ha2,hb2,hb0⟩:=Xc h;have ka:decide (U a)=true:=Xa ha;have kb:decide (U b)=true:=Xa hb;have ca:decide (cl a≤2)=true:=Xa ha2;have cb:decide (cl b≤2)=true:=Xa hb2;have nz:sg b≠0:=fun h0=>hb0 ((ZeO hb2).1 h0);have sb:=ZbK b;obtain⟨o1,v1⟩:=ZwE a (u:=128) (by omega) (by omega);have v1:(Zac (wSg a) 128).val=(((sg a).toNat*2^128:Nat):Int):=v1;have o1:(Zac (wSg a) 128).ok:=o1;have bd:=W4.val_bd o1;have k1:(q1 a b).1=(q1 a b).2:=Xa ⟨o1,ZaC b,by rw[ZeN];exact nz⟩;have k2:(q2 a).1=(q2 a).2:=Xa ⟨ZaC a,by omega,by omega⟩;have xa:=ZbJ a;have xb:=ZbJ b;have e1:i64.wrap (i64.wrap (xp a-xp b)-128)=xp a-xp b-128:=by
  rw[ZY (n:=xp a-xp b) ⟨by omega,by omega⟩,ZY ⟨by omega,by omega⟩]
 have eb:(wSg b).val=(((sg b).toNat:Nat):Int):=by rw[ZeN];omega
 have e2:W4.of ((Zac (wSg a) 128).val/(wSg b).val)=ofN (dvQ a b):=by
  rw[v1,eb,← Int.natCast_ediv];rfl
 have er:(Zac (wSg a) 128).val % (wSg b).val=(((sg a).toNat*2^128 % (sg b).toNat:Nat):Int):=by
  rw[v1,eb,← Int.natCast_emod]
 have hM:nzW (W4.of ((Zac (wSg a) 128).val % (wSg b).val))=dvM a b:=by
  have hl:=Nat.mod_lt ((sg a).toNat*2^128) (show 0<(sg b).toNat by omega);rw[er,ZwD (by omega) (by omega)];unfold dvM;exact decide_eq_decide.2 (by omega)
 unfold vQo;cases hd:dvM a b with
 | true=>
  have:=Zb (Zf Zh4) (Z2K a b) (Za (hM.trans hd) (Za k1 (Za k2 (Za k1 (Za k1 (Za k2 (Za k1 (Za k2 (Za k1 (Za k1 (Za k2 (Za k1 (Za k1 (Za k1 (Za k1 (Za k1 (Za k2 (Za kb (Za cb (Za kb (Za ka (Za ca (Zz ka))))))))))))))))))))))) (by rfl) (by rfl) w;rw[e1,e2] at this;exact this
 | false=>
  have:=Zb (Zf Zh4) (Z2L a b) (Za (hM.trans hd) (Za k1 (Za k2 (Za k1 (Za k1 (Za k2 (Za k1 (Za k2 (Za k1 (Za k1 (Za k2 (Za k1 (Za k1 (Za k1 (Za k1 (Za k1 (Za k2 (Za kb (Za cb (Za kb (Za ka (Za ca (Zz ka))))))))))))))))))))))) (by rfl) (by rfl) w;rw[e1,e2] at this;exact this
def Zcc:Con:=alt 40 (gUU vQo ZyW) ZnJ
theorem Zog:ConOk Zcc:=Zy func40 rfl (Zk5 Zof) ZeJ
theorem Zh5 (m a b:Int):rdV m (prN a b) (tw (ofN (dvQ a b)) (dvM a b)) (clp (xp a-xp b-128)-1)=rdT (sS (prN a b) (dvP m a b)) (dvF m a b):=by
 have sb:=ZbK b;have sa:=ZbK a;obtain⟨c1,c2⟩:=Zd2 m (prN a b) (ZZ (dvQ a b)) (dvM a b) (xp a-xp b-128);have hq:dvQ a b<2^256:=by
  unfold dvQ;refine Nat.lt_of_le_of_lt (Nat.div_le_self _ _) ?_;have:=Nat.mul_le_mul_right (2^128) (show (sg a).toNat≤9007199254740991 by omega);exact Nat.lt_of_le_of_lt this (by decide)
 have e:=Zsb hq (dvM a b);have e2:2*dvQ a b+bN (dvM a b)=dvT a b:=by
  unfold dvT dvK dvQ dvM;by_cases h0:(sg a).toNat*2^128 % (sg b).toNat=0
  ·rw[if_pos h0,Xb (by omega)];rfl
  ·rw[if_neg h0,Xa h0];rfl
 have e3:xp a-xp b-128-1=dvE a b:=by unfold dvE;omega
 rw[e3] at c1 c2;unfold rdV dvP dvF;rw[c1,c2,e,e2]
theorem Z0k (a b m:Int):Zw (Ze (Zi prog Zh Zcc true) 300 17 [.int .u64 a,.int .u64 b,.int .i64 m] [cmp true,cmp true,cmp true]) (rdT 9221120237041090560 1) [(cl a==5,true),lU a,(decide ((0:Int)<((2:Nat):Int)),true),(decide (cl a>3),true),lU a]:=by and_intros<;>kernel_rfl
theorem Z0l (a b m:Int):Zw (Ze (Zi prog Zh Zcc true) 300 17 [.int .u64 a,.int .u64 b,.int .i64 m] [cmp true,cmp true,cmp false,cmp true,cmp true]) (rdT 9221120237041090560 1) [(cl b==5,true),lU b,(decide (i64.wrap (0+1)<((2:Nat):Int)),true),(cl a==5,false),lU a,(decide ((0:Int)<((2:Nat):Int)),true),(decide (cl a>3),true),lU a]:=by and_intros<;>kernel_rfl
theorem Z0m (a b m:Int):Zw (Ze (Zi prog Zh Zcc true) 300 17 [.int .u64 a,.int .u64 b,.int .i64 m] [cmp true,cmp true,cmp false,cmp true,cmp false,cmp false]) (rdT 9221120237041090560 0) [(decide (i64.wrap (i64.wrap (0+1)+1)<((2:Nat):Int)),false),(cl b==5,false),lU b,(decide (i64.wrap (0+1)<((2:Nat):Int)),true),(cl a==5,false),lU a,(decide ((0:Int)<((2:Nat):Int)),true),(decide (cl a>3),true),lU a]:=by and_intros<;>kernel_rfl
theorem Z0n (a b m:Int):Zw (Ze (Zi prog Zh Zcc true) 300 17 [.int .u64 a,.int .u64 b,.int .i64 m] [cmp false,cmp true,cmp true,cmp false,cmp true,cmp true]) (rdT 9221120237041090560 1) [(cl b==5,true),lU b,(decide (i64.wrap (0+1)<((2:Nat):Int)),true),(cl a==5,false),lU a,(decide ((0:Int)<((2:Nat):Int)),true),(decide (cl b>3),true),lU b,(decide (cl a>3),false),lU a]:=by and_intros<;>kernel_rfl
theorem Z0o (a b m:Int):Zw (Ze (Zi prog Zh Zcc true) 300 17 [.int .u64 a,.int .u64 b,.int .i64 m] [cmp false,cmp true,cmp true,cmp false,cmp true,cmp false,cmp false]) (rdT 9221120237041090560 0) [(decide (i64.wrap (i64.wrap (0+1)+1)<((2:Nat):Int)),false),(cl b==5,false),lU b,(decide (i64.wrap (0+1)<((2:Nat):Int)),true),(cl a==5,false),lU a,(decide ((0:Int)<((2:Nat):Int)),true),(decide (cl b>3),true),lU b,(decide (cl a>3),false),lU a]:=by and_intros<;>kernel_rfl
theorem Z0p (a b m:Int):Zw (Ze (Zi prog Zh Zcc true) 300 17 [.int .u64 a,.int .u64 b,.int .i64 m] [cmp false,cmp false,cmp true,cmp true]) (rdT 9221120237041090560 1) [(cl b==0,true),lU b,(cl a==0,true),lU a,(decide (cl b>3),false),lU b,(decide (cl a>3),false),lU a]:=by and_intros<;>kernel_rfl
theorem Z0q (a b m:Int):Zw (Ze (Zi prog Zh Zcc true) 300 17 [.int .u64 a,.int .u64 b,.int .i64 m] [cmp false,cmp false,cmp false,cmp true,cmp true]) (rdT 9221120237041090560 1) [(cl b==3,true),lU b,(cl a==3,true),lU a,(cl a==0,false),lU a,(decide (cl b>3),false),lU b,(decide (cl a>3),false),lU a]:=by and_intros<;>kernel_rfl
theorem Z0r (a b m:Int):Zw (Ze (Zi prog Zh Zcc true) 300 17 [.int .u64 a,.int .u64 b,.int .i64 m] [cmp false,cmp false,cmp false,cmp true,cmp false,cmp true]) (rdT (bOr (Zm7 9218868437227405312 9223372036854775808) (Zf0 (Zf1 a b) 9223372036854775808)) 0) [(cl a==3,true),lU a,(cl b==3,false),lU b,(cl a==3,true),lU a,(cl a==0,false),lU a,(decide (cl b>3),false),lU b,(decide (cl a>3),false),lU a]:=by and_intros<;>kernel_rfl
theorem Z0s (a b m:Int):Zw (Ze (Zi prog Zh Zcc true) 300 17 [.int .u64 a,.int .u64 b,.int .i64 m] [cmp false,cmp false,cmp false,cmp false,cmp false,cmp true]) (rdT (bOr (Zm7 0 9223372036854775808) (Zf0 (Zf1 a b) 9223372036854775808)) 0) [(cl b==3,true),lU b,(cl a==3,false),lU a,(cl a==3,false),lU a,(cl a==0,false),lU a,(decide (cl b>3),false),lU b,(decide (cl a>3),false),lU a]:=by and_intros<;>kernel_rfl
theorem Z0t (a b m:Int):Zw (Ze (Zi prog Zh Zcc true) 300 17 [.int .u64 a,.int .u64 b,.int .i64 m] [cmp false,cmp false,cmp true,cmp false,cmp false,cmp false,cmp true]) (rdT (bOr (Zm7 0 9223372036854775808) (Zf0 (Zf1 a b) 9223372036854775808)) 0) [(cl b==3,true),lU b,(cl a==3,false),lU a,(cl a==3,false),lU a,(cl b==0,false),lU b,(cl a==0,true),lU a,(decide (cl b>3),false),lU b,(decide (cl a>3),false),lU a]:=by and_intros<;>kernel_rfl
theorem Z0u (a b m:Int):Zw (Ze (Zi prog Zh Zcc true) 300 17 [.int .u64 a,.int .u64 b,.int .i64 m] [cmp false,cmp false,cmp false,cmp false,cmp false,cmp false,cmp true]) (rdT (bOr (Zm7 9218868437227405312 9223372036854775808) (Zf0 (Zf1 a b) 9223372036854775808)) 2) [(cl b==0,true),lU b,(cl b==3,false),lU b,(cl a==3,false),lU a,(cl a==3,false),lU a,(cl a==0,false),lU a,(decide (cl b>3),false),lU b,(decide (cl a>3),false),lU a]:=by and_intros<;>kernel_rfl
theorem Z2M (a b m:Int):Zw (Ze (Zi prog Zh Zcc true) 300 17 [.int .u64 a,.int .u64 b,.int .i64 m] [cmp false,cmp false,cmp false,cmp false,cmp false,cmp false,cmp false]) (rdV m (prN a b) (tw (ofN (dvQ a b)) (dvM a b)) (clp (xp a-xp b-128)-1)) [(decide (ofN (dvQ a b)).ok,true),(ZyW a b,true),(decide (U a∧U b),true),(cl b==0,false),lU b,(cl b==3,false),lU b,(cl a==3,false),lU a,(cl a==3,false),lU a,(cl a==0,false),lU a,(decide (cl b>3),false),lU b,(decide (cl a>3),false),lU a]:=by and_intros<;>kernel_rfl
theorem Z0v (a b m:Int):Zw (Ze (Zi prog Zh Zcc true) 300 17 [.int .u64 a,.int .u64 b,.int .i64 m] [cmp false,cmp false,cmp true,cmp false,cmp false,cmp false,cmp false,cmp false]) (rdV m (prN a b) (tw (ofN (dvQ a b)) (dvM a b)) (clp (xp a-xp b-128)-1)) [(decide (ofN (dvQ a b)).ok,true),(ZyW a b,true),(decide (U a∧U b),true),(cl b==0,false),lU b,(cl b==3,false),lU b,(cl a==3,false),lU a,(cl a==3,false),lU a,(cl b==0,false),lU b,(cl a==0,true),lU a,(decide (cl b>3),false),lU b,(decide (cl a>3),false),lU a]:=by and_intros<;>kernel_rfl
def quP (m a b:Int):Int:=if 3<cl a∨3<cl b then 9221120237041090560 else if (cl a=0∧cl b=0)∨(cl a=3∧cl b=3) then 9221120237041090560 else if cl a=3 then sS (prN a b) inf else if cl b=3 then sS (prN a b) 0 else if cl b=0 then sS (prN a b) inf else sS (prN a b) (dvP m a b)
def quF (m a b:Int):Int:=if 3<cl a∨3<cl b then (if cl a=5∨cl b=5 then 1 else 0) else if (cl a=0∧cl b=0)∨(cl a=3∧cl b=3) then 1 else if cl a=3 then 0 else if cl b=3 then 0 else if cl b=0 then 2 else dvF m a b
theorem ZwK {a b:Int}(ha:U a) (hb:U b):bOr (Zm7 0 9223372036854775808) (Zf0 (Zf1 a b) 9223372036854775808)=sS (prN a b) 0:=by
 rw[(Zle ha hb).2];cases prN a b<;>decide
theorem Zi0 (a b m:Int) (ha:U a) (hb:U b) (w:World):Calls prog 17 #[.int .u64 a,.int .u64 b,.int .i64 m] w fun r w'=>r= .returned (rdT (quP m a b) (quF m a b))∧zg w w':=by
 have hv:([.int .u64 a,.int .u64 b,.int .i64 m].all (lt 0))=true:=rfl;have T:=Zf Zog;have ka:decide (U a)=true:=Xa ha;have kb:decide (U b)=true:=Xa hb;have kab:decide (U a∧U b)=true:=Xa ⟨ha,hb⟩;have ba:=Zdx a;have bb:=Zdx b;have en:=ZwI ha hb;have en0:=ZwK ha hb;unfold quP quF;by_cases ha3:3<cl a
 ·rw[if_pos (.inl ha3),if_pos (.inl ha3)];by_cases a5:cl a=5
  ·rw[if_pos (.inl a5)];exact Zb T (Z0k a b m) (Za (Z1 (by omega)) (Za ka (Za (by decide) (Za (Xa (by omega)) (Zz ka))))) hv (by rfl) w
  ·by_cases b5:cl b=5
   ·rw[if_pos (.inr b5)];exact Zb T (Z0l a b m) (Za (Z1 (by omega)) (Za kb (Za (by decide) (Za (Zq (by omega)) (Za ka (Za (by decide) (Za (Xa (by omega)) (Zz ka)))))))) hv (by rfl) w
   ·rw[if_neg (by omega)];exact Zb T (Z0m a b m) (Za (by decide) (Za (Zq (by omega)) (Za kb (Za (by decide) (Za (Zq (by omega)) (Za ka (Za (by decide) (Za (Xa (by omega)) (Zz ka))))))))) hv (by rfl) w
 ·by_cases hb3:3<cl b
  ·rw[if_pos (.inr hb3),if_pos (.inr hb3)];by_cases b5:cl b=5
   ·rw[if_pos (.inr b5)];exact Zb T (Z0n a b m) (Za (Z1 (by omega)) (Za kb (Za (by decide) (Za (Zq (by omega)) (Za ka (Za (by decide) (Za (Xa (by omega)) (Za kb (Za (Xb (by omega)) (Zz ka)))))))))) hv (by rfl) w
   ·rw[if_neg (by omega)];exact Zb T (Z0o a b m) (Za (by decide) (Za (Zq (by omega)) (Za kb (Za (by decide) (Za (Zq (by omega)) (Za ka (Za (by decide) (Za (Xa (by omega)) (Za kb (Za (Xb (by omega)) (Zz ka))))))))))) hv (by rfl) w
  ·have hno:¬ (3<cl a∨3<cl b):=by omega
   rw[if_neg hno,if_neg hno];by_cases az:cl a=0
   ·by_cases bz:cl b=0
    ·rw[if_pos (.inl ⟨az,bz⟩),if_pos (.inl ⟨az,bz⟩)];exact Zb T (Z0p a b m) (Za (Z1 (by omega)) (Za kb (Za (Z1 (by omega)) (Za ka (Za (Xb (by omega)) (Za kb (Za (Xb (by omega)) (Zz ka)))))))) hv (by rfl) w
    ·have hn2:¬ ((cl a=0∧cl b=0)∨(cl a=3∧cl b=3)):=by omega
     have a3:¬ cl a=3:=by omega
     rw[if_neg hn2,if_neg hn2,if_neg a3,if_neg a3];by_cases b3:cl b=3
     ·rw[if_pos b3,if_pos b3,← en0];exact Zb T (Z0t a b m) (Za (Z1 (by omega)) (Za kb (Za (Zq (by omega)) (Za ka (Za (Zq (by omega)) (Za ka (Za (Zq (by omega)) (Za kb (Za (Z1 (by omega)) (Za ka (Za (Xb (by omega)) (Za kb (Za (Xb (by omega)) (Zz ka)))))))))))))) hv (by rfl) w
     ·rw[if_neg b3,if_neg b3,if_neg bz,if_neg bz];have hf:=Z0v a b m;rw[Zh5] at hf;exact Zb T hf (Za (Xa (ZZ _)) (Za (Xa ⟨by omega,by omega,by omega⟩) (Za kab (Za (Zq (by omega)) (Za kb (Za (Zq (by omega)) (Za kb (Za (Zq (by omega)) (Za ka (Za (Zq (by omega)) (Za ka (Za (Zq (by omega)) (Za kb (Za (Z1 (by omega)) (Za ka (Za (Xb (by omega)) (Za kb (Za (Xb (by omega)) (Zz ka))))))))))))))))))) hv (by rfl) w
   ·by_cases a3:cl a=3
    ·by_cases b3:cl b=3
     ·rw[if_pos (.inr ⟨a3,b3⟩),if_pos (.inr ⟨a3,b3⟩)];exact Zb T (Z0q a b m) (Za (Z1 (by omega)) (Za kb (Za (Z1 (by omega)) (Za ka (Za (Zq (by omega)) (Za ka (Za (Xb (by omega)) (Za kb (Za (Xb (by omega)) (Zz ka)))))))))) hv (by rfl) w
     ·have hn2:¬ ((cl a=0∧cl b=0)∨(cl a=3∧cl b=3)):=by omega
      rw[if_neg hn2,if_neg hn2,if_pos a3,if_pos a3,← en];exact Zb T (Z0r a b m) (Za (Z1 (by omega)) (Za ka (Za (Zq (by omega)) (Za kb (Za (Z1 (by omega)) (Za ka (Za (Zq (by omega)) (Za ka (Za (Xb (by omega)) (Za kb (Za (Xb (by omega)) (Zz ka)))))))))))) hv (by rfl) w
    ·have hn2:¬ ((cl a=0∧cl b=0)∨(cl a=3∧cl b=3)):=by omega
     rw[if_neg hn2,if_neg hn2,if_neg a3,if_neg a3];by_cases b3:cl b=3
     ·rw[if_pos b3,if_pos b3,← en0];exact Zb T (Z0s a b m) (Za (Z1 (by omega)) (Za kb (Za (Zq (by omega)) (Za ka (Za (Zq (by omega)) (Za ka (Za (Zq (by omega)) (Za ka (Za (Xb (by omega)) (Za kb (Za (Xb (by omega)) (Zz ka)))))))))))) hv (by rfl) w
     ·rw[if_neg b3,if_neg b3];by_cases bz:cl b=0
      ·rw[if_pos bz,if_pos bz,← en];exact Zb T (Z0u a b m) (Za (Z1 (by omega)) (Za kb (Za (Zq (by omega)) (Za kb (Za (Zq (by omega)) (Za ka (Za (Zq (by omega)) (Za ka (Za (Zq (by omega)) (Za ka (Za (Xb (by omega)) (Za kb (Za (Xb (by omega)) (Zz ka)))))))))))))) hv (by rfl) w
      ·rw[if_neg bz,if_neg bz];have hf:=Z2M a b m;rw[Zh5] at hf;exact Zb T hf (Za (Xa (ZZ _)) (Za (Xa ⟨by omega,by omega,by omega⟩) (Za kab (Za (Zq (by omega)) (Za kb (Za (Zq (by omega)) (Za kb (Za (Zq (by omega)) (Za ka (Za (Zq (by omega)) (Za ka (Za (Zq (by omega)) (Za ka (Za (Xb (by omega)) (Za kb (Za (Xb (by omega)) (Zz ka))))))))))))))))) hv (by rfl) w
def gQD:Ans:=fun vals s=>
 match vals with
 | [.int .u64 a,.int .u64 b,.int .i64 m]=>some (rdT (quP m a b) (quF m a b),s,[(decide (U a∧U b),true)])
 | _=>none
theorem ZwL:ZJ 17 gQD:=by
 intro vals s v s' lg h hl w;unfold gQD at h;split at h
 ·cases h;obtain⟨h1,h2⟩:=Xc (hl _ Xf);exact Zi0 _ _ _ h1 h2 w
 ·cases h
end Go.Proofs.YtekebccjflilnaaGreat
namespace Go.KRun
open Go.RowKit
def oc1 (bs:List Nat):Value→Bool
 | .pointer (some a)=>bs.contains a.block
 | .slice (some a) _ _=>bs.contains a.block
 | .map (some b)=>bs.contains b
 | .iface t _=> !(Nat.beq t ZV)
 | _=>true
def oc2 (bs:List Nat):Value→Bool
 | .agg cs=>cs.toList.all (oc1 bs)
 | v=>oc1 bs v
def oc (bs:List Nat):Value→Bool
 | .tuple vs=>vs.toList.all (oc2 bs)
 | v=>oc2 bs v
theorem Zqn {m m':Mp}{bs:List Nat}(h:∀ b∈bs,m b=m' b) {v:Value}(hv:oc1 bs v=true):mv1 m v=mv1 m' v:=by
 unfold mv1;split
 ·simp only[oc1,List.contains_iff_mem] at hv;simp [mvA,h _ hv]
 ·simp only[oc1,List.contains_iff_mem] at hv;simp [mvA,h _ hv]
 ·simp only[oc1,List.contains_iff_mem] at hv;simp [h _ hv]
 ·rfl
 ·rfl
theorem Zqo {m m':Mp}{bs:List Nat}(h:∀ b∈bs,m b=m' b) {v:Value}(hv:oc2 bs v=true):mv2 m v=mv2 m' v:=by
 unfold mv2;split
 ·rename_i cs;simp only[oc2,List.all_eq_true] at hv;congr 1;exact Array.map_congr_left fun x hx=>Zqn h (hv x (by simpa using hx))
 ·rename_i hna;refine Zqn h ?_;unfold oc2 at hv;split at hv
  ·rename_i cs;exact absurd rfl (hna cs)
  ·exact hv
theorem Zoh {m m':Mp}{bs:List Nat}(h:∀ b∈bs,m b=m' b) {v:Value}(hv:oc bs v=true):mv m v=mv m' v:=by
 unfold mv;split
 ·rename_i vs;simp only[oc,List.all_eq_true] at hv;congr 1;exact Array.map_congr_left fun x hx=>Zqo h (hv x (by simpa using hx))
 ·rename_i hna;refine Zqo h ?_;unfold oc at hv;split at hv
  ·rename_i cs;exact absurd rfl (hna cs)
  ·exact hv
theorem Zh6 {bs:List Nat}{f:Nat→Nat}{n:Nat}(hf:∀ b∈bs,f b<n) {v:Value}(hv:oc bs v=true):lt n (rn f v)=true:=by
 have h1:∀ v,oc1 bs v=true→lt1 n (rn1 f v)=true:=fun v h=>by
  cases v with
  | pointer a=>
   cases a with
   | none=>rfl
   | some a=>simp only[oc1,List.contains_iff_mem] at h;exact Zk.2 (hf _ h)
  | map a=>
   cases a with
   | none=>rfl
   | some a=>simp only[oc1,List.contains_iff_mem] at h;exact Zk.2 (hf _ h)
  | slice a l c=>
   cases a with
   | none=>rfl
   | some a=>simp only[oc1,List.contains_iff_mem] at h;exact Zk.2 (hf _ h)
  | iface t u=>simp only[oc1,Bool.not_eq_true'] at h;simp [rn1,lt1,h]
  | _=>rfl
 have h2:∀ v,oc2 bs v=true→lt2 n (rn2 f v)=true:=fun v h=>by
  cases v with
  | agg cs=>
   simp only[oc2,lt2,rn2,Array.toList_map,List.all_eq_true,List.mem_map] at*;rintro _ ⟨y,hy,rfl⟩;exact h1 y (h y hy)
  | pointer a=>
   cases a with
   | none=>rfl
   | some a=>exact h1 (.pointer (some a)) h
  | map a=>
   cases a with
   | none=>rfl
   | some a=>exact h1 (.map (some a)) h
  | slice a l c=>
   cases a with
   | none=>rfl
   | some a=>exact h1 (.slice (some a) l c) h
  | iface t u=>exact h1 (.iface t u) h
  | _=>rfl
 cases v with
 | tuple cs=>
  simp only[oc,lt,rn,Array.toList_map,List.all_eq_true,List.mem_map] at*;rintro _ ⟨y,hy,rfl⟩;exact h2 y (hv y hy)
 | agg cs=>exact h2 (.agg cs) hv
 | pointer a=>
  cases a with
  | none=>rfl
  | some a=>exact h1 (.pointer (some a)) hv
 | map a=>
  cases a with
  | none=>rfl
  | some a=>exact h1 (.map (some a)) hv
 | slice a l c=>
  cases a with
  | none=>rfl
  | some a=>exact h1 (.slice (some a) l c) hv
 | iface t u=>exact h1 (.iface t u) hv
 | _=>rfl
def Hp.rows (h:Hp):Prop:=h.l.length=h.n∧∀ b x,h.blk? b=some x→ro x.2=true∧(∀ v∈x.1,still v=true)∧ab x.2=false
def Hp.fits (h0:Hp) (s:Nat→Nat) (h:Hp):Prop:=∀ i x,h0.blk? i=some x→Zam x.2=false→∃ y r,h.blk? (s i)=some y∧Zam y.2=false∧rt y.2=rt x.2∧y.1=x.1++r
theorem Emb.small {m:Mp}{B:Nat}{h h0:Hp}{w:World}{s:Nat→Nat}(E:Emb m B h w) (hr:h0.rows) (hf:h0.fits s h):Emb (fun i=>m (s i)) w.heap.size h0 w where
 len:=hr.1
 lies:=fun b x hb hx=>by
  obtain⟨y,r,h1,h2,h3,h4⟩:=hf b x hb hx;obtain⟨r',z,l0,l1,_⟩:=E.lies _ _ h1 h2;have calm:=(hr.2 b x hb).2.1;have e:x.1.map (mv1 m)=x.1.map (mv1 fun i=>m (s i)):=Zdb calm;rw[h4,List.map_append] at l0 l1;refine⟨r.map (mv1 m)++r',z,?_,?_,fun hro=> ?_⟩
  ·simp at l0 ⊢;omega
  ·rw[← e,l1,List.append_assoc]
  ·rw[(hr.2 b x hb).1] at hro;cases hro
 low:=fun b x hb hro=>by rw[(hr.2 b x hb).1] at hro;cases hro
 ros:=fun b x hb hx _=>by
  obtain⟨y,r,h1,h2,_,_⟩:=hf b x hb hx;exact E.here h1 h2
 inj:=fun b b' x x' hb _ hro=>by rw[(hr.2 b x hb).1] at hro;cases hro
 wf:=fun b x hb v hv=>ZcK (Nat.lt_of_le_of_lt (Nat.zero_le _) (Hp.blk_lt hb)) ((hr.2 b x hb).2.1 v hv)
 base:=Nat.le_refl _
 ice:=fun k h1 h2=>by omega
 abs:=fun b x hb hx=>by rw[(hr.2 b x hb).2.2] at hx;cases hx
theorem ZfH {T:Tab}{f:Nat}{F:Func}{c:Code}(hF:T.P.funcs[f]? =some F) (hc:F.body=some c) {h0:Hp}(hr:h0.rows) {vals:List Value}(hvals:∀ v∈vals,lt h0.n v=true) {v:Value}(hv:oc (List.range h0.n) v=true)
  (hrun:Runs T c (vals++List.replicate (F.ntmps-vals.length) undef,h0,[]) fun e y=>(e=none∨e=some none)∧Zau T.P F y.1 y.2.1=some v)
  {m:Mp}{B:Nat}{h:Hp}{w:World}(E:Emb m B h w) {s:Nat→Nat}(hs:∀ i,i<h0.n→s i<h.n) (hf:h0.fits s h):
  Calls T.P f ((vals.map (rn s)).map (mv m)).toArray w fun e w'=>e= .returned (mv m (rn s v))∧Came m B h w (rn s v) h m w':=by
 have E0:=E.small hr hf;have ev:(vals.map (rn s)).map (mv m)=vals.map (mv fun i=>m (s i)):=by
  rw[List.map_map];exact List.map_congr_left fun y _=>ZcD m s y
 rw[ev];refine calls_of_wp hF hc ?_;have R:Rel (fun i=>m (s i)) w.heap.size (vals++List.replicate (F.ntmps-vals.length) undef,h0,[]) {tmps:=(vals.map (mv fun i=>m (s i))).toArray++Array.replicate (F.ntmps-(vals.map (mv fun i=>m (s i))).toArray.size) undef,defers:=[]} w:=by
  refine⟨?_,rfl,E0,?_⟩
  ·simp [zO]
  ·intro y hy;rcases List.mem_append.1 hy with hy | hy
   ·exact hvals y hy
   ·rw[List.eq_of_mem_replicate hy];simp [undef,lt]
 refine hrun _ _ _ w R _ fun e y he a' w' hR=> ?_;obtain⟨hex,hres⟩:=he;obtain⟨m1,k1,k2,k3,_⟩:=hR;obtain⟨r1,r2⟩:=ZaO k2.emb k2.wf hres;rw[← k2.tmps] at r1;have e1:mv m1 v=mv m (rn s v):=by
  rw[ZcD];exact Zoh (fun b hb=>k1 b (by simpa using hb)) hv
 rw[e1] at r1;have td:zg w w':=⟨k3,fun k h1 h2=>k2.emb.ice k h1 h2⟩;obtain⟨E',hb⟩:=Zaf E td;have post:a'.defers=[]∧∃ v',(results F a'.tmps).run T.P w'= .ok v' w'∧(Ending.returned v'= .returned (mv m (rn s v))∧Came m B h w (rn s v) h m w'):=
  ⟨k2.dfr,_,r1,rfl,⟨Agree.refl _ _,E',hb,Nat.le_refl _,Zh6 (fun b hb=>hs b (by simpa using hb)) hv⟩⟩
 rcases hex with rfl | rfl<;>exact post
theorem zm {T:Tab}{f:Nat}{F:Func}{c:Code}(hF:T.P.funcs[f]? =some F) (hc:F.body=some c) {h0:Hp}(hr:h0.rows) {vals:List Value}(hvals:∀ v∈vals,lt h0.n v=true) {v:Value}{k:Nat}
  {cs:List Value}{ty:TypeId}(hcs:∀ u∈cs,lt1 0 u=true) (hty:ro ty=false)
  (hrun:RunsW T c (vals++List.replicate (F.ntmps-vals.length) undef,h0,[]) fun e y=>(e=none∨e=some none)∧Zau T.P F y.1 y.2.1=some v∧∃ r,y.2.1.blk? k=some (cs++r,ty))
  (hv0:oc [k] v=true)
  {m:Mp}{B:Nat}{h:Hp}{w:World}(E:Emb m B h w) {s:Nat→Nat}(hf:h0.fits s h):
  Calls T.P f ((vals.map (rn s)).map (mv m)).toArray w fun e w'=>∃ m',e= .returned (mv m' (rn (fun _=>h.n) v))∧Came m B h w (rn (fun _=>h.n) v) (h.push cs ty) m' w':=by
 have E0:=E.small hr hf;have ev:(vals.map (rn s)).map (mv m)=vals.map (mv fun i=>m (s i)):=by
  rw[List.map_map];exact List.map_congr_left fun y _=>ZcD m s y
 rw[ev];refine calls_of_wp hF hc ?_;have R:Rel (fun i=>m (s i)) w.heap.size (vals++List.replicate (F.ntmps-vals.length) undef,h0,[]) {tmps:=(vals.map (mv fun i=>m (s i))).toArray++Array.replicate (F.ntmps-(vals.map (mv fun i=>m (s i))).toArray.size) undef,defers:=[]} w:=by
  refine⟨?_,rfl,E0,?_⟩
  ·simp [zO]
  ·intro y hy;rcases List.mem_append.1 hy with hy | hy
   ·exact hvals y hy
   ·rw[List.eq_of_mem_replicate hy];simp [undef,lt]
 refine hrun _ _ _ w R _ fun e y he m1 a' w' k2 k3=> ?_;obtain⟨hex,hres,r,hblk⟩:=he;obtain⟨r1,r2⟩:=ZaO k2.emb k2.wf hres;rw[← k2.tmps] at r1;have td:zg w w':=⟨k3,fun k h1 h2=>k2.emb.ice k h1 h2⟩;obtain⟨E',hb⟩:=Zaf E td;have hlow:w.heap.size≤(m1 k).1:=k2.emb.low k _ hblk hty;have hlie:lie w' (m1 k) (cs.map (mv1 m)) ty:=by
  obtain⟨r',z,l0,l1,l2⟩:=k2.emb.lies k _ hblk (zo hty);have e:cs.map (mv1 m1)=cs.map (mv1 m):=Zbg hcs;simp only[List.map_append] at l0 l1;refine⟨r.map (mv1 m1)++r',z,?_,?_,l2⟩
  ·simp at l0 ⊢;omega
  ·rw[← e,l1,List.append_assoc]
 have Ea:=E'.adopt cs ty hty (fun u hu=>ZI (Nat.zero_le _) (hcs u hu)) hlie (Nat.le_trans E.base hlow) (fun b x hbx hx heq=>by
  have:=E.here hbx (zo hx);omega) (fun b x hbx hx hf=>by
  have:=E.at_ hbx hx hf;omega)
 have e1:mv m1 v=mv (upd m h.n (m1 k)) (rn (fun _=>h.n) v):=by
  rw[ZcD];refine Zoh (fun b hb=> ?_) hv0;rw[List.mem_singleton.1 hb];simp [upd]
 rw[e1] at r1;have post:a'.defers=[]∧∃ v',(results F a'.tmps).run T.P w'= .ok v' w'∧∃ m',Ending.returned v'= .returned (mv m' (rn (fun _=>h.n) v))∧Came m B h w (rn (fun _=>h.n) v) (h.push cs ty) m' w':=
  ⟨k2.dfr,_,r1,upd m h.n (m1 k),rfl,⟨Z7 _ _ _,Ea,hb,Nat.le_succ _,Zh6 (bs:=[k]) (fun b hb=>by show h.n<h.n+1;omega) hv0⟩⟩
 rcases hex with rfl | rfl<;>exact post
end Go.KRun
namespace Go.Proofs.YtekebccjflilnaaGreat
open Go.Proofs.Tryz
open Go.IntKind
open Go.KRun
set_option maxRecDepth 100000
theorem Z2 {p:Bool×Bool}(h:p.1=p.2):Zx [p]:=fun x hx=>by rw[List.mem_singleton.1 hx];exact h
theorem Zt {p:Bool×Bool}{l:Log}(h:p.1=p.2) (hl:Zx l):Zx (p::l):=fun x hx=>by
 rcases List.mem_cons.1 hx with rfl | hx
 ·exact h
 ·exact hl x hx
theorem ZL {n:Int}(h0: -9223372036854775808≤n) (h1:n≤9223372036854775807):i64.wrap n=n:=by
 simp [IntKind.wrap,IntKind.bits,IntKind.signed];omega
abbrev Hc:=Nat→List Value→Hp→List Dec→Option (Value×Hp×List Dec×Log)
abbrev Zcl:=List Value→Hp→List Dec→Option (Value×Hp×List Dec×Log)
def za (f:Nat) (g:Zcl):Prop:=∀ vals h s v h' s' lg,g vals h s=some (v,h',s',lg)→Zx lg→∀ m B w,Emb m B h w→(∀ v∈vals,lt h.n v=true)→Calls prog f (vals.map (mv m)).toArray w fun e w'=>∃ m',e= .returned (mv m' v)∧Came m B h w v h' m' w'
structure HcOk (hc:Hc):Prop where
 fn:∀ f vals h s r,hc f vals h s=some r→∃ F,prog.funcs[f]? =some F∧F.body.isSome=true
 calls:∀ f,za f (hc f)
def hcN:Hc:=fun _ _ _ _=>none
theorem ZfI:HcOk hcN:=⟨fun _ _ _ _ _ h=>(by cases h),fun _ _ _ _ _ _ _ _ h=>(by cases h)⟩
def Zb5 (f:Nat) (g:Zcl) (hc:Hc):Hc:=fun f' vals h s=>if Nat.beq f' f=true then g vals h s else hc f' vals h s
theorem ZA {f:Nat}{F:Func}(hF:prog.funcs[f]? =some F) (hb:F.body.isSome=true) {g:Zcl}(hg:za f g) {hc:Hc}(h:HcOk hc):HcOk (Zb5 f g hc) where
 fn:=fun f' vals h' s r hr=>by
  unfold Zb5 at hr;split at hr
  ·rename_i e;rw[Xj e];exact⟨F,hF,hb⟩
  ·exact h.fn _ _ _ _ _ hr
 calls:=fun f' vals h' s v h'' s' lg hr=>by
  unfold Zb5 at hr;split at hr
  ·rename_i e;rw[Xj e];exact hg _ _ _ _ _ _ _ hr
  ·exact h.calls f' _ _ _ _ _ _ _ hr
def Zp (P:Program) (ext:Nat→List Value→Option (Value×Log)) (con:Con) (hc:Hc):Tab:={P:=P,fn:=fun f=>P.funcs[f]?,ext:=ext,con:=con,sym:=true,hc:=hc}
theorem Zg {con:Con}(h:ConOk con) {hc:Hc}(hh:HcOk hc):TabOk (Zp prog Zh con hc) where
 mixed:=mixed
 ext:=ZjR
 con:=fun f vals s v s' lg hc hl=>⟨by obtain⟨F,h1,h2⟩:=h.fn f vals s v s' lg hc;exact⟨F,(ZcA f F h1).1,(ZcA f F h1).2,h2⟩,h.calls f vals s v s' lg hc hl⟩
 fn:=ZcA
 hc:=fun f vals h0 s v h' s' lg hr hl=>⟨by obtain⟨F,h1,h2⟩:=hh.fn f vals h0 s _ hr;exact⟨F,(ZcA f F h1).1,(ZcA f F h1).2,h2⟩,hh.calls f vals h0 s v h' s' lg hr hl⟩
end Go.Proofs.YtekebccjflilnaaGreat
namespace Go.Proofs.YtekebccjflilnaaGreat
open Go.IntKind
open Go.KRun Go.Nt
set_option maxRecDepth 100000
def wU (L:List Int):List Value:=L.map (Value.int .u32)
def tU:TypeId:=104
def tR:TypeId:=104+ZV
theorem Zoi:ro tR=true:=by kernel_rfl
theorem Zoj:ab tR=false:=by kernel_rfl
theorem ZeQ:Zam tR=false:=by kernel_rfl
theorem Zok:rt tR=tU:=by kernel_rfl
def sl (b o n c:Nat):Value:= .slice (some ⟨b,o,none⟩) n c
def Zn:Value:= .slice none 0 0
def n1 (n:Nat):Int:=i64.wrap ((n:Int)-1)
def Zol:Value→Int
 | .int _ n=>n
 | _=>0
def isU:Value→Bool
 | .int .u32 n=>decide (0≤n∧n<4294967296)
 | _=>false
theorem Zh7 {v:Value}(h:isU v=true):v= .int .u32 (Zol v)∧0≤Zol v∧Zol v<4294967296:=by
 unfold isU at h;split at h
 ·simp only[Xi] at h;exact⟨rfl,h.1,h.2⟩
 ·cases h
def Zlf (l:List Value) (o n:Nat):List Value:=(l.drop o).take n
def zu (l:List Value) (o n:Nat):List Int:=(Zlf l o n).map Zol
theorem Zi1 {l:List Value}{o n:Nat}(h:((Zlf l o n).all isU)=true):Zlf l o n=wU (zu l o n):=by
 unfold wU zu;rw[List.map_map];refine (List.map_id' _).symm.trans (List.map_congr_left fun v hv=> ?_);exact (Zh7 (List.all_eq_true.1 h v hv)).1
structure Row (l:List Value) (o:Nat) (L:List Int):Prop where
 len:o+L.length≤l.length
 cut:Zlf l o L.length=wU L
 rng:∀ x∈L,0≤x∧x<4294967296
theorem Row.cell {l:List Value}{o:Nat}{L:List Int}(h:Row l o L) {k:Nat}(hk:k<L.length):l[o+k]? =some (.int .u32 (L.getD k 0)):=by
 have e:(Zlf l o L.length)[k]? =(wU L)[k]? :=by rw[h.cut]
 unfold Zlf wU at e;rw[List.getElem?_take,if_pos hk,List.getElem?_drop,List.getElem?_map] at e;rw[e,List.getElem?_eq_getElem hk];simp [List.getD,List.getElem?_eq_getElem hk]
theorem ZcH {l:List Value}(h:∀ v∈l,still v=true):(⟨1,[(l,tR)]⟩:Hp).rows:=by
 refine⟨rfl,fun b x hb=> ?_⟩;have hb0:b=0:=by have:b<1:=Hp.blk_lt hb;omega
 subst hb0;have:x=(l,tR):=(Option.some.inj hb).symm;rw[this];exact⟨Zoi,h,Zoj⟩
theorem Zbs {l:List Value}{h:Hp}{b:Nat}{x:List Value×TypeId}(hb:h.blk? b=some x) (h1:Zam x.2=false) (h2:rt x.2=tU) (e:x.1=l):(⟨1,[(l,tR)]⟩:Hp).fits (fun _=>b) h:=by
 intro i y hi _;have hb0:i=0:=by have:i<1:=Hp.blk_lt hi;omega
 subst hb0;have:y=(l,tR):=(Option.some.inj hi).symm;rw[this];exact⟨x,[],hb,h1,by rw[h2];exact Zok.symm,by rw[e,List.append_nil]⟩
def h2 (la lb:List Value):Hp:=⟨2,[(lb,tR),(la,tR)]⟩
def pair (a b i:Nat):Nat:=if Nat.beq i 0=true then a else b
theorem Z29 {la lb:List Value}{i:Nat}{x:List Value×TypeId}(h:(h2 la lb).blk? i=some x):(i=0∧x=(la,tR))∨(i=1∧x=(lb,tR)):=by
 have:i<2:=Hp.blk_lt h;have:i=0∨i=1:=by omega
 rcases this with rfl | rfl
 ·exact .inl ⟨rfl,(Option.some.inj h).symm⟩
 ·exact .inr ⟨rfl,(Option.some.inj h).symm⟩
theorem Zom {la lb:List Value}(ha:∀ v∈la,still v=true) (hb:∀ v∈lb,still v=true):(h2 la lb).rows:=by
 refine⟨rfl,fun b x hx=> ?_⟩;rcases Z29 hx with ⟨_,e⟩ | ⟨_,e⟩<;>rw[e]
 ·exact⟨Zoi,ha,Zoj⟩
 ·exact⟨Zoi,hb,Zoj⟩
theorem Zlg {h:Hp}{a b:Nat}{x y:List Value×TypeId}(hx:h.blk? a=some x) (x1:Zam x.2=false) (x2:rt x.2=tU) (hy:h.blk? b=some y) (y1:Zam y.2=false) (y2:rt y.2=tU):(h2 x.1 y.1).fits (pair a b) h:=by
 intro i z hz _;rcases Z29 hz with ⟨rfl,e⟩ | ⟨rfl,e⟩<;>rw[e]
 ·exact⟨x,[],hx,x1,by rw[x2];exact Zok.symm,by rw[List.append_nil]⟩
 ·exact⟨y,[],hy,y1,by rw[y2];exact Zok.symm,by rw[List.append_nil]⟩
end Go.Proofs.YtekebccjflilnaaGreat
namespace Go.KRun
open Go.RowKit
theorem Zs9 {m:Mp}{B:Nat}{t t':List Value}{h h':Hp}{s:List Dec}{a:Act}{w:World}(R:Rel m B (t,h,s) a w) (f:Nat→Nat) (hl:h'.l.length=h'.n)
  (hb:∀ i x,h'.blk? i=some x→(∀ v∈x.1,still v=true)∧∃ y r,h.blk? (f i)=some y∧y.2=x.2∧y.1=x.1++r)
  (hi:∀ i j x y,h'.blk? i=some x→h'.blk? j=some y→ro x.2=false∨spK x.2=true→ro y.2=false∨spK y.2=true→f i=f j→i=j)
  (ht:t'.map (mv fun i=>m (f i))=t.map (mv m)) (hw:∀ v∈t',lt h'.n v=true):Rel (fun i=>m (f i)) B (t',h',s) a w:=by
 have E:=R.emb;refine⟨by rw[R.tmps];simp only;rw[ht],R.dfr,?_,hw⟩;refine⟨hl,?_,?_,?_,?_,?_,E.base,E.ice,?_⟩
 ·intro b x hx ht;obtain⟨q1,y,r,q2,q3,q4⟩:=hb b x hx;obtain⟨r0,z,e1,e2,e3⟩:=E.lies (f b) y q2 (by rw[q3];exact ht);rw[q4,List.map_append,Zdb (m':=fun i=>m (f i)) q1] at e1 e2;refine⟨r.map (mv1 m)++r0,z,by rw[← e1];simp;omega,by rw[e2,List.append_assoc],by rw[← q3];exact e3⟩
 ·intro b x hx hr;obtain⟨_,y,r,q2,q3,_⟩:=hb b x hx;exact E.low (f b) y q2 (by rw[q3];exact hr)
 ·intro b x hx ht hr;obtain⟨_,y,r,q2,q3,_⟩:=hb b x hx;exact E.ros (f b) y q2 (by rw[q3];exact ht) (by rw[q3];exact hr)
 ·intro b b' x x' hx hx' hr hr' he;obtain⟨_,y,r,q2,q3,_⟩:=hb b x hx;obtain⟨_,y',r',q2',q3',_⟩:=hb b' x' hx';exact hi b b' x x' hx hx' (.inl hr) (.inl hr') (E.inj _ _ y y' q2 q2' (by rw[q3];exact hr) (by rw[q3'];exact hr') he)
 ·intro b x hx v hv;exact ZcK (Nat.lt_of_le_of_lt (Nat.zero_le _) (Hp.blk_lt hx)) ((hb b x hx).1 v hv)
 ·intro b x hx ha;obtain⟨q1,y,r,q2,q3,q4⟩:=hb b x hx;exact (E.abs (f b) y q2 (by rw[q3];exact ha)).ren (f:=f) (r:=r.map (mv1 m)) q3 (by rw[q4,List.map_append,Zdb (m':=fun i=>m (f i)) q1]) (fun c z hz=>by
   obtain⟨_,y',_,q2',q3',_⟩:=hb c z hz;exact⟨y',q2',q3'⟩) fun c z hz hs hs' hc=>hi c b z x hz hx (.inr hs) (.inr hs') hc
theorem Z2N {m:Mp}(f:Nat→Nat) {front front' rest:List Value}(h:front'.map (rn f)=front):(front'++rest.map (fun v=>Value.iface ZV (mv m v))).map (mv fun i=>m (f i))=(front++rest).map (mv m):=by
 rw[List.map_append,List.map_append,← h,List.map_map,List.map_map];congr 1
 ·exact List.map_congr_left fun v _=>(ZcD m f v).symm
theorem RunsW.small {T:Tab}{c:Code}{x:Lf}{P:Ex→Lf→Prop}(hr:RunsW T c x P) {P':Ex→Lf→Prop}
  (hp:∀ e y,P e y→P' e y∨∃ (front front' rest:List Value) (h h':Hp) (s:List Dec) (f:Nat→Nat),y=(front++rest,h,s)∧front'.map (rn f)=front∧h'.l.length=h'.n∧0<h'.n∧
   (∀ i x,h'.blk? i=some x→(∀ v∈x.1,still v=true)∧∃ y r,h.blk? (f i)=some y∧y.2=x.2∧y.1=x.1++r)∧
   (∀ i j x y,h'.blk? i=some x→h'.blk? j=some y→ro x.2=false∨spK x.2=true→ro y.2=false∨spK y.2=true→f i=f j→i=j)∧(∀ v∈front',lt h'.n v=true)∧∀ g,P' e (front'++tl rest.length g,h',s)):RunsW T c x P':=by
 intro m B a w R Q hQ;refine hr m B a w R Q fun e y he m' a' w' R' hb'=> ?_;rcases hp e y he with h1 | ⟨front,front',rest,h,h',s,f,rfl,e1,e2,e3,e4,e5,e6,e7⟩
 ·exact hQ e y h1 m' a' w' R' hb'
 ·obtain⟨g,hg⟩:=Zsc (J:=rest.map (fun v=>Value.iface ZV (mv m' v))) (n:=rest.length) (by simp);refine hQ e _ (e7 g) _ a' w' (Zs9 R' f e2 e4 e5 (by rw[← hg];exact Z2N f e1) ?_) hb';intro v hv;rw[← hg] at hv;rcases List.mem_append.1 hv with hv | hv
  ·exact e6 v hv
  ·obtain⟨u,_,rfl⟩:=List.mem_map.1 hv;simp [lt,lt2,lt1,e3,ZV]
theorem RunsW.forLoop {T:Tab}{c:Code}{id:Nat}{x:Lf}{P:Lf→Prop}{R:Lf→Prop}(Inv:Nat→Lf→Prop)
  (round:∀ n x,Inv n x→RunsW T c x fun e y=>match e with | none=>∃ n',n'<n∧Inv n' y | some none=>R y | some (some id')=>id'=id∧P y) {n:Nat}(h0:Inv n x):
  RunsW T (.block id (.loop c)) x fun e y=>match e with | none=>P y | some none=>R y | some (some _)=>False:=by
 refine RunsW.block (P1:=fun e y=>match e with | none=>False | some none=>R y | some (some id')=>id'=id∧P y) ?_ (fun y he=>he.elim) (fun y he=>he) (fun y he=>he.2) (fun id' y hid he=>absurd he.1 hid);refine RunsW.loop Inv (fun n x hI=>(round n x hI).mono fun e y he=> ?_) h0
 match e,he with
 | none,he=>exact he
 | some none,he=>exact he
 | some (some id'),he=>exact he
theorem Zc {T:Tab}(hT:TabOk T) {N:Nat}{c:Code}{t:List Value}{h h':Hp}{s s0:List Dec}{k n:Nat}{e:Ex}{front:List Value}{cs:Log}(hG:Zm (evC T N false c (t,h,s) ⟨[],[],[]⟩) k n e front h' cs) (hcs:Zx cs):
  RunsW T c (t,h,s0) fun e' y=>e'=e∧(∃ g,y.1=front++tl n g)∧y.2.1=h':=(Zj hT hG hcs).w
theorem Zlh (n:Nat) (g:Nat→Value):(tl n g).length=n:=by simp [tl]
theorem Zli {x y:List Value×TypeId}{i:Nat}{z:List Value×TypeId}(h:(⟨2,[y,x]⟩:Hp).blk? i=some z):(i=0∧z=x)∨(i=1∧z=y):=by
 have:i<2:=Hp.blk_lt h;have:i=0∨i=1:=by omega
 rcases this with rfl | rfl
 ·exact .inl ⟨rfl,(Option.some.inj h).symm⟩
 ·exact .inr ⟨rfl,(Option.some.inj h).symm⟩
def zv (k b:Nat) (i:Nat):Nat:=if Nat.blt i k=true then i else b
theorem Zi2 {base:List (List Value×TypeId)}{k:Nat}(hk:base.length=k) {y:List Value×TypeId}{i:Nat}{z:List Value×TypeId}(h:(⟨k+1,y::base⟩:Hp).blk? i=some z):(i<k∧(⟨k,base⟩:Hp).blk? i=some z)∨(i=k∧z=y):=by
 have hi:i<k+1:=Hp.blk_lt h;by_cases h0:i=k
 ·subst h0;have:(⟨i+1,y::base⟩:Hp).blk? i=some y:=by
   unfold Hp.blk?;rw[if_pos (Zk.2 (by show i<i+1;omega))];show (y::base)[i+1-1-i]? =some y;rw[show i+1-1-i=0 from by omega];rfl
  rw[this] at h;exact .inr ⟨rfl,(Option.some.inj h).symm⟩
 ·refine .inl ⟨by omega,?_⟩;unfold Hp.blk? at h ⊢;rw[if_pos (Zk.2 (by show i<k+1;omega))] at h;rw[if_pos (Zk.2 (by show i<k;omega))];have e:k+1-1-i=(k-1-i)+1:=by omega
  have h':(y::base)[k+1-1-i]? =some z:=h;rw[e,List.getElem?_cons_succ] at h';exact h'
theorem RunsW.kept {T:Tab}{c:Code}{x0:Lf}{ex:Ex}{front front':List Value}{n k b:Nat}{h:Hp}{base:List (List Value×TypeId)}{y:List Value×TypeId}(hr:RunsW T c x0 fun e z=>e=ex∧(∃ g,z.1=front++tl n g)∧z.2.1=h)
  (hk:base.length=k) (hf:front'.map (rn (zv k b))=front) (hx:∀ i x,(⟨k,base⟩:Hp).blk? i=some x→h.blk? i=some x∧∀ v∈x.1,still v=true) (hy:h.blk? b=some y) (hb:k≤b) (sy:∀ v∈y.1,still v=true) (hw:∀ v∈front',lt (k+1) v=true):
  RunsW T c x0 fun e z=>e=ex∧(∃ g,z.1=front'++tl n g)∧z.2.1=⟨k+1,y::base⟩:=by
 refine hr.small fun e z he=> .inr ?_;obtain⟨rfl,⟨g,h1⟩,h2⟩:=he;obtain⟨t,h',s⟩:=z;simp only at h1 h2;subst h1 h2;refine⟨front,front',tl n g,h',⟨k+1,y::base⟩,s,zv k b,rfl,hf,by simp [hk],Nat.succ_pos _,fun i z hz=> ?_,fun i j u v hi hj _ _ hij=> ?_,hw,fun g'=>⟨rfl,⟨g',by rw[Zlh]⟩,rfl⟩⟩
 ·rcases Zi2 hk hz with ⟨hi,hz'⟩ | ⟨rfl,rfl⟩
  ·obtain⟨q1,q2⟩:=hx i z hz';exact⟨q2,z,[],by unfold zv;rw[if_pos (Zk.2 hi)];exact q1,rfl,by simp⟩
  ·exact⟨sy,z,[],by unfold zv;rw[if_neg (by rw[Zk];omega)];exact hy,rfl,by simp⟩
 ·unfold zv at hij;rcases Zi2 hk hi with ⟨h1,_⟩ | ⟨rfl,_⟩<;>rcases Zi2 hk hj with ⟨h2,_⟩ | ⟨rfl,_⟩
  ·rw[if_pos (Zk.2 h1),if_pos (Zk.2 h2)] at hij;exact hij
  ·rw[if_pos (Zk.2 h1),if_neg (by rw[Zk];omega)] at hij;omega
  ·rw[if_pos (Zk.2 h2),if_neg (by rw[Zk];omega)] at hij;omega
  ·rfl
theorem ZH {T:Tab}{f:Nat}{F:Func}{c:Code}(hF:T.P.funcs[f]? =some F) (hc:F.body=some c) {h0:Hp}(hr:h0.rows) {vals:List Value}(hvals:∀ v∈vals,lt h0.n v=true) {v:Value}(hv:lt 0 v=true)
  (hrun:RunsW T c (vals++List.replicate (F.ntmps-vals.length) undef,h0,[]) fun e y=>(e=none∨e=some none)∧Zau T.P F y.1 y.2.1=some v)
  {m:Mp}{B:Nat}{h:Hp}{w:World}(E:Emb m B h w) {s:Nat→Nat}(hf:h0.fits s h):
  Calls T.P f ((vals.map (rn s)).map (mv m)).toArray w fun e w'=>∃ m',e= .returned (mv m' v)∧Came m B h w v h m' w':=by
 have E0:=E.small hr hf;have ev:(vals.map (rn s)).map (mv m)=vals.map (mv fun i=>m (s i)):=by
  rw[List.map_map];exact List.map_congr_left fun y _=>ZcD m s y
 rw[ev];refine calls_of_wp hF hc ?_;have R:Rel (fun i=>m (s i)) w.heap.size (vals++List.replicate (F.ntmps-vals.length) undef,h0,[]) {tmps:=(vals.map (mv fun i=>m (s i))).toArray++Array.replicate (F.ntmps-(vals.map (mv fun i=>m (s i))).toArray.size) undef,defers:=[]} w:=by
  refine⟨?_,rfl,E0,?_⟩
  ·simp [zO]
  ·intro y hy;rcases List.mem_append.1 hy with hy | hy
   ·exact hvals y hy
   ·rw[List.eq_of_mem_replicate hy];simp [undef,lt]
 refine hrun _ _ _ w R _ fun e y he m1 a' w' k2 k3=> ?_;obtain⟨hex,hres⟩:=he;obtain⟨r1,r2⟩:=ZaO k2.emb k2.wf hres;rw[← k2.tmps,Z9 hv] at r1;have td:zg w w':=⟨k3,fun k h1 h2=>k2.emb.ice k h1 h2⟩;obtain⟨E',hb⟩:=Zaf E td;have post:a'.defers=[]∧∃ v',(results F a'.tmps).run T.P w'= .ok v' w'∧∃ m',Ending.returned v'= .returned (mv m' v)∧Came m B h w v h m' w':=
  ⟨k2.dfr,_,r1,m,by rw[Z9 hv],⟨Agree.refl _ _,E',hb,Nat.le_refl _,Zaj (Nat.zero_le _) hv⟩⟩
 rcases hex with rfl | rfl<;>exact post
end Go.KRun
namespace Go.Proofs.YtekebccjflilnaaGreat
open Go.Proofs.Tryz
open Go.IntKind
open Go.KRun Go.Nt
set_option maxRecDepth 100000
def Z0w (F:Func):List Code:=[ZB (Zv F),ZB (Z5 (Zv F))]
def Zlj (F:Func):Code:=cIn (cIn (ZB (Z5 (Z5 (Zv F)))))
def ZyX (F:Func):Code:=Z5 (Z5 (Z5 (Zv F)))
theorem Zi3:f74.body=some (Zaz (Z0w f74) (.seq (.block 0 (.loop (Zlj f74))) (ZyX f74))):=by kernel_rfl
theorem ZsA (p:Option Addr) (n c:Nat) (h:Hp):Zm (evL (Zi prog Zh Zo true) 100 (Z0w f74) ([.slice p n c]++List.replicate 21 undef,h,[]) ⟨[],[],[]⟩) 4 18 none [.slice p n c,undef,Zn,.int .i64 n] h []:=by and_intros<;>kernel_rfl
def i1 (k:Int):Int:=i64.wrap (k-1)
theorem ZwM (o n c:Nat) (k x:Int) (l:List Value) (j1 j2:Value) (g:Nat→Value):Zm (evC (Zi prog Zh Zo true) 100 false (Zlj f74) ([sl 0 o n c,j1,j2,.int .i64 k]++tl 18 g,⟨1,[(l,tR)]⟩,[cmp true,at_,val (.int .u32 x),cmp true]) ⟨[],[],[]⟩) 4 18 none [sl 0 o n c,j1,j2,.int .i64 (i1 k)] ⟨1,[(l,tR)]⟩
  [(x==0,true),(ZC (l[o+(i1 k).toNat*1]?) (.int .u32 x),true),(decide (0≤i1 k∧i1 k<n),true),(decide (k>0),true)]:=by and_intros<;>kernel_rfl
theorem Zon (o n c:Nat) (k x:Int) (l:List Value) (j1 j2:Value) (g:Nat→Value):Zm (evC (Zi prog Zh Zo true) 100 false (Zlj f74) ([sl 0 o n c,j1,j2,.int .i64 k]++tl 18 g,⟨1,[(l,tR)]⟩,[cmp true,at_,val (.int .u32 x),cmp false]) ⟨[],[],[]⟩) 4 18 (some (some 0)) [sl 0 o n c,j1,j2,.int .i64 k] ⟨1,[(l,tR)]⟩
  [(x==0,false),(ZC (l[o+(i1 k).toNat*1]?) (.int .u32 x),true),(decide (0≤i1 k∧i1 k<n),true),(decide (k>0),true)]:=by and_intros<;>kernel_rfl
theorem Zoo (v:Value) (k:Int) (h:Hp) (j1 j2:Value) (g:Nat→Value):Zm (evC (Zi prog Zh Zo true) 100 false (Zlj f74) ([v,j1,j2,.int .i64 k]++tl 18 g,h,[cmp false]) ⟨[],[],[]⟩) 4 18 (some (some 0)) [v,j1,j2,.int .i64 k] h [(decide (k>0),false)]:=by and_intros<;>kernel_rfl
theorem ZsB (o n c k:Nat) (l:List Value) (j1 j2:Value) (g:Nat→Value):Zm (evC (Zi prog Zh Zo true) 100 false (ZyX f74) ([sl 0 o n c,j1,j2,.int .i64 k]++tl 18 g,⟨1,[(l,tR)]⟩,[num 0]) ⟨[],[],[]⟩) 4 18 (some none) [sl 0 o n c,j1,sl 0 o k k,.int .i64 k] ⟨1,[(l,tR)]⟩
  [(ZW c,true),(Za8 0 k k c,true),(decide ((k:Int)=0∧(0:Int)≠0),false)]:=by and_intros<;>kernel_rfl
theorem Zop (n k:Nat) (l:List Value) (j1 j2:Value) (g:Nat→Value):Zm (evC (Zi prog Zh Zo true) 100 false (ZyX f74) ([sl 0 0 n grown,j1,j2,.int .i64 k]++tl 18 g,⟨1,[(l,tR)]⟩,[at_]) ⟨[],[],[]⟩) 4 18 (some none) [sl 0 0 n grown,j1,sl 0 0 k k,.int .i64 k] ⟨1,[(l,tR)]⟩
  [(Za8 0 k k n,true),(decide ((k:Int)=0∧(0:Int)≠0),false),(!(Zam tR) && Nat.ble n l.length,true)]:=by and_intros<;>kernel_rfl
def Zd6 (o n c:Nat):Bool:=(ZW c && Nat.ble n c) || (Nat.beq c grown && Nat.beq o 0)
theorem Zi4 {l:List Value}{o c:Nat}{L:List Int}(hR:Row l o L) (hL:L.length<4611686018427387904) (hc:Zd6 o L.length c=true):
  Runs (Zi prog Zh Zo true) (Zaz (Z0w f74) (.seq (.block 0 (.loop (Zlj f74))) (ZyX f74))) ([sl 0 o L.length c]++List.replicate 21 undef,⟨1,[(l,tR)]⟩,[]) fun e y=>(e=none∨e=some none)∧Zau prog f74 y.1 y.2.1=some (sl 0 o (Z3 L) (Z3 L)):=by
 refine zl (Zf Zd) (ZsA _ _ _ _) (fun x hx=>by cases hx) fun g=> ?_;refine Runs.seq (P1:=fun e y=>e=none∧(∃ g,y.1=[sl 0 o L.length c,undef,Zn,.int .i64 (Z3 L:Nat)]++tl 18 g)∧y.2.1=⟨1,[(l,tR)]⟩) ?_ ?_ (fun e y he=>by cases he.1)
 ·refine (Runs.forLoop (P:=fun y=>(∃ g,y.1=[sl 0 o L.length c,undef,Zn,.int .i64 (Z3 L:Nat)]++tl 18 g)∧y.2.1=⟨1,[(l,tR)]⟩) (R:=fun _=>False) (fun n y=>(∃ g,y.1=[sl 0 o L.length c,undef,Zn,.int .i64 (n:Nat)]++tl 18 g)∧y.2.1=⟨1,[(l,tR)]⟩∧n≤L.length∧∀ i,n≤i→L.getD i 0=0) ?_ (n:=L.length) ⟨⟨g,rfl⟩,rfl,Nat.le_refl _,fun i hi=>by simp [List.getD,List.getElem?_eq_none hi]⟩).mono fun e y he=> ?_
  ·rintro n ⟨t,h',s⟩ ⟨⟨g,ht⟩,hh,hle,hz⟩;simp only at ht hh;subst ht hh;cases n with
   | zero=>
    refine (Zj (Zf Zd) (Zoo _ _ _ undef Zn g) (Z2 (by rfl))).mono fun e y he=> ?_;obtain⟨rfl,⟨g',h2⟩,h3⟩:=he;have e0:Z3 L=0:=Zee hz (.inl rfl);exact⟨rfl,⟨g',by rw[h2,e0]⟩,h3⟩
   | succ k=>
    have ek:i1 ((k+1:Nat):Int)=(k:Int):=by
     unfold i1;rw[ZL (by omega) (by omega)];omega
    have hcell:=hR.cell (k:=k) (by omega);have hce:ZC (l[o+(i1 ((k+1:Nat):Int)).toNat*1]?) (.int .u32 (L.getD k 0))=true:=by
     rw[ek,Xg,Nat.mul_one,hcell];simp [ZC]
    have hix:decide (0≤i1 ((k+1:Nat):Int)∧i1 ((k+1:Nat):Int)<(L.length:Int))=true:=by rw[ek];exact Xa (by omega)
    have hgt:decide (((k+1:Nat):Int)>0)=true:=Xa (by omega);by_cases hx:L.getD k 0=0
    ·refine (Zj (Zf Zd) (ZwM o L.length c ((k+1:Nat):Int) (L.getD k 0) l undef Zn g) (Zt (by rw[hx];rfl) (Zt hce (Zt hix (Z2 hgt))))).mono fun e y he=> ?_;obtain⟨rfl,⟨g',h2⟩,h3⟩:=he;rw[ek] at h2;refine⟨k,by omega,⟨g',h2⟩,h3,by omega,fun i hi=> ?_⟩;rcases Nat.lt_or_ge k i with h | h
     ·exact hz i h
     ·have:i=k:=by omega
      rw[this];exact hx
    ·refine (Zj (Zf Zd) (Zon o L.length c ((k+1:Nat):Int) (L.getD k 0) l undef Zn g) (Zt (by simpa using hx) (Zt hce (Zt hix (Z2 hgt))))).mono fun e y he=> ?_;obtain⟨rfl,⟨g',h2⟩,h3⟩:=he;have e0:Z3 L=k+1:=Zee hz (.inr (by simpa using hx));exact⟨rfl,⟨g',by rw[h2,e0]⟩,h3⟩
  ·match e,he with
   | none,he=>exact⟨rfl,he⟩
 ·rintro⟨t,h',s⟩ ⟨_,⟨g',ht⟩,hh⟩;simp only at ht hh;subst ht hh;have hle:=ZcU L;have hp:Za8 0 (Z3 L:Nat) (Z3 L:Nat) (L.length:Nat)=true:=by unfold Za8;exact Xa (by omega)
  unfold Zd6 at hc;simp only[Bool.or_eq_true,Xh] at hc;rcases hc with ⟨h1,h2⟩ | ⟨h1,h2⟩
  ·have h2:=Nat.le_of_ble_eq_true h2;have h1':c<4611686018427387904:=Zk.1 h1;refine (Zj (Zf Zd) (ZsB o L.length c (Z3 L) l undef Zn g') (Zt h1 (Zt (by unfold Za8;exact Xa (by omega)) (Z2 (Xb (by omega)))))).mono fun e y he=> ?_;obtain⟨rfl,⟨g2,h2⟩,h3⟩:=he;refine⟨.inr rfl,?_⟩;rw[h2,h3];rfl
  ·have h1:=Xj h1;have h2:=Xj h2;subst h1 h2;have hlen:=hR.len;refine (Zj (Zf Zd) (Zop L.length (Z3 L) l undef Zn g') (Zt hp (Zt (Xb (by omega)) (Z2 (by
    rw[ZeQ,Nat.ble_eq_true_of_le (by omega)];rfl))))).mono fun e y he=> ?_
   obtain⟨rfl,⟨g2,h2⟩,h3⟩:=he;refine⟨.inr rfl,?_⟩;rw[h2,h3];rfl
def ZaK (ty:TypeId) (l:List Value) (o n c:Nat):Bool:= !(Zam ty) && Nat.beq (rt ty) tU && Nat.ble (o+n) l.length && Nat.blt n 4611686018427387904 && Zd6 o n c && (Zlf l o n).all isU && l.all still
theorem ZU {ty:TypeId}{l:List Value}{o n c:Nat}(h:ZaK ty l o n c=true):Row l o (zu l o n)∧(zu l o n).length=n∧n<4611686018427387904∧Zd6 o n c=true∧Zam ty=false∧rt ty=tU∧∀ v∈l,still v=true:=by
 unfold ZaK at h;simp only[Xh,Bool.not_eq_true'] at h;obtain⟨⟨⟨⟨⟨⟨h1,h2⟩,h3⟩,h4⟩,h5⟩,h6⟩,h7⟩:=h;have h2:=Xj h2;have h3:=Nat.le_of_ble_eq_true h3;have h4:=Zk.1 h4;have hlen:(zu l o n).length=n:=by unfold zu Zlf;simp;omega
 refine⟨⟨by rw[hlen];exact h3,by rw[hlen];exact Zi1 h6,fun x hx=> ?_⟩,hlen,h4,h5,h1,h2,List.all_eq_true.1 h7⟩;unfold zu at hx;obtain⟨v,hv,rfl⟩:=List.mem_map.1 hx;have:=Zh7 (List.all_eq_true.1 h6 v hv);exact⟨this.2.1,this.2.2⟩
theorem Zlk:Zw (Ze (Zi prog Zh Zo true) 100 74 [Zn] []) Zn []:=by and_intros<;>kernel_rfl
def Zh8:Zcl:=fun vals h s=>
 match vals with
 | [.slice none 0 0]=>some (Zn,h,s,[])
 | [.slice (some ⟨b,o,none⟩) n c]=>
  match h.blk? b with
  | some x=>some (sl b o (Z3 (zu x.1 o n)) (Z3 (zu x.1 o n)),h,s,[(ZaK x.2 x.1 o n c,true)])
  | none=>none
 | _=>none
theorem ZfJ:za 74 Zh8:=by
 intro vals h s v h' s' lg hg hl m B w E hv;unfold Zh8 at hg;split at hg
 ·cases hg;refine (Zb (Zf Zd) Zlk (fun x hx=>by cases hx) (by rfl) (by rfl) w).mono fun e w' he=> ?_;obtain⟨E',hb⟩:=Zaf E he.2;exact⟨m,he.1,⟨Agree.refl _ _,E',hb,Nat.le_refl _,rfl⟩⟩
 ·rename_i b o n c;split at hg
  ·rename_i x hx;cases hg;obtain⟨h1,h2,h3,h4,h5,h6,h7⟩:=ZU (hl _ Xf);have hlt:=Hp.blk_lt hx;have r:=Zi4 (c:=c) h1 (by rw[h2];exact h3) (by rw[h2];exact h4);rw[h2] at r;have:=ZfH (T:=Zi prog Zh Zo true) func74 Zi3 (ZcH h7) (vals:=[sl 0 o n c]) (fun v hv=>by rw[List.mem_singleton.1 hv];rfl) (by rfl) r E (s:=fun _=>b) (fun i _=>hlt) (Zbs hx h5 h6 rfl);exact this.mono fun e w' he=>⟨m,he.1,he.2⟩
  ·cases hg
 ·cases hg
end Go.Proofs.YtekebccjflilnaaGreat
namespace Go.Proofs.YtekebccjflilnaaGreat
open Go.Proofs.Tryz
open Go.KRun Go.Nt
set_option maxRecDepth 100000
def hcU:Hc:=Zb5 74 Zh8 hcN
theorem ZwN:HcOk hcU:=ZA func74 rfl ZfJ ZfI
theorem ZP (L:List Int):∀ v∈wU L,still v=true:=fun v hv=>by
 unfold wU at hv;obtain⟨x,_,rfl⟩:=List.mem_map.1 hv;rfl
theorem Zqp (L:List Int):(wU L).all one=true:=List.all_eq_true.2 fun v hv=>by
 unfold wU at hv;obtain⟨x,_,rfl⟩:=List.mem_map.1 hv;rfl
theorem ZO (L M:List Int):wU (L++M)=wU L++wU M:=by simp [wU]
theorem Zbt (L:List Int):(wU L).length=L.length:=by simp [wU]
theorem ZaE (L:List Int):zu (wU L) 0 L.length=L:=by
 unfold zu Zlf;rw[List.drop_zero,← Zbt,List.take_length];unfold wU;rw[List.map_map];exact List.map_id' _
theorem zY {L:List Int}(h:∀ x∈L,0≤x∧x<4294967296) (hl:L.length<4611686018427387904) {c:Nat}(hc:Zd6 0 L.length c=true):ZaK tU (wU L) 0 L.length c=true:=by
 unfold ZaK;have e1:Zam tU=false:=by kernel_rfl
 have e2:Nat.beq (rt tU) tU=true:=by kernel_rfl
 have e3:Nat.ble (0+L.length) (wU L).length=true:=Nat.ble_eq_true_of_le (by rw[Zbt];omega);have e4:Nat.blt L.length 4611686018427387904=true:=Zk.2 hl;have e5:((Zlf (wU L) 0 L.length).all isU)=true:=by
  unfold Zlf;rw[List.drop_zero,← Zbt,List.take_length];refine List.all_eq_true.2 fun v hv=> ?_;unfold wU at hv;obtain⟨x,hx,rfl⟩:=List.mem_map.1 hv;exact Xa (h x hx)
 have e6:((wU L).all still)=true:=List.all_eq_true.2 fun v hv=>by
  unfold wU at hv;obtain⟨x,_,rfl⟩:=List.mem_map.1 hv;rfl
 rw[e1,e2,e3,e4,hc,e5,e6];rfl
theorem ZaF {L M:List Int}{k:Nat}(hk:k=L.length) (hM:0<M.length) (hb:L.length+M.length≤1073741824):zQ tU (wU L,tU) (wU M,tU) k 0 M.length=true:=by
 subst hk;unfold zQ;simp only[Xh,Bool.not_eq_true',Zbt];refine⟨⟨⟨⟨⟨⟨⟨⟨Nat.beq_refl _,Nat.ble_eq_true_of_le hb⟩,by kernel_rfl⟩,by kernel_rfl⟩,by kernel_rfl⟩,by kernel_rfl⟩,Nat.ble_eq_true_of_le (by omega)⟩,Zk.2 hM⟩,?_⟩;rw[List.drop_zero,← Zbt,List.take_length];exact Zqp M
theorem Zu5 (n:Nat):Zd6 0 n grown=true:=by unfold Zd6;rw[show Nat.beq grown grown=true from by kernel_rfl,show Nat.beq 0 0=true from rfl];simp
theorem Zh9 {L:List Int}{k:Nat}(h:k<L.length):L.getD k 0=L[k]:=by simp [List.getD,List.getElem?_eq_getElem h]
theorem ZfK {T:Tab}{a b c:Code}{x:Lf}{P1 P2 P:Ex→Lf→Prop}(h1:RunsW T a x P1) (n1:∀ e y,P1 (some e) y→False) (h2:∀ y,P1 none y→RunsW T b y P2) (n2:∀ e y,P2 (some e) y→False) (h3:∀ y,P2 none y→RunsW T c y P):RunsW T (.seq (.seq a b) c) x P:=
 RunsW.seq (P1:=P2) (RunsW.seq (P1:=P1) h1 h2 (fun e y he=>(n1 e y he).elim)) h3 (fun e y he=>(n2 e y he).elim)
def d16 (V:Nat):List Int:=db 65536 V
theorem Zbu (L:List Int):∀ u∈wU L,lt1 0 u=true:=fun v hv=>by
 unfold wU at hv;obtain⟨x,_,rfl⟩:=List.mem_map.1 hv;rfl
def Zu (h:Hp) (p:Option Addr) (n:Nat):List Int:=
 match p with
 | none=>[]
 | some a=>
  match h.blk? a.block with
  | some x=>zu x.1 a.off n
  | none=>[]
def zS (h:Hp) (p:Option Addr) (n c:Nat):Bool:=
 match p with
 | none=>Nat.beq n 0 && Nat.beq c 0
 | some a=>
  match a.spot,h.blk? a.block with
  | none,some x=>ZaK x.2 x.1 a.off n c && x.1.all still
  | _,_=>false
def atN (L:List Int) (i:Int):Int:=if 0≤i then L.getD i.toNat 0 else 0
theorem Z8 {h:Hp}{p:Option Addr}{n c:Nat}(hr:zS h p n c=true):(p=none∧n=0∧c=0∧Zu h p n=[])∨∃ b o x,p=some ⟨b,o,none⟩∧h.blk? b=some x∧ZaK x.2 x.1 o n c=true∧(∀ v∈x.1,still v=true)∧Zu h p n=zu x.1 o n:=by
 unfold zS at hr;split at hr
 ·simp only[Xh] at hr;exact .inl ⟨rfl,Xj hr.1,Xj hr.2,rfl⟩
 ·rename_i a;split at hr
  ·rename_i x hs hx;simp only[Xh] at hr;obtain⟨b,o,sp⟩:=a;simp only at hs hx;subst hs;exact .inr ⟨b,o,x,rfl,hx,hr.1,List.all_eq_true.1 hr.2,by simp [Zu,hx]⟩
  ·cases hr
theorem Zll:f76.body=some (Zv f76):=by kernel_rfl
theorem Z0x (o n c:Nat) (i x:Int) (l:List Value):Zm (evC (Zi prog Zh Zo true) 100 false (Zv f76) ([sl 0 o n c,.int .i64 i]++List.replicate 15 undef,⟨1,[(l,tR)]⟩,[cmp true,cmp true,at_,val (.int .u32 x)]) ⟨[],[],[]⟩) 5 12 (some none) [sl 0 o n c,.int .i64 i,undef,undef,.int .u32 x] ⟨1,[(l,tR)]⟩ [(ZC (l[o+i.toNat*1]?) (.int .u32 x),true),(decide (0≤i∧i<n),true),(decide (i<n),true),(decide (i≥0),true)]:=by and_intros<;>kernel_rfl
theorem ZsC (p:Option Addr) (n c:Nat) (i:Int) (h:Hp):Zm (evC (Zi prog Zh Zo true) 100 false (Zv f76) ([.slice p n c,.int .i64 i]++List.replicate 15 undef,h,[cmp true,cmp false]) ⟨[],[],[]⟩) 5 12 (some none) [.slice p n c,.int .i64 i,undef,undef,.int .u32 0] h [(decide (i<n),false),(decide (i≥0),true)]:=by and_intros<;>kernel_rfl
theorem Zoq (p:Option Addr) (n c:Nat) (i:Int) (h:Hp):Zm (evC (Zi prog Zh Zo true) 100 false (Zv f76) ([.slice p n c,.int .i64 i]++List.replicate 15 undef,h,[cmp false]) ⟨[],[],[]⟩) 5 12 (some none) [.slice p n c,.int .i64 i,undef,undef,.int .u32 0] h [(decide (i≥0),false)]:=by and_intros<;>kernel_rfl
theorem Zlm {p:Option Addr}{n c:Nat}{i:Int}{h:Hp}(hi:i<0∨(n:Int)≤i):Runs (Zi prog Zh Zo true) (Zv f76) ([.slice p n c,.int .i64 i]++List.replicate 15 undef,h,[]) fun e y=>(e=none∨e=some none)∧Zau prog f76 y.1 y.2.1=some (.int .u32 0):=by
 by_cases h0:i<0
 ·refine (Zj (Zf Zd) (Zoq p n c i h) (Z2 (Xb (by omega)))).mono fun e y he=> ?_;obtain⟨rfl,⟨g,e2⟩,e3⟩:=he;refine⟨.inr rfl,?_⟩;rw[e2,e3];rfl
 ·refine (Zj (Zf Zd) (ZsC p n c i h) (Zt (Xb (by omega)) (Z2 (Xa (by omega))))).mono fun e y he=> ?_;obtain⟨rfl,⟨g,e2⟩,e3⟩:=he;refine⟨.inr rfl,?_⟩;rw[e2,e3];rfl
theorem ZsD {l:List Value}{o c:Nat}{L:List Int}(i:Int) (hR:Row l o L):
  Runs (Zi prog Zh Zo true) (Zv f76) ([sl 0 o L.length c,.int .i64 i]++List.replicate 15 undef,⟨1,[(l,tR)]⟩,[]) fun e y=>(e=none∨e=some none)∧Zau prog f76 y.1 y.2.1=some (.int .u32 (atN L i)):=by
 by_cases hi:i<0∨(L.length:Int)≤i
 ·have e0:atN L i=0:=by
   unfold atN;split
   ·have:L.length≤i.toNat:=by omega
    simp [List.getD,List.getElem?_eq_none this]
   ·rfl
  rw[e0];exact Zlm hi
 ·have h0:0≤i:=by omega
  have hlt:i.toNat<L.length:=by omega
  have e0:atN L i=L.getD i.toNat 0:=by unfold atN;rw[if_pos h0]
  rw[e0];have hc:=hR.cell hlt;refine (Zj (Zf Zd) (Z0x o L.length c i (L.getD i.toNat 0) l) (Zt (by rw[Nat.mul_one,hc];simp [ZC]) (Zt (Xa (by omega)) (Zt (Xa (by omega)) (Z2 (Xa (by omega))))))).mono fun e y he=> ?_;obtain⟨rfl,⟨g,e2⟩,e3⟩:=he;refine⟨.inr rfl,?_⟩;rw[e2,e3];rfl
def gAt:Zcl:=fun vals h s=>
 match vals with
 | [.slice p n c,.int .i64 i]=>some (.int .u32 (atN (Zu h p n) i),h,s,[(zS h p n c,true)])
 | _=>none
theorem Zqq:za 76 gAt:=by
 intro vals h s v h' s' lg hg hl m B w E hv;unfold gAt at hg;split at hg
 ·rename_i p n c i;cases hg;have q:=hl _ Xf;simp only at q;rcases Z8 q with ⟨rfl,rfl,rfl,e0⟩ | ⟨b,o,x,rfl,hx,q1,_,e0⟩
  ·rw[e0];have hz:atN [] i=0:=by unfold atN;split<;>simp
   rw[hz];have hi:i<0∨((0:Nat):Int)≤i:=by omega
   refine (ZaU (T:=Zi prog Zh Zo true) func76 Zll (vals:=[Zn,.int .i64 i]) (v:= .int .u32 0) (by rfl) (by rfl) (Zlm (p:=none) (n:=0) (c:=0) (i:=i) (h:=⟨0,[]⟩) hi) w).mono fun e w' he=> ?_;obtain⟨E',hb⟩:=Zaf E he.2;exact⟨m,he.1,⟨Agree.refl _ _,E',hb,Nat.le_refl _,rfl⟩⟩
  ·rw[e0];obtain⟨h1,h2,h3,h4,h5,h6,h7⟩:=ZU q1;have hlt:=Hp.blk_lt hx;have r:=ZsD (c:=c) i h1;rw[h2] at r;have:=ZfH (T:=Zi prog Zh Zo true) func76 Zll (ZcH h7) (vals:=[sl 0 o n c,.int .i64 i]) (fun v hv=>by
    simp only[List.mem_cons,List.not_mem_nil,or_false] at hv;rcases hv with rfl | rfl<;>rfl) (by rfl) r E (s:=fun _=>b) (fun i _=>hlt) (Zbs hx h5 h6 rfl)
   exact this.mono fun e w' he=>⟨m,he.1,he.2⟩
 ·cases hg
def hcV:Hc:=Zb5 76 gAt hcU
theorem Zs:HcOk hcV:=ZA func76 rfl Zqq ZwN
end Go.Proofs.YtekebccjflilnaaGreat
namespace Go.Proofs.YtekebccjflilnaaGreat
open Go.Proofs.Tryz
open Go.IntKind
open Go.KRun Go.Nt
set_option maxRecDepth 100000
structure Nu (i:Nat) (x:List Value×TypeId) (p:Option Addr) (n c:Nat) (A:List Int):Prop where
 row:∀ h:Hp,h.blk? i=some x→zS h p n c=true∧Zu h p n=A
 pos:p=none∨∃ o,p=some ⟨i,o,none⟩
 st:∀ v∈x.1,still v=true
 lt0:∀ v∈x.1,still v=true
 ros:ro x.2=true∧ab x.2=false
theorem Nu.rn {i:Nat}{x:List Value×TypeId}{p:Option Addr}{n c:Nat}{A:List Int}(h:Nu i x p n c A) {f:Nat→Nat}(hf:f i=i):KRun.rn f (.slice p n c)= .slice p n c:=by
 rcases h.pos with rfl | ⟨o,rfl⟩
 ·rfl
 ·show Value.slice (some ⟨f i,o,none⟩) n c=_;rw[hf]
theorem Nu.lt {i:Nat}{x:List Value×TypeId}{p:Option Addr}{n c:Nat}{A:List Int}(h:Nu i x p n c A) {k:Nat}(hk:i<k):KRun.lt k (.slice p n c)=true:=by
 rcases h.pos with rfl | ⟨o,rfl⟩
 ·rfl
 ·exact Zk.2 hk
theorem Zbv {h:Hp}{p:Option Addr}{n c:Nat}(i:Nat) (hr:zS h p n c=true):∃ x p' b,Nu i x p' n c (Zu h p n)∧(∀ s:Nat→Nat,s i=b→rn s (.slice p' n c)= .slice p n c)∧(Zam x.2=false→∃ y r,h.blk? b=some y∧Zam y.2=false∧rt y.2=rt x.2∧y.1=x.1++r):=by
 rcases Z8 hr with ⟨rfl,rfl,rfl,e0⟩ | ⟨b,o,x,rfl,hx,q1,q2,e0⟩
 ·refine⟨([],2*ZV),none,0,⟨fun h' _=>⟨rfl,by rw[e0];rfl⟩,.inl rfl,(fun v hv=>by cases hv),(fun v hv=>by cases hv),(by kernel_rfl),(by kernel_rfl)⟩,fun s _=>rfl,fun ht=> ?_⟩;rw[show Zam (2*ZV)=true from by kernel_rfl] at ht;cases ht
 ·obtain⟨h1,h2,h3,h4,h5,h6,h7⟩:=ZU q1;refine⟨(x.1,tR),some ⟨i,o,none⟩,b,⟨fun h' hb=>⟨?_,?_⟩,.inr ⟨o,rfl⟩,q2,h7,Zoi,Zoj⟩,fun s hs=> ?_,fun _=>⟨x,[],hx,h5,by rw[h6];exact Zok.symm,by simp⟩⟩
  ·simp only[zS,hb,Xh];refine⟨?_,List.all_eq_true.2 q2⟩;unfold ZaK at q1 ⊢;simp only[Xh,Bool.not_eq_true'] at q1 ⊢;obtain⟨⟨⟨⟨⟨⟨_,_⟩,p3⟩,p4⟩,p5⟩,p6⟩,p7⟩:=q1;exact⟨⟨⟨⟨⟨⟨ZeQ,by kernel_rfl⟩,p3⟩,p4⟩,p5⟩,p6⟩,p7⟩
  ·rw[e0];simp [Zu,hb]
  ·show Value.slice (some ⟨s i,o,none⟩) n c=_;rw[hs]
def dgB (L:List Int):Bool:=L.all fun x=>decide (0≤x∧x<65536)
theorem ZaY {L:List Int}(h:dgB L=true):∀ x∈L,Dg 65536 x:=fun x hx=>Xc (List.all_eq_true.1 h x hx)
theorem ZaZ {L:List Int}(h:∀ x∈L,Dg 65536 x):dgB L=true:=List.all_eq_true.2 fun x hx=>Xa (h x hx)
theorem zT {h:Hp}{p:Option Addr}{n c:Nat}(hr:zS h p n c=true):(Zu h p n).length=n:=by
 rcases Z8 hr with ⟨rfl,rfl,rfl,e0⟩ | ⟨b,o,x,rfl,hx,q1,q2,e0⟩
 ·rw[e0];rfl
 ·rw[e0];exact (ZU q1).2.1
theorem Zd7 {L:List Int}(h:∀ x∈L,Dg 65536 x) (i:Nat):Dg 65536 (L.getD i 0):=by
 by_cases hi:i<L.length
 ·rw[Zh9 hi];exact h _ (List.getElem_mem hi)
 ·rw[show L.getD i 0=0 from by simp [List.getD,List.getElem?_eq_none (show L.length≤i by omega)]];exact⟨by omega,by omega⟩
theorem zZ (L:List Int) (i:Nat):atN L (i:Int)=L.getD i 0:=by unfold atN;rw[if_pos (by omega),Xg]
def Zi5 (F:Func):List Code:=[ZB (Zv F),ZB (Z5 (Zv F)),ZB (Z5 (Z5 (Zv F)))]
def aR3 (F:Func):Code:=ZB (ZB (Z5 (Z5 (Z5 (Zv F)))))
def Za5 (F:Func):Code:=cIn (cIn (Z5 (ZB (Z5 (Z5 (Z5 (Zv F)))))))
def Zu6 (F:Func):Code:=Z5 (Z5 (Z5 (Z5 (Zv F))))
theorem Zln:f46.body=some (Zaz (Zi5 f46) (.seq (.seq (aR3 f46) (.block 0 (.loop (Za5 f46)))) (Zu6 f46))):=by kernel_rfl
theorem Zor (a b:Value) (h:Hp):Zm (evL (Zp prog Zh Zo hcV) 100 (Zi5 f46) ([a,b]++List.replicate 40 undef,h,[]) ⟨[],[],[]⟩) 7 35 none [a,b,undef,undef,Zn,Zn,.int .u32 0] h []:=by and_intros<;>kernel_rfl
theorem ZsE (a b:Value) (h:Hp) (g:Nat→Value):Zm (evC (Zp prog Zh Zo hcV) 100 false (aR3 f46) ([a,b,undef,undef,Zn,Zn,.int .u32 0]++tl 35 g,h,[]) ⟨[],[],[]⟩) 8 34 none [a,b,undef,undef,Zn,Zn,.int .u32 0,.int .i64 0] h []:=by and_intros<;>kernel_rfl
def sm (A B:List Int) (k i:Int):Int:=u32.wrap (u32.wrap (k+atN A i)+atN B i)
def hu3 (lo:List Value) (y x:List Value×TypeId):Hp:=⟨3,[(lo,tU),y,x]⟩
def hp2 (y x:List Value×TypeId):Hp:=⟨2,[y,x]⟩
def ZwO (w:Nat):List Dec:=match w with | 0=>[cmp true] | 1=>[cmp false,cmp true] | _=>[cmp false,cmp false,cmp true]
def Zqr (w:Nat) (n n':Nat) (k i:Int):Log:=match w with | 0=>[(decide (i<n),true)] | 1=>[(decide (i<n'),true),(decide (i<n),false)] | _=>[(decide (k>0),true),(decide (i<n'),false),(decide (i<n),false)]
def rP (h:Hp) (p:Option Addr) (n c:Nat):Bool×Bool:=(zS h p n c,true)
theorem Zlo (p q:Option Addr) (n c n' c':Nat) (k i:Int) (x y:List Value×TypeId) (g:Nat→Value):Zm (evC (Zp prog Zh Zo hcV) 100 false (Za5 f46) ([.slice p n c,.slice q n' c',undef,undef,Zn,Zn,.int .u32 k,.int .i64 i]++tl 34 g,hp2 y x,ZwO 0++[cmp true]) ⟨[],[],[]⟩) 8 34 none [.slice p n c,.slice q n' c',undef,undef,Zn,sl 3 0 1 grown,.int .u32 (u32.wrap ((sm (Zu (hp2 y x) p n) (Zu (hp2 y x) q n') k i).tdiv 65536)),.int .i64 (i64.wrap (i+1))] ⟨4,[([.int .u32 ((sm (Zu (hp2 y x) p n) (Zu (hp2 y x) q n') k i).tmod 65536)],tU),([.int .u32 ((sm (Zu (hp2 y x) p n) (Zu (hp2 y x) q n') k i).tmod 65536)],tU),y,x]⟩ ((decide ((65536:Int)=0),false)::rP (hp2 y x) q n' c'::rP (hp2 y x) p n c::Zqr 0 n n' k i):=by and_intros<;>kernel_rfl
theorem Zlp (p q:Option Addr) (n c n' c':Nat) (k i:Int) (x y:List Value×TypeId) (g:Nat→Value):Zm (evC (Zp prog Zh Zo hcV) 100 false (Za5 f46) ([.slice p n c,.slice q n' c',undef,undef,Zn,Zn,.int .u32 k,.int .i64 i]++tl 34 g,hp2 y x,ZwO 1++[cmp true]) ⟨[],[],[]⟩) 8 34 none [.slice p n c,.slice q n' c',undef,undef,Zn,sl 3 0 1 grown,.int .u32 (u32.wrap ((sm (Zu (hp2 y x) p n) (Zu (hp2 y x) q n') k i).tdiv 65536)),.int .i64 (i64.wrap (i+1))] ⟨4,[([.int .u32 ((sm (Zu (hp2 y x) p n) (Zu (hp2 y x) q n') k i).tmod 65536)],tU),([.int .u32 ((sm (Zu (hp2 y x) p n) (Zu (hp2 y x) q n') k i).tmod 65536)],tU),y,x]⟩ ((decide ((65536:Int)=0),false)::rP (hp2 y x) q n' c'::rP (hp2 y x) p n c::Zqr 1 n n' k i):=by and_intros<;>kernel_rfl
theorem Zi6 (p q:Option Addr) (n c n' c' z:Nat) (k i:Int) (x y:List Value×TypeId) (lo:List Value) (g:Nat→Value):Zm (evC (Zp prog Zh Zo hcV) 100 false (Za5 f46) ([.slice p n c,.slice q n' c',undef,undef,Zn,sl 2 0 z grown,.int .u32 k,.int .i64 i]++tl 34 g,hu3 lo y x,ZwO 0++[cmp true,at_]) ⟨[],[],[]⟩) 8 34 none [.slice p n c,.slice q n' c',undef,undef,Zn,sl 4 0 (z+1) grown,.int .u32 (u32.wrap ((sm (Zu (hu3 lo y x) p n) (Zu (hu3 lo y x) q n') k i).tdiv 65536)),.int .i64 (i64.wrap (i+1))] ⟨5,[(lo++[.int .u32 ((sm (Zu (hu3 lo y x) p n) (Zu (hu3 lo y x) q n') k i).tmod 65536)],tU),([.int .u32 ((sm (Zu (hu3 lo y x) p n) (Zu (hu3 lo y x) q n') k i).tmod 65536)],tU),([],2*ZV),y,x]⟩ ((zQ tU (lo,tU) ([.int .u32 ((sm (Zu (hu3 lo y x) p n) (Zu (hu3 lo y x) q n') k i).tmod 65536)],tU) z 0 1,true)::(decide ((65536:Int)=0),false)::rP (hu3 lo y x) q n' c'::rP (hu3 lo y x) p n c::Zqr 0 n n' k i):=by and_intros<;>kernel_rfl
theorem Zi7 (p q:Option Addr) (n c n' c' z:Nat) (k i:Int) (x y:List Value×TypeId) (lo:List Value) (g:Nat→Value):Zm (evC (Zp prog Zh Zo hcV) 100 false (Za5 f46) ([.slice p n c,.slice q n' c',undef,undef,Zn,sl 2 0 z grown,.int .u32 k,.int .i64 i]++tl 34 g,hu3 lo y x,ZwO 1++[cmp true,at_]) ⟨[],[],[]⟩) 8 34 none [.slice p n c,.slice q n' c',undef,undef,Zn,sl 4 0 (z+1) grown,.int .u32 (u32.wrap ((sm (Zu (hu3 lo y x) p n) (Zu (hu3 lo y x) q n') k i).tdiv 65536)),.int .i64 (i64.wrap (i+1))] ⟨5,[(lo++[.int .u32 ((sm (Zu (hu3 lo y x) p n) (Zu (hu3 lo y x) q n') k i).tmod 65536)],tU),([.int .u32 ((sm (Zu (hu3 lo y x) p n) (Zu (hu3 lo y x) q n') k i).tmod 65536)],tU),([],2*ZV),y,x]⟩ ((zQ tU (lo,tU) ([.int .u32 ((sm (Zu (hu3 lo y x) p n) (Zu (hu3 lo y x) q n') k i).tmod 65536)],tU) z 0 1,true)::(decide ((65536:Int)=0),false)::rP (hu3 lo y x) q n' c'::rP (hu3 lo y x) p n c::Zqr 1 n n' k i):=by and_intros<;>kernel_rfl
theorem Zi8 (p q:Option Addr) (n c n' c' z:Nat) (k i:Int) (x y:List Value×TypeId) (lo:List Value) (g:Nat→Value):Zm (evC (Zp prog Zh Zo hcV) 100 false (Za5 f46) ([.slice p n c,.slice q n' c',undef,undef,Zn,sl 2 0 z grown,.int .u32 k,.int .i64 i]++tl 34 g,hu3 lo y x,ZwO 2++[cmp true,at_]) ⟨[],[],[]⟩) 8 34 none [.slice p n c,.slice q n' c',undef,undef,Zn,sl 4 0 (z+1) grown,.int .u32 (u32.wrap ((sm (Zu (hu3 lo y x) p n) (Zu (hu3 lo y x) q n') k i).tdiv 65536)),.int .i64 (i64.wrap (i+1))] ⟨5,[(lo++[.int .u32 ((sm (Zu (hu3 lo y x) p n) (Zu (hu3 lo y x) q n') k i).tmod 65536)],tU),([.int .u32 ((sm (Zu (hu3 lo y x) p n) (Zu (hu3 lo y x) q n') k i).tmod 65536)],tU),([],2*ZV),y,x]⟩ ((zQ tU (lo,tU) ([.int .u32 ((sm (Zu (hu3 lo y x) p n) (Zu (hu3 lo y x) q n') k i).tmod 65536)],tU) z 0 1,true)::(decide ((65536:Int)=0),false)::rP (hu3 lo y x) q n' c'::rP (hu3 lo y x) p n c::Zqr 2 n n' k i):=by and_intros<;>kernel_rfl
theorem Zos (p q:Option Addr) (n c n' c':Nat) (v:Value) (k i:Int) (h:Hp) (g:Nat→Value):Zm (evC (Zp prog Zh Zo hcV) 100 false (Za5 f46) ([.slice p n c,.slice q n' c',undef,undef,Zn,v,.int .u32 k,.int .i64 i]++tl 34 g,h,[cmp false,cmp false,cmp false]) ⟨[],[],[]⟩) 8 34 (some (some 0)) [.slice p n c,.slice q n' c',undef,undef,Zn,v,.int .u32 k,.int .i64 i] h [(decide (k>0),false),(decide (i<n'),false),(decide (i<n),false)]:=by and_intros<;>kernel_rfl
theorem Zot (a b:Value) (z:Nat) (k i:Int) (x y:List Value×TypeId) (lo:List Value) (g:Nat→Value):Zm (evC (Zp prog Zh Zo hcV) 100 false (Zu6 f46) ([a,b,undef,undef,Zn,sl 2 0 z grown,.int .u32 k,.int .i64 i]++tl 34 g,hu3 lo y x,[]) ⟨[],[],[]⟩) 5 37 (some none) [a,b,undef,undef,sl 2 0 (Z3 (zu lo 0 z)) (Z3 (zu lo 0 z))] (hu3 lo y x) [(ZaK tU lo 0 z grown,true)]:=by and_intros<;>kernel_rfl
theorem Zi9 (p q:Option Addr) (n c n' c':Nat) (h:Hp):Zm (evC (Zp prog Zh Zo hcV) 100 false (Zv f46) ([.slice p n c,.slice q n' c']++List.replicate 40 undef,h,[cmp false,cmp false,cmp false]) ⟨[],[],[]⟩) 5 37 (some none) [.slice p n c,.slice q n' c',undef,undef,Zn] h [(decide ((0:Int)>0),false),(decide ((0:Int)<n'),false),(decide ((0:Int)<n),false)]:=by and_intros<;>kernel_rfl
end Go.Proofs.YtekebccjflilnaaGreat
