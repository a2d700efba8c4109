/-
  ShN, ShM, ShG, ShO, ShP, PhA, PhE, PhF, ShA, RfN, RfD, RnA
-/
import Derived.Test.YtgefjidphfdhdaaGreatDoorG15
import Derived.Lib.Walk
import Derived.Lib.ItoaMem
import Derived.BigCall
import Derived.BigGuard
import Derived.Laws.Closers25b
namespace Go.Proofs.YtgefjidphfdhdaaGreatDoor
open Go.Proofs.Tryz
open Go.IntKind
open Go.KRun Go.Nt Go.Rd Go.Wd Go.Pt
set_option maxRecDepth 100000
set_option linter.unusedVariables false
theorem Z77 (m:Bool) (c e q:Int):Zs (Zf (Ze prog Zi Zea true) 200 115 [vP m c e q] []) (.int .i64 ((i64.wrap (i64.wrap (i64.wrap (e+((Go.bitLen q.toNat:Nat):Int))-1)*78913)).fdiv 262144)) [(false,false),(decide (0≤q∧q<18446744073709551616),true)]:=by and_intros<;>kernel_rfl
def ZnE (E q:Int):Bool:=decide (1≤q∧q<9007199254740992∧ -1074≤E∧E≤972)
def Z54:Ans:=fun vals s=>
 match vals with
 | [v]=>
  match vP4 v with
  | some (_,_,E,q)=>some (.int .i64 (lgS q.toNat E),s,[(ZnE E q,true)])
  | none=>none
 | _=>none
theorem Zxe:ZC 115 Z54:=by
 intro vals s v s' lg h hl w;unfold Z54 at h;split at h
 ·split at h
  ·rename_i o m c E q hv;rw[Zcq hv];cases h;obtain⟨h1,h2,h3,h4⟩:=Xc (hl _ Xf);have hb:bitLen q.toNat≤53:=Go.Rn.len_le (k:=53) (show q.toNat<9007199254740992 by omega);have f:=Z77 m c E q;rw[Zv (n:=E+((Go.bitLen q.toNat:Nat):Int)) (by omega) (by omega),Zv (n:=E+((Go.bitLen q.toNat:Nat):Int)-1) (by omega) (by omega),Zv (by omega) (by omega),Int.fdiv_eq_ediv_of_nonneg _ (by omega)] at f;exact Zb (Zd Zav) f (Za rfl (Zy (Xa (by omega)))) (by rfl) (by rfl) w
  ·cases h
 ·cases h
def ZaX:Con:=alt 115 Z54 Zn
theorem Zrl:ConOk ZaX:=Zr func115 rfl Zxe Zh
def ZfD:Hc:=zJ 117 Z5m (zJ 76 Na.ZlP (zJ 77 Na.ZlM hcN))
theorem Zxf:HcOk ZfD:=Zq func117 rfl ZwN (Zq func76 rfl Na.ZeX (Zq func77 rfl Na.ZeW zo))
theorem ZbF:TabOk (Zx prog Zi ZaX ZfD):=Z3 Zrl Zxf
def spT (e q:Int):Int:=i64.wrap (lgS q.toNat e-17)
def spN (e q:Int):Int:=i64.wrap (0-spT e q)
def spW (e:Int):Int:=i64.wrap (e-2)
def Ztm (e q:Int):Nat:=Na.pMi 10 (mx0 (spN e q))
def Ztn (e q:Int):Nat:=Na.pMi 10 (mx0 (i64.wrap (0-spN e q)))
def ZfE (e q:Int) (P:Nat):Nat:=Na.sM (t14 (Ztm e q) P) (mx0 (spW e))
def ZgA (e q:Int) (P':Nat):Nat:=Na.sM (t14 (Ztn e q) P') (mx0 (i64.wrap (0-spW e)))
def vSp (l h a:Int) (d:Bool) (t:Int):Value:= .agg #[.int .u64 l,.int .u64 h,.int .u64 a,.bool d,.int .i64 t]
def bSp (l h a:Int) (d:Bool) (t:Int):List Value×TypeId:=([.int .u64 l,.int .u64 h,.int .u64 a,.bool d,.int .i64 t],102)
def bPa (m:Bool) (c e q:Int):List Value×TypeId:=([.bool m,.int .i64 c,.int .i64 e,.int .u64 q],44)
def bSc (e q:Int) (P P' O U:Nat):List Value×TypeId:=([sl 6 0 (t14 (ZfE e q P) O) (ZfE e q P),sl 7 0 (t14 (ZgA e q P') U) (ZgA e q P')],168)
def Z55 (m:Bool) (c e q:Int) (P P':Nat):Hp:=⟨6,[r14 (Ztn e q) P',r14 (Ztm e q) P,([.slice none 0 0,.slice none 0 0],168),bSp 0 0 0 false (spT e q),bSp 0 0 0 false 0,bPa m c e q]⟩
def Z56 (m:Bool) (c e q:Int) (P P' O:Nat):Hp:=⟨7,[r14 (ZfE e q P) O,r14 (Ztn e q) P',r14 (Ztm e q) P,([.slice none 0 0,.slice none 0 0],168),bSp 0 0 0 false (spT e q),bSp 0 0 0 false 0,bPa m c e q]⟩
def Z1L (m:Bool) (c e q:Int) (P P' O U:Nat) (l a:Int) (d:Bool):Hp:=⟨9,[bSc e q P P' O U,r14 (ZgA e q P') U,r14 (ZfE e q P) O,r14 (Ztn e q) P',r14 (Ztm e q) P,bSc e q P P' O U,bSp l 0 a d (spT e q),bSp 0 0 0 false 0,bPa m c e q]⟩
def lTi (e q:Int) (P P' O U:Nat) (H:Hp) (x:Int) (V:Nat) (d:Bool) (l:Log):Log:=(Zo7 H (a14 6) (t14 (ZfE e q P) O) (ZfE e q P) O,true)::(Zo7 H (a14 7) (t14 (ZgA e q P') U) (ZgA e q P') U,true)::(decide (((x.toNat*O/U:Nat):Int)=(V:Int)),true)::(decide (x.toNat*O % U≠0),d)::(decide (1≤x∧x<18446744073709551616∧O≠0∧U≠0∧(4294967296:Int)≤(V:Int)∧(V:Int)<18446744073709551616),true)::l
def Z57 (m:Bool) (c e q:Int) (P P' O U:Nat) (cl:Bool) (l:Log):Log:=(q.tmod 2==0,cl)::(decide ((2:Int)=0),false)::Zn2 (Z56 m c e q P P' O) (a14 5) (t14 (Ztn e q) P') (Ztn e q) (mx0 (i64.wrap (0-spW e))) U (Zn2 (Z55 m c e q P P') (a14 4) (t14 (Ztm e q) P) (Ztm e q) (mx0 (spW e)) O (Zkb 10 (mx0 (i64.wrap (0-spN e q))) P' (Zkb 10 (mx0 (spN e q)) P ((ZnE e q,true)::l))))
def sp4 (q:Int):Int:=u64.wrap (4*q)
def Z58 (q:Int):Int:=u64.wrap (sp4 q+2)
def Zxg (pw:Bool) (q:Int):Int:=if pw=true then u64.wrap (sp4 q-1) else u64.wrap (sp4 q-2)
def lPo (e q:Int) (k:Nat):Log:=match k with | 0=>[(q==4503599627370496,false)] | 1=>[(decide (e> -1074),true),(q==4503599627370496,true)] | _=>[(decide (e> -1074),false),(q==4503599627370496,true)]
def ZaY (m:Bool) (c e q:Int) (P P' O U A L H:Nat) (d0:Bool) (k:Nat) (cl d1 d2:Bool) (L':Int):Log:=lTi e q P P' O U (Z1L m c e q P P' O U L' A d0) (Z58 q) H d2 (lTi e q P P' O U (Z1L m c e q P P' O U 0 A d0) (Zxg (Nat.beq k 1) q) L d1 (lTi e q P P' O U (Z1L m c e q P P' O U 0 0 false) (sp4 q) A d0 (Z57 m c e q P P' O U cl (lPo e q k))))
theorem ZnF (m:Bool) (c e q:Int) (P P' O U A L H:Nat) (d0:Bool):Zs (Zf (Zx prog Zi ZaX ZfD) 200 60 [vP m c e q] [cmp false,cmp false,cmp false,num P,cmp false,cmp false,num P',cmp false,cmp false,cmp false,num O,cmp false,cmp false,cmp false,num U,cmp false,cmp true,num O,num U,num A,cmp d0,num O,num U,num L,cmp true,num O,num U,num H,cmp true]) (vSp (u64.wrap (L+1)) (H:Int) A d0 (spT e q)) (ZaY m c e q P P' O U A L H d0 0 true true true (u64.wrap (L+1))):=by and_intros<;>kernel_rfl
theorem ZnG (m:Bool) (c e q:Int) (P P' O U A L H:Nat) (d0:Bool):Zs (Zf (Zx prog Zi ZaX ZfD) 200 60 [vP m c e q] [cmp false,cmp false,cmp false,num P,cmp false,cmp false,num P',cmp false,cmp false,cmp false,num O,cmp false,cmp false,cmp false,num U,cmp false,cmp true,num O,num U,num A,cmp d0,num O,num U,num L,cmp true,num O,num U,num H,cmp false]) (vSp (u64.wrap (L+1)) (H:Int) A d0 (spT e q)) (ZaY m c e q P P' O U A L H d0 0 true true false (u64.wrap (L+1))):=by and_intros<;>kernel_rfl
theorem ZnH (m:Bool) (c e q:Int) (P P' O U A L H:Nat) (d0:Bool):Zs (Zf (Zx prog Zi ZaX ZfD) 200 60 [vP m c e q] [cmp false,cmp false,cmp false,num P,cmp false,cmp false,num P',cmp false,cmp false,cmp false,num O,cmp false,cmp false,cmp false,num U,cmp false,cmp true,num O,num U,num A,cmp d0,num O,num U,num L,cmp false,num O,num U,num H,cmp true]) (vSp (L:Int) (H:Int) A d0 (spT e q)) (ZaY m c e q P P' O U A L H d0 0 true false true (L:Int)):=by and_intros<;>kernel_rfl
theorem ZnI (m:Bool) (c e q:Int) (P P' O U A L H:Nat) (d0:Bool):Zs (Zf (Zx prog Zi ZaX ZfD) 200 60 [vP m c e q] [cmp false,cmp false,cmp false,num P,cmp false,cmp false,num P',cmp false,cmp false,cmp false,num O,cmp false,cmp false,cmp false,num U,cmp false,cmp true,num O,num U,num A,cmp d0,num O,num U,num L,cmp false,num O,num U,num H,cmp false]) (vSp (L:Int) (H:Int) A d0 (spT e q)) (ZaY m c e q P P' O U A L H d0 0 true false false (L:Int)):=by and_intros<;>kernel_rfl
theorem ZnJ (m:Bool) (c e q:Int) (P P' O U A L H:Nat) (d0:Bool):Zs (Zf (Zx prog Zi ZaX ZfD) 200 60 [vP m c e q] [cmp false,cmp false,cmp false,num P,cmp false,cmp false,num P',cmp false,cmp false,cmp false,num O,cmp false,cmp false,cmp false,num U,cmp false,cmp false,num O,num U,num A,cmp d0,num O,num U,num L,cmp true,num O,num U,num H,cmp true]) (vSp (u64.wrap (L+1)) (H:Int) A d0 (spT e q)) (ZaY m c e q P P' O U A L H d0 0 false true true (u64.wrap (L+1))):=by and_intros<;>kernel_rfl
theorem ZnK (m:Bool) (c e q:Int) (P P' O U A L H:Nat) (d0:Bool):Zs (Zf (Zx prog Zi ZaX ZfD) 200 60 [vP m c e q] [cmp false,cmp false,cmp false,num P,cmp false,cmp false,num P',cmp false,cmp false,cmp false,num O,cmp false,cmp false,cmp false,num U,cmp false,cmp false,num O,num U,num A,cmp d0,num O,num U,num L,cmp true,num O,num U,num H,cmp false]) (vSp (u64.wrap (L+1)) (u64.wrap (H-1)) A d0 (spT e q)) (ZaY m c e q P P' O U A L H d0 0 false true false (u64.wrap (L+1))):=by and_intros<;>kernel_rfl
theorem ZnL (m:Bool) (c e q:Int) (P P' O U A L H:Nat) (d0:Bool):Zs (Zf (Zx prog Zi ZaX ZfD) 200 60 [vP m c e q] [cmp false,cmp false,cmp false,num P,cmp false,cmp false,num P',cmp false,cmp false,cmp false,num O,cmp false,cmp false,cmp false,num U,cmp false,cmp false,num O,num U,num A,cmp d0,num O,num U,num L,cmp false,num O,num U,num H,cmp true]) (vSp (u64.wrap (L+1)) (H:Int) A d0 (spT e q)) (ZaY m c e q P P' O U A L H d0 0 false false true (u64.wrap (L+1))):=by and_intros<;>kernel_rfl
theorem ZnM (m:Bool) (c e q:Int) (P P' O U A L H:Nat) (d0:Bool):Zs (Zf (Zx prog Zi ZaX ZfD) 200 60 [vP m c e q] [cmp false,cmp false,cmp false,num P,cmp false,cmp false,num P',cmp false,cmp false,cmp false,num O,cmp false,cmp false,cmp false,num U,cmp false,cmp false,num O,num U,num A,cmp d0,num O,num U,num L,cmp false,num O,num U,num H,cmp false]) (vSp (u64.wrap (L+1)) (u64.wrap (H-1)) A d0 (spT e q)) (ZaY m c e q P P' O U A L H d0 0 false false false (u64.wrap (L+1))):=by and_intros<;>kernel_rfl
theorem ZnN (m:Bool) (c e q:Int) (P P' O U A L H:Nat) (d0:Bool):Zs (Zf (Zx prog Zi ZaX ZfD) 200 60 [vP m c e q] [cmp true,cmp true,cmp false,cmp false,num P,cmp false,cmp false,num P',cmp false,cmp false,cmp false,num O,cmp false,cmp false,cmp false,num U,cmp false,cmp true,num O,num U,num A,cmp d0,num O,num U,num L,cmp true,num O,num U,num H,cmp true]) (vSp (u64.wrap (L+1)) (H:Int) A d0 (spT e q)) (ZaY m c e q P P' O U A L H d0 1 true true true (u64.wrap (L+1))):=by and_intros<;>kernel_rfl
theorem ZnO (m:Bool) (c e q:Int) (P P' O U A L H:Nat) (d0:Bool):Zs (Zf (Zx prog Zi ZaX ZfD) 200 60 [vP m c e q] [cmp true,cmp true,cmp false,cmp false,num P,cmp false,cmp false,num P',cmp false,cmp false,cmp false,num O,cmp false,cmp false,cmp false,num U,cmp false,cmp true,num O,num U,num A,cmp d0,num O,num U,num L,cmp true,num O,num U,num H,cmp false]) (vSp (u64.wrap (L+1)) (H:Int) A d0 (spT e q)) (ZaY m c e q P P' O U A L H d0 1 true true false (u64.wrap (L+1))):=by and_intros<;>kernel_rfl
theorem ZnP (m:Bool) (c e q:Int) (P P' O U A L H:Nat) (d0:Bool):Zs (Zf (Zx prog Zi ZaX ZfD) 200 60 [vP m c e q] [cmp true,cmp true,cmp false,cmp false,num P,cmp false,cmp false,num P',cmp false,cmp false,cmp false,num O,cmp false,cmp false,cmp false,num U,cmp false,cmp true,num O,num U,num A,cmp d0,num O,num U,num L,cmp false,num O,num U,num H,cmp true]) (vSp (L:Int) (H:Int) A d0 (spT e q)) (ZaY m c e q P P' O U A L H d0 1 true false true (L:Int)):=by and_intros<;>kernel_rfl
theorem ZnQ (m:Bool) (c e q:Int) (P P' O U A L H:Nat) (d0:Bool):Zs (Zf (Zx prog Zi ZaX ZfD) 200 60 [vP m c e q] [cmp true,cmp true,cmp false,cmp false,num P,cmp false,cmp false,num P',cmp false,cmp false,cmp false,num O,cmp false,cmp false,cmp false,num U,cmp false,cmp true,num O,num U,num A,cmp d0,num O,num U,num L,cmp false,num O,num U,num H,cmp false]) (vSp (L:Int) (H:Int) A d0 (spT e q)) (ZaY m c e q P P' O U A L H d0 1 true false false (L:Int)):=by and_intros<;>kernel_rfl
theorem ZnR (m:Bool) (c e q:Int) (P P' O U A L H:Nat) (d0:Bool):Zs (Zf (Zx prog Zi ZaX ZfD) 200 60 [vP m c e q] [cmp true,cmp false,cmp false,cmp false,num P,cmp false,cmp false,num P',cmp false,cmp false,cmp false,num O,cmp false,cmp false,cmp false,num U,cmp false,cmp true,num O,num U,num A,cmp d0,num O,num U,num L,cmp true,num O,num U,num H,cmp true]) (vSp (u64.wrap (L+1)) (H:Int) A d0 (spT e q)) (ZaY m c e q P P' O U A L H d0 2 true true true (u64.wrap (L+1))):=by and_intros<;>kernel_rfl
theorem ZnS (m:Bool) (c e q:Int) (P P' O U A L H:Nat) (d0:Bool):Zs (Zf (Zx prog Zi ZaX ZfD) 200 60 [vP m c e q] [cmp true,cmp false,cmp false,cmp false,num P,cmp false,cmp false,num P',cmp false,cmp false,cmp false,num O,cmp false,cmp false,cmp false,num U,cmp false,cmp true,num O,num U,num A,cmp d0,num O,num U,num L,cmp true,num O,num U,num H,cmp false]) (vSp (u64.wrap (L+1)) (H:Int) A d0 (spT e q)) (ZaY m c e q P P' O U A L H d0 2 true true false (u64.wrap (L+1))):=by and_intros<;>kernel_rfl
theorem ZnT (m:Bool) (c e q:Int) (P P' O U A L H:Nat) (d0:Bool):Zs (Zf (Zx prog Zi ZaX ZfD) 200 60 [vP m c e q] [cmp true,cmp false,cmp false,cmp false,num P,cmp false,cmp false,num P',cmp false,cmp false,cmp false,num O,cmp false,cmp false,cmp false,num U,cmp false,cmp true,num O,num U,num A,cmp d0,num O,num U,num L,cmp false,num O,num U,num H,cmp true]) (vSp (L:Int) (H:Int) A d0 (spT e q)) (ZaY m c e q P P' O U A L H d0 2 true false true (L:Int)):=by and_intros<;>kernel_rfl
theorem ZnU (m:Bool) (c e q:Int) (P P' O U A L H:Nat) (d0:Bool):Zs (Zf (Zx prog Zi ZaX ZfD) 200 60 [vP m c e q] [cmp true,cmp false,cmp false,cmp false,num P,cmp false,cmp false,num P',cmp false,cmp false,cmp false,num O,cmp false,cmp false,cmp false,num U,cmp false,cmp true,num O,num U,num A,cmp d0,num O,num U,num L,cmp false,num O,num U,num H,cmp false]) (vSp (L:Int) (H:Int) A d0 (spT e q)) (ZaY m c e q P P' O U A L H d0 2 true false false (L:Int)):=by and_intros<;>kernel_rfl
end Go.Proofs.YtgefjidphfdhdaaGreatDoor
namespace Go.Proofs.YtgefjidphfdhdaaGreatDoor
open Go.Proofs.Tryz
open Go.IntKind
open Go.KRun Go.Nt Go.Rd Go.Wd Go.Pt
set_option maxRecDepth 100000
def sAt (S:Nat) (E j:Int):Nat:=Z1 E j (4*S)
def sMo (S:Nat) (E j:Int):Bool:=Zam E j (4*S)
def sLo (S:Nat) (E j:Int):Nat:=Z1 E j (mdL S E)+(if Zam E j (mdL S E)=true∨S % 2=1 then 1 else 0)
def sHi (S:Nat) (E j:Int):Nat:=Z1 E j (mdH S)-(if Zam E j (mdH S)=false∧S % 2=1 then 1 else 0)
theorem Zto {S:Nat}{E:Int}(h0:S≠0) (hE: -1074≤E) (hE1:E≤972) (hS:S<9007199254740992):(100000000000000000*Zaz E (lgS S E-17)≤4*S*ovN E (lgS S E-17)∧4*S*ovN E (lgS S E-17)<10000000000000000000*Zaz E (lgS S E-17))∧ -400≤lgS S E-17∧lgS S E-17≤300:=by
 obtain⟨bd,h1,h2⟩:=Ztc h0 hE hE1 hS;obtain⟨j,hj⟩:∃ j,j=lgS S E-17:=⟨_,rfl⟩;have hb:=zP E (-j);have hu:=Zfw E j;have a:=ZdM (a:=1) 17 (by rw[Nat.one_mul];exact h1);have b:=Zft (a:=1) 19 (by rw[Nat.one_mul];exact h2);rw[show -(lgS S E)+((17:Nat):Int)= -j by omega,Nat.one_mul] at a;rw[show -(lgS S E+2)+((19:Nat):Int)= -j by omega,Nat.one_mul] at b;have e17:(10:Nat)^17=100000000000000000:=rfl;have e19:(10:Nat)^19=10000000000000000000:=rfl;rw[e17] at a;rw[e19] at b;have hc:=ZiW S E j;rw[← hj];refine⟨⟨?_,?_⟩,by omega,by omega⟩
 ·refine Nat.le_of_mul_le_mul_right (c:=pbN E (-j)) ?_ hb;rw[hc];have:=Nat.mul_le_mul_right (Zaz E j) a;have e:100000000000000000*Zaz E j*pbN E (-j)=100000000000000000*pbN E (-j)*Zaz E j:=by ac_rfl
  rw[e];exact this
 ·refine Nat.lt_of_mul_lt_mul_right (a:=pbN E (-j)) ?_;rw[hc];have:=Nat.mul_lt_mul_of_pos_right b hu;have e:10000000000000000000*Zaz E j*pbN E (-j)=10000000000000000000*pbN E (-j)*Zaz E j:=by ac_rfl
  rw[e];exact this
theorem Zxh {S:Nat}{E:Int}(h0:S≠0) (hE: -1074≤E) (hE1:E≤972) (hS:S<9007199254740992) {x:Nat}(h1:2*S≤x) (h2:x≤6*S):50000000000000000≤Z1 E (lgS S E-17) x∧Z1 E (lgS S E-17) x<15000000000000000000:=by
 obtain⟨⟨a,b⟩,_⟩:=Zto h0 hE hE1 hS;obtain⟨j,hj⟩:∃ j,j=lgS S E-17:=⟨_,rfl⟩;rw[← hj] at a b ⊢;have hu:=Zfw E j;unfold Z1;have m1:=Nat.mul_le_mul_right (ovN E j) h1;have m2:=Nat.mul_le_mul_right (ovN E j) h2;obtain⟨X,hX⟩:∃ X,X=S*ovN E j:=⟨_,rfl⟩;have e4:4*S*ovN E j=4*X:=by rw[hX,Nat.mul_assoc]
 have e2:2*S*ovN E j=2*X:=by rw[hX,Nat.mul_assoc]
 have e6:6*S*ovN E j=6*X:=by rw[hX,Nat.mul_assoc]
 rw[e4] at a b;rw[e2] at m1;rw[e6] at m2;obtain⟨Y,hY⟩:∃ Y,Y=x*ovN E j:=⟨_,rfl⟩;obtain⟨u,hu0⟩:∃ u,u=Zaz E j:=⟨_,rfl⟩;rw[← hY] at m1 m2 ⊢;rw[← hu0] at a b hu ⊢;exact⟨(Nat.le_div_iff_mul_le hu).2 (by omega),(Nat.div_lt_iff_lt_mul hu).2 (by omega)⟩
theorem Z1M {e q:Int}{P P' O U:Nat}{H:Hp}{x V:Nat}{d:Bool}(r1:Na.IsR H (a14 6) (t14 (ZfE e q P) O) (ZfE e q P) O) (r2:Na.IsR H (a14 7) (t14 (ZgA e q P') U) (ZgA e q P') U) (n1:t14 (ZfE e q P) O≤300) (n2:t14 (ZgA e q P') U≤300) (hO:O≠0) (hU:U≠0) (hx:1≤x∧x<18446744073709551616) (hV:x*O/U=V) (hb:4294967296≤V∧V<18446744073709551616) (hd:decide (x*O % U≠0)=d) {l:Log}(hl:Zo l):Zo (lTi e q P P' O U H (x:Nat) V d l):=by
 unfold lTi;rw[Xg];exact Za (Zn7 r1 n1) (Za (Zn7 r2 n2) (Za (Xa (by rw[hV])) (Za hd (Za (Xa ⟨by omega,by omega,hO,hU,by omega,by omega⟩) hl))))
theorem ZcV {z:Int}(h0:0≤z) (h1:z<18446744073709551616):u64.wrap z=z:=by
 simp [IntKind.wrap,IntKind.bits,IntKind.signed];omega
theorem Zrm (m:Bool) (c E:Int) (S:Nat) (h0:S≠0) (hS:S<9007199254740992) (hE: -1074≤E) (hE1:E≤972) (w:World):Calls prog 60 #[vP m c E S] w fun r w'=>r= .returned (vSp (sLo S E (lgS S E-17)) (sHi S E (lgS S E-17)) (sAt S E (lgS S E-17)) (sMo S E (lgS S E-17)) (lgS S E-17))∧zi w w':=by
 obtain⟨_,j1,j2⟩:=Zto h0 hE hE1 hS;have bA:=Zxh h0 hE hE1 hS (x:=4*S) (by omega) (by omega);have mL:2*S≤mdL S E∧mdL S E≤6*S:=by unfold mdL;split<;>omega
 have mH:2*S≤mdH S∧mdH S≤6*S:=by unfold mdH;omega
 have bL:=Zxh h0 hE hE1 hS (x:=mdL S E) mL.1 mL.2;have bH:=Zxh h0 hE hE1 hS (x:=mdH S) mH.1 mH.2;obtain⟨j,hj⟩:∃ j,j=lgS S E-17:=⟨_,rfl⟩;rw[← hj] at j1 j2 bA bL bH ⊢;have eT:spT E S=j:=by unfold spT;rw[Xg,← hj,Zv (by omega) (by omega)]
 obtain⟨a,ha⟩:∃ a,a=(-j).toNat:=⟨_,rfl⟩;obtain⟨b,hb⟩:∃ b,b=j.toNat:=⟨_,rfl⟩;obtain⟨k,hk⟩:∃ k,k=(E-2).toNat:=⟨_,rfl⟩;obtain⟨g,hg⟩:∃ g,g=(2-E).toNat:=⟨_,rfl⟩;have eN:mx0 (spN E S)=((a:Nat):Int):=by unfold spN;rw[eT,Zv (by omega) (by omega),ZcE];omega
 have eN':mx0 (i64.wrap (0-spN E S))=((b:Nat):Int):=by unfold spN;rw[eT,Zv (n:=0-j) (by omega) (by omega),Zv (by omega) (by omega),ZcE];omega
 have eW:mx0 (spW E)=((k:Nat):Int):=by unfold spW;rw[Zv (by omega) (by omega),ZcE,hk]
 have eW':mx0 (i64.wrap (0-spW E))=((g:Nat):Int):=by unfold spW;rw[Zv (n:=E-2) (by omega) (by omega),Zv (by omega) (by omega),ZcE];omega
 obtain⟨P,hP⟩:∃ P,P=10^a:=⟨_,rfl⟩;obtain⟨P',hP'⟩:∃ P',P'=10^b:=⟨_,rfl⟩;obtain⟨O,hO⟩:∃ O,O=P*2^k:=⟨_,rfl⟩;obtain⟨U,hU⟩:∃ U,U=P'*2^g:=⟨_,rfl⟩;have eO:ovN E j=O:=by unfold ovN;rw[hO,hP,← ha,← hk,Nat.mul_comm]
 have eU:Zaz E j=U:=by unfold Zaz;rw[hU,hP',← hb,← hg,Nat.mul_comm]
 have P0:P≠0:=by rw[hP];exact zF a
 have P0':P'≠0:=by rw[hP'];exact zF b
 have O0:O≠0:=by rw[hO];exact Zah P0 (fun c=>by have:=Nat.pow_pos (n:=k) (show 0<2 by omega);omega)
 have U0:U≠0:=by rw[hU];exact Zah P0' (fun c=>by have:=Nat.pow_pos (n:=g) (show 0<2 by omega);omega)
 have cP:Ztm E S=Na.pMi 10 ((a:Nat):Int):=by unfold Ztm;rw[eN]
 have cQ:Ztn E S=Na.pMi 10 ((b:Nat):Int):=by unfold Ztn;rw[eN']
 obtain⟨rP,lP⟩:=ZwJ (H:=Z55 m c E S P P') (i:=4) (b:=10) (k:=a) (.inl rfl) (by omega) (by rw[← hP];unfold Z55;rw[cP];rfl);obtain⟨rQ,lQ⟩:=ZwJ (H:=Z56 m c E S P P' O) (i:=5) (b:=10) (k:=b) (.inl rfl) (by omega) (by rw[← hP'];unfold Z56;rw[cQ];rfl);rw[← hP] at rP lP;rw[← hP'] at rQ lQ;have tP:t14 (Na.pMi 10 ((a:Nat):Int)) P=(Na.d32 P).length:=rP.2.2.2.1;have tQ:t14 (Na.pMi 10 ((b:Nat):Int)) P'=(Na.d32 P').length:=rQ.2.2.2.1;have cO:ZfE E S P=k/32+((Na.d32 P).length+1):=by unfold ZfE;rw[cP,eW,tP,Zyo]
 have cU:ZgA E S P'=g/32+((Na.d32 P').length+1):=by unfold ZgA;rw[cQ,eW',tQ,Zyo]
 have hOl:O<4294967296^ZfE E S P:=by
  have:=ZwK (k:=k) (Na.Zal P);rw[Zyo,← hO] at this;rw[cO];exact this
 have hUl:U<4294967296^ZgA E S P':=by
  have:=ZwK (k:=g) (Na.Zal P');rw[Zyo,← hU] at this;rw[cU];exact this
 have tO:t14 (ZfE E S P) O≤300:=by
  have:=za (dg (ZfE E S P) (O:Int));rw[ZB] at this;unfold t14;omega
 have tU':t14 (ZgA E S P') U≤300:=by
  have:=za (dg (ZgA E S P') (U:Int));rw[ZB] at this;unfold t14;omega
 have rO:∀ l a d,Na.IsR (Z1L m c E S P P' O U l a d) (a14 6) (t14 (ZfE E S P) O) (ZfE E S P) O:=fun l a d=>Na.Zex rfl hOl (by omega);have rU:∀ l a d,Na.IsR (Z1L m c E S P P' O U l a d) (a14 7) (t14 (ZgA E S P') U) (ZgA E S P') U:=fun l a d=>Na.Zex rfl hUl (by omega);have e4:sp4 S=((4*S:Nat):Int):=by unfold sp4;rw[ZcV (by omega) (by omega)];omega
 have eHi:Z58 S=((mdH S:Nat):Int):=by unfold Z58 mdH;rw[e4,ZcV (by omega) (by omega)];omega
 have okF14':ZnE E S=true:=Xa (by omega);have key:∀ (i:Nat) (L':Int),Zo (lPo E S i)→Zxg (Nat.beq i 1) S=((mdL S E:Nat):Int)→Zo (ZaY m c E S P P' O U (Z1 E j (4*S)) (Z1 E j (mdL S E)) (Z1 E j (mdH S)) (sMo S E j) i (decide (S % 2=0)) (Zam E j (mdL S E)) (Zam E j (mdH S)) L'):=by
  intro i L' hi hlo;unfold ZaY;rw[e4,eHi,hlo];have pre:Zo (Z57 m c E S P P' O U (decide (S % 2=0)) (lPo E S i)):=by
   unfold Z57;refine Za ?_ (Za rfl ?_)
   ·rw[Int.tmod_eq_emod_of_nonneg (by omega)];have:((((S:Nat):Int) % 2==0):Bool)=decide (((S:Nat):Int) % 2=0):=rfl;rw[this];exact decide_eq_decide.2 (by omega)
   ·rw[eW',eW,eN',eN,cP,cQ];have l1:=Zf2 (b:=10) (k:=a) (.inl rfl) (by omega) (Za okF14' hi);have l2:=Zf2 (b:=10) (k:=b) (.inl rfl) (by omega) l1;rw[← hP,← hP'] at l2;have l3:=Zf3 rP P0 (k:=k) (by omega) l2;rw[← hO] at l3;have l4:=Zf3 rQ P0' (k:=g) (by omega) l3;rw[← hU] at l4;exact l4
  have mk:∀ (x:Nat) (H:Hp) (l:Log),Na.IsR H (a14 6) (t14 (ZfE E S P) O) (ZfE E S P) O→Na.IsR H (a14 7) (t14 (ZgA E S P') U) (ZgA E S P') U→2*S≤x→x≤6*S→50000000000000000≤Z1 E j x∧Z1 E j x<15000000000000000000→Zo l→Zo (lTi E S P P' O U H (x:Nat) (Z1 E j x) (Zam E j x) l):=by
   intro x H l r1 r2 x1 x2 hb hl;refine Z1M r1 r2 tO tU' O0 U0 (by omega) ?_ (by omega) ?_ hl
   ·unfold Z1;rw[eO,eU]
   ·unfold Zam;rw[eO,eU]
  exact mk _ _ _ (rO _ _ _) (rU _ _ _) mH.1 mH.2 bH (mk _ _ _ (rO _ _ _) (rU _ _ _) mL.1 mL.2 bL (mk _ _ _ (rO _ _ _) (rU _ _ _) (by omega) (by omega) bA pre))
 have wL:u64.wrap (((Z1 E j (mdL S E):Nat):Int)+1)=((Z1 E j (mdL S E)+1:Nat):Int):=by rw[ZcV (by omega) (by omega)];omega
 have wH:u64.wrap (((Z1 E j (mdH S):Nat):Int)-1)=((Z1 E j (mdH S)-1:Nat):Int):=by rw[ZcV (by omega) (by omega)];omega
 have lo0:¬ (S=4503599627370496∧ -1074<E)→∀ i,Nat.beq i 1=false→Zxg (Nat.beq i 1) S=((mdL S E:Nat):Int):=by
  intro hn i hi;rw[hi];unfold Zxg mdL;rw[if_neg (by decide),if_neg hn,e4,ZcV (by omega) (by omega)];omega
 unfold sLo sHi sAt;by_cases h52:S=4503599627370496
 ·have hev:S % 2=0:=by omega
  have hp:decide (S % 2=0)=true:=Xa hev;by_cases hEl: -1074<E
  ·have hi:Zo (lPo E S 1):=Za (Xa (by omega)) (Zy (zH (by omega)));have hlo:Zxg (Nat.beq 1 1) S=((mdL S E:Nat):Int):=by
    show Zxg true S=_;unfold Zxg mdL;rw[if_pos rfl,if_pos ⟨h52,hEl⟩,e4,ZcV (by omega) (by omega)];omega
   cases hd1:Zam E j (mdL S E) with
   | true=>
    cases hd2:Zam E j (mdH S) with
    | true=>
     have f:=ZnN m c E S P P' O U (Z1 E j (4*S)) (Z1 E j (mdL S E)) (Z1 E j (mdH S)) (sMo S E j);have lg:=key 1 (u64.wrap (((Z1 E j (mdL S E):Nat):Int)+1)) hi hlo;rw[hd1,hd2,hp] at lg;rw[wL,eT] at f;rw[wL] at lg;rw[if_pos (.inl rfl),if_neg (fun h=>by cases h.1)];exact Zb ZbF f lg (by rfl) (by rfl) w
    | false=>
     have f:=ZnO m c E S P P' O U (Z1 E j (4*S)) (Z1 E j (mdL S E)) (Z1 E j (mdH S)) (sMo S E j);have lg:=key 1 (u64.wrap (((Z1 E j (mdL S E):Nat):Int)+1)) hi hlo;rw[hd1,hd2,hp] at lg;rw[wL,eT] at f;rw[wL] at lg;rw[if_pos (.inl rfl),if_neg (fun h=>by omega)];exact Zb ZbF f lg (by rfl) (by rfl) w
   | false=>
    cases hd2:Zam E j (mdH S) with
    | true=>
     have f:=ZnP m c E S P P' O U (Z1 E j (4*S)) (Z1 E j (mdL S E)) (Z1 E j (mdH S)) (sMo S E j);have lg:=key 1 (((Z1 E j (mdL S E):Nat):Int)) hi hlo;rw[hd1,hd2,hp] at lg;rw[eT] at f;rw[if_neg (fun h=>h.elim (fun h=>by cases h) (fun h=>by omega)),if_neg (fun h=>by cases h.1)];exact Zb ZbF f lg (by rfl) (by rfl) w
    | false=>
     have f:=ZnQ m c E S P P' O U (Z1 E j (4*S)) (Z1 E j (mdL S E)) (Z1 E j (mdH S)) (sMo S E j);have lg:=key 1 (((Z1 E j (mdL S E):Nat):Int)) hi hlo;rw[hd1,hd2,hp] at lg;rw[eT] at f;rw[if_neg (fun h=>h.elim (fun h=>by cases h) (fun h=>by omega)),if_neg (fun h=>by omega)];exact Zb ZbF f lg (by rfl) (by rfl) w
  ·have hi:Zo (lPo E S 2):=Za (Xb (by omega)) (Zy (zH (by omega)));have hlo:=lo0 (fun h=>hEl h.2) 2 rfl;cases hd1:Zam E j (mdL S E) with
   | true=>
    cases hd2:Zam E j (mdH S) with
    | true=>
     have f:=ZnR m c E S P P' O U (Z1 E j (4*S)) (Z1 E j (mdL S E)) (Z1 E j (mdH S)) (sMo S E j);have lg:=key 2 (u64.wrap (((Z1 E j (mdL S E):Nat):Int)+1)) hi hlo;rw[hd1,hd2,hp] at lg;rw[wL,eT] at f;rw[wL] at lg;rw[if_pos (.inl rfl),if_neg (fun h=>by cases h.1)];exact Zb ZbF f lg (by rfl) (by rfl) w
    | false=>
     have f:=ZnS m c E S P P' O U (Z1 E j (4*S)) (Z1 E j (mdL S E)) (Z1 E j (mdH S)) (sMo S E j);have lg:=key 2 (u64.wrap (((Z1 E j (mdL S E):Nat):Int)+1)) hi hlo;rw[hd1,hd2,hp] at lg;rw[wL,eT] at f;rw[wL] at lg;rw[if_pos (.inl rfl),if_neg (fun h=>by omega)];exact Zb ZbF f lg (by rfl) (by rfl) w
   | false=>
    cases hd2:Zam E j (mdH S) with
    | true=>
     have f:=ZnT m c E S P P' O U (Z1 E j (4*S)) (Z1 E j (mdL S E)) (Z1 E j (mdH S)) (sMo S E j);have lg:=key 2 (((Z1 E j (mdL S E):Nat):Int)) hi hlo;rw[hd1,hd2,hp] at lg;rw[eT] at f;rw[if_neg (fun h=>h.elim (fun h=>by cases h) (fun h=>by omega)),if_neg (fun h=>by cases h.1)];exact Zb ZbF f lg (by rfl) (by rfl) w
    | false=>
     have f:=ZnU m c E S P P' O U (Z1 E j (4*S)) (Z1 E j (mdL S E)) (Z1 E j (mdH S)) (sMo S E j);have lg:=key 2 (((Z1 E j (mdL S E):Nat):Int)) hi hlo;rw[hd1,hd2,hp] at lg;rw[eT] at f;rw[if_neg (fun h=>h.elim (fun h=>by cases h) (fun h=>by omega)),if_neg (fun h=>by omega)];exact Zb ZbF f lg (by rfl) (by rfl) w
 ·have hi:Zo (lPo E S 0):=Zy (zO (by omega));have hlo:=lo0 (fun h=>h52 h.1) 0 rfl;by_cases hev:S % 2=0
  ·have hp:decide (S % 2=0)=true:=Xa hev;cases hd1:Zam E j (mdL S E) with
   | true=>
    cases hd2:Zam E j (mdH S) with
    | true=>
     have f:=ZnF m c E S P P' O U (Z1 E j (4*S)) (Z1 E j (mdL S E)) (Z1 E j (mdH S)) (sMo S E j);have lg:=key 0 (u64.wrap (((Z1 E j (mdL S E):Nat):Int)+1)) hi hlo;rw[hd1,hd2,hp] at lg;rw[wL,eT] at f;rw[wL] at lg;rw[if_pos (.inl rfl),if_neg (fun h=>by cases h.1)];exact Zb ZbF f lg (by rfl) (by rfl) w
    | false=>
     have f:=ZnG m c E S P P' O U (Z1 E j (4*S)) (Z1 E j (mdL S E)) (Z1 E j (mdH S)) (sMo S E j);have lg:=key 0 (u64.wrap (((Z1 E j (mdL S E):Nat):Int)+1)) hi hlo;rw[hd1,hd2,hp] at lg;rw[wL,eT] at f;rw[wL] at lg;rw[if_pos (.inl rfl),if_neg (fun h=>by omega)];exact Zb ZbF f lg (by rfl) (by rfl) w
   | false=>
    cases hd2:Zam E j (mdH S) with
    | true=>
     have f:=ZnH m c E S P P' O U (Z1 E j (4*S)) (Z1 E j (mdL S E)) (Z1 E j (mdH S)) (sMo S E j);have lg:=key 0 (((Z1 E j (mdL S E):Nat):Int)) hi hlo;rw[hd1,hd2,hp] at lg;rw[eT] at f;rw[if_neg (fun h=>h.elim (fun h=>by cases h) (fun h=>by omega)),if_neg (fun h=>by cases h.1)];exact Zb ZbF f lg (by rfl) (by rfl) w
    | false=>
     have f:=ZnI m c E S P P' O U (Z1 E j (4*S)) (Z1 E j (mdL S E)) (Z1 E j (mdH S)) (sMo S E j);have lg:=key 0 (((Z1 E j (mdL S E):Nat):Int)) hi hlo;rw[hd1,hd2,hp] at lg;rw[eT] at f;rw[if_neg (fun h=>h.elim (fun h=>by cases h) (fun h=>by omega)),if_neg (fun h=>by omega)];exact Zb ZbF f lg (by rfl) (by rfl) w
  ·have hp:decide (S % 2=0)=false:=Xb hev;have hodd:S % 2=1:=by omega
   cases hd1:Zam E j (mdL S E) with
   | true=>
    cases hd2:Zam E j (mdH S) with
    | true=>
     have f:=ZnJ m c E S P P' O U (Z1 E j (4*S)) (Z1 E j (mdL S E)) (Z1 E j (mdH S)) (sMo S E j);have lg:=key 0 (u64.wrap (((Z1 E j (mdL S E):Nat):Int)+1)) hi hlo;rw[hd1,hd2,hp] at lg;rw[wL,eT] at f;rw[wL] at lg;rw[if_pos (.inl rfl),if_neg (fun h=>by cases h.1)];exact Zb ZbF f lg (by rfl) (by rfl) w
    | false=>
     have f:=ZnK m c E S P P' O U (Z1 E j (4*S)) (Z1 E j (mdL S E)) (Z1 E j (mdH S)) (sMo S E j);have lg:=key 0 (u64.wrap (((Z1 E j (mdL S E):Nat):Int)+1)) hi hlo;rw[hd1,hd2,hp] at lg;rw[wL,wH,eT] at f;rw[wL] at lg;rw[if_pos (.inl rfl),if_pos ⟨rfl,hodd⟩];exact Zb ZbF f lg (by rfl) (by rfl) w
   | false=>
    cases hd2:Zam E j (mdH S) with
    | true=>
     have f:=ZnL m c E S P P' O U (Z1 E j (4*S)) (Z1 E j (mdL S E)) (Z1 E j (mdH S)) (sMo S E j);have lg:=key 0 (u64.wrap (((Z1 E j (mdL S E):Nat):Int)+1)) hi hlo;rw[hd1,hd2,hp] at lg;rw[wL,eT] at f;rw[wL] at lg;rw[if_pos (.inr hodd),if_neg (fun h=>by cases h.1)];exact Zb ZbF f lg (by rfl) (by rfl) w
    | false=>
     have f:=ZnM m c E S P P' O U (Z1 E j (4*S)) (Z1 E j (mdL S E)) (Z1 E j (mdH S)) (sMo S E j);have lg:=key 0 (u64.wrap (((Z1 E j (mdL S E):Nat):Int)+1)) hi hlo;rw[hd1,hd2,hp] at lg;rw[wL,wH,eT] at f;rw[wL] at lg;rw[if_pos (.inr hodd),if_pos ⟨rfl,hodd⟩];exact Zb ZbF f lg (by rfl) (by rfl) w
def Z59:Ans:=fun vals s=>
 match vals with
 | [v]=>
  match vP4 v with
  | some (_,_,E,q)=>some (vSp (sLo q.toNat E (lgS q.toNat E-17)) (sHi q.toNat E (lgS q.toNat E-17)) (sAt q.toNat E (lgS q.toNat E-17)) (sMo q.toNat E (lgS q.toNat E-17)) (lgS q.toNat E-17),s,[(ZnE E q,true)])
  | none=>none
 | _=>none
theorem Zxi:ZC 60 Z59:=by
 intro vals s v s' lg h hl w;unfold Z59 at h;split at h
 ·split at h
  ·rename_i o m c E q hv;rw[Zcq hv];cases h;obtain⟨h1,h2,h3,h4⟩:=Xc (hl _ Xf);obtain⟨k,rfl⟩:∃ k:Nat,q=k:=⟨q.toNat,by omega⟩;exact Zrm m c E k (by omega) (by omega) h3 h4 w
  ·cases h
 ·cases h
end Go.Proofs.YtgefjidphfdhdaaGreatDoor
namespace Go.Proofs.YtgefjidphfdhdaaGreatDoor
open Go.Proofs.Tryz
open Go.KRun Go.Rd Go.RowKit Go.Sort Go.Lib Go.Shelf
set_option maxRecDepth 100000
theorem ZhF (w:World) (T:TypeId) (nd:Nat) (hs:nd≤24):Holds (fun (b:UInt8)=>Value.int .u8 (b.toNat:Int)) (w.alloc (.cells zeros24 T)) w.heap.size 0 (Array.replicate nd (0:UInt8)):=fun j hj=>by
 have hj':j<nd:=by simpa using hj
 refine⟨?_,World.frozen?_alloc_new _ _ _ _⟩;rw[World.cell?_alloc_new,zeros24_at _ (by omega),getElem!_pos _ j hj];simp
theorem Zrn (w:World) (o:Obj) (dk:Array UInt8) (k:Nat):∃ os,(putRow (fun (b:UInt8)=>Value.int .u8 (b.toNat:Int)) (w.alloc o) w.heap.size 0 dk).drewN k=grow (w.drewN k) os:=by
 rw[alloc_eq_grow];obtain⟨os',_,e⟩:=putRow_grow_new (fun (b:UInt8)=>Value.int .u8 (b.toNat:Int)) w #[o] w.heap.size 0 dk (Nat.le_refl _);exact⟨os',by rw[e];rfl⟩
set_option maxHeartbeats 6400000 in
theorem ZnV (u:Nat) (h100:100≤u) (hu64:u<18446744073709551616) (w:World) (hk:knT w):Calls prog 162 #[.int .u64 u,.int .i64 10] w fun e w'=>e= .returned (.string ⟨(Lib.decDigits u).toArray⟩)∧∃ k os,w'=grow (w.drewN k) os:=by
 have hu1:1≤u:=by omega
 have hnd20:Lib.nDigits u≤20:=by have:=Lib.numDigits_eq u hu1 hu64;split at this<;>omega
 have hal:prog.arrayLen 239=24:=by kernel_rfl
 have hsl1:∀ W,(Instr.sliceAt 239 (.pointer (some ⟨w.heap.size,0,none⟩)) none (some (.int .i64 (Lib.nDigits u:Int))) none).run prog W= .ok (.slice (some ⟨w.heap.size,0,none⟩) (Lib.nDigits u) 24) W:=fun W=>by
  rw[run_sliceAt_array_h W 239 ⟨w.heap.size,0,none⟩ (by kernel_rfl) .i64 (Lib.nDigits u:Int) (by omega) (by rw[hal];omega)];rw[hal];rfl
 have hH0:=ZhF w 239 (Lib.nDigits u) (by omega);have hfmt:Calls prog 180 #[.slice (some ⟨w.heap.size,0,none⟩) (Array.replicate (Lib.nDigits u) (0:UInt8)).size 24,.int .u64 u] (w.alloc (.cells Lib.zeros24 239)) fun e w'=>e= .returned (.tuple #[])∧∃ (n v':Nat) (dk:Array UInt8),w'=(putRow (fun (b:UInt8)=>Value.int .u8 (b.toNat:Int)) (w.alloc (.cells Lib.zeros24 239)) w.heap.size 0 dk).drewN n∧FmtInv (Array.replicate (Lib.nDigits u) (0:UInt8)).size u 0 v' dk:=Any.internal_strconv_formatBase10 {Zfq with} w.heap.size 0 24 u (Array.replicate (Lib.nDigits u) 0) _ hH0 (by rw[Array.size_replicate];exact Lib.lt_pow_nDigits u) hu64 (by rw[Array.size_replicate];omega);rw[Array.size_replicate] at hfmt;have htab:knT (w.alloc (.cells Lib.zeros24 239)):=by
  obtain⟨t,z,h⟩:=hk;refine⟨t,z,?_⟩;rw[zK _ _ _ (Nat.ne_of_lt (Array.getElem?_eq_some_iff.1 h).1),h]
 have hnum:Calls prog 179 #[.int .u64 u] (w.alloc (.cells Lib.zeros24 239)) fun e w'=>e= .returned (.int .i64 (Lib.nDigits u:Nat))∧w'=w.alloc (.cells Lib.zeros24 239):=Any.internal_strconv_numDigits {Zfq with} u hu1 hu64 _ (ZiX htab (by kernel_rfl));have HH0:=Lib.hid hH0;have hlt:¬ (u:Int)<100:=by omega
 clear hH0 hal
 go_enter func162,ntmps162
 go_wp2_with (go_at_call 179;refine hnum.mono ?_;rintro e w' ⟨rfl,rfl⟩)
 go_at_call 180
 refine hfmt.mono ?_;rintro e w' ⟨rfl,k,v',dk,rfl,hF⟩;have hcv:(convert 142 9 (.slice (some ⟨w.heap.size,0,none⟩) (Lib.nDigits u) 24)).run prog ((putRow (fun (b:UInt8)=>Value.int .u8 (b.toNat:Int)) (w.alloc (.cells Lib.zeros24 239)) w.heap.size 0 dk).drewN k)= .ok (.string ⟨(Lib.decDigits u).toArray⟩) ((putRow (fun (b:UInt8)=>Value.int .u8 (b.toNat:Int)) (w.alloc (.cells Lib.zeros24 239)) w.heap.size 0 dk).drewN k):=by
  have h:=run_convert_bytes_back (P:=prog) ((putRow (fun (b:UInt8)=>Value.int .u8 (b.toNat:Int)) (w.alloc (.cells Lib.zeros24 239)) w.heap.size 0 dk).drewN k) 142 9 5 ⟨w.heap.size,0,none⟩ 24 (Lib.decDigits u) underlying142 underlying5 underlying9 (fun j hj=>by
   rw[Lib.row_is_numeral hF j hj,Lib.add_plain,World.cell?_drewN];exact cell?_putRow (fun (b:UInt8)=>Value.int .u8 (b.toNat:Int)) _ w.heap.size 0 _ dk HH0.out (by rw[hF.size,Array.size_replicate]) j (by rw[hF.size];rw[Lib.decDigits_length] at hj;exact hj))
  rw[Lib.decDigits_length] at h;exact h
 go_wp2
 go_ret
 obtain⟨os,eo⟩:=Zrn w (.cells Lib.zeros24 239) dk k;exact⟨rfl,k,os,eo⟩
set_option maxHeartbeats 6400000 in
theorem Zro (u:Nat) (h100:100≤u) (hu64:u<18446744073709551616) (w:World) (hk:knT w):Calls prog 118 #[.int .u64 u,.int .i64 10] w fun e w'=>e= .returned (bR (dcL u))∧zi w w':=by
 have h:=ZnV u h100 hu64 w hk;rw[Zh6 hu64] at h
 go_enter func118,ntmps118
 go_wp2_with (go_at_call 162;refine h.mono ?_;rintro e w' ⟨rfl,k,os,rfl⟩)
 go_ret
 exact⟨rfl,ZcC (ZcT w k os)⟩
def Z5A:Ans:=fun vals s=>
 match vals with
 | [.int .u64 n,.int .i64 b]=>some (bR (dcL n.toNat),s,[(decide (100≤n∧n<18446744073709551616∧b=10),true)])
 | _=>none
theorem Zxj:ZbJ 118 Z5A:=by
 intro vals s v s' lg h hl w hk;unfold Z5A at h;split at h
 ·cases h;obtain⟨h1,h2,h3⟩:=Xc (hl _ Xf);rename_i n b;obtain⟨u,rfl⟩:∃ u:Nat,n=u:=⟨n.toNat,by omega⟩;subst h3;exact Zro u (by omega) (by omega) w hk
 ·cases h
end Go.Proofs.YtgefjidphfdhdaaGreatDoor
namespace Go.Proofs.YtgefjidphfdhdaaGreatDoor
open Go.Proofs.Tryz
open Go.IntKind
open Go.KRun Go.Nt Go.Rd Go.Wd Go.Pt
set_option maxRecDepth 100000
set_option linter.unusedVariables false
def Z1N:Value→Option (Int×Int×Int×Bool×Int)
 | .agg cs=>
  match cs.toList with
  | [.int .u64 l,.int .u64 h,.int .u64 a,.bool d,.int .i64 t]=>some (l,h,a,d,t)
  | _=>none
 | _=>none
theorem ZgB {v:Value}{l h a:Int}{d:Bool}{t:Int}(hv:Z1N v=some (l,h,a,d,t)):v=vSp l h a d t:=by
 unfold Z1N at hv;split at hv
 ·rename_i cs;split at hv
  ·rename_i hc;cases hv;obtain⟨l⟩:=cs;simp only at hc;subst hc;rfl
  ·cases hv
 ·cases hv
theorem Z1O (l h a t u q:Int) (d:Bool):Zs (Zf (Ze prog Zi Zn true) 200 61 [vSp l h a d t,.int .u64 u] [num q,cmp false,cmp true]) (.tuple #[.int .u64 (u64.wrap (u64.wrap (q+1)*u)),.int .u64 (u64.wrap (q*u))]) [(decide (a.tmod u>u64.wrap (u.tdiv 2)),true),(decide (u=0),false),(decide (u=0),false),(decide (u64.wrap (a.tdiv u)=q),true)]:=by and_intros<;>kernel_rfl
theorem Z1P (l h a t u q:Int):Zs (Zf (Ze prog Zi Zn true) 200 61 [vSp l h a true t,.int .u64 u] [num q,cmp false,cmp false,cmp true]) (.tuple #[.int .u64 (u64.wrap (u64.wrap (q+1)*u)),.int .u64 (u64.wrap (q*u))]) [(a.tmod u==u64.wrap (u.tdiv 2),true),(decide (a.tmod u>u64.wrap (u.tdiv 2)),false),(decide (u=0),false),(decide (u=0),false),(decide (u64.wrap (a.tdiv u)=q),true)]:=by and_intros<;>kernel_rfl
theorem Z1Q (l h a t u q:Int):Zs (Zf (Ze prog Zi Zn true) 200 61 [vSp l h a false t,.int .u64 u] [num q,cmp false,cmp false,cmp true,cmp false,cmp true]) (.tuple #[.int .u64 (u64.wrap (u64.wrap (q+1)*u)),.int .u64 (u64.wrap (q*u))]) [(q.tmod 2==1,true),(decide ((2:Int)=0),false),(a.tmod u==u64.wrap (u.tdiv 2),true),(decide (a.tmod u>u64.wrap (u.tdiv 2)),false),(decide (u=0),false),(decide (u=0),false),(decide (u64.wrap (a.tdiv u)=q),true)]:=by and_intros<;>kernel_rfl
theorem Z1R (l h a t u q:Int):Zs (Zf (Ze prog Zi Zn true) 200 61 [vSp l h a false t,.int .u64 u] [num q,cmp false,cmp false,cmp true,cmp false,cmp false]) (.tuple #[.int .u64 (u64.wrap (q*u)),.int .u64 (u64.wrap (u64.wrap (q+1)*u))]) [(q.tmod 2==1,false),(decide ((2:Int)=0),false),(a.tmod u==u64.wrap (u.tdiv 2),true),(decide (a.tmod u>u64.wrap (u.tdiv 2)),false),(decide (u=0),false),(decide (u=0),false),(decide (u64.wrap (a.tdiv u)=q),true)]:=by and_intros<;>kernel_rfl
theorem Z1S (l h a t u q:Int) (d:Bool):Zs (Zf (Ze prog Zi Zn true) 200 61 [vSp l h a d t,.int .u64 u] [num q,cmp false,cmp false,cmp false]) (.tuple #[.int .u64 (u64.wrap (q*u)),.int .u64 (u64.wrap (u64.wrap (q+1)*u))]) [(a.tmod u==u64.wrap (u.tdiv 2),false),(decide (a.tmod u>u64.wrap (u.tdiv 2)),false),(decide (u=0),false),(decide (u=0),false),(decide (u64.wrap (a.tdiv u)=q),true)]:=by and_intros<;>kernel_rfl
def Zyq (a u:Nat):Bool:=decide (2≤u∧(a/u+1)*u<18446744073709551616)
def arV (d:Bool) (a u:Nat):Value:=if d=true then .tuple #[.int .u64 (((a/u+1)*u:Nat):Int),.int .u64 ((a/u*u:Nat):Int)] else .tuple #[.int .u64 ((a/u*u:Nat):Int),.int .u64 (((a/u+1)*u:Nat):Int)]
theorem Zrp (l h t:Int) (d:Bool) (a u:Nat) (hk:Zyq a u=true) (w:World):Calls prog 61 #[vSp l h a d t,.int .u64 u] w fun e w'=>e= .returned (arV (nrU a d u) a u)∧zi w w':=by
 have hT:=Zd Zh;obtain⟨h1,h2⟩:=Xc hk;have hdm:=Nat.div_add_mod a u;have hm:=Nat.mod_lt a (show 0<u by omega);have e1:((a:Nat):Int).tdiv ((u:Nat):Int)=((a/u:Nat):Int):=by rw[Int.tdiv_eq_ediv_of_nonneg (by omega)];exact (Int.natCast_ediv a u).symm
 have e2:((a:Nat):Int).tmod ((u:Nat):Int)=((a % u:Nat):Int):=by rw[Int.tmod_eq_emod_of_nonneg (by omega)];exact (Int.natCast_emod a u).symm
 obtain⟨q,hq⟩:∃ q,q=a/u:=⟨_,rfl⟩;have hqu:(q+1)*u=q*u+u:=by rw[Nat.add_mul,Nat.one_mul]
 rw[← hq] at h2 hdm e1;rw[Nat.mul_comm] at hdm;have q2:q≤q*u:=Nat.le_mul_of_pos_right _ (by omega);have e3:u64.wrap (((u:Nat):Int).tdiv 2)=((u/2:Nat):Int):=by rw[Int.tdiv_eq_ediv_of_nonneg (by omega),ZcV (by omega) (by omega)];omega
 have w1:u64.wrap ((q:Nat):Int)=((q:Nat):Int):=ZcV (by omega) (by omega);have w2:u64.wrap (((q:Nat):Int)*((u:Nat):Int))=((q*u:Nat):Int):=by rw[← Int.natCast_mul,ZcV (by omega) (by omega)]
 have w3:u64.wrap (u64.wrap (((q:Nat):Int)+1)*((u:Nat):Int))=(((q+1)*u:Nat):Int):=by
  rw[ZcV (z:=((q:Nat):Int)+1) (by omega) (by omega),show ((q:Nat):Int)+1=((q+1:Nat):Int) by omega,← Int.natCast_mul,ZcV (by omega) (by omega)]
 have eo:(((q:Nat):Int).tmod 2==1)=decide (q % 2=1):=by
  rw[Int.tmod_eq_emod_of_nonneg (by omega)];have:((((q:Nat):Int) % 2==1):Bool)=decide (((q:Nat):Int) % 2=1):=rfl;rw[this];exact decide_eq_decide.2 (by omega)
 have kb:Zo [(decide (((u:Nat):Int)=0),false),(decide (((u:Nat):Int)=0),false),(decide (u64.wrap (((a:Nat):Int).tdiv ((u:Nat):Int))=((q:Nat):Int)),true)]:=Za (Xb (by omega)) (Za (Xb (by omega)) (Zy (Xa (by rw[e1,w1]))));unfold arV nrU;rw[← hq];have kgt:∀ b,decide (u/2<a % u)=b→decide (((a:Nat):Int).tmod ((u:Nat):Int)>u64.wrap (((u:Nat):Int).tdiv 2))=b:=fun b hb=>by rw[← hb,e2,e3];exact decide_eq_decide.2 (by omega)
 have keq:∀ b,decide (a % u=u/2)=b→(((a:Nat):Int).tmod ((u:Nat):Int)==u64.wrap (((u:Nat):Int).tdiv 2))=b:=fun b hb=>by
  rw[← hb,e2,e3];have:((((a % u:Nat):Int)==((u/2:Nat):Int)):Bool)=decide (((a % u:Nat):Int)=((u/2:Nat):Int)):=rfl;rw[this];exact decide_eq_decide.2 (by omega)
 by_cases c1:u/2<a % u
 ·rw[Xa c1,Bool.true_or,if_pos rfl];have f:=Z1O l h a t u q d;rw[w2,w3] at f;exact Zb hT f (Za (kgt true (Xa c1)) kb) (by rfl) (by rfl) w
 have kb:=Za (kgt false (Xb c1)) kb;rw[Xb c1,Bool.false_or];by_cases c2:a % u=u/2
 ·have kb:=Za (keq true (Xa c2)) kb;rw[Xa c2,Bool.true_and];cases d with
  | true=>
   rw[Bool.true_or,if_pos rfl];have f:=Z1P l h a t u q;rw[w2,w3] at f;exact Zb hT f kb (by rfl) (by rfl) w
  | false=>
   rw[Bool.false_or];by_cases c3:q % 2=1
   ·rw[Xa c3,if_pos rfl];have f:=Z1Q l h a t u q;rw[w2,w3] at f;exact Zb hT f (Za (by rw[eo];exact Xa c3) (Za (show decide ((2:Int)=0)=false from rfl) kb)) (by rfl) (by rfl) w
   ·rw[Xb c3,if_neg (by decide)];have f:=Z1R l h a t u q;rw[w2,w3] at f;exact Zb hT f (Za (by rw[eo];exact Xb c3) (Za (show decide ((2:Int)=0)=false from rfl) kb)) (by rfl) (by rfl) w
 ·rw[Xb c2,Bool.false_and,if_neg (by decide)];have f:=Z1S l h a t u q d;rw[w2,w3] at f;exact Zb hT f (Za (keq false (Xb c2)) kb) (by rfl) (by rfl) w
def Z5B:Ans:=fun vals s=>
 match vals,s with
 | [v,.int .u64 u],.inr (.inr (.inr (.inl true)))::s'=>
  match Z1N v with
  | some (_,_,a,d,_)=>some (arV true a.toNat u.toNat,s',[(nrU a.toNat d u.toNat,true),(Zyq a.toNat u.toNat,true),(decide (0≤a∧0≤u),true)])
  | none=>none
 | [v,.int .u64 u],.inr (.inr (.inr (.inl false)))::s'=>
  match Z1N v with
  | some (_,_,a,d,_)=>some (arV false a.toNat u.toNat,s',[(nrU a.toNat d u.toNat,false),(Zyq a.toNat u.toNat,true),(decide (0≤a∧0≤u),true)])
  | none=>none
 | _,_=>none
theorem Zxk:ZC 61 Z5B:=by
 intro vals s v s' lg h hl w;unfold Z5B at h;split at h
 all_goals
  try
   split at h
   ·rename_i u s2 o l hh a d t hv;rw[ZgB hv];cases h;have l1:=hl _ Xe;have l2:Zyq a.toNat u.toNat=true:=hl _ (Xd _ Xe);obtain⟨l3,l4⟩:=Xc (hl _ (Xd _ (Xd _ Xf)));obtain⟨A,rfl⟩:∃ A:Nat,a=A:=⟨a.toNat,by omega⟩;obtain⟨K,rfl⟩:∃ K:Nat,u=K:=⟨u.toNat,by omega⟩;have:=Zrp l hh t d A K l2 w;have l1:nrU A d K=_:=l1;rw[l1] at this;exact this
   ·cases h
 cases h
theorem Z1T (l h a t n:Int) (d d':Bool):Zs (Zf (Ze prog Zi Zn true) 200 62 [vSp l h a d t,.int .u64 n] [cmp true,cmp d']) (.bool d') [(decide (n≤h),d'),(decide (l≤n),true)]:=by and_intros<;>kernel_rfl
theorem Z1U (l h a t n:Int) (d:Bool):Zs (Zf (Ze prog Zi Zn true) 200 62 [vSp l h a d t,.int .u64 n] [cmp false]) (.bool false) [(decide (l≤n),false)]:=by and_intros<;>kernel_rfl
def Z5C:Ans:=fun vals s=>
 match vals,s with
 | [v,.int .u64 n],.inr (.inr (.inr (.inl b)))::s'=>
  match Z1N v with
  | some (l,h,_,_,_)=>some (.bool b,s',[(decide (l≤n) && decide (n≤h),b)])
  | none=>none
 | _,_=>none
theorem Zxl:ZC 62 Z5C:=by
 intro vals s v s' lg h hl w;unfold Z5C at h;split at h
 ·split at h
  ·rename_i n b s2 o l hh a d t hv;rw[ZgB hv];cases h;have l1:(decide (l≤n) && decide (n≤hh))=b:=hl _ Xf;rw[← l1];by_cases c:l≤n
   ·rw[Xa c,Bool.true_and];exact Zb (Zd Zh) (Z1T l hh a t n d _) (Za rfl (Zy (Xa c))) (by rfl) (by rfl) w
   ·rw[Xb c,Bool.false_and];exact Zb (Zd Zh) (Z1U l hh a t n d) (Zy (Xb c)) (by rfl) (by rfl) w
  ·cases h
 ·cases h
def Ztp:Hc:=zJ 118 (gT Z5A) hcN
theorem ZnW:HcOk Ztp:=Zq func118 rfl (Zf0 Zxj) zo
def ZnX:Con:=alt 42 Z1o Zn
theorem Zkg:ConOk ZnX:=Zr func42 rfl Zh7 Zh
theorem Z78 (n t:Int):Zs (ZE (Zx prog Zi ZnX Ztp) hT0 200 63 [.int .u64 n,.int .i64 t] []) (vDc (trC 48 (dcL n.toNat)) (i64.wrap (i64.wrap (t+(((dcL n.toNat).length:Nat):Int))-1))) [(true,true),(decide ((dcL n.toNat).length≤100000),true),(decide (100≤n∧n<18446744073709551616∧(10:Int)=10),true)]:=by and_intros<;>kernel_rfl
def Z5D:Ans:=fun vals s=>
 match vals with
 | [.int .u64 n,.int .i64 t]=>some (vDc (trR (dcL n.toNat)) (t+(((dcL n.toNat).length:Nat):Int)-1),s,[(decide (100≤n∧n<18446744073709551616∧ -100000≤t∧t≤100000),true)])
 | _=>none
theorem ZgC (n:Nat):(dcL n).length≤20:=Zb8 20 n
theorem Zxm:ZbJ 63 Z5D:=by
 intro vals s v s' lg h hl w hk;unfold Z5D at h;split at h
 ·rename_i n t;cases h;obtain⟨h1,h2,h3,h4⟩:=Xc (hl _ Xf);have f:=Z78 n t;have hlen:=ZgC n.toNat;rw[Zv (n:=t+(((dcL n.toNat).length:Nat):Int)) (by omega) (by omega),Zv (by omega) (by omega)] at f;exact Zbw (Z3 Zkg ZnW) f (Za rfl (Za (Xa (by omega)) (Zy (Xa ⟨h1,h2,rfl⟩)))) (by rfl) (by rfl) hk
 ·cases h
def Zbx:Con:=alt 60 Z59 (alt 61 Z5B (alt 62 Z5C Zn))
theorem Zrq:ConOk Zbx:=Zr func60 rfl Zxi (Zr func61 rfl Zxk (Zr func62 rfl Zxl Zh))
def ZgD:Hc:=zJ 63 (gT Z5D) hcN
theorem Zxn:HcOk ZgD:=Zq func63 rfl (Zf0 Zxm) zo
theorem ZdP:TabOk (Zx prog Zi Zbx ZgD):=Z3 Zrq Zxn
def Z3o (F:Func):Code:=cIn (cIn (sP F 3))
def Zyr (F:Func):Code:=cIn (cIn (sP F 5))
theorem Zxo:f24.body=some (Zaj [sP f24 0,sP f24 1,sP f24 2] (.seq (.block 0 (.loop (Z3o f24))) (.seq (sP f24 4) (.seq (.block 2 (.loop (Zyr f24))) (sK f24 6))))):=by kernel_rfl
def zDc:List Value×TypeId:=([bR [],.int .i64 0],49)
def srM (m:Bool) (c e q l h a:Int) (d:Bool) (t:Int):Hp:=⟨4,[bSp l h a d t,zDc,bPa m c e q,(pwV,pwT)]⟩
def srF (m:Bool) (c e q u:Int):List Value:=[vP m c e q,pO 1,pO 2,pO 3,.int .u64 u]
def srG (m:Bool) (c e q u n f:Int):List Value:=[vP m c e q,pO 1,pO 2,pO 3,.int .u64 u,.int .u64 n,.int .u64 f]
theorem Z1V (m:Bool) (c e q:Int):Zk (evL (Zx prog Zi Zbx ZgD) 200 [sP f24 0,sP f24 1,sP f24 2] ([vP m c e q]++List.replicate 48 undef,hT0,[]) ⟨[],[],[]⟩) 5 44 none (srF m c e q 1) (srM m c e q (sLo q.toNat e (lgS q.toNat e-17)) (sHi q.toNat e (lgS q.toNat e-17)) (sAt q.toNat e (lgS q.toNat e-17)) (sMo q.toNat e (lgS q.toNat e-17)) (lgS q.toNat e-17)) [(ZnE e q,true)]:=by and_intros<;>kernel_rfl
theorem Z5E (m:Bool) (c e q l h a t u:Int) (d:Bool) (g:Nat→Value):Zk (evC (Zx prog Zi Zbx ZgD) 200 false (Z3o f24) (srF m c e q u++tl 44 g,(srM m c e q l h a d t),[cmp true]) ⟨[],[],[]⟩) 5 44 none (srF m c e q (u64.wrap (u*10))) (srM m c e q l h a d t) [(decide (u≤u64.wrap (a.tdiv 10)),true)]:=by and_intros<;>kernel_rfl
theorem Z5F (m:Bool) (c e q l h a t u:Int) (d:Bool) (g:Nat→Value):Zk (evC (Zx prog Zi Zbx ZgD) 200 false (Z3o f24) (srF m c e q u++tl 44 g,(srM m c e q l h a d t),[cmp false]) ⟨[],[],[]⟩) 5 44 (some (some 0)) (srF m c e q u) (srM m c e q l h a d t) [(decide (u≤u64.wrap (a.tdiv 10)),false)]:=by and_intros<;>kernel_rfl
def arN (d:Bool) (a u:Nat):Nat:=if d=true then (a/u+1)*u else a/u*u
def arX (d:Bool) (a u:Nat):Nat:=if d=true then a/u*u else (a/u+1)*u
def lAr (a u:Int) (d b:Bool) (l:Log):Log:=(nrU a.toNat d u.toNat,b)::(Zyq a.toNat u.toNat,true)::(decide (0≤a∧0≤u),true)::l
theorem Z5G (m:Bool) (c e q l h a t u:Int) (d:Bool) (g:Nat→Value):Zk (evC (Zx prog Zi Zbx ZgD) 200 false (sP f24 4) (srF m c e q u++tl 44 g,(srM m c e q l h a d t),[cmp true]) ⟨[],[],[]⟩) 7 42 none (srG m c e q u ((arN true a.toNat u.toNat:Nat):Int) ((arX true a.toNat u.toNat:Nat):Int)) (srM m c e q l h a d t) (lAr a u d true []):=by and_intros<;>kernel_rfl
theorem Z5H (m:Bool) (c e q l h a t u:Int) (d:Bool) (g:Nat→Value):Zk (evC (Zx prog Zi Zbx ZgD) 200 false (sP f24 4) (srF m c e q u++tl 44 g,(srM m c e q l h a d t),[cmp false]) ⟨[],[],[]⟩) 7 42 none (srG m c e q u ((arN false a.toNat u.toNat:Nat):Int) ((arX false a.toNat u.toNat:Nat):Int)) (srM m c e q l h a d t) (lAr a u d false []):=by and_intros<;>kernel_rfl
theorem Z1W (m:Bool) (c e q l h a t u n f:Int) (d:Bool) (g:Nat→Value):Zk (evC (Zx prog Zi Zbx ZgD) 200 false (Zyr f24) (srG m c e q u n f++tl 42 g,(srM m c e q l h a d t),[cmp true]) ⟨[],[],[]⟩) 7 42 (some (some 2)) (srG m c e q u n f) (srM m c e q l h a d t) [(decide (l≤n) && decide (n≤h),true)]:=by and_intros<;>kernel_rfl
theorem Z1X (m:Bool) (c e q l h a t u n f:Int) (d:Bool) (g:Nat→Value):Zk (evC (Zx prog Zi Zbx ZgD) 200 false (Zyr f24) (srG m c e q u n f++tl 42 g,(srM m c e q l h a d t),[cmp false,cmp true]) ⟨[],[],[]⟩) 7 42 (some (some 2)) (srG m c e q u n f) (srM m c e q l h a d t) [(decide (l≤f) && decide (f≤h),true),(decide (l≤n) && decide (n≤h),false)]:=by and_intros<;>kernel_rfl
theorem Z1Y (m:Bool) (c e q l h a t u n f:Int) (d:Bool) (g:Nat→Value):Zk (evC (Zx prog Zi Zbx ZgD) 200 false (Zyr f24) (srG m c e q u n f++tl 42 g,(srM m c e q l h a d t),[cmp false,cmp false,cmp true]) ⟨[],[],[]⟩) 7 42 none (srG m c e q (u64.wrap (u.tdiv 10)) ((arN true a.toNat (u64.wrap (u.tdiv 10)).toNat:Nat):Int) ((arX true a.toNat (u64.wrap (u.tdiv 10)).toNat:Nat):Int)) (srM m c e q l h a d t) (lAr a (u64.wrap (u.tdiv 10)) d true [(decide (l≤f) && decide (f≤h),false),(decide (l≤n) && decide (n≤h),false)]):=by and_intros<;>kernel_rfl
theorem Z1Z (m:Bool) (c e q l h a t u n f:Int) (d:Bool) (g:Nat→Value):Zk (evC (Zx prog Zi Zbx ZgD) 200 false (Zyr f24) (srG m c e q u n f++tl 42 g,(srM m c e q l h a d t),[cmp false,cmp false,cmp false]) ⟨[],[],[]⟩) 7 42 none (srG m c e q (u64.wrap (u.tdiv 10)) ((arN false a.toNat (u64.wrap (u.tdiv 10)).toNat:Nat):Int) ((arX false a.toNat (u64.wrap (u.tdiv 10)).toNat:Nat):Int)) (srM m c e q l h a d t) (lAr a (u64.wrap (u.tdiv 10)) d false [(decide (l≤f) && decide (f≤h),false),(decide (l≤n) && decide (n≤h),false)]):=by and_intros<;>kernel_rfl
theorem Z5I (m:Bool) (c e q l h a t u n f:Int) (d:Bool) (g:Nat→Value):Zk (evC (Zx prog Zi Zbx ZgD) 200 false (sK f24 6) (srG m c e q u n f++tl 42 g,(srM m c e q l h a d t),[cmp true]) ⟨[],[],[]⟩) 4 45 (some none) [vP m c e q,pO 1,pO 2,pO 3] ⟨4,[bSp l h a d t,([bR (trR (dcL n.toNat)),.int .i64 (t+(((dcL n.toNat).length:Nat):Int)-1)],49),bPa m c e q,(pwV,pwT)]⟩ [(decide (100≤n∧n<18446744073709551616∧ -100000≤t∧t≤100000),true),(decide (l≤n) && decide (n≤h),true)]:=by and_intros<;>kernel_rfl
theorem Z5J (m:Bool) (c e q l h a t u n f:Int) (d:Bool) (g:Nat→Value):Zk (evC (Zx prog Zi Zbx ZgD) 200 false (sK f24 6) (srG m c e q u n f++tl 42 g,(srM m c e q l h a d t),[cmp false]) ⟨[],[],[]⟩) 4 45 (some none) [vP m c e q,pO 1,pO 2,pO 3] ⟨4,[bSp l h a d t,([bR (trR (dcL f.toNat)),.int .i64 (t+(((dcL f.toNat).length:Nat):Int)-1)],49),bPa m c e q,(pwV,pwT)]⟩ [(decide (100≤f∧f<18446744073709551616∧ -100000≤t∧t≤100000),true),(decide (l≤n) && decide (n≤h),false)]:=by and_intros<;>kernel_rfl
end Go.Proofs.YtgefjidphfdhdaaGreatDoor
namespace Go.Proofs.YtgefjidphfdhdaaGreatDoor
open Go.Proofs.Tryz
open Go.IntKind
open Go.KRun Go.Nt Go.Rd Go.Wd Go.Pt
set_option maxRecDepth 100000
def nrV (p:Int) (n:Nat):Nat:=arN (nrU (ZK p (lsP p)) (zQ p (lsP p)) (10^(atL p-n))) (ZK p (lsP p)) (10^(atL p-n))
def frV (p:Int) (n:Nat):Nat:=arX (nrU (ZK p (lsP p)) (zQ p (lsP p)) (10^(atL p-n))) (ZK p (lsP p)) (10^(atL p-n))
theorem ZnY (p:Int) (n:Nat):(nrV p n=ZaW p n∧frV p n=Zbv p n∧nrU (ZK p (lsP p)) (zQ p (lsP p)) (10^(atL p-n))=true)∨(nrV p n=Zbv p n∧frV p n=ZaW p n∧nrU (ZK p (lsP p)) (zQ p (lsP p)) (10^(atL p-n))=false):=by
 unfold nrV frV arN arX;cases nrU (ZK p (lsP p)) (zQ p (lsP p)) (10^(atL p-n)) with
 | true=>exact .inl ⟨if_pos rfl,if_pos rfl,rfl⟩
 | false=>exact .inr ⟨if_neg (by decide),if_neg (by decide),rfl⟩
section
variable {p : Int}
theorem Z5K (h:Fin14 p) (x:Nat):(decide (((ZaU p (lsP p):Nat):Int)≤((x:Nat):Int)) && decide (((x:Nat):Int)≤((ZaV p (lsP p):Nat):Int)))=ZgL p (lsP p) x:=by
 rw[Z1e h,decide_eq_decide.2 (show ((ZaU p (lsP p):Nat):Int)≤((x:Nat):Int)↔ZaU p (lsP p)≤x by omega),decide_eq_decide.2 (show ((x:Nat):Int)≤((ZaV p (lsP p):Nat):Int)↔x≤ZaV p (lsP p) by omega)]
theorem Zcr (h:Fin14 p):10^atL p≤10000000000000000000:=Nat.pow_le_pow_right (n:=10) (by omega) (ZaR h).1.2
theorem ZnZ (h:Fin14 p) {n:Nat}(h1:1≤n) (h2:n≤17):10^(atL p-1)≤Zbv p n∧ZaW p n≤10^atL p∧Zbv p n≤ZaW p n:=by
 obtain⟨⟨l1,l2⟩,a,b⟩:=ZaR h;have hu:0<10^(atL p-n):=Nat.pow_pos (by omega);have e1:10^atL p=10^n*10^(atL p-n):=by rw[← Nat.pow_add];congr 1;omega
 have e2:10^(atL p-1)=10^(n-1)*10^(atL p-n):=by rw[← Nat.pow_add];congr 1;omega
 have q1:10^(n-1)≤ZK p (lsP p)/10^(atL p-n):=(Nat.le_div_iff_mul_le hu).2 (by rw[← e2];exact a);have q2:ZK p (lsP p)/10^(atL p-n)<10^n:=(Nat.div_lt_iff_lt_mul hu).2 (by rw[← e1];exact b);unfold Zbv ZaW;refine⟨?_,?_,Nat.mul_le_mul_right _ (by omega)⟩
 ·rw[e2];exact Nat.mul_le_mul_right _ q1
 ·rw[e1];exact Nat.mul_le_mul_right _ q2
theorem Zxp (h:Fin14 p) {n:Nat}(h1:1≤n) (h2:n≤17):Zyq (ZK p (lsP p)) (10^(atL p-n))=true:=by
 obtain⟨⟨l1,l2⟩,_⟩:=ZaR h;obtain⟨_,b,_⟩:=ZnZ h h1 h2;have:=Zcr h;refine Xa ⟨?_,?_⟩
 ·have:10^1≤10^(atL p-n):=Nat.pow_le_pow_right (by omega) (by omega);omega
 ·have e:ZaW p n=(ZK p (lsP p)/10^(atL p-n)+1)*10^(atL p-n):=rfl;rw[← e];omega
end
def srK (p:Int):Hp:=srM (sgn p) (cl p) (xp p) (sg p) ((ZaU p (lsP p):Nat):Int) ((ZaV p (lsP p):Nat):Int) ((ZK p (lsP p):Nat):Int) (zQ p (lsP p)) (lsP p)
def srA (p u:Int):List Value:=srF (sgn p) (cl p) (xp p) (sg p) u
def srB (p u n f:Int):List Value:=srG (sgn p) (cl p) (xp p) (sg p) u n f
def Zys (p:Int) (i:Nat) (y:Lf):Prop:=i≤atL p-1∧∃ g,y.1=srA p ((10^i:Nat):Int)++tl 44 g∧y.2.1=srK p
def Zxq (p:Int) (n:Nat) (y:Lf):Prop:=(1≤n∧n≤nP p)∧∃ g,y.1=srB p ((10^(atL p-n):Nat):Int) ((nrV p n:Nat):Int) ((frV p n:Nat):Int)++tl 42 g∧y.2.1=srK p
theorem Z5L {p:Int}(h:Fin14 p) (r:Nat) (y:Lf) (hy:∃ i,r=atL p-1-i∧Zys p i y):
  Runs (Zx prog Zi Zbx ZgD) (Z3o f24) y fun e z=>match e with | none=>∃ r',r'<r∧∃ i,r'=atL p-1-i∧Zys p i z | some none=>False | some (some id')=>id'=0∧Zys p (atL p-1) z:=by
 obtain⟨i,hr,hi,g,ht,hh⟩:=hy;obtain⟨t,h',sc⟩:=y;simp only at ht hh;subst ht hh;obtain⟨⟨l1,l2⟩,a,b⟩:=ZaR h;have t19:=Zcr h;have ew:u64.wrap (((ZK p (lsP p):Nat):Int).tdiv 10)=((ZK p (lsP p)/10:Nat):Int):=by
  rw[Int.tdiv_eq_ediv_of_nonneg (by omega),ZcV (by omega) (by omega)];omega
 by_cases hc:i<atL p-1
 ·have hp:10^(i+1)≤ZK p (lsP p):=Nat.le_trans (Nat.pow_le_pow_right (by omega) (by omega)) a;rw[Nat.pow_succ] at hp;have hg:=Z5E (sgn p) (cl p) (xp p) (sg p) ((ZaU p (lsP p):Nat):Int) ((ZaV p (lsP p):Nat):Int) ((ZK p (lsP p):Nat):Int) (lsP p) ((10^i:Nat):Int) (zQ p (lsP p)) g;have em:u64.wrap (((10^i:Nat):Int)*10)=((10^(i+1):Nat):Int):=by
   rw[Nat.pow_succ,ZcV (by omega) (by omega)];omega
  rw[em] at hg;refine (Zc (s0:=sc) ZdP hg (Zy (Xa (by rw[ew];omega)))).mono fun e z he=> ?_;obtain⟨rfl,⟨g',z1⟩,z2⟩:=he;exact⟨atL p-1-(i+1),by omega,i+1,rfl,by omega,g',z1,z2⟩
 ·have ei:i=atL p-1:=by omega
  have hn:¬ 10^i≤ZK p (lsP p)/10:=by
   intro c;have:10^atL p=10^i*10:=by rw[← Nat.pow_succ];congr 1;omega
   omega
  refine (Zc (s0:=sc) ZdP (Z5F (sgn p) (cl p) (xp p) (sg p) ((ZaU p (lsP p):Nat):Int) ((ZaV p (lsP p):Nat):Int) ((ZK p (lsP p):Nat):Int) (lsP p) ((10^i:Nat):Int) (zQ p (lsP p)) g) (Zy (Xb (by rw[ew];omega)))).mono fun e z he=> ?_;obtain⟨rfl,⟨g',z1⟩,z2⟩:=he;rw[ei] at z1;exact⟨rfl,Nat.le_refl _,g',z1,z2⟩
theorem Zoa {p:Int}(h:Fin14 p) {n:Nat}(h1:1≤n) (h2:n≤17) {b:Bool}(hb:nrU (ZK p (lsP p)) (zQ p (lsP p)) (10^(atL p-n))=b) {l:Log}(hl:Zo l):Zo (lAr ((ZK p (lsP p):Nat):Int) ((10^(atL p-n):Nat):Int) (zQ p (lsP p)) b l):=by
 unfold lAr;rw[Xg,Xg];exact Za hb (Za (Zxp h h1 h2) (Za (Xa ⟨Int.natCast_nonneg _,Int.natCast_nonneg _⟩) hl))
theorem Z5M {p:Int}(h:Fin14 p) (r:Nat) (y:Lf) (hy:∃ n,r=nP p-n∧Zxq p n y):
  Runs (Zx prog Zi Zbx ZgD) (Zyr f24) y fun e z=>match e with | none=>∃ r',r'<r∧∃ n,r'=nP p-n∧Zxq p n z | some none=>False | some (some id')=>id'=2∧Zxq p (nP p) z:=by
 obtain⟨n,hr,⟨n1,n2⟩,g,ht,hh⟩:=hy;obtain⟨t,h',sc⟩:=y;simp only at ht hh;subst ht hh;obtain⟨⟨l1,l2⟩,_⟩:=ZaR h;obtain⟨_,⟨_,n17⟩,_⟩:=Za4 h;have se:=ZqL h n1 n2;have orE:(ZgL p (lsP p) (nrV p n)=true∨ZgL p (lsP p) (frV p n)=true)↔n=nP p:=by
  rw[← se];rcases ZnY p n with ⟨e1,e2,_⟩ | ⟨e1,e2,_⟩<;>rw[e1,e2]
  exact or_comm
 have hN:=Z5K h (nrV p n);have hF:=Z5K h (frV p n);cases c1:ZgL p (lsP p) (nrV p n) with
 | true=>
  have en:=orE.1 (.inl c1);refine (Zc (s0:=sc) ZdP (Z1W (sgn p) (cl p) (xp p) (sg p) ((ZaU p (lsP p):Nat):Int) ((ZaV p (lsP p):Nat):Int) ((ZK p (lsP p):Nat):Int) (lsP p) ((10^(atL p-n):Nat):Int) ((nrV p n:Nat):Int) ((frV p n:Nat):Int) (zQ p (lsP p)) g) (Zy (by rw[hN];exact c1))).mono fun e z he=> ?_;obtain⟨rfl,⟨g',z1⟩,z2⟩:=he;rw[← en];exact⟨rfl,⟨n1,n2⟩,g',z1,z2⟩
 | false=>
  cases c2:ZgL p (lsP p) (frV p n) with
  | true=>
   have en:=orE.1 (.inr c2);refine (Zc (s0:=sc) ZdP (Z1X (sgn p) (cl p) (xp p) (sg p) ((ZaU p (lsP p):Nat):Int) ((ZaV p (lsP p):Nat):Int) ((ZK p (lsP p):Nat):Int) (lsP p) ((10^(atL p-n):Nat):Int) ((nrV p n:Nat):Int) ((frV p n:Nat):Int) (zQ p (lsP p)) g) (Za (by rw[hF];exact c2) (Zy (by rw[hN];exact c1)))).mono fun e z he=> ?_;obtain⟨rfl,⟨g',z1⟩,z2⟩:=he;rw[← en];exact⟨rfl,⟨n1,n2⟩,g',z1,z2⟩
  | false=>
   have hne:n≠nP p:=fun c=>by
    rcases orE.2 c with c3 | c3
    ·rw[c1] at c3;cases c3
    ·rw[c2] at c3;cases c3
   have eu:u64.wrap (((10^(atL p-n):Nat):Int).tdiv 10)=((10^(atL p-(n+1)):Nat):Int):=by
    have e:10^(atL p-n)=10^(atL p-(n+1))*10:=by rw[← Nat.pow_succ];congr 1;omega
    have b:10^(atL p-(n+1))≤10^atL p:=Nat.pow_le_pow_right (by omega) (by omega);have:=Zcr h;rw[e,Int.tdiv_eq_ediv_of_nonneg (by omega),ZcV (by omega) (by omega)];omega
   have fin:∀ b,nrU (ZK p (lsP p)) (zQ p (lsP p)) (10^(atL p-(n+1)))=b→((arN b (ZK p (lsP p)) (10^(atL p-(n+1)))=nrV p (n+1))∧(arX b (ZK p (lsP p)) (10^(atL p-(n+1)))=frV p (n+1))):=fun b hb=>by
    unfold nrV frV;rw[hb];exact⟨rfl,rfl⟩
   have lg:∀ b,nrU (ZK p (lsP p)) (zQ p (lsP p)) (10^(atL p-(n+1)))=b→Zo (lAr ((ZK p (lsP p):Nat):Int) ((10^(atL p-(n+1)):Nat):Int) (zQ p (lsP p)) b [(decide (((ZaU p (lsP p):Nat):Int)≤((frV p n:Nat):Int)) && decide (((frV p n:Nat):Int)≤((ZaV p (lsP p):Nat):Int)),false),(decide (((ZaU p (lsP p):Nat):Int)≤((nrV p n:Nat):Int)) && decide (((nrV p n:Nat):Int)≤((ZaV p (lsP p):Nat):Int)),false)]):=fun b hb=>Zoa h (by omega) (by omega) hb (Za (by rw[hF];exact c2) (Zy (by rw[hN];exact c1)));cases c3:nrU (ZK p (lsP p)) (zQ p (lsP p)) (10^(atL p-(n+1))) with
   | true=>
    have hg:=Z1Y (sgn p) (cl p) (xp p) (sg p) ((ZaU p (lsP p):Nat):Int) ((ZaV p (lsP p):Nat):Int) ((ZK p (lsP p):Nat):Int) (lsP p) ((10^(atL p-n):Nat):Int) ((nrV p n:Nat):Int) ((frV p n:Nat):Int) (zQ p (lsP p)) g;rw[eu,Xg,Xg,(fin true c3).1,(fin true c3).2] at hg;refine (Zc (s0:=sc) ZdP hg (lg true c3)).mono fun e z he=> ?_;obtain⟨rfl,⟨g',z1⟩,z2⟩:=he;exact⟨nP p-(n+1),by omega,n+1,rfl,⟨by omega,by omega⟩,g',z1,z2⟩
   | false=>
    have hg:=Z1Z (sgn p) (cl p) (xp p) (sg p) ((ZaU p (lsP p):Nat):Int) ((ZaV p (lsP p):Nat):Int) ((ZK p (lsP p):Nat):Int) (lsP p) ((10^(atL p-n):Nat):Int) ((nrV p n:Nat):Int) ((frV p n:Nat):Int) (zQ p (lsP p)) g;rw[eu,Xg,Xg,(fin false c3).1,(fin false c3).2] at hg;refine (Zc (s0:=sc) ZdP hg (lg false c3)).mono fun e z he=> ?_;obtain⟨rfl,⟨g',z1⟩,z2⟩:=he;exact⟨nP p-(n+1),by omega,n+1,rfl,⟨by omega,by omega⟩,g',z1,z2⟩
def sdD (p:Int):List UInt8:=trR (dcL (shV p))
def sdE (p:Int):Int:=lsP p+(((dcL (shV p)).length:Nat):Int)-1
theorem Zrr {p:Int}(h:Fin14 p) (w:World) (hk:knT w):Calls prog 24 #[vT p] w fun r w'=>r= .returned (vDc (sdD p) (sdE p))∧zi w w':=by
 have ev:∀ m:Mp,[vT p].map (mv m)=[vT p]:=fun m=>(List.map_congr_left fun y hy=>Z2 (by rw[List.mem_singleton.1 hy];rfl)).trans (List.map_id' _);have q0:0≤sg p:=by
  have:=ZdD p;unfold sg;split
  ·omega
  ·split<;>omega
 have f1:=h.ne;have f2:=h.e0;have f3:=h.e1;have f4:=h.s1;have main:=ZdZ (T:=Zx prog Zi Zbx ZgD) func24 Zxo (h0:=hT0) (vals:=[vT p]) (fun v hv=>by rw[List.mem_singleton.1 hv];rfl) (v:=vDc (sdD p) (sdE p)) (by rfl) (m:=fun b=>(b,0)) (w:=w) ?_ (Ztg hk)
 ·rw[ev] at main;exact main
 obtain⟨⟨l1,l2⟩,a,b⟩:=ZaR h;obtain⟨_,⟨p1,p17⟩,_⟩:=Za4 h;obtain⟨_,_,j1,j2⟩:=Zw0 h;refine Zz ZdP (Z1V (sgn p) (cl p) (xp p) (sg p)) (Zy (Xa (by omega))) fun g=> ?_;refine Runs.seq (P1:=fun e y=>match e with | none=>Zys p (atL p-1) y | some none=>False | some (some _)=>False) (Runs.forLoop (R:=fun _=>False) (P:=Zys p (atL p-1)) (fun r y=>∃ i,r=atL p-1-i∧Zys p i y) (Z5L h) (n:=atL p-1-0) ⟨0,rfl,Nat.zero_le _,g,rfl,rfl⟩) ?_ (fun e y he=>by match e,he with | none,he=>exact he.elim | some _,he=>exact he.elim);rintro⟨t,hh,sc⟩ ⟨_,g1,e1,e2⟩;simp only at e1 e2;subst e1 e2;have mid:Runs (Zx prog Zi Zbx ZgD) (sP f24 4) (srA p ((10^(atL p-1):Nat):Int)++tl 44 g1,srK p,sc) fun e y=>e=none∧Zxq p 1 y:=by
  have fin:∀ b,nrU (ZK p (lsP p)) (zQ p (lsP p)) (10^(atL p-1))=b→((arN b (ZK p (lsP p)) (10^(atL p-1))=nrV p 1)∧(arX b (ZK p (lsP p)) (10^(atL p-1))=frV p 1)):=fun b hb=>by
   unfold nrV frV;rw[hb];exact⟨rfl,rfl⟩
  cases c3:nrU (ZK p (lsP p)) (zQ p (lsP p)) (10^(atL p-1)) with
  | true=>
   have hg:=Z5G (sgn p) (cl p) (xp p) (sg p) ((ZaU p (lsP p):Nat):Int) ((ZaV p (lsP p):Nat):Int) ((ZK p (lsP p):Nat):Int) (lsP p) ((10^(atL p-1):Nat):Int) (zQ p (lsP p)) g1;rw[Xg,Xg,(fin true c3).1,(fin true c3).2] at hg;refine (Zc (s0:=sc) ZdP hg (Zoa h (by omega) (by omega) c3 Zbu)).mono fun e z he=> ?_;obtain⟨rfl,⟨g',z1⟩,z2⟩:=he;exact⟨rfl,⟨by omega,p1⟩,g',z1,z2⟩
  | false=>
   have hg:=Z5H (sgn p) (cl p) (xp p) (sg p) ((ZaU p (lsP p):Nat):Int) ((ZaV p (lsP p):Nat):Int) ((ZK p (lsP p):Nat):Int) (lsP p) ((10^(atL p-1):Nat):Int) (zQ p (lsP p)) g1;rw[Xg,Xg,(fin false c3).1,(fin false c3).2] at hg;refine (Zc (s0:=sc) ZdP hg (Zoa h (by omega) (by omega) c3 Zbu)).mono fun e z he=> ?_;obtain⟨rfl,⟨g',z1⟩,z2⟩:=he;exact⟨rfl,⟨by omega,p1⟩,g',z1,z2⟩
 refine Runs.seq mid ?_ (fun e y he=>by cases he.1);rintro⟨t,hh,sc2⟩ ⟨_,hs2⟩;refine Runs.seq (P1:=fun e y=>match e with | none=>Zxq p (nP p) y | some none=>False | some (some _)=>False) (Runs.forLoop (R:=fun _=>False) (P:=Zxq p (nP p)) (fun r y=>∃ n,r=nP p-n∧Zxq p n y) (Z5M h) (n:=nP p-1) ⟨1,rfl,hs2⟩) ?_ (fun e y he=>by match e,he with | none,he=>exact he.elim | some _,he=>exact he.elim);rintro⟨t3,hh3,sc3⟩ ⟨_,g3,e1,e2⟩;simp only at e1 e2;subst e1 e2;have sv:=Z1m h;have bd:=ZnZ h p1 p17;have t19:=Zcr h;have t17:10^17≤10^(atL p-1):=Nat.pow_le_pow_right (by omega) (by omega);have e17:(10:Nat)^17=100000000000000000:=rfl;have hN:=Z5K h (nrV p (nP p));have bds:∀ x,x=Zbv p (nP p)∨x=ZaW p (nP p)→(100:Int)≤((x:Nat):Int)∧((x:Nat):Int)<18446744073709551616∧ -100000≤lsP p∧lsP p≤100000:=fun x hx=>by
  rcases hx with rfl | rfl<;>omega
 have isN:nrV p (nP p)=Zbv p (nP p)∨nrV p (nP p)=ZaW p (nP p):=by rcases ZnY p (nP p) with ⟨c,_⟩ | ⟨c,_⟩<;>simp [c]
 have isF:frV p (nP p)=Zbv p (nP p)∨frV p (nP p)=ZaW p (nP p):=by rcases ZnY p (nP p) with ⟨_,c,_⟩ | ⟨_,c,_⟩<;>simp [c]
 cases c1:ZgL p (lsP p) (nrV p (nP p)) with
 | true=>
  have ex:shV p=nrV p (nP p):=by
   rw[sv];rcases ZnY p (nP p) with ⟨c,_,d⟩ | ⟨c,_,d⟩
   ·rw[d,if_pos rfl,← c,if_pos c1]
   ·rw[d,if_neg (by decide),← c,if_pos c1]
  refine (Zc (s0:=sc3) ZdP (Z5I (sgn p) (cl p) (xp p) (sg p) ((ZaU p (lsP p):Nat):Int) ((ZaV p (lsP p):Nat):Int) ((ZK p (lsP p):Nat):Int) (lsP p) ((10^(atL p-nP p):Nat):Int) ((nrV p (nP p):Nat):Int) ((frV p (nP p):Nat):Int) (zQ p (lsP p)) g3) (Za (Xa (bds _ isN)) (Zy (by rw[hN];exact c1)))).mono fun e z he=> ?_;obtain⟨rfl,⟨g',z1⟩,z2⟩:=he;refine⟨.inr rfl,?_⟩;rw[z1,z2];unfold sdD sdE;rw[ex];rfl
 | false=>
  have ex:shV p=frV p (nP p):=by
   rw[sv];rcases ZnY p (nP p) with ⟨c,c',d⟩ | ⟨c,c',d⟩
   ·rw[d,if_pos rfl,← c,if_neg (by rw[c1];decide),c']
   ·rw[d,if_neg (by decide),← c,if_neg (by rw[c1];decide),c']
  refine (Zc (s0:=sc3) ZdP (Z5J (sgn p) (cl p) (xp p) (sg p) ((ZaU p (lsP p):Nat):Int) ((ZaV p (lsP p):Nat):Int) ((ZK p (lsP p):Nat):Int) (lsP p) ((10^(atL p-nP p):Nat):Int) ((nrV p (nP p):Nat):Int) ((frV p (nP p):Nat):Int) (zQ p (lsP p)) g3) (Za (Xa (bds _ isF)) (Zy (by rw[hN];exact c1)))).mono fun e z he=> ?_;obtain⟨rfl,⟨g',z1⟩,z2⟩:=he;refine⟨.inr rfl,?_⟩;rw[z1,z2];unfold sdD sdE;rw[ex];rfl
end Go.Proofs.YtgefjidphfdhdaaGreatDoor
namespace Go.Proofs.YtgefjidphfdhdaaGreatDoor
open Go.KRun
set_option maxRecDepth 100000
set_option linter.unusedVariables false
def hxV (c:Int):Int:=if 48≤c∧c≤57 then c-48 else if 97≤c∧c≤102 then c-87 else 0
def Z79 (c:Int):Bool:=decide ((48≤c∧c≤57)∨(97≤c∧c≤102))
end Go.Proofs.YtgefjidphfdhdaaGreatDoor
namespace Go.Proofs.YtgefjidphfdhdaaGreatDoor
open Go.Proofs.Tryz
open Go.IntKind
open Go.KRun Go.Pt
set_option maxRecDepth 100000
set_option linter.unusedVariables false
def hxT:List UInt8:=[48,49,50,51,52,53,54,55,56,57,97,98,99,100,101,102]
def hSx (q:Int):Int:=q.fdiv (2^min (Int.toNat 4) 64)
def hC (q:Int):Int:=((hxT.getD (Ziq q 15).toNat 0).toNat:Nat)
def hBx (q:Int):UInt8:=UInt8.ofNat (hC q).toNat
def hSn (p:Int):Nat→Int
 | 0=>p
 | n+1=>hSx (hSn p n)
def inX (q:Int):Bool:=decide (0≤Ziq q 15∧(Ziq q 15).toNat<hxT.length)
def hxW (p:Int):ByteArray:=⟨#[hBx (hSn p 15),hBx (hSn p 14),hBx (hSn p 13),hBx (hSn p 12),hBx (hSn p 11),hBx (hSn p 10),hBx (hSn p 9),hBx (hSn p 8),hBx (hSn p 7),hBx (hSn p 6),hBx (hSn p 5),hBx (hSn p 4),hBx (hSn p 3),hBx (hSn p 2),hBx (hSn p 1),hBx (hSn p 0)]⟩
def hxL (p:Int):Nat→Log
 | 0=>[]
 | n+1=>(false,false)::(inX (hSn p n),true)::hxL p n
theorem Zrs (p:Int):Zs (Zf (Ze prog Zi Zn true) 3000 43 [.int .u64 p] []) (.string (hxW p)) (hxL p 16):=by and_intros<;>kernel_rfl
def rPx (q:Int):List UInt8:=(hxT.drop (q.tmod 16).toNat).take ((u64.wrap (q.tmod 16+1)).toNat-(q.tmod 16).toNat)
theorem Zob (q:Int):q % 16=0∨q % 16=1∨q % 16=2∨q % 16=3∨q % 16=4∨q % 16=5∨q % 16=6∨q % 16=7∨q % 16=8∨q % 16=9∨q % 16=10∨q % 16=11∨q % 16=12∨q % 16=13∨q % 16=14∨q % 16=15:=by omega
theorem Z2a {q:Int}(h:0≤q):q.tmod 16=q % 16:=Int.tmod_eq_emod_of_nonneg h
theorem Z5N {q:Int}(h:0≤q):hSx q=q/16:=by
 have e:((2:Int)^min (Int.toNat 4) 64)=16:=rfl;unfold hSx;rw[e,Int.fdiv_eq_ediv_of_nonneg _ (by omega)]
theorem Z5O {q:Int}(h:U q):U (q/16):=by
 have h0:=h.1;have h1:=h.2;exact⟨by omega,by omega⟩
theorem Zxr {p:Int}(h:U p):∀ n,U (hSn p n)
 | 0=>h
 | n+1=>by
  show U (hSx (hSn p n));rw[Z5N (Zxr h n).1];exact Z5O (Zxr h n)
theorem Z5P {q:Int}(h:U q):inX q=true∧rPx q=[hBx q]∧hxV (((hBx q).toNat:Nat):Int)=q % 16∧Z79 (((hBx q).toNat:Nat):Int)=true∧decide (0≤q.tmod 16∧q.tmod 16≤u64.wrap (q.tmod 16+1)∧u64.wrap (q.tmod 16+1)≤(hxT.length:Int))=true:=by
 unfold inX rPx hBx hC;rw[Z2a h.1,ZpA h];rcases Zob q with e | e | e | e | e | e | e | e | e | e | e | e | e | e | e | e<;>rw[e]<;>exact⟨by rfl,by rfl,by rfl,by rfl,by rfl⟩
theorem Ztq {p:Int}(h:U p):∀ n,Zo (hxL p n)
 | 0=>fun x hx=>by cases hx
 | n+1=>Za rfl (Za (Z5P (Zxr h n)).1 (Ztq h n))
theorem Zoc (p:Int) (hp:U p) (w:World):Calls prog 43 #[.int .u64 p] w fun e w'=>e= .returned (.string (hxW p))∧zi w w':=
 Zb (Zd Zh) (Zrs p) (Ztq hp 16) (by rfl) (by rfl) w
end Go.Proofs.YtgefjidphfdhdaaGreatDoor
namespace Go.Proofs.YtgefjidphfdhdaaGreatDoor
open Go.KRun Go.Nt Go.Rd
set_option maxRecDepth 100000
def spK (p:Int):Int:=if 3<Go.Pt.cl p then 1 else if p=9218868437227405312 then 2 else if p=18442240474082181120 then 3 else 0
def spL (k:Int):List UInt8:=if k=1 then [110,97,110] else if k=2 then [105,110,102] else if k=3 then [45,105,110,102] else []
end Go.Proofs.YtgefjidphfdhdaaGreatDoor
namespace Go.Proofs.YtgefjidphfdhdaaGreatDoor
open Go.KRun Go.Nt
def vRN (m:Bool) (e:Int) (v:Value):Value:= .agg #[.bool m,.int .i64 e,v]
end Go.Proofs.YtgefjidphfdhdaaGreatDoor
namespace Go.Proofs.YtgefjidphfdhdaaGreatDoor
open Go.KRun Go.Nt Go.Wd
set_option maxRecDepth 100000
set_option linter.unusedVariables false
abbrev pX9 (neg:Bool) (E N M:Int) (o n c:Nat) (r:List Value):List Value:=vRN neg E (sl 0 o n c):: .int .i64 N:: .int .i64 M:: .pointer (some ⟨1,0,none⟩)::undef::undef::r
end Go.Proofs.YtgefjidphfdhdaaGreatDoor
namespace Go.Proofs.YtgefjidphfdhdaaGreatDoor
open Go.Proofs.Tryz
open Go.IntKind
open Go.KRun Go.Wd Go.Pt Go.Rn
set_option maxRecDepth 100000
theorem u0 (c m:Int) (o n:Bool):Zs (Zf (Ze prog Zi Zn true) 300 156 [.int .i64 c,.bool o,.bool n,.int .i64 m] [cmp true]) (Value.bool false) [(c==0,true)]:=by and_intros<;>kernel_rfl
theorem u2 (c m:Int) (o n:Bool):Zs (Zf (Ze prog Zi Zn true) 300 156 [.int .i64 c,.bool o,.bool n,.int .i64 m] [cmp false,cmp true]) (Value.bool false) [(m==2,true),(c==0,false)]:=by and_intros<;>kernel_rfl
theorem u3 (c m:Int) (o n:Bool):Zs (Zf (Ze prog Zi Zn true) 300 156 [.int .i64 c,.bool o,.bool n,.int .i64 m] [cmp false,cmp false,cmp true]) (Value.bool !n) [(m==3,true),(m==2,false),(c==0,false)]:=by and_intros<;>kernel_rfl
theorem u4 (c m:Int) (o n:Bool):Zs (Zf (Ze prog Zi Zn true) 300 156 [.int .i64 c,.bool o,.bool n,.int .i64 m] [cmp false,cmp false,cmp false,cmp true]) (Value.bool n) [(m==4,true),(m==3,false),(m==2,false),(c==0,false)]:=by and_intros<;>kernel_rfl
theorem u1 (c m:Int) (o n:Bool):Zs (Zf (Ze prog Zi Zn true) 300 156 [.int .i64 c,.bool o,.bool n,.int .i64 m] [cmp false,cmp false,cmp false,cmp false,cmp true]) (Value.bool (decide (c≥2))) [(m==1,true),(m==4,false),(m==3,false),(m==2,false),(c==0,false)]:=by and_intros<;>kernel_rfl
theorem ua (c m:Int) (o n:Bool):Zs (Zf (Ze prog Zi Zn true) 300 156 [.int .i64 c,.bool o,.bool n,.int .i64 m] [cmp false,cmp false,cmp false,cmp false,cmp false,cmp true]) (Value.bool true) [(decide (c>2),true),(m==1,false),(m==4,false),(m==3,false),(m==2,false),(c==0,false)]:=by and_intros<;>kernel_rfl
theorem ub (c m:Int) (o n:Bool):Zs (Zf (Ze prog Zi Zn true) 300 156 [.int .i64 c,.bool o,.bool n,.int .i64 m] [cmp false,cmp false,cmp false,cmp false,cmp false,cmp false,cmp true]) (Value.bool o) [(c==2,true),(decide (c>2),false),(m==1,false),(m==4,false),(m==3,false),(m==2,false),(c==0,false)]:=by and_intros<;>kernel_rfl
theorem uc (c m:Int) (o n:Bool):Zs (Zf (Ze prog Zi Zn true) 300 156 [.int .i64 c,.bool o,.bool n,.int .i64 m] [cmp false,cmp false,cmp false,cmp false,cmp false,cmp false,cmp false]) (Value.bool false) [(c==2,false),(decide (c>2),false),(m==1,false),(m==4,false),(m==3,false),(m==2,false),(c==0,false)]:=by and_intros<;>kernel_rfl
def gUp:Ans:=fun vals s=>
 match vals with
 | [.int .i64 c,.bool o,.bool n,.int .i64 m]=>some (.bool (upR m n o c),s,[])
 | _=>none
theorem Zrt (c m:Int) (o n:Bool) (w:World):Calls prog 156 #[.int .i64 c,.bool o,.bool n,.int .i64 m] w fun e w'=>e= .returned (.bool (upR m n o c))∧zi w w':=by
 unfold upR;by_cases h0:c=0
 ·rw[if_pos h0];exact Zb (Zd Zh) (u0 c m o n) (by simp [ZeN,Zps,h0]) (by rfl) (by rfl) w
 ·rw[if_neg h0];by_cases h2:m=2
  ·rw[if_pos h2];exact Zb (Zd Zh) (u2 c m o n) (by simp [ZeN,Zps,h0,h2]) (by rfl) (by rfl) w
  ·rw[if_neg h2];by_cases h3:m=3
   ·rw[if_pos h3];exact Zb (Zd Zh) (u3 c m o n) (by simp [ZeN,Zps,h0,h3]) (by rfl) (by rfl) w
   ·rw[if_neg h3];by_cases h4:m=4
    ·rw[if_pos h4];exact Zb (Zd Zh) (u4 c m o n) (by simp [ZeN,Zps,h0,h4]) (by rfl) (by rfl) w
    ·rw[if_neg h4];by_cases h1:m=1
     ·rw[if_pos h1];exact Zb (Zd Zh) (u1 c m o n) (by simp [ZeN,Zps,h0,h1]) (by rfl) (by rfl) w
     ·rw[if_neg h1];by_cases ha:2<c
      ·have e:(decide (2<c) || (decide (c=2) && o))=true:=by simp [ha]
       rw[e];exact Zb (Zd Zh) (ua c m o n) (by simp [ZeN,Zps,h0,h1,h2,h3,h4,ha]) (by rfl) (by rfl) w
      ·by_cases hb:c=2
       ·have e:(decide (2<c) || (decide (c=2) && o))=o:=by simp [hb]
        rw[e];exact Zb (Zd Zh) (ub c m o n) (by simp [ZeN,Zps,h1,h2,h3,h4,hb]) (by rfl) (by rfl) w
       ·have e:(decide (2<c) || (decide (c=2) && o))=false:=by simp [ha,hb]
        rw[e];exact Zb (Zd Zh) (uc c m o n) (by simp [ZeN,Zps,h0,h1,h2,h3,h4,hb];omega) (by rfl) (by rfl) w
theorem Z2b:ZC 156 gUp:=by
 intro vals s v s' lg h hl w;unfold gUp at h;split at h
 ·cases h;exact Zrt _ _ _ _ w
 ·cases h
def Z5Q:Con:=alt 148 (g1n (ZcF Zn8)) (alt 191 (g1n Z5w) (alt 157 (g1n (ZcF Zxd)) (alt 153 (g1 Zxb) (alt 147 (g2 (Zjc ZwO)) Zn))))
theorem Zod:ConOk Z5Q:=Zr func148 rfl (ZbA ZdO) (Zr func191 rfl ZwS (Zr func157 rfl (ZbA ZnD) (Zr func153 rfl (Z5z Zkf) (Zr func147 rfl (Zg7 Zg8) Zh))))
theorem Zf6 {x:W4}(hx:x.ok) {n:Int}(hn:0≤n):Zee x n=ofN (x.nat*2^n.toNat):=by
 unfold Zee;by_cases h1:n<1
 ·have:n=0:=by omega
  subst this;rw[if_pos h1];simp [Zdg hx]
 ·rw[if_neg h1];by_cases h2:256≤n
  ·rw[if_pos h2,ZvG (by omega)]
  ·rw[if_neg h2,W4.nat_val hx,cast_pow];unfold ofN;congr 1
theorem Zjd {x:W4}(hx:x.ok) {n:Int}(hn:0≤n):Zkd x n=ofN (x.nat/2^n.toNat):=by
 unfold Zkd;by_cases h1:n<1
 ·have:n=0:=by omega
  subst this;rw[if_pos h1];simp [Zdg hx]
 ·rw[if_neg h1];by_cases h2:256≤n
  ·rw[if_pos h2,Zgo (W4.nat_lt hx) (by omega),Zcl]
  ·rw[if_neg h2,W4.nat_val hx,cast_pow];unfold ofN;congr 1
theorem Zru {x:W4}(hx:x.ok) {n:Int}(hn:0≤n):ZgM x n=decide (x.nat % 2^n.toNat≠0):=by
 unfold ZgM;by_cases h1:n<1
 ·have:n=0:=by omega
  subst this;rw[if_pos h1];simp [Nat.mod_one]
 ·rw[if_neg h1];by_cases h2:256≤n
  ·rw[if_pos h2,Zm0 (W4.nat_lt hx) (by omega),W4.nat_val hx];congr 1;simp
  ·rw[if_neg h2,W4.nat_val hx,cast_pow];congr 1;have:((x.nat:Int) % ((2^n.toNat:Nat):Int))=((x.nat % 2^n.toNat:Nat):Int):=rfl;rw[this];simp only[ne_eq,eq_iff_iff];omega
theorem Zf7 {x:W4}(hx:x.ok) {n:Int}(hn:0≤n):ZnC x n=((x.nat/2^n.toNat % 2:Nat):Int):=by
 unfold ZnC;rw[if_neg (by omega)];by_cases h2:256≤n
 ·rw[if_pos h2,Zgo (W4.nat_lt hx) (by omega)];rfl
 ·rw[if_neg h2,W4.nat_val hx,cast_pow];rfl
def hv (x:W4) (b:Bool):W4:=match b with | true=>⟨bOr (Zee x 1).a 1,(Zee x 1).b,(Zee x 1).c,(Zee x 1).d⟩ | false=>Zee x 1
def Z7A (x:W4):Bool×Bool:=(decide (x.ok∧(-9223372036854775808:Int)≤1∧(1:Int)≤9223372036854775807),true)
theorem Zxs (x:W4) (b:Bool):Zs (Zf (Ze prog Zi Z5Q true) 300 154 [vW x,.bool b] []) (vW (hv x b)) [Z7A x]:=by
 cases b<;>exact by and_intros<;>kernel_rfl
theorem Zrv (x y:Int):bOr x y=bOr y x:=by unfold bOr;rw[BitVec.or_comm]
theorem Z5R {x:W4}(hx:x.ok) (b:Bool):hv x b=ofN (tw x b):=by
 have e1:=Zf6 hx (n:=1) (by omega);have e2:x.nat*2^(1:Int).toNat=2*x.nat:=by simp [Nat.mul_comm]
 rw[e2] at e1;cases b
 ·unfold hv tw;simp only[Nat.add_zero];exact e1
 ·unfold hv tw;simp only;rw[e1];have e3:bOr (ofN (2*x.nat)).a 1=(ofN (2*x.nat)).a+1:=by
   have hb:0≤(ofN (2*x.nat)).a∧(ofN (2*x.nat)).a<18446744073709551616:=(zv _).1;have hev:(ofN (2*x.nat)).a % 2=0:=by unfold ofN W4.of;dsimp only;omega
   rw[Zrv,or_low 1 (z:=(ofN (2*x.nat)).a/2) (by omega) (by omega) (by omega) (by decide) (by omega)]
  rw[e3];unfold ofN W4.of;refine W4.ext' ?_ ?_ ?_ ?_<;>dsimp only<;>omega
def gHv:Ans:=fun vals s=>
 match vals with
 | [x,.bool b]=>
  match w4 x with
  | some a=>some (vW (ofN (tw a b)),s,[(decide a.ok,true)])
  | none=>none
 | _=>none
theorem Z2c:ZC 154 gHv:=by
 intro vals s v s' lg h hl w;unfold gHv at h;split at h
 ·split at h
  ·rename_i a ha;cases h;have h1:a.ok:=Xc (hl _ Xf);rw[ZdN ha,← Z5R h1];exact Zb (Zd Zod) (Zxs a _) (Zy (Xa ⟨h1,by omega,by omega⟩)) (by rfl) (by rfl) w
  ·cases h
 ·cases h
def Ztr:Con:=alt 154 gHv Z5Q
theorem ZaN:ConOk Ztr:=Zr func154 rfl Z2c Zod
def vN (n:Bool) (e:Int) (x:W4) (b:Bool):Value:= .agg #[.bool n,.int .i64 e,.int .u64 x.a,.int .u64 x.b,.int .u64 x.c,.int .u64 x.d,.bool b]
def n7:Value→Option (Bool×Int×W4×Bool)
 | .agg cs=>
  match cs.toList with
  | [.bool n,.int .i64 e,.int .u64 a,.int .u64 b,.int .u64 c,.int .u64 d,.bool m]=>some (n,e,⟨a,b,c,d⟩,m)
  | _=>none
 | _=>none
theorem ZbT {v:Value}{n m:Bool}{e:Int}{x:W4}(h:n7 v=some (n,e,x,m)):v=vN n e x m:=by
 unfold n7 at h;split at h
 ·rename_i cs;split at h
  ·rename_i a b c d hc;cases h;obtain⟨l⟩:=cs;simp only at hc;subst hc;rfl
  ·cases h
 ·cases h
def lok (x:W4) (n:Int):Bool×Bool:=(decide (x.ok∧ -9223372036854775808≤n∧n≤9223372036854775807),true)
def dnI (ex e:Int):Int:=i64.wrap (e-ex)
def dn1 (ex e:Int):Int:=i64.wrap (i64.wrap (e-ex)-1)
def ctV (x:W4) (ex e c:Int):Value:= .tuple #[vW (Zkd x (dnI ex e)),.int .i64 c]
theorem ct0 (n:Bool) (x:W4) (ex e:Int):Zs (Zf (Ze prog Zi Ztr true) 300 155 [vN n ex x false,.int .i64 e] [cmp false]) (ctV x ex e 0) [lok x (dnI ex e),(ZgM x (dnI ex e),false)]:=by and_intros<;>kernel_rfl
theorem ct1 (n:Bool) (x:W4) (ex e:Int):Zs (Zf (Ze prog Zi Ztr true) 300 155 [vN n ex x true,.int .i64 e] [cmp false,cmp true]) (ctV x ex e 2) [(dnI ex e==0,true),lok x (dnI ex e),(ZgM x (dnI ex e),false)]:=by and_intros<;>kernel_rfl
theorem ct2 (n:Bool) (x:W4) (ex e:Int) (d:Bool):Zs (Zf (Ze prog Zi Ztr true) 300 155 [vN n ex x true,.int .i64 e] [cmp false,cmp false,cmp d]) (ctV x ex e (match d with | true=>1 | false=>3)) [(ZnC x (dn1 ex e)==0,d),lok x (dn1 ex e),(dnI ex e==0,false),lok x (dnI ex e),(ZgM x (dnI ex e),false)]:=by
 cases d<;>exact by and_intros<;>kernel_rfl
theorem ct4 (n b:Bool) (x:W4) (ex e:Int):Zs (Zf (Ze prog Zi Ztr true) 300 155 [vN n ex x b,.int .i64 e] [cmp true,cmp false,cmp true]) (ctV x ex e 1) [(ZnC x (dn1 ex e)==0,true),lok x (dn1 ex e),(dnI ex e==0,false),lok x (dnI ex e),(ZgM x (dnI ex e),true)]:=by and_intros<;>kernel_rfl
theorem ct5 (n:Bool) (x:W4) (ex e:Int):Zs (Zf (Ze prog Zi Ztr true) 300 155 [vN n ex x true,.int .i64 e] [cmp true,cmp false,cmp false]) (ctV x ex e 3) [(ZnC x (dn1 ex e)==0,false),lok x (dn1 ex e),(dnI ex e==0,false),lok x (dnI ex e),(ZgM x (dnI ex e),true)]:=by and_intros<;>kernel_rfl
def bkW (x:W4) (ex e:Int):W4:=Zee (ofN (tw (Zkd x (dnI ex e)) true)) (dn1 ex e)
theorem ct6 (n:Bool) (x:W4) (ex e:Int) (d:Bool):Zs (Zf (Ze prog Zi Ztr true) 300 155 [vN n ex x false,.int .i64 e] [cmp true,cmp false,cmp false,sam d]) (ctV x ex e (match d with | true=>3 | false=>2)) [(!(eqW x (bkW x ex e)),d),lok (ofN (tw (Zkd x (dnI ex e)) true)) (dn1 ex e),(decide (Zkd x (dnI ex e)).ok,true),(ZnC x (dn1 ex e)==0,false),lok x (dn1 ex e),(dnI ex e==0,false),lok x (dnI ex e),(ZgM x (dnI ex e),true)]:=by
 cases d<;>exact by and_intros<;>kernel_rfl
end Go.Proofs.YtgefjidphfdhdaaGreatDoor
