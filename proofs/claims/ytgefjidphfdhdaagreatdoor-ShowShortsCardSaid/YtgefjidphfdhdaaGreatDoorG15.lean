/-
  ShM, ShG, ShO, ShP, RdA, RdB
-/
import Derived.Test.YtgefjidphfdhdaaGreatDoorG14
import Derived.Lib.Walk
import Derived.Lib.ItoaMem
import Derived.BigCall
import Derived.BigGuard
namespace Go.Proofs.YtgefjidphfdhdaaGreatDoor
open Go.Proofs.Tryz
open Go.IntKind
open Go.KRun Go.Nt Go.Rd Go.Wd Go.Pt
set_option maxRecDepth 100000
def sAt (S:Nat) (E j:Int):Nat:=Z9 E j (4*S)
def sMo (S:Nat) (E j:Int):Bool:=Za7 E j (4*S)
def sLo (S:Nat) (E j:Int):Nat:=Z9 E j (mdL S E)+(if Za7 E j (mdL S E)=true∨S % 2=1 then 1 else 0)
def sHi (S:Nat) (E j:Int):Nat:=Z9 E j (mdH S)-(if Za7 E j (mdH S)=false∧S % 2=1 then 1 else 0)
theorem ZtE {S:Nat}{E:Int}(h0:S≠0) (hE: -1074≤E) (hE1:E≤972) (hS:S<9007199254740992):(100000000000000000*ZaS E (lgS S E-17)≤4*S*ovN E (lgS S E-17)∧4*S*ovN E (lgS S E-17)<10000000000000000000*ZaS E (lgS S E-17))∧ -400≤lgS S E-17∧lgS S E-17≤300:=by
 obtain⟨bd,h1,h2⟩:=Zt3 h0 hE hE1 hS;obtain⟨j,hj⟩:∃ j,j=lgS S E-17:=⟨_,rfl⟩;have hb:=zP E (-j);have hu:=ZfN E j;have a:=Zet (a:=1) 17 (by rw[Nat.one_mul];exact h1);have b:=ZfK (a:=1) 19 (by rw[Nat.one_mul];exact h2);rw[show -(lgS S E)+((17:Nat):Int)= -j by omega,Nat.one_mul] at a;rw[show -(lgS S E+2)+((19:Nat):Int)= -j by omega,Nat.one_mul] at b;have e17:(10:Nat)^17=100000000000000000:=rfl;have e19:(10:Nat)^19=10000000000000000000:=rfl;rw[e17] at a;rw[e19] at b;have hc:=Zjp S E j;rw[← hj];refine⟨⟨?_,?_⟩,by omega,by omega⟩
 ·refine Nat.le_of_mul_le_mul_right (c:=pbN E (-j)) ?_ hb;rw[hc];have:=Nat.mul_le_mul_right (ZaS E j) a;have e:100000000000000000*ZaS E j*pbN E (-j)=100000000000000000*pbN E (-j)*ZaS E j:=by ac_rfl
  rw[e];exact this
 ·refine Nat.lt_of_mul_lt_mul_right (a:=pbN E (-j)) ?_;rw[hc];have:=Nat.mul_lt_mul_of_pos_right b hu;have e:10000000000000000000*ZaS E j*pbN E (-j)=10000000000000000000*pbN E (-j)*ZaS E j:=by ac_rfl
  rw[e];exact this
theorem ZwI {S:Nat}{E:Int}(h0:S≠0) (hE: -1074≤E) (hE1:E≤972) (hS:S<9007199254740992) {x:Nat}(h1:2*S≤x) (h2:x≤6*S):50000000000000000≤Z9 E (lgS S E-17) x∧Z9 E (lgS S E-17) x<15000000000000000000:=by
 obtain⟨⟨a,b⟩,_⟩:=ZtE h0 hE hE1 hS;obtain⟨j,hj⟩:∃ j,j=lgS S E-17:=⟨_,rfl⟩;rw[← hj] at a b ⊢;have hu:=ZfN E j;unfold Z9;have m1:=Nat.mul_le_mul_right (ovN E j) h1;have m2:=Nat.mul_le_mul_right (ovN E j) h2;obtain⟨X,hX⟩:∃ X,X=S*ovN E j:=⟨_,rfl⟩;have e4:4*S*ovN E j=4*X:=by rw[hX,Nat.mul_assoc]
 have e2:2*S*ovN E j=2*X:=by rw[hX,Nat.mul_assoc]
 have e6:6*S*ovN E j=6*X:=by rw[hX,Nat.mul_assoc]
 rw[e4] at a b;rw[e2] at m1;rw[e6] at m2;obtain⟨Y,hY⟩:∃ Y,Y=x*ovN E j:=⟨_,rfl⟩;obtain⟨u,hu0⟩:∃ u,u=ZaS E j:=⟨_,rfl⟩;rw[← hY] at m1 m2 ⊢;rw[← hu0] at a b hu ⊢;exact⟨(Nat.le_div_iff_mul_le hu).2 (by omega),(Nat.div_lt_iff_lt_mul hu).2 (by omega)⟩
theorem Z1J {e q:Int}{P P' O U:Nat}{H:Hp}{x V:Nat}{d:Bool}(r1:Na.IsR H (a14 6) (t14 (Zgi e q P) O) (Zgi e q P) O) (r2:Na.IsR H (a14 7) (t14 (ZgR e q P') U) (ZgR e q P') U) (n1:t14 (Zgi e q P) O≤300) (n2:t14 (ZgR e q P') U≤300) (hO:O≠0) (hU:U≠0) (hx:1≤x∧x<18446744073709551616) (hV:x*O/U=V) (hb:4294967296≤V∧V<18446744073709551616) (hd:decide (x*O % U≠0)=d) {l:Log}(hl:Zx l):Zx (lTi e q P P' O U H (x:Nat) V d l):=by
 unfold lTi;rw[Xg];exact Za (ZnX r1 n1) (Za (ZnX r2 n2) (Za (Xa (by rw[hV])) (Za hd (Za (Xa ⟨by omega,by omega,hO,hU,by omega,by omega⟩) hl))))
theorem Zd1 {z:Int}(h0:0≤z) (h1:z<18446744073709551616):u64.wrap z=z:=by
 simp [IntKind.wrap,IntKind.bits,IntKind.signed];omega
theorem ZrE (m:Bool) (c E:Int) (S:Nat) (h0:S≠0) (hS:S<9007199254740992) (hE: -1074≤E) (hE1:E≤972) (w:World):Calls prog 60 #[vP m c E S] w fun r w'=>r= .returned (vSp (sLo S E (lgS S E-17)) (sHi S E (lgS S E-17)) (sAt S E (lgS S E-17)) (sMo S E (lgS S E-17)) (lgS S E-17))∧Za0 w w':=by
 obtain⟨_,j1,j2⟩:=ZtE h0 hE hE1 hS;have bA:=ZwI h0 hE hE1 hS (x:=4*S) (by omega) (by omega);have mL:2*S≤mdL S E∧mdL S E≤6*S:=by unfold mdL;split<;>omega
 have mH:2*S≤mdH S∧mdH S≤6*S:=by unfold mdH;omega
 have bL:=ZwI h0 hE hE1 hS (x:=mdL S E) mL.1 mL.2;have bH:=ZwI h0 hE hE1 hS (x:=mdH S) mH.1 mH.2;obtain⟨j,hj⟩:∃ j,j=lgS S E-17:=⟨_,rfl⟩;rw[← hj] at j1 j2 bA bL bH ⊢;have eT:spT E S=j:=by unfold spT;rw[Xg,← hj,Zw (by omega) (by omega)]
 obtain⟨a,ha⟩:∃ a,a=(-j).toNat:=⟨_,rfl⟩;obtain⟨b,hb⟩:∃ b,b=j.toNat:=⟨_,rfl⟩;obtain⟨k,hk⟩:∃ k,k=(E-2).toNat:=⟨_,rfl⟩;obtain⟨g,hg⟩:∃ g,g=(2-E).toNat:=⟨_,rfl⟩;have eN:mx0 (spN E S)=((a:Nat):Int):=by unfold spN;rw[eT,Zw (by omega) (by omega),ZfQ];omega
 have eN':mx0 (i64.wrap (0-spN E S))=((b:Nat):Int):=by unfold spN;rw[eT,Zw (n:=0-j) (by omega) (by omega),Zw (by omega) (by omega),ZfQ];omega
 have eW:mx0 (spW E)=((k:Nat):Int):=by unfold spW;rw[Zw (by omega) (by omega),ZfQ,hk]
 have eW':mx0 (i64.wrap (0-spW E))=((g:Nat):Int):=by unfold spW;rw[Zw (n:=E-2) (by omega) (by omega),Zw (by omega) (by omega),ZfQ];omega
 obtain⟨P,hP⟩:∃ P,P=10^a:=⟨_,rfl⟩;obtain⟨P',hP'⟩:∃ P',P'=10^b:=⟨_,rfl⟩;obtain⟨O,hO⟩:∃ O,O=P*2^k:=⟨_,rfl⟩;obtain⟨U,hU⟩:∃ U,U=P'*2^g:=⟨_,rfl⟩;have eO:ovN E j=O:=by unfold ovN;rw[hO,hP,← ha,← hk,Nat.mul_comm]
 have eU:ZaS E j=U:=by unfold ZaS;rw[hU,hP',← hb,← hg,Nat.mul_comm]
 have P0:P≠0:=by rw[hP];exact ZaO a
 have P0':P'≠0:=by rw[hP'];exact ZaO b
 have O0:O≠0:=by rw[hO];exact Zcd P0 (fun c=>by have:=Nat.pow_pos (n:=k) (show 0<2 by omega);omega)
 have U0:U≠0:=by rw[hU];exact Zcd P0' (fun c=>by have:=Nat.pow_pos (n:=g) (show 0<2 by omega);omega)
 have cP:ZtC E S=Na.pMi 10 ((a:Nat):Int):=by unfold ZtC;rw[eN]
 have cQ:ZtD E S=Na.pMi 10 ((b:Nat):Int):=by unfold ZtD;rw[eN']
 obtain⟨rP,lP⟩:=Z1D (H:=Z6C m c E S P P') (i:=4) (b:=10) (k:=a) (.inl rfl) (by omega) (by rw[← hP];unfold Z6C;rw[cP];rfl);obtain⟨rQ,lQ⟩:=Z1D (H:=Z6D m c E S P P' O) (i:=5) (b:=10) (k:=b) (.inl rfl) (by omega) (by rw[← hP'];unfold Z6D;rw[cQ];rfl);rw[← hP] at rP lP;rw[← hP'] at rQ lQ;have tP:t14 (Na.pMi 10 ((a:Nat):Int)) P=(Na.d32 P).length:=rP.2.2.2.1;have tQ:t14 (Na.pMi 10 ((b:Nat):Int)) P'=(Na.d32 P').length:=rQ.2.2.2.1;have cO:Zgi E S P=k/32+((Na.d32 P).length+1):=by unfold Zgi;rw[cP,eW,tP,Z4q]
 have cU:ZgR E S P'=g/32+((Na.d32 P').length+1):=by unfold ZgR;rw[cQ,eW',tQ,Z4q]
 have hOl:O<4294967296^Zgi E S P:=by
  have:=Z1E (k:=k) (Na.ZcG P);rw[Z4q,← hO] at this;rw[cO];exact this
 have hUl:U<4294967296^ZgR E S P':=by
  have:=Z1E (k:=g) (Na.ZcG P');rw[Z4q,← hU] at this;rw[cU];exact this
 have tO:t14 (Zgi E S P) O≤300:=by
  have:=zQ (dg (Zgi E S P) (O:Int));rw[ZZ] at this;unfold t14;omega
 have tU':t14 (ZgR E S P') U≤300:=by
  have:=zQ (dg (ZgR E S P') (U:Int));rw[ZZ] at this;unfold t14;omega
 have rO:∀ l a d,Na.IsR (Z1I m c E S P P' O U l a d) (a14 6) (t14 (Zgi E S P) O) (Zgi E S P) O:=fun l a d=>Na.Zko rfl hOl (by omega);have rU:∀ l a d,Na.IsR (Z1I m c E S P P' O U l a d) (a14 7) (t14 (ZgR E S P') U) (ZgR E S P') U:=fun l a d=>Na.Zko rfl hUl (by omega);have e4:sp4 S=((4*S:Nat):Int):=by unfold sp4;rw[Zd1 (by omega) (by omega)];omega
 have eHi:Z6F S=((mdH S:Nat):Int):=by unfold Z6F mdH;rw[e4,Zd1 (by omega) (by omega)];omega
 have okF14':ZnZ E S=true:=Xa (by omega);have key:∀ (i:Nat) (L':Int),Zx (lPo E S i)→ZwH (Nat.beq i 1) S=((mdL S E:Nat):Int)→Zx (Zb7 m c E S P P' O U (Z9 E j (4*S)) (Z9 E j (mdL S E)) (Z9 E j (mdH S)) (sMo S E j) i (decide (S % 2=0)) (Za7 E j (mdL S E)) (Za7 E j (mdH S)) L'):=by
  intro i L' hi hlo;unfold Zb7;rw[e4,eHi,hlo];have pre:Zx (Z6E m c E S P P' O U (decide (S % 2=0)) (lPo E S i)):=by
   unfold Z6E;refine Za ?_ (Za rfl ?_)
   ·rw[Int.tmod_eq_emod_of_nonneg (by omega)];have:((((S:Nat):Int) % 2==0):Bool)=decide (((S:Nat):Int) % 2=0):=rfl;rw[this];exact decide_eq_decide.2 (by omega)
   ·rw[eW',eW,eN',eN,cP,cQ];have l1:=Zju (b:=10) (k:=a) (.inl rfl) (by omega) (Za okF14' hi);have l2:=Zju (b:=10) (k:=b) (.inl rfl) (by omega) l1;rw[← hP,← hP'] at l2;have l3:=Zjv rP P0 (k:=k) (by omega) l2;rw[← hO] at l3;have l4:=Zjv rQ P0' (k:=g) (by omega) l3;rw[← hU] at l4;exact l4
  have mk:∀ (x:Nat) (H:Hp) (l:Log),Na.IsR H (a14 6) (t14 (Zgi E S P) O) (Zgi E S P) O→Na.IsR H (a14 7) (t14 (ZgR E S P') U) (ZgR E S P') U→2*S≤x→x≤6*S→50000000000000000≤Z9 E j x∧Z9 E j x<15000000000000000000→Zx l→Zx (lTi E S P P' O U H (x:Nat) (Z9 E j x) (Za7 E j x) l):=by
   intro x H l r1 r2 x1 x2 hb hl;refine Z1J r1 r2 tO tU' O0 U0 (by omega) ?_ (by omega) ?_ hl
   ·unfold Z9;rw[eO,eU]
   ·unfold Za7;rw[eO,eU]
  exact mk _ _ _ (rO _ _ _) (rU _ _ _) mH.1 mH.2 bH (mk _ _ _ (rO _ _ _) (rU _ _ _) mL.1 mL.2 bL (mk _ _ _ (rO _ _ _) (rU _ _ _) (by omega) (by omega) bA pre))
 have wL:u64.wrap (((Z9 E j (mdL S E):Nat):Int)+1)=((Z9 E j (mdL S E)+1:Nat):Int):=by rw[Zd1 (by omega) (by omega)];omega
 have wH:u64.wrap (((Z9 E j (mdH S):Nat):Int)-1)=((Z9 E j (mdH S)-1:Nat):Int):=by rw[Zd1 (by omega) (by omega)];omega
 have lo0:¬ (S=4503599627370496∧ -1074<E)→∀ i,Nat.beq i 1=false→ZwH (Nat.beq i 1) S=((mdL S E:Nat):Int):=by
  intro hn i hi;rw[hi];unfold ZwH mdL;rw[if_neg (by decide),if_neg hn,e4,Zd1 (by omega) (by omega)];omega
 unfold sLo sHi sAt;by_cases h52:S=4503599627370496
 ·have hev:S % 2=0:=by omega
  have hp:decide (S % 2=0)=true:=Xa hev;by_cases hEl: -1074<E
  ·have hi:Zx (lPo E S 1):=Za (Xa (by omega)) (Z5 (za (by omega)));have hlo:ZwH (Nat.beq 1 1) S=((mdL S E:Nat):Int):=by
    show ZwH true S=_;unfold ZwH mdL;rw[if_pos rfl,if_pos ⟨h52,hEl⟩,e4,Zd1 (by omega) (by omega)];omega
   cases hd1:Za7 E j (mdL S E) with
   | true=>
    cases hd2:Za7 E j (mdH S) with
    | true=>
     have f:=Zoi m c E S P P' O U (Z9 E j (4*S)) (Z9 E j (mdL S E)) (Z9 E j (mdH S)) (sMo S E j);have lg:=key 1 (u64.wrap (((Z9 E j (mdL S E):Nat):Int)+1)) hi hlo;rw[hd1,hd2,hp] at lg;rw[wL,eT] at f;rw[wL] at lg;rw[if_pos (.inl rfl),if_neg (fun h=>by cases h.1)];exact Ze Zcb f lg (by rfl) (by rfl) w
    | false=>
     have f:=Zoj m c E S P P' O U (Z9 E j (4*S)) (Z9 E j (mdL S E)) (Z9 E j (mdH S)) (sMo S E j);have lg:=key 1 (u64.wrap (((Z9 E j (mdL S E):Nat):Int)+1)) hi hlo;rw[hd1,hd2,hp] at lg;rw[wL,eT] at f;rw[wL] at lg;rw[if_pos (.inl rfl),if_neg (fun h=>by omega)];exact Ze Zcb f lg (by rfl) (by rfl) w
   | false=>
    cases hd2:Za7 E j (mdH S) with
    | true=>
     have f:=Zok m c E S P P' O U (Z9 E j (4*S)) (Z9 E j (mdL S E)) (Z9 E j (mdH S)) (sMo S E j);have lg:=key 1 (((Z9 E j (mdL S E):Nat):Int)) hi hlo;rw[hd1,hd2,hp] at lg;rw[eT] at f;rw[if_neg (fun h=>h.elim (fun h=>by cases h) (fun h=>by omega)),if_neg (fun h=>by cases h.1)];exact Ze Zcb f lg (by rfl) (by rfl) w
    | false=>
     have f:=Zol m c E S P P' O U (Z9 E j (4*S)) (Z9 E j (mdL S E)) (Z9 E j (mdH S)) (sMo S E j);have lg:=key 1 (((Z9 E j (mdL S E):Nat):Int)) hi hlo;rw[hd1,hd2,hp] at lg;rw[eT] at f;rw[if_neg (fun h=>h.elim (fun h=>by cases h) (fun h=>by omega)),if_neg (fun h=>by omega)];exact Ze Zcb f lg (by rfl) (by rfl) w
  ·have hi:Zx (lPo E S 2):=Za (Xb (by omega)) (Z5 (za (by omega)));have hlo:=lo0 (fun h=>hEl h.2) 2 rfl;cases hd1:Za7 E j (mdL S E) with
   | true=>
    cases hd2:Za7 E j (mdH S) with
    | true=>
     have f:=Zom m c E S P P' O U (Z9 E j (4*S)) (Z9 E j (mdL S E)) (Z9 E j (mdH S)) (sMo S E j);have lg:=key 2 (u64.wrap (((Z9 E j (mdL S E):Nat):Int)+1)) hi hlo;rw[hd1,hd2,hp] at lg;rw[wL,eT] at f;rw[wL] at lg;rw[if_pos (.inl rfl),if_neg (fun h=>by cases h.1)];exact Ze Zcb f lg (by rfl) (by rfl) w
    | false=>
     have f:=Zon m c E S P P' O U (Z9 E j (4*S)) (Z9 E j (mdL S E)) (Z9 E j (mdH S)) (sMo S E j);have lg:=key 2 (u64.wrap (((Z9 E j (mdL S E):Nat):Int)+1)) hi hlo;rw[hd1,hd2,hp] at lg;rw[wL,eT] at f;rw[wL] at lg;rw[if_pos (.inl rfl),if_neg (fun h=>by omega)];exact Ze Zcb f lg (by rfl) (by rfl) w
   | false=>
    cases hd2:Za7 E j (mdH S) with
    | true=>
     have f:=Zoo m c E S P P' O U (Z9 E j (4*S)) (Z9 E j (mdL S E)) (Z9 E j (mdH S)) (sMo S E j);have lg:=key 2 (((Z9 E j (mdL S E):Nat):Int)) hi hlo;rw[hd1,hd2,hp] at lg;rw[eT] at f;rw[if_neg (fun h=>h.elim (fun h=>by cases h) (fun h=>by omega)),if_neg (fun h=>by cases h.1)];exact Ze Zcb f lg (by rfl) (by rfl) w
    | false=>
     have f:=Zop m c E S P P' O U (Z9 E j (4*S)) (Z9 E j (mdL S E)) (Z9 E j (mdH S)) (sMo S E j);have lg:=key 2 (((Z9 E j (mdL S E):Nat):Int)) hi hlo;rw[hd1,hd2,hp] at lg;rw[eT] at f;rw[if_neg (fun h=>h.elim (fun h=>by cases h) (fun h=>by omega)),if_neg (fun h=>by omega)];exact Ze Zcb f lg (by rfl) (by rfl) w
 ·have hi:Zx (lPo E S 0):=Z5 (ZR (by omega));have hlo:=lo0 (fun h=>h52 h.1) 0 rfl;by_cases hev:S % 2=0
  ·have hp:decide (S % 2=0)=true:=Xa hev;cases hd1:Za7 E j (mdL S E) with
   | true=>
    cases hd2:Za7 E j (mdH S) with
    | true=>
     have f:=Zoa m c E S P P' O U (Z9 E j (4*S)) (Z9 E j (mdL S E)) (Z9 E j (mdH S)) (sMo S E j);have lg:=key 0 (u64.wrap (((Z9 E j (mdL S E):Nat):Int)+1)) hi hlo;rw[hd1,hd2,hp] at lg;rw[wL,eT] at f;rw[wL] at lg;rw[if_pos (.inl rfl),if_neg (fun h=>by cases h.1)];exact Ze Zcb f lg (by rfl) (by rfl) w
    | false=>
     have f:=Zob m c E S P P' O U (Z9 E j (4*S)) (Z9 E j (mdL S E)) (Z9 E j (mdH S)) (sMo S E j);have lg:=key 0 (u64.wrap (((Z9 E j (mdL S E):Nat):Int)+1)) hi hlo;rw[hd1,hd2,hp] at lg;rw[wL,eT] at f;rw[wL] at lg;rw[if_pos (.inl rfl),if_neg (fun h=>by omega)];exact Ze Zcb f lg (by rfl) (by rfl) w
   | false=>
    cases hd2:Za7 E j (mdH S) with
    | true=>
     have f:=Zoc m c E S P P' O U (Z9 E j (4*S)) (Z9 E j (mdL S E)) (Z9 E j (mdH S)) (sMo S E j);have lg:=key 0 (((Z9 E j (mdL S E):Nat):Int)) hi hlo;rw[hd1,hd2,hp] at lg;rw[eT] at f;rw[if_neg (fun h=>h.elim (fun h=>by cases h) (fun h=>by omega)),if_neg (fun h=>by cases h.1)];exact Ze Zcb f lg (by rfl) (by rfl) w
    | false=>
     have f:=Zod m c E S P P' O U (Z9 E j (4*S)) (Z9 E j (mdL S E)) (Z9 E j (mdH S)) (sMo S E j);have lg:=key 0 (((Z9 E j (mdL S E):Nat):Int)) hi hlo;rw[hd1,hd2,hp] at lg;rw[eT] at f;rw[if_neg (fun h=>h.elim (fun h=>by cases h) (fun h=>by omega)),if_neg (fun h=>by omega)];exact Ze Zcb f lg (by rfl) (by rfl) w
  ·have hp:decide (S % 2=0)=false:=Xb hev;have hodd:S % 2=1:=by omega
   cases hd1:Za7 E j (mdL S E) with
   | true=>
    cases hd2:Za7 E j (mdH S) with
    | true=>
     have f:=Zoe m c E S P P' O U (Z9 E j (4*S)) (Z9 E j (mdL S E)) (Z9 E j (mdH S)) (sMo S E j);have lg:=key 0 (u64.wrap (((Z9 E j (mdL S E):Nat):Int)+1)) hi hlo;rw[hd1,hd2,hp] at lg;rw[wL,eT] at f;rw[wL] at lg;rw[if_pos (.inl rfl),if_neg (fun h=>by cases h.1)];exact Ze Zcb f lg (by rfl) (by rfl) w
    | false=>
     have f:=Zof m c E S P P' O U (Z9 E j (4*S)) (Z9 E j (mdL S E)) (Z9 E j (mdH S)) (sMo S E j);have lg:=key 0 (u64.wrap (((Z9 E j (mdL S E):Nat):Int)+1)) hi hlo;rw[hd1,hd2,hp] at lg;rw[wL,wH,eT] at f;rw[wL] at lg;rw[if_pos (.inl rfl),if_pos ⟨rfl,hodd⟩];exact Ze Zcb f lg (by rfl) (by rfl) w
   | false=>
    cases hd2:Za7 E j (mdH S) with
    | true=>
     have f:=Zog m c E S P P' O U (Z9 E j (4*S)) (Z9 E j (mdL S E)) (Z9 E j (mdH S)) (sMo S E j);have lg:=key 0 (u64.wrap (((Z9 E j (mdL S E):Nat):Int)+1)) hi hlo;rw[hd1,hd2,hp] at lg;rw[wL,eT] at f;rw[wL] at lg;rw[if_pos (.inr hodd),if_neg (fun h=>by cases h.1)];exact Ze Zcb f lg (by rfl) (by rfl) w
    | false=>
     have f:=Zoh m c E S P P' O U (Z9 E j (4*S)) (Z9 E j (mdL S E)) (Z9 E j (mdH S)) (sMo S E j);have lg:=key 0 (u64.wrap (((Z9 E j (mdL S E):Nat):Int)+1)) hi hlo;rw[hd1,hd2,hp] at lg;rw[wL,wH,eT] at f;rw[wL] at lg;rw[if_pos (.inr hodd),if_pos ⟨rfl,hodd⟩];exact Ze Zcb f lg (by rfl) (by rfl) w
def Z6G:Ans:=fun vals s=>
 match vals with
 | [v]=>
  match vP4 v with
  | some (_,_,E,q)=>some (vSp (sLo q.toNat E (lgS q.toNat E-17)) (sHi q.toNat E (lgS q.toNat E-17)) (sAt q.toNat E (lgS q.toNat E-17)) (sMo q.toNat E (lgS q.toNat E-17)) (lgS q.toNat E-17),s,[(ZnZ E q,true)])
  | none=>none
 | _=>none
theorem ZwJ:zT 60 Z6G:=by
 intro vals s v s' lg h hl w;unfold Z6G at h;split at h
 ·split at h
  ·rename_i o m c E q hv;rw[ZdI hv];cases h;obtain⟨h1,h2,h3,h4⟩:=Xc (hl _ Xf);obtain⟨k,rfl⟩:∃ k:Nat,q=k:=⟨q.toNat,by omega⟩;exact ZrE m c E k (by omega) (by omega) h3 h4 w
  ·cases h
 ·cases h
end Go.Proofs.YtgefjidphfdhdaaGreatDoor
namespace Go.Proofs.YtgefjidphfdhdaaGreatDoor
open Go.Proofs.Tryz
open Go.KRun Go.Rd Go.RowKit Go.Sort Go.Lib Go.Shelf
set_option maxRecDepth 100000
theorem Zia (w:World) (T:TypeId) (nd:Nat) (hs:nd≤24):Holds (fun (b:UInt8)=>Value.int .u8 (b.toNat:Int)) (w.alloc (.cells zeros24 T)) w.heap.size 0 (Array.replicate nd (0:UInt8)):=fun j hj=>by
 have hj':j<nd:=by simpa using hj
 refine⟨?_,World.frozen?_alloc_new _ _ _ _⟩;rw[World.cell?_alloc_new,zeros24_at _ (by omega),getElem!_pos _ j hj];simp
theorem ZrF (w:World) (o:Obj) (dk:Array UInt8) (k:Nat):∃ os,(putRow (fun (b:UInt8)=>Value.int .u8 (b.toNat:Int)) (w.alloc o) w.heap.size 0 dk).drewN k=grow (w.drewN k) os:=by
 rw[alloc_eq_grow];obtain⟨os',_,e⟩:=putRow_grow_new (fun (b:UInt8)=>Value.int .u8 (b.toNat:Int)) w #[o] w.heap.size 0 dk (Nat.le_refl _);exact⟨os',by rw[e];rfl⟩
set_option maxHeartbeats 6400000 in
theorem Zoq (u:Nat) (h100:100≤u) (hu64:u<18446744073709551616) (w:World) (hk:knT w):Calls prog 162 #[.int .u64 u,.int .i64 10] w fun e w'=>e= .returned (.string ⟨(Lib.decDigits u).toArray⟩)∧∃ k os,w'=grow (w.drewN k) os:=by
 have hu1:1≤u:=by omega
 have hnd20:Lib.nDigits u≤20:=by have:=Lib.numDigits_eq u hu1 hu64;split at this<;>omega
 have hal:prog.arrayLen 239=24:=by kernel_rfl
 have hsl1:∀ W,(Instr.sliceAt 239 (.pointer (some ⟨w.heap.size,0,none⟩)) none (some (.int .i64 (Lib.nDigits u:Int))) none).run prog W= .ok (.slice (some ⟨w.heap.size,0,none⟩) (Lib.nDigits u) 24) W:=fun W=>by
  rw[run_sliceAt_array_h W 239 ⟨w.heap.size,0,none⟩ (by kernel_rfl) .i64 (Lib.nDigits u:Int) (by omega) (by rw[hal];omega)];rw[hal];rfl
 have hH0:=Zia w 239 (Lib.nDigits u) (by omega);have hfmt:Calls prog 180 #[.slice (some ⟨w.heap.size,0,none⟩) (Array.replicate (Lib.nDigits u) (0:UInt8)).size 24,.int .u64 u] (w.alloc (.cells Lib.zeros24 239)) fun e w'=>e= .returned (.tuple #[])∧∃ (n v':Nat) (dk:Array UInt8),w'=(putRow (fun (b:UInt8)=>Value.int .u8 (b.toNat:Int)) (w.alloc (.cells Lib.zeros24 239)) w.heap.size 0 dk).drewN n∧FmtInv (Array.replicate (Lib.nDigits u) (0:UInt8)).size u 0 v' dk:=Any.internal_strconv_formatBase10 {ZfH with} w.heap.size 0 24 u (Array.replicate (Lib.nDigits u) 0) _ hH0 (by rw[Array.size_replicate];exact Lib.lt_pow_nDigits u) hu64 (by rw[Array.size_replicate];omega);rw[Array.size_replicate] at hfmt;have htab:knT (w.alloc (.cells Lib.zeros24 239)):=by
  obtain⟨t,z,h⟩:=hk;refine⟨t,z,?_⟩;rw[Za6 _ _ _ (Nat.ne_of_lt (Array.getElem?_eq_some_iff.1 h).1),h]
 have hnum:Calls prog 179 #[.int .u64 u] (w.alloc (.cells Lib.zeros24 239)) fun e w'=>e= .returned (.int .i64 (Lib.nDigits u:Nat))∧w'=w.alloc (.cells Lib.zeros24 239):=Any.internal_strconv_numDigits {ZfH with} u hu1 hu64 _ (Zjq htab (by kernel_rfl));have HH0:=Lib.hid hH0;have hlt:¬ (u:Int)<100:=by omega
 clear hH0 hal
 go_enter func162,ntmps162
 go_wp2_with (go_at_call 179;refine hnum.mono ?_;rintro e w' ⟨rfl,rfl⟩)
 go_at_call 180
 refine hfmt.mono ?_;rintro e w' ⟨rfl,k,v',dk,rfl,hF⟩;have hcv:(convert 142 9 (.slice (some ⟨w.heap.size,0,none⟩) (Lib.nDigits u) 24)).run prog ((putRow (fun (b:UInt8)=>Value.int .u8 (b.toNat:Int)) (w.alloc (.cells Lib.zeros24 239)) w.heap.size 0 dk).drewN k)= .ok (.string ⟨(Lib.decDigits u).toArray⟩) ((putRow (fun (b:UInt8)=>Value.int .u8 (b.toNat:Int)) (w.alloc (.cells Lib.zeros24 239)) w.heap.size 0 dk).drewN k):=by
  have h:=run_convert_bytes_back (P:=prog) ((putRow (fun (b:UInt8)=>Value.int .u8 (b.toNat:Int)) (w.alloc (.cells Lib.zeros24 239)) w.heap.size 0 dk).drewN k) 142 9 5 ⟨w.heap.size,0,none⟩ 24 (Lib.decDigits u) underlying142 underlying5 underlying9 (fun j hj=>by
   rw[Lib.row_is_numeral hF j hj,Lib.add_plain,World.cell?_drewN];exact cell?_putRow (fun (b:UInt8)=>Value.int .u8 (b.toNat:Int)) _ w.heap.size 0 _ dk HH0.out (by rw[hF.size,Array.size_replicate]) j (by rw[hF.size];rw[Lib.decDigits_length] at hj;exact hj))
  rw[Lib.decDigits_length] at h;exact h
 go_wp2
 go_ret
 obtain⟨os,eo⟩:=ZrF w (.cells Lib.zeros24 239) dk k;exact⟨rfl,k,os,eo⟩
set_option maxHeartbeats 6400000 in
theorem ZrG (u:Nat) (h100:100≤u) (hu64:u<18446744073709551616) (w:World) (hk:knT w):Calls prog 118 #[.int .u64 u,.int .i64 10] w fun e w'=>e= .returned (bR (dcL u))∧Za0 w w':=by
 have h:=Zoq u h100 hu64 w hk;rw[ZhU hu64] at h
 go_enter func118,ntmps118
 go_wp2_with (go_at_call 162;refine h.mono ?_;rintro e w' ⟨rfl,k,os,rfl⟩)
 go_ret
 exact⟨rfl,Zdl (Zdy w k os)⟩
def Z6H:Ans:=fun vals s=>
 match vals with
 | [.int .u64 n,.int .i64 b]=>some (bR (dcL n.toNat),s,[(decide (100≤n∧n<18446744073709551616∧b=10),true)])
 | _=>none
theorem ZwK:Zce 118 Z6H:=by
 intro vals s v s' lg h hl w hk;unfold Z6H at h;split at h
 ·cases h;obtain⟨h1,h2,h3⟩:=Xc (hl _ Xf);rename_i n b;obtain⟨u,rfl⟩:∃ u:Nat,n=u:=⟨n.toNat,by omega⟩;subst h3;exact ZrG u (by omega) (by omega) w hk
 ·cases h
end Go.Proofs.YtgefjidphfdhdaaGreatDoor
namespace Go.Proofs.YtgefjidphfdhdaaGreatDoor
open Go.Proofs.Tryz
open Go.IntKind
open Go.KRun Go.Nt Go.Rd Go.Wd Go.Pt
set_option maxRecDepth 100000
set_option linter.unusedVariables false
def Z1K:Value→Option (Int×Int×Int×Bool×Int)
 | .agg cs=>
  match cs.toList with
  | [.int .u64 l,.int .u64 h,.int .u64 a,.bool d,.int .i64 t]=>some (l,h,a,d,t)
  | _=>none
 | _=>none
theorem ZgS {v:Value}{l h a:Int}{d:Bool}{t:Int}(hv:Z1K v=some (l,h,a,d,t)):v=vSp l h a d t:=by
 unfold Z1K at hv;split at hv
 ·rename_i cs;split at hv
  ·rename_i hc;cases hv;obtain⟨l⟩:=cs;simp only at hc;subst hc;rfl
  ·cases hv
 ·cases hv
theorem Z1L (l h a t u q:Int) (d:Bool):ZD (Zr (Zq prog Zf Zo true) 200 61 [vSp l h a d t,.int .u64 u] [num q,cmp false,cmp true]) (.tuple #[.int .u64 (u64.wrap (u64.wrap (q+1)*u)),.int .u64 (u64.wrap (q*u))]) [(decide (a.tmod u>u64.wrap (u.tdiv 2)),true),(decide (u=0),false),(decide (u=0),false),(decide (u64.wrap (a.tdiv u)=q),true)]:=by and_intros<;>kernel_rfl
theorem Z1M (l h a t u q:Int):ZD (Zr (Zq prog Zf Zo true) 200 61 [vSp l h a true t,.int .u64 u] [num q,cmp false,cmp false,cmp true]) (.tuple #[.int .u64 (u64.wrap (u64.wrap (q+1)*u)),.int .u64 (u64.wrap (q*u))]) [(a.tmod u==u64.wrap (u.tdiv 2),true),(decide (a.tmod u>u64.wrap (u.tdiv 2)),false),(decide (u=0),false),(decide (u=0),false),(decide (u64.wrap (a.tdiv u)=q),true)]:=by and_intros<;>kernel_rfl
theorem Z1N (l h a t u q:Int):ZD (Zr (Zq prog Zf Zo true) 200 61 [vSp l h a false t,.int .u64 u] [num q,cmp false,cmp false,cmp true,cmp false,cmp true]) (.tuple #[.int .u64 (u64.wrap (u64.wrap (q+1)*u)),.int .u64 (u64.wrap (q*u))]) [(q.tmod 2==1,true),(decide ((2:Int)=0),false),(a.tmod u==u64.wrap (u.tdiv 2),true),(decide (a.tmod u>u64.wrap (u.tdiv 2)),false),(decide (u=0),false),(decide (u=0),false),(decide (u64.wrap (a.tdiv u)=q),true)]:=by and_intros<;>kernel_rfl
theorem Z1O (l h a t u q:Int):ZD (Zr (Zq prog Zf Zo true) 200 61 [vSp l h a false t,.int .u64 u] [num q,cmp false,cmp false,cmp true,cmp false,cmp false]) (.tuple #[.int .u64 (u64.wrap (q*u)),.int .u64 (u64.wrap (u64.wrap (q+1)*u))]) [(q.tmod 2==1,false),(decide ((2:Int)=0),false),(a.tmod u==u64.wrap (u.tdiv 2),true),(decide (a.tmod u>u64.wrap (u.tdiv 2)),false),(decide (u=0),false),(decide (u=0),false),(decide (u64.wrap (a.tdiv u)=q),true)]:=by and_intros<;>kernel_rfl
theorem Z1P (l h a t u q:Int) (d:Bool):ZD (Zr (Zq prog Zf Zo true) 200 61 [vSp l h a d t,.int .u64 u] [num q,cmp false,cmp false,cmp false]) (.tuple #[.int .u64 (u64.wrap (q*u)),.int .u64 (u64.wrap (u64.wrap (q+1)*u))]) [(a.tmod u==u64.wrap (u.tdiv 2),false),(decide (a.tmod u>u64.wrap (u.tdiv 2)),false),(decide (u=0),false),(decide (u=0),false),(decide (u64.wrap (a.tdiv u)=q),true)]:=by and_intros<;>kernel_rfl
def ZyO (a u:Nat):Bool:=decide (2≤u∧(a/u+1)*u<18446744073709551616)
def arV (d:Bool) (a u:Nat):Value:=if d=true then .tuple #[.int .u64 (((a/u+1)*u:Nat):Int),.int .u64 ((a/u*u:Nat):Int)] else .tuple #[.int .u64 ((a/u*u:Nat):Int),.int .u64 (((a/u+1)*u:Nat):Int)]
theorem ZrH (l h t:Int) (d:Bool) (a u:Nat) (hk:ZyO a u=true) (w:World):Calls prog 61 #[vSp l h a d t,.int .u64 u] w fun e w'=>e= .returned (arV (nrU a d u) a u)∧Za0 w w':=by
 have hT:=Zp Zd;obtain⟨h1,h2⟩:=Xc hk;have hdm:=Nat.div_add_mod a u;have hm:=Nat.mod_lt a (show 0<u by omega);have e1:((a:Nat):Int).tdiv ((u:Nat):Int)=((a/u:Nat):Int):=by rw[Int.tdiv_eq_ediv_of_nonneg (by omega)];exact (Int.natCast_ediv a u).symm
 have e2:((a:Nat):Int).tmod ((u:Nat):Int)=((a % u:Nat):Int):=by rw[Int.tmod_eq_emod_of_nonneg (by omega)];exact (Int.natCast_emod a u).symm
 obtain⟨q,hq⟩:∃ q,q=a/u:=⟨_,rfl⟩;have hqu:(q+1)*u=q*u+u:=by rw[Nat.add_mul,Nat.one_mul]
 rw[← hq] at h2 hdm e1;rw[Nat.mul_comm] at hdm;have q2:q≤q*u:=Nat.le_mul_of_pos_right _ (by omega);have e3:u64.wrap (((u:Nat):Int).tdiv 2)=((u/2:Nat):Int):=by rw[Int.tdiv_eq_ediv_of_nonneg (by omega),Zd1 (by omega) (by omega)];omega
 have w1:u64.wrap ((q:Nat):Int)=((q:Nat):Int):=Zd1 (by omega) (by omega);have w2:u64.wrap (((q:Nat):Int)*((u:Nat):Int))=((q*u:Nat):Int):=by rw[← Int.natCast_mul,Zd1 (by omega) (by omega)]
 have w3:u64.wrap (u64.wrap (((q:Nat):Int)+1)*((u:Nat):Int))=(((q+1)*u:Nat):Int):=by
  rw[Zd1 (z:=((q:Nat):Int)+1) (by omega) (by omega),show ((q:Nat):Int)+1=((q+1:Nat):Int) by omega,← Int.natCast_mul,Zd1 (by omega) (by omega)]
 have eo:(((q:Nat):Int).tmod 2==1)=decide (q % 2=1):=by
  rw[Int.tmod_eq_emod_of_nonneg (by omega)];have:((((q:Nat):Int) % 2==1):Bool)=decide (((q:Nat):Int) % 2=1):=rfl;rw[this];exact decide_eq_decide.2 (by omega)
 have kb:Zx [(decide (((u:Nat):Int)=0),false),(decide (((u:Nat):Int)=0),false),(decide (u64.wrap (((a:Nat):Int).tdiv ((u:Nat):Int))=((q:Nat):Int)),true)]:=Za (Xb (by omega)) (Za (Xb (by omega)) (Z5 (Xa (by rw[e1,w1]))));unfold arV nrU;rw[← hq];have kgt:∀ b,decide (u/2<a % u)=b→decide (((a:Nat):Int).tmod ((u:Nat):Int)>u64.wrap (((u:Nat):Int).tdiv 2))=b:=fun b hb=>by rw[← hb,e2,e3];exact decide_eq_decide.2 (by omega)
 have keq:∀ b,decide (a % u=u/2)=b→(((a:Nat):Int).tmod ((u:Nat):Int)==u64.wrap (((u:Nat):Int).tdiv 2))=b:=fun b hb=>by
  rw[← hb,e2,e3];have:((((a % u:Nat):Int)==((u/2:Nat):Int)):Bool)=decide (((a % u:Nat):Int)=((u/2:Nat):Int)):=rfl;rw[this];exact decide_eq_decide.2 (by omega)
 by_cases c1:u/2<a % u
 ·rw[Xa c1,Bool.true_or,if_pos rfl];have f:=Z1L l h a t u q d;rw[w2,w3] at f;exact Ze hT f (Za (kgt true (Xa c1)) kb) (by rfl) (by rfl) w
 have kb:=Za (kgt false (Xb c1)) kb;rw[Xb c1,Bool.false_or];by_cases c2:a % u=u/2
 ·have kb:=Za (keq true (Xa c2)) kb;rw[Xa c2,Bool.true_and];cases d with
  | true=>
   rw[Bool.true_or,if_pos rfl];have f:=Z1M l h a t u q;rw[w2,w3] at f;exact Ze hT f kb (by rfl) (by rfl) w
  | false=>
   rw[Bool.false_or];by_cases c3:q % 2=1
   ·rw[Xa c3,if_pos rfl];have f:=Z1N l h a t u q;rw[w2,w3] at f;exact Ze hT f (Za (by rw[eo];exact Xa c3) (Za (show decide ((2:Int)=0)=false from rfl) kb)) (by rfl) (by rfl) w
   ·rw[Xb c3,if_neg (by decide)];have f:=Z1O l h a t u q;rw[w2,w3] at f;exact Ze hT f (Za (by rw[eo];exact Xb c3) (Za (show decide ((2:Int)=0)=false from rfl) kb)) (by rfl) (by rfl) w
 ·rw[Xb c2,Bool.false_and,if_neg (by decide)];have f:=Z1P l h a t u q d;rw[w2,w3] at f;exact Ze hT f (Za (keq false (Xb c2)) kb) (by rfl) (by rfl) w
def Z6I:Ans:=fun vals s=>
 match vals,s with
 | [v,.int .u64 u],.inr (.inr (.inr (.inl true)))::s'=>
  match Z1K v with
  | some (_,_,a,d,_)=>some (arV true a.toNat u.toNat,s',[(nrU a.toNat d u.toNat,true),(ZyO a.toNat u.toNat,true),(decide (0≤a∧0≤u),true)])
  | none=>none
 | [v,.int .u64 u],.inr (.inr (.inr (.inl false)))::s'=>
  match Z1K v with
  | some (_,_,a,d,_)=>some (arV false a.toNat u.toNat,s',[(nrU a.toNat d u.toNat,false),(ZyO a.toNat u.toNat,true),(decide (0≤a∧0≤u),true)])
  | none=>none
 | _,_=>none
theorem ZwL:zT 61 Z6I:=by
 intro vals s v s' lg h hl w;unfold Z6I at h;split at h
 all_goals
  try
   split at h
   ·rename_i u s2 o l hh a d t hv;rw[ZgS hv];cases h;have l1:=hl _ Xe;have l2:ZyO a.toNat u.toNat=true:=hl _ (Xd _ Xe);obtain⟨l3,l4⟩:=Xc (hl _ (Xd _ (Xd _ Xf)));obtain⟨A,rfl⟩:∃ A:Nat,a=A:=⟨a.toNat,by omega⟩;obtain⟨K,rfl⟩:∃ K:Nat,u=K:=⟨u.toNat,by omega⟩;have:=ZrH l hh t d A K l2 w;have l1:nrU A d K=_:=l1;rw[l1] at this;exact this
   ·cases h
 cases h
theorem Z1Q (l h a t n:Int) (d d':Bool):ZD (Zr (Zq prog Zf Zo true) 200 62 [vSp l h a d t,.int .u64 n] [cmp true,cmp d']) (.bool d') [(decide (n≤h),d'),(decide (l≤n),true)]:=by and_intros<;>kernel_rfl
theorem Z1R (l h a t n:Int) (d:Bool):ZD (Zr (Zq prog Zf Zo true) 200 62 [vSp l h a d t,.int .u64 n] [cmp false]) (.bool false) [(decide (l≤n),false)]:=by and_intros<;>kernel_rfl
def Z6J:Ans:=fun vals s=>
 match vals,s with
 | [v,.int .u64 n],.inr (.inr (.inr (.inl b)))::s'=>
  match Z1K v with
  | some (l,h,_,_,_)=>some (.bool b,s',[(decide (l≤n) && decide (n≤h),b)])
  | none=>none
 | _,_=>none
theorem ZwM:zT 62 Z6J:=by
 intro vals s v s' lg h hl w;unfold Z6J at h;split at h
 ·split at h
  ·rename_i n b s2 o l hh a d t hv;rw[ZgS hv];cases h;have l1:(decide (l≤n) && decide (n≤hh))=b:=hl _ Xf;rw[← l1];by_cases c:l≤n
   ·rw[Xa c,Bool.true_and];exact Ze (Zp Zd) (Z1Q l hh a t n d _) (Za rfl (Z5 (Xa c))) (by rfl) (by rfl) w
   ·rw[Xb c,Bool.false_and];exact Ze (Zp Zd) (Z1R l hh a t n d) (Z5 (Xb c)) (by rfl) (by rfl) w
  ·cases h
 ·cases h
def ZtF:Hc:=ZY 118 (gT Z6H) hcN
theorem Zor:HcOk ZtF:=Zt func118 rfl (Zeu ZwK) zp
def Zos:Con:=alt 42 Z4o Zo
theorem Zkz:ConOk Zos:=ZM func42 rfl ZnI Zd
theorem Z9f (n t:Int):ZD (zg (Zk prog Zf Zos ZtF) hT0 200 63 [.int .u64 n,.int .i64 t] []) (vDc (trC 48 (dcL n.toNat)) (i64.wrap (i64.wrap (t+(((dcL n.toNat).length:Nat):Int))-1))) [(true,true),(decide ((dcL n.toNat).length≤100000),true),(decide (100≤n∧n<18446744073709551616∧(10:Int)=10),true)]:=by and_intros<;>kernel_rfl
def Z6K:Ans:=fun vals s=>
 match vals with
 | [.int .u64 n,.int .i64 t]=>some (vDc (trR (dcL n.toNat)) (t+(((dcL n.toNat).length:Nat):Int)-1),s,[(decide (100≤n∧n<18446744073709551616∧ -100000≤t∧t≤100000),true)])
 | _=>none
theorem ZgT (n:Nat):(dcL n).length≤20:=ZdE 20 n
theorem ZwN:Zce 63 Z6K:=by
 intro vals s v s' lg h hl w hk;unfold Z6K at h;split at h
 ·rename_i n t;cases h;obtain⟨h1,h2,h3,h4⟩:=Xc (hl _ Xf);have f:=Z9f n t;have hlen:=ZgT n.toNat;rw[Zw (n:=t+(((dcL n.toNat).length:Nat):Int)) (by omega) (by omega),Zw (by omega) (by omega)] at f;exact ZfP (Zh Zkz Zor) f (Za rfl (Za (Xa (by omega)) (Z5 (Xa ⟨h1,h2,rfl⟩)))) (by rfl) (by rfl) hk
 ·cases h
def ZbN:Con:=alt 60 Z6G (alt 61 Z6I (alt 62 Z6J Zo))
theorem ZrI:ConOk ZbN:=ZM func60 rfl ZwJ (ZM func61 rfl ZwL (ZM func62 rfl ZwM Zd))
def ZgU:Hc:=ZY 63 (gT Z6K) hcN
theorem ZwO:HcOk ZgU:=Zt func63 rfl (Zeu ZwN) zp
theorem Zew:TabOk (Zk prog Zf ZbN ZgU):=Zh ZrI ZwO
def Z4r (F:Func):Code:=cIn (cIn (sP F 3))
def ZyP (F:Func):Code:=cIn (cIn (sP F 5))
theorem ZwP:f24.body=some (ZW [sP f24 0,sP f24 1,sP f24 2] (.seq (.block 0 (.loop (Z4r f24))) (.seq (sP f24 4) (.seq (.block 2 (.loop (ZyP f24))) (sK f24 6))))):=by kernel_rfl
def zDc:List Value×TypeId:=([bR [],.int .i64 0],49)
def srM (m:Bool) (c e q l h a:Int) (d:Bool) (t:Int):Hp:=⟨4,[bSp l h a d t,zDc,bPa m c e q,(pwV,pwT)]⟩
def srF (m:Bool) (c e q u:Int):List Value:=[vP m c e q,pO 1,pO 2,pO 3,.int .u64 u]
def srG (m:Bool) (c e q u n f:Int):List Value:=[vP m c e q,pO 1,pO 2,pO 3,.int .u64 u,.int .u64 n,.int .u64 f]
theorem Z1S (m:Bool) (c e q:Int):Zg (evL (Zk prog Zf ZbN ZgU) 200 [sP f24 0,sP f24 1,sP f24 2] ([vP m c e q]++List.replicate 48 undef,hT0,[]) ⟨[],[],[]⟩) 5 44 none (srF m c e q 1) (srM m c e q (sLo q.toNat e (lgS q.toNat e-17)) (sHi q.toNat e (lgS q.toNat e-17)) (sAt q.toNat e (lgS q.toNat e-17)) (sMo q.toNat e (lgS q.toNat e-17)) (lgS q.toNat e-17)) [(ZnZ e q,true)]:=by and_intros<;>kernel_rfl
theorem Z6L (m:Bool) (c e q l h a t u:Int) (d:Bool) (g:Nat→Value):Zg (evC (Zk prog Zf ZbN ZgU) 200 false (Z4r f24) (srF m c e q u++tl 44 g,(srM m c e q l h a d t),[cmp true]) ⟨[],[],[]⟩) 5 44 none (srF m c e q (u64.wrap (u*10))) (srM m c e q l h a d t) [(decide (u≤u64.wrap (a.tdiv 10)),true)]:=by and_intros<;>kernel_rfl
theorem Z6M (m:Bool) (c e q l h a t u:Int) (d:Bool) (g:Nat→Value):Zg (evC (Zk prog Zf ZbN ZgU) 200 false (Z4r f24) (srF m c e q u++tl 44 g,(srM m c e q l h a d t),[cmp false]) ⟨[],[],[]⟩) 5 44 (some (some 0)) (srF m c e q u) (srM m c e q l h a d t) [(decide (u≤u64.wrap (a.tdiv 10)),false)]:=by and_intros<;>kernel_rfl
def arN (d:Bool) (a u:Nat):Nat:=if d=true then (a/u+1)*u else a/u*u
def arX (d:Bool) (a u:Nat):Nat:=if d=true then a/u*u else (a/u+1)*u
def lAr (a u:Int) (d b:Bool) (l:Log):Log:=(nrU a.toNat d u.toNat,b)::(ZyO a.toNat u.toNat,true)::(decide (0≤a∧0≤u),true)::l
theorem Z6N (m:Bool) (c e q l h a t u:Int) (d:Bool) (g:Nat→Value):Zg (evC (Zk prog Zf ZbN ZgU) 200 false (sP f24 4) (srF m c e q u++tl 44 g,(srM m c e q l h a d t),[cmp true]) ⟨[],[],[]⟩) 7 42 none (srG m c e q u ((arN true a.toNat u.toNat:Nat):Int) ((arX true a.toNat u.toNat:Nat):Int)) (srM m c e q l h a d t) (lAr a u d true []):=by and_intros<;>kernel_rfl
theorem Z6O (m:Bool) (c e q l h a t u:Int) (d:Bool) (g:Nat→Value):Zg (evC (Zk prog Zf ZbN ZgU) 200 false (sP f24 4) (srF m c e q u++tl 44 g,(srM m c e q l h a d t),[cmp false]) ⟨[],[],[]⟩) 7 42 none (srG m c e q u ((arN false a.toNat u.toNat:Nat):Int) ((arX false a.toNat u.toNat:Nat):Int)) (srM m c e q l h a d t) (lAr a u d false []):=by and_intros<;>kernel_rfl
theorem Z1T (m:Bool) (c e q l h a t u n f:Int) (d:Bool) (g:Nat→Value):Zg (evC (Zk prog Zf ZbN ZgU) 200 false (ZyP f24) (srG m c e q u n f++tl 42 g,(srM m c e q l h a d t),[cmp true]) ⟨[],[],[]⟩) 7 42 (some (some 2)) (srG m c e q u n f) (srM m c e q l h a d t) [(decide (l≤n) && decide (n≤h),true)]:=by and_intros<;>kernel_rfl
theorem Z1U (m:Bool) (c e q l h a t u n f:Int) (d:Bool) (g:Nat→Value):Zg (evC (Zk prog Zf ZbN ZgU) 200 false (ZyP f24) (srG m c e q u n f++tl 42 g,(srM m c e q l h a d t),[cmp false,cmp true]) ⟨[],[],[]⟩) 7 42 (some (some 2)) (srG m c e q u n f) (srM m c e q l h a d t) [(decide (l≤f) && decide (f≤h),true),(decide (l≤n) && decide (n≤h),false)]:=by and_intros<;>kernel_rfl
theorem Z1V (m:Bool) (c e q l h a t u n f:Int) (d:Bool) (g:Nat→Value):Zg (evC (Zk prog Zf ZbN ZgU) 200 false (ZyP f24) (srG m c e q u n f++tl 42 g,(srM m c e q l h a d t),[cmp false,cmp false,cmp true]) ⟨[],[],[]⟩) 7 42 none (srG m c e q (u64.wrap (u.tdiv 10)) ((arN true a.toNat (u64.wrap (u.tdiv 10)).toNat:Nat):Int) ((arX true a.toNat (u64.wrap (u.tdiv 10)).toNat:Nat):Int)) (srM m c e q l h a d t) (lAr a (u64.wrap (u.tdiv 10)) d true [(decide (l≤f) && decide (f≤h),false),(decide (l≤n) && decide (n≤h),false)]):=by and_intros<;>kernel_rfl
theorem Z1W (m:Bool) (c e q l h a t u n f:Int) (d:Bool) (g:Nat→Value):Zg (evC (Zk prog Zf ZbN ZgU) 200 false (ZyP f24) (srG m c e q u n f++tl 42 g,(srM m c e q l h a d t),[cmp false,cmp false,cmp false]) ⟨[],[],[]⟩) 7 42 none (srG m c e q (u64.wrap (u.tdiv 10)) ((arN false a.toNat (u64.wrap (u.tdiv 10)).toNat:Nat):Int) ((arX false a.toNat (u64.wrap (u.tdiv 10)).toNat:Nat):Int)) (srM m c e q l h a d t) (lAr a (u64.wrap (u.tdiv 10)) d false [(decide (l≤f) && decide (f≤h),false),(decide (l≤n) && decide (n≤h),false)]):=by and_intros<;>kernel_rfl
theorem Z6P (m:Bool) (c e q l h a t u n f:Int) (d:Bool) (g:Nat→Value):Zg (evC (Zk prog Zf ZbN ZgU) 200 false (sK f24 6) (srG m c e q u n f++tl 42 g,(srM m c e q l h a d t),[cmp true]) ⟨[],[],[]⟩) 4 45 (some none) [vP m c e q,pO 1,pO 2,pO 3] ⟨4,[bSp l h a d t,([bR (trR (dcL n.toNat)),.int .i64 (t+(((dcL n.toNat).length:Nat):Int)-1)],49),bPa m c e q,(pwV,pwT)]⟩ [(decide (100≤n∧n<18446744073709551616∧ -100000≤t∧t≤100000),true),(decide (l≤n) && decide (n≤h),true)]:=by and_intros<;>kernel_rfl
theorem Z6Q (m:Bool) (c e q l h a t u n f:Int) (d:Bool) (g:Nat→Value):Zg (evC (Zk prog Zf ZbN ZgU) 200 false (sK f24 6) (srG m c e q u n f++tl 42 g,(srM m c e q l h a d t),[cmp false]) ⟨[],[],[]⟩) 4 45 (some none) [vP m c e q,pO 1,pO 2,pO 3] ⟨4,[bSp l h a d t,([bR (trR (dcL f.toNat)),.int .i64 (t+(((dcL f.toNat).length:Nat):Int)-1)],49),bPa m c e q,(pwV,pwT)]⟩ [(decide (100≤f∧f<18446744073709551616∧ -100000≤t∧t≤100000),true),(decide (l≤n) && decide (n≤h),false)]:=by and_intros<;>kernel_rfl
end Go.Proofs.YtgefjidphfdhdaaGreatDoor
namespace Go.Proofs.YtgefjidphfdhdaaGreatDoor
open Go.Proofs.Tryz
open Go.IntKind
open Go.KRun Go.Nt Go.Rd Go.Wd Go.Pt
set_option maxRecDepth 100000
def nrV (p:Int) (n:Nat):Nat:=arN (nrU (ZP p (lsP p)) (Zao p (lsP p)) (10^(atL p-n))) (ZP p (lsP p)) (10^(atL p-n))
def frV (p:Int) (n:Nat):Nat:=arX (nrU (ZP p (lsP p)) (Zao p (lsP p)) (10^(atL p-n))) (ZP p (lsP p)) (10^(atL p-n))
theorem Zot (p:Int) (n:Nat):(nrV p n=Zb5 p n∧frV p n=ZbM p n∧nrU (ZP p (lsP p)) (Zao p (lsP p)) (10^(atL p-n))=true)∨(nrV p n=ZbM p n∧frV p n=Zb5 p n∧nrU (ZP p (lsP p)) (Zao p (lsP p)) (10^(atL p-n))=false):=by
 unfold nrV frV arN arX;cases nrU (ZP p (lsP p)) (Zao p (lsP p)) (10^(atL p-n)) with
 | true=>exact .inl ⟨if_pos rfl,if_pos rfl,rfl⟩
 | false=>exact .inr ⟨if_neg (by decide),if_neg (by decide),rfl⟩
section
variable {p : Int}
theorem Z6R (h:Fin14 p) (x:Nat):(decide (((Zb3 p (lsP p):Nat):Int)≤((x:Nat):Int)) && decide (((x:Nat):Int)≤((Zb4 p (lsP p):Nat):Int)))=Zhm p (lsP p) x:=by
 rw[Z1s h,decide_eq_decide.2 (show ((Zb3 p (lsP p):Nat):Int)≤((x:Nat):Int)↔Zb3 p (lsP p)≤x by omega),decide_eq_decide.2 (show ((x:Nat):Int)≤((Zb4 p (lsP p):Nat):Int)↔x≤Zb4 p (lsP p) by omega)]
theorem ZcH (h:Fin14 p):10^atL p≤10000000000000000000:=Nat.pow_le_pow_right (n:=10) (by omega) (Zbw h).1.2
theorem Zou (h:Fin14 p) {n:Nat}(h1:1≤n) (h2:n≤17):10^(atL p-1)≤ZbM p n∧Zb5 p n≤10^atL p∧ZbM p n≤Zb5 p n:=by
 obtain⟨⟨l1,l2⟩,a,b⟩:=Zbw h;have hu:0<10^(atL p-n):=Nat.pow_pos (by omega);have e1:10^atL p=10^n*10^(atL p-n):=by rw[← Nat.pow_add];congr 1;omega
 have e2:10^(atL p-1)=10^(n-1)*10^(atL p-n):=by rw[← Nat.pow_add];congr 1;omega
 have q1:10^(n-1)≤ZP p (lsP p)/10^(atL p-n):=(Nat.le_div_iff_mul_le hu).2 (by rw[← e2];exact a);have q2:ZP p (lsP p)/10^(atL p-n)<10^n:=(Nat.div_lt_iff_lt_mul hu).2 (by rw[← e1];exact b);unfold ZbM Zb5;refine⟨?_,?_,Nat.mul_le_mul_right _ (by omega)⟩
 ·rw[e2];exact Nat.mul_le_mul_right _ q1
 ·rw[e1];exact Nat.mul_le_mul_right _ q2
theorem ZwQ (h:Fin14 p) {n:Nat}(h1:1≤n) (h2:n≤17):ZyO (ZP p (lsP p)) (10^(atL p-n))=true:=by
 obtain⟨⟨l1,l2⟩,_⟩:=Zbw h;obtain⟨_,b,_⟩:=Zou h h1 h2;have:=ZcH h;refine Xa ⟨?_,?_⟩
 ·have:10^1≤10^(atL p-n):=Nat.pow_le_pow_right (by omega) (by omega);omega
 ·have e:Zb5 p n=(ZP p (lsP p)/10^(atL p-n)+1)*10^(atL p-n):=rfl;rw[← e];omega
end
def srK (p:Int):Hp:=srM (sgn p) (cl p) (xp p) (sg p) ((Zb3 p (lsP p):Nat):Int) ((Zb4 p (lsP p):Nat):Int) ((ZP p (lsP p):Nat):Int) (Zao p (lsP p)) (lsP p)
def srA (p u:Int):List Value:=srF (sgn p) (cl p) (xp p) (sg p) u
def srB (p u n f:Int):List Value:=srG (sgn p) (cl p) (xp p) (sg p) u n f
def ZyQ (p:Int) (i:Nat) (y:Lf):Prop:=i≤atL p-1∧∃ g,y.1=srA p ((10^i:Nat):Int)++tl 44 g∧y.2.1=srK p
def ZwR (p:Int) (n:Nat) (y:Lf):Prop:=(1≤n∧n≤nP p)∧∃ g,y.1=srB p ((10^(atL p-n):Nat):Int) ((nrV p n:Nat):Int) ((frV p n:Nat):Int)++tl 42 g∧y.2.1=srK p
theorem Z6S {p:Int}(h:Fin14 p) (r:Nat) (y:Lf) (hy:∃ i,r=atL p-1-i∧ZyQ p i y):
  Runs (Zk prog Zf ZbN ZgU) (Z4r f24) y fun e z=>match e with | none=>∃ r',r'<r∧∃ i,r'=atL p-1-i∧ZyQ p i z | some none=>False | some (some id')=>id'=0∧ZyQ p (atL p-1) z:=by
 obtain⟨i,hr,hi,g,ht,hh⟩:=hy;obtain⟨t,h',sc⟩:=y;simp only at ht hh;subst ht hh;obtain⟨⟨l1,l2⟩,a,b⟩:=Zbw h;have t19:=ZcH h;have ew:u64.wrap (((ZP p (lsP p):Nat):Int).tdiv 10)=((ZP p (lsP p)/10:Nat):Int):=by
  rw[Int.tdiv_eq_ediv_of_nonneg (by omega),Zd1 (by omega) (by omega)];omega
 by_cases hc:i<atL p-1
 ·have hp:10^(i+1)≤ZP p (lsP p):=Nat.le_trans (Nat.pow_le_pow_right (by omega) (by omega)) a;rw[Nat.pow_succ] at hp;have hg:=Z6L (sgn p) (cl p) (xp p) (sg p) ((Zb3 p (lsP p):Nat):Int) ((Zb4 p (lsP p):Nat):Int) ((ZP p (lsP p):Nat):Int) (lsP p) ((10^i:Nat):Int) (Zao p (lsP p)) g;have em:u64.wrap (((10^i:Nat):Int)*10)=((10^(i+1):Nat):Int):=by
   rw[Nat.pow_succ,Zd1 (by omega) (by omega)];omega
  rw[em] at hg;refine (Zc (s0:=sc) Zew hg (Z5 (Xa (by rw[ew];omega)))).mono fun e z he=> ?_;obtain⟨rfl,⟨g',z1⟩,z2⟩:=he;exact⟨atL p-1-(i+1),by omega,i+1,rfl,by omega,g',z1,z2⟩
 ·have ei:i=atL p-1:=by omega
  have hn:¬ 10^i≤ZP p (lsP p)/10:=by
   intro c;have:10^atL p=10^i*10:=by rw[← Nat.pow_succ];congr 1;omega
   omega
  refine (Zc (s0:=sc) Zew (Z6M (sgn p) (cl p) (xp p) (sg p) ((Zb3 p (lsP p):Nat):Int) ((Zb4 p (lsP p):Nat):Int) ((ZP p (lsP p):Nat):Int) (lsP p) ((10^i:Nat):Int) (Zao p (lsP p)) g) (Z5 (Xb (by rw[ew];omega)))).mono fun e z he=> ?_;obtain⟨rfl,⟨g',z1⟩,z2⟩:=he;rw[ei] at z1;exact⟨rfl,Nat.le_refl _,g',z1,z2⟩
theorem Zov {p:Int}(h:Fin14 p) {n:Nat}(h1:1≤n) (h2:n≤17) {b:Bool}(hb:nrU (ZP p (lsP p)) (Zao p (lsP p)) (10^(atL p-n))=b) {l:Log}(hl:Zx l):Zx (lAr ((ZP p (lsP p):Nat):Int) ((10^(atL p-n):Nat):Int) (Zao p (lsP p)) b l):=by
 unfold lAr;rw[Xg,Xg];exact Za hb (Za (ZwQ h h1 h2) (Za (Xa ⟨Int.natCast_nonneg _,Int.natCast_nonneg _⟩) hl))
theorem Z6T {p:Int}(h:Fin14 p) (r:Nat) (y:Lf) (hy:∃ n,r=nP p-n∧ZwR p n y):
  Runs (Zk prog Zf ZbN ZgU) (ZyP f24) y fun e z=>match e with | none=>∃ r',r'<r∧∃ n,r'=nP p-n∧ZwR p n z | some none=>False | some (some id')=>id'=2∧ZwR p (nP p) z:=by
 obtain⟨n,hr,⟨n1,n2⟩,g,ht,hh⟩:=hy;obtain⟨t,h',sc⟩:=y;simp only at ht hh;subst ht hh;obtain⟨⟨l1,l2⟩,_⟩:=Zbw h;obtain⟨_,⟨_,n17⟩,_⟩:=ZbW h;have se:=Zr2 h n1 n2;have orE:(Zhm p (lsP p) (nrV p n)=true∨Zhm p (lsP p) (frV p n)=true)↔n=nP p:=by
  rw[← se];rcases Zot p n with ⟨e1,e2,_⟩ | ⟨e1,e2,_⟩<;>rw[e1,e2]
  exact or_comm
 have hN:=Z6R h (nrV p n);have hF:=Z6R h (frV p n);cases c1:Zhm p (lsP p) (nrV p n) with
 | true=>
  have en:=orE.1 (.inl c1);refine (Zc (s0:=sc) Zew (Z1T (sgn p) (cl p) (xp p) (sg p) ((Zb3 p (lsP p):Nat):Int) ((Zb4 p (lsP p):Nat):Int) ((ZP p (lsP p):Nat):Int) (lsP p) ((10^(atL p-n):Nat):Int) ((nrV p n:Nat):Int) ((frV p n:Nat):Int) (Zao p (lsP p)) g) (Z5 (by rw[hN];exact c1))).mono fun e z he=> ?_;obtain⟨rfl,⟨g',z1⟩,z2⟩:=he;rw[← en];exact⟨rfl,⟨n1,n2⟩,g',z1,z2⟩
 | false=>
  cases c2:Zhm p (lsP p) (frV p n) with
  | true=>
   have en:=orE.1 (.inr c2);refine (Zc (s0:=sc) Zew (Z1U (sgn p) (cl p) (xp p) (sg p) ((Zb3 p (lsP p):Nat):Int) ((Zb4 p (lsP p):Nat):Int) ((ZP p (lsP p):Nat):Int) (lsP p) ((10^(atL p-n):Nat):Int) ((nrV p n:Nat):Int) ((frV p n:Nat):Int) (Zao p (lsP p)) g) (Za (by rw[hF];exact c2) (Z5 (by rw[hN];exact c1)))).mono fun e z he=> ?_;obtain⟨rfl,⟨g',z1⟩,z2⟩:=he;rw[← en];exact⟨rfl,⟨n1,n2⟩,g',z1,z2⟩
  | false=>
   have hne:n≠nP p:=fun c=>by
    rcases orE.2 c with c3 | c3
    ·rw[c1] at c3;cases c3
    ·rw[c2] at c3;cases c3
   have eu:u64.wrap (((10^(atL p-n):Nat):Int).tdiv 10)=((10^(atL p-(n+1)):Nat):Int):=by
    have e:10^(atL p-n)=10^(atL p-(n+1))*10:=by rw[← Nat.pow_succ];congr 1;omega
    have b:10^(atL p-(n+1))≤10^atL p:=Nat.pow_le_pow_right (by omega) (by omega);have:=ZcH h;rw[e,Int.tdiv_eq_ediv_of_nonneg (by omega),Zd1 (by omega) (by omega)];omega
   have fin:∀ b,nrU (ZP p (lsP p)) (Zao p (lsP p)) (10^(atL p-(n+1)))=b→((arN b (ZP p (lsP p)) (10^(atL p-(n+1)))=nrV p (n+1))∧(arX b (ZP p (lsP p)) (10^(atL p-(n+1)))=frV p (n+1))):=fun b hb=>by
    unfold nrV frV;rw[hb];exact⟨rfl,rfl⟩
   have lg:∀ b,nrU (ZP p (lsP p)) (Zao p (lsP p)) (10^(atL p-(n+1)))=b→Zx (lAr ((ZP p (lsP p):Nat):Int) ((10^(atL p-(n+1)):Nat):Int) (Zao p (lsP p)) b [(decide (((Zb3 p (lsP p):Nat):Int)≤((frV p n:Nat):Int)) && decide (((frV p n:Nat):Int)≤((Zb4 p (lsP p):Nat):Int)),false),(decide (((Zb3 p (lsP p):Nat):Int)≤((nrV p n:Nat):Int)) && decide (((nrV p n:Nat):Int)≤((Zb4 p (lsP p):Nat):Int)),false)]):=fun b hb=>Zov h (by omega) (by omega) hb (Za (by rw[hF];exact c2) (Z5 (by rw[hN];exact c1)));cases c3:nrU (ZP p (lsP p)) (Zao p (lsP p)) (10^(atL p-(n+1))) with
   | true=>
    have hg:=Z1V (sgn p) (cl p) (xp p) (sg p) ((Zb3 p (lsP p):Nat):Int) ((Zb4 p (lsP p):Nat):Int) ((ZP p (lsP p):Nat):Int) (lsP p) ((10^(atL p-n):Nat):Int) ((nrV p n:Nat):Int) ((frV p n:Nat):Int) (Zao p (lsP p)) g;rw[eu,Xg,Xg,(fin true c3).1,(fin true c3).2] at hg;refine (Zc (s0:=sc) Zew hg (lg true c3)).mono fun e z he=> ?_;obtain⟨rfl,⟨g',z1⟩,z2⟩:=he;exact⟨nP p-(n+1),by omega,n+1,rfl,⟨by omega,by omega⟩,g',z1,z2⟩
   | false=>
    have hg:=Z1W (sgn p) (cl p) (xp p) (sg p) ((Zb3 p (lsP p):Nat):Int) ((Zb4 p (lsP p):Nat):Int) ((ZP p (lsP p):Nat):Int) (lsP p) ((10^(atL p-n):Nat):Int) ((nrV p n:Nat):Int) ((frV p n:Nat):Int) (Zao p (lsP p)) g;rw[eu,Xg,Xg,(fin false c3).1,(fin false c3).2] at hg;refine (Zc (s0:=sc) Zew hg (lg false c3)).mono fun e z he=> ?_;obtain⟨rfl,⟨g',z1⟩,z2⟩:=he;exact⟨nP p-(n+1),by omega,n+1,rfl,⟨by omega,by omega⟩,g',z1,z2⟩
def sdD (p:Int):List UInt8:=trR (dcL (shV p))
def sdE (p:Int):Int:=lsP p+(((dcL (shV p)).length:Nat):Int)-1
theorem ZrJ {p:Int}(h:Fin14 p) (w:World) (hk:knT w):Calls prog 24 #[vT p] w fun r w'=>r= .returned (vDc (sdD p) (sdE p))∧Za0 w w':=by
 have ev:∀ m:Mp,[vT p].map (mv m)=[vT p]:=fun m=>(List.map_congr_left fun y hy=>ZA (by rw[List.mem_singleton.1 hy];rfl)).trans (List.map_id' _);have q0:0≤sg p:=by
  have:=Zf9 p;unfold sg;split
  ·omega
  ·split<;>omega
 have f1:=h.ne;have f2:=h.e0;have f3:=h.e1;have f4:=h.s1;have main:=Ze5 (T:=Zk prog Zf ZbN ZgU) func24 ZwP (h0:=hT0) (vals:=[vT p]) (fun v hv=>by rw[List.mem_singleton.1 hv];rfl) (v:=vDc (sdD p) (sdE p)) (by rfl) (m:=fun b=>(b,0)) (w:=w) ?_ (Zt7 hk)
 ·rw[ev] at main;exact main
 obtain⟨⟨l1,l2⟩,a,b⟩:=Zbw h;obtain⟨_,⟨p1,p17⟩,_⟩:=ZbW h;obtain⟨_,_,j1,j2⟩:=Zwq h;refine Z3 Zew (Z1S (sgn p) (cl p) (xp p) (sg p)) (Z5 (Xa (by omega))) fun g=> ?_;refine Runs.seq (P1:=fun e y=>match e with | none=>ZyQ p (atL p-1) y | some none=>False | some (some _)=>False) (Runs.forLoop (R:=fun _=>False) (P:=ZyQ p (atL p-1)) (fun r y=>∃ i,r=atL p-1-i∧ZyQ p i y) (Z6S h) (n:=atL p-1-0) ⟨0,rfl,Nat.zero_le _,g,rfl,rfl⟩) ?_ (fun e y he=>by match e,he with | none,he=>exact he.elim | some _,he=>exact he.elim);rintro⟨t,hh,sc⟩ ⟨_,g1,e1,e2⟩;simp only at e1 e2;subst e1 e2;have mid:Runs (Zk prog Zf ZbN ZgU) (sP f24 4) (srA p ((10^(atL p-1):Nat):Int)++tl 44 g1,srK p,sc) fun e y=>e=none∧ZwR p 1 y:=by
  have fin:∀ b,nrU (ZP p (lsP p)) (Zao p (lsP p)) (10^(atL p-1))=b→((arN b (ZP p (lsP p)) (10^(atL p-1))=nrV p 1)∧(arX b (ZP p (lsP p)) (10^(atL p-1))=frV p 1)):=fun b hb=>by
   unfold nrV frV;rw[hb];exact⟨rfl,rfl⟩
  cases c3:nrU (ZP p (lsP p)) (Zao p (lsP p)) (10^(atL p-1)) with
  | true=>
   have hg:=Z6N (sgn p) (cl p) (xp p) (sg p) ((Zb3 p (lsP p):Nat):Int) ((Zb4 p (lsP p):Nat):Int) ((ZP p (lsP p):Nat):Int) (lsP p) ((10^(atL p-1):Nat):Int) (Zao p (lsP p)) g1;rw[Xg,Xg,(fin true c3).1,(fin true c3).2] at hg;refine (Zc (s0:=sc) Zew hg (Zov h (by omega) (by omega) c3 Zca)).mono fun e z he=> ?_;obtain⟨rfl,⟨g',z1⟩,z2⟩:=he;exact⟨rfl,⟨by omega,p1⟩,g',z1,z2⟩
  | false=>
   have hg:=Z6O (sgn p) (cl p) (xp p) (sg p) ((Zb3 p (lsP p):Nat):Int) ((Zb4 p (lsP p):Nat):Int) ((ZP p (lsP p):Nat):Int) (lsP p) ((10^(atL p-1):Nat):Int) (Zao p (lsP p)) g1;rw[Xg,Xg,(fin false c3).1,(fin false c3).2] at hg;refine (Zc (s0:=sc) Zew hg (Zov h (by omega) (by omega) c3 Zca)).mono fun e z he=> ?_;obtain⟨rfl,⟨g',z1⟩,z2⟩:=he;exact⟨rfl,⟨by omega,p1⟩,g',z1,z2⟩
 refine Runs.seq mid ?_ (fun e y he=>by cases he.1);rintro⟨t,hh,sc2⟩ ⟨_,hs2⟩;refine Runs.seq (P1:=fun e y=>match e with | none=>ZwR p (nP p) y | some none=>False | some (some _)=>False) (Runs.forLoop (R:=fun _=>False) (P:=ZwR p (nP p)) (fun r y=>∃ n,r=nP p-n∧ZwR p n y) (Z6T h) (n:=nP p-1) ⟨1,rfl,hs2⟩) ?_ (fun e y he=>by match e,he with | none,he=>exact he.elim | some _,he=>exact he.elim);rintro⟨t3,hh3,sc3⟩ ⟨_,g3,e1,e2⟩;simp only at e1 e2;subst e1 e2;have sv:=Z10 h;have bd:=Zou h p1 p17;have t19:=ZcH h;have t17:10^17≤10^(atL p-1):=Nat.pow_le_pow_right (by omega) (by omega);have e17:(10:Nat)^17=100000000000000000:=rfl;have hN:=Z6R h (nrV p (nP p));have bds:∀ x,x=ZbM p (nP p)∨x=Zb5 p (nP p)→(100:Int)≤((x:Nat):Int)∧((x:Nat):Int)<18446744073709551616∧ -100000≤lsP p∧lsP p≤100000:=fun x hx=>by
  rcases hx with rfl | rfl<;>omega
 have isN:nrV p (nP p)=ZbM p (nP p)∨nrV p (nP p)=Zb5 p (nP p):=by rcases Zot p (nP p) with ⟨c,_⟩ | ⟨c,_⟩<;>simp [c]
 have isF:frV p (nP p)=ZbM p (nP p)∨frV p (nP p)=Zb5 p (nP p):=by rcases Zot p (nP p) with ⟨_,c,_⟩ | ⟨_,c,_⟩<;>simp [c]
 cases c1:Zhm p (lsP p) (nrV p (nP p)) with
 | true=>
  have ex:shV p=nrV p (nP p):=by
   rw[sv];rcases Zot p (nP p) with ⟨c,_,d⟩ | ⟨c,_,d⟩
   ·rw[d,if_pos rfl,← c,if_pos c1]
   ·rw[d,if_neg (by decide),← c,if_pos c1]
  refine (Zc (s0:=sc3) Zew (Z6P (sgn p) (cl p) (xp p) (sg p) ((Zb3 p (lsP p):Nat):Int) ((Zb4 p (lsP p):Nat):Int) ((ZP p (lsP p):Nat):Int) (lsP p) ((10^(atL p-nP p):Nat):Int) ((nrV p (nP p):Nat):Int) ((frV p (nP p):Nat):Int) (Zao p (lsP p)) g3) (Za (Xa (bds _ isN)) (Z5 (by rw[hN];exact c1)))).mono fun e z he=> ?_;obtain⟨rfl,⟨g',z1⟩,z2⟩:=he;refine⟨.inr rfl,?_⟩;rw[z1,z2];unfold sdD sdE;rw[ex];rfl
 | false=>
  have ex:shV p=frV p (nP p):=by
   rw[sv];rcases Zot p (nP p) with ⟨c,c',d⟩ | ⟨c,c',d⟩
   ·rw[d,if_pos rfl,← c,if_neg (by rw[c1];decide),c']
   ·rw[d,if_neg (by decide),← c,if_neg (by rw[c1];decide),c']
  refine (Zc (s0:=sc3) Zew (Z6Q (sgn p) (cl p) (xp p) (sg p) ((Zb3 p (lsP p):Nat):Int) ((Zb4 p (lsP p):Nat):Int) ((ZP p (lsP p):Nat):Int) (lsP p) ((10^(atL p-nP p):Nat):Int) ((nrV p (nP p):Nat):Int) ((frV p (nP p):Nat):Int) (Zao p (lsP p)) g3) (Za (Xa (bds _ isF)) (Z5 (by rw[hN];exact c1)))).mono fun e z he=> ?_;obtain⟨rfl,⟨g',z1⟩,z2⟩:=he;refine⟨.inr rfl,?_⟩;rw[z1,z2];unfold sdD sdE;rw[ex];rfl
end Go.Proofs.YtgefjidphfdhdaaGreatDoor
namespace Go.Proofs.YtgefjidphfdhdaaGreatDoor
open Go.Proofs.Tryz
open Go.IntKind
open Go.KRun Go.Rd
set_option maxRecDepth 100000
def ZyR:List UInt8:=[48,49,50,51,52,53,54,55,56,57,97,98,99,100,101,102]
def Z1X (F:Func):Code:=cIn (cIn (Z0 (sP F 1)))
theorem ZwS:f106.body=some (ZW [sP f106 0] (.seq (.seq (Z2 (sP f106 1)) (.block 0 (.loop (Z1X f106)))) (sK f106 2))):=by kernel_rfl
def ZtG (c b i:Int):List Value:=[.int .u8 c,.int .i64 b,undef,undef,.int .i64 0,.int .i64 i]
theorem Z1Y (c b:Int):Zg (evL (Zq prog Zf Zo true) 100 [sP f106 0] ([.int .u8 c,.int .i64 b]++List.replicate 14 undef,⟨0,[]⟩,[]) ⟨[],[],[]⟩) 5 11 none [.int .u8 c,.int .i64 b,undef,undef,.int .i64 0] ⟨0,[]⟩ []:=by and_intros<;>kernel_rfl
theorem Z9g (c b:Int) (g:Nat→Value):Zg (evC (Zq prog Zf Zo true) 100 false (Z2 (sP f106 1)) ([.int .u8 c,.int .i64 b,undef,undef,.int .i64 0]++tl 11 g,⟨0,[]⟩,[]) ⟨[],[],[]⟩) 6 10 none (ZtG c b 0) ⟨0,[]⟩ []:=by and_intros<;>kernel_rfl
theorem Z9h (c b i:Int) (g:Nat→Value):Zg (evC (Zq prog Zf Zo true) 100 false (Z1X f106) (ZtG c b i++tl 10 g,⟨0,[]⟩,[cmp false]) ⟨[],[],[]⟩) 6 10 (some (some 0)) (ZtG c b i) ⟨0,[]⟩ [(decide (i<b),false)]:=by and_intros<;>kernel_rfl
theorem Z9i (c b i:Int) (g:Nat→Value):Zg (evC (Zq prog Zf Zo true) 100 false (Z1X f106) (ZtG c b i++tl 10 g,⟨0,[]⟩,[cmp true,cmp true]) ⟨[],[],[]⟩) 5 11 (some none) [.int .u8 c,.int .i64 b,undef,undef,.int .i64 i] ⟨0,[]⟩ [(byR ZyR i==c,true),(decide (0≤i∧i.toNat<16),true),(decide (i<b),true)]:=by and_intros<;>kernel_rfl
theorem Z9j (c b i:Int) (g:Nat→Value):Zg (evC (Zq prog Zf Zo true) 100 false (Z1X f106) (ZtG c b i++tl 10 g,⟨0,[]⟩,[cmp true,cmp false]) ⟨[],[],[]⟩) 6 10 none (ZtG c b (i64.wrap (i+1))) ⟨0,[]⟩ [(byR ZyR i==c,false),(decide (0≤i∧i.toNat<16),true),(decide (i<b),true)]:=by and_intros<;>kernel_rfl
theorem Z9k (c b i:Int) (g:Nat→Value):Zg (evC (Zq prog Zf Zo true) 100 false (sK f106 2) (ZtG c b i++tl 10 g,⟨0,[]⟩,[]) ⟨[],[],[]⟩) 5 11 (some none) [.int .u8 c,.int .i64 b,undef,undef,.int .i64 (-1)] ⟨0,[]⟩ []:=by and_intros<;>kernel_rfl
theorem Zow {i:Nat}(h:i<16):byR ZyR (i:Int)=if i<10 then 48+(i:Int) else 87+(i:Int):=by
 have k:∀ j:Fin 16,byR ZyR (j.val:Int)=if j.val<10 then 48+(j.val:Int) else 87+(j.val:Int):=by decide
 exact k ⟨i,h⟩
def ZyS (c b:Int) (i:Nat) (y:Lf):Prop:=∃ g:Nat→Value,(i:Int)≤b∧(∀ j:Nat,j<i→byR ZyR (j:Int)≠c)∧y.1=ZtG c b i++tl 10 g∧y.2.1=⟨0,[]⟩
def Z6U (c b:Int) (y:Lf):Prop:=ZV prog f106 y.1 y.2.1=some (.int .i64 (zy c b))
theorem ZrK {c b:Int}(hb:b=10∨b=16) (r:Nat) (y:Lf) (h:∃ i,r=b.toNat-i∧ZyS c b i y):
  Runs (Zq prog Zf Zo true) (Z1X f106) y fun e z=>match e with | none=>∃ r',r'<r∧∃ i,r'=b.toNat-i∧ZyS c b i z | some none=>Z6U c b z | some (some id')=>id'=0∧ZyS c b b.toNat z:=by
 have hT:=Zp Zd;obtain⟨i,hr,g,hi,hn,ht,hh⟩:=h;obtain⟨t,h',sc⟩:=y;simp only at ht hh;subst ht hh;by_cases hc:(i:Int)<b
 ·have lA:decide (((i:Nat):Int)<b)=true:=Xa hc;have lI:decide ((0:Int)≤(i:Nat)∧((i:Nat):Int).toNat<16)=true:=Xa (by omega);have ha:=Zow (i:=i) (by omega);by_cases hd:byR ZyR (i:Int)=c
  ·refine (Zc (s0:=sc) hT (Z9i c b (i:Nat) g) (Za (za hd) (Za lI (Z5 lA)))).mono fun e z he=> ?_;obtain⟨rfl,⟨g',z1⟩,z2⟩:=he;have e:zy c b=(i:Int):=by
    rw[ha] at hd;unfold zy;split at hd
    ·rw[if_pos (by omega)];omega
    ·rw[if_neg (by omega),if_pos (by omega)];omega
   show ZV prog f106 z.1 z.2.1=some (.int .i64 (zy c b));rw[e,z1,z2];rfl
  ·have hg:=Z9j c b (i:Nat) g;rw[wN (by omega)] at hg;refine (Zc (s0:=sc) hT hg (Za (ZR hd) (Za lI (Z5 lA)))).mono fun e z he=> ?_;obtain⟨rfl,⟨g',z1⟩,z2⟩:=he;refine⟨b.toNat-(i+1),by omega,i+1,rfl,g',by omega,fun j hj=> ?_,z1,z2⟩;by_cases hji:j=i
   ·rw[hji];exact hd
   ·exact hn j (by omega)
 ·have e:i=b.toNat:=by omega
  subst e;refine (Zc (s0:=sc) hT (Z9h c b _ g) (Z5 (Xb hc))).mono fun e z he=> ?_;obtain⟨rfl,⟨g',z1⟩,z2⟩:=he;exact⟨rfl,g',hi,hn,z1,z2⟩
theorem ZrL {c b:Int}(hb:b=10∨b=16) (w:World):Calls prog 106 #[.int .u8 c,.int .i64 b] w fun r w'=>r= .returned (.int .i64 (zy c b))∧Za0 w w':=by
 have hT:=Zp Zd;refine Zai (T:=Zq prog Zf Zo true) func106 ZwS (by rfl) (by rfl) ?_ w;refine Z3 hT (Z1Y c b) Zca fun g=> ?_;refine Runs.seq (P1:=fun e y=>match e with | none=>ZyS c b b.toNat y | some none=>Z6U c b y | some (some _)=>False) ?_ ?_ ?_
 ·refine Runs.seq (Zc hT (Z9g c b g) Zca) ?_ (fun e y he=>by cases he.1);rintro⟨t,hh,sc⟩ ⟨_,⟨g',e1⟩,e2⟩;simp only at e1 e2;subst e1 e2;exact Runs.forLoop (R:=Z6U c b) (P:=ZyS c b b.toNat) (fun r y=>∃ i,r=b.toNat-i∧ZyS c b i y) (ZrK hb) (n:=b.toNat-0) ⟨0,rfl,g',by omega,fun j hj=>absurd hj (Nat.not_lt_zero _),rfl,rfl⟩
 ·rintro⟨t,hh,sc⟩ ⟨g',_,hn,e1,e2⟩;simp only at e1 e2;subst e1 e2;refine (Zc (s0:=sc) hT (Z9k c b _ g') Zca).mono fun e z he=> ?_;obtain⟨rfl,⟨g2,z1⟩,z2⟩:=he;have e:zy c b= -1:=by
   unfold zy;rw[if_neg,if_neg]
   ·rintro⟨h1,h2,h3⟩;refine hn (c-87).toNat (by omega) ?_;rw[Zow (by omega),if_neg (by omega)];omega
   ·rintro⟨h2,h3⟩;refine hn (c-48).toNat (by omega) ?_;rw[Zow (by omega),if_pos (by omega)];omega
  rw[e];exact⟨.inr rfl,by rw[z1,z2];rfl⟩
 ·rintro e y he
  match e,he with
  | none,he=>exact⟨.inr rfl,he⟩
def Z6V:Ans:=fun vals s=>
 match vals with
 | [.int .u8 c,.int .i64 b]=>some (.int .i64 (zy c b),s,[(decide (b=10∨b=16),true)])
 | _=>none
theorem ZwT:zT 106 Z6V:=by
 intro vals s v s' lg h hl w;unfold Z6V at h;split at h
 ·rename_i c b;cases h;exact ZrL (Xc (hl _ Xf)) w
 ·cases h
def ZF:Con:=alt 106 Z6V Zo
theorem ZbY:ConOk ZF:=ZM func106 rfl ZwT Zd
end Go.Proofs.YtgefjidphfdhdaaGreatDoor
namespace Go.Proofs.YtgefjidphfdhdaaGreatDoor
open Go.Proofs.Tryz
open Go.IntKind
open Go.KRun Go.Nt Go.Rd
set_option maxRecDepth 100000
def rfP (F:Func):List Code:=[Z2 (Zs F),Z2 (Z0 (Zs F))]
def rfI (F:Func):Code:=Z2 (Z2 (Z0 (Z0 (Zs F))))
def rfL (F:Func):Code:=cIn (cIn (Z0 (Z2 (Z0 (Z0 (Zs F))))))
def rfE (F:Func):Code:=Z0 (Z0 (Z0 (Zs F)))
theorem ZwU:f111.body=some (ZW (rfP f111) (.seq (.seq (rfI f111) (.block 0 (.loop (rfL f111)))) (rfE f111))):=by kernel_rfl
theorem Zk0:TabOk (Zk prog Zf ZF Zd3):=Zh ZbY ZmR
def rfF (l:List UInt8) (b:Int) (out:Value) (i:Int):List Value:=[bR l,.int .i64 b,undef,undef,Zn,out,.int .i64 i]
theorem Z1Z (l:List UInt8) (b:Int):Zg (evL (Zk prog Zf ZF Zd3) 100 (rfP f111) ([bR l,.int .i64 b]++List.replicate 22 undef,⟨0,[]⟩,[]) ⟨[],[],[]⟩) 6 18 none [bR l,.int .i64 b,undef,undef,Zn,Zn] ⟨0,[]⟩ []:=by and_intros<;>kernel_rfl
theorem Z9l (l:List UInt8) (b:Int) (h:Hp) (g:Nat→Value):Zg (evC (Zk prog Zf ZF Zd3) 100 false (rfI f111) ([bR l,.int .i64 b,undef,undef,Zn,Zn]++tl 18 g,h,[]) ⟨[],[],[]⟩) 7 17 none (rfF l b Zn 0) h []:=by and_intros<;>kernel_rfl
theorem Z9m (l:List UInt8) (b:Int) (out:Value) (i:Int) (h:Hp) (g:Nat→Value):Zg (evC (Zk prog Zf ZF Zd3) 100 false (rfL f111) (rfF l b out i++tl 17 g,h,[cmp false]) ⟨[],[],[]⟩) 7 17 (some (some 0)) (rfF l b out i) h [(decide (i<(l.length:Nat)),false)]:=by and_intros<;>kernel_rfl
theorem Z6W (l:List UInt8) (b i:Int) (W:Nat) (g:Nat→Value):Zg (evC (Zk prog Zf ZF Zd3) 100 false (rfL f111) (rfF l b Zn i++tl 17 g,⟨0,[]⟩,[cmp true,cmp true,num W]) ⟨[],[],[]⟩) 7 17 none (rfF l b (sq0 W) (i64.wrap (i+1))) (pA W) [(decide (vO ⟨0,[]⟩ none 0*(u32.wrap b).toNat+(u32.wrap (zy (byR l i) b)).toNat=W),true),(ZaZ ⟨0,[]⟩ none 0 0 (u32.wrap b) (u32.wrap (zy (byR l i) b)),true),(decide (0<0∨0<(u32.wrap (zy (byR l i) b))),true),(decide (b=10∨b=16),true),(decide (0≤i∧i.toNat<l.length),true),(decide (i<(l.length:Nat)),true)]:=by and_intros<;>kernel_rfl
theorem Z6X (l:List UInt8) (b i:Int) (V W:Nat) (g:Nat→Value):Zg (evC (Zk prog Zf ZF Zd3) 100 false (rfL f111) (rfF l b (sq0 V) i++tl 17 g,pA V,[cmp true,cmp true,num W]) ⟨[],[],[]⟩) 7 17 none (rfF l b (sl 1 0 (d16 W).length (d16 W).length) (i64.wrap (i+1))) ⟨2,[wq W,wq V]⟩ [(decide (vO (pA V) (some ⟨0,0,none⟩) (d16 V).length*(u32.wrap b).toNat+(u32.wrap (zy (byR l i) b)).toNat=W),true),(ZaZ (pA V) (some ⟨0,0,none⟩) (d16 V).length (d16 V).length (u32.wrap b) (u32.wrap (zy (byR l i) b)),true),(decide (0<(d16 V).length∨0<(u32.wrap (zy (byR l i) b))),true),(decide (b=10∨b=16),true),(decide (0≤i∧i.toNat<l.length),true),(decide (i<(l.length:Nat)),true)]:=by and_intros<;>kernel_rfl
theorem Z9n (l:List UInt8) (b:Int) (out:Value) (i:Int) (h:Hp) (g:Nat→Value):Zg (evC (Zk prog Zf ZF Zd3) 100 false (rfE f111) (rfF l b out i++tl 17 g,h,[]) ⟨[],[],[]⟩) 5 19 (some none) [bR l,.int .i64 b,undef,undef,out] h []:=by and_intros<;>kernel_rfl
def ZrM (b:Int) (l:List UInt8):Bool:=decide ((b=10∨b=16)∧l.length≤20000) && Zb2 b l && decide (0<zy (byR l 0) b)
theorem ZrN {b:Int}{l:List UInt8}(h:Zb2 b l=true) {i:Nat}(hi:i<l.length):0≤zy (byR l (i:Nat)) b:=by
 unfold Zb2 at h;rw[List.all_eq_true] at h;have h1:=h (l.getD i 0) (by rw[List.getD_eq_getElem?_getD,List.getElem?_eq_getElem hi,Option.getD_some];exact List.getElem_mem hi);unfold byR;rw[Xg];exact Xc h1
theorem Z2a {b:Int}(hb:b=10∨b=16) (l:List UInt8):(d16 (nmB b l)).length≤l.length:=by
 refine Zco (Nat.lt_of_lt_of_le (Znp hb l) ?_);have h1:b.toNat^l.length≤16^l.length:=Nat.pow_le_pow_left (by omega) _;have h2:(16:Nat)^l.length=2^(4*l.length):=by rw[Nat.pow_mul]
 have h3:(2:Nat)^(4*l.length)≤2^(16*l.length):=Nat.pow_le_pow_right (by omega) (by omega);omega
def rfS (b:Int) (l:List UInt8) (i:Nat) (y:Lf):Prop:=(i=0∧∃ g,y.1=rfF l b Zn i++tl 17 g∧y.2.1=⟨0,[]⟩)∨(0<i∧0<nmB b (l.take i)∧∃ g,y.1=rfF l b (sq0 (nmB b (l.take i))) i++tl 17 g∧y.2.1=pA (nmB b (l.take i)))
theorem ZrO {b:Int}{l:List UInt8}(hb:b=10∨b=16) (h2:l.length≤20000) (hA:Zb2 b l=true) (h0:0<zy (byR l 0) b) (r:Nat) (y:Lf) (h:∃ i,i≤l.length∧r=l.length-i∧rfS b l i y):
  RunsW (Zk prog Zf ZF Zd3) (rfL f111) y fun e z=>match e with | none=>∃ r',r'<r∧∃ i,i≤l.length∧r'=l.length-i∧rfS b l i z | some none=>False | some (some id')=>id'=0∧rfS b l l.length z:=by
 obtain⟨i,hi,hr,hS⟩:=h;obtain⟨t,h',sc⟩:=y;by_cases hc:i<l.length
 ·have lA:decide (((i:Nat):Int)<(l.length:Nat))=true:=Xa (by omega);have lI:decide ((0:Int)≤(i:Nat)∧((i:Nat):Int).toNat<l.length)=true:=Xa ⟨by omega,by rw[Xg];exact hc⟩;have lB:decide (b=10∨b=16)=true:=Xa hb;have ew:i64.wrap (((i:Nat):Int)+1)=((i+1:Nat):Int):=by rw[Zw (by omega) (by omega)];omega
  have bD:=ZhI (byR l (i:Nat)) b;have bd0:=ZrN hA hc;have eD:(u32.wrap (zy (byR l (i:Nat)) b))=zy (byR l (i:Nat)) b:=by
   simp [IntKind.wrap,IntKind.bits,IntKind.signed];omega
  have eB:u32.wrap b=b:=by
   simp [IntKind.wrap,IntKind.bits,IntKind.signed];omega
  have eV:=Zrv b l hc;have eC:lq8 (l.getD i 0)=byR l (i:Nat):=by unfold lq8 byR;rw[Xg]
  rw[eC] at eV;rcases hS with ⟨hz,g,ht,hh⟩ | ⟨hz,hp,g,ht,hh⟩
  ·simp only at ht hh;subst ht hh;have hg:=Z6W l b (i:Nat) (nmB b (l.take (i+1))) g;rw[ew,eD,eB] at hg;have d0:0<zy (byR l (i:Nat)) b:=by rw[hz];exact h0
   have e0:nmB b (l.take i)=0:=by rw[hz];rfl
   have k0:ZaZ ⟨0,[]⟩ none 0 0 b (zy (byR l (i:Nat)) b)=true:=by
    unfold ZaZ;rw[Xa ⟨⟨by omega,by omega⟩,by omega,by omega⟩];rfl
   refine (Zb (s0:=sc) Zk0 hg (Za (Xa (by rw[eV,e0,show vO ⟨0,[]⟩ none 0=0 from rfl])) (Za k0 (Za (Xa (.inr d0)) (Za lB (Za lI (Z5 lA))))))).mono fun e z he=> ?_;obtain⟨rfl,⟨g',z1⟩,z2⟩:=he;exact⟨l.length-(i+1),by omega,i+1,by omega,rfl,.inr ⟨by omega,by rw[eV,e0];omega,g',z1,z2⟩⟩
  ·simp only at ht hh;subst ht hh;have lV:=Z2a hb (l.take i);have lT:(l.take i).length≤i:=by rw[List.length_take];omega
   obtain⟨V,hV⟩:∃ V,V=nmB b (l.take i):=⟨_,rfl⟩;rw[← hV] at eV lV hp;have h1:0<(d16 V).length:=by
    unfold d16;rw[List.length_pos_iff,ne_eq,Zcc (by omega)];omega
   have k1:ZaZ (pA V) (some ⟨0,0,none⟩) (d16 V).length (d16 V).length b (zy (byR l (i:Nat)) b)=true:=by
    unfold ZaZ;rw[ZJ (h:=pA V) (b:=0) (A:=V) rfl (by omega),Zaa (h:=pA V) (b:=0) (A:=V) (ty:=tU) rfl,Zl.2 (by omega),Xa ⟨⟨by omega,by omega⟩,by omega,by omega⟩];rfl
   have q1:decide (vO (pA V) (some ⟨0,0,none⟩) (d16 V).length*b.toNat+(zy (byR l (i:Nat)) b).toNat=nmB b (l.take (i+1)))=true:=Xa (by rw[zE (h:=pA V) (b:=0) (A:=V) (ty:=tU) rfl,eV]);have hg:=Z6X l b (i:Nat) V (nmB b (l.take (i+1))) g;rw[ew,eD,eB] at hg;rw[← hV];have hb0:0<b.toNat:=by omega
   have hW:0<nmB b (l.take (i+1)):=by rw[eV];have:=Nat.mul_pos hp hb0;omega
   refine ((Zb (s0:=sc) Zk0 hg (Za q1 (Za k1 (Za (Xa (.inl h1)) (Za lB (Za lI (Z5 lA))))))).kept (k:=0) (b:=1) (base:=[]) (y:=wq (nmB b (l.take (i+1)))) (front':=rfF l b (sq0 (nmB b (l.take (i+1)))) ((i+1:Nat):Int)) rfl (by kernel_rfl) (fun j x hx=>by have:j<0:=Hp.blk_lt hx;omega) rfl (by omega) (ZE _) (by
    intro v hv;simp only[rfF,List.mem_cons,List.not_mem_nil,or_false] at hv;rcases hv with rfl | rfl | rfl | rfl | rfl | rfl | rfl<;>rfl)).mono fun e z he=> ?_
   obtain⟨rfl,⟨g',z1⟩,z2⟩:=he;exact⟨l.length-(i+1),by omega,i+1,by omega,rfl,.inr ⟨by omega,hW,g',z1,z2⟩⟩
 ·have his:i=l.length:=by omega
  have out:∀ (o:Value) (g:Nat→Value),RunsW (Zk prog Zf ZF Zd3) (rfL f111) (rfF l b o i++tl 17 g,h',sc) fun e z=>e=some (some 0)∧(∃ g,z.1=rfF l b o i++tl 17 g)∧z.2.1=h':=fun o g=>Zb (s0:=sc) Zk0 (Z9m l b o (i:Nat) h' g) (Z5 (Xb (by omega)));rw[← his];rcases hS with ⟨hz,g,ht,hh⟩ | ⟨hz,hp,g,ht,hh⟩
  ·simp only at ht hh;subst ht;refine (out _ g).mono fun e z he=> ?_;obtain⟨rfl,⟨g',z1⟩,z2⟩:=he;exact⟨rfl,.inl ⟨hz,g',z1,z2.trans hh⟩⟩
  ·simp only at ht hh;subst ht;refine (out _ g).mono fun e z he=> ?_;obtain⟨rfl,⟨g',z1⟩,z2⟩:=he;exact⟨rfl,.inr ⟨hz,hp,g',z1,z2.trans hh⟩⟩
theorem ZwV {b:Int}{l:List UInt8}(hb:b=10∨b=16) (h2:l.length≤20000) (hA:Zb2 b l=true) (h0:0<zy (byR l 0) b):RunsW (Zk prog Zf ZF Zd3) (ZW (rfP f111) (.seq (.seq (rfI f111) (.block 0 (.loop (rfL f111)))) (rfE f111))) ([bR l,.int .i64 b]++List.replicate 22 undef,⟨0,[]⟩,[]) fun e z=>(e=none∨e=some none)∧ZV prog f111 z.1 z.2.1=some (sl 0 0 (d16 (nmB b l)).length (d16 (nmB b l)).length)∧∃ r,z.2.1.blk? 0=some (wU (d16 (nmB b l))++r,tU):=by
 refine Zv Zk0 (Z1Z l b) Zca fun g=> ?_;refine RunsW.seq (P1:=fun e y=>match e with | none=>rfS b l l.length y | some none=>False | some (some _)=>False) ?_ ?_ ?_
 ·refine RunsW.seq (Zb Zk0 (Z9l l b _ g) Zca) ?_ (fun e y he=>by cases he.1);rintro⟨t,hh,sc⟩ ⟨_,⟨g',e1⟩,e2⟩;refine RunsW.forLoop (R:=fun _=>False) (P:=rfS b l l.length) (fun r y=>∃ i,i≤l.length∧r=l.length-i∧rfS b l i y) (ZrO hb h2 hA h0) (n:=l.length) ⟨0,by omega,rfl,.inl ⟨rfl,g',e1,e2⟩⟩
 ·rintro⟨t,hh,sc⟩ hS;have et:l.take l.length=l:=List.take_length;rcases hS with ⟨hz,g',e1,e2⟩ | ⟨hz,hp,g',e1,e2⟩
  ·exfalso
   have:l=[]:=List.eq_nil_of_length_eq_zero hz;rw[this] at h0;have e:zy (byR [] 0) b= -1:=by
    unfold byR zy;rw[if_neg (by decide),if_neg (by intro h;exact absurd h.2.1 (by decide))]
   omega
  ·simp only at e1 e2;subst e1 e2;rw[et];refine (Zb (s0:=sc) Zk0 (Z9n l b _ _ _ g') Zca).mono fun e z he=> ?_;obtain⟨rfl,⟨g2,z1⟩,z2⟩:=he;exact⟨.inr rfl,by rw[z1,z2];rfl,[],by rw[z2,List.append_nil];rfl⟩
 ·rintro e ⟨t,hh,sc⟩ hc
  match e,hc with
  | none,hc=>exact hc.elim
  | some _,hc=>exact hc.elim
def Z6Y:Zae:=fun vals h s=>
 match vals,s with
 | [.string ⟨⟨l⟩⟩,.int .i64 b],.inr (.inl V)::s'=>Zda V.toNat h s' [(decide (nmB b l=V.toNat),true),(ZrM b l,true)]
 | _,_=>none
theorem ZwW:Z6 111 Z6Y:=by
 intro vals h s v h' s' lg hg hl m B w E hv;unfold Z6Y at hg;split at hg
 ·rename_i l b V s2;unfold Zda at hg;cases hg;rw[ZlD,ZlD] at hl;obtain⟨l0,l1,_⟩:=hl;have l0:=Xc l0;rw[← l0];unfold ZrM at l1;simp only[Xh,Xi] at l1;obtain⟨⟨⟨q1,q2⟩,q3⟩,q4⟩:=l1;have r:=ZwV q1 q2 q3 q4;have e:rn (fun _=>h.n) (sl 0 0 (d16 (nmB b l)).length (d16 (nmB b l)).length)=sl h.n 0 (d16 (nmB b l)).length (d16 (nmB b l)).length:=by kernel_rfl
  have:=ZI (T:=(Zk prog Zf ZF Zd3)) func111 ZwU (h0:=⟨0,[]⟩) ⟨rfl,fun b x hx=>by have:b<0:=Hp.blk_lt hx;omega⟩ (vals:=[bR l,.int .i64 b]) (fun v hv=>by
   simp only[List.mem_cons,List.not_mem_nil,or_false] at hv;rcases hv with h1 | h1<;>rw[h1]<;>rfl) (k:=0) (cs:=wU (d16 (nmB b l))) (ty:=tU) (ZaX _) (by kernel_rfl) r (by rfl) E (s:=fun i=>i) (fun i x hx=>by have:i<0:=Hp.blk_lt hx;omega)
  rw[e] at this;exact this
 ·cases hg
end Go.Proofs.YtgefjidphfdhdaaGreatDoor
