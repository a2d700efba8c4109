/-
  RdG, RdH, SuN, RdI, RdJ, RdLd, RdN
-/
import Derived.Test.YtjlponbdflkbjaaGreatDoorG27
import Derived.Test.YtjlponbdflkbjaaGreatDoorG26
import Derived.Test.YtjlponbdflkbjaaGreatDoorG22
namespace Go.Proofs.YtjlponbdflkbjaaGreatDoor
open Go.Proofs.Tryz
open Go.IntKind
open Go.KRun Go.Nt Go.Rd Go.Rn
set_option maxRecDepth 100000
def dnS (n:Bool) (b:Int) (D:List UInt8) (k P:Int) (l:List UInt8) (y:Lf):Prop:=trZ l=trZ D∧∃ g,y.1=dnF n b D k P l++tl 104 g∧y.2.1=dnM n b D k P
theorem Zst {n:Bool}{b:Int}{D:List UInt8}{k P:Int}(r:Nat) (y:Lf) (h:∃ l,r=l.length∧dnS n b D k P l y):
  RunsW (Zr prog Zf ZG ZeA) (dnL f22) y fun e z=>match e with | none=>∃ r',r'<r∧∃ l,r'=l.length∧dnS n b D k P l z | some none=>False | some (some id')=>id'=0∧dnS n b D k P (trZ D) z:=by
 obtain⟨l,hr,hz,g,ht,hh⟩:=h;obtain⟨t,h',sc⟩:=y;simp only at ht hh;subst ht hh;cases l with
 | nil=>
  refine (Ze (s0:=sc) Zez (ZAe n b D k P g) (Z4 rfl)).mono fun e z he=> ?_;obtain⟨rfl,⟨g',z1⟩,z2⟩:=he;have e0:trZ D=[]:=hz.symm;rw[e0];exact⟨rfl,e0.symm ▸ rfl,g',z1,z2⟩
 | cons c l=>
  have l0:decide ((((c::l).length:Nat):Int)>0)=true:=dT (by rw[List.length_cons];omega);have l1:decide ((0:Int)≤0∧0<(c::l).length)=true:=dT ⟨by omega,by rw[List.length_cons];omega⟩;by_cases hc:lq8 c=48
  ·refine (Ze (s0:=sc) Zez (ZAg n b D k P c l g) (Za (dT ⟨by omega,by rw[List.length_cons];omega⟩) (Za (zv hc) (Za l1 (Z4 l0))))).mono fun e z he=> ?_;obtain⟨rfl,⟨g',z1⟩,z2⟩:=he;rw[ZcE,if_pos hc] at hz;exact⟨l.length,by rw[hr,List.length_cons];omega,l,rfl,hz,g',z1,z2⟩
  ·refine (Ze (s0:=sc) Zez (ZAf n b D k P c l g) (Za (zw hc) (Za l1 (Z4 l0)))).mono fun e z he=> ?_;obtain⟨rfl,⟨g',z1⟩,z2⟩:=he;have e0:trZ D=c::l:=by rw[← hz,ZcE,if_neg hc]
   rw[e0];refine⟨rfl,?_,g',z1,z2⟩;rw[e0,ZcE,if_neg hc]
def ZyJ (b:Int) (D:List UInt8) (k P:Int):Bool:=decide ((b=10∨b=16)∧D.length≤10000∧(0≤k∧k≤10000)∧ -2000000≤P∧P≤2000000) && zf b D
def dnZ (n:Bool) (V:Nat) (E:Int) (e:Ex) (z:Lf):Prop:=(e=none∨e=some none)∧∃ j,ZV prog f22 z.1 z.2.1=some (vRN n E (sOf j V))∧∃ r,z.2.1.blk? j=some (wU (d16 V)++r,tU)
theorem ZcN {A j:Nat}(h:A<2^j):(d16 A).length≤j/16+1:=Zem (Nat.lt_of_lt_of_le h (Nat.pow_le_pow_right (by omega) (by omega)))
theorem Za6 {A:Nat}(h:0<A):0<(d16 A).length:=ZyB.2 h
theorem Z38 {h:Hp}{b V:Nat}(hb:h.blk? b=some (wU (d16 V),tU)) (hl:(d16 V).length<100000):(zJ h (Zaa b) (d16 V).length (d16 V).length && Zf5 (Zq h (Zaa b) (d16 V).length) && Nat.blt (d16 V).length 1073741824)=true:=by
 unfold Zaa;rw[ZN hb (by omega),ZaF hb,show Zf5 (d16 V)=true from Zdg (ZdY (by omega) _),Zo.2 (by omega)];rfl
theorem Z8F {h:Hp}{b V:Nat}{i:Int}(hb:h.blk? b=some (wU (d16 V),tU)) (hl:(d16 V).length<100000) (h0:0≤i) (h1:i<100000):Zso h (Zaa b) (d16 V).length (d16 V).length i=true:=by
 unfold Zso Zaa;rw[ZN hb (by omega),zW hb,Zo.2 (by omega),dT h0];rfl
theorem ZyK {n:Bool}{b:Int}{D:List UInt8}{k P:Int}{c:UInt8}{l:List UInt8}(hb:b=10∨b=16) (hD:(c::l).length≤10000) (hk:0≤k∧k≤10000) (hP: -2000000≤P∧P≤2000000) (hA:zf b (c::l)=true) (hc:0<ZO (lq8 c) b) (g:Nat→Value) (s:List Dec):
  RunsW (Zr prog Zf ZG ZeA) (sK f22 3) (dnF n b D k P (c::l)++tl 104 g,dnM n b D k P,s) (dnZ n (dnA b (c::l) k P).1 (dnA b (c::l) k P).2):=by
 have hE:((⟨⟨c::l⟩⟩:ByteArray)==⟨⟨[]⟩⟩)=false:=by rw[ZcI];exact dF (by simp)
 have hby:byR (c::l) 0=lq8 c:=rfl;have hok:ZrR b (c::l)=true:=by
  unfold ZrR;rw[hA,hby,dT hc,dT ⟨hb,by omega⟩];rfl
 have hnp:=Zbs hb (r:=l) hc;have hnb:=Zeo hb (c::l);unfold dnA;by_cases h16:b=16
 ·rw[if_pos h16];subst h16;have hg:=ZAi n 16 D k P (c::l) (nmB 16 (c::l)) g;rw[Zw (n:=4*k) (by omega) (by omega),Zw (by omega) (by omega)] at hg;refine (Ze (s0:=s) Zez hg (Za (dT rfl) (Za hok (Za (by decide) (Z4 hE))))).mono fun e z he=> ?_;obtain⟨rfl,⟨g',z1⟩,z2⟩:=he;exact⟨.inr rfl,2,by rw[z1,z2];rfl,[],by rw[z2,List.append_nil];rfl⟩
 rw[if_neg h16];have h10:b=10:=by omega
 subst h10;have k16:((10:Int)==16)=false:=by decide
 obtain⟨L,hL⟩:∃ L,L=(c::l).length:=⟨_,rfl⟩;have ePl:i64.wrap (P-k)=P-k:=Zw (by omega) (by omega);have eSm:i64.wrap (P-k+((L:Nat):Int))=P-k+((L:Nat):Int):=Zw (by omega) (by omega);by_cases ho:320<P-k+(((c::l).length:Nat):Int)
 ·rw[if_pos ho];have hg:=ZAj n 10 D k P (c::l) g;rw[ePl,← hL,eSm] at hg;rw[← hL] at ho;refine (Ze (s0:=s) Zez hg (Za rfl (Za (dT (by omega)) (Za k16 (Z4 hE))))).mono fun e z he=> ?_;obtain⟨rfl,⟨g',z1⟩,z2⟩:=he;exact⟨.inr rfl,2,by rw[z1,z2];rfl,[],by rw[z2,List.append_nil];rfl⟩
 rw[if_neg ho];by_cases hu:P-k+(((c::l).length:Nat):Int)< -340
 ·rw[if_pos hu];have hg:=ZAk n 10 D k P (c::l) g;rw[ePl,← hL,eSm] at hg;rw[← hL] at ho hu;refine (Ze (s0:=s) Zez hg (Za rfl (Za (dT (by omega)) (Za (dF (by omega)) (Za k16 (Z4 hE)))))).mono fun e z he=> ?_;obtain⟨rfl,⟨g',z1⟩,z2⟩:=he;exact⟨.inr rfl,2,by rw[z1,z2];rfl,[],by rw[z2,List.append_nil];rfl⟩
 rw[if_neg hu];rw[← hL] at ho hu hnb hD;obtain⟨A,hAA⟩:∃ A,A=nmB 10 (c::l):=⟨_,rfl⟩;rw[← hAA] at hnp hnb ⊢;have lA:=ZcN hnb;have b2:Z3 [(decide (nmB 10 (c::l)=A),true),(ZrR 10 (c::l),true),(decide (P-k+((L:Nat):Int)< -340),false),(decide (P-k+((L:Nat):Int)>320),false),((10:Int)==16,false),((⟨⟨c::l⟩⟩:ByteArray)==⟨⟨[]⟩⟩,false)]:=Za (dT hAA.symm) (Za hok (Za (dF hu) (Za (dF (by omega)) (Za k16 (Z4 hE)))));by_cases hp:0≤P-k
 ·rw[if_pos hp];obtain⟨B,hB⟩:∃ B,B=10^(P-k).toNat:=⟨_,rfl⟩;rw[← hB];have tb:=ZdD (P-k).toNat;rw[← hB] at tb;have lB:=ZcN tb;have hg:=ZAl n 10 D k P (c::l) A B (A*B) g;rw[ePl,← hL,eSm] at hg;refine (Ze (s0:=s) Zez hg (Za (dT (by rw[Ze9 (V:=A) rfl,Ze9 (V:=B) rfl])) (Za (oMu (V:=A) (W:=B) rfl rfl (by omega) (by omega)) (Za (dT hB.symm) (Za (dT ⟨by omega,by omega,by omega,by omega⟩) (Za (dF (by omega)) (Za (dT hp) b2))))))).mono fun e z he=> ?_;obtain⟨rfl,⟨g',z1⟩,z2⟩:=he;exact⟨.inr rfl,4,by rw[z1,z2];rfl,[],by rw[z2,List.append_nil];rfl⟩
 rw[if_neg hp];obtain⟨B,hB⟩:∃ B,B=10^(k-P).toNat:=⟨_,rfl⟩;rw[← hB];have tb:=ZdD (k-P).toNat;have B0:0<B:=by rw[hB];exact Nat.pow_pos (by omega)
 rw[← hB] at tb;have lB:=ZcN tb;have eNp:i64.wrap (0-(P-k))=k-P:=by rw[Zw (by omega) (by omega)];omega
 have vA:vO (dnN n 10 D k P nZ [A,B]) (Zaa 2) (d16 A).length=A:=Ze9 (V:=A) rfl;have vB:vO (dnN n 10 D k P nZ [A,B]) (Zaa 3) (d16 B).length=B:=Ze9 (V:=B) rfl;have bA:=len_le hnb;have bB:=len_le tb;have eU:upD n 10 D k P A B=((upN A B:Nat):Int):=by
  unfold upD;rw[vA,vB,ZbK,ZbK,Zw (n:=((bitLen B:Nat):Int)-((bitLen A:Nat):Int)) (by omega) (by omega),Zw (by omega) (by omega)];unfold upN;split<;>omega
 have hu1:upN A B≤41600:=by unfold upN;omega
 have hbig:=Ztj (A:=A) (B:=B) (by omega);obtain⟨X,hX⟩:∃ X,X=A*2^upN A B:=⟨_,rfl⟩;have hXb:X<2^(4*L+upN A B):=by rw[hX,Nat.pow_add];exact Nat.mul_lt_mul_of_pos_right hnb (Nat.pow_pos (by omega))
 have lX:=ZcN hXb;have X0:0<X:=by rw[hX];exact Nat.mul_pos hnp (Nat.pow_pos (by omega))
 rw[← hX] at hbig;have hQX:X/B≤X:=Nat.div_le_self _ _;have hQ0:0<X/B:=Nat.div_pos (Nat.le_trans (Nat.le_mul_of_pos_left B (by decide)) hbig) B0;have hRX:X % B≤X:=Nat.mod_le _ _;have lQ:=ZcN (Nat.lt_of_le_of_lt hQX hXb);have lR:=ZcN (Nat.lt_of_le_of_lt hRX hXb);have hYb:X/B*2+1<2^(4*L+upN A B+2):=by rw[Nat.pow_add];omega
 have lY:=ZcN (Nat.lt_of_le_of_lt (show X/B*2≤X/B*2+1 by omega) hYb);have lV:=ZcN hYb;obtain⟨Q,hQ⟩:∃ Q,Q=X/B:=⟨_,rfl⟩;obtain⟨R,hR⟩:∃ R,R=X % B:=⟨_,rfl⟩;rw[← hQ] at hQ0 lQ lY lV;rw[← hR] at lR;have eV:dvK A B (upN A B)=2*Q+(if R=0 then 0 else 1):=by unfold dvK;rw[← hX,← hQ,← hR]
 have eE:i64.wrap (i64.wrap (0-((upN A B:Nat):Int))-1)= -((upN A B:Nat):Int)-1:=by
  rw[Zw (n:=0-((upN A B:Nat):Int)) (by omega) (by omega),Zw (by omega) (by omega)];omega
 have ln2:=Z38 (h:=dnN n 10 D k P nZ [A,B]) (b:=2) (V:=A) rfl (by omega);have ln3:=Z38 (h:=dnN n 10 D k P nZ [A,B]) (b:=3) (V:=B) rfl (by omega);have mid:=Za (dT (show vO (dnN n 10 D k P nZ [A,B,X,Q,R]) (Zaa 5) (d16 Q).length*2^(1:Int).toNat=Q*2 by rw[Ze9 (V:=Q) rfl];rfl)) (Za (Z8F (h:=dnN n 10 D k P nZ [A,B,X,Q,R]) (b:=5) (V:=Q) (i:=1) rfl (by omega) (by omega) (by omega)) (Za (dT (Za6 hQ0)) (Za (dT (show vO (dnN n 10 D k P nZ [A,B,X]) (Zaa 4) (d16 X).length/vO (dnN n 10 D k P nZ [A,B,X]) (Zaa 3) (d16 B).length=Q∧vO (dnN n 10 D k P nZ [A,B,X]) (Zaa 4) (d16 X).length % vO (dnN n 10 D k P nZ [A,B,X]) (Zaa 3) (d16 B).length=R by rw[Ze9 (V:=X) rfl,Ze9 (V:=B) rfl];exact⟨hQ.symm,hR.symm⟩)) (Za (oPa (h:=dnN n 10 D k P nZ [A,B,X]) (b:=4) (b':=3) (V:=X) (W:=B) rfl rfl (by omega) (by omega) (Za6 X0) (Za6 B0)) (Za (dT (show vO (dnN n 10 D k P nZ [A,B]) (Zaa 2) (d16 A).length*2^(((upN A B:Nat):Int)).toNat=X by rw[vA,tN,hX])) (Za (Z8F (h:=dnN n 10 D k P nZ [A,B]) (b:=2) (V:=A) (i:=((upN A B:Nat):Int)) rfl (by omega) (by omega) (by omega)) (Za (dT (Za6 hnp)) (Za ln2 (Za ln3 (Za (dT (show (10:Int).toNat^(k-P).toNat=B from hB.symm)) (Za (show ZyV 10 (k-P)=true from dT ⟨by omega,by omega,by omega,by omega⟩) (Za (dF (show ¬ ((10:Int)=0∧2≤k-P) by omega)) (Za (dF (show ¬ P-k≥0 by omega)) b2)))))))))))));by_cases hR0:R=0
 ·have hg:=ZAm n 10 D k P (c::l) A B X Q R (Q*2) g;rw[eU,eE,ePl,eNp,← hL,eSm] at hg;rw[eV,if_pos hR0,show 2*Q+0=Q*2 by omega];refine (Ze (s0:=s) Zez hg (Za (dF (by rw[hR0,Zvn];simp)) mid)).mono fun e z he=> ?_;obtain⟨rfl,⟨g',z1⟩,z2⟩:=he;exact⟨.inr rfl,7,by rw[z1,z2];rfl,[],by rw[z2,List.append_nil];rfl⟩
 ·have hg:=ZAn n 10 D k P (c::l) A B X Q R (Q*2) (Q*2+1) g;rw[eU,eE,ePl,eNp,← hL,eSm] at hg;rw[eV,if_neg hR0,show 2*Q+1=Q*2+1 by omega];have l1:=ZcN (A:=1) (j:=1) (by decide);refine (Ze (s0:=s) Zez hg (Za (dT (by rw[Ze9 (V:=Q*2) rfl,Ze9 (V:=1) rfl])) (Za (ZAd (V:=Q*2) (W:=1) rfl rfl (by omega) (by omega)) (Za (dT (.inl (Za6 (by omega)))) (Za rfl (Za (dT (by have:=Za6 (A:=R) (by omega);omega)) mid)))))).mono fun e z he=> ?_;obtain⟨rfl,⟨g',z1⟩,z2⟩:=he;exact⟨.inr rfl,9,by rw[z1,z2];rfl,[],by rw[z2,List.append_nil];rfl⟩
end Go.Proofs.YtjlponbdflkbjaaGreatDoor
namespace Go.Proofs.YtjlponbdflkbjaaGreatDoor
open Go.Proofs.Tryz
open Go.KRun Go.Nt Go.Rd Go.Rn
set_option maxRecDepth 100000
theorem Zo4 {n:Bool}{b:Int}{D:List UInt8}{k P:Int}{Q:Ex→Lf→Prop}(h:∀ g s,RunsW (Zr prog Zf ZG ZeA) (sK f22 3) (dnF n b D k P (trZ D)++tl 104 g,dnM n b D k P,s) Q):RunsW (Zr prog Zf ZG ZeA) (ZW (Z36 f22) (.seq (.block 0 (.loop (dnL f22))) (sK f22 3))) ([tX n b D k P]++List.replicate 107 uZ,⟨0,[]⟩,[]) Q:=by
 refine Z0 Zez (Z37 n b D k P) ZaI fun g=> ?_;refine RunsW.seq (P1:=fun e y=>match e with | none=>dnS n b D k P (trZ D) y | some none=>False | some (some _)=>False) (RunsW.forLoop (R:=fun _=>False) (P:=dnS n b D k P (trZ D)) (fun r y=>∃ l,r=l.length∧dnS n b D k P l y) Zst (n:=D.length) ⟨D,rfl,rfl,g,rfl,rfl⟩) ?_ (fun e y he=>by match e,he with | none,he=>exact he.elim | some _,he=>exact he.elim);rintro⟨t,hh,sc⟩ ⟨_,g',e1,e2⟩;simp only at e1 e2;subst e1 e2;exact h g' sc
def gDn:Zad:=fun vals h s=>
 match vals,s with
 | [.agg cs],.inr (.inr (.inr (.inl true)))::s'=>
  match cs.toList with
  | [.bool n,.int .i64 b,.string ⟨⟨D⟩⟩,.int .i64 k,.int .i64 P]=>some (vRN n 0 Zp,h,s',[(decide (trZ D=[]),true),(ZyJ b D k P,true)])
  | _=>none
 | [.agg cs],.inr (.inr (.inr (.inl false))):: .inr (.inl V):: .inr (.inl E)::s'=>
  match cs.toList with
  | [.bool n,.int .i64 b,.string ⟨⟨D⟩⟩,.int .i64 k,.int .i64 P]=>some (vRN n E (sOf h.n V.toNat),h.push (wU (d16 V.toNat)) tU,s',[(decide (dnA b (trZ D) k P=(V.toNat,E)),true),(decide (trZ D=[]),false),(ZyJ b D k P,true)])
  | _=>none
 | _,_=>none
theorem Z39:Z8 22 gDn:=by
 intro vals h s v h' s' lg hg hl m B w E0 hv;unfold gDn at hg;split at hg
 ·rename_i cs s2;split at hg
  ·rename_i n b D k P hcs;have ecs:cs= #[.bool n,.int .i64 b,bR D,.int .i64 k,.int .i64 P]:=by
    have:=congrArg List.toArray hcs;simpa [bR] using this
   cases hg;rw[ZcQ,ZcQ] at hl;obtain⟨l1,_,_⟩:=hl;have l1:trZ D=[]:=oT l1;rw[ecs];have r:RunsW (Zr prog Zf ZG ZeA) (ZW (Z36 f22) (.seq (.block 0 (.loop (dnL f22))) (sK f22 3))) ([tX n b D k P]++List.replicate 107 uZ,⟨0,[]⟩,[]) fun e z=>(e=none∨e=some none)∧ZV prog f22 z.1 z.2.1=some (vRN n 0 Zp):=Zo4 fun g s=>by
    rw[l1];refine (Ze (s0:=s) Zez (ZAh n b D k P [] g) (Z4 (by rw[ZcI];rfl))).mono fun e z he=> ?_;obtain⟨rfl,⟨g',z1⟩,z2⟩:=he;exact⟨.inr rfl,by rw[z1,z2];rfl⟩
   have evals:List.map (rn fun i=>i) [tX n b D k P]=[.agg #[.bool n,.int .i64 b,bR D,.int .i64 k,.int .i64 P]]:=by simp [rn,rn2,rn1,tX,bR]
   have fin:=ZB (T:=(Zr prog Zf ZG ZeA)) func22 Zo3 (h0:=⟨0,[]⟩) ⟨rfl,fun b x hx=>by have:b<0:=Hp.blk_lt hx;omega⟩ (vals:=[tX n b D k P]) (fun v hv=>by rw[List.mem_singleton.1 hv];rfl) (v:=vRN n 0 Zp) (by rfl) r E0 (s:=fun i=>i) (fun i x hx=>by have:i<0:=Hp.blk_lt hx;omega);rw[evals] at fin;exact fin
  ·cases hg
 ·rename_i cs V E s2;split at hg
  ·rename_i n b D k P hcs;have ecs:cs= #[.bool n,.int .i64 b,bR D,.int .i64 k,.int .i64 P]:=by
    have:=congrArg List.toArray hcs;simpa [bR] using this
   cases hg;rw[ZcQ,ZcQ,ZcQ] at hl;obtain⟨l0,l1,l2,_⟩:=hl;have l0:dnA b (trZ D) k P=(V.toNat,E):=oT l0;have l1:¬ trZ D=[]:=of_decide_eq_false l1;unfold ZyJ at l2;simp only[Bool.and_eq_true,decide_eq_true_eq] at l2;obtain⟨⟨q1,q2,q3,q4⟩,q5⟩:=l2;obtain⟨c,l,hcl⟩:∃ c l,trZ D=c::l:=by
    cases h3:trZ D with
    | nil=>exact absurd h3 l1
    | cons c l=>exact⟨c,l,rfl⟩
   have r:RunsW (Zr prog Zf ZG ZeA) (ZW (Z36 f22) (.seq (.block 0 (.loop (dnL f22))) (sK f22 3))) ([tX n b D k P]++List.replicate 107 uZ,⟨0,[]⟩,[]) (dnZ n V.toNat E):=Zo4 fun g s=>by
    have ht:=Zdj D;have:=ZyK (n:=n) (b:=b) (D:=D) (k:=k) (P:=P) (c:=c) (l:=l) q1 (by rw[← hcl];omega) q3 q4 (by rw[← hcl];exact ZcD q5) (ZaQ q5 hcl) g s;rw[← hcl,l0] at this;exact this
   rw[ecs];have evals:List.map (rn fun i=>i) [tX n b D k P]=[.agg #[.bool n,.int .i64 b,bR D,.int .i64 k,.int .i64 P]]:=by simp [rn,rn2,rn1,tX,bR]
   have fin:=ZcW (T:=(Zr prog Zf ZG ZeA)) func22 Zo3 (h0:=⟨0,[]⟩) ⟨rfl,fun b x hx=>by have:b<0:=Hp.blk_lt hx;omega⟩ (vals:=[tX n b D k P]) (fun v hv=>by rw[List.mem_singleton.1 hv];rfl) (v:=fun j=>vRN n E (sOf j V.toNat)) (Zbb _) (by kernel_rfl) r (fun k=>by simp [oc,oc2,oc1,sOf,sl,vRN]) E0 (s:=fun i=>i) (fun i x hx=>by have:i<0:=Hp.blk_lt hx;omega) (fun k=>by simp [rn,rn2,rn1,sOf,sl,vRN]);rw[evals] at fin;exact fin
  ·cases hg
 ·cases hg
end Go.Proofs.YtjlponbdflkbjaaGreatDoor
namespace Go.Proofs.YtjlponbdflkbjaaGreatDoor
open Go.Proofs.Tryz
open Go.KRun Go.Nt Go.Wd Go.Rn Go.Pt
set_option maxRecDepth 100000
set_option linter.unusedVariables false
def r0V (neg:Bool):Value:= .tuple #[.int .u64 (sS neg 0),.int .i64 0]
theorem r0a (neg:Bool) (E M:Int):Z7 (Zm (Zk prog Zf Zn true) 200 21 [vRN neg E Zp,.int .i64 M] [cmp true,cmp true]) (r0V neg) [(((0:Nat):Int)==0,true),(decide (M<0),true)]:=by
 cases neg<;>exact by and_intros<;>kernel_rfl
theorem r0b (neg:Bool) (E M:Int):Z7 (Zm (Zk prog Zf Zn true) 200 21 [vRN neg E Zp,.int .i64 M] [cmp false,cmp true,cmp true]) (r0V neg) [(((0:Nat):Int)==0,true),(decide (M>4),true),(decide (M<0),false)]:=by
 cases neg<;>exact by and_intros<;>kernel_rfl
theorem r0c (neg:Bool) (E M:Int):Z7 (Zm (Zk prog Zf Zn true) 200 21 [vRN neg E Zp,.int .i64 M] [cmp false,cmp false,cmp true]) (r0V neg) [(((0:Nat):Int)==0,true),(decide (M>4),false),(decide (M<0),false)]:=by
 cases neg<;>exact by and_intros<;>kernel_rfl
def gR0:Ans:=fun vals s=>
 match vals with
 | [.agg cs,.int .i64 M]=>
  match cs.toList with
  | [.bool neg,.int .i64 E,.slice none 0 0]=>some (r0V neg,s,[])
  | _=>none
 | _=>none
theorem Z3A:ZR 21 gR0:=by
 intro vals s v s' lg h hl w;unfold gR0 at h;split at h
 ·rename_i cs M;split at h
  ·rename_i neg E hcs;have ecs:cs= #[.bool neg,.int .i64 E,Zp]:=by
    have:=congrArg List.toArray hcs;simpa [Zp] using this
   cases h;rw[ecs];by_cases h0:M<0
   ·exact Zc (Zj Zd) (r0a neg E M) (Za rfl (Z4 (dT h0))) (by rfl) (by rfl) w
   ·by_cases h4:M>4
    ·exact Zc (Zj Zd) (r0b neg E M) (Za rfl (Za (dT h4) (Z4 (dF h0)))) (by rfl) (by rfl) w
    ·exact Zc (Zj Zd) (r0c neg E M) (Za rfl (Za (dF h4) (Z4 (dF h0)))) (by rfl) (by rfl) w
  ·cases h
 ·cases h
end Go.Proofs.YtjlponbdflkbjaaGreatDoor
namespace Go.Proofs.YtjlponbdflkbjaaGreatDoor
open Go.Proofs.Tryz
open Go.KRun Go.Nt Go.Rd Go.Rn
set_option maxRecDepth 100000
def z6:Con:=alt 20 Z7W (alt 21 gR0 Zn)
theorem ZdG:ConOk z6:=Z9 func20 rfl ZxL (Z9 func21 rfl Z3A Zd)
def Zb3:Hc:=zS 22 gDn (zS 21 Z8u hcN)
theorem ZfX:HcOk Zb3:=Z1 func22 rfl Z39 (Z1 func21 rfl ZyH Zam)
def lN1 (l:List UInt8) (k:Int) (d:Bool):Bool×Bool:=(decide (((l.length:Nat):Int)>k),d)
def lX0 (l:List UInt8):Bool×Bool:=(decide ((0:Int)≤0∧0<l.length),true)
def lCh (c:UInt8) (k:Int) (d:Bool):Bool×Bool:=(lq8 c==k,d)
def lPt (l:List UInt8) (k:Int):Bool×Bool:=(decide ((0:Int)≤k∧k≤((l.length:Nat):Int)),true)
def lIs (u w:List UInt8) (d:Bool):Bool×Bool:=((⟨⟨u⟩⟩:ByteArray)==⟨⟨w⟩⟩,d)
def lSm (c:UInt8) (r:List UInt8):Log:=[lPt (c::r) 1,lCh c 45 true,lX0 (c::r),lN1 (c::r) 0 true,lCh c 45 true,lX0 (c::r),lN1 (c::r) 0 true,lN1 (c::r) 65536 false]
def lSp (c:UInt8) (r:List UInt8):Log:=[lPt (c::r) 1,lCh c 43 true,lX0 (c::r),lCh c 45 false,lX0 (c::r),lN1 (c::r) 0 true,lCh c 45 false,lX0 (c::r),lN1 (c::r) 0 true,lN1 (c::r) 65536 false]
def Zkx (c:UInt8) (r:List UInt8):Log:=[lCh c 43 false,lX0 (c::r),lCh c 45 false,lX0 (c::r),lN1 (c::r) 0 true,lCh c 45 false,lX0 (c::r),lN1 (c::r) 0 true,lN1 (c::r) 65536 false]
def lSe:Log:=[lN1 [] 0 false,lN1 [] 0 false,lN1 [] 65536 false]
def lBn (u:List UInt8) (l:Log):Log:=lIs u [105,110,102] false::lIs u [110,97,110] false::l
def Zsu (u:List UInt8) (l:Log):Log:=lPt u 2::lIs (u.take 2) [48,120] true::lPt u 2::lN1 u 1 true::lBn u l
def lBa (u:List UInt8) (l:Log):Log:=lIs (u.take 2) [48,120] false::lPt u 2::lN1 u 1 true::lBn u l
def lBb (u:List UInt8) (l:Log):Log:=lN1 u 1 false::lBn u l
def lSc (b:Int) (v:List UInt8) (d:Bool) (l:Log):Log:=((scA b v).2,d)::(decide ((b=10∨b=16)∧v.length≤100000),true)::l
def dgs (b:Int) (v:List UInt8):List UInt8:=(sc1 b false v).1
def bhd (b:Int) (v:List UInt8):Int:=(((sc1 b false v).2.1:Nat):Int)
def lDz (b:Int) (v:List UInt8) (l:Log):Log:=(decide (trZ (dgs b v)=[]),true)::(ZyJ b (dgs b v) (bhd b v) (scA b v).1,true)::l
def hPz (n:Bool) (b:Int) (v:List UInt8) (V:Nat):Hp:=⟨2,[w16 V,tC9 n b (dgs b v) (bhd b v) (scA b v).1]⟩
def lDn (n:Bool) (b:Int) (v:List UInt8) (V:Nat) (E:Int) (l:Log):Log:=(decide (vO (hPz n b v V) (Zaa 1) (d16 V).length=V),true)::(Zo2 (hPz n b v V) (Zaa 1) (d16 V).length (d16 V).length E,true)::(decide (dnA b (trZ (dgs b v)) (bhd b v) (scA b v).1=(V,E)),true)::(decide (trZ (dgs b v)=[]),false)::(ZyJ b (dgs b v) (bhd b v) (scA b v).1,true)::l
theorem ZAo (l:List UInt8) (m:Int):Z7 (Zm (Zr prog Zf z6 Zb3) 300 10 [bR l,.int .i64 m] [cmp true]) (.tuple #[.int .u64 0,.int .i64 0,.int .i64 2]) ([(decide (((l.length:Nat):Int)>65536),true)]):=by and_intros<;>kernel_rfl
theorem ZAp (m:Int):Z7 (Zm (Zr prog Zf z6 Zb3) 300 10 [bR [],.int .i64 m] [cmp false,cmp false,cmp false,sam false,sam false,cmp false,cmp false]) (.tuple #[.int .u64 0,.int .i64 0,.int .i64 3]) (lSc 10 [] false (lBb [] lSe)):=by and_intros<;>kernel_rfl
theorem Z8v (c:UInt8) (r:List UInt8) (m:Int):Z7 (Zm (Zr prog Zf z6 Zb3) 300 10 [bR (c::r),.int .i64 m] [cmp false,cmp true,cmp true,cmp true,cmp true,sam true,sam true]) (.tuple #[.int .u64 9221120237041090560,.int .i64 0,.int .i64 0]) (lIs r [110,97,110] true::lSm c r):=by and_intros<;>kernel_rfl
theorem Z8w (c:UInt8) (r:List UInt8) (m:Int):Z7 (Zm (Zr prog Zf z6 Zb3) 300 10 [bR (c::r),.int .i64 m] [cmp false,cmp true,cmp true,cmp true,cmp true,sam true,sam false,sam true]) (.tuple #[.int .u64 18442240474082181120,.int .i64 0,.int .i64 0]) (lIs r [105,110,102] true::lIs r [110,97,110] false::lSm c r):=by and_intros<;>kernel_rfl
theorem Z3B (c:UInt8) (r:List UInt8) (m:Int):Z7 (Zm (Zr prog Zf z6 Zb3) 300 10 [bR (c::r),.int .i64 m] [cmp false,cmp true,cmp true,cmp true,cmp true,sam true,sam false,sam false,cmp true,sam true,sam true,sam true,cmp false]) (.tuple #[.int .u64 0,.int .i64 0,.int .i64 3]) (lSc 16 (r.drop 2) false (Zsu r (lSm c r))):=by and_intros<;>kernel_rfl
theorem Z3C (c:UInt8) (r:List UInt8) (m:Int):Z7 (Zm (Zr prog Zf z6 Zb3) 300 10 [bR (c::r),.int .i64 m] [cmp false,cmp true,cmp true,cmp true,cmp true,sam true,sam false,sam false,cmp true,sam true,sam true,sam true,cmp true,cmp true]) (.tuple #[.int .u64 9223372036854775808,.int .i64 0,.int .i64 0]) (lDz 16 (r.drop 2) (lSc 16 (r.drop 2) true (Zsu r (lSm c r)))):=by and_intros<;>kernel_rfl
theorem Z3D (c:UInt8) (r:List UInt8) (m:Int) (V:Nat) (E:Int):Z7 (Zm (Zr prog Zf z6 Zb3) 300 10 [bR (c::r),.int .i64 m] [cmp false,cmp true,cmp true,cmp true,cmp true,sam true,sam false,sam false,cmp true,sam true,sam true,sam true,cmp true,cmp false,num V,num E,num V]) (.tuple #[.int .u64 (sS true (rnP m true V E)),.int .i64 (rnF m true V E),.int .i64 0]) (lDn true 16 (r.drop 2) V E (lSc 16 (r.drop 2) true (Zsu r (lSm c r)))):=by and_intros<;>kernel_rfl
theorem Z3E (c:UInt8) (r:List UInt8) (m:Int):Z7 (Zm (Zr prog Zf z6 Zb3) 300 10 [bR (c::r),.int .i64 m] [cmp false,cmp true,cmp true,cmp true,cmp true,sam true,sam false,sam false,cmp true,sam true,sam false,cmp false]) (.tuple #[.int .u64 0,.int .i64 0,.int .i64 3]) (lSc 10 r false (lBa r (lSm c r))):=by and_intros<;>kernel_rfl
theorem Z3F (c:UInt8) (r:List UInt8) (m:Int):Z7 (Zm (Zr prog Zf z6 Zb3) 300 10 [bR (c::r),.int .i64 m] [cmp false,cmp true,cmp true,cmp true,cmp true,sam true,sam false,sam false,cmp true,sam true,sam false,cmp true,cmp true]) (.tuple #[.int .u64 9223372036854775808,.int .i64 0,.int .i64 0]) (lDz 10 r (lSc 10 r true (lBa r (lSm c r)))):=by and_intros<;>kernel_rfl
theorem Z3G (c:UInt8) (r:List UInt8) (m:Int) (V:Nat) (E:Int):Z7 (Zm (Zr prog Zf z6 Zb3) 300 10 [bR (c::r),.int .i64 m] [cmp false,cmp true,cmp true,cmp true,cmp true,sam true,sam false,sam false,cmp true,sam true,sam false,cmp true,cmp false,num V,num E,num V]) (.tuple #[.int .u64 (sS true (rnP m true V E)),.int .i64 (rnF m true V E),.int .i64 0]) (lDn true 10 r V E (lSc 10 r true (lBa r (lSm c r)))):=by and_intros<;>kernel_rfl
theorem Z3H (c:UInt8) (r:List UInt8) (m:Int):Z7 (Zm (Zr prog Zf z6 Zb3) 300 10 [bR (c::r),.int .i64 m] [cmp false,cmp true,cmp true,cmp true,cmp true,sam true,sam false,sam false,cmp false,cmp false]) (.tuple #[.int .u64 0,.int .i64 0,.int .i64 3]) (lSc 10 r false (lBb r (lSm c r))):=by and_intros<;>kernel_rfl
theorem Z3I (c:UInt8) (r:List UInt8) (m:Int):Z7 (Zm (Zr prog Zf z6 Zb3) 300 10 [bR (c::r),.int .i64 m] [cmp false,cmp true,cmp true,cmp true,cmp true,sam true,sam false,sam false,cmp false,cmp true,cmp true]) (.tuple #[.int .u64 9223372036854775808,.int .i64 0,.int .i64 0]) (lDz 10 r (lSc 10 r true (lBb r (lSm c r)))):=by and_intros<;>kernel_rfl
theorem Z3J (c:UInt8) (r:List UInt8) (m:Int) (V:Nat) (E:Int):Z7 (Zm (Zr prog Zf z6 Zb3) 300 10 [bR (c::r),.int .i64 m] [cmp false,cmp true,cmp true,cmp true,cmp true,sam true,sam false,sam false,cmp false,cmp true,cmp false,num V,num E,num V]) (.tuple #[.int .u64 (sS true (rnP m true V E)),.int .i64 (rnF m true V E),.int .i64 0]) (lDn true 10 r V E (lSc 10 r true (lBb r (lSm c r)))):=by and_intros<;>kernel_rfl
theorem Z8x (c:UInt8) (r:List UInt8) (m:Int):Z7 (Zm (Zr prog Zf z6 Zb3) 300 10 [bR (c::r),.int .i64 m] [cmp false,cmp true,cmp false,cmp true,cmp false,cmp true,sam true,sam true]) (.tuple #[.int .u64 9221120237041090560,.int .i64 0,.int .i64 0]) (lIs r [110,97,110] true::lSp c r):=by and_intros<;>kernel_rfl
theorem Z8y (c:UInt8) (r:List UInt8) (m:Int):Z7 (Zm (Zr prog Zf z6 Zb3) 300 10 [bR (c::r),.int .i64 m] [cmp false,cmp true,cmp false,cmp true,cmp false,cmp true,sam true,sam false,sam true]) (.tuple #[.int .u64 9218868437227405312,.int .i64 0,.int .i64 0]) (lIs r [105,110,102] true::lIs r [110,97,110] false::lSp c r):=by and_intros<;>kernel_rfl
theorem Z3K (c:UInt8) (r:List UInt8) (m:Int):Z7 (Zm (Zr prog Zf z6 Zb3) 300 10 [bR (c::r),.int .i64 m] [cmp false,cmp true,cmp false,cmp true,cmp false,cmp true,sam true,sam false,sam false,cmp true,sam true,sam true,sam true,cmp false]) (.tuple #[.int .u64 0,.int .i64 0,.int .i64 3]) (lSc 16 (r.drop 2) false (Zsu r (lSp c r))):=by and_intros<;>kernel_rfl
theorem Z3L (c:UInt8) (r:List UInt8) (m:Int):Z7 (Zm (Zr prog Zf z6 Zb3) 300 10 [bR (c::r),.int .i64 m] [cmp false,cmp true,cmp false,cmp true,cmp false,cmp true,sam true,sam false,sam false,cmp true,sam true,sam true,sam true,cmp true,cmp true]) (.tuple #[.int .u64 0,.int .i64 0,.int .i64 0]) (lDz 16 (r.drop 2) (lSc 16 (r.drop 2) true (Zsu r (lSp c r)))):=by and_intros<;>kernel_rfl
theorem Z3M (c:UInt8) (r:List UInt8) (m:Int) (V:Nat) (E:Int):Z7 (Zm (Zr prog Zf z6 Zb3) 300 10 [bR (c::r),.int .i64 m] [cmp false,cmp true,cmp false,cmp true,cmp false,cmp true,sam true,sam false,sam false,cmp true,sam true,sam true,sam true,cmp true,cmp false,num V,num E,num V]) (.tuple #[.int .u64 (sS false (rnP m false V E)),.int .i64 (rnF m false V E),.int .i64 0]) (lDn false 16 (r.drop 2) V E (lSc 16 (r.drop 2) true (Zsu r (lSp c r)))):=by and_intros<;>kernel_rfl
theorem Z3N (c:UInt8) (r:List UInt8) (m:Int):Z7 (Zm (Zr prog Zf z6 Zb3) 300 10 [bR (c::r),.int .i64 m] [cmp false,cmp true,cmp false,cmp true,cmp false,cmp true,sam true,sam false,sam false,cmp true,sam true,sam false,cmp false]) (.tuple #[.int .u64 0,.int .i64 0,.int .i64 3]) (lSc 10 r false (lBa r (lSp c r))):=by and_intros<;>kernel_rfl
theorem Z3O (c:UInt8) (r:List UInt8) (m:Int):Z7 (Zm (Zr prog Zf z6 Zb3) 300 10 [bR (c::r),.int .i64 m] [cmp false,cmp true,cmp false,cmp true,cmp false,cmp true,sam true,sam false,sam false,cmp true,sam true,sam false,cmp true,cmp true]) (.tuple #[.int .u64 0,.int .i64 0,.int .i64 0]) (lDz 10 r (lSc 10 r true (lBa r (lSp c r)))):=by and_intros<;>kernel_rfl
theorem Z3P (c:UInt8) (r:List UInt8) (m:Int) (V:Nat) (E:Int):Z7 (Zm (Zr prog Zf z6 Zb3) 300 10 [bR (c::r),.int .i64 m] [cmp false,cmp true,cmp false,cmp true,cmp false,cmp true,sam true,sam false,sam false,cmp true,sam true,sam false,cmp true,cmp false,num V,num E,num V]) (.tuple #[.int .u64 (sS false (rnP m false V E)),.int .i64 (rnF m false V E),.int .i64 0]) (lDn false 10 r V E (lSc 10 r true (lBa r (lSp c r)))):=by and_intros<;>kernel_rfl
theorem Z3Q (c:UInt8) (r:List UInt8) (m:Int):Z7 (Zm (Zr prog Zf z6 Zb3) 300 10 [bR (c::r),.int .i64 m] [cmp false,cmp true,cmp false,cmp true,cmp false,cmp true,sam true,sam false,sam false,cmp false,cmp false]) (.tuple #[.int .u64 0,.int .i64 0,.int .i64 3]) (lSc 10 r false (lBb r (lSp c r))):=by and_intros<;>kernel_rfl
theorem Z3R (c:UInt8) (r:List UInt8) (m:Int):Z7 (Zm (Zr prog Zf z6 Zb3) 300 10 [bR (c::r),.int .i64 m] [cmp false,cmp true,cmp false,cmp true,cmp false,cmp true,sam true,sam false,sam false,cmp false,cmp true,cmp true]) (.tuple #[.int .u64 0,.int .i64 0,.int .i64 0]) (lDz 10 r (lSc 10 r true (lBb r (lSp c r)))):=by and_intros<;>kernel_rfl
theorem Z3S (c:UInt8) (r:List UInt8) (m:Int) (V:Nat) (E:Int):Z7 (Zm (Zr prog Zf z6 Zb3) 300 10 [bR (c::r),.int .i64 m] [cmp false,cmp true,cmp false,cmp true,cmp false,cmp true,sam true,sam false,sam false,cmp false,cmp true,cmp false,num V,num E,num V]) (.tuple #[.int .u64 (sS false (rnP m false V E)),.int .i64 (rnF m false V E),.int .i64 0]) (lDn false 10 r V E (lSc 10 r true (lBb r (lSp c r)))):=by and_intros<;>kernel_rfl
theorem Z8z (c:UInt8) (r:List UInt8) (m:Int):Z7 (Zm (Zr prog Zf z6 Zb3) 300 10 [bR (c::r),.int .i64 m] [cmp false,cmp true,cmp false,cmp true,cmp false,cmp false,sam true]) (.tuple #[.int .u64 9221120237041090560,.int .i64 0,.int .i64 0]) (lIs (c::r) [110,97,110] true::Zkx c r):=by and_intros<;>kernel_rfl
theorem Z80 (c:UInt8) (r:List UInt8) (m:Int):Z7 (Zm (Zr prog Zf z6 Zb3) 300 10 [bR (c::r),.int .i64 m] [cmp false,cmp true,cmp false,cmp true,cmp false,cmp false,sam false,sam true]) (.tuple #[.int .u64 9218868437227405312,.int .i64 0,.int .i64 0]) (lIs (c::r) [105,110,102] true::lIs (c::r) [110,97,110] false::Zkx c r):=by and_intros<;>kernel_rfl
theorem Z3T (c:UInt8) (r:List UInt8) (m:Int):Z7 (Zm (Zr prog Zf z6 Zb3) 300 10 [bR (c::r),.int .i64 m] [cmp false,cmp true,cmp false,cmp true,cmp false,cmp false,sam false,sam false,cmp true,sam true,sam true,sam true,cmp false]) (.tuple #[.int .u64 0,.int .i64 0,.int .i64 3]) (lSc 16 ((c::r).drop 2) false (Zsu (c::r) (Zkx c r))):=by and_intros<;>kernel_rfl
theorem Z3U (c:UInt8) (r:List UInt8) (m:Int):Z7 (Zm (Zr prog Zf z6 Zb3) 300 10 [bR (c::r),.int .i64 m] [cmp false,cmp true,cmp false,cmp true,cmp false,cmp false,sam false,sam false,cmp true,sam true,sam true,sam true,cmp true,cmp true]) (.tuple #[.int .u64 0,.int .i64 0,.int .i64 0]) (lDz 16 ((c::r).drop 2) (lSc 16 ((c::r).drop 2) true (Zsu (c::r) (Zkx c r)))):=by and_intros<;>kernel_rfl
theorem Z3V (c:UInt8) (r:List UInt8) (m:Int) (V:Nat) (E:Int):Z7 (Zm (Zr prog Zf z6 Zb3) 300 10 [bR (c::r),.int .i64 m] [cmp false,cmp true,cmp false,cmp true,cmp false,cmp false,sam false,sam false,cmp true,sam true,sam true,sam true,cmp true,cmp false,num V,num E,num V]) (.tuple #[.int .u64 (sS false (rnP m false V E)),.int .i64 (rnF m false V E),.int .i64 0]) (lDn false 16 ((c::r).drop 2) V E (lSc 16 ((c::r).drop 2) true (Zsu (c::r) (Zkx c r)))):=by and_intros<;>kernel_rfl
theorem Z3W (c:UInt8) (r:List UInt8) (m:Int):Z7 (Zm (Zr prog Zf z6 Zb3) 300 10 [bR (c::r),.int .i64 m] [cmp false,cmp true,cmp false,cmp true,cmp false,cmp false,sam false,sam false,cmp true,sam true,sam false,cmp false]) (.tuple #[.int .u64 0,.int .i64 0,.int .i64 3]) (lSc 10 (c::r) false (lBa (c::r) (Zkx c r))):=by and_intros<;>kernel_rfl
theorem Z3X (c:UInt8) (r:List UInt8) (m:Int):Z7 (Zm (Zr prog Zf z6 Zb3) 300 10 [bR (c::r),.int .i64 m] [cmp false,cmp true,cmp false,cmp true,cmp false,cmp false,sam false,sam false,cmp true,sam true,sam false,cmp true,cmp true]) (.tuple #[.int .u64 0,.int .i64 0,.int .i64 0]) (lDz 10 (c::r) (lSc 10 (c::r) true (lBa (c::r) (Zkx c r)))):=by and_intros<;>kernel_rfl
theorem Z3Y (c:UInt8) (r:List UInt8) (m:Int) (V:Nat) (E:Int):Z7 (Zm (Zr prog Zf z6 Zb3) 300 10 [bR (c::r),.int .i64 m] [cmp false,cmp true,cmp false,cmp true,cmp false,cmp false,sam false,sam false,cmp true,sam true,sam false,cmp true,cmp false,num V,num E,num V]) (.tuple #[.int .u64 (sS false (rnP m false V E)),.int .i64 (rnF m false V E),.int .i64 0]) (lDn false 10 (c::r) V E (lSc 10 (c::r) true (lBa (c::r) (Zkx c r)))):=by and_intros<;>kernel_rfl
theorem Z3Z (c:UInt8) (r:List UInt8) (m:Int):Z7 (Zm (Zr prog Zf z6 Zb3) 300 10 [bR (c::r),.int .i64 m] [cmp false,cmp true,cmp false,cmp true,cmp false,cmp false,sam false,sam false,cmp false,cmp false]) (.tuple #[.int .u64 0,.int .i64 0,.int .i64 3]) (lSc 10 (c::r) false (lBb (c::r) (Zkx c r))):=by and_intros<;>kernel_rfl
theorem Z4a (c:UInt8) (r:List UInt8) (m:Int):Z7 (Zm (Zr prog Zf z6 Zb3) 300 10 [bR (c::r),.int .i64 m] [cmp false,cmp true,cmp false,cmp true,cmp false,cmp false,sam false,sam false,cmp false,cmp true,cmp true]) (.tuple #[.int .u64 0,.int .i64 0,.int .i64 0]) (lDz 10 (c::r) (lSc 10 (c::r) true (lBb (c::r) (Zkx c r)))):=by and_intros<;>kernel_rfl
theorem Z4b (c:UInt8) (r:List UInt8) (m:Int) (V:Nat) (E:Int):Z7 (Zm (Zr prog Zf z6 Zb3) 300 10 [bR (c::r),.int .i64 m] [cmp false,cmp true,cmp false,cmp true,cmp false,cmp false,sam false,sam false,cmp false,cmp true,cmp false,num V,num E,num V]) (.tuple #[.int .u64 (sS false (rnP m false V E)),.int .i64 (rnF m false V E),.int .i64 0]) (lDn false 10 (c::r) V E (lSc 10 (c::r) true (lBb (c::r) (Zkx c r)))):=by and_intros<;>kernel_rfl
theorem Za0 {u w:List UInt8}{d:Bool}(h:decide (u=w)=d):(lIs u w d).1=(lIs u w d).2:=by
 show ((⟨⟨u⟩⟩:ByteArray)==⟨⟨w⟩⟩)=d;rw[ZcI];exact h
theorem Z4c (c:UInt8) (r:List UInt8):(lX0 (c::r)).1=true:=by
 show decide ((0:Int)≤0∧0<(c::r).length)=true;exact dT ⟨by omega,by rw[List.length_cons];omega⟩
theorem Z4d (c:UInt8) (r:List UInt8):(lN1 (c::r) 0 true).1=true:=dT (by rw[List.length_cons];omega)
theorem Zjn {u:List UInt8}{l:Log}(h1:¬ u=[110,97,110]) (h2:¬ u=[105,110,102]) (hl:Z3 l):Z3 (lBn u l):=Za (Za0 (dF h2)) (Za (Za0 (dF h1)) hl)
theorem Zaj {b:Int}{v:List UInt8}{d:Bool}{l:Log}(h:(scA b v).2=d) (hb:b=10∨b=16) (hv:v.length≤10000) (hl:Z3 l):Z3 (lSc b v d l):=Za h (Za (dT ⟨hb,by omega⟩) hl)
theorem Zo5 {b:Int}{v:List UInt8}(hb:b=10∨b=16) (hv:v.length≤10000):ZyJ b (dgs b v) (bhd b v) (scA b v).1=true∧(0≤bhd b v∧bhd b v≤10000)∧(-2000000≤(scA b v).1∧(scA b v).1≤2000000)∧(dgs b v).length≤10000:=by
 obtain⟨h1,h2,h3⟩:=Zfd b false v;have h4: -2000000≤(scA b v).1∧(scA b v).1≤2000000:=by
  unfold scA;split
  ·exact⟨show (-2000000:Int)≤0 by decide,show (0:Int)≤2000000 by decide⟩
  ·exact Z15 b _
 unfold ZyJ dgs bhd;refine⟨?_,by omega,h4,by omega⟩;rw[h3,dT ⟨hb,by omega,by omega,h4.1,h4.2⟩];rfl
theorem ZcO {b:Int}{v:List UInt8}{l:Log}(h:trZ (sc1 b false v).1=[]) (hb:b=10∨b=16) (hv:v.length≤10000) (hl:Z3 l):Z3 (lDz b v l):=Za (dT h) (Za (Zo5 hb hv).1 hl)
theorem ZcP {n:Bool}{b:Int}{v:List UInt8}{l:Log}(h:¬ trZ (sc1 b false v).1=[]) (hb:b=10∨b=16) (hv:v.length≤10000) (hl:Z3 l):Z3 (lDn n b v (dnA b (trZ (dgs b v)) (bhd b v) (scA b v).1).1 (dnA b (trZ (dgs b v)) (bhd b v) (scA b v).1).2 l):=by
 obtain⟨h1,h2,h3,h4⟩:=Zo5 hb hv;have ht:=Zdj (dgs b v);obtain⟨b1,b2,b3⟩:=Z16 b hb (trZ (dgs b v)) (by omega) (bhd b v) (scA b v).1 h2 h3;obtain⟨V,hV⟩:∃ V,V=(dnA b (trZ (dgs b v)) (bhd b v) (scA b v).1).1:=⟨_,rfl⟩;obtain⟨E,hE⟩:∃ E,E=(dnA b (trZ (dgs b v)) (bhd b v) (scA b v).1).2:=⟨_,rfl⟩;rw[← hV] at b1;rw[← hE] at b2 b3;rw[← hV,← hE];have lV:=Zem b1;refine Za (dT (Ze9 (V:=V) rfl)) (Za ?_ (Za (dT (by rw[hV,hE])) (Za (dF h) (Za h1 hl))));unfold Zo2 Zaa;rw[ZN (A:=V) rfl (by omega),ZaF (A:=V) rfl,show Zf5 (d16 V)=true from Zdg (ZdY (by omega) _),Zo.2 (by omega),dT ⟨b2,b3⟩];rfl
def pzT (x:Int×Int×Int):Value:= .tuple #[.int .u64 x.1,.int .i64 x.2.1,.int .i64 x.2.2]
theorem ZAq (c:UInt8) (r:List UInt8) (m:Int) (hl:(c::r).length≤10000) (hs:sgT (c::r)=(true,r)) (lS:Z3 (lSm c r)) (w:World):Calls prog 10 #[bR (c::r),.int .i64 m] w fun e w'=>e= .returned (pzT (rdP m (c::r)))∧Zal w w':=by
 have T0:=Zh ZdG ZfX;have hlu:r.length≤10000:=by rw[List.length_cons] at hl;omega
 have eP:rdP m (c::r)=if r=[110,97,110] then (9221120237041090560,0,0) else if r=[105,110,102] then (if true=true then 18442240474082181120 else 9218868437227405312,0,0) else rdQ m true (rdB r).1 (rdB r).2:=by
  unfold rdP;rw[if_neg (by omega),hs]
 rw[eP];by_cases h1:r=[110,97,110]
 ·rw[if_pos h1];exact Zc T0 (Z8v c r m) (Za (Za0 (dT h1)) lS) (by rfl) (by rfl) w
 rw[if_neg h1];by_cases h2:r=[105,110,102]
 ·rw[if_pos h2];exact Zc T0 (Z8w c r m) (Za (Za0 (dT h2)) (Za (Za0 (dF h1)) lS)) (by rfl) (by rfl) w
 rw[if_neg h2];have lB:=Zjn h1 h2 lS;by_cases hq:1<r.length
 ·have lq:=Za (show decide (((r.length:Nat):Int)>1)=true from dT (by omega)) lB;have lp:(lPt r 2).1=true:=dT ⟨by omega,by omega⟩;have lq:=Za lp lq;by_cases h16:r.take 2=[48,120]
  ·have eB:rdB r=(16,r.drop 2):=by unfold rdB;rw[if_pos ⟨hq,h16⟩]
   rw[eB];dsimp only;have hv:(r.drop 2).length≤10000:=by rw[List.length_drop];omega
   have lX:=Za lp (Za (Za0 (dT h16)) lq);cases hk:(scA 16 (r.drop 2)).2 with
   | false=>
    have e:rdQ m true 16 (r.drop 2)=(0,0,3):=by unfold rdQ;rw[if_pos hk]
    rw[e];exact Zc T0 (Z3B c r m) (Zaj hk (.inr rfl) hv lX) (by rfl) (by rfl) w
   | true=>
    have lY:=Zaj hk (.inr rfl) hv lX;by_cases hz:trZ (sc1 16 false (r.drop 2)).1=[]
    ·have e:rdQ m true 16 (r.drop 2)=(9223372036854775808,0,0):=by unfold rdQ;rw[if_neg (by rw[hk];decide),if_pos hz];rfl
     rw[e];exact Zc T0 (Z3C c r m) (ZcO hz (.inr rfl) hv lY) (by rfl) (by rfl) w
    ·have e:rdQ m true 16 (r.drop 2)=(sS true (rnP m true (dnA 16 (trZ (dgs 16 (r.drop 2))) (bhd 16 (r.drop 2)) (scA 16 (r.drop 2)).1).1 (dnA 16 (trZ (dgs 16 (r.drop 2))) (bhd 16 (r.drop 2)) (scA 16 (r.drop 2)).1).2),rnF m true (dnA 16 (trZ (dgs 16 (r.drop 2))) (bhd 16 (r.drop 2)) (scA 16 (r.drop 2)).1).1 (dnA 16 (trZ (dgs 16 (r.drop 2))) (bhd 16 (r.drop 2)) (scA 16 (r.drop 2)).1).2,0):=by unfold rdQ;rw[if_neg (by rw[hk];decide),if_neg hz];rfl
     rw[e];exact Zc T0 (Z3D c r m _ _) (ZcP hz (.inr rfl) hv lY) (by rfl) (by rfl) w
  ·have eB:rdB r=(10,r):=by unfold rdB;rw[if_neg (fun h=>h16 h.2)]
   rw[eB];dsimp only;have hv:=hlu;have lX:=Za (Za0 (dF h16)) lq;cases hk:(scA 10 r).2 with
   | false=>
    have e:rdQ m true 10 r=(0,0,3):=by unfold rdQ;rw[if_pos hk]
    rw[e];exact Zc T0 (Z3E c r m) (Zaj hk (.inl rfl) hv lX) (by rfl) (by rfl) w
   | true=>
    have lY:=Zaj hk (.inl rfl) hv lX;by_cases hz:trZ (sc1 10 false r).1=[]
    ·have e:rdQ m true 10 r=(9223372036854775808,0,0):=by unfold rdQ;rw[if_neg (by rw[hk];decide),if_pos hz];rfl
     rw[e];exact Zc T0 (Z3F c r m) (ZcO hz (.inl rfl) hv lY) (by rfl) (by rfl) w
    ·have e:rdQ m true 10 r=(sS true (rnP m true (dnA 10 (trZ (dgs 10 r)) (bhd 10 r) (scA 10 r).1).1 (dnA 10 (trZ (dgs 10 r)) (bhd 10 r) (scA 10 r).1).2),rnF m true (dnA 10 (trZ (dgs 10 r)) (bhd 10 r) (scA 10 r).1).1 (dnA 10 (trZ (dgs 10 r)) (bhd 10 r) (scA 10 r).1).2,0):=by unfold rdQ;rw[if_neg (by rw[hk];decide),if_neg hz];rfl
     rw[e];exact Zc T0 (Z3G c r m _ _) (ZcP hz (.inl rfl) hv lY) (by rfl) (by rfl) w
 ·have eB:rdB r=(10,r):=by unfold rdB;rw[if_neg (fun h=>hq h.1)]
  rw[eB];dsimp only;have hv:=hlu;have lX:=Za (show decide (((r.length:Nat):Int)>1)=false from dF (by omega)) lB;cases hk:(scA 10 r).2 with
  | false=>
   have e:rdQ m true 10 r=(0,0,3):=by unfold rdQ;rw[if_pos hk]
   rw[e];exact Zc T0 (Z3H c r m) (Zaj hk (.inl rfl) hv lX) (by rfl) (by rfl) w
  | true=>
   have lY:=Zaj hk (.inl rfl) hv lX;by_cases hz:trZ (sc1 10 false r).1=[]
   ·have e:rdQ m true 10 r=(9223372036854775808,0,0):=by unfold rdQ;rw[if_neg (by rw[hk];decide),if_pos hz];rfl
    rw[e];exact Zc T0 (Z3I c r m) (ZcO hz (.inl rfl) hv lY) (by rfl) (by rfl) w
   ·have e:rdQ m true 10 r=(sS true (rnP m true (dnA 10 (trZ (dgs 10 r)) (bhd 10 r) (scA 10 r).1).1 (dnA 10 (trZ (dgs 10 r)) (bhd 10 r) (scA 10 r).1).2),rnF m true (dnA 10 (trZ (dgs 10 r)) (bhd 10 r) (scA 10 r).1).1 (dnA 10 (trZ (dgs 10 r)) (bhd 10 r) (scA 10 r).1).2,0):=by unfold rdQ;rw[if_neg (by rw[hk];decide),if_neg hz];rfl
    rw[e];exact Zc T0 (Z3J c r m _ _) (ZcP hz (.inl rfl) hv lY) (by rfl) (by rfl) w
theorem ZAr (c:UInt8) (r:List UInt8) (m:Int) (hl:(c::r).length≤10000) (hs:sgT (c::r)=(false,r)) (lS:Z3 (lSp c r)) (w:World):Calls prog 10 #[bR (c::r),.int .i64 m] w fun e w'=>e= .returned (pzT (rdP m (c::r)))∧Zal w w':=by
 have T0:=Zh ZdG ZfX;have hlu:r.length≤10000:=by rw[List.length_cons] at hl;omega
 have eP:rdP m (c::r)=if r=[110,97,110] then (9221120237041090560,0,0) else if r=[105,110,102] then (if false=true then 18442240474082181120 else 9218868437227405312,0,0) else rdQ m false (rdB r).1 (rdB r).2:=by
  unfold rdP;rw[if_neg (by omega),hs]
 rw[eP];by_cases h1:r=[110,97,110]
 ·rw[if_pos h1];exact Zc T0 (Z8x c r m) (Za (Za0 (dT h1)) lS) (by rfl) (by rfl) w
 rw[if_neg h1];by_cases h2:r=[105,110,102]
 ·rw[if_pos h2];exact Zc T0 (Z8y c r m) (Za (Za0 (dT h2)) (Za (Za0 (dF h1)) lS)) (by rfl) (by rfl) w
 rw[if_neg h2];have lB:=Zjn h1 h2 lS;by_cases hq:1<r.length
 ·have lq:=Za (show decide (((r.length:Nat):Int)>1)=true from dT (by omega)) lB;have lp:(lPt r 2).1=true:=dT ⟨by omega,by omega⟩;have lq:=Za lp lq;by_cases h16:r.take 2=[48,120]
  ·have eB:rdB r=(16,r.drop 2):=by unfold rdB;rw[if_pos ⟨hq,h16⟩]
   rw[eB];dsimp only;have hv:(r.drop 2).length≤10000:=by rw[List.length_drop];omega
   have lX:=Za lp (Za (Za0 (dT h16)) lq);cases hk:(scA 16 (r.drop 2)).2 with
   | false=>
    have e:rdQ m false 16 (r.drop 2)=(0,0,3):=by unfold rdQ;rw[if_pos hk]
    rw[e];exact Zc T0 (Z3K c r m) (Zaj hk (.inr rfl) hv lX) (by rfl) (by rfl) w
   | true=>
    have lY:=Zaj hk (.inr rfl) hv lX;by_cases hz:trZ (sc1 16 false (r.drop 2)).1=[]
    ·have e:rdQ m false 16 (r.drop 2)=(0,0,0):=by unfold rdQ;rw[if_neg (by rw[hk];decide),if_pos hz];rfl
     rw[e];exact Zc T0 (Z3L c r m) (ZcO hz (.inr rfl) hv lY) (by rfl) (by rfl) w
    ·have e:rdQ m false 16 (r.drop 2)=(sS false (rnP m false (dnA 16 (trZ (dgs 16 (r.drop 2))) (bhd 16 (r.drop 2)) (scA 16 (r.drop 2)).1).1 (dnA 16 (trZ (dgs 16 (r.drop 2))) (bhd 16 (r.drop 2)) (scA 16 (r.drop 2)).1).2),rnF m false (dnA 16 (trZ (dgs 16 (r.drop 2))) (bhd 16 (r.drop 2)) (scA 16 (r.drop 2)).1).1 (dnA 16 (trZ (dgs 16 (r.drop 2))) (bhd 16 (r.drop 2)) (scA 16 (r.drop 2)).1).2,0):=by unfold rdQ;rw[if_neg (by rw[hk];decide),if_neg hz];rfl
     rw[e];exact Zc T0 (Z3M c r m _ _) (ZcP hz (.inr rfl) hv lY) (by rfl) (by rfl) w
  ·have eB:rdB r=(10,r):=by unfold rdB;rw[if_neg (fun h=>h16 h.2)]
   rw[eB];dsimp only;have hv:=hlu;have lX:=Za (Za0 (dF h16)) lq;cases hk:(scA 10 r).2 with
   | false=>
    have e:rdQ m false 10 r=(0,0,3):=by unfold rdQ;rw[if_pos hk]
    rw[e];exact Zc T0 (Z3N c r m) (Zaj hk (.inl rfl) hv lX) (by rfl) (by rfl) w
   | true=>
    have lY:=Zaj hk (.inl rfl) hv lX;by_cases hz:trZ (sc1 10 false r).1=[]
    ·have e:rdQ m false 10 r=(0,0,0):=by unfold rdQ;rw[if_neg (by rw[hk];decide),if_pos hz];rfl
     rw[e];exact Zc T0 (Z3O c r m) (ZcO hz (.inl rfl) hv lY) (by rfl) (by rfl) w
    ·have e:rdQ m false 10 r=(sS false (rnP m false (dnA 10 (trZ (dgs 10 r)) (bhd 10 r) (scA 10 r).1).1 (dnA 10 (trZ (dgs 10 r)) (bhd 10 r) (scA 10 r).1).2),rnF m false (dnA 10 (trZ (dgs 10 r)) (bhd 10 r) (scA 10 r).1).1 (dnA 10 (trZ (dgs 10 r)) (bhd 10 r) (scA 10 r).1).2,0):=by unfold rdQ;rw[if_neg (by rw[hk];decide),if_neg hz];rfl
     rw[e];exact Zc T0 (Z3P c r m _ _) (ZcP hz (.inl rfl) hv lY) (by rfl) (by rfl) w
 ·have eB:rdB r=(10,r):=by unfold rdB;rw[if_neg (fun h=>hq h.1)]
  rw[eB];dsimp only;have hv:=hlu;have lX:=Za (show decide (((r.length:Nat):Int)>1)=false from dF (by omega)) lB;cases hk:(scA 10 r).2 with
  | false=>
   have e:rdQ m false 10 r=(0,0,3):=by unfold rdQ;rw[if_pos hk]
   rw[e];exact Zc T0 (Z3Q c r m) (Zaj hk (.inl rfl) hv lX) (by rfl) (by rfl) w
  | true=>
   have lY:=Zaj hk (.inl rfl) hv lX;by_cases hz:trZ (sc1 10 false r).1=[]
   ·have e:rdQ m false 10 r=(0,0,0):=by unfold rdQ;rw[if_neg (by rw[hk];decide),if_pos hz];rfl
    rw[e];exact Zc T0 (Z3R c r m) (ZcO hz (.inl rfl) hv lY) (by rfl) (by rfl) w
   ·have e:rdQ m false 10 r=(sS false (rnP m false (dnA 10 (trZ (dgs 10 r)) (bhd 10 r) (scA 10 r).1).1 (dnA 10 (trZ (dgs 10 r)) (bhd 10 r) (scA 10 r).1).2),rnF m false (dnA 10 (trZ (dgs 10 r)) (bhd 10 r) (scA 10 r).1).1 (dnA 10 (trZ (dgs 10 r)) (bhd 10 r) (scA 10 r).1).2,0):=by unfold rdQ;rw[if_neg (by rw[hk];decide),if_neg hz];rfl
    rw[e];exact Zc T0 (Z3S c r m _ _) (ZcP hz (.inl rfl) hv lY) (by rfl) (by rfl) w
theorem ZAs (c:UInt8) (r:List UInt8) (m:Int) (hl:(c::r).length≤10000) (hs:sgT (c::r)=(false,(c::r))) (lS:Z3 (Zkx c r)) (w:World):Calls prog 10 #[bR (c::r),.int .i64 m] w fun e w'=>e= .returned (pzT (rdP m (c::r)))∧Zal w w':=by
 have T0:=Zh ZdG ZfX;have hlu:(c::r).length≤10000:=by exact hl
 have eP:rdP m (c::r)=if (c::r)=[110,97,110] then (9221120237041090560,0,0) else if (c::r)=[105,110,102] then (if false=true then 18442240474082181120 else 9218868437227405312,0,0) else rdQ m false (rdB (c::r)).1 (rdB (c::r)).2:=by
  unfold rdP;rw[if_neg (by omega),hs]
 rw[eP];by_cases h1:(c::r)=[110,97,110]
 ·rw[if_pos h1];exact Zc T0 (Z8z c r m) (Za (Za0 (dT h1)) lS) (by rfl) (by rfl) w
 rw[if_neg h1];by_cases h2:(c::r)=[105,110,102]
 ·rw[if_pos h2];exact Zc T0 (Z80 c r m) (Za (Za0 (dT h2)) (Za (Za0 (dF h1)) lS)) (by rfl) (by rfl) w
 rw[if_neg h2];have lB:=Zjn h1 h2 lS;by_cases hq:1<(c::r).length
 ·have lq:=Za (show decide ((((c::r).length:Nat):Int)>1)=true from dT (by omega)) lB;have lp:(lPt (c::r) 2).1=true:=dT ⟨by omega,by omega⟩;have lq:=Za lp lq;by_cases h16:(c::r).take 2=[48,120]
  ·have eB:rdB (c::r)=(16,(c::r).drop 2):=by unfold rdB;rw[if_pos ⟨hq,h16⟩]
   rw[eB];dsimp only;have hv:((c::r).drop 2).length≤10000:=by rw[List.length_drop];omega
   have lX:=Za lp (Za (Za0 (dT h16)) lq);cases hk:(scA 16 ((c::r).drop 2)).2 with
   | false=>
    have e:rdQ m false 16 ((c::r).drop 2)=(0,0,3):=by unfold rdQ;rw[if_pos hk]
    rw[e];exact Zc T0 (Z3T c r m) (Zaj hk (.inr rfl) hv lX) (by rfl) (by rfl) w
   | true=>
    have lY:=Zaj hk (.inr rfl) hv lX;by_cases hz:trZ (sc1 16 false ((c::r).drop 2)).1=[]
    ·have e:rdQ m false 16 ((c::r).drop 2)=(0,0,0):=by unfold rdQ;rw[if_neg (by rw[hk];decide),if_pos hz];rfl
     rw[e];exact Zc T0 (Z3U c r m) (ZcO hz (.inr rfl) hv lY) (by rfl) (by rfl) w
    ·have e:rdQ m false 16 ((c::r).drop 2)=(sS false (rnP m false (dnA 16 (trZ (dgs 16 ((c::r).drop 2))) (bhd 16 ((c::r).drop 2)) (scA 16 ((c::r).drop 2)).1).1 (dnA 16 (trZ (dgs 16 ((c::r).drop 2))) (bhd 16 ((c::r).drop 2)) (scA 16 ((c::r).drop 2)).1).2),rnF m false (dnA 16 (trZ (dgs 16 ((c::r).drop 2))) (bhd 16 ((c::r).drop 2)) (scA 16 ((c::r).drop 2)).1).1 (dnA 16 (trZ (dgs 16 ((c::r).drop 2))) (bhd 16 ((c::r).drop 2)) (scA 16 ((c::r).drop 2)).1).2,0):=by unfold rdQ;rw[if_neg (by rw[hk];decide),if_neg hz];rfl
     rw[e];exact Zc T0 (Z3V c r m _ _) (ZcP hz (.inr rfl) hv lY) (by rfl) (by rfl) w
  ·have eB:rdB (c::r)=(10,(c::r)):=by unfold rdB;rw[if_neg (fun h=>h16 h.2)]
   rw[eB];dsimp only;have hv:=hlu;have lX:=Za (Za0 (dF h16)) lq;cases hk:(scA 10 (c::r)).2 with
   | false=>
    have e:rdQ m false 10 (c::r)=(0,0,3):=by unfold rdQ;rw[if_pos hk]
    rw[e];exact Zc T0 (Z3W c r m) (Zaj hk (.inl rfl) hv lX) (by rfl) (by rfl) w
   | true=>
    have lY:=Zaj hk (.inl rfl) hv lX;by_cases hz:trZ (sc1 10 false (c::r)).1=[]
    ·have e:rdQ m false 10 (c::r)=(0,0,0):=by unfold rdQ;rw[if_neg (by rw[hk];decide),if_pos hz];rfl
     rw[e];exact Zc T0 (Z3X c r m) (ZcO hz (.inl rfl) hv lY) (by rfl) (by rfl) w
    ·have e:rdQ m false 10 (c::r)=(sS false (rnP m false (dnA 10 (trZ (dgs 10 (c::r))) (bhd 10 (c::r)) (scA 10 (c::r)).1).1 (dnA 10 (trZ (dgs 10 (c::r))) (bhd 10 (c::r)) (scA 10 (c::r)).1).2),rnF m false (dnA 10 (trZ (dgs 10 (c::r))) (bhd 10 (c::r)) (scA 10 (c::r)).1).1 (dnA 10 (trZ (dgs 10 (c::r))) (bhd 10 (c::r)) (scA 10 (c::r)).1).2,0):=by unfold rdQ;rw[if_neg (by rw[hk];decide),if_neg hz];rfl
     rw[e];exact Zc T0 (Z3Y c r m _ _) (ZcP hz (.inl rfl) hv lY) (by rfl) (by rfl) w
 ·have eB:rdB (c::r)=(10,(c::r)):=by unfold rdB;rw[if_neg (fun h=>hq h.1)]
  rw[eB];dsimp only;have hv:=hlu;have lX:=Za (show decide ((((c::r).length:Nat):Int)>1)=false from dF (by omega)) lB;cases hk:(scA 10 (c::r)).2 with
  | false=>
   have e:rdQ m false 10 (c::r)=(0,0,3):=by unfold rdQ;rw[if_pos hk]
   rw[e];exact Zc T0 (Z3Z c r m) (Zaj hk (.inl rfl) hv lX) (by rfl) (by rfl) w
  | true=>
   have lY:=Zaj hk (.inl rfl) hv lX;by_cases hz:trZ (sc1 10 false (c::r)).1=[]
   ·have e:rdQ m false 10 (c::r)=(0,0,0):=by unfold rdQ;rw[if_neg (by rw[hk];decide),if_pos hz];rfl
    rw[e];exact Zc T0 (Z4a c r m) (ZcO hz (.inl rfl) hv lY) (by rfl) (by rfl) w
   ·have e:rdQ m false 10 (c::r)=(sS false (rnP m false (dnA 10 (trZ (dgs 10 (c::r))) (bhd 10 (c::r)) (scA 10 (c::r)).1).1 (dnA 10 (trZ (dgs 10 (c::r))) (bhd 10 (c::r)) (scA 10 (c::r)).1).2),rnF m false (dnA 10 (trZ (dgs 10 (c::r))) (bhd 10 (c::r)) (scA 10 (c::r)).1).1 (dnA 10 (trZ (dgs 10 (c::r))) (bhd 10 (c::r)) (scA 10 (c::r)).1).2,0):=by unfold rdQ;rw[if_neg (by rw[hk];decide),if_neg hz];rfl
    rw[e];exact Zc T0 (Z4b c r m _ _) (ZcP hz (.inl rfl) hv lY) (by rfl) (by rfl) w
theorem Zsv (l:List UInt8) (m:Int) (h:l.length≤10000∨65536<l.length) (w:World):Calls prog 10 #[bR l,.int .i64 m] w fun e w'=>e= .returned (pzT (rdP m l))∧Zal w w':=by
 have T0:=Zh ZdG ZfX;by_cases hl:65536<l.length
 ·have e:rdP m l=(0,0,2):=by unfold rdP;rw[if_pos hl]
  rw[e];exact Zc T0 (ZAo l m) (Z4 (dT (by omega))) (by rfl) (by rfl) w
 have hl:l.length≤10000:=by omega
 cases l with
 | nil=>
  have e:rdP m []=(0,0,3):=by
   unfold rdP;rw[if_neg (by decide),if_neg (by decide),if_neg (by decide)];rfl
  rw[e];exact Zc T0 (ZAp m) (Zaj rfl (.inl rfl) (by decide) (Za rfl (Zjn (by decide) (by decide) (Za rfl (Za rfl (Z4 rfl)))))) (by rfl) (by rfl) w
 | cons c r=>
  have x0:=Z4c c r;have n0:=Z4d c r;have n6:(lN1 (c::r) 65536 false).1=false:=dF (by omega);have p1:(lPt (c::r) 1).1=true:=dT ⟨by omega,by rw[List.length_cons];omega⟩;by_cases h45:lq8 c=45
  ·have c1:(lCh c 45 true).1=true:=zv h45;exact ZAq c r m hl (by unfold sgT;dsimp only;rw[if_pos h45]) (Za p1 (Za c1 (Za x0 (Za n0 (Za c1 (Za x0 (Za n0 (Z4 n6)))))))) w
  have c1:(lCh c 45 false).1=false:=zw h45;by_cases h43:lq8 c=43
  ·have c2:(lCh c 43 true).1=true:=zv h43;exact ZAr c r m hl (by unfold sgT;dsimp only;rw[if_neg h45,if_pos h43]) (Za p1 (Za c2 (Za x0 (Za c1 (Za x0 (Za n0 (Za c1 (Za x0 (Za n0 (Z4 n6)))))))))) w
  ·have c2:(lCh c 43 false).1=false:=zw h43;exact ZAs c r m hl (by unfold sgT;dsimp only;rw[if_neg h45,if_neg h43]) (Za c2 (Za x0 (Za c1 (Za x0 (Za n0 (Za c1 (Za x0 (Za n0 (Z4 n6))))))))) w
def gRP:Ans:=fun vals s=>
 match vals with
 | [.string ⟨⟨l⟩⟩,.int .i64 m]=>some (pzT (rdP m l),s,[(decide (l.length≤10000∨65536<l.length),true)])
 | _=>none
theorem Z4e:ZR 10 gRP:=by
 intro vals s v s' lg h hl w;unfold gRP at h;split at h
 ·cases h;exact Zsv _ _ (oT (hl _ mS)) w
 ·cases h
end Go.Proofs.YtjlponbdflkbjaaGreatDoor
namespace Go.Proofs.YtjlponbdflkbjaaGreatDoor
open Go.Proofs.Tryz
open Go.KRun Go.Rd Go.Rn
set_option maxRecDepth 100000
def ZgQ:Con:=alt 10 gRP Z2A
theorem Zjo:ConOk ZgQ:=Z9 func10 rfl Z4e ZrO
end Go.Proofs.YtjlponbdflkbjaaGreatDoor
namespace Go.Proofs.YtjlponbdflkbjaaGreatDoor
open Go.Proofs.Tryz
open Go.IntKind
open Go.KRun Go.Nt Go.Rd Go.Rn
set_option maxRecDepth 100000
def rnG (n a b m k d:Int) (s:List UInt8):List Value:=[.int .u64 n,ofV a b,.int .i64 m,uZ,pO 0,uZ,.bool false,.int .i64 k,.int .u64 d,bR s]
def ZyL (n a b m k d:Int) (s:List UInt8) (i:Int):List Value:=[.int .u64 n,ofV a b,.int .i64 m,uZ,pO 0,uZ,.bool false,.int .i64 k,.int .u64 d,bR s,.int .i64 i]
def rnI (F:Func):Code:=Z2 (sP F 3)
def rnL (F:Func):Code:=cIn (cIn (Zz (sP F 3)))
theorem Zo6:f4.body=some (ZW [sP f4 0,sP f4 1,sP f4 2] (.seq (.seq (rnI f4) (.block 0 (.loop (rnL f4)))) (sK f4 4))):=by kernel_rfl
theorem Z4f (n a b m:Int):Zg (evL (Zk prog Zf ZgQ true) 100 [sP f4 0,sP f4 1,sP f4 2] ([.int .u64 n,ofV a b,.int .i64 m]++List.replicate 78 uZ,⟨0,[]⟩,[cmp false,cmp false,sam true]) ⟨[],[],[]⟩) 10 71 none (rnG n a b m (i64.wrap ((u64.wrap a).tmod 900)) (u64.wrap b) (dcL (u64.wrap (u64.wrap (9007199254740992+u64.wrap (2*n.tmod 2251799813685248))+1)).toNat++[46])) (rnM a b) [(decide ((dcL (u64.wrap (u64.wrap (9007199254740992+u64.wrap (2*n.tmod 2251799813685248))+1)).toNat).length+1≤9223372036854775807),true),(decide (0≤(u64.wrap (u64.wrap (9007199254740992+u64.wrap (2*n.tmod 2251799813685248))+1))∧(u64.wrap (u64.wrap (9007199254740992+u64.wrap (2*n.tmod 2251799813685248))+1))<18446744073709551616),true),(decide ((2251799813685248:Int)=0),false),(decide ((900:Int)=0),false)]:=by and_intros<;>kernel_rfl
theorem ZAt (n a b m k d:Int) (s:List UInt8) (g:Nat→Value):Zg (evC (Zk prog Zf ZgQ true) 100 false (rnI f4) (rnG n a b m k d s++tl 71 g,rnM a b,[]) ⟨[],[],[]⟩) 11 70 none (ZyL n a b m k d s 0) (rnM a b) []:=by and_intros<;>kernel_rfl
theorem ZAu (n a b m k d:Int) (s:List UInt8) (i:Int) (g:Nat→Value):Zg (evC (Zk prog Zf ZgQ true) 100 false (rnL f4) (ZyL n a b m k d s i++tl 70 g,rnM a b,[cmp false]) ⟨[],[],[]⟩) 11 70 (some (some 0)) (ZyL n a b m k d s i) (rnM a b) [(decide (i<k),false)]:=by and_intros<;>kernel_rfl
theorem ZAv (n a b m k d:Int) (s:List UInt8) (i:Int) (g:Nat→Value):Zg (evC (Zk prog Zf ZgQ true) 100 false (rnL f4) (ZyL n a b m k d s i++tl 70 g,rnM a b,[cmp true,sam true]) ⟨[],[],[]⟩) 11 70 none (ZyL n a b m k d (s++[48]) (i64.wrap (i+1))) (rnM a b) [(decide (s.length+1≤9223372036854775807),true),(decide (i<k),true)]:=by and_intros<;>kernel_rfl
theorem ZAw (n a b m k d:Int) (s:List UInt8) (i:Int) (g:Nat→Value):Zg (evC (Zk prog Zf ZgQ true) 100 false (sK f4 4) (ZyL n a b m k d s i++tl 70 g,rnM a b,[cmp false,cmp false,sam true,sam true,cmp true,cmp true,cmp true,cmp true]) ⟨[],[],[]⟩) 7 74 (some none) [.int .u64 n,ofV a b,.int .i64 m,uZ,pO 0,uZ,.bool true] (rnM a b) [((rdP m (s++dcP d)).2.2==0,true),(i64.wrap (rdP m (s++dcP d)).2.1==(rdP m (s++dcP d)).2.1,true),((rdP m (s++dcP d)).1==(rdP m (s++dcP d)).1,true),(decide ((s++dcP d).length≤10000∨65536<(s++dcP d).length),true),(decide ((rdP m (s++dcP d)).2.2=0),true),(ZrL (s++dcP d),true),(decide (s.length+(dcP d).length≤9223372036854775807),true),(decide (0≤d.tmod 10∧d.tmod 10≤u64.wrap (d.tmod 10+1)∧u64.wrap (d.tmod 10+1)≤((10:Nat):Int)),true),(decide ((10:Int)=0),false),(decide ((10:Int)=0),false)]:=by and_intros<;>kernel_rfl
def nrS (n a b m d:Int) (k:Nat) (s:List UInt8) (i:Nat) (y:Lf):Prop:=i≤k∧∃ g,y.1=ZyL n a b m k d (s++List.replicate i 48) i++tl 70 g∧y.2.1=rnM a b
theorem Zsw {n a b m d:Int}{k:Nat}{s:List UInt8}(hk:k≤100000) (hs:s.length≤100000) (r:Nat) (y:Lf) (h:∃ i,r=k-i∧nrS n a b m d k s i y):
  Runs (Zk prog Zf ZgQ true) (rnL f4) y fun e z=>match e with | none=>∃ r',r'<r∧∃ i,r'=k-i∧nrS n a b m d k s i z | some none=>False | some (some id')=>id'=0∧nrS n a b m d k s k z:=by
 have hT:=Zj Zjo;obtain⟨i,hr,hi,g,ht,hh⟩:=h;obtain⟨t,h',sc⟩:=y;simp only at ht hh;subst ht hh;by_cases hc:i<k
 ·have hg:=ZAv n a b m k d (s++List.replicate i 48) (i:Nat) g;rw[wN (by omega),List.append_assoc,← List.replicate_succ'] at hg;refine (Zb (s0:=sc) hT hg (Za (dT (by rw[List.length_append,List.length_replicate];omega)) (Z4 (dT (by omega))))).mono fun e z he=> ?_;obtain⟨rfl,⟨g',z1⟩,z2⟩:=he;exact⟨k-(i+1),by omega,i+1,rfl,by omega,g',z1,z2⟩
 ·have hik:i=k:=by omega
  subst hik;refine (Zb (s0:=sc) hT (ZAu n a b m i d (s++List.replicate i 48) (i:Nat) g) (Z4 (dF (by omega)))).mono fun e z he=> ?_;obtain⟨rfl,⟨g',z1⟩,z2⟩:=he;exact⟨rfl,hi,g',z1,z2⟩
theorem Zkr (n a b m:Int) (hn:0≤n∧n<18446744073709551616) (w:World):Calls prog 4 #[.int .u64 n,ofV a b,.int .i64 m] w fun e w'=>e= .returned (.bool true)∧Zal w w':=by
 have hT:=Zj Zjo;refine ZJ (T:=(Zk prog Zf ZgQ true)) func4 Zo6 (by rfl) (by rfl) ?_ w;have hm:n.tmod 2251799813685248=n % 2251799813685248:=Int.tmod_eq_emod_of_nonneg hn.1;have hN:(u64.wrap (u64.wrap (9007199254740992+u64.wrap (2*n.tmod 2251799813685248))+1))=9007199254740992+2*(n % 2251799813685248)+1:=by
  rw[hm,ZnZ (n:=2*(n % 2251799813685248)) (by omega) (by omega),ZnZ (n:=9007199254740992+2*(n % 2251799813685248)) (by omega) (by omega),ZnZ (by omega) (by omega)]
 have ha:0≤u64.wrap a:=by simp [IntKind.wrap,IntKind.bits,IntKind.signed];omega
 have hb:0≤u64.wrap b∧u64.wrap b<18446744073709551616:=by simp [IntKind.wrap,IntKind.bits,IntKind.signed];omega
 obtain⟨k,hk,hk2⟩:∃ k:Nat,(i64.wrap ((u64.wrap a).tmod 900))=(k:Int)∧k<900:=by
  have h1:(u64.wrap a).tmod 900=u64.wrap a % 900:=Int.tmod_eq_emod_of_nonneg ha;refine⟨(u64.wrap a % 900).toNat,?_,by omega⟩;rw[h1,Zw (by omega) (by omega)];omega
 obtain⟨d,hd⟩:∃ d,d=u64.wrap b:=⟨_,rfl⟩;rw[← hd] at hb;obtain⟨N,hNN⟩:∃ N:Nat,N=(9007199254740992+2*(n % 2251799813685248)+1).toNat:=⟨_,rfl⟩;have hlen:=ZnY N;have hp:=Z4f n a b m;rw[hN,hk,← hNN,← hd] at hp;refine Zv hT hp (Za (dT (by omega)) (Za (dT ⟨by omega,by omega⟩) (Za (by decide) (Z4 (by decide))))) fun g=> ?_;have hs:(dcL N++[46]).length≤100000:=by rw[List.length_append,List.length_singleton];omega
 refine Runs.seq (P1:=fun e y=>match e with | none=>nrS n a b m d k (dcL N++[46]) k y | some none=>False | some (some _)=>False) ?_ ?_ (fun e y he=>by match e,he with | none,he=>exact he.elim | some _,he=>exact he.elim)
 ·refine Runs.seq (Zb hT (ZAt n a b m k d (dcL N++[46]) g) ZaI) ?_ (fun e y he=>by cases he.1);rintro⟨t,hh,sc⟩ ⟨_,⟨g',e1⟩,e2⟩;exact Runs.forLoop (R:=fun _=>False) (P:=nrS n a b m d k (dcL N++[46]) k) (fun r y=>∃ i,r=k-i∧nrS n a b m d k (dcL N++[46]) i y) (Zsw (by omega) hs) (n:=k) ⟨0,by omega,by omega,g',by rw[e1];simp,e2⟩
 ·rintro⟨t,hh,sc⟩ ⟨_,g',e1,e2⟩;simp only at e1 e2;subst e1 e2;have hg:=ZAw n a b m k d (dcL N++[46]++List.replicate k 48) (k:Nat) g';have h10:d.toNat % 10<10:=Nat.mod_lt _ (by omega);have et:d.tmod 10=((d.toNat % 10:Nat):Int):=by rw[Int.tmod_eq_emod_of_nonneg hb.1];omega
  have ew:u64.wrap (((d.toNat % 10:Nat):Int)+1)=((d.toNat % 10+1:Nat):Int):=by
   simp [IntKind.wrap,IntKind.bits,IntKind.signed];omega
  have eL:dcL N++[46]++List.replicate k 48++[chD (d.toNat % 10)]=dcL N++46::(List.replicate k 48++[chD (d.toNat % 10)]):=by simp
  rw[Z2B hb.1,et,ew,eL] at hg;have hz:=ZxD m N k (d.toNat % 10) (by omega) h10;obtain⟨L,hL⟩:∃ L,L=dcL N++46::(List.replicate k 48++[chD (d.toNat % 10)]):=⟨_,rfl⟩;have hLl:L.length≤10000:=by
   rw[hL];simp only[List.length_append,List.length_cons,List.length_replicate,List.length_nil];omega
  rw[← hL] at hg hz;have hf:=Z2C m L;refine (Zb (s0:=sc) hT hg (Za (zv hz) (Za (zv (Zw (by omega) (by omega))) (Za (zv rfl) (Za (dT (.inl hLl)) (Za (dT hz) (Za (show ZrL L=true from dT (.inl hLl)) (Za (dT (by simp only[List.length_append,List.length_cons,List.length_replicate,List.length_nil];omega)) (Za (dT ⟨by omega,by omega,by omega⟩) (Za (by decide) (Z4 (by decide)))))))))))).mono fun e z he=> ?_;obtain⟨rfl,⟨g2,z1⟩,z2⟩:=he;exact⟨.inr rfl,by rw[z1,z2];rfl⟩
end Go.Proofs.YtjlponbdflkbjaaGreatDoor
