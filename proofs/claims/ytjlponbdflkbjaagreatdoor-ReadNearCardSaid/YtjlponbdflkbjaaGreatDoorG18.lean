/-
  ConVH, ConVU, SlM, ConO1, NumTo, ConO2, ConO3, NumDg
-/
import Derived.Test.YtjlponbdflkbjaaGreatDoorG17
import Derived.Test.YtjlponbdflkbjaaGreatDoorG15
import Derived.Test.YtjlponbdflkbjaaGreatDoorG10
import Derived.Test.YtjlponbdflkbjaaGreatDoorG14
namespace Go.Proofs.YtjlponbdflkbjaaGreatDoor
open Go.KRun Go.Nt
set_option maxRecDepth 100000
set_option linter.unusedVariables false
theorem Runs.next{T:Tab}{c1 c2:Code}{x:Lf}{front:List Value}{n:Nat}{h:Hp}{P:Ex→Lf→Prop}(h1:Runs T c1 x fun e y=>e=none∧(∃ g,y.1=front++tl n g)∧y.2.1=h)(h2:∀ g s,Runs T c2(front++tl n g,h,s) P):Runs T(.seq c1 c2) x P:=by
 refine Runs.seq h1(fun y hy=> ?_)(fun e y hy=>by cases hy.1)
 obtain⟨_,⟨g,e1⟩,e2⟩:=hy
 obtain⟨t,hh,s⟩:=y
 simp only at e1 e2
 subst e1 e2
 exact h2 g s
theorem Zn5(O:List Int)(j:Nat)(v:Int):(wU O).set j(.int .u32 v)=wU(O.set j v):=by unfold wU;rw[List.map_set]
theorem Zco{n:Int}(h0:0≤n)(h1:n<18446744073709551616):IntKind.u64.wrap n=n:=by simp [IntKind.wrap,IntKind.bits,IntKind.signed];omega
theorem Zw0{O:List Int}{j:Nat}(h:j<O.length):(wU O)[0+j*1]? =some(.int .u32(O.getD j 0)):=by
 rw[Nat.zero_add,Nat.mul_one]
 unfold wU
 rw[List.getElem?_map,List.getElem?_eq_getElem h]
 simp [List.getD,List.getElem?_eq_getElem h]
theorem Zn6{n:Nat}(h:n<1000000):ZB n=true:=by
 unfold ZB
 exact Zp.2(by have:ZW=4611686018427387904:=rfl;omega)
theorem Zn7{x:Int}(h:Dg 65536 x):∃ p:Nat,x=(p:Int)∧p<65536:=⟨x.toNat,by have:=h.1;omega,by have:=h.1;have:=h.2;omega⟩
section
variable {la lb : List Value} {o c o' c' : Nat} {A B : List Int}
def mSt(o n c o' n' c' z:Nat)(la lb:List Value)(O:List Int)(i:Nat)(v7 v8:Value)(Y:Lf):Prop:=(∃ g,Y.1=mFr o n c o' n' c' z(.int .i64((i:Nat):Int)) v7 v8++tl 59 g)∧Y.2.1=hM3(wU O) lb la
def mOk(z i n':Nat)(O:List Int):Prop:=O.length=z∧(∀ x∈O,Dg 65536 x)∧∀ j,i+n'≤j→O.getD j 0=0
def mIn(o c o' c':Nat)(la lb:List Value)(A B:List Int)(i V:Nat)(m:Nat)(Y:Lf):Prop:=
 ∃ k O c7,m=B.length-k∧k≤B.length∧mOk(A.length+B.length) i B.length O∧c7<65536∧vb 65536 O+c7*65536^(i+k)=V+(A.getD i 0).toNat*vb 65536(B.take k)*65536^i∧mSt o A.length c o' B.length c'(A.length+B.length) la lb O i(.int .u64((c7:Nat):Int))(.int .i64((k:Nat):Int)) Y
def mFi(o c o' c':Nat)(la lb:List Value)(A B:List Int)(i V:Nat)(Y:Lf):Prop:=
 ∃ O c7 v8,mOk(A.length+B.length) i B.length O∧c7<65536∧vb 65536 O+c7*65536^(i+B.length)=V+(A.getD i 0).toNat*vb 65536 B*65536^i∧mSt o A.length c o' B.length c'(A.length+B.length) la lb O i(.int .u64((c7:Nat):Int)) v8 Y
theorem Zw1{z i n':Nat}{O:List Int}(h:mOk z i n' O){j:Nat}(hj:j<i+n'){v:Int}(hv:∀ x∈O.set j v,Dg 65536 x):mOk z i n'(O.set j v):=by
 refine⟨by rw[List.length_set];exact h.1,hv,fun t ht=> ?_⟩
 have:=h.2.2 t ht
 simp only[List.getD] at*
 rw[List.getElem?_set_ne(by omega)]
 exact this
theorem Zkc(rA:Row la o A)(rB:Row lb o' B)(dA:∀ x∈A,Dg 65536 x)(dB:∀ x∈B,Dg 65536 x)(hz:A.length+B.length<1000000){i V:Nat}(hi:i<A.length){Y0:Lf}(h0:mIn o c o' c' la lb A B i V B.length Y0):
  Runs(Zs Tryz.prog Zf Zo hcV)(.block 2(.loop(muL Tryz.f52))) Y0 fun e Y=>match e with | none=>mFi o c o' c' la lb A B i V Y | some none=>False | some(some _)=>False:=by
 refine Runs.forLoop(P:=mFi o c o' c' la lb A B i V)(R:=fun _=>False)(mIn o c o' c' la lb A B i V) ?_(n:=B.length) h0
 rintro m⟨t,h',s⟩⟨k,O,c7,hm,hk,hO,hc,hval,⟨g,ht⟩,hh⟩
 simp only at ht hh
 subst ht hh
 by_cases hlt:k<B.length
 ·have hj:i+k<O.length:=by rw[hO.1];omega
  obtain⟨p,ep,hp⟩:=Zn7(Zei dA i)
  obtain⟨q,eq,hq⟩:=Zn7(Zei dB k)
  obtain⟨d,ed,hd⟩:=Zn7(Zei hO.2.1(i+k))
  have eij:ijM i k=((i+k:Nat):Int):=by unfold ijM;rw[Zw(by omega)(by omega)];omega
  have hpq:p*q≤65535*65535:=Nat.mul_le_mul(by omega)(by omega)
  have epq:(p:Int)*(q:Int)=((p*q:Nat):Int):=by simp
  have eT:tM c7 d p q=((c7+d+p*q:Nat):Int):=by
   unfold tM
   rw[Zco(n:=(d:Int))(by omega)(by omega),Zco(n:=(p:Int))(by omega)(by omega),Zco(n:=(q:Int))(by omega)(by omega),epq,Zco(n:=((p*q:Nat):Int))(by omega)(by omega),Zco(n:=(c7:Int)+(d:Int))(by omega)(by omega),Zco(by omega)(by omega)]
   omega
  have e1:IntKind.u64.wrap((tM c7 d p q).tdiv 65536)=(((c7+d+p*q)/65536:Nat):Int):=by
   rw[eT,Int.tdiv_eq_ediv_of_nonneg(by omega),Zco(by omega)(by omega)]
   omega
  have e2:IntKind.u32.wrap((tM c7 d p q).tmod 65536)=(((c7+d+p*q) % 65536:Nat):Int):=by
   rw[eT,Int.tmod_eq_emod_of_nonneg(by omega),zm(by omega)(by omega)]
   omega
  have e3:IntKind.i64.wrap((k:Int)+1)=((k+1:Nat):Int):=by rw[Zw(by omega)(by omega)];omega
  have hstep:=Zrp hj hO.2.1 hc hp hq
  rw[ed,Int.toNat_natCast] at hstep
  obtain⟨s1,s2,s3⟩:=hstep
  have hw:=Z7q o A.length c o' B.length c'(A.length+B.length) i c7 k d p q undef undef(wU O) lb la g
  have lg:Z4 [stM(wU O)(ijM i k),inM(ijM i k)(A.length+B.length),d65,ceM lb o' k q,inM k B.length,ceM la o i p,inM i A.length,ceM(wU O) 0(ijM i k) d,inM(ijM i k)(A.length+B.length),(decide((k:Int)<((B.length:Nat):Int)),true)]:=by
   have g1:decide(0+(ijM i k).toNat*1<(wU O).length)=true:=decide_eq_true(by rw[eij,Int.toNat_natCast,Zaj];omega)
   have g2:decide(0≤ijM i k∧ijM i k<((A.length+B.length:Nat):Int))=true:=decide_eq_true(by rw[eij];omega)
   have g3:Z6(lb[o'+(k:Int).toNat*1]?)(.int .u32 q)=true:=by rw[Int.toNat_natCast,Nat.mul_one,rB.cell hlt,eq];simp [Z6]
   have g4:decide(0≤(k:Int)∧(k:Int)<((B.length:Nat):Int))=true:=decide_eq_true(by omega)
   have g5:Z6(la[o+(i:Int).toNat*1]?)(.int .u32 p)=true:=by rw[Int.toNat_natCast,Nat.mul_one,rA.cell hi,ep];simp [Z6]
   have g6:decide(0≤(i:Int)∧(i:Int)<((A.length:Nat):Int))=true:=decide_eq_true(by omega)
   have g7:Z6((wU O)[0+(ijM i k).toNat*1]?)(.int .u32 d)=true:=by rw[eij,Int.toNat_natCast,Zw0 hj,ed];simp [Z6]
   exact Zj g1(Zj g2(Zj rfl(Zj g3(Zj g4(Zj g5(Zj g6(Zj g7(Zj g2(Zu(decide_eq_true(by omega)))))))))))
  rw[e1,e2,e3,eij,Int.toNat_natCast,Nat.zero_add,Nat.mul_one,Zn5] at hw
  refine(Zb(Zh Zd Zv) hw(by rw[← Int.toNat_natCast(i+k),← eij] at*;exact lg)).mono fun e z hz=> ?_
  obtain⟨rfl,z1,z2⟩:=hz
  refine⟨B.length-(k+1),by omega,k+1,O.set(i+k)(((c7+d+p*q) % 65536:Nat):Int),(c7+d+p*q)/65536,rfl,by omega,Zw1 hO(by omega) s3,s2,?_,z1,z2⟩
  rw[Zag,Nat.mul_add,Nat.add_mul,eq,Int.toNat_natCast,ep,Int.toNat_natCast]
  rw[ep,Int.toNat_natCast] at hval
  have x1:p*(65536^k*q)*65536^i=p*q*65536^(i+k):=by rw[Nat.pow_add,Nat.mul_comm(65536^k) q,← Nat.mul_assoc,Nat.mul_assoc(p*q),Nat.mul_comm(65536^k)]
  rw[x1]
  have x2:i+(k+1)=i+k+1:=by omega
  rw[x2]
  omega
 ·have hkl:k=B.length:=by omega
  subst hkl
  refine(Zb(Zh Zd Zv)(Z17 o A.length c o' B.length c'(A.length+B.length) i c7((B.length:Nat):Int) 0 0 0 undef undef(wU O) lb la g)(Zu(decide_eq_false(by omega)))).mono fun e z hz=> ?_
  obtain⟨rfl,z1,z2⟩:=hz
  rw[List.take_length] at hval
  exact⟨rfl,O,c7,_,hO,hc,hval,z1,z2⟩
theorem Z9L{T:Tab}{c:Code}{id:Nat}{x:Lf}{P:Lf→Prop}(h:Runs T c x fun e y=>e=none∧P y):Runs T(.block id c) x fun e y=>e=none∧P y:=
 Runs.block h(fun y hy=>hy)(fun y hy=>by cases hy.1)(fun y hy=>by cases hy.1)(fun id' y _ hy=>by cases hy.1)
def mOu(o c o' c':Nat)(la lb:List Value)(A B:List Int)(i:Nat)(Y:Lf):Prop:=
 ∃ O v7 v8,mOk(A.length+B.length) i B.length O∧vb 65536 O=vb 65536(A.take i)*vb 65536 B∧mSt o A.length c o' B.length c'(A.length+B.length) la lb O i v7 v8 Y
theorem Zkd(rA:Row la o A)(rB:Row lb o' B)(dA:∀ x∈A,Dg 65536 x)(dB:∀ x∈B,Dg 65536 x)(hz:A.length+B.length<1000000){i:Nat}(hi:i<A.length){Y0:Lf}(h0:mOu o c o' c' la lb A B i Y0):
  Runs(Zs Tryz.prog Zf Zo hcV)(muO Tryz.f52) Y0 fun e Y=>e=none∧mOu o c o' c' la lb A B(i+1) Y:=by
 obtain⟨O,v7,v8,hO,hval,⟨g,ht⟩,hh⟩:=h0
 obtain⟨t,h',s⟩:=Y0
 simp only at ht hh
 subst ht hh
 have hT:=Zh Zd Zv
 rw[ZiR]
 refine Runs.next(Zb hT(Z7m o A.length c o' B.length c'(A.length+B.length) i 0 0 0 0 0 v7 v8(wU O) lb la g)(Zu(decide_eq_true(by omega)))) fun g s=> ?_
 refine Runs.seq(P1:=fun e Y=>e=none∧∃ O v7 v8,mOk(A.length+B.length)(i+1) B.length O∧vb 65536 O=vb 65536(A.take(i+1))*vb 65536 B∧mSt o A.length c o' B.length c'(A.length+B.length) la lb O i v7 v8 Y)(Z9L ?_) ?_(fun e y hy=>by cases hy.1)
 ·rw[Zrq]
  refine Runs.next(Zb hT(Z7o o A.length c o' B.length c'(A.length+B.length) i 0 0 0 0 0 v7 v8(wU O) lb la g)(fun _ h=>by cases h)) fun g s=> ?_
  refine Runs.seq(P1:=fun e Y=>e=none∧mFi o c o' c' la lb A B i(vb 65536 O) Y) ?_ ?_(fun e y hy=>by cases hy.1)
  ·refine Runs.next(Zb hT(Z7p o A.length c o' B.length c'(A.length+B.length) i 0 0 0 0 0(.int .u64 0) v8(wU O) lb la g)(fun _ h=>by cases h)) fun g s=> ?_
   refine(Zkc rA rB dA dB hz hi(V:=vb 65536 O)⟨0,O,0,by omega,by omega,hO,by omega,?_,⟨g,rfl⟩,rfl⟩).mono fun e Y hY=> ?_
   ·simp [vb]
   ·match e,hY with
    | none,hY=>exact⟨rfl,hY⟩
    | some none,hY=>exact hY.elim
    | some(some _),hY=>exact hY.elim
  ·rintro⟨t,h',s⟩⟨_,O',c7,w8,hO',hc7,hv',⟨g,ht⟩,hh⟩
   simp only at ht hh
   subst ht hh
   have hj:i+B.length<O'.length:=by rw[hO'.1];omega
   have eij:ijM i((B.length:Nat):Int)=((i+B.length:Nat):Int):=by unfold ijM;rw[Zw(by omega)(by omega)];omega
   have e1:IntKind.u32.wrap((c7:Nat):Int)=((c7:Nat):Int):=zm(by omega)(by omega)
   have hw:=Z18 o A.length c o' B.length c'(A.length+B.length) i c7 0 0 0 0 undef w8(wU O') lb la g
   have g1:decide(0+(ijM i((B.length:Nat):Int)).toNat*1<(wU O').length)=true:=decide_eq_true(by rw[eij,Int.toNat_natCast,Zaj];omega)
   have g2:decide(0≤ijM i((B.length:Nat):Int)∧ijM i((B.length:Nat):Int)<((A.length+B.length:Nat):Int))=true:=decide_eq_true(by rw[eij];omega)
   have r:=Zb(s0:=s) hT hw(Zj g1(Zu g2))
   rw[e1,eij,Int.toNat_natCast,Nat.zero_add,Nat.mul_one,Zn5] at r
   refine r.mono fun e z hz=> ?_
   obtain⟨rfl,z1,z2⟩:=hz
   have hdg:∀ x∈O'.set(i+B.length)((c7:Nat):Int),Dg 65536 x:=Zn4 hO'.2.1⟨by omega,by omega⟩ _
   refine⟨rfl,O'.set(i+B.length)((c7:Nat):Int),_,_,⟨by rw[List.length_set];exact hO'.1,hdg,fun j hj'=> ?_⟩,?_,z1,z2⟩
   ·have:=hO'.2.2 j(by omega)
    simp only[List.getD] at*
    rw[List.getElem?_set_ne(by omega)]
    exact this
   ·have hs:=Zn3(b:=65536) hj((c7:Nat):Int)
    rw[hO'.2.2(i+B.length)(Nat.le_refl _),Int.toNat_natCast] at hs
    rw[Zag,Nat.add_mul,← hval]
    have x1:65536^i*(A.getD i 0).toNat*vb 65536 B=(A.getD i 0).toNat*vb 65536 B*65536^i:=by rw[Nat.mul_assoc,Nat.mul_comm]
    rw[x1]
    have x2:c7*65536^(i+B.length)=65536^(i+B.length)*c7:=Nat.mul_comm _ _
    have x3:(65536:Nat)^(i+B.length)*(0:Int).toNat=0:=by simp
    omega
 ·rintro⟨t,h',s⟩⟨_,O',w7,w8,hO',hv',⟨g,ht⟩,hh⟩
  simp only at ht hh
  subst ht hh
  have e3:IntKind.i64.wrap((i:Int)+1)=((i+1:Nat):Int):=by rw[Zw(by omega)(by omega)];omega
  have hw:=Z7r o A.length c o' B.length c'(A.length+B.length) i 0 0 0 0 0 w7 w8(wU O') lb la g
  rw[e3] at hw
  refine(Zb hT hw(fun _ h=>by cases h)).mono fun e z hz=> ?_
  obtain⟨rfl,z1,z2⟩:=hz
  exact⟨rfl,O',w7,w8,hO',hv',z1,z2⟩
theorem Zn8(rA:Row la o A)(rB:Row lb o' B)(dA:∀ x∈A,Dg 65536 x)(dB:∀ x∈B,Dg 65536 x)(hz:A.length+B.length<1000000){Y0:Lf}(h0:mOu o c o' c' la lb A B 0 Y0):
  Runs(Zs Tryz.prog Zf Zo hcV)(.block 0(.loop(muO Tryz.f52))) Y0 fun e Y=>match e with | none=>mOu o c o' c' la lb A B A.length Y | some none=>False | some(some _)=>False:=by
 refine Runs.forLoop(P:=mOu o c o' c' la lb A B A.length)(R:=fun _=>False)(fun m Y=>∃ i,m=A.length-i∧i≤A.length∧mOu o c o' c' la lb A B i Y) ?_(n:=A.length)⟨0,by omega,by omega,h0⟩
 rintro m Y⟨i,hm,hi,hY⟩
 by_cases hlt:i<A.length
 ·refine(Zkd rA rB dA dB hz hlt hY).mono fun e z hz'=> ?_
  obtain⟨rfl,z1⟩:=hz'
  exact⟨A.length-(i+1),by omega,i+1,rfl,by omega,z1⟩
 ·have hil:i=A.length:=by omega
  subst hil
  obtain⟨O,v7,v8,hO,hval,⟨g,ht⟩,hh⟩:=hY
  obtain⟨t,h',s⟩:=Y
  simp only at ht hh
  subst ht hh
  rw[ZiR]
  refine Runs.seq(Zb(Zh Zd Zv)(Z7n o A.length c o' B.length c'(A.length+B.length)((A.length:Nat):Int) 0 0 0 0 0 v7 v8(wU O) lb la g)(Zu(decide_eq_false(by omega))))(fun y hy=>by cases hy.1)(fun e y hy=> ?_)
  obtain⟨e1,z1,z2⟩:=hy
  cases e1
  exact⟨rfl,O,v7,v8,hO,hval,z1,z2⟩
theorem Zn9(rA:Row la o A)(rB:Row lb o' B)(dA:∀ x∈A,Dg 65536 x)(dB:∀ x∈B,Dg 65536 x)(hz:A.length+B.length<1000000):
  Runs(Zs Tryz.prog Zf Zo hcV)(za(Zzd Tryz.f52)(.seq(.seq(Z5(muB Tryz.f52))(.block 0(.loop(muO Tryz.f52))))(muE Tryz.f52)))([sl 0 o A.length c,sl 1 o' B.length c']++List.replicate 66 undef,h2 la lb,[]) fun e z=>(e=none∨e=some none)∧ZZ Tryz.prog Tryz.f52 z.1 z.2.1=some(sl 2 0(d16(vb 65536 A*vb 65536 B)).length(d16(vb 65536 A*vb 65536 B)).length)∧∃ r,z.2.1.blk? 2=some(wU(d16(vb 65536 A*vb 65536 B))++r,tU):=by
 have hT:=Zh Zd Zv
 have ez:zM A.length B.length=((A.length+B.length:Nat):Int):=by unfold zM;rw[Zw(by omega)(by omega)];omega
 have hp:=Z15 o A.length c o' B.length c' la lb
 have mk:ZL 4(zM A.length B.length)(zM A.length B.length)=true:=by unfold ZL;rw[ez];exact decide_eq_true(by omega)
 refine Zx hT hp(Zu mk) fun g=> ?_
 rw[ez,Int.toNat_natCast]
 have ew:List.replicate(A.length+B.length)(Value.int .u32 0)=wU(List.replicate(A.length+B.length) 0):=by unfold wU;rw[List.map_replicate]
 rw[ew]
 have hrep:mOk(A.length+B.length) 0 B.length(List.replicate(A.length+B.length)(0:Int)):=by
  refine⟨by simp,fun x hx=> ?_,fun j _=> ?_⟩
  ·rw[List.eq_of_mem_replicate hx];exact⟨by omega,by omega⟩
  ·simp only[List.getD,List.getElem?_replicate]
   split<;>rfl
 have hv0:∀ n:Nat,vb 65536(List.replicate n(0:Int))=0:=fun n=>by
  induction n with
  | zero=>rfl
  | succ n ih=>rw[List.replicate_succ];simp only[vb,ih];rfl
 refine Runs.seq(P1:=fun e Y=>e=none∧mOu o c o' c' la lb A B A.length Y) ?_ ?_(fun e y hy=>by cases hy.1)
 ·refine Runs.next(Zb hT(Z16(sl 0 o A.length c)(sl 1 o' B.length c')(sl 2 0(A.length+B.length)(A.length+B.length)) _ g)(fun _ h=>by cases h)) fun g s=> ?_
  refine(Zn8 rA rB dA dB hz⟨List.replicate(A.length+B.length) 0,_,_,hrep,by rw[hv0];simp [vb],⟨g,rfl⟩,rfl⟩).mono fun e Y hY=> ?_
  match e,hY with
  | none,hY=>exact⟨rfl,hY⟩
  | some none,hY=>exact hY.elim
  | some(some _),hY=>exact hY.elim
 ·rintro⟨t,h',s⟩⟨_,O,v7,v8,hO,hval,⟨g,ht⟩,hh⟩
  simp only at ht hh
  subst ht hh
  rw[List.take_length] at hval
  have hl:=hO.1
  have hrow:Zbr tU(wU O) 0(A.length+B.length)(A.length+B.length)=true:=by
   have:=Zaq(L:=O)(fun x hx=>⟨(hO.2.1 x hx).1,by have:=(hO.2.1 x hx).2;omega⟩)(by rw[hl];omega)(c:=A.length+B.length)(by rw[hl];unfold Zdd;simp;exact .inl(Zn6(by omega)))
   rw[hl] at this
   exact this
  have ec:Zy(wU O) 0(A.length+B.length)=O:=by
   have:=ZaQ O
   rw[hl] at this
   exact this
  have et:Zm O=(d16(vb 65536 A*vb 65536 B)).length:=by
   rw[Zat(by omega) hO.2.1,hval]
   rfl
  refine(Zb hT(Z19 o A.length c o' B.length c'(A.length+B.length)((A.length:Nat):Int) 0 0 0 0 0 v7 v8(wU O) lb la g)(Zu hrow)).mono fun e z hz'=> ?_
  obtain⟨rfl,⟨g',e1⟩,e2⟩:=hz'
  refine⟨.inr rfl,?_,?_⟩
  ·rw[e1,e2,ec,et]
   rfl
  ·rw[e2]
   refine⟨wU(O.drop(Zm O)),?_⟩
   have e3:wU(d16(vb 65536 A*vb 65536 B))++wU(O.drop(Zm O))=wU O:=by
    unfold d16
    rw[← hval,← zl(by omega) _ hO.2.1,← ZY,List.take_append_drop]
   rw[e3]
   rfl
end
def Ztt(h:Hp)(p q:Option Addr)(n c n' c':Nat):Bool:=zG h p n c && dgB(Zr h p n) && (zG h q n' c' && dgB(Zr h q n')) && Nat.blt(n+n') 1000000
def Z1A:Zaf:=fun vals h s=>
 match vals with
 | [.slice(some⟨b,o,none⟩) n c,.slice(some⟨b',o',none⟩) n' c']=>Zdh(vO h(some⟨b,o,none⟩) n*vO h(some⟨b',o',none⟩) n') h s [(Ztt h(some⟨b,o,none⟩)(some⟨b',o',none⟩) n c n' c',true)]
 | _=>none
theorem Zrr:Z9 52 Z1A:=by
 intro vals h s v h' s' lg hg hl m B w E0 hv
 unfold Z1A at hg
 split at hg
 ·rename_i b o n c b' o' n' c'
  unfold Zdh at hg
  cases hg
  have l3:=hl _(List.mem_singleton.2 rfl)
  simp only[Ztt,Bool.and_eq_true] at l3
  obtain⟨⟨⟨q1,q2⟩,⟨p1,p2⟩⟩,q4⟩:=l3
  have q2:=Zby q2
  have p2:=Zby p2
  have q4:=Zp.1 q4
  rcases ZH q1 with⟨h0,_⟩ | ⟨b1,o1,x,hp,hx,r1,rs,e0⟩
  ·cases h0
  ·cases hp
   rcases ZH p1 with⟨h0,_⟩ | ⟨b2,o2,y,hp',hy,t1,ts,f0⟩
   ·cases h0
   ·cases hp'
    rw[e0] at q2
    rw[f0] at p2
    obtain⟨h1,h2',h3,h4,h5,h6,h7⟩:=zv r1
    obtain⟨k1,k2,k3,k4,k5,k6,k7⟩:=zv t1
    have ev:vO h(some⟨b,o,none⟩) n=vb 65536(Zy x.1 o n):=by unfold vO;rw[e0]
    have ev':vO h(some⟨b',o',none⟩) n'=vb 65536(Zy y.1 o' n'):=by unfold vO;rw[f0]
    have r:=Zn9(c:=c)(c':=c') h1 k1 q2 p2(by rw[h2',k2];exact q4)
    rw[h2',k2,← ev,← ev'] at r
    have evals:List.map(rn(ZeV b b')) [sl 0 o n c,sl 1 o' n' c']=[.slice(some⟨b,o,none⟩) n c,.slice(some⟨b',o',none⟩) n' c']:=by
     simp [rn,rn2,rn1,sl,ZeV]
    have fin:=ZG(T:=Zs Tryz.prog Zf Zo hcV) Tryz.func52 ZgG(Zht h7 k7)(vals:=[sl 0 o n c,sl 1 o' n' c'])(fun v hv=>by
     simp only[List.mem_cons,List.not_mem_nil,or_false] at hv
     rcases hv with h1 | h1<;>rw[h1]<;>rfl)(k:=2)(cs:=wU(d16(vO h(some⟨b,o,none⟩) n*vO h(some⟨b',o',none⟩) n')))(ty:=tU)(Zbb _)(by kernel_rfl) r.w(by rfl) E0(s:=ZeV b b')(ZdZ hx h5 h6 hy k5 k6)
    rw[evals] at fin
    exact fin
 ·cases hg
def hN2(lo la:List Value):Hp:=⟨2,[(lo,tU),(la,tR)]⟩
def mNr(o n c z:Nat)(i v7 v8:Value):List Value:=[sl 0 o n c,Zq,undef,undef,Zq,sl 1 0 z z,i,v7,v8]
def zU(n:Nat):List Value:=List.replicate n(.int .u32 0)
theorem Z1B(n:Nat):zU n=wU(List.replicate n 0):=by unfold zU wU;simp
theorem ZiS:∀ n:Nat,Zm(List.replicate n 0)=0
 | 0=>rfl
 | n+1=>by
  rw[List.replicate_succ]
  simp only[Zm]
  rw[ZiS n]
  rfl
theorem Ztu(n:Nat):Zm(Zy(zU n) 0 n)=0:=by
 have h:=ZaQ(List.replicate n 0)
 rw[List.length_replicate] at h
 rw[Z1B,h,ZiS]
theorem Ztv{n:Nat}(h:n<1000000):Zbr tU(zU n) 0 n n=true:=by
 have:=Zaq(L:=List.replicate n 0)(fun x hx=>by rw[List.eq_of_mem_replicate hx];omega)(by simp;omega)(c:=n)(by simp only[List.length_replicate];exact Z4I(by omega))
 rw[List.length_replicate] at this
 rw[Z1B]
 exact this
def zL(n:Nat):Int:=IntKind.i64.wrap((n:Int)+((0:Nat):Int))
def zR(n:Nat):Int:=IntKind.i64.wrap(((0:Nat):Int)+(n:Int))
theorem Z7s{n:Nat}(h:n<1000000):zL n=(n:Int):=by unfold zL;rw[Zw(by omega)(by omega)];omega
theorem Z7t{n:Nat}(h:n<1000000):zR n=(n:Int):=by unfold zR;rw[Zw(by omega)(by omega)];omega
theorem Z1C(o n c:Nat)(la:List Value):Zg(evL(Zs Tryz.prog Zf Zo hcV) 200(Zzd Tryz.f52)([sl 0 o n c,Zq]++List.replicate 66 undef,⟨1,[(la,tR)]⟩,[at_])⟨[],[],[]⟩) 6 62 none [sl 0 o n c,Zq,undef,undef,Zq,sl 1 0(zL n).toNat(zL n).toNat](hN2(zU(zL n).toNat) la) [(ZL 4(zL n)(zL n),true)]:=⟨by kernel_rfl,by kernel_rfl,by kernel_rfl⟩
theorem Z7u(o n c z:Nat)(i:Int)(v7 v8:Value)(lo la:List Value)(g:Nat→Value):Zg(evC(Zs Tryz.prog Zf Zo hcV) 200 false(muO Tryz.f52)(mNr o n c z(.int .i64 i) v7 v8++tl 59 g,hN2 lo la,[cmp true,cmp false,at_,at_])⟨[],[],[]⟩) 9 59 none(mNr o n c z(.int .i64(IntKind.i64.wrap(i+1)))(.int .u64 0)(.int .i64 0))(hN2(lo.set(0+(ijM i(0:Nat)).toNat*1)(.int .u32 0)) la) [stM lo(ijM i(0:Nat)),inM(ijM i(0:Nat)) z,(decide((0:Int)<((0:Nat):Int)),false),(decide(i<(n:Int)),true)]:=⟨by kernel_rfl,by kernel_rfl,by kernel_rfl⟩
theorem Z1D(o n c z:Nat)(i:Int)(v7 v8:Value)(lo la:List Value)(g:Nat→Value):Zg(evC(Zs Tryz.prog Zf Zo hcV) 200 false(muO Tryz.f52)(mNr o n c z(.int .i64 i) v7 v8++tl 59 g,hN2 lo la,[cmp false])⟨[],[],[]⟩) 9 59(some(some 0))(mNr o n c z(.int .i64 i) v7 v8)(hN2 lo la) [(decide(i<(n:Int)),false)]:=⟨by kernel_rfl,by kernel_rfl,by kernel_rfl⟩
theorem Z1E(o n c z:Nat)(i v7 v8:Value)(lo la:List Value)(g:Nat→Value):Zg(evC(Zs Tryz.prog Zf Zo hcV) 200 false(muE Tryz.f52)(mNr o n c z i v7 v8++tl 59 g,hN2 lo la,[])⟨[],[],[]⟩) 5 63(some none) [sl 0 o n c,Zq,undef,undef,sl 1 0(Zm(Zy lo 0 z))(Zm(Zy lo 0 z))](hN2 lo la) [(Zbr tU lo 0 z z,true)]:=⟨by kernel_rfl,by kernel_rfl,by kernel_rfl⟩
theorem Z9M(o n c:Nat)(la:List Value):Zg(evC(Zs Tryz.prog Zf Zo hcV) 200 false(Zt Tryz.f52)([Zq,sl 0 o n c]++List.replicate 66 undef,⟨1,[(la,tR)]⟩,[at_,cmp false])⟨[],[],[]⟩) 5 63(some none) [Zq,sl 0 o n c,undef,undef,sl 1 0(Zm(Zy(zU(zR n).toNat) 0(zR n).toNat))(Zm(Zy(zU(zR n).toNat) 0(zR n).toNat))](hN2(zU(zR n).toNat) la) [(Zbr tU(zU(zR n).toNat) 0(zR n).toNat(zR n).toNat,true),(decide((0:Int)<((0:Nat):Int)),false),(ZL 4(zR n)(zR n),true)]:=⟨by kernel_rfl,by kernel_rfl,by kernel_rfl⟩
theorem Z7v:Zg(evC(Zs Tryz.prog Zf Zo hcV) 200 false(Zt Tryz.f52)([Zq,Zq]++List.replicate 66 undef,⟨0,[]⟩,[at_,cmp false])⟨[],[],[]⟩) 5 63(some none) [Zq,Zq,undef,undef,sl 0 0 0 0]⟨1,[([],tU)]⟩ [(Zbr tU [] 0 0 0,true),(decide((0:Int)<((0:Nat):Int)),false),(true,true)]:=⟨by kernel_rfl,by kernel_rfl,by kernel_rfl⟩
theorem Zfe:Tryz.f52.body=some(Zt Tryz.f52):=by kernel_rfl
theorem Zw2{la:List Value}{o n c:Nat}(hn:n<1000000):
  Runs(Zs Tryz.prog Zf Zo hcV)(za(Zzd Tryz.f52)(.seq(.seq(Z5(muB Tryz.f52))(.block 0(.loop(muO Tryz.f52))))(muE Tryz.f52)))([sl 0 o n c,Zq]++List.replicate 66 undef,⟨1,[(la,tR)]⟩,[]) fun e y=>(e=none∨e=some none)∧ZZ Tryz.prog Tryz.f52 y.1 y.2.1=some(sl 1 0 0 0)∧y.2.1.blk? 1=some(zU n,tU):=by
 have hT:=Zh Zd Zv
 have g0:=Z1C o n c la
 rw[Z7s hn,Int.toNat_natCast] at g0
 refine Zx hT g0(Zu(by unfold ZL;exact decide_eq_true(by omega))) fun g=> ?_
 refine Runs.seq(P1:=fun e' y=>e'=none∧∃ (i v7 v8:Value)(g:Nat→Value),y.1=mNr o n c n i v7 v8++tl 59 g∧y.2.1=hN2(zU n) la) ?_ ?_(fun e y he=>by cases he.1)
 ·refine Runs.next(Zb hT(Z16(sl 0 o n c) Zq(sl 1 0 n n) _ g)(fun _ h=>by cases h)) fun g s=> ?_
  refine(Runs.forLoop(R:=fun _=>False)(P:=fun y=>∃ (i v7 v8:Value)(g:Nat→Value),y.1=mNr o n c n i v7 v8++tl 59 g∧y.2.1=hN2(zU n) la)
   (fun r y=>∃ (k:Nat)(v7 v8:Value)(g:Nat→Value),k+r=n∧y.1=mNr o n c n(.int .i64(k:Int)) v7 v8++tl 59 g∧y.2.1=hN2(zU n) la)
   ?_(n:=n)⟨0,_,_,g,by omega,rfl,rfl⟩).mono fun e' y he=> ?_
  ·rintro r⟨t,h',s'⟩⟨k,v7,v8,g,hk,ht,hh⟩
   simp only at ht hh
   subst ht hh
   cases r with
   | zero=>
    refine(Zb hT(Z1D o n c n k v7 v8 _ la g)(Zu(decide_eq_false(by omega)))).mono fun e' y he=> ?_
    obtain⟨rfl,⟨g1,e2⟩,e3⟩:=he
    exact⟨rfl,_,_,_,g1,e2,e3⟩
   | succ r=>
    have ei:ijM(k:Int)(0:Nat)=(k:Int):=by unfold ijM;rw[Zw(by omega)(by omega)];omega
    have g1:=Z7u o n c n k v7 v8(zU n) la g
    rw[ei] at g1
    have es:(zU n).set(0+((k:Int)).toNat*1)(.int .u32 0)=zU n:=by
     unfold zU
     rw[Int.toNat_natCast,Nat.zero_add,Nat.mul_one,List.set_replicate_self]
    rw[es] at g1
    refine(Zb hT g1(Zj(by unfold stM zU;exact decide_eq_true(by simp;omega))(Zj(by unfold inM;exact decide_eq_true(by omega))(Zj(by decide)(Zu(decide_eq_true(by omega))))))).mono fun e' y he=> ?_
    obtain⟨rfl,⟨g2,e2⟩,e3⟩:=he
    refine⟨r,by omega,k+1,.int .u64 0,.int .i64 0,g2,by omega,?_,e3⟩
    rw[e2,Zw(by omega)(by omega)]
    rfl
  ·match e',he with
   | none,he=>exact⟨rfl,he⟩
   | some none,he=>exact he.elim
   | some(some _),he=>exact he.elim
 ·rintro⟨t,h',s'⟩⟨_,i,v7,v8,g,ht,hh⟩
  simp only at ht hh
  subst ht hh
  have g1:=Z1E o n c n i v7 v8(zU n) la g
  rw[Ztu] at g1
  refine(Zb hT g1(Zu(Ztv hn))).mono fun e' y he=> ?_
  obtain⟨rfl,⟨g2,e2⟩,e3⟩:=he
  refine⟨.inr rfl,?_,?_⟩
  ·rw[e2,e3];rfl
  ·rw[e3];rfl
def ZnA:Zaf:=fun vals h s=>
 match vals,s with
 | [.slice p n c,.slice q n' c'],.inr(.inl V)::s'=>Zdh V.toNat h s' [(decide(vO h p n*vO h q n'=V.toNat),true),(Ztt h p q n c n' c',true)]
 | _,_=>none
theorem Zw3:d16 0=[]:=zp 65536
theorem ZnB:Z9 52 ZnA:=by
 intro vals h s v h' s' lg hg hl m B w E hv
 unfold ZnA at hg
 split at hg
 ·rename_i p n c q n' c' V s2
  unfold Zdh at hg
  cases hg
  have l1:=of_decide_eq_true(hl _ List.mem_cons_self)
  have l3:=hl _(List.mem_cons_of_mem _(List.mem_singleton.2 rfl))
  have l3':=l3
  simp only[Ztt,Bool.and_eq_true] at l3
  obtain⟨⟨⟨q1,q2⟩,⟨p1,p2⟩⟩,q4⟩:=l3
  have q4:=Zp.1 q4
  rcases ZH q1 with⟨rfl,rfl,rfl,e0⟩ | ⟨b,o,x,rfl,hx,r1,rs,e0⟩
  ·have hV:V.toNat=0:=by
    rw[← l1]
    unfold vO
    rw[e0]
    simp [vb]
   rw[hV,Zw3]
   rcases ZH p1 with⟨rfl,rfl,rfl,f0⟩ | ⟨b',o',y,rfl,hy,t1,ts,f0⟩
   ·have r:Runs(Zs Tryz.prog Zf Zo hcV)(Zt Tryz.f52)([Zq,Zq]++List.replicate 66 undef,⟨0,[]⟩,[]) fun e z=>(e=none∨e=some none)∧ZZ Tryz.prog Tryz.f52 z.1 z.2.1=some(sl 0 0 0 0)∧∃ r,z.2.1.blk? 0=some(wU []++r,tU):=by
     refine(Zb(Zh Zd Zv) Z7v(Zj(by kernel_rfl)(Zj(by decide)(Zu rfl)))).mono fun e z he=> ?_
     obtain⟨rfl,⟨g,e1⟩,e2⟩:=he
     exact⟨.inr rfl,by rw[e1,e2];rfl,[],by rw[e2];rfl⟩
    have:=ZG(T:=Zs Tryz.prog Zf Zo hcV) Tryz.func52 Zfe(h0:=⟨0,[]⟩)⟨rfl,fun b x hx=>by have:b<0:=Hp.blk_lt hx;omega⟩(vals:=[Zq,Zq])(fun v hv=>by
     simp only[List.mem_cons,List.not_mem_nil,or_false] at hv
     rcases hv with rfl | rfl<;>rfl)(k:=0)(cs:=wU [])(ty:=tU)(Zbb _)(by kernel_rfl) r.w(by rfl) E(s:=fun i=>i)(fun i x hx _=>by have:i<0:=Hp.blk_lt hx;omega)
    exact this
   ·obtain⟨b1,b2,b3,b4,b5,b6,b7⟩:=zv t1
    have g0:=Z9M o' n' c' y.1
    rw[Z7t(by omega),Int.toNat_natCast,Ztu] at g0
    have r:Runs(Zs Tryz.prog Zf Zo hcV)(Zt Tryz.f52)([Zq,sl 0 o' n' c']++List.replicate 66 undef,⟨1,[(y.1,tR)]⟩,[]) fun e z=>(e=none∨e=some none)∧ZZ Tryz.prog Tryz.f52 z.1 z.2.1=some(sl 1 0 0 0)∧∃ r,z.2.1.blk? 1=some(wU []++r,tU):=by
     refine(Zb(Zh Zd Zv) g0(Zj(Ztv(by omega))(Zj(by decide)(Zu(by unfold ZL;exact decide_eq_true(by omega)))))).mono fun e z he=> ?_
     obtain⟨rfl,⟨g,e1⟩,e2⟩:=he
     exact⟨.inr rfl,by rw[e1,e2];rfl,zU n',by rw[e2];rfl⟩
    have evals:List.map(rn fun _=>b') [Zq,sl 0 o' n' c']=[.slice none 0 0,.slice(some⟨b',o',none⟩) n' c']:=by simp [rn,rn2,rn1,sl,Zq]
    have:=ZG(T:=Zs Tryz.prog Zf Zo hcV) Tryz.func52 Zfe(ZaJ b7)(vals:=[Zq,sl 0 o' n' c'])(fun v hv=>by
     simp only[List.mem_cons,List.not_mem_nil,or_false] at hv
     rcases hv with rfl | rfl<;>rfl)(k:=1)(cs:=wU [])(ty:=tU)(Zbb _)(by kernel_rfl) r.w(by rfl) E(s:=fun _=>b')(zO hy b5 b6 rfl)
    rw[evals] at this
    exact this
  ·rcases ZH p1 with⟨rfl,rfl,rfl,f0⟩ | ⟨b',o',y,rfl,hy,t1,ts,f0⟩
   ·have hV:V.toNat=0:=by
     rw[← l1]
     unfold vO
     rw[f0]
     simp [vb]
    rw[hV,Zw3]
    obtain⟨b1,b2,b3,b4,b5,b6,b7⟩:=zv r1
    have r:Runs(Zs Tryz.prog Zf Zo hcV)(za(Zzd Tryz.f52)(.seq(.seq(Z5(muB Tryz.f52))(.block 0(.loop(muO Tryz.f52))))(muE Tryz.f52)))([sl 0 o n c,Zq]++List.replicate 66 undef,⟨1,[(x.1,tR)]⟩,[]) fun e z=>(e=none∨e=some none)∧ZZ Tryz.prog Tryz.f52 z.1 z.2.1=some(sl 1 0 0 0)∧∃ r,z.2.1.blk? 1=some(wU []++r,tU):=
     (Zw2(by omega)).mono fun e z he=>⟨he.1,he.2.1,zU n,he.2.2⟩
    have evals:List.map(rn fun _=>b) [sl 0 o n c,Zq]=[.slice(some⟨b,o,none⟩) n c,.slice none 0 0]:=by simp [rn,rn2,rn1,sl,Zq]
    have:=ZG(T:=Zs Tryz.prog Zf Zo hcV) Tryz.func52 ZgG(ZaJ b7)(vals:=[sl 0 o n c,Zq])(fun v hv=>by
     simp only[List.mem_cons,List.not_mem_nil,or_false] at hv
     rcases hv with rfl | rfl<;>rfl)(k:=1)(cs:=wU [])(ty:=tU)(Zbb _)(by kernel_rfl) r.w(by rfl) E(s:=fun _=>b)(zO hx b5 b6 rfl)
    rw[evals] at this
    exact this
   ·rw[← l1]
    exact Zrr _ h [] _ _ [] [(Ztt h(some⟨b,o,none⟩)(some⟨b',o',none⟩) n c n' c',true)] rfl(Z3 l3') m B w E hv
 ·cases hg
end Go.Proofs.YtjlponbdflkbjaaGreatDoor
namespace Go.Proofs.YtjlponbdflkbjaaGreatDoor.Na
open Go.KRun Go.Nt
set_option maxRecDepth 100000
set_option linter.unusedVariables false
def Z4J:Zaf:=fun vals h s=>
 match vals,s with
 | [.slice p n c,.slice q n' c'],.inr(.inr(.inr(.inl true)))::s'=>some(.tuple #[Zq,.nilIface],h,s',[(decide(n=0∨n'=0),true)])
 | [.slice p n c,.slice q n' c'],.inr(.inr(.inr(.inl false))):: .inr(.inl V)::s'=>some(.tuple #[sl h.n 0(Zm(dg(n+n') V))(n+n'),.nilIface],h.push(wU(dg(n+n') V)) tU,s',[(decide(Zh7(Zr h p n)(Zr h q n')=dg(n+n') V),true),(Zaa h p n c,true),(Zaa h q n' c',true),(!decide(n=0∨n'=0) && Nat.ble(n+n') 8192,true)])
 | _,_=>none
theorem ZnC:Z9 115 Z4J:=by
 intro vals h s v h' s' lg hg hl
 unfold Z4J at hg
 split at hg
 ·cases hg
  exact Znk _ h [cmp true] _ _ [] _ rfl hl
 ·rename_i p n c q n' c' V s3
  cases hg
  obtain⟨l1,l2⟩:=Zto hl
  have l1:=of_decide_eq_true l1
  refine Znk _ h [cmp false] _ _ [] _ ?_ l2
  simp only[Z6D,l1]
 ·cases hg
section
variable {w : World} {i j : Nat} {va vb' : Value} {xa xb : List Value × TypeId} {ka kb : Nat × Nat} {pa pb : Option Addr} {na ca nb cb : Nat} {LA LB : List Int} {H : Hp}
end
section
variable {H : Hp} {p q : Option Addr} {n c n' c' V W : Nat}
end
theorem Z1F{x y m k:Nat}(hx:x<4294967296^m)(hy:y<4294967296^k):x*y<4294967296^(m+k):=by
 rw[Nat.pow_add]
 exact Nat.mul_lt_mul'' hx hy
def h5(la lb R Y Q:List Value):Hp:=⟨5,[(Q,tU),(Y,tU),(R,tU),(lb,tR),(la,tR)]⟩
def toT(k x d:Int):Int:=IntKind.u64.wrap(k+IntKind.u64.wrap(IntKind.u64.wrap x*IntKind.u64.wrap d))
def toW(k x d:Int):Int:=IntKind.u32.wrap(toT k x d)
def toC(k x d:Int):Int:=(toT k x d).fdiv(2^min(Int.toNat 32) 64)
def toP(F:Func):List Code:=[Z5(sn 0 F),Z5(sn 1 F),Z5(sn 2 F),Z5(sn 3 F),Z5(sn 4 F)]
def toB(F:Func):Code:=Z5(sn 5 F)
def toL(F:Func):Code:=cIn(cIn(Z0(toB F)))
def toF(o m c n k:Nat)(d cy b:Int)(v11 v12:Value):List Value:=[sl 2 o m c,sl 3 0 n k,uu d,undef,undef,undef,.bool false,i6' n,sl 2 o n c,.int .u64 cy,uu b,v11,v12]
theorem Zep:Tryz.f136.body=some(za(toP Tryz.f136)(.seq(.seq(Z5(toB Tryz.f136))(.block 0(.loop(toL Tryz.f136))))(sn 6 Tryz.f136))):=by kernel_rfl
theorem Z1G(o m c n k:Nat)(d:Int)(la lb R Y Q:List Value):Zg(evL(Zi Tryz.prog Zf Ztb true) 100(toP Tryz.f136)([sl 2 o m c,sl 3 0 n k,uu d]++List.replicate 62 undef,h5 la lb R Y Q,[num 0])⟨[],[],[]⟩) 13 52 none(toF o m c n k d 0 0 undef undef)(h5 la lb R Y Q) [(ZB c,true),(ZS 0 n c c,true),(decide((c:Int)=0∧(0:Int)≠0),false)]:=⟨by kernel_rfl,by kernel_rfl,by kernel_rfl⟩
theorem Z9N(o m c n k:Nat)(d cy b:Int)(v11 v12:Value)(h:Hp)(g:Nat→Value):ZdV(evC(Zi Tryz.prog Zf Ztb true) 100 false(Z5(toB Tryz.f136))(toF o m c n k d cy b v11 v12++tl 52 g,h,[])⟨[],[],[]⟩) 13 5 3 44 none(toF o m c n k d cy b v11 v12) [sl 3 0 n k,i6' n,i6' 0] h []:=⟨by kernel_rfl,by kernel_rfl,by kernel_rfl⟩
theorem Z1H(o m c n k:Nat)(d cy b j:Int)(v11 v12:Value)(h:Hp)(g g':Nat→Value):ZdV(evC(Zi Tryz.prog Zf Ztb true) 100 false(toL Tryz.f136)(ml(toF o m c n k d cy b v11 v12) 5 g [sl 3 0 n k,i6' n,i6' j] 44 g',h,[cmp false])⟨[],[],[]⟩) 13 5 3 44(some(some 0))(toF o m c n k d cy b v11 v12) [sl 3 0 n k,i6' n,i6' j] h [(decide(j<n),false)]:=⟨by kernel_rfl,by kernel_rfl,by kernel_rfl⟩
theorem Z7w(o m c n k:Nat)(d cy b j x y:Int)(v11 v12:Value)(la lb R Y Q:List Value)(g g':Nat→Value):ZdV(evC(Zi Tryz.prog Zf Ztb true) 100 false(toL Tryz.f136)(ml(toF o m c n k d cy b v11 v12) 5 g [sl 3 0 n k,i6' n,i6' j] 44 g',h5 la lb R Y Q,[cmp true,at_,val(uu x),at_,val(uu y),at_,at_])⟨[],[],[]⟩) 13 5 3 44 none(toF o m c n k d(toC cy x d)(ZjD y(toW cy x d) b)(i6' j)(uu x)) [sl 3 0 n k,i6' n,i6'(IntKind.i64.wrap(j+1))](h5 la lb(R.set(o+j.toNat*1)(uu(Zg6 y(toW cy x d) b))) Y Q)
  [(decide((32:Int)<0),false),(decide(o+j.toNat*1<R.length),true),inR j n,(wd4 y(toW cy x d) b,true),Zdu R o j y,inR j n,Zdu Y 0 j x,inR j n,(decide(j<n),true)]:=⟨by kernel_rfl,by kernel_rfl,by kernel_rfl⟩
theorem Z1I(e:Bool)(o m c n k:Nat)(d cy b y:Int)(v11 v12 u1 u2 u3:Value)(la lb R Y Q:List Value)(g g':Nat→Value):Zg(evC(Zi Tryz.prog Zf Ztb true) 100 false(sn 6 Tryz.f136)(ml(toF o m c n k d cy b v11 v12) 5 g [u1,u2,u3] 44 g',h5 la lb R Y Q,[at_,val(uu y),at_,at_,cmp e])⟨[],[],[]⟩) 7 58(some none) [sl 2 o m c,sl 3 0 n k,uu d,undef,undef,undef,.bool e](h5 la lb(R.set(o+((n:Int)).toNat*1)(uu(Zg6 y(IntKind.u32.wrap cy) b))) Y Q)
  [(ZjD y(IntKind.u32.wrap cy) b !=0,e),(decide(o+((n:Int)).toNat*1<R.length),true),inR n m,(wd4 y(IntKind.u32.wrap cy) b,true),Zdu R o n y,inR n m]:=by
 cases e<;>exact⟨by kernel_rfl,by kernel_rfl,by kernel_rfl⟩
end Go.Proofs.YtjlponbdflkbjaaGreatDoor.Na
namespace Go.Nt
theorem Zw4{P a b x y k br d e l A B D W:Int}(hk:k+x*d=W+4294967296*e)(hs:y-W-br=D-4294967296*l)(h:a+P*((y+4294967296*A)-d*(x+4294967296*B)-k-br)=b):a+P*D+4294967296*P*(A-d*B-e-l)=b:=by
 rw[← h]
 have e1:(y+4294967296*A)-d*(x+4294967296*B)-k-br=D+4294967296*(A-d*B-e-l):=by
  rw[Int.mul_add d x,← Int.mul_assoc d 4294967296 B,Int.mul_comm d 4294967296,Int.mul_assoc 4294967296 d B,Int.mul_comm d x]
  omega
 rw[e1]
 generalize A-d*B-e-l=Z
 rw[Int.mul_add P D,← Int.mul_assoc P 4294967296 Z,Int.mul_comm P 4294967296]
 omega
theorem Zw5{P a b x y br e A B D:Int}(hs:y+x+br=D+4294967296*e)(h:a+P*((y+4294967296*A)+(x+4294967296*B)+br)=b):a+P*D+4294967296*P*(A+B+e)=b:=by
 rw[← h]
 have e1:(y+4294967296*A)+(x+4294967296*B)+br=D+4294967296*(A+B+e):=by omega
 rw[e1]
 generalize A+B+e=Z
 rw[Int.mul_add P D,← Int.mul_assoc P 4294967296 Z,Int.mul_comm P 4294967296]
 omega
theorem ZgH{dx:List Int}{D l V:Int}(hd:wds dx)(hD:0≤D∧D<4294967296)(h:vN dx+4294967296^dx.length*(D+4294967296*l)=V):dx++[D]=dg(dx.length+1) V∧V/4294967296^(dx.length+1)=l:=by
 have hw:wds(dx++[D]):=Zai hd(fun x hx=>by rw[List.mem_singleton.1 hx];exact hD)
 have hv:vN(dx++[D])+4294967296^(dx.length+1)*l=V:=by
  rw[zu,← h,pw,Int.mul_add,← Int.mul_assoc,Int.mul_comm(4294967296^dx.length) 4294967296]
  omega
 have hl:(dx++[D]).length=dx.length+1:=by simp
 have hb:=ZaK(dx++[D]) hw
 rw[hl] at hb
 constructor
 ·rw[← hv,ZcC,← hl]
  exact(Zf9 _ hw).symm
 ·rw[← hv,Int.add_mul_ediv_left _ _(by have:=Zay(dx.length+1);omega),Int.ediv_eq_zero_of_lt hb.1 hb.2,Int.zero_add]
theorem Zw6{V Q l:Int}(hQ:0<Q)(h:V/Q=l):V<0↔l<0:=by
 subst h
 constructor
 ·intro hv
  exact Int.ediv_lt_of_lt_mul hQ(by omega)
 ·intro hl
  refine Decidable.byContradiction fun hn=> ?_
  have:=Int.ediv_nonneg(a:=V)(b:=Q)(by omega)(by omega)
  omega
end Go.Nt
namespace Go.Proofs.YtjlponbdflkbjaaGreatDoor.Na
open Go.KRun Go.Nt
set_option maxRecDepth 100000
set_option linter.unusedVariables false
theorem Zw7{k x d:Int}(hk:0≤k∧k<4294967296)(hx:0≤x∧x<4294967296)(hd:0≤d∧d<4294967296):
  (0≤toW k x d∧toW k x d<4294967296)∧(0≤toC k x d∧toC k x d<4294967296)∧k+x*d=toW k x d+4294967296*toC k x d:=by
 have hxy:=Z1a hx hd
 have e:toT k x d=k+x*d:=by
  unfold toT
  simp only[ZoE]
  rw[Int.emod_eq_of_lt hx.1(by omega),Int.emod_eq_of_lt hd.1(by omega),Int.emod_eq_of_lt hxy.1(by omega),Int.emod_eq_of_lt(by omega)(by omega)]
 unfold toW toC
 rw[e,ZgV,show((2:Int)^min(Int.toNat 32) 64)=4294967296 from by decide,Int.fdiv_eq_ediv_of_nonneg _(by omega)]
 generalize x*d=W at*
 omega
theorem ZiT{x y c:Int}(hx:0≤x∧x<4294967296)(hy:0≤y∧y<4294967296)(hc:0≤c∧c≤1):wd4 x y c=true:=by
 unfold wd4
 simp only[decide_eq_true_eq]
 omega
theorem ZhE{F G la lb Y Q:List Value}{o c k:Nat}{M LB:List Int}{d:Int}(hF:F.length=o)(hM:wds M)(RB:Row Y 0 LB)(hl:M.length=LB.length+1)(hN:M.length<1099511627776)(hd:0≤d∧d<4294967296)(hc:M.length≤c)(hs:ZB c=true)(e:Bool)(he:decide(vN M-d*vN LB<0)=e):
  Runs(Zi Tryz.prog Zf Ztb true)(za(toP Tryz.f136)(.seq(.seq(Z5(toB Tryz.f136))(.block 0(.loop(toL Tryz.f136))))(sn 6 Tryz.f136)))([sl 2 o M.length c,sl 3 0 LB.length k,uu d]++List.replicate 62 undef,h5 la lb(F++(wU M++G)) Y Q,[]) fun e' y=>(e'=none∨e'=some none)∧ZZ Tryz.prog Tryz.f136 y.1 y.2.1=some(.bool e)∧y.2.1.cut 5=h5 la lb(F++(wU(dg M.length(vN M-d*vN LB))++G)) Y Q:=by
 have hwB:=RB.rng
 have hcs:c<4611686018427387904:=Zp.1 hs
 have hT:=Zk Zvf
 refine Zx hT(Z1G o M.length c LB.length k d la lb _ Y Q)(Zj hs(Zj(by unfold ZS;exact decide_eq_true(by omega))(Zu(decide_eq_false(by omega))))) fun g=> ?_
 refine Runs.seq(P1:=fun e' y=>e'=none∧∃ (dx:List Int)(t cy b:Int)(v11 v12 u1 u2 u3:Value)(g g':Nat→Value),dx.length=LB.length∧wds dx∧(0≤t∧t<4294967296)∧(0≤cy∧cy<4294967296)∧(0≤b∧b≤1)∧y.1=ml(toF o M.length c LB.length k d cy b v11 v12) 5 g [u1,u2,u3] 44 g'∧y.2.1=h5 la lb(F++(wU(dx++t::[])++G)) Y Q∧vN dx+4294967296^dx.length*(t-cy-b)=vN M-d*vN LB) ?_ ?_(fun e y he=>by cases he.1)
 ·refine Runs.seq(P1:=fun e' y=>e'=none∧(∃ g g',y.1=ml(toF o M.length c LB.length k d 0 0 undef undef) 5 g [sl 3 0 LB.length k,i6' LB.length,i6' 0] 44 g')∧y.2.1=h5 la lb(F++(wU M++G)) Y Q)(zA hT(Z9N o M.length c LB.length k d 0 0 undef undef _ g)(fun x hx=>by cases hx)) ?_(fun e y he=>by cases he.1)
  rintro⟨t,h',s'⟩⟨_,⟨g1,g2,ht⟩,hh⟩
  simp only at ht hh
  subst ht hh
  refine(Runs.forLoop(R:=fun _=>False)(P:=fun y=>∃ (dx:List Int)(t cy b:Int)(v11 v12 u1 u2 u3:Value)(g g':Nat→Value),dx.length=LB.length∧wds dx∧(0≤t∧t<4294967296)∧(0≤cy∧cy<4294967296)∧(0≤b∧b≤1)∧y.1=ml(toF o M.length c LB.length k d cy b v11 v12) 5 g [u1,u2,u3] 44 g'∧y.2.1=h5 la lb(F++(wU(dx++t::[])++G)) Y Q∧vN dx+4294967296^dx.length*(t-cy-b)=vN M-d*vN LB)
   (fun r y=>∃ (dx px bx:List Int)(cy b:Int)(v11 v12:Value)(g g':Nat→Value),px.length=r+1∧dx.length+px.length=M.length∧wds dx∧wds px∧bx=LB.drop dx.length∧(0≤cy∧cy<4294967296)∧(0≤b∧b≤1)∧y.1=ml(toF o M.length c LB.length k d cy b v11 v12) 5 g [sl 3 0 LB.length k,i6' LB.length,i6' dx.length] 44 g'∧y.2.1=h5 la lb(F++(wU(dx++px)++G)) Y Q∧vN dx+4294967296^dx.length*(vN px-d*vN bx-cy-b)=vN M-d*vN LB)
   ?_(n:=LB.length)⟨[],M,LB,0,0,undef,undef,g1,g2,by omega,by simp,(fun x hx=>by cases hx),hM,rfl,by omega,by omega,rfl,rfl,by simp [vN]⟩).mono fun e' y he=> ?_
  ·rintro r⟨t,h',s'⟩⟨dx,px,bx,cy,b,v11,v12,g,g',hr,hlen,wd1,wd2,hb,hcy,hbb,ht,hh,hv⟩
   simp only at ht hh
   subst ht hh
   cases r with
   | zero=>
    have hl':dx.length=LB.length:=by omega
    match px,hr,wd2,hv with
    | [t],hr,wd2,hv=>
     refine(zA hT(Z1H o M.length c LB.length k d cy b dx.length v11 v12 _ g g')(Zu(decide_eq_false(by omega)))).mono fun e' y he=> ?_
     obtain⟨rfl,⟨g1,g2,e2⟩,e3⟩:=he
     have hbx:bx=[]:=by rw[hb,List.drop_eq_nil_of_le(by omega)]
     subst hbx
     refine⟨rfl,dx,t,cy,b,v11,v12,_,_,_,g1,g2,hl',wd1,wd2 t(List.mem_singleton.2 rfl),hcy,hbb,e2,e3,?_⟩
     simpa [vN] using hv
   | succ r=>
    match px,hr,hlen,wd2,hv with
    | y::px,hr,hlen,wd2,hv=>
     obtain⟨wy,wd2⟩:=Zah wd2
     have hl':dx.length<LB.length:=by simp at hlen hr;omega
     have hx:=RB.cell(k:=dx.length)(by omega)
     have hxr:=hwB(LB.getD dx.length 0)(by simp [List.getD,List.getElem?_eq_getElem hl'])
     have hbx:bx=LB.getD dx.length 0::LB.drop(dx.length+1):=by
      rw[hb,List.drop_eq_getElem_cons hl']
      simp [List.getD,List.getElem?_eq_getElem hl']
     generalize LB.getD dx.length 0=x at*
     obtain⟨k1,k2,k3⟩:=Zw7 hcy hxr hd
     obtain⟨s1,s2,s3⟩:=Zg8 wy k1 hbb
     have cS:=Zel hF dx y px G
     have lS:o+dx.length<(F++(wU(dx++y::px)++G)).length:=(List.getElem?_eq_some_iff.1 cS).1
     have l1:decide(o+((dx.length:Int)).toNat*1<(F++(wU(dx++y::px)++G)).length)=true:=by
      rw[Int.toNat_natCast,Nat.mul_one]
      exact decide_eq_true lS
     have l2:(inR dx.length LB.length).1=(inR dx.length LB.length).2:=decide_eq_true(by omega)
     refine(zA hT(Z7w o M.length c LB.length k d cy b dx.length x y v11 v12 la lb _ Y Q g g')(Zj(by decide)(Zj l1(Zj l2(Zj(ZiT wy k1 hbb)(Zj(Zax cS)(Zj l2(Zj(Zax hx)(Zj l2(Zu(decide_eq_true(by omega)))))))))))).mono fun e' z he=> ?_
     obtain⟨rfl,⟨g1,g2,e2⟩,e3⟩:=he
     refine⟨r,by omega,dx++[Zg6 y(toW cy x d) b],px,LB.drop(dx.length+1),toC cy x d,ZjD y(toW cy x d) b,i6' dx.length,uu x,g1,g2,by simp at hr;omega,by simp at hlen ⊢;omega,Zai wd1(fun u hu=>by rw[List.mem_singleton.1 hu];exact s1),wd2,by simp,k2,s2,?_,?_,?_⟩
     ·rw[e2,Zw(by omega)(by omega)]
      simp
     ·rw[e3,Int.toNat_natCast,Nat.mul_one,Zem hF]
     ·rw[hbx] at hv
      simp only[vN] at hv
      rw[zu,List.length_append,List.length_singleton,pw]
      exact Zw4 k3 s3 hv
  ·match e',he with
   | none,he=>exact⟨rfl,he⟩
   | some none,he=>exact he.elim
   | some(some _),he=>exact he.elim
 ·rintro⟨t,h',s'⟩⟨_,dx,tw,cy,b,v11,v12,u1,u2,u3,g,g',hdl,wd1,wt,hcy,hbb,ht,hh,hv⟩
  simp only at ht hh
  subst ht hh
  have ew:IntKind.u32.wrap cy=cy:=by rw[ZgV,Int.emod_eq_of_lt hcy.1 hcy.2]
  obtain⟨s1,s2,s3⟩:=Zg8 wt hcy hbb
  have cS:=Zel hF dx tw [] G
  have lS:o+dx.length<(F++(wU(dx++tw::[])++G)).length:=(List.getElem?_eq_some_iff.1 cS).1
  obtain⟨f1,f2⟩:=ZgH(l:= - ZjD tw cy b)(V:=vN M-d*vN LB) wd1 s1(by rw[← hv,s3];congr 2;omega)
  have hn:=Zw6(Zay(dx.length+1)) f2
  have g0:=Z1I e o M.length c LB.length k d cy b tw v11 v12 u1 u2 u3 la lb(F++(wU(dx++tw::[])++G)) Y Q g g'
  rw[ew,← hdl,Int.toNat_natCast,Nat.mul_one,Zem hF] at g0
  have l0:(ZjD tw cy b !=0)=e:=by
   rw[← he]
   by_cases hneg:vN M-d*vN LB<0
   ·rw[decide_eq_true hneg]
    have:=hn.1 hneg
    exact bne_iff_ne.2(by omega)
   ·rw[decide_eq_false hneg]
    have:ZjD tw cy b=0:=Decidable.byContradiction fun h0=>hneg(hn.2(by omega))
    rw[this]
    rfl
  have l2:(inR dx.length M.length).1=(inR dx.length M.length).2:=decide_eq_true(by omega)
  rw[← hdl]
  refine(Zb hT g0(Zj l0(Zj(decide_eq_true lS)(Zj l2(Zj(ZiT wt hcy hbb)(Zj(Zax cS)(Zu l2))))))).mono fun e' y he=> ?_
  obtain⟨rfl,⟨g1,e2⟩,e3⟩:=he
  refine⟨.inr rfl,?_,?_⟩
  ·rw[e2,e3];rfl
  ·rw[e3,hl,← hdl,← f1,List.append_nil];rfl
def Zeq(la lb R Y Q:List Value)(t0 t1 t2 t3 t4:TypeId)(o m c n k:Nat):Bool:=Nat.beq t0 tR && Nat.beq t1 tR && Nat.beq t2 tU && Nat.beq t3 tU && Nat.beq t4 tU && Z8 tU R o m c && Z8 tU Y 0 n k && Nat.beq m(n+1) && Nat.blt m 1099511627776 && la.all still && lb.all still && Q.all still
theorem ZfR{la lb R Y Q:List Value}{t0 t1 t2 t3 t4:TypeId}{o m c n k:Nat}(q:Zeq la lb R Y Q t0 t1 t2 t3 t4 o m c n k=true):t0=tR∧t1=tR∧t2=tU∧t3=tU∧t4=tU∧Z8 tU R o m c=true∧Z8 tU Y 0 n k=true∧m=n+1∧m<1099511627776∧la.all still=true∧lb.all still=true∧Q.all still=true:=by
 unfold Zeq at q
 simp only[Bool.and_eq_true] at q
 obtain⟨⟨⟨⟨⟨⟨⟨⟨⟨⟨⟨q0,q1⟩,q2⟩,q3⟩,q4⟩,ra⟩,rb⟩,qn⟩,qN⟩,s0⟩,s1⟩,s2⟩:=q
 exact⟨Nat.eq_of_beq_eq_true q0,Nat.eq_of_beq_eq_true q1,Nat.eq_of_beq_eq_true q2,Nat.eq_of_beq_eq_true q3,Nat.eq_of_beq_eq_true q4,ra,rb,Nat.eq_of_beq_eq_true qn,Zp.1 qN,s0,s1,s2⟩
theorem ZaF{R:List Value}{o m c:Nat}(ra:Z8 tU R o m c=true):R=R.take o++(wU(Zy R o m)++R.drop(o+m))∧(R.take o).length=o:=by
 obtain⟨a1,a2,a3,a4,a5,a6,a7⟩:=ZK ra
 constructor
 ·have h1:=a1.cut
  rw[a2] at h1
  rw[← h1]
  unfold Zb5
  rw[← List.drop_drop,List.take_append_drop,List.take_append_drop]
 ·have:=a1.len
  simp
  omega
theorem ZnD{la lb R Y Q:List Value}{o m c n k:Nat}{L:List Int}(ra:Z8 tU R o m c=true)(rb:Z8 tU Y 0 n k=true)(s0:la.all still=true)(s1:lb.all still=true)(s2:Q.all still=true):(h5 la lb(tmS R o m L) Y Q).tight=true:=by
 obtain⟨a1,a2,a3,a4,a5,a6,a7⟩:=ZK ra
 obtain⟨b1,b2,b3,b4,b5,b6,b7⟩:=ZK rb
 unfold Hp.tight tmS h5
 simp only[List.all_cons,List.all_nil,List.all_append,Bool.and_true,Bool.and_eq_true]
 refine⟨zy(by omega) s2,zy(by omega)(List.all_eq_true.2 b7),⟨?_,Zbu _ _,?_⟩,zy(by omega) s1,zy(by omega) s0⟩
 ·rw[List.all_eq_true]
  exact fun v hv=>zj(by omega)(a7 v(List.mem_of_mem_take hv))
 ·rw[List.all_eq_true]
  exact fun v hv=>zj(by omega)(a7 v(List.mem_of_mem_drop hv))
def Z7x:Zaf:=fun vals h s=>
 match vals,h,s with
 | [.slice(some⟨2,o,none⟩) m c,.slice(some⟨3,0,none⟩) n k,.int .u32 d],⟨5,[(Q,t4),(Y,t3),(R,t2),(lb,t1),(la,t0)]⟩,.inr(.inr(.inr(.inl e)))::s'=>some(.bool e,h5 la lb(tmS R o m(dg m(vN(Zy R o m)-d*vN(Zy Y 0 n)))) Y Q,s',[(Zeq la lb R Y Q t0 t1 t2 t3 t4 o m c n k && decide(0≤d∧d<4294967296),true),(decide(vN(Zy R o m)-d*vN(Zy Y 0 n)<0),e)])
 | _,_,_=>none
theorem Zw8:Z9 136 Z7x:=by
 intro vals h s v h' s' lg hg hl m B w E hv
 unfold Z7x at hg
 split at hg
 ·rename_i o mm c n k d Q t4 Y t3 R t2 lb t1 la t0 e s2
  cases hg
  have l1:=hl _ List.mem_cons_self
  have l2:=hl _(List.mem_cons_of_mem _(List.mem_singleton.2 rfl))
  simp only[Bool.and_eq_true,decide_eq_true_eq] at l1 l2
  obtain⟨l1,hd⟩:=l1
  obtain⟨q0,q1,q2,q3,q4,ra,rb,qn,qN,st0,st1,st2⟩:=ZfR l1
  subst q0 q1 q2 q3 q4
  obtain⟨a1,a2,a3,a4,a5,a6,a7⟩:=ZK ra
  obtain⟨b1,b2,b3,b4,b5,b6,b7⟩:=ZK rb
  obtain⟨eS,hF⟩:=ZaF ra
  have r:=ZhE(G:=R.drop(o+mm))(la:=la)(lb:=lb)(Q:=Q)(c:=c)(k:=k) hF a1.rng b1(by rw[a2,b2];exact qn)(by rw[a2];exact qN) hd(by rw[a2];exact a3) a4 e l2
  rw[a2,b2,← eS] at r
  exact zg(T:=Zi Tryz.prog Zf Ztb true) Tryz.func136 Zep(vals:=[sl 2 o mm c,sl 3 0 n k,uu d])(v:= .bool e)(h:=h5 la lb R Y Q)(by rfl)(ZnD ra rb st0 st1 st2) r m B w E hv
 ·cases hg
def pbP(F:Func):List Code:=[Z5(sn 0 F),Z5(sn 1 F)]
def pbB(F:Func):Code:=Z5(sn 2 F)
def pbL(F:Func):Code:=cIn(cIn(Z0(pbB F)))
def pbF(o m c n k:Nat)(b:Int)(v6 v7 u1 u2 u3:Value):List Value:=[sl 2 o m c,sl 3 0 n k,undef,undef,.bool false,uu b,v6,v7,u1,u2,u3]
def adD(x y c:Int):Int:=(x+y+c) % 4294967296
def adC(x y c:Int):Int:=(x+y+c)/4294967296
theorem Zw9:Tryz.f137.body=some(za(pbP Tryz.f137)(.seq(.seq(Z5(pbB Tryz.f137))(.block 0(.loop(pbL Tryz.f137))))(sn 3 Tryz.f137))):=by kernel_rfl
theorem Z1J(o m c n k:Nat)(h:Hp):Zg(evL(Zi Tryz.prog Zf ZsZ true) 100(pbP Tryz.f137)([sl 2 o m c,sl 3 0 n k]++List.replicate 43 undef,h,[])⟨[],[],[]⟩) 11 34 none(pbF o m c n k 0 undef undef undef undef undef) h []:=⟨by kernel_rfl,by kernel_rfl,by kernel_rfl⟩
theorem Z9O(o m c n k:Nat)(b:Int)(v6 v7 u1 u2 u3:Value)(h:Hp)(g:Nat→Value):Zg(evC(Zi Tryz.prog Zf ZsZ true) 100 false(Z5(pbB Tryz.f137))(pbF o m c n k b v6 v7 u1 u2 u3++tl 34 g,h,[])⟨[],[],[]⟩) 11 34 none(pbF o m c n k b v6 v7(sl 3 0 n k)(i6' n)(i6' 0)) h []:=⟨by kernel_rfl,by kernel_rfl,by kernel_rfl⟩
theorem Z1K(o m c n k:Nat)(b j:Int)(v6 v7:Value)(h:Hp)(g:Nat→Value):Zg(evC(Zi Tryz.prog Zf ZsZ true) 100 false(pbL Tryz.f137)(pbF o m c n k b v6 v7(sl 3 0 n k)(i6' n)(i6' j)++tl 34 g,h,[cmp false])⟨[],[],[]⟩) 11 34(some(some 0))(pbF o m c n k b v6 v7(sl 3 0 n k)(i6' n)(i6' j)) h [(decide(j<n),false)]:=⟨by kernel_rfl,by kernel_rfl,by kernel_rfl⟩
theorem Z7y(o m c n k:Nat)(b j x y:Int)(v6 v7:Value)(la lb R Y Q:List Value)(g:Nat→Value):Zg(evC(Zi Tryz.prog Zf ZsZ true) 100 false(pbL Tryz.f137)(pbF o m c n k b v6 v7(sl 3 0 n k)(i6' n)(i6' j)++tl 34 g,h5 la lb R Y Q,[cmp true,at_,val(uu x),at_,val(uu y),at_,at_])⟨[],[],[]⟩) 11 34 none(pbF o m c n k(adC y x b)(i6' j)(uu x)(sl 3 0 n k)(i6' n)(i6'(IntKind.i64.wrap(j+1))))(h5 la lb(R.set(o+j.toNat*1)(uu(adD y x b))) Y Q)
  [(decide(o+j.toNat*1<R.length),true),inR j m,(wd4 y x b,true),Zdu R o j y,inR j m,Zdu Y 0 j x,inR j n,(decide(j<n),true)]:=⟨by kernel_rfl,by kernel_rfl,by kernel_rfl⟩
theorem Z1L(e:Bool)(o m c n k:Nat)(b y:Int)(v6 v7 u1 u2 u3:Value)(la lb R Y Q:List Value)(g:Nat→Value):Zg(evC(Zi Tryz.prog Zf ZsZ true) 100 false(sn 3 Tryz.f137)(pbF o m c n k b v6 v7 u1 u2 u3++tl 34 g,h5 la lb R Y Q,[at_,val(uu y),at_,at_,cmp e])⟨[],[],[]⟩) 5 40(some none) [sl 2 o m c,sl 3 0 n k,undef,undef,.bool e](h5 la lb(R.set(o+((n:Int)).toNat*1)(uu(adD y 0 b))) Y Q)
  [(adC y 0 b !=0,e),(decide(o+((n:Int)).toNat*1<R.length),true),inR n m,(wd4 y 0 b,true),Zdu R o n y,inR n m]:=by
 cases e<;>exact⟨by kernel_rfl,by kernel_rfl,by kernel_rfl⟩
theorem ZgI{x y c:Int}(hx:0≤x∧x<4294967296)(hy:0≤y∧y<4294967296)(hc:0≤c∧c≤1):(0≤adD x y c∧adD x y c<4294967296)∧(0≤adC x y c∧adC x y c≤1)∧x+y+c=adD x y c+4294967296*adC x y c:=by
 unfold adD adC
 omega
theorem ZwA{F G la lb Y Q:List Value}{o c k:Nat}{M LB:List Int}(hF:F.length=o)(hM:wds M)(RB:Row Y 0 LB)(hl:M.length=LB.length+1)(hN:M.length<1099511627776)(e:Bool)(he:decide(4294967296^M.length≤vN M+vN LB)=e):
  Runs(Zi Tryz.prog Zf ZsZ true)(za(pbP Tryz.f137)(.seq(.seq(Z5(pbB Tryz.f137))(.block 0(.loop(pbL Tryz.f137))))(sn 3 Tryz.f137)))([sl 2 o M.length c,sl 3 0 LB.length k]++List.replicate 43 undef,h5 la lb(F++(wU M++G)) Y Q,[]) fun e' y=>(e'=none∨e'=some none)∧ZZ Tryz.prog Tryz.f137 y.1 y.2.1=some(.bool e)∧y.2.1.cut 5=h5 la lb(F++(wU(dg M.length(vN M+vN LB))++G)) Y Q:=by
 have hwB:=RB.rng
 have hT:=Zk Zvd
 refine Zx hT(Z1J o M.length c LB.length k _)(fun x hx=>by cases hx) fun g=> ?_
 refine Runs.seq(P1:=fun e' y=>e'=none∧∃ (dx:List Int)(t b:Int)(v6 v7 u1 u2 u3:Value)(g:Nat→Value),dx.length=LB.length∧wds dx∧(0≤t∧t<4294967296)∧(0≤b∧b≤1)∧y.1=pbF o M.length c LB.length k b v6 v7 u1 u2 u3++tl 34 g∧y.2.1=h5 la lb(F++(wU(dx++t::[])++G)) Y Q∧vN dx+4294967296^dx.length*(t+b)=vN M+vN LB) ?_ ?_(fun e y he=>by cases he.1)
 ·refine Runs.seq(P1:=fun e' y=>e'=none∧(∃ g,y.1=pbF o M.length c LB.length k 0 undef undef(sl 3 0 LB.length k)(i6' LB.length)(i6' 0)++tl 34 g)∧y.2.1=h5 la lb(F++(wU M++G)) Y Q)(Zb hT(Z9O o M.length c LB.length k 0 undef undef undef undef undef _ g)(fun x hx=>by cases hx)) ?_(fun e y he=>by cases he.1)
  rintro⟨t,h',s'⟩⟨_,⟨g1,ht⟩,hh⟩
  simp only at ht hh
  subst ht hh
  refine(Runs.forLoop(R:=fun _=>False)(P:=fun y=>∃ (dx:List Int)(t b:Int)(v6 v7 u1 u2 u3:Value)(g:Nat→Value),dx.length=LB.length∧wds dx∧(0≤t∧t<4294967296)∧(0≤b∧b≤1)∧y.1=pbF o M.length c LB.length k b v6 v7 u1 u2 u3++tl 34 g∧y.2.1=h5 la lb(F++(wU(dx++t::[])++G)) Y Q∧vN dx+4294967296^dx.length*(t+b)=vN M+vN LB)
   (fun r y=>∃ (dx px bx:List Int)(b:Int)(v6 v7:Value)(g:Nat→Value),px.length=r+1∧dx.length+px.length=M.length∧wds dx∧wds px∧bx=LB.drop dx.length∧(0≤b∧b≤1)∧y.1=pbF o M.length c LB.length k b v6 v7(sl 3 0 LB.length k)(i6' LB.length)(i6' dx.length)++tl 34 g∧y.2.1=h5 la lb(F++(wU(dx++px)++G)) Y Q∧vN dx+4294967296^dx.length*(vN px+vN bx+b)=vN M+vN LB)
   ?_(n:=LB.length)⟨[],M,LB,0,undef,undef,g1,by omega,by simp,(fun x hx=>by cases hx),hM,rfl,by omega,rfl,rfl,by simp [vN]⟩).mono fun e' y he=> ?_
  ·rintro r⟨t,h',s'⟩⟨dx,px,bx,b,v6,v7,g,hr,hlen,wd1,wd2,hb,hbb,ht,hh,hv⟩
   simp only at ht hh
   subst ht hh
   cases r with
   | zero=>
    have hl':dx.length=LB.length:=by omega
    match px,hr,wd2,hv with
    | [t],hr,wd2,hv=>
     refine(Zb hT(Z1K o M.length c LB.length k b dx.length v6 v7 _ g)(Zu(decide_eq_false(by omega)))).mono fun e' y he=> ?_
     obtain⟨rfl,⟨g1,e2⟩,e3⟩:=he
     have hbx:bx=[]:=by rw[hb,List.drop_eq_nil_of_le(by omega)]
     subst hbx
     refine⟨rfl,dx,t,b,v6,v7,_,_,_,g1,hl',wd1,wd2 t(List.mem_singleton.2 rfl),hbb,e2,e3,?_⟩
     simpa [vN] using hv
   | succ r=>
    match px,hr,hlen,wd2,hv with
    | y::px,hr,hlen,wd2,hv=>
     obtain⟨wy,wd2⟩:=Zah wd2
     have hl':dx.length<LB.length:=by simp at hlen hr;omega
     have hx:=RB.cell(k:=dx.length)(by omega)
     have hxr:=hwB(LB.getD dx.length 0)(by simp [List.getD,List.getElem?_eq_getElem hl'])
     have hbx:bx=LB.getD dx.length 0::LB.drop(dx.length+1):=by
      rw[hb,List.drop_eq_getElem_cons hl']
      simp [List.getD,List.getElem?_eq_getElem hl']
     generalize LB.getD dx.length 0=x at*
     obtain⟨s1,s2,s3⟩:=ZgI wy hxr hbb
     have cS:=Zel hF dx y px G
     have lS:o+dx.length<(F++(wU(dx++y::px)++G)).length:=(List.getElem?_eq_some_iff.1 cS).1
     have l1:decide(o+((dx.length:Int)).toNat*1<(F++(wU(dx++y::px)++G)).length)=true:=by
      rw[Int.toNat_natCast,Nat.mul_one]
      exact decide_eq_true lS
     have l2:(inR dx.length M.length).1=(inR dx.length M.length).2:=decide_eq_true(by omega)
     have l3:(inR dx.length LB.length).1=(inR dx.length LB.length).2:=decide_eq_true(by omega)
     refine(Zb hT(Z7y o M.length c LB.length k b dx.length x y v6 v7 la lb _ Y Q g)(Zj l1(Zj l2(Zj(ZiT wy hxr hbb)(Zj(Zax cS)(Zj l2(Zj(Zax hx)(Zj l3(Zu(decide_eq_true(by omega))))))))))).mono fun e' z he=> ?_
     obtain⟨rfl,⟨g1,e2⟩,e3⟩:=he
     refine⟨r,by omega,dx++[adD y x b],px,LB.drop(dx.length+1),adC y x b,i6' dx.length,uu x,g1,by simp at hr;omega,by simp at hlen ⊢;omega,Zai wd1(fun u hu=>by rw[List.mem_singleton.1 hu];exact s1),wd2,by simp,s2,?_,?_,?_⟩
     ·rw[e2,Zw(by omega)(by omega)]
      simp
     ·rw[e3,Int.toNat_natCast,Nat.mul_one,Zem hF]
     ·rw[hbx] at hv
      simp only[vN] at hv
      rw[zu,List.length_append,List.length_singleton,pw]
      exact Zw5 s3 hv
  ·match e',he with
   | none,he=>exact⟨rfl,he⟩
   | some none,he=>exact he.elim
   | some(some _),he=>exact he.elim
 ·rintro⟨t,h',s'⟩⟨_,dx,tw,b,v6,v7,u1,u2,u3,g,hdl,wd1,wt,hbb,ht,hh,hv⟩
  simp only at ht hh
  subst ht hh
  obtain⟨s1,s2,s3⟩:=ZgI wt(show(0:Int)≤0∧(0:Int)<4294967296 by omega) hbb
  have cS:=Zel hF dx tw [] G
  have lS:o+dx.length<(F++(wU(dx++tw::[])++G)).length:=(List.getElem?_eq_some_iff.1 cS).1
  obtain⟨f1,f2⟩:=ZgH(l:=adC tw 0 b)(V:=vN M+vN LB) wd1 s1(by rw[← hv,← s3];congr 2;omega)
  have g0:=Z1L e o M.length c LB.length k b tw v6 v7 u1 u2 u3 la lb(F++(wU(dx++tw::[])++G)) Y Q g
  rw[← hdl,Int.toNat_natCast,Nat.mul_one,Zem hF] at g0
  have l0:(adC tw 0 b !=0)=e:=by
   rw[← he,hl,← hdl,← f2]
   have hp:=Zay(dx.length+1)
   by_cases hbig:4294967296^(dx.length+1)≤vN M+vN LB
   ·rw[decide_eq_true hbig]
    have:(1:Int)≤(vN M+vN LB)/4294967296^(dx.length+1):=(Int.le_ediv_iff_mul_le hp).2(by omega)
    exact bne_iff_ne.2(by omega)
   ·rw[decide_eq_false hbig]
    have h1:=ZaK M hM
    have h2:=ZaK LB hwB
    rw[Int.ediv_eq_zero_of_lt(by omega)(by omega)]
    rfl
  have l2:(inR dx.length M.length).1=(inR dx.length M.length).2:=decide_eq_true(by omega)
  rw[← hdl]
  refine(Zb hT g0(Zj l0(Zj(decide_eq_true lS)(Zj l2(Zj(ZiT wt(by omega) hbb)(Zj(Zax cS)(Zu l2))))))).mono fun e' y he=> ?_
  obtain⟨rfl,⟨g1,e2⟩,e3⟩:=he
  refine⟨.inr rfl,?_,?_⟩
  ·rw[e2,e3];rfl
  ·rw[e3,hl,← hdl,← f1,List.append_nil];rfl
def Z7z:Zaf:=fun vals h s=>
 match vals,h,s with
 | [.slice(some⟨2,o,none⟩) m c,.slice(some⟨3,0,none⟩) n k],⟨5,[(Q,t4),(Y,t3),(R,t2),(lb,t1),(la,t0)]⟩,.inr(.inr(.inr(.inl e)))::s'=>some(.bool e,h5 la lb(tmS R o m(dg m(vN(Zy R o m)+vN(Zy Y 0 n)))) Y Q,s',[(Zeq la lb R Y Q t0 t1 t2 t3 t4 o m c n k,true),(decide(4294967296^m≤vN(Zy R o m)+vN(Zy Y 0 n)),e)])
 | _,_,_=>none
theorem ZwB:Z9 137 Z7z:=by
 intro vals h s v h' s' lg hg hl m B w E hv
 unfold Z7z at hg
 split at hg
 ·rename_i o mm c n k Q t4 Y t3 R t2 lb t1 la t0 e s2
  cases hg
  have l1:=hl _ List.mem_cons_self
  have l2:=hl _(List.mem_cons_of_mem _(List.mem_singleton.2 rfl))
  simp only at l1 l2
  obtain⟨q0,q1,q2,q3,q4,ra,rb,qn,qN,st0,st1,st2⟩:=ZfR l1
  subst q0 q1 q2 q3 q4
  obtain⟨a1,a2,a3,a4,a5,a6,a7⟩:=ZK ra
  obtain⟨b1,b2,b3,b4,b5,b6,b7⟩:=ZK rb
  obtain⟨eS,hF⟩:=ZaF ra
  have r:=ZwA(G:=R.drop(o+mm))(la:=la)(lb:=lb)(Q:=Q)(c:=c)(k:=k) hF a1.rng b1(by rw[a2,b2];exact qn)(by rw[a2];exact qN) e(by rw[a2];exact l2)
  rw[a2,b2,← eS] at r
  exact zg(T:=Zi Tryz.prog Zf ZsZ true) Tryz.func137 Zw9(vals:=[sl 2 o mm c,sl 3 0 n k])(v:= .bool e)(h:=h5 la lb R Y Q)(by rfl)(ZnD ra rb st0 st1 st2) r m B w E hv
 ·cases hg
end Go.Proofs.YtjlponbdflkbjaaGreatDoor.Na
namespace Go.Nt
theorem Zrs{M L:List Int}(hM:wds M)(hL:wds L){n:Nat}(hm:M.length=n+1)(hl:L.length=n)(hn:0<n)(hb:0<L.getD(n-1) 0):vN M/vN L≤(M.getD n 0*4294967296+M.getD(n-1) 0)/L.getD(n-1) 0:=by
 have hP:=Zay(n-1)
 have eM:M=(M.take(n-1)++[M.getD(n-1) 0])++[M.getD n 0]:=by
  have h1:=Zaz(L:=M)(k:=n)(by omega)
  have h2:=Zaz(L:=M)(k:=n-1)(by omega)
  rw[show n-1+1=n by omega] at h2
  rw[← h2,← h1,← hm,List.take_length]
 have eL:L=L.take(n-1)++[L.getD(n-1) 0]:=by
  have h2:=Zaz(L:=L)(k:=n-1)(by omega)
  rw[← h2,show n-1+1=L.length by omega,List.take_length]
 have vM:vN M=vN(M.take(n-1))+4294967296^(n-1)*(M.getD n 0*4294967296+M.getD(n-1) 0):=by
  have:vN M=vN((M.take(n-1)++[M.getD(n-1) 0])++[M.getD n 0]):=by rw[← eM]
  rw[this,zu,zu,List.length_append,List.length_take,Nat.min_eq_left(by omega),List.length_singleton,pw,Int.mul_add,Int.mul_comm(M.getD n 0) 4294967296,← Int.mul_assoc,Int.mul_comm(4294967296^(n-1)) 4294967296]
  omega
 have vL:vN L=vN(L.take(n-1))+4294967296^(n-1)*L.getD(n-1) 0:=by
  have:vN L=vN(L.take(n-1)++[L.getD(n-1) 0]):=by rw[← eL]
  rw[this,zu,List.length_take,Nat.min_eq_left(by omega)]
 have bM:=ZaK(M.take(n-1))(Zc9 hM _)
 have bL:=ZaK(L.take(n-1))(Zc9 hL _)
 rw[List.length_take,Nat.min_eq_left(by omega)] at bM bL
 generalize M.getD n 0*4294967296+M.getD(n-1) 0=T at*
 generalize L.getD(n-1) 0=b at*
 generalize(4294967296:Int)^(n-1)=P at*
 have hPb:0<P*b:=Int.mul_pos hP hb
 have hq:=Int.mul_ediv_self_le(x:=vN M)(k:=vN L)(by omega)
 have hq0:0≤vN M/vN L:=by
  by_cases h0:0≤vN M
  ·exact Int.ediv_nonneg h0(by omega)
  ·have:=(ZaK M hM).1
   omega
 generalize hqd:vN M/vN L=q at*
 refine(Int.le_ediv_iff_mul_le hb).2 ?_
 have h1:P*b*q≤vN L*q:=Int.mul_le_mul_of_nonneg_right(by omega) hq0
 have h2:P*b*q<P*(T+1):=by
  rw[Int.mul_add]
  omega
 rw[Int.mul_assoc] at h2
 have h3:=Int.lt_of_mul_lt_mul_left h2(by omega)
 rw[Int.mul_comm q b]
 omega
theorem ZiU{h l b:Int}(hh:0≤h)(hl:0≤l∧l<4294967296)(hb:h<b):0≤(h*4294967296+l)/b∧(h*4294967296+l)/b<4294967296:=
 ⟨Int.ediv_nonneg(by omega)(by omega),Int.ediv_lt_of_lt_mul(by omega)(by omega)⟩
theorem ZiV{M B:Int}(hB:0<B)(h0:0≤M)(h:M<4294967296*B):0≤M/B∧M/B≤4294967295:=by
 have h1:=Int.ediv_lt_of_lt_mul hB h
 exact⟨Int.ediv_nonneg h0(by omega),by omega⟩
theorem ZwC{M B d:Int}(hB:0<B)(h1:0≤M-d*B)(h2:M/B≤d):d=M/B∧M-d*B=M % B:=by
 have h3:d≤M/B:=(Int.le_ediv_iff_mul_le hB).2(by omega)
 have e:d=M/B:=by omega
 refine⟨e,?_⟩
 have:=Int.emod_add_mul_ediv M B
 rw[e,Int.mul_comm(M/B) B]
 omega
theorem ZnE{M B d:Int}(hB:0<B)(h:M-d*B<0):M/B<d:=Int.ediv_lt_of_lt_mul hB(by omega)
theorem Z1M{m:Nat}{V:Int}(h0:V<0)(h1: -(4294967296^m)≤V):vN(dg m V)=V+4294967296^m:=by
 have:=ZcC m V 1
 rw[Int.mul_one] at this
 rw[← this]
 exact ZjU m _(by omega)(by omega)
end Go.Nt
