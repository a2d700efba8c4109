/-
  ConVH, ConVU, SlM, ConO1, NumTo, ConO2, ConO3, NumDg, NumU
-/
import Derived.Test.YtjlponbdflkbjaaGreatDoorG12
import Derived.Test.YtjlponbdflkbjaaGreatDoorG10
import Derived.Test.YtjlponbdflkbjaaGreatDoorG06
import Derived.Test.YtjlponbdflkbjaaGreatDoorG09
import GoSem.Core.Sem
namespace Go.Proofs.YtjlponbdflkbjaaGreatDoor
open Go.Proofs.Tryz
open Go.IntKind
open Go.KRun Go.Nt
set_option maxRecDepth 100000
set_option linter.unusedVariables false
theorem Runs.next {T:Tab}{c1 c2:Code}{x:Lf}{front:List Value}{n:Nat}{h:Hp}{P:Ex→Lf→Prop}(h1:Runs T c1 x fun e y=>e=none∧(∃ g,y.1=front++tl n g)∧y.2.1=h) (h2:∀ g s,Runs T c2 (front++tl n g,h,s) P):Runs T (.seq c1 c2) x P:=by
 refine Runs.seq h1 (fun y hy=> ?_) (fun e y hy=>by cases hy.1);obtain⟨_,⟨g,e1⟩,e2⟩:=hy;obtain⟨t,hh,s⟩:=y;simp only at e1 e2;subst e1 e2;exact h2 g s
theorem Zm6 (O:List Int) (j:Nat) (v:Int):(wU O).set j (.int .u32 v)=wU (O.set j v):=by unfold wU;rw[List.map_set]
theorem Zcn {n:Int}(h0:0≤n) (h1:n<18446744073709551616):u64.wrap n=n:=by simp [IntKind.wrap,IntKind.bits,IntKind.signed];omega
theorem Zvk {O:List Int}{j:Nat}(h:j<O.length):(wU O)[0+j*1]? =some (.int .u32 (O.getD j 0)):=by
 rw[Nat.zero_add,Nat.mul_one];unfold wU;rw[List.getElem?_map,List.getElem?_eq_getElem h];simp [List.getD,List.getElem?_eq_getElem h]
theorem Zm7 {n:Nat}(h:n<1000000):ZA n=true:=by
 unfold ZA;exact Zo.2 (by have:za=4611686018427387904:=rfl;omega)
theorem Zm8 {x:Int}(h:Dg 65536 x):∃ p:Nat,x=(p:Int)∧p<65536:=⟨x.toNat,by have:=h.1;omega,by have:=h.1;have:=h.2;omega⟩
section
variable {la lb : List Value} {o c o' c' : Nat} {A B : List Int}
def mSt (o n c o' n' c' z:Nat) (la lb:List Value) (O:List Int) (i:Nat) (v7 v8:Value) (Y:Lf):Prop:=(∃ g,Y.1=mFr o n c o' n' c' z (.int .i64 ((i:Nat):Int)) v7 v8++tl 59 g)∧Y.2.1=hM3 (wU O) lb la
def mOk (z i n':Nat) (O:List Int):Prop:=O.length=z∧(∀ x∈O,Dg 65536 x)∧∀ j,i+n'≤j→O.getD j 0=0
def mIn (o c o' c':Nat) (la lb:List Value) (A B:List Int) (i V:Nat) (m:Nat) (Y:Lf):Prop:=
 ∃ k O c7,m=B.length-k∧k≤B.length∧mOk (A.length+B.length) i B.length O∧c7<65536∧vb 65536 O+c7*65536^(i+k)=V+(A.getD i 0).toNat*vb 65536 (B.take k)*65536^i∧mSt o A.length c o' B.length c' (A.length+B.length) la lb O i (.int .u64 ((c7:Nat):Int)) (.int .i64 ((k:Nat):Int)) Y
def mFi (o c o' c':Nat) (la lb:List Value) (A B:List Int) (i V:Nat) (Y:Lf):Prop:=
 ∃ O c7 v8,mOk (A.length+B.length) i B.length O∧c7<65536∧vb 65536 O+c7*65536^(i+B.length)=V+(A.getD i 0).toNat*vb 65536 B*65536^i∧mSt o A.length c o' B.length c' (A.length+B.length) la lb O i (.int .u64 ((c7:Nat):Int)) v8 Y
theorem Zvl {z i n':Nat}{O:List Int}(h:mOk z i n' O) {j:Nat}(hj:j<i+n') {v:Int}(hv:∀ x∈O.set j v,Dg 65536 x):mOk z i n' (O.set j v):=by
 refine⟨by rw[List.length_set];exact h.1,hv,fun t ht=> ?_⟩;have:=h.2.2 t ht;simp only[List.getD] at*;rw[List.getElem?_set_ne (by omega)];exact this
theorem ZjT (rA:Row la o A) (rB:Row lb o' B) (dA:∀ x∈A,Dg 65536 x) (dB:∀ x∈B,Dg 65536 x) (hz:A.length+B.length<1000000) {i V:Nat}(hi:i<A.length) {Y0:Lf}(h0:mIn o c o' c' la lb A B i V B.length Y0):
  Runs (Zr prog Zf Zn hcV) (.block 2 (.loop (muL f52))) Y0 fun e Y=>match e with | none=>mFi o c o' c' la lb A B i V Y | some none=>False | some (some _)=>False:=by
 refine Runs.forLoop (P:=mFi o c o' c' la lb A B i V) (R:=fun _=>False) (mIn o c o' c' la lb A B i V) ?_ (n:=B.length) h0;rintro m ⟨t,h',s⟩ ⟨k,O,c7,hm,hk,hO,hc,hval,⟨g,ht⟩,hh⟩;simp only at ht hh;subst ht hh;by_cases hlt:k<B.length
 ·have hj:i+k<O.length:=by rw[hO.1];omega
  obtain⟨p,ep,hp⟩:=Zm8 (Zed dA i);obtain⟨q,eq,hq⟩:=Zm8 (Zed dB k);obtain⟨d,ed,hd⟩:=Zm8 (Zed hO.2.1 (i+k));have eij:ijM i k=((i+k:Nat):Int):=by unfold ijM;rw[Zw (by omega) (by omega)];omega
  have hpq:p*q≤65535*65535:=Nat.mul_le_mul (by omega) (by omega);have epq:(p:Int)*(q:Int)=((p*q:Nat):Int):=by simp
  have eT:tM c7 d p q=((c7+d+p*q:Nat):Int):=by
   unfold tM;rw[Zcn (n:=(d:Int)) (by omega) (by omega),Zcn (n:=(p:Int)) (by omega) (by omega),Zcn (n:=(q:Int)) (by omega) (by omega),epq,Zcn (n:=((p*q:Nat):Int)) (by omega) (by omega),Zcn (n:=(c7:Int)+(d:Int)) (by omega) (by omega),Zcn (by omega) (by omega)];omega
  have e1:u64.wrap ((tM c7 d p q).tdiv 65536)=(((c7+d+p*q)/65536:Nat):Int):=by
   rw[eT,Int.tdiv_eq_ediv_of_nonneg (by omega),Zcn (by omega) (by omega)];omega
  have e2:u32.wrap ((tM c7 d p q).tmod 65536)=(((c7+d+p*q) % 65536:Nat):Int):=by
   rw[eT,Int.tmod_eq_emod_of_nonneg (by omega),zk (by omega) (by omega)];omega
  have e3:i64.wrap ((k:Int)+1)=((k+1:Nat):Int):=by rw[Zw (by omega) (by omega)];omega
  have hstep:=Zq0 hj hO.2.1 hc hp hq;rw[ed,tN] at hstep;obtain⟨s1,s2,s3⟩:=hstep;have hw:=Z5Q o A.length c o' B.length c' (A.length+B.length) i c7 k d p q uZ uZ (wU O) lb la g;have lg:Z3 [stM (wU O) (ijM i k),inM (ijM i k) (A.length+B.length),d65,ceM lb o' k q,inM k B.length,ceM la o i p,inM i A.length,ceM (wU O) 0 (ijM i k) d,inM (ijM i k) (A.length+B.length),(decide ((k:Int)<((B.length:Nat):Int)),true)]:=by
   have g1:decide (0+(ijM i k).toNat*1<(wU O).length)=true:=dT (by rw[eij,tN,Zah];omega);have g2:decide (0≤ijM i k∧ijM i k<((A.length+B.length:Nat):Int))=true:=dT (by rw[eij];omega);have g3:Z5 (lb[o'+(k:Int).toNat*1]?) (.int .u32 q)=true:=by rw[tN,Nat.mul_one,rB.cell hlt,eq];simp [Z5]
   have g4:decide (0≤(k:Int)∧(k:Int)<((B.length:Nat):Int))=true:=dT (by omega);have g5:Z5 (la[o+(i:Int).toNat*1]?) (.int .u32 p)=true:=by rw[tN,Nat.mul_one,rA.cell hi,ep];simp [Z5]
   have g6:decide (0≤(i:Int)∧(i:Int)<((A.length:Nat):Int))=true:=dT (by omega);have g7:Z5 ((wU O)[0+(ijM i k).toNat*1]?) (.int .u32 d)=true:=by rw[eij,tN,Zvk hj,ed];simp [Z5]
   exact Zi g1 (Zi g2 (Zi rfl (Zi g3 (Zi g4 (Zi g5 (Zi g6 (Zi g7 (Zi g2 (Zt (dT (by omega)))))))))))
  rw[e1,e2,e3,eij,tN,Nat.zero_add,Nat.mul_one,Zm6] at hw;refine (Zb (Zh Zd Zu) hw (by rw[← tN (i+k),← eij] at*;exact lg)).mono fun e z hz=> ?_;obtain⟨rfl,z1,z2⟩:=hz;refine⟨B.length-(k+1),by omega,k+1,O.set (i+k) (((c7+d+p*q) % 65536:Nat):Int),(c7+d+p*q)/65536,rfl,by omega,Zvl hO (by omega) s3,s2,?_,z1,z2⟩;rw[Zag,Nat.mul_add,Nat.add_mul,eq,tN,ep,tN];rw[ep,tN] at hval;have x1:p*(65536^k*q)*65536^i=p*q*65536^(i+k):=by rw[Nat.pow_add,Nat.mul_comm (65536^k) q,← Nat.mul_assoc,Nat.mul_assoc (p*q),Nat.mul_comm (65536^k)]
  rw[x1];have x2:i+(k+1)=i+k+1:=by omega
  rw[x2];omega
 ·have hkl:k=B.length:=by omega
  subst hkl;refine (Zb (Zh Zd Zu) (Z0D o A.length c o' B.length c' (A.length+B.length) i c7 ((B.length:Nat):Int) 0 0 0 uZ uZ (wU O) lb la g) (Zt (dF (by omega)))).mono fun e z hz=> ?_;obtain⟨rfl,z1,z2⟩:=hz;rw[List.take_length] at hval;exact⟨rfl,O,c7,_,hO,hc,hval,z1,z2⟩
theorem Z9j {T:Tab}{c:Code}{id:Nat}{x:Lf}{P:Lf→Prop}(h:Runs T c x fun e y=>e=none∧P y):Runs T (.block id c) x fun e y=>e=none∧P y:=
 Runs.block h (fun y hy=>hy) (fun y hy=>by cases hy.1) (fun y hy=>by cases hy.1) (fun id' y _ hy=>by cases hy.1)
def mOu (o c o' c':Nat) (la lb:List Value) (A B:List Int) (i:Nat) (Y:Lf):Prop:=
 ∃ O v7 v8,mOk (A.length+B.length) i B.length O∧vb 65536 O=vb 65536 (A.take i)*vb 65536 B∧mSt o A.length c o' B.length c' (A.length+B.length) la lb O i v7 v8 Y
theorem ZjU (rA:Row la o A) (rB:Row lb o' B) (dA:∀ x∈A,Dg 65536 x) (dB:∀ x∈B,Dg 65536 x) (hz:A.length+B.length<1000000) {i:Nat}(hi:i<A.length) {Y0:Lf}(h0:mOu o c o' c' la lb A B i Y0):
  Runs (Zr prog Zf Zn hcV) (muO f52) Y0 fun e Y=>e=none∧mOu o c o' c' la lb A B (i+1) Y:=by
 obtain⟨O,v7,v8,hO,hval,⟨g,ht⟩,hh⟩:=h0;obtain⟨t,h',s⟩:=Y0;simp only at ht hh;subst ht hh;have hT:=Zh Zd Zu;rw[Zi1];refine Runs.next (Zb hT (Z5M o A.length c o' B.length c' (A.length+B.length) i 0 0 0 0 0 v7 v8 (wU O) lb la g) (Zt (dT (by omega)))) fun g s=> ?_;refine Runs.seq (P1:=fun e Y=>e=none∧∃ O v7 v8,mOk (A.length+B.length) (i+1) B.length O∧vb 65536 O=vb 65536 (A.take (i+1))*vb 65536 B∧mSt o A.length c o' B.length c' (A.length+B.length) la lb O i v7 v8 Y) (Z9j ?_) ?_ (fun e y hy=>by cases hy.1)
 ·rw[Zq1];refine Runs.next (Zb hT (Z5O o A.length c o' B.length c' (A.length+B.length) i 0 0 0 0 0 v7 v8 (wU O) lb la g) (fun _ h=>by cases h)) fun g s=> ?_;refine Runs.seq (P1:=fun e Y=>e=none∧mFi o c o' c' la lb A B i (vb 65536 O) Y) ?_ ?_ (fun e y hy=>by cases hy.1)
  ·refine Runs.next (Zb hT (Z5P o A.length c o' B.length c' (A.length+B.length) i 0 0 0 0 0 (.int .u64 0) v8 (wU O) lb la g) (fun _ h=>by cases h)) fun g s=> ?_;refine (ZjT rA rB dA dB hz hi (V:=vb 65536 O) ⟨0,O,0,by omega,by omega,hO,by omega,?_,⟨g,rfl⟩,rfl⟩).mono fun e Y hY=> ?_
   ·simp [vb]
   ·match e,hY with
    | none,hY=>exact⟨rfl,hY⟩
    | some none,hY=>exact hY.elim
    | some (some _),hY=>exact hY.elim
  ·rintro⟨t,h',s⟩ ⟨_,O',c7,w8,hO',hc7,hv',⟨g,ht⟩,hh⟩;simp only at ht hh;subst ht hh;have hj:i+B.length<O'.length:=by rw[hO'.1];omega
   have eij:ijM i ((B.length:Nat):Int)=((i+B.length:Nat):Int):=by unfold ijM;rw[Zw (by omega) (by omega)];omega
   have e1:u32.wrap ((c7:Nat):Int)=((c7:Nat):Int):=zk (by omega) (by omega);have hw:=Z0E o A.length c o' B.length c' (A.length+B.length) i c7 0 0 0 0 uZ w8 (wU O') lb la g;have g1:decide (0+(ijM i ((B.length:Nat):Int)).toNat*1<(wU O').length)=true:=dT (by rw[eij,tN,Zah];omega);have g2:decide (0≤ijM i ((B.length:Nat):Int)∧ijM i ((B.length:Nat):Int)<((A.length+B.length:Nat):Int))=true:=dT (by rw[eij];omega);have r:=Zb (s0:=s) hT hw (Zi g1 (Zt g2));rw[e1,eij,tN,Nat.zero_add,Nat.mul_one,Zm6] at r;refine r.mono fun e z hz=> ?_;obtain⟨rfl,z1,z2⟩:=hz;have hdg:∀ x∈O'.set (i+B.length) ((c7:Nat):Int),Dg 65536 x:=Zm5 hO'.2.1 ⟨by omega,by omega⟩ _;refine⟨rfl,O'.set (i+B.length) ((c7:Nat):Int),_,_,⟨by rw[List.length_set];exact hO'.1,hdg,fun j hj'=> ?_⟩,?_,z1,z2⟩
   ·have:=hO'.2.2 j (by omega);simp only[List.getD] at*;rw[List.getElem?_set_ne (by omega)];exact this
   ·have hs:=Zm4 (b:=65536) hj ((c7:Nat):Int);rw[hO'.2.2 (i+B.length) (Nat.le_refl _),tN] at hs;rw[Zag,Nat.add_mul,← hval];have x1:65536^i*(A.getD i 0).toNat*vb 65536 B=(A.getD i 0).toNat*vb 65536 B*65536^i:=by rw[Nat.mul_assoc,Nat.mul_comm]
    rw[x1];have x2:c7*65536^(i+B.length)=65536^(i+B.length)*c7:=Nat.mul_comm _ _;have x3:(65536:Nat)^(i+B.length)*(0:Int).toNat=0:=by simp
    omega
 ·rintro⟨t,h',s⟩ ⟨_,O',w7,w8,hO',hv',⟨g,ht⟩,hh⟩;simp only at ht hh;subst ht hh;have e3:i64.wrap ((i:Int)+1)=((i+1:Nat):Int):=by rw[Zw (by omega) (by omega)];omega
  have hw:=Z5R o A.length c o' B.length c' (A.length+B.length) i 0 0 0 0 0 w7 w8 (wU O') lb la g;rw[e3] at hw;refine (Zb hT hw (fun _ h=>by cases h)).mono fun e z hz=> ?_;obtain⟨rfl,z1,z2⟩:=hz;exact⟨rfl,O',w7,w8,hO',hv',z1,z2⟩
theorem Zm9 (rA:Row la o A) (rB:Row lb o' B) (dA:∀ x∈A,Dg 65536 x) (dB:∀ x∈B,Dg 65536 x) (hz:A.length+B.length<1000000) {Y0:Lf}(h0:mOu o c o' c' la lb A B 0 Y0):
  Runs (Zr prog Zf Zn hcV) (.block 0 (.loop (muO f52))) Y0 fun e Y=>match e with | none=>mOu o c o' c' la lb A B A.length Y | some none=>False | some (some _)=>False:=by
 refine Runs.forLoop (P:=mOu o c o' c' la lb A B A.length) (R:=fun _=>False) (fun m Y=>∃ i,m=A.length-i∧i≤A.length∧mOu o c o' c' la lb A B i Y) ?_ (n:=A.length) ⟨0,by omega,by omega,h0⟩;rintro m Y ⟨i,hm,hi,hY⟩;by_cases hlt:i<A.length
 ·refine (ZjU rA rB dA dB hz hlt hY).mono fun e z hz'=> ?_;obtain⟨rfl,z1⟩:=hz';exact⟨A.length-(i+1),by omega,i+1,rfl,by omega,z1⟩
 ·have hil:i=A.length:=by omega
  subst hil;obtain⟨O,v7,v8,hO,hval,⟨g,ht⟩,hh⟩:=hY;obtain⟨t,h',s⟩:=Y;simp only at ht hh;subst ht hh;rw[Zi1];refine Runs.seq (Zb (Zh Zd Zu) (Z5N o A.length c o' B.length c' (A.length+B.length) ((A.length:Nat):Int) 0 0 0 0 0 v7 v8 (wU O) lb la g) (Zt (dF (by omega)))) (fun y hy=>by cases hy.1) (fun e y hy=> ?_);obtain⟨e1,z1,z2⟩:=hy;cases e1;exact⟨rfl,O,v7,v8,hO,hval,z1,z2⟩
theorem ZmA (rA:Row la o A) (rB:Row lb o' B) (dA:∀ x∈A,Dg 65536 x) (dB:∀ x∈B,Dg 65536 x) (hz:A.length+B.length<1000000):
  Runs (Zr prog Zf Zn hcV) (ZW (ZyU f52) (.seq (.seq (Z2 (muB f52)) (.block 0 (.loop (muO f52)))) (muE f52))) ([sl 0 o A.length c,sl 1 o' B.length c']++List.replicate 66 uZ,h2 la lb,[]) fun e z=>(e=none∨e=some none)∧ZV prog f52 z.1 z.2.1=some (sl 2 0 (d16 (vb 65536 A*vb 65536 B)).length (d16 (vb 65536 A*vb 65536 B)).length)∧∃ r,z.2.1.blk? 2=some (wU (d16 (vb 65536 A*vb 65536 B))++r,tU):=by
 have hT:=Zh Zd Zu;have ez:zM A.length B.length=((A.length+B.length:Nat):Int):=by unfold zM;rw[Zw (by omega) (by omega)];omega
 have hp:=Z0B o A.length c o' B.length c' la lb;have mk:ZI 4 (zM A.length B.length) (zM A.length B.length)=true:=by unfold ZI;rw[ez];exact dT (by omega)
 refine Zv hT hp (Zt mk) fun g=> ?_;rw[ez,tN];have ew:List.replicate (A.length+B.length) (Value.int .u32 0)=wU (List.replicate (A.length+B.length) 0):=by unfold wU;rw[List.map_replicate]
 rw[ew];have hrep:mOk (A.length+B.length) 0 B.length (List.replicate (A.length+B.length) (0:Int)):=by
  refine⟨by simp,fun x hx=> ?_,fun j _=> ?_⟩
  ·rw[List.eq_of_mem_replicate hx];exact⟨by omega,by omega⟩
  ·simp only[List.getD,List.getElem?_replicate];split<;>rfl
 have hv0:∀ n:Nat,vb 65536 (List.replicate n (0:Int))=0:=fun n=>by
  induction n with
  | zero=>rfl
  | succ n ih=>rw[List.replicate_succ];simp only[vb,ih];rfl
 refine Runs.seq (P1:=fun e Y=>e=none∧mOu o c o' c' la lb A B A.length Y) ?_ ?_ (fun e y hy=>by cases hy.1)
 ·refine Runs.next (Zb hT (Z0C (sl 0 o A.length c) (sl 1 o' B.length c') (sl 2 0 (A.length+B.length) (A.length+B.length)) _ g) (fun _ h=>by cases h)) fun g s=> ?_;refine (Zm9 rA rB dA dB hz ⟨List.replicate (A.length+B.length) 0,_,_,hrep,by rw[hv0];simp [vb],⟨g,rfl⟩,rfl⟩).mono fun e Y hY=> ?_
  match e,hY with
  | none,hY=>exact⟨rfl,hY⟩
  | some none,hY=>exact hY.elim
  | some (some _),hY=>exact hY.elim
 ·rintro⟨t,h',s⟩ ⟨_,O,v7,v8,hO,hval,⟨g,ht⟩,hh⟩;simp only at ht hh;subst ht hh;rw[List.take_length] at hval;have hl:=hO.1;have hrow:Zbm tU (wU O) 0 (A.length+B.length) (A.length+B.length)=true:=by
   have:=Zap (L:=O) (fun x hx=>⟨(hO.2.1 x hx).1,by have:=(hO.2.1 x hx).2;omega⟩) (by rw[hl];omega) (c:=A.length+B.length) (by rw[hl];unfold ZcZ;simp;exact .inl (Zm7 (by omega)));rw[hl] at this;exact this
  have ec:Zx (wU O) 0 (A.length+B.length)=O:=by
   have:=ZaO O;rw[hl] at this;exact this
  have et:Zl O=(d16 (vb 65536 A*vb 65536 B)).length:=by
   rw[Zat (by omega) hO.2.1,hval];rfl
  refine (Zb hT (Z0F o A.length c o' B.length c' (A.length+B.length) ((A.length:Nat):Int) 0 0 0 0 0 v7 v8 (wU O) lb la g) (Zt hrow)).mono fun e z hz'=> ?_;obtain⟨rfl,⟨g',e1⟩,e2⟩:=hz';refine⟨.inr rfl,?_,?_⟩
  ·rw[e1,e2,ec,et];rfl
  ·rw[e2];refine⟨wU (O.drop (Zl O)),?_⟩;have e3:wU (d16 (vb 65536 A*vb 65536 B))++wU (O.drop (Zl O))=wU O:=by
    unfold d16;rw[← hval,← zj (by omega) _ hO.2.1,← ZX,List.take_append_drop]
   rw[e3];rfl
end
def ZsX (h:Hp) (p q:Option Addr) (n c n' c':Nat):Bool:=zJ h p n c && dgB (Zq h p n) && (zJ h q n' c' && dgB (Zq h q n')) && Nat.blt (n+n') 1000000
def Z0G:Zad:=fun vals h s=>
 match vals with
 | [.slice (some ⟨b,o,none⟩) n c,.slice (some ⟨b',o',none⟩) n' c']=>Zde (vO h (some ⟨b,o,none⟩) n*vO h (some ⟨b',o',none⟩) n') h s [(ZsX h (some ⟨b,o,none⟩) (some ⟨b',o',none⟩) n c n' c',true)]
 | _=>none
theorem Zq2:Z8 52 Z0G:=by
 intro vals h s v h' s' lg hg hl m B w E0 hv;unfold Z0G at hg;split at hg
 ·rename_i b o n c b' o' n' c';unfold Zde at hg;cases hg;have l3:=hl _ mS;simp only[ZsX,Bool.and_eq_true] at l3;obtain⟨⟨⟨q1,q2⟩,⟨p1,p2⟩⟩,q4⟩:=l3;have q2:=Zbw q2;have p2:=Zbw p2;have q4:=Zo.1 q4;rcases ZF q1 with ⟨h0,_⟩ | ⟨b1,o1,x,hp,hx,r1,rs,e0⟩
  ·cases h0
  ·cases hp;rcases ZF p1 with ⟨h0,_⟩ | ⟨b2,o2,y,hp',hy,t1,ts,f0⟩
   ·cases h0
   ·cases hp';rw[e0] at q2;rw[f0] at p2;obtain⟨h1,h2',h3,h4,h5,h6,h7⟩:=zt r1;obtain⟨k1,k2,k3,k4,k5,k6,k7⟩:=zt t1;have ev:vO h (some ⟨b,o,none⟩) n=vb 65536 (Zx x.1 o n):=by unfold vO;rw[e0]
    have ev':vO h (some ⟨b',o',none⟩) n'=vb 65536 (Zx y.1 o' n'):=by unfold vO;rw[f0]
    have r:=ZmA (c:=c) (c':=c') h1 k1 q2 p2 (by rw[h2',k2];exact q4);rw[h2',k2,← ev,← ev'] at r;have evals:List.map (rn (ZeQ b b')) [sl 0 o n c,sl 1 o' n' c']=[.slice (some ⟨b,o,none⟩) n c,.slice (some ⟨b',o',none⟩) n' c']:=by
     simp [rn,rn2,rn1,sl,ZeQ]
    have fin:=ZE (T:=Zr prog Zf Zn hcV) func52 Zgy (Zhe h7 k7) (vals:=[sl 0 o n c,sl 1 o' n' c']) (fun v hv=>by
     simp only[List.mem_cons,List.not_mem_nil,or_false] at hv;rcases hv with h1 | h1<;>rw[h1]<;>rfl) (k:=2) (cs:=wU (d16 (vO h (some ⟨b,o,none⟩) n*vO h (some ⟨b',o',none⟩) n'))) (ty:=tU) (Zbb _) (by kernel_rfl) r.w (by rfl) E0 (s:=ZeQ b b') (ZdT hx h5 h6 hy k5 k6)
    rw[evals] at fin;exact fin
 ·cases hg
def hN2 (lo la:List Value):Hp:=⟨2,[(lo,tU),(la,tR)]⟩
def mNr (o n c z:Nat) (i v7 v8:Value):List Value:=[sl 0 o n c,Zp,uZ,uZ,Zp,sl 1 0 z z,i,v7,v8]
def zU (n:Nat):List Value:=List.replicate n (.int .u32 0)
theorem Z0H (n:Nat):zU n=wU (List.replicate n 0):=by unfold zU wU;simp
theorem Zi2:∀ n:Nat,Zl (List.replicate n 0)=0
 | 0=>rfl
 | n+1=>by
  rw[List.replicate_succ];simp only[Zl];rw[Zi2 n];rfl
theorem ZsY (n:Nat):Zl (Zx (zU n) 0 n)=0:=by
 have h:=ZaO (List.replicate n 0);rw[List.length_replicate] at h;rw[Z0H,h,Zi2]
theorem ZsZ {n:Nat}(h:n<1000000):Zbm tU (zU n) 0 n n=true:=by
 have:=Zap (L:=List.replicate n 0) (fun x hx=>by rw[List.eq_of_mem_replicate hx];omega) (by simp;omega) (c:=n) (by simp only[List.length_replicate];exact Z4s (by omega));rw[List.length_replicate] at this;rw[Z0H];exact this
def zL (n:Nat):Int:=i64.wrap ((n:Int)+((0:Nat):Int))
def zR (n:Nat):Int:=i64.wrap (((0:Nat):Int)+(n:Int))
theorem Z5S {n:Nat}(h:n<1000000):zL n=(n:Int):=by unfold zL;rw[Zw (by omega) (by omega)];omega
theorem Z5T {n:Nat}(h:n<1000000):zR n=(n:Int):=by unfold zR;rw[Zw (by omega) (by omega)];omega
theorem Z0I (o n c:Nat) (la:List Value):Zg (evL (Zr prog Zf Zn hcV) 200 (ZyU f52) ([sl 0 o n c,Zp]++List.replicate 66 uZ,⟨1,[(la,tR)]⟩,[at_]) ⟨[],[],[]⟩) 6 62 none [sl 0 o n c,Zp,uZ,uZ,Zp,sl 1 0 (zL n).toNat (zL n).toNat] (hN2 (zU (zL n).toNat) la) [(ZI 4 (zL n) (zL n),true)]:=by and_intros<;>kernel_rfl
theorem Z5U (o n c z:Nat) (i:Int) (v7 v8:Value) (lo la:List Value) (g:Nat→Value):Zg (evC (Zr prog Zf Zn hcV) 200 false (muO f52) (mNr o n c z (.int .i64 i) v7 v8++tl 59 g,hN2 lo la,[cmp true,cmp false,at_,at_]) ⟨[],[],[]⟩) 9 59 none (mNr o n c z (.int .i64 (i64.wrap (i+1))) (.int .u64 0) (.int .i64 0)) (hN2 (lo.set (0+(ijM i (0:Nat)).toNat*1) (.int .u32 0)) la) [stM lo (ijM i (0:Nat)),inM (ijM i (0:Nat)) z,(decide ((0:Int)<((0:Nat):Int)),false),(decide (i<(n:Int)),true)]:=by and_intros<;>kernel_rfl
theorem Z0J (o n c z:Nat) (i:Int) (v7 v8:Value) (lo la:List Value) (g:Nat→Value):Zg (evC (Zr prog Zf Zn hcV) 200 false (muO f52) (mNr o n c z (.int .i64 i) v7 v8++tl 59 g,hN2 lo la,[cmp false]) ⟨[],[],[]⟩) 9 59 (some (some 0)) (mNr o n c z (.int .i64 i) v7 v8) (hN2 lo la) [(decide (i<(n:Int)),false)]:=by and_intros<;>kernel_rfl
theorem Z0K (o n c z:Nat) (i v7 v8:Value) (lo la:List Value) (g:Nat→Value):Zg (evC (Zr prog Zf Zn hcV) 200 false (muE f52) (mNr o n c z i v7 v8++tl 59 g,hN2 lo la,[]) ⟨[],[],[]⟩) 5 63 (some none) [sl 0 o n c,Zp,uZ,uZ,sl 1 0 (Zl (Zx lo 0 z)) (Zl (Zx lo 0 z))] (hN2 lo la) [(Zbm tU lo 0 z z,true)]:=by and_intros<;>kernel_rfl
theorem Z9k (o n c:Nat) (la:List Value):Zg (evC (Zr prog Zf Zn hcV) 200 false (Zs f52) ([Zp,sl 0 o n c]++List.replicate 66 uZ,⟨1,[(la,tR)]⟩,[at_,cmp false]) ⟨[],[],[]⟩) 5 63 (some none) [Zp,sl 0 o n c,uZ,uZ,sl 1 0 (Zl (Zx (zU (zR n).toNat) 0 (zR n).toNat)) (Zl (Zx (zU (zR n).toNat) 0 (zR n).toNat))] (hN2 (zU (zR n).toNat) la) [(Zbm tU (zU (zR n).toNat) 0 (zR n).toNat (zR n).toNat,true),(decide ((0:Int)<((0:Nat):Int)),false),(ZI 4 (zR n) (zR n),true)]:=by and_intros<;>kernel_rfl
theorem Z5V:Zg (evC (Zr prog Zf Zn hcV) 200 false (Zs f52) ([Zp,Zp]++List.replicate 66 uZ,⟨0,[]⟩,[at_,cmp false]) ⟨[],[],[]⟩) 5 63 (some none) [Zp,Zp,uZ,uZ,sl 0 0 0 0] ⟨1,[([],tU)]⟩ [(Zbm tU [] 0 0 0,true),(decide ((0:Int)<((0:Nat):Int)),false),(true,true)]:=by and_intros<;>kernel_rfl
theorem Zfa:f52.body=some (Zs f52):=by kernel_rfl
theorem Zvm {la:List Value}{o n c:Nat}(hn:n<1000000):
  Runs (Zr prog Zf Zn hcV) (ZW (ZyU f52) (.seq (.seq (Z2 (muB f52)) (.block 0 (.loop (muO f52)))) (muE f52))) ([sl 0 o n c,Zp]++List.replicate 66 uZ,⟨1,[(la,tR)]⟩,[]) fun e y=>(e=none∨e=some none)∧ZV prog f52 y.1 y.2.1=some (sl 1 0 0 0)∧y.2.1.blk? 1=some (zU n,tU):=by
 have hT:=Zh Zd Zu;have g0:=Z0I o n c la;rw[Z5S hn,tN] at g0;refine Zv hT g0 (Zt (by unfold ZI;exact dT (by omega))) fun g=> ?_;refine Runs.seq (P1:=fun e' y=>e'=none∧∃ (i v7 v8:Value) (g:Nat→Value),y.1=mNr o n c n i v7 v8++tl 59 g∧y.2.1=hN2 (zU n) la) ?_ ?_ (fun e y he=>by cases he.1)
 ·refine Runs.next (Zb hT (Z0C (sl 0 o n c) Zp (sl 1 0 n n) _ g) (fun _ h=>by cases h)) fun g s=> ?_;refine (Runs.forLoop (R:=fun _=>False) (P:=fun y=>∃ (i v7 v8:Value) (g:Nat→Value),y.1=mNr o n c n i v7 v8++tl 59 g∧y.2.1=hN2 (zU n) la)
   (fun r y=>∃ (k:Nat) (v7 v8:Value) (g:Nat→Value),k+r=n∧y.1=mNr o n c n (.int .i64 (k:Int)) v7 v8++tl 59 g∧y.2.1=hN2 (zU n) la)
   ?_ (n:=n) ⟨0,_,_,g,by omega,rfl,rfl⟩).mono fun e' y he=> ?_
  ·rintro r ⟨t,h',s'⟩ ⟨k,v7,v8,g,hk,ht,hh⟩;simp only at ht hh;subst ht hh;cases r with
   | zero=>
    refine (Zb hT (Z0J o n c n k v7 v8 _ la g) (Zt (dF (by omega)))).mono fun e' y he=> ?_;obtain⟨rfl,⟨g1,e2⟩,e3⟩:=he;exact⟨rfl,_,_,_,g1,e2,e3⟩
   | succ r=>
    have ei:ijM (k:Int) (0:Nat)=(k:Int):=by unfold ijM;rw[Zw (by omega) (by omega)];omega
    have g1:=Z5U o n c n k v7 v8 (zU n) la g;rw[ei] at g1;have es:(zU n).set (0+((k:Int)).toNat*1) (.int .u32 0)=zU n:=by
     unfold zU;rw[tN,Nat.zero_add,Nat.mul_one,List.set_replicate_self]
    rw[es] at g1;refine (Zb hT g1 (Zi (by unfold stM zU;exact dT (by simp;omega)) (Zi (by unfold inM;exact dT (by omega)) (Zi (by decide) (Zt (dT (by omega))))))).mono fun e' y he=> ?_;obtain⟨rfl,⟨g2,e2⟩,e3⟩:=he;refine⟨r,by omega,k+1,.int .u64 0,.int .i64 0,g2,by omega,?_,e3⟩;rw[e2,Zw (by omega) (by omega)];rfl
  ·match e',he with
   | none,he=>exact⟨rfl,he⟩
   | some none,he=>exact he.elim
   | some (some _),he=>exact he.elim
 ·rintro⟨t,h',s'⟩ ⟨_,i,v7,v8,g,ht,hh⟩;simp only at ht hh;subst ht hh;have g1:=Z0K o n c n i v7 v8 (zU n) la g;rw[ZsY] at g1;refine (Zb hT g1 (Zt (ZsZ hn))).mono fun e' y he=> ?_;obtain⟨rfl,⟨g2,e2⟩,e3⟩:=he;refine⟨.inr rfl,?_,?_⟩
  ·rw[e2,e3];rfl
  ·rw[e3];rfl
def ZmB:Zad:=fun vals h s=>
 match vals,s with
 | [.slice p n c,.slice q n' c'],.inr (.inl V)::s'=>Zde V.toNat h s' [(decide (vO h p n*vO h q n'=V.toNat),true),(ZsX h p q n c n' c',true)]
 | _,_=>none
theorem Zvn:d16 0=[]:=zp 65536
theorem ZmC:Z8 52 ZmB:=by
 intro vals h s v h' s' lg hg hl m B w E hv;unfold ZmB at hg;split at hg
 ·rename_i p n c q n' c' V s2;unfold Zde at hg;cases hg;have l1:=oT (hl _ mH);have l3:=hl _ (mN _ mS);have l3':=l3;simp only[ZsX,Bool.and_eq_true] at l3;obtain⟨⟨⟨q1,q2⟩,⟨p1,p2⟩⟩,q4⟩:=l3;have q4:=Zo.1 q4;rcases ZF q1 with ⟨rfl,rfl,rfl,e0⟩ | ⟨b,o,x,rfl,hx,r1,rs,e0⟩
  ·have hV:V.toNat=0:=by
    rw[← l1];unfold vO;rw[e0];simp [vb]
   rw[hV,Zvn];rcases ZF p1 with ⟨rfl,rfl,rfl,f0⟩ | ⟨b',o',y,rfl,hy,t1,ts,f0⟩
   ·have r:Runs (Zr prog Zf Zn hcV) (Zs f52) ([Zp,Zp]++List.replicate 66 uZ,⟨0,[]⟩,[]) fun e z=>(e=none∨e=some none)∧ZV prog f52 z.1 z.2.1=some (sl 0 0 0 0)∧∃ r,z.2.1.blk? 0=some (wU []++r,tU):=by
     refine (Zb (Zh Zd Zu) Z5V (Zi (by kernel_rfl) (Zi (by decide) (Zt rfl)))).mono fun e z he=> ?_;obtain⟨rfl,⟨g,e1⟩,e2⟩:=he;exact⟨.inr rfl,by rw[e1,e2];rfl,[],by rw[e2];rfl⟩
    have:=ZE (T:=Zr prog Zf Zn hcV) func52 Zfa (h0:=⟨0,[]⟩) ⟨rfl,fun b x hx=>by have:b<0:=Hp.blk_lt hx;omega⟩ (vals:=[Zp,Zp]) (fun v hv=>by
     simp only[List.mem_cons,List.not_mem_nil,or_false] at hv;rcases hv with rfl | rfl<;>rfl) (k:=0) (cs:=wU []) (ty:=tU) (Zbb _) (by kernel_rfl) r.w (by rfl) E (s:=fun i=>i) (fun i x hx _=>by have:i<0:=Hp.blk_lt hx;omega)
    exact this
   ·obtain⟨b1,b2,b3,b4,b5,b6,b7⟩:=zt t1;have g0:=Z9k o' n' c' y.1;rw[Z5T (by omega),tN,ZsY] at g0;have r:Runs (Zr prog Zf Zn hcV) (Zs f52) ([Zp,sl 0 o' n' c']++List.replicate 66 uZ,⟨1,[(y.1,tR)]⟩,[]) fun e z=>(e=none∨e=some none)∧ZV prog f52 z.1 z.2.1=some (sl 1 0 0 0)∧∃ r,z.2.1.blk? 1=some (wU []++r,tU):=by
     refine (Zb (Zh Zd Zu) g0 (Zi (ZsZ (by omega)) (Zi (by decide) (Zt (by unfold ZI;exact dT (by omega)))))).mono fun e z he=> ?_;obtain⟨rfl,⟨g,e1⟩,e2⟩:=he;exact⟨.inr rfl,by rw[e1,e2];rfl,zU n',by rw[e2];rfl⟩
    have evals:List.map (rn fun _=>b') [Zp,sl 0 o' n' c']=[.slice none 0 0,.slice (some ⟨b',o',none⟩) n' c']:=by simp [rn,rn2,rn1,sl,Zp]
    have:=ZE (T:=Zr prog Zf Zn hcV) func52 Zfa (ZaK b7) (vals:=[Zp,sl 0 o' n' c']) (fun v hv=>by
     simp only[List.mem_cons,List.not_mem_nil,or_false] at hv;rcases hv with rfl | rfl<;>rfl) (k:=1) (cs:=wU []) (ty:=tU) (Zbb _) (by kernel_rfl) r.w (by rfl) E (s:=fun _=>b') (zH hy b5 b6 rfl)
    rw[evals] at this;exact this
  ·rcases ZF p1 with ⟨rfl,rfl,rfl,f0⟩ | ⟨b',o',y,rfl,hy,t1,ts,f0⟩
   ·have hV:V.toNat=0:=by
     rw[← l1];unfold vO;rw[f0];simp [vb]
    rw[hV,Zvn];obtain⟨b1,b2,b3,b4,b5,b6,b7⟩:=zt r1;have r:Runs (Zr prog Zf Zn hcV) (ZW (ZyU f52) (.seq (.seq (Z2 (muB f52)) (.block 0 (.loop (muO f52)))) (muE f52))) ([sl 0 o n c,Zp]++List.replicate 66 uZ,⟨1,[(x.1,tR)]⟩,[]) fun e z=>(e=none∨e=some none)∧ZV prog f52 z.1 z.2.1=some (sl 1 0 0 0)∧∃ r,z.2.1.blk? 1=some (wU []++r,tU):=
     (Zvm (by omega)).mono fun e z he=>⟨he.1,he.2.1,zU n,he.2.2⟩
    have evals:List.map (rn fun _=>b) [sl 0 o n c,Zp]=[.slice (some ⟨b,o,none⟩) n c,.slice none 0 0]:=by simp [rn,rn2,rn1,sl,Zp]
    have:=ZE (T:=Zr prog Zf Zn hcV) func52 Zgy (ZaK b7) (vals:=[sl 0 o n c,Zp]) (fun v hv=>by
     simp only[List.mem_cons,List.not_mem_nil,or_false] at hv;rcases hv with rfl | rfl<;>rfl) (k:=1) (cs:=wU []) (ty:=tU) (Zbb _) (by kernel_rfl) r.w (by rfl) E (s:=fun _=>b) (zH hx b5 b6 rfl)
    rw[evals] at this;exact this
   ·rw[← l1];exact Zq2 _ h [] _ _ [] [(ZsX h (some ⟨b,o,none⟩) (some ⟨b',o',none⟩) n c n' c',true)] rfl (Z4 l3') m B w E hv
 ·cases hg
end Go.Proofs.YtjlponbdflkbjaaGreatDoor
namespace Go.Proofs.YtjlponbdflkbjaaGreatDoor.Na
open Go.KRun Go.Nt
set_option maxRecDepth 100000
set_option linter.unusedVariables false
def Z4t:Zad:=fun vals h s=>
 match vals,s with
 | [.slice p n c,.slice q n' c'],.inr (.inr (.inr (.inl true)))::s'=>some (.tuple #[Zp,.nilIface],h,s',[(decide (n=0∨n'=0),true)])
 | [.slice p n c,.slice q n' c'],.inr (.inr (.inr (.inl false))):: .inr (.inl V)::s'=>some (.tuple #[sl h.n 0 (Zl (dg (n+n') V)) (n+n'),.nilIface],h.push (wU (dg (n+n') V)) tU,s',[(decide (Zhp (Zq h p n) (Zq h q n')=dg (n+n') V),true),(Zai h p n c,true),(Zai h q n' c',true),(!decide (n=0∨n'=0) && Nat.ble (n+n') 8192,true)])
 | _,_=>none
theorem ZmD:Z8 115 Z4t:=by
 intro vals h s v h' s' lg hg hl;unfold Z4t at hg;split at hg
 ·cases hg;exact Zmi _ h [cmp true] _ _ [] _ rfl hl
 ·rename_i p n c q n' c' V s3;cases hg;obtain⟨l1,l2⟩:=ZsS hl;have l1:=oT l1;refine Zmi _ h [cmp false] _ _ [] _ ?_ l2;simp only[Z5m,l1]
 ·cases hg
theorem Z0L {x y m k:Nat}(hx:x<4294967296^m) (hy:y<4294967296^k):x*y<4294967296^(m+k):=by
 rw[Nat.pow_add];exact Nat.mul_lt_mul'' hx hy
end Go.Proofs.YtjlponbdflkbjaaGreatDoor.Na
namespace Go.Proofs.YtjlponbdflkbjaaGreatDoor.Na
open Go.Proofs.Tryz
open Go.IntKind
open Go.KRun Go.Nt
set_option maxRecDepth 100000
set_option linter.unusedVariables false
def h5 (la lb R Y Q:List Value):Hp:=⟨5,[(Q,tU),(Y,tU),(R,tU),(lb,tR),(la,tR)]⟩
def toT (k x d:Int):Int:=u64.wrap (k+u64.wrap (u64.wrap x*u64.wrap d))
def toW (k x d:Int):Int:=u32.wrap (toT k x d)
def toC (k x d:Int):Int:=(toT k x d).fdiv (2^min (Int.toNat 32) 64)
def toP (F:Func):List Code:=[Z2 (sn 0 F),Z2 (sn 1 F),Z2 (sn 2 F),Z2 (sn 3 F),Z2 (sn 4 F)]
def toB (F:Func):Code:=Z2 (sn 5 F)
def toL (F:Func):Code:=cIn (cIn (Zz (toB F)))
def toF (o m c n k:Nat) (d cy b:Int) (v11 v12:Value):List Value:=[sl 2 o m c,sl 3 0 n k,uu d,uZ,uZ,uZ,.bool false,i6' n,sl 2 o n c,.int .u64 cy,uu b,v11,v12]
theorem Zek:f136.body=some (ZW (toP f136) (.seq (.seq (Z2 (toB f136)) (.block 0 (.loop (toL f136)))) (sn 6 f136))):=by kernel_rfl
theorem Z0M (o m c n k:Nat) (d:Int) (la lb R Y Q:List Value):Zg (evL (Zk prog Zf ZsH true) 100 (toP f136) ([sl 2 o m c,sl 3 0 n k,uu d]++List.replicate 62 uZ,h5 la lb R Y Q,[num 0]) ⟨[],[],[]⟩) 13 52 none (toF o m c n k d 0 0 uZ uZ) (h5 la lb R Y Q) [(ZA c,true),(ZQ 0 n c c,true),(decide ((c:Int)=0∧(0:Int)≠0),false)]:=by and_intros<;>kernel_rfl
theorem Z9l (o m c n k:Nat) (d cy b:Int) (v11 v12:Value) (h:Hp) (g:Nat→Value):ZdS (evC (Zk prog Zf ZsH true) 100 false (Z2 (toB f136)) (toF o m c n k d cy b v11 v12++tl 52 g,h,[]) ⟨[],[],[]⟩) 13 5 3 44 none (toF o m c n k d cy b v11 v12) [sl 3 0 n k,i6' n,i6' 0] h []:=by and_intros<;>kernel_rfl
theorem Z0N (o m c n k:Nat) (d cy b j:Int) (v11 v12:Value) (h:Hp) (g g':Nat→Value):ZdS (evC (Zk prog Zf ZsH true) 100 false (toL f136) (ml (toF o m c n k d cy b v11 v12) 5 g [sl 3 0 n k,i6' n,i6' j] 44 g',h,[cmp false]) ⟨[],[],[]⟩) 13 5 3 44 (some (some 0)) (toF o m c n k d cy b v11 v12) [sl 3 0 n k,i6' n,i6' j] h [(decide (j<n),false)]:=by and_intros<;>kernel_rfl
theorem Z5W (o m c n k:Nat) (d cy b j x y:Int) (v11 v12:Value) (la lb R Y Q:List Value) (g g':Nat→Value):ZdS (evC (Zk prog Zf ZsH true) 100 false (toL f136) (ml (toF o m c n k d cy b v11 v12) 5 g [sl 3 0 n k,i6' n,i6' j] 44 g',h5 la lb R Y Q,[cmp true,at_,val (uu x),at_,val (uu y),at_,at_]) ⟨[],[],[]⟩) 13 5 3 44 none (toF o m c n k d (toC cy x d) (Zj4 y (toW cy x d) b) (i6' j) (uu x)) [sl 3 0 n k,i6' n,i6' (i64.wrap (j+1))] (h5 la lb (R.set (o+j.toNat*1) (uu (Zgo y (toW cy x d) b))) Y Q)
  [(decide ((32:Int)<0),false),(decide (o+j.toNat*1<R.length),true),inR j n,(wd4 y (toW cy x d) b,true),Zdr R o j y,inR j n,Zdr Y 0 j x,inR j n,(decide (j<n),true)]:=by and_intros<;>kernel_rfl
theorem Z0O (e:Bool) (o m c n k:Nat) (d cy b y:Int) (v11 v12 u1 u2 u3:Value) (la lb R Y Q:List Value) (g g':Nat→Value):Zg (evC (Zk prog Zf ZsH true) 100 false (sn 6 f136) (ml (toF o m c n k d cy b v11 v12) 5 g [u1,u2,u3] 44 g',h5 la lb R Y Q,[at_,val (uu y),at_,at_,cmp e]) ⟨[],[],[]⟩) 7 58 (some none) [sl 2 o m c,sl 3 0 n k,uu d,uZ,uZ,uZ,.bool e] (h5 la lb (R.set (o+((n:Int)).toNat*1) (uu (Zgo y (u32.wrap cy) b))) Y Q)
  [(Zj4 y (u32.wrap cy) b !=0,e),(decide (o+((n:Int)).toNat*1<R.length),true),inR n m,(wd4 y (u32.wrap cy) b,true),Zdr R o n y,inR n m]:=by
 cases e<;>exact by and_intros<;>kernel_rfl
end Go.Proofs.YtjlponbdflkbjaaGreatDoor.Na
namespace Go.Nt
theorem Zvo {P a b x y k br d e l A B D W:Int}(hk:k+x*d=W+4294967296*e) (hs:y-W-br=D-4294967296*l) (h:a+P*((y+4294967296*A)-d*(x+4294967296*B)-k-br)=b):a+P*D+4294967296*P*(A-d*B-e-l)=b:=by
 rw[← h];have e1:(y+4294967296*A)-d*(x+4294967296*B)-k-br=D+4294967296*(A-d*B-e-l):=by
  rw[Int.mul_add d x,← Int.mul_assoc d 4294967296 B,Int.mul_comm d 4294967296,Int.mul_assoc 4294967296 d B,Int.mul_comm d x];omega
 rw[e1];generalize A-d*B-e-l=Z;rw[Int.mul_add P D,← Int.mul_assoc P 4294967296 Z,Int.mul_comm P 4294967296];omega
theorem Zvp {P a b x y br e A B D:Int}(hs:y+x+br=D+4294967296*e) (h:a+P*((y+4294967296*A)+(x+4294967296*B)+br)=b):a+P*D+4294967296*P*(A+B+e)=b:=by
 rw[← h];have e1:(y+4294967296*A)+(x+4294967296*B)+br=D+4294967296*(A+B+e):=by omega
 rw[e1];generalize A+B+e=Z;rw[Int.mul_add P D,← Int.mul_assoc P 4294967296 Z,Int.mul_comm P 4294967296];omega
theorem Zgz {dx:List Int}{D l V:Int}(hd:wds dx) (hD:0≤D∧D<4294967296) (h:vN dx+4294967296^dx.length*(D+4294967296*l)=V):dx++[D]=dg (dx.length+1) V∧V/4294967296^(dx.length+1)=l:=by
 have hw:wds (dx++[D]):=Zaf hd (fun x hx=>by rw[List.mem_singleton.1 hx];exact hD);have hv:vN (dx++[D])+4294967296^(dx.length+1)*l=V:=by
  rw[zo,← h,pw,Int.mul_add,← Int.mul_assoc,Int.mul_comm (4294967296^dx.length) 4294967296];omega
 have hl:(dx++[D]).length=dx.length+1:=by simp
 have hb:=ZaL (dx++[D]) hw;rw[hl] at hb;constructor
 ·rw[← hv,Zc2,← hl];exact (Zfw _ hw).symm
 ·rw[← hv,Int.add_mul_ediv_left _ _ (by have:=Zaw (dx.length+1);omega),Int.ediv_eq_zero_of_lt hb.1 hb.2,Int.zero_add]
theorem Zvq {V Q l:Int}(hQ:0<Q) (h:V/Q=l):V<0↔l<0:=by
 subst h;constructor
 ·intro hv;exact Int.ediv_lt_of_lt_mul hQ (by omega)
 ·intro hl;refine Decidable.byContradiction fun hn=> ?_;have:=Int.ediv_nonneg (a:=V) (b:=Q) (by omega) (by omega);omega
end Go.Nt
namespace Go.Proofs.YtjlponbdflkbjaaGreatDoor.Na
open Go.Proofs.Tryz
open Go.IntKind
open Go.KRun Go.Nt
set_option maxRecDepth 100000
set_option linter.unusedVariables false
theorem Zvr {k x d:Int}(hk:0≤k∧k<4294967296) (hx:0≤x∧x<4294967296) (hd:0≤d∧d<4294967296):
  (0≤toW k x d∧toW k x d<4294967296)∧(0≤toC k x d∧toC k x d<4294967296)∧k+x*d=toW k x d+4294967296*toC k x d:=by
 have hxy:=Z0f hx hd;have e:toT k x d=k+x*d:=by
  unfold toT;simp only[ZoB];rw[Int.emod_eq_of_lt hx.1 (by omega),Int.emod_eq_of_lt hd.1 (by omega),Int.emod_eq_of_lt hxy.1 (by omega),Int.emod_eq_of_lt (by omega) (by omega)]
 unfold toW toC;rw[e,ZgS,show ((2:Int)^min (Int.toNat 32) 64)=4294967296 from by decide,Int.fdiv_eq_ediv_of_nonneg _ (by omega)];generalize x*d=W at*;omega
theorem Zi3 {x y c:Int}(hx:0≤x∧x<4294967296) (hy:0≤y∧y<4294967296) (hc:0≤c∧c≤1):wd4 x y c=true:=by
 unfold wd4;simp only[decide_eq_true_eq];omega
theorem Zhx {F G la lb Y Q:List Value}{o c k:Nat}{M LB:List Int}{d:Int}(hF:F.length=o) (hM:wds M) (RB:Row Y 0 LB) (hl:M.length=LB.length+1) (hN:M.length<1099511627776) (hd:0≤d∧d<4294967296) (hc:M.length≤c) (hs:ZA c=true) (e:Bool) (he:decide (vN M-d*vN LB<0)=e):
  Runs (Zk prog Zf ZsH true) (ZW (toP f136) (.seq (.seq (Z2 (toB f136)) (.block 0 (.loop (toL f136)))) (sn 6 f136))) ([sl 2 o M.length c,sl 3 0 LB.length k,uu d]++List.replicate 62 uZ,h5 la lb (F++(wU M++G)) Y Q,[]) fun e' y=>(e'=none∨e'=some none)∧ZV prog f136 y.1 y.2.1=some (.bool e)∧y.2.1.cut 5=h5 la lb (F++(wU (dg M.length (vN M-d*vN LB))++G)) Y Q:=by
 have hwB:=RB.rng;have hcs:c<4611686018427387904:=Zo.1 hs;have hT:=Zj Zul;refine Zv hT (Z0M o M.length c LB.length k d la lb _ Y Q) (Zi hs (Zi (by unfold ZQ;exact dT (by omega)) (Zt (dF (by omega))))) fun g=> ?_;refine Runs.seq (P1:=fun e' y=>e'=none∧∃ (dx:List Int) (t cy b:Int) (v11 v12 u1 u2 u3:Value) (g g':Nat→Value),dx.length=LB.length∧wds dx∧(0≤t∧t<4294967296)∧(0≤cy∧cy<4294967296)∧(0≤b∧b≤1)∧y.1=ml (toF o M.length c LB.length k d cy b v11 v12) 5 g [u1,u2,u3] 44 g'∧y.2.1=h5 la lb (F++(wU (dx++t::[])++G)) Y Q∧vN dx+4294967296^dx.length*(t-cy-b)=vN M-d*vN LB) ?_ ?_ (fun e y he=>by cases he.1)
 ·refine Runs.seq (P1:=fun e' y=>e'=none∧(∃ g g',y.1=ml (toF o M.length c LB.length k d 0 0 uZ uZ) 5 g [sl 3 0 LB.length k,i6' LB.length,i6' 0] 44 g')∧y.2.1=h5 la lb (F++(wU M++G)) Y Q) (z9 hT (Z9l o M.length c LB.length k d 0 0 uZ uZ _ g) (fun x hx=>by cases hx)) ?_ (fun e y he=>by cases he.1);rintro⟨t,h',s'⟩ ⟨_,⟨g1,g2,ht⟩,hh⟩;simp only at ht hh;subst ht hh;refine (Runs.forLoop (R:=fun _=>False) (P:=fun y=>∃ (dx:List Int) (t cy b:Int) (v11 v12 u1 u2 u3:Value) (g g':Nat→Value),dx.length=LB.length∧wds dx∧(0≤t∧t<4294967296)∧(0≤cy∧cy<4294967296)∧(0≤b∧b≤1)∧y.1=ml (toF o M.length c LB.length k d cy b v11 v12) 5 g [u1,u2,u3] 44 g'∧y.2.1=h5 la lb (F++(wU (dx++t::[])++G)) Y Q∧vN dx+4294967296^dx.length*(t-cy-b)=vN M-d*vN LB)
   (fun r y=>∃ (dx px bx:List Int) (cy b:Int) (v11 v12:Value) (g g':Nat→Value),px.length=r+1∧dx.length+px.length=M.length∧wds dx∧wds px∧bx=LB.drop dx.length∧(0≤cy∧cy<4294967296)∧(0≤b∧b≤1)∧y.1=ml (toF o M.length c LB.length k d cy b v11 v12) 5 g [sl 3 0 LB.length k,i6' LB.length,i6' dx.length] 44 g'∧y.2.1=h5 la lb (F++(wU (dx++px)++G)) Y Q∧vN dx+4294967296^dx.length*(vN px-d*vN bx-cy-b)=vN M-d*vN LB)
   ?_ (n:=LB.length) ⟨[],M,LB,0,0,uZ,uZ,g1,g2,by omega,by simp,(fun x hx=>by cases hx),hM,rfl,by omega,by omega,rfl,rfl,by simp [vN]⟩).mono fun e' y he=> ?_
  ·rintro r ⟨t,h',s'⟩ ⟨dx,px,bx,cy,b,v11,v12,g,g',hr,hlen,wd1,wd2,hb,hcy,hbb,ht,hh,hv⟩;simp only at ht hh;subst ht hh;cases r with
   | zero=>
    have hl':dx.length=LB.length:=by omega
    match px,hr,wd2,hv with
    | [t],hr,wd2,hv=>
     refine (z9 hT (Z0N o M.length c LB.length k d cy b dx.length v11 v12 _ g g') (Zt (dF (by omega)))).mono fun e' y he=> ?_;obtain⟨rfl,⟨g1,g2,e2⟩,e3⟩:=he;have hbx:bx=[]:=by rw[hb,List.drop_eq_nil_of_le (by omega)]
     subst hbx;refine⟨rfl,dx,t,cy,b,v11,v12,_,_,_,g1,g2,hl',wd1,wd2 t mS,hcy,hbb,e2,e3,?_⟩;simpa [vN] using hv
   | succ r=>
    match px,hr,hlen,wd2,hv with
    | y::px,hr,hlen,wd2,hv=>
     obtain⟨wy,wd2⟩:=Zae wd2;have hl':dx.length<LB.length:=by simp at hlen hr;omega
     have hx:=RB.cell (k:=dx.length) (by omega);have hxr:=hwB (LB.getD dx.length 0) (by simp [List.getD,List.getElem?_eq_getElem hl']);have hbx:bx=LB.getD dx.length 0::LB.drop (dx.length+1):=by
      rw[hb,List.drop_eq_getElem_cons hl'];simp [List.getD,List.getElem?_eq_getElem hl']
     generalize LB.getD dx.length 0=x at*;obtain⟨k1,k2,k3⟩:=Zvr hcy hxr hd;obtain⟨s1,s2,s3⟩:=Zgq wy k1 hbb;have cS:=Zeg hF dx y px G;have lS:o+dx.length<(F++(wU (dx++y::px)++G)).length:=(List.getElem?_eq_some_iff.1 cS).1;have l1:decide (o+((dx.length:Int)).toNat*1<(F++(wU (dx++y::px)++G)).length)=true:=by
      rw[tN,Nat.mul_one];exact dT lS
     have l2:(inR dx.length LB.length).1=(inR dx.length LB.length).2:=dT (by omega);refine (z9 hT (Z5W o M.length c LB.length k d cy b dx.length x y v11 v12 la lb _ Y Q g g') (Zi (by decide) (Zi l1 (Zi l2 (Zi (Zi3 wy k1 hbb) (Zi (Zav cS) (Zi l2 (Zi (Zav hx) (Zi l2 (Zt (dT (by omega)))))))))))).mono fun e' z he=> ?_;obtain⟨rfl,⟨g1,g2,e2⟩,e3⟩:=he;refine⟨r,by omega,dx++[Zgo y (toW cy x d) b],px,LB.drop (dx.length+1),toC cy x d,Zj4 y (toW cy x d) b,i6' dx.length,uu x,g1,g2,by simp at hr;omega,by simp at hlen ⊢;omega,Zaf wd1 (fun u hu=>by rw[List.mem_singleton.1 hu];exact s1),wd2,by simp,k2,s2,?_,?_,?_⟩
     ·rw[e2,Zw (by omega) (by omega)];simp
     ·rw[e3,tN,Nat.mul_one,Zeh hF]
     ·rw[hbx] at hv;simp only[vN] at hv;rw[zo,List.length_append,List.length_singleton,pw];exact Zvo k3 s3 hv
  ·match e',he with
   | none,he=>exact⟨rfl,he⟩
   | some none,he=>exact he.elim
   | some (some _),he=>exact he.elim
 ·rintro⟨t,h',s'⟩ ⟨_,dx,tw,cy,b,v11,v12,u1,u2,u3,g,g',hdl,wd1,wt,hcy,hbb,ht,hh,hv⟩;simp only at ht hh;subst ht hh;have ew:u32.wrap cy=cy:=by rw[ZgS,Int.emod_eq_of_lt hcy.1 hcy.2]
  obtain⟨s1,s2,s3⟩:=Zgq wt hcy hbb;have cS:=Zeg hF dx tw [] G;have lS:o+dx.length<(F++(wU (dx++tw::[])++G)).length:=(List.getElem?_eq_some_iff.1 cS).1;obtain⟨f1,f2⟩:=Zgz (l:= - Zj4 tw cy b) (V:=vN M-d*vN LB) wd1 s1 (by rw[← hv,s3];congr 2;omega);have hn:=Zvq (Zaw (dx.length+1)) f2;have g0:=Z0O e o M.length c LB.length k d cy b tw v11 v12 u1 u2 u3 la lb (F++(wU (dx++tw::[])++G)) Y Q g g';rw[ew,← hdl,tN,Nat.mul_one,Zeh hF] at g0;have l0:(Zj4 tw cy b !=0)=e:=by
   rw[← he];by_cases hneg:vN M-d*vN LB<0
   ·rw[dT hneg];have:=hn.1 hneg;exact bne_iff_ne.2 (by omega)
   ·rw[dF hneg];have:Zj4 tw cy b=0:=Decidable.byContradiction fun h0=>hneg (hn.2 (by omega));rw[this];rfl
  have l2:(inR dx.length M.length).1=(inR dx.length M.length).2:=dT (by omega);rw[← hdl];refine (Zb hT g0 (Zi l0 (Zi (dT lS) (Zi l2 (Zi (Zi3 wt hcy hbb) (Zi (Zav cS) (Zt l2))))))).mono fun e' y he=> ?_;obtain⟨rfl,⟨g1,e2⟩,e3⟩:=he;refine⟨.inr rfl,?_,?_⟩
  ·rw[e2,e3];rfl
  ·rw[e3,hl,← hdl,← f1,List.append_nil];rfl
def Zel (la lb R Y Q:List Value) (t0 t1 t2 t3 t4:TypeId) (o m c n k:Nat):Bool:=Nat.beq t0 tR && Nat.beq t1 tR && Nat.beq t2 tU && Nat.beq t3 tU && Nat.beq t4 tU && Z6 tU R o m c && Z6 tU Y 0 n k && Nat.beq m (n+1) && Nat.blt m 1099511627776 && la.all still && lb.all still && Q.all still
theorem ZfC {la lb R Y Q:List Value}{t0 t1 t2 t3 t4:TypeId}{o m c n k:Nat}(q:Zel la lb R Y Q t0 t1 t2 t3 t4 o m c n k=true):t0=tR∧t1=tR∧t2=tU∧t3=tU∧t4=tU∧Z6 tU R o m c=true∧Z6 tU Y 0 n k=true∧m=n+1∧m<1099511627776∧la.all still=true∧lb.all still=true∧Q.all still=true:=by
 unfold Zel at q;simp only[Bool.and_eq_true] at q;obtain⟨⟨⟨⟨⟨⟨⟨⟨⟨⟨⟨q0,q1⟩,q2⟩,q3⟩,q4⟩,ra⟩,rb⟩,qn⟩,qN⟩,s0⟩,s1⟩,s2⟩:=q;exact⟨Nat.eq_of_beq_eq_true q0,Nat.eq_of_beq_eq_true q1,Nat.eq_of_beq_eq_true q2,Nat.eq_of_beq_eq_true q3,Nat.eq_of_beq_eq_true q4,ra,rb,Nat.eq_of_beq_eq_true qn,Zo.1 qN,s0,s1,s2⟩
theorem ZaD {R:List Value}{o m c:Nat}(ra:Z6 tU R o m c=true):R=R.take o++(wU (Zx R o m)++R.drop (o+m))∧(R.take o).length=o:=by
 obtain⟨a1,a2,a3,a4,a5,a6,a7⟩:=ZH ra;constructor
 ·have h1:=a1.cut;rw[a2] at h1;rw[← h1];unfold Zce;rw[← List.drop_drop,List.take_append_drop,List.take_append_drop]
 ·have:=a1.len;simp;omega
theorem ZmE {la lb R Y Q:List Value}{o m c n k:Nat}{L:List Int}(ra:Z6 tU R o m c=true) (rb:Z6 tU Y 0 n k=true) (s0:la.all still=true) (s1:lb.all still=true) (s2:Q.all still=true):(h5 la lb (tmS R o m L) Y Q).tight=true:=by
 obtain⟨a1,a2,a3,a4,a5,a6,a7⟩:=ZH ra;obtain⟨b1,b2,b3,b4,b5,b6,b7⟩:=ZH rb;unfold Hp.tight tmS h5;simp only[List.all_cons,List.all_nil,List.all_append,Bool.and_true,Bool.and_eq_true];refine⟨zx (by omega) s2,zx (by omega) (List.all_eq_true.2 b7),⟨?_,Zbo _ _,?_⟩,zx (by omega) s1,zx (by omega) s0⟩
 ·rw[List.all_eq_true];exact fun v hv=>zg (by omega) (a7 v (List.mem_of_mem_take hv))
 ·rw[List.all_eq_true];exact fun v hv=>zg (by omega) (a7 v (List.mem_of_mem_drop hv))
def Z5X:Zad:=fun vals h s=>
 match vals,h,s with
 | [.slice (some ⟨2,o,none⟩) m c,.slice (some ⟨3,0,none⟩) n k,.int .u32 d],⟨5,[(Q,t4),(Y,t3),(R,t2),(lb,t1),(la,t0)]⟩,.inr (.inr (.inr (.inl e)))::s'=>some (.bool e,h5 la lb (tmS R o m (dg m (vN (Zx R o m)-d*vN (Zx Y 0 n)))) Y Q,s',[(Zel la lb R Y Q t0 t1 t2 t3 t4 o m c n k && decide (0≤d∧d<4294967296),true),(decide (vN (Zx R o m)-d*vN (Zx Y 0 n)<0),e)])
 | _,_,_=>none
theorem Zvs:Z8 136 Z5X:=by
 intro vals h s v h' s' lg hg hl m B w E hv;unfold Z5X at hg;split at hg
 ·rename_i o mm c n k d Q t4 Y t3 R t2 lb t1 la t0 e s2;cases hg;have l1:=hl _ mH;have l2:=hl _ (mN _ mS);simp only[Bool.and_eq_true,decide_eq_true_eq] at l1 l2;obtain⟨l1,hd⟩:=l1;obtain⟨q0,q1,q2,q3,q4,ra,rb,qn,qN,st0,st1,st2⟩:=ZfC l1;subst q0 q1 q2 q3 q4;obtain⟨a1,a2,a3,a4,a5,a6,a7⟩:=ZH ra;obtain⟨b1,b2,b3,b4,b5,b6,b7⟩:=ZH rb;obtain⟨eS,hF⟩:=ZaD ra;have r:=Zhx (G:=R.drop (o+mm)) (la:=la) (lb:=lb) (Q:=Q) (c:=c) (k:=k) hF a1.rng b1 (by rw[a2,b2];exact qn) (by rw[a2];exact qN) hd (by rw[a2];exact a3) a4 e l2;rw[a2,b2,← eS] at r;exact zd (T:=Zk prog Zf ZsH true) func136 Zek (vals:=[sl 2 o mm c,sl 3 0 n k,uu d]) (v:= .bool e) (h:=h5 la lb R Y Q) (by rfl) (ZmE ra rb st0 st1 st2) r m B w E hv
 ·cases hg
def pbP (F:Func):List Code:=[Z2 (sn 0 F),Z2 (sn 1 F)]
def pbB (F:Func):Code:=Z2 (sn 2 F)
def pbL (F:Func):Code:=cIn (cIn (Zz (pbB F)))
def pbF (o m c n k:Nat) (b:Int) (v6 v7 u1 u2 u3:Value):List Value:=[sl 2 o m c,sl 3 0 n k,uZ,uZ,.bool false,uu b,v6,v7,u1,u2,u3]
def adD (x y c:Int):Int:=(x+y+c) % 4294967296
def adC (x y c:Int):Int:=(x+y+c)/4294967296
theorem Zvt:f137.body=some (ZW (pbP f137) (.seq (.seq (Z2 (pbB f137)) (.block 0 (.loop (pbL f137)))) (sn 3 f137))):=by kernel_rfl
theorem Z0P (o m c n k:Nat) (h:Hp):Zg (evL (Zk prog Zf ZsF true) 100 (pbP f137) ([sl 2 o m c,sl 3 0 n k]++List.replicate 43 uZ,h,[]) ⟨[],[],[]⟩) 11 34 none (pbF o m c n k 0 uZ uZ uZ uZ uZ) h []:=by and_intros<;>kernel_rfl
theorem Z9m (o m c n k:Nat) (b:Int) (v6 v7 u1 u2 u3:Value) (h:Hp) (g:Nat→Value):Zg (evC (Zk prog Zf ZsF true) 100 false (Z2 (pbB f137)) (pbF o m c n k b v6 v7 u1 u2 u3++tl 34 g,h,[]) ⟨[],[],[]⟩) 11 34 none (pbF o m c n k b v6 v7 (sl 3 0 n k) (i6' n) (i6' 0)) h []:=by and_intros<;>kernel_rfl
theorem Z0Q (o m c n k:Nat) (b j:Int) (v6 v7:Value) (h:Hp) (g:Nat→Value):Zg (evC (Zk prog Zf ZsF true) 100 false (pbL f137) (pbF o m c n k b v6 v7 (sl 3 0 n k) (i6' n) (i6' j)++tl 34 g,h,[cmp false]) ⟨[],[],[]⟩) 11 34 (some (some 0)) (pbF o m c n k b v6 v7 (sl 3 0 n k) (i6' n) (i6' j)) h [(decide (j<n),false)]:=by and_intros<;>kernel_rfl
theorem Z5Y (o m c n k:Nat) (b j x y:Int) (v6 v7:Value) (la lb R Y Q:List Value) (g:Nat→Value):Zg (evC (Zk prog Zf ZsF true) 100 false (pbL f137) (pbF o m c n k b v6 v7 (sl 3 0 n k) (i6' n) (i6' j)++tl 34 g,h5 la lb R Y Q,[cmp true,at_,val (uu x),at_,val (uu y),at_,at_]) ⟨[],[],[]⟩) 11 34 none (pbF o m c n k (adC y x b) (i6' j) (uu x) (sl 3 0 n k) (i6' n) (i6' (i64.wrap (j+1)))) (h5 la lb (R.set (o+j.toNat*1) (uu (adD y x b))) Y Q)
  [(decide (o+j.toNat*1<R.length),true),inR j m,(wd4 y x b,true),Zdr R o j y,inR j m,Zdr Y 0 j x,inR j n,(decide (j<n),true)]:=by and_intros<;>kernel_rfl
theorem Z0R (e:Bool) (o m c n k:Nat) (b y:Int) (v6 v7 u1 u2 u3:Value) (la lb R Y Q:List Value) (g:Nat→Value):Zg (evC (Zk prog Zf ZsF true) 100 false (sn 3 f137) (pbF o m c n k b v6 v7 u1 u2 u3++tl 34 g,h5 la lb R Y Q,[at_,val (uu y),at_,at_,cmp e]) ⟨[],[],[]⟩) 5 40 (some none) [sl 2 o m c,sl 3 0 n k,uZ,uZ,.bool e] (h5 la lb (R.set (o+((n:Int)).toNat*1) (uu (adD y 0 b))) Y Q)
  [(adC y 0 b !=0,e),(decide (o+((n:Int)).toNat*1<R.length),true),inR n m,(wd4 y 0 b,true),Zdr R o n y,inR n m]:=by
 cases e<;>exact by and_intros<;>kernel_rfl
theorem Zg0 {x y c:Int}(hx:0≤x∧x<4294967296) (hy:0≤y∧y<4294967296) (hc:0≤c∧c≤1):(0≤adD x y c∧adD x y c<4294967296)∧(0≤adC x y c∧adC x y c≤1)∧x+y+c=adD x y c+4294967296*adC x y c:=by
 unfold adD adC;omega
theorem Zvu {F G la lb Y Q:List Value}{o c k:Nat}{M LB:List Int}(hF:F.length=o) (hM:wds M) (RB:Row Y 0 LB) (hl:M.length=LB.length+1) (hN:M.length<1099511627776) (e:Bool) (he:decide (4294967296^M.length≤vN M+vN LB)=e):
  Runs (Zk prog Zf ZsF true) (ZW (pbP f137) (.seq (.seq (Z2 (pbB f137)) (.block 0 (.loop (pbL f137)))) (sn 3 f137))) ([sl 2 o M.length c,sl 3 0 LB.length k]++List.replicate 43 uZ,h5 la lb (F++(wU M++G)) Y Q,[]) fun e' y=>(e'=none∨e'=some none)∧ZV prog f137 y.1 y.2.1=some (.bool e)∧y.2.1.cut 5=h5 la lb (F++(wU (dg M.length (vN M+vN LB))++G)) Y Q:=by
 have hwB:=RB.rng;have hT:=Zj Zuj;refine Zv hT (Z0P o M.length c LB.length k _) (fun x hx=>by cases hx) fun g=> ?_;refine Runs.seq (P1:=fun e' y=>e'=none∧∃ (dx:List Int) (t b:Int) (v6 v7 u1 u2 u3:Value) (g:Nat→Value),dx.length=LB.length∧wds dx∧(0≤t∧t<4294967296)∧(0≤b∧b≤1)∧y.1=pbF o M.length c LB.length k b v6 v7 u1 u2 u3++tl 34 g∧y.2.1=h5 la lb (F++(wU (dx++t::[])++G)) Y Q∧vN dx+4294967296^dx.length*(t+b)=vN M+vN LB) ?_ ?_ (fun e y he=>by cases he.1)
 ·refine Runs.seq (P1:=fun e' y=>e'=none∧(∃ g,y.1=pbF o M.length c LB.length k 0 uZ uZ (sl 3 0 LB.length k) (i6' LB.length) (i6' 0)++tl 34 g)∧y.2.1=h5 la lb (F++(wU M++G)) Y Q) (Zb hT (Z9m o M.length c LB.length k 0 uZ uZ uZ uZ uZ _ g) (fun x hx=>by cases hx)) ?_ (fun e y he=>by cases he.1);rintro⟨t,h',s'⟩ ⟨_,⟨g1,ht⟩,hh⟩;simp only at ht hh;subst ht hh;refine (Runs.forLoop (R:=fun _=>False) (P:=fun y=>∃ (dx:List Int) (t b:Int) (v6 v7 u1 u2 u3:Value) (g:Nat→Value),dx.length=LB.length∧wds dx∧(0≤t∧t<4294967296)∧(0≤b∧b≤1)∧y.1=pbF o M.length c LB.length k b v6 v7 u1 u2 u3++tl 34 g∧y.2.1=h5 la lb (F++(wU (dx++t::[])++G)) Y Q∧vN dx+4294967296^dx.length*(t+b)=vN M+vN LB)
   (fun r y=>∃ (dx px bx:List Int) (b:Int) (v6 v7:Value) (g:Nat→Value),px.length=r+1∧dx.length+px.length=M.length∧wds dx∧wds px∧bx=LB.drop dx.length∧(0≤b∧b≤1)∧y.1=pbF o M.length c LB.length k b v6 v7 (sl 3 0 LB.length k) (i6' LB.length) (i6' dx.length)++tl 34 g∧y.2.1=h5 la lb (F++(wU (dx++px)++G)) Y Q∧vN dx+4294967296^dx.length*(vN px+vN bx+b)=vN M+vN LB)
   ?_ (n:=LB.length) ⟨[],M,LB,0,uZ,uZ,g1,by omega,by simp,(fun x hx=>by cases hx),hM,rfl,by omega,rfl,rfl,by simp [vN]⟩).mono fun e' y he=> ?_
  ·rintro r ⟨t,h',s'⟩ ⟨dx,px,bx,b,v6,v7,g,hr,hlen,wd1,wd2,hb,hbb,ht,hh,hv⟩;simp only at ht hh;subst ht hh;cases r with
   | zero=>
    have hl':dx.length=LB.length:=by omega
    match px,hr,wd2,hv with
    | [t],hr,wd2,hv=>
     refine (Zb hT (Z0Q o M.length c LB.length k b dx.length v6 v7 _ g) (Zt (dF (by omega)))).mono fun e' y he=> ?_;obtain⟨rfl,⟨g1,e2⟩,e3⟩:=he;have hbx:bx=[]:=by rw[hb,List.drop_eq_nil_of_le (by omega)]
     subst hbx;refine⟨rfl,dx,t,b,v6,v7,_,_,_,g1,hl',wd1,wd2 t mS,hbb,e2,e3,?_⟩;simpa [vN] using hv
   | succ r=>
    match px,hr,hlen,wd2,hv with
    | y::px,hr,hlen,wd2,hv=>
     obtain⟨wy,wd2⟩:=Zae wd2;have hl':dx.length<LB.length:=by simp at hlen hr;omega
     have hx:=RB.cell (k:=dx.length) (by omega);have hxr:=hwB (LB.getD dx.length 0) (by simp [List.getD,List.getElem?_eq_getElem hl']);have hbx:bx=LB.getD dx.length 0::LB.drop (dx.length+1):=by
      rw[hb,List.drop_eq_getElem_cons hl'];simp [List.getD,List.getElem?_eq_getElem hl']
     generalize LB.getD dx.length 0=x at*;obtain⟨s1,s2,s3⟩:=Zg0 wy hxr hbb;have cS:=Zeg hF dx y px G;have lS:o+dx.length<(F++(wU (dx++y::px)++G)).length:=(List.getElem?_eq_some_iff.1 cS).1;have l1:decide (o+((dx.length:Int)).toNat*1<(F++(wU (dx++y::px)++G)).length)=true:=by
      rw[tN,Nat.mul_one];exact dT lS
     have l2:(inR dx.length M.length).1=(inR dx.length M.length).2:=dT (by omega);have l3:(inR dx.length LB.length).1=(inR dx.length LB.length).2:=dT (by omega);refine (Zb hT (Z5Y o M.length c LB.length k b dx.length x y v6 v7 la lb _ Y Q g) (Zi l1 (Zi l2 (Zi (Zi3 wy hxr hbb) (Zi (Zav cS) (Zi l2 (Zi (Zav hx) (Zi l3 (Zt (dT (by omega))))))))))).mono fun e' z he=> ?_;obtain⟨rfl,⟨g1,e2⟩,e3⟩:=he;refine⟨r,by omega,dx++[adD y x b],px,LB.drop (dx.length+1),adC y x b,i6' dx.length,uu x,g1,by simp at hr;omega,by simp at hlen ⊢;omega,Zaf wd1 (fun u hu=>by rw[List.mem_singleton.1 hu];exact s1),wd2,by simp,s2,?_,?_,?_⟩
     ·rw[e2,Zw (by omega) (by omega)];simp
     ·rw[e3,tN,Nat.mul_one,Zeh hF]
     ·rw[hbx] at hv;simp only[vN] at hv;rw[zo,List.length_append,List.length_singleton,pw];exact Zvp s3 hv
  ·match e',he with
   | none,he=>exact⟨rfl,he⟩
   | some none,he=>exact he.elim
   | some (some _),he=>exact he.elim
 ·rintro⟨t,h',s'⟩ ⟨_,dx,tw,b,v6,v7,u1,u2,u3,g,hdl,wd1,wt,hbb,ht,hh,hv⟩;simp only at ht hh;subst ht hh;obtain⟨s1,s2,s3⟩:=Zg0 wt (show (0:Int)≤0∧(0:Int)<4294967296 by omega) hbb;have cS:=Zeg hF dx tw [] G;have lS:o+dx.length<(F++(wU (dx++tw::[])++G)).length:=(List.getElem?_eq_some_iff.1 cS).1;obtain⟨f1,f2⟩:=Zgz (l:=adC tw 0 b) (V:=vN M+vN LB) wd1 s1 (by rw[← hv,← s3];congr 2;omega);have g0:=Z0R e o M.length c LB.length k b tw v6 v7 u1 u2 u3 la lb (F++(wU (dx++tw::[])++G)) Y Q g;rw[← hdl,tN,Nat.mul_one,Zeh hF] at g0;have l0:(adC tw 0 b !=0)=e:=by
   rw[← he,hl,← hdl,← f2];have hp:=Zaw (dx.length+1);by_cases hbig:4294967296^(dx.length+1)≤vN M+vN LB
   ·rw[dT hbig];have:(1:Int)≤(vN M+vN LB)/4294967296^(dx.length+1):=(Int.le_ediv_iff_mul_le hp).2 (by omega);exact bne_iff_ne.2 (by omega)
   ·rw[dF hbig];have h1:=ZaL M hM;have h2:=ZaL LB hwB;rw[Int.ediv_eq_zero_of_lt (by omega) (by omega)];rfl
  have l2:(inR dx.length M.length).1=(inR dx.length M.length).2:=dT (by omega);rw[← hdl];refine (Zb hT g0 (Zi l0 (Zi (dT lS) (Zi l2 (Zi (Zi3 wt (by omega) hbb) (Zi (Zav cS) (Zt l2))))))).mono fun e' y he=> ?_;obtain⟨rfl,⟨g1,e2⟩,e3⟩:=he;refine⟨.inr rfl,?_,?_⟩
  ·rw[e2,e3];rfl
  ·rw[e3,hl,← hdl,← f1,List.append_nil];rfl
def Z5Z:Zad:=fun vals h s=>
 match vals,h,s with
 | [.slice (some ⟨2,o,none⟩) m c,.slice (some ⟨3,0,none⟩) n k],⟨5,[(Q,t4),(Y,t3),(R,t2),(lb,t1),(la,t0)]⟩,.inr (.inr (.inr (.inl e)))::s'=>some (.bool e,h5 la lb (tmS R o m (dg m (vN (Zx R o m)+vN (Zx Y 0 n)))) Y Q,s',[(Zel la lb R Y Q t0 t1 t2 t3 t4 o m c n k,true),(decide (4294967296^m≤vN (Zx R o m)+vN (Zx Y 0 n)),e)])
 | _,_,_=>none
theorem Zvv:Z8 137 Z5Z:=by
 intro vals h s v h' s' lg hg hl m B w E hv;unfold Z5Z at hg;split at hg
 ·rename_i o mm c n k Q t4 Y t3 R t2 lb t1 la t0 e s2;cases hg;have l1:=hl _ mH;have l2:=hl _ (mN _ mS);simp only at l1 l2;obtain⟨q0,q1,q2,q3,q4,ra,rb,qn,qN,st0,st1,st2⟩:=ZfC l1;subst q0 q1 q2 q3 q4;obtain⟨a1,a2,a3,a4,a5,a6,a7⟩:=ZH ra;obtain⟨b1,b2,b3,b4,b5,b6,b7⟩:=ZH rb;obtain⟨eS,hF⟩:=ZaD ra;have r:=Zvu (G:=R.drop (o+mm)) (la:=la) (lb:=lb) (Q:=Q) (c:=c) (k:=k) hF a1.rng b1 (by rw[a2,b2];exact qn) (by rw[a2];exact qN) e (by rw[a2];exact l2);rw[a2,b2,← eS] at r;exact zd (T:=Zk prog Zf ZsF true) func137 Zvt (vals:=[sl 2 o mm c,sl 3 0 n k]) (v:= .bool e) (h:=h5 la lb R Y Q) (by rfl) (ZmE ra rb st0 st1 st2) r m B w E hv
 ·cases hg
end Go.Proofs.YtjlponbdflkbjaaGreatDoor.Na
namespace Go.Nt
theorem Zq3 {M L:List Int}(hM:wds M) (hL:wds L) {n:Nat}(hm:M.length=n+1) (hl:L.length=n) (hn:0<n) (hb:0<L.getD (n-1) 0):vN M/vN L≤(M.getD n 0*4294967296+M.getD (n-1) 0)/L.getD (n-1) 0:=by
 have hP:=Zaw (n-1);have eM:M=(M.take (n-1)++[M.getD (n-1) 0])++[M.getD n 0]:=by
  have h1:=Zax (L:=M) (k:=n) (by omega);have h2:=Zax (L:=M) (k:=n-1) (by omega);rw[show n-1+1=n by omega] at h2;rw[← h2,← h1,← hm,List.take_length]
 have eL:L=L.take (n-1)++[L.getD (n-1) 0]:=by
  have h2:=Zax (L:=L) (k:=n-1) (by omega);rw[← h2,show n-1+1=L.length by omega,List.take_length]
 have vM:vN M=vN (M.take (n-1))+4294967296^(n-1)*(M.getD n 0*4294967296+M.getD (n-1) 0):=by
  have:vN M=vN ((M.take (n-1)++[M.getD (n-1) 0])++[M.getD n 0]):=by rw[← eM]
  rw[this,zo,zo,List.length_append,List.length_take,Nat.min_eq_left (by omega),List.length_singleton,pw,Int.mul_add,Int.mul_comm (M.getD n 0) 4294967296,← Int.mul_assoc,Int.mul_comm (4294967296^(n-1)) 4294967296];omega
 have vL:vN L=vN (L.take (n-1))+4294967296^(n-1)*L.getD (n-1) 0:=by
  have:vN L=vN (L.take (n-1)++[L.getD (n-1) 0]):=by rw[← eL]
  rw[this,zo,List.length_take,Nat.min_eq_left (by omega)]
 have bM:=ZaL (M.take (n-1)) (Zcx hM _);have bL:=ZaL (L.take (n-1)) (Zcx hL _);rw[List.length_take,Nat.min_eq_left (by omega)] at bM bL;generalize M.getD n 0*4294967296+M.getD (n-1) 0=T at*;generalize L.getD (n-1) 0=b at*;generalize (4294967296:Int)^(n-1)=P at*;have hPb:0<P*b:=Int.mul_pos hP hb;have hq:=Int.mul_ediv_self_le (x:=vN M) (k:=vN L) (by omega);have hq0:0≤vN M/vN L:=by
  by_cases h0:0≤vN M
  ·exact Int.ediv_nonneg h0 (by omega)
  ·have:=(ZaL M hM).1;omega
 generalize hqd:vN M/vN L=q at*;refine (Int.le_ediv_iff_mul_le hb).2 ?_;have h1:P*b*q≤vN L*q:=Int.mul_le_mul_of_nonneg_right (by omega) hq0;have h2:P*b*q<P*(T+1):=by
  rw[Int.mul_add];omega
 rw[Int.mul_assoc] at h2;have h3:=Int.lt_of_mul_lt_mul_left h2 (by omega);rw[Int.mul_comm q b];omega
theorem Zi4 {h l b:Int}(hh:0≤h) (hl:0≤l∧l<4294967296) (hb:h<b):0≤(h*4294967296+l)/b∧(h*4294967296+l)/b<4294967296:=
 ⟨Int.ediv_nonneg (by omega) (by omega),Int.ediv_lt_of_lt_mul (by omega) (by omega)⟩
theorem Zi5 {M B:Int}(hB:0<B) (h0:0≤M) (h:M<4294967296*B):0≤M/B∧M/B≤4294967295:=by
 have h1:=Int.ediv_lt_of_lt_mul hB h;exact⟨Int.ediv_nonneg h0 (by omega),by omega⟩
theorem Zvw {M B d:Int}(hB:0<B) (h1:0≤M-d*B) (h2:M/B≤d):d=M/B∧M-d*B=M % B:=by
 have h3:d≤M/B:=(Int.le_ediv_iff_mul_le hB).2 (by omega);have e:d=M/B:=by omega
 refine⟨e,?_⟩;have:=Int.emod_add_mul_ediv M B;rw[e,Int.mul_comm (M/B) B];omega
theorem ZmF {M B d:Int}(hB:0<B) (h:M-d*B<0):M/B<d:=Int.ediv_lt_of_lt_mul hB (by omega)
theorem Z0S {m:Nat}{V:Int}(h0:V<0) (h1: -(4294967296^m)≤V):vN (dg m V)=V+4294967296^m:=by
 have:=Zc2 m V 1;rw[Int.mul_one] at this;rw[← this];exact ZjL m _ (by omega) (by omega)
end Go.Nt
namespace Go.Pt
open Go.IntKind
def bOr (x y:Int):Int:=u64.wrap ((BitVec.ofInt 64 x ||| BitVec.ofInt 64 y).toNat:Nat)
def Z6a (x y:Int):Int:=u64.wrap ((BitVec.ofInt 64 x ^^^ BitVec.ofInt 64 y).toNat:Nat)
def Z89 (x y:Int):Int:=u64.wrap ((BitVec.ofInt 64 x &&& ~~~(BitVec.ofInt 64 y)).toNat:Nat)
abbrev U (p:Int):Prop:=0≤p∧p<18446744073709551616
abbrev I (n:Int):Prop:= -9223372036854775808≤n∧n≤9223372036854775807
theorem Z6b (n:Int):u64.wrap n=n % 18446744073709551616:=by simp [IntKind.wrap,IntKind.bits,IntKind.signed]
theorem wrapU' {n:Int}(h:U n):u64.wrap n=n:=by rw[Z6b];unfold U at h;omega
theorem Zbx {n:Int}(h:I n):i64.wrap n=n:=by
 unfold I at h;simp [IntKind.wrap,IntKind.bits,IntKind.signed];omega
theorem ofU {Z:Nat}(h:Z<18446744073709551616):(BitVec.ofInt 64 (Z:Int)).toNat=Z:=by simp;omega
theorem Zq4 {V:BitVec 64}:u64.wrap (V.toNat:Nat)=(V.toNat:Int):=by
 have:=V.isLt;exact wrapU' ⟨by omega,by omega⟩
theorem or_low {p q:Int}(k:Nat) {z:Int}(hz:0≤z) (hq:q=2^k*z) (hp:0≤p) (hk:p<2^k) (hs:q+p<18446744073709551616):bOr p q=q+p:=by
 obtain⟨Z,rfl⟩:=Int.eq_ofNat_of_zero_le hz;obtain⟨Y,rfl⟩:=Int.eq_ofNat_of_zero_le hp;have ex:(2:Int)^k*(Z:Nat)=((2^k*Z:Nat):Int):=by simp
 have hY:Y<2^k:=by
  have:((Y:Nat):Int)<((2^k:Nat):Int):=by simpa using hk
  exact Int.ofNat_lt.1 this
 subst hq;rw[ex] at hs ⊢;have hX:2^k*Z+Y<18446744073709551616:=by omega
 unfold bOr;rw[Zq4,BitVec.toNat_or,ofU (by omega),ofU (by omega),Nat.or_comm,← Nat.two_pow_add_eq_or_of_lt hY];omega
theorem Z0T {p:Int}(hp:U p):Z89 p 9223372036854775808=p % 9223372036854775808:=by
 obtain⟨h0,h1⟩:=hp;obtain⟨Z,rfl⟩:=Int.eq_ofNat_of_zero_le h0;unfold Z89;have e:(~~~(BitVec.ofInt 64 9223372036854775808)).toNat=2^63-1:=by decide
 rw[Zq4,BitVec.toNat_and,ofU (by omega),e,Nat.and_two_pow_sub_one_eq_mod];omega
theorem Zi6 (r:Nat) (h:r<2^63):r ^^^ 2^63=2^63+r:=by
 have e:2^63+r=2^63 ||| r:=by
  have:=Nat.two_pow_add_eq_or_of_lt h 1;simpa using this
 rw[e];refine Nat.eq_of_testBit_eq fun i=> ?_;rw[Nat.testBit_xor,Nat.testBit_or,Nat.testBit_two_pow];by_cases hi:63=i
 ·subst hi;rw[Nat.testBit_lt_two_pow h];simp
 ·simp [hi]
theorem ZmG {p:Int}(hp:U p):Z6a p 9223372036854775808=(p+9223372036854775808) % 18446744073709551616:=by
 obtain⟨h0,h1⟩:=hp;obtain⟨Z,rfl⟩:=Int.eq_ofNat_of_zero_le h0;unfold Z6a;have e:(BitVec.ofInt 64 9223372036854775808).toNat=2^63:=by decide
 rw[Zq4,BitVec.toNat_xor,ofU (by omega),e];by_cases hz:Z<2^63
 ·rw[Zi6 Z hz];omega
 ·have h2:=Zi6 (Z-2^63) (by omega);have e2:Z=(Z-2^63) ^^^ 2^63:=by rw[h2];omega
  have e3:Z ^^^ 2^63=Z-2^63:=by
   rw[e2,Nat.xor_assoc,Nat.xor_self,Nat.xor_zero,← e2]
  rw[e3];omega
end Go.Pt
