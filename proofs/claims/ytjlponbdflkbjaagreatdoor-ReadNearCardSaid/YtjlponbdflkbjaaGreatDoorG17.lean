/-
  ConVA, NumPa, ConVL, ConVM, SlH, NumI, ConVG
-/
import Derived.Test.YtjlponbdflkbjaaGreatDoorG16
import Derived.Test.YtjlponbdflkbjaaGreatDoorG05
import Derived.Test.YtjlponbdflkbjaaGreatDoorG14
import Derived.Test.YtjlponbdflkbjaaGreatDoorG10
import Derived.Test.YtjlponbdflkbjaaGreatDoorG13
import Derived.Test.YtjlponbdflkbjaaGreatDoorG07
namespace Go.Proofs.YtjlponbdflkbjaaGreatDoor
open Go.KRun Go.Nt
set_option maxRecDepth 100000
theorem ZjZ(a v:Value)(k:Nat)(h:Hp)(g:Nat→Value):
  Runs(Zs Tryz.prog Zf Zo hcV)(.block 0(.loop(sL1 Tryz.f55)))([a,.int .i64(k:Nat),undef,undef,Zq,v,.int .u32 1,.int .i64 0]++tl 42 g,h,[]) fun e Y=>match e with | none=>(∃ g,Y.1=[a,.int .i64(k:Nat),undef,undef,Zq,v,.int .u32((2^(k % 16):Nat):Int),.int .i64((k % 16:Nat):Int)]++tl 42 g)∧Y.2.1=h | some none=>False | some(some _)=>False:=by
 have em:(k:Int).tmod 16=((k % 16:Nat):Int):=by rw[Int.tmod_eq_emod_of_nonneg(by omega)];omega
 refine Runs.forLoop(P:=fun Y=>(∃ g,Y.1=[a,.int .i64(k:Nat),undef,undef,Zq,v,.int .u32((2^(k % 16):Nat):Int),.int .i64((k % 16:Nat):Int)]++tl 42 g)∧Y.2.1=h)(R:=fun _=>False)
  (fun m Y=>∃ j:Nat,j≤k % 16∧m=k % 16-j∧(∃ g,Y.1=[a,.int .i64(k:Nat),undef,undef,Zq,v,.int .u32((2^j:Nat):Int),.int .i64(j:Nat)]++tl 42 g)∧Y.2.1=h) ?_(n:=k % 16)⟨0,by omega,by omega,⟨g,rfl⟩,rfl⟩
 rintro m⟨t,h',s⟩⟨j,hj,hm,⟨g,ht⟩,hh⟩
 simp only at ht hh
 subst ht hh
 by_cases hlt:j<k % 16
 ·refine(Zb(Zh Zd Zv)(Zwv a v k _ j h' g)(Zj(by rw[em];exact decide_eq_true(by omega))(Zu rfl))).mono fun e z hz=> ?_
  obtain⟨rfl,⟨g',z1⟩,z2⟩:=hz
  have hp:2^j≤32768:=by
   have:=Nat.pow_le_pow_right(show 0<2 by omega)(show j≤15 by omega)
   omega
  have e1:IntKind.u32.wrap(2*((2^j:Nat):Int))=((2^(j+1):Nat):Int):=by
   rw[Nat.pow_succ]
   generalize 2^j=Q at hp ⊢
   rw[zm(by omega)(by omega)]
   omega
  have e2:IntKind.i64.wrap((j:Int)+1)=((j+1:Nat):Int):=by rw[Zw(by omega)(by omega)];omega
  exact⟨k % 16-(j+1),by omega,j+1,by omega,rfl,⟨g',by rw[z1,e1,e2]⟩,z2⟩
 ·have hj':j=k % 16:=by omega
  subst hj'
  refine(Zb(Zh Zd Zv)(Zww a v k _ _ h' g)(Zj(by rw[em];exact decide_eq_false(by omega))(Zu rfl))).mono fun e z hz=> ?_
  obtain⟨rfl,⟨g',z1⟩,z2⟩:=hz
  exact⟨rfl,⟨g',z1⟩,z2⟩
theorem ZgE{L M:List Int}{k c:Nat}(hk:k=L.length)(hc:k=c)(hM:0<M.length)(hb:L.length+M.length≤1073741824):Zdo(wU L,tU)(wU M,tU) k c 0 M.length=true:=by
 subst hc
 subst hk
 unfold Zdo
 simp only[Bool.and_eq_true,Bool.not_eq_true',Zaj]
 refine⟨⟨⟨⟨⟨⟨⟨⟨Nat.beq_refl _,Nat.ble_eq_true_of_le hb⟩,by kernel_rfl⟩,Zp.2(by unfold ZW;omega)⟩,?_⟩,by kernel_rfl⟩,Nat.ble_eq_true_of_le(by omega)⟩,Zp.2 hM⟩,?_⟩
 ·cases h:Nat.ble(L.length+M.length) L.length
  ·rfl
  ·have:=Nat.le_of_ble_eq_true h
   omega
 ·rw[List.drop_zero,← Zaj,List.take_length]
  exact Ztd M
theorem Z1w{e x P:Nat}(he:e<P)(hx:x<65536)(hP:P≤32768):cy e x P=((e+x*P:Nat):Int)∧e+x*P<65536*P:=by
 have h1:x*P≤65535*P:=Nat.mul_le_mul_right P(by omega)
 have e1:(x:Int)*(P:Int)=((x*P:Nat):Int):=by simp
 unfold cy
 rw[e1,zm(n:=((x*P:Nat):Int))(by omega)(by omega),zm(by omega)(by omega)]
 omega
theorem Zri{O:List Int}{z i e x P W:Nat}(hO:O.length=z+i)(h:vb 65536 O+65536^(z+i)*e=65536^z*(P*W)):
  vb 65536(O++[(((e+x*P) % 65536:Nat):Int)])+65536^(z+(i+1))*((e+x*P)/65536)=65536^z*(P*(W+65536^i*x)):=by
 rw[ZcW,Int.toNat_natCast,hO,← Nat.add_assoc,Nat.pow_succ,Nat.mul_assoc]
 have e0:=Nat.mod_add_div(e+x*P) 65536
 have e1:65536^(z+i)*((e+x*P) % 65536)+65536^(z+i)*(65536*((e+x*P)/65536))=65536^(z+i)*e+65536^(z+i)*(x*P):=by rw[← Nat.mul_add,e0,Nat.mul_add]
 have e2:65536^z*(P*(W+65536^i*x))=65536^z*(P*W)+65536^(z+i)*(x*P):=by
  rw[Nat.mul_add P,Nat.mul_add(65536^z),Nat.pow_add]
  congr 1
  rw[Nat.mul_assoc(65536^z),Nat.mul_comm x P,Nat.mul_left_comm P]
 omega
section
variable {l : List Value} {o c : Nat} {A : List Int}
def hSt(l:List Value)(o c n z i P e:Nat)(j1 j7:Value)(O:List Int)(Y:Lf):Prop:=
 (i=0∧(∃ g,Y.1=[sl 0 o n c,j1,undef,undef,Zq,sl 1 0 z z,.int .u32(P:Nat),j7,.int .u32(e:Nat),.int .i64(i:Nat)]++tl 40 g)∨(0<i∧∃ g,Y.1=[sl 0 o n c,j1,undef,undef,Zq,sl 1 0(z+i) grown,.int .u32(P:Nat),j7,.int .u32(e:Nat),.int .i64(i:Nat)]++tl 40 g))∧Y.2.1=⟨2,[(wU O,tU),(l,tR)]⟩
theorem Zka(hR:Row l o A)(hs:∀ v∈l,still v=true)(hA:∀ x∈A,Dg 65536 x){z i P e:Nat}{O:List Int}(hO:O.length=z+i)(he:e<P)(hP:P≤32768)(hi:i<A.length)(hz:z+A.length+2<1073741824){j1 j7:Value}(w1:lt 2 j1=true∧rn(zC 1 3) j1=j1)(w7:lt 2 j7=true∧rn(zC 1 3) j7=j7){Y:Lf}(hY:hSt l o c A.length z i P e j1 j7 O Y):
  RunsW(Zs Tryz.prog Zf Zo hcV)(sL2 Tryz.f55) Y fun ex W=>ex=none∧(∃ g,W.1=[sl 0 o A.length c,j1,undef,undef,Zq,sl 1 0(z+(i+1)) grown,.int .u32(P:Nat),j7,.int .u32(((e+dgN A i*P)/65536:Nat):Int),.int .i64((i+1:Nat):Int)]++tl 40 g)∧W.2.1=⟨2,[(wU(O++[(((e+dgN A i*P) % 65536:Nat):Int)]),tU),(l,tR)]⟩:=by
 obtain⟨t,h',s⟩:=Y
 have hd:=z3 hA i
 obtain⟨ec,hlt⟩:=Z1w he hd.1 hP
 have e1:(cy e(A.getD i 0) P).tmod 65536=(((e+dgN A i*P) % 65536:Nat):Int):=by rw[← hd.2,ec,ZfG]
 have e2:IntKind.u32.wrap((cy e(A.getD i 0) P).tdiv 65536)=(((e+dgN A i*P)/65536:Nat):Int):=by rw[← hd.2,ec,ZfH(by omega)]
 have e3:IntKind.i64.wrap((i:Int)+1)=((i+1:Nat):Int):=by rw[Zw(by omega)(by omega)];omega
 have hlog:Z4(lAx l o A.length i(A.getD i 0)):=Zj rfl(Zj(by
  show Z6(l[o+(i:Int).toNat*1]?) _=true
  rw[Int.toNat_natCast,Nat.mul_one,hR.cell hi];simp [Z6])(Zj(decide_eq_true(by omega))(Zu(decide_eq_true(by omega)))))
 have ew:wU O++[.int .u32(((e+dgN A i*P) % 65536:Nat):Int)]=wU(O++[(((e+dgN A i*P) % 65536:Nat):Int)]):=by rw[ZY];rfl
 have key:∀ {X:List Value×TypeId},RunsW(Zs Tryz.prog Zf Zo hcV)(sL2 Tryz.f55)(t,h',s)(fun ex W=>ex=none∧(∃ g,W.1=[sl 0 o A.length c,j1,undef,undef,Zq,sl 3 0(z+i+1) grown,.int .u32(P:Nat),j7,.int .u32(((e+dgN A i*P)/65536:Nat):Int),.int .i64((i+1:Nat):Int)]++tl 40 g)∧W.2.1=⟨4,[(wU(O++[(((e+dgN A i*P) % 65536:Nat):Int)]),tU),([.int .u32(((e+dgN A i*P) % 65536:Nat):Int)],tU),X,(l,tR)]⟩)→
   RunsW(Zs Tryz.prog Zf Zo hcV)(sL2 Tryz.f55)(t,h',s) fun ex W=>ex=none∧(∃ g,W.1=[sl 0 o A.length c,j1,undef,undef,Zq,sl 1 0(z+(i+1)) grown,.int .u32(P:Nat),j7,.int .u32(((e+dgN A i*P)/65536:Nat):Int),.int .i64((i+1:Nat):Int)]++tl 40 g)∧W.2.1=⟨2,[(wU(O++[(((e+dgN A i*P) % 65536:Nat):Int)]),tU),(l,tR)]⟩:=fun{X} fin=>
  fin.kept(k:=1)(b:=3)(base:=[(l,tR)])(y:=(wU(O++[(((e+dgN A i*P) % 65536:Nat):Int)]),tU))(front':=[sl 0 o A.length c,j1,undef,undef,Zq,sl 1 0(z+(i+1)) grown,.int .u32(P:Nat),j7,.int .u32(((e+dgN A i*P)/65536:Nat):Int),.int .i64((i+1:Nat):Int)]) rfl
   (by simp only[List.map_cons,List.map_nil,w1.2,w7.2];kernel_rfl)(fun j x hx=>by
    have hj:j<1:=Hp.blk_lt hx
    have hj0:j=0:=by omega
    subst hj0
    have hx':x=(l,tR):=(Option.some.inj hx).symm
    subst hx'
    exact⟨rfl,hs⟩) rfl(by omega)(ZF _)(fun v hv=>by
    simp only[List.mem_cons,List.not_mem_nil,or_false] at hv
    rcases hv with rfl | rfl | rfl | rfl | rfl | rfl | rfl | rfl | rfl | rfl
    ·rfl
    ·exact w1.1
    ·rfl
    ·rfl
    ·rfl
    ·rfl
    ·rfl
    ·exact w7.1
    ·rfl
    ·rfl)
 obtain⟨hY,hh⟩:=hY
 simp only at hY hh
 subst hh
 rcases hY with⟨h0,g,ht⟩ | ⟨h0,g,ht⟩
 ·subst ht
  have hchk:Zdo(wU O,tU)([.int .u32((cy e(A.getD i 0) P).tmod 65536)],tU) z z 0 1=true:=
   ZgE(L:=O)(M:=[(cy e(A.getD i 0) P).tmod 65536])(by omega) rfl(show 0<1 by omega)(by show O.length+1≤_;omega)
  have fin:=Ze(Zh Zd Zv)(s0:=s)(Zrf o A.length c z z P e i(A.getD i 0) l(wU O) j1 j7 g)(Zj hchk hlog)
  rw[e1,e2,e3,ew] at fin
  refine key(X:=(wU O,tU))(fin.mono fun ex W hW=> ?_)
  subst h0
  exact hW
 ·subst ht
  have hchk:Zac tU(wU O,tU)([.int .u32((cy e(A.getD i 0) P).tmod 65536)],tU)(z+i) 0 1=true:=
   Zba(L:=O)(M:=[(cy e(A.getD i 0) P).tmod 65536]) hO.symm(show 0<1 by omega)(by show O.length+1≤_;omega)
  have fin:=Ze(Zh Zd Zv)(s0:=s)(Zrg o A.length c(z+i) P e i(A.getD i 0) l(wU O) j1 j7 g)(Zj hchk hlog)
  rw[e1,e2,e3,ew] at fin
  exact key(X:=([],2*ZW)) fin
def Z9E(l:List Value)(o c z P:Nat)(A:List Int)(j1 j7:Value)(m:Nat)(Y:Lf):Prop:=
 ∃ (i e:Nat)(O:List Int),m=A.length-i∧i≤A.length∧O.length=z+i∧e<P∧(∀ x∈O,Dg 65536 x)∧vb 65536 O+65536^(z+i)*e=65536^z*(P*vb 65536(A.take i))∧hSt l o c A.length z i P e j1 j7 O Y
def Z6U(l:List Value)(o c z P:Nat)(A:List Int)(j1 j7:Value)(Y:Lf):Prop:=
 ∃ (e:Nat)(O:List Int),O.length=z+A.length∧e<P∧(∀ x∈O,Dg 65536 x)∧vb 65536 O+65536^(z+A.length)*e=65536^z*(P*vb 65536 A)∧hSt l o c A.length z A.length P e j1 j7 O Y
theorem Zkb(hR:Row l o A)(hs:∀ v∈l,still v=true)(hA:∀ x∈A,Dg 65536 x){z P:Nat}(h0:0<P)(hP:P≤32768)(hz:z+A.length+2<1073741824){j1 j7:Value}(w1:lt 2 j1=true∧rn(zC 1 3) j1=j1)(w7:lt 2 j7=true∧rn(zC 1 3) j7=j7)(g:Nat→Value):
  RunsW(Zs Tryz.prog Zf Zo hcV)(.block 2(.loop(sL2 Tryz.f55)))([sl 0 o A.length c,j1,undef,undef,Zq,sl 1 0 z z,.int .u32(P:Nat),j7,.int .u32 0,.int .i64 0]++tl 40 g,⟨2,[(zz z,tU),(l,tR)]⟩,[]) fun e Y=>match e with | none=>Z6U l o c z P A j1 j7 Y | some none=>False | some(some _)=>False:=by
 have ez:zz z=wU(List.replicate z 0):=by unfold zz wU;rw[List.map_replicate]
 have vz:∀ k,vb 65536(List.replicate k 0)=0:=fun k=>by
  induction k with
  | zero=>rfl
  | succ k ih=>rw[List.replicate_succ];simp [vb,ih]
 refine RunsW.forLoop(P:=Z6U l o c z P A j1 j7)(R:=fun _=>False)(Z9E l o c z P A j1 j7) ?_(n:=A.length)⟨0,0,List.replicate z 0,by omega,by omega,by simp,h0,(fun x hx=>by rw[List.eq_of_mem_replicate hx];exact⟨by omega,by omega⟩),by rw[vz];simp [vb],.inl⟨rfl,g,rfl⟩,by rw[ez]⟩
 rintro m Y⟨i,e,O,hm,hi,hO,he,hOd,hv,hY⟩
 by_cases hlt:i<A.length
 ·have r:=Zka hR hs hA hO he hP hlt hz w1 w7 hY
  refine r.mono fun ex W hW=> ?_
  obtain⟨rfl,z1,z2⟩:=hW
  have hd:=z3 hA i
  obtain⟨_,hl2⟩:=Z1w he hd.1 hP
  refine⟨A.length-(i+1),by omega,i+1,(e+dgN A i*P)/65536,O++[(((e+dgN A i*P) % 65536:Nat):Int)],rfl,by omega,by rw[List.length_append,hO];rfl,Nat.div_lt_of_lt_mul hl2,fun x hx=> ?_,?_,.inr⟨by omega,z1⟩,z2⟩
  ·rcases List.mem_append.1 hx with hx | hx
   ·exact hOd x hx
   ·rw[List.mem_singleton.1 hx]
    exact⟨by omega,by omega⟩
  ·have e1:vb 65536(A.take(i+1))=vb 65536(A.take i)+65536^i*dgN A i:=Zag 65536 A i
   rw[e1]
   exact Zri hO hv
 ·have hil:i=A.length:=by omega
  subst hil
  rw[List.take_length] at hv
  obtain⟨t,h',s⟩:=Y
  obtain⟨hY,hh⟩:=hY
  simp only at hY hh
  subst hh
  rcases hY with⟨h0,g,ht⟩ | ⟨h0,g,ht⟩
  ·subst ht
   refine(Ze(Zh Zd Zv)(Znz _ _ _ _ _ _ _ _ j1 j7 g)(Zu(decide_eq_false(by omega)))).mono fun ex W hW=> ?_
   obtain⟨rfl,⟨g',z1⟩,z2⟩:=hW
   exact⟨rfl,e,O,hO,he,hOd,hv,.inl⟨h0,g',z1⟩,z2⟩
  ·subst ht
   refine(Ze(Zh Zd Zv)(Znz _ _ _ _ _ _ _ _ j1 j7 g)(Zu(decide_eq_false(by omega)))).mono fun ex W hW=> ?_
   obtain⟨rfl,⟨g',z1⟩,z2⟩:=hW
   exact⟨rfl,e,O,hO,he,hOd,hv,.inr⟨h0,g',z1⟩,z2⟩
end
theorem Zn0{l:List Value}{o c:Nat}{A:List Int}(hR:Row l o A)(hs:∀ v∈l,still v=true)(hA:∀ x∈A,Dg 65536 x)(h0:0<A.length){k:Nat}(hk:k/16+A.length+3<1073741824){V:Nat}(hV:V=vb 65536 A*2^k):
  RunsW(Zs Tryz.prog Zf Zo hcV)(za(sPr Tryz.f55)(.seq(.seq(sR5 Tryz.f55)(.block 0(.loop(sL1 Tryz.f55))))(.seq(sR9 Tryz.f55)(.seq(.seq(Z6T Tryz.f55)(.block 2(.loop(sL2 Tryz.f55))))(sEn Tryz.f55)))))([sl 0 o A.length c,.int .i64(k:Nat)]++List.replicate 48 undef,⟨1,[(l,tR)]⟩,[]) fun e z=>(e=none∨e=some none)∧ZZ Tryz.prog Tryz.f55 z.1 z.2.1=some(sl 3 0(d16 V).length(d16 V).length)∧∃ r,z.2.1.blk? 3=some(wU(d16 V)++r,tU):=by
 have ek:k16(k:Int)=((k/16:Nat):Int):=by
  unfold k16
  rw[Int.tdiv_eq_ediv_of_nonneg(by omega),Zw(by omega)(by omega)]
  omega
 have hP:2^(k % 16)≤32768:=by
  have:=Nat.pow_le_pow_right(show 0<2 by omega)(show k % 16≤15 by omega)
  omega
 have hP0:0<2^(k % 16):=Nat.pow_pos(by omega)
 have hpk:2^k=65536^(k/16)*2^(k % 16):=by
  rw[Zfz,← Nat.pow_add]
  congr 1
  omega
 refine Z1(Zh Zd Zv)(Zrd o A.length c k(l,tR))(Zj(by rw[ek];exact decide_eq_true(by omega))(Zu(beq_eq_false_iff_ne.2(by omega)))) fun g=> ?_
 rw[ek,Int.toNat_natCast]
 refine ZgA(Ze(Zh Zd Zv)(Zwu _ _ k _ g)(fun x hx=>by cases hx))(fun e y he=>by cases he.1)(P2:=fun e Y=>match e with | none=>(∃ g,Y.1=[sl 0 o A.length c,.int .i64(k:Nat),undef,undef,Zq,sl 1 0(k/16)(k/16),.int .u32((2^(k % 16):Nat):Int),.int .i64((k % 16:Nat):Int)]++tl 42 g)∧Y.2.1=⟨2,[(zz(k/16),tU),(l,tR)]⟩ | some none=>False | some(some _)=>False) ?_ ?_ ?_
 ·rintro⟨t,h',s⟩⟨_,⟨g',ht⟩,hh⟩
  simp only at ht hh
  subst ht hh
  exact RunsW.script(ZjZ _ _ k _ g').w
 ·intro e y he
  match e,he with
  | none,he=>exact he
  | some id,he=>exact he
 ·rintro⟨t,h',s⟩⟨⟨g',ht⟩,hh⟩
  simp only at ht hh
  subst ht hh
  refine RunsW.seq(P1:=fun e Y=>e=none∧(∃ g,Y.1=[sl 0 o A.length c,.int .i64(k:Nat),undef,undef,Zq,sl 1 0(k/16)(k/16),.int .u32((2^(k % 16):Nat):Int),.int .i64((k % 16:Nat):Int),.int .u32 0]++tl 41 g)∧Y.2.1=⟨2,[(zz(k/16),tU),(l,tR)]⟩)(Ze(Zh Zd Zv)(Zwx _ _ k _ _ _ g')(fun x hx=>by cases hx)) ?_(fun e y he=>by cases he.1)
  rintro⟨t,h',s⟩⟨_,⟨g',ht⟩,hh⟩
  simp only at ht hh
  subst ht hh
  refine ZgA(Ze(Zh Zd Zv)(Zre _ _ k _ _ _ g')(fun x hx=>by cases hx))(fun e y he=>by cases he.1)(P2:=fun e Y=>match e with | none=>Z6U l o c(k/16)(2^(k % 16)) A(.int .i64(k:Nat))(.int .i64((k % 16:Nat):Int)) Y | some none=>False | some(some _)=>False) ?_ ?_ ?_
  ·rintro⟨t,h',s⟩⟨_,⟨g',ht⟩,hh⟩
   simp only at ht hh
   subst ht hh
   exact RunsW.script(Zkb hR hs hA hP0 hP(by omega)⟨rfl,rfl⟩⟨rfl,rfl⟩ g')
  ·intro e y he
   match e,he with
   | none,he=>exact he
   | some id,he=>exact he
  ·rintro⟨t,h',s⟩⟨e,O,hO,he,hOd,hv,hY,hh⟩
   simp only at hY hh
   subst hh
   rcases hY with⟨e0,_⟩ | ⟨_,g',ht⟩
   ·omega
   ·subst ht
    have hOd':∀ x∈O++[(e:Int)],Dg 65536 x:=fun x hx=>by
     rcases List.mem_append.1 hx with hx | hx
     ·exact hOd x hx
     ·rw[List.mem_singleton.1 hx];exact⟨by omega,by omega⟩
    have hlen:(O++[(e:Int)]).length=k/16+A.length+1:=by rw[List.length_append,hO];rfl
    have ew:wU O++[.int .u32(e:Int)]=wU(O++[(e:Int)]):=by rw[ZY];rfl
    have hval:vb 65536(O++[(e:Int)])=V:=by
     rw[ZcW,hO,Int.toNat_natCast,hv,hV,hpk,Nat.mul_comm(vb 65536 A),Nat.mul_assoc]
    have hrow:Zbr tU(wU(O++[(e:Int)])) 0(k/16+A.length+1) grown=true:=by
     rw[← hlen]
     exact Zaq(fun x hx=>⟨(hOd' x hx).1,by have:=(hOd' x hx).2;omega⟩)(by omega)(ZyW _)
    have hchk:Zac tU(wU O,tU)([.int .u32(e:Int)],tU)(k/16+A.length) 0 1=true:=
     Zba(L:=O)(M:=[(e:Int)]) hO.symm(show 0<1 by omega)(by show O.length+1≤_;omega)
    refine(Ze(Zh Zd Zv)(Zrh _(k/16+A.length) _ e _(l,tR)(wU O) _ _ g')(by rw[ew];exact Zj hrow(Zu hchk))).mono fun ex W hW=> ?_
    rw[ew] at hW
    obtain⟨rfl,⟨g2,z1⟩,z2⟩:=hW
    have et:Zm(Zy(wU(O++[(e:Int)])) 0(k/16+A.length+1))=(d16 V).length:=by
     rw[← hlen,ZaQ,Zat(by omega) hOd',hval]
     rfl
    refine⟨.inr rfl,?_,?_⟩
    ·rw[z1,z2,et]
     rfl
    ·rw[z2]
     refine⟨wU((O++[(e:Int)]).drop(Zm(O++[(e:Int)]))),?_⟩
     have e3:wU(d16 V)++wU((O++[(e:Int)]).drop(Zm(O++[(e:Int)])))=wU(O++[(e:Int)]):=by
      unfold d16
      rw[← hval,← zl(by omega) _ hOd',← ZY,List.take_append_drop]
     rw[e3]
     rfl
def Zrj:Zaf:=fun vals h s=>
 match vals,s with
 | [.slice p n c,.int .i64 k],.inr(.inr(.inr(.inl d)))::s'=>
  match d with
  | true=>Zdh(vO h p n*2^k.toNat) h s' [(zG h p n c && dgB(Zr h p n) && Nat.blt(k.toNat/16+n+3) 1073741824 && decide(0≤k),true),(decide(0<n),true)]
  | false=>some(Zq,h,s',[(zG h p n c,true),(decide(0<n),false)])
 | _,_=>none
theorem ZfO:Z9 55 Zrj:=by
 intro vals h s v h' s' lg hg hl m B w E hv
 unfold Zrj at hg
 split at hg
 ·rename_i p n c k d s2
  split at hg
  ·unfold Zdh at hg
   cases hg
   have q1:=hl _(List.mem_cons_self)
   have q2:=hl _(List.mem_cons_of_mem _(List.mem_singleton.2 rfl))
   simp only[Bool.and_eq_true,decide_eq_true_eq] at q1 q2
   obtain⟨⟨⟨r1,r2⟩,r3⟩,r4⟩:=q1
   have r2:=Zby r2
   have r3:=Zp.1 r3
   obtain⟨K,rfl⟩:=Int.eq_ofNat_of_zero_le r4
   rw[Int.toNat_natCast] at r3 ⊢
   rcases ZH r1 with⟨rfl,rfl,rfl,e0⟩ | ⟨b,o,x,rfl,hx,t1,t2,e0⟩
   ·omega
   ·rw[e0] at r2
    obtain⟨h1,h2,h3,h4,h5,h6,h7⟩:=zv t1
    have ev:vO h(some⟨b,o,none⟩) n=vb 65536(Zy x.1 o n):=by unfold vO;rw[e0]
    have r:=Zn0(c:=c) h1 t2 r2(by rw[h2];exact q2)(k:=K)(by rw[h2];exact r3) rfl
    rw[h2] at r
    rw[ev]
    exact ZG(T:=Zs Tryz.prog Zf Zo hcV) Tryz.func55 Znx(ZaJ h7)(vals:=[sl 0 o n c,.int .i64(K:Nat)])(fun v hv=>by
     simp only[List.mem_cons,List.not_mem_nil,or_false] at hv
     rcases hv with rfl | rfl<;>rfl)(k:=3)(cs:=wU(d16(vb 65536(Zy x.1 o n)*2^K)))(ty:=tU)(Zbb _)(by kernel_rfl) r(by rfl) E(s:=fun _=>b)(zO hx h5 h6 rfl)
  ·cases hg
   have q1:=hl _(List.mem_cons_self)
   have q2:=hl _(List.mem_cons_of_mem _(List.mem_singleton.2 rfl))
   simp only[decide_eq_false_iff_not] at q1 q2
   have hn:n=0:=by omega
   subst hn
   obtain⟨x,p',a,NA,eA,fA⟩:=ZbN 0 q1
   have hr:Runs(Zs Tryz.prog Zf Zo hcV)(Zt Tryz.f55)([.slice p' 0 c,.int .i64 k]++List.replicate 48 undef,⟨1,[x]⟩,[]) fun e z=>(e=none∨e=some none)∧ZZ Tryz.prog Tryz.f55 z.1 z.2.1=some Zq:=by
    refine(Zb(Zh Zd Zv)(Zny p' 0 c _ _)(Zu rfl)).mono fun e z he=> ?_
    obtain⟨rfl,⟨g,e2⟩,e3⟩:=he
    refine⟨.inr rfl,?_⟩
    rw[e2,e3]
    rfl
   have b1:∀ {i:Nat}{z:List Value×TypeId},(⟨1,[x]⟩:Hp).blk? i=some z→i=0∧z=x:=fun{i z} hz=>by
    have:i<1:=Hp.blk_lt hz
    have hi:i=0:=by omega
    subst hi
    exact⟨rfl,(Option.some.inj hz).symm⟩
   have:=ZD(T:=Zs Tryz.prog Zf Zo hcV) Tryz.func55 ZjY(h0:=⟨1,[x]⟩)⟨rfl,fun b z hz=>by obtain⟨_,rfl⟩:=b1 hz;exact⟨NA.ros.1,NA.lt0,NA.ros.2⟩⟩(vals:=[.slice p' 0 c,.int .i64 k])(fun v hv=>by
    simp only[List.mem_cons,List.not_mem_nil,or_false] at hv
    rcases hv with rfl | rfl
    ·exact NA.lt(by show 0<1;omega)
    ·rfl)(v:=Zq)(by rfl) hr.w E(s:=fun _=>a)(fun i z hz ht=>by obtain⟨_,rfl⟩:=b1 hz;exact fA ht)
   simp only[List.map_cons,List.map_nil] at this
   rw[eA _ rfl] at this
   exact this
 ·cases hg
end Go.Proofs.YtjlponbdflkbjaaGreatDoor
namespace Go.Nt
set_option maxRecDepth 100000
theorem ZhD:∀ (i V:Nat),((db 65536 V).getD i 0).toNat=V/65536^i % 65536
 | i,V=>by
  by_cases hV:V=0
  ·rw[hV,zp];simp
  ·rw[Zcv(by omega) hV]
   cases i with
   | zero=>simp;omega
   | succ i=>
    have:=ZhD i(V/65536)
    rw[List.getD_cons_succ,this,Nat.div_div_eq_div_mul,Nat.pow_succ,Nat.mul_comm(65536^i)]
theorem Z6V{c:Nat}(h:c<4294967296):c/65536 % 65536*65536+c % 65536=c:=by omega
theorem Zwy{v:Nat}(h:v<281474976710656):v/4294967296 % 65536*4294967296+v/65536 % 65536*65536+v % 65536=v:=by
 have h1:v/4294967296<65536:=by omega
 have h2:v/4294967296=v/65536/65536:=by rw[Nat.div_div_eq_div_mul]
 rw[Nat.mod_eq_of_lt h1,h2]
 omega
theorem Z6W{v:Nat}(h:v<4294967296):v/65536 % 65536*4294967296+v % 65536*65536+0=v*65536:=by omega
def Zrk(V n:Nat):Nat:=(V/65536^n % 65536)*4294967296+(V/65536^(n-1) % 65536)*65536+(if 2≤n then V/65536^(n-2) % 65536 else 0)
def ZoI(B n:Nat):Nat:=(B/65536^(n-1) % 65536)*65536+(if 2≤n then B/65536^(n-2) % 65536 else 0)
theorem Z1x{V B n:Nat}(hn:1≤n)(h0:65536^(n-1)≤B)(h1:B<65536^n)(hV:V<65536*B):0<ZoI B n∧ZoI B n<4294967296∧Zrk V n<281474976710656∧V/B≤Zrk V n/ZoI B n∧V/B<65536:=by
 have hp:0<65536^(n-1):=Nat.pow_pos(by omega)
 have hB:0<B:=by omega
 have hd:V/B<65536:=by rw[Nat.div_lt_iff_lt_mul hB];exact hV
 have b1:ZoI B n<4294967296:=by
  have:=Nat.mod_lt(B/65536^(n-1))(show 0<65536 by omega)
  have:=Nat.mod_lt(B/65536^(n-2))(show 0<65536 by omega)
  unfold ZoI;split<;>omega
 have b2:Zrk V n<281474976710656:=by
  have:=Nat.mod_lt(V/65536^n)(show 0<65536 by omega)
  have:=Nat.mod_lt(V/65536^(n-1))(show 0<65536 by omega)
  have:=Nat.mod_lt(V/65536^(n-2))(show 0<65536 by omega)
  unfold Zrk;split<;>omega
 by_cases h2:2≤n
 ·obtain⟨k,rfl⟩:∃ k,n=k+2:=⟨n-2,by omega⟩
  have e1:k+2-1=k+1:=by omega
  have e2:k+2-2=k:=by omega
  rw[e1] at h0
  unfold Zrk ZoI at*
  rw[e1,e2,if_pos h2] at*
  rw[if_pos h2] at*
  have hw:0<65536^k:=Nat.pow_pos(by omega)
  have dv:∀ x j:Nat,x/65536^(k+j)=x/65536^k/65536^j:=fun x j=>by rw[Nat.pow_add,Nat.div_div_eq_div_mul]
  rw[dv V 2,dv V 1,dv B 1] at*
  have p1:(65536:Nat)^1=65536:=rfl
  have p2:(65536:Nat)^2=4294967296:=rfl
  rw[p1,p2] at*
  have hBw:B/65536^k<4294967296:=by
   rw[Nat.div_lt_iff_lt_mul hw]
   have:65536^(k+2)=4294967296*65536^k:=by rw[Nat.pow_add,p2,Nat.mul_comm]
   omega
  have hBl:65536≤B/65536^k:=by
   rw[Nat.le_div_iff_mul_le hw]
   have:65536^(k+1)=65536*65536^k:=by rw[Nat.pow_add,p1,Nat.mul_comm]
   omega
  have hVw:V/65536^k<281474976710656:=by
   rw[Nat.div_lt_iff_lt_mul hw]
   have:65536^(k+2)=4294967296*65536^k:=by rw[Nat.pow_add,p2,Nat.mul_comm]
   omega
  have hm:V/B*(B/65536^k)≤V/65536^k:=by
   rw[Nat.le_div_iff_mul_le hw,Nat.mul_assoc]
   have h3:B/65536^k*65536^k≤B:=Nat.div_mul_le_self _ _
   have h4:=Nat.mul_le_mul_left(V/B) h3
   have h5:=Nat.div_mul_le_self V B
   omega
  generalize V/65536^k=v at*
  generalize B/65536^k=c at*
  have ec:=Z6V hBw
  have ev:=Zwy hVw
  rw[ec,ev]
  have hc:0<c:=Nat.lt_of_lt_of_le(by decide) hBl
  refine⟨hc,hBw,hVw,?_,hd⟩
  rw[Nat.le_div_iff_mul_le hc]
  exact hm
 ·have e:n=1:=by omega
  subst e
  unfold Zrk ZoI at*
  rw[if_neg h2] at*
  rw[if_neg h2] at*
  have p1:(65536:Nat)^1=65536:=rfl
  have p0:(65536:Nat)^(1-1)=1:=rfl
  rw[p1] at*
  rw[p0] at*
  rw[Nat.div_one] at*
  rw[Nat.div_one] at*
  have hB1:B<65536:=h1
  have hV1:V<4294967296:=Nat.lt_of_lt_of_le hV(Nat.mul_le_mul_left 65536(Nat.le_of_lt hB1))
  have eB:B % 65536*65536+0=B*65536:=by rw[Nat.mod_eq_of_lt hB1,Nat.add_zero]
  have eV:=Z6W hV1
  rw[eB,eV]
  rw[eB] at b1
  rw[eV] at b2
  refine⟨Nat.mul_pos hB(by decide),b1,b2,?_,hd⟩
  rw[Nat.mul_div_mul_right _ _(by decide)]
  exact Nat.le_refl _
theorem Z1y{L:List Int}(hC:Zbl 65536 L)(h:1≤L.length):65536^(L.length-1)≤vb 65536 L:=by
 rcases Nat.lt_or_ge(vb 65536 L)(65536^(L.length-1)) with h1 | h1
 ·have:=ZaY(b:=65536)(by omega) _ _ h1
  rw[Zlf(by omega) hC] at this
  omega
 ·exact h1
theorem ZfP{L:List Int}{i:Nat}(h:i<L.length):vb 65536(L.drop i)=(L.getD i 0).toNat+65536*vb 65536(L.drop(i+1)):=by
 rw[List.drop_eq_getElem_cons h]
 simp only[vb]
 simp [List.getD,List.getElem?_eq_getElem h]
end Go.Nt
namespace Go.Proofs.YtjlponbdflkbjaaGreatDoor
open Go.KRun Go.Nt
set_option maxRecDepth 100000
set_option linter.unusedVariables false
def paP(F:Func):List Code:=[Z5(Zt F),Z5(Z0(Zt F)),Z5(Z0(Z0(Zt F))),Z5(Z0(Z0(Z0(Zt F))))]
def paS(F:Func):Code:=Z0(Z0(Z0(Z0(Zt F))))
def paB(F:Func):Code:=Z5(paS F)
def paL(F:Func):Code:=cIn(cIn(Z0(paB F)))
def paE(F:Func):Code:=Z0(paS F)
def paH(F:Func):Code:=Z5(paL F)
def paX(F:Func):Code:=cIn(Z5(Z0(paL F)))
def paI(F:Func):Code:=Z0(Z0(paL F))
def x7(F:Func):Code:=Z5(paX F)
def x8(F:Func):Code:=Z5(Z0(paX F))
def x9(F:Func):Code:=Z5(Z0(Z0(paX F)))
def x10(F:Func):Code:=Z5(Z0(Z0(Z0(paX F))))
def x11(F:Func):Code:=Z5(Z0(Z0(Z0(Z0(paX F)))))
def xT(F:Func):Code:=Z0(Z0(Z0(Z0(Z0(paX F)))))
def yL(F:Func):Code:=cIn(cIn(Z5(xT F)))
def yH(F:Func):Code:=Z5(yL F)
def yB(F:Func):Code:=cIn(Z0(yL F))
def xE(F:Func):Code:=Z0(xT F)
def hcP:Hc:=zS 93 Z4H(zS 92 ZmW(zS 91 ZqF(zS 94 gAt(zS 88 Zi9 hcN))))
def pFr(o n c o' n' c' z:Nat)(r:Value)(i:Int)(v10 v11:Value):List Value:=[sl 0 o n c,sl 1 o' n' c',undef,undef,Zq,Zq,r,sl 2 0 z z,.int .i64 n',.int .i64 i,v10,v11]
def hB3(wq lb la:List Value):Hp:=⟨3,[(wq,tU),(lb,tR),(la,tR)]⟩
def hB4(wr wq lb la:List Value):Hp:=⟨4,[(wr,tU),(wq,tU),(lb,tR),(la,tR)]⟩
def hB5(wp wr wq lb la:List Value):Hp:=⟨5,[(wp,tU),(wr,tU),(wq,tU),(lb,tR),(la,tR)]⟩
theorem Z1z:HcOk hcP:=Z2 Tryz.func93 rfl ZhC(Z2 Tryz.func92 rfl ZfJ(Z2 Tryz.func91 rfl ZiE(Z2 Tryz.func94 rfl Zte(Z2 Tryz.func88 rfl Zg9 Zam))))
theorem Zwz:Tryz.f54.body=some(za(paP Tryz.f54)(.seq(.seq(Z5(paB Tryz.f54))(.block 0(.loop(paL Tryz.f54))))(paE Tryz.f54))):=by kernel_rfl
theorem Zn1:paL Tryz.f54= .seq(paH Tryz.f54)(.seq(.block 1(paX Tryz.f54))(paI Tryz.f54)):=by kernel_rfl
theorem Z9F:paX Tryz.f54= .seq(x7 Tryz.f54)(.seq(x8 Tryz.f54)(.seq(x9 Tryz.f54)(.seq(x10 Tryz.f54)(.seq(x11 Tryz.f54)(.seq(.block 2(.loop(yL Tryz.f54)))(xE Tryz.f54)))))):=by kernel_rfl
theorem Z9G:yL Tryz.f54= .seq(yH Tryz.f54)(.block 3(yB Tryz.f54)):=by kernel_rfl
def aP(b o:Nat):Option Addr:=some⟨b,o,none⟩
def inP(i:Int)(n:Nat):Bool×Bool:=(decide(0≤i∧i<(n:Int)),true)
def ceP(l:List Value)(o:Nat)(i x:Int):Bool×Bool:=(Z6(l[o+i.toNat*1]?)(.int .u32 x),true)
def tR3(R:List Int)(n':Nat):Int:=IntKind.u64.wrap(IntKind.u64.wrap(IntKind.u64.wrap(IntKind.u64.wrap(atN R n')*2^min(Int.toNat 32) 64)+IntKind.u64.wrap(IntKind.u64.wrap(atN R(IntKind.i64.wrap((n':Int)-1)))*2^min(Int.toNat 16) 64))+IntKind.u64.wrap(atN R(IntKind.i64.wrap((n':Int)-2))))
def tB2(x:Int)(L:List Int)(n':Nat):Int:=IntKind.u64.wrap(IntKind.u64.wrap(IntKind.u64.wrap x*2^min(Int.toNat 16) 64)+IntKind.u64.wrap(atN L(IntKind.i64.wrap((n':Int)-2))))
def Z6X(q:Int):Int:=if 65535<q then 65535 else q
theorem Z10(o n c o' n' c':Nat)(la lb:List Value):Zg(evL(Zs Tryz.prog Zf Zo hcP) 200(paP Tryz.f54)([sl 0 o n c,sl 1 o' n' c']++List.replicate 93 undef,⟨2,[(lb,tR),(la,tR)]⟩,[at_])⟨[],[],[]⟩) 12 83 none [sl 0 o n c,sl 1 o' n' c',undef,undef,Zq,Zq,Zq,sl 2 0(n:Int).toNat(n:Int).toNat,.int .i64 n',undef,undef,undef](hB3(List.replicate(n:Int).toNat(.int .u32 0)) lb la) [(ZL 4(n:Int)(n:Int),true)]:=⟨by kernel_rfl,by kernel_rfl,by kernel_rfl⟩
theorem Z6Y(o n c o' n' c' z:Nat)(r v9 v10 v11:Value)(h:Hp)(g:Nat→Value):Zg(evC(Zs Tryz.prog Zf Zo hcP) 200 false(Z5(paB Tryz.f54))([sl 0 o n c,sl 1 o' n' c',undef,undef,Zq,Zq,r,sl 2 0 z z,.int .i64 n',v9,v10,v11]++tl 83 g,h,[])⟨[],[],[]⟩) 12 83 none(pFr o n c o' n' c' z r(IntKind.i64.wrap((n:Int)-1)) v10 v11) h []:=⟨by kernel_rfl,by kernel_rfl,by kernel_rfl⟩
theorem Z6Z(o n c o' n' c' z:Nat)(r v10 v11:Value)(i:Int)(h:Hp)(g:Nat→Value):Zg(evC(Zs Tryz.prog Zf Zo hcP) 200 false(paH Tryz.f54)(pFr o n c o' n' c' z r i v10 v11++tl 83 g,h,[cmp true])⟨[],[],[]⟩) 12 83 none(pFr o n c o' n' c' z r i v10 v11) h [(decide(i≥0),true)]:=⟨by kernel_rfl,by kernel_rfl,by kernel_rfl⟩
theorem Z7a(o n c o' n' c' z:Nat)(r v10 v11:Value)(i:Int)(h:Hp)(g:Nat→Value):Zg(evC(Zs Tryz.prog Zf Zo hcP) 200 false(paH Tryz.f54)(pFr o n c o' n' c' z r i v10 v11++tl 83 g,h,[cmp false])⟨[],[],[]⟩) 12 83(some(some 0))(pFr o n c o' n' c' z r i v10 v11) h [(decide(i≥0),false)]:=⟨by kernel_rfl,by kernel_rfl,by kernel_rfl⟩
theorem Z7b(o n c o' n' c' z:Nat)(v10 v11:Value)(i d:Int)(wq lb la:List Value)(g:Nat→Value):Zg(evC(Zs Tryz.prog Zf Zo hcP) 200 false(x7 Tryz.f54)(pFr o n c o' n' c' z Zq i v10 v11++tl 83 g,hB3 wq lb la,[at_,val(.int .u32 d)])⟨[],[],[]⟩) 12 83 none(pFr o n c o' n' c' z(sl 3 0(Zm(Zy [.int .u32 d] 0 1))(Zm(Zy [.int .u32 d] 0 1))) i v10 v11)(hB4 [.int .u32 d] wq lb la) [(Zbr tU [.int .u32 d] 0 1 1,true),ceP la o i d,inP i n]:=⟨by kernel_rfl,by kernel_rfl,by kernel_rfl⟩
theorem Z7c(o n c o' n' c' z:Nat)(v10 v11:Value)(i d:Int)(wr wq lb la:List Value)(g:Nat→Value):Zg(evC(Zs Tryz.prog Zf Zo hcP) 200 false(x7 Tryz.f54)(pFr o n c o' n' c' z(sl 3 0 0 0) i v10 v11++tl 83 g,hB4 wr wq lb la,[at_,val(.int .u32 d)])⟨[],[],[]⟩) 12 83 none(pFr o n c o' n' c' z(sl 4 0(Zm(Zy [.int .u32 d] 0 1))(Zm(Zy [.int .u32 d] 0 1))) i v10 v11)(hB5 [.int .u32 d] wr wq lb la) [(Zbr tU [.int .u32 d] 0 1 1,true),ceP la o i d,inP i n]:=⟨by kernel_rfl,by kernel_rfl,by kernel_rfl⟩
theorem Z7d(o n c o' n' c' z k:Nat)(v10 v11:Value)(i d:Int)(wr wq lb la:List Value)(g:Nat→Value):Zg(evC(Zs Tryz.prog Zf Zo hcP) 200 false(x7 Tryz.f54)(pFr o n c o' n' c' z(sl 3 0 k k) i v10 v11++tl 83 g,hB4 wr wq lb la,[at_,val(.int .u32 d),num 0])⟨[],[],[]⟩) 12 83 none(pFr o n c o' n' c' z(sl 5 0(Zm(Zy([.int .u32 d]++List.take k(List.drop 0 wr)) 0(1+k)))(Zm(Zy([.int .u32 d]++List.take k(List.drop 0 wr)) 0(1+k)))) i v10 v11)⟨6,[(([.int .u32 d]++List.take k(List.drop 0 wr)),tU),([.int .u32 d],tU),(wr,tU),(wq,tU),(lb,tR),(la,tR)]⟩ [(Zbr tU([.int .u32 d]++List.take k(List.drop 0 wr)) 0(1+k) grown,true),(Zdo([.int .u32 d],tU)(wr,tU) 1 1 0 k,true),ceP la o i d,inP i n]:=⟨by kernel_rfl,by kernel_rfl,by kernel_rfl⟩
theorem Z7e(o n c o' n' c' z k:Nat)(v10 v11:Value)(i:Int)(wr wq lb la:List Value)(g:Nat→Value):Zg(evC(Zs Tryz.prog Zf Zo hcP) 200 false(x8 Tryz.f54)(pFr o n c o' n' c' z(sl 3 0 k k) i v10 v11++tl 83 g,hB4 wr wq lb la,[cmp true])⟨[],[],[]⟩) 12 83(some(some 1))(pFr o n c o' n' c' z(sl 3 0 k k) i v10 v11)(hB4 wr wq lb la) [(decide(ZcR(vO(hB4 wr wq lb la)(aP 3 0) k)(vO(hB4 wr wq lb la)(aP 1 o') n')<0),true),(ZV(hB4 wr wq lb la)(aP 3 0)(aP 1 o') k k n' c',true)]:=⟨by kernel_rfl,by kernel_rfl,by kernel_rfl⟩
theorem Z7f(o n c o' n' c' z k:Nat)(v10 v11:Value)(i:Int)(wr wq lb la:List Value)(g:Nat→Value):Zg(evC(Zs Tryz.prog Zf Zo hcP) 200 false(x8 Tryz.f54)(pFr o n c o' n' c' z(sl 3 0 k k) i v10 v11++tl 83 g,hB4 wr wq lb la,[cmp false])⟨[],[],[]⟩) 12 83 none(pFr o n c o' n' c' z(sl 3 0 k k) i v10 v11)(hB4 wr wq lb la) [(decide(ZcR(vO(hB4 wr wq lb la)(aP 3 0) k)(vO(hB4 wr wq lb la)(aP 1 o') n')<0),false),(ZV(hB4 wr wq lb la)(aP 3 0)(aP 1 o') k k n' c',true)]:=⟨by kernel_rfl,by kernel_rfl,by kernel_rfl⟩
theorem Z9H(o n c o' n' c' z:Nat)(r v10 v11:Value)(i:Int)(h:Hp)(g:Nat→Value):Zg(evC(Zs Tryz.prog Zf Zo hcP) 200 false(paI Tryz.f54)(pFr o n c o' n' c' z r i v10 v11++tl 83 g,h,[])⟨[],[],[]⟩) 12 83 none(pFr o n c o' n' c' z r(IntKind.i64.wrap(i-1)) v10 v11) h []:=⟨by kernel_rfl,by kernel_rfl,by kernel_rfl⟩
theorem Z9I(o n c o' n' c' z k:Nat)(v10 v11:Value)(i:Int)(wr wq lb la:List Value)(g:Nat→Value):Zg(evC(Zs Tryz.prog Zf Zo hcP) 200 false(x9 Tryz.f54)(pFr o n c o' n' c' z(sl 3 0 k k) i v10 v11++tl 83 g,hB4 wr wq lb la,[])⟨[],[],[]⟩) 12 83 none(pFr o n c o' n' c' z(sl 3 0 k k) i(.int .u64(tR3(Zr(hB4 wr wq lb la)(aP 3 0) k) n')) v11)(hB4 wr wq lb la) [(zG(hB4 wr wq lb la)(aP 3 0) k k,true),(decide((16:Int)<0),false),(zG(hB4 wr wq lb la)(aP 3 0) k k,true),(decide((32:Int)<0),false),(zG(hB4 wr wq lb la)(aP 3 0) k k,true)]:=⟨by kernel_rfl,by kernel_rfl,by kernel_rfl⟩
theorem Z7g(o n c o' n' c' z k:Nat)(v11:Value)(i t x q:Int)(wr wq lb la:List Value)(g:Nat→Value):Zg(evC(Zs Tryz.prog Zf Zo hcP) 200 false(x10 Tryz.f54)(pFr o n c o' n' c' z(sl 3 0 k k) i(.int .u64 t) v11++tl 83 g,hB4 wr wq lb la,[at_,val(.int .u32 x),num q])⟨[],[],[]⟩) 12 83 none(pFr o n c o' n' c' z(sl 3 0 k k) i(.int .u64 t)(.int .u64(Z6X q)))(hB4 wr wq lb la) [(decide((tB2 x(Zr(hB4 wr wq lb la)(aP 1 o') n') n')=0),false),(decide(IntKind.u64.wrap(t.tdiv(tB2 x(Zr(hB4 wr wq lb la)(aP 1 o') n') n'))=q),true),(zG(hB4 wr wq lb la)(aP 1 o') n' c',true),(decide((16:Int)<0),false),ceP lb o'(IntKind.i64.wrap((n':Int)-1)) x,inP(IntKind.i64.wrap((n':Int)-1)) n']:=⟨by kernel_rfl,by kernel_rfl,by kernel_rfl⟩
def pV(h:Hp)(o' n':Nat)(e:Int):Nat:=vO h(aP 1 o') n'*(IntKind.u32.wrap e).toNat+Int.toNat 0
theorem Z7h(o n c o' n' c' z k:Nat)(v10:Value)(i e:Int)(wr wq lb la:List Value)(g:Nat→Value):Zg(evC(Zs Tryz.prog Zf Zo hcP) 200 false(x11 Tryz.f54)(pFr o n c o' n' c' z(sl 3 0 k k) i v10(.int .u64 e)++tl 83 g,hB4 wr wq lb la,[cmp true])⟨[],[],[]⟩) 13 82 none(pFr o n c o' n' c' z(sl 3 0 k k) i v10(.int .u64 e)++[sl 4 0(d16(pV(hB4 wr wq lb la) o' n' e)).length(d16(pV(hB4 wr wq lb la) o' n' e)).length])(hB5(wU(d16(pV(hB4 wr wq lb la) o' n' e))) wr wq lb la) [(ZaU(hB4 wr wq lb la)(aP 1 o') n' c'(IntKind.u32.wrap e) 0,true),(decide(0<n'∨(0:Int)<0),true)]:=⟨by kernel_rfl,by kernel_rfl,by kernel_rfl⟩
theorem Z7i(o n c o' n' c' z k j:Nat)(v10:Value)(i e:Int)(wp wr wq lb la:List Value)(g:Nat→Value):Zg(evC(Zs Tryz.prog Zf Zo hcP) 200 false(yH Tryz.f54)(pFr o n c o' n' c' z(sl 3 0 k k) i v10(.int .u64 e)++[sl 4 0 j j]++tl 82 g,hB5 wp wr wq lb la,[cmp true])⟨[],[],[]⟩) 13 82 none(pFr o n c o' n' c' z(sl 3 0 k k) i v10(.int .u64 e)++[sl 4 0 j j])(hB5 wp wr wq lb la) [(decide(ZcR(vO(hB5 wp wr wq lb la)(aP 4 0) j)(vO(hB5 wp wr wq lb la)(aP 3 0) k)>0),true),(ZV(hB5 wp wr wq lb la)(aP 4 0)(aP 3 0) j j k k,true)]:=⟨by kernel_rfl,by kernel_rfl,by kernel_rfl⟩
theorem Z7j(o n c o' n' c' z k j:Nat)(v10:Value)(i e:Int)(wp wr wq lb la:List Value)(g:Nat→Value):Zg(evC(Zs Tryz.prog Zf Zo hcP) 200 false(yH Tryz.f54)(pFr o n c o' n' c' z(sl 3 0 k k) i v10(.int .u64 e)++[sl 4 0 j j]++tl 82 g,hB5 wp wr wq lb la,[cmp false])⟨[],[],[]⟩) 13 82(some(some 2))(pFr o n c o' n' c' z(sl 3 0 k k) i v10(.int .u64 e)++[sl 4 0 j j])(hB5 wp wr wq lb la) [(decide(ZcR(vO(hB5 wp wr wq lb la)(aP 4 0) j)(vO(hB5 wp wr wq lb la)(aP 3 0) k)>0),false),(ZV(hB5 wp wr wq lb la)(aP 4 0)(aP 3 0) j j k k,true)]:=⟨by kernel_rfl,by kernel_rfl,by kernel_rfl⟩
theorem Z7k(o n c o' n' c' z k j:Nat)(v10:Value)(i e:Int)(wp wr wq lb la:List Value)(g:Nat→Value):Zg(evC(Zs Tryz.prog Zf Zo hcP) 200 false(yB Tryz.f54)(pFr o n c o' n' c' z(sl 3 0 k k) i v10(.int .u64 e)++[sl 4 0 j j]++tl 82 g,hB5 wp wr wq lb la,[cmp true])⟨[],[],[]⟩) 13 82 none(pFr o n c o' n' c' z(sl 3 0 k k) i v10(.int .u64(IntKind.u64.wrap(e-1)))++[sl 5 0(d16(vO(hB5 wp wr wq lb la)(aP 4 0) j-vO(hB5 wp wr wq lb la)(aP 1 o') n')).length(d16(vO(hB5 wp wr wq lb la)(aP 4 0) j-vO(hB5 wp wr wq lb la)(aP 1 o') n')).length])⟨6,[(wU(d16(vO(hB5 wp wr wq lb la)(aP 4 0) j-vO(hB5 wp wr wq lb la)(aP 1 o') n')),tU),(wp,tU),(wr,tU),(wq,tU),(lb,tR),(la,tR)]⟩ [(ZV(hB5 wp wr wq lb la)(aP 4 0)(aP 1 o') j j n' c' && Nat.ble(vO(hB5 wp wr wq lb la)(aP 1 o') n')(vO(hB5 wp wr wq lb la)(aP 4 0) j),true),(decide(0<j),true)]:=⟨by kernel_rfl,by kernel_rfl,by kernel_rfl⟩
theorem Z9J(o n c o' n' c' z k j:Nat)(v10:Value)(i e:Int)(wp wr wq lb la:List Value)(g:Nat→Value):Zg(evC(Zs Tryz.prog Zf Zo hcP) 200 false(xE Tryz.f54)(pFr o n c o' n' c' z(sl 3 0 k k) i v10(.int .u64 e)++[sl 4 0 j j]++tl 82 g,hB5 wp wr wq lb la,[cmp true,at_,at_])⟨[],[],[]⟩) 12 83 none(pFr o n c o' n' c' z(sl 5 0(d16(vO(hB5 wp wr wq lb la)(aP 3 0) k-vO(hB5 wp wr wq lb la)(aP 4 0) j)).length(d16(vO(hB5 wp wr wq lb la)(aP 3 0) k-vO(hB5 wp wr wq lb la)(aP 4 0) j)).length) i v10(.int .u64 e))⟨6,[(wU(d16(vO(hB5 wp wr wq lb la)(aP 3 0) k-vO(hB5 wp wr wq lb la)(aP 4 0) j)),tU),(wp,tU),(wr,tU),(wq.set(0+i.toNat*1)(.int .u32(IntKind.u32.wrap e)),tU),(lb,tR),(la,tR)]⟩ [(decide(0+i.toNat*1<wq.length),true),inP i z,(ZV(hB5 wp wr wq lb la)(aP 3 0)(aP 4 0) k k j j && Nat.ble(vO(hB5 wp wr wq lb la)(aP 4 0) j)(vO(hB5 wp wr wq lb la)(aP 3 0) k),true),(decide(0<k),true)]:=⟨by kernel_rfl,by kernel_rfl,by kernel_rfl⟩
theorem Z11(o n c o' n' c' z k:Nat)(v9 v10 v11:Value)(wr wq lb la:List Value)(g:Nat→Value):Zg(evC(Zs Tryz.prog Zf Zo hcP) 200 false(paE Tryz.f54)([sl 0 o n c,sl 1 o' n' c',undef,undef,Zq,Zq,sl 3 0 k k,sl 2 0 z z,.int .i64 n',v9,v10,v11]++tl 83 g,hB4 wr wq lb la,[])⟨[],[],[]⟩) 6 89(some none) [sl 0 o n c,sl 1 o' n' c',undef,undef,sl 2 0(Zm(Zy wq 0 z))(Zm(Zy wq 0 z)),sl 3 0 k k](hB4 wr wq lb la) [(Zbr tU wq 0 z z,true)]:=⟨by kernel_rfl,by kernel_rfl,by kernel_rfl⟩
theorem RunsW.next{T:Tab}{c1 c2:Code}{x:Lf}{front:List Value}{n:Nat}{h:Hp}{P:Ex→Lf→Prop}(h1:RunsW T c1 x fun e y=>e=none∧(∃ g,y.1=front++tl n g)∧y.2.1=h)(h2:∀ g s,RunsW T c2(front++tl n g,h,s) P):RunsW T(.seq c1 c2) x P:=by
 refine RunsW.seq h1(fun y hy=> ?_)(fun e y hy=>by cases hy.1)
 obtain⟨_,⟨g,e1⟩,e2⟩:=hy
 obtain⟨t,hh,s⟩:=y
 simp only at e1 e2
 subst e1 e2
 exact h2 g s
theorem ZbR{h:Hp}{b A:Nat}{ty:TypeId}(hb:h.blk? b=some(wU(d16 A),ty)):Zr h(aP b 0)(d16 A).length=d16 A:=by
 unfold Zr aP
 simp only[hb]
 exact ZaQ _
theorem Zrl{h:Hp}{b A:Nat}{ty:TypeId}(hb:h.blk? b=some(wU(d16 A),ty)):vO h(aP b 0)(d16 A).length=A:=by
 unfold vO
 rw[ZbR hb]
 exact Zb0(by omega) A
theorem Zn2(A:Nat):∀ x∈d16 A,0≤x∧x<4294967296:=fun x hx=>⟨(Zbd A x hx).1,by have:=(Zbd A x hx).2;omega⟩
theorem Z4I{n:Nat}(h:n<1000000000):Zdd 0 n n=true:=by
 unfold Zdd
 have:ZB n=true:=by unfold ZB;exact Zp.2(by have:ZW=4611686018427387904:=rfl;omega)
 rw[this,Nat.ble_eq_true_of_le(Nat.le_refl n)]
 rfl
theorem ZgF{h:Hp}{b A:Nat}(hb:h.blk? b=some(wU(d16 A),tU))(hl:(d16 A).length<1000000000):zG h(aP b 0)(d16 A).length(d16 A).length=true:=by
 unfold zG aP
 simp only[hb]
 rw[Zaq(Zn2 A)(by omega)(Z4I hl),List.all_eq_true.2(ZF _)]
 rfl
theorem ZdE{h:Hp}{p q:Option Addr}{n c n' c':Nat}(h1:zG h p n c=true)(h2:zG h q n' c'=true)(h3:∀ x∈Zr h p n,Dg 65536 x)(h4:∀ x∈Zr h q n',Dg 65536 x)(h5:max n n'+2<1073741824):ZV h p q n c n' c'=true:=by
 unfold ZV
 rw[h1,h2,ZbO h3,ZbO h4,Zp.2 h5]
 rfl
theorem ZcH{A k:Nat}(h:A<65536^k):(d16 A).length≤k:=ZaY(by omega) k A h
theorem ZiQ(V:Nat)(i:Int):atN(d16 V) i=if 0≤i then((V/65536^i.toNat % 65536:Nat):Int) else 0:=by
 unfold atN
 split
 ·have h1:=ZhD i.toNat V
  have h2:=Zei(Zbd V) i.toNat
  have h3:((d16 V).getD i.toNat 0).toNat=V/65536^i.toNat % 65536:=h1
  have:=h2.1
  omega
 ·rfl
theorem w64{n:Int}(h0:0≤n)(h1:n<18446744073709551616):IntKind.u64.wrap n=n:=by simp [IntKind.wrap,IntKind.bits,IntKind.signed];omega
theorem Z12(V n:Nat)(hn:1≤n)(hn2:n<1000000):tR3(d16 V) n=(Zrk V n:Int):=by
 have e1:IntKind.i64.wrap((n:Int)-1)=((n-1:Nat):Int):=by rw[Zw(by omega)(by omega)];omega
 have e2:IntKind.i64.wrap((n:Int)-2)=(n:Int)-2:=Zw(by omega)(by omega)
 have p32:(2:Int)^min(Int.toNat 32) 64=4294967296:=rfl
 have p16:(2:Int)^min(Int.toNat 16) 64=65536:=rfl
 have m1:=Nat.mod_lt(V/65536^n)(show 0<65536 by omega)
 have m2:=Nat.mod_lt(V/65536^(n-1))(show 0<65536 by omega)
 have m3:=Nat.mod_lt(V/65536^(n-2))(show 0<65536 by omega)
 unfold tR3 Zrk
 rw[e1,e2,p32,p16,ZiQ,ZiQ,ZiQ,if_pos(by omega),if_pos(by omega),Int.toNat_natCast,Int.toNat_natCast]
 by_cases h2:2≤n
 ·have e3:((n:Int)-2).toNat=n-2:=by omega
  rw[if_pos(by omega),if_pos h2,e3]
  generalize V/65536^n % 65536=a at*
  generalize V/65536^(n-1) % 65536=b at*
  generalize V/65536^(n-2) % 65536=d at*
  rw[w64(n:=(a:Int))(by omega)(by omega),w64(n:=(a:Int)*4294967296)(by omega)(by omega),w64(n:=(b:Int))(by omega)(by omega),w64(n:=(b:Int)*65536)(by omega)(by omega),w64(n:=(d:Int))(by omega)(by omega),w64(n:=(a:Int)*4294967296+(b:Int)*65536)(by omega)(by omega),w64(by omega)(by omega)]
  omega
 ·rw[if_neg(by omega),if_neg h2]
  generalize V/65536^n % 65536=a at*
  generalize V/65536^(n-1) % 65536=b at*
  rw[w64(n:=(a:Int))(by omega)(by omega),w64(n:=(a:Int)*4294967296)(by omega)(by omega),w64(n:=(b:Int))(by omega)(by omega),w64(n:=(b:Int)*65536)(by omega)(by omega),w64(n:=(0:Int))(by omega)(by omega),w64(n:=(a:Int)*4294967296+(b:Int)*65536)(by omega)(by omega),w64(by omega)(by omega)]
  omega
theorem Z13{L:List Int}(hC:Zbl 65536 L)(hn:1≤L.length)(hn2:L.length<1000000):tB2(L.getD(L.length-1) 0) L L.length=(ZoI(vb 65536 L) L.length:Int):=by
 have e2:IntKind.i64.wrap((L.length:Int)-2)=(L.length:Int)-2:=Zw(by omega)(by omega)
 have p16:(2:Int)^min(Int.toNat 16) 64=65536:=rfl
 obtain⟨B,hB⟩:∃ B,B=vb 65536 L:=⟨_,rfl⟩
 have eL:L=d16 B:=by rw[hB];exact(Zlf(by omega) hC).symm
 have ex:L.getD(L.length-1) 0=((B/65536^(L.length-1) % 65536:Nat):Int):=by
  have h1:=ZhD(L.length-1) B
  have h2:=(Zei hC.1(L.length-1)).1
  have h3:(L.getD(L.length-1) 0).toNat=B/65536^(L.length-1) % 65536:=by
   rw[← h1]
   show(L.getD _ 0).toNat=((d16 B).getD _ 0).toNat
   rw[← eL]
  omega
 have ea:atN L((L.length:Int)-2)=if 0≤(L.length:Int)-2 then((B/65536^((L.length:Int)-2).toNat % 65536:Nat):Int) else 0:=by
  have:=ZiQ B((L.length:Int)-2)
  rw[← eL] at this
  exact this
 have m2:=Nat.mod_lt(B/65536^(L.length-1))(show 0<65536 by omega)
 have m3:=Nat.mod_lt(B/65536^(L.length-2))(show 0<65536 by omega)
 unfold tB2 ZoI
 rw[← hB,e2,p16,ea,ex]
 by_cases h2:2≤L.length
 ·have e3:((L.length:Int)-2).toNat=L.length-2:=by omega
  rw[if_pos(by omega),if_pos h2,e3]
  generalize B/65536^(L.length-1) % 65536=b at*
  generalize B/65536^(L.length-2) % 65536=d at*
  rw[w64(n:=(b:Int))(by omega)(by omega),w64(n:=(b:Int)*65536)(by omega)(by omega),w64(n:=(d:Int))(by omega)(by omega),w64(by omega)(by omega)]
  omega
 ·rw[if_neg(by omega),if_neg h2]
  generalize B/65536^(L.length-1) % 65536=b at*
  rw[w64(n:=(b:Int))(by omega)(by omega),w64(n:=(b:Int)*65536)(by omega)(by omega),w64(n:=(0:Int))(by omega)(by omega),w64(by omega)(by omega)]
  omega
structure Two(la lb:List Value)(o o' c':Nat)(A L:List Int):Prop where
 ra:Row la o A
 rb:Row lb o' L
 dA:∀ x∈A,Dg 65536 x
 cL:Zbl 65536 L
 n1:1≤L.length
 n2:L.length<1000000
 a1:1≤A.length
 a2:A.length<1000000
 cb:Zbr tR lb o' L.length c'=true
 sb:∀ v∈lb,still v=true
 sa:∀ v∈la,still v=true
 eb:Zy lb o' L.length=L
section
variable {la lb : List Value} {o c o' c' : Nat} {A L : List Int}
theorem Two.row(H:Two la lb o o' c' A L){h:Hp}(hb:h.blk? 1=some(lb,tR)):zG h(aP 1 o') L.length c'=true∧Zr h(aP 1 o') L.length=L∧vO h(aP 1 o') L.length=vb 65536 L:=by
 have e:Zr h(aP 1 o') L.length=L:=by
  unfold Zr aP
  simp only[hb]
  exact H.eb
 refine⟨?_,e,by unfold vO;rw[e]⟩
 unfold zG aP
 simp only[hb]
 rw[H.cb,List.all_eq_true.2 H.sb]
 rfl
theorem Two.bnd(H:Two la lb o o' c' A L):65536^(L.length-1)≤vb 65536 L∧vb 65536 L<65536^L.length∧0<vb 65536 L:=by
 have h1:=Z1y H.cL H.n1
 have h2:=Zbm(b:=65536)(by omega) L H.cL.1
 have:0<65536^(L.length-1):=Nat.pow_pos(by omega)
 exact⟨h1,h2,by omega⟩
theorem Zb2:TabOk(Zs Tryz.prog Zf Zo hcP):=Zh Zd Z1z
theorem Zrm(V:Nat){d:Int}(hd:Dg 65536 d):Zm(d::d16 V)=(d16(d.toNat+65536*V)).length∧wU(d::d16 V)=wU(d16(d.toNat+65536*V))++wU((d::d16 V).drop(Zm(d::d16 V))):=by
 have hD:∀ x∈d::d16 V,Dg 65536 x:=fun x hx=>by
  rcases List.mem_cons.1 hx with rfl | hx
  ·exact hd
  ·exact Zbd V x hx
 have ev:vb 65536(d::d16 V)=d.toNat+65536*V:=by
  simp only[vb]
  rw[show vb 65536(d16 V)=V from Zb0(by omega) V]
 have h1:=Zat(b:=65536)(by omega) hD
 have h2:=zl(b:=65536)(by omega) _ hD
 rw[ev] at h1 h2
 refine⟨h1,?_⟩
 rw[← ZY]
 congr 1
 show _=db 65536 _++_
 rw[← h2,List.take_append_drop]
theorem Z14{d:Int}(hd:Dg 65536 d):∀ x∈d::([]:List Int),0≤x∧x<4294967296:=fun x hx=>by
 rw[List.mem_singleton.1 hx]
 exact⟨hd.1,by have:=hd.2;omega⟩
theorem Zrn{wq:List Value}(hq:∀ v∈wq,still v=true)(hb:∀ v∈lb,still v=true)(ha:∀ v∈la,still v=true){h:Hp}(h0:h.blk? 0=some(la,tR))(h1:h.blk? 1=some(lb,tR))(h2:h.blk? 2=some(wq,tU)):∀ i x,(⟨3,[(wq,tU),(lb,tR),(la,tR)]⟩:Hp).blk? i=some x→h.blk? i=some x∧∀ v∈x.1,still v=true:=by
 intro i x hx
 have hi:i<3:=Hp.blk_lt hx
 have h3:i=0∨i=1∨i=2:=by omega
 rcases h3 with rfl | rfl | rfl
 ·have:(la,tR)=x:=Option.some.inj hx
  subst this;exact⟨h0,ha⟩
 ·have:(lb,tR)=x:=Option.some.inj hx
  subst this;exact⟨h1,hb⟩
 ·have:(wq,tU)=x:=Option.some.inj hx
  subst this;exact⟨h2,hq⟩
theorem Zts{n n' z t:Nat}{i:Int}{v10 v11:Value}(k1:KRun.lt 4 v10=true)(k2:KRun.lt 4 v11=true):∀ v∈pFr o n c o' n' c' z(sl 3 0 t t) i v10 v11,KRun.lt 4 v=true:=by
 intro v hv
 simp only[pFr,List.mem_cons,List.not_mem_nil,or_false] at hv
 rcases hv with rfl | rfl | rfl | rfl | rfl | rfl | rfl | rfl | rfl | rfl | rfl | rfl
 ·rfl
 ·rfl
 ·rfl
 ·rfl
 ·rfl
 ·rfl
 ·rfl
 ·rfl
 ·rfl
 ·rfl
 ·exact k1
 ·exact k2
end
end Go.Proofs.YtjlponbdflkbjaaGreatDoor
namespace Go.Proofs.YtjlponbdflkbjaaGreatDoor.Na
open Go.KRun Go.Nt
set_option maxRecDepth 100000
set_option linter.unusedVariables false
section
variable {w : World} {i j : Nat} {va vb' : Value} {xa xb : List Value × TypeId} {ka kb : Nat × Nat} {pa pb : Option Addr} {na ca nb cb : Nat} {LA LB : List Int} {H : Hp}
theorem aX(Ha:Arg w i va xa ka pa na ca LA)(hb:H.blk? i=some xa):Zaa H pa na ca=true:=(Ha.row hb).1
variable (Ha : Arg w i va xa ka pa na ca LA) (Hb : Arg w j vb' xb kb pb nb cb LB) (h1 : H.blk? i = some xa) (h2 : H.blk? j = some xb)
include Ha Hb h1 h2
end
def Is16(H:Hp)(p:Option Addr)(n c V:Nat):Prop:=zG H p n c=true∧Zr H p n=d16 V∧n=(d16 V).length∧n<100000
def Z9K(H:Hp)(p:Option Addr)(n c V:Nat):Prop:=zG H p n c=true∧Zr H p n=d32 V
theorem ZfQ(V:Nat):wds(d32 V):=Zfy(by omega) V
theorem Zro{L:List Int}(n:Nat):Zy(wU L) 0 n=L.take n:=by
 unfold Zy Zb5 wU
 rw[List.drop_zero,← List.map_take,List.map_map]
 exact(List.map_congr_left fun z _=>rfl).trans(List.map_id' _)
theorem Z7l{H:Hp}{b V m:Nat}(hb:H.blk? b=some(wU(dg m(V:Int)),tU))(hV:V<4294967296^m)(hm:m≤1000):Z9K H(some⟨b,0,none⟩)(Zm(dg m(V:Int))) m V:=by
 have hw:=Za2 m(V:Int)
 have hl:=ZU m(V:Int)
 have ht:=Za4(dg m(V:Int))
 refine⟨?_,?_⟩
 ·unfold zG
  simp only[hb]
  unfold Zbr
  have e1:Zal tU=false:=by kernel_rfl
  have e2:Nat.beq(rt tU) tU=true:=by kernel_rfl
  have e3:Nat.ble(0+Zm(dg m(V:Int)))(wU(dg m(V:Int))).length=true:=Nat.ble_eq_true_of_le(by rw[Zaj];omega)
  have e4:Nat.blt(Zm(dg m(V:Int))) 4611686018427387904=true:=Zp.2(by omega)
  have e5:((Zb5(wU(dg m(V:Int))) 0(Zm(dg m(V:Int)))).all isU)=true:=by
   unfold Zb5
   rw[List.drop_zero]
   refine List.all_eq_true.2 fun v hv=> ?_
   have hv:=List.mem_of_mem_take hv
   unfold wU at hv
   obtain⟨x,hx,rfl⟩:=List.mem_map.1 hv
   exact decide_eq_true(hw x hx)
  have e6:Zdd 0(Zm(dg m(V:Int))) m=true:=by
   unfold Zdd
   rw[show ZB m=true from Zp.2(by have:ZW=4611686018427387904:=rfl;omega),Nat.ble_eq_true_of_le(by omega)]
   rfl
  rw[e1,e2,e3,e4,e5,e6,List.all_eq_true.2(ZF _)]
  rfl
 ·unfold Zr
  simp only[hb]
  rw[Zro]
  refine ZvO ?_
  have:((4294967296^m:Nat):Int)=4294967296^m:=by rw[Int.natCast_pow];rfl
  rw[← this]
  omega
section
variable {H : Hp} {p q : Option Addr} {n c n' c' V W : Nat}
theorem Is16.v(h:Is16 H p n c V):vO H p n=V:=by
 unfold vO
 rw[h.2.1]
 exact Zb0(by omega) V
end
end Go.Proofs.YtjlponbdflkbjaaGreatDoor.Na
namespace Go.Nt
theorem Zn3{b:Nat}:∀ {L:List Int}{j:Nat},j<L.length→∀ v:Int,vb b(L.set j v)+b^j*(L.getD j 0).toNat=vb b L+b^j*v.toNat
 | [],_,h,_=>by simp at h
 | x::L,0,_,v=>by simp [vb];omega
 | x::L,j+1,h,v=>by
  have ih:=Zn3(b:=b)(L:=L)(j:=j)(by simpa using h) v
  have e:(x::L).getD(j+1) 0=L.getD j 0:=by simp [List.getD]
  simp only[List.set,vb,e]
  have h2:=congrArg(fun t=>b*t) ih
  simp only[Nat.mul_add] at h2
  rw[Nat.pow_succ,Nat.mul_comm(b^j) b,Nat.mul_assoc,Nat.mul_assoc]
  omega
theorem Zn4{L:List Int}(h:∀ x∈L,Dg 65536 x){v:Int}(hv:Dg 65536 v)(j:Nat):∀ x∈L.set j v,Dg 65536 x:=fun x hx=>by
 rcases List.mem_or_eq_of_mem_set hx with hx | rfl
 ·exact h x hx
 ·exact hv
theorem Zrp{L:List Int}{j:Nat}(hj:j<L.length)(hL:∀ x∈L,Dg 65536 x){c p q:Nat}(hc:c<65536)(hp:p<65536)(hq:q<65536):
  let t:=c+(L.getD j 0).toNat+p*q
  vb 65536(L.set j((t % 65536:Nat):Int))+t/65536*65536^(j+1)=vb 65536 L+c*65536^j+p*q*65536^j∧t/65536<65536∧(∀ x∈L.set j((t % 65536:Nat):Int),Dg 65536 x):=by
 intro t
 have hd:(L.getD j 0).toNat<65536:=Z5g hL j
 have hpq:p*q≤65535*65535:=Nat.mul_le_mul(by omega)(by omega)
 have ht:t=c+(L.getD j 0).toNat+p*q:=rfl
 refine⟨?_,by omega,Zn4 hL⟨by omega,by omega⟩ j⟩
 have h1:=Zn3(b:=65536) hj((t % 65536:Nat):Int)
 rw[Int.toNat_natCast] at h1
 have h2:=Nat.div_add_mod t 65536
 have h3:65536^j*t=65536^j*(65536*(t/65536))+65536^j*(t % 65536):=by rw[← Nat.mul_add,h2]
 have h4:65536^j*t=65536^j*c+65536^j*(L.getD j 0).toNat+65536^j*(p*q):=by rw[ht,Nat.mul_add,Nat.mul_add]
 have h5:t/65536*65536^(j+1)=65536^j*(65536*(t/65536)):=by rw[Nat.pow_succ,Nat.mul_comm,Nat.mul_assoc]
 rw[h5,Nat.mul_comm c,Nat.mul_comm(p*q)]
 omega
end Go.Nt
namespace Go.Proofs.YtjlponbdflkbjaaGreatDoor
open Go.KRun Go.Nt
set_option maxRecDepth 100000
set_option linter.unusedVariables false
def muB(F:Func):Code:=Z5(Z0(Z0(Zt F)))
def muO(F:Func):Code:=cIn(cIn(Z0(muB F)))
def muI(F:Func):Code:=cIn(Z5(Z0(muO F)))
def muL(F:Func):Code:=cIn(cIn(Z0(Z5(Z0(muI F)))))
def Zzd(F:Func):List Code:=[Z5(Zt F),Z5(Z0(Zt F))]
def muE(F:Func):Code:=Z0(Z0(Z0(Zt F)))
theorem ZgG:Tryz.f52.body=some(za(Zzd Tryz.f52)(.seq(.seq(Z5(muB Tryz.f52))(.block 0(.loop(muO Tryz.f52))))(muE Tryz.f52))):=by kernel_rfl
theorem ZiR:muO Tryz.f52= .seq(Z5(muO Tryz.f52))(.seq(.block 1(muI Tryz.f52))(Z0(Z0(muO Tryz.f52)))):=by kernel_rfl
theorem Zrq:muI Tryz.f52= .seq(Z5(muI Tryz.f52))(.seq(.seq(Z5(Z5(Z0(muI Tryz.f52))))(.block 2(.loop(muL Tryz.f52))))(Z0(Z0(muI Tryz.f52)))):=by kernel_rfl
def mFr(o n c o' n' c' z:Nat)(i v7 v8:Value):List Value:=[sl 0 o n c,sl 1 o' n' c',undef,undef,Zq,sl 2 0 z z,i,v7,v8]
def hM3(lo lb la:List Value):Hp:=⟨3,[(lo,tU),(lb,tR),(la,tR)]⟩
def zM(n n':Nat):Int:=IntKind.i64.wrap((n:Int)+n')
def inM(j:Int)(n:Nat):Bool×Bool:=(decide(0≤j∧j<(n:Int)),true)
def ceM(l:List Value)(o:Nat)(j x:Int):Bool×Bool:=(Z6(l[o+j.toNat*1]?)(.int .u32 x),true)
def stM(l:List Value)(j:Int):Bool×Bool:=(decide(0+j.toNat*1<l.length),true)
def d65:Bool×Bool:=(decide((65536:Int)=0),false)
def tM(c7 d p q:Int):Int:=IntKind.u64.wrap(IntKind.u64.wrap(c7+IntKind.u64.wrap d)+IntKind.u64.wrap(IntKind.u64.wrap p*IntKind.u64.wrap q))
def ijM(i k:Int):Int:=IntKind.i64.wrap(i+k)
theorem Z15(o n c o' n' c':Nat)(la lb:List Value):Zg(evL(Zs Tryz.prog Zf Zo hcV) 200(Zzd Tryz.f52)([sl 0 o n c,sl 1 o' n' c']++List.replicate 66 undef,h2 la lb,[at_])⟨[],[],[]⟩) 6 62 none [sl 0 o n c,sl 1 o' n' c',undef,undef,Zq,sl 2 0(zM n n').toNat(zM n n').toNat](hM3(List.replicate(zM n n').toNat(.int .u32 0)) lb la) [(ZL 4(zM n n')(zM n n'),true)]:=⟨by kernel_rfl,by kernel_rfl,by kernel_rfl⟩
theorem Z16(v0 v1 v5:Value)(h:Hp)(g:Nat→Value):Zg(evC(Zs Tryz.prog Zf Zo hcV) 200 false(Z5(muB Tryz.f52))([v0,v1,undef,undef,Zq,v5]++tl 62 g,h,[])⟨[],[],[]⟩) 9 59 none [v0,v1,undef,undef,Zq,v5,.int .i64 0,g 1,g 2] h []:=⟨by kernel_rfl,by kernel_rfl,by kernel_rfl⟩
theorem Z7m(o n c o' n' c' z:Nat)(i c7 k d p q:Int)(v7 v8:Value)(lo lb la:List Value)(g:Nat→Value):Zg(evC(Zs Tryz.prog Zf Zo hcV) 200 false(Z5(muO Tryz.f52))(mFr o n c o' n' c' z(.int .i64 i) v7 v8++tl 59 g,hM3 lo lb la,[cmp true])⟨[],[],[]⟩) 9 59 none(mFr o n c o' n' c' z(.int .i64 i) v7 v8)(hM3 lo lb la) [(decide(i<(n:Int)),true)]:=⟨by kernel_rfl,by kernel_rfl,by kernel_rfl⟩
theorem Z7n(o n c o' n' c' z:Nat)(i c7 k d p q:Int)(v7 v8:Value)(lo lb la:List Value)(g:Nat→Value):Zg(evC(Zs Tryz.prog Zf Zo hcV) 200 false(Z5(muO Tryz.f52))(mFr o n c o' n' c' z(.int .i64 i) v7 v8++tl 59 g,hM3 lo lb la,[cmp false])⟨[],[],[]⟩) 9 59(some(some 0))(mFr o n c o' n' c' z(.int .i64 i) v7 v8)(hM3 lo lb la) [(decide(i<(n:Int)),false)]:=⟨by kernel_rfl,by kernel_rfl,by kernel_rfl⟩
theorem Z7o(o n c o' n' c' z:Nat)(i c7 k d p q:Int)(v7 v8:Value)(lo lb la:List Value)(g:Nat→Value):Zg(evC(Zs Tryz.prog Zf Zo hcV) 200 false(Z5(muI Tryz.f52))(mFr o n c o' n' c' z(.int .i64 i) v7 v8++tl 59 g,hM3 lo lb la,[])⟨[],[],[]⟩) 9 59 none(mFr o n c o' n' c' z(.int .i64 i)(.int .u64 0) v8)(hM3 lo lb la) []:=⟨by kernel_rfl,by kernel_rfl,by kernel_rfl⟩
theorem Z7p(o n c o' n' c' z:Nat)(i c7 k d p q:Int)(v7 v8:Value)(lo lb la:List Value)(g:Nat→Value):Zg(evC(Zs Tryz.prog Zf Zo hcV) 200 false(Z5(Z5(Z0(muI Tryz.f52))))(mFr o n c o' n' c' z(.int .i64 i) v7 v8++tl 59 g,hM3 lo lb la,[])⟨[],[],[]⟩) 9 59 none(mFr o n c o' n' c' z(.int .i64 i) v7(.int .i64 0))(hM3 lo lb la) []:=⟨by kernel_rfl,by kernel_rfl,by kernel_rfl⟩
theorem Z7q(o n c o' n' c' z:Nat)(i c7 k d p q:Int)(v7 v8:Value)(lo lb la:List Value)(g:Nat→Value):Zg(evC(Zs Tryz.prog Zf Zo hcV) 200 false(muL Tryz.f52)(mFr o n c o' n' c' z(.int .i64 i)(.int .u64 c7)(.int .i64 k)++tl 59 g,hM3 lo lb la,[cmp true,at_,val(.int .u32 d),at_,val(.int .u32 p),at_,val(.int .u32 q),cmp true,at_,at_])⟨[],[],[]⟩) 9 59 none(mFr o n c o' n' c' z(.int .i64 i)(.int .u64(IntKind.u64.wrap((tM c7 d p q).tdiv 65536)))(.int .i64(IntKind.i64.wrap(k+1))))(hM3(lo.set(0+(ijM i k).toNat*1)(.int .u32(IntKind.u32.wrap((tM c7 d p q).tmod 65536)))) lb la) [stM lo(ijM i k),inM(ijM i k) z,d65,ceM lb o' k q,inM k n',ceM la o i p,inM i n,ceM lo 0(ijM i k) d,inM(ijM i k) z,(decide(k<(n':Int)),true)]:=⟨by kernel_rfl,by kernel_rfl,by kernel_rfl⟩
theorem Z17(o n c o' n' c' z:Nat)(i c7 k d p q:Int)(v7 v8:Value)(lo lb la:List Value)(g:Nat→Value):Zg(evC(Zs Tryz.prog Zf Zo hcV) 200 false(muL Tryz.f52)(mFr o n c o' n' c' z(.int .i64 i)(.int .u64 c7)(.int .i64 k)++tl 59 g,hM3 lo lb la,[cmp false])⟨[],[],[]⟩) 9 59(some(some 2))(mFr o n c o' n' c' z(.int .i64 i)(.int .u64 c7)(.int .i64 k))(hM3 lo lb la) [(decide(k<(n':Int)),false)]:=⟨by kernel_rfl,by kernel_rfl,by kernel_rfl⟩
theorem Z18(o n c o' n' c' z:Nat)(i c7 k d p q:Int)(v7 v8:Value)(lo lb la:List Value)(g:Nat→Value):Zg(evC(Zs Tryz.prog Zf Zo hcV) 200 false(Z0(Z0(muI Tryz.f52)))(mFr o n c o' n' c' z(.int .i64 i)(.int .u64 c7) v8++tl 59 g,hM3 lo lb la,[at_,at_])⟨[],[],[]⟩) 9 59 none(mFr o n c o' n' c' z(.int .i64 i)(.int .u64 c7) v8)(hM3(lo.set(0+(ijM i n').toNat*1)(.int .u32(IntKind.u32.wrap c7))) lb la) [stM lo(ijM i n'),inM(ijM i n') z]:=⟨by kernel_rfl,by kernel_rfl,by kernel_rfl⟩
theorem Z7r(o n c o' n' c' z:Nat)(i c7 k d p q:Int)(v7 v8:Value)(lo lb la:List Value)(g:Nat→Value):Zg(evC(Zs Tryz.prog Zf Zo hcV) 200 false(Z0(Z0(muO Tryz.f52)))(mFr o n c o' n' c' z(.int .i64 i) v7 v8++tl 59 g,hM3 lo lb la,[])⟨[],[],[]⟩) 9 59 none(mFr o n c o' n' c' z(.int .i64(IntKind.i64.wrap(i+1))) v7 v8)(hM3 lo lb la) []:=⟨by kernel_rfl,by kernel_rfl,by kernel_rfl⟩
theorem Z19(o n c o' n' c' z:Nat)(i c7 k d p q:Int)(v7 v8:Value)(lo lb la:List Value)(g:Nat→Value):Zg(evC(Zs Tryz.prog Zf Zo hcV) 200 false(muE Tryz.f52)(mFr o n c o' n' c' z(.int .i64 i) v7 v8++tl 59 g,hM3 lo lb la,[])⟨[],[],[]⟩) 5 63(some none) [sl 0 o n c,sl 1 o' n' c',undef,undef,sl 2 0(Zm(Zy lo 0 z))(Zm(Zy lo 0 z))](hM3 lo lb la) [(Zbr tU lo 0 z z,true)]:=⟨by kernel_rfl,by kernel_rfl,by kernel_rfl⟩
end Go.Proofs.YtjlponbdflkbjaaGreatDoor
