/-
  ConO4, ConO5, ConO6, NumDn, ConO7, ConO8, NumQt, ConO9, ConOA
-/
import Derived.Test.YtjlponbdflkbjaaGreatDoorG18
import Derived.Test.YtjlponbdflkbjaaGreatDoorG05
import Derived.Test.YtjlponbdflkbjaaGreatDoorG13
import Derived.Test.YtjlponbdflkbjaaGreatDoorG10
namespace Go.Proofs.YtjlponbdflkbjaaGreatDoor.Na
open Go.KRun Go.Nt
set_option maxRecDepth 100000
set_option linter.unusedVariables false
def gsV(h l b:Int):Int:=if b≤h then 4294967295 else(h*4294967296+l)/b
def Z4K(h l b:Int):Bool:=decide((0≤h∧h<4294967296)∧(0≤l∧l<4294967296)∧0<b∧b<4294967296)
theorem Z70(h l b:Int):Z7(Zn(Zi Tryz.prog Zf Zo true) 100 135 [uu h,uu l,uu b] [cmp true])(uu 4294967295) [(decide(h≥b),true)]:=⟨by kernel_rfl,by kernel_rfl,by kernel_rfl,by kernel_rfl⟩
theorem Z71(h l b q:Int):Z7(Zn(Zi Tryz.prog Zf Zo true) 100 135 [uu h,uu l,uu b] [cmp false,num q])(uu(IntKind.u32.wrap q)) [(decide(IntKind.u64.wrap b=0),false),(decide(IntKind.u64.wrap((Go.Pt.bOr(IntKind.u64.wrap(IntKind.u64.wrap h*2^min(Int.toNat 32) 64))(IntKind.u64.wrap l)).tdiv(IntKind.u64.wrap b))=q),true),(decide((32:Int)<0),false),(decide(h≥b),false)]:=⟨by kernel_rfl,by kernel_rfl,by kernel_rfl,by kernel_rfl⟩
theorem ZwD(p q:Int):Go.Pt.bOr p q=Go.Pt.bOr q p:=by unfold Go.Pt.bOr;rw[BitVec.or_comm]
def gGs:Ans:=fun vals s=>
 match vals with
 | [.int .u32 h,.int .u32 l,.int .u32 b]=>some(uu(gsV h l b),s,[(Z4K h l b,true)])
 | _=>none
theorem Z1N:ZT 135 gGs:=by
 intro vals s v s' lg h hl w
 unfold gGs at h
 split at h
 ·rename_i x y z
  cases h
  have hr:=hl _(List.mem_singleton.2 rfl)
  simp only[Z4K,decide_eq_true_eq] at hr
  obtain⟨hx,hy,hz⟩:=hr
  unfold gsV
  by_cases hc:z≤x
  ·rw[if_pos hc]
   exact Zc(Zk Zd)(Z70 x y z)(Zu(decide_eq_true hc))(by rfl)(by rfl) w
  ·rw[if_neg hc]
   have hb:=ZiU hx.1 hy(show x<z by omega)
   have e1:Go.Pt.bOr(IntKind.u64.wrap(IntKind.u64.wrap x*2^min(Int.toNat 32) 64))(IntKind.u64.wrap y)=x*4294967296+y:=by
    simp only[ZoE]
    rw[Int.emod_eq_of_lt hx.1(by omega),Int.emod_eq_of_lt hy.1(by omega),show((2:Int)^min(Int.toNat 32) 64)=4294967296 from by decide,Int.emod_eq_of_lt(by omega)(by omega),ZwD]
    exact Go.Pt.or_low 32(z:=x) hx.1(by omega) hy.1(by omega)(by omega)
   have e2:IntKind.u64.wrap z=z:=by rw[ZoE,Int.emod_eq_of_lt(by omega)(by omega)]
   have e3:IntKind.u32.wrap((x*4294967296+y)/z)=(x*4294967296+y)/z:=by rw[ZgV,Int.emod_eq_of_lt hb.1 hb.2]
   have:=Zc(Zk Zd)(Z71 x y z((x*4294967296+y)/z))(Zj(by rw[e2];exact decide_eq_false(by omega))(Zj(by rw[e1,e2,Int.tdiv_eq_ediv_of_nonneg(by omega),ZoE,Int.emod_eq_of_lt hb.1(by omega)];exact decide_eq_true rfl)(Zj(by decide)(Zu(decide_eq_false(by omega))))))(by rfl)(by rfl) w
   rw[e3] at this
   exact this
 ·cases h
def Ztw:Con:=alt 135 gGs Zo
theorem ZwE:ConOk Ztw:=ZA Tryz.func135 rfl Z1N Zd
def hcG:Hc:=zS 136 Z7x(zS 137 Z7z hcN)
theorem Z1O:HcOk hcG:=Z2 Tryz.func136 rfl Zw8(Z2 Tryz.func137 rfl ZwB Zam)
def tdP(F:Func):List Code:=[Z5(sn 0 F),Z5(sn 1 F),Z5(sn 2 F)]
def tdB(F:Func):Code:=Z5(sn 3 F)
def tdL(F:Func):Code:=cIn(cIn(Z0(tdB F)))
def tdF(o m c n k:Nat)(d:Int):List Value:=[sl 2 o m c,sl 3 0 n k,undef,undef,uu 0,i6' n,uu d]
def tdG(o m c n k:Nat)(d:Int)(b:Bool):List Value:=[sl 2 o m c,sl 3 0 n k,undef,undef,uu 0,i6' n,uu d,.bool b]
theorem Zhr:Tryz.f122.body=some(za(tdP Tryz.f122)(.seq(.seq(Z5(tdB Tryz.f122))(.block 0(.loop(tdL Tryz.f122))))(sn 4 Tryz.f122))):=by kernel_rfl
theorem Z1P(o m c n k:Nat)(x y z:Int)(la lb R Y Q:List Value):Zg(evL(Zs Tryz.prog Zf Ztw hcG) 100(tdP Tryz.f122)([sl 2 o m c,sl 3 0 n k]++List.replicate 35 undef,h5 la lb R Y Q,[at_,val(uu x),at_,val(uu y),at_,val(uu z)])⟨[],[],[]⟩) 7 30 none(tdF o m c n k(gsV x y z))(h5 la lb R Y Q) [(Z4K x y z,true),Zdu Y 0(n1 n) z,inR(n1 n) n,Zdu R o(n1 n) y,inR(n1 n) m,Zdu R o n x,inR n m]:=⟨by kernel_rfl,by kernel_rfl,by kernel_rfl⟩
theorem Z9P(e:Bool)(o m c n k:Nat)(d:Int)(la lb R Y Q:List Value)(g:Nat→Value):Zg(evC(Zs Tryz.prog Zf Ztw hcG) 100 false(Z5(tdB Tryz.f122))(tdF o m c n k d++tl 30 g,h5 la lb R Y Q,[cmp e])⟨[],[],[]⟩) 8 29 none(tdG o m c n k d e)(h5 la lb(tmS R o m(dg m(vN(Zy R o m)-d*vN(Zy Y 0 n)))) Y Q) [(Zeq la lb R Y Q tR tR tU tU tU o m c n k && decide(0≤d∧d<4294967296),true),(decide(vN(Zy R o m)-d*vN(Zy Y 0 n)<0),e)]:=⟨by kernel_rfl,by kernel_rfl,by kernel_rfl⟩
theorem Z72(e:Bool)(o m c n k:Nat)(d:Int)(la lb R Y Q:List Value)(g:Nat→Value):Zg(evC(Zs Tryz.prog Zf Ztw hcG) 100 false(tdL Tryz.f122)(tdG o m c n k d true++tl 29 g,h5 la lb R Y Q,[cmp e])⟨[],[],[]⟩) 8 29 none(tdG o m c n k(IntKind.u32.wrap(d-1))(!e))(h5 la lb(tmS R o m(dg m(vN(Zy R o m)+vN(Zy Y 0 n)))) Y Q) [(Zeq la lb R Y Q tR tR tU tU tU o m c n k,true),(decide(4294967296^m≤vN(Zy R o m)+vN(Zy Y 0 n)),e)]:=⟨by kernel_rfl,by kernel_rfl,by kernel_rfl⟩
theorem Z1Q(o m c n k:Nat)(d:Int)(h:Hp)(g:Nat→Value):Zg(evC(Zs Tryz.prog Zf Ztw hcG) 100 false(tdL Tryz.f122)(tdG o m c n k d false++tl 29 g,h,[])⟨[],[],[]⟩) 8 29(some(some 0))(tdG o m c n k d false) h []:=⟨by kernel_rfl,by kernel_rfl,by kernel_rfl⟩
theorem Z1R(o m c n k:Nat)(d:Int)(b:Bool)(h:Hp)(g:Nat→Value):Zg(evC(Zs Tryz.prog Zf Ztw hcG) 100 false(sn 4 Tryz.f122)(tdG o m c n k d b++tl 29 g,h,[])⟨[],[],[]⟩) 5 32(some none) [sl 2 o m c,sl 3 0 n k,undef,undef,uu d] h []:=⟨by kernel_rfl,by kernel_rfl,by kernel_rfl⟩
theorem ZwF{R:List Value}{o m c:Nat}{L:List Int}(ra:Z8 tU R o m c=true)(hl:L.length=m):Zy(tmS R o m L) o m=L:=by
 obtain⟨_,hF⟩:=ZaF ra
 unfold tmS Zy Zb5
 rw[List.drop_left' hF,List.take_left'(by rw[Zaj,hl])]
 unfold wU
 rw[List.map_map]
 exact(List.map_congr_left fun x _=>rfl).trans(List.map_id' _)
theorem ZwG{R:List Value}{o m c:Nat}{L L':List Int}(ra:Z8 tU R o m c=true)(hl:L.length=m):tmS(tmS R o m L) o m L'=tmS R o m L':=by
 obtain⟨_,hF⟩:=ZaF ra
 have e1:(tmS R o m L).take o=R.take o:=by unfold tmS;exact List.take_left' hF
 have e2:(tmS R o m L).drop(o+m)=R.drop(o+m):=by
  unfold tmS
  rw[← List.append_assoc]
  exact List.drop_left'(by rw[List.length_append,hF,Zaj,hl])
 show(tmS R o m L).take o++(wU L'++(tmS R o m L).drop(o+m))=_
 rw[e1,e2]
 rfl
theorem ZwH{R:List Value}{o m c:Nat}{L:List Int}(ra:Z8 tU R o m c=true)(hl:L.length=m)(hw:wds L):Z8 tU(tmS R o m L) o m c=true:=by
 obtain⟨a1,a2,a3,a4,a5,a6,a7⟩:=ZK ra
 obtain⟨_,hF⟩:=ZaF ra
 have hr:=a1.len
 rw[a2] at hr
 unfold Z8
 have ec:Zb5(tmS R o m L) o m=wU L:=by
  unfold tmS Zb5
  rw[List.drop_left' hF,List.take_left'(by rw[Zaj,hl])]
 have h3:((Zb5(tmS R o m L) o m).all isU)=true:=by
  rw[ec,List.all_eq_true]
  intro v hv
  unfold wU at hv
  obtain⟨x,hx,rfl⟩:=List.mem_map.1 hv
  exact decide_eq_true(hw x hx)
 have h4:(tmS R o m L).all still=true:=by
  unfold tmS
  simp only[List.all_append,Bool.and_eq_true]
  exact⟨List.all_eq_true.2 fun v hv=>a7 v(List.mem_of_mem_take hv),ZbM _,List.all_eq_true.2 fun v hv=>a7 v(List.mem_of_mem_drop hv)⟩
 have h5:o+m≤(tmS R o m L).length:=by
  unfold tmS
  rw[List.length_append,List.length_append,hF,Zaj,hl]
  omega
 rw[show Zal tU=false from by kernel_rfl,show Nat.beq(rt tU) tU=true from by kernel_rfl,Nat.ble_eq_true_of_le h5,Nat.ble_eq_true_of_le a3,a4,h3,h4]
 rfl
theorem ZwI{la lb R Y Q:List Value}{o m c n k:Nat}{M LB:List Int}(hM:Zy R o m=M)(hB:Zy Y 0 n=LB)(hok:Zeq la lb R Y Q tR tR tU tU tU o m c n k=true)(hn:0<n)(htop:0<LB.getD(n-1) 0)(hlt:vN M<4294967296*vN LB):
  Runs(Zs Tryz.prog Zf Ztw hcG)(za(tdP Tryz.f122)(.seq(.seq(Z5(tdB Tryz.f122))(.block 0(.loop(tdL Tryz.f122))))(sn 4 Tryz.f122)))([sl 2 o m c,sl 3 0 n k]++List.replicate 35 undef,h5 la lb R Y Q,[]) fun e' y=>(e'=none∨e'=some none)∧ZZ Tryz.prog Tryz.f122 y.1 y.2.1=some(uu(vN M/vN LB))∧y.2.1.cut 5=h5 la lb(tmS R o m(dg m(vN M % vN LB))) Y Q:=by
 have hT:=Zh ZwE Z1O
 obtain⟨_,_,_,_,_,ra,rb,qn,qN,st0,st1,st2⟩:=ZfR hok
 obtain⟨a1,a2,a3,a4,a5,a6,a7⟩:=ZK ra
 obtain⟨b1,b2,b3,b4,b5,b6,b7⟩:=ZK rb
 rw[hM] at a1 a2
 rw[hB] at b1 b2
 have w1:=a1.rng
 have w2:=b1.rng
 have bM:=ZaK M w1
 have bB:=ZaK LB w2
 rw[a2] at bM
 rw[b2] at bB
 have hpos:0<vN LB:=by
  have:=Zg7(L:=LB) w2(by omega)(by rw[b2];omega)
  have h2:=Zay(LB.length-1)
  omega
 have hge:=Zrs w1 w2(n:=n)(by omega) b2 hn htop
 have en:n1 n=((n-1:Nat):Int):=by unfold n1;rw[Zw(by omega)(by omega)];omega
 have rng:∀ i,i<M.length→0≤M.getD i 0∧M.getD i 0<4294967296:=fun i hi=>w1 _(by simp [List.getD,List.getElem?_eq_getElem hi])
 have rngB:∀ i,i<LB.length→0≤LB.getD i 0∧LB.getD i 0<4294967296:=fun i hi=>w2 _(by simp [List.getD,List.getElem?_eq_getElem hi])
 have r1:=rng n(by omega)
 have r2:=rng(n-1)(by omega)
 have r3:=rngB(n-1)(by omega)
 have c1:=a1.cell(k:=n)(by omega)
 have c2:=a1.cell(k:=n-1)(by omega)
 have c3:=b1.cell(k:=n-1)(by omega)
 have hq:=ZiV hpos bM.1 hlt
 have hG:vN M/vN LB≤gsV(M.getD n 0)(M.getD(n-1) 0)(LB.getD(n-1) 0)∧0≤gsV(M.getD n 0)(M.getD(n-1) 0)(LB.getD(n-1) 0)∧gsV(M.getD n 0)(M.getD(n-1) 0)(LB.getD(n-1) 0)<4294967296:=by
  unfold gsV
  split
  ·omega
  ·have:=ZiU r1.1 r2(b:=LB.getD(n-1) 0)(by omega)
   omega
 have g0:=Z1P o m c n k(M.getD n 0)(M.getD(n-1) 0)(LB.getD(n-1) 0) la lb R Y Q
 rw[en] at g0
 refine Zx hT g0(Zj(by unfold Z4K;exact decide_eq_true⟨r1,r2,htop,r3.2⟩)(Zj(Zax c3)(Zj(decide_eq_true(by omega))(Zj(Zax c2)(Zj(decide_eq_true(by omega))(Zj(Zax c1)(Zu(decide_eq_true(by omega))))))))) fun g=> ?_
 generalize gsV(M.getD n 0)(M.getD(n-1) 0)(LB.getD(n-1) 0)=d at*
 refine Runs.seq(P1:=fun e' y=>e'=none∧∃ g,y.1=tdG o m c n k(vN M/vN LB) false++tl 29 g∧y.2.1=h5 la lb(tmS R o m(dg m(vN M % vN LB))) Y Q) ?_ ?_(fun e y he=>by cases he.1)
 ·have g1:=Z9P(decide(vN M-d*vN LB<0)) o m c n k d la lb R Y Q g
  rw[hM,hB] at g1
  refine Runs.seq(P1:=fun e' y=>e'=none∧(∃ g,y.1=tdG o m c n k d(decide(vN M-d*vN LB<0))++tl 29 g)∧y.2.1=h5 la lb(tmS R o m(dg m(vN M-d*vN LB))) Y Q)(Zb hT g1(Zj(by rw[hok,decide_eq_true hG.2];rfl)(Zu rfl))) ?_(fun e y he=>by cases he.1)
  rintro⟨t,h',s'⟩⟨_,⟨g1,ht⟩,hh⟩
  simp only at ht hh
  subst ht hh
  refine(Runs.forLoop(R:=fun _=>False)(P:=fun y=>∃ g,y.1=tdG o m c n k(vN M/vN LB) false++tl 29 g∧y.2.1=h5 la lb(tmS R o m(dg m(vN M % vN LB))) Y Q)
   (fun r y=>∃ (d:Int)(g:Nat→Value),d=vN M/vN LB+r∧d<4294967296∧y.1=tdG o m c n k d(decide(vN M-d*vN LB<0))++tl 29 g∧y.2.1=h5 la lb(tmS R o m(dg m(vN M-d*vN LB))) Y Q)
   ?_(n:=(d-vN M/vN LB).toNat)⟨d,g1,by omega,hG.2.2,rfl,rfl⟩).mono fun e' y he=> ?_
  ·rintro r⟨t,h',s'⟩⟨d,g,hd,hdl,ht,hh⟩
   simp only at ht hh
   subst ht hh
   by_cases hneg:vN M-d*vN LB<0
   ·rw[decide_eq_true hneg]
    have hmore:=ZnE hpos hneg
    have hlo: -(4294967296^m)≤vN M-d*vN LB:=by
     have h1:d*vN LB≤4294967296*vN LB:=Int.mul_le_mul_of_nonneg_right(by omega)(by omega)
     rw[qn,pw]
     omega
    have hvd:=Z1M hneg hlo
    have hwd:=Za2 m(vN M-d*vN LB)
    have hld:=ZU m(vN M-d*vN LB)
    have ra':=ZwH ra hld hwd
    have ec:=ZwF ra hld
    have eV:vN M-d*vN LB+4294967296^m+vN LB=(vN M-(d-1)*vN LB)+4294967296^m*1:=by
     rw[Int.sub_mul,Int.one_mul,Int.mul_one]
     omega
    have g2:=Z72(decide(4294967296^m≤vN M-d*vN LB+4294967296^m+vN LB)) o m c n k d la lb(tmS R o m(dg m(vN M-d*vN LB))) Y Q g
    rw[ec,hB,hvd,eV,ZcC,ZwG ra hld,ZgV,Int.emod_eq_of_lt(by omega)(by omega)] at g2
    have hok':Zeq la lb(tmS R o m(dg m(vN M-d*vN LB))) Y Q tR tR tU tU tU o m c n k=true:=by
     unfold Zeq at hok ⊢
     rw[ra']
     rw[ra] at hok
     exact hok
    refine(Zb hT g2(Zj hok'(Zu rfl))).mono fun e' y he=> ?_
    obtain⟨rfl,⟨g3,e2⟩,e3⟩:=he
    refine⟨r-1,by omega,d-1,g3,by omega,by omega,?_,e3⟩
    rw[e2]
    congr 2
    by_cases h0:vN M-(d-1)*vN LB<0
    ·rw[decide_eq_true h0,decide_eq_false(by omega)]
     rfl
    ·rw[decide_eq_false h0,decide_eq_true(by omega)]
     rfl
   ·rw[decide_eq_false hneg]
    obtain⟨f1,f2⟩:=ZwC hpos(show 0≤vN M-d*vN LB by omega)(show vN M/vN LB≤d by omega)
    refine(Zb hT(Z1Q o m c n k d _ g)(fun x hx=>by cases hx)).mono fun e' y he=> ?_
    obtain⟨rfl,⟨g3,e2⟩,e3⟩:=he
    rw[f2] at e3
    rw[f1] at e2
    exact⟨rfl,g3,e2,e3⟩
  ·match e',he with
   | none,he=>exact⟨rfl,he⟩
   | some none,he=>exact he.elim
   | some(some _),he=>exact he.elim
 ·rintro⟨t,h',s'⟩⟨_,g,ht,hh⟩
  simp only at ht hh
  subst ht hh
  refine(Zb hT(Z1R o m c n k(vN M/vN LB) false _ g)(fun x hx=>by cases hx)).mono fun e' y he=> ?_
  obtain⟨rfl,⟨g1,e2⟩,e3⟩:=he
  refine⟨.inr rfl,?_,?_⟩
  ·rw[e2,e3];rfl
  ·rw[e3];rfl
def Z73:Zaf:=fun vals h s=>
 match vals,h with
 | [.slice(some⟨2,o,none⟩) m c,.slice(some⟨3,0,none⟩) n k],⟨5,[(Q,t4),(Y,t3),(R,t2),(lb,t1),(la,t0)]⟩=>some(uu(vN(Zy R o m)/vN(Zy Y 0 n)),h5 la lb(tmS R o m(dg m(vN(Zy R o m) % vN(Zy Y 0 n)))) Y Q,s,[(Zeq la lb R Y Q t0 t1 t2 t3 t4 o m c n k && decide(0<n∧0<(Zy Y 0 n).getD(n-1) 0∧vN(Zy R o m)<4294967296*vN(Zy Y 0 n)),true)])
 | _,_=>none
theorem ZwJ:Z9 122 Z73:=by
 intro vals h s v h' s' lg hg hl m B w E hv
 unfold Z73 at hg
 split at hg
 ·rename_i o mm c n k Q t4 Y t3 R t2 lb t1 la t0
  cases hg
  have l1:=hl _(List.mem_singleton.2 rfl)
  simp only[Bool.and_eq_true,decide_eq_true_eq] at l1
  obtain⟨l1,h0,h1,h2⟩:=l1
  obtain⟨q0,q1,q2,q3,q4,ra,rb,qn,qN,st0,st1,st2⟩:=ZfR l1
  subst q0 q1 q2 q3 q4
  have r:=ZwI rfl rfl l1 h0 h1 h2
  exact zg(T:=Zs Tryz.prog Zf Ztw hcG) Tryz.func122 Zhr(vals:=[sl 2 o mm c,sl 3 0 n k])(v:=uu(vN(Zy R o mm)/vN(Zy Y 0 n)))(h:=h5 la lb R Y Q)(by rfl)(ZnD ra rb st0 st1 st2) r m B w E hv
 ·cases hg
def mB(q:Bool):Nat:=match q with | true=>3 | false=>2
def h4q(q:Bool)(S X la lb:List Value):Hp:=match q with | true=>⟨4,[(S,tU),(X,tU),(lb,tR),(la,tR)]⟩ | false=>⟨4,[(X,tU),(S,tU),(lb,tR),(la,tR)]⟩
theorem ZwK(q:Bool)(S X la lb:List Value):(h4q q S X la lb).cut 4=h4q q S X la lb:=by cases q<;>rfl
theorem ZwL(q:Bool)(o n c:Nat)(k l j x:Int)(i0 x0:Value)(X la lb S:List Value)(g:Nat→Value):Zg(evC(Zi Tryz.prog Zf Zo true) 100 false(mL Tryz.f119)(mF(sl(mB q) o n c)(i6' k)(uu l) i0 x0(sl(mB q) o n c)(i6' n)(i6' j)++tl 17 g,h4q q S X la lb,[cmp true,at_,val(uu x),at_,at_])⟨[],[],[]⟩) 10 17 none
  (mF(sl(mB q) o n c)(i6' k)(uu(Zq3 x k))(i6' j)(uu x)(sl(mB q) o n c)(i6' n)(i6'(IntKind.i64.wrap(j+1))))(h4q q(S.set(o+j.toNat*1)(uu(Zq2 x k l))) X la lb) [(decide(IntKind.i64.wrap(32-k)<0),false),(decide(o+j.toNat*1<S.length),true),inR j n,(decide(k<0),false),Zdu S o j x,inR j n,(decide(j<n),true)]:=by
 cases q<;>exact⟨by kernel_rfl,by kernel_rfl,by kernel_rfl⟩
theorem ZnF(q:Bool){F X la lb G:List Value}{o c k:Nat}{L:List Int}(hF:F.length=o)(hL:wds L)(hk:k<32)(hN:L.length<4611686018427387904):
  Runs(Zi Tryz.prog Zf Zo true)(za(mR0 Tryz.f119)(.block 0(.loop(mL Tryz.f119))))([sl(mB q) o L.length c,i6' k]++List.replicate 25 undef,h4q q(F++(wU L++G)) X la lb,[]) fun e y=>(e=none∨e=some none)∧ZZ Tryz.prog Tryz.f119 y.1 y.2.1=some(.tuple #[])∧y.2.1.cut 4=h4q q(F++(wU(dg L.length(vN L*2^k))++G)) X la lb:=by
 refine Zx(Zk Zd)(Zm8(mB q) o L.length c(i6' k) _)(fun x hx=>by cases hx) fun g=> ?_
 refine(Runs.forLoop(R:=fun _=>False)(P:=fun y=>∃ (l i x j:Value)(g:Nat→Value),y.1=mF(sl(mB q) o L.length c)(i6' k) l i x(sl(mB q) o L.length c)(i6' L.length) j++tl 17 g∧y.2.1=h4q q(F++(wU(dg L.length(vN L*2^k))++G)) X la lb)
  (fun r y=>∃ (dx px:List Int)(l:Int)(i0 x0:Value)(g:Nat→Value),px.length=r∧dx.length+px.length=L.length∧wds dx∧wds px∧(0≤l∧l<2^k)∧y.1=mF(sl(mB q) o L.length c)(i6' k)(uu l) i0 x0(sl(mB q) o L.length c)(i6' L.length)(i6' dx.length)++tl 17 g∧y.2.1=h4q q(F++(wU(dx++px)++G)) X la lb∧vN dx+4294967296^dx.length*(vN px*2^k+l)=vN L*2^k)
  ?_(n:=L.length)⟨[],L,0,undef,undef,g,rfl,by simp,(fun x hx=>by cases hx),hL,⟨by omega,Int.pow_pos(by omega)⟩,rfl,rfl,by simp [vN]⟩).mono fun e' y he=> ?_
 ·rintro r⟨t,h',s'⟩⟨dx,px,l,i0,x0,g,hr,hl,wd1,wd2,hlo,ht,hh,hv⟩
  simp only at ht hh
  subst ht hh
  match px,hr,hl,wd2,hv with
  | [],hr,hl,wd2,hv=>
   have hl':dx.length=L.length:=by simpa using hl
   refine(Zb(Zk Zd)(Zm9 _ _ _ _ _ _ L.length dx.length _ g)(Zu(decide_eq_false(by omega)))).mono fun e' y he=> ?_
   obtain⟨rfl,⟨g1,e2⟩,e3⟩:=he
   refine⟨rfl,_,_,_,_,g1,e2,?_⟩
   simp only[vN] at hv
   rw[Int.zero_mul,Int.zero_add] at hv
   have e5:=ZcC dx.length(vN dx) l
   rw[hv,Zf9 dx wd1,hl'] at e5
   rw[e3,e5,List.append_nil]
  | x::px,hr,hl,wd2,hv=>
   obtain⟨wx,wd2⟩:=Zah wd2
   obtain⟨k1,k2,k3⟩:=Z8U wx hlo hk
   have cS:=Zel hF dx x px G
   have lS:o+dx.length<(F++(wU(dx++x::px)++G)).length:=(List.getElem?_eq_some_iff.1 cS).1
   have hl':dx.length<L.length:=by simp at hl;omega
   have l1:decide(o+((dx.length:Int)).toNat*1<(F++(wU(dx++x::px)++G)).length)=true:=by
    rw[Int.toNat_natCast,Nat.mul_one]
    exact decide_eq_true lS
   have l2:(inR dx.length L.length).1=(inR dx.length L.length).2:=decide_eq_true(by omega)
   have l4:(Zdu(F++(wU(dx++x::px)++G)) o dx.length x).1=(Zdu(F++(wU(dx++x::px)++G)) o dx.length x).2:=Zax cS
   have e32:IntKind.i64.wrap(32-(k:Int))=32-(k:Int):=Zw(by omega)(by omega)
   have l5:decide(IntKind.i64.wrap(32-(k:Int))<0)=false:=by
    rw[e32]
    exact decide_eq_false(by omega)
   have l6:decide((k:Int)<0)=false:=decide_eq_false(by omega)
   have l7:decide((dx.length:Int)<(L.length:Nat))=true:=decide_eq_true(by omega)
   refine(Zb(Zk Zd)(ZwL q o L.length c k l dx.length x i0 x0 X la lb(F++(wU(dx++x::px)++G)) g)(Zj l5(Zj l1(Zj l2(Zj l6(Zj l4(Zj l2(Zu l7)))))))).mono fun e' y he=> ?_
   obtain⟨rfl,⟨g1,e2⟩,e3⟩:=he
   refine⟨px.length,by simp at hr;omega,dx++[Zq2 x k l],px,Zq3 x k,i6' dx.length,uu x,g1,rfl,by simp at hl ⊢;omega,Zai wd1(fun z hz=>by rw[List.mem_singleton.1 hz];exact k1),wd2,k2,?_,?_,?_⟩
   ·rw[e2,Zw(by omega)(by omega)]
    simp
   ·rw[e3,Int.toNat_natCast,Nat.mul_one,Zem hF]
   ·simp only[vN] at hv
    rw[zu,List.length_append,List.length_singleton,pw]
    exact Zm7 k3 hv
 ·match e',he with
  | none,he=>
   obtain⟨l,i,x,j,g,e1,e2⟩:=he
   refine⟨.inl rfl,?_,?_⟩
   ·rw[e1];exact ZmA _ _ _ _ _ _ _ _ _ _
   ·rw[e2];exact ZwK _ _ _ _ _
  | some none,he=>exact he.elim
  | some(some _),he=>exact he.elim
def ZoJ(X la lb S:List Value)(t0 t1 t2 t3:TypeId)(o n c:Nat)(k:Int):Bool:=Nat.beq t0 tR && Nat.beq t1 tR && Nat.beq t2 tU && Nat.beq t3 tU && Z8 tU S o n c && X.all still && la.all still && lb.all still && decide(0≤k∧k<32)
theorem ZnG{X la lb S:List Value}{t0 t1 t2 t3:TypeId}{o n c:Nat}{k:Int}(q:ZoJ X la lb S t0 t1 t2 t3 o n c k=true):t0=tR∧t1=tR∧t2=tU∧t3=tU∧Z8 tU S o n c=true∧X.all still=true∧la.all still=true∧lb.all still=true∧0≤k∧k<32:=by
 unfold ZoJ at q
 simp only[Bool.and_eq_true,decide_eq_true_eq] at q
 obtain⟨⟨⟨⟨⟨⟨⟨⟨q0,q1⟩,q2⟩,q3⟩,ra⟩,s0⟩,s1⟩,s2⟩,h⟩:=q
 exact⟨Nat.eq_of_beq_eq_true q0,Nat.eq_of_beq_eq_true q1,Nat.eq_of_beq_eq_true q2,Nat.eq_of_beq_eq_true q3,ra,s0,s1,s2,h.1,h.2⟩
def upT(S:List Value)(o n:Nat)(k:Int):List Value:=tmS S o n(dg n(vN(Zy S o n)*2^k.toNat))
def ZwM:Zaf:=fun vals h s=>
 match vals,h with
 | [.slice(some⟨3,o,none⟩) n c,.int .i64 k],⟨4,[(S,t3),(X,t2),(lb,t1),(la,t0)]⟩=>some(.tuple #[],⟨4,[(upT S o n k,tU),(X,tU),(lb,tR),(la,tR)]⟩,s,[(ZoJ X la lb S t0 t1 t2 t3 o n c k,true)])
 | [.slice(some⟨2,o,none⟩) n c,.int .i64 k],⟨4,[(X,t3),(S,t2),(lb,t1),(la,t0)]⟩=>some(.tuple #[],⟨4,[(X,tU),(upT S o n k,tU),(lb,tR),(la,tR)]⟩,s,[(ZoJ X la lb S t0 t1 t2 t3 o n c k,true)])
 | _,_=>none
theorem Z1S(q:Bool){X la lb S:List Value}{o n c:Nat}{L:List Int}(ra:Z8 tU S o n c=true)(s0:X.all still=true)(s1:la.all still=true)(s2:lb.all still=true):(h4q q(tmS S o n L) X la lb).tight=true:=by
 obtain⟨a1,a2,a3,a4,a5,a6,a7⟩:=ZK ra
 have hS:(tmS S o n L).all(lt1 4)=true:=by
  unfold tmS
  simp only[List.all_append,Bool.and_eq_true]
  refine⟨?_,Zbu _ _,?_⟩
  ·rw[List.all_eq_true]
   exact fun v hv=>zj(by omega)(a7 v(List.mem_of_mem_take hv))
  ·rw[List.all_eq_true]
   exact fun v hv=>zj(by omega)(a7 v(List.mem_of_mem_drop hv))
 have h1:=zy(n:=4)(by omega) s0
 have h2:=zy(n:=4)(by omega) s1
 have h3:=zy(n:=4)(by omega) s2
 cases q<;>simp [Hp.tight,h4q,hS,h1,h2,h3]
theorem ZgJ(q:Bool){X la lb S:List Value}{o n c:Nat}{k:Int}(ra:Z8 tU S o n c=true)(s0:X.all still=true)(s1:la.all still=true)(s2:lb.all still=true)(k0:0≤k)(k1:k<32)(m:Mp)(B:Nat)(w:World)(E:Emb m B(h4q q S X la lb) w)(hv:∀ v∈[sl(mB q) o n c,i6' k],KRun.lt(h4q q S X la lb).n v=true):
  Calls Tryz.prog 119(([sl(mB q) o n c,i6' k]:List Value).map(mv m)).toArray w fun e w'=>∃ m',e= .returned(mv m'(.tuple #[]))∧Came m B(h4q q S X la lb) w(.tuple #[])(h4q q(upT S o n k) X la lb) m' w':=by
 obtain⟨a1,a2,a3,a4,a5,a6,a7⟩:=ZK ra
 obtain⟨K,rfl⟩:=Int.eq_ofNat_of_zero_le k0
 have hc:c<4611686018427387904:=Zp.1 a4
 obtain⟨eS,hF⟩:=ZaF ra
 have r:=ZnF q(X:=X)(la:=la)(lb:=lb)(G:=S.drop(o+n))(c:=c)(k:=K) hF a1.rng(by omega)(by omega)
 rw[a2,← eS] at r
 have hn:(h4q q S X la lb).n=4:=by cases q<;>rfl
 exact zg(T:=Zi Tryz.prog Zf Zo true) Tryz.func119 ZiD(vals:=[sl(mB q) o n c,i6' K])(v:= .tuple #[])(h:=h4q q S X la lb)(by rfl)(Z1S q ra s0 s1 s2)(by rw[hn];exact r) m B w E hv
theorem Zrt:Z9 119 ZwM:=by
 intro vals h s v h' s' lg hg hl m B w E hv
 unfold ZwM at hg
 split at hg
 ·rename_i o n c k S t3 X t2 lb t1 la t0
  cases hg
  obtain⟨q0,q1,q2,q3,ra,s0,s1,s2,k0,k1⟩:=ZnG(hl _(List.mem_singleton.2 rfl))
  subst q0 q1 q2 q3
  exact ZgJ true ra s0 s1 s2 k0 k1 m B w E hv
 ·rename_i o n c k X t3 S t2 lb t1 la t0
  cases hg
  obtain⟨q0,q1,q2,q3,ra,s0,s1,s2,k0,k1⟩:=ZnG(hl _(List.mem_singleton.2 rfl))
  subst q0 q1 q2 q3
  exact ZgJ false ra s0 s1 s2 k0 k1 m B w E hv
 ·cases hg
def dnX(x k:Int):Int:=x.fdiv(2^min k.toNat 32)
def dnW(x k l:Int):Int:=brr(dnX x k) l
def dnH(x k:Int):Int:=IntKind.u32.wrap(x*2^min(IntKind.i64.wrap(32-k)).toNat 32)
def mdP(F:Func):List Code:=[Z5(sn 0 F),Z5(sn 1 F)]
def mdL(F:Func):Code:=cIn(cIn(sn 2 F))
def mdF(w:Value)(k l i:Int)(x:Value):List Value:=[w,i6' k,undef,undef,uu l,i6' i,x]
theorem ZwN:Tryz.f123.body=some(za(mdP Tryz.f123)(.block 0(.loop(mdL Tryz.f123)))):=by kernel_rfl
theorem Z1T(b o m c:Nat)(k:Int)(h:Hp):Zg(evL(Zi Tryz.prog Zf Zo true) 100(mdP Tryz.f123)([sl b o m c,i6' k]++List.replicate 28 undef,h,[])⟨[],[],[]⟩) 7 23 none(mdF(sl b o m c) k 0(n1 m) undef) h []:=⟨by kernel_rfl,by kernel_rfl,by kernel_rfl⟩
theorem Z1U(w x:Value)(k l i:Int)(h:Hp)(g:Nat→Value):Zg(evC(Zi Tryz.prog Zf Zo true) 100 false(mdL Tryz.f123)(mdF w k l i x++tl 23 g,h,[cmp false])⟨[],[],[]⟩) 7 23(some(some 0))(mdF w k l i x) h [(decide(i≥0),false)]:=⟨by kernel_rfl,by kernel_rfl,by kernel_rfl⟩
theorem Z74(o m c:Nat)(k l i x:Int)(x0:Value)(la lb R Y Q:List Value)(g:Nat→Value):Zg(evC(Zi Tryz.prog Zf Zo true) 100 false(mdL Tryz.f123)(mdF(sl 2 o m c) k l i x0++tl 23 g,h5 la lb R Y Q,[cmp true,at_,val(uu x),at_,at_])⟨[],[],[]⟩) 7 23 none(mdF(sl 2 o m c) k(dnH x k)(IntKind.i64.wrap(i-1))(uu x))(h5 la lb(R.set(o+i.toNat*1)(uu(dnW x k l))) Y Q)
  [(decide(IntKind.i64.wrap(32-k)<0),false),(decide(o+i.toNat*1<R.length),true),inR i m,(decide(k<0),false),Zdu R o i x,inR i m,(decide(i≥0),true)]:=⟨by kernel_rfl,by kernel_rfl,by kernel_rfl⟩
theorem Z1V(w x:Value)(k l i:Int)(h:Hp)(g:Nat→Value):ZZ Tryz.prog Tryz.f123(mdF w k l i x++tl 23 g) h=some(.tuple #[]):=by kernel_rfl
end Go.Proofs.YtjlponbdflkbjaaGreatDoor.Na
namespace Go.Nt
theorem ZnH{p q x U:Int}(hq:1≤q)(hp:1≤p)(hpq:q*p=4294967296)(hx:0≤x∧x<4294967296)(_hU:0≤U):
  (0≤x/q∧x/q<p)∧(0≤U % q∧U % q<q)∧(0≤x/q+p*(U % q)∧x/q+p*(U % q)<4294967296)∧(x+4294967296*U)/q=x/q+p*(U % q)+4294967296*(U/q)∧(x+4294967296*U) % q=x % q:=by
 have h1:0≤x/q:=Int.ediv_nonneg hx.1(by omega)
 have h2:x/q<p:=Int.ediv_lt_of_lt_mul(by omega)(by rw[Int.mul_comm,hpq];exact hx.2)
 have h3:=Int.emod_nonneg U(show q≠0 by omega)
 have h4:=Int.emod_lt_of_pos U(show 0<q by omega)
 have h5:p*(U % q)≤p*(q-1):=Int.mul_le_mul_of_nonneg_left(by omega)(by omega)
 have h6:p*(q-1)=4294967296-p:=by rw[Int.mul_sub,Int.mul_one,Int.mul_comm,hpq]
 have h7:0≤p*(U % q):=Int.mul_nonneg(by omega) h3
 have hU':=Int.emod_add_mul_ediv U q
 have e1:x+4294967296*U=x+q*(p*U):=by rw[← Int.mul_assoc,hpq]
 have e2:p*U=p*(U % q)+4294967296*(U/q):=by
  have:p*U=p*(U % q+q*(U/q)):=by rw[hU']
  rw[this,Int.mul_add,← Int.mul_assoc,Int.mul_comm p q,hpq]
 refine⟨⟨h1,h2⟩,⟨h3,h4⟩,by omega,?_,?_⟩
 ·rw[e1,Int.add_mul_ediv_left _ _(by omega),e2]
  omega
 ·rw[e1,Int.add_mul_emod_self_left]
end Go.Nt
namespace Go.Proofs.YtjlponbdflkbjaaGreatDoor.Na
open Go.KRun Go.Nt
set_option maxRecDepth 100000
set_option linter.unusedVariables false
theorem Z75{x U:Int}{k:Nat}(hk:k<32)(hx:0≤x∧x<4294967296)(hU:0≤U):dnW x k(2^(32-k)*(U % 2^k))=x/2^k+2^(32-k)*(U % 2^k)∧dnH x k=2^(32-k)*(x % 2^k):=by
 have q1:(1:Int)≤2^k:=by have:(0:Int)<2^k:=Int.pow_pos(by omega);omega
 have p1:(1:Int)≤2^(32-k):=by have:(0:Int)<2^(32-k):=Int.pow_pos(by omega);omega
 have hpq:=Zef(show k≤32 by omega)
 obtain⟨⟨h1,h2⟩,⟨h3,h4⟩,⟨h5,h6⟩,_,_⟩:=ZnH q1 p1 hpq hx hU
 have eX:dnX x k=x/2^k:=by
  unfold dnX
  rw[Int.toNat_natCast,show min k 32=k from by omega,Int.fdiv_eq_ediv_of_nonneg _(by omega)]
 constructor
 ·unfold dnW brr
  rw[eX,BitVec.or_comm,Ztk h3 h1 h2(by omega),ZgV,Int.emod_eq_of_lt(by omega)(by omega)]
  omega
 ·unfold dnH
  rw[Zw(by omega)(by omega),show min((32:Int)-(k:Nat)).toNat 32=32-k from by omega,ZgV,← hpq,Int.mul_comm x,Int.mul_comm(2^k)]
  exact Int.mul_emod_mul_of_pos _ _(by omega)
theorem ZwO{F G la lb Y Q:List Value}{o c k:Nat}{L:List Int}(hF:F.length=o)(hL:wds L)(hk:k<32)(hN:L.length<1099511627776):
  Runs(Zi Tryz.prog Zf Zo true)(za(mdP Tryz.f123)(.block 0(.loop(mdL Tryz.f123))))([sl 2 o L.length c,i6' k]++List.replicate 28 undef,h5 la lb(F++(wU L++G)) Y Q,[]) fun e y=>(e=none∨e=some none)∧ZZ Tryz.prog Tryz.f123 y.1 y.2.1=some(.tuple #[])∧y.2.1.cut 5=h5 la lb(F++(wU(dg L.length(vN L/2^k))++G)) Y Q:=by
 have hT:=Zk Zd
 have q1:(1:Int)≤2^k:=by have:(0:Int)<2^k:=Int.pow_pos(by omega);omega
 have p1:(1:Int)≤2^(32-k):=by have:(0:Int)<2^(32-k):=Int.pow_pos(by omega);omega
 have hpq:=Zef(show k≤32 by omega)
 have e0:L=L.take L.length++dg(L.length-L.length)(vN(L.drop L.length)/2^k):=by rw[List.take_length,Nat.sub_self];simp [dg]
 refine Zx hT(Z1T 2 o L.length c k _)(fun x hx=>by cases hx) fun g=> ?_
 refine(Runs.forLoop(R:=fun _=>False)(P:=fun y=>∃ (l i:Int)(x:Value)(g:Nat→Value),y.1=mdF(sl 2 o L.length c) k l i x++tl 23 g∧y.2.1=h5 la lb(F++(wU(dg L.length(vN L/2^k))++G)) Y Q)
  (fun r y=>∃ (x0:Value)(g:Nat→Value),r≤L.length∧y.1=mdF(sl 2 o L.length c) k(2^(32-k)*(vN(L.drop r) % 2^k))((r:Int)-1) x0++tl 23 g∧y.2.1=h5 la lb(F++(wU(L.take r++dg(L.length-r)(vN(L.drop r)/2^k))++G)) Y Q)
  ?_(n:=L.length)⟨undef,g,Nat.le_refl _,?_,by rw[← e0]⟩).mono fun e' y he=> ?_
 ·rintro r⟨t,h',s'⟩⟨x0,g,hr,ht,hh⟩
  simp only at ht hh
  subst ht hh
  cases r with
  | zero=>
   refine(Zb hT(Z1U _ x0 k _ _ _ g)(Zu(decide_eq_false(by omega)))).mono fun e' y he=> ?_
   obtain⟨rfl,⟨g1,e2⟩,e3⟩:=he
   exact⟨rfl,_,_,_,g1,e2,e3⟩
  | succ r=>
   have hlt:r<L.length:=by omega
   have hx:=hL(L.getD r 0)(by simp [List.getD,List.getElem?_eq_getElem hlt])
   have et:=Zaz hlt
   have ed:L.drop r=L.getD r 0::L.drop(r+1):=by
    rw[List.drop_eq_getElem_cons hlt]
    simp [List.getD,List.getElem?_eq_getElem hlt]
   generalize L.getD r 0=x at*
   have hU:=(ZaK(L.drop(r+1))(fun z hz=>hL z(List.mem_of_mem_drop hz))).1
   have hsp:L.take(r+1)++dg(L.length-(r+1))(vN(L.drop(r+1))/2^k)=L.take r++x::dg(L.length-(r+1))(vN(L.drop(r+1))/2^k):=by rw[et];simp
   rw[hsp]
   generalize hux:L.drop(r+1)=ux at*
   obtain⟨w1,w2⟩:=Z75 hk hx hU
   obtain⟨_,_,⟨w3,w4⟩,w5,w6⟩:=ZnH q1 p1 hpq hx hU
   have lt:(L.take r).length=r:=by rw[List.length_take];omega
   have cS:=Zel hF(L.take r) x(dg(L.length-(r+1))(vN ux/2^k)) G
   have eS:=Zem hF(L.take r) x(x/2^k+2^(32-k)*(vN ux % 2^k))(dg(L.length-(r+1))(vN ux/2^k)) G
   rw[lt] at cS eS
   have lS:o+r<(F++(wU(L.take r++x::dg(L.length-(r+1))(vN ux/2^k))++G)).length:=(List.getElem?_eq_some_iff.1 cS).1
   have ei:((r+1:Nat):Int)-1=(r:Int):=by omega
   have g1:=Z74 o L.length c k(2^(32-k)*(vN ux % 2^k)) r x x0 la lb(F++(wU(L.take r++x::dg(L.length-(r+1))(vN ux/2^k))++G)) Y Q g
   rw[w1,w2,Int.toNat_natCast,Nat.mul_one,eS] at g1
   rw[ei]
   have l2:(inR r L.length).1=(inR r L.length).2:=decide_eq_true(by omega)
   have d1:decide(IntKind.i64.wrap(32-(k:Int))<0)=false:=by
    rw[Zw(by omega)(by omega)]
    exact decide_eq_false(by omega)
   have d2:decide((k:Int)<0)=false:=decide_eq_false(by omega)
   have d3:decide((r:Int)≥0)=true:=decide_eq_true(by omega)
   have d4:decide(o+r<(F++(wU(L.take r++x::dg(L.length-(r+1))(vN ux/2^k))++G)).length)=true:=decide_eq_true lS
   refine(Zb hT g1(Zj d1(Zj d4(Zj l2(Zj d2(Zj(Zax cS)(Zj l2(Zu d3)))))))).mono fun e' y he=> ?_
   obtain⟨rfl,⟨g2,e2⟩,e3⟩:=he
   refine⟨r,by omega,uu x,g2,by omega,?_,?_⟩
   ·rw[e2,ed]
    simp only[vN]
    rw[w6,Zw(by omega)(by omega)]
   ·rw[e3,ed]
    simp only[vN]
    rw[w5,show L.length-r=(L.length-(r+1))+1 by omega]
    simp only[dg]
    have m1:(x/2^k+2^(32-k)*(vN ux % 2^k)+4294967296*(vN ux/2^k)) % 4294967296=x/2^k+2^(32-k)*(vN ux % 2^k):=by omega
    have m2:(x/2^k+2^(32-k)*(vN ux % 2^k)+4294967296*(vN ux/2^k))/4294967296=vN ux/2^k:=by omega
    rw[m1,m2]
    simp
 ·show mdF _ _ _ _ _++_=_
  rw[List.drop_length,show n1 L.length=((L.length:Nat):Int)-1 from by unfold n1;rw[Zw(by omega)(by omega)]]
  simp [vN]
 ·match e',he with
  | none,he=>
   obtain⟨l,i,x,g,e1,e2⟩:=he
   refine⟨.inl rfl,?_,?_⟩
   ·rw[e1];exact Z1V _ _ _ _ _ _ _
   ·rw[e2];rfl
  | some none,he=>exact he.elim
  | some(some _),he=>exact he.elim
def Z1W(la lb R Y Q:List Value)(t0 t1 t2 t3 t4:TypeId)(o n c:Nat)(k:Int):Bool:=Nat.beq t0 tR && Nat.beq t1 tR && Nat.beq t2 tU && Nat.beq t3 tU && Nat.beq t4 tU && Z8 tU R o n c && Nat.blt n 1099511627776 && la.all still && lb.all still && Y.all still && Q.all still && decide(0≤k∧k<32)
def Z76:Zaf:=fun vals h s=>
 match vals,h with
 | [.slice(some⟨2,o,none⟩) n c,.int .i64 k],⟨5,[(Q,t4),(Y,t3),(R,t2),(lb,t1),(la,t0)]⟩=>some(.tuple #[],h5 la lb(tmS R o n(dg n(vN(Zy R o n)/2^k.toNat))) Y Q,s,[(Z1W la lb R Y Q t0 t1 t2 t3 t4 o n c k,true)])
 | _,_=>none
theorem ZwP:Z9 123 Z76:=by
 intro vals h s v h' s' lg hg hl m B w E hv
 unfold Z76 at hg
 split at hg
 ·rename_i o n c k Q t4 Y t3 R t2 lb t1 la t0
  cases hg
  have q:=hl _(List.mem_singleton.2 rfl)
  unfold Z1W at q
  simp only[Bool.and_eq_true,decide_eq_true_eq] at q
  obtain⟨⟨⟨⟨⟨⟨⟨⟨⟨⟨⟨q0,q1⟩,q2⟩,q3⟩,q4⟩,ra⟩,qN⟩,s0⟩,s1⟩,s2⟩,s3⟩,k0,k1⟩:=q
  have q0:=Nat.eq_of_beq_eq_true q0
  have q1:=Nat.eq_of_beq_eq_true q1
  have q2:=Nat.eq_of_beq_eq_true q2
  have q3:=Nat.eq_of_beq_eq_true q3
  have q4:=Nat.eq_of_beq_eq_true q4
  subst q0 q1 q2 q3 q4
  obtain⟨a1,a2,a3,a4,a5,a6,a7⟩:=ZK ra
  obtain⟨K,rfl⟩:=Int.eq_ofNat_of_zero_le k0
  obtain⟨eS,hF⟩:=ZaF ra
  have r:=ZwO(G:=R.drop(o+n))(la:=la)(lb:=lb)(Y:=Y)(Q:=Q)(c:=c)(k:=K) hF a1.rng(by omega)(by rw[a2];exact Zp.1 qN)
  rw[a2,← eS] at r
  have ht:(h5 la lb(tmS R o n(dg n(vN(Zy R o n)/2^K))) Y Q).tight=true:=by
   unfold Hp.tight tmS h5
   simp only[List.all_cons,List.all_nil,List.all_append,Bool.and_true,Bool.and_eq_true]
   refine⟨zy(by omega) s3,zy(by omega) s2,⟨?_,Zbu _ _,?_⟩,zy(by omega) s1,zy(by omega) s0⟩
   ·rw[List.all_eq_true]
    exact fun v hv=>zj(by omega)(a7 v(List.mem_of_mem_take hv))
   ·rw[List.all_eq_true]
    exact fun v hv=>zj(by omega)(a7 v(List.mem_of_mem_drop hv))
  exact zg(T:=Zi Tryz.prog Zf Zo true) Tryz.func123 ZwN(vals:=[sl 2 o n c,i6' K])(v:= .tuple #[])(h:=h5 la lb R Y Q)(by rfl) ht r m B w E hv
 ·cases hg
def hcD:Hc:=zS 122 Z73(zS 119 ZwM(zS 123 Z76(zS 116 Zj9(zS 120 Z47(zS 112 Zg4 hcN)))))
theorem Z1X:HcOk hcD:=Z2 Tryz.func122 rfl ZwJ(Z2 Tryz.func119 rfl Zrt(Z2 Tryz.func123 rfl ZwP(Z2 Tryz.func116 rfl Zc7(Z2 Tryz.func120 rfl Zeb(Z2 Tryz.func112 rfl ZbY Zam)))))
def dmP(F:Func):List Code:=[Z5(sn 0 F),Z5(sn 1 F),Z5(sn 2 F),Z5(sn 3 F),Z5(sn 4 F),Z5(sn 5 F),Z5(sn 6 F),Z5(sn 7 F),Z5(sn 8 F),Z5(sn 9 F),Z5(sn 10 F),Z5(sn 11 F)]
def dmL(F:Func):Code:=cIn(cIn(Z0(Z5(sn 12 F))))
theorem ZwQ:Tryz.f81.body=some(za(dmP Tryz.f81)(.seq(.seq(Z5(Z5(sn 12 Tryz.f81)))(.block 0(.loop(dmL Tryz.f81))))(sn 13 Tryz.f81))):=by kernel_rfl
theorem ZdF:Tryz.f81.body=some(Zt Tryz.f81):=by kernel_rfl
def dmU(x:Int):Int:=IntKind.i64.wrap(32-((Go.bitLen x.toNat:Nat):Int))
def dmQ(n n':Nat):Int:=IntKind.i64.wrap(IntKind.i64.wrap((n:Int)-(n':Int))+1)
def dmF(o n c o' n' c' zr zb zq:Nat)(u:Int):List Value:=[sl 0 o n c,sl 1 o' n' c',undef,undef,Zq,Zq,.nilIface,.nilIface,sl 2 0 zr zr,i6' u,sl 3 0 zb zb,sl 4 0 zq zq]
def dmY(lb:List Value)(o' n':Nat)(x:Int):List Value:=upT(cpS lb o' n') 0((n':Int)).toNat(dmU x)
def dmR(la:List Value)(o n:Nat)(x:Int):List Value:=upT(cpy la o n) 0(nP n).toNat(dmU x)
theorem Z1Y(o n c o' n' c':Nat)(x:Int)(la lb:List Value):Zg(evL(Zs Tryz.prog Zf Zfa hcD) 300(dmP Tryz.f81)([sl 0 o n c,sl 1 o' n' c']++List.replicate 87 undef,h2 la lb,[cmp false,cmp false,at_,at_,cmp false,at_,val(uu x),at_,at_,at_])⟨[],[],[]⟩) 12 77 none(dmF o n c o' n' c'(nP n).toNat((n':Int)).toNat(dmQ n n').toNat(dmU x))(h5 la lb(dmR la o n x)(dmY lb o' n' x)(List.replicate(dmQ n n').toNat(uu 0)))
  [(ZL 4(dmQ n n')(dmQ n n'),true),(ZoJ(dmY lb o' n' x) la lb(cpy la o n) tR tR tU tU 0(nP n).toNat(nP n).toNat(dmU x),true),(ZoJ(cpy la o n) la lb(cpS lb o' n') tR tR tU tU 0((n':Int)).toNat((n':Int)).toNat(dmU x),true),(Z5K lb o' n',true),(ZL 4 n' n',true),(decide(0≤x∧x<4294967296),true),Zdu lb o'(n1 n') x,inR(n1 n') n',
   (decide(Zci(Zy la o n)(Zy lb o' n')<0),false),(Z8 tR la o n c,true),(Z8 tR lb o' n' c',true),(Z49 la o n,true),(ZL 4(nP n)(nP n),true),((n':Int)==0,false),(Z8 tR la o n c,true),(Z8 tR lb o' n' c',true),(ZX(Zy la o n) || ZX(Zy lb o' n'),false)]:=⟨by kernel_rfl,by kernel_rfl,by kernel_rfl⟩
def dmG(o n c o' n' c' zr zb zq:Nat)(u i:Int):List Value:=[sl 0 o n c,sl 1 o' n' c',undef,undef,Zq,Zq,.nilIface,.nilIface,sl 2 0 zr zr,i6' u,sl 3 0 zb zb,sl 4 0 zq zq,i6' i]
theorem Z9Q(o n c o' n' c' zr zb zq:Nat)(u:Int)(h:Hp)(g:Nat→Value):Zg(evC(Zs Tryz.prog Zf Zfa hcD) 300 false(Z5(Z5(sn 12 Tryz.f81)))(dmF o n c o' n' c' zr zb zq u++tl 77 g,h,[])⟨[],[],[]⟩) 13 76 none(dmG o n c o' n' c' zr zb zq u(n1 zq)) h []:=⟨by kernel_rfl,by kernel_rfl,by kernel_rfl⟩
theorem Z1Z(o n c o' n' c' zr zb zq:Nat)(u i:Int)(h:Hp)(g:Nat→Value):Zg(evC(Zs Tryz.prog Zf Zfa hcD) 300 false(dmL Tryz.f81)(dmG o n c o' n' c' zr zb zq u i++tl 76 g,h,[cmp false])⟨[],[],[]⟩) 13 76(some(some 0))(dmG o n c o' n' c' zr zb zq u i) h [(decide(i≥0),false)]:=⟨by kernel_rfl,by kernel_rfl,by kernel_rfl⟩
def dmH(i:Int)(zb:Nat):Int:=IntKind.i64.wrap(IntKind.i64.wrap(i+(zb:Int))+1)
def dmN(i:Int)(zb:Nat):Nat:=(dmH i zb).toNat-i.toNat
theorem Z77(o n c o' n' c' zr zb zq:Nat)(u i:Int)(la lb R Y Q:List Value)(g:Nat→Value):Zg(evC(Zs Tryz.prog Zf Zfa hcD) 300 false(dmL Tryz.f81)(dmG o n c o' n' c' zr zb zq u i++tl 76 g,h5 la lb R Y Q,[cmp true,num 0,at_,at_])⟨[],[],[]⟩) 13 76 none(dmG o n c o' n' c' zr zb zq u(IntKind.i64.wrap(i-1)))
  (h5 la lb(tmS R(pJ i)(dmN i zb)(dg(dmN i zb)(vN(Zy R(pJ i)(dmN i zb)) % vN(Zy Y 0 zb)))) Y(Q.set(pJ i)(uu(vN(Zy R(pJ i)(dmN i zb))/vN(Zy Y 0 zb)))))
  [(decide(pJ i<Q.length),true),inR i zq,(Zeq la lb R Y Q tR tR tU tU tU(pJ i)(dmN i zb)(zr-i.toNat) zb zb && decide(0<zb∧0<(Zy Y 0 zb).getD(zb-1) 0∧vN(Zy R(pJ i)(dmN i zb))<4294967296*vN(Zy Y 0 zb)),true),(ZB zr,true),(ZS i(dmH i zb) zr zr,true),(decide((zr:Int)=i∧i≠0),false),(decide(i≥0),true)]:=⟨by kernel_rfl,by kernel_rfl,by kernel_rfl⟩
def dmD(R:List Value)(zr:Nat)(u:Int):List Value:=tmS R 0 zr(dg zr(vN(Zy R 0 zr)/2^u.toNat))
theorem Z2a(o n c o' n' c' zr zb zq:Nat)(u i:Int)(la lb R Y Q:List Value)(g:Nat→Value):Zg(evC(Zs Tryz.prog Zf Zfa hcD) 300 false(sn 13 Tryz.f81)(dmG o n c o' n' c' zr zb zq u i++tl 76 g,h5 la lb R Y Q,[])⟨[],[],[]⟩) 7 82(some none) [sl 0 o n c,sl 1 o' n' c',undef,undef,sl 4 0(Zm(Zy Q 0 zq)) zq,sl 2 0(Zm(Zy(dmD R zr u) 0 zr)) zr,.nilIface](h5 la lb(dmD R zr u) Y Q)
  [(Z8 tU(dmD R zr u) 0 zr zr,true),(Z8 tU Q 0 zq zq,true),(Z1W la lb R Y Q tR tR tU tU tU 0 zr zr u,true)]:=⟨by kernel_rfl,by kernel_rfl,by kernel_rfl⟩
end Go.Proofs.YtjlponbdflkbjaaGreatDoor.Na
namespace Go.Nt
theorem ZiW:∀ (a b:Nat)(V:Int),dg(a+b) V=dg a V++dg b(V/4294967296^a)
 | 0,b,V=>by simp [dg]
 | a+1,b,V=>by
  rw[show a+1+b=(a+b)+1 by omega]
  simp only[dg]
  rw[ZiW a b,pw,Int.ediv_ediv_of_nonneg(show(0:Int)≤4294967296 by omega)]
  rfl
theorem ZiX(i m j:Nat)(W:Int):dg(i+(m+j)) W=dg i W++(dg m(W/4294967296^i)++dg j(W/4294967296^i/4294967296^m)):=by
 rw[ZiW,ZiW]
def qtW(W X:Int)(i:Nat):Int:=W % 4294967296^i+4294967296^i*X
theorem ZwR(W X:Int)(i:Nat):qtW W X i/4294967296^i=X:=by
 have hp:=Zay i
 unfold qtW
 rw[Int.add_mul_ediv_left _ _(by omega),Int.ediv_eq_zero_of_lt(Int.emod_nonneg _(by omega))(Int.emod_lt_of_pos _ hp),Int.zero_add]
theorem ZwS(W X:Int)(i:Nat):dg i(qtW W X i)=dg i W:=by
 have h:=Int.emod_add_mul_ediv W(4294967296^i)
 have e:qtW W X i=W+4294967296^i*(X-W/4294967296^i):=by
  unfold qtW
  rw[Int.mul_sub]
  omega
 rw[e,ZcC]
theorem Zru{i m j:Nat}{W X:Int}(hX:0≤X∧X<4294967296^m):dg i W++(dg m X++dg j 0)=dg(i+(m+j))(qtW W X i):=by
 rw[ZiX,ZwS,ZwR,Int.ediv_eq_zero_of_lt hX.1 hX.2]
theorem Zrv{W B W0 v:Int}{i n:Nat}(hB:0<B∧B<4294967296^n)(hW:0≤W∧W<B*4294967296^(i+1))(h:W0=W+B*(4294967296^(i+1)*v)):
  (0≤W/4294967296^i∧W/4294967296^i<4294967296*B∧W/4294967296^i<4294967296^(n+1))∧(0≤W/4294967296^i % B∧W/4294967296^i % B<4294967296^(n+1))∧(0≤qtW W(W/4294967296^i % B) i∧qtW W(W/4294967296^i % B) i<B*4294967296^i)∧W0=qtW W(W/4294967296^i % B) i+B*(4294967296^i*(W/4294967296^i/B+4294967296*v)):=by
 have hp:=Zay i
 have hn:=Zay n
 have hd:=Int.emod_add_mul_ediv W(4294967296^i)
 have h1:=Int.emod_nonneg W(show(4294967296:Int)^i≠0 by omega)
 have h2:=Int.emod_lt_of_pos W hp
 have t0:0≤W/4294967296^i:=Int.ediv_nonneg hW.1(by omega)
 have t1:W/4294967296^i<4294967296*B:=Int.ediv_lt_of_lt_mul hp(by
  have:=hW.2
  rw[pw,← Int.mul_assoc,Int.mul_comm B 4294967296] at this
  exact this)
 have t2:W/4294967296^i<4294967296^(n+1):=by rw[pw];omega
 generalize hT:W/4294967296^i=T at*
 have x0:=Int.emod_nonneg T(show B≠0 by omega)
 have x1:=Int.emod_lt_of_pos T hB.1
 have hx:=Int.emod_add_mul_ediv T B
 generalize T % B=X at*
 generalize T/B=q at*
 have x2:X<4294967296^(n+1):=by rw[pw];omega
 have y1:4294967296^i*X≤4294967296^i*(B-1):=Int.mul_le_mul_of_nonneg_left(by omega)(by omega)
 have y2:0≤4294967296^i*X:=Int.mul_nonneg(by omega) x0
 rw[Int.mul_sub,Int.mul_one,Int.mul_comm _ B] at y1
 refine⟨⟨t0,t1,t2⟩,⟨x0,x2⟩,?_,?_⟩
 ·unfold qtW
  omega
 ·unfold qtW
  have hT2:4294967296^i*T=4294967296^i*X+4294967296^i*(B*q):=by rw[← Int.mul_add,hx]
  rw[h,pw,Int.mul_add(4294967296^i) q,Int.mul_add B]
  have e1:B*(4294967296^i*q)=4294967296^i*(B*q):=by rw[← Int.mul_assoc,Int.mul_comm B,Int.mul_assoc]
  have e2:4294967296^i*(4294967296*v)=4294967296*4294967296^i*v:=by rw[← Int.mul_assoc,Int.mul_comm _(4294967296:Int)]
  rw[e1,e2]
  omega
theorem Z2b{W B W0 v:Int}(hW:0≤W∧W<B)(h:W0=W+B*v):v=W0/B∧W=W0 % B:=by
 subst h
 rw[Int.add_mul_ediv_left _ _(by omega),Int.ediv_eq_zero_of_lt hW.1 hW.2,Int.add_mul_emod_self_left,Int.emod_eq_of_lt hW.1 hW.2]
 omega
theorem ZwT{V:Int}{n:Nat}(hn:0<n)(h0:4294967296^(n-1)≤V)(h1:V<4294967296^n):0<(dg n V).getD(n-1) 0:=by
 have e:dg n V=dg(n-1) V++dg 1(V/4294967296^(n-1)):=by
  rw[← ZiW]
  congr 1
  omega
 have hp:=Zay(n-1)
 have h2:(1:Int)≤V/4294967296^(n-1):=(Int.le_ediv_iff_mul_le hp).2(by omega)
 have h3:V/4294967296^(n-1)<4294967296:=Int.ediv_lt_of_lt_mul hp(by
  rw[← pw,show n-1+1=n by omega]
  exact h1)
 have e2:(dg(n-1) V++dg 1(V/4294967296^(n-1)))[n-1]? =some(V/4294967296^(n-1) % 4294967296):=by
  rw[List.getElem?_append_right(by rw[ZU];omega),ZU,Nat.sub_self]
  rfl
 rw[e,List.getD,e2]
 simp only[Option.getD_some]
 omega
theorem ZwU{L:List Int}{n k:Nat}{x b:Int}(hL:wds L)(hl:L.length=n)(hn:0<n)(hx:L.getD(n-1) 0=x)(hb:x<b)(hbk:b*2^k≤4294967296):vN L*2^k<4294967296^n:=by
 have eL:L=L.take(n-1)++[x]:=by
  have h2:=Zaz(L:=L)(k:=n-1)(by omega)
  rw[← hx,← h2,show n-1+1=L.length by omega,List.take_length]
 have vL:vN L=vN(L.take(n-1))+4294967296^(n-1)*x:=by
  have:vN L=vN(L.take(n-1)++[x]):=by rw[← eL]
  rw[this,zu,List.length_take,Nat.min_eq_left(by omega)]
 have bL:=ZaK(L.take(n-1))(Zc9 hL _)
 rw[List.length_take,Nat.min_eq_left(by omega)] at bL
 have hp:=Zay(n-1)
 have hk:(0:Int)<2^k:=Int.pow_pos(by omega)
 have h1:4294967296^(n-1)*(x+1)≤4294967296^(n-1)*b:=Int.mul_le_mul_of_nonneg_left(by omega)(by omega)
 have h2:vN L<4294967296^(n-1)*b:=by rw[Int.mul_add] at h1;omega
 have h3:=Int.mul_lt_mul_of_pos_right h2 hk
 have h4:4294967296^(n-1)*(b*2^k)≤4294967296^(n-1)*4294967296:=Int.mul_le_mul_of_nonneg_left hbk(by omega)
 have h5:(4294967296:Int)^n=4294967296^(n-1)*4294967296:=by
  have:=pw(n-1)
  rw[show n-1+1=n by omega] at this
  rw[this,Int.mul_comm]
 rw[h5]
 rw[Int.mul_assoc] at h3
 omega
end Go.Nt
namespace Go.Proofs.YtjlponbdflkbjaaGreatDoor.Na
open Go.KRun Go.Nt
set_option maxRecDepth 100000
set_option linter.unusedVariables false
theorem ZnI{l:List Value}{o:Nat}{L:List Int}(h:Row l o L):Zy l o L.length=L:=by
 unfold Zy
 rw[h.cut]
 unfold wU
 rw[List.map_map]
 exact(List.map_congr_left fun x _=>rfl).trans(List.map_id' _)
theorem Zdk(L:List Int){z:Nat}(hl:L.length=z):Zy(wU L) 0 z=L:=by
 have:=Zh8 [] L []
 rw[List.append_nil,List.nil_append,List.length_nil,hl] at this
 exact this
theorem ZnJ(L M:List Int){z:Nat}(hl:L.length=z):tmS(wU L) 0 z M=wU M:=by
 have:=Zh9 [] L [] M
 rw[List.append_nil,List.nil_append,List.length_nil,hl,List.append_nil,List.nil_append] at this
 exact this
theorem ZnK(L:List Int){z K:Nat}(hl:L.length=z):upT(wU L) 0 z(K:Int)=wU(dg z(vN L*2^K)):=by
 unfold upT
 rw[Zdk L hl,ZnJ L _ hl,Int.toNat_natCast]
theorem zw{q:Nat}(h:q≤1000000):ZB q=true:=Zp.2(by unfold ZW;omega)
theorem Zrw{x:Int}(h:0<x∧x<4294967296):∃ K:Nat,dmU x=(K:Int)∧K<32∧x<2^(32-K)∧(2:Int)^(32-K)*2^K≤4294967296:=by
 have h1:=Zeh(by omega) h.2
 have h2:=bitLen_spec x.toNat
 have h3:bitLen x.toNat≠0:=fun h0=>by rw[h0] at h2;have:=h2.1;omega
 refine⟨32-bitLen x.toNat,?_,by omega,?_,?_⟩
 ·unfold dmU
  rw[Zw(by omega)(by omega)]
  omega
 ·rw[show 32-(32-bitLen x.toNat)=bitLen x.toNat by omega]
  have:((x.toNat:Nat):Int)<((2^bitLen x.toNat:Nat):Int):=Int.ofNat_lt.2 h2.1
  rw[Int.natCast_pow] at this
  have e:((x.toNat:Nat):Int)=x:=Int.toNat_of_nonneg(by omega)
  rw[e] at this
  exact this
 ·rw[← Int.pow_add,show 32-(32-bitLen x.toNat)+(32-bitLen x.toNat)=32 by omega]
  decide
theorem ZwV{la lb:List Value}{o c o' c':Nat}{LA LB:List Int}(RA:Row la o LA)(RB:Row lb o' LB)(ra:Z8 tR la o LA.length c=true)(rb:Z8 tR lb o' LB.length c'=true)(ba:ZX LA=false)(bb:ZX LB=false)(hb0:0<LB.length)(hc:¬ Zci LA LB<0):
  Runs(Zs Tryz.prog Zf Zfa hcD)(za(dmP Tryz.f81)(.seq(.seq(Z5(Z5(sn 12 Tryz.f81)))(.block 0(.loop(dmL Tryz.f81))))(sn 13 Tryz.f81)))([sl 0 o LA.length c,sl 1 o' LB.length c']++List.replicate 87 undef,h2 la lb,[]) fun e y=>(e=none∨e=some none)∧ZZ Tryz.prog Tryz.f81 y.1 y.2.1=some(.tuple #[sl 4 0(Zm(dg(LA.length-LB.length+1)(vN LA/vN LB)))(LA.length-LB.length+1),sl 2 0(Zm(dg(LA.length+1)(vN LA % vN LB)))(LA.length+1),.nilIface])∧y.2.1.blk? 4=some(wU(dg(LA.length-LB.length+1)(vN LA/vN LB)),tU)∧y.2.1.blk? 2=some(wU(dg(LA.length+1)(vN LA % vN LB)),tU):=by
 have hT:=Zh ZaS Z1X
 have n8:=Zc8 ba
 have n8':=Zc8 bb
 have qa:=ZeY RA.rng ba
 have qb:=ZeY RB.rng bb
 have hcv:=Zi8 qa qb
 have hge:vN LB≤vN LA:=by
  have:=mt hcv.1.2 hc
  omega
 have hle:=Zmn qa qb hge
 obtain⟨_,_,_,_,_,_,sa⟩:=ZK ra
 obtain⟨_,_,_,_,_,_,sb⟩:=ZK rb
 have cA:=ZnI RA
 have cB:=ZnI RB
 have cx:=RB.cell(k:=LB.length-1)(by omega)
 have hx0:LB.getD(LB.length-1) 0≠0:=qb.2.resolve_left(by omega)
 have hxr:=RB.rng(LB.getD(LB.length-1) 0)(by
  have hk:LB.length-1<LB.length:=by omega
  simp [List.getD,List.getElem?_eq_getElem hk])
 obtain⟨K,eU,hK,hxK,hKK⟩:=Zrw(x:=LB.getD(LB.length-1) 0)(by omega)
 have hB1:=ZwU RB.rng rfl hb0 rfl hxK hKK
 have hlow:=Zg7 RB.rng hb0 hx0
 have k1:(1:Int)≤2^K:=by have:(0:Int)<2^K:=Int.pow_pos(by omega);omega
 have k2:(2:Int)^K≤4294967296:=by
  have h1:(1:Int)≤2^(32-K):=by have:(0:Int)<2^(32-K):=Int.pow_pos(by omega);omega
  have h2:1*(2:Int)^K≤2^(32-K)*2^K:=Int.mul_le_mul_of_nonneg_right h1(by omega)
  omega
 have bA:=ZaK LA RA.rng
 have pN1:=Zay(LB.length-1)
 have hvB:0<vN LB:=by omega
 have hBlow:4294967296^(LB.length-1)≤vN LB*2^K:=by
  have:vN LB*1≤vN LB*2^K:=Int.mul_le_mul_of_nonneg_left k1(by omega)
  omega
 have hW0:0≤vN LA*2^K:=Int.mul_nonneg bA.1(by omega)
 have hW1:vN LA*2^K<vN LB*2^K*4294967296^(LA.length-LB.length+1):=by
  have e1:(4294967296:Int)^LA.length=4294967296^(LB.length-1)*4294967296^(LA.length-LB.length+1):=by
   rw[← Int.pow_add,show LB.length-1+(LA.length-LB.length+1)=LA.length by omega]
  have h1:4294967296^(LB.length-1)*4294967296^(LA.length-LB.length+1)≤vN LB*4294967296^(LA.length-LB.length+1):=Int.mul_le_mul_of_nonneg_right hlow(by have:=Zay(LA.length-LB.length+1);omega)
  have h2:vN LA<vN LB*4294967296^(LA.length-LB.length+1):=by omega
  have h3:=Int.mul_lt_mul_of_pos_right h2(show(0:Int)<2^K by omega)
  rw[Int.mul_assoc,Int.mul_comm(4294967296^(LA.length-LB.length+1))(2^K),← Int.mul_assoc] at h3
  exact h3
 have eNP:(nP LA.length).toNat=LA.length+1:=Zi6 n8
 have eQ:dmQ LA.length LB.length=((LA.length-LB.length+1:Nat):Int):=by
  unfold dmQ
  rw[Zw(n:=(LA.length:Int)-(LB.length:Int))(by omega)(by omega),Zw(by omega)(by omega)]
  omega
 have eR:dmR la o LA.length(LB.getD(LB.length-1) 0)=wU(dg(LA.length+1)(vN LA*2^K)):=by
  unfold dmR
  rw[eU,eNP,Zmj RA n8,ZnK _(by simp),zu,Int.mul_zero,Int.add_zero]
 have eY:dmY lb o' LB.length(LB.getD(LB.length-1) 0)=wU(dg LB.length(vN LB*2^K)):=by
  unfold dmY
  rw[eU,Int.toNat_natCast,Ztc RB,ZnK _ rfl]
 have g0:=Z1Y o LA.length c o' LB.length c'(LB.getD(LB.length-1) 0) la lb
 have en1:n1 LB.length=((LB.length-1:Nat):Int):=by unfold n1;rw[Zw(by omega)(by omega)];omega
 rw[eR,eY,eU,eNP,eQ,Int.toNat_natCast,Int.toNat_natCast,cA,cB,Zmj RA n8,Ztc RB,en1] at g0
 have erep:List.replicate(LA.length-LB.length+1)(uu 0)=wU(List.replicate(LA.length-LB.length+1) 0++[]):=by
  unfold wU uu
  simp
 rw[erep] at g0
 have lm1:ZoJ(wU(dg LB.length(vN LB*2^K))) la lb(wU(LA++[0])) tR tR tU tU 0(LA.length+1)(LA.length+1)(K:Int)=true:=by
  unfold ZoJ
  rw[z4(ZfM RA.rng)(by simp)(Nat.le_refl _)(zw(by omega)),ZbM,List.all_eq_true.2 sa,List.all_eq_true.2 sb,decide_eq_true(show(0:Int)≤K∧(K:Int)<32 by omega)]
  simp
 have lm2:ZoJ(wU(LA++[0])) la lb(wU LB) tR tR tU tU 0 LB.length LB.length(K:Int)=true:=by
  unfold ZoJ
  rw[z4 RB.rng(by simp)(Nat.le_refl _)(zw(by omega)),ZbM,List.all_eq_true.2 sa,List.all_eq_true.2 sb,decide_eq_true(show(0:Int)≤K∧(K:Int)<32 by omega)]
  simp
 refine Zx hT g0(Zj(by unfold ZL;exact decide_eq_true(by omega))(Zj lm1(Zj lm2(Zj(Zvg RB)(Zj(by unfold ZL;exact decide_eq_true(by omega))(Zj(decide_eq_true hxr)(Zj(Zax cx)(Zj(decide_eq_true(by omega))(Zj(decide_eq_false hc)(Zj ra(Zj rb(Zj(Zmk RA n8)(Zj(Z02 n8)(Zj(by simpa using(show LB.length≠0 by omega))(Zj ra(Zj rb(Zu(by rw[ba,bb];rfl)))))))))))))))))) fun g=> ?_
 generalize hBe:vN LB*2^K=B' at*
 generalize hWe:vN LA*2^K=W0 at*
 have cY:=Zdk(dg LB.length B')(ZU LB.length B')
 have vY:vN(dg LB.length B')=B':=ZjU _ _(by omega) hB1
 have tY:=ZwT hb0 hBlow hB1
 have hBp:0<B':=by omega
 refine Runs.seq(P1:=fun e' y=>e'=none∧∃ (W:Int)(qs:List Int)(i:Int)(g:Nat→Value),(0≤W∧W<B')∧W0=W+B'*vN qs∧qs.length=LA.length-LB.length+1∧wds qs∧y.1=dmG o LA.length c o' LB.length c'(LA.length+1) LB.length(LA.length-LB.length+1) K i++tl 76 g∧y.2.1=h5 la lb(wU(dg(LA.length+1) W))(wU(dg LB.length B'))(wU qs)) ?_ ?_(fun e y he=>by cases he.1)
 ·refine Runs.seq(P1:=fun e' y=>e'=none∧(∃ g,y.1=dmG o LA.length c o' LB.length c'(LA.length+1) LB.length(LA.length-LB.length+1) K(n1(LA.length-LB.length+1))++tl 76 g)∧y.2.1=h5 la lb(wU(dg(LA.length+1) W0))(wU(dg LB.length B'))(wU(List.replicate(LA.length-LB.length+1) 0++[])))(Zb hT(Z9Q o LA.length c o' LB.length c'(LA.length+1) LB.length(LA.length-LB.length+1) K _ g)(fun x hx=>by cases hx)) ?_(fun e y he=>by cases he.1)
  rintro⟨t,h',s'⟩⟨_,⟨g1,ht⟩,hh⟩
  simp only at ht hh
  subst ht hh
  refine(Runs.forLoop(R:=fun _=>False)(P:=fun y=>∃ (W:Int)(qs:List Int)(i:Int)(g:Nat→Value),(0≤W∧W<B')∧W0=W+B'*vN qs∧qs.length=LA.length-LB.length+1∧wds qs∧y.1=dmG o LA.length c o' LB.length c'(LA.length+1) LB.length(LA.length-LB.length+1) K i++tl 76 g∧y.2.1=h5 la lb(wU(dg(LA.length+1) W))(wU(dg LB.length B'))(wU qs))
   (fun r y=>∃ (W:Int)(qs:List Int)(g:Nat→Value),(0≤W∧W<B'*4294967296^r)∧W0=W+B'*(4294967296^r*vN qs)∧qs.length+r=LA.length-LB.length+1∧wds qs∧y.1=dmG o LA.length c o' LB.length c'(LA.length+1) LB.length(LA.length-LB.length+1) K((r:Int)-1)++tl 76 g∧y.2.1=h5 la lb(wU(dg(LA.length+1) W))(wU(dg LB.length B'))(wU(List.replicate r 0++qs)))
   ?_(n:=LA.length-LB.length+1)⟨W0,[],g1,⟨hW0,hW1⟩,by simp [vN],by simp,(fun x hx=>by cases hx),?_,rfl⟩).mono fun e' y he=> ?_
  ·rintro r⟨t,h',s'⟩⟨W,qs,g,hW,hsum,hq,wq,ht,hh⟩
   simp only at ht hh
   subst ht hh
   cases r with
   | zero=>
    refine(Zb hT(Z1Z o LA.length c o' LB.length c'(LA.length+1) LB.length(LA.length-LB.length+1) K _ _ g)(Zu(decide_eq_false(by omega)))).mono fun e' y he=> ?_
    obtain⟨rfl,⟨g1,e2⟩,e3⟩:=he
    rw[Int.pow_zero] at hW hsum
    rw[Int.mul_one] at hW
    rw[Int.one_mul] at hsum
    exact⟨rfl,W,qs,_,g1,hW,hsum,by omega,wq,e2,e3⟩
   | succ r=>
    have ei:((r+1:Nat):Int)-1=(r:Int):=by omega
    rw[ei]
    obtain⟨⟨t0,t1,t2⟩,⟨x0,x1⟩,hW',hs'⟩:=Zrv⟨hBp,hB1⟩ hW hsum
    have hdg:=ZiV hBp t0 t1
    generalize hTe:W/4294967296^r=T at*
    have eJ:pJ(r:Int)=r:=by unfold pJ;omega
    have eH:dmH(r:Int) LB.length=((r+LB.length+1:Nat):Int):=by
     unfold dmH
     rw[Zw(n:=(r:Int)+(LB.length:Int))(by omega)(by omega),Zw(by omega)(by omega)]
     omega
    have eN:dmN(r:Int) LB.length=LB.length+1:=by unfold dmN;rw[eH];omega
    have eRr:dg(LA.length+1) W=dg r W++(dg(LB.length+1) T++dg(LA.length-LB.length-r) 0):=by
     rw[show LA.length+1=r+((LB.length+1)+(LA.length-LB.length-r)) by omega,ZiX,hTe,Int.ediv_eq_zero_of_lt t0 t2]
    have cT:Zy(wU(dg(LA.length+1) W)) r(LB.length+1)=dg(LB.length+1) T:=by
     have:=Zh8(dg r W)(dg(LB.length+1) T)(dg(LA.length-LB.length-r) 0)
     rw[ZU,ZU,← eRr] at this
     exact this
    have vT:vN(dg(LB.length+1) T)=T:=ZjU _ _ t0 t2
    have sT:tmS(wU(dg(LA.length+1) W)) r(LB.length+1)(dg(LB.length+1)(T % B'))=wU(dg(LA.length+1)(qtW W(T % B') r)):=by
     have:=Zh9(dg r W)(dg(LB.length+1) T)(dg(LA.length-LB.length-r) 0)(dg(LB.length+1)(T % B'))
     rw[ZU,ZU,← eRr] at this
     rw[this,Zru⟨x0,x1⟩,show r+((LB.length+1)+(LA.length-LB.length-r))=LA.length+1 by omega]
    have sQ:(wU(List.replicate(r+1) 0++qs)).set r(uu(T/B'))=wU(List.replicate r 0++(T/B')::qs):=by
     have:=Zi4(List.replicate r 0) 0(T/B') qs
     rw[List.length_replicate] at this
     rw[List.replicate_succ',List.append_assoc,List.singleton_append,this,List.append_assoc,List.singleton_append]
    have g2:=Z77 o LA.length c o' LB.length c'(LA.length+1) LB.length(LA.length-LB.length+1) K r la lb(wU(dg(LA.length+1) W))(wU(dg LB.length B'))(wU(List.replicate(r+1) 0++qs)) g
    rw[eJ,eN,eH,cT,cY,vT,vY,sT,sQ,Int.toNat_natCast] at g2
    have l1:decide(r<(wU(List.replicate(r+1) 0++qs)).length)=true:=decide_eq_true(by rw[Zaj];simp;omega)
    have l2:(inR r(LA.length-LB.length+1)).1=(inR r(LA.length-LB.length+1)).2:=decide_eq_true(by omega)
    have l3:(Zeq la lb(wU(dg(LA.length+1) W))(wU(dg LB.length B'))(wU(List.replicate(r+1) 0++qs)) tR tR tU tU tU r(LB.length+1)(LA.length+1-r) LB.length LB.length && decide(0<LB.length∧0<(dg LB.length B').getD(LB.length-1) 0∧T<4294967296*B'))=true:=by
     unfold Zeq
     rw[z4(Za2 _ _)(by rw[ZU];omega)(by omega)(zw(by omega)),z4(Za2 _ _)(by rw[ZU];omega)(Nat.le_refl _)(zw(by omega)),ZbM,List.all_eq_true.2 sa,List.all_eq_true.2 sb,Zp.2(show LB.length+1<1099511627776 by omega),decide_eq_true(show 0<LB.length∧0<(dg LB.length B').getD(LB.length-1) 0∧T<4294967296*B' from⟨hb0,tY,t1⟩)]
     simp
    have l5:ZS(r:Int)((r+LB.length+1:Nat):Int)((LA.length+1:Nat):Int)((LA.length+1:Nat):Int)=true:=by unfold ZS;exact decide_eq_true(by omega)
    have l6:decide(((LA.length+1:Nat):Int)=(r:Int)∧(r:Int)≠0)=false:=decide_eq_false(by omega)
    have l7:decide((r:Int)≥0)=true:=decide_eq_true(by omega)
    refine(Zb hT g2(Zj l1(Zj l2(Zj l3(Zj(zw(by omega))(Zj l5(Zj l6(Zu l7)))))))).mono fun e' y he=> ?_
    obtain⟨rfl,⟨g3,e2⟩,e3⟩:=he
    refine⟨r,by omega,qtW W(T % B') r,T/B'::qs,g3,hW',?_,by simp;omega,?_,?_,e3⟩
    ·simp only[vN]
     exact hs'
    ·intro z hz
     rcases List.mem_cons.1 hz with rfl | hz
     ·omega
     ·exact wq z hz
    ·rw[e2,Zw(by omega)(by omega)]
  ·show dmG _ _ _ _ _ _ _ _ _ _ _++_=_
   rw[show n1(LA.length-LB.length+1)=((LA.length-LB.length+1:Nat):Int)-1 from by unfold n1;rw[Zw(by omega)(by omega)]]
  ·match e',he with
   | none,he=>exact⟨rfl,he⟩
   | some none,he=>exact he.elim
   | some(some _),he=>exact he.elim
 ·rintro⟨t,h',s'⟩⟨_,W,qs,i,g,hW,hsum,hq,wq,ht,hh⟩
  simp only at ht hh
  subst ht hh
  obtain⟨f1,f2⟩:=Z2b hW hsum
  have hkp:(0:Int)<2^K:=by omega
  have d1:W0/B'=vN LA/vN LB:=by rw[← hWe,← hBe];exact Int.mul_ediv_mul_of_pos_left _ _ hkp
  have d2:W0 % B'=vN LA % vN LB*2^K:=by rw[← hWe,← hBe,Int.mul_comm(vN LA)(2^K),Int.mul_comm(vN LB)(2^K),Int.mul_emod_mul_of_pos _ _ hkp,Int.mul_comm]
  have eqs:qs=dg(LA.length-LB.length+1)(vN LA/vN LB):=by
   have:=Zf9 qs wq
   rw[hq,f1,d1] at this
   exact this.symm
  have hWlt:W<4294967296^(LA.length+1):=by
   have h1:(4294967296:Int)^LB.length≤4294967296^(LA.length+1):=Zqf(by omega)
   omega
  have vW:vN(dg(LA.length+1) W)=W:=ZjU _ _ hW.1 hWlt
  have eD:dmD(wU(dg(LA.length+1) W))(LA.length+1) K=wU(dg(LA.length+1)(vN LA % vN LB)):=by
   unfold dmD
   rw[Zdk _(ZU _ _),ZnJ _ _(ZU _ _),vW,f2,d2,Int.toNat_natCast,Int.mul_ediv_cancel _(by omega)]
  have g2:=Z2a o LA.length c o' LB.length c'(LA.length+1) LB.length(LA.length-LB.length+1) K i la lb(wU(dg(LA.length+1) W))(wU(dg LB.length B'))(wU qs) g
  rw[eD,Zdk qs hq,Zdk _(ZU _ _),eqs] at g2
  have l1:Z1W la lb(wU(dg(LA.length+1) W))(wU(dg LB.length B'))(wU(dg(LA.length-LB.length+1)(vN LA/vN LB))) tR tR tU tU tU 0(LA.length+1)(LA.length+1)(K:Int)=true:=by
   unfold Z1W
   rw[z4(Za2 _ _)(by rw[ZU];omega)(Nat.le_refl _)(zw(by omega)),ZbM,ZbM,List.all_eq_true.2 sa,List.all_eq_true.2 sb,Zp.2(show LA.length+1<1099511627776 by omega),decide_eq_true(show(0:Int)≤K∧(K:Int)<32 by omega)]
   simp
  rw[eqs]
  refine(Zb hT g2(Zj(z4(Za2 _ _)(by rw[ZU];omega)(Nat.le_refl _)(zw(by omega)))(Zj(z4(Za2 _ _)(by rw[ZU];omega)(Nat.le_refl _)(zw(by omega)))(Zu l1)))).mono fun e' y he=> ?_
  obtain⟨rfl,⟨g1,e2⟩,e3⟩:=he
  refine⟨.inr rfl,?_,?_,?_⟩
  ·rw[e2,e3];rfl
  ·rw[e3];rfl
  ·rw[e3];rfl
def hcE:Hc:=zS 116 ZiB(zS 120 Zvl(zS 112 Zg4 hcN))
theorem ZiY:HcOk hcE:=Z2 Tryz.func116 rfl ZgB(Z2 Tryz.func120 rfl Zqm(Z2 Tryz.func112 rfl ZbY Zam))
theorem Z2c(p q:Option Addr)(n c n' c':Nat)(h:Hp):Zg(evC(Zs Tryz.prog Zf Zo hcE) 300 false(Zt Tryz.f81)([.slice p n c,.slice q n' c']++List.replicate 87 undef,h,[cmp true])⟨[],[],[]⟩) 7 82(some none) [.slice p n c,.slice q n' c',undef,undef,Zq,Zq,Zc6 1] h [(Zaa h p n c,true),(Zaa h q n' c',true),(ZX(Zr h p n) || ZX(Zr h q n'),true)]:=⟨by kernel_rfl,by kernel_rfl,by kernel_rfl⟩
theorem ZwW(p q:Option Addr)(n c n' c':Nat)(h:Hp):Zg(evC(Zs Tryz.prog Zf Zo hcE) 300 false(Zt Tryz.f81)([.slice p n c,.slice q n' c']++List.replicate 87 undef,h,[cmp false,cmp true])⟨[],[],[]⟩) 7 82(some none) [.slice p n c,.slice q n' c',undef,undef,Zq,Zq,Zc6 5] h [((n':Int)==0,true),(Zaa h p n c,true),(Zaa h q n' c',true),(ZX(Zr h p n) || ZX(Zr h q n'),false)]:=⟨by kernel_rfl,by kernel_rfl,by kernel_rfl⟩
theorem ZwX(o n c o' n' c':Nat)(la lb:List Value):Zg(evC(Zs Tryz.prog Zf Zo hcE) 300 false(Zt Tryz.f81)([sl 0 o n c,sl 1 o' n' c']++List.replicate 87 undef,h2 la lb,[cmp false,cmp false,at_,at_,cmp true])⟨[],[],[]⟩) 7 82(some none) [sl 0 o n c,sl 1 o' n' c',undef,undef,Zq,sl 2 0(Zm(Zy(cpy la o n) 0(nP n).toNat))(nP n).toNat,.nilIface](h3 la lb(cpy la o n))
  [(Z8 tU(cpy la o n) 0(nP n).toNat(nP n).toNat,true),(decide(Zci(Zy la o n)(Zy lb o' n')<0),true),(Z8 tR la o n c,true),(Z8 tR lb o' n' c',true),(Z49 la o n,true),(ZL 4(nP n)(nP n),true),((n':Int)==0,false),(Z8 tR la o n c,true),(Z8 tR lb o' n' c',true),(ZX(Zy la o n) || ZX(Zy lb o' n'),false)]:=⟨by kernel_rfl,by kernel_rfl,by kernel_rfl⟩
end Go.Proofs.YtjlponbdflkbjaaGreatDoor.Na
