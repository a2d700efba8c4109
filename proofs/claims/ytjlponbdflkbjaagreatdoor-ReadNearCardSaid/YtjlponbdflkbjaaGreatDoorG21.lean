/-
  PwG, RpF, RpG, RpH, RpI, RnB, RnC, RnD
-/
import Derived.Test.YtjlponbdflkbjaaGreatDoorG20
import Derived.Test.YtjlponbdflkbjaaGreatDoorG14
import Derived.SizedLaws
import Derived.Test.YtjlponbdflkbjaaGreatDoorG17
import Derived.Test.YtjlponbdflkbjaaGreatDoorG12
import Derived.Test.YtjlponbdflkbjaaGreatDoorG16
import Derived.Test.YtjlponbdflkbjaaGreatDoorG09
import Derived.Test.YtjlponbdflkbjaaGreatDoorG11
namespace Go.Proofs.YtjlponbdflkbjaaGreatDoor.Na
open Go.KRun Go.Nt
set_option maxRecDepth 100000
set_option linter.unusedVariables false
theorem ZnS{b n:Nat}(hb:b<4294967296)(hn:n≤2000)(hw:∀ j,j≤n→nw(b^j)≤400):RunsW(Zs Tryz.prog Zf ZaL hcQ)(za(qP Tryz.f76)(.seq(.seq(qI Tryz.f76)(.block 0(.loop(qL Tryz.f76))))(qE Tryz.f76)))([.int .u32(b:Int),.int .i64(n:Int)]++List.replicate 54 undef,⟨0,[]⟩,[]) fun e z=>(e=none∨e=some none)∧((¬ (b=0∧1≤n)∧∃ k,ZZ Tryz.prog Tryz.f76 z.1 z.2.1=some(.tuple #[s32 k(pM b n)(b^n),.nilIface])∧∃ r,z.2.1.blk? k=some(wU(dg(pM b n)((b^n:Nat):Int))++r,tU))∨((b=0∧1≤n)∧ZZ Tryz.prog Tryz.f76 z.1 z.2.1=some(.tuple #[Zq,.nilIface]))):=by
 have eb:IntKind.u64.wrap(b:Int)=(b:Int):=by simp [IntKind.wrap,IntKind.bits,IntKind.signed];omega
 have en:IntKind.u64.wrap(n:Int)=(n:Int):=by simp [IntKind.wrap,IntKind.bits,IntKind.signed];omega
 have hp:=Z2g b n
 rw[eb] at hp
 have hi:=Z9U b n
 rw[en,Int.toNat_natCast] at hi
 have hl9:bitLen n≤11:=by
  obtain⟨s1,s2⟩:=bitLen_spec n
  rcases Nat.lt_or_ge 11(bitLen n) with h | h
  ·have h0:n≠0:=by rintro rfl;simp [bitLen] at h
   have h1:=s2 h0
   have h2:2^11≤2^(bitLen n-1):=Nat.pow_le_pow_right(by omega)(by omega)
   have h3:(2:Nat)^11=2048:=rfl
   omega
  ·exact h
 have hz:n/2^bitLen n=0:=Nat.div_eq_of_lt(bitLen_spec n).1
 have ew:IntKind.i64.wrap(((bitLen n:Nat):Int)-1)=((bitLen n:Nat):Int)-1:=Zw(by omega)(by omega)
 rw[ew] at hi
 refine Z1 Zjb hp(Za(decide_eq_true⟨by omega,by omega⟩)(Za(by decide)(Za(decide_eq_false(by omega))(Z3(decide_eq_false(by omega)))))) fun g=> ?_
 refine RunsW.seq(P1:=fun e y=>e=none∧nS b n 0 y) ?_ ?_(fun e y hy=>by cases hy.1)
 ·refine RunsW.seq(Ze Zjb(hi(s32 1 2 b) g(Q2 b))(Z3(decide_eq_true⟨by omega,by omega⟩))) ?_(fun e y hy=>by cases hy.1)
  rintro⟨t,h',s⟩⟨_,⟨g',ht⟩,hh⟩
  simp only at ht hh
  subst ht hh
  have lp:=RunsW.forLoop(T:=Zs Tryz.prog Zf ZaL hcQ)(c:=qL Tryz.f76)(id:=0)(P:=nS b n 0)(R:=fun _=>False)(fun k y=>k≤bitLen n∧nS b n k y)(x:=(qF b n(s32 0 2 1)(s32 1 2 b)(((bitLen n:Nat):Int)-1)++tl 46 g',Q2 b,s)) ?_(n:=bitLen n)⟨Nat.le_refl _,g',.inl⟨hz,rfl,rfl⟩⟩
  ·refine lp.mono fun e z hz=> ?_
   match e,hz with
   | none,hz=>exact⟨rfl,hz⟩
   | some none,hz=>exact hz.elim
   | some(some _),hz=>exact hz.elim
  ·rintro k y⟨hk,hy⟩
   match k,hk,hy with
   | k+1,hk,hy=>
    refine(Zr4 hb hn hw(by omega) hy fun h0=> ?_).mono fun e z hz=> ?_
    ·obtain⟨s1,s2⟩:=bitLen_spec n
     have hn0:n≠0:=by
      rintro rfl
      simp [bitLen] at hk
     have h1:=s2 hn0
     have h2:bitLen n=k+1:=by
      rcases Nat.lt_or_ge(k+1)(bitLen n) with h | h
      ·exfalso
       have h3:2^(k+1)≤2^(bitLen n-1):=Nat.pow_le_pow_right(by omega)(by omega)
       have h4:0<n/2^(k+1):=Nat.div_pos(by omega)(Nat.pow_pos(by omega))
       omega
      ·omega
     rw[h2,Nat.add_sub_cancel] at h1
     have h5:0<n/2^k:=Nat.div_pos h1(Nat.pow_pos(by omega))
     have h6:n/2^(k+1)=n/2^k/2:=by rw[Nat.pow_succ,← Nat.div_div_eq_div_mul]
     omega
    ·obtain⟨rfl,hz⟩:=hz
     exact⟨k,by omega,by omega,hz⟩
   | 0,_,hy=>
    obtain⟨t,h',s⟩:=y
    have out:∀ (P:Value)(h:Hp)(g:Nat→Value)(s:List Dec),RunsW(Zs Tryz.prog Zf ZaL hcQ)(qL Tryz.f76)(qF b n P(s32 1 2 b)(((0:Nat):Int)-1)++tl 46 g,h,s) fun e z=>e=some(some 0)∧(∃ g,z.1=qF b n P(s32 1 2 b)(((0:Nat):Int)-1)++tl 46 g)∧z.2.1=h:=fun P h g s=>
     Ze Zjb(Z9V n(((0:Nat):Int)-1) b P(s32 1 2 b) h g)(Z3(by decide))
    obtain⟨g,hy⟩:=hy
    rcases hy with⟨j0,ht,hh⟩ | ⟨j1,b0,ht,hh⟩ | ⟨j1,b0,m,V,ht,hh⟩<;>simp only at ht hh<;>subst ht hh
    ·refine(out _ _ g s).mono fun e z hz=> ?_
     obtain⟨rfl,⟨g',e1⟩,e2⟩:=hz
     exact⟨rfl,g',.inl⟨j0,e1,e2⟩⟩
    ·refine(out _ _ g s).mono fun e z hz=> ?_
     obtain⟨rfl,⟨g',e1⟩,e2⟩:=hz
     exact⟨rfl,g',.inr(.inl⟨j1,b0,e1,e2⟩)⟩
    ·refine(out _ _ g s).mono fun e z hz=> ?_
     obtain⟨rfl,⟨g',e1⟩,e2⟩:=hz
     exact⟨rfl,g',.inr(.inr⟨j1,b0,m,V,e1,e2⟩)⟩
 ·rintro⟨t,h',s⟩⟨_,g,hy⟩
  rw[Nat.pow_zero,Nat.div_one] at hy
  rcases hy with⟨j0,ht,hh⟩ | ⟨j1,b0,ht,hh⟩ | ⟨j1,b0,m,V,ht,hh⟩<;>simp only at ht hh<;>subst ht hh
  ·refine(Ze Zjb(Z7M n _ b _ _ _ g)(fun x hx=>by cases hx)).mono fun e z hz=> ?_
   obtain⟨rfl,⟨g',e1⟩,e2⟩:=hz
   subst j0
   have e3:pM b 0=2:=rfl
   rw[e3,Nat.pow_zero]
   exact⟨.inr rfl,.inl⟨by omega,0,by rw[e1,e2];rfl,[],by rw[e2,List.append_nil];rfl⟩⟩
  ·refine(Ze Zjb(Z7M n _ b _ _ _ g)(fun x hx=>by cases hx)).mono fun e z hz=> ?_
   obtain⟨rfl,⟨g',e1⟩,e2⟩:=hz
   exact⟨.inr rfl,.inl⟨by omega,2,by rw[e1,e2];rfl,[],by rw[e2,List.append_nil];rfl⟩⟩
  ·refine(Ze Zjb(Z7M n _ b _ _ _ g)(fun x hx=>by cases hx)).mono fun e z hz=> ?_
   obtain⟨rfl,⟨g',e1⟩,e2⟩:=hz
   exact⟨.inr rfl,.inr⟨⟨b0,j1⟩,by rw[e1,e2];rfl⟩⟩
def Zzf(b n:Int):Bool:=decide(0≤b∧b<4294967296∧0≤n∧(n≤300∨(b=10∧n≤2000)))
theorem ZnT{b n:Nat}(h:Zzf b n=true):b<4294967296∧n≤2000∧∀ j,j≤n→nw(b^j)≤400:=by
 have q:=of_decide_eq_true h
 rcases q.2.2.2 with h1 | ⟨h1,h2⟩
 ·exact⟨by omega,by omega,Zr3(by omega)(by omega)⟩
 ·have e:b=10:=by omega
  rw[e]
  exact⟨by omega,by omega,Ztx(by omega)⟩
def pMi(b n:Int):Nat:=pM b.toNat n.toNat
def Zxn:Zaf:=fun vals h s=>
 match vals,s with
 | [.int .u32 b,.int .i64 n],.inr(.inr(.inr(.inl true)))::s'=>some(.tuple #[Zq,Zc6 1],h,s',[(decide(n<0∨n>1000000),true)])
 | [.int .u32 b,.int .i64 n],.inr(.inr(.inr(.inl false))):: .inr(.inr(.inr(.inl true)))::s'=>some(.tuple #[Zq,.nilIface],h,s',[(Zzf b n,true),(decide(b=0∧1≤n),true)])
 | [.int .u32 b,.int .i64 n],.inr(.inr(.inr(.inl false))):: .inr(.inr(.inr(.inl false))):: .inr(.inl V)::s'=>some(.tuple #[sl h.n 0(Zm(dg(pMi b n) V))(pMi b n),.nilIface],h.push(wU(dg(pMi b n) V)) tU,s',[(decide(((b.toNat^n.toNat:Nat):Int)=V),true),(Zzf b n,true),(decide(b=0∧1≤n),false)])
 | _,_=>none
theorem Zr9:Z9 76 Zxn:=by
 intro vals h s v h' s' lg hg hl m B w E hv
 have hr0:(⟨0,[]⟩:Hp).rows:=⟨rfl,fun b x hx=>by have:b<0:=Hp.blk_lt hx;omega⟩
 unfold Zxn at hg
 split at hg
 ·rename_i b n s2
  cases hg
  have l1:=of_decide_eq_true(hl _(List.mem_singleton.2 rfl))
  have r:RunsW(Zs Tryz.prog Zf ZaL hcQ)(Zt Tryz.f76)([.int .u32 b,.int .i64 n]++List.replicate 54 undef,⟨0,[]⟩,[]) fun e z=>(e=none∨e=some none)∧ZZ Tryz.prog Tryz.f76 z.1 z.2.1=some(.tuple #[Zq,Zc6 1]):=by
   by_cases h0:n<0
   ·refine(Ze Zjb(Zxf b n)(Z3(decide_eq_true h0))).mono fun e z hz=> ?_
    obtain⟨rfl,⟨g',e1⟩,e2⟩:=hz
    exact⟨.inr rfl,by rw[e1,e2];rfl⟩
   ·refine(Ze Zjb(Zxg b n)(Za(decide_eq_true(l1.resolve_left h0))(Z3(decide_eq_false h0)))).mono fun e z hz=> ?_
    obtain⟨rfl,⟨g',e1⟩,e2⟩:=hz
    exact⟨.inr rfl,by rw[e1,e2];rfl⟩
  have:=ZD(T:=Zs Tryz.prog Zf ZaL hcQ) Tryz.func76 Zr1 hr0(vals:=[.int .u32 b,.int .i64 n])(fun v hv=>by
   simp only[List.mem_cons,List.not_mem_nil,or_false] at hv
   rcases hv with rfl | rfl<;>rfl)(v:= .tuple #[Zq,Zc6 1])(by rfl) r E(s:=fun i=>i)(fun i x hx _=>by have:i<0:=Hp.blk_lt hx;omega)
  exact this
 ·rename_i b n s2
  cases hg
  have l2':Zzf b n=true:=hl _ List.mem_cons_self
  have l2:=of_decide_eq_true l2'
  have l3:=of_decide_eq_true(hl _(List.mem_cons_of_mem _(List.mem_singleton.2 rfl)))
  obtain⟨b',rfl⟩:=Int.eq_ofNat_of_zero_le l2.1
  obtain⟨n',rfl⟩:=Int.eq_ofNat_of_zero_le l2.2.2.1
  obtain⟨w1,w2,w3⟩:=ZnT l2'
  have r:=(ZnS(b:=b')(n:=n') w1 w2 w3).mono(P':=fun e z=>(e=none∨e=some none)∧ZZ Tryz.prog Tryz.f76 z.1 z.2.1=some(.tuple #[Zq,.nilIface])) fun e z hz=>⟨hz.1,by
   rcases hz.2 with⟨q,_⟩ | ⟨_,q⟩
   ·exact absurd(show b'=0∧1≤n' by omega) q
   ·exact q⟩
  have:=ZD(T:=Zs Tryz.prog Zf ZaL hcQ) Tryz.func76 ZnP hr0(vals:=[.int .u32(b':Int),.int .i64(n':Int)])(fun v hv=>by
   simp only[List.mem_cons,List.not_mem_nil,or_false] at hv
   rcases hv with rfl | rfl<;>rfl)(v:= .tuple #[Zq,.nilIface])(by rfl) r E(s:=fun i=>i)(fun i x hx _=>by have:i<0:=Hp.blk_lt hx;omega)
  exact this
 ·rename_i b n V s2
  cases hg
  have l1:=of_decide_eq_true(hl _ List.mem_cons_self)
  have l2':Zzf b n=true:=hl _(List.mem_cons_of_mem _ List.mem_cons_self)
  have l2:=of_decide_eq_true l2'
  have l3:=of_decide_eq_false(hl _(List.mem_cons_of_mem _(List.mem_cons_of_mem _(List.mem_singleton.2 rfl))))
  obtain⟨b',rfl⟩:=Int.eq_ofNat_of_zero_le l2.1
  obtain⟨n',rfl⟩:=Int.eq_ofNat_of_zero_le l2.2.2.1
  obtain⟨w1,w2,w3⟩:=ZnT l2'
  rw[Int.toNat_natCast,Int.toNat_natCast] at l1
  rw[← l1]
  have ep:pMi(b':Int)(n':Int)=pM b' n':=by unfold pMi;rw[Int.toNat_natCast,Int.toNat_natCast]
  rw[ep]
  have r:=(ZnS(b:=b')(n:=n') w1 w2 w3).mono(P':=fun e z=>(e=none∨e=some none)∧∃ k,ZZ Tryz.prog Tryz.f76 z.1 z.2.1=some(.tuple #[s32 k(pM b' n')(b'^n'),.nilIface])∧∃ r,z.2.1.blk? k=some(wU(dg(pM b' n')((b'^n':Nat):Int))++r,tU)) fun e z hz=>⟨hz.1,by
   rcases hz.2 with⟨_,q⟩ | ⟨q,_⟩
   ·exact q
   ·exact absurd q(by omega)⟩
  exact ZcZ(T:=Zs Tryz.prog Zf ZaL hcQ) Tryz.func76 ZnP hr0(vals:=[.int .u32(b':Int),.int .i64(n':Int)])(fun v hv=>by
   simp only[List.mem_cons,List.not_mem_nil,or_false] at hv
   rcases hv with rfl | rfl<;>rfl)(v:=fun k=> .tuple #[s32 k(pM b' n')(b'^n'),.nilIface])(Zbb _)(by kernel_rfl) r(fun k=>by simp [oc,oc2,oc1,s32,sl]) E(s:=fun i=>i)(fun i x hx _=>by have:i<0:=Hp.blk_lt hx;omega)(fun k=>by simp [rn,rn2,rn1,s32,sl])
 ·cases hg
end Go.Proofs.YtjlponbdflkbjaaGreatDoor.Na
namespace Go.Proofs.YtjlponbdflkbjaaGreatDoor
open Go.KRun Go.Nt Go.Rd Go.Wd
set_option maxRecDepth 100000
def Z4M:Hc:=zS 75 Na.gPs(zS 76 Na.Zxn(zS 79 Na.Zxm(zS 80 Na.Zxl(zS 81 Na.Z78(zS 115 Na.Z4J(zS 116 Na.ZiB(zS 78 Z6s hcN)))))))
theorem Zxo:HcOk Z4M:=Z2 Tryz.func75 rfl Na.Z1t(Z2 Tryz.func76 rfl Na.Zr9(Z2 Tryz.func79 rfl Na.Zr8(Z2 Tryz.func80 rfl Na.Zr7(Z2 Tryz.func81 rfl Na.ZwY(Z2 Tryz.func115 rfl Na.ZnC(Z2 Tryz.func116 rfl Na.ZgB(Z2 Tryz.func78 rfl Zv9 Zam)))))))
theorem Z2j:TabOk(Zs Tryz.prog Zf Zo Z4M):=Zh Zd Zxo
def r32(m V:Nat):List Value×TypeId:=(wU(dg m(V:Int)),tU)
def z7:List Value×TypeId:=nB9 false 0⟨0,0,0,0⟩ false
def pA9(k:Nat):Option Addr:=some⟨k,0,none⟩
def lw9(A:Nat):Nat:=(db 4294967296 A).length
def tn(m V:Nat):Nat:=Zm(dg m(V:Int))
def Zty(D:List UInt8)(A:Nat)(j:Int)(P:Nat):Hp:=⟨3,[r32(Na.pMi 10 j) P,r32(Na.psN⟨⟨D⟩⟩) A,z7]⟩
def lPs(D:List UInt8)(A:Nat)(l:Log):Log:=(decide(Na.psV⟨⟨D⟩⟩=A),true)::(Na.okP⟨⟨D⟩⟩,true)::(Nat.ble D.length 20000,true)::l
def lPw(j:Int)(P:Nat)(l:Log):Log:=(decide(((10^j.toNat:Nat):Int)=(P:Int)),true)::(Na.Zzf 10 j,true)::(decide((10:Int)=0∧1≤j),false)::l
def lHg(m V:Nat)(e:Int)(l:Log):Log:=(Z8 tU(wU(dg m(V:Int))) 0(tn m V) m,true)::(decide(Zy(wU(dg m(V:Int))) 0(tn m V)=db 4294967296 V),true)::(decide(tn m V≤1000∧ -1000000≤e∧e≤1000000),true)::l
def Z9W(H:Hp)(p q:Option Addr)(n c n' c' T:Nat)(l:Log):Log:=(decide(Na.Zh7(Zr H p n)(Zr H q n')=dg(n+n')(T:Int)),true)::(Na.Zaa H p n c,true)::(Na.Zaa H q n' c',true)::(!decide(n=0∨n'=0) && Nat.ble(n+n') 8192,true)::(Na.Zaa H p n c,true)::(Na.Zaa H q n' c',true)::(Na.ZX(Zr H p n) || Na.ZX(Zr H q n'),false)::l
def teV(T:Nat)(e:Int)(m:Bool):Value:=vN false(hiE T e)(ofN(hiS T))(hiM T m)
theorem Z7O(D:List UInt8)(j:Int)(A P T:Nat):Z7(Zn(Zs Tryz.prog Zf Zo Z4M) 200 35 [bR D,.int .i64 j] [cmp true,num A,cmp true,cmp false,cmp false,num P,cmp false,cmp false,num T,num T])(teV T 0 false)(lHg(lw9 A+tn(Na.pMi 10 j) P) T 0(Z9W(Zty D A j P)(pA9 1)(pA9 2)(lw9 A)(Na.psN⟨⟨D⟩⟩)(tn(Na.pMi 10 j) P)(Na.pMi 10 j) T(lPw j P((decide(j≥0),true)::lPs D A [])))):=⟨by kernel_rfl,by kernel_rfl,by kernel_rfl,by kernel_rfl⟩
def ngJ(j:Int):Int:=IntKind.i64.wrap(0-j)
def upE(a b:Int):Int:=if 0>IntKind.i64.wrap(IntKind.i64.wrap(b+128)-a) then 0 else IntKind.i64.wrap(IntKind.i64.wrap(b+128)-a)
def Z7P(D:List UInt8)(A:Nat)(j:Int)(P:Nat)(k:Int)(S:Nat):Hp:=⟨4,[r32(Na.sM(lw9 A) k) S,r32(Na.pMi 10 j) P,r32(Na.psN⟨⟨D⟩⟩) A,z7]⟩
def lLn(H:Hp)(p:Option Addr)(n c:Nat)(k:Int)(l:Log):Log:=(decide(Na.Zdy(Zr H p n)=k),true)::(Na.Zaa H p n c,true)::l
def lSh(H:Hp)(p:Option Addr)(n c:Nat)(k:Int)(S:Nat)(l:Log):Log:=(decide(ZgW(Zr H p n) k.toNat=dg(Na.sM n k)(S:Int)),true)::(Na.Zaa H p n c,true)::(Na.ZX(Zr H p n) || decide(k<0),false)::(decide(n=0),false)::(decide(k>262144-Na.Zdy(Zr H p n)),false)::l
def lDv(H:Hp)(p q:Option Addr)(n c n' c':Nat)(Q R:Nat)(l:Log):Log:=(decide(Go.Nt.vN(Zr H p n)/Go.Nt.vN(Zr H q n')=(Q:Int)∧Go.Nt.vN(Zr H p n) % Go.Nt.vN(Zr H q n')=(R:Int)),true)::(Na.Zaa H p n c,true)::(Na.Zaa H q n' c',true)::(!(Na.ZX(Zr H p n) || Na.ZX(Zr H q n')) && decide(0<n'∧¬ Zci(Zr H p n)(Zr H q n')<0),true)::l
theorem Z7Q(D:List UInt8)(j:Int)(A P:Nat)(a b:Int)(S Q R:Nat)(d:Bool):Z7(Zn(Zs Tryz.prog Zf Zo Z4M) 200 35 [bR D,.int .i64 j] [cmp true,num A,cmp false,cmp false,cmp false,num P,num b,num a,cmp false,cmp false,cmp false,num S,cmp false,cmp false,cmp false,num Q,num R,cmp d,num Q])(teV Q(IntKind.i64.wrap(0-upE a b)) d)
  (lHg(tn(Na.sM(lw9 A)(upE a b)) S-tn(Na.pMi 10(ngJ j)) P+1) Q(IntKind.i64.wrap(0-upE a b))((decide(((tn(tn(Na.sM(lw9 A)(upE a b)) S+1) R:Nat):Int)>0),d)::lDv(Z7P D A(ngJ j) P(upE a b) S)(pA9 3)(pA9 2)(tn(Na.sM(lw9 A)(upE a b)) S)(Na.sM(lw9 A)(upE a b))(tn(Na.pMi 10(ngJ j)) P)(Na.pMi 10(ngJ j)) Q R
   (lSh(Zty D A(ngJ j) P)(pA9 1)(lw9 A)(Na.psN⟨⟨D⟩⟩)(upE a b) S(lLn(Zty D A(ngJ j) P)(pA9 1)(lw9 A)(Na.psN⟨⟨D⟩⟩) a(lLn(Zty D A(ngJ j) P)(pA9 2)(tn(Na.pMi 10(ngJ j)) P)(Na.pMi 10(ngJ j)) b(lPw(ngJ j) P((decide(j≥0),false)::lPs D A []))))))):=⟨by kernel_rfl,by kernel_rfl,by kernel_rfl,by kernel_rfl⟩
end Go.Proofs.YtjlponbdflkbjaaGreatDoor
namespace Go.Proofs.YtjlponbdflkbjaaGreatDoor.Na
open Go.KRun Go.Nt Go.Rd
set_option maxRecDepth 100000
theorem Zes(V:Nat):V<4294967296^(d32 V).length:=by
 have:=Zbm(b:=4294967296)(by omega)(d32 V)(ZfQ V)
 rw[show vb 4294967296(d32 V)=V from Zb0(by omega) V] at this
 exact this
theorem Zxp{V:Nat}(h:0<(d32 V).length):4294967296^((d32 V).length-1)≤V:=by
 rcases Nat.lt_or_ge V(4294967296^((d32 V).length-1)) with h1 | h1
 ·have:(d32 V).length≤(d32 V).length-1:=ZaY(b:=4294967296)(by omega) _ _ h1
  omega
 ·exact h1
theorem Zbv{V:Nat}(h:V≠0):0<(d32 V).length:=(Zfb(b:=4294967296)(by omega)).2(by omega)
theorem ZgN{V:Nat}(h0:V≠0)(h:(d32 V).length≤8192):Zdy(d32 V)=((bitLen V:Nat):Int):=by
 have hp:=Zbv h0
 have hc:=ZcI V
 obtain⟨L,hL⟩:∃ L,L=d32 V:=⟨_,rfl⟩
 have eV:vb 4294967296 L=V:=by rw[hL];exact Zb0(by omega) V
 rw[← hL] at hp hc h ⊢
 have hb:ZX L=false:=by
  unfold ZX
  rw[decide_eq_false(by omega),Bool.false_or]
  rcases hc.2 with h0 | h0
  ·omega
  ·rw[beq_eq_false_iff_ne.2 h0,Bool.and_false]
 have e1:Zdy L=32*((L.length-1:Nat):Int)+(bitLen(L.getD(L.length-1) 0).toNat:Nat):=by
  unfold Zdy
  rw[hb,beq_eq_false_iff_ne.2(show L.length≠0 by omega)]
  rfl
 have ht:=Zag 4294967296 L(L.length-1)
 rw[show L.length-1+1=L.length by omega,List.take_length,eV] at ht
 have lo:vb 4294967296(L.take(L.length-1))<4294967296^(L.length-1):=by
  have h1:=Zbm(b:=4294967296)(by omega)(L.take(L.length-1))(fun x hx=>hc.1 x(List.mem_of_mem_take hx))
  rw[List.length_take,Nat.min_eq_left(by omega)] at h1
  exact h1
 have hpw:0<4294967296^(L.length-1):=Nat.pow_pos(by omega)
 have htop:(L.getD(L.length-1) 0).toNat≠0:=by
  have hlt:L.length-1<L.length:=by omega
  have hw:=hc.1(L.getD(L.length-1) 0)(by simp [List.getD,List.getElem?_eq_getElem hlt])
  rcases hc.2 with h1 | h1
  ·omega
  ·have:L.getD(L.length-1) 0≠0:=h1
   omega
 have hdiv:V/2^(32*(L.length-1))=(L.getD(L.length-1) 0).toNat:=by
  rw[← zK,ht,Nat.add_comm,Nat.mul_add_div hpw,Nat.div_eq_of_lt lo,Nat.add_zero]
 have hs:=bitLen_shift V(32*(L.length-1))(by rw[hdiv];exact htop)
 rw[hdiv] at hs
 rw[e1,hs]
 omega
section
variable {H : Hp} {p q : Option Addr} {n c n' c' V W : Nat}
theorem Z8X(h:IsR H p n c V)(h0:V≠0):decide(Zdy(Zr H p n)=((bitLen V:Nat):Int))=true:=by
 rw[h.2.2.1]
 exact decide_eq_true(ZgN h0(by have:=h.2.2.2.2;have:=h.2.2.2.1;omega))
theorem Z9X(h:IsR H p n c V)(k:Nat):decide(ZgW(Zr H p n)((k:Nat):Int).toNat=dg(sM n(k:Nat))((V*2^k:Nat):Int))=true:=by
 refine decide_eq_true ?_
 unfold ZgW sM
 rw[h.2.2.1,← h.2.2.2.1,ZgK,Int.toNat_natCast,Int.natCast_mul,Go.Wd.cast_pow]
theorem Z7R(h:IsR H p n c V)(k:Nat):(ZX(Zr H p n) || decide(((k:Nat):Int)<0))=false:=by
 rw[h.good,decide_eq_false(by omega)]
 rfl
theorem Z9Y(h:IsR H p n c V)(h0:V≠0){k:Nat}(hk:k≤200000):decide(((k:Nat):Int)>262144-Zdy(Zr H p n))=false:=by
 have hn:=h.2.2.2.2
 have hl:=h.2.2.2.1
 rw[h.2.2.1,ZgN h0(by omega)]
 have:bitLen V≤32*n:=Go.Rn.len_le(by rw[← zK];rw[hl];exact Zes V)
 exact decide_eq_false(by omega)
theorem rNe(h:IsR H p n c V)(h0:V≠0):decide(n=0)=false:=by
 have:=Zbv h0
 have:=h.2.2.2.1
 exact decide_eq_false(by omega)
end
theorem Z2k{V k n:Nat}(h:V<4294967296^n):V*2^k<4294967296^sM n(k:Nat):=by
 unfold sM
 rw[Int.toNat_natCast,Nat.add_comm(k/32),zK]
 rw[zK] at h
 have h2:(2:Nat)^k<2^(32*(k/32+1)):=Nat.pow_lt_pow_right(by omega)(by omega)
 have:=Nat.mul_lt_mul'' h h2
 rw[← Nat.pow_add] at this
 rw[show 32*(n+1+k/32)=32*n+32*(k/32+1) by omega]
 exact this
theorem Z2l{S P:Nat}(hP:P≠0)(hS:(d32 P).length≤(d32 S).length):S/P<4294967296^((d32 S).length-(d32 P).length+1):=by
 have h1:=Zes S
 have h2:=Zxp(Zbv hP)
 have h3:=Zbv hP
 rw[Nat.div_lt_iff_lt_mul(by omega)]
 refine Nat.lt_of_lt_of_le h1 ?_
 refine Nat.le_trans ?_(Nat.mul_le_mul_left _ h2)
 rw[← Nat.pow_add]
 exact Nat.pow_le_pow_right(by omega)(by omega)
theorem Z2m{S P:Nat}(h:P≤S):(d32 P).length≤(d32 S).length:=ZaY(b:=4294967296)(by omega) _ _(Nat.lt_of_le_of_lt h(Zes S))
theorem Z2n{D:List UInt8}(h:zi 10 D=true):psV⟨⟨D⟩⟩=nmB 10 D:=by
 have key:∀ k,k≤D.length→zD(dgF⟨⟨D⟩⟩) k=nmB 10(D.take k):=by
  intro k
  induction k with
  | zero=>intro _;rfl
  | succ k ih=>
   intro hk
   have hd:0≤ZJ(lq8(D.getD k 0)) 10:=by
    unfold zi at h
    refine of_decide_eq_true(List.all_eq_true.1 h _ ?_)
    rw[List.getD_eq_getElem?_getD,List.getElem?_eq_getElem(by omega),Option.getD_some]
    exact List.getElem_mem(by omega)
   have e:dgF⟨⟨D⟩⟩ k=ZJ(lq8(D.getD k 0)) 10:=by
    have:=ZaP hd
    unfold ZJ
    rw[if_pos this]
    rfl
   rw[zD,ih(by omega),Zf5 10 D(by omega),e,Nat.mul_comm]
   rfl
 have:=key D.length(Nat.le_refl _)
 rw[List.take_length] at this
 exact this
theorem Zxq{D:List UInt8}(h:zi 10 D=true)(h0:D≠[]):okP⟨⟨D⟩⟩=true:=by
 refine(ZhB _).2⟨List.length_pos_iff.2 h0,fun j hj=> ?_⟩
 have hj:j<D.length:=hj
 have hd:0≤ZJ(lq8(D.getD j 0)) 10:=by
  unfold zi at h
  refine of_decide_eq_true(List.all_eq_true.1 h _ ?_)
  rw[List.getD_eq_getElem?_getD,List.getElem?_eq_getElem hj,Option.getD_some]
  exact List.getElem_mem hj
 have:=ZaP hd
 show(decide(lq8(D.getD j 0)<48) || decide(lq8(D.getD j 0)>57))=false
 rw[decide_eq_false(by omega),decide_eq_false(by omega)]
 rfl
theorem ZhF(k:Nat):(10:Nat)^k<4294967296^(k/9+1):=by
 refine Nat.lt_of_le_of_lt(Nat.pow_le_pow_right(by omega)(show k≤9*(k/9+1) by omega)) ?_
 rw[Nat.pow_mul]
 exact Nat.pow_lt_pow_left(by decide)(by omega)
theorem ZhG{H:Hp}{b k:Nat}{j:Int}(hj:j=(k:Nat))(hk:k≤2000)(hb:H.blk? b=some(wU(dg(pMi 10 j)((10^k:Nat):Int)),tU)):IsR H(some⟨b,0,none⟩)(Zm(dg(pMi 10 j)((10^k:Nat):Int)))(pMi 10 j)(10^k)∧(d32(10^k)).length≤k/9+1:=by
 have e:pMi 10 j=pM 10 k:=by unfold pMi;rw[hj,Int.toNat_natCast];rfl
 have h:10^k<4294967296^pM 10 k∧pM 10 k≤1000:=by
  by_cases h0:k=0
  ·subst h0
   exact⟨by show 1<4294967296^2;decide,by show 2≤1000;decide⟩
  ·exact Z2i(Ztx hk)(by omega)(Nat.le_refl _)(by omega)
 rw[e] at hb ⊢
 exact⟨Zk2 hb h.1 h.2,Zke(ZhF k)⟩
end Go.Proofs.YtjlponbdflkbjaaGreatDoor.Na
namespace Go.Proofs.YtjlponbdflkbjaaGreatDoor
open Go.KRun Go.Nt Go.Rd Go.Wd
set_option maxRecDepth 100000
theorem Z2o{m V:Nat}(hV:V<4294967296^m)(hm:m≤1000){e:Int}(he: -1000000≤e∧e≤1000000){l:Log}(hl:Z4 l):Z4(lHg m V e l):=by
 have r:=Na.Zk2(H:=⟨1,[r32 m V]⟩)(b:=0) rfl hV hm
 have ht:tn m V≤1000:=r.2.2.2.2
 refine Za ?_(Za(decide_eq_true r.2.2.1)(Za(decide_eq_true⟨ht,he⟩) hl))
 have:=Za4(dg m(V:Int))
 have hd:=ZU m(V:Int)
 exact Na.z4(Za2 _ _)(by show 0+tn m V≤_;unfold tn;omega)(by unfold tn;omega)(Na.zw(by omega))
theorem Z2p{m V:Nat}(hV:V<4294967296^m)(hm:m≤1000):tn m V=(Na.d32 V).length:=(Na.Zk2(H:=⟨1,[r32 m V]⟩)(b:=0) rfl hV hm).2.2.2.1
theorem Ztz{H:Hp}{b A:Nat}{D:List UInt8}(hA:A<10^D.length)(hD:D.length≤801)(hb:H.blk? b=some(r32(Na.psN⟨⟨D⟩⟩) A)):Na.IsR H(pA9 b)(lw9 A)(Na.psN⟨⟨D⟩⟩) A:=by
 have e:Na.psN⟨⟨D⟩⟩=D.length/9+1:=rfl
 have h:=Na.Zk2(H:=H)(b:=b)(V:=A)(m:=Na.psN⟨⟨D⟩⟩) hb(Nat.lt_trans hA(Na.ZhF D.length))(by omega)
 have e2:lw9 A=Zm(dg(Na.psN⟨⟨D⟩⟩)(A:Int)):=h.2.2.2.1.symm
 rw[e2]
 exact h
theorem Z2q{D:List UInt8}(ha:zi 10 D=true)(h0:D≠[])(hl:D.length≤801):Z4(lPs D(nmB 10 D) []):=
 Za(decide_eq_true(Na.Z2n ha))(Za(Na.Zxq ha h0)(Z3(Nat.ble_eq_true_of_le(by omega))))
theorem Zt0{j:Int}{k:Nat}(hj:j=(k:Nat))(hk:k≤2000){l:Log}(hl:Z4 l):Z4(lPw j(10^k) l):=by
 refine Za(decide_eq_true(by rw[hj,Int.toNat_natCast]))(Za ?_(Za(decide_eq_false(fun h=>absurd h.1(by decide))) hl))
 exact decide_eq_true⟨by decide,by decide,by omega,.inr⟨rfl,by omega⟩⟩
theorem ZrA{D:List UInt8}(ha:zi 10 D=true)(hA:nmB 10 D≠0)(hl:D.length≤801){j:Int}(hj: -1900≤j∧j≤1900)(w:World):Calls Tryz.prog 35 #[bR D,.int .i64 j] w fun e w'=>e= .returned(teV(teT(nmB 10 D) j)(teE(nmB 10 D) j)(teM(nmB 10 D) j))∧Zad w w':=by
 have h0:D≠[]:=fun h=>hA(by rw[h];rfl)
 obtain⟨A,eA⟩:∃ A,A=nmB 10 D:=⟨_,rfl⟩
 have hlt:A<10^D.length:=by rw[eA];exact Zds(b:=10)(.inl rfl) D
 have lp:=Z2q ha h0 hl
 rw[← eA] at lp hA
 rw[← eA]
 have epN:Na.psN⟨⟨D⟩⟩=D.length/9+1:=rfl
 have lA:(Na.d32 A).length≤90:=by
  have:=ZaY(b:=4294967296)(by omega) _ _(Nat.lt_trans hlt(Na.ZhF D.length))
  show(db 4294967296 A).length≤90
  omega
 unfold teT teE teM
 by_cases h1:0≤j
 ·rw[if_pos h1,if_pos h1,if_pos h1]
  obtain⟨k,hk⟩:∃ k:Nat,j=(k:Nat):=⟨j.toNat,by omega⟩
  obtain⟨rP,lP⟩:=Na.ZhG(H:=Zty D A j(10^k))(b:=2) hk(by omega) rfl
  have rA:Na.IsR(Zty D A j(10^k))(pA9 1)(lw9 A)(Na.psN⟨⟨D⟩⟩) A:=Ztz hlt hl rfl
  have eP:tn(Na.pMi 10 j)(10^k)=(Na.d32(10^k)).length:=rP.2.2.2.1
  have hP0:=ZbI k
  have pA:=Na.Zbv hA
  have pP:=Na.Zbv hP0
  have hT:A*10^k<4294967296^(lw9 A+tn(Na.pMi 10 j)(10^k)):=Na.Z1F(Na.rLt rA)(Na.rLt rP)
  have lsum:lw9 A+tn(Na.pMi 10 j)(10^k)≤1000:=by rw[eP];show(Na.d32 A).length+_≤_;omega
  have f:=Z7O D j A(10^k)(A*10^k)
  have hnz:(!decide(lw9 A=0∨tn(Na.pMi 10 j)(10^k)=0) && Nat.ble(lw9 A+tn(Na.pMi 10 j)(10^k)) 8192)=true:=Na.ZgM pA(by rw[eP];exact pP)(by omega)
  rw[show j.toNat=k by omega]
  refine Zc Z2j f(Z2o hT lsum⟨by decide,by decide⟩ ?_)(by rfl)(by rfl) w
  refine Za(Na.ZwZ rA rP)(Za(Na.rX rA)(Za(Na.rX rP)(Za hnz(Za(Na.rX rA)(Za(Na.rX rP)(Za(Na.rOr rA rP) ?_))))))
  exact Zt0 hk(by omega)(Za(decide_eq_true h1) lp)
 ·rw[if_neg h1,if_neg h1,if_neg h1]
  obtain⟨k,hk⟩:∃ k:Nat,-j=(k:Nat):=⟨(-j).toNat,by omega⟩
  have eN:ngJ j=(k:Nat):=by unfold ngJ;rw[Zw(by omega)(by omega)];omega
  obtain⟨B,eB⟩:∃ B,B=10^k:=⟨_,rfl⟩
  have hP0:B≠0:=by rw[eB];exact ZbI k
  rw[show(-j).toNat=k by omega,← eB]
  obtain⟨u,hu⟩:∃ u,u=upT A B:=⟨_,rfl⟩
  obtain⟨rP,lP⟩:=Na.ZhG(H:=Zty D A(ngJ j)(10^k))(b:=2) eN(by omega) rfl
  have rA:Na.IsR(Zty D A(ngJ j) B)(pA9 1)(lw9 A)(Na.psN⟨⟨D⟩⟩) A:=Ztz hlt hl rfl
  rw[← eB] at rP lP
  have eP:tn(Na.pMi 10(ngJ j)) B=(Na.d32 B).length:=rP.2.2.2.1
  have pA:=Na.Zbv hA
  have pP:=Na.Zbv hP0
  obtain⟨M,hM⟩:∃ M,M=90:=⟨_,rfl⟩
  obtain⟨M',hM'⟩:∃ M,M=213:=⟨_,rfl⟩
  have bA:bitLen A≤32*M:=Go.Rn.len_le(by rw[← zK];exact Nat.lt_of_lt_of_le(Na.Zes A)(Nat.pow_le_pow_right(by omega)(by omega)))
  have bB:bitLen B≤32*M':=Go.Rn.len_le(by rw[← zK];exact Nat.lt_of_lt_of_le(Na.Zes B)(Nat.pow_le_pow_right(by omega)(by omega)))
  have eU:upE((bitLen A:Nat):Int)((bitLen B:Nat):Int)=(u:Nat):=by
   unfold upE
   rw[Zw(n:=((bitLen B:Nat):Int)+128)(by omega)(by omega),Zw(by omega)(by omega),hu]
   unfold upT
   split<;>omega
  have hu2:u≤7000:=by rw[hu];unfold upT;omega
  have hAw:A<4294967296^lw9 A:=Na.Zes A
  have hS:=Na.Z2k(k:=u) hAw
  have hSm:Na.sM(lw9 A)(u:Nat)≤1000:=by
   unfold Na.sM
   rw[Int.toNat_natCast]
   show u/32+((Na.d32 A).length+1)≤1000
   omega
  obtain⟨S,eS⟩:∃ S,S=A*2^u:=⟨_,rfl⟩
  rw[← eS] at hS
  have hS0:S≠0:=by rw[eS];exact Zgu hA(fun h=>by have:=Nat.pow_pos(n:=u)(show 0<2 by omega);omega)
  have eSn:=Z2p hS hSm
  have rS:Na.IsR(Z7P D A(ngJ j) B(u:Nat) S)(pA9 3)(tn(Na.sM(lw9 A)(u:Nat)) S)(Na.sM(lw9 A)(u:Nat)) S:=Na.Zk2 rfl hS hSm
  obtain⟨rP3,_⟩:=Na.ZhG(H:=Z7P D A(ngJ j)(10^k)(u:Nat) S)(b:=2) eN(by omega) rfl
  rw[← eB] at rP3
  have hBS:B≤S:=by
   have:=Zi2 hA hP0
   rw[← hu,← eS] at this
   rcases Nat.lt_or_ge S B with h2 | h2
   ·rw[Nat.div_eq_of_lt h2] at this
    exact absurd this(by decide)
   ·exact h2
  have hle:=Na.Z2m hBS
  have hQ:S/B<4294967296^(tn(Na.sM(lw9 A)(u:Nat)) S-tn(Na.pMi 10(ngJ j)) B+1):=by
   rw[eSn,eP]
   exact Na.Z2l hP0 hle
  have sl:(Na.d32 S).length≤Na.sM(lw9 A)(u:Nat):=by
   rw[← eSn]
   have:=Za4(dg(Na.sM(lw9 A)(u:Nat))(S:Int))
   rw[ZU] at this
   exact this
  have hR:S % B<4294967296^(tn(Na.sM(lw9 A)(u:Nat)) S+1):=by
   have h2:S % B<S+1:=Nat.lt_succ_of_le(Nat.mod_le _ _)
   refine Nat.lt_of_lt_of_le h2 ?_
   rw[eSn,Nat.pow_succ]
   have:=Na.Zes S
   omega
  have sl2:Na.sM(lw9 A)(u:Nat)≤400:=by
   unfold Na.sM
   rw[Int.toNat_natCast]
   show u/32+((Na.d32 A).length+1)≤400
   omega
  have eRn:=Z2p hR(by rw[eSn];omega)
  have eW:IntKind.i64.wrap(0-((u:Nat):Int))= -((u:Nat):Int):=by rw[Zw(by omega)(by omega)];omega
  have hd:decide(((tn(tn(Na.sM(lw9 A)(u:Nat)) S+1)(S % B):Nat):Int)>0)=decide(S % B≠0):=by
   rw[eRn]
   by_cases hz:S % B=0
   ·have h2:(Na.d32(S % B)).length=0:=by rw[hz];show(db 4294967296 0).length=0;rw[zp];rfl
    rw[h2,decide_eq_false(show ¬ (S % B≠0) from fun h=>h hz)]
    rfl
   ·have:=Na.Zbv hz
    rw[decide_eq_true hz]
    exact decide_eq_true(by omega)
  have f:=Z7Q D j A B((bitLen A:Nat):Int)((bitLen B:Nat):Int) S(S/B)(S % B)(decide(S % B≠0))
  rw[eU,eW] at f
  rw[← hu,← eS]
  refine Zc Z2j f(Z2o hQ(by rw[eSn];omega)⟨by omega,by omega⟩(Za hd ?_))(by rfl)(by rfl) w
  refine Za(Na.Z9S rS rP3)(Za(Na.rX rS)(Za(Na.rX rP3)(Za(Na.rG rS rP3(by show 0<tn(Na.pMi 10(ngJ j)) B;rw[eP];exact pP) hBS) ?_)))
  have hsh:=Na.Z9X rA u
  rw[← eS] at hsh
  refine Za hsh(Za(Na.rX rA)(Za(Na.Z7R rA u)(Za(Na.rNe rA hA)(Za(Na.Z9Y rA hA(by omega)) ?_))))
  refine Za(Na.Z8X rA hA)(Za(Na.rX rA)(Za(Na.Z8X rP hP0)(Za(Na.rX rP) ?_)))
  rw[eB]
  exact Zt0 eN(by omega)(Za(decide_eq_false h1) lp)
def Z7S:Ans:=fun vals s=>
 match vals with
 | [.string a,.int .i64 j]=>some(teV(teT(nmB 10 a.data.toList) j)(teE(nmB 10 a.data.toList) j)(teM(nmB 10 a.data.toList) j),s,[(zi 10 a.data.toList,true),(decide(nmB 10 a.data.toList≠0),true),(decide(a.data.toList.length≤801∧ -1900≤j∧j≤1900),true)])
 | _=>none
theorem Zxr:ZT 35 Z7S:=by
 intro vals s v s' lg h hl w
 unfold Z7S at h
 split at h
 ·rename_i a j
  cases h
  have h1:zi 10 a.data.toList=true:=hl _ List.mem_cons_self
  have h2:=of_decide_eq_true(hl _(List.mem_cons_of_mem _ List.mem_cons_self))
  have h3:=of_decide_eq_true(hl _(List.mem_cons_of_mem _(List.mem_cons_of_mem _(List.mem_singleton.2 rfl))))
  exact ZrA h1 h2 h3.1 h3.2 w
 ·cases h
def ZrB:Con:=alt 33 Z5E(alt 34 Z5F(alt 35 Z7S Zo))
theorem ZrC:ConOk ZrB:=ZA Tryz.func33 rfl ZuU(ZA Tryz.func34 rfl ZuW(ZA Tryz.func35 rfl Zxr Zd))
def nuW(b:Int)(D:List UInt8)(k P:Int):Value:= .agg #[.int .i64 b,bR D,.int .i64 k,.int .i64 P]
theorem Z9Z(D:List UInt8)(b k P:Int):Z7(Zn(Zi Tryz.prog Zf ZrB true) 100 18 [nuW b D k P] [sam true])(vN false 0⟨0,0,0,0⟩ false) [Zb4 D [] true]:=⟨by kernel_rfl,by kernel_rfl,by kernel_rfl,by kernel_rfl⟩
theorem ZAa(D:List UInt8)(b k P:Int):Z7(Zn(Zi Tryz.prog Zf ZrB true) 100 18 [nuW b D k P] [sam false,cmp true])(vN false(IntKind.i64.wrap(P+IntKind.i64.wrap(4*IntKind.i64.wrap(k-((shR 60 D).length:Nat)))))(ofN(nmB 16(shR 60 D))) false) [(zi 16(shR 60 D),true),(decide((shR 60 D).length≤62),true),(decide((0:Int)≤60∧(60:Int)≤1000∧D.length≤100000),true),(b==16,true),Zb4 D [] false]:=⟨by kernel_rfl,by kernel_rfl,by kernel_rfl,by kernel_rfl⟩
def clE(k P:Int):Int:=if 400<(if -400>IntKind.i64.wrap(k+P) then -400 else IntKind.i64.wrap(k+P)) then 400 else(if -400>IntKind.i64.wrap(k+P) then -400 else IntKind.i64.wrap(k+P))
def jN(D:List UInt8)(k P:Int):Int:=IntKind.i64.wrap(clE k P-((shR 800 D).length:Nat))
theorem ZAb(D:List UInt8)(b k P:Int):Z7(Zn(Zi Tryz.prog Zf ZrB true) 100 18 [nuW b D k P] [sam false,cmp false])(teV(teT(nmB 10(shR 800 D))(jN D k P))(teE(nmB 10(shR 800 D))(jN D k P))(teM(nmB 10(shR 800 D))(jN D k P))) [(zi 10(shR 800 D),true),(decide(nmB 10(shR 800 D)≠0),true),(decide((shR 800 D).length≤801∧ -1900≤jN D k P∧jN D k P≤1900),true),(decide((0:Int)≤800∧(800:Int)≤1000∧D.length≤100000),true),(b==16,false),Zb4 D [] false]:=⟨by kernel_rfl,by kernel_rfl,by kernel_rfl,by kernel_rfl⟩
theorem Z2r{k P:Int}(h: -1000000000≤k+P∧k+P≤1000000000):clE k P=clF(k+P):=by
 unfold clE clF
 rw[Zw(by omega)(by omega)]
 split<;>split at* <;>omega
theorem Zt1{b:Int}{D:List UInt8}(h:zi b D=true)(k:Nat):zi b(shR k D)=true:=by
 unfold shR
 split
 ·exact h
 ·refine Zio ?_ ?_
  ·unfold zi at*
   rw[List.all_eq_true] at*
   exact fun x hx=>h x(List.mem_of_mem_take hx)
  ·unfold zi ZJ
   rfl
def Zzg(b:Int)(D:List UInt8)(k P:Int):Bool:=zi b D && decide((b=10∨b=16)∧(b=10→nmB 10(shR 800 D)≠0)∧D.length≤100000∧ -100000≤k∧k≤100000∧ -10000000≤P∧P≤10000000)
def nu4:Value→Option(Int×ByteArray×Int×Int)
 | .agg cs=>
  match cs.toList with
  | [.int .i64 b,.string D,.int .i64 k,.int .i64 P]=>some(b,D,k,P)
  | _=>none
 | _=>none
theorem Zjd{v:Value}{b:Int}{D:ByteArray}{k P:Int}(h:nu4 v=some(b,D,k,P)):v=nuW b D.data.toList k P:=by
 unfold nu4 at h
 split at h
 ·rename_i cs
  split at h
  ·rename_i hc
   cases h
   obtain⟨l⟩:=cs
   simp only at hc
   subst hc
   rfl
  ·cases h
 ·cases h
def Z7T:Ans:=fun vals s=>
 match vals,s with
 | [v],.inr(.inr(.inr(.inl true)))::s'=>
  match nu4 v with
  | some(_,D,_,_)=>some(vN false 0⟨0,0,0,0⟩ false,s',[(decide(D.data.toList=[]),true)])
  | none=>none
 | [v],.inr(.inr(.inr(.inl false)))::s'=>
  match nu4 v with
  | some(b,D,k,P)=>some(vN false(noE b D.data.toList k P)(ofN(noS b D.data.toList k P))(noM b D.data.toList k P),s',[(decide(D.data.toList=[]),false),(Zzg b D.data.toList k P,true)])
  | none=>none
 | _,_=>none
theorem Zxs:ZT 18 Z7T:=by
 intro vals s v s' lg h hl w
 have hT:=Zk ZrC
 unfold Z7T at h
 split at h
 ·rename_i v0 s2
  split at h
  rotate_left
  ·cases h
  rename_i b D k P hv
  rw[Zjd hv]
  cases h
  have h1:decide(D.data.toList=[])=true:=hl _(List.mem_singleton.2 rfl)
  exact Zc hT(Z9Z D.data.toList b k P)(Z3(zh h1))(by rfl)(by rfl) w
 ·rename_i v0 s2
  split at h
  rotate_left
  ·cases h
  rename_i b D k P hv
  rw[Zjd hv]
  cases h
  have h1:decide(D.data.toList=[])=false:=hl _ List.mem_cons_self
  have h2:Zzg b D.data.toList k P=true:=hl _(List.mem_cons_of_mem _(List.mem_singleton.2 rfl))
  unfold Zzg at h2
  rw[Bool.and_eq_true,decide_eq_true_eq] at h2
  obtain⟨ha,hb,hz,hl,hk1,hk2,hP1,hP2⟩:=h2
  by_cases h16:b=16
  ·have sl:=ZlU 60 D.data.toList
   have f:=ZAa D.data.toList b k P
   have e:IntKind.i64.wrap(P+IntKind.i64.wrap(4*IntKind.i64.wrap(k-((shR 60 D.data.toList).length:Nat))))=P+4*(k-((shR 60 D.data.toList).length:Nat)):=by
    rw[Zw(n:=k-((shR 60 D.data.toList).length:Nat))(by omega)(by omega),Zw(n:=4*(k-((shR 60 D.data.toList).length:Nat)))(by omega)(by omega),Zw(by omega)(by omega)]
   rw[e] at f
   unfold noE noS noM
   rw[if_pos h16,if_pos h16,if_pos h16]
   rw[h16] at ha
   exact Zc hT f(Za(Zt1 ha 60)(Za(decide_eq_true(by omega))(Za(decide_eq_true⟨by decide,by decide,hl⟩)(Za(by simpa using h16)(Z3(zh h1))))))(by rfl)(by rfl) w
  ·have h10:b=10:=by omega
   have sl:=ZlU 800 D.data.toList
   have f:=ZAb D.data.toList b k P
   have ec:=Z2r(k:=k)(P:=P)(by omega)
   have bc: -400≤clF(k+P)∧clF(k+P)≤400:=by unfold clF;omega
   have e:jN D.data.toList k P=clF(k+P)-((shR 800 D.data.toList).length:Nat):=by
    unfold jN
    rw[ec,Zw(by omega)(by omega)]
   rw[e] at f
   unfold noE noS noM
   rw[if_neg h16,if_neg h16,if_neg h16]
   rw[h10] at ha
   exact Zc hT f(Za(Zt1 ha 800)(Za(decide_eq_true(hz h10))(Za(decide_eq_true⟨by omega,by omega,by omega⟩)(Za(decide_eq_true⟨by decide,by decide,hl⟩)(Za(by simpa using h16)(Z3(zh h1)))))))(by rfl)(by rfl) w
 ·cases h
end Go.Proofs.YtjlponbdflkbjaaGreatDoor
namespace Go.Proofs.YtjlponbdflkbjaaGreatDoor
open Go.KRun Go.Wd Go.Pt Go.Rn
set_option maxRecDepth 100000
def Z4N(x:W4)(b:Bool)(d:Nat):Value:= .tuple #[vW(ofN(tw x b/2^(d+1))),.int .i64(z9(tw x b % 2^(d+1))(2^(d+1)))]
theorem Zje{x:W4}{n:Int}(h:x.ok)(h0: -9223372036854775808≤n)(h1:n≤9223372036854775807):decide(x.ok∧ -9223372036854775808≤n∧n≤9223372036854775807)=true:=decide_eq_true⟨h,h0,h1⟩
theorem ZnU(n b:Bool)(x:W4)(ex e:Int)(hx:x.ok)(h1: -4000≤ex)(h2:ex≤e)(h3:e≤4000)(w:World):Calls Tryz.prog 84 #[vN n ex x b,.int .i64 e] w fun r w'=>r= .returned(Z4N x b(e-ex).toNat)∧Zad w w':=by
 obtain⟨d,hd⟩:∃ d:Nat,e-ex=(d:Int):=⟨(e-ex).toNat,by omega⟩
 have e1:dnI ex e=(d:Int):=by unfold dnI;rw[Zbx⟨by omega,by omega⟩,hd]
 have e2:dn1 ex e=(d:Int)-1:=by
  unfold dn1
  rw[Zbx(n:=e-ex)⟨by omega,by omega⟩,hd,Zbx⟨by omega,by omega⟩]
 have eV:∀ c,c=z9(tw x b % 2^(d+1))(2^(d+1))→ctV x ex e c=Z4N x b(e-ex).toNat:=fun c hc=>by
  unfold ctV Z4N
  rw[e1,ZiC hx(by omega),hd,Int.toNat_natCast,Zlt,hc]
 have k1:decide(x.ok∧ -9223372036854775808≤dnI ex e∧dnI ex e≤9223372036854775807)=true:=Zje hx(by omega)(by omega)
 have k2:decide(x.ok∧ -9223372036854775808≤dn1 ex e∧dn1 ex e≤9223372036854775807)=true:=Zje hx(by omega)(by omega)
 have kl:ZgU x(dnI ex e)=decide(x.nat % 2^d≠0):=by rw[e1,Zqs hx(by omega),Int.toNat_natCast]
 have hv:([vN n ex x b,.int .i64 e].all(lt 0))=true:=rfl
 by_cases hl:x.nat % 2^d=0
 ·have kf:ZgU x(dnI ex e)=false:=by rw[kl];simp [hl]
  cases b
  ·rw[← eV 0(by rw[Zul hl])]
   exact Zc(Zk Zbt)(ct0 n x ex e)(Za k1(Z3 kf)) hv(by rfl) w
  ·cases d with
   | zero=>
    rw[← eV 2(by rw[Zum])]
    exact Zc(Zk Zbt)(ct1 n x ex e)(Za(by rw[e1];rfl)(Za k1(Z3 kf))) hv(by rfl) w
   | succ j=>
    have k0:(dnI ex e==0)=false:=by rw[e1];simp;omega
    have e3:dn1 ex e=(j:Int):=by rw[e2];omega
    have kb:Zmu x(dn1 ex e)=((x.nat/2^j % 2:Nat):Int):=by rw[e3,ZfE hx(by omega),Int.toNat_natCast]
    by_cases hb:x.nat/2^j % 2=0
    ·rw[← eV 1(by rw[Zik hb(.inr rfl)])]
     exact Zc(Zk Zbt)(ct2 n x ex e true)(Za(by rw[kb,hb];rfl)(Za k2(Za k0(Za k1(Z3 kf))))) hv(by rfl) w
    ·have hb':x.nat/2^j % 2=1:=by omega
     rw[← eV 3(by rw[Zf3 hb'(.inr rfl)])]
     exact Zc(Zk Zbt)(ct2 n x ex e false)(Za(by rw[kb,hb'];rfl)(Za k2(Za k0(Za k1(Z3 kf))))) hv(by rfl) w
 ·have kf:ZgU x(dnI ex e)=true:=by rw[kl];simp [hl]
  cases d with
  | zero=>exact absurd(by simp [Nat.mod_one]) hl
  | succ j=>
   have k0:(dnI ex e==0)=false:=by rw[e1];simp;omega
   have e3:dn1 ex e=(j:Int):=by rw[e2];omega
   have kb:Zmu x(dn1 ex e)=((x.nat/2^j % 2:Nat):Int):=by rw[e3,ZfE hx(by omega),Int.toNat_natCast]
   by_cases hb:x.nat/2^j % 2=0
   ·rw[← eV 1(by rw[Zik hb(.inl hl)])]
    exact Zc(Zk Zbt)(ct4 n b x ex e)(Za(by rw[kb,hb];rfl)(Za k2(Za k0(Za k1(Z3 kf))))) hv(by rfl) w
   ·have hb':x.nat/2^j % 2=1:=by omega
    cases b
    ·have hs:Zj7 x(dnI ex e)=ofN(x.nat/2^(j+1)):=by rw[e1,ZiC hx(by omega),Int.toNat_natCast]
     have hlt:=W4.nat_lt hx
     have hle:x.nat/2^(j+1)≤x.nat:=Nat.div_le_self _ _
     have hle2:2*(x.nat/2^(j+1))≤x.nat:=by
      have:=Nat.div_mul_le_self x.nat(2^(j+1))
      have hp:0<2^j:=Nat.pow_pos(by omega)
      have h9:2*(x.nat/2^(j+1))≤x.nat/2^(j+1)*2^(j+1):=by
       rw[Nat.mul_comm 2,Nat.pow_succ]
       exact Nat.mul_le_mul_left _(by omega)
      omega
     have ht:tw(Zj7 x(dnI ex e)) true=2*(x.nat/2^(j+1))+1:=by
      unfold tw
      rw[hs,Zbn(by omega)]
     have hk:bkW x ex e=ofN((2*(x.nat/2^(j+1))+1)*2^j):=by
      unfold bkW
      have e256:(2:Nat)^256=115792089237316195423570985008687907853269984665640564039457584007913129639936:=rfl
      rw[ht,e3,ZfD(zJ _)(by omega),Int.toNat_natCast,Zbn(by omega)]
     have kq:eqW x(bkW x ex e)=decide(x.nat % 2^j=0):=by rw[hk,Zpo hx hb']
     have kok:decide((ofN(tw(Zj7 x(dnI ex e)) true)).ok∧ -9223372036854775808≤dn1 ex e∧dn1 ex e≤9223372036854775807)=true:=Zje(zJ _)(by omega)(by omega)
     have ks:decide(Zj7 x(dnI ex e)).ok=true:=by rw[hs];exact decide_eq_true(zJ _)
     by_cases hz:x.nat % 2^j=0
     ·rw[← eV 2(by rw[Zun hb' hz])]
      exact Zc(Zk Zbt)(ct6 n x ex e false)(Za(by rw[kq,decide_eq_true hz];rfl)(Za kok(Za ks(Za(by rw[kb,hb'];rfl)(Za k2(Za k0(Za k1(Z3 kf)))))))) hv(by rfl) w
     ·rw[← eV 3(by rw[Zf3 hb'(.inl hz)])]
      exact Zc(Zk Zbt)(ct6 n x ex e true)(Za(by rw[kq,decide_eq_false hz];rfl)(Za kok(Za ks(Za(by rw[kb,hb'];rfl)(Za k2(Za k0(Za k1(Z3 kf)))))))) hv(by rfl) w
    ·rw[← eV 3(by rw[Zf3 hb'(.inr rfl)])]
     exact Zc(Zk Zbt)(ct5 n x ex e)(Za(by rw[kb,hb'];rfl)(Za k2(Za k0(Za k1(Z3 kf))))) hv(by rfl) w
def Zkg(x:W4)(ex e:Int):Bool:=decide(x.ok∧ -4000≤ex∧ex≤e∧e≤4000)
def Z7U:Ans:=fun vals s=>
 match vals with
 | [v,.int .i64 e]=>
  match n7 v with
  | some(_,ex,x,b)=>some(Z4N x b(e-ex).toNat,s,[(Zkg x ex e,true)])
  | none=>none
 | _=>none
theorem Zxt:ZT 84 Z7U:=by
 intro vals s v s' lg h hl w
 unfold Z7U at h
 split at h
 ·split at h
  ·rename_i n ex x b hn
   cases h
   have h1:=of_decide_eq_true(hl _(List.mem_singleton.2 rfl))
   rw[Zcl hn]
   exact ZnU n b x ex _ h1.1 h1.2.1 h1.2.2.1 h1.2.2.2 w
  ·cases h
 ·cases h
def Zzh:Con:=alt 85 gUp(alt 84 Z7U Zth)
theorem Zet:ConOk Zzh:=ZA Tryz.func85 rfl Z0E(ZA Tryz.func84 rfl Zxt Zbt)
def Zd1(x:W4)(b:Bool)(ex e:Int):W4:=ofN(tw x b/2^((e-ex).toNat+1))
def rsI(x:W4)(b:Bool)(ex e:Int):Int:=z9(tw x b % 2^((e-ex).toNat+1))(2^((e-ex).toNat+1))
def upX(m:Int)(n:Bool)(x:W4)(b:Bool)(ex e:Int):Bool:=upR m n(Zmu(Zd1 x b ex e) 0 !=0)(rsI x b ex e)
def up1(ex e:Int):Int:=IntKind.i64.wrap(IntKind.i64.wrap(ex-e)-1)
def w1:W4:=⟨1,0,0,0⟩
def w63:W4:=⟨0,0,0,9223372036854775808⟩
def lAd(x:W4):Bool×Bool:=(decide(x.ok∧w1.ok),true)
def lBt(x:W4):Bool×Bool:=(decide(x.ok∧(-9223372036854775808:Int)≤0∧(0:Int)≤9223372036854775807),true)
def lOv(x:W4)(d:Bool):Bool×Bool:=(decide(115792089237316195423570985008687907853269984665640564039457584007913129639936≤x.val+w1.val),d)
def tmR(n:Bool)(e:Int)(x:W4)(l:Bool):Value:= .tuple #[vN n e x false,.bool l]
theorem tm0(n b:Bool)(x:W4)(ex e m:Int):Z7(Zn(Zi Tryz.prog Zf Zzh true) 300 40 [vN n ex x b,.int .i64 e,.int .i64 m] [cmp true])(tmR n e(Ze7(ofN(tw x b))(up1 ex e)) false) [lok(ofN(tw x b))(up1 ex e),(decide x.ok,true),(decide(e<ex),true)]:=⟨by kernel_rfl,by kernel_rfl,by kernel_rfl,by kernel_rfl⟩
theorem tm1(n b:Bool)(x:W4)(ex e m:Int):Z7(Zn(Zi Tryz.prog Zf Zzh true) 300 40 [vN n ex x b,.int .i64 e,.int .i64 m] [cmp false,tst false,tst false])(tmR n e(Zd1 x b ex e)(rsI x b ex e !=0)) [(upX m n x b ex e,false),lBt(Zd1 x b ex e),(Zkg x ex e,true),(false,false),(decide(e<ex),false)]:=⟨by kernel_rfl,by kernel_rfl,by kernel_rfl,by kernel_rfl⟩
theorem tm2(n b:Bool)(x:W4)(ex e m:Int):Z7(Zn(Zi Tryz.prog Zf Zzh true) 300 40 [vN n ex x b,.int .i64 e,.int .i64 m] [cmp false,tst false,tst true,tst false])(tmR n e(W4.of((Zd1 x b ex e).val+w1.val))(rsI x b ex e !=0)) [lOv(Zd1 x b ex e) false,lAd(Zd1 x b ex e),lAd(Zd1 x b ex e),lAd(Zd1 x b ex e),(upX m n x b ex e,true),lBt(Zd1 x b ex e),(Zkg x ex e,true),(false,false),(decide(e<ex),false)]:=⟨by kernel_rfl,by kernel_rfl,by kernel_rfl,by kernel_rfl⟩
theorem tm3(n b:Bool)(x:W4)(ex e m:Int):Z7(Zn(Zi Tryz.prog Zf Zzh true) 300 40 [vN n ex x b,.int .i64 e,.int .i64 m] [cmp false,tst false,tst true,tst true])(tmR n(IntKind.i64.wrap(e+1)) w63(rsI x b ex e !=0)) [lOv(Zd1 x b ex e) true,lAd(Zd1 x b ex e),lAd(Zd1 x b ex e),lAd(Zd1 x b ex e),(upX m n x b ex e,true),lBt(Zd1 x b ex e),(Zkg x ex e,true),(false,false),(decide(e<ex),false)]:=⟨by kernel_rfl,by kernel_rfl,by kernel_rfl,by kernel_rfl⟩
theorem ZrD(n:Nat):(ofN n).nat=n % 2^256:=by
 have e:(2:Nat)^256=115792089237316195423570985008687907853269984665640564039457584007913129639936:=rfl
 unfold W4.nat ofN
 rw[W4.val_of,e]
 omega
theorem Zjf{x:W4}(hx:x.ok)(b:Bool)(d:Nat):tw x b/2^(d+1)<2^256:=by
 rw[Zlt]
 exact Nat.lt_of_le_of_lt(Nat.div_le_self _ _)(W4.nat_lt hx)
theorem Zt2{m:Int}{n:Bool}{x:W4}{b:Bool}{ex e:Int}(hx:x.ok):upX m n x b ex e=upR m n(odd(tw x b/2^((e-ex).toNat+1)))(rsI x b ex e):=by
 unfold upX Zd1
 congr 1
 rw[ZfE(zJ _)(by omega),Zbn(Zjf hx _ _)]
 unfold odd
 generalize tw x b/2^((e-ex).toNat+1)=q
 have e0:q/2^(0:Int).toNat % 2=q % 2:=by simp
 rw[e0,Bool.eq_iff_iff]
 simp only[bne_iff_ne,ne_eq,decide_eq_true_eq]
 omega
theorem Zjg{m:Int}{n:Bool}{T:Nat}{ex e:Int}(h:ex≤e):toQ m n T(ex-1) e=rq m n T((e-ex).toNat+1):=by
 unfold toQ
 rw[if_neg(by omega)]
 congr 1
 omega
theorem ZrE{T:Nat}{ex e:Int}(h:ex≤e):toL T(ex-1) e=decide(T % 2^((e-ex).toNat+1)≠0):=by
 unfold toL
 rw[if_neg(by omega),show(e-(ex-1)).toNat=(e-ex).toNat+1 by omega]
theorem Z2s{x:W4}{b:Bool}{ex e:Int}(h:ex≤e):(rsI x b ex e !=0)=toL(tw x b)(ex-1) e:=by
 rw[ZrE h,Bool.eq_iff_iff]
 simp only[bne_iff_ne,ne_eq,decide_eq_true_eq]
 unfold rsI
 rw[Zgn]
theorem Zjh(n b:Bool)(x:W4)(ex e m:Int)(hx:x.ok)(h1: -4000≤ex)(h1':ex≤4000)(h2: -4000≤e)(h3:e≤4000)(hq:toQ m n(tw x b)(ex-1) e<2^256)(w:World):Calls Tryz.prog 40 #[vN n ex x b,.int .i64 e,.int .i64 m] w fun r w'=>r= .returned(tmR n e(ofN(toQ m n(tw x b)(ex-1) e))(toL(tw x b)(ex-1) e))∧Zad w w':=by
 have hv:([vN n ex x b,.int .i64 e,.int .i64 m].all(lt 0))=true:=rfl
 by_cases hlt:e<ex
 ·have e1:up1 ex e=ex-e-1:=by unfold up1;rw[Zbx(n:=ex-e)⟨by omega,by omega⟩,Zbx⟨by omega,by omega⟩]
  have h:=Zc(Zk Zet)(tm0 n b x ex e m)(Za(Zje(zJ _)(by omega)(by omega))(Za(decide_eq_true hx)(Z3(decide_eq_true hlt)))) hv(by rfl) w
  rw[e1,ZfD(zJ _)(by omega),ZrD,Zhj] at h
  unfold toQ toL
  rw[if_pos(by omega),if_pos(by omega),show(ex-1-e).toNat=(ex-e-1).toNat by omega]
  exact h
 ·have hle:ex≤e:=by omega
  have kc:Zkg x ex e=true:=decide_eq_true⟨hx,h1,hle,h3⟩
  have kb:(decide((Zd1 x b ex e).ok∧(-9223372036854775808:Int)≤0∧(0:Int)≤9223372036854775807))=true:=decide_eq_true⟨zJ _,by omega,by omega⟩
  have kl:decide(e<ex)=false:=decide_eq_false hlt
  have ka:decide((Zd1 x b ex e).ok∧w1.ok)=true:=decide_eq_true⟨zJ _,W4.ok_of 1⟩
  rw[Zjg hle] at hq ⊢
  rw[← Z2s hle]
  have hu:=Zt2(m:=m)(n:=n)(b:=b)(ex:=ex)(e:=e) hx
  unfold rq at hq ⊢
  by_cases hup:upX m n x b ex e=true
  ·rw[hu] at hup
   unfold rsI at hup
   rw[if_pos hup] at hq ⊢
   have hval:(Zd1 x b ex e).val=((tw x b/2^((e-ex).toNat+1):Nat):Int):=by
    unfold Zd1
    rw[W4.nat_val(zJ _),Zbn(Zjf hx _ _)]
   have e256:(2:Nat)^256=115792089237316195423570985008687907853269984665640564039457584007913129639936:=rfl
   have hw1:w1.val=1:=rfl
   have ko:decide(115792089237316195423570985008687907853269984665640564039457584007913129639936≤(Zd1 x b ex e).val+w1.val)=false:=decide_eq_false(by rw[hval,hw1];omega)
   have h:=Zc(Zk Zet)(tm2 n b x ex e m)(Za ko(Za ka(Za ka(Za ka(Za(by rw[hu];exact hup)(Za kb(Za kc(Za rfl(Z3 kl))))))))) hv(by rfl) w
   rw[hval,hw1] at h
   exact h
  ·rw[Bool.not_eq_true] at hup
   have h:=Zc(Zk Zet)(tm1 n b x ex e m)(Za hup(Za kb(Za kc(Za rfl(Z3 kl))))) hv(by rfl) w
   rw[hu] at hup
   unfold rsI at hup
   rw[hup]
   exact h
theorem Zxu(n b:Bool)(x:W4)(ex e m:Int)(hx:x.ok)(h1: -4000≤ex)(hle:ex≤e)(h3:e≤4000)(hq:¬ toQ m n(tw x b)(ex-1) e<2^256)(w:World):Calls Tryz.prog 40 #[vN n ex x b,.int .i64 e,.int .i64 m] w fun r w'=>r= .returned(tmR n(e+1) w63(toL(tw x b)(ex-1) e))∧Zad w w':=by
 have hv:([vN n ex x b,.int .i64 e,.int .i64 m].all(lt 0))=true:=rfl
 have hlt:¬ e<ex:=by omega
 have kc:Zkg x ex e=true:=decide_eq_true⟨hx,h1,hle,h3⟩
 have kb:(decide((Zd1 x b ex e).ok∧(-9223372036854775808:Int)≤0∧(0:Int)≤9223372036854775807))=true:=decide_eq_true⟨zJ _,by omega,by omega⟩
 have kl:decide(e<ex)=false:=decide_eq_false hlt
 have ka:decide((Zd1 x b ex e).ok∧w1.ok)=true:=decide_eq_true⟨zJ _,W4.ok_of 1⟩
 rw[Zjg hle] at hq
 rw[← Z2s hle]
 have hu:=Zt2(m:=m)(n:=n)(b:=b)(ex:=ex)(e:=e) hx
 have hlw:=Zjf hx b(e-ex).toNat
 unfold rq at hq
 by_cases hup:upX m n x b ex e=true
 ·have hup':=hup
  rw[hu] at hup
  unfold rsI at hup
  rw[if_pos hup] at hq
  have hval:(Zd1 x b ex e).val=((tw x b/2^((e-ex).toNat+1):Nat):Int):=by
   unfold Zd1
   rw[W4.nat_val(zJ _),Zbn(Zjf hx _ _)]
  have e256:(2:Nat)^256=115792089237316195423570985008687907853269984665640564039457584007913129639936:=rfl
  have hw1:w1.val=1:=rfl
  have ko:decide(115792089237316195423570985008687907853269984665640564039457584007913129639936≤(Zd1 x b ex e).val+w1.val)=true:=decide_eq_true(by rw[hval,hw1];omega)
  have h:=Zc(Zk Zet)(tm3 n b x ex e m)(Za ko(Za ka(Za ka(Za ka(Za hup'(Za kb(Za kc(Za rfl(Z3 kl))))))))) hv(by rfl) w
  rw[Zbx⟨by omega,by omega⟩] at h
  exact h
 ·rw[hu] at hup
  unfold rsI at hup
  rw[if_neg hup] at hq
  omega
def Zh5(x:W4)(ex e:Int):Bool:=decide(x.ok∧ -4000≤ex∧ex≤4000∧ -4000≤e∧e≤4000)
def gTm:Ans:=fun vals s=>
 match vals with
 | [v,.int .i64 e,.int .i64 m]=>
  match n7 v,s with
  | some(n,ex,x,b),.inr(.inr(.inr(.inl true))):: .inr(.inr(.inr(.inl d)))::s'=>some(tmR n e(ofN(toQ m n(tw x b)(ex-1) e)) d,s',[(toL(tw x b)(ex-1) e,d),(decide(toQ m n(tw x b)(ex-1) e<2^256),true),(Zh5 x ex e,true)])
  | some(n,ex,x,b),[.inr(.inr(.inr(.inl true)))]=>some(tmR n e(ofN(toQ m n(tw x b)(ex-1) e))(toL(tw x b)(ex-1) e),[],[(decide(toQ m n(tw x b)(ex-1) e<2^256),true),(Zh5 x ex e,true)])
  | some(n,ex,x,b),.inr(.inr(.inr(.inl false)))::s'=>some(tmR n(e+1) w63(toL(tw x b)(ex-1) e),s',[(decide(toQ m n(tw x b)(ex-1) e<2^256),false),(decide(ex≤e),true),(Zh5 x ex e,true)])
  | _,_=>none
 | _=>none
theorem Z2t:ZT 40 gTm:=by
 intro vals s v s' lg h hl w
 unfold gTm at h
 split at h
 ·split at h
  ·rename_i n ex x b d s2 hn
   cases h
   rw[ZcQ,ZcQ,ZcQ] at hl
   have h1:=of_decide_eq_true hl.2.2.1
   rw[Zcl hn,← hl.1]
   exact Zjh n b x ex _ _ h1.1 h1.2.1 h1.2.2.1 h1.2.2.2.1 h1.2.2.2.2(of_decide_eq_true hl.2.1) w
  ·rename_i n ex x b hn
   cases h
   rw[ZcQ,ZcQ] at hl
   have h1:=of_decide_eq_true hl.2.1
   rw[Zcl hn]
   exact Zjh n b x ex _ _ h1.1 h1.2.1 h1.2.2.1 h1.2.2.2.1 h1.2.2.2.2(of_decide_eq_true hl.1) w
  ·rename_i n ex x b s2 hn
   cases h
   rw[ZcQ,ZcQ,ZcQ] at hl
   have h1:=of_decide_eq_true hl.2.2.1
   rw[Zcl hn]
   exact Zxu n b x ex _ _ h1.1 h1.2.1(of_decide_eq_true hl.2.1) h1.2.2.2.2(of_decide_eq_false hl.1) w
  ·cases h
 ·cases h
def Zzi:Con:=alt 40 gTm Zzh
theorem Zeu:ConOk Zzi:=ZA Tryz.func40 rfl Z2t Zet
def clp(e:Int):Int:=if 2000<(if -2000>e then -2000 else e) then 2000 else(if -2000>e then -2000 else e)
theorem ZnV(e:Int): -2000≤clp e∧clp e≤2000:=by unfold clp;split<;>split<;>omega
theorem Zxv(n b:Bool)(x:W4)(e:Int):Z7(Zn(Zi Tryz.prog Zf Zo true) 300 38 [vN n e x b] [])(vN n(clp e) x b) []:=⟨by kernel_rfl,by kernel_rfl,by kernel_rfl,by kernel_rfl⟩
def Zxw:Ans:=fun vals s=>
 match vals with
 | [v]=>
  match n7 v with
  | some(n,e,x,b)=>some(vN n(clp e) x b,s,[])
  | none=>none
 | _=>none
theorem ZrF:ZT 38 Zxw:=by
 intro vals s v s' lg h hl w
 unfold Zxw at h
 split at h
 ·split at h
  ·rename_i n e x b hn
   cases h
   rw[Zcl hn]
   exact Zc(Zk Zd)(Zxv n b x e) ZoD(by rfl)(by rfl) w
  ·cases h
 ·cases h
theorem ZAc(n:Bool)(m:Int):Z7(Zn(Zi Tryz.prog Zf Zzi true) 300 42 [.bool n,.int .i64 m] [tst true])(.int .u64 9218868437227405312) [(upR m n true 3,true)]:=⟨by kernel_rfl,by kernel_rfl,by kernel_rfl,by kernel_rfl⟩
theorem ZAd(n:Bool)(m:Int):Z7(Zn(Zi Tryz.prog Zf Zzi true) 300 42 [.bool n,.int .i64 m] [tst false])(.int .u64 9218868437227405311) [(upR m n true 3,false)]:=⟨by kernel_rfl,by kernel_rfl,by kernel_rfl,by kernel_rfl⟩
def Z7V:Ans:=fun vals s=>
 match vals with
 | [.bool n,.int .i64 m]=>some(.int .u64(bey m n),s,[])
 | _=>none
theorem Zxx:ZT 42 Z7V:=by
 intro vals s v s' lg h hl w
 unfold Z7V at h
 split at h
 ·rename_i n m
  cases h
  unfold bey
  by_cases hu:upR m n true 3=true
  ·rw[if_pos hu]
   exact Zc(Zk Zeu)(ZAc n m)(Z3 hu)(by rfl)(by rfl) w
  ·rw[if_neg hu]
   exact Zc(Zk Zeu)(ZAd n m)(Z3(by simpa using hu))(by rfl)(by rfl) w
 ·cases h
def m52(k:Int):Int:=IntKind.i64.wrap(k-52)
def tnQ(m:Int)(n:Bool)(x:W4)(b:Bool)(ex k:Int):W4:=ofN(toQ m n(tw x b)(ex-1)(m52 k))
def lgW(e:Int)(x:W4):Int:=IntKind.i64.wrap(IntKind.i64.wrap(e+Z4C x)-1)
theorem ti0(n b:Bool)(x:W4)(ex k m:Int):Z7(Zn(Zi Tryz.prog Zf Zzi true) 300 43 [vN n ex x b,.int .i64 k,.int .i64 m] [cmp true])(.bool(decide(k< -1022))) [(k != -1023,true)]:=⟨by kernel_rfl,by kernel_rfl,by kernel_rfl,by kernel_rfl⟩
theorem ti1(n b:Bool)(x:W4)(ex k m:Int):Z7(Zn(Zi Tryz.prog Zf Zzi true) 300 43 [vN n ex x b,.int .i64 k,.int .i64 m] [cmp false,cmp true])(.bool(decide(lgW(m52 k)(tnQ m n x b ex k)< -1022))) [(decide(tnQ m n x b ex k).ok,true),(decide(toQ m n(tw x b)(ex-1)(m52 k)<2^256),true),(Zh5 x ex(m52 k),true),(k != -1023,false)]:=⟨by kernel_rfl,by kernel_rfl,by kernel_rfl,by kernel_rfl⟩
def tnK(m:Int)(n:Bool)(T:Nat)(E k:Int):Bool:=if k= -1023 then decide(toQ m n T E(-1075)<9007199254740992) else decide(k< -1022)
theorem Zji(x:W4):Z4C x=(bitLen x.nat:Nat):=rfl
theorem ZrG{q:Nat}:bitLen q<54↔q<9007199254740992:=by
 constructor
 ·intro h
  have h1:=(bitLen_spec q).1
  have h2:=Nat.pow_le_pow_right(show 0<2 by omega)(show bitLen q≤53 by omega)
  have e:(2:Nat)^53=9007199254740992:=rfl
  omega
 ·intro h
  have:=len_le(T:=q)(k:=53) h
  omega
theorem Zkh(n b:Bool)(x:W4)(ex k m:Int)(h1:x.ok∧ -4000≤ex∧ex≤4000∧ -4000≤(0:Int)∧(0:Int)≤4000)(h2:k= -1023→toQ m n(tw x b)(ex-1)(-1075)<2^256)(w:World):Calls Tryz.prog 43 #[vN n ex x b,.int .i64 k,.int .i64 m] w fun r w'=>r= .returned(.bool(tnK m n(tw x b)(ex-1) k))∧Zad w w':=by
 unfold tnK
 by_cases hk:k= -1023
 ·rw[if_pos hk]
  have e0:m52 k= -1075:=by rw[hk];rfl
  have hq:=h2 hk
  have hlen:bitLen(toQ m n(tw x b)(ex-1)(-1075))≤256:=len_le hq
  have e1:lgW(m52 k)(tnQ m n x b ex k)= -1076+(bitLen(toQ m n(tw x b)(ex-1)(-1075)):Nat):=by
   unfold lgW tnQ
   rw[e0,Zji,Zbn hq,Zbx(n:= -1075+((bitLen(toQ m n(tw x b)(ex-1)(-1075)):Nat):Int))⟨by omega,by omega⟩,Zbx⟨by omega,by omega⟩]
   omega
  have h:=Zc(Zk Zeu)(ti1 n b x ex k m)(Za(decide_eq_true(zJ _))(Za(by rw[e0];exact decide_eq_true hq)(Za(by rw[e0];exact decide_eq_true⟨h1.1,h1.2.1,h1.2.2.1,by omega,by omega⟩)(Z3(by rw[hk];rfl)))))(by rfl)(by rfl) w
  rw[e1] at h
  have e2:decide(-1076+((bitLen(toQ m n(tw x b)(ex-1)(-1075)):Nat):Int)< -1022)=decide(toQ m n(tw x b)(ex-1)(-1075)<9007199254740992):=by
   congr 1
   rw[← ZrG]
   simp only[eq_iff_iff]
   omega
  rw[e2] at h
  exact h
 ·rw[if_neg hk]
  exact Zc(Zk Zeu)(ti0 n b x ex k m)(Z3(by simpa using hk))(by rfl)(by rfl) w
def Zxy:Ans:=fun vals s=>
 match vals with
 | [v,.int .i64 k,.int .i64 m]=>
  match n7 v,s with
  | some(n,ex,x,b),.inr(.inr(.inr(.inl d)))::s'=>some(.bool d,s',[(tnK m n(tw x b)(ex-1) k,d),(decide(k= -1023→toQ m n(tw x b)(ex-1)(-1075)<2^256),true),(Zh5 x ex 0,true)])
  | _,_=>none
 | _=>none
theorem ZrH:ZT 43 Zxy:=by
 intro vals s v s' lg h hl w
 unfold Zxy at h
 split at h
 ·split at h
  ·rename_i n ex x b d s2 hn
   cases h
   rw[ZcQ,ZcQ,ZcQ] at hl
   rw[Zcl hn,← hl.1]
   exact Zkh n b x ex _ _(of_decide_eq_true hl.2.2.1)(of_decide_eq_true hl.2.1) w
  ·cases h
 ·cases h
def ZgO:Con:=alt 38 Zxw(alt 42 Z7V(alt 43 Zxy Zzi))
theorem Zbw:ConOk ZgO:=ZA Tryz.func38 rfl ZrF(ZA Tryz.func42 rfl Zxx(ZA Tryz.func43 rfl ZrH Zeu))
end Go.Proofs.YtjlponbdflkbjaaGreatDoor
