/-
  Con2, NumRm, RpD, UuV, UuR, ConN1, UuW, ConN2, ConN3
-/
import Derived.Test.YtjlponbdflkbjaaGreatDoorG08
import Derived.Test.YtjlponbdflkbjaaGreatDoorG06
import Derived.Test.YtjlponbdflkbjaaGreatDoorG05
import Derived.Test.YtjlponbdflkbjaaGreatDoorG07
namespace Go.Proofs.YtjlponbdflkbjaaGreatDoor
open Go.KRun Go.Wd
def g1n(k:W4→Int→List Dec→Option(Value×List Dec×Log)):Ans:=fun vals s=>
 match vals with
 | [x,.int .i64 n]=>
  match w4 x with
  | some a=>
   match k a n s with
   | some r=>some(r.1,r.2.1,(decide(a.ok∧ -9223372036854775808≤n∧n≤9223372036854775807),true)::r.2.2)
   | none=>none
  | none=>none
 | _=>none
theorem ZsU{f:Nat}{k:W4→Int→List Dec→Option(Value×List Dec×Log)}
  (hk:∀ (x:W4)(n:Int),x.ok→ -9223372036854775808≤n→n≤9223372036854775807→∀ s v s' lg,k x n s=some(v,s',lg)→Z4 lg→∀ w,Calls Tryz.prog f #[vW x,.int .i64 n] w fun e w'=>e= .returned v∧Zad w w'):ZT f(g1n k):=by
 intro vals s v s' lg h hl w
 unfold g1n at h
 split at h
 ·split at h
  ·rename_i a ha
   split at h
   ·rename_i r hr
    cases h
    have h1:=hl _(List.mem_cons_self)
    simp only[decide_eq_true_eq] at h1
    rw[ZdX ha]
    exact hk a _ h1.1 h1.2.1 h1.2.2 s r.1 r.2.1 r.2.2 hr(fun p hp=>hl p(List.mem_cons_of_mem _ hp)) w
   ·cases h
  ·cases h
 ·cases h
def Zda(k:W4→Int→Value):W4→Int→List Dec→Option(Value×List Dec×Log):=fun x n s=>some(k x n,s,[])
theorem ZbW{f:Nat}{k:W4→Int→Value}(hk:∀ (x:W4)(n:Int),x.ok→ -9223372036854775808≤n→n≤9223372036854775807→∀ w,Calls Tryz.prog f #[vW x,.int .i64 n] w fun e w'=>e= .returned(k x n)∧Zad w w'):ZT f(g1n(Zda k)):=
 ZsU fun x n hx h0 h1 s v s' lg h _ w=>by
  unfold Zda at h
  cases h
  exact hk x n hx h0 h1 w
theorem Ze6{p:Bool×Bool}(h:p.1=p.2):Z4 [p]:=fun x hx=>by rw[List.mem_singleton.1 hx];exact h
theorem ZN{p:Bool×Bool}{l:Log}(h:p.1=p.2)(hl:Z4 l):Z4(p::l):=fun x hx=>by
 rcases List.mem_cons.1 hx with rfl | hx
 ·exact h
 ·exact hl x hx
def lu(n:Int):Bool×Bool:=(decide(prt n<0),false)
def ld(n:Int):Bool×Bool:=(decide(rem n<0),false)
def lq(n k:Int):Log:=[(decide((64:Int)=0),false),(decide(IntKind.i64.wrap(n.tdiv 64)=k),true),(decide(n≥256),false),(decide(n<1),false)]
theorem ZuQ(x:W4)(n:Int):Z7(Zn(Zi Tryz.prog Zf Zo true) 3000 74 [vW x,.int .i64 n] [tst true])(vW x) [(decide(n<1),true)]:=⟨by kernel_rfl,by kernel_rfl,by kernel_rfl,by kernel_rfl⟩
theorem ZpD(x:W4)(n:Int):Z7(Zn(Zi Tryz.prog Zf Zo true) 3000 74 [vW x,.int .i64 n] [tst false,tst true])(vW⟨0,0,0,0⟩) [(decide(n≥256),true),(decide(n<1),false)]:=⟨by kernel_rfl,by kernel_rfl,by kernel_rfl,by kernel_rfl⟩
theorem Z54(x:W4)(n:Int):Z7(Zn(Zi Tryz.prog Zf Zo true) 3000 74 [vW x,.int .i64 n] [tst false,tst false,num 0])(vW(ZzD x n))(ld n::lu n::ld n::lu n::ld n::lu n::lu n::lq n 0):=⟨by kernel_rfl,by kernel_rfl,by kernel_rfl,by kernel_rfl⟩
theorem Z55(x:W4)(n:Int):Z7(Zn(Zi Tryz.prog Zf Zo true) 3000 74 [vW x,.int .i64 n] [tst false,tst false,num 1])(vW(ZzE x n))(ld n::lu n::ld n::lu n::lu n::lq n 1):=⟨by kernel_rfl,by kernel_rfl,by kernel_rfl,by kernel_rfl⟩
theorem Z56(x:W4)(n:Int):Z7(Zn(Zi Tryz.prog Zf Zo true) 3000 74 [vW x,.int .i64 n] [tst false,tst false,num 2])(vW(ZzF x n))(ld n::lu n::lu n::lq n 2):=⟨by kernel_rfl,by kernel_rfl,by kernel_rfl,by kernel_rfl⟩
theorem Z57(x:W4)(n:Int):Z7(Zn(Zi Tryz.prog Zf Zo true) 3000 74 [vW x,.int .i64 n] [tst false,tst false,num 3])(vW(ZzG x n))(lu n::lq n 3):=⟨by kernel_rfl,by kernel_rfl,by kernel_rfl,by kernel_rfl⟩
def Ze7(x:W4)(n:Int):W4:=if n<1 then x else if 256≤n then⟨0,0,0,0⟩ else W4.of(x.val*2^n.toNat)
def ZlS(x:W4)(n:Int):Value:=vW(Ze7 x n)
theorem ZuR{n:Int}(h:0≤n):(lu n).1=(lu n).2:=by
 have:=Zll h
 exact decide_eq_false(by omega)
theorem Z0n{n:Int}(h:0≤n):(ld n).1=(ld n).2:=by
 have:=ZsD h
 exact decide_eq_false(by omega)
theorem Zg2{n k:Int}(h1:¬ n<1)(h2:¬ 256≤n)(h3:n/64=k):Z4(lq n k):=by
 refine ZN(by rfl)(ZN(decide_eq_true ?_)(ZN(decide_eq_false h2)(Ze6(decide_eq_false h1))))
 rw[Int.tdiv_eq_ediv_of_nonneg(by omega),ZbF(by omega)(by omega)]
 exact h3
theorem ZdY(x:W4)(n:Int)(hx:x.ok)(_h0: -9223372036854775808≤n)(_h9:n≤9223372036854775807)(w:World):Calls Tryz.prog 74 #[vW x,.int .i64 n] w fun e w'=>e= .returned(ZlS x n)∧Zad w w':=by
 unfold ZlS Ze7
 by_cases h1:n<1
 ·rw[if_pos h1]
  exact Zc(Zk Zd)(ZuQ x n)(Ze6(decide_eq_true h1))(by rfl)(by rfl) w
 ·rw[if_neg h1]
  by_cases h2:256≤n
  ·rw[if_pos h2]
   exact Zc(Zk Zd)(ZpD x n)(ZN(decide_eq_true h2)(Ze6(decide_eq_false h1)))(by rfl)(by rfl) w
  ·rw[if_neg h2]
   have hn:0≤n:=by omega
   have u:=ZuR hn
   have d:=Z0n hn
   have hj:n/64=0∨n/64=1∨n/64=2∨n/64=3:=by omega
   rcases hj with hj | hj | hj | hj
   ·rw[← Zub hx hn hj]
    exact Zc(Zk Zd)(Z54 x n)(ZN d(ZN u(ZN d(ZN u(ZN d(ZN u(ZN u(Zg2 h1 h2 hj))))))))(by rfl)(by rfl) w
   ·rw[← Zuc hx hn hj]
    exact Zc(Zk Zd)(Z55 x n)(ZN d(ZN u(ZN d(ZN u(ZN u(Zg2 h1 h2 hj))))))(by rfl)(by rfl) w
   ·rw[← Zud hx hn hj]
    exact Zc(Zk Zd)(Z56 x n)(ZN d(ZN u(ZN u(Zg2 h1 h2 hj))))(by rfl)(by rfl) w
   ·rw[← Zue hx hn hj]
    exact Zc(Zk Zd)(Z57 x n)(ZN u(Zg2 h1 h2 hj))(by rfl)(by rfl) w
def Zhs:Con:=alt 74(g1n(Zda ZlS)) Zo
theorem ZbX:ConOk Zhs:=ZA Tryz.func74 rfl(ZbW ZdY) Zd
def lk(x:W4)(n:Int):Bool×Bool:=(decide(x.ok∧ -9223372036854775808≤n∧n≤9223372036854775807),true)
def Z45(m x:W4)(n:Int):Value:= .tuple #[vW m,.bool(!(eqW(Ze7 m n) x))]
theorem ZuS(x:W4)(n:Int):Z7(Zn(Zi Tryz.prog Zf Zhs true) 3000 125 [vW x,.int .i64 n] [tst true])(.tuple #[vW x,.bool false]) [(decide(n<1),true)]:=⟨by kernel_rfl,by kernel_rfl,by kernel_rfl,by kernel_rfl⟩
theorem ZpE(x:W4)(n:Int):Z7(Zn(Zi Tryz.prog Zf Zhs true) 3000 125 [vW x,.int .i64 n] [tst false,tst true])(.tuple #[vW⟨0,0,0,0⟩,.bool(!(eqW x⟨0,0,0,0⟩))]) [(decide(n≥256),true),(decide(n<1),false)]:=⟨by kernel_rfl,by kernel_rfl,by kernel_rfl,by kernel_rfl⟩
theorem Z58(x:W4)(n:Int):Z7(Zn(Zi Tryz.prog Zf Zhs true) 3000 125 [vW x,.int .i64 n] [tst false,tst false,num 0])(Z45(Zuf x n) x n)(lk(Zuf x n) n::lu n::ld n::lu n::ld n::lu n::ld n::lu n::lq n 0):=⟨by kernel_rfl,by kernel_rfl,by kernel_rfl,by kernel_rfl⟩
theorem Z59(x:W4)(n:Int):Z7(Zn(Zi Tryz.prog Zf Zhs true) 3000 125 [vW x,.int .i64 n] [tst false,tst false,num 1])(Z45(Zug x n) x n)(lk(Zug x n) n::lu n::ld n::lu n::ld n::lu n::lq n 1):=⟨by kernel_rfl,by kernel_rfl,by kernel_rfl,by kernel_rfl⟩
theorem Z5A(x:W4)(n:Int):Z7(Zn(Zi Tryz.prog Zf Zhs true) 3000 125 [vW x,.int .i64 n] [tst false,tst false,num 2])(Z45(Zuh x n) x n)(lk(Zuh x n) n::lu n::ld n::lu n::lq n 2):=⟨by kernel_rfl,by kernel_rfl,by kernel_rfl,by kernel_rfl⟩
theorem Z5B(x:W4)(n:Int):Z7(Zn(Zi Tryz.prog Zf Zhs true) 3000 125 [vW x,.int .i64 n] [tst false,tst false,num 3])(Z45(Zui x n) x n)(lk(Zui x n) n::lu n::lq n 3):=⟨by kernel_rfl,by kernel_rfl,by kernel_rfl,by kernel_rfl⟩
def Zj7(x:W4)(n:Int):W4:=if n<1 then x else if 256≤n then⟨0,0,0,0⟩ else W4.of(x.val/2^n.toNat)
def ZgU(x:W4)(n:Int):Bool:=if n<1 then false else if 256≤n then decide(x.val≠0) else decide(x.val % 2^n.toNat≠0)
def Z0o(x:W4)(n:Int):Value:= .tuple #[vW(Zj7 x n),.bool(ZgU x n)]
theorem ZpF{x:W4}(hx:x.ok):(!(eqW x⟨0,0,0,0⟩))=decide(x.val≠0):=by
 rw[Bool.eq_iff_iff]
 simp only[Bool.not_eq_true',decide_eq_true_eq,← Bool.not_eq_true,Zf0]
 constructor
 ·intro h h0
  exact h(W4.val_inj hx⟨z64,z64,z64,z64⟩(h0.trans(by rfl)))
 ·intro h h0
  exact h(by rw[h0];rfl)
theorem lost_iff{x:W4}(hx:x.ok){n:Int}(h1:¬ n<1)(h2:¬ 256≤n):(!(eqW(Ze7(W4.of(x.val/2^n.toNat)) n) x))=decide(x.val % 2^n.toNat≠0):=by
 have hp:(0:Int)<2^n.toNat:=Int.pow_pos(by omega)
 have b:=W4.val_bd hx
 have hm:=Int.mul_ediv_add_emod x.val(2^n.toNat)
 have h3:=Int.emod_nonneg x.val(Int.ne_of_gt hp)
 have h4:0≤x.val/2^n.toNat:=Int.ediv_nonneg b.1(by omega)
 have h5:x.val/2^n.toNat≤x.val:=by
  have:=Zcx 1(2^n.toNat)(x.val/2^n.toNat) h4(by omega)
  rw[Int.mul_one,Int.mul_comm] at this
  omega
 have e:Ze7(W4.of(x.val/2^n.toNat)) n=W4.of(x.val-x.val % 2^n.toNat):=by
  unfold Ze7
  rw[if_neg h1,if_neg h2,W4.val_of,Int.emod_eq_of_lt h4(by omega),Int.mul_comm]
  congr 1
  omega
 rw[e,Bool.eq_iff_iff]
 simp only[Bool.not_eq_true',decide_eq_true_eq,← Bool.not_eq_true,Zf0]
 generalize x.val % 2^n.toNat=l at*
 have h6:0≤2^n.toNat*(x.val/2^n.toNat):=Int.mul_nonneg(by omega) h4
 constructor
 ·intro h h0
  apply h
  rw[h0,Int.sub_zero,W4.of_val hx]
 ·intro h h0
  have h7:=congrArg W4.val h0
  rw[W4.val_of,Int.emod_eq_of_lt(by omega)(by omega)] at h7
  omega
theorem ZpG{x:W4}{n:Int}(h:x.ok)(h0: -9223372036854775808≤n)(h9:n≤9223372036854775807):(lk x n).1=(lk x n).2:=by
 unfold lk
 exact decide_eq_true⟨h,h0,h9⟩
set_option maxRecDepth 100000 in
theorem ZlT(x:W4)(n:Int)(hx:x.ok)(h0: -9223372036854775808≤n)(h9:n≤9223372036854775807)(w:World):Calls Tryz.prog 125 #[vW x,.int .i64 n] w fun e w'=>e= .returned(Z0o x n)∧Zad w w':=by
 unfold Z0o Zj7 ZgU
 by_cases h1:n<1
 ·rw[if_pos h1,if_pos h1]
  exact Zc(Zk ZbX)(ZuS x n)(Ze6(decide_eq_true h1))(by rfl)(by rfl) w
 ·rw[if_neg h1,if_neg h1]
  by_cases h2:256≤n
  ·rw[if_pos h2,if_pos h2,← ZpF hx]
   exact Zc(Zk ZbX)(ZpE x n)(ZN(decide_eq_true h2)(Ze6(decide_eq_false h1)))(by rfl)(by rfl) w
  ·rw[if_neg h2,if_neg h2]
   have hn:0≤n:=by omega
   have u:=ZuR hn
   have d:=Z0n hn
   have hl:=lost_iff hx h1 h2
   have hj:n/64=0∨n/64=1∨n/64=2∨n/64=3:=by omega
   rw[← hl]
   rcases hj with hj | hj | hj | hj
   ·obtain⟨e1,e2⟩:=Zlo hx hn hj
    rw[← e1]
    exact Zc(Zk ZbX)(Z58 x n)(ZN(ZpG e2 h0 h9)(ZN u(ZN d(ZN u(ZN d(ZN u(ZN d(ZN u(Zg2 h1 h2 hj)))))))))(by rfl)(by rfl) w
   ·obtain⟨e1,e2⟩:=Zlp hx hn hj
    rw[← e1]
    exact Zc(Zk ZbX)(Z59 x n)(ZN(ZpG e2 h0 h9)(ZN u(ZN d(ZN u(ZN d(ZN u(Zg2 h1 h2 hj)))))))(by rfl)(by rfl) w
   ·obtain⟨e1,e2⟩:=Zlq hx hn hj
    rw[← e1]
    exact Zc(Zk ZbX)(Z5A x n)(ZN(ZpG e2 h0 h9)(ZN u(ZN d(ZN u(Zg2 h1 h2 hj)))))(by rfl)(by rfl) w
   ·obtain⟨e1,e2⟩:=Zlr hx hn hj
    rw[← e1]
    exact Zc(Zk ZbX)(Z5B x n)(ZN(ZpG e2 h0 h9)(ZN u(Zg2 h1 h2 hj)))(by rfl)(by rfl) w
def Zj8(b:Bool):List Dec→Bool×List Dec×Log
 | .inr(.inr(.inr(.inl d)))::s=>(d,s,[(b,d)])
 | s=>(b,s,[])
theorem ZpH{b:Bool}{s:List Dec}(h:Z4(Zj8 b s).2.2):(Zj8 b s).1=b:=by
 unfold Zj8 at*
 split at h
 ·rename_i d s
  exact(h(b,d)(List.mem_singleton.2 rfl)).symm
 ·rfl
def Z5C:W4→Int→List Dec→Option(Value×List Dec×Log):=fun x n s=>some(.tuple #[vW(Zj7 x n),.bool(Zj8(ZgU x n) s).1],(Zj8(ZgU x n) s).2.1,(Zj8(ZgU x n) s).2.2)
theorem ZuT:ZT 125(g1n Z5C):=ZsU fun x n hx h0 h1 s v s' lg h hl w=>by
 unfold Z5C at h
 cases h
 rw[ZpH hl]
 exact ZlT x n hx h0 h1 w
end Go.Proofs.YtjlponbdflkbjaaGreatDoor
namespace Go.Rd
open Go.Rn Go.Nt
def bt(b:Bool):Nat:=match b with | true=>1 | false=>0
def loW(T:Nat):Nat:=(db 4294967296 T).length-8
def hiS(T:Nat):Nat:=T/2^(32*loW T)
def hiM(T:Nat)(m:Bool):Bool:=m || decide(T % 2^(32*loW T)≠0)
def hiE(T:Nat)(e:Int):Int:=e+32*(loW T:Nat)
theorem zK(k:Nat):(4294967296:Nat)^k=2^(32*k):=by rw[Nat.pow_mul]
theorem Z5D(T:Nat):hiS T<2^256:=by
 unfold hiS
 rw[Nat.div_lt_iff_lt_mul(Nat.pow_pos(by omega)),← Nat.pow_add]
 have h1:=Zbm(b:=4294967296)(by omega)(db 4294967296 T)(Zfy(by omega) T)
 rw[Zb0(by omega) T,zK] at h1
 exact Nat.lt_of_lt_of_le h1(Nat.pow_le_pow_right(by omega)(by unfold loW;omega))
theorem Z0p{T:Nat}(h:loW T≠0):2^53≤hiS T:=by
 unfold hiS
 rw[Nat.le_div_iff_mul_le(Nat.pow_pos(by omega)),← Nat.pow_add]
 rcases Nat.lt_or_ge T(2^(53+32*loW T)) with h1 | h1
 ·exfalso
  have h2:T<4294967296^(loW T+7):=by
   rw[zK]
   exact Nat.lt_of_lt_of_le h1(Nat.pow_le_pow_right(by omega)(by omega))
  have:=ZaY(b:=4294967296)(by omega) _ _ h2
  unfold loW at*
  omega
 ·exact h1
theorem ZpI{m:Int}{n:Bool}{T:Nat}{b:Bool}{e:Int}:rnP m n(2*hiS T+bt(hiM T b))(hiE T e-1)=rnP m n(2*T+bt b)(e-1)∧rnF m n(2*hiS T+bt(hiM T b))(hiE T e-1)=rnF m n(2*T+bt b)(e-1):=by
 by_cases h0:loW T=0
 ·have e1:hiS T=T:=by unfold hiS;rw[h0,Nat.mul_zero,Nat.pow_zero,Nat.div_one]
  have e2:hiM T b=b:=by unfold hiM;rw[h0,Nat.mul_zero,Nat.pow_zero,Nat.mod_one];cases b<;>rfl
  have e3:hiE T e=e:=by unfold hiE;rw[h0];omega
  rw[e1,e2,e3]
  exact⟨rfl,rfl⟩
 ·have hp:0<2^(32*loW T):=Nat.pow_pos(by omega)
  have hbt:bt b≤1:=by cases b<;>decide
  have d1:(2*T+bt b)/2^(32*loW T+1)=hiS T:=by
   unfold hiS
   rw[Nat.pow_succ,Nat.mul_comm(2^(32*loW T)) 2,← Nat.div_div_eq_div_mul]
   congr 1
   omega
  have d2:(2*T+bt b) % 2^(32*loW T+1)=2*(T % 2^(32*loW T))+bt b:=by
   rw[Nat.pow_succ,Nat.mul_comm(2^(32*loW T)) 2,Nat.mod_mul,show(2*T+bt b)/2=T by omega]
   omega
  have st:stk(2*T+bt b)(32*loW T+1)=2*hiS T+bt(hiM T b):=by
   unfold stk
   rw[d1,d2]
   congr 1
   unfold hiM
   cases b with
   | true=>rw[if_neg(by simp [bt])];rfl
   | false=>
    by_cases hz:T % 2^(32*loW T)=0
    ·rw[if_pos(by rw[hz];rfl),decide_eq_false(fun h=>h hz)];rfl
    ·rw[if_neg(by simp [bt];omega),decide_eq_true hz];rfl
  have hb:=Zct(Z0p h0)
  have r:=Zcz(m:=m)(neg:=n)(A:=2*T+bt b)(d:=32*loW T+1)(F:=e-1)(.inr(by rw[d1];omega))
  rw[st,show e-1+((32*loW T+1:Nat):Int)-1=hiE T e-1 by unfold hiE;omega] at r
  exact r
def upT(A B:Nat):Nat:=((bitLen B:Int)+128-(bitLen A:Int)).toNat
theorem Zi2{A B:Nat}(hA:A≠0)(hB:B≠0):54≤bitLen(A*2^upT A B/B):=by
 refine Zct(k:=53) ?_
 rw[Nat.le_div_iff_mul_le(by omega)]
 have h1:=(bitLen_spec A).2 hA
 have h2:=(bitLen_spec B).1
 have h3:=Za1 hA
 have h4:bitLen B+128≤upT A B+bitLen A:=by unfold upT;omega
 refine Nat.le_trans(Nat.mul_le_mul_left _(Nat.le_of_lt h2)) ?_
 rw[← Nat.pow_add]
 refine Nat.le_trans(Nat.pow_le_pow_right(by omega)(show 53+bitLen B≤(bitLen A-1)+upT A B by omega)) ?_
 rw[Nat.pow_add]
 exact Nat.mul_le_mul_right _ h1
def teT(A:Nat)(j:Int):Nat:=if 0≤j then A*10^j.toNat else A*2^upT A(10^(-j).toNat)/10^(-j).toNat
def teM(A:Nat)(j:Int):Bool:=if 0≤j then false else decide(A*2^upT A(10^(-j).toNat) % 10^(-j).toNat≠0)
def teE(A:Nat)(j:Int):Int:=if 0≤j then 0 else -((upT A(10^(-j).toNat):Nat):Int)
theorem ZpJ{m:Int}{n:Bool}{A:Nat}{j:Int}(hA:A≠0):rnP m n(2*hiS(teT A j)+bt(hiM(teT A j)(teM A j)))(hiE(teT A j)(teE A j)-1)=deP m n A j∧rnF m n(2*hiS(teT A j)+bt(hiM(teT A j)(teM A j)))(hiE(teT A j)(teE A j)-1)=deF m n A j:=by
 obtain⟨h1,h2⟩:=ZpI(m:=m)(n:=n)(T:=teT A j)(b:=teM A j)(e:=teE A j)
 rw[h1,h2]
 unfold teT teM teE
 by_cases hj:0≤j
 ·rw[if_pos hj,if_pos hj,if_pos hj]
  have p:=ZaB m n(A*10^j.toNat) 1 0
  have f:=ZaC m n(A*10^j.toNat) 1 0
  obtain⟨q1,q2⟩:=ZsM m n(A*10^j.toNat)
  rw[show 2*(A*10^j.toNat)+bt false=A*10^j.toNat*2^1 by simp only[bt];omega]
  unfold deP deF
  rw[show(-j).toNat=0 by omega,Nat.pow_zero,q1,q2]
  exact⟨p,f⟩
 ·rw[if_neg hj,if_neg hj,if_neg hj]
  have hB:=ZbI(-j).toNat
  have r:=Zl5(m:=m)(n:=n) hA hB(Zi2 hA hB)
  have e:2*(A*2^upT A(10^(-j).toNat)/10^(-j).toNat)+bt(decide(A*2^upT A(10^(-j).toNat) % 10^(-j).toNat≠0))=dvK A(10^(-j).toNat)(upT A(10^(-j).toNat)):=by
   unfold dvK
   congr 1
   by_cases hz:A*2^upT A(10^(-j).toNat) % 10^(-j).toNat=0
   ·rw[if_pos hz,decide_eq_false(fun h=>h hz)];rfl
   ·rw[if_neg hz,decide_eq_true hz];rfl
  rw[e]
  unfold deP deF
  rw[show j.toNat=0 by omega,Nat.pow_zero,Nat.mul_one]
  exact r
def noS(b:Int)(D:List UInt8)(k P:Int):Nat:=if b=16 then nmB 16(shR 60 D) else hiS(teT(nmB 10(shR 800 D))(clF(k+P)-((shR 800 D).length:Nat)))
def noM(b:Int)(D:List UInt8)(k P:Int):Bool:=if b=16 then false else hiM(teT(nmB 10(shR 800 D))(clF(k+P)-((shR 800 D).length:Nat)))(teM(nmB 10(shR 800 D))(clF(k+P)-((shR 800 D).length:Nat)))
def noE(b:Int)(D:List UInt8)(k P:Int):Int:=if b=16 then P+4*(k-((shR 60 D).length:Nat)) else hiE(teT(nmB 10(shR 800 D))(clF(k+P)-((shR 800 D).length:Nat)))(teE(nmB 10(shR 800 D))(clF(k+P)-((shR 800 D).length:Nat)))
theorem ZlU(k:Nat)(D:List UInt8):(shR k D).length≤k+1:=by
 unfold shR
 split
 ·omega
 ·rw[List.length_append,List.length_take,List.length_singleton];omega
theorem Z0q(b:Int)(D:List UInt8)(k P:Int):noS b D k P<2^256:=by
 unfold noS
 split
 ·refine Nat.lt_of_lt_of_le(ZdU(.inr rfl) _)(Nat.pow_le_pow_right(by omega) ?_)
  have:=ZlU 60 D
  omega
 ·exact Z5D _
theorem ZpK{m:Int}{n:Bool}{b:Int}(hb:b=10∨b=16){l:List UInt8}(hl:l.length≤10000)(ha:zi b l=true)(hz:trZ l≠[]){k:Nat}(hk:k≤l.length){P Q:Int}(hP:Zgy Q P):
  rnP m n(2*noS b(nuD l)(((trZ l).length:Nat)-(k:Int)) Q+bt(noM b(nuD l)(((trZ l).length:Nat)-(k:Int)) Q))(noE b(nuD l)(((trZ l).length:Nat)-(k:Int)) Q-1)=rnP m n(dnA b(trZ l) k P).1(dnA b(trZ l) k P).2∧rnF m n(2*noS b(nuD l)(((trZ l).length:Nat)-(k:Int)) Q+bt(noM b(nuD l)(((trZ l).length:Nat)-(k:Int)) Q))(noE b(nuD l)(((trZ l).length:Nat)-(k:Int)) Q-1)=rnF m n(dnA b(trZ l) k P).1(dnA b(trZ l) k P).2:=by
 unfold noS noM noE
 rcases hb with rfl | rfl
 ·rw[if_neg(by decide),if_neg(by decide),if_neg(by decide)]
  have hA:nmB 10(shR 800(nuD l))≠0:=by
   obtain⟨c,r,hT⟩:∃ c r,trZ l=c::r:=by
    cases h:trZ l with
    | nil=>exact absurd h hz
    | cons c r=>exact⟨c,r,rfl⟩
   have hc:=ZaO ha hT
   obtain⟨r',hr'⟩:=Zc5(b:=10)(r:=r) hc
   obtain⟨r2,hr2⟩:∃ r2,shR 800(nuD l)=c::r2:=by
    unfold nuD shR
    rw[hT,hr']
    split
    ·exact⟨_,rfl⟩
    ·exact⟨_,rfl⟩
   have:=Zbp(b:=10)(.inl rfl)(r:=r2) hc
   rw[hr2];omega
  obtain⟨t1,t2⟩:=ZpJ(m:=m)(n:=n)(j:=clF(((trZ l).length:Nat)-(k:Int)+Q)-((shR 800(nuD l)).length:Nat)) hA
  obtain⟨d1,d2⟩:=Zp4(m:=m)(n:=n) hl ha hz hk hP
  exact⟨t1.trans d1,t2.trans d2⟩
 ·rw[if_pos rfl,if_pos rfl,if_pos rfl]
  have h:=Zp3(m:=m)(n:=n) hl ha hz hk hP
  obtain⟨A,hA⟩:∃ A,A=nmB 16(shR 60(nuD l)):=⟨_,rfl⟩
  obtain⟨E,hE⟩:∃ E,E=Q+4*(((trZ l).length:Nat)-(k:Int)-((shR 60(nuD l)).length:Nat)):=⟨_,rfl⟩
  rw[← hA,← hE] at h
  rw[← hA,← hE]
  have p:=ZaB m n A 1 E
  have f:=ZaC m n A 1 E
  rw[show 2*A+bt false=A*2^1 by simp only[bt];omega]
  exact⟨p.trans h.1,f.trans h.2⟩
end Go.Rd
namespace Go.Proofs.YtjlponbdflkbjaaGreatDoor
open Go.KRun Go.Nt Go.Rd Go.Wd
set_option maxRecDepth 100000
theorem sh1(D:List UInt8)(k:Int):Z7(Zn(Zi Tryz.prog Zf Zo true) 100 33 [bR D,.int .i64 k] [cmp true])(bR D) [(decide(((D.length:Nat):Int)≤k),true)]:=⟨by kernel_rfl,by kernel_rfl,by kernel_rfl,by kernel_rfl⟩
theorem sh2(D:List UInt8)(k:Int):Z7(Zn(Zi Tryz.prog Zf Zo true) 100 33 [bR D,.int .i64 k] [cmp false,sam true,sam true])(bR(D.take k.toNat++[49])) [(decide((D.take k.toNat).length+1≤9223372036854775807),true),(decide(0≤k∧k≤(D.length:Nat)),true),(decide(((D.length:Nat):Int)≤k),false)]:=⟨by kernel_rfl,by kernel_rfl,by kernel_rfl,by kernel_rfl⟩
def Z5E:Ans:=fun vals s=>
 match vals with
 | [.string a,.int .i64 k]=>some(bR(shR k.toNat a.data.toList),s,[(decide(0≤k∧k≤1000∧a.data.toList.length≤100000),true)])
 | _=>none
theorem ZuU:ZT 33 Z5E:=by
 intro vals s v s' lg h hl w
 unfold Z5E at h
 split at h
 ·rename_i a k
  cases h
  have q:=of_decide_eq_true(hl _(List.mem_singleton.2 rfl))
  have hT:=Zk Zd
  unfold shR
  by_cases h1:((a.data.toList.length:Nat):Int)≤k
  ·rw[if_pos(by omega)]
   exact Zc hT(sh1 a.data.toList k)(Z3(decide_eq_true h1))(by rfl)(by rfl) w
  ·rw[if_neg(by omega)]
   exact Zc hT(sh2 a.data.toList k)(Za(decide_eq_true(by rw[List.length_take];omega))(Za(decide_eq_true(by omega))(Z3(decide_eq_false h1))))(by rfl)(by rfl) w
 ·cases h
def Zg3:Con:=alt 74(g1n(Zda ZlS))(alt 73(g2(Zi1 ZuP))(alt 69 Z0a Zo))
theorem Zi3:ConOk Zg3:=ZA Tryz.func74 rfl(ZbW ZdY)(ZA Tryz.func73 rfl(Zg0 Zg1)(ZA Tryz.func69 rfl Zhq Zd))
def sxI(F:Func):Code:=Z5(sP F 2)
def sxL(F:Func):Code:=cIn(cIn(Z0(sP F 2)))
theorem ZuV:Tryz.f34.body=some(za [sP Tryz.f34 0,sP Tryz.f34 1](.seq(.seq(sxI Tryz.f34)(.block 0(.loop(sxL Tryz.f34))))(sK Tryz.f34 3))):=by kernel_rfl
def wB9(x:W4):List Value×TypeId:=([.int .u64 x.a,.int .u64 x.b,.int .u64 x.c,.int .u64 x.d],51)
def sxM(x:W4):Hp:=⟨2,[wB9 x,wB9⟨0,0,0,0⟩]⟩
def sxF(D:List UInt8)(v4:Value)(i:Int):List Value:=[bR D,undef,pO 0,pO 1,v4,bR D,.int .i64(D.length:Nat),.int .i64 i]
theorem Z0r(D:List UInt8):Zg(evL(Zi Tryz.prog Zf Zg3 true) 100 [sP Tryz.f34 0,sP Tryz.f34 1]([bR D]++List.replicate 23 undef,⟨0,[]⟩,[])⟨[],[],[]⟩) 5 19 none [bR D,undef,pO 0,pO 1,undef](sxM⟨0,0,0,0⟩) []:=⟨by kernel_rfl,by kernel_rfl,by kernel_rfl⟩
theorem Z9q(D:List UInt8)(g:Nat→Value):Zg(evC(Zi Tryz.prog Zf Zg3 true) 100 false(sxI Tryz.f34)([bR D,undef,pO 0,pO 1,undef]++tl 19 g,sxM⟨0,0,0,0⟩,[])⟨[],[],[]⟩) 8 16 none(sxF D undef 0)(sxM⟨0,0,0,0⟩) []:=⟨by kernel_rfl,by kernel_rfl,by kernel_rfl⟩
theorem Z9r(D:List UInt8)(x:W4)(v4:Value)(i:Int)(g:Nat→Value):Zg(evC(Zi Tryz.prog Zf Zg3 true) 100 false(sxL Tryz.f34)(sxF D v4 i++tl 16 g,sxM x,[cmp false])⟨[],[],[]⟩) 8 16(some(some 0))(sxF D v4 i)(sxM x) [(decide(i<(D.length:Nat)),false)]:=⟨by kernel_rfl,by kernel_rfl,by kernel_rfl⟩
theorem Z9s(D:List UInt8)(x:W4)(v4:Value)(i:Int)(g:Nat→Value):Zg(evC(Zi Tryz.prog Zf Zg3 true) 100 false(sK Tryz.f34 3)(sxF D v4 i++tl 16 g,sxM x,[])⟨[],[],[]⟩) 3 21(some none) [bR D,undef,pO 0]⟨2,[wB9 x,wB9 x]⟩ []:=⟨by kernel_rfl,by kernel_rfl,by kernel_rfl⟩
def wD9(d:Int):W4:=⟨IntKind.u64.wrap d,0,0,0⟩
theorem Z9t(D:List UInt8)(x:W4)(v4:Value)(i:Int)(g:Nat→Value):Zg(evC(Zi Tryz.prog Zf Zg3 true) 100 false(sxL Tryz.f34)(sxF D v4 i++tl 16 g,sxM x,[cmp true])⟨[],[],[]⟩) 8 16 none(sxF D(.int .i64 i)(IntKind.i64.wrap(i+1)))(sxM(W4.of((Ze7 x 4).val+(wD9(dvB(byR D i))).val))) [(decide((Ze7 x 4).ok∧(wD9(dvB(byR D i))).ok),true),(decide(0≤byR D i∧byR D i<256),true),(decide(x.ok∧(-9223372036854775808:Int)≤4∧(4:Int)≤9223372036854775807),true),(decide(0≤i∧i.toNat<D.length),true),(decide(i<(D.length:Nat)),true)]:=⟨by kernel_rfl,by kernel_rfl,by kernel_rfl⟩
theorem Z0s{X d:Nat}(hX:X*16+d<2^256)(hd:d<16):(Ze7(ofN X) 4).ok∧(wD9(d:Nat)).ok∧W4.of((Ze7(ofN X) 4).val+(wD9(d:Nat)).val)=ofN(X*16+d):=by
 have h2:(2:Nat)^256=115792089237316195423570985008687907853269984665640564039457584007913129639936:=rfl
 have hX2:X<2^256:=by omega
 have hv:(ofN X).val=(X:Int):=by rw[W4.nat_val(zJ X),Zbn hX2]
 have e1:Ze7(ofN X) 4=W4.of(((X*16:Nat)):Int):=by
  unfold Ze7
  rw[if_neg(by decide),if_neg(by decide),hv]
  congr 1
 have ew:IntKind.u64.wrap((d:Nat):Int)=(d:Int):=by
  simp [IntKind.wrap,IntKind.bits,IntKind.signed]
  omega
 have o2:(wD9(d:Nat)).ok∧(wD9(d:Nat)).val=(d:Int):=by
  unfold wD9
  rw[ew]
  refine⟨⟨⟨by dsimp only;omega,by dsimp only;omega⟩,⟨by dsimp only;omega,by dsimp only;omega⟩,⟨by dsimp only;omega,by dsimp only;omega⟩,⟨by dsimp only;omega,by dsimp only;omega⟩⟩,?_⟩
  unfold W4.val
  simp only[Int.mul_zero,Int.add_zero]
 refine⟨by rw[e1];exact W4.ok_of _,o2.1,?_⟩
 rw[e1,W4.val_of,o2.2,Int.emod_eq_of_lt(by omega)(by omega)]
 unfold ofN
 congr 1
def sxJ(D:List UInt8)(i:Nat)(y:Lf):Prop:=∃ (v4:Value)(g:Nat→Value),i≤D.length∧y.1=sxF D v4 i++tl 16 g∧y.2.1=sxM(ofN(nmB 16(D.take i)))
theorem ZpL{D:List UInt8}(h2:D.length≤62)(ha:zi 16 D=true)(r:Nat)(y:Lf)(h:∃ i,r=D.length-i∧sxJ D i y):
  Runs(Zi Tryz.prog Zf Zg3 true)(sxL Tryz.f34) y fun e z=>match e with | none=>∃ r',r'<r∧∃ i,r'=D.length-i∧sxJ D i z | some none=>False | some(some id')=>id'=0∧sxJ D D.length z:=by
 have hT:=Zk Zi3
 obtain⟨i,hr,v4,g,hi,ht,hh⟩:=h
 obtain⟨t,h',sc⟩:=y
 simp only at ht hh
 subst ht hh
 by_cases hc:i<D.length
 ·have lA:decide(((i:Nat):Int)<(D.length:Nat))=true:=decide_eq_true(by omega)
  have lI:decide((0:Int)≤(i:Nat)∧((i:Nat):Int).toNat<D.length)=true:=decide_eq_true⟨by omega,by rw[Int.toNat_natCast];exact hc⟩
  have ew:IntKind.i64.wrap(((i:Nat):Int)+1)=((i+1:Nat):Int):=by rw[Zw(by omega)(by omega)];omega
  have eC:lq8(D.getD i 0)=byR D(i:Nat):=by unfold lq8 byR;rw[Int.toNat_natCast]
  have hdg:0≤ZJ(lq8(D.getD i 0)) 16:=by
   unfold zi at ha
   refine of_decide_eq_true(List.all_eq_true.1 ha _ ?_)
   rw[List.getD_eq_getElem?_getD,List.getElem?_eq_getElem hc,Option.getD_some]
   exact List.getElem_mem hc
  have hlt:=(Zf4(lq8(D.getD i 0)) 16).2
  obtain⟨d,hd⟩:∃ d:Nat,d=(ZJ(lq8(D.getD i 0)) 16).toNat:=⟨_,rfl⟩
  have ed:dvB(byR D(i:Nat))=(d:Nat):=by rw[← eC,← ZlG hdg];omega
  have ht:=Zf5 16 D hc
  rw[← hd] at ht
  have hb:nmB 16(D.take i)*16+d<2^256:=by
   have h3:nmB 16(D.take i)*16+d=nmB 16(D.take(i+1)):=ht.symm
   rw[h3]
   refine Nat.lt_of_lt_of_le(ZdU(.inr rfl) _)(Nat.pow_le_pow_right(by omega) ?_)
   rw[List.length_take];omega
  obtain⟨n1,n2,n3⟩:=Z0s hb(by omega)
  have hg:=Z9t D(ofN(nmB 16(D.take i))) v4(i:Nat) g
  rw[ew,ed,n3] at hg
  refine(Zb(s0:=sc) hT hg(Za(decide_eq_true⟨n1,n2⟩)(Za(Zix D _)(Za(decide_eq_true⟨zJ _,by decide,by decide⟩)(Za lI(Z3 lA)))))).mono fun e z he=> ?_
  obtain⟨rfl,⟨g',z1⟩,z2⟩:=he
  refine⟨D.length-(i+1),by omega,i+1,rfl,_,g',by omega,z1,?_⟩
  rw[z2,show nmB 16(D.take(i+1))=nmB 16(D.take i)*16+d from ht]
 ·have:i=D.length:=by omega
  subst this
  refine(Zb(s0:=sc) hT(Z9r D _ v4(D.length:Nat) g)(Z3(decide_eq_false(by omega)))).mono fun e z he=> ?_
  obtain⟨rfl,⟨g',z1⟩,z2⟩:=he
  exact⟨rfl,v4,g',hi,z1,z2⟩
theorem ZpM(D:List UInt8)(hs:D.length≤62)(ha:zi 16 D=true)(w:World):Calls Tryz.prog 34 #[bR D] w fun r w'=>r= .returned(vW(ofN(nmB 16 D)))∧Zad w w':=by
 have hT:=Zk Zi3
 refine ZP(T:=Zi Tryz.prog Zf Zg3 true) Tryz.func34 ZuV(by rfl)(by rfl) ?_ w
 refine Zx hT(Z0r D) ZaZ fun g=> ?_
 refine Runs.seq(P1:=fun e y=>match e with | none=>sxJ D D.length y | some none=>False | some(some _)=>False) ?_ ?_ ?_
 ·refine Runs.seq(P1:=fun e y=>e=none∧∃ g',y.1=sxF D undef 0++tl 16 g'∧y.2.1=sxM⟨0,0,0,0⟩) ?_ ?_(fun e y he=>by cases he.1)
  ·refine(Zb hT(Z9q D g) ZaZ).mono fun e z he=> ?_
   obtain⟨rfl,⟨g',z1⟩,z2⟩:=he
   exact⟨rfl,g',z1,z2⟩
  ·rintro⟨t,hh,sc⟩⟨_,g',e1,e2⟩
   simp only at e1 e2
   subst e1 e2
   exact Runs.forLoop(R:=fun _=>False)(P:=sxJ D D.length)(fun r y=>∃ i,r=D.length-i∧sxJ D i y)(ZpL hs ha)(n:=D.length-0)⟨0,rfl,undef,g',Nat.zero_le _,rfl,by rw[show ofN(nmB 16(D.take 0))=⟨0,0,0,0⟩ from Zcy]⟩
 ·rintro⟨t,hh,sc⟩⟨v4,g',_,e1,e2⟩
  simp only at e1 e2
  subst e1 e2
  rw[List.take_length]
  refine(Zb(s0:=sc) hT(Z9s D _ v4 _ g') ZaZ).mono fun e z he=> ?_
  obtain⟨rfl,⟨g2,z1⟩,z2⟩:=he
  exact⟨.inr rfl,by rw[z1,z2];rfl⟩
 ·rintro e y he
  match e,he with
  | none,he=>exact he.elim
def Z5F:Ans:=fun vals s=>
 match vals with
 | [.string a]=>some(vW(ofN(nmB 16 a.data.toList)),s,[(zi 16 a.data.toList,true),(decide(a.data.toList.length≤62),true)])
 | _=>none
theorem ZuW:ZT 34 Z5F:=by
 intro vals s v s' lg h hl w
 unfold Z5F at h
 split at h
 ·rename_i a
  cases h
  have h1:zi 16 a.data.toList=true:=hl _ List.mem_cons_self
  have h2:=of_decide_eq_true(hl _(List.mem_cons_of_mem _(List.mem_singleton.2 rfl)))
  exact ZpM _ h2 h1 w
 ·cases h
end Go.Proofs.YtjlponbdflkbjaaGreatDoor
namespace Go.Proofs.YtjlponbdflkbjaaGreatDoor.Na
open Go.KRun
set_option maxRecDepth 100000
def uu(n:Int):Value:= .int .u32 n
def inR(i:Int)(n:Nat):Bool×Bool:=(decide(0≤i∧i<n),true)
def Zdu(l:List Value)(o:Nat)(i x:Int):Bool×Bool:=(Z6(l[o+i.toNat*1]?)(uu x),true)
end Go.Proofs.YtjlponbdflkbjaaGreatDoor.Na
namespace Go.Proofs.YtjlponbdflkbjaaGreatDoor
open Go.KRun Go.Nt
set_option maxRecDepth 100000
def wU(L:List Int):List Value:=L.map(Value.int .u32)
def tU:TypeId:=104
def tR:TypeId:=104+ZW
theorem ZpN:ro tR=true:=by kernel_rfl
theorem ZpO:ab tR=false:=by kernel_rfl
theorem Zbq:Zal tR=false:=by kernel_rfl
theorem ZpP:rt tR=tU:=by kernel_rfl
def sl(b o n c:Nat):Value:= .slice(some⟨b,o,none⟩) n c
def Zq:Value:= .slice none 0 0
def ZyV(F:Func):List Code:=[Z5(Zt F)]
def ZlV(F:Func):Code:=cIn(cIn(Z5(Z0(Zt F))))
def Z5G(F:Func):Code:=Z0(Z0(Zt F))
theorem ZlW:Tryz.f112.body=some(za(ZyV Tryz.f112)(.seq(.block 0(.loop(ZlV Tryz.f112)))(Z5G Tryz.f112))):=by kernel_rfl
theorem ZpQ(v:Value)(h:Hp):Zg(evL(Zi Tryz.prog Zf Zo true) 100(ZyV Tryz.f112)([v]++List.replicate 20 undef,h,[])⟨[],[],[]⟩) 3 18 none [v,undef,Zq] h []:=⟨by kernel_rfl,by kernel_rfl,by kernel_rfl⟩
def n1(n:Nat):Int:=IntKind.i64.wrap((n:Int)-1)
theorem ZuX(o n c:Nat)(x:Int)(l:List Value)(j1 j2:Value)(g:Nat→Value):GoesE(evC(Zi Tryz.prog Zf Zo true) 100 false(ZlV Tryz.f112)([sl 0 o n c,j1,j2]++tl 18 g,⟨1,[(l,tR)]⟩,[cmp true,at_,val(.int .u32 x),cmp true,num 0])⟨[],[],[]⟩) 3 18 none
  [sl 0 o(n1 n).toNat c,j1,j2]⟨1,[(l,tR)]⟩ [(ZB c,true),(ZS 0(n1 n) c c,true),(decide((c:Int)=0∧(0:Int)≠0),false),(x==0,true),(Z6(l[o+(n1 n).toNat*1]?)(.int .u32 x),true),(decide(0≤n1 n∧n1 n<n),true),(decide((n:Int)>0),true)]:=by unfold GoesE;kernel_rfl
theorem ZlX(j1 j2:Value)(p:Option Addr)(n c:Nat)(h:Hp)(g:Nat→Value):GoesE(evC(Zi Tryz.prog Zf Zo true) 100 false(ZlV Tryz.f112)([.slice p n c,j1,j2]++tl 18 g,h,[cmp false])⟨[],[],[]⟩) 3 18(some(some 0))
  [.slice p n c,j1,j2] h [(decide((n:Int)>0),false)]:=by unfold GoesE;kernel_rfl
theorem ZlY(o n c:Nat)(x:Int)(l:List Value)(j1 j2:Value)(g:Nat→Value):GoesE(evC(Zi Tryz.prog Zf Zo true) 100 false(ZlV Tryz.f112)([sl 0 o n c,j1,j2]++tl 18 g,⟨1,[(l,tR)]⟩,[cmp true,at_,val(.int .u32 x),cmp false])⟨[],[],[]⟩) 3 18(some(some 0))
  [sl 0 o n c,j1,j2]⟨1,[(l,tR)]⟩ [(x==0,false),(Z6(l[o+(n1 n).toNat*1]?)(.int .u32 x),true),(decide(0≤n1 n∧n1 n<n),true),(decide((n:Int)>0),true)]:=by unfold GoesE;kernel_rfl
theorem ZpR(v j1 j2:Value)(h:Hp)(g:Nat→Value):Zg(evC(Zi Tryz.prog Zf Zo true) 100 false(Z5G Tryz.f112)([v,j1,j2]++tl 18 g,h,[])⟨[],[],[]⟩) 3 18(some none) [v,j1,v] h []:=⟨by kernel_rfl,by kernel_rfl,by kernel_rfl⟩
def ZpS:Value→Int
 | .int _ n=>n
 | _=>0
def isU:Value→Bool
 | .int .u32 n=>decide(0≤n∧n<4294967296)
 | _=>false
theorem Zf8{v:Value}(h:isU v=true):v= .int .u32(ZpS v)∧0≤ZpS v∧ZpS v<4294967296:=by
 unfold isU at h
 split at h
 ·simp only[decide_eq_true_eq] at h
  exact⟨rfl,h.1,h.2⟩
 ·cases h
def Zb5(l:List Value)(o n:Nat):List Value:=(l.drop o).take n
def Zy(l:List Value)(o n:Nat):List Int:=(Zb5 l o n).map ZpS
def Z8(ty:TypeId)(l:List Value)(o n c:Nat):Bool:= !(Zal ty) && Nat.beq(rt ty) tU && Nat.ble(o+n) l.length && Nat.ble n c && ZB c && (Zb5 l o n).all isU && l.all still
theorem ZeU{l:List Value}{o n:Nat}(h:((Zb5 l o n).all isU)=true):Zb5 l o n=wU(Zy l o n):=by
 unfold wU Zy
 rw[List.map_map]
 refine(List.map_id' _).symm.trans(List.map_congr_left fun v hv=> ?_)
 exact(Zf8(List.all_eq_true.1 h v hv)).1
structure Row(l:List Value)(o:Nat)(L:List Int):Prop where
 len:o+L.length≤l.length
 cut:Zb5 l o L.length=wU L
 rng:∀ x∈L,0≤x∧x<4294967296
theorem Row.cell{l:List Value}{o:Nat}{L:List Int}(h:Row l o L){k:Nat}(hk:k<L.length):l[o+k]? =some(.int .u32(L.getD k 0)):=by
 have e:(Zb5 l o L.length)[k]? =(wU L)[k]? :=by rw[h.cut]
 unfold Zb5 wU at e
 rw[List.getElem?_take,if_pos hk,List.getElem?_drop,List.getElem?_map] at e
 rw[e,List.getElem?_eq_getElem hk]
 simp [List.getD,List.getElem?_eq_getElem hk]
theorem ZK{ty:TypeId}{l:List Value}{o n c:Nat}(h:Z8 ty l o n c=true):Row l o(Zy l o n)∧(Zy l o n).length=n∧n≤c∧ZB c=true∧Zal ty=false∧rt ty=tU∧∀ v∈l,still v=true:=by
 unfold Z8 at h
 simp only[Bool.and_eq_true,Bool.not_eq_true'] at h
 obtain⟨⟨⟨⟨⟨⟨h1,h2⟩,h3⟩,h4⟩,h5⟩,h6⟩,h7⟩:=h
 have h2:=Nat.eq_of_beq_eq_true h2
 have h3:=Nat.le_of_ble_eq_true h3
 have h4:=Nat.le_of_ble_eq_true h4
 have hlen:(Zy l o n).length=n:=by unfold Zy Zb5;simp;omega
 refine⟨⟨by rw[hlen];exact h3,by rw[hlen];exact ZeU h6,fun x hx=> ?_⟩,hlen,h4,h5,h1,h2,List.all_eq_true.1 h7⟩
 unfold Zy at hx
 obtain⟨v,hv,rfl⟩:=List.mem_map.1 hx
 have:=Zf8(List.all_eq_true.1 h6 v hv)
 exact⟨this.2.1,this.2.2⟩
theorem ZlZ{l:List Value}{o c:Nat}{L:List Int}(hR:Row l o L)(hc:ZB c=true)(hn:L.length≤c):
  Runs(Zi Tryz.prog Zf Zo true)(za(ZyV Tryz.f112)(.seq(.block 0(.loop(ZlV Tryz.f112)))(Z5G Tryz.f112)))([sl 0 o L.length c]++List.replicate 20 undef,⟨1,[(l,tR)]⟩,[]) fun e y=>(e=none∨e=some none)∧ZZ Tryz.prog Tryz.f112 y.1 y.2.1=some(sl 0 o(Zm L) c):=by
 have hc':c<4611686018427387904:=Zp.1 hc
 refine Zx(Zk Zd)(ZpQ _ _)(fun x hx=>by cases hx) fun g=> ?_
 refine Runs.seq(P1:=fun e y=>e=none∧(∃ g,y.1=[sl 0 o(Zm L) c,undef,Zq]++tl 18 g)∧y.2.1=⟨1,[(l,tR)]⟩) ?_ ?_(fun e y he=>by cases he.1)
 ·refine(Runs.forLoop(P:=fun y=>(∃ g,y.1=[sl 0 o(Zm L) c,undef,Zq]++tl 18 g)∧y.2.1=⟨1,[(l,tR)]⟩)(R:=fun _=>False)(fun n y=>(∃ g,y.1=[sl 0 o n c,undef,Zq]++tl 18 g)∧y.2.1=⟨1,[(l,tR)]⟩∧n≤L.length∧∀ i,n≤i→L.getD i 0=0) ?_(n:=L.length)⟨⟨g,rfl⟩,rfl,Nat.le_refl _,fun i hi=>by simp [List.getD,List.getElem?_eq_none hi]⟩).mono fun e y he=> ?_
  ·rintro n⟨t,h',s⟩⟨⟨g,ht⟩,hh,hle,hz⟩
   simp only at ht hh
   subst ht hh
   cases n with
   | zero=>
    refine(Zb(Zk Zd)(ZlX undef Zq(some⟨0,o,none⟩) 0 c _ g).t(Zu(by rfl))).mono fun e y he=> ?_
    obtain⟨rfl,⟨g',h2⟩,h3⟩:=he
    have e0:Zm L=0:=ZbT hz(.inl rfl)
    exact⟨rfl,⟨g',by rw[h2,e0];rfl⟩,h3⟩
   | succ k=>
    have ek:n1(k+1)=(k:Int):=by
     unfold n1
     rw[Zw(by omega)(by omega)]
     omega
    have hcell:=hR.cell(k:=k)(by omega)
    have hce:Z6(l[o+(n1(k+1)).toNat*1]?)(.int .u32(L.getD k 0))=true:=by
     rw[ek,Int.toNat_natCast,Nat.mul_one,hcell]
     simp [Z6]
    have hix:decide(0≤n1(k+1)∧n1(k+1)<((k+1:Nat):Int))=true:=by rw[ek];exact decide_eq_true(by omega)
    have hgt:decide(((k+1:Nat):Int)>0)=true:=decide_eq_true(by omega)
    by_cases hx:L.getD k 0=0
    ·refine(Zb(Zk Zd)(ZuX o(k+1) c(L.getD k 0) l undef Zq g).t(Zj hc(Zj(by
      unfold ZS
      rw[ek]
      exact decide_eq_true(by omega))(Zj(decide_eq_false(by omega))(Zj(by rw[hx];rfl)(Zj hce(Zj hix(Zu hgt)))))))).mono fun e y he=> ?_
     obtain⟨rfl,⟨g',h2⟩,h3⟩:=he
     rw[ek,Int.toNat_natCast] at h2
     refine⟨k,by omega,⟨g',h2⟩,h3,by omega,fun i hi=> ?_⟩
     rcases Nat.lt_or_ge k i with h | h
     ·exact hz i h
     ·have:i=k:=by omega
      rw[this];exact hx
    ·refine(Zb(Zk Zd)(ZlY o(k+1) c(L.getD k 0) l undef Zq g).t(Zj(by simpa using hx)(Zj hce(Zj hix(Zu hgt))))).mono fun e y he=> ?_
     obtain⟨rfl,⟨g',h2⟩,h3⟩:=he
     have e0:Zm L=k+1:=ZbT hz(.inr(by simpa using hx))
     exact⟨rfl,⟨g',by rw[h2,e0]⟩,h3⟩
  ·match e,he with
   | none,he=>exact⟨rfl,he⟩
 ·rintro⟨t,h',s⟩⟨_,⟨g',ht⟩,hh⟩
  simp only at ht hh
  subst ht hh
  refine(Zb(Zk Zd)(ZpR _ undef Zq _ g')(fun x hx=>by cases hx)).mono fun e y he=> ?_
  obtain⟨rfl,⟨g2,h2⟩,h3⟩:=he
  refine⟨.inr rfl,?_⟩
  rw[h2,h3]
  rfl
theorem ZaJ{l:List Value}(h:∀ v∈l,still v=true):(⟨1,[(l,tR)]⟩:Hp).rows:=by
 refine⟨rfl,fun b x hb=> ?_⟩
 have hb0:b=0:=by have:b<1:=Hp.blk_lt hb;omega
 subst hb0
 have:x=(l,tR):=(Option.some.inj hb).symm
 rw[this]
 exact⟨ZpN,h,ZpO⟩
theorem zO{l:List Value}{h:Hp}{b:Nat}{x:List Value×TypeId}(hb:h.blk? b=some x)(h1:Zal x.2=false)(h2:rt x.2=tU)(e:x.1=l):(⟨1,[(l,tR)]⟩:Hp).fits(fun _=>b) h:=by
 intro i y hi _
 have hb0:i=0:=by have:i<1:=Hp.blk_lt hi;omega
 subst hb0
 have:y=(l,tR):=(Option.some.inj hi).symm
 rw[this]
 exact⟨x,[],hb,h1,by rw[h2];exact ZpP.symm,by rw[e,List.append_nil]⟩
def Zg4:Zaf:=fun vals h s=>
 match vals with
 | [.slice none 0 0]=>some(Zq,h,s,[])
 | [.slice(some⟨b,o,none⟩) n c]=>
  match h.blk? b with
  | some x=>some(sl b o(Zm(Zy x.1 o n)) c,h,s,[(Z8 x.2 x.1 o n c,true)])
  | none=>none
 | _=>none
theorem ZpT:Z7(Zn(Zi Tryz.prog Zf Zo true) 100 112 [Zq] []) Zq []:=⟨by kernel_rfl,by kernel_rfl,by kernel_rfl,by kernel_rfl⟩
theorem ZbY:Z9 112 Zg4:=by
 intro vals h s v h' s' lg hg hl m B w E hv
 unfold Zg4 at hg
 split at hg
 ·cases hg
  refine(Zc(Zk Zd) ZpT(fun x hx=>by cases hx)(by rfl)(by rfl) w).mono fun e w' he=> ?_
  obtain⟨E',hb⟩:=zf E he.2
  exact⟨m,he.1,⟨Agree.refl _ _,E',hb,Nat.le_refl _,rfl⟩⟩
 ·rename_i b o n c
  split at hg
  ·rename_i x hx
   cases hg
   obtain⟨h1,h2,h3,h4,h5,h6,h7⟩:=ZK(hl _(List.mem_singleton.2 rfl))
   have hlt:=Hp.blk_lt hx
   have r:=ZlZ h1 h4(by rw[h2];exact h3)
   rw[h2] at r
   have:=zk(T:=Zi Tryz.prog Zf Zo true) Tryz.func112 ZlW(ZaJ h7)(vals:=[sl 0 o n c])(fun v hv=>by rw[List.mem_singleton.1 hv];rfl)(by rfl) r E(s:=fun _=>b)(fun i _=>hlt)(zO hx h5 h6 rfl)
   exact this.mono fun e w' he=>⟨m,he.1,he.2⟩
  ·cases hg
 ·cases hg
def h2(la lb:List Value):Hp:=⟨2,[(lb,tR),(la,tR)]⟩
def ZeV(a b i:Nat):Nat:=if Nat.beq i 0=true then a else b
theorem Z8S{la lb:List Value}{i:Nat}{x:List Value×TypeId}(h:(h2 la lb).blk? i=some x):(i=0∧x=(la,tR))∨(i=1∧x=(lb,tR)):=by
 have:i<2:=Hp.blk_lt h
 have:i=0∨i=1:=by omega
 rcases this with rfl | rfl
 ·exact .inl⟨rfl,(Option.some.inj h).symm⟩
 ·exact .inr⟨rfl,(Option.some.inj h).symm⟩
theorem Zht{la lb:List Value}(ha:∀ v∈la,still v=true)(hb:∀ v∈lb,still v=true):(h2 la lb).rows:=by
 refine⟨rfl,fun b x hx=> ?_⟩
 rcases Z8S hx with⟨_,e⟩ | ⟨_,e⟩<;>rw[e]
 ·exact⟨ZpN,ha,ZpO⟩
 ·exact⟨ZpN,hb,ZpO⟩
theorem ZdZ{h:Hp}{a b:Nat}{x y:List Value×TypeId}(hx:h.blk? a=some x)(x1:Zal x.2=false)(x2:rt x.2=tU)(hy:h.blk? b=some y)(y1:Zal y.2=false)(y2:rt y.2=tU):(h2 x.1 y.1).fits(ZeV a b) h:=by
 intro i z hz _
 rcases Z8S hz with⟨rfl,e⟩ | ⟨rfl,e⟩<;>rw[e]
 ·exact⟨x,[],hx,x1,by rw[x2];exact ZpP.symm,by rw[List.append_nil]⟩
 ·exact⟨y,[],hy,y1,by rw[y2];exact ZpP.symm,by rw[List.append_nil]⟩
def hT:Hp:=⟨1,[([],2*ZW)]⟩
theorem Z8T{i:Nat}{x:List Value×TypeId}(h:hT.blk? i=some x):x=([],2*ZW):=by
 have h1:i<1:=Hp.blk_lt h
 have h2:i=0:=by omega
 subst h2
 exact(Option.some.inj h).symm
theorem Z5H:Zal(2*ZW)=true:=by kernel_rfl
theorem roT:ro(2*ZW)=true:=by kernel_rfl
theorem Z0t:hT.rows:=⟨rfl,fun b x hx=>by rw[Z8T hx];exact⟨roT,(fun v hv=>by cases hv),by kernel_rfl⟩⟩
theorem ZsV(s:Nat→Nat)(h:Hp):hT.fits s h:=fun i x hx ht=>by rw[Z8T hx,Z5H] at ht;cases ht
end Go.Proofs.YtjlponbdflkbjaaGreatDoor
namespace Go.Proofs.YtjlponbdflkbjaaGreatDoor.Na
open Go.KRun Go.Nt
set_option maxRecDepth 100000
theorem ZsW(dx:List Int)(x:Int)(px:List Int):(wU(dx++x::px))[dx.length]? =some(uu x):=by
 unfold wU
 simp [uu]
theorem Zi4(dx:List Int)(x d:Int)(px:List Int):(wU(dx++x::px)).set dx.length(uu d)=wU((dx++[d])++px):=by
 unfold wU uu
 simp
theorem Zax{S:List Value}{o k:Nat}{x:Int}(h:S[o+k]? =some(uu x)):(Zdu S o k x).1=(Zdu S o k x).2:=by
 unfold Zdu
 simp only[Int.toNat_natCast,Nat.mul_one]
 rw[h]
 simp [Z6,uu]
def i6'(n:Int):Value:= .int .i64 n
def oA(F:Func):Code:=Z5(Z0(Zt F))
def oR(F:Func):Code:=Z5(Z5(Z0(Z0(Zt F))))
def Zma(F:Func):Code:=cIn(cIn(Z0(Z5(Z0(Z0(Zt F))))))
def Z5I(F:Func):Code:=Z0(Z0(Z0(Zt F)))
def ZuY(d:Bool):Int:=match d with | true=> -1 | false=>1
theorem Zmb(d:Bool):Z7(Zn(Zi Tryz.prog Zf Zo true) 100 134 [.bool d] [])(i6'(ZuY d)) []:=by
 cases d<;>exact⟨by kernel_rfl,by kernel_rfl,by kernel_rfl,by kernel_rfl⟩
def ZuZ:Ans:=fun vals s=>
 match vals with
 | [.bool d]=>some(i6'(ZuY d),s,[])
 | _=>none
theorem ZpU:ZT 134 ZuZ:=by
 intro vals s v s' lg h hl w
 unfold ZuZ at h
 split at h
 ·cases h
  exact Zc(Zk Zd)(Zmb _)(fun x hx=>by cases hx)(by rfl)(by rfl) w
 ·cases h
def Zb1:Con:=alt 134 ZuZ Zo
theorem zt:ConOk Zb1:=ZA Tryz.func134 rfl ZpU Zd
theorem ZdC:Tryz.f120.body=some(za(ZyV Tryz.f120)(.seq(oA Tryz.f120)(.seq(.seq(oR Tryz.f120)(.block 0(.loop(Zma Tryz.f120))))(Z5I Tryz.f120)))):=by kernel_rfl
theorem Zhu(v w:Value)(h:Hp):Zg(evL(Zi Tryz.prog Zf Zb1 true) 100(ZyV Tryz.f120)([v,w]++List.replicate 41 undef,h,[])⟨[],[],[]⟩) 6 37 none [v,w,undef,undef,i6' 0,undef] h []:=⟨by kernel_rfl,by kernel_rfl,by kernel_rfl⟩
theorem Z0u(p q:Option Addr)(n c k d:Nat)(j2 j3 j4 j5:Value)(h:Hp)(g:Nat→Value):GoesE(evC(Zi Tryz.prog Zf Zb1 true) 100 false(oA Tryz.f120)([.slice p n c,.slice q k d,j2,j3,j4,j5]++tl 37 g,h,[cmp true,cmp true])⟨[],[],[]⟩) 6 37(some none)
  [.slice p n c,.slice q k d,j2,j3,i6'(-1),j5] h [(decide((n:Int)<k),true),((n:Int) !=k,true)]:=by unfold GoesE;kernel_rfl
theorem Z0v(p q:Option Addr)(n c k d:Nat)(j2 j3 j4 j5:Value)(h:Hp)(g:Nat→Value):GoesE(evC(Zi Tryz.prog Zf Zb1 true) 100 false(oA Tryz.f120)([.slice p n c,.slice q k d,j2,j3,j4,j5]++tl 37 g,h,[cmp true,cmp false])⟨[],[],[]⟩) 6 37(some none)
  [.slice p n c,.slice q k d,j2,j3,i6' 1,j5] h [(decide((n:Int)<k),false),((n:Int) !=k,true)]:=by unfold GoesE;kernel_rfl
theorem ZsX(p q:Option Addr)(n c k d:Nat)(j2 j3 j4 j5:Value)(h:Hp)(g:Nat→Value):GoesE(evC(Zi Tryz.prog Zf Zb1 true) 100 false(oA Tryz.f120)([.slice p n c,.slice q k d,j2,j3,j4,j5]++tl 37 g,h,[cmp false])⟨[],[],[]⟩) 6 37 none
  [.slice p n c,.slice q k d,j2,j3,j4,j5] h [((n:Int) !=k,false)]:=by unfold GoesE;kernel_rfl
theorem Z0w(p:Option Addr)(n c:Nat)(w j2 j3 j4 j5:Value)(h:Hp)(g:Nat→Value):GoesE(evC(Zi Tryz.prog Zf Zb1 true) 100 false(oR Tryz.f120)([.slice p n c,w,j2,j3,j4,j5]++tl 37 g,h,[])⟨[],[],[]⟩) 6 37 none
  [.slice p n c,w,j2,j3,j4,i6'(n1 n)] h []:=by unfold GoesE;kernel_rfl
theorem Zmc(v w j2 j3 j4:Value)(i:Int)(h:Hp)(g:Nat→Value):GoesE(evC(Zi Tryz.prog Zf Zb1 true) 100 false(Zma Tryz.f120)([v,w,j2,j3,j4,i6' i]++tl 37 g,h,[cmp false])⟨[],[],[]⟩) 6 37(some(some 0))
  [v,w,j2,j3,j4,i6' i] h [(decide(i≥0),false)]:=by unfold GoesE;kernel_rfl
theorem Z0x(o n c o' n' c':Nat)(i x y:Int)(la lb:List Value)(j2 j3 j4:Value)(g:Nat→Value):Zg(evC(Zi Tryz.prog Zf Zb1 true) 100 false(Zma Tryz.f120)([sl 0 o n c,sl 1 o' n' c',j2,j3,j4,i6' i]++tl 37 g,h2 la lb,[cmp true,at_,val(.int .u32 x),at_,val(.int .u32 y),cmp false])⟨[],[],[]⟩) 6 37 none
  [sl 0 o n c,sl 1 o' n' c',j2,j3,j4,i6'(IntKind.i64.wrap(i-1))](h2 la lb) [(x !=y,false),(Z6(lb[o'+i.toNat*1]?)(.int .u32 y),true),(decide(0≤i∧i<n'),true),(Z6(la[o+i.toNat*1]?)(.int .u32 x),true),(decide(0≤i∧i<n),true),(decide(i≥0),true)]:=⟨by kernel_rfl,by kernel_rfl,by kernel_rfl⟩
theorem Z0y(d:Bool)(o n c o' n' c':Nat)(i x y:Int)(la lb:List Value)(j2 j3 j4:Value)(g:Nat→Value):Zg(evC(Zi Tryz.prog Zf Zb1 true) 100 false(Zma Tryz.f120)([sl 0 o n c,sl 1 o' n' c',j2,j3,j4,i6' i]++tl 37 g,h2 la lb,[cmp true,at_,val(.int .u32 x),at_,val(.int .u32 y),cmp true,at_,val(.int .u32 x),at_,val(.int .u32 y),cmp d])⟨[],[],[]⟩) 6 37(some none)
  [sl 0 o n c,sl 1 o' n' c',j2,j3,i6'(ZuY d),i6' i](h2 la lb) [(decide(x<y),d),(Z6(lb[o'+i.toNat*1]?)(.int .u32 y),true),(decide(0≤i∧i<n'),true),(Z6(la[o+i.toNat*1]?)(.int .u32 x),true),(decide(0≤i∧i<n),true),(x !=y,true),(Z6(lb[o'+i.toNat*1]?)(.int .u32 y),true),(decide(0≤i∧i<n'),true),(Z6(la[o+i.toNat*1]?)(.int .u32 x),true),(decide(0≤i∧i<n),true),(decide(i≥0),true)]:=by
 cases d<;>exact⟨by kernel_rfl,by kernel_rfl,by kernel_rfl⟩
theorem Zmd(v w j2 j3 j4 j5:Value)(h:Hp)(g:Nat→Value):GoesE(evC(Zi Tryz.prog Zf Zb1 true) 100 false(Z5I Tryz.f120)([v,w,j2,j3,j4,j5]++tl 37 g,h,[])⟨[],[],[]⟩) 6 37(some none)
  [v,w,j2,j3,i6' 0,j5] h []:=by unfold GoesE;kernel_rfl
def Z46(F:Func):Code:=za(ZyV F)(.seq(oA F)(.seq(.seq(oR F)(.block 0(.loop(Zma F))))(Z5I F)))
theorem Zg5(p q:Option Addr)(n c k d:Nat)(h:Hp)(hn:n≠k):
  Runs(Zi Tryz.prog Zf Zb1 true)(Z46 Tryz.f120)([.slice p n c,.slice q k d]++List.replicate 41 undef,h,[]) fun e y=>(e=none∨e=some none)∧ZZ Tryz.prog Tryz.f120 y.1 y.2.1=some(i6'(if n<k then -1 else 1)):=by
 refine Zx(Zk zt)(Zhu _ _ _)(fun x hx=>by cases hx) fun g=> ?_
 by_cases hl:n<k
 ·refine Runs.seq(Zb(Zk zt)(Z0u p q n c k d undef undef(i6' 0) undef h g).t(Zj(decide_eq_true(by omega))(Zu(by simp;omega))))(fun y he=>by cases he.1)(fun e y he=> ?_)
  obtain⟨h1,⟨g3,e2⟩,e3⟩:=he
  refine⟨.inr h1,?_⟩
  rw[e2,e3,if_pos hl]
  rfl
 ·refine Runs.seq(Zb(Zk zt)(Z0v p q n c k d undef undef(i6' 0) undef h g).t(Zj(decide_eq_false(by omega))(Zu(by simp;omega))))(fun y he=>by cases he.1)(fun e y he=> ?_)
  obtain⟨h1,⟨g3,e2⟩,e3⟩:=he
  refine⟨.inr h1,?_⟩
  rw[e2,e3,if_neg hl]
  rfl
theorem Zme(p q:Option Addr)(c d:Nat)(h:Hp):
  Runs(Zi Tryz.prog Zf Zb1 true)(Z46 Tryz.f120)([.slice p 0 c,.slice q 0 d]++List.replicate 41 undef,h,[]) fun e y=>(e=none∨e=some none)∧ZZ Tryz.prog Tryz.f120 y.1 y.2.1=some(i6' 0):=by
 refine Zx(Zk zt)(Zhu _ _ _)(fun x hx=>by cases hx) fun g=> ?_
 refine Runs.seq(Zb(Zk zt)(ZsX p q 0 c 0 d undef undef(i6' 0) undef h g).t(Zu(by rfl))) ?_(fun e y he=>by cases he.1)
 rintro⟨t,h',s⟩⟨_,⟨g1,ht⟩,hh⟩
 simp only at ht hh
 subst ht hh
 refine Runs.seq(P1:=fun e y=>e=none∧(∃ g i,y.1=[.slice p 0 c,.slice q 0 d,undef,undef,i6' 0,i6' i]++tl 37 g)∧y.2.1=h') ?_ ?_(fun e y he=>by cases he.1)
 ·refine Runs.seq(Zb(Zk zt)(Z0w p 0 c _ undef undef(i6' 0) undef h' g1).t(fun x hx=>by cases hx)) ?_(fun e y he=>by cases he.1)
  rintro⟨t,h'',s⟩⟨_,⟨g2,ht⟩,hh⟩
  simp only at ht hh
  subst ht hh
  refine(Runs.forLoop(P:=fun y=>(∃ g i,y.1=[.slice p 0 c,.slice q 0 d,undef,undef,i6' 0,i6' i]++tl 37 g)∧y.2.1=h'')(R:=fun _=>False)(fun _ y=>∃ g,y.1=[.slice p 0 c,.slice q 0 d,undef,undef,i6' 0,i6'(n1 0)]++tl 37 g∧y.2.1=h'') ?_(n:=0)⟨g2,rfl,rfl⟩).mono fun e y he=> ?_
  ·rintro _⟨t,h3,s⟩⟨g,ht,hh⟩
   simp only at ht hh
   subst ht hh
   refine(Zb(Zk zt)(Zmc _ _ undef undef(i6' 0)(n1 0) h3 g).t(Zu(by rfl))).mono fun e y he=> ?_
   obtain⟨rfl,⟨g',e2⟩,e3⟩:=he
   exact⟨rfl,⟨g',_,e2⟩,e3⟩
  ·match e,he with
   | none,he=>exact⟨rfl,he⟩
 ·rintro⟨t,h'',s⟩⟨_,⟨g2,i,ht⟩,hh⟩
  simp only at ht hh
  subst ht hh
  refine(Zb(Zk zt)(Zmd _ _ undef undef(i6' 0) _ h'' g2).t(fun x hx=>by cases hx)).mono fun e y he=> ?_
  obtain⟨rfl,⟨g3,e2⟩,e3⟩:=he
  refine⟨.inr rfl,?_⟩
  rw[e2,e3]
  rfl
theorem ZpV{la lb:List Value}{o o' c c':Nat}{La Lb:List Int}(Ra:Row la o La)(Rb:Row lb o' Lb)(hc:La.length<4611686018427387904):
  Runs(Zi Tryz.prog Zf Zb1 true)(Z46 Tryz.f120)([sl 0 o La.length c,sl 1 o' Lb.length c']++List.replicate 41 undef,h2 la lb,[]) fun e y=>(e=none∨e=some none)∧ZZ Tryz.prog Tryz.f120 y.1 y.2.1=some(i6'(Zci La Lb)):=by
 by_cases hn:La.length=Lb.length
 ·unfold Zci
  rw[if_pos hn]
  refine Zx(Zk zt)(Zhu _ _ _)(fun x hx=>by cases hx) fun g=> ?_
  refine Runs.seq(Zb(Zk zt)(ZsX _ _ La.length c Lb.length c' undef undef(i6' 0) undef(h2 la lb) g).t(Zu(by simp [hn]))) ?_(fun e y he=>by cases he.1)
  rintro⟨t,h',s⟩⟨_,⟨g1,ht⟩,hh⟩
  simp only at ht hh
  subst ht hh
  refine Runs.seq(P1:=fun e y=>(e=none∧(∃ g i,y.1=[sl 0 o La.length c,sl 1 o' Lb.length c',undef,undef,i6' 0,i6' i]++tl 37 g)∧y.2.1=h2 la lb∧Zan La Lb La.length=0)∨(e=some none∧(∃ g i,y.1=[sl 0 o La.length c,sl 1 o' Lb.length c',undef,undef,i6'(Zan La Lb La.length),i6' i]++tl 37 g)∧y.2.1=h2 la lb)) ?_ ?_ ?_
  ·refine Runs.seq(Zb(Zk zt)(Z0w _ La.length c _ undef undef(i6' 0) undef _ g1).t(fun x hx=>by cases hx)) ?_(fun e y he=>by cases he.1)
   rintro⟨t,h'',s⟩⟨_,⟨g2,ht⟩,hh⟩
   simp only at ht hh
   subst ht hh
   refine(Runs.forLoop(P:=fun y=>(∃ g i,y.1=[sl 0 o La.length c,sl 1 o' Lb.length c',undef,undef,i6' 0,i6' i]++tl 37 g)∧y.2.1=h2 la lb∧Zan La Lb La.length=0)(R:=fun y=>(∃ g i,y.1=[sl 0 o La.length c,sl 1 o' Lb.length c',undef,undef,i6'(Zan La Lb La.length),i6' i]++tl 37 g)∧y.2.1=h2 la lb)
    (fun r y=>∃ (g:Nat→Value),r≤La.length∧y.1=[sl 0 o La.length c,sl 1 o' Lb.length c',undef,undef,i6' 0,i6'((r:Int)-1)]++tl 37 g∧y.2.1=h2 la lb∧Zan La Lb La.length=Zan La Lb r) ?_(n:=La.length)⟨g2,Nat.le_refl _,by unfold n1;rw[Zw(by omega)(by omega)];rfl,rfl,rfl⟩).mono fun e y he=> ?_
   ·rintro r⟨t,h3,s⟩⟨g,hk,ht,hh,htop⟩
    simp only at ht hh
    subst ht hh
    cases r with
    | zero=>
     refine(Zb(Zk zt)(Zmc _ _ undef undef(i6' 0) _ _ g).t(Zu(by rfl))).mono fun e y he=> ?_
     obtain⟨rfl,⟨g',e2⟩,e3⟩:=he
     exact⟨rfl,⟨g',_,e2⟩,e3,htop⟩
    | succ k=>
     have ek:((k+1:Nat):Int)-1=(k:Int):=by omega
     rw[ek]
     have ca:=Ra.cell(k:=k)(by omega)
     have cb:=Rb.cell(k:=k)(by omega)
     have ha:Z6(la[o+((k:Int)).toNat*1]?)(.int .u32(La.getD k 0))=true:=by
      rw[Int.toNat_natCast,Nat.mul_one,ca];simp [Z6]
     have hb:Z6(lb[o'+((k:Int)).toNat*1]?)(.int .u32(Lb.getD k 0))=true:=by
      rw[Int.toNat_natCast,Nat.mul_one,cb];simp [Z6]
     have q1:decide(0≤(k:Int)∧(k:Int)<(La.length:Nat))=true:=decide_eq_true(by omega)
     have q2:decide(0≤(k:Int)∧(k:Int)<(Lb.length:Nat))=true:=decide_eq_true(by omega)
     have q3:decide((k:Int)≥0)=true:=decide_eq_true(by omega)
     by_cases hx:La.getD k 0=Lb.getD k 0
     ·refine(Zb(Zk zt)(Z0x o La.length c o' Lb.length c' k(La.getD k 0)(Lb.getD k 0) la lb undef undef(i6' 0) g)(Zj(by show(La.getD k 0 !=Lb.getD k 0)=false;rw[hx];exact bne_self_eq_false _)(Zj hb(Zj q2(Zj ha(Zj q1(Zu q3))))))).mono fun e y he=> ?_
      obtain⟨rfl,⟨g',e2⟩,e3⟩:=he
      refine⟨k,by omega,g',by omega,?_,e3,?_⟩
      ·rw[e2,Zw(by omega)(by omega)]
      ·rw[htop]
       simp only[Zan]
       rw[if_pos hx]
     ·have hne:(La.getD k 0 !=Lb.getD k 0)=true:=by simpa using hx
      refine(Zb(Zk zt)(Z0y(decide(La.getD k 0<Lb.getD k 0)) o La.length c o' Lb.length c' k(La.getD k 0)(Lb.getD k 0) la lb undef undef(i6' 0) g)(Zj rfl(Zj hb(Zj q2(Zj ha(Zj q1(Zj hne(Zj hb(Zj q2(Zj ha(Zj q1(Zu q3)))))))))))).mono fun e y he=> ?_
      obtain⟨rfl,⟨g',e2⟩,e3⟩:=he
      refine⟨⟨g',k,?_⟩,e3⟩
      rw[e2,htop]
      simp only[Zan]
      rw[if_neg hx]
      by_cases hlt:La.getD k 0<Lb.getD k 0
      ·rw[if_pos hlt,decide_eq_true hlt];rfl
      ·rw[if_neg hlt,decide_eq_false hlt];rfl
   ·match e,he with
    | none,he=>exact .inl⟨rfl,he⟩
    | some none,he=>exact .inr⟨rfl,he⟩
  ·rintro⟨t,h'',s⟩(⟨_,⟨g2,i,ht⟩,hh,heq⟩ | ⟨h,_⟩)
   ·simp only at ht hh
    subst ht hh
    refine(Zb(Zk zt)(Zmd _ _ undef undef(i6' 0) _ _ g2).t(fun x hx=>by cases hx)).mono fun e y he=> ?_
    obtain⟨rfl,⟨g3,e2⟩,e3⟩:=he
    refine⟨.inr rfl,?_⟩
    rw[e2,e3,heq]
    rfl
   ·cases h
  ·rintro e y(⟨h,_⟩ | ⟨h1,⟨g3,i,e2⟩,e3⟩)
   ·cases h
   ·refine⟨.inr h1,?_⟩
    rw[e2,e3]
    rfl
 ·unfold Zci
  rw[if_neg hn]
  exact Zg5 _ _ _ _ _ _ _ hn
def ZpW(n k:Nat):Int:=if n=k then 0 else if n<k then -1 else 1
theorem Zea(p q:Option Addr)(n c k d:Nat)(h:Hp)(h0:n=0∨k=0):
  Runs(Zi Tryz.prog Zf Zb1 true)(Z46 Tryz.f120)([.slice p n c,.slice q k d]++List.replicate 41 undef,h,[]) fun e y=>(e=none∨e=some none)∧ZZ Tryz.prog Tryz.f120 y.1 y.2.1=some(i6'(ZpW n k)):=by
 unfold ZpW
 by_cases hn:n=k
 ·rw[if_pos hn]
  have e1:n=0:=by omega
  have e2:k=0:=by omega
  subst e1 e2
  exact Zme p q c d h
 ·rw[if_neg hn]
  exact Zg5 p q n c k d h hn
def Z47:Zaf:=fun vals h s=>
 match vals with
 | [.slice(some⟨b,o,none⟩) n c,.slice(some⟨b',o',none⟩) n' c']=>
  match h.blk? b,h.blk? b' with
  | some x,some y=>some(i6'(Zci(Zy x.1 o n)(Zy y.1 o' n')),h,s,[(Z8 x.2 x.1 o n c,true),(Z8 y.2 y.1 o' n' c',true)])
  | _,_=>none
 | [.slice none 0 0,.slice none 0 0]=>some(i6' 0,h,s,[])
 | [.slice none 0 0,.slice(some _) k _]=>some(i6'(ZpW 0 k),h,s,[])
 | [.slice(some _) n _,.slice none 0 0]=>some(i6'(ZpW n 0),h,s,[])
 | _=>none
theorem Zeb:Z9 120 Z47:=by
 intro vals h s v h' s' lg hg hl m B w E hv
 unfold Z47 at hg
 split at hg
 ·rename_i b o n c b' o' n' c'
  split at hg
  ·rename_i x y hx hy
   cases hg
   obtain⟨a1,a2,a3,a4,a5,a6,a7⟩:=ZK(hl _(List.mem_cons_self))
   obtain⟨b1,b2,b3,b4,b5,b6,b7⟩:=ZK(hl _(List.mem_cons_of_mem _(List.mem_singleton.2 rfl)))
   have hsm:n<4611686018427387904:=by have:=Zp.1 a4;unfold ZW at this;omega
   have r:=ZpV(c:=c)(c':=c') a1 b1(by rw[a2];exact hsm)
   rw[a2,b2] at r
   have lx:=Hp.blk_lt hx
   have ly:=Hp.blk_lt hy
   have:=zk(T:=Zi Tryz.prog Zf Zb1 true) Tryz.func120 ZdC(Zht a7 b7)(vals:=[sl 0 o n c,sl 1 o' n' c'])(fun v hv=>by
    simp only[List.mem_cons,List.not_mem_nil,or_false] at hv
    rcases hv with rfl | rfl<;>rfl)(by rfl) r E(s:=ZeV b b')(fun i _=>by unfold ZeV;split<;>assumption)(ZdZ hx a5 a6 hy b5 b6)
   exact this.mono fun e w' he=>⟨m,he.1,he.2⟩
  ·cases hg
 ·cases hg
  have r:=Zea none none 0 0 0 0⟨0,[]⟩(.inl rfl)
  refine(ZP(T:=Zi Tryz.prog Zf Zb1 true) Tryz.func120 ZdC(vals:=[Zq,Zq])(by rfl)(by rfl) r w).mono fun e w' he=> ?_
  obtain⟨E',hb⟩:=zf E he.2
  exact⟨m,he.1,⟨Agree.refl _ _,E',hb,Nat.le_refl _,rfl⟩⟩
 ·rename_i a k c
  cases hg
  have r:=Zea none(some{a with block:=0}) 0 0 k c hT(.inl rfl)
  have hlt:a.block<h.n:=by
   have:=hv(.slice(some a) k c)(by simp)
   exact Zp.1 this
  have:=zk(T:=Zi Tryz.prog Zf Zb1 true) Tryz.func120 ZdC Z0t(vals:=[Zq,.slice(some{a with block:=0}) k c])(fun v hv=>by
   simp only[List.mem_cons,List.not_mem_nil,or_false] at hv
   rcases hv with rfl | rfl<;>rfl)(by rfl) r E(s:=fun _=>a.block)(fun i _=>hlt)(ZsV _ _)
  exact this.mono fun e w' he=>⟨m,he.1,he.2⟩
 ·rename_i a n c
  cases hg
  have r:=Zea(some{a with block:=0}) none n c 0 0 hT(.inr rfl)
  have hlt:a.block<h.n:=by
   have:=hv(.slice(some a) n c)(by simp)
   exact Zp.1 this
  have:=zk(T:=Zi Tryz.prog Zf Zb1 true) Tryz.func120 ZdC Z0t(vals:=[.slice(some{a with block:=0}) n c,Zq])(fun v hv=>by
   simp only[List.mem_cons,List.not_mem_nil,or_false] at hv
   rcases hv with rfl | rfl<;>rfl)(by rfl) r E(s:=fun _=>a.block)(fun i _=>hlt)(ZsV _ _)
  exact this.mono fun e w' he=>⟨m,he.1,he.2⟩
 ·cases hg
end Go.Proofs.YtjlponbdflkbjaaGreatDoor.Na
