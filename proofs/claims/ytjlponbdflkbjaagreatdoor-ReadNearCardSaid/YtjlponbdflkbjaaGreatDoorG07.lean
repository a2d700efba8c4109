/-
  RunZ, NumRe, NumRj, NumRf, NumRg, NumRk, NumRl
-/
import Derived.Test.YtjlponbdflkbjaaGreatDoorG06
import Derived.Lib.Bytealg
namespace Go.KRun
open Go.RowKit
theorem Zil{k n:Nat}{base l:List(List Value×TypeId)}(hn:n=l.length+k){i:Nat}(hi:i<k):(⟨n,l++base⟩:Hp).blk? i=(⟨k,base⟩:Hp).blk? i:=by
 unfold Hp.blk?
 rw[if_pos(Zp.2(by show i<n;omega)),if_pos(Zp.2 hi)]
 show(l++base)[n-1-i]? =base[k-1-i]?
 rw[List.getElem?_append_right(by omega)]
 congr 1
 omega
theorem RunsW.cut{T:Tab}{c:Code}{x0:Lf}{ex:Ex}{f1 f2:List Value}{u:Value}{n k N:Nat}{extra base:List(List Value×TypeId)}(hr:RunsW T c x0 fun e z=>e=ex∧(∃ g,z.1=(f1++u::f2)++tl n g)∧z.2.1=⟨N,extra++base⟩)
  (hk:base.length=k)(hN:N=extra.length+k)(h0:0<k)(hb:∀ x∈base,∀ v∈x.1,lt1 k v=true)(h1:∀ v∈f1,lt k v=true)(h2:∀ v∈f2,lt k v=true):
  RunsW T c x0 fun e z=>e=ex∧(∃ g j,z.1=(f1++j::f2)++tl n g)∧z.2.1=⟨k,base⟩:=by
 intro m B a w R Q hQ
 refine hr m B a w R Q fun e z he m' a' w' R' hb'=> ?_
 obtain⟨rfl,⟨g,hz1⟩,hz2⟩:=he
 obtain⟨t,h,s⟩:=z
 simp only at hz1 hz2
 subst hz1 hz2
 obtain⟨g',hg'⟩:=Zj0(J:=(tl n g).map(fun v=>Value.iface ZW(mv m' v)))(n:=n)(by simp [Zgt])
 refine hQ e((f1++Value.iface ZW(mv m' u)::f2)++tl n g',⟨k,base⟩,s)⟨rfl,⟨g',_,rfl⟩,rfl⟩ m' a' w' ?_ hb'
 have E:=R'.emb
 have sub:∀ i x,(⟨k,base⟩:Hp).blk? i=some x→(⟨N,extra++base⟩:Hp).blk? i=some x:=fun i x hx=>by
  rw[Zil hN(Hp.blk_lt hx)]
  exact hx
 have mem:∀ i x,(⟨k,base⟩:Hp).blk? i=some x→x∈base:=fun i x hx=>by
  unfold Hp.blk? at hx
  split at hx
  ·exact List.mem_of_getElem? hx
  ·cases hx
 have ltd:∀ v:Value,lt k(Value.iface ZW v)=true:=fun v=>by simp [lt,lt2,lt1,h0]
 have mvd:∀ v:Value,mv m'(Value.iface ZW(mv m' v))=mv m' v:=fun v=>by simp [mv,mv2,mv1]
 refine⟨?_,R'.dfr,⟨hk,fun b x hx ht=>E.lies b x(sub b x hx) ht,fun b x hx hro=>E.low b x(sub b x hx) hro,fun b x hx ht hro=>E.ros b x(sub b x hx) ht hro,fun b b' x x' hx hx' hro hro' he=>E.inj b b' x x'(sub b x hx)(sub b' x' hx') hro hro' he,fun b x hx v hv=>hb x(mem b x hx) v hv,E.base,E.ice,fun b x hx ha=>E.abs b x(sub b x hx) ha⟩,?_⟩
 ·rw[R'.tmps]
  simp only[List.map_append,List.map_cons,mvd,← hg',List.map_map]
  congr 2
 ·intro v hv
  rcases List.mem_append.1 hv with hv | hv
  ·rcases List.mem_append.1 hv with hv | hv
   ·exact h1 v hv
   ·rcases List.mem_cons.1 hv with rfl | hv
    ·exact ltd _
    ·exact h2 v hv
  ·rw[← hg'] at hv
   obtain⟨y,_,rfl⟩:=List.mem_map.1 hv
   exact ltd _
theorem RunsW.pre{T:Tab}{c:Code}{P:Ex→Lf→Prop}{f1 f2:List Value}{u:Value}{n k N:Nat}{extra base:List(List Value×TypeId)}{s s':List Dec}{g:Nat→Value}(h:∀ j g,RunsW T c((f1++j::f2)++tl n g,⟨k,base⟩,s') P)
  (hk:base.length=k)(hN:N=extra.length+k)(h0:0<k)(hb:∀ x∈base,∀ v∈x.1,lt1 k v=true)(h1:∀ v∈f1,lt k v=true)(h2:∀ v∈f2,lt k v=true):
  RunsW T c((f1++u::f2)++tl n g,⟨N,extra++base⟩,s) P:=by
 intro m B a w R Q hQ
 obtain⟨g',hg'⟩:=Zj0(J:=(tl n g).map(fun v=>Value.iface ZW(mv m v)))(n:=n)(by simp [Zgt])
 refine h(Value.iface ZW(mv m u)) g' m B a w ?_ Q hQ
 have E:=R.emb
 have sub:∀ i x,(⟨k,base⟩:Hp).blk? i=some x→(⟨N,extra++base⟩:Hp).blk? i=some x:=fun i x hx=>by
  rw[Zil hN(Hp.blk_lt hx)]
  exact hx
 have mem:∀ i x,(⟨k,base⟩:Hp).blk? i=some x→x∈base:=fun i x hx=>by
  unfold Hp.blk? at hx
  split at hx
  ·exact List.mem_of_getElem? hx
  ·cases hx
 have ltd:∀ v:Value,lt k(Value.iface ZW v)=true:=fun v=>by simp [lt,lt2,lt1,h0]
 have mvd:∀ v:Value,mv m(Value.iface ZW(mv m v))=mv m v:=fun v=>by simp [mv,mv2,mv1]
 refine⟨?_,R.dfr,⟨hk,fun b x hx ht=>E.lies b x(sub b x hx) ht,fun b x hx hro=>E.low b x(sub b x hx) hro,fun b x hx ht hro=>E.ros b x(sub b x hx) ht hro,fun b b' x x' hx hx' hro hro' he=>E.inj b b' x x'(sub b x hx)(sub b' x' hx') hro hro' he,fun b x hx v hv=>hb x(mem b x hx) v hv,E.base,E.ice,fun b x hx ha=>E.abs b x(sub b x hx) ha⟩,?_⟩
 ·rw[R.tmps]
  simp only[List.map_append,List.map_cons,mvd,← hg',List.map_map]
  congr 2
 ·intro v hv
  rcases List.mem_append.1 hv with hv | hv
  ·rcases List.mem_append.1 hv with hv | hv
   ·exact h1 v hv
   ·rcases List.mem_cons.1 hv with rfl | hv
    ·exact ltd _
    ·exact h2 v hv
  ·rw[← hg'] at hv
   obtain⟨y,_,rfl⟩:=List.mem_map.1 hv
   exact ltd _
theorem ZcZ{T:Tab}{f:Nat}{F:Func}{c:Code}(hF:T.P.funcs[f]? =some F)(hc:F.body=some c){h0:Hp}(hr:h0.rows){vals:List Value}(hvals:∀ v∈vals,lt h0.n v=true){v:Nat→Value}
  {cs:List Value}{ty:TypeId}(hcs:∀ u∈cs,lt1 0 u=true)(hty:ro ty=false)
  (hrun:RunsW T c(vals++List.replicate(F.ntmps-vals.length) undef,h0,[]) fun e y=>(e=none∨e=some none)∧∃ k,ZZ T.P F y.1 y.2.1=some(v k)∧∃ r,y.2.1.blk? k=some(cs++r,ty))
  (hv0:∀ k,oc [k](v k)=true)
  {m:Mp}{B:Nat}{h:Hp}{w:World}(E:Emb m B h w){s:Nat→Nat}(hf:h0.fits s h)(hv1:∀ k,rn(fun _=>h.n)(v k)=v h.n):
  Calls T.P f((vals.map(rn s)).map(mv m)).toArray w fun e w'=>∃ m',e= .returned(mv m'(v h.n))∧Came m B h w(v h.n)(h.push cs ty) m' w':=by
 have E0:=E.small hr hf
 have ev:(vals.map(rn s)).map(mv m)=vals.map(mv fun i=>m(s i)):=by
  rw[List.map_map]
  exact List.map_congr_left fun y _=>Zdx m s y
 rw[ev]
 refine calls_of_wp hF hc ?_
 have R:Rel(fun i=>m(s i)) w.heap.size(vals++List.replicate(F.ntmps-vals.length) undef,h0,[]){tmps:=(vals.map(mv fun i=>m(s i))).toArray++Array.replicate(F.ntmps-(vals.map(mv fun i=>m(s i))).toArray.size) undef,defers:=[]} w:=by
  refine⟨?_,rfl,E0,?_⟩
  ·simp [zo]
  ·intro y hy
   rcases List.mem_append.1 hy with hy | hy
   ·exact hvals y hy
   ·rw[List.eq_of_mem_replicate hy];simp [undef,lt]
 refine hrun _ _ _ w R _ fun e y he m1 a' w' k2 k3=> ?_
 obtain⟨hex,k,hres,r,hblk⟩:=he
 obtain⟨r1,r2⟩:=Zae k2.emb k2.wf hres
 rw[← k2.tmps] at r1
 have td:Zad w w':=⟨k3,fun k h1 h2=>k2.emb.ice k h1 h2⟩
 obtain⟨E',hb⟩:=zf E td
 have hlow:w.heap.size≤(m1 k).1:=k2.emb.low k _ hblk hty
 have hlie:lie w'(m1 k)(cs.map(mv1 m)) ty:=by
  obtain⟨r',z,l0,l1,l2⟩:=k2.emb.lies k _ hblk(Zao hty)
  have e:cs.map(mv1 m1)=cs.map(mv1 m):=ZbB hcs
  simp only[List.map_append] at l0 l1
  refine⟨r.map(mv1 m1)++r',z,?_,?_,l2⟩
  ·simp at l0 ⊢;omega
  ·rw[← e,l1,List.append_assoc]
 have Ea:=E'.adopt cs ty hty(fun u hu=>zn(Nat.zero_le _)(hcs u hu)) hlie(Nat.le_trans E.base hlow)(fun b x hbx hx heq=>by
  have:=E.here hbx(Zao hx)
  omega)
 have e1:mv m1(v k)=mv(upd m h.n(m1 k))(v h.n):=by
  rw[← hv1 k,Zdx]
  refine Zpe(fun b hb=> ?_)(hv0 k)
  rw[List.mem_singleton.1 hb]
  simp [upd]
 rw[e1] at r1
 have hlt:lt(h.n+1)(v h.n)=true:=by rw[← hv1 k];exact Zif(bs:=[k])(fun b hb=>by show h.n<h.n+1;omega)(hv0 k)
 have post:a'.defers=[]∧∃ v',(results F a'.tmps).run T.P w'= .ok v' w'∧∃ m',Ending.returned v'= .returned(mv m'(v h.n))∧Came m B h w(v h.n)(h.push cs ty) m' w':=
  ⟨k2.dfr,_,r1,upd m h.n(m1 k),rfl,⟨ZR _ _ _,Ea,hb,Nat.le_succ _,hlt⟩⟩
 rcases hex with rfl | rfl<;>exact post
end Go.KRun
namespace Go.Rd
open Go.Rn
theorem Zim{m E:Int}{n:Bool}{A B k:Nat}(j:Nat)(h:54≤bitLen(A*2^k/B)):rnP m n(dvK A B k)(E+j)=rnP m n(dvK A B(k+j)) E∧rnF m n(dvK A B k)(E+j)=rnF m n(dvK A B(k+j)) E:=by
 have r:=Zcz(m:=m)(neg:=n)(A:=dvK A B(k+j))(d:=j+1)(F:=E)(.inr(by rw[Zl3];exact h))
 rw[Zl4,show E+((j+1:Nat):Int)-1=E+(j:Int) by omega] at r
 exact r
theorem Zur{m:Int}{n:Bool}{A B k j:Nat}(h:54≤bitLen(A*2^k/B))(h':54≤bitLen(A*2^j/B)):rnP m n(dvK A B k)(-(k:Int)-1)=rnP m n(dvK A B j)(-(j:Int)-1)∧rnF m n(dvK A B k)(-(k:Int)-1)=rnF m n(dvK A B j)(-(j:Int)-1):=by
 rcases Nat.le_total k j with hk | hk
 ·have r:=Zim(m:=m)(n:=n)(E:= -(j:Int)-1)(j-k) h
  rw[show k+(j-k)=j by omega,show -(j:Int)-1+((j-k:Nat):Int)= -(k:Int)-1 by omega] at r
  exact r
 ·have r:=Zim(m:=m)(n:=n)(E:= -(k:Int)-1)(k-j) h'
  rw[show j+(k-j)=k by omega,show -(k:Int)-1+((k-j:Nat):Int)= -(j:Int)-1 by omega] at r
  exact⟨r.1.symm,r.2.symm⟩
theorem Zc3{A B:Nat}(hA:A≠0)(hB:B≠0):80≤bitLen(A*2^upN A B/B):=by
 refine Zct(k:=79) ?_
 rw[Nat.le_div_iff_mul_le(by omega)]
 exact ZsJ hA
def rqP(m:Int)(n:Bool)(A B:Nat):Int:=rnP m n(dvK A B(upN A B))(-((upN A B:Nat):Int)-1)
def rqF(m:Int)(n:Bool)(A B:Nat):Int:=rnF m n(dvK A B(upN A B))(-((upN A B:Nat):Int)-1)
theorem Zl5{m:Int}{n:Bool}{A B k:Nat}(hA:A≠0)(hB:B≠0)(h:54≤bitLen(A*2^k/B)):rnP m n(dvK A B k)(-(k:Int)-1)=rqP m n A B∧rnF m n(dvK A B k)(-(k:Int)-1)=rqF m n A B:=
 Zur h(Nat.le_trans(by omega)(Zc3 hA hB))
theorem Zl6{A B c:Nat}(hc:0<c)(k:Nat):dvK(A*c)(B*c) k=dvK A B k:=by
 unfold dvK
 have e:A*c*2^k=A*2^k*c:=by rw[Nat.mul_assoc,Nat.mul_comm c,← Nat.mul_assoc]
 rw[e,Nat.mul_div_mul_right _ _ hc,Nat.mul_mod_mul_right]
 by_cases h:A*2^k % B=0
 ·rw[if_pos h,if_pos(by rw[h,Nat.zero_mul])]
 ·rw[if_neg h,if_neg(fun h'=>h((Nat.mul_eq_zero.1 h').resolve_right(by omega)))]
theorem Zl7{m:Int}{n:Bool}{A B c:Nat}(hA:A≠0)(hB:B≠0)(hc:0<c):rqP m n(A*c)(B*c)=rqP m n A B∧rqF m n(A*c)(B*c)=rqF m n A B:=by
 have hA':A*c≠0:=fun h=>(Nat.mul_eq_zero.1 h).elim hA(by omega)
 have hB':B*c≠0:=fun h=>(Nat.mul_eq_zero.1 h).elim hB(by omega)
 have h:=Zc3 hA hB
 have e:A*c*2^upN A B/(B*c)=A*2^upN A B/B:=by rw[Nat.mul_assoc,Nat.mul_comm c,← Nat.mul_assoc,Nat.mul_div_mul_right _ _ hc]
 obtain⟨r1,r2⟩:=Zl5(m:=m)(n:=n)(k:=upN A B) hA' hB'(by rw[e];omega)
 rw[Zl6 hc] at r1 r2
 exact⟨r1.symm,r2.symm⟩
theorem ZsM(m:Int)(n:Bool)(A:Nat):rqP m n A 1=rnP m n A 0∧rqF m n A 1=rnF m n A 0:=by
 have e:dvK A 1(upN A 1)=A*2^(upN A 1+1):=by
  unfold dvK
  rw[Nat.div_one,Nat.mod_one,if_pos rfl,Nat.add_zero,Nat.pow_succ,Nat.mul_comm 2,Nat.mul_assoc]
 have p:=ZaB m n A(upN A 1+1) 0
 have f:=ZaC m n A(upN A 1+1) 0
 rw[show(0:Int)-((upN A 1+1:Nat):Int)= -((upN A 1:Nat):Int)-1 by omega] at p f
 unfold rqP rqF
 rw[e]
 exact⟨p,f⟩
theorem Zus{A B k:Nat}(h:A*2^k/B≠0):lgN(dvK A B k)(-(k:Int)-1)=(bitLen(A*2^k/B):Int)-1-k:=by
 have e:bitLen(dvK A B k)=bitLen(A*2^k/B)+1:=by
  have h1:=(bitLen_spec(A*2^k/B)).1
  have h2:=(bitLen_spec(A*2^k/B)).2 h
  have h3:=Za1 h
  have e1:2^bitLen(A*2^k/B)=2^(bitLen(A*2^k/B)-1)*2:=by rw[← Nat.pow_succ];congr 1;omega
  refine Zbk(k:=bitLen(A*2^k/B)) ?_ ?_
  ·unfold dvK;split<;>omega
  ·rw[Nat.pow_succ];unfold dvK;split<;>omega
 unfold lgN
 rw[e]
 omega
theorem ZzQ{m:Int}{n:Bool}{A B J:Nat}(hA:A≠0)(hB:B≠0)(hJ:1024≤J)(h:B*2^J≤A):rqP m n A B=bey m n∧rqF m n A B=20:=by
 have hb:=Zc3 hA hB
 have hq:A*2^upN A B/B≠0:=fun h0=>by rw[h0] at hb;exact absurd hb(by decide)
 have hT:dvK A B(upN A B)≠0:=fun h0=>by
  unfold dvK at h0
  omega
 refine ZdT hT ?_
 rw[Zus hq]
 have h1:2^(J+upN A B)≤A*2^upN A B/B:=by
  rw[Nat.le_div_iff_mul_le(by omega),Nat.pow_add,Nat.mul_comm,← Nat.mul_assoc]
  exact Nat.mul_le_mul_right _ h
 have:=Zct h1
 omega
theorem ZzR{m:Int}{n:Bool}{A B J:Nat}(hA:A≠0)(hB:B≠0)(hJ:1099≤J)(h:A*2^J<B):rqP m n A B=rnP m n 1(-3000)∧rqF m n A B=rnF m n 1(-3000):=by
 have hb:=Zc3 hA hB
 have hq:A*2^upN A B/B≠0:=fun h0=>by rw[h0] at hb;exact absurd hb(by decide)
 have hT:dvK A B(upN A B)≠0:=fun h0=>by
  unfold dvK at h0
  omega
 have hu:J≤upN A B:=by
  have h1:bitLen A+J≤bitLen B:=by
   have:=Zct(T:=B)(k:=bitLen A-1+J)(by
    rw[Nat.pow_add]
    exact Nat.le_of_lt(Nat.lt_of_le_of_lt(Nat.mul_le_mul_right _((bitLen_spec A).2 hA)) h))
   have:=Za1 hA
   omega
  unfold upN
  omega
 have h1:A*2^upN A B/B<2^(upN A B-J):=by
  rw[Nat.div_lt_iff_lt_mul(by omega)]
  have e:2^upN A B=2^J*2^(upN A B-J):=by rw[← Nat.pow_add];congr 1;omega
  rw[e,← Nat.mul_assoc,Nat.mul_comm(2^(upN A B-J))]
  exact Nat.mul_lt_mul_of_pos_right h(Nat.pow_pos(by omega))
 have h2:=len_le h1
 have l1:bitLen 1=1:=Zbk(k:=0)(by decide)(by decide)
 obtain⟨a1,a2⟩:=Zdr(m:=m)(neg:=n) hT(by rw[Zus hq];omega)
 obtain⟨b1,b2⟩:=Zdr(m:=m)(neg:=n)(T:=1)(E:= -3000)(by decide)(by unfold lgN;rw[l1];decide)
 exact⟨a1.trans b1.symm,a2.trans b2.symm⟩
theorem Zhl{e J i:Nat}(h1:28*i≤e)(h2:J≤93*i):2^J≤10^e:=by
 have h:(2:Nat)^93≤10^28:=by decide
 have h3:((2:Nat)^93)^i≤(10^28)^i:=Nat.pow_le_pow_left h i
 rw[← Nat.pow_mul,← Nat.pow_mul] at h3
 exact Nat.le_trans(Nat.pow_le_pow_right(by omega) h2)(Nat.le_trans h3(Nat.pow_le_pow_right(by omega) h1))
def deP(m:Int)(n:Bool)(A:Nat)(j:Int):Int:=rqP m n(A*10^j.toNat)(10^(-j).toNat)
def deF(m:Int)(n:Bool)(A:Nat)(j:Int):Int:=rqF m n(A*10^j.toNat)(10^(-j).toNat)
theorem ZbI(j:Nat):10^j≠0:=fun h=>by have:=Nat.pow_pos(n:=j)(show 0<10 by omega);omega
theorem Zgu{A B:Nat}(hA:A≠0)(hB:B≠0):A*B≠0:=fun h=>(Nat.mul_eq_zero.1 h).elim hA hB
theorem Zpu(m:Int)(n:Bool){A:Nat}(hA:A≠0)(c:Nat)(j:Int):deP m n(A*10^c)(j-c)=deP m n A j∧deF m n(A*10^c)(j-c)=deF m n A j:=by
 obtain⟨d,hd⟩:∃ d:Nat,(-(j-c)).toNat=(-j).toNat+d∧c+(j-c).toNat=j.toNat+d:=⟨(-(j-c)).toNat-(-j).toNat,by omega,by omega⟩
 have e1:A*10^c*10^(j-c).toNat=A*10^j.toNat*10^d:=by rw[Nat.mul_assoc,← Nat.pow_add,hd.2,Nat.pow_add,Nat.mul_assoc]
 unfold deP deF
 rw[e1,hd.1,Nat.pow_add]
 exact Zl7(Zgu hA(ZbI _))(ZbI _)(Nat.pow_pos(by omega))
theorem Zl8(m:Int)(n:Bool){A L:Nat}{j:Int}(h:10^L≤A)(hj:309≤j+(L:Int)):deP m n A j=bey m n∧deF m n A j=20:=by
 have hA:A≠0:=fun h0=>by rw[h0] at h;exact ZbI L(Nat.le_zero.1 h)
 obtain⟨e,he⟩:∃ e:Nat,e+(-j).toNat=L+j.toNat∧309≤e:=⟨L+j.toNat-(-j).toNat,by omega,by omega⟩
 obtain⟨J,hJ⟩:∃ J,J=1023:=⟨_,rfl⟩
 obtain⟨E,hE⟩:∃ E,E=308:=⟨_,rfl⟩
 have h2:2^(J+1)≤10^e:=by
  have h3:=Zhl(e:=E)(J:=J)(i:=11)(by omega)(by omega)
  refine Nat.le_trans ?_(Nat.pow_le_pow_right(by omega)(show E+1≤e by omega))
  rw[Nat.pow_succ,Nat.pow_succ]
  omega
 refine ZzQ(J:=J+1)(Zgu hA(ZbI _))(ZbI _)(by omega) ?_
 refine Nat.le_trans(Nat.mul_le_mul_left _ h2) ?_
 rw[← Nat.pow_add,Nat.add_comm,he.1,Nat.pow_add]
 exact Nat.mul_le_mul_right _ h
theorem Zl9(m:Int)(n:Bool){A L:Nat}{j:Int}(hA:A≠0)(h:A<10^L)(hj:j+(L:Int)≤ -336):deP m n A j=rnP m n 1(-3000)∧deF m n A j=rnF m n 1(-3000):=by
 obtain⟨e,he⟩:∃ e:Nat,L+e=(-j).toNat∧336≤e:=⟨(-j).toNat-L,by omega,by omega⟩
 obtain⟨J,hJ⟩:∃ J,J=1099:=⟨_,rfl⟩
 have h2:2^J≤10^e:=Zhl(i:=12)(by omega)(by omega)
 have hz:j.toNat=0:=by omega
 unfold deP deF
 rw[hz,Nat.pow_zero,Nat.mul_one]
 refine ZzR(J:=J) hA(ZbI _)(by omega) ?_
 rw[← he.1,Nat.pow_add]
 exact Nat.lt_of_lt_of_le(Nat.mul_lt_mul_of_pos_right h(Nat.pow_pos(by omega)))(Nat.mul_le_mul_left _ h2)
theorem Zgv{b:Int}{c:UInt8}{r:List UInt8}(h:0<ZJ(lq8 c) b):b.toNat^r.length≤nmB b(c::r):=by
 have key:∀ (r:List UInt8)(a:Nat),a*b.toNat^r.length≤r.foldl(fun a c=>a*b.toNat+(ZJ(lq8 c) b).toNat) a:=by
  intro r
  induction r with
  | nil=>intro a;simp
  | cons x r ih=>
   intro a
   rw[List.length_cons,Nat.pow_succ,Nat.mul_comm(b.toNat^r.length),← Nat.mul_assoc,List.foldl_cons]
   exact Nat.le_trans(Nat.mul_le_mul_right _(Nat.le_add_right _ _))(ih _)
 unfold nmB
 rw[List.foldl_cons]
 refine Nat.le_trans ?_(key r _)
 exact Nat.le_mul_of_pos_left _(by rw[Nat.zero_mul];omega)
theorem ZzS(m:Int)(n:Bool){c:UInt8}{r:List UInt8}{k P:Int}(h:0<ZJ(lq8 c) 10):rnP m n(dnA 10(c::r) k P).1(dnA 10(c::r) k P).2=deP m n(nmB 10(c::r))(P-k)∧rnF m n(dnA 10(c::r) k P).1(dnA 10(c::r) k P).2=deF m n(nmB 10(c::r))(P-k):=by
 have hp:=Zbp(b:=10)(.inl rfl)(r:=r) h
 have hg:=Zgv(b:=10)(r:=r) h
 have hl:=Zds(b:=10)(.inl rfl)(c::r)
 have e10:(10:Int).toNat=10:=rfl
 rw[e10] at hg hl
 have l1:bitLen 1=1:=Zbk(k:=0)(by decide)(by decide)
 unfold dnA
 rw[if_neg(by decide)]
 split
 ·rename_i h1
  rw[List.length_cons] at h1
  obtain⟨d1,d2⟩:=Zl8 m n(j:=P-k) hg(by omega)
  obtain⟨b1,b2⟩:=ZdT(m:=m)(neg:=n)(T:=1)(E:=3000)(by decide)(by unfold lgN;rw[l1];decide)
  exact⟨b1.trans d1.symm,b2.trans d2.symm⟩
 split
 ·rename_i h1 h2
  obtain⟨d1,d2⟩:=Zl9 m n(j:=P-k)(by omega) hl(by omega)
  exact⟨d1.symm,d2.symm⟩
 split
 ·rename_i h3
  have hz:(-(P-k)).toNat=0:=by omega
  obtain⟨q1,q2⟩:=ZsM m n(nmB 10(c::r)*10^(P-k).toNat)
  unfold deP deF
  rw[hz,Nat.pow_zero]
  exact⟨q1.symm,q2.symm⟩
 ·rename_i h3
  have hz:(P-k).toNat=0:=by omega
  have e:(-(P-k)).toNat=(k-P).toNat:=by omega
  unfold deP deF rqP rqF
  rw[hz,e,Nat.pow_zero,Nat.mul_one]
  exact⟨rfl,rfl⟩
theorem Zpv{m:Int}{neg:Bool}{A d:Nat}{F:Int}(hA:A≠0)(h1:F+d+1≤ -1074)(h2:lgN A F≤ -1024):rnP m neg(stk A d)(F+d-1)=rnP m neg A F∧rnF m neg(stk A d)(F+d-1)=rnF m neg A F:=by
 have hp:0<2^d:=Nat.pow_pos(by omega)
 have hdm:=Nat.div_add_mod A(2^d)
 have hs:stk A d≠0:=by
  unfold stk
  intro h
  have hq:A/2^d=0:=by omega
  rw[hq,Nat.mul_zero,Nat.zero_add] at hdm
  rw[hdm,if_neg hA] at h
  omega
 have hl:lgN(stk A d)(F+d-1)≤ -1024:=by
  by_cases hq:A/2^d=0
  ·have h3:stk A d<2^1:=by unfold stk;rw[hq];split<;>omega
   have:=len_le h3
   unfold lgN
   omega
  ·rw[Zl1 hq];exact h2
 have l1:zx(stk A d)(F+d-1)= -1074:=by unfold zx;rw[if_pos(by omega)]
 have l2:zx A F= -1074:=by unfold zx;rw[if_pos(by omega)]
 have e1:p0 m neg(stk A d)(F+d-1)=p0 m neg A F:=by unfold p0;rw[l1,l2,Zhk m neg A d h1]
 have e2:Zd6 m neg(stk A d)(F+d-1)=Zd6 m neg A F:=by
  unfold Zd6
  rw[if_neg(by omega),if_neg(by omega),decide_eq_true(show lgN(stk A d)(F+d-1)< -1022 by omega),decide_eq_true(show lgN A F< -1022 by omega)]
 unfold rnP rnF
 rw[if_neg hs,if_neg hA,if_neg hs,if_neg hA,e1,l1,l2,Zlz A d h1,e2]
 exact⟨rfl,rfl⟩
theorem ZzT{A B J:Nat}(hA:A≠0)(h:A*2^J<B):J+80≤upN A B:=by
 have h1:bitLen A+J≤bitLen B:=by
  have:=Zct(T:=B)(k:=bitLen A-1+J)(by
   rw[Nat.pow_add]
   exact Nat.le_of_lt(Nat.lt_of_le_of_lt(Nat.mul_le_mul_right _((bitLen_spec A).2 hA)) h))
  have:=Za1 hA
  omega
 unfold upN
 omega
theorem Zut{m:Int}{n:Bool}{A B J K:Nat}(hA:A≠0)(hB:B≠0)(hJ:J=1023)(hK:K=1075)(h:A*2^J<B):rnP m n(dvK A B K)(-(K:Int)-1)=rqP m n A B∧rnF m n(dvK A B K)(-(K:Int)-1)=rqF m n A B:=by
 have hu:=ZzT hA h
 have hb:=Zc3 hA hB
 have hq:A*2^upN A B/B≠0:=fun h0=>by rw[h0] at hb;exact absurd hb(by decide)
 have hT:dvK A B(upN A B)≠0:=fun h0=>by
  unfold dvK at h0
  omega
 have h1:A*2^upN A B/B<2^(upN A B-J):=by
  rw[Nat.div_lt_iff_lt_mul(by omega)]
  have e:2^upN A B=2^J*2^(upN A B-J):=by rw[← Nat.pow_add];congr 1;omega
  rw[e,← Nat.mul_assoc,Nat.mul_comm(2^(upN A B-J))]
  exact Nat.mul_lt_mul_of_pos_right h(Nat.pow_pos(by omega))
 have h2:=len_le h1
 have h3:=Zus hq
 obtain⟨j,hj⟩:∃ j,upN A B=K+j:=⟨upN A B-K,by omega⟩
 unfold rqP rqF
 rw[hj] at hT h3 h2 ⊢
 have r:=Zpv(m:=m)(neg:=n)(A:=dvK A B(K+j))(d:=j+1)(F:= -((K+j:Nat):Int)-1) hT(by omega)(by omega)
 rw[Zl4,show -((K+j:Nat):Int)-1+((j+1:Nat):Int)-1= -(K:Int)-1 by omega] at r
 exact r
theorem ZsN{q C r G k:Nat}(h0:0<r)(h1:r<C)(hk:k≤G):dvK(q*C+r)(10^G*C) k=2*(q*2^k/10^G)+1:=by
 have hC:0<C:=by omega
 have h2:0<2^k:=Nat.pow_pos(by omega)
 obtain⟨H,hH⟩:∃ H,10^G=H*2^k:=⟨2^(G-k)*5^G,by
  rw[show(10:Nat)=2*5 from rfl,Nat.mul_pow,Nat.mul_assoc,Nat.mul_comm(5^G),← Nat.mul_assoc,← Nat.pow_add,show G-k+k=G by omega]⟩
 have e1:10^G*C=C*H*2^k:=by rw[hH,Nat.mul_comm,Nat.mul_assoc]
 have e2:(q*C+r)/C=q:=by rw[Nat.mul_comm,Nat.mul_add_div hC,Nat.div_eq_of_lt h1,Nat.add_zero]
 have e3:(q*C+r) % C=r:=by rw[Nat.mul_comm,Nat.mul_add_mod,Nat.mod_eq_of_lt h1]
 have e4:(q*C+r) % (C*H)≠0:=fun h=>by
  have h3:C ∣ q*C+r:=Nat.dvd_trans⟨H,rfl⟩(Nat.dvd_of_mod_eq_zero h)
  have:=Nat.mod_eq_zero_of_dvd h3
  omega
 unfold dvK
 rw[e1,Nat.mul_div_mul_right _ _ h2,Nat.mul_mod_mul_right,← Nat.div_div_eq_div_mul,e2,hH,Nat.mul_div_mul_right _ _ h2,if_neg(fun h=>(Nat.mul_eq_zero.1 h).elim e4(by omega))]
theorem ZsO{m:Int}{n:Bool}{q C r C' r' G k:Nat}(hr:0<r)(hC:r<C)(hr':0<r')(hC':r'<C')(hk:k≤G)(hb:54≤bitLen(q*2^k/10^G)):rqP m n(q*C+r)(10^G*C)=rqP m n(q*C'+r')(10^G*C')∧rqF m n(q*C+r)(10^G*C)=rqF m n(q*C'+r')(10^G*C'):=by
 have key:∀ {C r:Nat},0<r→r<C→rnP m n(2*(q*2^k/10^G)+1)(-(k:Int)-1)=rqP m n(q*C+r)(10^G*C)∧rnF m n(2*(q*2^k/10^G)+1)(-(k:Int)-1)=rqF m n(q*C+r)(10^G*C):=fun{C r} h0 h1=>by
  have e:=ZsN(q:=q)(G:=G) h0 h1 hk
  have ed:(q*C+r)*2^k/(10^G*C)=q*2^k/10^G:=by unfold dvK at e;split at e<;>omega
  have:=Zl5(m:=m)(n:=n)(A:=q*C+r)(B:=10^G*C)(k:=k)(by omega)(Zgu(ZbI _)(by omega))(by rw[ed];exact hb)
  rw[e] at this
  exact this
 obtain⟨a1,a2⟩:=key hr hC
 obtain⟨b1,b2⟩:=key hr' hC'
 exact⟨a1.symm.trans b1,a2.symm.trans b2⟩
theorem Zuu{m:Int}{n:Bool}{q C r C' r' G J K:Nat}(hr:0<r)(hC:r<C)(hr':0<r')(hC':r'<C')(hJ:J=1023)(hK:K=1075)(hk:K≤G)(hb:(q+1)*2^J≤10^G):rqP m n(q*C+r)(10^G*C)=rqP m n(q*C'+r')(10^G*C')∧rqF m n(q*C+r)(10^G*C)=rqF m n(q*C'+r')(10^G*C'):=by
 have key:∀ {C r:Nat},0<r→r<C→rnP m n(2*(q*2^K/10^G)+1)(-(K:Int)-1)=rqP m n(q*C+r)(10^G*C)∧rnF m n(2*(q*2^K/10^G)+1)(-(K:Int)-1)=rqF m n(q*C+r)(10^G*C):=fun{C r} h0 h1=>by
  have e:=ZsN(q:=q)(G:=G) h0 h1 hk
  have h3:(q*C+r)*2^J<10^G*C:=by
   have h4:q*C+r<(q+1)*C:=by rw[Nat.add_mul,Nat.one_mul];omega
   refine Nat.lt_of_lt_of_le(Nat.mul_lt_mul_of_pos_right h4(Nat.pow_pos(by omega))) ?_
   rw[Nat.mul_right_comm]
   exact Nat.mul_le_mul_right _ hb
  have:=Zut(m:=m)(n:=n)(A:=q*C+r)(B:=10^G*C)(by omega)(Zgu(ZbI _)(by omega)) hJ hK h3
  rw[e] at this
  exact this
 obtain⟨a1,a2⟩:=key hr hC
 obtain⟨b1,b2⟩:=key hr' hC'
 exact⟨a1.symm.trans b1,a2.symm.trans b2⟩
theorem ZzU{j i:Nat}(h:j≤3*i):(10:Nat)^j≤2^(10*i):=by
 refine Nat.le_trans(Nat.pow_le_pow_right(by omega) h) ?_
 rw[Nat.pow_mul,Nat.pow_mul]
 exact Nat.pow_le_pow_left(by decide) i
theorem Zpw{m:Int}{n:Bool}{q C r C' r' M G:Nat}{a:Int}(hM:M=799)(hG:(G:Int)=800-a)(ha:a≤400)(hq:10^M≤q)(hq':q<10^(M+1))(hr:0<r)(hC:r<C)(hr':0<r')(hC':r'<C'):rqP m n(q*C+r)(10^G*C)=rqP m n(q*C'+r')(10^G*C')∧rqF m n(q*C+r)(10^G*C)=rqF m n(q*C'+r')(10^G*C'):=by
 by_cases h1:1≤a
 ·refine ZsO(k:=53) hr hC hr' hC'(by omega)(Zct(k:=53) ?_)
  rw[Nat.le_div_iff_mul_le(Nat.pow_pos(by omega)),Nat.mul_comm]
  exact Nat.mul_le_mul_right _(Nat.le_trans(Nat.pow_le_pow_right(by omega)(by omega)) hq)
 obtain⟨b,hb⟩:∃ b:Nat,a= -(b:Int):=⟨(-a).toNat,by omega⟩
 have eG:G=M+(b+1):=by omega
 by_cases h2:b≤315
 ·refine ZsO(k:=53+10*((b+3)/3)) hr hC hr' hC'(by omega)(Zct(k:=53) ?_)
  rw[Nat.le_div_iff_mul_le(Nat.pow_pos(by omega)),eG,Nat.pow_add,Nat.pow_add 2,Nat.mul_left_comm,Nat.mul_left_comm q]
  rw[Nat.mul_left_comm]
  refine Nat.mul_le_mul_left _(Nat.mul_le_mul hq ?_)
  exact ZzU(by omega)
 ·obtain⟨J,hJ⟩:∃ J,J=1023:=⟨_,rfl⟩
  obtain⟨K,hK⟩:∃ K,K=1075:=⟨_,rfl⟩
  refine Zuu(J:=J)(K:=K) hr hC hr' hC' hJ hK(by omega) ?_
  rw[show G=(M+1)+b by omega,Nat.pow_add]
  exact Nat.mul_le_mul hq'(Zhl(i:=11)(by omega)(by omega))
def chD(d:Nat):UInt8:=UInt8.ofNat(48+d)
def ZfZ:Nat→Nat→List UInt8
 | 0,_=>[]
 | f+1,n=>if n<10 then [chD n] else ZfZ f(n/10)++[chD(n % 10)]
def dcL(n:Nat):List UInt8:=ZfZ 20 n
theorem Zuv{d:Nat}(h:d<10):lq8(chD d)=((48+d:Nat):Int):=by
 unfold lq8 chD
 rw[UInt8.toNat_ofNat']
 omega
theorem ZlA{d:Nat}(h:d<10)(b:Int):ZJ(lq8(chD d)) b=(d:Int):=by
 rw[Zuv h]
 unfold ZJ
 rw[if_pos(by omega)]
 omega
theorem Zin{d:Nat}(h:d<10):(([48,49,50,51,52,53,54,55,56,57]:List UInt8).drop d).take 1=[chD d]:=by
 have key:∀ x:Fin 10,(([48,49,50,51,52,53,54,55,56,57]:List UInt8).drop x.1).take 1=[chD x.1]:=by decide
 exact key⟨d,h⟩
theorem Zpx(f n:Nat)(b:Int):zi b(ZfZ f n)=true:=by
 induction f generalizing n with
 | zero=>rfl
 | succ f ih=>
  unfold ZfZ
  split
  ·rename_i h
   unfold zi
   rw[List.all_cons,ZlA h,decide_eq_true(by omega)]
   rfl
  ·unfold zi
   rw[List.all_append]
   have:=ih(n/10)
   unfold zi at this
   rw[this,List.all_cons,ZlA(show n % 10<10 by omega),decide_eq_true(by omega)]
   rfl
theorem Zpy(f n:Nat):(ZfZ f n).length≤f:=by
 induction f generalizing n with
 | zero=>exact Nat.le_refl _
 | succ f ih=>
  unfold ZfZ
  split
  ·rw[List.length_singleton];omega
  ·rw[List.length_append,List.length_singleton]
   have:=ih(n/10)
   omega
theorem ZzV{n:Nat}(h:n<18446744073709551616):n<10^20:=Nat.lt_trans h(by decide)
theorem ZsP(n:Nat):dcL n≠[]:=by
 unfold dcL ZfZ
 split
 ·simp
 ·simp
theorem Z5m(b:Int):ZJ 46 b= -1:=by
 unfold ZJ
 rw[if_neg(by omega),if_neg(by omega)]
theorem ZzW(b:Int)(r:List UInt8):sc1 b false(46::r)=sc1 b true r:=by
 rw[sc1,if_pos⟨by rfl,rfl⟩]
theorem Zuw(b:Int)(p:Bool):sc1 b p []=([],0,[]):=by rw[sc1]
theorem ZlB{b:Int}{A:List UInt8}(h:zi b A=true)(p:Bool)(r:List UInt8):sc1 b p(A++r)=(A++(sc1 b p r).1,(if p=true then A.length else 0)+(sc1 b p r).2.1,(sc1 b p r).2.2):=by
 induction A with
 | nil=>simp
 | cons c A ih=>
  unfold zi at h ih
  rw[List.all_cons,Bool.and_eq_true] at h
  have h1:=of_decide_eq_true h.1
  have h46:lq8 c≠46:=fun h'=>by rw[h',Z5m] at h1;omega
  rw[List.cons_append,sc1,if_neg(fun h'=>h46 h'.1),if_pos h1,ih h.2]
  cases p<;>simp<;>omega
theorem Zhm(b:Int)(l:List UInt8):nmB b(trZ l)=nmB b l:=by
 induction l with
 | nil=>rfl
 | cons c l ih=>
  rw[Zc1]
  by_cases h:lq8 c=48
  ·rw[if_pos h,ih]
   have:ZJ(lq8 c) b=0:=by
    rw[h]
    unfold ZJ
    rw[if_pos(by omega)]
    rfl
   unfold nmB
   rw[List.foldl_cons,this]
   simp
  ·rw[if_neg h]
theorem ZlC{b:Int}(hb:b=10∨b=16){l:List UInt8}(h:zi b l=true):trZ l=[]↔nmB b l=0:=by
 constructor
 ·intro h0
  rw[← Zhm,h0]
  rfl
 ·intro h0
  cases h1:trZ l with
  | nil=>rfl
  | cons c r=>
   have:=Zbp hb(r:=r)(ZaO h h1)
   rw[← h1,Zhm] at this
   omega
def rdN(m:Int)(n:Bool)(A:Nat)(j:Int):Int×Int×Int:=
 if A=0 then(if n=true then 9223372036854775808 else 0,0,0) else(if n=true then 9223372036854775808+deP m n A j else deP m n A j,deF m n A j,0)
theorem Zux{m:Int}{n:Bool}{v:List UInt8}(h:(scA 10 v).2=true):rdQ m n 10 v=rdN m n(nmB 10(sc1 10 false v).1)((scA 10 v).1-((sc1 10 false v).2.1:Nat)):=by
 have ha:=(ZeS 10 false v).2.2
 unfold rdQ rdN
 rw[if_neg(by rw[h];decide)]
 by_cases hz:trZ(sc1 10 false v).1=[]
 ·rw[if_pos hz,if_pos((ZlC(.inl rfl) ha).1 hz)]
 ·rw[if_neg hz,if_neg(fun h0=>hz((ZlC(.inl rfl) ha).2 h0))]
  cases h1:trZ(sc1 10 false v).1 with
  | nil=>exact absurd h1 hz
  | cons c r=>
   obtain⟨d1,d2⟩:=ZzS m n(r:=r)(k:=((sc1 10 false v).2.1:Nat))(P:=(scA 10 v).1)(ZaO ha h1)
   rw[d1,d2,← h1,Zhm]
theorem Zuy(m:Int)(n:Bool)(A:Nat)(j:Int):(rdN m n A j).2.2=0:=by
 unfold rdN
 split<;>rfl
theorem ZlD(b:Int)(k:Nat):zi b(List.replicate k 48)=true:=by
 unfold zi
 rw[List.all_eq_true]
 intro x hx
 rw[List.eq_of_mem_replicate hx]
 exact decide_eq_true(show 0≤ZJ 48 b by unfold ZJ;rw[if_pos(by omega)];omega)
theorem Zio{b:Int}{A B:List UInt8}(hA:zi b A=true)(hB:zi b B=true):zi b(A++B)=true:=by
 unfold zi at*
 rw[List.all_append,hA,hB]
 rfl
theorem ZaP{c:UInt8}(h:0≤ZJ(lq8 c) 10):48≤lq8 c∧lq8 c≤57:=by
 unfold ZJ at h
 split at h
 ·assumption
 ·rw[if_neg(by omega)] at h
  omega
theorem ZlE{c:UInt8}{r:List UInt8}(h:48≤lq8 c∧lq8 c≤57):sgT(c::r)=(false,c::r):=by
 unfold sgT
 dsimp only
 rw[if_neg(by omega),if_neg(by omega)]
theorem ZlF(r:List UInt8):sgT(45::r)=(true,r):=by
 unfold sgT
 dsimp only
 rw[if_pos(by rfl)]
theorem Zip{m:Int}{n:Bool}{l:List UInt8}{c:UInt8}{r:List UInt8}(hl:l.length≤65536)(hs:sgT l=(n,c::r))(hc:48≤lq8 c∧lq8 c≤57)(hr:∀ d∈r,d≠120):rdP m l=rdQ m n 10(c::r):=by
 unfold rdP
 rw[if_neg(by omega),hs]
 dsimp only
 rw[if_neg(fun h=>by cases h;exact absurd hc.2(by decide)),if_neg(fun h=>by cases h;exact absurd hc.2(by decide))]
 have e:rdB(c::r)=(10,c::r):=by
  unfold rdB
  rw[if_neg]
  rintro⟨h1,h2⟩
  cases r with
  | nil=>exact absurd h1(by simp)
  | cons d t=>
   have:[c,d]=[48,120]:=h2
   cases this
   exact hr 120 List.mem_cons_self rfl
 rw[e]
def dvB(c:Int):Int:=if 48≤c∧c≤57 then c-48 else if 97≤c∧c≤102 then c-87 else 16
theorem ZzX(c:Int):0≤dvB c∧dvB c≤16:=by
 unfold dvB
 split
 ·omega
 ·split<;>omega
theorem Zdt{c b:Int}(hb:b=10∨b=16):dvB c<b↔0≤ZJ c b:=by
 unfold dvB ZJ
 split
 ·constructor<;>omega
 ·split
  ·rcases hb with rfl | rfl
   ·rw[if_neg(by omega)];omega
   ·rw[if_pos(by omega)];omega
  ·rw[if_neg(by omega)];omega
theorem ZlG{c b:Int}(h:0≤ZJ c b):ZJ c b=dvB c:=by
 unfold dvB
 unfold ZJ at*
 split
 ·rfl
 ·rename_i h1
  rw[if_neg h1] at h
  split
  ·rename_i h2
   rw[if_pos⟨h2.2.1,h2.2.2⟩]
  ·rename_i h2
   rw[if_neg h2] at h
   omega
theorem Zgw{c d:UInt8}:lq8 c=lq8 d↔c=d:=by
 unfold lq8
 constructor
 ·intro h
  exact UInt8.toNat_inj.1(by omega)
 ·intro h;rw[h]
def Zap(p l:List UInt8):Bool:=decide(p.length≤l.length∧l.take p.length=p)
theorem Zd9(d:UInt8)(l:List UInt8):Zap [d] l=true↔∃ r,l=d::r:=by
 unfold Zap
 rw[decide_eq_true_eq]
 constructor
 ·rintro⟨h1,h2⟩
  cases l with
  | nil=>simp at h1
  | cons c r=>
   simp at h2
   exact⟨r,by rw[h2]⟩
 ·rintro⟨r,rfl⟩
  simp
theorem ZbJ(d:UInt8){c:UInt8}{r:List UInt8}(h:c≠d):Zap [d](c::r)=false:=by
 rw[Bool.eq_false_iff]
 intro h'
 obtain⟨r',e⟩:=(Zd9 d(c::r)).1 h'
 injection e with e1 e2
 exact h e1
theorem ZlH(l:List UInt8):sgT l=if Zap [45] l=true then(true,l.drop 1) else if Zap [43] l=true then(false,l.drop 1) else(false,l):=by
 cases l with
 | nil=>rfl
 | cons c r=>
  have e45:lq8 c=45↔c=45:=Zgw(d:=45)
  have e43:lq8 c=43↔c=43:=Zgw(d:=43)
  rw[sgT]
  by_cases h1:c=45
  ·rw[if_pos(e45.2 h1),if_pos((Zd9 45 _).2⟨r,by rw[h1]⟩)];rfl
  ·rw[if_neg(fun h=>h1(e45.1 h)),ZbJ 45 h1,if_neg(show ¬ (false=true) by decide)]
   by_cases h2:c=43
   ·rw[if_pos(e43.2 h2),if_pos((Zd9 43 _).2⟨r,by rw[h2]⟩)];rfl
   ·rw[if_neg(fun h=>h2(e43.1 h)),ZbJ 43 h2,if_neg(show ¬ (false=true) by decide)]
theorem Zuz(u:List UInt8):rdB u=if Zap [48,120] u=true then(16,u.drop 2) else(10,u):=by
 unfold rdB Zap
 by_cases h:1<u.length∧u.take 2=[48,120]
 ·rw[if_pos h,if_pos(decide_eq_true⟨by simp;omega,h.2⟩)]
 ·rw[if_neg h,if_neg(fun h'=>h(by
   have:=of_decide_eq_true h'
   exact⟨by have:=this.1;simp at this;omega,this.2⟩))]
theorem Zhn(l:List UInt8):(sgT l).2.length≤l.length:=by
 rw[ZlH]
 split
 ·rw[List.length_drop];omega
 ·split
  ·rw[List.length_drop];omega
  ·exact Nat.le_refl _
def en1(b:Int):Bool→List UInt8→Nat
 | _,[]=>0
 | p,c::l=>if dvB(lq8 c)<b then en1 b p l+1 else if lq8 c=46∧p=false then en1 b true l+1 else 0
theorem ZsQ(b:Int)(p:Bool)(l:List UInt8):en1 b p l≤l.length:=by
 induction l generalizing p with
 | nil=>exact Nat.le_refl _
 | cons c l ih=>
  rw[List.length_cons]
  unfold en1
  have h1:=ih p
  have h2:=ih true
  split
  ·omega
  ·split<;>omega
def ctA(l:List UInt8):List UInt8:=if 0≤Lib.indexByte l 46 then l.take(Lib.indexByte l 46).toNat else l
def ctB(l:List UInt8):List UInt8:=if 0≤Lib.indexByte l 46 then l.drop((Lib.indexByte l 46).toNat+1) else []
theorem ZzY(l:List UInt8):ctA(46::l)=[]∧ctB(46::l)=l:=by
 have e:Lib.indexByte(46::l) 46=0:=by unfold Lib.indexByte;rfl
 unfold ctA ctB
 rw[e]
 exact⟨rfl,rfl⟩
theorem Zho{c:UInt8}(h:c≠46)(l:List UInt8):ctA(c::l)=c::ctA l∧ctB(c::l)=ctB l:=by
 have e:Lib.indexByte(c::l) 46=if Lib.indexByte l 46== -1 then -1 else Lib.indexByte l 46+1:=by
  rw[Lib.indexByte,if_neg(by simpa using h)]
 have hg:=Lib.indexByte_ge l 46
 unfold ctA ctB
 by_cases hm:Lib.indexByte l 46= -1
 ·have e':Lib.indexByte(c::l) 46= -1:=by rw[e,hm];rfl
  rw[e',hm,if_neg(by decide),if_neg(by decide),if_neg(by decide),if_neg(by decide)]
  exact⟨rfl,rfl⟩
 ·have e':Lib.indexByte(c::l) 46=Lib.indexByte l 46+1:=by rw[e,if_neg(by simpa using hm)]
  have e2:(Lib.indexByte l 46+1).toNat=(Lib.indexByte l 46).toNat+1:=by omega
  rw[e',if_pos(show 0≤Lib.indexByte l 46+1 by omega),if_pos(show 0≤Lib.indexByte l 46+1 by omega),if_pos(show 0≤Lib.indexByte l 46 by omega),if_pos(show 0≤Lib.indexByte l 46 by omega),e2]
  exact⟨rfl,rfl⟩
theorem Zpz{b:Int}(hb:b=10∨b=16)(l:List UInt8):sc1 b true l=(l.take(en1 b true l),en1 b true l,l.drop(en1 b true l))∧ctA(l.take(en1 b true l))=l.take(en1 b true l)∧ctB(l.take(en1 b true l))=[]:=by
 induction l with
 | nil=>exact⟨rfl,rfl,rfl⟩
 | cons c l ih=>
  obtain⟨i1,i2,i3⟩:=ih
  unfold sc1 en1
  rw[if_neg(by intro h;exact absurd h.2(by decide))]
  by_cases hd:dvB(lq8 c)<b
  ·have hd':=(Zdt hb).1 hd
   have hc:c≠46:=fun h=>by
    rw[h] at hd'
    exact absurd hd'(by rw[show lq8 46=46 from rfl,Z5m];decide)
   rw[if_pos hd',if_pos hd,i1]
   obtain⟨c1,c2⟩:=Zho hc(l.take(en1 b true l))
   refine⟨?_,?_,?_⟩
   ·rw[if_pos rfl,List.take_succ_cons,List.drop_succ_cons,Nat.add_comm]
   ·rw[List.take_succ_cons,c1,i2]
   ·rw[List.take_succ_cons,c2,i3]
  ·rw[if_neg(fun h=>hd((Zdt hb).2 h)),if_neg hd,if_neg(by intro h;exact absurd h.2(by decide))]
   exact⟨rfl,rfl,rfl⟩
theorem ZlI{b:Int}(hb:b=10∨b=16)(l:List UInt8):sc1 b false l=(ctA(l.take(en1 b false l))++ctB(l.take(en1 b false l)),(ctB(l.take(en1 b false l))).length,l.drop(en1 b false l)):=by
 induction l with
 | nil=>rfl
 | cons c l ih=>
  unfold sc1 en1
  by_cases h46:lq8 c=46
  ·have hc:c=46:=(Zgw(d:=46)).1 h46
   have hd:¬ dvB(lq8 c)<b:=fun h=>by
    have:=(Zdt hb).1 h
    rw[h46,Z5m] at this
    exact absurd this(by decide)
   obtain⟨t1,t2,t3⟩:=Zpz hb l
   rw[if_pos⟨h46,rfl⟩,if_neg hd,if_pos⟨h46,rfl⟩,t1,List.take_succ_cons,List.drop_succ_cons,hc,(ZzY _).1,(ZzY _).2,List.nil_append,List.length_take,Nat.min_eq_left(ZsQ b true l)]
  ·have hc:c≠46:=fun h=>h46(by rw[h];rfl)
   rw[if_neg(fun h=>h46 h.1)]
   by_cases hd:dvB(lq8 c)<b
   ·rw[if_pos((Zdt hb).1 hd),if_pos hd,ih,List.take_succ_cons,List.drop_succ_cons,(Zho hc _).1,(Zho hc _).2,if_neg(by decide),Nat.zero_add,List.cons_append]
   ·rw[if_neg(fun h=>hd((Zdt hb).2 h)),if_neg hd,if_neg(fun h=>h46 h.1)]
    rfl
theorem Zgx(M:Nat)(f:UInt8→Nat)(l:List UInt8)(a:Nat):l.foldl(fun a c=>min(a*10+f c) M)(min a M)=min(l.foldl(fun a c=>a*10+f c) a) M:=by
 induction l generalizing a with
 | nil=>rfl
 | cons c l ih=>
  rw[List.foldl_cons,List.foldl_cons,← ih(a*10+f c)]
  congr 1
  omega
def pwM(M:Nat):Nat→List UInt8→Nat×Bool
 | a,[]=>(a,true)
 | a,c::l=>if dvB(lq8 c)<10 then pwM M(min(a*10+(dvB(lq8 c)).toNat) M) l else(0,false)
theorem Zc4(b:Int)(c:UInt8)(l:List UInt8):zi b(c::l)=(decide(0≤ZJ(lq8 c) b) && zi b l):=rfl
theorem Zu0(M a:Nat)(l:List UInt8):(pwM M a l).2=zi 10 l:=by
 induction l generalizing a with
 | nil=>rfl
 | cons c l ih=>
  unfold pwM
  rw[Zc4]
  by_cases h:dvB(lq8 c)<10
  ·rw[if_pos h,ih,decide_eq_true((Zdt(.inl rfl)).1 h),Bool.true_and]
  ·rw[if_neg h,decide_eq_false(fun h'=>h((Zdt(.inl rfl)).2 h')),Bool.false_and]
theorem ZlJ(a:Nat)(l:List UInt8):(pw1 a l).2=zi 10 l:=by
 induction l generalizing a with
 | nil=>rfl
 | cons c l ih=>
  unfold pw1
  rw[Zc4]
  by_cases h:0≤ZJ(lq8 c) 10
  ·rw[if_pos h,ih,decide_eq_true h,Bool.true_and]
  ·rw[if_neg h,decide_eq_false h,Bool.false_and]
theorem Zp0{M a:Nat}{l:List UInt8}(h:zi 10 l=true):(pwM M a l).1=l.foldl(fun a c=>min(a*10+(ZJ(lq8 c) 10).toNat) M) a:=by
 induction l generalizing a with
 | nil=>rfl
 | cons c l ih=>
  rw[Zc4,Bool.and_eq_true,decide_eq_true_eq] at h
  unfold pwM
  rw[if_pos((Zdt(.inl rfl)).2 h.1),ih h.2,List.foldl_cons,ZlG h.1]
theorem Zp1{a:Nat}{l:List UInt8}(h:zi 10 l=true):(pw1 a l).1=l.foldl(fun a c=>min(a*10+(ZJ(lq8 c) 10).toNat) 2000000) a:=by
 induction l generalizing a with
 | nil=>rfl
 | cons c l ih=>
  rw[Zc4,Bool.and_eq_true,decide_eq_true_eq] at h
  unfold pw1
  rw[if_pos h.1,ih h.2,List.foldl_cons,Nat.mul_comm 10 a]
theorem Zu1{M:Nat}{l:List UInt8}(h:zi 10 l=true):(pwM M 0 l).1=min(nmB 10 l) M:=by
 have:=Zgx M(fun c=>(ZJ(lq8 c) 10).toNat) l 0
 rw[Nat.zero_min] at this
 rw[Zp0 h,this]
 rfl
theorem Zu2{l:List UInt8}(h:zi 10 l=true):(pw1 0 l).1=min(nmB 10 l) 2000000:=by
 have:=Zgx 2000000(fun c=>(ZJ(lq8 c) 10).toNat) l 0
 rw[Nat.zero_min] at this
 rw[Zp1 h,this]
 rfl
theorem ZzZ{M a:Nat}(h:a≤M)(l:List UInt8):(pwM M a l).1≤M:=by
 induction l generalizing a with
 | nil=>exact h
 | cons c l ih=>
  unfold pwM
  split
  ·exact ih(Nat.min_le_right _ _)
  ·exact Nat.zero_le _
def wnP(l:List UInt8):Int:=if(sgT l).1=true then -((pwM 10000000 0(sgT l).2).1:Nat) else((pwM 10000000 0(sgT l).2).1:Nat)
def wnK(l:List UInt8):Bool:=zi 10(sgT l).2 && decide((sgT l).2≠[])
theorem ZsR(l:List UInt8): -10000000≤wnP l∧wnP l≤10000000:=by
 have:=ZzZ(M:=10000000)(a:=0)(Nat.zero_le _)(sgT l).2
 unfold wnP
 split<;>omega
def Zgy(x y:Int):Prop:=x=y∨(2000000≤x∧2000000≤y)∨(x≤ -2000000∧y≤ -2000000)
def pwK(b:Int)(r:List UInt8):Bool:=if r=[] then decide(b=10) else Zap [if b=16 then 112 else 101] r && wnK(r.drop 1)
def pwP(r:List UInt8):Int:=if r=[] then 0 else wnP(r.drop 1)
theorem Ziq{b:Int}(hb:b=10∨b=16)(r:List UInt8):pwK b r=(scE b r).2∧(pwK b r=true→Zgy(pwP r)(scE b r).1):=by
 cases r with
 | nil=>
  unfold pwK pwP scE
  rw[if_pos rfl,if_pos rfl]
  exact⟨rfl,fun _=> .inl rfl⟩
 | cons c r=>
  have hne:¬ (c::r=[]):=by simp
  unfold pwK pwP
  rw[scE,if_neg hne,if_neg hne,List.drop_succ_cons,List.drop_zero]
  by_cases hc:(b=10∧lq8 c≠101)∨(b=16∧lq8 c≠112)
  ·have:Zap [if b=16 then 112 else 101](c::r)=false:=by
    refine ZbJ _ fun h=> ?_
    rcases hc with⟨h1,h2⟩ | ⟨h1,h2⟩
    ·rw[if_neg(by omega)] at h
     exact h2(by rw[h];rfl)
    ·rw[if_pos h1] at h
     exact h2(by rw[h];rfl)
   rw[if_pos hc,this]
   exact⟨rfl,fun h=>by cases h⟩
  ·have hP:Zap [if b=16 then 112 else 101](c::r)=true:=by
    refine(Zd9 _ _).2⟨r,?_⟩
    rcases hb with rfl | rfl
    ·rw[if_neg(by decide)]
     have:lq8 c=lq8 101:=by
      rcases Classical.em(lq8 c=101) with h | h
      ·exact h
      ·exact absurd(.inl⟨rfl,h⟩) hc
     rw[Zgw.1 this]
    ·rw[if_pos rfl]
     have:lq8 c=lq8 112:=by
      rcases Classical.em(lq8 c=112) with h | h
      ·exact h
      ·exact absurd(.inr⟨rfl,h⟩) hc
     rw[Zgw.1 this]
   rw[if_neg hc,hP,Bool.true_and]
   unfold wnK wnP
   by_cases he:(sgT r).2=[]
   ·rw[if_pos he,he]
    exact⟨rfl,fun h=>by cases h⟩
   ·rw[if_neg he,decide_eq_true he,Bool.and_true]
    cases ha:zi 10(sgT r).2 with
    | false=>
     rw[if_pos(by rw[ZlJ,ha])]
     exact⟨rfl,fun h=>by cases h⟩
    | true=>
     rw[if_neg(by rw[ZlJ,ha];decide)]
     refine⟨rfl,fun _=> ?_⟩
     rw[Zu1 ha,Zu2 ha]
     unfold Zgy
     dsimp only
     split<;>omega
def trR(l:List UInt8):List UInt8:=(l.reverse.dropWhile fun c=>lq8 c==48).reverse
theorem Zu3:trR []=[]:=rfl
theorem ZbV(l:List UInt8)(c:UInt8):trR(l++[c])=if lq8 c=48 then trR l else l++[c]:=by
 unfold trR
 rw[List.reverse_append,List.reverse_singleton,List.singleton_append,List.dropWhile_cons]
 by_cases h:lq8 c=48
 ·rw[if_pos(by simpa using h),if_pos h]
 ·rw[if_neg(by simpa using h),if_neg h,List.reverse_cons,List.reverse_reverse]
theorem ZdA{P:List UInt8→Prop}(h0:P [])(h1:∀ l c,P l→P(l++[c]))(l:List UInt8):P l:=by
 have key:∀ k(l:List UInt8),l.length=k→P l:=by
  intro k
  induction k with
  | zero=>intro l hl;rw[List.eq_nil_of_length_eq_zero hl];exact h0
  | succ k ih=>
   intro l hl
   have hne:l≠[]:=fun h=>by rw[h] at hl;cases hl
   rw[← List.dropLast_concat_getLast hne]
   exact h1 _ _(ih _(by rw[List.length_dropLast];omega))
 exact key _ l rfl
theorem Zf6(l:List UInt8):(trR l).length≤l.length:=by
 unfold trR
 rw[List.length_reverse]
 have:=(List.dropWhile_sublist(l:=l.reverse) fun c=>lq8 c==48).length_le
 rw[List.length_reverse] at this
 exact this
theorem ZlK{b:Int}(l:List UInt8):nmB b l=nmB b(trR l)*b.toNat^(l.length-(trR l).length):=by
 refine ZdA(P:=fun l=>nmB b l=nmB b(trR l)*b.toNat^(l.length-(trR l).length)) ?_ ?_ l
 ·rfl
 ·intro l c ih
  rw[ZbV]
  by_cases h:lq8 c=48
  ·have hd:(ZJ 48 b).toNat=0:=by unfold ZJ;rw[if_pos(by omega)];rfl
   have:=Zf6 l
   rw[if_pos h,ZaN,h,hd,Nat.add_zero,ih,Nat.mul_assoc,← Nat.pow_succ,List.length_append,List.length_singleton]
   congr 2
   omega
  ·rw[if_neg h,Nat.sub_self,Nat.pow_zero,Nat.mul_one]
theorem Zhp{b:Int}{l:List UInt8}(h:zi b l=true):zi b(trR l)=true:=by
 unfold zi at*
 rw[List.all_eq_true] at*
 intro x hx
 unfold trR at hx
 have:=(List.dropWhile_sublist _).subset(List.mem_reverse.1 hx)
 exact h x(List.mem_reverse.1 this)
theorem Zir{l r:List UInt8}{c:UInt8}(h:trR l=r++[c]):lq8 c≠48:=by
 have key:∀ l:List UInt8,∀ r c,trR l=r++[c]→lq8 c≠48:=by
  intro l
  refine ZdA(P:=fun l=>∀ r c,trR l=r++[c]→lq8 c≠48) ?_ ?_ l
  ·intro r c h
   rw[Zu3] at h
   exact absurd h(by simp)
  ·intro l d ih r c h
   rw[ZbV] at h
   by_cases h1:lq8 d=48
   ·rw[if_pos h1] at h
    exact ih r c h
   ·rw[if_neg h1] at h
    have:=(List.append_inj' h rfl).2
    injection this with e
    rw[← e]
    exact h1
 exact key l r c h
theorem Zc5{b:Int}{c:UInt8}{r:List UInt8}(h:0<ZJ(lq8 c) b):∃ r',trR(c::r)=c::r':=by
 have key:∀ r:List UInt8,∃ r',trR(c::r)=c::r':=by
  intro r
  refine ZdA(P:=fun r=>∃ r',trR(c::r)=c::r') ?_ ?_ r
  ·have h48:lq8 c≠48:=fun h0=>by
    rw[h0] at h
    unfold ZJ at h
    rw[if_pos(by omega)] at h
    omega
   refine⟨[],?_⟩
   have:=ZbV [] c
   rw[if_neg h48] at this
   exact this
  ·intro l d ih
   have:=ZbV(c::l) d
   rw[List.cons_append] at this
   rw[this]
   split
   ·exact ih
   ·exact⟨_,rfl⟩
 exact key r
def shR(k:Nat)(l:List UInt8):List UInt8:=if l.length≤k then l else l.take k++[49]
theorem Zu4(b:Int)(x y:List UInt8):nmB b(x++y)=nmB b x*b.toNat^y.length+nmB b y:=by
 refine ZdA(P:=fun y=>nmB b(x++y)=nmB b x*b.toNat^y.length+nmB b y) ?_ ?_ y
 ·rw[List.append_nil]
  show nmB b x=nmB b x*1+0
  omega
 ·intro l c ih
  rw[← List.append_assoc,ZaN,ZaN,ih,List.length_append,List.length_singleton,Nat.pow_succ,Nat.add_mul,Nat.mul_assoc,Nat.add_assoc]
theorem Zp2{b:Int}{l:List UInt8}{c:UInt8}(h:zi b(l++[c])=true)(h48:lq8 c≠48):0<nmB b(l++[c]):=by
 have h1:0≤ZJ(lq8 c) b:=by
  unfold zi at h
  exact of_decide_eq_true(List.all_eq_true.1 h c(List.mem_append.2(.inr(List.mem_singleton.2 rfl))))
 have h2:0<ZJ(lq8 c) b:=by
  have:=ZlG h1
  unfold ZJ at*
  split
  ·omega
  ·rename_i h3
   rw[if_neg h3] at h1
   split
   ·omega
   ·rename_i h4
    rw[if_neg h4] at h1
    omega
 rw[ZaN]
 omega
theorem Zgz{b:Int}(hb:b=10∨b=16){l:List UInt8}{k:Nat}(hk:k<l.length)(ha:zi b l=true)(hl:∀ r c,l=r++[c]→lq8 c≠48):nmB b l=nmB b(l.take k)*b.toNat^(l.length-k)+nmB b(l.drop k)∧0<nmB b(l.drop k)∧nmB b(l.drop k)<b.toNat^(l.length-k):=by
 have e:=Zu4 b(l.take k)(l.drop k)
 rw[List.take_append_drop,List.length_drop] at e
 refine⟨e,?_,?_⟩
 ·have hne:l.drop k≠[]:=fun h=>by
   have:=congrArg List.length h
   rw[List.length_drop] at this
   simp at this
   omega
  have e2:=(List.dropLast_concat_getLast hne).symm
  rw[e2]
  refine Zp2 ?_ ?_
  ·rw[← e2]
   unfold zi at*
   rw[List.all_eq_true] at*
   exact fun x hx=>ha x(List.mem_of_mem_drop hx)
  ·exact hl(l.take k++(l.drop k).dropLast) _(by rw[List.append_assoc,← e2,List.take_append_drop])
 ·have:=Zds hb(l.drop k)
  rw[List.length_drop] at this
  exact this
theorem ZsS(b:Int):(ZJ(lq8 49) b).toNat=1:=by unfold ZJ;rw[if_pos(by decide)];rfl
def nuD(l:List UInt8):List UInt8:=trR(trZ l)
theorem Zu5{m:Int}{n:Bool}{D:List UInt8}{E:Int}(ha:zi 16 D=true)(hl:∀ r c,D=r++[c]→lq8 c≠48){c:UInt8}{r:List UInt8}(hD:D=c::r)(hc:0<ZJ(lq8 c) 16):
  rnP m n(nmB 16(shR 60 D))(E-4*((shR 60 D).length:Nat))=rnP m n(nmB 16 D)(E-4*(D.length:Nat))∧rnF m n(nmB 16(shR 60 D))(E-4*((shR 60 D).length:Nat))=rnF m n(nmB 16 D)(E-4*(D.length:Nat)):=by
 unfold shR
 by_cases hk:D.length≤60
 ·rw[if_pos hk];exact⟨rfl,rfl⟩
 rw[if_neg hk]
 obtain⟨p1,p2,p3⟩:=Zgz(.inr rfl)(k:=60)(by omega) ha hl
 have hq:2^53≤nmB 16(D.take 60):=by
  have e:D.take 60=c::r.take 59:=by rw[hD];rfl
  have:=Zgv(b:=16)(r:=r.take 59) hc
  have hlen:(r.take 59).length=59:=by
   rw[List.length_take]
   rw[hD,List.length_cons] at hk
   omega
  rw[hlen] at this
  rw[e]
  exact Nat.le_trans(by decide) this
 have hb:=Zct hq
 obtain⟨q,hqe⟩:∃ q,q=nmB 16(D.take 60):=⟨_,rfl⟩
 obtain⟨s,hse⟩:∃ s,s=nmB 16(D.drop 60):=⟨_,rfl⟩
 obtain⟨L,hL⟩:∃ L,L=D.length:=⟨_,rfl⟩
 rw[← hqe] at p1 hb
 rw[← hse] at p1 p2 p3
 rw[← hL] at p1 p3
 have e16:(16:Int).toNat^(L-60)=2^(4*(L-60)):=by rw[Nat.pow_mul];rfl
 rw[e16] at p1 p3
 have hp:0<2^(4*(L-60)):=Nat.pow_pos(by omega)
 have d1:nmB 16 D/2^(4*(L-60))=q:=by rw[p1,Nat.mul_comm,Nat.mul_add_div hp,Nat.div_eq_of_lt p3,Nat.add_zero]
 have d2:nmB 16 D % 2^(4*(L-60))=s:=by rw[p1,Nat.mul_comm,Nat.mul_add_mod,Nat.mod_eq_of_lt p3]
 have a1:=Zcz(m:=m)(neg:=n)(A:=nmB 16 D)(d:=4*(L-60))(F:=E-4*(L:Nat))(.inr(by rw[d1];omega))
 have s1:stk(nmB 16 D)(4*(L-60))=2*q+1:=by unfold stk;rw[d1,d2,if_neg(by omega)]
 have e2:nmB 16(D.take 60++[49])=q*16+1:=by rw[ZaN,ZsS,hqe];rfl
 have hlen:(D.take 60++[49]).length=61:=by rw[List.length_append,List.length_take,List.length_singleton];omega
 have d3:(q*16+1)/2^4=q:=by omega
 have d4:(q*16+1) % 2^4=1:=by omega
 have a2:=Zcz(m:=m)(neg:=n)(A:=q*16+1)(d:=4)(F:=E-4*61)(.inr(by rw[d3];omega))
 have s2:stk(q*16+1) 4=2*q+1:=by unfold stk;rw[d3,d4,if_neg(by omega)]
 rw[s1,show E-4*(L:Nat)+((4*(L-60):Nat):Int)-1=E-241 by omega] at a1
 rw[s2,show E-4*61+((4:Nat):Int)-1=E-241 by omega] at a2
 rw[e2,hlen,← hL]
 exact⟨a2.1.symm.trans a1.1,a2.2.symm.trans a1.2⟩
theorem ZlL{b:Int}(hb:b=10∨b=16)(l:List UInt8):bitLen(nmB b l)≤4*l.length:=len_le(ZdU hb l)
theorem Zu6{m:Int}{n:Bool}{A k:Nat}{x y z:Int}(hA:A≠0)(hk:bitLen A≤k)(hz: -100000≤z∧z+k≤100000)(h:Zgy x y):rnP m n A(x+z)=rnP m n A(y+z)∧rnF m n A(x+z)=rnF m n A(y+z):=by
 have h1:=Za1 hA
 rcases h with h | ⟨h2,h3⟩ | ⟨h2,h3⟩
 ·rw[h];exact⟨rfl,rfl⟩
 ·obtain⟨a1,a2⟩:=ZdT(m:=m)(neg:=n)(E:=x+z) hA(by unfold lgN;omega)
  obtain⟨b1,b2⟩:=ZdT(m:=m)(neg:=n)(E:=y+z) hA(by unfold lgN;omega)
  exact⟨a1.trans b1.symm,a2.trans b2.symm⟩
 ·obtain⟨a1,a2⟩:=Zdr(m:=m)(neg:=n)(E:=x+z) hA(by unfold lgN;omega)
  obtain⟨b1,b2⟩:=Zdr(m:=m)(neg:=n)(E:=y+z) hA(by unfold lgN;omega)
  exact⟨a1.trans b1.symm,a2.trans b2.symm⟩
theorem Zp3{m:Int}{n:Bool}{l:List UInt8}(hl:l.length≤10000)(ha:zi 16 l=true)(hz:trZ l≠[]){k:Nat}(hk:k≤l.length){P Q:Int}(hP:Zgy Q P):
  rnP m n(nmB 16(shR 60(nuD l)))(Q+4*(((trZ l).length:Nat)-(k:Int)-((shR 60(nuD l)).length:Nat)))=rnP m n(dnA 16(trZ l) k P).1(dnA 16(trZ l) k P).2∧rnF m n(nmB 16(shR 60(nuD l)))(Q+4*(((trZ l).length:Nat)-(k:Int)-((shR 60(nuD l)).length:Nat)))=rnF m n(dnA 16(trZ l) k P).1(dnA 16(trZ l) k P).2:=by
 obtain⟨c,r,hT⟩:∃ c r,trZ l=c::r:=by
  cases h:trZ l with
  | nil=>exact absurd h hz
  | cons c r=>exact⟨c,r,rfl⟩
 have hc:=ZaO ha hT
 have haT:=Zc0 ha
 obtain⟨r',hr'⟩:=Zc5(b:=16)(r:=r) hc
 have haD:zi 16(nuD l)=true:=Zhp haT
 have hlast:∀ r c,nuD l=r++[c]→lq8 c≠48:=fun r c h=>Zir h
 have eD:nuD l=c::r':=by unfold nuD;rw[hT,hr']
 have lT:=ZcY l
 have lD:=Zf6(trZ l)
 have hcut:=Zu5(m:=m)(n:=n)(E:=Q+4*(((trZ l).length:Nat)-(k:Int))) haD hlast eD hc
 have eE:Q+4*(((trZ l).length:Nat)-(k:Int)-((shR 60(nuD l)).length:Nat))=Q+4*(((trZ l).length:Nat)-(k:Int))-4*((shR 60(nuD l)).length:Nat):=by omega
 rw[eE,hcut.1,hcut.2]
 have hA:nmB 16(nuD l)≠0:=by
  have:=Zbp(b:=16)(.inr rfl)(r:=r') hc
  rw[eD];omega
 have eL:(nuD l).length≤(trZ l).length:=lD
 have hfar:=Zu6(m:=m)(n:=n)(k:=40000)(z:=4*(((trZ l).length:Nat)-(k:Int))-4*((nuD l).length:Nat)) hA(by
  have:=ZlL(b:=16)(.inr rfl)(nuD l)
  omega)(by omega) hP
 rw[show Q+4*(((trZ l).length:Nat)-(k:Int))-4*((nuD l).length:Nat)=Q+(4*(((trZ l).length:Nat)-(k:Int))-4*((nuD l).length:Nat)) by omega,hfar.1,hfar.2]
 have e1:=ZlK(b:=16)(trZ l)
 have e2:(16:Int).toNat^((trZ l).length-(trR(trZ l)).length)=2^(4*((trZ l).length-(nuD l).length)):=by rw[Nat.pow_mul];rfl
 rw[e2] at e1
 have p:=ZaB m n(nmB 16(nuD l))(4*((trZ l).length-(nuD l).length))(P+(4*(((trZ l).length:Nat)-(k:Int))-4*((nuD l).length:Nat)))
 have f:=ZaC m n(nmB 16(nuD l))(4*((trZ l).length-(nuD l).length))(P+(4*(((trZ l).length:Nat)-(k:Int))-4*((nuD l).length:Nat)))
 rw[show P+(4*(((trZ l).length:Nat)-(k:Int))-4*((nuD l).length:Nat))-((4*((trZ l).length-(nuD l).length):Nat):Int)=P-4*k by omega] at p f
 unfold dnA
 rw[if_pos rfl]
 dsimp only
 rw[e1]
 exact⟨p.symm,f.symm⟩
def clF(x:Int):Int:=min(max x(-400)) 400
theorem Zu7{m:Int}{n:Bool}{D:List UInt8}{a a':Int}(ha:zi 10 D=true)(hl:∀ r c,D=r++[c]→lq8 c≠48){c:UInt8}{r:List UInt8}(hD:D=c::r)(hc:0<ZJ(lq8 c) 10)(h:a'=a∨(1000≤a∧1000≤a')∨(a≤ -1000∧a'≤ -1000)):
  deP m n(nmB 10(shR 800 D))(clF a'-((shR 800 D).length:Nat))=deP m n(nmB 10 D)(a-(D.length:Nat))∧deF m n(nmB 10(shR 800 D))(clF a'-((shR 800 D).length:Nat))=deF m n(nmB 10 D)(a-(D.length:Nat)):=by
 have e10:(10:Int).toNat=10:=rfl
 obtain⟨r2,hr2⟩:∃ r2,shR 800 D=c::r2:=by
  unfold shR
  split
  ·exact⟨r,hD⟩
  ·exact⟨_,by rw[hD];rfl⟩
 have g1:=Zgv(b:=10)(r:=r) hc
 have g2:=Zgv(b:=10)(r:=r2) hc
 have u1:=Zds(b:=10)(.inl rfl) D
 have u2:=Zds(b:=10)(.inl rfl)(shR 800 D)
 rw[e10] at g1 g2 u1 u2
 rw[← hD] at g1
 rw[← hr2] at g2
 have n1:nmB 10 D≠0:=by have:=Zbp(b:=10)(.inl rfl)(r:=r) hc;rw[hD];omega
 have n2:nmB 10(shR 800 D)≠0:=by have:=Zbp(b:=10)(.inl rfl)(r:=r2) hc;rw[hr2];omega
 have l1:D.length=r.length+1:=by rw[hD];rfl
 have l2:(shR 800 D).length=r2.length+1:=by rw[hr2];rfl
 by_cases hbig:400<a
 ·have hc4:clF a'=400:=by unfold clF;omega
  obtain⟨a1,a2⟩:=Zl8 m n(j:=clF a'-((shR 800 D).length:Nat)) g2(by omega)
  obtain⟨b1,b2⟩:=Zl8 m n(j:=a-(D.length:Nat)) g1(by omega)
  exact⟨a1.trans b1.symm,a2.trans b2.symm⟩
 by_cases hlow:a< -400
 ·have hc4:clF a'= -400:=by unfold clF;omega
  obtain⟨a1,a2⟩:=Zl9 m n(j:=clF a'-((shR 800 D).length:Nat)) n2 u2(by omega)
  obtain⟨b1,b2⟩:=Zl9 m n(j:=a-(D.length:Nat)) n1 u1(by omega)
  exact⟨a1.trans b1.symm,a2.trans b2.symm⟩
 have hca:clF a'=a:=by unfold clF;omega
 rw[hca]
 unfold shR
 by_cases hk:D.length≤800
 ·rw[if_pos hk];exact⟨rfl,rfl⟩
 rw[if_neg hk]
 obtain⟨p1,p2,p3⟩:=Zgz(.inl rfl)(k:=800)(by omega) ha hl
 rw[e10] at p1 p3
 obtain⟨M,hM⟩:∃ M,M=799:=⟨_,rfl⟩
 have hlt:(D.take 800).length=M+1:=by rw[List.length_take];omega
 have hq:10^M≤nmB 10(D.take 800):=by
  have e:D.take 800=c::r.take 799:=by rw[hD];rfl
  have:=Zgv(b:=10)(r:=r.take 799) hc
  have hlen:(r.take 799).length=M:=by
   rw[List.length_take]
   omega
  rw[hlen,e10] at this
  rw[e]
  exact this
 have hq':nmB 10(D.take 800)<10^(M+1):=by
  have:=Zds(b:=10)(.inl rfl)(D.take 800)
  rw[hlt,e10] at this
  exact this
 obtain⟨G,hG⟩:∃ G:Nat,(G:Int)=800-a:=⟨(800-a).toNat,by omega⟩
 obtain⟨q,hqe⟩:∃ q,q=nmB 10(D.take 800):=⟨_,rfl⟩
 have e2:nmB 10(D.take 800++[49])=q*10+1:=by rw[ZaN,ZsS,hqe];rfl
 have hlen:(D.take 800++[49]).length=801:=by rw[List.length_append,hlt,List.length_singleton];omega
 rw[← hqe] at hq hq' p1
 have key:=Zpw(m:=m)(n:=n)(C:=10^1)(r:=1)(C':=10^(D.length-800))(r':=nmB 10(D.drop 800)) hM hG(by omega) hq hq'(by omega)(by decide) p2 p3
 rw[← Nat.pow_add,← Nat.pow_add] at key
 unfold deP deF
 rw[e2,hlen,p1,show(a-((801:Nat):Int)).toNat=0 by omega,show(-(a-((801:Nat):Int))).toNat=G+1 by omega,show(a-(D.length:Nat)).toNat=0 by omega,show(-(a-((D.length:Nat):Int))).toNat=G+(D.length-800) by omega,Nat.pow_zero,Nat.mul_one,Nat.mul_one]
 exact key
theorem Zp4{m:Int}{n:Bool}{l:List UInt8}(hl:l.length≤10000)(ha:zi 10 l=true)(hz:trZ l≠[]){k:Nat}(hk:k≤l.length){P Q:Int}(hP:Zgy Q P):
  deP m n(nmB 10(shR 800(nuD l)))(clF(((trZ l).length:Nat)-(k:Int)+Q)-((shR 800(nuD l)).length:Nat))=rnP m n(dnA 10(trZ l) k P).1(dnA 10(trZ l) k P).2∧deF m n(nmB 10(shR 800(nuD l)))(clF(((trZ l).length:Nat)-(k:Int)+Q)-((shR 800(nuD l)).length:Nat))=rnF m n(dnA 10(trZ l) k P).1(dnA 10(trZ l) k P).2:=by
 obtain⟨c,r,hT⟩:∃ c r,trZ l=c::r:=by
  cases h:trZ l with
  | nil=>exact absurd h hz
  | cons c r=>exact⟨c,r,rfl⟩
 have hc:=ZaO ha hT
 have haT:=Zc0 ha
 obtain⟨r',hr'⟩:=Zc5(b:=10)(r:=r) hc
 have haD:zi 10(nuD l)=true:=Zhp haT
 have hlast:∀ r c,nuD l=r++[c]→lq8 c≠48:=fun r c h=>Zir h
 have eD:nuD l=c::r':=by unfold nuD;rw[hT,hr']
 have lT:=ZcY l
 have lD:(nuD l).length≤(trZ l).length:=Zf6(trZ l)
 have hA:nmB 10(nuD l)≠0:=by
  have:=Zbp(b:=10)(.inl rfl)(r:=r') hc
  rw[eD];omega
 have key:=Zu7(m:=m)(n:=n)(a:=((trZ l).length:Nat)-(k:Int)+P)(a':=((trZ l).length:Nat)-(k:Int)+Q) haD hlast eD hc(by unfold Zgy at hP;omega)
 have hdn:=ZzS m n(c:=c)(r:=r)(k:=k)(P:=P) hc
 rw[← hT] at hdn
 have e1:=ZlK(b:=10)(trZ l)
 have hs:=Zpu m n(A:=nmB 10(nuD l)) hA((trZ l).length-(nuD l).length)(((trZ l).length:Nat)-(k:Int)+P-((nuD l).length:Nat))
 rw[show((trZ l).length:Nat)-(k:Int)+P-((nuD l).length:Nat)-(((trZ l).length-(nuD l).length:Nat):Int)=P-k by omega] at hs
 have e2:nmB 10(nuD l)*10^((trZ l).length-(nuD l).length)=nmB 10(trZ l):=e1.symm
 rw[e2] at hs
 exact⟨key.1.trans(hs.1.symm.trans hdn.1.symm),key.2.trans(hs.2.symm.trans hdn.2.symm)⟩
end Go.Rd
