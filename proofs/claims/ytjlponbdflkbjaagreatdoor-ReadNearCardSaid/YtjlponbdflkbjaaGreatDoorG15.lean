/-
  ConNO, ConNE, NumR, ConNF, ConNP, TxE, TxI, TxJ, TxK
-/
import Derived.Test.YtjlponbdflkbjaaGreatDoorG14
import Derived.Test.YtjlponbdflkbjaaGreatDoorG13
import Derived.Test.YtjlponbdflkbjaaGreatDoorG12
import Derived.Test.YtjlponbdflkbjaaGreatDoorG10
import Derived.Test.YtjlponbdflkbjaaGreatDoorG05
import Derived.Test.YtjlponbdflkbjaaGreatDoorG09
namespace Go.Proofs.YtjlponbdflkbjaaGreatDoor.Na
open Go.KRun Go.Nt
set_option maxRecDepth 100000
set_option linter.unusedVariables false
def hcM:Hc:=zS 132 Z68(zS 112 Zg4 hcN)
theorem Znd:HcOk hcM:=Z2 Tryz.func132 rfl ZvW(Z2 Tryz.func112 rfl ZbY Zam)
def pdP(F:Func):List Code:=[Z5(sn 0 F),Z5(sn 1 F),Z5(sn 2 F),Z5(sn 3 F)]
def pdL(F:Func):Code:=cIn(cIn(Z0(Z5(sn 4 F))))
def pdF(o n c o' n' c' z:Nat)(v7 v8:Value):List Value:=[sl 0 o n c,sl 1 o' n' c',undef,undef,Zq,.nilIface,sl 2 0 z z,v7,v8]
theorem ZvX:Tryz.f115.body=some(za(pdP Tryz.f115)(.seq(.seq(Z5(Z5(sn 4 Tryz.f115)))(.block 0(.loop(pdL Tryz.f115))))(Z0(sn 4 Tryz.f115)))):=by kernel_rfl
def pZ(n n':Nat):Int:=IntKind.i64.wrap((n:Int)+(n':Int))
theorem Z1e(o n c o' n' c':Nat)(la lb:List Value):Zg(evL(Zs Tryz.prog Zf Zo hcM) 100(pdP Tryz.f115)([sl 0 o n c,sl 1 o' n' c']++List.replicate 57 undef,h2 la lb,[cmp false,cmp false,cmp false,at_])⟨[],[],[]⟩) 9 50 none(pdF o n c o' n' c'(pZ n n').toNat undef undef)(h3 la lb(List.replicate(pZ n n').toNat(uu 0))) [(ZL 4(pZ n n')(pZ n n'),true),(decide(IntKind.i64.wrap(pZ n n'-1)>8192),false),((n':Int)==0,false),((n:Int)==0,false)]:=⟨by kernel_rfl,by kernel_rfl,by kernel_rfl⟩
theorem Z91(o n c o' n' c' z:Nat)(v7 v8:Value)(la lb S:List Value)(g:Nat→Value):ZdV(evC(Zs Tryz.prog Zf Zo hcM) 100 false(Z5(Z5(sn 4 Tryz.f115)))(pdF o n c o' n' c' z v7 v8++tl 50 g,h3 la lb S,[])⟨[],[],[]⟩) 9 22 3 25 none(pdF o n c o' n' c' z v7 v8) [sl 0 o n c,i6' n,i6' 0](h3 la lb S) []:=⟨by kernel_rfl,by kernel_rfl,by kernel_rfl⟩
theorem Z1f(o n c o' n' c' z:Nat)(j:Int)(v7 v8:Value)(la lb S:List Value)(g g':Nat→Value):ZdV(evC(Zs Tryz.prog Zf Zo hcM) 100 false(pdL Tryz.f115)(ml(pdF o n c o' n' c' z v7 v8) 22 g [sl 0 o n c,i6' n,i6' j] 25 g',h3 la lb S,[cmp false])⟨[],[],[]⟩) 9 22 3 25(some(some 0))(pdF o n c o' n' c' z v7 v8) [sl 0 o n c,i6' n,i6' j](h3 la lb S) [(decide(j<n),false)]:=⟨by kernel_rfl,by kernel_rfl,by kernel_rfl⟩
def pJ(j:Int):Nat:=0+j.toNat*1
def pK(j:Int)(n':Nat):Int:=IntKind.i64.wrap(j+n')
def pLn(j:Int)(n':Nat):Nat:=(pK j n').toNat-j.toNat
def pS(S lb:List Value)(o' n':Nat)(j x:Int):List Value:=tmS S(pJ j)(pLn j n')(tmR(Zy S(pJ j)(pLn j n'))(Zy lb o' n') x)
def pC(S lb:List Value)(o' n':Nat)(j x:Int):Int:=tmC(Zy S(pJ j)(pLn j n'))(Zy lb o' n') x
theorem Z69(o n c o' n' c' z:Nat)(j x:Int)(v7 v8:Value)(la lb S:List Value)(g g':Nat→Value):ZdV(evC(Zs Tryz.prog Zf Zo hcM) 100 false(pdL Tryz.f115)(ml(pdF o n c o' n' c' z v7 v8) 22 g [sl 0 o n c,i6' n,i6' j] 25 g',h3 la lb S,[cmp true,at_,val(uu x),num 0,at_,at_])⟨[],[],[]⟩) 9 22 3 25 none(pdF o n c o' n' c' z(i6' j)(uu x)) [sl 0 o n c,i6' n,i6'(IntKind.i64.wrap(j+1))]
  (h3 la lb((pS S lb o' n' j x).set(0+(pK j n').toNat*1)(uu(pC S lb o' n' j x))))
  [(decide(0+(pK j n').toNat*1<(pS S lb o' n' j x).length),true),inR(pK j n') z,(Zh5 S lb la tU tR tR(pJ j)(pLn j n')(z-j.toNat) o' n' c' x,true),(ZB z,true),(ZS j(pK j n') z z,true),(decide((z:Int)=j∧j≠0),false),Zdu la o j x,inR j n,(decide(j<n),true)]:=⟨by kernel_rfl,by kernel_rfl,by kernel_rfl⟩
theorem Z1g(o n c o' n' c' z:Nat)(v7 v8 u1 u2 u3:Value)(la lb S:List Value)(g g':Nat→Value):Zg(evC(Zs Tryz.prog Zf Zo hcM) 100 false(Z0(sn 4 Tryz.f115))(ml(pdF o n c o' n' c' z v7 v8) 22 g [u1,u2,u3] 25 g',h3 la lb S,[cmp false])⟨[],[],[]⟩) 6 53(some none) [sl 0 o n c,sl 1 o' n' c',undef,undef,sl 2 0(Zm(Zy S 0 z)) z,.nilIface](h3 la lb S) [(decide((Zm(Zy S 0 z):Int)>8192),false),(Z8 tU S 0 z z,true)]:=⟨by kernel_rfl,by kernel_rfl,by kernel_rfl⟩
theorem Z6A(p q:Option Addr)(n c n' c':Nat)(h:Hp):Zg(evC(Zs Tryz.prog Zf Zo hcM) 100 false(Zt Tryz.f115)([.slice p n c,.slice q n' c']++List.replicate 57 undef,h,[cmp true])⟨[],[],[]⟩) 6 53(some none) [.slice p n c,.slice q n' c',undef,undef,Zq,.nilIface] h [((n:Int)==0,true)]:=⟨by kernel_rfl,by kernel_rfl,by kernel_rfl⟩
theorem Z6B(p q:Option Addr)(n c n' c':Nat)(h:Hp):Zg(evC(Zs Tryz.prog Zf Zo hcM) 100 false(Zt Tryz.f115)([.slice p n c,.slice q n' c']++List.replicate 57 undef,h,[cmp false,cmp true])⟨[],[],[]⟩) 6 53(some none) [.slice p n c,.slice q n' c',undef,undef,Zq,.nilIface] h [((n':Int)==0,true),((n:Int)==0,false)]:=⟨by kernel_rfl,by kernel_rfl,by kernel_rfl⟩
theorem ZiH:Tryz.f115.body=some(Zt Tryz.f115):=by kernel_rfl
end Go.Proofs.YtjlponbdflkbjaaGreatDoor.Na
namespace Go.Proofs.YtjlponbdflkbjaaGreatDoor.Na
open Go.KRun Go.Nt
set_option maxRecDepth 100000
def hcS:Hc:=zS 117 Z48(zS 79 Z4E(zS 119 Z6z(zS 112 Zg4 hcN)))
theorem ZiI:HcOk hcS:=Z2 Tryz.func117 rfl Zmf(Z2 Tryz.func79 rfl Zh1(Z2 Tryz.func119 rfl ZvE(Z2 Tryz.func112 rfl ZbY Zam)))
def skI(k:Int):Int:=IntKind.i64.wrap(k.tdiv 32)
def rmI(k:Int):Int:=k.tmod 32
def zI(n:Nat)(k:Int):Int:=IntKind.i64.wrap(IntKind.i64.wrap(skI k+n)+1)
def zN(n:Nat)(k:Int):Nat:=(zI n k).toNat
def oN(k:Int):Nat:=0+(skI k).toNat*1
def pN(n:Nat)(k:Int):Nat:=zN n k-(skI k).toNat
def cpN(n:Nat)(k:Int):Nat:=Nat.min n(pN n k)
def cpL(la:List Value)(o n:Nat)(k:Int):List Value:=(List.replicate(zN n k)(uu 0)).take(oN k)++(la.drop o).take(cpN n k)++(List.replicate(zN n k)(uu 0)).drop(oN k+cpN n k)
def Z6C(la:List Value)(o n:Nat)(k:Int):Bool:= !(Zal tR) && !(ro tU) && Nat.ble(o+cpN n k) la.length && Nat.ble(oN k+cpN n k)(List.replicate(zN n k)(uu 0)).length && ((la.drop o).take(cpN n k)).all one
def upM(la:List Value)(o n:Nat)(k:Int):List Value:=upS(cpL la o n k)(oN k)(pN n k)(rmI k)
def lnI(la:List Value)(o n:Nat):Int:=IntKind.i64.wrap(262144-Zdy(Zy la o n))
def fS(o n c:Nat)(k:Int)(r e:Value):List Value:=[sl 0 o n c,i6' k,undef,undef,r,e]
theorem ZfL:Tryz.f80.body=some(Zt Tryz.f80):=by kernel_rfl
theorem ZvY(o n c:Nat)(k:Int)(la:List Value):Zg(evC(Zs Tryz.prog Zf Zo hcS) 200 false(Zt Tryz.f80)([sl 0 o n c,i6' k]++List.replicate 45 undef,⟨1,[(la,tR)]⟩,[cmp true])⟨[],[],[]⟩) 6 41(some none)(fS o n c k Zq(Zc6 1))⟨1,[(la,tR)]⟩ [Zhv la o n c,(ZX(Zy la o n),true)]:=⟨by kernel_rfl,by kernel_rfl,by kernel_rfl⟩
theorem ZvZ(o n c:Nat)(k:Int)(la:List Value):Zg(evC(Zs Tryz.prog Zf Zo hcS) 200 false(Zt Tryz.f80)([sl 0 o n c,i6' k]++List.replicate 45 undef,⟨1,[(la,tR)]⟩,[cmp false,cmp true])⟨[],[],[]⟩) 6 41(some none)(fS o n c k Zq(Zc6 1))⟨1,[(la,tR)]⟩ [(decide(k<0),true),Zhv la o n c,(ZX(Zy la o n),false)]:=⟨by kernel_rfl,by kernel_rfl,by kernel_rfl⟩
theorem Zwa(o n c:Nat)(k:Int)(la:List Value):Zg(evC(Zs Tryz.prog Zf Zo hcS) 200 false(Zt Tryz.f80)([sl 0 o n c,i6' k]++List.replicate 45 undef,⟨1,[(la,tR)]⟩,[cmp false,cmp false,cmp true])⟨[],[],[]⟩) 6 41(some none)(fS o n c k Zq .nilIface)⟨1,[(la,tR)]⟩ [((n:Int)==0,true),(decide(k<0),false),Zhv la o n c,(ZX(Zy la o n),false)]:=⟨by kernel_rfl,by kernel_rfl,by kernel_rfl⟩
theorem ZqP(o n c:Nat)(k:Int)(la:List Value):Zg(evC(Zs Tryz.prog Zf Zo hcS) 200 false(Zt Tryz.f80)([sl 0 o n c,i6' k]++List.replicate 45 undef,⟨1,[(la,tR)]⟩,[cmp false,cmp false,cmp false,cmp true])⟨[],[],[]⟩) 6 41(some none)(fS o n c k Zq(Zc6 2))⟨1,[(la,tR)]⟩ [(decide(k>lnI la o n),true),Zhv la o n c,((n:Int)==0,false),(decide(k<0),false),Zhv la o n c,(ZX(Zy la o n),false)]:=⟨by kernel_rfl,by kernel_rfl,by kernel_rfl⟩
theorem ZqQ(o n c:Nat)(k:Int)(la:List Value):Zg(evC(Zs Tryz.prog Zf Zo hcS) 200 false(Zt Tryz.f80)([sl 0 o n c,i6' k]++List.replicate 45 undef,⟨1,[(la,tR)]⟩,[cmp false,cmp false,cmp false,cmp false,at_,num 0,at_,num 0])⟨[],[],[]⟩) 6 41(some none)(fS o n c k(sl 1 0(Zm(Zy(upM la o n k) 0(zN n k)))(zN n k)) .nilIface)(hU(upM la o n k) la)
  [(Z8 tU(upM la o n k) 0(zN n k)(zN n k),true),(Nat.beq tU tU,true),(Nat.beq tR tR,true),(Z8 tU(cpL la o n k)(oN k)(pN n k)(pN n k),true),(Nat.beq(oN k+pN n k)(cpL la o n k).length,true),(la.all still,true),(decide(0≤rmI k∧rmI k<32),true),
   (ZB(zN n k),true),(ZS(skI k)(zN n k)(zN n k)(zN n k),true),(decide(((zN n k:Nat):Int)=skI k∧skI k≠0),false),(Z6C la o n k,true),(ZB(zN n k),true),(ZS(skI k)(zN n k)(zN n k)(zN n k),true),(decide(((zN n k:Nat):Int)=skI k∧skI k≠0),false),(ZL 4(zI n k)(zI n k),true),
   (decide(k>lnI la o n),false),Zhv la o n c,((n:Int)==0,false),(decide(k<0),false),Zhv la o n c,(ZX(Zy la o n),false)]:=⟨by kernel_rfl,by kernel_rfl,by kernel_rfl⟩
end Go.Proofs.YtjlponbdflkbjaaGreatDoor.Na
namespace Go.Nt
theorem Zne:∀ (s m:Nat)(V:Int),dg(s+m)(4294967296^s*V)=List.replicate s 0++dg m V
 | 0,m,V=>by simp
 | s+1,m,V=>by
  rw[show s+1+m=(s+m)+1 from by omega]
  simp only[dg]
  rw[pw,Int.mul_assoc]
  generalize hZ:(4294967296:Int)^s*V=Z
  have e1:(4294967296*Z) % 4294967296=0:=by omega
  have e2:(4294967296*Z)/4294967296=Z:=by omega
  rw[e1,e2,← hZ,Zne s m V,List.replicate_succ,List.cons_append]
theorem Znf(K:Nat):(2:Int)^K=4294967296^(K/32)*2^(K % 32):=by
 have e:(4294967296:Int)=2^32:=rfl
 rw[e,← Int.pow_mul,← Int.pow_add,show 32*(K/32)+K % 32=K from by omega]
def ZgW(L:List Int)(K:Nat):List Int:=dg(K/32+(L.length+1))(vN L*2^K)
theorem Zwb(L:List Int)(K:Nat):ZgW L K=List.replicate(K/32) 0++dg(L.length+1)(vN L*2^(K % 32)):=by
 unfold ZgW
 rw[Znf K,← Int.mul_assoc,Int.mul_comm(vN L),Int.mul_assoc,Zne]
end Go.Nt
namespace Go.Proofs.YtjlponbdflkbjaaGreatDoor.Na
open Go.KRun Go.Nt
set_option maxRecDepth 100000
theorem Zng{L:List Int}(hL:wds L):0≤Zdy L∧Zdy L≤262144:=by
 unfold Zdy
 cases h:(L.length==0 || ZX L) with
 | true=>
  show(0:Int)≤0∧(0:Int)≤262144
  omega
 | false=>
  simp only[Bool.or_eq_false_iff] at h
  have h8:=Zc8 h.2
  have h0:L.length≠0:=by simpa using h.1
  have hx:=hL(L.getD(L.length-1) 0)(by
   have hk':L.length-1<L.length:=by omega
   simp [List.getD,List.getElem?_eq_getElem hk'])
  have:=Zeh hx.1 hx.2
  simp only
  omega
theorem Znh{K:Nat}(h:K≤262144):skI K=((K/32:Nat):Int):=by
 unfold skI
 have e:((K:Nat):Int).tdiv 32=((K/32:Nat):Int):=rfl
 rw[e,Zw(by omega)(by omega)]
theorem Z1h(K:Nat):rmI K=((K % 32:Nat):Int):=rfl
theorem Z1i{n K:Nat}(h:K≤262144)(hn:n≤8192):zI n K=((K/32+(n+1):Nat):Int):=by
 unfold zI
 rw[Znh h,Zw(n:=((K/32:Nat):Int)+(n:Nat))(by omega)(by omega),Zw(by omega)(by omega)]
 omega
theorem ZqR{n K:Nat}(h:K≤262144)(hn:n≤8192):zN n K=K/32+(n+1):=by unfold zN;rw[Z1i h hn,Int.toNat_natCast]
theorem Zni{K:Nat}(h:K≤262144):oN K=K/32:=by unfold oN;rw[Znh h,Int.toNat_natCast];omega
theorem ZqS{n K:Nat}(h:K≤262144)(hn:n≤8192):pN n K=n+1:=by unfold pN;rw[Znh h,ZqR h hn,Int.toNat_natCast];omega
theorem Ztq{n K:Nat}(h:K≤262144)(hn:n≤8192):cpN n K=n:=by unfold cpN;rw[ZqS h hn];simp
theorem Znj{la:List Value}{o K:Nat}{L:List Int}(hR:Row la o L)(h:K≤262144)(hn:L.length≤8192):cpL la o L.length K=wU(List.replicate(K/32) 0++(L++[0])):=by
 unfold cpL
 rw[Ztq h hn,ZqR h hn,Zni h]
 have e1:(la.drop o).take L.length=wU L:=hR.cut
 rw[e1,List.drop_replicate,List.take_replicate,show K/32+(L.length+1)-(K/32+L.length)=1 from by omega,show min(K/32)(K/32+(L.length+1))=K/32 from by omega]
 unfold wU uu
 simp
theorem Zwc{la:List Value}{o K:Nat}{L:List Int}(hR:Row la o L)(h:K≤262144)(hn:L.length≤8192):Z6C la o L.length K=true:=by
 unfold Z6C
 rw[Ztq h hn,ZqR h hn,Zni h]
 have e1:(la.drop o).take L.length=wU L:=hR.cut
 rw[e1,Zbq,Zed]
 have h1:Nat.ble(o+L.length) la.length=true:=Nat.ble_eq_true_of_le hR.len
 have h2:Nat.ble(K/32+L.length)(List.replicate(K/32+(L.length+1))(uu 0)).length=true:=Nat.ble_eq_true_of_le(by rw[List.length_replicate];omega)
 have h3:((wU L).all one)=true:=by
  unfold wU
  rw[List.all_eq_true]
  intro v hv
  obtain⟨x,_,rfl⟩:=List.mem_map.1 hv
  rfl
 rw[h1,h2,h3]
 rfl
theorem ZiJ(A B:List Int):Zy(wU(A++B)) A.length B.length=B:=by
 unfold Zy Zb5 wU
 rw[List.map_append,List.drop_append_of_le_length(by simp),show A.length=(A.map(Value.int .u32)).length from by simp,List.drop_length,List.nil_append,List.take_of_length_le(by simp),List.map_map]
 exact(List.map_congr_left fun x _=>rfl).trans(List.map_id' _)
theorem Zh6(s:Nat):wds(List.replicate s 0):=fun x hx=>by rw[List.eq_of_mem_replicate hx];omega
theorem ZfM{L:List Int}(h:wds L):wds(L++[0]):=Zai h(fun x hx=>by rw[List.mem_singleton.1 hx];omega)
theorem Z1j{la:List Value}{o K:Nat}{L:List Int}(hR:Row la o L)(h:K≤262144)(hn:L.length≤8192):upM la o L.length K=wU(ZgW L K):=by
 unfold upM upS
 rw[Znj hR h hn,Zni h,ZqS h hn,Z1h,Int.toNat_natCast]
 have e1:=ZiJ(List.replicate(K/32) 0)(L++[0])
 rw[List.length_replicate,List.length_append,List.length_singleton] at e1
 rw[e1,zu,Int.mul_zero,Int.add_zero,Zwb]
 unfold wU
 rw[List.map_append,List.map_append,List.take_append_of_le_length(by simp),List.take_of_length_le(by simp),List.map_append]
theorem Zwd{la:List Value}{o K:Nat}{L:List Int}(hR:Row la o L)(h:K≤262144)(hn:L.length≤8192):Z8 tU(cpL la o L.length K)(oN K)(pN L.length K)(pN L.length K)=true:=by
 rw[Znj hR h hn,Zni h,ZqS h hn]
 unfold Z8
 have e1:=ZiJ(List.replicate(K/32) 0)(L++[0])
 rw[show Zal tU=false from by kernel_rfl,show Nat.beq(rt tU) tU=true from by kernel_rfl,Nat.ble_eq_true_of_le(show K/32+(L.length+1)≤(wU(List.replicate(K/32) 0++(L++[0]))).length by unfold wU;simp),Nat.ble_eq_true_of_le(Nat.le_refl _),show ZB(L.length+1)=true from Zp.2(by unfold ZW;omega),ZbM]
 have h3:((Zb5(wU(List.replicate(K/32) 0++(L++[0])))(K/32)(L.length+1)).all isU)=true:=by
  rw[List.all_eq_true]
  intro v hv
  unfold Zb5 wU at hv
  obtain⟨x,hx,rfl⟩:=List.mem_map.1(List.mem_of_mem_drop(List.mem_of_mem_take hv))
  exact decide_eq_true((Zai(Zh6 _)(ZfM hR.rng)) x hx)
 rw[h3]
 rfl
theorem ZqT{la:List Value}{o n c K:Nat}(ha:Z8 tR la o n c=true)(hb:ZX(Zy la o n)=false)(h0:n≠0)(hK:(K:Int)≤262144-Zdy(Zy la o n)):
  Runs(Zs Tryz.prog Zf Zo hcS)(Zt Tryz.f80)([sl 0 o n c,i6' K]++List.replicate 45 undef,⟨1,[(la,tR)]⟩,[]) fun e y=>(e=none∨e=some none)∧ZZ Tryz.prog Tryz.f80 y.1 y.2.1=some(.tuple #[sl 1 0(Zm(ZgW(Zy la o n) K))(K/32+(n+1)),.nilIface])∧y.2.1.blk? 1=some(wU(ZgW(Zy la o n) K),tU):=by
 obtain⟨a1,a2,a3,a4,a5,a6,a7⟩:=ZK ha
 have h8:=Zc8 hb
 have hl:=Zng a1.rng
 have g0:=ZqQ o n c K la
 have lI:lnI la o n=262144-Zdy(Zy la o n):=by unfold lnI;rw[Zw(by omega)(by omega)]
 rw[lI] at g0
 generalize hL:Zy la o n=L at*
 subst a2
 have hK2:K≤262144:=by omega
 rw[Z1j a1 hK2 h8] at g0
 have ez:=ZqR(n:=L.length) hK2 h8
 have esm:ZB(zN L.length K)=true:=Zp.2(by rw[ez];unfold ZW;omega)
 have r1:=Zta(Za2(K/32+(L.length+1))(vN L*2^K))(c:=zN L.length K)(by rw[ZU,ez];exact Nat.le_refl _) esm
 rw[ZU,← ez] at r1
 have r2:Z8 tU(wU(ZgW L K)) 0(zN L.length K)(zN L.length K)=true:=by unfold ZgW;rw[← ez];exact r1.1
 have r3:Zy(wU(ZgW L K)) 0(zN L.length K)=ZgW L K:=by unfold ZgW;rw[← ez];exact r1.2
 have part:ZS(skI K)(zN L.length K)(zN L.length K)(zN L.length K)=true:=by unfold ZS;rw[Znh hK2,ez];exact decide_eq_true(by omega)
 have part2:decide(((zN L.length K:Nat):Int)=skI K∧skI K≠0)=false:=by rw[Znh hK2,ez];exact decide_eq_false(by omega)
 have mk:ZL 4(zI L.length K)(zI L.length K)=true:=by unfold ZL;rw[Z1i hK2 h8];exact decide_eq_true(by omega)
 have len:Nat.beq(oN K+pN L.length K)(cpL la o L.length K).length=true:=by
  rw[Znj a1 hK2 h8,Zni hK2,ZqS hK2 h8]
  unfold wU
  simp
 have calm:la.all still=true:=List.all_eq_true.2 a7
 have d1:decide(0≤rmI K∧rmI K<32)=true:=by rw[Z1h];exact decide_eq_true(by omega)
 have d2:decide((K:Int)>262144-Zdy L)=false:=decide_eq_false(by omega)
 have d3:((L.length:Int)==0)=false:=by simpa using h0
 have d4:decide((K:Int)<0)=false:=decide_eq_false(by omega)
 refine(Zb(Zh Zd ZiI) g0(Zj r2(Zj(by kernel_rfl)(Zj(by kernel_rfl)(Zj(Zwd a1 hK2 h8)(Zj len(Zj calm(Zj d1
  (Zj esm(Zj part(Zj part2(Zj(Zwc a1 hK2 h8)(Zj esm(Zj part(Zj part2(Zj mk(Zj d2(Zj ha(Zj d3(Zj d4(Zj ha(Zu hb)))))))))))))))))))))).mono fun e y he=> ?_
 obtain⟨rfl,⟨g,e2⟩,e3⟩:=he
 refine⟨.inr rfl,?_,?_⟩
 ·rw[e2,e3,r3,ez]
  rfl
 ·rw[e3]
  rfl
theorem ZfN{la:List Value}{o n c:Nat}{k:Int}{r e:Value}{cs:Log}{s:List Dec}(g0:Zg(evC(Zs Tryz.prog Zf Zo hcS) 200 false(Zt Tryz.f80)([sl 0 o n c,i6' k]++List.replicate 45 undef,⟨1,[(la,tR)]⟩,s)⟨[],[],[]⟩) 6 41(some none)(fS o n c k r e)⟨1,[(la,tR)]⟩ cs)(hcs:Z4 cs)
  (hres:∀ g,ZZ Tryz.prog Tryz.f80(fS o n c k r e++tl 41 g)⟨1,[(la,tR)]⟩=some(.tuple #[r,e])):
  Runs(Zs Tryz.prog Zf Zo hcS)(Zt Tryz.f80)([sl 0 o n c,i6' k]++List.replicate 45 undef,⟨1,[(la,tR)]⟩,[]) fun e' y=>(e'=none∨e'=some none)∧ZZ Tryz.prog Tryz.f80 y.1 y.2.1=some(.tuple #[r,e]):=by
 refine(Zb(Zh Zd ZiI) g0 hcs).mono fun e' y he=> ?_
 obtain⟨rfl,⟨g,e2⟩,e3⟩:=he
 refine⟨.inr rfl,?_⟩
 rw[e2,e3]
 exact hres g
def Zwe:Zaf:=fun vals h s=>
 match vals with
 | [.slice(some⟨b,o,none⟩) n c,.int .i64 k]=>
  match h.blk? b,s with
  | some x,.inr(.inr(.inr(.inl true)))::s'=>some(.tuple #[Zq,Zc6 1],h,s',[(Z8 x.2 x.1 o n c,true),(ZX(Zy x.1 o n) || decide(k<0),true)])
  | some x,.inr(.inr(.inr(.inl false))):: .inr(.inr(.inr(.inl true)))::s'=>some(.tuple #[Zq,.nilIface],h,s',[(Z8 x.2 x.1 o n c,true),(ZX(Zy x.1 o n) || decide(k<0),false),(decide(n=0),true)])
  | some x,.inr(.inr(.inr(.inl false))):: .inr(.inr(.inr(.inl false))):: .inr(.inr(.inr(.inl true)))::s'=>some(.tuple #[Zq,Zc6 2],h,s',[(Z8 x.2 x.1 o n c,true),(ZX(Zy x.1 o n) || decide(k<0),false),(decide(n=0),false),(decide(k>262144-Zdy(Zy x.1 o n)),true)])
  | some x,.inr(.inr(.inr(.inl false))):: .inr(.inr(.inr(.inl false))):: .inr(.inr(.inr(.inl false)))::s'=>some(.tuple #[sl h.n 0(Zm(ZgW(Zy x.1 o n) k.toNat))(k.toNat/32+(n+1)),.nilIface],h.push(wU(ZgW(Zy x.1 o n) k.toNat)) tU,s',[(Z8 x.2 x.1 o n c,true),(ZX(Zy x.1 o n) || decide(k<0),false),(decide(n=0),false),(decide(k>262144-Zdy(Zy x.1 o n)),false)])
  | _,_=>none
 | _=>none
theorem Zwf:Z9 80 Zwe:=by
 intro vals h s v h' s' lg hg hl m B w E hv
 unfold Zwe at hg
 split at hg
 ·rename_i b o n c k
  have one1:∀ x:List Value×TypeId,h.blk? b=some x→Z8 x.2 x.1 o n c=true→∀ v0:Value,oc(List.range 1) v0=true→rn(fun _=>b) v0=v0→
    Runs(Zs Tryz.prog Zf Zo hcS)(Zt Tryz.f80)([sl 0 o n c,i6' k]++List.replicate 45 undef,⟨1,[(x.1,tR)]⟩,[])(fun e y=>(e=none∨e=some none)∧ZZ Tryz.prog Tryz.f80 y.1 y.2.1=some v0)→
    Calls Tryz.prog 80(([.slice(some⟨b,o,none⟩) n c,.int .i64 k]:List Value).map(mv m)).toArray w fun e w'=>∃ m',e= .returned(mv m' v0)∧Came m B h w v0 h m' w':=by
   intro x hx ra v0 ho e0 r
   obtain⟨a1,a2,a3,a4,a5,a6,a7⟩:=ZK ra
   have hlt:=Hp.blk_lt hx
   have:=zk(T:=Zs Tryz.prog Zf Zo hcS) Tryz.func80 ZfL(ZaJ a7)(vals:=[sl 0 o n c,i6' k])(fun v hv=>by
    simp only[List.mem_cons,List.not_mem_nil,or_false] at hv
    rcases hv with rfl | rfl<;>rfl) ho r E(s:=fun _=>b)(fun i _=>hlt)(zO hx a5 a6 rfl)
   rw[e0] at this
   exact this.mono fun e w' he=>⟨m,he.1,he.2⟩
  split at hg
  ·rename_i x s2 hx
   cases hg
   have ra:=hl _(List.mem_cons_self)
   have hd:=hl _(List.mem_cons_of_mem _(List.mem_singleton.2 rfl))
   simp only at hd
   refine one1 x hx ra _(by rfl)(Zd5(by rfl)) ?_
   cases hb:ZX(Zy x.1 o n) with
   | true=>exact ZfN(ZvY o n c k x.1)(Zj(zE ra)(Zu hb))(fun _=>rfl)
   | false=>
    rw[hb,Bool.false_or] at hd
    exact ZfN(ZvZ o n c k x.1)(Zj hd(Zj(zE ra)(Zu hb)))(fun _=>rfl)
  ·rename_i x s2 hx
   cases hg
   have ra:=hl _(List.mem_cons_self)
   have hd:=hl _(List.mem_cons_of_mem _ List.mem_cons_self)
   have h0:=of_decide_eq_true(hl _(List.mem_cons_of_mem _(List.mem_cons_of_mem _(List.mem_singleton.2 rfl))))
   simp only[Bool.or_eq_false_iff] at hd
   have d3:((n:Int)==0)=true:=by rw[h0];rfl
   exact one1 x hx ra _(by rfl)(Zd5(by rfl))(ZfN(Zwa o n c k x.1)(Zj d3(Zj hd.2(Zj(zE ra)(Zu hd.1))))(fun _=>rfl))
  ·rename_i x s2 hx
   cases hg
   have ra:=hl _(List.mem_cons_self)
   have hd:=hl _(List.mem_cons_of_mem _ List.mem_cons_self)
   have h0:=of_decide_eq_false(hl _(List.mem_cons_of_mem _(List.mem_cons_of_mem _ List.mem_cons_self)))
   have hk:=hl _(List.mem_cons_of_mem _(List.mem_cons_of_mem _(List.mem_cons_of_mem _(List.mem_singleton.2 rfl))))
   simp only[Bool.or_eq_false_iff] at hd
   have d3:((n:Int)==0)=false:=by simpa using h0
   obtain⟨a1,a2,a3,a4,a5,a6,a7⟩:=ZK ra
   have hle:=Zng a1.rng
   have lI:lnI x.1 o n=262144-Zdy(Zy x.1 o n):=by unfold lnI;rw[Zw(by omega)(by omega)]
   have g0:=ZqP o n c k x.1
   rw[lI] at g0
   exact one1 x hx ra _(by rfl)(Zd5(by rfl))(ZfN g0(Zj hk(Zj(zE ra)(Zj d3(Zj hd.2(Zj(zE ra)(Zu hd.1))))))(fun _=>rfl))
  ·rename_i x s2 hx
   cases hg
   have ra:=hl _(List.mem_cons_self)
   have hd:=hl _(List.mem_cons_of_mem _ List.mem_cons_self)
   have h0:=of_decide_eq_false(hl _(List.mem_cons_of_mem _(List.mem_cons_of_mem _ List.mem_cons_self)))
   have hk:=of_decide_eq_false(hl _(List.mem_cons_of_mem _(List.mem_cons_of_mem _(List.mem_cons_of_mem _(List.mem_singleton.2 rfl)))))
   simp only[Bool.or_eq_false_iff] at hd
   have hk0:=of_decide_eq_false hd.2
   obtain⟨K,rfl⟩:=Int.eq_ofNat_of_zero_le(show 0≤k by omega)
   rw[Int.toNat_natCast]
   obtain⟨a1,a2,a3,a4,a5,a6,a7⟩:=ZK ra
   have r:=ZqT(K:=K)(zE ra) hd.1 h0(by omega)
   have e1:∀ j M:Nat,rn(fun _=>h.n)(.tuple #[sl 1 0 j M,.nilIface])= .tuple #[sl h.n 0 j M,.nilIface]:=fun j M=>by simp [rn,rn2,rn1,sl]
   have:=ZG(T:=Zs Tryz.prog Zf Zo hcS) Tryz.func80 ZfL(ZaJ a7)(vals:=[sl 0 o n c,i6' K])(fun v hv=>by
    simp only[List.mem_cons,List.not_mem_nil,or_false] at hv
    rcases hv with rfl | rfl<;>rfl)(k:=1)(Zdc _) Zed(r.w.mono fun e y h=>⟨h.1,h.2.1,[],by rw[List.append_nil];exact h.2.2⟩)(by rfl) E(s:=fun _=>b)(zO hx a5 a6 rfl)
   rw[e1] at this
   exact this
  ·cases hg
 ·cases hg
end Go.Proofs.YtjlponbdflkbjaaGreatDoor.Na
namespace Go.Proofs.YtjlponbdflkbjaaGreatDoor.Na
open Go.KRun Go.Nt
set_option maxRecDepth 100000
set_option linter.unusedVariables false
def Zh7(L M:List Int):List Int:=dg(L.length+M.length)(vN L*vN M)
theorem z4{L:List Int}(h:wds L){o n c:Nat}(hl:o+n≤L.length)(hc:n≤c)(h2:ZB c=true):Z8 tU(wU L) o n c=true:=by
 unfold Z8
 have h3:((Zb5(wU L) o n).all isU)=true:=by
  rw[List.all_eq_true]
  intro v hv
  unfold Zb5 wU at hv
  obtain⟨x,hx,rfl⟩:=List.mem_map.1(List.mem_of_mem_drop(List.mem_of_mem_take hv))
  exact decide_eq_true(h x hx)
 rw[show Zal tU=false from by kernel_rfl,show Nat.beq(rt tU) tU=true from by kernel_rfl,Nat.ble_eq_true_of_le(show o+n≤(wU L).length by rw[Zaj];exact hl),Nat.ble_eq_true_of_le hc,h2,h3,ZbM]
 rfl
theorem Zh8(D M R:List Int):Zy(wU(D++(M++R))) D.length M.length=M:=by
 unfold Zy Zb5 wU
 rw[List.map_append,List.map_append,List.drop_left'(by simp),List.take_left'(by simp),List.map_map]
 exact(List.map_congr_left fun x _=>rfl).trans(List.map_id' _)
theorem Zh9(D M R L:List Int):tmS(wU(D++(M++R))) D.length M.length L=wU(D++(L++R)):=by
 have e1:(wU(D++(M++R))).take D.length=wU D:=by
  unfold wU
  rw[List.map_append]
  exact List.take_left'(by simp)
 have e2:(wU(D++(M++R))).drop(D.length+M.length)=wU R:=by
  unfold wU
  rw[← List.append_assoc,List.map_append]
  exact List.drop_left'(by simp)
 unfold tmS
 rw[e1,e2]
 unfold wU
 rw[List.map_append,List.map_append]
theorem Zwg(D L:List Int)(z c:Int)(R:List Int):(wU(D++(L++z::R))).set(D.length+L.length)(uu c)=wU(D++((L++[c])++R)):=by
 rw[← List.append_assoc,show D.length+L.length=(D++L).length from by simp,Zi4]
 simp
theorem Zwh{la lb:List Value}{o c o' c':Nat}{LA LB:List Int}(RA:Row la o LA)(RB:Row lb o' LB)(sa:∀ v∈la,still v=true)(hrb:Z8 tR lb o' LB.length c'=true)(ha:0<LA.length)(hb:0<LB.length)(h8:LA.length+LB.length≤8192):
  Runs(Zs Tryz.prog Zf Zo hcM)(za(pdP Tryz.f115)(.seq(.seq(Z5(Z5(sn 4 Tryz.f115)))(.block 0(.loop(pdL Tryz.f115))))(Z0(sn 4 Tryz.f115))))([sl 0 o LA.length c,sl 1 o' LB.length c']++List.replicate 57 undef,h2 la lb,[]) fun e y=>(e=none∨e=some none)∧ZZ Tryz.prog Tryz.f115 y.1 y.2.1=some(.tuple #[sl 2 0(Zm(Zh7 LA LB))(LA.length+LB.length),.nilIface])∧y.2.1.blk? 2=some(wU(Zh7 LA LB),tU):=by
 have hT:=Zh Zd Znd
 have eZ:pZ LA.length LB.length=((LA.length+LB.length:Nat):Int):=by
  unfold pZ
  rw[Zw(by omega)(by omega)]
  omega
 have g0:=Z1e o LA.length c o' LB.length c' la lb
 rw[eZ,Int.toNat_natCast] at g0
 have esm:∀ q:Nat,q≤8192→ZB q=true:=fun q hq=>Zp.2(by unfold ZW;omega)
 have bA:=RA.rng
 have bB:=ZaK LB RB.rng
 have erep:List.replicate(LA.length+LB.length)(uu 0)=wU([]++(List.replicate LB.length 0++List.replicate LA.length 0)):=by
  unfold wU uu
  rw[Nat.add_comm]
  simp [List.replicate_append_replicate]
 rw[erep] at g0
 refine Zx hT g0(Zj(by unfold ZL;exact decide_eq_true(by omega))(Zj(by rw[Zw(by omega)(by omega)];exact decide_eq_false(by omega))(Zj(by simpa using(show LB.length≠0 by omega))(Zu(by simpa using(show LA.length≠0 by omega)))))) fun g=> ?_
 refine Runs.seq(P1:=fun e' y=>e'=none∧∃ (D M:List Int)(v7 v8 u1 u2 u3:Value)(g g':Nat→Value),y.1=ml(pdF o LA.length c o' LB.length c'(LA.length+LB.length) v7 v8) 22 g [u1,u2,u3] 25 g'∧D.length=LA.length∧M.length=LB.length∧wds D∧wds M∧vN D+4294967296^D.length*vN M=vN LA*vN LB∧y.2.1=h3 la lb(wU(D++(M++[])))) ?_ ?_(fun e y he=>by cases he.1)
 ·refine Runs.seq(P1:=fun e' y=>e'=none∧(∃ g g',y.1=ml(pdF o LA.length c o' LB.length c'(LA.length+LB.length) undef undef) 22 g [sl 0 o LA.length c,i6' LA.length,i6' 0] 25 g')∧y.2.1=h3 la lb(wU([]++(List.replicate LB.length 0++List.replicate LA.length 0))))(zA hT(Z91 o LA.length c o' LB.length c'(LA.length+LB.length) undef undef la lb _ g)(fun x hx=>by cases hx)) ?_(fun e y he=>by cases he.1)
  rintro⟨t,h',s'⟩⟨_,⟨g1,g2,ht⟩,hh⟩
  simp only at ht hh
  subst ht hh
  refine(Runs.forLoop(R:=fun _=>False)(P:=fun y=>∃ (D M:List Int)(v7 v8 u1 u2 u3:Value)(g g':Nat→Value),y.1=ml(pdF o LA.length c o' LB.length c'(LA.length+LB.length) v7 v8) 22 g [u1,u2,u3] 25 g'∧D.length=LA.length∧M.length=LB.length∧wds D∧wds M∧vN D+4294967296^D.length*vN M=vN LA*vN LB∧y.2.1=h3 la lb(wU(D++(M++[]))))
   (fun r y=>∃ (D M:List Int)(v7 v8:Value)(g g':Nat→Value),D.length+r=LA.length∧M.length=LB.length∧wds D∧wds M∧vN D+4294967296^D.length*vN M=vN(LA.take D.length)*vN LB∧y.1=ml(pdF o LA.length c o' LB.length c'(LA.length+LB.length) v7 v8) 22 g [sl 0 o LA.length c,i6' LA.length,i6' D.length] 25 g'∧y.2.1=h3 la lb(wU(D++(M++List.replicate r 0))))
   ?_(n:=LA.length)⟨[],List.replicate LB.length 0,undef,undef,g1,g2,by simp,by simp,(fun x hx=>by cases hx),Zh6 _,?_,rfl,rfl⟩).mono fun e' y he=> ?_
  ·rintro r⟨t,h',s'⟩⟨D,M,v7,v8,g,g',hr,hM,w1,w2,hv,ht,hh⟩
   simp only at ht hh
   subst ht hh
   cases r with
   | zero=>
    have ek:D.length=LA.length:=by omega
    refine(zA hT(Z1f o LA.length c o' LB.length c'(LA.length+LB.length) D.length v7 v8 la lb _ g g')(Zu(decide_eq_false(by omega)))).mono fun e' y he=> ?_
    obtain⟨rfl,⟨g1,g2,e2⟩,e3⟩:=he
    rw[ek,List.take_length] at hv
    rw[← ek] at hv
    exact⟨rfl,D,M,v7,v8,_,_,_,g1,g2,e2,ek,hM,w1,w2,hv,e3⟩
   | succ r=>
    have hk:D.length<LA.length:=by omega
    have cA:=RA.cell hk
    have hx:=bA(LA.getD D.length 0)(by simp [List.getD,List.getElem?_eq_getElem hk])
    have et:=Zaz hk
    generalize LA.getD D.length 0=x at*
    have eJ:pJ D.length=D.length:=by unfold pJ;omega
    have eK:pK D.length LB.length=((D.length+LB.length:Nat):Int):=by unfold pK;rw[Zw(by omega)(by omega)];omega
    have eL:pLn D.length LB.length=M.length:=by unfold pLn;rw[eK];omega
    have ecB:Zy lb o' LB.length=LB:=by
     unfold Zy
     rw[RB.cut]
     unfold wU
     rw[List.map_map]
     exact(List.map_congr_left fun x _=>rfl).trans(List.map_id' _)
    have ecM:Zy(wU(D++(M++List.replicate(r+1) 0)))(pJ D.length)(pLn D.length LB.length)=M:=by rw[eJ,eL];exact Zh8 _ _ _
    have ePS:pS(wU(D++(M++List.replicate(r+1) 0))) lb o' LB.length D.length x=wU(D++(tmR M LB x++List.replicate(r+1) 0)):=by
     unfold pS
     rw[ecM,ecB,eJ,eL]
     exact Zh9 _ _ _ _
    have ePC:pC(wU(D++(M++List.replicate(r+1) 0))) lb o' LB.length D.length x=tmC M LB x:=by
     unfold pC
     rw[ecM,ecB]
    have lR:(tmR M LB x).length=M.length:=by unfold tmR;rw[ZU]
    have bM:=ZaK M w2
    rw[hM] at bM
    have bT:=Z65 bM bB hx
    rw[← hM] at bT
    obtain⟨y,m,e1,e2,w3,w4,e5⟩:=ZqO bT
    have eW:tmR M LB x++[tmC M LB x]=y::m:=e1
    have g1:=Z69 o LA.length c o' LB.length c'(LA.length+LB.length) D.length x v7 v8 la lb(wU(D++(M++List.replicate(r+1) 0))) g g'
    rw[ePS,ePC,eK,eJ,eL,Int.toNat_natCast,Int.toNat_natCast,Nat.zero_add,Nat.mul_one] at g1
    have hall:wds(D++(M++List.replicate(r+1) 0)):=Zai w1(Zai w2(Zh6 _))
    have l1:decide(D.length+LB.length<(wU(D++(tmR M LB x++List.replicate(r+1) 0))).length)=true:=decide_eq_true(by rw[Zaj];simp [lR];omega)
    have l2:(inR((D.length+LB.length:Nat):Int)(LA.length+LB.length)).1=(inR((D.length+LB.length:Nat):Int)(LA.length+LB.length)).2:=decide_eq_true(by omega)
    have l3:Zh5(wU(D++(M++List.replicate(r+1) 0))) lb la tU tR tR D.length M.length(LA.length+LB.length-D.length) o' LB.length c' x=true:=by
     unfold Zh5
     rw[z4 hall(by simp)(by omega)(esm _(by omega)),hrb,List.all_eq_true.2 sa,Zp.2(show M.length<1099511627776 by omega),decide_eq_true hx,hM]
     simp
    have l5:ZS D.length((D.length+LB.length:Nat):Int)((LA.length+LB.length:Nat):Int)((LA.length+LB.length:Nat):Int)=true:=by unfold ZS;exact decide_eq_true(by omega)
    have l6:decide(((LA.length+LB.length:Nat):Int)=(D.length:Int)∧(D.length:Int)≠0)=false:=decide_eq_false(by omega)
    have l7:(inR D.length LA.length).1=(inR D.length LA.length).2:=decide_eq_true(by omega)
    refine(zA hT g1(Zj l1(Zj l2(Zj l3(Zj(esm _(by omega))(Zj l5(Zj l6(Zj(Zax cA)(Zj l7(Zu(decide_eq_true(by omega)))))))))))).mono fun e' Y he=> ?_
    obtain⟨rfl,⟨g2,g3,f2⟩,f3⟩:=he
    refine⟨r,by omega,D++[y],m,i6' D.length,uu x,g2,g3,by simp;omega,by omega,Zai w1 w3,w4,?_,?_,?_⟩
    ·rw[zu,List.length_append,List.length_singleton,pw,et,zu,List.length_take,Nat.min_eq_left(by omega)]
     exact ZvS e5 hv
    ·rw[f2,Zw(by omega)(by omega)]
     simp
    ·rw[f3,List.replicate_succ,← hM,← lR,Zwg,eW]
     simp
  ·simp only[List.length_nil,List.take_zero]
   have:vN(List.replicate LB.length 0)=0:=Ztp _
   rw[this]
   simp [vN]
  ·match e',he with
   | none,he=>exact⟨rfl,he⟩
   | some none,he=>exact he.elim
   | some(some _),he=>exact he.elim
 ·rintro⟨t,h',s'⟩⟨_,D,M,v7,v8,u1,u2,u3,g,g',ht,hD,hM,w1,w2,hv,hh⟩
  simp only at ht hh
  subst ht hh
  have hw:wds(D++M):=Zai w1 w2
  have hl:(D++M).length=LA.length+LB.length:=by simp;omega
  have ew:D++M=Zh7 LA LB:=by
   have:=Zf9(D++M) hw
   rw[ZsY,hv,hl] at this
   exact this.symm
  have hr:=Zta hw(c:=LA.length+LB.length)(by omega)(esm _ h8)
  rw[hl] at hr
  have htr:=Za4(D++M)
  have g1:=Z1g o LA.length c o' LB.length c'(LA.length+LB.length) v7 v8 u1 u2 u3 la lb(wU(D++M)) g g'
  rw[hr.2] at g1
  rw[List.append_nil]
  refine(Zb hT g1(Zj(decide_eq_false(by omega))(Zu hr.1))).mono fun e' y he=> ?_
  obtain⟨rfl,⟨g1,e2⟩,e3⟩:=he
  refine⟨.inr rfl,?_,?_⟩
  ·rw[e2,e3,ew]
   rfl
  ·rw[e3,ew]
   rfl
def Z6D:Zaf:=fun vals h s=>
 match vals,s with
 | [.slice p n c,.slice q n' c'],.inr(.inr(.inr(.inl true)))::s'=>some(.tuple #[Zq,.nilIface],h,s',[(decide(n=0∨n'=0),true)])
 | [.slice p n c,.slice q n' c'],.inr(.inr(.inr(.inl false)))::s'=>some(.tuple #[sl h.n 0(Zm(Zh7(Zr h p n)(Zr h q n')))(n+n'),.nilIface],h.push(wU(Zh7(Zr h p n)(Zr h q n'))) tU,s',[(Zaa h p n c,true),(Zaa h q n' c',true),(!decide(n=0∨n'=0) && Nat.ble(n+n') 8192,true)])
 | _,_=>none
theorem Znk:Z9 115 Z6D:=by
 intro vals h s v h' s' lg hg hl m B w E hv
 unfold Z6D at hg
 split at hg
 ·rename_i p n c q n' c' s2
  cases hg
  have l1:=of_decide_eq_true(hl _(List.mem_singleton.2 rfl))
  by_cases h0:n=0
  ·have r:=Zb(s0:=[])(Zh Zd Znd)(Z6A p q n c n' c' h)(Zu(by simp [h0]))
   exact Zbs(T:=Zs Tryz.prog Zf Zo hcM) Tryz.func115 ZiH(vals:=[.slice p n c,.slice q n' c'])(v:= .tuple #[Zq,.nilIface])(h:=h)(by rfl)(r.mono fun e y he=>by
    obtain⟨rfl,⟨g,e1⟩,e2⟩:=he
    exact⟨.inr rfl,by rw[e1,e2];rfl,e2⟩) m B w E hv
  ·have h1:n'=0:=l1.resolve_left h0
   have r:=Zb(s0:=[])(Zh Zd Znd)(Z6B p q n c n' c' h)(Zj(by simp [h1])(Zu(by simpa using h0)))
   exact Zbs(T:=Zs Tryz.prog Zf Zo hcM) Tryz.func115 ZiH(vals:=[.slice p n c,.slice q n' c'])(v:= .tuple #[Zq,.nilIface])(h:=h)(by rfl)(r.mono fun e y he=>by
    obtain⟨rfl,⟨g,e1⟩,e2⟩:=he
    exact⟨.inr rfl,by rw[e1,e2];rfl,e2⟩) m B w E hv
 ·rename_i p n c q n' c' s2
  cases hg
  obtain⟨l1,l2,l3⟩:=Z4B hl
  simp only[Bool.and_eq_true,Bool.not_eq_true',decide_eq_false_iff_not] at l1 l2 l3
  obtain⟨l3,l4⟩:=l3
  have l4:=Nat.le_of_ble_eq_true l4
  rcases ZO l1 with⟨_,h0,_⟩ | ⟨b,o,x,rfl,hx,r1,e0⟩
  ·omega
  rcases ZO l2 with⟨_,h0,_⟩ | ⟨b',o',y,rfl,hy,t1,f0⟩
  ·omega
  rw[e0,f0]
  obtain⟨a1,a2,a3,a4,a5,a6,a7⟩:=ZK r1
  obtain⟨b1,b2,b3,b4,b5,b6,b7⟩:=ZK t1
  have r:=Zwh(c:=c)(c':=c') a1 b1 a7(by rw[b2];exact zE t1)(by omega)(by omega)(by omega)
  rw[a2,b2] at r
  have e1:∀ k M:Nat,rn(fun _=>h.n)(.tuple #[sl 2 0 k M,.nilIface])= .tuple #[sl h.n 0 k M,.nilIface]:=fun k M=>by simp [rn,rn2,rn1,sl]
  have:=ZG(T:=Zs Tryz.prog Zf Zo hcM) Tryz.func115 ZvX(Zht a7 b7)(vals:=[sl 0 o n c,sl 1 o' n' c'])(fun v hv=>by
   simp only[List.mem_cons,List.not_mem_nil,or_false] at hv
   rcases hv with rfl | rfl<;>rfl)(k:=2)(Zdc _) Zed(r.w.mono fun e y h=>⟨h.1,h.2.1,[],by rw[List.append_nil];exact h.2.2⟩)(by rfl) E(s:=ZeV b b')(ZdZ hx a5 a6 hy b5 b6)
  rw[e1] at this
  exact this
 ·cases hg
end Go.Proofs.YtjlponbdflkbjaaGreatDoor.Na
namespace Go.Proofs.YtjlponbdflkbjaaGreatDoor.Na
open Go.KRun Go.Nt
set_option maxRecDepth 100000
theorem Z1k(V:Nat):wds(db 4294967296 V):=fun x hx=>by
 have:=Zfy(b:=4294967296)(by omega) V x hx
 exact⟨this.1,by have:=this.2;omega⟩
def uP(F:Func):List Code:=[Z5(Zt F),Z5(Z0(Zt F))]
def uC2(F:Func):Code:=Z0(Z0(Zt F))
def uR2(F:Func):Code:=Z5(Z5(uC2 F))
def uL1(F:Func):Code:=cIn(cIn(Z0(Z5(uC2 F))))
def uR7(F:Func):Code:=Z5(Z5(Z0(uC2 F)))
def uL2(F:Func):Code:=cIn(cIn(Z0(Z5(Z0(uC2 F)))))
def uE(F:Func):Code:=Z0(Z0(uC2 F))
theorem ZiK:Tryz.f111.body=some(za(uP Tryz.f111)(.seq(.seq(uR2 Tryz.f111)(.block 0(.loop(uL1 Tryz.f111))))(.seq(.seq(uR7 Tryz.f111)(.block 2(.loop(uL2 Tryz.f111))))(uE Tryz.f111)))):=by kernel_rfl
def hW1(S:List Value):Hp:=⟨1,[(S,tU)]⟩
def u1F(w:Value)(s:ByteArray)(c:Int)(i:Value)(k:Int):List Value:=[w,.string s,undef,undef,Zq,.int .u64 c,i,undef,undef,.string s,.int .i64 s.size,.int .i64 k]
def upC(c b:Int):Int:=IntKind.u64.wrap(IntKind.u64.wrap(c*10)+IntKind.u64.wrap(IntKind.u8.wrap(b-48)))
theorem Z6E(w:Value)(s:ByteArray)(h:Hp):Zg(evL(Zi Tryz.prog Zf Zo true) 100(uP Tryz.f111)([w,.string s]++List.replicate 49 undef,h,[])⟨[],[],[]⟩) 9 42 none [w,.string s,undef,undef,Zq,.int .u64 0,undef,undef,undef] h []:=⟨by kernel_rfl,by kernel_rfl,by kernel_rfl⟩
theorem Z92(w:Value)(s:ByteArray)(h:Hp)(g:Nat→Value):Zg(evC(Zi Tryz.prog Zf Zo true) 100 false(uR2 Tryz.f111)([w,.string s,undef,undef,Zq,.int .u64 0,undef,undef,undef]++tl 42 g,h,[])⟨[],[],[]⟩) 12 39 none(u1F w s 0 undef 0) h []:=⟨by kernel_rfl,by kernel_rfl,by kernel_rfl⟩
theorem Z93(w:Value)(s:ByteArray)(c:Int)(i:Value)(k:Int)(h:Hp)(g:Nat→Value):Zg(evC(Zi Tryz.prog Zf Zo true) 100 false(uL1 Tryz.f111)(u1F w s c i k++tl 39 g,h,[cmp false])⟨[],[],[]⟩) 12 39(some(some 0))(u1F w s c i k) h [(decide(k<s.size),false)]:=⟨by kernel_rfl,by kernel_rfl,by kernel_rfl⟩
theorem Z94(w:Value)(s:ByteArray)(c:Int)(i:Value)(k:Int)(h:Hp)(g:Nat→Value):Zg(evC(Zi Tryz.prog Zf Zo true) 100 false(uL1 Tryz.f111)(u1F w s c i k++tl 39 g,h,[cmp true])⟨[],[],[]⟩) 12 39 none(u1F w s(upC c((s.data.toList.getD k.toNat 0).toNat:Nat))(.int .i64 k)(IntKind.i64.wrap(k+1))) h [(decide(0≤k∧k.toNat<s.data.toList.length),true),(decide(k<s.size),true)]:=⟨by kernel_rfl,by kernel_rfl,by kernel_rfl⟩
def u2A(w:Value)(s:ByteArray)(c:Int)(i v x:Value):List Value:=[w,.string s,undef,undef,Zq,.int .u64 c,i,v,x]
def u2M(w:Value)(n:Nat)(j:Int):List Value:=[w,.int .i64 n,.int .i64 j]
theorem Z95(n C:Nat)(s:ByteArray)(c:Int)(i:Value)(k:Int)(h:Hp)(g:Nat→Value):ZdV(evC(Zi Tryz.prog Zf Zo true) 100 false(uR7 Tryz.f111)(u1F(sl 0 0 n C) s c i k++tl 39 g,h,[])⟨[],[],[]⟩) 9 14 3 25 none(u2A(sl 0 0 n C) s c i undef undef)(u2M(sl 0 0 n C) n 0) h []:=⟨by kernel_rfl,by kernel_rfl,by kernel_rfl⟩
theorem Z96(n C:Nat)(s:ByteArray)(c:Int)(i v x:Value)(j:Int)(h:Hp)(g g':Nat→Value):ZdV(evC(Zi Tryz.prog Zf Zo true) 100 false(uL2 Tryz.f111)(ml(u2A(sl 0 0 n C) s c i v x) 14 g(u2M(sl 0 0 n C) n j) 25 g',h,[cmp false])⟨[],[],[]⟩) 9 14 3 25(some(some 2))(u2A(sl 0 0 n C) s c i v x)(u2M(sl 0 0 n C) n j) h [(decide(j<n),false)]:=⟨by kernel_rfl,by kernel_rfl,by kernel_rfl⟩
def Zzb(c x:Int):Int:=IntKind.u64.wrap(c+IntKind.u64.wrap(IntKind.u64.wrap x*1000000000))
theorem Z97(n C:Nat)(s:ByteArray)(c:Int)(i v x0:Value)(j x:Int)(S:List Value)(g g':Nat→Value):ZdV(evC(Zi Tryz.prog Zf Zo true) 100 false(uL2 Tryz.f111)(ml(u2A(sl 0 0 n C) s c i v x0) 14 g(u2M(sl 0 0 n C) n j) 25 g',hW1 S,[cmp true,at_,val(uu x),at_,at_])⟨[],[],[]⟩) 9 14 3 25 none(u2A(sl 0 0 n C) s((Zzb c x).fdiv(2^min(Int.toNat 32) 64)) i(.int .i64 j)(uu x))(u2M(sl 0 0 n C) n(IntKind.i64.wrap(j+1)))(hW1(S.set(0+j.toNat*1)(uu(IntKind.u32.wrap(Zzb c x))))) [(decide((32:Int)<0),false),(decide(0+j.toNat*1<S.length),true),inR j n,Zdu S 0 j x,inR j n,(decide(j<n),true)]:=⟨by kernel_rfl,by kernel_rfl,by kernel_rfl⟩
theorem Z98(n C:Nat)(s:ByteArray)(c:Int)(i v x:Value)(j:Int)(h:Hp)(g g':Nat→Value):Zg(evC(Zi Tryz.prog Zf Zo true) 100 false(uE Tryz.f111)(ml(u2A(sl 0 0 n C) s c i v x) 14 g(u2M(sl 0 0 n C) n j) 25 g',h,[cmp false])⟨[],[],[]⟩) 5 46(some none) [sl 0 0 n C,.string s,undef,undef,sl 0 0 n C] h [(c !=0,false)]:=⟨by kernel_rfl,by kernel_rfl,by kernel_rfl⟩
theorem Z99(n C:Nat)(s:ByteArray)(c:Int)(i v x:Value)(j:Int)(S:List Value)(g g':Nat→Value):Zg(evC(Zi Tryz.prog Zf Zo true) 100 false(uE Tryz.f111)(ml(u2A(sl 0 0 n C) s c i v x) 14 g(u2M(sl 0 0 n C) n j) 25 g',hW1 S,[cmp true,sam true])⟨[],[],[]⟩) 5 46(some none) [sl 0 0(n+1) C,.string s,undef,undef,sl 0 0(n+1) C]⟨2,[([uu(IntKind.u32.wrap c)],tU),(S.take n++[uu(IntKind.u32.wrap c)]++S.drop(n+1),tU)]⟩ [(Zgg tU(S,tU)([uu(IntKind.u32.wrap c)],tU) n C 0 1,true),(c !=0,true)]:=⟨by kernel_rfl,by kernel_rfl,by kernel_rfl⟩
def dgF(s:ByteArray)(j:Nat):Int:=byT s j-48
theorem Zfc{s:ByteArray}(h:ZoG s){j:Nat}(hj:j<s.size):(48≤byT s j∧byT s j≤57)∧0≤dgF s j∧dgF s j<10:=by
 have h1:=h j hj
 unfold Zga at h1
 simp only[Bool.or_eq_false_iff,decide_eq_false_iff_not] at h1
 unfold dgF
 omega
theorem Z9A{c b:Int}(hc:0≤c∧c<1000000000)(hb:48≤b∧b≤57):upC c b=c*10+(b-48):=by
 unfold upC
 simp [IntKind.wrap,IntKind.bits,IntKind.signed]
 omega
theorem Z9B{c x:Int}(hc:0≤c∧c<1000000000)(hx:0≤x∧x<4294967296):IntKind.u32.wrap(Zzb c x)=(c+x*1000000000) % 4294967296∧(Zzb c x).fdiv(2^min(Int.toNat 32) 64)=(c+x*1000000000)/4294967296:=by
 have e:Zzb c x=c+x*1000000000:=by
  unfold Zzb
  simp [IntKind.wrap,IntKind.bits,IntKind.signed]
  omega
 have e2:((2:Int)^min(Int.toNat 32) 64)=4294967296:=rfl
 rw[e,e2,Int.fdiv_eq_ediv_of_nonneg _(by omega)]
 refine⟨?_,rfl⟩
 simp [IntKind.wrap,IntKind.bits,IntKind.signed]
theorem Z6F{k:Nat}(h:k≤9):(10:Nat)^k≤1000000000:=by
 have:=Nat.pow_le_pow_right(show 0<10 by omega) h
 exact this
theorem Z6G{w:Value}{s:ByteArray}(hs:ZoG s)(h9:s.size≤9)(h:Hp)(g:Nat→Value)(sc:List Dec):
  Runs(Zi Tryz.prog Zf Zo true)(.block 0(.loop(uL1 Tryz.f111)))(u1F w s 0 undef 0++tl 39 g,h,sc) fun e z=>e=none∧∃ (i:Value)(k:Int)(g:Nat→Value),z.1=u1F w s((zD(dgF s) s.size:Nat):Int) i k++tl 39 g∧z.2.1=h:=by
 have hT:=Zk Zd
 refine(Runs.forLoop(R:=fun _=>False)(P:=fun z=>∃ (i:Value)(k:Int)(g:Nat→Value),z.1=u1F w s((zD(dgF s) s.size:Nat):Int) i k++tl 39 g∧z.2.1=h)
  (fun r z=>∃ (k:Nat)(i:Value)(g:Nat→Value),z.1=u1F w s((zD(dgF s) k:Nat):Int) i k++tl 39 g∧z.2.1=h∧k≤s.size∧r=s.size-k)
  ?_(n:=s.size)⟨0,undef,g,rfl,rfl,by omega,by omega⟩).mono fun e z hz=> ?_
 ·rintro r⟨t,h',sc'⟩⟨k,i,g,ht,hh,hk,hr⟩
  simp only at ht hh
  subst ht hh
  by_cases hc:k<s.size
  ·obtain⟨b1,b2⟩:=Zfc hs hc
   have hlt:=Zca(f:=dgF s) k(fun j hj=>(Zfc hs(show j<s.size by omega)).2)
   have hp:=Z6F(show k≤9 by omega)
   have eC:=Z9A(c:=((zD(dgF s) k:Nat):Int))⟨by omega,by omega⟩ b1
   have l1:decide((0:Int)≤(k:Nat)∧((k:Nat):Int).toNat<s.data.toList.length)=true:=decide_eq_true⟨by omega,by rw[Int.toNat_natCast];exact hc⟩
   refine(Zb hT(Z94 w s _ i(k:Nat) h' g)(Za l1(Z3(decide_eq_true(by omega))))).mono fun e z he=> ?_
   obtain⟨rfl,⟨g',z1⟩,z2⟩:=he
   refine⟨s.size-(k+1),by omega,k+1,.int .i64(k:Nat),g',?_,z2,by omega,rfl⟩
   rw[z1,Int.toNat_natCast]
   have eb:(((s.data.toList.getD k 0).toNat:Nat):Int)=byT s k:=rfl
   rw[eb,eC,Zw(by omega)(by omega)]
   congr 2
   simp only[zD]
   have:((dgF s k).toNat:Int)=byT s k-48:=by unfold dgF at*;omega
   omega
  ·refine(Zb hT(Z93 w s _ i(k:Nat) h' g)(Z3(decide_eq_false(by omega)))).mono fun e z he=> ?_
   obtain⟨rfl,⟨g',z1⟩,z2⟩:=he
   rw[show k=s.size by omega] at z1
   exact⟨rfl,i,_,g',z1,z2⟩
 ·match e,hz with
  | none,hz=>exact⟨rfl,hz⟩
theorem Z6H{n C:Nat}{s:ByteArray}{P:Int}(hP:0≤P∧P<1000000000){L:List Int}(hL:wds L)(hn:L.length=n)(hN:n<4611686018427387904){Z:List Value}(i v x:Value)(g g':Nat→Value)(sc:List Dec):
  Runs(Zi Tryz.prog Zf Zo true)(.block 2(.loop(uL2 Tryz.f111)))(ml(u2A(sl 0 0 n C) s P i v x) 14 g(u2M(sl 0 0 n C) n 0) 25 g',hW1(wU L++Z),sc) fun e z=>e=none∧∃ (i v x:Value)(j:Int)(g g':Nat→Value),z.1=ml(u2A(sl 0 0 n C) s((vN L*1000000000+P)/4294967296^n) i v x) 14 g(u2M(sl 0 0 n C) n j) 25 g'∧z.2.1=hW1(wU(dg n(vN L*1000000000+P))++Z):=by
 have hT:=Zk Zd
 refine(Runs.forLoop(R:=fun _=>False)(P:=fun z=>∃ (i v x:Value)(j:Int)(g g':Nat→Value),z.1=ml(u2A(sl 0 0 n C) s((vN L*1000000000+P)/4294967296^n) i v x) 14 g(u2M(sl 0 0 n C) n j) 25 g'∧z.2.1=hW1(wU(dg n(vN L*1000000000+P))++Z))
  (fun r z=>∃ (dx px:List Int)(c:Int)(i v x:Value)(g g':Nat→Value),z.1=ml(u2A(sl 0 0 n C) s c i v x) 14 g(u2M(sl 0 0 n C) n dx.length) 25 g'∧z.2.1=hW1(wU(dx++px)++Z)∧px.length=r∧dx.length+px.length=n∧wds dx∧wds px∧(0≤c∧c<1000000000)∧vN dx+4294967296^dx.length*(vN px*1000000000+c)=vN L*1000000000+P)
  ?_(n:=n)⟨[],L,P,i,v,x,g,g',rfl,rfl,hn,by simpa using hn,(fun x hx=>by cases hx),hL,hP,by simp [vN]⟩).mono fun e z hz=> ?_
 ·rintro r⟨t,h',sc'⟩⟨dx,px,c,i,v,x0,g,g',ht,hh,hr,hl,wd1,wd2,hc,hv⟩
  simp only at ht hh
  subst ht hh
  match px,hr,hl,wd2,hv with
  | [],hr,hl,wd2,hv=>
   have hl':dx.length=n:=by simpa using hl
   refine(zA hT(Z96 n C s c i v x0(dx.length:Nat) _ g g')(Z3(decide_eq_false(by omega)))).mono fun e z he=> ?_
   obtain⟨rfl,⟨g1,g2,z1⟩,z2⟩:=he
   simp only[vN] at hv
   rw[Int.zero_mul,Int.zero_add] at hv
   have e5:=ZcC dx.length(vN dx) c
   rw[hv,Zf9 dx wd1,hl'] at e5
   have hb:=ZaK dx wd1
   have e6:(vN L*1000000000+P)/4294967296^n=c:=by
    rw[← hv,← hl',Int.add_mul_ediv_left _ _(by have:=Zay dx.length;omega),Int.ediv_eq_zero_of_lt hb.1 hb.2,Int.zero_add]
   rw[e6,e5]
   rw[List.append_nil] at z2
   exact⟨rfl,i,v,x0,_,g1,g2,z1,z2⟩
  | x::px,hr,hl,wd2,hv=>
   obtain⟨wx,wd2⟩:=Zah wd2
   obtain⟨t1,t2⟩:=Z9B hc wx
   have hl':dx.length<n:=by simp at hl;omega
   have cS:(wU(dx++x::px)++Z)[0+dx.length]? =some(uu x):=by
    rw[Nat.zero_add,List.getElem?_append_left(by unfold wU;simp)]
    exact ZsW dx x px
   have l1:decide(0+((dx.length:Nat):Int).toNat*1<(wU(dx++x::px)++Z).length)=true:=decide_eq_true(by unfold wU;simp)
   have l2:(inR(dx.length:Nat) n).1=(inR(dx.length:Nat) n).2:=decide_eq_true(by omega)
   have l3:(Zdu(wU(dx++x::px)++Z) 0(dx.length:Nat) x).1=(Zdu(wU(dx++x::px)++Z) 0(dx.length:Nat) x).2:=Zax cS
   refine(zA hT(Z97 n C s c i v x0(dx.length:Nat) x _ g g')(Za(by decide)(Za l1(Za l2(Za l3(Za l2(Z3(decide_eq_true(by omega))))))))).mono fun e z he=> ?_
   obtain⟨rfl,⟨g1,g2,z1⟩,z2⟩:=he
   rw[t2] at z1
   rw[t1] at z2
   refine⟨px.length,by simp at hr;omega,dx++[(c+x*1000000000) % 4294967296],px,(c+x*1000000000)/4294967296,i,.int .i64(dx.length:Nat),uu x,g1,g2,?_,?_,rfl,by simp at hl ⊢;omega,Zai wd1(fun z hz=>by rw[List.mem_singleton.1 hz];omega),wd2,by omega,?_⟩
   ·rw[z1,Zw(by omega)(by omega),List.length_append,List.length_singleton]
    rfl
   ·rw[z2,Int.toNat_natCast,Nat.mul_one,Nat.zero_add,List.set_append_left _ _(by unfold wU;simp),Zi4]
   ·rw[zu,List.length_append,List.length_singleton,Int.pow_succ,← hv]
    simp only[vN]
    generalize vN px=A
    generalize(4294967296:Int)^dx.length=Q
    have e:(c+x*1000000000)=4294967296*((c+x*1000000000)/4294967296)+(c+x*1000000000) % 4294967296:=by omega
    generalize(c+x*1000000000)/4294967296=d at*
    generalize(c+x*1000000000) % 4294967296=m at*
    have e':(x+4294967296*A)*1000000000+c=4294967296*d+m+4294967296*A*1000000000:=by omega
    rw[e']
    have d1:Q*(4294967296*d+m+4294967296*A*1000000000)=Q*4294967296*d+Q*m+Q*4294967296*(A*1000000000):=by
     rw[Int.mul_add,Int.mul_add,← Int.mul_assoc,Int.mul_assoc 4294967296 A,← Int.mul_assoc Q]
    rw[d1,Int.mul_add]
    omega
 ·match e,hz with
  | none,hz=>exact⟨rfl,hz⟩
def ppT(L:List Int)(s:ByteArray):Int:=vN L*1000000000+((zD(dgF s) s.size:Nat):Int)
theorem Znl{C:Nat}{s:ByteArray}(hs:ZoG s)(h9:s.size≤9){L:List Int}(hL:wds L)(hN:L.length<1073741824){Z:List Value}:
  (ppT L s/4294967296^L.length=0→Runs(Zi Tryz.prog Zf Zo true)(za(uP Tryz.f111)(.seq(.seq(uR2 Tryz.f111)(.block 0(.loop(uL1 Tryz.f111))))(.seq(.seq(uR7 Tryz.f111)(.block 2(.loop(uL2 Tryz.f111))))(uE Tryz.f111))))([sl 0 0 L.length C,.string s]++List.replicate 49 undef,hW1(wU L++Z),[]) fun e y=>(e=none∨e=some none)∧ZZ Tryz.prog Tryz.f111 y.1 y.2.1=some(sl 0 0 L.length C)∧y.2.1.cut 1=hW1(wU(dg L.length(ppT L s))++Z))∧
  (ppT L s/4294967296^L.length≠0→L.length<C→ZB C=true→0<Z.length→Runs(Zi Tryz.prog Zf Zo true)(za(uP Tryz.f111)(.seq(.seq(uR2 Tryz.f111)(.block 0(.loop(uL1 Tryz.f111))))(.seq(.seq(uR7 Tryz.f111)(.block 2(.loop(uL2 Tryz.f111))))(uE Tryz.f111))))([sl 0 0 L.length C,.string s]++List.replicate 49 undef,hW1(wU L++Z),[]) fun e y=>(e=none∨e=some none)∧ZZ Tryz.prog Tryz.f111 y.1 y.2.1=some(sl 0 0(L.length+1) C)∧y.2.1.cut 1=hW1(wU(dg L.length(ppT L s))++[uu(ppT L s/4294967296^L.length)]++Z.drop 1)):=by
 have hT:=Zk Zd
 have hlt:=Zca(f:=dgF s) s.size(fun j hj=>(Zfc hs hj).2)
 have hp:=Z6F h9
 have hP:(0:Int)≤((zD(dgF s) s.size:Nat):Int)∧((zD(dgF s) s.size:Nat):Int)<1000000000:=by omega
 have key:∀ {Q:Ex→Lf→Prop},(∀ (i v x:Value)(j:Int)(g g':Nat→Value)(sc:List Dec),Runs(Zi Tryz.prog Zf Zo true)(uE Tryz.f111)(ml(u2A(sl 0 0 L.length C) s(ppT L s/4294967296^L.length) i v x) 14 g(u2M(sl 0 0 L.length C) L.length j) 25 g',hW1(wU(dg L.length(ppT L s))++Z),sc) Q)→Runs(Zi Tryz.prog Zf Zo true)(za(uP Tryz.f111)(.seq(.seq(uR2 Tryz.f111)(.block 0(.loop(uL1 Tryz.f111))))(.seq(.seq(uR7 Tryz.f111)(.block 2(.loop(uL2 Tryz.f111))))(uE Tryz.f111))))([sl 0 0 L.length C,.string s]++List.replicate 49 undef,hW1(wU L++Z),[]) Q:=by
  intro Q hQ
  refine Zx hT(Z6E(sl 0 0 L.length C) s _) ZyU fun g=> ?_
  refine Runs.seq(P1:=fun e z=>e=none∧∃ (i:Value)(k:Int)(g:Nat→Value),z.1=u1F(sl 0 0 L.length C) s((zD(dgF s) s.size:Nat):Int) i k++tl 39 g∧z.2.1=hW1(wU L++Z)) ?_ ?_(fun e y he=>by cases he.1)
  ·refine Runs.seq(Zb hT(Z92(sl 0 0 L.length C) s _ g) ZyU) ?_(fun e y he=>by cases he.1)
   rintro⟨t,hh,sc⟩⟨_,⟨g',e1⟩,e2⟩
   simp only at e1 e2
   subst e1 e2
   exact Z6G hs h9 _ g' sc
  ·rintro⟨t,hh,sc⟩⟨_,i,k,g',e1,e2⟩
   simp only at e1 e2
   subst e1 e2
   refine Runs.seq(P1:=fun e z=>e=none∧∃ (i v x:Value)(j:Int)(g g':Nat→Value),z.1=ml(u2A(sl 0 0 L.length C) s(ppT L s/4294967296^L.length) i v x) 14 g(u2M(sl 0 0 L.length C) L.length j) 25 g'∧z.2.1=hW1(wU(dg L.length(ppT L s))++Z)) ?_ ?_(fun e y he=>by cases he.1)
   ·refine Runs.seq(zA hT(Z95 L.length C s _ i k _ g') ZyU) ?_(fun e y he=>by cases he.1)
    rintro⟨t,hh,sc⟩⟨_,⟨g1,g2,e1⟩,e2⟩
    simp only at e1 e2
    subst e1 e2
    exact Z6H hP hL rfl(by omega) _ _ _ g1 g2 sc
   ·rintro⟨t,hh,sc⟩⟨_,i,v,x,j,g1,g2,e1,e2⟩
    simp only at e1 e2
    subst e1 e2
    exact hQ i v x j g1 g2 sc
 refine⟨fun hz=>key fun i v x j g g' sc=> ?_,fun hz hC hsm hZ=>key fun i v x j g g' sc=> ?_⟩
 ·refine(Zb hT(Z98 L.length C s _ i v x j _ g g')(Z3(by rw[hz];rfl))).mono fun e z he=> ?_
  obtain⟨rfl,⟨g1,z1⟩,z2⟩:=he
  exact⟨.inr rfl,by rw[z1,z2];rfl,by rw[z2];rfl⟩
 ·have hQ:=Zay L.length
  have hvb:=ZaK L hL
  have hTb:0≤ppT L s/4294967296^L.length∧ppT L s/4294967296^L.length<4294967296:=by
   have h0:0≤ppT L s:=by unfold ppT;omega
   have h1:ppT L s<4294967296*4294967296^L.length:=by unfold ppT;omega
   exact⟨Int.ediv_nonneg h0(by omega),Int.ediv_lt_of_lt_mul(by omega) h1⟩
  have ew:IntKind.u32.wrap(ppT L s/4294967296^L.length)=ppT L s/4294967296^L.length:=by
   generalize ppT L s/4294967296^L.length=y at*
   simp [IntKind.wrap,IntKind.bits,IntKind.signed]
   omega
  have hlen:(wU(dg L.length(ppT L s))).length=L.length:=by unfold wU;simp [ZU]
  have l1:Zgg tU(wU(dg L.length(ppT L s))++Z,tU)([uu(IntKind.u32.wrap(ppT L s/4294967296^L.length))],tU) L.length C 0 1=true:=by
   unfold Zgg
   simp only[Bool.and_eq_true,Bool.not_eq_true']
   refine⟨⟨⟨⟨⟨⟨⟨⟨⟨⟨Nat.ble_eq_true_of_le(by rw[List.length_append,hlen];omega),Nat.ble_eq_true_of_le(by omega)⟩,by kernel_rfl⟩,hsm⟩,Nat.ble_eq_true_of_le(by omega)⟩,by kernel_rfl⟩,by kernel_rfl⟩,by kernel_rfl⟩,by rfl⟩,by rfl⟩,by rfl⟩
  refine(Zb hT(Z99 L.length C s _ i v x j _ g g')(Za l1(Z3(by simpa using hz)))).mono fun e z he=> ?_
  obtain⟨rfl,⟨g1,z1⟩,z2⟩:=he
  have e1:(wU(dg L.length(ppT L s))++Z).take L.length=wU(dg L.length(ppT L s)):=List.take_left' hlen
  have e2:(wU(dg L.length(ppT L s))++Z).drop(L.length+1)=Z.drop 1:=by
   rw[← List.drop_drop,List.drop_left' hlen]
  rw[e1,e2,ew] at z2
  exact⟨.inr rfl,by rw[z1,z2];rfl,by rw[z2];rfl⟩
theorem ZbP{T:Tab}{f:Nat}{F:Func}{c:Code}(hF:T.P.funcs[f]? =some F)(hc:F.body=some c){vals:List Value}{v:Value}{h h':Hp}(hv:lt h.n v=true)(ht:h'.tight=true)
  (hr:Runs T c(vals++List.replicate(F.ntmps-vals.length) undef,h,[]) fun e y=>(e=none∨e=some none)∧ZZ T.P F y.1 y.2.1=some v∧y.2.1.cut h.n=h')(m:Mp)(B:Nat)(w:World)(E:Emb m B h w)(hvals:∀ v∈vals,lt h.n v=true):
  Calls T.P f(vals.map(mv m)).toArray w fun e w'=>∃ m',e= .returned(mv m' v)∧Came m B h w v h' m' w':=by
 refine calls_of_wp hF hc ?_
 have R:Rel m B(vals++List.replicate(F.ntmps-vals.length) undef,h,[]){tmps:=(vals.map(mv m)).toArray++Array.replicate(F.ntmps-(vals.map(mv m)).toArray.size) undef,defers:=[]} w:=by
  refine⟨?_,rfl,E,?_⟩
  ·simp [zo]
  ·intro y hy
   rcases List.mem_append.1 hy with hy | hy
   ·exact hvals y hy
   ·rw[List.eq_of_mem_replicate hy];simp [undef,lt]
 refine hr _ _ _ w R _ fun e y he a' w' hR=> ?_
 obtain⟨hex,hres,hcut⟩:=he
 obtain⟨m',k1,k2,k3,k4⟩:=hR
 obtain⟨r1,r2⟩:=Zae k2.emb k2.wf hres
 rw[← k2.tmps,ZhO k1 hv] at r1
 have k4':h.n≤y.2.1.n:=k4
 have C:Came m B h w v h' m w':=by
  subst hcut
  exact⟨Agree.refl _ _,k2.emb.cut k1 k4' ht,k3,by simp [Hp.cut],by simpa [Hp.cut] using hv⟩
 have post:a'.defers=[]∧∃ v',(results F a'.tmps).run T.P w'= .ok v' w'∧∃ m',Ending.returned v'= .returned(mv m' v)∧Came m B h w v h' m' w':=
  ⟨k2.dfr,_,r1,m,rfl,C⟩
 rcases hex with rfl | rfl<;>exact post
def ppQ(S:List Value)(n:Nat)(b:ByteArray):Int:=ppT(Zy S 0 n) b/4294967296^n
def Zzc(S:List Value)(t:TypeId)(n c:Nat)(b:ByteArray):Log:=[(Nat.beq t tU,true),(Z8 t S 0 n c,true),(decide(¬ ixV b≥0),true),(Nat.ble b.size 9 && Nat.blt n 1073741824,true)]
def gPp:Zaf:=fun vals h s=>
 match vals,h,s with
 | [.slice(some⟨0,0,none⟩) n c,.string b],⟨1,[(S,t)]⟩,.inr(.inr(.inr(.inl d)))::s'=>
  match d with
  | false=>some(sl 0 0 n c,⟨1,[(wU(dg n(ppT(Zy S 0 n) b))++S.drop n,tU)]⟩,s',(decide(ppQ S n b=0),true)::Zzc S t n c b)
  | true=>some(sl 0 0(n+1) c,⟨1,[(wU(dg n(ppT(Zy S 0 n) b))++[uu(ppQ S n b)]++S.drop(n+1),tU)]⟩,s',(decide(ppQ S n b≠0),true)::(Nat.blt n c && Nat.blt n S.length,true)::Zzc S t n c b)
 | _,_,_=>none
theorem Znm{S:List Value}{t:TypeId}{n c:Nat}{b:ByteArray}(h:Z4(Zzc S t n c b)):t=tU∧Row S 0(Zy S 0 n)∧(Zy S 0 n).length=n∧ZB c=true∧(∀ v∈S,still v=true)∧ZoG b∧b.size≤9∧n<1073741824∧S=wU(Zy S 0 n)++S.drop n:=by
 obtain⟨l1,q⟩:=ZoH h
 obtain⟨l2,q⟩:=ZoH q
 obtain⟨l3,q⟩:=ZoH q
 obtain⟨l4,_⟩:=ZoH q
 have l1:=Nat.eq_of_beq_eq_true l1
 obtain⟨a1,a2,a3,a4,a5,a6,a7⟩:=ZK l2
 simp only[Bool.and_eq_true] at l4
 refine⟨l1,a1,a2,a4,a7,(ZbL b).1(of_decide_eq_true l3),Nat.le_of_ble_eq_true l4.1,Zp.1 l4.2,?_⟩
 have h1:=a1.cut
 rw[a2] at h1
 rw[← h1]
 unfold Zb5
 simp
theorem Z1l:Z9 111 gPp:=by
 intro vals h s v h' s' lg hg hl m B w E hv
 unfold gPp at hg
 split at hg
 ·rename_i n c b S t d s2
  split at hg
  ·cases hg
   obtain⟨l1,q⟩:=ZoH hl
   obtain⟨rfl,a1,a2,a4,a7,hd,h9,hn,eS⟩:=Znm q
   have hz:=of_decide_eq_true l1
   have hst:∀ v∈S.drop n,lt1 1 v=true:=fun v hv=>zj(by omega)(a7 v(List.mem_of_mem_drop hv))
   have r:=(Znl(C:=c) hd h9(L:=Zy S 0 n) a1.rng(by omega)(Z:=S.drop n)).1(by rw[a2];exact hz)
   rw[a2,← eS] at r
   have ht:(hW1(wU(dg n(ppT(Zy S 0 n) b))++S.drop n)).tight=true:=by
    unfold Hp.tight hW1
    simp only[List.all_cons,List.all_nil,List.all_append,Bool.and_true,Bool.and_eq_true]
    exact⟨Zbu _ _,List.all_eq_true.2 hst⟩
   exact ZbP(T:=Zi Tryz.prog Zf Zo true) Tryz.func111 ZiK(vals:=[sl 0 0 n c,.string b])(h:=hW1 S)(by rfl) ht r m B w E hv
  ·cases hg
   obtain⟨l1,q⟩:=ZoH hl
   obtain⟨l0,q⟩:=ZoH q
   obtain⟨rfl,a1,a2,a4,a7,hd,h9,hn,eS⟩:=Znm q
   simp only[Bool.and_eq_true] at l0
   have hc:=Zp.1 l0.1
   have hS:=Zp.1 l0.2
   have hz:=of_decide_eq_true l1
   have r:=(Znl(C:=c) hd h9(L:=Zy S 0 n) a1.rng(by omega)(Z:=S.drop n)).2(by rw[a2];exact hz)(by omega) a4(by rw[List.length_drop];omega)
   rw[a2,← eS,List.drop_drop] at r
   have ht:(hW1(wU(dg n(ppT(Zy S 0 n) b))++[uu(ppQ S n b)]++S.drop(n+1))).tight=true:=by
    unfold Hp.tight hW1
    simp only[List.all_cons,List.all_nil,List.all_append,Bool.and_true,Bool.and_eq_true]
    exact⟨⟨Zbu _ _,rfl⟩,List.all_eq_true.2 fun v hv=>zj(by omega)(a7 v(List.mem_of_mem_drop hv))⟩
   exact ZbP(T:=Zi Tryz.prog Zf Zo true) Tryz.func111 ZiK(vals:=[sl 0 0 n c,.string b])(h:=hW1 S)(by rfl) ht r m B w E hv
 ·cases hg
def Zen:Con:=alt 110 gCf Zo
theorem ZqU:ConOk Zen:=ZA Tryz.func110 rfl Z0Q Zd
def Znn:Hc:=zS 111 gPp(zS 112 Zg4 hcN)
theorem Zwi:HcOk Znn:=Z2 Tryz.func111 rfl Z1l(Z2 Tryz.func112 rfl ZbY Zam)
theorem ZhA:TabOk(Zs Tryz.prog Zf Zen Znn):=Zh ZqU Zwi
def qC9(F:Func):Nat→Code
 | 0=>Zt F
 | n+1=>Z0(qC9 F n)
def qP9(F:Func):List Code:=[Z5(qC9 F 0),Z5(qC9 F 1),Z5(qC9 F 2),Z5(qC9 F 3),Z5(qC9 F 4)]
def qL9(F:Func):Code:=cIn(cIn(Z5(qC9 F 5)))
def qE9(F:Func):Code:=qC9 F 6
theorem Zwj:Tryz.f75.body=some(za(qP9 Tryz.f75)(.seq(.block 0(.loop(qL9 Tryz.f75)))(qE9 Tryz.f75))):=by kernel_rfl
def Zwk(s:ByteArray):Int:=(IntKind.i64.wrap(IntKind.i64.wrap((s.size:Int).tdiv 9)+1))
def qF9(s:Value)(w v:Value):List Value:=[s,undef,Zq,.nilIface,fO,w,v]
def eqN(s:ByteArray):Bool:=s==(⟨⟨[]⟩⟩:ByteArray)
theorem Z1m(s:ByteArray):Zg(evL(Zs Tryz.prog Zf Zen Znn) 100(qP9 Tryz.f75)([.string s]++List.replicate 40 undef,⟨0,[]⟩,[sam false,cmp false,cmp false,at_])⟨[],[],[]⟩) 7 34 none(qF9(.string s)(sl 0 0 0(Zwk s).toNat) undef)(hW1(List.replicate(Zwk s).toNat(.int .u32 0))) [(ZL 4 0(Zwk s),true),(decide((s.size:Int)>20000),false),(decide(ixV s≥0),false),(true,true),(eqN s,false)]:=⟨by kernel_rfl,by kernel_rfl,by kernel_rfl⟩
theorem Z9C(s:ByteArray):Z7(Zn(Zs Tryz.prog Zf Zen Znn) 100 75 [.string s] [sam true])(.tuple #[Zq,Zc6 3]) [(eqN s,true)]:=⟨by kernel_rfl,by kernel_rfl,by kernel_rfl,by kernel_rfl⟩
theorem Z9D(s:ByteArray):Z7(Zn(Zs Tryz.prog Zf Zen Znn) 100 75 [.string s] [sam false,cmp true])(.tuple #[Zq,Zc6 3]) [(decide(ixV s≥0),true),(true,true),(eqN s,false)]:=⟨by kernel_rfl,by kernel_rfl,by kernel_rfl,by kernel_rfl⟩
def enP(l:List UInt8):Int:=IntKind.i64.wrap((IntKind.i64.wrap((l.length:Int)-1)).tmod 9+1)
theorem Z6I(l:List UInt8)(d:Bool)(n C:Nat)(v:Value)(S:List Value)(g:Nat→Value):Zg(evC(Zs Tryz.prog Zf Zen Znn) 100 false(qL9 Tryz.f75)(qF9(bS l)(sl 0 0 n C) v++tl 34 g,hW1 S,[sam true,sam true,cmp d,sam true])⟨[],[],[]⟩) 7 34 none(qF9(bS(l.drop(enP l).toNat))(sl 0 0(match d with | true=>n+1 | false=>n) C)(.int .i64(enP l)))(match d with | true=>hW1(wU(dg n(ppT(Zy S 0 n)⟨⟨l.take(enP l).toNat⟩⟩))++[uu(ppQ S n⟨⟨l.take(enP l).toNat⟩⟩)]++S.drop(n+1)) | false=>hW1(wU(dg n(ppT(Zy S 0 n)⟨⟨l.take(enP l).toNat⟩⟩))++S.drop n))
  ((decide(0≤enP l∧enP l≤(l.length:Nat)),true)::(match d with | true=>(decide(ppQ S n⟨⟨l.take(enP l).toNat⟩⟩≠0),true)::(Nat.blt n C && Nat.blt n S.length,true)::Zzc S tU n C⟨⟨l.take(enP l).toNat⟩⟩ | false=>(decide(ppQ S n⟨⟨l.take(enP l).toNat⟩⟩=0),true)::Zzc S tU n C⟨⟨l.take(enP l).toNat⟩⟩)++[(decide(0≤enP l∧enP l≤(l.length:Nat)),true),(!(eqN⟨⟨l⟩⟩),true)]):=by
 cases d<;>exact⟨by kernel_rfl,by kernel_rfl,by kernel_rfl⟩
theorem Z1n(w v:Value)(h:Hp)(g:Nat→Value):Zg(evC(Zs Tryz.prog Zf Zen Znn) 100 false(qL9 Tryz.f75)(qF9(bS []) w v++tl 34 g,h,[sam false])⟨[],[],[]⟩) 7 34(some(some 0))(qF9(bS []) w v) h [(!(eqN⟨⟨[]⟩⟩),false)]:=⟨by kernel_rfl,by kernel_rfl,by kernel_rfl⟩
theorem Z1o(s v:Value)(n C:Nat)(S:List Value)(g:Nat→Value):Zg(evC(Zs Tryz.prog Zf Zen Znn) 100 false(qE9 Tryz.f75)(qF9 s(sl 0 0 n C) v++tl 34 g,hW1 S,[])⟨[],[],[]⟩) 4 37(some none) [s,undef,sl 0 0(Zm(Zy S 0 n)) C,.nilIface](hW1 S) [(Z8 tU S 0 n C,true)]:=⟨by kernel_rfl,by kernel_rfl,by kernel_rfl⟩
end Go.Proofs.YtjlponbdflkbjaaGreatDoor.Na
