/-
  ConNM, ConNN, ConNO, ConNE, NumR, ConNF, ConNP, UuZ, TxE, TxI, TxJ, TxK, NumTy
-/
import Derived.Test.YtjlponbdflkbjaaGreatDoorG07
namespace Go.Proofs.YtjlponbdflkbjaaGreatDoor.Na
open Go.Proofs.Tryz
open Go.IntKind
open Go.KRun Go.Nt
set_option maxRecDepth 100000
set_option linter.unusedVariables false
def tK (k x y z:Int):Int:=u64.wrap (k+u64.wrap (u64.wrap (u64.wrap x*u64.wrap y)+u64.wrap z))
def tC (k x y z:Int):Int:=(tK k x y z).fdiv (2^min (Int.toNat 32) 64)
def tD (k x y z:Int):Int:=u32.wrap (tK k x y z)
theorem ZuD {k x y z:Int}(hk:0≤k∧k<4294967296) (hx:0≤x∧x<4294967296) (hy:0≤y∧y<4294967296) (hz:0≤z∧z<4294967296):
  (0≤tD k x y z∧tD k x y z<4294967296)∧(0≤tC k x y z∧tC k x y z<4294967296)∧k+(x*y+z)=tD k x y z+4294967296*tC k x y z:=by
 have hxy:=Z0f hx hy;have e:tK k x y z=k+(x*y+z):=by
  unfold tK;simp only[ZoB];rw[Int.emod_eq_of_lt hx.1 (by omega),Int.emod_eq_of_lt hy.1 (by omega),Int.emod_eq_of_lt hz.1 (by omega),Int.emod_eq_of_lt hxy.1 (by omega),Int.emod_eq_of_lt (by omega) (by omega),Int.emod_eq_of_lt (by omega) (by omega)]
 unfold tD tC;rw[e,ZgS,show ((2:Int)^min (Int.toNat 32) 64)=4294967296 from by decide,Int.fdiv_eq_ediv_of_nonneg _ (by omega)];generalize x*y=W at*;omega
def tmP (F:Func):List Code:=[Z2 (Zs F),Z2 (Zz (Zs F)),Z2 (Zz (Zz (Zs F)))]
def tmB (F:Func):Code:=Z2 (Zz (Zz (Zz (Zs F))))
def tmL (F:Func):Code:=cIn (cIn (Zz (tmB F)))
def tmE (F:Func):Code:=Zz (Zz (Zz (Zz (Zs F))))
def tmF (o n c o' c':Nat) (x k:Int) (v8 v9 u1 u2 u3 u4:Value) (j:Int):List Value:=[sl 2 o n c,sl 1 o' n c',uu x,undef,undef,undef,uu 0,.int .u64 k,v8,v9,u1,u2,u3,u4,sl 1 o' n c',i6' n,i6' j]
theorem ZuE:f132.body=some (ZW (tmP f132) (.seq (.seq (Z2 (tmB f132)) (.block 0 (.loop (tmL f132)))) (tmE f132))):=by kernel_rfl
def tmA (o n c o' c':Nat) (x:Int):List Value:=[sl 2 o n c,sl 1 o' n c',uu x,undef,undef,undef,uu 0,.int .u64 0,undef,undef,sl 2 o n c,sl 1 o' n c',i6' n,sl 2 o n c]
theorem Z0g (o n c o' c':Nat) (x:Int) (S la lb:List Value):Zg (evL (Zk prog Zf Zn true) 100 (tmP f132) ([sl 2 o n c,sl 1 o' n c',uu x]++List.replicate 41 undef,h3 la lb S,[num 0]) ⟨[],[],[]⟩) 14 30 none (tmA o n c o' c' x) (h3 la lb S) [(ZA c,true),(ZQ 0 n c c,true),(decide ((c:Int)=0∧(0:Int)≠0),false)]:=by and_intros<;>kernel_rfl
theorem Z5f (o n c o' c':Nat) (x:Int) (S la lb:List Value) (g:Nat→Value):Zg (evC (Zk prog Zf Zn true) 100 false (Z2 (tmB f132)) (tmA o n c o' c' x++tl 30 g,h3 la lb S,[]) ⟨[],[],[]⟩) 17 27 none (tmF o n c o' c' x 0 undef undef (sl 2 o n c) (sl 1 o' n c') (i6' n) (sl 2 o n c) 0) (h3 la lb S) []:=by and_intros<;>kernel_rfl
theorem Z0h (o n c o' c':Nat) (x k j:Int) (v8 v9 u1 u2 u3 u4:Value) (S la lb:List Value) (g:Nat→Value):Zg (evC (Zk prog Zf Zn true) 100 false (tmL f132) (tmF o n c o' c' x k v8 v9 u1 u2 u3 u4 j++tl 27 g,h3 la lb S,[cmp false]) ⟨[],[],[]⟩) 17 27 (some (some 0)) (tmF o n c o' c' x k v8 v9 u1 u2 u3 u4 j) (h3 la lb S) [(decide (j<n),false)]:=by and_intros<;>kernel_rfl
theorem Z5g (o n c o' c':Nat) (x k j y z:Int) (v8 v9 u1 u2 u3 u4:Value) (S la lb:List Value) (g:Nat→Value):Zg (evC (Zk prog Zf Zn true) 100 false (tmL f132) (tmF o n c o' c' x k v8 v9 u1 u2 u3 u4 j++tl 27 g,h3 la lb S,[cmp true,at_,val (uu y),at_,val (uu z),at_,at_]) ⟨[],[],[]⟩) 17 27 none (tmF o n c o' c' x (tC k x y z) (i6' j) (uu y) u1 u2 u3 u4 (i64.wrap (j+1))) (h3 la lb (S.set (o+j.toNat*1) (uu (tD k x y z)))) [(decide ((32:Int)<0),false),(decide (o+j.toNat*1<S.length),true),inR j n,Zdr S o j z,inR j n,Zdr lb o' j y,inR j n,(decide (j<n),true)]:=by and_intros<;>kernel_rfl
theorem Z0i (o n c o' c':Nat) (x k j:Int) (v8 v9 u1 u2 u3 u4:Value) (h:Hp) (g:Nat→Value):Zg (evC (Zk prog Zf Zn true) 100 false (tmE f132) (tmF o n c o' c' x k v8 v9 u1 u2 u3 u4 j++tl 27 g,h,[]) ⟨[],[],[]⟩) 7 37 (some none) [sl 2 o n c,sl 1 o' n c',uu x,undef,undef,undef,uu (u32.wrap k)] h []:=by and_intros<;>kernel_rfl
theorem Zeg {F:List Value}{o:Nat}(hF:F.length=o) (dx:List Int) (x:Int) (px:List Int) (R:List Value):(F++(wU (dx++x::px)++R))[o+dx.length]? =some (uu x):=by
 rw[← List.append_assoc,List.getElem?_append_left (by unfold wU;simp;omega)];exact ZsP hF dx x px
theorem Zeh {F:List Value}{o:Nat}(hF:F.length=o) (dx:List Int) (x d:Int) (px:List Int) (R:List Value):(F++(wU (dx++x::px)++R)).set (o+dx.length) (uu d)=F++(wU ((dx++[d])++px)++R):=by
 rw[← List.append_assoc,List.set_append_left _ _ (by unfold wU;simp;omega),ZsQ hF,List.append_assoc]
def tmR (M B:List Int) (x:Int):List Int:=dg M.length (vN M+x*vN B)
def tmC (M B:List Int) (x:Int):Int:=(vN M+x*vN B)/4294967296^M.length
theorem ZuF {F R la lb:List Value}{o c o' c':Nat}{M LB:List Int}{x:Int}(hF:F.length=o) (hM:wds M) (RB:Row lb o' LB) (hl:M.length=LB.length) (hN:M.length<1099511627776) (hx:0≤x∧x<4294967296) (hc:M.length≤c) (hs:ZA c=true):
  Runs (Zk prog Zf Zn true) (ZW (tmP f132) (.seq (.seq (Z2 (tmB f132)) (.block 0 (.loop (tmL f132)))) (tmE f132))) ([sl 2 o M.length c,sl 1 o' M.length c',uu x]++List.replicate 41 undef,h3 la lb (F++(wU M++R)),[]) fun e y=>(e=none∨e=some none)∧ZV prog f132 y.1 y.2.1=some (uu (tmC M LB x))∧y.2.1.cut 3=h3 la lb (F++(wU (tmR M LB x)++R)):=by
 have hwB:=RB.rng;have hcs:c<4611686018427387904:=Zo.1 hs;refine Zv (Zj Zd) (Z0g o M.length c o' c' x _ la lb) (Zi hs (Zi (by unfold ZQ;exact Xa (by omega)) (Zt (Xb (by omega))))) fun g=> ?_;refine Runs.seq (P1:=fun e' y=>e'=none∧∃ (k j:Int) (v8 v9 u1 u2 u3 u4:Value) (g:Nat→Value),y.1=tmF o M.length c o' c' x k v8 v9 u1 u2 u3 u4 j++tl 27 g∧(0≤k∧k<4294967296)∧k=tmC M LB x∧y.2.1=h3 la lb (F++(wU (tmR M LB x)++R))) ?_ ?_ (fun e y he=>by cases he.1)
 ·refine Runs.seq (P1:=fun e' y=>e'=none∧(∃ g,y.1=tmF o M.length c o' c' x 0 undef undef (sl 2 o M.length c) (sl 1 o' M.length c') (i6' M.length) (sl 2 o M.length c) 0++tl 27 g)∧y.2.1=h3 la lb (F++(wU M++R))) (Zb (Zj Zd) (Z5f o M.length c o' c' x _ la lb g) (fun x hx=>by cases hx)) ?_ (fun e y he=>by cases he.1);rintro⟨t,h',s'⟩ ⟨_,⟨g1,ht⟩,hh⟩;simp only at ht hh;subst ht hh;refine (Runs.forLoop (R:=fun _=>False) (P:=fun y=>∃ (k j:Int) (v8 v9 u1 u2 u3 u4:Value) (g:Nat→Value),y.1=tmF o M.length c o' c' x k v8 v9 u1 u2 u3 u4 j++tl 27 g∧(0≤k∧k<4294967296)∧k=tmC M LB x∧y.2.1=h3 la lb (F++(wU (tmR M LB x)++R)))
   (fun r y=>∃ (dx px bx:List Int) (k:Int) (v8 v9 u1 u2 u3 u4:Value) (g:Nat→Value),px.length=r∧dx.length+px.length=M.length∧wds dx∧wds px∧bx=LB.drop dx.length∧(0≤k∧k<4294967296)∧y.1=tmF o M.length c o' c' x k v8 v9 u1 u2 u3 u4 dx.length++tl 27 g∧y.2.1=h3 la lb (F++(wU (dx++px)++R))∧vN dx+4294967296^dx.length*(vN px+x*vN bx+k)=vN M+x*vN LB)
   ?_ (n:=M.length) ⟨[],M,LB,0,undef,undef,_,_,_,_,g1,rfl,by simp,(fun x hx=>by cases hx),hM,rfl,by omega,rfl,rfl,by simp [vN]⟩).mono fun e' y he=> ?_
  ·rintro r ⟨t,h',s'⟩ ⟨dx,px,bx,k,v8,v9,u1,u2,u3,u4,g,hr,hlen,wd1,wd2,hb,hk,ht,hh,hv⟩;simp only at ht hh;subst ht hh
   match px,hr,hlen,wd2,hv with
   | [],hr,hlen,wd2,hv=>
    have hl':dx.length=M.length:=by simpa using hlen
    refine (Zb (Zj Zd) (Z0h o M.length c o' c' x k dx.length v8 v9 u1 u2 u3 u4 _ la lb g) (Zt (Xb (by omega)))).mono fun e' y he=> ?_;obtain⟨rfl,⟨g1,e2⟩,e3⟩:=he;have hbx:bx=[]:=by rw[hb,List.drop_eq_nil_of_le (by omega)]
    subst hbx;simp only[vN] at hv;rw[Int.mul_zero,Int.zero_add,Int.zero_add] at hv;have hbd:=ZaL dx wd1;refine⟨rfl,k,dx.length,v8,v9,u1,u2,u3,u4,g1,e2,hk,?_,?_⟩
    ·unfold tmC;rw[← hv,← hl',Int.add_mul_ediv_left _ _ (by have:=Zav dx.length;omega),Int.ediv_eq_zero_of_lt hbd.1 hbd.2,Int.zero_add]
    ·unfold tmR;rw[e3,← hv,← hl',Zc2,Zfw dx wd1,List.append_nil]
   | z::px,hr,hlen,wd2,hv=>
    obtain⟨wz,wd2⟩:=Zae wd2;have hl':dx.length<M.length:=by simp at hlen;omega
    have hy:=RB.cell (k:=dx.length) (by omega);have hyr:=hwB (LB.getD dx.length 0) (by
     have hk':dx.length<LB.length:=by omega
     simp [List.getD,List.getElem?_eq_getElem hk'])
    have hbx:bx=LB.getD dx.length 0::LB.drop (dx.length+1):=by
     have hk':dx.length<LB.length:=by omega
     rw[hb,List.drop_eq_getElem_cons hk'];simp [List.getD,List.getElem?_eq_getElem hk']
    generalize LB.getD dx.length 0=yv at*;obtain⟨k1,k2,k3⟩:=ZuD hk hx hyr wz;have cS:=Zeg hF dx z px R;have lS:o+dx.length<(F++(wU (dx++z::px)++R)).length:=(List.getElem?_eq_some_iff.1 cS).1;have l1:decide (o+((dx.length:Int)).toNat*1<(F++(wU (dx++z::px)++R)).length)=true:=by
     rw[Xg,Nat.mul_one];exact Xa lS
    have l2:(inR dx.length M.length).1=(inR dx.length M.length).2:=Xa (by omega);refine (Zb (Zj Zd) (Z5g o M.length c o' c' x k dx.length yv z v8 v9 u1 u2 u3 u4 _ la lb g) (Zi (by decide) (Zi l1 (Zi l2 (Zi (Zaw cS) (Zi l2 (Zi (Zaw hy) (Zi l2 (Zt (Xa (by omega))))))))))).mono fun e' y he=> ?_;obtain⟨rfl,⟨g1,e2⟩,e3⟩:=he;refine⟨px.length,by simp at hr;omega,dx++[tD k x yv z],px,LB.drop (dx.length+1),tC k x yv z,i6' dx.length,uu yv,u1,u2,u3,u4,g1,rfl,by simp at hlen ⊢;omega,Zaf wd1 (fun u hu=>by rw[List.mem_singleton.1 hu];exact k1),wd2,by simp,k2,?_,?_,?_⟩
    ·rw[e2,Zw (by omega) (by omega)];simp
    ·rw[e3,Xg,Nat.mul_one,Zeh hF]
    ·rw[hbx] at hv;simp only[vN] at hv;rw[zo,List.length_append,List.length_singleton,pw];exact ZuB k3 hv
  ·match e',he with
   | none,he=>exact⟨rfl,he⟩
   | some none,he=>exact he.elim
   | some (some _),he=>exact he.elim
 ·rintro⟨t,h',s'⟩ ⟨_,k,j,v8,v9,u1,u2,u3,u4,g,ht,hk,hkv,hh⟩;simp only at ht hh;subst ht hh;refine (Zb (Zj Zd) (Z0i o M.length c o' c' x k j v8 v9 u1 u2 u3 u4 _ g) (fun x hx=>by cases hx)).mono fun e' y he=> ?_;obtain⟨rfl,⟨g1,e2⟩,e3⟩:=he;have ek:u32.wrap k=tmC M LB x:=by rw[ZgS,Int.emod_eq_of_lt hk.1 hk.2,hkv]
  rw[ek] at e2;refine⟨.inr rfl,?_,?_⟩
  ·rw[e2,e3];rfl
  ·rw[e3];rfl
def tmS (S:List Value) (o n:Nat) (L:List Int):List Value:=S.take o++(wU L++S.drop (o+n))
def Zhn (S lb la:List Value) (t t' t'':TypeId) (o n c o' n' c':Nat) (x:Int):Bool:=Nat.beq t tU && Nat.beq t' tR && Nat.beq t'' tR && Z6 t S o n c && Z6 t' lb o' n' c' && Nat.beq n n' && Nat.blt n 1099511627776 && la.all still && decide (0≤x∧x<4294967296)
def Z5h:Zad:=fun vals h s=>
 match vals,h with
 | [.slice (some ⟨2,o,none⟩) n c,.slice (some ⟨1,o',none⟩) n' c',.int .u32 x],⟨3,[(S,t),(lb,t'),(la,t'')]⟩=>some (uu (tmC (Zx S o n) (Zx lb o' n') x),⟨3,[(tmS S o n (tmR (Zx S o n) (Zx lb o' n') x),tU),(lb,tR),(la,tR)]⟩,s,[(Zhn S lb la t t' t'' o n c o' n' c' x,true)])
 | _,_=>none
theorem ZuG:Z8 132 Z5h:=by
 intro vals h s v h' s' lg hg hl m B w E hv;unfold Z5h at hg;split at hg
 ·rename_i o n c o' n' c' x S t lb t' la t'';cases hg;have q:=hl _ Xf;unfold Zhn at q;simp only[Xh,Xi] at q;obtain⟨⟨⟨⟨⟨⟨⟨⟨q1,q2⟩,q3⟩,ra⟩,rb⟩,qn⟩,qN⟩,q5⟩,q6⟩:=q;have q1:=Xj q1;have q2:=Xj q2;have q3:=Xj q3;have qn:=Xj qn;have qN:n<1099511627776:=Zo.1 qN;subst q1 q2 q3 qn;obtain⟨a1,a2,a3,a4,a5,a6,a7⟩:=ZH ra;obtain⟨b1,b2,b3,b4,b5,b6,b7⟩:=ZH rb;have eS:S=S.take o++(wU (Zx S o n)++S.drop (o+n)):=by
   have h1:=a1.cut;rw[a2] at h1;rw[← h1];unfold Zce;rw[← List.drop_drop,List.take_append_drop,List.take_append_drop]
  have hF:(S.take o).length=o:=by
   have:=a1.len;simp;omega
  have r:=ZuF (R:=S.drop (o+n)) (la:=la) (c:=c) (c':=c') hF a1.rng b1 (by rw[a2,b2]) (by rw[a2];exact qN) q6 (by rw[a2];exact a3) a4;rw[a2,← eS] at r;have ht:(Hp.tight ⟨3,[(tmS S o n (tmR (Zx S o n) (Zx lb o' n) x),tU),(lb,tR),(la,tR)]⟩)=true:=by
   unfold Hp.tight tmS;simp only[List.all_cons,List.all_nil,List.all_append,Bool.and_true,Xh];refine⟨⟨?_,Zbo _ _,?_⟩,zx (by omega) (List.all_eq_true.2 b7),zx (by omega) q5⟩
   ·rw[List.all_eq_true];exact fun v hv=>zg (by omega) (a7 v (List.mem_of_mem_take hv))
   ·rw[List.all_eq_true];exact fun v hv=>zg (by omega) (a7 v (List.mem_of_mem_drop hv))
  exact zd (T:=Zk prog Zf Zn true) func132 ZuE (vals:=[sl 2 o n c,sl 1 o' n c',uu x]) (v:=uu (tmC (Zx S o n) (Zx lb o' n) x)) (h:=h3 la lb S) (by rfl) ht r m B w E hv
 ·cases hg
def hcM:Hc:=zS 132 Z5h (zS 112 Zgm hcN)
theorem Zma:HcOk hcM:=Z1 func132 rfl ZuG (Z1 func112 rfl ZbT Zam)
def pdP (F:Func):List Code:=[Z2 (sn 0 F),Z2 (sn 1 F),Z2 (sn 2 F),Z2 (sn 3 F)]
def pdL (F:Func):Code:=cIn (cIn (Zz (Z2 (sn 4 F))))
def pdF (o n c o' n' c' z:Nat) (v7 v8:Value):List Value:=[sl 0 o n c,sl 1 o' n' c',undef,undef,Zp,.nilIface,sl 2 0 z z,v7,v8]
theorem ZuH:f115.body=some (ZW (pdP f115) (.seq (.seq (Z2 (Z2 (sn 4 f115))) (.block 0 (.loop (pdL f115)))) (Zz (sn 4 f115)))):=by kernel_rfl
def pZ (n n':Nat):Int:=i64.wrap ((n:Int)+(n':Int))
theorem Z0j (o n c o' n' c':Nat) (la lb:List Value):Zg (evL (Zr prog Zf Zn hcM) 100 (pdP f115) ([sl 0 o n c,sl 1 o' n' c']++List.replicate 57 undef,h2 la lb,[cmp false,cmp false,cmp false,at_]) ⟨[],[],[]⟩) 9 50 none (pdF o n c o' n' c' (pZ n n').toNat undef undef) (h3 la lb (List.replicate (pZ n n').toNat (uu 0))) [(ZI 4 (pZ n n') (pZ n n'),true),(decide (i64.wrap (pZ n n'-1)>8192),false),((n':Int)==0,false),((n:Int)==0,false)]:=by and_intros<;>kernel_rfl
theorem Z8P (o n c o' n' c' z:Nat) (v7 v8:Value) (la lb S:List Value) (g:Nat→Value):ZdS (evC (Zr prog Zf Zn hcM) 100 false (Z2 (Z2 (sn 4 f115))) (pdF o n c o' n' c' z v7 v8++tl 50 g,h3 la lb S,[]) ⟨[],[],[]⟩) 9 22 3 25 none (pdF o n c o' n' c' z v7 v8) [sl 0 o n c,i6' n,i6' 0] (h3 la lb S) []:=by and_intros<;>kernel_rfl
theorem Z0k (o n c o' n' c' z:Nat) (j:Int) (v7 v8:Value) (la lb S:List Value) (g g':Nat→Value):ZdS (evC (Zr prog Zf Zn hcM) 100 false (pdL f115) (ml (pdF o n c o' n' c' z v7 v8) 22 g [sl 0 o n c,i6' n,i6' j] 25 g',h3 la lb S,[cmp false]) ⟨[],[],[]⟩) 9 22 3 25 (some (some 0)) (pdF o n c o' n' c' z v7 v8) [sl 0 o n c,i6' n,i6' j] (h3 la lb S) [(decide (j<n),false)]:=by and_intros<;>kernel_rfl
def pJ (j:Int):Nat:=0+j.toNat*1
def pK (j:Int) (n':Nat):Int:=i64.wrap (j+n')
def pLn (j:Int) (n':Nat):Nat:=(pK j n').toNat-j.toNat
def pS (S lb:List Value) (o' n':Nat) (j x:Int):List Value:=tmS S (pJ j) (pLn j n') (tmR (Zx S (pJ j) (pLn j n')) (Zx lb o' n') x)
def pC (S lb:List Value) (o' n':Nat) (j x:Int):Int:=tmC (Zx S (pJ j) (pLn j n')) (Zx lb o' n') x
theorem Z5i (o n c o' n' c' z:Nat) (j x:Int) (v7 v8:Value) (la lb S:List Value) (g g':Nat→Value):ZdS (evC (Zr prog Zf Zn hcM) 100 false (pdL f115) (ml (pdF o n c o' n' c' z v7 v8) 22 g [sl 0 o n c,i6' n,i6' j] 25 g',h3 la lb S,[cmp true,at_,val (uu x),num 0,at_,at_]) ⟨[],[],[]⟩) 9 22 3 25 none (pdF o n c o' n' c' z (i6' j) (uu x)) [sl 0 o n c,i6' n,i6' (i64.wrap (j+1))]
  (h3 la lb ((pS S lb o' n' j x).set (0+(pK j n').toNat*1) (uu (pC S lb o' n' j x))))
  [(decide (0+(pK j n').toNat*1<(pS S lb o' n' j x).length),true),inR (pK j n') z,(Zhn S lb la tU tR tR (pJ j) (pLn j n') (z-j.toNat) o' n' c' x,true),(ZA z,true),(ZQ j (pK j n') z z,true),(decide ((z:Int)=j∧j≠0),false),Zdr la o j x,inR j n,(decide (j<n),true)]:=by and_intros<;>kernel_rfl
theorem Z0l (o n c o' n' c' z:Nat) (v7 v8 u1 u2 u3:Value) (la lb S:List Value) (g g':Nat→Value):Zg (evC (Zr prog Zf Zn hcM) 100 false (Zz (sn 4 f115)) (ml (pdF o n c o' n' c' z v7 v8) 22 g [u1,u2,u3] 25 g',h3 la lb S,[cmp false]) ⟨[],[],[]⟩) 6 53 (some none) [sl 0 o n c,sl 1 o' n' c',undef,undef,sl 2 0 (Zl (Zx S 0 z)) z,.nilIface] (h3 la lb S) [(decide ((Zl (Zx S 0 z):Int)>8192),false),(Z6 tU S 0 z z,true)]:=by and_intros<;>kernel_rfl
theorem Z5j (p q:Option Addr) (n c n' c':Nat) (h:Hp):Zg (evC (Zr prog Zf Zn hcM) 100 false (Zs f115) ([.slice p n c,.slice q n' c']++List.replicate 57 undef,h,[cmp true]) ⟨[],[],[]⟩) 6 53 (some none) [.slice p n c,.slice q n' c',undef,undef,Zp,.nilIface] h [((n:Int)==0,true)]:=by and_intros<;>kernel_rfl
theorem Z5k (p q:Option Addr) (n c n' c':Nat) (h:Hp):Zg (evC (Zr prog Zf Zn hcM) 100 false (Zs f115) ([.slice p n c,.slice q n' c']++List.replicate 57 undef,h,[cmp false,cmp true]) ⟨[],[],[]⟩) 6 53 (some none) [.slice p n c,.slice q n' c',undef,undef,Zp,.nilIface] h [((n':Int)==0,true),((n:Int)==0,false)]:=by and_intros<;>kernel_rfl
theorem Zir:f115.body=some (Zs f115):=by kernel_rfl
end Go.Proofs.YtjlponbdflkbjaaGreatDoor.Na
namespace Go.Proofs.YtjlponbdflkbjaaGreatDoor.Na
open Go.Proofs.Tryz
open Go.IntKind
open Go.KRun Go.Nt
set_option maxRecDepth 100000
def hcS:Hc:=zS 117 Z4k (zS 79 Z4o (zS 119 Z4Y (zS 112 Zgm hcN)))
theorem Zis:HcOk hcS:=Z1 func117 rfl Zlj (Z1 func79 rfl Zhj (Z1 func119 rfl Zuw (Z1 func112 rfl ZbT Zam)))
def skI (k:Int):Int:=i64.wrap (k.tdiv 32)
def rmI (k:Int):Int:=k.tmod 32
def zI (n:Nat) (k:Int):Int:=i64.wrap (i64.wrap (skI k+n)+1)
def zN (n:Nat) (k:Int):Nat:=(zI n k).toNat
def oN (k:Int):Nat:=0+(skI k).toNat*1
def pN (n:Nat) (k:Int):Nat:=zN n k-(skI k).toNat
def cpN (n:Nat) (k:Int):Nat:=Nat.min n (pN n k)
def cpL (la:List Value) (o n:Nat) (k:Int):List Value:=(List.replicate (zN n k) (uu 0)).take (oN k)++(la.drop o).take (cpN n k)++(List.replicate (zN n k) (uu 0)).drop (oN k+cpN n k)
def Z5l (la:List Value) (o n:Nat) (k:Int):Bool:= !(Zak tR) && !(ro tU) && Nat.ble (o+cpN n k) la.length && Nat.ble (oN k+cpN n k) (List.replicate (zN n k) (uu 0)).length && ((la.drop o).take (cpN n k)).all one
def upM (la:List Value) (o n:Nat) (k:Int):List Value:=upS (cpL la o n k) (oN k) (pN n k) (rmI k)
def lnI (la:List Value) (o n:Nat):Int:=i64.wrap (262144-Zdy (Zx la o n))
def fS (o n c:Nat) (k:Int) (r e:Value):List Value:=[sl 0 o n c,i6' k,undef,undef,r,e]
theorem Zf6:f80.body=some (Zs f80):=by kernel_rfl
theorem ZuI (o n c:Nat) (k:Int) (la:List Value):Zg (evC (Zr prog Zf Zn hcS) 200 false (Zs f80) ([sl 0 o n c,i6' k]++List.replicate 45 undef,⟨1,[(la,tR)]⟩,[cmp true]) ⟨[],[],[]⟩) 6 41 (some none) (fS o n c k Zp (Zcu 1)) ⟨1,[(la,tR)]⟩ [Zhg la o n c,(ZU (Zx la o n),true)]:=by and_intros<;>kernel_rfl
theorem ZuJ (o n c:Nat) (k:Int) (la:List Value):Zg (evC (Zr prog Zf Zn hcS) 200 false (Zs f80) ([sl 0 o n c,i6' k]++List.replicate 45 undef,⟨1,[(la,tR)]⟩,[cmp false,cmp true]) ⟨[],[],[]⟩) 6 41 (some none) (fS o n c k Zp (Zcu 1)) ⟨1,[(la,tR)]⟩ [(decide (k<0),true),Zhg la o n c,(ZU (Zx la o n),false)]:=by and_intros<;>kernel_rfl
theorem ZuK (o n c:Nat) (k:Int) (la:List Value):Zg (evC (Zr prog Zf Zn hcS) 200 false (Zs f80) ([sl 0 o n c,i6' k]++List.replicate 45 undef,⟨1,[(la,tR)]⟩,[cmp false,cmp false,cmp true]) ⟨[],[],[]⟩) 6 41 (some none) (fS o n c k Zp .nilIface) ⟨1,[(la,tR)]⟩ [((n:Int)==0,true),(decide (k<0),false),Zhg la o n c,(ZU (Zx la o n),false)]:=by and_intros<;>kernel_rfl
theorem ZpZ (o n c:Nat) (k:Int) (la:List Value):Zg (evC (Zr prog Zf Zn hcS) 200 false (Zs f80) ([sl 0 o n c,i6' k]++List.replicate 45 undef,⟨1,[(la,tR)]⟩,[cmp false,cmp false,cmp false,cmp true]) ⟨[],[],[]⟩) 6 41 (some none) (fS o n c k Zp (Zcu 2)) ⟨1,[(la,tR)]⟩ [(decide (k>lnI la o n),true),Zhg la o n c,((n:Int)==0,false),(decide (k<0),false),Zhg la o n c,(ZU (Zx la o n),false)]:=by and_intros<;>kernel_rfl
theorem Zqa (o n c:Nat) (k:Int) (la:List Value):Zg (evC (Zr prog Zf Zn hcS) 200 false (Zs f80) ([sl 0 o n c,i6' k]++List.replicate 45 undef,⟨1,[(la,tR)]⟩,[cmp false,cmp false,cmp false,cmp false,at_,num 0,at_,num 0]) ⟨[],[],[]⟩) 6 41 (some none) (fS o n c k (sl 1 0 (Zl (Zx (upM la o n k) 0 (zN n k))) (zN n k)) .nilIface) (hU (upM la o n k) la)
  [(Z6 tU (upM la o n k) 0 (zN n k) (zN n k),true),(Nat.beq tU tU,true),(Nat.beq tR tR,true),(Z6 tU (cpL la o n k) (oN k) (pN n k) (pN n k),true),(Nat.beq (oN k+pN n k) (cpL la o n k).length,true),(la.all still,true),(decide (0≤rmI k∧rmI k<32),true),
   (ZA (zN n k),true),(ZQ (skI k) (zN n k) (zN n k) (zN n k),true),(decide (((zN n k:Nat):Int)=skI k∧skI k≠0),false),(Z5l la o n k,true),(ZA (zN n k),true),(ZQ (skI k) (zN n k) (zN n k) (zN n k),true),(decide (((zN n k:Nat):Int)=skI k∧skI k≠0),false),(ZI 4 (zI n k) (zI n k),true),
   (decide (k>lnI la o n),false),Zhg la o n c,((n:Int)==0,false),(decide (k<0),false),Zhg la o n c,(ZU (Zx la o n),false)]:=by and_intros<;>kernel_rfl
end Go.Proofs.YtjlponbdflkbjaaGreatDoor.Na
namespace Go.Nt
theorem Zmb:∀ (s m:Nat) (V:Int),dg (s+m) (4294967296^s*V)=List.replicate s 0++dg m V
 | 0,m,V=>by simp
 | s+1,m,V=>by
  rw[show s+1+m=(s+m)+1 from by omega];simp only[dg];rw[pw,Int.mul_assoc];generalize hZ:(4294967296:Int)^s*V=Z;have e1:(4294967296*Z) % 4294967296=0:=by omega
  have e2:(4294967296*Z)/4294967296=Z:=by omega
  rw[e1,e2,← hZ,Zmb s m V,List.replicate_succ,List.cons_append]
theorem Zmc (K:Nat):(2:Int)^K=4294967296^(K/32)*2^(K % 32):=by
 have e:(4294967296:Int)=2^32:=rfl;rw[e,← Int.pow_mul,← Int.pow_add,show 32*(K/32)+K % 32=K from by omega]
def ZgT (L:List Int) (K:Nat):List Int:=dg (K/32+(L.length+1)) (vN L*2^K)
theorem ZuL (L:List Int) (K:Nat):ZgT L K=List.replicate (K/32) 0++dg (L.length+1) (vN L*2^(K % 32)):=by
 unfold ZgT;rw[Zmc K,← Int.mul_assoc,Int.mul_comm (vN L),Int.mul_assoc,Zmb]
end Go.Nt
namespace Go.Proofs.YtjlponbdflkbjaaGreatDoor.Na
open Go.Proofs.Tryz
open Go.KRun Go.Nt
set_option maxRecDepth 100000
theorem Zmd {L:List Int}(hL:wds L):0≤Zdy L∧Zdy L≤262144:=by
 unfold Zdy;cases h:(L.length==0 || ZU L) with
 | true=>
  show (0:Int)≤0∧(0:Int)≤262144;omega
 | false=>
  simp only[Bool.or_eq_false_iff] at h;have h8:=Zcw h.2;have h0:L.length≠0:=by simpa using h.1
  have hx:=hL (L.getD (L.length-1) 0) (by
   have hk':L.length-1<L.length:=by omega
   simp [List.getD,List.getElem?_eq_getElem hk'])
  have:=Zec hx.1 hx.2;simp only;omega
theorem Zme {K:Nat}(h:K≤262144):skI K=((K/32:Nat):Int):=by
 unfold skI;have e:((K:Nat):Int).tdiv 32=((K/32:Nat):Int):=rfl;rw[e,Zw (by omega) (by omega)]
theorem Z0m (K:Nat):rmI K=((K % 32:Nat):Int):=rfl
theorem Z0n {n K:Nat}(h:K≤262144) (hn:n≤8192):zI n K=((K/32+(n+1):Nat):Int):=by
 unfold zI;rw[Zme h,Zw (n:=((K/32:Nat):Int)+(n:Nat)) (by omega) (by omega),Zw (by omega) (by omega)];omega
theorem Zqb {n K:Nat}(h:K≤262144) (hn:n≤8192):zN n K=K/32+(n+1):=by unfold zN;rw[Z0n h hn,Xg]
theorem Zmf {K:Nat}(h:K≤262144):oN K=K/32:=by unfold oN;rw[Zme h,Xg];omega
theorem Zqc {n K:Nat}(h:K≤262144) (hn:n≤8192):pN n K=n+1:=by unfold pN;rw[Zme h,Zqb h hn,Xg];omega
theorem ZsU {n K:Nat}(h:K≤262144) (hn:n≤8192):cpN n K=n:=by unfold cpN;rw[Zqc h hn];simp
theorem Zmg {la:List Value}{o K:Nat}{L:List Int}(hR:Row la o L) (h:K≤262144) (hn:L.length≤8192):cpL la o L.length K=wU (List.replicate (K/32) 0++(L++[0])):=by
 unfold cpL;rw[ZsU h hn,Zqb h hn,Zmf h];have e1:(la.drop o).take L.length=wU L:=hR.cut;rw[e1,List.drop_replicate,List.take_replicate,show K/32+(L.length+1)-(K/32+L.length)=1 from by omega,show min (K/32) (K/32+(L.length+1))=K/32 from by omega];unfold wU uu;simp
theorem ZuM {la:List Value}{o K:Nat}{L:List Int}(hR:Row la o L) (h:K≤262144) (hn:L.length≤8192):Z5l la o L.length K=true:=by
 unfold Z5l;rw[ZsU h hn,Zqb h hn,Zmf h];have e1:(la.drop o).take L.length=wU L:=hR.cut;rw[e1,ZbB,ZdX];have h1:Nat.ble (o+L.length) la.length=true:=Nat.ble_eq_true_of_le hR.len;have h2:Nat.ble (K/32+L.length) (List.replicate (K/32+(L.length+1)) (uu 0)).length=true:=Nat.ble_eq_true_of_le (by rw[List.length_replicate];omega);have h3:((wU L).all one)=true:=by
  unfold wU;rw[List.all_eq_true];intro v hv;obtain⟨x,_,rfl⟩:=List.mem_map.1 hv;rfl
 rw[h1,h2,h3];rfl
theorem Zit (A B:List Int):Zx (wU (A++B)) A.length B.length=B:=by
 unfold Zx Zce wU;rw[List.map_append,List.drop_append_of_le_length (by simp),show A.length=(A.map (Value.int .u32)).length from by simp,List.drop_length,List.nil_append,List.take_of_length_le (by simp),List.map_map];exact (List.map_congr_left fun x _=>rfl).trans (List.map_id' _)
theorem Zho (s:Nat):wds (List.replicate s 0):=fun x hx=>by rw[List.eq_of_mem_replicate hx];omega
theorem Zf7 {L:List Int}(h:wds L):wds (L++[0]):=Zaf h (fun x hx=>by rw[List.mem_singleton.1 hx];omega)
theorem Z0o {la:List Value}{o K:Nat}{L:List Int}(hR:Row la o L) (h:K≤262144) (hn:L.length≤8192):upM la o L.length K=wU (ZgT L K):=by
 unfold upM upS;rw[Zmg hR h hn,Zmf h,Zqc h hn,Z0m,Xg];have e1:=Zit (List.replicate (K/32) 0) (L++[0]);rw[List.length_replicate,List.length_append,List.length_singleton] at e1;rw[e1,zo,Int.mul_zero,Int.add_zero,ZuL];unfold wU;rw[List.map_append,List.map_append,List.take_append_of_le_length (by simp),List.take_of_length_le (by simp),List.map_append]
theorem ZuN {la:List Value}{o K:Nat}{L:List Int}(hR:Row la o L) (h:K≤262144) (hn:L.length≤8192):Z6 tU (cpL la o L.length K) (oN K) (pN L.length K) (pN L.length K)=true:=by
 rw[Zmg hR h hn,Zmf h,Zqc h hn];unfold Z6;have e1:=Zit (List.replicate (K/32) 0) (L++[0]);rw[show Zak tU=false from by kernel_rfl,show Nat.beq (rt tU) tU=true from by kernel_rfl,Nat.ble_eq_true_of_le (show K/32+(L.length+1)≤(wU (List.replicate (K/32) 0++(L++[0]))).length by unfold wU;simp),Nat.ble_eq_true_of_le (Nat.le_refl _),show ZA (L.length+1)=true from Zo.2 (by unfold za;omega),ZbE];have h3:((Zce (wU (List.replicate (K/32) 0++(L++[0]))) (K/32) (L.length+1)).all isU)=true:=by
  rw[List.all_eq_true];intro v hv;unfold Zce wU at hv;obtain⟨x,hx,rfl⟩:=List.mem_map.1 (List.mem_of_mem_drop (List.mem_of_mem_take hv));exact Xa ((Zaf (Zho _) (Zf7 hR.rng)) x hx)
 rw[h3];rfl
theorem Zqd {la:List Value}{o n c K:Nat}(ha:Z6 tR la o n c=true) (hb:ZU (Zx la o n)=false) (h0:n≠0) (hK:(K:Int)≤262144-Zdy (Zx la o n)):
  Runs (Zr prog Zf Zn hcS) (Zs f80) ([sl 0 o n c,i6' K]++List.replicate 45 undef,⟨1,[(la,tR)]⟩,[]) fun e y=>(e=none∨e=some none)∧ZV prog f80 y.1 y.2.1=some (.tuple #[sl 1 0 (Zl (ZgT (Zx la o n) K)) (K/32+(n+1)),.nilIface])∧y.2.1.blk? 1=some (wU (ZgT (Zx la o n) K),tU):=by
 obtain⟨a1,a2,a3,a4,a5,a6,a7⟩:=ZH ha;have h8:=Zcw hb;have hl:=Zmd a1.rng;have g0:=Zqa o n c K la;have lI:lnI la o n=262144-Zdy (Zx la o n):=by unfold lnI;rw[Zw (by omega) (by omega)]
 rw[lI] at g0;generalize hL:Zx la o n=L at*;subst a2;have hK2:K≤262144:=by omega
 rw[Z0o a1 hK2 h8] at g0;have ez:=Zqb (n:=L.length) hK2 h8;have esm:ZA (zN L.length K)=true:=Zo.2 (by rw[ez];unfold za;omega);have r1:=ZsG (Za2 (K/32+(L.length+1)) (vN L*2^K)) (c:=zN L.length K) (by rw[ZS,ez];exact Nat.le_refl _) esm;rw[ZS,← ez] at r1;have r2:Z6 tU (wU (ZgT L K)) 0 (zN L.length K) (zN L.length K)=true:=by unfold ZgT;rw[← ez];exact r1.1
 have r3:Zx (wU (ZgT L K)) 0 (zN L.length K)=ZgT L K:=by unfold ZgT;rw[← ez];exact r1.2
 have part:ZQ (skI K) (zN L.length K) (zN L.length K) (zN L.length K)=true:=by unfold ZQ;rw[Zme hK2,ez];exact Xa (by omega)
 have part2:decide (((zN L.length K:Nat):Int)=skI K∧skI K≠0)=false:=by rw[Zme hK2,ez];exact Xb (by omega)
 have mk:ZI 4 (zI L.length K) (zI L.length K)=true:=by unfold ZI;rw[Z0n hK2 h8];exact Xa (by omega)
 have len:Nat.beq (oN K+pN L.length K) (cpL la o L.length K).length=true:=by
  rw[Zmg a1 hK2 h8,Zmf hK2,Zqc hK2 h8];unfold wU;simp
 have calm:la.all still=true:=List.all_eq_true.2 a7;have d1:decide (0≤rmI K∧rmI K<32)=true:=by rw[Z0m];exact Xa (by omega)
 have d2:decide ((K:Int)>262144-Zdy L)=false:=Xb (by omega);have d3:((L.length:Int)==0)=false:=by simpa using h0
 have d4:decide ((K:Int)<0)=false:=Xb (by omega);refine (Zb (Zh Zd Zis) g0 (Zi r2 (Zi (by kernel_rfl) (Zi (by kernel_rfl) (Zi (ZuN a1 hK2 h8) (Zi len (Zi calm (Zi d1
  (Zi esm (Zi part (Zi part2 (Zi (ZuM a1 hK2 h8) (Zi esm (Zi part (Zi part2 (Zi mk (Zi d2 (Zi ha (Zi d3 (Zi d4 (Zi ha (Zt hb)))))))))))))))))))))).mono fun e y he=> ?_
 obtain⟨rfl,⟨g,e2⟩,e3⟩:=he;refine⟨.inr rfl,?_,?_⟩
 ·rw[e2,e3,r3,ez];rfl
 ·rw[e3];rfl
theorem Zf8 {la:List Value}{o n c:Nat}{k:Int}{r e:Value}{cs:Log}{s:List Dec}(g0:Zg (evC (Zr prog Zf Zn hcS) 200 false (Zs f80) ([sl 0 o n c,i6' k]++List.replicate 45 undef,⟨1,[(la,tR)]⟩,s) ⟨[],[],[]⟩) 6 41 (some none) (fS o n c k r e) ⟨1,[(la,tR)]⟩ cs) (hcs:Z3 cs)
  (hres:∀ g,ZV prog f80 (fS o n c k r e++tl 41 g) ⟨1,[(la,tR)]⟩=some (.tuple #[r,e])):
  Runs (Zr prog Zf Zn hcS) (Zs f80) ([sl 0 o n c,i6' k]++List.replicate 45 undef,⟨1,[(la,tR)]⟩,[]) fun e' y=>(e'=none∨e'=some none)∧ZV prog f80 y.1 y.2.1=some (.tuple #[r,e]):=by
 refine (Zb (Zh Zd Zis) g0 hcs).mono fun e' y he=> ?_;obtain⟨rfl,⟨g,e2⟩,e3⟩:=he;refine⟨.inr rfl,?_⟩;rw[e2,e3];exact hres g
def ZuO:Zad:=fun vals h s=>
 match vals with
 | [.slice (some ⟨b,o,none⟩) n c,.int .i64 k]=>
  match h.blk? b,s with
  | some x,.inr (.inr (.inr (.inl true)))::s'=>some (.tuple #[Zp,Zcu 1],h,s',[(Z6 x.2 x.1 o n c,true),(ZU (Zx x.1 o n) || decide (k<0),true)])
  | some x,.inr (.inr (.inr (.inl false))):: .inr (.inr (.inr (.inl true)))::s'=>some (.tuple #[Zp,.nilIface],h,s',[(Z6 x.2 x.1 o n c,true),(ZU (Zx x.1 o n) || decide (k<0),false),(decide (n=0),true)])
  | some x,.inr (.inr (.inr (.inl false))):: .inr (.inr (.inr (.inl false))):: .inr (.inr (.inr (.inl true)))::s'=>some (.tuple #[Zp,Zcu 2],h,s',[(Z6 x.2 x.1 o n c,true),(ZU (Zx x.1 o n) || decide (k<0),false),(decide (n=0),false),(decide (k>262144-Zdy (Zx x.1 o n)),true)])
  | some x,.inr (.inr (.inr (.inl false))):: .inr (.inr (.inr (.inl false))):: .inr (.inr (.inr (.inl false)))::s'=>some (.tuple #[sl h.n 0 (Zl (ZgT (Zx x.1 o n) k.toNat)) (k.toNat/32+(n+1)),.nilIface],h.push (wU (ZgT (Zx x.1 o n) k.toNat)) tU,s',[(Z6 x.2 x.1 o n c,true),(ZU (Zx x.1 o n) || decide (k<0),false),(decide (n=0),false),(decide (k>262144-Zdy (Zx x.1 o n)),false)])
  | _,_=>none
 | _=>none
theorem ZuP:Z8 80 ZuO:=by
 intro vals h s v h' s' lg hg hl m B w E hv;unfold ZuO at hg;split at hg
 ·rename_i b o n c k;have one1:∀ x:List Value×TypeId,h.blk? b=some x→Z6 x.2 x.1 o n c=true→∀ v0:Value,oc (List.range 1) v0=true→rn (fun _=>b) v0=v0→
    Runs (Zr prog Zf Zn hcS) (Zs f80) ([sl 0 o n c,i6' k]++List.replicate 45 undef,⟨1,[(x.1,tR)]⟩,[]) (fun e y=>(e=none∨e=some none)∧ZV prog f80 y.1 y.2.1=some v0)→
    Calls prog 80 (([.slice (some ⟨b,o,none⟩) n c,.int .i64 k]:List Value).map (mv m)).toArray w fun e w'=>∃ m',e= .returned (mv m' v0)∧Came m B h w v0 h m' w':=by
   intro x hx ra v0 ho e0 r;obtain⟨a1,a2,a3,a4,a5,a6,a7⟩:=ZH ra;have hlt:=Hp.blk_lt hx;have:=zi (T:=Zr prog Zf Zn hcS) func80 Zf6 (ZaK a7) (vals:=[sl 0 o n c,i6' k]) (fun v hv=>by
    simp only[List.mem_cons,List.not_mem_nil,or_false] at hv;rcases hv with rfl | rfl<;>rfl) ho r E (s:=fun _=>b) (fun i _=>hlt) (zH hx a5 a6 rfl)
   rw[e0] at this;exact this.mono fun e w' he=>⟨m,he.1,he.2⟩
  split at hg
  ·rename_i x s2 hx;cases hg;have ra:=hl _ (Xe);have hd:=hl _ (Xd _ Xf);simp only at hd;refine one1 x hx ra _ (by rfl) (Zd5 (by rfl)) ?_;cases hb:ZU (Zx x.1 o n) with
   | true=>exact Zf8 (ZuI o n c k x.1) (Zi (zE ra) (Zt hb)) (fun _=>rfl)
   | false=>
    rw[hb,Bool.false_or] at hd;exact Zf8 (ZuJ o n c k x.1) (Zi hd (Zi (zE ra) (Zt hb))) (fun _=>rfl)
  ·rename_i x s2 hx;cases hg;have ra:=hl _ (Xe);have hd:=hl _ (Xd _ Xe);have h0:=Xc (hl _ (Xd _ (Xd _ Xf)));simp only[Bool.or_eq_false_iff] at hd;have d3:((n:Int)==0)=true:=by rw[h0];rfl
   exact one1 x hx ra _ (by rfl) (Zd5 (by rfl)) (Zf8 (ZuK o n c k x.1) (Zi d3 (Zi hd.2 (Zi (zE ra) (Zt hd.1)))) (fun _=>rfl))
  ·rename_i x s2 hx;cases hg;have ra:=hl _ (Xe);have hd:=hl _ (Xd _ Xe);have h0:=of_decide_eq_false (hl _ (Xd _ (Xd _ Xe)));have hk:=hl _ (Xd _ (Xd _ (Xd _ Xf)));simp only[Bool.or_eq_false_iff] at hd;have d3:((n:Int)==0)=false:=by simpa using h0
   obtain⟨a1,a2,a3,a4,a5,a6,a7⟩:=ZH ra;have hle:=Zmd a1.rng;have lI:lnI x.1 o n=262144-Zdy (Zx x.1 o n):=by unfold lnI;rw[Zw (by omega) (by omega)]
   have g0:=ZpZ o n c k x.1;rw[lI] at g0;exact one1 x hx ra _ (by rfl) (Zd5 (by rfl)) (Zf8 g0 (Zi hk (Zi (zE ra) (Zi d3 (Zi hd.2 (Zi (zE ra) (Zt hd.1)))))) (fun _=>rfl))
  ·rename_i x s2 hx;cases hg;have ra:=hl _ (Xe);have hd:=hl _ (Xd _ Xe);have h0:=of_decide_eq_false (hl _ (Xd _ (Xd _ Xe)));have hk:=of_decide_eq_false (hl _ (Xd _ (Xd _ (Xd _ Xf))));simp only[Bool.or_eq_false_iff] at hd;have hk0:=of_decide_eq_false hd.2;obtain⟨K,rfl⟩:=Int.eq_ofNat_of_zero_le (show 0≤k by omega);rw[Xg];obtain⟨a1,a2,a3,a4,a5,a6,a7⟩:=ZH ra;have r:=Zqd (K:=K) (zE ra) hd.1 h0 (by omega);have e1:∀ j M:Nat,rn (fun _=>h.n) (.tuple #[sl 1 0 j M,.nilIface])= .tuple #[sl h.n 0 j M,.nilIface]:=fun j M=>by simp [rn,rn2,rn1,sl]
   have:=ZE (T:=Zr prog Zf Zn hcS) func80 Zf6 (ZaK a7) (vals:=[sl 0 o n c,i6' K]) (fun v hv=>by
    simp only[List.mem_cons,List.not_mem_nil,or_false] at hv;rcases hv with rfl | rfl<;>rfl) (k:=1) (ZcY _) ZdX (r.w.mono fun e y h=>⟨h.1,h.2.1,[],by rw[List.append_nil];exact h.2.2⟩) (by rfl) E (s:=fun _=>b) (zH hx a5 a6 rfl)
   rw[e1] at this;exact this
  ·cases hg
 ·cases hg
end Go.Proofs.YtjlponbdflkbjaaGreatDoor.Na
namespace Go.Proofs.YtjlponbdflkbjaaGreatDoor.Na
open Go.Proofs.Tryz
open Go.KRun Go.Nt
set_option maxRecDepth 100000
set_option linter.unusedVariables false
def Zhp (L M:List Int):List Int:=dg (L.length+M.length) (vN L*vN M)
theorem z3 {L:List Int}(h:wds L) {o n c:Nat}(hl:o+n≤L.length) (hc:n≤c) (h2:ZA c=true):Z6 tU (wU L) o n c=true:=by
 unfold Z6;have h3:((Zce (wU L) o n).all isU)=true:=by
  rw[List.all_eq_true];intro v hv;unfold Zce wU at hv;obtain⟨x,hx,rfl⟩:=List.mem_map.1 (List.mem_of_mem_drop (List.mem_of_mem_take hv));exact Xa (h x hx)
 rw[show Zak tU=false from by kernel_rfl,show Nat.beq (rt tU) tU=true from by kernel_rfl,Nat.ble_eq_true_of_le (show o+n≤(wU L).length by rw[Zah];exact hl),Nat.ble_eq_true_of_le hc,h2,h3,ZbE];rfl
theorem Zhq (D M R:List Int):Zx (wU (D++(M++R))) D.length M.length=M:=by
 unfold Zx Zce wU;rw[List.map_append,List.map_append,List.drop_left' (by simp),List.take_left' (by simp),List.map_map];exact (List.map_congr_left fun x _=>rfl).trans (List.map_id' _)
theorem Zhr (D M R L:List Int):tmS (wU (D++(M++R))) D.length M.length L=wU (D++(L++R)):=by
 have e1:(wU (D++(M++R))).take D.length=wU D:=by
  unfold wU;rw[List.map_append];exact List.take_left' (by simp)
 have e2:(wU (D++(M++R))).drop (D.length+M.length)=wU R:=by
  unfold wU;rw[← List.append_assoc,List.map_append];exact List.drop_left' (by simp)
 unfold tmS;rw[e1,e2];unfold wU;rw[List.map_append,List.map_append]
theorem ZuQ (D L:List Int) (z c:Int) (R:List Int):(wU (D++(L++z::R))).set (D.length+L.length) (uu c)=wU (D++((L++[c])++R)):=by
 rw[← List.append_assoc,show D.length+L.length=(D++L).length from by simp,Zig];simp
theorem ZuR {la lb:List Value}{o c o' c':Nat}{LA LB:List Int}(RA:Row la o LA) (RB:Row lb o' LB) (sa:∀ v∈la,still v=true) (hrb:Z6 tR lb o' LB.length c'=true) (ha:0<LA.length) (hb:0<LB.length) (h8:LA.length+LB.length≤8192):
  Runs (Zr prog Zf Zn hcM) (ZW (pdP f115) (.seq (.seq (Z2 (Z2 (sn 4 f115))) (.block 0 (.loop (pdL f115)))) (Zz (sn 4 f115)))) ([sl 0 o LA.length c,sl 1 o' LB.length c']++List.replicate 57 undef,h2 la lb,[]) fun e y=>(e=none∨e=some none)∧ZV prog f115 y.1 y.2.1=some (.tuple #[sl 2 0 (Zl (Zhp LA LB)) (LA.length+LB.length),.nilIface])∧y.2.1.blk? 2=some (wU (Zhp LA LB),tU):=by
 have hT:=Zh Zd Zma;have eZ:pZ LA.length LB.length=((LA.length+LB.length:Nat):Int):=by
  unfold pZ;rw[Zw (by omega) (by omega)];omega
 have g0:=Z0j o LA.length c o' LB.length c' la lb;rw[eZ,Xg] at g0;have esm:∀ q:Nat,q≤8192→ZA q=true:=fun q hq=>Zo.2 (by unfold za;omega);have bA:=RA.rng;have bB:=ZaL LB RB.rng;have erep:List.replicate (LA.length+LB.length) (uu 0)=wU ([]++(List.replicate LB.length 0++List.replicate LA.length 0)):=by
  unfold wU uu;rw[Nat.add_comm];simp [List.replicate_append_replicate]
 rw[erep] at g0;refine Zv hT g0 (Zi (by unfold ZI;exact Xa (by omega)) (Zi (by rw[Zw (by omega) (by omega)];exact Xb (by omega)) (Zi (by simpa using (show LB.length≠0 by omega)) (Zt (by simpa using (show LA.length≠0 by omega)))))) fun g=> ?_;refine Runs.seq (P1:=fun e' y=>e'=none∧∃ (D M:List Int) (v7 v8 u1 u2 u3:Value) (g g':Nat→Value),y.1=ml (pdF o LA.length c o' LB.length c' (LA.length+LB.length) v7 v8) 22 g [u1,u2,u3] 25 g'∧D.length=LA.length∧M.length=LB.length∧wds D∧wds M∧vN D+4294967296^D.length*vN M=vN LA*vN LB∧y.2.1=h3 la lb (wU (D++(M++[])))) ?_ ?_ (fun e y he=>by cases he.1)
 ·refine Runs.seq (P1:=fun e' y=>e'=none∧(∃ g g',y.1=ml (pdF o LA.length c o' LB.length c' (LA.length+LB.length) undef undef) 22 g [sl 0 o LA.length c,i6' LA.length,i6' 0] 25 g')∧y.2.1=h3 la lb (wU ([]++(List.replicate LB.length 0++List.replicate LA.length 0)))) (z9 hT (Z8P o LA.length c o' LB.length c' (LA.length+LB.length) undef undef la lb _ g) (fun x hx=>by cases hx)) ?_ (fun e y he=>by cases he.1);rintro⟨t,h',s'⟩ ⟨_,⟨g1,g2,ht⟩,hh⟩;simp only at ht hh;subst ht hh;refine (Runs.forLoop (R:=fun _=>False) (P:=fun y=>∃ (D M:List Int) (v7 v8 u1 u2 u3:Value) (g g':Nat→Value),y.1=ml (pdF o LA.length c o' LB.length c' (LA.length+LB.length) v7 v8) 22 g [u1,u2,u3] 25 g'∧D.length=LA.length∧M.length=LB.length∧wds D∧wds M∧vN D+4294967296^D.length*vN M=vN LA*vN LB∧y.2.1=h3 la lb (wU (D++(M++[]))))
   (fun r y=>∃ (D M:List Int) (v7 v8:Value) (g g':Nat→Value),D.length+r=LA.length∧M.length=LB.length∧wds D∧wds M∧vN D+4294967296^D.length*vN M=vN (LA.take D.length)*vN LB∧y.1=ml (pdF o LA.length c o' LB.length c' (LA.length+LB.length) v7 v8) 22 g [sl 0 o LA.length c,i6' LA.length,i6' D.length] 25 g'∧y.2.1=h3 la lb (wU (D++(M++List.replicate r 0))))
   ?_ (n:=LA.length) ⟨[],List.replicate LB.length 0,undef,undef,g1,g2,by simp,by simp,(fun x hx=>by cases hx),Zho _,?_,rfl,rfl⟩).mono fun e' y he=> ?_
  ·rintro r ⟨t,h',s'⟩ ⟨D,M,v7,v8,g,g',hr,hM,w1,w2,hv,ht,hh⟩;simp only at ht hh;subst ht hh;cases r with
   | zero=>
    have ek:D.length=LA.length:=by omega
    refine (z9 hT (Z0k o LA.length c o' LB.length c' (LA.length+LB.length) D.length v7 v8 la lb _ g g') (Zt (Xb (by omega)))).mono fun e' y he=> ?_;obtain⟨rfl,⟨g1,g2,e2⟩,e3⟩:=he;rw[ek,List.take_length] at hv;rw[← ek] at hv;exact⟨rfl,D,M,v7,v8,_,_,_,g1,g2,e2,ek,hM,w1,w2,hv,e3⟩
   | succ r=>
    have hk:D.length<LA.length:=by omega
    have cA:=RA.cell hk;have hx:=bA (LA.getD D.length 0) (by simp [List.getD,List.getElem?_eq_getElem hk]);have et:=Zax hk;generalize LA.getD D.length 0=x at*;have eJ:pJ D.length=D.length:=by unfold pJ;omega
    have eK:pK D.length LB.length=((D.length+LB.length:Nat):Int):=by unfold pK;rw[Zw (by omega) (by omega)];omega
    have eL:pLn D.length LB.length=M.length:=by unfold pLn;rw[eK];omega
    have ecB:Zx lb o' LB.length=LB:=by
     unfold Zx;rw[RB.cut];unfold wU;rw[List.map_map];exact (List.map_congr_left fun x _=>rfl).trans (List.map_id' _)
    have ecM:Zx (wU (D++(M++List.replicate (r+1) 0))) (pJ D.length) (pLn D.length LB.length)=M:=by rw[eJ,eL];exact Zhq _ _ _
    have ePS:pS (wU (D++(M++List.replicate (r+1) 0))) lb o' LB.length D.length x=wU (D++(tmR M LB x++List.replicate (r+1) 0)):=by
     unfold pS;rw[ecM,ecB,eJ,eL];exact Zhr _ _ _ _
    have ePC:pC (wU (D++(M++List.replicate (r+1) 0))) lb o' LB.length D.length x=tmC M LB x:=by
     unfold pC;rw[ecM,ecB]
    have lR:(tmR M LB x).length=M.length:=by unfold tmR;rw[ZS]
    have bM:=ZaL M w2;rw[hM] at bM;have bT:=Z5e bM bB hx;rw[← hM] at bT;obtain⟨y,m,e1,e2,w3,w4,e5⟩:=ZpY bT;have eW:tmR M LB x++[tmC M LB x]=y::m:=e1;have g1:=Z5i o LA.length c o' LB.length c' (LA.length+LB.length) D.length x v7 v8 la lb (wU (D++(M++List.replicate (r+1) 0))) g g';rw[ePS,ePC,eK,eJ,eL,Xg,Xg,Nat.zero_add,Nat.mul_one] at g1;have hall:wds (D++(M++List.replicate (r+1) 0)):=Zaf w1 (Zaf w2 (Zho _));have l1:decide (D.length+LB.length<(wU (D++(tmR M LB x++List.replicate (r+1) 0))).length)=true:=Xa (by rw[Zah];simp [lR];omega);have l2:(inR ((D.length+LB.length:Nat):Int) (LA.length+LB.length)).1=(inR ((D.length+LB.length:Nat):Int) (LA.length+LB.length)).2:=Xa (by omega);have l3:Zhn (wU (D++(M++List.replicate (r+1) 0))) lb la tU tR tR D.length M.length (LA.length+LB.length-D.length) o' LB.length c' x=true:=by
     unfold Zhn;rw[z3 hall (by simp) (by omega) (esm _ (by omega)),hrb,List.all_eq_true.2 sa,Zo.2 (show M.length<1099511627776 by omega),Xa hx,hM];simp
    have l5:ZQ D.length ((D.length+LB.length:Nat):Int) ((LA.length+LB.length:Nat):Int) ((LA.length+LB.length:Nat):Int)=true:=by unfold ZQ;exact Xa (by omega)
    have l6:decide (((LA.length+LB.length:Nat):Int)=(D.length:Int)∧(D.length:Int)≠0)=false:=Xb (by omega);have l7:(inR D.length LA.length).1=(inR D.length LA.length).2:=Xa (by omega);refine (z9 hT g1 (Zi l1 (Zi l2 (Zi l3 (Zi (esm _ (by omega)) (Zi l5 (Zi l6 (Zi (Zaw cA) (Zi l7 (Zt (Xa (by omega)))))))))))).mono fun e' Y he=> ?_;obtain⟨rfl,⟨g2,g3,f2⟩,f3⟩:=he;refine⟨r,by omega,D++[y],m,i6' D.length,uu x,g2,g3,by simp;omega,by omega,Zaf w1 w3,w4,?_,?_,?_⟩
    ·rw[zo,List.length_append,List.length_singleton,pw,et,zo,List.length_take,Nat.min_eq_left (by omega)];exact ZuC e5 hv
    ·rw[f2,Zw (by omega) (by omega)];simp
    ·rw[f3,List.replicate_succ,← hM,← lR,ZuQ,eW];simp
  ·simp only[List.length_nil,List.take_zero];have:vN (List.replicate LB.length 0)=0:=ZsT _;rw[this];simp [vN]
  ·match e',he with
   | none,he=>exact⟨rfl,he⟩
   | some none,he=>exact he.elim
   | some (some _),he=>exact he.elim
 ·rintro⟨t,h',s'⟩ ⟨_,D,M,v7,v8,u1,u2,u3,g,g',ht,hD,hM,w1,w2,hv,hh⟩;simp only at ht hh;subst ht hh;have hw:wds (D++M):=Zaf w1 w2;have hl:(D++M).length=LA.length+LB.length:=by simp;omega
  have ew:D++M=Zhp LA LB:=by
   have:=Zfw (D++M) hw;rw[ZsD,hv,hl] at this;exact this.symm
  have hr:=ZsG hw (c:=LA.length+LB.length) (by omega) (esm _ h8);rw[hl] at hr;have htr:=Za4 (D++M);have g1:=Z0l o LA.length c o' LB.length c' (LA.length+LB.length) v7 v8 u1 u2 u3 la lb (wU (D++M)) g g';rw[hr.2] at g1;rw[List.append_nil];refine (Zb hT g1 (Zi (Xb (by omega)) (Zt hr.1))).mono fun e' y he=> ?_;obtain⟨rfl,⟨g1,e2⟩,e3⟩:=he;refine⟨.inr rfl,?_,?_⟩
  ·rw[e2,e3,ew];rfl
  ·rw[e3,ew];rfl
def Z5m:Zad:=fun vals h s=>
 match vals,s with
 | [.slice p n c,.slice q n' c'],.inr (.inr (.inr (.inl true)))::s'=>some (.tuple #[Zp,.nilIface],h,s',[(decide (n=0∨n'=0),true)])
 | [.slice p n c,.slice q n' c'],.inr (.inr (.inr (.inl false)))::s'=>some (.tuple #[sl h.n 0 (Zl (Zhp (Zq h p n) (Zq h q n'))) (n+n'),.nilIface],h.push (wU (Zhp (Zq h p n) (Zq h q n'))) tU,s',[(Zai h p n c,true),(Zai h q n' c',true),(!decide (n=0∨n'=0) && Nat.ble (n+n') 8192,true)])
 | _,_=>none
theorem Zmh:Z8 115 Z5m:=by
 intro vals h s v h' s' lg hg hl m B w E hv;unfold Z5m at hg;split at hg
 ·rename_i p n c q n' c' s2;cases hg;have l1:=Xc (hl _ Xf);by_cases h0:n=0
  ·have r:=Zb (s0:=[]) (Zh Zd Zma) (Z5j p q n c n' c' h) (Zt (by simp [h0]));exact Zbn (T:=Zr prog Zf Zn hcM) func115 Zir (vals:=[.slice p n c,.slice q n' c']) (v:= .tuple #[Zp,.nilIface]) (h:=h) (by rfl) (r.mono fun e y he=>by
    obtain⟨rfl,⟨g,e1⟩,e2⟩:=he;exact⟨.inr rfl,by rw[e1,e2];rfl,e2⟩) m B w E hv
  ·have h1:n'=0:=l1.resolve_left h0;have r:=Zb (s0:=[]) (Zh Zd Zma) (Z5k p q n c n' c' h) (Zi (by simp [h1]) (Zt (by simpa using h0)));exact Zbn (T:=Zr prog Zf Zn hcM) func115 Zir (vals:=[.slice p n c,.slice q n' c']) (v:= .tuple #[Zp,.nilIface]) (h:=h) (by rfl) (r.mono fun e y he=>by
    obtain⟨rfl,⟨g,e1⟩,e2⟩:=he;exact⟨.inr rfl,by rw[e1,e2];rfl,e2⟩) m B w E hv
 ·rename_i p n c q n' c' s2;cases hg;obtain⟨l1,l2,l3⟩:=Z4n hl;simp only[Xh,Bool.not_eq_true',decide_eq_false_iff_not] at l1 l2 l3;obtain⟨l3,l4⟩:=l3;have l4:=Nat.le_of_ble_eq_true l4;rcases ZM l1 with ⟨_,h0,_⟩ | ⟨b,o,x,rfl,hx,r1,e0⟩
  ·omega
  rcases ZM l2 with ⟨_,h0,_⟩ | ⟨b',o',y,rfl,hy,t1,f0⟩
  ·omega
  rw[e0,f0];obtain⟨a1,a2,a3,a4,a5,a6,a7⟩:=ZH r1;obtain⟨b1,b2,b3,b4,b5,b6,b7⟩:=ZH t1;have r:=ZuR (c:=c) (c':=c') a1 b1 a7 (by rw[b2];exact zE t1) (by omega) (by omega) (by omega);rw[a2,b2] at r;have e1:∀ k M:Nat,rn (fun _=>h.n) (.tuple #[sl 2 0 k M,.nilIface])= .tuple #[sl h.n 0 k M,.nilIface]:=fun k M=>by simp [rn,rn2,rn1,sl]
  have:=ZE (T:=Zr prog Zf Zn hcM) func115 ZuH (Zhe a7 b7) (vals:=[sl 0 o n c,sl 1 o' n' c']) (fun v hv=>by
   simp only[List.mem_cons,List.not_mem_nil,or_false] at hv;rcases hv with rfl | rfl<;>rfl) (k:=2) (ZcY _) ZdX (r.w.mono fun e y h=>⟨h.1,h.2.1,[],by rw[List.append_nil];exact h.2.2⟩) (by rfl) E (s:=ZeQ b b') (ZdT hx a5 a6 hy b5 b6)
  rw[e1] at this;exact this
 ·cases hg
end Go.Proofs.YtjlponbdflkbjaaGreatDoor.Na
namespace Go.Proofs.YtjlponbdflkbjaaGreatDoor.Na
open Go.KRun Go.Nt
set_option maxRecDepth 100000
theorem Zmi (W:List Int) (k:Nat):Zx (wU W) 0 k=W.take k:=by
 unfold Zx Zce wU;rw[List.drop_zero,← List.map_take,List.map_map];exact (List.map_congr_left fun x _=>rfl).trans (List.map_id' _)
theorem Z0p (V:Nat):wds (db 4294967296 V):=fun x hx=>by
 have:=Zfx (b:=4294967296) (by omega) V x hx;exact⟨this.1,by have:=this.2;omega⟩
end Go.Proofs.YtjlponbdflkbjaaGreatDoor.Na
namespace Go.Proofs.YtjlponbdflkbjaaGreatDoor.Na
open Go.Proofs.Tryz
open Go.IntKind
open Go.KRun Go.Nt
set_option maxRecDepth 100000
def uP (F:Func):List Code:=[Z2 (Zs F),Z2 (Zz (Zs F))]
def uC2 (F:Func):Code:=Zz (Zz (Zs F))
def uR2 (F:Func):Code:=Z2 (Z2 (uC2 F))
def uL1 (F:Func):Code:=cIn (cIn (Zz (Z2 (uC2 F))))
def uR7 (F:Func):Code:=Z2 (Z2 (Zz (uC2 F)))
def uL2 (F:Func):Code:=cIn (cIn (Zz (Z2 (Zz (uC2 F)))))
def uE (F:Func):Code:=Zz (Zz (uC2 F))
theorem Ziu:f111.body=some (ZW (uP f111) (.seq (.seq (uR2 f111) (.block 0 (.loop (uL1 f111)))) (.seq (.seq (uR7 f111) (.block 2 (.loop (uL2 f111)))) (uE f111)))):=by kernel_rfl
def hW1 (S:List Value):Hp:=⟨1,[(S,tU)]⟩
def u1F (w:Value) (s:ByteArray) (c:Int) (i:Value) (k:Int):List Value:=[w,.string s,undef,undef,Zp,.int .u64 c,i,undef,undef,.string s,.int .i64 s.size,.int .i64 k]
def upC (c b:Int):Int:=u64.wrap (u64.wrap (c*10)+u64.wrap (u8.wrap (b-48)))
theorem Z5n (w:Value) (s:ByteArray) (h:Hp):Zg (evL (Zk prog Zf Zn true) 100 (uP f111) ([w,.string s]++List.replicate 49 undef,h,[]) ⟨[],[],[]⟩) 9 42 none [w,.string s,undef,undef,Zp,.int .u64 0,undef,undef,undef] h []:=by and_intros<;>kernel_rfl
theorem Z8Q (w:Value) (s:ByteArray) (h:Hp) (g:Nat→Value):Zg (evC (Zk prog Zf Zn true) 100 false (uR2 f111) ([w,.string s,undef,undef,Zp,.int .u64 0,undef,undef,undef]++tl 42 g,h,[]) ⟨[],[],[]⟩) 12 39 none (u1F w s 0 undef 0) h []:=by and_intros<;>kernel_rfl
theorem Z8R (w:Value) (s:ByteArray) (c:Int) (i:Value) (k:Int) (h:Hp) (g:Nat→Value):Zg (evC (Zk prog Zf Zn true) 100 false (uL1 f111) (u1F w s c i k++tl 39 g,h,[cmp false]) ⟨[],[],[]⟩) 12 39 (some (some 0)) (u1F w s c i k) h [(decide (k<s.size),false)]:=by and_intros<;>kernel_rfl
theorem Z8S (w:Value) (s:ByteArray) (c:Int) (i:Value) (k:Int) (h:Hp) (g:Nat→Value):Zg (evC (Zk prog Zf Zn true) 100 false (uL1 f111) (u1F w s c i k++tl 39 g,h,[cmp true]) ⟨[],[],[]⟩) 12 39 none (u1F w s (upC c ((s.data.toList.getD k.toNat 0).toNat:Nat)) (.int .i64 k) (i64.wrap (k+1))) h [(decide (0≤k∧k.toNat<s.data.toList.length),true),(decide (k<s.size),true)]:=by and_intros<;>kernel_rfl
def u2A (w:Value) (s:ByteArray) (c:Int) (i v x:Value):List Value:=[w,.string s,undef,undef,Zp,.int .u64 c,i,v,x]
def u2M (w:Value) (n:Nat) (j:Int):List Value:=[w,.int .i64 n,.int .i64 j]
theorem Z8T (n C:Nat) (s:ByteArray) (c:Int) (i:Value) (k:Int) (h:Hp) (g:Nat→Value):ZdS (evC (Zk prog Zf Zn true) 100 false (uR7 f111) (u1F (sl 0 0 n C) s c i k++tl 39 g,h,[]) ⟨[],[],[]⟩) 9 14 3 25 none (u2A (sl 0 0 n C) s c i undef undef) (u2M (sl 0 0 n C) n 0) h []:=by and_intros<;>kernel_rfl
theorem Z8U (n C:Nat) (s:ByteArray) (c:Int) (i v x:Value) (j:Int) (h:Hp) (g g':Nat→Value):ZdS (evC (Zk prog Zf Zn true) 100 false (uL2 f111) (ml (u2A (sl 0 0 n C) s c i v x) 14 g (u2M (sl 0 0 n C) n j) 25 g',h,[cmp false]) ⟨[],[],[]⟩) 9 14 3 25 (some (some 2)) (u2A (sl 0 0 n C) s c i v x) (u2M (sl 0 0 n C) n j) h [(decide (j<n),false)]:=by and_intros<;>kernel_rfl
def ZyS (c x:Int):Int:=u64.wrap (c+u64.wrap (u64.wrap x*1000000000))
theorem Z8V (n C:Nat) (s:ByteArray) (c:Int) (i v x0:Value) (j x:Int) (S:List Value) (g g':Nat→Value):ZdS (evC (Zk prog Zf Zn true) 100 false (uL2 f111) (ml (u2A (sl 0 0 n C) s c i v x0) 14 g (u2M (sl 0 0 n C) n j) 25 g',hW1 S,[cmp true,at_,val (uu x),at_,at_]) ⟨[],[],[]⟩) 9 14 3 25 none (u2A (sl 0 0 n C) s ((ZyS c x).fdiv (2^min (Int.toNat 32) 64)) i (.int .i64 j) (uu x)) (u2M (sl 0 0 n C) n (i64.wrap (j+1))) (hW1 (S.set (0+j.toNat*1) (uu (u32.wrap (ZyS c x))))) [(decide ((32:Int)<0),false),(decide (0+j.toNat*1<S.length),true),inR j n,Zdr S 0 j x,inR j n,(decide (j<n),true)]:=by and_intros<;>kernel_rfl
theorem Z8W (n C:Nat) (s:ByteArray) (c:Int) (i v x:Value) (j:Int) (h:Hp) (g g':Nat→Value):Zg (evC (Zk prog Zf Zn true) 100 false (uE f111) (ml (u2A (sl 0 0 n C) s c i v x) 14 g (u2M (sl 0 0 n C) n j) 25 g',h,[cmp false]) ⟨[],[],[]⟩) 5 46 (some none) [sl 0 0 n C,.string s,undef,undef,sl 0 0 n C] h [(c !=0,false)]:=by and_intros<;>kernel_rfl
theorem Z8X (n C:Nat) (s:ByteArray) (c:Int) (i v x:Value) (j:Int) (S:List Value) (g g':Nat→Value):Zg (evC (Zk prog Zf Zn true) 100 false (uE f111) (ml (u2A (sl 0 0 n C) s c i v x) 14 g (u2M (sl 0 0 n C) n j) 25 g',hW1 S,[cmp true,sam true]) ⟨[],[],[]⟩) 5 46 (some none) [sl 0 0 (n+1) C,.string s,undef,undef,sl 0 0 (n+1) C] ⟨2,[([uu (u32.wrap c)],tU),(S.take n++[uu (u32.wrap c)]++S.drop (n+1),tU)]⟩ [(Zgf tU (S,tU) ([uu (u32.wrap c)],tU) n C 0 1,true),(c !=0,true)]:=by and_intros<;>kernel_rfl
def dgF (s:ByteArray) (j:Nat):Int:=byT s j-48
theorem ZeY {s:ByteArray}(h:ZoC s) {j:Nat}(hj:j<s.size):(48≤byT s j∧byT s j≤57)∧0≤dgF s j∧dgF s j<10:=by
 have h1:=h j hj;unfold ZfY at h1;simp only[Bool.or_eq_false_iff,decide_eq_false_iff_not] at h1;unfold dgF;omega
theorem Z8Y {c b:Int}(hc:0≤c∧c<1000000000) (hb:48≤b∧b≤57):upC c b=c*10+(b-48):=by
 unfold upC;simp [IntKind.wrap,IntKind.bits,IntKind.signed];omega
theorem Z8Z {c x:Int}(hc:0≤c∧c<1000000000) (hx:0≤x∧x<4294967296):u32.wrap (ZyS c x)=(c+x*1000000000) % 4294967296∧(ZyS c x).fdiv (2^min (Int.toNat 32) 64)=(c+x*1000000000)/4294967296:=by
 have e:ZyS c x=c+x*1000000000:=by
  unfold ZyS;simp [IntKind.wrap,IntKind.bits,IntKind.signed];omega
 have e2:((2:Int)^min (Int.toNat 32) 64)=4294967296:=rfl;rw[e,e2,Int.fdiv_eq_ediv_of_nonneg _ (by omega)];refine⟨?_,rfl⟩;simp [IntKind.wrap,IntKind.bits,IntKind.signed]
theorem Z5o {k:Nat}(h:k≤9):(10:Nat)^k≤1000000000:=by
 have:=Nat.pow_le_pow_right (show 0<10 by omega) h;exact this
theorem Z5p {w:Value}{s:ByteArray}(hs:ZoC s) (h9:s.size≤9) (h:Hp) (g:Nat→Value) (sc:List Dec):
  Runs (Zk prog Zf Zn true) (.block 0 (.loop (uL1 f111))) (u1F w s 0 undef 0++tl 39 g,h,sc) fun e z=>e=none∧∃ (i:Value) (k:Int) (g:Nat→Value),z.1=u1F w s ((zC (dgF s) s.size:Nat):Int) i k++tl 39 g∧z.2.1=h:=by
 have hT:=Zj Zd;refine (Runs.forLoop (R:=fun _=>False) (P:=fun z=>∃ (i:Value) (k:Int) (g:Nat→Value),z.1=u1F w s ((zC (dgF s) s.size:Nat):Int) i k++tl 39 g∧z.2.1=h)
  (fun r z=>∃ (k:Nat) (i:Value) (g:Nat→Value),z.1=u1F w s ((zC (dgF s) k:Nat):Int) i k++tl 39 g∧z.2.1=h∧k≤s.size∧r=s.size-k)
  ?_ (n:=s.size) ⟨0,undef,g,rfl,rfl,by omega,by omega⟩).mono fun e z hz=> ?_
 ·rintro r ⟨t,h',sc'⟩ ⟨k,i,g,ht,hh,hk,hr⟩;simp only at ht hh;subst ht hh;by_cases hc:k<s.size
  ·obtain⟨b1,b2⟩:=ZeY hs hc;have hlt:=ZbV (f:=dgF s) k (fun j hj=>(ZeY hs (show j<s.size by omega)).2);have hp:=Z5o (show k≤9 by omega);have eC:=Z8Y (c:=((zC (dgF s) k:Nat):Int)) ⟨by omega,by omega⟩ b1;have l1:decide ((0:Int)≤(k:Nat)∧((k:Nat):Int).toNat<s.data.toList.length)=true:=Xa ⟨by omega,by rw[Xg];exact hc⟩;refine (Zb hT (Z8S w s _ i (k:Nat) h' g) (Za l1 (Z4 (Xa (by omega))))).mono fun e z he=> ?_;obtain⟨rfl,⟨g',z1⟩,z2⟩:=he;refine⟨s.size-(k+1),by omega,k+1,.int .i64 (k:Nat),g',?_,z2,by omega,rfl⟩;rw[z1,Xg];have eb:(((s.data.toList.getD k 0).toNat:Nat):Int)=byT s k:=rfl;rw[eb,eC,Zw (by omega) (by omega)];congr 2;simp only[zC];have:((dgF s k).toNat:Int)=byT s k-48:=by unfold dgF at*;omega
   omega
  ·refine (Zb hT (Z8R w s _ i (k:Nat) h' g) (Z4 (Xb (by omega)))).mono fun e z he=> ?_;obtain⟨rfl,⟨g',z1⟩,z2⟩:=he;rw[show k=s.size by omega] at z1;exact⟨rfl,i,_,g',z1,z2⟩
 ·match e,hz with
  | none,hz=>exact⟨rfl,hz⟩
theorem Z5q {n C:Nat}{s:ByteArray}{P:Int}(hP:0≤P∧P<1000000000) {L:List Int}(hL:wds L) (hn:L.length=n) (hN:n<4611686018427387904) {Z:List Value}(i v x:Value) (g g':Nat→Value) (sc:List Dec):
  Runs (Zk prog Zf Zn true) (.block 2 (.loop (uL2 f111))) (ml (u2A (sl 0 0 n C) s P i v x) 14 g (u2M (sl 0 0 n C) n 0) 25 g',hW1 (wU L++Z),sc) fun e z=>e=none∧∃ (i v x:Value) (j:Int) (g g':Nat→Value),z.1=ml (u2A (sl 0 0 n C) s ((vN L*1000000000+P)/4294967296^n) i v x) 14 g (u2M (sl 0 0 n C) n j) 25 g'∧z.2.1=hW1 (wU (dg n (vN L*1000000000+P))++Z):=by
 have hT:=Zj Zd;refine (Runs.forLoop (R:=fun _=>False) (P:=fun z=>∃ (i v x:Value) (j:Int) (g g':Nat→Value),z.1=ml (u2A (sl 0 0 n C) s ((vN L*1000000000+P)/4294967296^n) i v x) 14 g (u2M (sl 0 0 n C) n j) 25 g'∧z.2.1=hW1 (wU (dg n (vN L*1000000000+P))++Z))
  (fun r z=>∃ (dx px:List Int) (c:Int) (i v x:Value) (g g':Nat→Value),z.1=ml (u2A (sl 0 0 n C) s c i v x) 14 g (u2M (sl 0 0 n C) n dx.length) 25 g'∧z.2.1=hW1 (wU (dx++px)++Z)∧px.length=r∧dx.length+px.length=n∧wds dx∧wds px∧(0≤c∧c<1000000000)∧vN dx+4294967296^dx.length*(vN px*1000000000+c)=vN L*1000000000+P)
  ?_ (n:=n) ⟨[],L,P,i,v,x,g,g',rfl,rfl,hn,by simpa using hn,(fun x hx=>by cases hx),hL,hP,by simp [vN]⟩).mono fun e z hz=> ?_
 ·rintro r ⟨t,h',sc'⟩ ⟨dx,px,c,i,v,x0,g,g',ht,hh,hr,hl,wd1,wd2,hc,hv⟩;simp only at ht hh;subst ht hh
  match px,hr,hl,wd2,hv with
  | [],hr,hl,wd2,hv=>
   have hl':dx.length=n:=by simpa using hl
   refine (z9 hT (Z8U n C s c i v x0 (dx.length:Nat) _ g g') (Z4 (Xb (by omega)))).mono fun e z he=> ?_;obtain⟨rfl,⟨g1,g2,z1⟩,z2⟩:=he;simp only[vN] at hv;rw[Int.zero_mul,Int.zero_add] at hv;have e5:=Zc2 dx.length (vN dx) c;rw[hv,Zfw dx wd1,hl'] at e5;have hb:=ZaL dx wd1;have e6:(vN L*1000000000+P)/4294967296^n=c:=by
    rw[← hv,← hl',Int.add_mul_ediv_left _ _ (by have:=Zav dx.length;omega),Int.ediv_eq_zero_of_lt hb.1 hb.2,Int.zero_add]
   rw[e6,e5];rw[List.append_nil] at z2;exact⟨rfl,i,v,x0,_,g1,g2,z1,z2⟩
  | x::px,hr,hl,wd2,hv=>
   obtain⟨wx,wd2⟩:=Zae wd2;obtain⟨t1,t2⟩:=Z8Z hc wx;have hl':dx.length<n:=by simp at hl;omega
   have cS:(wU (dx++x::px)++Z)[0+dx.length]? =some (uu x):=by
    rw[Nat.zero_add,List.getElem?_append_left (by unfold wU;simp)];exact ZsF dx x px
   have l1:decide (0+((dx.length:Nat):Int).toNat*1<(wU (dx++x::px)++Z).length)=true:=Xa (by unfold wU;simp);have l2:(inR (dx.length:Nat) n).1=(inR (dx.length:Nat) n).2:=Xa (by omega);have l3:(Zdr (wU (dx++x::px)++Z) 0 (dx.length:Nat) x).1=(Zdr (wU (dx++x::px)++Z) 0 (dx.length:Nat) x).2:=Zaw cS;refine (z9 hT (Z8V n C s c i v x0 (dx.length:Nat) x _ g g') (Za (by decide) (Za l1 (Za l2 (Za l3 (Za l2 (Z4 (Xa (by omega))))))))).mono fun e z he=> ?_;obtain⟨rfl,⟨g1,g2,z1⟩,z2⟩:=he;rw[t2] at z1;rw[t1] at z2;refine⟨px.length,by simp at hr;omega,dx++[(c+x*1000000000) % 4294967296],px,(c+x*1000000000)/4294967296,i,.int .i64 (dx.length:Nat),uu x,g1,g2,?_,?_,rfl,by simp at hl ⊢;omega,Zaf wd1 (fun z hz=>by rw[List.mem_singleton.1 hz];omega),wd2,by omega,?_⟩
   ·rw[z1,Zw (by omega) (by omega),List.length_append,List.length_singleton];rfl
   ·rw[z2,Xg,Nat.mul_one,Nat.zero_add,List.set_append_left _ _ (by unfold wU;simp),Zig]
   ·rw[zo,List.length_append,List.length_singleton,Int.pow_succ,← hv];simp only[vN];generalize vN px=A;generalize (4294967296:Int)^dx.length=Q;have e:(c+x*1000000000)=4294967296*((c+x*1000000000)/4294967296)+(c+x*1000000000) % 4294967296:=by omega
    generalize (c+x*1000000000)/4294967296=d at*;generalize (c+x*1000000000) % 4294967296=m at*;have e':(x+4294967296*A)*1000000000+c=4294967296*d+m+4294967296*A*1000000000:=by omega
    rw[e'];have d1:Q*(4294967296*d+m+4294967296*A*1000000000)=Q*4294967296*d+Q*m+Q*4294967296*(A*1000000000):=by
     rw[Int.mul_add,Int.mul_add,← Int.mul_assoc,Int.mul_assoc 4294967296 A,← Int.mul_assoc Q]
    rw[d1,Int.mul_add];omega
 ·match e,hz with
  | none,hz=>exact⟨rfl,hz⟩
def ppT (L:List Int) (s:ByteArray):Int:=vN L*1000000000+((zC (dgF s) s.size:Nat):Int)
theorem Zmj {C:Nat}{s:ByteArray}(hs:ZoC s) (h9:s.size≤9) {L:List Int}(hL:wds L) (hN:L.length<1073741824) {Z:List Value}:
  (ppT L s/4294967296^L.length=0→Runs (Zk prog Zf Zn true) (ZW (uP f111) (.seq (.seq (uR2 f111) (.block 0 (.loop (uL1 f111)))) (.seq (.seq (uR7 f111) (.block 2 (.loop (uL2 f111)))) (uE f111)))) ([sl 0 0 L.length C,.string s]++List.replicate 49 undef,hW1 (wU L++Z),[]) fun e y=>(e=none∨e=some none)∧ZV prog f111 y.1 y.2.1=some (sl 0 0 L.length C)∧y.2.1.cut 1=hW1 (wU (dg L.length (ppT L s))++Z))∧
  (ppT L s/4294967296^L.length≠0→L.length<C→ZA C=true→0<Z.length→Runs (Zk prog Zf Zn true) (ZW (uP f111) (.seq (.seq (uR2 f111) (.block 0 (.loop (uL1 f111)))) (.seq (.seq (uR7 f111) (.block 2 (.loop (uL2 f111)))) (uE f111)))) ([sl 0 0 L.length C,.string s]++List.replicate 49 undef,hW1 (wU L++Z),[]) fun e y=>(e=none∨e=some none)∧ZV prog f111 y.1 y.2.1=some (sl 0 0 (L.length+1) C)∧y.2.1.cut 1=hW1 (wU (dg L.length (ppT L s))++[uu (ppT L s/4294967296^L.length)]++Z.drop 1)):=by
 have hT:=Zj Zd;have hlt:=ZbV (f:=dgF s) s.size (fun j hj=>(ZeY hs hj).2);have hp:=Z5o h9;have hP:(0:Int)≤((zC (dgF s) s.size:Nat):Int)∧((zC (dgF s) s.size:Nat):Int)<1000000000:=by omega
 have key:∀ {Q:Ex→Lf→Prop},(∀ (i v x:Value) (j:Int) (g g':Nat→Value) (sc:List Dec),Runs (Zk prog Zf Zn true) (uE f111) (ml (u2A (sl 0 0 L.length C) s (ppT L s/4294967296^L.length) i v x) 14 g (u2M (sl 0 0 L.length C) L.length j) 25 g',hW1 (wU (dg L.length (ppT L s))++Z),sc) Q)→Runs (Zk prog Zf Zn true) (ZW (uP f111) (.seq (.seq (uR2 f111) (.block 0 (.loop (uL1 f111)))) (.seq (.seq (uR7 f111) (.block 2 (.loop (uL2 f111)))) (uE f111)))) ([sl 0 0 L.length C,.string s]++List.replicate 49 undef,hW1 (wU L++Z),[]) Q:=by
  intro Q hQ;refine Zv hT (Z5n (sl 0 0 L.length C) s _) ZyO fun g=> ?_;refine Runs.seq (P1:=fun e z=>e=none∧∃ (i:Value) (k:Int) (g:Nat→Value),z.1=u1F (sl 0 0 L.length C) s ((zC (dgF s) s.size:Nat):Int) i k++tl 39 g∧z.2.1=hW1 (wU L++Z)) ?_ ?_ (fun e y he=>by cases he.1)
  ·refine Runs.seq (Zb hT (Z8Q (sl 0 0 L.length C) s _ g) ZyO) ?_ (fun e y he=>by cases he.1);rintro⟨t,hh,sc⟩ ⟨_,⟨g',e1⟩,e2⟩;simp only at e1 e2;subst e1 e2;exact Z5p hs h9 _ g' sc
  ·rintro⟨t,hh,sc⟩ ⟨_,i,k,g',e1,e2⟩;simp only at e1 e2;subst e1 e2;refine Runs.seq (P1:=fun e z=>e=none∧∃ (i v x:Value) (j:Int) (g g':Nat→Value),z.1=ml (u2A (sl 0 0 L.length C) s (ppT L s/4294967296^L.length) i v x) 14 g (u2M (sl 0 0 L.length C) L.length j) 25 g'∧z.2.1=hW1 (wU (dg L.length (ppT L s))++Z)) ?_ ?_ (fun e y he=>by cases he.1)
   ·refine Runs.seq (z9 hT (Z8T L.length C s _ i k _ g') ZyO) ?_ (fun e y he=>by cases he.1);rintro⟨t,hh,sc⟩ ⟨_,⟨g1,g2,e1⟩,e2⟩;simp only at e1 e2;subst e1 e2;exact Z5q hP hL rfl (by omega) _ _ _ g1 g2 sc
   ·rintro⟨t,hh,sc⟩ ⟨_,i,v,x,j,g1,g2,e1,e2⟩;simp only at e1 e2;subst e1 e2;exact hQ i v x j g1 g2 sc
 refine⟨fun hz=>key fun i v x j g g' sc=> ?_,fun hz hC hsm hZ=>key fun i v x j g g' sc=> ?_⟩
 ·refine (Zb hT (Z8W L.length C s _ i v x j _ g g') (Z4 (by rw[hz];rfl))).mono fun e z he=> ?_;obtain⟨rfl,⟨g1,z1⟩,z2⟩:=he;exact⟨.inr rfl,by rw[z1,z2];rfl,by rw[z2];rfl⟩
 ·have hQ:=Zav L.length;have hvb:=ZaL L hL;have hTb:0≤ppT L s/4294967296^L.length∧ppT L s/4294967296^L.length<4294967296:=by
   have h0:0≤ppT L s:=by unfold ppT;omega
   have h1:ppT L s<4294967296*4294967296^L.length:=by unfold ppT;omega
   exact⟨Int.ediv_nonneg h0 (by omega),Int.ediv_lt_of_lt_mul (by omega) h1⟩
  have ew:u32.wrap (ppT L s/4294967296^L.length)=ppT L s/4294967296^L.length:=by
   generalize ppT L s/4294967296^L.length=y at*;simp [IntKind.wrap,IntKind.bits,IntKind.signed];omega
  have hlen:(wU (dg L.length (ppT L s))).length=L.length:=by unfold wU;simp [ZS]
  have l1:Zgf tU (wU (dg L.length (ppT L s))++Z,tU) ([uu (u32.wrap (ppT L s/4294967296^L.length))],tU) L.length C 0 1=true:=by
   unfold Zgf;simp only[Xh,Bool.not_eq_true'];refine⟨⟨⟨⟨⟨⟨⟨⟨⟨⟨Nat.ble_eq_true_of_le (by rw[List.length_append,hlen];omega),Nat.ble_eq_true_of_le (by omega)⟩,by kernel_rfl⟩,hsm⟩,Nat.ble_eq_true_of_le (by omega)⟩,by kernel_rfl⟩,by kernel_rfl⟩,by kernel_rfl⟩,by rfl⟩,by rfl⟩,by rfl⟩
  refine (Zb hT (Z8X L.length C s _ i v x j _ g g') (Za l1 (Z4 (by simpa using hz)))).mono fun e z he=> ?_;obtain⟨rfl,⟨g1,z1⟩,z2⟩:=he;have e1:(wU (dg L.length (ppT L s))++Z).take L.length=wU (dg L.length (ppT L s)):=List.take_left' hlen;have e2:(wU (dg L.length (ppT L s))++Z).drop (L.length+1)=Z.drop 1:=by
   rw[← List.drop_drop,List.drop_left' hlen]
  rw[e1,e2,ew] at z2;exact⟨.inr rfl,by rw[z1,z2];rfl,by rw[z2];rfl⟩
theorem ZbH {T:Tab}{f:Nat}{F:Func}{c:Code}(hF:T.P.funcs[f]? =some F) (hc:F.body=some c) {vals:List Value}{v:Value}{h h':Hp}(hv:lt h.n v=true) (ht:h'.tight=true)
  (hr:Runs T c (vals++List.replicate (F.ntmps-vals.length) undef,h,[]) fun e y=>(e=none∨e=some none)∧ZV T.P F y.1 y.2.1=some v∧y.2.1.cut h.n=h') (m:Mp) (B:Nat) (w:World) (E:Emb m B h w) (hvals:∀ v∈vals,lt h.n v=true):
  Calls T.P f (vals.map (mv m)).toArray w fun e w'=>∃ m',e= .returned (mv m' v)∧Came m B h w v h' m' w':=by
 refine calls_of_wp hF hc ?_;have R:Rel m B (vals++List.replicate (F.ntmps-vals.length) undef,h,[]) {tmps:=(vals.map (mv m)).toArray++Array.replicate (F.ntmps-(vals.map (mv m)).toArray.size) undef,defers:=[]} w:=by
  refine⟨?_,rfl,E,?_⟩
  ·simp [zm]
  ·intro y hy;rcases List.mem_append.1 hy with hy | hy
   ·exact hvals y hy
   ·rw[List.eq_of_mem_replicate hy];simp [undef,lt]
 refine hr _ _ _ w R _ fun e y he a' w' hR=> ?_;obtain⟨hex,hres,hcut⟩:=he;obtain⟨m',k1,k2,k3,k4⟩:=hR;obtain⟨r1,r2⟩:=Zac k2.emb k2.wf hres;rw[← k2.tmps,ZhM k1 hv] at r1;have k4':h.n≤y.2.1.n:=k4;have C:Came m B h w v h' m w':=by
  subst hcut;exact⟨Agree.refl _ _,k2.emb.cut k1 k4' ht,k3,by simp [Hp.cut],by simpa [Hp.cut] using hv⟩
 have post:a'.defers=[]∧∃ v',(results F a'.tmps).run T.P w'= .ok v' w'∧∃ m',Ending.returned v'= .returned (mv m' v)∧Came m B h w v h' m' w':=
  ⟨k2.dfr,_,r1,m,rfl,C⟩
 rcases hex with rfl | rfl<;>exact post
def ppQ (S:List Value) (n:Nat) (b:ByteArray):Int:=ppT (Zx S 0 n) b/4294967296^n
def ZyT (S:List Value) (t:TypeId) (n c:Nat) (b:ByteArray):Log:=[(Nat.beq t tU,true),(Z6 t S 0 n c,true),(decide (¬ ixV b≥0),true),(Nat.ble b.size 9 && Nat.blt n 1073741824,true)]
def gPp:Zad:=fun vals h s=>
 match vals,h,s with
 | [.slice (some ⟨0,0,none⟩) n c,.string b],⟨1,[(S,t)]⟩,.inr (.inr (.inr (.inl d)))::s'=>
  match d with
  | false=>some (sl 0 0 n c,⟨1,[(wU (dg n (ppT (Zx S 0 n) b))++S.drop n,tU)]⟩,s',(decide (ppQ S n b=0),true)::ZyT S t n c b)
  | true=>some (sl 0 0 (n+1) c,⟨1,[(wU (dg n (ppT (Zx S 0 n) b))++[uu (ppQ S n b)]++S.drop (n+1),tU)]⟩,s',(decide (ppQ S n b≠0),true)::(Nat.blt n c && Nat.blt n S.length,true)::ZyT S t n c b)
 | _,_,_=>none
theorem Zmk {S:List Value}{t:TypeId}{n c:Nat}{b:ByteArray}(h:Z3 (ZyT S t n c b)):t=tU∧Row S 0 (Zx S 0 n)∧(Zx S 0 n).length=n∧ZA c=true∧(∀ v∈S,still v=true)∧ZoC b∧b.size≤9∧n<1073741824∧S=wU (Zx S 0 n)++S.drop n:=by
 obtain⟨l1,q⟩:=ZoD h;obtain⟨l2,q⟩:=ZoD q;obtain⟨l3,q⟩:=ZoD q;obtain⟨l4,_⟩:=ZoD q;have l1:=Xj l1;obtain⟨a1,a2,a3,a4,a5,a6,a7⟩:=ZH l2;simp only[Xh] at l4;refine⟨l1,a1,a2,a4,a7,(ZbD b).1 (Xc l3),Nat.le_of_ble_eq_true l4.1,Zo.1 l4.2,?_⟩;have h1:=a1.cut;rw[a2] at h1;rw[← h1];unfold Zce;simp
theorem Z0q:Z8 111 gPp:=by
 intro vals h s v h' s' lg hg hl m B w E hv;unfold gPp at hg;split at hg
 ·rename_i n c b S t d s2;split at hg
  ·cases hg;obtain⟨l1,q⟩:=ZoD hl;obtain⟨rfl,a1,a2,a4,a7,hd,h9,hn,eS⟩:=Zmk q;have hz:=Xc l1;have hst:∀ v∈S.drop n,lt1 1 v=true:=fun v hv=>zg (by omega) (a7 v (List.mem_of_mem_drop hv));have r:=(Zmj (C:=c) hd h9 (L:=Zx S 0 n) a1.rng (by omega) (Z:=S.drop n)).1 (by rw[a2];exact hz);rw[a2,← eS] at r;have ht:(hW1 (wU (dg n (ppT (Zx S 0 n) b))++S.drop n)).tight=true:=by
    unfold Hp.tight hW1;simp only[List.all_cons,List.all_nil,List.all_append,Bool.and_true,Xh];exact⟨Zbo _ _,List.all_eq_true.2 hst⟩
   exact ZbH (T:=Zk prog Zf Zn true) func111 Ziu (vals:=[sl 0 0 n c,.string b]) (h:=hW1 S) (by rfl) ht r m B w E hv
  ·cases hg;obtain⟨l1,q⟩:=ZoD hl;obtain⟨l0,q⟩:=ZoD q;obtain⟨rfl,a1,a2,a4,a7,hd,h9,hn,eS⟩:=Zmk q;simp only[Xh] at l0;have hc:=Zo.1 l0.1;have hS:=Zo.1 l0.2;have hz:=Xc l1;have r:=(Zmj (C:=c) hd h9 (L:=Zx S 0 n) a1.rng (by omega) (Z:=S.drop n)).2 (by rw[a2];exact hz) (by omega) a4 (by rw[List.length_drop];omega);rw[a2,← eS,List.drop_drop] at r;have ht:(hW1 (wU (dg n (ppT (Zx S 0 n) b))++[uu (ppQ S n b)]++S.drop (n+1))).tight=true:=by
    unfold Hp.tight hW1;simp only[List.all_cons,List.all_nil,List.all_append,Bool.and_true,Xh];exact⟨⟨Zbo _ _,rfl⟩,List.all_eq_true.2 fun v hv=>zg (by omega) (a7 v (List.mem_of_mem_drop hv))⟩
   exact ZbH (T:=Zk prog Zf Zn true) func111 Ziu (vals:=[sl 0 0 n c,.string b]) (h:=hW1 S) (by rfl) ht r m B w E hv
 ·cases hg
def Zei:Con:=alt 110 gCf Zn
theorem Zqe:ConOk Zei:=Z9 func110 rfl ZzU Zd
def Zml:Hc:=zS 111 gPp (zS 112 Zgm hcN)
theorem ZuS:HcOk Zml:=Z1 func111 rfl Z0q (Z1 func112 rfl ZbT Zam)
theorem Zhs:TabOk (Zr prog Zf Zei Zml):=Zh Zqe ZuS
def qC9 (F:Func):Nat→Code
 | 0=>Zs F
 | n+1=>Zz (qC9 F n)
def qP9 (F:Func):List Code:=[Z2 (qC9 F 0),Z2 (qC9 F 1),Z2 (qC9 F 2),Z2 (qC9 F 3),Z2 (qC9 F 4)]
def qL9 (F:Func):Code:=cIn (cIn (Z2 (qC9 F 5)))
def qE9 (F:Func):Code:=qC9 F 6
theorem ZuT:f75.body=some (ZW (qP9 f75) (.seq (.block 0 (.loop (qL9 f75))) (qE9 f75))):=by kernel_rfl
def ZuU (s:ByteArray):Int:=(i64.wrap (i64.wrap ((s.size:Int).tdiv 9)+1))
def qF9 (s:Value) (w v:Value):List Value:=[s,undef,Zp,.nilIface,fO,w,v]
def eqN (s:ByteArray):Bool:=s==(⟨⟨[]⟩⟩:ByteArray)
theorem Z0r (s:ByteArray):Zg (evL (Zr prog Zf Zei Zml) 100 (qP9 f75) ([.string s]++List.replicate 40 undef,⟨0,[]⟩,[sam false,cmp false,cmp false,at_]) ⟨[],[],[]⟩) 7 34 none (qF9 (.string s) (sl 0 0 0 (ZuU s).toNat) undef) (hW1 (List.replicate (ZuU s).toNat (.int .u32 0))) [(ZI 4 0 (ZuU s),true),(decide ((s.size:Int)>20000),false),(decide (ixV s≥0),false),(true,true),(eqN s,false)]:=by and_intros<;>kernel_rfl
theorem Z9a (s:ByteArray):Z7 (Zm (Zr prog Zf Zei Zml) 100 75 [.string s] [sam true]) (.tuple #[Zp,Zcu 3]) [(eqN s,true)]:=by and_intros<;>kernel_rfl
theorem Z9b (s:ByteArray):Z7 (Zm (Zr prog Zf Zei Zml) 100 75 [.string s] [sam false,cmp true]) (.tuple #[Zp,Zcu 3]) [(decide (ixV s≥0),true),(true,true),(eqN s,false)]:=by and_intros<;>kernel_rfl
def enP (l:List UInt8):Int:=i64.wrap ((i64.wrap ((l.length:Int)-1)).tmod 9+1)
theorem Z5r (l:List UInt8) (d:Bool) (n C:Nat) (v:Value) (S:List Value) (g:Nat→Value):Zg (evC (Zr prog Zf Zei Zml) 100 false (qL9 f75) (qF9 (bS l) (sl 0 0 n C) v++tl 34 g,hW1 S,[sam true,sam true,cmp d,sam true]) ⟨[],[],[]⟩) 7 34 none (qF9 (bS (l.drop (enP l).toNat)) (sl 0 0 (match d with | true=>n+1 | false=>n) C) (.int .i64 (enP l))) (match d with | true=>hW1 (wU (dg n (ppT (Zx S 0 n) ⟨⟨l.take (enP l).toNat⟩⟩))++[uu (ppQ S n ⟨⟨l.take (enP l).toNat⟩⟩)]++S.drop (n+1)) | false=>hW1 (wU (dg n (ppT (Zx S 0 n) ⟨⟨l.take (enP l).toNat⟩⟩))++S.drop n))
  ((decide (0≤enP l∧enP l≤(l.length:Nat)),true)::(match d with | true=>(decide (ppQ S n ⟨⟨l.take (enP l).toNat⟩⟩≠0),true)::(Nat.blt n C && Nat.blt n S.length,true)::ZyT S tU n C ⟨⟨l.take (enP l).toNat⟩⟩ | false=>(decide (ppQ S n ⟨⟨l.take (enP l).toNat⟩⟩=0),true)::ZyT S tU n C ⟨⟨l.take (enP l).toNat⟩⟩)++[(decide (0≤enP l∧enP l≤(l.length:Nat)),true),(!(eqN ⟨⟨l⟩⟩),true)]):=by
 cases d<;>exact by and_intros<;>kernel_rfl
theorem Z0s (w v:Value) (h:Hp) (g:Nat→Value):Zg (evC (Zr prog Zf Zei Zml) 100 false (qL9 f75) (qF9 (bS []) w v++tl 34 g,h,[sam false]) ⟨[],[],[]⟩) 7 34 (some (some 0)) (qF9 (bS []) w v) h [(!(eqN ⟨⟨[]⟩⟩),false)]:=by and_intros<;>kernel_rfl
theorem Z0t (s v:Value) (n C:Nat) (S:List Value) (g:Nat→Value):Zg (evC (Zr prog Zf Zei Zml) 100 false (qE9 f75) (qF9 s (sl 0 0 n C) v++tl 34 g,hW1 S,[]) ⟨[],[],[]⟩) 4 37 (some none) [s,undef,sl 0 0 (Zl (Zx S 0 n)) C,.nilIface] (hW1 S) [(Z6 tU S 0 n C,true)]:=by and_intros<;>kernel_rfl
end Go.Proofs.YtjlponbdflkbjaaGreatDoor.Na
namespace Go.Nt
theorem Zdh:∀ (m k:Nat) (V:Int),dg (m+k) V=dg m V++dg k (V/4294967296^m)
 | 0,k,V=>by simp [dg]
 | m+1,k,V=>by
  rw[show m+1+k=(m+k)+1 by omega];show V % 4294967296::dg (m+k) (V/4294967296)=(V % 4294967296::dg m (V/4294967296))++dg k (V/4294967296^(m+1));rw[Zdh m k,List.cons_append,Int.ediv_ediv_of_nonneg (by omega),pw]
theorem Zmm (m k:Nat) (V:Int):(dg (m+k) V).drop m=dg k (V/4294967296^m):=by
 rw[Zdh,List.drop_left' (ZS _ _)]
theorem Zmn (m k:Nat) (V:Int):(dg (m+k) V).take m=dg m V:=by
 rw[Zdh,List.take_left' (ZS _ _)]
theorem Ziv (m:Nat):(4294967296:Int)^m=((4294967296^m:Nat):Int):=by rw[Int.natCast_pow];rfl
theorem Z0u (V:Nat):dg (db 4294967296 V).length (V:Int)=db 4294967296 V:=by
 have hw:wds (db 4294967296 V):=fun x hx=>by
  have:=Zfx (b:=4294967296) (by omega) V x hx;exact⟨this.1,by have:=this.2;omega⟩
 have h:=Zfw (db 4294967296 V) hw;rw[Zhm hw,ZbC (by omega)] at h;exact h
theorem ZsV (V:Nat):V<4294967296^(db 4294967296 V).length:=by
 have h:=Zbl (b:=4294967296) (by omega) (db 4294967296 V) (Zfx (by omega) V)
 rwa [ZbC (by omega)] at h
theorem Zck {V k:Nat}:(db 4294967296 V).length≤k↔V<4294967296^k:=
 ⟨fun h=>Nat.lt_of_lt_of_le (ZsV V) (Nat.pow_le_pow_right (by omega) h),fun h=>ZaZ (by omega) k V h⟩
theorem Z0v {V P C:Nat}(hP:P<1000000000) (hC:V*1000000000+P<4294967296^C):
  let n:=(db 4294967296 V).length
  let V':=V*1000000000+P
  (dg C (V:Int)).take n=db 4294967296 V∧n≤C∧
  (((V':Nat):Int)/4294967296^n=0→dg n ((V':Nat):Int)++(dg C (V:Int)).drop n=dg C ((V':Nat):Int)∧(db 4294967296 V').length=n)∧
  (((V':Nat):Int)/4294967296^n≠0→n<C∧dg n ((V':Nat):Int)++[((V':Nat):Int)/4294967296^n]++(dg C (V:Int)).drop (n+1)=dg C ((V':Nat):Int)∧(db 4294967296 V').length=n+1):=by
 intro n V';have hV:=ZsV V;have hVC:V<4294967296^C:=Nat.lt_of_le_of_lt (by omega) hC;have hn:n≤C:=Zck.2 hVC;obtain⟨k,hk⟩:∃ k,C=n+k:=⟨C-n,by omega⟩;have hz:(V:Int)/4294967296^n=0:=by
  rw[Ziv];exact Int.ediv_eq_zero_of_lt (by omega) (by exact_mod_cast hV)
 have hq:((V':Nat):Int)/4294967296^n=((V'/4294967296^n:Nat):Int):=by rw[Ziv];rfl
 have h0:n=0→V=0:=fun h=>by
  rw[show (db 4294967296 V).length=0 from h,Nat.pow_zero] at hV;omega
 have ge:n≤(db 4294967296 V').length:=by
  rcases Nat.lt_or_ge (db 4294967296 V').length n with h | h
  ·exfalso
   have h1:V'<4294967296^(n-1):=Zck.1 (by omega);have h2:(db 4294967296 V).length≤n-1:=Zck.2 (by omega);have:n≤n-1:=h2;omega
  ·exact h
 refine⟨?_,hn,fun h=> ?_,fun h=> ?_⟩
 ·rw[hk,Zmn];exact Z0u V
 ·rw[hk,Zmm,hz,Zdh,h];refine⟨rfl,?_⟩;rw[hq] at h;have h1:V'/4294967296^n=0:=Int.ofNat.inj h;have h2:V'<4294967296^n:=by
   rcases Nat.lt_or_ge V' (4294967296^n) with h3 | h3
   ·exact h3
   ·have:=Nat.div_pos h3 (Nat.pow_pos (by omega));omega
  have:=Zck.2 h2;omega
 ·rw[hq] at h;have hqp:0<V'/4294967296^n:=Nat.pos_of_ne_zero fun h'=>h (by rw[h'];rfl);have hge:4294967296^n≤V':=by
   rcases Nat.lt_or_ge V' (4294967296^n) with h3 | h3
   ·rw[Nat.div_eq_of_lt h3] at hqp;omega
   ·exact h3
  have hlt:V'<4294967296^(n+1):=by
   rw[Nat.pow_succ];have:V<4294967296^n:=hV;show V*1000000000+P<_;omega
  have hnC:n<C:=by
   rcases Nat.lt_or_ge n C with h3 | h3
   ·exact h3
   ·have:(4294967296:Nat)^C≤4294967296^n:=Nat.pow_le_pow_right (by omega) h3;have hC':V'<4294967296^C:=hC;omega
  obtain⟨j,hj⟩:∃ j,k=j+1:=⟨k-1,by omega⟩;have hqB:V'/4294967296^n<4294967296:=by
   rw[Nat.pow_succ] at hlt;exact Nat.div_lt_of_lt_mul hlt
  refine⟨hnC,?_,?_⟩
  ·have hz1:(V:Int)/4294967296^(n+1)=0:=by
    rw[Ziv];have:V<4294967296^(n+1):=Nat.lt_of_lt_of_le hV (Nat.pow_le_pow_right (by omega) (by omega));exact Int.ediv_eq_zero_of_lt (by omega) (by exact_mod_cast this)
   have hz2:((V':Nat):Int)/4294967296^(n+1)=0:=by
    rw[Ziv];exact Int.ediv_eq_zero_of_lt (by omega) (by exact_mod_cast hlt)
   rw[hk,hj,show n+(j+1)=(n+1)+j by omega,Zmm,hz1,Zdh (n+1) j,hz2,Zdh n 1,hq];show dg n _++[_]++dg j 0=dg n _++[((V'/4294967296^n:Nat):Int) % 4294967296]++dg j 0;rw[Int.emod_eq_of_lt (by omega) (by omega)]
  ·have h1:=Zck.2 hlt;rcases Nat.lt_or_ge n (db 4294967296 V').length with h3 | h3
   ·omega
   ·have:=Zck.1 h3;omega
theorem Zej {f g:Nat→Int}:∀ k,(∀ j,j<k→f j=g j)→zC f k=zC g k
 | 0,_=>rfl
 | k+1,h=>by
  simp only[zC];rw[Zej k (fun j hj=>h j (by omega)),h k (by omega)]
theorem Zmo {m C:Nat}(h:m≤9*C):(10:Nat)^m≤4294967296^C:=by
 have h1:(10:Nat)^m≤10^(9*C):=Nat.pow_le_pow_right (by omega) h;have h2:(10:Nat)^(9*C)≤4294967296^C:=by
  rw[Nat.pow_mul];exact Nat.pow_le_pow_left (by decide) C
 omega
end Go.Nt
