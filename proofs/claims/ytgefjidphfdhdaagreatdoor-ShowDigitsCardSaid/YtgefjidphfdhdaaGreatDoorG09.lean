/-
  ConNN, ConNO, ConNE, NumR, ConNF, ConNP, NumS, NumI, ConVG, ConVH, ConVU, SlM, ConO1
-/
import Derived.Test.YtgefjidphfdhdaaGreatDoorG08
namespace Go.Proofs.YtgefjidphfdhdaaGreatDoor.Na
open Go.Proofs.Tryz
open Go.IntKind
open Go.KRun Go.Nt
set_option maxRecDepth 100000
set_option linter.unusedVariables false
theorem ZdG {F:List Value}{o:Nat}(hF:F.length=o) (dx:List Int) (x:Int) (px:List Int) (R:List Value):(F++(wU (dx++x::px)++R))[o+dx.length]? =some (uu x):=by
 rw[← List.append_assoc,List.getElem?_append_left (by unfold wU;simp;omega)];exact Zsn hF dx x px
theorem ZdH {F:List Value}{o:Nat}(hF:F.length=o) (dx:List Int) (x d:Int) (px:List Int) (R:List Value):(F++(wU (dx++x::px)++R)).set (o+dx.length) (uu d)=F++(wU ((dx++[d])++px)++R):=by
 rw[← List.append_assoc,List.set_append_left _ _ (by unfold wU;simp;omega),Zso hF,List.append_assoc]
def tmR (M B:List Int) (x:Int):List Int:=dg M.length (vN M+x*vN B)
def tmC (M B:List Int) (x:Int):Int:=(vN M+x*vN B)/4294967296^M.length
theorem Zua {F R la lb:List Value}{o c o' c':Nat}{M LB:List Int}{x:Int}(hF:F.length=o) (hM:wds M) (RB:Row lb o' LB) (hl:M.length=LB.length) (hN:M.length<1099511627776) (hx:0≤x∧x<4294967296) (hc:M.length≤c) (hs:ZE c=true):
  Runs (Zo prog Zg Zn true) (zo (tmP f170) (.seq (.seq (Z1 (tmB f170)) (.block 0 (.loop (tmL f170)))) (tmE f170))) ([sl 2 o M.length c,sl 1 o' M.length c',uu x]++List.replicate 41 undef,h3 la lb (F++(wU M++R)),[]) fun e y=>(e=none∨e=some none)∧zd prog f170 y.1 y.2.1=some (uu (tmC M LB x))∧y.2.1.cut 3=h3 la lb (F++(wU (tmR M LB x)++R)):=by
 have hwB:=RB.rng;have hcs:c<4611686018427387904:=Zk.1 hs;refine Z4 (Zl Ze) (ZyB o M.length c o' c' x _ la lb) (Zi hs (Zi (by unfold ZZ;exact Xa (by omega)) (Zv (Xb (by omega))))) fun g=> ?_;refine Runs.seq (P1:=fun e' y=>e'=none∧∃ (k j:Int) (v8 v9 u1 u2 u3 u4:Value) (g:Nat→Value),y.1=tmF o M.length c o' c' x k v8 v9 u1 u2 u3 u4 j++tl 27 g∧(0≤k∧k<4294967296)∧k=tmC M LB x∧y.2.1=h3 la lb (F++(wU (tmR M LB x)++R))) ?_ ?_ (fun e y he=>by cases he.1)
 ·refine Runs.seq (P1:=fun e' y=>e'=none∧(∃ g,y.1=tmF o M.length c o' c' x 0 undef undef (sl 2 o M.length c) (sl 1 o' M.length c') (i6' M.length) (sl 2 o M.length c) 0++tl 27 g)∧y.2.1=h3 la lb (F++(wU M++R))) (Zb (Zl Ze) (Z3w o M.length c o' c' x _ la lb g) (fun x hx=>by cases hx)) ?_ (fun e y he=>by cases he.1);rintro⟨t,h',s'⟩ ⟨_,⟨g1,ht⟩,hh⟩;simp only at ht hh;subst ht hh;refine (Runs.forLoop (R:=fun _=>False) (P:=fun y=>∃ (k j:Int) (v8 v9 u1 u2 u3 u4:Value) (g:Nat→Value),y.1=tmF o M.length c o' c' x k v8 v9 u1 u2 u3 u4 j++tl 27 g∧(0≤k∧k<4294967296)∧k=tmC M LB x∧y.2.1=h3 la lb (F++(wU (tmR M LB x)++R)))
   (fun r y=>∃ (dx px bx:List Int) (k:Int) (v8 v9 u1 u2 u3 u4:Value) (g:Nat→Value),px.length=r∧dx.length+px.length=M.length∧wds dx∧wds px∧bx=LB.drop dx.length∧(0≤k∧k<4294967296)∧y.1=tmF o M.length c o' c' x k v8 v9 u1 u2 u3 u4 dx.length++tl 27 g∧y.2.1=h3 la lb (F++(wU (dx++px)++R))∧vN dx+4294967296^dx.length*(vN px+x*vN bx+k)=vN M+x*vN LB)
   ?_ (n:=M.length) ⟨[],M,LB,0,undef,undef,_,_,_,_,g1,rfl,by simp,(fun x hx=>by cases hx),hM,rfl,by omega,rfl,rfl,by simp [vN]⟩).mono fun e' y he=> ?_
  ·rintro r ⟨t,h',s'⟩ ⟨dx,px,bx,k,v8,v9,u1,u2,u3,u4,g,hr,hlen,wd1,wd2,hb,hk,ht,hh,hv⟩;simp only at ht hh;subst ht hh
   match px,hr,hlen,wd2,hv with
   | [],hr,hlen,wd2,hv=>
    have hl':dx.length=M.length:=by simpa using hlen
    refine (Zb (Zl Ze) (ZyC o M.length c o' c' x k dx.length v8 v9 u1 u2 u3 u4 _ la lb g) (Zv (Xb (by omega)))).mono fun e' y he=> ?_;obtain⟨rfl,⟨g1,e2⟩,e3⟩:=he;have hbx:bx=[]:=by rw[hb,List.drop_eq_nil_of_le (by omega)]
    subst hbx;simp only[vN] at hv;rw[Int.mul_zero,Int.zero_add,Int.zero_add] at hv;have hbd:=ZaM dx wd1;refine⟨rfl,k,dx.length,v8,v9,u1,u2,u3,u4,g1,e2,hk,?_,?_⟩
    ·unfold tmC;rw[← hv,← hl',Int.add_mul_ediv_left _ _ (by have:=Za0 dx.length;omega),Int.ediv_eq_zero_of_lt hbd.1 hbd.2,Int.zero_add]
    ·unfold tmR;rw[e3,← hv,← hl',ZcP,ZfI dx wd1,List.append_nil]
   | z::px,hr,hlen,wd2,hv=>
    obtain⟨wz,wd2⟩:=Zal wd2;have hl':dx.length<M.length:=by simp at hlen;omega
    have hy:=RB.cell (k:=dx.length) (by omega);have hyr:=hwB (LB.getD dx.length 0) (by
     have hk':dx.length<LB.length:=by omega
     simp [List.getD,List.getElem?_eq_getElem hk'])
    have hbx:bx=LB.getD dx.length 0::LB.drop (dx.length+1):=by
     have hk':dx.length<LB.length:=by omega
     rw[hb,List.drop_eq_getElem_cons hk'];simp [List.getD,List.getElem?_eq_getElem hk']
    generalize LB.getD dx.length 0=yv at*;obtain⟨k1,k2,k3⟩:=ZtY hk hx hyr wz;have cS:=ZdG hF dx z px R;have lS:o+dx.length<(F++(wU (dx++z::px)++R)).length:=(List.getElem?_eq_some_iff.1 cS).1;have l1:decide (o+((dx.length:Int)).toNat*1<(F++(wU (dx++z::px)++R)).length)=true:=by
     rw[Xg,Nat.mul_one];exact Xa lS
    have l2:(inR dx.length M.length).1=(inR dx.length M.length).2:=Xa (by omega);refine (Zb (Zl Ze) (Z3x o M.length c o' c' x k dx.length yv z v8 v9 u1 u2 u3 u4 _ la lb g) (Zi (by decide) (Zi l1 (Zi l2 (Zi (Zae cS) (Zi l2 (Zi (Zae hy) (Zi l2 (Zv (Xa (by omega))))))))))).mono fun e' y he=> ?_;obtain⟨rfl,⟨g1,e2⟩,e3⟩:=he;refine⟨px.length,by simp at hr;omega,dx++[tD k x yv z],px,LB.drop (dx.length+1),tC k x yv z,i6' dx.length,uu yv,u1,u2,u3,u4,g1,rfl,by simp at hlen ⊢;omega,zY wd1 (fun u hu=>by rw[List.mem_singleton.1 hu];exact k1),wd2,by simp,k2,?_,?_,?_⟩
    ·rw[e2,Zw (by omega) (by omega)];simp
    ·rw[e3,Xg,Nat.mul_one,ZdH hF]
    ·rw[hbx] at hv;simp only[vN] at hv;rw[zp,List.length_append,List.length_singleton,pw];exact ZtW k3 hv
  ·match e',he with
   | none,he=>exact⟨rfl,he⟩
   | some none,he=>exact he.elim
   | some (some _),he=>exact he.elim
 ·rintro⟨t,h',s'⟩ ⟨_,k,j,v8,v9,u1,u2,u3,u4,g,ht,hk,hkv,hh⟩;simp only at ht hh;subst ht hh;refine (Zb (Zl Ze) (ZyD o M.length c o' c' x k j v8 v9 u1 u2 u3 u4 _ g) (fun x hx=>by cases hx)).mono fun e' y he=> ?_;obtain⟨rfl,⟨g1,e2⟩,e3⟩:=he;have ek:u32.wrap k=tmC M LB x:=by rw[Zg7,Int.emod_eq_of_lt hk.1 hk.2,hkv]
  rw[ek] at e2;refine⟨.inr rfl,?_,?_⟩
  ·rw[e2,e3];rfl
  ·rw[e3];rfl
def tmS (S:List Value) (o n:Nat) (L:List Int):List Value:=S.take o++(wU L++S.drop (o+n))
def ZyE (S lb la:List Value) (t t' t'':TypeId) (o n c o' n' c':Nat) (x:Int):Bool:=Nat.beq t tU && Nat.beq t' tR && Nat.beq t'' tR && Z0 t S o n c && Z0 t' lb o' n' c' && Nat.beq n n' && Nat.blt n 1099511627776 && la.all still && decide (0≤x∧x<4294967296)
def Z3y:Zag:=fun vals h s=>
 match vals,h with
 | [.slice (some ⟨2,o,none⟩) n c,.slice (some ⟨1,o',none⟩) n' c',.int .u32 x],⟨3,[(S,t),(lb,t'),(la,t'')]⟩=>some (uu (tmC (Zx S o n) (Zx lb o' n') x),⟨3,[(tmS S o n (tmR (Zx S o n) (Zx lb o' n') x),tU),(lb,tR),(la,tR)]⟩,s,[(ZyE S lb la t t' t'' o n c o' n' c' x,true)])
 | _,_=>none
theorem Zub:Z8 170 Z3y:=by
 intro vals h s v h' s' lg hg hl m B w E hv;unfold Z3y at hg;split at hg
 ·rename_i o n c o' n' c' x S t lb t' la t'';cases hg;have q:=hl _ Xf;unfold ZyE at q;simp only[Xh,Xi] at q;obtain⟨⟨⟨⟨⟨⟨⟨⟨q1,q2⟩,q3⟩,ra⟩,rb⟩,qn⟩,qN⟩,q5⟩,q6⟩:=q;have q1:=Xj q1;have q2:=Xj q2;have q3:=Xj q3;have qn:=Xj qn;have qN:n<1099511627776:=Zk.1 qN;subst q1 q2 q3 qn;obtain⟨a1,a2,a3,a4,a5,a6,a7⟩:=ZC ra;obtain⟨b1,b2,b3,b4,b5,b6,b7⟩:=ZC rb;have eS:S=S.take o++(wU (Zx S o n)++S.drop (o+n)):=by
   have h1:=a1.cut;rw[a2] at h1;rw[← h1];unfold Zbp;rw[← List.drop_drop,List.take_append_drop,List.take_append_drop]
  have hF:(S.take o).length=o:=by
   have:=a1.len;simp;omega
  have r:=Zua (R:=S.drop (o+n)) (la:=la) (c:=c) (c':=c') hF a1.rng b1 (by rw[a2,b2]) (by rw[a2];exact qN) q6 (by rw[a2];exact a3) a4;rw[a2,← eS] at r;have ht:(Hp.tight ⟨3,[(tmS S o n (tmR (Zx S o n) (Zx lb o' n) x),tU),(lb,tR),(la,tR)]⟩)=true:=by
   unfold Hp.tight tmS;simp only[List.all_cons,List.all_nil,List.all_append,Bool.and_true,Xh];refine⟨⟨?_,ZbB _ _,?_⟩,ZU (by omega) (List.all_eq_true.2 b7),ZU (by omega) q5⟩
   ·rw[List.all_eq_true];exact fun v hv=>zv (by omega) (a7 v (List.mem_of_mem_take hv))
   ·rw[List.all_eq_true];exact fun v hv=>zv (by omega) (a7 v (List.mem_of_mem_drop hv))
  exact ZM (T:=Zo prog Zg Zn true) func170 ZtZ (vals:=[sl 2 o n c,sl 1 o' n c',uu x]) (v:=uu (tmC (Zx S o n) (Zx lb o' n) x)) (h:=h3 la lb S) (by rfl) ht r m B w E hv
 ·cases hg
def hcM:Hc:=zx 170 Z3y (zx 131 ZfE hcN)
theorem ZlD:HcOk hcM:=Zt func170 rfl Zub (Zt func131 rfl Zb9 zw)
def pdP (F:Func):List Code:=[Z1 (sn 0 F),Z1 (sn 1 F),Z1 (sn 2 F),Z1 (sn 3 F)]
def pdL (F:Func):Code:=cIn (cIn (Zz (Z1 (sn 4 F))))
def pdF (o n c o' n' c' z:Nat) (v7 v8:Value):List Value:=[sl 0 o n c,sl 1 o' n' c',undef,undef,Zs,.nilIface,sl 2 0 z z,v7,v8]
theorem Zuc:f127.body=some (zo (pdP f127) (.seq (.seq (Z1 (Z1 (sn 4 f127))) (.block 0 (.loop (pdL f127)))) (Zz (sn 4 f127)))):=by kernel_rfl
def pZ (n n':Nat):Int:=i64.wrap ((n:Int)+(n':Int))
theorem ZyF (o n c o' n' c':Nat) (la lb:List Value):Zh (evL (Zm prog Zg Zn hcM) 100 (pdP f127) ([sl 0 o n c,sl 1 o' n' c']++List.replicate 57 undef,h2 la lb,[cmp false,cmp false,cmp false,at_]) ⟨[],[],[]⟩) 9 50 none (pdF o n c o' n' c' (pZ n n').toNat undef undef) (h3 la lb (List.replicate (pZ n n').toNat (uu 0))) [(ZJ 4 (pZ n n') (pZ n n'),true),(decide (i64.wrap (pZ n n'-1)>8192),false),((n':Int)==0,false),((n:Int)==0,false)]:=by and_intros<;>kernel_rfl
theorem Z6v (o n c o' n' c' z:Nat) (v7 v8:Value) (la lb S:List Value) (g:Nat→Value):ZfH (evC (Zm prog Zg Zn hcM) 100 false (Z1 (Z1 (sn 4 f127))) (pdF o n c o' n' c' z v7 v8++tl 50 g,h3 la lb S,[]) ⟨[],[],[]⟩) 9 22 3 25 none (pdF o n c o' n' c' z v7 v8) [sl 0 o n c,i6' n,i6' 0] (h3 la lb S) []:=by and_intros<;>kernel_rfl
theorem ZyG (o n c o' n' c' z:Nat) (j:Int) (v7 v8:Value) (la lb S:List Value) (g g':Nat→Value):ZfH (evC (Zm prog Zg Zn hcM) 100 false (pdL f127) (ml (pdF o n c o' n' c' z v7 v8) 22 g [sl 0 o n c,i6' n,i6' j] 25 g',h3 la lb S,[cmp false]) ⟨[],[],[]⟩) 9 22 3 25 (some (some 0)) (pdF o n c o' n' c' z v7 v8) [sl 0 o n c,i6' n,i6' j] (h3 la lb S) [(decide (j<n),false)]:=by and_intros<;>kernel_rfl
def pJ (j:Int):Nat:=0+j.toNat*1
def pK (j:Int) (n':Nat):Int:=i64.wrap (j+n')
def pLn (j:Int) (n':Nat):Nat:=(pK j n').toNat-j.toNat
def pS (S lb:List Value) (o' n':Nat) (j x:Int):List Value:=tmS S (pJ j) (pLn j n') (tmR (Zx S (pJ j) (pLn j n')) (Zx lb o' n') x)
def pC (S lb:List Value) (o' n':Nat) (j x:Int):Int:=tmC (Zx S (pJ j) (pLn j n')) (Zx lb o' n') x
theorem Z3z (o n c o' n' c' z:Nat) (j x:Int) (v7 v8:Value) (la lb S:List Value) (g g':Nat→Value):ZfH (evC (Zm prog Zg Zn hcM) 100 false (pdL f127) (ml (pdF o n c o' n' c' z v7 v8) 22 g [sl 0 o n c,i6' n,i6' j] 25 g',h3 la lb S,[cmp true,at_,val (uu x),num 0,at_,at_]) ⟨[],[],[]⟩) 9 22 3 25 none (pdF o n c o' n' c' z (i6' j) (uu x)) [sl 0 o n c,i6' n,i6' (i64.wrap (j+1))]
  (h3 la lb ((pS S lb o' n' j x).set (0+(pK j n').toNat*1) (uu (pC S lb o' n' j x))))
  [(decide (0+(pK j n').toNat*1<(pS S lb o' n' j x).length),true),inR (pK j n') z,(ZyE S lb la tU tR tR (pJ j) (pLn j n') (z-j.toNat) o' n' c' x,true),(ZE z,true),(ZZ j (pK j n') z z,true),(decide ((z:Int)=j∧j≠0),false),ZbG la o j x,inR j n,(decide (j<n),true)]:=by and_intros<;>kernel_rfl
theorem ZyH (o n c o' n' c' z:Nat) (v7 v8 u1 u2 u3:Value) (la lb S:List Value) (g g':Nat→Value):Zh (evC (Zm prog Zg Zn hcM) 100 false (Zz (sn 4 f127)) (ml (pdF o n c o' n' c' z v7 v8) 22 g [u1,u2,u3] 25 g',h3 la lb S,[cmp false]) ⟨[],[],[]⟩) 6 53 (some none) [sl 0 o n c,sl 1 o' n' c',undef,undef,sl 2 0 (Zc (Zx S 0 z)) z,.nilIface] (h3 la lb S) [(decide ((Zc (Zx S 0 z):Int)>8192),false),(Z0 tU S 0 z z,true)]:=by and_intros<;>kernel_rfl
theorem Z30 (p q:Option Addr) (n c n' c':Nat) (h:Hp):Zh (evC (Zm prog Zg Zn hcM) 100 false (Zq f127) ([.slice p n c,.slice q n' c']++List.replicate 57 undef,h,[cmp true]) ⟨[],[],[]⟩) 6 53 (some none) [.slice p n c,.slice q n' c',undef,undef,Zs,.nilIface] h [((n:Int)==0,true)]:=by and_intros<;>kernel_rfl
theorem Z31 (p q:Option Addr) (n c n' c':Nat) (h:Hp):Zh (evC (Zm prog Zg Zn hcM) 100 false (Zq f127) ([.slice p n c,.slice q n' c']++List.replicate 57 undef,h,[cmp false,cmp true]) ⟨[],[],[]⟩) 6 53 (some none) [.slice p n c,.slice q n' c',undef,undef,Zs,.nilIface] h [((n':Int)==0,true),((n:Int)==0,false)]:=by and_intros<;>kernel_rfl
theorem ZhY:f127.body=some (Zq f127):=by kernel_rfl
end Go.Proofs.YtgefjidphfdhdaaGreatDoor.Na
namespace Go.Proofs.YtgefjidphfdhdaaGreatDoor.Na
open Go.Proofs.Tryz
open Go.IntKind
open Go.KRun Go.Nt
set_option maxRecDepth 100000
def hcS:Hc:=zx 128 ZxZ (zx 129 Z3t (zx 130 Z3u (zx 131 ZfE hcN)))
theorem ZhZ:HcOk hcS:=Zt func128 rfl ZeF (Zt func129 rfl ZtU (Zt func130 rfl ZtV (Zt func131 rfl Zb9 zw)))
def skI (k:Int):Int:=i64.wrap (k.tdiv 32)
def rmI (k:Int):Int:=k.tmod 32
def zI (n:Nat) (k:Int):Int:=i64.wrap (i64.wrap (skI k+n)+1)
def zN (n:Nat) (k:Int):Nat:=(zI n k).toNat
def oN (k:Int):Nat:=0+(skI k).toNat*1
def pN (n:Nat) (k:Int):Nat:=zN n k-(skI k).toNat
def cpN (n:Nat) (k:Int):Nat:=Nat.min n (pN n k)
def cpL (la:List Value) (o n:Nat) (k:Int):List Value:=(List.replicate (zN n k) (uu 0)).take (oN k)++(la.drop o).take (cpN n k)++(List.replicate (zN n k) (uu 0)).drop (oN k+cpN n k)
def Z32 (la:List Value) (o n:Nat) (k:Int):Bool:= !(zE tR) && !(ro tU) && Nat.ble (o+cpN n k) la.length && Nat.ble (oN k+cpN n k) (List.replicate (zN n k) (uu 0)).length && ((la.drop o).take (cpN n k)).all one
def upM (la:List Value) (o n:Nat) (k:Int):List Value:=upS (cpL la o n k) (oN k) (pN n k) (rmI k)
def lnI (la:List Value) (o n:Nat):Int:=i64.wrap (262144-ZdS (Zx la o n))
def fS (o n c:Nat) (k:Int) (r e:Value):List Value:=[sl 0 o n c,i6' k,undef,undef,r,e]
theorem ZeP:f77.body=some (Zq f77):=by kernel_rfl
theorem Zud (o n c:Nat) (k:Int) (la:List Value):Zh (evC (Zm prog Zg Zn hcS) 200 false (Zq f77) ([sl 0 o n c,i6' k]++List.replicate 45 undef,⟨1,[(la,tR)]⟩,[cmp true]) ⟨[],[],[]⟩) 6 41 (some none) (fS o n c k Zs (Zcv 1)) ⟨1,[(la,tR)]⟩ [ZgM la o n c,(ZN (Zx la o n),true)]:=by and_intros<;>kernel_rfl
theorem Zue (o n c:Nat) (k:Int) (la:List Value):Zh (evC (Zm prog Zg Zn hcS) 200 false (Zq f77) ([sl 0 o n c,i6' k]++List.replicate 45 undef,⟨1,[(la,tR)]⟩,[cmp false,cmp true]) ⟨[],[],[]⟩) 6 41 (some none) (fS o n c k Zs (Zcv 1)) ⟨1,[(la,tR)]⟩ [(decide (k<0),true),ZgM la o n c,(ZN (Zx la o n),false)]:=by and_intros<;>kernel_rfl
theorem Zuf (o n c:Nat) (k:Int) (la:List Value):Zh (evC (Zm prog Zg Zn hcS) 200 false (Zq f77) ([sl 0 o n c,i6' k]++List.replicate 45 undef,⟨1,[(la,tR)]⟩,[cmp false,cmp false,cmp true]) ⟨[],[],[]⟩) 6 41 (some none) (fS o n c k Zs .nilIface) ⟨1,[(la,tR)]⟩ [((n:Int)==0,true),(decide (k<0),false),ZgM la o n c,(ZN (Zx la o n),false)]:=by and_intros<;>kernel_rfl
theorem Zqb (o n c:Nat) (k:Int) (la:List Value):Zh (evC (Zm prog Zg Zn hcS) 200 false (Zq f77) ([sl 0 o n c,i6' k]++List.replicate 45 undef,⟨1,[(la,tR)]⟩,[cmp false,cmp false,cmp false,cmp true]) ⟨[],[],[]⟩) 6 41 (some none) (fS o n c k Zs (Zcv 2)) ⟨1,[(la,tR)]⟩ [(decide (k>lnI la o n),true),ZgM la o n c,((n:Int)==0,false),(decide (k<0),false),ZgM la o n c,(ZN (Zx la o n),false)]:=by and_intros<;>kernel_rfl
theorem Zqc (o n c:Nat) (k:Int) (la:List Value):Zh (evC (Zm prog Zg Zn hcS) 200 false (Zq f77) ([sl 0 o n c,i6' k]++List.replicate 45 undef,⟨1,[(la,tR)]⟩,[cmp false,cmp false,cmp false,cmp false,at_,num 0,at_,num 0]) ⟨[],[],[]⟩) 6 41 (some none) (fS o n c k (sl 1 0 (Zc (Zx (upM la o n k) 0 (zN n k))) (zN n k)) .nilIface) (hU (upM la o n k) la)
  [(Z0 tU (upM la o n k) 0 (zN n k) (zN n k),true),(Nat.beq tU tU,true),(Nat.beq tR tR,true),(Z0 tU (cpL la o n k) (oN k) (pN n k) (pN n k),true),(Nat.beq (oN k+pN n k) (cpL la o n k).length,true),(la.all still,true),(decide (0≤rmI k∧rmI k<32),true),
   (ZE (zN n k),true),(ZZ (skI k) (zN n k) (zN n k) (zN n k),true),(decide (((zN n k:Nat):Int)=skI k∧skI k≠0),false),(Z32 la o n k,true),(ZE (zN n k),true),(ZZ (skI k) (zN n k) (zN n k) (zN n k),true),(decide (((zN n k:Nat):Int)=skI k∧skI k≠0),false),(ZJ 4 (zI n k) (zI n k),true),
   (decide (k>lnI la o n),false),ZgM la o n c,((n:Int)==0,false),(decide (k<0),false),ZgM la o n c,(ZN (Zx la o n),false)]:=by and_intros<;>kernel_rfl
end Go.Proofs.YtgefjidphfdhdaaGreatDoor.Na
namespace Go.Nt
theorem ZlE:∀ (s m:Nat) (V:Int),dg (s+m) (4294967296^s*V)=List.replicate s 0++dg m V
 | 0,m,V=>by simp
 | s+1,m,V=>by
  rw[show s+1+m=(s+m)+1 from by omega];simp only[dg];rw[pw,Int.mul_assoc];generalize hZ:(4294967296:Int)^s*V=Z;have e1:(4294967296*Z) % 4294967296=0:=by omega
  have e2:(4294967296*Z)/4294967296=Z:=by omega
  rw[e1,e2,← hZ,ZlE s m V,List.replicate_succ,List.cons_append]
theorem ZlF (K:Nat):(2:Int)^K=4294967296^(K/32)*2^(K % 32):=by
 have e:(4294967296:Int)=2^32:=rfl;rw[e,← Int.pow_mul,← Int.pow_add,show 32*(K/32)+K % 32=K from by omega]
def Zg9 (L:List Int) (K:Nat):List Int:=dg (K/32+(L.length+1)) (vN L*2^K)
theorem Zug (L:List Int) (K:Nat):Zg9 L K=List.replicate (K/32) 0++dg (L.length+1) (vN L*2^(K % 32)):=by
 unfold Zg9;rw[ZlF K,← Int.mul_assoc,Int.mul_comm (vN L),Int.mul_assoc,ZlE]
end Go.Nt
namespace Go.Proofs.YtgefjidphfdhdaaGreatDoor.Na
open Go.Proofs.Tryz
open Go.KRun Go.Nt
set_option maxRecDepth 100000
theorem ZlG {L:List Int}(hL:wds L):0≤ZdS L∧ZdS L≤262144:=by
 unfold ZdS;cases h:(L.length==0 || ZN L) with
 | true=>
  show (0:Int)≤0∧(0:Int)≤262144;omega
 | false=>
  simp only[Bool.or_eq_false_iff] at h;have h8:=ZbA h.2;have h0:L.length≠0:=by simpa using h.1
  have hx:=hL (L.getD (L.length-1) 0) (by
   have hk':L.length-1<L.length:=by omega
   simp [List.getD,List.getElem?_eq_getElem hk'])
  have:=ZdF hx.1 hx.2;simp only;omega
theorem ZlH {K:Nat}(h:K≤262144):skI K=((K/32:Nat):Int):=by
 unfold skI;have e:((K:Nat):Int).tdiv 32=((K/32:Nat):Int):=rfl;rw[e,Zw (by omega) (by omega)]
theorem ZyI (K:Nat):rmI K=((K % 32:Nat):Int):=rfl
theorem ZyJ {n K:Nat}(h:K≤262144) (hn:n≤8192):zI n K=((K/32+(n+1):Nat):Int):=by
 unfold zI;rw[ZlH h,Zw (n:=((K/32:Nat):Int)+(n:Nat)) (by omega) (by omega),Zw (by omega) (by omega)];omega
theorem Zqd {n K:Nat}(h:K≤262144) (hn:n≤8192):zN n K=K/32+(n+1):=by unfold zN;rw[ZyJ h hn,Xg]
theorem ZlI {K:Nat}(h:K≤262144):oN K=K/32:=by unfold oN;rw[ZlH h,Xg];omega
theorem Zqe {n K:Nat}(h:K≤262144) (hn:n≤8192):pN n K=n+1:=by unfold pN;rw[ZlH h,Zqd h hn,Xg];omega
theorem Zsq {n K:Nat}(h:K≤262144) (hn:n≤8192):cpN n K=n:=by unfold cpN;rw[Zqe h hn];simp
theorem ZlJ {la:List Value}{o K:Nat}{L:List Int}(hR:Row la o L) (h:K≤262144) (hn:L.length≤8192):cpL la o L.length K=wU (List.replicate (K/32) 0++(L++[0])):=by
 unfold cpL;rw[Zsq h hn,Zqd h hn,ZlI h];have e1:(la.drop o).take L.length=wU L:=hR.cut;rw[e1,List.drop_replicate,List.take_replicate,show K/32+(L.length+1)-(K/32+L.length)=1 from by omega,show min (K/32) (K/32+(L.length+1))=K/32 from by omega];unfold wU uu;simp
theorem Zuh {la:List Value}{o K:Nat}{L:List Int}(hR:Row la o L) (h:K≤262144) (hn:L.length≤8192):Z32 la o L.length K=true:=by
 unfold Z32;rw[Zsq h hn,Zqd h hn,ZlI h];have e1:(la.drop o).take L.length=wU L:=hR.cut;rw[e1,ZaT,Zd5];have h1:Nat.ble (o+L.length) la.length=true:=Nat.ble_eq_true_of_le hR.len;have h2:Nat.ble (K/32+L.length) (List.replicate (K/32+(L.length+1)) (uu 0)).length=true:=Nat.ble_eq_true_of_le (by rw[List.length_replicate];omega);have h3:((wU L).all one)=true:=by
  unfold wU;rw[List.all_eq_true];intro v hv;obtain⟨x,_,rfl⟩:=List.mem_map.1 hv;rfl
 rw[h1,h2,h3];rfl
theorem Zia (A B:List Int):Zx (wU (A++B)) A.length B.length=B:=by
 unfold Zx Zbp wU;rw[List.map_append,List.drop_append_of_le_length (by simp),show A.length=(A.map (Value.int .u32)).length from by simp,List.drop_length,List.nil_append,List.take_of_length_le (by simp),List.map_map];exact (List.map_congr_left fun x _=>rfl).trans (List.map_id' _)
theorem ZgX (s:Nat):wds (List.replicate s 0):=fun x hx=>by rw[List.eq_of_mem_replicate hx];omega
theorem ZeQ {L:List Int}(h:wds L):wds (L++[0]):=zY h (fun x hx=>by rw[List.mem_singleton.1 hx];omega)
theorem ZyK {la:List Value}{o K:Nat}{L:List Int}(hR:Row la o L) (h:K≤262144) (hn:L.length≤8192):upM la o L.length K=wU (Zg9 L K):=by
 unfold upM upS;rw[ZlJ hR h hn,ZlI h,Zqe h hn,ZyI,Xg];have e1:=Zia (List.replicate (K/32) 0) (L++[0]);rw[List.length_replicate,List.length_append,List.length_singleton] at e1;rw[e1,zp,Int.mul_zero,Int.add_zero,Zug];unfold wU;rw[List.map_append,List.map_append,List.take_append_of_le_length (by simp),List.take_of_length_le (by simp),List.map_append]
theorem Zui {la:List Value}{o K:Nat}{L:List Int}(hR:Row la o L) (h:K≤262144) (hn:L.length≤8192):Z0 tU (cpL la o L.length K) (oN K) (pN L.length K) (pN L.length K)=true:=by
 rw[ZlJ hR h hn,ZlI h,Zqe h hn];unfold Z0;have e1:=Zia (List.replicate (K/32) 0) (L++[0]);rw[show zE tU=false from by kernel_rfl,show Nat.beq (rt tU) tU=true from by kernel_rfl,Nat.ble_eq_true_of_le (show K/32+(L.length+1)≤(wU (List.replicate (K/32) 0++(L++[0]))).length by unfold wU;simp),Nat.ble_eq_true_of_le (Nat.le_refl _),show ZE (L.length+1)=true from Zk.2 (by unfold ZT;omega),Za4];have h3:((Zbp (wU (List.replicate (K/32) 0++(L++[0]))) (K/32) (L.length+1)).all isU)=true:=by
  rw[List.all_eq_true];intro v hv;unfold Zbp wU at hv;obtain⟨x,hx,rfl⟩:=List.mem_map.1 (List.mem_of_mem_drop (List.mem_of_mem_take hv));exact Xa ((zY (ZgX _) (ZeQ hR.rng)) x hx)
 rw[h3];rfl
theorem Zqf {la:List Value}{o n c K:Nat}(ha:Z0 tR la o n c=true) (hb:ZN (Zx la o n)=false) (h0:n≠0) (hK:(K:Int)≤262144-ZdS (Zx la o n)):
  Runs (Zm prog Zg Zn hcS) (Zq f77) ([sl 0 o n c,i6' K]++List.replicate 45 undef,⟨1,[(la,tR)]⟩,[]) fun e y=>(e=none∨e=some none)∧zd prog f77 y.1 y.2.1=some (.tuple #[sl 1 0 (Zc (Zg9 (Zx la o n) K)) (K/32+(n+1)),.nilIface])∧y.2.1.blk? 1=some (wU (Zg9 (Zx la o n) K),tU):=by
 obtain⟨a1,a2,a3,a4,a5,a6,a7⟩:=ZC ha;have h8:=ZbA hb;have hl:=ZlG a1.rng;have g0:=Zqc o n c K la;have lI:lnI la o n=262144-ZdS (Zx la o n):=by unfold lnI;rw[Zw (by omega) (by omega)]
 rw[lI] at g0;generalize hL:Zx la o n=L at*;subst a2;have hK2:K≤262144:=by omega
 rw[ZyK a1 hK2 h8] at g0;have ez:=Zqd (n:=L.length) hK2 h8;have esm:ZE (zN L.length K)=true:=Zk.2 (by rw[ez];unfold ZT;omega);have r1:=Zsc (ZaA (K/32+(L.length+1)) (vN L*2^K)) (c:=zN L.length K) (by rw[ZP,ez];exact Nat.le_refl _) esm;rw[ZP,← ez] at r1;have r2:Z0 tU (wU (Zg9 L K)) 0 (zN L.length K) (zN L.length K)=true:=by unfold Zg9;rw[← ez];exact r1.1
 have r3:Zx (wU (Zg9 L K)) 0 (zN L.length K)=Zg9 L K:=by unfold Zg9;rw[← ez];exact r1.2
 have part:ZZ (skI K) (zN L.length K) (zN L.length K) (zN L.length K)=true:=by unfold ZZ;rw[ZlH hK2,ez];exact Xa (by omega)
 have part2:decide (((zN L.length K:Nat):Int)=skI K∧skI K≠0)=false:=by rw[ZlH hK2,ez];exact Xb (by omega)
 have mk:ZJ 4 (zI L.length K) (zI L.length K)=true:=by unfold ZJ;rw[ZyJ hK2 h8];exact Xa (by omega)
 have len:Nat.beq (oN K+pN L.length K) (cpL la o L.length K).length=true:=by
  rw[ZlJ a1 hK2 h8,ZlI hK2,Zqe hK2 h8];unfold wU;simp
 have calm:la.all still=true:=List.all_eq_true.2 a7;have d1:decide (0≤rmI K∧rmI K<32)=true:=by rw[ZyI];exact Xa (by omega)
 have d2:decide ((K:Int)>262144-ZdS L)=false:=Xb (by omega);have d3:((L.length:Int)==0)=false:=by simpa using h0
 have d4:decide ((K:Int)<0)=false:=Xb (by omega);refine (Zb (Zp Ze ZhZ) g0 (Zi r2 (Zi (by kernel_rfl) (Zi (by kernel_rfl) (Zi (Zui a1 hK2 h8) (Zi len (Zi calm (Zi d1
  (Zi esm (Zi part (Zi part2 (Zi (Zuh a1 hK2 h8) (Zi esm (Zi part (Zi part2 (Zi mk (Zi d2 (Zi ha (Zi d3 (Zi d4 (Zi ha (Zv hb)))))))))))))))))))))).mono fun e y he=> ?_
 obtain⟨rfl,⟨g,e2⟩,e3⟩:=he;refine⟨.inr rfl,?_,?_⟩
 ·rw[e2,e3,r3,ez];rfl
 ·rw[e3];rfl
theorem ZeR {la:List Value}{o n c:Nat}{k:Int}{r e:Value}{cs:Log}{s:List Dec}(g0:Zh (evC (Zm prog Zg Zn hcS) 200 false (Zq f77) ([sl 0 o n c,i6' k]++List.replicate 45 undef,⟨1,[(la,tR)]⟩,s) ⟨[],[],[]⟩) 6 41 (some none) (fS o n c k r e) ⟨1,[(la,tR)]⟩ cs) (hcs:Zu cs)
  (hres:∀ g,zd prog f77 (fS o n c k r e++tl 41 g) ⟨1,[(la,tR)]⟩=some (.tuple #[r,e])):
  Runs (Zm prog Zg Zn hcS) (Zq f77) ([sl 0 o n c,i6' k]++List.replicate 45 undef,⟨1,[(la,tR)]⟩,[]) fun e' y=>(e'=none∨e'=some none)∧zd prog f77 y.1 y.2.1=some (.tuple #[r,e]):=by
 refine (Zb (Zp Ze ZhZ) g0 hcs).mono fun e' y he=> ?_;obtain⟨rfl,⟨g,e2⟩,e3⟩:=he;refine⟨.inr rfl,?_⟩;rw[e2,e3];exact hres g
def Zuj:Zag:=fun vals h s=>
 match vals with
 | [.slice (some ⟨b,o,none⟩) n c,.int .i64 k]=>
  match h.blk? b,s with
  | some x,.inr (.inr (.inr (.inl true)))::s'=>some (.tuple #[Zs,Zcv 1],h,s',[(Z0 x.2 x.1 o n c,true),(ZN (Zx x.1 o n) || decide (k<0),true)])
  | some x,.inr (.inr (.inr (.inl false))):: .inr (.inr (.inr (.inl true)))::s'=>some (.tuple #[Zs,.nilIface],h,s',[(Z0 x.2 x.1 o n c,true),(ZN (Zx x.1 o n) || decide (k<0),false),(decide (n=0),true)])
  | some x,.inr (.inr (.inr (.inl false))):: .inr (.inr (.inr (.inl false))):: .inr (.inr (.inr (.inl true)))::s'=>some (.tuple #[Zs,Zcv 2],h,s',[(Z0 x.2 x.1 o n c,true),(ZN (Zx x.1 o n) || decide (k<0),false),(decide (n=0),false),(decide (k>262144-ZdS (Zx x.1 o n)),true)])
  | some x,.inr (.inr (.inr (.inl false))):: .inr (.inr (.inr (.inl false))):: .inr (.inr (.inr (.inl false)))::s'=>some (.tuple #[sl h.n 0 (Zc (Zg9 (Zx x.1 o n) k.toNat)) (k.toNat/32+(n+1)),.nilIface],h.push (wU (Zg9 (Zx x.1 o n) k.toNat)) tU,s',[(Z0 x.2 x.1 o n c,true),(ZN (Zx x.1 o n) || decide (k<0),false),(decide (n=0),false),(decide (k>262144-ZdS (Zx x.1 o n)),false)])
  | _,_=>none
 | _=>none
theorem Zuk:Z8 77 Zuj:=by
 intro vals h s v h' s' lg hg hl m B w E hv;unfold Zuj at hg;split at hg
 ·rename_i b o n c k;have one1:∀ x:List Value×TypeId,h.blk? b=some x→Z0 x.2 x.1 o n c=true→∀ v0:Value,oc (List.range 1) v0=true→rn (fun _=>b) v0=v0→
    Runs (Zm prog Zg Zn hcS) (Zq f77) ([sl 0 o n c,i6' k]++List.replicate 45 undef,⟨1,[(x.1,tR)]⟩,[]) (fun e y=>(e=none∨e=some none)∧zd prog f77 y.1 y.2.1=some v0)→
    Calls prog 77 (([.slice (some ⟨b,o,none⟩) n c,.int .i64 k]:List Value).map (mv m)).toArray w fun e w'=>∃ m',e= .returned (mv m' v0)∧Came m B h w v0 h m' w':=by
   intro x hx ra v0 ho e0 r;obtain⟨a1,a2,a3,a4,a5,a6,a7⟩:=ZC ra;have hlt:=Hp.blk_lt hx;have:=zh (T:=Zm prog Zg Zn hcS) func77 ZeP (ZaU a7) (vals:=[sl 0 o n c,i6' k]) (fun v hv=>by
    simp only[List.mem_cons,List.not_mem_nil,or_false] at hv;rcases hv with rfl | rfl<;>rfl) ho r E (s:=fun _=>b) (fun i _=>hlt) (zX hx a5 a6 rfl)
   rw[e0] at this;exact this.mono fun e w' he=>⟨m,he.1,he.2⟩
  split at hg
  ·rename_i x s2 hx;cases hg;have ra:=hl _ (Xe);have hd:=hl _ (Xd _ Xf);simp only at hd;refine one1 x hx ra _ (by rfl) (Zdd (by rfl)) ?_;cases hb:ZN (Zx x.1 o n) with
   | true=>exact ZeR (Zud o n c k x.1) (Zi (zi ra) (Zv hb)) (fun _=>rfl)
   | false=>
    rw[hb,Bool.false_or] at hd;exact ZeR (Zue o n c k x.1) (Zi hd (Zi (zi ra) (Zv hb))) (fun _=>rfl)
  ·rename_i x s2 hx;cases hg;have ra:=hl _ (Xe);have hd:=hl _ (Xd _ Xe);have h0:=Xc (hl _ (Xd _ (Xd _ Xf)));simp only[Bool.or_eq_false_iff] at hd;have d3:((n:Int)==0)=true:=by rw[h0];rfl
   exact one1 x hx ra _ (by rfl) (Zdd (by rfl)) (ZeR (Zuf o n c k x.1) (Zi d3 (Zi hd.2 (Zi (zi ra) (Zv hd.1)))) (fun _=>rfl))
  ·rename_i x s2 hx;cases hg;have ra:=hl _ (Xe);have hd:=hl _ (Xd _ Xe);have h0:=of_decide_eq_false (hl _ (Xd _ (Xd _ Xe)));have hk:=hl _ (Xd _ (Xd _ (Xd _ Xf)));simp only[Bool.or_eq_false_iff] at hd;have d3:((n:Int)==0)=false:=by simpa using h0
   obtain⟨a1,a2,a3,a4,a5,a6,a7⟩:=ZC ra;have hle:=ZlG a1.rng;have lI:lnI x.1 o n=262144-ZdS (Zx x.1 o n):=by unfold lnI;rw[Zw (by omega) (by omega)]
   have g0:=Zqb o n c k x.1;rw[lI] at g0;exact one1 x hx ra _ (by rfl) (Zdd (by rfl)) (ZeR g0 (Zi hk (Zi (zi ra) (Zi d3 (Zi hd.2 (Zi (zi ra) (Zv hd.1)))))) (fun _=>rfl))
  ·rename_i x s2 hx;cases hg;have ra:=hl _ (Xe);have hd:=hl _ (Xd _ Xe);have h0:=of_decide_eq_false (hl _ (Xd _ (Xd _ Xe)));have hk:=of_decide_eq_false (hl _ (Xd _ (Xd _ (Xd _ Xf))));simp only[Bool.or_eq_false_iff] at hd;have hk0:=of_decide_eq_false hd.2;obtain⟨K,rfl⟩:=Int.eq_ofNat_of_zero_le (show 0≤k by omega);rw[Xg];obtain⟨a1,a2,a3,a4,a5,a6,a7⟩:=ZC ra;have r:=Zqf (K:=K) (zi ra) hd.1 h0 (by omega);have e1:∀ j M:Nat,rn (fun _=>h.n) (.tuple #[sl 1 0 j M,.nilIface])= .tuple #[sl h.n 0 j M,.nilIface]:=fun j M=>by simp [rn,rn2,rn1,sl]
   have:=ZL (T:=Zm prog Zg Zn hcS) func77 ZeP (ZaU a7) (vals:=[sl 0 o n c,i6' K]) (fun v hv=>by
    simp only[List.mem_cons,List.not_mem_nil,or_false] at hv;rcases hv with rfl | rfl<;>rfl) (k:=1) (Zc1 _) Zd5 (r.w.mono fun e y h=>⟨h.1,h.2.1,[],by rw[List.append_nil];exact h.2.2⟩) (by rfl) E (s:=fun _=>b) (zX hx a5 a6 rfl)
   rw[e1] at this;exact this
  ·cases hg
 ·cases hg
end Go.Proofs.YtgefjidphfdhdaaGreatDoor.Na
namespace Go.Proofs.YtgefjidphfdhdaaGreatDoor.Na
open Go.Proofs.Tryz
open Go.KRun Go.Nt
set_option maxRecDepth 100000
set_option linter.unusedVariables false
def ZgY (L M:List Int):List Int:=dg (L.length+M.length) (vN L*vN M)
theorem zF {L:List Int}(h:wds L) {o n c:Nat}(hl:o+n≤L.length) (hc:n≤c) (h2:ZE c=true):Z0 tU (wU L) o n c=true:=by
 unfold Z0;have h3:((Zbp (wU L) o n).all isU)=true:=by
  rw[List.all_eq_true];intro v hv;unfold Zbp wU at hv;obtain⟨x,hx,rfl⟩:=List.mem_map.1 (List.mem_of_mem_drop (List.mem_of_mem_take hv));exact Xa (h x hx)
 rw[show zE tU=false from by kernel_rfl,show Nat.beq (rt tU) tU=true from by kernel_rfl,Nat.ble_eq_true_of_le (show o+n≤(wU L).length by rw[zZ];exact hl),Nat.ble_eq_true_of_le hc,h2,h3,Za4];rfl
theorem ZgZ (D M R:List Int):Zx (wU (D++(M++R))) D.length M.length=M:=by
 unfold Zx Zbp wU;rw[List.map_append,List.map_append,List.drop_left' (by simp),List.take_left' (by simp),List.map_map];exact (List.map_congr_left fun x _=>rfl).trans (List.map_id' _)
theorem Zha (D M R L:List Int):tmS (wU (D++(M++R))) D.length M.length L=wU (D++(L++R)):=by
 have e1:(wU (D++(M++R))).take D.length=wU D:=by
  unfold wU;rw[List.map_append];exact List.take_left' (by simp)
 have e2:(wU (D++(M++R))).drop (D.length+M.length)=wU R:=by
  unfold wU;rw[← List.append_assoc,List.map_append];exact List.drop_left' (by simp)
 unfold tmS;rw[e1,e2];unfold wU;rw[List.map_append,List.map_append]
theorem Zul (D L:List Int) (z c:Int) (R:List Int):(wU (D++(L++z::R))).set (D.length+L.length) (uu c)=wU (D++((L++[c])++R)):=by
 rw[← List.append_assoc,show D.length+L.length=(D++L).length from by simp,ZfJ];simp
theorem Zum {la lb:List Value}{o c o' c':Nat}{LA LB:List Int}(RA:Row la o LA) (RB:Row lb o' LB) (sa:∀ v∈la,still v=true) (hrb:Z0 tR lb o' LB.length c'=true) (ha:0<LA.length) (hb:0<LB.length) (h8:LA.length+LB.length≤8192):
  Runs (Zm prog Zg Zn hcM) (zo (pdP f127) (.seq (.seq (Z1 (Z1 (sn 4 f127))) (.block 0 (.loop (pdL f127)))) (Zz (sn 4 f127)))) ([sl 0 o LA.length c,sl 1 o' LB.length c']++List.replicate 57 undef,h2 la lb,[]) fun e y=>(e=none∨e=some none)∧zd prog f127 y.1 y.2.1=some (.tuple #[sl 2 0 (Zc (ZgY LA LB)) (LA.length+LB.length),.nilIface])∧y.2.1.blk? 2=some (wU (ZgY LA LB),tU):=by
 have hT:=Zp Ze ZlD;have eZ:pZ LA.length LB.length=((LA.length+LB.length:Nat):Int):=by
  unfold pZ;rw[Zw (by omega) (by omega)];omega
 have g0:=ZyF o LA.length c o' LB.length c' la lb;rw[eZ,Xg] at g0;have esm:∀ q:Nat,q≤8192→ZE q=true:=fun q hq=>Zk.2 (by unfold ZT;omega);have bA:=RA.rng;have bB:=ZaM LB RB.rng;have erep:List.replicate (LA.length+LB.length) (uu 0)=wU ([]++(List.replicate LB.length 0++List.replicate LA.length 0)):=by
  unfold wU uu;rw[Nat.add_comm];simp [List.replicate_append_replicate]
 rw[erep] at g0;refine Z4 hT g0 (Zi (by unfold ZJ;exact Xa (by omega)) (Zi (by rw[Zw (by omega) (by omega)];exact Xb (by omega)) (Zi (by simpa using (show LB.length≠0 by omega)) (Zv (by simpa using (show LA.length≠0 by omega)))))) fun g=> ?_;refine Runs.seq (P1:=fun e' y=>e'=none∧∃ (D M:List Int) (v7 v8 u1 u2 u3:Value) (g g':Nat→Value),y.1=ml (pdF o LA.length c o' LB.length c' (LA.length+LB.length) v7 v8) 22 g [u1,u2,u3] 25 g'∧D.length=LA.length∧M.length=LB.length∧wds D∧wds M∧vN D+4294967296^D.length*vN M=vN LA*vN LB∧y.2.1=h3 la lb (wU (D++(M++[])))) ?_ ?_ (fun e y he=>by cases he.1)
 ·refine Runs.seq (P1:=fun e' y=>e'=none∧(∃ g g',y.1=ml (pdF o LA.length c o' LB.length c' (LA.length+LB.length) undef undef) 22 g [sl 0 o LA.length c,i6' LA.length,i6' 0] 25 g')∧y.2.1=h3 la lb (wU ([]++(List.replicate LB.length 0++List.replicate LA.length 0)))) (Zav hT (Z6v o LA.length c o' LB.length c' (LA.length+LB.length) undef undef la lb _ g) (fun x hx=>by cases hx)) ?_ (fun e y he=>by cases he.1);rintro⟨t,h',s'⟩ ⟨_,⟨g1,g2,ht⟩,hh⟩;simp only at ht hh;subst ht hh;refine (Runs.forLoop (R:=fun _=>False) (P:=fun y=>∃ (D M:List Int) (v7 v8 u1 u2 u3:Value) (g g':Nat→Value),y.1=ml (pdF o LA.length c o' LB.length c' (LA.length+LB.length) v7 v8) 22 g [u1,u2,u3] 25 g'∧D.length=LA.length∧M.length=LB.length∧wds D∧wds M∧vN D+4294967296^D.length*vN M=vN LA*vN LB∧y.2.1=h3 la lb (wU (D++(M++[]))))
   (fun r y=>∃ (D M:List Int) (v7 v8:Value) (g g':Nat→Value),D.length+r=LA.length∧M.length=LB.length∧wds D∧wds M∧vN D+4294967296^D.length*vN M=vN (LA.take D.length)*vN LB∧y.1=ml (pdF o LA.length c o' LB.length c' (LA.length+LB.length) v7 v8) 22 g [sl 0 o LA.length c,i6' LA.length,i6' D.length] 25 g'∧y.2.1=h3 la lb (wU (D++(M++List.replicate r 0))))
   ?_ (n:=LA.length) ⟨[],List.replicate LB.length 0,undef,undef,g1,g2,by simp,by simp,(fun x hx=>by cases hx),ZgX _,?_,rfl,rfl⟩).mono fun e' y he=> ?_
  ·rintro r ⟨t,h',s'⟩ ⟨D,M,v7,v8,g,g',hr,hM,w1,w2,hv,ht,hh⟩;simp only at ht hh;subst ht hh;cases r with
   | zero=>
    have ek:D.length=LA.length:=by omega
    refine (Zav hT (ZyG o LA.length c o' LB.length c' (LA.length+LB.length) D.length v7 v8 la lb _ g g') (Zv (Xb (by omega)))).mono fun e' y he=> ?_;obtain⟨rfl,⟨g1,g2,e2⟩,e3⟩:=he;rw[ek,List.take_length] at hv;rw[← ek] at hv;exact⟨rfl,D,M,v7,v8,_,_,_,g1,g2,e2,ek,hM,w1,w2,hv,e3⟩
   | succ r=>
    have hk:D.length<LA.length:=by omega
    have cA:=RA.cell hk;have hx:=bA (LA.getD D.length 0) (by simp [List.getD,List.getElem?_eq_getElem hk]);have et:=Zap hk;generalize LA.getD D.length 0=x at*;have eJ:pJ D.length=D.length:=by unfold pJ;omega
    have eK:pK D.length LB.length=((D.length+LB.length:Nat):Int):=by unfold pK;rw[Zw (by omega) (by omega)];omega
    have eL:pLn D.length LB.length=M.length:=by unfold pLn;rw[eK];omega
    have ecB:Zx lb o' LB.length=LB:=by
     unfold Zx;rw[RB.cut];unfold wU;rw[List.map_map];exact (List.map_congr_left fun x _=>rfl).trans (List.map_id' _)
    have ecM:Zx (wU (D++(M++List.replicate (r+1) 0))) (pJ D.length) (pLn D.length LB.length)=M:=by rw[eJ,eL];exact ZgZ _ _ _
    have ePS:pS (wU (D++(M++List.replicate (r+1) 0))) lb o' LB.length D.length x=wU (D++(tmR M LB x++List.replicate (r+1) 0)):=by
     unfold pS;rw[ecM,ecB,eJ,eL];exact Zha _ _ _ _
    have ePC:pC (wU (D++(M++List.replicate (r+1) 0))) lb o' LB.length D.length x=tmC M LB x:=by
     unfold pC;rw[ecM,ecB]
    have lR:(tmR M LB x).length=M.length:=by unfold tmR;rw[ZP]
    have bM:=ZaM M w2;rw[hM] at bM;have bT:=Z3v bM bB hx;rw[← hM] at bT;obtain⟨y,m,e1,e2,w3,w4,e5⟩:=Zqa bT;have eW:tmR M LB x++[tmC M LB x]=y::m:=e1;have g1:=Z3z o LA.length c o' LB.length c' (LA.length+LB.length) D.length x v7 v8 la lb (wU (D++(M++List.replicate (r+1) 0))) g g';rw[ePS,ePC,eK,eJ,eL,Xg,Xg,Nat.zero_add,Nat.mul_one] at g1;have hall:wds (D++(M++List.replicate (r+1) 0)):=zY w1 (zY w2 (ZgX _));have l1:decide (D.length+LB.length<(wU (D++(tmR M LB x++List.replicate (r+1) 0))).length)=true:=Xa (by rw[zZ];simp [lR];omega);have l2:(inR ((D.length+LB.length:Nat):Int) (LA.length+LB.length)).1=(inR ((D.length+LB.length:Nat):Int) (LA.length+LB.length)).2:=Xa (by omega);have l3:ZyE (wU (D++(M++List.replicate (r+1) 0))) lb la tU tR tR D.length M.length (LA.length+LB.length-D.length) o' LB.length c' x=true:=by
     unfold ZyE;rw[zF hall (by simp) (by omega) (esm _ (by omega)),hrb,List.all_eq_true.2 sa,Zk.2 (show M.length<1099511627776 by omega),Xa hx,hM];simp
    have l5:ZZ D.length ((D.length+LB.length:Nat):Int) ((LA.length+LB.length:Nat):Int) ((LA.length+LB.length:Nat):Int)=true:=by unfold ZZ;exact Xa (by omega)
    have l6:decide (((LA.length+LB.length:Nat):Int)=(D.length:Int)∧(D.length:Int)≠0)=false:=Xb (by omega);have l7:(inR D.length LA.length).1=(inR D.length LA.length).2:=Xa (by omega);refine (Zav hT g1 (Zi l1 (Zi l2 (Zi l3 (Zi (esm _ (by omega)) (Zi l5 (Zi l6 (Zi (Zae cA) (Zi l7 (Zv (Xa (by omega)))))))))))).mono fun e' Y he=> ?_;obtain⟨rfl,⟨g2,g3,f2⟩,f3⟩:=he;refine⟨r,by omega,D++[y],m,i6' D.length,uu x,g2,g3,by simp;omega,by omega,zY w1 w3,w4,?_,?_,?_⟩
    ·rw[zp,List.length_append,List.length_singleton,pw,et,zp,List.length_take,Nat.min_eq_left (by omega)];exact ZtX e5 hv
    ·rw[f2,Zw (by omega) (by omega)];simp
    ·rw[f3,List.replicate_succ,← hM,← lR,Zul,eW];simp
  ·simp only[List.length_nil,List.take_zero];have:vN (List.replicate LB.length 0)=0:=Zsp _;rw[this];simp [vN]
  ·match e',he with
   | none,he=>exact⟨rfl,he⟩
   | some none,he=>exact he.elim
   | some (some _),he=>exact he.elim
 ·rintro⟨t,h',s'⟩ ⟨_,D,M,v7,v8,u1,u2,u3,g,g',ht,hD,hM,w1,w2,hv,hh⟩;simp only at ht hh;subst ht hh;have hw:wds (D++M):=zY w1 w2;have hl:(D++M).length=LA.length+LB.length:=by simp;omega
  have ew:D++M=ZgY LA LB:=by
   have:=ZfI (D++M) hw;rw[Zsb,hv,hl] at this;exact this.symm
  have hr:=Zsc hw (c:=LA.length+LB.length) (by omega) (esm _ h8);rw[hl] at hr;have htr:=zm (D++M);have g1:=ZyH o LA.length c o' LB.length c' (LA.length+LB.length) v7 v8 u1 u2 u3 la lb (wU (D++M)) g g';rw[hr.2] at g1;rw[List.append_nil];refine (Zb hT g1 (Zi (Xb (by omega)) (Zv hr.1))).mono fun e' y he=> ?_;obtain⟨rfl,⟨g1,e2⟩,e3⟩:=he;refine⟨.inr rfl,?_,?_⟩
  ·rw[e2,e3,ew];rfl
  ·rw[e3,ew];rfl
def Z33:Zag:=fun vals h s=>
 match vals,s with
 | [.slice p n c,.slice q n' c'],.inr (.inr (.inr (.inl true)))::s'=>some (.tuple #[Zs,.nilIface],h,s',[(decide (n=0∨n'=0),true)])
 | [.slice p n c,.slice q n' c'],.inr (.inr (.inr (.inl false)))::s'=>some (.tuple #[sl h.n 0 (Zc (ZgY (Zj h p n) (Zj h q n'))) (n+n'),.nilIface],h.push (wU (ZgY (Zj h p n) (Zj h q n'))) tU,s',[(zG h p n c,true),(zG h q n' c',true),(!decide (n=0∨n'=0) && Nat.ble (n+n') 8192,true)])
 | _,_=>none
theorem ZlK:Z8 127 Z33:=by
 intro vals h s v h' s' lg hg hl m B w E hv;unfold Z33 at hg;split at hg
 ·rename_i p n c q n' c' s2;cases hg;have l1:=Xc (hl _ Xf);by_cases h0:n=0
  ·have r:=Zb (s0:=[]) (Zp Ze ZlD) (Z30 p q n c n' c' h) (Zv (by simp [h0]));exact ZaV (T:=Zm prog Zg Zn hcM) func127 ZhY (vals:=[.slice p n c,.slice q n' c']) (v:= .tuple #[Zs,.nilIface]) (h:=h) (by rfl) (r.mono fun e y he=>by
    obtain⟨rfl,⟨g,e1⟩,e2⟩:=he;exact⟨.inr rfl,by rw[e1,e2];rfl,e2⟩) m B w E hv
  ·have h1:n'=0:=l1.resolve_left h0;have r:=Zb (s0:=[]) (Zp Ze ZlD) (Z31 p q n c n' c' h) (Zi (by simp [h1]) (Zv (by simpa using h0)));exact ZaV (T:=Zm prog Zg Zn hcM) func127 ZhY (vals:=[.slice p n c,.slice q n' c']) (v:= .tuple #[Zs,.nilIface]) (h:=h) (by rfl) (r.mono fun e y he=>by
    obtain⟨rfl,⟨g,e1⟩,e2⟩:=he;exact⟨.inr rfl,by rw[e1,e2];rfl,e2⟩) m B w E hv
 ·rename_i p n c q n' c' s2;cases hg;obtain⟨l1,l2,l3⟩:=Z2l hl;simp only[Xh,Bool.not_eq_true',decide_eq_false_iff_not] at l1 l2 l3;obtain⟨l3,l4⟩:=l3;have l4:=Nat.le_of_ble_eq_true l4;rcases ZD l1 with ⟨_,h0,_⟩ | ⟨b,o,x,rfl,hx,r1,e0⟩
  ·omega
  rcases ZD l2 with ⟨_,h0,_⟩ | ⟨b',o',y,rfl,hy,t1,f0⟩
  ·omega
  rw[e0,f0];obtain⟨a1,a2,a3,a4,a5,a6,a7⟩:=ZC r1;obtain⟨b1,b2,b3,b4,b5,b6,b7⟩:=ZC t1;have r:=Zum (c:=c) (c':=c') a1 b1 a7 (by rw[b2];exact zi t1) (by omega) (by omega) (by omega);rw[a2,b2] at r;have e1:∀ k M:Nat,rn (fun _=>h.n) (.tuple #[sl 2 0 k M,.nilIface])= .tuple #[sl h.n 0 k M,.nilIface]:=fun k M=>by simp [rn,rn2,rn1,sl]
  have:=ZL (T:=Zm prog Zg Zn hcM) func127 Zuc (ZfF a7 b7) (vals:=[sl 0 o n c,sl 1 o' n' c']) (fun v hv=>by
   simp only[List.mem_cons,List.not_mem_nil,or_false] at hv;rcases hv with rfl | rfl<;>rfl) (k:=2) (Zc1 _) Zd5 (r.w.mono fun e y h=>⟨h.1,h.2.1,[],by rw[List.append_nil];exact h.2.2⟩) (by rfl) E (s:=Zd1 b b') (ZcL hx a5 a6 hy b5 b6)
  rw[e1] at this;exact this
 ·cases hg
end Go.Proofs.YtgefjidphfdhdaaGreatDoor.Na
namespace Go.Nt
def dgS (L:List Int) (i:Nat):Nat:=(L.getD i 0).toNat
theorem Z34 {L:List Int}(h:∀ x∈L,Dg 65536 x) (i:Nat):dgS L i<65536:=by
 unfold dgS;by_cases hi:i<L.length
 ·have:=h (L.getD i 0) (by simp [List.getD,List.getElem?_eq_getElem hi]);omega
 ·simp [List.getD,List.getElem?_eq_none (show L.length≤i by omega)]
theorem ZlL {b:Nat}:∀ {L:List Int}{j:Nat},j<L.length→∀ v:Int,vb b (L.set j v)+b^j*(L.getD j 0).toNat=vb b L+b^j*v.toNat
 | [],_,h,_=>by simp at h
 | x::L,0,_,v=>by simp [vb];omega
 | x::L,j+1,h,v=>by
  have ih:=ZlL (b:=b) (L:=L) (j:=j) (by simpa using h) v;have e:(x::L).getD (j+1) 0=L.getD j 0:=by simp [List.getD]
  simp only[List.set,vb,e];have h2:=congrArg (fun t=>b*t) ih;simp only[Nat.mul_add] at h2;rw[Nat.pow_succ,Nat.mul_comm (b^j) b,Nat.mul_assoc,Nat.mul_assoc];omega
theorem ZlM {L:List Int}(h:∀ x∈L,Dg 65536 x) {v:Int}(hv:Dg 65536 v) (j:Nat):∀ x∈L.set j v,Dg 65536 x:=fun x hx=>by
 rcases List.mem_or_eq_of_mem_set hx with hx | rfl
 ·exact h x hx
 ·exact hv
theorem Zqg {L:List Int}{j:Nat}(hj:j<L.length) (hL:∀ x∈L,Dg 65536 x) {c p q:Nat}(hc:c<65536) (hp:p<65536) (hq:q<65536):
  let t:=c+(L.getD j 0).toNat+p*q
  vb 65536 (L.set j ((t % 65536:Nat):Int))+t/65536*65536^(j+1)=vb 65536 L+c*65536^j+p*q*65536^j∧t/65536<65536∧(∀ x∈L.set j ((t % 65536:Nat):Int),Dg 65536 x):=by
 intro t;have hd:(L.getD j 0).toNat<65536:=Z34 hL j;have hpq:p*q≤65535*65535:=Nat.mul_le_mul (by omega) (by omega);have ht:t=c+(L.getD j 0).toNat+p*q:=rfl;refine⟨?_,by omega,ZlM hL ⟨by omega,by omega⟩ j⟩;have h1:=ZlL (b:=65536) hj ((t % 65536:Nat):Int);rw[Xg] at h1;have h2:=Nat.div_add_mod t 65536;have h3:65536^j*t=65536^j*(65536*(t/65536))+65536^j*(t % 65536):=by rw[← Nat.mul_add,h2]
 have h4:65536^j*t=65536^j*c+65536^j*(L.getD j 0).toNat+65536^j*(p*q):=by rw[ht,Nat.mul_add,Nat.mul_add]
 have h5:t/65536*65536^(j+1)=65536^j*(65536*(t/65536)):=by rw[Nat.pow_succ,Nat.mul_comm,Nat.mul_assoc]
 rw[h5,Nat.mul_comm c,Nat.mul_comm (p*q)];omega
end Go.Nt
namespace Go.Proofs.YtgefjidphfdhdaaGreatDoor
open Go.Proofs.Tryz
open Go.IntKind
open Go.KRun Go.Nt
set_option maxRecDepth 100000
set_option linter.unusedVariables false
def muB (F:Func):Code:=Z1 (Zz (Zz (Zq F)))
def muO (F:Func):Code:=cIn (cIn (Zz (muB F)))
def muI (F:Func):Code:=cIn (Z1 (Zz (muO F)))
def muL (F:Func):Code:=cIn (cIn (Zz (Z1 (Zz (muI F)))))
def Zx2 (F:Func):List Code:=[Z1 (Zq F),Z1 (Zz (Zq F))]
def muE (F:Func):Code:=Zz (Zz (Zz (Zq F)))
theorem ZfY:f66.body=some (zo (Zx2 f66) (.seq (.seq (Z1 (muB f66)) (.block 0 (.loop (muO f66)))) (muE f66))):=by kernel_rfl
theorem Zib:muO f66= .seq (Z1 (muO f66)) (.seq (.block 1 (muI f66)) (Zz (Zz (muO f66)))):=by kernel_rfl
theorem Zqh:muI f66= .seq (Z1 (muI f66)) (.seq (.seq (Z1 (Z1 (Zz (muI f66)))) (.block 2 (.loop (muL f66)))) (Zz (Zz (muI f66)))):=by kernel_rfl
def mFr (o n c o' n' c' z:Nat) (i v7 v8:Value):List Value:=[sl 0 o n c,sl 1 o' n' c',undef,undef,Zs,sl 2 0 z z,i,v7,v8]
def hM3 (lo lb la:List Value):Hp:=⟨3,[(lo,tU),(lb,tR),(la,tR)]⟩
def zM (n n':Nat):Int:=i64.wrap ((n:Int)+n')
def inM (j:Int) (n:Nat):Bool×Bool:=(decide (0≤j∧j<(n:Int)),true)
def ceM (l:List Value) (o:Nat) (j x:Int):Bool×Bool:=(Z3 (l[o+j.toNat*1]?) (.int .u32 x),true)
def stM (l:List Value) (j:Int):Bool×Bool:=(decide (0+j.toNat*1<l.length),true)
def d65:Bool×Bool:=(decide ((65536:Int)=0),false)
def tM (c7 d p q:Int):Int:=u64.wrap (u64.wrap (c7+u64.wrap d)+u64.wrap (u64.wrap p*u64.wrap q))
def ijM (i k:Int):Int:=i64.wrap (i+k)
theorem ZyL (o n c o' n' c':Nat) (la lb:List Value):Zh (evL (Zm prog Zg Zn hcV) 200 (Zx2 f66) ([sl 0 o n c,sl 1 o' n' c']++List.replicate 66 undef,h2 la lb,[at_]) ⟨[],[],[]⟩) 6 62 none [sl 0 o n c,sl 1 o' n' c',undef,undef,Zs,sl 2 0 (zM n n').toNat (zM n n').toNat] (hM3 (List.replicate (zM n n').toNat (.int .u32 0)) lb la) [(ZJ 4 (zM n n') (zM n n'),true)]:=by and_intros<;>kernel_rfl
theorem ZyM (v0 v1 v5:Value) (h:Hp) (g:Nat→Value):Zh (evC (Zm prog Zg Zn hcV) 200 false (Z1 (muB f66)) ([v0,v1,undef,undef,Zs,v5]++tl 62 g,h,[]) ⟨[],[],[]⟩) 9 59 none [v0,v1,undef,undef,Zs,v5,.int .i64 0,g 1,g 2] h []:=by and_intros<;>kernel_rfl
theorem Z35 (o n c o' n' c' z:Nat) (i c7 k d p q:Int) (v7 v8:Value) (lo lb la:List Value) (g:Nat→Value):Zh (evC (Zm prog Zg Zn hcV) 200 false (Z1 (muO f66)) (mFr o n c o' n' c' z (.int .i64 i) v7 v8++tl 59 g,hM3 lo lb la,[cmp true]) ⟨[],[],[]⟩) 9 59 none (mFr o n c o' n' c' z (.int .i64 i) v7 v8) (hM3 lo lb la) [(decide (i<(n:Int)),true)]:=by and_intros<;>kernel_rfl
theorem Z36 (o n c o' n' c' z:Nat) (i c7 k d p q:Int) (v7 v8:Value) (lo lb la:List Value) (g:Nat→Value):Zh (evC (Zm prog Zg Zn hcV) 200 false (Z1 (muO f66)) (mFr o n c o' n' c' z (.int .i64 i) v7 v8++tl 59 g,hM3 lo lb la,[cmp false]) ⟨[],[],[]⟩) 9 59 (some (some 0)) (mFr o n c o' n' c' z (.int .i64 i) v7 v8) (hM3 lo lb la) [(decide (i<(n:Int)),false)]:=by and_intros<;>kernel_rfl
theorem Z37 (o n c o' n' c' z:Nat) (i c7 k d p q:Int) (v7 v8:Value) (lo lb la:List Value) (g:Nat→Value):Zh (evC (Zm prog Zg Zn hcV) 200 false (Z1 (muI f66)) (mFr o n c o' n' c' z (.int .i64 i) v7 v8++tl 59 g,hM3 lo lb la,[]) ⟨[],[],[]⟩) 9 59 none (mFr o n c o' n' c' z (.int .i64 i) (.int .u64 0) v8) (hM3 lo lb la) []:=by and_intros<;>kernel_rfl
theorem Z38 (o n c o' n' c' z:Nat) (i c7 k d p q:Int) (v7 v8:Value) (lo lb la:List Value) (g:Nat→Value):Zh (evC (Zm prog Zg Zn hcV) 200 false (Z1 (Z1 (Zz (muI f66)))) (mFr o n c o' n' c' z (.int .i64 i) v7 v8++tl 59 g,hM3 lo lb la,[]) ⟨[],[],[]⟩) 9 59 none (mFr o n c o' n' c' z (.int .i64 i) v7 (.int .i64 0)) (hM3 lo lb la) []:=by and_intros<;>kernel_rfl
theorem Z39 (o n c o' n' c' z:Nat) (i c7 k d p q:Int) (v7 v8:Value) (lo lb la:List Value) (g:Nat→Value):Zh (evC (Zm prog Zg Zn hcV) 200 false (muL f66) (mFr o n c o' n' c' z (.int .i64 i) (.int .u64 c7) (.int .i64 k)++tl 59 g,hM3 lo lb la,[cmp true,at_,val (.int .u32 d),at_,val (.int .u32 p),at_,val (.int .u32 q),cmp true,at_,at_]) ⟨[],[],[]⟩) 9 59 none (mFr o n c o' n' c' z (.int .i64 i) (.int .u64 (u64.wrap ((tM c7 d p q).tdiv 65536))) (.int .i64 (i64.wrap (k+1)))) (hM3 (lo.set (0+(ijM i k).toNat*1) (.int .u32 (u32.wrap ((tM c7 d p q).tmod 65536)))) lb la) [stM lo (ijM i k),inM (ijM i k) z,d65,ceM lb o' k q,inM k n',ceM la o i p,inM i n,ceM lo 0 (ijM i k) d,inM (ijM i k) z,(decide (k<(n':Int)),true)]:=by and_intros<;>kernel_rfl
theorem ZyN (o n c o' n' c' z:Nat) (i c7 k d p q:Int) (v7 v8:Value) (lo lb la:List Value) (g:Nat→Value):Zh (evC (Zm prog Zg Zn hcV) 200 false (muL f66) (mFr o n c o' n' c' z (.int .i64 i) (.int .u64 c7) (.int .i64 k)++tl 59 g,hM3 lo lb la,[cmp false]) ⟨[],[],[]⟩) 9 59 (some (some 2)) (mFr o n c o' n' c' z (.int .i64 i) (.int .u64 c7) (.int .i64 k)) (hM3 lo lb la) [(decide (k<(n':Int)),false)]:=by and_intros<;>kernel_rfl
theorem ZyO (o n c o' n' c' z:Nat) (i c7 k d p q:Int) (v7 v8:Value) (lo lb la:List Value) (g:Nat→Value):Zh (evC (Zm prog Zg Zn hcV) 200 false (Zz (Zz (muI f66))) (mFr o n c o' n' c' z (.int .i64 i) (.int .u64 c7) v8++tl 59 g,hM3 lo lb la,[at_,at_]) ⟨[],[],[]⟩) 9 59 none (mFr o n c o' n' c' z (.int .i64 i) (.int .u64 c7) v8) (hM3 (lo.set (0+(ijM i n').toNat*1) (.int .u32 (u32.wrap c7))) lb la) [stM lo (ijM i n'),inM (ijM i n') z]:=by and_intros<;>kernel_rfl
theorem Z3A (o n c o' n' c' z:Nat) (i c7 k d p q:Int) (v7 v8:Value) (lo lb la:List Value) (g:Nat→Value):Zh (evC (Zm prog Zg Zn hcV) 200 false (Zz (Zz (muO f66))) (mFr o n c o' n' c' z (.int .i64 i) v7 v8++tl 59 g,hM3 lo lb la,[]) ⟨[],[],[]⟩) 9 59 none (mFr o n c o' n' c' z (.int .i64 (i64.wrap (i+1))) v7 v8) (hM3 lo lb la) []:=by and_intros<;>kernel_rfl
theorem ZyP (o n c o' n' c' z:Nat) (i c7 k d p q:Int) (v7 v8:Value) (lo lb la:List Value) (g:Nat→Value):Zh (evC (Zm prog Zg Zn hcV) 200 false (muE f66) (mFr o n c o' n' c' z (.int .i64 i) v7 v8++tl 59 g,hM3 lo lb la,[]) ⟨[],[],[]⟩) 5 63 (some none) [sl 0 o n c,sl 1 o' n' c',undef,undef,sl 2 0 (Zc (Zx lo 0 z)) (Zc (Zx lo 0 z))] (hM3 lo lb la) [(ZaB tU lo 0 z z,true)]:=by and_intros<;>kernel_rfl
theorem Runs.next {T:Tab}{c1 c2:Code}{x:Lf}{front:List Value}{n:Nat}{h:Hp}{P:Ex→Lf→Prop}(h1:Runs T c1 x fun e y=>e=none∧(∃ g,y.1=front++tl n g)∧y.2.1=h) (h2:∀ g s,Runs T c2 (front++tl n g,h,s) P):Runs T (.seq c1 c2) x P:=by
 refine Runs.seq h1 (fun y hy=> ?_) (fun e y hy=>by cases hy.1);obtain⟨_,⟨g,e1⟩,e2⟩:=hy;obtain⟨t,hh,s⟩:=y;simp only at e1 e2;subst e1 e2;exact h2 g s
theorem ZlN (O:List Int) (j:Nat) (v:Int):(wU O).set j (.int .u32 v)=wU (O.set j v):=by unfold wU;rw[List.map_set]
theorem ZbW {n:Int}(h0:0≤n) (h1:n<18446744073709551616):u64.wrap n=n:=by simp [IntKind.wrap,IntKind.bits,IntKind.signed];omega
theorem Zun {O:List Int}{j:Nat}(h:j<O.length):(wU O)[0+j*1]? =some (.int .u32 (O.getD j 0)):=by
 rw[Nat.zero_add,Nat.mul_one];unfold wU;rw[List.getElem?_map,List.getElem?_eq_getElem h];simp [List.getD,List.getElem?_eq_getElem h]
theorem ZlO {n:Nat}(h:n<1000000):ZE n=true:=by
 unfold ZE;exact Zk.2 (by have:ZT=4611686018427387904:=rfl;omega)
theorem ZlP {x:Int}(h:Dg 65536 x):∃ p:Nat,x=(p:Int)∧p<65536:=⟨x.toNat,by have:=h.1;omega,by have:=h.1;have:=h.2;omega⟩
section
variable {la lb : List Value} {o c o' c' : Nat} {A B : List Int}
def mSt (o n c o' n' c' z:Nat) (la lb:List Value) (O:List Int) (i:Nat) (v7 v8:Value) (Y:Lf):Prop:=(∃ g,Y.1=mFr o n c o' n' c' z (.int .i64 ((i:Nat):Int)) v7 v8++tl 59 g)∧Y.2.1=hM3 (wU O) lb la
def mOk (z i n':Nat) (O:List Int):Prop:=O.length=z∧(∀ x∈O,Dg 65536 x)∧∀ j,i+n'≤j→O.getD j 0=0
def mIn (o c o' c':Nat) (la lb:List Value) (A B:List Int) (i V:Nat) (m:Nat) (Y:Lf):Prop:=
 ∃ k O c7,m=B.length-k∧k≤B.length∧mOk (A.length+B.length) i B.length O∧c7<65536∧vb 65536 O+c7*65536^(i+k)=V+(A.getD i 0).toNat*vb 65536 (B.take k)*65536^i∧mSt o A.length c o' B.length c' (A.length+B.length) la lb O i (.int .u64 ((c7:Nat):Int)) (.int .i64 ((k:Nat):Int)) Y
def mFi (o c o' c':Nat) (la lb:List Value) (A B:List Int) (i V:Nat) (Y:Lf):Prop:=
 ∃ O c7 v8,mOk (A.length+B.length) i B.length O∧c7<65536∧vb 65536 O+c7*65536^(i+B.length)=V+(A.getD i 0).toNat*vb 65536 B*65536^i∧mSt o A.length c o' B.length c' (A.length+B.length) la lb O i (.int .u64 ((c7:Nat):Int)) v8 Y
theorem Zuo {z i n':Nat}{O:List Int}(h:mOk z i n' O) {j:Nat}(hj:j<i+n') {v:Int}(hv:∀ x∈O.set j v,Dg 65536 x):mOk z i n' (O.set j v):=by
 refine⟨by rw[List.length_set];exact h.1,hv,fun t ht=> ?_⟩;have:=h.2.2 t ht;simp only[List.getD] at*;rw[List.getElem?_set_ne (by omega)];exact this
theorem Zjx (rA:Row la o A) (rB:Row lb o' B) (dA:∀ x∈A,Dg 65536 x) (dB:∀ x∈B,Dg 65536 x) (hz:A.length+B.length<1000000) {i V:Nat}(hi:i<A.length) {Y0:Lf}(h0:mIn o c o' c' la lb A B i V B.length Y0):
  Runs (Zm prog Zg Zn hcV) (.block 2 (.loop (muL f66))) Y0 fun e Y=>match e with | none=>mFi o c o' c' la lb A B i V Y | some none=>False | some (some _)=>False:=by
 refine Runs.forLoop (P:=mFi o c o' c' la lb A B i V) (R:=fun _=>False) (mIn o c o' c' la lb A B i V) ?_ (n:=B.length) h0;rintro m ⟨t,h',s⟩ ⟨k,O,c7,hm,hk,hO,hc,hval,⟨g,ht⟩,hh⟩;simp only at ht hh;subst ht hh;by_cases hlt:k<B.length
 ·have hj:i+k<O.length:=by rw[hO.1];omega
  obtain⟨p,ep,hp⟩:=ZlP (Zd9 dA i);obtain⟨q,eq,hq⟩:=ZlP (Zd9 dB k);obtain⟨d,ed,hd⟩:=ZlP (Zd9 hO.2.1 (i+k));have eij:ijM i k=((i+k:Nat):Int):=by unfold ijM;rw[Zw (by omega) (by omega)];omega
  have hpq:p*q≤65535*65535:=Nat.mul_le_mul (by omega) (by omega);have epq:(p:Int)*(q:Int)=((p*q:Nat):Int):=by simp
  have eT:tM c7 d p q=((c7+d+p*q:Nat):Int):=by
   unfold tM;rw[ZbW (n:=(d:Int)) (by omega) (by omega),ZbW (n:=(p:Int)) (by omega) (by omega),ZbW (n:=(q:Int)) (by omega) (by omega),epq,ZbW (n:=((p*q:Nat):Int)) (by omega) (by omega),ZbW (n:=(c7:Int)+(d:Int)) (by omega) (by omega),ZbW (by omega) (by omega)];omega
  have e1:u64.wrap ((tM c7 d p q).tdiv 65536)=(((c7+d+p*q)/65536:Nat):Int):=by
   rw[eT,Int.tdiv_eq_ediv_of_nonneg (by omega),ZbW (by omega) (by omega)];omega
  have e2:u32.wrap ((tM c7 d p q).tmod 65536)=(((c7+d+p*q) % 65536:Nat):Int):=by
   rw[eT,Int.tmod_eq_emod_of_nonneg (by omega),zT (by omega) (by omega)];omega
  have e3:i64.wrap ((k:Int)+1)=((k+1:Nat):Int):=by rw[Zw (by omega) (by omega)];omega
  have hstep:=Zqg hj hO.2.1 hc hp hq;rw[ed,Xg] at hstep;obtain⟨s1,s2,s3⟩:=hstep;have hw:=Z39 o A.length c o' B.length c' (A.length+B.length) i c7 k d p q undef undef (wU O) lb la g;have lg:Zu [stM (wU O) (ijM i k),inM (ijM i k) (A.length+B.length),d65,ceM lb o' k q,inM k B.length,ceM la o i p,inM i A.length,ceM (wU O) 0 (ijM i k) d,inM (ijM i k) (A.length+B.length),(decide ((k:Int)<((B.length:Nat):Int)),true)]:=by
   have g1:decide (0+(ijM i k).toNat*1<(wU O).length)=true:=Xa (by rw[eij,Xg,zZ];omega);have g2:decide (0≤ijM i k∧ijM i k<((A.length+B.length:Nat):Int))=true:=Xa (by rw[eij];omega);have g3:Z3 (lb[o'+(k:Int).toNat*1]?) (.int .u32 q)=true:=by rw[Xg,Nat.mul_one,rB.cell hlt,eq];simp [Z3]
   have g4:decide (0≤(k:Int)∧(k:Int)<((B.length:Nat):Int))=true:=Xa (by omega);have g5:Z3 (la[o+(i:Int).toNat*1]?) (.int .u32 p)=true:=by rw[Xg,Nat.mul_one,rA.cell hi,ep];simp [Z3]
   have g6:decide (0≤(i:Int)∧(i:Int)<((A.length:Nat):Int))=true:=Xa (by omega);have g7:Z3 ((wU O)[0+(ijM i k).toNat*1]?) (.int .u32 d)=true:=by rw[eij,Xg,Zun hj,ed];simp [Z3]
   exact Zi g1 (Zi g2 (Zi rfl (Zi g3 (Zi g4 (Zi g5 (Zi g6 (Zi g7 (Zi g2 (Zv (Xa (by omega)))))))))))
  rw[e1,e2,e3,eij,Xg,Nat.zero_add,Nat.mul_one,ZlN] at hw;refine (Zb (Zp Ze Z2) hw (by rw[← Xg (i+k),← eij] at*;exact lg)).mono fun e z hz=> ?_;obtain⟨rfl,z1,z2⟩:=hz;refine⟨B.length-(k+1),by omega,k+1,O.set (i+k) (((c7+d+p*q) % 65536:Nat):Int),(c7+d+p*q)/65536,rfl,by omega,Zuo hO (by omega) s3,s2,?_,z1,z2⟩;rw[ZaD,Nat.mul_add,Nat.add_mul,eq,Xg,ep,Xg];rw[ep,Xg] at hval;have x1:p*(65536^k*q)*65536^i=p*q*65536^(i+k):=by rw[Nat.pow_add,Nat.mul_comm (65536^k) q,← Nat.mul_assoc,Nat.mul_assoc (p*q),Nat.mul_comm (65536^k)]
  rw[x1];have x2:i+(k+1)=i+k+1:=by omega
  rw[x2];omega
 ·have hkl:k=B.length:=by omega
  subst hkl;refine (Zb (Zp Ze Z2) (ZyN o A.length c o' B.length c' (A.length+B.length) i c7 ((B.length:Nat):Int) 0 0 0 undef undef (wU O) lb la g) (Zv (Xb (by omega)))).mono fun e z hz=> ?_;obtain⟨rfl,z1,z2⟩:=hz;rw[List.take_length] at hval;exact⟨rfl,O,c7,_,hO,hc,hval,z1,z2⟩
theorem Z6w {T:Tab}{c:Code}{id:Nat}{x:Lf}{P:Lf→Prop}(h:Runs T c x fun e y=>e=none∧P y):Runs T (.block id c) x fun e y=>e=none∧P y:=
 Runs.block h (fun y hy=>hy) (fun y hy=>by cases hy.1) (fun y hy=>by cases hy.1) (fun id' y _ hy=>by cases hy.1)
def mOu (o c o' c':Nat) (la lb:List Value) (A B:List Int) (i:Nat) (Y:Lf):Prop:=
 ∃ O v7 v8,mOk (A.length+B.length) i B.length O∧vb 65536 O=vb 65536 (A.take i)*vb 65536 B∧mSt o A.length c o' B.length c' (A.length+B.length) la lb O i v7 v8 Y
theorem Zjy (rA:Row la o A) (rB:Row lb o' B) (dA:∀ x∈A,Dg 65536 x) (dB:∀ x∈B,Dg 65536 x) (hz:A.length+B.length<1000000) {i:Nat}(hi:i<A.length) {Y0:Lf}(h0:mOu o c o' c' la lb A B i Y0):
  Runs (Zm prog Zg Zn hcV) (muO f66) Y0 fun e Y=>e=none∧mOu o c o' c' la lb A B (i+1) Y:=by
 obtain⟨O,v7,v8,hO,hval,⟨g,ht⟩,hh⟩:=h0;obtain⟨t,h',s⟩:=Y0;simp only at ht hh;subst ht hh;have hT:=Zp Ze Z2;rw[Zib];refine Runs.next (Zb hT (Z35 o A.length c o' B.length c' (A.length+B.length) i 0 0 0 0 0 v7 v8 (wU O) lb la g) (Zv (Xa (by omega)))) fun g s=> ?_;refine Runs.seq (P1:=fun e Y=>e=none∧∃ O v7 v8,mOk (A.length+B.length) (i+1) B.length O∧vb 65536 O=vb 65536 (A.take (i+1))*vb 65536 B∧mSt o A.length c o' B.length c' (A.length+B.length) la lb O i v7 v8 Y) (Z6w ?_) ?_ (fun e y hy=>by cases hy.1)
 ·rw[Zqh];refine Runs.next (Zb hT (Z37 o A.length c o' B.length c' (A.length+B.length) i 0 0 0 0 0 v7 v8 (wU O) lb la g) (fun _ h=>by cases h)) fun g s=> ?_;refine Runs.seq (P1:=fun e Y=>e=none∧mFi o c o' c' la lb A B i (vb 65536 O) Y) ?_ ?_ (fun e y hy=>by cases hy.1)
  ·refine Runs.next (Zb hT (Z38 o A.length c o' B.length c' (A.length+B.length) i 0 0 0 0 0 (.int .u64 0) v8 (wU O) lb la g) (fun _ h=>by cases h)) fun g s=> ?_;refine (Zjx rA rB dA dB hz hi (V:=vb 65536 O) ⟨0,O,0,by omega,by omega,hO,by omega,?_,⟨g,rfl⟩,rfl⟩).mono fun e Y hY=> ?_
   ·simp [vb]
   ·match e,hY with
    | none,hY=>exact⟨rfl,hY⟩
    | some none,hY=>exact hY.elim
    | some (some _),hY=>exact hY.elim
  ·rintro⟨t,h',s⟩ ⟨_,O',c7,w8,hO',hc7,hv',⟨g,ht⟩,hh⟩;simp only at ht hh;subst ht hh;have hj:i+B.length<O'.length:=by rw[hO'.1];omega
   have eij:ijM i ((B.length:Nat):Int)=((i+B.length:Nat):Int):=by unfold ijM;rw[Zw (by omega) (by omega)];omega
   have e1:u32.wrap ((c7:Nat):Int)=((c7:Nat):Int):=zT (by omega) (by omega);have hw:=ZyO o A.length c o' B.length c' (A.length+B.length) i c7 0 0 0 0 undef w8 (wU O') lb la g;have g1:decide (0+(ijM i ((B.length:Nat):Int)).toNat*1<(wU O').length)=true:=Xa (by rw[eij,Xg,zZ];omega);have g2:decide (0≤ijM i ((B.length:Nat):Int)∧ijM i ((B.length:Nat):Int)<((A.length+B.length:Nat):Int))=true:=Xa (by rw[eij];omega);have r:=Zb (s0:=s) hT hw (Zi g1 (Zv g2));rw[e1,eij,Xg,Nat.zero_add,Nat.mul_one,ZlN] at r;refine r.mono fun e z hz=> ?_;obtain⟨rfl,z1,z2⟩:=hz;have hdg:∀ x∈O'.set (i+B.length) ((c7:Nat):Int),Dg 65536 x:=ZlM hO'.2.1 ⟨by omega,by omega⟩ _;refine⟨rfl,O'.set (i+B.length) ((c7:Nat):Int),_,_,⟨by rw[List.length_set];exact hO'.1,hdg,fun j hj'=> ?_⟩,?_,z1,z2⟩
   ·have:=hO'.2.2 j (by omega);simp only[List.getD] at*;rw[List.getElem?_set_ne (by omega)];exact this
   ·have hs:=ZlL (b:=65536) hj ((c7:Nat):Int);rw[hO'.2.2 (i+B.length) (Nat.le_refl _),Xg] at hs;rw[ZaD,Nat.add_mul,← hval];have x1:65536^i*(A.getD i 0).toNat*vb 65536 B=(A.getD i 0).toNat*vb 65536 B*65536^i:=by rw[Nat.mul_assoc,Nat.mul_comm]
    rw[x1];have x2:c7*65536^(i+B.length)=65536^(i+B.length)*c7:=Nat.mul_comm _ _;have x3:(65536:Nat)^(i+B.length)*(0:Int).toNat=0:=by simp
    omega
 ·rintro⟨t,h',s⟩ ⟨_,O',w7,w8,hO',hv',⟨g,ht⟩,hh⟩;simp only at ht hh;subst ht hh;have e3:i64.wrap ((i:Int)+1)=((i+1:Nat):Int):=by rw[Zw (by omega) (by omega)];omega
  have hw:=Z3A o A.length c o' B.length c' (A.length+B.length) i 0 0 0 0 0 w7 w8 (wU O') lb la g;rw[e3] at hw;refine (Zb hT hw (fun _ h=>by cases h)).mono fun e z hz=> ?_;obtain⟨rfl,z1,z2⟩:=hz;exact⟨rfl,O',w7,w8,hO',hv',z1,z2⟩
theorem ZlQ (rA:Row la o A) (rB:Row lb o' B) (dA:∀ x∈A,Dg 65536 x) (dB:∀ x∈B,Dg 65536 x) (hz:A.length+B.length<1000000) {Y0:Lf}(h0:mOu o c o' c' la lb A B 0 Y0):
  Runs (Zm prog Zg Zn hcV) (.block 0 (.loop (muO f66))) Y0 fun e Y=>match e with | none=>mOu o c o' c' la lb A B A.length Y | some none=>False | some (some _)=>False:=by
 refine Runs.forLoop (P:=mOu o c o' c' la lb A B A.length) (R:=fun _=>False) (fun m Y=>∃ i,m=A.length-i∧i≤A.length∧mOu o c o' c' la lb A B i Y) ?_ (n:=A.length) ⟨0,by omega,by omega,h0⟩;rintro m Y ⟨i,hm,hi,hY⟩;by_cases hlt:i<A.length
 ·refine (Zjy rA rB dA dB hz hlt hY).mono fun e z hz'=> ?_;obtain⟨rfl,z1⟩:=hz';exact⟨A.length-(i+1),by omega,i+1,rfl,by omega,z1⟩
 ·have hil:i=A.length:=by omega
  subst hil;obtain⟨O,v7,v8,hO,hval,⟨g,ht⟩,hh⟩:=hY;obtain⟨t,h',s⟩:=Y;simp only at ht hh;subst ht hh;rw[Zib];refine Runs.seq (Zb (Zp Ze Z2) (Z36 o A.length c o' B.length c' (A.length+B.length) ((A.length:Nat):Int) 0 0 0 0 0 v7 v8 (wU O) lb la g) (Zv (Xb (by omega)))) (fun y hy=>by cases hy.1) (fun e y hy=> ?_);obtain⟨e1,z1,z2⟩:=hy;cases e1;exact⟨rfl,O,v7,v8,hO,hval,z1,z2⟩
theorem ZlR (rA:Row la o A) (rB:Row lb o' B) (dA:∀ x∈A,Dg 65536 x) (dB:∀ x∈B,Dg 65536 x) (hz:A.length+B.length<1000000):
  Runs (Zm prog Zg Zn hcV) (zo (Zx2 f66) (.seq (.seq (Z1 (muB f66)) (.block 0 (.loop (muO f66)))) (muE f66))) ([sl 0 o A.length c,sl 1 o' B.length c']++List.replicate 66 undef,h2 la lb,[]) fun e z=>(e=none∨e=some none)∧zd prog f66 z.1 z.2.1=some (sl 2 0 (d16 (vb 65536 A*vb 65536 B)).length (d16 (vb 65536 A*vb 65536 B)).length)∧∃ r,z.2.1.blk? 2=some (wU (d16 (vb 65536 A*vb 65536 B))++r,tU):=by
 have hT:=Zp Ze Z2;have ez:zM A.length B.length=((A.length+B.length:Nat):Int):=by unfold zM;rw[Zw (by omega) (by omega)];omega
 have hp:=ZyL o A.length c o' B.length c' la lb;have mk:ZJ 4 (zM A.length B.length) (zM A.length B.length)=true:=by unfold ZJ;rw[ez];exact Xa (by omega)
 refine Z4 hT hp (Zv mk) fun g=> ?_;rw[ez,Xg];have ew:List.replicate (A.length+B.length) (Value.int .u32 0)=wU (List.replicate (A.length+B.length) 0):=by unfold wU;rw[List.map_replicate]
 rw[ew];have hrep:mOk (A.length+B.length) 0 B.length (List.replicate (A.length+B.length) (0:Int)):=by
  refine⟨by simp,fun x hx=> ?_,fun j _=> ?_⟩
  ·rw[List.eq_of_mem_replicate hx];exact⟨by omega,by omega⟩
  ·simp only[List.getD,List.getElem?_replicate];split<;>rfl
 have hv0:∀ n:Nat,vb 65536 (List.replicate n (0:Int))=0:=fun n=>by
  induction n with
  | zero=>rfl
  | succ n ih=>rw[List.replicate_succ];simp only[vb,ih];rfl
 refine Runs.seq (P1:=fun e Y=>e=none∧mOu o c o' c' la lb A B A.length Y) ?_ ?_ (fun e y hy=>by cases hy.1)
 ·refine Runs.next (Zb hT (ZyM (sl 0 o A.length c) (sl 1 o' B.length c') (sl 2 0 (A.length+B.length) (A.length+B.length)) _ g) (fun _ h=>by cases h)) fun g s=> ?_;refine (ZlQ rA rB dA dB hz ⟨List.replicate (A.length+B.length) 0,_,_,hrep,by rw[hv0];simp [vb],⟨g,rfl⟩,rfl⟩).mono fun e Y hY=> ?_
  match e,hY with
  | none,hY=>exact⟨rfl,hY⟩
  | some none,hY=>exact hY.elim
  | some (some _),hY=>exact hY.elim
 ·rintro⟨t,h',s⟩ ⟨_,O,v7,v8,hO,hval,⟨g,ht⟩,hh⟩;simp only at ht hh;subst ht hh;rw[List.take_length] at hval;have hl:=hO.1;have hrow:ZaB tU (wU O) 0 (A.length+B.length) (A.length+B.length)=true:=by
   have:=Zah (L:=O) (fun x hx=>⟨(hO.2.1 x hx).1,by have:=(hO.2.1 x hx).2;omega⟩) (by rw[hl];omega) (c:=A.length+B.length) (by rw[hl];unfold Zc4;simp;exact .inl (ZlO (by omega)));rw[hl] at this;exact this
  have ec:Zx (wU O) 0 (A.length+B.length)=O:=by
   have:=ZaO O;rw[hl] at this;exact this
  have et:Zc O=(d16 (vb 65536 A*vb 65536 B)).length:=by
   rw[Zam (by omega) hO.2.1,hval];rfl
  refine (Zb hT (ZyP o A.length c o' B.length c' (A.length+B.length) ((A.length:Nat):Int) 0 0 0 0 0 v7 v8 (wU O) lb la g) (Zv hrow)).mono fun e z hz'=> ?_;obtain⟨rfl,⟨g',e1⟩,e2⟩:=hz';refine⟨.inr rfl,?_,?_⟩
  ·rw[e1,e2,ec,et];rfl
  ·rw[e2];refine⟨wU (O.drop (Zc O)),?_⟩;have e3:wU (d16 (vb 65536 A*vb 65536 B))++wU (O.drop (Zc O))=wU O:=by
    unfold d16;rw[← hval,← za (by omega) _ hO.2.1,← zk,List.take_append_drop]
   rw[e3];rfl
end
def ZeS (h:Hp) (p q:Option Addr) (n c n' c':Nat):Bool:=Zaa h p n c && dgB (Zj h p n) && (Zaa h q n' c' && dgB (Zj h q n')) && Nat.blt (n+n') 1000000
def ZyQ:Zag:=fun vals h s=>
 match vals with
 | [.slice (some ⟨b,o,none⟩) n c,.slice (some ⟨b',o',none⟩) n' c']=>ZcV (vO h (some ⟨b,o,none⟩) n*vO h (some ⟨b',o',none⟩) n') h s [(ZeS h (some ⟨b,o,none⟩) (some ⟨b',o',none⟩) n c n' c',true)]
 | _=>none
theorem Zqi:Z8 66 ZyQ:=by
 intro vals h s v h' s' lg hg hl m B w E0 hv;unfold ZyQ at hg;split at hg
 ·rename_i b o n c b' o' n' c';unfold ZcV at hg;cases hg;have l3:=hl _ Xf;simp only[ZeS,Xh] at l3;obtain⟨⟨⟨q1,q2⟩,⟨p1,p2⟩⟩,q4⟩:=l3;have q2:=ZcN q2;have p2:=ZcN p2;have q4:=Zk.1 q4;rcases ZQ q1 with ⟨h0,_⟩ | ⟨b1,o1,x,hp,hx,r1,rs,e0⟩
  ·cases h0
  ·cases hp;rcases ZQ p1 with ⟨h0,_⟩ | ⟨b2,o2,y,hp',hy,t1,ts,f0⟩
   ·cases h0
   ·cases hp';rw[e0] at q2;rw[f0] at p2;obtain⟨h1,h2',h3,h4,h5,h6,h7⟩:=zP r1;obtain⟨k1,k2,k3,k4,k5,k6,k7⟩:=zP t1;have ev:vO h (some ⟨b,o,none⟩) n=vb 65536 (Zx x.1 o n):=by unfold vO;rw[e0]
    have ev':vO h (some ⟨b',o',none⟩) n'=vb 65536 (Zx y.1 o' n'):=by unfold vO;rw[f0]
    have r:=ZlR (c:=c) (c':=c') h1 k1 q2 p2 (by rw[h2',k2];exact q4);rw[h2',k2,← ev,← ev'] at r;have evals:List.map (rn (Zd1 b b')) [sl 0 o n c,sl 1 o' n' c']=[.slice (some ⟨b,o,none⟩) n c,.slice (some ⟨b',o',none⟩) n' c']:=by
     simp [rn,rn2,rn1,sl,Zd1]
    have fin:=ZL (T:=Zm prog Zg Zn hcV) func66 ZfY (ZfF h7 k7) (vals:=[sl 0 o n c,sl 1 o' n' c']) (fun v hv=>by
     simp only[List.mem_cons,List.not_mem_nil,or_false] at hv;rcases hv with h1 | h1<;>rw[h1]<;>rfl) (k:=2) (cs:=wU (d16 (vO h (some ⟨b,o,none⟩) n*vO h (some ⟨b',o',none⟩) n'))) (ty:=tU) (ZbR _) (by kernel_rfl) r.w (by rfl) E0 (s:=Zd1 b b') (ZcL hx h5 h6 hy k5 k6)
    rw[evals] at fin;exact fin
 ·cases hg
def hN2 (lo la:List Value):Hp:=⟨2,[(lo,tU),(la,tR)]⟩
def mNr (o n c z:Nat) (i v7 v8:Value):List Value:=[sl 0 o n c,Zs,undef,undef,Zs,sl 1 0 z z,i,v7,v8]
def zU (n:Nat):List Value:=List.replicate n (.int .u32 0)
theorem ZyR (n:Nat):zU n=wU (List.replicate n 0):=by unfold zU wU;simp
theorem Zic:∀ n:Nat,Zc (List.replicate n 0)=0
 | 0=>rfl
 | n+1=>by
  rw[List.replicate_succ];simp only[Zc];rw[Zic n];rfl
theorem Zsr (n:Nat):Zc (Zx (zU n) 0 n)=0:=by
 have h:=ZaO (List.replicate n 0);rw[List.length_replicate] at h;rw[ZyR,h,Zic]
theorem Zss {n:Nat}(h:n<1000000):ZaB tU (zU n) 0 n n=true:=by
 have:=Zah (L:=List.replicate n 0) (fun x hx=>by rw[List.eq_of_mem_replicate hx];omega) (by simp;omega) (c:=n) (by simp only[List.length_replicate];exact Z2o (by omega));rw[List.length_replicate] at this;rw[ZyR];exact this
def zL (n:Nat):Int:=i64.wrap ((n:Int)+((0:Nat):Int))
def zR (n:Nat):Int:=i64.wrap (((0:Nat):Int)+(n:Int))
theorem Z3B {n:Nat}(h:n<1000000):zL n=(n:Int):=by unfold zL;rw[Zw (by omega) (by omega)];omega
theorem Z3C {n:Nat}(h:n<1000000):zR n=(n:Int):=by unfold zR;rw[Zw (by omega) (by omega)];omega
theorem ZyS (o n c:Nat) (la:List Value):Zh (evL (Zm prog Zg Zn hcV) 200 (Zx2 f66) ([sl 0 o n c,Zs]++List.replicate 66 undef,⟨1,[(la,tR)]⟩,[at_]) ⟨[],[],[]⟩) 6 62 none [sl 0 o n c,Zs,undef,undef,Zs,sl 1 0 (zL n).toNat (zL n).toNat] (hN2 (zU (zL n).toNat) la) [(ZJ 4 (zL n) (zL n),true)]:=by and_intros<;>kernel_rfl
theorem Z3D (o n c z:Nat) (i:Int) (v7 v8:Value) (lo la:List Value) (g:Nat→Value):Zh (evC (Zm prog Zg Zn hcV) 200 false (muO f66) (mNr o n c z (.int .i64 i) v7 v8++tl 59 g,hN2 lo la,[cmp true,cmp false,at_,at_]) ⟨[],[],[]⟩) 9 59 none (mNr o n c z (.int .i64 (i64.wrap (i+1))) (.int .u64 0) (.int .i64 0)) (hN2 (lo.set (0+(ijM i (0:Nat)).toNat*1) (.int .u32 0)) la) [stM lo (ijM i (0:Nat)),inM (ijM i (0:Nat)) z,(decide ((0:Int)<((0:Nat):Int)),false),(decide (i<(n:Int)),true)]:=by and_intros<;>kernel_rfl
theorem ZyT (o n c z:Nat) (i:Int) (v7 v8:Value) (lo la:List Value) (g:Nat→Value):Zh (evC (Zm prog Zg Zn hcV) 200 false (muO f66) (mNr o n c z (.int .i64 i) v7 v8++tl 59 g,hN2 lo la,[cmp false]) ⟨[],[],[]⟩) 9 59 (some (some 0)) (mNr o n c z (.int .i64 i) v7 v8) (hN2 lo la) [(decide (i<(n:Int)),false)]:=by and_intros<;>kernel_rfl
theorem ZyU (o n c z:Nat) (i v7 v8:Value) (lo la:List Value) (g:Nat→Value):Zh (evC (Zm prog Zg Zn hcV) 200 false (muE f66) (mNr o n c z i v7 v8++tl 59 g,hN2 lo la,[]) ⟨[],[],[]⟩) 5 63 (some none) [sl 0 o n c,Zs,undef,undef,sl 1 0 (Zc (Zx lo 0 z)) (Zc (Zx lo 0 z))] (hN2 lo la) [(ZaB tU lo 0 z z,true)]:=by and_intros<;>kernel_rfl
theorem Z6x (o n c:Nat) (la:List Value):Zh (evC (Zm prog Zg Zn hcV) 200 false (Zq f66) ([Zs,sl 0 o n c]++List.replicate 66 undef,⟨1,[(la,tR)]⟩,[at_,cmp false]) ⟨[],[],[]⟩) 5 63 (some none) [Zs,sl 0 o n c,undef,undef,sl 1 0 (Zc (Zx (zU (zR n).toNat) 0 (zR n).toNat)) (Zc (Zx (zU (zR n).toNat) 0 (zR n).toNat))] (hN2 (zU (zR n).toNat) la) [(ZaB tU (zU (zR n).toNat) 0 (zR n).toNat (zR n).toNat,true),(decide ((0:Int)<((0:Nat):Int)),false),(ZJ 4 (zR n) (zR n),true)]:=by and_intros<;>kernel_rfl
theorem Z3E:Zh (evC (Zm prog Zg Zn hcV) 200 false (Zq f66) ([Zs,Zs]++List.replicate 66 undef,⟨0,[]⟩,[at_,cmp false]) ⟨[],[],[]⟩) 5 63 (some none) [Zs,Zs,undef,undef,sl 0 0 0 0] ⟨1,[([],tU)]⟩ [(ZaB tU [] 0 0 0,true),(decide ((0:Int)<((0:Nat):Int)),false),(true,true)]:=by and_intros<;>kernel_rfl
theorem Zev:f66.body=some (Zq f66):=by kernel_rfl
theorem Zup {la:List Value}{o n c:Nat}(hn:n<1000000):
  Runs (Zm prog Zg Zn hcV) (zo (Zx2 f66) (.seq (.seq (Z1 (muB f66)) (.block 0 (.loop (muO f66)))) (muE f66))) ([sl 0 o n c,Zs]++List.replicate 66 undef,⟨1,[(la,tR)]⟩,[]) fun e y=>(e=none∨e=some none)∧zd prog f66 y.1 y.2.1=some (sl 1 0 0 0)∧y.2.1.blk? 1=some (zU n,tU):=by
 have hT:=Zp Ze Z2;have g0:=ZyS o n c la;rw[Z3B hn,Xg] at g0;refine Z4 hT g0 (Zv (by unfold ZJ;exact Xa (by omega))) fun g=> ?_;refine Runs.seq (P1:=fun e' y=>e'=none∧∃ (i v7 v8:Value) (g:Nat→Value),y.1=mNr o n c n i v7 v8++tl 59 g∧y.2.1=hN2 (zU n) la) ?_ ?_ (fun e y he=>by cases he.1)
 ·refine Runs.next (Zb hT (ZyM (sl 0 o n c) Zs (sl 1 0 n n) _ g) (fun _ h=>by cases h)) fun g s=> ?_;refine (Runs.forLoop (R:=fun _=>False) (P:=fun y=>∃ (i v7 v8:Value) (g:Nat→Value),y.1=mNr o n c n i v7 v8++tl 59 g∧y.2.1=hN2 (zU n) la)
   (fun r y=>∃ (k:Nat) (v7 v8:Value) (g:Nat→Value),k+r=n∧y.1=mNr o n c n (.int .i64 (k:Int)) v7 v8++tl 59 g∧y.2.1=hN2 (zU n) la)
   ?_ (n:=n) ⟨0,_,_,g,by omega,rfl,rfl⟩).mono fun e' y he=> ?_
  ·rintro r ⟨t,h',s'⟩ ⟨k,v7,v8,g,hk,ht,hh⟩;simp only at ht hh;subst ht hh;cases r with
   | zero=>
    refine (Zb hT (ZyT o n c n k v7 v8 _ la g) (Zv (Xb (by omega)))).mono fun e' y he=> ?_;obtain⟨rfl,⟨g1,e2⟩,e3⟩:=he;exact⟨rfl,_,_,_,g1,e2,e3⟩
   | succ r=>
    have ei:ijM (k:Int) (0:Nat)=(k:Int):=by unfold ijM;rw[Zw (by omega) (by omega)];omega
    have g1:=Z3D o n c n k v7 v8 (zU n) la g;rw[ei] at g1;have es:(zU n).set (0+((k:Int)).toNat*1) (.int .u32 0)=zU n:=by
     unfold zU;rw[Xg,Nat.zero_add,Nat.mul_one,List.set_replicate_self]
    rw[es] at g1;refine (Zb hT g1 (Zi (by unfold stM zU;exact Xa (by simp;omega)) (Zi (by unfold inM;exact Xa (by omega)) (Zi (by decide) (Zv (Xa (by omega))))))).mono fun e' y he=> ?_;obtain⟨rfl,⟨g2,e2⟩,e3⟩:=he;refine⟨r,by omega,k+1,.int .u64 0,.int .i64 0,g2,by omega,?_,e3⟩;rw[e2,Zw (by omega) (by omega)];rfl
  ·match e',he with
   | none,he=>exact⟨rfl,he⟩
   | some none,he=>exact he.elim
   | some (some _),he=>exact he.elim
 ·rintro⟨t,h',s'⟩ ⟨_,i,v7,v8,g,ht,hh⟩;simp only at ht hh;subst ht hh;have g1:=ZyU o n c n i v7 v8 (zU n) la g;rw[Zsr] at g1;refine (Zb hT g1 (Zv (Zss hn))).mono fun e' y he=> ?_;obtain⟨rfl,⟨g2,e2⟩,e3⟩:=he;refine⟨.inr rfl,?_,?_⟩
  ·rw[e2,e3];rfl
  ·rw[e3];rfl
def ZlS:Zag:=fun vals h s=>
 match vals,s with
 | [.slice p n c,.slice q n' c'],.inr (.inl V)::s'=>ZcV V.toNat h s' [(decide (vO h p n*vO h q n'=V.toNat),true),(ZeS h p q n c n' c',true)]
 | _,_=>none
theorem Zjz:d16 0=[]:=zj 65536
theorem ZlT:Z8 66 ZlS:=by
 intro vals h s v h' s' lg hg hl m B w E hv;unfold ZlS at hg;split at hg
 ·rename_i p n c q n' c' V s2;unfold ZcV at hg;cases hg;have l1:=Xc (hl _ Xe);have l3:=hl _ (Xd _ Xf);have l3':=l3;simp only[ZeS,Xh] at l3;obtain⟨⟨⟨q1,q2⟩,⟨p1,p2⟩⟩,q4⟩:=l3;have q4:=Zk.1 q4;rcases ZQ q1 with ⟨rfl,rfl,rfl,e0⟩ | ⟨b,o,x,rfl,hx,r1,rs,e0⟩
  ·have hV:V.toNat=0:=by
    rw[← l1];unfold vO;rw[e0];simp [vb]
   rw[hV,Zjz];rcases ZQ p1 with ⟨rfl,rfl,rfl,f0⟩ | ⟨b',o',y,rfl,hy,t1,ts,f0⟩
   ·have r:Runs (Zm prog Zg Zn hcV) (Zq f66) ([Zs,Zs]++List.replicate 66 undef,⟨0,[]⟩,[]) fun e z=>(e=none∨e=some none)∧zd prog f66 z.1 z.2.1=some (sl 0 0 0 0)∧∃ r,z.2.1.blk? 0=some (wU []++r,tU):=by
     refine (Zb (Zp Ze Z2) Z3E (Zi (by kernel_rfl) (Zi (by decide) (Zv rfl)))).mono fun e z he=> ?_;obtain⟨rfl,⟨g,e1⟩,e2⟩:=he;exact⟨.inr rfl,by rw[e1,e2];rfl,[],by rw[e2];rfl⟩
    have:=ZL (T:=Zm prog Zg Zn hcV) func66 Zev (h0:=⟨0,[]⟩) ⟨rfl,fun b x hx=>by have:b<0:=Hp.blk_lt hx;omega⟩ (vals:=[Zs,Zs]) (fun v hv=>by
     simp only[List.mem_cons,List.not_mem_nil,or_false] at hv;rcases hv with rfl | rfl<;>rfl) (k:=0) (cs:=wU []) (ty:=tU) (ZbR _) (by kernel_rfl) r.w (by rfl) E (s:=fun i=>i) (fun i x hx _=>by have:i<0:=Hp.blk_lt hx;omega)
    exact this
   ·obtain⟨b1,b2,b3,b4,b5,b6,b7⟩:=zP t1;have g0:=Z6x o' n' c' y.1;rw[Z3C (by omega),Xg,Zsr] at g0;have r:Runs (Zm prog Zg Zn hcV) (Zq f66) ([Zs,sl 0 o' n' c']++List.replicate 66 undef,⟨1,[(y.1,tR)]⟩,[]) fun e z=>(e=none∨e=some none)∧zd prog f66 z.1 z.2.1=some (sl 1 0 0 0)∧∃ r,z.2.1.blk? 1=some (wU []++r,tU):=by
     refine (Zb (Zp Ze Z2) g0 (Zi (Zss (by omega)) (Zi (by decide) (Zv (by unfold ZJ;exact Xa (by omega)))))).mono fun e z he=> ?_;obtain⟨rfl,⟨g,e1⟩,e2⟩:=he;exact⟨.inr rfl,by rw[e1,e2];rfl,zU n',by rw[e2];rfl⟩
    have evals:List.map (rn fun _=>b') [Zs,sl 0 o' n' c']=[.slice none 0 0,.slice (some ⟨b',o',none⟩) n' c']:=by simp [rn,rn2,rn1,sl,Zs]
    have:=ZL (T:=Zm prog Zg Zn hcV) func66 Zev (ZaU b7) (vals:=[Zs,sl 0 o' n' c']) (fun v hv=>by
     simp only[List.mem_cons,List.not_mem_nil,or_false] at hv;rcases hv with rfl | rfl<;>rfl) (k:=1) (cs:=wU []) (ty:=tU) (ZbR _) (by kernel_rfl) r.w (by rfl) E (s:=fun _=>b') (zX hy b5 b6 rfl)
    rw[evals] at this;exact this
  ·rcases ZQ p1 with ⟨rfl,rfl,rfl,f0⟩ | ⟨b',o',y,rfl,hy,t1,ts,f0⟩
   ·have hV:V.toNat=0:=by
     rw[← l1];unfold vO;rw[f0];simp [vb]
    rw[hV,Zjz];obtain⟨b1,b2,b3,b4,b5,b6,b7⟩:=zP r1;have r:Runs (Zm prog Zg Zn hcV) (zo (Zx2 f66) (.seq (.seq (Z1 (muB f66)) (.block 0 (.loop (muO f66)))) (muE f66))) ([sl 0 o n c,Zs]++List.replicate 66 undef,⟨1,[(x.1,tR)]⟩,[]) fun e z=>(e=none∨e=some none)∧zd prog f66 z.1 z.2.1=some (sl 1 0 0 0)∧∃ r,z.2.1.blk? 1=some (wU []++r,tU):=
     (Zup (by omega)).mono fun e z he=>⟨he.1,he.2.1,zU n,he.2.2⟩
    have evals:List.map (rn fun _=>b) [sl 0 o n c,Zs]=[.slice (some ⟨b,o,none⟩) n c,.slice none 0 0]:=by simp [rn,rn2,rn1,sl,Zs]
    have:=ZL (T:=Zm prog Zg Zn hcV) func66 ZfY (ZaU b7) (vals:=[sl 0 o n c,Zs]) (fun v hv=>by
     simp only[List.mem_cons,List.not_mem_nil,or_false] at hv;rcases hv with rfl | rfl<;>rfl) (k:=1) (cs:=wU []) (ty:=tU) (ZbR _) (by kernel_rfl) r.w (by rfl) E (s:=fun _=>b) (zX hx b5 b6 rfl)
    rw[evals] at this;exact this
   ·rw[← l1];exact Zqi _ h [] _ _ [] [(ZeS h (some ⟨b,o,none⟩) (some ⟨b',o',none⟩) n c n' c',true)] rfl (ZB l3') m B w E hv
 ·cases hg
end Go.Proofs.YtgefjidphfdhdaaGreatDoor
namespace Go.Proofs.YtgefjidphfdhdaaGreatDoor.Na
open Go.KRun Go.Nt
set_option maxRecDepth 100000
set_option linter.unusedVariables false
def ZyV:Zag:=fun vals h s=>
 match vals,s with
 | [.slice p n c,.slice q n' c'],.inr (.inr (.inr (.inl true)))::s'=>some (.tuple #[Zs,.nilIface],h,s',[(decide (n=0∨n'=0),true)])
 | [.slice p n c,.slice q n' c'],.inr (.inr (.inr (.inl false))):: .inr (.inl V)::s'=>some (.tuple #[sl h.n 0 (Zc (dg (n+n') V)) (n+n'),.nilIface],h.push (wU (dg (n+n') V)) tU,s',[(decide (ZgY (Zj h p n) (Zj h q n')=dg (n+n') V),true),(zG h p n c,true),(zG h q n' c',true),(!decide (n=0∨n'=0) && Nat.ble (n+n') 8192,true)])
 | _,_=>none
theorem Zhb:Z8 127 ZyV:=by
 intro vals h s v h' s' lg hg hl;unfold ZyV at hg;split at hg
 ·cases hg;exact ZlK _ h [cmp true] _ _ [] _ rfl hl
 ·rename_i p n c q n' c' V s3;cases hg;obtain⟨l1,l2⟩:=Zsk hl;have l1:=Xc l1;refine ZlK _ h [cmp false] _ _ [] _ ?_ l2;simp only[Z33,l1]
 ·cases hg
end Go.Proofs.YtgefjidphfdhdaaGreatDoor.Na
namespace Go.Proofs.YtgefjidphfdhdaaGreatDoor.Na
open Go.Proofs.Tryz
open Go.IntKind
open Go.KRun Go.Nt
set_option maxRecDepth 100000
set_option linter.unusedVariables false
def h5 (la lb R Y Q:List Value):Hp:=⟨5,[(Q,tU),(Y,tU),(R,tU),(lb,tR),(la,tR)]⟩
def toT (k x d:Int):Int:=u64.wrap (k+u64.wrap (u64.wrap x*u64.wrap d))
def toW (k x d:Int):Int:=u32.wrap (toT k x d)
def toC (k x d:Int):Int:=(toT k x d).fdiv (2^min (Int.toNat 32) 64)
def toP (F:Func):List Code:=[Z1 (sn 0 F),Z1 (sn 1 F),Z1 (sn 2 F),Z1 (sn 3 F),Z1 (sn 4 F)]
def toB (F:Func):Code:=Z1 (sn 5 F)
def toL (F:Func):Code:=cIn (cIn (Zz (toB F)))
def toF (o m c n k:Nat) (d cy b:Int) (v11 v12:Value):List Value:=[sl 2 o m c,sl 3 0 n k,uu d,undef,undef,undef,.bool false,i6' n,sl 2 o n c,.int .u64 cy,uu b,v11,v12]
theorem Zuq:f208.body=some (zo (toP f208) (.seq (.seq (Z1 (toB f208)) (.block 0 (.loop (toL f208)))) (sn 6 f208))):=by kernel_rfl
theorem ZyW (o m c n k:Nat) (d:Int) (la lb R Y Q:List Value):Zh (evL (Zo prog Zg ZhL true) 100 (toP f208) ([sl 2 o m c,sl 3 0 n k,uu d]++List.replicate 62 undef,h5 la lb R Y Q,[num 0]) ⟨[],[],[]⟩) 13 52 none (toF o m c n k d 0 0 undef undef) (h5 la lb R Y Q) [(ZE c,true),(ZZ 0 n c c,true),(decide ((c:Int)=0∧(0:Int)≠0),false)]:=by and_intros<;>kernel_rfl
theorem Z6y (o m c n k:Nat) (d cy b:Int) (v11 v12:Value) (h:Hp) (g:Nat→Value):ZfH (evC (Zo prog Zg ZhL true) 100 false (Z1 (toB f208)) (toF o m c n k d cy b v11 v12++tl 52 g,h,[]) ⟨[],[],[]⟩) 13 5 3 44 none (toF o m c n k d cy b v11 v12) [sl 3 0 n k,i6' n,i6' 0] h []:=by and_intros<;>kernel_rfl
theorem ZyX (o m c n k:Nat) (d cy b j:Int) (v11 v12:Value) (h:Hp) (g g':Nat→Value):ZfH (evC (Zo prog Zg ZhL true) 100 false (toL f208) (ml (toF o m c n k d cy b v11 v12) 5 g [sl 3 0 n k,i6' n,i6' j] 44 g',h,[cmp false]) ⟨[],[],[]⟩) 13 5 3 44 (some (some 0)) (toF o m c n k d cy b v11 v12) [sl 3 0 n k,i6' n,i6' j] h [(decide (j<n),false)]:=by and_intros<;>kernel_rfl
theorem Z3F (o m c n k:Nat) (d cy b j x y:Int) (v11 v12:Value) (la lb R Y Q:List Value) (g g':Nat→Value):ZfH (evC (Zo prog Zg ZhL true) 100 false (toL f208) (ml (toF o m c n k d cy b v11 v12) 5 g [sl 3 0 n k,i6' n,i6' j] 44 g',h5 la lb R Y Q,[cmp true,at_,val (uu x),at_,val (uu y),at_,at_]) ⟨[],[],[]⟩) 13 5 3 44 none (toF o m c n k d (toC cy x d) (ZiV y (toW cy x d) b) (i6' j) (uu x)) [sl 3 0 n k,i6' n,i6' (i64.wrap (j+1))] (h5 la lb (R.set (o+j.toNat*1) (uu (ZfK y (toW cy x d) b))) Y Q)
  [(decide ((32:Int)<0),false),(decide (o+j.toNat*1<R.length),true),inR j n,(wd4 y (toW cy x d) b,true),ZbG R o j y,inR j n,ZbG Y 0 j x,inR j n,(decide (j<n),true)]:=by and_intros<;>kernel_rfl
theorem ZyY (e:Bool) (o m c n k:Nat) (d cy b y:Int) (v11 v12 u1 u2 u3:Value) (la lb R Y Q:List Value) (g g':Nat→Value):Zh (evC (Zo prog Zg ZhL true) 100 false (sn 6 f208) (ml (toF o m c n k d cy b v11 v12) 5 g [u1,u2,u3] 44 g',h5 la lb R Y Q,[at_,val (uu y),at_,at_,cmp e]) ⟨[],[],[]⟩) 7 58 (some none) [sl 2 o m c,sl 3 0 n k,uu d,undef,undef,undef,.bool e] (h5 la lb (R.set (o+((n:Int)).toNat*1) (uu (ZfK y (u32.wrap cy) b))) Y Q)
  [(ZiV y (u32.wrap cy) b !=0,e),(decide (o+((n:Int)).toNat*1<R.length),true),inR n m,(wd4 y (u32.wrap cy) b,true),ZbG R o n y,inR n m]:=by
 cases e<;>exact by and_intros<;>kernel_rfl
end Go.Proofs.YtgefjidphfdhdaaGreatDoor.Na
