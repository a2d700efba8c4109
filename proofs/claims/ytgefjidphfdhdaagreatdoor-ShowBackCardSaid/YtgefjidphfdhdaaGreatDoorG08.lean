/-
  ConO6, NumDn, ConO7, ConO8, NumQt, ConO9, ConOA, ConOB, SlK, PwD, PwE, PwF, ConNK
-/
import Derived.Test.YtgefjidphfdhdaaGreatDoorG07
namespace Go.Proofs.YtgefjidphfdhdaaGreatDoor.Na
open Go.Proofs.Tryz
open Go.IntKind
open Go.KRun Go.Nt
set_option maxRecDepth 100000
set_option linter.unusedVariables false
def dnX (x k:Int):Int:=x.fdiv (2^min k.toNat 32)
def dnW (x k l:Int):Int:=brr (dnX x k) l
def dnH (x k:Int):Int:=u32.wrap (x*2^min (i64.wrap (32-k)).toNat 32)
def mdP (F:Func):List Code:=[ZA (sn 0 F),ZA (sn 1 F)]
def mdL (F:Func):Code:=cIn (cIn (sn 2 F))
def mdF (w:Value) (k l i:Int) (x:Value):List Value:=[w,i6' k,undef,undef,uu l,i6' i,x]
theorem ZuJ:f190.body=some (Zaj (mdP f190) (.block 0 (.loop (mdL f190)))):=by kernel_rfl
theorem Zz7 (b o m c:Nat) (k:Int) (h:Hp):Zk (evL (Ze prog Zi Zn true) 100 (mdP f190) ([sl b o m c,i6' k]++List.replicate 28 undef,h,[]) ⟨[],[],[]⟩) 7 23 none (mdF (sl b o m c) k 0 (n1 m) undef) h []:=by and_intros<;>kernel_rfl
theorem Zz8 (w x:Value) (k l i:Int) (h:Hp) (g:Nat→Value):Zk (evC (Ze prog Zi Zn true) 100 false (mdL f190) (mdF w k l i x++tl 23 g,h,[cmp false]) ⟨[],[],[]⟩) 7 23 (some (some 0)) (mdF w k l i x) h [(decide (i≥0),false)]:=by and_intros<;>kernel_rfl
theorem Z3V (o m c:Nat) (k l i x:Int) (x0:Value) (la lb R Y Q:List Value) (g:Nat→Value):Zk (evC (Ze prog Zi Zn true) 100 false (mdL f190) (mdF (sl 2 o m c) k l i x0++tl 23 g,h5 la lb R Y Q,[cmp true,at_,val (uu x),at_,at_]) ⟨[],[],[]⟩) 7 23 none (mdF (sl 2 o m c) k (dnH x k) (i64.wrap (i-1)) (uu x)) (h5 la lb (R.set (o+i.toNat*1) (uu (dnW x k l))) Y Q)
  [(decide (i64.wrap (32-k)<0),false),(decide (o+i.toNat*1<R.length),true),inR i m,(decide (k<0),false),ZbO R o i x,inR i m,(decide (i≥0),true)]:=by and_intros<;>kernel_rfl
theorem Zz9 (w x:Value) (k l i:Int) (h:Hp) (g:Nat→Value):zE prog f190 (mdF w k l i x++tl 23 g) h=some (.tuple #[]):=by kernel_rfl
end Go.Proofs.YtgefjidphfdhdaaGreatDoor.Na
namespace Go.Nt
theorem ZlD {p q x U:Int}(hq:1≤q) (hp:1≤p) (hpq:q*p=4294967296) (hx:0≤x∧x<4294967296) (_hU:0≤U):
  (0≤x/q∧x/q<p)∧(0≤U % q∧U % q<q)∧(0≤x/q+p*(U % q)∧x/q+p*(U % q)<4294967296)∧(x+4294967296*U)/q=x/q+p*(U % q)+4294967296*(U/q)∧(x+4294967296*U) % q=x % q:=by
 have h1:0≤x/q:=Int.ediv_nonneg hx.1 (by omega);have h2:x/q<p:=Int.ediv_lt_of_lt_mul (by omega) (by rw[Int.mul_comm,hpq];exact hx.2);have h3:=Int.emod_nonneg U (show q≠0 by omega);have h4:=Int.emod_lt_of_pos U (show 0<q by omega);have h5:p*(U % q)≤p*(q-1):=Int.mul_le_mul_of_nonneg_left (by omega) (by omega);have h6:p*(q-1)=4294967296-p:=by rw[Int.mul_sub,Int.mul_one,Int.mul_comm,hpq]
 have h7:0≤p*(U % q):=Int.mul_nonneg (by omega) h3;have hU':=Int.emod_add_mul_ediv U q;have e1:x+4294967296*U=x+q*(p*U):=by rw[← Int.mul_assoc,hpq]
 have e2:p*U=p*(U % q)+4294967296*(U/q):=by
  have:p*U=p*(U % q+q*(U/q)):=by rw[hU']
  rw[this,Int.mul_add,← Int.mul_assoc,Int.mul_comm p q,hpq]
 refine⟨⟨h1,h2⟩,⟨h3,h4⟩,by omega,?_,?_⟩
 ·rw[e1,Int.add_mul_ediv_left _ _ (by omega),e2];omega
 ·rw[e1,Int.add_mul_emod_self_left]
end Go.Nt
namespace Go.Proofs.YtgefjidphfdhdaaGreatDoor.Na
open Go.Proofs.Tryz
open Go.IntKind
open Go.KRun Go.Nt
set_option maxRecDepth 100000
set_option linter.unusedVariables false
theorem Z3W {x U:Int}{k:Nat}(hk:k<32) (hx:0≤x∧x<4294967296) (hU:0≤U):dnW x k (2^(32-k)*(U % 2^k))=x/2^k+2^(32-k)*(U % 2^k)∧dnH x k=2^(32-k)*(x % 2^k):=by
 have q1:(1:Int)≤2^k:=by have:(0:Int)<2^k:=Int.pow_pos (by omega);omega
 have p1:(1:Int)≤2^(32-k):=by have:(0:Int)<2^(32-k):=Int.pow_pos (by omega);omega
 have hpq:=Zd7 (show k≤32 by omega);obtain⟨⟨h1,h2⟩,⟨h3,h4⟩,⟨h5,h6⟩,_,_⟩:=ZlD q1 p1 hpq hx hU;have eX:dnX x k=x/2^k:=by
  unfold dnX;rw[Xg,show min k 32=k from by omega,Int.fdiv_eq_ediv_of_nonneg _ (by omega)]
 constructor
 ·unfold dnW brr;rw[eX,BitVec.or_comm,Zsp h3 h1 h2 (by omega),ZgJ,Int.emod_eq_of_lt (by omega) (by omega)];omega
 ·unfold dnH;rw[Zv (by omega) (by omega),show min ((32:Int)-(k:Nat)).toNat 32=32-k from by omega,ZgJ,← hpq,Int.mul_comm x,Int.mul_comm (2^k)];exact Int.mul_emod_mul_of_pos _ _ (by omega)
theorem ZuK {F G la lb Y Q:List Value}{o c k:Nat}{L:List Int}(hF:F.length=o) (hL:wds L) (hk:k<32) (hN:L.length<1099511627776):
  Runs (Ze prog Zi Zn true) (Zaj (mdP f190) (.block 0 (.loop (mdL f190)))) ([sl 2 o L.length c,i6' k]++List.replicate 28 undef,h5 la lb (F++(wU L++G)) Y Q,[]) fun e y=>(e=none∨e=some none)∧zE prog f190 y.1 y.2.1=some (.tuple #[])∧y.2.1.cut 5=h5 la lb (F++(wU (dg L.length (vN L/2^k))++G)) Y Q:=by
 have hT:=Zd Zh;have q1:(1:Int)≤2^k:=by have:(0:Int)<2^k:=Int.pow_pos (by omega);omega
 have p1:(1:Int)≤2^(32-k):=by have:(0:Int)<2^(32-k):=Int.pow_pos (by omega);omega
 have hpq:=Zd7 (show k≤32 by omega);have e0:L=L.take L.length++dg (L.length-L.length) (vN (L.drop L.length)/2^k):=by rw[List.take_length,Nat.sub_self];simp [dg]
 refine Zz hT (Zz7 2 o L.length c k _) (fun x hx=>by cases hx) fun g=> ?_;refine (Runs.forLoop (R:=fun _=>False) (P:=fun y=>∃ (l i:Int) (x:Value) (g:Nat→Value),y.1=mdF (sl 2 o L.length c) k l i x++tl 23 g∧y.2.1=h5 la lb (F++(wU (dg L.length (vN L/2^k))++G)) Y Q)
  (fun r y=>∃ (x0:Value) (g:Nat→Value),r≤L.length∧y.1=mdF (sl 2 o L.length c) k (2^(32-k)*(vN (L.drop r) % 2^k)) ((r:Int)-1) x0++tl 23 g∧y.2.1=h5 la lb (F++(wU (L.take r++dg (L.length-r) (vN (L.drop r)/2^k))++G)) Y Q)
  ?_ (n:=L.length) ⟨undef,g,Nat.le_refl _,?_,by rw[← e0]⟩).mono fun e' y he=> ?_
 ·rintro r ⟨t,h',s'⟩ ⟨x0,g,hr,ht,hh⟩;simp only at ht hh;subst ht hh;cases r with
  | zero=>
   refine (Zc hT (Zz8 _ x0 k _ _ _ g) (Z7 (Xb (by omega)))).mono fun e' y he=> ?_;obtain⟨rfl,⟨g1,e2⟩,e3⟩:=he;exact⟨rfl,_,_,_,g1,e2,e3⟩
  | succ r=>
   have hlt:r<L.length:=by omega
   have hx:=hL (L.getD r 0) (by simp [List.getD,List.getElem?_eq_getElem hlt]);have et:=Zae hlt;have ed:L.drop r=L.getD r 0::L.drop (r+1):=by
    rw[List.drop_eq_getElem_cons hlt];simp [List.getD,List.getElem?_eq_getElem hlt]
   generalize L.getD r 0=x at*;have hU:=(Zax (L.drop (r+1)) (fun z hz=>hL z (List.mem_of_mem_drop hz))).1;have hsp:L.take (r+1)++dg (L.length-(r+1)) (vN (L.drop (r+1))/2^k)=L.take r++x::dg (L.length-(r+1)) (vN (L.drop (r+1))/2^k):=by rw[et];simp
   rw[hsp];generalize hux:L.drop (r+1)=ux at*;obtain⟨w1,w2⟩:=Z3W hk hx hU;obtain⟨_,_,⟨w3,w4⟩,w5,w6⟩:=ZlD q1 p1 hpq hx hU;have lt:(L.take r).length=r:=by rw[List.length_take];omega
   have cS:=ZdB hF (L.take r) x (dg (L.length-(r+1)) (vN ux/2^k)) G;have eS:=ZdC hF (L.take r) x (x/2^k+2^(32-k)*(vN ux % 2^k)) (dg (L.length-(r+1)) (vN ux/2^k)) G;rw[lt] at cS eS;have lS:o+r<(F++(wU (L.take r++x::dg (L.length-(r+1)) (vN ux/2^k))++G)).length:=(List.getElem?_eq_some_iff.1 cS).1;have ei:((r+1:Nat):Int)-1=(r:Int):=by omega
   have g1:=Z3V o L.length c k (2^(32-k)*(vN ux % 2^k)) r x x0 la lb (F++(wU (L.take r++x::dg (L.length-(r+1)) (vN ux/2^k))++G)) Y Q g;rw[w1,w2,Xg,Nat.mul_one,eS] at g1;rw[ei];have l2:(inR r L.length).1=(inR r L.length).2:=Xa (by omega);have d1:decide (i64.wrap (32-(k:Int))<0)=false:=by
    rw[Zv (by omega) (by omega)];exact Xb (by omega)
   have d2:decide ((k:Int)<0)=false:=Xb (by omega);have d3:decide ((r:Int)≥0)=true:=Xa (by omega);have d4:decide (o+r<(F++(wU (L.take r++x::dg (L.length-(r+1)) (vN ux/2^k))++G)).length)=true:=Xa lS;refine (Zc hT g1 (Zj d1 (Zj d4 (Zj l2 (Zj d2 (Zj (zT cS) (Zj l2 (Z7 d3)))))))).mono fun e' y he=> ?_;obtain⟨rfl,⟨g2,e2⟩,e3⟩:=he;refine⟨r,by omega,uu x,g2,by omega,?_,?_⟩
   ·rw[e2,ed];simp only[vN];rw[w6,Zv (by omega) (by omega)]
   ·rw[e3,ed];simp only[vN];rw[w5,show L.length-r=(L.length-(r+1))+1 by omega];simp only[dg];have m1:(x/2^k+2^(32-k)*(vN ux % 2^k)+4294967296*(vN ux/2^k)) % 4294967296=x/2^k+2^(32-k)*(vN ux % 2^k):=by omega
    have m2:(x/2^k+2^(32-k)*(vN ux % 2^k)+4294967296*(vN ux/2^k))/4294967296=vN ux/2^k:=by omega
    rw[m1,m2];simp
 ·show mdF _ _ _ _ _++_=_;rw[List.drop_length,show n1 L.length=((L.length:Nat):Int)-1 from by unfold n1;rw[Zv (by omega) (by omega)]];simp [vN]
 ·match e',he with
  | none,he=>
   obtain⟨l,i,x,g,e1,e2⟩:=he;refine⟨.inl rfl,?_,?_⟩
   ·rw[e1];exact Zz9 _ _ _ _ _ _ _
   ·rw[e2];rfl
  | some none,he=>exact he.elim
  | some (some _),he=>exact he.elim
def ZzA (la lb R Y Q:List Value) (t0 t1 t2 t3 t4:TypeId) (o n c:Nat) (k:Int):Bool:=Nat.beq t0 tR && Nat.beq t1 tR && Nat.beq t2 tU && Nat.beq t3 tU && Nat.beq t4 tU && Zu tU R o n c && Nat.blt n 1099511627776 && la.all still && lb.all still && Y.all still && Q.all still && decide (0≤k∧k<32)
def Z3X:Zba:=fun vals h s=>
 match vals,h with
 | [.slice (some ⟨2,o,none⟩) n c,.int .i64 k],⟨5,[(Q,t4),(Y,t3),(R,t2),(lb,t1),(la,t0)]⟩=>some (.tuple #[],h5 la lb (tmS R o n (dg n (vN (Zt R o n)/2^k.toNat))) Y Q,s,[(ZzA la lb R Y Q t0 t1 t2 t3 t4 o n c k,true)])
 | _,_=>none
theorem ZuL:ZJ 190 Z3X:=by
 intro vals h s v h' s' lg hg hl m B w E hv;unfold Z3X at hg;split at hg
 ·rename_i o n c k Q t4 Y t3 R t2 lb t1 la t0;cases hg;have q:=hl _ Xf;unfold ZzA at q;simp only[Xh,Xi] at q;obtain⟨⟨⟨⟨⟨⟨⟨⟨⟨⟨⟨q0,q1⟩,q2⟩,q3⟩,q4⟩,ra⟩,qN⟩,s0⟩,s1⟩,s2⟩,s3⟩,k0,k1⟩:=q;have q0:=Xj q0;have q1:=Xj q1;have q2:=Xj q2;have q3:=Xj q3;have q4:=Xj q4;subst q0 q1 q2 q3 q4;obtain⟨a1,a2,a3,a4,a5,a6,a7⟩:=Z4 ra;obtain⟨K,rfl⟩:=Int.eq_ofNat_of_zero_le k0;obtain⟨eS,hF⟩:=Zaw ra;have r:=ZuK (G:=R.drop (o+n)) (la:=la) (lb:=lb) (Y:=Y) (Q:=Q) (c:=c) (k:=K) hF a1.rng (by omega) (by rw[a2];exact Zl.1 qN);rw[a2,← eS] at r;have ht:(h5 la lb (tmS R o n (dg n (vN (Zt R o n)/2^K))) Y Q).tight=true:=by
   unfold Hp.tight tmS h5;simp only[List.all_cons,List.all_nil,List.all_append,Bool.and_true,Xh];refine⟨ZM (by omega) s3,ZM (by omega) s2,⟨?_,Za1 _ _,?_⟩,ZM (by omega) s1,ZM (by omega) s0⟩
   ·rw[List.all_eq_true];exact fun v hv=>ZY (by omega) (a7 v (List.mem_of_mem_take hv))
   ·rw[List.all_eq_true];exact fun v hv=>ZY (by omega) (a7 v (List.mem_of_mem_drop hv))
  exact ZI (T:=Ze prog Zi Zn true) func190 ZuJ (vals:=[sl 2 o n c,i6' K]) (v:= .tuple #[]) (h:=h5 la lb R Y Q) (by rfl) ht r m B w E hv
 ·cases hg
def hcD:Hc:=zJ 189 Z3U (zJ 130 ZuI (zJ 190 Z3X (zJ 132 Zj2 (zJ 187 Z2W (zJ 131 ZeK hcN)))))
theorem ZzB:HcOk hcD:=Zq func189 rfl ZuF (Zq func130 rfl ZpB (Zq func190 rfl ZuL (Zq func132 rfl Zcb (Zq func187 rfl Zd2 (Zq func131 rfl ZaD zo)))))
def dmP (F:Func):List Code:=[ZA (sn 0 F),ZA (sn 1 F),ZA (sn 2 F),ZA (sn 3 F),ZA (sn 4 F),ZA (sn 5 F),ZA (sn 6 F),ZA (sn 7 F),ZA (sn 8 F),ZA (sn 9 F),ZA (sn 10 F),ZA (sn 11 F)]
def dmL (F:Func):Code:=cIn (cIn (ZV (ZA (sn 12 F))))
theorem ZuM:f152.body=some (Zaj (dmP f152) (.seq (.seq (ZA (ZA (sn 12 f152))) (.block 0 (.loop (dmL f152)))) (sn 13 f152))):=by kernel_rfl
theorem Zdd:f152.body=some (Zw f152):=by kernel_rfl
def dmU (x:Int):Int:=i64.wrap (32-((Go.bitLen x.toNat:Nat):Int))
def dmQ (n n':Nat):Int:=i64.wrap (i64.wrap ((n:Int)-(n':Int))+1)
def dmF (o n c o' n' c' zr zb zq:Nat) (u:Int):List Value:=[sl 0 o n c,sl 1 o' n' c',undef,undef,ZD,ZD,.nilIface,.nilIface,sl 2 0 zr zr,i6' u,sl 3 0 zb zb,sl 4 0 zq zq]
def dmY (lb:List Value) (o' n':Nat) (x:Int):List Value:=upT (cpS lb o' n') 0 ((n':Int)).toNat (dmU x)
def dmR (la:List Value) (o n:Nat) (x:Int):List Value:=upT (cpy la o n) 0 (nP n).toNat (dmU x)
theorem ZzC (o n c o' n' c':Nat) (x:Int) (la lb:List Value):Zk (evL (Zx prog Zi Zea hcD) 300 (dmP f152) ([sl 0 o n c,sl 1 o' n' c']++List.replicate 87 undef,h2 la lb,[cmp false,cmp false,at_,at_,cmp false,at_,val (uu x),at_,at_,at_]) ⟨[],[],[]⟩) 12 77 none (dmF o n c o' n' c' (nP n).toNat ((n':Int)).toNat (dmQ n n').toNat (dmU x)) (h5 la lb (dmR la o n x) (dmY lb o' n' x) (List.replicate (dmQ n n').toNat (uu 0)))
  [(ZO 4 (dmQ n n') (dmQ n n'),true),(Zo3 (dmY lb o' n' x) la lb (cpy la o n) tR tR tU tU 0 (nP n).toNat (nP n).toNat (dmU x),true),(Zo3 (cpy la o n) la lb (cpS lb o' n') tR tR tU tU 0 ((n':Int)).toNat ((n':Int)).toNat (dmU x),true),(Z39 lb o' n',true),(ZO 4 n' n',true),(decide (0≤x∧x<4294967296),true),ZbO lb o' (n1 n') x,inR (n1 n') n',
   (decide (ZbG (Zt la o n) (Zt lb o' n')<0),false),(Zu tR la o n c,true),(Zu tR lb o' n' c',true),(Z2X la o n,true),(ZO 4 (nP n) (nP n),true),((n':Int)==0,false),(Zu tR la o n c,true),(Zu tR lb o' n' c',true),(ZH (Zt la o n) || ZH (Zt lb o' n'),false)]:=by and_intros<;>kernel_rfl
def dmG (o n c o' n' c' zr zb zq:Nat) (u i:Int):List Value:=[sl 0 o n c,sl 1 o' n' c',undef,undef,ZD,ZD,.nilIface,.nilIface,sl 2 0 zr zr,i6' u,sl 3 0 zb zb,sl 4 0 zq zq,i6' i]
theorem Z7c (o n c o' n' c' zr zb zq:Nat) (u:Int) (h:Hp) (g:Nat→Value):Zk (evC (Zx prog Zi Zea hcD) 300 false (ZA (ZA (sn 12 f152))) (dmF o n c o' n' c' zr zb zq u++tl 77 g,h,[]) ⟨[],[],[]⟩) 13 76 none (dmG o n c o' n' c' zr zb zq u (n1 zq)) h []:=by and_intros<;>kernel_rfl
theorem ZzD (o n c o' n' c' zr zb zq:Nat) (u i:Int) (h:Hp) (g:Nat→Value):Zk (evC (Zx prog Zi Zea hcD) 300 false (dmL f152) (dmG o n c o' n' c' zr zb zq u i++tl 76 g,h,[cmp false]) ⟨[],[],[]⟩) 13 76 (some (some 0)) (dmG o n c o' n' c' zr zb zq u i) h [(decide (i≥0),false)]:=by and_intros<;>kernel_rfl
def dmH (i:Int) (zb:Nat):Int:=i64.wrap (i64.wrap (i+(zb:Int))+1)
def dmN (i:Int) (zb:Nat):Nat:=(dmH i zb).toNat-i.toNat
theorem Z3Y (o n c o' n' c' zr zb zq:Nat) (u i:Int) (la lb R Y Q:List Value) (g:Nat→Value):Zk (evC (Zx prog Zi Zea hcD) 300 false (dmL f152) (dmG o n c o' n' c' zr zb zq u i++tl 76 g,h5 la lb R Y Q,[cmp true,num 0,at_,at_]) ⟨[],[],[]⟩) 13 76 none (dmG o n c o' n' c' zr zb zq u (i64.wrap (i-1)))
  (h5 la lb (tmS R (pJ i) (dmN i zb) (dg (dmN i zb) (vN (Zt R (pJ i) (dmN i zb)) % vN (Zt Y 0 zb)))) Y (Q.set (pJ i) (uu (vN (Zt R (pJ i) (dmN i zb))/vN (Zt Y 0 zb)))))
  [(decide (pJ i<Q.length),true),inR i zq,(ZjD la lb R Y Q tR tR tU tU tU (pJ i) (dmN i zb) (zr-i.toNat) zb zb && decide (0<zb∧0<(Zt Y 0 zb).getD (zb-1) 0∧vN (Zt R (pJ i) (dmN i zb))<4294967296*vN (Zt Y 0 zb)),true),(Z8 zr,true),(ZR i (dmH i zb) zr zr,true),(decide ((zr:Int)=i∧i≠0),false),(decide (i≥0),true)]:=by and_intros<;>kernel_rfl
def dmD (R:List Value) (zr:Nat) (u:Int):List Value:=tmS R 0 zr (dg zr (vN (Zt R 0 zr)/2^u.toNat))
theorem ZzE (o n c o' n' c' zr zb zq:Nat) (u i:Int) (la lb R Y Q:List Value) (g:Nat→Value):Zk (evC (Zx prog Zi Zea hcD) 300 false (sn 13 f152) (dmG o n c o' n' c' zr zb zq u i++tl 76 g,h5 la lb R Y Q,[]) ⟨[],[],[]⟩) 7 82 (some none) [sl 0 o n c,sl 1 o' n' c',undef,undef,sl 4 0 (Zg (Zt Q 0 zq)) zq,sl 2 0 (Zg (Zt (dmD R zr u) 0 zr)) zr,.nilIface] (h5 la lb (dmD R zr u) Y Q)
  [(Zu tU (dmD R zr u) 0 zr zr,true),(Zu tU Q 0 zq zq,true),(ZzA la lb R Y Q tR tR tU tU tU 0 zr zr u,true)]:=by and_intros<;>kernel_rfl
end Go.Proofs.YtgefjidphfdhdaaGreatDoor.Na
namespace Go.Nt
theorem Ziu:∀ (a b:Nat) (V:Int),dg (a+b) V=dg a V++dg b (V/4294967296^a)
 | 0,b,V=>by simp [dg]
 | a+1,b,V=>by
  rw[show a+1+b=(a+b)+1 by omega];simp only[dg];rw[Ziu a b,pw,Int.ediv_ediv_of_nonneg (show (0:Int)≤4294967296 by omega)];rfl
theorem Ziv (i m j:Nat) (W:Int):dg (i+(m+j)) W=dg i W++(dg m (W/4294967296^i)++dg j (W/4294967296^i/4294967296^m)):=by
 rw[Ziu,Ziu]
def qtW (W X:Int) (i:Nat):Int:=W % 4294967296^i+4294967296^i*X
theorem ZuN (W X:Int) (i:Nat):qtW W X i/4294967296^i=X:=by
 have hp:=Zad i;unfold qtW;rw[Int.add_mul_ediv_left _ _ (by omega),Int.ediv_eq_zero_of_lt (Int.emod_nonneg _ (by omega)) (Int.emod_lt_of_pos _ hp),Int.zero_add]
theorem ZuO (W X:Int) (i:Nat):dg i (qtW W X i)=dg i W:=by
 have h:=Int.emod_add_mul_ediv W (4294967296^i);have e:qtW W X i=W+4294967296^i*(X-W/4294967296^i):=by
  unfold qtW;rw[Int.mul_sub];omega
 rw[e,Zch]
theorem ZpC {i m j:Nat}{W X:Int}(hX:0≤X∧X<4294967296^m):dg i W++(dg m X++dg j 0)=dg (i+(m+j)) (qtW W X i):=by
 rw[Ziv,ZuO,ZuN,Int.ediv_eq_zero_of_lt hX.1 hX.2]
theorem ZpD {W B W0 v:Int}{i n:Nat}(hB:0<B∧B<4294967296^n) (hW:0≤W∧W<B*4294967296^(i+1)) (h:W0=W+B*(4294967296^(i+1)*v)):
  (0≤W/4294967296^i∧W/4294967296^i<4294967296*B∧W/4294967296^i<4294967296^(n+1))∧(0≤W/4294967296^i % B∧W/4294967296^i % B<4294967296^(n+1))∧(0≤qtW W (W/4294967296^i % B) i∧qtW W (W/4294967296^i % B) i<B*4294967296^i)∧W0=qtW W (W/4294967296^i % B) i+B*(4294967296^i*(W/4294967296^i/B+4294967296*v)):=by
 have hp:=Zad i;have hn:=Zad n;have hd:=Int.emod_add_mul_ediv W (4294967296^i);have h1:=Int.emod_nonneg W (show (4294967296:Int)^i≠0 by omega);have h2:=Int.emod_lt_of_pos W hp;have t0:0≤W/4294967296^i:=Int.ediv_nonneg hW.1 (by omega);have t1:W/4294967296^i<4294967296*B:=Int.ediv_lt_of_lt_mul hp (by
  have:=hW.2;rw[pw,← Int.mul_assoc,Int.mul_comm B 4294967296] at this;exact this)
 have t2:W/4294967296^i<4294967296^(n+1):=by rw[pw];omega
 generalize hT:W/4294967296^i=T at*;have x0:=Int.emod_nonneg T (show B≠0 by omega);have x1:=Int.emod_lt_of_pos T hB.1;have hx:=Int.emod_add_mul_ediv T B;generalize T % B=X at*;generalize T/B=q at*;have x2:X<4294967296^(n+1):=by rw[pw];omega
 have y1:4294967296^i*X≤4294967296^i*(B-1):=Int.mul_le_mul_of_nonneg_left (by omega) (by omega);have y2:0≤4294967296^i*X:=Int.mul_nonneg (by omega) x0;rw[Int.mul_sub,Int.mul_one,Int.mul_comm _ B] at y1;refine⟨⟨t0,t1,t2⟩,⟨x0,x2⟩,?_,?_⟩
 ·unfold qtW;omega
 ·unfold qtW;have hT2:4294967296^i*T=4294967296^i*X+4294967296^i*(B*q):=by rw[← Int.mul_add,hx]
  rw[h,pw,Int.mul_add (4294967296^i) q,Int.mul_add B];have e1:B*(4294967296^i*q)=4294967296^i*(B*q):=by rw[← Int.mul_assoc,Int.mul_comm B,Int.mul_assoc]
  have e2:4294967296^i*(4294967296*v)=4294967296*4294967296^i*v:=by rw[← Int.mul_assoc,Int.mul_comm _ (4294967296:Int)]
  rw[e1,e2];omega
theorem ZzF {W B W0 v:Int}(hW:0≤W∧W<B) (h:W0=W+B*v):v=W0/B∧W=W0 % B:=by
 subst h;rw[Int.add_mul_ediv_left _ _ (by omega),Int.ediv_eq_zero_of_lt hW.1 hW.2,Int.add_mul_emod_self_left,Int.emod_eq_of_lt hW.1 hW.2];omega
theorem ZuP {V:Int}{n:Nat}(hn:0<n) (h0:4294967296^(n-1)≤V) (h1:V<4294967296^n):0<(dg n V).getD (n-1) 0:=by
 have e:dg n V=dg (n-1) V++dg 1 (V/4294967296^(n-1)):=by
  rw[← Ziu];congr 1;omega
 have hp:=Zad (n-1);have h2:(1:Int)≤V/4294967296^(n-1):=(Int.le_ediv_iff_mul_le hp).2 (by omega);have h3:V/4294967296^(n-1)<4294967296:=Int.ediv_lt_of_lt_mul hp (by
  rw[← pw,show n-1+1=n by omega];exact h1)
 have e2:(dg (n-1) V++dg 1 (V/4294967296^(n-1)))[n-1]? =some (V/4294967296^(n-1) % 4294967296):=by
  rw[List.getElem?_append_right (by rw[ZB];omega),ZB,Nat.sub_self];rfl
 rw[e,List.getD,e2];simp only[Option.getD_some];omega
theorem ZuQ {L:List Int}{n k:Nat}{x b:Int}(hL:wds L) (hl:L.length=n) (hn:0<n) (hx:L.getD (n-1) 0=x) (hb:x<b) (hbk:b*2^k≤4294967296):vN L*2^k<4294967296^n:=by
 have eL:L=L.take (n-1)++[x]:=by
  have h2:=Zae (L:=L) (k:=n-1) (by omega);rw[← hx,← h2,show n-1+1=L.length by omega,List.take_length]
 have vL:vN L=vN (L.take (n-1))+4294967296^(n-1)*x:=by
  have:vN L=vN (L.take (n-1)++[x]):=by rw[← eL]
  rw[this,zd,List.length_take,Nat.min_eq_left (by omega)]
 have bL:=Zax (L.take (n-1)) (Zcc hL _);rw[List.length_take,Nat.min_eq_left (by omega)] at bL;have hp:=Zad (n-1);have hk:(0:Int)<2^k:=Int.pow_pos (by omega);have h1:4294967296^(n-1)*(x+1)≤4294967296^(n-1)*b:=Int.mul_le_mul_of_nonneg_left (by omega) (by omega);have h2:vN L<4294967296^(n-1)*b:=by rw[Int.mul_add] at h1;omega
 have h3:=Int.mul_lt_mul_of_pos_right h2 hk;have h4:4294967296^(n-1)*(b*2^k)≤4294967296^(n-1)*4294967296:=Int.mul_le_mul_of_nonneg_left hbk (by omega);have h5:(4294967296:Int)^n=4294967296^(n-1)*4294967296:=by
  have:=pw (n-1);rw[show n-1+1=n by omega] at this;rw[this,Int.mul_comm]
 rw[h5];rw[Int.mul_assoc] at h3;omega
end Go.Nt
namespace Go.Proofs.YtgefjidphfdhdaaGreatDoor.Na
open Go.Proofs.Tryz
open Go.KRun Go.Nt
set_option maxRecDepth 100000
set_option linter.unusedVariables false
theorem ZlE {l:List Value}{o:Nat}{L:List Int}(h:Row l o L):Zt l o L.length=L:=by
 unfold Zt;rw[h.cut];unfold wU;rw[List.map_map];exact (List.map_congr_left fun x _=>rfl).trans (List.map_id' _)
theorem Zc7 (L:List Int) {z:Nat}(hl:L.length=z):Zt (wU L) 0 z=L:=by
 have:=Zhf [] L [];rw[List.append_nil,List.nil_append,List.length_nil,hl] at this;exact this
theorem ZlF (L M:List Int) {z:Nat}(hl:L.length=z):tmS (wU L) 0 z M=wU M:=by
 have:=Zhg [] L [] M;rw[List.append_nil,List.nil_append,List.length_nil,hl,List.append_nil,List.nil_append] at this;exact this
theorem ZlG (L:List Int) {z K:Nat}(hl:L.length=z):upT (wU L) 0 z (K:Int)=wU (dg z (vN L*2^K)):=by
 unfold upT;rw[Zc7 L hl,ZlF L _ hl,Xg]
theorem zf {q:Nat}(h:q≤1000000):Z8 q=true:=Zl.2 (by unfold ZX;omega)
theorem ZpE {x:Int}(h:0<x∧x<4294967296):∃ K:Nat,dmU x=(K:Int)∧K<32∧x<2^(32-K)∧(2:Int)^(32-K)*2^K≤4294967296:=by
 have h1:=ZdA (by omega) h.2;have h2:=bitLen_spec x.toNat;have h3:bitLen x.toNat≠0:=fun h0=>by rw[h0] at h2;have:=h2.1;omega
 refine⟨32-bitLen x.toNat,?_,by omega,?_,?_⟩
 ·unfold dmU;rw[Zv (by omega) (by omega)];omega
 ·rw[show 32-(32-bitLen x.toNat)=bitLen x.toNat by omega];have:((x.toNat:Nat):Int)<((2^bitLen x.toNat:Nat):Int):=Int.ofNat_lt.2 h2.1;rw[Int.natCast_pow] at this;have e:((x.toNat:Nat):Int)=x:=Int.toNat_of_nonneg (by omega);rw[e] at this;exact this
 ·rw[← Int.pow_add,show 32-(32-bitLen x.toNat)+(32-bitLen x.toNat)=32 by omega]
  decide
theorem ZuR {la lb:List Value}{o c o' c':Nat}{LA LB:List Int}(RA:Row la o LA) (RB:Row lb o' LB) (ra:Zu tR la o LA.length c=true) (rb:Zu tR lb o' LB.length c'=true) (ba:ZH LA=false) (bb:ZH LB=false) (hb0:0<LB.length) (hc:¬ ZbG LA LB<0):
  Runs (Zx prog Zi Zea hcD) (Zaj (dmP f152) (.seq (.seq (ZA (ZA (sn 12 f152))) (.block 0 (.loop (dmL f152)))) (sn 13 f152))) ([sl 0 o LA.length c,sl 1 o' LB.length c']++List.replicate 87 undef,h2 la lb,[]) fun e y=>(e=none∨e=some none)∧zE prog f152 y.1 y.2.1=some (.tuple #[sl 4 0 (Zg (dg (LA.length-LB.length+1) (vN LA/vN LB))) (LA.length-LB.length+1),sl 2 0 (Zg (dg (LA.length+1) (vN LA % vN LB))) (LA.length+1),.nilIface])∧y.2.1.blk? 4=some (wU (dg (LA.length-LB.length+1) (vN LA/vN LB)),tU)∧y.2.1.blk? 2=some (wU (dg (LA.length+1) (vN LA % vN LB)),tU):=by
 have hT:=Z3 Zav ZzB;have n8:=Zb0 ba;have n8':=Zb0 bb;have qa:=Zc3 RA.rng ba;have qb:=Zc3 RB.rng bb;have hcv:=Zii qa qb;have hge:vN LB≤vN LA:=by
  have:=mt hcv.1.2 hc;omega
 have hle:=Zlh qa qb hge;obtain⟨_,_,_,_,_,_,sa⟩:=Z4 ra;obtain⟨_,_,_,_,_,_,sb⟩:=Z4 rb;have cA:=ZlE RA;have cB:=ZlE RB;have cx:=RB.cell (k:=LB.length-1) (by omega);have hx0:LB.getD (LB.length-1) 0≠0:=qb.2.resolve_left (by omega);have hxr:=RB.rng (LB.getD (LB.length-1) 0) (by
  have hk:LB.length-1<LB.length:=by omega
  simp [List.getD,List.getElem?_eq_getElem hk])
 obtain⟨K,eU,hK,hxK,hKK⟩:=ZpE (x:=LB.getD (LB.length-1) 0) (by omega);have hB1:=ZuQ RB.rng rfl hb0 rfl hxK hKK;have hlow:=ZfW RB.rng hb0 hx0;have k1:(1:Int)≤2^K:=by have:(0:Int)<2^K:=Int.pow_pos (by omega);omega
 have k2:(2:Int)^K≤4294967296:=by
  have h1:(1:Int)≤2^(32-K):=by have:(0:Int)<2^(32-K):=Int.pow_pos (by omega);omega
  have h2:1*(2:Int)^K≤2^(32-K)*2^K:=Int.mul_le_mul_of_nonneg_right h1 (by omega);omega
 have bA:=Zax LA RA.rng;have pN1:=Zad (LB.length-1);have hvB:0<vN LB:=by omega
 have hBlow:4294967296^(LB.length-1)≤vN LB*2^K:=by
  have:vN LB*1≤vN LB*2^K:=Int.mul_le_mul_of_nonneg_left k1 (by omega);omega
 have hW0:0≤vN LA*2^K:=Int.mul_nonneg bA.1 (by omega);have hW1:vN LA*2^K<vN LB*2^K*4294967296^(LA.length-LB.length+1):=by
  have e1:(4294967296:Int)^LA.length=4294967296^(LB.length-1)*4294967296^(LA.length-LB.length+1):=by
   rw[← Int.pow_add,show LB.length-1+(LA.length-LB.length+1)=LA.length by omega]
  have h1:4294967296^(LB.length-1)*4294967296^(LA.length-LB.length+1)≤vN LB*4294967296^(LA.length-LB.length+1):=Int.mul_le_mul_of_nonneg_right hlow (by have:=Zad (LA.length-LB.length+1);omega);have h2:vN LA<vN LB*4294967296^(LA.length-LB.length+1):=by omega
  have h3:=Int.mul_lt_mul_of_pos_right h2 (show (0:Int)<2^K by omega);rw[Int.mul_assoc,Int.mul_comm (4294967296^(LA.length-LB.length+1)) (2^K),← Int.mul_assoc] at h3;exact h3
 have eNP:(nP LA.length).toNat=LA.length+1:=Zif n8;have eQ:dmQ LA.length LB.length=((LA.length-LB.length+1:Nat):Int):=by
  unfold dmQ;rw[Zv (n:=(LA.length:Int)-(LB.length:Int)) (by omega) (by omega),Zv (by omega) (by omega)];omega
 have eR:dmR la o LA.length (LB.getD (LB.length-1) 0)=wU (dg (LA.length+1) (vN LA*2^K)):=by
  unfold dmR;rw[eU,eNP,Zld RA n8,ZlG _ (by simp),zd,Int.mul_zero,Int.add_zero]
 have eY:dmY lb o' LB.length (LB.getD (LB.length-1) 0)=wU (dg LB.length (vN LB*2^K)):=by
  unfold dmY;rw[eU,Xg,Zsk RB,ZlG _ rfl]
 have g0:=ZzC o LA.length c o' LB.length c' (LB.getD (LB.length-1) 0) la lb;have en1:n1 LB.length=((LB.length-1:Nat):Int):=by unfold n1;rw[Zv (by omega) (by omega)];omega
 rw[eR,eY,eU,eNP,eQ,Xg,Xg,cA,cB,Zld RA n8,Zsk RB,en1] at g0;have erep:List.replicate (LA.length-LB.length+1) (uu 0)=wU (List.replicate (LA.length-LB.length+1) 0++[]):=by
  unfold wU uu;simp
 rw[erep] at g0;have lm1:Zo3 (wU (dg LB.length (vN LB*2^K))) la lb (wU (LA++[0])) tR tR tU tU 0 (LA.length+1) (LA.length+1) (K:Int)=true:=by
  unfold Zo3;rw[ZT (ZeS RA.rng) (by simp) (Nat.le_refl _) (zf (by omega)),Za6,List.all_eq_true.2 sa,List.all_eq_true.2 sb,Xa (show (0:Int)≤K∧(K:Int)<32 by omega)];simp
 have lm2:Zo3 (wU (LA++[0])) la lb (wU LB) tR tR tU tU 0 LB.length LB.length (K:Int)=true:=by
  unfold Zo3;rw[ZT RB.rng (by simp) (Nat.le_refl _) (zf (by omega)),Za6,List.all_eq_true.2 sa,List.all_eq_true.2 sb,Xa (show (0:Int)≤K∧(K:Int)<32 by omega)];simp
 refine Zz hT g0 (Zj (by unfold ZO;exact Xa (by omega)) (Zj lm1 (Zj lm2 (Zj (ZtT RB) (Zj (by unfold ZO;exact Xa (by omega)) (Zj (Xa hxr) (Zj (zT cx) (Zj (Xa (by omega)) (Zj (Xb hc) (Zj ra (Zj rb (Zj (Zle RA n8) (Zj (ZyT n8) (Zj (by simpa using (show LB.length≠0 by omega)) (Zj ra (Zj rb (Z7 (by rw[ba,bb];rfl)))))))))))))))))) fun g=> ?_;generalize hBe:vN LB*2^K=B' at*;generalize hWe:vN LA*2^K=W0 at*;have cY:=Zc7 (dg LB.length B') (ZB LB.length B');have vY:vN (dg LB.length B')=B':=ZjC _ _ (by omega) hB1;have tY:=ZuP hb0 hBlow hB1;have hBp:0<B':=by omega
 refine Runs.seq (P1:=fun e' y=>e'=none∧∃ (W:Int) (qs:List Int) (i:Int) (g:Nat→Value),(0≤W∧W<B')∧W0=W+B'*vN qs∧qs.length=LA.length-LB.length+1∧wds qs∧y.1=dmG o LA.length c o' LB.length c' (LA.length+1) LB.length (LA.length-LB.length+1) K i++tl 76 g∧y.2.1=h5 la lb (wU (dg (LA.length+1) W)) (wU (dg LB.length B')) (wU qs)) ?_ ?_ (fun e y he=>by cases he.1)
 ·refine Runs.seq (P1:=fun e' y=>e'=none∧(∃ g,y.1=dmG o LA.length c o' LB.length c' (LA.length+1) LB.length (LA.length-LB.length+1) K (n1 (LA.length-LB.length+1))++tl 76 g)∧y.2.1=h5 la lb (wU (dg (LA.length+1) W0)) (wU (dg LB.length B')) (wU (List.replicate (LA.length-LB.length+1) 0++[]))) (Zc hT (Z7c o LA.length c o' LB.length c' (LA.length+1) LB.length (LA.length-LB.length+1) K _ g) (fun x hx=>by cases hx)) ?_ (fun e y he=>by cases he.1);rintro⟨t,h',s'⟩ ⟨_,⟨g1,ht⟩,hh⟩;simp only at ht hh;subst ht hh;refine (Runs.forLoop (R:=fun _=>False) (P:=fun y=>∃ (W:Int) (qs:List Int) (i:Int) (g:Nat→Value),(0≤W∧W<B')∧W0=W+B'*vN qs∧qs.length=LA.length-LB.length+1∧wds qs∧y.1=dmG o LA.length c o' LB.length c' (LA.length+1) LB.length (LA.length-LB.length+1) K i++tl 76 g∧y.2.1=h5 la lb (wU (dg (LA.length+1) W)) (wU (dg LB.length B')) (wU qs))
   (fun r y=>∃ (W:Int) (qs:List Int) (g:Nat→Value),(0≤W∧W<B'*4294967296^r)∧W0=W+B'*(4294967296^r*vN qs)∧qs.length+r=LA.length-LB.length+1∧wds qs∧y.1=dmG o LA.length c o' LB.length c' (LA.length+1) LB.length (LA.length-LB.length+1) K ((r:Int)-1)++tl 76 g∧y.2.1=h5 la lb (wU (dg (LA.length+1) W)) (wU (dg LB.length B')) (wU (List.replicate r 0++qs)))
   ?_ (n:=LA.length-LB.length+1) ⟨W0,[],g1,⟨hW0,hW1⟩,by simp [vN],by simp,(fun x hx=>by cases hx),?_,rfl⟩).mono fun e' y he=> ?_
  ·rintro r ⟨t,h',s'⟩ ⟨W,qs,g,hW,hsum,hq,wq,ht,hh⟩;simp only at ht hh;subst ht hh;cases r with
   | zero=>
    refine (Zc hT (ZzD o LA.length c o' LB.length c' (LA.length+1) LB.length (LA.length-LB.length+1) K _ _ g) (Z7 (Xb (by omega)))).mono fun e' y he=> ?_;obtain⟨rfl,⟨g1,e2⟩,e3⟩:=he;rw[Int.pow_zero] at hW hsum;rw[Int.mul_one] at hW;rw[Int.one_mul] at hsum;exact⟨rfl,W,qs,_,g1,hW,hsum,by omega,wq,e2,e3⟩
   | succ r=>
    have ei:((r+1:Nat):Int)-1=(r:Int):=by omega
    rw[ei];obtain⟨⟨t0,t1,t2⟩,⟨x0,x1⟩,hW',hs'⟩:=ZpD ⟨hBp,hB1⟩ hW hsum;have hdg:=Zip hBp t0 t1;generalize hTe:W/4294967296^r=T at*;have eJ:pJ (r:Int)=r:=by unfold pJ;omega
    have eH:dmH (r:Int) LB.length=((r+LB.length+1:Nat):Int):=by
     unfold dmH;rw[Zv (n:=(r:Int)+(LB.length:Int)) (by omega) (by omega),Zv (by omega) (by omega)];omega
    have eN:dmN (r:Int) LB.length=LB.length+1:=by unfold dmN;rw[eH];omega
    have eRr:dg (LA.length+1) W=dg r W++(dg (LB.length+1) T++dg (LA.length-LB.length-r) 0):=by
     rw[show LA.length+1=r+((LB.length+1)+(LA.length-LB.length-r)) by omega,Ziv,hTe,Int.ediv_eq_zero_of_lt t0 t2]
    have cT:Zt (wU (dg (LA.length+1) W)) r (LB.length+1)=dg (LB.length+1) T:=by
     have:=Zhf (dg r W) (dg (LB.length+1) T) (dg (LA.length-LB.length-r) 0);rw[ZB,ZB,← eRr] at this;exact this
    have vT:vN (dg (LB.length+1) T)=T:=ZjC _ _ t0 t2;have sT:tmS (wU (dg (LA.length+1) W)) r (LB.length+1) (dg (LB.length+1) (T % B'))=wU (dg (LA.length+1) (qtW W (T % B') r)):=by
     have:=Zhg (dg r W) (dg (LB.length+1) T) (dg (LA.length-LB.length-r) 0) (dg (LB.length+1) (T % B'));rw[ZB,ZB,← eRr] at this;rw[this,ZpC ⟨x0,x1⟩,show r+((LB.length+1)+(LA.length-LB.length-r))=LA.length+1 by omega]
    have sQ:(wU (List.replicate (r+1) 0++qs)).set r (uu (T/B'))=wU (List.replicate r 0++(T/B')::qs):=by
     have:=ZfU (List.replicate r 0) 0 (T/B') qs;rw[List.length_replicate] at this;rw[List.replicate_succ',List.append_assoc,List.singleton_append,this,List.append_assoc,List.singleton_append]
    have g2:=Z3Y o LA.length c o' LB.length c' (LA.length+1) LB.length (LA.length-LB.length+1) K r la lb (wU (dg (LA.length+1) W)) (wU (dg LB.length B')) (wU (List.replicate (r+1) 0++qs)) g;rw[eJ,eN,eH,cT,cY,vT,vY,sT,sQ,Xg] at g2;have l1:decide (r<(wU (List.replicate (r+1) 0++qs)).length)=true:=Xa (by rw[Zcf];simp;omega);have l2:(inR r (LA.length-LB.length+1)).1=(inR r (LA.length-LB.length+1)).2:=Xa (by omega);have l3:(ZjD la lb (wU (dg (LA.length+1) W)) (wU (dg LB.length B')) (wU (List.replicate (r+1) 0++qs)) tR tR tU tU tU r (LB.length+1) (LA.length+1-r) LB.length LB.length && decide (0<LB.length∧0<(dg LB.length B').getD (LB.length-1) 0∧T<4294967296*B'))=true:=by
     unfold ZjD;rw[ZT (Zac _ _) (by rw[ZB];omega) (by omega) (zf (by omega)),ZT (Zac _ _) (by rw[ZB];omega) (Nat.le_refl _) (zf (by omega)),Za6,List.all_eq_true.2 sa,List.all_eq_true.2 sb,Zl.2 (show LB.length+1<1099511627776 by omega),Xa (show 0<LB.length∧0<(dg LB.length B').getD (LB.length-1) 0∧T<4294967296*B' from ⟨hb0,tY,t1⟩)];simp
    have l5:ZR (r:Int) ((r+LB.length+1:Nat):Int) ((LA.length+1:Nat):Int) ((LA.length+1:Nat):Int)=true:=by unfold ZR;exact Xa (by omega)
    have l6:decide (((LA.length+1:Nat):Int)=(r:Int)∧(r:Int)≠0)=false:=Xb (by omega);have l7:decide ((r:Int)≥0)=true:=Xa (by omega);refine (Zc hT g2 (Zj l1 (Zj l2 (Zj l3 (Zj (zf (by omega)) (Zj l5 (Zj l6 (Z7 l7)))))))).mono fun e' y he=> ?_;obtain⟨rfl,⟨g3,e2⟩,e3⟩:=he;refine⟨r,by omega,qtW W (T % B') r,T/B'::qs,g3,hW',?_,by simp;omega,?_,?_,e3⟩
    ·simp only[vN];exact hs'
    ·intro z hz;rcases List.mem_cons.1 hz with rfl | hz
     ·omega
     ·exact wq z hz
    ·rw[e2,Zv (by omega) (by omega)]
  ·show dmG _ _ _ _ _ _ _ _ _ _ _++_=_;rw[show n1 (LA.length-LB.length+1)=((LA.length-LB.length+1:Nat):Int)-1 from by unfold n1;rw[Zv (by omega) (by omega)]]
  ·match e',he with
   | none,he=>exact⟨rfl,he⟩
   | some none,he=>exact he.elim
   | some (some _),he=>exact he.elim
 ·rintro⟨t,h',s'⟩ ⟨_,W,qs,i,g,hW,hsum,hq,wq,ht,hh⟩;simp only at ht hh;subst ht hh;obtain⟨f1,f2⟩:=ZzF hW hsum;have hkp:(0:Int)<2^K:=by omega
  have d1:W0/B'=vN LA/vN LB:=by rw[← hWe,← hBe];exact Int.mul_ediv_mul_of_pos_left _ _ hkp
  have d2:W0 % B'=vN LA % vN LB*2^K:=by rw[← hWe,← hBe,Int.mul_comm (vN LA) (2^K),Int.mul_comm (vN LB) (2^K),Int.mul_emod_mul_of_pos _ _ hkp,Int.mul_comm]
  have eqs:qs=dg (LA.length-LB.length+1) (vN LA/vN LB):=by
   have:=ZdY qs wq;rw[hq,f1,d1] at this;exact this.symm
  have hWlt:W<4294967296^(LA.length+1):=by
   have h1:(4294967296:Int)^LB.length≤4294967296^(LA.length+1):=Zpm (by omega);omega
  have vW:vN (dg (LA.length+1) W)=W:=ZjC _ _ hW.1 hWlt;have eD:dmD (wU (dg (LA.length+1) W)) (LA.length+1) K=wU (dg (LA.length+1) (vN LA % vN LB)):=by
   unfold dmD;rw[Zc7 _ (ZB _ _),ZlF _ _ (ZB _ _),vW,f2,d2,Xg,Int.mul_ediv_cancel _ (by omega)]
  have g2:=ZzE o LA.length c o' LB.length c' (LA.length+1) LB.length (LA.length-LB.length+1) K i la lb (wU (dg (LA.length+1) W)) (wU (dg LB.length B')) (wU qs) g;rw[eD,Zc7 qs hq,Zc7 _ (ZB _ _),eqs] at g2;have l1:ZzA la lb (wU (dg (LA.length+1) W)) (wU (dg LB.length B')) (wU (dg (LA.length-LB.length+1) (vN LA/vN LB))) tR tR tU tU tU 0 (LA.length+1) (LA.length+1) (K:Int)=true:=by
   unfold ZzA;rw[ZT (Zac _ _) (by rw[ZB];omega) (Nat.le_refl _) (zf (by omega)),Za6,Za6,List.all_eq_true.2 sa,List.all_eq_true.2 sb,Zl.2 (show LA.length+1<1099511627776 by omega),Xa (show (0:Int)≤K∧(K:Int)<32 by omega)];simp
  rw[eqs];refine (Zc hT g2 (Zj (ZT (Zac _ _) (by rw[ZB];omega) (Nat.le_refl _) (zf (by omega))) (Zj (ZT (Zac _ _) (by rw[ZB];omega) (Nat.le_refl _) (zf (by omega))) (Z7 l1)))).mono fun e' y he=> ?_;obtain⟨rfl,⟨g1,e2⟩,e3⟩:=he;refine⟨.inr rfl,?_,?_,?_⟩
  ·rw[e2,e3];rfl
  ·rw[e3];rfl
  ·rw[e3];rfl
def hcE:Hc:=zJ 132 Zew (zJ 187 Zua (zJ 131 ZeK hcN))
theorem Ziw:HcOk hcE:=Zq func132 rfl Zcg (Zq func187 rfl Zpu (Zq func131 rfl ZaD zo))
theorem ZzG (p q:Option Addr) (n c n' c':Nat) (h:Hp):Zk (evC (Zx prog Zi Zn hcE) 300 false (Zw f152) ([.slice p n c,.slice q n' c']++List.replicate 87 undef,h,[cmp true]) ⟨[],[],[]⟩) 7 82 (some none) [.slice p n c,.slice q n' c',undef,undef,ZD,ZD,ZbH 1] h [(zg h p n c,true),(zg h q n' c',true),(ZH (Zm h p n) || ZH (Zm h q n'),true)]:=by and_intros<;>kernel_rfl
theorem ZuS (p q:Option Addr) (n c n' c':Nat) (h:Hp):Zk (evC (Zx prog Zi Zn hcE) 300 false (Zw f152) ([.slice p n c,.slice q n' c']++List.replicate 87 undef,h,[cmp false,cmp true]) ⟨[],[],[]⟩) 7 82 (some none) [.slice p n c,.slice q n' c',undef,undef,ZD,ZD,ZbH 5] h [((n':Int)==0,true),(zg h p n c,true),(zg h q n' c',true),(ZH (Zm h p n) || ZH (Zm h q n'),false)]:=by and_intros<;>kernel_rfl
theorem ZuT (o n c o' n' c':Nat) (la lb:List Value):Zk (evC (Zx prog Zi Zn hcE) 300 false (Zw f152) ([sl 0 o n c,sl 1 o' n' c']++List.replicate 87 undef,h2 la lb,[cmp false,cmp false,at_,at_,cmp true]) ⟨[],[],[]⟩) 7 82 (some none) [sl 0 o n c,sl 1 o' n' c',undef,undef,ZD,sl 2 0 (Zg (Zt (cpy la o n) 0 (nP n).toNat)) (nP n).toNat,.nilIface] (h3 la lb (cpy la o n))
  [(Zu tU (cpy la o n) 0 (nP n).toNat (nP n).toNat,true),(decide (ZbG (Zt la o n) (Zt lb o' n')<0),true),(Zu tR la o n c,true),(Zu tR lb o' n' c',true),(Z2X la o n,true),(ZO 4 (nP n) (nP n),true),((n':Int)==0,false),(Zu tR la o n c,true),(Zu tR lb o' n' c',true),(ZH (Zt la o n) || ZH (Zt lb o' n'),false)]:=by and_intros<;>kernel_rfl
theorem ZpF (o n c:Nat) (lb:List Value):Zk (evC (Zx prog Zi Zn hcE) 300 false (Zw f152) ([ZD,sl 0 o n c]++List.replicate 87 undef,⟨1,[(lb,tR)]⟩,[cmp false,cmp false,cmp true]) ⟨[],[],[]⟩) 7 82 (some none) [ZD,sl 0 o n c,undef,undef,ZD,sl 1 0 0 1,.nilIface] ⟨2,[(wU [0],tU),(lb,tR)]⟩
  [(Zu tU (wU [0]) 0 1 1,true),(decide (ZbG [] (Zt lb o n)<0),true),(true,true),(Zu tR lb o n c,true),((n:Int)==0,false),(true,true),(Zu tR lb o n c,true),(ZH (Zt lb o n),false)]:=by and_intros<;>kernel_rfl
def gDm:Zba:=fun vals h s=>
 match vals,s with
 | [.slice p n c,.slice q n' c'],.inr (.inr (.inr (.inl true)))::s'=>some (.tuple #[ZD,ZD,ZbH 1],h,s',[(zg h p n c,true),(zg h q n' c',true),(ZH (Zm h p n) || ZH (Zm h q n'),true)])
 | [.slice p n c,.slice q n' c'],.inr (.inr (.inr (.inl false))):: .inr (.inr (.inr (.inl true)))::s'=>some (.tuple #[ZD,ZD,ZbH 5],h,s',[(zg h p n c,true),(zg h q n' c',true),(!(ZH (Zm h p n) || ZH (Zm h q n')) && decide (n'=0),true)])
 | [.slice p n c,.slice q n' c'],.inr (.inr (.inr (.inl false))):: .inr (.inr (.inr (.inl false))):: .inr (.inr (.inr (.inl true)))::s'=>some (.tuple #[ZD,sl h.n 0 (Zg (Zm h p n++[0])) (n+1),.nilIface],h.push (wU (Zm h p n++[0])) tU,s',[(zg h p n c,true),(zg h q n' c',true),(!(ZH (Zm h p n) || ZH (Zm h q n')) && decide (0<n'∧ZbG (Zm h p n) (Zm h q n')<0),true)])
 | [.slice p n c,.slice q n' c'],.inr (.inr (.inr (.inl false))):: .inr (.inr (.inr (.inl false))):: .inr (.inr (.inr (.inl false))):: .inr (.inl V):: .inr (.inl U)::s'=>some (.tuple #[sl h.n 0 (Zg (dg (n-n'+1) V)) (n-n'+1),sl (h.n+1) 0 (Zg (dg (n+1) U)) (n+1),.nilIface],(h.push (wU (dg (n-n'+1) V)) tU).push (wU (dg (n+1) U)) tU,s',[(decide (vN (Zm h p n)/vN (Zm h q n')=V∧vN (Zm h p n) % vN (Zm h q n')=U),true),(zg h p n c,true),(zg h q n' c',true),(!(ZH (Zm h p n) || ZH (Zm h q n')) && decide (0<n'∧¬ ZbG (Zm h p n) (Zm h q n')<0),true)])
 | _,_=>none
theorem Z7d {a b c d:Bool×Bool}(h:Zo [a,b,c,d]):a.1=a.2∧b.1=b.2∧c.1=c.2∧d.1=d.2:=⟨h _ (by simp),h _ (by simp),h _ (by simp),h _ (by simp)⟩
theorem Zix:ZJ 152 gDm:=by
 intro vals h s v h' s' lg hg hl m B w E hv;unfold gDm at hg;split at hg
 ·rename_i p n c q n' c' s2;cases hg;have r:=Zc (s0:=[]) (Z3 Zh Ziw) (ZzG p q n c n' c' h) hl;exact ZaE (T:=Zx prog Zi Zn hcE) func152 Zdd (vals:=[.slice p n c,.slice q n' c']) (v:= .tuple #[ZD,ZD,ZbH 1]) (h:=h) (by rfl) (r.mono fun e y he=>by
   obtain⟨rfl,⟨g,e1⟩,e2⟩:=he;exact⟨.inr rfl,by rw[e1,e2];rfl,e2⟩) m B w E hv
 ·rename_i p n c q n' c' s2;cases hg;obtain⟨l1,l2,l3⟩:=Z2Y hl;simp only[Xh,Bool.not_eq_true',Xi] at l1 l2 l3;have r:=Zc (s0:=[]) (Z3 Zh Ziw) (ZuS p q n c n' c' h) (Zj (by simp [l3.2]) (Zj l1 (Zj l2 (Z7 l3.1))));exact ZaE (T:=Zx prog Zi Zn hcE) func152 Zdd (vals:=[.slice p n c,.slice q n' c']) (v:= .tuple #[ZD,ZD,ZbH 5]) (h:=h) (by rfl) (r.mono fun e y he=>by
   obtain⟨rfl,⟨g,e1⟩,e2⟩:=he;exact⟨.inr rfl,by rw[e1,e2];rfl,e2⟩) m B w E hv
 ·rename_i p n c q n' c' s2;cases hg;obtain⟨l1,l2,l3⟩:=Z2Y hl;simp only[Xh,Bool.not_eq_true',Bool.or_eq_false_iff,Xi] at l1 l2 l3;obtain⟨⟨l3,l4⟩,l5,l6⟩:=l3;rcases Z5 l2 with ⟨_,h0,_⟩ | ⟨b',o',y,rfl,hy,t1,f0⟩
  ·omega
  rw[f0] at l4 l6;have tR1:=ZW t1;obtain⟨b1,b2,b3,b4,b5,b6,b7⟩:=Z4 t1;rcases Z5 l1 with ⟨rfl,rfl,rfl,e0⟩ | ⟨b,o,x,rfl,hx,r1,e0⟩
  ·rw[e0] at l6 ⊢;have r:Runs (Zx prog Zi Zn hcE) (Zw f152) ([ZD,sl 0 o' n' c']++List.replicate 87 undef,⟨1,[(y.1,tR)]⟩,[]) fun e z=>(e=none∨e=some none)∧zE prog f152 z.1 z.2.1=some (.tuple #[ZD,sl 1 0 0 1,.nilIface])∧∃ r,z.2.1.blk? 1=some (wU [0]++r,tU):=by
    refine (Zc (Z3 Zh Ziw) (ZpF o' n' c' y.1) (Zj (by kernel_rfl) (Zj (Xa l6) (Zj rfl (Zj tR1 (Zj (by simpa using (show n'≠0 by omega)) (Zj rfl (Zj tR1 (Z7 l4))))))))).mono fun e z he=> ?_;obtain⟨rfl,⟨g,e1⟩,e2⟩:=he;exact⟨.inr rfl,by rw[e1,e2];rfl,[],by rw[e2];rfl⟩
   have evals:List.map (rn fun _=>b') [ZD,sl 0 o' n' c']=[.slice none 0 0,.slice (some ⟨b',o',none⟩) n' c']:=by simp [rn,rn2,rn1,sl,ZD]
   have e1:∀ k M:Nat,rn (fun _=>h.n) (.tuple #[ZD,sl 1 0 k M,.nilIface])= .tuple #[ZD,sl h.n 0 k M,.nilIface]:=fun k M=>by simp [rn,rn2,rn1,sl,ZD]
   have:=Zao (T:=Zx prog Zi Zn hcE) func152 Zdd (ZcU b7) (vals:=[ZD,sl 0 o' n' c']) (fun v hv=>by
    simp only[List.mem_cons,List.not_mem_nil,or_false] at hv;rcases hv with rfl | rfl<;>rfl) (k:=1) (Zc1 _) Zd5 r.w (by rfl) E (s:=fun _=>b') (ZaQ hy b5 b6 rfl)
   rw[evals,e1] at this;exact this
  ·rw[e0] at l3 l6 ⊢;have tR0:=ZW r1;obtain⟨a1,a2,a3,a4,a5,a6,a7⟩:=Z4 r1;have n8:=Zb0 l3;have g0:=ZuT o n c o' n' c' x.1 y.1;have eP:=Zld a1 n8;have eO:=Zle a1 n8;rw[a2] at eP eO;rw[a2] at n8;rw[Zif n8,eP] at g0;have hw:=ZeS a1.rng;have hl1:(Zt x.1 o n++[0]).length=n+1:=by simp [a2]
   rw[Zc7 _ hl1] at g0;have r:Runs (Zx prog Zi Zn hcE) (Zw f152) ([sl 0 o n c,sl 1 o' n' c']++List.replicate 87 undef,h2 x.1 y.1,[]) fun e z=>(e=none∨e=some none)∧zE prog f152 z.1 z.2.1=some (.tuple #[ZD,sl 2 0 (Zg (Zt x.1 o n++[0])) (n+1),.nilIface])∧∃ r,z.2.1.blk? 2=some (wU (Zt x.1 o n++[0])++r,tU):=by
    refine (Zc (Z3 Zh Ziw) g0 (Zj (ZT hw (by rw[hl1];omega) (Nat.le_refl _) (zf (by omega))) (Zj (Xa l6) (Zj tR0 (Zj tR1 (Zj eO (Zj (ZyT n8) (Zj (by simpa using (show n'≠0 by omega)) (Zj tR0 (Zj tR1 (Z7 (by rw[l3,l4];rfl)))))))))))).mono fun e z he=> ?_;obtain⟨rfl,⟨g,e1⟩,e2⟩:=he;exact⟨.inr rfl,by rw[e1,e2];rfl,[],by rw[e2,List.append_nil];rfl⟩
   have e1:∀ k M:Nat,rn (fun _=>h.n) (.tuple #[ZD,sl 2 0 k M,.nilIface])= .tuple #[ZD,sl h.n 0 k M,.nilIface]:=fun k M=>by simp [rn,rn2,rn1,sl,ZD]
   have:=Zao (T:=Zx prog Zi Zn hcE) func152 Zdd (Zj1 a7 b7) (vals:=[sl 0 o n c,sl 1 o' n' c']) (fun v hv=>by
    simp only[List.mem_cons,List.not_mem_nil,or_false] at hv;rcases hv with rfl | rfl<;>rfl) (k:=2) (Zc1 _) Zd5 r.w (by rfl) E (s:=Zkl b b') (Zet hx a5 a6 hy b5 b6)
   rw[e1] at this;exact this
 ·rename_i p n c q n' c' V U s2;cases hg;obtain⟨l0,l1,l2,l3⟩:=Z7d hl;simp only[Xh,Bool.not_eq_true',Bool.or_eq_false_iff,Xi] at l0 l1 l2 l3;obtain⟨⟨l3,l4⟩,l5,l6⟩:=l3;obtain⟨rfl,rfl⟩:=l0;rcases Z5 l2 with ⟨_,h0,_⟩ | ⟨b',o',y,rfl,hy,t1,f0⟩
  ·omega
  rw[f0] at l4 l6 ⊢;have tR1:=ZW t1;obtain⟨b1,b2,b3,b4,b5,b6,b7⟩:=Z4 t1;rcases Z5 l1 with ⟨rfl,rfl,rfl,e0⟩ | ⟨b,o,x,rfl,hx,r1,e0⟩
  ·rw[e0] at l6;exact absurd ((Zzc b2).2 l5) l6
  ·rw[e0] at l3 l6 ⊢;have tR0:=ZW r1;obtain⟨a1,a2,a3,a4,a5,a6,a7⟩:=Z4 r1;have r:=ZuR (c:=c) (c':=c') a1 b1 (by rw[a2];exact tR0) (by rw[b2];exact tR1) l3 l4 (by omega) l6;rw[a2,b2] at r;have fin:=ZjA (T:=Zx prog Zi Zea hcD) func152 ZuM (Zj1 a7 b7) (vals:=[sl 0 o n c,sl 1 o' n' c']) (fun v hv=>by
    simp only[List.mem_cons,List.not_mem_nil,or_false] at hv;rcases hv with h1 | h1<;>rw[h1]<;>rfl) (v:=fun k j=> .tuple #[sl k 0 (Zg (dg (n-n'+1) (vN (Zt x.1 o n)/vN (Zt y.1 o' n')))) (n-n'+1),sl j 0 (Zg (dg (n+1) (vN (Zt x.1 o n) % vN (Zt y.1 o' n')))) (n+1),.nilIface]) (Zc1 _) (Zc1 _) Zd5 (r.w.mono fun e z hz=>⟨hz.1,4,2,by omega,hz.2.1,⟨[],by rw[List.append_nil];exact hz.2.2.1⟩,[],by rw[List.append_nil];exact hz.2.2.2⟩) (fun k j=>by simp [oc,oc2,oc1,sl]) E (s:=Zkl b b') (Zet hx a5 a6 hy b5 b6) (fun k j g=>by simp [rn,rn2,rn1,sl])
   exact fin
 ·cases hg
end Go.Proofs.YtgefjidphfdhdaaGreatDoor.Na
namespace Go.Proofs.YtgefjidphfdhdaaGreatDoor.Na
open Go.KRun Go.Nt
set_option maxRecDepth 100000
set_option linter.unusedVariables false
def Z3b:Zba:=fun vals h s=>
 match vals,s with
 | [.slice p n c,.slice q n' c'],.inr (.inr (.inr (.inl true)))::s'=>some (.tuple #[ZD,ZD,ZbH 1],h,s',[(zg h p n c,true),(zg h q n' c',true),(ZH (Zm h p n) || ZH (Zm h q n'),true)])
 | [.slice p n c,.slice q n' c'],.inr (.inr (.inr (.inl false))):: .inr (.inr (.inr (.inl true)))::s'=>some (.tuple #[ZD,ZD,ZbH 5],h,s',[(zg h p n c,true),(zg h q n' c',true),(!(ZH (Zm h p n) || ZH (Zm h q n')) && decide (n'=0),true)])
 | [.slice p n c,.slice q n' c'],.inr (.inr (.inr (.inl false))):: .inr (.inr (.inr (.inl false))):: .inr (.inr (.inr (.inl true))):: .inr (.inl U)::s'=>some (.tuple #[ZD,sl h.n 0 (Zg (dg (n+1) U)) (n+1),.nilIface],h.push (wU (dg (n+1) U)) tU,s',[(decide (Zm h p n++[0]=dg (n+1) U),true),(zg h p n c,true),(zg h q n' c',true),(!(ZH (Zm h p n) || ZH (Zm h q n')) && decide (0<n'∧ZbG (Zm h p n) (Zm h q n')<0),true)])
 | [.slice p n c,.slice q n' c'],.inr (.inr (.inr (.inl false))):: .inr (.inr (.inr (.inl false))):: .inr (.inr (.inr (.inl false))):: .inr (.inl V):: .inr (.inl U)::s'=>some (.tuple #[sl h.n 0 (Zg (dg (n-n'+1) V)) (n-n'+1),sl (h.n+1) 0 (Zg (dg (n+1) U)) (n+1),.nilIface],(h.push (wU (dg (n-n'+1) V)) tU).push (wU (dg (n+1) U)) tU,s',[(decide (vN (Zm h p n)/vN (Zm h q n')=V∧vN (Zm h p n) % vN (Zm h q n')=U),true),(zg h p n c,true),(zg h q n' c',true),(!(ZH (Zm h p n) || ZH (Zm h q n')) && decide (0<n'∧¬ ZbG (Zm h p n) (Zm h q n')<0),true)])
 | _,_=>none
theorem ZlH:ZJ 152 Z3b:=by
 intro vals h s v h' s' lg hg hl;unfold Z3b at hg;split at hg
 ·cases hg;exact Zix _ h [cmp true] _ _ [] _ rfl hl
 ·cases hg;exact Zix _ h [cmp false,cmp true] _ _ [] _ rfl hl
 ·rename_i p n c q n' c' U s3;cases hg;obtain⟨l1,l2⟩:=Zso hl;have l1:=Xc l1;refine Zix _ h [cmp false,cmp false,cmp true] _ _ [] _ ?_ l2;simp only[gDm,l1]
 ·cases hg;exact Zix _ h [cmp false,cmp false,cmp false,num _,num _] _ _ [] _ rfl hl
 ·cases hg
def IsR (H:Hp) (p:Option Addr) (n c V:Nat):Prop:=zg H p n c=true∧Zo1 H p n c=true∧Zm H p n=d32 V∧n=(d32 V).length∧n≤1000
theorem Zex {H:Hp}{b V m:Nat}(hb:H.blk? b=some (wU (dg m (V:Int)),tU)) (hV:V<4294967296^m) (hm:m≤1000):IsR H (some ⟨b,0,none⟩) (Zg (dg m (V:Int))) m V:=by
 have h32:=Z3A hb hV hm;have ht:=za (dg m (V:Int));have hl:=ZB m (V:Int);refine⟨?_,h32.1,h32.2,?_,by omega⟩
 ·unfold zg;simp only[hb];exact ZT (Zac _ _) (by omega) (by omega) (zf (by omega))
 ·rw[← h32.2];have:=Zlk h32.1;omega
section
variable {H : Hp} {p q : Option Addr} {n c n' c' V W : Nat}
theorem Zgg (V:Nat):vN (d32 V)=(V:Int):=by
 rw[ZfZ (ZeO V)];exact congrArg _ (Zbi (by omega) V)
theorem Zci (V:Nat):Za9 (d32 V):=by
 have h:=Zlj (b:=4294967296) (by omega) V;refine⟨ZeO V,?_⟩;have ht:=Zca (d32 V);rw[show Zg (d32 V)=(d32 V).length from h.2] at ht;exact ht
theorem IsR.good (h:IsR H p n c V):ZH (Zm H p n)=false:=by
 have hl:(Zm H p n).length=n:=by rw[h.2.2.1];exact h.2.2.2.1.symm
 have h8:=h.2.2.2.2;have hc:=Zci V;rw[← h.2.2.1] at hc;unfold ZH;rw[Xb (by omega),Bool.false_or];rcases hc.2 with h0 | h0
 ·rw[Xb (by omega)];rfl
 ·rw[beq_eq_false_iff_ne.2 h0,Bool.and_false]
theorem rX (h:IsR H p n c V):zg H p n c=true:=h.1
theorem rOr (h:IsR H p n c V) (g:IsR H q n' c' W):(ZH (Zm H p n) || ZH (Zm H q n'))=false:=by rw[h.good,g.good];rfl
theorem Zsw (h:IsR H p n c V) (g:IsR H q n' c' W):decide (ZgK (Zm H p n) (Zm H q n')=dg (n+n') ((V*W:Nat):Int))=true:=by
 refine Xa ?_;unfold ZgK;rw[h.2.2.1,g.2.2.1,Zgg,Zgg,← h.2.2.2.1,← g.2.2.2.1,Int.natCast_mul]
theorem Z3Z (h:IsR H p n c V) (g:IsR H q n' c' W):ZbG (Zm H p n) (Zm H q n')=Z6N V W:=by
 rw[h.2.2.1,g.2.2.1,Zuc (Zci V) (Zci W),show vb 4294967296 (d32 V)=V from Zbi (by omega) V,show vb 4294967296 (d32 W)=W from Zbi (by omega) W];rfl
theorem rG (h:IsR H p n c V) (g:IsR H q n' c' W) (hp:0<n') (hle:W≤V):(!(ZH (Zm H p n) || ZH (Zm H q n')) && decide (0<n'∧¬ ZbG (Zm H p n) (Zm H q n')<0))=true:=by
 rw[rOr h g,Z3Z h g,Xa ⟨hp,by unfold Z6N;rw[if_neg (by omega)];split<;>omega⟩];rfl
theorem Z6P (h:IsR H p n c V) (g:IsR H q n' c' W):decide (vN (Zm H p n)/vN (Zm H q n')=((V/W:Nat):Int)∧vN (Zm H p n) % vN (Zm H q n')=((V % W:Nat):Int))=true:=by
 rw[h.2.2.1,g.2.2.1,Zgg,Zgg];exact Xa ⟨(Int.natCast_ediv V W).symm,(Int.natCast_emod V W).symm⟩
theorem rLt (h:IsR H p n c V):V<4294967296^n:=by
 have:=Zd6 (b:=4294967296) (by omega) (d32 V) (ZeO V);rw[show vb 4294967296 (d32 V)=V from Zbi (by omega) V,← h.2.2.2.1] at this;exact this
end
end Go.Proofs.YtgefjidphfdhdaaGreatDoor.Na
namespace Go.Proofs.YtgefjidphfdhdaaGreatDoor.Na
open Go.Proofs.Tryz
open Go.KRun Go.Nt
set_option maxRecDepth 100000
set_option linter.unusedVariables false
theorem Z4a (u:Int):Zs (Zf (Ze prog Zi Zn true) 3000 126 [.int .u64 u] [tst false,tst false,tst false,tst false]) (ZeP 0 u) [lt8 u,geq u 256 false,geq u 65536 false,geq u 4294967296 false,nz]:=by and_intros<;>kernel_rfl
theorem Z4b (u:Int):Zs (Zf (Ze prog Zi Zn true) 3000 126 [.int .u64 u] [tst false,tst false,tst false,tst true]) (ZeP 8 (shd u 8)) [lt8 (shd u 8),nz,geq u 256 true,geq u 65536 false,geq u 4294967296 false,nz]:=by and_intros<;>kernel_rfl
theorem ZlI (u:Int) (h0:0≤u) (h1:u<65536) (w:World):Calls prog 126 #[.int .u64 u] w fun e w'=>e= .returned (.int .i64 (bitLen u.toNat:Nat))∧zi w w':=by
 obtain⟨U,rfl⟩:=Int.eq_ofNat_of_zero_le h0;rw[Xg];have p8:(2:Nat)^8=256:=rfl;have step:∀ {v:Value}{s:List Dec}{cs:Log},Zs (Zf (Ze prog Zi Zn true) 3000 126 [.int .u64 (U:Int)] s) v cs→Zo cs→v= .int .i64 (bitLen U:Nat)→Calls prog 126 #[.int .u64 (U:Int)] w fun e w'=>e= .returned (.int .i64 (bitLen U:Nat))∧zi w w':=
  fun {v s cs} hf hc hv=>by subst hv;exact Zb (Zd Zh) hf hc (by rfl) (by rfl) w
 by_cases c:U<256
 ·obtain⟨e1,e2⟩:=zA (m:=0) (by omega) (by omega) c;exact step (Z4a U) (Zj e2 (Zj (ZeQ (by omega)) (Zj (ZeQ (by omega)) (Zj (ZeQ (by omega)) (Z7 ZaA))))) (by rw[e1];congr 1;omega)
 ·have l:=Zau U 8 (by omega);obtain⟨e1,e2⟩:=zA (m:=8) (Z:=U/2^8) (by omega) (by omega) (by omega);rw[← Zd9] at e1 e2;exact step (Z4b U) (Zj e2 (Zj ZaA (Zj (Zlq (by omega)) (Zj (ZeQ (by omega)) (Zj (ZeQ (by omega)) (Z7 ZaA)))))) (by rw[e1];congr 1;omega)
def ZuU:Ans:=fun vals s=>
 match vals with
 | [.int .u64 x]=>some (.int .i64 (bitLen x.toNat:Nat),s,[(decide (0≤x∧x<65536),true)])
 | _=>none
theorem ZpG:ZC 126 ZuU:=by
 intro vals s v s' lg h hl w;unfold ZuU at h;split at h
 ·cases h;have hr:=hl _ Xf;simp only[Xi] at hr;exact ZlI _ hr.1 hr.2 w
 ·cases h
def Zay:Con:=alt 126 ZuU Zn
theorem ZpH:ConOk Zay:=Zr func126 rfl ZpG Zh
def Z3c:Hc:=zJ 131 ZeK hcN
theorem ZuV:HcOk Z3c:=Zq func131 rfl ZaD zo
theorem ZuW:f79.body=some (Zw f79):=by kernel_rfl
end Go.Proofs.YtgefjidphfdhdaaGreatDoor.Na
namespace Go.Proofs.YtgefjidphfdhdaaGreatDoor.Na
open Go.Proofs.Tryz
open Go.IntKind
open Go.KRun Go.Nt
set_option maxRecDepth 100000
set_option linter.unusedVariables false
def o2 (x:Int):List Int:=[u32.wrap x,u32.wrap (x.fdiv (2^min (32:Int).toNat 64))]
theorem Z4c (x:Int):Zk (evC (Zx prog Zi Zn Z3c) 100 false (Zw f79) ([.int .u64 x]++List.replicate 9 undef,⟨0,[]⟩,[]) ⟨[],[],[]⟩) 3 7 (some none) [.int .u64 x,.tuple #[],sl 0 0 (Zg (Zt (wU (o2 x)) 0 2)) 2] ⟨1,[(wU (o2 x),tU)]⟩ [(Zu tU (wU (o2 x)) 0 2 2,true),(decide ((32:Int)<0),false)]:=by and_intros<;>kernel_rfl
theorem Z4d {x:Int}(h0:0≤x) (h1:x<18446744073709551616):o2 x=dg 2 x:=by
 have e:(2:Int)^min (32:Int).toNat 64=4294967296:=rfl;unfold o2;rw[e,Int.fdiv_eq_ediv_of_nonneg _ (by omega)];simp only[dg];have w:∀ z:Int,u32.wrap z=z % 4294967296:=fun z=>by simp [IntKind.wrap,IntKind.bits,IntKind.signed]
 rw[w,w]
def ZzH:Zba:=fun vals h s=>
 match vals with
 | [.int .u64 x]=>some (sl h.n 0 (Zg (dg 2 x)) 2,h.push (wU (dg 2 x)) tU,s,[(decide (0≤x∧x<18446744073709551616),true)])
 | _=>none
theorem Zhj:ZJ 79 ZzH:=by
 intro vals h s v h' s' lg hg hl m B w E hv;have hr0:(⟨0,[]⟩:Hp).rows:=⟨rfl,fun b x hx=>by have:b<0:=Hp.blk_lt hx;omega⟩;unfold ZzH at hg;split at hg
 ·rename_i x;cases hg;have q:=Xc (hl _ Xf);have hg:=Z4c x;have hl2:=ZB 2 x;have ec:Zt (wU (dg 2 x)) 0 2=dg 2 x:=by
   have:=Zza (dg 2 x);rw[hl2] at this;exact this
  rw[Z4d q.1 q.2,ec] at hg;have hok:Zu tU (wU (dg 2 x)) 0 2 2=true:=ZT (Zac _ _) (by omega) (by omega) (zf (by omega));have r:RunsW (Zx prog Zi Zn Z3c) (Zw f79) ([.int .u64 x]++List.replicate 9 undef,⟨0,[]⟩,[]) fun e z=>(e=none∨e=some none)∧zE prog f79 z.1 z.2.1=some (sl 0 0 (Zg (dg 2 x)) 2)∧∃ r,z.2.1.blk? 0=some (wU (dg 2 x)++r,tU):=by
   refine (Z0 (Z3 Zh ZuV) hg (Za hok (Zy (by decide)))).mono fun e z he=> ?_;obtain⟨rfl,⟨g,e1⟩,e2⟩:=he;exact⟨.inr rfl,by rw[e1,e2];rfl,[],by rw[e2,List.append_nil];rfl⟩
  exact Zao (T:=Zx prog Zi Zn Z3c) func79 ZuW hr0 (vals:=[.int .u64 x]) (fun v hv=>by rw[List.mem_singleton.1 hv];rfl) (k:=0) (cs:=wU (dg 2 x)) (ty:=tU) (ZtY _) (by kernel_rfl) r (by simp [oc,oc2,oc1,sl]) E (s:=fun i=>i) (fun i x hx _=>by have:i<0:=Hp.blk_lt hx;omega)
 ·cases hg
def hcQ:Hc:=zJ 79 ZzH (zJ 127 Zyj hcN)
theorem ZzI:HcOk hcQ:=Zq func79 rfl Zhj (Zq func127 rfl ZeU zo)
def qsn (k:Nat) (F:Func):Code:=match k with | 0=>Zw F | k+1=>ZV (qsn k F)
def qP (F:Func):List Code:=[ZA (qsn 0 F),ZA (qsn 1 F),ZA (qsn 2 F),ZA (qsn 3 F)]
def qI (F:Func):Code:=ZA (ZA (qsn 4 F))
def qL (F:Func):Code:=cIn (cIn (ZV (ZA (qsn 4 F))))
def qE (F:Func):Code:=qsn 5 F
theorem ZlJ:f76.body=some (Zaj (qP f76) (.seq (.seq (qI f76) (.block 0 (.loop (qL f76)))) (qE f76))):=by kernel_rfl
theorem ZpI:f76.body=some (Zw f76):=by kernel_rfl
def w32 (m:Nat) (V:Nat):List Value×TypeId:=(wU (dg m (V:Int)),tU)
def s32 (k m V:Nat):Value:=sl k 0 (Zg (dg m (V:Int))) m
def qF (b n:Int) (P O:Value) (i:Int):List Value:=[.int .u32 b,.int .i64 n,.tuple #[],.tuple #[],ZD,.nilIface,P,O,.nilIface,.int .i64 i]
def Q2 (b:Nat):Hp:=⟨2,[w32 2 b,w32 2 1]⟩
def Q3 (b m V:Nat):Hp:=⟨3,[w32 m V,w32 2 b,w32 2 1]⟩
def Q4 (b m V M S:Nat):Hp:=⟨4,[w32 M S,w32 m V,w32 2 b,w32 2 1]⟩
def Ziy (n i:Int):Int:=i64.wrap ((BitVec.ofInt 64 (n.fdiv (2^min i.toNat 64)) &&& BitVec.ofInt 64 1).toNat:Nat)
def q0F (b n:Int) (O:Value):List Value:=[.int .u32 b,.int .i64 n,.tuple #[],.tuple #[],ZD,.nilIface,s32 0 2 1,O,.nilIface]
theorem ZzJ (b:Nat) (n:Int):Zk (evL (Zx prog Zi Zay hcQ) 100 (qP f76) ([.int .u32 (b:Int),.int .i64 n]++List.replicate 54 undef,⟨0,[]⟩,[cmp false,cmp false]) ⟨[],[],[]⟩) 9 47 none (q0F b n (sl 1 0 (Zg (dg 2 (u64.wrap (b:Int)))) 2)) ⟨2,[(wU (dg 2 (u64.wrap (b:Int))),tU),w32 2 1]⟩ [(decide (0≤u64.wrap (b:Int)∧u64.wrap (b:Int)<18446744073709551616),true),(decide (0≤(1:Int)∧(1:Int)<18446744073709551616),true),(decide (n>1000000),false),(decide (n<0),false)]:=by and_intros<;>kernel_rfl
theorem Z7e (b:Nat) (n:Int) (O:Value) (g:Nat→Value) (h:Hp):Zk (evC (Zx prog Zi Zay hcQ) 100 false (qI f76) (q0F b n O++tl 47 g,h,[]) ⟨[],[],[]⟩) 10 46 none (qF b n (s32 0 2 1) O (i64.wrap (((bitLen (u64.wrap n).toNat:Nat):Int)-1))) h [(decide (0≤u64.wrap n∧u64.wrap n<65536),true)]:=by and_intros<;>kernel_rfl
theorem ZuX (b n:Int):Zk (evC (Zx prog Zi Zay hcQ) 100 false (Zw f76) ([.int .u32 b,.int .i64 n]++List.replicate 54 undef,⟨0,[]⟩,[cmp true]) ⟨[],[],[]⟩) 6 50 (some none) [.int .u32 b,.int .i64 n,.tuple #[],undef,ZD,ZbH 1] ⟨0,[]⟩ [(decide (n<0),true)]:=by and_intros<;>kernel_rfl
theorem ZuY (b n:Int):Zk (evC (Zx prog Zi Zay hcQ) 100 false (Zw f76) ([.int .u32 b,.int .i64 n]++List.replicate 54 undef,⟨0,[]⟩,[cmp false,cmp true]) ⟨[],[],[]⟩) 6 50 (some none) [.int .u32 b,.int .i64 n,.tuple #[],undef,ZD,ZbH 1] ⟨0,[]⟩ [(decide (n>1000000),true),(decide (n<0),false)]:=by and_intros<;>kernel_rfl
theorem Z4e (n i:Int) (b m V S:Nat) (g:Nat→Value):Zk (evC (Zx prog Zi Zay hcQ) 100 false (qL f76) (qF b n (s32 2 m V) (s32 1 2 b) i++tl 46 g,Q3 b m V,[cmp true,cmp false,num S,cmp false]) ⟨[],[],[]⟩) 10 46 none (qF b n (s32 3 (Zg (dg m (V:Int))+Zg (dg m (V:Int))) S) (s32 1 2 b) (i64.wrap (i-1))) (Q4 b m V (Zg (dg m (V:Int))+Zg (dg m (V:Int))) S) [(Ziy n i==1,false),(decide (i<0),false),(decide (ZgK (Zm (Q3 b m V) (some ⟨2,0,none⟩) (Zg (dg m (V:Int)))) (Zm (Q3 b m V) (some ⟨2,0,none⟩) (Zg (dg m (V:Int))))=dg (Zg (dg m (V:Int))+Zg (dg m (V:Int))) (S:Int)),true),(zg (Q3 b m V) (some ⟨2,0,none⟩) (Zg (dg m (V:Int))) (m),true),(zg (Q3 b m V) (some ⟨2,0,none⟩) (Zg (dg m (V:Int))) (m),true),(!decide (Zg (dg m (V:Int))=0∨Zg (dg m (V:Int))=0) && Nat.ble (Zg (dg m (V:Int))+Zg (dg m (V:Int))) 8192,true),(decide (i≥0),true)]:=by and_intros<;>kernel_rfl
theorem Z4f (n i:Int) (b m V S W:Nat) (g:Nat→Value):Zk (evC (Zx prog Zi Zay hcQ) 100 false (qL f76) (qF b n (s32 2 m V) (s32 1 2 b) i++tl 46 g,Q3 b m V,[cmp true,cmp false,num S,cmp true,cmp false,num W]) ⟨[],[],[]⟩) 10 46 none (qF b n (s32 4 (Zg (dg (Zg (dg m (V:Int))+Zg (dg m (V:Int))) (S:Int))+Zg (dg 2 (b:Int))) W) (s32 1 2 b) (i64.wrap (i-1))) ⟨5,[w32 (Zg (dg (Zg (dg m (V:Int))+Zg (dg m (V:Int))) (S:Int))+Zg (dg 2 (b:Int))) W,w32 (Zg (dg m (V:Int))+Zg (dg m (V:Int))) S,w32 m V,w32 2 b,w32 2 1]⟩ [(decide (ZgK (Zm (Q4 b m V (Zg (dg m (V:Int))+Zg (dg m (V:Int))) S) (some ⟨3,0,none⟩) (Zg (dg (Zg (dg m (V:Int))+Zg (dg m (V:Int))) (S:Int)))) (Zm (Q4 b m V (Zg (dg m (V:Int))+Zg (dg m (V:Int))) S) (some ⟨1,0,none⟩) (Zg (dg 2 (b:Int))))=dg (Zg (dg (Zg (dg m (V:Int))+Zg (dg m (V:Int))) (S:Int))+Zg (dg 2 (b:Int))) (W:Int)),true),(zg (Q4 b m V (Zg (dg m (V:Int))+Zg (dg m (V:Int))) S) (some ⟨3,0,none⟩) (Zg (dg (Zg (dg m (V:Int))+Zg (dg m (V:Int))) (S:Int))) (Zg (dg m (V:Int))+Zg (dg m (V:Int))),true),(zg (Q4 b m V (Zg (dg m (V:Int))+Zg (dg m (V:Int))) S) (some ⟨1,0,none⟩) (Zg (dg 2 (b:Int))) (2),true),(!decide (Zg (dg (Zg (dg m (V:Int))+Zg (dg m (V:Int))) (S:Int))=0∨Zg (dg 2 (b:Int))=0) && Nat.ble (Zg (dg (Zg (dg m (V:Int))+Zg (dg m (V:Int))) (S:Int))+Zg (dg 2 (b:Int))) 8192,true),(Ziy n i==1,true),(decide (i<0),false),(decide (ZgK (Zm (Q3 b m V) (some ⟨2,0,none⟩) (Zg (dg m (V:Int)))) (Zm (Q3 b m V) (some ⟨2,0,none⟩) (Zg (dg m (V:Int))))=dg (Zg (dg m (V:Int))+Zg (dg m (V:Int))) (S:Int)),true),(zg (Q3 b m V) (some ⟨2,0,none⟩) (Zg (dg m (V:Int))) (m),true),(zg (Q3 b m V) (some ⟨2,0,none⟩) (Zg (dg m (V:Int))) (m),true),(!decide (Zg (dg m (V:Int))=0∨Zg (dg m (V:Int))=0) && Nat.ble (Zg (dg m (V:Int))+Zg (dg m (V:Int))) 8192,true),(decide (i≥0),true)]:=by and_intros<;>kernel_rfl
theorem Z4g (n i:Int) (b S W:Nat) (g:Nat→Value):Zk (evC (Zx prog Zi Zay hcQ) 100 false (qL f76) (qF b n (s32 0 2 1) (s32 1 2 b) i++tl 46 g,Q2 b,[cmp true,cmp false,num S,cmp true,cmp false,num W]) ⟨[],[],[]⟩) 10 46 none (qF b n (s32 3 (Zg (dg (Zg (dg 2 ((1:Nat):Int))+Zg (dg 2 ((1:Nat):Int))) (S:Int))+Zg (dg 2 (b:Int))) W) (s32 1 2 b) (i64.wrap (i-1))) ⟨4,[w32 (Zg (dg (Zg (dg 2 ((1:Nat):Int))+Zg (dg 2 ((1:Nat):Int))) (S:Int))+Zg (dg 2 (b:Int))) W,w32 (Zg (dg 2 ((1:Nat):Int))+Zg (dg 2 ((1:Nat):Int))) S,w32 2 b,w32 2 1]⟩ [(decide (ZgK (Zm (Q3 b (Zg (dg 2 ((1:Nat):Int))+Zg (dg 2 ((1:Nat):Int))) S) (some ⟨2,0,none⟩) (Zg (dg (Zg (dg 2 ((1:Nat):Int))+Zg (dg 2 ((1:Nat):Int))) (S:Int)))) (Zm (Q3 b (Zg (dg 2 ((1:Nat):Int))+Zg (dg 2 ((1:Nat):Int))) S) (some ⟨1,0,none⟩) (Zg (dg 2 (b:Int))))=dg (Zg (dg (Zg (dg 2 ((1:Nat):Int))+Zg (dg 2 ((1:Nat):Int))) (S:Int))+Zg (dg 2 (b:Int))) (W:Int)),true),(zg (Q3 b (Zg (dg 2 ((1:Nat):Int))+Zg (dg 2 ((1:Nat):Int))) S) (some ⟨2,0,none⟩) (Zg (dg (Zg (dg 2 ((1:Nat):Int))+Zg (dg 2 ((1:Nat):Int))) (S:Int))) (Zg (dg 2 ((1:Nat):Int))+Zg (dg 2 ((1:Nat):Int))),true),(zg (Q3 b (Zg (dg 2 ((1:Nat):Int))+Zg (dg 2 ((1:Nat):Int))) S) (some ⟨1,0,none⟩) (Zg (dg 2 (b:Int))) (2),true),(!decide (Zg (dg (Zg (dg 2 ((1:Nat):Int))+Zg (dg 2 ((1:Nat):Int))) (S:Int))=0∨Zg (dg 2 (b:Int))=0) && Nat.ble (Zg (dg (Zg (dg 2 ((1:Nat):Int))+Zg (dg 2 ((1:Nat):Int))) (S:Int))+Zg (dg 2 (b:Int))) 8192,true),(Ziy n i==1,true),(decide (i<0),false),(decide (ZgK (Zm (Q2 b) (some ⟨0,0,none⟩) (Zg (dg 2 ((1:Nat):Int)))) (Zm (Q2 b) (some ⟨0,0,none⟩) (Zg (dg 2 ((1:Nat):Int))))=dg (Zg (dg 2 ((1:Nat):Int))+Zg (dg 2 ((1:Nat):Int))) (S:Int)),true),(zg (Q2 b) (some ⟨0,0,none⟩) (Zg (dg 2 ((1:Nat):Int))) (2),true),(zg (Q2 b) (some ⟨0,0,none⟩) (Zg (dg 2 ((1:Nat):Int))) (2),true),(!decide (Zg (dg 2 ((1:Nat):Int))=0∨Zg (dg 2 ((1:Nat):Int))=0) && Nat.ble (Zg (dg 2 ((1:Nat):Int))+Zg (dg 2 ((1:Nat):Int))) 8192,true),(decide (i≥0),true)]:=by and_intros<;>kernel_rfl
theorem Z4h (n i:Int) (b S:Nat) (g:Nat→Value):Zk (evC (Zx prog Zi Zay hcQ) 100 false (qL f76) (qF b n (s32 0 2 1) (s32 1 2 b) i++tl 46 g,Q2 b,[cmp true,cmp false,num S,cmp true,cmp true]) ⟨[],[],[]⟩) 10 46 none (qF b n ZD (s32 1 2 b) (i64.wrap (i-1))) (Q3 b (Zg (dg 2 ((1:Nat):Int))+Zg (dg 2 ((1:Nat):Int))) S) [(decide (Zg (dg (Zg (dg 2 ((1:Nat):Int))+Zg (dg 2 ((1:Nat):Int))) (S:Int))=0∨Zg (dg 2 (b:Int))=0),true),(Ziy n i==1,true),(decide (i<0),false),(decide (ZgK (Zm (Q2 b) (some ⟨0,0,none⟩) (Zg (dg 2 ((1:Nat):Int)))) (Zm (Q2 b) (some ⟨0,0,none⟩) (Zg (dg 2 ((1:Nat):Int))))=dg (Zg (dg 2 ((1:Nat):Int))+Zg (dg 2 ((1:Nat):Int))) (S:Int)),true),(zg (Q2 b) (some ⟨0,0,none⟩) (Zg (dg 2 ((1:Nat):Int))) (2),true),(zg (Q2 b) (some ⟨0,0,none⟩) (Zg (dg 2 ((1:Nat):Int))) (2),true),(!decide (Zg (dg 2 ((1:Nat):Int))=0∨Zg (dg 2 ((1:Nat):Int))=0) && Nat.ble (Zg (dg 2 ((1:Nat):Int))+Zg (dg 2 ((1:Nat):Int))) 8192,true),(decide (i≥0),true)]:=by and_intros<;>kernel_rfl
theorem Z4i (n i:Int) (b m V:Nat) (g:Nat→Value):Zk (evC (Zx prog Zi Zay hcQ) 100 false (qL f76) (qF b n ZD (s32 1 2 b) i++tl 46 g,Q3 b m V,[cmp true,cmp true,cmp false]) ⟨[],[],[]⟩) 10 46 none (qF b n ZD (s32 1 2 b) (i64.wrap (i-1))) (Q3 b m V) [(Ziy n i==1,false),(decide (i<0),false),(decide (0=0∨0=0),true),(decide (i≥0),true)]:=by and_intros<;>kernel_rfl
theorem Z4j (n i:Int) (b m V:Nat) (g:Nat→Value):Zk (evC (Zx prog Zi Zay hcQ) 100 false (qL f76) (qF b n ZD (s32 1 2 b) i++tl 46 g,Q3 b m V,[cmp true,cmp true,cmp true,cmp true]) ⟨[],[],[]⟩) 10 46 none (qF b n ZD (s32 1 2 b) (i64.wrap (i-1))) (Q3 b m V) [(decide (0=0∨Zg (dg 2 (b:Int))=0),true),(Ziy n i==1,true),(decide (i<0),false),(decide (0=0∨0=0),true),(decide (i≥0),true)]:=by and_intros<;>kernel_rfl
theorem Z7f (n i:Int) (b:Nat) (P O:Value) (h:Hp) (g:Nat→Value):Zk (evC (Zx prog Zi Zay hcQ) 100 false (qL f76) (qF b n P O i++tl 46 g,h,[cmp false]) ⟨[],[],[]⟩) 10 46 (some (some 0)) (qF b n P O i) h [(decide (i≥0),false)]:=by and_intros<;>kernel_rfl
theorem Z4k (n i:Int) (b:Nat) (P O:Value) (h:Hp) (g:Nat→Value):Zk (evC (Zx prog Zi Zay hcQ) 100 false (qE f76) (qF b n P O i++tl 46 g,h,[]) ⟨[],[],[]⟩) 6 50 (some none) [.int .u32 (b:Int),.int .i64 n,.tuple #[],.tuple #[],P,.nilIface] h []:=by and_intros<;>kernel_rfl
def nw (V:Nat):Nat:=(d32 V).length
def pM (b j:Nat):Nat:=if j=0 then 2 else if j % 2=1 then nw (b^(j-1))+nw b else nw (b^(j/2))+nw (b^(j/2))
theorem Ziz:TabOk (Zx prog Zi Zay hcQ):=Z3 ZpH ZzI
theorem ZcW {V k:Nat}(h:V<4294967296^k):nw V≤k:=ZcL (by omega) k V h
theorem ZjF (V:Nat):V<4294967296^nw V:=by
 have:=Zd6 (b:=4294967296) (by omega) (d32 V) (ZeM (by omega) V);rw[show vb 4294967296 (d32 V)=V from Zbi (by omega) V] at this;exact this
theorem Zi0 {V:Nat}(h:0<V):0<nw V:=(Zc4 (by omega)).2 h
theorem ZuZ:nw 0=0:=by unfold nw d32;rw[zp];rfl
theorem ZpJ {m V:Nat}(h:V<4294967296^m) (hm:m≤1000):Zg (dg m (V:Int))=nw V:=
 (Zex (H:=⟨1,[w32 m V]⟩) (b:=0) rfl h hm).2.2.2.1
theorem Z4l {b j:Nat}(hb:b<4294967296) (hj:1≤j):b^j<4294967296^j:=Nat.pow_lt_pow_left hb (by omega)
theorem ZzK {b j:Nat}(hb:b<4294967296):nw (b^j)≤j+1:=by
 by_cases h:1≤j
 ·have:=ZcW (Z4l hb h);omega
 ·have:j=0:=by omega
  subst this;rw[Nat.pow_zero];exact ZcW (by decide)
theorem Zva {n i:Nat}(hn:n<65536) (hi:i<64):Ziy (n:Int) (i:Int)=((n/2^i % 2:Nat):Int):=by
 have e:(n:Int).fdiv (2^min (i:Int).toNat 64)=((n/2^i:Nat):Int):=by
  rw[Xg,show min i 64=i by omega,Int.fdiv_eq_ediv_of_nonneg _ (Int.le_of_lt (Int.pow_pos (by omega)))];simp
 have hl:n/2^i≤n:=Nat.div_le_self _ _;unfold Ziy;rw[e,BitVec.toNat_and,show (BitVec.ofInt 64 1).toNat=1 from rfl,Nat.and_one_is_mod,BitVec.toNat_ofInt];have h2:((2^64:Nat):Int)=18446744073709551616:=rfl;rw[Zv (by omega) (by omega)];omega
theorem Zvb (b:Nat) {h:Hp}(h0:h.blk? 0=some (w32 2 1)) (h1:h.blk? 1=some (w32 2 b)):∀ i x,(⟨2,[w32 2 b,w32 2 1]⟩:Hp).blk? i=some x→h.blk? i=some x∧∀ v∈x.1,still v=true:=by
 intro i x hx;have hi:i<2:=Hp.blk_lt hx
 match i,hi,hx with
 | 0,_,hx=>
  have e:x=w32 2 1:=(Option.some.inj hx).symm;subst e;exact⟨h0,Zb1 _⟩
 | 1,_,hx=>
  have e:x=w32 2 b:=(Option.some.inj hx).symm;subst e;exact⟨h1,Zb1 _⟩
theorem Zvc (b n:Int) {P O:Value}(i:Int) (hP:lt 3 P=true) (hO:lt 3 O=true):∀ v∈qF b n P O i,lt 3 v=true:=by
 intro v hv;unfold qF at hv;simp only[List.mem_cons,List.not_mem_nil,or_false] at hv;rcases hv with rfl | rfl | rfl | rfl | rfl | rfl | rfl | rfl | rfl | rfl<;>first | rfl | exact hP | exact hO
def nS (b n k:Nat) (y:Lf):Prop:=∃ g,(n/2^k=0∧y.1=qF b n (s32 0 2 1) (s32 1 2 b) ((k:Int)-1)++tl 46 g∧y.2.1=Q2 b)∨
 (1≤n/2^k∧0<b∧y.1=qF b n (s32 2 (pM b (n/2^k)) (b^(n/2^k))) (s32 1 2 b) ((k:Int)-1)++tl 46 g∧y.2.1=Q3 b (pM b (n/2^k)) (b^(n/2^k)))∨
 (1≤n/2^k∧b=0∧∃ m V,y.1=qF b n ZD (s32 1 2 b) ((k:Int)-1)++tl 46 g∧y.2.1=Q3 b m V)
theorem ZpK {b n:Nat}(hb:b<4294967296) (hn:n≤300):∀ j,j≤n→nw (b^j)≤400:=fun j hj=>by
 have:=ZzK (b:=b) (j:=j) hb;omega
theorem ZlK {n:Nat}(hn:n≤2000):∀ j,j≤n→nw (10^j)≤400:=fun j hj=>by
 have h:(10:Nat)^j<4294967296^(j/9+1):=by
  refine Nat.lt_of_le_of_lt (Nat.pow_le_pow_right (by omega) (show j≤9*(j/9+1) by omega)) ?_;rw[Nat.pow_mul];exact Nat.pow_lt_pow_left (by decide) (by omega)
 have:=ZcW h;omega
theorem Zvd {b j n:Nat}(hw:∀ j,j≤n→nw (b^j)≤400) (hb:b<4294967296) (hj:j≤n) (hj0:1≤j):b^j<4294967296^pM b j∧pM b j≤1000:=by
 unfold pM;rw[if_neg (by omega)];by_cases h:j % 2=1
 ·rw[if_pos h];have e:b^j=b^(j-1)*b:=by rw[← Nat.pow_succ];congr 1;omega
  have l1:=ZjF (b^(j-1));have l2:=ZjF b;have k1:=hw (j-1) (by omega);have k2:nw b≤1:=ZcW (by omega);refine⟨?_,by omega⟩;rw[e,Nat.pow_add];exact Nat.mul_lt_mul'' l1 l2
 ·rw[if_neg h];have e:b^j=b^(j/2)*b^(j/2):=by rw[← Nat.pow_add];congr 1;omega
  have l1:=ZjF (b^(j/2));have k1:=hw (j/2) (by omega);refine⟨?_,by omega⟩;rw[e,Nat.pow_add];exact Nat.mul_lt_mul'' l1 l1
theorem Zgh {x y:Nat}(hx:0<x) (hy:0<y) (h:x+y≤8192):(!decide (x=0∨y=0) && Nat.ble (x+y) 8192)=true:=by
 rw[Xb (by omega),Nat.ble_eq_true_of_le h];rfl
theorem ZpL {b n k:Nat}(hb:b<4294967296) (hn:n≤2000) (hw:∀ j,j≤n→nw (b^j)≤400) (hk:k≤20) {y:Lf}(h:nS b n (k+1) y) (ht:n/2^(k+1)=0→n/2^k % 2=1):RunsW (Zx prog Zi Zay hcQ) (qL f76) y fun e z=>e=none∧nS b n k z:=by
 obtain⟨t,h',s⟩:=y;obtain⟨i,hi⟩:∃ i:Int,i=((k+1:Nat):Int)-1:=⟨_,rfl⟩;have hik:i=(k:Int):=by omega
 have hi0:i≥0:=by omega
 have hiF:decide (i<0)=false:=Xb (by omega);have ei:i64.wrap (i-1)=(k:Int)-1:=by rw[Zv (by omega) (by omega)];omega
 have eb:Ziy (n:Int) i=((n/2^k % 2:Nat):Int):=by rw[hik];exact Zva (by omega) (by omega)
 have dd:n/2^k=2*(n/2^(k+1))+n/2^k % 2:=by
  rw[Nat.pow_succ,← Nat.div_div_eq_div_mul];omega
 have jn:n/2^k≤n:=Nat.div_le_self _ _;have kb:nw b≤1:=ZcW (by omega);have tb:=ZpJ (m:=2) (V:=b) (by have:(4294967296:Nat)^2=18446744073709551616:=rfl;omega) (by omega);have lt1:KRun.lt 3 (s32 1 2 b)=true:=rfl;have bN:b<4294967296^2:=by have:(4294967296:Nat)^2=18446744073709551616:=rfl;omega
 generalize hj:n/2^(k+1)=j at*;generalize hj':n/2^k=j' at*;obtain⟨g,hy⟩:=h;rw[hj] at hy;rcases hy with ⟨j0,ht',hh⟩ | ⟨j1,b0,ht',hh⟩ | ⟨j1,b0,m,V,ht',hh⟩
 ·have hbit:=ht j0;have j'1:j'=1:=by omega
  simp only at ht' hh;rw[← hi] at ht';subst ht' hh;have hbt:(Ziy (n:Int) i==1)=true:=by rw[eb,hbit];rfl
  have n1:Zg (dg 2 ((1:Nat):Int))=1:=by decide
  have r1:=Zex (H:=Q2 b) (b:=0) (V:=1) (m:=2) rfl (by decide) (by omega);have z1:(!decide (Zg (dg 2 ((1:Nat):Int))=0∨Zg (dg 2 ((1:Nat):Int))=0) && Nat.ble (Zg (dg 2 ((1:Nat):Int))+Zg (dg 2 ((1:Nat):Int))) 8192)=true:=Zgh (by omega) (by omega) (by omega);by_cases b0:0<b
  ·have e2:Zg (dg (Zg (dg 2 ((1:Nat):Int))+Zg (dg 2 ((1:Nat):Int))) ((1:Nat):Int))=1:=by decide
   have r2:=Zex (H:=Q3 b (Zg (dg 2 ((1:Nat):Int))+Zg (dg 2 ((1:Nat):Int))) 1) (b:=2) (V:=1) (m:=Zg (dg 2 ((1:Nat):Int))+Zg (dg 2 ((1:Nat):Int))) rfl (by decide) (by omega);have r3:=Zex (H:=Q3 b (Zg (dg 2 ((1:Nat):Int))+Zg (dg 2 ((1:Nat):Int))) 1) (b:=1) (V:=b) (m:=2) rfl bN (by omega);have pb:=Zi0 b0;have hg:=Z4g n i b 1 (1*b) g;rw[ei] at hg;have z2:=Zgh (x:=Zg (dg (Zg (dg 2 ((1:Nat):Int))+Zg (dg 2 ((1:Nat):Int))) ((1:Nat):Int))) (y:=Zg (dg 2 (b:Int))) (by omega) (by omega) (by omega);have hp:pM b 1=Zg (dg (Zg (dg 2 ((1:Nat):Int))+Zg (dg 2 ((1:Nat):Int))) ((1:Nat):Int))+Zg (dg 2 (b:Int)):=by
    rw[e2,tb];unfold pM;rw[if_neg (by omega),if_pos (by omega),Nat.sub_self,Nat.pow_zero];rw[show nw 1=1 from by
     have:=ZpJ (m:=2) (V:=1) (by decide) (by omega);rw[← this];exact n1]
   have run:=Z0 (s0:=s) Ziz hg (Za (Zsw r2 r3) (Za (rX r2) (Za (rX r3) (Za z2 (Za hbt (Za hiF (Za (Zsw r1 r1) (Za (rX r1) (Za (rX r1) (Za z1 (Zy (Xa hi0))))))))))));rw[← hp,Nat.one_mul] at run;have:=run.kept (k:=2) (b:=3) (base:=[w32 2 b,w32 2 1]) (y:=w32 (pM b 1) b) (front':=qF b n (s32 2 (pM b 1) b) (s32 1 2 b) ((k:Int)-1)) rfl (by kernel_rfl) (Zvb b rfl rfl) rfl (by omega) (Zb1 _) (Zvc _ _ _ rfl rfl);refine this.mono fun e z hz=> ?_;obtain⟨rfl,⟨g',e1⟩,e2'⟩:=hz;refine⟨rfl,g',.inr (.inl ⟨by omega,b0,?_,?_⟩)⟩
   ·rw[hj',j'1,Nat.pow_one];exact e1
   ·rw[hj',j'1,Nat.pow_one];exact e2'
  ·have bz:b=0:=by omega
   have hg:=Z4h n i b 1 g;rw[ei] at hg;have run:=Z0 (s0:=s) Ziz hg (Za (Xa (.inr (by rw[tb,bz,ZuZ]))) (Za hbt (Za hiF (Za (Zsw r1 r1) (Za (rX r1) (Za (rX r1) (Za z1 (Zy (Xa hi0)))))))));refine run.mono fun e z hz=> ?_;obtain⟨rfl,⟨g',e1⟩,e2'⟩:=hz;exact⟨rfl,g',.inr (.inr ⟨by rw[hj'];omega,bz,_,_,e1,e2'⟩)⟩
 ·simp only at ht' hh;rw[← hi] at ht';have hm:pM b j=pM b j:=rfl;obtain⟨m,em⟩:∃ m,m=pM b j:=⟨_,rfl⟩;obtain⟨V,eV⟩:∃ V,V=b^j:=⟨_,rfl⟩;rw[← em,← eV] at ht' hh;obtain⟨p1,p2⟩:=Zvd hw hb (show j≤n by omega) j1;rw[← em,← eV] at p1;rw[← em] at p2;subst ht' hh;have V0:0<V:=by rw[eV];exact Nat.pow_pos b0
  have tV:=ZpJ p1 p2;have pV:=Zi0 V0;have lV:nw V≤400:=by rw[eV];exact hw j (by omega)
  have r1:=Zex (H:=Q3 b m V) (b:=2) (V:=V) (m:=m) rfl p1 p2;have z1:=Zgh (x:=Zg (dg m (V:Int))) (y:=Zg (dg m (V:Int))) (by omega) (by omega) (by omega);have eS:V*V=b^(2*j):=by rw[eV,← Nat.pow_add];congr 1;omega
  by_cases hbit:j' % 2=1
  ·have hbt:(Ziy (n:Int) i==1)=true:=by rw[eb,hbit];rfl
   have j'e:j'=2*j+1:=by omega
   have pb:=Zi0 b0;obtain⟨S,hS⟩:∃ S,S=V*V:=⟨_,rfl⟩;have sB:S<4294967296^(Zg (dg m (V:Int))+Zg (dg m (V:Int))):=by
    rw[hS,Nat.pow_add,tV];exact Nat.mul_lt_mul'' (ZjF V) (ZjF V)
   have sm:Zg (dg m (V:Int))+Zg (dg m (V:Int))≤1000:=by omega
   have tS:=ZpJ sB sm;have S0:0<S:=by rw[hS];exact Nat.mul_pos V0 V0
   have pS:=Zi0 S0;have lS:nw S≤400:=by rw[hS,eS];exact hw (2*j) (by omega)
   have r2:=Zex (H:=Q4 b m V (Zg (dg m (V:Int))+Zg (dg m (V:Int))) S) (b:=3) (V:=S) (m:=Zg (dg m (V:Int))+Zg (dg m (V:Int))) rfl sB sm;have r3:=Zex (H:=Q4 b m V (Zg (dg m (V:Int))+Zg (dg m (V:Int))) S) (b:=1) (V:=b) (m:=2) rfl bN (by omega);have z2:=Zgh (x:=Zg (dg (Zg (dg m (V:Int))+Zg (dg m (V:Int))) (S:Int))) (y:=Zg (dg 2 (b:Int))) (by omega) (by omega) (by omega);have rm:=Zsw r1 r1;rw[← hS] at rm;have hg:=Z4f n i b m V S (S*b) g;rw[ei] at hg;have hp:pM b j'=Zg (dg (Zg (dg m (V:Int))+Zg (dg m (V:Int))) (S:Int))+Zg (dg 2 (b:Int)):=by
    rw[tS,tb];unfold pM;rw[if_neg (by omega),if_pos hbit,hS,eS,j'e,Nat.add_sub_cancel]
   have run:=Z0 (s0:=s) Ziz hg (Za (Zsw r2 r3) (Za (rX r2) (Za (rX r3) (Za z2 (Za hbt (Za hiF (Za rm (Za (rX r1) (Za (rX r1) (Za z1 (Zy (Xa hi0))))))))))));have hW:S*b=b^j':=by rw[hS,eS,j'e,Nat.pow_succ]
   rw[← hp,hW] at run;have:=run.kept (k:=2) (b:=4) (base:=[w32 2 b,w32 2 1]) (y:=w32 (pM b j') (b^j')) (front':=qF b n (s32 2 (pM b j') (b^j')) (s32 1 2 b) ((k:Int)-1)) rfl (by kernel_rfl) (Zvb b rfl rfl) rfl (by omega) (Zb1 _) (Zvc _ _ _ rfl rfl);refine this.mono fun e z hz=> ?_;obtain⟨rfl,⟨g',e1⟩,e2'⟩:=hz;refine⟨rfl,g',.inr (.inl ⟨by omega,b0,?_,?_⟩)⟩
   ·rw[hj'];exact e1
   ·rw[hj'];exact e2'
  ·have hbt:(Ziy (n:Int) i==1)=false:=by rw[eb,show j' % 2=0 by omega];rfl
   have j'e:j'=2*j:=by omega
   have hg:=Z4e n i b m V (V*V) g;rw[ei] at hg;have hp:pM b j'=Zg (dg m (V:Int))+Zg (dg m (V:Int)):=by
    rw[tV,eV];unfold pM;rw[if_neg (by omega),if_neg hbit,j'e,Nat.mul_div_cancel_left _ (by omega)]
   have run:=Z0 (s0:=s) Ziz hg (Za hbt (Za hiF (Za (Zsw r1 r1) (Za (rX r1) (Za (rX r1) (Za z1 (Zy (Xa hi0))))))));have hW:V*V=b^j':=by rw[eS,j'e]
   rw[← hp,hW] at run;have:=run.kept (k:=2) (b:=3) (base:=[w32 2 b,w32 2 1]) (y:=w32 (pM b j') (b^j')) (front':=qF b n (s32 2 (pM b j') (b^j')) (s32 1 2 b) ((k:Int)-1)) rfl (by kernel_rfl) (Zvb b rfl rfl) rfl (by omega) (Zb1 _) (Zvc _ _ _ rfl rfl);refine this.mono fun e z hz=> ?_;obtain⟨rfl,⟨g',e1⟩,e2'⟩:=hz;refine⟨rfl,g',.inr (.inl ⟨by omega,b0,?_,?_⟩)⟩
   ·rw[hj'];exact e1
   ·rw[hj'];exact e2'
 ·simp only at ht' hh;rw[← hi] at ht';subst ht' hh;by_cases hbit:j' % 2=1
  ·have hbt:(Ziy (n:Int) i==1)=true:=by rw[eb,hbit];rfl
   have hg:=Z4j n i b m V g;rw[ei] at hg;refine (Z0 (s0:=s) Ziz hg (Za (Xa (.inl rfl)) (Za hbt (Za hiF (Za (by decide) (Zy (Xa hi0))))))).mono fun e z hz=> ?_;obtain⟨rfl,⟨g',e1⟩,e2'⟩:=hz;exact⟨rfl,g',.inr (.inr ⟨by rw[hj'];omega,b0,m,V,e1,e2'⟩)⟩
  ·have hbt:(Ziy (n:Int) i==1)=false:=by rw[eb,show j' % 2=0 by omega];rfl
   have hg:=Z4i n i b m V g;rw[ei] at hg;refine (Z0 (s0:=s) Ziz hg (Za hbt (Za hiF (Za (by decide) (Zy (Xa hi0)))))).mono fun e z hz=> ?_;obtain⟨rfl,⟨g',e1⟩,e2'⟩:=hz;exact⟨rfl,g',.inr (.inr ⟨by rw[hj'];omega,b0,m,V,e1,e2'⟩)⟩
end Go.Proofs.YtgefjidphfdhdaaGreatDoor.Na
namespace Go.Proofs.YtgefjidphfdhdaaGreatDoor.Na
open Go.Proofs.Tryz
open Go.KRun Go.Nt
set_option maxRecDepth 100000
def fN (k:Int) (e:Value):List Value:=[ZD,i6' k,undef,undef,ZD,e]
theorem ZpM (k:Int):Zk (evC (Zx prog Zi Zn hcS) 200 false (Zw f77) ([ZD,i6' k]++List.replicate 45 undef,⟨0,[]⟩,[cmp true]) ⟨[],[],[]⟩) 6 41 (some none) (fN k (ZbH 1)) ⟨0,[]⟩ [(decide (k<0),true)]:=by and_intros<;>kernel_rfl
theorem ZpN (k:Int):Zk (evC (Zx prog Zi Zn hcS) 200 false (Zw f77) ([ZD,i6' k]++List.replicate 45 undef,⟨0,[]⟩,[cmp false]) ⟨[],[],[]⟩) 6 41 (some none) (fN k .nilIface) ⟨0,[]⟩ [(decide (k<0),false)]:=by and_intros<;>kernel_rfl
def Z3d (d:Bool):Value:=match d with | true=>ZbH 1 | false=> .nilIface
theorem ZlL (k:Int) (d:Bool) (hd:decide (k<0)=d):Runs (Zx prog Zi Zn hcS) (Zw f77) ([ZD,i6' k]++List.replicate 45 undef,⟨0,[]⟩,[]) fun e' y=>(e'=none∨e'=some none)∧zE prog f77 y.1 y.2.1=some (.tuple #[ZD,Z3d d]):=by
 cases d with
 | true=>
  refine (Zc (Z3 Zh Zil) (ZpM k) (Z7 hd)).mono fun e' y he=> ?_;obtain⟨rfl,⟨g,e2⟩,e3⟩:=he;refine⟨.inr rfl,?_⟩;rw[e2,e3];rfl
 | false=>
  refine (Zc (Z3 Zh Zil) (ZpN k) (Z7 hd)).mono fun e' y he=> ?_;obtain⟨rfl,⟨g,e2⟩,e3⟩:=he;refine⟨.inr rfl,?_⟩;rw[e2,e3];rfl
def ZjG:Zba:=fun vals h s=>
 match vals with
 | [.slice none 0 0,.int .i64 k]=>
  match s with
  | .inr (.inr (.inr (.inl d)))::s'=>some (.tuple #[ZD,Z3d d],h,s',[(decide (k<0),d)])
  | _=>none
 | _=>Zut vals h s
theorem Zb2:ZJ 77 ZjG:=by
 intro vals h s v h' s' lg hg hl m B w E hv;unfold ZjG at hg;split at hg
 ·rename_i k;split at hg
  ·rename_i d s2;cases hg;have hd:=hl _ Xf;have e0:rn (fun b=>b) (.tuple #[ZD,Z3d d])= .tuple #[ZD,Z3d d]:=by cases d<;>exact Zdb (by rfl)
   have:=zl (T:=Zx prog Zi Zn hcS) func77 ZeR (h0:=⟨0,[]⟩) ⟨rfl,fun b x hb=>absurd (Hp.blk_lt hb) (Nat.not_lt_zero _)⟩ (vals:=[ZD,i6' k]) (fun v hv=>by
    simp only[List.mem_cons,List.not_mem_nil,or_false] at hv;rcases hv with rfl | rfl<;>rfl) (by cases d<;>rfl) (ZlL k d hd) E (s:=fun b=>b) (fun i hi=>absurd hi (Nat.not_lt_zero _)) (fun i x hi=>absurd (Hp.blk_lt hi) (Nat.not_lt_zero _))
   rw[e0] at this;exact this.mono fun e w' he=>⟨m,he.1,he.2⟩
  ·cases hg
 ·exact Zuu _ _ _ _ _ _ _ hg hl m B w E hv
end Go.Proofs.YtgefjidphfdhdaaGreatDoor.Na
