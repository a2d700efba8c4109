/-
  NumU, ConO4, ConO5, ConO6, NumDn, ConO7, ConO8, NumQt, ConO9, ConOA, ConOB, SlK, PwD, PwE, PwA
-/
import GoSem.Core.Sem
import Derived.Test.YtgefjidphfdhdaaGreatDoorG09
namespace Go.Pt
open Go.IntKind
def ZqL (x y:Int):Int:=u64.wrap ((BitVec.ofInt 64 x &&& BitVec.ofInt 64 y).toNat:Nat)
def bOr (x y:Int):Int:=u64.wrap ((BitVec.ofInt 64 x ||| BitVec.ofInt 64 y).toNat:Nat)
def Z5H (x y:Int):Int:=u64.wrap ((BitVec.ofInt 64 x &&& ~~~(BitVec.ofInt 64 y)).toNat:Nat)
abbrev U (p:Int):Prop:=0≤p∧p<18446744073709551616
abbrev I (n:Int):Prop:= -9223372036854775808≤n∧n≤9223372036854775807
theorem Z5I (n:Int):u64.wrap n=n % 18446744073709551616:=by simp [IntKind.wrap,IntKind.bits,IntKind.signed]
theorem wrapU' {n:Int}(h:U n):u64.wrap n=n:=by rw[Z5I];unfold U at h;omega
theorem ZiL {n:Int}(h:I n):i64.wrap n=n:=by
 unfold I at h;simp [IntKind.wrap,IntKind.bits,IntKind.signed];omega
theorem ofU {Z:Nat}(h:Z<18446744073709551616):(BitVec.ofInt 64 (Z:Int)).toNat=Z:=by simp;omega
theorem ZqM {V:BitVec 64}:u64.wrap (V.toNat:Nat)=(V.toNat:Int):=by
 have:=V.isLt;exact wrapU' ⟨by omega,by omega⟩
theorem ZqN (x k j:Nat):x &&& (2^k*(2^j-1))=2^k*(x/2^k % 2^j):=by
 refine Nat.eq_of_testBit_eq fun i=> ?_;rw[Nat.testBit_and,Nat.testBit_two_pow_mul,Nat.testBit_two_pow_sub_one,Nat.testBit_two_pow_mul,Nat.testBit_mod_two_pow,Nat.testBit_div_two_pow];by_cases h:k≤i
 ·have e:k+(i-k)=i:=by omega
  have e':i-k+k=i:=by omega
  simp [h,e',Bool.and_comm]
 ·simp [h]
theorem Zep {p m:Int}(k j:Nat) (hp:U p) (hm:m=((2^k*(2^j-1):Nat):Int)) (hk:2^k*(2^j-1)<18446744073709551616):ZqL p m=2^k*(p/2^k % 2^j):=by
 obtain⟨h0,h1⟩:=hp;obtain⟨Z,rfl⟩:=Int.eq_ofNat_of_zero_le h0;unfold ZqL;rw[ZqM,BitVec.toNat_and,ofU (by omega),hm,ofU hk,ZqN];simp
theorem or_low {p q:Int}(k:Nat) {z:Int}(hz:0≤z) (hq:q=2^k*z) (hp:0≤p) (hk:p<2^k) (hs:q+p<18446744073709551616):bOr p q=q+p:=by
 obtain⟨Z,rfl⟩:=Int.eq_ofNat_of_zero_le hz;obtain⟨Y,rfl⟩:=Int.eq_ofNat_of_zero_le hp;have ex:(2:Int)^k*(Z:Nat)=((2^k*Z:Nat):Int):=by simp
 have hY:Y<2^k:=by
  have:((Y:Nat):Int)<((2^k:Nat):Int):=by simpa using hk
  exact Int.ofNat_lt.1 this
 subst hq;rw[ex] at hs ⊢;have hX:2^k*Z+Y<18446744073709551616:=by omega
 unfold bOr;rw[ZqM,BitVec.toNat_or,ofU (by omega),ofU (by omega),Nat.or_comm,← Nat.two_pow_add_eq_or_of_lt hY];omega
theorem ZmH {p:Int}(hp:U p):Z5H p 9223372036854775808=p % 9223372036854775808:=by
 obtain⟨h0,h1⟩:=hp;obtain⟨Z,rfl⟩:=Int.eq_ofNat_of_zero_le h0;unfold Z5H;have e:(~~~(BitVec.ofInt 64 9223372036854775808)).toNat=2^63-1:=by decide
 rw[ZqM,BitVec.toNat_and,ofU (by omega),e,Nat.and_two_pow_sub_one_eq_mod];omega
theorem ZmI {p:Int}(hp:U p):ZqL p 4503599627370495=p % 4503599627370496:=by
 rw[Zep 0 52 hp (by rfl) (by decide)];simp
theorem ZmJ {p:Int}(hp:U p):ZqL p 9223372036854775808=9223372036854775808*(p/9223372036854775808 % 2):=Zep 63 1 hp (by rfl) (by decide)
theorem Zkn {p:Int}(hp:U p):ZqL p 2251799813685248=2251799813685248*(p/2251799813685248 % 2):=Zep 51 1 hp (by rfl) (by decide)
def sgn (p:Int):Bool:=decide (9223372036854775808≤p)
def mag (p:Int):Int:=p % 9223372036854775808
def ex (p:Int):Int:=p/4503599627370496 % 2048
def fr (p:Int):Int:=p % 4503599627370496
def cl (p:Int):Int:=if ex p=0 then (if fr p=0 then 0 else 1) else if ex p=2047 then (if fr p=0 then 3 else if 2251799813685248≤fr p then 4 else 5) else 2
def xp (p:Int):Int:=if ex p=0 then -1074 else if ex p=2047 then 0 else ex p-1075
def sg (p:Int):Int:=if ex p=0 then fr p else if ex p=2047 then fr p else fr p+4503599627370496
theorem Z0u (p:Int):mag p/4503599627370496=ex p:=by unfold mag ex;omega
theorem ZhE (p:Int):0≤ex p∧ex p<2048:=by unfold ex;omega
theorem Zf9 (p:Int):0≤fr p∧fr p<4503599627370496:=by unfold fr;omega
theorem ZqO {p:Int}(hp:U p):p=(if sgn p=true then 9223372036854775808 else 0)+4503599627370496*ex p+fr p:=by
 unfold sgn ex fr U at*;split<;>rename_i h<;>simp only[Xi] at h<;>omega
end Go.Pt
namespace Go.Proofs.YtgefjidphfdhdaaGreatDoor.Na
open Go.Proofs.Tryz
open Go.IntKind
open Go.KRun Go.Nt
set_option maxRecDepth 100000
set_option linter.unusedVariables false
def gsV (h l b:Int):Int:=if b≤h then 4294967295 else (h*4294967296+l)/b
def Z4l (h l b:Int):Bool:=decide ((0≤h∧h<4294967296)∧(0≤l∧l<4294967296)∧0<b∧b<4294967296)
theorem Z5J (h l b:Int):ZD (Zr (Zq prog Zf Zo true) 100 207 [uu h,uu l,uu b] [cmp true]) (uu 4294967295) [(decide (h≥b),true)]:=by and_intros<;>kernel_rfl
theorem Z5K (h l b q:Int):ZD (Zr (Zq prog Zf Zo true) 100 207 [uu h,uu l,uu b] [cmp false,num q]) (uu (u32.wrap q)) [(decide (u64.wrap b=0),false),(decide (u64.wrap ((Go.Pt.bOr (u64.wrap (u64.wrap h*2^min (Int.toNat 32) 64)) (u64.wrap l)).tdiv (u64.wrap b))=q),true),(decide ((32:Int)<0),false),(decide (h≥b),false)]:=by and_intros<;>kernel_rfl
theorem Zvo (p q:Int):Go.Pt.bOr p q=Go.Pt.bOr q p:=by unfold Go.Pt.bOr;rw[BitVec.or_comm]
def gGs:Ans:=fun vals s=>
 match vals with
 | [.int .u32 h,.int .u32 l,.int .u32 b]=>some (uu (gsV h l b),s,[(Z4l h l b,true)])
 | _=>none
theorem Z0v:zT 207 gGs:=by
 intro vals s v s' lg h hl w;unfold gGs at h;split at h
 ·rename_i x y z;cases h;have hr:=hl _ Xf;simp only[Z4l,Xi] at hr;obtain⟨hx,hy,hz⟩:=hr;unfold gsV;by_cases hc:z≤x
  ·rw[if_pos hc];exact Ze (Zp Zd) (Z5J x y z) (Zu (Xa hc)) (by rfl) (by rfl) w
  ·rw[if_neg hc];have hb:=ZiJ hx.1 hy (show x<z by omega);have e1:Go.Pt.bOr (u64.wrap (u64.wrap x*2^min (Int.toNat 32) 64)) (u64.wrap y)=x*4294967296+y:=by
    simp only[Zd1];rw[Int.emod_eq_of_lt hx.1 (by omega),Int.emod_eq_of_lt hy.1 (by omega),show ((2:Int)^min (Int.toNat 32) 64)=4294967296 from by decide,Int.emod_eq_of_lt (by omega) (by omega),Zvo];exact Go.Pt.or_low 32 (z:=x) hx.1 (by omega) hy.1 (by omega) (by omega)
   have e2:u64.wrap z=z:=by rw[Zd1,Int.emod_eq_of_lt (by omega) (by omega)]
   have e3:u32.wrap ((x*4294967296+y)/z)=(x*4294967296+y)/z:=by rw[Zhj,Int.emod_eq_of_lt hb.1 hb.2]
   have:=Ze (Zp Zd) (Z5K x y z ((x*4294967296+y)/z)) (Zj (by rw[e2];exact Xb (by omega)) (Zj (by rw[e1,e2,Int.tdiv_eq_ediv_of_nonneg (by omega),Zd1,Int.emod_eq_of_lt hb.1 (by omega)];exact Xa rfl) (Zj (by decide) (Zu (Xb (by omega)))))) (by rfl) (by rfl) w;rw[e3] at this;exact this
 ·cases h
def Ztm:Con:=alt 207 gGs Zo
theorem Zvp:ConOk Ztm:=ZM func207 rfl Z0v Zd
def hcG:Hc:=ZY 208 Z5E (ZY 209 Z5G hcN)
theorem Z0w:HcOk hcG:=Zt func208 rfl Zvj (Zt func209 rfl Zvm zp)
def tdP (F:Func):List Code:=[Z2 (sn 0 F),Z2 (sn 1 F),Z2 (sn 2 F)]
def tdB (F:Func):Code:=Z2 (sn 3 F)
def tdL (F:Func):Code:=cIn (cIn (Z0 (tdB F)))
def tdF (o m c n k:Nat) (d:Int):List Value:=[sl 2 o m c,sl 3 0 n k,undef,undef,uu 0,i6' n,uu d]
def tdG (o m c n k:Nat) (d:Int) (b:Bool):List Value:=[sl 2 o m c,sl 3 0 n k,undef,undef,uu 0,i6' n,uu d,.bool b]
theorem Zvq:f189.body=some (ZW (tdP f189) (.seq (.seq (Z2 (tdB f189)) (.block 0 (.loop (tdL f189)))) (sn 4 f189))):=by kernel_rfl
theorem Z0x (o m c n k:Nat) (x y z:Int) (la lb R Y Q:List Value):Zg (evL (Zk prog Zf Ztm hcG) 100 (tdP f189) ([sl 2 o m c,sl 3 0 n k]++List.replicate 35 undef,h5 la lb R Y Q,[at_,val (uu x),at_,val (uu y),at_,val (uu z)]) ⟨[],[],[]⟩) 7 30 none (tdF o m c n k (gsV x y z)) (h5 la lb R Y Q) [(Z4l x y z,true),ZcP Y 0 (n1 n) z,inR (n1 n) n,ZcP R o (n1 n) y,inR (n1 n) m,ZcP R o n x,inR n m]:=by and_intros<;>kernel_rfl
theorem Z8R (e:Bool) (o m c n k:Nat) (d:Int) (la lb R Y Q:List Value) (g:Nat→Value):Zg (evC (Zk prog Zf Ztm hcG) 100 false (Z2 (tdB f189)) (tdF o m c n k d++tl 30 g,h5 la lb R Y Q,[cmp e]) ⟨[],[],[]⟩) 8 29 none (tdG o m c n k d e) (h5 la lb (tmS R o m (dg m (vN (Zz R o m)-d*vN (Zz Y 0 n)))) Y Q) [(Zeo la lb R Y Q tR tR tU tU tU o m c n k && decide (0≤d∧d<4294967296),true),(decide (vN (Zz R o m)-d*vN (Zz Y 0 n)<0),e)]:=by and_intros<;>kernel_rfl
theorem Z5L (e:Bool) (o m c n k:Nat) (d:Int) (la lb R Y Q:List Value) (g:Nat→Value):Zg (evC (Zk prog Zf Ztm hcG) 100 false (tdL f189) (tdG o m c n k d true++tl 29 g,h5 la lb R Y Q,[cmp e]) ⟨[],[],[]⟩) 8 29 none (tdG o m c n k (u32.wrap (d-1)) (!e)) (h5 la lb (tmS R o m (dg m (vN (Zz R o m)+vN (Zz Y 0 n)))) Y Q) [(Zeo la lb R Y Q tR tR tU tU tU o m c n k,true),(decide (4294967296^m≤vN (Zz R o m)+vN (Zz Y 0 n)),e)]:=by and_intros<;>kernel_rfl
theorem Z0y (o m c n k:Nat) (d:Int) (h:Hp) (g:Nat→Value):Zg (evC (Zk prog Zf Ztm hcG) 100 false (tdL f189) (tdG o m c n k d false++tl 29 g,h,[]) ⟨[],[],[]⟩) 8 29 (some (some 0)) (tdG o m c n k d false) h []:=by and_intros<;>kernel_rfl
theorem Z0z (o m c n k:Nat) (d:Int) (b:Bool) (h:Hp) (g:Nat→Value):Zg (evC (Zk prog Zf Ztm hcG) 100 false (sn 4 f189) (tdG o m c n k d b++tl 29 g,h,[]) ⟨[],[],[]⟩) 5 32 (some none) [sl 2 o m c,sl 3 0 n k,undef,undef,uu d] h []:=by and_intros<;>kernel_rfl
theorem Zvr {R:List Value}{o m c:Nat}{L:List Int}(ra:Z8 tU R o m c=true) (hl:L.length=m):Zz (tmS R o m L) o m=L:=by
 obtain⟨_,hF⟩:=ZaM ra;unfold tmS Zz ZbR;rw[List.drop_left' hF,List.take_left' (by rw[Zak,hl])];unfold wU;rw[List.map_map];exact (List.map_congr_left fun x _=>rfl).trans (List.map_id' _)
theorem Zvs {R:List Value}{o m c:Nat}{L L':List Int}(ra:Z8 tU R o m c=true) (hl:L.length=m):tmS (tmS R o m L) o m L'=tmS R o m L':=by
 obtain⟨_,hF⟩:=ZaM ra;have e1:(tmS R o m L).take o=R.take o:=by unfold tmS;exact List.take_left' hF
 have e2:(tmS R o m L).drop (o+m)=R.drop (o+m):=by
  unfold tmS;rw[← List.append_assoc];exact List.drop_left' (by rw[List.length_append,hF,Zak,hl])
 show (tmS R o m L).take o++(wU L'++(tmS R o m L).drop (o+m))=_;rw[e1,e2];rfl
theorem Zvt {R:List Value}{o m c:Nat}{L:List Int}(ra:Z8 tU R o m c=true) (hl:L.length=m) (hw:wds L):Z8 tU (tmS R o m L) o m c=true:=by
 obtain⟨a1,a2,a3,a4,a5,a6,a7⟩:=ZH ra;obtain⟨_,hF⟩:=ZaM ra;have hr:=a1.len;rw[a2] at hr;unfold Z8;have ec:ZbR (tmS R o m L) o m=wU L:=by
  unfold tmS ZbR;rw[List.drop_left' hF,List.take_left' (by rw[Zak,hl])]
 have h3:((ZbR (tmS R o m L) o m).all isU)=true:=by
  rw[ec,List.all_eq_true];intro v hv;unfold wU at hv;obtain⟨x,hx,rfl⟩:=List.mem_map.1 hv;exact Xa (hw x hx)
 have h4:(tmS R o m L).all still=true:=by
  unfold tmS;simp only[List.all_append,Xh];exact⟨List.all_eq_true.2 fun v hv=>a7 v (List.mem_of_mem_take hv),Zbs _,List.all_eq_true.2 fun v hv=>a7 v (List.mem_of_mem_drop hv)⟩
 have h5:o+m≤(tmS R o m L).length:=by
  unfold tmS;rw[List.length_append,List.length_append,hF,Zak,hl];omega
 rw[show Zad tU=false from by kernel_rfl,show Nat.beq (rt tU) tU=true from by kernel_rfl,Nat.ble_eq_true_of_le h5,Nat.ble_eq_true_of_le a3,a4,h3,h4];rfl
theorem Zvu {la lb R Y Q:List Value}{o m c n k:Nat}{M LB:List Int}(hM:Zz R o m=M) (hB:Zz Y 0 n=LB) (hok:Zeo la lb R Y Q tR tR tU tU tU o m c n k=true) (hn:0<n) (htop:0<LB.getD (n-1) 0) (hlt:vN M<4294967296*vN LB):
  Runs (Zk prog Zf Ztm hcG) (ZW (tdP f189) (.seq (.seq (Z2 (tdB f189)) (.block 0 (.loop (tdL f189)))) (sn 4 f189))) ([sl 2 o m c,sl 3 0 n k]++List.replicate 35 undef,h5 la lb R Y Q,[]) fun e' y=>(e'=none∨e'=some none)∧ZV prog f189 y.1 y.2.1=some (uu (vN M/vN LB))∧y.2.1.cut 5=h5 la lb (tmS R o m (dg m (vN M % vN LB))) Y Q:=by
 have hT:=Zh Zvp Z0w;obtain⟨_,_,_,_,_,ra,rb,qn,qN,st0,st1,st2⟩:=Zf8 hok;obtain⟨a1,a2,a3,a4,a5,a6,a7⟩:=ZH ra;obtain⟨b1,b2,b3,b4,b5,b6,b7⟩:=ZH rb;rw[hM] at a1 a2;rw[hB] at b1 b2;have w1:=a1.rng;have w2:=b1.rng;have bM:=Zbe M w1;have bB:=Zbe LB w2;rw[a2] at bM;rw[b2] at bB;have hpos:0<vN LB:=by
  have:=Zgz (L:=LB) w2 (by omega) (by rw[b2];omega);have h2:=ZaI (LB.length-1);omega
 have hge:=ZqK w1 w2 (n:=n) (by omega) b2 hn htop;have en:n1 n=((n-1:Nat):Int):=by unfold n1;rw[Zw (by omega) (by omega)];omega
 have rng:∀ i,i<M.length→0≤M.getD i 0∧M.getD i 0<4294967296:=fun i hi=>w1 _ (by simp [List.getD,List.getElem?_eq_getElem hi]);have rngB:∀ i,i<LB.length→0≤LB.getD i 0∧LB.getD i 0<4294967296:=fun i hi=>w2 _ (by simp [List.getD,List.getElem?_eq_getElem hi]);have r1:=rng n (by omega);have r2:=rng (n-1) (by omega);have r3:=rngB (n-1) (by omega);have c1:=a1.cell (k:=n) (by omega);have c2:=a1.cell (k:=n-1) (by omega);have c3:=b1.cell (k:=n-1) (by omega);have hq:=ZiK hpos bM.1 hlt;have hG:vN M/vN LB≤gsV (M.getD n 0) (M.getD (n-1) 0) (LB.getD (n-1) 0)∧0≤gsV (M.getD n 0) (M.getD (n-1) 0) (LB.getD (n-1) 0)∧gsV (M.getD n 0) (M.getD (n-1) 0) (LB.getD (n-1) 0)<4294967296:=by
  unfold gsV;split
  ·omega
  ·have:=ZiJ r1.1 r2 (b:=LB.getD (n-1) 0) (by omega);omega
 have g0:=Z0x o m c n k (M.getD n 0) (M.getD (n-1) 0) (LB.getD (n-1) 0) la lb R Y Q;rw[en] at g0;refine Z3 hT g0 (Zj (by unfold Z4l;exact Xa ⟨r1,r2,htop,r3.2⟩) (Zj (Za2 c3) (Zj (Xa (by omega)) (Zj (Za2 c2) (Zj (Xa (by omega)) (Zj (Za2 c1) (Zu (Xa (by omega))))))))) fun g=> ?_;generalize gsV (M.getD n 0) (M.getD (n-1) 0) (LB.getD (n-1) 0)=d at*;refine Runs.seq (P1:=fun e' y=>e'=none∧∃ g,y.1=tdG o m c n k (vN M/vN LB) false++tl 29 g∧y.2.1=h5 la lb (tmS R o m (dg m (vN M % vN LB))) Y Q) ?_ ?_ (fun e y he=>by cases he.1)
 ·have g1:=Z8R (decide (vN M-d*vN LB<0)) o m c n k d la lb R Y Q g;rw[hM,hB] at g1;refine Runs.seq (P1:=fun e' y=>e'=none∧(∃ g,y.1=tdG o m c n k d (decide (vN M-d*vN LB<0))++tl 29 g)∧y.2.1=h5 la lb (tmS R o m (dg m (vN M-d*vN LB))) Y Q) (Zc hT g1 (Zj (by rw[hok,Xa hG.2];rfl) (Zu rfl))) ?_ (fun e y he=>by cases he.1);rintro⟨t,h',s'⟩ ⟨_,⟨g1,ht⟩,hh⟩;simp only at ht hh;subst ht hh;refine (Runs.forLoop (R:=fun _=>False) (P:=fun y=>∃ g,y.1=tdG o m c n k (vN M/vN LB) false++tl 29 g∧y.2.1=h5 la lb (tmS R o m (dg m (vN M % vN LB))) Y Q)
   (fun r y=>∃ (d:Int) (g:Nat→Value),d=vN M/vN LB+r∧d<4294967296∧y.1=tdG o m c n k d (decide (vN M-d*vN LB<0))++tl 29 g∧y.2.1=h5 la lb (tmS R o m (dg m (vN M-d*vN LB))) Y Q)
   ?_ (n:=(d-vN M/vN LB).toNat) ⟨d,g1,by omega,hG.2.2,rfl,rfl⟩).mono fun e' y he=> ?_
  ·rintro r ⟨t,h',s'⟩ ⟨d,g,hd,hdl,ht,hh⟩;simp only at ht hh;subst ht hh;by_cases hneg:vN M-d*vN LB<0
   ·rw[Xa hneg];have hmore:=ZmG hpos hneg;have hlo: -(4294967296^m)≤vN M-d*vN LB:=by
     have h1:d*vN LB≤4294967296*vN LB:=Int.mul_le_mul_of_nonneg_right (by omega) (by omega);rw[qn,pw];omega
    have hvd:=Z0t hneg hlo;have hwd:=Zbd m (vN M-d*vN LB);have hld:=ZZ m (vN M-d*vN LB);have ra':=Zvt ra hld hwd;have ec:=Zvr ra hld;have eV:vN M-d*vN LB+4294967296^m+vN LB=(vN M-(d-1)*vN LB)+4294967296^m*1:=by
     rw[Int.sub_mul,Int.one_mul,Int.mul_one];omega
    have g2:=Z5L (decide (4294967296^m≤vN M-d*vN LB+4294967296^m+vN LB)) o m c n k d la lb (tmS R o m (dg m (vN M-d*vN LB))) Y Q g;rw[ec,hB,hvd,eV,Zdw,Zvs ra hld,Zhj,Int.emod_eq_of_lt (by omega) (by omega)] at g2;have hok':Zeo la lb (tmS R o m (dg m (vN M-d*vN LB))) Y Q tR tR tU tU tU o m c n k=true:=by
     unfold Zeo at hok ⊢;rw[ra'];rw[ra] at hok;exact hok
    refine (Zc hT g2 (Zj hok' (Zu rfl))).mono fun e' y he=> ?_;obtain⟨rfl,⟨g3,e2⟩,e3⟩:=he;refine⟨r-1,by omega,d-1,g3,by omega,by omega,?_,e3⟩;rw[e2];congr 2;by_cases h0:vN M-(d-1)*vN LB<0
    ·rw[Xa h0,Xb (by omega)];rfl
    ·rw[Xb h0,Xa (by omega)];rfl
   ·rw[Xb hneg];obtain⟨f1,f2⟩:=Zvn hpos (show 0≤vN M-d*vN LB by omega) (show vN M/vN LB≤d by omega);refine (Zc hT (Z0y o m c n k d _ g) (fun x hx=>by cases hx)).mono fun e' y he=> ?_;obtain⟨rfl,⟨g3,e2⟩,e3⟩:=he;rw[f2] at e3;rw[f1] at e2;exact⟨rfl,g3,e2,e3⟩
  ·match e',he with
   | none,he=>exact⟨rfl,he⟩
   | some none,he=>exact he.elim
   | some (some _),he=>exact he.elim
 ·rintro⟨t,h',s'⟩ ⟨_,g,ht,hh⟩;simp only at ht hh;subst ht hh;refine (Zc hT (Z0z o m c n k (vN M/vN LB) false _ g) (fun x hx=>by cases hx)).mono fun e' y he=> ?_;obtain⟨rfl,⟨g1,e2⟩,e3⟩:=he;refine⟨.inr rfl,?_,?_⟩
  ·rw[e2,e3];rfl
  ·rw[e3];rfl
def Z5M:Zae:=fun vals h s=>
 match vals,h with
 | [.slice (some ⟨2,o,none⟩) m c,.slice (some ⟨3,0,none⟩) n k],⟨5,[(Q,t4),(Y,t3),(R,t2),(lb,t1),(la,t0)]⟩=>some (uu (vN (Zz R o m)/vN (Zz Y 0 n)),h5 la lb (tmS R o m (dg m (vN (Zz R o m) % vN (Zz Y 0 n)))) Y Q,s,[(Zeo la lb R Y Q t0 t1 t2 t3 t4 o m c n k && decide (0<n∧0<(Zz Y 0 n).getD (n-1) 0∧vN (Zz R o m)<4294967296*vN (Zz Y 0 n)),true)])
 | _,_=>none
theorem Zvv:Z6 189 Z5M:=by
 intro vals h s v h' s' lg hg hl m B w E hv;unfold Z5M at hg;split at hg
 ·rename_i o mm c n k Q t4 Y t3 R t2 lb t1 la t0;cases hg;have l1:=hl _ Xf;simp only[Xh,Xi] at l1;obtain⟨l1,h0,h1,h2⟩:=l1;obtain⟨q0,q1,q2,q3,q4,ra,rb,qn,qN,st0,st1,st2⟩:=Zf8 l1;subst q0 q1 q2 q3 q4;have r:=Zvu rfl rfl l1 h0 h1 h2;exact zi (T:=Zk prog Zf Ztm hcG) func189 Zvq (vals:=[sl 2 o mm c,sl 3 0 n k]) (v:=uu (vN (Zz R o mm)/vN (Zz Y 0 n))) (h:=h5 la lb R Y Q) (by rfl) (ZmF ra rb st0 st1 st2) r m B w E hv
 ·cases hg
def mB (q:Bool):Nat:=match q with | true=>3 | false=>2
def h4q (q:Bool) (S X la lb:List Value):Hp:=match q with | true=>⟨4,[(S,tU),(X,tU),(lb,tR),(la,tR)]⟩ | false=>⟨4,[(X,tU),(S,tU),(lb,tR),(la,tR)]⟩
theorem Zvw (q:Bool) (S X la lb:List Value):(h4q q S X la lb).cut 4=h4q q S X la lb:=by cases q<;>rfl
theorem Zvx (q:Bool) (o n c:Nat) (k l j x:Int) (i0 x0:Value) (X la lb S:List Value) (g:Nat→Value):Zg (evC (Zq prog Zf Zo true) 100 false (mL f130) (mF (sl (mB q) o n c) (i6' k) (uu l) i0 x0 (sl (mB q) o n c) (i6' n) (i6' j)++tl 17 g,h4q q S X la lb,[cmp true,at_,val (uu x),at_,at_]) ⟨[],[],[]⟩) 10 17 none
  (mF (sl (mB q) o n c) (i6' k) (uu (Zq5 x k)) (i6' j) (uu x) (sl (mB q) o n c) (i6' n) (i6' (i64.wrap (j+1)))) (h4q q (S.set (o+j.toNat*1) (uu (Zq4 x k l))) X la lb) [(decide (i64.wrap (32-k)<0),false),(decide (o+j.toNat*1<S.length),true),inR j n,(decide (k<0),false),ZcP S o j x,inR j n,(decide (j<n),true)]:=by
 cases q<;>exact by and_intros<;>kernel_rfl
theorem ZmK (q:Bool) {F X la lb G:List Value}{o c k:Nat}{L:List Int}(hF:F.length=o) (hL:wds L) (hk:k<32) (hN:L.length<4611686018427387904):
  Runs (Zq prog Zf Zo true) (ZW (mR0 f130) (.block 0 (.loop (mL f130)))) ([sl (mB q) o L.length c,i6' k]++List.replicate 25 undef,h4q q (F++(wU L++G)) X la lb,[]) fun e y=>(e=none∨e=some none)∧ZV prog f130 y.1 y.2.1=some (.tuple #[])∧y.2.1.cut 4=h4q q (F++(wU (dg L.length (vN L*2^k))++G)) X la lb:=by
 refine Z3 (Zp Zd) (Zmm (mB q) o L.length c (i6' k) _) (fun x hx=>by cases hx) fun g=> ?_;refine (Runs.forLoop (R:=fun _=>False) (P:=fun y=>∃ (l i x j:Value) (g:Nat→Value),y.1=mF (sl (mB q) o L.length c) (i6' k) l i x (sl (mB q) o L.length c) (i6' L.length) j++tl 17 g∧y.2.1=h4q q (F++(wU (dg L.length (vN L*2^k))++G)) X la lb)
  (fun r y=>∃ (dx px:List Int) (l:Int) (i0 x0:Value) (g:Nat→Value),px.length=r∧dx.length+px.length=L.length∧wds dx∧wds px∧(0≤l∧l<2^k)∧y.1=mF (sl (mB q) o L.length c) (i6' k) (uu l) i0 x0 (sl (mB q) o L.length c) (i6' L.length) (i6' dx.length)++tl 17 g∧y.2.1=h4q q (F++(wU (dx++px)++G)) X la lb∧vN dx+4294967296^dx.length*(vN px*2^k+l)=vN L*2^k)
  ?_ (n:=L.length) ⟨[],L,0,undef,undef,g,rfl,by simp,(fun x hx=>by cases hx),hL,⟨by omega,Int.pow_pos (by omega)⟩,rfl,rfl,by simp [vN]⟩).mono fun e' y he=> ?_
 ·rintro r ⟨t,h',s'⟩ ⟨dx,px,l,i0,x0,g,hr,hl,wd1,wd2,hlo,ht,hh,hv⟩;simp only at ht hh;subst ht hh
  match px,hr,hl,wd2,hv with
  | [],hr,hl,wd2,hv=>
   have hl':dx.length=L.length:=by simpa using hl
   refine (Zc (Zp Zd) (Zmn _ _ _ _ _ _ L.length dx.length _ g) (Zu (Xb (by omega)))).mono fun e' y he=> ?_;obtain⟨rfl,⟨g1,e2⟩,e3⟩:=he;refine⟨rfl,_,_,_,_,g1,e2,?_⟩;simp only[vN] at hv;rw[Int.zero_mul,Int.zero_add] at hv;have e5:=Zdw dx.length (vN dx) l;rw[hv,Zhz dx wd1,hl'] at e5;rw[e3,e5,List.append_nil]
  | x::px,hr,hl,wd2,hv=>
   obtain⟨wx,wd2⟩:=Zax wd2;obtain⟨k1,k2,k3⟩:=Z8v wx hlo hk;have cS:=Zel hF dx x px G;have lS:o+dx.length<(F++(wU (dx++x::px)++G)).length:=(List.getElem?_eq_some_iff.1 cS).1;have hl':dx.length<L.length:=by simp at hl;omega
   have l1:decide (o+((dx.length:Int)).toNat*1<(F++(wU (dx++x::px)++G)).length)=true:=by
    rw[Xg,Nat.mul_one];exact Xa lS
   have l2:(inR dx.length L.length).1=(inR dx.length L.length).2:=Xa (by omega);have l4:(ZcP (F++(wU (dx++x::px)++G)) o dx.length x).1=(ZcP (F++(wU (dx++x::px)++G)) o dx.length x).2:=Za2 cS;have e32:i64.wrap (32-(k:Int))=32-(k:Int):=Zw (by omega) (by omega);have l5:decide (i64.wrap (32-(k:Int))<0)=false:=by
    rw[e32];exact Xb (by omega)
   have l6:decide ((k:Int)<0)=false:=Xb (by omega);have l7:decide ((dx.length:Int)<(L.length:Nat))=true:=Xa (by omega);refine (Zc (Zp Zd) (Zvx q o L.length c k l dx.length x i0 x0 X la lb (F++(wU (dx++x::px)++G)) g) (Zj l5 (Zj l1 (Zj l2 (Zj l6 (Zj l4 (Zj l2 (Zu l7)))))))).mono fun e' y he=> ?_;obtain⟨rfl,⟨g1,e2⟩,e3⟩:=he;refine⟨px.length,by simp at hr;omega,dx++[Zq4 x k l],px,Zq5 x k,i6' dx.length,uu x,g1,rfl,by simp at hl ⊢;omega,Zas wd1 (fun z hz=>by rw[List.mem_singleton.1 hz];exact k1),wd2,k2,?_,?_,?_⟩
   ·rw[e2,Zw (by omega) (by omega)];simp
   ·rw[e3,Xg,Nat.mul_one,Zem hF]
   ·simp only[vN] at hv;rw[z8,List.length_append,List.length_singleton,pw];exact Zml k3 hv
 ·match e',he with
  | none,he=>
   obtain⟨l,i,x,j,g,e1,e2⟩:=he;refine⟨.inl rfl,?_,?_⟩
   ·rw[e1];exact Zmo _ _ _ _ _ _ _ _ _ _
   ·rw[e2];exact Zvw _ _ _ _ _
  | some none,he=>exact he.elim
  | some (some _),he=>exact he.elim
def Zpe (X la lb S:List Value) (t0 t1 t2 t3:TypeId) (o n c:Nat) (k:Int):Bool:=Nat.beq t0 tR && Nat.beq t1 tR && Nat.beq t2 tU && Nat.beq t3 tU && Z8 tU S o n c && X.all still && la.all still && lb.all still && decide (0≤k∧k<32)
theorem ZmL {X la lb S:List Value}{t0 t1 t2 t3:TypeId}{o n c:Nat}{k:Int}(q:Zpe X la lb S t0 t1 t2 t3 o n c k=true):t0=tR∧t1=tR∧t2=tU∧t3=tU∧Z8 tU S o n c=true∧X.all still=true∧la.all still=true∧lb.all still=true∧0≤k∧k<32:=by
 unfold Zpe at q;simp only[Xh,Xi] at q;obtain⟨⟨⟨⟨⟨⟨⟨⟨q0,q1⟩,q2⟩,q3⟩,ra⟩,s0⟩,s1⟩,s2⟩,h⟩:=q;exact⟨Xj q0,Xj q1,Xj q2,Xj q3,ra,s0,s1,s2,h.1,h.2⟩
def upT (S:List Value) (o n:Nat) (k:Int):List Value:=tmS S o n (dg n (vN (Zz S o n)*2^k.toNat))
def Zvy:Zae:=fun vals h s=>
 match vals,h with
 | [.slice (some ⟨3,o,none⟩) n c,.int .i64 k],⟨4,[(S,t3),(X,t2),(lb,t1),(la,t0)]⟩=>some (.tuple #[],⟨4,[(upT S o n k,tU),(X,tU),(lb,tR),(la,tR)]⟩,s,[(Zpe X la lb S t0 t1 t2 t3 o n c k,true)])
 | [.slice (some ⟨2,o,none⟩) n c,.int .i64 k],⟨4,[(X,t3),(S,t2),(lb,t1),(la,t0)]⟩=>some (.tuple #[],⟨4,[(X,tU),(upT S o n k,tU),(lb,tR),(la,tR)]⟩,s,[(Zpe X la lb S t0 t1 t2 t3 o n c k,true)])
 | _,_=>none
theorem Z00 (q:Bool) {X la lb S:List Value}{o n c:Nat}{L:List Int}(ra:Z8 tU S o n c=true) (s0:X.all still=true) (s1:la.all still=true) (s2:lb.all still=true):(h4q q (tmS S o n L) X la lb).tight=true:=by
 obtain⟨a1,a2,a3,a4,a5,a6,a7⟩:=ZH ra;have hS:(tmS S o n L).all (lt1 4)=true:=by
  unfold tmS;simp only[List.all_append,Xh];refine⟨?_,Zc9 _ _,?_⟩
  ·rw[List.all_eq_true];exact fun v hv=>zv (by omega) (a7 v (List.mem_of_mem_take hv))
  ·rw[List.all_eq_true];exact fun v hv=>zv (by omega) (a7 v (List.mem_of_mem_drop hv))
 have h1:=zD (n:=4) (by omega) s0;have h2:=zD (n:=4) (by omega) s1;have h3:=zD (n:=4) (by omega) s2;cases q<;>simp [Hp.tight,h4q,hS,h1,h2,h3]
theorem ZgC (q:Bool) {X la lb S:List Value}{o n c:Nat}{k:Int}(ra:Z8 tU S o n c=true) (s0:X.all still=true) (s1:la.all still=true) (s2:lb.all still=true) (k0:0≤k) (k1:k<32) (m:Mp) (B:Nat) (w:World) (E:Emb m B (h4q q S X la lb) w) (hv:∀ v∈[sl (mB q) o n c,i6' k],KRun.lt (h4q q S X la lb).n v=true):
  Calls prog 130 (([sl (mB q) o n c,i6' k]:List Value).map (mv m)).toArray w fun e w'=>∃ m',e= .returned (mv m' (.tuple #[]))∧Came m B (h4q q S X la lb) w (.tuple #[]) (h4q q (upT S o n k) X la lb) m' w':=by
 obtain⟨a1,a2,a3,a4,a5,a6,a7⟩:=ZH ra;obtain⟨K,rfl⟩:=Int.eq_ofNat_of_zero_le k0;have hc:c<4611686018427387904:=Zl.1 a4;obtain⟨eS,hF⟩:=ZaM ra;have r:=ZmK q (X:=X) (la:=la) (lb:=lb) (G:=S.drop (o+n)) (c:=c) (k:=K) hF a1.rng (by omega) (by omega);rw[a2,← eS] at r;have hn:(h4q q S X la lb).n=4:=by cases q<;>rfl
 exact zi (T:=Zq prog Zf Zo true) func130 ZiB (vals:=[sl (mB q) o n c,i6' K]) (v:= .tuple #[]) (h:=h4q q S X la lb) (by rfl) (Z00 q ra s0 s1 s2) (by rw[hn];exact r) m B w E hv
theorem ZqP:Z6 130 Zvy:=by
 intro vals h s v h' s' lg hg hl m B w E hv;unfold Zvy at hg;split at hg
 ·rename_i o n c k S t3 X t2 lb t1 la t0;cases hg;obtain⟨q0,q1,q2,q3,ra,s0,s1,s2,k0,k1⟩:=ZmL (hl _ Xf);subst q0 q1 q2 q3;exact ZgC true ra s0 s1 s2 k0 k1 m B w E hv
 ·rename_i o n c k X t3 S t2 lb t1 la t0;cases hg;obtain⟨q0,q1,q2,q3,ra,s0,s1,s2,k0,k1⟩:=ZmL (hl _ Xf);subst q0 q1 q2 q3;exact ZgC false ra s0 s1 s2 k0 k1 m B w E hv
 ·cases hg
def dnX (x k:Int):Int:=x.fdiv (2^min k.toNat 32)
def dnW (x k l:Int):Int:=brr (dnX x k) l
def dnH (x k:Int):Int:=u32.wrap (x*2^min (i64.wrap (32-k)).toNat 32)
def mdP (F:Func):List Code:=[Z2 (sn 0 F),Z2 (sn 1 F)]
def mdL (F:Func):Code:=cIn (cIn (sn 2 F))
def mdF (w:Value) (k l i:Int) (x:Value):List Value:=[w,i6' k,undef,undef,uu l,i6' i,x]
theorem Zvz:f190.body=some (ZW (mdP f190) (.block 0 (.loop (mdL f190)))):=by kernel_rfl
theorem Z01 (b o m c:Nat) (k:Int) (h:Hp):Zg (evL (Zq prog Zf Zo true) 100 (mdP f190) ([sl b o m c,i6' k]++List.replicate 28 undef,h,[]) ⟨[],[],[]⟩) 7 23 none (mdF (sl b o m c) k 0 (n1 m) undef) h []:=by and_intros<;>kernel_rfl
theorem Z02 (w x:Value) (k l i:Int) (h:Hp) (g:Nat→Value):Zg (evC (Zq prog Zf Zo true) 100 false (mdL f190) (mdF w k l i x++tl 23 g,h,[cmp false]) ⟨[],[],[]⟩) 7 23 (some (some 0)) (mdF w k l i x) h [(decide (i≥0),false)]:=by and_intros<;>kernel_rfl
theorem Z5N (o m c:Nat) (k l i x:Int) (x0:Value) (la lb R Y Q:List Value) (g:Nat→Value):Zg (evC (Zq prog Zf Zo true) 100 false (mdL f190) (mdF (sl 2 o m c) k l i x0++tl 23 g,h5 la lb R Y Q,[cmp true,at_,val (uu x),at_,at_]) ⟨[],[],[]⟩) 7 23 none (mdF (sl 2 o m c) k (dnH x k) (i64.wrap (i-1)) (uu x)) (h5 la lb (R.set (o+i.toNat*1) (uu (dnW x k l))) Y Q)
  [(decide (i64.wrap (32-k)<0),false),(decide (o+i.toNat*1<R.length),true),inR i m,(decide (k<0),false),ZcP R o i x,inR i m,(decide (i≥0),true)]:=by and_intros<;>kernel_rfl
theorem Z03 (w x:Value) (k l i:Int) (h:Hp) (g:Nat→Value):ZV prog f190 (mdF w k l i x++tl 23 g) h=some (.tuple #[]):=by kernel_rfl
end Go.Proofs.YtgefjidphfdhdaaGreatDoor.Na
namespace Go.Nt
theorem ZmM {p q x U:Int}(hq:1≤q) (hp:1≤p) (hpq:q*p=4294967296) (hx:0≤x∧x<4294967296) (_hU:0≤U):
  (0≤x/q∧x/q<p)∧(0≤U % q∧U % q<q)∧(0≤x/q+p*(U % q)∧x/q+p*(U % q)<4294967296)∧(x+4294967296*U)/q=x/q+p*(U % q)+4294967296*(U/q)∧(x+4294967296*U) % q=x % q:=by
 have h1:0≤x/q:=Int.ediv_nonneg hx.1 (by omega);have h2:x/q<p:=Int.ediv_lt_of_lt_mul (by omega) (by rw[Int.mul_comm,hpq];exact hx.2);have h3:=Int.emod_nonneg U (show q≠0 by omega);have h4:=Int.emod_lt_of_pos U (show 0<q by omega);have h5:p*(U % q)≤p*(q-1):=Int.mul_le_mul_of_nonneg_left (by omega) (by omega);have h6:p*(q-1)=4294967296-p:=by rw[Int.mul_sub,Int.mul_one,Int.mul_comm,hpq]
 have h7:0≤p*(U % q):=Int.mul_nonneg (by omega) h3;have hU':=Int.emod_add_mul_ediv U q;have e1:x+4294967296*U=x+q*(p*U):=by rw[← Int.mul_assoc,hpq]
 have e2:p*U=p*(U % q)+4294967296*(U/q):=by
  have:p*U=p*(U % q+q*(U/q)):=by rw[hU']
  rw[this,Int.mul_add,← Int.mul_assoc,Int.mul_comm p q,hpq]
 refine⟨⟨h1,h2⟩,⟨h3,h4⟩,by omega,?_,?_⟩
 ·rw[e1,Int.add_mul_ediv_left _ _ (by omega),e2];omega
 ·rw[e1,Int.add_mul_emod_self_left]
end Go.Nt
namespace Go.Proofs.YtgefjidphfdhdaaGreatDoor.Na
open Go.Proofs.Tryz
open Go.IntKind
open Go.KRun Go.Nt
set_option maxRecDepth 100000
set_option linter.unusedVariables false
theorem Z5O {x U:Int}{k:Nat}(hk:k<32) (hx:0≤x∧x<4294967296) (hU:0≤U):dnW x k (2^(32-k)*(U % 2^k))=x/2^k+2^(32-k)*(U % 2^k)∧dnH x k=2^(32-k)*(x % 2^k):=by
 have q1:(1:Int)≤2^k:=by have:(0:Int)<2^k:=Int.pow_pos (by omega);omega
 have p1:(1:Int)≤2^(32-k):=by have:(0:Int)<2^(32-k):=Int.pow_pos (by omega);omega
 have hpq:=Zeh (show k≤32 by omega);obtain⟨⟨h1,h2⟩,⟨h3,h4⟩,⟨h5,h6⟩,_,_⟩:=ZmM q1 p1 hpq hx hU;have eX:dnX x k=x/2^k:=by
  unfold dnX;rw[Xg,show min k 32=k from by omega,Int.fdiv_eq_ediv_of_nonneg _ (by omega)]
 constructor
 ·unfold dnW brr;rw[eX,BitVec.or_comm,Ztf h3 h1 h2 (by omega),Zhj,Int.emod_eq_of_lt (by omega) (by omega)];omega
 ·unfold dnH;rw[Zw (by omega) (by omega),show min ((32:Int)-(k:Nat)).toNat 32=32-k from by omega,Zhj,← hpq,Int.mul_comm x,Int.mul_comm (2^k)];exact Int.mul_emod_mul_of_pos _ _ (by omega)
theorem Zv0 {F G la lb Y Q:List Value}{o c k:Nat}{L:List Int}(hF:F.length=o) (hL:wds L) (hk:k<32) (hN:L.length<1099511627776):
  Runs (Zq prog Zf Zo true) (ZW (mdP f190) (.block 0 (.loop (mdL f190)))) ([sl 2 o L.length c,i6' k]++List.replicate 28 undef,h5 la lb (F++(wU L++G)) Y Q,[]) fun e y=>(e=none∨e=some none)∧ZV prog f190 y.1 y.2.1=some (.tuple #[])∧y.2.1.cut 5=h5 la lb (F++(wU (dg L.length (vN L/2^k))++G)) Y Q:=by
 have hT:=Zp Zd;have q1:(1:Int)≤2^k:=by have:(0:Int)<2^k:=Int.pow_pos (by omega);omega
 have p1:(1:Int)≤2^(32-k):=by have:(0:Int)<2^(32-k):=Int.pow_pos (by omega);omega
 have hpq:=Zeh (show k≤32 by omega);have e0:L=L.take L.length++dg (L.length-L.length) (vN (L.drop L.length)/2^k):=by rw[List.take_length,Nat.sub_self];simp [dg]
 refine Z3 hT (Z01 2 o L.length c k _) (fun x hx=>by cases hx) fun g=> ?_;refine (Runs.forLoop (R:=fun _=>False) (P:=fun y=>∃ (l i:Int) (x:Value) (g:Nat→Value),y.1=mdF (sl 2 o L.length c) k l i x++tl 23 g∧y.2.1=h5 la lb (F++(wU (dg L.length (vN L/2^k))++G)) Y Q)
  (fun r y=>∃ (x0:Value) (g:Nat→Value),r≤L.length∧y.1=mdF (sl 2 o L.length c) k (2^(32-k)*(vN (L.drop r) % 2^k)) ((r:Int)-1) x0++tl 23 g∧y.2.1=h5 la lb (F++(wU (L.take r++dg (L.length-r) (vN (L.drop r)/2^k))++G)) Y Q)
  ?_ (n:=L.length) ⟨undef,g,Nat.le_refl _,?_,by rw[← e0]⟩).mono fun e' y he=> ?_
 ·rintro r ⟨t,h',s'⟩ ⟨x0,g,hr,ht,hh⟩;simp only at ht hh;subst ht hh;cases r with
  | zero=>
   refine (Zc hT (Z02 _ x0 k _ _ _ g) (Zu (Xb (by omega)))).mono fun e' y he=> ?_;obtain⟨rfl,⟨g1,e2⟩,e3⟩:=he;exact⟨rfl,_,_,_,g1,e2,e3⟩
  | succ r=>
   have hlt:r<L.length:=by omega
   have hx:=hL (L.getD r 0) (by simp [List.getD,List.getElem?_eq_getElem hlt]);have et:=Za3 hlt;have ed:L.drop r=L.getD r 0::L.drop (r+1):=by
    rw[List.drop_eq_getElem_cons hlt];simp [List.getD,List.getElem?_eq_getElem hlt]
   generalize L.getD r 0=x at*;have hU:=(Zbe (L.drop (r+1)) (fun z hz=>hL z (List.mem_of_mem_drop hz))).1;have hsp:L.take (r+1)++dg (L.length-(r+1)) (vN (L.drop (r+1))/2^k)=L.take r++x::dg (L.length-(r+1)) (vN (L.drop (r+1))/2^k):=by rw[et];simp
   rw[hsp];generalize hux:L.drop (r+1)=ux at*;obtain⟨w1,w2⟩:=Z5O hk hx hU;obtain⟨_,_,⟨w3,w4⟩,w5,w6⟩:=ZmM q1 p1 hpq hx hU;have lt:(L.take r).length=r:=by rw[List.length_take];omega
   have cS:=Zel hF (L.take r) x (dg (L.length-(r+1)) (vN ux/2^k)) G;have eS:=Zem hF (L.take r) x (x/2^k+2^(32-k)*(vN ux % 2^k)) (dg (L.length-(r+1)) (vN ux/2^k)) G;rw[lt] at cS eS;have lS:o+r<(F++(wU (L.take r++x::dg (L.length-(r+1)) (vN ux/2^k))++G)).length:=(List.getElem?_eq_some_iff.1 cS).1;have ei:((r+1:Nat):Int)-1=(r:Int):=by omega
   have g1:=Z5N o L.length c k (2^(32-k)*(vN ux % 2^k)) r x x0 la lb (F++(wU (L.take r++x::dg (L.length-(r+1)) (vN ux/2^k))++G)) Y Q g;rw[w1,w2,Xg,Nat.mul_one,eS] at g1;rw[ei];have l2:(inR r L.length).1=(inR r L.length).2:=Xa (by omega);have d1:decide (i64.wrap (32-(k:Int))<0)=false:=by
    rw[Zw (by omega) (by omega)];exact Xb (by omega)
   have d2:decide ((k:Int)<0)=false:=Xb (by omega);have d3:decide ((r:Int)≥0)=true:=Xa (by omega);have d4:decide (o+r<(F++(wU (L.take r++x::dg (L.length-(r+1)) (vN ux/2^k))++G)).length)=true:=Xa lS;refine (Zc hT g1 (Zj d1 (Zj d4 (Zj l2 (Zj d2 (Zj (Za2 cS) (Zj l2 (Zu d3)))))))).mono fun e' y he=> ?_;obtain⟨rfl,⟨g2,e2⟩,e3⟩:=he;refine⟨r,by omega,uu x,g2,by omega,?_,?_⟩
   ·rw[e2,ed];simp only[vN];rw[w6,Zw (by omega) (by omega)]
   ·rw[e3,ed];simp only[vN];rw[w5,show L.length-r=(L.length-(r+1))+1 by omega];simp only[dg];have m1:(x/2^k+2^(32-k)*(vN ux % 2^k)+4294967296*(vN ux/2^k)) % 4294967296=x/2^k+2^(32-k)*(vN ux % 2^k):=by omega
    have m2:(x/2^k+2^(32-k)*(vN ux % 2^k)+4294967296*(vN ux/2^k))/4294967296=vN ux/2^k:=by omega
    rw[m1,m2];simp
 ·show mdF _ _ _ _ _++_=_;rw[List.drop_length,show n1 L.length=((L.length:Nat):Int)-1 from by unfold n1;rw[Zw (by omega) (by omega)]];simp [vN]
 ·match e',he with
  | none,he=>
   obtain⟨l,i,x,g,e1,e2⟩:=he;refine⟨.inl rfl,?_,?_⟩
   ·rw[e1];exact Z03 _ _ _ _ _ _ _
   ·rw[e2];rfl
  | some none,he=>exact he.elim
  | some (some _),he=>exact he.elim
def Z04 (la lb R Y Q:List Value) (t0 t1 t2 t3 t4:TypeId) (o n c:Nat) (k:Int):Bool:=Nat.beq t0 tR && Nat.beq t1 tR && Nat.beq t2 tU && Nat.beq t3 tU && Nat.beq t4 tU && Z8 tU R o n c && Nat.blt n 1099511627776 && la.all still && lb.all still && Y.all still && Q.all still && decide (0≤k∧k<32)
def Z5P:Zae:=fun vals h s=>
 match vals,h with
 | [.slice (some ⟨2,o,none⟩) n c,.int .i64 k],⟨5,[(Q,t4),(Y,t3),(R,t2),(lb,t1),(la,t0)]⟩=>some (.tuple #[],h5 la lb (tmS R o n (dg n (vN (Zz R o n)/2^k.toNat))) Y Q,s,[(Z04 la lb R Y Q t0 t1 t2 t3 t4 o n c k,true)])
 | _,_=>none
theorem Zv1:Z6 190 Z5P:=by
 intro vals h s v h' s' lg hg hl m B w E hv;unfold Z5P at hg;split at hg
 ·rename_i o n c k Q t4 Y t3 R t2 lb t1 la t0;cases hg;have q:=hl _ Xf;unfold Z04 at q;simp only[Xh,Xi] at q;obtain⟨⟨⟨⟨⟨⟨⟨⟨⟨⟨⟨q0,q1⟩,q2⟩,q3⟩,q4⟩,ra⟩,qN⟩,s0⟩,s1⟩,s2⟩,s3⟩,k0,k1⟩:=q;have q0:=Xj q0;have q1:=Xj q1;have q2:=Xj q2;have q3:=Xj q3;have q4:=Xj q4;subst q0 q1 q2 q3 q4;obtain⟨a1,a2,a3,a4,a5,a6,a7⟩:=ZH ra;obtain⟨K,rfl⟩:=Int.eq_ofNat_of_zero_le k0;obtain⟨eS,hF⟩:=ZaM ra;have r:=Zv0 (G:=R.drop (o+n)) (la:=la) (lb:=lb) (Y:=Y) (Q:=Q) (c:=c) (k:=K) hF a1.rng (by omega) (by rw[a2];exact Zl.1 qN);rw[a2,← eS] at r;have ht:(h5 la lb (tmS R o n (dg n (vN (Zz R o n)/2^K))) Y Q).tight=true:=by
   unfold Hp.tight tmS h5;simp only[List.all_cons,List.all_nil,List.all_append,Bool.and_true,Xh];refine⟨zD (by omega) s3,zD (by omega) s2,⟨?_,Zc9 _ _,?_⟩,zD (by omega) s1,zD (by omega) s0⟩
   ·rw[List.all_eq_true];exact fun v hv=>zv (by omega) (a7 v (List.mem_of_mem_take hv))
   ·rw[List.all_eq_true];exact fun v hv=>zv (by omega) (a7 v (List.mem_of_mem_drop hv))
  exact zi (T:=Zq prog Zf Zo true) func190 Zvz (vals:=[sl 2 o n c,i6' K]) (v:= .tuple #[]) (h:=h5 la lb R Y Q) (by rfl) ht r m B w E hv
 ·cases hg
def hcD:Hc:=ZY 189 Z5M (ZY 130 Zvy (ZY 190 Z5P (ZY 132 ZjI (ZY 187 Z4d (ZY 131 Zhw hcN)))))
theorem Z05:HcOk hcD:=Zt func189 rfl Zvv (Zt func130 rfl ZqP (Zt func190 rfl Zv1 (Zt func132 rfl Zcy (Zt func187 rfl Zea (Zt func131 rfl Zcx zp)))))
def dmP (F:Func):List Code:=[Z2 (sn 0 F),Z2 (sn 1 F),Z2 (sn 2 F),Z2 (sn 3 F),Z2 (sn 4 F),Z2 (sn 5 F),Z2 (sn 6 F),Z2 (sn 7 F),Z2 (sn 8 F),Z2 (sn 9 F),Z2 (sn 10 F),Z2 (sn 11 F)]
def dmL (F:Func):Code:=cIn (cIn (Z0 (Z2 (sn 12 F))))
theorem Zv2:f152.body=some (ZW (dmP f152) (.seq (.seq (Z2 (Z2 (sn 12 f152))) (.block 0 (.loop (dmL f152)))) (sn 13 f152))):=by kernel_rfl
theorem ZdC:f152.body=some (Zs f152):=by kernel_rfl
def dmU (x:Int):Int:=i64.wrap (32-((Go.bitLen x.toNat:Nat):Int))
def dmQ (n n':Nat):Int:=i64.wrap (i64.wrap ((n:Int)-(n':Int))+1)
def dmF (o n c o' n' c' zr zb zq:Nat) (u:Int):List Value:=[sl 0 o n c,sl 1 o' n' c',undef,undef,Zn,Zn,.nilIface,.nilIface,sl 2 0 zr zr,i6' u,sl 3 0 zb zb,sl 4 0 zq zq]
def dmY (lb:List Value) (o' n':Nat) (x:Int):List Value:=upT (cpS lb o' n') 0 ((n':Int)).toNat (dmU x)
def dmR (la:List Value) (o n:Nat) (x:Int):List Value:=upT (cpy la o n) 0 (nP n).toNat (dmU x)
theorem Z06 (o n c o' n' c':Nat) (x:Int) (la lb:List Value):Zg (evL (Zk prog Zf Zhk hcD) 300 (dmP f152) ([sl 0 o n c,sl 1 o' n' c']++List.replicate 87 undef,h2 la lb,[cmp false,cmp false,at_,at_,cmp false,at_,val (uu x),at_,at_,at_]) ⟨[],[],[]⟩) 12 77 none (dmF o n c o' n' c' (nP n).toNat ((n':Int)).toNat (dmQ n n').toNat (dmU x)) (h5 la lb (dmR la o n x) (dmY lb o' n' x) (List.replicate (dmQ n n').toNat (uu 0)))
  [(ZO 4 (dmQ n n') (dmQ n n'),true),(Zpe (dmY lb o' n' x) la lb (cpy la o n) tR tR tU tU 0 (nP n).toNat (nP n).toNat (dmU x),true),(Zpe (cpy la o n) la lb (cpS lb o' n') tR tR tU tU 0 ((n':Int)).toNat ((n':Int)).toNat (dmU x),true),(Z4K lb o' n',true),(ZO 4 n' n',true),(decide (0≤x∧x<4294967296),true),ZcP lb o' (n1 n') x,inR (n1 n') n',
   (decide (Zci (Zz la o n) (Zz lb o' n')<0),false),(Z8 tR la o n c,true),(Z8 tR lb o' n' c',true),(Z4f la o n,true),(ZO 4 (nP n) (nP n),true),((n':Int)==0,false),(Z8 tR la o n c,true),(Z8 tR lb o' n' c',true),(ZS (Zz la o n) || ZS (Zz lb o' n'),false)]:=by and_intros<;>kernel_rfl
def dmG (o n c o' n' c' zr zb zq:Nat) (u i:Int):List Value:=[sl 0 o n c,sl 1 o' n' c',undef,undef,Zn,Zn,.nilIface,.nilIface,sl 2 0 zr zr,i6' u,sl 3 0 zb zb,sl 4 0 zq zq,i6' i]
theorem Z8S (o n c o' n' c' zr zb zq:Nat) (u:Int) (h:Hp) (g:Nat→Value):Zg (evC (Zk prog Zf Zhk hcD) 300 false (Z2 (Z2 (sn 12 f152))) (dmF o n c o' n' c' zr zb zq u++tl 77 g,h,[]) ⟨[],[],[]⟩) 13 76 none (dmG o n c o' n' c' zr zb zq u (n1 zq)) h []:=by and_intros<;>kernel_rfl
theorem Z07 (o n c o' n' c' zr zb zq:Nat) (u i:Int) (h:Hp) (g:Nat→Value):Zg (evC (Zk prog Zf Zhk hcD) 300 false (dmL f152) (dmG o n c o' n' c' zr zb zq u i++tl 76 g,h,[cmp false]) ⟨[],[],[]⟩) 13 76 (some (some 0)) (dmG o n c o' n' c' zr zb zq u i) h [(decide (i≥0),false)]:=by and_intros<;>kernel_rfl
def dmH (i:Int) (zb:Nat):Int:=i64.wrap (i64.wrap (i+(zb:Int))+1)
def dmN (i:Int) (zb:Nat):Nat:=(dmH i zb).toNat-i.toNat
theorem Z5Q (o n c o' n' c' zr zb zq:Nat) (u i:Int) (la lb R Y Q:List Value) (g:Nat→Value):Zg (evC (Zk prog Zf Zhk hcD) 300 false (dmL f152) (dmG o n c o' n' c' zr zb zq u i++tl 76 g,h5 la lb R Y Q,[cmp true,num 0,at_,at_]) ⟨[],[],[]⟩) 13 76 none (dmG o n c o' n' c' zr zb zq u (i64.wrap (i-1)))
  (h5 la lb (tmS R (pJ i) (dmN i zb) (dg (dmN i zb) (vN (Zz R (pJ i) (dmN i zb)) % vN (Zz Y 0 zb)))) Y (Q.set (pJ i) (uu (vN (Zz R (pJ i) (dmN i zb))/vN (Zz Y 0 zb)))))
  [(decide (pJ i<Q.length),true),inR i zq,(Zeo la lb R Y Q tR tR tU tU tU (pJ i) (dmN i zb) (zr-i.toNat) zb zb && decide (0<zb∧0<(Zz Y 0 zb).getD (zb-1) 0∧vN (Zz R (pJ i) (dmN i zb))<4294967296*vN (Zz Y 0 zb)),true),(ZG zr,true),(ze i (dmH i zb) zr zr,true),(decide ((zr:Int)=i∧i≠0),false),(decide (i≥0),true)]:=by and_intros<;>kernel_rfl
def dmD (R:List Value) (zr:Nat) (u:Int):List Value:=tmS R 0 zr (dg zr (vN (Zz R 0 zr)/2^u.toNat))
theorem Z08 (o n c o' n' c' zr zb zq:Nat) (u i:Int) (la lb R Y Q:List Value) (g:Nat→Value):Zg (evC (Zk prog Zf Zhk hcD) 300 false (sn 13 f152) (dmG o n c o' n' c' zr zb zq u i++tl 76 g,h5 la lb R Y Q,[]) ⟨[],[],[]⟩) 7 82 (some none) [sl 0 o n c,sl 1 o' n' c',undef,undef,sl 4 0 (Zi (Zz Q 0 zq)) zq,sl 2 0 (Zi (Zz (dmD R zr u) 0 zr)) zr,.nilIface] (h5 la lb (dmD R zr u) Y Q)
  [(Z8 tU (dmD R zr u) 0 zr zr,true),(Z8 tU Q 0 zq zq,true),(Z04 la lb R Y Q tR tR tU tU tU 0 zr zr u,true)]:=by and_intros<;>kernel_rfl
end Go.Proofs.YtgefjidphfdhdaaGreatDoor.Na
namespace Go.Nt
theorem ZiM:∀ (a b:Nat) (V:Int),dg (a+b) V=dg a V++dg b (V/4294967296^a)
 | 0,b,V=>by simp [dg]
 | a+1,b,V=>by
  rw[show a+1+b=(a+b)+1 by omega];simp only[dg];rw[ZiM a b,pw,Int.ediv_ediv_of_nonneg (show (0:Int)≤4294967296 by omega)];rfl
theorem ZiN (i m j:Nat) (W:Int):dg (i+(m+j)) W=dg i W++(dg m (W/4294967296^i)++dg j (W/4294967296^i/4294967296^m)):=by
 rw[ZiM,ZiM]
def qtW (W X:Int) (i:Nat):Int:=W % 4294967296^i+4294967296^i*X
theorem Zv3 (W X:Int) (i:Nat):qtW W X i/4294967296^i=X:=by
 have hp:=ZaI i;unfold qtW;rw[Int.add_mul_ediv_left _ _ (by omega),Int.ediv_eq_zero_of_lt (Int.emod_nonneg _ (by omega)) (Int.emod_lt_of_pos _ hp),Int.zero_add]
theorem Zv4 (W X:Int) (i:Nat):dg i (qtW W X i)=dg i W:=by
 have h:=Int.emod_add_mul_ediv W (4294967296^i);have e:qtW W X i=W+4294967296^i*(X-W/4294967296^i):=by
  unfold qtW;rw[Int.mul_sub];omega
 rw[e,Zdw]
theorem ZqQ {i m j:Nat}{W X:Int}(hX:0≤X∧X<4294967296^m):dg i W++(dg m X++dg j 0)=dg (i+(m+j)) (qtW W X i):=by
 rw[ZiN,Zv4,Zv3,Int.ediv_eq_zero_of_lt hX.1 hX.2]
theorem ZqR {W B W0 v:Int}{i n:Nat}(hB:0<B∧B<4294967296^n) (hW:0≤W∧W<B*4294967296^(i+1)) (h:W0=W+B*(4294967296^(i+1)*v)):
  (0≤W/4294967296^i∧W/4294967296^i<4294967296*B∧W/4294967296^i<4294967296^(n+1))∧(0≤W/4294967296^i % B∧W/4294967296^i % B<4294967296^(n+1))∧(0≤qtW W (W/4294967296^i % B) i∧qtW W (W/4294967296^i % B) i<B*4294967296^i)∧W0=qtW W (W/4294967296^i % B) i+B*(4294967296^i*(W/4294967296^i/B+4294967296*v)):=by
 have hp:=ZaI i;have hn:=ZaI n;have hd:=Int.emod_add_mul_ediv W (4294967296^i);have h1:=Int.emod_nonneg W (show (4294967296:Int)^i≠0 by omega);have h2:=Int.emod_lt_of_pos W hp;have t0:0≤W/4294967296^i:=Int.ediv_nonneg hW.1 (by omega);have t1:W/4294967296^i<4294967296*B:=Int.ediv_lt_of_lt_mul hp (by
  have:=hW.2;rw[pw,← Int.mul_assoc,Int.mul_comm B 4294967296] at this;exact this)
 have t2:W/4294967296^i<4294967296^(n+1):=by rw[pw];omega
 generalize hT:W/4294967296^i=T at*;have x0:=Int.emod_nonneg T (show B≠0 by omega);have x1:=Int.emod_lt_of_pos T hB.1;have hx:=Int.emod_add_mul_ediv T B;generalize T % B=X at*;generalize T/B=q at*;have x2:X<4294967296^(n+1):=by rw[pw];omega
 have y1:4294967296^i*X≤4294967296^i*(B-1):=Int.mul_le_mul_of_nonneg_left (by omega) (by omega);have y2:0≤4294967296^i*X:=Int.mul_nonneg (by omega) x0;rw[Int.mul_sub,Int.mul_one,Int.mul_comm _ B] at y1;refine⟨⟨t0,t1,t2⟩,⟨x0,x2⟩,?_,?_⟩
 ·unfold qtW;omega
 ·unfold qtW;have hT2:4294967296^i*T=4294967296^i*X+4294967296^i*(B*q):=by rw[← Int.mul_add,hx]
  rw[h,pw,Int.mul_add (4294967296^i) q,Int.mul_add B];have e1:B*(4294967296^i*q)=4294967296^i*(B*q):=by rw[← Int.mul_assoc,Int.mul_comm B,Int.mul_assoc]
  have e2:4294967296^i*(4294967296*v)=4294967296*4294967296^i*v:=by rw[← Int.mul_assoc,Int.mul_comm _ (4294967296:Int)]
  rw[e1,e2];omega
theorem Z09 {W B W0 v:Int}(hW:0≤W∧W<B) (h:W0=W+B*v):v=W0/B∧W=W0 % B:=by
 subst h;rw[Int.add_mul_ediv_left _ _ (by omega),Int.ediv_eq_zero_of_lt hW.1 hW.2,Int.add_mul_emod_self_left,Int.emod_eq_of_lt hW.1 hW.2];omega
theorem Zv5 {V:Int}{n:Nat}(hn:0<n) (h0:4294967296^(n-1)≤V) (h1:V<4294967296^n):0<(dg n V).getD (n-1) 0:=by
 have e:dg n V=dg (n-1) V++dg 1 (V/4294967296^(n-1)):=by
  rw[← ZiM];congr 1;omega
 have hp:=ZaI (n-1);have h2:(1:Int)≤V/4294967296^(n-1):=(Int.le_ediv_iff_mul_le hp).2 (by omega);have h3:V/4294967296^(n-1)<4294967296:=Int.ediv_lt_of_lt_mul hp (by
  rw[← pw,show n-1+1=n by omega];exact h1)
 have e2:(dg (n-1) V++dg 1 (V/4294967296^(n-1)))[n-1]? =some (V/4294967296^(n-1) % 4294967296):=by
  rw[List.getElem?_append_right (by rw[ZZ];omega),ZZ,Nat.sub_self];rfl
 rw[e,List.getD,e2];simp only[Option.getD_some];omega
theorem Zv6 {L:List Int}{n k:Nat}{x b:Int}(hL:wds L) (hl:L.length=n) (hn:0<n) (hx:L.getD (n-1) 0=x) (hb:x<b) (hbk:b*2^k≤4294967296):vN L*2^k<4294967296^n:=by
 have eL:L=L.take (n-1)++[x]:=by
  have h2:=Za3 (L:=L) (k:=n-1) (by omega);rw[← hx,← h2,show n-1+1=L.length by omega,List.take_length]
 have vL:vN L=vN (L.take (n-1))+4294967296^(n-1)*x:=by
  have:vN L=vN (L.take (n-1)++[x]):=by rw[← eL]
  rw[this,z8,List.length_take,Nat.min_eq_left (by omega)]
 have bL:=Zbe (L.take (n-1)) (Zc0 hL _);rw[List.length_take,Nat.min_eq_left (by omega)] at bL;have hp:=ZaI (n-1);have hk:(0:Int)<2^k:=Int.pow_pos (by omega);have h1:4294967296^(n-1)*(x+1)≤4294967296^(n-1)*b:=Int.mul_le_mul_of_nonneg_left (by omega) (by omega);have h2:vN L<4294967296^(n-1)*b:=by rw[Int.mul_add] at h1;omega
 have h3:=Int.mul_lt_mul_of_pos_right h2 hk;have h4:4294967296^(n-1)*(b*2^k)≤4294967296^(n-1)*4294967296:=Int.mul_le_mul_of_nonneg_left hbk (by omega);have h5:(4294967296:Int)^n=4294967296^(n-1)*4294967296:=by
  have:=pw (n-1);rw[show n-1+1=n by omega] at this;rw[this,Int.mul_comm]
 rw[h5];rw[Int.mul_assoc] at h3;omega
end Go.Nt
namespace Go.Proofs.YtgefjidphfdhdaaGreatDoor.Na
open Go.Proofs.Tryz
open Go.KRun Go.Nt
set_option maxRecDepth 100000
set_option linter.unusedVariables false
theorem ZmN {l:List Value}{o:Nat}{L:List Int}(h:Row l o L):Zz l o L.length=L:=by
 unfold Zz;rw[h.cut];unfold wU;rw[List.map_map];exact (List.map_congr_left fun x _=>rfl).trans (List.map_id' _)
theorem Zdh (L:List Int) {z:Nat}(hl:L.length=z):Zz (wU L) 0 z=L:=by
 have:=Zh9 [] L [];rw[List.append_nil,List.nil_append,List.length_nil,hl] at this;exact this
theorem ZmO (L M:List Int) {z:Nat}(hl:L.length=z):tmS (wU L) 0 z M=wU M:=by
 have:=ZhA [] L [] M;rw[List.append_nil,List.nil_append,List.length_nil,hl,List.append_nil,List.nil_append] at this;exact this
theorem ZmP (L:List Int) {z K:Nat}(hl:L.length=z):upT (wU L) 0 z (K:Int)=wU (dg z (vN L*2^K)):=by
 unfold upT;rw[Zdh L hl,ZmO L _ hl,Xg]
theorem zO {q:Nat}(h:q≤1000000):ZG q=true:=Zl.2 (by unfold zo;omega)
theorem ZqS {x:Int}(h:0<x∧x<4294967296):∃ K:Nat,dmU x=(K:Int)∧K<32∧x<2^(32-K)∧(2:Int)^(32-K)*2^K≤4294967296:=by
 have h1:=Zek (by omega) h.2;have h2:=bitLen_spec x.toNat;have h3:bitLen x.toNat≠0:=fun h0=>by rw[h0] at h2;have:=h2.1;omega
 refine⟨32-bitLen x.toNat,?_,by omega,?_,?_⟩
 ·unfold dmU;rw[Zw (by omega) (by omega)];omega
 ·rw[show 32-(32-bitLen x.toNat)=bitLen x.toNat by omega];have:((x.toNat:Nat):Int)<((2^bitLen x.toNat:Nat):Int):=Int.ofNat_lt.2 h2.1;rw[Int.natCast_pow] at this;have e:((x.toNat:Nat):Int)=x:=Int.toNat_of_nonneg (by omega);rw[e] at this;exact this
 ·rw[← Int.pow_add,show 32-(32-bitLen x.toNat)+(32-bitLen x.toNat)=32 by omega]
  decide
theorem Zv7 {la lb:List Value}{o c o' c':Nat}{LA LB:List Int}(RA:Row la o LA) (RB:Row lb o' LB) (ra:Z8 tR la o LA.length c=true) (rb:Z8 tR lb o' LB.length c'=true) (ba:ZS LA=false) (bb:ZS LB=false) (hb0:0<LB.length) (hc:¬ Zci LA LB<0):
  Runs (Zk prog Zf Zhk hcD) (ZW (dmP f152) (.seq (.seq (Z2 (Z2 (sn 12 f152))) (.block 0 (.loop (dmL f152)))) (sn 13 f152))) ([sl 0 o LA.length c,sl 1 o' LB.length c']++List.replicate 87 undef,h2 la lb,[]) fun e y=>(e=none∨e=some none)∧ZV prog f152 y.1 y.2.1=some (.tuple #[sl 4 0 (Zi (dg (LA.length-LB.length+1) (vN LA/vN LB))) (LA.length-LB.length+1),sl 2 0 (Zi (dg (LA.length+1) (vN LA % vN LB))) (LA.length+1),.nilIface])∧y.2.1.blk? 4=some (wU (dg (LA.length-LB.length+1) (vN LA/vN LB)),tU)∧y.2.1.blk? 2=some (wU (dg (LA.length+1) (vN LA % vN LB)),tU):=by
 have hT:=Zh Zdg Z05;have n8:=Zcz ba;have n8':=Zcz bb;have qa:=ZeQ RA.rng ba;have qb:=ZeQ RB.rng bb;have hcv:=Zi0 qa qb;have hge:vN LB≤vN LA:=by
  have:=mt hcv.1.2 hc;omega
 have hle:=Zl6 qa qb hge;obtain⟨_,_,_,_,_,_,sa⟩:=ZH ra;obtain⟨_,_,_,_,_,_,sb⟩:=ZH rb;have cA:=ZmN RA;have cB:=ZmN RB;have cx:=RB.cell (k:=LB.length-1) (by omega);have hx0:LB.getD (LB.length-1) 0≠0:=qb.2.resolve_left (by omega);have hxr:=RB.rng (LB.getD (LB.length-1) 0) (by
  have hk:LB.length-1<LB.length:=by omega
  simp [List.getD,List.getElem?_eq_getElem hk])
 obtain⟨K,eU,hK,hxK,hKK⟩:=ZqS (x:=LB.getD (LB.length-1) 0) (by omega);have hB1:=Zv6 RB.rng rfl hb0 rfl hxK hKK;have hlow:=Zgz RB.rng hb0 hx0;have k1:(1:Int)≤2^K:=by have:(0:Int)<2^K:=Int.pow_pos (by omega);omega
 have k2:(2:Int)^K≤4294967296:=by
  have h1:(1:Int)≤2^(32-K):=by have:(0:Int)<2^(32-K):=Int.pow_pos (by omega);omega
  have h2:1*(2:Int)^K≤2^(32-K)*2^K:=Int.mul_le_mul_of_nonneg_right h1 (by omega);omega
 have bA:=Zbe LA RA.rng;have pN1:=ZaI (LB.length-1);have hvB:0<vN LB:=by omega
 have hBlow:4294967296^(LB.length-1)≤vN LB*2^K:=by
  have:vN LB*1≤vN LB*2^K:=Int.mul_le_mul_of_nonneg_left k1 (by omega);omega
 have hW0:0≤vN LA*2^K:=Int.mul_nonneg bA.1 (by omega);have hW1:vN LA*2^K<vN LB*2^K*4294967296^(LA.length-LB.length+1):=by
  have e1:(4294967296:Int)^LA.length=4294967296^(LB.length-1)*4294967296^(LA.length-LB.length+1):=by
   rw[← Int.pow_add,show LB.length-1+(LA.length-LB.length+1)=LA.length by omega]
  have h1:4294967296^(LB.length-1)*4294967296^(LA.length-LB.length+1)≤vN LB*4294967296^(LA.length-LB.length+1):=Int.mul_le_mul_of_nonneg_right hlow (by have:=ZaI (LA.length-LB.length+1);omega);have h2:vN LA<vN LB*4294967296^(LA.length-LB.length+1):=by omega
  have h3:=Int.mul_lt_mul_of_pos_right h2 (show (0:Int)<2^K by omega);rw[Int.mul_assoc,Int.mul_comm (4294967296^(LA.length-LB.length+1)) (2^K),← Int.mul_assoc] at h3;exact h3
 have eNP:(nP LA.length).toNat=LA.length+1:=Zix n8;have eQ:dmQ LA.length LB.length=((LA.length-LB.length+1:Nat):Int):=by
  unfold dmQ;rw[Zw (n:=(LA.length:Int)-(LB.length:Int)) (by omega) (by omega),Zw (by omega) (by omega)];omega
 have eR:dmR la o LA.length (LB.getD (LB.length-1) 0)=wU (dg (LA.length+1) (vN LA*2^K)):=by
  unfold dmR;rw[eU,eNP,Zl2 RA n8,ZmP _ (by simp),z8,Int.mul_zero,Int.add_zero]
 have eY:dmY lb o' LB.length (LB.getD (LB.length-1) 0)=wU (dg LB.length (vN LB*2^K)):=by
  unfold dmY;rw[eU,Xg,ZsY RB,ZmP _ rfl]
 have g0:=Z06 o LA.length c o' LB.length c' (LB.getD (LB.length-1) 0) la lb;have en1:n1 LB.length=((LB.length-1:Nat):Int):=by unfold n1;rw[Zw (by omega) (by omega)];omega
 rw[eR,eY,eU,eNP,eQ,Xg,Xg,cA,cB,Zl2 RA n8,ZsY RB,en1] at g0;have erep:List.replicate (LA.length-LB.length+1) (uu 0)=wU (List.replicate (LA.length-LB.length+1) 0++[]):=by
  unfold wU uu;simp
 rw[erep] at g0;have lm1:Zpe (wU (dg LB.length (vN LB*2^K))) la lb (wU (LA++[0])) tR tR tU tU 0 (LA.length+1) (LA.length+1) (K:Int)=true:=by
  unfold Zpe;rw[Zam (Zf6 RA.rng) (by simp) (Nat.le_refl _) (zO (by omega)),Zbs,List.all_eq_true.2 sa,List.all_eq_true.2 sb,Xa (show (0:Int)≤K∧(K:Int)<32 by omega)];simp
 have lm2:Zpe (wU (LA++[0])) la lb (wU LB) tR tR tU tU 0 LB.length LB.length (K:Int)=true:=by
  unfold Zpe;rw[Zam RB.rng (by simp) (Nat.le_refl _) (zO (by omega)),Zbs,List.all_eq_true.2 sa,List.all_eq_true.2 sb,Xa (show (0:Int)≤K∧(K:Int)<32 by omega)];simp
 refine Z3 hT g0 (Zj (by unfold ZO;exact Xa (by omega)) (Zj lm1 (Zj lm2 (Zj (Zun RB) (Zj (by unfold ZO;exact Xa (by omega)) (Zj (Xa hxr) (Zj (Za2 cx) (Zj (Xa (by omega)) (Zj (Xb hc) (Zj ra (Zj rb (Zj (Zl3 RA n8) (Zj (Zzy n8) (Zj (by simpa using (show LB.length≠0 by omega)) (Zj ra (Zj rb (Zu (by rw[ba,bb];rfl)))))))))))))))))) fun g=> ?_;generalize hBe:vN LB*2^K=B' at*;generalize hWe:vN LA*2^K=W0 at*;have cY:=Zdh (dg LB.length B') (ZZ LB.length B');have vY:vN (dg LB.length B')=B':=Zke _ _ (by omega) hB1;have tY:=Zv5 hb0 hBlow hB1;have hBp:0<B':=by omega
 refine Runs.seq (P1:=fun e' y=>e'=none∧∃ (W:Int) (qs:List Int) (i:Int) (g:Nat→Value),(0≤W∧W<B')∧W0=W+B'*vN qs∧qs.length=LA.length-LB.length+1∧wds qs∧y.1=dmG o LA.length c o' LB.length c' (LA.length+1) LB.length (LA.length-LB.length+1) K i++tl 76 g∧y.2.1=h5 la lb (wU (dg (LA.length+1) W)) (wU (dg LB.length B')) (wU qs)) ?_ ?_ (fun e y he=>by cases he.1)
 ·refine Runs.seq (P1:=fun e' y=>e'=none∧(∃ g,y.1=dmG o LA.length c o' LB.length c' (LA.length+1) LB.length (LA.length-LB.length+1) K (n1 (LA.length-LB.length+1))++tl 76 g)∧y.2.1=h5 la lb (wU (dg (LA.length+1) W0)) (wU (dg LB.length B')) (wU (List.replicate (LA.length-LB.length+1) 0++[]))) (Zc hT (Z8S o LA.length c o' LB.length c' (LA.length+1) LB.length (LA.length-LB.length+1) K _ g) (fun x hx=>by cases hx)) ?_ (fun e y he=>by cases he.1);rintro⟨t,h',s'⟩ ⟨_,⟨g1,ht⟩,hh⟩;simp only at ht hh;subst ht hh;refine (Runs.forLoop (R:=fun _=>False) (P:=fun y=>∃ (W:Int) (qs:List Int) (i:Int) (g:Nat→Value),(0≤W∧W<B')∧W0=W+B'*vN qs∧qs.length=LA.length-LB.length+1∧wds qs∧y.1=dmG o LA.length c o' LB.length c' (LA.length+1) LB.length (LA.length-LB.length+1) K i++tl 76 g∧y.2.1=h5 la lb (wU (dg (LA.length+1) W)) (wU (dg LB.length B')) (wU qs))
   (fun r y=>∃ (W:Int) (qs:List Int) (g:Nat→Value),(0≤W∧W<B'*4294967296^r)∧W0=W+B'*(4294967296^r*vN qs)∧qs.length+r=LA.length-LB.length+1∧wds qs∧y.1=dmG o LA.length c o' LB.length c' (LA.length+1) LB.length (LA.length-LB.length+1) K ((r:Int)-1)++tl 76 g∧y.2.1=h5 la lb (wU (dg (LA.length+1) W)) (wU (dg LB.length B')) (wU (List.replicate r 0++qs)))
   ?_ (n:=LA.length-LB.length+1) ⟨W0,[],g1,⟨hW0,hW1⟩,by simp [vN],by simp,(fun x hx=>by cases hx),?_,rfl⟩).mono fun e' y he=> ?_
  ·rintro r ⟨t,h',s'⟩ ⟨W,qs,g,hW,hsum,hq,wq,ht,hh⟩;simp only at ht hh;subst ht hh;cases r with
   | zero=>
    refine (Zc hT (Z07 o LA.length c o' LB.length c' (LA.length+1) LB.length (LA.length-LB.length+1) K _ _ g) (Zu (Xb (by omega)))).mono fun e' y he=> ?_;obtain⟨rfl,⟨g1,e2⟩,e3⟩:=he;rw[Int.pow_zero] at hW hsum;rw[Int.mul_one] at hW;rw[Int.one_mul] at hsum;exact⟨rfl,W,qs,_,g1,hW,hsum,by omega,wq,e2,e3⟩
   | succ r=>
    have ei:((r+1:Nat):Int)-1=(r:Int):=by omega
    rw[ei];obtain⟨⟨t0,t1,t2⟩,⟨x0,x1⟩,hW',hs'⟩:=ZqR ⟨hBp,hB1⟩ hW hsum;have hdg:=ZiK hBp t0 t1;generalize hTe:W/4294967296^r=T at*;have eJ:pJ (r:Int)=r:=by unfold pJ;omega
    have eH:dmH (r:Int) LB.length=((r+LB.length+1:Nat):Int):=by
     unfold dmH;rw[Zw (n:=(r:Int)+(LB.length:Int)) (by omega) (by omega),Zw (by omega) (by omega)];omega
    have eN:dmN (r:Int) LB.length=LB.length+1:=by unfold dmN;rw[eH];omega
    have eRr:dg (LA.length+1) W=dg r W++(dg (LB.length+1) T++dg (LA.length-LB.length-r) 0):=by
     rw[show LA.length+1=r+((LB.length+1)+(LA.length-LB.length-r)) by omega,ZiN,hTe,Int.ediv_eq_zero_of_lt t0 t2]
    have cT:Zz (wU (dg (LA.length+1) W)) r (LB.length+1)=dg (LB.length+1) T:=by
     have:=Zh9 (dg r W) (dg (LB.length+1) T) (dg (LA.length-LB.length-r) 0);rw[ZZ,ZZ,← eRr] at this;exact this
    have vT:vN (dg (LB.length+1) T)=T:=Zke _ _ t0 t2;have sT:tmS (wU (dg (LA.length+1) W)) r (LB.length+1) (dg (LB.length+1) (T % B'))=wU (dg (LA.length+1) (qtW W (T % B') r)):=by
     have:=ZhA (dg r W) (dg (LB.length+1) T) (dg (LA.length-LB.length-r) 0) (dg (LB.length+1) (T % B'));rw[ZZ,ZZ,← eRr] at this;rw[this,ZqQ ⟨x0,x1⟩,show r+((LB.length+1)+(LA.length-LB.length-r))=LA.length+1 by omega]
    have sQ:(wU (List.replicate (r+1) 0++qs)).set r (uu (T/B'))=wU (List.replicate r 0++(T/B')::qs):=by
     have:=Ziw (List.replicate r 0) 0 (T/B') qs;rw[List.length_replicate] at this;rw[List.replicate_succ',List.append_assoc,List.singleton_append,this,List.append_assoc,List.singleton_append]
    have g2:=Z5Q o LA.length c o' LB.length c' (LA.length+1) LB.length (LA.length-LB.length+1) K r la lb (wU (dg (LA.length+1) W)) (wU (dg LB.length B')) (wU (List.replicate (r+1) 0++qs)) g;rw[eJ,eN,eH,cT,cY,vT,vY,sT,sQ,Xg] at g2;have l1:decide (r<(wU (List.replicate (r+1) 0++qs)).length)=true:=Xa (by rw[Zak];simp;omega);have l2:(inR r (LA.length-LB.length+1)).1=(inR r (LA.length-LB.length+1)).2:=Xa (by omega);have l3:(Zeo la lb (wU (dg (LA.length+1) W)) (wU (dg LB.length B')) (wU (List.replicate (r+1) 0++qs)) tR tR tU tU tU r (LB.length+1) (LA.length+1-r) LB.length LB.length && decide (0<LB.length∧0<(dg LB.length B').getD (LB.length-1) 0∧T<4294967296*B'))=true:=by
     unfold Zeo;rw[Zam (Zbd _ _) (by rw[ZZ];omega) (by omega) (zO (by omega)),Zam (Zbd _ _) (by rw[ZZ];omega) (Nat.le_refl _) (zO (by omega)),Zbs,List.all_eq_true.2 sa,List.all_eq_true.2 sb,Zl.2 (show LB.length+1<1099511627776 by omega),Xa (show 0<LB.length∧0<(dg LB.length B').getD (LB.length-1) 0∧T<4294967296*B' from ⟨hb0,tY,t1⟩)];simp
    have l5:ze (r:Int) ((r+LB.length+1:Nat):Int) ((LA.length+1:Nat):Int) ((LA.length+1:Nat):Int)=true:=by unfold ze;exact Xa (by omega)
    have l6:decide (((LA.length+1:Nat):Int)=(r:Int)∧(r:Int)≠0)=false:=Xb (by omega);have l7:decide ((r:Int)≥0)=true:=Xa (by omega);refine (Zc hT g2 (Zj l1 (Zj l2 (Zj l3 (Zj (zO (by omega)) (Zj l5 (Zj l6 (Zu l7)))))))).mono fun e' y he=> ?_;obtain⟨rfl,⟨g3,e2⟩,e3⟩:=he;refine⟨r,by omega,qtW W (T % B') r,T/B'::qs,g3,hW',?_,by simp;omega,?_,?_,e3⟩
    ·simp only[vN];exact hs'
    ·intro z hz;rcases List.mem_cons.1 hz with rfl | hz
     ·omega
     ·exact wq z hz
    ·rw[e2,Zw (by omega) (by omega)]
  ·show dmG _ _ _ _ _ _ _ _ _ _ _++_=_;rw[show n1 (LA.length-LB.length+1)=((LA.length-LB.length+1:Nat):Int)-1 from by unfold n1;rw[Zw (by omega) (by omega)]]
  ·match e',he with
   | none,he=>exact⟨rfl,he⟩
   | some none,he=>exact he.elim
   | some (some _),he=>exact he.elim
 ·rintro⟨t,h',s'⟩ ⟨_,W,qs,i,g,hW,hsum,hq,wq,ht,hh⟩;simp only at ht hh;subst ht hh;obtain⟨f1,f2⟩:=Z09 hW hsum;have hkp:(0:Int)<2^K:=by omega
  have d1:W0/B'=vN LA/vN LB:=by rw[← hWe,← hBe];exact Int.mul_ediv_mul_of_pos_left _ _ hkp
  have d2:W0 % B'=vN LA % vN LB*2^K:=by rw[← hWe,← hBe,Int.mul_comm (vN LA) (2^K),Int.mul_comm (vN LB) (2^K),Int.mul_emod_mul_of_pos _ _ hkp,Int.mul_comm]
  have eqs:qs=dg (LA.length-LB.length+1) (vN LA/vN LB):=by
   have:=Zhz qs wq;rw[hq,f1,d1] at this;exact this.symm
  have hWlt:W<4294967296^(LA.length+1):=by
   have h1:(4294967296:Int)^LB.length≤4294967296^(LA.length+1):=ZpP (by omega);omega
  have vW:vN (dg (LA.length+1) W)=W:=Zke _ _ hW.1 hWlt;have eD:dmD (wU (dg (LA.length+1) W)) (LA.length+1) K=wU (dg (LA.length+1) (vN LA % vN LB)):=by
   unfold dmD;rw[Zdh _ (ZZ _ _),ZmO _ _ (ZZ _ _),vW,f2,d2,Xg,Int.mul_ediv_cancel _ (by omega)]
  have g2:=Z08 o LA.length c o' LB.length c' (LA.length+1) LB.length (LA.length-LB.length+1) K i la lb (wU (dg (LA.length+1) W)) (wU (dg LB.length B')) (wU qs) g;rw[eD,Zdh qs hq,Zdh _ (ZZ _ _),eqs] at g2;have l1:Z04 la lb (wU (dg (LA.length+1) W)) (wU (dg LB.length B')) (wU (dg (LA.length-LB.length+1) (vN LA/vN LB))) tR tR tU tU tU 0 (LA.length+1) (LA.length+1) (K:Int)=true:=by
   unfold Z04;rw[Zam (Zbd _ _) (by rw[ZZ];omega) (Nat.le_refl _) (zO (by omega)),Zbs,Zbs,List.all_eq_true.2 sa,List.all_eq_true.2 sb,Zl.2 (show LA.length+1<1099511627776 by omega),Xa (show (0:Int)≤K∧(K:Int)<32 by omega)];simp
  rw[eqs];refine (Zc hT g2 (Zj (Zam (Zbd _ _) (by rw[ZZ];omega) (Nat.le_refl _) (zO (by omega))) (Zj (Zam (Zbd _ _) (by rw[ZZ];omega) (Nat.le_refl _) (zO (by omega))) (Zu l1)))).mono fun e' y he=> ?_;obtain⟨rfl,⟨g1,e2⟩,e3⟩:=he;refine⟨.inr rfl,?_,?_,?_⟩
  ·rw[e2,e3];rfl
  ·rw[e3];rfl
  ·rw[e3];rfl
def hcE:Hc:=ZY 132 Zg3 (ZY 187 Zut (ZY 131 Zhw hcN))
theorem ZiO:HcOk hcE:=Zt func132 rfl Zee (Zt func187 rfl ZpW (Zt func131 rfl Zcx zp))
theorem Z0A (p q:Option Addr) (n c n' c':Nat) (h:Hp):Zg (evC (Zk prog Zf Zo hcE) 300 false (Zs f152) ([.slice p n c,.slice q n' c']++List.replicate 87 undef,h,[cmp true]) ⟨[],[],[]⟩) 7 82 (some none) [.slice p n c,.slice q n' c',undef,undef,Zn,Zn,Zd0 1] h [(Zaf h p n c,true),(Zaf h q n' c',true),(ZS (Zm h p n) || ZS (Zm h q n'),true)]:=by and_intros<;>kernel_rfl
theorem Zv8 (p q:Option Addr) (n c n' c':Nat) (h:Hp):Zg (evC (Zk prog Zf Zo hcE) 300 false (Zs f152) ([.slice p n c,.slice q n' c']++List.replicate 87 undef,h,[cmp false,cmp true]) ⟨[],[],[]⟩) 7 82 (some none) [.slice p n c,.slice q n' c',undef,undef,Zn,Zn,Zd0 5] h [((n':Int)==0,true),(Zaf h p n c,true),(Zaf h q n' c',true),(ZS (Zm h p n) || ZS (Zm h q n'),false)]:=by and_intros<;>kernel_rfl
theorem Zv9 (o n c o' n' c':Nat) (la lb:List Value):Zg (evC (Zk prog Zf Zo hcE) 300 false (Zs f152) ([sl 0 o n c,sl 1 o' n' c']++List.replicate 87 undef,h2 la lb,[cmp false,cmp false,at_,at_,cmp true]) ⟨[],[],[]⟩) 7 82 (some none) [sl 0 o n c,sl 1 o' n' c',undef,undef,Zn,sl 2 0 (Zi (Zz (cpy la o n) 0 (nP n).toNat)) (nP n).toNat,.nilIface] (h3 la lb (cpy la o n))
  [(Z8 tU (cpy la o n) 0 (nP n).toNat (nP n).toNat,true),(decide (Zci (Zz la o n) (Zz lb o' n')<0),true),(Z8 tR la o n c,true),(Z8 tR lb o' n' c',true),(Z4f la o n,true),(ZO 4 (nP n) (nP n),true),((n':Int)==0,false),(Z8 tR la o n c,true),(Z8 tR lb o' n' c',true),(ZS (Zz la o n) || ZS (Zz lb o' n'),false)]:=by and_intros<;>kernel_rfl
theorem ZqT (o n c:Nat) (lb:List Value):Zg (evC (Zk prog Zf Zo hcE) 300 false (Zs f152) ([Zn,sl 0 o n c]++List.replicate 87 undef,⟨1,[(lb,tR)]⟩,[cmp false,cmp false,cmp true]) ⟨[],[],[]⟩) 7 82 (some none) [Zn,sl 0 o n c,undef,undef,Zn,sl 1 0 0 1,.nilIface] ⟨2,[(wU [0],tU),(lb,tR)]⟩
  [(Z8 tU (wU [0]) 0 1 1,true),(decide (Zci [] (Zz lb o n)<0),true),(true,true),(Z8 tR lb o n c,true),((n:Int)==0,false),(true,true),(Z8 tR lb o n c,true),(ZS (Zz lb o n),false)]:=by and_intros<;>kernel_rfl
def gDm:Zae:=fun vals h s=>
 match vals,s with
 | [.slice p n c,.slice q n' c'],.inr (.inr (.inr (.inl true)))::s'=>some (.tuple #[Zn,Zn,Zd0 1],h,s',[(Zaf h p n c,true),(Zaf h q n' c',true),(ZS (Zm h p n) || ZS (Zm h q n'),true)])
 | [.slice p n c,.slice q n' c'],.inr (.inr (.inr (.inl false))):: .inr (.inr (.inr (.inl true)))::s'=>some (.tuple #[Zn,Zn,Zd0 5],h,s',[(Zaf h p n c,true),(Zaf h q n' c',true),(!(ZS (Zm h p n) || ZS (Zm h q n')) && decide (n'=0),true)])
 | [.slice p n c,.slice q n' c'],.inr (.inr (.inr (.inl false))):: .inr (.inr (.inr (.inl false))):: .inr (.inr (.inr (.inl true)))::s'=>some (.tuple #[Zn,sl h.n 0 (Zi (Zm h p n++[0])) (n+1),.nilIface],h.push (wU (Zm h p n++[0])) tU,s',[(Zaf h p n c,true),(Zaf h q n' c',true),(!(ZS (Zm h p n) || ZS (Zm h q n')) && decide (0<n'∧Zci (Zm h p n) (Zm h q n')<0),true)])
 | [.slice p n c,.slice q n' c'],.inr (.inr (.inr (.inl false))):: .inr (.inr (.inr (.inl false))):: .inr (.inr (.inr (.inl false))):: .inr (.inl V):: .inr (.inl U)::s'=>some (.tuple #[sl h.n 0 (Zi (dg (n-n'+1) V)) (n-n'+1),sl (h.n+1) 0 (Zi (dg (n+1) U)) (n+1),.nilIface],(h.push (wU (dg (n-n'+1) V)) tU).push (wU (dg (n+1) U)) tU,s',[(decide (vN (Zm h p n)/vN (Zm h q n')=V∧vN (Zm h p n) % vN (Zm h q n')=U),true),(Zaf h p n c,true),(Zaf h q n' c',true),(!(ZS (Zm h p n) || ZS (Zm h q n')) && decide (0<n'∧¬ Zci (Zm h p n) (Zm h q n')<0),true)])
 | _,_=>none
theorem Z8T {a b c d:Bool×Bool}(h:Zx [a,b,c,d]):a.1=a.2∧b.1=b.2∧c.1=c.2∧d.1=d.2:=⟨h _ (by simp),h _ (by simp),h _ (by simp),h _ (by simp)⟩
theorem ZiP:Z6 152 gDm:=by
 intro vals h s v h' s' lg hg hl m B w E hv;unfold gDm at hg;split at hg
 ·rename_i p n c q n' c' s2;cases hg;have r:=Zc (s0:=[]) (Zh Zd ZiO) (Z0A p q n c n' c' h) hl;exact Zbr (T:=Zk prog Zf Zo hcE) func152 ZdC (vals:=[.slice p n c,.slice q n' c']) (v:= .tuple #[Zn,Zn,Zd0 1]) (h:=h) (by rfl) (r.mono fun e y he=>by
   obtain⟨rfl,⟨g,e1⟩,e2⟩:=he;exact⟨.inr rfl,by rw[e1,e2];rfl,e2⟩) m B w E hv
 ·rename_i p n c q n' c' s2;cases hg;obtain⟨l1,l2,l3⟩:=Z4h hl;simp only[Xh,Bool.not_eq_true',Xi] at l1 l2 l3;have r:=Zc (s0:=[]) (Zh Zd ZiO) (Zv8 p q n c n' c' h) (Zj (by simp [l3.2]) (Zj l1 (Zj l2 (Zu l3.1))));exact Zbr (T:=Zk prog Zf Zo hcE) func152 ZdC (vals:=[.slice p n c,.slice q n' c']) (v:= .tuple #[Zn,Zn,Zd0 5]) (h:=h) (by rfl) (r.mono fun e y he=>by
   obtain⟨rfl,⟨g,e1⟩,e2⟩:=he;exact⟨.inr rfl,by rw[e1,e2];rfl,e2⟩) m B w E hv
 ·rename_i p n c q n' c' s2;cases hg;obtain⟨l1,l2,l3⟩:=Z4h hl;simp only[Xh,Bool.not_eq_true',Bool.or_eq_false_iff,Xi] at l1 l2 l3;obtain⟨⟨l3,l4⟩,l5,l6⟩:=l3;rcases ZK l2 with ⟨_,h0,_⟩ | ⟨b',o',y,rfl,hy,t1,f0⟩
  ·omega
  rw[f0] at l4 l6;have tR1:=zJ t1;obtain⟨b1,b2,b3,b4,b5,b6,b7⟩:=ZH t1;rcases ZK l1 with ⟨rfl,rfl,rfl,e0⟩ | ⟨b,o,x,rfl,hx,r1,e0⟩
  ·rw[e0] at l6 ⊢;have r:Runs (Zk prog Zf Zo hcE) (Zs f152) ([Zn,sl 0 o' n' c']++List.replicate 87 undef,⟨1,[(y.1,tR)]⟩,[]) fun e z=>(e=none∨e=some none)∧ZV prog f152 z.1 z.2.1=some (.tuple #[Zn,sl 1 0 0 1,.nilIface])∧∃ r,z.2.1.blk? 1=some (wU [0]++r,tU):=by
    refine (Zc (Zh Zd ZiO) (ZqT o' n' c' y.1) (Zj (by kernel_rfl) (Zj (Xa l6) (Zj rfl (Zj tR1 (Zj (by simpa using (show n'≠0 by omega)) (Zj rfl (Zj tR1 (Zu l4))))))))).mono fun e z he=> ?_;obtain⟨rfl,⟨g,e1⟩,e2⟩:=he;exact⟨.inr rfl,by rw[e1,e2];rfl,[],by rw[e2];rfl⟩
   have evals:List.map (rn fun _=>b') [Zn,sl 0 o' n' c']=[.slice none 0 0,.slice (some ⟨b',o',none⟩) n' c']:=by simp [rn,rn2,rn1,sl,Zn]
   have e1:∀ k M:Nat,rn (fun _=>h.n) (.tuple #[Zn,sl 1 0 k M,.nilIface])= .tuple #[Zn,sl h.n 0 k M,.nilIface]:=fun k M=>by simp [rn,rn2,rn1,sl,Zn]
   have:=ZI (T:=Zk prog Zf Zo hcE) func152 ZdC (ZaH b7) (vals:=[Zn,sl 0 o' n' c']) (fun v hv=>by
    simp only[List.mem_cons,List.not_mem_nil,or_false] at hv;rcases hv with rfl | rfl<;>rfl) (k:=1) (ZcW _) Zec r.w (by rfl) E (s:=fun _=>b') (zS hy b5 b6 rfl)
   rw[evals,e1] at this;exact this
  ·rw[e0] at l3 l6 ⊢;have tR0:=zJ r1;obtain⟨a1,a2,a3,a4,a5,a6,a7⟩:=ZH r1;have n8:=Zcz l3;have g0:=Zv9 o n c o' n' c' x.1 y.1;have eP:=Zl2 a1 n8;have eO:=Zl3 a1 n8;rw[a2] at eP eO;rw[a2] at n8;rw[Zix n8,eP] at g0;have hw:=Zf6 a1.rng;have hl1:(Zz x.1 o n++[0]).length=n+1:=by simp [a2]
   rw[Zdh _ hl1] at g0;have r:Runs (Zk prog Zf Zo hcE) (Zs f152) ([sl 0 o n c,sl 1 o' n' c']++List.replicate 87 undef,h2 x.1 y.1,[]) fun e z=>(e=none∨e=some none)∧ZV prog f152 z.1 z.2.1=some (.tuple #[Zn,sl 2 0 (Zi (Zz x.1 o n++[0])) (n+1),.nilIface])∧∃ r,z.2.1.blk? 2=some (wU (Zz x.1 o n++[0])++r,tU):=by
    refine (Zc (Zh Zd ZiO) g0 (Zj (Zam hw (by rw[hl1];omega) (Nat.le_refl _) (zO (by omega))) (Zj (Xa l6) (Zj tR0 (Zj tR1 (Zj eO (Zj (Zzy n8) (Zj (by simpa using (show n'≠0 by omega)) (Zj tR0 (Zj tR1 (Zu (by rw[l3,l4];rfl)))))))))))).mono fun e z he=> ?_;obtain⟨rfl,⟨g,e1⟩,e2⟩:=he;exact⟨.inr rfl,by rw[e1,e2];rfl,[],by rw[e2,List.append_nil];rfl⟩
   have e1:∀ k M:Nat,rn (fun _=>h.n) (.tuple #[Zn,sl 2 0 k M,.nilIface])= .tuple #[Zn,sl h.n 0 k M,.nilIface]:=fun k M=>by simp [rn,rn2,rn1,sl,Zn]
   have:=ZI (T:=Zk prog Zf Zo hcE) func152 ZdC (Zgv a7 b7) (vals:=[sl 0 o n c,sl 1 o' n' c']) (fun v hv=>by
    simp only[List.mem_cons,List.not_mem_nil,or_false] at hv;rcases hv with rfl | rfl<;>rfl) (k:=2) (ZcW _) Zec r.w (by rfl) E (s:=ZdY b b') (Zdu hx a5 a6 hy b5 b6)
   rw[e1] at this;exact this
 ·rename_i p n c q n' c' V U s2;cases hg;obtain⟨l0,l1,l2,l3⟩:=Z8T hl;simp only[Xh,Bool.not_eq_true',Bool.or_eq_false_iff,Xi] at l0 l1 l2 l3;obtain⟨⟨l3,l4⟩,l5,l6⟩:=l3;obtain⟨rfl,rfl⟩:=l0;rcases ZK l2 with ⟨_,h0,_⟩ | ⟨b',o',y,rfl,hy,t1,f0⟩
  ·omega
  rw[f0] at l4 l6 ⊢;have tR1:=zJ t1;obtain⟨b1,b2,b3,b4,b5,b6,b7⟩:=ZH t1;rcases ZK l1 with ⟨rfl,rfl,rfl,e0⟩ | ⟨b,o,x,rfl,hx,r1,e0⟩
  ·rw[e0] at l6;exact absurd ((Zz4 b2).2 l5) l6
  ·rw[e0] at l3 l6 ⊢;have tR0:=zJ r1;obtain⟨a1,a2,a3,a4,a5,a6,a7⟩:=ZH r1;have r:=Zv7 (c:=c) (c':=c') a1 b1 (by rw[a2];exact tR0) (by rw[b2];exact tR1) l3 l4 (by omega) l6;rw[a2,b2] at r;have fin:=ZeS (T:=Zk prog Zf Zhk hcD) func152 Zv2 (Zgv a7 b7) (vals:=[sl 0 o n c,sl 1 o' n' c']) (fun v hv=>by
    simp only[List.mem_cons,List.not_mem_nil,or_false] at hv;rcases hv with h1 | h1<;>rw[h1]<;>rfl) (v:=fun k j=> .tuple #[sl k 0 (Zi (dg (n-n'+1) (vN (Zz x.1 o n)/vN (Zz y.1 o' n')))) (n-n'+1),sl j 0 (Zi (dg (n+1) (vN (Zz x.1 o n) % vN (Zz y.1 o' n')))) (n+1),.nilIface]) (ZcW _) (ZcW _) Zec (r.w.mono fun e z hz=>⟨hz.1,4,2,by omega,hz.2.1,⟨[],by rw[List.append_nil];exact hz.2.2.1⟩,[],by rw[List.append_nil];exact hz.2.2.2⟩) (fun k j=>by simp [oc,oc2,oc1,sl]) E (s:=ZdY b b') (Zdu hx a5 a6 hy b5 b6) (fun k j g=>by simp [rn,rn2,rn1,sl])
   exact fin
 ·cases hg
end Go.Proofs.YtgefjidphfdhdaaGreatDoor.Na
namespace Go.Proofs.YtgefjidphfdhdaaGreatDoor.Na
open Go.KRun Go.Nt
set_option maxRecDepth 100000
set_option linter.unusedVariables false
def Z5R:Zae:=fun vals h s=>
 match vals,s with
 | [.slice p n c,.slice q n' c'],.inr (.inr (.inr (.inl true)))::s'=>some (.tuple #[Zn,Zn,Zd0 1],h,s',[(Zaf h p n c,true),(Zaf h q n' c',true),(ZS (Zm h p n) || ZS (Zm h q n'),true)])
 | [.slice p n c,.slice q n' c'],.inr (.inr (.inr (.inl false))):: .inr (.inr (.inr (.inl true)))::s'=>some (.tuple #[Zn,Zn,Zd0 5],h,s',[(Zaf h p n c,true),(Zaf h q n' c',true),(!(ZS (Zm h p n) || ZS (Zm h q n')) && decide (n'=0),true)])
 | [.slice p n c,.slice q n' c'],.inr (.inr (.inr (.inl false))):: .inr (.inr (.inr (.inl false))):: .inr (.inr (.inr (.inl true))):: .inr (.inl U)::s'=>some (.tuple #[Zn,sl h.n 0 (Zi (dg (n+1) U)) (n+1),.nilIface],h.push (wU (dg (n+1) U)) tU,s',[(decide (Zm h p n++[0]=dg (n+1) U),true),(Zaf h p n c,true),(Zaf h q n' c',true),(!(ZS (Zm h p n) || ZS (Zm h q n')) && decide (0<n'∧Zci (Zm h p n) (Zm h q n')<0),true)])
 | [.slice p n c,.slice q n' c'],.inr (.inr (.inr (.inl false))):: .inr (.inr (.inr (.inl false))):: .inr (.inr (.inr (.inl false))):: .inr (.inl V):: .inr (.inl U)::s'=>some (.tuple #[sl h.n 0 (Zi (dg (n-n'+1) V)) (n-n'+1),sl (h.n+1) 0 (Zi (dg (n+1) U)) (n+1),.nilIface],(h.push (wU (dg (n-n'+1) V)) tU).push (wU (dg (n+1) U)) tU,s',[(decide (vN (Zm h p n)/vN (Zm h q n')=V∧vN (Zm h p n) % vN (Zm h q n')=U),true),(Zaf h p n c,true),(Zaf h q n' c',true),(!(ZS (Zm h p n) || ZS (Zm h q n')) && decide (0<n'∧¬ Zci (Zm h p n) (Zm h q n')<0),true)])
 | _,_=>none
theorem ZvA:Z6 152 Z5R:=by
 intro vals h s v h' s' lg hg hl;unfold Z5R at hg;split at hg
 ·cases hg;exact ZiP _ h [cmp true] _ _ [] _ rfl hl
 ·cases hg;exact ZiP _ h [cmp false,cmp true] _ _ [] _ rfl hl
 ·rename_i p n c q n' c' U s3;cases hg;obtain⟨l1,l2⟩:=Ztd hl;have l1:=Xc l1;refine ZiP _ h [cmp false,cmp false,cmp true] _ _ [] _ ?_ l2;simp only[gDm,l1]
 ·cases hg;exact ZiP _ h [cmp false,cmp false,cmp false,num _,num _] _ _ [] _ rfl hl
 ·cases hg
def IsR (H:Hp) (p:Option Addr) (n c V:Nat):Prop:=Zaf H p n c=true∧zx H p n c=true∧Zm H p n=d32 V∧n=(d32 V).length∧n≤1000
theorem Zko {H:Hp}{b V m:Nat}(hb:H.blk? b=some (wU (dg m (V:Int)),tU)) (hV:V<4294967296^m) (hm:m≤1000):IsR H (some ⟨b,0,none⟩) (Zi (dg m (V:Int))) m V:=by
 have h32:=Z5q hb hV hm;have ht:=zQ (dg m (V:Int));have hl:=ZZ m (V:Int);refine⟨?_,h32.1,h32.2,?_,by omega⟩
 ·unfold Zaf;simp only[hb];exact Zam (Zbd _ _) (by omega) (by omega) (zO (by omega))
 ·rw[← h32.2];have:=z6 h32.1;omega
section
variable {H : Hp} {p q : Option Addr} {n c n' c' V W : Nat}
theorem ZgD (V:Nat):vN (d32 V)=(V:Int):=by
 rw[ZlZ (Zh4 V)];exact congrArg _ (Zc1 (by omega) V)
theorem ZcA (V:Nat):Zbn (d32 V):=by
 have h:=Zc2 (b:=4294967296) (by omega) V;refine⟨Zh4 V,?_⟩;have ht:=Zcw (d32 V);rw[show Zi (d32 V)=(d32 V).length from h.2] at ht;exact ht
theorem IsR.good (h:IsR H p n c V):ZS (Zm H p n)=false:=by
 have hl:(Zm H p n).length=n:=by rw[h.2.2.1];exact h.2.2.2.1.symm
 have h8:=h.2.2.2.2;have hc:=ZcA V;rw[← h.2.2.1] at hc;unfold ZS;rw[Xb (by omega),Bool.false_or];rcases hc.2 with h0 | h0
 ·rw[Xb (by omega)];rfl
 ·rw[beq_eq_false_iff_ne.2 h0,Bool.and_false]
theorem rX (h:IsR H p n c V):Zaf H p n c=true:=h.1
theorem rOr (h:IsR H p n c V) (g:IsR H q n' c' W):(ZS (Zm H p n) || ZS (Zm H q n'))=false:=by rw[h.good,g.good];rfl
theorem ZvB (h:IsR H p n c V) (g:IsR H q n' c' W):decide (Zh8 (Zm H p n) (Zm H q n')=dg (n+n') ((V*W:Nat):Int))=true:=by
 refine Xa ?_;unfold Zh8;rw[h.2.2.1,g.2.2.1,ZgD,ZgD,← h.2.2.2.1,← g.2.2.2.1,Int.natCast_mul]
theorem Z5S (h:IsR H p n c V) (g:IsR H q n' c' W):Zci (Zm H p n) (Zm H q n')=zY V W:=by
 rw[h.2.2.1,g.2.2.1,Zu7 (ZcA V) (ZcA W),show vb 4294967296 (d32 V)=V from Zc1 (by omega) V,show vb 4294967296 (d32 W)=W from Zc1 (by omega) W];rfl
theorem rG (h:IsR H p n c V) (g:IsR H q n' c' W) (hp:0<n') (hle:W≤V):(!(ZS (Zm H p n) || ZS (Zm H q n')) && decide (0<n'∧¬ Zci (Zm H p n) (Zm H q n')<0))=true:=by
 rw[rOr h g,Z5S h g,Xa ⟨hp,by unfold zY;rw[if_neg (by omega)];split<;>omega⟩];rfl
theorem Z8U (h:IsR H p n c V) (g:IsR H q n' c' W):decide (vN (Zm H p n)/vN (Zm H q n')=((V/W:Nat):Int)∧vN (Zm H p n) % vN (Zm H q n')=((V % W:Nat):Int))=true:=by
 rw[h.2.2.1,g.2.2.1,ZgD,ZgD];exact Xa ⟨(Int.natCast_ediv V W).symm,(Int.natCast_emod V W).symm⟩
end
end Go.Proofs.YtgefjidphfdhdaaGreatDoor.Na
namespace Go.Proofs.YtgefjidphfdhdaaGreatDoor.Na
open Go.Proofs.Tryz
open Go.KRun Go.Nt
set_option maxRecDepth 100000
set_option linter.unusedVariables false
theorem Z5T (u:Int):ZD (Zr (Zq prog Zf Zo true) 3000 126 [.int .u64 u] [tst false,tst false,tst false,tst false]) (Zf3 0 u) [lt8 u,geq u 256 false,geq u 65536 false,geq u 4294967296 false,nz]:=by and_intros<;>kernel_rfl
theorem Z5U (u:Int):ZD (Zr (Zq prog Zf Zo true) 3000 126 [.int .u64 u] [tst false,tst false,tst false,tst true]) (Zf3 8 (shd u 8)) [lt8 (shd u 8),nz,geq u 256 true,geq u 65536 false,geq u 4294967296 false,nz]:=by and_intros<;>kernel_rfl
theorem ZmQ (u:Int) (h0:0≤u) (h1:u<65536) (w:World):Calls prog 126 #[.int .u64 u] w fun e w'=>e= .returned (.int .i64 (bitLen u.toNat:Nat))∧Za0 w w':=by
 obtain⟨U,rfl⟩:=Int.eq_ofNat_of_zero_le h0;rw[Xg];have p8:(2:Nat)^8=256:=rfl;have step:∀ {v:Value}{s:List Dec}{cs:Log},ZD (Zr (Zq prog Zf Zo true) 3000 126 [.int .u64 (U:Int)] s) v cs→Zx cs→v= .int .i64 (bitLen U:Nat)→Calls prog 126 #[.int .u64 (U:Int)] w fun e w'=>e= .returned (.int .i64 (bitLen U:Nat))∧Za0 w w':=
  fun {v s cs} hf hc hv=>by subst hv;exact Ze (Zp Zd) hf hc (by rfl) (by rfl) w
 by_cases c:U<256
 ·obtain⟨e1,e2⟩:=zZ (m:=0) (by omega) (by omega) c;exact step (Z5T U) (Zj e2 (Zj (Zf4 (by omega)) (Zj (Zf4 (by omega)) (Zj (Zf4 (by omega)) (Zu Zbh))))) (by rw[e1];congr 1;omega)
 ·have l:=ZaL U 8 (by omega);obtain⟨e1,e2⟩:=zZ (m:=8) (Z:=U/2^8) (by omega) (by omega) (by omega);rw[← Zej] at e1 e2;exact step (Z5U U) (Zj e2 (Zj Zbh (Zj (Zmp (by omega)) (Zj (Zf4 (by omega)) (Zj (Zf4 (by omega)) (Zu Zbh)))))) (by rw[e1];congr 1;omega)
def ZvC:Ans:=fun vals s=>
 match vals with
 | [.int .u64 x]=>some (.int .i64 (bitLen x.toNat:Nat),s,[(decide (0≤x∧x<65536),true)])
 | _=>none
theorem ZqU:zT 126 ZvC:=by
 intro vals s v s' lg h hl w;unfold ZvC at h;split at h
 ·cases h;have hr:=hl _ Xf;simp only[Xi] at hr;exact ZmQ _ hr.1 hr.2 w
 ·cases h
def ZaR:Con:=alt 126 ZvC Zo
theorem ZqV:ConOk ZaR:=ZM func126 rfl ZqU Zd
def Z4m:Hc:=ZY 131 Zhw hcN
theorem ZvD:HcOk Z4m:=Zt func131 rfl Zcx zp
theorem ZvE:f79.body=some (Zs f79):=by kernel_rfl
end Go.Proofs.YtgefjidphfdhdaaGreatDoor.Na
namespace Go.Proofs.YtgefjidphfdhdaaGreatDoor.Na
open Go.Proofs.Tryz
open Go.IntKind
open Go.KRun Go.Nt
set_option maxRecDepth 100000
set_option linter.unusedVariables false
def o2 (x:Int):List Int:=[u32.wrap x,u32.wrap (x.fdiv (2^min (32:Int).toNat 64))]
theorem Z5V (x:Int):Zg (evC (Zk prog Zf Zo Z4m) 100 false (Zs f79) ([.int .u64 x]++List.replicate 9 undef,⟨0,[]⟩,[]) ⟨[],[],[]⟩) 3 7 (some none) [.int .u64 x,.tuple #[],sl 0 0 (Zi (Zz (wU (o2 x)) 0 2)) 2] ⟨1,[(wU (o2 x),tU)]⟩ [(Z8 tU (wU (o2 x)) 0 2 2,true),(decide ((32:Int)<0),false)]:=by and_intros<;>kernel_rfl
theorem Z5W {x:Int}(h0:0≤x) (h1:x<18446744073709551616):o2 x=dg 2 x:=by
 have e:(2:Int)^min (32:Int).toNat 64=4294967296:=rfl;unfold o2;rw[e,Int.fdiv_eq_ediv_of_nonneg _ (by omega)];simp only[dg];have w:∀ z:Int,u32.wrap z=z % 4294967296:=fun z=>by simp [IntKind.wrap,IntKind.bits,IntKind.signed]
 rw[w,w]
def Z0B:Zae:=fun vals h s=>
 match vals with
 | [.int .u64 x]=>some (sl h.n 0 (Zi (dg 2 x)) 2,h.push (wU (dg 2 x)) tU,s,[(decide (0≤x∧x<18446744073709551616),true)])
 | _=>none
theorem ZhF:Z6 79 Z0B:=by
 intro vals h s v h' s' lg hg hl m B w E hv;have hr0:(⟨0,[]⟩:Hp).rows:=⟨rfl,fun b x hx=>by have:b<0:=Hp.blk_lt hx;omega⟩;unfold Z0B at hg;split at hg
 ·rename_i x;cases hg;have q:=Xc (hl _ Xf);have hg:=Z5V x;have hl2:=ZZ 2 x;have ec:Zz (wU (dg 2 x)) 0 2=dg 2 x:=by
   have:=ZaV (dg 2 x);rw[hl2] at this;exact this
  rw[Z5W q.1 q.2,ec] at hg;have hok:Z8 tU (wU (dg 2 x)) 0 2 2=true:=Zam (Zbd _ _) (by omega) (by omega) (zO (by omega));have r:RunsW (Zk prog Zf Zo Z4m) (Zs f79) ([.int .u64 x]++List.replicate 9 undef,⟨0,[]⟩,[]) fun e z=>(e=none∨e=some none)∧ZV prog f79 z.1 z.2.1=some (sl 0 0 (Zi (dg 2 x)) 2)∧∃ r,z.2.1.blk? 0=some (wU (dg 2 x)++r,tU):=by
   refine (Zb (Zh Zd ZvD) hg (Za hok (Z5 (by decide)))).mono fun e z he=> ?_;obtain⟨rfl,⟨g,e1⟩,e2⟩:=he;exact⟨.inr rfl,by rw[e1,e2];rfl,[],by rw[e2,List.append_nil];rfl⟩
  exact ZI (T:=Zk prog Zf Zo Z4m) func79 ZvE hr0 (vals:=[.int .u64 x]) (fun v hv=>by rw[List.mem_singleton.1 hv];rfl) (k:=0) (cs:=wU (dg 2 x)) (ty:=tU) (ZaX _) (by kernel_rfl) r (by simp [oc,oc2,oc1,sl]) E (s:=fun i=>i) (fun i x hx _=>by have:i<0:=Hp.blk_lt hx;omega)
 ·cases hg
def hcQ:Hc:=ZY 79 Z0B (ZY 127 Z0m hcN)
theorem ZaN:HcOk hcQ:=Zt func79 rfl ZhF (Zt func127 rfl ZhC zp)
end Go.Proofs.YtgefjidphfdhdaaGreatDoor.Na
namespace Go.Proofs.YtgefjidphfdhdaaGreatDoor
open Go.Proofs.Tryz
open Go.KRun Go.Nt
set_option maxRecDepth 100000
set_option linter.unusedVariables false
theorem ZvF {x:Bool×Bool}{l:Log}(h:Zx (x::l)):x.1=x.2∧Zx l:=⟨h _ Xe,fun y hy=>h y (Xd _ hy)⟩
def ZvG:Zae:=fun vals h s=>
 match vals,s with
 | [.slice p n c,.int .u32 b,.int .u32 e],.inr (.inr (.inr (.inl d)))::s'=>
  match d,s' with
  | true,.inr (.inl V)::s2=>Zda V.toNat h s2 [(decide (vO h p n*b.toNat+e.toNat=V.toNat),true),(ZaZ h p n c b e,true),(decide (0<n∨0<e),true)]
  | false,_=>some (Zn,h,s',[(ZaZ h p n c b e,true),(decide (0<n∨0<e),false)])
  | _,_=>none
 | _,_=>none
theorem ZqW:Z6 70 ZvG:=by
 intro vals h s v h' s' lg hg hl;unfold ZvG at hg;split at hg
 ·rename_i p n c b e d s2;split at hg
  ·rename_i V s3;unfold Zda at hg;cases hg;obtain⟨l1,l2⟩:=ZvF hl;have l1:=Xc l1;refine Zh2 _ h [cmp true] _ _ [] _ ?_ l2;simp only[Z4j,Zda,l1]
  ·cases hg;exact Zh2 _ h [cmp false] _ _ [] _ rfl hl
  ·cases hg
 ·cases hg
def Zd3:Hc:=ZY 70 ZvG hcN
theorem ZmR:HcOk Zd3:=Zt func70 rfl ZqW zp
end Go.Proofs.YtgefjidphfdhdaaGreatDoor
