/-
  PwG, NumZ, NumY, NumT, Num, Num2, NumX4, NumR4, NumR5, NumF, NumQu
-/
import Derived.Test.YtjlponbdflkbjaaGreatDoorG15
import Derived.Test.YtjlponbdflkbjaaGreatDoorG07
import Derived.Test.YtjlponbdflkbjaaGreatDoorG09
import Derived.Test.YtjlponbdflkbjaaGreatDoorG04
import Derived.Test.YtjlponbdflkbjaaGreatDoorG05
import Derived.WalkKit
import Derived.LaidEql
import Derived.Stop.Asserts
import Derived.RowKitTokens
import Derived.OneCell
import Derived.SizedLaws
import Derived.Test.YtjlponbdflkbjaaGreatDoorG12
import GoSem.Core.Sem
import Derived.Laws.MathBits
import Derived.Test.YtjlponbdflkbjaaGreatDoorG13
namespace Go.Proofs.YtjlponbdflkbjaaGreatDoor.Na
open Go.Proofs.Tryz
open Go.IntKind
open Go.KRun Go.Nt
set_option maxRecDepth 100000
set_option linter.unusedVariables false
theorem ZmU {b n:Nat}(hb:b<4294967296) (hn:n≤2000) (hw:∀ j,j≤n→nw (b^j)≤400):RunsW (Zr prog Zf ZaM hcQ) (ZW (qP f76) (.seq (.seq (qI f76) (.block 0 (.loop (qL f76)))) (qE f76))) ([.int .u32 (b:Int),.int .i64 (n:Int)]++List.replicate 54 uZ,⟨0,[]⟩,[]) fun e z=>(e=none∨e=some none)∧((¬ (b=0∧1≤n)∧∃ k,ZV prog f76 z.1 z.2.1=some (.tuple #[s32 k (pM b n) (b^n),.nilIface])∧∃ r,z.2.1.blk? k=some (wU (dg (pM b n) ((b^n:Nat):Int))++r,tU))∨((b=0∧1≤n)∧ZV prog f76 z.1 z.2.1=some (.tuple #[Zp,.nilIface]))):=by
 have eb:u64.wrap (b:Int)=(b:Int):=by simp [IntKind.wrap,IntKind.bits,IntKind.signed];omega
 have en:u64.wrap (n:Int)=(n:Int):=by simp [IntKind.wrap,IntKind.bits,IntKind.signed];omega
 have hp:=Z1n b n;rw[eb] at hp;have hi:=Z9s b n;rw[en,tN] at hi;have hl9:bitLen n≤11:=by
  obtain⟨s1,s2⟩:=bitLen_spec n;rcases Nat.lt_or_ge 11 (bitLen n) with h | h
  ·have h0:n≠0:=by rintro rfl;simp [bitLen] at h
   have h1:=s2 h0;have h2:2^11≤2^(bitLen n-1):=Nat.pow_le_pow_right (by omega) (by omega);have h3:(2:Nat)^11=2048:=rfl;omega
  ·exact h
 have hz:n/2^bitLen n=0:=Nat.div_eq_of_lt (bitLen_spec n).1;have ew:i64.wrap (((bitLen n:Nat):Int)-1)=((bitLen n:Nat):Int)-1:=Zw (by omega) (by omega);rw[ew] at hi;refine Z0 ZiC hp (Za (dT ⟨by omega,by omega⟩) (Za (by decide) (Za (dF (by omega)) (Z4 (dF (by omega)))))) fun g=> ?_;refine RunsW.seq (P1:=fun e y=>e=none∧nS b n 0 y) ?_ ?_ (fun e y hy=>by cases hy.1)
 ·refine RunsW.seq (Ze ZiC (hi (s32 1 2 b) g (Q2 b)) (Z4 (dT ⟨by omega,by omega⟩))) ?_ (fun e y hy=>by cases hy.1);rintro⟨t,h',s⟩ ⟨_,⟨g',ht⟩,hh⟩;simp only at ht hh;subst ht hh;have lp:=RunsW.forLoop (T:=Zr prog Zf ZaM hcQ) (c:=qL f76) (id:=0) (P:=nS b n 0) (R:=fun _=>False) (fun k y=>k≤bitLen n∧nS b n k y) (x:=(qF b n (s32 0 2 1) (s32 1 2 b) (((bitLen n:Nat):Int)-1)++tl 46 g',Q2 b,s)) ?_ (n:=bitLen n) ⟨Nat.le_refl _,g',.inl ⟨hz,rfl,rfl⟩⟩
  ·refine lp.mono fun e z hz=> ?_
   match e,hz with
   | none,hz=>exact⟨rfl,hz⟩
   | some none,hz=>exact hz.elim
   | some (some _),hz=>exact hz.elim
  ·rintro k y ⟨hk,hy⟩
   match k,hk,hy with
   | k+1,hk,hy=>
    refine (ZqG hb hn hw (by omega) hy fun h0=> ?_).mono fun e z hz=> ?_
    ·obtain⟨s1,s2⟩:=bitLen_spec n;have hn0:n≠0:=by
      rintro rfl;simp [bitLen] at hk
     have h1:=s2 hn0;have h2:bitLen n=k+1:=by
      rcases Nat.lt_or_ge (k+1) (bitLen n) with h | h
      ·exfalso
       have h3:2^(k+1)≤2^(bitLen n-1):=Nat.pow_le_pow_right (by omega) (by omega);have h4:0<n/2^(k+1):=Nat.div_pos (by omega) (Nat.pow_pos (by omega));omega
      ·omega
     rw[h2,Nat.add_sub_cancel] at h1;have h5:0<n/2^k:=Nat.div_pos h1 (Nat.pow_pos (by omega));have h6:n/2^(k+1)=n/2^k/2:=by rw[Nat.pow_succ,← Nat.div_div_eq_div_mul]
     omega
    ·obtain⟨rfl,hz⟩:=hz;exact⟨k,by omega,by omega,hz⟩
   | 0,_,hy=>
    obtain⟨t,h',s⟩:=y;have out:∀ (P:Value) (h:Hp) (g:Nat→Value) (s:List Dec),RunsW (Zr prog Zf ZaM hcQ) (qL f76) (qF b n P (s32 1 2 b) (((0:Nat):Int)-1)++tl 46 g,h,s) fun e z=>e=some (some 0)∧(∃ g,z.1=qF b n P (s32 1 2 b) (((0:Nat):Int)-1)++tl 46 g)∧z.2.1=h:=fun P h g s=>
     Ze ZiC (Z9t n (((0:Nat):Int)-1) b P (s32 1 2 b) h g) (Z4 (by decide))
    obtain⟨g,hy⟩:=hy;rcases hy with ⟨j0,ht,hh⟩ | ⟨j1,b0,ht,hh⟩ | ⟨j1,b0,m,V,ht,hh⟩<;>simp only at ht hh<;>subst ht hh
    ·refine (out _ _ g s).mono fun e z hz=> ?_;obtain⟨rfl,⟨g',e1⟩,e2⟩:=hz;exact⟨rfl,g',.inl ⟨j0,e1,e2⟩⟩
    ·refine (out _ _ g s).mono fun e z hz=> ?_;obtain⟨rfl,⟨g',e1⟩,e2⟩:=hz;exact⟨rfl,g',.inr (.inl ⟨j1,b0,e1,e2⟩)⟩
    ·refine (out _ _ g s).mono fun e z hz=> ?_;obtain⟨rfl,⟨g',e1⟩,e2⟩:=hz;exact⟨rfl,g',.inr (.inr ⟨j1,b0,m,V,e1,e2⟩)⟩
 ·rintro⟨t,h',s⟩ ⟨_,g,hy⟩;rw[Nat.pow_zero,Nat.div_one] at hy;rcases hy with ⟨j0,ht,hh⟩ | ⟨j1,b0,ht,hh⟩ | ⟨j1,b0,m,V,ht,hh⟩<;>simp only at ht hh<;>subst ht hh
  ·refine (Ze ZiC (Z6y n _ b _ _ _ g) (fun x hx=>by cases hx)).mono fun e z hz=> ?_;obtain⟨rfl,⟨g',e1⟩,e2⟩:=hz;subst j0;have e3:pM b 0=2:=rfl;rw[e3,Nat.pow_zero];exact⟨.inr rfl,.inl ⟨by omega,0,by rw[e1,e2];rfl,[],by rw[e2,List.append_nil];rfl⟩⟩
  ·refine (Ze ZiC (Z6y n _ b _ _ _ g) (fun x hx=>by cases hx)).mono fun e z hz=> ?_;obtain⟨rfl,⟨g',e1⟩,e2⟩:=hz;exact⟨.inr rfl,.inl ⟨by omega,2,by rw[e1,e2];rfl,[],by rw[e2,List.append_nil];rfl⟩⟩
  ·refine (Ze ZiC (Z6y n _ b _ _ _ g) (fun x hx=>by cases hx)).mono fun e z hz=> ?_;obtain⟨rfl,⟨g',e1⟩,e2⟩:=hz;exact⟨.inr rfl,.inr ⟨⟨b0,j1⟩,by rw[e1,e2];rfl⟩⟩
def ZyW (b n:Int):Bool:=decide (0≤b∧b<4294967296∧0≤n∧(n≤300∨(b=10∧n≤2000)))
theorem ZmV {b n:Nat}(h:ZyW b n=true):b<4294967296∧n≤2000∧∀ j,j≤n→nw (b^j)≤400:=by
 have q:=oT h;rcases q.2.2.2 with h1 | ⟨h1,h2⟩
 ·exact⟨by omega,by omega,ZqF (by omega) (by omega)⟩
 ·have e:b=10:=by omega
  rw[e];exact⟨by omega,by omega,Ztb (by omega)⟩
def pMi (b n:Int):Nat:=pM b.toNat n.toNat
def ZvX:Zad:=fun vals h s=>
 match vals,s with
 | [.int .u32 b,.int .i64 n],.inr (.inr (.inr (.inl true)))::s'=>some (.tuple #[Zp,Zcu 1],h,s',[(decide (n<0∨n>1000000),true)])
 | [.int .u32 b,.int .i64 n],.inr (.inr (.inr (.inl false))):: .inr (.inr (.inr (.inl true)))::s'=>some (.tuple #[Zp,.nilIface],h,s',[(ZyW b n,true),(decide (b=0∧1≤n),true)])
 | [.int .u32 b,.int .i64 n],.inr (.inr (.inr (.inl false))):: .inr (.inr (.inr (.inl false))):: .inr (.inl V)::s'=>some (.tuple #[sl h.n 0 (Zl (dg (pMi b n) V)) (pMi b n),.nilIface],h.push (wU (dg (pMi b n) V)) tU,s',[(decide (((b.toNat^n.toNat:Nat):Int)=V),true),(ZyW b n,true),(decide (b=0∧1≤n),false)])
 | _,_=>none
theorem ZqL:Z8 76 ZvX:=by
 intro vals h s v h' s' lg hg hl m B w E hv;have hr0:(⟨0,[]⟩:Hp).rows:=⟨rfl,fun b x hx=>by have:b<0:=Hp.blk_lt hx;omega⟩;unfold ZvX at hg;split at hg
 ·rename_i b n s2;cases hg;have l1:=oT (hl _ mS);have r:RunsW (Zr prog Zf ZaM hcQ) (Zs f76) ([.int .u32 b,.int .i64 n]++List.replicate 54 uZ,⟨0,[]⟩,[]) fun e z=>(e=none∨e=some none)∧ZV prog f76 z.1 z.2.1=some (.tuple #[Zp,Zcu 1]):=by
   by_cases h0:n<0
   ·refine (Ze ZiC (ZvP b n) (Z4 (dT h0))).mono fun e z hz=> ?_;obtain⟨rfl,⟨g',e1⟩,e2⟩:=hz;exact⟨.inr rfl,by rw[e1,e2];rfl⟩
   ·refine (Ze ZiC (ZvQ b n) (Za (dT (l1.resolve_left h0)) (Z4 (dF h0)))).mono fun e z hz=> ?_;obtain⟨rfl,⟨g',e1⟩,e2⟩:=hz;exact⟨.inr rfl,by rw[e1,e2];rfl⟩
  have:=ZB (T:=Zr prog Zf ZaM hcQ) func76 ZqD hr0 (vals:=[.int .u32 b,.int .i64 n]) (fun v hv=>by
   simp only[List.mem_cons,List.not_mem_nil,or_false] at hv;rcases hv with rfl | rfl<;>rfl) (v:= .tuple #[Zp,Zcu 1]) (by rfl) r E (s:=fun i=>i) (fun i x hx _=>by have:i<0:=Hp.blk_lt hx;omega)
  exact this
 ·rename_i b n s2;cases hg;have l2':ZyW b n=true:=hl _ mH;have l2:=oT l2';have l3:=oT (hl _ (mN _ mS));obtain⟨b',rfl⟩:=Int.eq_ofNat_of_zero_le l2.1;obtain⟨n',rfl⟩:=Int.eq_ofNat_of_zero_le l2.2.2.1;obtain⟨w1,w2,w3⟩:=ZmV l2';have r:=(ZmU (b:=b') (n:=n') w1 w2 w3).mono (P':=fun e z=>(e=none∨e=some none)∧ZV prog f76 z.1 z.2.1=some (.tuple #[Zp,.nilIface])) fun e z hz=>⟨hz.1,by
   rcases hz.2 with ⟨q,_⟩ | ⟨_,q⟩
   ·exact absurd (show b'=0∧1≤n' by omega) q
   ·exact q⟩
  have:=ZB (T:=Zr prog Zf ZaM hcQ) func76 ZmR hr0 (vals:=[.int .u32 (b':Int),.int .i64 (n':Int)]) (fun v hv=>by
   simp only[List.mem_cons,List.not_mem_nil,or_false] at hv;rcases hv with rfl | rfl<;>rfl) (v:= .tuple #[Zp,.nilIface]) (by rfl) r E (s:=fun i=>i) (fun i x hx _=>by have:i<0:=Hp.blk_lt hx;omega)
  exact this
 ·rename_i b n V s2;cases hg;have l1:=oT (hl _ mH);have l2':ZyW b n=true:=hl _ (mN _ mH);have l2:=oT l2';have l3:=of_decide_eq_false (hl _ (mN _ (mN _ mS)));obtain⟨b',rfl⟩:=Int.eq_ofNat_of_zero_le l2.1;obtain⟨n',rfl⟩:=Int.eq_ofNat_of_zero_le l2.2.2.1;obtain⟨w1,w2,w3⟩:=ZmV l2';rw[tN,tN] at l1;rw[← l1];have ep:pMi (b':Int) (n':Int)=pM b' n':=by unfold pMi;rw[tN,tN]
  rw[ep];have r:=(ZmU (b:=b') (n:=n') w1 w2 w3).mono (P':=fun e z=>(e=none∨e=some none)∧∃ k,ZV prog f76 z.1 z.2.1=some (.tuple #[s32 k (pM b' n') (b'^n'),.nilIface])∧∃ r,z.2.1.blk? k=some (wU (dg (pM b' n') ((b'^n':Nat):Int))++r,tU)) fun e z hz=>⟨hz.1,by
   rcases hz.2 with ⟨_,q⟩ | ⟨q,_⟩
   ·exact q
   ·exact absurd q (by omega)⟩
  exact ZcW (T:=Zr prog Zf ZaM hcQ) func76 ZmR hr0 (vals:=[.int .u32 (b':Int),.int .i64 (n':Int)]) (fun v hv=>by
   simp only[List.mem_cons,List.not_mem_nil,or_false] at hv;rcases hv with rfl | rfl<;>rfl) (v:=fun k=> .tuple #[s32 k (pM b' n') (b'^n'),.nilIface]) (Zbb _) (by kernel_rfl) r (fun k=>by simp [oc,oc2,oc1,s32,sl]) E (s:=fun i=>i) (fun i x hx _=>by have:i<0:=Hp.blk_lt hx;omega) (fun k=>by simp [rn,rn2,rn1,s32,sl])
 ·cases hg
end Go.Proofs.YtjlponbdflkbjaaGreatDoor.Na
namespace Go.Rn
def upR (m:Int) (neg odd:Bool) (c:Int):Bool:=
 if c=0 then false else if m=2 then false else if m=3 then !neg else if m=4 then neg else if m=1 then decide (2≤c) else decide (2<c) || (decide (c=2) && odd)
def zD (r P:Nat):Int:=if r=0 then 0 else if 2*r<P then 1 else if 2*r=P then 2 else 3
def odd (q:Nat):Bool:=decide (q % 2=1)
def rq (m:Int) (neg:Bool) (T k:Nat):Nat:=T/2^k+(if upR m neg (odd (T/2^k)) (zD (T % 2^k) (2^k))=true then 1 else 0)
def toQ (m:Int) (neg:Bool) (T:Nat) (E e:Int):Nat:=if e≤E then T*2^(E-e).toNat else rq m neg T (e-E).toNat
def toL (T:Nat) (E e:Int):Bool:=if e≤E then false else decide (T % 2^(e-E).toNat≠0)
def lgN (T:Nat) (E:Int):Int:=E+(bitLen T:Nat)-1
def z5 (T:Nat) (E:Int):Int:=if lgN T E-52≤ -1074 then -1074 else lgN T E-52
def p0 (m:Int) (neg:Bool) (T:Nat) (E:Int):Int:=(z5 T E+1074)*4503599627370496+(toQ m neg T E (z5 T E):Nat)
def ZdB (m:Int) (neg:Bool) (T:Nat) (E:Int):Bool:=if lgN T E= -1023 then decide (toQ m neg T E (-1075)<9007199254740992) else decide (lgN T E< -1022)
def bey (m:Int) (neg:Bool):Int:=if upR m neg true 3=true then 9218868437227405312 else 9218868437227405311
def rnP (m:Int) (neg:Bool) (T:Nat) (E:Int):Int:=if T=0 then 0 else if 9218868437227405312≤p0 m neg T E then bey m neg else p0 m neg T E
def rnF (m:Int) (neg:Bool) (T:Nat) (E:Int):Int:=if T=0 then 0 else if 9218868437227405312≤p0 m neg T E then 20 else if toL T E (z5 T E)=true then (if ZdB m neg T E=true then 24 else 16) else 0
theorem Za1 {T:Nat}(h:T≠0):1≤bitLen T:=by unfold bitLen;rw[if_neg h];omega
theorem Zbp {T k:Nat}(h0:2^k≤T) (h1:T<2^(k+1)):bitLen T=k+1:=by
 have hp:0<2^k:=Nat.pow_pos (by omega);obtain⟨a1,a2⟩:=bitLen_spec T;have a2:=a2 (by omega);have a3:=Za1 (show T≠0 by omega);rcases Nat.lt_or_ge (bitLen T) (k+1) with h | h
 ·have:=Nat.pow_le_pow_right (show 0<2 by omega) (show bitLen T≤k by omega);omega
 ·rcases Nat.lt_or_ge (k+1) (bitLen T) with h' | h'
  ·have:=Nat.pow_le_pow_right (show 0<2 by omega) (show k+1≤bitLen T-1 by omega);omega
  ·omega
theorem len_le {T k:Nat}(h:T<2^k):bitLen T≤k:=by
 by_cases h0:T=0
 ·subst h0;simp [bitLen]
 ·have a2:=(bitLen_spec T).2 h0;rcases Nat.lt_or_ge k (bitLen T) with h' | h'
  ·have:=Nat.pow_le_pow_right (show 0<2 by omega) (show k≤bitLen T-1 by omega);omega
  ·exact h'
theorem Zc9 {T k:Nat}(h:2^k≤T):k+1≤bitLen T:=by
 have a1:=(bitLen_spec T).1;rcases Nat.lt_or_ge (bitLen T) (k+1) with h' | h'
 ·have:=Nat.pow_le_pow_right (show 0<2 by omega) (show bitLen T≤k by omega);omega
 ·exact h'
theorem ZvY {T:Nat}(h:T≠0) (j:Nat):bitLen (T*2^j)=bitLen T+j:=by
 have hp:0<2^j:=Nat.pow_pos (by omega);obtain⟨a1,a2⟩:=bitLen_spec T;have a2:=a2 h;have a3:=Za1 h;have e:bitLen T+j=(bitLen T-1+j)+1:=by omega
 rw[e];apply Zbp
 ·rw[Nat.pow_add];exact Nat.mul_le_mul_right _ a2
 ·rw[show bitLen T-1+j+1=bitLen T+j by omega,Nat.pow_add];exact Nat.mul_lt_mul_of_pos_right a1 hp
theorem ZqM (m:Int) (neg o:Bool):upR m neg o 0=false:=by simp [upR]
theorem ZjX (P:Nat):zD 0 P=0:=by simp [zD]
theorem Zg5 {r P:Nat}:zD r P=0↔r=0:=by
 unfold zD;split
 ·simp_all
 ·rename_i h;simp only[h,iff_false];split<;>(try split)<;>omega
theorem Zhz (r P j:Nat):zD (r*2^j) (P*2^j)=zD r P:=by
 have hp:0<2^j:=Nat.pow_pos (by omega);unfold zD;have e0:(r*2^j=0)↔r=0:=by rw[Nat.mul_eq_zero];omega
 have e1:(2*(r*2^j)<P*2^j)↔2*r<P:=by rw[← Nat.mul_assoc];exact Nat.mul_lt_mul_right hp
 have e2:(2*(r*2^j)=P*2^j)↔2*r=P:=by rw[← Nat.mul_assoc];exact Nat.mul_left_inj (by omega)
 simp only[e0,e1,e2]
theorem Z1q (m:Int) (neg:Bool) (T k:Nat):T/2^k≤rq m neg T k∧rq m neg T k≤T/2^k+1:=by unfold rq;split<;>omega
theorem ZfF {m:Int}{neg:Bool}{T k:Nat}(h:T % 2^k=0):rq m neg T k=T/2^k:=by
 unfold rq;rw[h,ZjX,ZqM];simp
theorem ZqN (m:Int) (neg:Bool) (T k j:Nat):rq m neg (T*2^j) (k+j)=rq m neg T k:=by
 have hp:0<2^j:=Nat.pow_pos (by omega);unfold rq;rw[Nat.pow_add,Nat.mul_div_mul_right _ _ hp,Nat.mul_mod_mul_right,Zhz]
theorem Zg6 (m:Int) (neg:Bool) (T j:Nat) (E e:Int):toQ m neg (T*2^j) (E-j) e=toQ m neg T E e:=by
 unfold toQ;by_cases h1:e≤E
 ·rw[if_pos h1];by_cases h2:e≤E-j
  ·rw[if_pos h2,Nat.mul_assoc,← Nat.pow_add];congr 2;omega
  ·rw[if_neg h2];have ej:j=(E-e).toNat+(e-(E-j)).toNat:=by omega
   have e1:T*2^j=T*2^(E-e).toNat*2^(e-(E-j)).toNat:=by rw[Nat.mul_assoc,← Nat.pow_add,← ej]
   have hp:0<2^(e-(E-j)).toNat:=Nat.pow_pos (by omega);rw[e1,ZfF (Nat.mul_mod_left _ _),Nat.mul_div_cancel _ hp]
 ·rw[if_neg h1,if_neg (by omega),show (e-(E-j)).toNat=(e-E).toNat+j by omega,ZqN]
theorem ZmW (T j:Nat) (E e:Int):toL (T*2^j) (E-j) e=toL T E e:=by
 have hp:0<2^j:=Nat.pow_pos (by omega);unfold toL;by_cases h1:e≤E
 ·rw[if_pos h1];by_cases h2:e≤E-j
  ·rw[if_pos h2]
  ·rw[if_neg h2];have ej:j=(E-e).toNat+(e-(E-j)).toNat:=by omega
   have e1:T*2^j=T*2^(E-e).toNat*2^(e-(E-j)).toNat:=by rw[Nat.mul_assoc,← Nat.pow_add,← ej]
   rw[e1,Nat.mul_mod_left];simp
 ·rw[if_neg h1,if_neg (by omega),show (e-(E-j)).toNat=(e-E).toNat+j by omega,Nat.pow_add,Nat.mul_mod_mul_right];congr 1;rw[ne_eq,ne_eq,Nat.mul_eq_zero];simp only[eq_iff_iff];omega
theorem Zg7 {T:Nat}(h:T≠0) (j:Nat) (E:Int):lgN (T*2^j) (E-j)=lgN T E:=by
 unfold lgN;rw[ZvY h];omega
theorem Zfb {T:Nat}(h:T≠0) (j:Nat) (E:Int):z5 (T*2^j) (E-j)=z5 T E:=by unfold z5;rw[Zg7 h]
theorem ZiE {T:Nat}(h:T≠0) (m:Int) (neg:Bool) (j:Nat) (E:Int):p0 m neg (T*2^j) (E-j)=p0 m neg T E:=by unfold p0;rw[Zfb h,Zg6]
theorem ZjY {T:Nat}(h:T≠0) (m:Int) (neg:Bool) (j:Nat) (E:Int):ZdB m neg (T*2^j) (E-j)=ZdB m neg T E:=by unfold ZdB;rw[Zg7 h,Zg6]
theorem ZiF {T:Nat}(j:Nat):(T*2^j=0)=(T=0):=by
 have hp:0<2^j:=Nat.pow_pos (by omega);rw[Nat.mul_eq_zero];simp only[eq_iff_iff];omega
theorem ZaG (m:Int) (neg:Bool) (T j:Nat) (E:Int):rnP m neg (T*2^j) (E-j)=rnP m neg T E:=by
 unfold rnP;simp only[ZiF];by_cases h:T=0
 ·rw[if_pos h,if_pos h]
 ·rw[if_neg h,if_neg h,ZiE h]
theorem ZaH (m:Int) (neg:Bool) (T j:Nat) (E:Int):rnF m neg (T*2^j) (E-j)=rnF m neg T E:=by
 unfold rnF;simp only[ZiF];by_cases h:T=0
 ·rw[if_pos h,if_pos h]
 ·rw[if_neg h,if_neg h,ZiE h,ZjY h,Zfb h,ZmW]
end Go.Rn
namespace Go.Rn
open Go.Pt
theorem ZiG {m:Int}{neg:Bool}{T:Nat}{E e:Int}{n:Nat}(h:(bitLen T:Int)+(E-e)≤n):toQ m neg T E e≤2^n:=by
 have a1:=(bitLen_spec T).1;unfold toQ;by_cases he:e≤E
 ·rw[if_pos he];have hp:0<2^(E-e).toNat:=Nat.pow_pos (by omega);have:=Nat.mul_le_mul_right (2^(E-e).toNat) (Nat.le_of_lt a1);rw[← Nat.pow_add] at this;have h2:=Nat.pow_le_pow_right (show 0<2 by omega) (show bitLen T+(E-e).toNat≤n by omega);omega
 ·rw[if_neg he];have b:=(Z1q m neg T (e-E).toNat).2;have h2:=Nat.pow_le_pow_right (show 0<2 by omega) (show bitLen T≤n+(e-E).toNat by omega);have h3:T/2^(e-E).toNat<2^n:=by
   apply Nat.div_lt_of_lt_mul;rw[Nat.pow_add,Nat.mul_comm] at h2;omega
  omega
theorem Ztc {m:Int}{neg:Bool}{T:Nat}{E e:Int}{n:Nat}(hT:T≠0) (h:(n:Int)+1≤(bitLen T:Int)+(E-e)):2^n≤toQ m neg T E e:=by
 have a2:=(bitLen_spec T).2 hT;have a3:=Za1 hT;unfold toQ;by_cases he:e≤E
 ·rw[if_pos he];have:=Nat.mul_le_mul_right (2^(E-e).toNat) a2;rw[← Nat.pow_add] at this;have h2:=Nat.pow_le_pow_right (show 0<2 by omega) (show n≤bitLen T-1+(E-e).toNat by omega);omega
 ·rw[if_neg he];have b:=(Z1q m neg T (e-E).toNat).1;have hp:0<2^(e-E).toNat:=Nat.pow_pos (by omega);have h2:=Nat.pow_le_pow_right (show 0<2 by omega) (show n+(e-E).toNat≤bitLen T-1 by omega);have h3:2^n≤T/2^(e-E).toNat:=by
   rw[Nat.le_div_iff_mul_le hp,← Nat.pow_add];omega
  omega
theorem Zg8 (m:Int) (neg:Bool) (T:Nat) (E:Int):toQ m neg T E (z5 T E)≤9007199254740992:=by
 refine ZiG (n:=53) ?_;unfold z5 lgN;split<;>omega
theorem ZmX {m:Int}{neg:Bool}{T:Nat}{E:Int}(hT:T≠0) (h: -1074≤lgN T E-52):4503599627370496≤toQ m neg T E (z5 T E):=by
 refine Ztc (n:=52) hT ?_;unfold z5 lgN at*;split<;>omega
theorem ZfG (T:Nat) (E:Int): -1074≤z5 T E:=by unfold z5;split<;>omega
theorem ZmY (m:Int) (neg:Bool) (T:Nat) (E:Int):0≤p0 m neg T E:=by
 have:=ZfG T E;unfold p0;omega
theorem Z1r (m:Int) (neg:Bool):bey m neg=9218868437227405312∨bey m neg=9218868437227405311:=by unfold bey;split<;>simp
end Go.Rn
namespace Go.Rn
open Go.Nt
theorem ZbK (V:Nat):bl V=bitLen V:=by
 by_cases h:V=0
 ·subst h;rw[Zdf];rfl
 ·have h1:=(bitLen_spec V).1;have h2:=(bitLen_spec V).2 h;have h3:=Za1 h;obtain⟨k,hk⟩:∃ k,bitLen V=k+1:=⟨bitLen V-1,by omega⟩;rw[hk] at h1 h2 ⊢;exact ZlV h2 h1
theorem ZqO (T k:Nat):(T/2^k % 2=1)↔2^k≤T % 2^(k+1):=by
 have hp:0<2^k:=Nat.pow_pos (by omega);have e:T % 2^(k+1)=T % 2^k+2^k*(T/2^k % 2):=by rw[Nat.pow_succ,Nat.mod_mul]
 have hl:=Nat.mod_lt T hp;have h2:T/2^k % 2=0∨T/2^k % 2=1:=by omega
 rw[e];clear e;generalize T % 2^k=r at hl;generalize T/2^k % 2=b at h2;generalize 2^k=P at hl hp;rcases h2 with h | h
 ·subst h;simp only[Nat.mul_zero,Nat.add_zero];omega
 ·subst h;rw[Nat.mul_one];exact⟨fun _=>Nat.le_add_left _ _,fun _=>rfl⟩
theorem Z1s {r k:Nat}(hr:r≠0) (M:Int) (neg o:Bool):
  upR M neg o (zD r (2^(k+1)))=(if M=2 then false else if M=3 then !neg else if M=4 then neg else if M=1 then decide (2^k≤r) else (decide (2^k≤r) && (!decide (r=2^k) || o))):=by
 have hc:¬ zD r (2^(k+1))=0:=by rw[Zg5];exact hr
 unfold upR;rw[if_neg hc];by_cases h2:M=2
 ·rw[if_pos h2,if_pos h2]
 ·rw[if_neg h2,if_neg h2];by_cases h3:M=3
  ·rw[if_pos h3,if_pos h3]
  ·rw[if_neg h3,if_neg h3];by_cases h4:M=4
   ·rw[if_pos h4,if_pos h4]
   ·rw[if_neg h4,if_neg h4];have e:2^(k+1)=2*2^k:=by rw[Nat.pow_succ,Nat.mul_comm]
    unfold zD;rw[if_neg hr,e];generalize 2^k=P;by_cases a:2*r<2*P
    ·rw[if_pos a];have:decide (P≤r)=false:=dF (by omega);rw[this];split<;>simp
    ·rw[if_neg a];by_cases b:2*r=2*P
     ·rw[if_pos b];have h1:decide (P≤r)=true:=dT (by omega);have h5:decide (r=P)=true:=dT (by omega);rw[h1,h5];split<;>simp
     ·rw[if_neg b];have h1:decide (P≤r)=true:=dT (by omega);have h5:decide (r=P)=false:=dF (by omega);rw[h1,h5];split<;>simp
end Go.Rn
namespace Go.Wd
structure W4 where
 a:Int
 b:Int
 c:Int
 d:Int
def W4.val (x:W4):Int:=x.a+18446744073709551616*x.b+340282366920938463463374607431768211456*x.c+6277101735386680763835789423207666416102355444464034512896*x.d
abbrev W4.ok (x:W4):Prop:=(0≤x.a∧x.a<18446744073709551616)∧(0≤x.b∧x.b<18446744073709551616)∧(0≤x.c∧x.c<18446744073709551616)∧(0≤x.d∧x.d<18446744073709551616)
def W4.of (n:Int):W4:=
 ⟨n % 18446744073709551616,n/18446744073709551616 % 18446744073709551616,n/340282366920938463463374607431768211456 % 18446744073709551616,n/6277101735386680763835789423207666416102355444464034512896 % 18446744073709551616⟩
def eqW (x y:W4):Bool:=x.a==y.a && (x.b==y.b && (x.c==y.c && (x.d==y.d && true)))
theorem ZfH {x y:W4}:eqW x y=true↔x=y:=by
 cases x;cases y;simp [eqW]
theorem W4.ext' {x y:W4}(h1:x.a=y.a) (h2:x.b=y.b) (h3:x.c=y.c) (h4:x.d=y.d):x=y:=by
 cases x;cases y;simp_all
theorem W4.ok_of (n:Int):(W4.of n).ok:=by
 unfold W4.of W4.ok;refine⟨⟨?_,?_⟩,⟨?_,?_⟩,⟨?_,?_⟩,⟨?_,?_⟩⟩<;>dsimp only<;>omega
theorem W4.of_val {x:W4}(h:x.ok):W4.of x.val=x:=by
 obtain⟨a,b,c,d⟩:=x;unfold W4.ok at h;unfold W4.val W4.of;dsimp only at*;refine W4.ext' ?_ ?_ ?_ ?_<;>dsimp only<;>omega
theorem W4.val_of (n:Int):(W4.of n).val=n % 115792089237316195423570985008687907853269984665640564039457584007913129639936:=by
 unfold W4.val W4.of;dsimp only;omega
theorem W4.val_bd {x:W4}(h:x.ok):0≤x.val∧x.val<115792089237316195423570985008687907853269984665640564039457584007913129639936:=by
 obtain⟨a,b,c,d⟩:=x;unfold W4.ok at h;unfold W4.val;dsimp only at*;omega
theorem W4.val_inj {x y:W4}(hx:x.ok) (hy:y.ok) (h:x.val=y.val):x=y:=by
 rw[← W4.of_val hx,← W4.of_val hy,h]
def ad (x y c:Int):Int:=(x+y+c) % 18446744073709551616
def ca (x y c:Int):Int:=(x+y+c)/18446744073709551616
def Z60 (x y:W4):W4:=⟨ad x.a y.a 0,ad x.b y.b (ca x.a y.a 0),ad x.c y.c (ca x.b y.b (ca x.a y.a 0)),ad x.d y.d (ca x.c y.c (ca x.b y.b (ca x.a y.a 0)))⟩
def Z61 (x y:W4):Int:=ca x.d y.d (ca x.c y.c (ca x.b y.b (ca x.a y.a 0)))
theorem ZvZ {x y:W4}(hx:x.ok) (hy:y.ok):Z60 x y=W4.of (x.val+y.val):=by
 obtain⟨a,b,c,d⟩:=x;obtain⟨a',b',c',d'⟩:=y;unfold W4.ok at hx hy;unfold W4.val W4.of Z60 ad ca;dsimp only at*;refine W4.ext' ?_ ?_ ?_ ?_<;>dsimp only<;>omega
theorem Zwa {x y:W4}(hx:x.ok) (hy:y.ok):(Z61 x y !=0)=decide (115792089237316195423570985008687907853269984665640564039457584007913129639936≤x.val+y.val):=by
 obtain⟨a,b,c,d⟩:=x;obtain⟨a',b',c',d'⟩:=y;unfold W4.ok at hx hy;unfold W4.val Z61 ca;dsimp only at*;rw[Bool.eq_iff_iff];simp only[bne_iff_ne,ne_eq,decide_eq_true_eq];omega
end Go.Wd
namespace Go.Wd
open Go.IntKind
theorem ZbX (n:Int):u64.wrap n=n % 18446744073709551616:=by simp [IntKind.wrap,IntKind.bits,IntKind.signed]
theorem ZbL {n:Int}(h0: -9223372036854775808≤n) (h1:n≤9223372036854775807):i64.wrap n=n:=by
 simp [IntKind.wrap,IntKind.bits,IntKind.signed];omega
def prt (n:Int):Int:=u64.wrap (n.tmod 64)
def rem (n:Int):Int:=u64.wrap (64-prt n)
def up (a n:Int):Int:=u64.wrap (a*2^min (prt n).toNat 64)
def dn (a n:Int):Int:=a.fdiv (2^min (rem n).toNat 64)
def dn' (a n:Int):Int:=a.fdiv (2^min (prt n).toNat 64)
def up' (a n:Int):Int:=u64.wrap (a*2^min (rem n).toNat 64)
def orr (x y:Int):Int:=u64.wrap ((BitVec.ofInt 64 x ||| BitVec.ofInt 64 y).toNat:Nat)
theorem ZmZ {n:Int}(h:0≤n):prt n=n % 64:=by
 unfold prt;rw[Int.tmod_eq_emod_of_nonneg h,ZbX];omega
theorem Ztd {n:Int}(h:0≤n):rem n=64-n % 64:=by
 unfold rem;rw[ZmZ h,ZbX];omega
structure Parts (n q r:Int):Prop where
 q1:1≤q
 r1:1<r
 qr:q*r=18446744073709551616
 eq:q=2^(n % 64).toNat
 er:r=2^(64-n % 64).toNat
theorem zX (n:Int):Parts n (2^(n % 64).toNat) (2^(64-n % 64).toNat):=by
 have h1:0≤n % 64:=by omega
 have h2:n % 64<64:=by omega
 refine⟨?_,?_,?_,rfl,rfl⟩
 ·have:(0:Int)<2^(n % 64).toNat:=Int.pow_pos (by omega);omega
 ·obtain⟨k,hk⟩:∃ k,(64-n % 64).toNat=k+1:=⟨(64-n % 64).toNat-1,by omega⟩;rw[hk,Int.pow_succ];have:(0:Int)<2^k:=Int.pow_pos (by omega);omega
 ·rw[← Int.pow_add];have:(n % 64).toNat+(64-n % 64).toNat=64:=by omega
  rw[this];rfl
theorem Zna {n:Int}(h:0≤n):min (prt n).toNat 64=(n % 64).toNat:=by rw[ZmZ h];omega
theorem Znb {n:Int}(h:0≤n):min (rem n).toNat 64=(64-n % 64).toNat:=by rw[Ztd h];omega
structure Cut (a q r hi lo:Int):Prop where
 sum:a=r*hi+lo
 lo0:0≤lo
 lo1:lo<r
 hi0:0≤hi
 hi1:hi<q
theorem cut {a n q r:Int}(P:Parts n q r) (h0:0≤a) (h1:a<18446744073709551616):Cut a q r (a/r) (a % r):=by
 have hr:0<r:=by have:=P.r1;omega
 refine⟨(Int.mul_ediv_add_emod a r).symm,Int.emod_nonneg _ (by omega),Int.emod_lt_of_pos _ hr,Int.ediv_nonneg h0 (by omega),?_⟩;apply Int.ediv_lt_of_lt_mul hr;rw[P.qr];exact h1
theorem ZcA (x y c:Int) (hc:0≤c) (h:x≤y):c*x≤c*y:=Int.mul_le_mul_of_nonneg_left h hc
theorem Z1t {a n q r hi lo:Int}(hn:0≤n) (P:Parts n q r) (C:Cut a q r hi lo):up a n=q*lo∧0≤q*lo∧q*lo+q≤18446744073709551616∧a*q=18446744073709551616*hi+q*lo:=by
 have e:a*q=18446744073709551616*hi+q*lo:=by
  rw[C.sum,Int.add_mul,← P.qr,Int.mul_comm r hi,Int.mul_assoc hi r q,Int.mul_comm r q,Int.mul_comm hi (q*r),Int.mul_comm lo q]
 have b0:0≤q*lo:=Int.mul_nonneg (by have:=P.q1;omega) C.lo0;have b1:q*lo+q≤18446744073709551616:=by
  have h:=ZcA (lo+1) r q (by have:=P.q1;omega) (by have:=C.lo1;omega);rw[P.qr,Int.mul_add,Int.mul_one] at h;exact h
 refine⟨?_,b0,b1,e⟩;unfold up;rw[Zna hn,← P.eq,ZbX,e];have:=P.q1;omega
theorem Z62 {a n q r hi lo:Int}(hn:0≤n) (P:Parts n q r) (C:Cut a q r hi lo):dn a n=hi:=by
 unfold dn;rw[Znb hn,← P.er,Int.fdiv_eq_ediv_of_nonneg _ (by have:=P.r1;omega),C.sum,Int.mul_comm r hi,Int.add_comm,Int.add_mul_ediv_right _ _ (by have:=P.r1;omega),
  Int.ediv_eq_zero_of_lt C.lo0 C.lo1,Int.zero_add]
theorem Zte {k:Nat}{x y:Int}(hx:∃ z:Int,x=2^k*z) (x0:0≤x) (y0:0≤y) (y1:y<2^k) (hs:x+y<18446744073709551616):orr x y=x+y:=by
 obtain⟨z,hz⟩:=hx;have hp:(0:Int)<2^k:=Int.pow_pos (by omega);have z0:0≤z:=by
  rcases Int.lt_or_le z 0 with h | h
  ·have:=ZcA z (-1) (2^k) (by omega) (by omega);omega
  ·exact h
 obtain⟨Z,rfl⟩:=Int.eq_ofNat_of_zero_le z0;obtain⟨Y,rfl⟩:=Int.eq_ofNat_of_zero_le y0;have ex:x=((2^k*Z:Nat):Int):=by rw[hz];simp
 have hY:Y<2^k:=by
  have:((Y:Nat):Int)<((2^k:Nat):Int):=by simpa using y1
  exact Int.ofNat_lt.1 this
 have hX:2^k*Z+Y<18446744073709551616:=by
  rw[ex] at hs;have:(((2^k*Z+Y:Nat)):Int)<18446744073709551616:=by simpa using hs
  omega
 unfold orr;rw[ex];have e1:∀ m:Nat,m<18446744073709551616→(BitVec.ofInt 64 (m:Int)).toNat=m:=fun m hm=>by
  simp;omega
 rw[BitVec.toNat_or,e1 _ (by omega),e1 _ (by omega),← Nat.two_pow_add_eq_or_of_lt hY,ZbX];have:(((2^k*Z+Y:Nat)):Int)=((2^k*Z:Nat):Int)+(Y:Int):=by simp
 rw[this];omega
theorem W4.of_eq {x:W4}{N k:Int}(hx:x.ok) (h:N=x.val+115792089237316195423570985008687907853269984665640564039457584007913129639936*k):W4.of N=x:=by
 obtain⟨a,b,c,d⟩:=x;unfold W4.ok at hx;unfold W4.val at h;unfold W4.of;dsimp only at*;subst h;refine W4.ext' ?_ ?_ ?_ ?_<;>dsimp only<;>omega
def Z1u (x:W4) (n:Int):W4:=⟨up x.a n,orr (up x.b n) (dn x.a n),orr (up x.c n) (dn x.b n),orr (up x.d n) (dn x.c n)⟩
def Z1v (x:W4) (n:Int):W4:=⟨0,up x.a n,orr (up x.b n) (dn x.a n),orr (up x.c n) (dn x.b n)⟩
def Z1w (x:W4) (n:Int):W4:=⟨0,0,up x.a n,orr (up x.b n) (dn x.a n)⟩
def Z1x (x:W4) (n:Int):W4:=⟨0,0,0,up x.a n⟩
theorem ZbM {n:Int}(hn:0≤n) {a b:Int}(ha:0≤a∧a<18446744073709551616) (hb:0≤b∧b<18446744073709551616):
  orr (up b n) (dn a n)=up b n+dn a n∧(0≤up a n∧up a n<18446744073709551616)∧(0≤up b n+dn a n∧up b n+dn a n<18446744073709551616)∧
   a*2^(n % 64).toNat=18446744073709551616*dn a n+up a n:=by
 have P:=zX n;have Ca:=cut P ha.1 ha.2;have Cb:=cut P hb.1 hb.2;obtain⟨e1,b1,b2,b3⟩:=Z1t hn P Ca;obtain⟨f1,c1,c2,c3⟩:=Z1t hn P Cb;have e2:=Z62 hn P Ca;have q1:=P.q1;have h0:=Ca.hi0;have h1:=Ca.hi1;refine⟨?_,⟨by omega,by omega⟩,⟨by omega,by omega⟩,by rw[e1,e2];exact b3⟩;rw[f1,e2];exact Zte (k:=(n % 64).toNat) ⟨_,rfl⟩ c1 h0 h1 (by omega)
theorem z64:(0:Int)≤0∧(0:Int)<18446744073709551616:=⟨by omega,by omega⟩
theorem Zaz (n:Int) (h0:0≤n) (j:Nat) (hj:n/64=j):(2:Int)^n.toNat=2^(64*j)*2^(n % 64).toNat:=by
 rw[← Int.pow_add];congr 1;omega
theorem ZbN (x:W4) (q:Int):x.val*q=x.a*q+18446744073709551616*(x.b*q)+340282366920938463463374607431768211456*(x.c*q)+6277101735386680763835789423207666416102355444464034512896*(x.d*q):=by
 unfold W4.val;rw[Int.add_mul,Int.add_mul,Int.add_mul,Int.mul_assoc,Int.mul_assoc,Int.mul_assoc]
theorem Zwb {x:W4}(hx:x.ok) {n:Int}(hn:0≤n) (hj:n/64=0):Z1u x n=W4.of (x.val*2^n.toNat):=by
 obtain⟨h1,h2,h3,h4⟩:=hx;obtain⟨o1,u1,s1,m1⟩:=ZbM hn h1 h2;obtain⟨o2,u2,s2,m2⟩:=ZbM hn h2 h3;obtain⟨o3,u3,s3,m3⟩:=ZbM hn h3 h4;obtain⟨_,u4,_,m4⟩:=ZbM hn h4 h1;have e:=Zaz n hn 0 hj;have one:(2:Int)^(64*0)=1:=rfl;rw[one,Int.one_mul] at e;refine (W4.of_eq (x:=Z1u x n) (k:=dn x.d n) ?_ ?_).symm
 ·unfold Z1u;rw[o1,o2,o3];exact⟨u1,s1,s2,s3⟩
 ·rw[e,ZbN,m1,m2,m3,m4];unfold Z1u W4.val;dsimp only;rw[o1,o2,o3];omega
theorem Zwc {x:W4}(hx:x.ok) {n:Int}(hn:0≤n) (hj:n/64=1):Z1v x n=W4.of (x.val*2^n.toNat):=by
 obtain⟨h1,h2,h3,h4⟩:=hx;obtain⟨o1,u1,s1,m1⟩:=ZbM hn h1 h2;obtain⟨o2,u2,s2,m2⟩:=ZbM hn h2 h3;obtain⟨_,u3,_,m3⟩:=ZbM hn h3 h4;obtain⟨_,u4,_,m4⟩:=ZbM hn h4 h1;have e:=Zaz n hn 1 hj;have one:(2:Int)^(64*1)=18446744073709551616:=rfl;rw[one] at e;refine (W4.of_eq (x:=Z1v x n) (k:=dn x.c n+(18446744073709551616*dn x.d n+up x.d n)) ?_ ?_).symm
 ·unfold Z1v;rw[o1,o2];exact⟨z64,u1,s1,s2⟩
 ·rw[e,Int.mul_left_comm,ZbN,m1,m2,m3,m4];unfold Z1v W4.val;dsimp only;rw[o1,o2];omega
theorem Zwd {x:W4}(hx:x.ok) {n:Int}(hn:0≤n) (hj:n/64=2):Z1w x n=W4.of (x.val*2^n.toNat):=by
 obtain⟨h1,h2,h3,h4⟩:=hx;obtain⟨o1,u1,s1,m1⟩:=ZbM hn h1 h2;obtain⟨_,u2,_,m2⟩:=ZbM hn h2 h3;have e:=Zaz n hn 2 hj;have one:(2:Int)^(64*2)=340282366920938463463374607431768211456:=rfl;rw[one] at e;refine (W4.of_eq (x:=Z1w x n) (k:=dn x.b n+x.c*2^(n % 64).toNat+18446744073709551616*(x.d*2^(n % 64).toNat)) ?_ ?_).symm
 ·unfold Z1w;rw[o1];exact⟨z64,z64,u1,s1⟩
 ·rw[e,Int.mul_left_comm,ZbN,m1,m2];unfold Z1w W4.val;dsimp only;rw[o1];omega
theorem Zwe {x:W4}(hx:x.ok) {n:Int}(hn:0≤n) (hj:n/64=3):Z1x x n=W4.of (x.val*2^n.toNat):=by
 obtain⟨h1,h2,h3,h4⟩:=hx;obtain⟨_,u1,_,m1⟩:=ZbM hn h1 h2;have e:=Zaz n hn 3 hj;have one:(2:Int)^(64*3)=6277101735386680763835789423207666416102355444464034512896:=rfl;rw[one] at e;refine (W4.of_eq (x:=Z1x x n) (k:=dn x.a n+x.b*2^(n % 64).toNat+18446744073709551616*(x.c*2^(n % 64).toNat)+340282366920938463463374607431768211456*(x.d*2^(n % 64).toNat)) ?_ ?_).symm
 ·unfold Z1x;exact⟨z64,z64,z64,u1⟩
 ·rw[e,Int.mul_left_comm,ZbN,m1];unfold Z1x W4.val;dsimp only;omega
theorem ZqP (x y:Int):orr x y=orr y x:=by unfold orr;rw[BitVec.or_comm]
structure Cut' (a q r hi lo:Int):Prop where
 sum:a=q*hi+lo
 lo0:0≤lo
 lo1:lo<q
 hi0:0≤hi
 hi1:hi<r
theorem Z63 {a n q r:Int}(P:Parts n q r) (h0:0≤a) (h1:a<18446744073709551616):Cut' a q r (a/q) (a % q):=by
 have hq:0<q:=by have:=P.q1;omega
 refine⟨(Int.mul_ediv_add_emod a q).symm,Int.emod_nonneg _ (by omega),Int.emod_lt_of_pos _ hq,Int.ediv_nonneg h0 (by omega),?_⟩;apply Int.ediv_lt_of_lt_mul hq;rw[Int.mul_comm,P.qr];exact h1
theorem Ztf {a n q r:Int}(hn:0≤n) (P:Parts n q r):dn' a n=a/q:=by
 unfold dn';rw[Zna hn,← P.eq,Int.fdiv_eq_ediv_of_nonneg _ (by have:=P.q1;omega)]
theorem Ztg {a n q r hi lo:Int}(hn:0≤n) (P:Parts n q r) (C:Cut' a q r hi lo):up' a n=r*lo∧0≤r*lo∧r*lo+r≤18446744073709551616:=by
 have e:a*r=18446744073709551616*hi+r*lo:=by
  rw[C.sum,Int.add_mul,← P.qr,Int.mul_right_comm q hi r,Int.mul_comm lo r]
 have b0:0≤r*lo:=Int.mul_nonneg (by have:=P.r1;omega) C.lo0;have b1:r*lo+r≤18446744073709551616:=by
  have h:=ZcA (lo+1) q r (by have:=P.r1;omega) (by have:=C.lo1;omega);rw[Int.mul_comm r q,P.qr,Int.mul_add,Int.mul_one] at h;exact h
 refine⟨?_,b0,b1⟩;unfold up';rw[Znb hn,← P.er,ZbX,e];have:=P.r1;omega
theorem zY {n:Int}(hn:0≤n) {a b:Int}(ha:0≤a∧a<18446744073709551616) (hb:0≤b∧b<18446744073709551616):
  ∃ lb:Int,orr (dn' a n) (up' b n)=dn' a n+up' b n∧(0≤dn' a n∧dn' a n<18446744073709551616)∧(0≤dn' a n+up' b n∧dn' a n+up' b n<18446744073709551616)∧
   2^(n % 64).toNat*up' b n=18446744073709551616*lb∧0≤lb∧lb<2^(n % 64).toNat∧b=2^(n % 64).toNat*dn' b n+lb:=by
 have P:=zX n;have Ca:=Z63 P ha.1 ha.2;have Cb:=Z63 P hb.1 hb.2;obtain⟨f1,c1,c2⟩:=Ztg hn P Cb;have e1:=Ztf (a:=a) hn P;have e2:=Ztf (a:=b) hn P;have h0:=Ca.hi0;have h1:=Ca.hi1;have r1:=P.r1;refine⟨b % 2^(n % 64).toNat,?_,⟨by omega,by omega⟩,⟨by omega,by omega⟩,?_,Cb.lo0,Cb.lo1,by rw[e2];exact Cb.sum⟩
 ·rw[ZqP,f1,e1,Int.add_comm];exact Zte (k:=(64-n % 64).toNat) ⟨_,rfl⟩ c1 h0 h1 (by omega)
 ·rw[f1,← Int.mul_assoc,P.qr]
theorem ZqQ {n:Int}(hn:0≤n) {b:Int}(hb:0≤b∧b<18446744073709551616):up' b n % 2=0:=by
 have P:=zX n;obtain⟨f1,_,_⟩:=Ztg hn P (Z63 P hb.1 hb.2);obtain⟨k,hk⟩:∃ k,(64-n % 64).toNat=k+1:=⟨(64-n % 64).toNat-1,by omega⟩;rw[f1,hk,Int.pow_succ,Int.mul_comm _ 2,Int.mul_assoc];omega
def Zwf (x:W4) (n:Int):W4:=⟨orr (dn' x.a n) (up' x.b n),orr (dn' x.b n) (up' x.c n),orr (dn' x.c n) (up' x.d n),dn' x.d n⟩
def Zwg (x:W4) (n:Int):W4:=⟨orr (dn' x.b n) (up' x.c n),orr (dn' x.c n) (up' x.d n),dn' x.d n,0⟩
def Zwh (x:W4) (n:Int):W4:=⟨orr (dn' x.c n) (up' x.d n),dn' x.d n,0,0⟩
def Zwi (x:W4) (n:Int):W4:=⟨dn' x.d n,0,0,0⟩
theorem Zwj {N q m l:Int}(h:N=q*m+l) (h0:0≤l) (h1:l<q):N/q=m:=by
 rw[h,Int.add_comm,Int.add_mul_ediv_left _ _ (by omega),Int.ediv_eq_zero_of_lt h0 h1,Int.zero_add]
theorem ZfI {x m:W4}{n:Int}{q l:Int}(hm:m.ok) (h:x.val=q*m.val+l) (h0:0≤l) (h1:l<q) (hq:q=2^n.toNat):m=W4.of (x.val/2^n.toNat):=by
 rw[← hq,Zwj h h0 h1,W4.of_val hm]
theorem Znc {x:W4}(hx:x.ok) {n:Int}(hn:0≤n) (hj:n/64=0):Zwf x n=W4.of (x.val/2^n.toNat)∧(Zwf x n).ok:=by
 obtain⟨h1,h2,h3,h4⟩:=hx;obtain⟨l1,o1,d1,s1,m1,l10,l11,e1⟩:=zY hn h1 h2;obtain⟨l2,o2,d2,s2,m2,l20,l21,e2⟩:=zY hn h2 h3;obtain⟨l3,o3,d3,s3,m3,l30,l31,e3⟩:=zY hn h3 h4;obtain⟨l4,_,d4,_,_,l40,l41,e4⟩:=zY hn h4 h1;have e:=Zaz n hn 0 hj;have one:(2:Int)^(64*0)=1:=rfl;rw[one,Int.one_mul] at e;have hok:(Zwf x n).ok:=by unfold Zwf;rw[o1,o2,o3];exact⟨s1,s2,s3,d4⟩
 refine⟨ZfI (q:=2^(n % 64).toNat) (l:=l4) hok ?_ l40 l41 e.symm,hok⟩;rw[Int.mul_comm,ZbN];unfold Zwf W4.val;dsimp only;rw[o1,o2,o3];generalize (2:Int)^(n % 64).toNat=q at*;simp only[Int.mul_comm _ q,Int.mul_add];omega
theorem Znd {x:W4}(hx:x.ok) {n:Int}(hn:0≤n) (hj:n/64=1):Zwg x n=W4.of (x.val/2^n.toNat)∧(Zwg x n).ok:=by
 obtain⟨h1,h2,h3,h4⟩:=hx;obtain⟨l2,o2,d2,s2,m2,l20,l21,e2⟩:=zY hn h2 h3;obtain⟨l3,o3,d3,s3,m3,l30,l31,e3⟩:=zY hn h3 h4;obtain⟨l4,_,d4,_,_,_,_,_⟩:=zY hn h4 h1;obtain⟨l5,_,_,_,_,l50,l51,e5⟩:=zY hn h1 h2;have e:=Zaz n hn 1 hj;have one:(2:Int)^(64*1)=18446744073709551616:=rfl;rw[one] at e;have hok:(Zwg x n).ok:=by unfold Zwg;rw[o2,o3];exact⟨s2,s3,d4,z64⟩
 refine⟨ZfI (q:=18446744073709551616*2^(n % 64).toNat) (l:=x.a+18446744073709551616*l5) hok ?_ (by omega) (by omega) e.symm,hok⟩;rw[Int.mul_assoc,Int.mul_comm (2^(n % 64).toNat),ZbN];unfold Zwg W4.val;dsimp only;rw[o2,o3];generalize (2:Int)^(n % 64).toNat=q at*;simp only[Int.mul_comm _ q,Int.mul_add];omega
theorem Zne {x:W4}(hx:x.ok) {n:Int}(hn:0≤n) (hj:n/64=2):Zwh x n=W4.of (x.val/2^n.toNat)∧(Zwh x n).ok:=by
 obtain⟨h1,h2,h3,h4⟩:=hx;obtain⟨l3,o3,d3,s3,m3,l30,l31,e3⟩:=zY hn h3 h4;obtain⟨l4,_,d4,_,_,_,_,_⟩:=zY hn h4 h1;obtain⟨l5,_,_,_,_,l50,l51,e5⟩:=zY hn h1 h3;have e:=Zaz n hn 2 hj;have one:(2:Int)^(64*2)=340282366920938463463374607431768211456:=rfl;rw[one] at e;have hok:(Zwh x n).ok:=by unfold Zwh;rw[o3];exact⟨s3,d4,z64,z64⟩
 refine⟨ZfI (q:=340282366920938463463374607431768211456*2^(n % 64).toNat) (l:=x.a+18446744073709551616*x.b+340282366920938463463374607431768211456*l5) hok ?_ (by omega) (by omega) e.symm,hok⟩;rw[Int.mul_assoc,Int.mul_comm (2^(n % 64).toNat),ZbN];unfold Zwh W4.val;dsimp only;rw[o3];generalize (2:Int)^(n % 64).toNat=q at*;simp only[Int.mul_comm _ q,Int.mul_add];omega
theorem Znf {x:W4}(hx:x.ok) {n:Int}(hn:0≤n) (hj:n/64=3):Zwi x n=W4.of (x.val/2^n.toNat)∧(Zwi x n).ok:=by
 obtain⟨h1,h2,h3,h4⟩:=hx;obtain⟨l4,_,d4,_,_,_,_,_⟩:=zY hn h4 h1;obtain⟨l5,_,_,_,_,l50,l51,e5⟩:=zY hn h1 h4;have e:=Zaz n hn 3 hj;have one:(2:Int)^(64*3)=6277101735386680763835789423207666416102355444464034512896:=rfl;rw[one] at e;have hok:(Zwi x n).ok:=by unfold Zwi;exact⟨d4,z64,z64,z64⟩
 refine⟨ZfI (q:=6277101735386680763835789423207666416102355444464034512896*2^(n % 64).toNat) (l:=x.a+18446744073709551616*x.b+340282366920938463463374607431768211456*x.c+6277101735386680763835789423207666416102355444464034512896*l5) hok ?_ (by omega) (by omega) e.symm,hok⟩;rw[Int.mul_assoc,Int.mul_comm (2^(n % 64).toNat),ZbN];unfold Zwi W4.val;dsimp only;generalize (2:Int)^(n % 64).toNat=q at*;simp only[Int.mul_comm _ q];omega
end Go.Wd
namespace Go.Wd
open Go.Rn
def W4.nat (x:W4):Nat:=x.val.toNat
theorem W4.nat_val {x:W4}(h:x.ok):x.val=(x.nat:Int):=by
 have:=(W4.val_bd h).1;unfold W4.nat;omega
theorem W4.nat_lt {x:W4}(h:x.ok):x.nat<2^256:=by
 have:=W4.val_bd h;have e:(2:Nat)^256=115792089237316195423570985008687907853269984665640564039457584007913129639936:=rfl;unfold W4.nat;omega
def ofN (n:Nat):W4:=W4.of (n:Int)
theorem zO (n:Nat):(ofN n).ok:=W4.ok_of _
theorem Zbq {n:Nat}(h:n<2^256):(ofN n).nat=n:=by
 have e:(2:Nat)^256=115792089237316195423570985008687907853269984665640564039457584007913129639936:=rfl;unfold W4.nat ofN;rw[W4.val_of];omega
theorem ZdC {x:W4}(h:x.ok):ofN x.nat=x:=by
 unfold ofN;rw[← W4.nat_val h,W4.of_val h]
theorem Z1y (n:Int):W4.of (n % 115792089237316195423570985008687907853269984665640564039457584007913129639936)=W4.of n:=by
 unfold W4.of;refine W4.ext' ?_ ?_ ?_ ?_<;>dsimp only<;>omega
theorem Zh0 (n:Nat):ofN (n % 2^256)=ofN n:=by
 have e:(2:Nat)^256=115792089237316195423570985008687907853269984665640564039457584007913129639936:=rfl;unfold ofN;rw[← Z1y (n:Int),e];congr 1
theorem ZcB:ofN 0=⟨0,0,0,0⟩:=by rfl
theorem Zwk {n k:Nat}(h:256≤k):ofN (n*2^k)=⟨0,0,0,0⟩:=by
 rw[← Zh0];have:n*2^k % 2^256=0:=by
  obtain⟨j,rfl⟩:∃ j,k=j+256:=⟨k-256,by omega⟩;rw[Nat.pow_add,← Nat.mul_assoc,Nat.mul_mod_left]
 rw[this,ZcB]
theorem Zh1 (n k:Nat):ofN (n % 2^256*k)=ofN (n*k):=by
 rw[← Zh0 (n % 2^256*k),← Zh0 (n*k),Nat.mod_mul_mod]
theorem Zg9 {n k:Nat}(h:n<2^256) (hk:256≤k):n/2^k=0:=by
 have:=Nat.pow_le_pow_right (show 0<2 by omega) hk;exact Nat.div_eq_of_lt (by omega)
theorem Zng {n k:Nat}(h:n<2^256) (hk:256≤k):n % 2^k=n:=by
 have:=Nat.pow_le_pow_right (show 0<2 by omega) hk;exact Nat.mod_eq_of_lt (by omega)
theorem cast_pow (k:Nat):((2:Int)^k)=((2^k:Nat):Int):=by simp
def tw (x:W4) (b:Bool):Nat:=2*x.nat+(match b with | true=>1 | false=>0)
theorem Znh (x:W4) (b:Bool) (d:Nat):tw x b/2^(d+1)=x.nat/2^d:=by
 unfold tw;rw[Nat.pow_succ,Nat.mul_comm (2^d) 2,← Nat.div_div_eq_div_mul];congr 1;cases b<;>simp only<;>omega
theorem ZgA (x:W4) (b:Bool) (d:Nat):tw x b % 2^(d+1)=2*(x.nat % 2^d)+(match b with | true=>1 | false=>0):=by
 unfold tw;rw[Nat.pow_succ,Nat.mul_comm (2^d) 2,Nat.mod_mul];have e:(2*x.nat+(match b with | true=>1 | false=>0))/2=x.nat:=by cases b<;>simp only<;>omega
 rw[e];cases b<;>simp only<;>omega
theorem Zni {x:W4}{b:Bool}(h:x.ok):tw x b=0↔(eqW x ⟨0,0,0,0⟩ && !b)=true:=by
 have e:x.nat=0↔x=⟨0,0,0,0⟩:=by
  constructor
  ·intro h0;rw[← ZdC h,h0,ZcB]
  ·intro h0;rw[h0];rfl
 rw[Bool.and_eq_true,ZfH,← e];unfold tw;cases b<;>simp<;>omega
theorem Zwl {x:W4}{d:Nat}(h:x.nat % 2^d=0):zD (tw x false % 2^(d+1)) (2^(d+1))=0:=by
 rw[ZgA,h];simp [zD]
theorem Zwm {x:W4}:zD (tw x true % 2^(0+1)) (2^(0+1))=2:=by
 rw[ZgA];simp [zD,Nat.mod_one]
theorem ZfJ (V j:Nat):V % 2^(j+1)=V % 2^j+2^j*(V/2^j % 2):=by rw[Nat.pow_succ,Nat.mod_mul]
theorem ZiH {x:W4}{b:Bool}{j:Nat}(h:x.nat/2^j % 2=0) (h0:x.nat % 2^(j+1)≠0∨b=true):zD (tw x b % 2^(j+1+1)) (2^(j+1+1))=1:=by
 have hp:0<2^j:=Nat.pow_pos (by omega);have hm:=ZfJ x.nat j;rw[h,Nat.mul_zero,Nat.add_zero] at hm;have hl:=Nat.mod_lt x.nat hp;rw[hm] at h0;rw[ZgA,hm,Nat.pow_succ,Nat.pow_succ];unfold zD;cases b
 ·simp only[Bool.false_eq_true,or_false] at*;rw[if_neg (by omega),if_pos (by omega)]
 ·simp only;rw[if_neg (by omega),if_pos (by omega)]
theorem ZfK {x:W4}{b:Bool}{j:Nat}(h:x.nat/2^j % 2=1) (h0:x.nat % 2^j≠0∨b=true):zD (tw x b % 2^(j+1+1)) (2^(j+1+1))=3:=by
 have hp:0<2^j:=Nat.pow_pos (by omega);have hm:=ZfJ x.nat j;rw[h,Nat.mul_one] at hm;rw[ZgA,hm,Nat.pow_succ,Nat.pow_succ];unfold zD;cases b
 ·simp only[Bool.false_eq_true,or_false] at*;rw[if_neg (by omega),if_neg (by omega),if_neg (by omega)]
 ·simp only;rw[if_neg (by omega),if_neg (by omega),if_neg (by omega)]
theorem Zwn {x:W4}{j:Nat}(h:x.nat/2^j % 2=1) (h0:x.nat % 2^j=0):zD (tw x false % 2^(j+1+1)) (2^(j+1+1))=2:=by
 have hp:0<2^j:=Nat.pow_pos (by omega);have hm:=ZfJ x.nat j;rw[h,h0,Nat.mul_one] at hm;rw[ZgA,hm,Nat.pow_succ,Nat.pow_succ];unfold zD;simp only;rw[if_neg (by omega),if_neg (by omega),if_pos (by omega)]
theorem ZqR {x:W4}(hx:x.ok) {j:Nat}(h:x.nat/2^j % 2=1):eqW x (ofN ((2*(x.nat/2^(j+1))+1)*2^j))=decide (x.nat % 2^j=0):=by
 have hl:=W4.nat_lt hx;have hm:=ZfJ x.nat j;rw[h,Nat.mul_one] at hm;have hd:=Nat.div_add_mod x.nat (2^(j+1));have e:(2*(x.nat/2^(j+1))+1)*2^j=x.nat-x.nat % 2^j:=by
  rw[Nat.pow_succ] at hd hm ⊢;rw[Nat.add_mul,Nat.one_mul,Nat.mul_comm 2,Nat.mul_assoc,Nat.mul_comm 2,Nat.mul_comm];omega
 rw[e,Bool.eq_iff_iff,ZfH,decide_eq_true_eq];have hle:x.nat % 2^j≤x.nat:=Nat.mod_le _ _;constructor
 ·intro hh;have:=congrArg W4.nat hh;rw[Zbq (by omega)] at this;omega
 ·intro hh;rw[hh,Nat.sub_zero,ZdC hx]
end Go.Wd
namespace Go.Rn
open Go.Nt Go.Wd
theorem Zwo {k:Nat}(hk:300≤k):4*2^256≤2^k:=by
 obtain⟨j,rfl⟩:∃ j,k=256+(2+j):=⟨k-258,by omega⟩;have hj:0<2^j:=Nat.pow_pos (by omega);rw[Nat.pow_add,Nat.pow_add,Nat.mul_comm 4];refine Nat.mul_le_mul_left _ ?_;show 4≤4*2^j;omega
def mN (m:Int):Int:=if m<0 then 0 else if m>4 then 0 else m
theorem Zth (m:Int) (neg o:Bool) (c:Int):upR (mN m) neg o c=upR m neg o c:=by
 unfold mN;by_cases h0:m<0
 ·rw[if_pos h0];unfold upR;rw[if_neg (show ¬ m=2 by omega),if_neg (show ¬ m=3 by omega),if_neg (show ¬ m=4 by omega),if_neg (show ¬ m=1 by omega)];simp
 ·rw[if_neg h0];by_cases h4:m>4
  ·rw[if_pos h4];unfold upR;rw[if_neg (show ¬ m=2 by omega),if_neg (show ¬ m=3 by omega),if_neg (show ¬ m=4 by omega),if_neg (show ¬ m=1 by omega)];simp
  ·rw[if_neg h4]
theorem Zti (m:Int) (neg:Bool) (T:Nat) (E e:Int):toQ (mN m) neg T E e=toQ m neg T E e:=by
 unfold toQ rq;simp only[Zth]
def rT (x:W4) (b:Bool):Nat:=match b with | true=>2*x.nat+1 | false=>x.nat
def jB (b:Bool):Int:=match b with | true=>1 | false=>0
theorem Z64 {x:W4}(hx:x.ok) (b:Bool):rT x b<2*2^256:=by
 have:=W4.nat_lt hx;unfold rT;cases b<;>simp only<;>omega
theorem Z1z (m:Int) (neg:Bool) (T:Nat) (E:Int):rnP (mN m) neg T E=rnP m neg T E:=by
 unfold rnP p0 bey;simp only[Zti,Zth]
theorem Z10 (m:Int) (neg:Bool) (T:Nat) (E:Int):rnF (mN m) neg T E=rnF m neg T E:=by
 unfold rnF p0 ZdB;simp only[Zti]
theorem Z11 {m:Int}{neg:Bool}{T:Nat}{E:Int}(hT:T≠0) (h:1024≤lgN T E):9218868437227405312≤p0 m neg T E:=by
 have hq:=ZmX (m:=m) (neg:=neg) (T:=T) (E:=E) hT (by omega);have hl:z5 T E=lgN T E-52:=by unfold z5;rw[if_neg (by omega)]
 unfold p0;rw[hl] at hq ⊢;omega
theorem Zen {m:Int}{neg:Bool}{T:Nat}{E:Int}(hT:T≠0) (h:1024≤lgN T E):rnP m neg T E=bey m neg∧rnF m neg T E=20:=by
 have:=Z11 (m:=m) (neg:=neg) hT h;unfold rnP rnF;rw[if_neg hT,if_neg hT,if_pos this,if_pos this];exact⟨rfl,rfl⟩
theorem Zdt {m:Int}{neg:Bool}{T:Nat}{E:Int}(hT:T≠0) (h:lgN T E≤ -1100):rnP m neg T E=(if upR m neg false 1=true then 1 else 0)∧rnF m neg T E=24:=by
 have hb:=(bitLen_spec T).1;have hl:z5 T E= -1074:=by unfold z5;rw[if_pos (by omega)]
 have hE:¬ (-1074:Int)≤E:=by unfold lgN at h;have:=Za1 hT;omega
 have hk:bitLen T+2≤(-1074-E).toNat:=by unfold lgN at h;omega
 have hp:=Nat.pow_le_pow_right (show 0<2 by omega) hk;have e4:2^(bitLen T+2)=4*2^bitLen T:=by rw[Nat.pow_add,Nat.mul_comm]
 have hlt:2*T<2^(-1074-E).toNat:=by omega
 have hd:T/2^(-1074-E).toNat=0:=Nat.div_eq_of_lt (by omega);have hm:T % 2^(-1074-E).toNat=T:=Nat.mod_eq_of_lt (by omega);have hr:zD T (2^(-1074-E).toNat)=1:=by unfold zD;rw[if_neg hT,if_pos hlt]
 have hq:toQ m neg T E (-1074)=if upR m neg false 1=true then 1 else 0:=by
  unfold toQ rq;rw[if_neg hE,hd,hm,hr];have ho:odd 0=false:=rfl;rw[ho];simp
 have hL:toL T E (-1074)=true:=by unfold toL;rw[if_neg hE,hm];exact dT hT
 have hti:ZdB m neg T E=true:=by unfold ZdB;rw[if_neg (by omega)];exact dT (by omega)
 have hp0:p0 m neg T E=if upR m neg false 1=true then 1 else 0:=by
  unfold p0;rw[hl,hq];split<;>rfl
 unfold rnP rnF;rw[if_neg hT,if_neg hT,hp0,hl,hL,hti];split<;>simp
theorem Zfc {m:Int}{neg:Bool}{x:W4}(hx:x.ok) (b:Bool) {C D:Int}(h:(C=D)∨(1700≤C∧1700≤D)∨(C≤ -1700∧D≤ -1700)):rnP m neg (tw x b) (C-1)=rnP m neg (rT x b) (D-jB b)∧rnF m neg (tw x b) (C-1)=rnF m neg (rT x b) (D-jB b):=by
 have hj:0≤jB b∧jB b≤1:=by cases b<;>simp [jB]
 have e:rnP m neg (tw x b) (C-1)=rnP m neg (rT x b) (C-jB b)∧rnF m neg (tw x b) (C-1)=rnF m neg (rT x b) (C-jB b):=by
  cases b with
  | true=>exact⟨rfl,rfl⟩
  | false=>
   have e1:tw x false=x.nat*2^1:=by unfold tw;simp [Nat.mul_comm]
   rw[e1];simp only[rT,jB,Int.sub_zero];exact⟨ZaG m neg x.nat 1 C,ZaH m neg x.nat 1 C⟩
 rw[e.1,e.2];rcases h with h | h | h
 ·rw[h];exact⟨rfl,rfl⟩
 ·by_cases hT:rT x b=0
  ·rw[hT];unfold rnP rnF;simp
  ·have hl:=Za1 hT;obtain⟨a1,a2⟩:=Zen (m:=m) (neg:=neg) (E:=C-jB b) hT (by unfold lgN;omega);obtain⟨b1,b2⟩:=Zen (m:=m) (neg:=neg) (E:=D-jB b) hT (by unfold lgN;omega);rw[a1,a2,b1,b2];exact⟨rfl,rfl⟩
 ·by_cases hT:rT x b=0
  ·rw[hT];unfold rnP rnF;simp
  ·have hlt:=Z64 hx b;obtain⟨k,hk⟩:∃ k:Nat,k=300:=⟨300,rfl⟩;have hfp:=Zwo (show 300≤k by omega);have hl:bitLen (rT x b)≤k:=len_le (by omega);obtain⟨a1,a2⟩:=Zdt (m:=m) (neg:=neg) (E:=C-jB b) hT (by unfold lgN;omega);obtain⟨b1,b2⟩:=Zdt (m:=m) (neg:=neg) (E:=D-jB b) hT (by unfold lgN;omega);rw[a1,a2,b1,b2];exact⟨rfl,rfl⟩
theorem Z12 {q:Nat}(h0:4503599627370496≤q) (h1:q≤9007199254740992):bitLen q=if q=9007199254740992 then 54 else 53:=by
 split
 ·rename_i h;rw[h];exact Zbp (k:=53) (by decide) (by decide)
 ·exact Zbp (k:=52) h0 (show q<2^53 by have:(2:Nat)^53=9007199254740992:=rfl;omega)
theorem ZqS {m:Int}{neg:Bool}{T:Nat}{E:Int}(hT:T≠0):decide ((bitLen (toQ m neg T E (lgN T E-52)):Int)+(lgN T E+1)-53≤ -1022)=ZdB m neg T E:=by
 have h0:4503599627370496≤toQ m neg T E (lgN T E-52):=Ztc (n:=52) hT (by unfold lgN;omega);have h1:toQ m neg T E (lgN T E-52)≤9007199254740992:=ZiG (n:=53) (by unfold lgN;omega);have hl:=Z12 h0 h1;unfold ZdB;by_cases he:lgN T E= -1023
 ·have e:lgN T E-52= -1075:=by omega
  rw[e] at h0 h1 hl ⊢;rw[if_pos he,hl];congr 1;simp only[eq_iff_iff];split<;>omega
 ·rw[if_neg he,hl];congr 1;simp only[eq_iff_iff];split<;>omega
theorem ZqT {m:Int}{neg:Bool}{T:Nat}{E:Int}(hT:T≠0):decide ((bitLen (toQ m neg T E (z5 T E)):Int)+z5 T E>1024)=decide (9218868437227405312≤p0 m neg T E):=by
 have h1:=Zg8 m neg T E;have hle:=ZfG T E;congr 1;simp only[eq_iff_iff];unfold p0;by_cases hn:z5 T E= -1074
 ·have hl:bitLen (toQ m neg T E (z5 T E))≤54:=by
   have:toQ m neg T E (z5 T E)<2^54:=by have e:(2:Nat)^54=18014398509481984:=rfl;omega
   exact len_le this
  omega
 ·have h0:=ZmX (m:=m) (neg:=neg) (E:=E) hT (by unfold z5 at hn;split at hn<;>omega);have hl:=Z12 h0 h1;rw[hl];split<;>omega
def stk (A d:Nat):Nat:=2*(A/2^d)+(if A % 2^d=0 then 0 else 1)
theorem Zwp (A d:Nat):(if A % 2^d=0 then 0 else 1)≤1:=by split<;>omega
theorem Znj (A d j:Nat):stk A d/2^(j+1)=A/2^(d+j):=by
 have e:stk A d/2=A/2^d:=by unfold stk;split<;>omega
 rw[Nat.pow_succ,Nat.mul_comm,← Nat.div_div_eq_div_mul,e,Nat.div_div_eq_div_mul,Nat.pow_add]
theorem Znk (A d j:Nat):stk A d % 2^(j+1)=2*(A/2^d % 2^j)+(if A % 2^d=0 then 0 else 1):=by
 rw[Nat.pow_succ,Nat.mul_comm,Nat.mod_mul];have e:stk A d/2=A/2^d:=by unfold stk;split<;>omega
 rw[e];unfold stk;split<;>omega
theorem Znl (A d j:Nat):A % 2^(d+j)=A % 2^d+2^d*(A/2^d % 2^j):=by rw[Nat.pow_add,Nat.mod_mul]
theorem ZqU (A d j:Nat):stk A d % 2^(j+1)=0↔A % 2^(d+j)=0:=by
 have hD:0<2^d:=Nat.pow_pos (by omega);rw[Znk,Znl];generalize A/2^d % 2^j=r;constructor
 ·intro h;have h1:A % 2^d=0:=by
   by_cases h0:A % 2^d=0
   ·exact h0
   ·rw[if_neg h0] at h;omega
  rw[if_pos h1] at h;have:r=0:=by omega
  rw[h1,this];simp
 ·intro h;have h1:A % 2^d=0:=by omega
  rw[if_pos h1];have h2:2^d*r=0:=by omega
  rcases Nat.mul_eq_zero.1 h2 with h3 | h3
  ·omega
  ·rw[h3]
theorem Znm {r r' D Q s:Nat}(hD:r'<D) (hQ:0<Q) (hb:s≤1) (hs:s=0↔r'=0):zD (2*r+s) (4*Q)=zD (r'+D*r) (2*(D*Q)):=by
 have hDr:r≤D*r:=Nat.le_mul_of_pos_left r (by omega);unfold zD;by_cases h0:r'+D*r=0
 ·have:r'=0:=by omega
  have:=hs.2 this;rw[if_pos h0,if_pos (by omega)]
 ·have hz:¬ 2*r+s=0:=by
   intro h;apply h0;have h1:r=0:=by omega
   have h2:=hs.1 (by omega);rw[h1,h2];rfl
  rw[if_neg h0,if_neg hz];rcases Nat.lt_trichotomy r Q with h | h | h
  ·have h1:D*r+D≤D*Q:=by rw[← Nat.mul_succ];exact Nat.mul_le_mul_left D h
   rw[if_pos (by omega),if_pos (by omega)]
  ·subst h;by_cases hs0:s=0
   ·have:=hs.1 hs0;rw[if_neg (by omega),if_pos (by omega),if_neg (by omega),if_pos (by omega)]
   ·have:r'≠0:=fun h=>hs0 (hs.2 h);rw[if_neg (by omega),if_neg (by omega),if_neg (by omega),if_neg (by omega)]
  ·have h1:D*Q+D≤D*r:=by rw[← Nat.mul_succ];exact Nat.mul_le_mul_left D h
   rw[if_neg (by omega),if_neg (by omega),if_neg (by omega),if_neg (by omega)]
theorem ZqV (A d j:Nat):zD (stk A d % 2^(j+2)) (2^(j+2))=zD (A % 2^(d+(j+1))) (2^(d+(j+1))):=by
 have hD:0<2^d:=Nat.pow_pos (by omega);have hQ:0<2^j:=Nat.pow_pos (by omega);have eP:2^(j+1+1)=4*2^j:=by rw[Nat.pow_succ,Nat.pow_succ];omega
 have eP2:2^(d+(j+1))=2*(2^d*2^j):=by rw[Nat.pow_add,Nat.pow_succ,← Nat.mul_assoc];omega
 have e1:=Znk A d (j+1);have e2:=Znl A d (j+1);rw[show j+2=(j+1)+1 by omega,e1,e2,eP,eP2];exact Znm (Nat.mod_lt A hD) hQ (Zwp A d) (by split<;>omega)
theorem Z13 (m:Int) (neg:Bool) (A d j:Nat):rq m neg (stk A d) (j+2)=rq m neg A (d+(j+1)):=by
 unfold rq;rw[ZqV,show j+2=(j+1)+1 by omega,Znj]
theorem Zh2 (m:Int) (neg:Bool) (A d:Nat) {F e:Int}(h:F+d+1≤e):toQ m neg (stk A d) (F+d-1) e=toQ m neg A F e:=by
 obtain⟨j,hj⟩:∃ j:Nat,e=F+d+1+j:=⟨(e-(F+d+1)).toNat,by omega⟩;unfold toQ;rw[if_neg (by omega),if_neg (by omega),show (e-(F+d-1)).toNat=j+2 by omega,show (e-F).toNat=d+(j+1) by omega,Z13]
theorem Znn (A d:Nat) {F e:Int}(h:F+d+1≤e):toL (stk A d) (F+d-1) e=toL A F e:=by
 obtain⟨j,hj⟩:∃ j:Nat,e=F+d+1+j:=⟨(e-(F+d+1)).toNat,by omega⟩;unfold toL;rw[if_neg (by omega),if_neg (by omega),show (e-(F+d-1)).toNat=j+1+1 by omega,show (e-F).toNat=d+(j+1) by omega];congr 1;simp only[ne_eq,eq_iff_iff];exact not_congr (ZqU A d (j+1))
theorem Zno {A d:Nat}(h:A/2^d≠0):bitLen (stk A d)=bitLen (A/2^d)+1:=by
 have e:stk A d/2^1=A/2^d:=by
  have:=Znj A d 0;simpa using this
 rw[bitLen_shift (stk A d) 1 (by rw[e];exact h),e];omega
theorem Znp {A d:Nat}{F:Int}(h:A/2^d≠0):lgN (stk A d) (F+d-1)=lgN A F:=by
 have e:=bitLen_shift A d h;unfold lgN;rw[Zno h];omega
theorem ZcC {m:Int}{neg:Bool}{A d:Nat}{F:Int}(h:A % 2^d=0∨54≤bitLen (A/2^d)):rnP m neg (stk A d) (F+d-1)=rnP m neg A F∧rnF m neg (stk A d) (F+d-1)=rnF m neg A F:=by
 by_cases h0:A % 2^d=0
 ·have e1:stk A d=A/2^d*2^1:=by unfold stk;rw[if_pos h0];omega
  have e2:A=A/2^d*2^d:=by
   have:=Nat.div_add_mod A (2^d);rw[h0,Nat.mul_comm] at this;omega
  have p1:=ZaG m neg (A/2^d) 1 (F+d);have p2:=ZaG m neg (A/2^d) d (F+d);have f1:=ZaH m neg (A/2^d) 1 (F+d);have f2:=ZaH m neg (A/2^d) d (F+d);rw[show F+(d:Int)-((1:Nat):Int)=F+d-1 by omega,← e1] at p1 f1;rw[show F+(d:Int)-(d:Int)=F by omega,← e2] at p2 f2;exact⟨by rw[p1,p2],by rw[f1,f2]⟩
 ·have hb:54≤bitLen (A/2^d):=by exact h.resolve_left h0
  have hq:A/2^d≠0:=fun h=>by rw[h] at hb;simp [bitLen] at hb
  have hA:A≠0:=fun h=>h0 (by rw[h];simp);have hs:stk A d≠0:=by unfold stk;omega
  have hl:=Znp (F:=F) hq;have hlw:z5 (stk A d) (F+d-1)=z5 A F:=by unfold z5;rw[hl]
  have hlg:lgN A F=F+d+bitLen (A/2^d)-1:=by rw[← hl];unfold lgN;rw[Zno hq];omega
  have hge:F+d+1≤z5 A F:=by unfold z5;split<;>omega
  have hp:p0 m neg (stk A d) (F+d-1)=p0 m neg A F:=by unfold p0;rw[hlw,Zh2 m neg A d hge]
  have ht:ZdB m neg (stk A d) (F+d-1)=ZdB m neg A F:=by
   unfold ZdB;rw[hl];by_cases hn:lgN A F= -1023
   ·rw[if_pos hn,if_pos hn,Zh2 m neg A d (by omega)]
   ·rw[if_neg hn,if_neg hn]
  unfold rnP rnF;rw[if_neg hs,if_neg hA,if_neg hs,if_neg hA,hp,hlw,Znn A d hge,ht];exact⟨rfl,rfl⟩
end Go.Rn
namespace Go.Rn
open Go.Nt Go.Wd Go.Pt
def dvK (A B k:Nat):Nat:=2*(A*2^k/B)+(if A*2^k % B=0 then 0 else 1)
theorem Znq {A B:Nat}(k:Nat):A*2^k % (B*2^k)=A % B*2^k:=Nat.mul_mod_mul_right (2^k) A B
theorem Znr (A B k j:Nat):dvK A B (k+j)/2^(j+1)=A*2^k/B:=by
 have hp:0<2^j:=Nat.pow_pos (by omega);have e1:A*2^(k+j)/B/2^j=A*2^k/B:=by
  rw[Nat.div_div_eq_div_mul,Nat.pow_add,← Nat.mul_assoc,Nat.mul_div_mul_right _ _ hp]
 have:dvK A B (k+j)/2=A*2^(k+j)/B:=by unfold dvK;split<;>omega
 rw[Nat.pow_succ,Nat.mul_comm (2^j) 2,← Nat.div_div_eq_div_mul,this,e1]
theorem Zns (A B k j:Nat):stk (dvK A B (k+j)) (j+1)=dvK A B k:=by
 have hp:0<2^j:=Nat.pow_pos (by omega);have e1:A*2^(k+j)/B/2^j=A*2^k/B:=by
  rw[Nat.div_div_eq_div_mul,Nat.pow_add,← Nat.mul_assoc,Nat.mul_div_mul_right _ _ hp]
 have e2:=Znr A B k j;have e3:dvK A B (k+j) % 2^(j+1)=0↔A*2^k % B=0:=by
  have d2:dvK A B (k+j)/2=A*2^(k+j)/B:=by unfold dvK;split<;>omega
  have m2:dvK A B (k+j) % 2=if A*2^(k+j) % B=0 then 0 else 1:=by unfold dvK;split<;>omega
  rw[Nat.pow_succ,Nat.mul_comm (2^j) 2,Nat.mod_mul,d2,m2];have e:A*2^(k+j) % B+B*(A*2^(k+j)/B % 2^j)=A*2^k % B*2^j:=by
   rw[← Nat.mod_mul,← Znq,Nat.mul_assoc,← Nat.pow_add]
  constructor
  ·intro h;have h1:A*2^(k+j) % B=0:=by
    by_cases h0:A*2^(k+j) % B=0
    ·exact h0
    ·rw[if_neg h0] at h;omega
   have h2:A*2^(k+j)/B % 2^j=0:=by omega
   rw[h1,h2,Nat.mul_zero] at e;rcases Nat.mul_eq_zero.1 e.symm with h3 | h3
   ·exact h3
   ·omega
  ·intro h;rw[h,Nat.zero_mul] at e;have h1:A*2^(k+j) % B=0:=by omega
   rw[if_pos h1];rcases Nat.mul_eq_zero.1 (show B*(A*2^(k+j)/B % 2^j)=0 by omega) with h2 | h2
   ·rw[h2,Nat.div_zero,Nat.zero_mod]
   ·rw[h2]
 unfold stk;rw[e2];by_cases h:A*2^k % B=0
 ·rw[if_pos (e3.2 h)];unfold dvK;rw[if_pos h]
 ·rw[if_neg (fun h'=>h (e3.1 h'))];unfold dvK;rw[if_neg h]
end Go.Rn
