/-
  PwG, NumZ, NumY, NumT, Num, Num2, NumX4, NumR4, NumR5, NumF, NumQu, NumRd, NumRe
-/
import Derived.Test.YtjlponbdflkbjaaGreatDoorG12
import Derived.SizedLaws
namespace Go.Proofs.YtjlponbdflkbjaaGreatDoor.Na
open Go.Proofs.Tryz
open Go.IntKind
open Go.KRun Go.Nt
set_option maxRecDepth 100000
set_option linter.unusedVariables false
theorem Znf {b n:Nat}(hb:b<4294967296) (hn:n≤2000) (hw:∀ j,j≤n→nw (b^j)≤400):RunsW (Zr prog Zf ZaL hcQ) (za (qP f76) (.seq (.seq (qI f76) (.block 0 (.loop (qL f76)))) (qE f76))) ([.int .u32 (b:Int),.int .i64 (n:Int)]++List.replicate 54 undef,⟨0,[]⟩,[]) fun e z=>(e=none∨e=some none)∧((¬ (b=0∧1≤n)∧∃ k,ZV prog f76 z.1 z.2.1=some (.tuple #[s32 k (pM b n) (b^n),.nilIface])∧∃ r,z.2.1.blk? k=some (wU (dg (pM b n) ((b^n:Nat):Int))++r,tU))∨((b=0∧1≤n)∧ZV prog f76 z.1 z.2.1=some (.tuple #[Zp,.nilIface]))):=by
 have eb:u64.wrap (b:Int)=(b:Int):=by simp [IntKind.wrap,IntKind.bits,IntKind.signed];omega
 have en:u64.wrap (n:Int)=(n:Int):=by simp [IntKind.wrap,IntKind.bits,IntKind.signed];omega
 have hp:=Z1r b n;rw[eb] at hp;have hi:=Z9r b n;rw[en,Xg] at hi;have hl9:bitLen n≤11:=by
  obtain⟨s1,s2⟩:=bitLen_spec n;rcases Nat.lt_or_ge 11 (bitLen n) with h | h
  ·have h0:n≠0:=by rintro rfl;simp [bitLen] at h
   have h1:=s2 h0;have h2:2^11≤2^(bitLen n-1):=Nat.pow_le_pow_right (by omega) (by omega);have h3:(2:Nat)^11=2048:=rfl;omega
  ·exact h
 have hz:n/2^bitLen n=0:=Nat.div_eq_of_lt (bitLen_spec n).1;have ew:i64.wrap (((bitLen n:Nat):Int)-1)=((bitLen n:Nat):Int)-1:=Zv (by omega) (by omega);rw[ew] at hi;refine Z1 ZiJ hp (Za (Xa ⟨by omega,by omega⟩) (Za (by decide) (Za (Xb (by omega)) (Z4 (Xb (by omega)))))) fun g=> ?_;refine RunsW.seq (P1:=fun e y=>e=none∧nS b n 0 y) ?_ ?_ (fun e y hy=>by cases hy.1)
 ·refine RunsW.seq (Ze ZiJ (hi (s32 1 2 b) g (Q2 b)) (Z4 (Xa ⟨by omega,by omega⟩))) ?_ (fun e y hy=>by cases hy.1);rintro⟨t,h',s⟩ ⟨_,⟨g',ht⟩,hh⟩;simp only at ht hh;subst ht hh;have lp:=RunsW.forLoop (T:=Zr prog Zf ZaL hcQ) (c:=qL f76) (id:=0) (P:=nS b n 0) (R:=fun _=>False) (fun k y=>k≤bitLen n∧nS b n k y) (x:=(qF b n (s32 0 2 1) (s32 1 2 b) (((bitLen n:Nat):Int)-1)++tl 46 g',Q2 b,s)) ?_ (n:=bitLen n) ⟨Nat.le_refl _,g',.inl ⟨hz,rfl,rfl⟩⟩
  ·refine lp.mono fun e z hz=> ?_
   match e,hz with
   | none,hz=>exact⟨rfl,hz⟩
   | some none,hz=>exact hz.elim
   | some (some _),hz=>exact hz.elim
  ·rintro k y ⟨hk,hy⟩
   match k,hk,hy with
   | k+1,hk,hy=>
    refine (ZqN hb hn hw (by omega) hy fun h0=> ?_).mono fun e z hz=> ?_
    ·obtain⟨s1,s2⟩:=bitLen_spec n;have hn0:n≠0:=by
      rintro rfl;simp [bitLen] at hk
     have h1:=s2 hn0;have h2:bitLen n=k+1:=by
      rcases Nat.lt_or_ge (k+1) (bitLen n) with h | h
      ·exfalso
       have h3:2^(k+1)≤2^(bitLen n-1):=Nat.pow_le_pow_right (by omega) (by omega);have h4:0<n/2^(k+1):=Nat.div_pos (by omega) (Nat.pow_pos (by omega));omega
      ·omega
     rw[h2,Nat.add_sub_cancel] at h1;have h5:0<n/2^k:=Nat.div_pos h1 (Nat.pow_pos (by omega));have h6:n/2^(k+1)=n/2^k/2:=by rw[Nat.pow_succ,← Nat.div_div_eq_div_mul]
     omega
    ·obtain⟨rfl,hz⟩:=hz;exact⟨k,by omega,by omega,hz⟩
   | 0,_,hy=>
    obtain⟨t,h',s⟩:=y;have out:∀ (P:Value) (h:Hp) (g:Nat→Value) (s:List Dec),RunsW (Zr prog Zf ZaL hcQ) (qL f76) (qF b n P (s32 1 2 b) (((0:Nat):Int)-1)++tl 46 g,h,s) fun e z=>e=some (some 0)∧(∃ g,z.1=qF b n P (s32 1 2 b) (((0:Nat):Int)-1)++tl 46 g)∧z.2.1=h:=fun P h g s=>
     Ze ZiJ (Z9s n (((0:Nat):Int)-1) b P (s32 1 2 b) h g) (Z4 (by decide))
    obtain⟨g,hy⟩:=hy;rcases hy with ⟨j0,ht,hh⟩ | ⟨j1,b0,ht,hh⟩ | ⟨j1,b0,m,V,ht,hh⟩<;>simp only at ht hh<;>subst ht hh
    ·refine (out _ _ g s).mono fun e z hz=> ?_;obtain⟨rfl,⟨g',e1⟩,e2⟩:=hz;exact⟨rfl,g',.inl ⟨j0,e1,e2⟩⟩
    ·refine (out _ _ g s).mono fun e z hz=> ?_;obtain⟨rfl,⟨g',e1⟩,e2⟩:=hz;exact⟨rfl,g',.inr (.inl ⟨j1,b0,e1,e2⟩)⟩
    ·refine (out _ _ g s).mono fun e z hz=> ?_;obtain⟨rfl,⟨g',e1⟩,e2⟩:=hz;exact⟨rfl,g',.inr (.inr ⟨j1,b0,m,V,e1,e2⟩)⟩
 ·rintro⟨t,h',s⟩ ⟨_,g,hy⟩;rw[Nat.pow_zero,Nat.div_one] at hy;rcases hy with ⟨j0,ht,hh⟩ | ⟨j1,b0,ht,hh⟩ | ⟨j1,b0,m,V,ht,hh⟩<;>simp only at ht hh<;>subst ht hh
  ·refine (Ze ZiJ (Z6w n _ b _ _ _ g) (fun x hx=>by cases hx)).mono fun e z hz=> ?_;obtain⟨rfl,⟨g',e1⟩,e2⟩:=hz;subst j0;have e3:pM b 0=2:=rfl;rw[e3,Nat.pow_zero];exact⟨.inr rfl,.inl ⟨by omega,0,by rw[e1,e2];rfl,[],by rw[e2,List.append_nil];rfl⟩⟩
  ·refine (Ze ZiJ (Z6w n _ b _ _ _ g) (fun x hx=>by cases hx)).mono fun e z hz=> ?_;obtain⟨rfl,⟨g',e1⟩,e2⟩:=hz;exact⟨.inr rfl,.inl ⟨by omega,2,by rw[e1,e2];rfl,[],by rw[e2,List.append_nil];rfl⟩⟩
  ·refine (Ze ZiJ (Z6w n _ b _ _ _ g) (fun x hx=>by cases hx)).mono fun e z hz=> ?_;obtain⟨rfl,⟨g',e1⟩,e2⟩:=hz;exact⟨.inr rfl,.inr ⟨⟨b0,j1⟩,by rw[e1,e2];rfl⟩⟩
def ZyY (b n:Int):Bool:=decide (0≤b∧b<4294967296∧0≤n∧(n≤300∨(b=10∧n≤2000)))
theorem Zng {b n:Nat}(h:ZyY b n=true):b<4294967296∧n≤2000∧∀ j,j≤n→nw (b^j)≤400:=by
 have q:=Xc h;rcases q.2.2.2 with h1 | ⟨h1,h2⟩
 ·exact⟨by omega,by omega,ZqM (by omega) (by omega)⟩
 ·have e:b=10:=by omega
  rw[e];exact⟨by omega,by omega,Ztj (by omega)⟩
def pMi (b n:Int):Nat:=pM b.toNat n.toNat
def Zwe:Zac:=fun vals h s=>
 match vals,s with
 | [.int .u32 b,.int .i64 n],.inr (.inr (.inr (.inl true)))::s'=>some (.tuple #[Zp,Zcx 1],h,s',[(decide (n<0∨n>1000000),true)])
 | [.int .u32 b,.int .i64 n],.inr (.inr (.inr (.inl false))):: .inr (.inr (.inr (.inl true)))::s'=>some (.tuple #[Zp,.nilIface],h,s',[(ZyY b n,true),(decide (b=0∧1≤n),true)])
 | [.int .u32 b,.int .i64 n],.inr (.inr (.inr (.inl false))):: .inr (.inr (.inr (.inl false))):: .inr (.inl V)::s'=>some (.tuple #[sl h.n 0 (Zl (dg (pMi b n) V)) (pMi b n),.nilIface],h.push (wU (dg (pMi b n) V)) tU,s',[(decide (((b.toNat^n.toNat:Nat):Int)=V),true),(ZyY b n,true),(decide (b=0∧1≤n),false)])
 | _,_=>none
theorem ZqS:Z8 76 Zwe:=by
 intro vals h s v h' s' lg hg hl m B w E hv;have hr0:(⟨0,[]⟩:Hp).rows:=⟨rfl,fun b x hx=>by have:b<0:=Hp.blk_lt hx;omega⟩;unfold Zwe at hg;split at hg
 ·rename_i b n s2;cases hg;have l1:=Xc (hl _ Xf);have r:RunsW (Zr prog Zf ZaL hcQ) (Zs f76) ([.int .u32 b,.int .i64 n]++List.replicate 54 undef,⟨0,[]⟩,[]) fun e z=>(e=none∨e=some none)∧ZV prog f76 z.1 z.2.1=some (.tuple #[Zp,Zcx 1]):=by
   by_cases h0:n<0
   ·refine (Ze ZiJ (ZvW b n) (Z4 (Xa h0))).mono fun e z hz=> ?_;obtain⟨rfl,⟨g',e1⟩,e2⟩:=hz;exact⟨.inr rfl,by rw[e1,e2];rfl⟩
   ·refine (Ze ZiJ (ZvX b n) (Za (Xa (l1.resolve_left h0)) (Z4 (Xb h0)))).mono fun e z hz=> ?_;obtain⟨rfl,⟨g',e1⟩,e2⟩:=hz;exact⟨.inr rfl,by rw[e1,e2];rfl⟩
  have:=ZB (T:=Zr prog Zf ZaL hcQ) func76 ZqK hr0 (vals:=[.int .u32 b,.int .i64 n]) (fun v hv=>by
   simp only[List.mem_cons,List.not_mem_nil,or_false] at hv;rcases hv with rfl | rfl<;>rfl) (v:= .tuple #[Zp,Zcx 1]) (by rfl) r E (s:=fun i=>i) (fun i x hx _=>by have:i<0:=Hp.blk_lt hx;omega)
  exact this
 ·rename_i b n s2;cases hg;have l2':ZyY b n=true:=hl _ Xe;have l2:=Xc l2';have l3:=Xc (hl _ (Xd _ Xf));obtain⟨b',rfl⟩:=Int.eq_ofNat_of_zero_le l2.1;obtain⟨n',rfl⟩:=Int.eq_ofNat_of_zero_le l2.2.2.1;obtain⟨w1,w2,w3⟩:=Zng l2';have r:=(Znf (b:=b') (n:=n') w1 w2 w3).mono (P':=fun e z=>(e=none∨e=some none)∧ZV prog f76 z.1 z.2.1=some (.tuple #[Zp,.nilIface])) fun e z hz=>⟨hz.1,by
   rcases hz.2 with ⟨q,_⟩ | ⟨_,q⟩
   ·exact absurd (show b'=0∧1≤n' by omega) q
   ·exact q⟩
  have:=ZB (T:=Zr prog Zf ZaL hcQ) func76 Znc hr0 (vals:=[.int .u32 (b':Int),.int .i64 (n':Int)]) (fun v hv=>by
   simp only[List.mem_cons,List.not_mem_nil,or_false] at hv;rcases hv with rfl | rfl<;>rfl) (v:= .tuple #[Zp,.nilIface]) (by rfl) r E (s:=fun i=>i) (fun i x hx _=>by have:i<0:=Hp.blk_lt hx;omega)
  exact this
 ·rename_i b n V s2;cases hg;have l1:=Xc (hl _ Xe);have l2':ZyY b n=true:=hl _ (Xd _ Xe);have l2:=Xc l2';have l3:=of_decide_eq_false (hl _ (Xd _ (Xd _ Xf)));obtain⟨b',rfl⟩:=Int.eq_ofNat_of_zero_le l2.1;obtain⟨n',rfl⟩:=Int.eq_ofNat_of_zero_le l2.2.2.1;obtain⟨w1,w2,w3⟩:=Zng l2';rw[Xg,Xg] at l1;rw[← l1];have ep:pMi (b':Int) (n':Int)=pM b' n':=by unfold pMi;rw[Xg,Xg]
  rw[ep];have r:=(Znf (b:=b') (n:=n') w1 w2 w3).mono (P':=fun e z=>(e=none∨e=some none)∧∃ k,ZV prog f76 z.1 z.2.1=some (.tuple #[s32 k (pM b' n') (b'^n'),.nilIface])∧∃ r,z.2.1.blk? k=some (wU (dg (pM b' n') ((b'^n':Nat):Int))++r,tU)) fun e z hz=>⟨hz.1,by
   rcases hz.2 with ⟨_,q⟩ | ⟨q,_⟩
   ·exact q
   ·exact absurd q (by omega)⟩
  exact ZcX (T:=Zr prog Zf ZaL hcQ) func76 Znc hr0 (vals:=[.int .u32 (b':Int),.int .i64 (n':Int)]) (fun v hv=>by
   simp only[List.mem_cons,List.not_mem_nil,or_false] at hv;rcases hv with rfl | rfl<;>rfl) (v:=fun k=> .tuple #[s32 k (pM b' n') (b'^n'),.nilIface]) (Zbb _) (by kernel_rfl) r (fun k=>by simp [oc,oc2,oc1,s32,sl]) E (s:=fun i=>i) (fun i x hx _=>by have:i<0:=Hp.blk_lt hx;omega) (fun k=>by simp [rn,rn2,rn1,s32,sl])
 ·cases hg
end Go.Proofs.YtjlponbdflkbjaaGreatDoor.Na
namespace Go.Rn
def upR (m:Int) (neg odd:Bool) (c:Int):Bool:=
 if c=0 then false else if m=2 then false else if m=3 then !neg else if m=4 then neg else if m=1 then decide (2≤c) else decide (2<c) || (decide (c=2) && odd)
def zF (r P:Nat):Int:=if r=0 then 0 else if 2*r<P then 1 else if 2*r=P then 2 else 3
def odd (q:Nat):Bool:=decide (q % 2=1)
def rq (m:Int) (neg:Bool) (T k:Nat):Nat:=T/2^k+(if upR m neg (odd (T/2^k)) (zF (T % 2^k) (2^k))=true then 1 else 0)
def toQ (m:Int) (neg:Bool) (T:Nat) (E e:Int):Nat:=if e≤E then T*2^(E-e).toNat else rq m neg T (e-E).toNat
def toL (T:Nat) (E e:Int):Bool:=if e≤E then false else decide (T % 2^(e-E).toNat≠0)
def lgN (T:Nat) (E:Int):Int:=E+(bitLen T:Nat)-1
def z5 (T:Nat) (E:Int):Int:=if lgN T E-52≤ -1074 then -1074 else lgN T E-52
def p0 (m:Int) (neg:Bool) (T:Nat) (E:Int):Int:=(z5 T E+1074)*4503599627370496+(toQ m neg T E (z5 T E):Nat)
def ZdC (m:Int) (neg:Bool) (T:Nat) (E:Int):Bool:=if lgN T E= -1023 then decide (toQ m neg T E (-1075)<9007199254740992) else decide (lgN T E< -1022)
def bey (m:Int) (neg:Bool):Int:=if upR m neg true 3=true then 9218868437227405312 else 9218868437227405311
def rnP (m:Int) (neg:Bool) (T:Nat) (E:Int):Int:=if T=0 then 0 else if 9218868437227405312≤p0 m neg T E then bey m neg else p0 m neg T E
def rnF (m:Int) (neg:Bool) (T:Nat) (E:Int):Int:=if T=0 then 0 else if 9218868437227405312≤p0 m neg T E then 20 else if toL T E (z5 T E)=true then (if ZdC m neg T E=true then 24 else 16) else 0
theorem Za1 {T:Nat}(h:T≠0):1≤bitLen T:=by unfold bitLen;rw[if_neg h];omega
theorem Zbq {T k:Nat}(h0:2^k≤T) (h1:T<2^(k+1)):bitLen T=k+1:=by
 have hp:0<2^k:=Nat.pow_pos (by omega);obtain⟨a1,a2⟩:=bitLen_spec T;have a2:=a2 (by omega);have a3:=Za1 (show T≠0 by omega);rcases Nat.lt_or_ge (bitLen T) (k+1) with h | h
 ·have:=Nat.pow_le_pow_right (show 0<2 by omega) (show bitLen T≤k by omega);omega
 ·rcases Nat.lt_or_ge (k+1) (bitLen T) with h' | h'
  ·have:=Nat.pow_le_pow_right (show 0<2 by omega) (show k+1≤bitLen T-1 by omega);omega
  ·omega
theorem len_le {T k:Nat}(h:T<2^k):bitLen T≤k:=by
 by_cases h0:T=0
 ·subst h0;simp [bitLen]
 ·have a2:=(bitLen_spec T).2 h0;rcases Nat.lt_or_ge k (bitLen T) with h' | h'
  ·have:=Nat.pow_le_pow_right (show 0<2 by omega) (show k≤bitLen T-1 by omega);omega
  ·exact h'
theorem ZcC {T k:Nat}(h:2^k≤T):k+1≤bitLen T:=by
 have a1:=(bitLen_spec T).1;rcases Nat.lt_or_ge (bitLen T) (k+1) with h' | h'
 ·have:=Nat.pow_le_pow_right (show 0<2 by omega) (show bitLen T≤k by omega);omega
 ·exact h'
theorem Zwf {T:Nat}(h:T≠0) (j:Nat):bitLen (T*2^j)=bitLen T+j:=by
 have hp:0<2^j:=Nat.pow_pos (by omega);obtain⟨a1,a2⟩:=bitLen_spec T;have a2:=a2 h;have a3:=Za1 h;have e:bitLen T+j=(bitLen T-1+j)+1:=by omega
 rw[e];apply Zbq
 ·rw[Nat.pow_add];exact Nat.mul_le_mul_right _ a2
 ·rw[show bitLen T-1+j+1=bitLen T+j by omega,Nat.pow_add];exact Nat.mul_lt_mul_of_pos_right a1 hp
theorem ZqT (m:Int) (neg o:Bool):upR m neg o 0=false:=by simp [upR]
theorem Zkd (P:Nat):zF 0 P=0:=by simp [zF]
theorem ZgC {r P:Nat}:zF r P=0↔r=0:=by
 unfold zF;split
 ·simp_all
 ·rename_i h;simp only[h,iff_false];split<;>(try split)<;>omega
theorem Zh9 (r P j:Nat):zF (r*2^j) (P*2^j)=zF r P:=by
 have hp:0<2^j:=Nat.pow_pos (by omega);unfold zF;have e0:(r*2^j=0)↔r=0:=by rw[Nat.mul_eq_zero];omega
 have e1:(2*(r*2^j)<P*2^j)↔2*r<P:=by rw[← Nat.mul_assoc];exact Nat.mul_lt_mul_right hp
 have e2:(2*(r*2^j)=P*2^j)↔2*r=P:=by rw[← Nat.mul_assoc];exact Nat.mul_left_inj (by omega)
 simp only[e0,e1,e2]
theorem Z1u (m:Int) (neg:Bool) (T k:Nat):T/2^k≤rq m neg T k∧rq m neg T k≤T/2^k+1:=by unfold rq;split<;>omega
theorem ZfI {m:Int}{neg:Bool}{T k:Nat}(h:T % 2^k=0):rq m neg T k=T/2^k:=by
 unfold rq;rw[h,Zkd,ZqT];simp
theorem ZqU (m:Int) (neg:Bool) (T k j:Nat):rq m neg (T*2^j) (k+j)=rq m neg T k:=by
 have hp:0<2^j:=Nat.pow_pos (by omega);unfold rq;rw[Nat.pow_add,Nat.mul_div_mul_right _ _ hp,Nat.mul_mod_mul_right,Zh9]
theorem ZgD (m:Int) (neg:Bool) (T j:Nat) (E e:Int):toQ m neg (T*2^j) (E-j) e=toQ m neg T E e:=by
 unfold toQ;by_cases h1:e≤E
 ·rw[if_pos h1];by_cases h2:e≤E-j
  ·rw[if_pos h2,Nat.mul_assoc,← Nat.pow_add];congr 2;omega
  ·rw[if_neg h2];have ej:j=(E-e).toNat+(e-(E-j)).toNat:=by omega
   have e1:T*2^j=T*2^(E-e).toNat*2^(e-(E-j)).toNat:=by rw[Nat.mul_assoc,← Nat.pow_add,← ej]
   have hp:0<2^(e-(E-j)).toNat:=Nat.pow_pos (by omega);rw[e1,ZfI (Nat.mul_mod_left _ _),Nat.mul_div_cancel _ hp]
 ·rw[if_neg h1,if_neg (by omega),show (e-(E-j)).toNat=(e-E).toNat+j by omega,ZqU]
theorem Znh (T j:Nat) (E e:Int):toL (T*2^j) (E-j) e=toL T E e:=by
 have hp:0<2^j:=Nat.pow_pos (by omega);unfold toL;by_cases h1:e≤E
 ·rw[if_pos h1];by_cases h2:e≤E-j
  ·rw[if_pos h2]
  ·rw[if_neg h2];have ej:j=(E-e).toNat+(e-(E-j)).toNat:=by omega
   have e1:T*2^j=T*2^(E-e).toNat*2^(e-(E-j)).toNat:=by rw[Nat.mul_assoc,← Nat.pow_add,← ej]
   rw[e1,Nat.mul_mod_left];simp
 ·rw[if_neg h1,if_neg (by omega),show (e-(E-j)).toNat=(e-E).toNat+j by omega,Nat.pow_add,Nat.mul_mod_mul_right];congr 1;rw[ne_eq,ne_eq,Nat.mul_eq_zero];simp only[eq_iff_iff];omega
theorem ZgE {T:Nat}(h:T≠0) (j:Nat) (E:Int):lgN (T*2^j) (E-j)=lgN T E:=by
 unfold lgN;rw[Zwf h];omega
theorem Zfe {T:Nat}(h:T≠0) (j:Nat) (E:Int):z5 (T*2^j) (E-j)=z5 T E:=by unfold z5;rw[ZgE h]
theorem ZiL {T:Nat}(h:T≠0) (m:Int) (neg:Bool) (j:Nat) (E:Int):p0 m neg (T*2^j) (E-j)=p0 m neg T E:=by unfold p0;rw[Zfe h,ZgD]
theorem Zke {T:Nat}(h:T≠0) (m:Int) (neg:Bool) (j:Nat) (E:Int):ZdC m neg (T*2^j) (E-j)=ZdC m neg T E:=by unfold ZdC;rw[ZgE h,ZgD]
theorem ZiM {T:Nat}(j:Nat):(T*2^j=0)=(T=0):=by
 have hp:0<2^j:=Nat.pow_pos (by omega);rw[Nat.mul_eq_zero];simp only[eq_iff_iff];omega
theorem ZaG (m:Int) (neg:Bool) (T j:Nat) (E:Int):rnP m neg (T*2^j) (E-j)=rnP m neg T E:=by
 unfold rnP;simp only[ZiM];by_cases h:T=0
 ·rw[if_pos h,if_pos h]
 ·rw[if_neg h,if_neg h,ZiL h]
theorem ZaH (m:Int) (neg:Bool) (T j:Nat) (E:Int):rnF m neg (T*2^j) (E-j)=rnF m neg T E:=by
 unfold rnF;simp only[ZiM];by_cases h:T=0
 ·rw[if_pos h,if_pos h]
 ·rw[if_neg h,if_neg h,ZiL h,Zke h,Zfe h,Znh]
end Go.Rn
namespace Go.Rn
open Go.Pt
theorem ZiN {m:Int}{neg:Bool}{T:Nat}{E e:Int}{n:Nat}(h:(bitLen T:Int)+(E-e)≤n):toQ m neg T E e≤2^n:=by
 have a1:=(bitLen_spec T).1;unfold toQ;by_cases he:e≤E
 ·rw[if_pos he];have hp:0<2^(E-e).toNat:=Nat.pow_pos (by omega);have:=Nat.mul_le_mul_right (2^(E-e).toNat) (Nat.le_of_lt a1);rw[← Nat.pow_add] at this;have h2:=Nat.pow_le_pow_right (show 0<2 by omega) (show bitLen T+(E-e).toNat≤n by omega);omega
 ·rw[if_neg he];have b:=(Z1u m neg T (e-E).toNat).2;have h2:=Nat.pow_le_pow_right (show 0<2 by omega) (show bitLen T≤n+(e-E).toNat by omega);have h3:T/2^(e-E).toNat<2^n:=by
   apply Nat.div_lt_of_lt_mul;rw[Nat.pow_add,Nat.mul_comm] at h2;omega
  omega
theorem Ztk {m:Int}{neg:Bool}{T:Nat}{E e:Int}{n:Nat}(hT:T≠0) (h:(n:Int)+1≤(bitLen T:Int)+(E-e)):2^n≤toQ m neg T E e:=by
 have a2:=(bitLen_spec T).2 hT;have a3:=Za1 hT;unfold toQ;by_cases he:e≤E
 ·rw[if_pos he];have:=Nat.mul_le_mul_right (2^(E-e).toNat) a2;rw[← Nat.pow_add] at this;have h2:=Nat.pow_le_pow_right (show 0<2 by omega) (show n≤bitLen T-1+(E-e).toNat by omega);omega
 ·rw[if_neg he];have b:=(Z1u m neg T (e-E).toNat).1;have hp:0<2^(e-E).toNat:=Nat.pow_pos (by omega);have h2:=Nat.pow_le_pow_right (show 0<2 by omega) (show n+(e-E).toNat≤bitLen T-1 by omega);have h3:2^n≤T/2^(e-E).toNat:=by
   rw[Nat.le_div_iff_mul_le hp,← Nat.pow_add];omega
  omega
theorem ZgF (m:Int) (neg:Bool) (T:Nat) (E:Int):toQ m neg T E (z5 T E)≤9007199254740992:=by
 refine ZiN (n:=53) ?_;unfold z5 lgN;split<;>omega
theorem Zni {m:Int}{neg:Bool}{T:Nat}{E:Int}(hT:T≠0) (h: -1074≤lgN T E-52):4503599627370496≤toQ m neg T E (z5 T E):=by
 refine Ztk (n:=52) hT ?_;unfold z5 lgN at*;split<;>omega
theorem ZfJ (T:Nat) (E:Int): -1074≤z5 T E:=by unfold z5;split<;>omega
theorem Znj (m:Int) (neg:Bool) (T:Nat) (E:Int):0≤p0 m neg T E:=by
 have:=ZfJ T E;unfold p0;omega
theorem Z1v (m:Int) (neg:Bool):bey m neg=9218868437227405312∨bey m neg=9218868437227405311:=by unfold bey;split<;>simp
end Go.Rn
namespace Go.Rn
open Go.Nt
theorem ZbL (V:Nat):bl V=bitLen V:=by
 by_cases h:V=0
 ·subst h;rw[Zdg];rfl
 ·have h1:=(bitLen_spec V).1;have h2:=(bitLen_spec V).2 h;have h3:=Za1 h;obtain⟨k,hk⟩:∃ k,bitLen V=k+1:=⟨bitLen V-1,by omega⟩;rw[hk] at h1 h2 ⊢;exact Zmb h2 h1
theorem ZqV (T k:Nat):(T/2^k % 2=1)↔2^k≤T % 2^(k+1):=by
 have hp:0<2^k:=Nat.pow_pos (by omega);have e:T % 2^(k+1)=T % 2^k+2^k*(T/2^k % 2):=by rw[Nat.pow_succ,Nat.mod_mul]
 have hl:=Nat.mod_lt T hp;have h2:T/2^k % 2=0∨T/2^k % 2=1:=by omega
 rw[e];clear e;generalize T % 2^k=r at hl;generalize T/2^k % 2=b at h2;generalize 2^k=P at hl hp;rcases h2 with h | h
 ·subst h;simp only[Nat.mul_zero,Nat.add_zero];omega
 ·subst h;rw[Nat.mul_one];exact⟨fun _=>Nat.le_add_left _ _,fun _=>rfl⟩
theorem Z1w {r k:Nat}(hr:r≠0) (M:Int) (neg o:Bool):
  upR M neg o (zF r (2^(k+1)))=(if M=2 then false else if M=3 then !neg else if M=4 then neg else if M=1 then decide (2^k≤r) else (decide (2^k≤r) && (!decide (r=2^k) || o))):=by
 have hc:¬ zF r (2^(k+1))=0:=by rw[ZgC];exact hr
 unfold upR;rw[if_neg hc];by_cases h2:M=2
 ·rw[if_pos h2,if_pos h2]
 ·rw[if_neg h2,if_neg h2];by_cases h3:M=3
  ·rw[if_pos h3,if_pos h3]
  ·rw[if_neg h3,if_neg h3];by_cases h4:M=4
   ·rw[if_pos h4,if_pos h4]
   ·rw[if_neg h4,if_neg h4];have e:2^(k+1)=2*2^k:=by rw[Nat.pow_succ,Nat.mul_comm]
    unfold zF;rw[if_neg hr,e];generalize 2^k=P;by_cases a:2*r<2*P
    ·rw[if_pos a];have:decide (P≤r)=false:=Xb (by omega);rw[this];split<;>simp
    ·rw[if_neg a];by_cases b:2*r=2*P
     ·rw[if_pos b];have h1:decide (P≤r)=true:=Xa (by omega);have h5:decide (r=P)=true:=Xa (by omega);rw[h1,h5];split<;>simp
     ·rw[if_neg b];have h1:decide (P≤r)=true:=Xa (by omega);have h5:decide (r=P)=false:=Xb (by omega);rw[h1,h5];split<;>simp
end Go.Rn
namespace Go.Wd
structure W4 where
 a:Int
 b:Int
 c:Int
 d:Int
def W4.val (x:W4):Int:=x.a+18446744073709551616*x.b+340282366920938463463374607431768211456*x.c+6277101735386680763835789423207666416102355444464034512896*x.d
abbrev W4.ok (x:W4):Prop:=(0≤x.a∧x.a<18446744073709551616)∧(0≤x.b∧x.b<18446744073709551616)∧(0≤x.c∧x.c<18446744073709551616)∧(0≤x.d∧x.d<18446744073709551616)
def W4.of (n:Int):W4:=
 ⟨n % 18446744073709551616,n/18446744073709551616 % 18446744073709551616,n/340282366920938463463374607431768211456 % 18446744073709551616,n/6277101735386680763835789423207666416102355444464034512896 % 18446744073709551616⟩
def eqW (x y:W4):Bool:=x.a==y.a && (x.b==y.b && (x.c==y.c && (x.d==y.d && true)))
theorem ZfK {x y:W4}:eqW x y=true↔x=y:=by
 cases x;cases y;simp [eqW]
theorem W4.ext' {x y:W4}(h1:x.a=y.a) (h2:x.b=y.b) (h3:x.c=y.c) (h4:x.d=y.d):x=y:=by
 cases x;cases y;simp_all
theorem W4.ok_of (n:Int):(W4.of n).ok:=by
 unfold W4.of W4.ok;refine⟨⟨?_,?_⟩,⟨?_,?_⟩,⟨?_,?_⟩,⟨?_,?_⟩⟩<;>dsimp only<;>omega
theorem W4.of_val {x:W4}(h:x.ok):W4.of x.val=x:=by
 obtain⟨a,b,c,d⟩:=x;unfold W4.ok at h;unfold W4.val W4.of;dsimp only at*;refine W4.ext' ?_ ?_ ?_ ?_<;>dsimp only<;>omega
theorem W4.val_of (n:Int):(W4.of n).val=n % 115792089237316195423570985008687907853269984665640564039457584007913129639936:=by
 unfold W4.val W4.of;dsimp only;omega
theorem W4.val_bd {x:W4}(h:x.ok):0≤x.val∧x.val<115792089237316195423570985008687907853269984665640564039457584007913129639936:=by
 obtain⟨a,b,c,d⟩:=x;unfold W4.ok at h;unfold W4.val;dsimp only at*;omega
theorem W4.val_inj {x y:W4}(hx:x.ok) (hy:y.ok) (h:x.val=y.val):x=y:=by
 rw[← W4.of_val hx,← W4.of_val hy,h]
def ad (x y c:Int):Int:=(x+y+c) % 18446744073709551616
def ca (x y c:Int):Int:=(x+y+c)/18446744073709551616
def Z6y (x y:W4):W4:=⟨ad x.a y.a 0,ad x.b y.b (ca x.a y.a 0),ad x.c y.c (ca x.b y.b (ca x.a y.a 0)),ad x.d y.d (ca x.c y.c (ca x.b y.b (ca x.a y.a 0)))⟩
def Z6z (x y:W4):Int:=ca x.d y.d (ca x.c y.c (ca x.b y.b (ca x.a y.a 0)))
theorem Zwg {x y:W4}(hx:x.ok) (hy:y.ok):Z6y x y=W4.of (x.val+y.val):=by
 obtain⟨a,b,c,d⟩:=x;obtain⟨a',b',c',d'⟩:=y;unfold W4.ok at hx hy;unfold W4.val W4.of Z6y ad ca;dsimp only at*;refine W4.ext' ?_ ?_ ?_ ?_<;>dsimp only<;>omega
theorem Zwh {x y:W4}(hx:x.ok) (hy:y.ok):(Z6z x y !=0)=decide (115792089237316195423570985008687907853269984665640564039457584007913129639936≤x.val+y.val):=by
 obtain⟨a,b,c,d⟩:=x;obtain⟨a',b',c',d'⟩:=y;unfold W4.ok at hx hy;unfold W4.val Z6z ca;dsimp only at*;rw[Bool.eq_iff_iff];simp only[bne_iff_ne,ne_eq,Xi];omega
end Go.Wd
namespace Go.Wd
open Go.IntKind
theorem Zca (n:Int):u64.wrap n=n % 18446744073709551616:=by simp [IntKind.wrap,IntKind.bits,IntKind.signed]
theorem ZbM {n:Int}(h0: -9223372036854775808≤n) (h1:n≤9223372036854775807):i64.wrap n=n:=by
 simp [IntKind.wrap,IntKind.bits,IntKind.signed];omega
def prt (n:Int):Int:=u64.wrap (n.tmod 64)
def rem (n:Int):Int:=u64.wrap (64-prt n)
def up (a n:Int):Int:=u64.wrap (a*2^min (prt n).toNat 64)
def dn (a n:Int):Int:=a.fdiv (2^min (rem n).toNat 64)
def dn' (a n:Int):Int:=a.fdiv (2^min (prt n).toNat 64)
def up' (a n:Int):Int:=u64.wrap (a*2^min (rem n).toNat 64)
def orr (x y:Int):Int:=u64.wrap ((BitVec.ofInt 64 x ||| BitVec.ofInt 64 y).toNat:Nat)
theorem Znk {n:Int}(h:0≤n):prt n=n % 64:=by
 unfold prt;rw[Int.tmod_eq_emod_of_nonneg h,Zca];omega
theorem Ztl {n:Int}(h:0≤n):rem n=64-n % 64:=by
 unfold rem;rw[Znk h,Zca];omega
structure Parts (n q r:Int):Prop where
 q1:1≤q
 r1:1<r
 qr:q*r=18446744073709551616
 eq:q=2^(n % 64).toNat
 er:r=2^(64-n % 64).toNat
theorem parts (n:Int):Parts n (2^(n % 64).toNat) (2^(64-n % 64).toNat):=by
 have h1:0≤n % 64:=by omega
 have h2:n % 64<64:=by omega
 refine⟨?_,?_,?_,rfl,rfl⟩
 ·have:(0:Int)<2^(n % 64).toNat:=Int.pow_pos (by omega);omega
 ·obtain⟨k,hk⟩:∃ k,(64-n % 64).toNat=k+1:=⟨(64-n % 64).toNat-1,by omega⟩;rw[hk,Int.pow_succ];have:(0:Int)<2^k:=Int.pow_pos (by omega);omega
 ·rw[← Int.pow_add];have:(n % 64).toNat+(64-n % 64).toNat=64:=by omega
  rw[this];rfl
theorem Znl {n:Int}(h:0≤n):min (prt n).toNat 64=(n % 64).toNat:=by rw[Znk h];omega
theorem Znm {n:Int}(h:0≤n):min (rem n).toNat 64=(64-n % 64).toNat:=by rw[Ztl h];omega
structure Cut (a q r hi lo:Int):Prop where
 sum:a=r*hi+lo
 lo0:0≤lo
 lo1:lo<r
 hi0:0≤hi
 hi1:hi<q
theorem cut {a n q r:Int}(P:Parts n q r) (h0:0≤a) (h1:a<18446744073709551616):Cut a q r (a/r) (a % r):=by
 have hr:0<r:=by have:=P.r1;omega
 refine⟨(Int.mul_ediv_add_emod a r).symm,Int.emod_nonneg _ (by omega),Int.emod_lt_of_pos _ hr,Int.ediv_nonneg h0 (by omega),?_⟩;apply Int.ediv_lt_of_lt_mul hr;rw[P.qr];exact h1
theorem ZcD (x y c:Int) (hc:0≤c) (h:x≤y):c*x≤c*y:=Int.mul_le_mul_of_nonneg_left h hc
theorem Z1x {a n q r hi lo:Int}(hn:0≤n) (P:Parts n q r) (C:Cut a q r hi lo):up a n=q*lo∧0≤q*lo∧q*lo+q≤18446744073709551616∧a*q=18446744073709551616*hi+q*lo:=by
 have e:a*q=18446744073709551616*hi+q*lo:=by
  rw[C.sum,Int.add_mul,← P.qr,Int.mul_comm r hi,Int.mul_assoc hi r q,Int.mul_comm r q,Int.mul_comm hi (q*r),Int.mul_comm lo q]
 have b0:0≤q*lo:=Int.mul_nonneg (by have:=P.q1;omega) C.lo0;have b1:q*lo+q≤18446744073709551616:=by
  have h:=ZcD (lo+1) r q (by have:=P.q1;omega) (by have:=C.lo1;omega);rw[P.qr,Int.mul_add,Int.mul_one] at h;exact h
 refine⟨?_,b0,b1,e⟩;unfold up;rw[Znl hn,← P.eq,Zca,e];have:=P.q1;omega
theorem Z60 {a n q r hi lo:Int}(hn:0≤n) (P:Parts n q r) (C:Cut a q r hi lo):dn a n=hi:=by
 unfold dn;rw[Znm hn,← P.er,Int.fdiv_eq_ediv_of_nonneg _ (by have:=P.r1;omega),C.sum,Int.mul_comm r hi,Int.add_comm,Int.add_mul_ediv_right _ _ (by have:=P.r1;omega),
  Int.ediv_eq_zero_of_lt C.lo0 C.lo1,Int.zero_add]
theorem Ztm {k:Nat}{x y:Int}(hx:∃ z:Int,x=2^k*z) (x0:0≤x) (y0:0≤y) (y1:y<2^k) (hs:x+y<18446744073709551616):orr x y=x+y:=by
 obtain⟨z,hz⟩:=hx;have hp:(0:Int)<2^k:=Int.pow_pos (by omega);have z0:0≤z:=by
  rcases Int.lt_or_le z 0 with h | h
  ·have:=ZcD z (-1) (2^k) (by omega) (by omega);omega
  ·exact h
 obtain⟨Z,rfl⟩:=Int.eq_ofNat_of_zero_le z0;obtain⟨Y,rfl⟩:=Int.eq_ofNat_of_zero_le y0;have ex:x=((2^k*Z:Nat):Int):=by rw[hz];simp
 have hY:Y<2^k:=by
  have:((Y:Nat):Int)<((2^k:Nat):Int):=by simpa using y1
  exact Int.ofNat_lt.1 this
 have hX:2^k*Z+Y<18446744073709551616:=by
  rw[ex] at hs;have:(((2^k*Z+Y:Nat)):Int)<18446744073709551616:=by simpa using hs
  omega
 unfold orr;rw[ex];have e1:∀ m:Nat,m<18446744073709551616→(BitVec.ofInt 64 (m:Int)).toNat=m:=fun m hm=>by
  simp;omega
 rw[BitVec.toNat_or,e1 _ (by omega),e1 _ (by omega),← Nat.two_pow_add_eq_or_of_lt hY,Zca];have:(((2^k*Z+Y:Nat)):Int)=((2^k*Z:Nat):Int)+(Y:Int):=by simp
 rw[this];omega
theorem W4.of_eq {x:W4}{N k:Int}(hx:x.ok) (h:N=x.val+115792089237316195423570985008687907853269984665640564039457584007913129639936*k):W4.of N=x:=by
 obtain⟨a,b,c,d⟩:=x;unfold W4.ok at hx;unfold W4.val at h;unfold W4.of;dsimp only at*;subst h;refine W4.ext' ?_ ?_ ?_ ?_<;>dsimp only<;>omega
def Z1y (x:W4) (n:Int):W4:=⟨up x.a n,orr (up x.b n) (dn x.a n),orr (up x.c n) (dn x.b n),orr (up x.d n) (dn x.c n)⟩
def Z1z (x:W4) (n:Int):W4:=⟨0,up x.a n,orr (up x.b n) (dn x.a n),orr (up x.c n) (dn x.b n)⟩
def Z10 (x:W4) (n:Int):W4:=⟨0,0,up x.a n,orr (up x.b n) (dn x.a n)⟩
def Z11 (x:W4) (n:Int):W4:=⟨0,0,0,up x.a n⟩
theorem ZbN {n:Int}(hn:0≤n) {a b:Int}(ha:0≤a∧a<18446744073709551616) (hb:0≤b∧b<18446744073709551616):
  orr (up b n) (dn a n)=up b n+dn a n∧(0≤up a n∧up a n<18446744073709551616)∧(0≤up b n+dn a n∧up b n+dn a n<18446744073709551616)∧
   a*2^(n % 64).toNat=18446744073709551616*dn a n+up a n:=by
 have P:=parts n;have Ca:=cut P ha.1 ha.2;have Cb:=cut P hb.1 hb.2;obtain⟨e1,b1,b2,b3⟩:=Z1x hn P Ca;obtain⟨f1,c1,c2,c3⟩:=Z1x hn P Cb;have e2:=Z60 hn P Ca;have q1:=P.q1;have h0:=Ca.hi0;have h1:=Ca.hi1;refine⟨?_,⟨by omega,by omega⟩,⟨by omega,by omega⟩,by rw[e1,e2];exact b3⟩;rw[f1,e2];exact Ztm (k:=(n % 64).toNat) ⟨_,rfl⟩ c1 h0 h1 (by omega)
theorem z64:(0:Int)≤0∧(0:Int)<18446744073709551616:=⟨by omega,by omega⟩
theorem Zaz (n:Int) (h0:0≤n) (j:Nat) (hj:n/64=j):(2:Int)^n.toNat=2^(64*j)*2^(n % 64).toNat:=by
 rw[← Int.pow_add];congr 1;omega
theorem ZbO (x:W4) (q:Int):x.val*q=x.a*q+18446744073709551616*(x.b*q)+340282366920938463463374607431768211456*(x.c*q)+6277101735386680763835789423207666416102355444464034512896*(x.d*q):=by
 unfold W4.val;rw[Int.add_mul,Int.add_mul,Int.add_mul,Int.mul_assoc,Int.mul_assoc,Int.mul_assoc]
theorem Zwi {x:W4}(hx:x.ok) {n:Int}(hn:0≤n) (hj:n/64=0):Z1y x n=W4.of (x.val*2^n.toNat):=by
 obtain⟨h1,h2,h3,h4⟩:=hx;obtain⟨o1,u1,s1,m1⟩:=ZbN hn h1 h2;obtain⟨o2,u2,s2,m2⟩:=ZbN hn h2 h3;obtain⟨o3,u3,s3,m3⟩:=ZbN hn h3 h4;obtain⟨_,u4,_,m4⟩:=ZbN hn h4 h1;have e:=Zaz n hn 0 hj;have one:(2:Int)^(64*0)=1:=rfl;rw[one,Int.one_mul] at e;refine (W4.of_eq (x:=Z1y x n) (k:=dn x.d n) ?_ ?_).symm
 ·unfold Z1y;rw[o1,o2,o3];exact⟨u1,s1,s2,s3⟩
 ·rw[e,ZbO,m1,m2,m3,m4];unfold Z1y W4.val;dsimp only;rw[o1,o2,o3];omega
theorem Zwj {x:W4}(hx:x.ok) {n:Int}(hn:0≤n) (hj:n/64=1):Z1z x n=W4.of (x.val*2^n.toNat):=by
 obtain⟨h1,h2,h3,h4⟩:=hx;obtain⟨o1,u1,s1,m1⟩:=ZbN hn h1 h2;obtain⟨o2,u2,s2,m2⟩:=ZbN hn h2 h3;obtain⟨_,u3,_,m3⟩:=ZbN hn h3 h4;obtain⟨_,u4,_,m4⟩:=ZbN hn h4 h1;have e:=Zaz n hn 1 hj;have one:(2:Int)^(64*1)=18446744073709551616:=rfl;rw[one] at e;refine (W4.of_eq (x:=Z1z x n) (k:=dn x.c n+(18446744073709551616*dn x.d n+up x.d n)) ?_ ?_).symm
 ·unfold Z1z;rw[o1,o2];exact⟨z64,u1,s1,s2⟩
 ·rw[e,Int.mul_left_comm,ZbO,m1,m2,m3,m4];unfold Z1z W4.val;dsimp only;rw[o1,o2];omega
theorem Zwk {x:W4}(hx:x.ok) {n:Int}(hn:0≤n) (hj:n/64=2):Z10 x n=W4.of (x.val*2^n.toNat):=by
 obtain⟨h1,h2,h3,h4⟩:=hx;obtain⟨o1,u1,s1,m1⟩:=ZbN hn h1 h2;obtain⟨_,u2,_,m2⟩:=ZbN hn h2 h3;have e:=Zaz n hn 2 hj;have one:(2:Int)^(64*2)=340282366920938463463374607431768211456:=rfl;rw[one] at e;refine (W4.of_eq (x:=Z10 x n) (k:=dn x.b n+x.c*2^(n % 64).toNat+18446744073709551616*(x.d*2^(n % 64).toNat)) ?_ ?_).symm
 ·unfold Z10;rw[o1];exact⟨z64,z64,u1,s1⟩
 ·rw[e,Int.mul_left_comm,ZbO,m1,m2];unfold Z10 W4.val;dsimp only;rw[o1];omega
theorem Zwl {x:W4}(hx:x.ok) {n:Int}(hn:0≤n) (hj:n/64=3):Z11 x n=W4.of (x.val*2^n.toNat):=by
 obtain⟨h1,h2,h3,h4⟩:=hx;obtain⟨_,u1,_,m1⟩:=ZbN hn h1 h2;have e:=Zaz n hn 3 hj;have one:(2:Int)^(64*3)=6277101735386680763835789423207666416102355444464034512896:=rfl;rw[one] at e;refine (W4.of_eq (x:=Z11 x n) (k:=dn x.a n+x.b*2^(n % 64).toNat+18446744073709551616*(x.c*2^(n % 64).toNat)+340282366920938463463374607431768211456*(x.d*2^(n % 64).toNat)) ?_ ?_).symm
 ·unfold Z11;exact⟨z64,z64,z64,u1⟩
 ·rw[e,Int.mul_left_comm,ZbO,m1];unfold Z11 W4.val;dsimp only;omega
theorem ZqW (x y:Int):orr x y=orr y x:=by unfold orr;rw[BitVec.or_comm]
structure Cut' (a q r hi lo:Int):Prop where
 sum:a=q*hi+lo
 lo0:0≤lo
 lo1:lo<q
 hi0:0≤hi
 hi1:hi<r
theorem Z61 {a n q r:Int}(P:Parts n q r) (h0:0≤a) (h1:a<18446744073709551616):Cut' a q r (a/q) (a % q):=by
 have hq:0<q:=by have:=P.q1;omega
 refine⟨(Int.mul_ediv_add_emod a q).symm,Int.emod_nonneg _ (by omega),Int.emod_lt_of_pos _ hq,Int.ediv_nonneg h0 (by omega),?_⟩;apply Int.ediv_lt_of_lt_mul hq;rw[Int.mul_comm,P.qr];exact h1
theorem Ztn {a n q r:Int}(hn:0≤n) (P:Parts n q r):dn' a n=a/q:=by
 unfold dn';rw[Znl hn,← P.eq,Int.fdiv_eq_ediv_of_nonneg _ (by have:=P.q1;omega)]
theorem Zto {a n q r hi lo:Int}(hn:0≤n) (P:Parts n q r) (C:Cut' a q r hi lo):up' a n=r*lo∧0≤r*lo∧r*lo+r≤18446744073709551616:=by
 have e:a*r=18446744073709551616*hi+r*lo:=by
  rw[C.sum,Int.add_mul,← P.qr,Int.mul_right_comm q hi r,Int.mul_comm lo r]
 have b0:0≤r*lo:=Int.mul_nonneg (by have:=P.r1;omega) C.lo0;have b1:r*lo+r≤18446744073709551616:=by
  have h:=ZcD (lo+1) q r (by have:=P.r1;omega) (by have:=C.lo1;omega);rw[Int.mul_comm r q,P.qr,Int.mul_add,Int.mul_one] at h;exact h
 refine⟨?_,b0,b1⟩;unfold up';rw[Znm hn,← P.er,Zca,e];have:=P.r1;omega
theorem zZ {n:Int}(hn:0≤n) {a b:Int}(ha:0≤a∧a<18446744073709551616) (hb:0≤b∧b<18446744073709551616):
  ∃ lb:Int,orr (dn' a n) (up' b n)=dn' a n+up' b n∧(0≤dn' a n∧dn' a n<18446744073709551616)∧(0≤dn' a n+up' b n∧dn' a n+up' b n<18446744073709551616)∧
   2^(n % 64).toNat*up' b n=18446744073709551616*lb∧0≤lb∧lb<2^(n % 64).toNat∧b=2^(n % 64).toNat*dn' b n+lb:=by
 have P:=parts n;have Ca:=Z61 P ha.1 ha.2;have Cb:=Z61 P hb.1 hb.2;obtain⟨f1,c1,c2⟩:=Zto hn P Cb;have e1:=Ztn (a:=a) hn P;have e2:=Ztn (a:=b) hn P;have h0:=Ca.hi0;have h1:=Ca.hi1;have r1:=P.r1;refine⟨b % 2^(n % 64).toNat,?_,⟨by omega,by omega⟩,⟨by omega,by omega⟩,?_,Cb.lo0,Cb.lo1,by rw[e2];exact Cb.sum⟩
 ·rw[ZqW,f1,e1,Int.add_comm];exact Ztm (k:=(64-n % 64).toNat) ⟨_,rfl⟩ c1 h0 h1 (by omega)
 ·rw[f1,← Int.mul_assoc,P.qr]
theorem ZqX {n:Int}(hn:0≤n) {b:Int}(hb:0≤b∧b<18446744073709551616):up' b n % 2=0:=by
 have P:=parts n;obtain⟨f1,_,_⟩:=Zto hn P (Z61 P hb.1 hb.2);obtain⟨k,hk⟩:∃ k,(64-n % 64).toNat=k+1:=⟨(64-n % 64).toNat-1,by omega⟩;rw[f1,hk,Int.pow_succ,Int.mul_comm _ 2,Int.mul_assoc];omega
def Zwm (x:W4) (n:Int):W4:=⟨orr (dn' x.a n) (up' x.b n),orr (dn' x.b n) (up' x.c n),orr (dn' x.c n) (up' x.d n),dn' x.d n⟩
def Zwn (x:W4) (n:Int):W4:=⟨orr (dn' x.b n) (up' x.c n),orr (dn' x.c n) (up' x.d n),dn' x.d n,0⟩
def Zwo (x:W4) (n:Int):W4:=⟨orr (dn' x.c n) (up' x.d n),dn' x.d n,0,0⟩
def Zwp (x:W4) (n:Int):W4:=⟨dn' x.d n,0,0,0⟩
theorem Zwq {N q m l:Int}(h:N=q*m+l) (h0:0≤l) (h1:l<q):N/q=m:=by
 rw[h,Int.add_comm,Int.add_mul_ediv_left _ _ (by omega),Int.ediv_eq_zero_of_lt h0 h1,Int.zero_add]
theorem ZfL {x m:W4}{n:Int}{q l:Int}(hm:m.ok) (h:x.val=q*m.val+l) (h0:0≤l) (h1:l<q) (hq:q=2^n.toNat):m=W4.of (x.val/2^n.toNat):=by
 rw[← hq,Zwq h h0 h1,W4.of_val hm]
theorem Znn {x:W4}(hx:x.ok) {n:Int}(hn:0≤n) (hj:n/64=0):Zwm x n=W4.of (x.val/2^n.toNat)∧(Zwm x n).ok:=by
 obtain⟨h1,h2,h3,h4⟩:=hx;obtain⟨l1,o1,d1,s1,m1,l10,l11,e1⟩:=zZ hn h1 h2;obtain⟨l2,o2,d2,s2,m2,l20,l21,e2⟩:=zZ hn h2 h3;obtain⟨l3,o3,d3,s3,m3,l30,l31,e3⟩:=zZ hn h3 h4;obtain⟨l4,_,d4,_,_,l40,l41,e4⟩:=zZ hn h4 h1;have e:=Zaz n hn 0 hj;have one:(2:Int)^(64*0)=1:=rfl;rw[one,Int.one_mul] at e;have hok:(Zwm x n).ok:=by unfold Zwm;rw[o1,o2,o3];exact⟨s1,s2,s3,d4⟩
 refine⟨ZfL (q:=2^(n % 64).toNat) (l:=l4) hok ?_ l40 l41 e.symm,hok⟩;rw[Int.mul_comm,ZbO];unfold Zwm W4.val;dsimp only;rw[o1,o2,o3];generalize (2:Int)^(n % 64).toNat=q at*;simp only[Int.mul_comm _ q,Int.mul_add];omega
theorem Zno {x:W4}(hx:x.ok) {n:Int}(hn:0≤n) (hj:n/64=1):Zwn x n=W4.of (x.val/2^n.toNat)∧(Zwn x n).ok:=by
 obtain⟨h1,h2,h3,h4⟩:=hx;obtain⟨l2,o2,d2,s2,m2,l20,l21,e2⟩:=zZ hn h2 h3;obtain⟨l3,o3,d3,s3,m3,l30,l31,e3⟩:=zZ hn h3 h4;obtain⟨l4,_,d4,_,_,_,_,_⟩:=zZ hn h4 h1;obtain⟨l5,_,_,_,_,l50,l51,e5⟩:=zZ hn h1 h2;have e:=Zaz n hn 1 hj;have one:(2:Int)^(64*1)=18446744073709551616:=rfl;rw[one] at e;have hok:(Zwn x n).ok:=by unfold Zwn;rw[o2,o3];exact⟨s2,s3,d4,z64⟩
 refine⟨ZfL (q:=18446744073709551616*2^(n % 64).toNat) (l:=x.a+18446744073709551616*l5) hok ?_ (by omega) (by omega) e.symm,hok⟩;rw[Int.mul_assoc,Int.mul_comm (2^(n % 64).toNat),ZbO];unfold Zwn W4.val;dsimp only;rw[o2,o3];generalize (2:Int)^(n % 64).toNat=q at*;simp only[Int.mul_comm _ q,Int.mul_add];omega
theorem Znp {x:W4}(hx:x.ok) {n:Int}(hn:0≤n) (hj:n/64=2):Zwo x n=W4.of (x.val/2^n.toNat)∧(Zwo x n).ok:=by
 obtain⟨h1,h2,h3,h4⟩:=hx;obtain⟨l3,o3,d3,s3,m3,l30,l31,e3⟩:=zZ hn h3 h4;obtain⟨l4,_,d4,_,_,_,_,_⟩:=zZ hn h4 h1;obtain⟨l5,_,_,_,_,l50,l51,e5⟩:=zZ hn h1 h3;have e:=Zaz n hn 2 hj;have one:(2:Int)^(64*2)=340282366920938463463374607431768211456:=rfl;rw[one] at e;have hok:(Zwo x n).ok:=by unfold Zwo;rw[o3];exact⟨s3,d4,z64,z64⟩
 refine⟨ZfL (q:=340282366920938463463374607431768211456*2^(n % 64).toNat) (l:=x.a+18446744073709551616*x.b+340282366920938463463374607431768211456*l5) hok ?_ (by omega) (by omega) e.symm,hok⟩;rw[Int.mul_assoc,Int.mul_comm (2^(n % 64).toNat),ZbO];unfold Zwo W4.val;dsimp only;rw[o3];generalize (2:Int)^(n % 64).toNat=q at*;simp only[Int.mul_comm _ q,Int.mul_add];omega
theorem Znq {x:W4}(hx:x.ok) {n:Int}(hn:0≤n) (hj:n/64=3):Zwp x n=W4.of (x.val/2^n.toNat)∧(Zwp x n).ok:=by
 obtain⟨h1,h2,h3,h4⟩:=hx;obtain⟨l4,_,d4,_,_,_,_,_⟩:=zZ hn h4 h1;obtain⟨l5,_,_,_,_,l50,l51,e5⟩:=zZ hn h1 h4;have e:=Zaz n hn 3 hj;have one:(2:Int)^(64*3)=6277101735386680763835789423207666416102355444464034512896:=rfl;rw[one] at e;have hok:(Zwp x n).ok:=by unfold Zwp;exact⟨d4,z64,z64,z64⟩
 refine⟨ZfL (q:=6277101735386680763835789423207666416102355444464034512896*2^(n % 64).toNat) (l:=x.a+18446744073709551616*x.b+340282366920938463463374607431768211456*x.c+6277101735386680763835789423207666416102355444464034512896*l5) hok ?_ (by omega) (by omega) e.symm,hok⟩;rw[Int.mul_assoc,Int.mul_comm (2^(n % 64).toNat),ZbO];unfold Zwp W4.val;dsimp only;generalize (2:Int)^(n % 64).toNat=q at*;simp only[Int.mul_comm _ q];omega
end Go.Wd
namespace Go.Wd
open Go.Rn
def W4.nat (x:W4):Nat:=x.val.toNat
theorem W4.nat_val {x:W4}(h:x.ok):x.val=(x.nat:Int):=by
 have:=(W4.val_bd h).1;unfold W4.nat;omega
theorem W4.nat_lt {x:W4}(h:x.ok):x.nat<2^256:=by
 have:=W4.val_bd h;have e:(2:Nat)^256=115792089237316195423570985008687907853269984665640564039457584007913129639936:=rfl;unfold W4.nat;omega
def ofN (n:Nat):W4:=W4.of (n:Int)
theorem zV (n:Nat):(ofN n).ok:=W4.ok_of _
theorem Zbr {n:Nat}(h:n<2^256):(ofN n).nat=n:=by
 have e:(2:Nat)^256=115792089237316195423570985008687907853269984665640564039457584007913129639936:=rfl;unfold W4.nat ofN;rw[W4.val_of];omega
theorem ZdD {x:W4}(h:x.ok):ofN x.nat=x:=by
 unfold ofN;rw[← W4.nat_val h,W4.of_val h]
theorem Z12 (n:Int):W4.of (n % 115792089237316195423570985008687907853269984665640564039457584007913129639936)=W4.of n:=by
 unfold W4.of;refine W4.ext' ?_ ?_ ?_ ?_<;>dsimp only<;>omega
theorem ZhA (n:Nat):ofN (n % 2^256)=ofN n:=by
 have e:(2:Nat)^256=115792089237316195423570985008687907853269984665640564039457584007913129639936:=rfl;unfold ofN;rw[← Z12 (n:Int),e];congr 1
theorem ZcE:ofN 0=⟨0,0,0,0⟩:=by rfl
theorem Zwr {n k:Nat}(h:256≤k):ofN (n*2^k)=⟨0,0,0,0⟩:=by
 rw[← ZhA];have:n*2^k % 2^256=0:=by
  obtain⟨j,rfl⟩:∃ j,k=j+256:=⟨k-256,by omega⟩;rw[Nat.pow_add,← Nat.mul_assoc,Nat.mul_mod_left]
 rw[this,ZcE]
theorem ZhB (n k:Nat):ofN (n % 2^256*k)=ofN (n*k):=by
 rw[← ZhA (n % 2^256*k),← ZhA (n*k),Nat.mod_mul_mod]
theorem ZgG {n k:Nat}(h:n<2^256) (hk:256≤k):n/2^k=0:=by
 have:=Nat.pow_le_pow_right (show 0<2 by omega) hk;exact Nat.div_eq_of_lt (by omega)
theorem Znr {n k:Nat}(h:n<2^256) (hk:256≤k):n % 2^k=n:=by
 have:=Nat.pow_le_pow_right (show 0<2 by omega) hk;exact Nat.mod_eq_of_lt (by omega)
theorem cast_pow (k:Nat):((2:Int)^k)=((2^k:Nat):Int):=by simp
def tw (x:W4) (b:Bool):Nat:=2*x.nat+(match b with | true=>1 | false=>0)
theorem Zns (x:W4) (b:Bool) (d:Nat):tw x b/2^(d+1)=x.nat/2^d:=by
 unfold tw;rw[Nat.pow_succ,Nat.mul_comm (2^d) 2,← Nat.div_div_eq_div_mul];congr 1;cases b<;>simp only<;>omega
theorem ZgH (x:W4) (b:Bool) (d:Nat):tw x b % 2^(d+1)=2*(x.nat % 2^d)+(match b with | true=>1 | false=>0):=by
 unfold tw;rw[Nat.pow_succ,Nat.mul_comm (2^d) 2,Nat.mod_mul];have e:(2*x.nat+(match b with | true=>1 | false=>0))/2=x.nat:=by cases b<;>simp only<;>omega
 rw[e];cases b<;>simp only<;>omega
theorem Znt {x:W4}{b:Bool}(h:x.ok):tw x b=0↔(eqW x ⟨0,0,0,0⟩ && !b)=true:=by
 have e:x.nat=0↔x=⟨0,0,0,0⟩:=by
  constructor
  ·intro h0;rw[← ZdD h,h0,ZcE]
  ·intro h0;rw[h0];rfl
 rw[Xh,ZfK,← e];unfold tw;cases b<;>simp<;>omega
theorem Zws {x:W4}{d:Nat}(h:x.nat % 2^d=0):zF (tw x false % 2^(d+1)) (2^(d+1))=0:=by
 rw[ZgH,h];simp [zF]
theorem Zwt {x:W4}:zF (tw x true % 2^(0+1)) (2^(0+1))=2:=by
 rw[ZgH];simp [zF,Nat.mod_one]
theorem ZfM (V j:Nat):V % 2^(j+1)=V % 2^j+2^j*(V/2^j % 2):=by rw[Nat.pow_succ,Nat.mod_mul]
theorem ZiO {x:W4}{b:Bool}{j:Nat}(h:x.nat/2^j % 2=0) (h0:x.nat % 2^(j+1)≠0∨b=true):zF (tw x b % 2^(j+1+1)) (2^(j+1+1))=1:=by
 have hp:0<2^j:=Nat.pow_pos (by omega);have hm:=ZfM x.nat j;rw[h,Nat.mul_zero,Nat.add_zero] at hm;have hl:=Nat.mod_lt x.nat hp;rw[hm] at h0;rw[ZgH,hm,Nat.pow_succ,Nat.pow_succ];unfold zF;cases b
 ·simp only[Bool.false_eq_true,or_false] at*;rw[if_neg (by omega),if_pos (by omega)]
 ·simp only;rw[if_neg (by omega),if_pos (by omega)]
theorem ZfN {x:W4}{b:Bool}{j:Nat}(h:x.nat/2^j % 2=1) (h0:x.nat % 2^j≠0∨b=true):zF (tw x b % 2^(j+1+1)) (2^(j+1+1))=3:=by
 have hp:0<2^j:=Nat.pow_pos (by omega);have hm:=ZfM x.nat j;rw[h,Nat.mul_one] at hm;rw[ZgH,hm,Nat.pow_succ,Nat.pow_succ];unfold zF;cases b
 ·simp only[Bool.false_eq_true,or_false] at*;rw[if_neg (by omega),if_neg (by omega),if_neg (by omega)]
 ·simp only;rw[if_neg (by omega),if_neg (by omega),if_neg (by omega)]
theorem Zwu {x:W4}{j:Nat}(h:x.nat/2^j % 2=1) (h0:x.nat % 2^j=0):zF (tw x false % 2^(j+1+1)) (2^(j+1+1))=2:=by
 have hp:0<2^j:=Nat.pow_pos (by omega);have hm:=ZfM x.nat j;rw[h,h0,Nat.mul_one] at hm;rw[ZgH,hm,Nat.pow_succ,Nat.pow_succ];unfold zF;simp only;rw[if_neg (by omega),if_neg (by omega),if_pos (by omega)]
theorem ZqY {x:W4}(hx:x.ok) {j:Nat}(h:x.nat/2^j % 2=1):eqW x (ofN ((2*(x.nat/2^(j+1))+1)*2^j))=decide (x.nat % 2^j=0):=by
 have hl:=W4.nat_lt hx;have hm:=ZfM x.nat j;rw[h,Nat.mul_one] at hm;have hd:=Nat.div_add_mod x.nat (2^(j+1));have e:(2*(x.nat/2^(j+1))+1)*2^j=x.nat-x.nat % 2^j:=by
  rw[Nat.pow_succ] at hd hm ⊢;rw[Nat.add_mul,Nat.one_mul,Nat.mul_comm 2,Nat.mul_assoc,Nat.mul_comm 2,Nat.mul_comm];omega
 rw[e,Bool.eq_iff_iff,ZfK,Xi];have hle:x.nat % 2^j≤x.nat:=Nat.mod_le _ _;constructor
 ·intro hh;have:=congrArg W4.nat hh;rw[Zbr (by omega)] at this;omega
 ·intro hh;rw[hh,Nat.sub_zero,ZdD hx]
end Go.Wd
namespace Go.Rn
open Go.Nt Go.Wd
theorem Zwv {k:Nat}(hk:300≤k):4*2^256≤2^k:=by
 obtain⟨j,rfl⟩:∃ j,k=256+(2+j):=⟨k-258,by omega⟩;have hj:0<2^j:=Nat.pow_pos (by omega);rw[Nat.pow_add,Nat.pow_add,Nat.mul_comm 4];refine Nat.mul_le_mul_left _ ?_;show 4≤4*2^j;omega
def mN (m:Int):Int:=if m<0 then 0 else if m>4 then 0 else m
theorem Ztp (m:Int) (neg o:Bool) (c:Int):upR (mN m) neg o c=upR m neg o c:=by
 unfold mN;by_cases h0:m<0
 ·rw[if_pos h0];unfold upR;rw[if_neg (show ¬ m=2 by omega),if_neg (show ¬ m=3 by omega),if_neg (show ¬ m=4 by omega),if_neg (show ¬ m=1 by omega)];simp
 ·rw[if_neg h0];by_cases h4:m>4
  ·rw[if_pos h4];unfold upR;rw[if_neg (show ¬ m=2 by omega),if_neg (show ¬ m=3 by omega),if_neg (show ¬ m=4 by omega),if_neg (show ¬ m=1 by omega)];simp
  ·rw[if_neg h4]
theorem Ztq (m:Int) (neg:Bool) (T:Nat) (E e:Int):toQ (mN m) neg T E e=toQ m neg T E e:=by
 unfold toQ rq;simp only[Ztp]
def rT (x:W4) (b:Bool):Nat:=match b with | true=>2*x.nat+1 | false=>x.nat
def jB (b:Bool):Int:=match b with | true=>1 | false=>0
theorem Z62 {x:W4}(hx:x.ok) (b:Bool):rT x b<2*2^256:=by
 have:=W4.nat_lt hx;unfold rT;cases b<;>simp only<;>omega
theorem Z13 (m:Int) (neg:Bool) (T:Nat) (E:Int):rnP (mN m) neg T E=rnP m neg T E:=by
 unfold rnP p0 bey;simp only[Ztq,Ztp]
theorem Z14 (m:Int) (neg:Bool) (T:Nat) (E:Int):rnF (mN m) neg T E=rnF m neg T E:=by
 unfold rnF p0 ZdC;simp only[Ztq]
theorem Z15 {m:Int}{neg:Bool}{T:Nat}{E:Int}(hT:T≠0) (h:1024≤lgN T E):9218868437227405312≤p0 m neg T E:=by
 have hq:=Zni (m:=m) (neg:=neg) (T:=T) (E:=E) hT (by omega);have hl:z5 T E=lgN T E-52:=by unfold z5;rw[if_neg (by omega)]
 unfold p0;rw[hl] at hq ⊢;omega
theorem Zep {m:Int}{neg:Bool}{T:Nat}{E:Int}(hT:T≠0) (h:1024≤lgN T E):rnP m neg T E=bey m neg∧rnF m neg T E=20:=by
 have:=Z15 (m:=m) (neg:=neg) hT h;unfold rnP rnF;rw[if_neg hT,if_neg hT,if_pos this,if_pos this];exact⟨rfl,rfl⟩
theorem Zdt {m:Int}{neg:Bool}{T:Nat}{E:Int}(hT:T≠0) (h:lgN T E≤ -1100):rnP m neg T E=(if upR m neg false 1=true then 1 else 0)∧rnF m neg T E=24:=by
 have hb:=(bitLen_spec T).1;have hl:z5 T E= -1074:=by unfold z5;rw[if_pos (by omega)]
 have hE:¬ (-1074:Int)≤E:=by unfold lgN at h;have:=Za1 hT;omega
 have hk:bitLen T+2≤(-1074-E).toNat:=by unfold lgN at h;omega
 have hp:=Nat.pow_le_pow_right (show 0<2 by omega) hk;have e4:2^(bitLen T+2)=4*2^bitLen T:=by rw[Nat.pow_add,Nat.mul_comm]
 have hlt:2*T<2^(-1074-E).toNat:=by omega
 have hd:T/2^(-1074-E).toNat=0:=Nat.div_eq_of_lt (by omega);have hm:T % 2^(-1074-E).toNat=T:=Nat.mod_eq_of_lt (by omega);have hr:zF T (2^(-1074-E).toNat)=1:=by unfold zF;rw[if_neg hT,if_pos hlt]
 have hq:toQ m neg T E (-1074)=if upR m neg false 1=true then 1 else 0:=by
  unfold toQ rq;rw[if_neg hE,hd,hm,hr];have ho:odd 0=false:=rfl;rw[ho];simp
 have hL:toL T E (-1074)=true:=by unfold toL;rw[if_neg hE,hm];exact Xa hT
 have hti:ZdC m neg T E=true:=by unfold ZdC;rw[if_neg (by omega)];exact Xa (by omega)
 have hp0:p0 m neg T E=if upR m neg false 1=true then 1 else 0:=by
  unfold p0;rw[hl,hq];split<;>rfl
 unfold rnP rnF;rw[if_neg hT,if_neg hT,hp0,hl,hL,hti];split<;>simp
theorem Zff {m:Int}{neg:Bool}{x:W4}(hx:x.ok) (b:Bool) {C D:Int}(h:(C=D)∨(1700≤C∧1700≤D)∨(C≤ -1700∧D≤ -1700)):rnP m neg (tw x b) (C-1)=rnP m neg (rT x b) (D-jB b)∧rnF m neg (tw x b) (C-1)=rnF m neg (rT x b) (D-jB b):=by
 have hj:0≤jB b∧jB b≤1:=by cases b<;>simp [jB]
 have e:rnP m neg (tw x b) (C-1)=rnP m neg (rT x b) (C-jB b)∧rnF m neg (tw x b) (C-1)=rnF m neg (rT x b) (C-jB b):=by
  cases b with
  | true=>exact⟨rfl,rfl⟩
  | false=>
   have e1:tw x false=x.nat*2^1:=by unfold tw;simp [Nat.mul_comm]
   rw[e1];simp only[rT,jB,Int.sub_zero];exact⟨ZaG m neg x.nat 1 C,ZaH m neg x.nat 1 C⟩
 rw[e.1,e.2];rcases h with h | h | h
 ·rw[h];exact⟨rfl,rfl⟩
 ·by_cases hT:rT x b=0
  ·rw[hT];unfold rnP rnF;simp
  ·have hl:=Za1 hT;obtain⟨a1,a2⟩:=Zep (m:=m) (neg:=neg) (E:=C-jB b) hT (by unfold lgN;omega);obtain⟨b1,b2⟩:=Zep (m:=m) (neg:=neg) (E:=D-jB b) hT (by unfold lgN;omega);rw[a1,a2,b1,b2];exact⟨rfl,rfl⟩
 ·by_cases hT:rT x b=0
  ·rw[hT];unfold rnP rnF;simp
  ·have hlt:=Z62 hx b;obtain⟨k,hk⟩:∃ k:Nat,k=300:=⟨300,rfl⟩;have hfp:=Zwv (show 300≤k by omega);have hl:bitLen (rT x b)≤k:=len_le (by omega);obtain⟨a1,a2⟩:=Zdt (m:=m) (neg:=neg) (E:=C-jB b) hT (by unfold lgN;omega);obtain⟨b1,b2⟩:=Zdt (m:=m) (neg:=neg) (E:=D-jB b) hT (by unfold lgN;omega);rw[a1,a2,b1,b2];exact⟨rfl,rfl⟩
theorem Z16 {q:Nat}(h0:4503599627370496≤q) (h1:q≤9007199254740992):bitLen q=if q=9007199254740992 then 54 else 53:=by
 split
 ·rename_i h;rw[h];exact Zbq (k:=53) (by decide) (by decide)
 ·exact Zbq (k:=52) h0 (show q<2^53 by have:(2:Nat)^53=9007199254740992:=rfl;omega)
theorem ZqZ {m:Int}{neg:Bool}{T:Nat}{E:Int}(hT:T≠0):decide ((bitLen (toQ m neg T E (lgN T E-52)):Int)+(lgN T E+1)-53≤ -1022)=ZdC m neg T E:=by
 have h0:4503599627370496≤toQ m neg T E (lgN T E-52):=Ztk (n:=52) hT (by unfold lgN;omega);have h1:toQ m neg T E (lgN T E-52)≤9007199254740992:=ZiN (n:=53) (by unfold lgN;omega);have hl:=Z16 h0 h1;unfold ZdC;by_cases he:lgN T E= -1023
 ·have e:lgN T E-52= -1075:=by omega
  rw[e] at h0 h1 hl ⊢;rw[if_pos he,hl];congr 1;simp only[eq_iff_iff];split<;>omega
 ·rw[if_neg he,hl];congr 1;simp only[eq_iff_iff];split<;>omega
theorem Zra {m:Int}{neg:Bool}{T:Nat}{E:Int}(hT:T≠0):decide ((bitLen (toQ m neg T E (z5 T E)):Int)+z5 T E>1024)=decide (9218868437227405312≤p0 m neg T E):=by
 have h1:=ZgF m neg T E;have hle:=ZfJ T E;congr 1;simp only[eq_iff_iff];unfold p0;by_cases hn:z5 T E= -1074
 ·have hl:bitLen (toQ m neg T E (z5 T E))≤54:=by
   have:toQ m neg T E (z5 T E)<2^54:=by have e:(2:Nat)^54=18014398509481984:=rfl;omega
   exact len_le this
  omega
 ·have h0:=Zni (m:=m) (neg:=neg) (E:=E) hT (by unfold z5 at hn;split at hn<;>omega);have hl:=Z16 h0 h1;rw[hl];split<;>omega
def stk (A d:Nat):Nat:=2*(A/2^d)+(if A % 2^d=0 then 0 else 1)
theorem Zww (A d:Nat):(if A % 2^d=0 then 0 else 1)≤1:=by split<;>omega
theorem Znu (A d j:Nat):stk A d/2^(j+1)=A/2^(d+j):=by
 have e:stk A d/2=A/2^d:=by unfold stk;split<;>omega
 rw[Nat.pow_succ,Nat.mul_comm,← Nat.div_div_eq_div_mul,e,Nat.div_div_eq_div_mul,Nat.pow_add]
theorem Znv (A d j:Nat):stk A d % 2^(j+1)=2*(A/2^d % 2^j)+(if A % 2^d=0 then 0 else 1):=by
 rw[Nat.pow_succ,Nat.mul_comm,Nat.mod_mul];have e:stk A d/2=A/2^d:=by unfold stk;split<;>omega
 rw[e];unfold stk;split<;>omega
theorem Znw (A d j:Nat):A % 2^(d+j)=A % 2^d+2^d*(A/2^d % 2^j):=by rw[Nat.pow_add,Nat.mod_mul]
theorem Zrb (A d j:Nat):stk A d % 2^(j+1)=0↔A % 2^(d+j)=0:=by
 have hD:0<2^d:=Nat.pow_pos (by omega);rw[Znv,Znw];generalize A/2^d % 2^j=r;constructor
 ·intro h;have h1:A % 2^d=0:=by
   by_cases h0:A % 2^d=0
   ·exact h0
   ·rw[if_neg h0] at h;omega
  rw[if_pos h1] at h;have:r=0:=by omega
  rw[h1,this];simp
 ·intro h;have h1:A % 2^d=0:=by omega
  rw[if_pos h1];have h2:2^d*r=0:=by omega
  rcases Nat.mul_eq_zero.1 h2 with h3 | h3
  ·omega
  ·rw[h3]
theorem Znx {r r' D Q s:Nat}(hD:r'<D) (hQ:0<Q) (hb:s≤1) (hs:s=0↔r'=0):zF (2*r+s) (4*Q)=zF (r'+D*r) (2*(D*Q)):=by
 have hDr:r≤D*r:=Nat.le_mul_of_pos_left r (by omega);unfold zF;by_cases h0:r'+D*r=0
 ·have:r'=0:=by omega
  have:=hs.2 this;rw[if_pos h0,if_pos (by omega)]
 ·have hz:¬ 2*r+s=0:=by
   intro h;apply h0;have h1:r=0:=by omega
   have h2:=hs.1 (by omega);rw[h1,h2];rfl
  rw[if_neg h0,if_neg hz];rcases Nat.lt_trichotomy r Q with h | h | h
  ·have h1:D*r+D≤D*Q:=by rw[← Nat.mul_succ];exact Nat.mul_le_mul_left D h
   rw[if_pos (by omega),if_pos (by omega)]
  ·subst h;by_cases hs0:s=0
   ·have:=hs.1 hs0;rw[if_neg (by omega),if_pos (by omega),if_neg (by omega),if_pos (by omega)]
   ·have:r'≠0:=fun h=>hs0 (hs.2 h);rw[if_neg (by omega),if_neg (by omega),if_neg (by omega),if_neg (by omega)]
  ·have h1:D*Q+D≤D*r:=by rw[← Nat.mul_succ];exact Nat.mul_le_mul_left D h
   rw[if_neg (by omega),if_neg (by omega),if_neg (by omega),if_neg (by omega)]
theorem Zrc (A d j:Nat):zF (stk A d % 2^(j+2)) (2^(j+2))=zF (A % 2^(d+(j+1))) (2^(d+(j+1))):=by
 have hD:0<2^d:=Nat.pow_pos (by omega);have hQ:0<2^j:=Nat.pow_pos (by omega);have eP:2^(j+1+1)=4*2^j:=by rw[Nat.pow_succ,Nat.pow_succ];omega
 have eP2:2^(d+(j+1))=2*(2^d*2^j):=by rw[Nat.pow_add,Nat.pow_succ,← Nat.mul_assoc];omega
 have e1:=Znv A d (j+1);have e2:=Znw A d (j+1);rw[show j+2=(j+1)+1 by omega,e1,e2,eP,eP2];exact Znx (Nat.mod_lt A hD) hQ (Zww A d) (by split<;>omega)
theorem Z17 (m:Int) (neg:Bool) (A d j:Nat):rq m neg (stk A d) (j+2)=rq m neg A (d+(j+1)):=by
 unfold rq;rw[Zrc,show j+2=(j+1)+1 by omega,Znu]
theorem ZhC (m:Int) (neg:Bool) (A d:Nat) {F e:Int}(h:F+d+1≤e):toQ m neg (stk A d) (F+d-1) e=toQ m neg A F e:=by
 obtain⟨j,hj⟩:∃ j:Nat,e=F+d+1+j:=⟨(e-(F+d+1)).toNat,by omega⟩;unfold toQ;rw[if_neg (by omega),if_neg (by omega),show (e-(F+d-1)).toNat=j+2 by omega,show (e-F).toNat=d+(j+1) by omega,Z17]
theorem Zny (A d:Nat) {F e:Int}(h:F+d+1≤e):toL (stk A d) (F+d-1) e=toL A F e:=by
 obtain⟨j,hj⟩:∃ j:Nat,e=F+d+1+j:=⟨(e-(F+d+1)).toNat,by omega⟩;unfold toL;rw[if_neg (by omega),if_neg (by omega),show (e-(F+d-1)).toNat=j+1+1 by omega,show (e-F).toNat=d+(j+1) by omega];congr 1;simp only[ne_eq,eq_iff_iff];exact not_congr (Zrb A d (j+1))
theorem Znz {A d:Nat}(h:A/2^d≠0):bitLen (stk A d)=bitLen (A/2^d)+1:=by
 have e:stk A d/2^1=A/2^d:=by
  have:=Znu A d 0;simpa using this
 rw[bitLen_shift (stk A d) 1 (by rw[e];exact h),e];omega
theorem Zn0 {A d:Nat}{F:Int}(h:A/2^d≠0):lgN (stk A d) (F+d-1)=lgN A F:=by
 have e:=bitLen_shift A d h;unfold lgN;rw[Znz h];omega
theorem ZcF {m:Int}{neg:Bool}{A d:Nat}{F:Int}(h:A % 2^d=0∨54≤bitLen (A/2^d)):rnP m neg (stk A d) (F+d-1)=rnP m neg A F∧rnF m neg (stk A d) (F+d-1)=rnF m neg A F:=by
 by_cases h0:A % 2^d=0
 ·have e1:stk A d=A/2^d*2^1:=by unfold stk;rw[if_pos h0];omega
  have e2:A=A/2^d*2^d:=by
   have:=Nat.div_add_mod A (2^d);rw[h0,Nat.mul_comm] at this;omega
  have p1:=ZaG m neg (A/2^d) 1 (F+d);have p2:=ZaG m neg (A/2^d) d (F+d);have f1:=ZaH m neg (A/2^d) 1 (F+d);have f2:=ZaH m neg (A/2^d) d (F+d);rw[show F+(d:Int)-((1:Nat):Int)=F+d-1 by omega,← e1] at p1 f1;rw[show F+(d:Int)-(d:Int)=F by omega,← e2] at p2 f2;exact⟨by rw[p1,p2],by rw[f1,f2]⟩
 ·have hb:54≤bitLen (A/2^d):=by exact h.resolve_left h0
  have hq:A/2^d≠0:=fun h=>by rw[h] at hb;simp [bitLen] at hb
  have hA:A≠0:=fun h=>h0 (by rw[h];simp);have hs:stk A d≠0:=by unfold stk;omega
  have hl:=Zn0 (F:=F) hq;have hlw:z5 (stk A d) (F+d-1)=z5 A F:=by unfold z5;rw[hl]
  have hlg:lgN A F=F+d+bitLen (A/2^d)-1:=by rw[← hl];unfold lgN;rw[Znz hq];omega
  have hge:F+d+1≤z5 A F:=by unfold z5;split<;>omega
  have hp:p0 m neg (stk A d) (F+d-1)=p0 m neg A F:=by unfold p0;rw[hlw,ZhC m neg A d hge]
  have ht:ZdC m neg (stk A d) (F+d-1)=ZdC m neg A F:=by
   unfold ZdC;rw[hl];by_cases hn:lgN A F= -1023
   ·rw[if_pos hn,if_pos hn,ZhC m neg A d (by omega)]
   ·rw[if_neg hn,if_neg hn]
  unfold rnP rnF;rw[if_neg hs,if_neg hA,if_neg hs,if_neg hA,hp,hlw,Zny A d hge,ht];exact⟨rfl,rfl⟩
end Go.Rn
namespace Go.Rn
open Go.Nt Go.Wd Go.Pt
def dvK (A B k:Nat):Nat:=2*(A*2^k/B)+(if A*2^k % B=0 then 0 else 1)
theorem Zn1 {A B:Nat}(k:Nat):A*2^k % (B*2^k)=A % B*2^k:=Nat.mul_mod_mul_right (2^k) A B
theorem Zn2 (A B k j:Nat):dvK A B (k+j)/2^(j+1)=A*2^k/B:=by
 have hp:0<2^j:=Nat.pow_pos (by omega);have e1:A*2^(k+j)/B/2^j=A*2^k/B:=by
  rw[Nat.div_div_eq_div_mul,Nat.pow_add,← Nat.mul_assoc,Nat.mul_div_mul_right _ _ hp]
 have:dvK A B (k+j)/2=A*2^(k+j)/B:=by unfold dvK;split<;>omega
 rw[Nat.pow_succ,Nat.mul_comm (2^j) 2,← Nat.div_div_eq_div_mul,this,e1]
theorem Zn3 (A B k j:Nat):stk (dvK A B (k+j)) (j+1)=dvK A B k:=by
 have hp:0<2^j:=Nat.pow_pos (by omega);have e1:A*2^(k+j)/B/2^j=A*2^k/B:=by
  rw[Nat.div_div_eq_div_mul,Nat.pow_add,← Nat.mul_assoc,Nat.mul_div_mul_right _ _ hp]
 have e2:=Zn2 A B k j;have e3:dvK A B (k+j) % 2^(j+1)=0↔A*2^k % B=0:=by
  have d2:dvK A B (k+j)/2=A*2^(k+j)/B:=by unfold dvK;split<;>omega
  have m2:dvK A B (k+j) % 2=if A*2^(k+j) % B=0 then 0 else 1:=by unfold dvK;split<;>omega
  rw[Nat.pow_succ,Nat.mul_comm (2^j) 2,Nat.mod_mul,d2,m2];have e:A*2^(k+j) % B+B*(A*2^(k+j)/B % 2^j)=A*2^k % B*2^j:=by
   rw[← Nat.mod_mul,← Zn1,Nat.mul_assoc,← Nat.pow_add]
  constructor
  ·intro h;have h1:A*2^(k+j) % B=0:=by
    by_cases h0:A*2^(k+j) % B=0
    ·exact h0
    ·rw[if_neg h0] at h;omega
   have h2:A*2^(k+j)/B % 2^j=0:=by omega
   rw[h1,h2,Nat.mul_zero] at e;rcases Nat.mul_eq_zero.1 e.symm with h3 | h3
   ·exact h3
   ·omega
  ·intro h;rw[h,Nat.zero_mul] at e;have h1:A*2^(k+j) % B=0:=by omega
   rw[if_pos h1];rcases Nat.mul_eq_zero.1 (show B*(A*2^(k+j)/B % 2^j)=0 by omega) with h2 | h2
   ·rw[h2,Nat.div_zero,Nat.zero_mod]
   ·rw[h2]
 unfold stk;rw[e2];by_cases h:A*2^k % B=0
 ·rw[if_pos (e3.2 h)];unfold dvK;rw[if_pos h]
 ·rw[if_neg (fun h'=>h (e3.1 h'))];unfold dvK;rw[if_neg h]
end Go.Rn
namespace Go.Rd
def ZU (c b:Int):Int:=if 48≤c∧c≤57 then c-48 else if b=16∧97≤c∧c≤102 then c-87 else -1
theorem ZfO (c b:Int): -1≤ZU c b∧ZU c b<16:=by
 unfold ZU;split
 ·omega
 ·split<;>omega
theorem Zrd (c:Int):ZU c 10<10:=by
 unfold ZU;split
 ·omega
 ·rw[if_neg (by omega)];omega
def lq8 (c:UInt8):Int:=((c.toNat:Nat):Int)
def zG (b:Int) (l:List UInt8):Bool:=l.all fun c=>decide (0≤ZU (lq8 c) b)
def nmB (b:Int) (l:List UInt8):Nat:=l.foldl (fun a c=>a*b.toNat+(ZU (lq8 c) b).toNat) 0
def sc1 (b:Int):Bool→List UInt8→List UInt8×Nat×List UInt8
 | _,[]=>([],0,[])
 | p,c::l=>
  if lq8 c=46∧p=false then sc1 b true l
  else if 0≤ZU (lq8 c) b then (c::(sc1 b p l).1,(if p=true then 1 else 0)+(sc1 b p l).2.1,(sc1 b p l).2.2)
  else ([],0,c::l)
def pw1:Nat→List UInt8→Nat×Bool
 | a,[]=>(a,true)
 | a,c::l=>if 0≤ZU (lq8 c) 10 then pw1 (min (10*a+(ZU (lq8 c) 10).toNat) 2000000) l else (a,false)
def sgT:List UInt8→Bool×List UInt8
 | []=>(false,[])
 | c::r=>if lq8 c=45 then (true,r) else if lq8 c=43 then (false,r) else (false,c::r)
def scE (b:Int):List UInt8→Int×Bool
 | []=>(0,decide (b=10))
 | c::r=>
  if (b=10∧lq8 c≠101)∨(b=16∧lq8 c≠112) then (0,false)
  else if (sgT r).2=[] then (0,false)
  else if (pw1 0 (sgT r).2).2=false then (((pw1 0 (sgT r).2).1:Nat),false)
  else (if (sgT r).1=true then -((pw1 0 (sgT r).2).1:Nat) else ((pw1 0 (sgT r).2).1:Nat),true)
def scA (b:Int) (l:List UInt8):Int×Bool:=if (sc1 b false l).1=[] then (0,false) else scE b (sc1 b false l).2.2
theorem Zbs {l:List UInt8}{i:Nat}(h:i<l.length):l.drop i=l.getD i 0::l.drop (i+1):=by
 rw[List.getD_eq_getElem?_getD,List.getElem?_eq_getElem h,Option.getD_some];exact List.drop_eq_getElem_cons h
theorem Z18 (a:Nat) (l:List UInt8) (h:a≤2000000):(pw1 a l).1≤2000000:=by
 induction l generalizing a with
 | nil=>exact h
 | cons c l ih=>
  unfold pw1;split
  ·exact ih _ (by omega)
  ·exact h
theorem Z19 (b:Int) (r:List UInt8): -2000000≤(scE b r).1∧(scE b r).1≤2000000:=by
 unfold scE;split
 ·exact⟨show (-2000000:Int)≤0 by decide,show (0:Int)≤2000000 by decide⟩
 ·rename_i c r;have:=Z18 0 (sgT r).2 (by omega);split
  ·exact⟨by decide,by decide⟩
  ·split
   ·exact⟨by decide,by decide⟩
   ·split
    ·constructor<;>dsimp only<;>omega
    ·dsimp only;split<;>omega
theorem ZgI (b:Int) (p:Bool) (l:List UInt8):(sc1 b p l).1.length≤l.length∧(sc1 b p l).2.1≤(sc1 b p l).1.length∧zG b (sc1 b p l).1=true:=by
 induction l generalizing p with
 | nil=>exact⟨Nat.le_refl _,Nat.le_refl _,rfl⟩
 | cons c l ih=>
  unfold sc1;split
  ·obtain⟨h1,h2,h3⟩:=ih true;exact⟨by rw[List.length_cons];omega,h2,h3⟩
  ·split
   ·rename_i h;obtain⟨h1,h2,h3⟩:=ih p;refine⟨by dsimp only;rw[List.length_cons,List.length_cons];omega,by dsimp only;rw[List.length_cons];split<;>omega,?_⟩;show zG b (c::(sc1 b p l).1)=true;unfold zG at h3 ⊢;rw[List.all_cons,Xa h,h3];rfl
   ·exact⟨Nat.zero_le _,Nat.le_refl _,rfl⟩
theorem ZaQ (b:Int) (l:List UInt8) (c:UInt8):nmB b (l++[c])=nmB b l*b.toNat+(ZU (lq8 c) b).toNat:=by
 unfold nmB;rw[List.foldl_append];rfl
theorem ZfP (b:Int) (l:List UInt8) {i:Nat}(h:i<l.length):nmB b (l.take (i+1))=nmB b (l.take i)*b.toNat+(ZU (lq8 (l.getD i 0)) b).toNat:=by
 rw[← ZaQ];congr 1;rw[List.getD_eq_getElem?_getD,List.getElem?_eq_getElem h,Option.getD_some];exact (List.take_append_getElem h).symm
theorem Zdu {b:Int}(hb:b=10∨b=16) (l:List UInt8):nmB b l<b.toNat^l.length:=by
 have key:∀ (l:List UInt8) (k:Nat),l.length=k→nmB b l<b.toNat^k:=by
  intro l k
  induction k generalizing l with
  | zero=>
   intro h;rw[List.eq_nil_of_length_eq_zero h];exact Nat.one_pos
  | succ k ih=>
   intro h;have hne:l≠[]:=fun h0=>by rw[h0] at h;cases h
   obtain⟨l',c,rfl⟩:∃ l' c,l=l'++[c]:=⟨l.dropLast,l.getLast hne,(List.dropLast_concat_getLast hne).symm⟩;have h1:=ih l' (by simpa using h);rw[ZaQ,Nat.pow_succ];have hd:(ZU (lq8 c) b).toNat<b.toNat:=by
    rcases hb with rfl | rfl
    ·have:=Zrd (lq8 c);omega
    ·have:=(ZfO (lq8 c) 16).2;omega
   calc nmB b l'*b.toNat+(ZU (lq8 c) b).toNat<nmB b l'*b.toNat+b.toNat:=by omega
    _=(nmB b l'+1)*b.toNat:=by rw[Nat.add_mul,Nat.one_mul]
    _≤b.toNat^k*b.toNat:=Nat.mul_le_mul_right _ h1
 exact key l l.length rfl
open Go.Rn
def trZ (l:List UInt8):List UInt8:=l.dropWhile fun c=>lq8 c==48
def upN (A B:Nat):Nat:=((bitLen B:Int)-(bitLen A:Int)+80).toNat
def dnA (b:Int) (l:List UInt8) (k P:Int):Nat×Int:=
 if b=16 then (nmB 16 l,P-4*k)
 else if 320<P-k+(l.length:Nat) then (1,3000)
 else if P-k+(l.length:Nat)< -340 then (1,-3000)
 else if 0≤P-k then (nmB 10 l*10^(P-k).toNat,0)
 else (dvK (nmB 10 l) (10^(k-P).toNat) (upN (nmB 10 l) (10^(k-P).toNat)),-((upN (nmB 10 l) (10^(k-P).toNat):Nat):Int)-1)
theorem Ztr {A B:Nat}(hA:A≠0):2^79*B≤A*2^upN A B:=by
 have h1:=(bitLen_spec A).2 hA;have h2:=(bitLen_spec B).1;have h3:=Za1 hA;have h4:bitLen B+80≤upN A B+bitLen A:=by unfold upN;omega
 refine Nat.le_trans (Nat.mul_le_mul_left _ (Nat.le_of_lt h2)) ?_;rw[← Nat.pow_add];refine Nat.le_trans (Nat.pow_le_pow_right (by omega) (show 79+bitLen B≤(bitLen A-1)+upN A B by omega)) ?_;rw[Nat.pow_add];exact Nat.mul_le_mul_right _ h1
theorem ZdE (j:Nat):(10:Nat)^j<2^(4*j+1):=by
 have h1:(10:Nat)^j≤16^j:=Nat.pow_le_pow_left (by omega) j;have h2:(16:Nat)^j=2^(4*j):=by rw[Nat.pow_mul]
 have h3:(2:Nat)^(4*j)<2^(4*j+1):=Nat.pow_lt_pow_right (by omega) (by omega);omega
theorem Zeq {b:Int}(hb:b=10∨b=16) (l:List UInt8):nmB b l<2^(4*l.length):=by
 refine Nat.lt_of_lt_of_le (Zdu hb l) ?_;have h1:b.toNat^l.length≤16^l.length:=Nat.pow_le_pow_left (by omega) _;have h2:(16:Nat)^l.length=2^(4*l.length):=by rw[Nat.pow_mul]
 omega
theorem ZcG {b:Int}{l:List UInt8}(h:zG b l=true):zG b (trZ l)=true:=by
 unfold zG at*;rw[List.all_eq_true] at*;exact fun x hx=>h x ((List.dropWhile_sublist _).subset hx)
theorem Zdk (l:List UInt8):(trZ l).length≤l.length:=(List.dropWhile_sublist _).length_le
theorem ZdF {c:UInt8}{l:List UInt8}:trZ (c::l)=if lq8 c=48 then trZ l else c::l:=by
 unfold trZ;rw[List.dropWhile_cons];by_cases h:lq8 c=48<;>simp [h]
theorem Zcb {b:Int}{l r:List UInt8}{c:UInt8}(h:zG b l=true) (he:trZ l=c::r):0<ZU (lq8 c) b:=by
 have h1:=ZcG h;rw[he] at h1;unfold zG at h1;rw[List.all_cons,Xh] at h1;have h2:=Xc h1.1;have h3:lq8 c≠48:=by
  intro h4;clear h h1
  induction l with
  | nil=>cases he
  | cons x l ih=>
   rw[ZdF] at he;by_cases hx:lq8 x=48
   ·rw[if_pos hx] at he;exact ih he
   ·rw[if_neg hx] at he;cases he;exact hx h4
 unfold ZU at*;split
 ·omega
 ·rename_i h5;rw[if_neg h5] at h2;split
  ·omega
  ·rename_i h6;rw[if_neg h6] at h2;omega
theorem ZbP {b:Int}(hb:b=10∨b=16) {c:UInt8}{r:List UInt8}(h:0<ZU (lq8 c) b):0<nmB b (c::r):=by
 have key:∀ (r:List UInt8) (a:Nat),0<a→0<r.foldl (fun a c=>a*b.toNat+(ZU (lq8 c) b).toNat) a:=by
  intro r
  induction r with
  | nil=>intro a h;exact h
  | cons x r ih=>
   intro a h;refine ih _ ?_;exact Nat.lt_of_lt_of_le (Nat.mul_pos h (by omega)) (Nat.le_add_right _ _)
 unfold nmB;rw[List.foldl_cons];exact key r _ (by rw[Nat.zero_mul];omega)
def rdB (u:List UInt8):Int×List UInt8:=if 1<u.length∧u.take 2=[48,120] then (16,u.drop 2) else (10,u)
def rdQ (m:Int) (n:Bool) (b:Int) (v:List UInt8):Int×Int×Int:=
 if (scA b v).2=false then (0,0,3)
 else if trZ (sc1 b false v).1=[] then (if n=true then 9223372036854775808 else 0,0,0)
 else (if n=true then 9223372036854775808+rnP m n (dnA b (trZ (sc1 b false v).1) ((sc1 b false v).2.1:Nat) (scA b v).1).1 (dnA b (trZ (sc1 b false v).1) ((sc1 b false v).2.1:Nat) (scA b v).1).2 else rnP m n (dnA b (trZ (sc1 b false v).1) ((sc1 b false v).2.1:Nat) (scA b v).1).1 (dnA b (trZ (sc1 b false v).1) ((sc1 b false v).2.1:Nat) (scA b v).1).2,rnF m n (dnA b (trZ (sc1 b false v).1) ((sc1 b false v).2.1:Nat) (scA b v).1).1 (dnA b (trZ (sc1 b false v).1) ((sc1 b false v).2.1:Nat) (scA b v).1).2,0)
def rdP (m:Int) (l:List UInt8):Int×Int×Int:=
 if 65536<l.length then (0,0,2)
 else if (sgT l).2=[110,97,110] then (9221120237041090560,0,0)
 else if (sgT l).2=[105,110,102] then (if (sgT l).1=true then 18442240474082181120 else 9218868437227405312,0,0)
 else rdQ m (sgT l).1 (rdB (sgT l).2).1 (rdB (sgT l).2).2
theorem Z1A (b:Int) (hb:b=10∨b=16) (l:List UInt8) (h:l.length≤10000) (k P:Int) (hk:0≤k∧k≤10000) (hP: -2000000≤P∧P≤2000000):(dnA b l k P).1<2^(16*5625)∧ -4000000≤(dnA b l k P).2∧(dnA b l k P).2≤4000000:=by
 obtain⟨J,hJ⟩:∃ J,J=16*5625:=⟨_,rfl⟩;rw[← hJ];have hn:=Zeq hb l;have pb:∀ {j:Nat},j≤J→(2:Nat)^j≤2^J:=fun h=>Nat.pow_le_pow_right (by omega) h;unfold dnA;by_cases h16:b=16
 ·rw[if_pos h16];rw[h16] at hn;exact⟨Nat.lt_of_lt_of_le hn (pb (by omega)),by dsimp only;omega,by dsimp only;omega⟩
 rw[if_neg h16];have h10:b=10:=by omega
 rw[h10] at hn;have one:(1:Nat)<2^J:=Nat.one_lt_two_pow (by omega);split
 ·exact⟨one,by dsimp only;omega,by dsimp only;omega⟩
 split
 ·exact⟨one,by dsimp only;omega,by dsimp only;omega⟩
 rename_i h1 h2;split
 ·have tb:=ZdE (P-k).toNat;refine⟨?_,by dsimp only;omega,by dsimp only;omega⟩;dsimp only;refine Nat.lt_of_lt_of_le (Nat.mul_lt_mul'' hn tb) ?_;rw[← Nat.pow_add];exact pb (by omega)
 ·have tb:=ZdE (k-P).toNat;have bA:=len_le hn;have bB:=len_le tb;have hu:upN (nmB 10 l) (10^(k-P).toNat)≤41600:=by unfold upN;omega
  refine⟨?_,by dsimp only;omega,by dsimp only;omega⟩;dsimp only;unfold dvK;have h3:=Nat.div_le_self (nmB 10 l*2^upN (nmB 10 l) (10^(k-P).toNat)) (10^(k-P).toNat);have h4:nmB 10 l*2^upN (nmB 10 l) (10^(k-P).toNat)<2^(4*l.length+upN (nmB 10 l) (10^(k-P).toNat)):=by
   rw[Nat.pow_add];exact Nat.mul_lt_mul_of_pos_right hn (Nat.pow_pos (by omega))
  have h5:(2:Nat)^(4*l.length+upN (nmB 10 l) (10^(k-P).toNat))*4≤2^J:=by
   rw[show (4:Nat)=2^2 from rfl,← Nat.pow_add];exact pb (by omega)
  refine Nat.lt_of_lt_of_le ?_ h5;split<;>omega
end Go.Rd
namespace Go.Rd
open Go.Rn
theorem ZiP {m E:Int}{n:Bool}{A B k:Nat}(j:Nat) (h:54≤bitLen (A*2^k/B)):rnP m n (dvK A B k) (E+j)=rnP m n (dvK A B (k+j)) E∧rnF m n (dvK A B k) (E+j)=rnF m n (dvK A B (k+j)) E:=by
 have r:=ZcF (m:=m) (neg:=n) (A:=dvK A B (k+j)) (d:=j+1) (F:=E) (.inr (by rw[Zn2];exact h));rw[Zn3,show E+((j+1:Nat):Int)-1=E+(j:Int) by omega] at r;exact r
theorem Zwx {m:Int}{n:Bool}{A B k j:Nat}(h:54≤bitLen (A*2^k/B)) (h':54≤bitLen (A*2^j/B)):rnP m n (dvK A B k) (-(k:Int)-1)=rnP m n (dvK A B j) (-(j:Int)-1)∧rnF m n (dvK A B k) (-(k:Int)-1)=rnF m n (dvK A B j) (-(j:Int)-1):=by
 rcases Nat.le_total k j with hk | hk
 ·have r:=ZiP (m:=m) (n:=n) (E:= -(j:Int)-1) (j-k) h;rw[show k+(j-k)=j by omega,show -(j:Int)-1+((j-k:Nat):Int)= -(k:Int)-1 by omega] at r;exact r
 ·have r:=ZiP (m:=m) (n:=n) (E:= -(k:Int)-1) (k-j) h';rw[show j+(k-j)=k by omega,show -(k:Int)-1+((k-j:Nat):Int)= -(j:Int)-1 by omega] at r;exact⟨r.1.symm,r.2.symm⟩
theorem ZcH {A B:Nat}(hA:A≠0) (hB:B≠0):80≤bitLen (A*2^upN A B/B):=by
 refine ZcC (k:=79) ?_;rw[Nat.le_div_iff_mul_le (by omega)];exact Ztr hA
def rqP (m:Int) (n:Bool) (A B:Nat):Int:=rnP m n (dvK A B (upN A B)) (-((upN A B:Nat):Int)-1)
def rqF (m:Int) (n:Bool) (A B:Nat):Int:=rnF m n (dvK A B (upN A B)) (-((upN A B:Nat):Int)-1)
theorem Zn4 {m:Int}{n:Bool}{A B k:Nat}(hA:A≠0) (hB:B≠0) (h:54≤bitLen (A*2^k/B)):rnP m n (dvK A B k) (-(k:Int)-1)=rqP m n A B∧rnF m n (dvK A B k) (-(k:Int)-1)=rqF m n A B:=
 Zwx h (Nat.le_trans (by omega) (ZcH hA hB))
theorem Zn5 {A B c:Nat}(hc:0<c) (k:Nat):dvK (A*c) (B*c) k=dvK A B k:=by
 unfold dvK;have e:A*c*2^k=A*2^k*c:=by rw[Nat.mul_assoc,Nat.mul_comm c,← Nat.mul_assoc]
 rw[e,Nat.mul_div_mul_right _ _ hc,Nat.mul_mod_mul_right];by_cases h:A*2^k % B=0
 ·rw[if_pos h,if_pos (by rw[h,Nat.zero_mul])]
 ·rw[if_neg h,if_neg (fun h'=>h ((Nat.mul_eq_zero.1 h').resolve_right (by omega)))]
theorem Zn6 {m:Int}{n:Bool}{A B c:Nat}(hA:A≠0) (hB:B≠0) (hc:0<c):rqP m n (A*c) (B*c)=rqP m n A B∧rqF m n (A*c) (B*c)=rqF m n A B:=by
 have hA':A*c≠0:=fun h=>(Nat.mul_eq_zero.1 h).elim hA (by omega);have hB':B*c≠0:=fun h=>(Nat.mul_eq_zero.1 h).elim hB (by omega);have h:=ZcH hA hB;have e:A*c*2^upN A B/(B*c)=A*2^upN A B/B:=by rw[Nat.mul_assoc,Nat.mul_comm c,← Nat.mul_assoc,Nat.mul_div_mul_right _ _ hc]
 obtain⟨r1,r2⟩:=Zn4 (m:=m) (n:=n) (k:=upN A B) hA' hB' (by rw[e];omega);rw[Zn5 hc] at r1 r2;exact⟨r1.symm,r2.symm⟩
theorem Zts (m:Int) (n:Bool) (A:Nat):rqP m n A 1=rnP m n A 0∧rqF m n A 1=rnF m n A 0:=by
 have e:dvK A 1 (upN A 1)=A*2^(upN A 1+1):=by
  unfold dvK;rw[Nat.div_one,Nat.mod_one,if_pos rfl,Nat.add_zero,Nat.pow_succ,Nat.mul_comm 2,Nat.mul_assoc]
 have p:=ZaG m n A (upN A 1+1) 0;have f:=ZaH m n A (upN A 1+1) 0;rw[show (0:Int)-((upN A 1+1:Nat):Int)= -((upN A 1:Nat):Int)-1 by omega] at p f;unfold rqP rqF;rw[e];exact⟨p,f⟩
theorem Zwy {A B k:Nat}(h:A*2^k/B≠0):lgN (dvK A B k) (-(k:Int)-1)=(bitLen (A*2^k/B):Int)-1-k:=by
 have e:bitLen (dvK A B k)=bitLen (A*2^k/B)+1:=by
  have h1:=(bitLen_spec (A*2^k/B)).1;have h2:=(bitLen_spec (A*2^k/B)).2 h;have h3:=Za1 h;have e1:2^bitLen (A*2^k/B)=2^(bitLen (A*2^k/B)-1)*2:=by rw[← Nat.pow_succ];congr 1;omega
  refine Zbq (k:=bitLen (A*2^k/B)) ?_ ?_
  ·unfold dvK;split<;>omega
  ·rw[Nat.pow_succ];unfold dvK;split<;>omega
 unfold lgN;rw[e];omega
theorem Z1B {m:Int}{n:Bool}{A B J:Nat}(hA:A≠0) (hB:B≠0) (hJ:1024≤J) (h:B*2^J≤A):rqP m n A B=bey m n∧rqF m n A B=20:=by
 have hb:=ZcH hA hB;have hq:A*2^upN A B/B≠0:=fun h0=>by rw[h0] at hb;exact absurd hb (by decide)
 have hT:dvK A B (upN A B)≠0:=fun h0=>by
  unfold dvK at h0;omega
 refine Zep hT ?_;rw[Zwy hq];have h1:2^(J+upN A B)≤A*2^upN A B/B:=by
  rw[Nat.le_div_iff_mul_le (by omega),Nat.pow_add,Nat.mul_comm,← Nat.mul_assoc];exact Nat.mul_le_mul_right _ h
 have:=ZcC h1;omega
theorem Z1C {m:Int}{n:Bool}{A B J:Nat}(hA:A≠0) (hB:B≠0) (hJ:1099≤J) (h:A*2^J<B):rqP m n A B=rnP m n 1 (-3000)∧rqF m n A B=rnF m n 1 (-3000):=by
 have hb:=ZcH hA hB;have hq:A*2^upN A B/B≠0:=fun h0=>by rw[h0] at hb;exact absurd hb (by decide)
 have hT:dvK A B (upN A B)≠0:=fun h0=>by
  unfold dvK at h0;omega
 have hu:J≤upN A B:=by
  have h1:bitLen A+J≤bitLen B:=by
   have:=ZcC (T:=B) (k:=bitLen A-1+J) (by
    rw[Nat.pow_add];exact Nat.le_of_lt (Nat.lt_of_le_of_lt (Nat.mul_le_mul_right _ ((bitLen_spec A).2 hA)) h))
   have:=Za1 hA;omega
  unfold upN;omega
 have h1:A*2^upN A B/B<2^(upN A B-J):=by
  rw[Nat.div_lt_iff_lt_mul (by omega)];have e:2^upN A B=2^J*2^(upN A B-J):=by rw[← Nat.pow_add];congr 1;omega
  rw[e,← Nat.mul_assoc,Nat.mul_comm (2^(upN A B-J))];exact Nat.mul_lt_mul_of_pos_right h (Nat.pow_pos (by omega))
 have h2:=len_le h1;have l1:bitLen 1=1:=Zbq (k:=0) (by decide) (by decide);obtain⟨a1,a2⟩:=Zdt (m:=m) (neg:=n) hT (by rw[Zwy hq];omega);obtain⟨b1,b2⟩:=Zdt (m:=m) (neg:=n) (T:=1) (E:= -3000) (by decide) (by unfold lgN;rw[l1];decide);exact⟨a1.trans b1.symm,a2.trans b2.symm⟩
theorem ZhD {e J i:Nat}(h1:28*i≤e) (h2:J≤93*i):2^J≤10^e:=by
 have h:(2:Nat)^93≤10^28:=by decide
 have h3:((2:Nat)^93)^i≤(10^28)^i:=Nat.pow_le_pow_left h i;rw[← Nat.pow_mul,← Nat.pow_mul] at h3;exact Nat.le_trans (Nat.pow_le_pow_right (by omega) h2) (Nat.le_trans h3 (Nat.pow_le_pow_right (by omega) h1))
def deP (m:Int) (n:Bool) (A:Nat) (j:Int):Int:=rqP m n (A*10^j.toNat) (10^(-j).toNat)
def deF (m:Int) (n:Bool) (A:Nat) (j:Int):Int:=rqF m n (A*10^j.toNat) (10^(-j).toNat)
theorem ZbQ (j:Nat):10^j≠0:=fun h=>by have:=Nat.pow_pos (n:=j) (show 0<10 by omega);omega
theorem ZgJ {A B:Nat}(hA:A≠0) (hB:B≠0):A*B≠0:=fun h=>(Nat.mul_eq_zero.1 h).elim hA hB
theorem Zre (m:Int) (n:Bool) {A:Nat}(hA:A≠0) (c:Nat) (j:Int):deP m n (A*10^c) (j-c)=deP m n A j∧deF m n (A*10^c) (j-c)=deF m n A j:=by
 obtain⟨d,hd⟩:∃ d:Nat,(-(j-c)).toNat=(-j).toNat+d∧c+(j-c).toNat=j.toNat+d:=⟨(-(j-c)).toNat-(-j).toNat,by omega,by omega⟩;have e1:A*10^c*10^(j-c).toNat=A*10^j.toNat*10^d:=by rw[Nat.mul_assoc,← Nat.pow_add,hd.2,Nat.pow_add,Nat.mul_assoc]
 unfold deP deF;rw[e1,hd.1,Nat.pow_add];exact Zn6 (ZgJ hA (ZbQ _)) (ZbQ _) (Nat.pow_pos (by omega))
theorem Zn7 (m:Int) (n:Bool) {A L:Nat}{j:Int}(h:10^L≤A) (hj:309≤j+(L:Int)):deP m n A j=bey m n∧deF m n A j=20:=by
 have hA:A≠0:=fun h0=>by rw[h0] at h;exact ZbQ L (Nat.le_zero.1 h)
 obtain⟨e,he⟩:∃ e:Nat,e+(-j).toNat=L+j.toNat∧309≤e:=⟨L+j.toNat-(-j).toNat,by omega,by omega⟩;obtain⟨J,hJ⟩:∃ J,J=1023:=⟨_,rfl⟩;obtain⟨E,hE⟩:∃ E,E=308:=⟨_,rfl⟩;have h2:2^(J+1)≤10^e:=by
  have h3:=ZhD (e:=E) (J:=J) (i:=11) (by omega) (by omega);refine Nat.le_trans ?_ (Nat.pow_le_pow_right (by omega) (show E+1≤e by omega));rw[Nat.pow_succ,Nat.pow_succ];omega
 refine Z1B (J:=J+1) (ZgJ hA (ZbQ _)) (ZbQ _) (by omega) ?_;refine Nat.le_trans (Nat.mul_le_mul_left _ h2) ?_;rw[← Nat.pow_add,Nat.add_comm,he.1,Nat.pow_add];exact Nat.mul_le_mul_right _ h
theorem Zn8 (m:Int) (n:Bool) {A L:Nat}{j:Int}(hA:A≠0) (h:A<10^L) (hj:j+(L:Int)≤ -336):deP m n A j=rnP m n 1 (-3000)∧deF m n A j=rnF m n 1 (-3000):=by
 obtain⟨e,he⟩:∃ e:Nat,L+e=(-j).toNat∧336≤e:=⟨(-j).toNat-L,by omega,by omega⟩;obtain⟨J,hJ⟩:∃ J,J=1099:=⟨_,rfl⟩;have h2:2^J≤10^e:=ZhD (i:=12) (by omega) (by omega);have hz:j.toNat=0:=by omega
 unfold deP deF;rw[hz,Nat.pow_zero,Nat.mul_one];refine Z1C (J:=J) hA (ZbQ _) (by omega) ?_;rw[← he.1,Nat.pow_add];exact Nat.lt_of_lt_of_le (Nat.mul_lt_mul_of_pos_right h (Nat.pow_pos (by omega))) (Nat.mul_le_mul_left _ h2)
theorem ZgK {b:Int}{c:UInt8}{r:List UInt8}(h:0<ZU (lq8 c) b):b.toNat^r.length≤nmB b (c::r):=by
 have key:∀ (r:List UInt8) (a:Nat),a*b.toNat^r.length≤r.foldl (fun a c=>a*b.toNat+(ZU (lq8 c) b).toNat) a:=by
  intro r
  induction r with
  | nil=>intro a;simp
  | cons x r ih=>
   intro a;rw[List.length_cons,Nat.pow_succ,Nat.mul_comm (b.toNat^r.length),← Nat.mul_assoc,List.foldl_cons];exact Nat.le_trans (Nat.mul_le_mul_right _ (Nat.le_add_right _ _)) (ih _)
 unfold nmB;rw[List.foldl_cons];refine Nat.le_trans ?_ (key r _);exact Nat.le_mul_of_pos_left _ (by rw[Nat.zero_mul];omega)
theorem Z63 (m:Int) (n:Bool) {c:UInt8}{r:List UInt8}{k P:Int}(h:0<ZU (lq8 c) 10):rnP m n (dnA 10 (c::r) k P).1 (dnA 10 (c::r) k P).2=deP m n (nmB 10 (c::r)) (P-k)∧rnF m n (dnA 10 (c::r) k P).1 (dnA 10 (c::r) k P).2=deF m n (nmB 10 (c::r)) (P-k):=by
 have hp:=ZbP (b:=10) (.inl rfl) (r:=r) h;have hg:=ZgK (b:=10) (r:=r) h;have hl:=Zdu (b:=10) (.inl rfl) (c::r);have e10:(10:Int).toNat=10:=rfl;rw[e10] at hg hl;have l1:bitLen 1=1:=Zbq (k:=0) (by decide) (by decide);unfold dnA;rw[if_neg (by decide)];split
 ·rename_i h1;rw[List.length_cons] at h1;obtain⟨d1,d2⟩:=Zn7 m n (j:=P-k) hg (by omega);obtain⟨b1,b2⟩:=Zep (m:=m) (neg:=n) (T:=1) (E:=3000) (by decide) (by unfold lgN;rw[l1];decide);exact⟨b1.trans d1.symm,b2.trans d2.symm⟩
 split
 ·rename_i h1 h2;obtain⟨d1,d2⟩:=Zn8 m n (j:=P-k) (by omega) hl (by omega);exact⟨d1.symm,d2.symm⟩
 split
 ·rename_i h3;have hz:(-(P-k)).toNat=0:=by omega
  obtain⟨q1,q2⟩:=Zts m n (nmB 10 (c::r)*10^(P-k).toNat);unfold deP deF;rw[hz,Nat.pow_zero];exact⟨q1.symm,q2.symm⟩
 ·rename_i h3;have hz:(P-k).toNat=0:=by omega
  have e:(-(P-k)).toNat=(k-P).toNat:=by omega
  unfold deP deF rqP rqF;rw[hz,e,Nat.pow_zero,Nat.mul_one];exact⟨rfl,rfl⟩
end Go.Rd
