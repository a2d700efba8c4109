/-
  PwB, PwG, TxU, TxA, RunI, TxH, TxT, TxB, NumTx, TxC, UuY, TxD, UuZ, TxV
-/
import Derived.Test.YtgefjidphfdhdaaGreatDoorG08
import Derived.SizedLaws
import Derived.Laws.RangeString
import Derived.Laws.RangeAny
namespace Go.Proofs.YtgefjidphfdhdaaGreatDoor.Na
open Go.KRun Go.Nt
set_option maxRecDepth 100000
set_option linter.unusedVariables false
def sM (n:Nat) (k:Int):Nat:=k.toNat/32+(n+1)
def ZlM:Zba:=fun vals h s=>
 match vals,s with
 | [.slice p n c,.int .i64 k],.inr (.inr (.inr (.inl true)))::s'=>some (.tuple #[ZD,ZbH 1],h,s',[(zg h p n c,true),(ZH (Zm h p n) || decide (k<0),true)])
 | [.slice p n c,.int .i64 k],.inr (.inr (.inr (.inl false))):: .inr (.inr (.inr (.inl true)))::s'=>some (.tuple #[ZD,.nilIface],h,s',[(zg h p n c,true),(ZH (Zm h p n) || decide (k<0),false),(decide (n=0),true)])
 | [.slice p n c,.int .i64 k],.inr (.inr (.inr (.inl false))):: .inr (.inr (.inr (.inl false))):: .inr (.inr (.inr (.inl true)))::s'=>some (.tuple #[ZD,ZbH 2],h,s',[(zg h p n c,true),(ZH (Zm h p n) || decide (k<0),false),(decide (n=0),false),(decide (k>262144-ZcN (Zm h p n)),true)])
 | [.slice p n c,.int .i64 k],.inr (.inr (.inr (.inl false))):: .inr (.inr (.inr (.inl false))):: .inr (.inr (.inr (.inl false))):: .inr (.inl V)::s'=>some (.tuple #[sl h.n 0 (Zg (dg (sM n k) V)) (sM n k),.nilIface],h.push (wU (dg (sM n k) V)) tU,s',[(decide (Zgb (Zm h p n) k.toNat=dg (sM n k) V),true),(zg h p n c,true),(ZH (Zm h p n) || decide (k<0),false),(decide (n=0),false),(decide (k>262144-ZcN (Zm h p n)),false)])
 | _,_=>none
theorem ZeW:ZJ 77 ZlM:=by
 intro vals h s v h' s' lg hg hl m B w E hv;unfold ZlM at hg;split at hg
 ·rename_i p n c k s2;cases hg;have l1:=hl _ (Xe);have l2:=hl _ (Xd _ Xf);simp only at l1 l2;rcases Z5 l1 with ⟨rfl,rfl,rfl,e0⟩ | ⟨b,o,x,rfl,hx,r1,e0⟩<;>rw[e0] at l2
  ·rw[ZaF,Bool.false_or] at l2;exact Zb2 _ h [cmp true] _ _ [] [(decide (k<0),true)] rfl (Zy l2) m B w E hv
  ·exact Zb2 _ h [cmp true] _ _ [] [(Zu x.2 x.1 o n c,true),(ZH (Zt x.1 o n) || decide (k<0),true)] (by simp only[ZjG,Zut,hx]) (Za r1 (Zy l2)) m B w E hv
 ·rename_i p n c k s2;cases hg;have l1:=hl _ (Xe);have l2:=hl _ (Xd _ Xe);have l3:=hl _ (Xd _ (Xd _ Xf));simp only at l1 l2 l3;rcases Z5 l1 with ⟨rfl,rfl,rfl,e0⟩ | ⟨b,o,x,rfl,hx,r1,e0⟩<;>rw[e0] at l2
  ·rw[ZaF,Bool.false_or] at l2;exact Zb2 _ h [cmp false] _ _ [] [(decide (k<0),false)] rfl (Zy l2) m B w E hv
  ·exact Zb2 _ h [cmp false,cmp true] _ _ [] [(Zu x.2 x.1 o n c,true),(ZH (Zt x.1 o n) || decide (k<0),false),(decide (n=0),true)] (by simp only[ZjG,Zut,hx]) (Za r1 (Za l2 (Zy l3))) m B w E hv
 ·rename_i p n c k s2;cases hg;have l1:=hl _ (Xe);have l2:=hl _ (Xd _ Xe);have l3:=hl _ (Xd _ (Xd _ Xe));have l4:=hl _ (Xd _ (Xd _ (Xd _ Xf)));simp only at l1 l2 l3 l4;rcases Z5 l1 with ⟨rfl,rfl,rfl,e0⟩ | ⟨b,o,x,rfl,hx,r1,e0⟩
  ·exact absurd rfl (of_decide_eq_false l3)
  ·rw[e0] at l2 l4;exact Zb2 _ h [cmp false,cmp false,cmp true] _ _ [] [(Zu x.2 x.1 o n c,true),(ZH (Zt x.1 o n) || decide (k<0),false),(decide (n=0),false),(decide (k>262144-ZcN (Zt x.1 o n)),true)] (by simp only[ZjG,Zut,hx]) (Za r1 (Za l2 (Za l3 (Zy l4)))) m B w E hv
 ·rename_i p n c k V s2;cases hg;have l0:=Xc (hl _ (Xe));have l1:=hl _ (Xd _ Xe);have l2:=hl _ (Xd _ (Xd _ Xe));have l3:=hl _ (Xd _ (Xd _ (Xd _ Xe)));have l4:=hl _ (Xd _ (Xd _ (Xd _ (Xd _ Xf))));simp only at l1 l2 l3 l4;rcases Z5 l1 with ⟨rfl,rfl,rfl,e0⟩ | ⟨b,o,x,rfl,hx,r1,e0⟩
  ·exact absurd rfl (of_decide_eq_false l3)
  ·rw[e0] at l0 l2 l4;rw[← l0];exact Zb2 _ h [cmp false,cmp false,cmp false] _ _ [] [(Zu x.2 x.1 o n c,true),(ZH (Zt x.1 o n) || decide (k<0),false),(decide (n=0),false),(decide (k>262144-ZcN (Zt x.1 o n)),false)] (by simp only[ZjG,Zut,hx];rfl) (Za r1 (Za l2 (Za l3 (Zy l4)))) m B w E hv
 ·cases hg
def Zve:Zba:=fun vals h s=>
 match vals,s with
 | [.slice p n c],.inr (.inl l)::s'=>some (i6' l,h,s',[(decide (ZcN (Zm h p n)=l),true),(zg h p n c,true)])
 | _,_=>none
theorem ZpO:ZJ 129 Zve:=by
 intro vals h s v h' s' lg hg hl m B w E hv;unfold Zve at hg;split at hg
 ·rename_i p n c l s2;cases hg;have l0:=Xc (hl _ (Xe));have l1:=hl _ (Xd _ Xf);simp only at l1;rcases Z5 l1 with ⟨rfl,rfl,rfl,e0⟩ | ⟨b,o,x,rfl,hx,r1,e0⟩<;>rw[e0] at l0<;>rw[← l0]
  ·exact Zhc _ h [] _ _ [] [] rfl (fun x hx=>by cases hx) m B w E hv
  ·exact Zhc _ h [] _ _ [] [(Zu x.2 x.1 o n c,true)] (by simp only[Z2Z,hx]) (Zy r1) m B w E hv
 ·cases hg
end Go.Proofs.YtgefjidphfdhdaaGreatDoor.Na
namespace Go.Proofs.YtgefjidphfdhdaaGreatDoor.Na
open Go.Proofs.Tryz
open Go.IntKind
open Go.KRun Go.Nt
set_option maxRecDepth 100000
set_option linter.unusedVariables false
theorem ZlN {b n:Nat}(hb:b<4294967296) (hn:n≤2000) (hw:∀ j,j≤n→nw (b^j)≤400):RunsW (Zx prog Zi Zay hcQ) (Zaj (qP f76) (.seq (.seq (qI f76) (.block 0 (.loop (qL f76)))) (qE f76))) ([.int .u32 (b:Int),.int .i64 (n:Int)]++List.replicate 54 undef,⟨0,[]⟩,[]) fun e z=>(e=none∨e=some none)∧((¬ (b=0∧1≤n)∧∃ k,zE prog f76 z.1 z.2.1=some (.tuple #[s32 k (pM b n) (b^n),.nilIface])∧∃ r,z.2.1.blk? k=some (wU (dg (pM b n) ((b^n:Nat):Int))++r,tU))∨((b=0∧1≤n)∧zE prog f76 z.1 z.2.1=some (.tuple #[ZD,.nilIface]))):=by
 have eb:u64.wrap (b:Int)=(b:Int):=by simp [IntKind.wrap,IntKind.bits,IntKind.signed];omega
 have en:u64.wrap (n:Int)=(n:Int):=by simp [IntKind.wrap,IntKind.bits,IntKind.signed];omega
 have hp:=ZzJ b n;rw[eb] at hp;have hi:=Z7e b n;rw[en,Xg] at hi;have hl9:bitLen n≤11:=by
  obtain⟨s1,s2⟩:=bitLen_spec n;rcases Nat.lt_or_ge 11 (bitLen n) with h | h
  ·have h0:n≠0:=by rintro rfl;simp [bitLen] at h
   have h1:=s2 h0;have h2:2^11≤2^(bitLen n-1):=Nat.pow_le_pow_right (by omega) (by omega);have h3:(2:Nat)^11=2048:=rfl;omega
  ·exact h
 have hz:n/2^bitLen n=0:=Nat.div_eq_of_lt (bitLen_spec n).1;have ew:i64.wrap (((bitLen n:Nat):Int)-1)=((bitLen n:Nat):Int)-1:=Zv (by omega) (by omega);rw[ew] at hi;refine ZbN Ziz hp (Za (Xa ⟨by omega,by omega⟩) (Za (by decide) (Za (Xb (by omega)) (Zy (Xb (by omega)))))) fun g=> ?_;refine RunsW.seq (P1:=fun e y=>e=none∧nS b n 0 y) ?_ ?_ (fun e y hy=>by cases hy.1)
 ·refine RunsW.seq (Z0 Ziz (hi (s32 1 2 b) g (Q2 b)) (Zy (Xa ⟨by omega,by omega⟩))) ?_ (fun e y hy=>by cases hy.1);rintro⟨t,h',s⟩ ⟨_,⟨g',ht⟩,hh⟩;simp only at ht hh;subst ht hh;have lp:=RunsW.forLoop (T:=Zx prog Zi Zay hcQ) (c:=qL f76) (id:=0) (P:=nS b n 0) (R:=fun _=>False) (fun k y=>k≤bitLen n∧nS b n k y) (x:=(qF b n (s32 0 2 1) (s32 1 2 b) (((bitLen n:Nat):Int)-1)++tl 46 g',Q2 b,s)) ?_ (n:=bitLen n) ⟨Nat.le_refl _,g',.inl ⟨hz,rfl,rfl⟩⟩
  ·refine lp.mono fun e z hz=> ?_
   match e,hz with
   | none,hz=>exact⟨rfl,hz⟩
   | some none,hz=>exact hz.elim
   | some (some _),hz=>exact hz.elim
  ·rintro k y ⟨hk,hy⟩
   match k,hk,hy with
   | k+1,hk,hy=>
    refine (ZpL hb hn hw (by omega) hy fun h0=> ?_).mono fun e z hz=> ?_
    ·obtain⟨s1,s2⟩:=bitLen_spec n;have hn0:n≠0:=by
      rintro rfl;simp [bitLen] at hk
     have h1:=s2 hn0;have h2:bitLen n=k+1:=by
      rcases Nat.lt_or_ge (k+1) (bitLen n) with h | h
      ·exfalso
       have h3:2^(k+1)≤2^(bitLen n-1):=Nat.pow_le_pow_right (by omega) (by omega);have h4:0<n/2^(k+1):=Nat.div_pos (by omega) (Nat.pow_pos (by omega));omega
      ·omega
     rw[h2,Nat.add_sub_cancel] at h1;have h5:0<n/2^k:=Nat.div_pos h1 (Nat.pow_pos (by omega));have h6:n/2^(k+1)=n/2^k/2:=by rw[Nat.pow_succ,← Nat.div_div_eq_div_mul]
     omega
    ·obtain⟨rfl,hz⟩:=hz;exact⟨k,by omega,by omega,hz⟩
   | 0,_,hy=>
    obtain⟨t,h',s⟩:=y;have out:∀ (P:Value) (h:Hp) (g:Nat→Value) (s:List Dec),RunsW (Zx prog Zi Zay hcQ) (qL f76) (qF b n P (s32 1 2 b) (((0:Nat):Int)-1)++tl 46 g,h,s) fun e z=>e=some (some 0)∧(∃ g,z.1=qF b n P (s32 1 2 b) (((0:Nat):Int)-1)++tl 46 g)∧z.2.1=h:=fun P h g s=>
     Z0 Ziz (Z7f n (((0:Nat):Int)-1) b P (s32 1 2 b) h g) (Zy (by decide))
    obtain⟨g,hy⟩:=hy;rcases hy with ⟨j0,ht,hh⟩ | ⟨j1,b0,ht,hh⟩ | ⟨j1,b0,m,V,ht,hh⟩<;>simp only at ht hh<;>subst ht hh
    ·refine (out _ _ g s).mono fun e z hz=> ?_;obtain⟨rfl,⟨g',e1⟩,e2⟩:=hz;exact⟨rfl,g',.inl ⟨j0,e1,e2⟩⟩
    ·refine (out _ _ g s).mono fun e z hz=> ?_;obtain⟨rfl,⟨g',e1⟩,e2⟩:=hz;exact⟨rfl,g',.inr (.inl ⟨j1,b0,e1,e2⟩)⟩
    ·refine (out _ _ g s).mono fun e z hz=> ?_;obtain⟨rfl,⟨g',e1⟩,e2⟩:=hz;exact⟨rfl,g',.inr (.inr ⟨j1,b0,m,V,e1,e2⟩)⟩
 ·rintro⟨t,h',s⟩ ⟨_,g,hy⟩;rw[Nat.pow_zero,Nat.div_one] at hy;rcases hy with ⟨j0,ht,hh⟩ | ⟨j1,b0,ht,hh⟩ | ⟨j1,b0,m,V,ht,hh⟩<;>simp only at ht hh<;>subst ht hh
  ·refine (Z0 Ziz (Z4k n _ b _ _ _ g) (fun x hx=>by cases hx)).mono fun e z hz=> ?_;obtain⟨rfl,⟨g',e1⟩,e2⟩:=hz;subst j0;have e3:pM b 0=2:=rfl;rw[e3,Nat.pow_zero];exact⟨.inr rfl,.inl ⟨by omega,0,by rw[e1,e2];rfl,[],by rw[e2,List.append_nil];rfl⟩⟩
  ·refine (Z0 Ziz (Z4k n _ b _ _ _ g) (fun x hx=>by cases hx)).mono fun e z hz=> ?_;obtain⟨rfl,⟨g',e1⟩,e2⟩:=hz;exact⟨.inr rfl,.inl ⟨by omega,2,by rw[e1,e2];rfl,[],by rw[e2,List.append_nil];rfl⟩⟩
  ·refine (Z0 Ziz (Z4k n _ b _ _ _ g) (fun x hx=>by cases hx)).mono fun e z hz=> ?_;obtain⟨rfl,⟨g',e1⟩,e2⟩:=hz;exact⟨.inr rfl,.inr ⟨⟨b0,j1⟩,by rw[e1,e2];rfl⟩⟩
def Zvf (b n:Int):Bool:=decide (0≤b∧b<4294967296∧0≤n∧(n≤300∨((b=10∨b=5)∧n≤2000)))
theorem ZlO {b n:Nat}(h:Zvf b n=true):b<4294967296∧n≤2000∧∀ j,j≤n→nw (b^j)≤400:=by
 have q:=Xc h;rcases q.2.2.2 with h1 | ⟨h1,h2⟩
 ·exact⟨by omega,by omega,ZpK (by omega) (by omega)⟩
 ·refine⟨by omega,by omega,fun j hj=> ?_⟩;rcases h1 with h1 | h1
  ·rw[show b=10 by omega];exact ZlK (n:=n) (by omega) j hj
  ·rw[show b=5 by omega];refine Nat.le_trans (ZcW (k:=nw (10^j)) (Nat.lt_of_le_of_lt (Nat.pow_le_pow_left (by omega) j) (ZjF _))) (ZlK (n:=n) (by omega) j hj)
def pMi (b n:Int):Nat:=pM b.toNat n.toNat
def ZlP:Zba:=fun vals h s=>
 match vals,s with
 | [.int .u32 b,.int .i64 n],.inr (.inr (.inr (.inl true)))::s'=>some (.tuple #[ZD,ZbH 1],h,s',[(decide (n<0∨n>1000000),true)])
 | [.int .u32 b,.int .i64 n],.inr (.inr (.inr (.inl false))):: .inr (.inr (.inr (.inl true)))::s'=>some (.tuple #[ZD,.nilIface],h,s',[(Zvf b n,true),(decide (b=0∧1≤n),true)])
 | [.int .u32 b,.int .i64 n],.inr (.inr (.inr (.inl false))):: .inr (.inr (.inr (.inl false))):: .inr (.inl V)::s'=>some (.tuple #[sl h.n 0 (Zg (dg (pMi b n) V)) (pMi b n),.nilIface],h.push (wU (dg (pMi b n) V)) tU,s',[(decide (((b.toNat^n.toNat:Nat):Int)=V),true),(Zvf b n,true),(decide (b=0∧1≤n),false)])
 | _,_=>none
theorem ZeX:ZJ 76 ZlP:=by
 intro vals h s v h' s' lg hg hl m B w E hv;have hr0:(⟨0,[]⟩:Hp).rows:=⟨rfl,fun b x hx=>by have:b<0:=Hp.blk_lt hx;omega⟩;unfold ZlP at hg;split at hg
 ·rename_i b n s2;cases hg;have l1:=Xc (hl _ Xf);have r:RunsW (Zx prog Zi Zay hcQ) (Zw f76) ([.int .u32 b,.int .i64 n]++List.replicate 54 undef,⟨0,[]⟩,[]) fun e z=>(e=none∨e=some none)∧zE prog f76 z.1 z.2.1=some (.tuple #[ZD,ZbH 1]):=by
   by_cases h0:n<0
   ·refine (Z0 Ziz (ZuX b n) (Zy (Xa h0))).mono fun e z hz=> ?_;obtain⟨rfl,⟨g',e1⟩,e2⟩:=hz;exact⟨.inr rfl,by rw[e1,e2];rfl⟩
   ·refine (Z0 Ziz (ZuY b n) (Za (Xa (l1.resolve_left h0)) (Zy (Xb h0)))).mono fun e z hz=> ?_;obtain⟨rfl,⟨g',e1⟩,e2⟩:=hz;exact⟨.inr rfl,by rw[e1,e2];rfl⟩
  have:=zV (T:=Zx prog Zi Zay hcQ) func76 ZpI hr0 (vals:=[.int .u32 b,.int .i64 n]) (fun v hv=>by
   simp only[List.mem_cons,List.not_mem_nil,or_false] at hv;rcases hv with rfl | rfl<;>rfl) (v:= .tuple #[ZD,ZbH 1]) (by rfl) r E (s:=fun i=>i) (fun i x hx _=>by have:i<0:=Hp.blk_lt hx;omega)
  exact this
 ·rename_i b n s2;cases hg;have l2':Zvf b n=true:=hl _ Xe;have l2:=Xc l2';have l3:=Xc (hl _ (Xd _ Xf));obtain⟨b',rfl⟩:=Int.eq_ofNat_of_zero_le l2.1;obtain⟨n',rfl⟩:=Int.eq_ofNat_of_zero_le l2.2.2.1;obtain⟨w1,w2,w3⟩:=ZlO l2';have r:=(ZlN (b:=b') (n:=n') w1 w2 w3).mono (P':=fun e z=>(e=none∨e=some none)∧zE prog f76 z.1 z.2.1=some (.tuple #[ZD,.nilIface])) fun e z hz=>⟨hz.1,by
   rcases hz.2 with ⟨q,_⟩ | ⟨_,q⟩
   ·exact absurd (show b'=0∧1≤n' by omega) q
   ·exact q⟩
  have:=zV (T:=Zx prog Zi Zay hcQ) func76 ZlJ hr0 (vals:=[.int .u32 (b':Int),.int .i64 (n':Int)]) (fun v hv=>by
   simp only[List.mem_cons,List.not_mem_nil,or_false] at hv;rcases hv with rfl | rfl<;>rfl) (v:= .tuple #[ZD,.nilIface]) (by rfl) r E (s:=fun i=>i) (fun i x hx _=>by have:i<0:=Hp.blk_lt hx;omega)
  exact this
 ·rename_i b n V s2;cases hg;have l1:=Xc (hl _ Xe);have l2':Zvf b n=true:=hl _ (Xd _ Xe);have l2:=Xc l2';have l3:=of_decide_eq_false (hl _ (Xd _ (Xd _ Xf)));obtain⟨b',rfl⟩:=Int.eq_ofNat_of_zero_le l2.1;obtain⟨n',rfl⟩:=Int.eq_ofNat_of_zero_le l2.2.2.1;obtain⟨w1,w2,w3⟩:=ZlO l2';rw[Xg,Xg] at l1;rw[← l1];have ep:pMi (b':Int) (n':Int)=pM b' n':=by unfold pMi;rw[Xg,Xg]
  rw[ep];have r:=(ZlN (b:=b') (n:=n') w1 w2 w3).mono (P':=fun e z=>(e=none∨e=some none)∧∃ k,zE prog f76 z.1 z.2.1=some (.tuple #[s32 k (pM b' n') (b'^n'),.nilIface])∧∃ r,z.2.1.blk? k=some (wU (dg (pM b' n') ((b'^n':Nat):Int))++r,tU)) fun e z hz=>⟨hz.1,by
   rcases hz.2 with ⟨_,q⟩ | ⟨q,_⟩
   ·exact q
   ·exact absurd q (by omega)⟩
  exact Zj9 (T:=Zx prog Zi Zay hcQ) func76 ZlJ hr0 (vals:=[.int .u32 (b':Int),.int .i64 (n':Int)]) (fun v hv=>by
   simp only[List.mem_cons,List.not_mem_nil,or_false] at hv;rcases hv with rfl | rfl<;>rfl) (v:=fun k=> .tuple #[s32 k (pM b' n') (b'^n'),.nilIface]) (ZtY _) (by kernel_rfl) r (fun k=>by simp [oc,oc2,oc1,s32,sl]) E (s:=fun i=>i) (fun i x hx _=>by have:i<0:=Hp.blk_lt hx;omega) (fun k=>by simp [rn,rn2,rn1,s32,sl])
 ·cases hg
end Go.Proofs.YtgefjidphfdhdaaGreatDoor.Na
namespace Go.Proofs.YtgefjidphfdhdaaGreatDoor
open Go.KRun
set_option maxRecDepth 100000
theorem Zo4:Zo []:=fun _ h=>by cases h
def bS (l:List UInt8):Value:= .string ⟨⟨l⟩⟩
theorem ZjH (l l':List UInt8):((⟨⟨l⟩⟩:ByteArray)==⟨⟨l'⟩⟩)=decide (l=l'):=by
 rw[beq_toListBytes,ByteArray.toList_eq,ByteArray.toList_eq];show (l==l')=decide (l=l');by_cases h:l=l'
 ·rw[Xa h];simpa using h
 ·rw[Xb h];simpa using h
end Go.Proofs.YtgefjidphfdhdaaGreatDoor
namespace Go.Proofs.YtgefjidphfdhdaaGreatDoor.Na
open Go.Proofs.Tryz
open Go.KRun
set_option maxRecDepth 100000
def tlP (F:Func):Code:=ZA (Zw F)
def tlL (F:Func):Code:=cIn (cIn (ZA (ZV (Zw F))))
def tlE (F:Func):Code:=ZV (ZV (Zw F))
theorem Zvg:f172.body=some (Zaj [tlP f172] (.seq (.block 0 (.loop (tlL f172))) (tlE f172))):=by kernel_rfl
def tlF (l:List UInt8) (c:Int):List Value:=[bS l,.int .u8 c,undef,undef,bS []]
theorem ZzL (l:List UInt8) (c:Int):Zk (evL (Ze prog Zi Zn true) 100 [tlP f172] ([bS l,.int .u8 c]++List.replicate 15 undef,⟨0,[]⟩,[]) ⟨[],[],[]⟩) 5 12 none (tlF l c) ⟨0,[]⟩ []:=by and_intros<;>kernel_rfl
theorem Z4m (x:UInt8) (l:List UInt8) (c:Int) (g:Nat→Value):Zk (evC (Ze prog Zi Zn true) 100 false (tlL f172) (tlF (x::l) c++tl 12 g,⟨0,[]⟩,[cmp true,cmp true,sam true]) ⟨[],[],[]⟩) 5 12 none (tlF l c) ⟨0,[]⟩ [(decide ((0:Int)≤1∧(1:Int)≤((x::l).length:Nat)),true),(((x.toNat:Nat):Int)==c,true),(decide ((0:Int)≤0∧0<(x::l).length),true),(decide ((((x::l).length:Nat):Int)>0),true)]:=by and_intros<;>kernel_rfl
theorem ZzM (x:UInt8) (l:List UInt8) (c:Int) (g:Nat→Value):Zk (evC (Ze prog Zi Zn true) 100 false (tlL f172) (tlF (x::l) c++tl 12 g,⟨0,[]⟩,[cmp true,cmp false]) ⟨[],[],[]⟩) 5 12 (some (some 0)) (tlF (x::l) c) ⟨0,[]⟩ [(((x.toNat:Nat):Int)==c,false),(decide ((0:Int)≤0∧0<(x::l).length),true),(decide ((((x::l).length:Nat):Int)>0),true)]:=by and_intros<;>kernel_rfl
theorem ZzN (c:Int) (g:Nat→Value):Zk (evC (Ze prog Zi Zn true) 100 false (tlL f172) (tlF [] c++tl 12 g,⟨0,[]⟩,[cmp false]) ⟨[],[],[]⟩) 5 12 (some (some 0)) (tlF [] c) ⟨0,[]⟩ [(decide (((0:Nat):Int)>0),false)]:=by and_intros<;>kernel_rfl
theorem ZzO (l:List UInt8) (c:Int) (g:Nat→Value):Zk (evC (Ze prog Zi Zn true) 100 false (tlE f172) (tlF l c++tl 12 g,⟨0,[]⟩,[]) ⟨[],[],[]⟩) 5 12 (some none) [bS l,.int .u8 c,undef,undef,bS l] ⟨0,[]⟩ []:=by and_intros<;>kernel_rfl
def trL (c:Int) (l:List UInt8):List UInt8:=l.dropWhile fun x=>((x.toNat:Nat):Int)==c
theorem Zvh (c:Int) (L:List UInt8) (n:Nat) (x:Lf) (h:∃ (l:List UInt8) (g:Nat→Value),x.1=tlF l c++tl 12 g∧x.2.1=⟨0,[]⟩∧trL c l=trL c L∧n=l.length):Runs (Ze prog Zi Zn true) (tlL f172) x fun e y=>match e with | none=>∃ n',n'<n∧∃ (l:List UInt8) (g:Nat→Value),y.1=tlF l c++tl 12 g∧y.2.1=⟨0,[]⟩∧trL c l=trL c L∧n'=l.length | some none=>False | some (some id')=>id'=0∧∃ g:Nat→Value,y.1=tlF (trL c L) c++tl 12 g∧y.2.1=⟨0,[]⟩:=by
 obtain⟨l,g,e1,e2,h1,h2⟩:=h;obtain⟨t,hh,s⟩:=x;have e1:t=_:=e1;have e2:hh=_:=e2;subst e1 e2;have T:=Zd Zh;cases l with
 | nil=>
  refine (Zc T (ZzN c g) (Zy (by decide))).mono fun e z he=> ?_;obtain⟨rfl,⟨g',z1⟩,z2⟩:=he;have:trL c L=[]:=h1.symm;rw[this];exact⟨rfl,g',z1,z2⟩
 | cons x l=>
  by_cases hx:((x.toNat:Nat):Int)=c
  ·refine (Zc T (Z4m x l c g) (Za (Xa (by rw[List.length_cons];omega)) (Za (by simpa using hx) (Za (Xa (by rw[List.length_cons];omega)) (Zy (Xa (by rw[List.length_cons];omega))))))).mono fun e z he=> ?_;obtain⟨rfl,⟨g',z1⟩,z2⟩:=he;refine⟨l.length,by rw[h2,List.length_cons];omega,l,g',z1,z2,?_,rfl⟩;rw[← h1];unfold trL;rw[List.dropWhile_cons_of_pos (by simpa using hx)]
  ·refine (Zc T (ZzM x l c g) (Za (by simpa using hx) (Za (Xa (by rw[List.length_cons];omega)) (Zy (Xa (by rw[List.length_cons];omega)))))).mono fun e z he=> ?_;obtain⟨rfl,⟨g',z1⟩,z2⟩:=he;have:trL c L=x::l:=by
    rw[← h1];unfold trL;rw[List.dropWhile_cons_of_neg (by simpa using hx)]
   rw[this];exact⟨rfl,g',z1,z2⟩
theorem ZlQ (l:List UInt8) (c:Int) (w:World):Calls prog 172 #[bS l,.int .u8 c] w fun r w'=>r= .returned (bS (trL c l))∧zi w w':=by
 have hT:=Zd Zh;refine ZZ (T:=Ze prog Zi Zn true) func172 Zvg (by rfl) (by rfl) ?_ w;refine Zz hT (ZzL l c) Zo4 fun g=> ?_;refine Runs.seq (P1:=fun e y=>e=none∧∃ g:Nat→Value,y.1=tlF (trL c l) c++tl 12 g∧y.2.1=⟨0,[]⟩) ?_ ?_ (fun e y he=>by cases he.1)
 ·refine (Runs.forLoop (R:=fun _=>False) (P:=fun y=>∃ g:Nat→Value,y.1=tlF (trL c l) c++tl 12 g∧y.2.1=⟨0,[]⟩) (fun n x=>∃ (l':List UInt8) (g:Nat→Value),x.1=tlF l' c++tl 12 g∧x.2.1=⟨0,[]⟩∧trL c l'=trL c l∧n=l'.length) (Zvh c l) (n:=l.length) ⟨l,g,rfl,rfl,rfl,rfl⟩).mono fun e z hz=> ?_
  match e,hz with
  | none,hz=>exact⟨rfl,hz⟩
 ·intro y he;obtain⟨_,g',e1,e2⟩:=he;obtain⟨t,hh,s⟩:=y;have e1:t=_:=e1;have e2:hh=_:=e2;subst e1 e2;refine (Zc hT (ZzO (trL c l) c g') Zo4).mono fun e z hz=> ?_;obtain⟨rfl,⟨g2,z1⟩,z2⟩:=hz;exact⟨.inr rfl,by rw[z1,z2];rfl⟩
def Z4n:Ans:=fun vals s=>
 match vals with
 | [.string b,.int .u8 c]=>some (bS (trL c b.data.toList),s,[])
 | _=>none
theorem Zvi:ZC 172 Z4n:=by
 intro vals s v s' lg h hl w;unfold Z4n at h;split at h
 ·cases h;exact ZlQ _ _ w
 ·cases h
def Zvj:Con:=alt 172 Z4n Zn
theorem Zi1:ConOk Zvj:=Zr func172 rfl Zvi Zh
theorem Z7g (l:List UInt8):Zs (Zf (Ze prog Zi Zvj true) 100 135 [bS l,bS [48]] [sam true]) (bS l) [((⟨⟨l⟩⟩:ByteArray)==⟨⟨[]⟩⟩,true)]:=by and_intros<;>kernel_rfl
theorem Z7h (l:List UInt8):Zs (Zf (Ze prog Zi Zvj true) 100 135 [bS l,bS [48]] [sam false]) (bS (trL 48 l)) [(true,true),(true,true),((⟨⟨l⟩⟩:ByteArray)==⟨⟨[]⟩⟩,false)]:=by and_intros<;>kernel_rfl
def Z3e:Ans:=fun vals s=>
 match vals with
 | [.string b,.string ⟨⟨[c]⟩⟩]=>some (bS (trL 48 b.data.toList),s,[(decide (c=48),true)])
 | _=>none
theorem ZlR:ZC 135 Z3e:=by
 intro vals s v s' lg h hl w;unfold Z3e at h;split at h
 ·rename_i b c;cases h;have hc:=Xc (hl _ Xf);subst hc;by_cases hn:b.data.toList=[]
  ·have:=Zb (Zd Zi1) (Z7g b.data.toList) (Zy ((ZjH _ _).trans (Xa hn))) (by rfl) (by rfl) w;rw[hn] at this ⊢;have hb:b=⟨⟨[]⟩⟩:=by
    apply ByteArray.ext;apply Array.ext';exact hn
   rw[hb];exact this
  ·exact Zb (Zd Zi1) (Z7h b.data.toList) (Za rfl (Za rfl (Zy ((ZjH _ _).trans (Xb hn))))) (by rfl) (by rfl) w
 ·cases h
end Go.Proofs.YtgefjidphfdhdaaGreatDoor.Na
namespace Go.KRun
open Go.RowKit
structure BelowI (B r:Nat) (w w':World):Prop where
 os:w'.os=w.os
 tape:w'.tape=w.tape
 output:w'.output=w.output
 size:w.heap.size≤w'.heap.size
 block:∀ k,k<B→k≠r→w'.heap[k]? =w.heap[k]?
theorem BelowI.of {B r:Nat}{w w':World}(h:Below B w w'):BelowI B r w w':=⟨h.os,h.tape,h.output,h.size,fun k hk _=>h.block k hk⟩
theorem BelowI.trans {B r:Nat}{w w' w'':World}(h:BelowI B r w w') (g:BelowI B r w' w''):BelowI B r w w'':=
 ⟨g.os.trans h.os,g.tape.trans h.tape,g.output.trans h.output,Nat.le_trans h.size g.size,fun k hk hr=>(g.block k hk hr).trans (h.block k hk hr)⟩
def RunsI (T:Tab) (c:Code) (r:Nat) (s:ByteArray) (p:Nat) (x:Lf) (Post:Ex→Lf→Nat→Prop):Prop:=
 ∀ m B a w,Rel m B x a w→r<B→w.heap[r]? =some (.stringIter s p)→∀ Q:Exit→Act→World→Prop,
  (∀ e y p',Post e y p'→∀ m' a' w',Rel m' B y a' w'→BelowI B r w w'→w'.heap[r]? =some (.stringIter s p')→Q (out e) a' w')→c.wp T.P Q a w
section
variable {T : Tab} {r : Nat} {s : ByteArray}
theorem RunsW.i {c:Code}{p:Nat}{x:Lf}{P:Ex→Lf→Prop}(h:RunsW T c x P):RunsI T c r s p x fun e y p'=>p'=p∧P e y:=by
 intro m B a w R hr hi Q hQ;refine h m B a w R Q fun e y he m' a' w' R' hb=>hQ e y p ⟨rfl,he⟩ m' a' w' R' (BelowI.of hb) ?_;rw[hb.block r hr];exact hi
theorem RunsI.mono {c:Code}{p:Nat}{x:Lf}{P P':Ex→Lf→Nat→Prop}(h:RunsI T c r s p x P) (hp:∀ e y q,P e y q→P' e y q):RunsI T c r s p x P':=
 fun m B a w R hr hi Q hQ=>h m B a w R hr hi Q fun e y p' he=>hQ e y p' (hp e y p' he)
theorem RunsI.seq {c1 c2:Code}{p:Nat}{x:Lf}{P1 P:Ex→Lf→Nat→Prop}(h1:RunsI T c1 r s p x P1) (h2:∀ y q,P1 none y q→RunsI T c2 r s q y P) (h3:∀ e y q,P1 (some e) y q→P (some e) y q):RunsI T (.seq c1 c2) r s p x P:=by
 intro m B a w R hr hi Q hQ;refine wp_seq (h1 m B a w R hr hi _ fun e y q he m' a' w' R' hb hi'=> ?_)
 match e,he with
 | none,he=>exact h2 y q he m' B a' w' R' hr hi' Q fun e' y' q' he' m'' a'' w'' R'' hb' hi''=>hQ e' y' q' he' m'' a'' w'' R'' (hb.trans hb') hi''
 | some none,he=>exact hQ _ _ q (h3 none y q he) m' a' w' R' hb hi'
 | some (some id),he=>exact hQ _ _ q (h3 (some id) y q he) m' a' w' R' hb hi'
theorem RunsI.block {c:Code}{id p:Nat}{x:Lf}{P1 P:Ex→Lf→Nat→Prop}(h1:RunsI T c r s p x P1) (h2:∀ y q,P1 none y q→P none y q) (h3:∀ y q,P1 (some none) y q→P (some none) y q)
  (h4:∀ y q,P1 (some (some id)) y q→P none y q) (h5:∀ id' y q,id'≠id→P1 (some (some id')) y q→P (some (some id')) y q):RunsI T (.block id c) r s p x P:=by
 intro m B a w R hr hi Q hQ;refine wp_block (h1 m B a w R hr hi _ fun e y q he m' a' w' R' hb hi'=> ?_)
 match e,he with
 | none,he=>exact hQ _ _ q (h2 y q he) m' a' w' R' hb hi'
 | some none,he=>exact hQ _ _ q (h3 y q he) m' a' w' R' hb hi'
 | some (some id'),he=>
  simp only[out,Exit.inBlock];by_cases hid:id'=id
  ·subst hid;rw[if_pos rfl];exact hQ _ _ q (h4 y q he) m' a' w' R' hb hi'
  ·rw[if_neg hid];exact hQ _ _ q (h5 id' y q hid he) m' a' w' R' hb hi'
theorem RunsI.loop {c:Code}{p:Nat}{x:Lf}{P:Ex→Lf→Nat→Prop}(Inv:Nat→Lf→Nat→Prop) (round:∀ n x q,Inv n x q→RunsI T c r s q x fun e y q'=>match e with | none=>∃ n',n'<n∧Inv n' y q' | some e=>P (some e) y q') {n:Nat}(h0:Inv n x p):
  RunsI T (.loop c) r s p x P:=by
 have key:∀ N n x p,n<N→Inv n x p→∀ m B a w,Rel m B x a w→r<B→w.heap[r]? =some (.stringIter s p)→∀ Q:Exit→Act→World→Prop,(∀ e y p',P e y p'→∀ m' a' w',Rel m' B y a' w'→BelowI B r w w'→w'.heap[r]? =some (.stringIter s p')→Q (out e) a' w')→Code.rounds T.P c Q N a w:=by
  intro N
  induction N with
  | zero=>intro n x p hn;omega
  | succ N ih=>
   intro n x p hn hI m B a w R hr hi Q hQ;rw[rounds_succ];refine round n x p hI m B a w R hr hi _ fun e y q he m' a' w' R' hb hi'=> ?_
   match e,he with
   | none,he=>
    obtain⟨n',hn',hI'⟩:=he;exact ih n' y q (by omega) hI' m' B a' w' R' hr hi' Q fun e' y' q' he' m'' a'' w'' R'' hb' hi''=>hQ e' y' q' he' m'' a'' w'' R'' (hb.trans hb') hi''
   | some none,he=>exact hQ _ _ q he m' a' w' R' hb hi'
   | some (some id),he=>exact hQ _ _ q he m' a' w' R' hb hi'
 intro m B a w R hr hi Q hQ;exact wp_loop_rounds (n+1) (key (n+1) n x p (by omega) h0 m B a w R hr hi Q hQ)
theorem RunsI.forLoop {c:Code}{id p:Nat}{x:Lf}{P:Lf→Nat→Prop}{R:Lf→Nat→Prop}(Inv:Nat→Lf→Nat→Prop)
  (round:∀ n x q,Inv n x q→RunsI T c r s q x fun e y q'=>match e with | none=>∃ n',n'<n∧Inv n' y q' | some none=>R y q' | some (some id')=>id'=id∧P y q') {n:Nat}(h0:Inv n x p):
  RunsI T (.block id (.loop c)) r s p x fun e y q=>match e with | none=>P y q | some none=>R y q | some (some _)=>False:=by
 refine RunsI.block (P1:=fun e y q=>match e with | none=>False | some none=>R y q | some (some id')=>id'=id∧P y q) ?_ (fun y q he=>he.elim) (fun y q he=>he) (fun y q he=>he.2) (fun id' y q hid he=>absurd he.1 hid);refine RunsI.loop Inv (fun n x q hI=>(round n x q hI).mono fun e y q' he=> ?_) h0
 match e,he with
 | none,he=>exact he
 | some none,he=>exact he
 | some (some id'),he=>exact he
end
def hT1:Hp:=⟨1,[([],2*ZX)]⟩
theorem Zvk {b:Nat}{x:List Value×TypeId}(h:hT1.blk? b=some x):x=([],2*ZX):=by
 have hb:b<1:=Hp.blk_lt h;have h0:b=0:=by omega
 subst h0;exact (Option.some.inj h).symm
theorem Zsx (m:Mp) {B:Nat}{w:World}(hB:B≤w.heap.size) (hi:∀ k,B≤k→k<w.heap.size→Zy0 w.heap[k]?):Emb m B hT1 w:=by
 have t1:Zai (2*ZX)=true:=by kernel_rfl
 have r1:ro (2*ZX)=true:=by kernel_rfl
 have a1:ab (2*ZX)=false:=by kernel_rfl
 refine⟨rfl,fun b x hb ht=> ?_,fun b x hb hr=> ?_,fun b x hb ht=> ?_,fun b b' x x' hb _ hr=> ?_,fun b x hb v hv=> ?_,hB,hi,fun b x hb ha=> ?_⟩<;>rw[Zvk hb] at*
 ·rw[t1] at ht;cases ht
 ·rw[r1] at hr;cases hr
 ·rw[t1] at ht;cases ht
 ·rw[r1] at hr;cases hr
 ·cases hv
 ·rw[a1] at ha;cases ha
theorem Zb3 {P:Program}{ops:Array Oper}{Q:Exit→Act→World→Prop}{i:Nat}{K:Act→World→Prop}{a:Act}{w w':World}{o:Oper}{v:Value}(hi:ops[i]? =some o) (hg:o.guard=none) (hr:(execOp a.eval o).run P w= .ok (.value v) w') (hK:K (a.put o.dst v) w'):wpOp P ops Q i K a w:=by
 unfold wpOp;have hw:Region.wanted o (yielded ops a.tmps)=true:=by unfold Region.wanted;rw[hg]
 simp only[hi,hw,if_true]
 left
 unfold Oper.wp;rw[hr,Oper.upon_value];exact hK
theorem ZlS {P:Program}{a:Act}{o:Oper}{x:Operand}(ho:o.op= .move x) (w:World):(execOp a.eval o).run P w= .ok (.value (a.eval x)) w:=by
 unfold execOp;rw[ho];simp
theorem ZjI {P:Program}{a:Act}{o:Oper}{x:Operand}{ty:TypeId}(ho:o.op= .range ty x) {s:ByteArray}(hx:a.eval x= .string s) (hty:P.underlying ty=some .string) (w:World):
  (execOp a.eval o).run P w= .ok (.value (.pointer (some ⟨w.heap.size,0,none⟩))) (w.iter s 0):=by
 unfold execOp;rw[ho];simp [hx,run_range_string w ty s hty]
theorem RunsW.overString {T:Tab}{c:Code}{id:Nat}{o1 o2:Oper}(g1:o1.guard=none) (g2:o2.guard=none) {j d1 d2:Nat}{ty:TypeId}(e1:o1.op= .move (.tmp j)) (e2:o2.op= .range ty (.tmp d1)) (k1:o1.dst=some d1) (k2:o2.dst=some d2)
  (hty:T.P.underlying ty=some .string) {t:List Value}{s:ByteArray}(hj:t[j]? =some (.string s)) (hd:d1<t.length) {sc:List Dec}{P:Ex→Lf→Prop}
  (hI:∀ r,RunsI T c r s 0 ((t.set d1 (.string s)).set d2 (.iface ZX (.pointer (some ⟨r,0,none⟩))),hT1,[]) fun e y _=>y.2.1=hT1∧P e y):
  RunsW T (.seq (.region id #[o1,o2] false) c) (t,⟨0,[]⟩,sc) P:=by
 intro m B a w R Q hQ;refine wp_seq (wp_region ?_);show wpOps T.P #[o1,o2] _ [0,1] a w;rw[wpOps_cons];have ev1:a.eval (.tmp j)= .string s:=by
  rw[Zp R.tmps (x:= .tmp j) rfl];simp [ev,List.getD,hj,mv,mv2,mv1]
 refine Zb3 (o:=o1) (by rfl) g1 (ZlS e1 w) ?_;rw[ev1,k1,wpOps_cons];have R1:Rel m B (t.set d1 (.string s),⟨0,[]⟩,[]) (a.put (some d1) (.string s)) w:=R.put (v:= .string s) (Agree.refl _ _) R.emb (Nat.le_refl _) (by simp [lt,lt2,lt1]) (some d1) [];have ev2:(a.put (some d1) (.string s)).eval (.tmp d1)= .string s:=by
  rw[Zp R1.tmps (x:= .tmp d1) rfl];simp [ev,List.getD,hd,mv,mv2,mv1]
 refine Zb3 (o:=o2) (by rfl) g2 (ZjI e2 ev2 hty w) ?_;rw[k2];show wpOps T.P #[o1,o2] _ [] _ _;have hsz:(w.iter s 0).heap.size=w.heap.size+1:=ZbK w _;have hold:∀ k,k<w.heap.size→(w.iter s 0).heap[k]? =w.heap[k]? :=fun k hk=>zK w _ k (by omega);have R2:Rel m (w.heap.size+1) ((t.set d1 (.string s)).set d2 (.iface ZX (.pointer (some ⟨w.heap.size,0,none⟩))),hT1,[]) ((a.put (some d1) (.string s)).put (some d2) (.pointer (some ⟨w.heap.size,0,none⟩))) (w.iter s 0):=by
  have E:Emb m (w.heap.size+1) hT1 (w.iter s 0):=Zsx m (by omega) (fun k h1 h2=>by omega);have R1':Rel m (w.heap.size+1) (t.set d1 (.string s),hT1,[]) (a.put (some d1) (.string s)) (w.iter s 0):=⟨R1.tmps,R1.dfr,E,fun v hv=>zh (Nat.zero_le _) (R1.wf v hv)⟩;have:=R1'.put (v:= .iface ZX (.pointer (some ⟨w.heap.size,0,none⟩))) (Agree.refl _ _) E (Nat.le_refl _) (by simp [lt,lt2,lt1,hT1]) (some d2) [];have em:mv m (.iface ZX (.pointer (some ⟨w.heap.size,0,none⟩)))= .pointer (some ⟨w.heap.size,0,none⟩):=by simp [mv,mv2,mv1]
  rw[em] at this;exact this
 refine hI w.heap.size m (w.heap.size+1) _ _ R2 (Nat.lt_succ_self _) (World.iter_heap w s 0) Q fun e y p' hp m' a' w' R' hb hi=> ?_;obtain⟨hy,hP⟩:=hp;have hB:=R.emb.base;have Eb:∀ k,k<w.heap.size→w'.heap[k]? =w.heap[k]? :=fun k hk=>by rw[hb.block k (by omega) (by omega),hold k hk]
 have E':Emb m' B hT1 w':=by
  refine Zsx m' ?_ fun k h1 h2=> ?_
  ·have:=hb.size;omega
  ·rcases Nat.lt_trichotomy k w.heap.size with h | h | h
   ·rw[Eb k h];exact R.emb.ice k h1 h
   ·subst h;rw[hi];exact Zku
   ·have:=R'.emb.ice k (by omega) h2;exact this
 obtain⟨ty',hy',sy⟩:=y;simp only at hy;subst hy;exact hQ e _ hP m' a' w' ⟨R'.tmps,R'.dfr,E',R'.wf⟩ ⟨hb.os,hb.tape,hb.output,by have:=hb.size;omega,fun k hk=>Eb k (by omega)⟩
def World.setIt (w:World) (r:Nat) (s:ByteArray) (p:Nat):World:={w with heap:=w.heap.setIfInBounds r (.stringIter s p)}
theorem Zc8 (w:World) (r:Nat) (s:ByteArray) (p:Nat):(World.setIt w r s p).heap.size=w.heap.size:=by simp [World.setIt]
theorem ZpP {w:World}{r:Nat}(s:ByteArray) (p:Nat) (h:r<w.heap.size):(World.setIt w r s p).heap[r]? =some (.stringIter s p):=by simp [World.setIt,h]
theorem Zde (w:World) {r k:Nat}(s:ByteArray) (p:Nat) (h:k≠r):(World.setIt w r s p).heap[k]? =w.heap[k]? :=by
 simp only[World.setIt];rw[Array.getElem?_setIfInBounds];simp [Ne.symm h]
theorem ZlT {m:Mp}{B:Nat}{h:Hp}{w:World}(E:Emb m B h w) {r q:Nat}{s u:ByteArray}(hr:r<B) (hi:w.heap[r]? =some (.stringIter s q)) (p:Nat):Emb m B h (World.setIt w r u p):=by
 have ne:∀ {k:Nat}{c:Array Value}{t:TypeId}{z:Nat×Nat},w.heap[k]? =some (.cells c t z)→k≠r:=fun {k c t z} hk he=>by
  subst he;rw[hi] at hk;cases hk
 refine⟨E.len,fun b x hb ht=> ?_,E.low,E.ros,E.inj,E.wf,by rw[Zc8];exact E.base,fun k h1 h2=> ?_,fun b x hb ha=> ?_⟩
 ·have hl:=E.lies b x hb ht;refine hl.congr (Zde w u p ?_);obtain⟨r',z,_,l1,_⟩:=hl;exact ne l1
 ·rw[Zc8] at h2;rw[Zde w u p (by omega)];exact E.ice k h1 h2
 ·obtain⟨k1,r',t,z,k2,k3⟩:=E.abs b x hb ha;exact⟨k1,r',t,z,by rw[Zde w u p (ne k2)];exact k2,k3⟩
theorem ZlU {P:Program}{a:Act}{o:Oper}{x:Operand}(ho:o.op= .next x true) {r p:Nat}{s:ByteArray}(hx:a.eval x= .pointer (some ⟨r,0,none⟩)) {w:World}(hi:w.heap[r]? =some (.stringIter s p)) (hp:p<s.size):
  (execOp a.eval o).run P w= .ok (.value (.tuple #[.bool true,.int .i64 p,.int .i32 (Utf8.decode s p).1])) (World.setIt w r s (p+(Utf8.decode s p).2)):=by
 unfold execOp;rw[ho];simp [hx,Instr.next,getObj,setObj,Sem.run,hi,hp,goInt,World.setIt]
theorem ZlV {P:Program}{a:Act}{o:Oper}{x:Operand}(ho:o.op= .next x true) {r p:Nat}{s:ByteArray}(hx:a.eval x= .pointer (some ⟨r,0,none⟩)) {w:World}(hi:w.heap[r]? =some (.stringIter s p)) (hp:¬ p<s.size):
  (execOp a.eval o).run P w= .ok (.value (.tuple #[.bool false])) w:=by
 unfold execOp;rw[ho];simp [hx,Instr.next,getObj,Sem.run,hi,hp]
theorem ZcO {P:Program}{a:Act}{o:Oper}{x:Operand}{k:Nat}(ho:o.op= .extract x k) {vs:Array Value}{v:Value}(hx:a.eval x= .tuple vs) (hv:vs[k]? =some v) (w:World):(execOp a.eval o).run P w= .ok (.value v) w:=by
 unfold execOp;rw[ho];simp [hx,Instr.extract,hv]
def itV (s:ByteArray) (p:Nat):Value:= .tuple #[.bool true,.int .i64 p,.int .i32 (Utf8.decode s p).1]
theorem RunsI.step {T:Tab}{r:Nat}{s:ByteArray}{id:Nat}{o1 o2:Oper}(g1:o1.guard=none) (g2:o2.guard=none) {j d1 d2:Nat}(e1:o1.op= .next (.tmp j) true) (e2:o2.op= .extract (.tmp d1) 0) (k1:o1.dst=some d1) (k2:o2.dst=some d2)
  {t:List Value}{h:Hp}{sc:List Dec}{p:Nat}(hj:t[j]? =some (.iface ZX (.pointer (some ⟨r,0,none⟩)))) (hd:d1<t.length):
  RunsI T (.region id #[o1,o2] false) r s p (t,h,sc) fun e y q=>e=none∧y.2.1=h∧((p<s.size∧q=p+(Utf8.decode s p).2∧y.1=(t.set d1 (itV s p)).set d2 (.bool true))∨(¬ p<s.size∧q=p∧y.1=(t.set d1 (.tuple #[.bool false])).set d2 (.bool false))):=by
 intro m B a w R hr hi Q hQ;refine wp_region ?_;show wpOps T.P #[o1,o2] _ [0,1] a w;rw[wpOps_cons];have ev1:a.eval (.tmp j)= .pointer (some ⟨r,0,none⟩):=by
  rw[Zp R.tmps (x:= .tmp j) rfl];simp [ev,List.getD,hj,mv,mv2,mv1]
 have hB:=R.emb.base;by_cases hp:p<s.size
 ·refine Zb3 (o:=o1) (by rfl) g1 (ZlU e1 ev1 hi hp) ?_;rw[k1,wpOps_cons];have E1:=ZlT (u:=s) R.emb hr hi (p+(Utf8.decode s p).2);have R0:Rel m B (t,h,sc) a (World.setIt w r s (p+(Utf8.decode s p).2)):=⟨R.tmps,R.dfr,E1,R.wf⟩;have m1:mv m (itV s p)=itV s p:=by simp [itV,mv,mv2,mv1]
  have R1:=R0.put (v:=itV s p) (Agree.refl _ _) E1 (Nat.le_refl _) (by simp [itV,lt,lt2,lt1]) (some d1) [];rw[m1] at R1;have ev2:(a.put (some d1) (itV s p)).eval (.tmp d1)=itV s p:=by
   rw[Zp R1.tmps (x:= .tmp d1) rfl];simp [ev,ZdW,List.getD,hd,m1]
  refine Zb3 (o:=o2) (v:= .bool true) (by rfl) g2 (ZcO e2 ev2 (by rfl) _) ?_;rw[k2];show Q .normal _ _;have R2:=R1.put (v:= .bool true) (Agree.refl _ _) E1 (Nat.le_refl _) (by simp [lt,lt2,lt1]) (some d2) [];have m2:mv m (.bool true)= .bool true:=by simp [mv,mv2,mv1]
  rw[m2] at R2;exact hQ none _ _ ⟨rfl,rfl,.inl ⟨hp,rfl,rfl⟩⟩ m _ _ R2 ⟨rfl,rfl,rfl,by rw[Zc8];exact Nat.le_refl _,fun k _ hk=>Zde w s _ hk⟩ (ZpP s _ (by omega))
 ·refine Zb3 (o:=o1) (by rfl) g1 (ZlV e1 ev1 hi hp) ?_;rw[k1,wpOps_cons];have m1:mv m (.tuple #[.bool false])= .tuple #[.bool false]:=by simp [mv,mv2,mv1]
  have R1:=R.put (v:= .tuple #[.bool false]) (Agree.refl _ _) R.emb (Nat.le_refl _) (by simp [lt,lt2,lt1]) (some d1) [];rw[m1] at R1;have ev2:(a.put (some d1) (.tuple #[.bool false])).eval (.tmp d1)= .tuple #[.bool false]:=by
   rw[Zp R1.tmps (x:= .tmp d1) rfl];simp [ev,ZdW,List.getD,hd,m1]
  refine Zb3 (o:=o2) (v:= .bool false) (by rfl) g2 (ZcO e2 ev2 (by rfl) _) ?_;rw[k2];show Q .normal _ _;have R2:=R1.put (v:= .bool false) (Agree.refl _ _) R.emb (Nat.le_refl _) (by simp [lt,lt2,lt1]) (some d2) [];have m2:mv m (.bool false)= .bool false:=by simp [mv,mv2,mv1]
  rw[m2] at R2;exact hQ none _ _ ⟨rfl,rfl,.inr ⟨hp,rfl,rfl⟩⟩ m _ _ R2 (BelowI.of (Below.refl _ _)) hi
end Go.KRun
namespace Go.Proofs.YtgefjidphfdhdaaGreatDoor.Na
open Go.Proofs.Tryz
open Go.KRun
set_option maxRecDepth 100000
set_option linter.unusedVariables false
def ZfC (c:Int):Bool:=decide (c<48) || decide (c>57)
def fO:Value:= .func (.func 184) #[] #[]
theorem Z7i (c:Int):Zs (Zf (Ze prog Zi Zn true) 100 184 [.int .i32 c] [cmp true]) (.bool true) [(decide (c<48),true)]:=by and_intros<;>kernel_rfl
theorem Z7j (c:Int) (d:Bool):Zs (Zf (Ze prog Zi Zn true) 100 184 [.int .i32 c] [cmp false,cmp d]) (.bool d) [(decide (c>57),d),(decide (c<48),false)]:=by and_intros<;>kernel_rfl
def gOd:Ans:=fun vals s=>
 match vals,s with
 | [.int .i32 c],.inr (.inr (.inr (.inl d)))::s'=>some (.bool d,s',[(ZfC c,d)])
 | _,_=>none
theorem ZzP:ZC 184 gOd:=by
 intro vals s v s' lg h hl w;unfold gOd at h;split at h
 ·rename_i c d s2;cases h;have hd:ZfC c=d:=hl _ Xf;unfold ZfC at hd;by_cases h1:c<48
  ·rw[Xa h1,Bool.true_or] at hd;subst hd;exact Zb (Zd Zh) (Z7i c) (Zy (Xa h1)) (by rfl) (by rfl) w
  ·rw[Xb h1,Bool.false_or] at hd;exact Zb (Zd Zh) (Z7j c d) (Za hd (Zy (Xb h1))) (by rfl) (by rfl) w
 ·cases h
def ZzQ:Con:=alt 184 gOd Zn
theorem ZpQ:ConOk ZzQ:=Zr func184 rfl ZzP Zh
noncomputable def tabOd:Tab:=Ze prog Zi ZzQ true
theorem Zcj:TabOk tabOd:=Zd ZpQ
def iR0 (F:Func):Code:=ZA (Zw F)
def iR1 (F:Func):Code:=ZA (ZA (ZV (Zw F)))
def iLp (F:Func):Code:=ZV (ZA (ZV (Zw F)))
def iFn (F:Func):Code:=ZV (ZV (Zw F))
def iR2 (F:Func):Code:=ZA (cIn (cIn (iLp F)))
def iBd (F:Func):Code:=ZV (cIn (cIn (iLp F)))
def iF (s:ByteArray) (a:Nat→Value):List Value:=[.string s,fO,.bool true,a 3,a 4,a 5,.int .i64 0,a 7,a 8,a 9]
def ZpR (r:Nat):Value:= .iface ZX (.pointer (some ⟨r,0,none⟩))
def Z4o (q c:Int):Value:= .tuple #[.bool true,.int .i64 q,.int .i32 c]
theorem Z4p (s:ByteArray) (q c:Int) (r:Nat) (a g:Nat→Value):Zk (evC tabOd 300 false (iBd f214) (iF s a++[ZpR r,Z4o q c,.bool true]++tl 8 g,hT1,[cmp false]) ⟨[],[],[]⟩) 11 10 none [.string s,fO,.bool true,a 3,a 4,a 5,.int .i64 0,.int .i64 q,.int .i32 c,a 9,ZpR r] hT1 [(ZfC c,false)]:=by and_intros<;>kernel_rfl
theorem Z4q (s:ByteArray) (q c:Int) (r:Nat) (a g:Nat→Value):Zk (evC tabOd 300 false (iBd f214) (iF s a++[ZpR r,Z4o q c,.bool true]++tl 8 g,hT1,[cmp true]) ⟨[],[],[]⟩) 7 14 (some none) [.string s,fO,.bool true,a 3,a 4,a 5,.int .i64 q] hT1 [(ZfC c,true)]:=by and_intros<;>kernel_rfl
theorem ZzR (s:ByteArray) (r:Nat) (a g:Nat→Value):Zk (evC tabOd 300 false (iBd f214) (iF s a++[ZpR r,.tuple #[.bool false],.bool false]++tl 8 g,hT1,[]) ⟨[],[],[]⟩) 10 11 (some (some 0)) (iF s a) hT1 []:=by and_intros<;>kernel_rfl
theorem ZzS (s:ByteArray) (a g:Nat→Value):Zk (evC tabOd 300 false (iFn f214) (iF s a++tl 11 g,hT1,[]) ⟨[],[],[]⟩) 7 14 (some none) [.string s,fO,.bool true,a 3,a 4,a 5,.int .i64 (-1)] hT1 []:=by and_intros<;>kernel_rfl
theorem Z4r (s:ByteArray):Zk (evL tabOd 300 [iR0 f214] ([.string s,fO,.bool true]++List.replicate 18 undef,⟨0,[]⟩,[]) ⟨[],[],[]⟩) 7 14 none [.string s,fO,.bool true,undef,undef,undef,.int .i64 0] ⟨0,[]⟩ []:=by and_intros<;>kernel_rfl
def byT (s:ByteArray) (k:Nat):Int:=((s.data.toList.getD k 0).toNat:Nat)
def ixR (s:ByteArray):Nat→Int
 | 0=> -1
 | n+1=>if ZfC (byT s (s.size-(n+1)))=true then ((s.size-(n+1):Nat):Int) else ixR s n
def ixV (s:ByteArray):Int:=ixR s s.size
def Z4s:Code→Array Oper
 | .region _ ops _=>ops
 | _=> #[]
def ZpS (c:Code) (k:Nat):Oper:=((Z4s c)[k]?).getD ⟨none,.move (.tmp 0),0, "",#[],none⟩
theorem ZzT:iLp f214= .block 0 (.loop (.seq (.region 2 #[ZpS (iR2 f214) 0,ZpS (iR2 f214) 1] false) (iBd f214))):=by kernel_rfl
theorem ZzU:iR1 f214= .region 1 #[ZpS (iR1 f214) 0,ZpS (iR1 f214) 1] false:=by kernel_rfl
theorem Z4t:Zw f214=Zaj [iR0 f214] (.seq (.seq (iR1 f214) (iLp f214)) (iFn f214)):=by kernel_rfl
theorem ZlW {s:ByteArray}{p:Nat}(h:p<s.size):byT s p=((s[p]'h).toNat:Nat):=by
 unfold byT;have e:s.data.toList.getD p 0=s[p]'h:=by
  have h2:p<s.data.toList.length:=h;simp only[List.getD,List.getElem?_eq_getElem h2,Option.getD_some];rfl
 rw[e]
theorem ZpT {s:ByteArray}{p:Nat}(h:p<s.size):ZfC (((Utf8.decode s p).1:Nat):Int)=ZfC (byT s p)∧(ZfC (byT s p)=false→(Utf8.decode s p).2=1):=by
 by_cases ha:(s[p]'h).toNat<128
 ·rw[decode_ascii s p h ha,ZlW h];exact⟨rfl,fun _=>rfl⟩
 ·have hd:=(decode_high s p h (by omega)).1;have e1:ZfC (byT s p)=true:=by
   rw[ZlW h];unfold ZfC;rw[Xa (show (((s[p]'h).toNat:Nat):Int)>57 by omega),Bool.or_true]
  refine⟨?_,fun h'=>by rw[e1] at h';cases h'⟩;rw[e1];unfold ZfC;rw[Xa (show (((Utf8.decode s p).1:Nat):Int)>57 by omega),Bool.or_true]
theorem ZpU {s:ByteArray}{q:Nat}(h:q<s.size):ixR s (s.size-q)=if ZfC (byT s q)=true then (q:Int) else ixR s (s.size-(q+1)):=by
 obtain⟨n,hn⟩:∃ n,s.size-q=n+1:=⟨s.size-q-1,by omega⟩;rw[hn,show s.size-(q+1)=n by omega];simp only[ixR];rw[show s.size-(n+1)=q by omega]
theorem Zvl {s:ByteArray}(r:Nat) (a g:Nat→Value) (x y:Value):
  RunsI tabOd (iLp f214) r s 0 (iF s a++[ZpR r,x,y]++tl 8 g,hT1,[]) fun e z _=>z.2.1=hT1∧match e with
   | none=>ixV s= -1∧∃ a g,z.1=iF s a++tl 11 g
   | some none=>∃ u v w g,z.1=[.string s,fO,.bool true,u,v,w,.int .i64 (ixV s)]++tl 14 g
   | some (some _)=>False:=by
 rw[ZzT];refine (RunsI.forLoop (P:=fun z _=>z.2.1=hT1∧ixV s= -1∧∃ a g,z.1=iF s a++tl 11 g)
  (R:=fun z _=>z.2.1=hT1∧∃ u v w g,z.1=[.string s,fO,.bool true,u,v,w,.int .i64 (ixV s)]++tl 14 g)
  (fun n z q=>n+q=s.size∧ixR s (s.size-q)=ixV s∧z.2.1=hT1∧∃ a x y g,z.1=iF s a++[ZpR r,x,y]++tl 8 g) ?_ (n:=s.size) ⟨by omega,rfl,rfl,a,x,y,g,rfl⟩).mono fun e z q he=> ?_
 ·rintro n ⟨t,h',sc⟩ q ⟨hn,hA,hh,a,x,y,g,ht⟩;simp only at hh ht;subst hh ht;refine RunsI.seq (RunsI.step (j:=10) (d1:=11) (d2:=12) (by kernel_rfl) (by kernel_rfl) (by kernel_rfl) (by kernel_rfl) (by kernel_rfl) (by kernel_rfl) (by rfl) (by simp [iF,tl])) ?_ (fun e y q he=>by cases he.1);rintro⟨t,h',sc'⟩ q' ⟨_,hh,hc⟩;simp only at hh;subst hh;rcases hc with ⟨hq,hq',ht⟩ | ⟨hq,hq',ht⟩
  ·simp only at ht;have et:t=iF s a++[ZpR r,Z4o (q:Nat) ((Utf8.decode s q).1:Nat),.bool true]++tl 8 g:=by rw[ht];rfl
   subst et;obtain⟨r1,r2⟩:=ZpT hq;rw[ZpU hq] at hA;cases hk:ZfC (byT s q) with
   | false=>
    rw[hk,if_neg (by decide)] at hA;refine ((Z0 Zcj (Z4p s (q:Nat) ((Utf8.decode s q).1:Nat) r a g) (Zy (r1.trans hk))).i).mono fun e z q2 he=> ?_;obtain⟨rfl,rfl,⟨g1,e2⟩,e3⟩:=he;rw[r2 hk] at hq';refine⟨n-1,by omega,by omega,by rw[hq'];exact hA,e3,?_⟩;refine⟨fun k=>z.1.getD k undef,g1 0,g1 1,fun k=>g1 (k+2),?_⟩;rw[e2];rfl
   | true=>
    rw[hk,if_pos rfl] at hA;refine ((Z0 Zcj (Z4q s (q:Nat) ((Utf8.decode s q).1:Nat) r a g) (Zy (r1.trans hk))).i).mono fun e z q2 he=> ?_;obtain⟨rfl,rfl,⟨g1,e2⟩,e3⟩:=he;rw[hA] at e2;exact⟨e3,_,_,_,g1,e2⟩
  ·simp only at ht;have et:t=iF s a++[ZpR r,.tuple #[.bool false],.bool false]++tl 8 g:=by rw[ht];rfl
   subst et;have hqs:q=s.size:=by omega
   refine ((Z0 Zcj (ZzR s r a g) (fun x hx=>by cases hx)).i).mono fun e z q2 he=> ?_;obtain⟨rfl,rfl,⟨g1,e2⟩,e3⟩:=he;rw[hqs,Nat.sub_self] at hA;exact⟨rfl,e3,hA.symm,a,g1,e2⟩
 ·match e,he with
  | none,he=>exact he
  | some none,he=>exact he
theorem ZzV (s:ByteArray):RunsW tabOd (Zw f214) ([.string s,fO,.bool true]++List.replicate 18 undef,⟨0,[]⟩,[]) fun e y=>(e=none∨e=some none)∧zE prog f214 y.1 y.2.1=some (.int .i64 (ixV s)):=by
 rw[Z4t];refine ZbN Zcj (Z4r s) Zo4 fun g=> ?_;refine RunsW.seq (P1:=fun e z=>z.2.1=hT1∧match e with
   | none=>ixV s= -1∧∃ a g,z.1=iF s a++tl 11 g
   | some none=>∃ u v w g,z.1=[.string s,fO,.bool true,u,v,w,.int .i64 (ixV s)]++tl 14 g
   | some (some _)=>False) ?_ ?_ ?_
 ·rw[ZzU];refine RunsW.overString (j:=0) (d1:=9) (d2:=10) (ty:=9) (by kernel_rfl) (by kernel_rfl) (by kernel_rfl) (by kernel_rfl) (by kernel_rfl) (by kernel_rfl) (by kernel_rfl) (by rfl) (by simp [tl]) fun r=> ?_;have et:(([.string s,fO,.bool true,undef,undef,undef,.int .i64 0]++tl 14 g).set 9 (.string s)).set 10 (.iface ZX (.pointer (some ⟨r,0,none⟩)))=
    iF s (fun k=>(([.string s,fO,.bool true,undef,undef,undef,.int .i64 0]++tl 14 g).set 9 (.string s)).getD k undef)++[ZpR r,g 4,g 5]++tl 8 (fun k=>g (k+6)):=by rfl
  rw[et];exact (Zvl r _ _ _ _).mono fun e z q he=>⟨he.1,he⟩
 ·rintro⟨t,h',sc⟩ ⟨hh,hA,a,g1,ht⟩;simp only at hh ht;subst hh ht;refine (Z0 Zcj (ZzS s a g1) (fun x hx=>by cases hx)).mono fun e z he=> ?_;obtain⟨rfl,⟨g2,e2⟩,e3⟩:=he;refine⟨.inr rfl,?_⟩;rw[e2,e3,hA];rfl
 ·rintro e ⟨t,h',sc⟩ ⟨hh,hc⟩
  match e,hc with
  | none,hc=>
   obtain⟨u,v,w,g1,ht⟩:=hc;simp only at hh ht;subst hh ht;exact⟨.inr rfl,rfl⟩
theorem ZpV (s:ByteArray) (w:World):Calls prog 214 #[.string s,fO,.bool true] w fun e w'=>e= .returned (.int .i64 (ixV s))∧zi w w':=
 ZdX (T:=tabOd) (c:=Zw f214) (vals:=[.string s,fO,.bool true]) func214 (by kernel_rfl) (by rfl) (by rfl) (ZzV s) w
def gIx:Ans:=fun vals s=>
 match vals with
 | [.string b,.func (.func f) ⟨[]⟩ ⟨[]⟩,.bool true]=>some (.int .i64 (ixV b),s,[(Nat.beq f 184,true)])
 | _=>none
theorem ZzW:ZC 214 gIx:=by
 intro vals s v s' lg h hl w;unfold gIx at h;split at h
 ·rename_i b f;cases h;have hf:=Xj (hl _ Xf);subst hf;exact ZpV b w
 ·cases h
def ZjJ:Con:=alt 214 gIx Zn
theorem Zdf:ConOk ZjJ:=Zr func214 rfl ZzW Zh
theorem Zvm (s:ByteArray) (d:Bool):Zs (Zf (Ze prog Zi ZjJ true) 100 185 [.string s,fO] [cmp d]) (.bool d) [(decide (ixV s≥0),d),(true,true)]:=by and_intros<;>kernel_rfl
def gCf:Ans:=fun vals s=>
 match vals,s with
 | [.string b,.func (.func f) ⟨[]⟩ ⟨[]⟩],.inr (.inr (.inr (.inl d)))::s'=>some (.bool d,s',[(decide (ixV b≥0),d),(Nat.beq f 184,true)])
 | _,_=>none
theorem ZzX:ZC 185 gCf:=by
 intro vals s v s' lg h hl w;unfold gCf at h;split at h
 ·rename_i b f d s2;cases h;have h1:=hl _ Xe;have hf:=Xj (hl _ (Xd _ Xf));subst hf;exact Zb (Zd Zdf) (Zvm b d) (Za h1 (Zy rfl)) (by rfl) (by rfl) w
 ·cases h
def Zo5 (s:ByteArray):Prop:=∀ j,j<s.size→ZfC (byT s j)=false
theorem ZlX (s:ByteArray):∀ n,n≤s.size→(ixR s n<0↔∀ j,s.size-n≤j→j<s.size→ZfC (byT s j)=false)
 | 0,_=>by simp [ixR];intro j h1 h2;omega
 | n+1,hn=>by
  simp only[ixR];cases hk:ZfC (byT s (s.size-(n+1))) with
  | true=>
   rw[if_pos rfl];constructor
   ·intro h;omega
   ·intro h;have:=h (s.size-(n+1)) (Nat.le_refl _) (by omega);rw[hk] at this;cases this
  | false=>
   rw[if_neg (by decide),ZlX s n (by omega)];constructor
   ·intro h j h1 h2;by_cases h3:j=s.size-(n+1)
    ·rw[h3];exact hk
    ·exact h j (by omega) h2
   ·intro h j h1 h2;exact h j (by omega) h2
theorem Zbl (s:ByteArray):¬ ixV s≥0↔Zo5 s:=by
 have h:=ZlX s s.size (Nat.le_refl _);unfold ixV Zo5;constructor
 ·intro h1 j hj;exact h.1 (by omega) j (by omega) hj
 ·intro h1 h2;have:=h.2 fun j _ hj=>h1 j hj;omega
end Go.Proofs.YtgefjidphfdhdaaGreatDoor.Na
namespace Go.Proofs.YtgefjidphfdhdaaGreatDoor
open Go.KRun
set_option maxRecDepth 100000
theorem Zct {x:Bool×Bool}{l:Log}(h:Zo (x::l)):x.1=x.2∧Zo l:=⟨h _ Xe,fun y hy=>h y (Xd _ hy)⟩
end Go.Proofs.YtgefjidphfdhdaaGreatDoor
namespace Go.Proofs.YtgefjidphfdhdaaGreatDoor.Na
open Go.Proofs.Tryz
open Go.IntKind
open Go.KRun Go.Nt
set_option maxRecDepth 100000
def tBy:TypeId:=5
def ub (x:Int):Value:= .int .u8 x
def wB (L:List Int):List Value:=L.map ub
def rvP (F:Func):Code:=ZA (Zw F)
def rvL (F:Func):Code:=cIn (cIn (ZV (Zw F)))
theorem Zvn:f134.body=some (Zaj [rvP f134] (.block 0 (.loop (rvL f134)))):=by kernel_rfl
def hB2 (S:List Value) (Y:List Value×TypeId) (la:List Value):Hp:=⟨3,[(S,tBy),Y,(la,tR)]⟩
def rvF (n:Nat) (i j:Int):List Value:=[.slice (some ⟨2,0,none⟩) n grown,undef,.int .i64 i,.int .i64 j]
def ZlY (S:List Value) (j x:Int):Bool×Bool:=(Z6 S[0+j.toNat*1]? (ub x),true)
def stB (S:List Value) (j:Int):Bool×Bool:=(decide (0+j.toNat*1<S.length),true)
theorem ZzY (n:Nat) (h:Hp):Zk (evL (Ze prog Zi Zn true) 100 [rvP f134] ([.slice (some ⟨2,0,none⟩) n grown]++List.replicate 27 undef,h,[]) ⟨[],[],[]⟩) 4 24 none (rvF n 0 (i64.wrap ((n:Int)-1))) h []:=by and_intros<;>kernel_rfl
theorem ZzZ (n:Nat) (i j:Int) (h:Hp) (g:Nat→Value):Zk (evC (Ze prog Zi Zn true) 100 false (rvL f134) (rvF n i j++tl 24 g,h,[cmp false]) ⟨[],[],[]⟩) 4 24 (some (some 0)) (rvF n i j) h [(decide (i<j),false)]:=by and_intros<;>kernel_rfl
theorem Z4u (n:Nat) (i j x y:Int) (S:List Value) (Y:List Value×TypeId) (la:List Value) (g:Nat→Value):Zk (evC (Ze prog Zi Zn true) 100 false (rvL f134) (rvF n i j++tl 24 g,hB2 S Y la,[cmp true,at_,num 8,at_,num 0,at_,num 6,num 1,at_,num 7,num 1,val (ub y),num 10,num 1,at_,num 11,num 1,val (ub x),num 12,num 1,at_,num 13,num 1,at_,num 14,num 1,at_,num 15,num 1,at_]) ⟨[],[],[]⟩) 4 24 none (rvF n (i64.wrap (i+1)) (i64.wrap (j-1))) (hB2 ((S.set (0+i.toNat*1) (ub y)).set (0+j.toNat*1) (ub x)) Y la)
  [stB (S.set (0+i.toNat*1) (ub y)) j,inR j n,stB S i,inR i n,ZlY S j y,ZlY S i x,stB (S.set (0+i.toNat*1) (ub y)) j,inR j n,stB S i,inR i n,ZlY S i x,ZlY S j y,inR i n,inR j n,(decide (i<j),true)]:=by and_intros<;>kernel_rfl
def rvK (D:List Int) (i:Nat):List Int:=(List.range D.length).map fun k=>if k<i∨D.length-i≤k then D.getD (D.length-1-k) 0 else D.getD k 0
theorem ZbQ (D:List Int) (i:Nat):(rvK D i).length=D.length:=by simp [rvK]
theorem Zey {D:List Int}{i k:Nat}(h:k<D.length):(rvK D i)[k]? =some (if k<i∨D.length-i≤k then D.getD (D.length-1-k) 0 else D.getD k 0):=by
 simp [rvK,h]
theorem ZpW (D:List Int):rvK D 0=D:=by
 apply List.ext_getElem?;intro k;by_cases h:k<D.length
 ·rw[Zey h,if_neg (by omega)];simp [List.getD,h]
 ·rw[List.getElem?_eq_none (by rw[ZbQ];omega),List.getElem?_eq_none (by omega)]
theorem ZpX {D:List Int}{i j:Nat}(hj:i+j+1=D.length) (hij:i<j):((rvK D i).set i (D.getD j 0)).set j (D.getD i 0)=rvK D (i+1):=by
 apply List.ext_getElem?;intro k;by_cases h:k<D.length
 ·rw[Zey h,List.getElem?_set,List.getElem?_set];simp only[List.length_set,ZbQ];by_cases h1:j=k
  ·rw[if_pos h1,if_pos (by omega),if_pos (by omega),show D.length-1-k=i by omega]
  ·rw[if_neg h1];by_cases h2:i=k
   ·rw[if_pos h2,if_pos (by omega),if_pos (by omega),show D.length-1-k=j by omega]
   ·rw[if_neg h2,Zey h];congr 1;by_cases h3:k<i∨D.length-i≤k
    ·rw[if_pos h3,if_pos (by omega)]
    ·rw[if_neg h3,if_neg (by omega)]
 ·rw[List.getElem?_eq_none (by simp [ZbQ];omega),List.getElem?_eq_none (by rw[ZbQ];omega)]
theorem Zvo {D:List Int}{i:Nat}(h:D.length≤i+i+1):rvK D i=D.reverse:=by
 apply List.ext_getElem?;intro k;by_cases hk:k<D.length
 ·rw[Zey hk,List.getElem?_reverse hk];have e:∀ m,m<D.length→D.getD m 0=D[m]?.getD 0:=fun m _=>by simp [List.getD]
  by_cases h3:k<i∨D.length-i≤k
  ·rw[if_pos h3];have:D.length-1-k<D.length:=by omega
   simp [List.getD,this]
  ·rw[if_neg h3,show D.length-1-k=k by omega];simp [List.getD,hk]
 ·rw[List.getElem?_eq_none (by rw[ZbQ];omega),List.getElem?_eq_none (by simp;omega)]
theorem Zgi (L:List Int):(wB L).length=L.length:=by simp [wB]
theorem Z0a {L:List Int}{k:Nat}{x:Int}(h:L[k]? =some x):(wB L)[k]? =some (ub x):=by simp [wB,h]
theorem Zsy (L:List Int) (k:Nat) (x:Int):(wB L).set k (ub x)=wB (L.set k x):=by simp [wB,List.map_set]
theorem ZlZ {S:List Value}{k:Nat}{x:Int}(h:S[k]? =some (ub x)):(ZlY S k x).1=(ZlY S k x).2:=by
 unfold ZlY;simp only[Xg,Nat.mul_one,Nat.zero_add,h];simp [Z6,ub]
theorem Zvp {Y:List Value×TypeId}{la:List Value}(D:List Int) (hN:D.length<4611686018427387904):
  Runs (Ze prog Zi Zn true) (Zaj [rvP f134] (.block 0 (.loop (rvL f134)))) ([.slice (some ⟨2,0,none⟩) D.length grown]++List.replicate 27 undef,hB2 (wB D) Y la,[]) fun e y=>(e=none∨e=some none)∧zE prog f134 y.1 y.2.1=some (.tuple #[])∧y.2.1.cut 3=hB2 (wB D.reverse) Y la:=by
 have hT:=Zd Zh;refine Zz hT (ZzY D.length _) Zo4 fun g=> ?_;have ew:i64.wrap ((D.length:Int)-1)=(D.length:Int)-1:=Zv (by omega) (by omega);rw[ew];refine (Runs.forLoop (R:=fun _=>False) (P:=fun y=>∃ (i j:Int) (g:Nat→Value),y.1=rvF D.length i j++tl 24 g∧y.2.1=hB2 (wB D.reverse) Y la)
  (fun r y=>∃ (i:Nat) (g:Nat→Value),y.1=rvF D.length i ((D.length:Int)-1-i)++tl 24 g∧y.2.1=hB2 (wB (rvK D i)) Y la∧i≤D.length∧r=D.length-i)
  ?_ (n:=D.length) ⟨0,g,by simp,by rw[ZpW],by omega,by omega⟩).mono fun e' y he=> ?_
 ·rintro r ⟨t,h',s'⟩ ⟨i,g,ht,hh,hi,hr⟩;simp only at ht hh;subst ht hh;by_cases hc:(i:Int)<(D.length:Int)-1-i
  ·obtain⟨j,hj⟩:∃ j:Nat,i+j+1=D.length:=⟨D.length-1-i,by omega⟩;have ej:(D.length:Int)-1-i=(j:Nat):=by omega
   rw[ej] at hc ⊢;have hij:i<j:=by omega
   have cx:(rvK D i)[i]? =some (D.getD i 0):=by rw[Zey (by omega),if_neg (by omega)]
   have cy:(rvK D i)[j]? =some (D.getD j 0):=by rw[Zey (by omega),if_neg (by omega)]
   have l1:(ZlY (wB (rvK D i)) i (D.getD i 0)).1=(ZlY (wB (rvK D i)) i (D.getD i 0)).2:=ZlZ (Z0a cx);have l2:(ZlY (wB (rvK D i)) j (D.getD j 0)).1=(ZlY (wB (rvK D i)) j (D.getD j 0)).2:=ZlZ (Z0a cy);have l3:(inR i D.length).1=(inR i D.length).2:=Xa (by omega);have l4:(inR j D.length).1=(inR j D.length).2:=Xa (by omega);have l5:(stB (wB (rvK D i)) i).1=(stB (wB (rvK D i)) i).2:=Xa (by rw[Zgi,ZbQ];omega);have l6:(stB ((wB (rvK D i)).set (0+(i:Int).toNat*1) (ub (D.getD j 0))) j).1=(stB ((wB (rvK D i)).set (0+(i:Int).toNat*1) (ub (D.getD j 0))) j).2:=Xa (by rw[List.length_set,Zgi,ZbQ];omega);refine (Zc hT (Z4u D.length i j (D.getD i 0) (D.getD j 0) (wB (rvK D i)) Y la g) (Za l6 (Za l4 (Za l5 (Za l3 (Za l2 (Za l1 (Za l6 (Za l4 (Za l5 (Za l3 (Za l1 (Za l2 (Za l3 (Za l4 (Zy (Xa hc))))))))))))))))).mono fun e z he=> ?_;obtain⟨rfl,⟨g',z1⟩,z2⟩:=he;refine⟨D.length-(i+1),by omega,i+1,g',?_,?_,by omega,rfl⟩
   ·rw[z1,Zv (by omega) (by omega),Zv (by omega) (by omega)];congr 2;omega
   ·rw[z2,← ZpX hj hij,Xg,Xg,Nat.mul_one,Nat.mul_one,Nat.zero_add,Nat.zero_add,Zsy,Zsy]
  ·refine (Zc hT (ZzZ D.length i _ _ g) (Zy (Xb hc))).mono fun e z he=> ?_;obtain⟨rfl,⟨g',z1⟩,z2⟩:=he;rw[Zvo (by omega)] at z2;exact⟨rfl,_,_,g',z1,z2⟩
 ·match e',he with
  | none,he=>
   obtain⟨i,j,g,e1,e2⟩:=he;refine⟨.inl rfl,?_,?_⟩
   ·rw[e1];kernel_rfl
   ·rw[e2];rfl
  | some none,he=>exact he.elim
  | some (some _),he=>exact he.elim
def isB (S:List Value):Bool:=(ZaP S).isSome
theorem ZpY {S:List Value}(h:isB S=true):∃ D,S=wB D:=by
 obtain⟨D,hD⟩:=Option.isSome_iff_exists.1 h;exact⟨D,ZbL _ _ hD⟩
theorem Zsz:∀ D,isB (wB D)=true
 | []=>rfl
 | x::D=>by
  have:=Zsz D;unfold isB at*;obtain⟨E,hE⟩:=Option.isSome_iff_exists.1 this;show (ZaP (ub x::wB D)).isSome=true;simp [ZaP,ub,hE]
def gRv:Zba:=fun vals h s=>
 match vals,h with
 | [.slice (some ⟨2,0,none⟩) n c],⟨3,[(S,t),Y,(la,t')]⟩=>some (.tuple #[],⟨3,[(S.reverse,tBy),Y,(la,tR)]⟩,s,[(Y.1.all still,true),(Nat.beq t tBy,true),(Nat.beq t' tR,true),(Nat.beq n S.length,true),(isB S,true),(Nat.beq c grown,true),(la.all still,true),(Nat.blt n 4611686018427387904,true)])
 | _,_=>none
theorem ZpZ (L:List Int) (n:Nat):(wB L).all (lt1 n)=true:=by
 unfold wB;rw[List.all_eq_true];intro v hv;obtain⟨x,_,rfl⟩:=List.mem_map.1 hv;rfl
theorem Z0b:ZJ 134 gRv:=by
 intro vals h s v h' s' lg hg hl m B w E hv;unfold gRv at hg;split at hg
 ·rename_i n c S t Y la t';cases hg;obtain⟨l0,q⟩:=Zct hl;obtain⟨l1,q⟩:=Zct q;obtain⟨l2,q⟩:=Zct q;obtain⟨l3,q⟩:=Zct q;obtain⟨l4,q⟩:=Zct q;obtain⟨l5,q⟩:=Zct q;obtain⟨l6,q⟩:=Zct q;obtain⟨l7,_⟩:=Zct q;have l1:=Xj l1;have l2:=Xj l2;have l3:=Xj l3;have l5:=Xj l5;obtain⟨D,rfl⟩:=ZpY l4;have l7:=Zl.1 l7;subst l1 l2 l3 l5;rw[Zgi] at l7 hv ⊢;have e:(wB D).reverse=wB D.reverse:=by simp [wB]
  rw[e];exact ZI (T:=Ze prog Zi Zn true) func134 Zvn (v:= .tuple #[]) (h':=hB2 (wB D.reverse) Y la) (by rfl) (by
   show (((wB D.reverse,tBy)::[Y,(la,tR)]).all fun x=>x.1.all (lt1 3))=true;rw[List.all_cons,ZpZ,List.all_cons,ZM (by omega) l0,List.all_cons,ZM (by omega) l6];rfl) (Zvp D l7) m B w E hv
 ·cases hg
end Go.Proofs.YtgefjidphfdhdaaGreatDoor.Na
namespace Go.Nt
theorem Zhk {L:List Int}{i:Nat}(h:i<L.length):L.getD i 0=L[i]:=by simp [List.getD,h]
def ZeY (L:List Int):List Int:=L.dropWhile fun x=>x==0
theorem Zma (L:List Int):∀ x∈L.drop (Zg L),x=0:=by
 intro x hx;obtain⟨i,hi,rfl⟩:=List.mem_iff_getElem.1 hx;rw[List.getElem_drop];have h:=Zcz L (Zg L+i) (by omega);rw[List.length_drop] at hi;rw[Zhk (by omega)] at h;exact h
theorem Zmb {A B:List Int}(h:∀ x∈A,x=0):ZeY (A++B)=ZeY B:=by
 unfold ZeY;rw[List.dropWhile_append_of_pos];intro x hx;rw[h x hx];rfl
theorem ZjK {L:List Int}(h:L=[]∨L.getD 0 0≠0):ZeY L=L:=by
 cases L with
 | nil=>rfl
 | cons x L=>
  rcases h with h | h
  ·cases h
  ·unfold ZeY;rw[List.dropWhile_cons_of_neg];simpa using h
theorem Zmc {D:List Int}(h:∀ x∈D,Dg 10 x):ZeY D.reverse=(db 10 (vb 10 D)).reverse:=by
 have t:=Zbj (b:=10) (by omega) D h;have e:D.reverse=(D.drop (Zg D)).reverse++(D.take (Zg D)).reverse:=by
  rw[← List.reverse_append,List.take_append_drop]
 rw[e,Zmb (fun x hx=>Zma D x (List.mem_reverse.1 hx)),t];apply ZjK;by_cases h0:Zg D=0
 ·left
  rw[← t,h0];rfl
 ·right
  have hl:=za D;have ht:=Zca D;have hlen:(db 10 (vb 10 D)).length=Zg D:=by rw[← t,List.length_take];omega
  rw[← t];have hlt:(D.take (Zg D)).reverse.length=Zg D:=by rw[List.length_reverse,List.length_take];omega
  rw[Zhk (by omega),List.getElem_reverse,List.getElem_take];rcases ht with ht | ht
  ·exact absurd ht h0
  ·rw[Zhk (by omega)] at ht;have e2:(List.take (Zg D) D).length-1-0=Zg D-1:=by rw[List.length_take];omega
   simp only[e2];exact ht
def ld:Nat→Nat→List Int
 | 0,_=>[]
 | k+1,p=>((p % 10:Nat):Int)::ld k (p/10)
theorem Zi2:∀ k p,(ld k p).length=k
 | 0,_=>rfl
 | k+1,p=>by simp [ld,Zi2 k]
theorem Z0c:∀ k p,∀ x∈ld k p,Dg 10 x
 | 0,_,x,h=>by cases h
 | k+1,p,x,h=>by
  rcases List.mem_cons.1 h with rfl | h
  ·exact⟨by omega,by omega⟩
  ·exact Z0c k _ x h
theorem Zs0:∀ k p,vb 10 (ld k p)=p % 10^k
 | 0,p=>by simp [ld,vb,Nat.mod_one]
 | k+1,p=>by
  rw[show vb 10 (ld (k+1) p)=((p % 10:Nat):Int).toNat+10*vb 10 (ld k (p/10)) from rfl,Zs0 k (p/10),Nat.pow_succ',Nat.mod_mul];omega
theorem Zmd:∀ k p,ld (k+1) p=ld k p++[((p/10^k % 10:Nat):Int)]
 | 0,p=>by simp [ld]
 | k+1,p=>by
  rw[show ld (k+1+1) p=((p % 10:Nat):Int)::ld (k+1) (p/10) from rfl,Zmd k (p/10),Nat.div_div_eq_div_mul,← Nat.pow_succ'];rfl
theorem ZjL {D:List Int}{R V k:Nat}(hl:D.length=9*k) (h:vb 10 D+10^(9*k)*R=V):vb 10 (D++ld 9 (R % 1000000000))+10^(9*(k+1))*(R/1000000000)=V:=by
 rw[Zce,Zs0,hl];have e:(10:Nat)^(9*(k+1))=10^(9*k)*1000000000:=by rw[Nat.mul_add,Nat.pow_add]
 have e9:(10:Nat)^9=1000000000:=rfl;rw[e,e9,Nat.mod_mod,Nat.mul_assoc,Nat.add_assoc,← Nat.mul_add];have:=Nat.mod_add_div R 1000000000;rw[this];exact h
def zn (f:Nat→Int):Nat→Nat
 | 0=>0
 | k+1=>10*zn f k+(f k).toNat
theorem Zb4 {f:Nat→Int}:∀ k,(∀ j,j<k→0≤f j∧f j<10)→zn f k<10^k
 | 0,_=>by simp [zn]
 | k+1,h=>by
  have ih:=Zb4 k (fun j hj=>h j (by omega));have:=h k (by omega);simp only[zn,Nat.pow_succ];omega
theorem Zgj {f:Nat→Int}(i:Nat):∀ k,zn f (i+k)=zn f i*10^k+zn (fun j=>f (i+j)) k
 | 0=>by simp [zn]
 | k+1=>by
  rw[show i+(k+1)=(i+k)+1 by omega];simp only[zn];rw[Zgj i k,Nat.pow_succ];generalize zn (fun j=>f (i+j)) k=A;generalize zn f i=B;generalize 10^k=C;rw[Nat.mul_add,Nat.add_assoc,← Nat.mul_assoc,Nat.mul_comm 10 B,Nat.mul_assoc B 10 C,Nat.mul_comm 10 C]
end Go.Nt
namespace Go.Proofs.YtgefjidphfdhdaaGreatDoor.Na
open Go.Proofs.Tryz
open Go.IntKind
open Go.KRun Go.Nt
set_option maxRecDepth 100000
def kP (F:Func):List Code:=[ZA (Zw F),ZA (ZV (Zw F))]
def kR2 (F:Func):Code:=ZA (ZA (ZV (ZV (Zw F))))
def kL (F:Func):Code:=cIn (cIn (ZV (ZA (ZV (ZV (Zw F))))))
def kE (F:Func):Code:=ZV (ZV (ZV (Zw F)))
theorem Zvq:f133.body=some (Zaj (kP f133) (.seq (.seq (kR2 f133) (.block 0 (.loop (kL f133)))) (kE f133))):=by kernel_rfl
def hX (X:List (List Value×TypeId)) (S la:List Value):Hp:=⟨2+X.length,X++[(S,tU),(la,tR)]⟩
def kF (n c:Nat) (r i:Int):List Value:=[sl 1 0 n c,undef,uu 0,.int .u64 r,.int .i64 i]
def tpT (r x:Int):Int:=u64.wrap ↑(BitVec.ofInt 64 (u64.wrap (r*2^min (Int.toNat 32) 64)) ||| BitVec.ofInt 64 (u64.wrap x)).toNat
def tpQ (r x:Int):Int:=u32.wrap (u64.wrap ((tpT r x).tdiv 1000000000))
def tpR (r x:Int):Int:=(tpT r x).tmod 1000000000
theorem Z0d {r x:Int}(hr:0≤r∧r<1000000000) (hx:0≤x∧x<4294967296):tpQ r x=(r*4294967296+x)/1000000000∧tpR r x=(r*4294967296+x) % 1000000000∧0≤tpQ r x∧tpQ r x<4294967296:=by
 have e0:(2:Int)^min (Int.toNat 32) 64=4294967296:=rfl;obtain⟨a,rfl⟩:=Int.eq_ofNat_of_zero_le hr.1;obtain⟨u,rfl⟩:=Int.eq_ofNat_of_zero_le hx.1;have e1:u64.wrap ((a:Int)*4294967296)=(a:Int)*4294967296:=by simp [IntKind.wrap,IntKind.bits,IntKind.signed];omega
 have e2:u64.wrap (u:Int)=u:=by simp [IntKind.wrap,IntKind.bits,IntKind.signed];omega
 have e3:(BitVec.ofInt 64 ((a:Int)*4294967296)).toNat=2^32*a:=by rw[BitVec.toNat_ofInt];omega
 have e4:(BitVec.ofInt 64 (u:Int)).toNat=u:=by rw[BitVec.toNat_ofInt];omega
 have eT:tpT a u=(a:Int)*4294967296+u:=by
  unfold tpT;rw[e0,e1,e2,BitVec.toNat_or,e3,e4,← Nat.two_pow_add_eq_or_of_lt (by omega) a];simp [IntKind.wrap,IntKind.bits,IntKind.signed];omega
 have q1:((a:Int)*4294967296+u).tdiv 1000000000=((a:Int)*4294967296+u)/1000000000:=Int.tdiv_eq_ediv_of_nonneg (by omega);have q2:tpQ a u=((a:Int)*4294967296+u)/1000000000:=by
  unfold tpQ;rw[eT,q1];simp [IntKind.wrap,IntKind.bits,IntKind.signed];omega
 have q3:tpR a u=((a:Int)*4294967296+u) % 1000000000:=by
  unfold tpR;rw[eT,Int.tmod_eq_emod_of_nonneg (by omega)]
 rw[q2,q3];exact⟨rfl,rfl,by omega,by omega⟩
theorem Z0e (n c:Nat) (h:Hp):Zk (evL (Ze prog Zi Zn true) 100 (kP f133) ([sl 1 0 n c]++List.replicate 29 undef,h,[]) ⟨[],[],[]⟩) 4 26 none [sl 1 0 n c,undef,uu 0,.int .u64 0] h []:=by and_intros<;>kernel_rfl
theorem Z4v (n c:Nat) (h:Hp) (g:Nat→Value):Zk (evC (Ze prog Zi Zn true) 100 false (kR2 f133) ([sl 1 0 n c,undef,uu 0,.int .u64 0]++tl 26 g,h,[]) ⟨[],[],[]⟩) 5 25 none (kF n c 0 (i64.wrap ((n:Int)-1))) h []:=by and_intros<;>kernel_rfl
theorem Z0f (n c:Nat) (r i:Int) (h:Hp) (g:Nat→Value):Zk (evC (Ze prog Zi Zn true) 100 false (kL f133) (kF n c r i++tl 25 g,h,[cmp false]) ⟨[],[],[]⟩) 5 25 (some (some 0)) (kF n c r i) h [(decide (i≥0),false)]:=by and_intros<;>kernel_rfl
theorem Z0g (n c:Nat) (r i x:Int) (S la:List Value) (g:Nat→Value):Zk (evC (Ze prog Zi Zn true) 100 false (kL f133) (kF n c r i++tl 25 g,hX [] S la,[cmp true,at_,val (uu x),at_,at_]) ⟨[],[],[]⟩) 5 25 none (kF n c (tpR r x) (i64.wrap (i-1))) (hX [] (S.set (0+i.toNat*1) (uu (tpQ r x))) la) [(decide (0+i.toNat*1<S.length),true),inR i n,ZbO S 0 i x,inR i n,(decide ((32:Int)<0),false),(decide (i≥0),true)]:=by and_intros<;>kernel_rfl
theorem Z0h (n c:Nat) (r i x:Int) (X:List Value×TypeId) (S la:List Value) (g:Nat→Value):Zk (evC (Ze prog Zi Zn true) 100 false (kL f133) (kF n c r i++tl 25 g,hX [X] S la,[cmp true,at_,val (uu x),at_,at_]) ⟨[],[],[]⟩) 5 25 none (kF n c (tpR r x) (i64.wrap (i-1))) (hX [X] (S.set (0+i.toNat*1) (uu (tpQ r x))) la) [(decide (0+i.toNat*1<S.length),true),inR i n,ZbO S 0 i x,inR i n,(decide ((32:Int)<0),false),(decide (i≥0),true)]:=by and_intros<;>kernel_rfl
theorem Z4w (n c:Nat) (r i x:Int) {X:List (List Value×TypeId)}(hX1:X.length≤1) (S la:List Value) (g:Nat→Value):Zk (evC (Ze prog Zi Zn true) 100 false (kL f133) (kF n c r i++tl 25 g,hX X S la,[cmp true,at_,val (uu x),at_,at_]) ⟨[],[],[]⟩) 5 25 none (kF n c (tpR r x) (i64.wrap (i-1))) (hX X (S.set (0+i.toNat*1) (uu (tpQ r x))) la) [(decide (0+i.toNat*1<S.length),true),inR i n,ZbO S 0 i x,inR i n,(decide ((32:Int)<0),false),(decide (i≥0),true)]:=by
 match X,hX1 with
 | [],_=>exact Z0g n c r i x S la g
 | [y],_=>exact Z0h n c r i x y S la g
theorem Z0i (n c:Nat) (r i:Int) (h:Hp) (g:Nat→Value):Zk (evC (Ze prog Zi Zn true) 100 false (kE f133) (kF n c r i++tl 25 g,h,[]) ⟨[],[],[]⟩) 3 27 (some none) [sl 1 0 n c,undef,uu (u32.wrap r)] h []:=by and_intros<;>kernel_rfl
theorem Zvr {c:Nat}{X:List (List Value×TypeId)}(hX1:X.length≤1) {la Z:List Value}{L:List Int}(hL:wds L) (hN:L.length<4611686018427387904):
  Runs (Ze prog Zi Zn true) (Zaj (kP f133) (.seq (.seq (kR2 f133) (.block 0 (.loop (kL f133)))) (kE f133))) ([sl 1 0 L.length c]++List.replicate 29 undef,hX X (wU L++Z) la,[]) fun e y=>(e=none∨e=some none)∧zE prog f133 y.1 y.2.1=some (uu (vN L % 1000000000))∧y.2.1=hX X (wU (dg L.length (vN L/1000000000))++Z) la:=by
 have hT:=Zd Zh;refine Zz hT (Z0e L.length c _) Zo4 fun g=> ?_;refine Runs.seq (P1:=fun e y=>e=none∧∃ (i:Int) (g:Nat→Value),y.1=kF L.length c (vN L % 1000000000) i++tl 25 g∧y.2.1=hX X (wU (dg L.length (vN L/1000000000))++Z) la) ?_ ?_ (fun e y he=>by cases he.1)
 ·refine Runs.seq (Zc hT (Z4v L.length c _ g) Zo4) ?_ (fun e y he=>by cases he.1);rintro⟨t,hh,s⟩ ⟨_,⟨g',e1⟩,e2⟩;have ew:i64.wrap ((L.length:Int)-1)=(L.length:Int)-1:=Zv (by omega) (by omega);rw[ew] at e1;refine (Runs.forLoop (R:=fun _=>False) (P:=fun y=>∃ (i:Int) (g:Nat→Value),y.1=kF L.length c (vN L % 1000000000) i++tl 25 g∧y.2.1=hX X (wU (dg L.length (vN L/1000000000))++Z) la)
   (fun m y=>∃ (A Q H:List Int) (r:Int) (g:Nat→Value),y.1=kF L.length c r ((A.length:Int)-1)++tl 25 g∧y.2.1=hX X (wU (A++Q)++Z) la∧L=A++H∧H.length=Q.length∧wds Q∧(0≤r∧r<1000000000)∧vN H=vN Q*1000000000+r∧m=A.length)
   ?_ (n:=L.length) ⟨L,[],[],0,g',e1,by rw[List.append_nil];exact e2,by simp,rfl,(fun x hx=>by cases hx),by omega,rfl,rfl⟩).mono fun e z hz=> ?_
  ·rintro m ⟨t,h',s'⟩ ⟨A,Q,H,r,g,ht,hh,hLA,hHQ,wQ,hr,hv,hm⟩;simp only at ht hh;subst ht hh;rcases List.eq_nil_or_concat A with rfl | ⟨A',x,rfl⟩
   ·refine (Zc hT (Z0f L.length c r _ _ g) (Zy (Xb (by simp)))).mono fun e z he=> ?_;obtain⟨rfl,⟨g',z1⟩,z2⟩:=he;have eH:L=H:=by simpa using hLA
    have hd:vN L/1000000000=vN Q∧vN L % 1000000000=r:=by rw[eH];omega
    have e5:dg L.length (vN Q)=Q:=by rw[eH,hHQ];exact ZdY Q wQ
    refine⟨rfl,((([]:List Int).length:Nat):Int)-1,g',?_,?_⟩
    ·rw[z1,hd.2]
    ·rw[z2,hd.1,e5];rfl
   ·rw[List.concat_eq_append] at*;have hlen:L.length=A'.length+1+H.length:=by rw[hLA];simp;omega
    have hx:0≤x∧x<4294967296:=hL x (by rw[hLA];simp);obtain⟨n1,n2,n3,n4⟩:=Z0d hr hx;have ei:(((A'++[x]).length:Nat):Int)-1=(A'.length:Nat):=by simp
    have eS:wU (A'++[x]++Q)++Z=wU (A'++x::Q)++Z:=by simp
    have cS:(wU (A'++x::Q)++Z)[0+A'.length]? =some (uu x):=by
     rw[Nat.zero_add,List.getElem?_append_left (by unfold wU;simp)];exact Zlc A' x Q
    have l1:decide (0+((A'.length:Nat):Int).toNat*1<(wU (A'++x::Q)++Z).length)=true:=Xa (by unfold wU;simp);have l2:(inR (A'.length:Nat) L.length).1=(inR (A'.length:Nat) L.length).2:=Xa (by omega);have l3:(ZbO (wU (A'++x::Q)++Z) 0 (A'.length:Nat) x).1=(ZbO (wU (A'++x::Q)++Z) 0 (A'.length:Nat) x).2:=zT cS;rw[ei,eS];refine (Zc hT (Z4w L.length c r (A'.length:Nat) x hX1 (wU (A'++x::Q)++Z) la g) (Za l1 (Za l2 (Za l3 (Za l2 (Za (by decide) (Zy (Xa (by omega))))))))).mono fun e z he=> ?_;obtain⟨rfl,⟨g',z1⟩,z2⟩:=he;refine⟨A'.length,by rw[hm];simp,A',tpQ r x::Q,x::H,tpR r x,g',?_,?_,by rw[hLA];simp,by simp [hHQ],?_,by rw[n2];omega,?_,rfl⟩
    ·rw[z1,Zv (by omega) (by omega)]
    ·rw[z2,Xg,Nat.mul_one,Nat.zero_add,List.set_append_left _ _ (by unfold wU;simp),ZfU];simp
    ·intro y hy;rcases List.mem_cons.1 hy with rfl | hy
     ·exact⟨n3,n4⟩
     ·exact wQ y hy
    ·simp only[vN];rw[n1,n2,hv];omega
  ·match e,hz with
   | none,hz=>exact⟨rfl,hz⟩
 ·rintro⟨t,hh,s⟩ ⟨_,i,g',e1,e2⟩;simp only at e1 e2;subst e1 e2;refine (Zc hT (Z0i L.length c _ i _ g') Zo4).mono fun e z hz=> ?_;obtain⟨rfl,⟨g2,z1⟩,z2⟩:=hz;have hm:u32.wrap (vN L % 1000000000)=vN L % 1000000000:=by simp [IntKind.wrap,IntKind.bits,IntKind.signed];omega
  rw[hm] at z1;exact⟨.inr rfl,by rw[z1,z2];rfl,z2⟩
def tpS (S:List Value) (n:Nat):List Value:=wU (dg n (vN (Zt S 0 n)/1000000000))++S.drop n
def tpG (X:List (List Value×TypeId)) (S:List Value) (t:TypeId) (la:List Value) (t':TypeId) (n c:Nat) (s:List Dec):Option (Value×Hp×List Dec×Log):=
 some (uu (vN (Zt S 0 n) % 1000000000),⟨2+X.length,X++[(tpS S n,tU),(la,tR)]⟩,s,[(Nat.beq t tU,true),(Nat.beq t' tR,true),(Zu t S 0 n c,true),(la.all still,true),(X.all fun x=>x.1.all still,true)])
def gTp:Zba:=fun vals h s=>
 match vals,h with
 | [.slice (some ⟨1,0,none⟩) n c],⟨2,[(S,t),(la,t')]⟩=>tpG [] S t la t' n c s
 | [.slice (some ⟨1,0,none⟩) n c],⟨3,[x,(S,t),(la,t')]⟩=>tpG [x] S t la t' n c s
 | _,_=>none
theorem Zs1 {X:List (List Value×TypeId)}(hX1:X.length≤1) {S:List Value}{t:TypeId}{la:List Value}{t':TypeId}{n c:Nat}{s s':List Dec}{v:Value}{h':Hp}{lg:Log}(hg:tpG X S t la t' n c s=some (v,h',s',lg)) (hl:Zo lg) (m:Mp) (B:Nat) (w:World) (E:Emb m B ⟨2+X.length,X++[(S,t),(la,t')]⟩ w) (hv:∀ v∈[sl 1 0 n c],lt (2+X.length) v=true):
  Calls prog 133 (([sl 1 0 n c]:List Value).map (mv m)).toArray w fun e w'=>∃ m',e= .returned (mv m' v)∧Came m B ⟨2+X.length,X++[(S,t),(la,t')]⟩ w v h' m' w':=by
 unfold tpG at hg;cases hg;obtain⟨l1,q⟩:=Zct hl;obtain⟨l2,q⟩:=Zct q;obtain⟨l3,q⟩:=Zct q;obtain⟨l4,q⟩:=Zct q;obtain⟨l5,_⟩:=Zct q;have l1:=Xj l1;have l2:=Xj l2;subst l1 l2;obtain⟨a1,a2,a3,a4,a5,a6,a7⟩:=Z4 l3;have hc:c<4611686018427387904:=Zl.1 a4;have eS:S=wU (Zt S 0 n)++S.drop n:=by
  have h1:=a1.cut;rw[a2] at h1;rw[← h1];unfold ZbE;simp
 have r:=Zvr (c:=c) hX1 (la:=la) (Z:=S.drop n) a1.rng (by omega);rw[a2,← eS] at r;have ht:(Hp.tight ⟨2+X.length,X++[(tpS S n,tU),(la,tR)]⟩)=true:=by
  unfold Hp.tight tpS;simp only[List.all_append,List.all_cons,List.all_nil,Bool.and_true,Xh];refine⟨?_,⟨Za1 _ _,?_⟩,ZM (by omega) l4⟩
  ·rw[List.all_eq_true];intro x hx;exact ZM (by omega) (List.all_eq_true.1 l5 x hx)
  ·rw[List.all_eq_true];exact fun v hv=>ZY (by omega) (a7 v (List.mem_of_mem_drop hv))
 refine ZI (T:=Ze prog Zi Zn true) func133 Zvq (vals:=[sl 1 0 n c]) (h:=hX X S la) (by rfl) ht (r.mono fun e y he=>⟨he.1,he.2.1,?_⟩) m B w E hv;rw[he.2.2];unfold hX Hp.cut;simp [tpS,tU]
theorem Z0j:ZJ 133 gTp:=by
 intro vals h s v h' s' lg hg hl m B w E hv;unfold gTp at hg;split at hg
 ·exact Zs1 (X:=[]) (by simp) hg hl m B w E hv
 ·exact Zs1 (X:=[_]) (by simp) hg hl m B w E hv
 ·cases hg
end Go.Proofs.YtgefjidphfdhdaaGreatDoor.Na
namespace Go.Proofs.YtgefjidphfdhdaaGreatDoor
open Go.KRun
set_option maxRecDepth 100000
def h1R (l:List Value):Hp:=⟨1,[(l,tR)]⟩
end Go.Proofs.YtgefjidphfdhdaaGreatDoor
namespace Go.Proofs.YtgefjidphfdhdaaGreatDoor.Na
open Go.Proofs.Tryz
open Go.IntKind
open Go.KRun Go.Nt
set_option maxRecDepth 100000
def dC (F:Func):Nat→Code
 | 0=>Zw F
 | n+1=>ZV (dC F n)
def dP (F:Func):List Code:=[ZA (dC F 0),ZA (dC F 1),ZA (dC F 2),ZA (dC F 3),ZA (dC F 4),ZA (dC F 5)]
def dL (F:Func):Code:=cIn (cIn (ZA (dC F 6)))
def dE (F:Func):Code:=dC F 7
theorem Zvs:f80.body=some (Zaj (dP f80) (.seq (.block 0 (.loop (dL f80))) (dE f80))):=by kernel_rfl
def ZaG:Con:=alt 135 Z3e Zn
theorem Zqa:ConOk ZaG:=Zr func135 rfl ZlR Zh
def ZeZ:Hc:=zJ 128 ZtZ (zJ 133 gTp (zJ 131 ZeK (zJ 134 gRv hcN)))
theorem Zvt:HcOk ZeZ:=Zq func128 rfl Zpt (Zq func133 rfl Z0j (Zq func131 rfl ZaD (Zq func134 rfl Z0b zo)))
theorem Zgk:TabOk (Zx prog Zi ZaG ZeZ):=Z3 Zqa Zvt
def cpD (l:List Value) (o n:Nat):List Value:=List.take (n.min n) (List.drop o l)++List.drop (0+n.min n) (List.replicate n (Value.int .u32 0))
def cpC (l:List Value) (o n:Nat):Bool:= !(Zai tR) && !(ro tU) && (o+n.min n).ble l.length && (0+n.min n).ble (List.replicate n (Value.int .u32 0)).length && (List.take (n.min n) (List.drop o l)).all one
def dF (a rest dig p:Value):List Value:=[a,undef,bS [],.nilIface,.nilIface,rest,dig,p]
theorem Z0k (o n c:Nat) (l:List Value):Zk (evL (Zx prog Zi ZaG ZeZ) 100 (dP f80) ([sl 0 o n c]++List.replicate 45 undef,h1R l,[cmp false,cmp false,at_,at_]) ⟨[],[],[]⟩) 8 38 none (dF (sl 0 o n c) (sl 1 0 n n) ZD undef) (hX [] (cpD l o n) l) [(cpC l o n,true),(ZO 4 n n,true),((n:Int)==0,false),(zg (h1R l) (some ⟨0,o,none⟩) n c,true),(ZH (Zm (h1R l) (some ⟨0,o,none⟩) n),false)]:=by and_intros<;>kernel_rfl
theorem Z0l (p:Option Addr) (n c:Nat) (h:Hp):Zk (evC (Zx prog Zi ZaG ZeZ) 100 false (Zw f80) ([.slice p n c]++List.replicate 45 undef,h,[cmp true]) ⟨[],[],[]⟩) 4 42 (some none) [.slice p n c,undef,bS [],ZbH 1] h [(zg h p n c,true),(ZH (Zm h p n),true)]:=by and_intros<;>kernel_rfl
theorem Zme (p:Option Addr) (n c:Nat) (h:Hp):Zk (evC (Zx prog Zi ZaG ZeZ) 100 false (Zw f80) ([.slice p n c]++List.replicate 45 undef,h,[cmp false,cmp true]) ⟨[],[],[]⟩) 4 42 (some none) [.slice p n c,undef,bS [48],.nilIface] h [((n:Int)==0,true),(zg h p n c,true),(ZH (Zm h p n),false)]:=by and_intros<;>kernel_rfl
def pNx (p:Int):Nat→Int
 | 0=>p
 | j+1=>u32.wrap ((pNx p j).tdiv 10)
def dgV (p:Int):Value:=ub (u8.wrap (u32.wrap (48+p.tmod 10)))
def apB (S:List Value) (p:Int):Nat→List Value
 | 0=>S
 | j+1=>apB S p j++[dgV (pNx p j)]
def tpP (S:List Value) (n:Nat):Int:=vN (Zt S 0 n) % 1000000000
def apL (S:List Value) (p:Int) (n j:Nat):Bool×Bool:=(ZfJ tBy (apB S p j,tBy) ([dgV (pNx p j)],tBy) n 0 1,true)
def trS (S:List Value) (n:Nat):Nat:=Zg (Zt (tpS S n) 0 n)
theorem Z0m (n c:Nat) (a w:Value) (S la:List Value) (g:Nat→Value):Zk (evC (Zx prog Zi ZaG ZeZ) 100 false (dL f80) (dF a (sl 1 0 n c) ZD w++tl 38 g,hX [] S la,[cmp true,cmp true,cmp false,cmp true,at_,cmp true,at_,cmp true,at_,cmp true,at_,cmp true,at_,cmp true,at_,cmp true,at_,cmp true,at_,cmp false]) ⟨[],[],[]⟩) 8 38 none (dF a (sl 1 0 (trS S n) c) (.slice (some ⟨19,0,none⟩) 9 grown) (uu (pNx (tpP S n) 9))) ⟨20,[(apB [] (tpP S n) 9,tBy),([dgV (pNx (tpP S n) 8)],tBy),([],2*ZX),([dgV (pNx (tpP S n) 7)],tBy),([],2*ZX),([dgV (pNx (tpP S n) 6)],tBy),([],2*ZX),([dgV (pNx (tpP S n) 5)],tBy),([],2*ZX),([dgV (pNx (tpP S n) 4)],tBy),([],2*ZX),([dgV (pNx (tpP S n) 3)],tBy),([],2*ZX),([dgV (pNx (tpP S n) 2)],tBy),([],2*ZX),([dgV (pNx (tpP S n) 1)],tBy),([],2*ZX),([dgV (pNx (tpP S n) 0)],tBy),(tpS S n,tU),(la,tR)]⟩ [(Zu tU (tpS S n) 0 n c,true),(false,false),apL [] (tpP S n) 8 8,(true,true),apL [] (tpP S n) 7 7,(true,true),apL [] (tpP S n) 6 6,(true,true),apL [] (tpP S n) 5 5,(true,true),apL [] (tpP S n) 4 4,(true,true),apL [] (tpP S n) 3 3,(true,true),apL [] (tpP S n) 2 2,(true,true),apL [] (tpP S n) 1 1,(true,true),(false,false),(true,true),(Nat.beq tU tU,true),(Nat.beq tR tR,true),(Zu tU S 0 n c,true),(la.all still,true),(([]:List (List Value×TypeId)).all fun x=>x.1.all still,true),(decide ((n:Int)>0),true)]:=by and_intros<;>kernel_rfl
theorem Z0n (n c m:Nat) (a w:Value) (D S la:List Value) (g:Nat→Value):Zk (evC (Zx prog Zi ZaG ZeZ) 100 false (dL f80) (dF a (sl 1 0 n c) (.slice (some ⟨2,0,none⟩) m grown) w++tl 38 g,hX [(D,tBy)] S la,[cmp true,cmp true,at_,cmp true,at_,cmp true,at_,cmp true,at_,cmp true,at_,cmp true,at_,cmp true,at_,cmp true,at_,cmp true,at_,cmp false]) ⟨[],[],[]⟩) 8 38 none (dF a (sl 1 0 (trS S n) c) (.slice (some ⟨20,0,none⟩) (m+9) grown) (uu (pNx (tpP S n) 9))) ⟨21,[(apB D (tpP S n) 9,tBy),([dgV (pNx (tpP S n) 8)],tBy),([],2*ZX),([dgV (pNx (tpP S n) 7)],tBy),([],2*ZX),([dgV (pNx (tpP S n) 6)],tBy),([],2*ZX),([dgV (pNx (tpP S n) 5)],tBy),([],2*ZX),([dgV (pNx (tpP S n) 4)],tBy),([],2*ZX),([dgV (pNx (tpP S n) 3)],tBy),([],2*ZX),([dgV (pNx (tpP S n) 2)],tBy),([],2*ZX),([dgV (pNx (tpP S n) 1)],tBy),([],2*ZX),([dgV (pNx (tpP S n) 0)],tBy),([],2*ZX),(tpS S n,tU),(la,tR)]⟩ [(Zu tU (tpS S n) 0 n c,true),(false,false),apL D (tpP S n) (m+8) 8,(true,true),apL D (tpP S n) (m+7) 7,(true,true),apL D (tpP S n) (m+6) 6,(true,true),apL D (tpP S n) (m+5) 5,(true,true),apL D (tpP S n) (m+4) 4,(true,true),apL D (tpP S n) (m+3) 3,(true,true),apL D (tpP S n) (m+2) 2,(true,true),apL D (tpP S n) (m+1) 1,(true,true),apL D (tpP S n) m 0,(true,true),(Nat.beq tU tU,true),(Nat.beq tR tR,true),(Zu tU S 0 n c,true),(la.all still,true),(([(D,tBy)]:List (List Value×TypeId)).all fun x=>x.1.all still,true),(decide ((n:Int)>0),true)]:=by and_intros<;>kernel_rfl
theorem Z0o (n c:Nat) (a d w:Value) (h:Hp) (g:Nat→Value):Zk (evC (Zx prog Zi ZaG ZeZ) 100 false (dL f80) (dF a (sl 1 0 n c) d w++tl 38 g,h,[cmp false]) ⟨[],[],[]⟩) 8 38 (some (some 0)) (dF a (sl 1 0 n c) d w) h [(decide ((n:Int)>0),false)]:=by and_intros<;>kernel_rfl
theorem Z0p (m:Nat) (a r w:Value) (b:ByteArray) (D:List Value) (Y:List Value×TypeId) (la:List Value) (g:Nat→Value):Zk (evC (Zx prog Zi ZaG ZeZ) 100 false (dE f80) (dF a r (.slice (some ⟨2,0,none⟩) m grown) w++tl 38 g,hB2 D Y la,[val (.string b)]) ⟨[],[],[]⟩) 4 42 (some none) [a,undef,bS (trL 48 b.data.toList),.nilIface] (hB2 D.reverse Y la) [(decide ((48:UInt8)=48),true),(ZfL (D.reverse,tBy) 0 m b,true),(Y.1.all still,true),(Nat.beq tBy tBy,true),(Nat.beq tR tR,true),(Nat.beq m D.length,true),(isB D,true),(Nat.beq grown grown,true),(la.all still,true),(Nat.blt m 4611686018427387904,true)]:=by and_intros<;>kernel_rfl
end Go.Proofs.YtgefjidphfdhdaaGreatDoor.Na
namespace Go.Proofs.YtgefjidphfdhdaaGreatDoor
open Go.KRun Go.Nt
set_option maxRecDepth 100000
theorem Zfa (W:List Int) (k:Nat):Zt (wU W) 0 k=W.take k:=by
 unfold Zt ZbE wU;rw[List.drop_zero,← List.map_take,List.map_map];exact (List.map_congr_left fun x _=>rfl).trans (List.map_id' _)
def asc (x:Int):Int:=48+x
def Zyk (V:Nat):List Int:=if V=0 then [0] else (db 10 V).reverse
def ZaT (V:Nat):List UInt8:=(Zyk V).map fun x=>UInt8.ofNat (asc x).toNat
end Go.Proofs.YtgefjidphfdhdaaGreatDoor
