/-
  PwG, TxU, TxA, RunI, TxT, TxB, NumTx, TxC, UuY, TxD, UuZ, TxV, TxE, NumZ, NumY, NumT, Num, Num2, NumX4, NumF, NumH, NumQu, NumRd, NumRe
-/
import Derived.Test.YtgefjidphfdhdaaGreatDoorG11
import Derived.SizedLaws
import Derived.Laws.RangeString
namespace Go.Proofs.YtgefjidphfdhdaaGreatDoor.Na
open Go.Proofs.Tryz
open Go.IntKind
open Go.KRun Go.Nt
set_option maxRecDepth 100000
set_option linter.unusedVariables false
theorem Zml {b n:Nat}(hb:b<4294967296) (hn:n≤2000) (hw:∀ j,j≤n→nw (b^j)≤400):RunsW (Zm prog Zg Za6 hcQ) (zo (qP f76) (.seq (.seq (qI f76) (.block 0 (.loop (qL f76)))) (qE f76))) ([.int .u32 (b:Int),.int .i64 (n:Int)]++List.replicate 54 undef,⟨0,[]⟩,[]) fun e z=>(e=none∨e=some none)∧((¬ (b=0∧1≤n)∧∃ k,zd prog f76 z.1 z.2.1=some (.tuple #[s32 k (pM b n) (b^n),.nilIface])∧∃ r,z.2.1.blk? k=some (wU (dg (pM b n) ((b^n:Nat):Int))++r,tU))∨((b=0∧1≤n)∧zd prog f76 z.1 z.2.1=some (.tuple #[Zs,.nilIface]))):=by
 have eb:u64.wrap (b:Int)=(b:Int):=by simp [IntKind.wrap,IntKind.bits,IntKind.signed];omega
 have en:u64.wrap (n:Int)=(n:Int):=by simp [IntKind.wrap,IntKind.bits,IntKind.signed];omega
 have hp:=Zzz b n;rw[eb] at hp;have hi:=Z65 b n;rw[en,Xg] at hi;have hl9:bitLen n≤11:=by
  obtain⟨s1,s2⟩:=bitLen_spec n;rcases Nat.lt_or_ge 11 (bitLen n) with h | h
  ·have h0:n≠0:=by rintro rfl;simp [bitLen] at h
   have h1:=s2 h0;have h2:2^11≤2^(bitLen n-1):=Nat.pow_le_pow_right (by omega) (by omega);have h3:(2:Nat)^11=2048:=rfl;omega
  ·exact h
 have hz:n/2^bitLen n=0:=Nat.div_eq_of_lt (bitLen_spec n).1;have ew:i64.wrap (((bitLen n:Nat):Int)-1)=((bitLen n:Nat):Int)-1:=Zw (by omega) (by omega);rw[ew] at hi;refine ZA Zip hp (Za (Xa ⟨by omega,by omega⟩) (Za (by decide) (Za (Xb (by omega)) (ZB (Xb (by omega)))))) fun g=> ?_;refine RunsW.seq (P1:=fun e y=>e=none∧nS b n 0 y) ?_ ?_ (fun e y hy=>by cases hy.1)
 ·refine RunsW.seq (Zd Zip (hi (s32 1 2 b) g (Q2 b)) (ZB (Xa ⟨by omega,by omega⟩))) ?_ (fun e y hy=>by cases hy.1);rintro⟨t,h',s⟩ ⟨_,⟨g',ht⟩,hh⟩;simp only at ht hh;subst ht hh;have lp:=RunsW.forLoop (T:=Zm prog Zg Za6 hcQ) (c:=qL f76) (id:=0) (P:=nS b n 0) (R:=fun _=>False) (fun k y=>k≤bitLen n∧nS b n k y) (x:=(qF b n (s32 0 2 1) (s32 1 2 b) (((bitLen n:Nat):Int)-1)++tl 46 g',Q2 b,s)) ?_ (n:=bitLen n) ⟨Nat.le_refl _,g',.inl ⟨hz,rfl,rfl⟩⟩
  ·refine lp.mono fun e z hz=> ?_
   match e,hz with
   | none,hz=>exact⟨rfl,hz⟩
   | some none,hz=>exact hz.elim
   | some (some _),hz=>exact hz.elim
  ·rintro k y ⟨hk,hy⟩
   match k,hk,hy with
   | k+1,hk,hy=>
    refine (Zq1 hb hn hw (by omega) hy fun h0=> ?_).mono fun e z hz=> ?_
    ·obtain⟨s1,s2⟩:=bitLen_spec n;have hn0:n≠0:=by
      rintro rfl;simp [bitLen] at hk
     have h1:=s2 hn0;have h2:bitLen n=k+1:=by
      rcases Nat.lt_or_ge (k+1) (bitLen n) with h | h
      ·exfalso
       have h3:2^(k+1)≤2^(bitLen n-1):=Nat.pow_le_pow_right (by omega) (by omega);have h4:0<n/2^(k+1):=Nat.div_pos (by omega) (Nat.pow_pos (by omega));omega
      ·omega
     rw[h2,Nat.add_sub_cancel] at h1;have h5:0<n/2^k:=Nat.div_pos h1 (Nat.pow_pos (by omega));have h6:n/2^(k+1)=n/2^k/2:=by rw[Nat.pow_succ,← Nat.div_div_eq_div_mul]
     omega
    ·obtain⟨rfl,hz⟩:=hz;exact⟨k,by omega,by omega,hz⟩
   | 0,_,hy=>
    obtain⟨t,h',s⟩:=y;have out:∀ (P:Value) (h:Hp) (g:Nat→Value) (s:List Dec),RunsW (Zm prog Zg Za6 hcQ) (qL f76) (qF b n P (s32 1 2 b) (((0:Nat):Int)-1)++tl 46 g,h,s) fun e z=>e=some (some 0)∧(∃ g,z.1=qF b n P (s32 1 2 b) (((0:Nat):Int)-1)++tl 46 g)∧z.2.1=h:=fun P h g s=>
     Zd Zip (Z66 n (((0:Nat):Int)-1) b P (s32 1 2 b) h g) (ZB (by decide))
    obtain⟨g,hy⟩:=hy;rcases hy with ⟨j0,ht,hh⟩ | ⟨j1,b0,ht,hh⟩ | ⟨j1,b0,m,V,ht,hh⟩<;>simp only at ht hh<;>subst ht hh
    ·refine (out _ _ g s).mono fun e z hz=> ?_;obtain⟨rfl,⟨g',e1⟩,e2⟩:=hz;exact⟨rfl,g',.inl ⟨j0,e1,e2⟩⟩
    ·refine (out _ _ g s).mono fun e z hz=> ?_;obtain⟨rfl,⟨g',e1⟩,e2⟩:=hz;exact⟨rfl,g',.inr (.inl ⟨j1,b0,e1,e2⟩)⟩
    ·refine (out _ _ g s).mono fun e z hz=> ?_;obtain⟨rfl,⟨g',e1⟩,e2⟩:=hz;exact⟨rfl,g',.inr (.inr ⟨j1,b0,m,V,e1,e2⟩)⟩
 ·rintro⟨t,h',s⟩ ⟨_,g,hy⟩;rw[Nat.pow_zero,Nat.div_one] at hy;rcases hy with ⟨j0,ht,hh⟩ | ⟨j1,b0,ht,hh⟩ | ⟨j1,b0,m,V,ht,hh⟩<;>simp only at ht hh<;>subst ht hh
  ·refine (Zd Zip (Z4i n _ b _ _ _ g) (fun x hx=>by cases hx)).mono fun e z hz=> ?_;obtain⟨rfl,⟨g',e1⟩,e2⟩:=hz;subst j0;have e3:pM b 0=2:=rfl;rw[e3,Nat.pow_zero];exact⟨.inr rfl,.inl ⟨by omega,0,by rw[e1,e2];rfl,[],by rw[e2,List.append_nil];rfl⟩⟩
  ·refine (Zd Zip (Z4i n _ b _ _ _ g) (fun x hx=>by cases hx)).mono fun e z hz=> ?_;obtain⟨rfl,⟨g',e1⟩,e2⟩:=hz;exact⟨.inr rfl,.inl ⟨by omega,2,by rw[e1,e2];rfl,[],by rw[e2,List.append_nil];rfl⟩⟩
  ·refine (Zd Zip (Z4i n _ b _ _ _ g) (fun x hx=>by cases hx)).mono fun e z hz=> ?_;obtain⟨rfl,⟨g',e1⟩,e2⟩:=hz;exact⟨.inr rfl,.inr ⟨⟨b0,j1⟩,by rw[e1,e2];rfl⟩⟩
def Zx3 (b n:Int):Bool:=decide (0≤b∧b<4294967296∧0≤n∧(n≤300∨((b=10∨b=5)∧n≤2000)))
theorem Zmm {b n:Nat}(h:Zx3 b n=true):b<4294967296∧n≤2000∧∀ j,j≤n→nw (b^j)≤400:=by
 have q:=Xc h;rcases q.2.2.2 with h1 | ⟨h1,h2⟩
 ·exact⟨by omega,by omega,Zq0 (by omega) (by omega)⟩
 ·refine⟨by omega,by omega,fun j hj=> ?_⟩;rcases h1 with h1 | h1
  ·rw[show b=10 by omega];exact Zsv (n:=n) (by omega) j hj
  ·rw[show b=5 by omega];refine Nat.le_trans (ZdI (k:=nw (10^j)) (Nat.lt_of_le_of_lt (Nat.pow_le_pow_left (by omega) j) (Zj2 _))) (Zsv (n:=n) (by omega) j hj)
def pMi (b n:Int):Nat:=pM b.toNat n.toNat
def Zq5:Zag:=fun vals h s=>
 match vals,s with
 | [.int .u32 b,.int .i64 n],.inr (.inr (.inr (.inl true)))::s'=>some (.tuple #[Zs,Zcv 1],h,s',[(decide (n<0∨n>1000000),true)])
 | [.int .u32 b,.int .i64 n],.inr (.inr (.inr (.inl false))):: .inr (.inr (.inr (.inl true)))::s'=>some (.tuple #[Zs,.nilIface],h,s',[(Zx3 b n,true),(decide (b=0∧1≤n),true)])
 | [.int .u32 b,.int .i64 n],.inr (.inr (.inr (.inl false))):: .inr (.inr (.inr (.inl false))):: .inr (.inl V)::s'=>some (.tuple #[sl h.n 0 (Zc (dg (pMi b n) V)) (pMi b n),.nilIface],h.push (wU (dg (pMi b n) V)) tU,s',[(decide (((b.toNat^n.toNat:Nat):Int)=V),true),(Zx3 b n,true),(decide (b=0∧1≤n),false)])
 | _,_=>none
theorem Zit:Z8 76 Zq5:=by
 intro vals h s v h' s' lg hg hl m B w E hv;have hr0:(⟨0,[]⟩:Hp).rows:=⟨rfl,fun b x hx=>by have:b<0:=Hp.blk_lt hx;omega⟩;unfold Zq5 at hg;split at hg
 ·rename_i b n s2;cases hg;have l1:=Xc (hl _ Xf);have r:RunsW (Zm prog Zg Za6 hcQ) (Zq f76) ([.int .u32 b,.int .i64 n]++List.replicate 54 undef,⟨0,[]⟩,[]) fun e z=>(e=none∨e=some none)∧zd prog f76 z.1 z.2.1=some (.tuple #[Zs,Zcv 1]):=by
   by_cases h0:n<0
   ·refine (Zd Zip (ZuX b n) (ZB (Xa h0))).mono fun e z hz=> ?_;obtain⟨rfl,⟨g',e1⟩,e2⟩:=hz;exact⟨.inr rfl,by rw[e1,e2];rfl⟩
   ·refine (Zd Zip (ZuY b n) (Za (Xa (l1.resolve_left h0)) (ZB (Xb h0)))).mono fun e z hz=> ?_;obtain⟨rfl,⟨g',e1⟩,e2⟩:=hz;exact⟨.inr rfl,by rw[e1,e2];rfl⟩
  have:=ZI (T:=Zm prog Zg Za6 hcQ) func76 Zqy hr0 (vals:=[.int .u32 b,.int .i64 n]) (fun v hv=>by
   simp only[List.mem_cons,List.not_mem_nil,or_false] at hv;rcases hv with rfl | rfl<;>rfl) (v:= .tuple #[Zs,Zcv 1]) (by rfl) r E (s:=fun i=>i) (fun i x hx _=>by have:i<0:=Hp.blk_lt hx;omega)
  exact this
 ·rename_i b n s2;cases hg;have l2':Zx3 b n=true:=hl _ Xe;have l2:=Xc l2';have l3:=Xc (hl _ (Xd _ Xf));obtain⟨b',rfl⟩:=Int.eq_ofNat_of_zero_le l2.1;obtain⟨n',rfl⟩:=Int.eq_ofNat_of_zero_le l2.2.2.1;obtain⟨w1,w2,w3⟩:=Zmm l2';have r:=(Zml (b:=b') (n:=n') w1 w2 w3).mono (P':=fun e z=>(e=none∨e=some none)∧zd prog f76 z.1 z.2.1=some (.tuple #[Zs,.nilIface])) fun e z hz=>⟨hz.1,by
   rcases hz.2 with ⟨q,_⟩ | ⟨_,q⟩
   ·exact absurd (show b'=0∧1≤n' by omega) q
   ·exact q⟩
  have:=ZI (T:=Zm prog Zg Za6 hcQ) func76 Zmj hr0 (vals:=[.int .u32 (b':Int),.int .i64 (n':Int)]) (fun v hv=>by
   simp only[List.mem_cons,List.not_mem_nil,or_false] at hv;rcases hv with rfl | rfl<;>rfl) (v:= .tuple #[Zs,.nilIface]) (by rfl) r E (s:=fun i=>i) (fun i x hx _=>by have:i<0:=Hp.blk_lt hx;omega)
  exact this
 ·rename_i b n V s2;cases hg;have l1:=Xc (hl _ Xe);have l2':Zx3 b n=true:=hl _ (Xd _ Xe);have l2:=Xc l2';have l3:=of_decide_eq_false (hl _ (Xd _ (Xd _ Xf)));obtain⟨b',rfl⟩:=Int.eq_ofNat_of_zero_le l2.1;obtain⟨n',rfl⟩:=Int.eq_ofNat_of_zero_le l2.2.2.1;obtain⟨w1,w2,w3⟩:=Zmm l2';rw[Xg,Xg] at l1;rw[← l1];have ep:pMi (b':Int) (n':Int)=pM b' n':=by unfold pMi;rw[Xg,Xg]
  rw[ep];have r:=(Zml (b:=b') (n:=n') w1 w2 w3).mono (P':=fun e z=>(e=none∨e=some none)∧∃ k,zd prog f76 z.1 z.2.1=some (.tuple #[s32 k (pM b' n') (b'^n'),.nilIface])∧∃ r,z.2.1.blk? k=some (wU (dg (pM b' n') ((b'^n':Nat):Int))++r,tU)) fun e z hz=>⟨hz.1,by
   rcases hz.2 with ⟨_,q⟩ | ⟨q,_⟩
   ·exact q
   ·exact absurd q (by omega)⟩
  exact Zeq (T:=Zm prog Zg Za6 hcQ) func76 Zmj hr0 (vals:=[.int .u32 (b':Int),.int .i64 (n':Int)]) (fun v hv=>by
   simp only[List.mem_cons,List.not_mem_nil,or_false] at hv;rcases hv with rfl | rfl<;>rfl) (v:=fun k=> .tuple #[s32 k (pM b' n') (b'^n'),.nilIface]) (ZbR _) (by kernel_rfl) r (fun k=>by simp [oc,oc2,oc1,s32,sl]) E (s:=fun i=>i) (fun i x hx _=>by have:i<0:=Hp.blk_lt hx;omega) (fun k=>by simp [rn,rn2,rn1,s32,sl])
 ·cases hg
end Go.Proofs.YtgefjidphfdhdaaGreatDoor.Na
namespace Go.Proofs.YtgefjidphfdhdaaGreatDoor
open Go.KRun
set_option maxRecDepth 100000
theorem Zsw:Zu []:=fun _ h=>by cases h
def bS (l:List UInt8):Value:= .string ⟨⟨l⟩⟩
theorem Zz2 (l l':List UInt8):((⟨⟨l⟩⟩:ByteArray)==⟨⟨l'⟩⟩)=decide (l=l'):=by
 rw[beq_toListBytes,ByteArray.toList_eq,ByteArray.toList_eq];show (l==l')=decide (l=l');by_cases h:l=l'
 ·rw[Xa h];simpa using h
 ·rw[Xb h];simpa using h
end Go.Proofs.YtgefjidphfdhdaaGreatDoor
namespace Go.Proofs.YtgefjidphfdhdaaGreatDoor.Na
open Go.Proofs.Tryz
open Go.KRun
set_option maxRecDepth 100000
def tlP (F:Func):Code:=Z1 (Zq F)
def tlL (F:Func):Code:=cIn (cIn (Z1 (Zz (Zq F))))
def tlE (F:Func):Code:=Zz (Zz (Zq F))
theorem Zvd:f172.body=some (zo [tlP f172] (.seq (.block 0 (.loop (tlL f172))) (tlE f172))):=by kernel_rfl
def tlF (l:List UInt8) (c:Int):List Value:=[bS l,.int .u8 c,undef,undef,bS []]
theorem Zz3 (l:List UInt8) (c:Int):Zh (evL (Zo prog Zg Zn true) 100 [tlP f172] ([bS l,.int .u8 c]++List.replicate 15 undef,⟨0,[]⟩,[]) ⟨[],[],[]⟩) 5 12 none (tlF l c) ⟨0,[]⟩ []:=by and_intros<;>kernel_rfl
theorem Z4k (x:UInt8) (l:List UInt8) (c:Int) (g:Nat→Value):Zh (evC (Zo prog Zg Zn true) 100 false (tlL f172) (tlF (x::l) c++tl 12 g,⟨0,[]⟩,[cmp true,cmp true,sam true]) ⟨[],[],[]⟩) 5 12 none (tlF l c) ⟨0,[]⟩ [(decide ((0:Int)≤1∧(1:Int)≤((x::l).length:Nat)),true),(((x.toNat:Nat):Int)==c,true),(decide ((0:Int)≤0∧0<(x::l).length),true),(decide ((((x::l).length:Nat):Int)>0),true)]:=by and_intros<;>kernel_rfl
theorem Zz4 (x:UInt8) (l:List UInt8) (c:Int) (g:Nat→Value):Zh (evC (Zo prog Zg Zn true) 100 false (tlL f172) (tlF (x::l) c++tl 12 g,⟨0,[]⟩,[cmp true,cmp false]) ⟨[],[],[]⟩) 5 12 (some (some 0)) (tlF (x::l) c) ⟨0,[]⟩ [(((x.toNat:Nat):Int)==c,false),(decide ((0:Int)≤0∧0<(x::l).length),true),(decide ((((x::l).length:Nat):Int)>0),true)]:=by and_intros<;>kernel_rfl
theorem Zz5 (c:Int) (g:Nat→Value):Zh (evC (Zo prog Zg Zn true) 100 false (tlL f172) (tlF [] c++tl 12 g,⟨0,[]⟩,[cmp false]) ⟨[],[],[]⟩) 5 12 (some (some 0)) (tlF [] c) ⟨0,[]⟩ [(decide (((0:Nat):Int)>0),false)]:=by and_intros<;>kernel_rfl
theorem Zz6 (l:List UInt8) (c:Int) (g:Nat→Value):Zh (evC (Zo prog Zg Zn true) 100 false (tlE f172) (tlF l c++tl 12 g,⟨0,[]⟩,[]) ⟨[],[],[]⟩) 5 12 (some none) [bS l,.int .u8 c,undef,undef,bS l] ⟨0,[]⟩ []:=by and_intros<;>kernel_rfl
def trL (c:Int) (l:List UInt8):List UInt8:=l.dropWhile fun x=>((x.toNat:Nat):Int)==c
theorem Zve (c:Int) (L:List UInt8) (n:Nat) (x:Lf) (h:∃ (l:List UInt8) (g:Nat→Value),x.1=tlF l c++tl 12 g∧x.2.1=⟨0,[]⟩∧trL c l=trL c L∧n=l.length):Runs (Zo prog Zg Zn true) (tlL f172) x fun e y=>match e with | none=>∃ n',n'<n∧∃ (l:List UInt8) (g:Nat→Value),y.1=tlF l c++tl 12 g∧y.2.1=⟨0,[]⟩∧trL c l=trL c L∧n'=l.length | some none=>False | some (some id')=>id'=0∧∃ g:Nat→Value,y.1=tlF (trL c L) c++tl 12 g∧y.2.1=⟨0,[]⟩:=by
 obtain⟨l,g,e1,e2,h1,h2⟩:=h;obtain⟨t,hh,s⟩:=x;have e1:t=_:=e1;have e2:hh=_:=e2;subst e1 e2;have T:=Zl Ze;cases l with
 | nil=>
  refine (Zb T (Zz5 c g) (ZB (by decide))).mono fun e z he=> ?_;obtain⟨rfl,⟨g',z1⟩,z2⟩:=he;have:trL c L=[]:=h1.symm;rw[this];exact⟨rfl,g',z1,z2⟩
 | cons x l=>
  by_cases hx:((x.toNat:Nat):Int)=c
  ·refine (Zb T (Z4k x l c g) (Za (Xa (by rw[List.length_cons];omega)) (Za (by simpa using hx) (Za (Xa (by rw[List.length_cons];omega)) (ZB (Xa (by rw[List.length_cons];omega))))))).mono fun e z he=> ?_;obtain⟨rfl,⟨g',z1⟩,z2⟩:=he;refine⟨l.length,by rw[h2,List.length_cons];omega,l,g',z1,z2,?_,rfl⟩;rw[← h1];unfold trL;rw[List.dropWhile_cons_of_pos (by simpa using hx)]
  ·refine (Zb T (Zz4 x l c g) (Za (by simpa using hx) (Za (Xa (by rw[List.length_cons];omega)) (ZB (Xa (by rw[List.length_cons];omega)))))).mono fun e z he=> ?_;obtain⟨rfl,⟨g',z1⟩,z2⟩:=he;have:trL c L=x::l:=by
    rw[← h1];unfold trL;rw[List.dropWhile_cons_of_neg (by simpa using hx)]
   rw[this];exact⟨rfl,g',z1,z2⟩
theorem Zmn (l:List UInt8) (c:Int) (w:World):Calls prog 172 #[bS l,.int .u8 c] w fun r w'=>r= .returned (bS (trL c l))∧zH w w':=by
 have hT:=Zl Ze;refine zW (T:=Zo prog Zg Zn true) func172 Zvd (by rfl) (by rfl) ?_ w;refine Z4 hT (Zz3 l c) Zsw fun g=> ?_;refine Runs.seq (P1:=fun e y=>e=none∧∃ g:Nat→Value,y.1=tlF (trL c l) c++tl 12 g∧y.2.1=⟨0,[]⟩) ?_ ?_ (fun e y he=>by cases he.1)
 ·refine (Runs.forLoop (R:=fun _=>False) (P:=fun y=>∃ g:Nat→Value,y.1=tlF (trL c l) c++tl 12 g∧y.2.1=⟨0,[]⟩) (fun n x=>∃ (l':List UInt8) (g:Nat→Value),x.1=tlF l' c++tl 12 g∧x.2.1=⟨0,[]⟩∧trL c l'=trL c l∧n=l'.length) (Zve c l) (n:=l.length) ⟨l,g,rfl,rfl,rfl,rfl⟩).mono fun e z hz=> ?_
  match e,hz with
  | none,hz=>exact⟨rfl,hz⟩
 ·intro y he;obtain⟨_,g',e1,e2⟩:=he;obtain⟨t,hh,s⟩:=y;have e1:t=_:=e1;have e2:hh=_:=e2;subst e1 e2;refine (Zb hT (Zz6 (trL c l) c g') Zsw).mono fun e z hz=> ?_;obtain⟨rfl,⟨g2,z1⟩,z2⟩:=hz;exact⟨.inr rfl,by rw[z1,z2];rfl⟩
def Z4l:Ans:=fun vals s=>
 match vals with
 | [.string b,.int .u8 c]=>some (bS (trL c b.data.toList),s,[])
 | _=>none
theorem Zvf:z8 172 Z4l:=by
 intro vals s v s' lg h hl w;unfold Z4l at h;split at h
 ·cases h;exact Zmn _ _ w
 ·cases h
def Zvg:Con:=alt 172 Z4l Zn
theorem Ziu:ConOk Zvg:=ZF func172 rfl Zvf Ze
theorem Z67 (l:List UInt8):ZH (Zr (Zo prog Zg Zvg true) 100 135 [bS l,bS [48]] [sam true]) (bS l) [((⟨⟨l⟩⟩:ByteArray)==⟨⟨[]⟩⟩,true)]:=by and_intros<;>kernel_rfl
theorem Z68 (l:List UInt8):ZH (Zr (Zo prog Zg Zvg true) 100 135 [bS l,bS [48]] [sam false]) (bS (trL 48 l)) [(true,true),(true,true),((⟨⟨l⟩⟩:ByteArray)==⟨⟨[]⟩⟩,false)]:=by and_intros<;>kernel_rfl
def Z4m:Ans:=fun vals s=>
 match vals with
 | [.string b,.string ⟨⟨[c]⟩⟩]=>some (bS (trL 48 b.data.toList),s,[(decide (c=48),true)])
 | _=>none
theorem Zvh:z8 135 Z4m:=by
 intro vals s v s' lg h hl w;unfold Z4m at h;split at h
 ·rename_i b c;cases h;have hc:=Xc (hl _ Xf);subst hc;by_cases hn:b.data.toList=[]
  ·have:=Zf (Zl Ziu) (Z67 b.data.toList) (ZB ((Zz2 _ _).trans (Xa hn))) (by rfl) (by rfl) w;rw[hn] at this ⊢;have hb:b=⟨⟨[]⟩⟩:=by
    apply ByteArray.ext;apply Array.ext';exact hn
   rw[hb];exact this
  ·exact Zf (Zl Ziu) (Z68 b.data.toList) (Za rfl (Za rfl (ZB ((Zz2 _ _).trans (Xb hn))))) (by rfl) (by rfl) w
 ·cases h
end Go.Proofs.YtgefjidphfdhdaaGreatDoor.Na
namespace Go.KRun
open Go.RowKit
structure BelowI (B r:Nat) (w w':World):Prop where
 os:w'.os=w.os
 tape:w'.tape=w.tape
 output:w'.output=w.output
 size:w.heap.size≤w'.heap.size
 block:∀ k,k<B→k≠r→w'.heap[k]? =w.heap[k]?
end Go.KRun
namespace Go.Proofs.YtgefjidphfdhdaaGreatDoor
open Go.KRun
set_option maxRecDepth 100000
theorem Zew {x:Bool×Bool}{l:Log}(h:Zu (x::l)):x.1=x.2∧Zu l:=⟨h _ Xe,fun y hy=>h y (Xd _ hy)⟩
end Go.Proofs.YtgefjidphfdhdaaGreatDoor
namespace Go.Proofs.YtgefjidphfdhdaaGreatDoor.Na
open Go.Proofs.Tryz
open Go.IntKind
open Go.KRun Go.Nt
set_option maxRecDepth 100000
def tBy:TypeId:=5
def ub (x:Int):Value:= .int .u8 x
def wB (L:List Int):List Value:=L.map ub
def rvP (F:Func):Code:=Z1 (Zq F)
def rvL (F:Func):Code:=cIn (cIn (Zz (Zq F)))
theorem Zvi:f134.body=some (zo [rvP f134] (.block 0 (.loop (rvL f134)))):=by kernel_rfl
def hB2 (S:List Value) (Y:List Value×TypeId) (la:List Value):Hp:=⟨3,[(S,tBy),Y,(la,tR)]⟩
def rvF (n:Nat) (i j:Int):List Value:=[.slice (some ⟨2,0,none⟩) n grown,undef,.int .i64 i,.int .i64 j]
def Zmo (S:List Value) (j x:Int):Bool×Bool:=(Z3 S[0+j.toNat*1]? (ub x),true)
def stB (S:List Value) (j:Int):Bool×Bool:=(decide (0+j.toNat*1<S.length),true)
theorem Zz7 (n:Nat) (h:Hp):Zh (evL (Zo prog Zg Zn true) 100 [rvP f134] ([.slice (some ⟨2,0,none⟩) n grown]++List.replicate 27 undef,h,[]) ⟨[],[],[]⟩) 4 24 none (rvF n 0 (i64.wrap ((n:Int)-1))) h []:=by and_intros<;>kernel_rfl
theorem Zz8 (n:Nat) (i j:Int) (h:Hp) (g:Nat→Value):Zh (evC (Zo prog Zg Zn true) 100 false (rvL f134) (rvF n i j++tl 24 g,h,[cmp false]) ⟨[],[],[]⟩) 4 24 (some (some 0)) (rvF n i j) h [(decide (i<j),false)]:=by and_intros<;>kernel_rfl
theorem Z4n (n:Nat) (i j x y:Int) (S:List Value) (Y:List Value×TypeId) (la:List Value) (g:Nat→Value):Zh (evC (Zo prog Zg Zn true) 100 false (rvL f134) (rvF n i j++tl 24 g,hB2 S Y la,[cmp true,at_,num 8,at_,num 0,at_,num 6,num 1,at_,num 7,num 1,val (ub y),num 10,num 1,at_,num 11,num 1,val (ub x),num 12,num 1,at_,num 13,num 1,at_,num 14,num 1,at_,num 15,num 1,at_]) ⟨[],[],[]⟩) 4 24 none (rvF n (i64.wrap (i+1)) (i64.wrap (j-1))) (hB2 ((S.set (0+i.toNat*1) (ub y)).set (0+j.toNat*1) (ub x)) Y la)
  [stB (S.set (0+i.toNat*1) (ub y)) j,inR j n,stB S i,inR i n,Zmo S j y,Zmo S i x,stB (S.set (0+i.toNat*1) (ub y)) j,inR j n,stB S i,inR i n,Zmo S i x,Zmo S j y,inR i n,inR j n,(decide (i<j),true)]:=by and_intros<;>kernel_rfl
def rvK (D:List Int) (i:Nat):List Int:=(List.range D.length).map fun k=>if k<i∨D.length-i≤k then D.getD (D.length-1-k) 0 else D.getD k 0
theorem ZbX (D:List Int) (i:Nat):(rvK D i).length=D.length:=by simp [rvK]
theorem Zex {D:List Int}{i k:Nat}(h:k<D.length):(rvK D i)[k]? =some (if k<i∨D.length-i≤k then D.getD (D.length-1-k) 0 else D.getD k 0):=by
 simp [rvK,h]
theorem Zq6 (D:List Int):rvK D 0=D:=by
 apply List.ext_getElem?;intro k;by_cases h:k<D.length
 ·rw[Zex h,if_neg (by omega)];simp [List.getD,h]
 ·rw[List.getElem?_eq_none (by rw[ZbX];omega),List.getElem?_eq_none (by omega)]
theorem Zq7 {D:List Int}{i j:Nat}(hj:i+j+1=D.length) (hij:i<j):((rvK D i).set i (D.getD j 0)).set j (D.getD i 0)=rvK D (i+1):=by
 apply List.ext_getElem?;intro k;by_cases h:k<D.length
 ·rw[Zex h,List.getElem?_set,List.getElem?_set];simp only[List.length_set,ZbX];by_cases h1:j=k
  ·rw[if_pos h1,if_pos (by omega),if_pos (by omega),show D.length-1-k=i by omega]
  ·rw[if_neg h1];by_cases h2:i=k
   ·rw[if_pos h2,if_pos (by omega),if_pos (by omega),show D.length-1-k=j by omega]
   ·rw[if_neg h2,Zex h];congr 1;by_cases h3:k<i∨D.length-i≤k
    ·rw[if_pos h3,if_pos (by omega)]
    ·rw[if_neg h3,if_neg (by omega)]
 ·rw[List.getElem?_eq_none (by simp [ZbX];omega),List.getElem?_eq_none (by rw[ZbX];omega)]
theorem Zvj {D:List Int}{i:Nat}(h:D.length≤i+i+1):rvK D i=D.reverse:=by
 apply List.ext_getElem?;intro k;by_cases hk:k<D.length
 ·rw[Zex hk,List.getElem?_reverse hk];have e:∀ m,m<D.length→D.getD m 0=D[m]?.getD 0:=fun m _=>by simp [List.getD]
  by_cases h3:k<i∨D.length-i≤k
  ·rw[if_pos h3];have:D.length-1-k<D.length:=by omega
   simp [List.getD,this]
  ·rw[if_neg h3,show D.length-1-k=k by omega];simp [List.getD,hk]
 ·rw[List.getElem?_eq_none (by rw[ZbX];omega),List.getElem?_eq_none (by simp;omega)]
theorem Zgd (L:List Int):(wB L).length=L.length:=by simp [wB]
theorem Zz9 {L:List Int}{k:Nat}{x:Int}(h:L[k]? =some x):(wB L)[k]? =some (ub x):=by simp [wB,h]
theorem Zsx (L:List Int) (k:Nat) (x:Int):(wB L).set k (ub x)=wB (L.set k x):=by simp [wB,List.map_set]
theorem Zmp {S:List Value}{k:Nat}{x:Int}(h:S[k]? =some (ub x)):(Zmo S k x).1=(Zmo S k x).2:=by
 unfold Zmo;simp only[Xg,Nat.mul_one,Nat.zero_add,h];simp [Z3,ub]
theorem Zvk {Y:List Value×TypeId}{la:List Value}(D:List Int) (hN:D.length<4611686018427387904):
  Runs (Zo prog Zg Zn true) (zo [rvP f134] (.block 0 (.loop (rvL f134)))) ([.slice (some ⟨2,0,none⟩) D.length grown]++List.replicate 27 undef,hB2 (wB D) Y la,[]) fun e y=>(e=none∨e=some none)∧zd prog f134 y.1 y.2.1=some (.tuple #[])∧y.2.1.cut 3=hB2 (wB D.reverse) Y la:=by
 have hT:=Zl Ze;refine Z4 hT (Zz7 D.length _) Zsw fun g=> ?_;have ew:i64.wrap ((D.length:Int)-1)=(D.length:Int)-1:=Zw (by omega) (by omega);rw[ew];refine (Runs.forLoop (R:=fun _=>False) (P:=fun y=>∃ (i j:Int) (g:Nat→Value),y.1=rvF D.length i j++tl 24 g∧y.2.1=hB2 (wB D.reverse) Y la)
  (fun r y=>∃ (i:Nat) (g:Nat→Value),y.1=rvF D.length i ((D.length:Int)-1-i)++tl 24 g∧y.2.1=hB2 (wB (rvK D i)) Y la∧i≤D.length∧r=D.length-i)
  ?_ (n:=D.length) ⟨0,g,by simp,by rw[Zq6],by omega,by omega⟩).mono fun e' y he=> ?_
 ·rintro r ⟨t,h',s'⟩ ⟨i,g,ht,hh,hi,hr⟩;simp only at ht hh;subst ht hh;by_cases hc:(i:Int)<(D.length:Int)-1-i
  ·obtain⟨j,hj⟩:∃ j:Nat,i+j+1=D.length:=⟨D.length-1-i,by omega⟩;have ej:(D.length:Int)-1-i=(j:Nat):=by omega
   rw[ej] at hc ⊢;have hij:i<j:=by omega
   have cx:(rvK D i)[i]? =some (D.getD i 0):=by rw[Zex (by omega),if_neg (by omega)]
   have cy:(rvK D i)[j]? =some (D.getD j 0):=by rw[Zex (by omega),if_neg (by omega)]
   have l1:(Zmo (wB (rvK D i)) i (D.getD i 0)).1=(Zmo (wB (rvK D i)) i (D.getD i 0)).2:=Zmp (Zz9 cx);have l2:(Zmo (wB (rvK D i)) j (D.getD j 0)).1=(Zmo (wB (rvK D i)) j (D.getD j 0)).2:=Zmp (Zz9 cy);have l3:(inR i D.length).1=(inR i D.length).2:=Xa (by omega);have l4:(inR j D.length).1=(inR j D.length).2:=Xa (by omega);have l5:(stB (wB (rvK D i)) i).1=(stB (wB (rvK D i)) i).2:=Xa (by rw[Zgd,ZbX];omega);have l6:(stB ((wB (rvK D i)).set (0+(i:Int).toNat*1) (ub (D.getD j 0))) j).1=(stB ((wB (rvK D i)).set (0+(i:Int).toNat*1) (ub (D.getD j 0))) j).2:=Xa (by rw[List.length_set,Zgd,ZbX];omega);refine (Zb hT (Z4n D.length i j (D.getD i 0) (D.getD j 0) (wB (rvK D i)) Y la g) (Za l6 (Za l4 (Za l5 (Za l3 (Za l2 (Za l1 (Za l6 (Za l4 (Za l5 (Za l3 (Za l1 (Za l2 (Za l3 (Za l4 (ZB (Xa hc))))))))))))))))).mono fun e z he=> ?_;obtain⟨rfl,⟨g',z1⟩,z2⟩:=he;refine⟨D.length-(i+1),by omega,i+1,g',?_,?_,by omega,rfl⟩
   ·rw[z1,Zw (by omega) (by omega),Zw (by omega) (by omega)];congr 2;omega
   ·rw[z2,← Zq7 hj hij,Xg,Xg,Nat.mul_one,Nat.mul_one,Nat.zero_add,Nat.zero_add,Zsx,Zsx]
  ·refine (Zb hT (Zz8 D.length i _ _ g) (ZB (Xb hc))).mono fun e z he=> ?_;obtain⟨rfl,⟨g',z1⟩,z2⟩:=he;rw[Zvj (by omega)] at z2;exact⟨rfl,_,_,g',z1,z2⟩
 ·match e',he with
  | none,he=>
   obtain⟨i,j,g,e1,e2⟩:=he;refine⟨.inl rfl,?_,?_⟩
   ·rw[e1];kernel_rfl
   ·rw[e2];rfl
  | some none,he=>exact he.elim
  | some (some _),he=>exact he.elim
def isB (S:List Value):Bool:=(Zbc S).isSome
theorem Zq8 {S:List Value}(h:isB S=true):∃ D,S=wB D:=by
 obtain⟨D,hD⟩:=Option.isSome_iff_exists.1 h;exact⟨D,ZbN _ _ hD⟩
theorem Zsy:∀ D,isB (wB D)=true
 | []=>rfl
 | x::D=>by
  have:=Zsy D;unfold isB at*;obtain⟨E,hE⟩:=Option.isSome_iff_exists.1 this;show (Zbc (ub x::wB D)).isSome=true;simp [Zbc,ub,hE]
def gRv:Zag:=fun vals h s=>
 match vals,h with
 | [.slice (some ⟨2,0,none⟩) n c],⟨3,[(S,t),Y,(la,t')]⟩=>some (.tuple #[],⟨3,[(S.reverse,tBy),Y,(la,tR)]⟩,s,[(Y.1.all still,true),(Nat.beq t tBy,true),(Nat.beq t' tR,true),(Nat.beq n S.length,true),(isB S,true),(Nat.beq c grown,true),(la.all still,true),(Nat.blt n 4611686018427387904,true)])
 | _,_=>none
theorem Zq9 (L:List Int) (n:Nat):(wB L).all (lt1 n)=true:=by
 unfold wB;rw[List.all_eq_true];intro v hv;obtain⟨x,_,rfl⟩:=List.mem_map.1 hv;rfl
theorem ZzA:Z8 134 gRv:=by
 intro vals h s v h' s' lg hg hl m B w E hv;unfold gRv at hg;split at hg
 ·rename_i n c S t Y la t';cases hg;obtain⟨l0,q⟩:=Zew hl;obtain⟨l1,q⟩:=Zew q;obtain⟨l2,q⟩:=Zew q;obtain⟨l3,q⟩:=Zew q;obtain⟨l4,q⟩:=Zew q;obtain⟨l5,q⟩:=Zew q;obtain⟨l6,q⟩:=Zew q;obtain⟨l7,_⟩:=Zew q;have l1:=Xj l1;have l2:=Xj l2;have l3:=Xj l3;have l5:=Xj l5;obtain⟨D,rfl⟩:=Zq8 l4;have l7:=Zk.1 l7;subst l1 l2 l3 l5;rw[Zgd] at l7 hv ⊢;have e:(wB D).reverse=wB D.reverse:=by simp [wB]
  rw[e];exact ZM (T:=Zo prog Zg Zn true) func134 Zvi (v:= .tuple #[]) (h':=hB2 (wB D.reverse) Y la) (by rfl) (by
   show (((wB D.reverse,tBy)::[Y,(la,tR)]).all fun x=>x.1.all (lt1 3))=true;rw[List.all_cons,Zq9,List.all_cons,ZU (by omega) l0,List.all_cons,ZU (by omega) l6];rfl) (Zvk D l7) m B w E hv
 ·cases hg
end Go.Proofs.YtgefjidphfdhdaaGreatDoor.Na
namespace Go.Nt
theorem Zhf {L:List Int}{i:Nat}(h:i<L.length):L.getD i 0=L[i]:=by simp [List.getD,h]
def ZeX (L:List Int):List Int:=L.dropWhile fun x=>x==0
theorem Zmq (L:List Int):∀ x∈L.drop (Zc L),x=0:=by
 intro x hx;obtain⟨i,hi,rfl⟩:=List.mem_iff_getElem.1 hx;rw[List.getElem_drop];have h:=Zc0 L (Zc L+i) (by omega);rw[List.length_drop] at hi;rw[Zhf (by omega)] at h;exact h
theorem Zmr {A B:List Int}(h:∀ x∈A,x=0):ZeX (A++B)=ZeX B:=by
 unfold ZeX;rw[List.dropWhile_append_of_pos];intro x hx;rw[h x hx];rfl
theorem Zj4 {L:List Int}(h:L=[]∨L.getD 0 0≠0):ZeX L=L:=by
 cases L with
 | nil=>rfl
 | cons x L=>
  rcases h with h | h
  ·cases h
  ·unfold ZeX;rw[List.dropWhile_cons_of_neg];simpa using h
theorem Zms {D:List Int}(h:∀ x∈D,Dg 10 x):ZeX D.reverse=(db 10 (vb 10 D)).reverse:=by
 have t:=za (b:=10) (by omega) D h;have e:D.reverse=(D.drop (Zc D)).reverse++(D.take (Zc D)).reverse:=by
  rw[← List.reverse_append,List.take_append_drop]
 rw[e,Zmr (fun x hx=>Zmq D x (List.mem_reverse.1 hx)),t];apply Zj4;by_cases h0:Zc D=0
 ·left
  rw[← t,h0];rfl
 ·right
  have hl:=zm D;have ht:=Zbx D;have hlen:(db 10 (vb 10 D)).length=Zc D:=by rw[← t,List.length_take];omega
  rw[← t];have hlt:(D.take (Zc D)).reverse.length=Zc D:=by rw[List.length_reverse,List.length_take];omega
  rw[Zhf (by omega),List.getElem_reverse,List.getElem_take];rcases ht with ht | ht
  ·exact absurd ht h0
  ·rw[Zhf (by omega)] at ht;have e2:(List.take (Zc D) D).length-1-0=Zc D-1:=by rw[List.length_take];omega
   simp only[e2];exact ht
def ld:Nat→Nat→List Int
 | 0,_=>[]
 | k+1,p=>((p % 10:Nat):Int)::ld k (p/10)
theorem Ziv:∀ k p,(ld k p).length=k
 | 0,_=>rfl
 | k+1,p=>by simp [ld,Ziv k]
theorem ZzB:∀ k p,∀ x∈ld k p,Dg 10 x
 | 0,_,x,h=>by cases h
 | k+1,p,x,h=>by
  rcases List.mem_cons.1 h with rfl | h
  ·exact⟨by omega,by omega⟩
  ·exact ZzB k _ x h
theorem Zsz:∀ k p,vb 10 (ld k p)=p % 10^k
 | 0,p=>by simp [ld,vb,Nat.mod_one]
 | k+1,p=>by
  rw[show vb 10 (ld (k+1) p)=((p % 10:Nat):Int).toNat+10*vb 10 (ld k (p/10)) from rfl,Zsz k (p/10),Nat.pow_succ',Nat.mod_mul];omega
theorem Zmt:∀ k p,ld (k+1) p=ld k p++[((p/10^k % 10:Nat):Int)]
 | 0,p=>by simp [ld]
 | k+1,p=>by
  rw[show ld (k+1+1) p=((p % 10:Nat):Int)::ld (k+1) (p/10) from rfl,Zmt k (p/10),Nat.div_div_eq_div_mul,← Nat.pow_succ'];rfl
theorem Zj5 {D:List Int}{R V k:Nat}(hl:D.length=9*k) (h:vb 10 D+10^(9*k)*R=V):vb 10 (D++ld 9 (R % 1000000000))+10^(9*(k+1))*(R/1000000000)=V:=by
 rw[ZaN,Zsz,hl];have e:(10:Nat)^(9*(k+1))=10^(9*k)*1000000000:=by rw[Nat.mul_add,Nat.pow_add]
 have e9:(10:Nat)^9=1000000000:=rfl;rw[e,e9,Nat.mod_mod,Nat.mul_assoc,Nat.add_assoc,← Nat.mul_add];have:=Nat.mod_add_div R 1000000000;rw[this];exact h
end Go.Nt
namespace Go.Proofs.YtgefjidphfdhdaaGreatDoor.Na
open Go.Proofs.Tryz
open Go.IntKind
open Go.KRun Go.Nt
set_option maxRecDepth 100000
def kP (F:Func):List Code:=[Z1 (Zq F),Z1 (Zz (Zq F))]
def kR2 (F:Func):Code:=Z1 (Z1 (Zz (Zz (Zq F))))
def kL (F:Func):Code:=cIn (cIn (Zz (Z1 (Zz (Zz (Zq F))))))
def kE (F:Func):Code:=Zz (Zz (Zz (Zq F)))
theorem Zvl:f133.body=some (zo (kP f133) (.seq (.seq (kR2 f133) (.block 0 (.loop (kL f133)))) (kE f133))):=by kernel_rfl
def hX (X:List (List Value×TypeId)) (S la:List Value):Hp:=⟨2+X.length,X++[(S,tU),(la,tR)]⟩
def kF (n c:Nat) (r i:Int):List Value:=[sl 1 0 n c,undef,uu 0,.int .u64 r,.int .i64 i]
def tpT (r x:Int):Int:=u64.wrap ↑(BitVec.ofInt 64 (u64.wrap (r*2^min (Int.toNat 32) 64)) ||| BitVec.ofInt 64 (u64.wrap x)).toNat
def tpQ (r x:Int):Int:=u32.wrap (u64.wrap ((tpT r x).tdiv 1000000000))
def tpR (r x:Int):Int:=(tpT r x).tmod 1000000000
theorem ZzC {r x:Int}(hr:0≤r∧r<1000000000) (hx:0≤x∧x<4294967296):tpQ r x=(r*4294967296+x)/1000000000∧tpR r x=(r*4294967296+x) % 1000000000∧0≤tpQ r x∧tpQ r x<4294967296:=by
 have e0:(2:Int)^min (Int.toNat 32) 64=4294967296:=rfl;obtain⟨a,rfl⟩:=Int.eq_ofNat_of_zero_le hr.1;obtain⟨u,rfl⟩:=Int.eq_ofNat_of_zero_le hx.1;have e1:u64.wrap ((a:Int)*4294967296)=(a:Int)*4294967296:=by simp [IntKind.wrap,IntKind.bits,IntKind.signed];omega
 have e2:u64.wrap (u:Int)=u:=by simp [IntKind.wrap,IntKind.bits,IntKind.signed];omega
 have e3:(BitVec.ofInt 64 ((a:Int)*4294967296)).toNat=2^32*a:=by rw[BitVec.toNat_ofInt];omega
 have e4:(BitVec.ofInt 64 (u:Int)).toNat=u:=by rw[BitVec.toNat_ofInt];omega
 have eT:tpT a u=(a:Int)*4294967296+u:=by
  unfold tpT;rw[e0,e1,e2,BitVec.toNat_or,e3,e4,← Nat.two_pow_add_eq_or_of_lt (by omega) a];simp [IntKind.wrap,IntKind.bits,IntKind.signed];omega
 have q1:((a:Int)*4294967296+u).tdiv 1000000000=((a:Int)*4294967296+u)/1000000000:=Int.tdiv_eq_ediv_of_nonneg (by omega);have q2:tpQ a u=((a:Int)*4294967296+u)/1000000000:=by
  unfold tpQ;rw[eT,q1];simp [IntKind.wrap,IntKind.bits,IntKind.signed];omega
 have q3:tpR a u=((a:Int)*4294967296+u) % 1000000000:=by
  unfold tpR;rw[eT,Int.tmod_eq_emod_of_nonneg (by omega)]
 rw[q2,q3];exact⟨rfl,rfl,by omega,by omega⟩
theorem ZzD (n c:Nat) (h:Hp):Zh (evL (Zo prog Zg Zn true) 100 (kP f133) ([sl 1 0 n c]++List.replicate 29 undef,h,[]) ⟨[],[],[]⟩) 4 26 none [sl 1 0 n c,undef,uu 0,.int .u64 0] h []:=by and_intros<;>kernel_rfl
theorem Z4o (n c:Nat) (h:Hp) (g:Nat→Value):Zh (evC (Zo prog Zg Zn true) 100 false (kR2 f133) ([sl 1 0 n c,undef,uu 0,.int .u64 0]++tl 26 g,h,[]) ⟨[],[],[]⟩) 5 25 none (kF n c 0 (i64.wrap ((n:Int)-1))) h []:=by and_intros<;>kernel_rfl
theorem ZzE (n c:Nat) (r i:Int) (h:Hp) (g:Nat→Value):Zh (evC (Zo prog Zg Zn true) 100 false (kL f133) (kF n c r i++tl 25 g,h,[cmp false]) ⟨[],[],[]⟩) 5 25 (some (some 0)) (kF n c r i) h [(decide (i≥0),false)]:=by and_intros<;>kernel_rfl
theorem ZzF (n c:Nat) (r i x:Int) (S la:List Value) (g:Nat→Value):Zh (evC (Zo prog Zg Zn true) 100 false (kL f133) (kF n c r i++tl 25 g,hX [] S la,[cmp true,at_,val (uu x),at_,at_]) ⟨[],[],[]⟩) 5 25 none (kF n c (tpR r x) (i64.wrap (i-1))) (hX [] (S.set (0+i.toNat*1) (uu (tpQ r x))) la) [(decide (0+i.toNat*1<S.length),true),inR i n,ZbG S 0 i x,inR i n,(decide ((32:Int)<0),false),(decide (i≥0),true)]:=by and_intros<;>kernel_rfl
theorem ZzG (n c:Nat) (r i x:Int) (X:List Value×TypeId) (S la:List Value) (g:Nat→Value):Zh (evC (Zo prog Zg Zn true) 100 false (kL f133) (kF n c r i++tl 25 g,hX [X] S la,[cmp true,at_,val (uu x),at_,at_]) ⟨[],[],[]⟩) 5 25 none (kF n c (tpR r x) (i64.wrap (i-1))) (hX [X] (S.set (0+i.toNat*1) (uu (tpQ r x))) la) [(decide (0+i.toNat*1<S.length),true),inR i n,ZbG S 0 i x,inR i n,(decide ((32:Int)<0),false),(decide (i≥0),true)]:=by and_intros<;>kernel_rfl
theorem Z4p (n c:Nat) (r i x:Int) {X:List (List Value×TypeId)}(hX1:X.length≤1) (S la:List Value) (g:Nat→Value):Zh (evC (Zo prog Zg Zn true) 100 false (kL f133) (kF n c r i++tl 25 g,hX X S la,[cmp true,at_,val (uu x),at_,at_]) ⟨[],[],[]⟩) 5 25 none (kF n c (tpR r x) (i64.wrap (i-1))) (hX X (S.set (0+i.toNat*1) (uu (tpQ r x))) la) [(decide (0+i.toNat*1<S.length),true),inR i n,ZbG S 0 i x,inR i n,(decide ((32:Int)<0),false),(decide (i≥0),true)]:=by
 match X,hX1 with
 | [],_=>exact ZzF n c r i x S la g
 | [y],_=>exact ZzG n c r i x y S la g
theorem ZzH (n c:Nat) (r i:Int) (h:Hp) (g:Nat→Value):Zh (evC (Zo prog Zg Zn true) 100 false (kE f133) (kF n c r i++tl 25 g,h,[]) ⟨[],[],[]⟩) 3 27 (some none) [sl 1 0 n c,undef,uu (u32.wrap r)] h []:=by and_intros<;>kernel_rfl
theorem Zvm {c:Nat}{X:List (List Value×TypeId)}(hX1:X.length≤1) {la Z:List Value}{L:List Int}(hL:wds L) (hN:L.length<4611686018427387904):
  Runs (Zo prog Zg Zn true) (zo (kP f133) (.seq (.seq (kR2 f133) (.block 0 (.loop (kL f133)))) (kE f133))) ([sl 1 0 L.length c]++List.replicate 29 undef,hX X (wU L++Z) la,[]) fun e y=>(e=none∨e=some none)∧zd prog f133 y.1 y.2.1=some (uu (vN L % 1000000000))∧y.2.1=hX X (wU (dg L.length (vN L/1000000000))++Z) la:=by
 have hT:=Zl Ze;refine Z4 hT (ZzD L.length c _) Zsw fun g=> ?_;refine Runs.seq (P1:=fun e y=>e=none∧∃ (i:Int) (g:Nat→Value),y.1=kF L.length c (vN L % 1000000000) i++tl 25 g∧y.2.1=hX X (wU (dg L.length (vN L/1000000000))++Z) la) ?_ ?_ (fun e y he=>by cases he.1)
 ·refine Runs.seq (Zb hT (Z4o L.length c _ g) Zsw) ?_ (fun e y he=>by cases he.1);rintro⟨t,hh,s⟩ ⟨_,⟨g',e1⟩,e2⟩;have ew:i64.wrap ((L.length:Int)-1)=(L.length:Int)-1:=Zw (by omega) (by omega);rw[ew] at e1;refine (Runs.forLoop (R:=fun _=>False) (P:=fun y=>∃ (i:Int) (g:Nat→Value),y.1=kF L.length c (vN L % 1000000000) i++tl 25 g∧y.2.1=hX X (wU (dg L.length (vN L/1000000000))++Z) la)
   (fun m y=>∃ (A Q H:List Int) (r:Int) (g:Nat→Value),y.1=kF L.length c r ((A.length:Int)-1)++tl 25 g∧y.2.1=hX X (wU (A++Q)++Z) la∧L=A++H∧H.length=Q.length∧wds Q∧(0≤r∧r<1000000000)∧vN H=vN Q*1000000000+r∧m=A.length)
   ?_ (n:=L.length) ⟨L,[],[],0,g',e1,by rw[List.append_nil];exact e2,by simp,rfl,(fun x hx=>by cases hx),by omega,rfl,rfl⟩).mono fun e z hz=> ?_
  ·rintro m ⟨t,h',s'⟩ ⟨A,Q,H,r,g,ht,hh,hLA,hHQ,wQ,hr,hv,hm⟩;simp only at ht hh;subst ht hh;rcases List.eq_nil_or_concat A with rfl | ⟨A',x,rfl⟩
   ·refine (Zb hT (ZzE L.length c r _ _ g) (ZB (Xb (by simp)))).mono fun e z he=> ?_;obtain⟨rfl,⟨g',z1⟩,z2⟩:=he;have eH:L=H:=by simpa using hLA
    have hd:vN L/1000000000=vN Q∧vN L % 1000000000=r:=by rw[eH];omega
    have e5:dg L.length (vN Q)=Q:=by rw[eH,hHQ];exact ZfI Q wQ
    refine⟨rfl,((([]:List Int).length:Nat):Int)-1,g',?_,?_⟩
    ·rw[z1,hd.2]
    ·rw[z2,hd.1,e5];rfl
   ·rw[List.concat_eq_append] at*;have hlen:L.length=A'.length+1+H.length:=by rw[hLA];simp;omega
    have hx:0≤x∧x<4294967296:=hL x (by rw[hLA];simp);obtain⟨n1,n2,n3,n4⟩:=ZzC hr hx;have ei:(((A'++[x]).length:Nat):Int)-1=(A'.length:Nat):=by simp
    have eS:wU (A'++[x]++Q)++Z=wU (A'++x::Q)++Z:=by simp
    have cS:(wU (A'++x::Q)++Z)[0+A'.length]? =some (uu x):=by
     rw[Nat.zero_add,List.getElem?_append_left (by unfold wU;simp)];exact ZkC A' x Q
    have l1:decide (0+((A'.length:Nat):Int).toNat*1<(wU (A'++x::Q)++Z).length)=true:=Xa (by unfold wU;simp);have l2:(inR (A'.length:Nat) L.length).1=(inR (A'.length:Nat) L.length).2:=Xa (by omega);have l3:(ZbG (wU (A'++x::Q)++Z) 0 (A'.length:Nat) x).1=(ZbG (wU (A'++x::Q)++Z) 0 (A'.length:Nat) x).2:=Zae cS;rw[ei,eS];refine (Zb hT (Z4p L.length c r (A'.length:Nat) x hX1 (wU (A'++x::Q)++Z) la g) (Za l1 (Za l2 (Za l3 (Za l2 (Za (by decide) (ZB (Xa (by omega))))))))).mono fun e z he=> ?_;obtain⟨rfl,⟨g',z1⟩,z2⟩:=he;refine⟨A'.length,by rw[hm];simp,A',tpQ r x::Q,x::H,tpR r x,g',?_,?_,by rw[hLA];simp,by simp [hHQ],?_,by rw[n2];omega,?_,rfl⟩
    ·rw[z1,Zw (by omega) (by omega)]
    ·rw[z2,Xg,Nat.mul_one,Nat.zero_add,List.set_append_left _ _ (by unfold wU;simp),ZfJ];simp
    ·intro y hy;rcases List.mem_cons.1 hy with rfl | hy
     ·exact⟨n3,n4⟩
     ·exact wQ y hy
    ·simp only[vN];rw[n1,n2,hv];omega
  ·match e,hz with
   | none,hz=>exact⟨rfl,hz⟩
 ·rintro⟨t,hh,s⟩ ⟨_,i,g',e1,e2⟩;simp only at e1 e2;subst e1 e2;refine (Zb hT (ZzH L.length c _ i _ g') Zsw).mono fun e z hz=> ?_;obtain⟨rfl,⟨g2,z1⟩,z2⟩:=hz;have hm:u32.wrap (vN L % 1000000000)=vN L % 1000000000:=by simp [IntKind.wrap,IntKind.bits,IntKind.signed];omega
  rw[hm] at z1;exact⟨.inr rfl,by rw[z1,z2];rfl,z2⟩
def tpS (S:List Value) (n:Nat):List Value:=wU (dg n (vN (Zx S 0 n)/1000000000))++S.drop n
def tpG (X:List (List Value×TypeId)) (S:List Value) (t:TypeId) (la:List Value) (t':TypeId) (n c:Nat) (s:List Dec):Option (Value×Hp×List Dec×Log):=
 some (uu (vN (Zx S 0 n) % 1000000000),⟨2+X.length,X++[(tpS S n,tU),(la,tR)]⟩,s,[(Nat.beq t tU,true),(Nat.beq t' tR,true),(Z0 t S 0 n c,true),(la.all still,true),(X.all fun x=>x.1.all still,true)])
def gTp:Zag:=fun vals h s=>
 match vals,h with
 | [.slice (some ⟨1,0,none⟩) n c],⟨2,[(S,t),(la,t')]⟩=>tpG [] S t la t' n c s
 | [.slice (some ⟨1,0,none⟩) n c],⟨3,[x,(S,t),(la,t')]⟩=>tpG [x] S t la t' n c s
 | _,_=>none
theorem Zs0 {X:List (List Value×TypeId)}(hX1:X.length≤1) {S:List Value}{t:TypeId}{la:List Value}{t':TypeId}{n c:Nat}{s s':List Dec}{v:Value}{h':Hp}{lg:Log}(hg:tpG X S t la t' n c s=some (v,h',s',lg)) (hl:Zu lg) (m:Mp) (B:Nat) (w:World) (E:Emb m B ⟨2+X.length,X++[(S,t),(la,t')]⟩ w) (hv:∀ v∈[sl 1 0 n c],lt (2+X.length) v=true):
  Calls prog 133 (([sl 1 0 n c]:List Value).map (mv m)).toArray w fun e w'=>∃ m',e= .returned (mv m' v)∧Came m B ⟨2+X.length,X++[(S,t),(la,t')]⟩ w v h' m' w':=by
 unfold tpG at hg;cases hg;obtain⟨l1,q⟩:=Zew hl;obtain⟨l2,q⟩:=Zew q;obtain⟨l3,q⟩:=Zew q;obtain⟨l4,q⟩:=Zew q;obtain⟨l5,_⟩:=Zew q;have l1:=Xj l1;have l2:=Xj l2;subst l1 l2;obtain⟨a1,a2,a3,a4,a5,a6,a7⟩:=ZC l3;have hc:c<4611686018427387904:=Zk.1 a4;have eS:S=wU (Zx S 0 n)++S.drop n:=by
  have h1:=a1.cut;rw[a2] at h1;rw[← h1];unfold Zbp;simp
 have r:=Zvm (c:=c) hX1 (la:=la) (Z:=S.drop n) a1.rng (by omega);rw[a2,← eS] at r;have ht:(Hp.tight ⟨2+X.length,X++[(tpS S n,tU),(la,tR)]⟩)=true:=by
  unfold Hp.tight tpS;simp only[List.all_append,List.all_cons,List.all_nil,Bool.and_true,Xh];refine⟨?_,⟨ZbB _ _,?_⟩,ZU (by omega) l4⟩
  ·rw[List.all_eq_true];intro x hx;exact ZU (by omega) (List.all_eq_true.1 l5 x hx)
  ·rw[List.all_eq_true];exact fun v hv=>zv (by omega) (a7 v (List.mem_of_mem_drop hv))
 refine ZM (T:=Zo prog Zg Zn true) func133 Zvl (vals:=[sl 1 0 n c]) (h:=hX X S la) (by rfl) ht (r.mono fun e y he=>⟨he.1,he.2.1,?_⟩) m B w E hv;rw[he.2.2];unfold hX Hp.cut;simp [tpS,tU]
theorem ZzI:Z8 133 gTp:=by
 intro vals h s v h' s' lg hg hl m B w E hv;unfold gTp at hg;split at hg
 ·exact Zs0 (X:=[]) (by simp) hg hl m B w E hv
 ·exact Zs0 (X:=[_]) (by simp) hg hl m B w E hv
 ·cases hg
end Go.Proofs.YtgefjidphfdhdaaGreatDoor.Na
namespace Go.Proofs.YtgefjidphfdhdaaGreatDoor
open Go.KRun
set_option maxRecDepth 100000
def h1R (l:List Value):Hp:=⟨1,[(l,tR)]⟩
end Go.Proofs.YtgefjidphfdhdaaGreatDoor
namespace Go.Proofs.YtgefjidphfdhdaaGreatDoor.Na
open Go.Proofs.Tryz
open Go.IntKind
open Go.KRun Go.Nt
set_option maxRecDepth 100000
def dC (F:Func):Nat→Code
 | 0=>Zq F
 | n+1=>Zz (dC F n)
def dP (F:Func):List Code:=[Z1 (dC F 0),Z1 (dC F 1),Z1 (dC F 2),Z1 (dC F 3),Z1 (dC F 4),Z1 (dC F 5)]
def dL (F:Func):Code:=cIn (cIn (Z1 (dC F 6)))
def dE (F:Func):Code:=dC F 7
theorem Zvn:f80.body=some (zo (dP f80) (.seq (.block 0 (.loop (dL f80))) (dE f80))):=by kernel_rfl
def ZaX:Con:=alt 135 Z4m Zn
theorem ZqA:ConOk ZaX:=ZF func135 rfl Zvh Ze
def ZeY:Hc:=zx 128 Ztx (zx 133 gTp (zx 131 ZfE (zx 134 gRv hcN)))
theorem Zvo:HcOk ZeY:=Zt func128 rfl Zpp (Zt func133 rfl ZzI (Zt func131 rfl Zb9 (Zt func134 rfl ZzA zw)))
theorem Zge:TabOk (Zm prog Zg ZaX ZeY):=Zp ZqA Zvo
def cpD (l:List Value) (o n:Nat):List Value:=List.take (n.min n) (List.drop o l)++List.drop (0+n.min n) (List.replicate n (Value.int .u32 0))
def cpC (l:List Value) (o n:Nat):Bool:= !(zE tR) && !(ro tU) && (o+n.min n).ble l.length && (0+n.min n).ble (List.replicate n (Value.int .u32 0)).length && (List.take (n.min n) (List.drop o l)).all one
def dF (a rest dig p:Value):List Value:=[a,undef,bS [],.nilIface,.nilIface,rest,dig,p]
theorem ZzJ (o n c:Nat) (l:List Value):Zh (evL (Zm prog Zg ZaX ZeY) 100 (dP f80) ([sl 0 o n c]++List.replicate 45 undef,h1R l,[cmp false,cmp false,at_,at_]) ⟨[],[],[]⟩) 8 38 none (dF (sl 0 o n c) (sl 1 0 n n) Zs undef) (hX [] (cpD l o n) l) [(cpC l o n,true),(ZJ 4 n n,true),((n:Int)==0,false),(zG (h1R l) (some ⟨0,o,none⟩) n c,true),(ZN (Zj (h1R l) (some ⟨0,o,none⟩) n),false)]:=by and_intros<;>kernel_rfl
theorem ZzK (p:Option Addr) (n c:Nat) (h:Hp):Zh (evC (Zm prog Zg ZaX ZeY) 100 false (Zq f80) ([.slice p n c]++List.replicate 45 undef,h,[cmp true]) ⟨[],[],[]⟩) 4 42 (some none) [.slice p n c,undef,bS [],Zcv 1] h [(zG h p n c,true),(ZN (Zj h p n),true)]:=by and_intros<;>kernel_rfl
theorem Zmu (p:Option Addr) (n c:Nat) (h:Hp):Zh (evC (Zm prog Zg ZaX ZeY) 100 false (Zq f80) ([.slice p n c]++List.replicate 45 undef,h,[cmp false,cmp true]) ⟨[],[],[]⟩) 4 42 (some none) [.slice p n c,undef,bS [48],.nilIface] h [((n:Int)==0,true),(zG h p n c,true),(ZN (Zj h p n),false)]:=by and_intros<;>kernel_rfl
def pNx (p:Int):Nat→Int
 | 0=>p
 | j+1=>u32.wrap ((pNx p j).tdiv 10)
def dgV (p:Int):Value:=ub (u8.wrap (u32.wrap (48+p.tmod 10)))
def apB (S:List Value) (p:Int):Nat→List Value
 | 0=>S
 | j+1=>apB S p j++[dgV (pNx p j)]
def tpP (S:List Value) (n:Nat):Int:=vN (Zx S 0 n) % 1000000000
def apL (S:List Value) (p:Int) (n j:Nat):Bool×Bool:=(zS tBy (apB S p j,tBy) ([dgV (pNx p j)],tBy) n 0 1,true)
def trS (S:List Value) (n:Nat):Nat:=Zc (Zx (tpS S n) 0 n)
theorem ZzL (n c:Nat) (a w:Value) (S la:List Value) (g:Nat→Value):Zh (evC (Zm prog Zg ZaX ZeY) 100 false (dL f80) (dF a (sl 1 0 n c) Zs w++tl 38 g,hX [] S la,[cmp true,cmp true,cmp false,cmp true,at_,cmp true,at_,cmp true,at_,cmp true,at_,cmp true,at_,cmp true,at_,cmp true,at_,cmp true,at_,cmp false]) ⟨[],[],[]⟩) 8 38 none (dF a (sl 1 0 (trS S n) c) (.slice (some ⟨19,0,none⟩) 9 grown) (uu (pNx (tpP S n) 9))) ⟨20,[(apB [] (tpP S n) 9,tBy),([dgV (pNx (tpP S n) 8)],tBy),([],2*ZT),([dgV (pNx (tpP S n) 7)],tBy),([],2*ZT),([dgV (pNx (tpP S n) 6)],tBy),([],2*ZT),([dgV (pNx (tpP S n) 5)],tBy),([],2*ZT),([dgV (pNx (tpP S n) 4)],tBy),([],2*ZT),([dgV (pNx (tpP S n) 3)],tBy),([],2*ZT),([dgV (pNx (tpP S n) 2)],tBy),([],2*ZT),([dgV (pNx (tpP S n) 1)],tBy),([],2*ZT),([dgV (pNx (tpP S n) 0)],tBy),(tpS S n,tU),(la,tR)]⟩ [(Z0 tU (tpS S n) 0 n c,true),(false,false),apL [] (tpP S n) 8 8,(true,true),apL [] (tpP S n) 7 7,(true,true),apL [] (tpP S n) 6 6,(true,true),apL [] (tpP S n) 5 5,(true,true),apL [] (tpP S n) 4 4,(true,true),apL [] (tpP S n) 3 3,(true,true),apL [] (tpP S n) 2 2,(true,true),apL [] (tpP S n) 1 1,(true,true),(false,false),(true,true),(Nat.beq tU tU,true),(Nat.beq tR tR,true),(Z0 tU S 0 n c,true),(la.all still,true),(([]:List (List Value×TypeId)).all fun x=>x.1.all still,true),(decide ((n:Int)>0),true)]:=by and_intros<;>kernel_rfl
theorem ZzM (n c m:Nat) (a w:Value) (D S la:List Value) (g:Nat→Value):Zh (evC (Zm prog Zg ZaX ZeY) 100 false (dL f80) (dF a (sl 1 0 n c) (.slice (some ⟨2,0,none⟩) m grown) w++tl 38 g,hX [(D,tBy)] S la,[cmp true,cmp true,at_,cmp true,at_,cmp true,at_,cmp true,at_,cmp true,at_,cmp true,at_,cmp true,at_,cmp true,at_,cmp true,at_,cmp false]) ⟨[],[],[]⟩) 8 38 none (dF a (sl 1 0 (trS S n) c) (.slice (some ⟨20,0,none⟩) (m+9) grown) (uu (pNx (tpP S n) 9))) ⟨21,[(apB D (tpP S n) 9,tBy),([dgV (pNx (tpP S n) 8)],tBy),([],2*ZT),([dgV (pNx (tpP S n) 7)],tBy),([],2*ZT),([dgV (pNx (tpP S n) 6)],tBy),([],2*ZT),([dgV (pNx (tpP S n) 5)],tBy),([],2*ZT),([dgV (pNx (tpP S n) 4)],tBy),([],2*ZT),([dgV (pNx (tpP S n) 3)],tBy),([],2*ZT),([dgV (pNx (tpP S n) 2)],tBy),([],2*ZT),([dgV (pNx (tpP S n) 1)],tBy),([],2*ZT),([dgV (pNx (tpP S n) 0)],tBy),([],2*ZT),(tpS S n,tU),(la,tR)]⟩ [(Z0 tU (tpS S n) 0 n c,true),(false,false),apL D (tpP S n) (m+8) 8,(true,true),apL D (tpP S n) (m+7) 7,(true,true),apL D (tpP S n) (m+6) 6,(true,true),apL D (tpP S n) (m+5) 5,(true,true),apL D (tpP S n) (m+4) 4,(true,true),apL D (tpP S n) (m+3) 3,(true,true),apL D (tpP S n) (m+2) 2,(true,true),apL D (tpP S n) (m+1) 1,(true,true),apL D (tpP S n) m 0,(true,true),(Nat.beq tU tU,true),(Nat.beq tR tR,true),(Z0 tU S 0 n c,true),(la.all still,true),(([(D,tBy)]:List (List Value×TypeId)).all fun x=>x.1.all still,true),(decide ((n:Int)>0),true)]:=by and_intros<;>kernel_rfl
theorem ZzN (n c:Nat) (a d w:Value) (h:Hp) (g:Nat→Value):Zh (evC (Zm prog Zg ZaX ZeY) 100 false (dL f80) (dF a (sl 1 0 n c) d w++tl 38 g,h,[cmp false]) ⟨[],[],[]⟩) 8 38 (some (some 0)) (dF a (sl 1 0 n c) d w) h [(decide ((n:Int)>0),false)]:=by and_intros<;>kernel_rfl
theorem ZzO (m:Nat) (a r w:Value) (b:ByteArray) (D:List Value) (Y:List Value×TypeId) (la:List Value) (g:Nat→Value):Zh (evC (Zm prog Zg ZaX ZeY) 100 false (dE f80) (dF a r (.slice (some ⟨2,0,none⟩) m grown) w++tl 38 g,hB2 D Y la,[val (.string b)]) ⟨[],[],[]⟩) 4 42 (some none) [a,undef,bS (trL 48 b.data.toList),.nilIface] (hB2 D.reverse Y la) [(decide ((48:UInt8)=48),true),(Zf5 (D.reverse,tBy) 0 m b,true),(Y.1.all still,true),(Nat.beq tBy tBy,true),(Nat.beq tR tR,true),(Nat.beq m D.length,true),(isB D,true),(Nat.beq grown grown,true),(la.all still,true),(Nat.blt m 4611686018427387904,true)]:=by and_intros<;>kernel_rfl
end Go.Proofs.YtgefjidphfdhdaaGreatDoor.Na
namespace Go.Proofs.YtgefjidphfdhdaaGreatDoor
open Go.KRun Go.Nt
set_option maxRecDepth 100000
theorem Zhg (W:List Int) (k:Nat):Zx (wU W) 0 k=W.take k:=by
 unfold Zx Zbp wU;rw[List.drop_zero,← List.map_take,List.map_map];exact (List.map_congr_left fun x _=>rfl).trans (List.map_id' _)
def asc (x:Int):Int:=48+x
def Zs1 (V:Nat):List Int:=if V=0 then [0] else (db 10 V).reverse
def zD (V:Nat):List UInt8:=(Zs1 V).map fun x=>UInt8.ofNat (asc x).toNat
end Go.Proofs.YtgefjidphfdhdaaGreatDoor
namespace Go.Proofs.YtgefjidphfdhdaaGreatDoor.Na
open Go.IntKind
open Go.KRun Go.Nt
set_option maxRecDepth 100000
theorem Zmv {p:Nat}(hp:p<4294967296):∀ j,pNx (p:Nat) j=((p/10^j:Nat):Int)
 | 0=>by simp [pNx]
 | j+1=>by
  have h1:p/10^j≤p:=Nat.div_le_self _ _;rw[show pNx (p:Nat) (j+1)=u32.wrap ((pNx (p:Nat) j).tdiv 10) from rfl,Zmv hp j,Nat.pow_succ,← Nat.div_div_eq_div_mul];generalize p/10^j=q at*;rw[Int.tdiv_eq_ediv_of_nonneg (by omega)];simp [IntKind.wrap,IntKind.bits,IntKind.signed];omega
theorem Zs2 {p:Nat}:dgV (p:Nat)=ub (asc ((p % 10:Nat):Int)):=by
 have e:((p:Nat):Int).tmod 10=((p % 10:Nat):Int):=by rw[Int.tmod_eq_emod_of_nonneg (by omega)];omega
 unfold dgV asc;rw[e];congr 1;simp [IntKind.wrap,IntKind.bits,IntKind.signed];omega
theorem Zmw {p:Nat}(hp:p<4294967296) (D:List Int):∀ j,apB (wB (D.map asc)) (p:Nat) j=wB ((D++ld j p).map asc)
 | 0=>by simp [apB,ld]
 | j+1=>by
  rw[show apB (wB (D.map asc)) (p:Nat) (j+1)=apB (wB (D.map asc)) (p:Nat) j++[dgV (pNx (p:Nat) j)] from rfl,Zmw hp D j,Zmv hp j,Zs2,Zmt];simp [wB]
theorem ZqB {L:List Int}{x:Int}{k:Nat}(hk:k=L.length) (hb:k<1073741824):zS tBy (wB L,tBy) ([ub x],tBy) k 0 1=true:=by
 subst hk;unfold zS;simp only[Xh,Bool.not_eq_true',Zgd];refine⟨⟨⟨⟨⟨⟨⟨⟨Nat.beq_refl _,Nat.ble_eq_true_of_le (by omega)⟩,by kernel_rfl⟩,by kernel_rfl⟩,by kernel_rfl⟩,by kernel_rfl⟩,by rfl⟩,by rfl⟩,by rfl⟩
theorem Zs3 {p:Nat}(hp:p<4294967296) (D:List Int) {m j:Nat}(hm:m=D.length+j) (hb:m<1073741824):(apL (wB (D.map asc)) (p:Nat) m j).1=(apL (wB (D.map asc)) (p:Nat) m j).2:=by
 unfold apL;simp only;rw[Zmw hp D j,Zmv hp j,Zs2];exact ZqB (by simp [Ziv,hm]) hb
theorem ZeZ (L:List Int):(wB L).all still=true:=by
 unfold wB;rw[List.all_eq_true];intro v hv;obtain⟨x,_,rfl⟩:=List.mem_map.1 hv;rfl
theorem Z4q {k V:Nat}(h:10^(9*k)≤V) {e:Nat}(he:e=262144) (hV:V<2^e):k<9040:=by
 have h1:(2:Nat)^(29*k)≤10^(9*k):=by
  rw[Nat.pow_mul,Nat.pow_mul];exact Nat.pow_le_pow_left (by decide) k
 rcases Nat.lt_or_ge k 9040 with h2 | h2
 ·exact h2
 ·exfalso
  have h3:(2:Nat)^e≤2^(29*k):=Nat.pow_le_pow_right (by omega) (by omega);omega
def dX (k:Nat) (D:List Int):List (List Value×TypeId):=if k=0 then [] else [(wB (D.map asc),tBy)]
def dS (k:Nat) (D:List Int):Value:=if k=0 then Zs else .slice (some ⟨2,0,none⟩) D.length grown
def Z2s (a:Value) (la:List Value) (N V:Nat) (r:Nat) (y:Lf):Prop:=∃ (k:Nat) (D W Z:List Int) (w:Value) (g:Nat→Value),y.1=dF a (sl 1 0 W.length N) (dS k D) w++tl 38 g∧y.2.1=hX (dX k D) (wU (W++Z)) la∧D.length=9*k∧(∀ x∈D,Dg 10 x)∧wds (W++Z)∧Zc W=W.length∧(W++Z).length=N∧vb 10 D+10^(9*k)*vb 4294967296 W=V∧r=vb 4294967296 W∧k≤9040
theorem Ziw {W:List Int}(hw:wds W) (ht:Zc W=W.length):0<vb 4294967296 W↔0<W.length:=by
 have hd:db 4294967296 (vb 4294967296 W)=W:=ZhN (by omega) ⟨fun x hx=>⟨(hw x hx).1,by have:=(hw x hx).2;omega⟩,ht⟩;constructor
 ·intro h;rcases Nat.eq_zero_or_pos W.length with h0 | h0
  ·rw[List.length_eq_zero_iff.1 h0] at h;exact absurd h (by decide)
  ·exact h0
 ·intro h;rcases Nat.eq_zero_or_pos (vb 4294967296 W) with h0 | h0
  ·rw[h0,zj] at hd;rw[← hd] at h;exact absurd h (by decide)
  ·exact h0
theorem Z4r {W:List Int}(h:wds W):∀ x∈W,Dg 4294967296 x:=fun x hx=>⟨(h x hx).1,by have:=(h x hx).2;omega⟩
theorem ZqC {W Z:List Int}(h:wds (W++Z)):tpP (wU (W++Z)) W.length=((vb 4294967296 W % 1000000000:Nat):Int)∧∃ Z',tpS (wU (W++Z)) W.length=wU (db 4294967296 (vb 4294967296 W/1000000000)++Z')∧trS (wU (W++Z)) W.length=(db 4294967296 (vb 4294967296 W/1000000000)).length∧wds (db 4294967296 (vb 4294967296 W/1000000000)++Z')∧(db 4294967296 (vb 4294967296 W/1000000000)++Z').length=(W++Z).length:=by
 have hW:wds W:=fun x hx=>h x (List.mem_append_left _ hx);have hZ:wds Z:=fun x hx=>h x (List.mem_append_right _ hx);have ec:Zx (wU (W++Z)) 0 W.length=W:=by rw[Zhg,List.take_left]
 have ev:=Zjq hW;have e1:vN W/1000000000=((vb 4294967296 W/1000000000:Nat):Int):=by rw[ev];omega
 have lt:vb 4294967296 W<4294967296^W.length:=ZcU (by omega) W (Z4r hW);have hq:vb 4294967296 W/1000000000<4294967296^W.length:=Nat.lt_of_le_of_lt (Nat.div_le_self _ _) lt;have hqi:((vb 4294967296 W/1000000000:Nat):Int)<(4294967296:Int)^W.length:=by
  have h1:=Int.ofNat_lt.2 hq;rw[Int.natCast_pow] at h1;exact h1
 have eS:tpS (wU (W++Z)) W.length=wU (dg W.length ((vb 4294967296 W/1000000000:Nat):Int)++Z):=by
  unfold tpS;rw[ec,e1];have:(wU (W++Z)).drop W.length=wU Z:=by unfold wU;rw[List.map_append,List.drop_left' (by simp)]
  rw[this];unfold wU;rw[List.map_append]
 have hdg:wds (dg W.length ((vb 4294967296 W/1000000000:Nat):Int)):=ZaA _ _;have htk:=Zlp (m:=W.length) (V:=vb 4294967296 W/1000000000) hqi;have eT:trS (wU (W++Z)) W.length=(db 4294967296 (vb 4294967296 W/1000000000)).length:=by
  unfold trS;rw[eS,Zhg,List.take_left' (ZP _ _),← htk,List.length_take,ZP];have:=zm (dg W.length ((vb 4294967296 W/1000000000:Nat):Int));rw[ZP] at this;omega
 have eD:dg W.length ((vb 4294967296 W/1000000000:Nat):Int)=db 4294967296 (vb 4294967296 W/1000000000)++(dg W.length ((vb 4294967296 W/1000000000:Nat):Int)).drop (Zc (dg W.length ((vb 4294967296 W/1000000000:Nat):Int))):=by
  conv=>lhs;rw[← List.take_append_drop (Zc (dg W.length ((vb 4294967296 W/1000000000:Nat):Int))) (dg W.length ((vb 4294967296 W/1000000000:Nat):Int))]
  rw[htk]
 refine⟨?_,(dg W.length ((vb 4294967296 W/1000000000:Nat):Int)).drop (Zc (dg W.length ((vb 4294967296 W/1000000000:Nat):Int)))++Z,?_,eT,?_,?_⟩
 ·unfold tpP;rw[ec,ev];omega
 ·rw[eS,← List.append_assoc,← eD]
 ·rw[← List.append_assoc,← eD];exact zY hdg hZ
 ·rw[← List.append_assoc,← eD];simp [ZP]
end Go.Proofs.YtgefjidphfdhdaaGreatDoor.Na
namespace Go.Rn
def upR (m:Int) (neg odd:Bool) (c:Int):Bool:=
 if c=0 then false else if m=2 then false else if m=3 then !neg else if m=4 then neg else if m=1 then decide (2≤c) else decide (2<c) || (decide (c=2) && odd)
def Za7 (r P:Nat):Int:=if r=0 then 0 else if 2*r<P then 1 else if 2*r=P then 2 else 3
def odd (q:Nat):Bool:=decide (q % 2=1)
def rq (m:Int) (neg:Bool) (T k:Nat):Nat:=T/2^k+(if upR m neg (odd (T/2^k)) (Za7 (T % 2^k) (2^k))=true then 1 else 0)
def toQ (m:Int) (neg:Bool) (T:Nat) (E e:Int):Nat:=if e≤E then T*2^(E-e).toNat else rq m neg T (e-E).toNat
def toL (T:Nat) (E e:Int):Bool:=if e≤E then false else decide (T % 2^(e-E).toNat≠0)
def lgN (T:Nat) (E:Int):Int:=E+(bitLen T:Nat)-1
def ZbY (T:Nat) (E:Int):Int:=if lgN T E-52≤ -1074 then -1074 else lgN T E-52
def p0 (m:Int) (neg:Bool) (T:Nat) (E:Int):Int:=(ZbY T E+1074)*4503599627370496+(toQ m neg T E (ZbY T E):Nat)
def Zs4 (m:Int) (neg:Bool) (T:Nat) (E:Int):Bool:=if lgN T E= -1023 then decide (toQ m neg T E (-1075)<9007199254740992) else decide (lgN T E< -1022)
def bey (m:Int) (neg:Bool):Int:=if upR m neg true 3=true then 9218868437227405312 else 9218868437227405311
def rnP (m:Int) (neg:Bool) (T:Nat) (E:Int):Int:=if T=0 then 0 else if 9218868437227405312≤p0 m neg T E then bey m neg else p0 m neg T E
def rnF (m:Int) (neg:Bool) (T:Nat) (E:Int):Int:=if T=0 then 0 else if 9218868437227405312≤p0 m neg T E then 20 else if toL T E (ZbY T E)=true then (if Zs4 m neg T E=true then 24 else 16) else 0
def swM (m:Int):Int:=if m=3 then 4 else if m=4 then 3 else m
theorem Zmx (m:Int) (neg o:Bool) (c:Int):upR (swM m) (!neg) o c=upR m neg o c:=by
 unfold upR swM;by_cases h3:m=3
 ·subst h3;simp
 ·by_cases h4:m=4
  ·subst h4;simp
  ·simp [h3,h4]
theorem Zmy (m:Int) (neg:Bool) (T:Nat) (E e:Int):toQ (swM m) (!neg) T E e=toQ m neg T E e:=by
 unfold toQ rq;simp only[Zmx]
theorem Zvp (m:Int) (neg:Bool) (T:Nat) (E:Int):rnP (swM m) (!neg) T E=rnP m neg T E:=by
 unfold rnP p0 bey;simp only[Zmx,Zmy]
theorem Zvq (m:Int) (neg:Bool) (T:Nat) (E:Int):rnF (swM m) (!neg) T E=rnF m neg T E:=by
 unfold rnF p0 Zs4;simp only[Zmy]
theorem ZaF {T:Nat}(h:T≠0):1≤bitLen T:=by unfold bitLen;rw[if_neg h];omega
theorem Zdh {T k:Nat}(h0:2^k≤T) (h1:T<2^(k+1)):bitLen T=k+1:=by
 have hp:0<2^k:=Nat.pow_pos (by omega);obtain⟨a1,a2⟩:=bitLen_spec T;have a2:=a2 (by omega);have a3:=ZaF (show T≠0 by omega);rcases Nat.lt_or_ge (bitLen T) (k+1) with h | h
 ·have:=Nat.pow_le_pow_right (show 0<2 by omega) (show bitLen T≤k by omega);omega
 ·rcases Nat.lt_or_ge (k+1) (bitLen T) with h' | h'
  ·have:=Nat.pow_le_pow_right (show 0<2 by omega) (show k+1≤bitLen T-1 by omega);omega
  ·omega
theorem len_le {T k:Nat}(h:T<2^k):bitLen T≤k:=by
 by_cases h0:T=0
 ·subst h0;simp [bitLen]
 ·have a2:=(bitLen_spec T).2 h0;rcases Nat.lt_or_ge k (bitLen T) with h' | h'
  ·have:=Nat.pow_le_pow_right (show 0<2 by omega) (show k≤bitLen T-1 by omega);omega
  ·exact h'
theorem Zgf {T k:Nat}(h:2^k≤T):k+1≤bitLen T:=by
 have a1:=(bitLen_spec T).1;rcases Nat.lt_or_ge (bitLen T) (k+1) with h' | h'
 ·have:=Nat.pow_le_pow_right (show 0<2 by omega) (show bitLen T≤k by omega);omega
 ·exact h'
theorem Zvr {T:Nat}(h:T≠0) (j:Nat):bitLen (T*2^j)=bitLen T+j:=by
 have hp:0<2^j:=Nat.pow_pos (by omega);obtain⟨a1,a2⟩:=bitLen_spec T;have a2:=a2 h;have a3:=ZaF h;have e:bitLen T+j=(bitLen T-1+j)+1:=by omega
 rw[e];apply Zdh
 ·rw[Nat.pow_add];exact Nat.mul_le_mul_right _ a2
 ·rw[show bitLen T-1+j+1=bitLen T+j by omega,Nat.pow_add];exact Nat.mul_lt_mul_of_pos_right a1 hp
theorem ZqD {T U:Nat}(h:T≤U):bitLen T≤bitLen U:=len_le (Nat.lt_of_le_of_lt h (bitLen_spec U).1)
theorem ZqE (m:Int) (neg o:Bool):upR m neg o 0=false:=by simp [upR]
theorem Zj6 (P:Nat):Za7 0 P=0:=by simp [Za7]
theorem ZqF (r P:Nat):0≤Za7 r P∧Za7 r P≤3:=by unfold Za7;split<;>(try split)<;>(try split)<;>omega
theorem Zj7 {r s P:Nat}(h:r≤s):Za7 r P≤Za7 s P:=by
 unfold Za7;by_cases h0:r=0
 ·rw[if_pos h0];split<;>(try split)<;>(try split)<;>omega
 ·rw[if_neg h0,if_neg (show ¬ s=0 by omega)];split<;>(try split)<;>(try split)<;>(try split)<;>omega
theorem Zhh (r P j:Nat):Za7 (r*2^j) (P*2^j)=Za7 r P:=by
 have hp:0<2^j:=Nat.pow_pos (by omega);unfold Za7;have e0:(r*2^j=0)↔r=0:=by rw[Nat.mul_eq_zero];omega
 have e1:(2*(r*2^j)<P*2^j)↔2*r<P:=by rw[← Nat.mul_assoc];exact Nat.mul_lt_mul_right hp
 have e2:(2*(r*2^j)=P*2^j)↔2*r=P:=by rw[← Nat.mul_assoc];exact Nat.mul_left_inj (by omega)
 simp only[e0,e1,e2]
theorem ZqG {m:Int}{neg o:Bool}{c d:Int}(h0:0≤c) (h:c≤d) (hu:upR m neg o c=true):upR m neg o d=true:=by
 unfold upR at*;by_cases hc:c=0
 ·rw[if_pos hc] at hu;cases hu
 ·rw[if_neg hc] at hu;rw[if_neg (show ¬ d=0 by omega)];by_cases h2:m=2
  ·rw[if_pos h2] at hu;cases hu
  ·rw[if_neg h2] at hu ⊢;by_cases h3:m=3
   ·rw[if_pos h3] at hu ⊢;exact hu
   ·rw[if_neg h3] at hu ⊢;by_cases h4:m=4
    ·rw[if_pos h4] at hu ⊢;exact hu
    ·rw[if_neg h4] at hu ⊢;by_cases h1:m=1
     ·rw[if_pos h1] at hu ⊢;simp only[Xi] at*;omega
     ·rw[if_neg h1] at hu ⊢;simp only[Bool.or_eq_true,Xh,Xi] at*;rcases hu with hu | ⟨hu,ho⟩
      ·left;omega
      ·by_cases hd:d=2
       ·right;exact⟨hd,ho⟩
       ·left;omega
theorem ZqH (m:Int) (neg:Bool) (T k:Nat):T/2^k≤rq m neg T k∧rq m neg T k≤T/2^k+1:=by unfold rq;split<;>omega
theorem ZqI {m:Int}{neg:Bool}{T k:Nat}(h:T % 2^k=0):rq m neg T k=T/2^k:=by
 unfold rq;rw[h,Zj6,ZqE];simp
theorem ZqJ (m:Int) (neg:Bool) (T k j:Nat):rq m neg (T*2^j) (k+j)=rq m neg T k:=by
 have hp:0<2^j:=Nat.pow_pos (by omega);unfold rq;rw[Nat.pow_add,Nat.mul_div_mul_right _ _ hp,Nat.mul_mod_mul_right,Zhh]
theorem Zvs {m:Int}{neg:Bool}{T U:Nat}(k:Nat) (h:T≤U):rq m neg T k≤rq m neg U k:=by
 have hp:0<2^k:=Nat.pow_pos (by omega);have hd:T/2^k≤U/2^k:=Nat.div_le_div_right h;have b1:=ZqH m neg T k;have b2:=ZqH m neg U k;by_cases he:T/2^k=U/2^k
 ·have m1:=Nat.div_add_mod T (2^k);have m2:=Nat.div_add_mod U (2^k);have hr:T % 2^k≤U % 2^k:=by rw[he] at m1;omega
  unfold rq;rw[he];by_cases hu:upR m neg (odd (U/2^k)) (Za7 (T % 2^k) (2^k))=true
  ·rw[if_pos hu,if_pos (ZqG (ZqF _ _).1 (Zj7 hr) hu)];omega
  ·rw[if_neg hu];split<;>omega
 ·omega
theorem Zgg (m:Int) (neg:Bool) (T j:Nat) (E e:Int):toQ m neg (T*2^j) (E-j) e=toQ m neg T E e:=by
 unfold toQ;by_cases h1:e≤E
 ·rw[if_pos h1];by_cases h2:e≤E-j
  ·rw[if_pos h2,Nat.mul_assoc,← Nat.pow_add];congr 2;omega
  ·rw[if_neg h2];have ej:j=(E-e).toNat+(e-(E-j)).toNat:=by omega
   have e1:T*2^j=T*2^(E-e).toNat*2^(e-(E-j)).toNat:=by rw[Nat.mul_assoc,← Nat.pow_add,← ej]
   have hp:0<2^(e-(E-j)).toNat:=Nat.pow_pos (by omega);rw[e1,ZqI (Nat.mul_mod_left _ _),Nat.mul_div_cancel _ hp]
 ·rw[if_neg h1,if_neg (by omega),show (e-(E-j)).toNat=(e-E).toNat+j by omega,ZqJ]
theorem Zmz (T j:Nat) (E e:Int):toL (T*2^j) (E-j) e=toL T E e:=by
 have hp:0<2^j:=Nat.pow_pos (by omega);unfold toL;by_cases h1:e≤E
 ·rw[if_pos h1];by_cases h2:e≤E-j
  ·rw[if_pos h2]
  ·rw[if_neg h2];have ej:j=(E-e).toNat+(e-(E-j)).toNat:=by omega
   have e1:T*2^j=T*2^(E-e).toNat*2^(e-(E-j)).toNat:=by rw[Nat.mul_assoc,← Nat.pow_add,← ej]
   rw[e1,Nat.mul_mod_left];simp
 ·rw[if_neg h1,if_neg (by omega),show (e-(E-j)).toNat=(e-E).toNat+j by omega,Nat.pow_add,Nat.mul_mod_mul_right];congr 1;rw[ne_eq,ne_eq,Nat.mul_eq_zero];simp only[eq_iff_iff];omega
theorem Zgh {T:Nat}(h:T≠0) (j:Nat) (E:Int):lgN (T*2^j) (E-j)=lgN T E:=by
 unfold lgN;rw[Zvr h];omega
theorem Zey {T:Nat}(h:T≠0) (j:Nat) (E:Int):ZbY (T*2^j) (E-j)=ZbY T E:=by unfold ZbY;rw[Zgh h]
theorem Zix {T:Nat}(h:T≠0) (m:Int) (neg:Bool) (j:Nat) (E:Int):p0 m neg (T*2^j) (E-j)=p0 m neg T E:=by unfold p0;rw[Zey h,Zgg]
theorem Zj8 {T:Nat}(h:T≠0) (m:Int) (neg:Bool) (j:Nat) (E:Int):Zs4 m neg (T*2^j) (E-j)=Zs4 m neg T E:=by unfold Zs4;rw[Zgh h,Zgg]
theorem Ziy {T:Nat}(j:Nat):(T*2^j=0)=(T=0):=by
 have hp:0<2^j:=Nat.pow_pos (by omega);rw[Nat.mul_eq_zero];simp only[eq_iff_iff];omega
theorem Zcq (m:Int) (neg:Bool) (T j:Nat) (E:Int):rnP m neg (T*2^j) (E-j)=rnP m neg T E:=by
 unfold rnP;simp only[Ziy];by_cases h:T=0
 ·rw[if_pos h,if_pos h]
 ·rw[if_neg h,if_neg h,Zix h]
theorem Zgi (m:Int) (neg:Bool) (T j:Nat) (E:Int):rnF m neg (T*2^j) (E-j)=rnF m neg T E:=by
 unfold rnF;simp only[Ziy];by_cases h:T=0
 ·rw[if_pos h,if_pos h]
 ·rw[if_neg h,if_neg h,Zix h,Zj8 h,Zey h,Zmz]
end Go.Rn
namespace Go.Rn
open Go.Pt
theorem ZzP {m:Int}{neg:Bool}{T:Nat}{E e:Int}{n:Nat}(h:(bitLen T:Int)+(E-e)≤n):toQ m neg T E e≤2^n:=by
 have a1:=(bitLen_spec T).1;unfold toQ;by_cases he:e≤E
 ·rw[if_pos he];have hp:0<2^(E-e).toNat:=Nat.pow_pos (by omega);have:=Nat.mul_le_mul_right (2^(E-e).toNat) (Nat.le_of_lt a1);rw[← Nat.pow_add] at this;have h2:=Nat.pow_le_pow_right (show 0<2 by omega) (show bitLen T+(E-e).toNat≤n by omega);omega
 ·rw[if_neg he];have b:=(ZqH m neg T (e-E).toNat).2;have h2:=Nat.pow_le_pow_right (show 0<2 by omega) (show bitLen T≤n+(e-E).toNat by omega);have h3:T/2^(e-E).toNat<2^n:=by
   apply Nat.div_lt_of_lt_mul;rw[Nat.pow_add,Nat.mul_comm] at h2;omega
  omega
theorem ZzQ {m:Int}{neg:Bool}{T:Nat}{E e:Int}{n:Nat}(hT:T≠0) (h:(n:Int)+1≤(bitLen T:Int)+(E-e)):2^n≤toQ m neg T E e:=by
 have a2:=(bitLen_spec T).2 hT;have a3:=ZaF hT;unfold toQ;by_cases he:e≤E
 ·rw[if_pos he];have:=Nat.mul_le_mul_right (2^(E-e).toNat) a2;rw[← Nat.pow_add] at this;have h2:=Nat.pow_le_pow_right (show 0<2 by omega) (show n≤bitLen T-1+(E-e).toNat by omega);omega
 ·rw[if_neg he];have b:=(ZqH m neg T (e-E).toNat).1;have hp:0<2^(e-E).toNat:=Nat.pow_pos (by omega);have h2:=Nat.pow_le_pow_right (show 0<2 by omega) (show n+(e-E).toNat≤bitLen T-1 by omega);have h3:2^n≤T/2^(e-E).toNat:=by
   rw[Nat.le_div_iff_mul_le hp,← Nat.pow_add];omega
  omega
theorem ZzR (m:Int) (neg:Bool) (T:Nat) (E:Int):toQ m neg T E (ZbY T E)≤9007199254740992:=by
 refine ZzP (n:=53) ?_;unfold ZbY lgN;split<;>omega
theorem ZzS {m:Int}{neg:Bool}{T:Nat}{E:Int}(hT:T≠0) (h: -1074≤lgN T E-52):4503599627370496≤toQ m neg T E (ZbY T E):=by
 refine ZzQ (n:=52) hT ?_;unfold ZbY lgN at*;split<;>omega
theorem ZqK {m:Int}{neg:Bool}{T U:Nat}{E:Int}(e:Int) (h:T≤U):toQ m neg T E e≤toQ m neg U E e:=by
 unfold toQ;split
 ·exact Nat.mul_le_mul_right _ h
 ·exact Zvs _ h
theorem ZqL {T U:Nat}(E:Int) (h:T≤U):lgN T E≤lgN U E:=by
 have:=ZqD h;unfold lgN;omega
theorem Zvt {m:Int}{neg:Bool}{T U:Nat}{E:Int}(hT:T≠0) (h:T≤U):p0 m neg T E≤p0 m neg U E:=by
 have hl:=ZqL E h;unfold p0;by_cases he:ZbY T E=ZbY U E
 ·rw[he];have:=ZqK (m:=m) (neg:=neg) (E:=E) (ZbY U E) h;omega
 ·have h1:=ZzR m neg T E;have h3: -1074≤lgN U E-52∧ZbY T E+1≤ZbY U E:=by
   unfold ZbY at he ⊢;split at he<;>split at he<;>(try split)<;>(try split)<;>omega
  have h2:=ZzS (m:=m) (neg:=neg) (T:=U) (E:=E) (by omega) h3.1;omega
theorem Zvu (T:Nat) (E:Int): -1074≤ZbY T E:=by unfold ZbY;split<;>omega
theorem Zm0 (m:Int) (neg:Bool) (T:Nat) (E:Int):0≤p0 m neg T E:=by
 have:=Zvu T E;unfold p0;omega
theorem Zs5 (m:Int) (neg:Bool):bey m neg=9218868437227405312∨bey m neg=9218868437227405311:=by unfold bey;split<;>simp
theorem ZzT (m:Int) (neg:Bool) (T:Nat) (E:Int):0≤rnP m neg T E∧rnP m neg T E≤9218868437227405312:=by
 have h:=Zm0 m neg T E;have hb:=Zs5 m neg;unfold rnP;split
 ·omega
 ·split<;>omega
theorem Zan {m:Int}{neg:Bool}{T U:Nat}{E:Int}(h:T≤U):rnP m neg T E≤rnP m neg U E:=by
 have hU:=ZzT m neg U E;by_cases hT:T=0
 ·unfold rnP at*;rw[if_pos hT];exact hU.1
 ·have hp:=Zvt (m:=m) (neg:=neg) (E:=E) hT h;have hb:=Zs5 m neg;unfold rnP;rw[if_neg hT,if_neg (show ¬ U=0 by omega)];split<;>split<;>omega
end Go.Rn
namespace Go.Rn
open Go.Nt
theorem Zm1 (V:Nat):bl V=bitLen V:=by
 by_cases h:V=0
 ·subst h;rw[Zc5];rfl
 ·have h1:=(bitLen_spec V).1;have h2:=(bitLen_spec V).2 h;have h3:=ZaF h;obtain⟨k,hk⟩:∃ k,bitLen V=k+1:=⟨bitLen V-1,by omega⟩;rw[hk] at h1 h2 ⊢;exact Zle h2 h1
end Go.Rn
namespace Go.Wd
structure W4 where
 a:Int
 b:Int
 c:Int
 d:Int
end Go.Wd
namespace Go.Wd
open Go.IntKind
theorem Zgj {n:Int}(h0: -9223372036854775808≤n) (h1:n≤9223372036854775807):i64.wrap n=n:=by
 simp [IntKind.wrap,IntKind.bits,IntKind.signed];omega
structure Parts (n q r:Int):Prop where
 q1:1≤q
 r1:1<r
 qr:q*r=18446744073709551616
 eq:q=2^(n % 64).toNat
 er:r=2^(64-n % 64).toNat
structure Cut (a q r hi lo:Int):Prop where
 sum:a=r*hi+lo
 lo0:0≤lo
 lo1:lo<r
 hi0:0≤hi
 hi1:hi<q
structure Cut' (a q r hi lo:Int):Prop where
 sum:a=q*hi+lo
 lo0:0≤lo
 lo1:lo<q
 hi0:0≤hi
 hi1:hi<r
end Go.Wd
namespace Go.Wd
open Go.Rn
theorem cast_pow (k:Nat):((2:Int)^k)=((2^k:Nat):Int):=by simp
end Go.Wd
namespace Go.Rn
open Go.Nt Go.Wd
def stk (A d:Nat):Nat:=2*(A/2^d)+(if A % 2^d=0 then 0 else 1)
theorem Zvv (A d:Nat):(if A % 2^d=0 then 0 else 1)≤1:=by split<;>omega
theorem Zm2 (A d j:Nat):stk A d/2^(j+1)=A/2^(d+j):=by
 have e:stk A d/2=A/2^d:=by unfold stk;split<;>omega
 rw[Nat.pow_succ,Nat.mul_comm,← Nat.div_div_eq_div_mul,e,Nat.div_div_eq_div_mul,Nat.pow_add]
theorem Zm3 (A d j:Nat):stk A d % 2^(j+1)=2*(A/2^d % 2^j)+(if A % 2^d=0 then 0 else 1):=by
 rw[Nat.pow_succ,Nat.mul_comm,Nat.mod_mul];have e:stk A d/2=A/2^d:=by unfold stk;split<;>omega
 rw[e];unfold stk;split<;>omega
theorem Zm4 (A d j:Nat):A % 2^(d+j)=A % 2^d+2^d*(A/2^d % 2^j):=by rw[Nat.pow_add,Nat.mod_mul]
theorem ZqM (A d j:Nat):stk A d % 2^(j+1)=0↔A % 2^(d+j)=0:=by
 have hD:0<2^d:=Nat.pow_pos (by omega);rw[Zm3,Zm4];generalize A/2^d % 2^j=r;constructor
 ·intro h;have h1:A % 2^d=0:=by
   by_cases h0:A % 2^d=0
   ·exact h0
   ·rw[if_neg h0] at h;omega
  rw[if_pos h1] at h;have:r=0:=by omega
  rw[h1,this];simp
 ·intro h;have h1:A % 2^d=0:=by omega
  rw[if_pos h1];have h2:2^d*r=0:=by omega
  rcases Nat.mul_eq_zero.1 h2 with h3 | h3
  ·omega
  ·rw[h3]
theorem Zm5 {r r' D Q s:Nat}(hD:r'<D) (hQ:0<Q) (hb:s≤1) (hs:s=0↔r'=0):Za7 (2*r+s) (4*Q)=Za7 (r'+D*r) (2*(D*Q)):=by
 have hDr:r≤D*r:=Nat.le_mul_of_pos_left r (by omega);unfold Za7;by_cases h0:r'+D*r=0
 ·have:r'=0:=by omega
  have:=hs.2 this;rw[if_pos h0,if_pos (by omega)]
 ·have hz:¬ 2*r+s=0:=by
   intro h;apply h0;have h1:r=0:=by omega
   have h2:=hs.1 (by omega);rw[h1,h2];rfl
  rw[if_neg h0,if_neg hz];rcases Nat.lt_trichotomy r Q with h | h | h
  ·have h1:D*r+D≤D*Q:=by rw[← Nat.mul_succ];exact Nat.mul_le_mul_left D h
   rw[if_pos (by omega),if_pos (by omega)]
  ·subst h;by_cases hs0:s=0
   ·have:=hs.1 hs0;rw[if_neg (by omega),if_pos (by omega),if_neg (by omega),if_pos (by omega)]
   ·have:r'≠0:=fun h=>hs0 (hs.2 h);rw[if_neg (by omega),if_neg (by omega),if_neg (by omega),if_neg (by omega)]
  ·have h1:D*Q+D≤D*r:=by rw[← Nat.mul_succ];exact Nat.mul_le_mul_left D h
   rw[if_neg (by omega),if_neg (by omega),if_neg (by omega),if_neg (by omega)]
theorem ZqN (A d j:Nat):Za7 (stk A d % 2^(j+2)) (2^(j+2))=Za7 (A % 2^(d+(j+1))) (2^(d+(j+1))):=by
 have hD:0<2^d:=Nat.pow_pos (by omega);have hQ:0<2^j:=Nat.pow_pos (by omega);have eP:2^(j+1+1)=4*2^j:=by rw[Nat.pow_succ,Nat.pow_succ];omega
 have eP2:2^(d+(j+1))=2*(2^d*2^j):=by rw[Nat.pow_add,Nat.pow_succ,← Nat.mul_assoc];omega
 have e1:=Zm3 A d (j+1);have e2:=Zm4 A d (j+1);rw[show j+2=(j+1)+1 by omega,e1,e2,eP,eP2];exact Zm5 (Nat.mod_lt A hD) hQ (Zvv A d) (by split<;>omega)
theorem ZzU (m:Int) (neg:Bool) (A d j:Nat):rq m neg (stk A d) (j+2)=rq m neg A (d+(j+1)):=by
 unfold rq;rw[ZqN,show j+2=(j+1)+1 by omega,Zm2]
theorem Zm6 (m:Int) (neg:Bool) (A d:Nat) {F e:Int}(h:F+d+1≤e):toQ m neg (stk A d) (F+d-1) e=toQ m neg A F e:=by
 obtain⟨j,hj⟩:∃ j:Nat,e=F+d+1+j:=⟨(e-(F+d+1)).toNat,by omega⟩;unfold toQ;rw[if_neg (by omega),if_neg (by omega),show (e-(F+d-1)).toNat=j+2 by omega,show (e-F).toNat=d+(j+1) by omega,ZzU]
theorem Zvw (A d:Nat) {F e:Int}(h:F+d+1≤e):toL (stk A d) (F+d-1) e=toL A F e:=by
 obtain⟨j,hj⟩:∃ j:Nat,e=F+d+1+j:=⟨(e-(F+d+1)).toNat,by omega⟩;unfold toL;rw[if_neg (by omega),if_neg (by omega),show (e-(F+d-1)).toNat=j+1+1 by omega,show (e-F).toNat=d+(j+1) by omega];congr 1;simp only[ne_eq,eq_iff_iff];exact not_congr (ZqM A d (j+1))
theorem Zm7 {A d:Nat}(h:A/2^d≠0):bitLen (stk A d)=bitLen (A/2^d)+1:=by
 have e:stk A d/2^1=A/2^d:=by
  have:=Zm2 A d 0;simpa using this
 rw[bitLen_shift (stk A d) 1 (by rw[e];exact h),e];omega
theorem Zvx {A d:Nat}{F:Int}(h:A/2^d≠0):lgN (stk A d) (F+d-1)=lgN A F:=by
 have e:=bitLen_shift A d h;unfold lgN;rw[Zm7 h];omega
theorem Zm8 {m:Int}{neg:Bool}{A d:Nat}{F:Int}(h:A % 2^d=0∨54≤bitLen (A/2^d)):rnP m neg (stk A d) (F+d-1)=rnP m neg A F∧rnF m neg (stk A d) (F+d-1)=rnF m neg A F:=by
 by_cases h0:A % 2^d=0
 ·have e1:stk A d=A/2^d*2^1:=by unfold stk;rw[if_pos h0];omega
  have e2:A=A/2^d*2^d:=by
   have:=Nat.div_add_mod A (2^d);rw[h0,Nat.mul_comm] at this;omega
  have p1:=Zcq m neg (A/2^d) 1 (F+d);have p2:=Zcq m neg (A/2^d) d (F+d);have f1:=Zgi m neg (A/2^d) 1 (F+d);have f2:=Zgi m neg (A/2^d) d (F+d);rw[show F+(d:Int)-((1:Nat):Int)=F+d-1 by omega,← e1] at p1 f1;rw[show F+(d:Int)-(d:Int)=F by omega,← e2] at p2 f2;exact⟨by rw[p1,p2],by rw[f1,f2]⟩
 ·have hb:54≤bitLen (A/2^d):=by exact h.resolve_left h0
  have hq:A/2^d≠0:=fun h=>by rw[h] at hb;simp [bitLen] at hb
  have hA:A≠0:=fun h=>h0 (by rw[h];simp);have hs:stk A d≠0:=by unfold stk;omega
  have hl:=Zvx (F:=F) hq;have hlw:ZbY (stk A d) (F+d-1)=ZbY A F:=by unfold ZbY;rw[hl]
  have hlg:lgN A F=F+d+bitLen (A/2^d)-1:=by rw[← hl];unfold lgN;rw[Zm7 hq];omega
  have hge:F+d+1≤ZbY A F:=by unfold ZbY;split<;>omega
  have hp:p0 m neg (stk A d) (F+d-1)=p0 m neg A F:=by unfold p0;rw[hlw,Zm6 m neg A d hge]
  have ht:Zs4 m neg (stk A d) (F+d-1)=Zs4 m neg A F:=by
   unfold Zs4;rw[hl];by_cases hn:lgN A F= -1023
   ·rw[if_pos hn,if_pos hn,Zm6 m neg A d (by omega)]
   ·rw[if_neg hn,if_neg hn]
  unfold rnP rnF;rw[if_neg hs,if_neg hA,if_neg hs,if_neg hA,hp,hlw,Zvw A d hge,ht];exact⟨rfl,rfl⟩
end Go.Rn
namespace Go.Rn
open Go.Nt Go.Wd Go.Pt
theorem xp_bd (p:Int): -1074≤xp p∧xp p≤972:=by
 have:=Zhc p;unfold xp;split
 ·omega
 ·split<;>omega
theorem sg_lt (p:Int):0≤sg p∧sg p<9007199254740992:=by
 have:=ZdY p;unfold sg;split
 ·omega
 ·split<;>omega
def dvK (A B k:Nat):Nat:=2*(A*2^k/B)+(if A*2^k % B=0 then 0 else 1)
theorem Zm9 {A B:Nat}(k:Nat):A*2^k % (B*2^k)=A % B*2^k:=Nat.mul_mod_mul_right (2^k) A B
theorem ZmA (A B k j:Nat):dvK A B (k+j)/2^(j+1)=A*2^k/B:=by
 have hp:0<2^j:=Nat.pow_pos (by omega);have e1:A*2^(k+j)/B/2^j=A*2^k/B:=by
  rw[Nat.div_div_eq_div_mul,Nat.pow_add,← Nat.mul_assoc,Nat.mul_div_mul_right _ _ hp]
 have:dvK A B (k+j)/2=A*2^(k+j)/B:=by unfold dvK;split<;>omega
 rw[Nat.pow_succ,Nat.mul_comm (2^j) 2,← Nat.div_div_eq_div_mul,this,e1]
theorem Zvy (A B k j:Nat):stk (dvK A B (k+j)) (j+1)=dvK A B k:=by
 have hp:0<2^j:=Nat.pow_pos (by omega);have e1:A*2^(k+j)/B/2^j=A*2^k/B:=by
  rw[Nat.div_div_eq_div_mul,Nat.pow_add,← Nat.mul_assoc,Nat.mul_div_mul_right _ _ hp]
 have e2:=ZmA A B k j;have e3:dvK A B (k+j) % 2^(j+1)=0↔A*2^k % B=0:=by
  have d2:dvK A B (k+j)/2=A*2^(k+j)/B:=by unfold dvK;split<;>omega
  have m2:dvK A B (k+j) % 2=if A*2^(k+j) % B=0 then 0 else 1:=by unfold dvK;split<;>omega
  rw[Nat.pow_succ,Nat.mul_comm (2^j) 2,Nat.mod_mul,d2,m2];have e:A*2^(k+j) % B+B*(A*2^(k+j)/B % 2^j)=A*2^k % B*2^j:=by
   rw[← Nat.mod_mul,← Zm9,Nat.mul_assoc,← Nat.pow_add]
  constructor
  ·intro h;have h1:A*2^(k+j) % B=0:=by
    by_cases h0:A*2^(k+j) % B=0
    ·exact h0
    ·rw[if_neg h0] at h;omega
   have h2:A*2^(k+j)/B % 2^j=0:=by omega
   rw[h1,h2,Nat.mul_zero] at e;rcases Nat.mul_eq_zero.1 e.symm with h3 | h3
   ·exact h3
   ·omega
  ·intro h;rw[h,Nat.zero_mul] at e;have h1:A*2^(k+j) % B=0:=by omega
   rw[if_pos h1];rcases Nat.mul_eq_zero.1 (show B*(A*2^(k+j)/B % 2^j)=0 by omega) with h2 | h2
   ·rw[h2,Nat.div_zero,Nat.zero_mod]
   ·rw[h2]
 unfold stk;rw[e2];by_cases h:A*2^k % B=0
 ·rw[if_pos (e3.2 h)];unfold dvK;rw[if_pos h]
 ·rw[if_neg (fun h'=>h (e3.1 h'))];unfold dvK;rw[if_neg h]
end Go.Rn
namespace Go.Rd
def Ziz (c b:Int):Int:=if 48≤c∧c≤57 then c-48 else if b=16∧97≤c∧c≤102 then c-87 else -1
def lq8 (c:UInt8):Int:=((c.toNat:Nat):Int)
def ZcX (b:Int) (l:List UInt8):Bool:=l.all fun c=>decide (0≤Ziz (lq8 c) b)
def nmB (b:Int) (l:List UInt8):Nat:=l.foldl (fun a c=>a*b.toNat+(Ziz (lq8 c) b).toNat) 0
def sc1 (b:Int):Bool→List UInt8→List UInt8×Nat×List UInt8
 | _,[]=>([],0,[])
 | p,c::l=>
  if lq8 c=46∧p=false then sc1 b true l
  else if 0≤Ziz (lq8 c) b then (c::(sc1 b p l).1,(if p=true then 1 else 0)+(sc1 b p l).2.1,(sc1 b p l).2.2)
  else ([],0,c::l)
theorem Zi0 (b:Int) (l:List UInt8) (c:UInt8):nmB b (l++[c])=nmB b l*b.toNat+(Ziz (lq8 c) b).toNat:=by
 unfold nmB;rw[List.foldl_append];rfl
open Go.Rn
def upN (A B:Nat):Nat:=((bitLen B:Int)-(bitLen A:Int)+80).toNat
theorem ZmB {A B:Nat}(hA:A≠0):2^79*B≤A*2^upN A B:=by
 have h1:=(bitLen_spec A).2 hA;have h2:=(bitLen_spec B).1;have h3:=ZaF hA;have h4:bitLen B+80≤upN A B+bitLen A:=by unfold upN;omega
 refine Nat.le_trans (Nat.mul_le_mul_left _ (Nat.le_of_lt h2)) ?_;rw[← Nat.pow_add];refine Nat.le_trans (Nat.pow_le_pow_right (by omega) (show 79+bitLen B≤(bitLen A-1)+upN A B by omega)) ?_;rw[Nat.pow_add];exact Nat.mul_le_mul_right _ h1
end Go.Rd
namespace Go.Rd
open Go.Rn
theorem Zi1 {m E:Int}{n:Bool}{A B k:Nat}(j:Nat) (h:54≤bitLen (A*2^k/B)):rnP m n (dvK A B k) (E+j)=rnP m n (dvK A B (k+j)) E∧rnF m n (dvK A B k) (E+j)=rnF m n (dvK A B (k+j)) E:=by
 have r:=Zm8 (m:=m) (neg:=n) (A:=dvK A B (k+j)) (d:=j+1) (F:=E) (.inr (by rw[ZmA];exact h));rw[Zvy,show E+((j+1:Nat):Int)-1=E+(j:Int) by omega] at r;exact r
theorem Zvz {m:Int}{n:Bool}{A B k j:Nat}(h:54≤bitLen (A*2^k/B)) (h':54≤bitLen (A*2^j/B)):rnP m n (dvK A B k) (-(k:Int)-1)=rnP m n (dvK A B j) (-(j:Int)-1)∧rnF m n (dvK A B k) (-(k:Int)-1)=rnF m n (dvK A B j) (-(j:Int)-1):=by
 rcases Nat.le_total k j with hk | hk
 ·have r:=Zi1 (m:=m) (n:=n) (E:= -(j:Int)-1) (j-k) h;rw[show k+(j-k)=j by omega,show -(j:Int)-1+((j-k:Nat):Int)= -(k:Int)-1 by omega] at r;exact r
 ·have r:=Zi1 (m:=m) (n:=n) (E:= -(k:Int)-1) (k-j) h';rw[show j+(k-j)=k by omega,show -(k:Int)-1+((k-j:Nat):Int)= -(j:Int)-1 by omega] at r;exact⟨r.1.symm,r.2.symm⟩
theorem Zdi {A B:Nat}(hA:A≠0) (hB:B≠0):80≤bitLen (A*2^upN A B/B):=by
 refine Zgf (k:=79) ?_;rw[Nat.le_div_iff_mul_le (by omega)];exact ZmB hA
def rqP (m:Int) (n:Bool) (A B:Nat):Int:=rnP m n (dvK A B (upN A B)) (-((upN A B:Nat):Int)-1)
def rqF (m:Int) (n:Bool) (A B:Nat):Int:=rnF m n (dvK A B (upN A B)) (-((upN A B:Nat):Int)-1)
theorem ZmC {m:Int}{n:Bool}{A B k:Nat}(hA:A≠0) (hB:B≠0) (h:54≤bitLen (A*2^k/B)):rnP m n (dvK A B k) (-(k:Int)-1)=rqP m n A B∧rnF m n (dvK A B k) (-(k:Int)-1)=rqF m n A B:=
 Zvz h (Nat.le_trans (by omega) (Zdi hA hB))
theorem ZmD {A B c:Nat}(hc:0<c) (k:Nat):dvK (A*c) (B*c) k=dvK A B k:=by
 unfold dvK;have e:A*c*2^k=A*2^k*c:=by rw[Nat.mul_assoc,Nat.mul_comm c,← Nat.mul_assoc]
 rw[e,Nat.mul_div_mul_right _ _ hc,Nat.mul_mod_mul_right];by_cases h:A*2^k % B=0
 ·rw[if_pos h,if_pos (by rw[h,Nat.zero_mul])]
 ·rw[if_neg h,if_neg (fun h'=>h ((Nat.mul_eq_zero.1 h').resolve_right (by omega)))]
theorem ZmE {m:Int}{n:Bool}{A B c:Nat}(hA:A≠0) (hB:B≠0) (hc:0<c):rqP m n (A*c) (B*c)=rqP m n A B∧rqF m n (A*c) (B*c)=rqF m n A B:=by
 have hA':A*c≠0:=fun h=>(Nat.mul_eq_zero.1 h).elim hA (by omega);have hB':B*c≠0:=fun h=>(Nat.mul_eq_zero.1 h).elim hB (by omega);have h:=Zdi hA hB;have e:A*c*2^upN A B/(B*c)=A*2^upN A B/B:=by rw[Nat.mul_assoc,Nat.mul_comm c,← Nat.mul_assoc,Nat.mul_div_mul_right _ _ hc]
 obtain⟨r1,r2⟩:=ZmC (m:=m) (n:=n) (k:=upN A B) hA' hB' (by rw[e];omega);rw[ZmD hc] at r1 r2;exact⟨r1.symm,r2.symm⟩
theorem Zv0 {e J i:Nat}(h1:28*i≤e) (h2:J≤93*i):2^J≤10^e:=by
 have h:(2:Nat)^93≤10^28:=by decide
 have h3:((2:Nat)^93)^i≤(10^28)^i:=Nat.pow_le_pow_left h i;rw[← Nat.pow_mul,← Nat.pow_mul] at h3;exact Nat.le_trans (Nat.pow_le_pow_right (by omega) h2) (Nat.le_trans h3 (Nat.pow_le_pow_right (by omega) h1))
def deP (m:Int) (n:Bool) (A:Nat) (j:Int):Int:=rqP m n (A*10^j.toNat) (10^(-j).toNat)
def deF (m:Int) (n:Bool) (A:Nat) (j:Int):Int:=rqF m n (A*10^j.toNat) (10^(-j).toNat)
theorem ZbK (j:Nat):10^j≠0:=fun h=>by have:=Nat.pow_pos (n:=j) (show 0<10 by omega);omega
theorem Zbe {A B:Nat}(hA:A≠0) (hB:B≠0):A*B≠0:=fun h=>(Nat.mul_eq_zero.1 h).elim hA hB
theorem Zdj (m:Int) (n:Bool) {A:Nat}(hA:A≠0) (c:Nat) (j:Int):deP m n (A*10^c) (j-c)=deP m n A j∧deF m n (A*10^c) (j-c)=deF m n A j:=by
 obtain⟨d,hd⟩:∃ d:Nat,(-(j-c)).toNat=(-j).toNat+d∧c+(j-c).toNat=j.toNat+d:=⟨(-(j-c)).toNat-(-j).toNat,by omega,by omega⟩;have e1:A*10^c*10^(j-c).toNat=A*10^j.toNat*10^d:=by rw[Nat.mul_assoc,← Nat.pow_add,hd.2,Nat.pow_add,Nat.mul_assoc]
 unfold deP deF;rw[e1,hd.1,Nat.pow_add];exact ZmE (Zbe hA (ZbK _)) (ZbK _) (Nat.pow_pos (by omega))
theorem ZzV (m:Int) (n:Bool) (A:Nat) (j:Int):deP (swM m) (!n) A j=deP m n A j∧deF (swM m) (!n) A j=deF m n A j:=by
 unfold deP deF rqP rqF;rw[Zvp,Zvq];exact⟨rfl,rfl⟩
end Go.Rd
