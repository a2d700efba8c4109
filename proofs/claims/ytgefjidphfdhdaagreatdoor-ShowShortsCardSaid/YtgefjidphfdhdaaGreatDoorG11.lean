/-
  R16, PwC, PwF, ConNK, PwB, PwG, TxU, RunI, TxT, UuY, UuZ, TxV, NumZ, NumY, NumT, Num, Num2, NumX4, NumR4, NumR5, NumF, NumH, NumQu
-/
import Derived.Test.YtgefjidphfdhdaaGreatDoorG10
import Derived.SizedLaws
import Derived.Laws.RangeString
namespace Go.Proofs.YtgefjidphfdhdaaGreatDoor
open Go.KRun Go.Nt
set_option maxRecDepth 100000
theorem Zco {A k:Nat}(h:A<2^(16*k)):(d16 A).length≤k:=Zbt (by omega) k A (by rw[Zfz];exact h)
theorem Zan {h:Hp}{b A:Nat}{ty:TypeId}(hb:h.blk? b=some (wU (d16 A),ty)):Zm h (some ⟨b,0,none⟩) (d16 A).length=d16 A:=by
 simp only[Zm,hb];exact ZaV _
theorem zE {h:Hp}{b A:Nat}{ty:TypeId}(hb:h.blk? b=some (wU (d16 A),ty)):vO h (some ⟨b,0,none⟩) (d16 A).length=A:=by
 unfold vO;rw[Zan hb];exact Zc1 (by omega) A
theorem ZgE (h:Hp):vO h none 0=0:=rfl
theorem ZJ {h:Hp}{b A:Nat}(hb:h.blk? b=some (wU (d16 A),tU)) (hl:(d16 A).length<1073741824):zx h (some ⟨b,0,none⟩) (d16 A).length (d16 A).length=true:=by
 simp only[zx,hb,Xh];refine⟨Zal (fun x hx=>⟨(Zbg A x hx).1,by have:=(Zbg A x hx).2;omega⟩) (by omega) ?_,List.all_eq_true.2 (ZE _)⟩;unfold ZcY;simp only[Bool.or_eq_true,Xh];exact .inl ⟨Zl.2 (by unfold zo;omega),Nat.ble_eq_true_of_le (Nat.le_refl _)⟩
theorem Zaa {h:Hp}{b A:Nat}{ty:TypeId}(hb:h.blk? b=some (wU (d16 A),ty)):dgB (Zm h (some ⟨b,0,none⟩) (d16 A).length)=true:=by
 rw[Zan hb];exact Zbv (Zbg A)
theorem ZfA {h:Hp}{b b' A A':Nat}(hb:h.blk? b=some (wU (d16 A),tU)) (hb':h.blk? b'=some (wU (d16 A'),tU)) (hl:(d16 A).length<1073741800) (hl':(d16 A').length<1073741800):ZL h (some ⟨b,0,none⟩) (some ⟨b',0,none⟩) (d16 A).length (d16 A).length (d16 A').length (d16 A').length=true:=by
 unfold ZL;rw[ZJ hb (by omega),ZJ hb' (by omega),Zaa hb,Zaa hb'];simp only[Bool.true_and];exact Zl.2 (by omega)
theorem ZvH {h:Hp}{b A:Nat}(hb:h.blk? b=some (wU (d16 A),tU)) (hl:(d16 A).length<1073741800):ZL h none (some ⟨b,0,none⟩) 0 0 (d16 A).length (d16 A).length=true:=by
 unfold ZL;rw[ZJ hb (by omega),Zaa hb];simp only[Bool.and_true];exact Bool.and_eq_true_iff.2 ⟨rfl,Zl.2 (by omega)⟩
theorem ZmS {A:Nat}(h:0<(d16 A).length):A≠0:=by
 rintro rfl;unfold d16 at h;rw[zc] at h;simp at h
end Go.Proofs.YtgefjidphfdhdaaGreatDoor
namespace Go.Proofs.YtgefjidphfdhdaaGreatDoor
open Go.Proofs.Tryz
open Go.IntKind
open Go.KRun Go.Nt
set_option maxRecDepth 100000
set_option linter.unusedVariables false
def pwP (F:Func):List Code:=[Z2 (Zs F),Z2 (Z0 (Zs F))]
def pwI (F:Func):Code:=Z2 (Z2 (Z0 (Z0 (Zs F))))
def pwL (F:Func):Code:=cIn (cIn (Z0 (Z2 (Z0 (Z0 (Zs F))))))
def pwE (F:Func):Code:=Z0 (Z0 (Z0 (Zs F)))
theorem ZmT:f67.body=some (ZW (pwP f67) (.seq (.seq (pwI f67) (.block 0 (.loop (pwL f67)))) (pwE f67))):=by kernel_rfl
def wq (V:Nat):List Value×TypeId:=(wU (d16 V),tU)
def sq0 (V:Nat):Value:=sl 0 0 (d16 V).length (d16 V).length
def pwF (b n:Int) (out:Value) (i:Int):List Value:=[.int .u32 b,.int .i64 n,.tuple #[],.tuple #[],Zn,out,.int .i64 i]
theorem Z0C (b n:Int):Zg (evL (Zk prog Zf Zo Zd3) 100 (pwP f67) ([.int .u32 b,.int .i64 n]++List.replicate 15 undef,⟨0,[]⟩,[]) ⟨[],[],[]⟩) 6 11 none [.int .u32 b,.int .i64 n,.tuple #[],.tuple #[],Zn,sq0 1] ⟨1,[wq 1]⟩ []:=by and_intros<;>kernel_rfl
theorem Z8V (v0 v1 v2 v3 v4 v5:Value) (g:Nat→Value) (h:Hp):Zg (evC (Zk prog Zf Zo Zd3) 100 false (pwI f67) ([v0,v1,v2,v3,v4,v5]++tl 11 g,h,[]) ⟨[],[],[]⟩) 7 10 none [v0,v1,v2,v3,v4,v5,.int .i64 0] h []:=by and_intros<;>kernel_rfl
def pA (V:Nat):Hp:=⟨1,[wq V]⟩
theorem Z5X (b n i:Int) (V W:Nat) (g:Nat→Value):Zg (evC (Zk prog Zf Zo Zd3) 100 false (pwL f67) (pwF b n (sq0 V) i++tl 10 g,pA V,[cmp true,cmp true,num W]) ⟨[],[],[]⟩) 7 10 none (pwF b n (sl 1 0 (d16 W).length (d16 W).length) (i64.wrap (i+1))) ⟨2,[wq W,wq V]⟩ [(decide (vO (pA V) (some ⟨0,0,none⟩) (d16 V).length*b.toNat+(0:Int).toNat=W),true),(ZaZ (pA V) (some ⟨0,0,none⟩) (d16 V).length (d16 V).length b 0,true),(decide (0<(d16 V).length∨0<(0:Int)),true),(decide (i<n),true)]:=by and_intros<;>kernel_rfl
theorem Z5Y (b n i:Int) (V:Nat) (g:Nat→Value):Zg (evC (Zk prog Zf Zo Zd3) 100 false (pwL f67) (pwF b n (sq0 V) i++tl 10 g,pA V,[cmp true,cmp false]) ⟨[],[],[]⟩) 7 10 none (pwF b n Zn (i64.wrap (i+1))) (pA V) [(ZaZ (pA V) (some ⟨0,0,none⟩) (d16 V).length (d16 V).length b 0,true),(decide (0<(d16 V).length∨0<(0:Int)),false),(decide (i<n),true)]:=by and_intros<;>kernel_rfl
theorem Z5Z (b n i:Int) (V:Nat) (g:Nat→Value):Zg (evC (Zk prog Zf Zo Zd3) 100 false (pwL f67) (pwF b n Zn i++tl 10 g,pA V,[cmp true,cmp false]) ⟨[],[],[]⟩) 7 10 none (pwF b n Zn (i64.wrap (i+1))) (pA V) [(ZaZ (pA V) none 0 0 b 0,true),(decide (0<0∨0<(0:Int)),false),(decide (i<n),true)]:=by and_intros<;>kernel_rfl
theorem Z8w (b n i:Int) (v:Value) (h:Hp) (g:Nat→Value):Zg (evC (Zk prog Zf Zo Zd3) 100 false (pwL f67) (pwF b n v i++tl 10 g,h,[cmp false]) ⟨[],[],[]⟩) 7 10 (some (some 0)) (pwF b n v i) h [(decide (i<n),false)]:=by and_intros<;>kernel_rfl
theorem Z8x (b n i:Int) (v:Value) (h:Hp) (g:Nat→Value):Zg (evC (Zk prog Zf Zo Zd3) 100 false (pwE f67) (pwF b n v i++tl 10 g,h,[]) ⟨[],[],[]⟩) 5 12 (some none) [.int .u32 b,.int .i64 n,.tuple #[],.tuple #[],v] h []:=by and_intros<;>kernel_rfl
def pwS (b n i:Nat) (y:Lf):Prop:=(¬ (b=0∧2≤i)∧∃ g,y.1=pwF b n (sq0 (b^i)) i++tl 10 g∧y.2.1=pA (b^i))∨((b=0∧2≤i)∧∃ g V,y.1=pwF b n Zn i++tl 10 g∧y.2.1=pA V)
theorem ZfB:TabOk (Zk prog Zf Zo Zd3):=Zh Zd ZmR
theorem Z0D {b i k:Nat}(hb:b<4294967296) (hi:2*i<k):b^i<2^(16*k):=by
 have h1:b^i≤(2^32)^i:=Nat.pow_le_pow_left (by have:(2:Nat)^32=4294967296:=rfl;omega) i;rw[← Nat.pow_mul] at h1;exact Nat.lt_of_le_of_lt h1 (Nat.pow_lt_pow_right (by omega) (by omega))
theorem Z0E (b n:Int) {s:Value}(i:Int) (hs:lt 1 s=true):∀ v∈pwF b n s i,lt 1 v=true:=by
 intro v hv;unfold pwF at hv;simp only[List.mem_cons,List.not_mem_nil,or_false] at hv;rcases hv with rfl | rfl | rfl | rfl | rfl | rfl | rfl<;>first | rfl | exact hs
theorem ZqX {b n i:Nat}(hb:b<4294967296) (hn:n≤20000) (hi:i<n) {y:Lf}(h:pwS b n i y):RunsW (Zk prog Zf Zo Zd3) (pwL f67) y fun e z=>e=none∧pwS b n (i+1) z:=by
 obtain⟨t,h',s⟩:=y;have ei:i64.wrap ((i:Int)+1)=((i+1:Nat):Int):=by rw[Zw (by omega) (by omega)];omega
 have hlt:decide ((i:Int)<(n:Int))=true:=Xa (by omega);rcases h with ⟨hA,g,ht,hh⟩ | ⟨hB,g,V,ht,hh⟩
 ·simp only at ht hh;subst ht hh;have lV:=Zco (Z0D (b:=b) (i:=i) (k:=2*i+1) hb (by omega));have hk:ZaZ (pA (b^i)) (some ⟨0,0,none⟩) (d16 (b^i)).length (d16 (b^i)).length (b:Int) 0=true:=by
   unfold ZaZ;rw[ZJ (h:=pA (b^i)) (b:=0) (A:=b^i) rfl (by omega),Zaa (h:=pA (b^i)) (b:=0) (A:=b^i) (ty:=tU) rfl,Zl.2 (by omega),Xa ⟨⟨by omega,by omega⟩,by omega,by omega⟩];rfl
  by_cases hz:b^i=0
  ·have h1:¬ 0<(d16 (b^i)).length:=by rw[hz,show d16 0=[] from zc 65536];decide
   have hg:=Z5Y b n i (b^i) g;rw[ei] at hg;refine (Zb (s0:=s) ZfB hg (Za hk (Za (Xb (by omega)) (Z5 hlt)))).mono fun e z hz'=> ?_;obtain⟨rfl,⟨g',e1⟩,e2⟩:=hz';have b0:b=0:=by
    rcases Nat.eq_zero_or_pos b with h0 | h0
    ·exact h0
    ·have:=Nat.pow_pos (n:=i) h0;omega
   have i1:1≤i:=by
    rcases Nat.eq_zero_or_pos i with h0 | h0
    ·subst h0;rw[Nat.pow_zero] at hz;omega
    ·exact h0
   exact⟨rfl,.inr ⟨⟨b0,by omega⟩,g',_,e1,e2⟩⟩
  ·have h1:0<(d16 (b^i)).length:=by
    unfold d16;rw[List.length_pos_iff,ne_eq,Zcc (by omega)];exact hz
   have hg:=Z5X b n i (b^i) (b^(i+1)) g;rw[ei] at hg;have:=(Zb (s0:=s) ZfB hg (Za (Xa (by rw[zE (h:=pA (b^i)) (b:=0) (A:=b^i) (ty:=tU) rfl,Nat.pow_succ];rfl)) (Za hk (Za (Xa (.inl h1)) (Z5 hlt))))).kept (k:=0) (b:=1) (base:=[]) (y:=wq (b^(i+1))) (front':=pwF b n (sq0 (b^(i+1))) ((i+1:Nat):Int)) rfl (by kernel_rfl) (fun j x hx=>by have:j<0:=Hp.blk_lt hx;omega) rfl (by omega) (ZE _) (Z0E _ _ _ rfl);refine this.mono fun e z hz'=> ?_;obtain⟨rfl,⟨g',e1⟩,e2⟩:=hz';refine⟨rfl,.inl ⟨fun hc=> ?_,g',e1,e2⟩⟩;obtain⟨b0,i2⟩:=hc;apply hz;rw[b0,Nat.zero_pow (by omega)]
 ·simp only at ht hh;subst ht hh;have hk:ZaZ (pA V) none 0 0 (b:Int) 0=true:=by
   unfold ZaZ;rw[show zx (pA V) none 0 0=true from rfl,show dgB (Zm (pA V) none 0)=true from rfl,Zl.2 (by omega),Xa ⟨⟨by omega,by omega⟩,by omega,by omega⟩];rfl
  have hg:=Z5Z b n i V g;rw[ei] at hg;refine (Zb (s0:=s) ZfB hg (Za hk (Za (by decide) (Z5 hlt)))).mono fun e z hz'=> ?_;obtain⟨rfl,⟨g',e1⟩,e2⟩:=hz';exact⟨rfl,.inr ⟨⟨hB.1,by omega⟩,g',V,e1,e2⟩⟩
theorem ZmU {b n:Nat}(hb:b<4294967296) (hn:n≤20000):RunsW (Zk prog Zf Zo Zd3) (ZW (pwP f67) (.seq (.seq (pwI f67) (.block 0 (.loop (pwL f67)))) (pwE f67))) ([.int .u32 (b:Int),.int .i64 (n:Int)]++List.replicate 15 undef,⟨0,[]⟩,[]) fun e z=>(e=none∨e=some none)∧((¬ (b=0∧2≤n)∧ZV prog f67 z.1 z.2.1=some (sq0 (b^n))∧∃ r,z.2.1.blk? 0=some (wU (d16 (b^n))++r,tU))∨((b=0∧2≤n)∧ZV prog f67 z.1 z.2.1=some Zn)):=by
 refine Zv ZfB (Z0C b n) (fun x hx=>by cases hx) fun g=> ?_;refine RunsW.seq (P1:=fun e y=>e=none∧pwS b n n y) ?_ ?_ (fun e y hy=>by cases hy.1)
 ·refine RunsW.seq (Zb ZfB (Z8V _ _ _ _ _ _ g _) (fun x hx=>by cases hx)) ?_ (fun e y hy=>by cases hy.1);rintro⟨t,h',s⟩ ⟨_,⟨g',ht⟩,hh⟩;simp only at ht hh;subst ht hh;have lp:=RunsW.forLoop (T:=Zk prog Zf Zo Zd3) (c:=pwL f67) (id:=0) (P:=pwS b n n) (R:=fun _=>False) (fun k y=>∃ i,k=n-i∧i≤n∧pwS b n i y) (x:=(pwF b n (sq0 1) 0++tl 10 g',pA 1,s)) ?_ (n:=n) ⟨0,by omega,by omega,.inl ⟨by omega,g',by rw[Nat.pow_zero];rfl,by rw[Nat.pow_zero]⟩⟩
  ·refine lp.mono fun e z hz=> ?_
   match e,hz with
   | none,hz=>exact⟨rfl,hz⟩
   | some none,hz=>exact hz.elim
   | some (some _),hz=>exact hz.elim
  ·rintro k y ⟨i,hk,hi,hy⟩;by_cases hlt:i<n
   ·refine (ZqX hb hn hlt hy).mono fun e z hz=> ?_;obtain⟨rfl,hz⟩:=hz;exact⟨n-(i+1),by omega,i+1,rfl,by omega,hz⟩
   ·have e:i=n:=by omega
    subst e;obtain⟨t,h',s⟩:=y;rcases hy with ⟨hA,g,ht,hh⟩ | ⟨hB,g,V,ht,hh⟩
    ·simp only at ht hh;subst ht hh;refine (Zb ZfB (Z8w b i i _ _ g) (Z5 (Xb (by omega)))).mono fun e z hz=> ?_;obtain⟨rfl,⟨g',e1⟩,e2⟩:=hz;exact⟨rfl,.inl ⟨hA,g',e1,e2⟩⟩
    ·simp only at ht hh;subst ht hh;refine (Zb ZfB (Z8w b i i _ _ g) (Z5 (Xb (by omega)))).mono fun e z hz=> ?_;obtain⟨rfl,⟨g',e1⟩,e2⟩:=hz;exact⟨rfl,.inr ⟨hB,g',V,e1,e2⟩⟩
 ·rintro⟨t,h',s⟩ ⟨_,hy⟩;rcases hy with ⟨hA,g,ht,hh⟩ | ⟨hB,g,V,ht,hh⟩
  ·simp only at ht hh;subst ht hh;refine (Zb ZfB (Z8x b n n _ _ g) (fun x hx=>by cases hx)).mono fun e z hz=> ?_;obtain⟨rfl,⟨g',e1⟩,e2⟩:=hz;exact⟨.inr rfl,.inl ⟨hA,by rw[e1,e2];rfl,[],by rw[e2,List.append_nil];rfl⟩⟩
  ·simp only at ht hh;subst ht hh;refine (Zb ZfB (Z8x b n n _ _ g) (fun x hx=>by cases hx)).mono fun e z hz=> ?_;obtain⟨rfl,⟨g',e1⟩,e2⟩:=hz;exact⟨.inr rfl,.inr ⟨hB,by rw[e1,e2];rfl⟩⟩
def ZiQ (b n:Int):Bool:=decide (0≤b∧b<4294967296∧0≤n∧n≤20000)
def ZqY:Zae:=fun vals h s=>
 match vals,s with
 | [.int .u32 b,.int .i64 n],.inr (.inr (.inr (.inl d)))::s'=>
  match d,s' with
  | true,.inr (.inl V)::s2=>Zda V.toNat h s2 [(decide (b.toNat^n.toNat=V.toNat),true),(ZiQ b n,true),(decide (b=0∧2≤n),false)]
  | false,_=>some (Zn,h,s',[(ZiQ b n,true),(decide (b=0∧2≤n),true)])
  | _,_=>none
 | _,_=>none
theorem ZiR:Z6 67 ZqY:=by
 intro vals h s v h' s' lg hg hl m B w E hv;have hr0:(⟨0,[]⟩:Hp).rows:=⟨rfl,fun b x hx=>by have:b<0:=Hp.blk_lt hx;omega⟩;unfold ZqY at hg;split at hg
 ·rename_i b n d s2;split at hg
  ·rename_i V s3;unfold Zda at hg;cases hg;have l1:=Xc (hl _ Xe);have l2:=Xc (hl _ (Xd _ Xe));have l3:=hl _ (Xd _ (Xd _ Xf));have l3:=of_decide_eq_false l3;obtain⟨b',rfl⟩:=Int.eq_ofNat_of_zero_le l2.1;obtain⟨n',rfl⟩:=Int.eq_ofNat_of_zero_le l2.2.2.1;rw[Xg,Xg] at l1;rw[← l1];have r:=(ZmU (b:=b') (n:=n') (by omega) (by omega)).mono (P':=fun e z=>(e=none∨e=some none)∧ZV prog f67 z.1 z.2.1=some (sq0 (b'^n'))∧∃ r,z.2.1.blk? 0=some (wU (d16 (b'^n'))++r,tU)) fun e z hz=>⟨hz.1,by
    rcases hz.2 with ⟨_,q⟩ | ⟨q,_⟩
    ·exact q
    ·exact absurd q (by omega)⟩
   have:=ZI (T:=Zk prog Zf Zo Zd3) func67 ZmT hr0 (vals:=[.int .u32 (b':Int),.int .i64 (n':Int)]) (fun v hv=>by
    simp only[List.mem_cons,List.not_mem_nil,or_false] at hv;rcases hv with rfl | rfl<;>rfl) (k:=0) (cs:=wU (d16 (b'^n'))) (ty:=tU) (ZaX _) (by kernel_rfl) r (by simp [oc,oc2,oc1,sq0,sl]) E (s:=fun i=>i) (fun i x hx _=>by have:i<0:=Hp.blk_lt hx;omega)
   exact this
  ·cases hg;have l2:=Xc (hl _ Xe);have l3:=Xc (hl _ (Xd _ Xf));obtain⟨b',rfl⟩:=Int.eq_ofNat_of_zero_le l2.1;obtain⟨n',rfl⟩:=Int.eq_ofNat_of_zero_le l2.2.2.1;have r:=(ZmU (b:=b') (n:=n') (by omega) (by omega)).mono (P':=fun e z=>(e=none∨e=some none)∧ZV prog f67 z.1 z.2.1=some Zn) fun e z hz=>⟨hz.1,by
    rcases hz.2 with ⟨q,_⟩ | ⟨_,q⟩
    ·exact absurd (show b'=0∧2≤n' by omega) q
    ·exact q⟩
   have:=ZB (T:=Zk prog Zf Zo Zd3) func67 ZmT hr0 (vals:=[.int .u32 (b':Int),.int .i64 (n':Int)]) (fun v hv=>by
    simp only[List.mem_cons,List.not_mem_nil,or_false] at hv;rcases hv with rfl | rfl<;>rfl) (v:=Zn) (by rfl) r E (s:=fun i=>i) (fun i x hx _=>by have:i<0:=Hp.blk_lt hx;omega)
   exact this
  ·cases hg
 ·cases hg
end Go.Proofs.YtgefjidphfdhdaaGreatDoor
namespace Go.Proofs.YtgefjidphfdhdaaGreatDoor.Na
open Go.Proofs.Tryz
open Go.IntKind
open Go.KRun Go.Nt
set_option maxRecDepth 100000
set_option linter.unusedVariables false
def qsn (k:Nat) (F:Func):Code:=match k with | 0=>Zs F | k+1=>Z0 (qsn k F)
def qP (F:Func):List Code:=[Z2 (qsn 0 F),Z2 (qsn 1 F),Z2 (qsn 2 F),Z2 (qsn 3 F)]
def qI (F:Func):Code:=Z2 (Z2 (qsn 4 F))
def qL (F:Func):Code:=cIn (cIn (Z0 (Z2 (qsn 4 F))))
def qE (F:Func):Code:=qsn 5 F
theorem ZmV:f76.body=some (ZW (qP f76) (.seq (.seq (qI f76) (.block 0 (.loop (qL f76)))) (qE f76))):=by kernel_rfl
theorem ZqZ:f76.body=some (Zs f76):=by kernel_rfl
def w32 (m:Nat) (V:Nat):List Value×TypeId:=(wU (dg m (V:Int)),tU)
def s32 (k m V:Nat):Value:=sl k 0 (Zi (dg m (V:Int))) m
def qF (b n:Int) (P O:Value) (i:Int):List Value:=[.int .u32 b,.int .i64 n,.tuple #[],.tuple #[],Zn,.nilIface,P,O,.nilIface,.int .i64 i]
def Q2 (b:Nat):Hp:=⟨2,[w32 2 b,w32 2 1]⟩
def Q3 (b m V:Nat):Hp:=⟨3,[w32 m V,w32 2 b,w32 2 1]⟩
def Q4 (b m V M S:Nat):Hp:=⟨4,[w32 M S,w32 m V,w32 2 b,w32 2 1]⟩
def ZiS (n i:Int):Int:=i64.wrap ((BitVec.ofInt 64 (n.fdiv (2^min i.toNat 64)) &&& BitVec.ofInt 64 1).toNat:Nat)
def q0F (b n:Int) (O:Value):List Value:=[.int .u32 b,.int .i64 n,.tuple #[],.tuple #[],Zn,.nilIface,s32 0 2 1,O,.nilIface]
theorem Z0F (b:Nat) (n:Int):Zg (evL (Zk prog Zf ZaR hcQ) 100 (qP f76) ([.int .u32 (b:Int),.int .i64 n]++List.replicate 54 undef,⟨0,[]⟩,[cmp false,cmp false]) ⟨[],[],[]⟩) 9 47 none (q0F b n (sl 1 0 (Zi (dg 2 (u64.wrap (b:Int)))) 2)) ⟨2,[(wU (dg 2 (u64.wrap (b:Int))),tU),w32 2 1]⟩ [(decide (0≤u64.wrap (b:Int)∧u64.wrap (b:Int)<18446744073709551616),true),(decide (0≤(1:Int)∧(1:Int)<18446744073709551616),true),(decide (n>1000000),false),(decide (n<0),false)]:=by and_intros<;>kernel_rfl
theorem Z8W (b:Nat) (n:Int) (O:Value) (g:Nat→Value) (h:Hp):Zg (evC (Zk prog Zf ZaR hcQ) 100 false (qI f76) (q0F b n O++tl 47 g,h,[]) ⟨[],[],[]⟩) 10 46 none (qF b n (s32 0 2 1) O (i64.wrap (((bitLen (u64.wrap n).toNat:Nat):Int)-1))) h [(decide (0≤u64.wrap n∧u64.wrap n<65536),true)]:=by and_intros<;>kernel_rfl
theorem ZvI (b n:Int):Zg (evC (Zk prog Zf ZaR hcQ) 100 false (Zs f76) ([.int .u32 b,.int .i64 n]++List.replicate 54 undef,⟨0,[]⟩,[cmp true]) ⟨[],[],[]⟩) 6 50 (some none) [.int .u32 b,.int .i64 n,.tuple #[],undef,Zn,Zd0 1] ⟨0,[]⟩ [(decide (n<0),true)]:=by and_intros<;>kernel_rfl
theorem ZvJ (b n:Int):Zg (evC (Zk prog Zf ZaR hcQ) 100 false (Zs f76) ([.int .u32 b,.int .i64 n]++List.replicate 54 undef,⟨0,[]⟩,[cmp false,cmp true]) ⟨[],[],[]⟩) 6 50 (some none) [.int .u32 b,.int .i64 n,.tuple #[],undef,Zn,Zd0 1] ⟨0,[]⟩ [(decide (n>1000000),true),(decide (n<0),false)]:=by and_intros<;>kernel_rfl
theorem Z6a (n i:Int) (b m V S:Nat) (g:Nat→Value):Zg (evC (Zk prog Zf ZaR hcQ) 100 false (qL f76) (qF b n (s32 2 m V) (s32 1 2 b) i++tl 46 g,Q3 b m V,[cmp true,cmp false,num S,cmp false]) ⟨[],[],[]⟩) 10 46 none (qF b n (s32 3 (Zi (dg m (V:Int))+Zi (dg m (V:Int))) S) (s32 1 2 b) (i64.wrap (i-1))) (Q4 b m V (Zi (dg m (V:Int))+Zi (dg m (V:Int))) S) [(ZiS n i==1,false),(decide (i<0),false),(decide (Zh8 (Zm (Q3 b m V) (some ⟨2,0,none⟩) (Zi (dg m (V:Int)))) (Zm (Q3 b m V) (some ⟨2,0,none⟩) (Zi (dg m (V:Int))))=dg (Zi (dg m (V:Int))+Zi (dg m (V:Int))) (S:Int)),true),(Zaf (Q3 b m V) (some ⟨2,0,none⟩) (Zi (dg m (V:Int))) (m),true),(Zaf (Q3 b m V) (some ⟨2,0,none⟩) (Zi (dg m (V:Int))) (m),true),(!decide (Zi (dg m (V:Int))=0∨Zi (dg m (V:Int))=0) && Nat.ble (Zi (dg m (V:Int))+Zi (dg m (V:Int))) 8192,true),(decide (i≥0),true)]:=by and_intros<;>kernel_rfl
theorem Z6b (n i:Int) (b m V S W:Nat) (g:Nat→Value):Zg (evC (Zk prog Zf ZaR hcQ) 100 false (qL f76) (qF b n (s32 2 m V) (s32 1 2 b) i++tl 46 g,Q3 b m V,[cmp true,cmp false,num S,cmp true,cmp false,num W]) ⟨[],[],[]⟩) 10 46 none (qF b n (s32 4 (Zi (dg (Zi (dg m (V:Int))+Zi (dg m (V:Int))) (S:Int))+Zi (dg 2 (b:Int))) W) (s32 1 2 b) (i64.wrap (i-1))) ⟨5,[w32 (Zi (dg (Zi (dg m (V:Int))+Zi (dg m (V:Int))) (S:Int))+Zi (dg 2 (b:Int))) W,w32 (Zi (dg m (V:Int))+Zi (dg m (V:Int))) S,w32 m V,w32 2 b,w32 2 1]⟩ [(decide (Zh8 (Zm (Q4 b m V (Zi (dg m (V:Int))+Zi (dg m (V:Int))) S) (some ⟨3,0,none⟩) (Zi (dg (Zi (dg m (V:Int))+Zi (dg m (V:Int))) (S:Int)))) (Zm (Q4 b m V (Zi (dg m (V:Int))+Zi (dg m (V:Int))) S) (some ⟨1,0,none⟩) (Zi (dg 2 (b:Int))))=dg (Zi (dg (Zi (dg m (V:Int))+Zi (dg m (V:Int))) (S:Int))+Zi (dg 2 (b:Int))) (W:Int)),true),(Zaf (Q4 b m V (Zi (dg m (V:Int))+Zi (dg m (V:Int))) S) (some ⟨3,0,none⟩) (Zi (dg (Zi (dg m (V:Int))+Zi (dg m (V:Int))) (S:Int))) (Zi (dg m (V:Int))+Zi (dg m (V:Int))),true),(Zaf (Q4 b m V (Zi (dg m (V:Int))+Zi (dg m (V:Int))) S) (some ⟨1,0,none⟩) (Zi (dg 2 (b:Int))) (2),true),(!decide (Zi (dg (Zi (dg m (V:Int))+Zi (dg m (V:Int))) (S:Int))=0∨Zi (dg 2 (b:Int))=0) && Nat.ble (Zi (dg (Zi (dg m (V:Int))+Zi (dg m (V:Int))) (S:Int))+Zi (dg 2 (b:Int))) 8192,true),(ZiS n i==1,true),(decide (i<0),false),(decide (Zh8 (Zm (Q3 b m V) (some ⟨2,0,none⟩) (Zi (dg m (V:Int)))) (Zm (Q3 b m V) (some ⟨2,0,none⟩) (Zi (dg m (V:Int))))=dg (Zi (dg m (V:Int))+Zi (dg m (V:Int))) (S:Int)),true),(Zaf (Q3 b m V) (some ⟨2,0,none⟩) (Zi (dg m (V:Int))) (m),true),(Zaf (Q3 b m V) (some ⟨2,0,none⟩) (Zi (dg m (V:Int))) (m),true),(!decide (Zi (dg m (V:Int))=0∨Zi (dg m (V:Int))=0) && Nat.ble (Zi (dg m (V:Int))+Zi (dg m (V:Int))) 8192,true),(decide (i≥0),true)]:=by and_intros<;>kernel_rfl
theorem Z6c (n i:Int) (b S W:Nat) (g:Nat→Value):Zg (evC (Zk prog Zf ZaR hcQ) 100 false (qL f76) (qF b n (s32 0 2 1) (s32 1 2 b) i++tl 46 g,Q2 b,[cmp true,cmp false,num S,cmp true,cmp false,num W]) ⟨[],[],[]⟩) 10 46 none (qF b n (s32 3 (Zi (dg (Zi (dg 2 ((1:Nat):Int))+Zi (dg 2 ((1:Nat):Int))) (S:Int))+Zi (dg 2 (b:Int))) W) (s32 1 2 b) (i64.wrap (i-1))) ⟨4,[w32 (Zi (dg (Zi (dg 2 ((1:Nat):Int))+Zi (dg 2 ((1:Nat):Int))) (S:Int))+Zi (dg 2 (b:Int))) W,w32 (Zi (dg 2 ((1:Nat):Int))+Zi (dg 2 ((1:Nat):Int))) S,w32 2 b,w32 2 1]⟩ [(decide (Zh8 (Zm (Q3 b (Zi (dg 2 ((1:Nat):Int))+Zi (dg 2 ((1:Nat):Int))) S) (some ⟨2,0,none⟩) (Zi (dg (Zi (dg 2 ((1:Nat):Int))+Zi (dg 2 ((1:Nat):Int))) (S:Int)))) (Zm (Q3 b (Zi (dg 2 ((1:Nat):Int))+Zi (dg 2 ((1:Nat):Int))) S) (some ⟨1,0,none⟩) (Zi (dg 2 (b:Int))))=dg (Zi (dg (Zi (dg 2 ((1:Nat):Int))+Zi (dg 2 ((1:Nat):Int))) (S:Int))+Zi (dg 2 (b:Int))) (W:Int)),true),(Zaf (Q3 b (Zi (dg 2 ((1:Nat):Int))+Zi (dg 2 ((1:Nat):Int))) S) (some ⟨2,0,none⟩) (Zi (dg (Zi (dg 2 ((1:Nat):Int))+Zi (dg 2 ((1:Nat):Int))) (S:Int))) (Zi (dg 2 ((1:Nat):Int))+Zi (dg 2 ((1:Nat):Int))),true),(Zaf (Q3 b (Zi (dg 2 ((1:Nat):Int))+Zi (dg 2 ((1:Nat):Int))) S) (some ⟨1,0,none⟩) (Zi (dg 2 (b:Int))) (2),true),(!decide (Zi (dg (Zi (dg 2 ((1:Nat):Int))+Zi (dg 2 ((1:Nat):Int))) (S:Int))=0∨Zi (dg 2 (b:Int))=0) && Nat.ble (Zi (dg (Zi (dg 2 ((1:Nat):Int))+Zi (dg 2 ((1:Nat):Int))) (S:Int))+Zi (dg 2 (b:Int))) 8192,true),(ZiS n i==1,true),(decide (i<0),false),(decide (Zh8 (Zm (Q2 b) (some ⟨0,0,none⟩) (Zi (dg 2 ((1:Nat):Int)))) (Zm (Q2 b) (some ⟨0,0,none⟩) (Zi (dg 2 ((1:Nat):Int))))=dg (Zi (dg 2 ((1:Nat):Int))+Zi (dg 2 ((1:Nat):Int))) (S:Int)),true),(Zaf (Q2 b) (some ⟨0,0,none⟩) (Zi (dg 2 ((1:Nat):Int))) (2),true),(Zaf (Q2 b) (some ⟨0,0,none⟩) (Zi (dg 2 ((1:Nat):Int))) (2),true),(!decide (Zi (dg 2 ((1:Nat):Int))=0∨Zi (dg 2 ((1:Nat):Int))=0) && Nat.ble (Zi (dg 2 ((1:Nat):Int))+Zi (dg 2 ((1:Nat):Int))) 8192,true),(decide (i≥0),true)]:=by and_intros<;>kernel_rfl
theorem Z6d (n i:Int) (b S:Nat) (g:Nat→Value):Zg (evC (Zk prog Zf ZaR hcQ) 100 false (qL f76) (qF b n (s32 0 2 1) (s32 1 2 b) i++tl 46 g,Q2 b,[cmp true,cmp false,num S,cmp true,cmp true]) ⟨[],[],[]⟩) 10 46 none (qF b n Zn (s32 1 2 b) (i64.wrap (i-1))) (Q3 b (Zi (dg 2 ((1:Nat):Int))+Zi (dg 2 ((1:Nat):Int))) S) [(decide (Zi (dg (Zi (dg 2 ((1:Nat):Int))+Zi (dg 2 ((1:Nat):Int))) (S:Int))=0∨Zi (dg 2 (b:Int))=0),true),(ZiS n i==1,true),(decide (i<0),false),(decide (Zh8 (Zm (Q2 b) (some ⟨0,0,none⟩) (Zi (dg 2 ((1:Nat):Int)))) (Zm (Q2 b) (some ⟨0,0,none⟩) (Zi (dg 2 ((1:Nat):Int))))=dg (Zi (dg 2 ((1:Nat):Int))+Zi (dg 2 ((1:Nat):Int))) (S:Int)),true),(Zaf (Q2 b) (some ⟨0,0,none⟩) (Zi (dg 2 ((1:Nat):Int))) (2),true),(Zaf (Q2 b) (some ⟨0,0,none⟩) (Zi (dg 2 ((1:Nat):Int))) (2),true),(!decide (Zi (dg 2 ((1:Nat):Int))=0∨Zi (dg 2 ((1:Nat):Int))=0) && Nat.ble (Zi (dg 2 ((1:Nat):Int))+Zi (dg 2 ((1:Nat):Int))) 8192,true),(decide (i≥0),true)]:=by and_intros<;>kernel_rfl
theorem Z6e (n i:Int) (b m V:Nat) (g:Nat→Value):Zg (evC (Zk prog Zf ZaR hcQ) 100 false (qL f76) (qF b n Zn (s32 1 2 b) i++tl 46 g,Q3 b m V,[cmp true,cmp true,cmp false]) ⟨[],[],[]⟩) 10 46 none (qF b n Zn (s32 1 2 b) (i64.wrap (i-1))) (Q3 b m V) [(ZiS n i==1,false),(decide (i<0),false),(decide (0=0∨0=0),true),(decide (i≥0),true)]:=by and_intros<;>kernel_rfl
theorem Z6f (n i:Int) (b m V:Nat) (g:Nat→Value):Zg (evC (Zk prog Zf ZaR hcQ) 100 false (qL f76) (qF b n Zn (s32 1 2 b) i++tl 46 g,Q3 b m V,[cmp true,cmp true,cmp true,cmp true]) ⟨[],[],[]⟩) 10 46 none (qF b n Zn (s32 1 2 b) (i64.wrap (i-1))) (Q3 b m V) [(decide (0=0∨Zi (dg 2 (b:Int))=0),true),(ZiS n i==1,true),(decide (i<0),false),(decide (0=0∨0=0),true),(decide (i≥0),true)]:=by and_intros<;>kernel_rfl
theorem Z8X (n i:Int) (b:Nat) (P O:Value) (h:Hp) (g:Nat→Value):Zg (evC (Zk prog Zf ZaR hcQ) 100 false (qL f76) (qF b n P O i++tl 46 g,h,[cmp false]) ⟨[],[],[]⟩) 10 46 (some (some 0)) (qF b n P O i) h [(decide (i≥0),false)]:=by and_intros<;>kernel_rfl
theorem Z6g (n i:Int) (b:Nat) (P O:Value) (h:Hp) (g:Nat→Value):Zg (evC (Zk prog Zf ZaR hcQ) 100 false (qE f76) (qF b n P O i++tl 46 g,h,[]) ⟨[],[],[]⟩) 6 50 (some none) [.int .u32 (b:Int),.int .i64 n,.tuple #[],.tuple #[],P,.nilIface] h []:=by and_intros<;>kernel_rfl
def nw (V:Nat):Nat:=(d32 V).length
def pM (b j:Nat):Nat:=if j=0 then 2 else if j % 2=1 then nw (b^(j-1))+nw b else nw (b^(j/2))+nw (b^(j/2))
theorem ZiT:TabOk (Zk prog Zf ZaR hcQ):=Zh ZqV ZaN
theorem Ze6 {V k:Nat}(h:V<4294967296^k):nw V≤k:=Zbt (by omega) k V h
theorem Zkp (V:Nat):V<4294967296^nw V:=by
 have:=ZbG (b:=4294967296) (by omega) (d32 V) (ZjP (by omega) V);rw[show vb 4294967296 (d32 V)=V from Zc1 (by omega) V] at this;exact this
theorem ZiU {V:Nat}(h:0<V):0<nw V:=(Zdd (by omega)).2 h
theorem ZvK:nw 0=0:=by unfold nw d32;rw[zc];rfl
theorem Zra {m V:Nat}(h:V<4294967296^m) (hm:m≤1000):Zi (dg m (V:Int))=nw V:=
 (Zko (H:=⟨1,[w32 m V]⟩) (b:=0) rfl h hm).2.2.2.1
theorem Z6h {b j:Nat}(hb:b<4294967296) (hj:1≤j):b^j<4294967296^j:=Nat.pow_lt_pow_left hb (by omega)
theorem Z0G {b j:Nat}(hb:b<4294967296):nw (b^j)≤j+1:=by
 by_cases h:1≤j
 ·have:=Ze6 (Z6h hb h);omega
 ·have:j=0:=by omega
  subst this;rw[Nat.pow_zero];exact Ze6 (by decide)
theorem ZvL {n i:Nat}(hn:n<65536) (hi:i<64):ZiS (n:Int) (i:Int)=((n/2^i % 2:Nat):Int):=by
 have e:(n:Int).fdiv (2^min (i:Int).toNat 64)=((n/2^i:Nat):Int):=by
  rw[Xg,show min i 64=i by omega,Int.fdiv_eq_ediv_of_nonneg _ (Int.le_of_lt (Int.pow_pos (by omega)))];simp
 have hl:n/2^i≤n:=Nat.div_le_self _ _;unfold ZiS;rw[e,BitVec.toNat_and,show (BitVec.ofInt 64 1).toNat=1 from rfl,Nat.and_one_is_mod,BitVec.toNat_ofInt];have h2:((2^64:Nat):Int)=18446744073709551616:=rfl;rw[Zw (by omega) (by omega)];omega
theorem ZvM (b:Nat) {h:Hp}(h0:h.blk? 0=some (w32 2 1)) (h1:h.blk? 1=some (w32 2 b)):∀ i x,(⟨2,[w32 2 b,w32 2 1]⟩:Hp).blk? i=some x→h.blk? i=some x∧∀ v∈x.1,still v=true:=by
 intro i x hx;have hi:i<2:=Hp.blk_lt hx
 match i,hi,hx with
 | 0,_,hx=>
  have e:x=w32 2 1:=(Option.some.inj hx).symm;subst e;exact⟨h0,ZE _⟩
 | 1,_,hx=>
  have e:x=w32 2 b:=(Option.some.inj hx).symm;subst e;exact⟨h1,ZE _⟩
theorem ZvN (b n:Int) {P O:Value}(i:Int) (hP:lt 3 P=true) (hO:lt 3 O=true):∀ v∈qF b n P O i,lt 3 v=true:=by
 intro v hv;unfold qF at hv;simp only[List.mem_cons,List.not_mem_nil,or_false] at hv;rcases hv with rfl | rfl | rfl | rfl | rfl | rfl | rfl | rfl | rfl | rfl<;>first | rfl | exact hP | exact hO
def nS (b n k:Nat) (y:Lf):Prop:=∃ g,(n/2^k=0∧y.1=qF b n (s32 0 2 1) (s32 1 2 b) ((k:Int)-1)++tl 46 g∧y.2.1=Q2 b)∨
 (1≤n/2^k∧0<b∧y.1=qF b n (s32 2 (pM b (n/2^k)) (b^(n/2^k))) (s32 1 2 b) ((k:Int)-1)++tl 46 g∧y.2.1=Q3 b (pM b (n/2^k)) (b^(n/2^k)))∨
 (1≤n/2^k∧b=0∧∃ m V,y.1=qF b n Zn (s32 1 2 b) ((k:Int)-1)++tl 46 g∧y.2.1=Q3 b m V)
theorem Zrb {b n:Nat}(hb:b<4294967296) (hn:n≤300):∀ j,j≤n→nw (b^j)≤400:=fun j hj=>by
 have:=Z0G (b:=b) (j:=j) hb;omega
theorem Ztn {n:Nat}(hn:n≤2000):∀ j,j≤n→nw (10^j)≤400:=fun j hj=>by
 have h:(10:Nat)^j<4294967296^(j/9+1):=by
  refine Nat.lt_of_le_of_lt (Nat.pow_le_pow_right (by omega) (show j≤9*(j/9+1) by omega)) ?_;rw[Nat.pow_mul];exact Nat.pow_lt_pow_left (by decide) (by omega)
 have:=Ze6 h;omega
theorem Z0H {b j n:Nat}(hw:∀ j,j≤n→nw (b^j)≤400) (hb:b<4294967296) (hj:j≤n) (hj0:1≤j):b^j<4294967296^pM b j∧pM b j≤1000:=by
 unfold pM;rw[if_neg (by omega)];by_cases h:j % 2=1
 ·rw[if_pos h];have e:b^j=b^(j-1)*b:=by rw[← Nat.pow_succ];congr 1;omega
  have l1:=Zkp (b^(j-1));have l2:=Zkp b;have k1:=hw (j-1) (by omega);have k2:nw b≤1:=Ze6 (by omega);refine⟨?_,by omega⟩;rw[e,Nat.pow_add];exact Nat.mul_lt_mul'' l1 l2
 ·rw[if_neg h];have e:b^j=b^(j/2)*b^(j/2):=by rw[← Nat.pow_add];congr 1;omega
  have l1:=Zkp (b^(j/2));have k1:=hw (j/2) (by omega);refine⟨?_,by omega⟩;rw[e,Nat.pow_add];exact Nat.mul_lt_mul'' l1 l1
theorem ZiV {x y:Nat}(hx:0<x) (hy:0<y) (h:x+y≤8192):(!decide (x=0∨y=0) && Nat.ble (x+y) 8192)=true:=by
 rw[Xb (by omega),Nat.ble_eq_true_of_le h];rfl
theorem Zrc {b n k:Nat}(hb:b<4294967296) (hn:n≤2000) (hw:∀ j,j≤n→nw (b^j)≤400) (hk:k≤20) {y:Lf}(h:nS b n (k+1) y) (ht:n/2^(k+1)=0→n/2^k % 2=1):RunsW (Zk prog Zf ZaR hcQ) (qL f76) y fun e z=>e=none∧nS b n k z:=by
 obtain⟨t,h',s⟩:=y;obtain⟨i,hi⟩:∃ i:Int,i=((k+1:Nat):Int)-1:=⟨_,rfl⟩;have hik:i=(k:Int):=by omega
 have hi0:i≥0:=by omega
 have hiF:decide (i<0)=false:=Xb (by omega);have ei:i64.wrap (i-1)=(k:Int)-1:=by rw[Zw (by omega) (by omega)];omega
 have eb:ZiS (n:Int) i=((n/2^k % 2:Nat):Int):=by rw[hik];exact ZvL (by omega) (by omega)
 have dd:n/2^k=2*(n/2^(k+1))+n/2^k % 2:=by
  rw[Nat.pow_succ,← Nat.div_div_eq_div_mul];omega
 have jn:n/2^k≤n:=Nat.div_le_self _ _;have kb:nw b≤1:=Ze6 (by omega);have tb:=Zra (m:=2) (V:=b) (by have:(4294967296:Nat)^2=18446744073709551616:=rfl;omega) (by omega);have lt1:KRun.lt 3 (s32 1 2 b)=true:=rfl;have bN:b<4294967296^2:=by have:(4294967296:Nat)^2=18446744073709551616:=rfl;omega
 generalize hj:n/2^(k+1)=j at*;generalize hj':n/2^k=j' at*;obtain⟨g,hy⟩:=h;rw[hj] at hy;rcases hy with ⟨j0,ht',hh⟩ | ⟨j1,b0,ht',hh⟩ | ⟨j1,b0,m,V,ht',hh⟩
 ·have hbit:=ht j0;have j'1:j'=1:=by omega
  simp only at ht' hh;rw[← hi] at ht';subst ht' hh;have hbt:(ZiS (n:Int) i==1)=true:=by rw[eb,hbit];rfl
  have n1:Zi (dg 2 ((1:Nat):Int))=1:=by decide
  have r1:=Zko (H:=Q2 b) (b:=0) (V:=1) (m:=2) rfl (by decide) (by omega);have z1:(!decide (Zi (dg 2 ((1:Nat):Int))=0∨Zi (dg 2 ((1:Nat):Int))=0) && Nat.ble (Zi (dg 2 ((1:Nat):Int))+Zi (dg 2 ((1:Nat):Int))) 8192)=true:=ZiV (by omega) (by omega) (by omega);by_cases b0:0<b
  ·have e2:Zi (dg (Zi (dg 2 ((1:Nat):Int))+Zi (dg 2 ((1:Nat):Int))) ((1:Nat):Int))=1:=by decide
   have r2:=Zko (H:=Q3 b (Zi (dg 2 ((1:Nat):Int))+Zi (dg 2 ((1:Nat):Int))) 1) (b:=2) (V:=1) (m:=Zi (dg 2 ((1:Nat):Int))+Zi (dg 2 ((1:Nat):Int))) rfl (by decide) (by omega);have r3:=Zko (H:=Q3 b (Zi (dg 2 ((1:Nat):Int))+Zi (dg 2 ((1:Nat):Int))) 1) (b:=1) (V:=b) (m:=2) rfl bN (by omega);have pb:=ZiU b0;have hg:=Z6c n i b 1 (1*b) g;rw[ei] at hg;have z2:=ZiV (x:=Zi (dg (Zi (dg 2 ((1:Nat):Int))+Zi (dg 2 ((1:Nat):Int))) ((1:Nat):Int))) (y:=Zi (dg 2 (b:Int))) (by omega) (by omega) (by omega);have hp:pM b 1=Zi (dg (Zi (dg 2 ((1:Nat):Int))+Zi (dg 2 ((1:Nat):Int))) ((1:Nat):Int))+Zi (dg 2 (b:Int)):=by
    rw[e2,tb];unfold pM;rw[if_neg (by omega),if_pos (by omega),Nat.sub_self,Nat.pow_zero];rw[show nw 1=1 from by
     have:=Zra (m:=2) (V:=1) (by decide) (by omega);rw[← this];exact n1]
   have run:=Zb (s0:=s) ZiT hg (Za (ZvB r2 r3) (Za (rX r2) (Za (rX r3) (Za z2 (Za hbt (Za hiF (Za (ZvB r1 r1) (Za (rX r1) (Za (rX r1) (Za z1 (Z5 (Xa hi0))))))))))));rw[← hp,Nat.one_mul] at run;have:=run.kept (k:=2) (b:=3) (base:=[w32 2 b,w32 2 1]) (y:=w32 (pM b 1) b) (front':=qF b n (s32 2 (pM b 1) b) (s32 1 2 b) ((k:Int)-1)) rfl (by kernel_rfl) (ZvM b rfl rfl) rfl (by omega) (ZE _) (ZvN _ _ _ rfl rfl);refine this.mono fun e z hz=> ?_;obtain⟨rfl,⟨g',e1⟩,e2'⟩:=hz;refine⟨rfl,g',.inr (.inl ⟨by omega,b0,?_,?_⟩)⟩
   ·rw[hj',j'1,Nat.pow_one];exact e1
   ·rw[hj',j'1,Nat.pow_one];exact e2'
  ·have bz:b=0:=by omega
   have hg:=Z6d n i b 1 g;rw[ei] at hg;have run:=Zb (s0:=s) ZiT hg (Za (Xa (.inr (by rw[tb,bz,ZvK]))) (Za hbt (Za hiF (Za (ZvB r1 r1) (Za (rX r1) (Za (rX r1) (Za z1 (Z5 (Xa hi0)))))))));refine run.mono fun e z hz=> ?_;obtain⟨rfl,⟨g',e1⟩,e2'⟩:=hz;exact⟨rfl,g',.inr (.inr ⟨by rw[hj'];omega,bz,_,_,e1,e2'⟩)⟩
 ·simp only at ht' hh;rw[← hi] at ht';have hm:pM b j=pM b j:=rfl;obtain⟨m,em⟩:∃ m,m=pM b j:=⟨_,rfl⟩;obtain⟨V,eV⟩:∃ V,V=b^j:=⟨_,rfl⟩;rw[← em,← eV] at ht' hh;obtain⟨p1,p2⟩:=Z0H hw hb (show j≤n by omega) j1;rw[← em,← eV] at p1;rw[← em] at p2;subst ht' hh;have V0:0<V:=by rw[eV];exact Nat.pow_pos b0
  have tV:=Zra p1 p2;have pV:=ZiU V0;have lV:nw V≤400:=by rw[eV];exact hw j (by omega)
  have r1:=Zko (H:=Q3 b m V) (b:=2) (V:=V) (m:=m) rfl p1 p2;have z1:=ZiV (x:=Zi (dg m (V:Int))) (y:=Zi (dg m (V:Int))) (by omega) (by omega) (by omega);have eS:V*V=b^(2*j):=by rw[eV,← Nat.pow_add];congr 1;omega
  by_cases hbit:j' % 2=1
  ·have hbt:(ZiS (n:Int) i==1)=true:=by rw[eb,hbit];rfl
   have j'e:j'=2*j+1:=by omega
   have pb:=ZiU b0;obtain⟨S,hS⟩:∃ S,S=V*V:=⟨_,rfl⟩;have sB:S<4294967296^(Zi (dg m (V:Int))+Zi (dg m (V:Int))):=by
    rw[hS,Nat.pow_add,tV];exact Nat.mul_lt_mul'' (Zkp V) (Zkp V)
   have sm:Zi (dg m (V:Int))+Zi (dg m (V:Int))≤1000:=by omega
   have tS:=Zra sB sm;have S0:0<S:=by rw[hS];exact Nat.mul_pos V0 V0
   have pS:=ZiU S0;have lS:nw S≤400:=by rw[hS,eS];exact hw (2*j) (by omega)
   have r2:=Zko (H:=Q4 b m V (Zi (dg m (V:Int))+Zi (dg m (V:Int))) S) (b:=3) (V:=S) (m:=Zi (dg m (V:Int))+Zi (dg m (V:Int))) rfl sB sm;have r3:=Zko (H:=Q4 b m V (Zi (dg m (V:Int))+Zi (dg m (V:Int))) S) (b:=1) (V:=b) (m:=2) rfl bN (by omega);have z2:=ZiV (x:=Zi (dg (Zi (dg m (V:Int))+Zi (dg m (V:Int))) (S:Int))) (y:=Zi (dg 2 (b:Int))) (by omega) (by omega) (by omega);have rm:=ZvB r1 r1;rw[← hS] at rm;have hg:=Z6b n i b m V S (S*b) g;rw[ei] at hg;have hp:pM b j'=Zi (dg (Zi (dg m (V:Int))+Zi (dg m (V:Int))) (S:Int))+Zi (dg 2 (b:Int)):=by
    rw[tS,tb];unfold pM;rw[if_neg (by omega),if_pos hbit,hS,eS,j'e,Nat.add_sub_cancel]
   have run:=Zb (s0:=s) ZiT hg (Za (ZvB r2 r3) (Za (rX r2) (Za (rX r3) (Za z2 (Za hbt (Za hiF (Za rm (Za (rX r1) (Za (rX r1) (Za z1 (Z5 (Xa hi0))))))))))));have hW:S*b=b^j':=by rw[hS,eS,j'e,Nat.pow_succ]
   rw[← hp,hW] at run;have:=run.kept (k:=2) (b:=4) (base:=[w32 2 b,w32 2 1]) (y:=w32 (pM b j') (b^j')) (front':=qF b n (s32 2 (pM b j') (b^j')) (s32 1 2 b) ((k:Int)-1)) rfl (by kernel_rfl) (ZvM b rfl rfl) rfl (by omega) (ZE _) (ZvN _ _ _ rfl rfl);refine this.mono fun e z hz=> ?_;obtain⟨rfl,⟨g',e1⟩,e2'⟩:=hz;refine⟨rfl,g',.inr (.inl ⟨by omega,b0,?_,?_⟩)⟩
   ·rw[hj'];exact e1
   ·rw[hj'];exact e2'
  ·have hbt:(ZiS (n:Int) i==1)=false:=by rw[eb,show j' % 2=0 by omega];rfl
   have j'e:j'=2*j:=by omega
   have hg:=Z6a n i b m V (V*V) g;rw[ei] at hg;have hp:pM b j'=Zi (dg m (V:Int))+Zi (dg m (V:Int)):=by
    rw[tV,eV];unfold pM;rw[if_neg (by omega),if_neg hbit,j'e,Nat.mul_div_cancel_left _ (by omega)]
   have run:=Zb (s0:=s) ZiT hg (Za hbt (Za hiF (Za (ZvB r1 r1) (Za (rX r1) (Za (rX r1) (Za z1 (Z5 (Xa hi0))))))));have hW:V*V=b^j':=by rw[eS,j'e]
   rw[← hp,hW] at run;have:=run.kept (k:=2) (b:=3) (base:=[w32 2 b,w32 2 1]) (y:=w32 (pM b j') (b^j')) (front':=qF b n (s32 2 (pM b j') (b^j')) (s32 1 2 b) ((k:Int)-1)) rfl (by kernel_rfl) (ZvM b rfl rfl) rfl (by omega) (ZE _) (ZvN _ _ _ rfl rfl);refine this.mono fun e z hz=> ?_;obtain⟨rfl,⟨g',e1⟩,e2'⟩:=hz;refine⟨rfl,g',.inr (.inl ⟨by omega,b0,?_,?_⟩)⟩
   ·rw[hj'];exact e1
   ·rw[hj'];exact e2'
 ·simp only at ht' hh;rw[← hi] at ht';subst ht' hh;by_cases hbit:j' % 2=1
  ·have hbt:(ZiS (n:Int) i==1)=true:=by rw[eb,hbit];rfl
   have hg:=Z6f n i b m V g;rw[ei] at hg;refine (Zb (s0:=s) ZiT hg (Za (Xa (.inl rfl)) (Za hbt (Za hiF (Za (by decide) (Z5 (Xa hi0))))))).mono fun e z hz=> ?_;obtain⟨rfl,⟨g',e1⟩,e2'⟩:=hz;exact⟨rfl,g',.inr (.inr ⟨by rw[hj'];omega,b0,m,V,e1,e2'⟩)⟩
  ·have hbt:(ZiS (n:Int) i==1)=false:=by rw[eb,show j' % 2=0 by omega];rfl
   have hg:=Z6e n i b m V g;rw[ei] at hg;refine (Zb (s0:=s) ZiT hg (Za hbt (Za hiF (Za (by decide) (Z5 (Xa hi0)))))).mono fun e z hz=> ?_;obtain⟨rfl,⟨g',e1⟩,e2'⟩:=hz;exact⟨rfl,g',.inr (.inr ⟨by rw[hj'];omega,b0,m,V,e1,e2'⟩)⟩
end Go.Proofs.YtgefjidphfdhdaaGreatDoor.Na
namespace Go.Proofs.YtgefjidphfdhdaaGreatDoor.Na
open Go.Proofs.Tryz
open Go.KRun Go.Nt
set_option maxRecDepth 100000
def fN (k:Int) (e:Value):List Value:=[Zn,i6' k,undef,undef,Zn,e]
theorem Zrd (k:Int):Zg (evC (Zk prog Zf Zo hcS) 200 false (Zs f77) ([Zn,i6' k]++List.replicate 45 undef,⟨0,[]⟩,[cmp true]) ⟨[],[],[]⟩) 6 41 (some none) (fN k (Zd0 1)) ⟨0,[]⟩ [(decide (k<0),true)]:=by and_intros<;>kernel_rfl
theorem Zre (k:Int):Zg (evC (Zk prog Zf Zo hcS) 200 false (Zs f77) ([Zn,i6' k]++List.replicate 45 undef,⟨0,[]⟩,[cmp false]) ⟨[],[],[]⟩) 6 41 (some none) (fN k .nilIface) ⟨0,[]⟩ [(decide (k<0),false)]:=by and_intros<;>kernel_rfl
def Z4n (d:Bool):Value:=match d with | true=>Zd0 1 | false=> .nilIface
theorem ZmW (k:Int) (d:Bool) (hd:decide (k<0)=d):Runs (Zk prog Zf Zo hcS) (Zs f77) ([Zn,i6' k]++List.replicate 45 undef,⟨0,[]⟩,[]) fun e' y=>(e'=none∨e'=some none)∧ZV prog f77 y.1 y.2.1=some (.tuple #[Zn,Z4n d]):=by
 cases d with
 | true=>
  refine (Zc (Zh Zd ZiD) (Zrd k) (Zu hd)).mono fun e' y he=> ?_;obtain⟨rfl,⟨g,e2⟩,e3⟩:=he;refine⟨.inr rfl,?_⟩;rw[e2,e3];rfl
 | false=>
  refine (Zc (Zh Zd ZiD) (Zre k) (Zu hd)).mono fun e' y he=> ?_;obtain⟨rfl,⟨g,e2⟩,e3⟩:=he;refine⟨.inr rfl,?_⟩;rw[e2,e3];rfl
def Zkq:Zae:=fun vals h s=>
 match vals with
 | [.slice none 0 0,.int .i64 k]=>
  match s with
  | .inr (.inr (.inr (.inl d)))::s'=>some (.tuple #[Zn,Z4n d],h,s',[(decide (k<0),d)])
  | _=>none
 | _=>ZuY vals h s
theorem ZbT:Z6 77 Zkq:=by
 intro vals h s v h' s' lg hg hl m B w E hv;unfold Zkq at hg;split at hg
 ·rename_i k;split at hg
  ·rename_i d s2;cases hg;have hd:=hl _ Xf;have e0:rn (fun b=>b) (.tuple #[Zn,Z4n d])= .tuple #[Zn,Z4n d]:=by cases d<;>exact Zd9 (by rfl)
   have:=zn (T:=Zk prog Zf Zo hcS) func77 Zf5 (h0:=⟨0,[]⟩) ⟨rfl,fun b x hb=>absurd (Hp.blk_lt hb) (Nat.not_lt_zero _)⟩ (vals:=[Zn,i6' k]) (fun v hv=>by
    simp only[List.mem_cons,List.not_mem_nil,or_false] at hv;rcases hv with rfl | rfl<;>rfl) (by cases d<;>rfl) (ZmW k d hd) E (s:=fun b=>b) (fun i hi=>absurd hi (Nat.not_lt_zero _)) (fun i x hi=>absurd (Hp.blk_lt hi) (Nat.not_lt_zero _))
   rw[e0] at this;exact this.mono fun e w' he=>⟨m,he.1,he.2⟩
  ·cases hg
 ·exact ZuZ _ _ _ _ _ _ _ hg hl m B w E hv
end Go.Proofs.YtgefjidphfdhdaaGreatDoor.Na
namespace Go.Proofs.YtgefjidphfdhdaaGreatDoor.Na
open Go.KRun Go.Nt
set_option maxRecDepth 100000
set_option linter.unusedVariables false
def sM (n:Nat) (k:Int):Nat:=k.toNat/32+(n+1)
def Zrf:Zae:=fun vals h s=>
 match vals,s with
 | [.slice p n c,.int .i64 k],.inr (.inr (.inr (.inl true)))::s'=>some (.tuple #[Zn,Zd0 1],h,s',[(Zaf h p n c,true),(ZS (Zm h p n) || decide (k<0),true)])
 | [.slice p n c,.int .i64 k],.inr (.inr (.inr (.inl false))):: .inr (.inr (.inr (.inl true)))::s'=>some (.tuple #[Zn,.nilIface],h,s',[(Zaf h p n c,true),(ZS (Zm h p n) || decide (k<0),false),(decide (n=0),true)])
 | [.slice p n c,.int .i64 k],.inr (.inr (.inr (.inl false))):: .inr (.inr (.inr (.inl false))):: .inr (.inr (.inr (.inl true)))::s'=>some (.tuple #[Zn,Zd0 2],h,s',[(Zaf h p n c,true),(ZS (Zm h p n) || decide (k<0),false),(decide (n=0),false),(decide (k>262144-Ze2 (Zm h p n)),true)])
 | [.slice p n c,.int .i64 k],.inr (.inr (.inr (.inl false))):: .inr (.inr (.inr (.inl false))):: .inr (.inr (.inr (.inl false))):: .inr (.inl V)::s'=>some (.tuple #[sl h.n 0 (Zi (dg (sM n k) V)) (sM n k),.nilIface],h.push (wU (dg (sM n k) V)) tU,s',[(decide (Zhl (Zm h p n) k.toNat=dg (sM n k) V),true),(Zaf h p n c,true),(ZS (Zm h p n) || decide (k<0),false),(decide (n=0),false),(decide (k>262144-Ze2 (Zm h p n)),false)])
 | _,_=>none
theorem ZiW:Z6 77 Zrf:=by
 intro vals h s v h' s' lg hg hl m B w E hv;unfold Zrf at hg;split at hg
 ·rename_i p n c k s2;cases hg;have l1:=hl _ (Xe);have l2:=hl _ (Xd _ Xf);simp only at l1 l2;rcases ZK l1 with ⟨rfl,rfl,rfl,e0⟩ | ⟨b,o,x,rfl,hx,r1,e0⟩<;>rw[e0] at l2
  ·rw[Zc3,Bool.false_or] at l2;exact ZbT _ h [cmp true] _ _ [] [(decide (k<0),true)] rfl (Z5 l2) m B w E hv
  ·exact ZbT _ h [cmp true] _ _ [] [(Z8 x.2 x.1 o n c,true),(ZS (Zz x.1 o n) || decide (k<0),true)] (by simp only[Zkq,ZuY,hx]) (Za r1 (Z5 l2)) m B w E hv
 ·rename_i p n c k s2;cases hg;have l1:=hl _ (Xe);have l2:=hl _ (Xd _ Xe);have l3:=hl _ (Xd _ (Xd _ Xf));simp only at l1 l2 l3;rcases ZK l1 with ⟨rfl,rfl,rfl,e0⟩ | ⟨b,o,x,rfl,hx,r1,e0⟩<;>rw[e0] at l2
  ·rw[Zc3,Bool.false_or] at l2;exact ZbT _ h [cmp false] _ _ [] [(decide (k<0),false)] rfl (Z5 l2) m B w E hv
  ·exact ZbT _ h [cmp false,cmp true] _ _ [] [(Z8 x.2 x.1 o n c,true),(ZS (Zz x.1 o n) || decide (k<0),false),(decide (n=0),true)] (by simp only[Zkq,ZuY,hx]) (Za r1 (Za l2 (Z5 l3))) m B w E hv
 ·rename_i p n c k s2;cases hg;have l1:=hl _ (Xe);have l2:=hl _ (Xd _ Xe);have l3:=hl _ (Xd _ (Xd _ Xe));have l4:=hl _ (Xd _ (Xd _ (Xd _ Xf)));simp only at l1 l2 l3 l4;rcases ZK l1 with ⟨rfl,rfl,rfl,e0⟩ | ⟨b,o,x,rfl,hx,r1,e0⟩
  ·exact absurd rfl (of_decide_eq_false l3)
  ·rw[e0] at l2 l4;exact ZbT _ h [cmp false,cmp false,cmp true] _ _ [] [(Z8 x.2 x.1 o n c,true),(ZS (Zz x.1 o n) || decide (k<0),false),(decide (n=0),false),(decide (k>262144-Ze2 (Zz x.1 o n)),true)] (by simp only[Zkq,ZuY,hx]) (Za r1 (Za l2 (Za l3 (Z5 l4)))) m B w E hv
 ·rename_i p n c k V s2;cases hg;have l0:=Xc (hl _ (Xe));have l1:=hl _ (Xd _ Xe);have l2:=hl _ (Xd _ (Xd _ Xe));have l3:=hl _ (Xd _ (Xd _ (Xd _ Xe)));have l4:=hl _ (Xd _ (Xd _ (Xd _ (Xd _ Xf))));simp only at l1 l2 l3 l4;rcases ZK l1 with ⟨rfl,rfl,rfl,e0⟩ | ⟨b,o,x,rfl,hx,r1,e0⟩
  ·exact absurd rfl (of_decide_eq_false l3)
  ·rw[e0] at l0 l2 l4;rw[← l0];exact ZbT _ h [cmp false,cmp false,cmp false] _ _ [] [(Z8 x.2 x.1 o n c,true),(ZS (Zz x.1 o n) || decide (k<0),false),(decide (n=0),false),(decide (k>262144-Ze2 (Zz x.1 o n)),false)] (by simp only[Zkq,ZuY,hx];rfl) (Za r1 (Za l2 (Za l3 (Z5 l4)))) m B w E hv
 ·cases hg
end Go.Proofs.YtgefjidphfdhdaaGreatDoor.Na
namespace Go.Proofs.YtgefjidphfdhdaaGreatDoor.Na
open Go.Proofs.Tryz
open Go.IntKind
open Go.KRun Go.Nt
set_option maxRecDepth 100000
set_option linter.unusedVariables false
theorem ZmX {b n:Nat}(hb:b<4294967296) (hn:n≤2000) (hw:∀ j,j≤n→nw (b^j)≤400):RunsW (Zk prog Zf ZaR hcQ) (ZW (qP f76) (.seq (.seq (qI f76) (.block 0 (.loop (qL f76)))) (qE f76))) ([.int .u32 (b:Int),.int .i64 (n:Int)]++List.replicate 54 undef,⟨0,[]⟩,[]) fun e z=>(e=none∨e=some none)∧((¬ (b=0∧1≤n)∧∃ k,ZV prog f76 z.1 z.2.1=some (.tuple #[s32 k (pM b n) (b^n),.nilIface])∧∃ r,z.2.1.blk? k=some (wU (dg (pM b n) ((b^n:Nat):Int))++r,tU))∨((b=0∧1≤n)∧ZV prog f76 z.1 z.2.1=some (.tuple #[Zn,.nilIface]))):=by
 have eb:u64.wrap (b:Int)=(b:Int):=by simp [IntKind.wrap,IntKind.bits,IntKind.signed];omega
 have en:u64.wrap (n:Int)=(n:Int):=by simp [IntKind.wrap,IntKind.bits,IntKind.signed];omega
 have hp:=Z0F b n;rw[eb] at hp;have hi:=Z8W b n;rw[en,Xg] at hi;have hl9:bitLen n≤11:=by
  obtain⟨s1,s2⟩:=bitLen_spec n;rcases Nat.lt_or_ge 11 (bitLen n) with h | h
  ·have h0:n≠0:=by rintro rfl;simp [bitLen] at h
   have h1:=s2 h0;have h2:2^11≤2^(bitLen n-1):=Nat.pow_le_pow_right (by omega) (by omega);have h3:(2:Nat)^11=2048:=rfl;omega
  ·exact h
 have hz:n/2^bitLen n=0:=Nat.div_eq_of_lt (bitLen_spec n).1;have ew:i64.wrap (((bitLen n:Nat):Int)-1)=((bitLen n:Nat):Int)-1:=Zw (by omega) (by omega);rw[ew] at hi;refine Zv ZiT hp (Za (Xa ⟨by omega,by omega⟩) (Za (by decide) (Za (Xb (by omega)) (Z5 (Xb (by omega)))))) fun g=> ?_;refine RunsW.seq (P1:=fun e y=>e=none∧nS b n 0 y) ?_ ?_ (fun e y hy=>by cases hy.1)
 ·refine RunsW.seq (Zb ZiT (hi (s32 1 2 b) g (Q2 b)) (Z5 (Xa ⟨by omega,by omega⟩))) ?_ (fun e y hy=>by cases hy.1);rintro⟨t,h',s⟩ ⟨_,⟨g',ht⟩,hh⟩;simp only at ht hh;subst ht hh;have lp:=RunsW.forLoop (T:=Zk prog Zf ZaR hcQ) (c:=qL f76) (id:=0) (P:=nS b n 0) (R:=fun _=>False) (fun k y=>k≤bitLen n∧nS b n k y) (x:=(qF b n (s32 0 2 1) (s32 1 2 b) (((bitLen n:Nat):Int)-1)++tl 46 g',Q2 b,s)) ?_ (n:=bitLen n) ⟨Nat.le_refl _,g',.inl ⟨hz,rfl,rfl⟩⟩
  ·refine lp.mono fun e z hz=> ?_
   match e,hz with
   | none,hz=>exact⟨rfl,hz⟩
   | some none,hz=>exact hz.elim
   | some (some _),hz=>exact hz.elim
  ·rintro k y ⟨hk,hy⟩
   match k,hk,hy with
   | k+1,hk,hy=>
    refine (Zrc hb hn hw (by omega) hy fun h0=> ?_).mono fun e z hz=> ?_
    ·obtain⟨s1,s2⟩:=bitLen_spec n;have hn0:n≠0:=by
      rintro rfl;simp [bitLen] at hk
     have h1:=s2 hn0;have h2:bitLen n=k+1:=by
      rcases Nat.lt_or_ge (k+1) (bitLen n) with h | h
      ·exfalso
       have h3:2^(k+1)≤2^(bitLen n-1):=Nat.pow_le_pow_right (by omega) (by omega);have h4:0<n/2^(k+1):=Nat.div_pos (by omega) (Nat.pow_pos (by omega));omega
      ·omega
     rw[h2,Nat.add_sub_cancel] at h1;have h5:0<n/2^k:=Nat.div_pos h1 (Nat.pow_pos (by omega));have h6:n/2^(k+1)=n/2^k/2:=by rw[Nat.pow_succ,← Nat.div_div_eq_div_mul]
     omega
    ·obtain⟨rfl,hz⟩:=hz;exact⟨k,by omega,by omega,hz⟩
   | 0,_,hy=>
    obtain⟨t,h',s⟩:=y;have out:∀ (P:Value) (h:Hp) (g:Nat→Value) (s:List Dec),RunsW (Zk prog Zf ZaR hcQ) (qL f76) (qF b n P (s32 1 2 b) (((0:Nat):Int)-1)++tl 46 g,h,s) fun e z=>e=some (some 0)∧(∃ g,z.1=qF b n P (s32 1 2 b) (((0:Nat):Int)-1)++tl 46 g)∧z.2.1=h:=fun P h g s=>
     Zb ZiT (Z8X n (((0:Nat):Int)-1) b P (s32 1 2 b) h g) (Z5 (by decide))
    obtain⟨g,hy⟩:=hy;rcases hy with ⟨j0,ht,hh⟩ | ⟨j1,b0,ht,hh⟩ | ⟨j1,b0,m,V,ht,hh⟩<;>simp only at ht hh<;>subst ht hh
    ·refine (out _ _ g s).mono fun e z hz=> ?_;obtain⟨rfl,⟨g',e1⟩,e2⟩:=hz;exact⟨rfl,g',.inl ⟨j0,e1,e2⟩⟩
    ·refine (out _ _ g s).mono fun e z hz=> ?_;obtain⟨rfl,⟨g',e1⟩,e2⟩:=hz;exact⟨rfl,g',.inr (.inl ⟨j1,b0,e1,e2⟩)⟩
    ·refine (out _ _ g s).mono fun e z hz=> ?_;obtain⟨rfl,⟨g',e1⟩,e2⟩:=hz;exact⟨rfl,g',.inr (.inr ⟨j1,b0,m,V,e1,e2⟩)⟩
 ·rintro⟨t,h',s⟩ ⟨_,g,hy⟩;rw[Nat.pow_zero,Nat.div_one] at hy;rcases hy with ⟨j0,ht,hh⟩ | ⟨j1,b0,ht,hh⟩ | ⟨j1,b0,m,V,ht,hh⟩<;>simp only at ht hh<;>subst ht hh
  ·refine (Zb ZiT (Z6g n _ b _ _ _ g) (fun x hx=>by cases hx)).mono fun e z hz=> ?_;obtain⟨rfl,⟨g',e1⟩,e2⟩:=hz;subst j0;have e3:pM b 0=2:=rfl;rw[e3,Nat.pow_zero];exact⟨.inr rfl,.inl ⟨by omega,0,by rw[e1,e2];rfl,[],by rw[e2,List.append_nil];rfl⟩⟩
  ·refine (Zb ZiT (Z6g n _ b _ _ _ g) (fun x hx=>by cases hx)).mono fun e z hz=> ?_;obtain⟨rfl,⟨g',e1⟩,e2⟩:=hz;exact⟨.inr rfl,.inl ⟨by omega,2,by rw[e1,e2];rfl,[],by rw[e2,List.append_nil];rfl⟩⟩
  ·refine (Zb ZiT (Z6g n _ b _ _ _ g) (fun x hx=>by cases hx)).mono fun e z hz=> ?_;obtain⟨rfl,⟨g',e1⟩,e2⟩:=hz;exact⟨.inr rfl,.inr ⟨⟨b0,j1⟩,by rw[e1,e2];rfl⟩⟩
def ZyM (b n:Int):Bool:=decide (0≤b∧b<4294967296∧0≤n∧(n≤300∨((b=10∨b=5)∧n≤2000)))
theorem ZmY {b n:Nat}(h:ZyM b n=true):b<4294967296∧n≤2000∧∀ j,j≤n→nw (b^j)≤400:=by
 have q:=Xc h;rcases q.2.2.2 with h1 | ⟨h1,h2⟩
 ·exact⟨by omega,by omega,Zrb (by omega) (by omega)⟩
 ·refine⟨by omega,by omega,fun j hj=> ?_⟩;rcases h1 with h1 | h1
  ·rw[show b=10 by omega];exact Ztn (n:=n) (by omega) j hj
  ·rw[show b=5 by omega];refine Nat.le_trans (Ze6 (k:=nw (10^j)) (Nat.lt_of_le_of_lt (Nat.pow_le_pow_left (by omega) j) (Zkp _))) (Ztn (n:=n) (by omega) j hj)
def pMi (b n:Int):Nat:=pM b.toNat n.toNat
def Zrg:Zae:=fun vals h s=>
 match vals,s with
 | [.int .u32 b,.int .i64 n],.inr (.inr (.inr (.inl true)))::s'=>some (.tuple #[Zn,Zd0 1],h,s',[(decide (n<0∨n>1000000),true)])
 | [.int .u32 b,.int .i64 n],.inr (.inr (.inr (.inl false))):: .inr (.inr (.inr (.inl true)))::s'=>some (.tuple #[Zn,.nilIface],h,s',[(ZyM b n,true),(decide (b=0∧1≤n),true)])
 | [.int .u32 b,.int .i64 n],.inr (.inr (.inr (.inl false))):: .inr (.inr (.inr (.inl false))):: .inr (.inl V)::s'=>some (.tuple #[sl h.n 0 (Zi (dg (pMi b n) V)) (pMi b n),.nilIface],h.push (wU (dg (pMi b n) V)) tU,s',[(decide (((b.toNat^n.toNat:Nat):Int)=V),true),(ZyM b n,true),(decide (b=0∧1≤n),false)])
 | _,_=>none
theorem ZiX:Z6 76 Zrg:=by
 intro vals h s v h' s' lg hg hl m B w E hv;have hr0:(⟨0,[]⟩:Hp).rows:=⟨rfl,fun b x hx=>by have:b<0:=Hp.blk_lt hx;omega⟩;unfold Zrg at hg;split at hg
 ·rename_i b n s2;cases hg;have l1:=Xc (hl _ Xf);have r:RunsW (Zk prog Zf ZaR hcQ) (Zs f76) ([.int .u32 b,.int .i64 n]++List.replicate 54 undef,⟨0,[]⟩,[]) fun e z=>(e=none∨e=some none)∧ZV prog f76 z.1 z.2.1=some (.tuple #[Zn,Zd0 1]):=by
   by_cases h0:n<0
   ·refine (Zb ZiT (ZvI b n) (Z5 (Xa h0))).mono fun e z hz=> ?_;obtain⟨rfl,⟨g',e1⟩,e2⟩:=hz;exact⟨.inr rfl,by rw[e1,e2];rfl⟩
   ·refine (Zb ZiT (ZvJ b n) (Za (Xa (l1.resolve_left h0)) (Z5 (Xb h0)))).mono fun e z hz=> ?_;obtain⟨rfl,⟨g',e1⟩,e2⟩:=hz;exact⟨.inr rfl,by rw[e1,e2];rfl⟩
  have:=ZB (T:=Zk prog Zf ZaR hcQ) func76 ZqZ hr0 (vals:=[.int .u32 b,.int .i64 n]) (fun v hv=>by
   simp only[List.mem_cons,List.not_mem_nil,or_false] at hv;rcases hv with rfl | rfl<;>rfl) (v:= .tuple #[Zn,Zd0 1]) (by rfl) r E (s:=fun i=>i) (fun i x hx _=>by have:i<0:=Hp.blk_lt hx;omega)
  exact this
 ·rename_i b n s2;cases hg;have l2':ZyM b n=true:=hl _ Xe;have l2:=Xc l2';have l3:=Xc (hl _ (Xd _ Xf));obtain⟨b',rfl⟩:=Int.eq_ofNat_of_zero_le l2.1;obtain⟨n',rfl⟩:=Int.eq_ofNat_of_zero_le l2.2.2.1;obtain⟨w1,w2,w3⟩:=ZmY l2';have r:=(ZmX (b:=b') (n:=n') w1 w2 w3).mono (P':=fun e z=>(e=none∨e=some none)∧ZV prog f76 z.1 z.2.1=some (.tuple #[Zn,.nilIface])) fun e z hz=>⟨hz.1,by
   rcases hz.2 with ⟨q,_⟩ | ⟨_,q⟩
   ·exact absurd (show b'=0∧1≤n' by omega) q
   ·exact q⟩
  have:=ZB (T:=Zk prog Zf ZaR hcQ) func76 ZmV hr0 (vals:=[.int .u32 (b':Int),.int .i64 (n':Int)]) (fun v hv=>by
   simp only[List.mem_cons,List.not_mem_nil,or_false] at hv;rcases hv with rfl | rfl<;>rfl) (v:= .tuple #[Zn,.nilIface]) (by rfl) r E (s:=fun i=>i) (fun i x hx _=>by have:i<0:=Hp.blk_lt hx;omega)
  exact this
 ·rename_i b n V s2;cases hg;have l1:=Xc (hl _ Xe);have l2':ZyM b n=true:=hl _ (Xd _ Xe);have l2:=Xc l2';have l3:=of_decide_eq_false (hl _ (Xd _ (Xd _ Xf)));obtain⟨b',rfl⟩:=Int.eq_ofNat_of_zero_le l2.1;obtain⟨n',rfl⟩:=Int.eq_ofNat_of_zero_le l2.2.2.1;obtain⟨w1,w2,w3⟩:=ZmY l2';rw[Xg,Xg] at l1;rw[← l1];have ep:pMi (b':Int) (n':Int)=pM b' n':=by unfold pMi;rw[Xg,Xg]
  rw[ep];have r:=(ZmX (b:=b') (n:=n') w1 w2 w3).mono (P':=fun e z=>(e=none∨e=some none)∧∃ k,ZV prog f76 z.1 z.2.1=some (.tuple #[s32 k (pM b' n') (b'^n'),.nilIface])∧∃ r,z.2.1.blk? k=some (wU (dg (pM b' n') ((b'^n':Nat):Int))++r,tU)) fun e z hz=>⟨hz.1,by
   rcases hz.2 with ⟨_,q⟩ | ⟨q,_⟩
   ·exact q
   ·exact absurd q (by omega)⟩
  exact ZbS (T:=Zk prog Zf ZaR hcQ) func76 ZmV hr0 (vals:=[.int .u32 (b':Int),.int .i64 (n':Int)]) (fun v hv=>by
   simp only[List.mem_cons,List.not_mem_nil,or_false] at hv;rcases hv with rfl | rfl<;>rfl) (v:=fun k=> .tuple #[s32 k (pM b' n') (b'^n'),.nilIface]) (ZaX _) (by kernel_rfl) r (fun k=>by simp [oc,oc2,oc1,s32,sl]) E (s:=fun i=>i) (fun i x hx _=>by have:i<0:=Hp.blk_lt hx;omega) (fun k=>by simp [rn,rn2,rn1,s32,sl])
 ·cases hg
end Go.Proofs.YtgefjidphfdhdaaGreatDoor.Na
namespace Go.Proofs.YtgefjidphfdhdaaGreatDoor
open Go.KRun
set_option maxRecDepth 100000
theorem Z8y:Zx []:=fun _ h=>by cases h
def bS (l:List UInt8):Value:= .string ⟨⟨l⟩⟩
end Go.Proofs.YtgefjidphfdhdaaGreatDoor
namespace Go.KRun
open Go.RowKit
structure BelowI (B r:Nat) (w w':World):Prop where
 os:w'.os=w.os
 tape:w'.tape=w.tape
 output:w'.output=w.output
 size:w.heap.size≤w'.heap.size
 block:∀ k,k<B→k≠r→w'.heap[k]? =w.heap[k]?
end Go.KRun
namespace Go.Proofs.YtgefjidphfdhdaaGreatDoor
open Go.KRun
set_option maxRecDepth 100000
theorem Z8z {x:Bool×Bool}{l:Log}(h:Zx (x::l)):x.1=x.2∧Zx l:=⟨h _ Xe,fun y hy=>h y (Xd _ hy)⟩
def h1R (l:List Value):Hp:=⟨1,[(l,tR)]⟩
end Go.Proofs.YtgefjidphfdhdaaGreatDoor
namespace Go.Proofs.YtgefjidphfdhdaaGreatDoor
open Go.KRun Go.Nt
set_option maxRecDepth 100000
theorem ZvO (W:List Int) (k:Nat):Zz (wU W) 0 k=W.take k:=by
 unfold Zz ZbR wU;rw[List.drop_zero,← List.map_take,List.map_map];exact (List.map_congr_left fun x _=>rfl).trans (List.map_id' _)
def asc (x:Int):Int:=48+x
def ZvP (V:Nat):List Int:=if V=0 then [0] else (db 10 V).reverse
def ZaW (V:Nat):List UInt8:=(ZvP V).map fun x=>UInt8.ofNat (asc x).toNat
end Go.Proofs.YtgefjidphfdhdaaGreatDoor
namespace Go.Rn
def upR (m:Int) (neg odd:Bool) (c:Int):Bool:=
 if c=0 then false else if m=2 then false else if m=3 then !neg else if m=4 then neg else if m=1 then decide (2≤c) else decide (2<c) || (decide (c=2) && odd)
def zX (r P:Nat):Int:=if r=0 then 0 else if 2*r<P then 1 else if 2*r=P then 2 else 3
def odd (q:Nat):Bool:=decide (q % 2=1)
def rq (m:Int) (neg:Bool) (T k:Nat):Nat:=T/2^k+(if upR m neg (odd (T/2^k)) (zX (T % 2^k) (2^k))=true then 1 else 0)
def toQ (m:Int) (neg:Bool) (T:Nat) (E e:Int):Nat:=if e≤E then T*2^(E-e).toNat else rq m neg T (e-E).toNat
def toL (T:Nat) (E e:Int):Bool:=if e≤E then false else decide (T % 2^(e-E).toNat≠0)
def lgN (T:Nat) (E:Int):Int:=E+(bitLen T:Nat)-1
def zA (T:Nat) (E:Int):Int:=if lgN T E-52≤ -1074 then -1074 else lgN T E-52
def p0 (m:Int) (neg:Bool) (T:Nat) (E:Int):Int:=(zA T E+1074)*4503599627370496+(toQ m neg T E (zA T E):Nat)
def ZhG (m:Int) (neg:Bool) (T:Nat) (E:Int):Bool:=if lgN T E= -1023 then decide (toQ m neg T E (-1075)<9007199254740992) else decide (lgN T E< -1022)
def bey (m:Int) (neg:Bool):Int:=if upR m neg true 3=true then 9218868437227405312 else 9218868437227405311
def rnP (m:Int) (neg:Bool) (T:Nat) (E:Int):Int:=if T=0 then 0 else if 9218868437227405312≤p0 m neg T E then bey m neg else p0 m neg T E
def rnF (m:Int) (neg:Bool) (T:Nat) (E:Int):Int:=if T=0 then 0 else if 9218868437227405312≤p0 m neg T E then 20 else if toL T E (zA T E)=true then (if ZhG m neg T E=true then 24 else 16) else 0
def swM (m:Int):Int:=if m=3 then 4 else if m=4 then 3 else m
theorem ZmZ (m:Int) (neg o:Bool) (c:Int):upR (swM m) (!neg) o c=upR m neg o c:=by
 unfold upR swM;by_cases h3:m=3
 ·subst h3;simp
 ·by_cases h4:m=4
  ·subst h4;simp
  ·simp [h3,h4]
theorem Zna (m:Int) (neg:Bool) (T:Nat) (E e:Int):toQ (swM m) (!neg) T E e=toQ m neg T E e:=by
 unfold toQ rq;simp only[ZmZ]
theorem ZvQ (m:Int) (neg:Bool) (T:Nat) (E:Int):rnP (swM m) (!neg) T E=rnP m neg T E:=by
 unfold rnP p0 bey;simp only[ZmZ,Zna]
theorem ZvR (m:Int) (neg:Bool) (T:Nat) (E:Int):rnF (swM m) (!neg) T E=rnF m neg T E:=by
 unfold rnF p0 ZhG;simp only[Zna]
theorem Zau {T:Nat}(h:T≠0):1≤bitLen T:=by unfold bitLen;rw[if_neg h];omega
theorem Zay {T k:Nat}(h0:2^k≤T) (h1:T<2^(k+1)):bitLen T=k+1:=by
 have hp:0<2^k:=Nat.pow_pos (by omega);obtain⟨a1,a2⟩:=bitLen_spec T;have a2:=a2 (by omega);have a3:=Zau (show T≠0 by omega);rcases Nat.lt_or_ge (bitLen T) (k+1) with h | h
 ·have:=Nat.pow_le_pow_right (show 0<2 by omega) (show bitLen T≤k by omega);omega
 ·rcases Nat.lt_or_ge (k+1) (bitLen T) with h' | h'
  ·have:=Nat.pow_le_pow_right (show 0<2 by omega) (show k+1≤bitLen T-1 by omega);omega
  ·omega
theorem len_le {T k:Nat}(h:T<2^k):bitLen T≤k:=by
 by_cases h0:T=0
 ·subst h0;simp [bitLen]
 ·have a2:=(bitLen_spec T).2 h0;rcases Nat.lt_or_ge k (bitLen T) with h' | h'
  ·have:=Nat.pow_le_pow_right (show 0<2 by omega) (show k≤bitLen T-1 by omega);omega
  ·exact h'
theorem Zeq {T k:Nat}(h:2^k≤T):k+1≤bitLen T:=by
 have a1:=(bitLen_spec T).1;rcases Nat.lt_or_ge (bitLen T) (k+1) with h' | h'
 ·have:=Nat.pow_le_pow_right (show 0<2 by omega) (show bitLen T≤k by omega);omega
 ·exact h'
theorem ZvS {T:Nat}(h:T≠0) (j:Nat):bitLen (T*2^j)=bitLen T+j:=by
 have hp:0<2^j:=Nat.pow_pos (by omega);obtain⟨a1,a2⟩:=bitLen_spec T;have a2:=a2 h;have a3:=Zau h;have e:bitLen T+j=(bitLen T-1+j)+1:=by omega
 rw[e];apply Zay
 ·rw[Nat.pow_add];exact Nat.mul_le_mul_right _ a2
 ·rw[show bitLen T-1+j+1=bitLen T+j by omega,Nat.pow_add];exact Nat.mul_lt_mul_of_pos_right a1 hp
theorem Zrh {T U:Nat}(h:T≤U):bitLen T≤bitLen U:=len_le (Nat.lt_of_le_of_lt h (bitLen_spec U).1)
theorem Zri (m:Int) (neg o:Bool):upR m neg o 0=false:=by simp [upR]
theorem Zkr (P:Nat):zX 0 P=0:=by simp [zX]
theorem Zrj (r P:Nat):0≤zX r P∧zX r P≤3:=by unfold zX;split<;>(try split)<;>(try split)<;>omega
theorem Znb {r P:Nat}:zX r P=0↔r=0:=by
 unfold zX;split
 ·simp_all
 ·rename_i h;simp only[h,iff_false];split<;>(try split)<;>omega
theorem Zks {r s P:Nat}(h:r≤s):zX r P≤zX s P:=by
 unfold zX;by_cases h0:r=0
 ·rw[if_pos h0];split<;>(try split)<;>(try split)<;>omega
 ·rw[if_neg h0,if_neg (show ¬ s=0 by omega)];split<;>(try split)<;>(try split)<;>(try split)<;>omega
theorem ZhH (r P j:Nat):zX (r*2^j) (P*2^j)=zX r P:=by
 have hp:0<2^j:=Nat.pow_pos (by omega);unfold zX;have e0:(r*2^j=0)↔r=0:=by rw[Nat.mul_eq_zero];omega
 have e1:(2*(r*2^j)<P*2^j)↔2*r<P:=by rw[← Nat.mul_assoc];exact Nat.mul_lt_mul_right hp
 have e2:(2*(r*2^j)=P*2^j)↔2*r=P:=by rw[← Nat.mul_assoc];exact Nat.mul_left_inj (by omega)
 simp only[e0,e1,e2]
theorem Zrk {m:Int}{neg o:Bool}{c d:Int}(h0:0≤c) (h:c≤d) (hu:upR m neg o c=true):upR m neg o d=true:=by
 unfold upR at*;by_cases hc:c=0
 ·rw[if_pos hc] at hu;cases hu
 ·rw[if_neg hc] at hu;rw[if_neg (show ¬ d=0 by omega)];by_cases h2:m=2
  ·rw[if_pos h2] at hu;cases hu
  ·rw[if_neg h2] at hu ⊢;by_cases h3:m=3
   ·rw[if_pos h3] at hu ⊢;exact hu
   ·rw[if_neg h3] at hu ⊢;by_cases h4:m=4
    ·rw[if_pos h4] at hu ⊢;exact hu
    ·rw[if_neg h4] at hu ⊢;by_cases h1:m=1
     ·rw[if_pos h1] at hu ⊢;simp only[Xi] at*;omega
     ·rw[if_neg h1] at hu ⊢;simp only[Bool.or_eq_true,Xh,Xi] at*;rcases hu with hu | ⟨hu,ho⟩
      ·left;omega
      ·by_cases hd:d=2
       ·right;exact⟨hd,ho⟩
       ·left;omega
theorem Zrl (m:Int) (neg:Bool) (T k:Nat):T/2^k≤rq m neg T k∧rq m neg T k≤T/2^k+1:=by unfold rq;split<;>omega
theorem ZfC {m:Int}{neg:Bool}{T k:Nat}(h:T % 2^k=0):rq m neg T k=T/2^k:=by
 unfold rq;rw[h,Zkr,Zri];simp
theorem Zrm (m:Int) (neg:Bool) (T k j:Nat):rq m neg (T*2^j) (k+j)=rq m neg T k:=by
 have hp:0<2^j:=Nat.pow_pos (by omega);unfold rq;rw[Nat.pow_add,Nat.mul_div_mul_right _ _ hp,Nat.mul_mod_mul_right,ZhH]
theorem ZvT {m:Int}{neg:Bool}{T U:Nat}(k:Nat) (h:T≤U):rq m neg T k≤rq m neg U k:=by
 have hp:0<2^k:=Nat.pow_pos (by omega);have hd:T/2^k≤U/2^k:=Nat.div_le_div_right h;have b1:=Zrl m neg T k;have b2:=Zrl m neg U k;by_cases he:T/2^k=U/2^k
 ·have m1:=Nat.div_add_mod T (2^k);have m2:=Nat.div_add_mod U (2^k);have hr:T % 2^k≤U % 2^k:=by rw[he] at m1;omega
  unfold rq;rw[he];by_cases hu:upR m neg (odd (U/2^k)) (zX (T % 2^k) (2^k))=true
  ·rw[if_pos hu,if_pos (Zrk (Zrj _ _).1 (Zks hr) hu)];omega
  ·rw[if_neg hu];split<;>omega
 ·omega
theorem ZgF (m:Int) (neg:Bool) (T j:Nat) (E e:Int):toQ m neg (T*2^j) (E-j) e=toQ m neg T E e:=by
 unfold toQ;by_cases h1:e≤E
 ·rw[if_pos h1];by_cases h2:e≤E-j
  ·rw[if_pos h2,Nat.mul_assoc,← Nat.pow_add];congr 2;omega
  ·rw[if_neg h2];have ej:j=(E-e).toNat+(e-(E-j)).toNat:=by omega
   have e1:T*2^j=T*2^(E-e).toNat*2^(e-(E-j)).toNat:=by rw[Nat.mul_assoc,← Nat.pow_add,← ej]
   have hp:0<2^(e-(E-j)).toNat:=Nat.pow_pos (by omega);rw[e1,ZfC (Nat.mul_mod_left _ _),Nat.mul_div_cancel _ hp]
 ·rw[if_neg h1,if_neg (by omega),show (e-(E-j)).toNat=(e-E).toNat+j by omega,Zrm]
theorem Znc (T j:Nat) (E e:Int):toL (T*2^j) (E-j) e=toL T E e:=by
 have hp:0<2^j:=Nat.pow_pos (by omega);unfold toL;by_cases h1:e≤E
 ·rw[if_pos h1];by_cases h2:e≤E-j
  ·rw[if_pos h2]
  ·rw[if_neg h2];have ej:j=(E-e).toNat+(e-(E-j)).toNat:=by omega
   have e1:T*2^j=T*2^(E-e).toNat*2^(e-(E-j)).toNat:=by rw[Nat.mul_assoc,← Nat.pow_add,← ej]
   rw[e1,Nat.mul_mod_left];simp
 ·rw[if_neg h1,if_neg (by omega),show (e-(E-j)).toNat=(e-E).toNat+j by omega,Nat.pow_add,Nat.mul_mod_mul_right];congr 1;rw[ne_eq,ne_eq,Nat.mul_eq_zero];simp only[eq_iff_iff];omega
theorem ZgG {T:Nat}(h:T≠0) (j:Nat) (E:Int):lgN (T*2^j) (E-j)=lgN T E:=by
 unfold lgN;rw[ZvS h];omega
theorem ZeW {T:Nat}(h:T≠0) (j:Nat) (E:Int):zA (T*2^j) (E-j)=zA T E:=by unfold zA;rw[ZgG h]
theorem ZiY {T:Nat}(h:T≠0) (m:Int) (neg:Bool) (j:Nat) (E:Int):p0 m neg (T*2^j) (E-j)=p0 m neg T E:=by unfold p0;rw[ZeW h,ZgF]
theorem Zkt {T:Nat}(h:T≠0) (m:Int) (neg:Bool) (j:Nat) (E:Int):ZhG m neg (T*2^j) (E-j)=ZhG m neg T E:=by unfold ZhG;rw[ZgG h,ZgF]
theorem ZiZ {T:Nat}(j:Nat):(T*2^j=0)=(T=0):=by
 have hp:0<2^j:=Nat.pow_pos (by omega);rw[Nat.mul_eq_zero];simp only[eq_iff_iff];omega
theorem ZbJ (m:Int) (neg:Bool) (T j:Nat) (E:Int):rnP m neg (T*2^j) (E-j)=rnP m neg T E:=by
 unfold rnP;simp only[ZiZ];by_cases h:T=0
 ·rw[if_pos h,if_pos h]
 ·rw[if_neg h,if_neg h,ZiY h]
theorem Zer (m:Int) (neg:Bool) (T j:Nat) (E:Int):rnF m neg (T*2^j) (E-j)=rnF m neg T E:=by
 unfold rnF;simp only[ZiZ];by_cases h:T=0
 ·rw[if_pos h,if_pos h]
 ·rw[if_neg h,if_neg h,ZiY h,Zkt h,ZeW h,Znc]
end Go.Rn
namespace Go.Rn
open Go.Pt
theorem Znd {m:Int}{neg:Bool}{T:Nat}{E e:Int}{n:Nat}(h:(bitLen T:Int)+(E-e)≤n):toQ m neg T E e≤2^n:=by
 have a1:=(bitLen_spec T).1;unfold toQ;by_cases he:e≤E
 ·rw[if_pos he];have hp:0<2^(E-e).toNat:=Nat.pow_pos (by omega);have:=Nat.mul_le_mul_right (2^(E-e).toNat) (Nat.le_of_lt a1);rw[← Nat.pow_add] at this;have h2:=Nat.pow_le_pow_right (show 0<2 by omega) (show bitLen T+(E-e).toNat≤n by omega);omega
 ·rw[if_neg he];have b:=(Zrl m neg T (e-E).toNat).2;have h2:=Nat.pow_le_pow_right (show 0<2 by omega) (show bitLen T≤n+(e-E).toNat by omega);have h3:T/2^(e-E).toNat<2^n:=by
   apply Nat.div_lt_of_lt_mul;rw[Nat.pow_add,Nat.mul_comm] at h2;omega
  omega
theorem Zto {m:Int}{neg:Bool}{T:Nat}{E e:Int}{n:Nat}(hT:T≠0) (h:(n:Int)+1≤(bitLen T:Int)+(E-e)):2^n≤toQ m neg T E e:=by
 have a2:=(bitLen_spec T).2 hT;have a3:=Zau hT;unfold toQ;by_cases he:e≤E
 ·rw[if_pos he];have:=Nat.mul_le_mul_right (2^(E-e).toNat) a2;rw[← Nat.pow_add] at this;have h2:=Nat.pow_le_pow_right (show 0<2 by omega) (show n≤bitLen T-1+(E-e).toNat by omega);omega
 ·rw[if_neg he];have b:=(Zrl m neg T (e-E).toNat).1;have hp:0<2^(e-E).toNat:=Nat.pow_pos (by omega);have h2:=Nat.pow_le_pow_right (show 0<2 by omega) (show n+(e-E).toNat≤bitLen T-1 by omega);have h3:2^n≤T/2^(e-E).toNat:=by
   rw[Nat.le_div_iff_mul_le hp,← Nat.pow_add];omega
  omega
theorem Zja (m:Int) (neg:Bool) (T:Nat) (E:Int):toQ m neg T E (zA T E)≤9007199254740992:=by
 refine Znd (n:=53) ?_;unfold zA lgN;split<;>omega
theorem Zjb {m:Int}{neg:Bool}{T:Nat}{E:Int}(hT:T≠0) (h: -1074≤lgN T E-52):4503599627370496≤toQ m neg T E (zA T E):=by
 refine Zto (n:=52) hT ?_;unfold zA lgN at*;split<;>omega
theorem Zrn {m:Int}{neg:Bool}{T U:Nat}{E:Int}(e:Int) (h:T≤U):toQ m neg T E e≤toQ m neg U E e:=by
 unfold toQ;split
 ·exact Nat.mul_le_mul_right _ h
 ·exact ZvT _ h
theorem Zro {T U:Nat}(E:Int) (h:T≤U):lgN T E≤lgN U E:=by
 have:=Zrh h;unfold lgN;omega
theorem ZvU {m:Int}{neg:Bool}{T U:Nat}{E:Int}(hT:T≠0) (h:T≤U):p0 m neg T E≤p0 m neg U E:=by
 have hl:=Zro E h;unfold p0;by_cases he:zA T E=zA U E
 ·rw[he];have:=Zrn (m:=m) (neg:=neg) (E:=E) (zA U E) h;omega
 ·have h1:=Zja m neg T E;have h3: -1074≤lgN U E-52∧zA T E+1≤zA U E:=by
   unfold zA at he ⊢;split at he<;>split at he<;>(try split)<;>(try split)<;>omega
  have h2:=Zjb (m:=m) (neg:=neg) (T:=U) (E:=E) (by omega) h3.1;omega
theorem ZfD (T:Nat) (E:Int): -1074≤zA T E:=by unfold zA;split<;>omega
theorem Zne (m:Int) (neg:Bool) (T:Nat) (E:Int):0≤p0 m neg T E:=by
 have:=ZfD T E;unfold p0;omega
theorem Ztp (m:Int) (neg:Bool):bey m neg=9218868437227405312∨bey m neg=9218868437227405311:=by unfold bey;split<;>simp
theorem Z0I (m:Int) (neg:Bool) (T:Nat) (E:Int):0≤rnP m neg T E∧rnP m neg T E≤9218868437227405312:=by
 have h:=Zne m neg T E;have hb:=Ztp m neg;unfold rnP;split
 ·omega
 ·split<;>omega
theorem Zaz {m:Int}{neg:Bool}{T U:Nat}{E:Int}(h:T≤U):rnP m neg T E≤rnP m neg U E:=by
 have hU:=Z0I m neg U E;by_cases hT:T=0
 ·unfold rnP at*;rw[if_pos hT];exact hU.1
 ·have hp:=ZvU (m:=m) (neg:=neg) (E:=E) hT h;have hb:=Ztp m neg;unfold rnP;rw[if_neg hT,if_neg (show ¬ U=0 by omega)];split<;>split<;>omega
end Go.Rn
namespace Go.Rn
open Go.Nt
theorem Zbi (V:Nat):bl V=bitLen V:=by
 by_cases h:V=0
 ·subst h;rw[Zdb];rfl
 ·have h1:=(bitLen_spec V).1;have h2:=(bitLen_spec V).2 h;have h3:=Zau h;obtain⟨k,hk⟩:∃ k,bitLen V=k+1:=⟨bitLen V-1,by omega⟩;rw[hk] at h1 h2 ⊢;exact ZlT h2 h1
theorem Zrp (T k:Nat):(T/2^k % 2=1)↔2^k≤T % 2^(k+1):=by
 have hp:0<2^k:=Nat.pow_pos (by omega);have e:T % 2^(k+1)=T % 2^k+2^k*(T/2^k % 2):=by rw[Nat.pow_succ,Nat.mod_mul]
 have hl:=Nat.mod_lt T hp;have h2:T/2^k % 2=0∨T/2^k % 2=1:=by omega
 rw[e];clear e;generalize T % 2^k=r at hl;generalize T/2^k % 2=b at h2;generalize 2^k=P at hl hp;rcases h2 with h | h
 ·subst h;simp only[Nat.mul_zero,Nat.add_zero];omega
 ·subst h;rw[Nat.mul_one];exact⟨fun _=>Nat.le_add_left _ _,fun _=>rfl⟩
theorem Z0J {r k:Nat}(hr:r≠0) (M:Int) (neg o:Bool):
  upR M neg o (zX r (2^(k+1)))=(if M=2 then false else if M=3 then !neg else if M=4 then neg else if M=1 then decide (2^k≤r) else (decide (2^k≤r) && (!decide (r=2^k) || o))):=by
 have hc:¬ zX r (2^(k+1))=0:=by rw[Znb];exact hr
 unfold upR;rw[if_neg hc];by_cases h2:M=2
 ·rw[if_pos h2,if_pos h2]
 ·rw[if_neg h2,if_neg h2];by_cases h3:M=3
  ·rw[if_pos h3,if_pos h3]
  ·rw[if_neg h3,if_neg h3];by_cases h4:M=4
   ·rw[if_pos h4,if_pos h4]
   ·rw[if_neg h4,if_neg h4];have e:2^(k+1)=2*2^k:=by rw[Nat.pow_succ,Nat.mul_comm]
    unfold zX;rw[if_neg hr,e];generalize 2^k=P;by_cases a:2*r<2*P
    ·rw[if_pos a];have:decide (P≤r)=false:=Xb (by omega);rw[this];split<;>simp
    ·rw[if_neg a];by_cases b:2*r=2*P
     ·rw[if_pos b];have h1:decide (P≤r)=true:=Xa (by omega);have h5:decide (r=P)=true:=Xa (by omega);rw[h1,h5];split<;>simp
     ·rw[if_neg b];have h1:decide (P≤r)=true:=Xa (by omega);have h5:decide (r=P)=false:=Xb (by omega);rw[h1,h5];split<;>simp
end Go.Rn
namespace Go.Wd
structure W4 where
 a:Int
 b:Int
 c:Int
 d:Int
end Go.Wd
namespace Go.Wd
open Go.IntKind
theorem ZgH {n:Int}(h0: -9223372036854775808≤n) (h1:n≤9223372036854775807):i64.wrap n=n:=by
 simp [IntKind.wrap,IntKind.bits,IntKind.signed];omega
structure Parts (n q r:Int):Prop where
 q1:1≤q
 r1:1<r
 qr:q*r=18446744073709551616
 eq:q=2^(n % 64).toNat
 er:r=2^(64-n % 64).toNat
structure Cut (a q r hi lo:Int):Prop where
 sum:a=r*hi+lo
 lo0:0≤lo
 lo1:lo<r
 hi0:0≤hi
 hi1:hi<q
structure Cut' (a q r hi lo:Int):Prop where
 sum:a=q*hi+lo
 lo0:0≤lo
 lo1:lo<q
 hi0:0≤hi
 hi1:hi<r
end Go.Wd
namespace Go.Wd
open Go.Rn
theorem cast_pow (k:Nat):((2:Int)^k)=((2^k:Nat):Int):=by simp
end Go.Wd
namespace Go.Rn
open Go.Nt Go.Wd
def mN (m:Int):Int:=if m<0 then 0 else if m>4 then 0 else m
theorem Ztq (m:Int) (neg o:Bool) (c:Int):upR (mN m) neg o c=upR m neg o c:=by
 unfold mN;by_cases h0:m<0
 ·rw[if_pos h0];unfold upR;rw[if_neg (show ¬ m=2 by omega),if_neg (show ¬ m=3 by omega),if_neg (show ¬ m=4 by omega),if_neg (show ¬ m=1 by omega)];simp
 ·rw[if_neg h0];by_cases h4:m>4
  ·rw[if_pos h4];unfold upR;rw[if_neg (show ¬ m=2 by omega),if_neg (show ¬ m=3 by omega),if_neg (show ¬ m=4 by omega),if_neg (show ¬ m=1 by omega)];simp
  ·rw[if_neg h4]
theorem Ztr (m:Int) (neg:Bool) (T:Nat) (E e:Int):toQ (mN m) neg T E e=toQ m neg T E e:=by
 unfold toQ rq;simp only[Ztq]
theorem Z0K (m:Int) (neg:Bool) (T:Nat) (E:Int):rnP (mN m) neg T E=rnP m neg T E:=by
 unfold rnP p0 bey;simp only[Ztr,Ztq]
theorem Z0L (m:Int) (neg:Bool) (T:Nat) (E:Int):rnF (mN m) neg T E=rnF m neg T E:=by
 unfold rnF p0 ZhG;simp only[Ztr]
theorem Z0M {m:Int}{neg:Bool}{T:Nat}{E:Int}(hT:T≠0) (h:1024≤lgN T E):9218868437227405312≤p0 m neg T E:=by
 have hq:=Zjb (m:=m) (neg:=neg) (T:=T) (E:=E) hT (by omega);have hl:zA T E=lgN T E-52:=by unfold zA;rw[if_neg (by omega)]
 unfold p0;rw[hl] at hq ⊢;omega
theorem Znf {m:Int}{neg:Bool}{T:Nat}{E:Int}(hT:T≠0) (h:1024≤lgN T E):rnP m neg T E=bey m neg∧rnF m neg T E=20:=by
 have:=Z0M (m:=m) (neg:=neg) hT h;unfold rnP rnF;rw[if_neg hT,if_neg hT,if_pos this,if_pos this];exact⟨rfl,rfl⟩
theorem Zjc {m:Int}{neg:Bool}{T:Nat}{E:Int}(hT:T≠0) (h:lgN T E≤ -1100):rnP m neg T E=(if upR m neg false 1=true then 1 else 0)∧rnF m neg T E=24:=by
 have hb:=(bitLen_spec T).1;have hl:zA T E= -1074:=by unfold zA;rw[if_pos (by omega)]
 have hE:¬ (-1074:Int)≤E:=by unfold lgN at h;have:=Zau hT;omega
 have hk:bitLen T+2≤(-1074-E).toNat:=by unfold lgN at h;omega
 have hp:=Nat.pow_le_pow_right (show 0<2 by omega) hk;have e4:2^(bitLen T+2)=4*2^bitLen T:=by rw[Nat.pow_add,Nat.mul_comm]
 have hlt:2*T<2^(-1074-E).toNat:=by omega
 have hd:T/2^(-1074-E).toNat=0:=Nat.div_eq_of_lt (by omega);have hm:T % 2^(-1074-E).toNat=T:=Nat.mod_eq_of_lt (by omega);have hr:zX T (2^(-1074-E).toNat)=1:=by unfold zX;rw[if_neg hT,if_pos hlt]
 have hq:toQ m neg T E (-1074)=if upR m neg false 1=true then 1 else 0:=by
  unfold toQ rq;rw[if_neg hE,hd,hm,hr];have ho:odd 0=false:=rfl;rw[ho];simp
 have hL:toL T E (-1074)=true:=by unfold toL;rw[if_neg hE,hm];exact Xa hT
 have hti:ZhG m neg T E=true:=by unfold ZhG;rw[if_neg (by omega)];exact Xa (by omega)
 have hp0:p0 m neg T E=if upR m neg false 1=true then 1 else 0:=by
  unfold p0;rw[hl,hq];split<;>rfl
 unfold rnP rnF;rw[if_neg hT,if_neg hT,hp0,hl,hL,hti];split<;>simp
theorem Z0N {q:Nat}(h0:4503599627370496≤q) (h1:q≤9007199254740992):bitLen q=if q=9007199254740992 then 54 else 53:=by
 split
 ·rename_i h;rw[h];exact Zay (k:=53) (by decide) (by decide)
 ·exact Zay (k:=52) h0 (show q<2^53 by have:(2:Nat)^53=9007199254740992:=rfl;omega)
theorem Zrq {m:Int}{neg:Bool}{T:Nat}{E:Int}(hT:T≠0):decide ((bitLen (toQ m neg T E (lgN T E-52)):Int)+(lgN T E+1)-53≤ -1022)=ZhG m neg T E:=by
 have h0:4503599627370496≤toQ m neg T E (lgN T E-52):=Zto (n:=52) hT (by unfold lgN;omega);have h1:toQ m neg T E (lgN T E-52)≤9007199254740992:=Znd (n:=53) (by unfold lgN;omega);have hl:=Z0N h0 h1;unfold ZhG;by_cases he:lgN T E= -1023
 ·have e:lgN T E-52= -1075:=by omega
  rw[e] at h0 h1 hl ⊢;rw[if_pos he,hl];congr 1;simp only[eq_iff_iff];split<;>omega
 ·rw[if_neg he,hl];congr 1;simp only[eq_iff_iff];split<;>omega
theorem Zrr {m:Int}{neg:Bool}{T:Nat}{E:Int}(hT:T≠0):decide ((bitLen (toQ m neg T E (zA T E)):Int)+zA T E>1024)=decide (9218868437227405312≤p0 m neg T E):=by
 have h1:=Zja m neg T E;have hle:=ZfD T E;congr 1;simp only[eq_iff_iff];unfold p0;by_cases hn:zA T E= -1074
 ·have hl:bitLen (toQ m neg T E (zA T E))≤54:=by
   have:toQ m neg T E (zA T E)<2^54:=by have e:(2:Nat)^54=18014398509481984:=rfl;omega
   exact len_le this
  omega
 ·have h0:=Zjb (m:=m) (neg:=neg) (E:=E) hT (by unfold zA at hn;split at hn<;>omega);have hl:=Z0N h0 h1;rw[hl];split<;>omega
def stk (A d:Nat):Nat:=2*(A/2^d)+(if A % 2^d=0 then 0 else 1)
theorem ZvV (A d:Nat):(if A % 2^d=0 then 0 else 1)≤1:=by split<;>omega
theorem Zng (A d j:Nat):stk A d/2^(j+1)=A/2^(d+j):=by
 have e:stk A d/2=A/2^d:=by unfold stk;split<;>omega
 rw[Nat.pow_succ,Nat.mul_comm,← Nat.div_div_eq_div_mul,e,Nat.div_div_eq_div_mul,Nat.pow_add]
theorem Znh (A d j:Nat):stk A d % 2^(j+1)=2*(A/2^d % 2^j)+(if A % 2^d=0 then 0 else 1):=by
 rw[Nat.pow_succ,Nat.mul_comm,Nat.mod_mul];have e:stk A d/2=A/2^d:=by unfold stk;split<;>omega
 rw[e];unfold stk;split<;>omega
theorem Zni (A d j:Nat):A % 2^(d+j)=A % 2^d+2^d*(A/2^d % 2^j):=by rw[Nat.pow_add,Nat.mod_mul]
theorem Zrs (A d j:Nat):stk A d % 2^(j+1)=0↔A % 2^(d+j)=0:=by
 have hD:0<2^d:=Nat.pow_pos (by omega);rw[Znh,Zni];generalize A/2^d % 2^j=r;constructor
 ·intro h;have h1:A % 2^d=0:=by
   by_cases h0:A % 2^d=0
   ·exact h0
   ·rw[if_neg h0] at h;omega
  rw[if_pos h1] at h;have:r=0:=by omega
  rw[h1,this];simp
 ·intro h;have h1:A % 2^d=0:=by omega
  rw[if_pos h1];have h2:2^d*r=0:=by omega
  rcases Nat.mul_eq_zero.1 h2 with h3 | h3
  ·omega
  ·rw[h3]
theorem Znj {r r' D Q s:Nat}(hD:r'<D) (hQ:0<Q) (hb:s≤1) (hs:s=0↔r'=0):zX (2*r+s) (4*Q)=zX (r'+D*r) (2*(D*Q)):=by
 have hDr:r≤D*r:=Nat.le_mul_of_pos_left r (by omega);unfold zX;by_cases h0:r'+D*r=0
 ·have:r'=0:=by omega
  have:=hs.2 this;rw[if_pos h0,if_pos (by omega)]
 ·have hz:¬ 2*r+s=0:=by
   intro h;apply h0;have h1:r=0:=by omega
   have h2:=hs.1 (by omega);rw[h1,h2];rfl
  rw[if_neg h0,if_neg hz];rcases Nat.lt_trichotomy r Q with h | h | h
  ·have h1:D*r+D≤D*Q:=by rw[← Nat.mul_succ];exact Nat.mul_le_mul_left D h
   rw[if_pos (by omega),if_pos (by omega)]
  ·subst h;by_cases hs0:s=0
   ·have:=hs.1 hs0;rw[if_neg (by omega),if_pos (by omega),if_neg (by omega),if_pos (by omega)]
   ·have:r'≠0:=fun h=>hs0 (hs.2 h);rw[if_neg (by omega),if_neg (by omega),if_neg (by omega),if_neg (by omega)]
  ·have h1:D*Q+D≤D*r:=by rw[← Nat.mul_succ];exact Nat.mul_le_mul_left D h
   rw[if_neg (by omega),if_neg (by omega),if_neg (by omega),if_neg (by omega)]
theorem Zrt (A d j:Nat):zX (stk A d % 2^(j+2)) (2^(j+2))=zX (A % 2^(d+(j+1))) (2^(d+(j+1))):=by
 have hD:0<2^d:=Nat.pow_pos (by omega);have hQ:0<2^j:=Nat.pow_pos (by omega);have eP:2^(j+1+1)=4*2^j:=by rw[Nat.pow_succ,Nat.pow_succ];omega
 have eP2:2^(d+(j+1))=2*(2^d*2^j):=by rw[Nat.pow_add,Nat.pow_succ,← Nat.mul_assoc];omega
 have e1:=Znh A d (j+1);have e2:=Zni A d (j+1);rw[show j+2=(j+1)+1 by omega,e1,e2,eP,eP2];exact Znj (Nat.mod_lt A hD) hQ (ZvV A d) (by split<;>omega)
theorem Z0O (m:Int) (neg:Bool) (A d j:Nat):rq m neg (stk A d) (j+2)=rq m neg A (d+(j+1)):=by
 unfold rq;rw[Zrt,show j+2=(j+1)+1 by omega,Zng]
theorem Znk (m:Int) (neg:Bool) (A d:Nat) {F e:Int}(h:F+d+1≤e):toQ m neg (stk A d) (F+d-1) e=toQ m neg A F e:=by
 obtain⟨j,hj⟩:∃ j:Nat,e=F+d+1+j:=⟨(e-(F+d+1)).toNat,by omega⟩;unfold toQ;rw[if_neg (by omega),if_neg (by omega),show (e-(F+d-1)).toNat=j+2 by omega,show (e-F).toNat=d+(j+1) by omega,Z0O]
theorem ZvW (A d:Nat) {F e:Int}(h:F+d+1≤e):toL (stk A d) (F+d-1) e=toL A F e:=by
 obtain⟨j,hj⟩:∃ j:Nat,e=F+d+1+j:=⟨(e-(F+d+1)).toNat,by omega⟩;unfold toL;rw[if_neg (by omega),if_neg (by omega),show (e-(F+d-1)).toNat=j+1+1 by omega,show (e-F).toNat=d+(j+1) by omega];congr 1;simp only[ne_eq,eq_iff_iff];exact not_congr (Zrs A d (j+1))
theorem Znl {A d:Nat}(h:A/2^d≠0):bitLen (stk A d)=bitLen (A/2^d)+1:=by
 have e:stk A d/2^1=A/2^d:=by
  have:=Zng A d 0;simpa using this
 rw[bitLen_shift (stk A d) 1 (by rw[e];exact h),e];omega
theorem ZvX {A d:Nat}{F:Int}(h:A/2^d≠0):lgN (stk A d) (F+d-1)=lgN A F:=by
 have e:=bitLen_shift A d h;unfold lgN;rw[Znl h];omega
theorem Znm {m:Int}{neg:Bool}{A d:Nat}{F:Int}(h:A % 2^d=0∨54≤bitLen (A/2^d)):rnP m neg (stk A d) (F+d-1)=rnP m neg A F∧rnF m neg (stk A d) (F+d-1)=rnF m neg A F:=by
 by_cases h0:A % 2^d=0
 ·have e1:stk A d=A/2^d*2^1:=by unfold stk;rw[if_pos h0];omega
  have e2:A=A/2^d*2^d:=by
   have:=Nat.div_add_mod A (2^d);rw[h0,Nat.mul_comm] at this;omega
  have p1:=ZbJ m neg (A/2^d) 1 (F+d);have p2:=ZbJ m neg (A/2^d) d (F+d);have f1:=Zer m neg (A/2^d) 1 (F+d);have f2:=Zer m neg (A/2^d) d (F+d);rw[show F+(d:Int)-((1:Nat):Int)=F+d-1 by omega,← e1] at p1 f1;rw[show F+(d:Int)-(d:Int)=F by omega,← e2] at p2 f2;exact⟨by rw[p1,p2],by rw[f1,f2]⟩
 ·have hb:54≤bitLen (A/2^d):=by exact h.resolve_left h0
  have hq:A/2^d≠0:=fun h=>by rw[h] at hb;simp [bitLen] at hb
  have hA:A≠0:=fun h=>h0 (by rw[h];simp);have hs:stk A d≠0:=by unfold stk;omega
  have hl:=ZvX (F:=F) hq;have hlw:zA (stk A d) (F+d-1)=zA A F:=by unfold zA;rw[hl]
  have hlg:lgN A F=F+d+bitLen (A/2^d)-1:=by rw[← hl];unfold lgN;rw[Znl hq];omega
  have hge:F+d+1≤zA A F:=by unfold zA;split<;>omega
  have hp:p0 m neg (stk A d) (F+d-1)=p0 m neg A F:=by unfold p0;rw[hlw,Znk m neg A d hge]
  have ht:ZhG m neg (stk A d) (F+d-1)=ZhG m neg A F:=by
   unfold ZhG;rw[hl];by_cases hn:lgN A F= -1023
   ·rw[if_pos hn,if_pos hn,Znk m neg A d (by omega)]
   ·rw[if_neg hn,if_neg hn]
  unfold rnP rnF;rw[if_neg hs,if_neg hA,if_neg hs,if_neg hA,hp,hlw,ZvW A d hge,ht];exact⟨rfl,rfl⟩
end Go.Rn
namespace Go.Rn
open Go.Nt Go.Wd Go.Pt
theorem xp_bd (p:Int): -1074≤xp p∧xp p≤972:=by
 have:=ZhE p;unfold xp;split
 ·omega
 ·split<;>omega
theorem sg_lt (p:Int):0≤sg p∧sg p<9007199254740992:=by
 have:=Zf9 p;unfold sg;split
 ·omega
 ·split<;>omega
def dvK (A B k:Nat):Nat:=2*(A*2^k/B)+(if A*2^k % B=0 then 0 else 1)
theorem Znn {A B:Nat}(k:Nat):A*2^k % (B*2^k)=A % B*2^k:=Nat.mul_mod_mul_right (2^k) A B
theorem Zno (A B k j:Nat):dvK A B (k+j)/2^(j+1)=A*2^k/B:=by
 have hp:0<2^j:=Nat.pow_pos (by omega);have e1:A*2^(k+j)/B/2^j=A*2^k/B:=by
  rw[Nat.div_div_eq_div_mul,Nat.pow_add,← Nat.mul_assoc,Nat.mul_div_mul_right _ _ hp]
 have:dvK A B (k+j)/2=A*2^(k+j)/B:=by unfold dvK;split<;>omega
 rw[Nat.pow_succ,Nat.mul_comm (2^j) 2,← Nat.div_div_eq_div_mul,this,e1]
theorem ZvY (A B k j:Nat):stk (dvK A B (k+j)) (j+1)=dvK A B k:=by
 have hp:0<2^j:=Nat.pow_pos (by omega);have e1:A*2^(k+j)/B/2^j=A*2^k/B:=by
  rw[Nat.div_div_eq_div_mul,Nat.pow_add,← Nat.mul_assoc,Nat.mul_div_mul_right _ _ hp]
 have e2:=Zno A B k j;have e3:dvK A B (k+j) % 2^(j+1)=0↔A*2^k % B=0:=by
  have d2:dvK A B (k+j)/2=A*2^(k+j)/B:=by unfold dvK;split<;>omega
  have m2:dvK A B (k+j) % 2=if A*2^(k+j) % B=0 then 0 else 1:=by unfold dvK;split<;>omega
  rw[Nat.pow_succ,Nat.mul_comm (2^j) 2,Nat.mod_mul,d2,m2];have e:A*2^(k+j) % B+B*(A*2^(k+j)/B % 2^j)=A*2^k % B*2^j:=by
   rw[← Nat.mod_mul,← Znn,Nat.mul_assoc,← Nat.pow_add]
  constructor
  ·intro h;have h1:A*2^(k+j) % B=0:=by
    by_cases h0:A*2^(k+j) % B=0
    ·exact h0
    ·rw[if_neg h0] at h;omega
   have h2:A*2^(k+j)/B % 2^j=0:=by omega
   rw[h1,h2,Nat.mul_zero] at e;rcases Nat.mul_eq_zero.1 e.symm with h3 | h3
   ·exact h3
   ·omega
  ·intro h;rw[h,Nat.zero_mul] at e;have h1:A*2^(k+j) % B=0:=by omega
   rw[if_pos h1];rcases Nat.mul_eq_zero.1 (show B*(A*2^(k+j)/B % 2^j)=0 by omega) with h2 | h2
   ·rw[h2,Nat.div_zero,Nat.zero_mod]
   ·rw[h2]
 unfold stk;rw[e2];by_cases h:A*2^k % B=0
 ·rw[if_pos (e3.2 h)];unfold dvK;rw[if_pos h]
 ·rw[if_neg (fun h'=>h (e3.1 h'))];unfold dvK;rw[if_neg h]
end Go.Rn
