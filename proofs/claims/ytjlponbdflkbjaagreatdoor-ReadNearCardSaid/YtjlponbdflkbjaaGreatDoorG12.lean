/-
  PwC, PwF, ConNK, PwB, PwG, NumZ, NumY, NumT, Num, Num2
-/
import Derived.Test.YtjlponbdflkbjaaGreatDoorG11
import Derived.SizedLaws
namespace Go.Proofs.YtjlponbdflkbjaaGreatDoor
open Go.Proofs.Tryz
open Go.IntKind
open Go.KRun Go.Nt
set_option maxRecDepth 100000
set_option linter.unusedVariables false
def pwP (F:Func):List Code:=[Z2 (Zs F),Z2 (Zz (Zs F))]
def pwI (F:Func):Code:=Z2 (Z2 (Zz (Zz (Zs F))))
def pwL (F:Func):Code:=cIn (cIn (Zz (Z2 (Zz (Zz (Zs F))))))
def pwE (F:Func):Code:=Zz (Zz (Zz (Zs F)))
theorem ZmP:f53.body=some (ZW (pwP f53) (.seq (.seq (pwI f53) (.block 0 (.loop (pwL f53)))) (pwE f53))):=by kernel_rfl
def wq (V:Nat):List Value×TypeId:=(wU (d16 V),tU)
def sq0 (V:Nat):Value:=sl 0 0 (d16 V).length (d16 V).length
def pwF (b n:Int) (out:Value) (i:Int):List Value:=[.int .u32 b,.int .i64 n,.tuple #[],.tuple #[],Zp,out,.int .i64 i]
theorem Z1k (b n:Int):Zg (evL (Zr prog Zf Zn Zd0) 100 (pwP f53) ([.int .u32 b,.int .i64 n]++List.replicate 15 undef,⟨0,[]⟩,[]) ⟨[],[],[]⟩) 6 11 none [.int .u32 b,.int .i64 n,.tuple #[],.tuple #[],Zp,sq0 1] ⟨1,[wq 1]⟩ []:=by and_intros<;>kernel_rfl
theorem Z9r (v0 v1 v2 v3 v4 v5:Value) (g:Nat→Value) (h:Hp):Zg (evC (Zr prog Zf Zn Zd0) 100 false (pwI f53) ([v0,v1,v2,v3,v4,v5]++tl 11 g,h,[]) ⟨[],[],[]⟩) 7 10 none [v0,v1,v2,v3,v4,v5,.int .i64 0] h []:=by and_intros<;>kernel_rfl
def pA (V:Nat):Hp:=⟨1,[wq V]⟩
theorem Z6p (b n i:Int) (V W:Nat) (g:Nat→Value):Zg (evC (Zr prog Zf Zn Zd0) 100 false (pwL f53) (pwF b n (sq0 V) i++tl 10 g,pA V,[cmp true,cmp true,num W]) ⟨[],[],[]⟩) 7 10 none (pwF b n (sl 1 0 (d16 W).length (d16 W).length) (i64.wrap (i+1))) ⟨2,[wq W,wq V]⟩ [(decide (vO (pA V) (some ⟨0,0,none⟩) (d16 V).length*b.toNat+(0:Int).toNat=W),true),(ZaV (pA V) (some ⟨0,0,none⟩) (d16 V).length (d16 V).length b 0,true),(decide (0<(d16 V).length∨0<(0:Int)),true),(decide (i<n),true)]:=by and_intros<;>kernel_rfl
theorem Z6q (b n i:Int) (V:Nat) (g:Nat→Value):Zg (evC (Zr prog Zf Zn Zd0) 100 false (pwL f53) (pwF b n (sq0 V) i++tl 10 g,pA V,[cmp true,cmp false]) ⟨[],[],[]⟩) 7 10 none (pwF b n Zp (i64.wrap (i+1))) (pA V) [(ZaV (pA V) (some ⟨0,0,none⟩) (d16 V).length (d16 V).length b 0,true),(decide (0<(d16 V).length∨0<(0:Int)),false),(decide (i<n),true)]:=by and_intros<;>kernel_rfl
theorem Z6r (b n i:Int) (V:Nat) (g:Nat→Value):Zg (evC (Zr prog Zf Zn Zd0) 100 false (pwL f53) (pwF b n Zp i++tl 10 g,pA V,[cmp true,cmp false]) ⟨[],[],[]⟩) 7 10 none (pwF b n Zp (i64.wrap (i+1))) (pA V) [(ZaV (pA V) none 0 0 b 0,true),(decide (0<0∨0<(0:Int)),false),(decide (i<n),true)]:=by and_intros<;>kernel_rfl
theorem Z8A (b n i:Int) (v:Value) (h:Hp) (g:Nat→Value):Zg (evC (Zr prog Zf Zn Zd0) 100 false (pwL f53) (pwF b n v i++tl 10 g,h,[cmp false]) ⟨[],[],[]⟩) 7 10 (some (some 0)) (pwF b n v i) h [(decide (i<n),false)]:=by and_intros<;>kernel_rfl
theorem Z8B (b n i:Int) (v:Value) (h:Hp) (g:Nat→Value):Zg (evC (Zr prog Zf Zn Zd0) 100 false (pwE f53) (pwF b n v i++tl 10 g,h,[]) ⟨[],[],[]⟩) 5 12 (some none) [.int .u32 b,.int .i64 n,.tuple #[],.tuple #[],v] h []:=by and_intros<;>kernel_rfl
def pwS (b n i:Nat) (y:Lf):Prop:=(¬ (b=0∧2≤i)∧∃ g,y.1=pwF b n (sq0 (b^i)) i++tl 10 g∧y.2.1=pA (b^i))∨((b=0∧2≤i)∧∃ g V,y.1=pwF b n Zp i++tl 10 g∧y.2.1=pA V)
theorem ZfE:TabOk (Zr prog Zf Zn Zd0):=Zh Zd ZmN
theorem Z1l {b i k:Nat}(hb:b<4294967296) (hi:2*i<k):b^i<2^(16*k):=by
 have h1:b^i≤(2^32)^i:=Nat.pow_le_pow_left (by have:(2:Nat)^32=4294967296:=rfl;omega) i;rw[← Nat.pow_mul] at h1;exact Nat.lt_of_le_of_lt h1 (Nat.pow_lt_pow_right (by omega) (by omega))
theorem Z1m (b n:Int) {s:Value}(i:Int) (hs:lt 1 s=true):∀ v∈pwF b n s i,lt 1 v=true:=by
 intro v hv;unfold pwF at hv;simp only[List.mem_cons,List.not_mem_nil,or_false] at hv;rcases hv with rfl | rfl | rfl | rfl | rfl | rfl | rfl<;>first | rfl | exact hs
theorem ZqB {b n i:Nat}(hb:b<4294967296) (hn:n≤20000) (hi:i<n) {y:Lf}(h:pwS b n i y):RunsW (Zr prog Zf Zn Zd0) (pwL f53) y fun e z=>e=none∧pwS b n (i+1) z:=by
 obtain⟨t,h',s⟩:=y;have ei:i64.wrap ((i:Int)+1)=((i+1:Nat):Int):=by rw[Zw (by omega) (by omega)];omega
 have hlt:decide ((i:Int)<(n:Int))=true:=Xa (by omega);rcases h with ⟨hA,g,ht,hh⟩ | ⟨hB,g,V,ht,hh⟩
 ·simp only at ht hh;subst ht hh;have lV:=Zem (Z1l (b:=b) (i:=i) (k:=2*i+1) hb (by omega));have hk:ZaV (pA (b^i)) (some ⟨0,0,none⟩) (d16 (b^i)).length (d16 (b^i)).length (b:Int) 0=true:=by
   unfold ZaV;rw[ZN (h:=pA (b^i)) (b:=0) (A:=b^i) rfl (by omega),zW (h:=pA (b^i)) (b:=0) (A:=b^i) (ty:=tU) rfl,Zo.2 (by omega),Xa ⟨⟨by omega,by omega⟩,by omega,by omega⟩];rfl
  by_cases hz:b^i=0
  ·have h1:¬ 0<(d16 (b^i)).length:=by rw[hz,show d16 0=[] from zp 65536];decide
   have hg:=Z6q b n i (b^i) g;rw[ei] at hg;refine (Ze (s0:=s) ZfE hg (Za hk (Za (Xb (by omega)) (Z4 hlt)))).mono fun e z hz'=> ?_;obtain⟨rfl,⟨g',e1⟩,e2⟩:=hz';have b0:b=0:=by
    rcases Nat.eq_zero_or_pos b with h0 | h0
    ·exact h0
    ·have:=Nat.pow_pos (n:=i) h0;omega
   have i1:1≤i:=by
    rcases Nat.eq_zero_or_pos i with h0 | h0
    ·subst h0;rw[Nat.pow_zero] at hz;omega
    ·exact h0
   exact⟨rfl,.inr ⟨⟨b0,by omega⟩,g',_,e1,e2⟩⟩
  ·have h1:0<(d16 (b^i)).length:=by
    unfold d16;rw[List.length_pos_iff,ne_eq,Zcz (by omega)];exact hz
   have hg:=Z6p b n i (b^i) (b^(i+1)) g;rw[ei] at hg;have:=(Ze (s0:=s) ZfE hg (Za (Xa (by rw[z4 (h:=pA (b^i)) (b:=0) (A:=b^i) (ty:=tU) rfl,Nat.pow_succ];rfl)) (Za hk (Za (Xa (.inl h1)) (Z4 hlt))))).kept (k:=0) (b:=1) (base:=[]) (y:=wq (b^(i+1))) (front':=pwF b n (sq0 (b^(i+1))) ((i+1:Nat):Int)) rfl (by kernel_rfl) (fun j x hx=>by have:j<0:=Hp.blk_lt hx;omega) rfl (by omega) (ZD _) (Z1m _ _ _ rfl);refine this.mono fun e z hz'=> ?_;obtain⟨rfl,⟨g',e1⟩,e2⟩:=hz';refine⟨rfl,.inl ⟨fun hc=> ?_,g',e1,e2⟩⟩;obtain⟨b0,i2⟩:=hc;apply hz;rw[b0,Nat.zero_pow (by omega)]
 ·simp only at ht hh;subst ht hh;have hk:ZaV (pA V) none 0 0 (b:Int) 0=true:=by
   unfold ZaV;rw[show zJ (pA V) none 0 0=true from rfl,show dgB (Zq (pA V) none 0)=true from rfl,Zo.2 (by omega),Xa ⟨⟨by omega,by omega⟩,by omega,by omega⟩];rfl
  have hg:=Z6r b n i V g;rw[ei] at hg;refine (Ze (s0:=s) ZfE hg (Za hk (Za (by decide) (Z4 hlt)))).mono fun e z hz'=> ?_;obtain⟨rfl,⟨g',e1⟩,e2⟩:=hz';exact⟨rfl,.inr ⟨⟨hB.1,by omega⟩,g',V,e1,e2⟩⟩
theorem ZmQ {b n:Nat}(hb:b<4294967296) (hn:n≤20000):RunsW (Zr prog Zf Zn Zd0) (ZW (pwP f53) (.seq (.seq (pwI f53) (.block 0 (.loop (pwL f53)))) (pwE f53))) ([.int .u32 (b:Int),.int .i64 (n:Int)]++List.replicate 15 undef,⟨0,[]⟩,[]) fun e z=>(e=none∨e=some none)∧((¬ (b=0∧2≤n)∧ZV prog f53 z.1 z.2.1=some (sq0 (b^n))∧∃ r,z.2.1.blk? 0=some (wU (d16 (b^n))++r,tU))∨((b=0∧2≤n)∧ZV prog f53 z.1 z.2.1=some Zp)):=by
 refine Z0 ZfE (Z1k b n) (fun x hx=>by cases hx) fun g=> ?_;refine RunsW.seq (P1:=fun e y=>e=none∧pwS b n n y) ?_ ?_ (fun e y hy=>by cases hy.1)
 ·refine RunsW.seq (Ze ZfE (Z9r _ _ _ _ _ _ g _) (fun x hx=>by cases hx)) ?_ (fun e y hy=>by cases hy.1);rintro⟨t,h',s⟩ ⟨_,⟨g',ht⟩,hh⟩;simp only at ht hh;subst ht hh;have lp:=RunsW.forLoop (T:=Zr prog Zf Zn Zd0) (c:=pwL f53) (id:=0) (P:=pwS b n n) (R:=fun _=>False) (fun k y=>∃ i,k=n-i∧i≤n∧pwS b n i y) (x:=(pwF b n (sq0 1) 0++tl 10 g',pA 1,s)) ?_ (n:=n) ⟨0,by omega,by omega,.inl ⟨by omega,g',by rw[Nat.pow_zero];rfl,by rw[Nat.pow_zero]⟩⟩
  ·refine lp.mono fun e z hz=> ?_
   match e,hz with
   | none,hz=>exact⟨rfl,hz⟩
   | some none,hz=>exact hz.elim
   | some (some _),hz=>exact hz.elim
  ·rintro k y ⟨i,hk,hi,hy⟩;by_cases hlt:i<n
   ·refine (ZqB hb hn hlt hy).mono fun e z hz=> ?_;obtain⟨rfl,hz⟩:=hz;exact⟨n-(i+1),by omega,i+1,rfl,by omega,hz⟩
   ·have e:i=n:=by omega
    subst e;obtain⟨t,h',s⟩:=y;rcases hy with ⟨hA,g,ht,hh⟩ | ⟨hB,g,V,ht,hh⟩
    ·simp only at ht hh;subst ht hh;refine (Ze ZfE (Z8A b i i _ _ g) (Z4 (Xb (by omega)))).mono fun e z hz=> ?_;obtain⟨rfl,⟨g',e1⟩,e2⟩:=hz;exact⟨rfl,.inl ⟨hA,g',e1,e2⟩⟩
    ·simp only at ht hh;subst ht hh;refine (Ze ZfE (Z8A b i i _ _ g) (Z4 (Xb (by omega)))).mono fun e z hz=> ?_;obtain⟨rfl,⟨g',e1⟩,e2⟩:=hz;exact⟨rfl,.inr ⟨hB,g',V,e1,e2⟩⟩
 ·rintro⟨t,h',s⟩ ⟨_,hy⟩;rcases hy with ⟨hA,g,ht,hh⟩ | ⟨hB,g,V,ht,hh⟩
  ·simp only at ht hh;subst ht hh;refine (Ze ZfE (Z8B b n n _ _ g) (fun x hx=>by cases hx)).mono fun e z hz=> ?_;obtain⟨rfl,⟨g',e1⟩,e2⟩:=hz;exact⟨.inr rfl,.inl ⟨hA,by rw[e1,e2];rfl,[],by rw[e2,List.append_nil];rfl⟩⟩
  ·simp only at ht hh;subst ht hh;refine (Ze ZfE (Z8B b n n _ _ g) (fun x hx=>by cases hx)).mono fun e z hz=> ?_;obtain⟨rfl,⟨g',e1⟩,e2⟩:=hz;exact⟨.inr rfl,.inr ⟨hB,by rw[e1,e2];rfl⟩⟩
def ZyV (b n:Int):Bool:=decide (0≤b∧b<4294967296∧0≤n∧n≤20000)
def ZvO:Zad:=fun vals h s=>
 match vals,s with
 | [.int .u32 b,.int .i64 n],.inr (.inr (.inr (.inl d)))::s'=>
  match d,s' with
  | true,.inr (.inl V)::s2=>Zde V.toNat h s2 [(decide (b.toNat^n.toNat=V.toNat),true),(ZyV b n,true),(decide (b=0∧2≤n),false)]
  | false,_=>some (Zp,h,s',[(ZyV b n,true),(decide (b=0∧2≤n),true)])
  | _,_=>none
 | _,_=>none
theorem ZqC:Z8 53 ZvO:=by
 intro vals h s v h' s' lg hg hl m B w E hv;have hr0:(⟨0,[]⟩:Hp).rows:=⟨rfl,fun b x hx=>by have:b<0:=Hp.blk_lt hx;omega⟩;unfold ZvO at hg;split at hg
 ·rename_i b n d s2;split at hg
  ·rename_i V s3;unfold Zde at hg;cases hg;have l1:=Xc (hl _ Xe);have l2:=Xc (hl _ (Xd _ Xe));have l3:=hl _ (Xd _ (Xd _ Xf));have l3:=of_decide_eq_false l3;obtain⟨b',rfl⟩:=Int.eq_ofNat_of_zero_le l2.1;obtain⟨n',rfl⟩:=Int.eq_ofNat_of_zero_le l2.2.2.1;rw[Xg,Xg] at l1;rw[← l1];have r:=(ZmQ (b:=b') (n:=n') (by omega) (by omega)).mono (P':=fun e z=>(e=none∨e=some none)∧ZV prog f53 z.1 z.2.1=some (sq0 (b'^n'))∧∃ r,z.2.1.blk? 0=some (wU (d16 (b'^n'))++r,tU)) fun e z hz=>⟨hz.1,by
    rcases hz.2 with ⟨_,q⟩ | ⟨q,_⟩
    ·exact q
    ·exact absurd q (by omega)⟩
   have:=ZE (T:=Zr prog Zf Zn Zd0) func53 ZmP hr0 (vals:=[.int .u32 (b':Int),.int .i64 (n':Int)]) (fun v hv=>by
    simp only[List.mem_cons,List.not_mem_nil,or_false] at hv;rcases hv with rfl | rfl<;>rfl) (k:=0) (cs:=wU (d16 (b'^n'))) (ty:=tU) (Zbb _) (by kernel_rfl) r (by simp [oc,oc2,oc1,sq0,sl]) E (s:=fun i=>i) (fun i x hx _=>by have:i<0:=Hp.blk_lt hx;omega)
   exact this
  ·cases hg;have l2:=Xc (hl _ Xe);have l3:=Xc (hl _ (Xd _ Xf));obtain⟨b',rfl⟩:=Int.eq_ofNat_of_zero_le l2.1;obtain⟨n',rfl⟩:=Int.eq_ofNat_of_zero_le l2.2.2.1;have r:=(ZmQ (b:=b') (n:=n') (by omega) (by omega)).mono (P':=fun e z=>(e=none∨e=some none)∧ZV prog f53 z.1 z.2.1=some Zp) fun e z hz=>⟨hz.1,by
    rcases hz.2 with ⟨q,_⟩ | ⟨_,q⟩
    ·exact absurd (show b'=0∧2≤n' by omega) q
    ·exact q⟩
   have:=ZB (T:=Zr prog Zf Zn Zd0) func53 ZmP hr0 (vals:=[.int .u32 (b':Int),.int .i64 (n':Int)]) (fun v hv=>by
    simp only[List.mem_cons,List.not_mem_nil,or_false] at hv;rcases hv with rfl | rfl<;>rfl) (v:=Zp) (by rfl) r E (s:=fun i=>i) (fun i x hx _=>by have:i<0:=Hp.blk_lt hx;omega)
   exact this
  ·cases hg
 ·cases hg
end Go.Proofs.YtjlponbdflkbjaaGreatDoor
namespace Go.Proofs.YtjlponbdflkbjaaGreatDoor.Na
open Go.Proofs.Tryz
open Go.IntKind
open Go.KRun Go.Nt
set_option maxRecDepth 100000
set_option linter.unusedVariables false
def qsn (k:Nat) (F:Func):Code:=match k with | 0=>Zs F | k+1=>Zz (qsn k F)
def qP (F:Func):List Code:=[Z2 (qsn 0 F),Z2 (qsn 1 F),Z2 (qsn 2 F),Z2 (qsn 3 F)]
def qI (F:Func):Code:=Z2 (Z2 (qsn 4 F))
def qL (F:Func):Code:=cIn (cIn (Zz (Z2 (qsn 4 F))))
def qE (F:Func):Code:=qsn 5 F
theorem ZmR:f76.body=some (ZW (qP f76) (.seq (.seq (qI f76) (.block 0 (.loop (qL f76)))) (qE f76))):=by kernel_rfl
theorem ZqD:f76.body=some (Zs f76):=by kernel_rfl
def w32 (m:Nat) (V:Nat):List Value×TypeId:=(wU (dg m (V:Int)),tU)
def s32 (k m V:Nat):Value:=sl k 0 (Zl (dg m (V:Int))) m
def qF (b n:Int) (P O:Value) (i:Int):List Value:=[.int .u32 b,.int .i64 n,.tuple #[],.tuple #[],Zp,.nilIface,P,O,.nilIface,.int .i64 i]
def Q2 (b:Nat):Hp:=⟨2,[w32 2 b,w32 2 1]⟩
def Q3 (b m V:Nat):Hp:=⟨3,[w32 m V,w32 2 b,w32 2 1]⟩
def Q4 (b m V M S:Nat):Hp:=⟨4,[w32 M S,w32 m V,w32 2 b,w32 2 1]⟩
def ZiB (n i:Int):Int:=i64.wrap ((BitVec.ofInt 64 (n.fdiv (2^min i.toNat 64)) &&& BitVec.ofInt 64 1).toNat:Nat)
def q0F (b n:Int) (O:Value):List Value:=[.int .u32 b,.int .i64 n,.tuple #[],.tuple #[],Zp,.nilIface,s32 0 2 1,O,.nilIface]
theorem Z1n (b:Nat) (n:Int):Zg (evL (Zr prog Zf ZaM hcQ) 100 (qP f76) ([.int .u32 (b:Int),.int .i64 n]++List.replicate 54 undef,⟨0,[]⟩,[cmp false,cmp false]) ⟨[],[],[]⟩) 9 47 none (q0F b n (sl 1 0 (Zl (dg 2 (u64.wrap (b:Int)))) 2)) ⟨2,[(wU (dg 2 (u64.wrap (b:Int))),tU),w32 2 1]⟩ [(decide (0≤u64.wrap (b:Int)∧u64.wrap (b:Int)<18446744073709551616),true),(decide (0≤(1:Int)∧(1:Int)<18446744073709551616),true),(decide (n>1000000),false),(decide (n<0),false)]:=by and_intros<;>kernel_rfl
theorem Z9s (b:Nat) (n:Int) (O:Value) (g:Nat→Value) (h:Hp):Zg (evC (Zr prog Zf ZaM hcQ) 100 false (qI f76) (q0F b n O++tl 47 g,h,[]) ⟨[],[],[]⟩) 10 46 none (qF b n (s32 0 2 1) O (i64.wrap (((bitLen (u64.wrap n).toNat:Nat):Int)-1))) h [(decide (0≤u64.wrap n∧u64.wrap n<65536),true)]:=by and_intros<;>kernel_rfl
theorem ZvP (b n:Int):Zg (evC (Zr prog Zf ZaM hcQ) 100 false (Zs f76) ([.int .u32 b,.int .i64 n]++List.replicate 54 undef,⟨0,[]⟩,[cmp true]) ⟨[],[],[]⟩) 6 50 (some none) [.int .u32 b,.int .i64 n,.tuple #[],undef,Zp,Zcu 1] ⟨0,[]⟩ [(decide (n<0),true)]:=by and_intros<;>kernel_rfl
theorem ZvQ (b n:Int):Zg (evC (Zr prog Zf ZaM hcQ) 100 false (Zs f76) ([.int .u32 b,.int .i64 n]++List.replicate 54 undef,⟨0,[]⟩,[cmp false,cmp true]) ⟨[],[],[]⟩) 6 50 (some none) [.int .u32 b,.int .i64 n,.tuple #[],undef,Zp,Zcu 1] ⟨0,[]⟩ [(decide (n>1000000),true),(decide (n<0),false)]:=by and_intros<;>kernel_rfl
theorem Z6s (n i:Int) (b m V S:Nat) (g:Nat→Value):Zg (evC (Zr prog Zf ZaM hcQ) 100 false (qL f76) (qF b n (s32 2 m V) (s32 1 2 b) i++tl 46 g,Q3 b m V,[cmp true,cmp false,num S,cmp false]) ⟨[],[],[]⟩) 10 46 none (qF b n (s32 3 (Zl (dg m (V:Int))+Zl (dg m (V:Int))) S) (s32 1 2 b) (i64.wrap (i-1))) (Q4 b m V (Zl (dg m (V:Int))+Zl (dg m (V:Int))) S) [(ZiB n i==1,false),(decide (i<0),false),(decide (Zhp (Zq (Q3 b m V) (some ⟨2,0,none⟩) (Zl (dg m (V:Int)))) (Zq (Q3 b m V) (some ⟨2,0,none⟩) (Zl (dg m (V:Int))))=dg (Zl (dg m (V:Int))+Zl (dg m (V:Int))) (S:Int)),true),(Zai (Q3 b m V) (some ⟨2,0,none⟩) (Zl (dg m (V:Int))) (m),true),(Zai (Q3 b m V) (some ⟨2,0,none⟩) (Zl (dg m (V:Int))) (m),true),(!decide (Zl (dg m (V:Int))=0∨Zl (dg m (V:Int))=0) && Nat.ble (Zl (dg m (V:Int))+Zl (dg m (V:Int))) 8192,true),(decide (i≥0),true)]:=by and_intros<;>kernel_rfl
theorem Z6t (n i:Int) (b m V S W:Nat) (g:Nat→Value):Zg (evC (Zr prog Zf ZaM hcQ) 100 false (qL f76) (qF b n (s32 2 m V) (s32 1 2 b) i++tl 46 g,Q3 b m V,[cmp true,cmp false,num S,cmp true,cmp false,num W]) ⟨[],[],[]⟩) 10 46 none (qF b n (s32 4 (Zl (dg (Zl (dg m (V:Int))+Zl (dg m (V:Int))) (S:Int))+Zl (dg 2 (b:Int))) W) (s32 1 2 b) (i64.wrap (i-1))) ⟨5,[w32 (Zl (dg (Zl (dg m (V:Int))+Zl (dg m (V:Int))) (S:Int))+Zl (dg 2 (b:Int))) W,w32 (Zl (dg m (V:Int))+Zl (dg m (V:Int))) S,w32 m V,w32 2 b,w32 2 1]⟩ [(decide (Zhp (Zq (Q4 b m V (Zl (dg m (V:Int))+Zl (dg m (V:Int))) S) (some ⟨3,0,none⟩) (Zl (dg (Zl (dg m (V:Int))+Zl (dg m (V:Int))) (S:Int)))) (Zq (Q4 b m V (Zl (dg m (V:Int))+Zl (dg m (V:Int))) S) (some ⟨1,0,none⟩) (Zl (dg 2 (b:Int))))=dg (Zl (dg (Zl (dg m (V:Int))+Zl (dg m (V:Int))) (S:Int))+Zl (dg 2 (b:Int))) (W:Int)),true),(Zai (Q4 b m V (Zl (dg m (V:Int))+Zl (dg m (V:Int))) S) (some ⟨3,0,none⟩) (Zl (dg (Zl (dg m (V:Int))+Zl (dg m (V:Int))) (S:Int))) (Zl (dg m (V:Int))+Zl (dg m (V:Int))),true),(Zai (Q4 b m V (Zl (dg m (V:Int))+Zl (dg m (V:Int))) S) (some ⟨1,0,none⟩) (Zl (dg 2 (b:Int))) (2),true),(!decide (Zl (dg (Zl (dg m (V:Int))+Zl (dg m (V:Int))) (S:Int))=0∨Zl (dg 2 (b:Int))=0) && Nat.ble (Zl (dg (Zl (dg m (V:Int))+Zl (dg m (V:Int))) (S:Int))+Zl (dg 2 (b:Int))) 8192,true),(ZiB n i==1,true),(decide (i<0),false),(decide (Zhp (Zq (Q3 b m V) (some ⟨2,0,none⟩) (Zl (dg m (V:Int)))) (Zq (Q3 b m V) (some ⟨2,0,none⟩) (Zl (dg m (V:Int))))=dg (Zl (dg m (V:Int))+Zl (dg m (V:Int))) (S:Int)),true),(Zai (Q3 b m V) (some ⟨2,0,none⟩) (Zl (dg m (V:Int))) (m),true),(Zai (Q3 b m V) (some ⟨2,0,none⟩) (Zl (dg m (V:Int))) (m),true),(!decide (Zl (dg m (V:Int))=0∨Zl (dg m (V:Int))=0) && Nat.ble (Zl (dg m (V:Int))+Zl (dg m (V:Int))) 8192,true),(decide (i≥0),true)]:=by and_intros<;>kernel_rfl
theorem Z6u (n i:Int) (b S W:Nat) (g:Nat→Value):Zg (evC (Zr prog Zf ZaM hcQ) 100 false (qL f76) (qF b n (s32 0 2 1) (s32 1 2 b) i++tl 46 g,Q2 b,[cmp true,cmp false,num S,cmp true,cmp false,num W]) ⟨[],[],[]⟩) 10 46 none (qF b n (s32 3 (Zl (dg (Zl (dg 2 ((1:Nat):Int))+Zl (dg 2 ((1:Nat):Int))) (S:Int))+Zl (dg 2 (b:Int))) W) (s32 1 2 b) (i64.wrap (i-1))) ⟨4,[w32 (Zl (dg (Zl (dg 2 ((1:Nat):Int))+Zl (dg 2 ((1:Nat):Int))) (S:Int))+Zl (dg 2 (b:Int))) W,w32 (Zl (dg 2 ((1:Nat):Int))+Zl (dg 2 ((1:Nat):Int))) S,w32 2 b,w32 2 1]⟩ [(decide (Zhp (Zq (Q3 b (Zl (dg 2 ((1:Nat):Int))+Zl (dg 2 ((1:Nat):Int))) S) (some ⟨2,0,none⟩) (Zl (dg (Zl (dg 2 ((1:Nat):Int))+Zl (dg 2 ((1:Nat):Int))) (S:Int)))) (Zq (Q3 b (Zl (dg 2 ((1:Nat):Int))+Zl (dg 2 ((1:Nat):Int))) S) (some ⟨1,0,none⟩) (Zl (dg 2 (b:Int))))=dg (Zl (dg (Zl (dg 2 ((1:Nat):Int))+Zl (dg 2 ((1:Nat):Int))) (S:Int))+Zl (dg 2 (b:Int))) (W:Int)),true),(Zai (Q3 b (Zl (dg 2 ((1:Nat):Int))+Zl (dg 2 ((1:Nat):Int))) S) (some ⟨2,0,none⟩) (Zl (dg (Zl (dg 2 ((1:Nat):Int))+Zl (dg 2 ((1:Nat):Int))) (S:Int))) (Zl (dg 2 ((1:Nat):Int))+Zl (dg 2 ((1:Nat):Int))),true),(Zai (Q3 b (Zl (dg 2 ((1:Nat):Int))+Zl (dg 2 ((1:Nat):Int))) S) (some ⟨1,0,none⟩) (Zl (dg 2 (b:Int))) (2),true),(!decide (Zl (dg (Zl (dg 2 ((1:Nat):Int))+Zl (dg 2 ((1:Nat):Int))) (S:Int))=0∨Zl (dg 2 (b:Int))=0) && Nat.ble (Zl (dg (Zl (dg 2 ((1:Nat):Int))+Zl (dg 2 ((1:Nat):Int))) (S:Int))+Zl (dg 2 (b:Int))) 8192,true),(ZiB n i==1,true),(decide (i<0),false),(decide (Zhp (Zq (Q2 b) (some ⟨0,0,none⟩) (Zl (dg 2 ((1:Nat):Int)))) (Zq (Q2 b) (some ⟨0,0,none⟩) (Zl (dg 2 ((1:Nat):Int))))=dg (Zl (dg 2 ((1:Nat):Int))+Zl (dg 2 ((1:Nat):Int))) (S:Int)),true),(Zai (Q2 b) (some ⟨0,0,none⟩) (Zl (dg 2 ((1:Nat):Int))) (2),true),(Zai (Q2 b) (some ⟨0,0,none⟩) (Zl (dg 2 ((1:Nat):Int))) (2),true),(!decide (Zl (dg 2 ((1:Nat):Int))=0∨Zl (dg 2 ((1:Nat):Int))=0) && Nat.ble (Zl (dg 2 ((1:Nat):Int))+Zl (dg 2 ((1:Nat):Int))) 8192,true),(decide (i≥0),true)]:=by and_intros<;>kernel_rfl
theorem Z6v (n i:Int) (b S:Nat) (g:Nat→Value):Zg (evC (Zr prog Zf ZaM hcQ) 100 false (qL f76) (qF b n (s32 0 2 1) (s32 1 2 b) i++tl 46 g,Q2 b,[cmp true,cmp false,num S,cmp true,cmp true]) ⟨[],[],[]⟩) 10 46 none (qF b n Zp (s32 1 2 b) (i64.wrap (i-1))) (Q3 b (Zl (dg 2 ((1:Nat):Int))+Zl (dg 2 ((1:Nat):Int))) S) [(decide (Zl (dg (Zl (dg 2 ((1:Nat):Int))+Zl (dg 2 ((1:Nat):Int))) (S:Int))=0∨Zl (dg 2 (b:Int))=0),true),(ZiB n i==1,true),(decide (i<0),false),(decide (Zhp (Zq (Q2 b) (some ⟨0,0,none⟩) (Zl (dg 2 ((1:Nat):Int)))) (Zq (Q2 b) (some ⟨0,0,none⟩) (Zl (dg 2 ((1:Nat):Int))))=dg (Zl (dg 2 ((1:Nat):Int))+Zl (dg 2 ((1:Nat):Int))) (S:Int)),true),(Zai (Q2 b) (some ⟨0,0,none⟩) (Zl (dg 2 ((1:Nat):Int))) (2),true),(Zai (Q2 b) (some ⟨0,0,none⟩) (Zl (dg 2 ((1:Nat):Int))) (2),true),(!decide (Zl (dg 2 ((1:Nat):Int))=0∨Zl (dg 2 ((1:Nat):Int))=0) && Nat.ble (Zl (dg 2 ((1:Nat):Int))+Zl (dg 2 ((1:Nat):Int))) 8192,true),(decide (i≥0),true)]:=by and_intros<;>kernel_rfl
theorem Z6w (n i:Int) (b m V:Nat) (g:Nat→Value):Zg (evC (Zr prog Zf ZaM hcQ) 100 false (qL f76) (qF b n Zp (s32 1 2 b) i++tl 46 g,Q3 b m V,[cmp true,cmp true,cmp false]) ⟨[],[],[]⟩) 10 46 none (qF b n Zp (s32 1 2 b) (i64.wrap (i-1))) (Q3 b m V) [(ZiB n i==1,false),(decide (i<0),false),(decide (0=0∨0=0),true),(decide (i≥0),true)]:=by and_intros<;>kernel_rfl
theorem Z6x (n i:Int) (b m V:Nat) (g:Nat→Value):Zg (evC (Zr prog Zf ZaM hcQ) 100 false (qL f76) (qF b n Zp (s32 1 2 b) i++tl 46 g,Q3 b m V,[cmp true,cmp true,cmp true,cmp true]) ⟨[],[],[]⟩) 10 46 none (qF b n Zp (s32 1 2 b) (i64.wrap (i-1))) (Q3 b m V) [(decide (0=0∨Zl (dg 2 (b:Int))=0),true),(ZiB n i==1,true),(decide (i<0),false),(decide (0=0∨0=0),true),(decide (i≥0),true)]:=by and_intros<;>kernel_rfl
theorem Z9t (n i:Int) (b:Nat) (P O:Value) (h:Hp) (g:Nat→Value):Zg (evC (Zr prog Zf ZaM hcQ) 100 false (qL f76) (qF b n P O i++tl 46 g,h,[cmp false]) ⟨[],[],[]⟩) 10 46 (some (some 0)) (qF b n P O i) h [(decide (i≥0),false)]:=by and_intros<;>kernel_rfl
theorem Z6y (n i:Int) (b:Nat) (P O:Value) (h:Hp) (g:Nat→Value):Zg (evC (Zr prog Zf ZaM hcQ) 100 false (qE f76) (qF b n P O i++tl 46 g,h,[]) ⟨[],[],[]⟩) 6 50 (some none) [.int .u32 (b:Int),.int .i64 n,.tuple #[],.tuple #[],P,.nilIface] h []:=by and_intros<;>kernel_rfl
def nw (V:Nat):Nat:=(d32 V).length
def pM (b j:Nat):Nat:=if j=0 then 2 else if j % 2=1 then nw (b^(j-1))+nw b else nw (b^(j/2))+nw (b^(j/2))
theorem ZiC:TabOk (Zr prog Zf ZaM hcQ):=Zh Zqh ZaE
theorem ZjV {V k:Nat}(h:V<4294967296^k):nw V≤k:=ZaZ (by omega) k V h
theorem ZmS (V:Nat):V<4294967296^nw V:=by
 have:=Zbl (b:=4294967296) (by omega) (d32 V) (Zfx (by omega) V);rw[show vb 4294967296 (d32 V)=V from ZbC (by omega) V] at this;exact this
theorem ZiD {V:Nat}(h:0<V):0<nw V:=(ZeX (by omega)).2 h
theorem ZvR:nw 0=0:=by unfold nw d32;rw[zp];rfl
theorem ZqE {m V:Nat}(h:V<4294967296^m) (hm:m≤1000):Zl (dg m (V:Int))=nw V:=
 (Zkt (H:=⟨1,[w32 m V]⟩) (b:=0) rfl h hm).2.2.2.1
theorem Z6z {b j:Nat}(hb:b<4294967296) (hj:1≤j):b^j<4294967296^j:=Nat.pow_lt_pow_left hb (by omega)
theorem Z1o {b j:Nat}(hb:b<4294967296):nw (b^j)≤j+1:=by
 by_cases h:1≤j
 ·have:=ZjV (Z6z hb h);omega
 ·have:j=0:=by omega
  subst this;rw[Nat.pow_zero];exact ZjV (by decide)
theorem ZvS {n i:Nat}(hn:n<65536) (hi:i<64):ZiB (n:Int) (i:Int)=((n/2^i % 2:Nat):Int):=by
 have e:(n:Int).fdiv (2^min (i:Int).toNat 64)=((n/2^i:Nat):Int):=by
  rw[Xg,show min i 64=i by omega,Int.fdiv_eq_ediv_of_nonneg _ (Int.le_of_lt (Int.pow_pos (by omega)))];simp
 have hl:n/2^i≤n:=Nat.div_le_self _ _;unfold ZiB;rw[e,BitVec.toNat_and,show (BitVec.ofInt 64 1).toNat=1 from rfl,Nat.and_one_is_mod,BitVec.toNat_ofInt];have h2:((2^64:Nat):Int)=18446744073709551616:=rfl;rw[Zw (by omega) (by omega)];omega
theorem ZvT (b:Nat) {h:Hp}(h0:h.blk? 0=some (w32 2 1)) (h1:h.blk? 1=some (w32 2 b)):∀ i x,(⟨2,[w32 2 b,w32 2 1]⟩:Hp).blk? i=some x→h.blk? i=some x∧∀ v∈x.1,still v=true:=by
 intro i x hx;have hi:i<2:=Hp.blk_lt hx
 match i,hi,hx with
 | 0,_,hx=>
  have e:x=w32 2 1:=(Option.some.inj hx).symm;subst e;exact⟨h0,ZD _⟩
 | 1,_,hx=>
  have e:x=w32 2 b:=(Option.some.inj hx).symm;subst e;exact⟨h1,ZD _⟩
theorem ZvU (b n:Int) {P O:Value}(i:Int) (hP:lt 3 P=true) (hO:lt 3 O=true):∀ v∈qF b n P O i,lt 3 v=true:=by
 intro v hv;unfold qF at hv;simp only[List.mem_cons,List.not_mem_nil,or_false] at hv;rcases hv with rfl | rfl | rfl | rfl | rfl | rfl | rfl | rfl | rfl | rfl<;>first | rfl | exact hP | exact hO
def nS (b n k:Nat) (y:Lf):Prop:=∃ g,(n/2^k=0∧y.1=qF b n (s32 0 2 1) (s32 1 2 b) ((k:Int)-1)++tl 46 g∧y.2.1=Q2 b)∨
 (1≤n/2^k∧0<b∧y.1=qF b n (s32 2 (pM b (n/2^k)) (b^(n/2^k))) (s32 1 2 b) ((k:Int)-1)++tl 46 g∧y.2.1=Q3 b (pM b (n/2^k)) (b^(n/2^k)))∨
 (1≤n/2^k∧b=0∧∃ m V,y.1=qF b n Zp (s32 1 2 b) ((k:Int)-1)++tl 46 g∧y.2.1=Q3 b m V)
theorem ZqF {b n:Nat}(hb:b<4294967296) (hn:n≤300):∀ j,j≤n→nw (b^j)≤400:=fun j hj=>by
 have:=Z1o (b:=b) (j:=j) hb;omega
theorem Ztb {n:Nat}(hn:n≤2000):∀ j,j≤n→nw (10^j)≤400:=fun j hj=>by
 have h:(10:Nat)^j<4294967296^(j/9+1):=by
  refine Nat.lt_of_le_of_lt (Nat.pow_le_pow_right (by omega) (show j≤9*(j/9+1) by omega)) ?_;rw[Nat.pow_mul];exact Nat.pow_lt_pow_left (by decide) (by omega)
 have:=ZjV h;omega
theorem Z1p {b j n:Nat}(hw:∀ j,j≤n→nw (b^j)≤400) (hb:b<4294967296) (hj:j≤n) (hj0:1≤j):b^j<4294967296^pM b j∧pM b j≤1000:=by
 unfold pM;rw[if_neg (by omega)];by_cases h:j % 2=1
 ·rw[if_pos h];have e:b^j=b^(j-1)*b:=by rw[← Nat.pow_succ];congr 1;omega
  have l1:=ZmS (b^(j-1));have l2:=ZmS b;have k1:=hw (j-1) (by omega);have k2:nw b≤1:=ZjV (by omega);refine⟨?_,by omega⟩;rw[e,Nat.pow_add];exact Nat.mul_lt_mul'' l1 l2
 ·rw[if_neg h];have e:b^j=b^(j/2)*b^(j/2):=by rw[← Nat.pow_add];congr 1;omega
  have l1:=ZmS (b^(j/2));have k1:=hw (j/2) (by omega);refine⟨?_,by omega⟩;rw[e,Nat.pow_add];exact Nat.mul_lt_mul'' l1 l1
theorem Zg4 {x y:Nat}(hx:0<x) (hy:0<y) (h:x+y≤8192):(!decide (x=0∨y=0) && Nat.ble (x+y) 8192)=true:=by
 rw[Xb (by omega),Nat.ble_eq_true_of_le h];rfl
theorem ZqG {b n k:Nat}(hb:b<4294967296) (hn:n≤2000) (hw:∀ j,j≤n→nw (b^j)≤400) (hk:k≤20) {y:Lf}(h:nS b n (k+1) y) (ht:n/2^(k+1)=0→n/2^k % 2=1):RunsW (Zr prog Zf ZaM hcQ) (qL f76) y fun e z=>e=none∧nS b n k z:=by
 obtain⟨t,h',s⟩:=y;obtain⟨i,hi⟩:∃ i:Int,i=((k+1:Nat):Int)-1:=⟨_,rfl⟩;have hik:i=(k:Int):=by omega
 have hi0:i≥0:=by omega
 have hiF:decide (i<0)=false:=Xb (by omega);have ei:i64.wrap (i-1)=(k:Int)-1:=by rw[Zw (by omega) (by omega)];omega
 have eb:ZiB (n:Int) i=((n/2^k % 2:Nat):Int):=by rw[hik];exact ZvS (by omega) (by omega)
 have dd:n/2^k=2*(n/2^(k+1))+n/2^k % 2:=by
  rw[Nat.pow_succ,← Nat.div_div_eq_div_mul];omega
 have jn:n/2^k≤n:=Nat.div_le_self _ _;have kb:nw b≤1:=ZjV (by omega);have tb:=ZqE (m:=2) (V:=b) (by have:(4294967296:Nat)^2=18446744073709551616:=rfl;omega) (by omega);have lt1:KRun.lt 3 (s32 1 2 b)=true:=rfl;have bN:b<4294967296^2:=by have:(4294967296:Nat)^2=18446744073709551616:=rfl;omega
 generalize hj:n/2^(k+1)=j at*;generalize hj':n/2^k=j' at*;obtain⟨g,hy⟩:=h;rw[hj] at hy;rcases hy with ⟨j0,ht',hh⟩ | ⟨j1,b0,ht',hh⟩ | ⟨j1,b0,m,V,ht',hh⟩
 ·have hbit:=ht j0;have j'1:j'=1:=by omega
  simp only at ht' hh;rw[← hi] at ht';subst ht' hh;have hbt:(ZiB (n:Int) i==1)=true:=by rw[eb,hbit];rfl
  have n1:Zl (dg 2 ((1:Nat):Int))=1:=by decide
  have r1:=Zkt (H:=Q2 b) (b:=0) (V:=1) (m:=2) rfl (by decide) (by omega);have z1:(!decide (Zl (dg 2 ((1:Nat):Int))=0∨Zl (dg 2 ((1:Nat):Int))=0) && Nat.ble (Zl (dg 2 ((1:Nat):Int))+Zl (dg 2 ((1:Nat):Int))) 8192)=true:=Zg4 (by omega) (by omega) (by omega);by_cases b0:0<b
  ·have e2:Zl (dg (Zl (dg 2 ((1:Nat):Int))+Zl (dg 2 ((1:Nat):Int))) ((1:Nat):Int))=1:=by decide
   have r2:=Zkt (H:=Q3 b (Zl (dg 2 ((1:Nat):Int))+Zl (dg 2 ((1:Nat):Int))) 1) (b:=2) (V:=1) (m:=Zl (dg 2 ((1:Nat):Int))+Zl (dg 2 ((1:Nat):Int))) rfl (by decide) (by omega);have r3:=Zkt (H:=Q3 b (Zl (dg 2 ((1:Nat):Int))+Zl (dg 2 ((1:Nat):Int))) 1) (b:=1) (V:=b) (m:=2) rfl bN (by omega);have pb:=ZiD b0;have hg:=Z6u n i b 1 (1*b) g;rw[ei] at hg;have z2:=Zg4 (x:=Zl (dg (Zl (dg 2 ((1:Nat):Int))+Zl (dg 2 ((1:Nat):Int))) ((1:Nat):Int))) (y:=Zl (dg 2 (b:Int))) (by omega) (by omega) (by omega);have hp:pM b 1=Zl (dg (Zl (dg 2 ((1:Nat):Int))+Zl (dg 2 ((1:Nat):Int))) ((1:Nat):Int))+Zl (dg 2 (b:Int)):=by
    rw[e2,tb];unfold pM;rw[if_neg (by omega),if_pos (by omega),Nat.sub_self,Nat.pow_zero];rw[show nw 1=1 from by
     have:=ZqE (m:=2) (V:=1) (by decide) (by omega);rw[← this];exact n1]
   have run:=Ze (s0:=s) ZiC hg (Za (ZvJ r2 r3) (Za (rX r2) (Za (rX r3) (Za z2 (Za hbt (Za hiF (Za (ZvJ r1 r1) (Za (rX r1) (Za (rX r1) (Za z1 (Z4 (Xa hi0))))))))))));rw[← hp,Nat.one_mul] at run;have:=run.kept (k:=2) (b:=3) (base:=[w32 2 b,w32 2 1]) (y:=w32 (pM b 1) b) (front':=qF b n (s32 2 (pM b 1) b) (s32 1 2 b) ((k:Int)-1)) rfl (by kernel_rfl) (ZvT b rfl rfl) rfl (by omega) (ZD _) (ZvU _ _ _ rfl rfl);refine this.mono fun e z hz=> ?_;obtain⟨rfl,⟨g',e1⟩,e2'⟩:=hz;refine⟨rfl,g',.inr (.inl ⟨by omega,b0,?_,?_⟩)⟩
   ·rw[hj',j'1,Nat.pow_one];exact e1
   ·rw[hj',j'1,Nat.pow_one];exact e2'
  ·have bz:b=0:=by omega
   have hg:=Z6v n i b 1 g;rw[ei] at hg;have run:=Ze (s0:=s) ZiC hg (Za (Xa (.inr (by rw[tb,bz,ZvR]))) (Za hbt (Za hiF (Za (ZvJ r1 r1) (Za (rX r1) (Za (rX r1) (Za z1 (Z4 (Xa hi0)))))))));refine run.mono fun e z hz=> ?_;obtain⟨rfl,⟨g',e1⟩,e2'⟩:=hz;exact⟨rfl,g',.inr (.inr ⟨by rw[hj'];omega,bz,_,_,e1,e2'⟩)⟩
 ·simp only at ht' hh;rw[← hi] at ht';have hm:pM b j=pM b j:=rfl;obtain⟨m,em⟩:∃ m,m=pM b j:=⟨_,rfl⟩;obtain⟨V,eV⟩:∃ V,V=b^j:=⟨_,rfl⟩;rw[← em,← eV] at ht' hh;obtain⟨p1,p2⟩:=Z1p hw hb (show j≤n by omega) j1;rw[← em,← eV] at p1;rw[← em] at p2;subst ht' hh;have V0:0<V:=by rw[eV];exact Nat.pow_pos b0
  have tV:=ZqE p1 p2;have pV:=ZiD V0;have lV:nw V≤400:=by rw[eV];exact hw j (by omega)
  have r1:=Zkt (H:=Q3 b m V) (b:=2) (V:=V) (m:=m) rfl p1 p2;have z1:=Zg4 (x:=Zl (dg m (V:Int))) (y:=Zl (dg m (V:Int))) (by omega) (by omega) (by omega);have eS:V*V=b^(2*j):=by rw[eV,← Nat.pow_add];congr 1;omega
  by_cases hbit:j' % 2=1
  ·have hbt:(ZiB (n:Int) i==1)=true:=by rw[eb,hbit];rfl
   have j'e:j'=2*j+1:=by omega
   have pb:=ZiD b0;obtain⟨S,hS⟩:∃ S,S=V*V:=⟨_,rfl⟩;have sB:S<4294967296^(Zl (dg m (V:Int))+Zl (dg m (V:Int))):=by
    rw[hS,Nat.pow_add,tV];exact Nat.mul_lt_mul'' (ZmS V) (ZmS V)
   have sm:Zl (dg m (V:Int))+Zl (dg m (V:Int))≤1000:=by omega
   have tS:=ZqE sB sm;have S0:0<S:=by rw[hS];exact Nat.mul_pos V0 V0
   have pS:=ZiD S0;have lS:nw S≤400:=by rw[hS,eS];exact hw (2*j) (by omega)
   have r2:=Zkt (H:=Q4 b m V (Zl (dg m (V:Int))+Zl (dg m (V:Int))) S) (b:=3) (V:=S) (m:=Zl (dg m (V:Int))+Zl (dg m (V:Int))) rfl sB sm;have r3:=Zkt (H:=Q4 b m V (Zl (dg m (V:Int))+Zl (dg m (V:Int))) S) (b:=1) (V:=b) (m:=2) rfl bN (by omega);have z2:=Zg4 (x:=Zl (dg (Zl (dg m (V:Int))+Zl (dg m (V:Int))) (S:Int))) (y:=Zl (dg 2 (b:Int))) (by omega) (by omega) (by omega);have rm:=ZvJ r1 r1;rw[← hS] at rm;have hg:=Z6t n i b m V S (S*b) g;rw[ei] at hg;have hp:pM b j'=Zl (dg (Zl (dg m (V:Int))+Zl (dg m (V:Int))) (S:Int))+Zl (dg 2 (b:Int)):=by
    rw[tS,tb];unfold pM;rw[if_neg (by omega),if_pos hbit,hS,eS,j'e,Nat.add_sub_cancel]
   have run:=Ze (s0:=s) ZiC hg (Za (ZvJ r2 r3) (Za (rX r2) (Za (rX r3) (Za z2 (Za hbt (Za hiF (Za rm (Za (rX r1) (Za (rX r1) (Za z1 (Z4 (Xa hi0))))))))))));have hW:S*b=b^j':=by rw[hS,eS,j'e,Nat.pow_succ]
   rw[← hp,hW] at run;have:=run.kept (k:=2) (b:=4) (base:=[w32 2 b,w32 2 1]) (y:=w32 (pM b j') (b^j')) (front':=qF b n (s32 2 (pM b j') (b^j')) (s32 1 2 b) ((k:Int)-1)) rfl (by kernel_rfl) (ZvT b rfl rfl) rfl (by omega) (ZD _) (ZvU _ _ _ rfl rfl);refine this.mono fun e z hz=> ?_;obtain⟨rfl,⟨g',e1⟩,e2'⟩:=hz;refine⟨rfl,g',.inr (.inl ⟨by omega,b0,?_,?_⟩)⟩
   ·rw[hj'];exact e1
   ·rw[hj'];exact e2'
  ·have hbt:(ZiB (n:Int) i==1)=false:=by rw[eb,show j' % 2=0 by omega];rfl
   have j'e:j'=2*j:=by omega
   have hg:=Z6s n i b m V (V*V) g;rw[ei] at hg;have hp:pM b j'=Zl (dg m (V:Int))+Zl (dg m (V:Int)):=by
    rw[tV,eV];unfold pM;rw[if_neg (by omega),if_neg hbit,j'e,Nat.mul_div_cancel_left _ (by omega)]
   have run:=Ze (s0:=s) ZiC hg (Za hbt (Za hiF (Za (ZvJ r1 r1) (Za (rX r1) (Za (rX r1) (Za z1 (Z4 (Xa hi0))))))));have hW:V*V=b^j':=by rw[eS,j'e]
   rw[← hp,hW] at run;have:=run.kept (k:=2) (b:=3) (base:=[w32 2 b,w32 2 1]) (y:=w32 (pM b j') (b^j')) (front':=qF b n (s32 2 (pM b j') (b^j')) (s32 1 2 b) ((k:Int)-1)) rfl (by kernel_rfl) (ZvT b rfl rfl) rfl (by omega) (ZD _) (ZvU _ _ _ rfl rfl);refine this.mono fun e z hz=> ?_;obtain⟨rfl,⟨g',e1⟩,e2'⟩:=hz;refine⟨rfl,g',.inr (.inl ⟨by omega,b0,?_,?_⟩)⟩
   ·rw[hj'];exact e1
   ·rw[hj'];exact e2'
 ·simp only at ht' hh;rw[← hi] at ht';subst ht' hh;by_cases hbit:j' % 2=1
  ·have hbt:(ZiB (n:Int) i==1)=true:=by rw[eb,hbit];rfl
   have hg:=Z6x n i b m V g;rw[ei] at hg;refine (Ze (s0:=s) ZiC hg (Za (Xa (.inl rfl)) (Za hbt (Za hiF (Za (by decide) (Z4 (Xa hi0))))))).mono fun e z hz=> ?_;obtain⟨rfl,⟨g',e1⟩,e2'⟩:=hz;exact⟨rfl,g',.inr (.inr ⟨by rw[hj'];omega,b0,m,V,e1,e2'⟩)⟩
  ·have hbt:(ZiB (n:Int) i==1)=false:=by rw[eb,show j' % 2=0 by omega];rfl
   have hg:=Z6w n i b m V g;rw[ei] at hg;refine (Ze (s0:=s) ZiC hg (Za hbt (Za hiF (Za (by decide) (Z4 (Xa hi0)))))).mono fun e z hz=> ?_;obtain⟨rfl,⟨g',e1⟩,e2'⟩:=hz;exact⟨rfl,g',.inr (.inr ⟨by rw[hj'];omega,b0,m,V,e1,e2'⟩)⟩
end Go.Proofs.YtjlponbdflkbjaaGreatDoor.Na
namespace Go.Proofs.YtjlponbdflkbjaaGreatDoor.Na
open Go.Proofs.Tryz
open Go.KRun Go.Nt
set_option maxRecDepth 100000
def fN (k:Int) (e:Value):List Value:=[Zp,i6' k,undef,undef,Zp,e]
theorem ZqH (k:Int):Zg (evC (Zr prog Zf Zn hcS) 200 false (Zs f80) ([Zp,i6' k]++List.replicate 45 undef,⟨0,[]⟩,[cmp true]) ⟨[],[],[]⟩) 6 41 (some none) (fN k (Zcu 1)) ⟨0,[]⟩ [(decide (k<0),true)]:=by and_intros<;>kernel_rfl
theorem ZqI (k:Int):Zg (evC (Zr prog Zf Zn hcS) 200 false (Zs f80) ([Zp,i6' k]++List.replicate 45 undef,⟨0,[]⟩,[cmp false]) ⟨[],[],[]⟩) 6 41 (some none) (fN k .nilIface) ⟨0,[]⟩ [(decide (k<0),false)]:=by and_intros<;>kernel_rfl
def Z4v (d:Bool):Value:=match d with | true=>Zcu 1 | false=> .nilIface
theorem ZmT (k:Int) (d:Bool) (hd:decide (k<0)=d):Runs (Zr prog Zf Zn hcS) (Zs f80) ([Zp,i6' k]++List.replicate 45 undef,⟨0,[]⟩,[]) fun e' y=>(e'=none∨e'=some none)∧ZV prog f80 y.1 y.2.1=some (.tuple #[Zp,Z4v d]):=by
 cases d with
 | true=>
  refine (Zb (Zh Zd Zis) (ZqH k) (Zt hd)).mono fun e' y he=> ?_;obtain⟨rfl,⟨g,e2⟩,e3⟩:=he;refine⟨.inr rfl,?_⟩;rw[e2,e3];rfl
 | false=>
  refine (Zb (Zh Zd Zis) (ZqI k) (Zt hd)).mono fun e' y he=> ?_;obtain⟨rfl,⟨g,e2⟩,e3⟩:=he;refine⟨.inr rfl,?_⟩;rw[e2,e3];rfl
def ZjW:Zad:=fun vals h s=>
 match vals with
 | [.slice none 0 0,.int .i64 k]=>
  match s with
  | .inr (.inr (.inr (.inl d)))::s'=>some (.tuple #[Zp,Z4v d],h,s',[(decide (k<0),d)])
  | _=>none
 | _=>ZuO vals h s
theorem ZbW:Z8 80 ZjW:=by
 intro vals h s v h' s' lg hg hl m B w E hv;unfold ZjW at hg;split at hg
 ·rename_i k;split at hg
  ·rename_i d s2;cases hg;have hd:=hl _ Xf;have e0:rn (fun b=>b) (.tuple #[Zp,Z4v d])= .tuple #[Zp,Z4v d]:=by cases d<;>exact Zd5 (by rfl)
   have:=zi (T:=Zr prog Zf Zn hcS) func80 Zf6 (h0:=⟨0,[]⟩) ⟨rfl,fun b x hb=>absurd (Hp.blk_lt hb) (Nat.not_lt_zero _)⟩ (vals:=[Zp,i6' k]) (fun v hv=>by
    simp only[List.mem_cons,List.not_mem_nil,or_false] at hv;rcases hv with rfl | rfl<;>rfl) (by cases d<;>rfl) (ZmT k d hd) E (s:=fun b=>b) (fun i hi=>absurd hi (Nat.not_lt_zero _)) (fun i x hi=>absurd (Hp.blk_lt hi) (Nat.not_lt_zero _))
   rw[e0] at this;exact this.mono fun e w' he=>⟨m,he.1,he.2⟩
  ·cases hg
 ·exact ZuP _ _ _ _ _ _ _ hg hl m B w E hv
end Go.Proofs.YtjlponbdflkbjaaGreatDoor.Na
namespace Go.Proofs.YtjlponbdflkbjaaGreatDoor.Na
open Go.KRun Go.Nt
set_option maxRecDepth 100000
set_option linter.unusedVariables false
def sM (n:Nat) (k:Int):Nat:=k.toNat/32+(n+1)
def ZvV:Zad:=fun vals h s=>
 match vals,s with
 | [.slice p n c,.int .i64 k],.inr (.inr (.inr (.inl true)))::s'=>some (.tuple #[Zp,Zcu 1],h,s',[(Zai h p n c,true),(ZU (Zq h p n) || decide (k<0),true)])
 | [.slice p n c,.int .i64 k],.inr (.inr (.inr (.inl false))):: .inr (.inr (.inr (.inl true)))::s'=>some (.tuple #[Zp,.nilIface],h,s',[(Zai h p n c,true),(ZU (Zq h p n) || decide (k<0),false),(decide (n=0),true)])
 | [.slice p n c,.int .i64 k],.inr (.inr (.inr (.inl false))):: .inr (.inr (.inr (.inl false))):: .inr (.inr (.inr (.inl true)))::s'=>some (.tuple #[Zp,Zcu 2],h,s',[(Zai h p n c,true),(ZU (Zq h p n) || decide (k<0),false),(decide (n=0),false),(decide (k>262144-Zdy (Zq h p n)),true)])
 | [.slice p n c,.int .i64 k],.inr (.inr (.inr (.inl false))):: .inr (.inr (.inr (.inl false))):: .inr (.inr (.inr (.inl false))):: .inr (.inl V)::s'=>some (.tuple #[sl h.n 0 (Zl (dg (sM n k) V)) (sM n k),.nilIface],h.push (wU (dg (sM n k) V)) tU,s',[(decide (ZgT (Zq h p n) k.toNat=dg (sM n k) V),true),(Zai h p n c,true),(ZU (Zq h p n) || decide (k<0),false),(decide (n=0),false),(decide (k>262144-Zdy (Zq h p n)),false)])
 | _,_=>none
theorem ZqJ:Z8 80 ZvV:=by
 intro vals h s v h' s' lg hg hl m B w E hv;unfold ZvV at hg;split at hg
 ·rename_i p n c k s2;cases hg;have l1:=hl _ (Xe);have l2:=hl _ (Xd _ Xf);simp only at l1 l2;rcases ZM l1 with ⟨rfl,rfl,rfl,e0⟩ | ⟨b,o,x,rfl,hx,r1,e0⟩<;>rw[e0] at l2
  ·rw[Zc0,Bool.false_or] at l2;exact ZbW _ h [cmp true] _ _ [] [(decide (k<0),true)] rfl (Z4 l2) m B w E hv
  ·exact ZbW _ h [cmp true] _ _ [] [(Z6 x.2 x.1 o n c,true),(ZU (Zx x.1 o n) || decide (k<0),true)] (by simp only[ZjW,ZuO,hx]) (Za r1 (Z4 l2)) m B w E hv
 ·rename_i p n c k s2;cases hg;have l1:=hl _ (Xe);have l2:=hl _ (Xd _ Xe);have l3:=hl _ (Xd _ (Xd _ Xf));simp only at l1 l2 l3;rcases ZM l1 with ⟨rfl,rfl,rfl,e0⟩ | ⟨b,o,x,rfl,hx,r1,e0⟩<;>rw[e0] at l2
  ·rw[Zc0,Bool.false_or] at l2;exact ZbW _ h [cmp false] _ _ [] [(decide (k<0),false)] rfl (Z4 l2) m B w E hv
  ·exact ZbW _ h [cmp false,cmp true] _ _ [] [(Z6 x.2 x.1 o n c,true),(ZU (Zx x.1 o n) || decide (k<0),false),(decide (n=0),true)] (by simp only[ZjW,ZuO,hx]) (Za r1 (Za l2 (Z4 l3))) m B w E hv
 ·rename_i p n c k s2;cases hg;have l1:=hl _ (Xe);have l2:=hl _ (Xd _ Xe);have l3:=hl _ (Xd _ (Xd _ Xe));have l4:=hl _ (Xd _ (Xd _ (Xd _ Xf)));simp only at l1 l2 l3 l4;rcases ZM l1 with ⟨rfl,rfl,rfl,e0⟩ | ⟨b,o,x,rfl,hx,r1,e0⟩
  ·exact absurd rfl (of_decide_eq_false l3)
  ·rw[e0] at l2 l4;exact ZbW _ h [cmp false,cmp false,cmp true] _ _ [] [(Z6 x.2 x.1 o n c,true),(ZU (Zx x.1 o n) || decide (k<0),false),(decide (n=0),false),(decide (k>262144-Zdy (Zx x.1 o n)),true)] (by simp only[ZjW,ZuO,hx]) (Za r1 (Za l2 (Za l3 (Z4 l4)))) m B w E hv
 ·rename_i p n c k V s2;cases hg;have l0:=Xc (hl _ (Xe));have l1:=hl _ (Xd _ Xe);have l2:=hl _ (Xd _ (Xd _ Xe));have l3:=hl _ (Xd _ (Xd _ (Xd _ Xe)));have l4:=hl _ (Xd _ (Xd _ (Xd _ (Xd _ Xf))));simp only at l1 l2 l3 l4;rcases ZM l1 with ⟨rfl,rfl,rfl,e0⟩ | ⟨b,o,x,rfl,hx,r1,e0⟩
  ·exact absurd rfl (of_decide_eq_false l3)
  ·rw[e0] at l0 l2 l4;rw[← l0];exact ZbW _ h [cmp false,cmp false,cmp false] _ _ [] [(Z6 x.2 x.1 o n c,true),(ZU (Zx x.1 o n) || decide (k<0),false),(decide (n=0),false),(decide (k>262144-Zdy (Zx x.1 o n)),false)] (by simp only[ZjW,ZuO,hx];rfl) (Za r1 (Za l2 (Za l3 (Z4 l4)))) m B w E hv
 ·cases hg
def ZvW:Zad:=fun vals h s=>
 match vals,s with
 | [.slice p n c],.inr (.inl l)::s'=>some (i6' l,h,s',[(decide (Zdy (Zq h p n)=l),true),(Zai h p n c,true)])
 | _,_=>none
theorem ZqK:Z8 79 ZvW:=by
 intro vals h s v h' s' lg hg hl m B w E hv;unfold ZvW at hg;split at hg
 ·rename_i p n c l s2;cases hg;have l0:=Xc (hl _ (Xe));have l1:=hl _ (Xd _ Xf);simp only at l1;rcases ZM l1 with ⟨rfl,rfl,rfl,e0⟩ | ⟨b,o,x,rfl,hx,r1,e0⟩<;>rw[e0] at l0<;>rw[← l0]
  ·exact Zhj _ h [] _ _ [] [] rfl (fun x hx=>by cases hx) m B w E hv
  ·exact Zhj _ h [] _ _ [] [(Z6 x.2 x.1 o n c,true)] (by simp only[Z4o,hx]) (Z4 r1) m B w E hv
 ·cases hg
end Go.Proofs.YtjlponbdflkbjaaGreatDoor.Na
namespace Go.Proofs.YtjlponbdflkbjaaGreatDoor.Na
open Go.Proofs.Tryz
open Go.IntKind
open Go.KRun Go.Nt
set_option maxRecDepth 100000
set_option linter.unusedVariables false
theorem ZmU {b n:Nat}(hb:b<4294967296) (hn:n≤2000) (hw:∀ j,j≤n→nw (b^j)≤400):RunsW (Zr prog Zf ZaM hcQ) (ZW (qP f76) (.seq (.seq (qI f76) (.block 0 (.loop (qL f76)))) (qE f76))) ([.int .u32 (b:Int),.int .i64 (n:Int)]++List.replicate 54 undef,⟨0,[]⟩,[]) fun e z=>(e=none∨e=some none)∧((¬ (b=0∧1≤n)∧∃ k,ZV prog f76 z.1 z.2.1=some (.tuple #[s32 k (pM b n) (b^n),.nilIface])∧∃ r,z.2.1.blk? k=some (wU (dg (pM b n) ((b^n:Nat):Int))++r,tU))∨((b=0∧1≤n)∧ZV prog f76 z.1 z.2.1=some (.tuple #[Zp,.nilIface]))):=by
 have eb:u64.wrap (b:Int)=(b:Int):=by simp [IntKind.wrap,IntKind.bits,IntKind.signed];omega
 have en:u64.wrap (n:Int)=(n:Int):=by simp [IntKind.wrap,IntKind.bits,IntKind.signed];omega
 have hp:=Z1n b n;rw[eb] at hp;have hi:=Z9s b n;rw[en,Xg] at hi;have hl9:bitLen n≤11:=by
  obtain⟨s1,s2⟩:=bitLen_spec n;rcases Nat.lt_or_ge 11 (bitLen n) with h | h
  ·have h0:n≠0:=by rintro rfl;simp [bitLen] at h
   have h1:=s2 h0;have h2:2^11≤2^(bitLen n-1):=Nat.pow_le_pow_right (by omega) (by omega);have h3:(2:Nat)^11=2048:=rfl;omega
  ·exact h
 have hz:n/2^bitLen n=0:=Nat.div_eq_of_lt (bitLen_spec n).1;have ew:i64.wrap (((bitLen n:Nat):Int)-1)=((bitLen n:Nat):Int)-1:=Zw (by omega) (by omega);rw[ew] at hi;refine Z0 ZiC hp (Za (Xa ⟨by omega,by omega⟩) (Za (by decide) (Za (Xb (by omega)) (Z4 (Xb (by omega)))))) fun g=> ?_;refine RunsW.seq (P1:=fun e y=>e=none∧nS b n 0 y) ?_ ?_ (fun e y hy=>by cases hy.1)
 ·refine RunsW.seq (Ze ZiC (hi (s32 1 2 b) g (Q2 b)) (Z4 (Xa ⟨by omega,by omega⟩))) ?_ (fun e y hy=>by cases hy.1);rintro⟨t,h',s⟩ ⟨_,⟨g',ht⟩,hh⟩;simp only at ht hh;subst ht hh;have lp:=RunsW.forLoop (T:=Zr prog Zf ZaM hcQ) (c:=qL f76) (id:=0) (P:=nS b n 0) (R:=fun _=>False) (fun k y=>k≤bitLen n∧nS b n k y) (x:=(qF b n (s32 0 2 1) (s32 1 2 b) (((bitLen n:Nat):Int)-1)++tl 46 g',Q2 b,s)) ?_ (n:=bitLen n) ⟨Nat.le_refl _,g',.inl ⟨hz,rfl,rfl⟩⟩
  ·refine lp.mono fun e z hz=> ?_
   match e,hz with
   | none,hz=>exact⟨rfl,hz⟩
   | some none,hz=>exact hz.elim
   | some (some _),hz=>exact hz.elim
  ·rintro k y ⟨hk,hy⟩
   match k,hk,hy with
   | k+1,hk,hy=>
    refine (ZqG hb hn hw (by omega) hy fun h0=> ?_).mono fun e z hz=> ?_
    ·obtain⟨s1,s2⟩:=bitLen_spec n;have hn0:n≠0:=by
      rintro rfl;simp [bitLen] at hk
     have h1:=s2 hn0;have h2:bitLen n=k+1:=by
      rcases Nat.lt_or_ge (k+1) (bitLen n) with h | h
      ·exfalso
       have h3:2^(k+1)≤2^(bitLen n-1):=Nat.pow_le_pow_right (by omega) (by omega);have h4:0<n/2^(k+1):=Nat.div_pos (by omega) (Nat.pow_pos (by omega));omega
      ·omega
     rw[h2,Nat.add_sub_cancel] at h1;have h5:0<n/2^k:=Nat.div_pos h1 (Nat.pow_pos (by omega));have h6:n/2^(k+1)=n/2^k/2:=by rw[Nat.pow_succ,← Nat.div_div_eq_div_mul]
     omega
    ·obtain⟨rfl,hz⟩:=hz;exact⟨k,by omega,by omega,hz⟩
   | 0,_,hy=>
    obtain⟨t,h',s⟩:=y;have out:∀ (P:Value) (h:Hp) (g:Nat→Value) (s:List Dec),RunsW (Zr prog Zf ZaM hcQ) (qL f76) (qF b n P (s32 1 2 b) (((0:Nat):Int)-1)++tl 46 g,h,s) fun e z=>e=some (some 0)∧(∃ g,z.1=qF b n P (s32 1 2 b) (((0:Nat):Int)-1)++tl 46 g)∧z.2.1=h:=fun P h g s=>
     Ze ZiC (Z9t n (((0:Nat):Int)-1) b P (s32 1 2 b) h g) (Z4 (by decide))
    obtain⟨g,hy⟩:=hy;rcases hy with ⟨j0,ht,hh⟩ | ⟨j1,b0,ht,hh⟩ | ⟨j1,b0,m,V,ht,hh⟩<;>simp only at ht hh<;>subst ht hh
    ·refine (out _ _ g s).mono fun e z hz=> ?_;obtain⟨rfl,⟨g',e1⟩,e2⟩:=hz;exact⟨rfl,g',.inl ⟨j0,e1,e2⟩⟩
    ·refine (out _ _ g s).mono fun e z hz=> ?_;obtain⟨rfl,⟨g',e1⟩,e2⟩:=hz;exact⟨rfl,g',.inr (.inl ⟨j1,b0,e1,e2⟩)⟩
    ·refine (out _ _ g s).mono fun e z hz=> ?_;obtain⟨rfl,⟨g',e1⟩,e2⟩:=hz;exact⟨rfl,g',.inr (.inr ⟨j1,b0,m,V,e1,e2⟩)⟩
 ·rintro⟨t,h',s⟩ ⟨_,g,hy⟩;rw[Nat.pow_zero,Nat.div_one] at hy;rcases hy with ⟨j0,ht,hh⟩ | ⟨j1,b0,ht,hh⟩ | ⟨j1,b0,m,V,ht,hh⟩<;>simp only at ht hh<;>subst ht hh
  ·refine (Ze ZiC (Z6y n _ b _ _ _ g) (fun x hx=>by cases hx)).mono fun e z hz=> ?_;obtain⟨rfl,⟨g',e1⟩,e2⟩:=hz;subst j0;have e3:pM b 0=2:=rfl;rw[e3,Nat.pow_zero];exact⟨.inr rfl,.inl ⟨by omega,0,by rw[e1,e2];rfl,[],by rw[e2,List.append_nil];rfl⟩⟩
  ·refine (Ze ZiC (Z6y n _ b _ _ _ g) (fun x hx=>by cases hx)).mono fun e z hz=> ?_;obtain⟨rfl,⟨g',e1⟩,e2⟩:=hz;exact⟨.inr rfl,.inl ⟨by omega,2,by rw[e1,e2];rfl,[],by rw[e2,List.append_nil];rfl⟩⟩
  ·refine (Ze ZiC (Z6y n _ b _ _ _ g) (fun x hx=>by cases hx)).mono fun e z hz=> ?_;obtain⟨rfl,⟨g',e1⟩,e2⟩:=hz;exact⟨.inr rfl,.inr ⟨⟨b0,j1⟩,by rw[e1,e2];rfl⟩⟩
def ZyW (b n:Int):Bool:=decide (0≤b∧b<4294967296∧0≤n∧(n≤300∨(b=10∧n≤2000)))
theorem ZmV {b n:Nat}(h:ZyW b n=true):b<4294967296∧n≤2000∧∀ j,j≤n→nw (b^j)≤400:=by
 have q:=Xc h;rcases q.2.2.2 with h1 | ⟨h1,h2⟩
 ·exact⟨by omega,by omega,ZqF (by omega) (by omega)⟩
 ·have e:b=10:=by omega
  rw[e];exact⟨by omega,by omega,Ztb (by omega)⟩
def pMi (b n:Int):Nat:=pM b.toNat n.toNat
def ZvX:Zad:=fun vals h s=>
 match vals,s with
 | [.int .u32 b,.int .i64 n],.inr (.inr (.inr (.inl true)))::s'=>some (.tuple #[Zp,Zcu 1],h,s',[(decide (n<0∨n>1000000),true)])
 | [.int .u32 b,.int .i64 n],.inr (.inr (.inr (.inl false))):: .inr (.inr (.inr (.inl true)))::s'=>some (.tuple #[Zp,.nilIface],h,s',[(ZyW b n,true),(decide (b=0∧1≤n),true)])
 | [.int .u32 b,.int .i64 n],.inr (.inr (.inr (.inl false))):: .inr (.inr (.inr (.inl false))):: .inr (.inl V)::s'=>some (.tuple #[sl h.n 0 (Zl (dg (pMi b n) V)) (pMi b n),.nilIface],h.push (wU (dg (pMi b n) V)) tU,s',[(decide (((b.toNat^n.toNat:Nat):Int)=V),true),(ZyW b n,true),(decide (b=0∧1≤n),false)])
 | _,_=>none
theorem ZqL:Z8 76 ZvX:=by
 intro vals h s v h' s' lg hg hl m B w E hv;have hr0:(⟨0,[]⟩:Hp).rows:=⟨rfl,fun b x hx=>by have:b<0:=Hp.blk_lt hx;omega⟩;unfold ZvX at hg;split at hg
 ·rename_i b n s2;cases hg;have l1:=Xc (hl _ Xf);have r:RunsW (Zr prog Zf ZaM hcQ) (Zs f76) ([.int .u32 b,.int .i64 n]++List.replicate 54 undef,⟨0,[]⟩,[]) fun e z=>(e=none∨e=some none)∧ZV prog f76 z.1 z.2.1=some (.tuple #[Zp,Zcu 1]):=by
   by_cases h0:n<0
   ·refine (Ze ZiC (ZvP b n) (Z4 (Xa h0))).mono fun e z hz=> ?_;obtain⟨rfl,⟨g',e1⟩,e2⟩:=hz;exact⟨.inr rfl,by rw[e1,e2];rfl⟩
   ·refine (Ze ZiC (ZvQ b n) (Za (Xa (l1.resolve_left h0)) (Z4 (Xb h0)))).mono fun e z hz=> ?_;obtain⟨rfl,⟨g',e1⟩,e2⟩:=hz;exact⟨.inr rfl,by rw[e1,e2];rfl⟩
  have:=ZB (T:=Zr prog Zf ZaM hcQ) func76 ZqD hr0 (vals:=[.int .u32 b,.int .i64 n]) (fun v hv=>by
   simp only[List.mem_cons,List.not_mem_nil,or_false] at hv;rcases hv with rfl | rfl<;>rfl) (v:= .tuple #[Zp,Zcu 1]) (by rfl) r E (s:=fun i=>i) (fun i x hx _=>by have:i<0:=Hp.blk_lt hx;omega)
  exact this
 ·rename_i b n s2;cases hg;have l2':ZyW b n=true:=hl _ Xe;have l2:=Xc l2';have l3:=Xc (hl _ (Xd _ Xf));obtain⟨b',rfl⟩:=Int.eq_ofNat_of_zero_le l2.1;obtain⟨n',rfl⟩:=Int.eq_ofNat_of_zero_le l2.2.2.1;obtain⟨w1,w2,w3⟩:=ZmV l2';have r:=(ZmU (b:=b') (n:=n') w1 w2 w3).mono (P':=fun e z=>(e=none∨e=some none)∧ZV prog f76 z.1 z.2.1=some (.tuple #[Zp,.nilIface])) fun e z hz=>⟨hz.1,by
   rcases hz.2 with ⟨q,_⟩ | ⟨_,q⟩
   ·exact absurd (show b'=0∧1≤n' by omega) q
   ·exact q⟩
  have:=ZB (T:=Zr prog Zf ZaM hcQ) func76 ZmR hr0 (vals:=[.int .u32 (b':Int),.int .i64 (n':Int)]) (fun v hv=>by
   simp only[List.mem_cons,List.not_mem_nil,or_false] at hv;rcases hv with rfl | rfl<;>rfl) (v:= .tuple #[Zp,.nilIface]) (by rfl) r E (s:=fun i=>i) (fun i x hx _=>by have:i<0:=Hp.blk_lt hx;omega)
  exact this
 ·rename_i b n V s2;cases hg;have l1:=Xc (hl _ Xe);have l2':ZyW b n=true:=hl _ (Xd _ Xe);have l2:=Xc l2';have l3:=of_decide_eq_false (hl _ (Xd _ (Xd _ Xf)));obtain⟨b',rfl⟩:=Int.eq_ofNat_of_zero_le l2.1;obtain⟨n',rfl⟩:=Int.eq_ofNat_of_zero_le l2.2.2.1;obtain⟨w1,w2,w3⟩:=ZmV l2';rw[Xg,Xg] at l1;rw[← l1];have ep:pMi (b':Int) (n':Int)=pM b' n':=by unfold pMi;rw[Xg,Xg]
  rw[ep];have r:=(ZmU (b:=b') (n:=n') w1 w2 w3).mono (P':=fun e z=>(e=none∨e=some none)∧∃ k,ZV prog f76 z.1 z.2.1=some (.tuple #[s32 k (pM b' n') (b'^n'),.nilIface])∧∃ r,z.2.1.blk? k=some (wU (dg (pM b' n') ((b'^n':Nat):Int))++r,tU)) fun e z hz=>⟨hz.1,by
   rcases hz.2 with ⟨_,q⟩ | ⟨q,_⟩
   ·exact q
   ·exact absurd q (by omega)⟩
  exact ZcW (T:=Zr prog Zf ZaM hcQ) func76 ZmR hr0 (vals:=[.int .u32 (b':Int),.int .i64 (n':Int)]) (fun v hv=>by
   simp only[List.mem_cons,List.not_mem_nil,or_false] at hv;rcases hv with rfl | rfl<;>rfl) (v:=fun k=> .tuple #[s32 k (pM b' n') (b'^n'),.nilIface]) (Zbb _) (by kernel_rfl) r (fun k=>by simp [oc,oc2,oc1,s32,sl]) E (s:=fun i=>i) (fun i x hx _=>by have:i<0:=Hp.blk_lt hx;omega) (fun k=>by simp [rn,rn2,rn1,s32,sl])
 ·cases hg
end Go.Proofs.YtjlponbdflkbjaaGreatDoor.Na
namespace Go.Rn
def upR (m:Int) (neg odd:Bool) (c:Int):Bool:=
 if c=0 then false else if m=2 then false else if m=3 then !neg else if m=4 then neg else if m=1 then decide (2≤c) else decide (2<c) || (decide (c=2) && odd)
def zD (r P:Nat):Int:=if r=0 then 0 else if 2*r<P then 1 else if 2*r=P then 2 else 3
def odd (q:Nat):Bool:=decide (q % 2=1)
def rq (m:Int) (neg:Bool) (T k:Nat):Nat:=T/2^k+(if upR m neg (odd (T/2^k)) (zD (T % 2^k) (2^k))=true then 1 else 0)
def toQ (m:Int) (neg:Bool) (T:Nat) (E e:Int):Nat:=if e≤E then T*2^(E-e).toNat else rq m neg T (e-E).toNat
def toL (T:Nat) (E e:Int):Bool:=if e≤E then false else decide (T % 2^(e-E).toNat≠0)
def lgN (T:Nat) (E:Int):Int:=E+(bitLen T:Nat)-1
def z5 (T:Nat) (E:Int):Int:=if lgN T E-52≤ -1074 then -1074 else lgN T E-52
def p0 (m:Int) (neg:Bool) (T:Nat) (E:Int):Int:=(z5 T E+1074)*4503599627370496+(toQ m neg T E (z5 T E):Nat)
def ZdB (m:Int) (neg:Bool) (T:Nat) (E:Int):Bool:=if lgN T E= -1023 then decide (toQ m neg T E (-1075)<9007199254740992) else decide (lgN T E< -1022)
def bey (m:Int) (neg:Bool):Int:=if upR m neg true 3=true then 9218868437227405312 else 9218868437227405311
def rnP (m:Int) (neg:Bool) (T:Nat) (E:Int):Int:=if T=0 then 0 else if 9218868437227405312≤p0 m neg T E then bey m neg else p0 m neg T E
def rnF (m:Int) (neg:Bool) (T:Nat) (E:Int):Int:=if T=0 then 0 else if 9218868437227405312≤p0 m neg T E then 20 else if toL T E (z5 T E)=true then (if ZdB m neg T E=true then 24 else 16) else 0
theorem Za1 {T:Nat}(h:T≠0):1≤bitLen T:=by unfold bitLen;rw[if_neg h];omega
theorem Zbp {T k:Nat}(h0:2^k≤T) (h1:T<2^(k+1)):bitLen T=k+1:=by
 have hp:0<2^k:=Nat.pow_pos (by omega);obtain⟨a1,a2⟩:=bitLen_spec T;have a2:=a2 (by omega);have a3:=Za1 (show T≠0 by omega);rcases Nat.lt_or_ge (bitLen T) (k+1) with h | h
 ·have:=Nat.pow_le_pow_right (show 0<2 by omega) (show bitLen T≤k by omega);omega
 ·rcases Nat.lt_or_ge (k+1) (bitLen T) with h' | h'
  ·have:=Nat.pow_le_pow_right (show 0<2 by omega) (show k+1≤bitLen T-1 by omega);omega
  ·omega
theorem len_le {T k:Nat}(h:T<2^k):bitLen T≤k:=by
 by_cases h0:T=0
 ·subst h0;simp [bitLen]
 ·have a2:=(bitLen_spec T).2 h0;rcases Nat.lt_or_ge k (bitLen T) with h' | h'
  ·have:=Nat.pow_le_pow_right (show 0<2 by omega) (show k≤bitLen T-1 by omega);omega
  ·exact h'
theorem Zc9 {T k:Nat}(h:2^k≤T):k+1≤bitLen T:=by
 have a1:=(bitLen_spec T).1;rcases Nat.lt_or_ge (bitLen T) (k+1) with h' | h'
 ·have:=Nat.pow_le_pow_right (show 0<2 by omega) (show bitLen T≤k by omega);omega
 ·exact h'
theorem ZvY {T:Nat}(h:T≠0) (j:Nat):bitLen (T*2^j)=bitLen T+j:=by
 have hp:0<2^j:=Nat.pow_pos (by omega);obtain⟨a1,a2⟩:=bitLen_spec T;have a2:=a2 h;have a3:=Za1 h;have e:bitLen T+j=(bitLen T-1+j)+1:=by omega
 rw[e];apply Zbp
 ·rw[Nat.pow_add];exact Nat.mul_le_mul_right _ a2
 ·rw[show bitLen T-1+j+1=bitLen T+j by omega,Nat.pow_add];exact Nat.mul_lt_mul_of_pos_right a1 hp
theorem ZqM (m:Int) (neg o:Bool):upR m neg o 0=false:=by simp [upR]
theorem ZjX (P:Nat):zD 0 P=0:=by simp [zD]
theorem Zg5 {r P:Nat}:zD r P=0↔r=0:=by
 unfold zD;split
 ·simp_all
 ·rename_i h;simp only[h,iff_false];split<;>(try split)<;>omega
theorem Zhz (r P j:Nat):zD (r*2^j) (P*2^j)=zD r P:=by
 have hp:0<2^j:=Nat.pow_pos (by omega);unfold zD;have e0:(r*2^j=0)↔r=0:=by rw[Nat.mul_eq_zero];omega
 have e1:(2*(r*2^j)<P*2^j)↔2*r<P:=by rw[← Nat.mul_assoc];exact Nat.mul_lt_mul_right hp
 have e2:(2*(r*2^j)=P*2^j)↔2*r=P:=by rw[← Nat.mul_assoc];exact Nat.mul_left_inj (by omega)
 simp only[e0,e1,e2]
theorem Z1q (m:Int) (neg:Bool) (T k:Nat):T/2^k≤rq m neg T k∧rq m neg T k≤T/2^k+1:=by unfold rq;split<;>omega
theorem ZfF {m:Int}{neg:Bool}{T k:Nat}(h:T % 2^k=0):rq m neg T k=T/2^k:=by
 unfold rq;rw[h,ZjX,ZqM];simp
theorem ZqN (m:Int) (neg:Bool) (T k j:Nat):rq m neg (T*2^j) (k+j)=rq m neg T k:=by
 have hp:0<2^j:=Nat.pow_pos (by omega);unfold rq;rw[Nat.pow_add,Nat.mul_div_mul_right _ _ hp,Nat.mul_mod_mul_right,Zhz]
theorem Zg6 (m:Int) (neg:Bool) (T j:Nat) (E e:Int):toQ m neg (T*2^j) (E-j) e=toQ m neg T E e:=by
 unfold toQ;by_cases h1:e≤E
 ·rw[if_pos h1];by_cases h2:e≤E-j
  ·rw[if_pos h2,Nat.mul_assoc,← Nat.pow_add];congr 2;omega
  ·rw[if_neg h2];have ej:j=(E-e).toNat+(e-(E-j)).toNat:=by omega
   have e1:T*2^j=T*2^(E-e).toNat*2^(e-(E-j)).toNat:=by rw[Nat.mul_assoc,← Nat.pow_add,← ej]
   have hp:0<2^(e-(E-j)).toNat:=Nat.pow_pos (by omega);rw[e1,ZfF (Nat.mul_mod_left _ _),Nat.mul_div_cancel _ hp]
 ·rw[if_neg h1,if_neg (by omega),show (e-(E-j)).toNat=(e-E).toNat+j by omega,ZqN]
theorem ZmW (T j:Nat) (E e:Int):toL (T*2^j) (E-j) e=toL T E e:=by
 have hp:0<2^j:=Nat.pow_pos (by omega);unfold toL;by_cases h1:e≤E
 ·rw[if_pos h1];by_cases h2:e≤E-j
  ·rw[if_pos h2]
  ·rw[if_neg h2];have ej:j=(E-e).toNat+(e-(E-j)).toNat:=by omega
   have e1:T*2^j=T*2^(E-e).toNat*2^(e-(E-j)).toNat:=by rw[Nat.mul_assoc,← Nat.pow_add,← ej]
   rw[e1,Nat.mul_mod_left];simp
 ·rw[if_neg h1,if_neg (by omega),show (e-(E-j)).toNat=(e-E).toNat+j by omega,Nat.pow_add,Nat.mul_mod_mul_right];congr 1;rw[ne_eq,ne_eq,Nat.mul_eq_zero];simp only[eq_iff_iff];omega
theorem Zg7 {T:Nat}(h:T≠0) (j:Nat) (E:Int):lgN (T*2^j) (E-j)=lgN T E:=by
 unfold lgN;rw[ZvY h];omega
theorem Zfb {T:Nat}(h:T≠0) (j:Nat) (E:Int):z5 (T*2^j) (E-j)=z5 T E:=by unfold z5;rw[Zg7 h]
theorem ZiE {T:Nat}(h:T≠0) (m:Int) (neg:Bool) (j:Nat) (E:Int):p0 m neg (T*2^j) (E-j)=p0 m neg T E:=by unfold p0;rw[Zfb h,Zg6]
theorem ZjY {T:Nat}(h:T≠0) (m:Int) (neg:Bool) (j:Nat) (E:Int):ZdB m neg (T*2^j) (E-j)=ZdB m neg T E:=by unfold ZdB;rw[Zg7 h,Zg6]
theorem ZiF {T:Nat}(j:Nat):(T*2^j=0)=(T=0):=by
 have hp:0<2^j:=Nat.pow_pos (by omega);rw[Nat.mul_eq_zero];simp only[eq_iff_iff];omega
theorem ZaG (m:Int) (neg:Bool) (T j:Nat) (E:Int):rnP m neg (T*2^j) (E-j)=rnP m neg T E:=by
 unfold rnP;simp only[ZiF];by_cases h:T=0
 ·rw[if_pos h,if_pos h]
 ·rw[if_neg h,if_neg h,ZiE h]
theorem ZaH (m:Int) (neg:Bool) (T j:Nat) (E:Int):rnF m neg (T*2^j) (E-j)=rnF m neg T E:=by
 unfold rnF;simp only[ZiF];by_cases h:T=0
 ·rw[if_pos h,if_pos h]
 ·rw[if_neg h,if_neg h,ZiE h,ZjY h,Zfb h,ZmW]
end Go.Rn
namespace Go.Rn
open Go.Pt
theorem ZiG {m:Int}{neg:Bool}{T:Nat}{E e:Int}{n:Nat}(h:(bitLen T:Int)+(E-e)≤n):toQ m neg T E e≤2^n:=by
 have a1:=(bitLen_spec T).1;unfold toQ;by_cases he:e≤E
 ·rw[if_pos he];have hp:0<2^(E-e).toNat:=Nat.pow_pos (by omega);have:=Nat.mul_le_mul_right (2^(E-e).toNat) (Nat.le_of_lt a1);rw[← Nat.pow_add] at this;have h2:=Nat.pow_le_pow_right (show 0<2 by omega) (show bitLen T+(E-e).toNat≤n by omega);omega
 ·rw[if_neg he];have b:=(Z1q m neg T (e-E).toNat).2;have h2:=Nat.pow_le_pow_right (show 0<2 by omega) (show bitLen T≤n+(e-E).toNat by omega);have h3:T/2^(e-E).toNat<2^n:=by
   apply Nat.div_lt_of_lt_mul;rw[Nat.pow_add,Nat.mul_comm] at h2;omega
  omega
theorem Ztc {m:Int}{neg:Bool}{T:Nat}{E e:Int}{n:Nat}(hT:T≠0) (h:(n:Int)+1≤(bitLen T:Int)+(E-e)):2^n≤toQ m neg T E e:=by
 have a2:=(bitLen_spec T).2 hT;have a3:=Za1 hT;unfold toQ;by_cases he:e≤E
 ·rw[if_pos he];have:=Nat.mul_le_mul_right (2^(E-e).toNat) a2;rw[← Nat.pow_add] at this;have h2:=Nat.pow_le_pow_right (show 0<2 by omega) (show n≤bitLen T-1+(E-e).toNat by omega);omega
 ·rw[if_neg he];have b:=(Z1q m neg T (e-E).toNat).1;have hp:0<2^(e-E).toNat:=Nat.pow_pos (by omega);have h2:=Nat.pow_le_pow_right (show 0<2 by omega) (show n+(e-E).toNat≤bitLen T-1 by omega);have h3:2^n≤T/2^(e-E).toNat:=by
   rw[Nat.le_div_iff_mul_le hp,← Nat.pow_add];omega
  omega
theorem Zg8 (m:Int) (neg:Bool) (T:Nat) (E:Int):toQ m neg T E (z5 T E)≤9007199254740992:=by
 refine ZiG (n:=53) ?_;unfold z5 lgN;split<;>omega
theorem ZmX {m:Int}{neg:Bool}{T:Nat}{E:Int}(hT:T≠0) (h: -1074≤lgN T E-52):4503599627370496≤toQ m neg T E (z5 T E):=by
 refine Ztc (n:=52) hT ?_;unfold z5 lgN at*;split<;>omega
theorem ZfG (T:Nat) (E:Int): -1074≤z5 T E:=by unfold z5;split<;>omega
theorem ZmY (m:Int) (neg:Bool) (T:Nat) (E:Int):0≤p0 m neg T E:=by
 have:=ZfG T E;unfold p0;omega
theorem Z1r (m:Int) (neg:Bool):bey m neg=9218868437227405312∨bey m neg=9218868437227405311:=by unfold bey;split<;>simp
end Go.Rn
namespace Go.Rn
open Go.Nt
theorem ZbK (V:Nat):bl V=bitLen V:=by
 by_cases h:V=0
 ·subst h;rw[Zdf];rfl
 ·have h1:=(bitLen_spec V).1;have h2:=(bitLen_spec V).2 h;have h3:=Za1 h;obtain⟨k,hk⟩:∃ k,bitLen V=k+1:=⟨bitLen V-1,by omega⟩;rw[hk] at h1 h2 ⊢;exact ZlU h2 h1
theorem ZqO (T k:Nat):(T/2^k % 2=1)↔2^k≤T % 2^(k+1):=by
 have hp:0<2^k:=Nat.pow_pos (by omega);have e:T % 2^(k+1)=T % 2^k+2^k*(T/2^k % 2):=by rw[Nat.pow_succ,Nat.mod_mul]
 have hl:=Nat.mod_lt T hp;have h2:T/2^k % 2=0∨T/2^k % 2=1:=by omega
 rw[e];clear e;generalize T % 2^k=r at hl;generalize T/2^k % 2=b at h2;generalize 2^k=P at hl hp;rcases h2 with h | h
 ·subst h;simp only[Nat.mul_zero,Nat.add_zero];omega
 ·subst h;rw[Nat.mul_one];exact⟨fun _=>Nat.le_add_left _ _,fun _=>rfl⟩
theorem Z1s {r k:Nat}(hr:r≠0) (M:Int) (neg o:Bool):
  upR M neg o (zD r (2^(k+1)))=(if M=2 then false else if M=3 then !neg else if M=4 then neg else if M=1 then decide (2^k≤r) else (decide (2^k≤r) && (!decide (r=2^k) || o))):=by
 have hc:¬ zD r (2^(k+1))=0:=by rw[Zg5];exact hr
 unfold upR;rw[if_neg hc];by_cases h2:M=2
 ·rw[if_pos h2,if_pos h2]
 ·rw[if_neg h2,if_neg h2];by_cases h3:M=3
  ·rw[if_pos h3,if_pos h3]
  ·rw[if_neg h3,if_neg h3];by_cases h4:M=4
   ·rw[if_pos h4,if_pos h4]
   ·rw[if_neg h4,if_neg h4];have e:2^(k+1)=2*2^k:=by rw[Nat.pow_succ,Nat.mul_comm]
    unfold zD;rw[if_neg hr,e];generalize 2^k=P;by_cases a:2*r<2*P
    ·rw[if_pos a];have:decide (P≤r)=false:=Xb (by omega);rw[this];split<;>simp
    ·rw[if_neg a];by_cases b:2*r=2*P
     ·rw[if_pos b];have h1:decide (P≤r)=true:=Xa (by omega);have h5:decide (r=P)=true:=Xa (by omega);rw[h1,h5];split<;>simp
     ·rw[if_neg b];have h1:decide (P≤r)=true:=Xa (by omega);have h5:decide (r=P)=false:=Xb (by omega);rw[h1,h5];split<;>simp
end Go.Rn
namespace Go.Wd
structure W4 where
 a:Int
 b:Int
 c:Int
 d:Int
def W4.val (x:W4):Int:=x.a+18446744073709551616*x.b+340282366920938463463374607431768211456*x.c+6277101735386680763835789423207666416102355444464034512896*x.d
abbrev W4.ok (x:W4):Prop:=(0≤x.a∧x.a<18446744073709551616)∧(0≤x.b∧x.b<18446744073709551616)∧(0≤x.c∧x.c<18446744073709551616)∧(0≤x.d∧x.d<18446744073709551616)
def W4.of (n:Int):W4:=
 ⟨n % 18446744073709551616,n/18446744073709551616 % 18446744073709551616,n/340282366920938463463374607431768211456 % 18446744073709551616,n/6277101735386680763835789423207666416102355444464034512896 % 18446744073709551616⟩
def eqW (x y:W4):Bool:=x.a==y.a && (x.b==y.b && (x.c==y.c && (x.d==y.d && true)))
theorem ZfH {x y:W4}:eqW x y=true↔x=y:=by
 cases x;cases y;simp [eqW]
theorem W4.ext' {x y:W4}(h1:x.a=y.a) (h2:x.b=y.b) (h3:x.c=y.c) (h4:x.d=y.d):x=y:=by
 cases x;cases y;simp_all
theorem W4.ok_of (n:Int):(W4.of n).ok:=by
 unfold W4.of W4.ok;refine⟨⟨?_,?_⟩,⟨?_,?_⟩,⟨?_,?_⟩,⟨?_,?_⟩⟩<;>dsimp only<;>omega
theorem W4.of_val {x:W4}(h:x.ok):W4.of x.val=x:=by
 obtain⟨a,b,c,d⟩:=x;unfold W4.ok at h;unfold W4.val W4.of;dsimp only at*;refine W4.ext' ?_ ?_ ?_ ?_<;>dsimp only<;>omega
theorem W4.val_of (n:Int):(W4.of n).val=n % 115792089237316195423570985008687907853269984665640564039457584007913129639936:=by
 unfold W4.val W4.of;dsimp only;omega
theorem W4.val_bd {x:W4}(h:x.ok):0≤x.val∧x.val<115792089237316195423570985008687907853269984665640564039457584007913129639936:=by
 obtain⟨a,b,c,d⟩:=x;unfold W4.ok at h;unfold W4.val;dsimp only at*;omega
theorem W4.val_inj {x y:W4}(hx:x.ok) (hy:y.ok) (h:x.val=y.val):x=y:=by
 rw[← W4.of_val hx,← W4.of_val hy,h]
def ad (x y c:Int):Int:=(x+y+c) % 18446744073709551616
def ca (x y c:Int):Int:=(x+y+c)/18446744073709551616
def Z60 (x y:W4):W4:=⟨ad x.a y.a 0,ad x.b y.b (ca x.a y.a 0),ad x.c y.c (ca x.b y.b (ca x.a y.a 0)),ad x.d y.d (ca x.c y.c (ca x.b y.b (ca x.a y.a 0)))⟩
def Z61 (x y:W4):Int:=ca x.d y.d (ca x.c y.c (ca x.b y.b (ca x.a y.a 0)))
theorem ZvZ {x y:W4}(hx:x.ok) (hy:y.ok):Z60 x y=W4.of (x.val+y.val):=by
 obtain⟨a,b,c,d⟩:=x;obtain⟨a',b',c',d'⟩:=y;unfold W4.ok at hx hy;unfold W4.val W4.of Z60 ad ca;dsimp only at*;refine W4.ext' ?_ ?_ ?_ ?_<;>dsimp only<;>omega
theorem Zwa {x y:W4}(hx:x.ok) (hy:y.ok):(Z61 x y !=0)=decide (115792089237316195423570985008687907853269984665640564039457584007913129639936≤x.val+y.val):=by
 obtain⟨a,b,c,d⟩:=x;obtain⟨a',b',c',d'⟩:=y;unfold W4.ok at hx hy;unfold W4.val Z61 ca;dsimp only at*;rw[Bool.eq_iff_iff];simp only[bne_iff_ne,ne_eq,Xi];omega
end Go.Wd
namespace Go.Wd
open Go.IntKind
theorem ZbX (n:Int):u64.wrap n=n % 18446744073709551616:=by simp [IntKind.wrap,IntKind.bits,IntKind.signed]
theorem ZbL {n:Int}(h0: -9223372036854775808≤n) (h1:n≤9223372036854775807):i64.wrap n=n:=by
 simp [IntKind.wrap,IntKind.bits,IntKind.signed];omega
def prt (n:Int):Int:=u64.wrap (n.tmod 64)
def rem (n:Int):Int:=u64.wrap (64-prt n)
def up (a n:Int):Int:=u64.wrap (a*2^min (prt n).toNat 64)
def dn (a n:Int):Int:=a.fdiv (2^min (rem n).toNat 64)
def dn' (a n:Int):Int:=a.fdiv (2^min (prt n).toNat 64)
def up' (a n:Int):Int:=u64.wrap (a*2^min (rem n).toNat 64)
def orr (x y:Int):Int:=u64.wrap ((BitVec.ofInt 64 x ||| BitVec.ofInt 64 y).toNat:Nat)
theorem ZmZ {n:Int}(h:0≤n):prt n=n % 64:=by
 unfold prt;rw[Int.tmod_eq_emod_of_nonneg h,ZbX];omega
theorem Ztd {n:Int}(h:0≤n):rem n=64-n % 64:=by
 unfold rem;rw[ZmZ h,ZbX];omega
structure Parts (n q r:Int):Prop where
 q1:1≤q
 r1:1<r
 qr:q*r=18446744073709551616
 eq:q=2^(n % 64).toNat
 er:r=2^(64-n % 64).toNat
theorem zX (n:Int):Parts n (2^(n % 64).toNat) (2^(64-n % 64).toNat):=by
 have h1:0≤n % 64:=by omega
 have h2:n % 64<64:=by omega
 refine⟨?_,?_,?_,rfl,rfl⟩
 ·have:(0:Int)<2^(n % 64).toNat:=Int.pow_pos (by omega);omega
 ·obtain⟨k,hk⟩:∃ k,(64-n % 64).toNat=k+1:=⟨(64-n % 64).toNat-1,by omega⟩;rw[hk,Int.pow_succ];have:(0:Int)<2^k:=Int.pow_pos (by omega);omega
 ·rw[← Int.pow_add];have:(n % 64).toNat+(64-n % 64).toNat=64:=by omega
  rw[this];rfl
theorem Zna {n:Int}(h:0≤n):min (prt n).toNat 64=(n % 64).toNat:=by rw[ZmZ h];omega
theorem Znb {n:Int}(h:0≤n):min (rem n).toNat 64=(64-n % 64).toNat:=by rw[Ztd h];omega
structure Cut (a q r hi lo:Int):Prop where
 sum:a=r*hi+lo
 lo0:0≤lo
 lo1:lo<r
 hi0:0≤hi
 hi1:hi<q
theorem cut {a n q r:Int}(P:Parts n q r) (h0:0≤a) (h1:a<18446744073709551616):Cut a q r (a/r) (a % r):=by
 have hr:0<r:=by have:=P.r1;omega
 refine⟨(Int.mul_ediv_add_emod a r).symm,Int.emod_nonneg _ (by omega),Int.emod_lt_of_pos _ hr,Int.ediv_nonneg h0 (by omega),?_⟩;apply Int.ediv_lt_of_lt_mul hr;rw[P.qr];exact h1
theorem ZcA (x y c:Int) (hc:0≤c) (h:x≤y):c*x≤c*y:=Int.mul_le_mul_of_nonneg_left h hc
theorem Z1t {a n q r hi lo:Int}(hn:0≤n) (P:Parts n q r) (C:Cut a q r hi lo):up a n=q*lo∧0≤q*lo∧q*lo+q≤18446744073709551616∧a*q=18446744073709551616*hi+q*lo:=by
 have e:a*q=18446744073709551616*hi+q*lo:=by
  rw[C.sum,Int.add_mul,← P.qr,Int.mul_comm r hi,Int.mul_assoc hi r q,Int.mul_comm r q,Int.mul_comm hi (q*r),Int.mul_comm lo q]
 have b0:0≤q*lo:=Int.mul_nonneg (by have:=P.q1;omega) C.lo0;have b1:q*lo+q≤18446744073709551616:=by
  have h:=ZcA (lo+1) r q (by have:=P.q1;omega) (by have:=C.lo1;omega);rw[P.qr,Int.mul_add,Int.mul_one] at h;exact h
 refine⟨?_,b0,b1,e⟩;unfold up;rw[Zna hn,← P.eq,ZbX,e];have:=P.q1;omega
theorem Z62 {a n q r hi lo:Int}(hn:0≤n) (P:Parts n q r) (C:Cut a q r hi lo):dn a n=hi:=by
 unfold dn;rw[Znb hn,← P.er,Int.fdiv_eq_ediv_of_nonneg _ (by have:=P.r1;omega),C.sum,Int.mul_comm r hi,Int.add_comm,Int.add_mul_ediv_right _ _ (by have:=P.r1;omega),
  Int.ediv_eq_zero_of_lt C.lo0 C.lo1,Int.zero_add]
theorem Zte {k:Nat}{x y:Int}(hx:∃ z:Int,x=2^k*z) (x0:0≤x) (y0:0≤y) (y1:y<2^k) (hs:x+y<18446744073709551616):orr x y=x+y:=by
 obtain⟨z,hz⟩:=hx;have hp:(0:Int)<2^k:=Int.pow_pos (by omega);have z0:0≤z:=by
  rcases Int.lt_or_le z 0 with h | h
  ·have:=ZcA z (-1) (2^k) (by omega) (by omega);omega
  ·exact h
 obtain⟨Z,rfl⟩:=Int.eq_ofNat_of_zero_le z0;obtain⟨Y,rfl⟩:=Int.eq_ofNat_of_zero_le y0;have ex:x=((2^k*Z:Nat):Int):=by rw[hz];simp
 have hY:Y<2^k:=by
  have:((Y:Nat):Int)<((2^k:Nat):Int):=by simpa using y1
  exact Int.ofNat_lt.1 this
 have hX:2^k*Z+Y<18446744073709551616:=by
  rw[ex] at hs;have:(((2^k*Z+Y:Nat)):Int)<18446744073709551616:=by simpa using hs
  omega
 unfold orr;rw[ex];have e1:∀ m:Nat,m<18446744073709551616→(BitVec.ofInt 64 (m:Int)).toNat=m:=fun m hm=>by
  simp;omega
 rw[BitVec.toNat_or,e1 _ (by omega),e1 _ (by omega),← Nat.two_pow_add_eq_or_of_lt hY,ZbX];have:(((2^k*Z+Y:Nat)):Int)=((2^k*Z:Nat):Int)+(Y:Int):=by simp
 rw[this];omega
theorem W4.of_eq {x:W4}{N k:Int}(hx:x.ok) (h:N=x.val+115792089237316195423570985008687907853269984665640564039457584007913129639936*k):W4.of N=x:=by
 obtain⟨a,b,c,d⟩:=x;unfold W4.ok at hx;unfold W4.val at h;unfold W4.of;dsimp only at*;subst h;refine W4.ext' ?_ ?_ ?_ ?_<;>dsimp only<;>omega
def Z1u (x:W4) (n:Int):W4:=⟨up x.a n,orr (up x.b n) (dn x.a n),orr (up x.c n) (dn x.b n),orr (up x.d n) (dn x.c n)⟩
def Z1v (x:W4) (n:Int):W4:=⟨0,up x.a n,orr (up x.b n) (dn x.a n),orr (up x.c n) (dn x.b n)⟩
def Z1w (x:W4) (n:Int):W4:=⟨0,0,up x.a n,orr (up x.b n) (dn x.a n)⟩
def Z1x (x:W4) (n:Int):W4:=⟨0,0,0,up x.a n⟩
theorem ZbM {n:Int}(hn:0≤n) {a b:Int}(ha:0≤a∧a<18446744073709551616) (hb:0≤b∧b<18446744073709551616):
  orr (up b n) (dn a n)=up b n+dn a n∧(0≤up a n∧up a n<18446744073709551616)∧(0≤up b n+dn a n∧up b n+dn a n<18446744073709551616)∧
   a*2^(n % 64).toNat=18446744073709551616*dn a n+up a n:=by
 have P:=zX n;have Ca:=cut P ha.1 ha.2;have Cb:=cut P hb.1 hb.2;obtain⟨e1,b1,b2,b3⟩:=Z1t hn P Ca;obtain⟨f1,c1,c2,c3⟩:=Z1t hn P Cb;have e2:=Z62 hn P Ca;have q1:=P.q1;have h0:=Ca.hi0;have h1:=Ca.hi1;refine⟨?_,⟨by omega,by omega⟩,⟨by omega,by omega⟩,by rw[e1,e2];exact b3⟩;rw[f1,e2];exact Zte (k:=(n % 64).toNat) ⟨_,rfl⟩ c1 h0 h1 (by omega)
theorem z64:(0:Int)≤0∧(0:Int)<18446744073709551616:=⟨by omega,by omega⟩
theorem Zaz (n:Int) (h0:0≤n) (j:Nat) (hj:n/64=j):(2:Int)^n.toNat=2^(64*j)*2^(n % 64).toNat:=by
 rw[← Int.pow_add];congr 1;omega
theorem ZbN (x:W4) (q:Int):x.val*q=x.a*q+18446744073709551616*(x.b*q)+340282366920938463463374607431768211456*(x.c*q)+6277101735386680763835789423207666416102355444464034512896*(x.d*q):=by
 unfold W4.val;rw[Int.add_mul,Int.add_mul,Int.add_mul,Int.mul_assoc,Int.mul_assoc,Int.mul_assoc]
theorem Zwb {x:W4}(hx:x.ok) {n:Int}(hn:0≤n) (hj:n/64=0):Z1u x n=W4.of (x.val*2^n.toNat):=by
 obtain⟨h1,h2,h3,h4⟩:=hx;obtain⟨o1,u1,s1,m1⟩:=ZbM hn h1 h2;obtain⟨o2,u2,s2,m2⟩:=ZbM hn h2 h3;obtain⟨o3,u3,s3,m3⟩:=ZbM hn h3 h4;obtain⟨_,u4,_,m4⟩:=ZbM hn h4 h1;have e:=Zaz n hn 0 hj;have one:(2:Int)^(64*0)=1:=rfl;rw[one,Int.one_mul] at e;refine (W4.of_eq (x:=Z1u x n) (k:=dn x.d n) ?_ ?_).symm
 ·unfold Z1u;rw[o1,o2,o3];exact⟨u1,s1,s2,s3⟩
 ·rw[e,ZbN,m1,m2,m3,m4];unfold Z1u W4.val;dsimp only;rw[o1,o2,o3];omega
theorem Zwc {x:W4}(hx:x.ok) {n:Int}(hn:0≤n) (hj:n/64=1):Z1v x n=W4.of (x.val*2^n.toNat):=by
 obtain⟨h1,h2,h3,h4⟩:=hx;obtain⟨o1,u1,s1,m1⟩:=ZbM hn h1 h2;obtain⟨o2,u2,s2,m2⟩:=ZbM hn h2 h3;obtain⟨_,u3,_,m3⟩:=ZbM hn h3 h4;obtain⟨_,u4,_,m4⟩:=ZbM hn h4 h1;have e:=Zaz n hn 1 hj;have one:(2:Int)^(64*1)=18446744073709551616:=rfl;rw[one] at e;refine (W4.of_eq (x:=Z1v x n) (k:=dn x.c n+(18446744073709551616*dn x.d n+up x.d n)) ?_ ?_).symm
 ·unfold Z1v;rw[o1,o2];exact⟨z64,u1,s1,s2⟩
 ·rw[e,Int.mul_left_comm,ZbN,m1,m2,m3,m4];unfold Z1v W4.val;dsimp only;rw[o1,o2];omega
theorem Zwd {x:W4}(hx:x.ok) {n:Int}(hn:0≤n) (hj:n/64=2):Z1w x n=W4.of (x.val*2^n.toNat):=by
 obtain⟨h1,h2,h3,h4⟩:=hx;obtain⟨o1,u1,s1,m1⟩:=ZbM hn h1 h2;obtain⟨_,u2,_,m2⟩:=ZbM hn h2 h3;have e:=Zaz n hn 2 hj;have one:(2:Int)^(64*2)=340282366920938463463374607431768211456:=rfl;rw[one] at e;refine (W4.of_eq (x:=Z1w x n) (k:=dn x.b n+x.c*2^(n % 64).toNat+18446744073709551616*(x.d*2^(n % 64).toNat)) ?_ ?_).symm
 ·unfold Z1w;rw[o1];exact⟨z64,z64,u1,s1⟩
 ·rw[e,Int.mul_left_comm,ZbN,m1,m2];unfold Z1w W4.val;dsimp only;rw[o1];omega
theorem Zwe {x:W4}(hx:x.ok) {n:Int}(hn:0≤n) (hj:n/64=3):Z1x x n=W4.of (x.val*2^n.toNat):=by
 obtain⟨h1,h2,h3,h4⟩:=hx;obtain⟨_,u1,_,m1⟩:=ZbM hn h1 h2;have e:=Zaz n hn 3 hj;have one:(2:Int)^(64*3)=6277101735386680763835789423207666416102355444464034512896:=rfl;rw[one] at e;refine (W4.of_eq (x:=Z1x x n) (k:=dn x.a n+x.b*2^(n % 64).toNat+18446744073709551616*(x.c*2^(n % 64).toNat)+340282366920938463463374607431768211456*(x.d*2^(n % 64).toNat)) ?_ ?_).symm
 ·unfold Z1x;exact⟨z64,z64,z64,u1⟩
 ·rw[e,Int.mul_left_comm,ZbN,m1];unfold Z1x W4.val;dsimp only;omega
theorem ZqP (x y:Int):orr x y=orr y x:=by unfold orr;rw[BitVec.or_comm]
structure Cut' (a q r hi lo:Int):Prop where
 sum:a=q*hi+lo
 lo0:0≤lo
 lo1:lo<q
 hi0:0≤hi
 hi1:hi<r
theorem Z63 {a n q r:Int}(P:Parts n q r) (h0:0≤a) (h1:a<18446744073709551616):Cut' a q r (a/q) (a % q):=by
 have hq:0<q:=by have:=P.q1;omega
 refine⟨(Int.mul_ediv_add_emod a q).symm,Int.emod_nonneg _ (by omega),Int.emod_lt_of_pos _ hq,Int.ediv_nonneg h0 (by omega),?_⟩;apply Int.ediv_lt_of_lt_mul hq;rw[Int.mul_comm,P.qr];exact h1
theorem Ztf {a n q r:Int}(hn:0≤n) (P:Parts n q r):dn' a n=a/q:=by
 unfold dn';rw[Zna hn,← P.eq,Int.fdiv_eq_ediv_of_nonneg _ (by have:=P.q1;omega)]
theorem Ztg {a n q r hi lo:Int}(hn:0≤n) (P:Parts n q r) (C:Cut' a q r hi lo):up' a n=r*lo∧0≤r*lo∧r*lo+r≤18446744073709551616:=by
 have e:a*r=18446744073709551616*hi+r*lo:=by
  rw[C.sum,Int.add_mul,← P.qr,Int.mul_right_comm q hi r,Int.mul_comm lo r]
 have b0:0≤r*lo:=Int.mul_nonneg (by have:=P.r1;omega) C.lo0;have b1:r*lo+r≤18446744073709551616:=by
  have h:=ZcA (lo+1) q r (by have:=P.r1;omega) (by have:=C.lo1;omega);rw[Int.mul_comm r q,P.qr,Int.mul_add,Int.mul_one] at h;exact h
 refine⟨?_,b0,b1⟩;unfold up';rw[Znb hn,← P.er,ZbX,e];have:=P.r1;omega
theorem zY {n:Int}(hn:0≤n) {a b:Int}(ha:0≤a∧a<18446744073709551616) (hb:0≤b∧b<18446744073709551616):
  ∃ lb:Int,orr (dn' a n) (up' b n)=dn' a n+up' b n∧(0≤dn' a n∧dn' a n<18446744073709551616)∧(0≤dn' a n+up' b n∧dn' a n+up' b n<18446744073709551616)∧
   2^(n % 64).toNat*up' b n=18446744073709551616*lb∧0≤lb∧lb<2^(n % 64).toNat∧b=2^(n % 64).toNat*dn' b n+lb:=by
 have P:=zX n;have Ca:=Z63 P ha.1 ha.2;have Cb:=Z63 P hb.1 hb.2;obtain⟨f1,c1,c2⟩:=Ztg hn P Cb;have e1:=Ztf (a:=a) hn P;have e2:=Ztf (a:=b) hn P;have h0:=Ca.hi0;have h1:=Ca.hi1;have r1:=P.r1;refine⟨b % 2^(n % 64).toNat,?_,⟨by omega,by omega⟩,⟨by omega,by omega⟩,?_,Cb.lo0,Cb.lo1,by rw[e2];exact Cb.sum⟩
 ·rw[ZqP,f1,e1,Int.add_comm];exact Zte (k:=(64-n % 64).toNat) ⟨_,rfl⟩ c1 h0 h1 (by omega)
 ·rw[f1,← Int.mul_assoc,P.qr]
theorem ZqQ {n:Int}(hn:0≤n) {b:Int}(hb:0≤b∧b<18446744073709551616):up' b n % 2=0:=by
 have P:=zX n;obtain⟨f1,_,_⟩:=Ztg hn P (Z63 P hb.1 hb.2);obtain⟨k,hk⟩:∃ k,(64-n % 64).toNat=k+1:=⟨(64-n % 64).toNat-1,by omega⟩;rw[f1,hk,Int.pow_succ,Int.mul_comm _ 2,Int.mul_assoc];omega
def Zwf (x:W4) (n:Int):W4:=⟨orr (dn' x.a n) (up' x.b n),orr (dn' x.b n) (up' x.c n),orr (dn' x.c n) (up' x.d n),dn' x.d n⟩
def Zwg (x:W4) (n:Int):W4:=⟨orr (dn' x.b n) (up' x.c n),orr (dn' x.c n) (up' x.d n),dn' x.d n,0⟩
def Zwh (x:W4) (n:Int):W4:=⟨orr (dn' x.c n) (up' x.d n),dn' x.d n,0,0⟩
def Zwi (x:W4) (n:Int):W4:=⟨dn' x.d n,0,0,0⟩
theorem Zwj {N q m l:Int}(h:N=q*m+l) (h0:0≤l) (h1:l<q):N/q=m:=by
 rw[h,Int.add_comm,Int.add_mul_ediv_left _ _ (by omega),Int.ediv_eq_zero_of_lt h0 h1,Int.zero_add]
theorem ZfI {x m:W4}{n:Int}{q l:Int}(hm:m.ok) (h:x.val=q*m.val+l) (h0:0≤l) (h1:l<q) (hq:q=2^n.toNat):m=W4.of (x.val/2^n.toNat):=by
 rw[← hq,Zwj h h0 h1,W4.of_val hm]
theorem Znc {x:W4}(hx:x.ok) {n:Int}(hn:0≤n) (hj:n/64=0):Zwf x n=W4.of (x.val/2^n.toNat)∧(Zwf x n).ok:=by
 obtain⟨h1,h2,h3,h4⟩:=hx;obtain⟨l1,o1,d1,s1,m1,l10,l11,e1⟩:=zY hn h1 h2;obtain⟨l2,o2,d2,s2,m2,l20,l21,e2⟩:=zY hn h2 h3;obtain⟨l3,o3,d3,s3,m3,l30,l31,e3⟩:=zY hn h3 h4;obtain⟨l4,_,d4,_,_,l40,l41,e4⟩:=zY hn h4 h1;have e:=Zaz n hn 0 hj;have one:(2:Int)^(64*0)=1:=rfl;rw[one,Int.one_mul] at e;have hok:(Zwf x n).ok:=by unfold Zwf;rw[o1,o2,o3];exact⟨s1,s2,s3,d4⟩
 refine⟨ZfI (q:=2^(n % 64).toNat) (l:=l4) hok ?_ l40 l41 e.symm,hok⟩;rw[Int.mul_comm,ZbN];unfold Zwf W4.val;dsimp only;rw[o1,o2,o3];generalize (2:Int)^(n % 64).toNat=q at*;simp only[Int.mul_comm _ q,Int.mul_add];omega
theorem Znd {x:W4}(hx:x.ok) {n:Int}(hn:0≤n) (hj:n/64=1):Zwg x n=W4.of (x.val/2^n.toNat)∧(Zwg x n).ok:=by
 obtain⟨h1,h2,h3,h4⟩:=hx;obtain⟨l2,o2,d2,s2,m2,l20,l21,e2⟩:=zY hn h2 h3;obtain⟨l3,o3,d3,s3,m3,l30,l31,e3⟩:=zY hn h3 h4;obtain⟨l4,_,d4,_,_,_,_,_⟩:=zY hn h4 h1;obtain⟨l5,_,_,_,_,l50,l51,e5⟩:=zY hn h1 h2;have e:=Zaz n hn 1 hj;have one:(2:Int)^(64*1)=18446744073709551616:=rfl;rw[one] at e;have hok:(Zwg x n).ok:=by unfold Zwg;rw[o2,o3];exact⟨s2,s3,d4,z64⟩
 refine⟨ZfI (q:=18446744073709551616*2^(n % 64).toNat) (l:=x.a+18446744073709551616*l5) hok ?_ (by omega) (by omega) e.symm,hok⟩;rw[Int.mul_assoc,Int.mul_comm (2^(n % 64).toNat),ZbN];unfold Zwg W4.val;dsimp only;rw[o2,o3];generalize (2:Int)^(n % 64).toNat=q at*;simp only[Int.mul_comm _ q,Int.mul_add];omega
theorem Zne {x:W4}(hx:x.ok) {n:Int}(hn:0≤n) (hj:n/64=2):Zwh x n=W4.of (x.val/2^n.toNat)∧(Zwh x n).ok:=by
 obtain⟨h1,h2,h3,h4⟩:=hx;obtain⟨l3,o3,d3,s3,m3,l30,l31,e3⟩:=zY hn h3 h4;obtain⟨l4,_,d4,_,_,_,_,_⟩:=zY hn h4 h1;obtain⟨l5,_,_,_,_,l50,l51,e5⟩:=zY hn h1 h3;have e:=Zaz n hn 2 hj;have one:(2:Int)^(64*2)=340282366920938463463374607431768211456:=rfl;rw[one] at e;have hok:(Zwh x n).ok:=by unfold Zwh;rw[o3];exact⟨s3,d4,z64,z64⟩
 refine⟨ZfI (q:=340282366920938463463374607431768211456*2^(n % 64).toNat) (l:=x.a+18446744073709551616*x.b+340282366920938463463374607431768211456*l5) hok ?_ (by omega) (by omega) e.symm,hok⟩;rw[Int.mul_assoc,Int.mul_comm (2^(n % 64).toNat),ZbN];unfold Zwh W4.val;dsimp only;rw[o3];generalize (2:Int)^(n % 64).toNat=q at*;simp only[Int.mul_comm _ q,Int.mul_add];omega
theorem Znf {x:W4}(hx:x.ok) {n:Int}(hn:0≤n) (hj:n/64=3):Zwi x n=W4.of (x.val/2^n.toNat)∧(Zwi x n).ok:=by
 obtain⟨h1,h2,h3,h4⟩:=hx;obtain⟨l4,_,d4,_,_,_,_,_⟩:=zY hn h4 h1;obtain⟨l5,_,_,_,_,l50,l51,e5⟩:=zY hn h1 h4;have e:=Zaz n hn 3 hj;have one:(2:Int)^(64*3)=6277101735386680763835789423207666416102355444464034512896:=rfl;rw[one] at e;have hok:(Zwi x n).ok:=by unfold Zwi;exact⟨d4,z64,z64,z64⟩
 refine⟨ZfI (q:=6277101735386680763835789423207666416102355444464034512896*2^(n % 64).toNat) (l:=x.a+18446744073709551616*x.b+340282366920938463463374607431768211456*x.c+6277101735386680763835789423207666416102355444464034512896*l5) hok ?_ (by omega) (by omega) e.symm,hok⟩;rw[Int.mul_assoc,Int.mul_comm (2^(n % 64).toNat),ZbN];unfold Zwi W4.val;dsimp only;generalize (2:Int)^(n % 64).toNat=q at*;simp only[Int.mul_comm _ q];omega
end Go.Wd
