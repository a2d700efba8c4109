/-
  R16, PwC, PwF, ConNK, PwB, PwG, TxU, TxA, RunI, TxT, TxB, NumTx, TxC, UuY
-/
import Derived.Test.YtgefjidphfdhdaaGreatDoorG10
import Derived.SizedLaws
import Derived.Laws.RangeString
namespace Go.Proofs.YtgefjidphfdhdaaGreatDoor
open Go.KRun Go.Nt
set_option maxRecDepth 100000
theorem Zc8 {A k:Nat}(h:A<2^(16*k)):(d16 A).length≤k:=Zb6 (by omega) k A (by rw[ZfM];exact h)
theorem Zaq {h:Hp}{b A:Nat}{ty:TypeId}(hb:h.blk? b=some (wU (d16 A),ty)):Zm h (some ⟨b,0,none⟩) (d16 A).length=d16 A:=by
 simp only[Zm,hb];exact Zbc _
theorem zO {h:Hp}{b A:Nat}{ty:TypeId}(hb:h.blk? b=some (wU (d16 A),ty)):vO h (some ⟨b,0,none⟩) (d16 A).length=A:=by
 unfold vO;rw[Zaq hb];exact ZbV (by omega) A
theorem Zhn (h:Hp):vO h none 0=0:=rfl
theorem ZP {h:Hp}{b A:Nat}(hb:h.blk? b=some (wU (d16 A),tU)) (hl:(d16 A).length<1073741824):zC h (some ⟨b,0,none⟩) (d16 A).length (d16 A).length=true:=by
 simp only[zC,hb,Xh];refine⟨Zap (fun x hx=>⟨(Zbo A x hx).1,by have:=(Zbo A x hx).2;omega⟩) (by omega) ?_,List.all_eq_true.2 (ZJ _)⟩;unfold Zdo;simp only[Bool.or_eq_true,Xh];exact .inl ⟨Zl.2 (by unfold za;omega),Nat.ble_eq_true_of_le (Nat.le_refl _)⟩
theorem Zai {h:Hp}{b A:Nat}{ty:TypeId}(hb:h.blk? b=some (wU (d16 A),ty)):dgB (Zm h (some ⟨b,0,none⟩) (d16 A).length)=true:=by
 rw[Zaq hb];exact Zb8 (Zbo A)
theorem ZfW {h:Hp}{b b' A A':Nat}(hb:h.blk? b=some (wU (d16 A),tU)) (hb':h.blk? b'=some (wU (d16 A'),tU)) (hl:(d16 A).length<1073741800) (hl':(d16 A').length<1073741800):ZN h (some ⟨b,0,none⟩) (some ⟨b',0,none⟩) (d16 A).length (d16 A).length (d16 A').length (d16 A').length=true:=by
 unfold ZN;rw[ZP hb (by omega),ZP hb' (by omega),Zai hb,Zai hb'];simp only[Bool.true_and];exact Zl.2 (by omega)
theorem Zx5 {h:Hp}{b A:Nat}(hb:h.blk? b=some (wU (d16 A),tU)) (hl:(d16 A).length<1073741800):ZN h none (some ⟨b,0,none⟩) 0 0 (d16 A).length (d16 A).length=true:=by
 unfold ZN;rw[ZP hb (by omega),Zai hb];simp only[Bool.and_true];exact Bool.and_eq_true_iff.2 ⟨rfl,Zl.2 (by omega)⟩
theorem ZnO {A:Nat}(h:0<(d16 A).length):A≠0:=by
 rintro rfl;unfold d16 at h;rw[ze] at h;simp at h
end Go.Proofs.YtgefjidphfdhdaaGreatDoor
namespace Go.Proofs.YtgefjidphfdhdaaGreatDoor
open Go.Proofs.Tryz
open Go.IntKind
open Go.KRun Go.Nt
set_option maxRecDepth 100000
set_option linter.unusedVariables false
def pwP (F:Func):List Code:=[Z1 (Zs F),Z1 (Z0 (Zs F))]
def pwI (F:Func):Code:=Z1 (Z1 (Z0 (Z0 (Zs F))))
def pwL (F:Func):Code:=cIn (cIn (Z0 (Z1 (Z0 (Z0 (Zs F))))))
def pwE (F:Func):Code:=Z0 (Z0 (Z0 (Zs F)))
theorem ZnP:f67.body=some (ZZ (pwP f67) (.seq (.seq (pwI f67) (.block 0 (.loop (pwL f67)))) (pwE f67))):=by kernel_rfl
def wq (V:Nat):List Value×TypeId:=(wU (d16 V),tU)
def sq0 (V:Nat):Value:=sl 0 0 (d16 V).length (d16 V).length
def pwF (b n:Int) (out:Value) (i:Int):List Value:=[.int .u32 b,.int .i64 n,.tuple #[],.tuple #[],Zo,out,.int .i64 i]
theorem Z2R (b n:Int):Zg (evL (Zk prog Zf Zn ZdJ) 100 (pwP f67) ([.int .u32 b,.int .i64 n]++List.replicate 15 undef,⟨0,[]⟩,[]) ⟨[],[],[]⟩) 6 11 none [.int .u32 b,.int .i64 n,.tuple #[],.tuple #[],Zo,sq0 1] ⟨1,[wq 1]⟩ []:=by and_intros<;>kernel_rfl
theorem ZCb (v0 v1 v2 v3 v4 v5:Value) (g:Nat→Value) (h:Hp):Zg (evC (Zk prog Zf Zn ZdJ) 100 false (pwI f67) ([v0,v1,v2,v3,v4,v5]++tl 11 g,h,[]) ⟨[],[],[]⟩) 7 10 none [v0,v1,v2,v3,v4,v5,.int .i64 0] h []:=by and_intros<;>kernel_rfl
def pA (V:Nat):Hp:=⟨1,[wq V]⟩
theorem Z8W (b n i:Int) (V W:Nat) (g:Nat→Value):Zg (evC (Zk prog Zf Zn ZdJ) 100 false (pwL f67) (pwF b n (sq0 V) i++tl 10 g,pA V,[cmp true,cmp true,num W]) ⟨[],[],[]⟩) 7 10 none (pwF b n (sl 1 0 (d16 W).length (d16 W).length) (i64.wrap (i+1))) ⟨2,[wq W,wq V]⟩ [(decide (vO (pA V) (some ⟨0,0,none⟩) (d16 V).length*b.toNat+(0:Int).toNat=W),true),(Zbh (pA V) (some ⟨0,0,none⟩) (d16 V).length (d16 V).length b 0,true),(decide (0<(d16 V).length∨0<(0:Int)),true),(decide (i<n),true)]:=by and_intros<;>kernel_rfl
theorem Z8X (b n i:Int) (V:Nat) (g:Nat→Value):Zg (evC (Zk prog Zf Zn ZdJ) 100 false (pwL f67) (pwF b n (sq0 V) i++tl 10 g,pA V,[cmp true,cmp false]) ⟨[],[],[]⟩) 7 10 none (pwF b n Zo (i64.wrap (i+1))) (pA V) [(Zbh (pA V) (some ⟨0,0,none⟩) (d16 V).length (d16 V).length b 0,true),(decide (0<(d16 V).length∨0<(0:Int)),false),(decide (i<n),true)]:=by and_intros<;>kernel_rfl
theorem Z8Y (b n i:Int) (V:Nat) (g:Nat→Value):Zg (evC (Zk prog Zf Zn ZdJ) 100 false (pwL f67) (pwF b n Zo i++tl 10 g,pA V,[cmp true,cmp false]) ⟨[],[],[]⟩) 7 10 none (pwF b n Zo (i64.wrap (i+1))) (pA V) [(Zbh (pA V) none 0 0 b 0,true),(decide (0<0∨0<(0:Int)),false),(decide (i<n),true)]:=by and_intros<;>kernel_rfl
theorem ZB5 (b n i:Int) (v:Value) (h:Hp) (g:Nat→Value):Zg (evC (Zk prog Zf Zn ZdJ) 100 false (pwL f67) (pwF b n v i++tl 10 g,h,[cmp false]) ⟨[],[],[]⟩) 7 10 (some (some 0)) (pwF b n v i) h [(decide (i<n),false)]:=by and_intros<;>kernel_rfl
theorem ZB6 (b n i:Int) (v:Value) (h:Hp) (g:Nat→Value):Zg (evC (Zk prog Zf Zn ZdJ) 100 false (pwE f67) (pwF b n v i++tl 10 g,h,[]) ⟨[],[],[]⟩) 5 12 (some none) [.int .u32 b,.int .i64 n,.tuple #[],.tuple #[],v] h []:=by and_intros<;>kernel_rfl
def pwS (b n i:Nat) (y:Lf):Prop:=(¬ (b=0∧2≤i)∧∃ g,y.1=pwF b n (sq0 (b^i)) i++tl 10 g∧y.2.1=pA (b^i))∨((b=0∧2≤i)∧∃ g V,y.1=pwF b n Zo i++tl 10 g∧y.2.1=pA V)
theorem ZfX:TabOk (Zk prog Zf Zn ZdJ):=Zh Zd ZnN
theorem Z2S {b i k:Nat}(hb:b<4294967296) (hi:2*i<k):b^i<2^(16*k):=by
 have h1:b^i≤(2^32)^i:=Nat.pow_le_pow_left (by have:(2:Nat)^32=4294967296:=rfl;omega) i;rw[← Nat.pow_mul] at h1;exact Nat.lt_of_le_of_lt h1 (Nat.pow_lt_pow_right (by omega) (by omega))
theorem Z2T (b n:Int) {s:Value}(i:Int) (hs:lt 1 s=true):∀ v∈pwF b n s i,lt 1 v=true:=by
 intro v hv;unfold pwF at hv;simp only[List.mem_cons,List.not_mem_nil,or_false] at hv;rcases hv with rfl | rfl | rfl | rfl | rfl | rfl | rfl<;>first | rfl | exact hs
theorem Zsq {b n i:Nat}(hb:b<4294967296) (hn:n≤20000) (hi:i<n) {y:Lf}(h:pwS b n i y):RunsW (Zk prog Zf Zn ZdJ) (pwL f67) y fun e z=>e=none∧pwS b n (i+1) z:=by
 obtain⟨t,h',s⟩:=y;have ei:i64.wrap ((i:Int)+1)=((i+1:Nat):Int):=by rw[Zw (by omega) (by omega)];omega
 have hlt:decide ((i:Int)<(n:Int))=true:=Xa (by omega);rcases h with ⟨hA,g,ht,hh⟩ | ⟨hB,g,V,ht,hh⟩
 ·simp only at ht hh;subst ht hh;have lV:=Zc8 (Z2S (b:=b) (i:=i) (k:=2*i+1) hb (by omega));have hk:Zbh (pA (b^i)) (some ⟨0,0,none⟩) (d16 (b^i)).length (d16 (b^i)).length (b:Int) 0=true:=by
   unfold Zbh;rw[ZP (h:=pA (b^i)) (b:=0) (A:=b^i) rfl (by omega),Zai (h:=pA (b^i)) (b:=0) (A:=b^i) (ty:=tU) rfl,Zl.2 (by omega),Xa ⟨⟨by omega,by omega⟩,by omega,by omega⟩];rfl
  by_cases hz:b^i=0
  ·have h1:¬ 0<(d16 (b^i)).length:=by rw[hz,show d16 0=[] from ze 65536];decide
   have hg:=Z8X b n i (b^i) g;rw[ei] at hg;refine (Zb (s0:=s) ZfX hg (Za hk (Za (Xb (by omega)) (Z4 hlt)))).mono fun e z hz'=> ?_;obtain⟨rfl,⟨g',e1⟩,e2⟩:=hz';have b0:b=0:=by
    rcases Nat.eq_zero_or_pos b with h0 | h0
    ·exact h0
    ·have:=Nat.pow_pos (n:=i) h0;omega
   have i1:1≤i:=by
    rcases Nat.eq_zero_or_pos i with h0 | h0
    ·subst h0;rw[Nat.pow_zero] at hz;omega
    ·exact h0
   exact⟨rfl,.inr ⟨⟨b0,by omega⟩,g',_,e1,e2⟩⟩
  ·have h1:0<(d16 (b^i)).length:=by
    unfold d16;rw[List.length_pos_iff,ne_eq,Zcu (by omega)];exact hz
   have hg:=Z8W b n i (b^i) (b^(i+1)) g;rw[ei] at hg;have:=(Zb (s0:=s) ZfX hg (Za (Xa (by rw[zO (h:=pA (b^i)) (b:=0) (A:=b^i) (ty:=tU) rfl,Nat.pow_succ];rfl)) (Za hk (Za (Xa (.inl h1)) (Z4 hlt))))).kept (k:=0) (b:=1) (base:=[]) (y:=wq (b^(i+1))) (front':=pwF b n (sq0 (b^(i+1))) ((i+1:Nat):Int)) rfl (by kernel_rfl) (fun j x hx=>by have:j<0:=Hp.blk_lt hx;omega) rfl (by omega) (ZJ _) (Z2T _ _ _ rfl);refine this.mono fun e z hz'=> ?_;obtain⟨rfl,⟨g',e1⟩,e2⟩:=hz';refine⟨rfl,.inl ⟨fun hc=> ?_,g',e1,e2⟩⟩;obtain⟨b0,i2⟩:=hc;apply hz;rw[b0,Nat.zero_pow (by omega)]
 ·simp only at ht hh;subst ht hh;have hk:Zbh (pA V) none 0 0 (b:Int) 0=true:=by
   unfold Zbh;rw[show zC (pA V) none 0 0=true from rfl,show dgB (Zm (pA V) none 0)=true from rfl,Zl.2 (by omega),Xa ⟨⟨by omega,by omega⟩,by omega,by omega⟩];rfl
  have hg:=Z8Y b n i V g;rw[ei] at hg;refine (Zb (s0:=s) ZfX hg (Za hk (Za (by decide) (Z4 hlt)))).mono fun e z hz'=> ?_;obtain⟨rfl,⟨g',e1⟩,e2⟩:=hz';exact⟨rfl,.inr ⟨⟨hB.1,by omega⟩,g',V,e1,e2⟩⟩
theorem ZnQ {b n:Nat}(hb:b<4294967296) (hn:n≤20000):RunsW (Zk prog Zf Zn ZdJ) (ZZ (pwP f67) (.seq (.seq (pwI f67) (.block 0 (.loop (pwL f67)))) (pwE f67))) ([.int .u32 (b:Int),.int .i64 (n:Int)]++List.replicate 15 undef,⟨0,[]⟩,[]) fun e z=>(e=none∨e=some none)∧((¬ (b=0∧2≤n)∧ZY prog f67 z.1 z.2.1=some (sq0 (b^n))∧∃ r,z.2.1.blk? 0=some (wU (d16 (b^n))++r,tU))∨((b=0∧2≤n)∧ZY prog f67 z.1 z.2.1=some Zo)):=by
 refine Zu ZfX (Z2R b n) (fun x hx=>by cases hx) fun g=> ?_;refine RunsW.seq (P1:=fun e y=>e=none∧pwS b n n y) ?_ ?_ (fun e y hy=>by cases hy.1)
 ·refine RunsW.seq (Zb ZfX (ZCb _ _ _ _ _ _ g _) (fun x hx=>by cases hx)) ?_ (fun e y hy=>by cases hy.1);rintro⟨t,h',s⟩ ⟨_,⟨g',ht⟩,hh⟩;simp only at ht hh;subst ht hh;have lp:=RunsW.forLoop (T:=Zk prog Zf Zn ZdJ) (c:=pwL f67) (id:=0) (P:=pwS b n n) (R:=fun _=>False) (fun k y=>∃ i,k=n-i∧i≤n∧pwS b n i y) (x:=(pwF b n (sq0 1) 0++tl 10 g',pA 1,s)) ?_ (n:=n) ⟨0,by omega,by omega,.inl ⟨by omega,g',by rw[Nat.pow_zero];rfl,by rw[Nat.pow_zero]⟩⟩
  ·refine lp.mono fun e z hz=> ?_
   match e,hz with
   | none,hz=>exact⟨rfl,hz⟩
   | some none,hz=>exact hz.elim
   | some (some _),hz=>exact hz.elim
  ·rintro k y ⟨i,hk,hi,hy⟩;by_cases hlt:i<n
   ·refine (Zsq hb hn hlt hy).mono fun e z hz=> ?_;obtain⟨rfl,hz⟩:=hz;exact⟨n-(i+1),by omega,i+1,rfl,by omega,hz⟩
   ·have e:i=n:=by omega
    subst e;obtain⟨t,h',s⟩:=y;rcases hy with ⟨hA,g,ht,hh⟩ | ⟨hB,g,V,ht,hh⟩
    ·simp only at ht hh;subst ht hh;refine (Zb ZfX (ZB5 b i i _ _ g) (Z4 (Xb (by omega)))).mono fun e z hz=> ?_;obtain⟨rfl,⟨g',e1⟩,e2⟩:=hz;exact⟨rfl,.inl ⟨hA,g',e1,e2⟩⟩
    ·simp only at ht hh;subst ht hh;refine (Zb ZfX (ZB5 b i i _ _ g) (Z4 (Xb (by omega)))).mono fun e z hz=> ?_;obtain⟨rfl,⟨g',e1⟩,e2⟩:=hz;exact⟨rfl,.inr ⟨hB,g',V,e1,e2⟩⟩
 ·rintro⟨t,h',s⟩ ⟨_,hy⟩;rcases hy with ⟨hA,g,ht,hh⟩ | ⟨hB,g,V,ht,hh⟩
  ·simp only at ht hh;subst ht hh;refine (Zb ZfX (ZB6 b n n _ _ g) (fun x hx=>by cases hx)).mono fun e z hz=> ?_;obtain⟨rfl,⟨g',e1⟩,e2⟩:=hz;exact⟨.inr rfl,.inl ⟨hA,by rw[e1,e2];rfl,[],by rw[e2,List.append_nil];rfl⟩⟩
  ·simp only at ht hh;subst ht hh;refine (Zb ZfX (ZB6 b n n _ _ g) (fun x hx=>by cases hx)).mono fun e z hz=> ?_;obtain⟨rfl,⟨g',e1⟩,e2⟩:=hz;exact⟨.inr rfl,.inr ⟨hB,by rw[e1,e2];rfl⟩⟩
def Zg9 (b n:Int):Bool:=decide (0≤b∧b<4294967296∧0≤n∧n≤20000)
def Zsr:Zaf:=fun vals h s=>
 match vals,s with
 | [.int .u32 b,.int .i64 n],.inr (.inr (.inr (.inl d)))::s'=>
  match d,s' with
  | true,.inr (.inl V)::s2=>Zdq V.toNat h s2 [(decide (b.toNat^n.toNat=V.toNat),true),(Zg9 b n,true),(decide (b=0∧2≤n),false)]
  | false,_=>some (Zo,h,s',[(Zg9 b n,true),(decide (b=0∧2≤n),true)])
  | _,_=>none
 | _,_=>none
theorem Zj8:Z8 67 Zsr:=by
 intro vals h s v h' s' lg hg hl m B w E hv;have hr0:(⟨0,[]⟩:Hp).rows:=⟨rfl,fun b x hx=>by have:b<0:=Hp.blk_lt hx;omega⟩;unfold Zsr at hg;split at hg
 ·rename_i b n d s2;split at hg
  ·rename_i V s3;unfold Zdq at hg;cases hg;have l1:=Xc (hl _ Xe);have l2:=Xc (hl _ (Xd _ Xe));have l3:=hl _ (Xd _ (Xd _ Xf));have l3:=of_decide_eq_false l3;obtain⟨b',rfl⟩:=Int.eq_ofNat_of_zero_le l2.1;obtain⟨n',rfl⟩:=Int.eq_ofNat_of_zero_le l2.2.2.1;rw[Xg,Xg] at l1;rw[← l1];have r:=(ZnQ (b:=b') (n:=n') (by omega) (by omega)).mono (P':=fun e z=>(e=none∨e=some none)∧ZY prog f67 z.1 z.2.1=some (sq0 (b'^n'))∧∃ r,z.2.1.blk? 0=some (wU (d16 (b'^n'))++r,tU)) fun e z hz=>⟨hz.1,by
    rcases hz.2 with ⟨_,q⟩ | ⟨q,_⟩
    ·exact q
    ·exact absurd q (by omega)⟩
   have:=ZM (T:=Zk prog Zf Zn ZdJ) func67 ZnP hr0 (vals:=[.int .u32 (b':Int),.int .i64 (n':Int)]) (fun v hv=>by
    simp only[List.mem_cons,List.not_mem_nil,or_false] at hv;rcases hv with rfl | rfl<;>rfl) (k:=0) (cs:=wU (d16 (b'^n'))) (ty:=tU) (Zbf _) (by kernel_rfl) r (by simp [oc,oc2,oc1,sq0,sl]) E (s:=fun i=>i) (fun i x hx _=>by have:i<0:=Hp.blk_lt hx;omega)
   exact this
  ·cases hg;have l2:=Xc (hl _ Xe);have l3:=Xc (hl _ (Xd _ Xf));obtain⟨b',rfl⟩:=Int.eq_ofNat_of_zero_le l2.1;obtain⟨n',rfl⟩:=Int.eq_ofNat_of_zero_le l2.2.2.1;have r:=(ZnQ (b:=b') (n:=n') (by omega) (by omega)).mono (P':=fun e z=>(e=none∨e=some none)∧ZY prog f67 z.1 z.2.1=some Zo) fun e z hz=>⟨hz.1,by
    rcases hz.2 with ⟨q,_⟩ | ⟨_,q⟩
    ·exact absurd (show b'=0∧2≤n' by omega) q
    ·exact q⟩
   have:=Z9 (T:=Zk prog Zf Zn ZdJ) func67 ZnP hr0 (vals:=[.int .u32 (b':Int),.int .i64 (n':Int)]) (fun v hv=>by
    simp only[List.mem_cons,List.not_mem_nil,or_false] at hv;rcases hv with rfl | rfl<;>rfl) (v:=Zo) (by rfl) r E (s:=fun i=>i) (fun i x hx _=>by have:i<0:=Hp.blk_lt hx;omega)
   exact this
  ·cases hg
 ·cases hg
end Go.Proofs.YtgefjidphfdhdaaGreatDoor
namespace Go.Proofs.YtgefjidphfdhdaaGreatDoor.Na
open Go.Proofs.Tryz
open Go.IntKind
open Go.KRun Go.Nt
set_option maxRecDepth 100000
set_option linter.unusedVariables false
def qsn (k:Nat) (F:Func):Code:=match k with | 0=>Zs F | k+1=>Z0 (qsn k F)
def qP (F:Func):List Code:=[Z1 (qsn 0 F),Z1 (qsn 1 F),Z1 (qsn 2 F),Z1 (qsn 3 F)]
def qI (F:Func):Code:=Z1 (Z1 (qsn 4 F))
def qL (F:Func):Code:=cIn (cIn (Z0 (Z1 (qsn 4 F))))
def qE (F:Func):Code:=qsn 5 F
theorem ZnR:f76.body=some (ZZ (qP f76) (.seq (.seq (qI f76) (.block 0 (.loop (qL f76)))) (qE f76))):=by kernel_rfl
theorem Zss:f76.body=some (Zs f76):=by kernel_rfl
def w32 (m:Nat) (V:Nat):List Value×TypeId:=(wU (dg m (V:Int)),tU)
def s32 (k m V:Nat):Value:=sl k 0 (Zi (dg m (V:Int))) m
def qF (b n:Int) (P O:Value) (i:Int):List Value:=[.int .u32 b,.int .i64 n,.tuple #[],.tuple #[],Zo,.nilIface,P,O,.nilIface,.int .i64 i]
def Q2 (b:Nat):Hp:=⟨2,[w32 2 b,w32 2 1]⟩
def Q3 (b m V:Nat):Hp:=⟨3,[w32 m V,w32 2 b,w32 2 1]⟩
def Q4 (b m V M S:Nat):Hp:=⟨4,[w32 M S,w32 m V,w32 2 b,w32 2 1]⟩
def Zj9 (n i:Int):Int:=i64.wrap ((BitVec.ofInt 64 (n.fdiv (2^min i.toNat 64)) &&& BitVec.ofInt 64 1).toNat:Nat)
def q0F (b n:Int) (O:Value):List Value:=[.int .u32 b,.int .i64 n,.tuple #[],.tuple #[],Zo,.nilIface,s32 0 2 1,O,.nilIface]
theorem Z2U (b:Nat) (n:Int):Zg (evL (Zk prog Zf ZaX hcQ) 100 (qP f76) ([.int .u32 (b:Int),.int .i64 n]++List.replicate 54 undef,⟨0,[]⟩,[cmp false,cmp false]) ⟨[],[],[]⟩) 9 47 none (q0F b n (sl 1 0 (Zi (dg 2 (u64.wrap (b:Int)))) 2)) ⟨2,[(wU (dg 2 (u64.wrap (b:Int))),tU),w32 2 1]⟩ [(decide (0≤u64.wrap (b:Int)∧u64.wrap (b:Int)<18446744073709551616),true),(decide (0≤(1:Int)∧(1:Int)<18446744073709551616),true),(decide (n>1000000),false),(decide (n<0),false)]:=by and_intros<;>kernel_rfl
theorem ZCc (b:Nat) (n:Int) (O:Value) (g:Nat→Value) (h:Hp):Zg (evC (Zk prog Zf ZaX hcQ) 100 false (qI f76) (q0F b n O++tl 47 g,h,[]) ⟨[],[],[]⟩) 10 46 none (qF b n (s32 0 2 1) O (i64.wrap (((bitLen (u64.wrap n).toNat:Nat):Int)-1))) h [(decide (0≤u64.wrap n∧u64.wrap n<65536),true)]:=by and_intros<;>kernel_rfl
theorem Zx6 (b n:Int):Zg (evC (Zk prog Zf ZaX hcQ) 100 false (Zs f76) ([.int .u32 b,.int .i64 n]++List.replicate 54 undef,⟨0,[]⟩,[cmp true]) ⟨[],[],[]⟩) 6 50 (some none) [.int .u32 b,.int .i64 n,.tuple #[],undef,Zo,Zdd 1] ⟨0,[]⟩ [(decide (n<0),true)]:=by and_intros<;>kernel_rfl
theorem Zx7 (b n:Int):Zg (evC (Zk prog Zf ZaX hcQ) 100 false (Zs f76) ([.int .u32 b,.int .i64 n]++List.replicate 54 undef,⟨0,[]⟩,[cmp false,cmp true]) ⟨[],[],[]⟩) 6 50 (some none) [.int .u32 b,.int .i64 n,.tuple #[],undef,Zo,Zdd 1] ⟨0,[]⟩ [(decide (n>1000000),true),(decide (n<0),false)]:=by and_intros<;>kernel_rfl
theorem Z8Z (n i:Int) (b m V S:Nat) (g:Nat→Value):Zg (evC (Zk prog Zf ZaX hcQ) 100 false (qL f76) (qF b n (s32 2 m V) (s32 1 2 b) i++tl 46 g,Q3 b m V,[cmp true,cmp false,num S,cmp false]) ⟨[],[],[]⟩) 10 46 none (qF b n (s32 3 (Zi (dg m (V:Int))+Zi (dg m (V:Int))) S) (s32 1 2 b) (i64.wrap (i-1))) (Q4 b m V (Zi (dg m (V:Int))+Zi (dg m (V:Int))) S) [(Zj9 n i==1,false),(decide (i<0),false),(decide (Zil (Zm (Q3 b m V) (some ⟨2,0,none⟩) (Zi (dg m (V:Int)))) (Zm (Q3 b m V) (some ⟨2,0,none⟩) (Zi (dg m (V:Int))))=dg (Zi (dg m (V:Int))+Zi (dg m (V:Int))) (S:Int)),true),(zZ (Q3 b m V) (some ⟨2,0,none⟩) (Zi (dg m (V:Int))) (m),true),(zZ (Q3 b m V) (some ⟨2,0,none⟩) (Zi (dg m (V:Int))) (m),true),(!decide (Zi (dg m (V:Int))=0∨Zi (dg m (V:Int))=0) && Nat.ble (Zi (dg m (V:Int))+Zi (dg m (V:Int))) 8192,true),(decide (i≥0),true)]:=by and_intros<;>kernel_rfl
theorem Z9a (n i:Int) (b m V S W:Nat) (g:Nat→Value):Zg (evC (Zk prog Zf ZaX hcQ) 100 false (qL f76) (qF b n (s32 2 m V) (s32 1 2 b) i++tl 46 g,Q3 b m V,[cmp true,cmp false,num S,cmp true,cmp false,num W]) ⟨[],[],[]⟩) 10 46 none (qF b n (s32 4 (Zi (dg (Zi (dg m (V:Int))+Zi (dg m (V:Int))) (S:Int))+Zi (dg 2 (b:Int))) W) (s32 1 2 b) (i64.wrap (i-1))) ⟨5,[w32 (Zi (dg (Zi (dg m (V:Int))+Zi (dg m (V:Int))) (S:Int))+Zi (dg 2 (b:Int))) W,w32 (Zi (dg m (V:Int))+Zi (dg m (V:Int))) S,w32 m V,w32 2 b,w32 2 1]⟩ [(decide (Zil (Zm (Q4 b m V (Zi (dg m (V:Int))+Zi (dg m (V:Int))) S) (some ⟨3,0,none⟩) (Zi (dg (Zi (dg m (V:Int))+Zi (dg m (V:Int))) (S:Int)))) (Zm (Q4 b m V (Zi (dg m (V:Int))+Zi (dg m (V:Int))) S) (some ⟨1,0,none⟩) (Zi (dg 2 (b:Int))))=dg (Zi (dg (Zi (dg m (V:Int))+Zi (dg m (V:Int))) (S:Int))+Zi (dg 2 (b:Int))) (W:Int)),true),(zZ (Q4 b m V (Zi (dg m (V:Int))+Zi (dg m (V:Int))) S) (some ⟨3,0,none⟩) (Zi (dg (Zi (dg m (V:Int))+Zi (dg m (V:Int))) (S:Int))) (Zi (dg m (V:Int))+Zi (dg m (V:Int))),true),(zZ (Q4 b m V (Zi (dg m (V:Int))+Zi (dg m (V:Int))) S) (some ⟨1,0,none⟩) (Zi (dg 2 (b:Int))) (2),true),(!decide (Zi (dg (Zi (dg m (V:Int))+Zi (dg m (V:Int))) (S:Int))=0∨Zi (dg 2 (b:Int))=0) && Nat.ble (Zi (dg (Zi (dg m (V:Int))+Zi (dg m (V:Int))) (S:Int))+Zi (dg 2 (b:Int))) 8192,true),(Zj9 n i==1,true),(decide (i<0),false),(decide (Zil (Zm (Q3 b m V) (some ⟨2,0,none⟩) (Zi (dg m (V:Int)))) (Zm (Q3 b m V) (some ⟨2,0,none⟩) (Zi (dg m (V:Int))))=dg (Zi (dg m (V:Int))+Zi (dg m (V:Int))) (S:Int)),true),(zZ (Q3 b m V) (some ⟨2,0,none⟩) (Zi (dg m (V:Int))) (m),true),(zZ (Q3 b m V) (some ⟨2,0,none⟩) (Zi (dg m (V:Int))) (m),true),(!decide (Zi (dg m (V:Int))=0∨Zi (dg m (V:Int))=0) && Nat.ble (Zi (dg m (V:Int))+Zi (dg m (V:Int))) 8192,true),(decide (i≥0),true)]:=by and_intros<;>kernel_rfl
theorem Z9b (n i:Int) (b S W:Nat) (g:Nat→Value):Zg (evC (Zk prog Zf ZaX hcQ) 100 false (qL f76) (qF b n (s32 0 2 1) (s32 1 2 b) i++tl 46 g,Q2 b,[cmp true,cmp false,num S,cmp true,cmp false,num W]) ⟨[],[],[]⟩) 10 46 none (qF b n (s32 3 (Zi (dg (Zi (dg 2 ((1:Nat):Int))+Zi (dg 2 ((1:Nat):Int))) (S:Int))+Zi (dg 2 (b:Int))) W) (s32 1 2 b) (i64.wrap (i-1))) ⟨4,[w32 (Zi (dg (Zi (dg 2 ((1:Nat):Int))+Zi (dg 2 ((1:Nat):Int))) (S:Int))+Zi (dg 2 (b:Int))) W,w32 (Zi (dg 2 ((1:Nat):Int))+Zi (dg 2 ((1:Nat):Int))) S,w32 2 b,w32 2 1]⟩ [(decide (Zil (Zm (Q3 b (Zi (dg 2 ((1:Nat):Int))+Zi (dg 2 ((1:Nat):Int))) S) (some ⟨2,0,none⟩) (Zi (dg (Zi (dg 2 ((1:Nat):Int))+Zi (dg 2 ((1:Nat):Int))) (S:Int)))) (Zm (Q3 b (Zi (dg 2 ((1:Nat):Int))+Zi (dg 2 ((1:Nat):Int))) S) (some ⟨1,0,none⟩) (Zi (dg 2 (b:Int))))=dg (Zi (dg (Zi (dg 2 ((1:Nat):Int))+Zi (dg 2 ((1:Nat):Int))) (S:Int))+Zi (dg 2 (b:Int))) (W:Int)),true),(zZ (Q3 b (Zi (dg 2 ((1:Nat):Int))+Zi (dg 2 ((1:Nat):Int))) S) (some ⟨2,0,none⟩) (Zi (dg (Zi (dg 2 ((1:Nat):Int))+Zi (dg 2 ((1:Nat):Int))) (S:Int))) (Zi (dg 2 ((1:Nat):Int))+Zi (dg 2 ((1:Nat):Int))),true),(zZ (Q3 b (Zi (dg 2 ((1:Nat):Int))+Zi (dg 2 ((1:Nat):Int))) S) (some ⟨1,0,none⟩) (Zi (dg 2 (b:Int))) (2),true),(!decide (Zi (dg (Zi (dg 2 ((1:Nat):Int))+Zi (dg 2 ((1:Nat):Int))) (S:Int))=0∨Zi (dg 2 (b:Int))=0) && Nat.ble (Zi (dg (Zi (dg 2 ((1:Nat):Int))+Zi (dg 2 ((1:Nat):Int))) (S:Int))+Zi (dg 2 (b:Int))) 8192,true),(Zj9 n i==1,true),(decide (i<0),false),(decide (Zil (Zm (Q2 b) (some ⟨0,0,none⟩) (Zi (dg 2 ((1:Nat):Int)))) (Zm (Q2 b) (some ⟨0,0,none⟩) (Zi (dg 2 ((1:Nat):Int))))=dg (Zi (dg 2 ((1:Nat):Int))+Zi (dg 2 ((1:Nat):Int))) (S:Int)),true),(zZ (Q2 b) (some ⟨0,0,none⟩) (Zi (dg 2 ((1:Nat):Int))) (2),true),(zZ (Q2 b) (some ⟨0,0,none⟩) (Zi (dg 2 ((1:Nat):Int))) (2),true),(!decide (Zi (dg 2 ((1:Nat):Int))=0∨Zi (dg 2 ((1:Nat):Int))=0) && Nat.ble (Zi (dg 2 ((1:Nat):Int))+Zi (dg 2 ((1:Nat):Int))) 8192,true),(decide (i≥0),true)]:=by and_intros<;>kernel_rfl
theorem Z9c (n i:Int) (b S:Nat) (g:Nat→Value):Zg (evC (Zk prog Zf ZaX hcQ) 100 false (qL f76) (qF b n (s32 0 2 1) (s32 1 2 b) i++tl 46 g,Q2 b,[cmp true,cmp false,num S,cmp true,cmp true]) ⟨[],[],[]⟩) 10 46 none (qF b n Zo (s32 1 2 b) (i64.wrap (i-1))) (Q3 b (Zi (dg 2 ((1:Nat):Int))+Zi (dg 2 ((1:Nat):Int))) S) [(decide (Zi (dg (Zi (dg 2 ((1:Nat):Int))+Zi (dg 2 ((1:Nat):Int))) (S:Int))=0∨Zi (dg 2 (b:Int))=0),true),(Zj9 n i==1,true),(decide (i<0),false),(decide (Zil (Zm (Q2 b) (some ⟨0,0,none⟩) (Zi (dg 2 ((1:Nat):Int)))) (Zm (Q2 b) (some ⟨0,0,none⟩) (Zi (dg 2 ((1:Nat):Int))))=dg (Zi (dg 2 ((1:Nat):Int))+Zi (dg 2 ((1:Nat):Int))) (S:Int)),true),(zZ (Q2 b) (some ⟨0,0,none⟩) (Zi (dg 2 ((1:Nat):Int))) (2),true),(zZ (Q2 b) (some ⟨0,0,none⟩) (Zi (dg 2 ((1:Nat):Int))) (2),true),(!decide (Zi (dg 2 ((1:Nat):Int))=0∨Zi (dg 2 ((1:Nat):Int))=0) && Nat.ble (Zi (dg 2 ((1:Nat):Int))+Zi (dg 2 ((1:Nat):Int))) 8192,true),(decide (i≥0),true)]:=by and_intros<;>kernel_rfl
theorem Z9d (n i:Int) (b m V:Nat) (g:Nat→Value):Zg (evC (Zk prog Zf ZaX hcQ) 100 false (qL f76) (qF b n Zo (s32 1 2 b) i++tl 46 g,Q3 b m V,[cmp true,cmp true,cmp false]) ⟨[],[],[]⟩) 10 46 none (qF b n Zo (s32 1 2 b) (i64.wrap (i-1))) (Q3 b m V) [(Zj9 n i==1,false),(decide (i<0),false),(decide (0=0∨0=0),true),(decide (i≥0),true)]:=by and_intros<;>kernel_rfl
theorem Z9e (n i:Int) (b m V:Nat) (g:Nat→Value):Zg (evC (Zk prog Zf ZaX hcQ) 100 false (qL f76) (qF b n Zo (s32 1 2 b) i++tl 46 g,Q3 b m V,[cmp true,cmp true,cmp true,cmp true]) ⟨[],[],[]⟩) 10 46 none (qF b n Zo (s32 1 2 b) (i64.wrap (i-1))) (Q3 b m V) [(decide (0=0∨Zi (dg 2 (b:Int))=0),true),(Zj9 n i==1,true),(decide (i<0),false),(decide (0=0∨0=0),true),(decide (i≥0),true)]:=by and_intros<;>kernel_rfl
theorem ZCd (n i:Int) (b:Nat) (P O:Value) (h:Hp) (g:Nat→Value):Zg (evC (Zk prog Zf ZaX hcQ) 100 false (qL f76) (qF b n P O i++tl 46 g,h,[cmp false]) ⟨[],[],[]⟩) 10 46 (some (some 0)) (qF b n P O i) h [(decide (i≥0),false)]:=by and_intros<;>kernel_rfl
theorem Z9f (n i:Int) (b:Nat) (P O:Value) (h:Hp) (g:Nat→Value):Zg (evC (Zk prog Zf ZaX hcQ) 100 false (qE f76) (qF b n P O i++tl 46 g,h,[]) ⟨[],[],[]⟩) 6 50 (some none) [.int .u32 (b:Int),.int .i64 n,.tuple #[],.tuple #[],P,.nilIface] h []:=by and_intros<;>kernel_rfl
def nw (V:Nat):Nat:=(d32 V).length
def pM (b j:Nat):Nat:=if j=0 then 2 else if j % 2=1 then nw (b^(j-1))+nw b else nw (b^(j/2))+nw (b^(j/2))
theorem ZjA:TabOk (Zk prog Zf ZaX hcQ):=Zh Zso ZaS
theorem Ze5 {V k:Nat}(h:V<4294967296^k):nw V≤k:=Zb6 (by omega) k V h
theorem Zla (V:Nat):V<4294967296^nw V:=by
 have:=Zby (b:=4294967296) (by omega) (d32 V) (ZkA (by omega) V);rw[show vb 4294967296 (d32 V)=V from ZbV (by omega) V] at this;exact this
theorem ZjB {V:Nat}(h:0<V):0<nw V:=(Zdt (by omega)).2 h
theorem Zx8:nw 0=0:=by unfold nw d32;rw[ze];rfl
theorem Zst {m V:Nat}(h:V<4294967296^m) (hm:m≤1000):Zi (dg m (V:Int))=nw V:=
 (Zis (H:=⟨1,[w32 m V]⟩) (b:=0) rfl h hm).2.2.2.1
theorem Z9g {b j:Nat}(hb:b<4294967296) (hj:1≤j):b^j<4294967296^j:=Nat.pow_lt_pow_left hb (by omega)
theorem Z2V {b j:Nat}(hb:b<4294967296):nw (b^j)≤j+1:=by
 by_cases h:1≤j
 ·have:=Ze5 (Z9g hb h);omega
 ·have:j=0:=by omega
  subst this;rw[Nat.pow_zero];exact Ze5 (by decide)
theorem Zx9 {n i:Nat}(hn:n<65536) (hi:i<64):Zj9 (n:Int) (i:Int)=((n/2^i % 2:Nat):Int):=by
 have e:(n:Int).fdiv (2^min (i:Int).toNat 64)=((n/2^i:Nat):Int):=by
  rw[Xg,show min i 64=i by omega,Int.fdiv_eq_ediv_of_nonneg _ (Int.le_of_lt (Int.pow_pos (by omega)))];simp
 have hl:n/2^i≤n:=Nat.div_le_self _ _;unfold Zj9;rw[e,BitVec.toNat_and,show (BitVec.ofInt 64 1).toNat=1 from rfl,Nat.and_one_is_mod,BitVec.toNat_ofInt];have h2:((2^64:Nat):Int)=18446744073709551616:=rfl;rw[Zw (by omega) (by omega)];omega
theorem ZxA (b:Nat) {h:Hp}(h0:h.blk? 0=some (w32 2 1)) (h1:h.blk? 1=some (w32 2 b)):∀ i x,(⟨2,[w32 2 b,w32 2 1]⟩:Hp).blk? i=some x→h.blk? i=some x∧∀ v∈x.1,still v=true:=by
 intro i x hx;have hi:i<2:=Hp.blk_lt hx
 match i,hi,hx with
 | 0,_,hx=>
  have e:x=w32 2 1:=(Option.some.inj hx).symm;subst e;exact⟨h0,ZJ _⟩
 | 1,_,hx=>
  have e:x=w32 2 b:=(Option.some.inj hx).symm;subst e;exact⟨h1,ZJ _⟩
theorem ZxB (b n:Int) {P O:Value}(i:Int) (hP:lt 3 P=true) (hO:lt 3 O=true):∀ v∈qF b n P O i,lt 3 v=true:=by
 intro v hv;unfold qF at hv;simp only[List.mem_cons,List.not_mem_nil,or_false] at hv;rcases hv with rfl | rfl | rfl | rfl | rfl | rfl | rfl | rfl | rfl | rfl<;>first | rfl | exact hP | exact hO
def nS (b n k:Nat) (y:Lf):Prop:=∃ g,(n/2^k=0∧y.1=qF b n (s32 0 2 1) (s32 1 2 b) ((k:Int)-1)++tl 46 g∧y.2.1=Q2 b)∨
 (1≤n/2^k∧0<b∧y.1=qF b n (s32 2 (pM b (n/2^k)) (b^(n/2^k))) (s32 1 2 b) ((k:Int)-1)++tl 46 g∧y.2.1=Q3 b (pM b (n/2^k)) (b^(n/2^k)))∨
 (1≤n/2^k∧b=0∧∃ m V,y.1=qF b n Zo (s32 1 2 b) ((k:Int)-1)++tl 46 g∧y.2.1=Q3 b m V)
theorem Zsu {b n:Nat}(hb:b<4294967296) (hn:n≤300):∀ j,j≤n→nw (b^j)≤400:=fun j hj=>by
 have:=Z2V (b:=b) (j:=j) hb;omega
theorem ZuM {n:Nat}(hn:n≤2000):∀ j,j≤n→nw (10^j)≤400:=fun j hj=>by
 have h:(10:Nat)^j<4294967296^(j/9+1):=by
  refine Nat.lt_of_le_of_lt (Nat.pow_le_pow_right (by omega) (show j≤9*(j/9+1) by omega)) ?_;rw[Nat.pow_mul];exact Nat.pow_lt_pow_left (by decide) (by omega)
 have:=Ze5 h;omega
theorem Z2W {b j n:Nat}(hw:∀ j,j≤n→nw (b^j)≤400) (hb:b<4294967296) (hj:j≤n) (hj0:1≤j):b^j<4294967296^pM b j∧pM b j≤1000:=by
 unfold pM;rw[if_neg (by omega)];by_cases h:j % 2=1
 ·rw[if_pos h];have e:b^j=b^(j-1)*b:=by rw[← Nat.pow_succ];congr 1;omega
  have l1:=Zla (b^(j-1));have l2:=Zla b;have k1:=hw (j-1) (by omega);have k2:nw b≤1:=Ze5 (by omega);refine⟨?_,by omega⟩;rw[e,Nat.pow_add];exact Nat.mul_lt_mul'' l1 l2
 ·rw[if_neg h];have e:b^j=b^(j/2)*b^(j/2):=by rw[← Nat.pow_add];congr 1;omega
  have l1:=Zla (b^(j/2));have k1:=hw (j/2) (by omega);refine⟨?_,by omega⟩;rw[e,Nat.pow_add];exact Nat.mul_lt_mul'' l1 l1
theorem ZjC {x y:Nat}(hx:0<x) (hy:0<y) (h:x+y≤8192):(!decide (x=0∨y=0) && Nat.ble (x+y) 8192)=true:=by
 rw[Xb (by omega),Nat.ble_eq_true_of_le h];rfl
theorem Zsv {b n k:Nat}(hb:b<4294967296) (hn:n≤2000) (hw:∀ j,j≤n→nw (b^j)≤400) (hk:k≤20) {y:Lf}(h:nS b n (k+1) y) (ht:n/2^(k+1)=0→n/2^k % 2=1):RunsW (Zk prog Zf ZaX hcQ) (qL f76) y fun e z=>e=none∧nS b n k z:=by
 obtain⟨t,h',s⟩:=y;obtain⟨i,hi⟩:∃ i:Int,i=((k+1:Nat):Int)-1:=⟨_,rfl⟩;have hik:i=(k:Int):=by omega
 have hi0:i≥0:=by omega
 have hiF:decide (i<0)=false:=Xb (by omega);have ei:i64.wrap (i-1)=(k:Int)-1:=by rw[Zw (by omega) (by omega)];omega
 have eb:Zj9 (n:Int) i=((n/2^k % 2:Nat):Int):=by rw[hik];exact Zx9 (by omega) (by omega)
 have dd:n/2^k=2*(n/2^(k+1))+n/2^k % 2:=by
  rw[Nat.pow_succ,← Nat.div_div_eq_div_mul];omega
 have jn:n/2^k≤n:=Nat.div_le_self _ _;have kb:nw b≤1:=Ze5 (by omega);have tb:=Zst (m:=2) (V:=b) (by have:(4294967296:Nat)^2=18446744073709551616:=rfl;omega) (by omega);have lt1:KRun.lt 3 (s32 1 2 b)=true:=rfl;have bN:b<4294967296^2:=by have:(4294967296:Nat)^2=18446744073709551616:=rfl;omega
 generalize hj:n/2^(k+1)=j at*;generalize hj':n/2^k=j' at*;obtain⟨g,hy⟩:=h;rw[hj] at hy;rcases hy with ⟨j0,ht',hh⟩ | ⟨j1,b0,ht',hh⟩ | ⟨j1,b0,m,V,ht',hh⟩
 ·have hbit:=ht j0;have j'1:j'=1:=by omega
  simp only at ht' hh;rw[← hi] at ht';subst ht' hh;have hbt:(Zj9 (n:Int) i==1)=true:=by rw[eb,hbit];rfl
  have n1:Zi (dg 2 ((1:Nat):Int))=1:=by decide
  have r1:=Zis (H:=Q2 b) (b:=0) (V:=1) (m:=2) rfl (by decide) (by omega);have z1:(!decide (Zi (dg 2 ((1:Nat):Int))=0∨Zi (dg 2 ((1:Nat):Int))=0) && Nat.ble (Zi (dg 2 ((1:Nat):Int))+Zi (dg 2 ((1:Nat):Int))) 8192)=true:=ZjC (by omega) (by omega) (by omega);by_cases b0:0<b
  ·have e2:Zi (dg (Zi (dg 2 ((1:Nat):Int))+Zi (dg 2 ((1:Nat):Int))) ((1:Nat):Int))=1:=by decide
   have r2:=Zis (H:=Q3 b (Zi (dg 2 ((1:Nat):Int))+Zi (dg 2 ((1:Nat):Int))) 1) (b:=2) (V:=1) (m:=Zi (dg 2 ((1:Nat):Int))+Zi (dg 2 ((1:Nat):Int))) rfl (by decide) (by omega);have r3:=Zis (H:=Q3 b (Zi (dg 2 ((1:Nat):Int))+Zi (dg 2 ((1:Nat):Int))) 1) (b:=1) (V:=b) (m:=2) rfl bN (by omega);have pb:=ZjB b0;have hg:=Z9b n i b 1 (1*b) g;rw[ei] at hg;have z2:=ZjC (x:=Zi (dg (Zi (dg 2 ((1:Nat):Int))+Zi (dg 2 ((1:Nat):Int))) ((1:Nat):Int))) (y:=Zi (dg 2 (b:Int))) (by omega) (by omega) (by omega);have hp:pM b 1=Zi (dg (Zi (dg 2 ((1:Nat):Int))+Zi (dg 2 ((1:Nat):Int))) ((1:Nat):Int))+Zi (dg 2 (b:Int)):=by
    rw[e2,tb];unfold pM;rw[if_neg (by omega),if_pos (by omega),Nat.sub_self,Nat.pow_zero];rw[show nw 1=1 from by
     have:=Zst (m:=2) (V:=1) (by decide) (by omega);rw[← this];exact n1]
   have run:=Zb (s0:=s) ZjA hg (Za (Zxz r2 r3) (Za (rX r2) (Za (rX r3) (Za z2 (Za hbt (Za hiF (Za (Zxz r1 r1) (Za (rX r1) (Za (rX r1) (Za z1 (Z4 (Xa hi0))))))))))));rw[← hp,Nat.one_mul] at run;have:=run.kept (k:=2) (b:=3) (base:=[w32 2 b,w32 2 1]) (y:=w32 (pM b 1) b) (front':=qF b n (s32 2 (pM b 1) b) (s32 1 2 b) ((k:Int)-1)) rfl (by kernel_rfl) (ZxA b rfl rfl) rfl (by omega) (ZJ _) (ZxB _ _ _ rfl rfl);refine this.mono fun e z hz=> ?_;obtain⟨rfl,⟨g',e1⟩,e2'⟩:=hz;refine⟨rfl,g',.inr (.inl ⟨by omega,b0,?_,?_⟩)⟩
   ·rw[hj',j'1,Nat.pow_one];exact e1
   ·rw[hj',j'1,Nat.pow_one];exact e2'
  ·have bz:b=0:=by omega
   have hg:=Z9c n i b 1 g;rw[ei] at hg;have run:=Zb (s0:=s) ZjA hg (Za (Xa (.inr (by rw[tb,bz,Zx8]))) (Za hbt (Za hiF (Za (Zxz r1 r1) (Za (rX r1) (Za (rX r1) (Za z1 (Z4 (Xa hi0)))))))));refine run.mono fun e z hz=> ?_;obtain⟨rfl,⟨g',e1⟩,e2'⟩:=hz;exact⟨rfl,g',.inr (.inr ⟨by rw[hj'];omega,bz,_,_,e1,e2'⟩)⟩
 ·simp only at ht' hh;rw[← hi] at ht';have hm:pM b j=pM b j:=rfl;obtain⟨m,em⟩:∃ m,m=pM b j:=⟨_,rfl⟩;obtain⟨V,eV⟩:∃ V,V=b^j:=⟨_,rfl⟩;rw[← em,← eV] at ht' hh;obtain⟨p1,p2⟩:=Z2W hw hb (show j≤n by omega) j1;rw[← em,← eV] at p1;rw[← em] at p2;subst ht' hh;have V0:0<V:=by rw[eV];exact Nat.pow_pos b0
  have tV:=Zst p1 p2;have pV:=ZjB V0;have lV:nw V≤400:=by rw[eV];exact hw j (by omega)
  have r1:=Zis (H:=Q3 b m V) (b:=2) (V:=V) (m:=m) rfl p1 p2;have z1:=ZjC (x:=Zi (dg m (V:Int))) (y:=Zi (dg m (V:Int))) (by omega) (by omega) (by omega);have eS:V*V=b^(2*j):=by rw[eV,← Nat.pow_add];congr 1;omega
  by_cases hbit:j' % 2=1
  ·have hbt:(Zj9 (n:Int) i==1)=true:=by rw[eb,hbit];rfl
   have j'e:j'=2*j+1:=by omega
   have pb:=ZjB b0;obtain⟨S,hS⟩:∃ S,S=V*V:=⟨_,rfl⟩;have sB:S<4294967296^(Zi (dg m (V:Int))+Zi (dg m (V:Int))):=by
    rw[hS,Nat.pow_add,tV];exact Nat.mul_lt_mul'' (Zla V) (Zla V)
   have sm:Zi (dg m (V:Int))+Zi (dg m (V:Int))≤1000:=by omega
   have tS:=Zst sB sm;have S0:0<S:=by rw[hS];exact Nat.mul_pos V0 V0
   have pS:=ZjB S0;have lS:nw S≤400:=by rw[hS,eS];exact hw (2*j) (by omega)
   have r2:=Zis (H:=Q4 b m V (Zi (dg m (V:Int))+Zi (dg m (V:Int))) S) (b:=3) (V:=S) (m:=Zi (dg m (V:Int))+Zi (dg m (V:Int))) rfl sB sm;have r3:=Zis (H:=Q4 b m V (Zi (dg m (V:Int))+Zi (dg m (V:Int))) S) (b:=1) (V:=b) (m:=2) rfl bN (by omega);have z2:=ZjC (x:=Zi (dg (Zi (dg m (V:Int))+Zi (dg m (V:Int))) (S:Int))) (y:=Zi (dg 2 (b:Int))) (by omega) (by omega) (by omega);have rm:=Zxz r1 r1;rw[← hS] at rm;have hg:=Z9a n i b m V S (S*b) g;rw[ei] at hg;have hp:pM b j'=Zi (dg (Zi (dg m (V:Int))+Zi (dg m (V:Int))) (S:Int))+Zi (dg 2 (b:Int)):=by
    rw[tS,tb];unfold pM;rw[if_neg (by omega),if_pos hbit,hS,eS,j'e,Nat.add_sub_cancel]
   have run:=Zb (s0:=s) ZjA hg (Za (Zxz r2 r3) (Za (rX r2) (Za (rX r3) (Za z2 (Za hbt (Za hiF (Za rm (Za (rX r1) (Za (rX r1) (Za z1 (Z4 (Xa hi0))))))))))));have hW:S*b=b^j':=by rw[hS,eS,j'e,Nat.pow_succ]
   rw[← hp,hW] at run;have:=run.kept (k:=2) (b:=4) (base:=[w32 2 b,w32 2 1]) (y:=w32 (pM b j') (b^j')) (front':=qF b n (s32 2 (pM b j') (b^j')) (s32 1 2 b) ((k:Int)-1)) rfl (by kernel_rfl) (ZxA b rfl rfl) rfl (by omega) (ZJ _) (ZxB _ _ _ rfl rfl);refine this.mono fun e z hz=> ?_;obtain⟨rfl,⟨g',e1⟩,e2'⟩:=hz;refine⟨rfl,g',.inr (.inl ⟨by omega,b0,?_,?_⟩)⟩
   ·rw[hj'];exact e1
   ·rw[hj'];exact e2'
  ·have hbt:(Zj9 (n:Int) i==1)=false:=by rw[eb,show j' % 2=0 by omega];rfl
   have j'e:j'=2*j:=by omega
   have hg:=Z8Z n i b m V (V*V) g;rw[ei] at hg;have hp:pM b j'=Zi (dg m (V:Int))+Zi (dg m (V:Int)):=by
    rw[tV,eV];unfold pM;rw[if_neg (by omega),if_neg hbit,j'e,Nat.mul_div_cancel_left _ (by omega)]
   have run:=Zb (s0:=s) ZjA hg (Za hbt (Za hiF (Za (Zxz r1 r1) (Za (rX r1) (Za (rX r1) (Za z1 (Z4 (Xa hi0))))))));have hW:V*V=b^j':=by rw[eS,j'e]
   rw[← hp,hW] at run;have:=run.kept (k:=2) (b:=3) (base:=[w32 2 b,w32 2 1]) (y:=w32 (pM b j') (b^j')) (front':=qF b n (s32 2 (pM b j') (b^j')) (s32 1 2 b) ((k:Int)-1)) rfl (by kernel_rfl) (ZxA b rfl rfl) rfl (by omega) (ZJ _) (ZxB _ _ _ rfl rfl);refine this.mono fun e z hz=> ?_;obtain⟨rfl,⟨g',e1⟩,e2'⟩:=hz;refine⟨rfl,g',.inr (.inl ⟨by omega,b0,?_,?_⟩)⟩
   ·rw[hj'];exact e1
   ·rw[hj'];exact e2'
 ·simp only at ht' hh;rw[← hi] at ht';subst ht' hh;by_cases hbit:j' % 2=1
  ·have hbt:(Zj9 (n:Int) i==1)=true:=by rw[eb,hbit];rfl
   have hg:=Z9e n i b m V g;rw[ei] at hg;refine (Zb (s0:=s) ZjA hg (Za (Xa (.inl rfl)) (Za hbt (Za hiF (Za (by decide) (Z4 (Xa hi0))))))).mono fun e z hz=> ?_;obtain⟨rfl,⟨g',e1⟩,e2'⟩:=hz;exact⟨rfl,g',.inr (.inr ⟨by rw[hj'];omega,b0,m,V,e1,e2'⟩)⟩
  ·have hbt:(Zj9 (n:Int) i==1)=false:=by rw[eb,show j' % 2=0 by omega];rfl
   have hg:=Z9d n i b m V g;rw[ei] at hg;refine (Zb (s0:=s) ZjA hg (Za hbt (Za hiF (Za (by decide) (Z4 (Xa hi0)))))).mono fun e z hz=> ?_;obtain⟨rfl,⟨g',e1⟩,e2'⟩:=hz;exact⟨rfl,g',.inr (.inr ⟨by rw[hj'];omega,b0,m,V,e1,e2'⟩)⟩
end Go.Proofs.YtgefjidphfdhdaaGreatDoor.Na
namespace Go.Proofs.YtgefjidphfdhdaaGreatDoor.Na
open Go.Proofs.Tryz
open Go.KRun Go.Nt
set_option maxRecDepth 100000
def fN (k:Int) (e:Value):List Value:=[Zo,i6' k,undef,undef,Zo,e]
theorem Zsw (k:Int):Zg (evC (Zk prog Zf Zn hcS) 200 false (Zs f77) ([Zo,i6' k]++List.replicate 45 undef,⟨0,[]⟩,[cmp true]) ⟨[],[],[]⟩) 6 41 (some none) (fN k (Zdd 1)) ⟨0,[]⟩ [(decide (k<0),true)]:=by and_intros<;>kernel_rfl
theorem Zsx (k:Int):Zg (evC (Zk prog Zf Zn hcS) 200 false (Zs f77) ([Zo,i6' k]++List.replicate 45 undef,⟨0,[]⟩,[cmp false]) ⟨[],[],[]⟩) 6 41 (some none) (fN k .nilIface) ⟨0,[]⟩ [(decide (k<0),false)]:=by and_intros<;>kernel_rfl
def Z7n (d:Bool):Value:=match d with | true=>Zdd 1 | false=> .nilIface
theorem ZnS (k:Int) (d:Bool) (hd:decide (k<0)=d):Runs (Zk prog Zf Zn hcS) (Zs f77) ([Zo,i6' k]++List.replicate 45 undef,⟨0,[]⟩,[]) fun e' y=>(e'=none∨e'=some none)∧ZY prog f77 y.1 y.2.1=some (.tuple #[Zo,Z7n d]):=by
 cases d with
 | true=>
  refine (Zc (Zh Zd Zju) (Zsw k) (Zv hd)).mono fun e' y he=> ?_;obtain⟨rfl,⟨g,e2⟩,e3⟩:=he;refine⟨.inr rfl,?_⟩;rw[e2,e3];rfl
 | false=>
  refine (Zc (Zh Zd Zju) (Zsx k) (Zv hd)).mono fun e' y he=> ?_;obtain⟨rfl,⟨g,e2⟩,e3⟩:=he;refine⟨.inr rfl,?_⟩;rw[e2,e3];rfl
def Zlb:Zaf:=fun vals h s=>
 match vals with
 | [.slice none 0 0,.int .i64 k]=>
  match s with
  | .inr (.inr (.inr (.inl d)))::s'=>some (.tuple #[Zo,Z7n d],h,s',[(decide (k<0),d)])
  | _=>none
 | _=>ZwM vals h s
theorem Zck:Z8 77 Zlb:=by
 intro vals h s v h' s' lg hg hl m B w E hv;unfold Zlb at hg;split at hg
 ·rename_i k;split at hg
  ·rename_i d s2;cases hg;have hd:=hl _ Xf;have e0:rn (fun b=>b) (.tuple #[Zo,Z7n d])= .tuple #[Zo,Z7n d]:=by cases d<;>exact ZdP (by rfl)
   have:=zu (T:=Zk prog Zf Zn hcS) func77 ZfS (h0:=⟨0,[]⟩) ⟨rfl,fun b x hb=>absurd (Hp.blk_lt hb) (Nat.not_lt_zero _)⟩ (vals:=[Zo,i6' k]) (fun v hv=>by
    simp only[List.mem_cons,List.not_mem_nil,or_false] at hv;rcases hv with rfl | rfl<;>rfl) (by cases d<;>rfl) (ZnS k d hd) E (s:=fun b=>b) (fun i hi=>absurd hi (Nat.not_lt_zero _)) (fun i x hi=>absurd (Hp.blk_lt hi) (Nat.not_lt_zero _))
   rw[e0] at this;exact this.mono fun e w' he=>⟨m,he.1,he.2⟩
  ·cases hg
 ·exact ZwN _ _ _ _ _ _ _ hg hl m B w E hv
end Go.Proofs.YtgefjidphfdhdaaGreatDoor.Na
namespace Go.Proofs.YtgefjidphfdhdaaGreatDoor.Na
open Go.KRun Go.Nt
set_option maxRecDepth 100000
set_option linter.unusedVariables false
def sM (n:Nat) (k:Int):Nat:=k.toNat/32+(n+1)
def Zsy:Zaf:=fun vals h s=>
 match vals,s with
 | [.slice p n c,.int .i64 k],.inr (.inr (.inr (.inl true)))::s'=>some (.tuple #[Zo,Zdd 1],h,s',[(zZ h p n c,true),(ZU (Zm h p n) || decide (k<0),true)])
 | [.slice p n c,.int .i64 k],.inr (.inr (.inr (.inl false))):: .inr (.inr (.inr (.inl true)))::s'=>some (.tuple #[Zo,.nilIface],h,s',[(zZ h p n c,true),(ZU (Zm h p n) || decide (k<0),false),(decide (n=0),true)])
 | [.slice p n c,.int .i64 k],.inr (.inr (.inr (.inl false))):: .inr (.inr (.inr (.inl false))):: .inr (.inr (.inr (.inl true)))::s'=>some (.tuple #[Zo,Zdd 2],h,s',[(zZ h p n c,true),(ZU (Zm h p n) || decide (k<0),false),(decide (n=0),false),(decide (k>262144-ZeL (Zm h p n)),true)])
 | [.slice p n c,.int .i64 k],.inr (.inr (.inr (.inl false))):: .inr (.inr (.inr (.inl false))):: .inr (.inr (.inr (.inl false))):: .inr (.inl V)::s'=>some (.tuple #[sl h.n 0 (Zi (dg (sM n k) V)) (sM n k),.nilIface],h.push (wU (dg (sM n k) V)) tU,s',[(decide (ZhQ (Zm h p n) k.toNat=dg (sM n k) V),true),(zZ h p n c,true),(ZU (Zm h p n) || decide (k<0),false),(decide (n=0),false),(decide (k>262144-ZeL (Zm h p n)),false)])
 | _,_=>none
theorem ZjD:Z8 77 Zsy:=by
 intro vals h s v h' s' lg hg hl m B w E hv;unfold Zsy at hg;split at hg
 ·rename_i p n c k s2;cases hg;have l1:=hl _ (Xe);have l2:=hl _ (Xd _ Xf);simp only at l1 l2;rcases ZH l1 with ⟨rfl,rfl,rfl,e0⟩ | ⟨b,o,x,rfl,hx,r1,e0⟩<;>rw[e0] at l2
  ·rw[Zb0,Bool.false_or] at l2;exact Zck _ h [cmp true] _ _ [] [(decide (k<0),true)] rfl (Z4 l2) m B w E hv
  ·exact Zck _ h [cmp true] _ _ [] [(Z7 x.2 x.1 o n c,true),(ZU (Zz x.1 o n) || decide (k<0),true)] (by simp only[Zlb,ZwM,hx]) (Za r1 (Z4 l2)) m B w E hv
 ·rename_i p n c k s2;cases hg;have l1:=hl _ (Xe);have l2:=hl _ (Xd _ Xe);have l3:=hl _ (Xd _ (Xd _ Xf));simp only at l1 l2 l3;rcases ZH l1 with ⟨rfl,rfl,rfl,e0⟩ | ⟨b,o,x,rfl,hx,r1,e0⟩<;>rw[e0] at l2
  ·rw[Zb0,Bool.false_or] at l2;exact Zck _ h [cmp false] _ _ [] [(decide (k<0),false)] rfl (Z4 l2) m B w E hv
  ·exact Zck _ h [cmp false,cmp true] _ _ [] [(Z7 x.2 x.1 o n c,true),(ZU (Zz x.1 o n) || decide (k<0),false),(decide (n=0),true)] (by simp only[Zlb,ZwM,hx]) (Za r1 (Za l2 (Z4 l3))) m B w E hv
 ·rename_i p n c k s2;cases hg;have l1:=hl _ (Xe);have l2:=hl _ (Xd _ Xe);have l3:=hl _ (Xd _ (Xd _ Xe));have l4:=hl _ (Xd _ (Xd _ (Xd _ Xf)));simp only at l1 l2 l3 l4;rcases ZH l1 with ⟨rfl,rfl,rfl,e0⟩ | ⟨b,o,x,rfl,hx,r1,e0⟩
  ·exact absurd rfl (of_decide_eq_false l3)
  ·rw[e0] at l2 l4;exact Zck _ h [cmp false,cmp false,cmp true] _ _ [] [(Z7 x.2 x.1 o n c,true),(ZU (Zz x.1 o n) || decide (k<0),false),(decide (n=0),false),(decide (k>262144-ZeL (Zz x.1 o n)),true)] (by simp only[Zlb,ZwM,hx]) (Za r1 (Za l2 (Za l3 (Z4 l4)))) m B w E hv
 ·rename_i p n c k V s2;cases hg;have l0:=Xc (hl _ (Xe));have l1:=hl _ (Xd _ Xe);have l2:=hl _ (Xd _ (Xd _ Xe));have l3:=hl _ (Xd _ (Xd _ (Xd _ Xe)));have l4:=hl _ (Xd _ (Xd _ (Xd _ (Xd _ Xf))));simp only at l1 l2 l3 l4;rcases ZH l1 with ⟨rfl,rfl,rfl,e0⟩ | ⟨b,o,x,rfl,hx,r1,e0⟩
  ·exact absurd rfl (of_decide_eq_false l3)
  ·rw[e0] at l0 l2 l4;rw[← l0];exact Zck _ h [cmp false,cmp false,cmp false] _ _ [] [(Z7 x.2 x.1 o n c,true),(ZU (Zz x.1 o n) || decide (k<0),false),(decide (n=0),false),(decide (k>262144-ZeL (Zz x.1 o n)),false)] (by simp only[Zlb,ZwM,hx];rfl) (Za r1 (Za l2 (Za l3 (Z4 l4)))) m B w E hv
 ·cases hg
end Go.Proofs.YtgefjidphfdhdaaGreatDoor.Na
namespace Go.Proofs.YtgefjidphfdhdaaGreatDoor.Na
open Go.Proofs.Tryz
open Go.IntKind
open Go.KRun Go.Nt
set_option maxRecDepth 100000
set_option linter.unusedVariables false
theorem ZnT {b n:Nat}(hb:b<4294967296) (hn:n≤2000) (hw:∀ j,j≤n→nw (b^j)≤400):RunsW (Zk prog Zf ZaX hcQ) (ZZ (qP f76) (.seq (.seq (qI f76) (.block 0 (.loop (qL f76)))) (qE f76))) ([.int .u32 (b:Int),.int .i64 (n:Int)]++List.replicate 54 undef,⟨0,[]⟩,[]) fun e z=>(e=none∨e=some none)∧((¬ (b=0∧1≤n)∧∃ k,ZY prog f76 z.1 z.2.1=some (.tuple #[s32 k (pM b n) (b^n),.nilIface])∧∃ r,z.2.1.blk? k=some (wU (dg (pM b n) ((b^n:Nat):Int))++r,tU))∨((b=0∧1≤n)∧ZY prog f76 z.1 z.2.1=some (.tuple #[Zo,.nilIface]))):=by
 have eb:u64.wrap (b:Int)=(b:Int):=by simp [IntKind.wrap,IntKind.bits,IntKind.signed];omega
 have en:u64.wrap (n:Int)=(n:Int):=by simp [IntKind.wrap,IntKind.bits,IntKind.signed];omega
 have hp:=Z2U b n;rw[eb] at hp;have hi:=ZCc b n;rw[en,Xg] at hi;have hl9:bitLen n≤11:=by
  obtain⟨s1,s2⟩:=bitLen_spec n;rcases Nat.lt_or_ge 11 (bitLen n) with h | h
  ·have h0:n≠0:=by rintro rfl;simp [bitLen] at h
   have h1:=s2 h0;have h2:2^11≤2^(bitLen n-1):=Nat.pow_le_pow_right (by omega) (by omega);have h3:(2:Nat)^11=2048:=rfl;omega
  ·exact h
 have hz:n/2^bitLen n=0:=Nat.div_eq_of_lt (bitLen_spec n).1;have ew:i64.wrap (((bitLen n:Nat):Int)-1)=((bitLen n:Nat):Int)-1:=Zw (by omega) (by omega);rw[ew] at hi;refine Zu ZjA hp (Za (Xa ⟨by omega,by omega⟩) (Za (by decide) (Za (Xb (by omega)) (Z4 (Xb (by omega)))))) fun g=> ?_;refine RunsW.seq (P1:=fun e y=>e=none∧nS b n 0 y) ?_ ?_ (fun e y hy=>by cases hy.1)
 ·refine RunsW.seq (Zb ZjA (hi (s32 1 2 b) g (Q2 b)) (Z4 (Xa ⟨by omega,by omega⟩))) ?_ (fun e y hy=>by cases hy.1);rintro⟨t,h',s⟩ ⟨_,⟨g',ht⟩,hh⟩;simp only at ht hh;subst ht hh;have lp:=RunsW.forLoop (T:=Zk prog Zf ZaX hcQ) (c:=qL f76) (id:=0) (P:=nS b n 0) (R:=fun _=>False) (fun k y=>k≤bitLen n∧nS b n k y) (x:=(qF b n (s32 0 2 1) (s32 1 2 b) (((bitLen n:Nat):Int)-1)++tl 46 g',Q2 b,s)) ?_ (n:=bitLen n) ⟨Nat.le_refl _,g',.inl ⟨hz,rfl,rfl⟩⟩
  ·refine lp.mono fun e z hz=> ?_
   match e,hz with
   | none,hz=>exact⟨rfl,hz⟩
   | some none,hz=>exact hz.elim
   | some (some _),hz=>exact hz.elim
  ·rintro k y ⟨hk,hy⟩
   match k,hk,hy with
   | k+1,hk,hy=>
    refine (Zsv hb hn hw (by omega) hy fun h0=> ?_).mono fun e z hz=> ?_
    ·obtain⟨s1,s2⟩:=bitLen_spec n;have hn0:n≠0:=by
      rintro rfl;simp [bitLen] at hk
     have h1:=s2 hn0;have h2:bitLen n=k+1:=by
      rcases Nat.lt_or_ge (k+1) (bitLen n) with h | h
      ·exfalso
       have h3:2^(k+1)≤2^(bitLen n-1):=Nat.pow_le_pow_right (by omega) (by omega);have h4:0<n/2^(k+1):=Nat.div_pos (by omega) (Nat.pow_pos (by omega));omega
      ·omega
     rw[h2,Nat.add_sub_cancel] at h1;have h5:0<n/2^k:=Nat.div_pos h1 (Nat.pow_pos (by omega));have h6:n/2^(k+1)=n/2^k/2:=by rw[Nat.pow_succ,← Nat.div_div_eq_div_mul]
     omega
    ·obtain⟨rfl,hz⟩:=hz;exact⟨k,by omega,by omega,hz⟩
   | 0,_,hy=>
    obtain⟨t,h',s⟩:=y;have out:∀ (P:Value) (h:Hp) (g:Nat→Value) (s:List Dec),RunsW (Zk prog Zf ZaX hcQ) (qL f76) (qF b n P (s32 1 2 b) (((0:Nat):Int)-1)++tl 46 g,h,s) fun e z=>e=some (some 0)∧(∃ g,z.1=qF b n P (s32 1 2 b) (((0:Nat):Int)-1)++tl 46 g)∧z.2.1=h:=fun P h g s=>
     Zb ZjA (ZCd n (((0:Nat):Int)-1) b P (s32 1 2 b) h g) (Z4 (by decide))
    obtain⟨g,hy⟩:=hy;rcases hy with ⟨j0,ht,hh⟩ | ⟨j1,b0,ht,hh⟩ | ⟨j1,b0,m,V,ht,hh⟩<;>simp only at ht hh<;>subst ht hh
    ·refine (out _ _ g s).mono fun e z hz=> ?_;obtain⟨rfl,⟨g',e1⟩,e2⟩:=hz;exact⟨rfl,g',.inl ⟨j0,e1,e2⟩⟩
    ·refine (out _ _ g s).mono fun e z hz=> ?_;obtain⟨rfl,⟨g',e1⟩,e2⟩:=hz;exact⟨rfl,g',.inr (.inl ⟨j1,b0,e1,e2⟩)⟩
    ·refine (out _ _ g s).mono fun e z hz=> ?_;obtain⟨rfl,⟨g',e1⟩,e2⟩:=hz;exact⟨rfl,g',.inr (.inr ⟨j1,b0,m,V,e1,e2⟩)⟩
 ·rintro⟨t,h',s⟩ ⟨_,g,hy⟩;rw[Nat.pow_zero,Nat.div_one] at hy;rcases hy with ⟨j0,ht,hh⟩ | ⟨j1,b0,ht,hh⟩ | ⟨j1,b0,m,V,ht,hh⟩<;>simp only at ht hh<;>subst ht hh
  ·refine (Zb ZjA (Z9f n _ b _ _ _ g) (fun x hx=>by cases hx)).mono fun e z hz=> ?_;obtain⟨rfl,⟨g',e1⟩,e2⟩:=hz;subst j0;have e3:pM b 0=2:=rfl;rw[e3,Nat.pow_zero];exact⟨.inr rfl,.inl ⟨by omega,0,by rw[e1,e2];rfl,[],by rw[e2,List.append_nil];rfl⟩⟩
  ·refine (Zb ZjA (Z9f n _ b _ _ _ g) (fun x hx=>by cases hx)).mono fun e z hz=> ?_;obtain⟨rfl,⟨g',e1⟩,e2⟩:=hz;exact⟨.inr rfl,.inl ⟨by omega,2,by rw[e1,e2];rfl,[],by rw[e2,List.append_nil];rfl⟩⟩
  ·refine (Zb ZjA (Z9f n _ b _ _ _ g) (fun x hx=>by cases hx)).mono fun e z hz=> ?_;obtain⟨rfl,⟨g',e1⟩,e2⟩:=hz;exact⟨.inr rfl,.inr ⟨⟨b0,j1⟩,by rw[e1,e2];rfl⟩⟩
def Z0Z (b n:Int):Bool:=decide (0≤b∧b<4294967296∧0≤n∧(n≤300∨((b=10∨b=5)∧n≤2000)))
theorem ZnU {b n:Nat}(h:Z0Z b n=true):b<4294967296∧n≤2000∧∀ j,j≤n→nw (b^j)≤400:=by
 have q:=Xc h;rcases q.2.2.2 with h1 | ⟨h1,h2⟩
 ·exact⟨by omega,by omega,Zsu (by omega) (by omega)⟩
 ·refine⟨by omega,by omega,fun j hj=> ?_⟩;rcases h1 with h1 | h1
  ·rw[show b=10 by omega];exact ZuM (n:=n) (by omega) j hj
  ·rw[show b=5 by omega];refine Nat.le_trans (Ze5 (k:=nw (10^j)) (Nat.lt_of_le_of_lt (Nat.pow_le_pow_left (by omega) j) (Zla _))) (ZuM (n:=n) (by omega) j hj)
def pMi (b n:Int):Nat:=pM b.toNat n.toNat
def Zsz:Zaf:=fun vals h s=>
 match vals,s with
 | [.int .u32 b,.int .i64 n],.inr (.inr (.inr (.inl true)))::s'=>some (.tuple #[Zo,Zdd 1],h,s',[(decide (n<0∨n>1000000),true)])
 | [.int .u32 b,.int .i64 n],.inr (.inr (.inr (.inl false))):: .inr (.inr (.inr (.inl true)))::s'=>some (.tuple #[Zo,.nilIface],h,s',[(Z0Z b n,true),(decide (b=0∧1≤n),true)])
 | [.int .u32 b,.int .i64 n],.inr (.inr (.inr (.inl false))):: .inr (.inr (.inr (.inl false))):: .inr (.inl V)::s'=>some (.tuple #[sl h.n 0 (Zi (dg (pMi b n) V)) (pMi b n),.nilIface],h.push (wU (dg (pMi b n) V)) tU,s',[(decide (((b.toNat^n.toNat:Nat):Int)=V),true),(Z0Z b n,true),(decide (b=0∧1≤n),false)])
 | _,_=>none
theorem ZjE:Z8 76 Zsz:=by
 intro vals h s v h' s' lg hg hl m B w E hv;have hr0:(⟨0,[]⟩:Hp).rows:=⟨rfl,fun b x hx=>by have:b<0:=Hp.blk_lt hx;omega⟩;unfold Zsz at hg;split at hg
 ·rename_i b n s2;cases hg;have l1:=Xc (hl _ Xf);have r:RunsW (Zk prog Zf ZaX hcQ) (Zs f76) ([.int .u32 b,.int .i64 n]++List.replicate 54 undef,⟨0,[]⟩,[]) fun e z=>(e=none∨e=some none)∧ZY prog f76 z.1 z.2.1=some (.tuple #[Zo,Zdd 1]):=by
   by_cases h0:n<0
   ·refine (Zb ZjA (Zx6 b n) (Z4 (Xa h0))).mono fun e z hz=> ?_;obtain⟨rfl,⟨g',e1⟩,e2⟩:=hz;exact⟨.inr rfl,by rw[e1,e2];rfl⟩
   ·refine (Zb ZjA (Zx7 b n) (Za (Xa (l1.resolve_left h0)) (Z4 (Xb h0)))).mono fun e z hz=> ?_;obtain⟨rfl,⟨g',e1⟩,e2⟩:=hz;exact⟨.inr rfl,by rw[e1,e2];rfl⟩
  have:=Z9 (T:=Zk prog Zf ZaX hcQ) func76 Zss hr0 (vals:=[.int .u32 b,.int .i64 n]) (fun v hv=>by
   simp only[List.mem_cons,List.not_mem_nil,or_false] at hv;rcases hv with rfl | rfl<;>rfl) (v:= .tuple #[Zo,Zdd 1]) (by rfl) r E (s:=fun i=>i) (fun i x hx _=>by have:i<0:=Hp.blk_lt hx;omega)
  exact this
 ·rename_i b n s2;cases hg;have l2':Z0Z b n=true:=hl _ Xe;have l2:=Xc l2';have l3:=Xc (hl _ (Xd _ Xf));obtain⟨b',rfl⟩:=Int.eq_ofNat_of_zero_le l2.1;obtain⟨n',rfl⟩:=Int.eq_ofNat_of_zero_le l2.2.2.1;obtain⟨w1,w2,w3⟩:=ZnU l2';have r:=(ZnT (b:=b') (n:=n') w1 w2 w3).mono (P':=fun e z=>(e=none∨e=some none)∧ZY prog f76 z.1 z.2.1=some (.tuple #[Zo,.nilIface])) fun e z hz=>⟨hz.1,by
   rcases hz.2 with ⟨q,_⟩ | ⟨_,q⟩
   ·exact absurd (show b'=0∧1≤n' by omega) q
   ·exact q⟩
  have:=Z9 (T:=Zk prog Zf ZaX hcQ) func76 ZnR hr0 (vals:=[.int .u32 (b':Int),.int .i64 (n':Int)]) (fun v hv=>by
   simp only[List.mem_cons,List.not_mem_nil,or_false] at hv;rcases hv with rfl | rfl<;>rfl) (v:= .tuple #[Zo,.nilIface]) (by rfl) r E (s:=fun i=>i) (fun i x hx _=>by have:i<0:=Hp.blk_lt hx;omega)
  exact this
 ·rename_i b n V s2;cases hg;have l1:=Xc (hl _ Xe);have l2':Z0Z b n=true:=hl _ (Xd _ Xe);have l2:=Xc l2';have l3:=of_decide_eq_false (hl _ (Xd _ (Xd _ Xf)));obtain⟨b',rfl⟩:=Int.eq_ofNat_of_zero_le l2.1;obtain⟨n',rfl⟩:=Int.eq_ofNat_of_zero_le l2.2.2.1;obtain⟨w1,w2,w3⟩:=ZnU l2';rw[Xg,Xg] at l1;rw[← l1];have ep:pMi (b':Int) (n':Int)=pM b' n':=by unfold pMi;rw[Xg,Xg]
  rw[ep];have r:=(ZnT (b:=b') (n:=n') w1 w2 w3).mono (P':=fun e z=>(e=none∨e=some none)∧∃ k,ZY prog f76 z.1 z.2.1=some (.tuple #[s32 k (pM b' n') (b'^n'),.nilIface])∧∃ r,z.2.1.blk? k=some (wU (dg (pM b' n') ((b'^n':Nat):Int))++r,tU)) fun e z hz=>⟨hz.1,by
   rcases hz.2 with ⟨_,q⟩ | ⟨q,_⟩
   ·exact q
   ·exact absurd q (by omega)⟩
  exact Zci (T:=Zk prog Zf ZaX hcQ) func76 ZnR hr0 (vals:=[.int .u32 (b':Int),.int .i64 (n':Int)]) (fun v hv=>by
   simp only[List.mem_cons,List.not_mem_nil,or_false] at hv;rcases hv with rfl | rfl<;>rfl) (v:=fun k=> .tuple #[s32 k (pM b' n') (b'^n'),.nilIface]) (Zbf _) (by kernel_rfl) r (fun k=>by simp [oc,oc2,oc1,s32,sl]) E (s:=fun i=>i) (fun i x hx _=>by have:i<0:=Hp.blk_lt hx;omega) (fun k=>by simp [rn,rn2,rn1,s32,sl])
 ·cases hg
end Go.Proofs.YtgefjidphfdhdaaGreatDoor.Na
namespace Go.Proofs.YtgefjidphfdhdaaGreatDoor
open Go.KRun
set_option maxRecDepth 100000
theorem ZuN:Zx []:=fun _ h=>by cases h
def bS (l:List UInt8):Value:= .string ⟨⟨l⟩⟩
theorem Z2X (l l':List UInt8):((⟨⟨l⟩⟩:ByteArray)==⟨⟨l'⟩⟩)=decide (l=l'):=by
 rw[beq_toListBytes,ByteArray.toList_eq,ByteArray.toList_eq];show (l==l')=decide (l=l');by_cases h:l=l'
 ·rw[Xa h];simpa using h
 ·rw[Xb h];simpa using h
end Go.Proofs.YtgefjidphfdhdaaGreatDoor
namespace Go.Proofs.YtgefjidphfdhdaaGreatDoor.Na
open Go.Proofs.Tryz
open Go.KRun
set_option maxRecDepth 100000
def tlP (F:Func):Code:=Z1 (Zs F)
def tlL (F:Func):Code:=cIn (cIn (Z1 (Z0 (Zs F))))
def tlE (F:Func):Code:=Z0 (Z0 (Zs F))
theorem ZxC:f172.body=some (ZZ [tlP f172] (.seq (.block 0 (.loop (tlL f172))) (tlE f172))):=by kernel_rfl
def tlF (l:List UInt8) (c:Int):List Value:=[bS l,.int .u8 c,undef,undef,bS []]
theorem Z2Y (l:List UInt8) (c:Int):Zg (evL (Zq prog Zf Zn true) 100 [tlP f172] ([bS l,.int .u8 c]++List.replicate 15 undef,⟨0,[]⟩,[]) ⟨[],[],[]⟩) 5 12 none (tlF l c) ⟨0,[]⟩ []:=by and_intros<;>kernel_rfl
theorem Z9h (x:UInt8) (l:List UInt8) (c:Int) (g:Nat→Value):Zg (evC (Zq prog Zf Zn true) 100 false (tlL f172) (tlF (x::l) c++tl 12 g,⟨0,[]⟩,[cmp true,cmp true,sam true]) ⟨[],[],[]⟩) 5 12 none (tlF l c) ⟨0,[]⟩ [(decide ((0:Int)≤1∧(1:Int)≤((x::l).length:Nat)),true),(((x.toNat:Nat):Int)==c,true),(decide ((0:Int)≤0∧0<(x::l).length),true),(decide ((((x::l).length:Nat):Int)>0),true)]:=by and_intros<;>kernel_rfl
theorem Z2Z (x:UInt8) (l:List UInt8) (c:Int) (g:Nat→Value):Zg (evC (Zq prog Zf Zn true) 100 false (tlL f172) (tlF (x::l) c++tl 12 g,⟨0,[]⟩,[cmp true,cmp false]) ⟨[],[],[]⟩) 5 12 (some (some 0)) (tlF (x::l) c) ⟨0,[]⟩ [(((x.toNat:Nat):Int)==c,false),(decide ((0:Int)≤0∧0<(x::l).length),true),(decide ((((x::l).length:Nat):Int)>0),true)]:=by and_intros<;>kernel_rfl
theorem Z3a (c:Int) (g:Nat→Value):Zg (evC (Zq prog Zf Zn true) 100 false (tlL f172) (tlF [] c++tl 12 g,⟨0,[]⟩,[cmp false]) ⟨[],[],[]⟩) 5 12 (some (some 0)) (tlF [] c) ⟨0,[]⟩ [(decide (((0:Nat):Int)>0),false)]:=by and_intros<;>kernel_rfl
theorem Z3b (l:List UInt8) (c:Int) (g:Nat→Value):Zg (evC (Zq prog Zf Zn true) 100 false (tlE f172) (tlF l c++tl 12 g,⟨0,[]⟩,[]) ⟨[],[],[]⟩) 5 12 (some none) [bS l,.int .u8 c,undef,undef,bS l] ⟨0,[]⟩ []:=by and_intros<;>kernel_rfl
def trL (c:Int) (l:List UInt8):List UInt8:=l.dropWhile fun x=>((x.toNat:Nat):Int)==c
theorem ZxD (c:Int) (L:List UInt8) (n:Nat) (x:Lf) (h:∃ (l:List UInt8) (g:Nat→Value),x.1=tlF l c++tl 12 g∧x.2.1=⟨0,[]⟩∧trL c l=trL c L∧n=l.length):Runs (Zq prog Zf Zn true) (tlL f172) x fun e y=>match e with | none=>∃ n',n'<n∧∃ (l:List UInt8) (g:Nat→Value),y.1=tlF l c++tl 12 g∧y.2.1=⟨0,[]⟩∧trL c l=trL c L∧n'=l.length | some none=>False | some (some id')=>id'=0∧∃ g:Nat→Value,y.1=tlF (trL c L) c++tl 12 g∧y.2.1=⟨0,[]⟩:=by
 obtain⟨l,g,e1,e2,h1,h2⟩:=h;obtain⟨t,hh,s⟩:=x;have e1:t=_:=e1;have e2:hh=_:=e2;subst e1 e2;have T:=Zp Zd;cases l with
 | nil=>
  refine (Zc T (Z3a c g) (Z4 (by decide))).mono fun e z he=> ?_;obtain⟨rfl,⟨g',z1⟩,z2⟩:=he;have:trL c L=[]:=h1.symm;rw[this];exact⟨rfl,g',z1,z2⟩
 | cons x l=>
  by_cases hx:((x.toNat:Nat):Int)=c
  ·refine (Zc T (Z9h x l c g) (Za (Xa (by rw[List.length_cons];omega)) (Za (by simpa using hx) (Za (Xa (by rw[List.length_cons];omega)) (Z4 (Xa (by rw[List.length_cons];omega))))))).mono fun e z he=> ?_;obtain⟨rfl,⟨g',z1⟩,z2⟩:=he;refine⟨l.length,by rw[h2,List.length_cons];omega,l,g',z1,z2,?_,rfl⟩;rw[← h1];unfold trL;rw[List.dropWhile_cons_of_pos (by simpa using hx)]
  ·refine (Zc T (Z2Z x l c g) (Za (by simpa using hx) (Za (Xa (by rw[List.length_cons];omega)) (Z4 (Xa (by rw[List.length_cons];omega)))))).mono fun e z he=> ?_;obtain⟨rfl,⟨g',z1⟩,z2⟩:=he;have:trL c L=x::l:=by
    rw[← h1];unfold trL;rw[List.dropWhile_cons_of_neg (by simpa using hx)]
   rw[this];exact⟨rfl,g',z1,z2⟩
theorem ZnV (l:List UInt8) (c:Int) (w:World):Calls prog 172 #[bS l,.int .u8 c] w fun r w'=>r= .returned (bS (trL c l))∧Zak w w':=by
 have hT:=Zp Zd;refine zW (T:=Zq prog Zf Zn true) func172 ZxC (by rfl) (by rfl) ?_ w;refine Z2 hT (Z2Y l c) ZuN fun g=> ?_;refine Runs.seq (P1:=fun e y=>e=none∧∃ g:Nat→Value,y.1=tlF (trL c l) c++tl 12 g∧y.2.1=⟨0,[]⟩) ?_ ?_ (fun e y he=>by cases he.1)
 ·refine (Runs.forLoop (R:=fun _=>False) (P:=fun y=>∃ g:Nat→Value,y.1=tlF (trL c l) c++tl 12 g∧y.2.1=⟨0,[]⟩) (fun n x=>∃ (l':List UInt8) (g:Nat→Value),x.1=tlF l' c++tl 12 g∧x.2.1=⟨0,[]⟩∧trL c l'=trL c l∧n=l'.length) (ZxD c l) (n:=l.length) ⟨l,g,rfl,rfl,rfl,rfl⟩).mono fun e z hz=> ?_
  match e,hz with
  | none,hz=>exact⟨rfl,hz⟩
 ·intro y he;obtain⟨_,g',e1,e2⟩:=he;obtain⟨t,hh,s⟩:=y;have e1:t=_:=e1;have e2:hh=_:=e2;subst e1 e2;refine (Zc hT (Z3b (trL c l) c g') ZuN).mono fun e z hz=> ?_;obtain⟨rfl,⟨g2,z1⟩,z2⟩:=hz;exact⟨.inr rfl,by rw[z1,z2];rfl⟩
def Z9i:Ans:=fun vals s=>
 match vals with
 | [.string b,.int .u8 c]=>some (bS (trL c b.data.toList),s,[])
 | _=>none
theorem ZxE:zw 172 Z9i:=by
 intro vals s v s' lg h hl w;unfold Z9i at h;split at h
 ·cases h;exact ZnV _ _ w
 ·cases h
def ZxF:Con:=alt 172 Z9i Zn
theorem ZjF:ConOk ZxF:=ZE func172 rfl ZxE Zd
theorem ZCe (l:List UInt8):ZB (Zr (Zq prog Zf ZxF true) 100 135 [bS l,bS [48]] [sam true]) (bS l) [((⟨⟨l⟩⟩:ByteArray)==⟨⟨[]⟩⟩,true)]:=by and_intros<;>kernel_rfl
theorem ZCf (l:List UInt8):ZB (Zr (Zq prog Zf ZxF true) 100 135 [bS l,bS [48]] [sam false]) (bS (trL 48 l)) [(true,true),(true,true),((⟨⟨l⟩⟩:ByteArray)==⟨⟨[]⟩⟩,false)]:=by and_intros<;>kernel_rfl
def Z9j:Ans:=fun vals s=>
 match vals with
 | [.string b,.string ⟨⟨[c]⟩⟩]=>some (bS (trL 48 b.data.toList),s,[(decide (c=48),true)])
 | _=>none
theorem ZxG:zw 135 Z9j:=by
 intro vals s v s' lg h hl w;unfold Z9j at h;split at h
 ·rename_i b c;cases h;have hc:=Xc (hl _ Xf);subst hc;by_cases hn:b.data.toList=[]
  ·have:=Ze (Zp ZjF) (ZCe b.data.toList) (Z4 ((Z2X _ _).trans (Xa hn))) (by rfl) (by rfl) w;rw[hn] at this ⊢;have hb:b=⟨⟨[]⟩⟩:=by
    apply ByteArray.ext;apply Array.ext';exact hn
   rw[hb];exact this
  ·exact Ze (Zp ZjF) (ZCf b.data.toList) (Za rfl (Za rfl (Z4 ((Z2X _ _).trans (Xb hn))))) (by rfl) (by rfl) w
 ·cases h
end Go.Proofs.YtgefjidphfdhdaaGreatDoor.Na
namespace Go.KRun
open Go.RowKit
structure BelowI (B r:Nat) (w w':World):Prop where
 os:w'.os=w.os
 tape:w'.tape=w.tape
 output:w'.output=w.output
 size:w.heap.size≤w'.heap.size
 block:∀ k,k<B→k≠r→w'.heap[k]? =w.heap[k]?
end Go.KRun
namespace Go.Proofs.YtgefjidphfdhdaaGreatDoor
open Go.KRun
set_option maxRecDepth 100000
theorem Zfq {x:Bool×Bool}{l:Log}(h:Zx (x::l)):x.1=x.2∧Zx l:=⟨h _ Xe,fun y hy=>h y (Xd _ hy)⟩
end Go.Proofs.YtgefjidphfdhdaaGreatDoor
namespace Go.Proofs.YtgefjidphfdhdaaGreatDoor.Na
open Go.Proofs.Tryz
open Go.IntKind
open Go.KRun Go.Nt
set_option maxRecDepth 100000
def tBy:TypeId:=5
def ub (x:Int):Value:= .int .u8 x
def wB (L:List Int):List Value:=L.map ub
def rvP (F:Func):Code:=Z1 (Zs F)
def rvL (F:Func):Code:=cIn (cIn (Z0 (Zs F)))
theorem ZxH:f134.body=some (ZZ [rvP f134] (.block 0 (.loop (rvL f134)))):=by kernel_rfl
def hB2 (S:List Value) (Y:List Value×TypeId) (la:List Value):Hp:=⟨3,[(S,tBy),Y,(la,tR)]⟩
def rvF (n:Nat) (i j:Int):List Value:=[.slice (some ⟨2,0,none⟩) n grown,undef,.int .i64 i,.int .i64 j]
def ZnW (S:List Value) (j x:Int):Bool×Bool:=(Z5 S[0+j.toNat*1]? (ub x),true)
def stB (S:List Value) (j:Int):Bool×Bool:=(decide (0+j.toNat*1<S.length),true)
theorem Z3c (n:Nat) (h:Hp):Zg (evL (Zq prog Zf Zn true) 100 [rvP f134] ([.slice (some ⟨2,0,none⟩) n grown]++List.replicate 27 undef,h,[]) ⟨[],[],[]⟩) 4 24 none (rvF n 0 (i64.wrap ((n:Int)-1))) h []:=by and_intros<;>kernel_rfl
theorem Z3d (n:Nat) (i j:Int) (h:Hp) (g:Nat→Value):Zg (evC (Zq prog Zf Zn true) 100 false (rvL f134) (rvF n i j++tl 24 g,h,[cmp false]) ⟨[],[],[]⟩) 4 24 (some (some 0)) (rvF n i j) h [(decide (i<j),false)]:=by and_intros<;>kernel_rfl
theorem Z9k (n:Nat) (i j x y:Int) (S:List Value) (Y:List Value×TypeId) (la:List Value) (g:Nat→Value):Zg (evC (Zq prog Zf Zn true) 100 false (rvL f134) (rvF n i j++tl 24 g,hB2 S Y la,[cmp true,at_,num 8,at_,num 0,at_,num 6,num 1,at_,num 7,num 1,val (ub y),num 10,num 1,at_,num 11,num 1,val (ub x),num 12,num 1,at_,num 13,num 1,at_,num 14,num 1,at_,num 15,num 1,at_]) ⟨[],[],[]⟩) 4 24 none (rvF n (i64.wrap (i+1)) (i64.wrap (j-1))) (hB2 ((S.set (0+i.toNat*1) (ub y)).set (0+j.toNat*1) (ub x)) Y la)
  [stB (S.set (0+i.toNat*1) (ub y)) j,inR j n,stB S i,inR i n,ZnW S j y,ZnW S i x,stB (S.set (0+i.toNat*1) (ub y)) j,inR j n,stB S i,inR i n,ZnW S i x,ZnW S j y,inR i n,inR j n,(decide (i<j),true)]:=by and_intros<;>kernel_rfl
def rvK (D:List Int) (i:Nat):List Int:=(List.range D.length).map fun k=>if k<i∨D.length-i≤k then D.getD (D.length-1-k) 0 else D.getD k 0
theorem Zc9 (D:List Int) (i:Nat):(rvK D i).length=D.length:=by simp [rvK]
theorem Zfr {D:List Int}{i k:Nat}(h:k<D.length):(rvK D i)[k]? =some (if k<i∨D.length-i≤k then D.getD (D.length-1-k) 0 else D.getD k 0):=by
 simp [rvK,h]
theorem Zs0 (D:List Int):rvK D 0=D:=by
 apply List.ext_getElem?;intro k;by_cases h:k<D.length
 ·rw[Zfr h,if_neg (by omega)];simp [List.getD,h]
 ·rw[List.getElem?_eq_none (by rw[Zc9];omega),List.getElem?_eq_none (by omega)]
theorem Zs1 {D:List Int}{i j:Nat}(hj:i+j+1=D.length) (hij:i<j):((rvK D i).set i (D.getD j 0)).set j (D.getD i 0)=rvK D (i+1):=by
 apply List.ext_getElem?;intro k;by_cases h:k<D.length
 ·rw[Zfr h,List.getElem?_set,List.getElem?_set];simp only[List.length_set,Zc9];by_cases h1:j=k
  ·rw[if_pos h1,if_pos (by omega),if_pos (by omega),show D.length-1-k=i by omega]
  ·rw[if_neg h1];by_cases h2:i=k
   ·rw[if_pos h2,if_pos (by omega),if_pos (by omega),show D.length-1-k=j by omega]
   ·rw[if_neg h2,Zfr h];congr 1;by_cases h3:k<i∨D.length-i≤k
    ·rw[if_pos h3,if_pos (by omega)]
    ·rw[if_neg h3,if_neg (by omega)]
 ·rw[List.getElem?_eq_none (by simp [Zc9];omega),List.getElem?_eq_none (by rw[Zc9];omega)]
theorem ZxI {D:List Int}{i:Nat}(h:D.length≤i+i+1):rvK D i=D.reverse:=by
 apply List.ext_getElem?;intro k;by_cases hk:k<D.length
 ·rw[Zfr hk,List.getElem?_reverse hk];have e:∀ m,m<D.length→D.getD m 0=D[m]?.getD 0:=fun m _=>by simp [List.getD]
  by_cases h3:k<i∨D.length-i≤k
  ·rw[if_pos h3];have:D.length-1-k<D.length:=by omega
   simp [List.getD,this]
  ·rw[if_neg h3,show D.length-1-k=k by omega];simp [List.getD,hk]
 ·rw[List.getElem?_eq_none (by rw[Zc9];omega),List.getElem?_eq_none (by simp;omega)]
theorem Zho (L:List Int):(wB L).length=L.length:=by simp [wB]
theorem Z3e {L:List Int}{k:Nat}{x:Int}(h:L[k]? =some x):(wB L)[k]? =some (ub x):=by simp [wB,h]
theorem ZuO (L:List Int) (k:Nat) (x:Int):(wB L).set k (ub x)=wB (L.set k x):=by simp [wB,List.map_set]
theorem ZnX {S:List Value}{k:Nat}{x:Int}(h:S[k]? =some (ub x)):(ZnW S k x).1=(ZnW S k x).2:=by
 unfold ZnW;simp only[Xg,Nat.mul_one,Nat.zero_add,h];simp [Z5,ub]
theorem ZxJ {Y:List Value×TypeId}{la:List Value}(D:List Int) (hN:D.length<4611686018427387904):
  Runs (Zq prog Zf Zn true) (ZZ [rvP f134] (.block 0 (.loop (rvL f134)))) ([.slice (some ⟨2,0,none⟩) D.length grown]++List.replicate 27 undef,hB2 (wB D) Y la,[]) fun e y=>(e=none∨e=some none)∧ZY prog f134 y.1 y.2.1=some (.tuple #[])∧y.2.1.cut 3=hB2 (wB D.reverse) Y la:=by
 have hT:=Zp Zd;refine Z2 hT (Z3c D.length _) ZuN fun g=> ?_;have ew:i64.wrap ((D.length:Int)-1)=(D.length:Int)-1:=Zw (by omega) (by omega);rw[ew];refine (Runs.forLoop (R:=fun _=>False) (P:=fun y=>∃ (i j:Int) (g:Nat→Value),y.1=rvF D.length i j++tl 24 g∧y.2.1=hB2 (wB D.reverse) Y la)
  (fun r y=>∃ (i:Nat) (g:Nat→Value),y.1=rvF D.length i ((D.length:Int)-1-i)++tl 24 g∧y.2.1=hB2 (wB (rvK D i)) Y la∧i≤D.length∧r=D.length-i)
  ?_ (n:=D.length) ⟨0,g,by simp,by rw[Zs0],by omega,by omega⟩).mono fun e' y he=> ?_
 ·rintro r ⟨t,h',s'⟩ ⟨i,g,ht,hh,hi,hr⟩;simp only at ht hh;subst ht hh;by_cases hc:(i:Int)<(D.length:Int)-1-i
  ·obtain⟨j,hj⟩:∃ j:Nat,i+j+1=D.length:=⟨D.length-1-i,by omega⟩;have ej:(D.length:Int)-1-i=(j:Nat):=by omega
   rw[ej] at hc ⊢;have hij:i<j:=by omega
   have cx:(rvK D i)[i]? =some (D.getD i 0):=by rw[Zfr (by omega),if_neg (by omega)]
   have cy:(rvK D i)[j]? =some (D.getD j 0):=by rw[Zfr (by omega),if_neg (by omega)]
   have l1:(ZnW (wB (rvK D i)) i (D.getD i 0)).1=(ZnW (wB (rvK D i)) i (D.getD i 0)).2:=ZnX (Z3e cx);have l2:(ZnW (wB (rvK D i)) j (D.getD j 0)).1=(ZnW (wB (rvK D i)) j (D.getD j 0)).2:=ZnX (Z3e cy);have l3:(inR i D.length).1=(inR i D.length).2:=Xa (by omega);have l4:(inR j D.length).1=(inR j D.length).2:=Xa (by omega);have l5:(stB (wB (rvK D i)) i).1=(stB (wB (rvK D i)) i).2:=Xa (by rw[Zho,Zc9];omega);have l6:(stB ((wB (rvK D i)).set (0+(i:Int).toNat*1) (ub (D.getD j 0))) j).1=(stB ((wB (rvK D i)).set (0+(i:Int).toNat*1) (ub (D.getD j 0))) j).2:=Xa (by rw[List.length_set,Zho,Zc9];omega);refine (Zc hT (Z9k D.length i j (D.getD i 0) (D.getD j 0) (wB (rvK D i)) Y la g) (Za l6 (Za l4 (Za l5 (Za l3 (Za l2 (Za l1 (Za l6 (Za l4 (Za l5 (Za l3 (Za l1 (Za l2 (Za l3 (Za l4 (Z4 (Xa hc))))))))))))))))).mono fun e z he=> ?_;obtain⟨rfl,⟨g',z1⟩,z2⟩:=he;refine⟨D.length-(i+1),by omega,i+1,g',?_,?_,by omega,rfl⟩
   ·rw[z1,Zw (by omega) (by omega),Zw (by omega) (by omega)];congr 2;omega
   ·rw[z2,← Zs1 hj hij,Xg,Xg,Nat.mul_one,Nat.mul_one,Nat.zero_add,Nat.zero_add,ZuO,ZuO]
  ·refine (Zc hT (Z3d D.length i _ _ g) (Z4 (Xb hc))).mono fun e z he=> ?_;obtain⟨rfl,⟨g',z1⟩,z2⟩:=he;rw[ZxI (by omega)] at z2;exact⟨rfl,_,_,g',z1,z2⟩
 ·match e',he with
  | none,he=>
   obtain⟨i,j,g,e1,e2⟩:=he;refine⟨.inl rfl,?_,?_⟩
   ·rw[e1];kernel_rfl
   ·rw[e2];rfl
  | some none,he=>exact he.elim
  | some (some _),he=>exact he.elim
def isB (S:List Value):Bool:=(Zb5 S).isSome
theorem Zs2 {S:List Value}(h:isB S=true):∃ D,S=wB D:=by
 obtain⟨D,hD⟩:=Option.isSome_iff_exists.1 h;exact⟨D,Zc0 _ _ hD⟩
theorem ZuP:∀ D,isB (wB D)=true
 | []=>rfl
 | x::D=>by
  have:=ZuP D;unfold isB at*;obtain⟨E,hE⟩:=Option.isSome_iff_exists.1 this;show (Zb5 (ub x::wB D)).isSome=true;simp [Zb5,ub,hE]
def gRv:Zaf:=fun vals h s=>
 match vals,h with
 | [.slice (some ⟨2,0,none⟩) n c],⟨3,[(S,t),Y,(la,t')]⟩=>some (.tuple #[],⟨3,[(S.reverse,tBy),Y,(la,tR)]⟩,s,[(Y.1.all still,true),(Nat.beq t tBy,true),(Nat.beq t' tR,true),(Nat.beq n S.length,true),(isB S,true),(Nat.beq c grown,true),(la.all still,true),(Nat.blt n 4611686018427387904,true)])
 | _,_=>none
theorem Zs3 (L:List Int) (n:Nat):(wB L).all (lt1 n)=true:=by
 unfold wB;rw[List.all_eq_true];intro v hv;obtain⟨x,_,rfl⟩:=List.mem_map.1 hv;rfl
theorem Z3f:Z8 134 gRv:=by
 intro vals h s v h' s' lg hg hl m B w E hv;unfold gRv at hg;split at hg
 ·rename_i n c S t Y la t';cases hg;obtain⟨l0,q⟩:=Zfq hl;obtain⟨l1,q⟩:=Zfq q;obtain⟨l2,q⟩:=Zfq q;obtain⟨l3,q⟩:=Zfq q;obtain⟨l4,q⟩:=Zfq q;obtain⟨l5,q⟩:=Zfq q;obtain⟨l6,q⟩:=Zfq q;obtain⟨l7,_⟩:=Zfq q;have l1:=Xj l1;have l2:=Xj l2;have l3:=Xj l3;have l5:=Xj l5;obtain⟨D,rfl⟩:=Zs2 l4;have l7:=Zl.1 l7;subst l1 l2 l3 l5;rw[Zho] at l7 hv ⊢;have e:(wB D).reverse=wB D.reverse:=by simp [wB]
  rw[e];exact ZT (T:=Zq prog Zf Zn true) func134 ZxH (v:= .tuple #[]) (h':=hB2 (wB D.reverse) Y la) (by rfl) (by
   show (((wB D.reverse,tBy)::[Y,(la,tR)]).all fun x=>x.1.all (lt1 3))=true;rw[List.all_cons,Zs3,List.all_cons,zh (by omega) l0,List.all_cons,zh (by omega) l6];rfl) (ZxJ D l7) m B w E hv
 ·cases hg
end Go.Proofs.YtgefjidphfdhdaaGreatDoor.Na
namespace Go.Nt
theorem Ziu {L:List Int}{i:Nat}(h:i<L.length):L.getD i 0=L[i]:=by simp [List.getD,h]
def ZfY (L:List Int):List Int:=L.dropWhile fun x=>x==0
theorem ZnY (L:List Int):∀ x∈L.drop (Zi L),x=0:=by
 intro x hx;obtain⟨i,hi,rfl⟩:=List.mem_iff_getElem.1 hx;rw[List.getElem_drop];have h:=Zdk L (Zi L+i) (by omega);rw[List.length_drop] at hi;rw[Ziu (by omega)] at h;exact h
theorem ZnZ {A B:List Int}(h:∀ x∈A,x=0):ZfY (A++B)=ZfY B:=by
 unfold ZfY;rw[List.dropWhile_append_of_pos];intro x hx;rw[h x hx];rfl
theorem Zlc {L:List Int}(h:L=[]∨L.getD 0 0≠0):ZfY L=L:=by
 cases L with
 | nil=>rfl
 | cons x L=>
  rcases h with h | h
  ·cases h
  ·unfold ZfY;rw[List.dropWhile_cons_of_neg];simpa using h
theorem Zoa {D:List Int}(h:∀ x∈D,Dg 10 x):ZfY D.reverse=(db 10 (vb 10 D)).reverse:=by
 have t:=zf (b:=10) (by omega) D h;have e:D.reverse=(D.drop (Zi D)).reverse++(D.take (Zi D)).reverse:=by
  rw[← List.reverse_append,List.take_append_drop]
 rw[e,ZnZ (fun x hx=>ZnY D x (List.mem_reverse.1 hx)),t];apply Zlc;by_cases h0:Zi D=0
 ·left
  rw[← t,h0];rfl
 ·right
  have hl:=z7 D;have ht:=ZbU D;have hlen:(db 10 (vb 10 D)).length=Zi D:=by rw[← t,List.length_take];omega
  rw[← t];have hlt:(D.take (Zi D)).reverse.length=Zi D:=by rw[List.length_reverse,List.length_take];omega
  rw[Ziu (by omega),List.getElem_reverse,List.getElem_take];rcases ht with ht | ht
  ·exact absurd ht h0
  ·rw[Ziu (by omega)] at ht;have e2:(List.take (Zi D) D).length-1-0=Zi D-1:=by rw[List.length_take];omega
   simp only[e2];exact ht
def ld:Nat→Nat→List Int
 | 0,_=>[]
 | k+1,p=>((p % 10:Nat):Int)::ld k (p/10)
theorem ZjG:∀ k p,(ld k p).length=k
 | 0,_=>rfl
 | k+1,p=>by simp [ld,ZjG k]
theorem Z3g:∀ k p,∀ x∈ld k p,Dg 10 x
 | 0,_,x,h=>by cases h
 | k+1,p,x,h=>by
  rcases List.mem_cons.1 h with rfl | h
  ·exact⟨by omega,by omega⟩
  ·exact Z3g k _ x h
theorem ZuQ:∀ k p,vb 10 (ld k p)=p % 10^k
 | 0,p=>by simp [ld,vb,Nat.mod_one]
 | k+1,p=>by
  rw[show vb 10 (ld (k+1) p)=((p % 10:Nat):Int).toNat+10*vb 10 (ld k (p/10)) from rfl,ZuQ k (p/10),Nat.pow_succ',Nat.mod_mul];omega
theorem Zob:∀ k p,ld (k+1) p=ld k p++[((p/10^k % 10:Nat):Int)]
 | 0,p=>by simp [ld]
 | k+1,p=>by
  rw[show ld (k+1+1) p=((p % 10:Nat):Int)::ld (k+1) (p/10) from rfl,Zob k (p/10),Nat.div_div_eq_div_mul,← Nat.pow_succ'];rfl
theorem Zld {D:List Int}{R V k:Nat}(hl:D.length=9*k) (h:vb 10 D+10^(9*k)*R=V):vb 10 (D++ld 9 (R % 1000000000))+10^(9*(k+1))*(R/1000000000)=V:=by
 rw[Za7,ZuQ,hl];have e:(10:Nat)^(9*(k+1))=10^(9*k)*1000000000:=by rw[Nat.mul_add,Nat.pow_add]
 have e9:(10:Nat)^9=1000000000:=rfl;rw[e,e9,Nat.mod_mod,Nat.mul_assoc,Nat.add_assoc,← Nat.mul_add];have:=Nat.mod_add_div R 1000000000;rw[this];exact h
end Go.Nt
namespace Go.Proofs.YtgefjidphfdhdaaGreatDoor.Na
open Go.Proofs.Tryz
open Go.IntKind
open Go.KRun Go.Nt
set_option maxRecDepth 100000
def kP (F:Func):List Code:=[Z1 (Zs F),Z1 (Z0 (Zs F))]
def kR2 (F:Func):Code:=Z1 (Z1 (Z0 (Z0 (Zs F))))
def kL (F:Func):Code:=cIn (cIn (Z0 (Z1 (Z0 (Z0 (Zs F))))))
def kE (F:Func):Code:=Z0 (Z0 (Z0 (Zs F)))
theorem ZxK:f133.body=some (ZZ (kP f133) (.seq (.seq (kR2 f133) (.block 0 (.loop (kL f133)))) (kE f133))):=by kernel_rfl
def hX (X:List (List Value×TypeId)) (S la:List Value):Hp:=⟨2+X.length,X++[(S,tU),(la,tR)]⟩
def kF (n c:Nat) (r i:Int):List Value:=[sl 1 0 n c,undef,uu 0,.int .u64 r,.int .i64 i]
def tpT (r x:Int):Int:=u64.wrap ↑(BitVec.ofInt 64 (u64.wrap (r*2^min (Int.toNat 32) 64)) ||| BitVec.ofInt 64 (u64.wrap x)).toNat
def tpQ (r x:Int):Int:=u32.wrap (u64.wrap ((tpT r x).tdiv 1000000000))
def tpR (r x:Int):Int:=(tpT r x).tmod 1000000000
theorem Z3h {r x:Int}(hr:0≤r∧r<1000000000) (hx:0≤x∧x<4294967296):tpQ r x=(r*4294967296+x)/1000000000∧tpR r x=(r*4294967296+x) % 1000000000∧0≤tpQ r x∧tpQ r x<4294967296:=by
 have e0:(2:Int)^min (Int.toNat 32) 64=4294967296:=rfl;obtain⟨a,rfl⟩:=Int.eq_ofNat_of_zero_le hr.1;obtain⟨u,rfl⟩:=Int.eq_ofNat_of_zero_le hx.1;have e1:u64.wrap ((a:Int)*4294967296)=(a:Int)*4294967296:=by simp [IntKind.wrap,IntKind.bits,IntKind.signed];omega
 have e2:u64.wrap (u:Int)=u:=by simp [IntKind.wrap,IntKind.bits,IntKind.signed];omega
 have e3:(BitVec.ofInt 64 ((a:Int)*4294967296)).toNat=2^32*a:=by rw[BitVec.toNat_ofInt];omega
 have e4:(BitVec.ofInt 64 (u:Int)).toNat=u:=by rw[BitVec.toNat_ofInt];omega
 have eT:tpT a u=(a:Int)*4294967296+u:=by
  unfold tpT;rw[e0,e1,e2,BitVec.toNat_or,e3,e4,← Nat.two_pow_add_eq_or_of_lt (by omega) a];simp [IntKind.wrap,IntKind.bits,IntKind.signed];omega
 have q1:((a:Int)*4294967296+u).tdiv 1000000000=((a:Int)*4294967296+u)/1000000000:=Int.tdiv_eq_ediv_of_nonneg (by omega);have q2:tpQ a u=((a:Int)*4294967296+u)/1000000000:=by
  unfold tpQ;rw[eT,q1];simp [IntKind.wrap,IntKind.bits,IntKind.signed];omega
 have q3:tpR a u=((a:Int)*4294967296+u) % 1000000000:=by
  unfold tpR;rw[eT,Int.tmod_eq_emod_of_nonneg (by omega)]
 rw[q2,q3];exact⟨rfl,rfl,by omega,by omega⟩
theorem Z3i (n c:Nat) (h:Hp):Zg (evL (Zq prog Zf Zn true) 100 (kP f133) ([sl 1 0 n c]++List.replicate 29 undef,h,[]) ⟨[],[],[]⟩) 4 26 none [sl 1 0 n c,undef,uu 0,.int .u64 0] h []:=by and_intros<;>kernel_rfl
theorem Z9l (n c:Nat) (h:Hp) (g:Nat→Value):Zg (evC (Zq prog Zf Zn true) 100 false (kR2 f133) ([sl 1 0 n c,undef,uu 0,.int .u64 0]++tl 26 g,h,[]) ⟨[],[],[]⟩) 5 25 none (kF n c 0 (i64.wrap ((n:Int)-1))) h []:=by and_intros<;>kernel_rfl
theorem Z3j (n c:Nat) (r i:Int) (h:Hp) (g:Nat→Value):Zg (evC (Zq prog Zf Zn true) 100 false (kL f133) (kF n c r i++tl 25 g,h,[cmp false]) ⟨[],[],[]⟩) 5 25 (some (some 0)) (kF n c r i) h [(decide (i≥0),false)]:=by and_intros<;>kernel_rfl
theorem Z3k (n c:Nat) (r i x:Int) (S la:List Value) (g:Nat→Value):Zg (evC (Zq prog Zf Zn true) 100 false (kL f133) (kF n c r i++tl 25 g,hX [] S la,[cmp true,at_,val (uu x),at_,at_]) ⟨[],[],[]⟩) 5 25 none (kF n c (tpR r x) (i64.wrap (i-1))) (hX [] (S.set (0+i.toNat*1) (uu (tpQ r x))) la) [(decide (0+i.toNat*1<S.length),true),inR i n,Zcr S 0 i x,inR i n,(decide ((32:Int)<0),false),(decide (i≥0),true)]:=by and_intros<;>kernel_rfl
theorem Z3l (n c:Nat) (r i x:Int) (X:List Value×TypeId) (S la:List Value) (g:Nat→Value):Zg (evC (Zq prog Zf Zn true) 100 false (kL f133) (kF n c r i++tl 25 g,hX [X] S la,[cmp true,at_,val (uu x),at_,at_]) ⟨[],[],[]⟩) 5 25 none (kF n c (tpR r x) (i64.wrap (i-1))) (hX [X] (S.set (0+i.toNat*1) (uu (tpQ r x))) la) [(decide (0+i.toNat*1<S.length),true),inR i n,Zcr S 0 i x,inR i n,(decide ((32:Int)<0),false),(decide (i≥0),true)]:=by and_intros<;>kernel_rfl
theorem Z9m (n c:Nat) (r i x:Int) {X:List (List Value×TypeId)}(hX1:X.length≤1) (S la:List Value) (g:Nat→Value):Zg (evC (Zq prog Zf Zn true) 100 false (kL f133) (kF n c r i++tl 25 g,hX X S la,[cmp true,at_,val (uu x),at_,at_]) ⟨[],[],[]⟩) 5 25 none (kF n c (tpR r x) (i64.wrap (i-1))) (hX X (S.set (0+i.toNat*1) (uu (tpQ r x))) la) [(decide (0+i.toNat*1<S.length),true),inR i n,Zcr S 0 i x,inR i n,(decide ((32:Int)<0),false),(decide (i≥0),true)]:=by
 match X,hX1 with
 | [],_=>exact Z3k n c r i x S la g
 | [y],_=>exact Z3l n c r i x y S la g
theorem Z3m (n c:Nat) (r i:Int) (h:Hp) (g:Nat→Value):Zg (evC (Zq prog Zf Zn true) 100 false (kE f133) (kF n c r i++tl 25 g,h,[]) ⟨[],[],[]⟩) 3 27 (some none) [sl 1 0 n c,undef,uu (u32.wrap r)] h []:=by and_intros<;>kernel_rfl
theorem ZxL {c:Nat}{X:List (List Value×TypeId)}(hX1:X.length≤1) {la Z:List Value}{L:List Int}(hL:wds L) (hN:L.length<4611686018427387904):
  Runs (Zq prog Zf Zn true) (ZZ (kP f133) (.seq (.seq (kR2 f133) (.block 0 (.loop (kL f133)))) (kE f133))) ([sl 1 0 L.length c]++List.replicate 29 undef,hX X (wU L++Z) la,[]) fun e y=>(e=none∨e=some none)∧ZY prog f133 y.1 y.2.1=some (uu (vN L % 1000000000))∧y.2.1=hX X (wU (dg L.length (vN L/1000000000))++Z) la:=by
 have hT:=Zp Zd;refine Z2 hT (Z3i L.length c _) ZuN fun g=> ?_;refine Runs.seq (P1:=fun e y=>e=none∧∃ (i:Int) (g:Nat→Value),y.1=kF L.length c (vN L % 1000000000) i++tl 25 g∧y.2.1=hX X (wU (dg L.length (vN L/1000000000))++Z) la) ?_ ?_ (fun e y he=>by cases he.1)
 ·refine Runs.seq (Zc hT (Z9l L.length c _ g) ZuN) ?_ (fun e y he=>by cases he.1);rintro⟨t,hh,s⟩ ⟨_,⟨g',e1⟩,e2⟩;have ew:i64.wrap ((L.length:Int)-1)=(L.length:Int)-1:=Zw (by omega) (by omega);rw[ew] at e1;refine (Runs.forLoop (R:=fun _=>False) (P:=fun y=>∃ (i:Int) (g:Nat→Value),y.1=kF L.length c (vN L % 1000000000) i++tl 25 g∧y.2.1=hX X (wU (dg L.length (vN L/1000000000))++Z) la)
   (fun m y=>∃ (A Q H:List Int) (r:Int) (g:Nat→Value),y.1=kF L.length c r ((A.length:Int)-1)++tl 25 g∧y.2.1=hX X (wU (A++Q)++Z) la∧L=A++H∧H.length=Q.length∧wds Q∧(0≤r∧r<1000000000)∧vN H=vN Q*1000000000+r∧m=A.length)
   ?_ (n:=L.length) ⟨L,[],[],0,g',e1,by rw[List.append_nil];exact e2,by simp,rfl,(fun x hx=>by cases hx),by omega,rfl,rfl⟩).mono fun e z hz=> ?_
  ·rintro m ⟨t,h',s'⟩ ⟨A,Q,H,r,g,ht,hh,hLA,hHQ,wQ,hr,hv,hm⟩;simp only at ht hh;subst ht hh;rcases List.eq_nil_or_concat A with rfl | ⟨A',x,rfl⟩
   ·refine (Zc hT (Z3j L.length c r _ _ g) (Z4 (Xb (by simp)))).mono fun e z he=> ?_;obtain⟨rfl,⟨g',z1⟩,z2⟩:=he;have eH:L=H:=by simpa using hLA
    have hd:vN L/1000000000=vN Q∧vN L % 1000000000=r:=by rw[eH];omega
    have e5:dg L.length (vN Q)=Q:=by rw[eH,hHQ];exact ZgT Q wQ
    refine⟨rfl,((([]:List Int).length:Nat):Int)-1,g',?_,?_⟩
    ·rw[z1,hd.2]
    ·rw[z2,hd.1,e5];rfl
   ·rw[List.concat_eq_append] at*;have hlen:L.length=A'.length+1+H.length:=by rw[hLA];simp;omega
    have hx:0≤x∧x<4294967296:=hL x (by rw[hLA];simp);obtain⟨n1,n2,n3,n4⟩:=Z3h hr hx;have ei:(((A'++[x]).length:Nat):Int)-1=(A'.length:Nat):=by simp
    have eS:wU (A'++[x]++Q)++Z=wU (A'++x::Q)++Z:=by simp
    have cS:(wU (A'++x::Q)++Z)[0+A'.length]? =some (uu x):=by
     rw[Nat.zero_add,List.getElem?_append_left (by unfold wU;simp)];exact Zmx A' x Q
    have l1:decide (0+((A'.length:Nat):Int).toNat*1<(wU (A'++x::Q)++Z).length)=true:=Xa (by unfold wU;simp);have l2:(inR (A'.length:Nat) L.length).1=(inR (A'.length:Nat) L.length).2:=Xa (by omega);have l3:(Zcr (wU (A'++x::Q)++Z) 0 (A'.length:Nat) x).1=(Zcr (wU (A'++x::Q)++Z) 0 (A'.length:Nat) x).2:=Zav cS;rw[ei,eS];refine (Zc hT (Z9m L.length c r (A'.length:Nat) x hX1 (wU (A'++x::Q)++Z) la g) (Za l1 (Za l2 (Za l3 (Za l2 (Za (by decide) (Z4 (Xa (by omega))))))))).mono fun e z he=> ?_;obtain⟨rfl,⟨g',z1⟩,z2⟩:=he;refine⟨A'.length,by rw[hm];simp,A',tpQ r x::Q,x::H,tpR r x,g',?_,?_,by rw[hLA];simp,by simp [hHQ],?_,by rw[n2];omega,?_,rfl⟩
    ·rw[z1,Zw (by omega) (by omega)]
    ·rw[z2,Xg,Nat.mul_one,Nat.zero_add,List.set_append_left _ _ (by unfold wU;simp),ZgU];simp
    ·intro y hy;rcases List.mem_cons.1 hy with rfl | hy
     ·exact⟨n3,n4⟩
     ·exact wQ y hy
    ·simp only[vN];rw[n1,n2,hv];omega
  ·match e,hz with
   | none,hz=>exact⟨rfl,hz⟩
 ·rintro⟨t,hh,s⟩ ⟨_,i,g',e1,e2⟩;simp only at e1 e2;subst e1 e2;refine (Zc hT (Z3m L.length c _ i _ g') ZuN).mono fun e z hz=> ?_;obtain⟨rfl,⟨g2,z1⟩,z2⟩:=hz;have hm:u32.wrap (vN L % 1000000000)=vN L % 1000000000:=by simp [IntKind.wrap,IntKind.bits,IntKind.signed];omega
  rw[hm] at z1;exact⟨.inr rfl,by rw[z1,z2];rfl,z2⟩
def tpS (S:List Value) (n:Nat):List Value:=wU (dg n (vN (Zz S 0 n)/1000000000))++S.drop n
def tpG (X:List (List Value×TypeId)) (S:List Value) (t:TypeId) (la:List Value) (t':TypeId) (n c:Nat) (s:List Dec):Option (Value×Hp×List Dec×Log):=
 some (uu (vN (Zz S 0 n) % 1000000000),⟨2+X.length,X++[(tpS S n,tU),(la,tR)]⟩,s,[(Nat.beq t tU,true),(Nat.beq t' tR,true),(Z7 t S 0 n c,true),(la.all still,true),(X.all fun x=>x.1.all still,true)])
def gTp:Zaf:=fun vals h s=>
 match vals,h with
 | [.slice (some ⟨1,0,none⟩) n c],⟨2,[(S,t),(la,t')]⟩=>tpG [] S t la t' n c s
 | [.slice (some ⟨1,0,none⟩) n c],⟨3,[x,(S,t),(la,t')]⟩=>tpG [x] S t la t' n c s
 | _,_=>none
theorem ZuR {X:List (List Value×TypeId)}(hX1:X.length≤1) {S:List Value}{t:TypeId}{la:List Value}{t':TypeId}{n c:Nat}{s s':List Dec}{v:Value}{h':Hp}{lg:Log}(hg:tpG X S t la t' n c s=some (v,h',s',lg)) (hl:Zx lg) (m:Mp) (B:Nat) (w:World) (E:Emb m B ⟨2+X.length,X++[(S,t),(la,t')]⟩ w) (hv:∀ v∈[sl 1 0 n c],lt (2+X.length) v=true):
  Calls prog 133 (([sl 1 0 n c]:List Value).map (mv m)).toArray w fun e w'=>∃ m',e= .returned (mv m' v)∧Came m B ⟨2+X.length,X++[(S,t),(la,t')]⟩ w v h' m' w':=by
 unfold tpG at hg;cases hg;obtain⟨l1,q⟩:=Zfq hl;obtain⟨l2,q⟩:=Zfq q;obtain⟨l3,q⟩:=Zfq q;obtain⟨l4,q⟩:=Zfq q;obtain⟨l5,_⟩:=Zfq q;have l1:=Xj l1;have l2:=Xj l2;subst l1 l2;obtain⟨a1,a2,a3,a4,a5,a6,a7⟩:=ZG l3;have hc:c<4611686018427387904:=Zl.1 a4;have eS:S=wU (Zz S 0 n)++S.drop n:=by
  have h1:=a1.cut;rw[a2] at h1;rw[← h1];unfold ZbL;simp
 have r:=ZxL (c:=c) hX1 (la:=la) (Z:=S.drop n) a1.rng (by omega);rw[a2,← eS] at r;have ht:(Hp.tight ⟨2+X.length,X++[(tpS S n,tU),(la,tR)]⟩)=true:=by
  unfold Hp.tight tpS;simp only[List.all_append,List.all_cons,List.all_nil,Bool.and_true,Xh];refine⟨?_,⟨Zcj _ _,?_⟩,zh (by omega) l4⟩
  ·rw[List.all_eq_true];intro x hx;exact zh (by omega) (List.all_eq_true.1 l5 x hx)
  ·rw[List.all_eq_true];exact fun v hv=>zp (by omega) (a7 v (List.mem_of_mem_drop hv))
 refine ZT (T:=Zq prog Zf Zn true) func133 ZxK (vals:=[sl 1 0 n c]) (h:=hX X S la) (by rfl) ht (r.mono fun e y he=>⟨he.1,he.2.1,?_⟩) m B w E hv;rw[he.2.2];unfold hX Hp.cut;simp [tpS,tU]
theorem Z3n:Z8 133 gTp:=by
 intro vals h s v h' s' lg hg hl m B w E hv;unfold gTp at hg;split at hg
 ·exact ZuR (X:=[]) (by simp) hg hl m B w E hv
 ·exact ZuR (X:=[_]) (by simp) hg hl m B w E hv
 ·cases hg
end Go.Proofs.YtgefjidphfdhdaaGreatDoor.Na
namespace Go.Proofs.YtgefjidphfdhdaaGreatDoor
open Go.KRun
set_option maxRecDepth 100000
def h1R (l:List Value):Hp:=⟨1,[(l,tR)]⟩
end Go.Proofs.YtgefjidphfdhdaaGreatDoor
