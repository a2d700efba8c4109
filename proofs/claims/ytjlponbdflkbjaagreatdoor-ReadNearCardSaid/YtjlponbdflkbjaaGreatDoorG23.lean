/-
  RdB, RdC, RdD, RdE
-/
import Derived.Test.YtjlponbdflkbjaaGreatDoorG19
import Derived.Test.YtjlponbdflkbjaaGreatDoorG22
import Derived.Test.YtjlponbdflkbjaaGreatDoorG15
namespace Go.Proofs.YtjlponbdflkbjaaGreatDoor
open Go.Proofs.Tryz
open Go.IntKind
open Go.KRun Go.Nt Go.Rd
set_option maxRecDepth 100000
def rfP (F:Func):List Code:=[Z2 (Zs F),Z2 (Zz (Zs F))]
def rfI (F:Func):Code:=Z2 (Z2 (Zz (Zz (Zs F))))
def rfL (F:Func):Code:=cIn (cIn (Zz (Z2 (Zz (Zz (Zs F))))))
def rfE (F:Func):Code:=Zz (Zz (Zz (Zs F)))
theorem ZxI:f51.body=some (ZW (rfP f51) (.seq (.seq (rfI f51) (.block 0 (.loop (rfL f51)))) (rfE f51))):=by kernel_rfl
theorem Zkh:TabOk (Zr prog Zf ZG Zd0):=Zh Zcb ZmN
def rfF (l:List UInt8) (b:Int) (out:Value) (i:Int):List Value:=[bR l,.int .i64 b,uZ,uZ,Zp,out,.int .i64 i]
theorem Z2F (l:List UInt8) (b:Int):Zg (evL (Zr prog Zf ZG Zd0) 100 (rfP f51) ([bR l,.int .i64 b]++List.replicate 22 uZ,⟨0,[]⟩,[]) ⟨[],[],[]⟩) 6 18 none [bR l,.int .i64 b,uZ,uZ,Zp,Zp] ⟨0,[]⟩ []:=by and_intros<;>kernel_rfl
theorem Z9P (l:List UInt8) (b:Int) (h:Hp) (g:Nat→Value):Zg (evC (Zr prog Zf ZG Zd0) 100 false (rfI f51) ([bR l,.int .i64 b,uZ,uZ,Zp,Zp]++tl 18 g,h,[]) ⟨[],[],[]⟩) 7 17 none (rfF l b Zp 0) h []:=by and_intros<;>kernel_rfl
theorem Z9Q (l:List UInt8) (b:Int) (out:Value) (i:Int) (h:Hp) (g:Nat→Value):Zg (evC (Zr prog Zf ZG Zd0) 100 false (rfL f51) (rfF l b out i++tl 17 g,h,[cmp false]) ⟨[],[],[]⟩) 7 17 (some (some 0)) (rfF l b out i) h [(decide (i<(l.length:Nat)),false)]:=by and_intros<;>kernel_rfl
theorem Z7N (l:List UInt8) (b i:Int) (W:Nat) (g:Nat→Value):Zg (evC (Zr prog Zf ZG Zd0) 100 false (rfL f51) (rfF l b Zp i++tl 17 g,⟨0,[]⟩,[cmp true,cmp true,num W]) ⟨[],[],[]⟩) 7 17 none (rfF l b (sq0 W) (i64.wrap (i+1))) (pA W) [(decide (vO ⟨0,[]⟩ none 0*(u32.wrap b).toNat+(u32.wrap (ZO (byR l i) b)).toNat=W),true),(ZaV ⟨0,[]⟩ none 0 0 (u32.wrap b) (u32.wrap (ZO (byR l i) b)),true),(decide (0<0∨0<(u32.wrap (ZO (byR l i) b))),true),(decide (b=10∨b=16),true),(decide (0≤i∧i.toNat<l.length),true),(decide (i<(l.length:Nat)),true)]:=by and_intros<;>kernel_rfl
theorem Z7O (l:List UInt8) (b i:Int) (V W:Nat) (g:Nat→Value):Zg (evC (Zr prog Zf ZG Zd0) 100 false (rfL f51) (rfF l b (sq0 V) i++tl 17 g,pA V,[cmp true,cmp true,num W]) ⟨[],[],[]⟩) 7 17 none (rfF l b (sl 1 0 (d16 W).length (d16 W).length) (i64.wrap (i+1))) ⟨2,[wq W,wq V]⟩ [(decide (vO (pA V) (some ⟨0,0,none⟩) (d16 V).length*(u32.wrap b).toNat+(u32.wrap (ZO (byR l i) b)).toNat=W),true),(ZaV (pA V) (some ⟨0,0,none⟩) (d16 V).length (d16 V).length (u32.wrap b) (u32.wrap (ZO (byR l i) b)),true),(decide (0<(d16 V).length∨0<(u32.wrap (ZO (byR l i) b))),true),(decide (b=10∨b=16),true),(decide (0≤i∧i.toNat<l.length),true),(decide (i<(l.length:Nat)),true)]:=by and_intros<;>kernel_rfl
theorem Z9R (l:List UInt8) (b:Int) (out:Value) (i:Int) (h:Hp) (g:Nat→Value):Zg (evC (Zr prog Zf ZG Zd0) 100 false (rfE f51) (rfF l b out i++tl 17 g,h,[]) ⟨[],[],[]⟩) 5 19 (some none) [bR l,.int .i64 b,uZ,uZ,out] h []:=by and_intros<;>kernel_rfl
def ZrR (b:Int) (l:List UInt8):Bool:=decide ((b=10∨b=16)∧l.length≤20000) && zf b l && decide (0<ZO (byR l 0) b)
theorem ZrS {b:Int}{l:List UInt8}(h:zf b l=true) {i:Nat}(hi:i<l.length):0≤ZO (byR l (i:Nat)) b:=by
 unfold zf at h;rw[List.all_eq_true] at h;have h1:=h (l.getD i 0) (by rw[List.getD_eq_getElem?_getD,List.getElem?_eq_getElem hi,Option.getD_some];exact List.getElem_mem hi);unfold byR;rw[tN];exact oT h1
theorem Zn9 {b:Int}(hb:b=10∨b=16) (l:List UInt8):(d16 (nmB b l)).length≤l.length:=by
 refine Zem (Nat.lt_of_lt_of_le (Zdu hb l) ?_);have h1:b.toNat^l.length≤16^l.length:=Nat.pow_le_pow_left (by omega) _;have h2:(16:Nat)^l.length=2^(4*l.length):=by rw[Nat.pow_mul]
 have h3:(2:Nat)^(4*l.length)≤2^(16*l.length):=Nat.pow_le_pow_right (by omega) (by omega);omega
def rfS (b:Int) (l:List UInt8) (i:Nat) (y:Lf):Prop:=(i=0∧∃ g,y.1=rfF l b Zp i++tl 17 g∧y.2.1=⟨0,[]⟩)∨(0<i∧0<nmB b (l.take i)∧∃ g,y.1=rfF l b (sq0 (nmB b (l.take i))) i++tl 17 g∧y.2.1=pA (nmB b (l.take i)))
theorem ZrT {b:Int}{l:List UInt8}(hb:b=10∨b=16) (h2:l.length≤20000) (hA:zf b l=true) (h0:0<ZO (byR l 0) b) (r:Nat) (y:Lf) (h:∃ i,i≤l.length∧r=l.length-i∧rfS b l i y):
  RunsW (Zr prog Zf ZG Zd0) (rfL f51) y fun e z=>match e with | none=>∃ r',r'<r∧∃ i,i≤l.length∧r'=l.length-i∧rfS b l i z | some none=>False | some (some id')=>id'=0∧rfS b l l.length z:=by
 obtain⟨i,hi,hr,hS⟩:=h;obtain⟨t,h',sc⟩:=y;by_cases hc:i<l.length
 ·have lA:decide (((i:Nat):Int)<(l.length:Nat))=true:=dT (by omega);have lI:decide ((0:Int)≤(i:Nat)∧((i:Nat):Int).toNat<l.length)=true:=dT ⟨by omega,by rw[tN];exact hc⟩;have lB:decide (b=10∨b=16)=true:=dT hb;have ew:i64.wrap (((i:Nat):Int)+1)=((i+1:Nat):Int):=by rw[Zw (by omega) (by omega)];omega
  have bD:=ZfL (byR l (i:Nat)) b;have bd0:=ZrS hA hc;have eD:(u32.wrap (ZO (byR l (i:Nat)) b))=ZO (byR l (i:Nat)) b:=by
   simp [IntKind.wrap,IntKind.bits,IntKind.signed];omega
  have eB:u32.wrap b=b:=by
   simp [IntKind.wrap,IntKind.bits,IntKind.signed];omega
  have eV:=ZfM b l hc;have eC:lq8 (l.getD i 0)=byR l (i:Nat):=by unfold lq8 byR;rw[tN]
  rw[eC] at eV;rcases hS with ⟨hz,g,ht,hh⟩ | ⟨hz,hp,g,ht,hh⟩
  ·simp only at ht hh;subst ht hh;have hg:=Z7N l b (i:Nat) (nmB b (l.take (i+1))) g;rw[ew,eD,eB] at hg;have d0:0<ZO (byR l (i:Nat)) b:=by rw[hz];exact h0
   have e0:nmB b (l.take i)=0:=by rw[hz];rfl
   have k0:ZaV ⟨0,[]⟩ none 0 0 b (ZO (byR l (i:Nat)) b)=true:=by
    unfold ZaV;rw[dT ⟨⟨by omega,by omega⟩,by omega,by omega⟩];rfl
   refine (Ze (s0:=sc) Zkh hg (Za (dT (by rw[eV,e0,show vO ⟨0,[]⟩ none 0=0 from rfl])) (Za k0 (Za (dT (.inr d0)) (Za lB (Za lI (Z4 lA))))))).mono fun e z he=> ?_;obtain⟨rfl,⟨g',z1⟩,z2⟩:=he;exact⟨l.length-(i+1),by omega,i+1,by omega,rfl,.inr ⟨by omega,by rw[eV,e0];omega,g',z1,z2⟩⟩
  ·simp only at ht hh;subst ht hh;have lV:=Zn9 hb (l.take i);have lT:(l.take i).length≤i:=by rw[List.length_take];omega
   obtain⟨V,hV⟩:∃ V,V=nmB b (l.take i):=⟨_,rfl⟩;rw[← hV] at eV lV hp;have h1:0<(d16 V).length:=by
    unfold d16;rw[List.length_pos_iff,ne_eq,Zcz (by omega)];omega
   have k1:ZaV (pA V) (some ⟨0,0,none⟩) (d16 V).length (d16 V).length b (ZO (byR l (i:Nat)) b)=true:=by
    unfold ZaV;rw[ZN (h:=pA V) (b:=0) (A:=V) rfl (by omega),zW (h:=pA V) (b:=0) (A:=V) (ty:=tU) rfl,Zo.2 (by omega),dT ⟨⟨by omega,by omega⟩,by omega,by omega⟩];rfl
   have q1:decide (vO (pA V) (some ⟨0,0,none⟩) (d16 V).length*b.toNat+(ZO (byR l (i:Nat)) b).toNat=nmB b (l.take (i+1)))=true:=dT (by rw[z4 (h:=pA V) (b:=0) (A:=V) (ty:=tU) rfl,eV]);have hg:=Z7O l b (i:Nat) V (nmB b (l.take (i+1))) g;rw[ew,eD,eB] at hg;rw[← hV];have hb0:0<b.toNat:=by omega
   have hW:0<nmB b (l.take (i+1)):=by rw[eV];have:=Nat.mul_pos hp hb0;omega
   refine ((Ze (s0:=sc) Zkh hg (Za q1 (Za k1 (Za (dT (.inl h1)) (Za lB (Za lI (Z4 lA))))))).kept (k:=0) (b:=1) (base:=[]) (y:=wq (nmB b (l.take (i+1)))) (front':=rfF l b (sq0 (nmB b (l.take (i+1)))) ((i+1:Nat):Int)) rfl (by kernel_rfl) (fun j x hx=>by have:j<0:=Hp.blk_lt hx;omega) rfl (by omega) (ZD _) (by
    intro v hv;simp only[rfF,List.mem_cons,List.not_mem_nil,or_false] at hv;rcases hv with rfl | rfl | rfl | rfl | rfl | rfl | rfl<;>rfl)).mono fun e z he=> ?_
   obtain⟨rfl,⟨g',z1⟩,z2⟩:=he;exact⟨l.length-(i+1),by omega,i+1,by omega,rfl,.inr ⟨by omega,hW,g',z1,z2⟩⟩
 ·have his:i=l.length:=by omega
  have out:∀ (o:Value) (g:Nat→Value),RunsW (Zr prog Zf ZG Zd0) (rfL f51) (rfF l b o i++tl 17 g,h',sc) fun e z=>e=some (some 0)∧(∃ g,z.1=rfF l b o i++tl 17 g)∧z.2.1=h':=fun o g=>Ze (s0:=sc) Zkh (Z9Q l b o (i:Nat) h' g) (Z4 (dF (by omega)));rw[← his];rcases hS with ⟨hz,g,ht,hh⟩ | ⟨hz,hp,g,ht,hh⟩
  ·simp only at ht hh;subst ht;refine (out _ g).mono fun e z he=> ?_;obtain⟨rfl,⟨g',z1⟩,z2⟩:=he;exact⟨rfl,.inl ⟨hz,g',z1,z2.trans hh⟩⟩
  ·simp only at ht hh;subst ht;refine (out _ g).mono fun e z he=> ?_;obtain⟨rfl,⟨g',z1⟩,z2⟩:=he;exact⟨rfl,.inr ⟨hz,hp,g',z1,z2.trans hh⟩⟩
theorem ZxJ {b:Int}{l:List UInt8}(hb:b=10∨b=16) (h2:l.length≤20000) (hA:zf b l=true) (h0:0<ZO (byR l 0) b):RunsW (Zr prog Zf ZG Zd0) (ZW (rfP f51) (.seq (.seq (rfI f51) (.block 0 (.loop (rfL f51)))) (rfE f51))) ([bR l,.int .i64 b]++List.replicate 22 uZ,⟨0,[]⟩,[]) fun e z=>(e=none∨e=some none)∧ZV prog f51 z.1 z.2.1=some (sl 0 0 (d16 (nmB b l)).length (d16 (nmB b l)).length)∧∃ r,z.2.1.blk? 0=some (wU (d16 (nmB b l))++r,tU):=by
 refine Z0 Zkh (Z2F l b) ZaI fun g=> ?_;refine RunsW.seq (P1:=fun e y=>match e with | none=>rfS b l l.length y | some none=>False | some (some _)=>False) ?_ ?_ ?_
 ·refine RunsW.seq (Ze Zkh (Z9P l b _ g) ZaI) ?_ (fun e y he=>by cases he.1);rintro⟨t,hh,sc⟩ ⟨_,⟨g',e1⟩,e2⟩;refine RunsW.forLoop (R:=fun _=>False) (P:=rfS b l l.length) (fun r y=>∃ i,i≤l.length∧r=l.length-i∧rfS b l i y) (ZrT hb h2 hA h0) (n:=l.length) ⟨0,by omega,rfl,.inl ⟨rfl,g',e1,e2⟩⟩
 ·rintro⟨t,hh,sc⟩ hS;have et:l.take l.length=l:=List.take_length;rcases hS with ⟨hz,g',e1,e2⟩ | ⟨hz,hp,g',e1,e2⟩
  ·exfalso
   have:l=[]:=List.eq_nil_of_length_eq_zero hz;rw[this] at h0;have e:ZO (byR [] 0) b= -1:=by
    unfold byR ZO;rw[if_neg (by decide),if_neg (by intro h;exact absurd h.2.1 (by decide))]
   omega
  ·simp only at e1 e2;subst e1 e2;rw[et];refine (Ze (s0:=sc) Zkh (Z9R l b _ _ _ g') ZaI).mono fun e z he=> ?_;obtain⟨rfl,⟨g2,z1⟩,z2⟩:=he;exact⟨.inr rfl,by rw[z1,z2];rfl,[],by rw[z2,List.append_nil];rfl⟩
 ·rintro e ⟨t,hh,sc⟩ hc
  match e,hc with
  | none,hc=>exact hc.elim
  | some _,hc=>exact hc.elim
def Z7P:Zad:=fun vals h s=>
 match vals,s with
 | [.string ⟨⟨l⟩⟩,.int .i64 b],.inr (.inl V)::s'=>Zde V.toNat h s' [(decide (nmB b l=V.toNat),true),(ZrR b l,true)]
 | _,_=>none
theorem ZxK:Z8 51 Z7P:=by
 intro vals h s v h' s' lg hg hl m B w E hv;unfold Z7P at hg;split at hg
 ·rename_i l b V s2;unfold Zde at hg;cases hg;rw[ZcQ,ZcQ] at hl;obtain⟨l0,l1,_⟩:=hl;have l0:=oT l0;rw[← l0];unfold ZrR at l1;simp only[Bool.and_eq_true,decide_eq_true_eq] at l1;obtain⟨⟨⟨q1,q2⟩,q3⟩,q4⟩:=l1;have r:=ZxJ q1 q2 q3 q4;have e:rn (fun _=>h.n) (sl 0 0 (d16 (nmB b l)).length (d16 (nmB b l)).length)=sl h.n 0 (d16 (nmB b l)).length (d16 (nmB b l)).length:=by kernel_rfl
  have:=ZE (T:=(Zr prog Zf ZG Zd0)) func51 ZxI (h0:=⟨0,[]⟩) ⟨rfl,fun b x hx=>by have:b<0:=Hp.blk_lt hx;omega⟩ (vals:=[bR l,.int .i64 b]) (fun v hv=>by
   simp only[List.mem_cons,List.not_mem_nil,or_false] at hv;rcases hv with h1 | h1<;>rw[h1]<;>rfl) (k:=0) (cs:=wU (d16 (nmB b l))) (ty:=tU) (Zbb _) (by kernel_rfl) r (by rfl) E (s:=fun i=>i) (fun i x hx=>by have:i<0:=Hp.blk_lt hx;omega)
  rw[e] at this;exact this
 ·cases hg
end Go.Proofs.YtjlponbdflkbjaaGreatDoor
namespace Go.Proofs.YtjlponbdflkbjaaGreatDoor
open Go.Proofs.Tryz
open Go.IntKind
open Go.KRun Go.Rd
set_option maxRecDepth 100000
def Zt9 (F:Func):Code:=cIn (cIn (sP F 3))
def Zzh (F:Func):Code:=cIn (cIn (sP F 11))
theorem Zob:f20.body=some (ZW [sP f20 0,sP f20 1,sP f20 2] (.seq (.block 0 (.loop (Zt9 f20))) (sK f20 4))):=by kernel_rfl
theorem Zbe:sK f20 4=ZW [sP f20 4,sP f20 5,sP f20 6,sP f20 7,sP f20 8,sP f20 9,sP f20 10] (.seq (.block 2 (.loop (Zzh f20))) (sK f20 12)):=by kernel_rfl
def ZcJ (b:Int) (D:List UInt8) (k P:Int):List Value×TypeId:=([.bool false,.int .i64 b,bR D,.int .i64 k,.int .i64 P],57)
def zB:List Value×TypeId:=([.bool false,.int .i64 0,bR [],.int .i64 0,.int .i64 0],57)
def ZcK (l:List UInt8) (b i q:Int):List Value:=[bR l,.int .i64 b,uZ,uZ,pO 0,.bool false,pO 1,.int .i64 i,.int .i64 q]
def ZgV (l:List UInt8) (b i q:Int) (mn:Bool):List Value:=[bR l,.int .i64 b,uZ,uZ,pO 0,.bool false,pO 1,.int .i64 i,.int .i64 q,.bool mn]
def scM (b:Int) (D:List UInt8) (k P:Int):Hp:=⟨2,[ZcJ b D k P,zB]⟩
theorem Z2G (l:List UInt8) (b:Int):Zg (evL (Zk prog Zf ZG true) 100 [sP f20 0,sP f20 1,sP f20 2] ([bR l,.int .i64 b]++List.replicate 147 uZ,⟨0,[]⟩,[]) ⟨[],[],[]⟩) 9 140 none (ZcK l b 0 0) (scM b [] 0 0) []:=by and_intros<;>kernel_rfl
theorem Z9S (l:List UInt8) (b i q:Int) (D:List UInt8) (k P:Int) (g:Nat→Value):Zg (evC (Zk prog Zf ZG true) 100 false (Zt9 f20) (ZcK l b i q++tl 140 g,scM b D k P,[cmp false]) ⟨[],[],[]⟩) 9 140 (some (some 0)) (ZcK l b i q) (scM b D k P) [(decide (i<(l.length:Nat)),false)]:=by and_intros<;>kernel_rfl
theorem Z7Q (l:List UInt8) (b i q:Int) (D:List UInt8) (k P:Int) (g:Nat→Value):Zg (evC (Zk prog Zf ZG true) 100 false (Zt9 f20) (ZcK l b i q++tl 140 g,scM b D k P,[cmp true,cmp false,cmp false]) ⟨[],[],[]⟩) 9 140 (some (some 0)) (ZcK l b i q) (scM b D k P) [(decide (ZO (byR l i) b≥0),false),(decide (b=10∨b=16),true),(decide (0≤i∧i.toNat<l.length),true),(byR l i==46,false),(decide (0≤i∧i.toNat<l.length),true),(decide (i<(l.length:Nat)),true)]:=by and_intros<;>kernel_rfl
theorem Z7R (l:List UInt8) (b i q:Int) (D:List UInt8) (k P:Int) (g:Nat→Value):Zg (evC (Zk prog Zf ZG true) 100 false (Zt9 f20) (ZcK l b i q++tl 140 g,scM b D k P,[cmp true,cmp true,cmp false,cmp false]) ⟨[],[],[]⟩) 9 140 (some (some 0)) (ZcK l b i q) (scM b D k P) [(decide (ZO (byR l i) b≥0),false),(decide (b=10∨b=16),true),(decide (0≤i∧i.toNat<l.length),true),(q==0,false),(byR l i==46,true),(decide (0≤i∧i.toNat<l.length),true),(decide (i<(l.length:Nat)),true)]:=by and_intros<;>kernel_rfl
theorem Z9T (l:List UInt8) (b i q:Int) (D:List UInt8) (k P:Int) (g:Nat→Value):Zg (evC (Zk prog Zf ZG true) 100 false (Zt9 f20) (ZcK l b i q++tl 140 g,scM b D k P,[cmp true,cmp true,cmp true,cmp true]) ⟨[],[],[]⟩) 9 140 none (ZcK l b (i64.wrap (i+1)) (i64.wrap (q+1))) (scM b D k P) [(byR l i==46,true),(decide (0≤i∧i.toNat<l.length),true),(q==0,true),(byR l i==46,true),(decide (0≤i∧i.toNat<l.length),true),(decide (i<(l.length:Nat)),true)]:=by and_intros<;>kernel_rfl
theorem Z9U (l:List UInt8) (b i q:Int) (D:List UInt8) (k P:Int) (g:Nat→Value):Zg (evC (Zk prog Zf ZG true) 100 false (Zt9 f20) (ZcK l b i q++tl 140 g,scM b D k P,[cmp true,cmp false,cmp true,cmp false,sam true,sam true]) ⟨[],[],[]⟩) 9 140 none (ZcK l b (i64.wrap (i+1)) q) (scM b (D++((l.drop i.toNat).take ((i64.wrap (i+1)).toNat-i.toNat))) (i64.wrap (k+q)) P) [(decide (D.length+((l.drop i.toNat).take ((i64.wrap (i+1)).toNat-i.toNat)).length≤9223372036854775807),true),(decide (0≤i∧i≤(i64.wrap (i+1))∧(i64.wrap (i+1))≤((l.length:Nat):Int)),true),(byR l i==46,false),(decide (0≤i∧i.toNat<l.length),true),(decide (ZO (byR l i) b≥0),true),(decide (b=10∨b=16),true),(decide (0≤i∧i.toNat<l.length),true),(byR l i==46,false),(decide (0≤i∧i.toNat<l.length),true),(decide (i<(l.length:Nat)),true)]:=by and_intros<;>kernel_rfl
theorem Z9V (l:List UInt8) (b i q:Int) (D:List UInt8) (k P:Int) (g:Nat→Value):Zg (evC (Zk prog Zf ZG true) 100 false (sK f20 4) (ZcK l b i q++tl 140 g,scM b D k P,[sam true]) ⟨[],[],[]⟩) 6 143 (some none) [bR l,.int .i64 b,uZ,uZ,pO 0,.bool false] ⟨2,[ZcJ b D k P,ZcJ b D k P]⟩ [((⟨⟨D⟩⟩:ByteArray)==⟨⟨[]⟩⟩,true)]:=by and_intros<;>kernel_rfl
theorem Z9W (l:List UInt8) (b i q:Int) (D:List UInt8) (k P:Int) (g:Nat→Value) (d:Bool):Zg (evC (Zk prog Zf ZG true) 100 false (sK f20 4) (ZcK l b i q++tl 140 g,scM b D k P,[sam false,cmp true,cmp d]) ⟨[],[],[]⟩) 6 143 (some none) [bR l,.int .i64 b,uZ,uZ,pO 0,.bool d] ⟨2,[ZcJ b D k P,ZcJ b D k P]⟩ [(b==10,d),(i==(l.length:Nat),true),((⟨⟨D⟩⟩:ByteArray)==⟨⟨[]⟩⟩,false)]:=by and_intros<;>kernel_rfl
theorem Z7S (l:List UInt8) (b i q:Int) (D:List UInt8) (k P:Int) (g:Nat→Value):Zg (evC (Zk prog Zf ZG true) 100 false (sK f20 4) (ZcK l b i q++tl 140 g,scM b D k P,[sam false,cmp false,cmp true,cmp true]) ⟨[],[],[]⟩) 6 143 (some none) [bR l,.int .i64 b,uZ,uZ,pO 0,.bool false] ⟨2,[ZcJ b D k P,ZcJ b D k P]⟩ [(byR l i !=101,true),(decide (0≤i∧i.toNat<l.length),true),(b==10,true),(i==(l.length:Nat),false),((⟨⟨D⟩⟩:ByteArray)==⟨⟨[]⟩⟩,false)]:=by and_intros<;>kernel_rfl
theorem Z7T (l:List UInt8) (b i q:Int) (D:List UInt8) (k P:Int) (g:Nat→Value):Zg (evC (Zk prog Zf ZG true) 100 false (sK f20 4) (ZcK l b i q++tl 140 g,scM b D k P,[sam false,cmp false,cmp false,cmp true,cmp true]) ⟨[],[],[]⟩) 6 143 (some none) [bR l,.int .i64 b,uZ,uZ,pO 0,.bool false] ⟨2,[ZcJ b D k P,ZcJ b D k P]⟩ [(byR l i !=112,true),(decide (0≤i∧i.toNat<l.length),true),(b==16,true),(b==10,false),(i==(l.length:Nat),false),((⟨⟨D⟩⟩:ByteArray)==⟨⟨[]⟩⟩,false)]:=by and_intros<;>kernel_rfl
theorem Z7U (l:List UInt8) (b i q:Int) (D:List UInt8) (k P:Int) (g:Nat→Value):Zg (evC (Zk prog Zf ZG true) 100 false (sK f20 4) (ZcK l b i q++tl 140 g,scM b D k P,[sam false,cmp false,cmp true,cmp false,cmp false,cmp false,cmp false,cmp true]) ⟨[],[],[]⟩) 6 143 (some none) [bR l,.int .i64 b,uZ,uZ,pO 0,.bool false] ⟨2,[ZcJ b D k P,ZcJ b D k P]⟩ [((i64.wrap (i+1))==(l.length:Nat),true),(decide ((i64.wrap (i+1))<(l.length:Nat)),false),(decide ((i64.wrap (i+1))<(l.length:Nat)),false),(b==16,false),(byR l i !=101,false),(decide (0≤i∧i.toNat<l.length),true),(b==10,true),(i==(l.length:Nat),false),((⟨⟨D⟩⟩:ByteArray)==⟨⟨[]⟩⟩,false)]:=by and_intros<;>kernel_rfl
theorem Z2H (l:List UInt8) (b i q:Int) (D:List UInt8) (k P:Int) (g:Nat→Value):Zg (evC (Zk prog Zf ZG true) 100 false (sK f20 4) (ZcK l b i q++tl 140 g,scM b D k P,[sam false,cmp false,cmp true,cmp false,cmp false,cmp true,cmp true,cmp true,cmp true,cmp true]) ⟨[],[],[]⟩) 6 143 (some none) [bR l,.int .i64 b,uZ,uZ,pO 0,.bool false] ⟨2,[ZcJ b D k P,ZcJ b D k P]⟩ [((i64.wrap ((i64.wrap (i+1))+1))==(l.length:Nat),true),(byR l (i64.wrap (i+1))==45,true),(decide (0≤(i64.wrap (i+1))∧(i64.wrap (i+1)).toNat<l.length),true),(decide ((i64.wrap (i+1))<(l.length:Nat)),true),(byR l (i64.wrap (i+1))==45,true),(decide (0≤(i64.wrap (i+1))∧(i64.wrap (i+1)).toNat<l.length),true),(decide ((i64.wrap (i+1))<(l.length:Nat)),true),(b==16,false),(byR l i !=101,false),(decide (0≤i∧i.toNat<l.length),true),(b==10,true),(i==(l.length:Nat),false),((⟨⟨D⟩⟩:ByteArray)==⟨⟨[]⟩⟩,false)]:=by and_intros<;>kernel_rfl
theorem Z2I (l:List UInt8) (b i q:Int) (D:List UInt8) (k P:Int) (g:Nat→Value):Zg (evL (Zk prog Zf ZG true) 100 [sP f20 4,sP f20 5,sP f20 6,sP f20 7,sP f20 8,sP f20 9,sP f20 10] (ZcK l b i q++tl 140 g,scM b D k P,[sam false,cmp false,cmp true,cmp false,cmp false,cmp true,cmp true,cmp true,cmp true,cmp false]) ⟨[],[],[]⟩) 10 139 none (ZgV l b (i64.wrap ((i64.wrap (i+1))+1)) q true) (scM b D k P) [((i64.wrap ((i64.wrap (i+1))+1))==(l.length:Nat),false),(byR l (i64.wrap (i+1))==45,true),(decide (0≤(i64.wrap (i+1))∧(i64.wrap (i+1)).toNat<l.length),true),(decide ((i64.wrap (i+1))<(l.length:Nat)),true),(byR l (i64.wrap (i+1))==45,true),(decide (0≤(i64.wrap (i+1))∧(i64.wrap (i+1)).toNat<l.length),true),(decide ((i64.wrap (i+1))<(l.length:Nat)),true),(b==16,false),(byR l i !=101,false),(decide (0≤i∧i.toNat<l.length),true),(b==10,true),(i==(l.length:Nat),false),((⟨⟨D⟩⟩:ByteArray)==⟨⟨[]⟩⟩,false)]:=by and_intros<;>kernel_rfl
theorem Z2J (l:List UInt8) (b i q:Int) (D:List UInt8) (k P:Int) (g:Nat→Value):Zg (evC (Zk prog Zf ZG true) 100 false (sK f20 4) (ZcK l b i q++tl 140 g,scM b D k P,[sam false,cmp false,cmp true,cmp false,cmp false,cmp true,cmp false,cmp true,cmp false,cmp true,cmp true]) ⟨[],[],[]⟩) 6 143 (some none) [bR l,.int .i64 b,uZ,uZ,pO 0,.bool false] ⟨2,[ZcJ b D k P,ZcJ b D k P]⟩ [((i64.wrap ((i64.wrap (i+1))+1))==(l.length:Nat),true),(byR l (i64.wrap (i+1))==43,true),(decide (0≤(i64.wrap (i+1))∧(i64.wrap (i+1)).toNat<l.length),true),(byR l (i64.wrap (i+1))==45,false),(decide (0≤(i64.wrap (i+1))∧(i64.wrap (i+1)).toNat<l.length),true),(decide ((i64.wrap (i+1))<(l.length:Nat)),true),(byR l (i64.wrap (i+1))==45,false),(decide (0≤(i64.wrap (i+1))∧(i64.wrap (i+1)).toNat<l.length),true),(decide ((i64.wrap (i+1))<(l.length:Nat)),true),(b==16,false),(byR l i !=101,false),(decide (0≤i∧i.toNat<l.length),true),(b==10,true),(i==(l.length:Nat),false),((⟨⟨D⟩⟩:ByteArray)==⟨⟨[]⟩⟩,false)]:=by and_intros<;>kernel_rfl
theorem Z2K (l:List UInt8) (b i q:Int) (D:List UInt8) (k P:Int) (g:Nat→Value):Zg (evL (Zk prog Zf ZG true) 100 [sP f20 4,sP f20 5,sP f20 6,sP f20 7,sP f20 8,sP f20 9,sP f20 10] (ZcK l b i q++tl 140 g,scM b D k P,[sam false,cmp false,cmp true,cmp false,cmp false,cmp true,cmp false,cmp true,cmp false,cmp true,cmp false]) ⟨[],[],[]⟩) 10 139 none (ZgV l b (i64.wrap ((i64.wrap (i+1))+1)) q false) (scM b D k P) [((i64.wrap ((i64.wrap (i+1))+1))==(l.length:Nat),false),(byR l (i64.wrap (i+1))==43,true),(decide (0≤(i64.wrap (i+1))∧(i64.wrap (i+1)).toNat<l.length),true),(byR l (i64.wrap (i+1))==45,false),(decide (0≤(i64.wrap (i+1))∧(i64.wrap (i+1)).toNat<l.length),true),(decide ((i64.wrap (i+1))<(l.length:Nat)),true),(byR l (i64.wrap (i+1))==45,false),(decide (0≤(i64.wrap (i+1))∧(i64.wrap (i+1)).toNat<l.length),true),(decide ((i64.wrap (i+1))<(l.length:Nat)),true),(b==16,false),(byR l i !=101,false),(decide (0≤i∧i.toNat<l.length),true),(b==10,true),(i==(l.length:Nat),false),((⟨⟨D⟩⟩:ByteArray)==⟨⟨[]⟩⟩,false)]:=by and_intros<;>kernel_rfl
theorem Z2L (l:List UInt8) (b i q:Int) (D:List UInt8) (k P:Int) (g:Nat→Value):Zg (evL (Zk prog Zf ZG true) 100 [sP f20 4,sP f20 5,sP f20 6,sP f20 7,sP f20 8,sP f20 9,sP f20 10] (ZcK l b i q++tl 140 g,scM b D k P,[sam false,cmp false,cmp true,cmp false,cmp false,cmp true,cmp false,cmp true,cmp false,cmp false,cmp false]) ⟨[],[],[]⟩) 10 139 none (ZgV l b (i64.wrap (i+1)) q false) (scM b D k P) [((i64.wrap (i+1))==(l.length:Nat),false),(byR l (i64.wrap (i+1))==43,false),(decide (0≤(i64.wrap (i+1))∧(i64.wrap (i+1)).toNat<l.length),true),(byR l (i64.wrap (i+1))==45,false),(decide (0≤(i64.wrap (i+1))∧(i64.wrap (i+1)).toNat<l.length),true),(decide ((i64.wrap (i+1))<(l.length:Nat)),true),(byR l (i64.wrap (i+1))==45,false),(decide (0≤(i64.wrap (i+1))∧(i64.wrap (i+1)).toNat<l.length),true),(decide ((i64.wrap (i+1))<(l.length:Nat)),true),(b==16,false),(byR l i !=101,false),(decide (0≤i∧i.toNat<l.length),true),(b==10,true),(i==(l.length:Nat),false),((⟨⟨D⟩⟩:ByteArray)==⟨⟨[]⟩⟩,false)]:=by and_intros<;>kernel_rfl
theorem Z7V (l:List UInt8) (b i q:Int) (D:List UInt8) (k P:Int) (g:Nat→Value):Zg (evC (Zk prog Zf ZG true) 100 false (sK f20 4) (ZcK l b i q++tl 140 g,scM b D k P,[sam false,cmp false,cmp false,cmp true,cmp false,cmp false,cmp false,cmp true]) ⟨[],[],[]⟩) 6 143 (some none) [bR l,.int .i64 b,uZ,uZ,pO 0,.bool false] ⟨2,[ZcJ b D k P,ZcJ b D k P]⟩ [((i64.wrap (i+1))==(l.length:Nat),true),(decide ((i64.wrap (i+1))<(l.length:Nat)),false),(decide ((i64.wrap (i+1))<(l.length:Nat)),false),(byR l i !=112,false),(decide (0≤i∧i.toNat<l.length),true),(b==16,true),(b==10,false),(i==(l.length:Nat),false),((⟨⟨D⟩⟩:ByteArray)==⟨⟨[]⟩⟩,false)]:=by and_intros<;>kernel_rfl
theorem Z2M (l:List UInt8) (b i q:Int) (D:List UInt8) (k P:Int) (g:Nat→Value):Zg (evC (Zk prog Zf ZG true) 100 false (sK f20 4) (ZcK l b i q++tl 140 g,scM b D k P,[sam false,cmp false,cmp false,cmp true,cmp false,cmp true,cmp true,cmp true,cmp true,cmp true]) ⟨[],[],[]⟩) 6 143 (some none) [bR l,.int .i64 b,uZ,uZ,pO 0,.bool false] ⟨2,[ZcJ b D k P,ZcJ b D k P]⟩ [((i64.wrap ((i64.wrap (i+1))+1))==(l.length:Nat),true),(byR l (i64.wrap (i+1))==45,true),(decide (0≤(i64.wrap (i+1))∧(i64.wrap (i+1)).toNat<l.length),true),(decide ((i64.wrap (i+1))<(l.length:Nat)),true),(byR l (i64.wrap (i+1))==45,true),(decide (0≤(i64.wrap (i+1))∧(i64.wrap (i+1)).toNat<l.length),true),(decide ((i64.wrap (i+1))<(l.length:Nat)),true),(byR l i !=112,false),(decide (0≤i∧i.toNat<l.length),true),(b==16,true),(b==10,false),(i==(l.length:Nat),false),((⟨⟨D⟩⟩:ByteArray)==⟨⟨[]⟩⟩,false)]:=by and_intros<;>kernel_rfl
theorem Z2N (l:List UInt8) (b i q:Int) (D:List UInt8) (k P:Int) (g:Nat→Value):Zg (evL (Zk prog Zf ZG true) 100 [sP f20 4,sP f20 5,sP f20 6,sP f20 7,sP f20 8,sP f20 9,sP f20 10] (ZcK l b i q++tl 140 g,scM b D k P,[sam false,cmp false,cmp false,cmp true,cmp false,cmp true,cmp true,cmp true,cmp true,cmp false]) ⟨[],[],[]⟩) 10 139 none (ZgV l b (i64.wrap ((i64.wrap (i+1))+1)) q true) (scM b D k P) [((i64.wrap ((i64.wrap (i+1))+1))==(l.length:Nat),false),(byR l (i64.wrap (i+1))==45,true),(decide (0≤(i64.wrap (i+1))∧(i64.wrap (i+1)).toNat<l.length),true),(decide ((i64.wrap (i+1))<(l.length:Nat)),true),(byR l (i64.wrap (i+1))==45,true),(decide (0≤(i64.wrap (i+1))∧(i64.wrap (i+1)).toNat<l.length),true),(decide ((i64.wrap (i+1))<(l.length:Nat)),true),(byR l i !=112,false),(decide (0≤i∧i.toNat<l.length),true),(b==16,true),(b==10,false),(i==(l.length:Nat),false),((⟨⟨D⟩⟩:ByteArray)==⟨⟨[]⟩⟩,false)]:=by and_intros<;>kernel_rfl
theorem Z2O (l:List UInt8) (b i q:Int) (D:List UInt8) (k P:Int) (g:Nat→Value):Zg (evC (Zk prog Zf ZG true) 100 false (sK f20 4) (ZcK l b i q++tl 140 g,scM b D k P,[sam false,cmp false,cmp false,cmp true,cmp false,cmp true,cmp false,cmp true,cmp false,cmp true,cmp true]) ⟨[],[],[]⟩) 6 143 (some none) [bR l,.int .i64 b,uZ,uZ,pO 0,.bool false] ⟨2,[ZcJ b D k P,ZcJ b D k P]⟩ [((i64.wrap ((i64.wrap (i+1))+1))==(l.length:Nat),true),(byR l (i64.wrap (i+1))==43,true),(decide (0≤(i64.wrap (i+1))∧(i64.wrap (i+1)).toNat<l.length),true),(byR l (i64.wrap (i+1))==45,false),(decide (0≤(i64.wrap (i+1))∧(i64.wrap (i+1)).toNat<l.length),true),(decide ((i64.wrap (i+1))<(l.length:Nat)),true),(byR l (i64.wrap (i+1))==45,false),(decide (0≤(i64.wrap (i+1))∧(i64.wrap (i+1)).toNat<l.length),true),(decide ((i64.wrap (i+1))<(l.length:Nat)),true),(byR l i !=112,false),(decide (0≤i∧i.toNat<l.length),true),(b==16,true),(b==10,false),(i==(l.length:Nat),false),((⟨⟨D⟩⟩:ByteArray)==⟨⟨[]⟩⟩,false)]:=by and_intros<;>kernel_rfl
theorem Z2P (l:List UInt8) (b i q:Int) (D:List UInt8) (k P:Int) (g:Nat→Value):Zg (evL (Zk prog Zf ZG true) 100 [sP f20 4,sP f20 5,sP f20 6,sP f20 7,sP f20 8,sP f20 9,sP f20 10] (ZcK l b i q++tl 140 g,scM b D k P,[sam false,cmp false,cmp false,cmp true,cmp false,cmp true,cmp false,cmp true,cmp false,cmp true,cmp false]) ⟨[],[],[]⟩) 10 139 none (ZgV l b (i64.wrap ((i64.wrap (i+1))+1)) q false) (scM b D k P) [((i64.wrap ((i64.wrap (i+1))+1))==(l.length:Nat),false),(byR l (i64.wrap (i+1))==43,true),(decide (0≤(i64.wrap (i+1))∧(i64.wrap (i+1)).toNat<l.length),true),(byR l (i64.wrap (i+1))==45,false),(decide (0≤(i64.wrap (i+1))∧(i64.wrap (i+1)).toNat<l.length),true),(decide ((i64.wrap (i+1))<(l.length:Nat)),true),(byR l (i64.wrap (i+1))==45,false),(decide (0≤(i64.wrap (i+1))∧(i64.wrap (i+1)).toNat<l.length),true),(decide ((i64.wrap (i+1))<(l.length:Nat)),true),(byR l i !=112,false),(decide (0≤i∧i.toNat<l.length),true),(b==16,true),(b==10,false),(i==(l.length:Nat),false),((⟨⟨D⟩⟩:ByteArray)==⟨⟨[]⟩⟩,false)]:=by and_intros<;>kernel_rfl
theorem Z2Q (l:List UInt8) (b i q:Int) (D:List UInt8) (k P:Int) (g:Nat→Value):Zg (evL (Zk prog Zf ZG true) 100 [sP f20 4,sP f20 5,sP f20 6,sP f20 7,sP f20 8,sP f20 9,sP f20 10] (ZcK l b i q++tl 140 g,scM b D k P,[sam false,cmp false,cmp false,cmp true,cmp false,cmp true,cmp false,cmp true,cmp false,cmp false,cmp false]) ⟨[],[],[]⟩) 10 139 none (ZgV l b (i64.wrap (i+1)) q false) (scM b D k P) [((i64.wrap (i+1))==(l.length:Nat),false),(byR l (i64.wrap (i+1))==43,false),(decide (0≤(i64.wrap (i+1))∧(i64.wrap (i+1)).toNat<l.length),true),(byR l (i64.wrap (i+1))==45,false),(decide (0≤(i64.wrap (i+1))∧(i64.wrap (i+1)).toNat<l.length),true),(decide ((i64.wrap (i+1))<(l.length:Nat)),true),(byR l (i64.wrap (i+1))==45,false),(decide (0≤(i64.wrap (i+1))∧(i64.wrap (i+1)).toNat<l.length),true),(decide ((i64.wrap (i+1))<(l.length:Nat)),true),(byR l i !=112,false),(decide (0≤i∧i.toNat<l.length),true),(b==16,true),(b==10,false),(i==(l.length:Nat),false),((⟨⟨D⟩⟩:ByteArray)==⟨⟨[]⟩⟩,false)]:=by and_intros<;>kernel_rfl
theorem Z9X (l:List UInt8) (b i q:Int) (mn:Bool) (D:List UInt8) (k P:Int) (g:Nat→Value):Zg (evC (Zk prog Zf ZG true) 100 false (Zzh f20) (ZgV l b i q mn++tl 139 g,scM b D k P,[cmp false]) ⟨[],[],[]⟩) 10 139 (some (some 2)) (ZgV l b i q mn) (scM b D k P) [(decide (i<(l.length:Nat)),false)]:=by and_intros<;>kernel_rfl
theorem Z9Y (l:List UInt8) (b i q:Int) (mn:Bool) (D:List UInt8) (k P:Int) (g:Nat→Value):Zg (evC (Zk prog Zf ZG true) 100 false (Zzh f20) (ZgV l b i q mn++tl 139 g,scM b D k P,[cmp true,cmp true]) ⟨[],[],[]⟩) 6 143 (some none) [bR l,.int .i64 b,uZ,uZ,pO 0,.bool false] ⟨2,[ZcJ b D k P,ZcJ b D k P]⟩ [(decide (ZO (byR l i) 10<0),true),(true,true),(decide (0≤i∧i.toNat<l.length),true),(decide (i<(l.length:Nat)),true)]:=by and_intros<;>kernel_rfl
theorem Z9Z (l:List UInt8) (b i q:Int) (mn:Bool) (D:List UInt8) (k P:Int) (g:Nat→Value):Zg (evC (Zk prog Zf ZG true) 100 false (Zzh f20) (ZgV l b i q mn++tl 139 g,scM b D k P,[cmp true,cmp false]) ⟨[],[],[]⟩) 10 139 none (ZgV l b (i64.wrap (i+1)) q mn) (scM b D k (if 2000000<(i64.wrap (i64.wrap (10*P)+ZO (byR l i) 10)) then 2000000 else (i64.wrap (i64.wrap (10*P)+ZO (byR l i) 10)))) [(true,true),(true,true),(decide (0≤i∧i.toNat<l.length),true),(decide (ZO (byR l i) 10<0),false),(true,true),(decide (0≤i∧i.toNat<l.length),true),(decide (i<(l.length:Nat)),true)]:=by and_intros<;>kernel_rfl
theorem ZAa (l:List UInt8) (b i q:Int) (D:List UInt8) (k P:Int) (g:Nat→Value):Zg (evC (Zk prog Zf ZG true) 100 false (sK f20 12) (ZgV l b i q true++tl 139 g,scM b D k P,[]) ⟨[],[],[]⟩) 6 143 (some none) [bR l,.int .i64 b,uZ,uZ,pO 0,.bool true] ⟨2,[ZcJ b D k (i64.wrap (0-P)),ZcJ b D k (i64.wrap (0-P))]⟩ []:=by and_intros<;>kernel_rfl
theorem ZAb (l:List UInt8) (b i q:Int) (D:List UInt8) (k P:Int) (g:Nat→Value):Zg (evC (Zk prog Zf ZG true) 100 false (sK f20 12) (ZgV l b i q false++tl 139 g,scM b D k P,[]) ⟨[],[],[]⟩) 6 143 (some none) [bR l,.int .i64 b,uZ,uZ,pO 0,.bool true] ⟨2,[ZcJ b D k P,ZcJ b D k P]⟩ []:=by and_intros<;>kernel_rfl
end Go.Proofs.YtjlponbdflkbjaaGreatDoor
namespace Go.Proofs.YtjlponbdflkbjaaGreatDoor
open Go.Proofs.Tryz
open Go.IntKind
open Go.KRun Go.Nt Go.Rd
set_option maxRecDepth 100000
def q1R (p:Bool):Int:=if p=true then 1 else 0
def scS (b:Int) (l:List UInt8) (i:Nat) (y:Lf):Prop:=∃ (p:Bool) (D:List UInt8) (k:Nat) (g:Nat→Value),i≤l.length∧D.length≤i∧k≤i∧sc1 b false l=(D++(sc1 b p (l.drop i)).1,k+(sc1 b p (l.drop i)).2.1,(sc1 b p (l.drop i)).2.2)∧y.1=ZcK l b i (q1R p)++tl 140 g∧y.2.1=scM b D k 0
def scO (b:Int) (l:List UInt8) (y:Lf):Prop:=∃ (i:Nat) (p:Bool) (D:List UInt8) (k:Nat) (g:Nat→Value),i≤l.length∧D.length≤i∧k≤i∧sc1 b false l=(D,k,l.drop i)∧y.1=ZcK l b i (q1R p)++tl 140 g∧y.2.1=scM b D k 0
theorem ZrU {b:Int}{l:List UInt8}(hb:b=10∨b=16) (h2:l.length≤100000) (r:Nat) (y:Lf) (h:∃ i,r=l.length-i∧scS b l i y):
  Runs (Zk prog Zf ZG true) (Zt9 f20) y fun e z=>match e with | none=>∃ r',r'<r∧∃ i,r'=l.length-i∧scS b l i z | some none=>False | some (some id')=>id'=0∧scO b l z:=by
 have hT:=Zj Zcb;obtain⟨i,hr,p,D,k,g,hi,hD,hk,hS,ht,hh⟩:=h;obtain⟨t,h',sc⟩:=y;simp only at ht hh;subst ht hh;by_cases hc:i<l.length
 ·have lA:decide (((i:Nat):Int)<(l.length:Nat))=true:=dT (by omega);have lI:decide ((0:Int)≤(i:Nat)∧((i:Nat):Int).toNat<l.length)=true:=dT ⟨by omega,by rw[tN];exact hc⟩;have lB:decide (b=10∨b=16)=true:=dT hb;have ew:=wN (n:=i) (by omega);have ed:=Zbr hc;have eC:lq8 (l.getD i 0)=byR l (i:Nat):=by unfold lq8 byR;rw[tN]
  by_cases h46:byR l (i:Nat)=46
  ·have c46:(byR l (i:Nat)==46)=true:=zv h46;cases p with
   | false=>
    have hg:=Z9T l b (i:Nat) (q1R false) D k 0 g;rw[ew] at hg;refine (Zb (s0:=sc) hT hg (Za c46 (Za lI (Za (by decide) (Za c46 (Za lI (Z4 lA))))))).mono fun e z he=> ?_;obtain⟨rfl,⟨g',z1⟩,z2⟩:=he;have es:sc1 b false (l.drop i)=sc1 b true (l.drop (i+1)):=by
     rw[ed];unfold sc1;rw[eC,if_pos ⟨h46,rfl⟩];exact sc1.eq_def b true _ ▸ rfl
    rw[es] at hS;exact⟨l.length-(i+1),by omega,i+1,rfl,true,D,k,g',by omega,by omega,by omega,hS,z1,z2⟩
   | true=>
    have hn:ZO (byR l (i:Nat)) b= -1:=by
     rw[h46];unfold ZO;rw[if_neg (by omega),if_neg (by omega)]
    refine (Zb (s0:=sc) hT (Z7R l b (i:Nat) (q1R true) D k 0 g) (Za (dF (by rw[hn];decide)) (Za lB (Za lI (Za (by decide) (Za c46 (Za lI (Z4 lA)))))))).mono fun e z he=> ?_;obtain⟨rfl,⟨g',z1⟩,z2⟩:=he;have es:sc1 b true (l.drop i)=([],0,l.drop i):=by
     rw[ed,sc1,eC,if_neg (fun h=>by cases h.2),if_neg (by rw[hn];decide)]
    rw[es] at hS;simp only[List.append_nil,Nat.add_zero] at hS;exact⟨rfl,i,true,D,k,g',hi,hD,hk,hS,z1,z2⟩
  ·have c46:(byR l (i:Nat)==46)=false:=zw h46;by_cases hd:0≤ZO (byR l (i:Nat)) b
   ·have hg:=Z9U l b (i:Nat) (q1R p) D k 0 g;rw[ew] at hg;have ep:(l.drop ((i:Nat):Int).toNat).take (((i+1:Nat):Int).toNat-((i:Nat):Int).toNat)=[l.getD i 0]:=by
     rw[tN,tN,show i+1-i=1 by omega,ed];rfl
    rw[ep] at hg;have ek:i64.wrap (((k:Nat):Int)+q1R p)=((k+(if p=true then 1 else 0):Nat):Int):=by
     unfold q1R;rw[Zw (by split<;>omega) (by split<;>omega)];split<;>omega
    rw[ek] at hg;refine (Zb (s0:=sc) hT hg (Za (dT (by rw[List.length_singleton];omega)) (Za (dT ⟨by omega,by omega,by omega⟩) (Za c46 (Za lI (Za (dT hd) (Za lB (Za lI (Za c46 (Za lI (Z4 lA))))))))))).mono fun e z he=> ?_;obtain⟨rfl,⟨g',z1⟩,z2⟩:=he;have es:sc1 b p (l.drop i)=(l.getD i 0::(sc1 b p (l.drop (i+1))).1,(if p=true then 1 else 0)+(sc1 b p (l.drop (i+1))).2.1,(sc1 b p (l.drop (i+1))).2.2):=by
     rw[ed,sc1,eC,if_neg (fun h=>h46 h.1),if_pos hd]
    rw[es] at hS;refine⟨l.length-(i+1),by omega,i+1,rfl,p,D++[l.getD i 0],k+(if p=true then 1 else 0),g',by omega,by rw[List.length_append,List.length_singleton];omega,by split<;>omega,?_,z1,z2⟩;rw[hS];simp only[List.append_assoc,List.singleton_append,Nat.add_assoc]
   ·have es:sc1 b p (l.drop i)=([],0,l.drop i):=by
     rw[ed,sc1,eC,if_neg (fun h=>h46 h.1),if_neg hd]
    refine (Zb (s0:=sc) hT (Z7Q l b (i:Nat) (q1R p) D k 0 g) (Za (dF (by omega)) (Za lB (Za lI (Za c46 (Za lI (Z4 lA))))))).mono fun e z he=> ?_;obtain⟨rfl,⟨g',z1⟩,z2⟩:=he;rw[es] at hS;simp only[List.append_nil,Nat.add_zero] at hS;exact⟨rfl,i,p,D,k,g',hi,hD,hk,hS,z1,z2⟩
 ·have es:l.drop i=[]:=List.drop_eq_nil_of_le (by omega);refine (Zb (s0:=sc) hT (Z9S l b (i:Nat) (q1R p) D k 0 g) (Z4 (dF (by omega)))).mono fun e z he=> ?_;obtain⟨rfl,⟨g',z1⟩,z2⟩:=he;refine⟨rfl,i,p,D,k,g',hi,hD,hk,?_,z1,z2⟩;rw[hS,es,sc1];simp only[List.append_nil,Nat.add_zero]
def scW (b:Int) (D:List UInt8) (k:Nat) (P:Int) (v:Bool):Value:= .tuple #[.agg #[.bool false,.int .i64 b,bR D,.int .i64 k,.int .i64 P],.bool v]
def scZ (b:Int) (D:List UInt8) (k:Nat) (P:Int) (v:Bool) (e:Ex) (z:Lf):Prop:=(e=none∨e=some none)∧ZV prog f20 z.1 z.2.1=some (scW b D k P v)
theorem Zbf {l:List UInt8}{b:Int}{D:List UInt8}{k:Nat}{P:Int}{v:Bool}{e:Ex}{z:Lf}(h:e=some none∧(∃ g,z.1=[bR l,.int .i64 b,uZ,uZ,pO 0,.bool v]++tl 143 g)∧z.2.1=⟨2,[ZcJ b D k P,ZcJ b D k P]⟩):scZ b D k P v e z:=by
 obtain⟨rfl,⟨g,z1⟩,z2⟩:=h;exact⟨.inr rfl,by rw[z1,z2];rfl⟩
def pwJ (b q:Int) (mn:Bool) (l:List UInt8) (D:List UInt8) (k:Nat) (X:Nat×Bool) (i:Nat) (y:Lf):Prop:=∃ (a:Nat) (g:Nat→Value),i≤l.length∧a≤2000000∧X=pw1 a (l.drop i)∧y.1=ZgV l b i q mn++tl 139 g∧y.2.1=scM b D k a
def pwO (b q:Int) (mn:Bool) (l:List UInt8) (D:List UInt8) (k:Nat) (X:Nat×Bool) (y:Lf):Prop:=∃ (a i:Nat) (g:Nat→Value),a≤2000000∧X=(a,true)∧y.1=ZgV l b i q mn++tl 139 g∧y.2.1=scM b D k a
def pwB (b:Int) (D:List UInt8) (k:Nat) (X:Nat×Bool) (y:Lf):Prop:=X.2=false∧scZ b D k (X.1:Nat) false (some none) y
theorem Zoc {b q:Int}{mn:Bool}{l D:List UInt8}{k:Nat}{X:Nat×Bool}(h2:l.length≤100000) (r:Nat) (y:Lf) (h:∃ i,r=l.length-i∧pwJ b q mn l D k X i y):
  Runs (Zk prog Zf ZG true) (Zzh f20) y fun e z=>match e with | none=>∃ r',r'<r∧∃ i,r'=l.length-i∧pwJ b q mn l D k X i z | some none=>pwB b D k X z | some (some id')=>id'=2∧pwO b q mn l D k X z:=by
 have hT:=Zj Zcb;obtain⟨i,hr,a,g,hi,ha,hX,ht,hh⟩:=h;obtain⟨t,h',sc⟩:=y;simp only at ht hh;subst ht hh;by_cases hc:i<l.length
 ·have lA:decide (((i:Nat):Int)<(l.length:Nat))=true:=dT (by omega);have lI:decide ((0:Int)≤(i:Nat)∧((i:Nat):Int).toNat<l.length)=true:=dT ⟨by omega,by rw[tN];exact hc⟩;have ew:=wN (n:=i) (by omega);have ed:=Zbr hc;have eC:lq8 (l.getD i 0)=byR l (i:Nat):=by unfold lq8 byR;rw[tN]
  have bD:=ZfL (byR l (i:Nat)) 10;by_cases hd:0≤ZO (byR l (i:Nat)) 10
  ·have hg:=Z9Z l b (i:Nat) q mn D k a g;have ev:i64.wrap (i64.wrap (10*((a:Nat):Int))+ZO (byR l (i:Nat)) 10)=10*((a:Nat):Int)+ZO (byR l (i:Nat)) 10:=by
    rw[Zw (n:=10*((a:Nat):Int)) (by omega) (by omega),Zw (by omega) (by omega)]
   have em:(if 2000000<10*((a:Nat):Int)+ZO (byR l (i:Nat)) 10 then 2000000 else 10*((a:Nat):Int)+ZO (byR l (i:Nat)) 10)=((min (10*a+(ZO (byR l (i:Nat)) 10).toNat) 2000000:Nat):Int):=by split<;>omega
   rw[ev,em,ew] at hg;refine (Zb (s0:=sc) hT hg (Za rfl (Za rfl (Za lI (Za (dF (by omega)) (Za rfl (Za lI (Z4 lA)))))))).mono fun e z he=> ?_;obtain⟨rfl,⟨g',z1⟩,z2⟩:=he;refine⟨l.length-(i+1),by omega,i+1,rfl,_,g',by omega,by omega,?_,z1,z2⟩;rw[hX,ed,pw1,eC,if_pos hd]
  ·refine (Zb (s0:=sc) hT (Z9Y l b (i:Nat) q mn D k a g) (Za (dT (by omega)) (Za rfl (Za lI (Z4 lA))))).mono fun e z he=> ?_;have hx:X=(a,false):=by rw[hX,ed,pw1,eC,if_neg hd]
   have hz:=Zbf he;obtain⟨rfl,_⟩:=he;rw[hx];exact⟨rfl,hz⟩
 ·have es:l.drop i=[]:=List.drop_eq_nil_of_le (by omega);refine (Zb (s0:=sc) hT (Z9X l b (i:Nat) q mn D k a g) (Z4 (dF (by omega)))).mono fun e z he=> ?_;obtain⟨rfl,⟨g',z1⟩,z2⟩:=he;exact⟨rfl,a,i,g',ha,by rw[hX,es];rfl,z1,z2⟩
theorem Zfe {b q:Int}{mn:Bool}{l D:List UInt8}{k j:Nat}(h2:l.length≤100000) (hj:j≤l.length) (g:Nat→Value) (s:List Dec):
  Runs (Zk prog Zf ZG true) (.seq (.block 2 (.loop (Zzh f20))) (sK f20 12)) (ZgV l b j q mn++tl 139 g,scM b D k 0,s) (scZ b D k (if (pw1 0 (l.drop j)).2=false then ((pw1 0 (l.drop j)).1:Nat) else if mn=true then -((pw1 0 (l.drop j)).1:Nat) else ((pw1 0 (l.drop j)).1:Nat)) (pw1 0 (l.drop j)).2):=by
 have hT:=Zj Zcb;obtain⟨X,hX⟩:∃ X,X=pw1 0 (l.drop j):=⟨_,rfl⟩;rw[← hX];refine Runs.seq (P1:=fun e y=>match e with | none=>pwO b q mn l D k X y | some none=>pwB b D k X y | some (some _)=>False) (Runs.forLoop (R:=pwB b D k X) (P:=pwO b q mn l D k X) (fun r y=>∃ i,r=l.length-i∧pwJ b q mn l D k X i y) (Zoc h2) (n:=l.length-j) ⟨j,rfl,0,g,hj,by omega,hX,rfl,rfl⟩) ?_ ?_
 ·rintro⟨t,hh,sc⟩ ⟨a,i,g',ha,hx,e1,e2⟩;simp only at e1 e2;subst e1 e2;rw[hx];dsimp only;cases mn with
  | true=>
   have hg:=ZAa l b (i:Nat) q D k a g';rw[Zw (n:=0-((a:Nat):Int)) (by omega) (by omega),show (0:Int)-((a:Nat):Int)= -((a:Nat):Int) by omega] at hg;refine (Zb (s0:=sc) hT hg ZaI).mono fun e z he=> ?_;have hz:=Zbf he;rw[if_neg (by decide),if_pos rfl];exact hz
  | false=>
   refine (Zb (s0:=sc) hT (ZAb l b (i:Nat) q D k a g') ZaI).mono fun e z he=> ?_;have hz:=Zbf he;rw[if_neg (by decide),if_neg (by decide)];exact hz
 ·rintro e ⟨t,hh,sc⟩ hc
  match e,hc with
  | none,hc=>
   obtain⟨h3,h4⟩:=hc;rw[if_pos h3,h3];exact h4
theorem Zff {b:Int}{D:List UInt8}{k:Nat}{X:Nat×Bool}{mn:Bool}{e:Ex}{z:Lf}(h:scZ b D k (if X.2=false then (X.1:Nat) else if mn=true then -(X.1:Nat) else (X.1:Nat)) X.2 e z):scZ b D k (if X.2=false then ((X.1:Nat),false) else (if mn=true then -(X.1:Nat) else (X.1:Nat),true):Int×Bool).1 (if X.2=false then ((X.1:Nat),false) else (if mn=true then -(X.1:Nat) else (X.1:Nat),true):Int×Bool).2 e z:=by
 cases h2:X.2 with
 | true=>
  rw[h2,if_neg (by decide)] at h;rw[if_neg (by decide)];exact h
 | false=>
  rw[h2,if_pos rfl] at h;rw[if_pos rfl];exact h
theorem Zod {b:Int}{l:List UInt8}(hb:b=10∨b=16) (h2:l.length≤100000):Runs (Zk prog Zf ZG true) (ZW [sP f20 0,sP f20 1,sP f20 2] (.seq (.block 0 (.loop (Zt9 f20))) (sK f20 4))) ([bR l,.int .i64 b]++List.replicate 147 uZ,⟨0,[]⟩,[]) (scZ b (sc1 b false l).1 (sc1 b false l).2.1 (scA b l).1 (scA b l).2):=by
 have hT:=Zj Zcb;refine Zv hT (Z2G l b) ZaI fun g=> ?_;refine Runs.seq (P1:=fun e y=>match e with | none=>scO b l y | some none=>False | some (some _)=>False) (Runs.forLoop (R:=fun _=>False) (P:=scO b l) (fun r y=>∃ i,r=l.length-i∧scS b l i y) (ZrU hb h2) (n:=l.length) ⟨0,by omega,false,[],0,g,by omega,by exact Nat.le_refl _,by omega,by simp,rfl,rfl⟩) ?_ (fun e y he=>by match e,he with | none,he=>exact he.elim | some _,he=>exact he.elim);rintro⟨t,hh,sc⟩ ⟨i,p,D,k,g',hi,hD,hk,hS,e1,e2⟩;simp only at e1 e2;subst e1 e2;have eA:scA b l=if D=[] then (0,false) else scE b (l.drop i):=by unfold scA;rw[hS]
 rw[eA,hS];dsimp only;by_cases hN:D=[]
 ·rw[if_pos hN];exact (Zb (s0:=sc) hT (Z9V l b (i:Nat) (q1R p) D k 0 g') (Z4 (by rw[ZcI];exact dT hN))).mono fun e z he=>Zbf he
 have eN:((⟨⟨D⟩⟩:ByteArray)==⟨⟨[]⟩⟩)=false:=by rw[ZcI];exact dF hN
 rw[if_neg hN];by_cases hc:¬ i<l.length
 ·have es:l.drop i=[]:=List.drop_eq_nil_of_le (by omega);rw[es];unfold scE;dsimp only;exact (Zb (s0:=sc) hT (Z9W l b (i:Nat) (q1R p) D k 0 g' (decide (b=10))) (Za (by by_cases h:b=10<;>simp [h]) (Za (zv (by omega)) (Z4 eN)))).mono fun e z he=>Zbf he
 have hc:i<l.length:=by omega
 have lQ:(((i:Nat):Int)==(l.length:Nat))=false:=zw (by omega);have lI:decide ((0:Int)≤(i:Nat)∧((i:Nat):Int).toNat<l.length)=true:=dT ⟨by omega,by rw[tN];exact hc⟩;have ed:=Zbr hc;have eC:lq8 (l.getD i 0)=byR l (i:Nat):=by unfold lq8 byR;rw[tN]
 rw[ed];unfold scE;dsimp only;rw[eC];have ew:=wN (n:=i) (by omega);rcases hb with hb | hb
 ·skip
  by_cases hm:byR l (i:Nat)≠101
  ·rw[if_pos (.inl ⟨hb,hm⟩)];exact (Zb (s0:=sc) hT (Z7S l b (i:Nat) (q1R p) D k 0 g') (Za (Ztr hm) (Za lI (Za (zv hb) (Za lQ (Z4 eN)))))).mono fun e z he=>Zbf he
  have hm:byR l (i:Nat)=101:=Decidable.of_not_not hm;rw[if_neg (by omega)];have lg:=(Za (zw (show b≠16 by omega)) (Za (Zts hm) (Za lI (Za (zv hb) (Za lQ (Z4 eN))))));by_cases hc1:¬ i+1<l.length
  ·have es:l.drop (i+1)=[]:=List.drop_eq_nil_of_le (by omega);rw[es,if_pos (show (sgT []).2=[] from rfl)];have hg:=Z7U l b (i:Nat) (q1R p) D k 0 g';rw[ew] at hg;exact (Zb (s0:=sc) hT hg (Za (zv (by omega)) (Za (dF (by omega)) (Za (dF (by omega)) lg)))).mono fun e z he=>Zbf he
  have hc1:i+1<l.length:=by omega
  have lA1:decide (((i+1:Nat):Int)<(l.length:Nat))=true:=dT (by omega);have lI1:decide ((0:Int)≤((i+1:Nat):Int)∧((i+1:Nat):Int).toNat<l.length)=true:=dT ⟨by omega,by rw[tN];exact hc1⟩;have ed1:=Zbr hc1;have eC1:lq8 (l.getD (i+1) 0)=byR l ((i+1:Nat):Int):=by unfold lq8 byR;rw[tN]
  have ew1:=wN (n:=i+1) (by omega);rw[Zbe];by_cases h45:byR l ((i+1:Nat):Int)=45
  ·have esg:sgT (l.drop (i+1))=(true,l.drop (i+1+1)):=by rw[ed1];unfold sgT;dsimp only;rw[eC1,if_pos h45]
   rw[esg];dsimp only;have lm:=Za (zv h45) (Za lI1 (Za lA1 (Za (zv h45) (Za lI1 (Za lA1 lg)))));by_cases hc2:l.drop (i+1+1)=[]
   ·rw[if_pos hc2,← Zbe];have hl2:l.length≤i+1+1:=List.drop_eq_nil_iff.1 hc2;have hg:=Z2H l b (i:Nat) (q1R p) D k 0 g';rw[ew,ew1] at hg;exact (Zb (s0:=sc) hT hg (Za (zv (by omega)) lm)).mono fun e z he=>Zbf he
   ·rw[if_neg hc2];have hl2:¬ l.length≤i+1+1:=fun h=>hc2 (List.drop_eq_nil_iff.2 h);have hg:=Z2I l b (i:Nat) (q1R p) D k 0 g';rw[ew,ew1] at hg;refine Zv hT hg (Za (zw (by omega)) lm) fun g2=> ?_;refine (Zfe (b:=b) (q:=q1R p) (mn:=true) (l:=l) (D:=D) (k:=k) (j:=i+1+1) h2 (by omega) g2 _).mono fun e z hz=> ?_;exact Zff hz
  by_cases h43:byR l ((i+1:Nat):Int)=43
  ·have esg:sgT (l.drop (i+1))=(false,l.drop (i+1+1)):=by rw[ed1];unfold sgT;dsimp only;rw[eC1,if_neg h45,if_pos h43]
   rw[esg];dsimp only;have lm:=Za (zv h43) (Za lI1 (Za (zw h45) (Za lI1 (Za lA1 (Za (zw h45) (Za lI1 (Za lA1 lg)))))));by_cases hc2:l.drop (i+1+1)=[]
   ·rw[if_pos hc2,← Zbe];have hl2:l.length≤i+1+1:=List.drop_eq_nil_iff.1 hc2;have hg:=Z2J l b (i:Nat) (q1R p) D k 0 g';rw[ew,ew1] at hg;exact (Zb (s0:=sc) hT hg (Za (zv (by omega)) lm)).mono fun e z he=>Zbf he
   ·rw[if_neg hc2];have hl2:¬ l.length≤i+1+1:=fun h=>hc2 (List.drop_eq_nil_iff.2 h);have hg:=Z2K l b (i:Nat) (q1R p) D k 0 g';rw[ew,ew1] at hg;refine Zv hT hg (Za (zw (by omega)) lm) fun g2=> ?_;refine (Zfe (b:=b) (q:=q1R p) (mn:=false) (l:=l) (D:=D) (k:=k) (j:=i+1+1) h2 (by omega) g2 _).mono fun e z hz=> ?_;exact Zff hz
  ·have esg:sgT (l.drop (i+1))=(false,l.drop (i+1)):=by rw[ed1];unfold sgT;dsimp only;rw[eC1,if_neg h45,if_neg h43]
   rw[esg];dsimp only;have lm:=Za (zw h43) (Za lI1 (Za (zw h45) (Za lI1 (Za lA1 (Za (zw h45) (Za lI1 (Za lA1 lg)))))));rw[if_neg (fun h=>by have:=List.drop_eq_nil_iff.1 h;omega)];have hg:=Z2L l b (i:Nat) (q1R p) D k 0 g';rw[ew] at hg;refine Zv hT hg (Za (zw (by omega)) lm) fun g2=> ?_;refine (Zfe (b:=b) (q:=q1R p) (mn:=false) (l:=l) (D:=D) (k:=k) (j:=i+1) h2 (by omega) g2 _).mono fun e z hz=> ?_;exact Zff hz
 ·skip
  by_cases hm:byR l (i:Nat)≠112
  ·rw[if_pos (.inr ⟨hb,hm⟩)];exact (Zb (s0:=sc) hT (Z7T l b (i:Nat) (q1R p) D k 0 g') (Za (Ztr hm) (Za lI (Za (zv hb) (Za (zw (by omega)) (Za lQ (Z4 eN))))))).mono fun e z he=>Zbf he
  have hm:byR l (i:Nat)=112:=Decidable.of_not_not hm;rw[if_neg (by omega)];have lg:=(Za (Zts hm) (Za lI (Za (zv hb) (Za (zw (show b≠10 by omega)) (Za lQ (Z4 eN))))));by_cases hc1:¬ i+1<l.length
  ·have es:l.drop (i+1)=[]:=List.drop_eq_nil_of_le (by omega);rw[es,if_pos (show (sgT []).2=[] from rfl)];have hg:=Z7V l b (i:Nat) (q1R p) D k 0 g';rw[ew] at hg;exact (Zb (s0:=sc) hT hg (Za (zv (by omega)) (Za (dF (by omega)) (Za (dF (by omega)) lg)))).mono fun e z he=>Zbf he
  have hc1:i+1<l.length:=by omega
  have lA1:decide (((i+1:Nat):Int)<(l.length:Nat))=true:=dT (by omega);have lI1:decide ((0:Int)≤((i+1:Nat):Int)∧((i+1:Nat):Int).toNat<l.length)=true:=dT ⟨by omega,by rw[tN];exact hc1⟩;have ed1:=Zbr hc1;have eC1:lq8 (l.getD (i+1) 0)=byR l ((i+1:Nat):Int):=by unfold lq8 byR;rw[tN]
  have ew1:=wN (n:=i+1) (by omega);rw[Zbe];by_cases h45:byR l ((i+1:Nat):Int)=45
  ·have esg:sgT (l.drop (i+1))=(true,l.drop (i+1+1)):=by rw[ed1];unfold sgT;dsimp only;rw[eC1,if_pos h45]
   rw[esg];dsimp only;have lm:=Za (zv h45) (Za lI1 (Za lA1 (Za (zv h45) (Za lI1 (Za lA1 lg)))));by_cases hc2:l.drop (i+1+1)=[]
   ·rw[if_pos hc2,← Zbe];have hl2:l.length≤i+1+1:=List.drop_eq_nil_iff.1 hc2;have hg:=Z2M l b (i:Nat) (q1R p) D k 0 g';rw[ew,ew1] at hg;exact (Zb (s0:=sc) hT hg (Za (zv (by omega)) lm)).mono fun e z he=>Zbf he
   ·rw[if_neg hc2];have hl2:¬ l.length≤i+1+1:=fun h=>hc2 (List.drop_eq_nil_iff.2 h);have hg:=Z2N l b (i:Nat) (q1R p) D k 0 g';rw[ew,ew1] at hg;refine Zv hT hg (Za (zw (by omega)) lm) fun g2=> ?_;refine (Zfe (b:=b) (q:=q1R p) (mn:=true) (l:=l) (D:=D) (k:=k) (j:=i+1+1) h2 (by omega) g2 _).mono fun e z hz=> ?_;exact Zff hz
  by_cases h43:byR l ((i+1:Nat):Int)=43
  ·have esg:sgT (l.drop (i+1))=(false,l.drop (i+1+1)):=by rw[ed1];unfold sgT;dsimp only;rw[eC1,if_neg h45,if_pos h43]
   rw[esg];dsimp only;have lm:=Za (zv h43) (Za lI1 (Za (zw h45) (Za lI1 (Za lA1 (Za (zw h45) (Za lI1 (Za lA1 lg)))))));by_cases hc2:l.drop (i+1+1)=[]
   ·rw[if_pos hc2,← Zbe];have hl2:l.length≤i+1+1:=List.drop_eq_nil_iff.1 hc2;have hg:=Z2O l b (i:Nat) (q1R p) D k 0 g';rw[ew,ew1] at hg;exact (Zb (s0:=sc) hT hg (Za (zv (by omega)) lm)).mono fun e z he=>Zbf he
   ·rw[if_neg hc2];have hl2:¬ l.length≤i+1+1:=fun h=>hc2 (List.drop_eq_nil_iff.2 h);have hg:=Z2P l b (i:Nat) (q1R p) D k 0 g';rw[ew,ew1] at hg;refine Zv hT hg (Za (zw (by omega)) lm) fun g2=> ?_;refine (Zfe (b:=b) (q:=q1R p) (mn:=false) (l:=l) (D:=D) (k:=k) (j:=i+1+1) h2 (by omega) g2 _).mono fun e z hz=> ?_;exact Zff hz
  ·have esg:sgT (l.drop (i+1))=(false,l.drop (i+1)):=by rw[ed1];unfold sgT;dsimp only;rw[eC1,if_neg h45,if_neg h43]
   rw[esg];dsimp only;have lm:=Za (zw h43) (Za lI1 (Za (zw h45) (Za lI1 (Za lA1 (Za (zw h45) (Za lI1 (Za lA1 lg)))))));rw[if_neg (fun h=>by have:=List.drop_eq_nil_iff.1 h;omega)];have hg:=Z2Q l b (i:Nat) (q1R p) D k 0 g';rw[ew] at hg;refine Zv hT hg (Za (zw (by omega)) lm) fun g2=> ?_;refine (Zfe (b:=b) (q:=q1R p) (mn:=false) (l:=l) (D:=D) (k:=k) (j:=i+1) h2 (by omega) g2 _).mono fun e z hz=> ?_;exact Zff hz
theorem Zki (l:List UInt8) (b:Int) (hb:b=10∨b=16) (h2:l.length≤100000) (w:World):Calls prog 20 #[bR l,.int .i64 b] w fun r w'=>r= .returned (scW b (sc1 b false l).1 (sc1 b false l).2.1 (scA b l).1 (scA b l).2)∧Zal w w':=
 ZJ (T:=(Zk prog Zf ZG true)) func20 Zob (by rfl) (by rfl) (Zod hb h2) w
def Z7W:Ans:=fun vals s=>
 match vals,s with
 | [.string ⟨⟨l⟩⟩,.int .i64 b],.inr (.inr (.inr (.inl d)))::s'=>some (scW b (sc1 b false l).1 (sc1 b false l).2.1 (scA b l).1 d,s',[((scA b l).2,d),(decide ((b=10∨b=16)∧l.length≤100000),true)])
 | _,_=>none
theorem ZxL:ZR 20 Z7W:=by
 intro vals s v s' lg h hl w;unfold Z7W at h;split at h
 ·rename_i l b d s2;cases h;rw[ZcQ,ZcQ] at hl;obtain⟨l1,l2,_⟩:=hl;obtain⟨q1,q2⟩:=oT l2;have l1:(scA b l).2=d:=l1;rw[← l1];exact Zki l b q1 q2 w
 ·cases h
end Go.Proofs.YtjlponbdflkbjaaGreatDoor
