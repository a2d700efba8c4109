/-
  ConVB, ConVC, ConVD, ConVE, ConVF, RfA
-/
import Derived.Test.YtjlponbdflkbjaaGreatDoorG12
namespace Go.Proofs.YtjlponbdflkbjaaGreatDoor
open Go.Proofs.Tryz
open Go.IntKind
open Go.KRun Go.Nt
set_option maxRecDepth 100000
def f4 (n:Int):List Int:=[u32.wrap (n.tmod 65536),u32.wrap ((u64.wrap (n.tdiv 65536)).tmod 65536),u32.wrap ((u64.wrap (n.tdiv 4294967296)).tmod 65536),u32.wrap (u64.wrap (n.tdiv 281474976710656))]
theorem ZrV:f48.body=some (Zs f48):=by kernel_rfl
theorem Z2R (n:Int):Zg (evC (Zr prog Zf Zn hcV) 100 false (Zs f48) ([.int .u64 n]++List.replicate 18 uZ,⟨0,[]⟩,[cmp true,cmp true,cmp true]) ⟨[],[],[]⟩) 3 16 (some none) [.int .u64 n,uZ,sl 0 0 (Zl (Zx (wU (f4 n)) 0 4)) (Zl (Zx (wU (f4 n)) 0 4))] ⟨1,[(wU (f4 n),tU)]⟩ [(Zbm tU (wU (f4 n)) 0 4 4,true),(decide ((65536:Int)=0),false),(decide ((65536:Int)=0),false),(decide ((65536:Int)=0),false)]:=by and_intros<;>kernel_rfl
theorem Zfg {n:Int}(h0:0≤n) (h1:n<18446744073709551616):u64.wrap n=n:=by simp [IntKind.wrap,IntKind.bits,IntKind.signed];omega
theorem Z2S {n:Int}(h0:0≤n) (h1:n<18446744073709551616):f4 n=[n % 65536,n/65536 % 65536,n/4294967296 % 65536,n/281474976710656]:=by
 unfold f4;rw[Int.tmod_eq_emod_of_nonneg h0,Int.tdiv_eq_ediv_of_nonneg h0,Int.tdiv_eq_ediv_of_nonneg h0,Int.tdiv_eq_ediv_of_nonneg h0,Zfg (n:=n/65536) (by omega) (by omega),Zfg (n:=n/4294967296) (by omega) (by omega),Zfg (n:=n/281474976710656) (by omega) (by omega),Int.tmod_eq_emod_of_nonneg (by omega),Int.tmod_eq_emod_of_nonneg (by omega),zk (n:=n % 65536) (by omega) (by omega),zk (n:=n/65536 % 65536) (by omega) (by omega),zk (n:=n/4294967296 % 65536) (by omega) (by omega),zk (by omega) (by omega)]
theorem Z7X {n:Int}(h0:0≤n) (h1:n<18446744073709551616):∀ x∈f4 n,Dg 65536 x:=by
 rw[Z2S h0 h1];intro x hx;simp only[List.mem_cons,List.not_mem_nil,or_false] at hx;rcases hx with rfl | rfl | rfl | rfl<;>exact⟨by omega,by omega⟩
theorem Z2T {n:Int}(h0:0≤n) (h1:n<18446744073709551616):vb 65536 (f4 n)=n.toNat:=by
 rw[Z2S h0 h1];simp only[vb];omega
def Z43:Zad:=fun vals h s=>
 match vals with
 | [.int .u64 n]=>Zde n.toNat h s [(decide (0≤n∧n<18446744073709551616),true)]
 | _=>none
theorem Zoe:Z8 48 Z43:=by
 intro vals h s v h' s' lg hg hl m B w E hv;unfold Z43 at hg;split at hg
 ·rename_i n;unfold Zde at hg;cases hg;have q:=oT (hl _ mS);have hd:=Z7X q.1 q.2;have hv4:=Z2T q.1 q.2;have hl4:(f4 n).length=4:=rfl;have ec:Zx (wU (f4 n)) 0 4=f4 n:=by
   have:=ZaO (f4 n);rw[hl4] at this;exact this
  have et:Zl (f4 n)=(d16 n.toNat).length:=by
   rw[Zat (by omega) hd,hv4];rfl
  have hrow:Zbm tU (wU (f4 n)) 0 4 4=true:=by
   have:=Zap (L:=f4 n) (fun x hx=>⟨(hd x hx).1,by have:=(hd x hx).2;omega⟩) (by rw[hl4];omega) (c:=4) (by rw[hl4];rfl);rw[hl4] at this;exact this
  have hr:Runs (Zr prog Zf Zn hcV) (Zs f48) ([.int .u64 n]++List.replicate 18 uZ,⟨0,[]⟩,[]) fun e z=>(e=none∨e=some none)∧ZV prog f48 z.1 z.2.1=some (sl 0 0 (d16 n.toNat).length (d16 n.toNat).length)∧∃ r,z.2.1.blk? 0=some (wU (d16 n.toNat)++r,tU):=by
   refine (Zb (Zh Zd Zu) (Z2R n) (Zi hrow (Zi rfl (Zi rfl (Zt rfl))))).mono fun e z he=> ?_;obtain⟨rfl,⟨g,e1⟩,e2⟩:=he;refine⟨.inr rfl,?_,?_⟩
   ·rw[e1,e2,ec,et];rfl
   ·rw[e2];refine⟨wU ((f4 n).drop (Zl (f4 n))),?_⟩;have e3:wU (d16 n.toNat)++wU ((f4 n).drop (Zl (f4 n)))=wU (f4 n):=by
     unfold d16;rw[← hv4,← zj (by omega) _ hd,← ZX,List.take_append_drop]
    rw[e3];rfl
  have:=ZE (T:=Zr prog Zf Zn hcV) func48 ZrV (h0:=⟨0,[]⟩) ⟨rfl,fun b x hx=>by have:b<0:=Hp.blk_lt hx;omega⟩ (vals:=[.int .u64 n]) (fun v hv=>by rw[List.mem_singleton.1 hv];rfl) (k:=0) (cs:=wU (d16 n.toNat)) (ty:=tU) (Zbb _) (by kernel_rfl) hr.w (by rfl) E (s:=fun i=>i) (fun i x hx _=>by have:i<0:=Hp.blk_lt hx;omega);exact this
 ·cases hg
def Zzi (F:Func):List Code:=[Z2 (Zs F),Z2 (Zz (Zs F))]
def wR2 (F:Func):Code:=Z2 (Z2 (Zz (Zz (Zs F))))
def wLp (F:Func):Code:=cIn (cIn (Zz (Z2 (Zz (Zz (Zs F))))))
def wEn (F:Func):Code:=Zz (Zz (Zz (Zs F)))
def m4 (n:Nat):Int:=i64.wrap ((if (4:Int)<(n:Int) then 4 else (n:Int))-1)
theorem Zof:f50.body=some (ZW (Zzi f50) (.seq (.seq (wR2 f50) (.block 0 (.loop (wLp f50)))) (wEn f50))):=by kernel_rfl
theorem ZrW (a:Value) (h:Hp):Zg (evL (Zr prog Zf Zn hcV) 100 (Zzi f50) ([a]++List.replicate 21 uZ,h,[]) ⟨[],[],[]⟩) 4 18 none [a,uZ,.int .u64 0,.int .u64 0] h []:=by and_intros<;>kernel_rfl
theorem ZxM (p:Option Addr) (n c:Nat) (h:Hp) (g:Nat→Value):Zg (evC (Zr prog Zf Zn hcV) 100 false (wR2 f50) ([.slice p n c,uZ,.int .u64 0,.int .u64 0]++tl 18 g,h,[]) ⟨[],[],[]⟩) 5 17 none [.slice p n c,uZ,.int .u64 0,.int .u64 0,.int .i64 (m4 n)] h []:=by and_intros<;>kernel_rfl
def lw (y x:Int):Int:=u64.wrap (u64.wrap (65536*y)+u64.wrap x)
theorem ZxN (o n c:Nat) (x y k:Int) (l:List Value) (g:Nat→Value):Zg (evC (Zr prog Zf Zn hcV) 100 false (wLp f50) ([sl 0 o n c,uZ,.int .u64 0,.int .u64 y,.int .i64 k]++tl 17 g,⟨1,[(l,tR)]⟩,[cmp true,at_,val (.int .u32 x)]) ⟨[],[],[]⟩) 5 17 none [sl 0 o n c,uZ,.int .u64 0,.int .u64 (lw y x),.int .i64 (i64.wrap (k-1))] ⟨1,[(l,tR)]⟩ [(Z5 (l[o+k.toNat*1]?) (.int .u32 x),true),(decide (0≤k∧k<n),true),(decide (k≥0),true)]:=by and_intros<;>kernel_rfl
theorem ZrX (a:Value) (y k:Int) (h:Hp) (g:Nat→Value):Zg (evC (Zr prog Zf Zn hcV) 100 false (wLp f50) ([a,uZ,.int .u64 0,.int .u64 y,.int .i64 k]++tl 17 g,h,[cmp false]) ⟨[],[],[]⟩) 5 17 (some (some 0)) [a,uZ,.int .u64 0,.int .u64 y,.int .i64 k] h [(decide (k≥0),false)]:=by and_intros<;>kernel_rfl
theorem ZrY (a:Value) (y k:Int) (h:Hp) (g:Nat→Value):Zg (evC (Zr prog Zf Zn hcV) 100 false (wEn f50) ([a,uZ,.int .u64 0,.int .u64 y,.int .i64 k]++tl 17 g,h,[]) ⟨[],[],[]⟩) 3 19 (some none) [a,uZ,.int .u64 y] h []:=by and_intros<;>kernel_rfl
def hiV (L:List Int) (k:Nat):Nat:=vb 65536 ((L.take 4).drop k)
theorem ZrZ {L:List Int}{k:Nat}(hk:k<(L.take 4).length):hiV L k=dgN L k+65536*hiV L (k+1):=by
 unfold hiV dgN;rw[List.drop_eq_getElem_cons hk];simp only[vb];congr 2;rw[List.getElem_take];rw[List.length_take] at hk;simp [List.getD,List.getElem?_eq_getElem (show k<L.length by omega)]
theorem ZtA {L:List Int}(hd:∀ x∈L,Dg 65536 x) (k:Nat):hiV L k<65536^(4-k):=by
 have h:=Zbl (b:=65536) (by omega) ((L.take 4).drop k) (fun x hx=>hd x (List.mem_of_mem_take (List.mem_of_mem_drop hx)));have hl:((L.take 4).drop k).length≤4-k:=by simp;omega
 exact Nat.lt_of_lt_of_le h (Nat.pow_le_pow_right (by omega) hl)
theorem Zsa {L:List Int}(hd:∀ x∈L,Dg 65536 x):hiV L 0=vb 65536 L % 18446744073709551616:=by
 have e:L=L.take 4++L.drop 4:=(List.take_append_drop 4 L).symm;have h4:=ZtA hd 0;unfold hiV at*;rw[List.drop_zero] at*;have ev:vb 65536 L=vb 65536 (L.take 4)+65536^(L.take 4).length*vb 65536 (L.drop 4):=by
  conv=>lhs;rw[e]
  exact Zay _ _ _
 rw[ev];have e4:(65536:Nat)^(4-0)=18446744073709551616:=rfl;by_cases hl:L.length≤4
 ·rw[List.drop_of_length_le hl];simp only[vb,Nat.mul_zero,Nat.add_zero];omega
 ·have:(L.take 4).length=4:=by simp;omega
  have e5:(65536:Nat)^4=18446744073709551616:=rfl;rw[this,e5];omega
theorem Zog {l:List Value}{o c:Nat}{L:List Int}(hR:Row l o L) (hd:∀ x∈L,Dg 65536 x) (hn:L.length<1073741824):
  Runs (Zr prog Zf Zn hcV) (ZW (Zzi f50) (.seq (.seq (wR2 f50) (.block 0 (.loop (wLp f50)))) (wEn f50))) ([sl 0 o L.length c]++List.replicate 21 uZ,⟨1,[(l,tR)]⟩,[]) fun e z=>(e=none∨e=some none)∧ZV prog f50 z.1 z.2.1=some (.int .u64 ((vb 65536 L % 18446744073709551616:Nat):Int)):=by
 have hm:m4 L.length=(((L.take 4).length:Nat):Int)-1:=by
  unfold m4;rw[List.length_take];split
  ·rw[Zw (by omega) (by omega)];omega
  ·rw[Zw (by omega) (by omega)];omega
 have hz:hiV L (L.take 4).length=0:=by unfold hiV;rw[List.drop_of_length_le (Nat.le_refl _)];rfl
 refine Zv (Zh Zd Zu) (ZrW _ _) (fun x hx=>by cases hx) fun g=> ?_;refine Runs.seq (P1:=fun e Y=>match e with | none=>(∃ g,Y.1=[sl 0 o L.length c,uZ,.int .u64 0,.int .u64 (hiV L 0:Nat),.int .i64 (-1)]++tl 17 g)∧Y.2.1=⟨1,[(l,tR)]⟩ | some none=>False | some (some _)=>False) (Runs.seq (P1:=fun e Y=>e=none∧(∃ g,Y.1=[sl 0 o L.length c,uZ,.int .u64 0,.int .u64 0,.int .i64 (m4 L.length)]++tl 17 g)∧Y.2.1=⟨1,[(l,tR)]⟩) (Zb (Zh Zd Zu) (ZxM _ L.length c _ g) (fun x hx=>by cases hx)) ?_ (fun e y he=>by cases he.1)) ?_ (fun e Y he=>by match e,he with | none,he=>exact he.elim | some id,he=>exact he.elim)
 ·rintro⟨t,h',s⟩ ⟨_,⟨g',ht⟩,hh⟩;simp only at ht hh;subst ht hh;refine Runs.script (s:=[]) (Runs.forLoop (P:=fun Y=>(∃ g,Y.1=[sl 0 o L.length c,uZ,.int .u64 0,.int .u64 (hiV L 0:Nat),.int .i64 (-1)]++tl 17 g)∧Y.2.1=⟨1,[(l,tR)]⟩) (R:=fun _=>False)
   (fun k Y=>k≤(L.take 4).length∧(∃ g,Y.1=[sl 0 o L.length c,uZ,.int .u64 0,.int .u64 (hiV L k:Nat),.int .i64 ((k:Int)-1)]++tl 17 g)∧Y.2.1=⟨1,[(l,tR)]⟩) ?_ (n:=(L.take 4).length) ⟨Nat.le_refl _,⟨g',by rw[hz,hm];rfl⟩,rfl⟩)
  rintro k ⟨t,h',s⟩ ⟨hk,⟨g,ht⟩,hh⟩;simp only at ht hh;subst ht hh;have hl4:(L.take 4).length≤L.length:=by simp;omega
  have hl5:(L.take 4).length≤4:=by simp;omega
  cases k with
  | zero=>
   refine (Zb (Zh Zd Zu) (ZrX _ _ _ _ g) (Zt (dF (by omega)))).mono fun e z hz=> ?_;obtain⟨rfl,⟨g',z1⟩,z2⟩:=hz;exact⟨rfl,⟨g',z1⟩,z2⟩
  | succ k=>
   have hd1:=zy hd k;have hlt:=ZtA hd (k+1);have hs:=ZrZ (L:=L) (k:=k) (by omega);have ek:((k+1:Nat):Int)-1=(k:Int):=by omega
   have hp:hiV L (k+1)<281474976710656:=by
    have:65536^(4-(k+1))≤65536^3:=Nat.pow_le_pow_right (by omega) (by omega);have e3:(65536:Nat)^3=281474976710656:=rfl;omega
   rw[ek];refine (Zb (Zh Zd Zu) (ZxN o L.length c (L.getD k 0) _ k l g) (Zi (by rw[tN,Nat.mul_one,hR.cell (by omega)];simp [Z5]) (Zi (dT (by omega)) (Zt (show decide ((k:Int)≥0)=true from dT (by omega)))))).mono fun e z hz=> ?_;obtain⟨rfl,⟨g',z1⟩,z2⟩:=hz;have e1:lw (hiV L (k+1):Nat) (L.getD k 0)=((hiV L k:Nat):Int):=by
    unfold lw;rw[← hd1.2,Zfg (n:=65536*((hiV L (k+1):Nat):Int)) (by omega) (by omega),Zfg (n:=((dgN L k:Nat):Int)) (by omega) (by omega),Zfg (by omega) (by omega)];omega
   have e2:i64.wrap ((k:Int)-1)=(k:Int)-1:=Zw (by omega) (by omega);exact⟨k,by omega,by omega,⟨g',by rw[z1,e1,e2]⟩,z2⟩
 ·rintro⟨t,h',s⟩ ⟨⟨g',ht⟩,hh⟩;simp only at ht hh;subst ht hh;refine (Zb (Zh Zd Zu) (ZrY _ _ _ _ g') (fun x hx=>by cases hx)).mono fun e z hz=> ?_;obtain⟨rfl,⟨g2,z1⟩,z2⟩:=hz;refine⟨.inr rfl,?_⟩;rw[z1,z2,Zsa hd];rfl
theorem Zkj:f50.body=some (Zs f50):=by kernel_rfl
theorem Zoh (p:Option Addr) (c:Nat) (h:Hp):Zg (evC (Zr prog Zf Zn hcV) 100 false (Zs f50) ([.slice p 0 c]++List.replicate 21 uZ,h,[cmp false]) ⟨[],[],[]⟩) 3 19 (some none) [.slice p 0 c,uZ,.int .u64 0] h [(decide (m4 0≥0),false)]:=by and_intros<;>kernel_rfl
theorem ZxO:decide (m4 0≥0)=false:=by decide
def ZxP (h:Hp) (p:Option Addr) (n c:Nat):Bool:=zJ h p n c && dgB (Zq h p n) && Nat.blt n 1073741824
def ZxQ:Zad:=fun vals h s=>
 match vals with
 | [.slice p n c]=>some (.int .u64 ((vO h p n % 18446744073709551616:Nat):Int),h,s,[(ZxP h p n c,true)])
 | _=>none
theorem Zsb:Z8 50 ZxQ:=by
 intro vals h s v h' s' lg hg hl m B w E hv;unfold ZxQ at hg;split at hg
 ·rename_i p n c;cases hg;have q:=hl _ mS;simp only[ZxP,Bool.and_eq_true] at q;obtain⟨⟨q1,q2⟩,q3⟩:=q;have q2:=Zbw q2;have q3:=Zo.1 q3;have hlen:=zK q1;by_cases hn:n=0
  ·subst hn;have e0:Zq h p 0=[]:=List.length_eq_zero_iff.1 hlen;have ev:vO h p 0=0:=by unfold vO;rw[e0];rfl
   obtain⟨x,p',a,NA,eA,fA⟩:=ZbF 0 q1;have hr:Runs (Zr prog Zf Zn hcV) (Zs f50) ([.slice p' 0 c]++List.replicate 21 uZ,⟨1,[x]⟩,[]) fun e z=>(e=none∨e=some none)∧ZV prog f50 z.1 z.2.1=some (.int .u64 ((vO h p 0 % 18446744073709551616:Nat):Int)):=by
    refine (Zb (Zh Zd Zu) (Zoh p' c _) (Zt ZxO)).mono fun e z he=> ?_;obtain⟨rfl,⟨g,e2⟩,e3⟩:=he;refine⟨.inr rfl,?_⟩;rw[e2,e3,ev];rfl
   have b1:∀ {i:Nat}{z:List Value×TypeId},(⟨1,[x]⟩:Hp).blk? i=some z→i=0∧z=x:=fun {i z} hz=>by
    have:i<1:=Hp.blk_lt hz;have hi:i=0:=by omega
    subst hi;exact⟨rfl,(Option.some.inj hz).symm⟩
   have:=ZB (T:=Zr prog Zf Zn hcV) func50 Zkj (h0:=⟨1,[x]⟩) ⟨rfl,fun b z hz=>by obtain⟨_,rfl⟩:=b1 hz;exact⟨NA.ros.1,NA.lt0,NA.ros.2⟩⟩ (vals:=[.slice p' 0 c]) (fun v hv=>by rw[List.mem_singleton.1 hv];exact NA.lt (by show 0<1;omega)) (by rfl) hr.w E (s:=fun _=>a) (fun i z hz ht=>by obtain⟨_,rfl⟩:=b1 hz;exact fA ht);simp only[List.map_cons,List.map_nil] at this;rw[eA _ rfl] at this;exact this
  rcases ZF q1 with ⟨rfl,rfl,rfl,e0⟩ | ⟨b,o,x,rfl,hx,r1,_,e0⟩
  ·exact absurd rfl hn
  ·rw[e0] at q2 hlen;obtain⟨h1,h2,h3,h4,h5,h6,h7⟩:=zt r1;have r:=Zog (c:=c) h1 q2 (by rw[h2];exact q3);rw[h2] at r;have ev:vO h (some ⟨b,o,none⟩) n=vb 65536 (Zx x.1 o n):=by unfold vO;rw[e0]
   rw[ev];exact ZB (T:=Zr prog Zf Zn hcV) func50 Zof (ZaK h7) (vals:=[sl 0 o n c]) (fun v hv=>by rw[List.mem_singleton.1 hv];rfl) (by rfl) r.w E (s:=fun _=>b) (zH hx h5 h6 rfl)
 ·cases hg
theorem Zoi:f90.body=some (ZW (Zzi f90) (.seq (.seq (wR2 f90) (.block 0 (.loop (wLp f90)))) (wEn f90))):=by kernel_rfl
theorem Zsc (p:Option Addr) (n c:Nat) (k:Int) (h:Hp):Zg (evL (Zr prog Zf Zn hcV) 100 (Zzi f90) ([.slice p n c,.int .i64 k]++List.replicate 20 uZ,h,[]) ⟨[],[],[]⟩) 6 16 none [.slice p n c,.int .i64 k,uZ,uZ,.int .i64 0,.int .u32 (atN (Zq h p n) (k16 k))] h [(zJ h p n c,true)]:=by and_intros<;>kernel_rfl
theorem ZxR (a:Value) (k x:Int) (h:Hp) (g:Nat→Value):Zg (evC (Zr prog Zf Zn hcV) 100 false (wR2 f90) ([a,.int .i64 k,uZ,uZ,.int .i64 0,.int .u32 x]++tl 16 g,h,[]) ⟨[],[],[]⟩) 7 15 none [a,.int .i64 k,uZ,uZ,.int .i64 0,.int .u32 x,.int .i64 0] h []:=by and_intros<;>kernel_rfl
theorem ZxS (a:Value) (k x i:Int) (h:Hp) (g:Nat→Value):Zg (evC (Zr prog Zf Zn hcV) 100 false (wLp f90) ([a,.int .i64 k,uZ,uZ,.int .i64 0,.int .u32 x,.int .i64 i]++tl 15 g,h,[cmp true,cmp true]) ⟨[],[],[]⟩) 7 15 none [a,.int .i64 k,uZ,uZ,.int .i64 0,.int .u32 (u32.wrap (x.tdiv 2)),.int .i64 (i64.wrap (i+1))] h [(decide (i<k.tmod 16),true),(decide ((16:Int)=0),false)]:=by and_intros<;>kernel_rfl
theorem Zsd (a:Value) (k x i:Int) (h:Hp) (g:Nat→Value):Zg (evC (Zr prog Zf Zn hcV) 100 false (wLp f90) ([a,.int .i64 k,uZ,uZ,.int .i64 0,.int .u32 x,.int .i64 i]++tl 15 g,h,[cmp true,cmp false]) ⟨[],[],[]⟩) 7 15 (some (some 0)) [a,.int .i64 k,uZ,uZ,.int .i64 0,.int .u32 x,.int .i64 i] h [(decide (i<k.tmod 16),false),(decide ((16:Int)=0),false)]:=by and_intros<;>kernel_rfl
theorem Zse (a:Value) (k x i:Int) (h:Hp) (g:Nat→Value):Zg (evC (Zr prog Zf Zn hcV) 100 false (wEn f90) ([a,.int .i64 k,uZ,uZ,.int .i64 0,.int .u32 x,.int .i64 i]++tl 15 g,h,[cmp true]) ⟨[],[],[]⟩) 5 17 (some none) [a,.int .i64 k,uZ,uZ,.int .i64 (i64.wrap (x.tmod 2))] h [(decide ((2:Int)=0),false)]:=by and_intros<;>kernel_rfl
theorem Zoj (a:Value) (k x:Nat) (hx:x<65536) (h:Hp) (g:Nat→Value):
  Runs (Zr prog Zf Zn hcV) (.block 0 (.loop (wLp f90))) ([a,.int .i64 (k:Nat),uZ,uZ,.int .i64 0,.int .u32 (x:Nat),.int .i64 0]++tl 15 g,h,[]) fun e Y=>match e with | none=>(∃ g i,Y.1=[a,.int .i64 (k:Nat),uZ,uZ,.int .i64 0,.int .u32 ((x/2^(k % 16):Nat):Int),.int .i64 i]++tl 15 g)∧Y.2.1=h | some none=>False | some (some _)=>False:=by
 have em:(k:Int).tmod 16=((k % 16:Nat):Int):=by rw[Int.tmod_eq_emod_of_nonneg (by omega)];omega
 refine Runs.forLoop (P:=fun Y=>(∃ g i,Y.1=[a,.int .i64 (k:Nat),uZ,uZ,.int .i64 0,.int .u32 ((x/2^(k % 16):Nat):Int),.int .i64 i]++tl 15 g)∧Y.2.1=h) (R:=fun _=>False)
  (fun m Y=>∃ j:Nat,j≤k % 16∧m=k % 16-j∧(∃ g,Y.1=[a,.int .i64 (k:Nat),uZ,uZ,.int .i64 0,.int .u32 ((x/2^j:Nat):Int),.int .i64 (j:Nat)]++tl 15 g)∧Y.2.1=h) ?_ (n:=k % 16) ⟨0,by omega,by omega,⟨g,by simp⟩,rfl⟩
 rintro m ⟨t,h',s⟩ ⟨j,hj,hm,⟨g,ht⟩,hh⟩;simp only at ht hh;subst ht hh;have hle:x/2^j≤x:=Nat.div_le_self _ _;by_cases hlt:j<k % 16
 ·refine (Zb (Zh Zd Zu) (ZxS a k _ j h' g) (Zi (by rw[em];exact dT (by omega)) (Zt rfl))).mono fun e z hz=> ?_;obtain⟨rfl,⟨g',z1⟩,z2⟩:=hz;have e1:u32.wrap (((x/2^j:Nat):Int).tdiv 2)=((x/2^(j+1):Nat):Int):=by
   rw[Nat.pow_succ,← Nat.div_div_eq_div_mul];generalize x/2^j=y at hle ⊢;rw[Int.tdiv_eq_ediv_of_nonneg (by omega),zk (by omega) (by omega)];rfl
  have e2:i64.wrap ((j:Int)+1)=((j+1:Nat):Int):=by rw[Zw (by omega) (by omega)];omega
  exact⟨k % 16-(j+1),by omega,j+1,by omega,rfl,⟨g',by rw[z1,e1,e2]⟩,z2⟩
 ·have hj':j=k % 16:=by omega
  subst hj';refine (Zb (Zh Zd Zu) (Zsd a k _ _ h' g) (Zi (by rw[em];exact dF (by omega)) (Zt rfl))).mono fun e z hz=> ?_;obtain⟨rfl,⟨g',z1⟩,z2⟩:=hz;exact⟨rfl,⟨g',_,z1⟩,z2⟩
def ZxT (h:Hp) (p:Option Addr) (n c:Nat):Bool:=zJ h p n c && dgB (Zq h p n) && Nat.blt n 1073741824
def ZxU:Zad:=fun vals h s=>
 match vals with
 | [.slice p n c,.int .i64 k]=>some (.int .i64 ((vO h p n/2^k.toNat % 2:Nat):Int),h,s,[(ZxT h p n c,true),(decide (0≤k∧k<4611686018427387904),true)])
 | _=>none
theorem ZtB (L:List Int) (i:Nat):dgS L i=dgN L i:=rfl
theorem ZgN {x:List Value×TypeId}{i:Nat}{z:List Value×TypeId}(hz:(⟨1,[x]⟩:Hp).blk? i=some z):i=0∧z=x:=by
 have:i<1:=Hp.blk_lt hz;have hi:i=0:=by omega
 subst hi;exact⟨rfl,(Option.some.inj hz).symm⟩
theorem Zsf:Z8 90 ZxU:=by
 intro vals h s v h' s' lg hg hl m B w E hv;unfold ZxU at hg;split at hg
 ·rename_i p n c k;cases hg;have q:=hl _ (mH);have qk:=oT (hl _ (mN _ mS));simp only[ZxT,Bool.and_eq_true] at q;obtain⟨⟨q1,q2⟩,q3⟩:=q;have q2:=Zbw q2;obtain⟨K,rfl⟩:=Int.eq_ofNat_of_zero_le qk.1;obtain⟨x,p',a,NA,eA,fA⟩:=ZbF 0 q1;obtain⟨rp,ro'⟩:=NA.row ⟨1,[x]⟩ rfl;have ek:k16 (K:Int)=((K/16:Nat):Int):=by unfold k16;rw[Int.tdiv_eq_ediv_of_nonneg (by omega),Zw (by omega) (by omega)];omega
  have hd:=zy q2 (K/16);have hr:Runs (Zr prog Zf Zn hcV) (ZW (Zzi f90) (.seq (.seq (wR2 f90) (.block 0 (.loop (wLp f90)))) (wEn f90))) ([.slice p' n c,.int .i64 (K:Nat)]++List.replicate 20 uZ,⟨1,[x]⟩,[]) fun e z=>(e=none∨e=some none)∧ZV prog f90 z.1 z.2.1=some (.int .i64 ((vO h p n/2^K % 2:Nat):Int)):=by
   refine Zv (Zh Zd Zu) (Zsc p' n c K _) (Zt rp) fun g=> ?_;rw[ro',ek,Zaq,← hd.2];refine Runs.seq (P1:=fun e Y=>match e with | none=>(∃ g i,Y.1=[.slice p' n c,.int .i64 (K:Nat),uZ,uZ,.int .i64 0,.int .u32 ((dgN (Zq h p n) (K/16)/2^(K % 16):Nat):Int),.int .i64 i]++tl 15 g)∧Y.2.1=⟨1,[x]⟩ | some none=>False | some (some _)=>False) (Runs.seq (P1:=fun e Y=>e=none∧(∃ g,Y.1=[.slice p' n c,.int .i64 (K:Nat),uZ,uZ,.int .i64 0,.int .u32 ((dgN (Zq h p n) (K/16):Nat):Int),.int .i64 0]++tl 15 g)∧Y.2.1=⟨1,[x]⟩) (Zb (Zh Zd Zu) (ZxR _ K _ _ g) (fun x hx=>by cases hx)) ?_ (fun e y he=>by cases he.1)) ?_ (fun e Y he=>by match e,he with | none,he=>exact he.elim | some id,he=>exact he.elim)
   ·rintro⟨t,h',s⟩ ⟨_,⟨g',ht⟩,hh⟩;simp only at ht hh;subst ht hh;exact Runs.script (Zoj _ K _ hd.1 _ g')
   ·rintro⟨t,h',s⟩ ⟨⟨g',i,ht⟩,hh⟩;simp only at ht hh;subst ht hh;refine (Zb (Zh Zd Zu) (Zse _ _ _ _ _ g') (Zt rfl)).mono fun e z hz=> ?_;obtain⟨rfl,⟨g2,z1⟩,z2⟩:=hz;refine⟨.inr rfl,?_⟩;have e1:i64.wrap ((((dgN (Zq h p n) (K/16)/2^(K % 16):Nat):Int)).tmod 2)=((vO h p n/2^K % 2:Nat):Int):=by
     unfold vO;rw[Z0A q2 K,ZtB];generalize dgN (Zq h p n) (K/16)/2^(K % 16)=y;rw[Int.tmod_eq_emod_of_nonneg (by omega),Zw (by omega) (by omega)];rfl
    rw[z1,z2,e1];rfl
  have:=ZB (T:=Zr prog Zf Zn hcV) func90 Zoi (h0:=⟨1,[x]⟩) ⟨rfl,fun b z hz=>by obtain⟨_,rfl⟩:=ZgN hz;exact⟨NA.ros.1,NA.lt0,NA.ros.2⟩⟩ (vals:=[.slice p' n c,.int .i64 (K:Nat)]) (fun v hv=>by
   simp only[List.mem_cons,List.not_mem_nil,or_false] at hv;rcases hv with rfl | rfl
   ·exact NA.lt (by show 0<1;omega)
   ·rfl) (by rfl) hr.w E (s:=fun _=>a) (fun i z hz ht=>by obtain⟨_,rfl⟩:=ZgN hz;exact fA ht)
  simp only[List.map_cons,List.map_nil] at this;rw[eA _ rfl] at this;exact this
 ·cases hg
def rB (F:Func):Code:=Zz (Zz (Zz (Zz (Zs F))))
def rPr (F:Func):List Code:=[Z2 (Zs F),Z2 (Zz (Zs F)),Z2 (Zz (Zz (Zs F))),Z2 (Zz (Zz (Zz (Zs F))))]
def rR5 (F:Func):Code:=Z2 (Z2 (rB F))
def rL1 (F:Func):Code:=cIn (cIn (Zz (Z2 (rB F))))
def rC (F:Func):Code:=Zz (rB F)
def rIf (F:Func):Code:=Z2 (rC F)
def Z7Y (F:Func):Code:=Z2 (Zz (rC F))
def rD (F:Func):Code:=Zz (Zz (rC F))
def Z7Z (F:Func):Code:=Z2 (Z2 (rD F))
def rL2 (F:Func):Code:=cIn (cIn (Zz (Z2 (rD F))))
def Z44 (F:Func):Code:=Z2 (Zz (rD F))
def Z8a (F:Func):Code:=Z2 (Zz (Zz (rD F)))
def rE (F:Func):Code:=Zz (Zz (Zz (rD F)))
def Z8b (F:Func):Code:=Z2 (Z2 (rE F))
def rL3 (F:Func):Code:=cIn (cIn (Zz (Z2 (rE F))))
def rEn (F:Func):Code:=Zz (rE F)
theorem Zok:f89.body=some (ZW (rPr f89) (.seq (.seq (rR5 f89) (.block 0 (.loop (rL1 f89)))) (.seq (rIf f89) (.seq (Z7Y f89) (.seq (.seq (Z7Z f89) (.block 2 (.loop (rL2 f89)))) (.seq (Z44 f89) (.seq (Z8a f89) (.seq (.seq (Z8b f89) (.block 4 (.loop (rL3 f89)))) (rEn f89))))))))):=by kernel_rfl
theorem Zkk:f89.body=some (Zs f89):=by kernel_rfl
theorem ZxV (p:Option Addr) (n c:Nat) (k:Int) (h:Hp):Zg (evL (Zr prog Zf Zn hcV) 100 (rPr f89) ([.slice p n c,.int .i64 k]++List.replicate 87 uZ,h,[cmp false]) ⟨[],[],[]⟩) 8 81 none [.slice p n c,.int .i64 k,uZ,uZ,Zp,.bool false,.bool false,.int .i64 (k16 k)] h [(decide (k≤0),false)]:=by and_intros<;>kernel_rfl
theorem Z2U (a:Value) (k b:Int) (h:Hp) (g:Nat→Value):Zg (evC (Zr prog Zf Zn hcV) 100 false (rR5 f89) ([a,.int .i64 k,uZ,uZ,Zp,.bool false,.bool false,.int .i64 b]++tl 81 g,h,[]) ⟨[],[],[]⟩) 9 80 none [a,.int .i64 k,uZ,uZ,Zp,.bool false,.bool false,.int .i64 b,.int .i64 0] h []:=by and_intros<;>kernel_rfl
theorem ZxW (p:Option Addr) (n c:Nat) (k b i:Int) (h:Hp) (g:Nat→Value):Zg (evC (Zr prog Zf Zn hcV) 100 false (rL1 f89) ([.slice p n c,.int .i64 k,uZ,uZ,Zp,.bool false,.bool true,.int .i64 b,.int .i64 i]++tl 80 g,h,[cmp true,cmp true]) ⟨[],[],[]⟩) 9 80 none [.slice p n c,.int .i64 k,uZ,uZ,Zp,.bool false,.bool true,.int .i64 b,.int .i64 (i64.wrap (i+1))] h [(decide (i<n),true),(decide (i<b),true)]:=by and_intros<;>kernel_rfl
theorem ZxX (o n c:Nat) (k b i x:Int) (l:List Value) (d:Bool) (g:Nat→Value):Zg (evC (Zr prog Zf Zn hcV) 100 false (rL1 f89) ([sl 0 o n c,.int .i64 k,uZ,uZ,Zp,.bool false,.bool false,.int .i64 b,.int .i64 i]++tl 80 g,⟨1,[(l,tR)]⟩,[cmp true,cmp true,at_,val (.int .u32 x),cmp d]) ⟨[],[],[]⟩) 9 80 none [sl 0 o n c,.int .i64 k,uZ,uZ,Zp,.bool false,.bool d,.int .i64 b,.int .i64 (i64.wrap (i+1))] ⟨1,[(l,tR)]⟩ [(x !=0,d),(Z5 (l[o+i.toNat*1]?) (.int .u32 x),true),(decide (0≤i∧i<n),true),(decide (i<n),true),(decide (i<b),true)]:=by and_intros<;>kernel_rfl
theorem ZxY (p:Option Addr) (n c:Nat) (k b i:Int) (e:Bool) (h:Hp) (g:Nat→Value):Zg (evC (Zr prog Zf Zn hcV) 100 false (rL1 f89) ([.slice p n c,.int .i64 k,uZ,uZ,Zp,.bool false,.bool e,.int .i64 b,.int .i64 i]++tl 80 g,h,[cmp false]) ⟨[],[],[]⟩) 9 80 (some (some 0)) [.slice p n c,.int .i64 k,uZ,uZ,Zp,.bool false,.bool e,.int .i64 b,.int .i64 i] h [(decide (i<b),false)]:=by and_intros<;>kernel_rfl
theorem ZxZ (p:Option Addr) (n c:Nat) (k b i:Int) (e:Bool) (h:Hp) (g:Nat→Value):Zg (evC (Zr prog Zf Zn hcV) 100 false (rL1 f89) ([.slice p n c,.int .i64 k,uZ,uZ,Zp,.bool false,.bool e,.int .i64 b,.int .i64 i]++tl 80 g,h,[cmp true,cmp false]) ⟨[],[],[]⟩) 9 80 (some (some 0)) [.slice p n c,.int .i64 k,uZ,uZ,Zp,.bool false,.bool e,.int .i64 b,.int .i64 i] h [(decide (i<n),false),(decide (i<b),true)]:=by and_intros<;>kernel_rfl
theorem Zya (p:Option Addr) (n c:Nat) (k b i:Int) (e:Bool) (h:Hp) (g:Nat→Value):Zg (evC (Zr prog Zf Zn hcV) 100 false (rIf f89) ([.slice p n c,.int .i64 k,uZ,uZ,Zp,.bool false,.bool e,.int .i64 b,.int .i64 i]++tl 80 g,h,[cmp true]) ⟨[],[],[]⟩) 6 83 (some none) [.slice p n c,.int .i64 k,uZ,uZ,Zp,.bool e] h [(decide (b≥n),true)]:=by and_intros<;>kernel_rfl
theorem Zyb (p:Option Addr) (n c:Nat) (k b i:Int) (e:Bool) (h:Hp) (g:Nat→Value):Zg (evC (Zr prog Zf Zn hcV) 100 false (rIf f89) ([.slice p n c,.int .i64 k,uZ,uZ,Zp,.bool false,.bool e,.int .i64 b,.int .i64 i]++tl 80 g,h,[cmp false]) ⟨[],[],[]⟩) 9 80 none [.slice p n c,.int .i64 k,uZ,uZ,Zp,.bool false,.bool e,.int .i64 b,.int .i64 i] h [(decide (b≥n),false)]:=by and_intros<;>kernel_rfl
theorem Zyc (a:Value) (k b i:Int) (e:Bool) (h:Hp) (g:Nat→Value):Zg (evC (Zr prog Zf Zn hcV) 100 false (Z7Y f89) ([a,.int .i64 k,uZ,uZ,Zp,.bool false,.bool e,.int .i64 b,.int .i64 i]++tl 80 g,h,[]) ⟨[],[],[]⟩) 10 79 none [a,.int .i64 k,uZ,uZ,Zp,.bool false,.bool e,.int .i64 b,.int .i64 i,.int .u32 1] h []:=by and_intros<;>kernel_rfl
theorem Zyd (a:Value) (k b i:Int) (e:Bool) (h:Hp) (g:Nat→Value):Zg (evC (Zr prog Zf Zn hcV) 100 false (Z7Z f89) ([a,.int .i64 k,uZ,uZ,Zp,.bool false,.bool e,.int .i64 b,.int .i64 i,.int .u32 1]++tl 79 g,h,[]) ⟨[],[],[]⟩) 11 78 none [a,.int .i64 k,uZ,uZ,Zp,.bool false,.bool e,.int .i64 b,.int .i64 i,.int .u32 1,.int .i64 0] h []:=by and_intros<;>kernel_rfl
theorem Z2V (a:Value) (k b u i q:Int) (e:Bool) (h:Hp) (g:Nat→Value):Zg (evC (Zr prog Zf Zn hcV) 100 false (rL2 f89) ([a,.int .i64 k,uZ,uZ,Zp,.bool false,.bool e,.int .i64 b,.int .i64 u,.int .u32 q,.int .i64 i]++tl 78 g,h,[cmp true,cmp true]) ⟨[],[],[]⟩) 11 78 none [a,.int .i64 k,uZ,uZ,Zp,.bool false,.bool e,.int .i64 b,.int .i64 u,.int .u32 (u32.wrap (2*q)),.int .i64 (i64.wrap (i+1))] h [(decide (i<k.tmod 16),true),(decide ((16:Int)=0),false)]:=by and_intros<;>kernel_rfl
theorem Z2W (a:Value) (k b u i q:Int) (e:Bool) (h:Hp) (g:Nat→Value):Zg (evC (Zr prog Zf Zn hcV) 100 false (rL2 f89) ([a,.int .i64 k,uZ,uZ,Zp,.bool false,.bool e,.int .i64 b,.int .i64 u,.int .u32 q,.int .i64 i]++tl 78 g,h,[cmp true,cmp false]) ⟨[],[],[]⟩) 11 78 (some (some 2)) [a,.int .i64 k,uZ,uZ,Zp,.bool false,.bool e,.int .i64 b,.int .i64 u,.int .u32 q,.int .i64 i] h [(decide (i<k.tmod 16),false),(decide ((16:Int)=0),false)]:=by and_intros<;>kernel_rfl
theorem Zye (a:Value) (k b u i q:Int) (h:Hp) (g:Nat→Value):Zg (evC (Zr prog Zf Zn hcV) 100 false (Z44 f89) ([a,.int .i64 k,uZ,uZ,Zp,.bool false,.bool true,.int .i64 b,.int .i64 u,.int .u32 q,.int .i64 i]++tl 78 g,h,[]) ⟨[],[],[]⟩) 11 78 none [a,.int .i64 k,uZ,uZ,Zp,.bool false,.bool true,.int .i64 b,.int .i64 u,.int .u32 q,.int .i64 i] h []:=by and_intros<;>kernel_rfl
theorem Zyf (o n c:Nat) (k b u i q x:Int) (l:List Value) (d:Bool) (g:Nat→Value):Zg (evC (Zr prog Zf Zn hcV) 100 false (Z44 f89) ([sl 0 o n c,.int .i64 k,uZ,uZ,Zp,.bool false,.bool false,.int .i64 b,.int .i64 u,.int .u32 q,.int .i64 i]++tl 78 g,⟨1,[(l,tR)]⟩,[at_,val (.int .u32 x),cmp false,cmp d]) ⟨[],[],[]⟩) 11 78 none [sl 0 o n c,.int .i64 k,uZ,uZ,Zp,.bool false,.bool d,.int .i64 b,.int .i64 u,.int .u32 q,.int .i64 i] ⟨1,[(l,tR)]⟩ [(x.tmod q !=0,d),(decide (q=0),false),(Z5 (l[o+b.toNat*1]?) (.int .u32 x),true),(decide (0≤b∧b<n),true)]:=by and_intros<;>kernel_rfl
theorem Zyg (a:Value) (k b u i q:Int) (e:Bool) (h:Hp) (g:Nat→Value):Zg (evC (Zr prog Zf Zn hcV) 100 false (Z8a f89) ([a,.int .i64 k,uZ,uZ,Zp,.bool false,.bool e,.int .i64 b,.int .i64 u,.int .u32 q,.int .i64 i]++tl 78 g,h,[]) ⟨[],[],[]⟩) 12 77 none [a,.int .i64 k,uZ,uZ,Zp,.bool false,.bool e,.int .i64 b,.int .i64 u,.int .u32 q,.int .i64 i,Zp] h []:=by and_intros<;>kernel_rfl
theorem Zyh (a:Value) (k b u i q:Int) (e:Bool) (h:Hp) (g:Nat→Value):Zg (evC (Zr prog Zf Zn hcV) 100 false (Z8b f89) ([a,.int .i64 k,uZ,uZ,Zp,.bool false,.bool e,.int .i64 b,.int .i64 u,.int .u32 q,.int .i64 i,Zp]++tl 77 g,h,[]) ⟨[],[],[]⟩) 13 76 none [a,.int .i64 k,uZ,uZ,Zp,.bool false,.bool e,.int .i64 b,.int .i64 u,.int .u32 q,.int .i64 i,Zp,.int .i64 b] h []:=by and_intros<;>kernel_rfl
theorem ZtC (p:Option Addr) (n c:Nat) (v:Value) (k b u u2 i q:Int) (e:Bool) (h:Hp) (g:Nat→Value):Zg (evC (Zr prog Zf Zn hcV) 100 false (rL3 f89) ([.slice p n c,.int .i64 k,uZ,uZ,Zp,.bool false,.bool e,.int .i64 b,.int .i64 u,.int .u32 q,.int .i64 u2,v,.int .i64 i]++tl 76 g,h,[cmp false]) ⟨[],[],[]⟩) 13 76 (some (some 4)) [.slice p n c,.int .i64 k,uZ,uZ,Zp,.bool false,.bool e,.int .i64 b,.int .i64 u,.int .u32 q,.int .i64 u2,v,.int .i64 i] h [(decide (i<n),false)]:=by and_intros<;>kernel_rfl
def dwn (h:Hp) (o n:Nat) (i q q1 q2:Int):Int:=u32.wrap (q1+u32.wrap ((atN (Zq h (some ⟨0,o,none⟩) n) (i64.wrap (i+1))).tmod q*q2))
def lDw (h:Hp) (l:List Value) (o n c:Nat) (i q x q1 q2:Int):Log:=[(decide (q=0),false),(zJ h (some ⟨0,o,none⟩) n c,true),(decide (q=0),false),(decide (u32.wrap (Int.tdiv 65536 q)=q2),true),(decide (q=0),false),(decide (u32.wrap (x.tdiv q)=q1),true),(Z5 (l[o+i.toNat*1]?) (.int .u32 x),true),(decide (0≤i∧i<n),true),(decide (i<n),true)]
theorem Zyi (o n c:Nat) (k b u u2 i q x q1 q2:Int) (e:Bool) (l:List Value) (g:Nat→Value):Zg (evC (Zr prog Zf Zn hcV) 100 false (rL3 f89) ([sl 0 o n c,.int .i64 k,uZ,uZ,Zp,.bool false,.bool e,.int .i64 b,.int .i64 u,.int .u32 q,.int .i64 u2,Zp,.int .i64 i]++tl 76 g,⟨1,[(l,tR)]⟩,[cmp true,at_,val (.int .u32 x),num q1,num q2,cmp false]) ⟨[],[],[]⟩) 13 76 none [sl 0 o n c,.int .i64 k,uZ,uZ,Zp,.bool false,.bool e,.int .i64 b,.int .i64 u,.int .u32 q,.int .i64 u2,sl 2 0 1 grown,.int .i64 (i64.wrap (i+1))] ⟨3,[([.int .u32 (dwn ⟨1,[(l,tR)]⟩ o n i q q1 q2)],tU),([.int .u32 (dwn ⟨1,[(l,tR)]⟩ o n i q q1 q2)],tU),(l,tR)]⟩ (lDw ⟨1,[(l,tR)]⟩ l o n c i q x q1 q2):=by and_intros<;>kernel_rfl
theorem Zyj (o n c z:Nat) (k b u u2 i q x q1 q2:Int) (e:Bool) (l lo:List Value) (g:Nat→Value):Zg (evC (Zr prog Zf Zn hcV) 100 false (rL3 f89) ([sl 0 o n c,.int .i64 k,uZ,uZ,Zp,.bool false,.bool e,.int .i64 b,.int .i64 u,.int .u32 q,.int .i64 u2,sl 1 0 z grown,.int .i64 i]++tl 76 g,⟨2,[(lo,tU),(l,tR)]⟩,[cmp true,at_,val (.int .u32 x),num q1,num q2,cmp false,at_]) ⟨[],[],[]⟩) 13 76 none [sl 0 o n c,.int .i64 k,uZ,uZ,Zp,.bool false,.bool e,.int .i64 b,.int .i64 u,.int .u32 q,.int .i64 u2,sl 3 0 (z+1) grown,.int .i64 (i64.wrap (i+1))] ⟨4,[(lo++[.int .u32 (dwn ⟨2,[(lo,tU),(l,tR)]⟩ o n i q q1 q2)],tU),([.int .u32 (dwn ⟨2,[(lo,tU),(l,tR)]⟩ o n i q q1 q2)],tU),([],2*za),(l,tR)]⟩ ((Zab tU (lo,tU) ([.int .u32 (dwn ⟨2,[(lo,tU),(l,tR)]⟩ o n i q q1 q2)],tU) z 0 1,true)::lDw ⟨2,[(lo,tU),(l,tR)]⟩ l o n c i q x q1 q2):=by and_intros<;>kernel_rfl
theorem Zyk (a:Value) (k b u u2 q u3:Int) (e:Bool) (z:Nat) (x:List Value×TypeId) (lo:List Value) (g:Nat→Value):Zg (evC (Zr prog Zf Zn hcV) 100 false (rEn f89) ([a,.int .i64 k,uZ,uZ,Zp,.bool false,.bool e,.int .i64 b,.int .i64 u,.int .u32 q,.int .i64 u2,sl 1 0 z grown,.int .i64 u3]++tl 76 g,⟨2,[(lo,tU),x]⟩,[]) ⟨[],[],[]⟩) 6 83 (some none) [a,.int .i64 k,uZ,uZ,sl 1 0 (Zl (Zx lo 0 z)) (Zl (Zx lo 0 z)),.bool e] ⟨2,[(lo,tU),x]⟩ [(Zbm tU lo 0 z grown,true)]:=by and_intros<;>kernel_rfl
theorem Zol (p:Option Addr) (c:Nat) (k:Int) (h:Hp):Zg (evC (Zr prog Zf Zn hcV) 100 false (Zs f89) ([.slice p 0 c,.int .i64 k]++List.replicate 87 uZ,h,[cmp false,cmp true,cmp false,cmp true]) ⟨[],[],[]⟩) 6 83 (some none) [.slice p 0 c,.int .i64 k,uZ,uZ,Zp,.bool false] h [(decide (k16 k≥((0:Nat):Int)),true),(decide ((0:Int)<((0:Nat):Int)),false),(decide (0<k16 k),true),(decide (k≤0),false)]:=by and_intros<;>kernel_rfl
theorem Zkl (p:Option Addr) (c:Nat) (k:Int) (h:Hp):Zg (evC (Zr prog Zf Zn hcV) 100 false (Zs f89) ([.slice p 0 c,.int .i64 k]++List.replicate 87 uZ,h,[cmp false,cmp false,cmp true]) ⟨[],[],[]⟩) 6 83 (some none) [.slice p 0 c,.int .i64 k,uZ,uZ,Zp,.bool false] h [(decide (k16 k≥((0:Nat):Int)),true),(decide (0<k16 k),false),(decide (k≤0),false)]:=by and_intros<;>kernel_rfl
section
variable {l : List Value} {o c : Nat} {A : List Int}
theorem Zom (A:List Int) (j:Nat):vb 65536 (A.take (j+1))=vb 65536 (A.take j)+65536^j*dgN A j:=Zag 65536 A j
theorem Zkm (hR:Row l o A) (hA:∀ x∈A,Dg 65536 x) (hn:A.length<1073741824) (k:Int) {z:Nat}(hz:z<4611686018427387904) (g:Nat→Value):
  Runs (Zr prog Zf Zn hcV) (.block 0 (.loop (rL1 f89))) ([sl 0 o A.length c,.int .i64 k,uZ,uZ,Zp,.bool false,.bool false,.int .i64 (z:Nat),.int .i64 0]++tl 80 g,⟨1,[(l,tR)]⟩,[]) fun e Y=>match e with | none=>(∃ g u,Y.1=[sl 0 o A.length c,.int .i64 k,uZ,uZ,Zp,.bool false,.bool (decide (vb 65536 (A.take z)≠0)),.int .i64 (z:Nat),.int .i64 u]++tl 80 g)∧Y.2.1=⟨1,[(l,tR)]⟩ | some none=>False | some (some _)=>False:=by
 refine Runs.forLoop (P:=fun Y=>(∃ g u,Y.1=[sl 0 o A.length c,.int .i64 k,uZ,uZ,Zp,.bool false,.bool (decide (vb 65536 (A.take z)≠0)),.int .i64 (z:Nat),.int .i64 u]++tl 80 g)∧Y.2.1=⟨1,[(l,tR)]⟩) (R:=fun _=>False)
  (fun m Y=>∃ j:Nat,j≤z∧j≤A.length∧m=A.length-j∧(∃ g,Y.1=[sl 0 o A.length c,.int .i64 k,uZ,uZ,Zp,.bool false,.bool (decide (vb 65536 (A.take j)≠0)),.int .i64 (z:Nat),.int .i64 (j:Nat)]++tl 80 g)∧Y.2.1=⟨1,[(l,tR)]⟩) ?_ (n:=A.length) ⟨0,by omega,by omega,by omega,⟨g,by simp [vb]⟩,rfl⟩
 rintro m ⟨t,h',s⟩ ⟨j,hj,hj',hm,⟨g,ht⟩,hh⟩;simp only at ht hh;subst ht hh;have e2:i64.wrap ((j:Int)+1)=((j+1:Nat):Int):=by rw[Zw (by omega) (by omega)];omega
 have hs:=Zom A j;have hp:0<65536^j:=Nat.pow_pos (by omega);by_cases h1:j<z
 ·by_cases h2:j<A.length
  ·have hd:=zy hA j;by_cases h0:vb 65536 (A.take j)=0
   ·have ef:decide (vb 65536 (A.take j)≠0)=false:=dF (by omega);rw[ef];refine (Zb (Zh Zd Zu) (ZxX o A.length c k z j (A.getD j 0) l (A.getD j 0 !=0) g) (Zi rfl (Zi (by rw[tN,Nat.mul_one,hR.cell h2];simp [Z5]) (Zi (dT (by omega)) (Zi (dT (by omega)) (Zt (dT (by omega)))))))).mono fun e w hw=> ?_;obtain⟨rfl,⟨g',z1⟩,z2⟩:=hw;have e3:(A.getD j 0 !=0)=decide (vb 65536 (A.take (j+1))≠0):=by
     rw[hs,h0,Nat.zero_add,← hd.2,Bool.eq_iff_iff];simp only[bne_iff_ne,ne_eq,decide_eq_true_eq,Nat.mul_eq_zero];omega
    exact⟨A.length-(j+1),by omega,j+1,by omega,by omega,rfl,⟨g',by rw[z1,e2,e3]⟩,z2⟩
   ·have ef:decide (vb 65536 (A.take j)≠0)=true:=dT h0;rw[ef];refine (Zb (Zh Zd Zu) (ZxW _ A.length c k z j _ g) (Zi (dT (by omega)) (Zt (dT (by omega))))).mono fun e w hw=> ?_;obtain⟨rfl,⟨g',z1⟩,z2⟩:=hw;have e3:true=decide (vb 65536 (A.take (j+1))≠0):=(dT (by rw[hs];omega)).symm;exact⟨A.length-(j+1),by omega,j+1,by omega,by omega,rfl,⟨g',by rw[z1,e2,← e3];rfl⟩,z2⟩
  ·have hjl:A.take j=A.take z:=by rw[List.take_of_length_le (by omega),List.take_of_length_le (by omega)]
   rw[hjl];refine (Zb (Zh Zd Zu) (ZxZ _ A.length c k z j _ _ g) (Zi (dF (by omega)) (Zt (dT (by omega))))).mono fun e w hw=> ?_;obtain⟨rfl,⟨g',z1⟩,z2⟩:=hw;exact⟨rfl,⟨g',_,z1⟩,z2⟩
 ·have hjz:j=z:=by omega
  subst hjz;refine (Zb (Zh Zd Zu) (ZxY _ A.length c k j j _ _ g) (Zt (dF (by omega)))).mono fun e w hw=> ?_;obtain⟨rfl,⟨g',z1⟩,z2⟩:=hw;exact⟨rfl,⟨g',_,z1⟩,z2⟩
theorem Zkn (a:Value) (k:Nat) (b u:Int) (e:Bool) (h:Hp) (g:Nat→Value):
  Runs (Zr prog Zf Zn hcV) (.block 2 (.loop (rL2 f89))) ([a,.int .i64 (k:Nat),uZ,uZ,Zp,.bool false,.bool e,.int .i64 b,.int .i64 u,.int .u32 1,.int .i64 0]++tl 78 g,h,[]) fun ex Y=>match ex with | none=>(∃ g u2,Y.1=[a,.int .i64 (k:Nat),uZ,uZ,Zp,.bool false,.bool e,.int .i64 b,.int .i64 u,.int .u32 ((2^(k % 16):Nat):Int),.int .i64 u2]++tl 78 g)∧Y.2.1=h | some none=>False | some (some _)=>False:=by
 have em:(k:Int).tmod 16=((k % 16:Nat):Int):=by rw[Int.tmod_eq_emod_of_nonneg (by omega)];omega
 refine Runs.forLoop (P:=fun Y=>(∃ g u2,Y.1=[a,.int .i64 (k:Nat),uZ,uZ,Zp,.bool false,.bool e,.int .i64 b,.int .i64 u,.int .u32 ((2^(k % 16):Nat):Int),.int .i64 u2]++tl 78 g)∧Y.2.1=h) (R:=fun _=>False)
  (fun m Y=>∃ j:Nat,j≤k % 16∧m=k % 16-j∧(∃ g,Y.1=[a,.int .i64 (k:Nat),uZ,uZ,Zp,.bool false,.bool e,.int .i64 b,.int .i64 u,.int .u32 ((2^j:Nat):Int),.int .i64 (j:Nat)]++tl 78 g)∧Y.2.1=h) ?_ (n:=k % 16) ⟨0,by omega,by omega,⟨g,rfl⟩,rfl⟩
 rintro m ⟨t,h',s⟩ ⟨j,hj,hm,⟨g,ht⟩,hh⟩;simp only at ht hh;subst ht hh;by_cases hlt:j<k % 16
 ·refine (Zb (Zh Zd Zu) (Z2V a k b u j _ e h' g) (Zi (by rw[em];exact dT (by omega)) (Zt rfl))).mono fun ex w hw=> ?_;obtain⟨rfl,⟨g',z1⟩,z2⟩:=hw;have hp:2^j≤32768:=by
   have:=Nat.pow_le_pow_right (show 0<2 by omega) (show j≤15 by omega);omega
  have e1:u32.wrap (2*((2^j:Nat):Int))=((2^(j+1):Nat):Int):=by
   rw[Nat.pow_succ];generalize 2^j=Q at hp ⊢;rw[zk (by omega) (by omega)];omega
  have e2:i64.wrap ((j:Int)+1)=((j+1:Nat):Int):=by rw[Zw (by omega) (by omega)];omega
  exact⟨k % 16-(j+1),by omega,j+1,by omega,rfl,⟨g',by rw[z1,e1,e2]⟩,z2⟩
 ·have hj':j=k % 16:=by omega
  subst hj';refine (Zb (Zh Zd Zu) (Z2W a k b u _ _ e h' g) (Zi (by rw[em];exact dF (by omega)) (Zt rfl))).mono fun ex w hw=> ?_;obtain⟨rfl,⟨g',z1⟩,z2⟩:=hw;exact⟨rfl,⟨g',_,z1⟩,z2⟩
def Fst (l:List Value) (o c:Nat) (A:List Int):Prop:=∀ h:Hp,h.blk? 0=some (l,tR)→zJ h (some ⟨0,o,none⟩) A.length c=true∧Zq h (some ⟨0,o,none⟩) A.length=A
def dwV (A:List Int) (P R i:Nat):Nat:=dgN A i/P+dgN A (i+1) % P*R
def rSt (l:List Value) (o c:Nat) (A:List Int) (k b u u2:Int) (e:Bool) (P j i:Nat) (O:List Int) (Y:Lf):Prop:=
 (j=0∧(∃ g,Y.1=[sl 0 o A.length c,.int .i64 k,uZ,uZ,Zp,.bool false,.bool e,.int .i64 b,.int .i64 u,.int .u32 (P:Nat),.int .i64 u2,Zp,.int .i64 (i:Nat)]++tl 76 g)∧Y.2.1=⟨1,[(l,tR)]⟩)∨
 (0<j∧(∃ g,Y.1=[sl 0 o A.length c,.int .i64 k,uZ,uZ,Zp,.bool false,.bool e,.int .i64 b,.int .i64 u,.int .u32 (P:Nat),.int .i64 u2,sl 1 0 j grown,.int .i64 (i:Nat)]++tl 76 g)∧Y.2.1=⟨2,[(wU O,tU),(l,tR)]⟩)
theorem Zko (hR:Row l o A) (hF:Fst l o c A) (hs:∀ v∈l,still v=true) (hA:∀ x∈A,Dg 65536 x) (hn:A.length+2<1073741824) {k b u u2:Int}{e:Bool}{P R j i:Nat}{O:List Int}(hP:0<P) (hPR:P*R=65536) (hO:O.length=j) (hj:j≤i) (hi:i<A.length) {Y:Lf}(hY:rSt l o c A k b u u2 e P j i O Y):
  RunsW (Zr prog Zf Zn hcV) (rL3 f89) Y fun ex W=>ex=none∧(∃ g,W.1=[sl 0 o A.length c,.int .i64 k,uZ,uZ,Zp,.bool false,.bool e,.int .i64 b,.int .i64 u,.int .u32 (P:Nat),.int .i64 u2,sl 1 0 (j+1) grown,.int .i64 ((i+1:Nat):Int)]++tl 76 g)∧W.2.1=⟨2,[(wU (O++[((dwV A P R i:Nat):Int)]),tU),(l,tR)]⟩:=by
 obtain⟨t,h',s⟩:=Y;have hd:=zy hA i;have hd1:=zy hA (i+1);have hPb:P≤65536:=by
  rcases Nat.eq_zero_or_pos R with h0 | h0
  ·rw[h0] at hPR;omega
  ·have:=Nat.mul_le_mul_left P h0;omega
 have hRb:R≤65536:=by
  have:=Nat.mul_le_mul_right R hP;omega
 have e3:i64.wrap ((i:Int)+1)=((i+1:Nat):Int):=by rw[Zw (by omega) (by omega)];omega
 have ne0:decide ((P:Int)=0)=false:=dF (by omega);have hdiv:dgN A i/P≤dgN A i:=Nat.div_le_self _ _;have eq1:u32.wrap ((A.getD i 0).tdiv (P:Int))=((dgN A i/P:Nat):Int):=by
  rw[← hd.2,Int.tdiv_eq_ediv_of_nonneg (by omega),show ((dgN A i:Nat):Int)/(P:Int)=((dgN A i/P:Nat):Int) from rfl];generalize dgN A i/P=y at hdiv ⊢;exact zk (by omega) (by omega)
 have eq2:u32.wrap (Int.tdiv 65536 (P:Int))=(R:Int):=by
  have:65536/P=R:=by rw[← hPR,Nat.mul_div_cancel_left _ hP]
  rw[Int.tdiv_eq_ediv_of_nonneg (by omega),show (65536:Int)/(P:Int)=((65536/P:Nat):Int) from rfl,this];exact zk (by omega) (by omega)
 have hlt:=Zm3 (x1:=dgN A (i+1)) hP hPR hd.1;have hdw:∀ h:Hp,h.blk? 0=some (l,tR)→dwn h o A.length i P ((dgN A i/P:Nat):Int) R=((dwV A P R i:Nat):Int):=fun h hh=>by
  unfold dwn dwV;rw[(hF h hh).2,e3,Zaq,← hd1.2,Int.tmod_eq_emod_of_nonneg (by omega),show ((dgN A (i+1):Nat):Int) % (P:Int)=((dgN A (i+1) % P:Nat):Int) from rfl,show ((dgN A (i+1) % P:Nat):Int)*(R:Int)=((dgN A (i+1) % P*R:Nat):Int) from by simp];generalize dgN A i/P=y1 at hlt ⊢;generalize dgN A (i+1) % P*R=y2 at hlt ⊢;rw[zk (n:=(y2:Int)) (by omega) (by omega),zk (by omega) (by omega)];omega
 have hlog:∀ h:Hp,h.blk? 0=some (l,tR)→Z3 (lDw h l o A.length c i P (A.getD i 0) ((dgN A i/P:Nat):Int) R):=fun h hh=>Zi ne0 (Zi (hF h hh).1 (Zi ne0 (Zi (dT eq2) (Zi ne0 (Zi (dT eq1) (Zi (by
  show Z5 (l[o+(i:Int).toNat*1]?) _=true;rw[tN,Nat.mul_one,hR.cell hi];simp [Z5]) (Zi (dT (by omega)) (Zt (dT (by omega))))))))))
 have key:∀ {h:Hp}{bb:Nat},1≤bb→h.blk? 0=some (l,tR)→h.blk? bb=some (wU (O++[((dwV A P R i:Nat):Int)]),tU)→RunsW (Zr prog Zf Zn hcV) (rL3 f89) (t,h',s) (fun ex W=>ex=none∧(∃ g,W.1=[sl 0 o A.length c,.int .i64 k,uZ,uZ,Zp,.bool false,.bool e,.int .i64 b,.int .i64 u,.int .u32 (P:Nat),.int .i64 u2,sl bb 0 (j+1) grown,.int .i64 ((i+1:Nat):Int)]++tl 76 g)∧W.2.1=h)→
   RunsW (Zr prog Zf Zn hcV) (rL3 f89) (t,h',s) fun ex W=>ex=none∧(∃ g,W.1=[sl 0 o A.length c,.int .i64 k,uZ,uZ,Zp,.bool false,.bool e,.int .i64 b,.int .i64 u,.int .u32 (P:Nat),.int .i64 u2,sl 1 0 (j+1) grown,.int .i64 ((i+1:Nat):Int)]++tl 76 g)∧W.2.1=⟨2,[(wU (O++[((dwV A P R i:Nat):Int)]),tU),(l,tR)]⟩:=fun {h bb} hb h0 hB fin=>
  fin.kept (k:=1) (b:=bb) (base:=[(l,tR)]) (y:=(wU (O++[((dwV A P R i:Nat):Int)]),tU)) (front':=[sl 0 o A.length c,.int .i64 k,uZ,uZ,Zp,.bool false,.bool e,.int .i64 b,.int .i64 u,.int .u32 (P:Nat),.int .i64 u2,sl 1 0 (j+1) grown,.int .i64 ((i+1:Nat):Int)]) rfl
   (by kernel_rfl) (fun j x hx=>by
    obtain⟨rfl,rfl⟩:=ZgN hx;exact⟨h0,hs⟩) hB hb (ZD _) (fun v hv=>by
    simp only[List.mem_cons,List.not_mem_nil,or_false] at hv;rcases hv with rfl | rfl | rfl | rfl | rfl | rfl | rfl | rfl | rfl | rfl | rfl | rfl | rfl<;>rfl)
 rcases hY with ⟨h0,⟨g,ht⟩,hh⟩ | ⟨h0,⟨g,ht⟩,hh⟩
 ·simp only at ht hh;subst ht hh;have hO0:O=[]:=List.length_eq_zero_iff.1 (by omega);subst hO0;subst h0;have fin:=Ze (Zh Zd Zu) (s0:=s) (Zyi o A.length c k b u u2 i P (A.getD i 0) ((dgN A i/P:Nat):Int) R e l g) (hlog _ rfl);rw[e3,hdw _ rfl] at fin;exact key (bb:=2) (by omega) rfl rfl fin
 ·simp only at ht hh;subst ht hh;have hchk:Zab tU (wU O,tU) ([.int .u32 ((dwV A P R i:Nat):Int)],tU) j 0 1=true:=
   Zba (L:=O) (M:=[((dwV A P R i:Nat):Int)]) hO.symm (show 0<1 by omega) (by show O.length+1≤_;omega)
  have ew:wU O++[.int .u32 ((dwV A P R i:Nat):Int)]=wU (O++[((dwV A P R i:Nat):Int)]):=by rw[ZX];rfl
  have fin:=Ze (Zh Zd Zu) (s0:=s) (Zyj o A.length c j k b u u2 i P (A.getD i 0) ((dgN A i/P:Nat):Int) R e l (wU O) g) (Zi (by rw[hdw _ rfl];exact hchk) (hlog _ rfl));rw[e3,hdw _ rfl,ew] at fin;exact key (bb:=3) (by omega) rfl rfl fin
def Z8c (l:List Value) (o c:Nat) (A:List Int) (k b u u2:Int) (e:Bool) (P z:Nat) (Y:Lf):Prop:=
 ∃ O:List Int,O.length=A.length-z∧(∀ x∈O,Dg 65536 x)∧vb 65536 O*P+dgN A z % P=vb 65536 (A.drop z)∧rSt l o c A k b u u2 e P (A.length-z) A.length O Y
def ZAc (l:List Value) (o c:Nat) (A:List Int) (k b u u2:Int) (e:Bool) (P z:Nat) (m:Nat) (Y:Lf):Prop:=
 ∃ (i:Nat) (O:List Int),m=A.length-i∧z≤i∧i≤A.length∧O.length=i-z∧(∀ x∈O,Dg 65536 x)∧vb 65536 O*P+dgN A z % P=vb 65536 ((A.drop z).take (i-z))+65536^(i-z)*(dgN A i % P)∧rSt l o c A k b u u2 e P (i-z) i O Y
theorem Zon (A:List Int) (z j:Nat):(A.drop z).getD j 0=A.getD (z+j) 0:=by simp [List.getD,List.getElem?_drop]
theorem Zkp (hR:Row l o A) (hF:Fst l o c A) (hs:∀ v∈l,still v=true) (hA:∀ x∈A,Dg 65536 x) (hn:A.length+2<1073741824) {k b u u2:Int}{e:Bool}{P R z:Nat}(hP:0<P) (hPR:P*R=65536) (hz:z≤A.length) (g:Nat→Value):
  RunsW (Zr prog Zf Zn hcV) (.block 4 (.loop (rL3 f89))) ([sl 0 o A.length c,.int .i64 k,uZ,uZ,Zp,.bool false,.bool e,.int .i64 b,.int .i64 u,.int .u32 (P:Nat),.int .i64 u2,Zp,.int .i64 (z:Nat)]++tl 76 g,⟨1,[(l,tR)]⟩,[]) fun ex Y=>match ex with | none=>Z8c l o c A k b u u2 e P z Y | some none=>False | some (some _)=>False:=by
 refine RunsW.forLoop (P:=Z8c l o c A k b u u2 e P z) (R:=fun _=>False) (ZAc l o c A k b u u2 e P z) ?_ (n:=A.length-z) ⟨z,[],rfl,Nat.le_refl _,hz,by simp,(fun x hx=>by cases hx),by simp [vb],.inl ⟨by omega,⟨g,rfl⟩,rfl⟩⟩;rintro m Y ⟨i,O,hm,hzi,hi,hO,hOd,hv,hY⟩;by_cases hlt:i<A.length
 ·refine (Zko hR hF hs hA hn hP hPR hO (by omega) hlt hY).mono fun ex W hW=> ?_;obtain⟨rfl,z1,z2⟩:=hW;have hd:=zy hA i;have hl:=Zm3 (x1:=dgN A (i+1)) hP hPR hd.1;have ej:i+1-z=i-z+1:=by omega
  refine⟨A.length-(i+1),by omega,i+1,O++[((dwV A P R i:Nat):Int)],rfl,by omega,by omega,by rw[List.length_append,hO,ej];rfl,fun x hx=> ?_,?_,.inr ⟨by omega,by rw[ej];exact z1,z2⟩⟩
  ·rcases List.mem_append.1 hx with hx | hx
   ·exact hOd x hx
   ·rw[List.mem_singleton.1 hx];unfold dwV;exact⟨Int.natCast_nonneg _,Int.ofNat_lt.2 hl⟩
  ·have h1:=Zm2 (x1:=dgN A (i+1)) hPR hO hv;have h2:vb 65536 ((A.drop z).take (i-z+1))=vb 65536 ((A.drop z).take (i-z))+65536^(i-z)*dgN A i:=by
    rw[Zag,Zon,show z+(i-z)=i by omega];rfl
   rw[ej,h2];exact h1
 ·have hil:i=A.length:=by omega
  subst hil;have hz0:dgN A A.length=0:=by unfold dgN;simp [List.getD]
  rw[List.take_of_length_le (by simp),hz0] at hv;simp only[Nat.zero_mod,Nat.mul_zero,Nat.add_zero] at hv;obtain⟨t,h',s⟩:=Y;rcases hY with ⟨h0,⟨g,ht⟩,hh⟩ | ⟨h0,⟨g,ht⟩,hh⟩
  ·simp only at ht hh;subst ht hh;refine (Ze (Zh Zd Zu) (ZtC _ _ _ _ _ _ _ _ _ _ _ _ g) (Zt (dF (by omega)))).mono fun ex W hW=> ?_;obtain⟨rfl,⟨g',z1⟩,z2⟩:=hW;exact⟨rfl,O,hO,hOd,hv,.inl ⟨h0,⟨g',z1⟩,z2⟩⟩
  ·simp only at ht hh;subst ht hh;refine (Ze (Zh Zd Zu) (ZtC _ _ _ _ _ _ _ _ _ _ _ _ g) (Zt (dF (by omega)))).mono fun ex W hW=> ?_;obtain⟨rfl,⟨g',z1⟩,z2⟩:=hW;exact⟨rfl,O,hO,hOd,hv,.inr ⟨h0,⟨g',z1⟩,z2⟩⟩
end
end Go.Proofs.YtjlponbdflkbjaaGreatDoor
namespace Go.Proofs.YtjlponbdflkbjaaGreatDoor
open Go.Proofs.Tryz
open Go.KRun Go.Nt
set_option maxRecDepth 100000
def Zyl (F:Func):Code:=ZW (rPr F) (.seq (.seq (rR5 F) (.block 0 (.loop (rL1 F)))) (.seq (rIf F) (.seq (Z7Y F) (.seq (.seq (Z7Z F) (.block 2 (.loop (rL2 F)))) (.seq (Z44 F) (.seq (Z8a F) (.seq (.seq (Z8b F) (.block 4 (.loop (rL3 F)))) (rEn F))))))))
section
variable {l : List Value} {o c : Nat} {A : List Int}
theorem Zfh (hR:Row l o A) (hA:∀ x∈A,Dg 65536 x) (hn:A.length+2<1073741824) {k:Nat}(hk0:0<k) (hk:k<4611686018427387904) {P:Ex→Lf→Prop}{rest:Code}
  (h:∀ (g:Nat→Value) (u:Int),RunsW (Zr prog Zf Zn hcV) rest ([sl 0 o A.length c,.int .i64 (k:Nat),uZ,uZ,Zp,.bool false,.bool (decide (vb 65536 (A.take (k/16))≠0)),.int .i64 ((k/16:Nat):Int),.int .i64 u]++tl 80 g,⟨1,[(l,tR)]⟩,[]) P):
  RunsW (Zr prog Zf Zn hcV) (ZW (rPr f89) (.seq (.seq (rR5 f89) (.block 0 (.loop (rL1 f89)))) rest)) ([sl 0 o A.length c,.int .i64 (k:Nat)]++List.replicate 87 uZ,⟨1,[(l,tR)]⟩,[]) P:=by
 have ek:k16 (k:Int)=((k/16:Nat):Int):=by unfold k16;rw[Int.tdiv_eq_ediv_of_nonneg (by omega),Zw (by omega) (by omega)];omega
 refine Z0 (Zh Zd Zu) (ZxV _ A.length c k _) (Zt (dF (by omega))) fun g=> ?_;rw[ek];refine Zgs (Ze (Zh Zd Zu) (Z2U _ k _ _ g) (fun x hx=>by cases hx)) (fun e y he=>by cases he.1) (P2:=fun e Y=>match e with | none=>(∃ g u,Y.1=[sl 0 o A.length c,.int .i64 (k:Nat),uZ,uZ,Zp,.bool false,.bool (decide (vb 65536 (A.take (k/16))≠0)),.int .i64 ((k/16:Nat):Int),.int .i64 u]++tl 80 g)∧Y.2.1=⟨1,[(l,tR)]⟩ | some none=>False | some (some _)=>False) ?_ (fun e y he=>by match e,he with | none,he=>exact he | some id,he=>exact he) ?_
 ·rintro⟨t,h',s⟩ ⟨_,⟨g',ht⟩,hh⟩;simp only at ht hh;subst ht hh;exact RunsW.script (Zkm hR hA (by omega) _ (by omega) g').w
 ·rintro⟨t,h',s⟩ ⟨⟨g',u,ht⟩,hh⟩;simp only at ht hh;subst ht hh;exact RunsW.script (h g' u)
theorem Zkq (hR:Row l o A) (hA:∀ x∈A,Dg 65536 x) (hn:A.length+2<1073741824) {k:Nat}(hk0:0<k) (hk:k<4611686018427387904) (hz:A.length≤k/16):
  RunsW (Zr prog Zf Zn hcV) (Zyl f89) ([sl 0 o A.length c,.int .i64 (k:Nat)]++List.replicate 87 uZ,⟨1,[(l,tR)]⟩,[]) fun e z=>(e=none∨e=some none)∧ZV prog f89 z.1 z.2.1=some (.tuple #[Zp,.bool (decide (vb 65536 A % 2^k≠0))]):=by
 have el:decide (vb 65536 (A.take (k/16))≠0)=decide (vb 65536 A % 2^k≠0):=by
  congr 1;have h1:=Go.Nt.lost_iff hA k;have h2:dgS A (k/16)=0:=by unfold dgS;simp [List.getD,List.getElem?_eq_none hz]
  rw[h2,Nat.zero_mod] at h1;simp only[ne_eq,not_true_eq_false,or_false] at h1;simp only[ne_eq,eq_iff_iff];exact h1.symm
 refine Zfh hR hA hn hk0 hk fun g u=> ?_;refine RunsW.seq (P1:=fun e Y=>e=some none∧(∃ g,Y.1=[sl 0 o A.length c,.int .i64 (k:Nat),uZ,uZ,Zp,.bool (decide (vb 65536 (A.take (k/16))≠0))]++tl 83 g)∧Y.2.1=⟨1,[(l,tR)]⟩) (Ze (Zh Zd Zu) (Zya _ A.length c k _ u _ _ g) (Zt (dT (by omega)))) (fun y he=>by cases he.1) (fun e y he=> ?_);obtain⟨he,⟨g',z1⟩,z2⟩:=he;refine⟨.inr he,?_⟩;rw[z1,z2,el];rfl
theorem Zoo (hR:Row l o A) (hF:Fst l o c A) (hs:∀ v∈l,still v=true) (hA:∀ x∈A,Dg 65536 x) (hn:A.length+2<1073741824) {k:Nat}(hk0:0<k) (hk:k<4611686018427387904) (hz:k/16<A.length) {V:Nat}(hV:V=vb 65536 A/2^k):
  RunsW (Zr prog Zf Zn hcV) (Zyl f89) ([sl 0 o A.length c,.int .i64 (k:Nat)]++List.replicate 87 uZ,⟨1,[(l,tR)]⟩,[]) fun e z=>(e=none∨e=some none)∧ZV prog f89 z.1 z.2.1=some (.tuple #[sl 1 0 (d16 V).length (d16 V).length,.bool (decide (vb 65536 A % 2^k≠0))])∧∃ r,z.2.1.blk? 1=some (wU (d16 V)++r,tU):=by
 have hP0:0<2^(k % 16):=Nat.pow_pos (by omega);have hPR:=Zhw (s:=k % 16) (by omega);have hPb:2^(k % 16)≤32768:=by
  have:=Nat.pow_le_pow_right (show 0<2 by omega) (show k % 16≤15 by omega);omega
 have hd:=zy hA (k/16);have hl:=Go.Nt.lost_iff hA k;refine Zfh hR hA hn hk0 hk fun g u=> ?_;refine RunsW.seq (P1:=fun e Y=>e=none∧(∃ g,Y.1=[sl 0 o A.length c,.int .i64 (k:Nat),uZ,uZ,Zp,.bool false,.bool (decide (vb 65536 (A.take (k/16))≠0)),.int .i64 ((k/16:Nat):Int),.int .i64 u]++tl 80 g)∧Y.2.1=⟨1,[(l,tR)]⟩) (Ze (Zh Zd Zu) (Zyb _ A.length c k _ u _ _ g) (Zt (dF (by omega)))) ?_ (fun e y he=>by cases he.1);rintro⟨t,h',s⟩ ⟨_,⟨g,ht⟩,hh⟩;simp only at ht hh;subst ht hh;refine RunsW.seq (P1:=fun e Y=>e=none∧(∃ g,Y.1=[sl 0 o A.length c,.int .i64 (k:Nat),uZ,uZ,Zp,.bool false,.bool (decide (vb 65536 (A.take (k/16))≠0)),.int .i64 ((k/16:Nat):Int),.int .i64 u,.int .u32 1]++tl 79 g)∧Y.2.1=⟨1,[(l,tR)]⟩) (Ze (Zh Zd Zu) (Zyc _ k _ u _ _ g) (fun x hx=>by cases hx)) ?_ (fun e y he=>by cases he.1);rintro⟨t,h',s⟩ ⟨_,⟨g,ht⟩,hh⟩;simp only at ht hh;subst ht hh;refine Zgs (Ze (Zh Zd Zu) (Zyd _ k _ u _ _ g) (fun x hx=>by cases hx)) (fun e y he=>by cases he.1) (P2:=fun e Y=>match e with | none=>(∃ g u2,Y.1=[sl 0 o A.length c,.int .i64 (k:Nat),uZ,uZ,Zp,.bool false,.bool (decide (vb 65536 (A.take (k/16))≠0)),.int .i64 ((k/16:Nat):Int),.int .i64 u,.int .u32 ((2^(k % 16):Nat):Int),.int .i64 u2]++tl 78 g)∧Y.2.1=⟨1,[(l,tR)]⟩ | some none=>False | some (some _)=>False) ?_ (fun e y he=>by match e,he with | none,he=>exact he | some id,he=>exact he) ?_
 ·rintro⟨t,h',s⟩ ⟨_,⟨g',ht⟩,hh⟩;simp only at ht hh;subst ht hh;exact RunsW.script (Zkn _ k _ u _ _ g').w
 rintro⟨t,h',s⟩ ⟨⟨g,u2,ht⟩,hh⟩;simp only at ht hh;subst ht hh;refine RunsW.seq (P1:=fun e Y=>e=none∧(∃ g,Y.1=[sl 0 o A.length c,.int .i64 (k:Nat),uZ,uZ,Zp,.bool false,.bool (decide (vb 65536 A % 2^k≠0)),.int .i64 ((k/16:Nat):Int),.int .i64 u,.int .u32 ((2^(k % 16):Nat):Int),.int .i64 u2]++tl 78 g)∧Y.2.1=⟨1,[(l,tR)]⟩) ?_ ?_ (fun e y he=>by cases he.1)
 ·by_cases h0:vb 65536 (A.take (k/16))=0
  ·rw[dF (show ¬ (vb 65536 (A.take (k/16))≠0) by omega)];have ev:(((A.getD (k/16) 0)).tmod ((2^(k % 16):Nat):Int) !=0)=decide (vb 65536 A % 2^k≠0):=by
    rw[← hd.2,Int.tmod_eq_emod_of_nonneg (by omega),show ((dgN A (k/16):Nat):Int) % ((2^(k % 16):Nat):Int)=((dgN A (k/16) % 2^(k % 16):Nat):Int) from rfl,Bool.eq_iff_iff];rw[h0] at hl;simp only[ne_eq,not_true_eq_false,false_or] at hl;simp only[bne_iff_ne,ne_eq,decide_eq_true_eq,hl,ZtB];omega
   refine (Ze (Zh Zd Zu) (Zyf o A.length c k ((k/16:Nat):Int) u u2 ((2^(k % 16):Nat):Int) (A.getD (k/16) 0) l (decide (vb 65536 A % 2^k≠0)) g) (Zi ev (Zi (dF (by omega)) (Zi (by rw[tN,Nat.mul_one,hR.cell hz];simp [Z5]) (Zt (dT (by omega))))))).mono fun e w hw=>hw
  ·rw[dT h0,dT (hl.2 (.inl h0))];exact Ze (Zh Zd Zu) (Zye _ k _ u u2 _ _ g) (fun x hx=>by cases hx)
 rintro⟨t,h',s⟩ ⟨_,⟨g,ht⟩,hh⟩;simp only at ht hh;subst ht hh;refine RunsW.seq (P1:=fun e Y=>e=none∧(∃ g,Y.1=[sl 0 o A.length c,.int .i64 (k:Nat),uZ,uZ,Zp,.bool false,.bool (decide (vb 65536 A % 2^k≠0)),.int .i64 ((k/16:Nat):Int),.int .i64 u,.int .u32 ((2^(k % 16):Nat):Int),.int .i64 u2,Zp]++tl 77 g)∧Y.2.1=⟨1,[(l,tR)]⟩) (Ze (Zh Zd Zu) (Zyg _ k _ u u2 _ _ _ g) (fun x hx=>by cases hx)) ?_ (fun e y he=>by cases he.1);rintro⟨t,h',s⟩ ⟨_,⟨g,ht⟩,hh⟩;simp only at ht hh;subst ht hh;refine Zgs (Ze (Zh Zd Zu) (Zyh _ k _ u u2 _ _ _ g) (fun x hx=>by cases hx)) (fun e y he=>by cases he.1) (P2:=fun e Y=>match e with | none=>Z8c l o c A k ((k/16:Nat):Int) u u2 (decide (vb 65536 A % 2^k≠0)) (2^(k % 16)) (k/16) Y | some none=>False | some (some _)=>False) ?_ (fun e y he=>by match e,he with | none,he=>exact he | some id,he=>exact he) ?_
 ·rintro⟨t,h',s⟩ ⟨_,⟨g',ht⟩,hh⟩;simp only at ht hh;subst ht hh;exact RunsW.script (Zkp hR hF hs hA hn hP0 hPR (by omega) g')
 rintro⟨t,h',s⟩ ⟨O,hO,hOd,hv,hY⟩;rcases hY with ⟨e0,_⟩ | ⟨_,⟨g',ht⟩,hh⟩
 ·omega
 ·simp only at ht hh;subst ht hh;have hval:vb 65536 O=V:=by rw[hV];exact Zqz hA hv
  have hrow:Zbm tU (wU O) 0 (A.length-k/16) grown=true:=by
   rw[← hO];exact Zap (fun x hx=>⟨(hOd x hx).1,by have:=(hOd x hx).2;omega⟩) (by omega) (ZyQ _)
  refine (Ze (Zh Zd Zu) (Zyk _ k _ u u2 _ _ _ (A.length-k/16) (l,tR) (wU O) g') (Zt hrow)).mono fun e z he=> ?_;obtain⟨rfl,⟨g2,e1⟩,e2⟩:=he;have et:Zl (Zx (wU O) 0 (A.length-k/16))=(d16 V).length:=by
   rw[← hO,ZaO,Zat (by omega) hOd,hval];rfl
  refine⟨.inr rfl,?_,?_⟩
  ·rw[e1,e2,et];rfl
  ·rw[e2];refine⟨wU (O.drop (Zl O)),?_⟩;have e3:wU (d16 V)++wU (O.drop (Zl O))=wU O:=by
    unfold d16;rw[← hval,← zj (by omega) _ hOd,← ZX,List.take_append_drop]
   rw[e3];rfl
end
theorem Zfi:f89.body=some (Zyl f89):=Zok
theorem Zji {ty:TypeId}{l:List Value}{o n c:Nat}(r:Zbm ty l o n c=true) (hs:∀ v∈l,still v=true):Fst l o c (Zx l o n):=by
 intro h hb;have hlen:=(zt r).2.1;rw[hlen];constructor
 ·simp only[zJ,hb,Bool.and_eq_true];refine⟨?_,List.all_eq_true.2 hs⟩;unfold Zbm at r ⊢;simp only[Bool.and_eq_true,Bool.not_eq_true'] at r ⊢;obtain⟨⟨⟨⟨⟨⟨_,_⟩,p3⟩,p4⟩,p5⟩,p6⟩,p7⟩:=r;exact⟨⟨⟨⟨⟨⟨ZbB,by kernel_rfl⟩,p3⟩,p4⟩,p5⟩,p6⟩,p7⟩
 ·simp [Zq,hb]
def Ze8 (h:Hp) (p:Option Addr) (n c:Nat) (k:Int):Bool:=zJ h p n c && dgB (Zq h p n) && Nat.blt (n+2) 1073741824 && decide (0<k∧k<4611686018427387904)
def Zym:Zad:=fun vals h s=>
 match vals,s with
 | [.slice p n c,.int .i64 k],.inr (.inr (.inr (.inl d))):: .inr (.inr (.inr (.inl e)))::s'=>
  match d with
  | true=>some (.tuple #[sl h.n 0 (d16 (vO h p n/2^k.toNat)).length (d16 (vO h p n/2^k.toNat)).length,.bool e],h.push (wU (d16 (vO h p n/2^k.toNat))) tU,s',[(decide (vO h p n % 2^k.toNat≠0),e),(decide (k.toNat/16<n),true),(Ze8 h p n c k,true)])
  | false=>some (.tuple #[Zp,.bool e],h,s',[(decide (vO h p n % 2^k.toNat≠0),e),(decide (k.toNat/16<n),false),(Ze8 h p n c k,true)])
 | _,_=>none
theorem Zsg:Z8 89 Zym:=by
 intro vals h s v h' s' lg hg hl m B w E hv;unfold Zym at hg;split at hg
 ·rename_i p n c k d e s2;split at hg
  ·cases hg;have l1:=hl _ (mH);have l2:=hl _ (mN _ (mH));have l3:=hl _ (mN _ (mN _ mS));simp only at l1 l2 l3;simp only[Ze8,Bool.and_eq_true,decide_eq_true_eq] at l2 l3;obtain⟨⟨⟨q1,q2⟩,q3⟩,q4⟩:=l3;have q2:=Zbw q2;have q3:=Zo.1 q3;obtain⟨K,rfl⟩:=Int.eq_ofNat_of_zero_le (show 0≤k by omega);rw[tN] at l1 l2 ⊢;rcases ZF q1 with ⟨rfl,rfl,rfl,e0⟩ | ⟨b,o,x,rfl,hx,r1,rs,e0⟩
   ·omega
   ·rw[e0] at q2;obtain⟨h1,h2,h3,h4,h5,h6,h7⟩:=zt r1;have ev:vO h (some ⟨b,o,none⟩) n=vb 65536 (Zx x.1 o n):=by unfold vO;rw[e0]
    have r:=Zoo h1 (Zji r1 rs) rs q2 (by rw[h2];exact q3) (k:=K) (by omega) (by omega) (by rw[h2];exact l2) rfl;rw[h2,← ev,l1] at r;have e2:∀ L:Nat,rn (fun _=>h.n) (.tuple #[sl 1 0 L L,.bool e])= .tuple #[sl h.n 0 L L,.bool e]:=fun L=>by simp [rn,rn2,rn1,sl]
    have fin:=ZE (T:=Zr prog Zf Zn hcV) func89 Zfi (ZaK h7) (vals:=[sl 0 o n c,.int .i64 (K:Nat)]) (fun v hv=>by
     simp only[List.mem_cons,List.not_mem_nil,or_false] at hv;rcases hv with rfl | rfl<;>rfl) (k:=1) (cs:=wU (d16 (vO h (some ⟨b,o,none⟩) n/2^K))) (ty:=tU) (Zbb _) (by kernel_rfl) r (by rfl) E (s:=fun _=>b) (zH hx h5 h6 rfl)
    rw[e2] at fin;exact fin
  ·cases hg;have l1:=hl _ (mH);have l2:=hl _ (mN _ (mH));have l3:=hl _ (mN _ (mN _ mS));simp only at l1 l2 l3;simp only[Ze8,Bool.and_eq_true,decide_eq_true_eq,decide_eq_false_iff_not] at l2 l3;obtain⟨⟨⟨q1,q2⟩,q3⟩,q4⟩:=l3;have q2:=Zbw q2;have q3:=Zo.1 q3;obtain⟨K,rfl⟩:=Int.eq_ofNat_of_zero_le (show 0≤k by omega);rw[tN] at l1 l2;by_cases hn:n=0
   ·subst hn;have hlen:=zK q1;have e0:Zq h p 0=[]:=List.length_eq_zero_iff.1 hlen;have ev:vO h p 0=0:=by unfold vO;rw[e0];rfl
    have ee:e=false:=by rw[← l1,ev];simp
    subst ee;obtain⟨x,p',a,NA,eA,fA⟩:=ZbF 0 q1;have ek:k16 (K:Int)=((K/16:Nat):Int):=by unfold k16;rw[Int.tdiv_eq_ediv_of_nonneg (by omega),Zw (by omega) (by omega)];omega
    have hr:Runs (Zr prog Zf Zn hcV) (Zs f89) ([.slice p' 0 c,.int .i64 (K:Nat)]++List.replicate 87 uZ,⟨1,[x]⟩,[]) fun e z=>(e=none∨e=some none)∧ZV prog f89 z.1 z.2.1=some (.tuple #[Zp,.bool false]):=by
     by_cases hk:0<K/16
     ·refine (Zb (Zh Zd Zu) (Zol p' c K _) (Zi (show decide (k16 (K:Int)≥((0:Nat):Int))=true by rw[ek];exact dT (by omega)) (Zi rfl (Zi (show decide (0<k16 (K:Int))=true by rw[ek];exact dT (by omega)) (Zt (dF (by omega))))))).mono fun e z he=> ?_;obtain⟨rfl,⟨g,e2⟩,e3⟩:=he;refine⟨.inr rfl,?_⟩;rw[e2,e3];rfl
     ·refine (Zb (Zh Zd Zu) (Zkl p' c K _) (Zi (show decide (k16 (K:Int)≥((0:Nat):Int))=true by rw[ek];exact dT (by omega)) (Zi (show decide (0<k16 (K:Int))=false by rw[ek];exact dF (by omega)) (Zt (dF (by omega)))))).mono fun e z he=> ?_;obtain⟨rfl,⟨g,e2⟩,e3⟩:=he;refine⟨.inr rfl,?_⟩;rw[e2,e3];rfl
    have:=ZB (T:=Zr prog Zf Zn hcV) func89 Zkk (h0:=⟨1,[x]⟩) ⟨rfl,fun b z hz=>by obtain⟨_,rfl⟩:=ZgN hz;exact⟨NA.ros.1,NA.lt0,NA.ros.2⟩⟩ (vals:=[.slice p' 0 c,.int .i64 (K:Nat)]) (fun v hv=>by
     simp only[List.mem_cons,List.not_mem_nil,or_false] at hv;rcases hv with rfl | rfl
     ·exact NA.lt (by show 0<1;omega)
     ·rfl) (by rfl) hr.w E (s:=fun _=>a) (fun i z hz ht=>by obtain⟨_,rfl⟩:=ZgN hz;exact fA ht)
    simp only[List.map_cons,List.map_nil] at this;rw[eA _ rfl] at this;exact this
   ·rcases ZF q1 with ⟨rfl,rfl,rfl,e0⟩ | ⟨b,o,x,rfl,hx,r1,rs,e0⟩
    ·exact absurd rfl hn
    ·rw[e0] at q2;obtain⟨h1,h2,h3,h4,h5,h6,h7⟩:=zt r1;have ev:vO h (some ⟨b,o,none⟩) n=vb 65536 (Zx x.1 o n):=by unfold vO;rw[e0]
     have r:=Zkq (c:=c) h1 q2 (by rw[h2];exact q3) (k:=K) (by omega) (by omega) (by rw[h2];omega);rw[h2,← ev,l1] at r;exact ZB (T:=Zr prog Zf Zn hcV) func89 Zfi (ZaK h7) (vals:=[sl 0 o n c,.int .i64 (K:Nat)]) (fun v hv=>by
      simp only[List.mem_cons,List.not_mem_nil,or_false] at hv;rcases hv with rfl | rfl<;>rfl) (by rfl) r E (s:=fun _=>b) (zH hx h5 h6 rfl)
 ·cases hg
def hcW:Hc:=zS 48 Z43 (zS 50 ZxQ (zS 90 ZxU (zS 89 Zym (zS 55 Zqt (zS 56 ZpJ (zS 91 ZpO (zS 92 ZlU (zS 46 ZpW hcV))))))))
theorem ZK:HcOk hcW:=Z1 func48 rfl Zoe (Z1 func50 rfl Zsb (Z1 func90 rfl Zsf (Z1 func89 rfl Zsg (Z1 func55 rfl Zf9 (Z1 func56 rfl Zf2 (Z1 func91 rfl Zio (Z1 func92 rfl Zf3 (Z1 func46 rfl Ziq Zu))))))))
end Go.Proofs.YtjlponbdflkbjaaGreatDoor
