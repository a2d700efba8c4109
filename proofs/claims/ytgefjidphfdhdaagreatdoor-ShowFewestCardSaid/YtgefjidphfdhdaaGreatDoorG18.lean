/-
  ConVB, ToS, ShA, ConVC, ConVD, ConVE, ConVF, RfA, RfN, RfB, RfC
-/
import Derived.Test.YtgefjidphfdhdaaGreatDoorG17
namespace Go.Proofs.YtgefjidphfdhdaaGreatDoor
open Go.Proofs.Tryz
open Go.IntKind
open Go.KRun Go.Nt
set_option maxRecDepth 100000
def f4 (n:Int):List Int:=[u32.wrap (n.tmod 65536),u32.wrap ((u64.wrap (n.tdiv 65536)).tmod 65536),u32.wrap ((u64.wrap (n.tdiv 4294967296)).tmod 65536),u32.wrap (u64.wrap (n.tdiv 281474976710656))]
theorem Zs5:f34.body=some (Zs f34):=by kernel_rfl
theorem Z30 (n:Int):Zh (evC (Zk prog Zf Zo hcV) 100 false (Zs f34) ([.int .u64 n]++List.replicate 18 undef,⟨0,[]⟩,[cmp true,cmp true,cmp true]) ⟨[],[],[]⟩) 3 16 (some none) [.int .u64 n,undef,sl 0 0 (Zj (Zy (wU (f4 n)) 0 4)) (Zj (Zy (wU (f4 n)) 0 4))] ⟨1,[(wU (f4 n),tU)]⟩ [(ZaX tU (wU (f4 n)) 0 4 4,true),(decide ((65536:Int)=0),false),(decide ((65536:Int)=0),false),(decide ((65536:Int)=0),false)]:=by and_intros<;>kernel_rfl
theorem Zfi {n:Int}(h0:0≤n) (h1:n<18446744073709551616):u64.wrap n=n:=by simp [IntKind.wrap,IntKind.bits,IntKind.signed];omega
theorem Z31 {n:Int}(h0:0≤n) (h1:n<18446744073709551616):f4 n=[n % 65536,n/65536 % 65536,n/4294967296 % 65536,n/281474976710656]:=by
 unfold f4;rw[Int.tmod_eq_emod_of_nonneg h0,Int.tdiv_eq_ediv_of_nonneg h0,Int.tdiv_eq_ediv_of_nonneg h0,Int.tdiv_eq_ediv_of_nonneg h0,Zfi (n:=n/65536) (by omega) (by omega),Zfi (n:=n/4294967296) (by omega) (by omega),Zfi (n:=n/281474976710656) (by omega) (by omega),Int.tmod_eq_emod_of_nonneg (by omega),Int.tmod_eq_emod_of_nonneg (by omega),zn (n:=n % 65536) (by omega) (by omega),zn (n:=n/65536 % 65536) (by omega) (by omega),zn (n:=n/4294967296 % 65536) (by omega) (by omega),zn (by omega) (by omega)]
theorem Z8n {n:Int}(h0:0≤n) (h1:n<18446744073709551616):∀ x∈f4 n,Dg 65536 x:=by
 rw[Z31 h0 h1];intro x hx;simp only[List.mem_cons,List.not_mem_nil,or_false] at hx;rcases hx with rfl | rfl | rfl | rfl<;>exact⟨by omega,by omega⟩
theorem Z32 {n:Int}(h0:0≤n) (h1:n<18446744073709551616):vb 65536 (f4 n)=n.toNat:=by
 rw[Z31 h0 h1];simp only[vb];omega
def Z5s:Zab:=fun vals h s=>
 match vals with
 | [.int .u64 n]=>Zdh n.toNat h s [(decide (0≤n∧n<18446744073709551616),true)]
 | _=>none
theorem ZoM:Z7 34 Z5s:=by
 intro vals h s v h' s' lg hg hl m B w E hv;unfold Z5s at hg;split at hg
 ·rename_i n;unfold Zdh at hg;cases hg;have q:=Xc (hl _ Xf);have hd:=Z8n q.1 q.2;have hv4:=Z32 q.1 q.2;have hl4:(f4 n).length=4:=rfl;have ec:Zy (wU (f4 n)) 0 4=f4 n:=by
   have:=ZaR (f4 n);rw[hl4] at this;exact this
  have et:Zj (f4 n)=(d16 n.toNat).length:=by
   rw[Zas (by omega) hd,hv4];rfl
  have hrow:ZaX tU (wU (f4 n)) 0 4 4=true:=by
   have:=Zal (L:=f4 n) (fun x hx=>⟨(hd x hx).1,by have:=(hd x hx).2;omega⟩) (by rw[hl4];omega) (c:=4) (by rw[hl4];rfl);rw[hl4] at this;exact this
  have hr:Runs (Zk prog Zf Zo hcV) (Zs f34) ([.int .u64 n]++List.replicate 18 undef,⟨0,[]⟩,[]) fun e z=>(e=none∨e=some none)∧ZW prog f34 z.1 z.2.1=some (sl 0 0 (d16 n.toNat).length (d16 n.toNat).length)∧∃ r,z.2.1.blk? 0=some (wU (d16 n.toNat)++r,tU):=by
   refine (Zb (Zg Zd Zw) (Z30 n) (Zi hrow (Zi rfl (Zi rfl (Zt rfl))))).mono fun e z he=> ?_;obtain⟨rfl,⟨g,e1⟩,e2⟩:=he;refine⟨.inr rfl,?_,?_⟩
   ·rw[e1,e2,ec,et];rfl
   ·rw[e2];refine⟨wU ((f4 n).drop (Zj (f4 n))),?_⟩;have e3:wU (d16 n.toNat)++wU ((f4 n).drop (Zj (f4 n)))=wU (f4 n):=by
     unfold d16;rw[← hv4,← zf (by omega) _ hd,← ZY,List.take_append_drop]
    rw[e3];rfl
  have:=ZK (T:=Zk prog Zf Zo hcV) func34 Zs5 (h0:=⟨0,[]⟩) ⟨rfl,fun b x hx=>by have:b<0:=Hp.blk_lt hx;omega⟩ (vals:=[.int .u64 n]) (fun v hv=>by rw[List.mem_singleton.1 hv];rfl) (k:=0) (cs:=wU (d16 n.toNat)) (ty:=tU) (Zbn _) (by kernel_rfl) hr.w (by rfl) E (s:=fun i=>i) (fun i x hx _=>by have:i<0:=Hp.blk_lt hx;omega);exact this
 ·cases hg
def Zz9 (F:Func):List Code:=[Z3 (Zs F),Z3 (Z1 (Zs F))]
def wR2 (F:Func):Code:=Z3 (Z3 (Z1 (Z1 (Zs F))))
def wLp (F:Func):Code:=cIn (cIn (Z1 (Z3 (Z1 (Z1 (Zs F))))))
def wEn (F:Func):Code:=Z1 (Z1 (Z1 (Zs F)))
def m4 (n:Nat):Int:=i64.wrap ((if (4:Int)<(n:Int) then 4 else (n:Int))-1)
theorem ZoN:f110.body=some (zg (Zz9 f110) (.seq (.seq (wR2 f110) (.block 0 (.loop (wLp f110)))) (wEn f110))):=by kernel_rfl
theorem Zs6 (a:Value) (h:Hp):Zh (evL (Zk prog Zf Zo hcV) 100 (Zz9 f110) ([a]++List.replicate 21 undef,h,[]) ⟨[],[],[]⟩) 4 18 none [a,undef,.int .u64 0,.int .u64 0] h []:=by and_intros<;>kernel_rfl
theorem Zye (p:Option Addr) (n c:Nat) (h:Hp) (g:Nat→Value):Zh (evC (Zk prog Zf Zo hcV) 100 false (wR2 f110) ([.slice p n c,undef,.int .u64 0,.int .u64 0]++tl 18 g,h,[]) ⟨[],[],[]⟩) 5 17 none [.slice p n c,undef,.int .u64 0,.int .u64 0,.int .i64 (m4 n)] h []:=by and_intros<;>kernel_rfl
def lw (y x:Int):Int:=u64.wrap (u64.wrap (65536*y)+u64.wrap x)
theorem Zyf (o n c:Nat) (x y k:Int) (l:List Value) (g:Nat→Value):Zh (evC (Zk prog Zf Zo hcV) 100 false (wLp f110) ([sl 0 o n c,undef,.int .u64 0,.int .u64 y,.int .i64 k]++tl 17 g,⟨1,[(l,tR)]⟩,[cmp true,at_,val (.int .u32 x)]) ⟨[],[],[]⟩) 5 17 none [sl 0 o n c,undef,.int .u64 0,.int .u64 (lw y x),.int .i64 (i64.wrap (k-1))] ⟨1,[(l,tR)]⟩ [(Z4 (l[o+k.toNat*1]?) (.int .u32 x),true),(decide (0≤k∧k<n),true),(decide (k≥0),true)]:=by and_intros<;>kernel_rfl
theorem Zs7 (a:Value) (y k:Int) (h:Hp) (g:Nat→Value):Zh (evC (Zk prog Zf Zo hcV) 100 false (wLp f110) ([a,undef,.int .u64 0,.int .u64 y,.int .i64 k]++tl 17 g,h,[cmp false]) ⟨[],[],[]⟩) 5 17 (some (some 0)) [a,undef,.int .u64 0,.int .u64 y,.int .i64 k] h [(decide (k≥0),false)]:=by and_intros<;>kernel_rfl
theorem Zs8 (a:Value) (y k:Int) (h:Hp) (g:Nat→Value):Zh (evC (Zk prog Zf Zo hcV) 100 false (wEn f110) ([a,undef,.int .u64 0,.int .u64 y,.int .i64 k]++tl 17 g,h,[]) ⟨[],[],[]⟩) 3 19 (some none) [a,undef,.int .u64 y] h []:=by and_intros<;>kernel_rfl
def hiV (L:List Int) (k:Nat):Nat:=vb 65536 ((L.take 4).drop k)
theorem Zs9 {L:List Int}{k:Nat}(hk:k<(L.take 4).length):hiV L k=dgN L k+65536*hiV L (k+1):=by
 unfold hiV dgN;rw[List.drop_eq_getElem_cons hk];simp only[vb];congr 2;rw[List.getElem_take];rw[List.length_take] at hk;simp [List.getD,List.getElem?_eq_getElem (show k<L.length by omega)]
theorem Zuy {L:List Int}(hd:∀ x∈L,Dg 65536 x) (k:Nat):hiV L k<65536^(4-k):=by
 have h:=Zb4 (b:=65536) (by omega) ((L.take 4).drop k) (fun x hx=>hd x (List.mem_of_mem_take (List.mem_of_mem_drop hx)));have hl:((L.take 4).drop k).length≤4-k:=by simp;omega
 exact Nat.lt_of_lt_of_le h (Nat.pow_le_pow_right (by omega) hl)
theorem ZsA {L:List Int}(hd:∀ x∈L,Dg 65536 x):hiV L 0=vb 65536 L % 18446744073709551616:=by
 have e:L=L.take 4++L.drop 4:=(List.take_append_drop 4 L).symm;have h4:=Zuy hd 0;unfold hiV at*;rw[List.drop_zero] at*;have ev:vb 65536 L=vb 65536 (L.take 4)+65536^(L.take 4).length*vb 65536 (L.drop 4):=by
  conv=>lhs;rw[e]
  exact Zaz _ _ _
 rw[ev];have e4:(65536:Nat)^(4-0)=18446744073709551616:=rfl;by_cases hl:L.length≤4
 ·rw[List.drop_of_length_le hl];simp only[vb,Nat.mul_zero,Nat.add_zero];omega
 ·have:(L.take 4).length=4:=by simp;omega
  have e5:(65536:Nat)^4=18446744073709551616:=rfl;rw[this,e5];omega
theorem ZoO {l:List Value}{o c:Nat}{L:List Int}(hR:Row l o L) (hd:∀ x∈L,Dg 65536 x) (hn:L.length<1073741824):
  Runs (Zk prog Zf Zo hcV) (zg (Zz9 f110) (.seq (.seq (wR2 f110) (.block 0 (.loop (wLp f110)))) (wEn f110))) ([sl 0 o L.length c]++List.replicate 21 undef,⟨1,[(l,tR)]⟩,[]) fun e z=>(e=none∨e=some none)∧ZW prog f110 z.1 z.2.1=some (.int .u64 ((vb 65536 L % 18446744073709551616:Nat):Int)):=by
 have hm:m4 L.length=(((L.take 4).length:Nat):Int)-1:=by
  unfold m4;rw[List.length_take];split
  ·rw[Zv (by omega) (by omega)];omega
  ·rw[Zv (by omega) (by omega)];omega
 have hz:hiV L (L.take 4).length=0:=by unfold hiV;rw[List.drop_of_length_le (Nat.le_refl _)];rfl
 refine Z0 (Zg Zd Zw) (Zs6 _ _) (fun x hx=>by cases hx) fun g=> ?_;refine Runs.seq (P1:=fun e Y=>match e with | none=>(∃ g,Y.1=[sl 0 o L.length c,undef,.int .u64 0,.int .u64 (hiV L 0:Nat),.int .i64 (-1)]++tl 17 g)∧Y.2.1=⟨1,[(l,tR)]⟩ | some none=>False | some (some _)=>False) (Runs.seq (P1:=fun e Y=>e=none∧(∃ g,Y.1=[sl 0 o L.length c,undef,.int .u64 0,.int .u64 0,.int .i64 (m4 L.length)]++tl 17 g)∧Y.2.1=⟨1,[(l,tR)]⟩) (Zb (Zg Zd Zw) (Zye _ L.length c _ g) (fun x hx=>by cases hx)) ?_ (fun e y he=>by cases he.1)) ?_ (fun e Y he=>by match e,he with | none,he=>exact he.elim | some id,he=>exact he.elim)
 ·rintro⟨t,h',s⟩ ⟨_,⟨g',ht⟩,hh⟩;simp only at ht hh;subst ht hh;refine Runs.script (s:=[]) (Runs.forLoop (P:=fun Y=>(∃ g,Y.1=[sl 0 o L.length c,undef,.int .u64 0,.int .u64 (hiV L 0:Nat),.int .i64 (-1)]++tl 17 g)∧Y.2.1=⟨1,[(l,tR)]⟩) (R:=fun _=>False)
   (fun k Y=>k≤(L.take 4).length∧(∃ g,Y.1=[sl 0 o L.length c,undef,.int .u64 0,.int .u64 (hiV L k:Nat),.int .i64 ((k:Int)-1)]++tl 17 g)∧Y.2.1=⟨1,[(l,tR)]⟩) ?_ (n:=(L.take 4).length) ⟨Nat.le_refl _,⟨g',by rw[hz,hm];rfl⟩,rfl⟩)
  rintro k ⟨t,h',s⟩ ⟨hk,⟨g,ht⟩,hh⟩;simp only at ht hh;subst ht hh;have hl4:(L.take 4).length≤L.length:=by simp;omega
  have hl5:(L.take 4).length≤4:=by simp;omega
  cases k with
  | zero=>
   refine (Zb (Zg Zd Zw) (Zs7 _ _ _ _ g) (Zt (Xb (by omega)))).mono fun e z hz=> ?_;obtain⟨rfl,⟨g',z1⟩,z2⟩:=hz;exact⟨rfl,⟨g',z1⟩,z2⟩
  | succ k=>
   have hd1:=z6 hd k;have hlt:=Zuy hd (k+1);have hs:=Zs9 (L:=L) (k:=k) (by omega);have ek:((k+1:Nat):Int)-1=(k:Int):=by omega
   have hp:hiV L (k+1)<281474976710656:=by
    have:65536^(4-(k+1))≤65536^3:=Nat.pow_le_pow_right (by omega) (by omega);have e3:(65536:Nat)^3=281474976710656:=rfl;omega
   rw[ek];refine (Zb (Zg Zd Zw) (Zyf o L.length c (L.getD k 0) _ k l g) (Zi (by rw[Xg,Nat.mul_one,hR.cell (by omega)];simp [Z4]) (Zi (Xa (by omega)) (Zt (show decide ((k:Int)≥0)=true from Xa (by omega)))))).mono fun e z hz=> ?_;obtain⟨rfl,⟨g',z1⟩,z2⟩:=hz;have e1:lw (hiV L (k+1):Nat) (L.getD k 0)=((hiV L k:Nat):Int):=by
    unfold lw;rw[← hd1.2,Zfi (n:=65536*((hiV L (k+1):Nat):Int)) (by omega) (by omega),Zfi (n:=((dgN L k:Nat):Int)) (by omega) (by omega),Zfi (by omega) (by omega)];omega
   have e2:i64.wrap ((k:Int)-1)=(k:Int)-1:=Zv (by omega) (by omega);exact⟨k,by omega,by omega,⟨g',by rw[z1,e1,e2]⟩,z2⟩
 ·rintro⟨t,h',s⟩ ⟨⟨g',ht⟩,hh⟩;simp only at ht hh;subst ht hh;refine (Zb (Zg Zd Zw) (Zs8 _ _ _ _ g') (fun x hx=>by cases hx)).mono fun e z hz=> ?_;obtain⟨rfl,⟨g2,z1⟩,z2⟩:=hz;refine⟨.inr rfl,?_⟩;rw[z1,z2,ZsA hd];rfl
theorem Zk1:f110.body=some (Zs f110):=by kernel_rfl
theorem ZoP (p:Option Addr) (c:Nat) (h:Hp):Zh (evC (Zk prog Zf Zo hcV) 100 false (Zs f110) ([.slice p 0 c]++List.replicate 21 undef,h,[cmp false]) ⟨[],[],[]⟩) 3 19 (some none) [.slice p 0 c,undef,.int .u64 0] h [(decide (m4 0≥0),false)]:=by and_intros<;>kernel_rfl
theorem Zyg:decide (m4 0≥0)=false:=by decide
def Zyh (h:Hp) (p:Option Addr) (n c:Nat):Bool:=zP h p n c && dgB (Zn h p n) && Nat.blt n 1073741824
def Zyi:Zab:=fun vals h s=>
 match vals with
 | [.slice p n c]=>some (.int .u64 ((vO h p n % 18446744073709551616:Nat):Int),h,s,[(Zyh h p n c,true)])
 | _=>none
theorem ZsB:Z7 110 Zyi:=by
 intro vals h s v h' s' lg hg hl m B w E hv;unfold Zyi at hg;split at hg
 ·rename_i p n c;cases hg;have q:=hl _ Xf;simp only[Zyh,Xh] at q;obtain⟨⟨q1,q2⟩,q3⟩:=q;have q2:=Zby q2;have q3:=Zl.1 q3;have hlen:=zV q1;by_cases hn:n=0
  ·subst hn;have e0:Zn h p 0=[]:=List.length_eq_zero_iff.1 hlen;have ev:vO h p 0=0:=by unfold vO;rw[e0];rfl
   obtain⟨x,p',a,NA,eA,fA⟩:=ZbM 0 q1;have hr:Runs (Zk prog Zf Zo hcV) (Zs f110) ([.slice p' 0 c]++List.replicate 21 undef,⟨1,[x]⟩,[]) fun e z=>(e=none∨e=some none)∧ZW prog f110 z.1 z.2.1=some (.int .u64 ((vO h p 0 % 18446744073709551616:Nat):Int)):=by
    refine (Zb (Zg Zd Zw) (ZoP p' c _) (Zt Zyg)).mono fun e z he=> ?_;obtain⟨rfl,⟨g,e2⟩,e3⟩:=he;refine⟨.inr rfl,?_⟩;rw[e2,e3,ev];rfl
   have b1:∀ {i:Nat}{z:List Value×TypeId},(⟨1,[x]⟩:Hp).blk? i=some z→i=0∧z=x:=fun {i z} hz=>by
    have:i<1:=Hp.blk_lt hz;have hi:i=0:=by omega
    subst hi;exact⟨rfl,(Option.some.inj hz).symm⟩
   have:=Z9 (T:=Zk prog Zf Zo hcV) func110 Zk1 (h0:=⟨1,[x]⟩) ⟨rfl,fun b z hz=>by obtain⟨_,rfl⟩:=b1 hz;exact⟨NA.ros.1,NA.lt0,NA.ros.2⟩⟩ (vals:=[.slice p' 0 c]) (fun v hv=>by rw[List.mem_singleton.1 hv];exact NA.lt (by show 0<1;omega)) (by rfl) hr.w E (s:=fun _=>a) (fun i z hz ht=>by obtain⟨_,rfl⟩:=b1 hz;exact fA ht);simp only[List.map_cons,List.map_nil] at this;rw[eA _ rfl] at this;exact this
  rcases ZG q1 with ⟨rfl,rfl,rfl,e0⟩ | ⟨b,o,x,rfl,hx,r1,_,e0⟩
  ·exact absurd rfl hn
  ·rw[e0] at q2 hlen;obtain⟨h1,h2,h3,h4,h5,h6,h7⟩:=zu r1;have r:=ZoO (c:=c) h1 q2 (by rw[h2];exact q3);rw[h2] at r;have ev:vO h (some ⟨b,o,none⟩) n=vb 65536 (Zy x.1 o n):=by unfold vO;rw[e0]
   rw[ev];exact Z9 (T:=Zk prog Zf Zo hcV) func110 ZoN (Za4 h7) (vals:=[sl 0 o n c]) (fun v hv=>by rw[List.mem_singleton.1 hv];rfl) (by rfl) r.w E (s:=fun _=>b) (zE hx h5 h6 rfl)
 ·cases hg
end Go.Proofs.YtgefjidphfdhdaaGreatDoor
namespace Go.Proofs.YtgefjidphfdhdaaGreatDoor
open Go.KRun Go.Nt
set_option maxRecDepth 100000
theorem Ze3 {x:Bool×Bool}{l:Log}(h:Zx (x::l)):x.1=x.2∧Zx l:=⟨h _ Xe,fun y hy=>h y (Xd _ hy)⟩
def ZsC (h:Hp) (p:Option Addr) (n c:Nat) (k:Int):Bool:=zP h p n c && dgB (Zn h p n) && Nat.blt (k.toNat/16+n+3) 1073741824 && decide (0≤k)
def ZoQ:Zab:=fun vals h s=>
 match vals,s with
 | [.slice p n c,.int .i64 k],.inr (.inr (.inr (.inl d)))::s'=>
  match d,s' with
  | true,.inr (.inl V)::s2=>Zdh V.toNat h s2 [(decide (vO h p n*2^k.toNat=V.toNat),true),(ZsC h p n c k,true),(decide (0<n),true)]
  | false,_=>some (Zm,h,s',[(zP h p n c,true),(decide (0<n),false)])
  | _,_=>none
 | _,_=>none
theorem ZoR:Z7 36 ZoQ:=by
 intro vals h s v h' s' lg hg hl;unfold ZoQ at hg;split at hg
 ·rename_i p n c k d s2;split at hg
  ·rename_i V s3;unfold Zdh at hg;cases hg;obtain⟨l1,l2⟩:=Ze3 hl;have l1:=Xc l1;refine Zf7 _ h [cmp true] _ _ [] _ ?_ l2;simp only[ZqO,Zdh,l1];rfl
  ·cases hg;exact Zf7 _ h [cmp false] _ _ [] _ rfl hl
  ·cases hg
 ·cases hg
def ZoS:Zab:=fun vals h s=>
 match vals,s with
 | [.slice p n c,.slice q n' c'],.inr (.inl k)::s'=>some (.int .i64 k,h,s',[(decide (ZcU (vO h p n) (vO h q n')=k),true),(ZV h p q n c n' c',true)])
 | _,_=>none
theorem ZoT:Z7 35 ZoS:=by
 intro vals h s v h' s' lg hg hl;unfold ZoS at hg;split at hg
 ·rename_i p n c q n' c' V s3;cases hg;obtain⟨l1,l2⟩:=Ze3 hl;have l1:=Xc l1;refine Zf4 _ h [] _ _ [] _ ?_ l2;simp only[ZlU,l1]
 ·cases hg
section
variable {h : Hp} {b b' V W : Nat}
theorem oSh {k:Nat}(hb:h.blk? b=some (wU (d16 V),tU)) (hl:(d16 V).length<100000) (hk:k<100000):ZsC h (some ⟨b,0,none⟩) (d16 V).length (d16 V).length (k:Int)=true:=by
 unfold ZsC;rw[ZQ hb (by omega),zY hb,Zl.2 (by rw[Xg];omega),Xa (by omega)];rfl
theorem ZAj (hb:h.blk? b=some (wU (d16 V),tU)) (hc:h.blk? b'=some (wU (d16 W),tU)) (hl:(d16 V).length<100000) (hm:(d16 W).length<100000):ZV h (some ⟨b,0,none⟩) (some ⟨b',0,none⟩) (d16 V).length (d16 V).length (d16 W).length (d16 W).length=true:=by
 unfold ZV;rw[ZQ hb (by omega),zY hb,ZQ hc (by omega),zY hc,Zl.2 (by omega)];rfl
end
def Zad (b:Nat):Option Addr:=some ⟨b,0,none⟩
def w16 (X:Nat):List Value×TypeId:=(wU (d16 X),tU)
section
variable {h : Hp} {b V : Nat}
theorem Ze9 (hb:h.blk? b=some (wU (d16 V),tU)):vO h (Zad b) (d16 V).length=V:=z7 hb
theorem Zyj:0<(d16 V).length↔0<V:=by
 unfold d16;rw[List.length_pos_iff,ne_eq,Zc7 (by omega)];omega
end
end Go.Proofs.YtgefjidphfdhdaaGreatDoor
namespace Go.Proofs.YtgefjidphfdhdaaGreatDoor
open Go.KRun Go.Nt Go.Rd
set_option maxRecDepth 100000
def spK (p:Int):Int:=if 3<Go.Pt.cl p then 1 else if p=9218868437227405312 then 2 else if p=18442240474082181120 then 3 else 0
def spL (k:Int):List UInt8:=if k=1 then [110,97,110] else if k=2 then [105,110,102] else if k=3 then [45,105,110,102] else []
end Go.Proofs.YtgefjidphfdhdaaGreatDoor
namespace Go.Proofs.YtgefjidphfdhdaaGreatDoor
open Go.Proofs.Tryz
open Go.IntKind
open Go.KRun Go.Nt
set_option maxRecDepth 100000
theorem ZoU:f160.body=some (zg (Zz9 f160) (.seq (.seq (wR2 f160) (.block 0 (.loop (wLp f160)))) (wEn f160))):=by kernel_rfl
theorem ZsD (p:Option Addr) (n c:Nat) (k:Int) (h:Hp):Zh (evL (Zk prog Zf Zo hcV) 100 (Zz9 f160) ([.slice p n c,.int .i64 k]++List.replicate 20 undef,h,[]) ⟨[],[],[]⟩) 6 16 none [.slice p n c,.int .i64 k,undef,undef,.int .i64 0,.int .u32 (atN (Zn h p n) (k16 k))] h [(zP h p n c,true)]:=by and_intros<;>kernel_rfl
theorem Zyk (a:Value) (k x:Int) (h:Hp) (g:Nat→Value):Zh (evC (Zk prog Zf Zo hcV) 100 false (wR2 f160) ([a,.int .i64 k,undef,undef,.int .i64 0,.int .u32 x]++tl 16 g,h,[]) ⟨[],[],[]⟩) 7 15 none [a,.int .i64 k,undef,undef,.int .i64 0,.int .u32 x,.int .i64 0] h []:=by and_intros<;>kernel_rfl
theorem Zyl (a:Value) (k x i:Int) (h:Hp) (g:Nat→Value):Zh (evC (Zk prog Zf Zo hcV) 100 false (wLp f160) ([a,.int .i64 k,undef,undef,.int .i64 0,.int .u32 x,.int .i64 i]++tl 15 g,h,[cmp true,cmp true]) ⟨[],[],[]⟩) 7 15 none [a,.int .i64 k,undef,undef,.int .i64 0,.int .u32 (u32.wrap (x.tdiv 2)),.int .i64 (i64.wrap (i+1))] h [(decide (i<k.tmod 16),true),(decide ((16:Int)=0),false)]:=by and_intros<;>kernel_rfl
theorem ZsE (a:Value) (k x i:Int) (h:Hp) (g:Nat→Value):Zh (evC (Zk prog Zf Zo hcV) 100 false (wLp f160) ([a,.int .i64 k,undef,undef,.int .i64 0,.int .u32 x,.int .i64 i]++tl 15 g,h,[cmp true,cmp false]) ⟨[],[],[]⟩) 7 15 (some (some 0)) [a,.int .i64 k,undef,undef,.int .i64 0,.int .u32 x,.int .i64 i] h [(decide (i<k.tmod 16),false),(decide ((16:Int)=0),false)]:=by and_intros<;>kernel_rfl
theorem ZsF (a:Value) (k x i:Int) (h:Hp) (g:Nat→Value):Zh (evC (Zk prog Zf Zo hcV) 100 false (wEn f160) ([a,.int .i64 k,undef,undef,.int .i64 0,.int .u32 x,.int .i64 i]++tl 15 g,h,[cmp true]) ⟨[],[],[]⟩) 5 17 (some none) [a,.int .i64 k,undef,undef,.int .i64 (i64.wrap (x.tmod 2))] h [(decide ((2:Int)=0),false)]:=by and_intros<;>kernel_rfl
theorem ZoV (a:Value) (k x:Nat) (hx:x<65536) (h:Hp) (g:Nat→Value):
  Runs (Zk prog Zf Zo hcV) (.block 0 (.loop (wLp f160))) ([a,.int .i64 (k:Nat),undef,undef,.int .i64 0,.int .u32 (x:Nat),.int .i64 0]++tl 15 g,h,[]) fun e Y=>match e with | none=>(∃ g i,Y.1=[a,.int .i64 (k:Nat),undef,undef,.int .i64 0,.int .u32 ((x/2^(k % 16):Nat):Int),.int .i64 i]++tl 15 g)∧Y.2.1=h | some none=>False | some (some _)=>False:=by
 have em:(k:Int).tmod 16=((k % 16:Nat):Int):=by rw[Int.tmod_eq_emod_of_nonneg (by omega)];omega
 refine Runs.forLoop (P:=fun Y=>(∃ g i,Y.1=[a,.int .i64 (k:Nat),undef,undef,.int .i64 0,.int .u32 ((x/2^(k % 16):Nat):Int),.int .i64 i]++tl 15 g)∧Y.2.1=h) (R:=fun _=>False)
  (fun m Y=>∃ j:Nat,j≤k % 16∧m=k % 16-j∧(∃ g,Y.1=[a,.int .i64 (k:Nat),undef,undef,.int .i64 0,.int .u32 ((x/2^j:Nat):Int),.int .i64 (j:Nat)]++tl 15 g)∧Y.2.1=h) ?_ (n:=k % 16) ⟨0,by omega,by omega,⟨g,by simp⟩,rfl⟩
 rintro m ⟨t,h',s⟩ ⟨j,hj,hm,⟨g,ht⟩,hh⟩;simp only at ht hh;subst ht hh;have hle:x/2^j≤x:=Nat.div_le_self _ _;by_cases hlt:j<k % 16
 ·refine (Zb (Zg Zd Zw) (Zyl a k _ j h' g) (Zi (by rw[em];exact Xa (by omega)) (Zt rfl))).mono fun e z hz=> ?_;obtain⟨rfl,⟨g',z1⟩,z2⟩:=hz;have e1:u32.wrap (((x/2^j:Nat):Int).tdiv 2)=((x/2^(j+1):Nat):Int):=by
   rw[Nat.pow_succ,← Nat.div_div_eq_div_mul];generalize x/2^j=y at hle ⊢;rw[Int.tdiv_eq_ediv_of_nonneg (by omega),zn (by omega) (by omega)];rfl
  have e2:i64.wrap ((j:Int)+1)=((j+1:Nat):Int):=by rw[Zv (by omega) (by omega)];omega
  exact⟨k % 16-(j+1),by omega,j+1,by omega,rfl,⟨g',by rw[z1,e1,e2]⟩,z2⟩
 ·have hj':j=k % 16:=by omega
  subst hj';refine (Zb (Zg Zd Zw) (ZsE a k _ _ h' g) (Zi (by rw[em];exact Xb (by omega)) (Zt rfl))).mono fun e z hz=> ?_;obtain⟨rfl,⟨g',z1⟩,z2⟩:=hz;exact⟨rfl,⟨g',_,z1⟩,z2⟩
def Zym (h:Hp) (p:Option Addr) (n c:Nat):Bool:=zP h p n c && dgB (Zn h p n) && Nat.blt n 1073741824
def Zyn:Zab:=fun vals h s=>
 match vals with
 | [.slice p n c,.int .i64 k]=>some (.int .i64 ((vO h p n/2^k.toNat % 2:Nat):Int),h,s,[(Zym h p n c,true),(decide (0≤k∧k<4611686018427387904),true)])
 | _=>none
theorem Zuz (L:List Int) (i:Nat):dgS L i=dgN L i:=rfl
theorem Zhd {x:List Value×TypeId}{i:Nat}{z:List Value×TypeId}(hz:(⟨1,[x]⟩:Hp).blk? i=some z):i=0∧z=x:=by
 have:i<1:=Hp.blk_lt hz;have hi:i=0:=by omega
 subst hi;exact⟨rfl,(Option.some.inj hz).symm⟩
theorem ZsG:Z7 160 Zyn:=by
 intro vals h s v h' s' lg hg hl m B w E hv;unfold Zyn at hg;split at hg
 ·rename_i p n c k;cases hg;have q:=hl _ (Xe);have qk:=Xc (hl _ (Xd _ Xf));simp only[Zym,Xh] at q;obtain⟨⟨q1,q2⟩,q3⟩:=q;have q2:=Zby q2;obtain⟨K,rfl⟩:=Int.eq_ofNat_of_zero_le qk.1;obtain⟨x,p',a,NA,eA,fA⟩:=ZbM 0 q1;obtain⟨rp,ro'⟩:=NA.row ⟨1,[x]⟩ rfl;have ek:k16 (K:Int)=((K/16:Nat):Int):=by unfold k16;rw[Int.tdiv_eq_ediv_of_nonneg (by omega),Zv (by omega) (by omega)];omega
  have hd:=z6 q2 (K/16);have hr:Runs (Zk prog Zf Zo hcV) (zg (Zz9 f160) (.seq (.seq (wR2 f160) (.block 0 (.loop (wLp f160)))) (wEn f160))) ([.slice p' n c,.int .i64 (K:Nat)]++List.replicate 20 undef,⟨1,[x]⟩,[]) fun e z=>(e=none∨e=some none)∧ZW prog f160 z.1 z.2.1=some (.int .i64 ((vO h p n/2^K % 2:Nat):Int)):=by
   refine Z0 (Zg Zd Zw) (ZsD p' n c K _) (Zt rp) fun g=> ?_;rw[ro',ek,Zam,← hd.2];refine Runs.seq (P1:=fun e Y=>match e with | none=>(∃ g i,Y.1=[.slice p' n c,.int .i64 (K:Nat),undef,undef,.int .i64 0,.int .u32 ((dgN (Zn h p n) (K/16)/2^(K % 16):Nat):Int),.int .i64 i]++tl 15 g)∧Y.2.1=⟨1,[x]⟩ | some none=>False | some (some _)=>False) (Runs.seq (P1:=fun e Y=>e=none∧(∃ g,Y.1=[.slice p' n c,.int .i64 (K:Nat),undef,undef,.int .i64 0,.int .u32 ((dgN (Zn h p n) (K/16):Nat):Int),.int .i64 0]++tl 15 g)∧Y.2.1=⟨1,[x]⟩) (Zb (Zg Zd Zw) (Zyk _ K _ _ g) (fun x hx=>by cases hx)) ?_ (fun e y he=>by cases he.1)) ?_ (fun e Y he=>by match e,he with | none,he=>exact he.elim | some id,he=>exact he.elim)
   ·rintro⟨t,h',s⟩ ⟨_,⟨g',ht⟩,hh⟩;simp only at ht hh;subst ht hh;exact Runs.script (ZoV _ K _ hd.1 _ g')
   ·rintro⟨t,h',s⟩ ⟨⟨g',i,ht⟩,hh⟩;simp only at ht hh;subst ht hh;refine (Zb (Zg Zd Zw) (ZsF _ _ _ _ _ g') (Zt rfl)).mono fun e z hz=> ?_;obtain⟨rfl,⟨g2,z1⟩,z2⟩:=hz;refine⟨.inr rfl,?_⟩;have e1:i64.wrap ((((dgN (Zn h p n) (K/16)/2^(K % 16):Nat):Int)).tmod 2)=((vO h p n/2^K % 2:Nat):Int):=by
     unfold vO;rw[Z0F q2 K,Zuz];generalize dgN (Zn h p n) (K/16)/2^(K % 16)=y;rw[Int.tmod_eq_emod_of_nonneg (by omega),Zv (by omega) (by omega)];rfl
    rw[z1,z2,e1];rfl
  have:=Z9 (T:=Zk prog Zf Zo hcV) func160 ZoU (h0:=⟨1,[x]⟩) ⟨rfl,fun b z hz=>by obtain⟨_,rfl⟩:=Zhd hz;exact⟨NA.ros.1,NA.lt0,NA.ros.2⟩⟩ (vals:=[.slice p' n c,.int .i64 (K:Nat)]) (fun v hv=>by
   simp only[List.mem_cons,List.not_mem_nil,or_false] at hv;rcases hv with rfl | rfl
   ·exact NA.lt (by show 0<1;omega)
   ·rfl) (by rfl) hr.w E (s:=fun _=>a) (fun i z hz ht=>by obtain⟨_,rfl⟩:=Zhd hz;exact fA ht)
  simp only[List.map_cons,List.map_nil] at this;rw[eA _ rfl] at this;exact this
 ·cases hg
def rB (F:Func):Code:=Z1 (Z1 (Z1 (Z1 (Zs F))))
def rPr (F:Func):List Code:=[Z3 (Zs F),Z3 (Z1 (Zs F)),Z3 (Z1 (Z1 (Zs F))),Z3 (Z1 (Z1 (Z1 (Zs F))))]
def rR5 (F:Func):Code:=Z3 (Z3 (rB F))
def rL1 (F:Func):Code:=cIn (cIn (Z1 (Z3 (rB F))))
def rC (F:Func):Code:=Z1 (rB F)
def rIf (F:Func):Code:=Z3 (rC F)
def Z8o (F:Func):Code:=Z3 (Z1 (rC F))
def rD (F:Func):Code:=Z1 (Z1 (rC F))
def Z8p (F:Func):Code:=Z3 (Z3 (rD F))
def rL2 (F:Func):Code:=cIn (cIn (Z1 (Z3 (rD F))))
def Z5t (F:Func):Code:=Z3 (Z1 (rD F))
def Z8q (F:Func):Code:=Z3 (Z1 (Z1 (rD F)))
def rE (F:Func):Code:=Z1 (Z1 (Z1 (rD F)))
def Z8r (F:Func):Code:=Z3 (Z3 (rE F))
def rL3 (F:Func):Code:=cIn (cIn (Z1 (Z3 (rE F))))
def rEn (F:Func):Code:=Z1 (rE F)
theorem ZoW:f159.body=some (zg (rPr f159) (.seq (.seq (rR5 f159) (.block 0 (.loop (rL1 f159)))) (.seq (rIf f159) (.seq (Z8o f159) (.seq (.seq (Z8p f159) (.block 2 (.loop (rL2 f159)))) (.seq (Z5t f159) (.seq (Z8q f159) (.seq (.seq (Z8r f159) (.block 4 (.loop (rL3 f159)))) (rEn f159))))))))):=by kernel_rfl
theorem Zk2:f159.body=some (Zs f159):=by kernel_rfl
theorem Zyo (p:Option Addr) (n c:Nat) (k:Int) (h:Hp):Zh (evL (Zk prog Zf Zo hcV) 100 (rPr f159) ([.slice p n c,.int .i64 k]++List.replicate 87 undef,h,[cmp false]) ⟨[],[],[]⟩) 8 81 none [.slice p n c,.int .i64 k,undef,undef,Zm,.bool false,.bool false,.int .i64 (k16 k)] h [(decide (k≤0),false)]:=by and_intros<;>kernel_rfl
theorem Z33 (a:Value) (k b:Int) (h:Hp) (g:Nat→Value):Zh (evC (Zk prog Zf Zo hcV) 100 false (rR5 f159) ([a,.int .i64 k,undef,undef,Zm,.bool false,.bool false,.int .i64 b]++tl 81 g,h,[]) ⟨[],[],[]⟩) 9 80 none [a,.int .i64 k,undef,undef,Zm,.bool false,.bool false,.int .i64 b,.int .i64 0] h []:=by and_intros<;>kernel_rfl
theorem Zyp (p:Option Addr) (n c:Nat) (k b i:Int) (h:Hp) (g:Nat→Value):Zh (evC (Zk prog Zf Zo hcV) 100 false (rL1 f159) ([.slice p n c,.int .i64 k,undef,undef,Zm,.bool false,.bool true,.int .i64 b,.int .i64 i]++tl 80 g,h,[cmp true,cmp true]) ⟨[],[],[]⟩) 9 80 none [.slice p n c,.int .i64 k,undef,undef,Zm,.bool false,.bool true,.int .i64 b,.int .i64 (i64.wrap (i+1))] h [(decide (i<n),true),(decide (i<b),true)]:=by and_intros<;>kernel_rfl
theorem Zyq (o n c:Nat) (k b i x:Int) (l:List Value) (d:Bool) (g:Nat→Value):Zh (evC (Zk prog Zf Zo hcV) 100 false (rL1 f159) ([sl 0 o n c,.int .i64 k,undef,undef,Zm,.bool false,.bool false,.int .i64 b,.int .i64 i]++tl 80 g,⟨1,[(l,tR)]⟩,[cmp true,cmp true,at_,val (.int .u32 x),cmp d]) ⟨[],[],[]⟩) 9 80 none [sl 0 o n c,.int .i64 k,undef,undef,Zm,.bool false,.bool d,.int .i64 b,.int .i64 (i64.wrap (i+1))] ⟨1,[(l,tR)]⟩ [(x !=0,d),(Z4 (l[o+i.toNat*1]?) (.int .u32 x),true),(decide (0≤i∧i<n),true),(decide (i<n),true),(decide (i<b),true)]:=by and_intros<;>kernel_rfl
theorem Zyr (p:Option Addr) (n c:Nat) (k b i:Int) (e:Bool) (h:Hp) (g:Nat→Value):Zh (evC (Zk prog Zf Zo hcV) 100 false (rL1 f159) ([.slice p n c,.int .i64 k,undef,undef,Zm,.bool false,.bool e,.int .i64 b,.int .i64 i]++tl 80 g,h,[cmp false]) ⟨[],[],[]⟩) 9 80 (some (some 0)) [.slice p n c,.int .i64 k,undef,undef,Zm,.bool false,.bool e,.int .i64 b,.int .i64 i] h [(decide (i<b),false)]:=by and_intros<;>kernel_rfl
theorem Zys (p:Option Addr) (n c:Nat) (k b i:Int) (e:Bool) (h:Hp) (g:Nat→Value):Zh (evC (Zk prog Zf Zo hcV) 100 false (rL1 f159) ([.slice p n c,.int .i64 k,undef,undef,Zm,.bool false,.bool e,.int .i64 b,.int .i64 i]++tl 80 g,h,[cmp true,cmp false]) ⟨[],[],[]⟩) 9 80 (some (some 0)) [.slice p n c,.int .i64 k,undef,undef,Zm,.bool false,.bool e,.int .i64 b,.int .i64 i] h [(decide (i<n),false),(decide (i<b),true)]:=by and_intros<;>kernel_rfl
theorem Zyt (p:Option Addr) (n c:Nat) (k b i:Int) (e:Bool) (h:Hp) (g:Nat→Value):Zh (evC (Zk prog Zf Zo hcV) 100 false (rIf f159) ([.slice p n c,.int .i64 k,undef,undef,Zm,.bool false,.bool e,.int .i64 b,.int .i64 i]++tl 80 g,h,[cmp true]) ⟨[],[],[]⟩) 6 83 (some none) [.slice p n c,.int .i64 k,undef,undef,Zm,.bool e] h [(decide (b≥n),true)]:=by and_intros<;>kernel_rfl
theorem Zyu (p:Option Addr) (n c:Nat) (k b i:Int) (e:Bool) (h:Hp) (g:Nat→Value):Zh (evC (Zk prog Zf Zo hcV) 100 false (rIf f159) ([.slice p n c,.int .i64 k,undef,undef,Zm,.bool false,.bool e,.int .i64 b,.int .i64 i]++tl 80 g,h,[cmp false]) ⟨[],[],[]⟩) 9 80 none [.slice p n c,.int .i64 k,undef,undef,Zm,.bool false,.bool e,.int .i64 b,.int .i64 i] h [(decide (b≥n),false)]:=by and_intros<;>kernel_rfl
theorem Zyv (a:Value) (k b i:Int) (e:Bool) (h:Hp) (g:Nat→Value):Zh (evC (Zk prog Zf Zo hcV) 100 false (Z8o f159) ([a,.int .i64 k,undef,undef,Zm,.bool false,.bool e,.int .i64 b,.int .i64 i]++tl 80 g,h,[]) ⟨[],[],[]⟩) 10 79 none [a,.int .i64 k,undef,undef,Zm,.bool false,.bool e,.int .i64 b,.int .i64 i,.int .u32 1] h []:=by and_intros<;>kernel_rfl
theorem Zyw (a:Value) (k b i:Int) (e:Bool) (h:Hp) (g:Nat→Value):Zh (evC (Zk prog Zf Zo hcV) 100 false (Z8p f159) ([a,.int .i64 k,undef,undef,Zm,.bool false,.bool e,.int .i64 b,.int .i64 i,.int .u32 1]++tl 79 g,h,[]) ⟨[],[],[]⟩) 11 78 none [a,.int .i64 k,undef,undef,Zm,.bool false,.bool e,.int .i64 b,.int .i64 i,.int .u32 1,.int .i64 0] h []:=by and_intros<;>kernel_rfl
theorem Z34 (a:Value) (k b u i q:Int) (e:Bool) (h:Hp) (g:Nat→Value):Zh (evC (Zk prog Zf Zo hcV) 100 false (rL2 f159) ([a,.int .i64 k,undef,undef,Zm,.bool false,.bool e,.int .i64 b,.int .i64 u,.int .u32 q,.int .i64 i]++tl 78 g,h,[cmp true,cmp true]) ⟨[],[],[]⟩) 11 78 none [a,.int .i64 k,undef,undef,Zm,.bool false,.bool e,.int .i64 b,.int .i64 u,.int .u32 (u32.wrap (2*q)),.int .i64 (i64.wrap (i+1))] h [(decide (i<k.tmod 16),true),(decide ((16:Int)=0),false)]:=by and_intros<;>kernel_rfl
theorem Z35 (a:Value) (k b u i q:Int) (e:Bool) (h:Hp) (g:Nat→Value):Zh (evC (Zk prog Zf Zo hcV) 100 false (rL2 f159) ([a,.int .i64 k,undef,undef,Zm,.bool false,.bool e,.int .i64 b,.int .i64 u,.int .u32 q,.int .i64 i]++tl 78 g,h,[cmp true,cmp false]) ⟨[],[],[]⟩) 11 78 (some (some 2)) [a,.int .i64 k,undef,undef,Zm,.bool false,.bool e,.int .i64 b,.int .i64 u,.int .u32 q,.int .i64 i] h [(decide (i<k.tmod 16),false),(decide ((16:Int)=0),false)]:=by and_intros<;>kernel_rfl
theorem Zyx (a:Value) (k b u i q:Int) (h:Hp) (g:Nat→Value):Zh (evC (Zk prog Zf Zo hcV) 100 false (Z5t f159) ([a,.int .i64 k,undef,undef,Zm,.bool false,.bool true,.int .i64 b,.int .i64 u,.int .u32 q,.int .i64 i]++tl 78 g,h,[]) ⟨[],[],[]⟩) 11 78 none [a,.int .i64 k,undef,undef,Zm,.bool false,.bool true,.int .i64 b,.int .i64 u,.int .u32 q,.int .i64 i] h []:=by and_intros<;>kernel_rfl
theorem Zyy (o n c:Nat) (k b u i q x:Int) (l:List Value) (d:Bool) (g:Nat→Value):Zh (evC (Zk prog Zf Zo hcV) 100 false (Z5t f159) ([sl 0 o n c,.int .i64 k,undef,undef,Zm,.bool false,.bool false,.int .i64 b,.int .i64 u,.int .u32 q,.int .i64 i]++tl 78 g,⟨1,[(l,tR)]⟩,[at_,val (.int .u32 x),cmp false,cmp d]) ⟨[],[],[]⟩) 11 78 none [sl 0 o n c,.int .i64 k,undef,undef,Zm,.bool false,.bool d,.int .i64 b,.int .i64 u,.int .u32 q,.int .i64 i] ⟨1,[(l,tR)]⟩ [(x.tmod q !=0,d),(decide (q=0),false),(Z4 (l[o+b.toNat*1]?) (.int .u32 x),true),(decide (0≤b∧b<n),true)]:=by and_intros<;>kernel_rfl
theorem Zyz (a:Value) (k b u i q:Int) (e:Bool) (h:Hp) (g:Nat→Value):Zh (evC (Zk prog Zf Zo hcV) 100 false (Z8q f159) ([a,.int .i64 k,undef,undef,Zm,.bool false,.bool e,.int .i64 b,.int .i64 u,.int .u32 q,.int .i64 i]++tl 78 g,h,[]) ⟨[],[],[]⟩) 12 77 none [a,.int .i64 k,undef,undef,Zm,.bool false,.bool e,.int .i64 b,.int .i64 u,.int .u32 q,.int .i64 i,Zm] h []:=by and_intros<;>kernel_rfl
theorem Zy0 (a:Value) (k b u i q:Int) (e:Bool) (h:Hp) (g:Nat→Value):Zh (evC (Zk prog Zf Zo hcV) 100 false (Z8r f159) ([a,.int .i64 k,undef,undef,Zm,.bool false,.bool e,.int .i64 b,.int .i64 u,.int .u32 q,.int .i64 i,Zm]++tl 77 g,h,[]) ⟨[],[],[]⟩) 13 76 none [a,.int .i64 k,undef,undef,Zm,.bool false,.bool e,.int .i64 b,.int .i64 u,.int .u32 q,.int .i64 i,Zm,.int .i64 b] h []:=by and_intros<;>kernel_rfl
theorem Zu0 (p:Option Addr) (n c:Nat) (v:Value) (k b u u2 i q:Int) (e:Bool) (h:Hp) (g:Nat→Value):Zh (evC (Zk prog Zf Zo hcV) 100 false (rL3 f159) ([.slice p n c,.int .i64 k,undef,undef,Zm,.bool false,.bool e,.int .i64 b,.int .i64 u,.int .u32 q,.int .i64 u2,v,.int .i64 i]++tl 76 g,h,[cmp false]) ⟨[],[],[]⟩) 13 76 (some (some 4)) [.slice p n c,.int .i64 k,undef,undef,Zm,.bool false,.bool e,.int .i64 b,.int .i64 u,.int .u32 q,.int .i64 u2,v,.int .i64 i] h [(decide (i<n),false)]:=by and_intros<;>kernel_rfl
def dwn (h:Hp) (o n:Nat) (i q q1 q2:Int):Int:=u32.wrap (q1+u32.wrap ((atN (Zn h (some ⟨0,o,none⟩) n) (i64.wrap (i+1))).tmod q*q2))
def lDw (h:Hp) (l:List Value) (o n c:Nat) (i q x q1 q2:Int):Log:=[(decide (q=0),false),(zP h (some ⟨0,o,none⟩) n c,true),(decide (q=0),false),(decide (u32.wrap (Int.tdiv 65536 q)=q2),true),(decide (q=0),false),(decide (u32.wrap (x.tdiv q)=q1),true),(Z4 (l[o+i.toNat*1]?) (.int .u32 x),true),(decide (0≤i∧i<n),true),(decide (i<n),true)]
theorem Zy1 (o n c:Nat) (k b u u2 i q x q1 q2:Int) (e:Bool) (l:List Value) (g:Nat→Value):Zh (evC (Zk prog Zf Zo hcV) 100 false (rL3 f159) ([sl 0 o n c,.int .i64 k,undef,undef,Zm,.bool false,.bool e,.int .i64 b,.int .i64 u,.int .u32 q,.int .i64 u2,Zm,.int .i64 i]++tl 76 g,⟨1,[(l,tR)]⟩,[cmp true,at_,val (.int .u32 x),num q1,num q2,cmp false]) ⟨[],[],[]⟩) 13 76 none [sl 0 o n c,.int .i64 k,undef,undef,Zm,.bool false,.bool e,.int .i64 b,.int .i64 u,.int .u32 q,.int .i64 u2,sl 2 0 1 grown,.int .i64 (i64.wrap (i+1))] ⟨3,[([.int .u32 (dwn ⟨1,[(l,tR)]⟩ o n i q q1 q2)],tU),([.int .u32 (dwn ⟨1,[(l,tR)]⟩ o n i q q1 q2)],tU),(l,tR)]⟩ (lDw ⟨1,[(l,tR)]⟩ l o n c i q x q1 q2):=by and_intros<;>kernel_rfl
theorem Zy2 (o n c z:Nat) (k b u u2 i q x q1 q2:Int) (e:Bool) (l lo:List Value) (g:Nat→Value):Zh (evC (Zk prog Zf Zo hcV) 100 false (rL3 f159) ([sl 0 o n c,.int .i64 k,undef,undef,Zm,.bool false,.bool e,.int .i64 b,.int .i64 u,.int .u32 q,.int .i64 u2,sl 1 0 z grown,.int .i64 i]++tl 76 g,⟨2,[(lo,tU),(l,tR)]⟩,[cmp true,at_,val (.int .u32 x),num q1,num q2,cmp false,at_]) ⟨[],[],[]⟩) 13 76 none [sl 0 o n c,.int .i64 k,undef,undef,Zm,.bool false,.bool e,.int .i64 b,.int .i64 u,.int .u32 q,.int .i64 u2,sl 3 0 (z+1) grown,.int .i64 (i64.wrap (i+1))] ⟨4,[(lo++[.int .u32 (dwn ⟨2,[(lo,tU),(l,tR)]⟩ o n i q q1 q2)],tU),([.int .u32 (dwn ⟨2,[(lo,tU),(l,tR)]⟩ o n i q q1 q2)],tU),([],2*zd),(l,tR)]⟩ ((zK tU (lo,tU) ([.int .u32 (dwn ⟨2,[(lo,tU),(l,tR)]⟩ o n i q q1 q2)],tU) z 0 1,true)::lDw ⟨2,[(lo,tU),(l,tR)]⟩ l o n c i q x q1 q2):=by and_intros<;>kernel_rfl
theorem Zy3 (a:Value) (k b u u2 q u3:Int) (e:Bool) (z:Nat) (x:List Value×TypeId) (lo:List Value) (g:Nat→Value):Zh (evC (Zk prog Zf Zo hcV) 100 false (rEn f159) ([a,.int .i64 k,undef,undef,Zm,.bool false,.bool e,.int .i64 b,.int .i64 u,.int .u32 q,.int .i64 u2,sl 1 0 z grown,.int .i64 u3]++tl 76 g,⟨2,[(lo,tU),x]⟩,[]) ⟨[],[],[]⟩) 6 83 (some none) [a,.int .i64 k,undef,undef,sl 1 0 (Zj (Zy lo 0 z)) (Zj (Zy lo 0 z)),.bool e] ⟨2,[(lo,tU),x]⟩ [(ZaX tU lo 0 z grown,true)]:=by and_intros<;>kernel_rfl
theorem ZoX (p:Option Addr) (c:Nat) (k:Int) (h:Hp):Zh (evC (Zk prog Zf Zo hcV) 100 false (Zs f159) ([.slice p 0 c,.int .i64 k]++List.replicate 87 undef,h,[cmp false,cmp true,cmp false,cmp true]) ⟨[],[],[]⟩) 6 83 (some none) [.slice p 0 c,.int .i64 k,undef,undef,Zm,.bool false] h [(decide (k16 k≥((0:Nat):Int)),true),(decide ((0:Int)<((0:Nat):Int)),false),(decide (0<k16 k),true),(decide (k≤0),false)]:=by and_intros<;>kernel_rfl
theorem Zk3 (p:Option Addr) (c:Nat) (k:Int) (h:Hp):Zh (evC (Zk prog Zf Zo hcV) 100 false (Zs f159) ([.slice p 0 c,.int .i64 k]++List.replicate 87 undef,h,[cmp false,cmp false,cmp true]) ⟨[],[],[]⟩) 6 83 (some none) [.slice p 0 c,.int .i64 k,undef,undef,Zm,.bool false] h [(decide (k16 k≥((0:Nat):Int)),true),(decide (0<k16 k),false),(decide (k≤0),false)]:=by and_intros<;>kernel_rfl
section
variable {l : List Value} {o c : Nat} {A : List Int}
theorem ZoY (A:List Int) (j:Nat):vb 65536 (A.take (j+1))=vb 65536 (A.take j)+65536^j*dgN A j:=Za1 65536 A j
theorem Zk4 (hR:Row l o A) (hA:∀ x∈A,Dg 65536 x) (hn:A.length<1073741824) (k:Int) {z:Nat}(hz:z<4611686018427387904) (g:Nat→Value):
  Runs (Zk prog Zf Zo hcV) (.block 0 (.loop (rL1 f159))) ([sl 0 o A.length c,.int .i64 k,undef,undef,Zm,.bool false,.bool false,.int .i64 (z:Nat),.int .i64 0]++tl 80 g,⟨1,[(l,tR)]⟩,[]) fun e Y=>match e with | none=>(∃ g u,Y.1=[sl 0 o A.length c,.int .i64 k,undef,undef,Zm,.bool false,.bool (decide (vb 65536 (A.take z)≠0)),.int .i64 (z:Nat),.int .i64 u]++tl 80 g)∧Y.2.1=⟨1,[(l,tR)]⟩ | some none=>False | some (some _)=>False:=by
 refine Runs.forLoop (P:=fun Y=>(∃ g u,Y.1=[sl 0 o A.length c,.int .i64 k,undef,undef,Zm,.bool false,.bool (decide (vb 65536 (A.take z)≠0)),.int .i64 (z:Nat),.int .i64 u]++tl 80 g)∧Y.2.1=⟨1,[(l,tR)]⟩) (R:=fun _=>False)
  (fun m Y=>∃ j:Nat,j≤z∧j≤A.length∧m=A.length-j∧(∃ g,Y.1=[sl 0 o A.length c,.int .i64 k,undef,undef,Zm,.bool false,.bool (decide (vb 65536 (A.take j)≠0)),.int .i64 (z:Nat),.int .i64 (j:Nat)]++tl 80 g)∧Y.2.1=⟨1,[(l,tR)]⟩) ?_ (n:=A.length) ⟨0,by omega,by omega,by omega,⟨g,by simp [vb]⟩,rfl⟩
 rintro m ⟨t,h',s⟩ ⟨j,hj,hj',hm,⟨g,ht⟩,hh⟩;simp only at ht hh;subst ht hh;have e2:i64.wrap ((j:Int)+1)=((j+1:Nat):Int):=by rw[Zv (by omega) (by omega)];omega
 have hs:=ZoY A j;have hp:0<65536^j:=Nat.pow_pos (by omega);by_cases h1:j<z
 ·by_cases h2:j<A.length
  ·have hd:=z6 hA j;by_cases h0:vb 65536 (A.take j)=0
   ·have ef:decide (vb 65536 (A.take j)≠0)=false:=Xb (by omega);rw[ef];refine (Zb (Zg Zd Zw) (Zyq o A.length c k z j (A.getD j 0) l (A.getD j 0 !=0) g) (Zi rfl (Zi (by rw[Xg,Nat.mul_one,hR.cell h2];simp [Z4]) (Zi (Xa (by omega)) (Zi (Xa (by omega)) (Zt (Xa (by omega)))))))).mono fun e w hw=> ?_;obtain⟨rfl,⟨g',z1⟩,z2⟩:=hw;have e3:(A.getD j 0 !=0)=decide (vb 65536 (A.take (j+1))≠0):=by
     rw[hs,h0,Nat.zero_add,← hd.2,Bool.eq_iff_iff];simp only[bne_iff_ne,ne_eq,Xi,Nat.mul_eq_zero];omega
    exact⟨A.length-(j+1),by omega,j+1,by omega,by omega,rfl,⟨g',by rw[z1,e2,e3]⟩,z2⟩
   ·have ef:decide (vb 65536 (A.take j)≠0)=true:=Xa h0;rw[ef];refine (Zb (Zg Zd Zw) (Zyp _ A.length c k z j _ g) (Zi (Xa (by omega)) (Zt (Xa (by omega))))).mono fun e w hw=> ?_;obtain⟨rfl,⟨g',z1⟩,z2⟩:=hw;have e3:true=decide (vb 65536 (A.take (j+1))≠0):=(Xa (by rw[hs];omega)).symm;exact⟨A.length-(j+1),by omega,j+1,by omega,by omega,rfl,⟨g',by rw[z1,e2,← e3];rfl⟩,z2⟩
  ·have hjl:A.take j=A.take z:=by rw[List.take_of_length_le (by omega),List.take_of_length_le (by omega)]
   rw[hjl];refine (Zb (Zg Zd Zw) (Zys _ A.length c k z j _ _ g) (Zi (Xb (by omega)) (Zt (Xa (by omega))))).mono fun e w hw=> ?_;obtain⟨rfl,⟨g',z1⟩,z2⟩:=hw;exact⟨rfl,⟨g',_,z1⟩,z2⟩
 ·have hjz:j=z:=by omega
  subst hjz;refine (Zb (Zg Zd Zw) (Zyr _ A.length c k j j _ _ g) (Zt (Xb (by omega)))).mono fun e w hw=> ?_;obtain⟨rfl,⟨g',z1⟩,z2⟩:=hw;exact⟨rfl,⟨g',_,z1⟩,z2⟩
theorem Zk5 (a:Value) (k:Nat) (b u:Int) (e:Bool) (h:Hp) (g:Nat→Value):
  Runs (Zk prog Zf Zo hcV) (.block 2 (.loop (rL2 f159))) ([a,.int .i64 (k:Nat),undef,undef,Zm,.bool false,.bool e,.int .i64 b,.int .i64 u,.int .u32 1,.int .i64 0]++tl 78 g,h,[]) fun ex Y=>match ex with | none=>(∃ g u2,Y.1=[a,.int .i64 (k:Nat),undef,undef,Zm,.bool false,.bool e,.int .i64 b,.int .i64 u,.int .u32 ((2^(k % 16):Nat):Int),.int .i64 u2]++tl 78 g)∧Y.2.1=h | some none=>False | some (some _)=>False:=by
 have em:(k:Int).tmod 16=((k % 16:Nat):Int):=by rw[Int.tmod_eq_emod_of_nonneg (by omega)];omega
 refine Runs.forLoop (P:=fun Y=>(∃ g u2,Y.1=[a,.int .i64 (k:Nat),undef,undef,Zm,.bool false,.bool e,.int .i64 b,.int .i64 u,.int .u32 ((2^(k % 16):Nat):Int),.int .i64 u2]++tl 78 g)∧Y.2.1=h) (R:=fun _=>False)
  (fun m Y=>∃ j:Nat,j≤k % 16∧m=k % 16-j∧(∃ g,Y.1=[a,.int .i64 (k:Nat),undef,undef,Zm,.bool false,.bool e,.int .i64 b,.int .i64 u,.int .u32 ((2^j:Nat):Int),.int .i64 (j:Nat)]++tl 78 g)∧Y.2.1=h) ?_ (n:=k % 16) ⟨0,by omega,by omega,⟨g,rfl⟩,rfl⟩
 rintro m ⟨t,h',s⟩ ⟨j,hj,hm,⟨g,ht⟩,hh⟩;simp only at ht hh;subst ht hh;by_cases hlt:j<k % 16
 ·refine (Zb (Zg Zd Zw) (Z34 a k b u j _ e h' g) (Zi (by rw[em];exact Xa (by omega)) (Zt rfl))).mono fun ex w hw=> ?_;obtain⟨rfl,⟨g',z1⟩,z2⟩:=hw;have hp:2^j≤32768:=by
   have:=Nat.pow_le_pow_right (show 0<2 by omega) (show j≤15 by omega);omega
  have e1:u32.wrap (2*((2^j:Nat):Int))=((2^(j+1):Nat):Int):=by
   rw[Nat.pow_succ];generalize 2^j=Q at hp ⊢;rw[zn (by omega) (by omega)];omega
  have e2:i64.wrap ((j:Int)+1)=((j+1:Nat):Int):=by rw[Zv (by omega) (by omega)];omega
  exact⟨k % 16-(j+1),by omega,j+1,by omega,rfl,⟨g',by rw[z1,e1,e2]⟩,z2⟩
 ·have hj':j=k % 16:=by omega
  subst hj';refine (Zb (Zg Zd Zw) (Z35 a k b u _ _ e h' g) (Zi (by rw[em];exact Xb (by omega)) (Zt rfl))).mono fun ex w hw=> ?_;obtain⟨rfl,⟨g',z1⟩,z2⟩:=hw;exact⟨rfl,⟨g',_,z1⟩,z2⟩
def Fst (l:List Value) (o c:Nat) (A:List Int):Prop:=∀ h:Hp,h.blk? 0=some (l,tR)→zP h (some ⟨0,o,none⟩) A.length c=true∧Zn h (some ⟨0,o,none⟩) A.length=A
def dwV (A:List Int) (P R i:Nat):Nat:=dgN A i/P+dgN A (i+1) % P*R
def rSt (l:List Value) (o c:Nat) (A:List Int) (k b u u2:Int) (e:Bool) (P j i:Nat) (O:List Int) (Y:Lf):Prop:=
 (j=0∧(∃ g,Y.1=[sl 0 o A.length c,.int .i64 k,undef,undef,Zm,.bool false,.bool e,.int .i64 b,.int .i64 u,.int .u32 (P:Nat),.int .i64 u2,Zm,.int .i64 (i:Nat)]++tl 76 g)∧Y.2.1=⟨1,[(l,tR)]⟩)∨
 (0<j∧(∃ g,Y.1=[sl 0 o A.length c,.int .i64 k,undef,undef,Zm,.bool false,.bool e,.int .i64 b,.int .i64 u,.int .u32 (P:Nat),.int .i64 u2,sl 1 0 j grown,.int .i64 (i:Nat)]++tl 76 g)∧Y.2.1=⟨2,[(wU O,tU),(l,tR)]⟩)
theorem Zk6 (hR:Row l o A) (hF:Fst l o c A) (hs:∀ v∈l,still v=true) (hA:∀ x∈A,Dg 65536 x) (hn:A.length+2<1073741824) {k b u u2:Int}{e:Bool}{P R j i:Nat}{O:List Int}(hP:0<P) (hPR:P*R=65536) (hO:O.length=j) (hj:j≤i) (hi:i<A.length) {Y:Lf}(hY:rSt l o c A k b u u2 e P j i O Y):
  RunsW (Zk prog Zf Zo hcV) (rL3 f159) Y fun ex W=>ex=none∧(∃ g,W.1=[sl 0 o A.length c,.int .i64 k,undef,undef,Zm,.bool false,.bool e,.int .i64 b,.int .i64 u,.int .u32 (P:Nat),.int .i64 u2,sl 1 0 (j+1) grown,.int .i64 ((i+1:Nat):Int)]++tl 76 g)∧W.2.1=⟨2,[(wU (O++[((dwV A P R i:Nat):Int)]),tU),(l,tR)]⟩:=by
 obtain⟨t,h',s⟩:=Y;have hd:=z6 hA i;have hd1:=z6 hA (i+1);have hPb:P≤65536:=by
  rcases Nat.eq_zero_or_pos R with h0 | h0
  ·rw[h0] at hPR;omega
  ·have:=Nat.mul_le_mul_left P h0;omega
 have hRb:R≤65536:=by
  have:=Nat.mul_le_mul_right R hP;omega
 have e3:i64.wrap ((i:Int)+1)=((i+1:Nat):Int):=by rw[Zv (by omega) (by omega)];omega
 have ne0:decide ((P:Int)=0)=false:=Xb (by omega);have hdiv:dgN A i/P≤dgN A i:=Nat.div_le_self _ _;have eq1:u32.wrap ((A.getD i 0).tdiv (P:Int))=((dgN A i/P:Nat):Int):=by
  rw[← hd.2,Int.tdiv_eq_ediv_of_nonneg (by omega),show ((dgN A i:Nat):Int)/(P:Int)=((dgN A i/P:Nat):Int) from rfl];generalize dgN A i/P=y at hdiv ⊢;exact zn (by omega) (by omega)
 have eq2:u32.wrap (Int.tdiv 65536 (P:Int))=(R:Int):=by
  have:65536/P=R:=by rw[← hPR,Nat.mul_div_cancel_left _ hP]
  rw[Int.tdiv_eq_ediv_of_nonneg (by omega),show (65536:Int)/(P:Int)=((65536/P:Nat):Int) from rfl,this];exact zn (by omega) (by omega)
 have hlt:=Zm8 (x1:=dgN A (i+1)) hP hPR hd.1;have hdw:∀ h:Hp,h.blk? 0=some (l,tR)→dwn h o A.length i P ((dgN A i/P:Nat):Int) R=((dwV A P R i:Nat):Int):=fun h hh=>by
  unfold dwn dwV;rw[(hF h hh).2,e3,Zam,← hd1.2,Int.tmod_eq_emod_of_nonneg (by omega),show ((dgN A (i+1):Nat):Int) % (P:Int)=((dgN A (i+1) % P:Nat):Int) from rfl,show ((dgN A (i+1) % P:Nat):Int)*(R:Int)=((dgN A (i+1) % P*R:Nat):Int) from by simp];generalize dgN A i/P=y1 at hlt ⊢;generalize dgN A (i+1) % P*R=y2 at hlt ⊢;rw[zn (n:=(y2:Int)) (by omega) (by omega),zn (by omega) (by omega)];omega
 have hlog:∀ h:Hp,h.blk? 0=some (l,tR)→Zx (lDw h l o A.length c i P (A.getD i 0) ((dgN A i/P:Nat):Int) R):=fun h hh=>Zi ne0 (Zi (hF h hh).1 (Zi ne0 (Zi (Xa eq2) (Zi ne0 (Zi (Xa eq1) (Zi (by
  show Z4 (l[o+(i:Int).toNat*1]?) _=true;rw[Xg,Nat.mul_one,hR.cell hi];simp [Z4]) (Zi (Xa (by omega)) (Zt (Xa (by omega))))))))))
 have key:∀ {h:Hp}{bb:Nat},1≤bb→h.blk? 0=some (l,tR)→h.blk? bb=some (wU (O++[((dwV A P R i:Nat):Int)]),tU)→RunsW (Zk prog Zf Zo hcV) (rL3 f159) (t,h',s) (fun ex W=>ex=none∧(∃ g,W.1=[sl 0 o A.length c,.int .i64 k,undef,undef,Zm,.bool false,.bool e,.int .i64 b,.int .i64 u,.int .u32 (P:Nat),.int .i64 u2,sl bb 0 (j+1) grown,.int .i64 ((i+1:Nat):Int)]++tl 76 g)∧W.2.1=h)→
   RunsW (Zk prog Zf Zo hcV) (rL3 f159) (t,h',s) fun ex W=>ex=none∧(∃ g,W.1=[sl 0 o A.length c,.int .i64 k,undef,undef,Zm,.bool false,.bool e,.int .i64 b,.int .i64 u,.int .u32 (P:Nat),.int .i64 u2,sl 1 0 (j+1) grown,.int .i64 ((i+1:Nat):Int)]++tl 76 g)∧W.2.1=⟨2,[(wU (O++[((dwV A P R i:Nat):Int)]),tU),(l,tR)]⟩:=fun {h bb} hb h0 hB fin=>
  fin.kept (k:=1) (b:=bb) (base:=[(l,tR)]) (y:=(wU (O++[((dwV A P R i:Nat):Int)]),tU)) (front':=[sl 0 o A.length c,.int .i64 k,undef,undef,Zm,.bool false,.bool e,.int .i64 b,.int .i64 u,.int .u32 (P:Nat),.int .i64 u2,sl 1 0 (j+1) grown,.int .i64 ((i+1:Nat):Int)]) rfl
   (by kernel_rfl) (fun j x hx=>by
    obtain⟨rfl,rfl⟩:=Zhd hx;exact⟨h0,hs⟩) hB hb (ZF _) (fun v hv=>by
    simp only[List.mem_cons,List.not_mem_nil,or_false] at hv;rcases hv with rfl | rfl | rfl | rfl | rfl | rfl | rfl | rfl | rfl | rfl | rfl | rfl | rfl<;>rfl)
 rcases hY with ⟨h0,⟨g,ht⟩,hh⟩ | ⟨h0,⟨g,ht⟩,hh⟩
 ·simp only at ht hh;subst ht hh;have hO0:O=[]:=List.length_eq_zero_iff.1 (by omega);subst hO0;subst h0;have fin:=Zc (Zg Zd Zw) (s0:=s) (Zy1 o A.length c k b u u2 i P (A.getD i 0) ((dgN A i/P:Nat):Int) R e l g) (hlog _ rfl);rw[e3,hdw _ rfl] at fin;exact key (bb:=2) (by omega) rfl rfl fin
 ·simp only at ht hh;subst ht hh;have hchk:zK tU (wU O,tU) ([.int .u32 ((dwV A P R i:Nat):Int)],tU) j 0 1=true:=
   Zbc (L:=O) (M:=[((dwV A P R i:Nat):Int)]) hO.symm (show 0<1 by omega) (by show O.length+1≤_;omega)
  have ew:wU O++[.int .u32 ((dwV A P R i:Nat):Int)]=wU (O++[((dwV A P R i:Nat):Int)]):=by rw[ZY];rfl
  have fin:=Zc (Zg Zd Zw) (s0:=s) (Zy2 o A.length c j k b u u2 i P (A.getD i 0) ((dgN A i/P:Nat):Int) R e l (wU O) g) (Zi (by rw[hdw _ rfl];exact hchk) (hlog _ rfl));rw[e3,hdw _ rfl,ew] at fin;exact key (bb:=3) (by omega) rfl rfl fin
def Z8s (l:List Value) (o c:Nat) (A:List Int) (k b u u2:Int) (e:Bool) (P z:Nat) (Y:Lf):Prop:=
 ∃ O:List Int,O.length=A.length-z∧(∀ x∈O,Dg 65536 x)∧vb 65536 O*P+dgN A z % P=vb 65536 (A.drop z)∧rSt l o c A k b u u2 e P (A.length-z) A.length O Y
def ZAk (l:List Value) (o c:Nat) (A:List Int) (k b u u2:Int) (e:Bool) (P z:Nat) (m:Nat) (Y:Lf):Prop:=
 ∃ (i:Nat) (O:List Int),m=A.length-i∧z≤i∧i≤A.length∧O.length=i-z∧(∀ x∈O,Dg 65536 x)∧vb 65536 O*P+dgN A z % P=vb 65536 ((A.drop z).take (i-z))+65536^(i-z)*(dgN A i % P)∧rSt l o c A k b u u2 e P (i-z) i O Y
theorem ZoZ (A:List Int) (z j:Nat):(A.drop z).getD j 0=A.getD (z+j) 0:=by simp [List.getD,List.getElem?_drop]
theorem Zk7 (hR:Row l o A) (hF:Fst l o c A) (hs:∀ v∈l,still v=true) (hA:∀ x∈A,Dg 65536 x) (hn:A.length+2<1073741824) {k b u u2:Int}{e:Bool}{P R z:Nat}(hP:0<P) (hPR:P*R=65536) (hz:z≤A.length) (g:Nat→Value):
  RunsW (Zk prog Zf Zo hcV) (.block 4 (.loop (rL3 f159))) ([sl 0 o A.length c,.int .i64 k,undef,undef,Zm,.bool false,.bool e,.int .i64 b,.int .i64 u,.int .u32 (P:Nat),.int .i64 u2,Zm,.int .i64 (z:Nat)]++tl 76 g,⟨1,[(l,tR)]⟩,[]) fun ex Y=>match ex with | none=>Z8s l o c A k b u u2 e P z Y | some none=>False | some (some _)=>False:=by
 refine RunsW.forLoop (P:=Z8s l o c A k b u u2 e P z) (R:=fun _=>False) (ZAk l o c A k b u u2 e P z) ?_ (n:=A.length-z) ⟨z,[],rfl,Nat.le_refl _,hz,by simp,(fun x hx=>by cases hx),by simp [vb],.inl ⟨by omega,⟨g,rfl⟩,rfl⟩⟩;rintro m Y ⟨i,O,hm,hzi,hi,hO,hOd,hv,hY⟩;by_cases hlt:i<A.length
 ·refine (Zk6 hR hF hs hA hn hP hPR hO (by omega) hlt hY).mono fun ex W hW=> ?_;obtain⟨rfl,z1,z2⟩:=hW;have hd:=z6 hA i;have hl:=Zm8 (x1:=dgN A (i+1)) hP hPR hd.1;have ej:i+1-z=i-z+1:=by omega
  refine⟨A.length-(i+1),by omega,i+1,O++[((dwV A P R i:Nat):Int)],rfl,by omega,by omega,by rw[List.length_append,hO,ej];rfl,fun x hx=> ?_,?_,.inr ⟨by omega,by rw[ej];exact z1,z2⟩⟩
  ·rcases List.mem_append.1 hx with hx | hx
   ·exact hOd x hx
   ·rw[List.mem_singleton.1 hx];unfold dwV;exact⟨Int.natCast_nonneg _,Int.ofNat_lt.2 hl⟩
  ·have h1:=Zm7 (x1:=dgN A (i+1)) hPR hO hv;have h2:vb 65536 ((A.drop z).take (i-z+1))=vb 65536 ((A.drop z).take (i-z))+65536^(i-z)*dgN A i:=by
    rw[Za1,ZoZ,show z+(i-z)=i by omega];rfl
   rw[ej,h2];exact h1
 ·have hil:i=A.length:=by omega
  subst hil;have hz0:dgN A A.length=0:=by unfold dgN;simp [List.getD]
  rw[List.take_of_length_le (by simp),hz0] at hv;simp only[Nat.zero_mod,Nat.mul_zero,Nat.add_zero] at hv;obtain⟨t,h',s⟩:=Y;rcases hY with ⟨h0,⟨g,ht⟩,hh⟩ | ⟨h0,⟨g,ht⟩,hh⟩
  ·simp only at ht hh;subst ht hh;refine (Zc (Zg Zd Zw) (Zu0 _ _ _ _ _ _ _ _ _ _ _ _ g) (Zt (Xb (by omega)))).mono fun ex W hW=> ?_;obtain⟨rfl,⟨g',z1⟩,z2⟩:=hW;exact⟨rfl,O,hO,hOd,hv,.inl ⟨h0,⟨g',z1⟩,z2⟩⟩
  ·simp only at ht hh;subst ht hh;refine (Zc (Zg Zd Zw) (Zu0 _ _ _ _ _ _ _ _ _ _ _ _ g) (Zt (Xb (by omega)))).mono fun ex W hW=> ?_;obtain⟨rfl,⟨g',z1⟩,z2⟩:=hW;exact⟨rfl,O,hO,hOd,hv,.inr ⟨h0,⟨g',z1⟩,z2⟩⟩
end
end Go.Proofs.YtgefjidphfdhdaaGreatDoor
namespace Go.Proofs.YtgefjidphfdhdaaGreatDoor
open Go.Proofs.Tryz
open Go.KRun Go.Nt
set_option maxRecDepth 100000
def Zy4 (F:Func):Code:=zg (rPr F) (.seq (.seq (rR5 F) (.block 0 (.loop (rL1 F)))) (.seq (rIf F) (.seq (Z8o F) (.seq (.seq (Z8p F) (.block 2 (.loop (rL2 F)))) (.seq (Z5t F) (.seq (Z8q F) (.seq (.seq (Z8r F) (.block 4 (.loop (rL3 F)))) (rEn F))))))))
section
variable {l : List Value} {o c : Nat} {A : List Int}
theorem Zfj (hR:Row l o A) (hA:∀ x∈A,Dg 65536 x) (hn:A.length+2<1073741824) {k:Nat}(hk0:0<k) (hk:k<4611686018427387904) {P:Ex→Lf→Prop}{rest:Code}
  (h:∀ (g:Nat→Value) (u:Int),RunsW (Zk prog Zf Zo hcV) rest ([sl 0 o A.length c,.int .i64 (k:Nat),undef,undef,Zm,.bool false,.bool (decide (vb 65536 (A.take (k/16))≠0)),.int .i64 ((k/16:Nat):Int),.int .i64 u]++tl 80 g,⟨1,[(l,tR)]⟩,[]) P):
  RunsW (Zk prog Zf Zo hcV) (zg (rPr f159) (.seq (.seq (rR5 f159) (.block 0 (.loop (rL1 f159)))) rest)) ([sl 0 o A.length c,.int .i64 (k:Nat)]++List.replicate 87 undef,⟨1,[(l,tR)]⟩,[]) P:=by
 have ek:k16 (k:Int)=((k/16:Nat):Int):=by unfold k16;rw[Int.tdiv_eq_ediv_of_nonneg (by omega),Zv (by omega) (by omega)];omega
 refine Zz (Zg Zd Zw) (Zyo _ A.length c k _) (Zt (Xb (by omega))) fun g=> ?_;rw[ek];refine Zg6 (Zc (Zg Zd Zw) (Z33 _ k _ _ g) (fun x hx=>by cases hx)) (fun e y he=>by cases he.1) (P2:=fun e Y=>match e with | none=>(∃ g u,Y.1=[sl 0 o A.length c,.int .i64 (k:Nat),undef,undef,Zm,.bool false,.bool (decide (vb 65536 (A.take (k/16))≠0)),.int .i64 ((k/16:Nat):Int),.int .i64 u]++tl 80 g)∧Y.2.1=⟨1,[(l,tR)]⟩ | some none=>False | some (some _)=>False) ?_ (fun e y he=>by match e,he with | none,he=>exact he | some id,he=>exact he) ?_
 ·rintro⟨t,h',s⟩ ⟨_,⟨g',ht⟩,hh⟩;simp only at ht hh;subst ht hh;exact RunsW.script (Zk4 hR hA (by omega) _ (by omega) g').w
 ·rintro⟨t,h',s⟩ ⟨⟨g',u,ht⟩,hh⟩;simp only at ht hh;subst ht hh;exact RunsW.script (h g' u)
theorem Zk8 (hR:Row l o A) (hA:∀ x∈A,Dg 65536 x) (hn:A.length+2<1073741824) {k:Nat}(hk0:0<k) (hk:k<4611686018427387904) (hz:A.length≤k/16):
  RunsW (Zk prog Zf Zo hcV) (Zy4 f159) ([sl 0 o A.length c,.int .i64 (k:Nat)]++List.replicate 87 undef,⟨1,[(l,tR)]⟩,[]) fun e z=>(e=none∨e=some none)∧ZW prog f159 z.1 z.2.1=some (.tuple #[Zm,.bool (decide (vb 65536 A % 2^k≠0))]):=by
 have el:decide (vb 65536 (A.take (k/16))≠0)=decide (vb 65536 A % 2^k≠0):=by
  congr 1;have h1:=Go.Nt.lost_iff hA k;have h2:dgS A (k/16)=0:=by unfold dgS;simp [List.getD,List.getElem?_eq_none hz]
  rw[h2,Nat.zero_mod] at h1;simp only[ne_eq,not_true_eq_false,or_false] at h1;simp only[ne_eq,eq_iff_iff];exact h1.symm
 refine Zfj hR hA hn hk0 hk fun g u=> ?_;refine RunsW.seq (P1:=fun e Y=>e=some none∧(∃ g,Y.1=[sl 0 o A.length c,.int .i64 (k:Nat),undef,undef,Zm,.bool (decide (vb 65536 (A.take (k/16))≠0))]++tl 83 g)∧Y.2.1=⟨1,[(l,tR)]⟩) (Zc (Zg Zd Zw) (Zyt _ A.length c k _ u _ _ g) (Zt (Xa (by omega)))) (fun y he=>by cases he.1) (fun e y he=> ?_);obtain⟨he,⟨g',z1⟩,z2⟩:=he;refine⟨.inr he,?_⟩;rw[z1,z2,el];rfl
theorem Zpa (hR:Row l o A) (hF:Fst l o c A) (hs:∀ v∈l,still v=true) (hA:∀ x∈A,Dg 65536 x) (hn:A.length+2<1073741824) {k:Nat}(hk0:0<k) (hk:k<4611686018427387904) (hz:k/16<A.length) {V:Nat}(hV:V=vb 65536 A/2^k):
  RunsW (Zk prog Zf Zo hcV) (Zy4 f159) ([sl 0 o A.length c,.int .i64 (k:Nat)]++List.replicate 87 undef,⟨1,[(l,tR)]⟩,[]) fun e z=>(e=none∨e=some none)∧ZW prog f159 z.1 z.2.1=some (.tuple #[sl 1 0 (d16 V).length (d16 V).length,.bool (decide (vb 65536 A % 2^k≠0))])∧∃ r,z.2.1.blk? 1=some (wU (d16 V)++r,tU):=by
 have hP0:0<2^(k % 16):=Nat.pow_pos (by omega);have hPR:=ZhA (s:=k % 16) (by omega);have hPb:2^(k % 16)≤32768:=by
  have:=Nat.pow_le_pow_right (show 0<2 by omega) (show k % 16≤15 by omega);omega
 have hd:=z6 hA (k/16);have hl:=Go.Nt.lost_iff hA k;refine Zfj hR hA hn hk0 hk fun g u=> ?_;refine RunsW.seq (P1:=fun e Y=>e=none∧(∃ g,Y.1=[sl 0 o A.length c,.int .i64 (k:Nat),undef,undef,Zm,.bool false,.bool (decide (vb 65536 (A.take (k/16))≠0)),.int .i64 ((k/16:Nat):Int),.int .i64 u]++tl 80 g)∧Y.2.1=⟨1,[(l,tR)]⟩) (Zc (Zg Zd Zw) (Zyu _ A.length c k _ u _ _ g) (Zt (Xb (by omega)))) ?_ (fun e y he=>by cases he.1);rintro⟨t,h',s⟩ ⟨_,⟨g,ht⟩,hh⟩;simp only at ht hh;subst ht hh;refine RunsW.seq (P1:=fun e Y=>e=none∧(∃ g,Y.1=[sl 0 o A.length c,.int .i64 (k:Nat),undef,undef,Zm,.bool false,.bool (decide (vb 65536 (A.take (k/16))≠0)),.int .i64 ((k/16:Nat):Int),.int .i64 u,.int .u32 1]++tl 79 g)∧Y.2.1=⟨1,[(l,tR)]⟩) (Zc (Zg Zd Zw) (Zyv _ k _ u _ _ g) (fun x hx=>by cases hx)) ?_ (fun e y he=>by cases he.1);rintro⟨t,h',s⟩ ⟨_,⟨g,ht⟩,hh⟩;simp only at ht hh;subst ht hh;refine Zg6 (Zc (Zg Zd Zw) (Zyw _ k _ u _ _ g) (fun x hx=>by cases hx)) (fun e y he=>by cases he.1) (P2:=fun e Y=>match e with | none=>(∃ g u2,Y.1=[sl 0 o A.length c,.int .i64 (k:Nat),undef,undef,Zm,.bool false,.bool (decide (vb 65536 (A.take (k/16))≠0)),.int .i64 ((k/16:Nat):Int),.int .i64 u,.int .u32 ((2^(k % 16):Nat):Int),.int .i64 u2]++tl 78 g)∧Y.2.1=⟨1,[(l,tR)]⟩ | some none=>False | some (some _)=>False) ?_ (fun e y he=>by match e,he with | none,he=>exact he | some id,he=>exact he) ?_
 ·rintro⟨t,h',s⟩ ⟨_,⟨g',ht⟩,hh⟩;simp only at ht hh;subst ht hh;exact RunsW.script (Zk5 _ k _ u _ _ g').w
 rintro⟨t,h',s⟩ ⟨⟨g,u2,ht⟩,hh⟩;simp only at ht hh;subst ht hh;refine RunsW.seq (P1:=fun e Y=>e=none∧(∃ g,Y.1=[sl 0 o A.length c,.int .i64 (k:Nat),undef,undef,Zm,.bool false,.bool (decide (vb 65536 A % 2^k≠0)),.int .i64 ((k/16:Nat):Int),.int .i64 u,.int .u32 ((2^(k % 16):Nat):Int),.int .i64 u2]++tl 78 g)∧Y.2.1=⟨1,[(l,tR)]⟩) ?_ ?_ (fun e y he=>by cases he.1)
 ·by_cases h0:vb 65536 (A.take (k/16))=0
  ·rw[Xb (show ¬ (vb 65536 (A.take (k/16))≠0) by omega)];have ev:(((A.getD (k/16) 0)).tmod ((2^(k % 16):Nat):Int) !=0)=decide (vb 65536 A % 2^k≠0):=by
    rw[← hd.2,Int.tmod_eq_emod_of_nonneg (by omega),show ((dgN A (k/16):Nat):Int) % ((2^(k % 16):Nat):Int)=((dgN A (k/16) % 2^(k % 16):Nat):Int) from rfl,Bool.eq_iff_iff];rw[h0] at hl;simp only[ne_eq,not_true_eq_false,false_or] at hl;simp only[bne_iff_ne,ne_eq,Xi,hl,Zuz];omega
   refine (Zc (Zg Zd Zw) (Zyy o A.length c k ((k/16:Nat):Int) u u2 ((2^(k % 16):Nat):Int) (A.getD (k/16) 0) l (decide (vb 65536 A % 2^k≠0)) g) (Zi ev (Zi (Xb (by omega)) (Zi (by rw[Xg,Nat.mul_one,hR.cell hz];simp [Z4]) (Zt (Xa (by omega))))))).mono fun e w hw=>hw
  ·rw[Xa h0,Xa (hl.2 (.inl h0))];exact Zc (Zg Zd Zw) (Zyx _ k _ u u2 _ _ g) (fun x hx=>by cases hx)
 rintro⟨t,h',s⟩ ⟨_,⟨g,ht⟩,hh⟩;simp only at ht hh;subst ht hh;refine RunsW.seq (P1:=fun e Y=>e=none∧(∃ g,Y.1=[sl 0 o A.length c,.int .i64 (k:Nat),undef,undef,Zm,.bool false,.bool (decide (vb 65536 A % 2^k≠0)),.int .i64 ((k/16:Nat):Int),.int .i64 u,.int .u32 ((2^(k % 16):Nat):Int),.int .i64 u2,Zm]++tl 77 g)∧Y.2.1=⟨1,[(l,tR)]⟩) (Zc (Zg Zd Zw) (Zyz _ k _ u u2 _ _ _ g) (fun x hx=>by cases hx)) ?_ (fun e y he=>by cases he.1);rintro⟨t,h',s⟩ ⟨_,⟨g,ht⟩,hh⟩;simp only at ht hh;subst ht hh;refine Zg6 (Zc (Zg Zd Zw) (Zy0 _ k _ u u2 _ _ _ g) (fun x hx=>by cases hx)) (fun e y he=>by cases he.1) (P2:=fun e Y=>match e with | none=>Z8s l o c A k ((k/16:Nat):Int) u u2 (decide (vb 65536 A % 2^k≠0)) (2^(k % 16)) (k/16) Y | some none=>False | some (some _)=>False) ?_ (fun e y he=>by match e,he with | none,he=>exact he | some id,he=>exact he) ?_
 ·rintro⟨t,h',s⟩ ⟨_,⟨g',ht⟩,hh⟩;simp only at ht hh;subst ht hh;exact RunsW.script (Zk7 hR hF hs hA hn hP0 hPR (by omega) g')
 rintro⟨t,h',s⟩ ⟨O,hO,hOd,hv,hY⟩;rcases hY with ⟨e0,_⟩ | ⟨_,⟨g',ht⟩,hh⟩
 ·omega
 ·simp only at ht hh;subst ht hh;have hval:vb 65536 O=V:=by rw[hV];exact Zrg hA hv
  have hrow:ZaX tU (wU O) 0 (A.length-k/16) grown=true:=by
   rw[← hO];exact Zal (fun x hx=>⟨(hOd x hx).1,by have:=(hOd x hx).2;omega⟩) (by omega) (Zzu _)
  refine (Zc (Zg Zd Zw) (Zy3 _ k _ u u2 _ _ _ (A.length-k/16) (l,tR) (wU O) g') (Zt hrow)).mono fun e z he=> ?_;obtain⟨rfl,⟨g2,e1⟩,e2⟩:=he;have et:Zj (Zy (wU O) 0 (A.length-k/16))=(d16 V).length:=by
   rw[← hO,ZaR,Zas (by omega) hOd,hval];rfl
  refine⟨.inr rfl,?_,?_⟩
  ·rw[e1,e2,et];rfl
  ·rw[e2];refine⟨wU (O.drop (Zj O)),?_⟩;have e3:wU (d16 V)++wU (O.drop (Zj O))=wU O:=by
    unfold d16;rw[← hval,← zf (by omega) _ hOd,← ZY,List.take_append_drop]
   rw[e3];rfl
end
theorem Zfk:f159.body=some (Zy4 f159):=ZoW
theorem Zjv {ty:TypeId}{l:List Value}{o n c:Nat}(r:ZaX ty l o n c=true) (hs:∀ v∈l,still v=true):Fst l o c (Zy l o n):=by
 intro h hb;have hlen:=(zu r).2.1;rw[hlen];constructor
 ·simp only[zP,hb,Xh];refine⟨?_,List.all_eq_true.2 hs⟩;unfold ZaX at r ⊢;simp only[Xh,Bool.not_eq_true'] at r ⊢;obtain⟨⟨⟨⟨⟨⟨_,_⟩,p3⟩,p4⟩,p5⟩,p6⟩,p7⟩:=r;exact⟨⟨⟨⟨⟨⟨Zbl,by kernel_rfl⟩,p3⟩,p4⟩,p5⟩,p6⟩,p7⟩
 ·simp [Zn,hb]
def ZeA (h:Hp) (p:Option Addr) (n c:Nat) (k:Int):Bool:=zP h p n c && dgB (Zn h p n) && Nat.blt (n+2) 1073741824 && decide (0<k∧k<4611686018427387904)
def Zy5:Zab:=fun vals h s=>
 match vals,s with
 | [.slice p n c,.int .i64 k],.inr (.inr (.inr (.inl d))):: .inr (.inr (.inr (.inl e)))::s'=>
  match d with
  | true=>some (.tuple #[sl h.n 0 (d16 (vO h p n/2^k.toNat)).length (d16 (vO h p n/2^k.toNat)).length,.bool e],h.push (wU (d16 (vO h p n/2^k.toNat))) tU,s',[(decide (vO h p n % 2^k.toNat≠0),e),(decide (k.toNat/16<n),true),(ZeA h p n c k,true)])
  | false=>some (.tuple #[Zm,.bool e],h,s',[(decide (vO h p n % 2^k.toNat≠0),e),(decide (k.toNat/16<n),false),(ZeA h p n c k,true)])
 | _,_=>none
theorem ZsH:Z7 159 Zy5:=by
 intro vals h s v h' s' lg hg hl m B w E hv;unfold Zy5 at hg;split at hg
 ·rename_i p n c k d e s2;split at hg
  ·cases hg;have l1:=hl _ (Xe);have l2:=hl _ (Xd _ (Xe));have l3:=hl _ (Xd _ (Xd _ Xf));simp only at l1 l2 l3;simp only[ZeA,Xh,Xi] at l2 l3;obtain⟨⟨⟨q1,q2⟩,q3⟩,q4⟩:=l3;have q2:=Zby q2;have q3:=Zl.1 q3;obtain⟨K,rfl⟩:=Int.eq_ofNat_of_zero_le (show 0≤k by omega);rw[Xg] at l1 l2 ⊢;rcases ZG q1 with ⟨rfl,rfl,rfl,e0⟩ | ⟨b,o,x,rfl,hx,r1,rs,e0⟩
   ·omega
   ·rw[e0] at q2;obtain⟨h1,h2,h3,h4,h5,h6,h7⟩:=zu r1;have ev:vO h (some ⟨b,o,none⟩) n=vb 65536 (Zy x.1 o n):=by unfold vO;rw[e0]
    have r:=Zpa h1 (Zjv r1 rs) rs q2 (by rw[h2];exact q3) (k:=K) (by omega) (by omega) (by rw[h2];exact l2) rfl;rw[h2,← ev,l1] at r;have e2:∀ L:Nat,rn (fun _=>h.n) (.tuple #[sl 1 0 L L,.bool e])= .tuple #[sl h.n 0 L L,.bool e]:=fun L=>by simp [rn,rn2,rn1,sl]
    have fin:=ZK (T:=Zk prog Zf Zo hcV) func159 Zfk (Za4 h7) (vals:=[sl 0 o n c,.int .i64 (K:Nat)]) (fun v hv=>by
     simp only[List.mem_cons,List.not_mem_nil,or_false] at hv;rcases hv with rfl | rfl<;>rfl) (k:=1) (cs:=wU (d16 (vO h (some ⟨b,o,none⟩) n/2^K))) (ty:=tU) (Zbn _) (by kernel_rfl) r (by rfl) E (s:=fun _=>b) (zE hx h5 h6 rfl)
    rw[e2] at fin;exact fin
  ·cases hg;have l1:=hl _ (Xe);have l2:=hl _ (Xd _ (Xe));have l3:=hl _ (Xd _ (Xd _ Xf));simp only at l1 l2 l3;simp only[ZeA,Xh,Xi,decide_eq_false_iff_not] at l2 l3;obtain⟨⟨⟨q1,q2⟩,q3⟩,q4⟩:=l3;have q2:=Zby q2;have q3:=Zl.1 q3;obtain⟨K,rfl⟩:=Int.eq_ofNat_of_zero_le (show 0≤k by omega);rw[Xg] at l1 l2;by_cases hn:n=0
   ·subst hn;have hlen:=zV q1;have e0:Zn h p 0=[]:=List.length_eq_zero_iff.1 hlen;have ev:vO h p 0=0:=by unfold vO;rw[e0];rfl
    have ee:e=false:=by rw[← l1,ev];simp
    subst ee;obtain⟨x,p',a,NA,eA,fA⟩:=ZbM 0 q1;have ek:k16 (K:Int)=((K/16:Nat):Int):=by unfold k16;rw[Int.tdiv_eq_ediv_of_nonneg (by omega),Zv (by omega) (by omega)];omega
    have hr:Runs (Zk prog Zf Zo hcV) (Zs f159) ([.slice p' 0 c,.int .i64 (K:Nat)]++List.replicate 87 undef,⟨1,[x]⟩,[]) fun e z=>(e=none∨e=some none)∧ZW prog f159 z.1 z.2.1=some (.tuple #[Zm,.bool false]):=by
     by_cases hk:0<K/16
     ·refine (Zb (Zg Zd Zw) (ZoX p' c K _) (Zi (show decide (k16 (K:Int)≥((0:Nat):Int))=true by rw[ek];exact Xa (by omega)) (Zi rfl (Zi (show decide (0<k16 (K:Int))=true by rw[ek];exact Xa (by omega)) (Zt (Xb (by omega))))))).mono fun e z he=> ?_;obtain⟨rfl,⟨g,e2⟩,e3⟩:=he;refine⟨.inr rfl,?_⟩;rw[e2,e3];rfl
     ·refine (Zb (Zg Zd Zw) (Zk3 p' c K _) (Zi (show decide (k16 (K:Int)≥((0:Nat):Int))=true by rw[ek];exact Xa (by omega)) (Zi (show decide (0<k16 (K:Int))=false by rw[ek];exact Xb (by omega)) (Zt (Xb (by omega)))))).mono fun e z he=> ?_;obtain⟨rfl,⟨g,e2⟩,e3⟩:=he;refine⟨.inr rfl,?_⟩;rw[e2,e3];rfl
    have:=Z9 (T:=Zk prog Zf Zo hcV) func159 Zk2 (h0:=⟨1,[x]⟩) ⟨rfl,fun b z hz=>by obtain⟨_,rfl⟩:=Zhd hz;exact⟨NA.ros.1,NA.lt0,NA.ros.2⟩⟩ (vals:=[.slice p' 0 c,.int .i64 (K:Nat)]) (fun v hv=>by
     simp only[List.mem_cons,List.not_mem_nil,or_false] at hv;rcases hv with rfl | rfl
     ·exact NA.lt (by show 0<1;omega)
     ·rfl) (by rfl) hr.w E (s:=fun _=>a) (fun i z hz ht=>by obtain⟨_,rfl⟩:=Zhd hz;exact fA ht)
    simp only[List.map_cons,List.map_nil] at this;rw[eA _ rfl] at this;exact this
   ·rcases ZG q1 with ⟨rfl,rfl,rfl,e0⟩ | ⟨b,o,x,rfl,hx,r1,rs,e0⟩
    ·exact absurd rfl hn
    ·rw[e0] at q2;obtain⟨h1,h2,h3,h4,h5,h6,h7⟩:=zu r1;have ev:vO h (some ⟨b,o,none⟩) n=vb 65536 (Zy x.1 o n):=by unfold vO;rw[e0]
     have r:=Zk8 (c:=c) h1 q2 (by rw[h2];exact q3) (k:=K) (by omega) (by omega) (by rw[h2];omega);rw[h2,← ev,l1] at r;exact Z9 (T:=Zk prog Zf Zo hcV) func159 Zfk (Za4 h7) (vals:=[sl 0 o n c,.int .i64 (K:Nat)]) (fun v hv=>by
      simp only[List.mem_cons,List.not_mem_nil,or_false] at hv;rcases hv with rfl | rfl<;>rfl) (by rfl) r E (s:=fun _=>b) (zE hx h5 h6 rfl)
 ·cases hg
def hcW:Hc:=zm 34 Z5s (zm 110 Zyi (zm 160 Zyn (zm 159 Zy5 (zm 36 ZqO (zm 33 Zqz (zm 71 Zq4 (zm 35 ZlU (zm 65 ZqC hcV))))))))
theorem ZM:HcOk hcW:=Zu func34 rfl ZoM (Zu func110 rfl ZsB (Zu func160 rfl ZsG (Zu func159 rfl ZsH (Zu func36 rfl Zf7 (Zu func33 rfl Zf3 (Zu func71 rfl Zi4 (Zu func35 rfl Zf4 (Zu func65 rfl Zi6 Zw))))))))
end Go.Proofs.YtgefjidphfdhdaaGreatDoor
namespace Go.Proofs.YtgefjidphfdhdaaGreatDoor
open Go.KRun Go.Nt
def bOf (m:Bool) (e:Int) (v:Value):List Value×TypeId:=([.bool m,.int .i64 e,v],56)
def sOf (b V:Nat):Value:=sl b 0 (d16 V).length (d16 V).length
def vRN (m:Bool) (e:Int) (v:Value):Value:= .agg #[.bool m,.int .i64 e,v]
end Go.Proofs.YtgefjidphfdhdaaGreatDoor
namespace Go.Proofs.YtgefjidphfdhdaaGreatDoor
open Go.KRun Go.Nt Go.Wd
set_option maxRecDepth 100000
def nxt (h:Hp) (V:Nat):Hp:=h.push (wU (d16 V)) tU
def ZcM:Bool×Bool:=(decide (0≤(1:Int)∧(1:Int)<18446744073709551616),true)
theorem zS:(d16 1).length=1:=by
 unfold d16;rw[Zbx (by omega) (by omega),show 1/65536=0 from rfl,zh];rfl
theorem Zjw {A:Nat}(h:¬ 0<(d16 A).length):A=0:=by
 have:d16 A=[]:=List.length_eq_zero_iff.1 (by omega);exact (Zc7 (by omega)).1 this
end Go.Proofs.YtgefjidphfdhdaaGreatDoor
