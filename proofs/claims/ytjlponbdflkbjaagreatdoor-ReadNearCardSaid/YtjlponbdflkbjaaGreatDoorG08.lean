/-
  ConNC, ConNB, ConND, NumTx, ConV4, ConV5
-/
import Derived.Test.YtjlponbdflkbjaaGreatDoorG06
import Derived.Test.YtjlponbdflkbjaaGreatDoorG07
import Derived.Laws.MathBits
namespace Go.Proofs.YtjlponbdflkbjaaGreatDoor.Na
open Go.Proofs.Tryz
open Go.IntKind
open Go.KRun Go.Nt
set_option maxRecDepth 100000
def upU (x k:Int):Int:=u32.wrap (x*2^min k.toNat 32)
def ZpB (x k l:Int):Int:=brr (upU x k) l
def ZpC (x k:Int):Int:=x.fdiv (2^min (i64.wrap (32-k)).toNat 32)
theorem Z88 {x l:Int}{k:Nat}(hx:0≤x∧x<4294967296) (hl:0≤l∧l<2^k) (hk:k<32):
  (0≤ZpB x k l∧ZpB x k l<4294967296)∧(0≤ZpC x k∧ZpC x k<2^k)∧x*2^k+l=ZpB x k l+4294967296*ZpC x k:=by
 have q1:(1:Int)≤2^k:=by have:(0:Int)<2^k:=Int.pow_pos (by omega);omega
 have r1:(1:Int)≤2^(32-k):=by have:(0:Int)<2^(32-k):=Int.pow_pos (by omega);omega
 obtain⟨u1,u2,u3,u4,u5⟩:=Zuv q1 r1 (ZdZ (by omega)) hx hl;have eL:ZpC x k=x/2^(32-k):=by
  unfold ZpC;rw[Zw (by omega) (by omega),show min ((32:Int)-(k:Nat)).toNat 32=32-k from by omega,Int.fdiv_eq_ediv_of_nonneg _ (by omega)]
 have eU:upU x k=2^k*(x % 2^(32-k)):=by
  unfold upU;rw[tN,show min k 32=k from by omega,ZgS,u1];omega
 have lo0:=Int.emod_nonneg x (show (2:Int)^(32-k)≠0 by omega);have eN:ZpB x k l=2^k*(x % 2^(32-k))+l:=by
  unfold ZpB brr;rw[eU,ZsO lo0 hl.1 hl.2 u3,ZgS];omega
 rw[eL,eN];omega
def mR0 (F:Func):List Code:=[Z2 (Zs F),Z2 (Zz (Zs F))]
def mL (F:Func):Code:=cIn (cIn (Zz (Zz (Zs F))))
theorem Zin:f119.body=some (ZW (mR0 f119) (.block 0 (.loop (mL f119)))):=by kernel_rfl
def mF (w k l i x s n j:Value):List Value:=[w,k,uZ,uZ,l,i,x,s,n,j]
def hU (S la:List Value):Hp:=⟨2,[(S,tU),(la,tR)]⟩
theorem Zl6 (b o n c:Nat) (k:Value) (h:Hp):Zg (evL (Zk prog Zf Zn true) 100 (mR0 f119) ([sl b o n c,k]++List.replicate 25 uZ,h,[]) ⟨[],[],[]⟩) 10 17 none (mF (sl b o n c) k (uu 0) uZ uZ (sl b o n c) (i6' n) (i6' 0)) h []:=by and_intros<;>kernel_rfl
theorem Zl7 (w k l i x s:Value) (n:Nat) (j:Int) (h:Hp) (g:Nat→Value):Zg (evC (Zk prog Zf Zn true) 100 false (mL f119) (mF w k l i x s (i6' n) (i6' j)++tl 17 g,h,[cmp false]) ⟨[],[],[]⟩) 10 17 (some (some 0)) (mF w k l i x s (i6' n) (i6' j)) h [(decide (j<n),false)]:=by and_intros<;>kernel_rfl
theorem ZzV (o n c:Nat) (k l j x:Int) (i0 x0:Value) (la S:List Value) (g:Nat→Value):Zg (evC (Zk prog Zf Zn true) 100 false (mL f119) (mF (sl 1 o n c) (i6' k) (uu l) i0 x0 (sl 1 o n c) (i6' n) (i6' j)++tl 17 g,hU S la,[cmp true,at_,val (uu x),at_,at_]) ⟨[],[],[]⟩) 10 17 none
  (mF (sl 1 o n c) (i6' k) (uu (ZpC x k)) (i6' j) (uu x) (sl 1 o n c) (i6' n) (i6' (i64.wrap (j+1)))) (hU (S.set (o+j.toNat*1) (uu (ZpB x k l))) la) [(decide (i64.wrap (32-k)<0),false),(decide (o+j.toNat*1<S.length),true),inR j n,(decide (k<0),false),Zdr S o j x,inR j n,(decide (j<n),true)]:=by and_intros<;>kernel_rfl
theorem Zl8 (w k l i x s n j:Value) (h:Hp) (g:Nat→Value):ZV prog f119 (mF w k l i x s n j++tl 17 g) h=some (.tuple #[]):=by kernel_rfl
def ZaB:List UInt8:=(List.range 256).map fun i=>UInt8.ofNat (bitLen i)
def Zea (z:Int):Int:=((ZaB.getD (u8.wrap z).toNat 0).toNat:Int)
def lt8 (z:Int):Bool×Bool:=(decide (0≤u8.wrap z∧(u8.wrap z).toNat<ZaB.length),true)
def shd (z:Int) (k:Nat):Int:=z.fdiv (2^k)
def geq (z k:Int) (d:Bool):Bool×Bool:=(decide (z≥k),d)
def Zfy (m z:Int):Value:= .int .i64 (i64.wrap (m+i64.wrap (Zea z)))
def nz:Bool×Bool:=(false,false)
theorem ZzW (u:Int):Z7 (Zm (Zk prog Zf Zn true) 3000 118 [uu u] [tst false,tst false]) (Zfy 0 u) [lt8 u,geq u 256 false,geq u 65536 false]:=by and_intros<;>kernel_rfl
theorem ZzX (u:Int):Z7 (Zm (Zk prog Zf Zn true) 3000 118 [uu u] [tst false,tst true]) (Zfy 8 (shd u 8)) [lt8 (shd u 8),nz,geq u 256 true,geq u 65536 false]:=by and_intros<;>kernel_rfl
theorem ZzY (u:Int):Z7 (Zm (Zk prog Zf Zn true) 3000 118 [uu u] [tst true,tst false]) (Zfy 16 (shd u 16)) [lt8 (shd u 16),geq (shd u 16) 256 false,nz,geq u 65536 true]:=by and_intros<;>kernel_rfl
theorem ZzZ (u:Int):Z7 (Zm (Zk prog Zf Zn true) 3000 118 [uu u] [tst true,tst true]) (Zfy 24 (shd (shd u 16) 8)) [lt8 (shd (shd u 16) 8),nz,geq (shd u 16) 256 true,nz,geq u 65536 true]:=by and_intros<;>kernel_rfl
theorem Zdc:ZaB.length=256:=by unfold ZaB;rw[List.length_map,List.length_range]
theorem Zdd (b:Nat) (h:b<256):(ZaB.getD b 0).toNat=bitLen b:=by
 have h1:ZaB.getD b 0=UInt8.ofNat (bitLen b):=by
  unfold ZaB;rw[List.getD,List.getElem?_map,List.getElem?_range h];rfl
 have h2:=bitLen_le8 b h;rw[h1,UInt8.toNat_ofNat'];omega
theorem Zhh {z:Int}(h0:0≤z) (h1:z<256):u8.wrap z=z:=by
 simp [IntKind.wrap,IntKind.bits,IntKind.signed];omega
theorem zV {m:Int}{Z:Nat}(hm:0≤m) (hm':m≤56) (h1:Z<256):Zfy m (Z:Int)= .int .i64 (m+bitLen Z)∧(lt8 (Z:Int)).1=(lt8 (Z:Int)).2:=by
 have hb:=bitLen_le8 Z h1;have e:=Zhh (z:=(Z:Int)) (by omega) (by omega);refine⟨?_,?_⟩
 ·unfold Zfy Zea;rw[e,tN,Zdd Z h1,Zw (n:=((bitLen Z:Nat):Int)) (by omega) (by omega),Zw (by omega) (by omega)]
 ·unfold lt8;rw[e,tN];rw[Zdc];exact dT (And.intro (by omega) h1)
theorem Zeb (Z k:Nat):shd (Z:Int) k=((Z/2^k:Nat):Int):=by
 unfold shd;rw[Int.fdiv_eq_ediv_of_nonneg _ (Int.le_of_lt (Int.pow_pos (by omega)))];simp
theorem Zl9 {z k:Int}(h:k≤z):(geq z k true).1=(geq z k true).2:=dT h
theorem Zfz {z k:Int}(h:z<k):(geq z k false).1=(geq z k false).2:=dF (by omega)
theorem Zbc:nz.1=nz.2:=rfl
theorem ZaC (x b:Nat) (h:2^b≤x):bitLen x=b+bitLen (x/2^b):=bitLen_shift x b (by
 have:0<x/2^b:=Nat.div_pos h (Nat.two_pow_pos b);omega)
def ZlA (u:Int):Value:= .int .i64 (bitLen u.toNat:Nat)
theorem Zhi (u:Int) (h0:0≤u) (h1:u<4294967296) (w:World):Calls prog 118 #[uu u] w fun e w'=>e= .returned (ZlA u)∧Zal w w':=by
 obtain⟨U,rfl⟩:=Int.eq_ofNat_of_zero_le h0;unfold ZlA;rw[tN];have p8:(2:Nat)^8=256:=rfl;have p16:(2:Nat)^16=65536:=rfl;have step:∀ {v:Value}{s:List Dec}{cs:Log},Z7 (Zm (Zk prog Zf Zn true) 3000 118 [uu (U:Int)] s) v cs→Z3 cs→v= .int .i64 (bitLen U:Nat)→Calls prog 118 #[uu (U:Int)] w fun e w'=>e= .returned (.int .i64 (bitLen U:Nat))∧Zal w w':=
  fun {v s cs} hf hc hv=>by subst hv;exact Zc (Zj Zd) hf hc (by rfl) (by rfl) w
 by_cases b:U<65536
 ·by_cases c:U<256
  ·obtain⟨e1,e2⟩:=zV (m:=0) (by omega) (by omega) c;exact step (ZzW U) (Zi e2 (Zi (Zfz (by omega)) (Zt (Zfz (by omega))))) (by rw[e1];congr 1;omega)
  ·have l:=ZaC U 8 (by omega);obtain⟨e1,e2⟩:=zV (m:=8) (Z:=U/2^8) (by omega) (by omega) (by omega);rw[← Zeb] at e1 e2;exact step (ZzX U) (Zi e2 (Zi Zbc (Zi (Zl9 (by omega)) (Zt (Zfz (by omega)))))) (by rw[e1];congr 1;omega)
 ·have l:=ZaC U 16 (by omega);by_cases c:U/2^16<256
  ·obtain⟨e1,e2⟩:=zV (m:=16) (Z:=U/2^16) (by omega) (by omega) c;rw[← Zeb] at e1 e2;exact step (ZzY U) (Zi e2 (Zi (Zfz (by rw[Zeb];omega)) (Zi Zbc (Zt (Zl9 (by omega)))))) (by rw[e1];congr 1;omega)
  ·have l2:=ZaC (U/2^16) 8 (by omega);obtain⟨e1,e2⟩:=zV (m:=24) (Z:=U/2^16/2^8) (by omega) (by omega) (by omega);rw[← Zeb,← Zeb] at e1 e2;exact step (ZzZ U) (Zi e2 (Zi Zbc (Zi (Zl9 (by rw[Zeb];omega)) (Zi Zbc (Zt (Zl9 (by omega))))))) (by rw[e1];congr 1;omega)
def ZlB:Ans:=fun vals s=>
 match vals with
 | [.int .u32 x]=>some (ZlA x,s,[(decide (0≤x∧x<4294967296),true)])
 | _=>none
theorem ZlC:ZR 118 ZlB:=by
 intro vals s v s' lg h hl w;unfold ZlB at h;split at h
 ·rename_i x;cases h;have hr:=hl _ mS;simp only[decide_eq_true_eq] at hr;exact Zhi x hr.1 hr.2 w
 ·cases h
def ZeV:Con:=alt 118 ZlB Zn
theorem ZaT:ConOk ZeV:=Z9 func118 rfl ZlC Zd
theorem ZlD:f79.body=some (Zs f79):=by kernel_rfl
theorem Z0a (p:Option Addr) (n c:Nat) (h:Hp):Zg (evC (Zr prog Zf ZeV hcK) 100 false (Zs f79) ([.slice p n c]++List.replicate 22 uZ,h,[cmp true]) ⟨[],[],[]⟩) 3 20 (some none) [.slice p n c,uZ,i6' 0] h [((n:Int)==0,true)]:=by and_intros<;>kernel_rfl
theorem ZpD (o n c:Nat) (l:List Value):Zg (evC (Zr prog Zf ZeV hcK) 100 false (Zs f79) ([sl 0 o n c]++List.replicate 22 uZ,⟨1,[(l,tR)]⟩,[cmp false,cmp true]) ⟨[],[],[]⟩) 3 20 (some none) [sl 0 o n c,uZ,i6' 0] ⟨1,[(l,tR)]⟩ [Zhg l o n c,(ZU (Zx l o n),true),((n:Int)==0,false)]:=by and_intros<;>kernel_rfl
theorem ZlE (o n c:Nat) (x:Int) (l:List Value):Zg (evC (Zr prog Zf ZeV hcK) 100 false (Zs f79) ([sl 0 o n c]++List.replicate 22 uZ,⟨1,[(l,tR)]⟩,[cmp false,cmp false,at_,val (uu x)]) ⟨[],[],[]⟩) 3 20 (some none) [sl 0 o n c,uZ,i6' (i64.wrap (i64.wrap (n1 n*32)+(bitLen x.toNat:Nat)))] ⟨1,[(l,tR)]⟩ [(decide (0≤x∧x<4294967296),true),(Z5 (l[o+(n1 n).toNat*1]?) (.int .u32 x),true),(decide (0≤n1 n∧n1 n<n),true),Zhg l o n c,(ZU (Zx l o n),false),((n:Int)==0,false)]:=by and_intros<;>kernel_rfl
def Zdy (L:List Int):Int:=match (L.length==0 || ZU L) with | true=>0 | false=>32*((L.length-1:Nat):Int)+(bitLen (L.getD (L.length-1) 0).toNat:Nat)
theorem Zec {x:Int}(h0:0≤x) (h1:x<4294967296):bitLen x.toNat≤32:=by
 by_cases h:65536≤x.toNat
 ·have p8:(2:Nat)^8=256:=rfl;have p16:(2:Nat)^16=65536:=rfl;have l:=ZaC x.toNat 16 (by omega);by_cases h2:256≤x.toNat/2^16
  ·have l2:=ZaC (x.toNat/2^16) 8 (by omega);have:=bitLen_le8 (x.toNat/2^16/2^8) (by omega);omega
  ·have:=bitLen_le8 (x.toNat/2^16) (by omega);omega
 ·have p8:(2:Nat)^8=256:=rfl;by_cases h2:256≤x.toNat
  ·have l2:=ZaC x.toNat 8 (by omega);have:=bitLen_le8 (x.toNat/2^8) (by omega);omega
  ·have:=bitLen_le8 x.toNat (by omega);omega
theorem ZlF {l:List Value}{o n c:Nat}(ha:Z6 tR l o n c=true):
  Runs (Zr prog Zf ZeV hcK) (Zs f79) ([sl 0 o n c]++List.replicate 22 uZ,⟨1,[(l,tR)]⟩,[]) fun e y=>(e=none∨e=some none)∧ZV prog f79 y.1 y.2.1=some (i6' (Zdy (Zx l o n))):=by
 obtain⟨a1,a2,a3,a4,a5,a6,a7⟩:=ZH ha;unfold Zdy;by_cases h0:n=0
 ·have e0:((Zx l o n).length==0)=true:=by rw[a2,h0];rfl
  rw[e0,Bool.true_or];refine (Zb (Zh ZaT ZeR) (Z0a (some ⟨0,o,none⟩) n c _) (Zt (by rw[h0];rfl))).mono fun e y he=> ?_;obtain⟨rfl,⟨g,e2⟩,e3⟩:=he;refine⟨.inr rfl,?_⟩;rw[e2,e3];rfl
 ·have e0:((Zx l o n).length==0)=false:=by rw[a2];simpa using h0
  have e1:((n:Int)==0)=false:=by simpa using h0
  rw[e0,Bool.false_or];cases hb:ZU (Zx l o n) with
  | true=>
   refine (Zb (Zh ZaT ZeR) (ZpD o n c l) (Zi ha (Zi hb (Zt e1)))).mono fun e y he=> ?_;obtain⟨rfl,⟨g,e2⟩,e3⟩:=he;refine⟨.inr rfl,?_⟩;rw[e2,e3];rfl
  | false=>
   have h8:n≤8192:=by
    unfold ZU at hb;simp only[Bool.or_eq_false_iff,decide_eq_false_iff_not,a2] at hb;omega
   have ek:n1 n=((n-1:Nat):Int):=by
    unfold n1;rw[Zw (by omega) (by omega)];omega
   rw[a2];have hx:=a1.rng ((Zx l o n).getD (n-1) 0) (by
    have hk':n-1<(Zx l o n).length:=by omega
    simp [List.getD,List.getElem?_eq_getElem hk'])
   have hc:=a1.cell (k:=n-1) (by omega);have b32:=Zec hx.1 hx.2;refine (Zb (Zh ZaT ZeR) (ZlE o n c ((Zx l o n).getD (n-1) 0) l) (Zi (dT hx) (Zi (by
    rw[ek,tN,Nat.mul_one,hc];simp [Z5]) (Zi (by rw[ek];exact dT (by omega)) (Zi ha (Zi hb (Zt e1))))))).mono fun e y he=> ?_
   obtain⟨rfl,⟨g,e2⟩,e3⟩:=he;refine⟨.inr rfl,?_⟩;have e4:i64.wrap (i64.wrap (n1 n*32)+(bitLen ((Zx l o n).getD (n-1) 0).toNat:Nat))=32*((n-1:Nat):Int)+(bitLen ((Zx l o n).getD (n-1) 0).toNat:Nat):=by
    rw[ek,Zw (n:=((n-1:Nat):Int)*32) (by omega) (by omega),Zw (by omega) (by omega)];omega
   rw[e2,e3,e4];rfl
theorem ZpE:Z7 (Zm (Zk prog Zf Zn true) 100 79 [Zp] []) (i6' 0) []:=by and_intros<;>kernel_rfl
def Z4o:Zad:=fun vals h s=>
 match vals with
 | [.slice none 0 0]=>some (i6' 0,h,s,[])
 | [.slice (some ⟨b,o,none⟩) n c]=>
  match h.blk? b with
  | some x=>some (i6' (Zdy (Zx x.1 o n)),h,s,[(Z6 x.2 x.1 o n c,true)])
  | _=>none
 | _=>none
theorem Zhj:Z8 79 Z4o:=by
 intro vals h s v h' s' lg hg hl m B w E hv;unfold Z4o at hg;split at hg
 ·cases hg;refine (Zc (Zj Zd) ZpE (fun x hx=>by cases hx) (by rfl) (by rfl) w).mono fun e w' he=> ?_;obtain⟨E',hb⟩:=zc E he.2;exact⟨m,he.1,⟨Agree.refl _ _,E',hb,Nat.le_refl _,rfl⟩⟩
 ·rename_i b o n c;split at hg
  ·rename_i x hx;cases hg;have ra:=hl _ mS;obtain⟨h1,h2,h3,h4,h5,h6,h7⟩:=ZH ra;have hlt:=Hp.blk_lt hx;have r:=ZlF (zE ra);have:=zi (T:=Zr prog Zf ZeV hcK) func79 ZlD (ZaK h7) (vals:=[sl 0 o n c]) (fun v hv=>by rw[List.mem_singleton.1 hv];rfl) (by rfl) r E (s:=fun _=>b) (fun i _=>hlt) (zH hx h5 h6 rfl);exact this.mono fun e w' he=>⟨m,he.1,he.2⟩
  ·cases hg
 ·cases hg
theorem ZsP {F:List Value}{o:Nat}(hF:F.length=o) (dx:List Int) (x:Int) (px:List Int):(F++wU (dx++x::px))[o+dx.length]? =some (uu x):=by
 rw[List.getElem?_append_right (by omega),hF,Nat.add_sub_cancel_left];exact ZsC dx x px
theorem ZsQ {F:List Value}{o:Nat}(hF:F.length=o) (dx:List Int) (x d:Int) (px:List Int):(F++wU (dx++x::px)).set (o+dx.length) (uu d)=F++wU ((dx++[d])++px):=by
 rw[List.set_append_right _ _ (by omega),hF,Nat.add_sub_cancel_left,Zif]
theorem ZpF {F la:List Value}{o c k:Nat}{L:List Int}(hF:F.length=o) (hL:wds L) (hk:k<32) (hN:L.length<4611686018427387904):
  Runs (Zk prog Zf Zn true) (ZW (mR0 f119) (.block 0 (.loop (mL f119)))) ([sl 1 o L.length c,i6' k]++List.replicate 25 uZ,hU (F++wU L) la,[]) fun e y=>(e=none∨e=some none)∧ZV prog f119 y.1 y.2.1=some (.tuple #[])∧y.2.1.cut 2=hU (F++wU (dg L.length (vN L*2^k))) la:=by
 refine Zv (Zj Zd) (Zl6 1 o L.length c (i6' k) _) (fun x hx=>by cases hx) fun g=> ?_;refine (Runs.forLoop (R:=fun _=>False) (P:=fun y=>∃ (l i x j:Value) (g:Nat→Value),y.1=mF (sl 1 o L.length c) (i6' k) l i x (sl 1 o L.length c) (i6' L.length) j++tl 17 g∧y.2.1=hU (F++wU (dg L.length (vN L*2^k))) la)
  (fun r y=>∃ (dx px:List Int) (l:Int) (i0 x0:Value) (g:Nat→Value),px.length=r∧dx.length+px.length=L.length∧wds dx∧wds px∧(0≤l∧l<2^k)∧y.1=mF (sl 1 o L.length c) (i6' k) (uu l) i0 x0 (sl 1 o L.length c) (i6' L.length) (i6' dx.length)++tl 17 g∧y.2.1=hU (F++wU (dx++px)) la∧vN dx+4294967296^dx.length*(vN px*2^k+l)=vN L*2^k)
  ?_ (n:=L.length) ⟨[],L,0,uZ,uZ,g,rfl,by simp,(fun x hx=>by cases hx),hL,⟨by omega,Int.pow_pos (by omega)⟩,rfl,rfl,by simp [vN]⟩).mono fun e' y he=> ?_
 ·rintro r ⟨t,h',s'⟩ ⟨dx,px,l,i0,x0,g,hr,hl,wd1,wd2,hlo,ht,hh,hv⟩;simp only at ht hh;subst ht hh
  match px,hr,hl,wd2,hv with
  | [],hr,hl,wd2,hv=>
   have hl':dx.length=L.length:=by simpa using hl
   refine (Zb (Zj Zd) (Zl7 _ _ _ _ _ _ L.length dx.length _ g) (Zt (dF (by omega)))).mono fun e' y he=> ?_;obtain⟨rfl,⟨g1,e2⟩,e3⟩:=he;refine⟨rfl,_,_,_,_,g1,e2,?_⟩;simp only[vN] at hv;rw[Int.zero_mul,Int.zero_add] at hv;have e5:=Zc2 dx.length (vN dx) l;rw[hv,Zfw dx wd1,hl'] at e5;rw[e3,e5,List.append_nil]
  | x::px,hr,hl,wd2,hv=>
   obtain⟨wx,wd2⟩:=Zae wd2;obtain⟨k1,k2,k3⟩:=Z88 wx hlo hk;have cS:=ZsP hF dx x px;have lS:(F++wU (dx++x::px)).length=o+L.length:=by
    unfold wU;simp at hl ⊢;omega
   have hl':dx.length<L.length:=by simp at hl;omega
   have l1:decide (o+((dx.length:Int)).toNat*1<(F++wU (dx++x::px)).length)=true:=by
    rw[lS,tN];exact dT (by omega)
   have l2:(inR dx.length L.length).1=(inR dx.length L.length).2:=dT (by omega);have l4:(Zdr (F++wU (dx++x::px)) o dx.length x).1=(Zdr (F++wU (dx++x::px)) o dx.length x).2:=Zav cS;have e32:i64.wrap (32-(k:Int))=32-(k:Int):=Zw (by omega) (by omega);have l5:decide (i64.wrap (32-(k:Int))<0)=false:=by
    rw[e32];exact dF (by omega)
   have l6:decide ((k:Int)<0)=false:=dF (by omega);have l7:decide ((dx.length:Int)<(L.length:Nat))=true:=dT (by omega);refine (Zb (Zj Zd) (ZzV o L.length c k l dx.length x i0 x0 la (F++wU (dx++x::px)) g) (Zi l5 (Zi l1 (Zi l2 (Zi l6 (Zi l4 (Zi l2 (Zt l7)))))))).mono fun e' y he=> ?_;obtain⟨rfl,⟨g1,e2⟩,e3⟩:=he;refine⟨px.length,by simp at hr;omega,dx++[ZpB x k l],px,ZpC x k,i6' dx.length,uu x,g1,rfl,by simp at hl ⊢;omega,Zaf wd1 (fun z hz=>by rw[List.mem_singleton.1 hz];exact k1),wd2,k2,?_,?_,?_⟩
   ·rw[e2,Zw (by omega) (by omega)];simp
   ·rw[e3,tN,Nat.mul_one,ZsQ hF]
   ·simp only[vN] at hv;rw[zo,List.length_append,List.length_singleton,pw];exact Zl5 k3 hv
 ·match e',he with
  | none,he=>
   obtain⟨l,i,x,j,g,e1,e2⟩:=he;refine⟨.inl rfl,?_,?_⟩
   ·rw[e1];exact Zl8 _ _ _ _ _ _ _ _ _ _
   ·rw[e2];rfl
  | some none,he=>exact he.elim
  | some (some _),he=>exact he.elim
def upS (S:List Value) (o n:Nat) (k:Int):List Value:=S.take o++wU (dg n (vN (Zx S o n)*2^k.toNat))
def Z4Y:Zad:=fun vals h s=>
 match vals,h with
 | [.slice (some ⟨1,o,none⟩) n c,.int .i64 k],⟨2,[(S,t),(la,t')]⟩=>some (.tuple #[],⟨2,[(upS S o n k,tU),(la,tR)]⟩,s,[(Nat.beq t tU,true),(Nat.beq t' tR,true),(Z6 t S o n c,true),(Nat.beq (o+n) S.length,true),(la.all still,true),(decide (0≤k∧k<32),true)])
 | _,_=>none
theorem Zbo (L:List Int) (n:Nat):(wU L).all (lt1 n)=true:=by
 unfold wU;rw[List.all_eq_true];intro v hv;obtain⟨x,_,rfl⟩:=List.mem_map.1 hv;rfl
theorem zx {l:List Value}{n:Nat}(hn:0<n) (h:l.all still=true):l.all (lt1 n)=true:=by
 rw[List.all_eq_true] at*;exact fun v hv=>zg hn (h v hv)
theorem Zuw:Z8 119 Z4Y:=by
 intro vals h s v h' s' lg hg hl m B w E hv;unfold Z4Y at hg;split at hg
 ·rename_i o n c k S t la t';cases hg;have q1:=Nat.eq_of_beq_eq_true (hl _ (mH));have q2:=Nat.eq_of_beq_eq_true (hl _ (mN _ mH));have ra:=hl _ (mN _ (mN _ mH));have q4:=Nat.eq_of_beq_eq_true (hl _ (mN _ (mN _ (mN _ mH))));have q5:=hl _ (mN _ (mN _ (mN _ (mN _ mH))));have q6:=oT (hl _ (mN _ (mN _ (mN _ (mN _ (mN _ mS))))));simp only at q1 q2 q4 q5;subst q1 q2;obtain⟨a1,a2,a3,a4,a5,a6,a7⟩:=ZH ra;obtain⟨K,rfl⟩:=Int.eq_ofNat_of_zero_le q6.1;have hc:c<4611686018427387904:=Zo.1 a4;have eS:S=S.take o++wU (Zx S o n):=by
   have h1:=a1.cut;rw[a2] at h1;rw[← h1];unfold Zce;rw[show n=(S.drop o).length from by simp;omega,List.take_length,List.take_append_drop]
  have hF:(S.take o).length=o:=by simp;omega
  have r:=ZpF (la:=la) (c:=c) (k:=K) hF a1.rng (by omega) (by omega);rw[a2,← eS] at r;have ht:(Hp.tight ⟨2,[(upS S o n K,tU),(la,tR)]⟩)=true:=by
   unfold Hp.tight upS;simp only[List.all_cons,List.all_nil,List.all_append,Bool.and_true,Bool.and_eq_true];refine⟨⟨?_,Zbo _ _⟩,zx (by omega) q5⟩;rw[List.all_eq_true];exact fun v hv=>zg (by omega) (a7 v (List.mem_of_mem_take hv))
  exact zd (T:=Zk prog Zf Zn true) func119 Zin (vals:=[sl 1 o n c,i6' K]) (v:= .tuple #[]) (h:=hU S la) (by rfl) ht r m B w E hv
 ·cases hg
end Go.Proofs.YtjlponbdflkbjaaGreatDoor.Na
namespace Go.Nt
def zC (f:Nat→Int):Nat→Nat
 | 0=>0
 | k+1=>10*zC f k+(f k).toNat
theorem ZbV {f:Nat→Int}:∀ k,(∀ j,j<k→0≤f j∧f j<10)→zC f k<10^k
 | 0,_=>by simp [zC]
 | k+1,h=>by
  have ih:=ZbV k (fun j hj=>h j (by omega));have:=h k (by omega);simp only[zC,Nat.pow_succ];omega
theorem Zgu {f:Nat→Int}(i:Nat):∀ k,zC f (i+k)=zC f i*10^k+zC (fun j=>f (i+j)) k
 | 0=>by simp [zC]
 | k+1=>by
  rw[show i+(k+1)=(i+k)+1 by omega];simp only[zC];rw[Zgu i k,Nat.pow_succ];generalize zC (fun j=>f (i+j)) k=A;generalize zC f i=B;generalize 10^k=C;rw[Nat.mul_add,Nat.add_assoc,← Nat.mul_assoc,Nat.mul_comm 10 B,Nat.mul_assoc B 10 C,Nat.mul_comm 10 C]
end Go.Nt
namespace Go.Proofs.YtjlponbdflkbjaaGreatDoor
open Go.Proofs.Tryz
open Go.IntKind
open Go.KRun Go.Nt
set_option maxRecDepth 100000
structure Nu (i:Nat) (x:List Value×TypeId) (p:Option Addr) (n c:Nat) (A:List Int):Prop where
 row:∀ h:Hp,h.blk? i=some x→zJ h p n c=true∧Zq h p n=A
 pos:p=none∨∃ o,p=some ⟨i,o,none⟩
 st:∀ v∈x.1,still v=true
 lt0:∀ v∈x.1,still v=true
 ros:ro x.2=true∧ab x.2=false
theorem Nu.rn {i:Nat}{x:List Value×TypeId}{p:Option Addr}{n c:Nat}{A:List Int}(h:Nu i x p n c A) {f:Nat→Nat}(hf:f i=i):KRun.rn f (.slice p n c)= .slice p n c:=by
 rcases h.pos with rfl | ⟨o,rfl⟩
 ·rfl
 ·show Value.slice (some ⟨f i,o,none⟩) n c=_;rw[hf]
theorem Nu.lt {i:Nat}{x:List Value×TypeId}{p:Option Addr}{n c:Nat}{A:List Int}(h:Nu i x p n c A) {k:Nat}(hk:i<k):KRun.lt k (.slice p n c)=true:=by
 rcases h.pos with rfl | ⟨o,rfl⟩
 ·rfl
 ·exact Zo.2 hk
theorem ZbF {h:Hp}{p:Option Addr}{n c:Nat}(i:Nat) (hr:zJ h p n c=true):∃ x p' b,Nu i x p' n c (Zq h p n)∧(∀ s:Nat→Nat,s i=b→rn s (.slice p' n c)= .slice p n c)∧(Zak x.2=false→∃ y r,h.blk? b=some y∧Zak y.2=false∧rt y.2=rt x.2∧y.1=x.1++r):=by
 rcases ZF hr with ⟨rfl,rfl,rfl,e0⟩ | ⟨b,o,x,rfl,hx,q1,q2,e0⟩
 ·refine⟨([],2*za),none,0,⟨fun h' _=>⟨rfl,by rw[e0];rfl⟩,.inl rfl,(fun v hv=>by cases hv),(fun v hv=>by cases hv),(by kernel_rfl),(by kernel_rfl)⟩,fun s _=>rfl,fun ht=> ?_⟩;rw[show Zak (2*za)=true from by kernel_rfl] at ht;cases ht
 ·obtain⟨h1,h2,h3,h4,h5,h6,h7⟩:=zt q1;refine⟨(x.1,tR),some ⟨i,o,none⟩,b,⟨fun h' hb=>⟨?_,?_⟩,.inr ⟨o,rfl⟩,q2,h7,Zpe,Zpf⟩,fun s hs=> ?_,fun _=>⟨x,[],hx,h5,by rw[h6];exact Zpg.symm,by simp⟩⟩
  ·simp only[zJ,hb,Bool.and_eq_true];refine⟨?_,List.all_eq_true.2 q2⟩;unfold Zbm at q1 ⊢;simp only[Bool.and_eq_true,Bool.not_eq_true'] at q1 ⊢;obtain⟨⟨⟨⟨⟨⟨_,_⟩,p3⟩,p4⟩,p5⟩,p6⟩,p7⟩:=q1;exact⟨⟨⟨⟨⟨⟨ZbB,by kernel_rfl⟩,p3⟩,p4⟩,p5⟩,p6⟩,p7⟩
  ·rw[e0];simp [Zq,hb]
  ·show Value.slice (some ⟨s i,o,none⟩) n c=_;rw[hs]
def dgB (L:List Int):Bool:=L.all fun x=>decide (0≤x∧x<65536)
theorem Zbw {L:List Int}(h:dgB L=true):∀ x∈L,Dg 65536 x:=fun x hx=>oT (List.all_eq_true.1 h x hx)
theorem ZbG {L:List Int}(h:∀ x∈L,Dg 65536 x):dgB L=true:=List.all_eq_true.2 fun x hx=>dT (h x hx)
theorem zK {h:Hp}{p:Option Addr}{n c:Nat}(hr:zJ h p n c=true):(Zq h p n).length=n:=by
 rcases ZF hr with ⟨rfl,rfl,rfl,e0⟩ | ⟨b,o,x,rfl,hx,q1,q2,e0⟩
 ·rw[e0];rfl
 ·rw[e0];exact (zt q1).2.1
theorem Zed {L:List Int}(h:∀ x∈L,Dg 65536 x) (i:Nat):Dg 65536 (L.getD i 0):=by
 by_cases hi:i<L.length
 ·rw[Zil hi];exact h _ (List.getElem_mem hi)
 ·rw[show L.getD i 0=0 from by simp [List.getD,List.getElem?_eq_none (show L.length≤i by omega)]];exact⟨by omega,by omega⟩
theorem Zaq (L:List Int) (i:Nat):atN L (i:Int)=L.getD i 0:=by unfold atN;rw[if_pos (by omega),tN]
def Zj9 (F:Func):List Code:=[Z2 (Zs F),Z2 (Zz (Zs F)),Z2 (Zz (Zz (Zs F)))]
def aR3 (F:Func):Code:=Z2 (Z2 (Zz (Zz (Zz (Zs F)))))
def ZaU (F:Func):Code:=cIn (cIn (Zz (Z2 (Zz (Zz (Zz (Zs F)))))))
def ZyR (F:Func):Code:=Zz (Zz (Zz (Zz (Zs F))))
theorem ZlG:f56.body=some (ZW (Zj9 f56) (.seq (.seq (aR3 f56) (.block 0 (.loop (ZaU f56)))) (ZyR f56))):=by kernel_rfl
theorem ZpG (a b:Value) (h:Hp):Zg (evL (Zr prog Zf Zn hcV) 100 (Zj9 f56) ([a,b]++List.replicate 40 uZ,h,[]) ⟨[],[],[]⟩) 7 35 none [a,b,uZ,uZ,Zp,Zp,.int .u32 0] h []:=by and_intros<;>kernel_rfl
theorem Zux (a b:Value) (h:Hp) (g:Nat→Value):Zg (evC (Zr prog Zf Zn hcV) 100 false (aR3 f56) ([a,b,uZ,uZ,Zp,Zp,.int .u32 0]++tl 35 g,h,[]) ⟨[],[],[]⟩) 8 34 none [a,b,uZ,uZ,Zp,Zp,.int .u32 0,.int .i64 0] h []:=by and_intros<;>kernel_rfl
def sm (A B:List Int) (k i:Int):Int:=u32.wrap (u32.wrap (k+atN A i)+atN B i)
def hu3 (lo:List Value) (y x:List Value×TypeId):Hp:=⟨3,[(lo,tU),y,x]⟩
def hp2 (y x:List Value×TypeId):Hp:=⟨2,[y,x]⟩
def Z0b (w:Nat):List Dec:=match w with | 0=>[cmp true] | 1=>[cmp false,cmp true] | _=>[cmp false,cmp false,cmp true]
def ZsR (w:Nat) (n n':Nat) (k i:Int):Log:=match w with | 0=>[(decide (i<n),true)] | 1=>[(decide (i<n'),true),(decide (i<n),false)] | _=>[(decide (k>0),true),(decide (i<n'),false),(decide (i<n),false)]
def rP (h:Hp) (p:Option Addr) (n c:Nat):Bool×Bool:=(zJ h p n c,true)
theorem ZlH (p q:Option Addr) (n c n' c':Nat) (k i:Int) (x y:List Value×TypeId) (g:Nat→Value):Zg (evC (Zr prog Zf Zn hcV) 100 false (ZaU f56) ([.slice p n c,.slice q n' c',uZ,uZ,Zp,Zp,.int .u32 k,.int .i64 i]++tl 34 g,hp2 y x,Z0b 0++[cmp true]) ⟨[],[],[]⟩) 8 34 none [.slice p n c,.slice q n' c',uZ,uZ,Zp,sl 3 0 1 grown,.int .u32 (u32.wrap ((sm (Zq (hp2 y x) p n) (Zq (hp2 y x) q n') k i).tdiv 65536)),.int .i64 (i64.wrap (i+1))] ⟨4,[([.int .u32 ((sm (Zq (hp2 y x) p n) (Zq (hp2 y x) q n') k i).tmod 65536)],tU),([.int .u32 ((sm (Zq (hp2 y x) p n) (Zq (hp2 y x) q n') k i).tmod 65536)],tU),y,x]⟩ ((decide ((65536:Int)=0),false)::rP (hp2 y x) q n' c'::rP (hp2 y x) p n c::ZsR 0 n n' k i):=by and_intros<;>kernel_rfl
theorem ZlI (p q:Option Addr) (n c n' c':Nat) (k i:Int) (x y:List Value×TypeId) (g:Nat→Value):Zg (evC (Zr prog Zf Zn hcV) 100 false (ZaU f56) ([.slice p n c,.slice q n' c',uZ,uZ,Zp,Zp,.int .u32 k,.int .i64 i]++tl 34 g,hp2 y x,Z0b 1++[cmp true]) ⟨[],[],[]⟩) 8 34 none [.slice p n c,.slice q n' c',uZ,uZ,Zp,sl 3 0 1 grown,.int .u32 (u32.wrap ((sm (Zq (hp2 y x) p n) (Zq (hp2 y x) q n') k i).tdiv 65536)),.int .i64 (i64.wrap (i+1))] ⟨4,[([.int .u32 ((sm (Zq (hp2 y x) p n) (Zq (hp2 y x) q n') k i).tmod 65536)],tU),([.int .u32 ((sm (Zq (hp2 y x) p n) (Zq (hp2 y x) q n') k i).tmod 65536)],tU),y,x]⟩ ((decide ((65536:Int)=0),false)::rP (hp2 y x) q n' c'::rP (hp2 y x) p n c::ZsR 1 n n' k i):=by and_intros<;>kernel_rfl
theorem ZjA (p q:Option Addr) (n c n' c' z:Nat) (k i:Int) (x y:List Value×TypeId) (lo:List Value) (g:Nat→Value):Zg (evC (Zr prog Zf Zn hcV) 100 false (ZaU f56) ([.slice p n c,.slice q n' c',uZ,uZ,Zp,sl 2 0 z grown,.int .u32 k,.int .i64 i]++tl 34 g,hu3 lo y x,Z0b 0++[cmp true,at_]) ⟨[],[],[]⟩) 8 34 none [.slice p n c,.slice q n' c',uZ,uZ,Zp,sl 4 0 (z+1) grown,.int .u32 (u32.wrap ((sm (Zq (hu3 lo y x) p n) (Zq (hu3 lo y x) q n') k i).tdiv 65536)),.int .i64 (i64.wrap (i+1))] ⟨5,[(lo++[.int .u32 ((sm (Zq (hu3 lo y x) p n) (Zq (hu3 lo y x) q n') k i).tmod 65536)],tU),([.int .u32 ((sm (Zq (hu3 lo y x) p n) (Zq (hu3 lo y x) q n') k i).tmod 65536)],tU),([],2*za),y,x]⟩ ((Zab tU (lo,tU) ([.int .u32 ((sm (Zq (hu3 lo y x) p n) (Zq (hu3 lo y x) q n') k i).tmod 65536)],tU) z 0 1,true)::(decide ((65536:Int)=0),false)::rP (hu3 lo y x) q n' c'::rP (hu3 lo y x) p n c::ZsR 0 n n' k i):=by and_intros<;>kernel_rfl
theorem ZjB (p q:Option Addr) (n c n' c' z:Nat) (k i:Int) (x y:List Value×TypeId) (lo:List Value) (g:Nat→Value):Zg (evC (Zr prog Zf Zn hcV) 100 false (ZaU f56) ([.slice p n c,.slice q n' c',uZ,uZ,Zp,sl 2 0 z grown,.int .u32 k,.int .i64 i]++tl 34 g,hu3 lo y x,Z0b 1++[cmp true,at_]) ⟨[],[],[]⟩) 8 34 none [.slice p n c,.slice q n' c',uZ,uZ,Zp,sl 4 0 (z+1) grown,.int .u32 (u32.wrap ((sm (Zq (hu3 lo y x) p n) (Zq (hu3 lo y x) q n') k i).tdiv 65536)),.int .i64 (i64.wrap (i+1))] ⟨5,[(lo++[.int .u32 ((sm (Zq (hu3 lo y x) p n) (Zq (hu3 lo y x) q n') k i).tmod 65536)],tU),([.int .u32 ((sm (Zq (hu3 lo y x) p n) (Zq (hu3 lo y x) q n') k i).tmod 65536)],tU),([],2*za),y,x]⟩ ((Zab tU (lo,tU) ([.int .u32 ((sm (Zq (hu3 lo y x) p n) (Zq (hu3 lo y x) q n') k i).tmod 65536)],tU) z 0 1,true)::(decide ((65536:Int)=0),false)::rP (hu3 lo y x) q n' c'::rP (hu3 lo y x) p n c::ZsR 1 n n' k i):=by and_intros<;>kernel_rfl
theorem ZjC (p q:Option Addr) (n c n' c' z:Nat) (k i:Int) (x y:List Value×TypeId) (lo:List Value) (g:Nat→Value):Zg (evC (Zr prog Zf Zn hcV) 100 false (ZaU f56) ([.slice p n c,.slice q n' c',uZ,uZ,Zp,sl 2 0 z grown,.int .u32 k,.int .i64 i]++tl 34 g,hu3 lo y x,Z0b 2++[cmp true,at_]) ⟨[],[],[]⟩) 8 34 none [.slice p n c,.slice q n' c',uZ,uZ,Zp,sl 4 0 (z+1) grown,.int .u32 (u32.wrap ((sm (Zq (hu3 lo y x) p n) (Zq (hu3 lo y x) q n') k i).tdiv 65536)),.int .i64 (i64.wrap (i+1))] ⟨5,[(lo++[.int .u32 ((sm (Zq (hu3 lo y x) p n) (Zq (hu3 lo y x) q n') k i).tmod 65536)],tU),([.int .u32 ((sm (Zq (hu3 lo y x) p n) (Zq (hu3 lo y x) q n') k i).tmod 65536)],tU),([],2*za),y,x]⟩ ((Zab tU (lo,tU) ([.int .u32 ((sm (Zq (hu3 lo y x) p n) (Zq (hu3 lo y x) q n') k i).tmod 65536)],tU) z 0 1,true)::(decide ((65536:Int)=0),false)::rP (hu3 lo y x) q n' c'::rP (hu3 lo y x) p n c::ZsR 2 n n' k i):=by and_intros<;>kernel_rfl
theorem ZpH (p q:Option Addr) (n c n' c':Nat) (v:Value) (k i:Int) (h:Hp) (g:Nat→Value):Zg (evC (Zr prog Zf Zn hcV) 100 false (ZaU f56) ([.slice p n c,.slice q n' c',uZ,uZ,Zp,v,.int .u32 k,.int .i64 i]++tl 34 g,h,[cmp false,cmp false,cmp false]) ⟨[],[],[]⟩) 8 34 (some (some 0)) [.slice p n c,.slice q n' c',uZ,uZ,Zp,v,.int .u32 k,.int .i64 i] h [(decide (k>0),false),(decide (i<n'),false),(decide (i<n),false)]:=by and_intros<;>kernel_rfl
theorem ZpI (a b:Value) (z:Nat) (k i:Int) (x y:List Value×TypeId) (lo:List Value) (g:Nat→Value):Zg (evC (Zr prog Zf Zn hcV) 100 false (ZyR f56) ([a,b,uZ,uZ,Zp,sl 2 0 z grown,.int .u32 k,.int .i64 i]++tl 34 g,hu3 lo y x,[]) ⟨[],[],[]⟩) 5 37 (some none) [a,b,uZ,uZ,sl 2 0 (Zl (Zx lo 0 z)) (Zl (Zx lo 0 z))] (hu3 lo y x) [(Zbm tU lo 0 z grown,true)]:=by and_intros<;>kernel_rfl
theorem ZjD (p q:Option Addr) (n c n' c':Nat) (h:Hp):Zg (evC (Zr prog Zf Zn hcV) 100 false (Zs f56) ([.slice p n c,.slice q n' c']++List.replicate 40 uZ,h,[cmp false,cmp false,cmp false]) ⟨[],[],[]⟩) 5 37 (some none) [.slice p n c,.slice q n' c',uZ,uZ,Zp] h [(decide ((0:Int)>0),false),(decide ((0:Int)<n'),false),(decide ((0:Int)<n),false)]:=by and_intros<;>kernel_rfl
theorem zk {n:Int}(h0:0≤n) (h1:n<4294967296):u32.wrap n=n:=by simp [IntKind.wrap,IntKind.bits,IntKind.signed];omega
def dgN (L:List Int) (i:Nat):Nat:=(L.getD i 0).toNat
theorem zy {L:List Int}(h:∀ x∈L,Dg 65536 x) (i:Nat):dgN L i<65536∧((dgN L i:Nat):Int)=L.getD i 0:=by
 have:=Zed h i;unfold dgN;omega
theorem Zee {L:List Int}{i:Nat}(h:L.length≤i):dgN L i=0:=by unfold dgN;simp [List.getD,List.getElem?_eq_none h]
theorem Z4Z {A B:List Int}(hA:∀ x∈A,Dg 65536 x) (hB:∀ x∈B,Dg 65536 x) {k:Nat}(hk:k≤1) (i:Nat):sm A B k i=((k+dgN A i+dgN B i:Nat):Int):=by
 have h1:=zy hA i;have h2:=zy hB i;unfold sm;rw[Zaq,Zaq,← h1.2,← h2.2,zk (n:=(k:Int)+_) (by omega) (by omega),zk (by omega) (by omega)];omega
theorem Zf0 (a:Nat):((a:Int)).tmod 65536=((a % 65536:Nat):Int):=by rw[Int.tmod_eq_emod_of_nonneg (by omega)];omega
theorem Zf1 {a:Nat}(h:a<4294967296):u32.wrap ((a:Int).tdiv 65536)=((a/65536:Nat):Int):=by
 rw[Int.tdiv_eq_ediv_of_nonneg (by omega),zk (by omega) (by omega)];omega
theorem okW {p:Bool×Bool}{l:Log}(h:p.1=p.2) (hl:Z3 l):Z3 (p::l):=Zi h hl
section
variable {x y : List Value × TypeId} {p q : Option Addr} {n c n' c' : Nat} {A B : List Int}
theorem Zc3 (NA:Nu 0 x p n c A) (NB:Nu 1 y q n' c' B) {h:Hp}(h0:h.blk? 0=some x) (h1:h.blk? 1=some y):∀ i z,(⟨2,[y,x]⟩:Hp).blk? i=some z→h.blk? i=some z∧∀ v∈z.1,still v=true:=fun i z hz=>by
 rcases ZkX hz with ⟨rfl,rfl⟩ | ⟨rfl,rfl⟩
 ·exact⟨h0,NA.st⟩
 ·exact⟨h1,NB.st⟩
theorem ZjE (NA:Nu 0 x p n c A) (NB:Nu 1 y q n' c' B) (hA:∀ x∈A,Dg 65536 x) (hB:∀ x∈B,Dg 65536 x) {k i:Nat}{O:List Int}(hk:k≤1) (hi:i<1073741823) (hO:O.length=i) (hgo:i<n∨i<n'∨0<k) {Y:Lf}
  (hY:(i=0∧k=0∧(∃ g,Y.1=[.slice p n c,.slice q n' c',uZ,uZ,Zp,Zp,.int .u32 (k:Nat),.int .i64 (i:Nat)]++tl 34 g)∧Y.2.1=hp2 y x)∨(0<i∧(∃ g,Y.1=[.slice p n c,.slice q n' c',uZ,uZ,Zp,sl 2 0 i grown,.int .u32 (k:Nat),.int .i64 (i:Nat)]++tl 34 g)∧Y.2.1=hu3 (wU O) y x)):
  RunsW (Zr prog Zf Zn hcV) (ZaU f56) Y fun e z=>e=none∧(∃ g,z.1=[.slice p n c,.slice q n' c',uZ,uZ,Zp,sl 2 0 (i+1) grown,.int .u32 ((k+dgN A i+dgN B i)/65536:Nat),.int .i64 ((i+1:Nat):Int)]++tl 34 g)∧z.2.1=hu3 (wU (O++[(((k+dgN A i+dgN B i) % 65536:Nat):Int)])) y x:=by
 obtain⟨t,h',s⟩:=Y;have hd1:=(zy hA i).1;have hd2:=(zy hB i).1;have es:=Z4Z hA hB hk i;have e1:(sm A B k i).tmod 65536=(((k+dgN A i+dgN B i) % 65536:Nat):Int):=by rw[es,Zf0]
 have e2:u32.wrap ((sm A B k i).tdiv 65536)=(((k+dgN A i+dgN B i)/65536:Nat):Int):=by rw[es,Zf1 (by omega)]
 have e3:i64.wrap ((i:Int)+1)=((i+1:Nat):Int):=by rw[Zw (by omega) (by omega)];omega
 rcases hY with ⟨h0,k0,⟨g,ht⟩,hh⟩ | ⟨h0,⟨g,ht⟩,hh⟩
 ·simp only at ht hh;subst ht hh;have r0:=NA.row (hp2 y x) rfl;have r1:=NB.row (hp2 y x) rfl;have fin:RunsW (Zr prog Zf Zn hcV) (ZaU f56) ([.slice p n c,.slice q n' c',uZ,uZ,Zp,Zp,.int .u32 (k:Nat),.int .i64 (i:Nat)]++tl 34 g,hp2 y x,s) fun e z=>e=none∧(∃ g,z.1=[.slice p n c,.slice q n' c',uZ,uZ,Zp,sl 3 0 1 grown,.int .u32 (u32.wrap ((sm A B k i).tdiv 65536)),.int .i64 (i64.wrap ((i:Int)+1))]++tl 34 g)∧z.2.1=⟨4,[([.int .u32 ((sm A B k i).tmod 65536)],tU),([.int .u32 ((sm A B k i).tmod 65536)],tU),y,x]⟩:=by
   by_cases ha:i<n
   ·have:=Ze (Zh Zd Zu) (s0:=s) (ZlH p q n c n' c' k i x y g) (okW rfl (okW r1.1 (okW r0.1 (Zt (dT (by omega))))));rw[r0.2,r1.2] at this;exact this
   ·have:=Ze (Zh Zd Zu) (s0:=s) (ZlI p q n c n' c' k i x y g) (okW rfl (okW r1.1 (okW r0.1 (okW (dT (by omega)) (Zt (dF (by omega)))))));rw[r0.2,r1.2] at this;exact this
  have hO':O=[]:=List.length_eq_zero_iff.1 (by omega);rw[e1,e2,e3] at fin;have:=fin.kept (k:=2) (b:=3) (base:=[y,x]) (y:=([.int .u32 (((k+dgN A i+dgN B i) % 65536:Nat):Int)],tU)) (front':=[.slice p n c,.slice q n' c',uZ,uZ,Zp,sl 2 0 1 grown,.int .u32 ((k+dgN A i+dgN B i)/65536:Nat),.int .i64 ((i+1:Nat):Int)]) rfl
   (by simp only[List.map_cons,List.map_nil,NA.rn (f:=zA 2 3) rfl,NB.rn (f:=zA 2 3) rfl];kernel_rfl) (Zc3 NA NB rfl rfl) rfl (by omega) (fun v hv=>by rw[List.mem_singleton.1 hv];rfl) (fun v hv=>by
    simp only[List.mem_cons,List.not_mem_nil,or_false] at hv;rcases hv with rfl | rfl | rfl | rfl | rfl | rfl | rfl | rfl
    ·exact NA.lt (by omega)
    ·exact NB.lt (by omega)
    all_goals rfl)
  refine this.mono fun e z hz=> ?_;obtain⟨rfl,⟨g',q1⟩,q2⟩:=hz;subst hO' h0;exact⟨rfl,⟨g',q1⟩,q2⟩
 ·simp only at ht hh;subst ht hh;have r0:=NA.row (hu3 (wU O) y x) rfl;have r1:=NB.row (hu3 (wU O) y x) rfl;have hchk:Zab tU (wU O,tU) ([.int .u32 ((sm A B k i).tmod 65536)],tU) i 0 1=true:=
   Zba (L:=O) (M:=[(sm A B k i).tmod 65536]) hO.symm (show 0<1 by omega) (by show O.length+1≤_;omega)
  have fin:RunsW (Zr prog Zf Zn hcV) (ZaU f56) ([.slice p n c,.slice q n' c',uZ,uZ,Zp,sl 2 0 i grown,.int .u32 (k:Nat),.int .i64 (i:Nat)]++tl 34 g,hu3 (wU O) y x,s) fun e z=>e=none∧(∃ g,z.1=[.slice p n c,.slice q n' c',uZ,uZ,Zp,sl 4 0 (i+1) grown,.int .u32 (u32.wrap ((sm A B k i).tdiv 65536)),.int .i64 (i64.wrap ((i:Int)+1))]++tl 34 g)∧z.2.1=⟨5,[(wU O++[.int .u32 ((sm A B k i).tmod 65536)],tU),([.int .u32 ((sm A B k i).tmod 65536)],tU),([],2*za),y,x]⟩:=by
   by_cases ha:i<n
   ·have hl:Z3 (ZsR 0 n n' k i):=Zt (dT (by omega));have:=Ze (Zh Zd Zu) (s0:=s) (ZjA p q n c n' c' i k i x y (wU O) g) (by rw[r0.2,r1.2];exact okW hchk (okW rfl (okW r1.1 (okW r0.1 hl))));rw[r0.2,r1.2] at this;exact this
   ·by_cases hb:i<n'
    ·have hl:Z3 (ZsR 1 n n' k i):=okW (dT (by omega)) (Zt (dF (by omega)));have:=Ze (Zh Zd Zu) (s0:=s) (ZjB p q n c n' c' i k i x y (wU O) g) (by rw[r0.2,r1.2];exact okW hchk (okW rfl (okW r1.1 (okW r0.1 hl))));rw[r0.2,r1.2] at this;exact this
    ·have hl:Z3 (ZsR 2 n n' k i):=okW (dT (by omega)) (okW (dF (by omega)) (Zt (dF (by omega))));have:=Ze (Zh Zd Zu) (s0:=s) (ZjC p q n c n' c' i k i x y (wU O) g) (by rw[r0.2,r1.2];exact okW hchk (okW rfl (okW r1.1 (okW r0.1 hl))));rw[r0.2,r1.2] at this;exact this
  rw[e1,e2,e3] at fin;have ew:wU O++[.int .u32 (((k+dgN A i+dgN B i) % 65536:Nat):Int)]=wU (O++[(((k+dgN A i+dgN B i) % 65536:Nat):Int)]):=by rw[ZX];rfl
  rw[ew] at fin;have:=fin.kept (k:=2) (b:=4) (base:=[y,x]) (y:=(wU (O++[(((k+dgN A i+dgN B i) % 65536:Nat):Int)]),tU)) (front':=[.slice p n c,.slice q n' c',uZ,uZ,Zp,sl 2 0 (i+1) grown,.int .u32 ((k+dgN A i+dgN B i)/65536:Nat),.int .i64 ((i+1:Nat):Int)]) rfl
   (by simp only[List.map_cons,List.map_nil,NA.rn (f:=zA 2 4) rfl,NB.rn (f:=zA 2 4) rfl];kernel_rfl) (Zc3 NA NB rfl rfl) rfl (by omega) (ZD _) (fun v hv=>by
    simp only[List.mem_cons,List.not_mem_nil,or_false] at hv;rcases hv with rfl | rfl | rfl | rfl | rfl | rfl | rfl | rfl
    ·exact NA.lt (by omega)
    ·exact NB.lt (by omega)
    all_goals rfl)
  exact this
def aSt (x y:List Value×TypeId) (p q:Option Addr) (n c n' c':Nat) (O:List Int) (i k:Nat) (Y:Lf):Prop:=
 (i=0∧k=0∧(∃ g,Y.1=[.slice p n c,.slice q n' c',uZ,uZ,Zp,Zp,.int .u32 (k:Nat),.int .i64 (i:Nat)]++tl 34 g)∧Y.2.1=hp2 y x)∨(0<i∧(∃ g,Y.1=[.slice p n c,.slice q n' c',uZ,uZ,Zp,sl 2 0 i grown,.int .u32 (k:Nat),.int .i64 (i:Nat)]++tl 34 g)∧Y.2.1=hu3 (wU O) y x)
def Z8N (x y:List Value×TypeId) (p q:Option Addr) (n c n' c':Nat) (A B:List Int) (m:Nat) (Y:Lf):Prop:=
 ∃ (i k:Nat) (O:List Int),O.length=i∧m=max n n'+1-i∧i≤max n n'+1∧k≤1∧(i=max n n'+1→k=0)∧(∀ x∈O,Dg 65536 x)∧vb 65536 O+65536^O.length*k=vb 65536 (A.take i)+vb 65536 (B.take i)∧aSt x y p q n c n' c' O i k Y
def Zuy (x y:List Value×TypeId) (p q:Option Addr) (n c n' c':Nat) (A B:List Int) (Y:Lf):Prop:=
 ∃ (i:Nat) (O:List Int),O.length=i∧i≤max n n'+1∧(∀ x∈O,Dg 65536 x)∧vb 65536 O=vb 65536 A+vb 65536 B∧n≤i∧n'≤i∧aSt x y p q n c n' c' O i 0 Y
theorem ZlJ (NA:Nu 0 x p n c A) (NB:Nu 1 y q n' c' B) (lA:A.length=n) (lB:B.length=n') (hA:∀ x∈A,Dg 65536 x) (hB:∀ x∈B,Dg 65536 x) (hn:max n n'+2<1073741824) (g:Nat→Value):
  RunsW (Zr prog Zf Zn hcV) (.block 0 (.loop (ZaU f56))) ([.slice p n c,.slice q n' c',uZ,uZ,Zp,Zp,.int .u32 0,.int .i64 0]++tl 34 g,hp2 y x,[]) fun e Y=>match e with | none=>Zuy x y p q n c n' c' A B Y | some none=>False | some (some _)=>False:=by
 refine RunsW.forLoop (P:=Zuy x y p q n c n' c' A B) (R:=fun _=>False) (Z8N x y p q n c n' c' A B) ?_ (n:=max n n'+1) ⟨0,0,[],rfl,by omega,by omega,by omega,by omega,(fun x hx=>by cases hx),by simp [vb],.inl ⟨rfl,rfl,⟨g,rfl⟩,rfl⟩⟩;rintro m Y ⟨i,k,O,hO,hm,hi,hk,hk0,hOd,hval,hY⟩;by_cases hgo:i<n∨i<n'∨0<k
 ·have hmx:i≤max n n':=by
   rcases Nat.lt_or_ge i (max n n'+1) with h | h
   ·omega
   ·have:k=0:=hk0 (by omega);omega
  have r:=ZjE NA NB hA hB hk (by omega) hO hgo hY;refine r.mono fun e z hz=> ?_;obtain⟨rfl,z1,z2⟩:=hz;have d1:=(zy hA i).1;have d2:=(zy hB i).1;refine⟨max n n'+1-(i+1),by omega,i+1,(k+dgN A i+dgN B i)/65536,O++[(((k+dgN A i+dgN B i) % 65536:Nat):Int)],by simp [hO],rfl,by omega,by omega,fun he=> ?_,fun x hx=> ?_,?_,.inr ⟨by omega,z1,z2⟩⟩
  ·have z1:dgN A i=0:=Zee (by omega);have z2:dgN B i=0:=Zee (by omega);omega
  ·rcases List.mem_append.1 hx with hx | hx
   ·exact hOd x hx
   ·rw[List.mem_singleton.1 hx];exact⟨by omega,by omega⟩
  ·have:=Zlv (a:=dgN A i) (c:=dgN B i) hval;rw[Zag,Zag,← hO];rw[List.length_append];rw[hO] at this ⊢;exact this
 ·have hk:k=0:=by omega
  subst hk;have ha:n≤i:=by omega
  have hb:n'≤i:=by omega
  have out:∀ (v:Value) (h:Hp) (g:Nat→Value) (s:List Dec),RunsW (Zr prog Zf Zn hcV) (ZaU f56) ([.slice p n c,.slice q n' c',uZ,uZ,Zp,v,.int .u32 ((0:Nat):Int),.int .i64 (i:Nat)]++tl 34 g,h,s) fun e z=>e=some (some 0)∧(∃ g,z.1=[.slice p n c,.slice q n' c',uZ,uZ,Zp,v,.int .u32 ((0:Nat):Int),.int .i64 (i:Nat)]++tl 34 g)∧z.2.1=h:=fun v h g s=>
   Ze (Zh Zd Zu) (ZpH p q n c n' c' v 0 i h g) (okW rfl (okW (dF (by omega)) (Zt (dF (by omega)))))
  have hv:vb 65536 O=vb 65536 A+vb 65536 B:=by
   rw[List.take_of_length_le (by omega),List.take_of_length_le (by omega)] at hval;omega
  obtain⟨t,h',s⟩:=Y;rcases hY with ⟨h0,k0,⟨g,ht⟩,hh⟩ | ⟨h0,⟨g,ht⟩,hh⟩
  ·simp only at ht hh;subst ht hh;refine (out Zp _ g s).mono fun e z hz=> ?_;obtain⟨rfl,z1,z2⟩:=hz;exact⟨rfl,i,O,hO,hi,hOd,hv,ha,hb,.inl ⟨h0,rfl,z1,z2⟩⟩
  ·simp only at ht hh;subst ht hh;refine (out (sl 2 0 i grown) _ g s).mono fun e z hz=> ?_;obtain⟨rfl,z1,z2⟩:=hz;exact⟨rfl,i,O,hO,hi,hOd,hv,ha,hb,.inr ⟨h0,z1,z2⟩⟩
theorem ZlK (NA:Nu 0 x p n c A) (NB:Nu 1 y q n' c' B) (lA:A.length=n) (lB:B.length=n') (hA:∀ x∈A,Dg 65536 x) (hB:∀ x∈B,Dg 65536 x) (hn:max n n'+2<1073741824) (h0:0<n∨0<n') {V:Nat}(hV:V=vb 65536 A+vb 65536 B):
  RunsW (Zr prog Zf Zn hcV) (ZW (Zj9 f56) (.seq (.seq (aR3 f56) (.block 0 (.loop (ZaU f56)))) (ZyR f56))) ([.slice p n c,.slice q n' c']++List.replicate 40 uZ,hp2 y x,[]) fun e z=>(e=none∨e=some none)∧ZV prog f56 z.1 z.2.1=some (sl 2 0 (d16 V).length (d16 V).length)∧∃ r,z.2.1.blk? 2=some (wU (d16 V)++r,tU):=by
 refine Z0 (Zh Zd Zu) (ZpG _ _ _) (fun x hx=>by cases hx) fun g=> ?_;refine Zgs (Ze (Zh Zd Zu) (Zux _ _ _ g) (fun x hx=>by cases hx)) (fun e y he=>by cases he.1) (P2:=fun e Y=>match e with | none=>Zuy x y p q n c n' c' A B Y | some none=>False | some (some _)=>False) ?_ ?_ ?_
 ·rintro⟨t,h',s⟩ ⟨_,⟨g',ht⟩,hh⟩;simp only at ht hh;subst ht hh;exact RunsW.script (ZlJ NA NB lA lB hA hB hn g')
 ·intro e y he
  match e,he with
  | none,he=>exact he
  | some id,he=>exact he
 ·rintro⟨t,h',s⟩ ⟨i,O,hO,hi,hOd,hv,ha,hb,hY⟩;rcases hY with ⟨e0,_⟩ | ⟨_,⟨g',ht⟩,hh⟩
  ·omega
  ·simp only at ht hh;subst ht hh;have hrow:Zbm tU (wU O) 0 i grown=true:=by
    rw[← hO];exact Zap (fun x hx=>⟨(hOd x hx).1,by have:=(hOd x hx).2;omega⟩) (by omega) (ZyQ _)
   refine (Ze (Zh Zd Zu) (ZpI _ _ i 0 i x y (wU O) g') (Zt hrow)).mono fun e z he=> ?_;obtain⟨rfl,⟨g2,e1⟩,e2⟩:=he;have et:Zl (Zx (wU O) 0 i)=(d16 V).length:=by
    rw[← hO,ZaO,Zat (by omega) hOd,hv,← hV];rfl
   refine⟨.inr rfl,?_,?_⟩
   ·rw[e1,e2,et];rfl
   ·rw[e2];refine⟨wU (O.drop (Zl O)),?_⟩;have e3:wU (d16 V)++wU (O.drop (Zl O))=wU O:=by
     unfold d16;rw[hV,← hv,← zj (by omega) _ hOd,← ZX,List.take_append_drop]
    rw[e3];rfl
end
theorem Zc4 {x y:List Value×TypeId}{p q:Option Addr}{n c n' c':Nat}{A B:List Int}(NA:Nu 0 x p n c A) (NB:Nu 1 y q n' c' B):(hp2 y x).rows:=by
 refine⟨rfl,fun b z hz=> ?_⟩;rcases ZkX hz with ⟨rfl,rfl⟩ | ⟨rfl,rfl⟩
 ·exact⟨NA.ros.1,NA.lt0,NA.ros.2⟩
 ·exact⟨NB.ros.1,NB.lt0,NB.ros.2⟩
theorem Zc5 {x y:List Value×TypeId}{h:Hp}{a b:Nat}(hx:Zak x.2=false→∃ z r,h.blk? a=some z∧Zak z.2=false∧rt z.2=rt x.2∧z.1=x.1++r) (hy:Zak y.2=false→∃ z r,h.blk? b=some z∧Zak z.2=false∧rt z.2=rt y.2∧z.1=y.1++r):(hp2 y x).fits (ZeQ a b) h:=by
 intro i z hz ht;rcases ZkX hz with ⟨rfl,rfl⟩ | ⟨rfl,rfl⟩
 ·exact hx ht
 ·exact hy ht
theorem ZjF:f56.body=some (Zs f56):=by kernel_rfl
def ZT (h:Hp) (p q:Option Addr) (n c n' c':Nat):Bool:=zJ h p n c && zJ h q n' c' && dgB (Zq h p n) && dgB (Zq h q n') && Nat.blt (max n n'+2) 1073741824
theorem Zc6 {h:Hp}{p q:Option Addr}{n c n' c':Nat}(hr:ZT h p q n c n' c'=true):zJ h p n c=true∧zJ h q n' c'=true∧(∀ x∈Zq h p n,Dg 65536 x)∧(∀ x∈Zq h q n',Dg 65536 x)∧max n n'+2<1073741824:=by
 unfold ZT at hr;simp only[Bool.and_eq_true] at hr;obtain⟨⟨⟨⟨h1,h2⟩,h3⟩,h4⟩,h5⟩:=hr;exact⟨h1,h2,Zbw h3,Zbw h4,Zo.1 h5⟩
def vO (h:Hp) (p:Option Addr) (n:Nat):Nat:=vb 65536 (Zq h p n)
theorem Zbd (A:Nat):∀ x∈d16 A,Dg 65536 x:=Zfx (by omega) A
def Zde (V:Nat) (h:Hp) (s:List Dec) (lg:Log):Option (Value×Hp×List Dec×Log):=some (sl h.n 0 (d16 V).length (d16 V).length,h.push (wU (d16 V)) tU,s,lg)
def ZpJ:Zad:=fun vals h s=>
 match vals,s with
 | [.slice p n c,.slice q n' c'],.inr (.inr (.inr (.inl d)))::s'=>
  match d with
  | true=>Zde (vO h p n+vO h q n') h s' [(ZT h p q n c n' c',true),(decide (0<n∨0<n'),true)]
  | false=>some (Zp,h,s',[(ZT h p q n c n' c',true),(decide (0<n∨0<n'),false)])
 | _,_=>none
theorem Zf2:Z8 56 ZpJ:=by
 intro vals h s v h' s' lg hg hl m B w E hv;unfold ZpJ at hg;split at hg
 ·rename_i p n c q n' c' d s2;split at hg
  ·unfold Zde at hg;cases hg;have q1:=hl _ (mH);have q2:=hl _ (mN _ mS);simp only[decide_eq_true_eq] at q1 q2;obtain⟨r1,r2,d1,d2,hn⟩:=Zc6 q1;obtain⟨x,p',a,NA,eA,fA⟩:=ZbF 0 r1;obtain⟨y,q',b,NB,eB,fB⟩:=ZbF 1 r2;have r:=ZlK NA NB (zK r1) (zK r2) d1 d2 hn q2 rfl;have:=ZE (T:=Zr prog Zf Zn hcV) func56 ZlG (Zc4 NA NB) (vals:=[.slice p' n c,.slice q' n' c']) (fun v hv=>by
    simp only[List.mem_cons,List.not_mem_nil,or_false] at hv;rcases hv with rfl | rfl
    ·exact NA.lt (by show 0<2;omega)
    ·exact NB.lt (by show 1<2;omega)) (k:=2) (cs:=wU (d16 (vO h p n+vO h q n'))) (ty:=tU) (Zbb _) (by kernel_rfl) r (by rfl) E (s:=ZeQ a b) (Zc5 fA fB)
   simp only[List.map_cons,List.map_nil] at this;rw[eA _ rfl,eB _ rfl] at this;exact this
  ·cases hg;have q1:=hl _ (mH);have q2:=hl _ (mN _ mS);simp only[decide_eq_false_iff_not] at q1 q2;obtain⟨r1,r2,d1,d2,hn⟩:=Zc6 q1;obtain⟨x,p',a,NA,eA,fA⟩:=ZbF 0 r1;obtain⟨y,q',b,NB,eB,fB⟩:=ZbF 1 r2;have hr:Runs (Zr prog Zf Zn hcV) (Zs f56) ([.slice p' n c,.slice q' n' c']++List.replicate 40 uZ,hp2 y x,[]) fun e z=>(e=none∨e=some none)∧ZV prog f56 z.1 z.2.1=some Zp:=by
    refine (Zb (Zh Zd Zu) (ZjD p' q' n c n' c' _) (okW rfl (okW (dF (by omega)) (Zt (dF (by omega)))))).mono fun e z he=> ?_;obtain⟨rfl,⟨g,e2⟩,e3⟩:=he;refine⟨.inr rfl,?_⟩;rw[e2,e3];rfl
   have:=ZB (T:=Zr prog Zf Zn hcV) func56 ZjF (Zc4 NA NB) (vals:=[.slice p' n c,.slice q' n' c']) (fun v hv=>by
    simp only[List.mem_cons,List.not_mem_nil,or_false] at hv;rcases hv with rfl | rfl
    ·exact NA.lt (by show 0<2;omega)
    ·exact NB.lt (by show 1<2;omega)) (v:=Zp) (by rfl) hr.w E (s:=ZeQ a b) (Zc5 fA fB)
   simp only[List.map_cons,List.map_nil] at this;rw[eA _ rfl,eB _ rfl] at this;exact this
 ·cases hg
end Go.Proofs.YtjlponbdflkbjaaGreatDoor
