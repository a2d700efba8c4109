/-
  RpD, Con3, RnA, NumRn
-/
import Derived.Test.YtjlponbdflkbjaaGreatDoorG19
import Derived.Test.YtjlponbdflkbjaaGreatDoorG16
import Derived.Test.YtjlponbdflkbjaaGreatDoorG18
import Derived.Laws.MathBits
namespace Go.Proofs.YtjlponbdflkbjaaGreatDoor
open Go.Proofs.Tryz
open Go.IntKind
open Go.KRun Go.Nt Go.Rd Go.Wd
set_option maxRecDepth 100000
theorem sh1 (D:List UInt8) (k:Int):Z7 (Zm (Zk prog Zf Zn true) 100 33 [bR D,.int .i64 k] [cmp true]) (bR D) [(decide (((D.length:Nat):Int)≤k),true)]:=by and_intros<;>kernel_rfl
theorem sh2 (D:List UInt8) (k:Int):Z7 (Zm (Zk prog Zf Zn true) 100 33 [bR D,.int .i64 k] [cmp false,sam true,sam true]) (bR (D.take k.toNat++[49])) [(decide ((D.take k.toNat).length+1≤9223372036854775807),true),(decide (0≤k∧k≤(D.length:Nat)),true),(decide (((D.length:Nat):Int)≤k),false)]:=by and_intros<;>kernel_rfl
def Z6V:Ans:=fun vals s=>
 match vals with
 | [.string a,.int .i64 k]=>some (bR (shR k.toNat a.data.toList),s,[(decide (0≤k∧k≤1000∧a.data.toList.length≤100000),true)])
 | _=>none
theorem ZwQ:ZR 33 Z6V:=by
 intro vals s v s' lg h hl w;unfold Z6V at h;split at h
 ·rename_i a k;cases h;have q:=oT (hl _ mS);have hT:=Zj Zd;unfold shR;by_cases h1:((a.data.toList.length:Nat):Int)≤k
  ·rw[if_pos (by omega)];exact Zc hT (sh1 a.data.toList k) (Z4 (dT h1)) (by rfl) (by rfl) w
  ·rw[if_neg (by omega)];exact Zc hT (sh2 a.data.toList k) (Za (dT (by rw[List.length_take];omega)) (Za (dT (by omega)) (Z4 (dF h1)))) (by rfl) (by rfl) w
 ·cases h
def ZgL:Con:=alt 74 (g1n (Zdk ZnG)) (alt 73 (g2 (ZiX ZwL)) (alt 69 Z1N Zn))
theorem ZiY:ConOk ZgL:=Z9 func74 rfl (ZbZ Zes) (Z9 func73 rfl (ZgI ZgJ) (Z9 func69 rfl ZhA Zd))
def sxI (F:Func):Code:=Z2 (sP F 2)
def sxL (F:Func):Code:=cIn (cIn (Zz (sP F 2)))
theorem ZwR:f34.body=some (ZW [sP f34 0,sP f34 1] (.seq (.seq (sxI f34) (.block 0 (.loop (sxL f34)))) (sK f34 3))):=by kernel_rfl
def wB9 (x:W4):List Value×TypeId:=([.int .u64 x.a,.int .u64 x.b,.int .u64 x.c,.int .u64 x.d],51)
def sxM (x:W4):Hp:=⟨2,[wB9 x,wB9 ⟨0,0,0,0⟩]⟩
def sxF (D:List UInt8) (v4:Value) (i:Int):List Value:=[bR D,uZ,pO 0,pO 1,v4,bR D,.int .i64 (D.length:Nat),.int .i64 i]
theorem Z1Y (D:List UInt8):Zg (evL (Zk prog Zf ZgL true) 100 [sP f34 0,sP f34 1] ([bR D]++List.replicate 23 uZ,⟨0,[]⟩,[]) ⟨[],[],[]⟩) 5 19 none [bR D,uZ,pO 0,pO 1,uZ] (sxM ⟨0,0,0,0⟩) []:=by and_intros<;>kernel_rfl
theorem Z98 (D:List UInt8) (g:Nat→Value):Zg (evC (Zk prog Zf ZgL true) 100 false (sxI f34) ([bR D,uZ,pO 0,pO 1,uZ]++tl 19 g,sxM ⟨0,0,0,0⟩,[]) ⟨[],[],[]⟩) 8 16 none (sxF D uZ 0) (sxM ⟨0,0,0,0⟩) []:=by and_intros<;>kernel_rfl
theorem Z99 (D:List UInt8) (x:W4) (v4:Value) (i:Int) (g:Nat→Value):Zg (evC (Zk prog Zf ZgL true) 100 false (sxL f34) (sxF D v4 i++tl 16 g,sxM x,[cmp false]) ⟨[],[],[]⟩) 8 16 (some (some 0)) (sxF D v4 i) (sxM x) [(decide (i<(D.length:Nat)),false)]:=by and_intros<;>kernel_rfl
theorem Z9A (D:List UInt8) (x:W4) (v4:Value) (i:Int) (g:Nat→Value):Zg (evC (Zk prog Zf ZgL true) 100 false (sK f34 3) (sxF D v4 i++tl 16 g,sxM x,[]) ⟨[],[],[]⟩) 3 21 (some none) [bR D,uZ,pO 0] ⟨2,[wB9 x,wB9 x]⟩ []:=by and_intros<;>kernel_rfl
def wD9 (d:Int):W4:=⟨u64.wrap d,0,0,0⟩
theorem Z9B (D:List UInt8) (x:W4) (v4:Value) (i:Int) (g:Nat→Value):Zg (evC (Zk prog Zf ZgL true) 100 false (sxL f34) (sxF D v4 i++tl 16 g,sxM x,[cmp true]) ⟨[],[],[]⟩) 8 16 none (sxF D (.int .i64 i) (i64.wrap (i+1))) (sxM (W4.of ((Ze7 x 4).val+(wD9 (dvB (byR D i))).val))) [(decide ((Ze7 x 4).ok∧(wD9 (dvB (byR D i))).ok),true),(decide (0≤byR D i∧byR D i<256),true),(decide (x.ok∧(-9223372036854775808:Int)≤4∧(4:Int)≤9223372036854775807),true),(decide (0≤i∧i.toNat<D.length),true),(decide (i<(D.length:Nat)),true)]:=by and_intros<;>kernel_rfl
theorem Z1Z {X d:Nat}(hX:X*16+d<2^256) (hd:d<16):(Ze7 (ofN X) 4).ok∧(wD9 (d:Nat)).ok∧W4.of ((Ze7 (ofN X) 4).val+(wD9 (d:Nat)).val)=ofN (X*16+d):=by
 have h2:(2:Nat)^256=115792089237316195423570985008687907853269984665640564039457584007913129639936:=rfl;have hX2:X<2^256:=by omega
 have hv:(ofN X).val=(X:Int):=by rw[W4.nat_val (zO X),Zbq hX2]
 have e1:Ze7 (ofN X) 4=W4.of (((X*16:Nat)):Int):=by
  unfold Ze7;rw[if_neg (by decide),if_neg (by decide),hv];congr 1
 have ew:u64.wrap ((d:Nat):Int)=(d:Int):=by
  simp [IntKind.wrap,IntKind.bits,IntKind.signed];omega
 have o2:(wD9 (d:Nat)).ok∧(wD9 (d:Nat)).val=(d:Int):=by
  unfold wD9;rw[ew];refine⟨⟨⟨by dsimp only;omega,by dsimp only;omega⟩,⟨by dsimp only;omega,by dsimp only;omega⟩,⟨by dsimp only;omega,by dsimp only;omega⟩,⟨by dsimp only;omega,by dsimp only;omega⟩⟩,?_⟩;unfold W4.val;simp only[Int.mul_zero,Int.add_zero]
 refine⟨by rw[e1];exact W4.ok_of _,o2.1,?_⟩;rw[e1,W4.val_of,o2.2,Int.emod_eq_of_lt (by omega) (by omega)];unfold ofN;congr 1
def sxJ (D:List UInt8) (i:Nat) (y:Lf):Prop:=∃ (v4:Value) (g:Nat→Value),i≤D.length∧y.1=sxF D v4 i++tl 16 g∧y.2.1=sxM (ofN (nmB 16 (D.take i)))
theorem Zry {D:List UInt8}(h2:D.length≤62) (ha:zf 16 D=true) (r:Nat) (y:Lf) (h:∃ i,r=D.length-i∧sxJ D i y):
  Runs (Zk prog Zf ZgL true) (sxL f34) y fun e z=>match e with | none=>∃ r',r'<r∧∃ i,r'=D.length-i∧sxJ D i z | some none=>False | some (some id')=>id'=0∧sxJ D D.length z:=by
 have hT:=Zj ZiY;obtain⟨i,hr,v4,g,hi,ht,hh⟩:=h;obtain⟨t,h',sc⟩:=y;simp only at ht hh;subst ht hh;by_cases hc:i<D.length
 ·have lA:decide (((i:Nat):Int)<(D.length:Nat))=true:=dT (by omega);have lI:decide ((0:Int)≤(i:Nat)∧((i:Nat):Int).toNat<D.length)=true:=dT ⟨by omega,by rw[tN];exact hc⟩;have ew:i64.wrap (((i:Nat):Int)+1)=((i+1:Nat):Int):=by rw[Zw (by omega) (by omega)];omega
  have eC:lq8 (D.getD i 0)=byR D (i:Nat):=by unfold lq8 byR;rw[tN]
  have hdg:0≤ZO (lq8 (D.getD i 0)) 16:=by
   unfold zf at ha;refine oT (List.all_eq_true.1 ha _ ?_);rw[List.getD_eq_getElem?_getD,List.getElem?_eq_getElem hc,Option.getD_some];exact List.getElem_mem hc
  have hlt:=(ZfL (lq8 (D.getD i 0)) 16).2;obtain⟨d,hd⟩:∃ d:Nat,d=(ZO (lq8 (D.getD i 0)) 16).toNat:=⟨_,rfl⟩;have ed:dvB (byR D (i:Nat))=(d:Nat):=by rw[← eC,← Zn4 hdg];omega
  have ht:=ZfM 16 D hc;rw[← hd] at ht;have hb:nmB 16 (D.take i)*16+d<2^256:=by
   have h3:nmB 16 (D.take i)*16+d=nmB 16 (D.take (i+1)):=ht.symm;rw[h3];refine Nat.lt_of_lt_of_le (Zeo (.inr rfl) _) (Nat.pow_le_pow_right (by omega) ?_);rw[List.length_take];omega
  obtain⟨n1,n2,n3⟩:=Z1Z hb (by omega);have hg:=Z9B D (ofN (nmB 16 (D.take i))) v4 (i:Nat) g;rw[ew,ed,n3] at hg;refine (Zb (s0:=sc) hT hg (Za (dT ⟨n1,n2⟩) (Za (ZiU D _) (Za (dT ⟨zO _,by decide,by decide⟩) (Za lI (Z4 lA)))))).mono fun e z he=> ?_;obtain⟨rfl,⟨g',z1⟩,z2⟩:=he;refine⟨D.length-(i+1),by omega,i+1,rfl,_,g',by omega,z1,?_⟩;rw[z2,show nmB 16 (D.take (i+1))=nmB 16 (D.take i)*16+d from ht]
 ·have:i=D.length:=by omega
  subst this;refine (Zb (s0:=sc) hT (Z99 D _ v4 (D.length:Nat) g) (Z4 (dF (by omega)))).mono fun e z he=> ?_;obtain⟨rfl,⟨g',z1⟩,z2⟩:=he;exact⟨rfl,v4,g',hi,z1,z2⟩
theorem Zrz (D:List UInt8) (hs:D.length≤62) (ha:zf 16 D=true) (w:World):Calls prog 34 #[bR D] w fun r w'=>r= .returned (vW (ofN (nmB 16 D)))∧Zal w w':=by
 have hT:=Zj ZiY;refine ZJ (T:=Zk prog Zf ZgL true) func34 ZwR (by rfl) (by rfl) ?_ w;refine Zv hT (Z1Y D) ZaI fun g=> ?_;refine Runs.seq (P1:=fun e y=>match e with | none=>sxJ D D.length y | some none=>False | some (some _)=>False) ?_ ?_ ?_
 ·refine Runs.seq (P1:=fun e y=>e=none∧∃ g',y.1=sxF D uZ 0++tl 16 g'∧y.2.1=sxM ⟨0,0,0,0⟩) ?_ ?_ (fun e y he=>by cases he.1)
  ·refine (Zb hT (Z98 D g) ZaI).mono fun e z he=> ?_;obtain⟨rfl,⟨g',z1⟩,z2⟩:=he;exact⟨rfl,g',z1,z2⟩
  ·rintro⟨t,hh,sc⟩ ⟨_,g',e1,e2⟩;simp only at e1 e2;subst e1 e2;exact Runs.forLoop (R:=fun _=>False) (P:=sxJ D D.length) (fun r y=>∃ i,r=D.length-i∧sxJ D i y) (Zry hs ha) (n:=D.length-0) ⟨0,rfl,uZ,g',Nat.zero_le _,rfl,by rw[show ofN (nmB 16 (D.take 0))=⟨0,0,0,0⟩ from ZcB]⟩
 ·rintro⟨t,hh,sc⟩ ⟨v4,g',_,e1,e2⟩;simp only at e1 e2;subst e1 e2;rw[List.take_length];refine (Zb (s0:=sc) hT (Z9A D _ v4 _ g') ZaI).mono fun e z he=> ?_;obtain⟨rfl,⟨g2,z1⟩,z2⟩:=he;exact⟨.inr rfl,by rw[z1,z2];rfl⟩
 ·rintro e y he
  match e,he with
  | none,he=>exact he.elim
def Z6W:Ans:=fun vals s=>
 match vals with
 | [.string a]=>some (vW (ofN (nmB 16 a.data.toList)),s,[(zf 16 a.data.toList,true),(decide (a.data.toList.length≤62),true)])
 | _=>none
theorem ZwS:ZR 34 Z6W:=by
 intro vals s v s' lg h hl w;unfold Z6W at h;split at h
 ·rename_i a;cases h;have h1:zf 16 a.data.toList=true:=hl _ mH;have h2:=oT (hl _ (mN _ mS));exact Zrz _ h2 h1 w
 ·cases h
end Go.Proofs.YtjlponbdflkbjaaGreatDoor
namespace Go.Proofs.YtjlponbdflkbjaaGreatDoor
open Go.Proofs.Tryz
open Go.IntKind
open Go.KRun Go.Wd
def ZaB:List UInt8:=(List.range 256).map fun i=>UInt8.ofNat (bitLen i)
def Zea (z:Int):Int:=((ZaB.getD (u8.wrap z).toNat 0).toNat:Int)
def lt8 (z:Int):Bool×Bool:=(decide (0≤u8.wrap z∧(u8.wrap z).toNat<ZaB.length),true)
def sh (z:Int) (k:Nat):Int:=z.fdiv (2^k)
def ge (z k:Int) (d:Bool):Bool×Bool:=(decide (z≥k),d)
def Zfy (m z:Int):Value:= .int .i64 (i64.wrap (m+i64.wrap (Zea z)))
def nz:Bool×Bool:=(false,false)
theorem ZwT (u:Int):Z7 (Zm (Zk prog Zf Zn true) 3000 124 [.int .u64 u] [tst false,tst false,tst false]) (Zfy 0 u) [lt8 u,ge u 256 false,ge u 65536 false,ge u 4294967296 false]:=by and_intros<;>kernel_rfl
theorem ZwU (u:Int):Z7 (Zm (Zk prog Zf Zn true) 3000 124 [.int .u64 u] [tst false,tst false,tst true]) (Zfy 8 (sh u 8)) [lt8 (sh u 8),nz,ge u 256 true,ge u 65536 false,ge u 4294967296 false]:=by and_intros<;>kernel_rfl
theorem ZwV (u:Int):Z7 (Zm (Zk prog Zf Zn true) 3000 124 [.int .u64 u] [tst false,tst true,tst false]) (Zfy 16 (sh u 16)) [lt8 (sh u 16),ge (sh u 16) 256 false,nz,ge u 65536 true,ge u 4294967296 false]:=by and_intros<;>kernel_rfl
theorem ZwW (u:Int):Z7 (Zm (Zk prog Zf Zn true) 3000 124 [.int .u64 u] [tst false,tst true,tst true]) (Zfy 24 (sh (sh u 16) 8)) [lt8 (sh (sh u 16) 8),nz,ge (sh u 16) 256 true,nz,ge u 65536 true,ge u 4294967296 false]:=by and_intros<;>kernel_rfl
theorem ZwX (u:Int):Z7 (Zm (Zk prog Zf Zn true) 3000 124 [.int .u64 u] [tst true,tst false,tst false]) (Zfy 32 (sh u 32)) [lt8 (sh u 32),ge (sh u 32) 256 false,ge (sh u 32) 65536 false,nz,ge u 4294967296 true]:=by and_intros<;>kernel_rfl
theorem ZwY (u:Int):Z7 (Zm (Zk prog Zf Zn true) 3000 124 [.int .u64 u] [tst true,tst false,tst true]) (Zfy 40 (sh (sh u 32) 8)) [lt8 (sh (sh u 32) 8),nz,ge (sh u 32) 256 true,ge (sh u 32) 65536 false,nz,ge u 4294967296 true]:=by and_intros<;>kernel_rfl
theorem ZwZ (u:Int):Z7 (Zm (Zk prog Zf Zn true) 3000 124 [.int .u64 u] [tst true,tst true,tst false]) (Zfy 48 (sh (sh u 32) 16)) [lt8 (sh (sh u 32) 16),ge (sh (sh u 32) 16) 256 false,nz,ge (sh u 32) 65536 true,nz,ge u 4294967296 true]:=by and_intros<;>kernel_rfl
theorem Zxa (u:Int):Z7 (Zm (Zk prog Zf Zn true) 3000 124 [.int .u64 u] [tst true,tst true,tst true]) (Zfy 56 (sh (sh (sh u 32) 16) 8)) [lt8 (sh (sh (sh u 32) 16) 8),nz,ge (sh (sh u 32) 16) 256 true,nz,ge (sh u 32) 65536 true,nz,ge u 4294967296 true]:=by and_intros<;>kernel_rfl
theorem Zdc:ZaB.length=256:=by unfold ZaB;rw[List.length_map,List.length_range]
theorem Zdd (b:Nat) (h:b<256):(ZaB.getD b 0).toNat=bitLen b:=by
 have h1:ZaB.getD b 0=UInt8.ofNat (bitLen b):=by
  unfold ZaB;rw[List.getD,List.getElem?_map,List.getElem?_range h];rfl
 have h2:=bitLen_le8 b h;rw[h1,UInt8.toNat_ofNat'];omega
theorem Zhh {z:Int}(h0:0≤z) (h1:z<256):u8.wrap z=z:=by
 simp [IntKind.wrap,IntKind.bits,IntKind.signed];omega
theorem zV {m:Int}{Z:Nat}(hm:0≤m) (hm':m≤56) (h1:Z<256):Zfy m (Z:Int)= .int .i64 (m+bitLen Z)∧(lt8 (Z:Int)).1=(lt8 (Z:Int)).2:=by
 have hb:=bitLen_le8 Z h1;have e:=Zhh (z:=(Z:Int)) (by omega) (by omega);refine⟨?_,?_⟩
 ·unfold Zfy Zea;rw[e,tN,Zdd Z h1,ZbL (n:=((bitLen Z:Nat):Int)) (by omega) (by omega),ZbL (by omega) (by omega)]
 ·unfold lt8;rw[e,tN];rw[Zdc];exact dT (And.intro (by omega) h1)
theorem Za5 (Z k:Nat):sh (Z:Int) k=((Z/2^k:Nat):Int):=by
 unfold sh;rw[Int.fdiv_eq_ediv_of_nonneg _ (Int.le_of_lt (Int.pow_pos (by omega)))];simp
theorem Zku {z k:Int}(h:k≤z):(ge z k true).1=(ge z k true).2:=dT h
theorem Zkv {z k:Int}(h:z<k):(ge z k false).1=(ge z k false).2:=dF (by omega)
theorem Zbc:nz.1=nz.2:=rfl
theorem ZaC (x b:Nat) (h:2^b≤x):bitLen x=b+bitLen (x/2^b):=bitLen_shift x b (by
 have:0<x/2^b:=Nat.div_pos h (Nat.two_pow_pos b);omega)
def ZnI (u:Int):Value:= .int .i64 (bitLen u.toNat:Nat)
set_option maxRecDepth 100000 in
theorem ZhC (u:Int) (h0:0≤u) (h1:u<18446744073709551616) (w:World):Calls prog 124 #[.int .u64 u] w fun e w'=>e= .returned (ZnI u)∧Zal w w':=by
 obtain⟨U,rfl⟩:=Int.eq_ofNat_of_zero_le h0;unfold ZnI;rw[tN];have p8:(2:Nat)^8=256:=rfl;have p16:(2:Nat)^16=65536:=rfl;have p32:(2:Nat)^32=4294967296:=rfl;have step:∀ {v:Value}{m:Int}{Z:Nat}{s:List Dec}{cs:Log},Z7 (Zm (Zk prog Zf Zn true) 3000 124 [.int .u64 (U:Int)] s) v cs→Z3 cs→v= .int .i64 (bitLen U:Nat)→Calls prog 124 #[.int .u64 (U:Int)] w fun e w'=>e= .returned (.int .i64 (bitLen U:Nat))∧Zal w w':=
  fun {v m Z s cs} hf hc hv=>by subst hv;exact Zc (Zj Zd) hf hc (by rfl) (by rfl) w
 by_cases a:U<4294967296
 ·by_cases b:U<65536
  ·by_cases c:U<256
   ·obtain⟨e1,e2⟩:=zV (m:=0) (by omega) (by omega) c;exact step (m:=0) (Z:=0) (ZwT U) (ZL e2 (ZL (Zkv (by omega)) (ZL (Zkv (by omega)) (Ze6 (Zkv (by omega)))))) (by rw[e1];congr 1;omega)
   ·have l:=ZaC U 8 (by omega);obtain⟨e1,e2⟩:=zV (m:=8) (Z:=U/2^8) (by omega) (by omega) (by omega);rw[← Za5] at e1 e2;exact step (m:=0) (Z:=0) (ZwU U) (ZL e2 (ZL Zbc (ZL (Zku (by omega)) (ZL (Zkv (by omega)) (Ze6 (Zkv (by omega))))))) (by rw[e1];congr 1;omega)
  ·have l:=ZaC U 16 (by omega);by_cases c:U/2^16<256
   ·obtain⟨e1,e2⟩:=zV (m:=16) (Z:=U/2^16) (by omega) (by omega) c;rw[← Za5] at e1 e2;exact step (m:=0) (Z:=0) (ZwV U) (ZL e2 (ZL (Zkv (by rw[Za5];omega)) (ZL Zbc (ZL (Zku (by omega)) (Ze6 (Zkv (by omega))))))) (by rw[e1];congr 1;omega)
   ·have l2:=ZaC (U/2^16) 8 (by omega);obtain⟨e1,e2⟩:=zV (m:=24) (Z:=U/2^16/2^8) (by omega) (by omega) (by omega);rw[← Za5,← Za5] at e1 e2;exact step (m:=0) (Z:=0) (ZwW U) (ZL e2 (ZL Zbc (ZL (Zku (by rw[Za5];omega)) (ZL Zbc (ZL (Zku (by omega)) (Ze6 (Zkv (by omega)))))))) (by rw[e1];congr 1;omega)
 ·have l0:=ZaC U 32 (by omega);have q:U/2^32<4294967296:=by omega
  by_cases b:U/2^32<65536
  ·by_cases c:U/2^32<256
   ·obtain⟨e1,e2⟩:=zV (m:=32) (Z:=U/2^32) (by omega) (by omega) c;rw[← Za5] at e1 e2;exact step (m:=0) (Z:=0) (ZwX U) (ZL e2 (ZL (Zkv (by rw[Za5];omega)) (ZL (Zkv (by rw[Za5];omega)) (ZL Zbc (Ze6 (Zku (by omega))))))) (by rw[e1];congr 1;omega)
   ·have l:=ZaC (U/2^32) 8 (by omega);obtain⟨e1,e2⟩:=zV (m:=40) (Z:=U/2^32/2^8) (by omega) (by omega) (by omega);rw[← Za5,← Za5] at e1 e2;exact step (m:=0) (Z:=0) (ZwY U) (ZL e2 (ZL Zbc (ZL (Zku (by rw[Za5];omega)) (ZL (Zkv (by rw[Za5];omega)) (ZL Zbc (Ze6 (Zku (by omega)))))))) (by rw[e1];congr 1;omega)
  ·have l:=ZaC (U/2^32) 16 (by omega);by_cases c:U/2^32/2^16<256
   ·obtain⟨e1,e2⟩:=zV (m:=48) (Z:=U/2^32/2^16) (by omega) (by omega) c;rw[← Za5,← Za5] at e1 e2;exact step (m:=0) (Z:=0) (ZwZ U) (ZL e2 (ZL (Zkv (by rw[Za5,Za5];omega)) (ZL Zbc (ZL (Zku (by rw[Za5];omega)) (ZL Zbc (Ze6 (Zku (by omega)))))))) (by rw[e1];congr 1;omega)
   ·have l2:=ZaC (U/2^32/2^16) 8 (by omega);obtain⟨e1,e2⟩:=zV (m:=56) (Z:=U/2^32/2^16/2^8) (by omega) (by omega) (by omega);rw[← Za5,← Za5,← Za5] at e1 e2;exact step (m:=0) (Z:=0) (Zxa U) (ZL e2 (ZL Zbc (ZL (Zku (by rw[Za5,Za5];omega)) (ZL Zbc (ZL (Zku (by rw[Za5];omega)) (ZL Zbc (Ze6 (Zku (by omega))))))))) (by rw[e1];congr 1;omega)
def gu (k:Int→Value):Ans:=fun vals s=>
 match vals with
 | [.int .u64 u]=>some (k u,s,[(decide (0≤u∧u<18446744073709551616),true)])
 | _=>none
theorem Z6X {f:Nat}{k:Int→Value}(hk:∀ u,0≤u→u<18446744073709551616→∀ w,Calls prog f #[.int .u64 u] w fun e w'=>e= .returned (k u)∧Zal w w'):ZR f (gu k):=by
 intro vals s v s' lg h hl w;unfold gu at h;split at h
 ·cases h;have h1:=hl _ mS;simp only[decide_eq_true_eq] at h1;exact hk _ h1.1 h1.2 w
 ·cases h
def ZeV:Con:=alt 124 (gu ZnI) Zn
theorem ZaT:ConOk ZeV:=Z9 func124 rfl (Z6X ZhC) Zd
def ne0 (a:Int) (d:Bool):Bool×Bool:=(a !=0,d)
def yes:Bool×Bool:=(true,true)
def no:Bool×Bool:=(false,false)
def wd (u:Int):Bool×Bool:=(decide (0≤u∧u<18446744073709551616),true)
def ZyX (m u:Int):Value:= .int .i64 (i64.wrap (m+(bitLen u.toNat:Nat)))
theorem Z2a (x:W4):Z7 (Zm (Zk prog Zf ZeV true) 3000 82 [vW x] [tst true,tst true]) (ZyX 192 x.d) [wd x.d,ne0 x.d true,yes]:=by and_intros<;>kernel_rfl
theorem Z2b (x:W4):Z7 (Zm (Zk prog Zf ZeV true) 3000 82 [vW x] [tst true,tst false,tst true,tst true]) (ZyX 128 x.c) [wd x.c,ne0 x.c true,yes,ne0 x.d false,yes]:=by and_intros<;>kernel_rfl
theorem Z2c (x:W4):Z7 (Zm (Zk prog Zf ZeV true) 3000 82 [vW x] [tst true,tst false,tst true,tst false,tst true,tst true]) (ZyX 64 x.b) [wd x.b,ne0 x.b true,yes,ne0 x.c false,yes,ne0 x.d false,yes]:=by and_intros<;>kernel_rfl
theorem Z2d (x:W4):Z7 (Zm (Zk prog Zf ZeV true) 3000 82 [vW x] [tst true,tst false,tst true,tst false,tst true,tst false,tst true,tst true]) (ZyX 0 x.a) [wd x.a,ne0 x.a true,yes,ne0 x.b false,yes,ne0 x.c false,yes,ne0 x.d false,yes]:=by and_intros<;>kernel_rfl
theorem Z2e (x:W4):Z7 (Zm (Zk prog Zf ZeV true) 3000 82 [vW x] [tst true,tst false,tst true,tst false,tst true,tst false,tst true,tst false,tst false]) (.int .i64 0) [no,ne0 x.a false,yes,ne0 x.b false,yes,ne0 x.c false,yes,ne0 x.d false,yes]:=by and_intros<;>kernel_rfl
def Z4y (x:W4):Int:=(bitLen x.val.toNat:Nat)
def Zxb (x:W4):Value:= .int .i64 (Z4y x)
theorem ZfP {m u:Int}(h0:0≤m) (h1:m≤192) (hu:0≤u∧u<18446744073709551616):ZyX m u= .int .i64 (m+(bitLen u.toNat:Nat)):=by
 have:bitLen u.toNat≤64:=by
  unfold bitLen;split
  ·omega
  ·rename_i h;have:=(Nat.log2_lt h).2 (show u.toNat<2^64 by have:(2:Nat)^64=18446744073709551616:=rfl;omega);omega
 unfold ZyX;rw[ZbL (by omega) (by omega)]
theorem Z4z {a:Int}(h:a≠0):(ne0 a true).1=(ne0 a true).2:=bne_iff_ne.2 h
theorem ZoG {a:Int}(h:a=0):(ne0 a false).1=(ne0 a false).2:=by subst h;rfl
theorem Zr0 {u:Int}(h:0≤u∧u<18446744073709551616):(wd u).1=(wd u).2:=dT h
theorem ZaS:yes.1=yes.2:=rfl
theorem Z6Y:no.1=no.2:=rfl
theorem ZfQ {X b U:Nat}(hU:U≠0) (h:X/2^b=U):bitLen X=b+bitLen U:=by
 rw[← h];exact bitLen_shift X b (by omega)
set_option maxRecDepth 100000 in
theorem Zkb (x:W4) (hx:x.ok) (w:World):Calls prog 82 #[vW x] w fun e w'=>e= .returned (Zxb x)∧Zal w w':=by
 have hx':=hx;obtain⟨a,b,c,d⟩:=x;obtain⟨h1,h2,h3,h4⟩:=hx;unfold Zxb Z4y W4.val;dsimp only at*;by_cases e4:d=0
 ·by_cases e3:c=0
  ·by_cases e2:b=0
   ·by_cases e1:a=0
    ·subst e1 e2 e3 e4;exact Zc (Zj ZaT) (Z2e ⟨0,0,0,0⟩) (ZL Z6Y (ZL (ZoG rfl) (ZL ZaS (ZL (ZoG rfl) (ZL ZaS (ZL (ZoG rfl) (ZL ZaS (ZL (ZoG rfl) (Ze6 ZaS))))))))) (by rfl) (by rfl) w
    ·have h:=Zc (Zj ZaT) (Z2d ⟨a,b,c,d⟩) (ZL (Zr0 h1) (ZL (Z4z e1) (ZL ZaS (ZL (ZoG e2) (ZL ZaS (ZL (ZoG e3) (ZL ZaS (ZL (ZoG e4) (Ze6 ZaS))))))))) (by rfl) (by rfl) w;rw[ZfP (by omega) (by omega) h1] at h;subst e2 e3 e4;simp at h ⊢;exact h
   ·have h:=Zc (Zj ZaT) (Z2c ⟨a,b,c,d⟩) (ZL (Zr0 h2) (ZL (Z4z e2) (ZL ZaS (ZL (ZoG e3) (ZL ZaS (ZL (ZoG e4) (Ze6 ZaS))))))) (by rfl) (by rfl) w;rw[ZfP (by omega) (by omega) h2] at h;have p:(2:Nat)^64=18446744073709551616:=rfl;have l:=ZfQ (X:=(a+18446744073709551616*b+340282366920938463463374607431768211456*c+6277101735386680763835789423207666416102355444464034512896*d).toNat) (b:=64) (U:=b.toNat) (by omega) (by rw[p];omega);rw[l];simp at h ⊢;exact h
  ·have h:=Zc (Zj ZaT) (Z2b ⟨a,b,c,d⟩) (ZL (Zr0 h3) (ZL (Z4z e3) (ZL ZaS (ZL (ZoG e4) (Ze6 ZaS))))) (by rfl) (by rfl) w;rw[ZfP (by omega) (by omega) h3] at h;have p:(2:Nat)^128=340282366920938463463374607431768211456:=rfl;have l:=ZfQ (X:=(a+18446744073709551616*b+340282366920938463463374607431768211456*c+6277101735386680763835789423207666416102355444464034512896*d).toNat) (b:=128) (U:=c.toNat) (by omega) (by rw[p];omega);rw[l];simp at h ⊢;exact h
 ·have h:=Zc (Zj ZaT) (Z2a ⟨a,b,c,d⟩) (ZL (Zr0 h4) (ZL (Z4z e4) (Ze6 ZaS))) (by rfl) (by rfl) w;rw[ZfP (by omega) (by omega) h4] at h;have p:(2:Nat)^192=6277101735386680763835789423207666416102355444464034512896:=rfl;have l:=ZfQ (X:=(a+18446744073709551616*b+340282366920938463463374607431768211456*c+6277101735386680763835789423207666416102355444464034512896*d).toNat) (b:=192) (U:=d.toNat) (by omega) (by rw[p];omega);rw[l];simp at h ⊢;exact h
def g1 (k:W4→Value):Ans:=fun vals s=>
 match vals with
 | [x]=>
  match w4 x with
  | some a=>some (k a,s,[(decide a.ok,true)])
  | none=>none
 | _=>none
theorem Z6Z {f:Nat}{k:W4→Value}(hk:∀ x:W4,x.ok→∀ w,Calls prog f #[vW x] w fun e w'=>e= .returned (k x)∧Zal w w'):ZR f (g1 k):=by
 intro vals s v s' lg h hl w;unfold g1 at h;split at h
 ·split at h
  ·rename_i a ha;cases h;have h1:=hl _ mS;simp only[decide_eq_true_eq] at h1;rw[Zer ha];exact hk a h1 w
  ·cases h
 ·cases h
def Ztv (z:Int):Int:=u64.wrap ((BitVec.ofInt 64 z &&& BitVec.ofInt 64 1).toNat:Nat)
theorem ZnJ {z:Int}(h0:0≤z) (h1:z<18446744073709551616):Ztv z=z % 2:=by
 obtain⟨Z,rfl⟩:=Int.eq_ofNat_of_zero_le h0;unfold Ztv;have e1:(BitVec.ofInt 64 (Z:Int)).toNat=Z:=by simp;omega
 have e2:(BitVec.ofInt 64 1).toNat=1:=rfl;rw[BitVec.toNat_and,e1,e2,Nat.and_one_is_mod,ZbX];omega
def lb (n k:Int):Log:=[(decide ((64:Int)=0),false),(decide (i64.wrap (n.tdiv 64)=k),true),(decide (n≥256),false),(decide (n<0),false)]
theorem Zxc (x:W4) (n:Int):Z7 (Zm (Zk prog Zf Zn true) 3000 86 [vW x,.int .i64 n] [cmp true]) (.int .u64 0) [(decide (n<0),true)]:=by and_intros<;>kernel_rfl
theorem Zr1 (x:W4) (n:Int):Z7 (Zm (Zk prog Zf Zn true) 3000 86 [vW x,.int .i64 n] [cmp false,cmp true]) (.int .u64 0) [(decide (n≥256),true),(decide (n<0),false)]:=by and_intros<;>kernel_rfl
theorem Z7a (x:W4) (n:Int):Z7 (Zm (Zk prog Zf Zn true) 3000 86 [vW x,.int .i64 n] [cmp false,cmp false,num 0]) (.int .u64 (Ztv (dn' x.a n))) (lu n::lb n 0):=by and_intros<;>kernel_rfl
theorem Z7b (x:W4) (n:Int):Z7 (Zm (Zk prog Zf Zn true) 3000 86 [vW x,.int .i64 n] [cmp false,cmp false,num 1]) (.int .u64 (Ztv (dn' x.b n))) (lu n::lb n 1):=by and_intros<;>kernel_rfl
theorem Z7c (x:W4) (n:Int):Z7 (Zm (Zk prog Zf Zn true) 3000 86 [vW x,.int .i64 n] [cmp false,cmp false,num 2]) (.int .u64 (Ztv (dn' x.c n))) (lu n::lb n 2):=by and_intros<;>kernel_rfl
theorem Z7d (x:W4) (n:Int):Z7 (Zm (Zk prog Zf Zn true) 3000 86 [vW x,.int .i64 n] [cmp false,cmp false,num 3]) (.int .u64 (Ztv (dn' x.d n))) (lu n::lb n 3):=by and_intros<;>kernel_rfl
def ZnK (x:W4) (n:Int):Int:=if n<0 then 0 else if 256≤n then 0 else x.val/2^n.toNat % 2
def Zxd (x:W4) (n:Int):Value:= .int .u64 (ZnK x n)
theorem Zr2 {n k:Int}(h1:¬ n<0) (h2:¬ 256≤n) (h3:n/64=k):Z3 (lb n k):=by
 refine ZL (by rfl) (ZL (dT ?_) (ZL (dF h2) (Ze6 (dF h1))));rw[Int.tdiv_eq_ediv_of_nonneg (by omega),ZbL (by omega) (by omega)];exact h3
theorem ZhD {x:W4}{n:Int}{a b:Int}(hn:0≤n) (ha:0≤a∧a<18446744073709551616) (hb:0≤b∧b<18446744073709551616) (h:(W4.of (x.val/2^n.toNat)).a=orr (dn' a n) (up' b n)):
  Ztv (dn' a n)=x.val/2^n.toNat % 2:=by
 obtain⟨l,o,d,s,m,l0,l1,e⟩:=zY hn ha hb;have ev:=ZqQ hn hb;rw[ZnJ d.1 d.2];rw[o] at h;unfold W4.of at h;dsimp only at h;omega
theorem Zr3 {x:W4}{n:Int}{a:Int}(hn:0≤n) (ha:0≤a∧a<18446744073709551616) (h:(W4.of (x.val/2^n.toNat)).a=dn' a n):Ztv (dn' a n)=x.val/2^n.toNat % 2:=by
 obtain⟨l,o,d,s,m,l0,l1,e⟩:=zY hn ha ha;rw[ZnJ d.1 d.2];unfold W4.of at h;dsimp only at h;omega
set_option maxRecDepth 100000 in
theorem ZnL (x:W4) (n:Int) (hx:x.ok) (_h0: -9223372036854775808≤n) (_h9:n≤9223372036854775807) (w:World):Calls prog 86 #[vW x,.int .i64 n] w fun e w'=>e= .returned (Zxd x n)∧Zal w w':=by
 unfold Zxd ZnK;by_cases h1:n<0
 ·rw[if_pos h1];exact Zc (Zj Zd) (Zxc x n) (Ze6 (dT h1)) (by rfl) (by rfl) w
 ·rw[if_neg h1];by_cases h2:256≤n
  ·rw[if_pos h2];exact Zc (Zj Zd) (Zr1 x n) (ZL (dT h2) (Ze6 (dF h1))) (by rfl) (by rfl) w
  ·rw[if_neg h2];have hn:0≤n:=by omega
   have u:=ZwN hn;obtain⟨k1,k2,k3,k4⟩:=hx;have hj:n/64=0∨n/64=1∨n/64=2∨n/64=3:=by omega
   rcases hj with hj | hj | hj | hj
   ·obtain⟨e1,_⟩:=Znc (x:=x) ⟨k1,k2,k3,k4⟩ hn hj;rw[← ZhD hn k1 k2 (by rw[← e1];rfl)];exact Zc (Zj Zd) (Z7a x n) (ZL u (Zr2 h1 h2 hj)) (by rfl) (by rfl) w
   ·obtain⟨e1,_⟩:=Znd (x:=x) ⟨k1,k2,k3,k4⟩ hn hj;rw[← ZhD hn k2 k3 (by rw[← e1];rfl)];exact Zc (Zj Zd) (Z7b x n) (ZL u (Zr2 h1 h2 hj)) (by rfl) (by rfl) w
   ·obtain⟨e1,_⟩:=Zne (x:=x) ⟨k1,k2,k3,k4⟩ hn hj;rw[← ZhD hn k3 k4 (by rw[← e1];rfl)];exact Zc (Zj Zd) (Z7c x n) (ZL u (Zr2 h1 h2 hj)) (by rfl) (by rfl) w
   ·obtain⟨e1,_⟩:=Znf (x:=x) ⟨k1,k2,k3,k4⟩ hn hj;rw[← Zr3 hn k4 (by rw[← e1];rfl)];exact Zc (Zj Zd) (Z7d x n) (ZL u (Zr2 h1 h2 hj)) (by rfl) (by rfl) w
end Go.Proofs.YtjlponbdflkbjaaGreatDoor
namespace Go.Proofs.YtjlponbdflkbjaaGreatDoor
open Go.Proofs.Tryz
open Go.IntKind
open Go.KRun Go.Wd Go.Pt Go.Rn
set_option maxRecDepth 100000
theorem u0 (c m:Int) (o n:Bool):Z7 (Zm (Zk prog Zf Zn true) 300 85 [.int .i64 c,.bool o,.bool n,.int .i64 m] [cmp true]) (Value.bool false) [(c==0,true)]:=by and_intros<;>kernel_rfl
theorem u2 (c m:Int) (o n:Bool):Z7 (Zm (Zk prog Zf Zn true) 300 85 [.int .i64 c,.bool o,.bool n,.int .i64 m] [cmp false,cmp true]) (Value.bool false) [(m==2,true),(c==0,false)]:=by and_intros<;>kernel_rfl
theorem u3 (c m:Int) (o n:Bool):Z7 (Zm (Zk prog Zf Zn true) 300 85 [.int .i64 c,.bool o,.bool n,.int .i64 m] [cmp false,cmp false,cmp true]) (Value.bool !n) [(m==3,true),(m==2,false),(c==0,false)]:=by and_intros<;>kernel_rfl
theorem u4 (c m:Int) (o n:Bool):Z7 (Zm (Zk prog Zf Zn true) 300 85 [.int .i64 c,.bool o,.bool n,.int .i64 m] [cmp false,cmp false,cmp false,cmp true]) (Value.bool n) [(m==4,true),(m==3,false),(m==2,false),(c==0,false)]:=by and_intros<;>kernel_rfl
theorem u1 (c m:Int) (o n:Bool):Z7 (Zm (Zk prog Zf Zn true) 300 85 [.int .i64 c,.bool o,.bool n,.int .i64 m] [cmp false,cmp false,cmp false,cmp false,cmp true]) (Value.bool (decide (c≥2))) [(m==1,true),(m==4,false),(m==3,false),(m==2,false),(c==0,false)]:=by and_intros<;>kernel_rfl
theorem ua (c m:Int) (o n:Bool):Z7 (Zm (Zk prog Zf Zn true) 300 85 [.int .i64 c,.bool o,.bool n,.int .i64 m] [cmp false,cmp false,cmp false,cmp false,cmp false,cmp true]) (Value.bool true) [(decide (c>2),true),(m==1,false),(m==4,false),(m==3,false),(m==2,false),(c==0,false)]:=by and_intros<;>kernel_rfl
theorem ub (c m:Int) (o n:Bool):Z7 (Zm (Zk prog Zf Zn true) 300 85 [.int .i64 c,.bool o,.bool n,.int .i64 m] [cmp false,cmp false,cmp false,cmp false,cmp false,cmp false,cmp true]) (Value.bool o) [(c==2,true),(decide (c>2),false),(m==1,false),(m==4,false),(m==3,false),(m==2,false),(c==0,false)]:=by and_intros<;>kernel_rfl
theorem uc (c m:Int) (o n:Bool):Z7 (Zm (Zk prog Zf Zn true) 300 85 [.int .i64 c,.bool o,.bool n,.int .i64 m] [cmp false,cmp false,cmp false,cmp false,cmp false,cmp false,cmp false]) (Value.bool false) [(c==2,false),(decide (c>2),false),(m==1,false),(m==4,false),(m==3,false),(m==2,false),(c==0,false)]:=by and_intros<;>kernel_rfl
def gUp:Ans:=fun vals s=>
 match vals with
 | [.int .i64 c,.bool o,.bool n,.int .i64 m]=>some (.bool (upR m n o c),s,[])
 | _=>none
theorem Zr4 (c m:Int) (o n:Bool) (w:World):Calls prog 85 #[.int .i64 c,.bool o,.bool n,.int .i64 m] w fun e w'=>e= .returned (.bool (upR m n o c))∧Zal w w':=by
 unfold upR;by_cases h0:c=0
 ·rw[if_pos h0];exact Zc (Zj Zd) (u0 c m o n) (by simp [ZcQ,ZoA,h0]) (by rfl) (by rfl) w
 ·rw[if_neg h0];by_cases h2:m=2
  ·rw[if_pos h2];exact Zc (Zj Zd) (u2 c m o n) (by simp [ZcQ,ZoA,h0,h2]) (by rfl) (by rfl) w
  ·rw[if_neg h2];by_cases h3:m=3
   ·rw[if_pos h3];exact Zc (Zj Zd) (u3 c m o n) (by simp [ZcQ,ZoA,h0,h3]) (by rfl) (by rfl) w
   ·rw[if_neg h3];by_cases h4:m=4
    ·rw[if_pos h4];exact Zc (Zj Zd) (u4 c m o n) (by simp [ZcQ,ZoA,h0,h4]) (by rfl) (by rfl) w
    ·rw[if_neg h4];by_cases h1:m=1
     ·rw[if_pos h1];exact Zc (Zj Zd) (u1 c m o n) (by simp [ZcQ,ZoA,h0,h1]) (by rfl) (by rfl) w
     ·rw[if_neg h1];by_cases ha:2<c
      ·have e:(decide (2<c) || (decide (c=2) && o))=true:=by simp [ha]
       rw[e];exact Zc (Zj Zd) (ua c m o n) (by simp [ZcQ,ZoA,h0,h1,h2,h3,h4,ha]) (by rfl) (by rfl) w
      ·by_cases hb:c=2
       ·have e:(decide (2<c) || (decide (c=2) && o))=o:=by simp [hb]
        rw[e];exact Zc (Zj Zd) (ub c m o n) (by simp [ZcQ,ZoA,h1,h2,h3,h4,hb]) (by rfl) (by rfl) w
       ·have e:(decide (2<c) || (decide (c=2) && o))=false:=by simp [ha,hb]
        rw[e];exact Zc (Zj Zd) (uc c m o n) (by simp [ZcQ,ZoA,h0,h1,h2,h3,h4,hb];omega) (by rfl) (by rfl) w
theorem Z2f:ZR 85 gUp:=by
 intro vals s v s' lg h hl w;unfold gUp at h;split at h
 ·cases h;exact Zr4 _ _ _ _ w
 ·cases h
def Z7e:Con:=alt 74 (g1n (Zdk ZnG)) (alt 125 (g1n Z6U) (alt 86 (g1n (Zdk Zxd)) (alt 82 (g1 Zxb) (alt 73 (g2 (ZiX ZwL)) Zn))))
theorem ZnM:ConOk Z7e:=Z9 func74 rfl (ZbZ Zes) (Z9 func125 rfl ZwP (Z9 func86 rfl (ZbZ ZnL) (Z9 func82 rfl (Z6Z Zkb) (Z9 func73 rfl (ZgI ZgJ) Zd))))
theorem ZfR {x:W4}(hx:x.ok) {n:Int}(hn:0≤n):Ze7 x n=ofN (x.nat*2^n.toNat):=by
 unfold Ze7;by_cases h1:n<1
 ·have:n=0:=by omega
  subst this;rw[if_pos h1];simp [ZdC hx]
 ·rw[if_neg h1];by_cases h2:256≤n
  ·rw[if_pos h2,Zwk (by omega)]
  ·rw[if_neg h2,W4.nat_val hx,cast_pow];unfold ofN;congr 1
theorem ZiZ {x:W4}(hx:x.ok) {n:Int}(hn:0≤n):ZjZ x n=ofN (x.nat/2^n.toNat):=by
 unfold ZjZ;by_cases h1:n<1
 ·have:n=0:=by omega
  subst this;rw[if_pos h1];simp [ZdC hx]
 ·rw[if_neg h1];by_cases h2:256≤n
  ·rw[if_pos h2,Zg9 (W4.nat_lt hx) (by omega),ZcB]
  ·rw[if_neg h2,W4.nat_val hx,cast_pow];unfold ofN;congr 1
theorem Zr5 {x:W4}(hx:x.ok) {n:Int}(hn:0≤n):ZgU x n=decide (x.nat % 2^n.toNat≠0):=by
 unfold ZgU;by_cases h1:n<1
 ·have:n=0:=by omega
  subst this;rw[if_pos h1];simp [Nat.mod_one]
 ·rw[if_neg h1];by_cases h2:256≤n
  ·rw[if_pos h2,Zng (W4.nat_lt hx) (by omega),W4.nat_val hx];congr 1;simp
  ·rw[if_neg h2,W4.nat_val hx,cast_pow];congr 1;have:((x.nat:Int) % ((2^n.toNat:Nat):Int))=((x.nat % 2^n.toNat:Nat):Int):=rfl;rw[this];simp only[ne_eq,eq_iff_iff];omega
theorem ZfS {x:W4}(hx:x.ok) {n:Int}(hn:0≤n):ZnK x n=((x.nat/2^n.toNat % 2:Nat):Int):=by
 unfold ZnK;rw[if_neg (by omega)];by_cases h2:256≤n
 ·rw[if_pos h2,Zg9 (W4.nat_lt hx) (by omega)];rfl
 ·rw[if_neg h2,W4.nat_val hx,cast_pow];rfl
def hv (x:W4) (b:Bool):W4:=match b with | true=>⟨bOr (Ze7 x 1).a 1,(Ze7 x 1).b,(Ze7 x 1).c,(Ze7 x 1).d⟩ | false=>Ze7 x 1
def Z9C (x:W4):Bool×Bool:=(decide (x.ok∧(-9223372036854775808:Int)≤1∧(1:Int)≤9223372036854775807),true)
theorem Zxe (x:W4) (b:Bool):Z7 (Zm (Zk prog Zf Z7e true) 300 83 [vW x,.bool b] []) (vW (hv x b)) [Z9C x]:=by
 cases b<;>exact by and_intros<;>kernel_rfl
theorem Zr6 (x y:Int):bOr x y=bOr y x:=by unfold bOr;rw[BitVec.or_comm]
theorem Z7f {x:W4}(hx:x.ok) (b:Bool):hv x b=ofN (tw x b):=by
 have e1:=ZfR hx (n:=1) (by omega);have e2:x.nat*2^(1:Int).toNat=2*x.nat:=by simp [Nat.mul_comm]
 rw[e2] at e1;cases b
 ·unfold hv tw;simp only[Nat.add_zero];exact e1
 ·unfold hv tw;simp only;rw[e1];have e3:bOr (ofN (2*x.nat)).a 1=(ofN (2*x.nat)).a+1:=by
   have hb:0≤(ofN (2*x.nat)).a∧(ofN (2*x.nat)).a<18446744073709551616:=(zO _).1;have hev:(ofN (2*x.nat)).a % 2=0:=by unfold ofN W4.of;dsimp only;omega
   rw[Zr6,or_low 1 (z:=(ofN (2*x.nat)).a/2) (by omega) (by omega) (by omega) (by decide) (by omega)]
  rw[e3];unfold ofN W4.of;refine W4.ext' ?_ ?_ ?_ ?_<;>dsimp only<;>omega
def gHv:Ans:=fun vals s=>
 match vals with
 | [x,.bool b]=>
  match w4 x with
  | some a=>some (vW (ofN (tw a b)),s,[(decide a.ok,true)])
  | none=>none
 | _=>none
theorem Z2g:ZR 83 gHv:=by
 intro vals s v s' lg h hl w;unfold gHv at h;split at h
 ·split at h
  ·rename_i a ha;cases h;have h1:a.ok:=oT (hl _ mS);rw[Zer ha,← Z7f h1];exact Zc (Zj ZnM) (Zxe a _) (Z4 (dT ⟨h1,by omega,by omega⟩)) (by rfl) (by rfl) w
  ·cases h
 ·cases h
def Ztw:Con:=alt 83 gHv Z7e
theorem Zbu:ConOk Ztw:=Z9 func83 rfl Z2g ZnM
def vN (n:Bool) (e:Int) (x:W4) (b:Bool):Value:= .agg #[.bool n,.int .i64 e,.int .u64 x.a,.int .u64 x.b,.int .u64 x.c,.int .u64 x.d,.bool b]
def n7:Value→Option (Bool×Int×W4×Bool)
 | .agg cs=>
  match cs.toList with
  | [.bool n,.int .i64 e,.int .u64 a,.int .u64 b,.int .u64 c,.int .u64 d,.bool m]=>some (n,e,⟨a,b,c,d⟩,m)
  | _=>none
 | _=>none
theorem Zco {v:Value}{n m:Bool}{e:Int}{x:W4}(h:n7 v=some (n,e,x,m)):v=vN n e x m:=by
 unfold n7 at h;split at h
 ·rename_i cs;split at h
  ·rename_i a b c d hc;cases h;obtain⟨l⟩:=cs;simp only at hc;subst hc;rfl
  ·cases h
 ·cases h
def lok (x:W4) (n:Int):Bool×Bool:=(decide (x.ok∧ -9223372036854775808≤n∧n≤9223372036854775807),true)
def dnI (ex e:Int):Int:=i64.wrap (e-ex)
def dn1 (ex e:Int):Int:=i64.wrap (i64.wrap (e-ex)-1)
def ctV (x:W4) (ex e c:Int):Value:= .tuple #[vW (ZjZ x (dnI ex e)),.int .i64 c]
theorem ct0 (n:Bool) (x:W4) (ex e:Int):Z7 (Zm (Zk prog Zf Ztw true) 300 84 [vN n ex x false,.int .i64 e] [cmp false]) (ctV x ex e 0) [lok x (dnI ex e),(ZgU x (dnI ex e),false)]:=by and_intros<;>kernel_rfl
theorem ct1 (n:Bool) (x:W4) (ex e:Int):Z7 (Zm (Zk prog Zf Ztw true) 300 84 [vN n ex x true,.int .i64 e] [cmp false,cmp true]) (ctV x ex e 2) [(dnI ex e==0,true),lok x (dnI ex e),(ZgU x (dnI ex e),false)]:=by and_intros<;>kernel_rfl
theorem ct2 (n:Bool) (x:W4) (ex e:Int) (d:Bool):Z7 (Zm (Zk prog Zf Ztw true) 300 84 [vN n ex x true,.int .i64 e] [cmp false,cmp false,cmp d]) (ctV x ex e (match d with | true=>1 | false=>3)) [(ZnK x (dn1 ex e)==0,d),lok x (dn1 ex e),(dnI ex e==0,false),lok x (dnI ex e),(ZgU x (dnI ex e),false)]:=by
 cases d<;>exact by and_intros<;>kernel_rfl
theorem ct4 (n b:Bool) (x:W4) (ex e:Int):Z7 (Zm (Zk prog Zf Ztw true) 300 84 [vN n ex x b,.int .i64 e] [cmp true,cmp false,cmp true]) (ctV x ex e 1) [(ZnK x (dn1 ex e)==0,true),lok x (dn1 ex e),(dnI ex e==0,false),lok x (dnI ex e),(ZgU x (dnI ex e),true)]:=by and_intros<;>kernel_rfl
theorem ct5 (n:Bool) (x:W4) (ex e:Int):Z7 (Zm (Zk prog Zf Ztw true) 300 84 [vN n ex x true,.int .i64 e] [cmp true,cmp false,cmp false]) (ctV x ex e 3) [(ZnK x (dn1 ex e)==0,false),lok x (dn1 ex e),(dnI ex e==0,false),lok x (dnI ex e),(ZgU x (dnI ex e),true)]:=by and_intros<;>kernel_rfl
def bkW (x:W4) (ex e:Int):W4:=Ze7 (ofN (tw (ZjZ x (dnI ex e)) true)) (dn1 ex e)
theorem ct6 (n:Bool) (x:W4) (ex e:Int) (d:Bool):Z7 (Zm (Zk prog Zf Ztw true) 300 84 [vN n ex x false,.int .i64 e] [cmp true,cmp false,cmp false,sam d]) (ctV x ex e (match d with | true=>3 | false=>2)) [(!(eqW x (bkW x ex e)),d),lok (ofN (tw (ZjZ x (dnI ex e)) true)) (dn1 ex e),(decide (ZjZ x (dnI ex e)).ok,true),(ZnK x (dn1 ex e)==0,false),lok x (dn1 ex e),(dnI ex e==0,false),lok x (dnI ex e),(ZgU x (dnI ex e),true)]:=by
 cases d<;>exact by and_intros<;>kernel_rfl
end Go.Proofs.YtjlponbdflkbjaaGreatDoor
namespace Go.Rd
open Go.IntKind
open Go.Wd
def orW (y w:Int) (s:Nat):Int:=u64.wrap (((BitVec.ofInt 64 y ||| BitVec.ofInt 64 (u64.wrap (u64.wrap w*2^s))).toNat:Nat):Int)
theorem ZhE {z:Int}(h0:0≤z) (h1:z<18446744073709551616):u64.wrap z=z:=by
 simp [IntKind.wrap,IntKind.bits,IntKind.signed];omega
theorem ZbQ {y w s:Nat}(hs:s=0∨s=32) (hy:y<2^s) (hw:w<4294967296):orW (y:Int) (w:Int) s=((y+w*2^s:Nat):Int):=by
 have e32:(2:Nat)^32=4294967296:=rfl;have e0:(2:Nat)^0=1:=rfl;have hb:y+w*2^s<18446744073709551616:=by rcases hs with rfl | rfl<;>omega
 have hy2:y<18446744073709551616:=by omega
 have e1:((w:Nat):Int)*2^s=((w*2^s:Nat):Int):=by rw[cast_pow,Int.natCast_mul]
 have h64:((2:Nat)^64:Nat)=18446744073709551616:=rfl;have b1:∀ z:Nat,z<18446744073709551616→(BitVec.ofInt 64 (z:Int)).toNat=z:=fun z hz=>by
  rw[BitVec.toNat_ofInt];omega
 unfold orW;rw[ZhE (z:=(w:Int)) (by omega) (by omega),e1,ZhE (z:=((w*2^s:Nat):Int)) (by omega) (by omega),BitVec.toNat_or,b1 y hy2,b1 _ (by omega)];have h:=Nat.shiftLeft_add_eq_or_of_lt (i:=s) hy w;rw[Nat.shiftLeft_eq,Nat.or_comm] at h;rw[← h,ZhE (by omega) (by omega),Nat.add_comm]
def Z7g (x:W4) (w:Int):W4:=⟨orW x.a w 0,x.b,x.c,x.d⟩
theorem Zxf {V w:Nat}(hV:V<1) (hw:w<4294967296):Z7g (ofN V) (w:Int)=ofN (V+1*w):=by
 have e:(ofN V).a=((V:Nat):Int):=by
  show ((V:Nat):Int) % 18446744073709551616=_;omega
 have q:=ZbQ (y:=V) (w:=w) (s:=0) (by omega) (by have h1:(2:Nat)^0=1:=rfl;omega) hw;have h2:(2:Nat)^0=1:=rfl;rw[h2] at q;unfold Z7g;refine W4.ext' ?_ ?_ ?_ ?_
 ·show orW (ofN V).a w 0=((V+1*w:Nat):Int) % 18446744073709551616;rw[e,q];omega
 ·show ((V:Nat):Int)/18446744073709551616 % 18446744073709551616=((V+1*w:Nat):Int)/18446744073709551616 % 18446744073709551616;omega
 ·show ((V:Nat):Int)/340282366920938463463374607431768211456 % 18446744073709551616=((V+1*w:Nat):Int)/340282366920938463463374607431768211456 % 18446744073709551616;omega
 ·show ((V:Nat):Int)/6277101735386680763835789423207666416102355444464034512896 % 18446744073709551616=((V+1*w:Nat):Int)/6277101735386680763835789423207666416102355444464034512896 % 18446744073709551616;omega
def Z7h (x:W4) (w:Int):W4:=⟨orW x.a w 32,x.b,x.c,x.d⟩
theorem Zxg {V w:Nat}(hV:V<4294967296) (hw:w<4294967296):Z7h (ofN V) (w:Int)=ofN (V+4294967296*w):=by
 have e:(ofN V).a=((V:Nat):Int):=by
  show ((V:Nat):Int) % 18446744073709551616=_;omega
 have q:=ZbQ (y:=V) (w:=w) (s:=32) (by omega) (by have h1:(2:Nat)^32=4294967296:=rfl;omega) hw;have h2:(2:Nat)^32=4294967296:=rfl;rw[h2] at q;unfold Z7h;refine W4.ext' ?_ ?_ ?_ ?_
 ·show orW (ofN V).a w 32=((V+4294967296*w:Nat):Int) % 18446744073709551616;rw[e,q];omega
 ·show ((V:Nat):Int)/18446744073709551616 % 18446744073709551616=((V+4294967296*w:Nat):Int)/18446744073709551616 % 18446744073709551616;omega
 ·show ((V:Nat):Int)/340282366920938463463374607431768211456 % 18446744073709551616=((V+4294967296*w:Nat):Int)/340282366920938463463374607431768211456 % 18446744073709551616;omega
 ·show ((V:Nat):Int)/6277101735386680763835789423207666416102355444464034512896 % 18446744073709551616=((V+4294967296*w:Nat):Int)/6277101735386680763835789423207666416102355444464034512896 % 18446744073709551616;omega
def Z7i (x:W4) (w:Int):W4:=⟨x.a,orW x.b w 0,x.c,x.d⟩
theorem Zxh {V w:Nat}(hV:V<18446744073709551616) (hw:w<4294967296):Z7i (ofN V) (w:Int)=ofN (V+18446744073709551616*w):=by
 have e:(ofN V).b=((V/18446744073709551616:Nat):Int):=by
  show ((V:Nat):Int)/18446744073709551616 % 18446744073709551616=_;omega
 have q:=ZbQ (y:=V/18446744073709551616) (w:=w) (s:=0) (by omega) (by have h1:(2:Nat)^0=1:=rfl;omega) hw;have h2:(2:Nat)^0=1:=rfl;rw[h2] at q;unfold Z7i;refine W4.ext' ?_ ?_ ?_ ?_
 ·show ((V:Nat):Int) % 18446744073709551616=((V+18446744073709551616*w:Nat):Int) % 18446744073709551616;omega
 ·show orW (ofN V).b w 0=((V+18446744073709551616*w:Nat):Int)/18446744073709551616 % 18446744073709551616;rw[e,q];omega
 ·show ((V:Nat):Int)/340282366920938463463374607431768211456 % 18446744073709551616=((V+18446744073709551616*w:Nat):Int)/340282366920938463463374607431768211456 % 18446744073709551616;omega
 ·show ((V:Nat):Int)/6277101735386680763835789423207666416102355444464034512896 % 18446744073709551616=((V+18446744073709551616*w:Nat):Int)/6277101735386680763835789423207666416102355444464034512896 % 18446744073709551616;omega
def Z7j (x:W4) (w:Int):W4:=⟨x.a,orW x.b w 32,x.c,x.d⟩
theorem Zxi {V w:Nat}(hV:V<79228162514264337593543950336) (hw:w<4294967296):Z7j (ofN V) (w:Int)=ofN (V+79228162514264337593543950336*w):=by
 have e:(ofN V).b=((V/18446744073709551616:Nat):Int):=by
  show ((V:Nat):Int)/18446744073709551616 % 18446744073709551616=_;omega
 have q:=ZbQ (y:=V/18446744073709551616) (w:=w) (s:=32) (by omega) (by have h1:(2:Nat)^32=4294967296:=rfl;omega) hw;have h2:(2:Nat)^32=4294967296:=rfl;rw[h2] at q;unfold Z7j;refine W4.ext' ?_ ?_ ?_ ?_
 ·show ((V:Nat):Int) % 18446744073709551616=((V+79228162514264337593543950336*w:Nat):Int) % 18446744073709551616;omega
 ·show orW (ofN V).b w 32=((V+79228162514264337593543950336*w:Nat):Int)/18446744073709551616 % 18446744073709551616;rw[e,q];omega
 ·show ((V:Nat):Int)/340282366920938463463374607431768211456 % 18446744073709551616=((V+79228162514264337593543950336*w:Nat):Int)/340282366920938463463374607431768211456 % 18446744073709551616;omega
 ·show ((V:Nat):Int)/6277101735386680763835789423207666416102355444464034512896 % 18446744073709551616=((V+79228162514264337593543950336*w:Nat):Int)/6277101735386680763835789423207666416102355444464034512896 % 18446744073709551616;omega
def Z7k (x:W4) (w:Int):W4:=⟨x.a,x.b,orW x.c w 0,x.d⟩
theorem Zxj {V w:Nat}(hV:V<340282366920938463463374607431768211456) (hw:w<4294967296):Z7k (ofN V) (w:Int)=ofN (V+340282366920938463463374607431768211456*w):=by
 have e:(ofN V).c=((V/340282366920938463463374607431768211456:Nat):Int):=by
  show ((V:Nat):Int)/340282366920938463463374607431768211456 % 18446744073709551616=_;omega
 have q:=ZbQ (y:=V/340282366920938463463374607431768211456) (w:=w) (s:=0) (by omega) (by have h1:(2:Nat)^0=1:=rfl;omega) hw;have h2:(2:Nat)^0=1:=rfl;rw[h2] at q;unfold Z7k;refine W4.ext' ?_ ?_ ?_ ?_
 ·show ((V:Nat):Int) % 18446744073709551616=((V+340282366920938463463374607431768211456*w:Nat):Int) % 18446744073709551616;omega
 ·show ((V:Nat):Int)/18446744073709551616 % 18446744073709551616=((V+340282366920938463463374607431768211456*w:Nat):Int)/18446744073709551616 % 18446744073709551616;omega
 ·show orW (ofN V).c w 0=((V+340282366920938463463374607431768211456*w:Nat):Int)/340282366920938463463374607431768211456 % 18446744073709551616;rw[e,q];omega
 ·show ((V:Nat):Int)/6277101735386680763835789423207666416102355444464034512896 % 18446744073709551616=((V+340282366920938463463374607431768211456*w:Nat):Int)/6277101735386680763835789423207666416102355444464034512896 % 18446744073709551616;omega
def Z7l (x:W4) (w:Int):W4:=⟨x.a,x.b,orW x.c w 32,x.d⟩
theorem Zxk {V w:Nat}(hV:V<1461501637330902918203684832716283019655932542976) (hw:w<4294967296):Z7l (ofN V) (w:Int)=ofN (V+1461501637330902918203684832716283019655932542976*w):=by
 have e:(ofN V).c=((V/340282366920938463463374607431768211456:Nat):Int):=by
  show ((V:Nat):Int)/340282366920938463463374607431768211456 % 18446744073709551616=_;omega
 have q:=ZbQ (y:=V/340282366920938463463374607431768211456) (w:=w) (s:=32) (by omega) (by have h1:(2:Nat)^32=4294967296:=rfl;omega) hw;have h2:(2:Nat)^32=4294967296:=rfl;rw[h2] at q;unfold Z7l;refine W4.ext' ?_ ?_ ?_ ?_
 ·show ((V:Nat):Int) % 18446744073709551616=((V+1461501637330902918203684832716283019655932542976*w:Nat):Int) % 18446744073709551616;omega
 ·show ((V:Nat):Int)/18446744073709551616 % 18446744073709551616=((V+1461501637330902918203684832716283019655932542976*w:Nat):Int)/18446744073709551616 % 18446744073709551616;omega
 ·show orW (ofN V).c w 32=((V+1461501637330902918203684832716283019655932542976*w:Nat):Int)/340282366920938463463374607431768211456 % 18446744073709551616;rw[e,q];omega
 ·show ((V:Nat):Int)/6277101735386680763835789423207666416102355444464034512896 % 18446744073709551616=((V+1461501637330902918203684832716283019655932542976*w:Nat):Int)/6277101735386680763835789423207666416102355444464034512896 % 18446744073709551616;omega
def Z7m (x:W4) (w:Int):W4:=⟨x.a,x.b,x.c,orW x.d w 0⟩
theorem Zxl {V w:Nat}(hV:V<6277101735386680763835789423207666416102355444464034512896) (hw:w<4294967296):Z7m (ofN V) (w:Int)=ofN (V+6277101735386680763835789423207666416102355444464034512896*w):=by
 have e:(ofN V).d=((V/6277101735386680763835789423207666416102355444464034512896:Nat):Int):=by
  show ((V:Nat):Int)/6277101735386680763835789423207666416102355444464034512896 % 18446744073709551616=_;omega
 have q:=ZbQ (y:=V/6277101735386680763835789423207666416102355444464034512896) (w:=w) (s:=0) (by omega) (by have h1:(2:Nat)^0=1:=rfl;omega) hw;have h2:(2:Nat)^0=1:=rfl;rw[h2] at q;unfold Z7m;refine W4.ext' ?_ ?_ ?_ ?_
 ·show ((V:Nat):Int) % 18446744073709551616=((V+6277101735386680763835789423207666416102355444464034512896*w:Nat):Int) % 18446744073709551616;omega
 ·show ((V:Nat):Int)/18446744073709551616 % 18446744073709551616=((V+6277101735386680763835789423207666416102355444464034512896*w:Nat):Int)/18446744073709551616 % 18446744073709551616;omega
 ·show ((V:Nat):Int)/340282366920938463463374607431768211456 % 18446744073709551616=((V+6277101735386680763835789423207666416102355444464034512896*w:Nat):Int)/340282366920938463463374607431768211456 % 18446744073709551616;omega
 ·show orW (ofN V).d w 0=((V+6277101735386680763835789423207666416102355444464034512896*w:Nat):Int)/6277101735386680763835789423207666416102355444464034512896 % 18446744073709551616;rw[e,q];omega
def Z7n (x:W4) (w:Int):W4:=⟨x.a,x.b,x.c,orW x.d w 32⟩
theorem Zxm {V w:Nat}(hV:V<26959946667150639794667015087019630673637144422540572481103610249216) (hw:w<4294967296):Z7n (ofN V) (w:Int)=ofN (V+26959946667150639794667015087019630673637144422540572481103610249216*w):=by
 have e:(ofN V).d=((V/6277101735386680763835789423207666416102355444464034512896:Nat):Int):=by
  show ((V:Nat):Int)/6277101735386680763835789423207666416102355444464034512896 % 18446744073709551616=_;omega
 have q:=ZbQ (y:=V/6277101735386680763835789423207666416102355444464034512896) (w:=w) (s:=32) (by omega) (by have h1:(2:Nat)^32=4294967296:=rfl;omega) hw;have h2:(2:Nat)^32=4294967296:=rfl;rw[h2] at q;unfold Z7n;refine W4.ext' ?_ ?_ ?_ ?_
 ·show ((V:Nat):Int) % 18446744073709551616=((V+26959946667150639794667015087019630673637144422540572481103610249216*w:Nat):Int) % 18446744073709551616;omega
 ·show ((V:Nat):Int)/18446744073709551616 % 18446744073709551616=((V+26959946667150639794667015087019630673637144422540572481103610249216*w:Nat):Int)/18446744073709551616 % 18446744073709551616;omega
 ·show ((V:Nat):Int)/340282366920938463463374607431768211456 % 18446744073709551616=((V+26959946667150639794667015087019630673637144422540572481103610249216*w:Nat):Int)/340282366920938463463374607431768211456 % 18446744073709551616;omega
 ·show orW (ofN V).d w 32=((V+26959946667150639794667015087019630673637144422540572481103610249216*w:Nat):Int)/6277101735386680763835789423207666416102355444464034512896 % 18446744073709551616;rw[e,q];omega
end Go.Rd
