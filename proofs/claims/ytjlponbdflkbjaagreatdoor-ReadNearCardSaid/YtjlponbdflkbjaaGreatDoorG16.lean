/-
  RnA, NumRn, RpE, RpF, RpH, RpI, RnB, RnC
-/
import Derived.Test.YtjlponbdflkbjaaGreatDoorG15
namespace Go.Proofs.YtjlponbdflkbjaaGreatDoor
open Go.Proofs.Tryz
open Go.IntKind
open Go.KRun Go.Wd Go.Pt Go.Rn
set_option maxRecDepth 100000
theorem u0 (c m:Int) (o n:Bool):Z7 (Zm (Zk prog Zf Zn true) 300 85 [.int .i64 c,.bool o,.bool n,.int .i64 m] [cmp true]) (Value.bool false) [(c==0,true)]:=by and_intros<;>kernel_rfl
theorem u2 (c m:Int) (o n:Bool):Z7 (Zm (Zk prog Zf Zn true) 300 85 [.int .i64 c,.bool o,.bool n,.int .i64 m] [cmp false,cmp true]) (Value.bool false) [(m==2,true),(c==0,false)]:=by and_intros<;>kernel_rfl
theorem u3 (c m:Int) (o n:Bool):Z7 (Zm (Zk prog Zf Zn true) 300 85 [.int .i64 c,.bool o,.bool n,.int .i64 m] [cmp false,cmp false,cmp true]) (Value.bool !n) [(m==3,true),(m==2,false),(c==0,false)]:=by and_intros<;>kernel_rfl
theorem u4 (c m:Int) (o n:Bool):Z7 (Zm (Zk prog Zf Zn true) 300 85 [.int .i64 c,.bool o,.bool n,.int .i64 m] [cmp false,cmp false,cmp false,cmp true]) (Value.bool n) [(m==4,true),(m==3,false),(m==2,false),(c==0,false)]:=by and_intros<;>kernel_rfl
theorem u1 (c m:Int) (o n:Bool):Z7 (Zm (Zk prog Zf Zn true) 300 85 [.int .i64 c,.bool o,.bool n,.int .i64 m] [cmp false,cmp false,cmp false,cmp false,cmp true]) (Value.bool (decide (c≥2))) [(m==1,true),(m==4,false),(m==3,false),(m==2,false),(c==0,false)]:=by and_intros<;>kernel_rfl
theorem ua (c m:Int) (o n:Bool):Z7 (Zm (Zk prog Zf Zn true) 300 85 [.int .i64 c,.bool o,.bool n,.int .i64 m] [cmp false,cmp false,cmp false,cmp false,cmp false,cmp true]) (Value.bool true) [(decide (c>2),true),(m==1,false),(m==4,false),(m==3,false),(m==2,false),(c==0,false)]:=by and_intros<;>kernel_rfl
theorem ub (c m:Int) (o n:Bool):Z7 (Zm (Zk prog Zf Zn true) 300 85 [.int .i64 c,.bool o,.bool n,.int .i64 m] [cmp false,cmp false,cmp false,cmp false,cmp false,cmp false,cmp true]) (Value.bool o) [(c==2,true),(decide (c>2),false),(m==1,false),(m==4,false),(m==3,false),(m==2,false),(c==0,false)]:=by and_intros<;>kernel_rfl
theorem uc (c m:Int) (o n:Bool):Z7 (Zm (Zk prog Zf Zn true) 300 85 [.int .i64 c,.bool o,.bool n,.int .i64 m] [cmp false,cmp false,cmp false,cmp false,cmp false,cmp false,cmp false]) (Value.bool false) [(c==2,false),(decide (c>2),false),(m==1,false),(m==4,false),(m==3,false),(m==2,false),(c==0,false)]:=by and_intros<;>kernel_rfl
def gUp:Ans:=fun vals s=>
 match vals with
 | [.int .i64 c,.bool o,.bool n,.int .i64 m]=>some (.bool (upR m n o c),s,[])
 | _=>none
theorem Zr4 (c m:Int) (o n:Bool) (w:World):Calls prog 85 #[.int .i64 c,.bool o,.bool n,.int .i64 m] w fun e w'=>e= .returned (.bool (upR m n o c))∧Zal w w':=by
 unfold upR;by_cases h0:c=0
 ·rw[if_pos h0];exact Zc (Zj Zd) (u0 c m o n) (by simp [ZcQ,ZoA,h0]) (by rfl) (by rfl) w
 ·rw[if_neg h0];by_cases h2:m=2
  ·rw[if_pos h2];exact Zc (Zj Zd) (u2 c m o n) (by simp [ZcQ,ZoA,h0,h2]) (by rfl) (by rfl) w
  ·rw[if_neg h2];by_cases h3:m=3
   ·rw[if_pos h3];exact Zc (Zj Zd) (u3 c m o n) (by simp [ZcQ,ZoA,h0,h3]) (by rfl) (by rfl) w
   ·rw[if_neg h3];by_cases h4:m=4
    ·rw[if_pos h4];exact Zc (Zj Zd) (u4 c m o n) (by simp [ZcQ,ZoA,h0,h4]) (by rfl) (by rfl) w
    ·rw[if_neg h4];by_cases h1:m=1
     ·rw[if_pos h1];exact Zc (Zj Zd) (u1 c m o n) (by simp [ZcQ,ZoA,h0,h1]) (by rfl) (by rfl) w
     ·rw[if_neg h1];by_cases ha:2<c
      ·have e:(decide (2<c) || (decide (c=2) && o))=true:=by simp [ha]
       rw[e];exact Zc (Zj Zd) (ua c m o n) (by simp [ZcQ,ZoA,h0,h1,h2,h3,h4,ha]) (by rfl) (by rfl) w
      ·by_cases hb:c=2
       ·have e:(decide (2<c) || (decide (c=2) && o))=o:=by simp [hb]
        rw[e];exact Zc (Zj Zd) (ub c m o n) (by simp [ZcQ,ZoA,h1,h2,h3,h4,hb]) (by rfl) (by rfl) w
       ·have e:(decide (2<c) || (decide (c=2) && o))=false:=by simp [ha,hb]
        rw[e];exact Zc (Zj Zd) (uc c m o n) (by simp [ZcQ,ZoA,h0,h1,h2,h3,h4,hb];omega) (by rfl) (by rfl) w
theorem Z2f:ZR 85 gUp:=by
 intro vals s v s' lg h hl w;unfold gUp at h;split at h
 ·cases h;exact Zr4 _ _ _ _ w
 ·cases h
def Z7e:Con:=alt 74 (g1n (Zdk ZnG)) (alt 125 (g1n Z6U) (alt 86 (g1n (Zdk Zxd)) (alt 82 (g1 Zxb) (alt 73 (g2 (ZiX ZwL)) Zn))))
theorem ZnM:ConOk Z7e:=Z9 func74 rfl (ZbZ Zes) (Z9 func125 rfl ZwP (Z9 func86 rfl (ZbZ ZnL) (Z9 func82 rfl (Z6Z Zkb) (Z9 func73 rfl (ZgI ZgJ) Zd))))
theorem ZfR {x:W4}(hx:x.ok) {n:Int}(hn:0≤n):Ze7 x n=ofN (x.nat*2^n.toNat):=by
 unfold Ze7;by_cases h1:n<1
 ·have:n=0:=by omega
  subst this;rw[if_pos h1];simp [ZdC hx]
 ·rw[if_neg h1];by_cases h2:256≤n
  ·rw[if_pos h2,Zwk (by omega)]
  ·rw[if_neg h2,W4.nat_val hx,cast_pow];unfold ofN;congr 1
theorem ZiZ {x:W4}(hx:x.ok) {n:Int}(hn:0≤n):ZjZ x n=ofN (x.nat/2^n.toNat):=by
 unfold ZjZ;by_cases h1:n<1
 ·have:n=0:=by omega
  subst this;rw[if_pos h1];simp [ZdC hx]
 ·rw[if_neg h1];by_cases h2:256≤n
  ·rw[if_pos h2,Zg9 (W4.nat_lt hx) (by omega),ZcB]
  ·rw[if_neg h2,W4.nat_val hx,cast_pow];unfold ofN;congr 1
theorem Zr5 {x:W4}(hx:x.ok) {n:Int}(hn:0≤n):ZgU x n=decide (x.nat % 2^n.toNat≠0):=by
 unfold ZgU;by_cases h1:n<1
 ·have:n=0:=by omega
  subst this;rw[if_pos h1];simp [Nat.mod_one]
 ·rw[if_neg h1];by_cases h2:256≤n
  ·rw[if_pos h2,Zng (W4.nat_lt hx) (by omega),W4.nat_val hx];congr 1;simp
  ·rw[if_neg h2,W4.nat_val hx,cast_pow];congr 1;have:((x.nat:Int) % ((2^n.toNat:Nat):Int))=((x.nat % 2^n.toNat:Nat):Int):=rfl;rw[this];simp only[ne_eq,eq_iff_iff];omega
theorem ZfS {x:W4}(hx:x.ok) {n:Int}(hn:0≤n):ZnK x n=((x.nat/2^n.toNat % 2:Nat):Int):=by
 unfold ZnK;rw[if_neg (by omega)];by_cases h2:256≤n
 ·rw[if_pos h2,Zg9 (W4.nat_lt hx) (by omega)];rfl
 ·rw[if_neg h2,W4.nat_val hx,cast_pow];rfl
def hv (x:W4) (b:Bool):W4:=match b with | true=>⟨bOr (Ze7 x 1).a 1,(Ze7 x 1).b,(Ze7 x 1).c,(Ze7 x 1).d⟩ | false=>Ze7 x 1
def Z9C (x:W4):Bool×Bool:=(decide (x.ok∧(-9223372036854775808:Int)≤1∧(1:Int)≤9223372036854775807),true)
theorem Zxe (x:W4) (b:Bool):Z7 (Zm (Zk prog Zf Z7e true) 300 83 [vW x,.bool b] []) (vW (hv x b)) [Z9C x]:=by
 cases b<;>exact by and_intros<;>kernel_rfl
theorem Zr6 (x y:Int):bOr x y=bOr y x:=by unfold bOr;rw[BitVec.or_comm]
theorem Z7f {x:W4}(hx:x.ok) (b:Bool):hv x b=ofN (tw x b):=by
 have e1:=ZfR hx (n:=1) (by omega);have e2:x.nat*2^(1:Int).toNat=2*x.nat:=by simp [Nat.mul_comm]
 rw[e2] at e1;cases b
 ·unfold hv tw;simp only[Nat.add_zero];exact e1
 ·unfold hv tw;simp only;rw[e1];have e3:bOr (ofN (2*x.nat)).a 1=(ofN (2*x.nat)).a+1:=by
   have hb:0≤(ofN (2*x.nat)).a∧(ofN (2*x.nat)).a<18446744073709551616:=(zO _).1;have hev:(ofN (2*x.nat)).a % 2=0:=by unfold ofN W4.of;dsimp only;omega
   rw[Zr6,or_low 1 (z:=(ofN (2*x.nat)).a/2) (by omega) (by omega) (by omega) (by decide) (by omega)]
  rw[e3];unfold ofN W4.of;refine W4.ext' ?_ ?_ ?_ ?_<;>dsimp only<;>omega
def gHv:Ans:=fun vals s=>
 match vals with
 | [x,.bool b]=>
  match w4 x with
  | some a=>some (vW (ofN (tw a b)),s,[(decide a.ok,true)])
  | none=>none
 | _=>none
theorem Z2g:ZR 83 gHv:=by
 intro vals s v s' lg h hl w;unfold gHv at h;split at h
 ·split at h
  ·rename_i a ha;cases h;have h1:a.ok:=Xc (hl _ Xf);rw[Zer ha,← Z7f h1];exact Zc (Zj ZnM) (Zxe a _) (Z4 (Xa ⟨h1,by omega,by omega⟩)) (by rfl) (by rfl) w
  ·cases h
 ·cases h
def Ztw:Con:=alt 83 gHv Z7e
theorem Zbu:ConOk Ztw:=Z9 func83 rfl Z2g ZnM
def vN (n:Bool) (e:Int) (x:W4) (b:Bool):Value:= .agg #[.bool n,.int .i64 e,.int .u64 x.a,.int .u64 x.b,.int .u64 x.c,.int .u64 x.d,.bool b]
def n7:Value→Option (Bool×Int×W4×Bool)
 | .agg cs=>
  match cs.toList with
  | [.bool n,.int .i64 e,.int .u64 a,.int .u64 b,.int .u64 c,.int .u64 d,.bool m]=>some (n,e,⟨a,b,c,d⟩,m)
  | _=>none
 | _=>none
theorem Zco {v:Value}{n m:Bool}{e:Int}{x:W4}(h:n7 v=some (n,e,x,m)):v=vN n e x m:=by
 unfold n7 at h;split at h
 ·rename_i cs;split at h
  ·rename_i a b c d hc;cases h;obtain⟨l⟩:=cs;simp only at hc;subst hc;rfl
  ·cases h
 ·cases h
def lok (x:W4) (n:Int):Bool×Bool:=(decide (x.ok∧ -9223372036854775808≤n∧n≤9223372036854775807),true)
def dnI (ex e:Int):Int:=i64.wrap (e-ex)
def dn1 (ex e:Int):Int:=i64.wrap (i64.wrap (e-ex)-1)
def ctV (x:W4) (ex e c:Int):Value:= .tuple #[vW (ZjZ x (dnI ex e)),.int .i64 c]
theorem ct0 (n:Bool) (x:W4) (ex e:Int):Z7 (Zm (Zk prog Zf Ztw true) 300 84 [vN n ex x false,.int .i64 e] [cmp false]) (ctV x ex e 0) [lok x (dnI ex e),(ZgU x (dnI ex e),false)]:=by and_intros<;>kernel_rfl
theorem ct1 (n:Bool) (x:W4) (ex e:Int):Z7 (Zm (Zk prog Zf Ztw true) 300 84 [vN n ex x true,.int .i64 e] [cmp false,cmp true]) (ctV x ex e 2) [(dnI ex e==0,true),lok x (dnI ex e),(ZgU x (dnI ex e),false)]:=by and_intros<;>kernel_rfl
theorem ct2 (n:Bool) (x:W4) (ex e:Int) (d:Bool):Z7 (Zm (Zk prog Zf Ztw true) 300 84 [vN n ex x true,.int .i64 e] [cmp false,cmp false,cmp d]) (ctV x ex e (match d with | true=>1 | false=>3)) [(ZnK x (dn1 ex e)==0,d),lok x (dn1 ex e),(dnI ex e==0,false),lok x (dnI ex e),(ZgU x (dnI ex e),false)]:=by
 cases d<;>exact by and_intros<;>kernel_rfl
theorem ct4 (n b:Bool) (x:W4) (ex e:Int):Z7 (Zm (Zk prog Zf Ztw true) 300 84 [vN n ex x b,.int .i64 e] [cmp true,cmp false,cmp true]) (ctV x ex e 1) [(ZnK x (dn1 ex e)==0,true),lok x (dn1 ex e),(dnI ex e==0,false),lok x (dnI ex e),(ZgU x (dnI ex e),true)]:=by and_intros<;>kernel_rfl
theorem ct5 (n:Bool) (x:W4) (ex e:Int):Z7 (Zm (Zk prog Zf Ztw true) 300 84 [vN n ex x true,.int .i64 e] [cmp true,cmp false,cmp false]) (ctV x ex e 3) [(ZnK x (dn1 ex e)==0,false),lok x (dn1 ex e),(dnI ex e==0,false),lok x (dnI ex e),(ZgU x (dnI ex e),true)]:=by and_intros<;>kernel_rfl
def bkW (x:W4) (ex e:Int):W4:=Ze7 (ofN (tw (ZjZ x (dnI ex e)) true)) (dn1 ex e)
theorem ct6 (n:Bool) (x:W4) (ex e:Int) (d:Bool):Z7 (Zm (Zk prog Zf Ztw true) 300 84 [vN n ex x false,.int .i64 e] [cmp true,cmp false,cmp false,sam d]) (ctV x ex e (match d with | true=>3 | false=>2)) [(!(eqW x (bkW x ex e)),d),lok (ofN (tw (ZjZ x (dnI ex e)) true)) (dn1 ex e),(decide (ZjZ x (dnI ex e)).ok,true),(ZnK x (dn1 ex e)==0,false),lok x (dn1 ex e),(dnI ex e==0,false),lok x (dnI ex e),(ZgU x (dnI ex e),true)]:=by
 cases d<;>exact by and_intros<;>kernel_rfl
end Go.Proofs.YtjlponbdflkbjaaGreatDoor
namespace Go.Rd
open Go.IntKind
open Go.Wd
def orW (y w:Int) (s:Nat):Int:=u64.wrap (((BitVec.ofInt 64 y ||| BitVec.ofInt 64 (u64.wrap (u64.wrap w*2^s))).toNat:Nat):Int)
theorem ZhE {z:Int}(h0:0≤z) (h1:z<18446744073709551616):u64.wrap z=z:=by
 simp [IntKind.wrap,IntKind.bits,IntKind.signed];omega
theorem ZbQ {y w s:Nat}(hs:s=0∨s=32) (hy:y<2^s) (hw:w<4294967296):orW (y:Int) (w:Int) s=((y+w*2^s:Nat):Int):=by
 have e32:(2:Nat)^32=4294967296:=rfl;have e0:(2:Nat)^0=1:=rfl;have hb:y+w*2^s<18446744073709551616:=by rcases hs with rfl | rfl<;>omega
 have hy2:y<18446744073709551616:=by omega
 have e1:((w:Nat):Int)*2^s=((w*2^s:Nat):Int):=by rw[cast_pow,Int.natCast_mul]
 have h64:((2:Nat)^64:Nat)=18446744073709551616:=rfl;have b1:∀ z:Nat,z<18446744073709551616→(BitVec.ofInt 64 (z:Int)).toNat=z:=fun z hz=>by
  rw[BitVec.toNat_ofInt];omega
 unfold orW;rw[ZhE (z:=(w:Int)) (by omega) (by omega),e1,ZhE (z:=((w*2^s:Nat):Int)) (by omega) (by omega),BitVec.toNat_or,b1 y hy2,b1 _ (by omega)];have h:=Nat.shiftLeft_add_eq_or_of_lt (i:=s) hy w;rw[Nat.shiftLeft_eq,Nat.or_comm] at h;rw[← h,ZhE (by omega) (by omega),Nat.add_comm]
def Z7g (x:W4) (w:Int):W4:=⟨orW x.a w 0,x.b,x.c,x.d⟩
theorem Zxf {V w:Nat}(hV:V<1) (hw:w<4294967296):Z7g (ofN V) (w:Int)=ofN (V+1*w):=by
 have e:(ofN V).a=((V:Nat):Int):=by
  show ((V:Nat):Int) % 18446744073709551616=_;omega
 have q:=ZbQ (y:=V) (w:=w) (s:=0) (by omega) (by have h1:(2:Nat)^0=1:=rfl;omega) hw;have h2:(2:Nat)^0=1:=rfl;rw[h2] at q;unfold Z7g;refine W4.ext' ?_ ?_ ?_ ?_
 ·show orW (ofN V).a w 0=((V+1*w:Nat):Int) % 18446744073709551616;rw[e,q];omega
 ·show ((V:Nat):Int)/18446744073709551616 % 18446744073709551616=((V+1*w:Nat):Int)/18446744073709551616 % 18446744073709551616;omega
 ·show ((V:Nat):Int)/340282366920938463463374607431768211456 % 18446744073709551616=((V+1*w:Nat):Int)/340282366920938463463374607431768211456 % 18446744073709551616;omega
 ·show ((V:Nat):Int)/6277101735386680763835789423207666416102355444464034512896 % 18446744073709551616=((V+1*w:Nat):Int)/6277101735386680763835789423207666416102355444464034512896 % 18446744073709551616;omega
def Z7h (x:W4) (w:Int):W4:=⟨orW x.a w 32,x.b,x.c,x.d⟩
theorem Zxg {V w:Nat}(hV:V<4294967296) (hw:w<4294967296):Z7h (ofN V) (w:Int)=ofN (V+4294967296*w):=by
 have e:(ofN V).a=((V:Nat):Int):=by
  show ((V:Nat):Int) % 18446744073709551616=_;omega
 have q:=ZbQ (y:=V) (w:=w) (s:=32) (by omega) (by have h1:(2:Nat)^32=4294967296:=rfl;omega) hw;have h2:(2:Nat)^32=4294967296:=rfl;rw[h2] at q;unfold Z7h;refine W4.ext' ?_ ?_ ?_ ?_
 ·show orW (ofN V).a w 32=((V+4294967296*w:Nat):Int) % 18446744073709551616;rw[e,q];omega
 ·show ((V:Nat):Int)/18446744073709551616 % 18446744073709551616=((V+4294967296*w:Nat):Int)/18446744073709551616 % 18446744073709551616;omega
 ·show ((V:Nat):Int)/340282366920938463463374607431768211456 % 18446744073709551616=((V+4294967296*w:Nat):Int)/340282366920938463463374607431768211456 % 18446744073709551616;omega
 ·show ((V:Nat):Int)/6277101735386680763835789423207666416102355444464034512896 % 18446744073709551616=((V+4294967296*w:Nat):Int)/6277101735386680763835789423207666416102355444464034512896 % 18446744073709551616;omega
def Z7i (x:W4) (w:Int):W4:=⟨x.a,orW x.b w 0,x.c,x.d⟩
theorem Zxh {V w:Nat}(hV:V<18446744073709551616) (hw:w<4294967296):Z7i (ofN V) (w:Int)=ofN (V+18446744073709551616*w):=by
 have e:(ofN V).b=((V/18446744073709551616:Nat):Int):=by
  show ((V:Nat):Int)/18446744073709551616 % 18446744073709551616=_;omega
 have q:=ZbQ (y:=V/18446744073709551616) (w:=w) (s:=0) (by omega) (by have h1:(2:Nat)^0=1:=rfl;omega) hw;have h2:(2:Nat)^0=1:=rfl;rw[h2] at q;unfold Z7i;refine W4.ext' ?_ ?_ ?_ ?_
 ·show ((V:Nat):Int) % 18446744073709551616=((V+18446744073709551616*w:Nat):Int) % 18446744073709551616;omega
 ·show orW (ofN V).b w 0=((V+18446744073709551616*w:Nat):Int)/18446744073709551616 % 18446744073709551616;rw[e,q];omega
 ·show ((V:Nat):Int)/340282366920938463463374607431768211456 % 18446744073709551616=((V+18446744073709551616*w:Nat):Int)/340282366920938463463374607431768211456 % 18446744073709551616;omega
 ·show ((V:Nat):Int)/6277101735386680763835789423207666416102355444464034512896 % 18446744073709551616=((V+18446744073709551616*w:Nat):Int)/6277101735386680763835789423207666416102355444464034512896 % 18446744073709551616;omega
def Z7j (x:W4) (w:Int):W4:=⟨x.a,orW x.b w 32,x.c,x.d⟩
theorem Zxi {V w:Nat}(hV:V<79228162514264337593543950336) (hw:w<4294967296):Z7j (ofN V) (w:Int)=ofN (V+79228162514264337593543950336*w):=by
 have e:(ofN V).b=((V/18446744073709551616:Nat):Int):=by
  show ((V:Nat):Int)/18446744073709551616 % 18446744073709551616=_;omega
 have q:=ZbQ (y:=V/18446744073709551616) (w:=w) (s:=32) (by omega) (by have h1:(2:Nat)^32=4294967296:=rfl;omega) hw;have h2:(2:Nat)^32=4294967296:=rfl;rw[h2] at q;unfold Z7j;refine W4.ext' ?_ ?_ ?_ ?_
 ·show ((V:Nat):Int) % 18446744073709551616=((V+79228162514264337593543950336*w:Nat):Int) % 18446744073709551616;omega
 ·show orW (ofN V).b w 32=((V+79228162514264337593543950336*w:Nat):Int)/18446744073709551616 % 18446744073709551616;rw[e,q];omega
 ·show ((V:Nat):Int)/340282366920938463463374607431768211456 % 18446744073709551616=((V+79228162514264337593543950336*w:Nat):Int)/340282366920938463463374607431768211456 % 18446744073709551616;omega
 ·show ((V:Nat):Int)/6277101735386680763835789423207666416102355444464034512896 % 18446744073709551616=((V+79228162514264337593543950336*w:Nat):Int)/6277101735386680763835789423207666416102355444464034512896 % 18446744073709551616;omega
def Z7k (x:W4) (w:Int):W4:=⟨x.a,x.b,orW x.c w 0,x.d⟩
theorem Zxj {V w:Nat}(hV:V<340282366920938463463374607431768211456) (hw:w<4294967296):Z7k (ofN V) (w:Int)=ofN (V+340282366920938463463374607431768211456*w):=by
 have e:(ofN V).c=((V/340282366920938463463374607431768211456:Nat):Int):=by
  show ((V:Nat):Int)/340282366920938463463374607431768211456 % 18446744073709551616=_;omega
 have q:=ZbQ (y:=V/340282366920938463463374607431768211456) (w:=w) (s:=0) (by omega) (by have h1:(2:Nat)^0=1:=rfl;omega) hw;have h2:(2:Nat)^0=1:=rfl;rw[h2] at q;unfold Z7k;refine W4.ext' ?_ ?_ ?_ ?_
 ·show ((V:Nat):Int) % 18446744073709551616=((V+340282366920938463463374607431768211456*w:Nat):Int) % 18446744073709551616;omega
 ·show ((V:Nat):Int)/18446744073709551616 % 18446744073709551616=((V+340282366920938463463374607431768211456*w:Nat):Int)/18446744073709551616 % 18446744073709551616;omega
 ·show orW (ofN V).c w 0=((V+340282366920938463463374607431768211456*w:Nat):Int)/340282366920938463463374607431768211456 % 18446744073709551616;rw[e,q];omega
 ·show ((V:Nat):Int)/6277101735386680763835789423207666416102355444464034512896 % 18446744073709551616=((V+340282366920938463463374607431768211456*w:Nat):Int)/6277101735386680763835789423207666416102355444464034512896 % 18446744073709551616;omega
def Z7l (x:W4) (w:Int):W4:=⟨x.a,x.b,orW x.c w 32,x.d⟩
theorem Zxk {V w:Nat}(hV:V<1461501637330902918203684832716283019655932542976) (hw:w<4294967296):Z7l (ofN V) (w:Int)=ofN (V+1461501637330902918203684832716283019655932542976*w):=by
 have e:(ofN V).c=((V/340282366920938463463374607431768211456:Nat):Int):=by
  show ((V:Nat):Int)/340282366920938463463374607431768211456 % 18446744073709551616=_;omega
 have q:=ZbQ (y:=V/340282366920938463463374607431768211456) (w:=w) (s:=32) (by omega) (by have h1:(2:Nat)^32=4294967296:=rfl;omega) hw;have h2:(2:Nat)^32=4294967296:=rfl;rw[h2] at q;unfold Z7l;refine W4.ext' ?_ ?_ ?_ ?_
 ·show ((V:Nat):Int) % 18446744073709551616=((V+1461501637330902918203684832716283019655932542976*w:Nat):Int) % 18446744073709551616;omega
 ·show ((V:Nat):Int)/18446744073709551616 % 18446744073709551616=((V+1461501637330902918203684832716283019655932542976*w:Nat):Int)/18446744073709551616 % 18446744073709551616;omega
 ·show orW (ofN V).c w 32=((V+1461501637330902918203684832716283019655932542976*w:Nat):Int)/340282366920938463463374607431768211456 % 18446744073709551616;rw[e,q];omega
 ·show ((V:Nat):Int)/6277101735386680763835789423207666416102355444464034512896 % 18446744073709551616=((V+1461501637330902918203684832716283019655932542976*w:Nat):Int)/6277101735386680763835789423207666416102355444464034512896 % 18446744073709551616;omega
def Z7m (x:W4) (w:Int):W4:=⟨x.a,x.b,x.c,orW x.d w 0⟩
theorem Zxl {V w:Nat}(hV:V<6277101735386680763835789423207666416102355444464034512896) (hw:w<4294967296):Z7m (ofN V) (w:Int)=ofN (V+6277101735386680763835789423207666416102355444464034512896*w):=by
 have e:(ofN V).d=((V/6277101735386680763835789423207666416102355444464034512896:Nat):Int):=by
  show ((V:Nat):Int)/6277101735386680763835789423207666416102355444464034512896 % 18446744073709551616=_;omega
 have q:=ZbQ (y:=V/6277101735386680763835789423207666416102355444464034512896) (w:=w) (s:=0) (by omega) (by have h1:(2:Nat)^0=1:=rfl;omega) hw;have h2:(2:Nat)^0=1:=rfl;rw[h2] at q;unfold Z7m;refine W4.ext' ?_ ?_ ?_ ?_
 ·show ((V:Nat):Int) % 18446744073709551616=((V+6277101735386680763835789423207666416102355444464034512896*w:Nat):Int) % 18446744073709551616;omega
 ·show ((V:Nat):Int)/18446744073709551616 % 18446744073709551616=((V+6277101735386680763835789423207666416102355444464034512896*w:Nat):Int)/18446744073709551616 % 18446744073709551616;omega
 ·show ((V:Nat):Int)/340282366920938463463374607431768211456 % 18446744073709551616=((V+6277101735386680763835789423207666416102355444464034512896*w:Nat):Int)/340282366920938463463374607431768211456 % 18446744073709551616;omega
 ·show orW (ofN V).d w 0=((V+6277101735386680763835789423207666416102355444464034512896*w:Nat):Int)/6277101735386680763835789423207666416102355444464034512896 % 18446744073709551616;rw[e,q];omega
def Z7n (x:W4) (w:Int):W4:=⟨x.a,x.b,x.c,orW x.d w 32⟩
theorem Zxm {V w:Nat}(hV:V<26959946667150639794667015087019630673637144422540572481103610249216) (hw:w<4294967296):Z7n (ofN V) (w:Int)=ofN (V+26959946667150639794667015087019630673637144422540572481103610249216*w):=by
 have e:(ofN V).d=((V/6277101735386680763835789423207666416102355444464034512896:Nat):Int):=by
  show ((V:Nat):Int)/6277101735386680763835789423207666416102355444464034512896 % 18446744073709551616=_;omega
 have q:=ZbQ (y:=V/6277101735386680763835789423207666416102355444464034512896) (w:=w) (s:=32) (by omega) (by have h1:(2:Nat)^32=4294967296:=rfl;omega) hw;have h2:(2:Nat)^32=4294967296:=rfl;rw[h2] at q;unfold Z7n;refine W4.ext' ?_ ?_ ?_ ?_
 ·show ((V:Nat):Int) % 18446744073709551616=((V+26959946667150639794667015087019630673637144422540572481103610249216*w:Nat):Int) % 18446744073709551616;omega
 ·show ((V:Nat):Int)/18446744073709551616 % 18446744073709551616=((V+26959946667150639794667015087019630673637144422540572481103610249216*w:Nat):Int)/18446744073709551616 % 18446744073709551616;omega
 ·show ((V:Nat):Int)/340282366920938463463374607431768211456 % 18446744073709551616=((V+26959946667150639794667015087019630673637144422540572481103610249216*w:Nat):Int)/340282366920938463463374607431768211456 % 18446744073709551616;omega
 ·show orW (ofN V).d w 32=((V+26959946667150639794667015087019630673637144422540572481103610249216*w:Nat):Int)/6277101735386680763835789423207666416102355444464034512896 % 18446744073709551616;rw[e,q];omega
end Go.Rd
namespace Go.Proofs.YtjlponbdflkbjaaGreatDoor
open Go.Proofs.Tryz
open Go.IntKind
open Go.KRun Go.Nt Go.Rd Go.Wd
set_option maxRecDepth 100000
def uN (x:Int):Value:= .int .u32 x
def nB9 (n:Bool) (e:Int) (x:W4) (b:Bool):List Value×TypeId:=([.bool n,.int .i64 e,.int .u64 x.a,.int .u64 x.b,.int .u64 x.c,.int .u64 x.d,.bool b],53)
def hgM (l:List Value) (e:Int) (x:W4) (b:Bool):Hp:=⟨3,[nB9 false e x b,nB9 false 0 ⟨0,0,0,0⟩ false,(l,tR)]⟩
def ZyY (F:Func):Code:=cIn (cIn (Zz (sP F 3)))
def Zkw (F:Func):Code:=cIn (cIn (Zz (sP F 4)))
theorem Zxn:f78.body=some (ZW [sP f78 0,sP f78 1,sP f78 2] (.seq (.seq (Z2 (sP f78 3)) (.block 0 (.loop (ZyY f78)))) (.seq (.seq (Z2 (sP f78 4)) (.block 2 (.loop (Zkw f78)))) (sK f78 5)))):=by kernel_rfl
def q10 (q:Nat→Value):List Value:=[q 0,q 1,q 2,q 3,q 4,q 5,q 6,q 7,q 8,q 9]
def q11 (q:Nat→Value):List Value:=[q 0,q 1,q 2,q 3,q 4,q 5,q 6,q 7,q 8,q 9,q 10]
def hgA (a:Value) (e:Int) (m:Bool) (k:Int) (v10 v11 v12:Value) (q:Nat→Value):List Value:=[a,.int .i64 e,.bool m,undef,undef,undef,pO 1,.int .i64 k,pO 2,undef,v10,v11,v12]++q10 q
def hgB (a:Value) (e:Int) (m:Bool) (v10 v11 v12:Value) (q:Nat→Value) (o c k:Nat) (i:Int):List Value:=hgA a e m (k:Nat) v10 v11 v12 q++[a,.int .i64 (k:Nat),sl 0 o k c,.int .i64 (k:Nat),.int .i64 i]
def hgC (a:Value) (e:Int) (m:Bool) (v10 v11 v12:Value) (q q':Nat→Value) (o n c k:Nat) (j i:Int):List Value:=hgB a e m v10 v11 v12 q o c k j++q11 q'++[a,.int .i64 (k:Nat),sl 0 (o+k*1) (n-k) (c-k),.int .i64 ((n-k:Nat):Int),.int .i64 i]
def Ztx (n:Nat):Int:=if 0>i64.wrap ((n:Int)-8) then 0 else i64.wrap ((n:Int)-8)
def hgE (n:Nat) (e:Int):Int:=i64.wrap (e+i64.wrap (32*Ztx n))
def hgQ (o n c:Nat) (e:Int) (m:Bool):Nat→Value:=fun i=>[sl 0 o n c,.int .i64 (n:Nat),.int .i64 (i64.wrap ((n:Int)-8)),.int .i64 (Ztx n),.int .i64 e,.int .i64 (Ztx n),.int .i64 (i64.wrap (32*Ztx n)),.int .i64 (hgE n e),.bool m,.agg #[.bool false,.int .i64 (hgE n e),.int .u64 0,.int .u64 0,.int .u64 0,.int .u64 0,.bool m]].getD i undef
theorem Z2h (l:List Value) (o n c:Nat) (e:Int) (m:Bool):Zg (evL (Zr prog Zf Zn hcN) 100 [sP f78 0,sP f78 1,sP f78 2] ([sl 0 o n c,.int .i64 e,.bool m]++List.replicate 62 undef,⟨1,[(l,tR)]⟩,[]) ⟨[],[],[]⟩) 23 42 none (hgA (sl 0 o n c) e m (Ztx n) undef undef undef (hgQ o n c e m)) (hgM l (hgE n e) ⟨0,0,0,0⟩ m) []:=by and_intros<;>kernel_rfl
theorem Z7o (l:List Value) (o n c k:Nat) (e E:Int) (m:Bool) (x:W4) (q g:Nat→Value):Zg (evC (Zr prog Zf Zn hcN) 100 false (Z2 (sP f78 3)) (hgA (sl 0 o n c) e m (k:Nat) undef undef undef q++tl 42 g,hgM l E x m,[num 0]) ⟨[],[],[]⟩) 28 37 none (hgB (sl 0 o n c) e m undef undef undef q o c k 0) (hgM l E x m) [(ZA c,true),(ZQ 0 (k:Nat) (c:Nat) (c:Nat),true),(decide ((c:Int)=0∧(0:Int)≠0),false)]:=by and_intros<;>kernel_rfl
theorem Z7p (l:List Value) (a:Value) (o c k:Nat) (e E i:Int) (m mo:Bool) (x:W4) (v10:Value) (q g:Nat→Value):Zg (evC (Zr prog Zf Zn hcN) 100 false (ZyY f78) (hgB a e m v10 undef undef q o c k i++tl 37 g,hgM l E x mo,[cmp false]) ⟨[],[],[]⟩) 28 37 (some (some 0)) (hgB a e m v10 undef undef q o c k i) (hgM l E x mo) [(decide (i<(k:Nat)),false)]:=by and_intros<;>kernel_rfl
theorem Z7q (l:List Value) (a:Value) (o c k:Nat) (e E i w:Int) (m d:Bool) (x:W4) (v10:Value) (q g:Nat→Value):Zg (evC (Zr prog Zf Zn hcN) 100 false (ZyY f78) (hgB a e m v10 undef undef q o c k i++tl 37 g,hgM l E x false,[cmp true,at_,val (uN w),cmp d]) ⟨[],[],[]⟩) 28 37 none (hgB a e m (uN w) undef undef q o c k (i64.wrap (i+1))) (hgM l E x d) [(w !=0,d),(Z5 (l[o+i.toNat*1]?) (uN w),true),(decide (0≤i∧i<(k:Nat)),true),(decide (i<(k:Nat)),true)]:=by and_intros<;>kernel_rfl
theorem Z7r (l:List Value) (a:Value) (o c k:Nat) (e E i w:Int) (m:Bool) (x:W4) (v10:Value) (q g:Nat→Value):Zg (evC (Zr prog Zf Zn hcN) 100 false (ZyY f78) (hgB a e m v10 undef undef q o c k i++tl 37 g,hgM l E x true,[cmp true,at_,val (uN w)]) ⟨[],[],[]⟩) 28 37 none (hgB a e m (uN w) undef undef q o c k (i64.wrap (i+1))) (hgM l E x true) [(Z5 (l[o+i.toNat*1]?) (uN w),true),(decide (0≤i∧i<(k:Nat)),true),(decide (i<(k:Nat)),true)]:=by and_intros<;>kernel_rfl
theorem Z7s (l:List Value) (o n c k:Nat) (e E j:Int) (m mo:Bool) (x:W4) (v10:Value) (q g:Nat→Value):Zg (evC (Zr prog Zf Zn hcN) 100 false (Z2 (sP f78 4)) (hgB (sl 0 o n c) e m v10 undef undef q o c k j++tl 37 g,hgM l E x mo,[num 0]) ⟨[],[],[]⟩) 44 21 none (hgC (sl 0 o n c) e m v10 undef undef q g o n c k j 0) (hgM l E x mo) [(ZA c,true),(ZQ (k:Nat) (n:Nat) (c:Nat) (c:Nat),true),(decide ((c:Int)=(k:Nat)∧((k:Nat):Int)≠0),false)]:=by and_intros<;>kernel_rfl
theorem Z7t (l:List Value) (a:Value) (o n c k:Nat) (e E j i:Int) (m mo:Bool) (x:W4) (v10 v11 v12:Value) (q q' g:Nat→Value):Zg (evC (Zr prog Zf Zn hcN) 100 false (Zkw f78) (hgC a e m v10 v11 v12 q q' o n c k j i++tl 21 g,hgM l E x mo,[cmp false]) ⟨[],[],[]⟩) 44 21 (some (some 2)) (hgC a e m v10 v11 v12 q q' o n c k j i) (hgM l E x mo) [(decide (i<((n-k:Nat):Int)),false)]:=by and_intros<;>kernel_rfl
theorem Z7u (l:List Value) (a:Value) (o n c k:Nat) (e E j w:Int) (m mo:Bool) (x:W4) (v10 v11 v12:Value) (q q' g:Nat→Value):Zg (evC (Zr prog Zf Zn hcN) 100 false (Zkw f78) (hgC a e m v10 v11 v12 q q' o n c k j 0++tl 21 g,hgM l E x mo,[cmp true,at_,val (uN w)]) ⟨[],[],[]⟩) 44 21 none (hgC a e m v10 (.int .i64 0) (uN w) q q' o n c k j 1) (hgM l E (Z7g x w) mo) [(false,false),(Z5 (l[o+k*1+0]?) (uN w),true),(decide ((0:Int)≤0∧(0:Int)<((n-k:Nat):Int)),true),(decide ((0:Int)<((n-k:Nat):Int)),true)]:=by and_intros<;>kernel_rfl
theorem Z7v (l:List Value) (a:Value) (o n c k:Nat) (e E j w:Int) (m mo:Bool) (x:W4) (v10 v11 v12:Value) (q q' g:Nat→Value):Zg (evC (Zr prog Zf Zn hcN) 100 false (Zkw f78) (hgC a e m v10 v11 v12 q q' o n c k j 1++tl 21 g,hgM l E x mo,[cmp true,at_,val (uN w)]) ⟨[],[],[]⟩) 44 21 none (hgC a e m v10 (.int .i64 1) (uN w) q q' o n c k j 2) (hgM l E (Z7h x w) mo) [(false,false),(Z5 (l[o+k*1+1]?) (uN w),true),(decide ((0:Int)≤1∧(1:Int)<((n-k:Nat):Int)),true),(decide ((1:Int)<((n-k:Nat):Int)),true)]:=by and_intros<;>kernel_rfl
theorem Z7w (l:List Value) (a:Value) (o n c k:Nat) (e E j w:Int) (m mo:Bool) (x:W4) (v10 v11 v12:Value) (q q' g:Nat→Value):Zg (evC (Zr prog Zf Zn hcN) 100 false (Zkw f78) (hgC a e m v10 v11 v12 q q' o n c k j 2++tl 21 g,hgM l E x mo,[cmp true,at_,val (uN w)]) ⟨[],[],[]⟩) 44 21 none (hgC a e m v10 (.int .i64 2) (uN w) q q' o n c k j 3) (hgM l E (Z7i x w) mo) [(false,false),(Z5 (l[o+k*1+2]?) (uN w),true),(decide ((0:Int)≤2∧(2:Int)<((n-k:Nat):Int)),true),(decide ((2:Int)<((n-k:Nat):Int)),true)]:=by and_intros<;>kernel_rfl
theorem Z7x (l:List Value) (a:Value) (o n c k:Nat) (e E j w:Int) (m mo:Bool) (x:W4) (v10 v11 v12:Value) (q q' g:Nat→Value):Zg (evC (Zr prog Zf Zn hcN) 100 false (Zkw f78) (hgC a e m v10 v11 v12 q q' o n c k j 3++tl 21 g,hgM l E x mo,[cmp true,at_,val (uN w)]) ⟨[],[],[]⟩) 44 21 none (hgC a e m v10 (.int .i64 3) (uN w) q q' o n c k j 4) (hgM l E (Z7j x w) mo) [(false,false),(Z5 (l[o+k*1+3]?) (uN w),true),(decide ((0:Int)≤3∧(3:Int)<((n-k:Nat):Int)),true),(decide ((3:Int)<((n-k:Nat):Int)),true)]:=by and_intros<;>kernel_rfl
theorem Z7y (l:List Value) (a:Value) (o n c k:Nat) (e E j w:Int) (m mo:Bool) (x:W4) (v10 v11 v12:Value) (q q' g:Nat→Value):Zg (evC (Zr prog Zf Zn hcN) 100 false (Zkw f78) (hgC a e m v10 v11 v12 q q' o n c k j 4++tl 21 g,hgM l E x mo,[cmp true,at_,val (uN w)]) ⟨[],[],[]⟩) 44 21 none (hgC a e m v10 (.int .i64 4) (uN w) q q' o n c k j 5) (hgM l E (Z7k x w) mo) [(false,false),(Z5 (l[o+k*1+4]?) (uN w),true),(decide ((0:Int)≤4∧(4:Int)<((n-k:Nat):Int)),true),(decide ((4:Int)<((n-k:Nat):Int)),true)]:=by and_intros<;>kernel_rfl
theorem Z7z (l:List Value) (a:Value) (o n c k:Nat) (e E j w:Int) (m mo:Bool) (x:W4) (v10 v11 v12:Value) (q q' g:Nat→Value):Zg (evC (Zr prog Zf Zn hcN) 100 false (Zkw f78) (hgC a e m v10 v11 v12 q q' o n c k j 5++tl 21 g,hgM l E x mo,[cmp true,at_,val (uN w)]) ⟨[],[],[]⟩) 44 21 none (hgC a e m v10 (.int .i64 5) (uN w) q q' o n c k j 6) (hgM l E (Z7l x w) mo) [(false,false),(Z5 (l[o+k*1+5]?) (uN w),true),(decide ((0:Int)≤5∧(5:Int)<((n-k:Nat):Int)),true),(decide ((5:Int)<((n-k:Nat):Int)),true)]:=by and_intros<;>kernel_rfl
theorem Z70 (l:List Value) (a:Value) (o n c k:Nat) (e E j w:Int) (m mo:Bool) (x:W4) (v10 v11 v12:Value) (q q' g:Nat→Value):Zg (evC (Zr prog Zf Zn hcN) 100 false (Zkw f78) (hgC a e m v10 v11 v12 q q' o n c k j 6++tl 21 g,hgM l E x mo,[cmp true,at_,val (uN w)]) ⟨[],[],[]⟩) 44 21 none (hgC a e m v10 (.int .i64 6) (uN w) q q' o n c k j 7) (hgM l E (Z7m x w) mo) [(false,false),(Z5 (l[o+k*1+6]?) (uN w),true),(decide ((0:Int)≤6∧(6:Int)<((n-k:Nat):Int)),true),(decide ((6:Int)<((n-k:Nat):Int)),true)]:=by and_intros<;>kernel_rfl
theorem Z71 (l:List Value) (a:Value) (o n c k:Nat) (e E j w:Int) (m mo:Bool) (x:W4) (v10 v11 v12:Value) (q q' g:Nat→Value):Zg (evC (Zr prog Zf Zn hcN) 100 false (Zkw f78) (hgC a e m v10 v11 v12 q q' o n c k j 7++tl 21 g,hgM l E x mo,[cmp true,at_,val (uN w)]) ⟨[],[],[]⟩) 44 21 none (hgC a e m v10 (.int .i64 7) (uN w) q q' o n c k j 8) (hgM l E (Z7n x w) mo) [(false,false),(Z5 (l[o+k*1+7]?) (uN w),true),(decide ((0:Int)≤7∧(7:Int)<((n-k:Nat):Int)),true),(decide ((7:Int)<((n-k:Nat):Int)),true)]:=by and_intros<;>kernel_rfl
theorem Z9D (l:List Value) (a:Value) (o n c k:Nat) (e E j i:Int) (m mo:Bool) (x:W4) (v10 v11 v12:Value) (q q' g:Nat→Value):Zg (evC (Zr prog Zf Zn hcN) 100 false (sK f78 5) (hgC a e m v10 v11 v12 q q' o n c k j i++tl 21 g,hgM l E x mo,[]) ⟨[],[],[]⟩) 7 58 (some none) ([a,.int .i64 e,.bool m,undef,undef,undef,pO 1]) (⟨3,[nB9 false E x mo,nB9 false E x mo,(l,tR)]⟩) []:=by and_intros<;>kernel_rfl
theorem vbz {L:List Int}(h:∀ x∈L,Dg 4294967296 x) (k:Nat):vb 4294967296 (L.take k)<4294967296^k:=by
 have h1:=Zbl (b:=4294967296) (by omega) (L.take k) (fun x hx=>h x (List.mem_of_mem_take hx));have h2:(L.take k).length≤k:=by rw[List.length_take];omega
 exact Nat.lt_of_lt_of_le h1 (Nat.pow_le_pow_right (by omega) h2)
def Zr7 (L:List Int) (m:Bool):Bool:=m || decide (vb 4294967296 L≠0)
theorem ZnN {L:List Int}{m:Bool}{i:Nat}(hL:∀ x∈L,Dg 4294967296 x) (hi:i<L.length):Zr7 (L.take (i+1)) m=(Zr7 (L.take i) m || (L.getD i 0 !=0)):=by
 have hd:0≤L.getD i 0:=by
  have:L.getD i 0∈L:=by
   rw[List.getD_eq_getElem?_getD,List.getElem?_eq_getElem hi,Option.getD_some];exact List.getElem_mem hi
  exact (hL _ this).1
 have e:=Zag 4294967296 L i;have hp:0<4294967296^i:=Nat.pow_pos (by omega);unfold Zr7;rw[Bool.or_assoc];congr 1;by_cases h0:L.getD i 0=0
 ·rw[h0] at e;rw[e,h0];simp
 ·have h1:vb 4294967296 (L.take (i+1))≠0:=by
   rw[e];have h2:0<4294967296^i*(L.getD i 0).toNat:=Nat.mul_pos hp (by omega);omega
  rw[Xa h1,show (L.getD i 0 !=0)=true by simpa using h0,Bool.or_true]
def ZyZ (l:List Value) (a:Value) (o c k:Nat) (e E:Int) (m:Bool) (q:Nat→Value) (L:List Int) (i:Nat) (y:Lf):Prop:=∃ (v10:Value) (g:Nat→Value),i≤k∧y.1=hgB a e m v10 undef undef q o c k i++tl 37 g∧y.2.1=hgM l E ⟨0,0,0,0⟩ (Zr7 (L.take i) m)
theorem ZnO {l:List Value}{a:Value}{o c k:Nat}{e E:Int}{m:Bool}{q:Nat→Value}{L:List Int}(hR:Row l o L) (hk:k≤L.length) (hk2:k≤100000) (r:Nat) (y:Lf) (h:∃ i,r=k-i∧ZyZ l a o c k e E m q L i y):
  Runs (Zr prog Zf Zn hcN) (ZyY f78) y fun e' z=>match e' with | none=>∃ r',r'<r∧∃ i,r'=k-i∧ZyZ l a o c k e E m q L i z | some none=>False | some (some id')=>id'=0∧ZyZ l a o c k e E m q L k z:=by
 have hT:=Zh Zd Zam;obtain⟨i,hr,v10,g,hi,ht,hh⟩:=h;obtain⟨t,h',sc⟩:=y;simp only at ht hh;subst ht hh;by_cases hc:i<k
 ·have lA:decide (((i:Nat):Int)<(k:Nat))=true:=Xa (by omega);have lI:decide ((0:Int)≤(i:Nat)∧((i:Nat):Int)<(k:Nat))=true:=Xa ⟨by omega,by omega⟩;have ew:i64.wrap (((i:Nat):Int)+1)=((i+1:Nat):Int):=by rw[Zw (by omega) (by omega)];omega
  have lC:Z5 (l[o+((i:Nat):Int).toNat*1]?) (uN (L.getD i 0))=true:=by
   rw[Xg,Nat.mul_one,hR.cell (by omega)];simp [Z5,uN]
  have hn:=ZnN (m:=m) hR.rng (show i<L.length by omega);cases hb:Zr7 (L.take i) m with
  | true=>
   have hg:=Z7r l a o c k e E (i:Nat) (L.getD i 0) m ⟨0,0,0,0⟩ v10 q g;rw[ew] at hg;rw[hb,Bool.true_or] at hn;refine (Zb (s0:=sc) hT hg (Za lC (Za lI (Z4 lA)))).mono fun e' z he=> ?_;obtain⟨rfl,⟨g',z1⟩,z2⟩:=he;exact⟨k-(i+1),by omega,i+1,rfl,_,g',by omega,z1,by rw[z2,hn]⟩
  | false=>
   have hg:=Z7q l a o c k e E (i:Nat) (L.getD i 0) m (L.getD i 0 !=0) ⟨0,0,0,0⟩ v10 q g;rw[ew] at hg;rw[hb,Bool.false_or] at hn;refine (Zb (s0:=sc) hT hg (Za rfl (Za lC (Za lI (Z4 lA))))).mono fun e' z he=> ?_;obtain⟨rfl,⟨g',z1⟩,z2⟩:=he;exact⟨k-(i+1),by omega,i+1,rfl,_,g',by omega,z1,by rw[z2,hn]⟩
 ·have:i=k:=by omega
  subst this;refine (Zb (s0:=sc) hT (Z7p l a o c i e E (i:Nat) m _ _ v10 q g) (Z4 (Xb (by omega)))).mono fun e' z he=> ?_;obtain⟨rfl,⟨g',z1⟩,z2⟩:=he;exact⟨rfl,v10,g',hi,z1,z2⟩
def Zxo (l:List Value) (a:Value) (o n c k:Nat) (e E j:Int) (m mo:Bool) (q q':Nat→Value) (K:List Int) (i:Nat) (y:Lf):Prop:=∃ (v10 v11 v12:Value) (g:Nat→Value),i≤n-k∧y.1=hgC a e m v10 v11 v12 q q' o n c k j i++tl 21 g∧y.2.1=hgM l E (ofN (vb 4294967296 (K.take i))) mo
theorem ZnP {l:List Value}{a:Value}{o n c k:Nat}{e E j:Int}{m mo:Bool}{q q':Nat→Value}{K:List Int}(hR:∀ i,i<n-k→l[o+k*1+i]? =some (uN (K.getD i 0))) (hK:∀ x∈K,Dg 4294967296 x) (hn:n-k≤8) (hl:K.length=n-k) (r:Nat) (y:Lf) (h:∃ i,r=n-k-i∧Zxo l a o n c k e E j m mo q q' K i y):
  Runs (Zr prog Zf Zn hcN) (Zkw f78) y fun e' z=>match e' with | none=>∃ r',r'<r∧∃ i,r'=n-k-i∧Zxo l a o n c k e E j m mo q q' K i z | some none=>False | some (some id')=>id'=2∧Zxo l a o n c k e E j m mo q q' K (n-k) z:=by
 have hT:=Zh Zd Zam;obtain⟨i,hr,v10,v11,v12,g,hi,ht,hh⟩:=h;obtain⟨t,h',sc⟩:=y;simp only at ht hh;subst ht hh;by_cases hc:i<n-k
 ·have hw:Dg 4294967296 (K.getD i 0):=by
   refine hK _ ?_;rw[List.getD_eq_getElem?_getD,List.getElem?_eq_getElem (by omega),Option.getD_some];exact List.getElem_mem (by omega)
  obtain⟨w,ew⟩:∃ w:Nat,K.getD i 0=(w:Int):=⟨(K.getD i 0).toNat,by have:=hw.1;omega⟩;have hw2:w<4294967296:=by have:=hw.2;rw[ew] at this;omega
  have lC:Z5 (l[o+k*1+i]?) (uN (w:Int))=true:=by
   rw[hR i hc,ew];simp [Z5,uN]
  have hV:=vbz hK i;have ev:=Zag 4294967296 K i;rw[ew,Xg] at ev;obtain⟨V,hVe⟩:∃ V,V=vb 4294967296 (K.take i):=⟨_,rfl⟩;rw[← hVe] at hV ev;rw[← hVe];have i8:i=0∨i=1∨i=2∨i=3∨i=4∨i=5∨i=6∨i=7:=by omega
  have fin:∀ (s':Lf) (X:W4),X=ofN (vb 4294967296 (K.take (i+1)))→(∃ g',s'.1=hgC a e m v10 (.int .i64 (i:Nat)) (uN (w:Int)) q q' o n c k j ((i+1:Nat):Int)++tl 21 g')→s'.2.1=hgM l E X mo→∃ r',r'<r∧∃ i,r'=n-k-i∧Zxo l a o n c k e E j m mo q q' K i s':=by
   rintro s' X hX ⟨g',e1⟩ e2;exact⟨n-k-(i+1),by omega,i+1,rfl,v10,_,_,g',by omega,e1,by rw[e2,hX]⟩
  rcases i8 with rfl | rfl | rfl | rfl | rfl | rfl | rfl | rfl
  ·have hg:=Z7u l a o n c k e E j (w:Int) m mo (ofN V) v10 v11 v12 q q' g;have lT:decide ((0:Int)<((n-k:Nat):Int))=true:=Xa (by omega);refine (Zb (s0:=sc) hT hg (Za rfl (Za lC (Za (Xa ⟨by omega,by omega⟩) (Z4 lT))))).mono fun e' z he=> ?_;obtain⟨rfl,⟨g',z1⟩,z2⟩:=he;refine fin z _ ?_ ⟨g',z1⟩ z2;rw[Zxf (show V<1 from hV) hw2,ev]
  ·have hg:=Z7v l a o n c k e E j (w:Int) m mo (ofN V) v10 v11 v12 q q' g;have lT:decide ((1:Int)<((n-k:Nat):Int))=true:=Xa (by omega);refine (Zb (s0:=sc) hT hg (Za rfl (Za lC (Za (Xa ⟨by omega,by omega⟩) (Z4 lT))))).mono fun e' z he=> ?_;obtain⟨rfl,⟨g',z1⟩,z2⟩:=he;refine fin z _ ?_ ⟨g',z1⟩ z2;rw[Zxg (show V<4294967296 from hV) hw2,ev]
  ·have hg:=Z7w l a o n c k e E j (w:Int) m mo (ofN V) v10 v11 v12 q q' g;have lT:decide ((2:Int)<((n-k:Nat):Int))=true:=Xa (by omega);refine (Zb (s0:=sc) hT hg (Za rfl (Za lC (Za (Xa ⟨by omega,by omega⟩) (Z4 lT))))).mono fun e' z he=> ?_;obtain⟨rfl,⟨g',z1⟩,z2⟩:=he;refine fin z _ ?_ ⟨g',z1⟩ z2;rw[Zxh (show V<18446744073709551616 from hV) hw2,ev]
  ·have hg:=Z7x l a o n c k e E j (w:Int) m mo (ofN V) v10 v11 v12 q q' g;have lT:decide ((3:Int)<((n-k:Nat):Int))=true:=Xa (by omega);refine (Zb (s0:=sc) hT hg (Za rfl (Za lC (Za (Xa ⟨by omega,by omega⟩) (Z4 lT))))).mono fun e' z he=> ?_;obtain⟨rfl,⟨g',z1⟩,z2⟩:=he;refine fin z _ ?_ ⟨g',z1⟩ z2;rw[Zxi (show V<79228162514264337593543950336 from hV) hw2,ev]
  ·have hg:=Z7y l a o n c k e E j (w:Int) m mo (ofN V) v10 v11 v12 q q' g;have lT:decide ((4:Int)<((n-k:Nat):Int))=true:=Xa (by omega);refine (Zb (s0:=sc) hT hg (Za rfl (Za lC (Za (Xa ⟨by omega,by omega⟩) (Z4 lT))))).mono fun e' z he=> ?_;obtain⟨rfl,⟨g',z1⟩,z2⟩:=he;refine fin z _ ?_ ⟨g',z1⟩ z2;rw[Zxj (show V<340282366920938463463374607431768211456 from hV) hw2,ev]
  ·have hg:=Z7z l a o n c k e E j (w:Int) m mo (ofN V) v10 v11 v12 q q' g;have lT:decide ((5:Int)<((n-k:Nat):Int))=true:=Xa (by omega);refine (Zb (s0:=sc) hT hg (Za rfl (Za lC (Za (Xa ⟨by omega,by omega⟩) (Z4 lT))))).mono fun e' z he=> ?_;obtain⟨rfl,⟨g',z1⟩,z2⟩:=he;refine fin z _ ?_ ⟨g',z1⟩ z2;rw[Zxk (show V<1461501637330902918203684832716283019655932542976 from hV) hw2,ev]
  ·have hg:=Z70 l a o n c k e E j (w:Int) m mo (ofN V) v10 v11 v12 q q' g;have lT:decide ((6:Int)<((n-k:Nat):Int))=true:=Xa (by omega);refine (Zb (s0:=sc) hT hg (Za rfl (Za lC (Za (Xa ⟨by omega,by omega⟩) (Z4 lT))))).mono fun e' z he=> ?_;obtain⟨rfl,⟨g',z1⟩,z2⟩:=he;refine fin z _ ?_ ⟨g',z1⟩ z2;rw[Zxl (show V<6277101735386680763835789423207666416102355444464034512896 from hV) hw2,ev]
  ·have hg:=Z71 l a o n c k e E j (w:Int) m mo (ofN V) v10 v11 v12 q q' g;have lT:decide ((7:Int)<((n-k:Nat):Int))=true:=Xa (by omega);refine (Zb (s0:=sc) hT hg (Za rfl (Za lC (Za (Xa ⟨by omega,by omega⟩) (Z4 lT))))).mono fun e' z he=> ?_;obtain⟨rfl,⟨g',z1⟩,z2⟩:=he;refine fin z _ ?_ ⟨g',z1⟩ z2;rw[Zxm (show V<26959946667150639794667015087019630673637144422540572481103610249216 from hV) hw2,ev]
 ·have:i=n-k:=by omega
  subst this;refine (Zb (s0:=sc) hT (Z7t l a o n c k e E j ((n-k:Nat):Int) m mo _ v10 v11 v12 q q' g) (Z4 (Xb (by omega)))).mono fun e' z he=> ?_;obtain⟨rfl,⟨g',z1⟩,z2⟩:=he;exact⟨rfl,v10,v11,v12,g',hi,z1,z2⟩
theorem Z2i {n:Nat}(h:n≤100000):Ztx n=((n-8:Nat):Int):=by
 unfold Ztx;rw[Zw (by omega) (by omega)];split<;>omega
theorem Zxp {l:List Value}{o c:Nat}{e:Int}{m:Bool}{V:Nat}(hR:Row l o (db 4294967296 V)) (hn:(db 4294967296 V).length≤1000) (hc:(db 4294967296 V).length≤c) (hs:ZA c=true) (he: -1000000≤e∧e≤1000000):
  Runs (Zr prog Zf Zn hcN) (ZW [sP f78 0,sP f78 1,sP f78 2] (.seq (.seq (Z2 (sP f78 3)) (.block 0 (.loop (ZyY f78)))) (.seq (.seq (Z2 (sP f78 4)) (.block 2 (.loop (Zkw f78)))) (sK f78 5)))) ([sl 0 o (db 4294967296 V).length c,.int .i64 e,.bool m]++List.replicate 62 undef,⟨1,[(l,tR)]⟩,[]) fun e' z=>(e'=none∨e'=some none)∧ZV prog f78 z.1 z.2.1=some (vN false (hiE V e) (ofN (hiS V)) (hiM V m)):=by
 have hT:=Zh Zd Zam;obtain⟨L,hL⟩:∃ L,L=db 4294967296 V:=⟨_,rfl⟩;have hdg:∀ x∈L,Dg 4294967296 x:=by rw[hL];exact Zfx (by omega) V
 have eV:vb 4294967296 L=V:=by rw[hL];exact ZbC (by omega) V
 rw[← hL] at hR hn hc ⊢;obtain⟨n,hnl⟩:∃ n,n=L.length:=⟨_,rfl⟩;rw[← hnl] at hn hc ⊢;obtain⟨k,hk⟩:∃ k,k=n-8:=⟨_,rfl⟩;have elow:Ztx n=(k:Nat):=by rw[Z2i (by omega),hk]
 have eE:hgE n e=hiE V e:=by
  unfold hgE hiE loW;rw[elow,Zw (n:=32*((k:Nat):Int)) (by omega) (by omega),Zw (by omega) (by omega),← hL,← hnl,← hk]
 have dead_c:(c:Int)<4611686018427387904:=by
  have:=Zo.1 hs;have e:za=4611686018427387904:=rfl;omega
 have hp:=Z2h l o n c e m;rw[elow,eE] at hp;refine Zv hT hp ZaI fun g=> ?_;have okc:ZQ 0 (k:Nat) (c:Nat) (c:Nat)=true:=Xa ⟨by omega,by omega,by omega,by omega,by omega⟩;refine Runs.seq (P1:=fun e' y=>match e' with | none=>ZyZ l (sl 0 o n c) o c k e (hiE V e) m (hgQ o n c e m) L k y | some none=>False | some (some _)=>False) ?_ ?_ ?_
 ·refine Runs.seq (Zb hT (Z7o l o n c k e (hiE V e) m ⟨0,0,0,0⟩ (hgQ o n c e m) g) (Za hs (Za okc (Z4 (Xb (fun h=>h.2 rfl)))))) ?_ (fun e' y hy=>by cases hy.1);rintro⟨t,h',s⟩ ⟨_,⟨g',ht⟩,hh⟩;simp only at ht hh;subst ht hh;exact Runs.forLoop (R:=fun _=>False) (P:=ZyZ l (sl 0 o n c) o c k e (hiE V e) m (hgQ o n c e m) L k) (fun r y=>∃ i,r=k-i∧ZyZ l (sl 0 o n c) o c k e (hiE V e) m (hgQ o n c e m) L i y) (ZnO hR (by omega) (by omega)) (n:=k-0) ⟨0,rfl,undef,g',Nat.zero_le _,rfl,by rw[show Zr7 (L.take 0) m=m by unfold Zr7;cases m<;>rfl]⟩
 ·rintro⟨t,h',s⟩ ⟨v10,g1,_,ht,hh⟩;simp only at ht hh;subst ht hh;obtain⟨mo,hmo⟩:∃ mo,mo=Zr7 (L.take k) m:=⟨_,rfl⟩;rw[← hmo];have okn:ZQ (k:Nat) (n:Nat) (c:Nat) (c:Nat)=true:=Xa ⟨by omega,by omega,by omega,by omega,by omega⟩;have hKl:(L.drop k).length=n-k:=by rw[List.length_drop,← hnl]
  refine Runs.seq (P1:=fun e' y=>match e' with | none=>Zxo l (sl 0 o n c) o n c k e (hiE V e) (k:Nat) m mo (hgQ o n c e m) g1 (L.drop k) (n-k) y | some none=>False | some (some _)=>False) ?_ ?_ ?_
  ·refine Runs.seq (Zb (s0:=s) hT (Z7s l o n c k e (hiE V e) (k:Nat) m mo ⟨0,0,0,0⟩ v10 (hgQ o n c e m) g1) (Za hs (Za okn (Z4 (Xb (fun h=>by omega)))))) ?_ (fun e' y hy=>by cases hy.1);rintro⟨t,h',s⟩ ⟨_,⟨g',ht⟩,hh⟩;simp only at ht hh;subst ht hh;refine Runs.forLoop (R:=fun _=>False) (P:=Zxo l (sl 0 o n c) o n c k e (hiE V e) (k:Nat) m mo (hgQ o n c e m) g1 (L.drop k) (n-k)) (fun r y=>∃ i,r=n-k-i∧Zxo l (sl 0 o n c) o n c k e (hiE V e) (k:Nat) m mo (hgQ o n c e m) g1 (L.drop k) i y) (ZnP (fun i hi=> ?_) (fun x hx=>hdg x (List.mem_of_mem_drop hx)) (by omega) hKl) (n:=n-k-0) ⟨0,rfl,v10,undef,undef,g',Nat.zero_le _,rfl,by rw[show ofN (vb 4294967296 ((L.drop k).take 0))=⟨0,0,0,0⟩ from ZcB]⟩;rw[Nat.mul_one,Nat.add_assoc,hR.cell (by omega)];simp [uN,List.getD,List.getElem?_drop]
  ·rintro⟨t,h',s⟩ ⟨v10,v11,v12,g',_,ht,hh⟩;simp only at ht hh;subst ht hh;rw[show (L.drop k).take (n-k)=L.drop k by rw[← hKl,List.take_length]];refine (Zb (s0:=s) hT (Z9D l (sl 0 o n c) o n c k e (hiE V e) (k:Nat) _ m mo _ v10 v11 v12 (hgQ o n c e m) g1 g') ZaI).mono fun e' z he=> ?_;obtain⟨rfl,⟨g2,z1⟩,z2⟩:=he;refine⟨.inr rfl,?_⟩;have hsp:vb 4294967296 (L.take k)+4294967296^k*vb 4294967296 (L.drop k)=V:=by
    have:=Zay 4294967296 (L.take k) (L.drop k);rw[List.take_append_drop,eV,List.length_take,Nat.min_eq_left (by omega)] at this;exact this.symm
   have hlt:=vbz hdg k;have hp:0<4294967296^k:=Nat.pow_pos (by omega);have elo:loW V=k:=by unfold loW;rw[← hL,← hnl,hk]
   have e1:vb 4294967296 (L.drop k)=hiS V:=by
    unfold hiS;rw[elo,← zP,← hsp,Nat.add_comm,Nat.mul_add_div hp,Nat.div_eq_of_lt hlt,Nat.add_zero]
   have e2:mo=hiM V m:=by
    rw[hmo];unfold Zr7 hiM;rw[elo,← zP,← hsp,Nat.add_comm,Nat.mul_add_mod,Nat.mod_eq_of_lt hlt]
   rw[z1,z2,e1,e2];rfl
  ·rintro e' y he
   match e',he with
   | none,he=>exact he.elim
 ·rintro e' y he
  match e',he with
  | none,he=>exact he.elim
def Z72:Zad:=fun vals h s=>
 match vals,s with
 | [.slice (some ⟨b,o,none⟩) n c,.int .i64 e,.bool m],.inr (.inl V)::s'=>
  match h.blk? b with
  | some x=>some (vN false (hiE V.toNat e) (ofN (hiS V.toNat)) (hiM V.toNat m),h,s',[(Z6 x.2 x.1 o n c,true),(decide (Zx x.1 o n=db 4294967296 V.toNat),true),(decide (n≤1000∧ -1000000≤e∧e≤1000000),true)])
  | _=>none
 | _,_=>none
theorem Zxq:Z8 78 Z72:=by
 intro vals h s v h' s' lg hg hl m B w E hv;unfold Z72 at hg;split at hg
 ·rename_i b o n c e mo V s2;split at hg
  ·rename_i x hx;cases hg;have ra:Z6 x.2 x.1 o n c=true:=hl _ Xe;have q1:=Xc (hl _ (Xd _ Xe));have q2:=Xc (hl _ (Xd _ (Xd _ Xf)));obtain⟨h1,h2,h3,h4,h5,h6,h7⟩:=ZH ra;rw[q1] at h1 h2;have r:=Zxp (c:=c) (e:=e) (m:=mo) h1 (by omega) (by omega) h4 q2.2;rw[h2] at r;exact ZB (T:=Zr prog Zf Zn hcN) func78 Zxn (ZaK h7) (vals:=[sl 0 o n c,.int .i64 e,.bool mo]) (fun v hv=>by
    simp only[List.mem_cons,List.not_mem_nil,or_false] at hv;rcases hv with rfl | rfl | rfl<;>rfl) (by rfl) r.w E (s:=fun _=>b) (zH hx h5 h6 rfl)
  ·cases hg
 ·cases hg
def Z40:Hc:=zS 75 Na.gPs (zS 76 Na.ZvX (zS 79 Na.ZvW (zS 80 Na.ZvV (zS 81 Na.Z6k (zS 115 Na.Z4t (zS 116 Na.Zim (zS 78 Z72 hcN)))))))
theorem Zxr:HcOk Z40:=Z1 func75 rfl Na.Z0y (Z1 func76 rfl Na.ZqL (Z1 func79 rfl Na.ZqK (Z1 func80 rfl Na.ZqJ (Z1 func81 rfl Na.ZvI (Z1 func115 rfl Na.ZmD (Z1 func116 rfl Na.Zgt (Z1 func78 rfl Zxq Zam)))))))
theorem Z2j:TabOk (Zr prog Zf Zn Z40):=Zh Zd Zxr
def r32 (m V:Nat):List Value×TypeId:=(wU (dg m (V:Int)),tU)
def z7:List Value×TypeId:=nB9 false 0 ⟨0,0,0,0⟩ false
def pA9 (k:Nat):Option Addr:=some ⟨k,0,none⟩
def lw9 (A:Nat):Nat:=(db 4294967296 A).length
def tn (m V:Nat):Nat:=Zl (dg m (V:Int))
def Zty (D:List UInt8) (A:Nat) (j:Int) (P:Nat):Hp:=⟨3,[r32 (Na.pMi 10 j) P,r32 (Na.psN ⟨⟨D⟩⟩) A,z7]⟩
def lPs (D:List UInt8) (A:Nat) (l:Log):Log:=(decide (Na.psV ⟨⟨D⟩⟩=A),true)::(Na.okP ⟨⟨D⟩⟩,true)::(Nat.ble D.length 20000,true)::l
def lPw (j:Int) (P:Nat) (l:Log):Log:=(decide (((10^j.toNat:Nat):Int)=(P:Int)),true)::(Na.ZyW 10 j,true)::(decide ((10:Int)=0∧1≤j),false)::l
def lHg (m V:Nat) (e:Int) (l:Log):Log:=(Z6 tU (wU (dg m (V:Int))) 0 (tn m V) m,true)::(decide (Zx (wU (dg m (V:Int))) 0 (tn m V)=db 4294967296 V),true)::(decide (tn m V≤1000∧ -1000000≤e∧e≤1000000),true)::l
def Z9E (H:Hp) (p q:Option Addr) (n c n' c' T:Nat) (l:Log):Log:=(decide (Na.Zhp (Zq H p n) (Zq H q n')=dg (n+n') (T:Int)),true)::(Na.Zai H p n c,true)::(Na.Zai H q n' c',true)::(!decide (n=0∨n'=0) && Nat.ble (n+n') 8192,true)::(Na.Zai H p n c,true)::(Na.Zai H q n' c',true)::(Na.ZU (Zq H p n) || Na.ZU (Zq H q n'),false)::l
def teV (T:Nat) (e:Int) (m:Bool):Value:=vN false (hiE T e) (ofN (hiS T)) (hiM T m)
theorem Z73 (D:List UInt8) (j:Int) (A P T:Nat):Z7 (Zm (Zr prog Zf Zn Z40) 200 35 [bR D,.int .i64 j] [cmp true,num A,cmp true,cmp false,cmp false,num P,cmp false,cmp false,num T,num T]) (teV T 0 false) (lHg (lw9 A+tn (Na.pMi 10 j) P) T 0 (Z9E (Zty D A j P) (pA9 1) (pA9 2) (lw9 A) (Na.psN ⟨⟨D⟩⟩) (tn (Na.pMi 10 j) P) (Na.pMi 10 j) T (lPw j P ((decide (j≥0),true)::lPs D A [])))):=by and_intros<;>kernel_rfl
def ngJ (j:Int):Int:=i64.wrap (0-j)
def upE (a b:Int):Int:=if 0>i64.wrap (i64.wrap (b+128)-a) then 0 else i64.wrap (i64.wrap (b+128)-a)
def Z74 (D:List UInt8) (A:Nat) (j:Int) (P:Nat) (k:Int) (S:Nat):Hp:=⟨4,[r32 (Na.sM (lw9 A) k) S,r32 (Na.pMi 10 j) P,r32 (Na.psN ⟨⟨D⟩⟩) A,z7]⟩
def lLn (H:Hp) (p:Option Addr) (n c:Nat) (k:Int) (l:Log):Log:=(decide (Na.Zdy (Zq H p n)=k),true)::(Na.Zai H p n c,true)::l
def lSh (H:Hp) (p:Option Addr) (n c:Nat) (k:Int) (S:Nat) (l:Log):Log:=(decide (ZgT (Zq H p n) k.toNat=dg (Na.sM n k) (S:Int)),true)::(Na.Zai H p n c,true)::(Na.ZU (Zq H p n) || decide (k<0),false)::(decide (n=0),false)::(decide (k>262144-Na.Zdy (Zq H p n)),false)::l
def lDv (H:Hp) (p q:Option Addr) (n c n' c':Nat) (Q R:Nat) (l:Log):Log:=(decide (Go.Nt.vN (Zq H p n)/Go.Nt.vN (Zq H q n')=(Q:Int)∧Go.Nt.vN (Zq H p n) % Go.Nt.vN (Zq H q n')=(R:Int)),true)::(Na.Zai H p n c,true)::(Na.Zai H q n' c',true)::(!(Na.ZU (Zq H p n) || Na.ZU (Zq H q n')) && decide (0<n'∧¬ Zci (Zq H p n) (Zq H q n')<0),true)::l
theorem Z75 (D:List UInt8) (j:Int) (A P:Nat) (a b:Int) (S Q R:Nat) (d:Bool):Z7 (Zm (Zr prog Zf Zn Z40) 200 35 [bR D,.int .i64 j] [cmp true,num A,cmp false,cmp false,cmp false,num P,num b,num a,cmp false,cmp false,cmp false,num S,cmp false,cmp false,cmp false,num Q,num R,cmp d,num Q]) (teV Q (i64.wrap (0-upE a b)) d)
  (lHg (tn (Na.sM (lw9 A) (upE a b)) S-tn (Na.pMi 10 (ngJ j)) P+1) Q (i64.wrap (0-upE a b)) ((decide (((tn (tn (Na.sM (lw9 A) (upE a b)) S+1) R:Nat):Int)>0),d)::lDv (Z74 D A (ngJ j) P (upE a b) S) (pA9 3) (pA9 2) (tn (Na.sM (lw9 A) (upE a b)) S) (Na.sM (lw9 A) (upE a b)) (tn (Na.pMi 10 (ngJ j)) P) (Na.pMi 10 (ngJ j)) Q R
   (lSh (Zty D A (ngJ j) P) (pA9 1) (lw9 A) (Na.psN ⟨⟨D⟩⟩) (upE a b) S (lLn (Zty D A (ngJ j) P) (pA9 1) (lw9 A) (Na.psN ⟨⟨D⟩⟩) a (lLn (Zty D A (ngJ j) P) (pA9 2) (tn (Na.pMi 10 (ngJ j)) P) (Na.pMi 10 (ngJ j)) b (lPw (ngJ j) P ((decide (j≥0),false)::lPs D A []))))))):=by and_intros<;>kernel_rfl
theorem Z2k {m V:Nat}(hV:V<4294967296^m) (hm:m≤1000) {e:Int}(he: -1000000≤e∧e≤1000000) {l:Log}(hl:Z3 l):Z3 (lHg m V e l):=by
 have r:=Na.Zkt (H:=⟨1,[r32 m V]⟩) (b:=0) rfl hV hm;have ht:tn m V≤1000:=r.2.2.2.2;refine Za ?_ (Za (Xa r.2.2.1) (Za (Xa ⟨ht,he⟩) hl));have:=Za4 (dg m (V:Int));have hd:=ZS m (V:Int);exact Na.z3 (Za2 _ _) (by show 0+tn m V≤_;unfold tn;omega) (by unfold tn;omega) (Na.zu (by omega))
theorem Z2l {m V:Nat}(hV:V<4294967296^m) (hm:m≤1000):tn m V=(Na.d32 V).length:=(Na.Zkt (H:=⟨1,[r32 m V]⟩) (b:=0) rfl hV hm).2.2.2.1
theorem Ztz {H:Hp}{b A:Nat}{D:List UInt8}(hA:A<10^D.length) (hD:D.length≤801) (hb:H.blk? b=some (r32 (Na.psN ⟨⟨D⟩⟩) A)):Na.IsR H (pA9 b) (lw9 A) (Na.psN ⟨⟨D⟩⟩) A:=by
 have e:Na.psN ⟨⟨D⟩⟩=D.length/9+1:=rfl;have h:=Na.Zkt (H:=H) (b:=b) (V:=A) (m:=Na.psN ⟨⟨D⟩⟩) hb (Nat.lt_trans hA (Na.Zh8 D.length)) (by omega);have e2:lw9 A=Zl (dg (Na.psN ⟨⟨D⟩⟩) (A:Int)):=h.2.2.2.1.symm;rw[e2];exact h
theorem Z2m {D:List UInt8}(ha:zf 10 D=true) (h0:D≠[]) (hl:D.length≤801):Z3 (lPs D (nmB 10 D) []):=
 Za (Xa (Na.Z1M ha)) (Za (Na.Zw8 ha h0) (Z4 (Nat.ble_eq_true_of_le (by omega))))
theorem Zt0 {j:Int}{k:Nat}(hj:j=(k:Nat)) (hk:k≤2000) {l:Log}(hl:Z3 l):Z3 (lPw j (10^k) l):=by
 refine Za (Xa (by rw[hj,Xg])) (Za ?_ (Za (Xb (fun h=>absurd h.1 (by decide))) hl));exact Xa ⟨by decide,by decide,by omega,.inr ⟨rfl,by omega⟩⟩
theorem Zr8 {D:List UInt8}(ha:zf 10 D=true) (hA:nmB 10 D≠0) (hl:D.length≤801) {j:Int}(hj: -1900≤j∧j≤1900) (w:World):Calls prog 35 #[bR D,.int .i64 j] w fun e w'=>e= .returned (teV (teT (nmB 10 D) j) (teE (nmB 10 D) j) (teM (nmB 10 D) j))∧Zal w w':=by
 have h0:D≠[]:=fun h=>hA (by rw[h];rfl);obtain⟨A,eA⟩:∃ A,A=nmB 10 D:=⟨_,rfl⟩;have hlt:A<10^D.length:=by rw[eA];exact Zdu (b:=10) (.inl rfl) D
 have lp:=Z2m ha h0 hl;rw[← eA] at lp hA;rw[← eA];have epN:Na.psN ⟨⟨D⟩⟩=D.length/9+1:=rfl;have lA:(Na.d32 A).length≤90:=by
  have:=ZaZ (b:=4294967296) (by omega) _ _ (Nat.lt_trans hlt (Na.Zh8 D.length));show (db 4294967296 A).length≤90;omega
 unfold teT teE teM;by_cases h1:0≤j
 ·rw[if_pos h1,if_pos h1,if_pos h1];obtain⟨k,hk⟩:∃ k:Nat,j=(k:Nat):=⟨j.toNat,by omega⟩;obtain⟨rP,lP⟩:=Na.Zh9 (H:=Zty D A j (10^k)) (b:=2) hk (by omega) rfl;have rA:Na.IsR (Zty D A j (10^k)) (pA9 1) (lw9 A) (Na.psN ⟨⟨D⟩⟩) A:=Ztz hlt hl rfl;have eP:tn (Na.pMi 10 j) (10^k)=(Na.d32 (10^k)).length:=rP.2.2.2.1;have hP0:=ZbO k;have pA:=Na.Zbt hA;have pP:=Na.Zbt hP0;have hT:A*10^k<4294967296^(lw9 A+tn (Na.pMi 10 j) (10^k)):=Na.Z0L (Na.rLt rA) (Na.rLt rP);have lsum:lw9 A+tn (Na.pMi 10 j) (10^k)≤1000:=by rw[eP];show (Na.d32 A).length+_≤_;omega
  have f:=Z73 D j A (10^k) (A*10^k);have hnz:(!decide (lw9 A=0∨tn (Na.pMi 10 j) (10^k)=0) && Nat.ble (lw9 A+tn (Na.pMi 10 j) (10^k)) 8192)=true:=Na.Zg4 pA (by rw[eP];exact pP) (by omega);rw[show j.toNat=k by omega];refine Zc Z2j f (Z2k hT lsum ⟨by decide,by decide⟩ ?_) (by rfl) (by rfl) w;refine Za (Na.ZvJ rA rP) (Za (Na.rX rA) (Za (Na.rX rP) (Za hnz (Za (Na.rX rA) (Za (Na.rX rP) (Za (Na.rOr rA rP) ?_))))));exact Zt0 hk (by omega) (Za (Xa h1) lp)
 ·rw[if_neg h1,if_neg h1,if_neg h1];obtain⟨k,hk⟩:∃ k:Nat,-j=(k:Nat):=⟨(-j).toNat,by omega⟩;have eN:ngJ j=(k:Nat):=by unfold ngJ;rw[Zw (by omega) (by omega)];omega
  obtain⟨B,eB⟩:∃ B,B=10^k:=⟨_,rfl⟩;have hP0:B≠0:=by rw[eB];exact ZbO k
  rw[show (-j).toNat=k by omega,← eB];obtain⟨u,hu⟩:∃ u,u=upT A B:=⟨_,rfl⟩;obtain⟨rP,lP⟩:=Na.Zh9 (H:=Zty D A (ngJ j) (10^k)) (b:=2) eN (by omega) rfl;have rA:Na.IsR (Zty D A (ngJ j) B) (pA9 1) (lw9 A) (Na.psN ⟨⟨D⟩⟩) A:=Ztz hlt hl rfl;rw[← eB] at rP lP;have eP:tn (Na.pMi 10 (ngJ j)) B=(Na.d32 B).length:=rP.2.2.2.1;have pA:=Na.Zbt hA;have pP:=Na.Zbt hP0;obtain⟨M,hM⟩:∃ M,M=90:=⟨_,rfl⟩;obtain⟨M',hM'⟩:∃ M,M=213:=⟨_,rfl⟩;have bA:bitLen A≤32*M:=Go.Rn.len_le (by rw[← zP];exact Nat.lt_of_lt_of_le (Na.Zep A) (Nat.pow_le_pow_right (by omega) (by omega)));have bB:bitLen B≤32*M':=Go.Rn.len_le (by rw[← zP];exact Nat.lt_of_lt_of_le (Na.Zep B) (Nat.pow_le_pow_right (by omega) (by omega)));have eU:upE ((bitLen A:Nat):Int) ((bitLen B:Nat):Int)=(u:Nat):=by
   unfold upE;rw[Zw (n:=((bitLen B:Nat):Int)+128) (by omega) (by omega),Zw (by omega) (by omega),hu];unfold upT;split<;>omega
  have hu2:u≤7000:=by rw[hu];unfold upT;omega
  have hAw:A<4294967296^lw9 A:=Na.Zep A;have hS:=Na.Z1J (k:=u) hAw;have hSm:Na.sM (lw9 A) (u:Nat)≤1000:=by
   unfold Na.sM;rw[Xg];show u/32+((Na.d32 A).length+1)≤1000;omega
  obtain⟨S,eS⟩:∃ S,S=A*2^u:=⟨_,rfl⟩;rw[← eS] at hS;have hS0:S≠0:=by rw[eS];exact ZgB hA (fun h=>by have:=Nat.pow_pos (n:=u) (show 0<2 by omega);omega)
  have eSn:=Z2l hS hSm;have rS:Na.IsR (Z74 D A (ngJ j) B (u:Nat) S) (pA9 3) (tn (Na.sM (lw9 A) (u:Nat)) S) (Na.sM (lw9 A) (u:Nat)) S:=Na.Zkt rfl hS hSm;obtain⟨rP3,_⟩:=Na.Zh9 (H:=Z74 D A (ngJ j) (10^k) (u:Nat) S) (b:=2) eN (by omega) rfl;rw[← eB] at rP3;have hBS:B≤S:=by
   have:=ZiO hA hP0;rw[← hu,← eS] at this;rcases Nat.lt_or_ge S B with h2 | h2
   ·rw[Nat.div_eq_of_lt h2] at this;exact absurd this (by decide)
   ·exact h2
  have hle:=Na.Z1L hBS;have hQ:S/B<4294967296^(tn (Na.sM (lw9 A) (u:Nat)) S-tn (Na.pMi 10 (ngJ j)) B+1):=by
   rw[eSn,eP];exact Na.Z1K hP0 hle
  have sl:(Na.d32 S).length≤Na.sM (lw9 A) (u:Nat):=by
   rw[← eSn];have:=Za4 (dg (Na.sM (lw9 A) (u:Nat)) (S:Int));rw[ZS] at this;exact this
  have hR:S % B<4294967296^(tn (Na.sM (lw9 A) (u:Nat)) S+1):=by
   have h2:S % B<S+1:=Nat.lt_succ_of_le (Nat.mod_le _ _);refine Nat.lt_of_lt_of_le h2 ?_;rw[eSn,Nat.pow_succ];have:=Na.Zep S;omega
  have sl2:Na.sM (lw9 A) (u:Nat)≤400:=by
   unfold Na.sM;rw[Xg];show u/32+((Na.d32 A).length+1)≤400;omega
  have eRn:=Z2l hR (by rw[eSn];omega);have eW:i64.wrap (0-((u:Nat):Int))= -((u:Nat):Int):=by rw[Zw (by omega) (by omega)];omega
  have hd:decide (((tn (tn (Na.sM (lw9 A) (u:Nat)) S+1) (S % B):Nat):Int)>0)=decide (S % B≠0):=by
   rw[eRn];by_cases hz:S % B=0
   ·have h2:(Na.d32 (S % B)).length=0:=by rw[hz];show (db 4294967296 0).length=0;rw[zp];rfl
    rw[h2,Xb (show ¬ (S % B≠0) from fun h=>h hz)];rfl
   ·have:=Na.Zbt hz;rw[Xa hz];exact Xa (by omega)
  have f:=Z75 D j A B ((bitLen A:Nat):Int) ((bitLen B:Nat):Int) S (S/B) (S % B) (decide (S % B≠0));rw[eU,eW] at f;rw[← hu,← eS];refine Zc Z2j f (Z2k hQ (by rw[eSn];omega) ⟨by omega,by omega⟩ (Za hd ?_)) (by rfl) (by rfl) w;refine Za (Na.Z9q rS rP3) (Za (Na.rX rS) (Za (Na.rX rP3) (Za (Na.rG rS rP3 (by show 0<tn (Na.pMi 10 (ngJ j)) B;rw[eP];exact pP) hBS) ?_)));have hsh:=Na.Z9u rA u;rw[← eS] at hsh;refine Za hsh (Za (Na.rX rA) (Za (Na.Z67 rA u) (Za (Na.rNe rA hA) (Za (Na.Z9v rA hA (by omega)) ?_))));refine Za (Na.Z8C rA hA) (Za (Na.rX rA) (Za (Na.Z8C rP hP0) (Za (Na.rX rP) ?_)));rw[eB];exact Zt0 eN (by omega) (Za (Xb h1) lp)
def Z76:Ans:=fun vals s=>
 match vals with
 | [.string a,.int .i64 j]=>some (teV (teT (nmB 10 a.data.toList) j) (teE (nmB 10 a.data.toList) j) (teM (nmB 10 a.data.toList) j),s,[(zf 10 a.data.toList,true),(decide (nmB 10 a.data.toList≠0),true),(decide (a.data.toList.length≤801∧ -1900≤j∧j≤1900),true)])
 | _=>none
theorem Zxs:ZR 35 Z76:=by
 intro vals s v s' lg h hl w;unfold Z76 at h;split at h
 ·rename_i a j;cases h;have h1:zf 10 a.data.toList=true:=hl _ Xe;have h2:=Xc (hl _ (Xd _ Xe));have h3:=Xc (hl _ (Xd _ (Xd _ Xf)));exact Zr8 h1 h2 h3.1 h3.2 w
 ·cases h
def Zr9:Con:=alt 33 Z6V (alt 34 Z6W (alt 35 Z76 Zn))
theorem ZrA:ConOk Zr9:=Z9 func33 rfl ZwQ (Z9 func34 rfl ZwS (Z9 func35 rfl Zxs Zd))
def nuW (b:Int) (D:List UInt8) (k P:Int):Value:= .agg #[.int .i64 b,bR D,.int .i64 k,.int .i64 P]
theorem Z9F (D:List UInt8) (b k P:Int):Z7 (Zm (Zk prog Zf Zr9 true) 100 18 [nuW b D k P] [sam true]) (vN false 0 ⟨0,0,0,0⟩ false) [Zb2 D [] true]:=by and_intros<;>kernel_rfl
theorem Z9G (D:List UInt8) (b k P:Int):Z7 (Zm (Zk prog Zf Zr9 true) 100 18 [nuW b D k P] [sam false,cmp true]) (vN false (i64.wrap (P+i64.wrap (4*i64.wrap (k-((shR 60 D).length:Nat))))) (ofN (nmB 16 (shR 60 D))) false) [(zf 16 (shR 60 D),true),(decide ((shR 60 D).length≤62),true),(decide ((0:Int)≤60∧(60:Int)≤1000∧D.length≤100000),true),(b==16,true),Zb2 D [] false]:=by and_intros<;>kernel_rfl
def clE (k P:Int):Int:=if 400<(if -400>i64.wrap (k+P) then -400 else i64.wrap (k+P)) then 400 else (if -400>i64.wrap (k+P) then -400 else i64.wrap (k+P))
def jN (D:List UInt8) (k P:Int):Int:=i64.wrap (clE k P-((shR 800 D).length:Nat))
theorem Z9H (D:List UInt8) (b k P:Int):Z7 (Zm (Zk prog Zf Zr9 true) 100 18 [nuW b D k P] [sam false,cmp false]) (teV (teT (nmB 10 (shR 800 D)) (jN D k P)) (teE (nmB 10 (shR 800 D)) (jN D k P)) (teM (nmB 10 (shR 800 D)) (jN D k P))) [(zf 10 (shR 800 D),true),(decide (nmB 10 (shR 800 D)≠0),true),(decide ((shR 800 D).length≤801∧ -1900≤jN D k P∧jN D k P≤1900),true),(decide ((0:Int)≤800∧(800:Int)≤1000∧D.length≤100000),true),(b==16,false),Zb2 D [] false]:=by and_intros<;>kernel_rfl
theorem Z2n {k P:Int}(h: -1000000000≤k+P∧k+P≤1000000000):clE k P=clF (k+P):=by
 unfold clE clF;rw[Zw (by omega) (by omega)];split<;>split at* <;>omega
theorem Zt1 {b:Int}{D:List UInt8}(h:zf b D=true) (k:Nat):zf b (shR k D)=true:=by
 unfold shR;split
 ·exact h
 ·refine ZiK ?_ ?_
  ·unfold zf at*;rw[List.all_eq_true] at*;exact fun x hx=>h x (List.mem_of_mem_take hx)
  ·unfold zf ZO;rfl
def Zza (b:Int) (D:List UInt8) (k P:Int):Bool:=zf b D && decide ((b=10∨b=16)∧(b=10→nmB 10 (shR 800 D)≠0)∧D.length≤100000∧ -100000≤k∧k≤100000∧ -10000000≤P∧P≤10000000)
def nu4:Value→Option (Int×ByteArray×Int×Int)
 | .agg cs=>
  match cs.toList with
  | [.int .i64 b,.string D,.int .i64 k,.int .i64 P]=>some (b,D,k,P)
  | _=>none
 | _=>none
theorem Zja {v:Value}{b:Int}{D:ByteArray}{k P:Int}(h:nu4 v=some (b,D,k,P)):v=nuW b D.data.toList k P:=by
 unfold nu4 at h;split at h
 ·rename_i cs;split at h
  ·rename_i hc;cases h;obtain⟨l⟩:=cs;simp only at hc;subst hc;rfl
  ·cases h
 ·cases h
def Z77:Ans:=fun vals s=>
 match vals,s with
 | [v],.inr (.inr (.inr (.inl true)))::s'=>
  match nu4 v with
  | some (_,D,_,_)=>some (vN false 0 ⟨0,0,0,0⟩ false,s',[(decide (D.data.toList=[]),true)])
  | none=>none
 | [v],.inr (.inr (.inr (.inl false)))::s'=>
  match nu4 v with
  | some (b,D,k,P)=>some (vN false (noE b D.data.toList k P) (ofN (noS b D.data.toList k P)) (noM b D.data.toList k P),s',[(decide (D.data.toList=[]),false),(Zza b D.data.toList k P,true)])
  | none=>none
 | _,_=>none
theorem Zxt:ZR 18 Z77:=by
 intro vals s v s' lg h hl w;have hT:=Zj ZrA;unfold Z77 at h;split at h
 ·rename_i v0 s2;split at h
  rotate_left
  ·cases h
  rename_i b D k P hv;rw[Zja hv];cases h;have h1:decide (D.data.toList=[])=true:=hl _ Xf;exact Zc hT (Z9F D.data.toList b k P) (Z4 (ze h1)) (by rfl) (by rfl) w
 ·rename_i v0 s2;split at h
  rotate_left
  ·cases h
  rename_i b D k P hv;rw[Zja hv];cases h;have h1:decide (D.data.toList=[])=false:=hl _ Xe;have h2:Zza b D.data.toList k P=true:=hl _ (Xd _ Xf);unfold Zza at h2;rw[Xh,Xi] at h2;obtain⟨ha,hb,hz,hl,hk1,hk2,hP1,hP2⟩:=h2;by_cases h16:b=16
  ·have sl:=ZnA 60 D.data.toList;have f:=Z9G D.data.toList b k P;have e:i64.wrap (P+i64.wrap (4*i64.wrap (k-((shR 60 D.data.toList).length:Nat))))=P+4*(k-((shR 60 D.data.toList).length:Nat)):=by
    rw[Zw (n:=k-((shR 60 D.data.toList).length:Nat)) (by omega) (by omega),Zw (n:=4*(k-((shR 60 D.data.toList).length:Nat))) (by omega) (by omega),Zw (by omega) (by omega)]
   rw[e] at f;unfold noE noS noM;rw[if_pos h16,if_pos h16,if_pos h16];rw[h16] at ha;exact Zc hT f (Za (Zt1 ha 60) (Za (Xa (by omega)) (Za (Xa ⟨by decide,by decide,hl⟩) (Za (by simpa using h16) (Z4 (ze h1)))))) (by rfl) (by rfl) w
  ·have h10:b=10:=by omega
   have sl:=ZnA 800 D.data.toList;have f:=Z9H D.data.toList b k P;have ec:=Z2n (k:=k) (P:=P) (by omega);have bc: -400≤clF (k+P)∧clF (k+P)≤400:=by unfold clF;omega
   have e:jN D.data.toList k P=clF (k+P)-((shR 800 D.data.toList).length:Nat):=by
    unfold jN;rw[ec,Zw (by omega) (by omega)]
   rw[e] at f;unfold noE noS noM;rw[if_neg h16,if_neg h16,if_neg h16];rw[h10] at ha;exact Zc hT f (Za (Zt1 ha 800) (Za (Xa (hz h10)) (Za (Xa ⟨by omega,by omega,by omega⟩) (Za (Xa ⟨by decide,by decide,hl⟩) (Za (by simpa using h16) (Z4 (ze h1))))))) (by rfl) (by rfl) w
 ·cases h
end Go.Proofs.YtjlponbdflkbjaaGreatDoor
namespace Go.Proofs.YtjlponbdflkbjaaGreatDoor
open Go.Proofs.Tryz
open Go.KRun Go.Wd Go.Pt Go.Rn
set_option maxRecDepth 100000
def Z41 (x:W4) (b:Bool) (d:Nat):Value:= .tuple #[vW (ofN (tw x b/2^(d+1))),.int .i64 (zD (tw x b % 2^(d+1)) (2^(d+1)))]
theorem Zjb {x:W4}{n:Int}(h:x.ok) (h0: -9223372036854775808≤n) (h1:n≤9223372036854775807):decide (x.ok∧ -9223372036854775808≤n∧n≤9223372036854775807)=true:=Xa ⟨h,h0,h1⟩
theorem ZnQ (n b:Bool) (x:W4) (ex e:Int) (hx:x.ok) (h1: -4000≤ex) (h2:ex≤e) (h3:e≤4000) (w:World):Calls prog 84 #[vN n ex x b,.int .i64 e] w fun r w'=>r= .returned (Z41 x b (e-ex).toNat)∧Zal w w':=by
 obtain⟨d,hd⟩:∃ d:Nat,e-ex=(d:Int):=⟨(e-ex).toNat,by omega⟩;have e1:dnI ex e=(d:Int):=by unfold dnI;rw[Zbx ⟨by omega,by omega⟩,hd]
 have e2:dn1 ex e=(d:Int)-1:=by
  unfold dn1;rw[Zbx (n:=e-ex) ⟨by omega,by omega⟩,hd,Zbx ⟨by omega,by omega⟩]
 have eV:∀ c,c=zD (tw x b % 2^(d+1)) (2^(d+1))→ctV x ex e c=Z41 x b (e-ex).toNat:=fun c hc=>by
  unfold ctV Z41;rw[e1,ZiZ hx (by omega),hd,Xg,Znh,hc]
 have k1:decide (x.ok∧ -9223372036854775808≤dnI ex e∧dnI ex e≤9223372036854775807)=true:=Zjb hx (by omega) (by omega);have k2:decide (x.ok∧ -9223372036854775808≤dn1 ex e∧dn1 ex e≤9223372036854775807)=true:=Zjb hx (by omega) (by omega);have kl:ZgU x (dnI ex e)=decide (x.nat % 2^d≠0):=by rw[e1,Zr5 hx (by omega),Xg]
 have hv:([vN n ex x b,.int .i64 e].all (lt 0))=true:=rfl;by_cases hl:x.nat % 2^d=0
 ·have kf:ZgU x (dnI ex e)=false:=by rw[kl];simp [hl]
  cases b
  ·rw[← eV 0 (by rw[Zwl hl])];exact Zc (Zj Zbu) (ct0 n x ex e) (Za k1 (Z4 kf)) hv (by rfl) w
  ·cases d with
   | zero=>
    rw[← eV 2 (by rw[Zwm])];exact Zc (Zj Zbu) (ct1 n x ex e) (Za (by rw[e1];rfl) (Za k1 (Z4 kf))) hv (by rfl) w
   | succ j=>
    have k0:(dnI ex e==0)=false:=by rw[e1];simp;omega
    have e3:dn1 ex e=(j:Int):=by rw[e2];omega
    have kb:ZnK x (dn1 ex e)=((x.nat/2^j % 2:Nat):Int):=by rw[e3,ZfS hx (by omega),Xg]
    by_cases hb:x.nat/2^j % 2=0
    ·rw[← eV 1 (by rw[ZiH hb (.inr rfl)])];exact Zc (Zj Zbu) (ct2 n x ex e true) (Za (by rw[kb,hb];rfl) (Za k2 (Za k0 (Za k1 (Z4 kf))))) hv (by rfl) w
    ·have hb':x.nat/2^j % 2=1:=by omega
     rw[← eV 3 (by rw[ZfK hb' (.inr rfl)])];exact Zc (Zj Zbu) (ct2 n x ex e false) (Za (by rw[kb,hb'];rfl) (Za k2 (Za k0 (Za k1 (Z4 kf))))) hv (by rfl) w
 ·have kf:ZgU x (dnI ex e)=true:=by rw[kl];simp [hl]
  cases d with
  | zero=>exact absurd (by simp [Nat.mod_one]) hl
  | succ j=>
   have k0:(dnI ex e==0)=false:=by rw[e1];simp;omega
   have e3:dn1 ex e=(j:Int):=by rw[e2];omega
   have kb:ZnK x (dn1 ex e)=((x.nat/2^j % 2:Nat):Int):=by rw[e3,ZfS hx (by omega),Xg]
   by_cases hb:x.nat/2^j % 2=0
   ·rw[← eV 1 (by rw[ZiH hb (.inl hl)])];exact Zc (Zj Zbu) (ct4 n b x ex e) (Za (by rw[kb,hb];rfl) (Za k2 (Za k0 (Za k1 (Z4 kf))))) hv (by rfl) w
   ·have hb':x.nat/2^j % 2=1:=by omega
    cases b
    ·have hs:ZjZ x (dnI ex e)=ofN (x.nat/2^(j+1)):=by rw[e1,ZiZ hx (by omega),Xg]
     have hlt:=W4.nat_lt hx;have hle:x.nat/2^(j+1)≤x.nat:=Nat.div_le_self _ _;have hle2:2*(x.nat/2^(j+1))≤x.nat:=by
      have:=Nat.div_mul_le_self x.nat (2^(j+1));have hp:0<2^j:=Nat.pow_pos (by omega);have h9:2*(x.nat/2^(j+1))≤x.nat/2^(j+1)*2^(j+1):=by
       rw[Nat.mul_comm 2,Nat.pow_succ];exact Nat.mul_le_mul_left _ (by omega)
      omega
     have ht:tw (ZjZ x (dnI ex e)) true=2*(x.nat/2^(j+1))+1:=by
      unfold tw;rw[hs,Zbq (by omega)]
     have hk:bkW x ex e=ofN ((2*(x.nat/2^(j+1))+1)*2^j):=by
      unfold bkW;have e256:(2:Nat)^256=115792089237316195423570985008687907853269984665640564039457584007913129639936:=rfl;rw[ht,e3,ZfR (zO _) (by omega),Xg,Zbq (by omega)]
     have kq:eqW x (bkW x ex e)=decide (x.nat % 2^j=0):=by rw[hk,ZqR hx hb']
     have kok:decide ((ofN (tw (ZjZ x (dnI ex e)) true)).ok∧ -9223372036854775808≤dn1 ex e∧dn1 ex e≤9223372036854775807)=true:=Zjb (zO _) (by omega) (by omega);have ks:decide (ZjZ x (dnI ex e)).ok=true:=by rw[hs];exact Xa (zO _)
     by_cases hz:x.nat % 2^j=0
     ·rw[← eV 2 (by rw[Zwn hb' hz])];exact Zc (Zj Zbu) (ct6 n x ex e false) (Za (by rw[kq,Xa hz];rfl) (Za kok (Za ks (Za (by rw[kb,hb'];rfl) (Za k2 (Za k0 (Za k1 (Z4 kf)))))))) hv (by rfl) w
     ·rw[← eV 3 (by rw[ZfK hb' (.inl hz)])];exact Zc (Zj Zbu) (ct6 n x ex e true) (Za (by rw[kq,Xb hz];rfl) (Za kok (Za ks (Za (by rw[kb,hb'];rfl) (Za k2 (Za k0 (Za k1 (Z4 kf)))))))) hv (by rfl) w
    ·rw[← eV 3 (by rw[ZfK hb' (.inr rfl)])];exact Zc (Zj Zbu) (ct5 n x ex e) (Za (by rw[kb,hb'];rfl) (Za k2 (Za k0 (Za k1 (Z4 kf))))) hv (by rfl) w
def Zkc (x:W4) (ex e:Int):Bool:=decide (x.ok∧ -4000≤ex∧ex≤e∧e≤4000)
def Z78:Ans:=fun vals s=>
 match vals with
 | [v,.int .i64 e]=>
  match n7 v with
  | some (_,ex,x,b)=>some (Z41 x b (e-ex).toNat,s,[(Zkc x ex e,true)])
  | none=>none
 | _=>none
theorem Zxu:ZR 84 Z78:=by
 intro vals s v s' lg h hl w;unfold Z78 at h;split at h
 ·split at h
  ·rename_i n ex x b hn;cases h;have h1:=Xc (hl _ Xf);rw[Zco hn];exact ZnQ n b x ex _ h1.1 h1.2.1 h1.2.2.1 h1.2.2.2 w
  ·cases h
 ·cases h
def Zzb:Con:=alt 85 gUp (alt 84 Z78 Ztw)
theorem Zet:ConOk Zzb:=Z9 func85 rfl Z2f (Z9 func84 rfl Zxu Zbu)
end Go.Proofs.YtjlponbdflkbjaaGreatDoor
namespace Go.Proofs.YtjlponbdflkbjaaGreatDoor
open Go.Proofs.Tryz
open Go.IntKind
open Go.KRun Go.Wd Go.Pt Go.Rn
set_option maxRecDepth 100000
def Zd1 (x:W4) (b:Bool) (ex e:Int):W4:=ofN (tw x b/2^((e-ex).toNat+1))
def rsI (x:W4) (b:Bool) (ex e:Int):Int:=zD (tw x b % 2^((e-ex).toNat+1)) (2^((e-ex).toNat+1))
def upX (m:Int) (n:Bool) (x:W4) (b:Bool) (ex e:Int):Bool:=upR m n (ZnK (Zd1 x b ex e) 0 !=0) (rsI x b ex e)
def up1 (ex e:Int):Int:=i64.wrap (i64.wrap (ex-e)-1)
def w1:W4:=⟨1,0,0,0⟩
def w63:W4:=⟨0,0,0,9223372036854775808⟩
def lAd (x:W4):Bool×Bool:=(decide (x.ok∧w1.ok),true)
def lBt (x:W4):Bool×Bool:=(decide (x.ok∧(-9223372036854775808:Int)≤0∧(0:Int)≤9223372036854775807),true)
def lOv (x:W4) (d:Bool):Bool×Bool:=(decide (115792089237316195423570985008687907853269984665640564039457584007913129639936≤x.val+w1.val),d)
def tmR (n:Bool) (e:Int) (x:W4) (l:Bool):Value:= .tuple #[vN n e x false,.bool l]
theorem tm0 (n b:Bool) (x:W4) (ex e m:Int):Z7 (Zm (Zk prog Zf Zzb true) 300 40 [vN n ex x b,.int .i64 e,.int .i64 m] [cmp true]) (tmR n e (Ze7 (ofN (tw x b)) (up1 ex e)) false) [lok (ofN (tw x b)) (up1 ex e),(decide x.ok,true),(decide (e<ex),true)]:=by and_intros<;>kernel_rfl
theorem tm1 (n b:Bool) (x:W4) (ex e m:Int):Z7 (Zm (Zk prog Zf Zzb true) 300 40 [vN n ex x b,.int .i64 e,.int .i64 m] [cmp false,tst false,tst false]) (tmR n e (Zd1 x b ex e) (rsI x b ex e !=0)) [(upX m n x b ex e,false),lBt (Zd1 x b ex e),(Zkc x ex e,true),(false,false),(decide (e<ex),false)]:=by and_intros<;>kernel_rfl
theorem tm2 (n b:Bool) (x:W4) (ex e m:Int):Z7 (Zm (Zk prog Zf Zzb true) 300 40 [vN n ex x b,.int .i64 e,.int .i64 m] [cmp false,tst false,tst true,tst false]) (tmR n e (W4.of ((Zd1 x b ex e).val+w1.val)) (rsI x b ex e !=0)) [lOv (Zd1 x b ex e) false,lAd (Zd1 x b ex e),lAd (Zd1 x b ex e),lAd (Zd1 x b ex e),(upX m n x b ex e,true),lBt (Zd1 x b ex e),(Zkc x ex e,true),(false,false),(decide (e<ex),false)]:=by and_intros<;>kernel_rfl
theorem tm3 (n b:Bool) (x:W4) (ex e m:Int):Z7 (Zm (Zk prog Zf Zzb true) 300 40 [vN n ex x b,.int .i64 e,.int .i64 m] [cmp false,tst false,tst true,tst true]) (tmR n (i64.wrap (e+1)) w63 (rsI x b ex e !=0)) [lOv (Zd1 x b ex e) true,lAd (Zd1 x b ex e),lAd (Zd1 x b ex e),lAd (Zd1 x b ex e),(upX m n x b ex e,true),lBt (Zd1 x b ex e),(Zkc x ex e,true),(false,false),(decide (e<ex),false)]:=by and_intros<;>kernel_rfl
theorem ZrB (n:Nat):(ofN n).nat=n % 2^256:=by
 have e:(2:Nat)^256=115792089237316195423570985008687907853269984665640564039457584007913129639936:=rfl;unfold W4.nat ofN;rw[W4.val_of,e];omega
theorem Zjc {x:W4}(hx:x.ok) (b:Bool) (d:Nat):tw x b/2^(d+1)<2^256:=by
 rw[Znh];exact Nat.lt_of_le_of_lt (Nat.div_le_self _ _) (W4.nat_lt hx)
theorem Zt2 {m:Int}{n:Bool}{x:W4}{b:Bool}{ex e:Int}(hx:x.ok):upX m n x b ex e=upR m n (odd (tw x b/2^((e-ex).toNat+1))) (rsI x b ex e):=by
 unfold upX Zd1;congr 1;rw[ZfS (zO _) (by omega),Zbq (Zjc hx _ _)];unfold odd;generalize tw x b/2^((e-ex).toNat+1)=q;have e0:q/2^(0:Int).toNat % 2=q % 2:=by simp
 rw[e0,Bool.eq_iff_iff];simp only[bne_iff_ne,ne_eq,Xi];omega
theorem Zjd {m:Int}{n:Bool}{T:Nat}{ex e:Int}(h:ex≤e):toQ m n T (ex-1) e=rq m n T ((e-ex).toNat+1):=by
 unfold toQ;rw[if_neg (by omega)];congr 1;omega
theorem ZrC {T:Nat}{ex e:Int}(h:ex≤e):toL T (ex-1) e=decide (T % 2^((e-ex).toNat+1)≠0):=by
 unfold toL;rw[if_neg (by omega),show (e-(ex-1)).toNat=(e-ex).toNat+1 by omega]
theorem Z2o {x:W4}{b:Bool}{ex e:Int}(h:ex≤e):(rsI x b ex e !=0)=toL (tw x b) (ex-1) e:=by
 rw[ZrC h,Bool.eq_iff_iff];simp only[bne_iff_ne,ne_eq,Xi];unfold rsI;rw[Zg5]
theorem Zje (n b:Bool) (x:W4) (ex e m:Int) (hx:x.ok) (h1: -4000≤ex) (h1':ex≤4000) (h2: -4000≤e) (h3:e≤4000) (hq:toQ m n (tw x b) (ex-1) e<2^256) (w:World):Calls prog 40 #[vN n ex x b,.int .i64 e,.int .i64 m] w fun r w'=>r= .returned (tmR n e (ofN (toQ m n (tw x b) (ex-1) e)) (toL (tw x b) (ex-1) e))∧Zal w w':=by
 have hv:([vN n ex x b,.int .i64 e,.int .i64 m].all (lt 0))=true:=rfl;by_cases hlt:e<ex
 ·have e1:up1 ex e=ex-e-1:=by unfold up1;rw[Zbx (n:=ex-e) ⟨by omega,by omega⟩,Zbx ⟨by omega,by omega⟩]
  have h:=Zc (Zj Zet) (tm0 n b x ex e m) (Za (Zjb (zO _) (by omega) (by omega)) (Za (Xa hx) (Z4 (Xa hlt)))) hv (by rfl) w;rw[e1,ZfR (zO _) (by omega),ZrB,Zh1] at h;unfold toQ toL;rw[if_pos (by omega),if_pos (by omega),show (ex-1-e).toNat=(ex-e-1).toNat by omega];exact h
 ·have hle:ex≤e:=by omega
  have kc:Zkc x ex e=true:=Xa ⟨hx,h1,hle,h3⟩;have kb:(decide ((Zd1 x b ex e).ok∧(-9223372036854775808:Int)≤0∧(0:Int)≤9223372036854775807))=true:=Xa ⟨zO _,by omega,by omega⟩;have kl:decide (e<ex)=false:=Xb hlt;have ka:decide ((Zd1 x b ex e).ok∧w1.ok)=true:=Xa ⟨zO _,W4.ok_of 1⟩;rw[Zjd hle] at hq ⊢;rw[← Z2o hle];have hu:=Zt2 (m:=m) (n:=n) (b:=b) (ex:=ex) (e:=e) hx;unfold rq at hq ⊢;by_cases hup:upX m n x b ex e=true
  ·rw[hu] at hup;unfold rsI at hup;rw[if_pos hup] at hq ⊢;have hval:(Zd1 x b ex e).val=((tw x b/2^((e-ex).toNat+1):Nat):Int):=by
    unfold Zd1;rw[W4.nat_val (zO _),Zbq (Zjc hx _ _)]
   have e256:(2:Nat)^256=115792089237316195423570985008687907853269984665640564039457584007913129639936:=rfl;have hw1:w1.val=1:=rfl;have ko:decide (115792089237316195423570985008687907853269984665640564039457584007913129639936≤(Zd1 x b ex e).val+w1.val)=false:=Xb (by rw[hval,hw1];omega);have h:=Zc (Zj Zet) (tm2 n b x ex e m) (Za ko (Za ka (Za ka (Za ka (Za (by rw[hu];exact hup) (Za kb (Za kc (Za rfl (Z4 kl))))))))) hv (by rfl) w;rw[hval,hw1] at h;exact h
  ·rw[Bool.not_eq_true] at hup;have h:=Zc (Zj Zet) (tm1 n b x ex e m) (Za hup (Za kb (Za kc (Za rfl (Z4 kl))))) hv (by rfl) w;rw[hu] at hup;unfold rsI at hup;rw[hup];exact h
theorem Zxv (n b:Bool) (x:W4) (ex e m:Int) (hx:x.ok) (h1: -4000≤ex) (hle:ex≤e) (h3:e≤4000) (hq:¬ toQ m n (tw x b) (ex-1) e<2^256) (w:World):Calls prog 40 #[vN n ex x b,.int .i64 e,.int .i64 m] w fun r w'=>r= .returned (tmR n (e+1) w63 (toL (tw x b) (ex-1) e))∧Zal w w':=by
 have hv:([vN n ex x b,.int .i64 e,.int .i64 m].all (lt 0))=true:=rfl;have hlt:¬ e<ex:=by omega
 have kc:Zkc x ex e=true:=Xa ⟨hx,h1,hle,h3⟩;have kb:(decide ((Zd1 x b ex e).ok∧(-9223372036854775808:Int)≤0∧(0:Int)≤9223372036854775807))=true:=Xa ⟨zO _,by omega,by omega⟩;have kl:decide (e<ex)=false:=Xb hlt;have ka:decide ((Zd1 x b ex e).ok∧w1.ok)=true:=Xa ⟨zO _,W4.ok_of 1⟩;rw[Zjd hle] at hq;rw[← Z2o hle];have hu:=Zt2 (m:=m) (n:=n) (b:=b) (ex:=ex) (e:=e) hx;have hlw:=Zjc hx b (e-ex).toNat;unfold rq at hq;by_cases hup:upX m n x b ex e=true
 ·have hup':=hup;rw[hu] at hup;unfold rsI at hup;rw[if_pos hup] at hq;have hval:(Zd1 x b ex e).val=((tw x b/2^((e-ex).toNat+1):Nat):Int):=by
   unfold Zd1;rw[W4.nat_val (zO _),Zbq (Zjc hx _ _)]
  have e256:(2:Nat)^256=115792089237316195423570985008687907853269984665640564039457584007913129639936:=rfl;have hw1:w1.val=1:=rfl;have ko:decide (115792089237316195423570985008687907853269984665640564039457584007913129639936≤(Zd1 x b ex e).val+w1.val)=true:=Xa (by rw[hval,hw1];omega);have h:=Zc (Zj Zet) (tm3 n b x ex e m) (Za ko (Za ka (Za ka (Za ka (Za hup' (Za kb (Za kc (Za rfl (Z4 kl))))))))) hv (by rfl) w;rw[Zbx ⟨by omega,by omega⟩] at h;exact h
 ·rw[hu] at hup;unfold rsI at hup;rw[if_neg hup] at hq;omega
def Zhn (x:W4) (ex e:Int):Bool:=decide (x.ok∧ -4000≤ex∧ex≤4000∧ -4000≤e∧e≤4000)
def gTm:Ans:=fun vals s=>
 match vals with
 | [v,.int .i64 e,.int .i64 m]=>
  match n7 v,s with
  | some (n,ex,x,b),.inr (.inr (.inr (.inl true))):: .inr (.inr (.inr (.inl d)))::s'=>some (tmR n e (ofN (toQ m n (tw x b) (ex-1) e)) d,s',[(toL (tw x b) (ex-1) e,d),(decide (toQ m n (tw x b) (ex-1) e<2^256),true),(Zhn x ex e,true)])
  | some (n,ex,x,b),[.inr (.inr (.inr (.inl true)))]=>some (tmR n e (ofN (toQ m n (tw x b) (ex-1) e)) (toL (tw x b) (ex-1) e),[],[(decide (toQ m n (tw x b) (ex-1) e<2^256),true),(Zhn x ex e,true)])
  | some (n,ex,x,b),.inr (.inr (.inr (.inl false)))::s'=>some (tmR n (e+1) w63 (toL (tw x b) (ex-1) e),s',[(decide (toQ m n (tw x b) (ex-1) e<2^256),false),(decide (ex≤e),true),(Zhn x ex e,true)])
  | _,_=>none
 | _=>none
theorem Z2p:ZR 40 gTm:=by
 intro vals s v s' lg h hl w;unfold gTm at h;split at h
 ·split at h
  ·rename_i n ex x b d s2 hn;cases h;rw[ZcQ,ZcQ,ZcQ] at hl;have h1:=Xc hl.2.2.1;rw[Zco hn,← hl.1];exact Zje n b x ex _ _ h1.1 h1.2.1 h1.2.2.1 h1.2.2.2.1 h1.2.2.2.2 (Xc hl.2.1) w
  ·rename_i n ex x b hn;cases h;rw[ZcQ,ZcQ] at hl;have h1:=Xc hl.2.1;rw[Zco hn];exact Zje n b x ex _ _ h1.1 h1.2.1 h1.2.2.1 h1.2.2.2.1 h1.2.2.2.2 (Xc hl.1) w
  ·rename_i n ex x b s2 hn;cases h;rw[ZcQ,ZcQ,ZcQ] at hl;have h1:=Xc hl.2.2.1;rw[Zco hn];exact Zxv n b x ex _ _ h1.1 h1.2.1 (Xc hl.2.1) h1.2.2.2.2 (of_decide_eq_false hl.1) w
  ·cases h
 ·cases h
def Zzc:Con:=alt 40 gTm Zzb
theorem Zeu:ConOk Zzc:=Z9 func40 rfl Z2p Zet
end Go.Proofs.YtjlponbdflkbjaaGreatDoor
