/-
  PrZ, PrK, CxA, CxB, CxC, ConVI, ConVJ, NumPa, RunP
-/
import Derived.Test.YtekebccjflilnaaGreatG14
namespace Go.Proofs.YtekebccjflilnaaGreat
open Go.Proofs.Tryz
open Go.KRun Go.Nt Go.Wd Go.Pt Go.Rn
set_option maxRecDepth 100000
theorem Z1h (a b m:Int):Zw (Ze (Zp prog Zh z7 hcX) 300 16 [.int .u64 a,.int .u64 b,.int .i64 m] [cmp true,cmp true]) (raT 9221120237041090560 1) [(cl a==5,true),lU a,(decide (cl a>3),true),lU a]:=by and_intros<;>kernel_rfl
theorem Z1i (a b m:Int):Zw (Ze (Zp prog Zh z7 hcX) 300 16 [.int .u64 a,.int .u64 b,.int .i64 m] [cmp true,cmp false,cmp true]) (raT 9221120237041090560 1) [(cl b==5,true),lU b,(cl a==5,false),lU a,(decide (cl a>3),true),lU a]:=by and_intros<;>kernel_rfl
theorem Z1j (a b m:Int):Zw (Ze (Zp prog Zh z7 hcX) 300 16 [.int .u64 a,.int .u64 b,.int .i64 m] [cmp true,cmp false,cmp false]) (raT 9221120237041090560 0) [(cl b==5,false),lU b,(cl a==5,false),lU a,(decide (cl a>3),true),lU a]:=by and_intros<;>kernel_rfl
theorem Z1k (a b m:Int):Zw (Ze (Zp prog Zh z7 hcX) 300 16 [.int .u64 a,.int .u64 b,.int .i64 m] [cmp false,cmp true,cmp false,cmp true]) (raT 9221120237041090560 1) [(cl b==5,true),lU b,(cl a==5,false),lU a,(decide (cl b>3),true),lU b,(decide (cl a>3),false),lU a]:=by and_intros<;>kernel_rfl
theorem Z1l (a b m:Int):Zw (Ze (Zp prog Zh z7 hcX) 300 16 [.int .u64 a,.int .u64 b,.int .i64 m] [cmp false,cmp true,cmp false,cmp false]) (raT 9221120237041090560 0) [(cl b==5,false),lU b,(cl a==5,false),lU a,(decide (cl b>3),true),lU b,(decide (cl a>3),false),lU a]:=by and_intros<;>kernel_rfl
theorem Zxm (a b m:Int):Zw (Ze (Zp prog Zh z7 hcX) 300 16 [.int .u64 a,.int .u64 b,.int .i64 m] [cmp false,cmp false,cmp true]) (raT 9221120237041090560 1) [(zh a b,true),(decide (U a∧U b),true),(decide (cl b>3),false),lU b,(decide (cl a>3),false),lU a]:=by and_intros<;>kernel_rfl
theorem Z1m (a b m:Int):Zw (Ze (Zp prog Zh z7 hcX) 300 16 [.int .u64 a,.int .u64 b,.int .i64 m] [cmp false,cmp false,cmp false,cmp true]) (raT (sgB 9218868437227405312 a b) 0) [(decide ((0:Int)≤9218868437227405312∧(9218868437227405312:Int)<9223372036854775808),true),(mag a==9218868437227405312,true),lU a,(zh a b,false),(decide (U a∧U b),true),(decide (cl b>3),false),lU b,(decide (cl a>3),false),lU a]:=by and_intros<;>kernel_rfl
theorem Z1n (a b m:Int):Zw (Ze (Zp prog Zh z7 hcX) 300 16 [.int .u64 a,.int .u64 b,.int .i64 m] [cmp false,cmp false,cmp false,cmp false,cmp true]) (raT (sgB 9218868437227405312 a b) 0) [(decide ((0:Int)≤9218868437227405312∧(9218868437227405312:Int)<9223372036854775808),true),(mag b==9218868437227405312,true),lU b,(mag a==9218868437227405312,false),lU a,(zh a b,false),(decide (U a∧U b),true),(decide (cl b>3),false),lU b,(decide (cl a>3),false),lU a]:=by and_intros<;>kernel_rfl
theorem Zxn (a b m:Int):Zw (Ze (Zp prog Zh z7 hcX) 300 16 [.int .u64 a,.int .u64 b,.int .i64 m] [cmp false,cmp false,cmp false,cmp false,cmp false]) (raT (sS (prN a b) (rnP m (prN a b) (vO (hM1 a b) (ad 0 0) (d16 (prV a b)).length) (prE a b))) (rnF m (prN a b) (vO (hM1 a b) (ad 0 0) (d16 (prV a b)).length) (prE a b))) [(ZiR (hM1 a b) (ad 0 0) (d16 (prV a b)).length (d16 (prV a b)).length (prE a b),true),(decide (U a∧U b),true),(mag b==9218868437227405312,false),lU b,(mag a==9218868437227405312,false),lU a,(zh a b,false),(decide (U a∧U b),true),(decide (cl b>3),false),lU b,(decide (cl a>3),false),lU a]:=by and_intros<;>kernel_rfl
theorem Zxo (a b c m:Int):Zw (Ze (Zp prog Zh z7 hcX) 300 20 [.int .u64 a,.int .u64 b,.int .u64 c,.int .i64 m] [cmp true]) (raT 9221120237041090560 1) [(zh a b,true),(decide (U a∧U b),true)]:=by and_intros<;>kernel_rfl
theorem Zxp (a b c m:Int):Zw (Ze (Zp prog Zh z7 hcX) 300 20 [.int .u64 a,.int .u64 b,.int .u64 c,.int .i64 m] [cmp false,cmp true,cmp true,cmp true,cmp false]) (raT 9221120237041090560 1) [(cl c==5,true),lU c,(cl a==5,true),lU a,(decide (cl a>3),true),lU a,(zh a b,false),(decide (U a∧U b),true)]:=by and_intros<;>kernel_rfl
theorem Zxq (a b c m:Int):Zw (Ze (Zp prog Zh z7 hcX) 300 20 [.int .u64 a,.int .u64 b,.int .u64 c,.int .i64 m] [cmp false,cmp true,cmp true,cmp false,cmp false,cmp false]) (raT 9221120237041090560 1) [(cl c==5,false),lU c,(cl c==5,false),lU c,(cl a==5,true),lU a,(decide (cl a>3),true),lU a,(zh a b,false),(decide (U a∧U b),true)]:=by and_intros<;>kernel_rfl
theorem Zxr (a b c m:Int):Zw (Ze (Zp prog Zh z7 hcX) 300 20 [.int .u64 a,.int .u64 b,.int .u64 c,.int .i64 m] [cmp false,cmp true,cmp false,cmp true,cmp true,cmp false]) (raT 9221120237041090560 1) [(cl c==5,true),lU c,(cl b==5,true),lU b,(cl a==5,false),lU a,(decide (cl a>3),true),lU a,(zh a b,false),(decide (U a∧U b),true)]:=by and_intros<;>kernel_rfl
theorem Zxs (a b c m:Int):Zw (Ze (Zp prog Zh z7 hcX) 300 20 [.int .u64 a,.int .u64 b,.int .u64 c,.int .i64 m] [cmp false,cmp true,cmp false,cmp true,cmp false,cmp false,cmp false]) (raT 9221120237041090560 1) [(cl c==5,false),lU c,(cl c==5,false),lU c,(cl b==5,true),lU b,(cl a==5,false),lU a,(decide (cl a>3),true),lU a,(zh a b,false),(decide (U a∧U b),true)]:=by and_intros<;>kernel_rfl
theorem Zxt (a b c m:Int):Zw (Ze (Zp prog Zh z7 hcX) 300 20 [.int .u64 a,.int .u64 b,.int .u64 c,.int .i64 m] [cmp false,cmp true,cmp false,cmp false,cmp true,cmp true]) (raT 9221120237041090560 1) [(cl c==5,true),lU c,(cl b==5,false),lU b,(cl a==5,false),lU a,(decide (cl a>3),true),lU a,(zh a b,false),(decide (U a∧U b),true)]:=by and_intros<;>kernel_rfl
theorem Zxu (a b c m:Int):Zw (Ze (Zp prog Zh z7 hcX) 300 20 [.int .u64 a,.int .u64 b,.int .u64 c,.int .i64 m] [cmp false,cmp true,cmp false,cmp false,cmp false,cmp false,cmp false]) (raT 9221120237041090560 0) [(cl c==5,false),lU c,(cl c==5,false),lU c,(cl b==5,false),lU b,(cl a==5,false),lU a,(decide (cl a>3),true),lU a,(zh a b,false),(decide (U a∧U b),true)]:=by and_intros<;>kernel_rfl
theorem Zxv (a b c m:Int):Zw (Ze (Zp prog Zh z7 hcX) 300 20 [.int .u64 a,.int .u64 b,.int .u64 c,.int .i64 m] [cmp false,cmp false,cmp true,cmp false,cmp true,cmp true,cmp false]) (raT 9221120237041090560 1) [(cl c==5,true),lU c,(cl b==5,true),lU b,(cl a==5,false),lU a,(decide (cl b>3),true),lU b,(decide (cl a>3),false),lU a,(zh a b,false),(decide (U a∧U b),true)]:=by and_intros<;>kernel_rfl
theorem Zxw (a b c m:Int):Zw (Ze (Zp prog Zh z7 hcX) 300 20 [.int .u64 a,.int .u64 b,.int .u64 c,.int .i64 m] [cmp false,cmp false,cmp true,cmp false,cmp true,cmp false,cmp false,cmp false]) (raT 9221120237041090560 1) [(cl c==5,false),lU c,(cl c==5,false),lU c,(cl b==5,true),lU b,(cl a==5,false),lU a,(decide (cl b>3),true),lU b,(decide (cl a>3),false),lU a,(zh a b,false),(decide (U a∧U b),true)]:=by and_intros<;>kernel_rfl
theorem Zxx (a b c m:Int):Zw (Ze (Zp prog Zh z7 hcX) 300 20 [.int .u64 a,.int .u64 b,.int .u64 c,.int .i64 m] [cmp false,cmp false,cmp true,cmp false,cmp false,cmp true,cmp true]) (raT 9221120237041090560 1) [(cl c==5,true),lU c,(cl b==5,false),lU b,(cl a==5,false),lU a,(decide (cl b>3),true),lU b,(decide (cl a>3),false),lU a,(zh a b,false),(decide (U a∧U b),true)]:=by and_intros<;>kernel_rfl
theorem Zxy (a b c m:Int):Zw (Ze (Zp prog Zh z7 hcX) 300 20 [.int .u64 a,.int .u64 b,.int .u64 c,.int .i64 m] [cmp false,cmp false,cmp true,cmp false,cmp false,cmp false,cmp false,cmp false]) (raT 9221120237041090560 0) [(cl c==5,false),lU c,(cl c==5,false),lU c,(cl b==5,false),lU b,(cl a==5,false),lU a,(decide (cl b>3),true),lU b,(decide (cl a>3),false),lU a,(zh a b,false),(decide (U a∧U b),true)]:=by and_intros<;>kernel_rfl
theorem Zxz (a b c m:Int):Zw (Ze (Zp prog Zh z7 hcX) 300 20 [.int .u64 a,.int .u64 b,.int .u64 c,.int .i64 m] [cmp false,cmp false,cmp false,cmp true,cmp false,cmp false,cmp true,cmp true]) (raT 9221120237041090560 1) [(cl c==5,true),lU c,(cl b==5,false),lU b,(cl a==5,false),lU a,(decide (cl c>3),true),lU c,(decide (cl b>3),false),lU b,(decide (cl a>3),false),lU a,(zh a b,false),(decide (U a∧U b),true)]:=by and_intros<;>kernel_rfl
theorem Zx0 (a b c m:Int):Zw (Ze (Zp prog Zh z7 hcX) 300 20 [.int .u64 a,.int .u64 b,.int .u64 c,.int .i64 m] [cmp false,cmp false,cmp false,cmp true,cmp false,cmp false,cmp false,cmp false,cmp false]) (raT 9221120237041090560 0) [(cl c==5,false),lU c,(cl c==5,false),lU c,(cl b==5,false),lU b,(cl a==5,false),lU a,(decide (cl c>3),true),lU c,(decide (cl b>3),false),lU b,(decide (cl a>3),false),lU a,(zh a b,false),(decide (U a∧U b),true)]:=by and_intros<;>kernel_rfl
theorem Zx1 (a b c m:Int):Zw (Ze (Zp prog Zh z7 hcX) 300 20 [.int .u64 a,.int .u64 b,.int .u64 c,.int .i64 m] [cmp false,cmp false,cmp false,cmp false,cmp true,cmp false]) (raT (sgB 9218868437227405312 a b) 0) [(mag c==9218868437227405312,false),lU c,(decide ((0:Int)≤9218868437227405312∧(9218868437227405312:Int)<9223372036854775808),true),(mag a==9218868437227405312,true),lU a,(decide (cl c>3),false),lU c,(decide (cl b>3),false),lU b,(decide (cl a>3),false),lU a,(zh a b,false),(decide (U a∧U b),true)]:=by and_intros<;>kernel_rfl
theorem Zt7 (a b c m:Int):Zw (Ze (Zp prog Zh z7 hcX) 300 20 [.int .u64 a,.int .u64 b,.int .u64 c,.int .i64 m] [cmp false,cmp false,cmp false,cmp false,cmp true,cmp true,cmp false]) (raT (sgB 9218868437227405312 a b) 0) [(c !=sgB 9218868437227405312 a b,false),(mag c==9218868437227405312,true),lU c,(decide ((0:Int)≤9218868437227405312∧(9218868437227405312:Int)<9223372036854775808),true),(mag a==9218868437227405312,true),lU a,(decide (cl c>3),false),lU c,(decide (cl b>3),false),lU b,(decide (cl a>3),false),lU a,(zh a b,false),(decide (U a∧U b),true)]:=by and_intros<;>kernel_rfl
theorem Zt8 (a b c m:Int):Zw (Ze (Zp prog Zh z7 hcX) 300 20 [.int .u64 a,.int .u64 b,.int .u64 c,.int .i64 m] [cmp false,cmp false,cmp false,cmp false,cmp true,cmp true,cmp true]) (raT 9221120237041090560 1) [(c !=sgB 9218868437227405312 a b,true),(mag c==9218868437227405312,true),lU c,(decide ((0:Int)≤9218868437227405312∧(9218868437227405312:Int)<9223372036854775808),true),(mag a==9218868437227405312,true),lU a,(decide (cl c>3),false),lU c,(decide (cl b>3),false),lU b,(decide (cl a>3),false),lU a,(zh a b,false),(decide (U a∧U b),true)]:=by and_intros<;>kernel_rfl
theorem Zx2 (a b c m:Int):Zw (Ze (Zp prog Zh z7 hcX) 300 20 [.int .u64 a,.int .u64 b,.int .u64 c,.int .i64 m] [cmp false,cmp false,cmp false,cmp false,cmp false,cmp true,cmp false]) (raT (sgB 9218868437227405312 a b) 0) [(mag c==9218868437227405312,false),lU c,(decide ((0:Int)≤9218868437227405312∧(9218868437227405312:Int)<9223372036854775808),true),(mag b==9218868437227405312,true),lU b,(mag a==9218868437227405312,false),lU a,(decide (cl c>3),false),lU c,(decide (cl b>3),false),lU b,(decide (cl a>3),false),lU a,(zh a b,false),(decide (U a∧U b),true)]:=by and_intros<;>kernel_rfl
theorem Zt9 (a b c m:Int):Zw (Ze (Zp prog Zh z7 hcX) 300 20 [.int .u64 a,.int .u64 b,.int .u64 c,.int .i64 m] [cmp false,cmp false,cmp false,cmp false,cmp false,cmp true,cmp true,cmp false]) (raT (sgB 9218868437227405312 a b) 0) [(c !=sgB 9218868437227405312 a b,false),(mag c==9218868437227405312,true),lU c,(decide ((0:Int)≤9218868437227405312∧(9218868437227405312:Int)<9223372036854775808),true),(mag b==9218868437227405312,true),lU b,(mag a==9218868437227405312,false),lU a,(decide (cl c>3),false),lU c,(decide (cl b>3),false),lU b,(decide (cl a>3),false),lU a,(zh a b,false),(decide (U a∧U b),true)]:=by and_intros<;>kernel_rfl
theorem ZtA (a b c m:Int):Zw (Ze (Zp prog Zh z7 hcX) 300 20 [.int .u64 a,.int .u64 b,.int .u64 c,.int .i64 m] [cmp false,cmp false,cmp false,cmp false,cmp false,cmp true,cmp true,cmp true]) (raT 9221120237041090560 1) [(c !=sgB 9218868437227405312 a b,true),(mag c==9218868437227405312,true),lU c,(decide ((0:Int)≤9218868437227405312∧(9218868437227405312:Int)<9223372036854775808),true),(mag b==9218868437227405312,true),lU b,(mag a==9218868437227405312,false),lU a,(decide (cl c>3),false),lU c,(decide (cl b>3),false),lU b,(decide (cl a>3),false),lU a,(zh a b,false),(decide (U a∧U b),true)]:=by and_intros<;>kernel_rfl
theorem Z1o (a b c m:Int):Zw (Ze (Zp prog Zh z7 hcX) 300 20 [.int .u64 a,.int .u64 b,.int .u64 c,.int .i64 m] [cmp false,cmp false,cmp false,cmp false,cmp false,cmp false,cmp true]) (raT c 0) [(mag c==9218868437227405312,true),lU c,(mag b==9218868437227405312,false),lU b,(mag a==9218868437227405312,false),lU a,(decide (cl c>3),false),lU c,(decide (cl b>3),false),lU b,(decide (cl a>3),false),lU a,(zh a b,false),(decide (U a∧U b),true)]:=by and_intros<;>kernel_rfl
theorem Z1p (a b c m:Int):Zw (Ze (Zp prog Zh z7 hcX) 300 20 [.int .u64 a,.int .u64 b,.int .u64 c,.int .i64 m] [cmp false,cmp false,cmp false,cmp false,cmp false,cmp false,cmp false,cmp false]) (raT (sS (nM m a b c) 0) 0) [(decide (sM a b c≠0),false),(Zqu (hM2 a b c) (ad 0 0) (ad 1 0) (d16 (prV a b)).length (d16 (prV a b)).length (d16 (sg c).toNat).length (d16 (sg c).toNat).length (prE a b) (xp c),true),lU c,(decide (U a∧U b),true),(mag c==9218868437227405312,false),lU c,(mag b==9218868437227405312,false),lU b,(mag a==9218868437227405312,false),lU a,(decide (cl c>3),false),lU c,(decide (cl b>3),false),lU b,(decide (cl a>3),false),lU a,(zh a b,false),(decide (U a∧U b),true)]:=by and_intros<;>kernel_rfl
theorem Z1q (a b c m:Int):Zw (Ze (Zp prog Zh z7 hcX) 300 20 [.int .u64 a,.int .u64 b,.int .u64 c,.int .i64 m] [cmp false,cmp false,cmp false,cmp false,cmp false,cmp false,cmp false,cmp true]) (raT (sS (nM m a b c) (rnP m (nM m a b c) (vO (Zu7 a b c) (ad 2 0) (d16 (sM a b c).natAbs).length) (lM a b c))) (rnF m (nM m a b c) (vO (Zu7 a b c) (ad 2 0) (d16 (sM a b c).natAbs).length) (lM a b c))) [(ZiR (Zu7 a b c) (ad 2 0) (d16 (sM a b c).natAbs).length (d16 (sM a b c).natAbs).length (lM a b c),true),(decide (sM a b c≠0),true),(Zqu (hM2 a b c) (ad 0 0) (ad 1 0) (d16 (prV a b)).length (d16 (prV a b)).length (d16 (sg c).toNat).length (d16 (sg c).toNat).length (prE a b) (xp c),true),lU c,(decide (U a∧U b),true),(mag c==9218868437227405312,false),lU c,(mag b==9218868437227405312,false),lU b,(mag a==9218868437227405312,false),lU a,(decide (cl c>3),false),lU c,(decide (cl b>3),false),lU b,(decide (cl a>3),false),lU a,(zh a b,false),(decide (U a∧U b),true)]:=by and_intros<;>kernel_rfl
theorem Z25 (a b:Int):(d16 (prV a b)).length≤7:=by
 have:=Zhw a b;refine zI (k:=7) ?_;have e:(2:Nat)^(16*7)=5192296858534827628530496329220096:=rfl;omega
theorem Zx3 (a b:Int):ZiR (hM1 a b) (ad 0 0) (d16 (prV a b)).length (d16 (prV a b)).length (prE a b)=true:=by
 have h0:(hM1 a b).blk? 0=some (wU (d16 (prV a b)),tU):=rfl;have l:=Z25 a b;have hE:=ZbB a b;unfold ZiR ad;rw[ZE h0 (by omega),z6 h0,show Zff (d16 (prV a b))=true from ZaV (ZcB (by omega) _),Zk.2 (by omega),Xa (by omega)];rfl
theorem Zqx (a b c:Int):Zqu (hM2 a b c) (ad 0 0) (ad 1 0) (d16 (prV a b)).length (d16 (prV a b)).length (d16 (sg c).toNat).length (d16 (sg c).toNat).length (prE a b) (xp c)=true:=by
 have h0:(hM2 a b c).blk? 0=some (wU (d16 (prV a b)),tU):=rfl;have h1:(hM2 a b c).blk? 1=some (wU (d16 (sg c).toNat),tU):=rfl;have l:=Z25 a b;have lc:=Z1f c;have hE:=ZbB a b;have xc:=ZbJ c;unfold Zqu ad;rw[ZE h0 (by omega),z6 h0,ZE h1 (by omega),z6 h1,show Zff (d16 (prV a b))=true from ZaV (ZcB (by omega) _),show Zff (d16 (sg c).toNat)=true from ZaV (ZcB (by omega) _),Zk.2 (by omega),Zk.2 (by omega),Xa ⟨⟨by omega,by omega⟩,by omega,by omega⟩];rfl
theorem Zx4 (a b c:Int):sM a b c=smI (lM a b c) (prN a b) (prE a b) (prV a b) (sgn c) (xp c) (sg c).toNat:=by
 have h0:(hM2 a b c).blk? 0=some (wU (d16 (prV a b)),tU):=rfl;have h1:(hM2 a b c).blk? 1=some (wU (d16 (sg c).toNat),tU):=rfl;unfold sM smH smS;rw[ZdL h0,ZdL h1];rfl
theorem ZtB (a b c:Int): -2148≤lM a b c∧(lM a b c=prE a b∨lM a b c=xp c):=by
 have hE:=ZbB a b;have xc:=ZbJ c;exact⟨Zt3 (by omega) (by omega) _ _,ZlV _ _⟩
theorem ZtC (a b c:Int):fsI a b c=sM a b c*((2^(lM a b c - -2148).toNat:Nat):Int):=by
 have hE:=ZbB a b;have xc:=ZbJ c;rw[Zx4];exact Zt4 (by omega) (by omega) (ZfM _) (ZfM _) _ _
theorem Zqy (m a b c:Int):nM m a b c=fsN m a b c:=by
 unfold nM fsN;rw[ZtC,ZkP m _ _ _ (Nat.pow_pos (by omega))]
theorem ZoW (m:Int) (n:Bool) (a b c:Int):rnP m n (sM a b c).natAbs (lM a b c)=rnP m n (fsI a b c).natAbs (-2148)∧rnF m n (sM a b c).natAbs (lM a b c)=rnF m n (fsI a b c).natAbs (-2148):=by
 have hl:=(ZtB a b c).1;have ea:(fsI a b c).natAbs=(sM a b c).natAbs*2^(lM a b c - -2148).toNat:=by rw[ZtC,Int.natAbs_mul,Int.natAbs_natCast]
 have eG:lM a b c-((lM a b c - -2148).toNat:Int)= -2148:=by omega
 have sp:=ZaA m n (sM a b c).natAbs (lM a b c - -2148).toNat (lM a b c);have sf:=ZaB m n (sM a b c).natAbs (lM a b c - -2148).toNat (lM a b c);rw[eG,← ea] at sp sf;exact⟨sp.symm,sf.symm⟩
theorem ZtD {a b c:Int}(h:sM a b c=0):fsI a b c=0:=by rw[ZtC,h,Int.zero_mul]
theorem Z1r (a b c:Int):(sM a b c).natAbs<2^(16*300):=by
 have hE:=ZbB a b;have xc:=ZbJ c;have hV:=Zhw a b;have hc:=ZbK c;obtain⟨hl,hn⟩:=ZtB a b c;have e106:(2:Nat)^106=81129638414606681695789005144064:=rfl;obtain⟨j,hj⟩:∃ j:Nat,j=4200:=⟨_,rfl⟩;have p1:=ZlW (F:=lM a b c) (E:=prE a b) (X:=prV a b) (k:=106) (j:=j) (by omega) (by omega);have p2:=ZlW (F:=lM a b c) (E:=xp c) (X:=(sg c).toNat) (k:=106) (j:=j) (by omega) (by omega);obtain⟨i,hi⟩:∃ i:Nat,i=494:=⟨_,rfl⟩;have e:(2:Nat)^(16*300)=2^i*2^(106+j):=by rw[← Nat.pow_add];congr 1;omega
 have h2:2^1≤2^i:=Nat.pow_le_pow_right (by omega) (by omega);have h3:=Nat.mul_le_mul_right (2^(106+j)) h2;have h4:2^1*2^(106+j)=2*2^(106+j):=rfl;rw[Zx4];unfold smI;rw[e];rw[h4] at h3;clear h4 h2 e;generalize szF (lM a b c) (prE a b) (prV a b)=P at*;generalize szF (lM a b c) (xp c) (sg c).toNat=Q at*;generalize (2:Nat)^(106+j)=Z at*;generalize (2:Nat)^i*Z=Y at*;cases prN a b<;>cases sgn c<;>simp only[sgI]<;>omega
theorem Zx5 (a b c:Int):ZiR (Zu7 a b c) (ad 2 0) (d16 (sM a b c).natAbs).length (d16 (sM a b c).natAbs).length (lM a b c)=true:=by
 have h2:(Zu7 a b c).blk? 2=some (wU (d16 (sM a b c).natAbs),tU):=rfl;have hl:(d16 (sM a b c).natAbs).length≤300:=zI (Z1r a b c);have hE:=ZbB a b;have xc:=ZbJ c;have hn:=(ZtB a b c).2;unfold ZiR ad;rw[ZE h2 (by omega),z6 h2,show Zff (d16 (sM a b c).natAbs)=true from ZaV (ZcB (by omega) _),Zk.2 (by omega),Xa (by omega)];rfl
theorem Zg4 (a b m:Int) (ha:U a) (hb:U b) (w:World):Calls prog 16 #[.int .u64 a,.int .u64 b,.int .i64 m] w fun r w'=>r= .returned (raT (muP m a b) (muF m a b))∧zg w w':=by
 have hv:([.int .u64 a,.int .u64 b,.int .i64 m].all (lt 0))=true:=rfl;have T:=Zg ZhG Zqw;have ka:decide (U a)=true:=Xa ha;have kb:decide (U b)=true:=Xa hb;have kab:decide (U a∧U b)=true:=Xa ⟨ha,hb⟩;obtain⟨a1,a2,a3⟩:=Zd1 a;obtain⟨b1,b2,b3⟩:=Zd1 b;by_cases ha3:3<cl a
 ·obtain⟨p1,p2⟩:=ZkU (m:=m) (a:=a) (b:=b) (.inl ha3);rw[p1,p2];by_cases a5:cl a=5
  ·rw[if_pos (.inl a5)];exact Zb T (Z1h a b m) (Za (Z1 a5) (Za ka (Za (Xa ha3) (Zz ka)))) hv (by rfl) w
  ·by_cases b5:cl b=5
   ·rw[if_pos (.inr b5)];exact Zb T (Z1i a b m) (Za (Z1 b5) (Za kb (Za (Zq (by omega)) (Za ka (Za (Xa ha3) (Zz ka)))))) hv (by rfl) w
   ·rw[if_neg (by omega)];exact Zb T (Z1j a b m) (Za (Zq (by omega)) (Za kb (Za (Zq (by omega)) (Za ka (Za (Xa ha3) (Zz ka)))))) hv (by rfl) w
 ·by_cases hb3:3<cl b
  ·obtain⟨p1,p2⟩:=ZkU (m:=m) (a:=a) (b:=b) (.inr hb3);rw[p1,p2];by_cases b5:cl b=5
   ·rw[if_pos (.inr b5)];exact Zb T (Z1k a b m) (Za (Z1 b5) (Za kb (Za (Zq (by omega)) (Za ka (Za (Xa hb3) (Za kb (Za (Xb ha3) (Zz ka)))))))) hv (by rfl) w
   ·rw[if_neg (by omega)];exact Zb T (Z1l a b m) (Za (Zq (by omega)) (Za kb (Za (Zq (by omega)) (Za ka (Za (Xa hb3) (Za kb (Za (Xb ha3) (Zz ka)))))))) hv (by rfl) w
  ·by_cases hbd:zh a b=true
   ·obtain⟨p1,p2⟩:=Zsm (m:=m) hbd;rw[p1,p2];exact Zb T (Zxm a b m) (Za hbd (Za kab (Za (Xb hb3) (Za kb (Za (Xb ha3) (Zz ka)))))) hv (by rfl) w
   ·have hb0:zh a b=false:=by simpa using hbd
    by_cases ae:cl a=3
    ·obtain⟨p1,p2⟩:=ZkV (m:=m) hbd (by omega) (.inl ae);rw[p1,p2];exact Zb T (Z1m a b m) (Za (by decide) (Za (Z1 (a2.1 ae)) (Za ka (Za hb0 (Za kab (Za (Xb hb3) (Za kb (Za (Xb ha3) (Zz ka))))))))) hv (by rfl) w
    ·by_cases be:cl b=3
     ·obtain⟨p1,p2⟩:=ZkV (m:=m) hbd (by omega) (.inr be);rw[p1,p2];exact Zb T (Z1n a b m) (Za (by decide) (Za (Z1 (b2.1 be)) (Za kb (Za (Zq (fun e=>ae (a2.2 e))) (Za ka (Za hb0 (Za kab (Za (Xb hb3) (Za kb (Za (Xb ha3) (Zz ka))))))))))) hv (by rfl) w
     ·obtain⟨p1,p2⟩:=Zsn (m:=m) (a:=a) (b:=b) (by omega) (by omega);have h0:(hM1 a b).blk? 0=some (wU (d16 (prV a b)),tU):=rfl;have hf:=Zxn a b m;rw[ZdL h0] at hf;rw[p1,p2];exact Zb T hf (Za (Zx3 a b) (Za kab (Za (Zq (fun e=>be (b2.2 e))) (Za kb (Za (Zq (fun e=>ae (a2.2 e))) (Za ka (Za hb0 (Za kab (Za (Xb hb3) (Za kb (Za (Xb ha3) (Zz ka)))))))))))) hv (by rfl) w
theorem Zg5 (a b c m:Int) (ha:U a) (hb:U b) (hcU:U c) (w:World):Calls prog 20 #[.int .u64 a,.int .u64 b,.int .u64 c,.int .i64 m] w fun r w'=>r= .returned (raT (fmP m a b c) (fmF m a b c))∧zg w w':=by
 have hv:([.int .u64 a,.int .u64 b,.int .u64 c,.int .i64 m].all (lt 0))=true:=rfl;have T:=Zg ZhG Zqw;have ka:decide (U a)=true:=Xa ha;have kb:decide (U b)=true:=Xa hb;have kc:decide (U c)=true:=Xa hcU;have kab:decide (U a∧U b)=true:=Xa ⟨ha,hb⟩;obtain⟨a1,a2,a3⟩:=Zd1 a;obtain⟨b1,b2,b3⟩:=Zd1 b;obtain⟨c1,c2,c3⟩:=Zd1 c;unfold fmP fmF;by_cases hbd:zh a b=true
 ·rw[if_pos hbd,if_pos hbd];exact Zb T (Zxo a b c m) (Za hbd (Zz kab)) hv (by rfl) w
 ·have hb0:zh a b=false:=by simpa using hbd
  rw[if_neg hbd,if_neg hbd];by_cases ha3:3<cl a
  ·rw[if_pos (.inl ha3),if_pos (.inl ha3)];by_cases a5:cl a=5
   ·by_cases c5:cl c=5
    ·rw[if_pos (by omega)];exact Zb T (Zxp a b c m) (Za (Z1 c5) (Za kc (Za (Z1 a5) (Za ka (Za (Xa ha3) (Za ka (Za hb0 (Zz kab)))))))) hv (by rfl) w
    ·rw[if_pos (by omega)];exact Zb T (Zxq a b c m) (Za (Zq (by omega)) (Za kc (Za (Zq (by omega)) (Za kc (Za (Z1 a5) (Za ka (Za (Xa ha3) (Za ka (Za hb0 (Zz kab)))))))))) hv (by rfl) w
   ·by_cases b5:cl b=5
    ·by_cases c5:cl c=5
     ·rw[if_pos (by omega)];exact Zb T (Zxr a b c m) (Za (Z1 c5) (Za kc (Za (Z1 b5) (Za kb (Za (Zq (by omega)) (Za ka (Za (Xa ha3) (Za ka (Za hb0 (Zz kab)))))))))) hv (by rfl) w
     ·rw[if_pos (by omega)];exact Zb T (Zxs a b c m) (Za (Zq (by omega)) (Za kc (Za (Zq (by omega)) (Za kc (Za (Z1 b5) (Za kb (Za (Zq (by omega)) (Za ka (Za (Xa ha3) (Za ka (Za hb0 (Zz kab)))))))))))) hv (by rfl) w
    ·by_cases c5:cl c=5
     ·rw[if_pos (by omega)];exact Zb T (Zxt a b c m) (Za (Z1 c5) (Za kc (Za (Zq (by omega)) (Za kb (Za (Zq (by omega)) (Za ka (Za (Xa ha3) (Za ka (Za hb0 (Zz kab)))))))))) hv (by rfl) w
     ·rw[if_neg (by omega)];exact Zb T (Zxu a b c m) (Za (Zq (by omega)) (Za kc (Za (Zq (by omega)) (Za kc (Za (Zq (by omega)) (Za kb (Za (Zq (by omega)) (Za ka (Za (Xa ha3) (Za ka (Za hb0 (Zz kab)))))))))))) hv (by rfl) w
  ·by_cases hb3:3<cl b
   ·rw[if_pos (.inr (.inl hb3)),if_pos (.inr (.inl hb3))];by_cases b5:cl b=5
    ·by_cases c5:cl c=5
     ·rw[if_pos (by omega)];exact Zb T (Zxv a b c m) (Za (Z1 c5) (Za kc (Za (Z1 b5) (Za kb (Za (Zq (by omega)) (Za ka (Za (Xa hb3) (Za kb (Za (Xb ha3) (Za ka (Za hb0 (Zz kab)))))))))))) hv (by rfl) w
     ·rw[if_pos (by omega)];exact Zb T (Zxw a b c m) (Za (Zq (by omega)) (Za kc (Za (Zq (by omega)) (Za kc (Za (Z1 b5) (Za kb (Za (Zq (by omega)) (Za ka (Za (Xa hb3) (Za kb (Za (Xb ha3) (Za ka (Za hb0 (Zz kab)))))))))))))) hv (by rfl) w
    ·by_cases c5:cl c=5
     ·rw[if_pos (by omega)];exact Zb T (Zxx a b c m) (Za (Z1 c5) (Za kc (Za (Zq (by omega)) (Za kb (Za (Zq (by omega)) (Za ka (Za (Xa hb3) (Za kb (Za (Xb ha3) (Za ka (Za hb0 (Zz kab)))))))))))) hv (by rfl) w
     ·rw[if_neg (by omega)];exact Zb T (Zxy a b c m) (Za (Zq (by omega)) (Za kc (Za (Zq (by omega)) (Za kc (Za (Zq (by omega)) (Za kb (Za (Zq (by omega)) (Za ka (Za (Xa hb3) (Za kb (Za (Xb ha3) (Za ka (Za hb0 (Zz kab)))))))))))))) hv (by rfl) w
   ·by_cases hc3:3<cl c
    ·rw[if_pos (.inr (.inr hc3)),if_pos (.inr (.inr hc3))];by_cases c5:cl c=5
     ·rw[if_pos (by omega)];exact Zb T (Zxz a b c m) (Za (Z1 c5) (Za kc (Za (Zq (by omega)) (Za kb (Za (Zq (by omega)) (Za ka (Za (Xa hc3) (Za kc (Za (Xb hb3) (Za kb (Za (Xb ha3) (Za ka (Za hb0 (Zz kab)))))))))))))) hv (by rfl) w
     ·rw[if_neg (by omega)];exact Zb T (Zx0 a b c m) (Za (Zq (by omega)) (Za kc (Za (Zq (by omega)) (Za kc (Za (Zq (by omega)) (Za kb (Za (Zq (by omega)) (Za ka (Za (Xa hc3) (Za kc (Za (Xb hb3) (Za kb (Za (Xb ha3) (Za ka (Za hb0 (Zz kab)))))))))))))))) hv (by rfl) w
    ·have hno:¬ (3<cl a∨3<cl b∨3<cl c):=by omega
     rw[if_neg hno,if_neg hno];have ci:cl (sS (prN a b) inf)=3:=by cases prN a b<;>decide
     by_cases ae:cl a=3
     ·rw[if_pos (.inl ae),if_pos (.inl ae)];by_cases ce:cl c=3
      ·by_cases hc:c=sgB 9218868437227405312 a b
       ·obtain⟨p1,p2⟩:=ZcV (m:=m) (b:=c) ci (by omega) (fun h=>h.2 hc.symm);rw[p1,p2];exact Zb T (Zt7 a b c m) (Za (Zsd hc) (Za (Z1 (c2.1 ce)) (Za kc (Za (by decide) (Za (Z1 (a2.1 ae)) (Za ka (Za (Xb hc3) (Za kc (Za (Xb hb3) (Za kb (Za (Xb ha3) (Za ka (Za hb0 (Zz kab)))))))))))))) hv (by rfl) w
       ·obtain⟨p1,p2⟩:=Zhz (m:=m) (b:=c) ci ce (fun h=>hc h.symm);rw[p1,p2];exact Zb T (Zt8 a b c m) (Za (Zsc hc) (Za (Z1 (c2.1 ce)) (Za kc (Za (by decide) (Za (Z1 (a2.1 ae)) (Za ka (Za (Xb hc3) (Za kc (Za (Xb hb3) (Za kb (Za (Xb ha3) (Za ka (Za hb0 (Zz kab)))))))))))))) hv (by rfl) w
      ·obtain⟨p1,p2⟩:=ZcV (m:=m) (b:=c) ci (by omega) (fun h=>ce h.1);rw[p1,p2];exact Zb T (Zx1 a b c m) (Za (Zq (fun e=>ce (c2.2 e))) (Za kc (Za (by decide) (Za (Z1 (a2.1 ae)) (Za ka (Za (Xb hc3) (Za kc (Za (Xb hb3) (Za kb (Za (Xb ha3) (Za ka (Za hb0 (Zz kab))))))))))))) hv (by rfl) w
     ·by_cases be:cl b=3
      ·rw[if_pos (.inr be),if_pos (.inr be)];by_cases ce:cl c=3
       ·by_cases hc:c=sgB 9218868437227405312 a b
        ·obtain⟨p1,p2⟩:=ZcV (m:=m) (b:=c) ci (by omega) (fun h=>h.2 hc.symm);rw[p1,p2];exact Zb T (Zt9 a b c m) (Za (Zsd hc) (Za (Z1 (c2.1 ce)) (Za kc (Za (by decide) (Za (Z1 (b2.1 be)) (Za kb (Za (Zq (fun e=>ae (a2.2 e))) (Za ka (Za (Xb hc3) (Za kc (Za (Xb hb3) (Za kb (Za (Xb ha3) (Za ka (Za hb0 (Zz kab)))))))))))))))) hv (by rfl) w
        ·obtain⟨p1,p2⟩:=Zhz (m:=m) (b:=c) ci ce (fun h=>hc h.symm);rw[p1,p2];exact Zb T (ZtA a b c m) (Za (Zsc hc) (Za (Z1 (c2.1 ce)) (Za kc (Za (by decide) (Za (Z1 (b2.1 be)) (Za kb (Za (Zq (fun e=>ae (a2.2 e))) (Za ka (Za (Xb hc3) (Za kc (Za (Xb hb3) (Za kb (Za (Xb ha3) (Za ka (Za hb0 (Zz kab)))))))))))))))) hv (by rfl) w
       ·obtain⟨p1,p2⟩:=ZcV (m:=m) (b:=c) ci (by omega) (fun h=>ce h.1);rw[p1,p2];exact Zb T (Zx2 a b c m) (Za (Zq (fun e=>ce (c2.2 e))) (Za kc (Za (by decide) (Za (Z1 (b2.1 be)) (Za kb (Za (Zq (fun e=>ae (a2.2 e))) (Za ka (Za (Xb hc3) (Za kc (Za (Xb hb3) (Za kb (Za (Xb ha3) (Za ka (Za hb0 (Zz kab))))))))))))))) hv (by rfl) w
      ·have hno2:¬ (cl a=3∨cl b=3):=by omega
       rw[if_neg hno2,if_neg hno2];by_cases ce:cl c=3
       ·rw[if_pos ce,if_pos ce];exact Zb T (Z1o a b c m) (Za (Z1 (c2.1 ce)) (Za kc (Za (Zq (fun e=>be (b2.2 e))) (Za kb (Za (Zq (fun e=>ae (a2.2 e))) (Za ka (Za (Xb hc3) (Za kc (Za (Xb hb3) (Za kb (Za (Xb ha3) (Za ka (Za hb0 (Zz kab)))))))))))))) hv (by rfl) w
       ·rw[if_neg ce,if_neg ce];by_cases hz:sM a b c=0
        ·have hp:=ZtD hz;have e1:fsP m a b c=0:=by unfold fsP;rw[hp];simp [rnP]
         have e2:fsF m a b c=0:=by unfold fsF;rw[hp];simp [rnF]
         have hf:=Z1p a b c m;rw[Zqy] at hf;rw[e1,e2];exact Zb T hf (Za (Xb (fun h=>h hz)) (Za (Zqx a b c) (Za kc (Za kab (Za (Zq (fun e=>ce (c2.2 e))) (Za kc (Za (Zq (fun e=>be (b2.2 e))) (Za kb (Za (Zq (fun e=>ae (a2.2 e))) (Za ka (Za (Xb hc3) (Za kc (Za (Xb hb3) (Za kb (Za (Xb ha3) (Za ka (Za hb0 (Zz kab)))))))))))))))))) hv (by rfl) w
        ·have hf:=Z1q a b c m;have h2:(Zu7 a b c).blk? 2=some (wU (d16 (sM a b c).natAbs),tU):=rfl;have hr:=ZoW m (fsN m a b c) a b c;rw[Zqy,ZdL h2,hr.1,hr.2] at hf;exact Zb T hf (Za (Zx5 a b c) (Za (Xa hz) (Za (Zqx a b c) (Za kc (Za kab (Za (Zq (fun e=>ce (c2.2 e))) (Za kc (Za (Zq (fun e=>be (b2.2 e))) (Za kb (Za (Zq (fun e=>ae (a2.2 e))) (Za ka (Za (Xb hc3) (Za kc (Za (Xb hb3) (Za kb (Za (Xb ha3) (Za ka (Za hb0 (Zz kab))))))))))))))))))) hv (by rfl) w
def gRM:Ans:=fun vals s=>
 match vals with
 | [.int .u64 a,.int .u64 b,.int .i64 m]=>some (raT (muP m a b) (muF m a b),s,[(decide (U a∧U b),true)])
 | _=>none
theorem Zx6:ZJ 16 gRM:=by
 intro vals s v s' lg h hl w;unfold gRM at h;split at h
 ·cases h;obtain⟨h1,h2⟩:=Xc (hl _ Xf);exact Zg4 _ _ _ h1 h2 w
 ·cases h
def gRF:Ans:=fun vals s=>
 match vals with
 | [.int .u64 a,.int .u64 b,.int .u64 c,.int .i64 m]=>some (raT (fmP m a b c) (fmF m a b c),s,[(decide (U a∧U b∧U c),true)])
 | _=>none
theorem Zx7:ZJ 20 gRF:=by
 intro vals s v s' lg h hl w;unfold gRF at h;split at h
 ·cases h;obtain⟨h1,h2,h3⟩:=Xc (hl _ Xf);exact Zg5 _ _ _ _ h1 h2 h3 w
 ·cases h
end Go.Proofs.YtekebccjflilnaaGreat
namespace Go.Proofs.YtekebccjflilnaaGreat
open Go.KRun Go.Wd Go.Pt Go.Rn
set_option maxRecDepth 100000
theorem Zg6 (m:Int) (n:Bool) (T:Nat) (E:Int):0≤rnF m n T E∧rnF m n T E≤24:=by
 unfold rnF;split
 ·omega
 ·split
  ·omega
  ·split
   ·split<;>omega
   ·omega
theorem ZtE (m a b:Int):0≤suF m a b∧suF m a b≤24:=by
 have h':0≤adF m a b∧adF m a b≤24:=Zg6 _ _ _ _;unfold suF;split
 ·split<;>omega
 ·split
  ·split<;>omega
  ·split<;>omega
theorem Zx8 (m a b:Int):0≤muF m a b∧muF m a b≤24:=by
 have h':0≤mlF m a b∧mlF m a b≤24:=Zg6 _ _ _ _;unfold muF;split
 ·omega
 ·split
  ·split<;>omega
  ·split<;>omega
theorem Zx9 (m a b c:Int):0≤fmF m a b c∧fmF m a b c≤24:=by
 have h':0≤fsF m a b c∧fsF m a b c≤24:=Zg6 _ _ _ _;unfold fmF;split
 ·omega
 ·split
  ·split<;>omega
  ·split
   ·exact ZtE _ _ _
   ·split<;>omega
end Go.Proofs.YtekebccjflilnaaGreat
namespace Go.Proofs.YtekebccjflilnaaGreat
open Go.Proofs.Tryz
open Go.IntKind
open Go.KRun Go.Wd Go.Pt Go.Rn
set_option maxRecDepth 100000
def orB (f g:Int):Int:=u8.wrap ((BitVec.ofInt IntKind.u8.bits f ||| BitVec.ofInt IntKind.u8.bits g).toNat:Nat)
def orI (f g:Int):Int:=i64.wrap ((BitVec.ofInt IntKind.i64.bits f ||| BitVec.ofInt IntKind.i64.bits g).toNat:Nat)
def cpB (p q f:Int):Value:= .tuple #[.agg #[.int .u64 p,.int .u64 q],.int .u8 f]
def cpI (p q f:Int):Value:= .tuple #[.agg #[.int .u64 p,.int .u64 q],.int .i64 f]
abbrev fl5 (f:Int):Prop:=0≤f∧f<32
theorem Zg7 {f g:Int}(hf:fl5 f) (hg:fl5 g):orB f g=orI f g∧fl5 (orB f g):=by
 obtain⟨x,rfl⟩:∃ x:Fin 32,f=(x.val:Int):=⟨⟨f.toNat,by unfold fl5 at hf;omega⟩,by unfold fl5 at hf;simp;omega⟩;obtain⟨y,rfl⟩:∃ y:Fin 32,g=(y.val:Int):=⟨⟨g.toNat,by unfold fl5 at hg;omega⟩,by unfold fl5 at hg;simp;omega⟩;have h:∀ x y:Fin 32,decide (orB (x.val:Int) (y.val:Int)=orI (x.val:Int) (y.val:Int))=true∧decide (0≤orB (x.val:Int) (y.val:Int)∧orB (x.val:Int) (y.val:Int)<32)=true:=by decide+kernel
 exact⟨Xc (h x y).1,Xc (h x y).2⟩
theorem Z1s (p:Int):Zw (Ze (Zi prog Zh Zo true) 300 52 [.int .u64 p] []) (.int .u64 (Zf1 p 9223372036854775808)) []:=by and_intros<;>kernel_rfl
theorem ZlX (p:Int) (hp:U p) (w:World):Calls prog 52 #[.int .u64 p] w fun r w'=>r= .returned (.int .u64 (ng p))∧zg w w':=by
 have hv:([.int .u64 p].all (lt 0))=true:=rfl;rw[← Zsl hp];exact Zb (Zf Zd) (Z1s p) (fun _ h=>by cases h) hv (by rfl) w
def ZoX:Con:=alt 52 (gU fun p=> .int .u64 (ng p)) Zo
theorem ZeZ:ConOk ZoX:=Zy func52 rfl (Zis ZlX) Zd
def ZiW:Con:=alt 14 gPM (alt 19 gPF (alt 16 gRM (alt 20 gRF ZoX)))
theorem Zcf:ConOk ZiW:=Zy func14 rfl Zwh (Zy func19 rfl Zwl (Zy func16 rfl Zx6 (Zy func20 rfl Zx7 ZeZ)))
def pX (a b:Int):Value:= .agg #[.int .u64 a,.int .u64 b]
def gXY (k:Int→Int→Int→Int→Value):Ans:=fun vals s=>
 match vals with
 | [.agg ⟨[.int .u64 a,.int .u64 b]⟩,.agg ⟨[.int .u64 c,.int .u64 d]⟩]=>some (k a b c d,s,[(decide (U a∧U b∧U c∧U d),true)])
 | _=>none
theorem ZxA {f:Nat}{k:Int→Int→Int→Int→Value}(hk:∀ a b c d:Int,U a→U b→U c→U d→∀ w,Calls prog f #[pX a b,pX c d] w fun e w'=>e= .returned (k a b c d)∧zg w w'):ZJ f (gXY k):=by
 intro vals s v s' lg h hl w;unfold gXY at h;split at h
 ·cases h;obtain⟨h1,h2,h3,h4⟩:=Xc (hl _ Xf);exact hk _ _ _ _ h1 h2 h3 h4 w
 ·cases h
def reP (a b c d:Int):Int:=fmP 0 a c (ng (muP 0 b d))
def imP (a b c d:Int):Int:=fmP 0 a d (muP 0 b c)
def cmV (a b c d:Int):Value:=cpB (reP a b c d) (imP a b c d) (orB (orB (orB (muF 0 b d) (fmF 0 a c (ng (muP 0 b d)))) (muF 0 b c)) (fmF 0 a d (muP 0 b c)))
theorem cm (a b c d:Int):Zw (Ze (Zi prog Zh ZiW true) 300 21 [.agg #[.int .u64 a,.int .u64 b],.agg #[.int .u64 c,.int .u64 d]] []) (cpB (fmP 0 a c (ng (muP 0 b d))) (fmP 0 a d (muP 0 b c)) (orB (orB (orB (muF 0 b d) (fmF 0 a c (ng (muP 0 b d)))) (muF 0 b c)) (fmF 0 a d (muP 0 b c)))) [(decide (U a∧U d∧U (muP 0 b c)),true),(decide (U b∧U c),true),(decide (U a∧U c∧U (ng (muP 0 b d))),true),(decide (U (muP 0 b d)),true),(decide (U b∧U d),true)]:=by and_intros<;>kernel_rfl
theorem ZoY (a b c d:Int) (ha:U a) (hb:U b) (hc:U c) (hd:U d) (w:World):Calls prog 21 #[pX a b,pX c d] w fun r w'=>r= .returned (cmV a b c d)∧zg w w':=
 Zb (Zf Zcf) (cm a b c d) (Za (Xa ⟨ha,hd,Z00 _ _ _⟩) (Za (Xa ⟨hb,hc⟩) (Za (Xa ⟨ha,hc,(ZnJ (Z00 0 b d)).1⟩) (Za (Xa (Z00 0 b d)) (Zz (Xa ⟨hb,hd⟩)))))) rfl (by rfl) w
def gIs:Ans:=fun vals s=>
 match vals with
 | [.agg ⟨[.int .u64 a,.int .u64 b]⟩,.int .u8 f,.agg ⟨[.int .u64 c,.int .u64 d]⟩,.int .i64 g]=>some (.bool true,s,[(decide (a=c∧b=d∧f=g∧0≤f∧f<32),true)])
 | _=>none
theorem Z3l (a b f:Int):Zw (Ze (Zi prog Zh Zo true) 300 11 [.agg #[.int .u64 a,.int .u64 b],.int .u8 f,.agg #[.int .u64 a,.int .u64 b],.int .i64 f] [sam true,cmp true]) (.bool true) [(i64.wrap f==f,true),(a==a && (b==b && true),true)]:=by and_intros<;>kernel_rfl
theorem ZxB:ZJ 11 gIs:=by
 intro vals s v s' lg h hl w;unfold gIs at h;split at h
 ·cases h;obtain⟨rfl,rfl,rfl,h4,h5⟩:=Xc (hl _ Xf);exact Zb (Zf Zd) (Z3l _ _ _) (Za (Z1 (ZY ⟨by omega,by omega⟩)) (Zz (by simp))) rfl (by rfl) w
 ·cases h
end Go.Proofs.YtekebccjflilnaaGreat
namespace Go.Proofs.YtekebccjflilnaaGreat
open Go.Proofs.Tryz
open Go.KRun Go.Wd Go.Pt Go.Rn
set_option maxRecDepth 100000
def ZtF:Con:=alt 21 (gXY cmV) ZoX
theorem ZhH:ConOk ZtF:=Zy func21 rfl (ZxA ZoY) ZeZ
theorem ZxC:reP 4607182418800017408 4607182418800017408 4607182418800017408 4607182418800017408=0∧imP 4607182418800017408 4607182418800017408 4607182418800017408 4607182418800017408=4611686018427387904∧muF 0 4607182418800017408 4607182418800017408=0∧fmF 0 4607182418800017408 4607182418800017408 (ng (muP 0 4607182418800017408 4607182418800017408))=0∧fmF 0 4607182418800017408 4607182418800017408 (muP 0 4607182418800017408 4607182418800017408)=0:=⟨by kernel_rfl,by kernel_rfl,by kernel_rfl,by kernel_rfl,by kernel_rfl⟩
theorem ZxD:Zw (Ze (Zi prog Zh ZtF true) 300 12 [] [sam true,cmp true]) (.bool true) [(orB (orB (orB (muF 0 4607182418800017408 4607182418800017408) (fmF 0 4607182418800017408 4607182418800017408 (ng (muP 0 4607182418800017408 4607182418800017408)))) (muF 0 4607182418800017408 4607182418800017408)) (fmF 0 4607182418800017408 4607182418800017408 (muP 0 4607182418800017408 4607182418800017408))==0,true),(reP 4607182418800017408 4607182418800017408 4607182418800017408 4607182418800017408==0 && (imP 4607182418800017408 4607182418800017408 4607182418800017408 4607182418800017408==4611686018427387904 && true),true),(decide (U 4607182418800017408∧U 4607182418800017408∧U 4607182418800017408∧U 4607182418800017408),true)]:=by and_intros<;>kernel_rfl
def Zg8:Ans:=fun vals s=>match vals with | []=>some (.bool true,s,[]) | _=>none
theorem ZiX:ZJ 12 Zg8:=by
 intro vals s v s' lg h hl w;unfold Zg8 at h;split at h
 ·cases h;obtain⟨s1,s2,s3,s4,s5⟩:=ZxC;exact Zb (Zf ZhH) ZxD (Za (Z1 (by rw[s3,s4,s5];rfl)) (Za (by rw[s1,s2];rfl) (Zz (by decide)))) (by rfl) (by rfl) w
 ·cases h
def ZxE:Con:=alt 12 Zg8 ZtF
theorem ZoZ:ConOk ZxE:=Zy func12 rfl ZiX ZhH
theorem ZxF (m a b:Int):fl5 (muF m a b):=by have:=Zx8 m a b;unfold fl5;omega
theorem ZxG (m a b c:Int):fl5 (fmF m a b c):=by have:=Zx9 m a b c;unfold fl5;omega
theorem ZlY {p q f g:Int}(h:f=g∧fl5 f):decide (p=p∧q=q∧f=g∧0≤f∧f<32)=true:=Xa ⟨rfl,rfl,h.1,h.2.1,h.2.2⟩
end Go.Proofs.YtekebccjflilnaaGreat
namespace Go.Proofs.YtekebccjflilnaaGreat
open Go.Proofs.Tryz
open Go.IntKind
open Go.KRun Go.Nt
set_option maxRecDepth 100000
set_option linter.unusedVariables false
def Z1t (F:Func):List Code:=[ZB (Zv F),ZB (Z5 (Zv F)),ZB (Z5 (Z5 (Zv F)))]
def Z1u (F:Func):Code:=ZB (ZB (Z5 (Z5 (Z5 (Zv F)))))
def ZcJ (F:Func):Code:=cIn (cIn (Z5 (ZB (Z5 (Z5 (Z5 (Zv F)))))))
def Z1v (F:Func):Code:=Z5 (Z5 (Z5 (Z5 (Zv F))))
theorem Zpa:f77.body=some (Zaz (Z1t f77) (.seq (.seq (Z1u f77) (.block 0 (.loop (ZcJ f77)))) (Z1v f77))):=by kernel_rfl
def sv (A:List Int) (b c i:Int):Int:=u64.wrap (c+u64.wrap (u64.wrap (atN A i)*u64.wrap b))
def Zeo (x:List Value×TypeId):Hp:=⟨1,[x]⟩
def Zfg (lo:List Value) (x:List Value×TypeId):Hp:=⟨2,[(lo,tU),x]⟩
def ZyY (w:Nat):List Dec:=match w with | 0=>[cmp true] | _=>[cmp false,cmp true]
def ZxH (w:Nat) (n:Nat) (k i:Int):Log:=match w with | 0=>[(decide (i<n),true)] | _=>[(decide (k>0),true),(decide (i<n),false)]
def rP' (h:Hp) (p:Option Addr) (n c:Nat):Bool×Bool:=(zS h p n c,true)
theorem ZtG (p:Option Addr) (n c:Nat) (b e:Int) (h:Hp):Zm (evL (Zp prog Zh Zo hcV) 100 (Z1t f77) ([.slice p n c,.int .u32 b,.int .u32 e]++List.replicate 38 undef,h,[]) ⟨[],[],[]⟩) 9 32 none [.slice p n c,.int .u32 b,.int .u32 e,undef,undef,undef,Zn,Zn,.int .u64 (u64.wrap e)] h []:=by and_intros<;>kernel_rfl
theorem ZxI (p:Option Addr) (n c:Nat) (b e k:Int) (h:Hp) (g:Nat→Value):Zm (evC (Zp prog Zh Zo hcV) 100 false (Z1u f77) ([.slice p n c,.int .u32 b,.int .u32 e,undef,undef,undef,Zn,Zn,.int .u64 k]++tl 32 g,h,[]) ⟨[],[],[]⟩) 10 31 none [.slice p n c,.int .u32 b,.int .u32 e,undef,undef,undef,Zn,Zn,.int .u64 k,.int .i64 0] h []:=by and_intros<;>kernel_rfl
theorem Zpb (p:Option Addr) (n c:Nat) (b e k i:Int) (x:List Value×TypeId) (g:Nat→Value):Zm (evC (Zp prog Zh Zo hcV) 100 false (ZcJ f77) ([.slice p n c,.int .u32 b,.int .u32 e,undef,undef,undef,Zn,Zn,.int .u64 k,.int .i64 i]++tl 31 g,Zeo x,ZyY 0++[cmp true]) ⟨[],[],[]⟩) 10 31 none [.slice p n c,.int .u32 b,.int .u32 e,undef,undef,undef,Zn,sl 2 0 1 grown,.int .u64 (u64.wrap ((sv (Zu (Zeo x) p n) b k i).tdiv 65536)),.int .i64 (i64.wrap (i+1))] ⟨3,[([.int .u32 (u32.wrap ((sv (Zu (Zeo x) p n) b k i).tmod 65536))],tU),([.int .u32 (u32.wrap ((sv (Zu (Zeo x) p n) b k i).tmod 65536))],tU),x]⟩ ((decide ((65536:Int)=0),false)::rP' (Zeo x) p n c::ZxH 0 n k i):=by and_intros<;>kernel_rfl
theorem Zpc (p:Option Addr) (n c:Nat) (b e k i:Int) (x:List Value×TypeId) (g:Nat→Value):Zm (evC (Zp prog Zh Zo hcV) 100 false (ZcJ f77) ([.slice p n c,.int .u32 b,.int .u32 e,undef,undef,undef,Zn,Zn,.int .u64 k,.int .i64 i]++tl 31 g,Zeo x,ZyY 1++[cmp true]) ⟨[],[],[]⟩) 10 31 none [.slice p n c,.int .u32 b,.int .u32 e,undef,undef,undef,Zn,sl 2 0 1 grown,.int .u64 (u64.wrap ((sv (Zu (Zeo x) p n) b k i).tdiv 65536)),.int .i64 (i64.wrap (i+1))] ⟨3,[([.int .u32 (u32.wrap ((sv (Zu (Zeo x) p n) b k i).tmod 65536))],tU),([.int .u32 (u32.wrap ((sv (Zu (Zeo x) p n) b k i).tmod 65536))],tU),x]⟩ ((decide ((65536:Int)=0),false)::rP' (Zeo x) p n c::ZxH 1 n k i):=by and_intros<;>kernel_rfl
theorem ZlZ (p:Option Addr) (n c z:Nat) (b e k i:Int) (x:List Value×TypeId) (lo:List Value) (g:Nat→Value):Zm (evC (Zp prog Zh Zo hcV) 100 false (ZcJ f77) ([.slice p n c,.int .u32 b,.int .u32 e,undef,undef,undef,Zn,sl 1 0 z grown,.int .u64 k,.int .i64 i]++tl 31 g,Zfg lo x,ZyY 0++[cmp true,at_]) ⟨[],[],[]⟩) 10 31 none [.slice p n c,.int .u32 b,.int .u32 e,undef,undef,undef,Zn,sl 3 0 (z+1) grown,.int .u64 (u64.wrap ((sv (Zu (Zfg lo x) p n) b k i).tdiv 65536)),.int .i64 (i64.wrap (i+1))] ⟨4,[(lo++[.int .u32 (u32.wrap ((sv (Zu (Zfg lo x) p n) b k i).tmod 65536))],tU),([.int .u32 (u32.wrap ((sv (Zu (Zfg lo x) p n) b k i).tmod 65536))],tU),([],2*ZV),x]⟩ ((zQ tU (lo,tU) ([.int .u32 (u32.wrap ((sv (Zu (Zfg lo x) p n) b k i).tmod 65536))],tU) z 0 1,true)::(decide ((65536:Int)=0),false)::rP' (Zfg lo x) p n c::ZxH 0 n k i):=by and_intros<;>kernel_rfl
theorem Zma (p:Option Addr) (n c z:Nat) (b e k i:Int) (x:List Value×TypeId) (lo:List Value) (g:Nat→Value):Zm (evC (Zp prog Zh Zo hcV) 100 false (ZcJ f77) ([.slice p n c,.int .u32 b,.int .u32 e,undef,undef,undef,Zn,sl 1 0 z grown,.int .u64 k,.int .i64 i]++tl 31 g,Zfg lo x,ZyY 1++[cmp true,at_]) ⟨[],[],[]⟩) 10 31 none [.slice p n c,.int .u32 b,.int .u32 e,undef,undef,undef,Zn,sl 3 0 (z+1) grown,.int .u64 (u64.wrap ((sv (Zu (Zfg lo x) p n) b k i).tdiv 65536)),.int .i64 (i64.wrap (i+1))] ⟨4,[(lo++[.int .u32 (u32.wrap ((sv (Zu (Zfg lo x) p n) b k i).tmod 65536))],tU),([.int .u32 (u32.wrap ((sv (Zu (Zfg lo x) p n) b k i).tmod 65536))],tU),([],2*ZV),x]⟩ ((zQ tU (lo,tU) ([.int .u32 (u32.wrap ((sv (Zu (Zfg lo x) p n) b k i).tmod 65536))],tU) z 0 1,true)::(decide ((65536:Int)=0),false)::rP' (Zfg lo x) p n c::ZxH 1 n k i):=by and_intros<;>kernel_rfl
theorem ZtH (p:Option Addr) (n c:Nat) (b e k i:Int) (v:Value) (h:Hp) (g:Nat→Value):Zm (evC (Zp prog Zh Zo hcV) 100 false (ZcJ f77) ([.slice p n c,.int .u32 b,.int .u32 e,undef,undef,undef,Zn,v,.int .u64 k,.int .i64 i]++tl 31 g,h,[cmp false,cmp false]) ⟨[],[],[]⟩) 10 31 (some (some 0)) [.slice p n c,.int .u32 b,.int .u32 e,undef,undef,undef,Zn,v,.int .u64 k,.int .i64 i] h [(decide (k>0),false),(decide (i<n),false)]:=by and_intros<;>kernel_rfl
theorem ZtI (p:Option Addr) (n c z:Nat) (b e k i:Int) (x:List Value×TypeId) (lo:List Value) (g:Nat→Value):Zm (evC (Zp prog Zh Zo hcV) 100 false (Z1v f77) ([.slice p n c,.int .u32 b,.int .u32 e,undef,undef,undef,Zn,sl 1 0 z grown,.int .u64 k,.int .i64 i]++tl 31 g,Zfg lo x,[]) ⟨[],[],[]⟩) 7 34 (some none) [.slice p n c,.int .u32 b,.int .u32 e,undef,undef,undef,sl 1 0 (Z3 (zu lo 0 z)) (Z3 (zu lo 0 z))] (Zfg lo x) [(ZaK tU lo 0 z grown,true)]:=by and_intros<;>kernel_rfl
theorem Zmb (p:Option Addr) (n c:Nat) (b e:Int) (h:Hp):Zm (evC (Zp prog Zh Zo hcV) 100 false (Zv f77) ([.slice p n c,.int .u32 b,.int .u32 e]++List.replicate 38 undef,h,[cmp false,cmp false]) ⟨[],[],[]⟩) 7 34 (some none) [.slice p n c,.int .u32 b,.int .u32 e,undef,undef,undef,Zn] h [(decide (u64.wrap e>0),false),(decide ((0:Int)<n),false)]:=by and_intros<;>kernel_rfl
theorem ZbM {n:Int}(h0:0≤n) (h1:n<18446744073709551616):u64.wrap n=n:=by simp [IntKind.wrap,IntKind.bits,IntKind.signed];omega
theorem Z1w {A:List Int}(hA:∀ x∈A,Dg 65536 x) {b k:Nat}(hb:b<4294967296) (hk:k<4294967296) (i:Nat):sv A b k i=((k+dgN A i*b:Nat):Int):=by
 have h1:=(zn hA i).1;have h2:=(zn hA i).2;have hp:dgN A i*b≤65535*4294967295:=Nat.mul_le_mul (by omega) (by omega);have e0:atN A (i:Int)=((dgN A i:Nat):Int):=by
  have:=Zd5 hA i;rw[zZ];unfold dgN;have:=this.1;omega
 unfold sv;rw[e0,ZbM (n:=((dgN A i:Nat):Int)) (by omega) (by omega),ZbM (n:=(b:Int)) (by omega) (by omega)];have e1:((dgN A i:Nat):Int)*(b:Int)=((dgN A i*b:Nat):Int):=by simp
 rw[e1,ZbM (n:=((dgN A i*b:Nat):Int)) (by omega) (by omega),ZbM (by omega) (by omega)];omega
theorem ZiY {O:List Int}{A:List Int}{i k b e:Nat}(hO:O.length=i) (h:vb 65536 O+65536^i*k=vb 65536 (A.take i)*b+e):
  vb 65536 (O++[(((k+dgN A i*b) % 65536:Nat):Int)])+65536^(i+1)*((k+dgN A i*b)/65536)=vb 65536 (A.take (i+1))*b+e:=by
 rw[Zcv,hO,Xg,Zaw,Nat.add_mul];have h2:=Nat.div_add_mod (k+dgN A i*b) 65536;have h3:65536^i*(k+dgN A i*b)=65536^i*(65536*((k+dgN A i*b)/65536))+65536^i*((k+dgN A i*b) % 65536):=by rw[← Nat.mul_add,h2]
 have h4:65536^i*(k+dgN A i*b)=65536^i*k+65536^i*(dgN A i*b):=Nat.mul_add _ _ _;have h5:65536^(i+1)*((k+dgN A i*b)/65536)=65536^i*(65536*((k+dgN A i*b)/65536)):=by rw[Nat.pow_succ,Nat.mul_assoc]
 have h6:65536^i*(A.getD i 0).toNat*b=65536^i*(dgN A i*b):=by rw[Nat.mul_assoc];rfl
 rw[h5,h6];omega
section
variable {x : List Value × TypeId} {p : Option Addr} {n c : Nat} {A : List Int}
theorem ZhI (NA:Nu 0 x p n c A) {h:Hp}(h0:h.blk? 0=some x):∀ i z,(⟨1,[x]⟩:Hp).blk? i=some z→h.blk? i=some z∧∀ v∈z.1,still v=true:=fun i z hz=>by
 have hi:i=0:=by have:i<1:=Hp.blk_lt hz;omega
 subst hi;have:z=x:=(Option.some.inj hz).symm;subst this;exact⟨h0,NA.st⟩
def sFr (p:Option Addr) (n c:Nat) (b e:Nat) (out:Value) (k i:Nat):List Value:=[.slice p n c,.int .u32 ((b:Nat):Int),.int .u32 ((e:Nat):Int),undef,undef,undef,Zn,out,.int .u64 ((k:Nat):Int),.int .i64 ((i:Nat):Int)]
def Z1x (x:List Value×TypeId) (p:Option Addr) (n c b e:Nat) (O:List Int) (i k:Nat) (Y:Lf):Prop:=
 (i=0∧(∃ g,Y.1=sFr p n c b e Zn k i++tl 31 g)∧Y.2.1=Zeo x)∨(0<i∧(∃ g,Y.1=sFr p n c b e (sl 1 0 i grown) k i++tl 31 g)∧Y.2.1=Zfg (wU O) x)
theorem Zmc (NA:Nu 0 x p n c A) (hA:∀ x∈A,Dg 65536 x) {b e k i:Nat}(hb:b<4294967296) {O:List Int}(hk:k<4294967296) (hi:i<1073741823) (hO:O.length=i) (hgo:i<n∨0<k) {Y:Lf}(hY:Z1x x p n c b e O i k Y):
  RunsW (Zp prog Zh Zo hcV) (ZcJ f77) Y fun ex z=>ex=none∧(∃ g,z.1=sFr p n c b e (sl 1 0 (i+1) grown) ((k+dgN A i*b)/65536) (i+1)++tl 31 g)∧z.2.1=Zfg (wU (O++[(((k+dgN A i*b) % 65536:Nat):Int)])) x:=by
 obtain⟨t,h',s⟩:=Y;have hd1:=(zn hA i).1;have hp:dgN A i*b≤65535*4294967295:=Nat.mul_le_mul (by omega) (by omega);have es:=Z1w hA hb hk i;have e1:u32.wrap ((sv A b k i).tmod 65536)=(((k+dgN A i*b) % 65536:Nat):Int):=by rw[es,Int.tmod_eq_emod_of_nonneg (by omega),ze (by omega) (by omega)];omega
 have e2:u64.wrap ((sv A b k i).tdiv 65536)=(((k+dgN A i*b)/65536:Nat):Int):=by rw[es,Int.tdiv_eq_ediv_of_nonneg (by omega),ZbM (by omega) (by omega)];omega
 have e3:i64.wrap ((i:Int)+1)=((i+1:Nat):Int):=by rw[ZL (by omega) (by omega)];omega
 have hw:∃ w,w≤1∧Zx (ZxH w n k i):=by
  by_cases ha:i<n
  ·exact⟨0,by omega,Z2 (Xa (by omega))⟩
  ·exact⟨1,by omega,okW (Xa (by omega)) (Z2 (Xb (by omega)))⟩
 obtain⟨w,hw1,hl⟩:=hw;rcases hY with ⟨h0,⟨g,ht⟩,hh⟩ | ⟨h0,⟨g,ht⟩,hh⟩
 ·simp only at ht hh;subst ht hh;have r0:=NA.row (Zeo x) rfl;have hO':O=[]:=List.length_eq_zero_iff.1 (by omega);have fin:RunsW (Zp prog Zh Zo hcV) (ZcJ f77) (sFr p n c b e Zn k i++tl 31 g,Zeo x,s) fun ex z=>ex=none∧(∃ g,z.1=[.slice p n c,.int .u32 ((b:Nat):Int),.int .u32 ((e:Nat):Int),undef,undef,undef,Zn,sl 2 0 1 grown,.int .u64 (u64.wrap ((sv A b k i).tdiv 65536)),.int .i64 (i64.wrap ((i:Int)+1))]++tl 31 g)∧z.2.1=⟨3,[([.int .u32 (u32.wrap ((sv A b k i).tmod 65536))],tU),([.int .u32 (u32.wrap ((sv A b k i).tmod 65536))],tU),x]⟩:=by
   match w,hw1,hl with
   | 0,_,hl=>
    have:=Zc (Zg Zd Zs) (s0:=s) (Zpb p n c b e k i x g) (okW rfl (okW r0.1 hl));rw[r0.2] at this;exact this
   | 1,_,hl=>
    have:=Zc (Zg Zd Zs) (s0:=s) (Zpc p n c b e k i x g) (okW rfl (okW r0.1 hl));rw[r0.2] at this;exact this
  rw[e1,e2,e3] at fin;have:=fin.kept (k:=1) (b:=2) (base:=[x]) (y:=([.int .u32 (((k+dgN A i*b) % 65536:Nat):Int)],tU)) (front':=sFr p n c b e (sl 1 0 1 grown) ((k+dgN A i*b)/65536) (i+1)) rfl
   (by simp only[sFr,List.map_cons,List.map_nil,NA.rn (f:=zv 1 2) rfl];kernel_rfl) (ZhI NA rfl) rfl (by omega) (fun v hv=>by rw[List.mem_singleton.1 hv];rfl) (fun v hv=>by
    simp only[sFr,List.mem_cons,List.not_mem_nil,or_false] at hv;rcases hv with rfl | rfl | rfl | rfl | rfl | rfl | rfl | rfl | rfl | rfl
    ·exact NA.lt (by omega)
    all_goals rfl)
  refine this.mono fun ex z hz=> ?_;obtain⟨rfl,⟨g',q1⟩,q2⟩:=hz;subst hO' h0;exact⟨rfl,⟨g',q1⟩,q2⟩
 ·simp only at ht hh;subst ht hh;have r0:=NA.row (Zfg (wU O) x) rfl;have hchk:zQ tU (wU O,tU) ([.int .u32 (u32.wrap ((sv A b k i).tmod 65536))],tU) i 0 1=true:=
   ZaE (L:=O) (M:=[u32.wrap ((sv A b k i).tmod 65536)]) hO.symm (show 0<1 by omega) (by show O.length+1≤_;omega)
  have fin:RunsW (Zp prog Zh Zo hcV) (ZcJ f77) (sFr p n c b e (sl 1 0 i grown) k i++tl 31 g,Zfg (wU O) x,s) fun ex z=>ex=none∧(∃ g,z.1=[.slice p n c,.int .u32 ((b:Nat):Int),.int .u32 ((e:Nat):Int),undef,undef,undef,Zn,sl 3 0 (i+1) grown,.int .u64 (u64.wrap ((sv A b k i).tdiv 65536)),.int .i64 (i64.wrap ((i:Int)+1))]++tl 31 g)∧z.2.1=⟨4,[(wU O++[.int .u32 (u32.wrap ((sv A b k i).tmod 65536))],tU),([.int .u32 (u32.wrap ((sv A b k i).tmod 65536))],tU),([],2*ZV),x]⟩:=by
   match w,hw1,hl with
   | 0,_,hl=>
    have:=Zc (Zg Zd Zs) (s0:=s) (ZlZ p n c i b e k i x (wU O) g) (by rw[r0.2];exact okW hchk (okW rfl (okW r0.1 hl)));rw[r0.2] at this;exact this
   | 1,_,hl=>
    have:=Zc (Zg Zd Zs) (s0:=s) (Zma p n c i b e k i x (wU O) g) (by rw[r0.2];exact okW hchk (okW rfl (okW r0.1 hl)));rw[r0.2] at this;exact this
  rw[e1,e2,e3] at fin;have ew:wU O++[.int .u32 (((k+dgN A i*b) % 65536:Nat):Int)]=wU (O++[(((k+dgN A i*b) % 65536:Nat):Int)]):=by rw[ZO];rfl
  rw[ew] at fin;have:=fin.kept (k:=1) (b:=3) (base:=[x]) (y:=(wU (O++[(((k+dgN A i*b) % 65536:Nat):Int)]),tU)) (front':=sFr p n c b e (sl 1 0 (i+1) grown) ((k+dgN A i*b)/65536) (i+1)) rfl
   (by simp only[sFr,List.map_cons,List.map_nil,NA.rn (f:=zv 1 3) rfl];kernel_rfl) (ZhI NA rfl) rfl (by omega) (ZP _) (fun v hv=>by
    simp only[sFr,List.mem_cons,List.not_mem_nil,or_false] at hv;rcases hv with rfl | rfl | rfl | rfl | rfl | rfl | rfl | rfl | rfl | rfl
    ·exact NA.lt (by omega)
    all_goals rfl)
  exact this
def Z1y (x:List Value×TypeId) (p:Option Addr) (n c:Nat) (A:List Int) (b e m:Nat) (Y:Lf):Prop:=
 ∃ (i k:Nat) (O:List Int),O.length=i∧m=n+2-i∧i≤n+2∧k<4294967296∧((i=n+1→k<65536)∧(i=n+2→k=0))∧(∀ x∈O,Dg 65536 x)∧vb 65536 O+65536^i*k=vb 65536 (A.take i)*b+e∧Z1x x p n c b e O i k Y
def ZtJ (x:List Value×TypeId) (p:Option Addr) (n c:Nat) (A:List Int) (b e:Nat) (Y:Lf):Prop:=
 ∃ (i:Nat) (O:List Int),O.length=i∧i≤n+2∧(∀ x∈O,Dg 65536 x)∧vb 65536 O=vb 65536 A*b+e∧n≤i∧Z1x x p n c b e O i 0 Y
theorem Zpd (NA:Nu 0 x p n c A) (lA:A.length=n) (hA:∀ x∈A,Dg 65536 x) {b e:Nat}(hb:b<4294967296) (he:e<4294967296) (hn:n+3<1073741824) (g:Nat→Value):
  RunsW (Zp prog Zh Zo hcV) (.block 0 (.loop (ZcJ f77))) (sFr p n c b e Zn e 0++tl 31 g,Zeo x,[]) fun ex Y=>match ex with | none=>ZtJ x p n c A b e Y | some none=>False | some (some _)=>False:=by
 refine RunsW.forLoop (P:=ZtJ x p n c A b e) (R:=fun _=>False) (Z1y x p n c A b e) ?_ (n:=n+2) ⟨0,e,[],rfl,by omega,by omega,he,⟨by omega,by omega⟩,(fun x hx=>by cases hx),by simp [vb],.inl ⟨rfl,⟨g,rfl⟩,rfl⟩⟩;rintro m Y ⟨i,k,O,hO,hm,hi,hk,⟨hk1,hk0⟩,hOd,hval,hY⟩;by_cases hgo:i<n∨0<k
 ·have hmx:i≤n+1:=by
   rcases Nat.lt_or_ge i (n+2) with h | h
   ·omega
   ·have:k=0:=hk0 (by omega);omega
  have r:=Zmc NA hA (e:=e) hb hk (by omega) hO hgo hY;refine r.mono fun ex z hz=> ?_;obtain⟨rfl,z1,z2⟩:=hz;have d1:=(zn hA i).1;have hp:dgN A i*b≤65535*4294967295:=Nat.mul_le_mul (by omega) (by omega);refine⟨n+2-(i+1),by omega,i+1,(k+dgN A i*b)/65536,O++[(((k+dgN A i*b) % 65536:Nat):Int)],by simp [hO],rfl,by omega,by omega,⟨fun he'=> ?_,fun he'=> ?_⟩,fun x hx=> ?_,ZiY hO hval,.inr ⟨by omega,z1,z2⟩⟩
  ·have z1:dgN A i=0:=Zd6 (by omega);rw[z1];omega
  ·have z1:dgN A i=0:=Zd6 (by omega);have:=hk1 (by omega);rw[z1];omega
  ·rcases List.mem_append.1 hx with hx | hx
   ·exact hOd x hx
   ·rw[List.mem_singleton.1 hx];exact⟨by omega,by omega⟩
 ·have hk:k=0:=by omega
  subst hk;have ha:n≤i:=by omega
  have out:∀ (v:Value) (h:Hp) (g:Nat→Value) (s:List Dec),RunsW (Zp prog Zh Zo hcV) (ZcJ f77) (sFr p n c b e v 0 i++tl 31 g,h,s) fun ex z=>ex=some (some 0)∧(∃ g,z.1=sFr p n c b e v 0 i++tl 31 g)∧z.2.1=h:=fun v h g s=>
   Zc (Zg Zd Zs) (ZtH p n c b e 0 i v h g) (okW rfl (Z2 (Xb (by omega))))
  have hv:vb 65536 O=vb 65536 A*b+e:=by
   rw[List.take_of_length_le (by omega)] at hval;omega
  obtain⟨t,h',s⟩:=Y;rcases hY with ⟨h0,⟨g,ht⟩,hh⟩ | ⟨h0,⟨g,ht⟩,hh⟩
  ·simp only at ht hh;subst ht hh;refine (out Zn _ g s).mono fun ex z hz=> ?_;obtain⟨rfl,z1,z2⟩:=hz;exact⟨rfl,i,O,hO,hi,hOd,hv,ha,.inl ⟨h0,z1,z2⟩⟩
  ·simp only at ht hh;subst ht hh;refine (out (sl 1 0 i grown) _ g s).mono fun ex z hz=> ?_;obtain⟨rfl,z1,z2⟩:=hz;exact⟨rfl,i,O,hO,hi,hOd,hv,ha,.inr ⟨h0,z1,z2⟩⟩
theorem Zpe (NA:Nu 0 x p n c A) (lA:A.length=n) (hA:∀ x∈A,Dg 65536 x) {b e:Nat}(hb:b<4294967296) (he:e<4294967296) (hn:n+3<1073741824) (h0:0<n∨0<e) {V:Nat}(hV:V=vb 65536 A*b+e):
  RunsW (Zp prog Zh Zo hcV) (Zaz (Z1t f77) (.seq (.seq (Z1u f77) (.block 0 (.loop (ZcJ f77)))) (Z1v f77))) ([.slice p n c,.int .u32 ((b:Nat):Int),.int .u32 ((e:Nat):Int)]++List.replicate 38 undef,Zeo x,[]) fun ex z=>(ex=none∨ex=some none)∧Zau prog f77 z.1 z.2.1=some (sl 1 0 (d16 V).length (d16 V).length)∧∃ r,z.2.1.blk? 1=some (wU (d16 V)++r,tU):=by
 refine Z0 (Zg Zd Zs) (ZtG p n c b e (Zeo x)) (fun x hx=>by cases hx) fun g=> ?_;have ee:u64.wrap ((e:Nat):Int)=((e:Nat):Int):=ZbM (by omega) (by omega);rw[ee];refine ZfF (Zc (Zg Zd Zs) (ZxI p n c b e e (Zeo x) g) (fun x hx=>by cases hx)) (fun ex y he=>by cases he.1) (P2:=fun ex Y=>match ex with | none=>ZtJ x p n c A b e Y | some none=>False | some (some _)=>False) ?_ ?_ ?_
 ·rintro⟨t,h',s⟩ ⟨_,⟨g',ht⟩,hh⟩;simp only at ht hh;subst ht hh;exact RunsW.script (Zpd NA lA hA hb he hn g')
 ·intro ex y hy
  match ex,hy with
  | none,hy=>exact hy
  | some id,hy=>exact hy
 ·rintro⟨t,h',s⟩ ⟨i,O,hO,hi,hOd,hv,ha,hY⟩;rcases hY with ⟨e0,_⟩ | ⟨_,⟨g',ht⟩,hh⟩
  ·exfalso
   have hO':O=[]:=List.length_eq_zero_iff.1 (by omega);rw[hO'] at hv;have:vb 65536 []=0:=rfl;omega
  ·simp only at ht hh;subst ht hh;have hrow:ZaK tU (wU O) 0 i grown=true:=by
    rw[← hO];exact zY (fun x hx=>⟨(hOd x hx).1,by have:=(hOd x hx).2;omega⟩) (by omega) (Zu3 _)
   refine (Zc (Zg Zd Zs) (ZtI p n c i b e 0 i x (wU O) g') (Z2 hrow)).mono fun ex z hz=> ?_;obtain⟨rfl,⟨g2,e1⟩,e2⟩:=hz;have et:Z3 (zu (wU O) 0 i)=(d16 V).length:=by
    rw[← hO,ZaD,Zad (by omega) hOd,hv,← hV];rfl
   refine⟨.inr rfl,?_,?_⟩
   ·rw[e1,e2,et];rfl
   ·rw[e2];refine⟨wU (O.drop (Z3 O)),?_⟩;have e3:wU (d16 V)++wU (O.drop (Z3 O))=wU O:=by
     unfold d16;rw[hV,← hv,← zj (by omega) _ hOd,← ZO,List.take_append_drop]
    rw[e3];rfl
theorem ZhJ (NA:Nu 0 x p n c A):(Zeo x).rows:=by
 refine⟨rfl,fun b z hz=> ?_⟩;have hb:b=0:=by have:b<1:=Hp.blk_lt hz;omega
 subst hb;have:z=x:=(Option.some.inj hz).symm;subst this;exact⟨NA.ros.1,NA.lt0,NA.ros.2⟩
theorem ZhK {h:Hp}{a:Nat}(hx:Zam x.2=false→∃ z r,h.blk? a=some z∧Zam z.2=false∧rt z.2=rt x.2∧z.1=x.1++r):(Zeo x).fits (fun _=>a) h:=by
 intro i z hz ht;have hb:i=0:=by have:i<1:=Hp.blk_lt hz;omega
 subst hb;have:z=x:=(Option.some.inj hz).symm;subst this;exact hx ht
end
theorem Zmd:f77.body=some (Zv f77):=by kernel_rfl
def ZiZ (h:Hp) (p:Option Addr) (n c:Nat) (b e:Int):Bool:=zS h p n c && dgB (Zu h p n) && Nat.blt (n+3) 1073741824 && decide ((0≤b∧b<4294967296)∧(0≤e∧e<4294967296))
def Z1z:Zcl:=fun vals h s=>
 match vals,s with
 | [.slice p n c,.int .u32 b,.int .u32 e],.inr (.inr (.inr (.inl d)))::s'=>
  match d with
  | true=>Zei (vO h p n*b.toNat+e.toNat) h s' [(ZiZ h p n c b e,true),(decide (0<n∨0<e),true)]
  | false=>some (Zn,h,s',[(ZiZ h p n c b e,true),(decide (0<n∨0<e),false)])
 | _,_=>none
theorem ZtK:za 77 Z1z:=by
 intro vals h s v h' s' lg hg hl m B w E hv;unfold Z1z at hg;split at hg
 ·rename_i p n c b e d s2;have key:ZiZ h p n c b e=true→∃ b' e':Nat,b=(b':Int)∧e=(e':Int)∧b'<4294967296∧e'<4294967296∧zS h p n c=true∧(∀ x∈Zu h p n,Dg 65536 x)∧n+3<1073741824:=fun hk=>by
   simp only[ZiZ,Xh,Xi] at hk;obtain⟨⟨⟨r1,r2⟩,r3⟩,r4⟩:=hk;exact⟨b.toNat,e.toNat,by omega,by omega,by omega,by omega,r1,ZaY r2,Zk.1 r3⟩
  split at hg
  ·unfold Zei at hg;cases hg;have q1:=hl _ (Xe);have q2:=hl _ (Xd _ Xf);simp only[Xi] at q2;obtain⟨b',e',rfl,rfl,hb,he,r1,r2,r3⟩:=key q1;rw[Xg,Xg];obtain⟨x,p',a,NA,eA,fA⟩:=Zbt 0 r1;have r:=Zpe NA (zT r1) r2 hb he r3 (by omega) rfl;have:=zm (T:=Zp prog Zh Zo hcV) func77 Zpa (ZhJ NA) (vals:=[.slice p' n c,.int .u32 ((b':Nat):Int),.int .u32 ((e':Nat):Int)]) (fun v hv=>by
    simp only[List.mem_cons,List.not_mem_nil,or_false] at hv;rcases hv with rfl | rfl | rfl
    ·exact NA.lt (by show 0<1;omega)
    all_goals rfl) (k:=1) (cs:=wU (d16 (vO h p n*b'+e'))) (ty:=tU) (Zbs _) (by kernel_rfl) r (by rfl) E (s:=fun _=>a) (ZhK fA)
   simp only[List.map_cons,List.map_nil] at this;rw[eA _ rfl] at this;exact this
  ·cases hg;have q1:=hl _ (Xe);have q2:=hl _ (Xd _ Xf);simp only[decide_eq_false_iff_not] at q2;obtain⟨b',e',rfl,rfl,hb,he,r1,r2,r3⟩:=key q1;obtain⟨x,p',a,NA,eA,fA⟩:=Zbt 0 r1;have hr:Runs (Zp prog Zh Zo hcV) (Zv f77) ([.slice p' n c,.int .u32 ((b':Nat):Int),.int .u32 ((e':Nat):Int)]++List.replicate 38 undef,Zeo x,[]) fun ex z=>(ex=none∨ex=some none)∧Zau prog f77 z.1 z.2.1=some Zn:=by
    refine (Zj (Zg Zd Zs) (Zmb p' n c b' e' _) (okW (Xb (by rw[ZbM (by omega) (by omega)];omega)) (Z2 (Xb (by omega))))).mono fun ex z he=> ?_;obtain⟨rfl,⟨g,e2⟩,e3⟩:=he;refine⟨.inr rfl,?_⟩;rw[e2,e3];rfl
   have:=ZH (T:=Zp prog Zh Zo hcV) func77 Zmd (ZhJ NA) (vals:=[.slice p' n c,.int .u32 ((b':Nat):Int),.int .u32 ((e':Nat):Int)]) (fun v hv=>by
    simp only[List.mem_cons,List.not_mem_nil,or_false] at hv;rcases hv with rfl | rfl | rfl
    ·exact NA.lt (by show 0<1;omega)
    all_goals rfl) (v:=Zn) (by rfl) hr.w E (s:=fun _=>a) (ZhK fA)
   simp only[List.map_cons,List.map_nil] at this;rw[eA _ rfl] at this;exact this
 ·cases hg
end Go.Proofs.YtekebccjflilnaaGreat
namespace Go.Nt
set_option maxRecDepth 100000
theorem Zg9:∀ (i V:Nat),((db 65536 V).getD i 0).toNat=V/65536^i % 65536
 | i,V=>by
  by_cases hV:V=0
  ·rw[hV,zx];simp
  ·rw[ZbX (by omega) hV];cases i with
   | zero=>simp;omega
   | succ i=>
    have:=Zg9 i (V/65536);rw[List.getD_cons_succ,this,Nat.div_div_eq_div_mul,Nat.pow_succ,Nat.mul_comm (65536^i)]
theorem Z10 {c:Nat}(h:c<4294967296):c/65536 % 65536*65536+c % 65536=c:=by omega
theorem ZtL {v:Nat}(h:v<281474976710656):v/4294967296 % 65536*4294967296+v/65536 % 65536*65536+v % 65536=v:=by
 have h1:v/4294967296<65536:=by omega
 have h2:v/4294967296=v/65536/65536:=by rw[Nat.div_div_eq_div_mul]
 rw[Nat.mod_eq_of_lt h1,h2];omega
theorem Z11 {v:Nat}(h:v<4294967296):v/65536 % 65536*4294967296+v % 65536*65536+0=v*65536:=by omega
def Zpf (V n:Nat):Nat:=(V/65536^n % 65536)*4294967296+(V/65536^(n-1) % 65536)*65536+(if 2≤n then V/65536^(n-2) % 65536 else 0)
def Zm9 (B n:Nat):Nat:=(B/65536^(n-1) % 65536)*65536+(if 2≤n then B/65536^(n-2) % 65536 else 0)
theorem ZxJ {V B n:Nat}(hn:1≤n) (h0:65536^(n-1)≤B) (h1:B<65536^n) (hV:V<65536*B):0<Zm9 B n∧Zm9 B n<4294967296∧Zpf V n<281474976710656∧V/B≤Zpf V n/Zm9 B n∧V/B<65536:=by
 have hp:0<65536^(n-1):=Nat.pow_pos (by omega);have hB:0<B:=by omega
 have hd:V/B<65536:=by rw[Nat.div_lt_iff_lt_mul hB];exact hV
 have b1:Zm9 B n<4294967296:=by
  have:=Nat.mod_lt (B/65536^(n-1)) (show 0<65536 by omega);have:=Nat.mod_lt (B/65536^(n-2)) (show 0<65536 by omega);unfold Zm9;split<;>omega
 have b2:Zpf V n<281474976710656:=by
  have:=Nat.mod_lt (V/65536^n) (show 0<65536 by omega);have:=Nat.mod_lt (V/65536^(n-1)) (show 0<65536 by omega);have:=Nat.mod_lt (V/65536^(n-2)) (show 0<65536 by omega);unfold Zpf;split<;>omega
 by_cases h2:2≤n
 ·obtain⟨k,rfl⟩:∃ k,n=k+2:=⟨n-2,by omega⟩;have e1:k+2-1=k+1:=by omega
  have e2:k+2-2=k:=by omega
  rw[e1] at h0;unfold Zpf Zm9 at*;rw[e1,e2,if_pos h2] at*;rw[if_pos h2] at*;have hw:0<65536^k:=Nat.pow_pos (by omega);have dv:∀ x j:Nat,x/65536^(k+j)=x/65536^k/65536^j:=fun x j=>by rw[Nat.pow_add,Nat.div_div_eq_div_mul]
  rw[dv V 2,dv V 1,dv B 1] at*;have p1:(65536:Nat)^1=65536:=rfl;have p2:(65536:Nat)^2=4294967296:=rfl;rw[p1,p2] at*;have hBw:B/65536^k<4294967296:=by
   rw[Nat.div_lt_iff_lt_mul hw];have:65536^(k+2)=4294967296*65536^k:=by rw[Nat.pow_add,p2,Nat.mul_comm]
   omega
  have hBl:65536≤B/65536^k:=by
   rw[Nat.le_div_iff_mul_le hw];have:65536^(k+1)=65536*65536^k:=by rw[Nat.pow_add,p1,Nat.mul_comm]
   omega
  have hVw:V/65536^k<281474976710656:=by
   rw[Nat.div_lt_iff_lt_mul hw];have:65536^(k+2)=4294967296*65536^k:=by rw[Nat.pow_add,p2,Nat.mul_comm]
   omega
  have hm:V/B*(B/65536^k)≤V/65536^k:=by
   rw[Nat.le_div_iff_mul_le hw,Nat.mul_assoc];have h3:B/65536^k*65536^k≤B:=Nat.div_mul_le_self _ _;have h4:=Nat.mul_le_mul_left (V/B) h3;have h5:=Nat.div_mul_le_self V B;omega
  generalize V/65536^k=v at*;generalize B/65536^k=c at*;have ec:=Z10 hBw;have ev:=ZtL hVw;rw[ec,ev];have hc:0<c:=Nat.lt_of_lt_of_le (by decide) hBl;refine⟨hc,hBw,hVw,?_,hd⟩;rw[Nat.le_div_iff_mul_le hc];exact hm
 ·have e:n=1:=by omega
  subst e;unfold Zpf Zm9 at*;rw[if_neg h2] at*;rw[if_neg h2] at*;have p1:(65536:Nat)^1=65536:=rfl;have p0:(65536:Nat)^(1-1)=1:=rfl;rw[p1] at*;rw[p0] at*;rw[Nat.div_one] at*;rw[Nat.div_one] at*;have hB1:B<65536:=h1;have hV1:V<4294967296:=Nat.lt_of_lt_of_le hV (Nat.mul_le_mul_left 65536 (Nat.le_of_lt hB1));have eB:B % 65536*65536+0=B*65536:=by rw[Nat.mod_eq_of_lt hB1,Nat.add_zero]
  have eV:=Z11 hV1;rw[eB,eV];rw[eB] at b1;rw[eV] at b2;refine⟨Nat.mul_pos hB (by decide),b1,b2,?_,hd⟩;rw[Nat.mul_div_mul_right _ _ (by decide)];exact Nat.le_refl _
theorem ZxK {L:List Int}(hC:Zap 65536 L) (h:1≤L.length):65536^(L.length-1)≤vb 65536 L:=by
 rcases Nat.lt_or_ge (vb 65536 L) (65536^(L.length-1)) with h1 | h1
 ·have:=Zdx (b:=65536) (by omega) _ _ h1;rw[Zkx (by omega) hC] at this;omega
 ·exact h1
theorem Zfa {L:List Int}{i:Nat}(h:i<L.length):vb 65536 (L.drop i)=(L.getD i 0).toNat+65536*vb 65536 (L.drop (i+1)):=by
 rw[List.drop_eq_getElem_cons h];simp only[vb];simp [List.getD,List.getElem?_eq_getElem h]
end Go.Nt
namespace Go.KRun
open Go.RowKit
theorem RunsW.keptP {T:Tab}{c:Code}{x0:Lf}{ex:Ex}{front front':List Value}{n k b:Nat}{h:Hp}{base:List (List Value×TypeId)}{y:List Value×TypeId}{r:List Value}(hr:RunsW T c x0 fun e z=>e=ex∧(∃ g,z.1=front++tl n g)∧z.2.1=h)
  (hk:base.length=k) (hf:front'.map (rn (zv k b))=front) (hx:∀ i x,(⟨k,base⟩:Hp).blk? i=some x→h.blk? i=some x∧∀ v∈x.1,still v=true) (hy:h.blk? b=some (y.1++r,y.2)) (hb:k≤b) (sy:∀ v∈y.1,still v=true) (hw:∀ v∈front',lt (k+1) v=true):
  RunsW T c x0 fun e z=>e=ex∧(∃ g,z.1=front'++tl n g)∧z.2.1=⟨k+1,y::base⟩:=by
 refine hr.small fun e z he=> .inr ?_;obtain⟨rfl,⟨g,h1⟩,h2⟩:=he;obtain⟨t,h',s⟩:=z;simp only at h1 h2;subst h1 h2;refine⟨front,front',tl n g,h',⟨k+1,y::base⟩,s,zv k b,rfl,hf,by simp [hk],Nat.succ_pos _,fun i z hz=> ?_,fun i j u v hi hj _ _ hij=> ?_,hw,fun g'=>⟨rfl,⟨g',by rw[ZkY]⟩,rfl⟩⟩
 ·rcases Zi1 hk hz with ⟨hi,hz'⟩ | ⟨rfl,rfl⟩
  ·obtain⟨q1,q2⟩:=hx i z hz';exact⟨q2,z,[],by unfold zv;rw[if_pos (Zk.2 hi)];exact q1,rfl,by simp⟩
  ·exact⟨sy,(z.1++r,z.2),r,by unfold zv;rw[if_neg (by rw[Zk];omega)];exact hy,rfl,rfl⟩
 ·unfold zv at hij;rcases Zi1 hk hi with ⟨h1,_⟩ | ⟨rfl,_⟩<;>rcases Zi1 hk hj with ⟨h2,_⟩ | ⟨rfl,_⟩
  ·rw[if_pos (Zk.2 h1),if_pos (Zk.2 h2)] at hij;exact hij
  ·rw[if_pos (Zk.2 h1),if_neg (by rw[Zk];omega)] at hij;omega
  ·rw[if_pos (Zk.2 h2),if_neg (by rw[Zk];omega)] at hij;omega
  ·rfl
theorem Zja {T:Tab}{f:Nat}{F:Func}{c:Code}(hF:T.P.funcs[f]? =some F) (hc:F.body=some c) {h0:Hp}(hr:h0.rows) {vals:List Value}(hvals:∀ v∈vals,lt h0.n v=true) {v:Nat→Nat→Value}
  {cs ds:List Value}{ty:TypeId}(hcs:∀ u∈cs,lt1 0 u=true) (hds:∀ u∈ds,lt1 0 u=true) (hty:ro ty=false)
  (hrun:RunsW T c (vals++List.replicate (F.ntmps-vals.length) undef,h0,[]) fun e y=>(e=none∨e=some none)∧∃ k j,k≠j∧Zau T.P F y.1 y.2.1=some (v k j)∧(∃ r,y.2.1.blk? k=some (cs++r,ty))∧∃ r,y.2.1.blk? j=some (ds++r,ty))
  (hv0:∀ k j,oc [k,j] (v k j)=true)
  {m:Mp}{B:Nat}{h:Hp}{w:World}(E:Emb m B h w) {s:Nat→Nat}(hf:h0.fits s h) (hv1:∀ k j,∀ g:Nat→Nat,rn g (v k j)=v (g k) (g j)):
  Calls T.P f ((vals.map (rn s)).map (mv m)).toArray w fun e w'=>∃ m',e= .returned (mv m' (v h.n (h.n+1)))∧Came m B h w (v h.n (h.n+1)) ((h.push cs ty).push ds ty) m' w':=by
 have E0:=E.small hr hf;have ev:(vals.map (rn s)).map (mv m)=vals.map (mv fun i=>m (s i)):=by
  rw[List.map_map];exact List.map_congr_left fun y _=>ZcD m s y
 rw[ev];refine calls_of_wp hF hc ?_;have R:Rel (fun i=>m (s i)) w.heap.size (vals++List.replicate (F.ntmps-vals.length) undef,h0,[]) {tmps:=(vals.map (mv fun i=>m (s i))).toArray++Array.replicate (F.ntmps-(vals.map (mv fun i=>m (s i))).toArray.size) undef,defers:=[]} w:=by
  refine⟨?_,rfl,E0,?_⟩
  ·simp [zO]
  ·intro y hy;rcases List.mem_append.1 hy with hy | hy
   ·exact hvals y hy
   ·rw[List.eq_of_mem_replicate hy];simp [undef,lt]
 refine hrun _ _ _ w R _ fun e y he m1 a' w' k2 k3=> ?_;obtain⟨hex,k,j,hkj,hres,⟨r,hblk⟩,r',hblj⟩:=he;obtain⟨r1,r2⟩:=ZaO k2.emb k2.wf hres;rw[← k2.tmps] at r1;have td:zg w w':=⟨k3,fun k h1 h2=>k2.emb.ice k h1 h2⟩;obtain⟨E',hb⟩:=Zaf E td;have low:∀ {k:Nat}{x:List Value×TypeId},y.2.1.blk? k=some x→ro x.2=false→w.heap.size≤(m1 k).1:=fun h1 h2=>k2.emb.low _ _ h1 h2;have hlie:∀ {k:Nat}{cs r:List Value},(∀ u∈cs,lt1 0 u=true)→y.2.1.blk? k=some (cs++r,ty)→∀ m':Mp,lie w' (m1 k) (cs.map (mv1 m')) ty:=fun {k cs r} hcs hblk m'=>by
  obtain⟨r',z,l0,l1,l2⟩:=k2.emb.lies k _ hblk (zo hty);have e:cs.map (mv1 m1)=cs.map (mv1 m'):=Zbg hcs;simp only[List.map_append] at l0 l1;refine⟨r.map (mv1 m1)++r',z,?_,?_,l2⟩
  ·simp at l0 ⊢;omega
  ·rw[← e,l1,List.append_assoc]
 have lk:=low hblk hty;have lj:=low hblj hty;have Ea:=E'.adopt cs ty hty (fun u hu=>ZI (Nat.zero_le _) (hcs u hu)) (hlie hcs hblk m) (Nat.le_trans E.base lk) (fun b x hbx hx heq=>by
  have:=E.here hbx (zo hx);omega) (fun b x hbx hx hf=>by
  have:=E.at_ hbx hx hf;omega)
 have Eb:=Ea.adopt ds ty hty (fun u hu=>ZI (Nat.zero_le _) (hds u hu)) (hlie hds hblj (upd m h.n (m1 k))) (Nat.le_trans E.base lj) (fun b x hbx hx heq=>by
  rw[Hp.blk_push E.len] at hbx;by_cases h1:b=h.n
  ·subst h1;simp only[upd,if_pos] at heq;exact hkj (k2.emb.inj k j _ _ hblk hblj hty hty heq)
  ·rw[if_neg h1] at hbx;simp only[upd,if_neg h1] at heq;have:=E.here hbx (zo hx);omega) (fun b x hbx hx hf=>by
  rw[Hp.blk_push E.len] at hbx;by_cases h1:b=h.n
  ·rw[if_pos h1] at hbx;cases hbx;rw[ZfV hty] at hx;cases hx
  ·rw[if_neg h1] at hbx;rw[show upd m h.n (m1 k) b=m b by simp only[upd,if_neg h1],zi (Z7 m h.n (m1 k)) (E.wf b x hbx)] at hf;have:=E.at_ hbx hx hf;omega)
 have hn:(h.push cs ty).n=h.n+1:=rfl;rw[hn] at Eb;have e1:mv m1 (v k j)=mv (upd (upd m h.n (m1 k)) (h.n+1) (m1 j)) (v h.n (h.n+1)):=by
  have e2:=hv1 k j (fun b=>if b=k then h.n else h.n+1);simp only[if_pos,if_neg (Ne.symm hkj)] at e2;rw[← e2,ZcD];refine ZnW (fun b hb=> ?_) (hv0 k j);simp only[List.mem_cons,List.not_mem_nil,or_false] at hb;rcases hb with rfl | rfl
  ·simp [upd]
  ·simp [upd,Ne.symm hkj]
 rw[e1] at r1;have hlt:lt (h.n+2) (v h.n (h.n+1))=true:=by
  have e2:=hv1 k j (fun b=>if b=k then h.n else h.n+1);simp only[if_pos,if_neg (Ne.symm hkj)] at e2;rw[← e2];exact Zh0 (bs:=[k,j]) (fun b hb=>by split<;>omega) (hv0 k j)
 have post:a'.defers=[]∧∃ v',(results F a'.tmps).run T.P w'= .ok v' w'∧∃ m',Ending.returned v'= .returned (mv m' (v h.n (h.n+1)))∧Came m B h w (v h.n (h.n+1)) ((h.push cs ty).push ds ty) m' w':=
  ⟨k2.dfr,_,r1,_,rfl,⟨(Z7 m h.n (m1 k)).trans (Z7 _ _ _) (by omega),Eb,hb,by show h.n≤h.n+1+1;omega,hlt⟩⟩
 rcases hex with rfl | rfl<;>exact post
end Go.KRun
