/-
  SiE, SiF, RdH, SuN, RdI, RdJ, SiJ, SiH, ShV, SiK
-/
import Derived.Test.YtgefjidphfdhdaaGreatDoorG20
namespace Go.Proofs.YtgefjidphfdhdaaGreatDoor
open Go.Proofs.Tryz
open Go.KRun Go.Nt Go.Wd Go.Rn Go.Rd Go.Pt
set_option maxRecDepth 100000
set_option linter.unusedVariables false
def Zby:Hc:=ZY 28 Z8a (ZY 29 Z7Q (ZY 32 Z4t ZdK))
theorem Zy6:HcOk Zby:=Zt func28 rfl Zy5 (Zt func29 rfl Zyq (Zt func32 rfl Zo2 ZoO))
def xH (neg:Bool) (E:Int) (S:Nat):Hp:=⟨2,[bOf neg E (sOf 0 S),w16 S]⟩
def xM (neg:Bool) (E:Int) (S:Nat) (L:List Nat):Hp:=⟨3+L.length,(L.map w16).reverse++[bOf neg E (sOf 0 S),bOf neg E (sOf 0 S),w16 S]⟩
theorem RowV.pa {h:Hp}{p q:Option Addr}{n c n' c' V W:Nat}(r:RowV h p n c V) (r':RowV h q n' c' W) (hV:0<V) (hW:0<W):Zj4 h p q n c n' c'=true:=by
 unfold Zj4;have:=r.2.2;have:=r'.2.2;have:=r.pos hV;have:=r'.pos hW;rw[r.1,r.dg,r'.1,r'.can,Zl.2 (by omega),Zl.2 (by omega),Zl.2 (by omega),Zl.2 (by omega)];rfl
def Z84 (b:Bool) (E k ke kp:Int) (S A B V Q R:Nat):Log:=[(decide (vO (xM b E S [1,A,B,V]) (Z7 6) (d16 V).length/vO (xM b E S [1,A,B,V]) (Z7 3) (d16 1).length=Q∧vO (xM b E S [1,A,B,V]) (Z7 6) (d16 V).length % vO (xM b E S [1,A,B,V]) (Z7 3) (d16 1).length=R),true),(Zj4 (xM b E S [1,A,B,V]) (Z7 6) (Z7 3) (d16 V).length (d16 V).length (d16 1).length (d16 1).length,true),(decide (vO (xM b E S [1,A,B]) (Z7 4) (d16 A).length*vO (xM b E S [1,A,B]) (Z7 5) (d16 B).length=V),true),(Zgg (xM b E S [1,A,B]) (Z7 4) (Z7 5) (d16 A).length (d16 A).length (d16 B).length (d16 B).length,true),(decide ((10:Int).toNat^kp.toNat=B),true),(ZiQ 10 kp,true),(decide ((10:Int)=0∧2≤kp),false),(decide (k≥0),true),(decide (vO (xM b E S [1]) (Z7 0) (d16 S).length*2^ke.toNat=A),true),(Zff (xM b E S [1]) (Z7 0) (d16 S).length (d16 S).length ke,true),(decide (0<(d16 S).length),true),(decide (E≥0),true),(true,true)]
theorem Z3o {b:Bool}{E k:Int}{S A B V Q R:Nat}(hA:A=S*2^E.toNat) (hB:B=10^k.toNat) (hV:V=A*B) (hQ:Q=V/1) (hR:R=V % 1) (h0:S≠0) (hS:S<2^53) (hE1: -1074≤E∧E≤972) (hk1: -1500≤k∧k≤1500) (hE:0≤E) (hk:0≤k):Zx (Z84 b E k E k S A B V Q R)∧V=paN S E k∧1=pbN E k:=by
 have ea:V=paN S E k:=by
  unfold paN;rw[hV,hA,hB]
 have eb:1=pbN E k:=by
  unfold pbN;rw[show (-E).toNat=0 by omega,show (-k).toNat=0 by omega]
 obtain⟨J,hJ⟩:∃ J,J=1100:=⟨_,rfl⟩;obtain⟨K,hK⟩:∃ K,K=6001:=⟨_,rfl⟩;have tA:A<2^(53+J):=by
  rw[hA];exact zh hS (Nat.pow_lt_pow_right (by omega) (by omega))
 have tB:B<2^K:=by
  rw[hB];exact Nat.lt_of_lt_of_le (Zbb _) (Nat.pow_le_pow_right (by omega) (by omega))
 have tV:V<2^(53+J+K):=by
  rw[hV];exact zh tA tB
 have lS:(d16 S).length<100000:=zk hS (by omega);have l1:(d16 1).length<100000:=zk (i:=1) (by decide) (by omega);have lA:=zk tA (by omega);have lB:=zk tB (by omega);have lV:=zk tV (by omega);have w1:=RowV.at (h:=(xM b E S [1,A,B,V])) (b:=6) (V:=V) rfl lV;have w2:=RowV.at (h:=(xM b E S [1,A,B,V])) (b:=3) (V:=1) rfl l1;have w3:=RowV.at (h:=(xM b E S [1,A,B])) (b:=4) (V:=A) rfl lA;have w4:=RowV.at (h:=(xM b E S [1,A,B])) (b:=5) (V:=B) rfl lB;have w5:=RowV.at (h:=(xM b E S [1])) (b:=0) (V:=S) rfl lS;exact⟨(Za (by rw[w1.vo,w2.vo];exact Xa ⟨hQ.symm,hR.symm⟩) (Za (RowV.pa w1 w2 (by rw[ea];exact ZfJ h0 E k) (by rw[eb];exact zP E k)) (Za (by rw[w3.vo,w4.vo];exact Xa hV.symm) (Za (RowV.mu w3 w4) (Za (Xa hB.symm) (Za (Xa ⟨by omega,by omega,by omega,by omega⟩) (Za (Xb (by omega)) (Za (Xa (by omega)) (Za (by rw[w5.vo];exact Xa hA.symm) (Za (RowV.sh w5 (by omega) (by omega)) (Za (Xa (RowV.pos w5 (by omega))) (Za (Xa (by omega)) (Z5 rfl))))))))))))),ea,eb⟩
def Z85 (b:Bool) (E k ke kp:Int) (S A B V Q R:Nat):Log:=[(decide (vO (xM b E S [1,A,B,V]) (Z7 4) (d16 A).length/vO (xM b E S [1,A,B,V]) (Z7 6) (d16 V).length=Q∧vO (xM b E S [1,A,B,V]) (Z7 4) (d16 A).length % vO (xM b E S [1,A,B,V]) (Z7 6) (d16 V).length=R),true),(Zj4 (xM b E S [1,A,B,V]) (Z7 4) (Z7 6) (d16 A).length (d16 A).length (d16 V).length (d16 V).length,true),(decide (vO (xM b E S [1,A,B]) (Z7 3) (d16 1).length*vO (xM b E S [1,A,B]) (Z7 5) (d16 B).length=V),true),(Zgg (xM b E S [1,A,B]) (Z7 3) (Z7 5) (d16 1).length (d16 1).length (d16 B).length (d16 B).length,true),(decide ((10:Int).toNat^kp.toNat=B),true),(ZiQ 10 kp,true),(decide ((10:Int)=0∧2≤kp),false),(decide (k≥0),false),(decide (vO (xM b E S [1]) (Z7 0) (d16 S).length*2^ke.toNat=A),true),(Zff (xM b E S [1]) (Z7 0) (d16 S).length (d16 S).length ke,true),(decide (0<(d16 S).length),true),(decide (E≥0),true),(true,true)]
theorem Z3p {b:Bool}{E k:Int}{S A B V Q R:Nat}(hA:A=S*2^E.toNat) (hB:B=10^(-k).toNat) (hV:V=1*B) (hQ:Q=A/V) (hR:R=A % V) (h0:S≠0) (hS:S<2^53) (hE1: -1074≤E∧E≤972) (hk1: -1500≤k∧k≤1500) (hE:0≤E) (hk:k<0):Zx (Z85 b E k E (-k) S A B V Q R)∧A=paN S E k∧V=pbN E k:=by
 have ea:A=paN S E k:=by
  unfold paN;rw[show k.toNat=0 by omega,hA,Nat.pow_zero,Nat.mul_one]
 have eb:V=pbN E k:=by
  unfold pbN;rw[show (-E).toNat=0 by omega,hV,hB]
 obtain⟨J,hJ⟩:∃ J,J=1100:=⟨_,rfl⟩;obtain⟨K,hK⟩:∃ K,K=6001:=⟨_,rfl⟩;have tA:A<2^(53+J):=by
  rw[hA];exact zh hS (Nat.pow_lt_pow_right (by omega) (by omega))
 have tB:B<2^K:=by
  rw[hB];exact Nat.lt_of_lt_of_le (Zbb _) (Nat.pow_le_pow_right (by omega) (by omega))
 have tV:V<2^(53+J+K):=by
  rw[hV];exact zh (Nat.lt_of_lt_of_le (show 1<2^1 by decide) (Nat.pow_le_pow_right (by omega) (by omega))) tB
 have lS:(d16 S).length<100000:=zk hS (by omega);have l1:(d16 1).length<100000:=zk (i:=1) (by decide) (by omega);have lA:=zk tA (by omega);have lB:=zk tB (by omega);have lV:=zk tV (by omega);have w1:=RowV.at (h:=(xM b E S [1,A,B,V])) (b:=4) (V:=A) rfl lA;have w2:=RowV.at (h:=(xM b E S [1,A,B,V])) (b:=6) (V:=V) rfl lV;have w3:=RowV.at (h:=(xM b E S [1,A,B])) (b:=3) (V:=1) rfl l1;have w4:=RowV.at (h:=(xM b E S [1,A,B])) (b:=5) (V:=B) rfl lB;have w5:=RowV.at (h:=(xM b E S [1])) (b:=0) (V:=S) rfl lS;exact⟨(Za (by rw[w1.vo,w2.vo];exact Xa ⟨hQ.symm,hR.symm⟩) (Za (RowV.pa w1 w2 (by rw[ea];exact ZfJ h0 E k) (by rw[eb];exact zP E k)) (Za (by rw[w3.vo,w4.vo];exact Xa hV.symm) (Za (RowV.mu w3 w4) (Za (Xa hB.symm) (Za (Xa ⟨by omega,by omega,by omega,by omega⟩) (Za (Xb (by omega)) (Za (Xb (by omega)) (Za (by rw[w5.vo];exact Xa hA.symm) (Za (RowV.sh w5 (by omega) (by omega)) (Za (Xa (RowV.pos w5 (by omega))) (Za (Xa (by omega)) (Z5 rfl))))))))))))),ea,eb⟩
def Z86 (b:Bool) (E k ke kp:Int) (S A B V Q R:Nat):Log:=[(decide (vO (xM b E S [1,A,B,V]) (Z7 6) (d16 V).length/vO (xM b E S [1,A,B,V]) (Z7 4) (d16 A).length=Q∧vO (xM b E S [1,A,B,V]) (Z7 6) (d16 V).length % vO (xM b E S [1,A,B,V]) (Z7 4) (d16 A).length=R),true),(Zj4 (xM b E S [1,A,B,V]) (Z7 6) (Z7 4) (d16 V).length (d16 V).length (d16 A).length (d16 A).length,true),(decide (vO (xM b E S [1,A,B]) (Z7 0) (d16 S).length*vO (xM b E S [1,A,B]) (Z7 5) (d16 B).length=V),true),(Zgg (xM b E S [1,A,B]) (Z7 0) (Z7 5) (d16 S).length (d16 S).length (d16 B).length (d16 B).length,true),(decide ((10:Int).toNat^kp.toNat=B),true),(ZiQ 10 kp,true),(decide ((10:Int)=0∧2≤kp),false),(decide (k≥0),true),(decide (vO (xM b E S [1]) (Z7 3) (d16 1).length*2^ke.toNat=A),true),(Zff (xM b E S [1]) (Z7 3) (d16 1).length (d16 1).length ke,true),(decide (0<(d16 1).length),true),(decide (E≥0),false),(true,true)]
theorem Z3q {b:Bool}{E k:Int}{S A B V Q R:Nat}(hA:A=1*2^(-E).toNat) (hB:B=10^k.toNat) (hV:V=S*B) (hQ:Q=V/A) (hR:R=V % A) (h0:S≠0) (hS:S<2^53) (hE1: -1074≤E∧E≤972) (hk1: -1500≤k∧k≤1500) (hE:E<0) (hk:0≤k):Zx (Z86 b E k (-E) k S A B V Q R)∧V=paN S E k∧A=pbN E k:=by
 have ea:V=paN S E k:=by
  unfold paN;rw[show E.toNat=0 by omega,hV,hB,Nat.pow_zero,Nat.mul_one]
 have eb:A=pbN E k:=by
  unfold pbN;rw[show (-k).toNat=0 by omega,hA,Nat.pow_zero,Nat.mul_one,Nat.one_mul]
 obtain⟨J,hJ⟩:∃ J,J=1100:=⟨_,rfl⟩;obtain⟨K,hK⟩:∃ K,K=6001:=⟨_,rfl⟩;have tA:A<2^(53+J):=by
  rw[hA];exact zh (show 1<2^53 by decide) (Nat.pow_lt_pow_right (by omega) (by omega))
 have tB:B<2^K:=by
  rw[hB];exact Nat.lt_of_lt_of_le (Zbb _) (Nat.pow_le_pow_right (by omega) (by omega))
 have tV:V<2^(53+J+K):=by
  rw[hV];exact zh (Nat.lt_of_lt_of_le hS (Nat.pow_le_pow_right (by omega) (by omega))) tB
 have lS:(d16 S).length<100000:=zk hS (by omega);have l1:(d16 1).length<100000:=zk (i:=1) (by decide) (by omega);have lA:=zk tA (by omega);have lB:=zk tB (by omega);have lV:=zk tV (by omega);have w1:=RowV.at (h:=(xM b E S [1,A,B,V])) (b:=6) (V:=V) rfl lV;have w2:=RowV.at (h:=(xM b E S [1,A,B,V])) (b:=4) (V:=A) rfl lA;have w3:=RowV.at (h:=(xM b E S [1,A,B])) (b:=0) (V:=S) rfl lS;have w4:=RowV.at (h:=(xM b E S [1,A,B])) (b:=5) (V:=B) rfl lB;have w5:=RowV.at (h:=(xM b E S [1])) (b:=3) (V:=1) rfl l1;exact⟨(Za (by rw[w1.vo,w2.vo];exact Xa ⟨hQ.symm,hR.symm⟩) (Za (RowV.pa w1 w2 (by rw[ea];exact ZfJ h0 E k) (by rw[eb];exact zP E k)) (Za (by rw[w3.vo,w4.vo];exact Xa hV.symm) (Za (RowV.mu w3 w4) (Za (Xa hB.symm) (Za (Xa ⟨by omega,by omega,by omega,by omega⟩) (Za (Xb (by omega)) (Za (Xa (by omega)) (Za (by rw[w5.vo];exact Xa hA.symm) (Za (RowV.sh w5 (by omega) (by omega)) (Za (Xa (RowV.pos w5 (by omega))) (Za (Xb (by omega)) (Z5 rfl))))))))))))),ea,eb⟩
def Z87 (b:Bool) (E k ke kp:Int) (S A B V Q R:Nat):Log:=[(decide (vO (xM b E S [1,A,B,V]) (Z7 0) (d16 S).length/vO (xM b E S [1,A,B,V]) (Z7 6) (d16 V).length=Q∧vO (xM b E S [1,A,B,V]) (Z7 0) (d16 S).length % vO (xM b E S [1,A,B,V]) (Z7 6) (d16 V).length=R),true),(Zj4 (xM b E S [1,A,B,V]) (Z7 0) (Z7 6) (d16 S).length (d16 S).length (d16 V).length (d16 V).length,true),(decide (vO (xM b E S [1,A,B]) (Z7 4) (d16 A).length*vO (xM b E S [1,A,B]) (Z7 5) (d16 B).length=V),true),(Zgg (xM b E S [1,A,B]) (Z7 4) (Z7 5) (d16 A).length (d16 A).length (d16 B).length (d16 B).length,true),(decide ((10:Int).toNat^kp.toNat=B),true),(ZiQ 10 kp,true),(decide ((10:Int)=0∧2≤kp),false),(decide (k≥0),false),(decide (vO (xM b E S [1]) (Z7 3) (d16 1).length*2^ke.toNat=A),true),(Zff (xM b E S [1]) (Z7 3) (d16 1).length (d16 1).length ke,true),(decide (0<(d16 1).length),true),(decide (E≥0),false),(true,true)]
theorem Z3r {b:Bool}{E k:Int}{S A B V Q R:Nat}(hA:A=1*2^(-E).toNat) (hB:B=10^(-k).toNat) (hV:V=A*B) (hQ:Q=S/V) (hR:R=S % V) (h0:S≠0) (hS:S<2^53) (hE1: -1074≤E∧E≤972) (hk1: -1500≤k∧k≤1500) (hE:E<0) (hk:k<0):Zx (Z87 b E k (-E) (-k) S A B V Q R)∧S=paN S E k∧V=pbN E k:=by
 have ea:S=paN S E k:=by
  unfold paN;rw[show E.toNat=0 by omega,show k.toNat=0 by omega,Nat.mul_one,Nat.mul_one]
 have eb:V=pbN E k:=by
  unfold pbN;rw[hV,hA,hB,Nat.one_mul]
 obtain⟨J,hJ⟩:∃ J,J=1100:=⟨_,rfl⟩;obtain⟨K,hK⟩:∃ K,K=6001:=⟨_,rfl⟩;have tA:A<2^(53+J):=by
  rw[hA];exact zh (show 1<2^53 by decide) (Nat.pow_lt_pow_right (by omega) (by omega))
 have tB:B<2^K:=by
  rw[hB];exact Nat.lt_of_lt_of_le (Zbb _) (Nat.pow_le_pow_right (by omega) (by omega))
 have tV:V<2^(53+J+K):=by
  rw[hV];exact zh tA tB
 have lS:(d16 S).length<100000:=zk hS (by omega);have l1:(d16 1).length<100000:=zk (i:=1) (by decide) (by omega);have lA:=zk tA (by omega);have lB:=zk tB (by omega);have lV:=zk tV (by omega);have w1:=RowV.at (h:=(xM b E S [1,A,B,V])) (b:=0) (V:=S) rfl lS;have w2:=RowV.at (h:=(xM b E S [1,A,B,V])) (b:=6) (V:=V) rfl lV;have w3:=RowV.at (h:=(xM b E S [1,A,B])) (b:=4) (V:=A) rfl lA;have w4:=RowV.at (h:=(xM b E S [1,A,B])) (b:=5) (V:=B) rfl lB;have w5:=RowV.at (h:=(xM b E S [1])) (b:=3) (V:=1) rfl l1;exact⟨(Za (by rw[w1.vo,w2.vo];exact Xa ⟨hQ.symm,hR.symm⟩) (Za (RowV.pa w1 w2 (by rw[ea];exact ZfJ h0 E k) (by rw[eb];exact zP E k)) (Za (by rw[w3.vo,w4.vo];exact Xa hV.symm) (Za (RowV.mu w3 w4) (Za (Xa hB.symm) (Za (Xa ⟨by omega,by omega,by omega,by omega⟩) (Za (Xb (by omega)) (Za (Xb (by omega)) (Za (by rw[w5.vo];exact Xa hA.symm) (Za (RowV.sh w5 (by omega) (by omega)) (Za (Xa (RowV.pos w5 (by omega))) (Za (Xb (by omega)) (Z5 rfl))))))))))))),ea,eb⟩
end Go.Proofs.YtgefjidphfdhdaaGreatDoor
namespace Go.Proofs.YtgefjidphfdhdaaGreatDoor
open Go.IntKind
open Go.KRun Go.Nt Go.Wd Go.Rn Go.Rd Go.Pt
set_option maxRecDepth 100000
set_option linter.unusedVariables false
def lC1 (H H':Hp) (iB iR i2 B R:Nat) (K:Int) (l:Log):Log:=(decide (zY (vO H' (Z7 i2) (d16 (2*R)).length) (vO H' (Z7 iB) (d16 B).length)=K),true)::(ZL H' (Z7 i2) (Z7 iB) (d16 (2*R)).length (d16 (2*R)).length (d16 B).length (d16 B).length,true)::(decide (vO H (Z7 iR) (d16 R).length*2^(1:Int).toNat=2*R),true)::(Zff H (Z7 iR) (d16 R).length (d16 R).length 1,true)::(decide (0<(d16 R).length),true)::l
def lC0 (H:Hp) (iB iR B R:Nat) (K:Int) (l:Log):Log:=(decide (zY (vO H none 0) (vO H (Z7 iB) (d16 B).length)=K),true)::(ZL H none (Z7 iB) 0 0 (d16 B).length (d16 B).length,true)::(zx H (Z7 iR) (d16 R).length (d16 R).length,true)::(decide (0<(d16 R).length),false)::l
theorem Z9G {H H':Hp}{iB iR i2 B R:Nat}{l:Log}(h1:H.blk? iR=some (w16 R)) (h2:H'.blk? i2=some (w16 (2*R))) (h3:H'.blk? iB=some (w16 B)) (lB:(d16 B).length<100000) (lR:(d16 R).length<100000) (l2:(d16 (2*R)).length<100000) (h0:0<R) (hl:Zx l):Zx (lC1 H H' iB iR i2 B R (zY (2*R) B) l):=by
 have r2:=RowV.at h2 l2;have rB:=RowV.at h3 lB;have rR:=RowV.at h1 lR;exact Za (by rw[r2.vo,rB.vo];exact Xa rfl) (Za (RowV.two r2 rB) (Za (by rw[rR.vo];exact Xa (by rw[Nat.mul_comm];rfl)) (Za (RowV.sh rR (by omega) (by omega)) (Za (Xa (Zey.2 h0)) hl))))
theorem Z3s (H:Hp):RowV H none 0 0 0:=⟨rfl,by rw[Zkm];rfl,by omega⟩
theorem Z9H {H:Hp}{iB iR B:Nat}{l:Log}(h1:H.blk? iR=some (w16 0)) (h3:H.blk? iB=some (w16 B)) (lB:(d16 B).length<100000) (hl:Zx l):Zx (lC0 H iB iR B 0 (zY 0 B) l):=by
 have rB:=RowV.at h3 lB;exact Za (by rw[(Z3s H).vo,rB.vo];exact Xa rfl) (Za (RowV.two (Z3s H) rB) (Za (RowV.at h1 (by rw[Zkm];decide)).1 (Za (by rw[Zkm];rfl) hl)))
theorem Z3t {Q:Nat}(h:Q≠0):Z4 ((wU (d16 Q))[0]?) (.int .u32 ((Q % 65536:Nat):Int))=true:=by
 unfold d16;rw[ZaU (by omega) h];simp [wU,Z4]
theorem Z9I (f:Nat→Nat) (V:Nat):(w16 V).1.map (rn1 f)=(w16 V).1:=by
 unfold w16 wU;rw[List.map_map];rfl
theorem Ze1 {h:Hp}{b k V:Nat}{f:Nat→Nat}(hb:h.blk? b=some (w16 V)):((w16 V).1.all (lt1 k))=true∧h.blk? b=some ((w16 V).1.map (rn1 f),(w16 V).2):=by
 refine⟨List.all_eq_true.2 fun v hv=>zl (Nat.zero_le _) (ZaX _ v hv),?_⟩;rw[Z9I];exact hb
theorem fa1 {α:Type}{P:α→Prop}{a:α}(h:P a):∀ q∈[a],P q:=fun q hq=>by rw[List.mem_singleton.1 hq];exact h
theorem fa3 {α:Type}{P:α→Prop}{a b c:α}(h:P a) (h':P b) (h2:P c):∀ q∈[a,b,c],P q:=fun q hq=>by
 rcases List.mem_cons.1 hq with rfl | hq
 ·exact h
 ·rcases List.mem_cons.1 hq with rfl | hq
  ·exact h'
  ·exact fa1 h2 q hq
def s16 (b V:Nat):Value:= .slice (Z7 b) (d16 V).length (d16 V).length
def dgK (n f:Int):Int:=i64.wrap (i64.wrap (n-1)-f)
end Go.Proofs.YtgefjidphfdhdaaGreatDoor
namespace Go.Proofs.YtgefjidphfdhdaaGreatDoor
open Go.Proofs.Tryz
open Go.KRun Go.Nt Go.Rd Go.Rn
set_option maxRecDepth 100000
theorem ZoX {n:Bool}{b:Int}{D:List UInt8}{k P:Int}{Q:Ex→Lf→Prop}(h:∀ g s,RunsW (Zk prog Zf ZF Ze8) (sK f57 3) (dnF n b D k P (trZ D)++tl 104 g,dnM n b D k P,s) Q):RunsW (Zk prog Zf ZF Ze8) (ZW (Z3a f57) (.seq (.block 0 (.loop (dnL f57))) (sK f57 3))) ([tX n b D k P]++List.replicate 107 undef,⟨0,[]⟩,[]) Q:=by
 refine Zv Zez (Z3b n b D k P) Zca fun g=> ?_;refine RunsW.seq (P1:=fun e y=>match e with | none=>dnS n b D k P (trZ D) y | some none=>False | some (some _)=>False) (RunsW.forLoop (R:=fun _=>False) (P:=dnS n b D k P (trZ D)) (fun r y=>∃ l,r=l.length∧dnS n b D k P l y) Zsu (n:=D.length) ⟨D,rfl,rfl,g,rfl,rfl⟩) ?_ (fun e y he=>by match e,he with | none,he=>exact he.elim | some _,he=>exact he.elim);rintro⟨t,hh,sc⟩ ⟨_,g',e1,e2⟩;simp only at e1 e2;subst e1 e2;exact h g' sc
def gDn:Zae:=fun vals h s=>
 match vals,s with
 | [.agg cs],.inr (.inr (.inr (.inl true)))::s'=>
  match cs.toList with
  | [.bool n,.int .i64 b,.string ⟨⟨D⟩⟩,.int .i64 k,.int .i64 P]=>some (vRN n 0 Zn,h,s',[(decide (trZ D=[]),true),(Zye b D k P,true)])
  | _=>none
 | [.agg cs],.inr (.inr (.inr (.inl false))):: .inr (.inl V):: .inr (.inl E)::s'=>
  match cs.toList with
  | [.bool n,.int .i64 b,.string ⟨⟨D⟩⟩,.int .i64 k,.int .i64 P]=>some (vRN n E (sOf h.n V.toNat),h.push (wU (d16 V.toNat)) tU,s',[(decide (dnA b (trZ D) k P=(V.toNat,E)),true),(decide (trZ D=[]),false),(Zye b D k P,true)])
  | _=>none
 | _,_=>none
theorem Z3u:Z6 57 gDn:=by
 intro vals h s v h' s' lg hg hl m B w E0 hv;unfold gDn at hg;split at hg
 ·rename_i cs s2;split at hg
  ·rename_i n b D k P hcs;have ecs:cs= #[.bool n,.int .i64 b,bR D,.int .i64 k,.int .i64 P]:=by
    have:=congrArg List.toArray hcs;simpa [bR] using this
   cases hg;rw[ZlD,ZlD] at hl;obtain⟨l1,_,_⟩:=hl;have l1:trZ D=[]:=Xc l1;rw[ecs];have r:RunsW (Zk prog Zf ZF Ze8) (ZW (Z3a f57) (.seq (.block 0 (.loop (dnL f57))) (sK f57 3))) ([tX n b D k P]++List.replicate 107 undef,⟨0,[]⟩,[]) fun e z=>(e=none∨e=some none)∧ZV prog f57 z.1 z.2.1=some (vRN n 0 Zn):=ZoX fun g s=>by
    rw[l1];refine (Zb (s0:=s) Zez (Z96 n b D k P [] g) (Z5 (by rw[ZeX];rfl))).mono fun e z he=> ?_;obtain⟨rfl,⟨g',z1⟩,z2⟩:=he;exact⟨.inr rfl,by rw[z1,z2];rfl⟩
   have evals:List.map (rn fun i=>i) [tX n b D k P]=[.agg #[.bool n,.int .i64 b,bR D,.int .i64 k,.int .i64 P]]:=by simp [rn,rn2,rn1,tX,bR]
   have fin:=ZB (T:=(Zk prog Zf ZF Ze8)) func57 ZoN (h0:=⟨0,[]⟩) ⟨rfl,fun b x hx=>by have:b<0:=Hp.blk_lt hx;omega⟩ (vals:=[tX n b D k P]) (fun v hv=>by rw[List.mem_singleton.1 hv];rfl) (v:=vRN n 0 Zn) (by rfl) r E0 (s:=fun i=>i) (fun i x hx=>by have:i<0:=Hp.blk_lt hx;omega);rw[evals] at fin;exact fin
  ·cases hg
 ·rename_i cs V E s2;split at hg
  ·rename_i n b D k P hcs;have ecs:cs= #[.bool n,.int .i64 b,bR D,.int .i64 k,.int .i64 P]:=by
    have:=congrArg List.toArray hcs;simpa [bR] using this
   cases hg;rw[ZlD,ZlD,ZlD] at hl;obtain⟨l0,l1,l2,_⟩:=hl;have l0:dnA b (trZ D) k P=(V.toNat,E):=Xc l0;have l1:¬ trZ D=[]:=of_decide_eq_false l1;unfold Zye at l2;simp only[Xh,Xi] at l2;obtain⟨⟨q1,q2,q3,q4⟩,q5⟩:=l2;obtain⟨c,l,hcl⟩:∃ c l,trZ D=c::l:=by
    cases h3:trZ D with
    | nil=>exact absurd h3 l1
    | cons c l=>exact⟨c,l,rfl⟩
   have r:RunsW (Zk prog Zf ZF Ze8) (ZW (Z3a f57) (.seq (.block 0 (.loop (dnL f57))) (sK f57 3))) ([tX n b D k P]++List.replicate 107 undef,⟨0,[]⟩,[]) (dnZ n V.toNat E):=ZoX fun g s=>by
    have ht:=Znr D;have:=Zyf (n:=n) (b:=b) (D:=D) (k:=k) (P:=P) (c:=c) (l:=l) q1 (by rw[← hcl];omega) q3 q4 (by rw[← hcl];exact Zje q5) (ZfE q5 hcl) g s;rw[← hcl,l0] at this;exact this
   rw[ecs];have evals:List.map (rn fun i=>i) [tX n b D k P]=[.agg #[.bool n,.int .i64 b,bR D,.int .i64 k,.int .i64 P]]:=by simp [rn,rn2,rn1,tX,bR]
   have fin:=ZbS (T:=(Zk prog Zf ZF Ze8)) func57 ZoN (h0:=⟨0,[]⟩) ⟨rfl,fun b x hx=>by have:b<0:=Hp.blk_lt hx;omega⟩ (vals:=[tX n b D k P]) (fun v hv=>by rw[List.mem_singleton.1 hv];rfl) (v:=fun j=>vRN n E (sOf j V.toNat)) (ZaX _) (by kernel_rfl) r (fun k=>by simp [oc,oc2,oc1,sOf,sl,vRN]) E0 (s:=fun i=>i) (fun i x hx=>by have:i<0:=Hp.blk_lt hx;omega) (fun k=>by simp [rn,rn2,rn1,sOf,sl,vRN]);rw[evals] at fin;exact fin
  ·cases hg
 ·cases hg
end Go.Proofs.YtgefjidphfdhdaaGreatDoor
namespace Go.Proofs.YtgefjidphfdhdaaGreatDoor
open Go.Proofs.Tryz
open Go.KRun Go.Nt Go.Wd Go.Rn Go.Pt
set_option maxRecDepth 100000
set_option linter.unusedVariables false
def r0V (neg:Bool):Value:= .tuple #[.int .u64 (sS neg 0),.int .i64 0]
theorem r0a (neg:Bool) (E M:Int):ZD (Zr (Zq prog Zf Zo true) 200 56 [vRN neg E Zn,.int .i64 M] [cmp true,cmp true]) (r0V neg) [(((0:Nat):Int)==0,true),(decide (M<0),true)]:=by
 cases neg<;>exact by and_intros<;>kernel_rfl
theorem r0b (neg:Bool) (E M:Int):ZD (Zr (Zq prog Zf Zo true) 200 56 [vRN neg E Zn,.int .i64 M] [cmp false,cmp true,cmp true]) (r0V neg) [(((0:Nat):Int)==0,true),(decide (M>4),true),(decide (M<0),false)]:=by
 cases neg<;>exact by and_intros<;>kernel_rfl
theorem r0c (neg:Bool) (E M:Int):ZD (Zr (Zq prog Zf Zo true) 200 56 [vRN neg E Zn,.int .i64 M] [cmp false,cmp false,cmp true]) (r0V neg) [(((0:Nat):Int)==0,true),(decide (M>4),false),(decide (M<0),false)]:=by
 cases neg<;>exact by and_intros<;>kernel_rfl
def gR0:Ans:=fun vals s=>
 match vals with
 | [.agg cs,.int .i64 M]=>
  match cs.toList with
  | [.bool neg,.int .i64 E,.slice none 0 0]=>some (r0V neg,s,[])
  | _=>none
 | _=>none
theorem Z3v:zT 56 gR0:=by
 intro vals s v s' lg h hl w;unfold gR0 at h;split at h
 ·rename_i cs M;split at h
  ·rename_i neg E hcs;have ecs:cs= #[.bool neg,.int .i64 E,Zn]:=by
    have:=congrArg List.toArray hcs;simpa [Zn] using this
   cases h;rw[ecs];by_cases h0:M<0
   ·exact Ze (Zp Zd) (r0a neg E M) (Za rfl (Z5 (Xa h0))) (by rfl) (by rfl) w
   ·by_cases h4:M>4
    ·exact Ze (Zp Zd) (r0b neg E M) (Za rfl (Za (Xa h4) (Z5 (Xb h0)))) (by rfl) (by rfl) w
    ·exact Ze (Zp Zd) (r0c neg E M) (Za rfl (Za (Xb h4) (Z5 (Xb h0)))) (by rfl) (by rfl) w
  ·cases h
 ·cases h
end Go.Proofs.YtgefjidphfdhdaaGreatDoor
namespace Go.Proofs.YtgefjidphfdhdaaGreatDoor
open Go.Proofs.Tryz
open Go.KRun Go.Nt Go.Rd Go.Rn
set_option maxRecDepth 100000
def zF:Con:=alt 55 Z7f (alt 56 gR0 Zo)
theorem ZdL:ConOk zF:=ZM func55 rfl ZwX (ZM func56 rfl Z3v Zd)
def Zb9:Hc:=ZY 57 gDn (ZY 56 Z7K hcN)
theorem Zgd:HcOk Zb9:=Zt func57 rfl Z3u (Zt func56 rfl Zyc zp)
def lN1 (l:List UInt8) (k:Int) (d:Bool):Bool×Bool:=(decide (((l.length:Nat):Int)>k),d)
def lX0 (l:List UInt8):Bool×Bool:=(decide ((0:Int)≤0∧0<l.length),true)
def lCh (c:UInt8) (k:Int) (d:Bool):Bool×Bool:=(lq8 c==k,d)
def lPt (l:List UInt8) (k:Int):Bool×Bool:=(decide ((0:Int)≤k∧k≤((l.length:Nat):Int)),true)
def lIs (u w:List UInt8) (d:Bool):Bool×Bool:=((⟨⟨u⟩⟩:ByteArray)==⟨⟨w⟩⟩,d)
def lSm (c:UInt8) (r:List UInt8):Log:=[lPt (c::r) 1,lCh c 45 true,lX0 (c::r),lN1 (c::r) 0 true,lCh c 45 true,lX0 (c::r),lN1 (c::r) 0 true,lN1 (c::r) 65536 false]
def lSp (c:UInt8) (r:List UInt8):Log:=[lPt (c::r) 1,lCh c 43 true,lX0 (c::r),lCh c 45 false,lX0 (c::r),lN1 (c::r) 0 true,lCh c 45 false,lX0 (c::r),lN1 (c::r) 0 true,lN1 (c::r) 65536 false]
def ZkF (c:UInt8) (r:List UInt8):Log:=[lCh c 43 false,lX0 (c::r),lCh c 45 false,lX0 (c::r),lN1 (c::r) 0 true,lCh c 45 false,lX0 (c::r),lN1 (c::r) 0 true,lN1 (c::r) 65536 false]
def lSe:Log:=[lN1 [] 0 false,lN1 [] 0 false,lN1 [] 65536 false]
def lBn (u:List UInt8) (l:Log):Log:=lIs u [105,110,102] false::lIs u [110,97,110] false::l
def Zs8 (u:List UInt8) (l:Log):Log:=lPt u 2::lIs (u.take 2) [48,120] true::lPt u 2::lN1 u 1 true::lBn u l
def lBa (u:List UInt8) (l:Log):Log:=lIs (u.take 2) [48,120] false::lPt u 2::lN1 u 1 true::lBn u l
def lBb (u:List UInt8) (l:Log):Log:=lN1 u 1 false::lBn u l
def lSc (b:Int) (v:List UInt8) (d:Bool) (l:Log):Log:=((scA b v).2,d)::(decide ((b=10∨b=16)∧v.length≤100000),true)::l
def dgs (b:Int) (v:List UInt8):List UInt8:=(sc1 b false v).1
def bhd (b:Int) (v:List UInt8):Int:=(((sc1 b false v).2.1:Nat):Int)
def lDz (b:Int) (v:List UInt8) (l:Log):Log:=(decide (trZ (dgs b v)=[]),true)::(Zye b (dgs b v) (bhd b v) (scA b v).1,true)::l
def hPz (n:Bool) (b:Int) (v:List UInt8) (V:Nat):Hp:=⟨2,[w16 V,tC9 n b (dgs b v) (bhd b v) (scA b v).1]⟩
def lDn (n:Bool) (b:Int) (v:List UInt8) (V:Nat) (E:Int) (l:Log):Log:=(decide (vO (hPz n b v V) (Z7 1) (d16 V).length=V),true)::(ZoM (hPz n b v V) (Z7 1) (d16 V).length (d16 V).length E,true)::(decide (dnA b (trZ (dgs b v)) (bhd b v) (scA b v).1=(V,E)),true)::(decide (trZ (dgs b v)=[]),false)::(Zye b (dgs b v) (bhd b v) (scA b v).1,true)::l
theorem Z9J (l:List UInt8) (m:Int):ZD (Zr (Zk prog Zf zF Zb9) 300 19 [bR l,.int .i64 m] [cmp true]) (.tuple #[.int .u64 0,.int .i64 0,.int .i64 2]) ([(decide (((l.length:Nat):Int)>65536),true)]):=by and_intros<;>kernel_rfl
theorem Z9K (m:Int):ZD (Zr (Zk prog Zf zF Zb9) 300 19 [bR [],.int .i64 m] [cmp false,cmp false,cmp false,sam false,sam false,cmp false,cmp false]) (.tuple #[.int .u64 0,.int .i64 0,.int .i64 3]) (lSc 10 [] false (lBb [] lSe)):=by and_intros<;>kernel_rfl
theorem Z8b (c:UInt8) (r:List UInt8) (m:Int):ZD (Zr (Zk prog Zf zF Zb9) 300 19 [bR (c::r),.int .i64 m] [cmp false,cmp true,cmp true,cmp true,cmp true,sam true,sam true]) (.tuple #[.int .u64 9221120237041090560,.int .i64 0,.int .i64 0]) (lIs r [110,97,110] true::lSm c r):=by and_intros<;>kernel_rfl
theorem Z8c (c:UInt8) (r:List UInt8) (m:Int):ZD (Zr (Zk prog Zf zF Zb9) 300 19 [bR (c::r),.int .i64 m] [cmp false,cmp true,cmp true,cmp true,cmp true,sam true,sam false,sam true]) (.tuple #[.int .u64 18442240474082181120,.int .i64 0,.int .i64 0]) (lIs r [105,110,102] true::lIs r [110,97,110] false::lSm c r):=by and_intros<;>kernel_rfl
theorem Z3w (c:UInt8) (r:List UInt8) (m:Int):ZD (Zr (Zk prog Zf zF Zb9) 300 19 [bR (c::r),.int .i64 m] [cmp false,cmp true,cmp true,cmp true,cmp true,sam true,sam false,sam false,cmp true,sam true,sam true,sam true,cmp false]) (.tuple #[.int .u64 0,.int .i64 0,.int .i64 3]) (lSc 16 (r.drop 2) false (Zs8 r (lSm c r))):=by and_intros<;>kernel_rfl
theorem Z3x (c:UInt8) (r:List UInt8) (m:Int):ZD (Zr (Zk prog Zf zF Zb9) 300 19 [bR (c::r),.int .i64 m] [cmp false,cmp true,cmp true,cmp true,cmp true,sam true,sam false,sam false,cmp true,sam true,sam true,sam true,cmp true,cmp true]) (.tuple #[.int .u64 9223372036854775808,.int .i64 0,.int .i64 0]) (lDz 16 (r.drop 2) (lSc 16 (r.drop 2) true (Zs8 r (lSm c r)))):=by and_intros<;>kernel_rfl
theorem Z3y (c:UInt8) (r:List UInt8) (m:Int) (V:Nat) (E:Int):ZD (Zr (Zk prog Zf zF Zb9) 300 19 [bR (c::r),.int .i64 m] [cmp false,cmp true,cmp true,cmp true,cmp true,sam true,sam false,sam false,cmp true,sam true,sam true,sam true,cmp true,cmp false,num V,num E,num V]) (.tuple #[.int .u64 (sS true (rnP m true V E)),.int .i64 (rnF m true V E),.int .i64 0]) (lDn true 16 (r.drop 2) V E (lSc 16 (r.drop 2) true (Zs8 r (lSm c r)))):=by and_intros<;>kernel_rfl
theorem Z3z (c:UInt8) (r:List UInt8) (m:Int):ZD (Zr (Zk prog Zf zF Zb9) 300 19 [bR (c::r),.int .i64 m] [cmp false,cmp true,cmp true,cmp true,cmp true,sam true,sam false,sam false,cmp true,sam true,sam false,cmp false]) (.tuple #[.int .u64 0,.int .i64 0,.int .i64 3]) (lSc 10 r false (lBa r (lSm c r))):=by and_intros<;>kernel_rfl
theorem Z30 (c:UInt8) (r:List UInt8) (m:Int):ZD (Zr (Zk prog Zf zF Zb9) 300 19 [bR (c::r),.int .i64 m] [cmp false,cmp true,cmp true,cmp true,cmp true,sam true,sam false,sam false,cmp true,sam true,sam false,cmp true,cmp true]) (.tuple #[.int .u64 9223372036854775808,.int .i64 0,.int .i64 0]) (lDz 10 r (lSc 10 r true (lBa r (lSm c r)))):=by and_intros<;>kernel_rfl
theorem Z31 (c:UInt8) (r:List UInt8) (m:Int) (V:Nat) (E:Int):ZD (Zr (Zk prog Zf zF Zb9) 300 19 [bR (c::r),.int .i64 m] [cmp false,cmp true,cmp true,cmp true,cmp true,sam true,sam false,sam false,cmp true,sam true,sam false,cmp true,cmp false,num V,num E,num V]) (.tuple #[.int .u64 (sS true (rnP m true V E)),.int .i64 (rnF m true V E),.int .i64 0]) (lDn true 10 r V E (lSc 10 r true (lBa r (lSm c r)))):=by and_intros<;>kernel_rfl
theorem Z32 (c:UInt8) (r:List UInt8) (m:Int):ZD (Zr (Zk prog Zf zF Zb9) 300 19 [bR (c::r),.int .i64 m] [cmp false,cmp true,cmp true,cmp true,cmp true,sam true,sam false,sam false,cmp false,cmp false]) (.tuple #[.int .u64 0,.int .i64 0,.int .i64 3]) (lSc 10 r false (lBb r (lSm c r))):=by and_intros<;>kernel_rfl
theorem Z33 (c:UInt8) (r:List UInt8) (m:Int):ZD (Zr (Zk prog Zf zF Zb9) 300 19 [bR (c::r),.int .i64 m] [cmp false,cmp true,cmp true,cmp true,cmp true,sam true,sam false,sam false,cmp false,cmp true,cmp true]) (.tuple #[.int .u64 9223372036854775808,.int .i64 0,.int .i64 0]) (lDz 10 r (lSc 10 r true (lBb r (lSm c r)))):=by and_intros<;>kernel_rfl
theorem Z34 (c:UInt8) (r:List UInt8) (m:Int) (V:Nat) (E:Int):ZD (Zr (Zk prog Zf zF Zb9) 300 19 [bR (c::r),.int .i64 m] [cmp false,cmp true,cmp true,cmp true,cmp true,sam true,sam false,sam false,cmp false,cmp true,cmp false,num V,num E,num V]) (.tuple #[.int .u64 (sS true (rnP m true V E)),.int .i64 (rnF m true V E),.int .i64 0]) (lDn true 10 r V E (lSc 10 r true (lBb r (lSm c r)))):=by and_intros<;>kernel_rfl
theorem Z8d (c:UInt8) (r:List UInt8) (m:Int):ZD (Zr (Zk prog Zf zF Zb9) 300 19 [bR (c::r),.int .i64 m] [cmp false,cmp true,cmp false,cmp true,cmp false,cmp true,sam true,sam true]) (.tuple #[.int .u64 9221120237041090560,.int .i64 0,.int .i64 0]) (lIs r [110,97,110] true::lSp c r):=by and_intros<;>kernel_rfl
theorem Z8e (c:UInt8) (r:List UInt8) (m:Int):ZD (Zr (Zk prog Zf zF Zb9) 300 19 [bR (c::r),.int .i64 m] [cmp false,cmp true,cmp false,cmp true,cmp false,cmp true,sam true,sam false,sam true]) (.tuple #[.int .u64 9218868437227405312,.int .i64 0,.int .i64 0]) (lIs r [105,110,102] true::lIs r [110,97,110] false::lSp c r):=by and_intros<;>kernel_rfl
theorem Z35 (c:UInt8) (r:List UInt8) (m:Int):ZD (Zr (Zk prog Zf zF Zb9) 300 19 [bR (c::r),.int .i64 m] [cmp false,cmp true,cmp false,cmp true,cmp false,cmp true,sam true,sam false,sam false,cmp true,sam true,sam true,sam true,cmp false]) (.tuple #[.int .u64 0,.int .i64 0,.int .i64 3]) (lSc 16 (r.drop 2) false (Zs8 r (lSp c r))):=by and_intros<;>kernel_rfl
theorem Z36 (c:UInt8) (r:List UInt8) (m:Int):ZD (Zr (Zk prog Zf zF Zb9) 300 19 [bR (c::r),.int .i64 m] [cmp false,cmp true,cmp false,cmp true,cmp false,cmp true,sam true,sam false,sam false,cmp true,sam true,sam true,sam true,cmp true,cmp true]) (.tuple #[.int .u64 0,.int .i64 0,.int .i64 0]) (lDz 16 (r.drop 2) (lSc 16 (r.drop 2) true (Zs8 r (lSp c r)))):=by and_intros<;>kernel_rfl
theorem Z37 (c:UInt8) (r:List UInt8) (m:Int) (V:Nat) (E:Int):ZD (Zr (Zk prog Zf zF Zb9) 300 19 [bR (c::r),.int .i64 m] [cmp false,cmp true,cmp false,cmp true,cmp false,cmp true,sam true,sam false,sam false,cmp true,sam true,sam true,sam true,cmp true,cmp false,num V,num E,num V]) (.tuple #[.int .u64 (sS false (rnP m false V E)),.int .i64 (rnF m false V E),.int .i64 0]) (lDn false 16 (r.drop 2) V E (lSc 16 (r.drop 2) true (Zs8 r (lSp c r)))):=by and_intros<;>kernel_rfl
theorem Z38 (c:UInt8) (r:List UInt8) (m:Int):ZD (Zr (Zk prog Zf zF Zb9) 300 19 [bR (c::r),.int .i64 m] [cmp false,cmp true,cmp false,cmp true,cmp false,cmp true,sam true,sam false,sam false,cmp true,sam true,sam false,cmp false]) (.tuple #[.int .u64 0,.int .i64 0,.int .i64 3]) (lSc 10 r false (lBa r (lSp c r))):=by and_intros<;>kernel_rfl
theorem Z39 (c:UInt8) (r:List UInt8) (m:Int):ZD (Zr (Zk prog Zf zF Zb9) 300 19 [bR (c::r),.int .i64 m] [cmp false,cmp true,cmp false,cmp true,cmp false,cmp true,sam true,sam false,sam false,cmp true,sam true,sam false,cmp true,cmp true]) (.tuple #[.int .u64 0,.int .i64 0,.int .i64 0]) (lDz 10 r (lSc 10 r true (lBa r (lSp c r)))):=by and_intros<;>kernel_rfl
theorem Z3A (c:UInt8) (r:List UInt8) (m:Int) (V:Nat) (E:Int):ZD (Zr (Zk prog Zf zF Zb9) 300 19 [bR (c::r),.int .i64 m] [cmp false,cmp true,cmp false,cmp true,cmp false,cmp true,sam true,sam false,sam false,cmp true,sam true,sam false,cmp true,cmp false,num V,num E,num V]) (.tuple #[.int .u64 (sS false (rnP m false V E)),.int .i64 (rnF m false V E),.int .i64 0]) (lDn false 10 r V E (lSc 10 r true (lBa r (lSp c r)))):=by and_intros<;>kernel_rfl
theorem Z3B (c:UInt8) (r:List UInt8) (m:Int):ZD (Zr (Zk prog Zf zF Zb9) 300 19 [bR (c::r),.int .i64 m] [cmp false,cmp true,cmp false,cmp true,cmp false,cmp true,sam true,sam false,sam false,cmp false,cmp false]) (.tuple #[.int .u64 0,.int .i64 0,.int .i64 3]) (lSc 10 r false (lBb r (lSp c r))):=by and_intros<;>kernel_rfl
theorem Z3C (c:UInt8) (r:List UInt8) (m:Int):ZD (Zr (Zk prog Zf zF Zb9) 300 19 [bR (c::r),.int .i64 m] [cmp false,cmp true,cmp false,cmp true,cmp false,cmp true,sam true,sam false,sam false,cmp false,cmp true,cmp true]) (.tuple #[.int .u64 0,.int .i64 0,.int .i64 0]) (lDz 10 r (lSc 10 r true (lBb r (lSp c r)))):=by and_intros<;>kernel_rfl
theorem Z3D (c:UInt8) (r:List UInt8) (m:Int) (V:Nat) (E:Int):ZD (Zr (Zk prog Zf zF Zb9) 300 19 [bR (c::r),.int .i64 m] [cmp false,cmp true,cmp false,cmp true,cmp false,cmp true,sam true,sam false,sam false,cmp false,cmp true,cmp false,num V,num E,num V]) (.tuple #[.int .u64 (sS false (rnP m false V E)),.int .i64 (rnF m false V E),.int .i64 0]) (lDn false 10 r V E (lSc 10 r true (lBb r (lSp c r)))):=by and_intros<;>kernel_rfl
theorem Z8f (c:UInt8) (r:List UInt8) (m:Int):ZD (Zr (Zk prog Zf zF Zb9) 300 19 [bR (c::r),.int .i64 m] [cmp false,cmp true,cmp false,cmp true,cmp false,cmp false,sam true]) (.tuple #[.int .u64 9221120237041090560,.int .i64 0,.int .i64 0]) (lIs (c::r) [110,97,110] true::ZkF c r):=by and_intros<;>kernel_rfl
theorem Z8g (c:UInt8) (r:List UInt8) (m:Int):ZD (Zr (Zk prog Zf zF Zb9) 300 19 [bR (c::r),.int .i64 m] [cmp false,cmp true,cmp false,cmp true,cmp false,cmp false,sam false,sam true]) (.tuple #[.int .u64 9218868437227405312,.int .i64 0,.int .i64 0]) (lIs (c::r) [105,110,102] true::lIs (c::r) [110,97,110] false::ZkF c r):=by and_intros<;>kernel_rfl
theorem Z3E (c:UInt8) (r:List UInt8) (m:Int):ZD (Zr (Zk prog Zf zF Zb9) 300 19 [bR (c::r),.int .i64 m] [cmp false,cmp true,cmp false,cmp true,cmp false,cmp false,sam false,sam false,cmp true,sam true,sam true,sam true,cmp false]) (.tuple #[.int .u64 0,.int .i64 0,.int .i64 3]) (lSc 16 ((c::r).drop 2) false (Zs8 (c::r) (ZkF c r))):=by and_intros<;>kernel_rfl
theorem Z3F (c:UInt8) (r:List UInt8) (m:Int):ZD (Zr (Zk prog Zf zF Zb9) 300 19 [bR (c::r),.int .i64 m] [cmp false,cmp true,cmp false,cmp true,cmp false,cmp false,sam false,sam false,cmp true,sam true,sam true,sam true,cmp true,cmp true]) (.tuple #[.int .u64 0,.int .i64 0,.int .i64 0]) (lDz 16 ((c::r).drop 2) (lSc 16 ((c::r).drop 2) true (Zs8 (c::r) (ZkF c r)))):=by and_intros<;>kernel_rfl
theorem Z3G (c:UInt8) (r:List UInt8) (m:Int) (V:Nat) (E:Int):ZD (Zr (Zk prog Zf zF Zb9) 300 19 [bR (c::r),.int .i64 m] [cmp false,cmp true,cmp false,cmp true,cmp false,cmp false,sam false,sam false,cmp true,sam true,sam true,sam true,cmp true,cmp false,num V,num E,num V]) (.tuple #[.int .u64 (sS false (rnP m false V E)),.int .i64 (rnF m false V E),.int .i64 0]) (lDn false 16 ((c::r).drop 2) V E (lSc 16 ((c::r).drop 2) true (Zs8 (c::r) (ZkF c r)))):=by and_intros<;>kernel_rfl
theorem Z3H (c:UInt8) (r:List UInt8) (m:Int):ZD (Zr (Zk prog Zf zF Zb9) 300 19 [bR (c::r),.int .i64 m] [cmp false,cmp true,cmp false,cmp true,cmp false,cmp false,sam false,sam false,cmp true,sam true,sam false,cmp false]) (.tuple #[.int .u64 0,.int .i64 0,.int .i64 3]) (lSc 10 (c::r) false (lBa (c::r) (ZkF c r))):=by and_intros<;>kernel_rfl
theorem Z3I (c:UInt8) (r:List UInt8) (m:Int):ZD (Zr (Zk prog Zf zF Zb9) 300 19 [bR (c::r),.int .i64 m] [cmp false,cmp true,cmp false,cmp true,cmp false,cmp false,sam false,sam false,cmp true,sam true,sam false,cmp true,cmp true]) (.tuple #[.int .u64 0,.int .i64 0,.int .i64 0]) (lDz 10 (c::r) (lSc 10 (c::r) true (lBa (c::r) (ZkF c r)))):=by and_intros<;>kernel_rfl
theorem Z3J (c:UInt8) (r:List UInt8) (m:Int) (V:Nat) (E:Int):ZD (Zr (Zk prog Zf zF Zb9) 300 19 [bR (c::r),.int .i64 m] [cmp false,cmp true,cmp false,cmp true,cmp false,cmp false,sam false,sam false,cmp true,sam true,sam false,cmp true,cmp false,num V,num E,num V]) (.tuple #[.int .u64 (sS false (rnP m false V E)),.int .i64 (rnF m false V E),.int .i64 0]) (lDn false 10 (c::r) V E (lSc 10 (c::r) true (lBa (c::r) (ZkF c r)))):=by and_intros<;>kernel_rfl
theorem Z3K (c:UInt8) (r:List UInt8) (m:Int):ZD (Zr (Zk prog Zf zF Zb9) 300 19 [bR (c::r),.int .i64 m] [cmp false,cmp true,cmp false,cmp true,cmp false,cmp false,sam false,sam false,cmp false,cmp false]) (.tuple #[.int .u64 0,.int .i64 0,.int .i64 3]) (lSc 10 (c::r) false (lBb (c::r) (ZkF c r))):=by and_intros<;>kernel_rfl
theorem Z3L (c:UInt8) (r:List UInt8) (m:Int):ZD (Zr (Zk prog Zf zF Zb9) 300 19 [bR (c::r),.int .i64 m] [cmp false,cmp true,cmp false,cmp true,cmp false,cmp false,sam false,sam false,cmp false,cmp true,cmp true]) (.tuple #[.int .u64 0,.int .i64 0,.int .i64 0]) (lDz 10 (c::r) (lSc 10 (c::r) true (lBb (c::r) (ZkF c r)))):=by and_intros<;>kernel_rfl
theorem Z3M (c:UInt8) (r:List UInt8) (m:Int) (V:Nat) (E:Int):ZD (Zr (Zk prog Zf zF Zb9) 300 19 [bR (c::r),.int .i64 m] [cmp false,cmp true,cmp false,cmp true,cmp false,cmp false,sam false,sam false,cmp false,cmp true,cmp false,num V,num E,num V]) (.tuple #[.int .u64 (sS false (rnP m false V E)),.int .i64 (rnF m false V E),.int .i64 0]) (lDn false 10 (c::r) V E (lSc 10 (c::r) true (lBb (c::r) (ZkF c r)))):=by and_intros<;>kernel_rfl
theorem Za4 {u w:List UInt8}{d:Bool}(h:decide (u=w)=d):(lIs u w d).1=(lIs u w d).2:=by
 show ((⟨⟨u⟩⟩:ByteArray)==⟨⟨w⟩⟩)=d;rw[ZeX];exact h
theorem Z3N (c:UInt8) (r:List UInt8):(lX0 (c::r)).1=true:=by
 show decide ((0:Int)≤0∧0<(c::r).length)=true;exact Xa ⟨by omega,by rw[List.length_cons];omega⟩
theorem Z3O (c:UInt8) (r:List UInt8):(lN1 (c::r) 0 true).1=true:=Xa (by rw[List.length_cons];omega)
theorem Zj8 {u:List UInt8}{l:Log}(h1:¬ u=[110,97,110]) (h2:¬ u=[105,110,102]) (hl:Zx l):Zx (lBn u l):=Za (Za4 (Xb h2)) (Za (Za4 (Xb h1)) hl)
theorem Zap {b:Int}{v:List UInt8}{d:Bool}{l:Log}(h:(scA b v).2=d) (hb:b=10∨b=16) (hv:v.length≤10000) (hl:Zx l):Zx (lSc b v d l):=Za h (Za (Xa ⟨hb,by omega⟩) hl)
theorem ZoY {b:Int}{v:List UInt8}(hb:b=10∨b=16) (hv:v.length≤10000):Zye b (dgs b v) (bhd b v) (scA b v).1=true∧(0≤bhd b v∧bhd b v≤10000)∧(-2000000≤(scA b v).1∧(scA b v).1≤2000000)∧(dgs b v).length≤10000:=by
 obtain⟨h1,h2,h3⟩:=Zts b false v;have h4: -2000000≤(scA b v).1∧(scA b v).1≤2000000:=by
  unfold scA;split
  ·exact⟨show (-2000000:Int)≤0 by decide,show (0:Int)≤2000000 by decide⟩
  ·exact Z0Q b _
 unfold Zye dgs bhd;refine⟨?_,by omega,h4,by omega⟩;rw[h3,Xa ⟨hb,by omega,by omega,h4.1,h4.2⟩];rfl
theorem ZcN {b:Int}{v:List UInt8}{l:Log}(h:trZ (sc1 b false v).1=[]) (hb:b=10∨b=16) (hv:v.length≤10000) (hl:Zx l):Zx (lDz b v l):=Za (Xa h) (Za (ZoY hb hv).1 hl)
theorem ZcO {n:Bool}{b:Int}{v:List UInt8}{l:Log}(h:¬ trZ (sc1 b false v).1=[]) (hb:b=10∨b=16) (hv:v.length≤10000) (hl:Zx l):Zx (lDn n b v (dnA b (trZ (dgs b v)) (bhd b v) (scA b v).1).1 (dnA b (trZ (dgs b v)) (bhd b v) (scA b v).1).2 l):=by
 obtain⟨h1,h2,h3,h4⟩:=ZoY hb hv;have ht:=Znr (dgs b v);obtain⟨b1,b2,b3⟩:=Z0R b hb (trZ (dgs b v)) (by omega) (bhd b v) (scA b v).1 h2 h3;obtain⟨V,hV⟩:∃ V,V=(dnA b (trZ (dgs b v)) (bhd b v) (scA b v).1).1:=⟨_,rfl⟩;obtain⟨E,hE⟩:∃ E,E=(dnA b (trZ (dgs b v)) (bhd b v) (scA b v).1).2:=⟨_,rfl⟩;rw[← hV] at b1;rw[← hE] at b2 b3;rw[← hV,← hE];have lV:=Zco b1;refine Za (Xa (Zd5 (V:=V) rfl)) (Za ?_ (Za (Xa (by rw[hV,hE])) (Za (Xb h) (Za h1 hl))));unfold ZoM Z7;rw[ZJ (A:=V) rfl (by omega),Zan (A:=V) rfl,show ZcQ (d16 V)=true from ZbH (Zc2 (by omega) _),Zl.2 (by omega),Xa ⟨b2,b3⟩];rfl
def pzT (x:Int×Int×Int):Value:= .tuple #[.int .u64 x.1,.int .i64 x.2.1,.int .i64 x.2.2]
theorem Z9L (c:UInt8) (r:List UInt8) (m:Int) (hl:(c::r).length≤10000) (hs:sgT (c::r)=(true,r)) (lS:Zx (lSm c r)) (w:World):Calls prog 19 #[bR (c::r),.int .i64 m] w fun e w'=>e= .returned (pzT (rdP m (c::r)))∧Za0 w w':=by
 have T0:=Zh ZdL Zgd;have hlu:r.length≤10000:=by rw[List.length_cons] at hl;omega
 have eP:rdP m (c::r)=if r=[110,97,110] then (9221120237041090560,0,0) else if r=[105,110,102] then (if true=true then 18442240474082181120 else 9218868437227405312,0,0) else rdQ m true (rdB r).1 (rdB r).2:=by
  unfold rdP;rw[if_neg (by omega),hs]
 rw[eP];by_cases h1:r=[110,97,110]
 ·rw[if_pos h1];exact Ze T0 (Z8b c r m) (Za (Za4 (Xa h1)) lS) (by rfl) (by rfl) w
 rw[if_neg h1];by_cases h2:r=[105,110,102]
 ·rw[if_pos h2];exact Ze T0 (Z8c c r m) (Za (Za4 (Xa h2)) (Za (Za4 (Xb h1)) lS)) (by rfl) (by rfl) w
 rw[if_neg h2];have lB:=Zj8 h1 h2 lS;by_cases hq:1<r.length
 ·have lq:=Za (show decide (((r.length:Nat):Int)>1)=true from Xa (by omega)) lB;have lp:(lPt r 2).1=true:=Xa ⟨by omega,by omega⟩;have lq:=Za lp lq;by_cases h16:r.take 2=[48,120]
  ·have eB:rdB r=(16,r.drop 2):=by unfold rdB;rw[if_pos ⟨hq,h16⟩]
   rw[eB];dsimp only;have hv:(r.drop 2).length≤10000:=by rw[List.length_drop];omega
   have lX:=Za lp (Za (Za4 (Xa h16)) lq);cases hk:(scA 16 (r.drop 2)).2 with
   | false=>
    have e:rdQ m true 16 (r.drop 2)=(0,0,3):=by unfold rdQ;rw[if_pos hk]
    rw[e];exact Ze T0 (Z3w c r m) (Zap hk (.inr rfl) hv lX) (by rfl) (by rfl) w
   | true=>
    have lY:=Zap hk (.inr rfl) hv lX;by_cases hz:trZ (sc1 16 false (r.drop 2)).1=[]
    ·have e:rdQ m true 16 (r.drop 2)=(9223372036854775808,0,0):=by unfold rdQ;rw[if_neg (by rw[hk];decide),if_pos hz];rfl
     rw[e];exact Ze T0 (Z3x c r m) (ZcN hz (.inr rfl) hv lY) (by rfl) (by rfl) w
    ·have e:rdQ m true 16 (r.drop 2)=(sS true (rnP m true (dnA 16 (trZ (dgs 16 (r.drop 2))) (bhd 16 (r.drop 2)) (scA 16 (r.drop 2)).1).1 (dnA 16 (trZ (dgs 16 (r.drop 2))) (bhd 16 (r.drop 2)) (scA 16 (r.drop 2)).1).2),rnF m true (dnA 16 (trZ (dgs 16 (r.drop 2))) (bhd 16 (r.drop 2)) (scA 16 (r.drop 2)).1).1 (dnA 16 (trZ (dgs 16 (r.drop 2))) (bhd 16 (r.drop 2)) (scA 16 (r.drop 2)).1).2,0):=by unfold rdQ;rw[if_neg (by rw[hk];decide),if_neg hz];rfl
     rw[e];exact Ze T0 (Z3y c r m _ _) (ZcO hz (.inr rfl) hv lY) (by rfl) (by rfl) w
  ·have eB:rdB r=(10,r):=by unfold rdB;rw[if_neg (fun h=>h16 h.2)]
   rw[eB];dsimp only;have hv:=hlu;have lX:=Za (Za4 (Xb h16)) lq;cases hk:(scA 10 r).2 with
   | false=>
    have e:rdQ m true 10 r=(0,0,3):=by unfold rdQ;rw[if_pos hk]
    rw[e];exact Ze T0 (Z3z c r m) (Zap hk (.inl rfl) hv lX) (by rfl) (by rfl) w
   | true=>
    have lY:=Zap hk (.inl rfl) hv lX;by_cases hz:trZ (sc1 10 false r).1=[]
    ·have e:rdQ m true 10 r=(9223372036854775808,0,0):=by unfold rdQ;rw[if_neg (by rw[hk];decide),if_pos hz];rfl
     rw[e];exact Ze T0 (Z30 c r m) (ZcN hz (.inl rfl) hv lY) (by rfl) (by rfl) w
    ·have e:rdQ m true 10 r=(sS true (rnP m true (dnA 10 (trZ (dgs 10 r)) (bhd 10 r) (scA 10 r).1).1 (dnA 10 (trZ (dgs 10 r)) (bhd 10 r) (scA 10 r).1).2),rnF m true (dnA 10 (trZ (dgs 10 r)) (bhd 10 r) (scA 10 r).1).1 (dnA 10 (trZ (dgs 10 r)) (bhd 10 r) (scA 10 r).1).2,0):=by unfold rdQ;rw[if_neg (by rw[hk];decide),if_neg hz];rfl
     rw[e];exact Ze T0 (Z31 c r m _ _) (ZcO hz (.inl rfl) hv lY) (by rfl) (by rfl) w
 ·have eB:rdB r=(10,r):=by unfold rdB;rw[if_neg (fun h=>hq h.1)]
  rw[eB];dsimp only;have hv:=hlu;have lX:=Za (show decide (((r.length:Nat):Int)>1)=false from Xb (by omega)) lB;cases hk:(scA 10 r).2 with
  | false=>
   have e:rdQ m true 10 r=(0,0,3):=by unfold rdQ;rw[if_pos hk]
   rw[e];exact Ze T0 (Z32 c r m) (Zap hk (.inl rfl) hv lX) (by rfl) (by rfl) w
  | true=>
   have lY:=Zap hk (.inl rfl) hv lX;by_cases hz:trZ (sc1 10 false r).1=[]
   ·have e:rdQ m true 10 r=(9223372036854775808,0,0):=by unfold rdQ;rw[if_neg (by rw[hk];decide),if_pos hz];rfl
    rw[e];exact Ze T0 (Z33 c r m) (ZcN hz (.inl rfl) hv lY) (by rfl) (by rfl) w
   ·have e:rdQ m true 10 r=(sS true (rnP m true (dnA 10 (trZ (dgs 10 r)) (bhd 10 r) (scA 10 r).1).1 (dnA 10 (trZ (dgs 10 r)) (bhd 10 r) (scA 10 r).1).2),rnF m true (dnA 10 (trZ (dgs 10 r)) (bhd 10 r) (scA 10 r).1).1 (dnA 10 (trZ (dgs 10 r)) (bhd 10 r) (scA 10 r).1).2,0):=by unfold rdQ;rw[if_neg (by rw[hk];decide),if_neg hz];rfl
    rw[e];exact Ze T0 (Z34 c r m _ _) (ZcO hz (.inl rfl) hv lY) (by rfl) (by rfl) w
theorem Z9M (c:UInt8) (r:List UInt8) (m:Int) (hl:(c::r).length≤10000) (hs:sgT (c::r)=(false,r)) (lS:Zx (lSp c r)) (w:World):Calls prog 19 #[bR (c::r),.int .i64 m] w fun e w'=>e= .returned (pzT (rdP m (c::r)))∧Za0 w w':=by
 have T0:=Zh ZdL Zgd;have hlu:r.length≤10000:=by rw[List.length_cons] at hl;omega
 have eP:rdP m (c::r)=if r=[110,97,110] then (9221120237041090560,0,0) else if r=[105,110,102] then (if false=true then 18442240474082181120 else 9218868437227405312,0,0) else rdQ m false (rdB r).1 (rdB r).2:=by
  unfold rdP;rw[if_neg (by omega),hs]
 rw[eP];by_cases h1:r=[110,97,110]
 ·rw[if_pos h1];exact Ze T0 (Z8d c r m) (Za (Za4 (Xa h1)) lS) (by rfl) (by rfl) w
 rw[if_neg h1];by_cases h2:r=[105,110,102]
 ·rw[if_pos h2];exact Ze T0 (Z8e c r m) (Za (Za4 (Xa h2)) (Za (Za4 (Xb h1)) lS)) (by rfl) (by rfl) w
 rw[if_neg h2];have lB:=Zj8 h1 h2 lS;by_cases hq:1<r.length
 ·have lq:=Za (show decide (((r.length:Nat):Int)>1)=true from Xa (by omega)) lB;have lp:(lPt r 2).1=true:=Xa ⟨by omega,by omega⟩;have lq:=Za lp lq;by_cases h16:r.take 2=[48,120]
  ·have eB:rdB r=(16,r.drop 2):=by unfold rdB;rw[if_pos ⟨hq,h16⟩]
   rw[eB];dsimp only;have hv:(r.drop 2).length≤10000:=by rw[List.length_drop];omega
   have lX:=Za lp (Za (Za4 (Xa h16)) lq);cases hk:(scA 16 (r.drop 2)).2 with
   | false=>
    have e:rdQ m false 16 (r.drop 2)=(0,0,3):=by unfold rdQ;rw[if_pos hk]
    rw[e];exact Ze T0 (Z35 c r m) (Zap hk (.inr rfl) hv lX) (by rfl) (by rfl) w
   | true=>
    have lY:=Zap hk (.inr rfl) hv lX;by_cases hz:trZ (sc1 16 false (r.drop 2)).1=[]
    ·have e:rdQ m false 16 (r.drop 2)=(0,0,0):=by unfold rdQ;rw[if_neg (by rw[hk];decide),if_pos hz];rfl
     rw[e];exact Ze T0 (Z36 c r m) (ZcN hz (.inr rfl) hv lY) (by rfl) (by rfl) w
    ·have e:rdQ m false 16 (r.drop 2)=(sS false (rnP m false (dnA 16 (trZ (dgs 16 (r.drop 2))) (bhd 16 (r.drop 2)) (scA 16 (r.drop 2)).1).1 (dnA 16 (trZ (dgs 16 (r.drop 2))) (bhd 16 (r.drop 2)) (scA 16 (r.drop 2)).1).2),rnF m false (dnA 16 (trZ (dgs 16 (r.drop 2))) (bhd 16 (r.drop 2)) (scA 16 (r.drop 2)).1).1 (dnA 16 (trZ (dgs 16 (r.drop 2))) (bhd 16 (r.drop 2)) (scA 16 (r.drop 2)).1).2,0):=by unfold rdQ;rw[if_neg (by rw[hk];decide),if_neg hz];rfl
     rw[e];exact Ze T0 (Z37 c r m _ _) (ZcO hz (.inr rfl) hv lY) (by rfl) (by rfl) w
  ·have eB:rdB r=(10,r):=by unfold rdB;rw[if_neg (fun h=>h16 h.2)]
   rw[eB];dsimp only;have hv:=hlu;have lX:=Za (Za4 (Xb h16)) lq;cases hk:(scA 10 r).2 with
   | false=>
    have e:rdQ m false 10 r=(0,0,3):=by unfold rdQ;rw[if_pos hk]
    rw[e];exact Ze T0 (Z38 c r m) (Zap hk (.inl rfl) hv lX) (by rfl) (by rfl) w
   | true=>
    have lY:=Zap hk (.inl rfl) hv lX;by_cases hz:trZ (sc1 10 false r).1=[]
    ·have e:rdQ m false 10 r=(0,0,0):=by unfold rdQ;rw[if_neg (by rw[hk];decide),if_pos hz];rfl
     rw[e];exact Ze T0 (Z39 c r m) (ZcN hz (.inl rfl) hv lY) (by rfl) (by rfl) w
    ·have e:rdQ m false 10 r=(sS false (rnP m false (dnA 10 (trZ (dgs 10 r)) (bhd 10 r) (scA 10 r).1).1 (dnA 10 (trZ (dgs 10 r)) (bhd 10 r) (scA 10 r).1).2),rnF m false (dnA 10 (trZ (dgs 10 r)) (bhd 10 r) (scA 10 r).1).1 (dnA 10 (trZ (dgs 10 r)) (bhd 10 r) (scA 10 r).1).2,0):=by unfold rdQ;rw[if_neg (by rw[hk];decide),if_neg hz];rfl
     rw[e];exact Ze T0 (Z3A c r m _ _) (ZcO hz (.inl rfl) hv lY) (by rfl) (by rfl) w
 ·have eB:rdB r=(10,r):=by unfold rdB;rw[if_neg (fun h=>hq h.1)]
  rw[eB];dsimp only;have hv:=hlu;have lX:=Za (show decide (((r.length:Nat):Int)>1)=false from Xb (by omega)) lB;cases hk:(scA 10 r).2 with
  | false=>
   have e:rdQ m false 10 r=(0,0,3):=by unfold rdQ;rw[if_pos hk]
   rw[e];exact Ze T0 (Z3B c r m) (Zap hk (.inl rfl) hv lX) (by rfl) (by rfl) w
  | true=>
   have lY:=Zap hk (.inl rfl) hv lX;by_cases hz:trZ (sc1 10 false r).1=[]
   ·have e:rdQ m false 10 r=(0,0,0):=by unfold rdQ;rw[if_neg (by rw[hk];decide),if_pos hz];rfl
    rw[e];exact Ze T0 (Z3C c r m) (ZcN hz (.inl rfl) hv lY) (by rfl) (by rfl) w
   ·have e:rdQ m false 10 r=(sS false (rnP m false (dnA 10 (trZ (dgs 10 r)) (bhd 10 r) (scA 10 r).1).1 (dnA 10 (trZ (dgs 10 r)) (bhd 10 r) (scA 10 r).1).2),rnF m false (dnA 10 (trZ (dgs 10 r)) (bhd 10 r) (scA 10 r).1).1 (dnA 10 (trZ (dgs 10 r)) (bhd 10 r) (scA 10 r).1).2,0):=by unfold rdQ;rw[if_neg (by rw[hk];decide),if_neg hz];rfl
    rw[e];exact Ze T0 (Z3D c r m _ _) (ZcO hz (.inl rfl) hv lY) (by rfl) (by rfl) w
theorem Z9N (c:UInt8) (r:List UInt8) (m:Int) (hl:(c::r).length≤10000) (hs:sgT (c::r)=(false,(c::r))) (lS:Zx (ZkF c r)) (w:World):Calls prog 19 #[bR (c::r),.int .i64 m] w fun e w'=>e= .returned (pzT (rdP m (c::r)))∧Za0 w w':=by
 have T0:=Zh ZdL Zgd;have hlu:(c::r).length≤10000:=by exact hl
 have eP:rdP m (c::r)=if (c::r)=[110,97,110] then (9221120237041090560,0,0) else if (c::r)=[105,110,102] then (if false=true then 18442240474082181120 else 9218868437227405312,0,0) else rdQ m false (rdB (c::r)).1 (rdB (c::r)).2:=by
  unfold rdP;rw[if_neg (by omega),hs]
 rw[eP];by_cases h1:(c::r)=[110,97,110]
 ·rw[if_pos h1];exact Ze T0 (Z8f c r m) (Za (Za4 (Xa h1)) lS) (by rfl) (by rfl) w
 rw[if_neg h1];by_cases h2:(c::r)=[105,110,102]
 ·rw[if_pos h2];exact Ze T0 (Z8g c r m) (Za (Za4 (Xa h2)) (Za (Za4 (Xb h1)) lS)) (by rfl) (by rfl) w
 rw[if_neg h2];have lB:=Zj8 h1 h2 lS;by_cases hq:1<(c::r).length
 ·have lq:=Za (show decide ((((c::r).length:Nat):Int)>1)=true from Xa (by omega)) lB;have lp:(lPt (c::r) 2).1=true:=Xa ⟨by omega,by omega⟩;have lq:=Za lp lq;by_cases h16:(c::r).take 2=[48,120]
  ·have eB:rdB (c::r)=(16,(c::r).drop 2):=by unfold rdB;rw[if_pos ⟨hq,h16⟩]
   rw[eB];dsimp only;have hv:((c::r).drop 2).length≤10000:=by rw[List.length_drop];omega
   have lX:=Za lp (Za (Za4 (Xa h16)) lq);cases hk:(scA 16 ((c::r).drop 2)).2 with
   | false=>
    have e:rdQ m false 16 ((c::r).drop 2)=(0,0,3):=by unfold rdQ;rw[if_pos hk]
    rw[e];exact Ze T0 (Z3E c r m) (Zap hk (.inr rfl) hv lX) (by rfl) (by rfl) w
   | true=>
    have lY:=Zap hk (.inr rfl) hv lX;by_cases hz:trZ (sc1 16 false ((c::r).drop 2)).1=[]
    ·have e:rdQ m false 16 ((c::r).drop 2)=(0,0,0):=by unfold rdQ;rw[if_neg (by rw[hk];decide),if_pos hz];rfl
     rw[e];exact Ze T0 (Z3F c r m) (ZcN hz (.inr rfl) hv lY) (by rfl) (by rfl) w
    ·have e:rdQ m false 16 ((c::r).drop 2)=(sS false (rnP m false (dnA 16 (trZ (dgs 16 ((c::r).drop 2))) (bhd 16 ((c::r).drop 2)) (scA 16 ((c::r).drop 2)).1).1 (dnA 16 (trZ (dgs 16 ((c::r).drop 2))) (bhd 16 ((c::r).drop 2)) (scA 16 ((c::r).drop 2)).1).2),rnF m false (dnA 16 (trZ (dgs 16 ((c::r).drop 2))) (bhd 16 ((c::r).drop 2)) (scA 16 ((c::r).drop 2)).1).1 (dnA 16 (trZ (dgs 16 ((c::r).drop 2))) (bhd 16 ((c::r).drop 2)) (scA 16 ((c::r).drop 2)).1).2,0):=by unfold rdQ;rw[if_neg (by rw[hk];decide),if_neg hz];rfl
     rw[e];exact Ze T0 (Z3G c r m _ _) (ZcO hz (.inr rfl) hv lY) (by rfl) (by rfl) w
  ·have eB:rdB (c::r)=(10,(c::r)):=by unfold rdB;rw[if_neg (fun h=>h16 h.2)]
   rw[eB];dsimp only;have hv:=hlu;have lX:=Za (Za4 (Xb h16)) lq;cases hk:(scA 10 (c::r)).2 with
   | false=>
    have e:rdQ m false 10 (c::r)=(0,0,3):=by unfold rdQ;rw[if_pos hk]
    rw[e];exact Ze T0 (Z3H c r m) (Zap hk (.inl rfl) hv lX) (by rfl) (by rfl) w
   | true=>
    have lY:=Zap hk (.inl rfl) hv lX;by_cases hz:trZ (sc1 10 false (c::r)).1=[]
    ·have e:rdQ m false 10 (c::r)=(0,0,0):=by unfold rdQ;rw[if_neg (by rw[hk];decide),if_pos hz];rfl
     rw[e];exact Ze T0 (Z3I c r m) (ZcN hz (.inl rfl) hv lY) (by rfl) (by rfl) w
    ·have e:rdQ m false 10 (c::r)=(sS false (rnP m false (dnA 10 (trZ (dgs 10 (c::r))) (bhd 10 (c::r)) (scA 10 (c::r)).1).1 (dnA 10 (trZ (dgs 10 (c::r))) (bhd 10 (c::r)) (scA 10 (c::r)).1).2),rnF m false (dnA 10 (trZ (dgs 10 (c::r))) (bhd 10 (c::r)) (scA 10 (c::r)).1).1 (dnA 10 (trZ (dgs 10 (c::r))) (bhd 10 (c::r)) (scA 10 (c::r)).1).2,0):=by unfold rdQ;rw[if_neg (by rw[hk];decide),if_neg hz];rfl
     rw[e];exact Ze T0 (Z3J c r m _ _) (ZcO hz (.inl rfl) hv lY) (by rfl) (by rfl) w
 ·have eB:rdB (c::r)=(10,(c::r)):=by unfold rdB;rw[if_neg (fun h=>hq h.1)]
  rw[eB];dsimp only;have hv:=hlu;have lX:=Za (show decide ((((c::r).length:Nat):Int)>1)=false from Xb (by omega)) lB;cases hk:(scA 10 (c::r)).2 with
  | false=>
   have e:rdQ m false 10 (c::r)=(0,0,3):=by unfold rdQ;rw[if_pos hk]
   rw[e];exact Ze T0 (Z3K c r m) (Zap hk (.inl rfl) hv lX) (by rfl) (by rfl) w
  | true=>
   have lY:=Zap hk (.inl rfl) hv lX;by_cases hz:trZ (sc1 10 false (c::r)).1=[]
   ·have e:rdQ m false 10 (c::r)=(0,0,0):=by unfold rdQ;rw[if_neg (by rw[hk];decide),if_pos hz];rfl
    rw[e];exact Ze T0 (Z3L c r m) (ZcN hz (.inl rfl) hv lY) (by rfl) (by rfl) w
   ·have e:rdQ m false 10 (c::r)=(sS false (rnP m false (dnA 10 (trZ (dgs 10 (c::r))) (bhd 10 (c::r)) (scA 10 (c::r)).1).1 (dnA 10 (trZ (dgs 10 (c::r))) (bhd 10 (c::r)) (scA 10 (c::r)).1).2),rnF m false (dnA 10 (trZ (dgs 10 (c::r))) (bhd 10 (c::r)) (scA 10 (c::r)).1).1 (dnA 10 (trZ (dgs 10 (c::r))) (bhd 10 (c::r)) (scA 10 (c::r)).1).2,0):=by unfold rdQ;rw[if_neg (by rw[hk];decide),if_neg hz];rfl
    rw[e];exact Ze T0 (Z3M c r m _ _) (ZcO hz (.inl rfl) hv lY) (by rfl) (by rfl) w
theorem Zs9 (l:List UInt8) (m:Int) (h:l.length≤10000∨65536<l.length) (w:World):Calls prog 19 #[bR l,.int .i64 m] w fun e w'=>e= .returned (pzT (rdP m l))∧Za0 w w':=by
 have T0:=Zh ZdL Zgd;by_cases hl:65536<l.length
 ·have e:rdP m l=(0,0,2):=by unfold rdP;rw[if_pos hl]
  rw[e];exact Ze T0 (Z9J l m) (Z5 (Xa (by omega))) (by rfl) (by rfl) w
 have hl:l.length≤10000:=by omega
 cases l with
 | nil=>
  have e:rdP m []=(0,0,3):=by
   unfold rdP;rw[if_neg (by decide),if_neg (by decide),if_neg (by decide)];rfl
  rw[e];exact Ze T0 (Z9K m) (Zap rfl (.inl rfl) (by decide) (Za rfl (Zj8 (by decide) (by decide) (Za rfl (Za rfl (Z5 rfl)))))) (by rfl) (by rfl) w
 | cons c r=>
  have x0:=Z3N c r;have n0:=Z3O c r;have n6:(lN1 (c::r) 65536 false).1=false:=Xb (by omega);have p1:(lPt (c::r) 1).1=true:=Xa ⟨by omega,by rw[List.length_cons];omega⟩;by_cases h45:lq8 c=45
  ·have c1:(lCh c 45 true).1=true:=za h45;exact Z9L c r m hl (by unfold sgT;dsimp only;rw[if_pos h45]) (Za p1 (Za c1 (Za x0 (Za n0 (Za c1 (Za x0 (Za n0 (Z5 n6)))))))) w
  have c1:(lCh c 45 false).1=false:=ZR h45;by_cases h43:lq8 c=43
  ·have c2:(lCh c 43 true).1=true:=za h43;exact Z9M c r m hl (by unfold sgT;dsimp only;rw[if_neg h45,if_pos h43]) (Za p1 (Za c2 (Za x0 (Za c1 (Za x0 (Za n0 (Za c1 (Za x0 (Za n0 (Z5 n6)))))))))) w
  ·have c2:(lCh c 43 false).1=false:=ZR h43;exact Z9N c r m hl (by unfold sgT;dsimp only;rw[if_neg h45,if_neg h43]) (Za c2 (Za x0 (Za c1 (Za x0 (Za n0 (Za c1 (Za x0 (Za n0 (Z5 n6))))))))) w
def gRP:Ans:=fun vals s=>
 match vals with
 | [.string ⟨⟨l⟩⟩,.int .i64 m]=>some (pzT (rdP m l),s,[(decide (l.length≤10000∨65536<l.length),true)])
 | _=>none
theorem Z3P:zT 19 gRP:=by
 intro vals s v s' lg h hl w;unfold gRP at h;split at h
 ·cases h;exact Zs9 _ _ (Xc (hl _ Xf)) w
 ·cases h
end Go.Proofs.YtgefjidphfdhdaaGreatDoor
namespace Go.Proofs.YtgefjidphfdhdaaGreatDoor
open Go.Proofs.Tryz
open Go.IntKind
open Go.KRun Go.Nt Go.Wd Go.Rn Go.Rd Go.Pt
set_option maxRecDepth 100000
set_option linter.unusedVariables false
def z7:Con:=alt 19 gRP Zs3
theorem ZsA:ConOk z7:=ZM func19 rfl Z3P ZfY
theorem Za9:TabOk (Zk prog Zf z7 Zby):=Zh ZsA Zy6
def cK (c:Code):Nat→Code
 | 0=>c
 | n+1=>Z0 (cK c n)
def soL (F:Func):Code:=cIn (cIn (Z0 (sP F 6)))
def soB (F:Func):Code:=cIn (Z2 (Z0 (soL F)))
def soP (F:Func) (k:Nat):Code:=Z2 (cK (soB F) k)
def so0 (F:Func):List Code:=[sP F 0,sP F 1,sP F 2,sP F 3,sP F 4]
theorem Zy7:f10.body=some (ZW (so0 f10) (ZW [sP f10 5] (.seq (.seq (Z2 (sP f10 6)) (.block 0 (.loop (soL f10)))) (sK f10 7)))):=by kernel_rfl
theorem ZoZ:soL f10= .seq (Z2 (soL f10)) (.seq (.block 1 (ZW [soP f10 0,soP f10 1] (ZW [soP f10 2,soP f10 3,soP f10 4,soP f10 5] (cK (soB f10) 6)))) (Z0 (Z0 (soL f10)))):=by kernel_rfl
def soX (b:Bool) (E:Int) (S:Nat) (L:List Nat):Hp:=⟨2+L.length,(L.map w16).reverse++[bOf b E (sOf 0 S),w16 S]⟩
def soF (p:Int) (b:Bool) (f n:Value):List Value:=[.int .u64 p,undef,bR [],.bool b,.pointer (some ⟨1,0,none⟩),f,n]
def soN (p:Int) (b:Bool) (f n:Int):List Value:=soF p b (.int .i64 f) (.int .i64 n)
def soQ (p:Int) (b:Bool) (f n:Int) (a c q r:Value):List Value:=[.int .u64 p,undef,bR [],.bool b,.pointer (some ⟨1,0,none⟩),.int .i64 f,.int .i64 n,a,c,q,r]
def soT (p:Int) (b:Bool) (f n:Int) (a c q r s t lo hi:Value):List Value:=[.int .u64 p,undef,bR [],.bool b,.pointer (some ⟨1,0,none⟩),.int .i64 f,.int .i64 n,a,c,q,r,s,t,lo,hi]
theorem Z9O (p:Int) (b:Bool):Zg (evL (Zk prog Zf z7 Zby) 300 (so0 f10) ([.int .u64 p]++List.replicate 110 undef,⟨0,[]⟩,[num 0,cmp b,cmp false,cmp false,cmp b]) ⟨[],[],[]⟩) 7 104 none (soF p b undef undef) (xH b (xp p) (sg p).toNat) [(sgn p,b),(decide (U p),true),(p.tmod 9223372036854775808==0,false),(decide ((9223372036854775808:Int)=0),false),(decide (p≥9223372036854775808),b),(decide (spK p=0),true),(decide (U p),true)]:=by and_intros<;>kernel_rfl
theorem Z9P (p E:Int) (b:Bool) (S:Nat) (g:Nat→Value):Zg (evL (Zk prog Zf z7 Zby) 300 [sP f10 5] (soF p b undef undef++tl 104 g,xH b E S,[num S]) ⟨[],[],[]⟩) 7 104 none (soF p b (.int .i64 (frS S E)) undef) (xH b E S) [(Z4w (xH b E S) (Z7 0) (d16 S).length (d16 S).length S E,true)]:=by and_intros<;>kernel_rfl
theorem Z9Q (p f:Int) (b:Bool) (h:Hp) (g:Nat→Value):Zg (evC (Zk prog Zf z7 Zby) 300 false (Z2 (sP f10 6)) (soF p b (.int .i64 f) undef++tl 104 g,h,[]) ⟨[],[],[]⟩) 7 104 none (soN p b f 1) h []:=by and_intros<;>kernel_rfl
theorem Z9R (p f n:Int) (b:Bool) (h:Hp) (g:Nat→Value):Zg (evC (Zk prog Zf z7 Zby) 300 false (Z2 (soL f10)) (soN p b f n++tl 104 g,h,[cmp true]) ⟨[],[],[]⟩) 7 104 none (soN p b f n) h [(decide (n≤17),true)]:=by and_intros<;>kernel_rfl
theorem Z9S (p f n:Int) (b:Bool) (h:Hp) (g:Nat→Value):Zg (evC (Zk prog Zf z7 Zby) 300 false (Z2 (soL f10)) (soN p b f n++tl 104 g,h,[cmp false]) ⟨[],[],[]⟩) 7 104 (some (some 0)) (soN p b f n) h [(decide (n≤17),false)]:=by and_intros<;>kernel_rfl
theorem Z9T (p f n:Int) (b:Bool) (h:Hp) (g:Nat→Value):Zg (evC (Zk prog Zf z7 Zby) 300 false (Z0 (Z0 (soL f10))) (soN p b f n++tl 104 g,h,[]) ⟨[],[],[]⟩) 7 104 none (soN p b f (i64.wrap (n+1))) h []:=by and_intros<;>kernel_rfl
theorem Z9U (p f n:Int) (b:Bool) (h:Hp) (g:Nat→Value):Zg (evC (Zk prog Zf z7 Zby) 300 false (sK f10 7) (soN p b f n++tl 104 g,h,[]) ⟨[],[],[]⟩) 3 108 (some none) [.int .u64 p,undef,bR []] h []:=by and_intros<;>kernel_rfl
theorem Z8h (p n E f:Int) (b:Bool) (S A B V Q R:Nat) (g:Nat→Value):Zg (evL (Zk prog Zf z7 Zby) 300 [soP f10 0,soP f10 1] (soN p b f n++tl 104 g,xH b E S,[cmp true,cmp true,num A,cmp true,cmp true,num B,num V,num Q,num R]) ⟨[],[],[]⟩) 11 100 none (soQ p b f n (s16 6 V) (s16 3 1) (s16 7 Q) (s16 8 R)) (xM b E S [1,A,B,V,Q,R]) (Z84 b E (dgK n f) E (dgK n f) S A B V Q R):=by and_intros<;>kernel_rfl
theorem Z8i (p n E f:Int) (b:Bool) (S A B V Q R:Nat) (g:Nat→Value):Zg (evL (Zk prog Zf z7 Zby) 300 [soP f10 0,soP f10 1] (soN p b f n++tl 104 g,xH b E S,[cmp true,cmp true,num A,cmp false,cmp true,num B,num V,num Q,num R]) ⟨[],[],[]⟩) 11 100 none (soQ p b f n (s16 4 A) (s16 6 V) (s16 7 Q) (s16 8 R)) (xM b E S [1,A,B,V,Q,R]) (Z85 b E (dgK n f) E (i64.wrap (0-dgK n f)) S A B V Q R):=by and_intros<;>kernel_rfl
theorem Z8j (p n E f:Int) (b:Bool) (S A B V Q R:Nat) (g:Nat→Value):Zg (evL (Zk prog Zf z7 Zby) 300 [soP f10 0,soP f10 1] (soN p b f n++tl 104 g,xH b E S,[cmp false,cmp true,num A,cmp true,cmp true,num B,num V,num Q,num R]) ⟨[],[],[]⟩) 11 100 none (soQ p b f n (s16 6 V) (s16 4 A) (s16 7 Q) (s16 8 R)) (xM b E S [1,A,B,V,Q,R]) (Z86 b E (dgK n f) (i64.wrap (0-E)) (dgK n f) S A B V Q R):=by and_intros<;>kernel_rfl
theorem Z8k (p n E f:Int) (b:Bool) (S A B V Q R:Nat) (g:Nat→Value):Zg (evL (Zk prog Zf z7 Zby) 300 [soP f10 0,soP f10 1] (soN p b f n++tl 104 g,xH b E S,[cmp false,cmp true,num A,cmp false,cmp true,num B,num V,num Q,num R]) ⟨[],[],[]⟩) 11 100 none (soQ p b f n (s16 0 S) (s16 6 V) (s16 7 Q) (s16 8 R)) (xM b E S [1,A,B,V,Q,R]) (Z87 b E (dgK n f) (i64.wrap (0-E)) (i64.wrap (0-dgK n f)) S A B V Q R):=by and_intros<;>kernel_rfl
def lTw (b:Bool) (E f:Int) (S B Q R V:Nat) (c h:UInt8) (r t:List UInt8):Log:=[(decide (t.length≤100000∧f.natAbs≤2000000),true),(decide (r.length≤100000∧f.natAbs≤2000000),true),(zx (soX b E S [B,Q,R,1,V]) (Z7 6) (d16 V).length (d16 V).length && ZcQ (Zm (soX b E S [B,Q,R,1,V]) (Z7 6) (d16 V).length) && Nat.blt (d16 V).length 1073741824,true),(decide (ZaW (vO (soX b E S [B,Q,R,1,V]) (Z7 6) (d16 V).length)=h::t),true),(decide (vO (soX b E S [B,Q,R,1]) (Z7 3) (d16 Q).length+vO (soX b E S [B,Q,R,1]) (Z7 5) (d16 1).length=V),true),(ZL (soX b E S [B,Q,R,1]) (Z7 3) (Z7 5) (d16 Q).length (d16 Q).length (d16 1).length (d16 1).length,true),(decide (0<(d16 Q).length∨0<(d16 1).length),true),(decide ((0:Int)≤1∧(1:Int)<18446744073709551616),true),(zx (soX b E S [B,Q,R]) (Z7 3) (d16 Q).length (d16 Q).length && ZcQ (Zm (soX b E S [B,Q,R]) (Z7 3) (d16 Q).length) && Nat.blt (d16 Q).length 1073741824,true),(decide (ZaW (vO (soX b E S [B,Q,R]) (Z7 3) (d16 Q).length)=c::r),true)]
theorem Z8l (p E f:Int) (b:Bool) (S B Q R V N:Nat) (a:Value) (c h:UInt8) (r t:List UInt8) (g:Nat→Value):Zg (evL (Zk prog Zf z7 Zby) 300 [soP f10 2,soP f10 3,soP f10 4,soP f10 5] (soQ p b f ((N+1:Nat):Int) a (s16 2 B) (s16 3 Q) (s16 4 R)++tl 100 g,(soX b E S [B,Q,R]),[val (bR (c::r)),cmp true,num V,val (bR (h::t)),cmp true,sam true]) ⟨[],[],[]⟩) 15 96 none (soT p b f ((N+1:Nat):Int) a (s16 2 B) (s16 3 Q) (s16 4 R) (bR (c::r)) (bR (h::t)) (bR (txL b (c::r) f)) (bR (txL b (h::t.take N) (i64.wrap (f+1))))) (soX b E S [B,Q,R,1,V]) ((decide ((t.take N).length≤100000∧(i64.wrap (f+1)).natAbs≤2000000),true)::(decide ((0:Int)≤((N+1:Nat):Int)∧((N+1:Nat):Int)≤(((h::t).length:Nat):Int)),true)::(decide ((((h::t).length:Nat):Int)>((N+1:Nat):Int)),true)::lTw b E f S B Q R V c h r t):=by and_intros<;>kernel_rfl
theorem Z8m (p E f:Int) (b:Bool) (S B Q R V N:Nat) (a:Value) (c h:UInt8) (r t:List UInt8) (g:Nat→Value):Zg (evL (Zk prog Zf z7 Zby) 300 [soP f10 2,soP f10 3,soP f10 4,soP f10 5] (soQ p b f ((N+1:Nat):Int) a (s16 2 B) (s16 3 Q) (s16 4 R)++tl 100 g,(soX b E S [B,Q,R]),[val (bR (c::r)),cmp true,num V,val (bR (h::t)),cmp false]) ⟨[],[],[]⟩) 15 96 none (soT p b f ((N+1:Nat):Int) a (s16 2 B) (s16 3 Q) (s16 4 R) (bR (c::r)) (bR (h::t)) (bR (txL b (c::r) f)) (bR (txL b (h::t) f))) (soX b E S [B,Q,R,1,V]) ((decide ((((h::t).length:Nat):Int)>((N+1:Nat):Int)),false)::lTw b E f S B Q R V c h r t):=by and_intros<;>kernel_rfl
def lRd (l:List UInt8) (d:Bool) (p:Int) (rest:Log):Log:=((rdP 0 l).1==p,d)::((rdP 0 l).2.2==0,true)::(decide (l.length≤10000∨65536<l.length),true)::rest
theorem Zy8 (p n E f K v:Int) (b:Bool) (S B Q R V:Nat) (lo hi:List UInt8) (a s t:Value) (g:Nat→Value):Zg (evC (Zk prog Zf z7 Zby) 300 false (cK (soB f10) 6) (soT p b f n a (s16 2 B) (s16 3 Q) (s16 4 R) s t (bR lo) (bR hi)++tl 96 g,(soX b E S [B,Q,R,1,V]),[cmp true,num (2*R:Nat),num K,cmp true,cmp false,cmp true,cmp false]) ⟨[],[],[]⟩) 7 104 none (soN p b f n) (soX b E S [B,Q,R,1,V,2*R]) (lRd hi false p (lRd lo false p (lC1 (soX b E S [B,Q,R,1,V]) (soX b E S [B,Q,R,1,V,2*R]) 2 4 7 B R K []))):=by and_intros<;>kernel_rfl
theorem Zy9 (p n E f K v:Int) (b:Bool) (S B Q R V:Nat) (lo hi:List UInt8) (a s t:Value) (g:Nat→Value):Zg (evC (Zk prog Zf z7 Zby) 300 false (cK (soB f10) 6) (soT p b f n a (s16 2 B) (s16 3 Q) (s16 4 R) s t (bR lo) (bR hi)++tl 96 g,(soX b E S [B,Q,R,1,V]),[cmp true,num (2*R:Nat),num K,cmp true,cmp false,cmp true,cmp true]) ⟨[],[],[]⟩) 3 108 (some none) [.int .u64 p,undef,bR hi] (soX b E S [B,Q,R,1,V,2*R]) (lRd hi true p (lRd lo false p (lC1 (soX b E S [B,Q,R,1,V]) (soX b E S [B,Q,R,1,V,2*R]) 2 4 7 B R K []))):=by and_intros<;>kernel_rfl
theorem ZyA (p n E f K v:Int) (b:Bool) (S B Q R V:Nat) (lo hi:List UInt8) (a s t:Value) (g:Nat→Value):Zg (evC (Zk prog Zf z7 Zby) 300 false (cK (soB f10) 6) (soT p b f n a (s16 2 B) (s16 3 Q) (s16 4 R) s t (bR lo) (bR hi)++tl 96 g,(soX b E S [B,Q,R,1,V]),[cmp true,num (2*R:Nat),num K,cmp true,cmp true,cmp true,cmp false]) ⟨[],[],[]⟩) 3 108 (some none) [.int .u64 p,undef,bR lo] (soX b E S [B,Q,R,1,V,2*R]) (lRd hi false p (lRd lo true p (lC1 (soX b E S [B,Q,R,1,V]) (soX b E S [B,Q,R,1,V,2*R]) 2 4 7 B R K []))):=by and_intros<;>kernel_rfl
theorem Z3Q (p n E f K v:Int) (b:Bool) (S B Q R V:Nat) (lo hi:List UInt8) (a s t:Value) (g:Nat→Value):Zg (evC (Zk prog Zf z7 Zby) 300 false (cK (soB f10) 6) (soT p b f n a (s16 2 B) (s16 3 Q) (s16 4 R) s t (bR lo) (bR hi)++tl 96 g,(soX b E S [B,Q,R,1,V]),[cmp true,num (2*R:Nat),num K,cmp true,cmp true,cmp true,cmp true,cmp true]) ⟨[],[],[]⟩) 3 108 (some none) [.int .u64 p,undef,bR lo] (soX b E S [B,Q,R,1,V,2*R]) ((decide (K<0),true)::lRd hi true p (lRd lo true p (lC1 (soX b E S [B,Q,R,1,V]) (soX b E S [B,Q,R,1,V,2*R]) 2 4 7 B R K []))):=by and_intros<;>kernel_rfl
theorem Z3R (p n E f K v:Int) (b:Bool) (S B Q R V:Nat) (lo hi:List UInt8) (a s t:Value) (g:Nat→Value):Zg (evC (Zk prog Zf z7 Zby) 300 false (cK (soB f10) 6) (soT p b f n a (s16 2 B) (s16 3 Q) (s16 4 R) s t (bR lo) (bR hi)++tl 96 g,(soX b E S [B,Q,R,1,V]),[cmp true,num (2*R:Nat),num K,cmp true,cmp true,cmp true,cmp true,cmp false,cmp false]) ⟨[],[],[]⟩) 3 108 (some none) [.int .u64 p,undef,bR hi] (soX b E S [B,Q,R,1,V,2*R]) ((K==0,false)::(decide (K<0),false)::lRd hi true p (lRd lo true p (lC1 (soX b E S [B,Q,R,1,V]) (soX b E S [B,Q,R,1,V,2*R]) 2 4 7 B R K []))):=by and_intros<;>kernel_rfl
theorem Z3S (p n E f K v:Int) (b:Bool) (S B Q R V:Nat) (lo hi:List UInt8) (a s t:Value) (g:Nat→Value):Zg (evC (Zk prog Zf z7 Zby) 300 false (cK (soB f10) 6) (soT p b f n a (s16 2 B) (s16 3 Q) (s16 4 R) s t (bR lo) (bR hi)++tl 96 g,(soX b E S [B,Q,R,1,V]),[cmp true,num (2*R:Nat),num K,cmp true,cmp true,cmp true,cmp true,cmp false,cmp true,at_,val (.int .u32 v),cmp false,cmp true]) ⟨[],[],[]⟩) 3 108 (some none) [.int .u64 p,undef,bR lo] (soX b E S [B,Q,R,1,V,2*R]) ((v.tmod 2==0,true)::(decide ((2:Int)=0),false)::(Z4 ((wU (d16 Q))[0]?) (.int .u32 v),true)::(decide ((0:Int)≤0∧(0:Int)<((d16 Q).length:Int)),true)::(K==0,true)::(decide (K<0),false)::lRd hi true p (lRd lo true p (lC1 (soX b E S [B,Q,R,1,V]) (soX b E S [B,Q,R,1,V,2*R]) 2 4 7 B R K []))):=by and_intros<;>kernel_rfl
theorem Z3T (p n E f K v:Int) (b:Bool) (S B Q R V:Nat) (lo hi:List UInt8) (a s t:Value) (g:Nat→Value):Zg (evC (Zk prog Zf z7 Zby) 300 false (cK (soB f10) 6) (soT p b f n a (s16 2 B) (s16 3 Q) (s16 4 R) s t (bR lo) (bR hi)++tl 96 g,(soX b E S [B,Q,R,1,V]),[cmp true,num (2*R:Nat),num K,cmp true,cmp true,cmp true,cmp true,cmp false,cmp true,at_,val (.int .u32 v),cmp false,cmp false]) ⟨[],[],[]⟩) 3 108 (some none) [.int .u64 p,undef,bR hi] (soX b E S [B,Q,R,1,V,2*R]) ((v.tmod 2==0,false)::(decide ((2:Int)=0),false)::(Z4 ((wU (d16 Q))[0]?) (.int .u32 v),true)::(decide ((0:Int)≤0∧(0:Int)<((d16 Q).length:Int)),true)::(K==0,true)::(decide (K<0),false)::lRd hi true p (lRd lo true p (lC1 (soX b E S [B,Q,R,1,V]) (soX b E S [B,Q,R,1,V,2*R]) 2 4 7 B R K []))):=by and_intros<;>kernel_rfl
theorem ZyB (p n E f K v:Int) (b:Bool) (S B Q R V:Nat) (lo hi:List UInt8) (a s t:Value) (g:Nat→Value):Zg (evC (Zk prog Zf z7 Zby) 300 false (cK (soB f10) 6) (soT p b f n a (s16 2 B) (s16 3 Q) (s16 4 R) s t (bR lo) (bR hi)++tl 96 g,(soX b E S [B,Q,R,1,V]),[cmp false,num K,cmp true,cmp false,cmp true,cmp false]) ⟨[],[],[]⟩) 7 104 none (soN p b f n) (soX b E S [B,Q,R,1,V]) (lRd hi false p (lRd lo false p (lC0 (soX b E S [B,Q,R,1,V]) 2 4 B R K []))):=by and_intros<;>kernel_rfl
theorem ZyC (p n E f K v:Int) (b:Bool) (S B Q R V:Nat) (lo hi:List UInt8) (a s t:Value) (g:Nat→Value):Zg (evC (Zk prog Zf z7 Zby) 300 false (cK (soB f10) 6) (soT p b f n a (s16 2 B) (s16 3 Q) (s16 4 R) s t (bR lo) (bR hi)++tl 96 g,(soX b E S [B,Q,R,1,V]),[cmp false,num K,cmp true,cmp false,cmp true,cmp true]) ⟨[],[],[]⟩) 3 108 (some none) [.int .u64 p,undef,bR hi] (soX b E S [B,Q,R,1,V]) (lRd hi true p (lRd lo false p (lC0 (soX b E S [B,Q,R,1,V]) 2 4 B R K []))):=by and_intros<;>kernel_rfl
theorem ZyD (p n E f K v:Int) (b:Bool) (S B Q R V:Nat) (lo hi:List UInt8) (a s t:Value) (g:Nat→Value):Zg (evC (Zk prog Zf z7 Zby) 300 false (cK (soB f10) 6) (soT p b f n a (s16 2 B) (s16 3 Q) (s16 4 R) s t (bR lo) (bR hi)++tl 96 g,(soX b E S [B,Q,R,1,V]),[cmp false,num K,cmp true,cmp true,cmp true,cmp false]) ⟨[],[],[]⟩) 3 108 (some none) [.int .u64 p,undef,bR lo] (soX b E S [B,Q,R,1,V]) (lRd hi false p (lRd lo true p (lC0 (soX b E S [B,Q,R,1,V]) 2 4 B R K []))):=by and_intros<;>kernel_rfl
theorem Z3U (p n E f K v:Int) (b:Bool) (S B Q R V:Nat) (lo hi:List UInt8) (a s t:Value) (g:Nat→Value):Zg (evC (Zk prog Zf z7 Zby) 300 false (cK (soB f10) 6) (soT p b f n a (s16 2 B) (s16 3 Q) (s16 4 R) s t (bR lo) (bR hi)++tl 96 g,(soX b E S [B,Q,R,1,V]),[cmp false,num K,cmp true,cmp true,cmp true,cmp true,cmp true]) ⟨[],[],[]⟩) 3 108 (some none) [.int .u64 p,undef,bR lo] (soX b E S [B,Q,R,1,V]) ((decide (K<0),true)::lRd hi true p (lRd lo true p (lC0 (soX b E S [B,Q,R,1,V]) 2 4 B R K []))):=by and_intros<;>kernel_rfl
end Go.Proofs.YtgefjidphfdhdaaGreatDoor
namespace Go.Proofs.YtgefjidphfdhdaaGreatDoor
open Go.KRun Go.Nt Go.Wd Go.Rn Go.Rd Go.Pt
set_option maxRecDepth 100000
set_option linter.unusedVariables false
theorem ZyE {E k:Int}(hE: -1074≤E) (hk: -1500≤k):∃ j,j≤7200∧pbN E k<2^j:=by
 refine⟨((-E).toNat+1)+(4*(-k).toNat+1),by omega,?_⟩;unfold pbN;exact zh (Nat.pow_lt_pow_right (by omega) (by omega)) (Zbb _)
theorem Zpa {Q n:Nat}(h0:Q≠0) (h:Q≤10^n) (hn:n≤1000):(d16 Q).length<100000∧(ZaW Q).length≤2000:=by
 constructor
 ·exact zk (i:=4*n+1) (Nat.lt_of_le_of_lt h (Zbb n)) (by omega)
 ·obtain⟨_,l2,_⟩:=ZbX h0;rcases Nat.lt_or_ge (n+1) (ZaW Q).length with c | c
  ·have:=Nat.pow_lt_pow_right (a:=10) (by omega) (show n<(ZaW Q).length-1 by omega);omega
  ·omega
end Go.Proofs.YtgefjidphfdhdaaGreatDoor
namespace Go.Proofs.YtgefjidphfdhdaaGreatDoor
open Go.KRun Go.Nt Go.Rd Go.Pt
set_option maxRecDepth 100000
theorem Zge (b:Bool) (s:List UInt8) (e:Int):(txL b s e).length≤s.length+24:=by
 rw[← Z3f,List.length_append,List.length_append,List.length_append];have l1:=ZhY b;have l2:=ZoS s;have l3:=ZdF e;have l4:([101]:List UInt8).length=1:=rfl;omega
theorem ZsB (b:Bool) (n q:Nat) (f:Int):(hiX b n q f).length≤n+24:=by
 unfold hiX;split
 ·exact Nat.le_trans (Zge _ _ _) (Nat.add_le_add_right (ZdE _ _) 24)
 ·exact Nat.le_trans (Zge _ _ _) (Nat.add_le_add_right (ZdE _ _) 24)
structure Oth14 (P q:Int):Prop where
 ex:ex P=ex q
 fr:fr P=fr q
 mag:mag P=mag q
 sg:sg P=sg q
 xp:xp P=xp q
 cl:cl P=cl q
 s1:sgn P=true
 s0:sgn q=false
end Go.Proofs.YtgefjidphfdhdaaGreatDoor
namespace Go.Proofs.YtgefjidphfdhdaaGreatDoor
open Go.Proofs.Tryz
open Go.IntKind
open Go.KRun Go.Nt Go.Wd Go.Rn Go.Rd Go.Pt
set_option maxRecDepth 100000
set_option linter.unusedVariables false
def soC (p:Int) (b:Bool) (f n E:Int) (S:Nat) (lo hi:List UInt8) (kk dh:Bool) (e:Ex) (z:Lf):Prop:=
 if kk=true then e=some none∧∃ t,z.1=[.int .u64 p,undef,bR lo]++t else if dh=true then e=some none∧∃ t,z.1=[.int .u64 p,undef,bR hi]++t else e=none∧(∃ g,z.1=soN p b f n++tl 104 g)∧z.2.1.blk? 0=some (w16 S)∧z.2.1.blk? 1=some (bOf b E (sOf 0 S))
section
variable {p f n E : Int} {b : Bool} {S B Q R V : Nat} {lo hi : List UInt8} {c : Code} {x : Lf} {kk dh : Bool} {H : Hp}
theorem Zpb (hr:RunsW (Zk prog Zf z7 Zby) c x fun e z=>e=some none∧(∃ g,z.1=[.int .u64 p,undef,bR lo]++tl 108 g)∧z.2.1=H) (hk:kk=true):RunsW (Zk prog Zf z7 Zby) c x (soC p b f n E S lo hi kk dh):=hr.mono fun e z ⟨he,⟨g,h1⟩,_⟩=>by
 unfold soC;rw[if_pos hk];exact⟨he,_,h1⟩
theorem ZsC (hr:RunsW (Zk prog Zf z7 Zby) c x fun e z=>e=some none∧(∃ g,z.1=[.int .u64 p,undef,bR hi]++tl 108 g)∧z.2.1=H) (hk:kk=false) (hd:dh=true):RunsW (Zk prog Zf z7 Zby) c x (soC p b f n E S lo hi kk dh):=hr.mono fun e z ⟨he,⟨g,h1⟩,_⟩=>by
 unfold soC;rw[if_neg (by rw[hk];decide),if_pos hd];exact⟨he,_,h1⟩
theorem Z3V (hr:RunsW (Zk prog Zf z7 Zby) c x fun e z=>e=none∧(∃ g,z.1=soN p b f n++tl 104 g)∧z.2.1=H) (hk:kk=false) (hd:dh=false) (h0:H.blk? 0=some (w16 S)) (h1:H.blk? 1=some (bOf b E (sOf 0 S))):RunsW (Zk prog Zf z7 Zby) c x (soC p b f n E S lo hi kk dh):=hr.mono fun e z ⟨he,hg,hh⟩=>by
 unfold soC;rw[if_neg (by rw[hk];decide),if_neg (by rw[hd];decide),hh];exact⟨he,hg,h0,h1⟩
theorem ZtP {l:List UInt8}{d:Bool}{rest:Log}(h1:((rdP 0 l).1==p)=d) (h2:(rdP 0 l).2.2=0) (h3:l.length≤10000) (hr:Zx rest):Zx (lRd l d p rest):=Za h1 (Za (za h2) (Za (Xa (.inl h3)) hr))
theorem Zj9 {a b:Nat}:decide (zY a b<0)=decide (a<b):=decide_eq_decide.2 (Zid a b).1
theorem ZyF {a s t:Value}{g:Nat→Value}{sc:List Dec}{dl dh:Bool}(lB:(d16 B).length<100000) (lR:(d16 R).length<100000) (l2:(d16 (2*R)).length<100000) (hQ:Q≠0) (hB:0<B) (a1:((rdP 0 lo).1==p)=dl) (a2:(rdP 0 lo).2.2=0) (a3:lo.length≤10000) (b1:((rdP 0 hi).1==p)=dh) (b2:(rdP 0 hi).2.2=0) (b3:hi.length≤10000):
  RunsW (Zk prog Zf z7 Zby) (cK (soB f10) 6) (soT p b f n a (s16 2 B) (s16 3 Q) (s16 4 R) s t (bR lo) (bR hi)++tl 96 g,soX b E S [B,Q,R,1,V],sc) (soC p b f n E S lo hi (dl && (!dh || decide (2*R<B) || (decide (2*R=B) && decide (Q % 2=0)))) dh):=by
 have eQ:∀ d,decide (Q % 2=0)=d→(((Q % 65536:Nat):Int).tmod 2==0)=d:=by
  intro d hd;have:((Q % 65536:Nat):Int).tmod 2=((Q % 2:Nat):Int):=by
   rw[Int.tmod_eq_emod_of_nonneg (Int.natCast_nonneg _)];omega
  rw[this,← hd];rcases Nat.mod_two_eq_zero_or_one Q with h | h<;>rw[h]<;>rfl
 have lQ:((d16 Q).length:Int)>0:=by have:=Zey.2 (Nat.pos_of_ne_zero hQ);omega
 have rd:∀ {rest:Log},Zx rest→Zx (lRd hi dh p (lRd lo dl p rest)):=fun hr=>ZtP b1 b2 b3 (ZtP a1 a2 a3 hr);rcases Nat.eq_zero_or_pos R with hR | hR
 ·subst hR;have hc:zY 0 B= -1:=by unfold zY;rw[if_pos hB]
  have k0:Zx (lC0 (soX b E S [B,Q,0,1,V]) 2 4 B 0 (zY 0 B) []):=Z9H rfl rfl lB (fun x hx=>by cases hx);rw[hc] at k0;have k1:=rd k0;have cc:decide (2*0<B)=true:=Xa (by omega);rw[cc];cases dl<;>cases dh
  ·exact Z3V (Zb Za9 (ZyB p n E f (-1) 0 b S B Q 0 V lo hi a s t g) k1) rfl rfl rfl rfl
  ·exact ZsC (Zb Za9 (ZyC p n E f (-1) 0 b S B Q 0 V lo hi a s t g) k1) rfl rfl
  ·exact Zpb (Zb Za9 (ZyD p n E f (-1) 0 b S B Q 0 V lo hi a s t g) k1) rfl
  ·exact Zpb (Zb Za9 (Z3U p n E f (-1) 0 b S B Q 0 V lo hi a s t g) (Za (by decide) k1)) rfl
 ·have k0:Zx (lC1 (soX b E S [B,Q,R,1,V]) (soX b E S [B,Q,R,1,V,2*R]) 2 4 7 B R (zY (2*R) B) []):=Z9G rfl rfl rfl lB lR l2 hR (fun x hx=>by cases hx);have k1:=rd k0;cases dl<;>cases dh
  ·exact Z3V (Zb Za9 (Zy8 p n E f (zY (2*R) B) 0 b S B Q R V lo hi a s t g) k1) rfl rfl rfl rfl
  ·exact ZsC (Zb Za9 (Zy9 p n E f (zY (2*R) B) 0 b S B Q R V lo hi a s t g) k1) rfl rfl
  ·exact Zpb (Zb Za9 (ZyA p n E f (zY (2*R) B) 0 b S B Q R V lo hi a s t g) k1) rfl
  ·by_cases c1:2*R<B
   ·exact Zpb (Zb Za9 (Z3Q p n E f (zY (2*R) B) 0 b S B Q R V lo hi a s t g) (Za (by rw[Zj9];exact Xa c1) k1)) (by rw[Xa c1];rfl)
   have n1:decide (zY (2*R) B<0)=false:=by rw[Zj9];exact Xb c1
   by_cases c2:2*R=B
   ·have k2:=Za (Z3t hQ) (Za (show decide ((0:Int)≤0∧(0:Int)<((d16 Q).length:Int))=true from Xa ⟨by omega,lQ⟩) (Za (show (zY (2*R) B==0)=true by rw[Zcp];exact Xa c2) (Za n1 k1)));by_cases c3:Q % 2=0
    ·exact Zpb (Zb Za9 (Z3S p n E f (zY (2*R) B) ((Q % 65536:Nat):Int) b S B Q R V lo hi a s t g) (Za (eQ true (Xa c3)) (Za (by decide) k2))) (by rw[Xb c1,Xa c2,Xa c3];rfl)
    ·exact ZsC (Zb Za9 (Z3T p n E f (zY (2*R) B) ((Q % 65536:Nat):Int) b S B Q R V lo hi a s t g) (Za (eQ false (Xb c3)) (Za (by decide) k2))) (by rw[Xb c1,Xb c3,Bool.and_false];rfl) rfl
   ·exact ZsC (Zb Za9 (Z3R p n E f (zY (2*R) B) 0 b S B Q R V lo hi a s t g) (Za (by rw[Zcp];exact Xb c2) (Za n1 k1))) (by rw[Xb c1,Xb c2];rfl) rfl
end
theorem Z88 {p:Int}(hp:U p) {A:Nat}(hA:A≠0) (j:Int):((rdN 0 (sgn p) A j).1==p)=decide (deP 0 (sgn p) A j=mag p):=by
 unfold rdN;rw[if_neg hA];cases hs:sgn p with
 | true=>
  have h1:=Xc hs;rw[if_pos rfl];have:p=9223372036854775808+mag p:=by unfold U at hp;unfold mag;omega
  show decide (9223372036854775808+deP 0 true A j=p)=_;exact decide_eq_decide.2 ⟨fun h=>by omega,fun h=>by omega⟩
 | false=>
  have h1:=of_decide_eq_false hs;rw[if_neg (by decide)];have:p=mag p:=by unfold U at hp;unfold mag;omega
  show decide (deP 0 false A j=p)=_;rw[← this]
theorem Z3W {p f E:Int}{S B Q R N j:Nat}{a:Value}{g:Nat→Value}{s:List Dec}(hp:U p) (hN:N≤16) (hf: -324≤f∧f≤400) (q1:10^(N+1-1)≤Q) (q2:Q<10^(N+1)) (hB:0<B) (hRB:R<B) (hj:j≤7200) (hBj:B<2^j):
  RunsW (Zk prog Zf z7 Zby) (ZW [soP f10 2,soP f10 3,soP f10 4,soP f10 5] (cK (soB f10) 6)) (soQ p (sgn p) f ((N+1:Nat):Int) a (s16 2 B) (s16 3 Q) (s16 4 R)++tl 100 g,soX (sgn p) E S [B,Q,R],s)
   (soC p (sgn p) f ((N+1:Nat):Int) E S (txL (sgn p) (Zba (N+1) Q) f) (hiX (sgn p) (N+1) Q f) (decide (deP 0 (sgn p) Q (f-(((N+1:Nat):Int)-1))=mag p) && (!decide (deP 0 (sgn p) (Q+1) (f-(((N+1:Nat):Int)-1))=mag p) || decide (2*R<B) || (decide (2*R=B) && decide (Q % 2=0)))) (decide (deP 0 (sgn p) (Q+1) (f-(((N+1:Nat):Int)-1))=mag p))):=by
 have p10:0<10^(N+1-1):=Nat.pow_pos (by omega);have lB:=zk hBj (by omega);have lR:=zk (Nat.lt_trans hRB hBj) (by omega);have l2:(d16 (2*R)).length<100000:=zk (i:=j+1) (by rw[Nat.pow_succ];omega) (by omega);obtain⟨V,hV⟩:∃ V,V=Q+1:=⟨_,rfl⟩;obtain⟨u1,u2⟩:=Zpa (show Q≠0 by omega) (show Q≤10^(N+1) by omega) (by omega);obtain⟨u3,u4⟩:=Zpa (show V≠0 by omega) (show V≤10^(N+1) by omega) (by omega);obtain⟨d1,d2⟩:=ZfZ (n:=N+1) (by omega) q1 q2;have ew:i64.wrap (f+1)=f+1:=Zw (by omega) (by omega);have t1:=ZhR 0 (sgn p) (n:=N+1) (by omega) (by omega) q1 q2 (e:=f) (by omega);have t2:=Zwj 0 (sgn p) (n:=N+1) (by omega) (by omega) q1 q2 (f:=f) (by omega);have e1:∀ g s' a s t,RunsW (Zk prog Zf z7 Zby) (cK (soB f10) 6) (soT p (sgn p) f ((N+1:Nat):Int) a (s16 2 B) (s16 3 Q) (s16 4 R) s t (bR (txL (sgn p) (Zba (N+1) Q) f)) (bR (hiX (sgn p) (N+1) Q f))++tl 96 g,soX (sgn p) E S [B,Q,R,1,V],s') _:=fun g s' a s t=>ZyF (p:=p) (f:=f) (n:=((N+1:Nat):Int)) (E:=E) (b:=sgn p) (S:=S) (V:=V) (dl:=decide (deP 0 (sgn p) Q (f-(((N+1:Nat):Int)-1))=mag p)) (dh:=decide (deP 0 (sgn p) (Q+1) (f-(((N+1:Nat):Int)-1))=mag p)) lB lR l2 (by omega) hB (by rw[t1];exact Z88 hp (by omega) _) (by rw[t1];exact Znz _ _ _ _) (by have:=Zge (sgn p) (Zba (N+1) Q) f;rw[← d1,d2] at this;rw[← d1];omega) (by rw[t2];exact Z88 hp (by omega) _) (by rw[t2];exact Znz _ _ _ _) (by have:=ZsB (sgn p) (N+1) Q f;omega);have hd:=Zs4 (sgn p) (n:=N+1) (by omega) q1 q2 f;rw[← hV] at hd;rw[← d1,← hd] at e1 ⊢;cases ht:ZaW Q with
 | nil=>rw[ht] at d2;simp at d2
 | cons c r=>
  rw[ht] at d2 e1 u2;obtain⟨l1,_,_⟩:=ZbX (W:=V) (by omega);cases hs:ZaW V with
  | nil=>rw[hs] at l1;simp at l1
  | cons h t=>
   rw[hs] at u4;rw[List.length_cons] at u2 u4;have rV:=RowV.at (h:=soX (sgn p) E S [B,Q,R,1,V]) (b:=6) (V:=V) rfl u3;have rQ:=RowV.at (h:=soX (sgn p) E S [B,Q,R,1]) (b:=3) (V:=Q) rfl u1;have r1:=RowV.at (h:=soX (sgn p) E S [B,Q,R,1]) (b:=5) (V:=1) rfl (zk (i:=1) (by decide) (by omega));have rQ':=RowV.at (h:=soX (sgn p) E S [B,Q,R]) (b:=3) (V:=Q) rfl u1;have k0:Zx (lTw (sgn p) E f S B Q R V c h r t):=Za (Xa ⟨by omega,by omega⟩) (Za (Xa ⟨by omega,by omega⟩) (Za (Zsc (h:=soX (sgn p) E S [B,Q,R,1,V]) (b:=6) (V:=V) rfl u3) (Za (by rw[rV.vo];exact Xa hs) (Za (by rw[rQ.vo,r1.vo];exact Xa hV.symm) (Za (RowV.two rQ r1) (Za (Xa (.inl (Zey.2 (by omega)))) (Za (by decide) (Za (Zsc (h:=soX (sgn p) E S [B,Q,R]) (b:=3) (V:=Q) rfl u1) (Z5 (by rw[rQ'.vo];exact Xa ht))))))))));by_cases hl:N+1<(h::t).length
   ·have hG:=Z8l p E f (sgn p) S B Q R V N a c h r t g;have ed:dcT (sgn p) (N+1) V f=txL (sgn p) (h::t.take N) (f+1):=by
     unfold dcT;rw[hs,if_pos hl];rfl
    rw[ew,← ed] at hG;refine Zv Za9 hG (Za (Xa ⟨by rw[List.length_take];omega,by omega⟩) (Za (Xa ⟨by omega,by omega⟩) (Za (Xa (by omega)) k0))) fun g=> ?_;exact e1 g _ _ _ _
   ·have hG:=Z8m p E f (sgn p) S B Q R V N a c h r t g;have ed:dcT (sgn p) (N+1) V f=txL (sgn p) (h::t) f:=by
     unfold dcT;rw[hs,if_neg hl]
    rw[← ed] at hG;refine Zv Za9 hG (Za (Xb (by omega)) k0) fun g=> ?_;exact e1 g _ _ _ _
end Go.Proofs.YtgefjidphfdhdaaGreatDoor
