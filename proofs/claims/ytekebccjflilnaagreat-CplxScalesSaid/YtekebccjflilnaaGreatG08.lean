/-
  PrC, GnB, SuM, PrM, RunS, RunT, RunU, RunW, Hcs, ConN1, RunY, ConV1, ConV2, ConV3
-/
import Derived.Test.YtekebccjflilnaaGreatG07
import Derived.OneCell
namespace Go.Proofs.YtekebccjflilnaaGreat
open Go.Proofs.Tryz
open Go.IntKind
open Go.KRun Go.Wd Go.Pt Go.Rn
set_option maxRecDepth 100000
theorem Zwi (a b c m:Int):Zw (Ze (Zi prog Zh Zaq true) 300 19 [.int .u64 a,.int .u64 b,.int .u64 c,.int .i64 m] [cmp true]) (rdT 9221120237041090560 1) [(zh a b,true),(decide (U a∧U b),true)]:=by and_intros<;>kernel_rfl
theorem Z0n (a b c m:Int):Zw (Ze (Zi prog Zh Zaq true) 300 19 [.int .u64 a,.int .u64 b,.int .u64 c,.int .i64 m] [cmp false,cmp true,cmp true,cmp true]) (rdT 9221120237041090560 1) [(cl a==5,true),lU a,(decide ((0:Int)<((3:Nat):Int)),true),(decide (cl a>3),true),lU a,(zh a b,false),(decide (U a∧U b),true)]:=by and_intros<;>kernel_rfl
theorem Z0o (a b c m:Int):Zw (Ze (Zi prog Zh Zaq true) 300 19 [.int .u64 a,.int .u64 b,.int .u64 c,.int .i64 m] [cmp false,cmp true,cmp true,cmp false,cmp true,cmp true]) (rdT 9221120237041090560 1) [(cl b==5,true),lU b,(decide (i64.wrap (0+1)<((3:Nat):Int)),true),(cl a==5,false),lU a,(decide ((0:Int)<((3:Nat):Int)),true),(decide (cl a>3),true),lU a,(zh a b,false),(decide (U a∧U b),true)]:=by and_intros<;>kernel_rfl
theorem Z0p (a b c m:Int):Zw (Ze (Zi prog Zh Zaq true) 300 19 [.int .u64 a,.int .u64 b,.int .u64 c,.int .i64 m] [cmp false,cmp true,cmp true,cmp false,cmp true,cmp false,cmp true,cmp true]) (rdT 9221120237041090560 1) [(cl c==5,true),lU c,(decide (i64.wrap (i64.wrap (0+1)+1)<((3:Nat):Int)),true),(cl b==5,false),lU b,(decide (i64.wrap (0+1)<((3:Nat):Int)),true),(cl a==5,false),lU a,(decide ((0:Int)<((3:Nat):Int)),true),(decide (cl a>3),true),lU a,(zh a b,false),(decide (U a∧U b),true)]:=by and_intros<;>kernel_rfl
theorem Z0q (a b c m:Int):Zw (Ze (Zi prog Zh Zaq true) 300 19 [.int .u64 a,.int .u64 b,.int .u64 c,.int .i64 m] [cmp false,cmp true,cmp true,cmp false,cmp true,cmp false,cmp true,cmp false,cmp false]) (rdT 9221120237041090560 0) [(decide (i64.wrap (i64.wrap (i64.wrap (0+1)+1)+1)<((3:Nat):Int)),false),(cl c==5,false),lU c,(decide (i64.wrap (i64.wrap (0+1)+1)<((3:Nat):Int)),true),(cl b==5,false),lU b,(decide (i64.wrap (0+1)<((3:Nat):Int)),true),(cl a==5,false),lU a,(decide ((0:Int)<((3:Nat):Int)),true),(decide (cl a>3),true),lU a,(zh a b,false),(decide (U a∧U b),true)]:=by and_intros<;>kernel_rfl
theorem Z0r (a b c m:Int):Zw (Ze (Zi prog Zh Zaq true) 300 19 [.int .u64 a,.int .u64 b,.int .u64 c,.int .i64 m] [cmp false,cmp false,cmp true,cmp true,cmp false,cmp true,cmp true]) (rdT 9221120237041090560 1) [(cl b==5,true),lU b,(decide (i64.wrap (0+1)<((3:Nat):Int)),true),(cl a==5,false),lU a,(decide ((0:Int)<((3:Nat):Int)),true),(decide (cl b>3),true),lU b,(decide (cl a>3),false),lU a,(zh a b,false),(decide (U a∧U b),true)]:=by and_intros<;>kernel_rfl
theorem Z0s (a b c m:Int):Zw (Ze (Zi prog Zh Zaq true) 300 19 [.int .u64 a,.int .u64 b,.int .u64 c,.int .i64 m] [cmp false,cmp false,cmp true,cmp true,cmp false,cmp true,cmp false,cmp true,cmp true]) (rdT 9221120237041090560 1) [(cl c==5,true),lU c,(decide (i64.wrap (i64.wrap (0+1)+1)<((3:Nat):Int)),true),(cl b==5,false),lU b,(decide (i64.wrap (0+1)<((3:Nat):Int)),true),(cl a==5,false),lU a,(decide ((0:Int)<((3:Nat):Int)),true),(decide (cl b>3),true),lU b,(decide (cl a>3),false),lU a,(zh a b,false),(decide (U a∧U b),true)]:=by and_intros<;>kernel_rfl
theorem Z0t (a b c m:Int):Zw (Ze (Zi prog Zh Zaq true) 300 19 [.int .u64 a,.int .u64 b,.int .u64 c,.int .i64 m] [cmp false,cmp false,cmp true,cmp true,cmp false,cmp true,cmp false,cmp true,cmp false,cmp false]) (rdT 9221120237041090560 0) [(decide (i64.wrap (i64.wrap (i64.wrap (0+1)+1)+1)<((3:Nat):Int)),false),(cl c==5,false),lU c,(decide (i64.wrap (i64.wrap (0+1)+1)<((3:Nat):Int)),true),(cl b==5,false),lU b,(decide (i64.wrap (0+1)<((3:Nat):Int)),true),(cl a==5,false),lU a,(decide ((0:Int)<((3:Nat):Int)),true),(decide (cl b>3),true),lU b,(decide (cl a>3),false),lU a,(zh a b,false),(decide (U a∧U b),true)]:=by and_intros<;>kernel_rfl
theorem Z0u (a b c m:Int):Zw (Ze (Zi prog Zh Zaq true) 300 19 [.int .u64 a,.int .u64 b,.int .u64 c,.int .i64 m] [cmp false,cmp false,cmp false,cmp true,cmp true,cmp false,cmp true,cmp false,cmp true,cmp true]) (rdT 9221120237041090560 1) [(cl c==5,true),lU c,(decide (i64.wrap (i64.wrap (0+1)+1)<((3:Nat):Int)),true),(cl b==5,false),lU b,(decide (i64.wrap (0+1)<((3:Nat):Int)),true),(cl a==5,false),lU a,(decide ((0:Int)<((3:Nat):Int)),true),(decide (cl c>3),true),lU c,(decide (cl b>3),false),lU b,(decide (cl a>3),false),lU a,(zh a b,false),(decide (U a∧U b),true)]:=by and_intros<;>kernel_rfl
theorem Z0v (a b c m:Int):Zw (Ze (Zi prog Zh Zaq true) 300 19 [.int .u64 a,.int .u64 b,.int .u64 c,.int .i64 m] [cmp false,cmp false,cmp false,cmp true,cmp true,cmp false,cmp true,cmp false,cmp true,cmp false,cmp false]) (rdT 9221120237041090560 0) [(decide (i64.wrap (i64.wrap (i64.wrap (0+1)+1)+1)<((3:Nat):Int)),false),(cl c==5,false),lU c,(decide (i64.wrap (i64.wrap (0+1)+1)<((3:Nat):Int)),true),(cl b==5,false),lU b,(decide (i64.wrap (0+1)<((3:Nat):Int)),true),(cl a==5,false),lU a,(decide ((0:Int)<((3:Nat):Int)),true),(decide (cl c>3),true),lU c,(decide (cl b>3),false),lU b,(decide (cl a>3),false),lU a,(zh a b,false),(decide (U a∧U b),true)]:=by and_intros<;>kernel_rfl
theorem Z0w (a b c m:Int):Zw (Ze (Zi prog Zh Zaq true) 300 19 [.int .u64 a,.int .u64 b,.int .u64 c,.int .i64 m] [cmp false,cmp false,cmp false,cmp false,cmp true]) (suV m (sS (prN a b) inf) c) [(decide (U (sS (prN a b) inf)∧U c),true),(true,true),(decide (U a∧U b),true),(cl a==3,true),lU a,(decide (cl c>3),false),lU c,(decide (cl b>3),false),lU b,(decide (cl a>3),false),lU a,(zh a b,false),(decide (U a∧U b),true)]:=by and_intros<;>kernel_rfl
theorem Z0x (a b c m:Int):Zw (Ze (Zi prog Zh Zaq true) 300 19 [.int .u64 a,.int .u64 b,.int .u64 c,.int .i64 m] [cmp false,cmp false,cmp false,cmp false,cmp false,cmp true]) (suV m (sS (prN a b) inf) c) [(decide (U (sS (prN a b) inf)∧U c),true),(true,true),(decide (U a∧U b),true),(cl b==3,true),lU b,(cl a==3,false),lU a,(decide (cl c>3),false),lU c,(decide (cl b>3),false),lU b,(decide (cl a>3),false),lU a,(zh a b,false),(decide (U a∧U b),true)]:=by and_intros<;>kernel_rfl
theorem Z0y (a b c m:Int):Zw (Ze (Zi prog Zh Zaq true) 300 19 [.int .u64 a,.int .u64 b,.int .u64 c,.int .i64 m] [cmp false,cmp false,cmp false,cmp false,cmp false,cmp false,cmp true]) (rdT c 0) [(cl c==3,true),lU c,(cl b==3,false),lU b,(cl a==3,false),lU a,(decide (cl c>3),false),lU c,(decide (cl b>3),false),lU b,(decide (cl a>3),false),lU a,(zh a b,false),(decide (U a∧U b),true)]:=by and_intros<;>kernel_rfl
theorem Zwj (a b c m:Int):Zw (Ze (Zi prog Zh Zaq true) 300 19 [.int .u64 a,.int .u64 b,.int .u64 c,.int .i64 m] [cmp false,cmp false,cmp false,cmp false,cmp false,cmp false,cmp false,cmp true]) (rdV m (xuN m (prN a b) (prE a b) (ofN (prV a b)).nat (sgn c) (xp c) (wSg c).nat) (tw (ofN (xuQ (prN a b) (prE a b) (ofN (prV a b)).nat (sgn c) (xp c) (wSg c).nat)) (xuB (prN a b) (prE a b) (ofN (prV a b)).nat (sgn c) (xp c) (wSg c).nat)) (clp (unN (prE a b) (ofN (prV a b)).nat (xp c) (wSg c).nat)-1)) [(decide (ofN (xuQ (prN a b) (prE a b) (ofN (prV a b)).nat (sgn c) (xp c) (wSg c).nat)).ok,true),(ZrY (prE a b) (ofN (prV a b)) false (xp c) (wSg c) false,true),(Zwe a b,true),(decide (U a∧U b),true),(ZrY (prE a b) (ofN (prV a b)) false (xp c) (wSg c) false,true),(ZrY (prE a b) (ofN (prV a b)) false (xp c) (wSg c) false,true),(Zwe a b,true),(decide (U a∧U b),true),lU c,(decide (cl c≤2),true),lU c,(cl c==3,false),lU c,(cl b==3,false),lU b,(cl a==3,false),lU a,(decide (cl c>3),false),lU c,(decide (cl b>3),false),lU b,(decide (cl a>3),false),lU a,(zh a b,false),(decide (U a∧U b),true)]:=by and_intros<;>kernel_rfl
def fmP (m a b c:Int):Int:=if zh a b=true then 9221120237041090560 else if 3<cl a∨3<cl b∨3<cl c then 9221120237041090560 else if cl a=3∨cl b=3 then suP m (sS (prN a b) inf) c else if cl c=3 then c else sS (fsN m a b c) (fsP m a b c)
def fmF (m a b c:Int):Int:=if zh a b=true then 1 else if 3<cl a∨3<cl b∨3<cl c then (if cl a=5∨cl b=5∨cl c=5 then 1 else 0) else if cl a=3∨cl b=3 then suF m (sS (prN a b) inf) c else if cl c=3 then 0 else fsF m a b c
theorem Zwk (n:Bool):U (sS n inf):=by cases n<;>decide
theorem ZnV (m a b c:Int):rdV m (xuN m (prN a b) (prE a b) (ofN (prV a b)).nat (sgn c) (xp c) (wSg c).nat) (tw (ofN (xuQ (prN a b) (prE a b) (ofN (prV a b)).nat (sgn c) (xp c) (wSg c).nat)) (xuB (prN a b) (prE a b) (ofN (prV a b)).nat (sgn c) (xp c) (wSg c).nat)) (clp (unN (prE a b) (ofN (prV a b)).nat (xp c) (wSg c).nat)-1)=rdT (sS (fsN m a b c) (fsP m a b c)) (fsF m a b c):=by
 have hE:=ZbB a b;have hc:=ZbJ c;rw[zX (Zgx a b),ZaT];exact ZvV m m (Zhx a b) (ZeJ c) (G:= -2148) (by omega) (by omega) (prN a b) (sgn c)
theorem Z0z (a b c:Int):ZrY (prE a b) (ofN (prV a b)) false (xp c) (wSg c) false=true:=by
 have h1:=Zhx a b;have h2:=ZeJ c;refine Xa ⟨ZZ _,ZaC c,rfl,rfl,(Zcy (ZZ _)).2 ?_,(Zcy (ZaC c)).2 ?_⟩
 ·rw[zX (Zgx a b)];exact h1
 ·rw[ZaT];exact h2
theorem Ziz (a b c m:Int) (ha:U a) (hb:U b) (hc:U c) (w:World):Calls prog 19 #[.int .u64 a,.int .u64 b,.int .u64 c,.int .i64 m] w fun r w'=>r= .returned (rdT (fmP m a b c) (fmF m a b c))∧zg w w':=by
 have hv:([.int .u64 a,.int .u64 b,.int .u64 c,.int .i64 m].all (lt 0))=true:=rfl;have T:=Zf Zhy;have ka:decide (U a)=true:=Xa ha;have kb:decide (U b)=true:=Xa hb;have kc:decide (U c)=true:=Xa hc;have kab:decide (U a∧U b)=true:=Xa ⟨ha,hb⟩;have kic:decide (U (sS (prN a b) inf)∧U c)=true:=Xa ⟨Zwk _,hc⟩;have kE:=Z0z a b c;have ba:=Zd0 a;have bb:=Zd0 b;have bc:=Zd0 c;unfold fmP fmF;by_cases hbd:zh a b=true
 ·rw[if_pos hbd,if_pos hbd];exact Zb T (Zwi a b c m) (Za hbd (Zz kab)) hv (by rfl) w
 ·have hb0:zh a b=false:=by simpa using hbd
  rw[if_neg hbd,if_neg hbd];by_cases ha3:3<cl a
  ·rw[if_pos (.inl ha3),if_pos (.inl ha3)];by_cases a5:cl a=5
   ·rw[if_pos (.inl a5)];exact Zb T (Z0n a b c m) (Za (Z1 a5) (Za ka (Za (by decide) (Za (Xa ha3) (Za ka (Za hb0 (Zz kab))))))) hv (by rfl) w
   ·by_cases b5:cl b=5
    ·rw[if_pos (.inr (.inl b5))];exact Zb T (Z0o a b c m) (Za (Z1 b5) (Za kb (Za (by decide) (Za (Zq (by omega)) (Za ka (Za (by decide) (Za (Xa ha3) (Za ka (Za hb0 (Zz kab)))))))))) hv (by rfl) w
    ·by_cases c5:cl c=5
     ·rw[if_pos (.inr (.inr c5))];exact Zb T (Z0p a b c m) (Za (Z1 c5) (Za kc (Za (by decide) (Za (Zq (by omega)) (Za kb (Za (by decide) (Za (Zq (by omega)) (Za ka (Za (by decide) (Za (Xa ha3) (Za ka (Za hb0 (Zz kab))))))))))))) hv (by rfl) w
     ·rw[if_neg (by omega)];exact Zb T (Z0q a b c m) (Za (by decide) (Za (Zq (by omega)) (Za kc (Za (by decide) (Za (Zq (by omega)) (Za kb (Za (by decide) (Za (Zq (by omega)) (Za ka (Za (by decide) (Za (Xa ha3) (Za ka (Za hb0 (Zz kab)))))))))))))) hv (by rfl) w
  ·by_cases hb3:3<cl b
   ·rw[if_pos (.inr (.inl hb3)),if_pos (.inr (.inl hb3))];by_cases b5:cl b=5
    ·rw[if_pos (.inr (.inl b5))];exact Zb T (Z0r a b c m) (Za (Z1 b5) (Za kb (Za (by decide) (Za (Zq (by omega)) (Za ka (Za (by decide) (Za (Xa hb3) (Za kb (Za (Xb ha3) (Za ka (Za hb0 (Zz kab)))))))))))) hv (by rfl) w
    ·by_cases c5:cl c=5
     ·rw[if_pos (.inr (.inr c5))];exact Zb T (Z0s a b c m) (Za (Z1 c5) (Za kc (Za (by decide) (Za (Zq (by omega)) (Za kb (Za (by decide) (Za (Zq (by omega)) (Za ka (Za (by decide) (Za (Xa hb3) (Za kb (Za (Xb ha3) (Za ka (Za hb0 (Zz kab))))))))))))))) hv (by rfl) w
     ·rw[if_neg (by omega)];exact Zb T (Z0t a b c m) (Za (by decide) (Za (Zq (by omega)) (Za kc (Za (by decide) (Za (Zq (by omega)) (Za kb (Za (by decide) (Za (Zq (by omega)) (Za ka (Za (by decide) (Za (Xa hb3) (Za kb (Za (Xb ha3) (Za ka (Za hb0 (Zz kab)))))))))))))))) hv (by rfl) w
   ·by_cases hc3:3<cl c
    ·rw[if_pos (.inr (.inr hc3)),if_pos (.inr (.inr hc3))];by_cases c5:cl c=5
     ·rw[if_pos (.inr (.inr c5))];exact Zb T (Z0u a b c m) (Za (Z1 c5) (Za kc (Za (by decide) (Za (Zq (by omega)) (Za kb (Za (by decide) (Za (Zq (by omega)) (Za ka (Za (by decide) (Za (Xa hc3) (Za kc (Za (Xb hb3) (Za kb (Za (Xb ha3) (Za ka (Za hb0 (Zz kab))))))))))))))))) hv (by rfl) w
     ·rw[if_neg (by omega)];exact Zb T (Z0v a b c m) (Za (by decide) (Za (Zq (by omega)) (Za kc (Za (by decide) (Za (Zq (by omega)) (Za kb (Za (by decide) (Za (Zq (by omega)) (Za ka (Za (by decide) (Za (Xa hc3) (Za kc (Za (Xb hb3) (Za kb (Za (Xb ha3) (Za ka (Za hb0 (Zz kab)))))))))))))))))) hv (by rfl) w
    ·have hno:¬ (3<cl a∨3<cl b∨3<cl c):=by omega
     rw[if_neg hno,if_neg hno];by_cases ae:cl a=3
     ·rw[if_pos (.inl ae),if_pos (.inl ae)];exact Zb T (Z0w a b c m) (Za kic (Za rfl (Za kab (Za (Z1 ae) (Za ka (Za (Xb hc3) (Za kc (Za (Xb hb3) (Za kb (Za (Xb ha3) (Za ka (Za hb0 (Zz kab))))))))))))) hv (by rfl) w
     ·by_cases be:cl b=3
      ·rw[if_pos (.inr be),if_pos (.inr be)];exact Zb T (Z0x a b c m) (Za kic (Za rfl (Za kab (Za (Z1 be) (Za kb (Za (Zq ae) (Za ka (Za (Xb hc3) (Za kc (Za (Xb hb3) (Za kb (Za (Xb ha3) (Za ka (Za hb0 (Zz kab))))))))))))))) hv (by rfl) w
      ·have hno2:¬ (cl a=3∨cl b=3):=by omega
       rw[if_neg hno2,if_neg hno2];by_cases ce:cl c=3
       ·rw[if_pos ce,if_pos ce];exact Zb T (Z0y a b c m) (Za (Z1 ce) (Za kc (Za (Zq be) (Za kb (Za (Zq ae) (Za ka (Za (Xb hc3) (Za kc (Za (Xb hb3) (Za kb (Za (Xb ha3) (Za ka (Za hb0 (Zz kab)))))))))))))) hv (by rfl) w
       ·rw[if_neg ce,if_neg ce];have hf:=Zwj a b c m;rw[ZnV] at hf;exact Zb T hf (Za (Xa (ZZ _)) (Za kE (Za (Xa ⟨by omega,by omega⟩) (Za kab (Za kE (Za kE (Za (Xa ⟨by omega,by omega⟩) (Za kab (Za kc (Za (Xa (by omega)) (Za kc (Za (Zq ce) (Za kc (Za (Zq be) (Za kb (Za (Zq ae) (Za ka (Za (Xb hc3) (Za kc (Za (Xb hb3) (Za kb (Za (Xb ha3) (Za ka (Za hb0 (Zz kab))))))))))))))))))))))))) hv (by rfl) w
def gPF:Ans:=fun vals s=>
 match vals with
 | [.int .u64 a,.int .u64 b,.int .u64 c,.int .i64 m]=>some (rdT (fmP m a b c) (fmF m a b c),s,[(decide (U a∧U b∧U c),true)])
 | _=>none
theorem Zwl:ZJ 19 gPF:=by
 intro vals s v s' lg h hl w;unfold gPF at h;split at h
 ·cases h;obtain⟨h1,h2,h3⟩:=Xc (hl _ Xf);exact Ziz _ _ _ _ h1 h2 h3 w
 ·cases h
end Go.Proofs.YtekebccjflilnaaGreat
namespace Go.Proofs.YtekebccjflilnaaGreat
open Go.KRun Go.Wd Go.Pt Go.Rn
theorem Zwm {n:Bool}{r:Int}(h0:0≤r) (h1:r<9223372036854775808):mag (sS n r)=r∧sgn (sS n r)=n∧U (sS n r)∧uV (sS n r)=uV r:=by
 have e:ex (sS n r)=ex r∧fr (sS n r)=fr r:=by unfold ex fr sS;split<;>omega
 refine⟨by unfold mag sS;split<;>omega,?_,by unfold U sS;split<;>omega,?_⟩
 ·cases n
  ·simp only[sS,Bool.false_eq_true,if_false,sgn];exact Xb (by omega)
  ·simp only[sS,if_true,sgn];exact Xa (by omega)
 ·unfold uV xp sg;rw[e.1,e.2]
theorem Zsl {p:Int}(hp:U p):Zf1 p 9223372036854775808=ng p:=Zf2 hp
theorem ZcV {m a b:Int}(ha:cl a=3) (hb:cl b≤3) (h:¬ (cl b=3∧a≠b)):suP m a b=a∧suF m a b=0:=by
 unfold suP suF;have h0:¬ (3<cl a∨3<cl b):=by omega
 rw[if_neg h0,if_pos ha,if_neg h,if_neg h0,if_pos ha,if_neg h];exact⟨rfl,rfl⟩
theorem Zhz {m a b:Int}(ha:cl a=3) (hb:cl b=3) (h:a≠b):suP m a b=9221120237041090560∧suF m a b=1:=by
 unfold suP suF;have h0:¬ (3<cl a∨3<cl b):=by omega
 rw[if_neg h0,if_pos ha,if_pos ⟨hb,h⟩,if_neg h0,if_pos ha,if_pos ⟨hb,h⟩];exact⟨rfl,rfl⟩
theorem Zsm {m a b:Int}(h:zh a b=true):muP m a b=9221120237041090560∧muF m a b=1:=by
 unfold muP muF;rw[if_pos h,if_pos h];exact⟨rfl,rfl⟩
theorem ZkU {m a b:Int}(h:3<cl a∨3<cl b):muP m a b=9221120237041090560∧muF m a b=if cl a=5∨cl b=5 then 1 else 0:=by
 have hb:¬ zh a b=true:=by unfold zh;rw[decide_eq_true_iff];omega
 unfold muP muF;rw[if_neg hb,if_neg hb,if_pos h,if_pos h];exact⟨rfl,rfl⟩
theorem ZkV {m a b:Int}(hb:¬ zh a b=true) (h:¬ (3<cl a∨3<cl b)) (hi:cl a=3∨cl b=3):muP m a b=sS (prN a b) inf∧muF m a b=0:=by
 unfold muP muF;rw[if_neg hb,if_neg hb,if_neg h,if_neg h,if_pos hi,if_pos hi];exact⟨rfl,rfl⟩
theorem Zsn {m a b:Int}(ha:cl a≤2) (hb:cl b≤2):muP m a b=sS (prN a b) (mlP m a b)∧muF m a b=mlF m a b:=by
 have h0:¬ zh a b=true:=by unfold zh;rw[decide_eq_true_iff];omega
 have h1:¬ (3<cl a∨3<cl b):=by omega
 have h2:¬ (cl a=3∨cl b=3):=by omega
 unfold muP muF;rw[if_neg h0,if_neg h0,if_neg h1,if_neg h1,if_neg h2,if_neg h2];exact⟨rfl,rfl⟩
theorem Zwn (m a b:Int):0≤mlP m a b∧mlP m a b<9223372036854775808:=by have:=Z0d m a b;omega
theorem Z00 (m a b:Int):U (muP m a b):=by
 unfold muP;split
 ·decide
 ·split
  ·decide
  ·split
   ·exact Zwk _
   ·exact (Zwm (Zwn m a b).1 (Zwn m a b).2).2.2.1
end Go.Proofs.YtekebccjflilnaaGreat
namespace Go.KRun
open Go.RowKit
def Runs (T:Tab) (c:Code) (x:Lf) (Post:Ex→Lf→Prop):Prop:=
 ∀ m B a w,Rel m B x a w→∀ Q:Exit→Act→World→Prop,(∀ e y,Post e y→∀ a' w',Reach m B x.2.1.n w y a' w'→Q (out e) a' w')→c.wp T.P Q a w
theorem Runs.mono {T:Tab}{c:Code}{x:Lf}{P P':Ex→Lf→Prop}(h:Runs T c x P) (hp:∀ e y,P e y→P' e y):Runs T c x P':=
 fun m B a w R Q hQ=>h m B a w R Q fun e y he=>hQ e y (hp e y he)
theorem Runs.script {T:Tab}{c:Code}{t:List Value}{h:Hp}{s s':List Dec}{P:Ex→Lf→Prop}(hr:Runs T c (t,h,s) P):Runs T c (t,h,s') P:=
 fun m B a w R Q hQ=>hr m B a w ⟨R.tmps,R.dfr,R.emb,R.wf⟩ Q hQ
theorem Runs.ev {T:Tab}(hT:TabOk T) {n:Nat}{c:Code}{x x':Lf}{e:Ex}{L:Lg}(h:evC T n false c x ⟨[],[],[]⟩=some (e,x',L)) (hL:L.ok):Runs T c x fun e' y=>e'=e∧y=x':=
 fun m B a w R Q hQ=>((Zhc hT n).1 c x _ e x' L h hL).2 m B a w R Q fun a' w' hR=>hQ e x' ⟨rfl,rfl⟩ a' w' hR
theorem Runs.seq {T:Tab}{c1 c2:Code}{x:Lf}{P1 P:Ex→Lf→Prop}(h1:Runs T c1 x P1) (h2:∀ y,P1 none y→Runs T c2 y P) (h3:∀ e y,P1 (some e) y→P (some e) y):Runs T (.seq c1 c2) x P:=by
 intro m B a w R Q hQ;refine wp_seq (h1 m B a w R _ fun e y he a' w' hR=> ?_)
 match e,he with
 | none,he=>
  obtain⟨m',k1,k2,k3,k4⟩:=hR;exact h2 y he m' B a' w' k2 Q fun e' y' he' a'' w'' hR'=>hQ e' y' he' a'' w'' (Reach.trans k1 k3 k4 hR')
 | some none,he=>exact hQ _ _ (h3 none y he) a' w' hR
 | some (some id),he=>exact hQ _ _ (h3 (some id) y he) a' w' hR
theorem Runs.block {T:Tab}{c:Code}{id:Nat}{x:Lf}{P1 P:Ex→Lf→Prop}(h1:Runs T c x P1) (h2:∀ y,P1 none y→P none y) (h3:∀ y,P1 (some none) y→P (some none) y)
  (h4:∀ y,P1 (some (some id)) y→P none y) (h5:∀ id' y,id'≠id→P1 (some (some id')) y→P (some (some id')) y):Runs T (.block id c) x P:=by
 intro m B a w R Q hQ;refine wp_block (h1 m B a w R _ fun e y he a' w' hR=> ?_)
 match e,he with
 | none,he=>exact hQ _ _ (h2 y he) a' w' hR
 | some none,he=>exact hQ _ _ (h3 y he) a' w' hR
 | some (some id'),he=>
  simp only[out,Exit.inBlock];by_cases hid:id'=id
  ·subst hid;rw[if_pos rfl];exact hQ _ _ (h4 y he) a' w' hR
  ·rw[if_neg hid];exact hQ _ _ (h5 id' y hid he) a' w' hR
theorem Runs.loop {T:Tab}{c:Code}{P:Ex→Lf→Prop}(Inv:Nat→Lf→Prop) (round:∀ n x,Inv n x→Runs T c x fun e y=>match e with | none=>∃ n',n'<n∧Inv n' y | some e=>P (some e) y) {n:Nat}{x:Lf}(h0:Inv n x):
  Runs T (.loop c) x P:=by
 have key:∀ N n x,n<N→Inv n x→∀ m B a w,Rel m B x a w→∀ Q:Exit→Act→World→Prop,(∀ e y,P e y→∀ a' w',Reach m B x.2.1.n w y a' w'→Q (out e) a' w')→Code.rounds T.P c Q N a w:=by
  intro N
  induction N with
  | zero=>intro n x hn;omega
  | succ N ih=>
   intro n x hn hI m B a w R Q hQ;rw[rounds_succ];refine round n x hI m B a w R _ fun e y he a' w' hR=> ?_
   match e,he with
   | none,he=>
    obtain⟨n',hn',hI'⟩:=he;obtain⟨m',k1,k2,k3,k4⟩:=hR;exact ih n' y (by omega) hI' m' B a' w' k2 Q fun e' y' he' a'' w'' hR'=>hQ e' y' he' a'' w'' (Reach.trans k1 k3 k4 hR')
   | some none,he=>exact hQ _ _ he a' w' hR
   | some (some id),he=>exact hQ _ _ he a' w' hR
 intro m B a w R Q hQ;exact wp_loop_rounds (n+1) (key (n+1) n x (by omega) h0 m B a w R Q hQ)
theorem ZaU {T:Tab}{f:Nat}{F:Func}{c:Code}(hF:T.P.funcs[f]? =some F) (hc:F.body=some c) {vals:List Value}{v:Value}(hvals:(vals.all (lt 0))=true) (hv:lt 0 v=true)
  (h:Runs T c (vals++List.replicate (F.ntmps-vals.length) undef,⟨0,[]⟩,[]) fun e y=>(e=none∨e=some none)∧Zau T.P F y.1 y.2.1=some v) (w:World):
  Calls T.P f vals.toArray w fun e w'=>e= .returned v∧zg w w':=by
 have E:Emb (fun b=>(b,0)) w.heap.size ⟨0,[]⟩ w:=
  Emb.none w
 have hst:∀ y∈vals,lt 0 y=true:=List.all_eq_true.1 hvals;have e0:vals.map (mv fun b=>(b,0))=vals:=(List.map_congr_left fun y hy=>Z9 (hst y hy)).trans (List.map_id' _);refine calls_of_wp hF hc ?_;have R:Rel (fun b=>(b,0)) w.heap.size (vals++List.replicate (F.ntmps-vals.length) undef,⟨0,[]⟩,[]) {tmps:=vals.toArray++Array.replicate (F.ntmps-vals.toArray.size) undef,defers:=[]} w:=by
  refine⟨?_,rfl,E,?_⟩
  ·simp [zO,e0]
  ·intro y hy;rcases List.mem_append.1 hy with hy | hy
   ·exact hst y hy
   ·rw[List.eq_of_mem_replicate hy];simp [undef,lt]
 refine h _ _ _ w R _ fun e y he a' w' hR=> ?_;obtain⟨hex,hres⟩:=he;obtain⟨m',k1,k2,k3,k4⟩:=hR;obtain⟨r1,r2⟩:=ZaO k2.emb k2.wf hres;rw[← k2.tmps,Z9 hv] at r1;have post:a'.defers=[]∧∃ v',(results F a'.tmps).run T.P w'= .ok v' w'∧(Ending.returned v'= .returned v∧zg w w'):=
  ⟨k2.dfr,_,r1,rfl,k3,fun k h1 h2=>k2.emb.ice k h1 h2⟩
 rcases hex with rfl | rfl<;>exact post
def ZB:Code→Code
 | .seq a _=>a
 | c=>c
def Z5:Code→Code
 | .seq _ b=>b
 | c=>c
def cIn:Code→Code
 | .block _ c=>c
 | .loop c=>c
 | .scope c=>c
 | c=>c
def Zv (F:Func):Code:=F.body.getD .skip
def Zaz:List Code→Code→Code
 | [],X=>X
 | c::cs,X=> .seq c (Zaz cs X)
def evL (T:Tab) (n:Nat):List Code→Lf→Lg→Option (Ex×Lf×Lg)
 | [],x,L=>some (none,x,L)
 | c::cs,x,L=>
  match evC T n false c x L with
  | some (none,x',L')=>evL T n cs x' L'
  | _=>none
theorem Zqh {T:Tab}(hT:TabOk T) {n:Nat}{X:Code}{P:Ex→Lf→Prop}:∀ (cs:List Code) (x x':Lf) (L L':Lg) (e:Ex),evL T n cs x L=some (e,x',L')→L'.ok→L.ok∧e=none∧(Runs T X x' P→Runs T (Zaz cs X) x P)
 | [],x,x',L,L',e,h,hL=>by
  simp only[evL] at h;cases h;exact⟨hL,rfl,id⟩
 | c::cs,x,x',L,L',e,h,hL=>by
  simp only[evL] at h;split at h
  ·rename_i x1 L1 h1;obtain⟨g1,g2,g3⟩:=Zqh hT cs x1 x' L1 L' e h hL;obtain⟨g4,g5⟩:=(Zhc hT n).1 _ _ _ _ _ _ h1 g1;refine⟨g4,g2,fun hX m B a w R Q hQ=>wp_seq (g5 m B a w R _ fun a' w' hR=> ?_)⟩;obtain⟨m',k1,k2,k3,k4⟩:=hR;exact g3 hX m' B a' w' k2 Q fun e' y' he' a'' w'' hR'=>hQ e' y' he' a'' w'' (Reach.trans k1 k3 k4 hR')
  ·cases h
def tl (n:Nat) (g:Nat→Value):List Value:=(List.range n).map g
theorem Zso {J:List Value}{n:Nat}(h:J.length=n):∃ g,J=tl n g:=by
 refine⟨fun i=>J.getD i undef,?_⟩;unfold tl;refine List.ext_getElem (by simp [h]) fun i h1 h2=> ?_;simp [h1]
def Zm (r:Option (Ex×Lf×Lg)) (k n:Nat) (e:Ex) (front:List Value) (h:Hp) (cs:Log):Prop:=
 r.map (fun r=>(r.1,r.2.1.1.take k,(r.2.1.1.drop k).length,r.2.1.2.1,r.2.2.cs))=some (e,front,n,h,cs)∧
  r.map (fun r=>r.2.2.es.map Prod.fst)=r.map (fun r=>r.2.2.es.map Prod.snd)∧r.map (fun r=>r.2.2.bs.map Prod.fst)=r.map (fun r=>r.2.2.bs.map Prod.snd)
def GoesE (r:Option (Ex×Lf×Lg)) (k n:Nat) (e:Ex) (front:List Value) (h:Hp) (cs:Log):Prop:=
 r.map (fun r=>(r.1,r.2.1.1.take k,(r.2.1.1.drop k).length,r.2.1.2.1,r.2.2.cs,r.2.2.es,r.2.2.bs))=some (e,front,n,h,cs,[],[])
theorem GoesE.t {r:Option (Ex×Lf×Lg)}{k n:Nat}{e:Ex}{front:List Value}{h:Hp}{cs:Log}(hG:GoesE r k n e front h cs):Zm r k n e front h cs:=by
 unfold GoesE at hG;cases r with
 | none=>cases hG
 | some r=>
  simp only[Option.map_some,Option.some.injEq,Prod.mk.injEq] at hG;obtain⟨h1,h2,h3,h4,h5,h6,h7⟩:=hG;refine⟨?_,?_,?_⟩
  ·rw[Option.map_some,h1,h2,h3,h4,h5]
  ·simp [h6]
  ·simp [h7]
theorem Zc0 {r:Option (Ex×Lf×Lg)}{k n:Nat}{e:Ex}{front:List Value}{h:Hp}{cs:Log}(hG:Zm r k n e front h cs) (hcs:Zx cs):∃ g s L,r=some (e,(front++tl n g,h,s),L)∧L.ok:=by
 obtain⟨h1,h5,h6⟩:=hG;cases r with
 | none=>cases h1
 | some r=>
  simp only[Option.map_some,Option.some.injEq,Prod.mk.injEq] at h1 h5 h6;obtain⟨e',⟨t',h',s'⟩,L⟩:=r;simp only at h1 h5 h6;obtain⟨h1,h2,h3,h4,h7⟩:=h1;subst h1 h4;obtain⟨g,hg⟩:=Zso h3;refine⟨g,s',L,?_,by rw[h7];exact hcs,Zfs _ h5,Zfs _ h6⟩;rw[← h2,← hg,List.take_append_drop]
theorem Zj {T:Tab}(hT:TabOk T) {N:Nat}{c:Code}{t:List Value}{h h':Hp}{s s0:List Dec}{k n:Nat}{e:Ex}{front:List Value}{cs:Log}(hG:Zm (evC T N false c (t,h,s) ⟨[],[],[]⟩) k n e front h' cs) (hcs:Zx cs):
  Runs T c (t,h,s0) fun e' y=>e'=e∧(∃ g,y.1=front++tl n g)∧y.2.1=h':=by
 obtain⟨g,s',L,hr,hL⟩:=Zc0 hG hcs;refine Runs.script ((Runs.ev hT hr hL).mono fun e2 y he=> ?_);obtain⟨rfl,rfl⟩:=he;exact⟨rfl,⟨g,rfl⟩,rfl⟩
theorem zl {T:Tab}(hT:TabOk T) {N:Nat}{l:List Code}{X:Code}{t:List Value}{h h':Hp}{s s0:List Dec}{k n:Nat}{e:Ex}{front:List Value}{cs:Log}{P:Ex→Lf→Prop}(hG:Zm (evL T N l (t,h,s) ⟨[],[],[]⟩) k n e front h' cs) (hcs:Zx cs)
  (hX:∀ g,Runs T X (front++tl n g,h',[]) P):Runs T (Zaz l X) (t,h,s0) P:=by
 obtain⟨g,s',L,hr,hL⟩:=Zc0 hG hcs;obtain⟨_,_,h3⟩:=Zqh (X:=X) (P:=P) hT l _ _ _ _ _ hr hL;exact Runs.script (h3 (Runs.script (hX g)))
theorem Runs.forLoop {T:Tab}{c:Code}{id:Nat}{x:Lf}{P:Lf→Prop}{R:Lf→Prop}(Inv:Nat→Lf→Prop)
  (round:∀ n x,Inv n x→Runs T c x fun e y=>match e with | none=>∃ n',n'<n∧Inv n' y | some none=>R y | some (some id')=>id'=id∧P y) {n:Nat}(h0:Inv n x):
  Runs T (.block id (.loop c)) x fun e y=>match e with | none=>P y | some none=>R y | some (some _)=>False:=by
 refine Runs.block (P1:=fun e y=>match e with | none=>False | some none=>R y | some (some id')=>id'=id∧P y) ?_ (fun y he=>he.elim) (fun y he=>he) (fun y he=>he.2) (fun id' y hid he=>absurd he.1 hid);refine Runs.loop Inv (fun n x hI=>(round n x hI).mono fun e y he=> ?_) h0
 match e,he with
 | none,he=>exact he
 | some none,he=>exact he
 | some (some id'),he=>exact he
def RunsW (T:Tab) (c:Code) (x:Lf) (Post:Ex→Lf→Prop):Prop:=
 ∀ m B a w,Rel m B x a w→∀ Q:Exit→Act→World→Prop,(∀ e y,Post e y→∀ m' a' w',Rel m' B y a' w'→Below B w w'→Q (out e) a' w')→c.wp T.P Q a w
theorem Runs.w {T:Tab}{c:Code}{x:Lf}{P:Ex→Lf→Prop}(h:Runs T c x P):RunsW T c x P:=fun m B a w R Q hQ=>h m B a w R Q fun e y he a' w' hR=>by
 obtain⟨m',_,k2,k3,_⟩:=hR;exact hQ e y he m' a' w' k2 k3
theorem RunsW.post {T:Tab}{c:Code}{x:Lf}{P P':Ex→Lf→Prop}(h:RunsW T c x P) (hp:∀ e y,P e y→∃ y',P' e y'∧∀ m B a w,Rel m B y a w→∃ m',Rel m' B y' a w):RunsW T c x P':=
 fun m B a w R Q hQ=>h m B a w R Q fun e y he m' a' w' hR hb=>by
  obtain⟨y',h1,h2⟩:=hp e y he;obtain⟨m2,h3⟩:=h2 m' B a' w' hR;exact hQ e y' h1 m2 a' w' h3 hb
theorem RunsW.mono {T:Tab}{c:Code}{x:Lf}{P P':Ex→Lf→Prop}(h:RunsW T c x P) (hp:∀ e y,P e y→P' e y):RunsW T c x P':=h.post fun e y he=>⟨y,hp e y he,fun m _ _ _ R=>⟨m,R⟩⟩
theorem RunsW.seq {T:Tab}{c1 c2:Code}{x:Lf}{P1 P:Ex→Lf→Prop}(h1:RunsW T c1 x P1) (h2:∀ y,P1 none y→RunsW T c2 y P) (h3:∀ e y,P1 (some e) y→P (some e) y):RunsW T (.seq c1 c2) x P:=by
 intro m B a w R Q hQ;refine wp_seq (h1 m B a w R _ fun e y he m' a' w' hR hb=> ?_)
 match e,he with
 | none,he=>exact h2 y he m' B a' w' hR Q fun e' y' he' m'' a'' w'' hR' hb'=>hQ e' y' he' m'' a'' w'' hR' (hb.trans hb')
 | some none,he=>exact hQ _ _ (h3 none y he) m' a' w' hR hb
 | some (some id),he=>exact hQ _ _ (h3 (some id) y he) m' a' w' hR hb
theorem RunsW.block {T:Tab}{c:Code}{id:Nat}{x:Lf}{P1 P:Ex→Lf→Prop}(h1:RunsW T c x P1) (h2:∀ y,P1 none y→P none y) (h3:∀ y,P1 (some none) y→P (some none) y)
  (h4:∀ y,P1 (some (some id)) y→P none y) (h5:∀ id' y,id'≠id→P1 (some (some id')) y→P (some (some id')) y):RunsW T (.block id c) x P:=by
 intro m B a w R Q hQ;refine wp_block (h1 m B a w R _ fun e y he m' a' w' hR hb=> ?_)
 match e,he with
 | none,he=>exact hQ _ _ (h2 y he) m' a' w' hR hb
 | some none,he=>exact hQ _ _ (h3 y he) m' a' w' hR hb
 | some (some id'),he=>
  simp only[out,Exit.inBlock];by_cases hid:id'=id
  ·subst hid;rw[if_pos rfl];exact hQ _ _ (h4 y he) m' a' w' hR hb
  ·rw[if_neg hid];exact hQ _ _ (h5 id' y hid he) m' a' w' hR hb
theorem RunsW.loop {T:Tab}{c:Code}{P:Ex→Lf→Prop}(Inv:Nat→Lf→Prop) (round:∀ n x,Inv n x→RunsW T c x fun e y=>match e with | none=>∃ n',n'<n∧Inv n' y | some e=>P (some e) y) {n:Nat}{x:Lf}(h0:Inv n x):
  RunsW T (.loop c) x P:=by
 have key:∀ N n x,n<N→Inv n x→∀ m B a w,Rel m B x a w→∀ Q:Exit→Act→World→Prop,(∀ e y,P e y→∀ m' a' w',Rel m' B y a' w'→Below B w w'→Q (out e) a' w')→Code.rounds T.P c Q N a w:=by
  intro N
  induction N with
  | zero=>intro n x hn;omega
  | succ N ih=>
   intro n x hn hI m B a w R Q hQ;rw[rounds_succ];refine round n x hI m B a w R _ fun e y he m' a' w' hR hb=> ?_
   match e,he with
   | none,he=>
    obtain⟨n',hn',hI'⟩:=he;exact ih n' y (by omega) hI' m' B a' w' hR Q fun e' y' he' m'' a'' w'' hR' hb'=>hQ e' y' he' m'' a'' w'' hR' (hb.trans hb')
   | some none,he=>exact hQ _ _ he m' a' w' hR hb
   | some (some id),he=>exact hQ _ _ he m' a' w' hR hb
 intro m B a w R Q hQ;exact wp_loop_rounds (n+1) (key (n+1) n x (by omega) h0 m B a w R Q hQ)
theorem RunsW.script {T:Tab}{c:Code}{t:List Value}{h:Hp}{s s':List Dec}{P:Ex→Lf→Prop}(hr:RunsW T c (t,h,s) P):RunsW T c (t,h,s') P:=
 fun m B a w R Q hQ=>hr m B a w ⟨R.tmps,R.dfr,R.emb,R.wf⟩ Q hQ
theorem Z0 {T:Tab}(hT:TabOk T) {N:Nat}{l:List Code}{X:Code}{t:List Value}{h h':Hp}{s s0:List Dec}{k n:Nat}{e:Ex}{front:List Value}{cs:Log}{P:Ex→Lf→Prop}(hG:Zm (evL T N l (t,h,s) ⟨[],[],[]⟩) k n e front h' cs) (hcs:Zx cs)
  (hX:∀ g,RunsW T X (front++tl n g,h',[]) P):RunsW T (Zaz l X) (t,h,s0) P:=by
 obtain⟨g,s',L,hr,hL⟩:=Zc0 hG hcs;have key:∀ (cs:List Code) (x x':Lf) (L L':Lg) (e:Ex),evL T N cs x L=some (e,x',L')→L'.ok→L.ok∧(RunsW T X x' P→RunsW T (Zaz cs X) x P):=by
  intro cs
  induction cs with
  | nil=>
   intro x x' L L' e h hL;simp only[evL] at h;cases h;exact⟨hL,id⟩
  | cons c cs ih=>
   intro x x' L L' e h hL;simp only[evL] at h;split at h
   ·rename_i x1 L1 h1;obtain⟨g1,g3⟩:=ih x1 x' L1 L' e h hL;obtain⟨g4,g5⟩:=(Zhc hT N).1 _ _ _ _ _ _ h1 g1;refine⟨g4,fun hX m B a w R Q hQ=>wp_seq (g5 m B a w R _ fun a' w' hR=> ?_)⟩;obtain⟨m',_,k2,k3,_⟩:=hR;exact g3 hX m' B a' w' k2 Q fun e' y' he' m'' a'' w'' hR' hb'=>hQ e' y' he' m'' a'' w'' hR' (k3.trans hb')
   ·cases h
 have r:=(key l _ _ _ _ _ hr hL).2 (RunsW.script (hX g));exact RunsW.script r
def oc1 (bs:List Nat):Value→Bool
 | .pointer (some a)=>bs.contains a.block
 | .slice (some a) _ _=>bs.contains a.block
 | .map (some b)=>bs.contains b
 | .iface t _=> !(Nat.beq t ZV)
 | _=>true
def oc2 (bs:List Nat):Value→Bool
 | .agg cs=>cs.toList.all (oc1 bs)
 | v=>oc1 bs v
def oc (bs:List Nat):Value→Bool
 | .tuple vs=>vs.toList.all (oc2 bs)
 | v=>oc2 bs v
theorem Zqi {m m':Mp}{bs:List Nat}(h:∀ b∈bs,m b=m' b) {v:Value}(hv:oc1 bs v=true):mv1 m v=mv1 m' v:=by
 unfold mv1;split
 ·simp only[oc1,List.contains_iff_mem] at hv;simp [mvA,h _ hv]
 ·simp only[oc1,List.contains_iff_mem] at hv;simp [mvA,h _ hv]
 ·simp only[oc1,List.contains_iff_mem] at hv;simp [h _ hv]
 ·rfl
 ·rfl
theorem Zqj {m m':Mp}{bs:List Nat}(h:∀ b∈bs,m b=m' b) {v:Value}(hv:oc2 bs v=true):mv2 m v=mv2 m' v:=by
 unfold mv2;split
 ·rename_i cs;simp only[oc2,List.all_eq_true] at hv;congr 1;exact Array.map_congr_left fun x hx=>Zqi h (hv x (by simpa using hx))
 ·rename_i hna;refine Zqi h ?_;unfold oc2 at hv;split at hv
  ·rename_i cs;exact absurd rfl (hna cs)
  ·exact hv
theorem ZnW {m m':Mp}{bs:List Nat}(h:∀ b∈bs,m b=m' b) {v:Value}(hv:oc bs v=true):mv m v=mv m' v:=by
 unfold mv;split
 ·rename_i vs;simp only[oc,List.all_eq_true] at hv;congr 1;exact Array.map_congr_left fun x hx=>Zqj h (hv x (by simpa using hx))
 ·rename_i hna;refine Zqj h ?_;unfold oc at hv;split at hv
  ·rename_i cs;exact absurd rfl (hna cs)
  ·exact hv
theorem Zh0 {bs:List Nat}{f:Nat→Nat}{n:Nat}(hf:∀ b∈bs,f b<n) {v:Value}(hv:oc bs v=true):lt n (rn f v)=true:=by
 have h1:∀ v,oc1 bs v=true→lt1 n (rn1 f v)=true:=fun v h=>by
  cases v with
  | pointer a=>
   cases a with
   | none=>rfl
   | some a=>simp only[oc1,List.contains_iff_mem] at h;exact Zk.2 (hf _ h)
  | map a=>
   cases a with
   | none=>rfl
   | some a=>simp only[oc1,List.contains_iff_mem] at h;exact Zk.2 (hf _ h)
  | slice a l c=>
   cases a with
   | none=>rfl
   | some a=>simp only[oc1,List.contains_iff_mem] at h;exact Zk.2 (hf _ h)
  | iface t u=>simp only[oc1,Bool.not_eq_true'] at h;simp [rn1,lt1,h]
  | _=>rfl
 have h2:∀ v,oc2 bs v=true→lt2 n (rn2 f v)=true:=fun v h=>by
  cases v with
  | agg cs=>
   simp only[oc2,lt2,rn2,Array.toList_map,List.all_eq_true,List.mem_map] at*;rintro _ ⟨y,hy,rfl⟩;exact h1 y (h y hy)
  | pointer a=>
   cases a with
   | none=>rfl
   | some a=>exact h1 (.pointer (some a)) h
  | map a=>
   cases a with
   | none=>rfl
   | some a=>exact h1 (.map (some a)) h
  | slice a l c=>
   cases a with
   | none=>rfl
   | some a=>exact h1 (.slice (some a) l c) h
  | iface t u=>exact h1 (.iface t u) h
  | _=>rfl
 cases v with
 | tuple cs=>
  simp only[oc,lt,rn,Array.toList_map,List.all_eq_true,List.mem_map] at*;rintro _ ⟨y,hy,rfl⟩;exact h2 y (hv y hy)
 | agg cs=>exact h2 (.agg cs) hv
 | pointer a=>
  cases a with
  | none=>rfl
  | some a=>exact h1 (.pointer (some a)) hv
 | map a=>
  cases a with
  | none=>rfl
  | some a=>exact h1 (.map (some a)) hv
 | slice a l c=>
  cases a with
  | none=>rfl
  | some a=>exact h1 (.slice (some a) l c) hv
 | iface t u=>exact h1 (.iface t u) hv
 | _=>rfl
def Hp.rows (h:Hp):Prop:=h.l.length=h.n∧∀ b x,h.blk? b=some x→ro x.2=true∧(∀ v∈x.1,still v=true)∧ab x.2=false
def Hp.fits (h0:Hp) (s:Nat→Nat) (h:Hp):Prop:=∀ i x,h0.blk? i=some x→Zam x.2=false→∃ y r,h.blk? (s i)=some y∧Zam y.2=false∧rt y.2=rt x.2∧y.1=x.1++r
theorem Emb.small {m:Mp}{B:Nat}{h h0:Hp}{w:World}{s:Nat→Nat}(E:Emb m B h w) (hr:h0.rows) (hf:h0.fits s h):Emb (fun i=>m (s i)) w.heap.size h0 w where
 len:=hr.1
 lies:=fun b x hb hx=>by
  obtain⟨y,r,h1,h2,h3,h4⟩:=hf b x hb hx;obtain⟨r',z,l0,l1,_⟩:=E.lies _ _ h1 h2;have calm:=(hr.2 b x hb).2.1;have e:x.1.map (mv1 m)=x.1.map (mv1 fun i=>m (s i)):=Zdb calm;rw[h4,List.map_append] at l0 l1;refine⟨r.map (mv1 m)++r',z,?_,?_,fun hro=> ?_⟩
  ·simp at l0 ⊢;omega
  ·rw[← e,l1,List.append_assoc]
  ·rw[(hr.2 b x hb).1] at hro;cases hro
 low:=fun b x hb hro=>by rw[(hr.2 b x hb).1] at hro;cases hro
 ros:=fun b x hb hx _=>by
  obtain⟨y,r,h1,h2,_,_⟩:=hf b x hb hx;exact E.here h1 h2
 inj:=fun b b' x x' hb _ hro=>by rw[(hr.2 b x hb).1] at hro;cases hro
 wf:=fun b x hb v hv=>ZcK (Nat.lt_of_le_of_lt (Nat.zero_le _) (Hp.blk_lt hb)) ((hr.2 b x hb).2.1 v hv)
 base:=Nat.le_refl _
 ice:=fun k h1 h2=>by omega
 abs:=fun b x hb hx=>by rw[(hr.2 b x hb).2.2] at hx;cases hx
theorem ZfC {T:Tab}{f:Nat}{F:Func}{c:Code}(hF:T.P.funcs[f]? =some F) (hc:F.body=some c) {h0:Hp}(hr:h0.rows) {vals:List Value}(hvals:∀ v∈vals,lt h0.n v=true) {v:Value}(hv:oc (List.range h0.n) v=true)
  (hrun:Runs T c (vals++List.replicate (F.ntmps-vals.length) undef,h0,[]) fun e y=>(e=none∨e=some none)∧Zau T.P F y.1 y.2.1=some v)
  {m:Mp}{B:Nat}{h:Hp}{w:World}(E:Emb m B h w) {s:Nat→Nat}(hs:∀ i,i<h0.n→s i<h.n) (hf:h0.fits s h):
  Calls T.P f ((vals.map (rn s)).map (mv m)).toArray w fun e w'=>e= .returned (mv m (rn s v))∧Came m B h w (rn s v) h m w':=by
 have E0:=E.small hr hf;have ev:(vals.map (rn s)).map (mv m)=vals.map (mv fun i=>m (s i)):=by
  rw[List.map_map];exact List.map_congr_left fun y _=>ZcD m s y
 rw[ev];refine calls_of_wp hF hc ?_;have R:Rel (fun i=>m (s i)) w.heap.size (vals++List.replicate (F.ntmps-vals.length) undef,h0,[]) {tmps:=(vals.map (mv fun i=>m (s i))).toArray++Array.replicate (F.ntmps-(vals.map (mv fun i=>m (s i))).toArray.size) undef,defers:=[]} w:=by
  refine⟨?_,rfl,E0,?_⟩
  ·simp [zO]
  ·intro y hy;rcases List.mem_append.1 hy with hy | hy
   ·exact hvals y hy
   ·rw[List.eq_of_mem_replicate hy];simp [undef,lt]
 refine hrun _ _ _ w R _ fun e y he a' w' hR=> ?_;obtain⟨hex,hres⟩:=he;obtain⟨m1,k1,k2,k3,_⟩:=hR;obtain⟨r1,r2⟩:=ZaO k2.emb k2.wf hres;rw[← k2.tmps] at r1;have e1:mv m1 v=mv m (rn s v):=by
  rw[ZcD];exact ZnW (fun b hb=>k1 b (by simpa using hb)) hv
 rw[e1] at r1;have td:zg w w':=⟨k3,fun k h1 h2=>k2.emb.ice k h1 h2⟩;obtain⟨E',hb⟩:=Zaf E td;have post:a'.defers=[]∧∃ v',(results F a'.tmps).run T.P w'= .ok v' w'∧(Ending.returned v'= .returned (mv m (rn s v))∧Came m B h w (rn s v) h m w'):=
  ⟨k2.dfr,_,r1,rfl,⟨Agree.refl _ _,E',hb,Nat.le_refl _,Zh0 (fun b hb=>hs b (by simpa using hb)) hv⟩⟩
 rcases hex with rfl | rfl<;>exact post
theorem zm {T:Tab}{f:Nat}{F:Func}{c:Code}(hF:T.P.funcs[f]? =some F) (hc:F.body=some c) {h0:Hp}(hr:h0.rows) {vals:List Value}(hvals:∀ v∈vals,lt h0.n v=true) {v:Value}{k:Nat}
  {cs:List Value}{ty:TypeId}(hcs:∀ u∈cs,lt1 0 u=true) (hty:ro ty=false)
  (hrun:RunsW T c (vals++List.replicate (F.ntmps-vals.length) undef,h0,[]) fun e y=>(e=none∨e=some none)∧Zau T.P F y.1 y.2.1=some v∧∃ r,y.2.1.blk? k=some (cs++r,ty))
  (hv0:oc [k] v=true)
  {m:Mp}{B:Nat}{h:Hp}{w:World}(E:Emb m B h w) {s:Nat→Nat}(hf:h0.fits s h):
  Calls T.P f ((vals.map (rn s)).map (mv m)).toArray w fun e w'=>∃ m',e= .returned (mv m' (rn (fun _=>h.n) v))∧Came m B h w (rn (fun _=>h.n) v) (h.push cs ty) m' w':=by
 have E0:=E.small hr hf;have ev:(vals.map (rn s)).map (mv m)=vals.map (mv fun i=>m (s i)):=by
  rw[List.map_map];exact List.map_congr_left fun y _=>ZcD m s y
 rw[ev];refine calls_of_wp hF hc ?_;have R:Rel (fun i=>m (s i)) w.heap.size (vals++List.replicate (F.ntmps-vals.length) undef,h0,[]) {tmps:=(vals.map (mv fun i=>m (s i))).toArray++Array.replicate (F.ntmps-(vals.map (mv fun i=>m (s i))).toArray.size) undef,defers:=[]} w:=by
  refine⟨?_,rfl,E0,?_⟩
  ·simp [zO]
  ·intro y hy;rcases List.mem_append.1 hy with hy | hy
   ·exact hvals y hy
   ·rw[List.eq_of_mem_replicate hy];simp [undef,lt]
 refine hrun _ _ _ w R _ fun e y he m1 a' w' k2 k3=> ?_;obtain⟨hex,hres,r,hblk⟩:=he;obtain⟨r1,r2⟩:=ZaO k2.emb k2.wf hres;rw[← k2.tmps] at r1;have td:zg w w':=⟨k3,fun k h1 h2=>k2.emb.ice k h1 h2⟩;obtain⟨E',hb⟩:=Zaf E td;have hlow:w.heap.size≤(m1 k).1:=k2.emb.low k _ hblk hty;have hlie:lie w' (m1 k) (cs.map (mv1 m)) ty:=by
  obtain⟨r',z,l0,l1,l2⟩:=k2.emb.lies k _ hblk (zo hty);have e:cs.map (mv1 m1)=cs.map (mv1 m):=Zbg hcs;simp only[List.map_append] at l0 l1;refine⟨r.map (mv1 m1)++r',z,?_,?_,l2⟩
  ·simp at l0 ⊢;omega
  ·rw[← e,l1,List.append_assoc]
 have Ea:=E'.adopt cs ty hty (fun u hu=>ZI (Nat.zero_le _) (hcs u hu)) hlie (Nat.le_trans E.base hlow) (fun b x hbx hx heq=>by
  have:=E.here hbx (zo hx);omega) (fun b x hbx hx hf=>by
  have:=E.at_ hbx hx hf;omega)
 have e1:mv m1 v=mv (upd m h.n (m1 k)) (rn (fun _=>h.n) v):=by
  rw[ZcD];refine ZnW (fun b hb=> ?_) hv0;rw[List.mem_singleton.1 hb];simp [upd]
 rw[e1] at r1;have post:a'.defers=[]∧∃ v',(results F a'.tmps).run T.P w'= .ok v' w'∧∃ m',Ending.returned v'= .returned (mv m' (rn (fun _=>h.n) v))∧Came m B h w (rn (fun _=>h.n) v) (h.push cs ty) m' w':=
  ⟨k2.dfr,_,r1,upd m h.n (m1 k),rfl,⟨Z7 _ _ _,Ea,hb,Nat.le_succ _,Zh0 (bs:=[k]) (fun b hb=>by show h.n<h.n+1;omega) hv0⟩⟩
 rcases hex with rfl | rfl<;>exact post
end Go.KRun
namespace Go.Proofs.YtekebccjflilnaaGreat
open Go.Proofs.Tryz
open Go.IntKind
open Go.KRun
set_option maxRecDepth 100000
theorem Z2 {p:Bool×Bool}(h:p.1=p.2):Zx [p]:=fun x hx=>by rw[List.mem_singleton.1 hx];exact h
theorem Zt {p:Bool×Bool}{l:Log}(h:p.1=p.2) (hl:Zx l):Zx (p::l):=fun x hx=>by
 rcases List.mem_cons.1 hx with rfl | hx
 ·exact h
 ·exact hl x hx
theorem ZL {n:Int}(h0: -9223372036854775808≤n) (h1:n≤9223372036854775807):i64.wrap n=n:=by
 simp [IntKind.wrap,IntKind.bits,IntKind.signed];omega
abbrev Hc:=Nat→List Value→Hp→List Dec→Option (Value×Hp×List Dec×Log)
abbrev Zcl:=List Value→Hp→List Dec→Option (Value×Hp×List Dec×Log)
def za (f:Nat) (g:Zcl):Prop:=∀ vals h s v h' s' lg,g vals h s=some (v,h',s',lg)→Zx lg→∀ m B w,Emb m B h w→(∀ v∈vals,lt h.n v=true)→Calls prog f (vals.map (mv m)).toArray w fun e w'=>∃ m',e= .returned (mv m' v)∧Came m B h w v h' m' w'
structure HcOk (hc:Hc):Prop where
 fn:∀ f vals h s r,hc f vals h s=some r→∃ F,prog.funcs[f]? =some F∧F.body.isSome=true
 calls:∀ f,za f (hc f)
def hcN:Hc:=fun _ _ _ _=>none
theorem ZfD:HcOk hcN:=⟨fun _ _ _ _ _ h=>(by cases h),fun _ _ _ _ _ _ _ _ h=>(by cases h)⟩
def Zb4 (f:Nat) (g:Zcl) (hc:Hc):Hc:=fun f' vals h s=>if Nat.beq f' f=true then g vals h s else hc f' vals h s
theorem ZA {f:Nat}{F:Func}(hF:prog.funcs[f]? =some F) (hb:F.body.isSome=true) {g:Zcl}(hg:za f g) {hc:Hc}(h:HcOk hc):HcOk (Zb4 f g hc) where
 fn:=fun f' vals h' s r hr=>by
  unfold Zb4 at hr;split at hr
  ·rename_i e;rw[Xj e];exact⟨F,hF,hb⟩
  ·exact h.fn _ _ _ _ _ hr
 calls:=fun f' vals h' s v h'' s' lg hr=>by
  unfold Zb4 at hr;split at hr
  ·rename_i e;rw[Xj e];exact hg _ _ _ _ _ _ _ hr
  ·exact h.calls f' _ _ _ _ _ _ _ hr
def Zp (P:Program) (ext:Nat→List Value→Option (Value×Log)) (con:Con) (hc:Hc):Tab:={P:=P,fn:=fun f=>P.funcs[f]?,ext:=ext,con:=con,sym:=true,hc:=hc}
theorem Zg {con:Con}(h:ConOk con) {hc:Hc}(hh:HcOk hc):TabOk (Zp prog Zh con hc) where
 mixed:=mixed
 ext:=ZjR
 con:=fun f vals s v s' lg hc hl=>⟨by obtain⟨F,h1,h2⟩:=h.fn f vals s v s' lg hc;exact⟨F,(ZcA f F h1).1,(ZcA f F h1).2,h2⟩,h.calls f vals s v s' lg hc hl⟩
 fn:=ZcA
 hc:=fun f vals h0 s v h' s' lg hr hl=>⟨by obtain⟨F,h1,h2⟩:=hh.fn f vals h0 s _ hr;exact⟨F,(ZcA f F h1).1,(ZcA f F h1).2,h2⟩,hh.calls f vals h0 s v h' s' lg hr hl⟩
end Go.Proofs.YtekebccjflilnaaGreat
namespace Go.Proofs.YtekebccjflilnaaGreat
open Go.IntKind
open Go.KRun Go.Nt
set_option maxRecDepth 100000
def wU (L:List Int):List Value:=L.map (Value.int .u32)
def tU:TypeId:=104
def tR:TypeId:=104+ZV
theorem ZnX:ro tR=true:=by kernel_rfl
theorem ZnY:ab tR=false:=by kernel_rfl
theorem ZeO:Zam tR=false:=by kernel_rfl
theorem ZnZ:rt tR=tU:=by kernel_rfl
def sl (b o n c:Nat):Value:= .slice (some ⟨b,o,none⟩) n c
def Zn:Value:= .slice none 0 0
def n1 (n:Nat):Int:=i64.wrap ((n:Int)-1)
def Zoa:Value→Int
 | .int _ n=>n
 | _=>0
def isU:Value→Bool
 | .int .u32 n=>decide (0≤n∧n<4294967296)
 | _=>false
theorem Zh1 {v:Value}(h:isU v=true):v= .int .u32 (Zoa v)∧0≤Zoa v∧Zoa v<4294967296:=by
 unfold isU at h;split at h
 ·simp only[Xi] at h;exact⟨rfl,h.1,h.2⟩
 ·cases h
def ZkW (l:List Value) (o n:Nat):List Value:=(l.drop o).take n
def zu (l:List Value) (o n:Nat):List Int:=(ZkW l o n).map Zoa
theorem Zi0 {l:List Value}{o n:Nat}(h:((ZkW l o n).all isU)=true):ZkW l o n=wU (zu l o n):=by
 unfold wU zu;rw[List.map_map];refine (List.map_id' _).symm.trans (List.map_congr_left fun v hv=> ?_);exact (Zh1 (List.all_eq_true.1 h v hv)).1
structure Row (l:List Value) (o:Nat) (L:List Int):Prop where
 len:o+L.length≤l.length
 cut:ZkW l o L.length=wU L
 rng:∀ x∈L,0≤x∧x<4294967296
theorem Row.cell {l:List Value}{o:Nat}{L:List Int}(h:Row l o L) {k:Nat}(hk:k<L.length):l[o+k]? =some (.int .u32 (L.getD k 0)):=by
 have e:(ZkW l o L.length)[k]? =(wU L)[k]? :=by rw[h.cut]
 unfold ZkW wU at e;rw[List.getElem?_take,if_pos hk,List.getElem?_drop,List.getElem?_map] at e;rw[e,List.getElem?_eq_getElem hk];simp [List.getD,List.getElem?_eq_getElem hk]
theorem ZcH {l:List Value}(h:∀ v∈l,still v=true):(⟨1,[(l,tR)]⟩:Hp).rows:=by
 refine⟨rfl,fun b x hb=> ?_⟩;have hb0:b=0:=by have:b<1:=Hp.blk_lt hb;omega
 subst hb0;have:x=(l,tR):=(Option.some.inj hb).symm;rw[this];exact⟨ZnX,h,ZnY⟩
theorem Zbq {l:List Value}{h:Hp}{b:Nat}{x:List Value×TypeId}(hb:h.blk? b=some x) (h1:Zam x.2=false) (h2:rt x.2=tU) (e:x.1=l):(⟨1,[(l,tR)]⟩:Hp).fits (fun _=>b) h:=by
 intro i y hi _;have hb0:i=0:=by have:i<1:=Hp.blk_lt hi;omega
 subst hb0;have:y=(l,tR):=(Option.some.inj hi).symm;rw[this];exact⟨x,[],hb,h1,by rw[h2];exact ZnZ.symm,by rw[e,List.append_nil]⟩
def h2 (la lb:List Value):Hp:=⟨2,[(lb,tR),(la,tR)]⟩
def pair (a b i:Nat):Nat:=if Nat.beq i 0=true then a else b
theorem Z23 {la lb:List Value}{i:Nat}{x:List Value×TypeId}(h:(h2 la lb).blk? i=some x):(i=0∧x=(la,tR))∨(i=1∧x=(lb,tR)):=by
 have:i<2:=Hp.blk_lt h;have:i=0∨i=1:=by omega
 rcases this with rfl | rfl
 ·exact .inl ⟨rfl,(Option.some.inj h).symm⟩
 ·exact .inr ⟨rfl,(Option.some.inj h).symm⟩
theorem Zob {la lb:List Value}(ha:∀ v∈la,still v=true) (hb:∀ v∈lb,still v=true):(h2 la lb).rows:=by
 refine⟨rfl,fun b x hx=> ?_⟩;rcases Z23 hx with ⟨_,e⟩ | ⟨_,e⟩<;>rw[e]
 ·exact⟨ZnX,ha,ZnY⟩
 ·exact⟨ZnX,hb,ZnY⟩
theorem ZkX {h:Hp}{a b:Nat}{x y:List Value×TypeId}(hx:h.blk? a=some x) (x1:Zam x.2=false) (x2:rt x.2=tU) (hy:h.blk? b=some y) (y1:Zam y.2=false) (y2:rt y.2=tU):(h2 x.1 y.1).fits (pair a b) h:=by
 intro i z hz _;rcases Z23 hz with ⟨rfl,e⟩ | ⟨rfl,e⟩<;>rw[e]
 ·exact⟨x,[],hx,x1,by rw[x2];exact ZnZ.symm,by rw[List.append_nil]⟩
 ·exact⟨y,[],hy,y1,by rw[y2];exact ZnZ.symm,by rw[List.append_nil]⟩
end Go.Proofs.YtekebccjflilnaaGreat
namespace Go.KRun
open Go.RowKit
theorem Zsp {m:Mp}{B:Nat}{t t':List Value}{h h':Hp}{s:List Dec}{a:Act}{w:World}(R:Rel m B (t,h,s) a w) (f:Nat→Nat) (hl:h'.l.length=h'.n)
  (hb:∀ i x,h'.blk? i=some x→(∀ v∈x.1,still v=true)∧∃ y r,h.blk? (f i)=some y∧y.2=x.2∧y.1=x.1++r)
  (hi:∀ i j x y,h'.blk? i=some x→h'.blk? j=some y→ro x.2=false∨spK x.2=true→ro y.2=false∨spK y.2=true→f i=f j→i=j)
  (ht:t'.map (mv fun i=>m (f i))=t.map (mv m)) (hw:∀ v∈t',lt h'.n v=true):Rel (fun i=>m (f i)) B (t',h',s) a w:=by
 have E:=R.emb;refine⟨by rw[R.tmps];simp only;rw[ht],R.dfr,?_,hw⟩;refine⟨hl,?_,?_,?_,?_,?_,E.base,E.ice,?_⟩
 ·intro b x hx ht;obtain⟨q1,y,r,q2,q3,q4⟩:=hb b x hx;obtain⟨r0,z,e1,e2,e3⟩:=E.lies (f b) y q2 (by rw[q3];exact ht);rw[q4,List.map_append,Zdb (m':=fun i=>m (f i)) q1] at e1 e2;refine⟨r.map (mv1 m)++r0,z,by rw[← e1];simp;omega,by rw[e2,List.append_assoc],by rw[← q3];exact e3⟩
 ·intro b x hx hr;obtain⟨_,y,r,q2,q3,_⟩:=hb b x hx;exact E.low (f b) y q2 (by rw[q3];exact hr)
 ·intro b x hx ht hr;obtain⟨_,y,r,q2,q3,_⟩:=hb b x hx;exact E.ros (f b) y q2 (by rw[q3];exact ht) (by rw[q3];exact hr)
 ·intro b b' x x' hx hx' hr hr' he;obtain⟨_,y,r,q2,q3,_⟩:=hb b x hx;obtain⟨_,y',r',q2',q3',_⟩:=hb b' x' hx';exact hi b b' x x' hx hx' (.inl hr) (.inl hr') (E.inj _ _ y y' q2 q2' (by rw[q3];exact hr) (by rw[q3'];exact hr') he)
 ·intro b x hx v hv;exact ZcK (Nat.lt_of_le_of_lt (Nat.zero_le _) (Hp.blk_lt hx)) ((hb b x hx).1 v hv)
 ·intro b x hx ha;obtain⟨q1,y,r,q2,q3,q4⟩:=hb b x hx;exact (E.abs (f b) y q2 (by rw[q3];exact ha)).ren (f:=f) (r:=r.map (mv1 m)) q3 (by rw[q4,List.map_append,Zdb (m':=fun i=>m (f i)) q1]) (fun c z hz=>by
   obtain⟨_,y',_,q2',q3',_⟩:=hb c z hz;exact⟨y',q2',q3'⟩) fun c z hz hs hs' hc=>hi c b z x hz hx (.inr hs) (.inr hs') hc
theorem Z2K {m:Mp}(f:Nat→Nat) {front front' rest:List Value}(h:front'.map (rn f)=front):(front'++rest.map (fun v=>Value.iface ZV (mv m v))).map (mv fun i=>m (f i))=(front++rest).map (mv m):=by
 rw[List.map_append,List.map_append,← h,List.map_map,List.map_map];congr 1
 ·exact List.map_congr_left fun v _=>(ZcD m f v).symm
theorem RunsW.small {T:Tab}{c:Code}{x:Lf}{P:Ex→Lf→Prop}(hr:RunsW T c x P) {P':Ex→Lf→Prop}
  (hp:∀ e y,P e y→P' e y∨∃ (front front' rest:List Value) (h h':Hp) (s:List Dec) (f:Nat→Nat),y=(front++rest,h,s)∧front'.map (rn f)=front∧h'.l.length=h'.n∧0<h'.n∧
   (∀ i x,h'.blk? i=some x→(∀ v∈x.1,still v=true)∧∃ y r,h.blk? (f i)=some y∧y.2=x.2∧y.1=x.1++r)∧
   (∀ i j x y,h'.blk? i=some x→h'.blk? j=some y→ro x.2=false∨spK x.2=true→ro y.2=false∨spK y.2=true→f i=f j→i=j)∧(∀ v∈front',lt h'.n v=true)∧∀ g,P' e (front'++tl rest.length g,h',s)):RunsW T c x P':=by
 intro m B a w R Q hQ;refine hr m B a w R Q fun e y he m' a' w' R' hb'=> ?_;rcases hp e y he with h1 | ⟨front,front',rest,h,h',s,f,rfl,e1,e2,e3,e4,e5,e6,e7⟩
 ·exact hQ e y h1 m' a' w' R' hb'
 ·obtain⟨g,hg⟩:=Zso (J:=rest.map (fun v=>Value.iface ZV (mv m' v))) (n:=rest.length) (by simp);refine hQ e _ (e7 g) _ a' w' (Zsp R' f e2 e4 e5 (by rw[← hg];exact Z2K f e1) ?_) hb';intro v hv;rw[← hg] at hv;rcases List.mem_append.1 hv with hv | hv
  ·exact e6 v hv
  ·obtain⟨u,_,rfl⟩:=List.mem_map.1 hv;simp [lt,lt2,lt1,e3,ZV]
theorem RunsW.forLoop {T:Tab}{c:Code}{id:Nat}{x:Lf}{P:Lf→Prop}{R:Lf→Prop}(Inv:Nat→Lf→Prop)
  (round:∀ n x,Inv n x→RunsW T c x fun e y=>match e with | none=>∃ n',n'<n∧Inv n' y | some none=>R y | some (some id')=>id'=id∧P y) {n:Nat}(h0:Inv n x):
  RunsW T (.block id (.loop c)) x fun e y=>match e with | none=>P y | some none=>R y | some (some _)=>False:=by
 refine RunsW.block (P1:=fun e y=>match e with | none=>False | some none=>R y | some (some id')=>id'=id∧P y) ?_ (fun y he=>he.elim) (fun y he=>he) (fun y he=>he.2) (fun id' y hid he=>absurd he.1 hid);refine RunsW.loop Inv (fun n x hI=>(round n x hI).mono fun e y he=> ?_) h0
 match e,he with
 | none,he=>exact he
 | some none,he=>exact he
 | some (some id'),he=>exact he
theorem Zc {T:Tab}(hT:TabOk T) {N:Nat}{c:Code}{t:List Value}{h h':Hp}{s s0:List Dec}{k n:Nat}{e:Ex}{front:List Value}{cs:Log}(hG:Zm (evC T N false c (t,h,s) ⟨[],[],[]⟩) k n e front h' cs) (hcs:Zx cs):
  RunsW T c (t,h,s0) fun e' y=>e'=e∧(∃ g,y.1=front++tl n g)∧y.2.1=h':=(Zj hT hG hcs).w
theorem ZkY (n:Nat) (g:Nat→Value):(tl n g).length=n:=by simp [tl]
theorem ZkZ {x y:List Value×TypeId}{i:Nat}{z:List Value×TypeId}(h:(⟨2,[y,x]⟩:Hp).blk? i=some z):(i=0∧z=x)∨(i=1∧z=y):=by
 have:i<2:=Hp.blk_lt h;have:i=0∨i=1:=by omega
 rcases this with rfl | rfl
 ·exact .inl ⟨rfl,(Option.some.inj h).symm⟩
 ·exact .inr ⟨rfl,(Option.some.inj h).symm⟩
def zv (k b:Nat) (i:Nat):Nat:=if Nat.blt i k=true then i else b
theorem Zi1 {base:List (List Value×TypeId)}{k:Nat}(hk:base.length=k) {y:List Value×TypeId}{i:Nat}{z:List Value×TypeId}(h:(⟨k+1,y::base⟩:Hp).blk? i=some z):(i<k∧(⟨k,base⟩:Hp).blk? i=some z)∨(i=k∧z=y):=by
 have hi:i<k+1:=Hp.blk_lt h;by_cases h0:i=k
 ·subst h0;have:(⟨i+1,y::base⟩:Hp).blk? i=some y:=by
   unfold Hp.blk?;rw[if_pos (Zk.2 (by show i<i+1;omega))];show (y::base)[i+1-1-i]? =some y;rw[show i+1-1-i=0 from by omega];rfl
  rw[this] at h;exact .inr ⟨rfl,(Option.some.inj h).symm⟩
 ·refine .inl ⟨by omega,?_⟩;unfold Hp.blk? at h ⊢;rw[if_pos (Zk.2 (by show i<k+1;omega))] at h;rw[if_pos (Zk.2 (by show i<k;omega))];have e:k+1-1-i=(k-1-i)+1:=by omega
  have h':(y::base)[k+1-1-i]? =some z:=h;rw[e,List.getElem?_cons_succ] at h';exact h'
theorem RunsW.kept {T:Tab}{c:Code}{x0:Lf}{ex:Ex}{front front':List Value}{n k b:Nat}{h:Hp}{base:List (List Value×TypeId)}{y:List Value×TypeId}(hr:RunsW T c x0 fun e z=>e=ex∧(∃ g,z.1=front++tl n g)∧z.2.1=h)
  (hk:base.length=k) (hf:front'.map (rn (zv k b))=front) (hx:∀ i x,(⟨k,base⟩:Hp).blk? i=some x→h.blk? i=some x∧∀ v∈x.1,still v=true) (hy:h.blk? b=some y) (hb:k≤b) (sy:∀ v∈y.1,still v=true) (hw:∀ v∈front',lt (k+1) v=true):
  RunsW T c x0 fun e z=>e=ex∧(∃ g,z.1=front'++tl n g)∧z.2.1=⟨k+1,y::base⟩:=by
 refine hr.small fun e z he=> .inr ?_;obtain⟨rfl,⟨g,h1⟩,h2⟩:=he;obtain⟨t,h',s⟩:=z;simp only at h1 h2;subst h1 h2;refine⟨front,front',tl n g,h',⟨k+1,y::base⟩,s,zv k b,rfl,hf,by simp [hk],Nat.succ_pos _,fun i z hz=> ?_,fun i j u v hi hj _ _ hij=> ?_,hw,fun g'=>⟨rfl,⟨g',by rw[ZkY]⟩,rfl⟩⟩
 ·rcases Zi1 hk hz with ⟨hi,hz'⟩ | ⟨rfl,rfl⟩
  ·obtain⟨q1,q2⟩:=hx i z hz';exact⟨q2,z,[],by unfold zv;rw[if_pos (Zk.2 hi)];exact q1,rfl,by simp⟩
  ·exact⟨sy,z,[],by unfold zv;rw[if_neg (by rw[Zk];omega)];exact hy,rfl,by simp⟩
 ·unfold zv at hij;rcases Zi1 hk hi with ⟨h1,_⟩ | ⟨rfl,_⟩<;>rcases Zi1 hk hj with ⟨h2,_⟩ | ⟨rfl,_⟩
  ·rw[if_pos (Zk.2 h1),if_pos (Zk.2 h2)] at hij;exact hij
  ·rw[if_pos (Zk.2 h1),if_neg (by rw[Zk];omega)] at hij;omega
  ·rw[if_pos (Zk.2 h2),if_neg (by rw[Zk];omega)] at hij;omega
  ·rfl
theorem ZH {T:Tab}{f:Nat}{F:Func}{c:Code}(hF:T.P.funcs[f]? =some F) (hc:F.body=some c) {h0:Hp}(hr:h0.rows) {vals:List Value}(hvals:∀ v∈vals,lt h0.n v=true) {v:Value}(hv:lt 0 v=true)
  (hrun:RunsW T c (vals++List.replicate (F.ntmps-vals.length) undef,h0,[]) fun e y=>(e=none∨e=some none)∧Zau T.P F y.1 y.2.1=some v)
  {m:Mp}{B:Nat}{h:Hp}{w:World}(E:Emb m B h w) {s:Nat→Nat}(hf:h0.fits s h):
  Calls T.P f ((vals.map (rn s)).map (mv m)).toArray w fun e w'=>∃ m',e= .returned (mv m' v)∧Came m B h w v h m' w':=by
 have E0:=E.small hr hf;have ev:(vals.map (rn s)).map (mv m)=vals.map (mv fun i=>m (s i)):=by
  rw[List.map_map];exact List.map_congr_left fun y _=>ZcD m s y
 rw[ev];refine calls_of_wp hF hc ?_;have R:Rel (fun i=>m (s i)) w.heap.size (vals++List.replicate (F.ntmps-vals.length) undef,h0,[]) {tmps:=(vals.map (mv fun i=>m (s i))).toArray++Array.replicate (F.ntmps-(vals.map (mv fun i=>m (s i))).toArray.size) undef,defers:=[]} w:=by
  refine⟨?_,rfl,E0,?_⟩
  ·simp [zO]
  ·intro y hy;rcases List.mem_append.1 hy with hy | hy
   ·exact hvals y hy
   ·rw[List.eq_of_mem_replicate hy];simp [undef,lt]
 refine hrun _ _ _ w R _ fun e y he m1 a' w' k2 k3=> ?_;obtain⟨hex,hres⟩:=he;obtain⟨r1,r2⟩:=ZaO k2.emb k2.wf hres;rw[← k2.tmps,Z9 hv] at r1;have td:zg w w':=⟨k3,fun k h1 h2=>k2.emb.ice k h1 h2⟩;obtain⟨E',hb⟩:=Zaf E td;have post:a'.defers=[]∧∃ v',(results F a'.tmps).run T.P w'= .ok v' w'∧∃ m',Ending.returned v'= .returned (mv m' v)∧Came m B h w v h m' w':=
  ⟨k2.dfr,_,r1,m,by rw[Z9 hv],⟨Agree.refl _ _,E',hb,Nat.le_refl _,Zaj (Nat.zero_le _) hv⟩⟩
 rcases hex with rfl | rfl<;>exact post
end Go.KRun
namespace Go.Proofs.YtekebccjflilnaaGreat
open Go.Proofs.Tryz
open Go.IntKind
open Go.KRun Go.Nt
set_option maxRecDepth 100000
def Z01 (F:Func):List Code:=[ZB (Zv F),ZB (Z5 (Zv F))]
def Zla (F:Func):Code:=cIn (cIn (ZB (Z5 (Z5 (Zv F)))))
def ZyU (F:Func):Code:=Z5 (Z5 (Z5 (Zv F)))
theorem Zi2:f74.body=some (Zaz (Z01 f74) (.seq (.block 0 (.loop (Zla f74))) (ZyU f74))):=by kernel_rfl
theorem Zsq (p:Option Addr) (n c:Nat) (h:Hp):Zm (evL (Zi prog Zh Zo true) 100 (Z01 f74) ([.slice p n c]++List.replicate 21 undef,h,[]) ⟨[],[],[]⟩) 4 18 none [.slice p n c,undef,Zn,.int .i64 n] h []:=by and_intros<;>kernel_rfl
def i1 (k:Int):Int:=i64.wrap (k-1)
theorem Zwo (o n c:Nat) (k x:Int) (l:List Value) (j1 j2:Value) (g:Nat→Value):Zm (evC (Zi prog Zh Zo true) 100 false (Zla f74) ([sl 0 o n c,j1,j2,.int .i64 k]++tl 18 g,⟨1,[(l,tR)]⟩,[cmp true,at_,val (.int .u32 x),cmp true]) ⟨[],[],[]⟩) 4 18 none [sl 0 o n c,j1,j2,.int .i64 (i1 k)] ⟨1,[(l,tR)]⟩
  [(x==0,true),(ZC (l[o+(i1 k).toNat*1]?) (.int .u32 x),true),(decide (0≤i1 k∧i1 k<n),true),(decide (k>0),true)]:=by and_intros<;>kernel_rfl
theorem Zoc (o n c:Nat) (k x:Int) (l:List Value) (j1 j2:Value) (g:Nat→Value):Zm (evC (Zi prog Zh Zo true) 100 false (Zla f74) ([sl 0 o n c,j1,j2,.int .i64 k]++tl 18 g,⟨1,[(l,tR)]⟩,[cmp true,at_,val (.int .u32 x),cmp false]) ⟨[],[],[]⟩) 4 18 (some (some 0)) [sl 0 o n c,j1,j2,.int .i64 k] ⟨1,[(l,tR)]⟩
  [(x==0,false),(ZC (l[o+(i1 k).toNat*1]?) (.int .u32 x),true),(decide (0≤i1 k∧i1 k<n),true),(decide (k>0),true)]:=by and_intros<;>kernel_rfl
theorem Zod (v:Value) (k:Int) (h:Hp) (j1 j2:Value) (g:Nat→Value):Zm (evC (Zi prog Zh Zo true) 100 false (Zla f74) ([v,j1,j2,.int .i64 k]++tl 18 g,h,[cmp false]) ⟨[],[],[]⟩) 4 18 (some (some 0)) [v,j1,j2,.int .i64 k] h [(decide (k>0),false)]:=by and_intros<;>kernel_rfl
theorem Zsr (o n c k:Nat) (l:List Value) (j1 j2:Value) (g:Nat→Value):Zm (evC (Zi prog Zh Zo true) 100 false (ZyU f74) ([sl 0 o n c,j1,j2,.int .i64 k]++tl 18 g,⟨1,[(l,tR)]⟩,[num 0]) ⟨[],[],[]⟩) 4 18 (some none) [sl 0 o n c,j1,sl 0 o k k,.int .i64 k] ⟨1,[(l,tR)]⟩
  [(ZW c,true),(Za8 0 k k c,true),(decide ((k:Int)=0∧(0:Int)≠0),false)]:=by and_intros<;>kernel_rfl
theorem Zoe (n k:Nat) (l:List Value) (j1 j2:Value) (g:Nat→Value):Zm (evC (Zi prog Zh Zo true) 100 false (ZyU f74) ([sl 0 0 n grown,j1,j2,.int .i64 k]++tl 18 g,⟨1,[(l,tR)]⟩,[at_]) ⟨[],[],[]⟩) 4 18 (some none) [sl 0 0 n grown,j1,sl 0 0 k k,.int .i64 k] ⟨1,[(l,tR)]⟩
  [(Za8 0 k k n,true),(decide ((k:Int)=0∧(0:Int)≠0),false),(!(Zam tR) && Nat.ble n l.length,true)]:=by and_intros<;>kernel_rfl
def Zd4 (o n c:Nat):Bool:=(ZW c && Nat.ble n c) || (Nat.beq c grown && Nat.beq o 0)
theorem Zi3 {l:List Value}{o c:Nat}{L:List Int}(hR:Row l o L) (hL:L.length<4611686018427387904) (hc:Zd4 o L.length c=true):
  Runs (Zi prog Zh Zo true) (Zaz (Z01 f74) (.seq (.block 0 (.loop (Zla f74))) (ZyU f74))) ([sl 0 o L.length c]++List.replicate 21 undef,⟨1,[(l,tR)]⟩,[]) fun e y=>(e=none∨e=some none)∧Zau prog f74 y.1 y.2.1=some (sl 0 o (Z3 L) (Z3 L)):=by
 refine zl (Zf Zd) (Zsq _ _ _ _) (fun x hx=>by cases hx) fun g=> ?_;refine Runs.seq (P1:=fun e y=>e=none∧(∃ g,y.1=[sl 0 o L.length c,undef,Zn,.int .i64 (Z3 L:Nat)]++tl 18 g)∧y.2.1=⟨1,[(l,tR)]⟩) ?_ ?_ (fun e y he=>by cases he.1)
 ·refine (Runs.forLoop (P:=fun y=>(∃ g,y.1=[sl 0 o L.length c,undef,Zn,.int .i64 (Z3 L:Nat)]++tl 18 g)∧y.2.1=⟨1,[(l,tR)]⟩) (R:=fun _=>False) (fun n y=>(∃ g,y.1=[sl 0 o L.length c,undef,Zn,.int .i64 (n:Nat)]++tl 18 g)∧y.2.1=⟨1,[(l,tR)]⟩∧n≤L.length∧∀ i,n≤i→L.getD i 0=0) ?_ (n:=L.length) ⟨⟨g,rfl⟩,rfl,Nat.le_refl _,fun i hi=>by simp [List.getD,List.getElem?_eq_none hi]⟩).mono fun e y he=> ?_
  ·rintro n ⟨t,h',s⟩ ⟨⟨g,ht⟩,hh,hle,hz⟩;simp only at ht hh;subst ht hh;cases n with
   | zero=>
    refine (Zj (Zf Zd) (Zod _ _ _ undef Zn g) (Z2 (by rfl))).mono fun e y he=> ?_;obtain⟨rfl,⟨g',h2⟩,h3⟩:=he;have e0:Z3 L=0:=Zee hz (.inl rfl);exact⟨rfl,⟨g',by rw[h2,e0]⟩,h3⟩
   | succ k=>
    have ek:i1 ((k+1:Nat):Int)=(k:Int):=by
     unfold i1;rw[ZL (by omega) (by omega)];omega
    have hcell:=hR.cell (k:=k) (by omega);have hce:ZC (l[o+(i1 ((k+1:Nat):Int)).toNat*1]?) (.int .u32 (L.getD k 0))=true:=by
     rw[ek,Xg,Nat.mul_one,hcell];simp [ZC]
    have hix:decide (0≤i1 ((k+1:Nat):Int)∧i1 ((k+1:Nat):Int)<(L.length:Int))=true:=by rw[ek];exact Xa (by omega)
    have hgt:decide (((k+1:Nat):Int)>0)=true:=Xa (by omega);by_cases hx:L.getD k 0=0
    ·refine (Zj (Zf Zd) (Zwo o L.length c ((k+1:Nat):Int) (L.getD k 0) l undef Zn g) (Zt (by rw[hx];rfl) (Zt hce (Zt hix (Z2 hgt))))).mono fun e y he=> ?_;obtain⟨rfl,⟨g',h2⟩,h3⟩:=he;rw[ek] at h2;refine⟨k,by omega,⟨g',h2⟩,h3,by omega,fun i hi=> ?_⟩;rcases Nat.lt_or_ge k i with h | h
     ·exact hz i h
     ·have:i=k:=by omega
      rw[this];exact hx
    ·refine (Zj (Zf Zd) (Zoc o L.length c ((k+1:Nat):Int) (L.getD k 0) l undef Zn g) (Zt (by simpa using hx) (Zt hce (Zt hix (Z2 hgt))))).mono fun e y he=> ?_;obtain⟨rfl,⟨g',h2⟩,h3⟩:=he;have e0:Z3 L=k+1:=Zee hz (.inr (by simpa using hx));exact⟨rfl,⟨g',by rw[h2,e0]⟩,h3⟩
  ·match e,he with
   | none,he=>exact⟨rfl,he⟩
 ·rintro⟨t,h',s⟩ ⟨_,⟨g',ht⟩,hh⟩;simp only at ht hh;subst ht hh;have hle:=ZcU L;have hp:Za8 0 (Z3 L:Nat) (Z3 L:Nat) (L.length:Nat)=true:=by unfold Za8;exact Xa (by omega)
  unfold Zd4 at hc;simp only[Bool.or_eq_true,Xh] at hc;rcases hc with ⟨h1,h2⟩ | ⟨h1,h2⟩
  ·have h2:=Nat.le_of_ble_eq_true h2;have h1':c<4611686018427387904:=Zk.1 h1;refine (Zj (Zf Zd) (Zsr o L.length c (Z3 L) l undef Zn g') (Zt h1 (Zt (by unfold Za8;exact Xa (by omega)) (Z2 (Xb (by omega)))))).mono fun e y he=> ?_;obtain⟨rfl,⟨g2,h2⟩,h3⟩:=he;refine⟨.inr rfl,?_⟩;rw[h2,h3];rfl
  ·have h1:=Xj h1;have h2:=Xj h2;subst h1 h2;have hlen:=hR.len;refine (Zj (Zf Zd) (Zoe L.length (Z3 L) l undef Zn g') (Zt hp (Zt (Xb (by omega)) (Z2 (by
    rw[ZeO,Nat.ble_eq_true_of_le (by omega)];rfl))))).mono fun e y he=> ?_
   obtain⟨rfl,⟨g2,h2⟩,h3⟩:=he;refine⟨.inr rfl,?_⟩;rw[h2,h3];rfl
def ZaK (ty:TypeId) (l:List Value) (o n c:Nat):Bool:= !(Zam ty) && Nat.beq (rt ty) tU && Nat.ble (o+n) l.length && Nat.blt n 4611686018427387904 && Zd4 o n c && (ZkW l o n).all isU && l.all still
theorem ZU {ty:TypeId}{l:List Value}{o n c:Nat}(h:ZaK ty l o n c=true):Row l o (zu l o n)∧(zu l o n).length=n∧n<4611686018427387904∧Zd4 o n c=true∧Zam ty=false∧rt ty=tU∧∀ v∈l,still v=true:=by
 unfold ZaK at h;simp only[Xh,Bool.not_eq_true'] at h;obtain⟨⟨⟨⟨⟨⟨h1,h2⟩,h3⟩,h4⟩,h5⟩,h6⟩,h7⟩:=h;have h2:=Xj h2;have h3:=Nat.le_of_ble_eq_true h3;have h4:=Zk.1 h4;have hlen:(zu l o n).length=n:=by unfold zu ZkW;simp;omega
 refine⟨⟨by rw[hlen];exact h3,by rw[hlen];exact Zi0 h6,fun x hx=> ?_⟩,hlen,h4,h5,h1,h2,List.all_eq_true.1 h7⟩;unfold zu at hx;obtain⟨v,hv,rfl⟩:=List.mem_map.1 hx;have:=Zh1 (List.all_eq_true.1 h6 v hv);exact⟨this.2.1,this.2.2⟩
theorem Zlb:Zw (Ze (Zi prog Zh Zo true) 100 74 [Zn] []) Zn []:=by and_intros<;>kernel_rfl
def Zh2:Zcl:=fun vals h s=>
 match vals with
 | [.slice none 0 0]=>some (Zn,h,s,[])
 | [.slice (some ⟨b,o,none⟩) n c]=>
  match h.blk? b with
  | some x=>some (sl b o (Z3 (zu x.1 o n)) (Z3 (zu x.1 o n)),h,s,[(ZaK x.2 x.1 o n c,true)])
  | none=>none
 | _=>none
theorem ZfE:za 74 Zh2:=by
 intro vals h s v h' s' lg hg hl m B w E hv;unfold Zh2 at hg;split at hg
 ·cases hg;refine (Zb (Zf Zd) Zlb (fun x hx=>by cases hx) (by rfl) (by rfl) w).mono fun e w' he=> ?_;obtain⟨E',hb⟩:=Zaf E he.2;exact⟨m,he.1,⟨Agree.refl _ _,E',hb,Nat.le_refl _,rfl⟩⟩
 ·rename_i b o n c;split at hg
  ·rename_i x hx;cases hg;obtain⟨h1,h2,h3,h4,h5,h6,h7⟩:=ZU (hl _ Xf);have hlt:=Hp.blk_lt hx;have r:=Zi3 (c:=c) h1 (by rw[h2];exact h3) (by rw[h2];exact h4);rw[h2] at r;have:=ZfC (T:=Zi prog Zh Zo true) func74 Zi2 (ZcH h7) (vals:=[sl 0 o n c]) (fun v hv=>by rw[List.mem_singleton.1 hv];rfl) (by rfl) r E (s:=fun _=>b) (fun i _=>hlt) (Zbq hx h5 h6 rfl);exact this.mono fun e w' he=>⟨m,he.1,he.2⟩
  ·cases hg
 ·cases hg
end Go.Proofs.YtekebccjflilnaaGreat
namespace Go.Proofs.YtekebccjflilnaaGreat
open Go.Proofs.Tryz
open Go.KRun Go.Nt
set_option maxRecDepth 100000
def hcU:Hc:=Zb4 74 Zh2 hcN
theorem Zwp:HcOk hcU:=ZA func74 rfl ZfE ZfD
theorem ZP (L:List Int):∀ v∈wU L,still v=true:=fun v hv=>by
 unfold wU at hv;obtain⟨x,_,rfl⟩:=List.mem_map.1 hv;rfl
theorem Zqk (L:List Int):(wU L).all one=true:=List.all_eq_true.2 fun v hv=>by
 unfold wU at hv;obtain⟨x,_,rfl⟩:=List.mem_map.1 hv;rfl
theorem ZO (L M:List Int):wU (L++M)=wU L++wU M:=by simp [wU]
theorem Zbr (L:List Int):(wU L).length=L.length:=by simp [wU]
theorem ZaD (L:List Int):zu (wU L) 0 L.length=L:=by
 unfold zu ZkW;rw[List.drop_zero,← Zbr,List.take_length];unfold wU;rw[List.map_map];exact List.map_id' _
theorem zY {L:List Int}(h:∀ x∈L,0≤x∧x<4294967296) (hl:L.length<4611686018427387904) {c:Nat}(hc:Zd4 0 L.length c=true):ZaK tU (wU L) 0 L.length c=true:=by
 unfold ZaK;have e1:Zam tU=false:=by kernel_rfl
 have e2:Nat.beq (rt tU) tU=true:=by kernel_rfl
 have e3:Nat.ble (0+L.length) (wU L).length=true:=Nat.ble_eq_true_of_le (by rw[Zbr];omega);have e4:Nat.blt L.length 4611686018427387904=true:=Zk.2 hl;have e5:((ZkW (wU L) 0 L.length).all isU)=true:=by
  unfold ZkW;rw[List.drop_zero,← Zbr,List.take_length];refine List.all_eq_true.2 fun v hv=> ?_;unfold wU at hv;obtain⟨x,hx,rfl⟩:=List.mem_map.1 hv;exact Xa (h x hx)
 have e6:((wU L).all still)=true:=List.all_eq_true.2 fun v hv=>by
  unfold wU at hv;obtain⟨x,_,rfl⟩:=List.mem_map.1 hv;rfl
 rw[e1,e2,e3,e4,hc,e5,e6];rfl
theorem ZaE {L M:List Int}{k:Nat}(hk:k=L.length) (hM:0<M.length) (hb:L.length+M.length≤1073741824):zQ tU (wU L,tU) (wU M,tU) k 0 M.length=true:=by
 subst hk;unfold zQ;simp only[Xh,Bool.not_eq_true',Zbr];refine⟨⟨⟨⟨⟨⟨⟨⟨Nat.beq_refl _,Nat.ble_eq_true_of_le hb⟩,by kernel_rfl⟩,by kernel_rfl⟩,by kernel_rfl⟩,by kernel_rfl⟩,Nat.ble_eq_true_of_le (by omega)⟩,Zk.2 hM⟩,?_⟩;rw[List.drop_zero,← Zbr,List.take_length];exact Zqk M
theorem Zu3 (n:Nat):Zd4 0 n grown=true:=by unfold Zd4;rw[show Nat.beq grown grown=true from by kernel_rfl,show Nat.beq 0 0=true from rfl];simp
theorem Zh3 {L:List Int}{k:Nat}(h:k<L.length):L.getD k 0=L[k]:=by simp [List.getD,List.getElem?_eq_getElem h]
theorem ZfF {T:Tab}{a b c:Code}{x:Lf}{P1 P2 P:Ex→Lf→Prop}(h1:RunsW T a x P1) (n1:∀ e y,P1 (some e) y→False) (h2:∀ y,P1 none y→RunsW T b y P2) (n2:∀ e y,P2 (some e) y→False) (h3:∀ y,P2 none y→RunsW T c y P):RunsW T (.seq (.seq a b) c) x P:=
 RunsW.seq (P1:=P2) (RunsW.seq (P1:=P1) h1 h2 (fun e y he=>(n1 e y he).elim)) h3 (fun e y he=>(n2 e y he).elim)
def d16 (V:Nat):List Int:=db 65536 V
theorem Zbs (L:List Int):∀ u∈wU L,lt1 0 u=true:=fun v hv=>by
 unfold wU at hv;obtain⟨x,_,rfl⟩:=List.mem_map.1 hv;rfl
def Zu (h:Hp) (p:Option Addr) (n:Nat):List Int:=
 match p with
 | none=>[]
 | some a=>
  match h.blk? a.block with
  | some x=>zu x.1 a.off n
  | none=>[]
def zS (h:Hp) (p:Option Addr) (n c:Nat):Bool:=
 match p with
 | none=>Nat.beq n 0 && Nat.beq c 0
 | some a=>
  match a.spot,h.blk? a.block with
  | none,some x=>ZaK x.2 x.1 a.off n c && x.1.all still
  | _,_=>false
def atN (L:List Int) (i:Int):Int:=if 0≤i then L.getD i.toNat 0 else 0
theorem Z8 {h:Hp}{p:Option Addr}{n c:Nat}(hr:zS h p n c=true):(p=none∧n=0∧c=0∧Zu h p n=[])∨∃ b o x,p=some ⟨b,o,none⟩∧h.blk? b=some x∧ZaK x.2 x.1 o n c=true∧(∀ v∈x.1,still v=true)∧Zu h p n=zu x.1 o n:=by
 unfold zS at hr;split at hr
 ·simp only[Xh] at hr;exact .inl ⟨rfl,Xj hr.1,Xj hr.2,rfl⟩
 ·rename_i a;split at hr
  ·rename_i x hs hx;simp only[Xh] at hr;obtain⟨b,o,sp⟩:=a;simp only at hs hx;subst hs;exact .inr ⟨b,o,x,rfl,hx,hr.1,List.all_eq_true.1 hr.2,by simp [Zu,hx]⟩
  ·cases hr
theorem Zlc:f76.body=some (Zv f76):=by kernel_rfl
theorem Z02 (o n c:Nat) (i x:Int) (l:List Value):Zm (evC (Zi prog Zh Zo true) 100 false (Zv f76) ([sl 0 o n c,.int .i64 i]++List.replicate 15 undef,⟨1,[(l,tR)]⟩,[cmp true,cmp true,at_,val (.int .u32 x)]) ⟨[],[],[]⟩) 5 12 (some none) [sl 0 o n c,.int .i64 i,undef,undef,.int .u32 x] ⟨1,[(l,tR)]⟩ [(ZC (l[o+i.toNat*1]?) (.int .u32 x),true),(decide (0≤i∧i<n),true),(decide (i<n),true),(decide (i≥0),true)]:=by and_intros<;>kernel_rfl
theorem Zss (p:Option Addr) (n c:Nat) (i:Int) (h:Hp):Zm (evC (Zi prog Zh Zo true) 100 false (Zv f76) ([.slice p n c,.int .i64 i]++List.replicate 15 undef,h,[cmp true,cmp false]) ⟨[],[],[]⟩) 5 12 (some none) [.slice p n c,.int .i64 i,undef,undef,.int .u32 0] h [(decide (i<n),false),(decide (i≥0),true)]:=by and_intros<;>kernel_rfl
theorem Zof (p:Option Addr) (n c:Nat) (i:Int) (h:Hp):Zm (evC (Zi prog Zh Zo true) 100 false (Zv f76) ([.slice p n c,.int .i64 i]++List.replicate 15 undef,h,[cmp false]) ⟨[],[],[]⟩) 5 12 (some none) [.slice p n c,.int .i64 i,undef,undef,.int .u32 0] h [(decide (i≥0),false)]:=by and_intros<;>kernel_rfl
theorem Zld {p:Option Addr}{n c:Nat}{i:Int}{h:Hp}(hi:i<0∨(n:Int)≤i):Runs (Zi prog Zh Zo true) (Zv f76) ([.slice p n c,.int .i64 i]++List.replicate 15 undef,h,[]) fun e y=>(e=none∨e=some none)∧Zau prog f76 y.1 y.2.1=some (.int .u32 0):=by
 by_cases h0:i<0
 ·refine (Zj (Zf Zd) (Zof p n c i h) (Z2 (Xb (by omega)))).mono fun e y he=> ?_;obtain⟨rfl,⟨g,e2⟩,e3⟩:=he;refine⟨.inr rfl,?_⟩;rw[e2,e3];rfl
 ·refine (Zj (Zf Zd) (Zss p n c i h) (Zt (Xb (by omega)) (Z2 (Xa (by omega))))).mono fun e y he=> ?_;obtain⟨rfl,⟨g,e2⟩,e3⟩:=he;refine⟨.inr rfl,?_⟩;rw[e2,e3];rfl
theorem Zst {l:List Value}{o c:Nat}{L:List Int}(i:Int) (hR:Row l o L):
  Runs (Zi prog Zh Zo true) (Zv f76) ([sl 0 o L.length c,.int .i64 i]++List.replicate 15 undef,⟨1,[(l,tR)]⟩,[]) fun e y=>(e=none∨e=some none)∧Zau prog f76 y.1 y.2.1=some (.int .u32 (atN L i)):=by
 by_cases hi:i<0∨(L.length:Int)≤i
 ·have e0:atN L i=0:=by
   unfold atN;split
   ·have:L.length≤i.toNat:=by omega
    simp [List.getD,List.getElem?_eq_none this]
   ·rfl
  rw[e0];exact Zld hi
 ·have h0:0≤i:=by omega
  have hlt:i.toNat<L.length:=by omega
  have e0:atN L i=L.getD i.toNat 0:=by unfold atN;rw[if_pos h0]
  rw[e0];have hc:=hR.cell hlt;refine (Zj (Zf Zd) (Z02 o L.length c i (L.getD i.toNat 0) l) (Zt (by rw[Nat.mul_one,hc];simp [ZC]) (Zt (Xa (by omega)) (Zt (Xa (by omega)) (Z2 (Xa (by omega))))))).mono fun e y he=> ?_;obtain⟨rfl,⟨g,e2⟩,e3⟩:=he;refine⟨.inr rfl,?_⟩;rw[e2,e3];rfl
def gAt:Zcl:=fun vals h s=>
 match vals with
 | [.slice p n c,.int .i64 i]=>some (.int .u32 (atN (Zu h p n) i),h,s,[(zS h p n c,true)])
 | _=>none
theorem Zql:za 76 gAt:=by
 intro vals h s v h' s' lg hg hl m B w E hv;unfold gAt at hg;split at hg
 ·rename_i p n c i;cases hg;have q:=hl _ Xf;simp only at q;rcases Z8 q with ⟨rfl,rfl,rfl,e0⟩ | ⟨b,o,x,rfl,hx,q1,_,e0⟩
  ·rw[e0];have hz:atN [] i=0:=by unfold atN;split<;>simp
   rw[hz];have hi:i<0∨((0:Nat):Int)≤i:=by omega
   refine (ZaU (T:=Zi prog Zh Zo true) func76 Zlc (vals:=[Zn,.int .i64 i]) (v:= .int .u32 0) (by rfl) (by rfl) (Zld (p:=none) (n:=0) (c:=0) (i:=i) (h:=⟨0,[]⟩) hi) w).mono fun e w' he=> ?_;obtain⟨E',hb⟩:=Zaf E he.2;exact⟨m,he.1,⟨Agree.refl _ _,E',hb,Nat.le_refl _,rfl⟩⟩
  ·rw[e0];obtain⟨h1,h2,h3,h4,h5,h6,h7⟩:=ZU q1;have hlt:=Hp.blk_lt hx;have r:=Zst (c:=c) i h1;rw[h2] at r;have:=ZfC (T:=Zi prog Zh Zo true) func76 Zlc (ZcH h7) (vals:=[sl 0 o n c,.int .i64 i]) (fun v hv=>by
    simp only[List.mem_cons,List.not_mem_nil,or_false] at hv;rcases hv with rfl | rfl<;>rfl) (by rfl) r E (s:=fun _=>b) (fun i _=>hlt) (Zbq hx h5 h6 rfl)
   exact this.mono fun e w' he=>⟨m,he.1,he.2⟩
 ·cases hg
def hcV:Hc:=Zb4 76 gAt hcU
theorem Zs:HcOk hcV:=ZA func76 rfl Zql Zwp
end Go.Proofs.YtekebccjflilnaaGreat
