/-
  ShR, ShS, ShT, SiC, SiD, ShW, RunO, PtA, PtT, SiE, SiF, SiG
-/
import Derived.Test.YtgefjidphfdhdaaGreatDoorG18
namespace Go.Proofs.YtgefjidphfdhdaaGreatDoor
open Go.Proofs.Tryz
open Go.KRun Go.Nt Go.Rd Go.Wd Go.Pt
set_option maxRecDepth 100000
def Zoh (k:Int):Value:= .iface 69 (.int .i64 k)
theorem Z15 (p n m:Int):ZH (ZK (Zm prog Zg Zea Zo1) hT0 200 12 [.int .u64 p,.int .i64 n,.int .i64 m] [cmp true]) (.tuple #[bR [],Zoh 1]) [(decide (n<1),true)]:=by and_intros<;>kernel_rfl
theorem Z16 (p n m:Int):ZH (ZK (Zm prog Zg Zea Zo1) hT0 200 12 [.int .u64 p,.int .i64 n,.int .i64 m] [cmp false,cmp true]) (.tuple #[bR [],Zoh 1]) [(decide (n>1000),true),(decide (n<1),false)]:=by and_intros<;>kernel_rfl
theorem Z17 (p n m:Int):ZH (ZK (Zm prog Zg Zea Zo1) hT0 200 12 [.int .u64 p,.int .i64 n,.int .i64 m] [cmp false,cmp false,cmp false]) (.tuple #[bR (nmL (sgn p) (cl p)),.nilIface]) [(decide (cl p≤2),false),(decide (U p),true),(decide (U p),true),(decide (n>1000),false),(decide (n<1),false)]:=by and_intros<;>kernel_rfl
theorem Z18 (p n m:Int):ZH (ZK (Zm prog Zg Zea Zo1) hT0 200 12 [.int .u64 p,.int .i64 n,.int .i64 m] [cmp false,cmp false,cmp true,cmp true]) (.tuple #[bR (txL (sgn p) (List.replicate n.toNat 48) 0),.nilIface]) [(decide (1≤(List.replicate n.toNat (48:UInt8)).length∧(List.replicate n.toNat (48:UInt8)).length≤100000∧Int.natAbs 0≤2000000),true),(decide (0≤n∧n≤100000),true),(cl p==0,true),(decide (cl p≤2),true),(decide (U p),true),(decide (U p),true),(decide (n>1000),false),(decide (n<1),false)]:=by and_intros<;>kernel_rfl
def aD (p:Int):List UInt8:=zD (ZdT (sg p).toNat (xp p))
def aE (p:Int):Int:=((aD p).length:Int)-1-(wzN (xp p):Nat)
def aR (p n m:Int):List UInt8×Int:=rnD (aD p) (aE p) n.toNat (sgn p) m
theorem Z19 (p n m:Int):ZH (ZK (Zm prog Zg Zea Zo1) hT0 200 12 [.int .u64 p,.int .i64 n,.int .i64 m] [cmp false,cmp false,cmp true,cmp false]) (.tuple #[bR (txL (sgn p) (aR p n m).1 (aR p n m).2),.nilIface]) [(decide (1≤(aR p n m).1.length∧(aR p n m).1.length≤100000∧(aR p n m).2.natAbs≤2000000),true),(ZcX 10 (aD p),true),(decide ((1≤(aD p).length∧(aD p).length≤90000)∧(1≤n∧n≤1000)∧(-100000≤aE p∧aE p≤100000)),true),(decide (1≤sg p∧sg p<9007199254740992∧ -1074≤xp p∧xp p≤972),true),(cl p==0,false),(decide (cl p≤2),true),(decide (U p),true),(decide (U p),true),(decide (n>1000),false),(decide (n<1),false)]:=by and_intros<;>kernel_rfl
def ZbJ (p:Int) (n:Nat) (m:Int):List UInt8:=if spK p≠0 then spL (spK p) else if cl p=0 then txL (sgn p) (List.replicate n 48) 0 else ZmS p n m
theorem Z1A {D:List UInt8}{e:Int}{n:Nat}{mn:Bool}{m:Int}:(rnD D e n mn m).1.length=n∧e≤(rnD D e n mn m).2∧(rnD D e n mn m).2≤e+1:=by
 unfold rnD;by_cases h:D.length≤n
 ·rw[if_pos h];refine⟨?_,Int.le_refl _,by omega⟩;show (D++List.replicate (n-D.length) 48).length=n;rw[List.length_append,List.length_replicate];omega
 ·rw[if_neg h];have lt:(D.take n).length=n:=by rw[List.length_take];omega
  split
  ·obtain⟨n1,n2⟩:=Zno (l:=D.take n);refine⟨?_,?_,?_⟩
   ·show ((ZaZ (D.take n)).take n).length=n;rw[List.length_take];omega
   ·show e≤e+((ZaZ (D.take n)).length:Nat)-n;omega
   ·show e+((ZaZ (D.take n)).length:Nat)-n≤e+1;omega
  ·refine⟨?_,?_,?_⟩
   ·show ((D.take n).take n).length=n;rw[List.length_take];omega
   ·show e≤e+((D.take n).length:Nat)-n;omega
   ·show e+((D.take n).length:Nat)-n≤e+1;omega
theorem Zoi (p:Int) (hp:U p) (n:Nat) (hn:1≤n∧n≤1000) (m:Int) (w:World) (hk:knT w):Calls prog 12 #[.int .u64 p,.int .i64 n,.int .i64 m] w fun e w'=>e= .returned (.tuple #[bR (ZbJ p n m),.nilIface])∧zH w w':=by
 have hu:decide (U p)=true:=Xa hp;have k0:Zu [(decide (((n:Nat):Int)>1000),false),(decide (((n:Nat):Int)<1),false)]:=Za (Xb (by omega)) (ZB (Xb (by omega)));have k0:=Za hu (Za hu k0);unfold ZbJ;by_cases h2:cl p≤2
 ·have k0:=Za (show decide (cl p≤2)=true from Xa h2) k0;rw[if_neg (fun c=>c (Zg4 h2))];by_cases h0:cl p=0
  ·rw[if_pos h0];have f:=Z18 p n m;rw[Xg] at f;exact ZbZ Zg3 f (Za (Xa ⟨by rw[List.length_replicate];omega,by rw[List.length_replicate];omega,by decide⟩) (Za (Xa (by omega)) (Za (zy h0) k0))) (by rfl) (by rfl) hk
  ·rw[if_neg h0];have hf:=ZdR (Zog h2 h0);have hW:=Z0s (xp p) hf.ne;obtain⟨l1,l2,l3⟩:=Zak hW;have hT:=Z0t hf hn.1 m l1 l2 l3;rw[← ZdN hW] at hT;have f:=Z19 p n m;have et:txL (sgn p) (aR p n m).1 (aR p n m).2=ZmS p n m:=by
    unfold aR;rw[Xg];exact hT
   rw[et] at f;have q0:=Go.Rn.sg_lt p;have q1:=hf.ne;have x0:=hf.e0;have x1:=hf.e1;obtain⟨K,hK⟩:∃ K,K=1074:=⟨_,rfl⟩;have wl:=Znt hf.s1 ⟨x0,x1⟩ K hK;have lb:(aD p).length≤16+K:=by
    rcases Nat.lt_or_ge (16+K) (aD p).length with c | c
    ·have:=Nat.pow_le_pow_right (n:=10) (by omega) (show 16+K≤(aD p).length-1 by omega);have l2':10^((aD p).length-1)≤ZdT (sg p).toNat (xp p):=l2;omega
    ·exact c
   have zb:wzN (xp p)≤1074:=by unfold wzN;omega
   have l1':1≤(aD p).length:=l1;have eb: -2000≤aE p∧aE p≤2000:=by unfold aE;omega
   obtain⟨r1,r2,r3⟩:=Z1A (D:=aD p) (e:=aE p) (n:=(n:Int).toNat) (mn:=sgn p) (m:=m);rw[Xg] at r1;have al:ZcX 10 (aD p)=true:=by
    have:aD p=Zbj (aD p).length (ZdT (sg p).toNat (xp p)):=ZdN hW;rw[this];exact ZqO _ _ 10
   refine ZbZ Zg3 f (Za (Xa ?_) (Za al (Za (Xa ⟨⟨l1',by omega⟩,⟨by omega,by omega⟩,by omega,by omega⟩) (Za (Xa ⟨by omega,by omega,x0,x1⟩) (Za (ze h0) k0))))) (by rfl) (by rfl) hk;have e1:(aR p n m).1.length=n:=by unfold aR;rw[Xg];exact r1
   have e2:aE p≤(aR p n m).2∧(aR p n m).2≤aE p+1:=⟨r2,r3⟩;omega
 ·obtain⟨a,b⟩:=ZrA hp h2;rw[if_pos a,← b];exact ZbZ Zg3 (Z17 p n m) (Za (Xb h2) k0) (by rfl) (by rfl) hk
def Z5C:Ans:=fun vals s=>
 match vals,s with
 | [.int .u64 p,.int .i64 n,.int .i64 m],.inr (.inr (.inr (.inl true)))::s'=>some (.tuple #[bR (ZbJ p n.toNat m),.nilIface],s',[(decide (1≤n∧n≤1000),true),(decide (U p),true)])
 | [.int .u64 _,.int .i64 n,.int .i64 _],.inr (.inr (.inr (.inl false)))::s'=>some (.tuple #[bR [],Zoh 1],s',[(decide (1≤n∧n≤1000),false)])
 | _,_=>none
theorem ZwU:ZbM 12 Z5C:=by
 intro vals s v s' lg h hl w hk;unfold Z5C at h;split at h
 ·rename_i p n m s2;cases h;obtain⟨l1,l2⟩:=Xc (hl _ Xe);have l3:=Xc (hl _ (Xd _ Xf));obtain⟨k,rfl⟩:∃ k:Nat,n=k:=⟨n.toNat,by omega⟩;exact Zoi p l3 k (by omega) m w hk
 ·rename_i p n m s2;cases h;have l1:=of_decide_eq_false (hl _ Xf);by_cases c:n<1
  ·exact ZbZ Zg3 (Z15 p n m) (ZB (Xa c)) (by rfl) (by rfl) hk
  ·exact ZbZ Zg3 (Z16 p n m) (Za (Xa (by omega)) (ZB (Xb c))) (by rfl) (by rfl) hk
 ·cases h
end Go.Proofs.YtgefjidphfdhdaaGreatDoor
namespace Go.Proofs.YtgefjidphfdhdaaGreatDoor
open Go.Proofs.Tryz
open Go.IntKind
open Go.KRun Go.Nt Go.Rd Go.Wd Go.Pt
set_option maxRecDepth 100000
theorem ZrC:z8 43 (gU fun p=> .string (hxW p)):=Znb ZnM
def ZjK:Con:=alt 20 (gU vT) (alt 22 Z2v (alt 44 Z05 (alt 45 Z2u (alt 43 (gU fun p=> .string (hxW p)) (alt 42 Z0y Zn)))))
theorem ZrD:ConOk ZjK:=ZF func20 rfl Zg2 (ZF func22 rfl Znl (ZF func44 rfl Zhu (ZF func45 rfl Znk (ZF func43 rfl ZrC (ZF func42 rfl Zhq Ze)))))
theorem ZrE:TabOk (Zm prog Zg ZjK ZwQ):=Zp ZrD Zoe
def hfD (p:Int):List UInt8:=(hxW p).data.toList.drop 3
def hfT (p:Int) (c:UInt8):List UInt8:=ptL ([c]++trC 48 (hfD p))
def hfW (p:Int) (c:UInt8) (x:Int):List UInt8:=(((mnL (sgn p)++[48,120])++hfT p c)++[112])++Zca x
def lHf (p:Int) (c:UInt8) (x:Int) (l:Log):Log:=(decide ((((mnL (sgn p)++[48,120])++hfT p c)++[112]).length+(Zca x).length≤9223372036854775807),true)::(decide (x.natAbs≤2000000),true)::(decide (((mnL (sgn p)++[48,120])++hfT p c).length+1≤9223372036854775807),true)::(decide ((mnL (sgn p)++[48,120]).length+(hfT p c).length≤9223372036854775807),true)::(decide (1≤([c]++trC 48 (hfD p)).length∧([c]++trC 48 (hfD p)).length≤100000),true)::(decide (1+(trC 48 (hfD p)).length≤9223372036854775807),true)::(decide ((mnL (sgn p)).length+2≤9223372036854775807),true)::(true,true)::(decide ((hfD p).length≤100000),true)::(true,true)::(decide (U p),true)::l
theorem Z1B (p:Int):ZH (ZK (Zm prog Zg ZjK ZwQ) hT0 200 15 [.int .u64 p] [cmp false,cmp false,cmp false]) (bR (nmL (sgn p) (cl p))) [(cl p==2,false),(cl p==1,false),(cl p==0,false),(decide (U p),true)]:=by and_intros<;>kernel_rfl
theorem Z1C (p:Int):ZH (ZK (Zm prog Zg ZjK ZwQ) hT0 200 15 [.int .u64 p] [cmp true,sam true,sam true,sam true,sam true,sam true,sam true]) (bR (hfW p 48 0)) (lHf p 48 0 [(cl p==0,true),(decide (U p),true)]):=by and_intros<;>kernel_rfl
theorem Z1D (p:Int):ZH (ZK (Zm prog Zg ZjK ZwQ) hT0 200 15 [.int .u64 p] [cmp false,cmp true,sam true,sam true,sam true,sam true,sam true,sam true]) (bR (hfW p 48 (i64.wrap (xp p+52)))) (lHf p 48 (i64.wrap (xp p+52)) [(cl p==1,true),(cl p==0,false),(decide (U p),true)]):=by and_intros<;>kernel_rfl
theorem Z1E (p:Int):ZH (ZK (Zm prog Zg ZjK ZwQ) hT0 200 15 [.int .u64 p] [cmp false,cmp false,cmp true,sam true,sam true,sam true,sam true,sam true,sam true]) (bR (hfW p 49 (i64.wrap (xp p+52)))) (lHf p 49 (i64.wrap (xp p+52)) [(cl p==2,true),(cl p==1,false),(cl p==0,false),(decide (U p),true)]):=by and_intros<;>kernel_rfl
theorem Zh1 (p:Int):∀ k:Nat,hSn p k=p/16^k
 | 0=>by show p=p/16^0;rw[Int.pow_zero,Int.ediv_one]
 | k+1=>by
  show hSx (hSn p k)=_;rw[Zh1 p k];unfold hSx;have e:(2:Int)^min (Int.toNat 4) 64=16:=rfl;rw[e,Int.fdiv_eq_ediv_of_nonneg _ (by omega),Int.ediv_ediv_of_nonneg (Int.le_of_lt (Int.pow_pos (by omega))),Int.pow_succ]
theorem ZwV {q r:Int}(hq:U q) (hr:U r) (h:q % 16=r % 16):hBx q=hBx r:=by
 unfold hBx hC;have e:∀ q:Int,U q→Zig q 15=q % 16:=fun q hq=>by
  rw[Zb2 0 4 hq (by rfl) (by decide)];have e0:(2:Int)^0=1:=rfl;have e4:(2:Int)^4=16:=rfl;rw[e0,e4];omega
 rw[e q hq,e r hr,h]
theorem Zoj {p:Int}(hp:U p) (k:Nat):U (p/16^k):=by
 have h1:(0:Int)<16^k:=Int.pow_pos (by omega);unfold U at hp ⊢;exact⟨Int.ediv_nonneg hp.1 (by omega),Int.lt_of_le_of_lt (Int.ediv_le_self _ hp.1) hp.2⟩
theorem Z1F {p:Int}(hp:U p):hfD p=ZsU p:=by
 have key:∀ k:Nat,k≤12→hBx (hSn p k)=hBx (hSn (ZdZ p) k):=fun k hk=>by
  rw[Zh1,Zh1];have hf:ZdZ p=p % 4503599627370496:=by
   unfold ZdZ;have h1:=ZdY p;have h2:fr p=p % 4503599627370496:=rfl;have h3:0≤sg p:=(Go.Rn.sg_lt p).1;rw[Int.tmod_eq_emod_of_nonneg h3,← h2];unfold sg;split
   ·omega
   ·split<;>omega
  have hu:U (ZdZ p):=by rw[hf];unfold U;omega
  refine ZwV (Zoj hp k) (Zoj hu k) ?_;rw[hf];rcases (show k=0∨k=1∨k=2∨k=3∨k=4∨k=5∨k=6∨k=7∨k=8∨k=9∨k=10∨k=11∨k=12 by omega) with rfl | rfl | rfl | rfl | rfl | rfl | rfl | rfl | rfl | rfl | rfl | rfl | rfl
  all_goals
   simp only[show (16:Int)^0=1 from rfl,show (16:Int)^1=16 from rfl,show (16:Int)^2=256 from rfl,show (16:Int)^3=4096 from rfl,show (16:Int)^4=65536 from rfl,show (16:Int)^5=1048576 from rfl,show (16:Int)^6=16777216 from rfl,show (16:Int)^7=268435456 from rfl,show (16:Int)^8=4294967296 from rfl,show (16:Int)^9=68719476736 from rfl,show (16:Int)^10=1099511627776 from rfl,show (16:Int)^11=17592186044416 from rfl,show (16:Int)^12=281474976710656 from rfl];omega
 unfold hfD ZsU hxW;show [hBx (hSn p 12),hBx (hSn p 11),hBx (hSn p 10),hBx (hSn p 9),hBx (hSn p 8),hBx (hSn p 7),hBx (hSn p 6),hBx (hSn p 5),hBx (hSn p 4),hBx (hSn p 3),hBx (hSn p 2),hBx (hSn p 1),hBx (hSn p 0)]=[hBx (hSn (ZdZ p) 12),hBx (hSn (ZdZ p) 11),hBx (hSn (ZdZ p) 10),hBx (hSn (ZdZ p) 9),hBx (hSn (ZdZ p) 8),hBx (hSn (ZdZ p) 7),hBx (hSn (ZdZ p) 6),hBx (hSn (ZdZ p) 5),hBx (hSn (ZdZ p) 4),hBx (hSn (ZdZ p) 3),hBx (hSn (ZdZ p) 2),hBx (hSn (ZdZ p) 1),hBx (hSn (ZdZ p) 0)];rw[key 12 (by omega),key 11 (by omega),key 10 (by omega),key 9 (by omega),key 8 (by omega),key 7 (by omega),key 6 (by omega),key 5 (by omega),key 4 (by omega),key 3 (by omega),key 2 (by omega),key 1 (by omega),key 0 (by omega)]
theorem Zok {p:Int}(hp:U p) (c:UInt8) (x:Int):hfW p c x=Zx4 (sgn p) c (trR (ZsU p)) x:=by
 unfold hfW hfT Zx4 mnL;rw[Z1F hp,Z0p];cases trR (ZsU p) with
 | nil=>simp [ptL]
 | cons a r=>simp [ptL]
theorem ZwW {p:Int}(h:ZdZ p=0):trR (ZsU p)=[]:=by
 unfold ZsU;rw[h]
 decide
theorem Zol {p:Int}(hp:U p) (c:UInt8) {x:Int}(hx:x.natAbs≤2000000) {l:Log}(hl:Zu l):Zu (lHf p c x l):=by
 have l0:(hfD p).length=13:=rfl;have l1:=Zhv (sgn p);have l2:=Zfk 48 (hfD p);have l3:=Zof ([c]++trC 48 (hfD p));have l4:=Zff x;have l5:([c]++trC 48 (hfD p)).length=1+(trC 48 (hfD p)).length:=by rw[List.length_append];rfl
 have l6:(hfT p c).length≤([c]++trC 48 (hfD p)).length+1:=l3;have l7:(mnL (sgn p)++[48,120]).length=(mnL (sgn p)).length+2:=by rw[List.length_append];rfl
 have l8:((mnL (sgn p)++[48,120])++hfT p c).length=(mnL (sgn p)).length+2+(hfT p c).length:=by rw[List.length_append,l7]
 have l9:(((mnL (sgn p)++[48,120])++hfT p c)++[112]).length=(mnL (sgn p)).length+2+(hfT p c).length+1:=by rw[List.length_append,l8];rfl
 exact Za (Xa (by omega)) (Za (Xa hx) (Za (Xa (by omega)) (Za (Xa (by omega)) (Za (Xa (by omega)) (Za (Xa (by omega)) (Za (Xa (by omega)) (Za rfl (Za (Xa (by omega)) (Za rfl (Za (Xa hp) hl))))))))))
theorem Zom (p:Int) (hp:U p) (w:World) (hk:knT w):Calls prog 15 #[.int .u64 p] w fun e w'=>e= .returned (bR (Z1z p))∧zH w w':=by
 have hu:decide (U p)=true:=Xa hp;have xb:=Go.Rn.xp_bd p;have ew:i64.wrap (xp p+52)=xp p+52:=Zw (by omega) (by omega);unfold Z1z;by_cases h2:cl p≤2
 ·rw[if_neg (fun c=>c (Zg4 h2))];by_cases h0:cl p=0
  ·have hf:ZdZ p=0:=by
    unfold ZdZ;have:sg p=0:=by
     unfold cl at h0;unfold sg;split at h0
     ·rename_i c;rw[if_pos c];split at h0
      ·assumption
      ·omega
     ·split at h0
      ·split at h0
       ·omega
       ·split at h0<;>omega
      ·omega
    rw[this];rfl
   have f:=Z1C p;rw[Zok hp,ZwW hf] at f;rw[if_pos h0];have e:Zx4 (sgn p) 48 [] 0=(if sgn p=true then [45] else [])++[48,120,48,112,48]:=by
    unfold Zx4;rfl
   rw[e] at f;exact ZbZ ZrE f (Zol hp 48 (by decide) (Za (zy h0) (ZB hu))) (by rfl) (by rfl) hk
  ·rw[if_neg h0];by_cases h1:cl p=1
   ·have ex0:xp p= -1074:=by
     have:=Zfn p;unfold xp;rcases this with ⟨a,_⟩ | ⟨a,b⟩ | ⟨a,b,c⟩
     ·rw[if_pos a]
     ·omega
     ·omega
    have f:=Z1D p;rw[Zok hp,ew,show xp p+52= -1022 by omega] at f;rw[if_pos h1];exact ZbZ ZrE f (Zol hp 48 (by decide) (Za (zy h1) (Za (ze h0) (ZB hu)))) (by rfl) (by rfl) hk
   ·rw[if_neg h1];have h3:cl p=2:=by have:=Zfn p;omega
    have f:=Z1E p;rw[Zok hp,ew] at f;have lk:=Zol hp 49 (x:=xp p+52) (by omega) (Za (zy h3) (Za (ze h1) (Za (ze h0) (ZB hu))));exact ZbZ ZrE f lk (by rfl) (by rfl) hk
 ·obtain⟨a,b⟩:=ZrA hp h2;rw[if_pos a,← b];exact ZbZ ZrE (Z1B p) (Za (ze (by omega)) (Za (ze (by omega)) (Za (ze (by omega)) (ZB hu)))) (by rfl) (by rfl) hk
def Z5D:Ans:=gU fun p=>bR (shT p)
theorem ZwX:ZbM 9 Z5D:=by
 intro vals s v s' lg h hl w hk;unfold Z5D gU at h;split at h
 ·cases h;exact ZrB _ (Xc (hl _ Xf)) w hk
 ·cases h
def Z5E:Ans:=gU fun p=>bR (Z1z p)
theorem ZwY:ZbM 15 Z5E:=by
 intro vals s v s' lg h hl w hk;unfold Z5E gU at h;split at h
 ·cases h;exact Zom _ (Xc (hl _ Xf)) w hk
 ·cases h
end Go.Proofs.YtgefjidphfdhdaaGreatDoor
namespace Go.Proofs.YtgefjidphfdhdaaGreatDoor
open Go.Proofs.Tryz
open Go.KRun Go.Nt Go.Rd Go.Pt
set_option maxRecDepth 100000
def Z5F:Hc:=zx 9 (gT Z5D) (zx 12 (gT Z5C) (zx 15 (gT Z5E) hcN))
theorem Zon:HcOk Z5F:=Zt func9 rfl (Zfm ZwX) (Zt func12 rfl (Zfm ZwU) (Zt func15 rfl (Zfm ZwY) zw))
theorem Z6L:shT 4591870180066957722=[49,101,45,49]:=by decide+kernel
theorem Z6M:ZbJ 4607182418800017408 3 0=[49,46,48,48,101,48]:=by decide+kernel
theorem Z6N:Z1z 4609434218613702656=[48,120,49,46,56,112,48]:=by decide+kernel
theorem Z6O:ZH (ZK (Zm prog Zg Zn Z5F) hT0 200 11 [] [cmp true,sam true,sam true,sam true]) (.bool true) [Zdk (Z1z 4609434218613702656) [48,120,49,46,56,112,48] true,(decide (U 4609434218613702656),true),Zdk (ZbJ 4607182418800017408 3 0) [49,46,48,48,101,48] true,Zdk (shT 4591870180066957722) [49,101,45,49] true,(decide (U 4591870180066957722),true),(decide ((1:Int)≤3∧(3:Int)≤1000),true),(decide (U 4607182418800017408),true)]:=by and_intros<;>kernel_rfl
def ZwZ:Ans:=fun vals s=>
 match vals with
 | []=>some (.bool true,s,[])
 | _=>none
theorem ZrF:ZbM 11 ZwZ:=by
 intro vals s v s' lg h hl w hk;unfold ZwZ at h;split at h
 ·cases h;exact ZbZ (Zp Ze Zon) Z6O (Za (Zai (by rw[Z6N];rfl)) (Za (by decide) (Za (Zai (by rw[Z6M];rfl)) (Za (Zai (by rw[Z6L];rfl)) (Za (by decide) (Za (by decide) (ZB (by decide)))))))) (by rfl) (by rfl) hk
 ·cases h
def Z6f:Hc:=zx 11 (gT ZwZ) Z5F
theorem Zxa:HcOk Z6f:=Zt func11 rfl (Zfm ZrF) Zon
def ZW:Con:=alt 25 Z51 (alt 27 Z52 Zn)
theorem ZbE:ConOk ZW:=ZF func25 rfl ZwB (ZF func27 rfl ZwC Ze)
theorem Z6P (p n m:Int):ZH (Zr (Zo prog Zg ZW true) 300 13 [.int .u64 p,.int .i64 n,.int .i64 m] [cmp true]) (.tuple #[bR [],.int .i64 1]) [(decide (n<1),true)]:=by and_intros<;>kernel_rfl
theorem Z6Q (p n m:Int):ZH (Zr (Zo prog Zg ZW true) 300 13 [.int .u64 p,.int .i64 n,.int .i64 m] [cmp false,cmp true]) (.tuple #[bR [],.int .i64 1]) [(decide (n>1000),true),(decide (n<1),false)]:=by and_intros<;>kernel_rfl
theorem Z1G (p n m:Int) (h:¬ (1≤n∧n≤1000)) (w:World):Calls prog 13 #[.int .u64 p,.int .i64 n,.int .i64 m] w fun e w'=>e= .returned (.tuple #[bR [],.int .i64 1])∧zH w w':=by
 by_cases c:n<1
 ·exact Zf (Zl ZbE) (Z6P p n m) (ZB (Xa c)) (by rfl) (by rfl) w
 ·exact Zf (Zl ZbE) (Z6Q p n m) (Za (Xa (by omega)) (ZB (Xb c))) (by rfl) (by rfl) w
theorem Z6R (p n m k:Int):ZH (Zr (Zo prog Zg ZW true) 300 13 [.int .u64 p,.int .i64 n,.int .i64 m] [cmp false,cmp false,num k,sam true,num k]) (.tuple #[bR (spL k),.int .i64 0]) [(decide (spK p=k),true),(decide (U p),true),(!(Zdk (spL k) [] true).1,true),(decide (spK p=k),true),(decide (U p),true),(decide (n>1000),false),(decide (n<1),false)]:=by and_intros<;>kernel_rfl
theorem Z1H {k:Int}(h:k=1∨k=2∨k=3):(!(Zdk (spL k) [] true).1)=true:=by rcases h with rfl | rfl | rfl<;>rfl
theorem Zxb (p:Int) (h:spK p≠0):spK p=1∨spK p=2∨spK p=3:=by
 unfold spK at h ⊢;split
 ·exact .inl rfl
 ·split
  ·exact .inr (.inl rfl)
  ·split
   ·exact .inr (.inr rfl)
   ·rename_i a b c;rw[if_neg a,if_neg b,if_neg c] at h;exact absurd rfl h
theorem Z5G (p n m:Int) (hp:U p) (hn:1≤n∧n≤1000) (hs:spK p≠0) (w:World):Calls prog 13 #[.int .u64 p,.int .i64 n,.int .i64 m] w fun e w'=>e= .returned (.tuple #[bR (ZbJ p n.toNat m),.int .i64 0])∧zH w w':=by
 have hu:decide (U p)=true:=Xa hp;unfold ZbJ;rw[if_pos hs];exact Zf (Zl ZbE) (Z6R p n m (spK p)) (Za (Xa rfl) (Za hu (Za (Z1H (Zxb p hs)) (Za (Xa rfl) (Za hu (Za (Xb (by omega)) (ZB (Xb (by omega))))))))) (by rfl) (by rfl) w
end Go.Proofs.YtgefjidphfdhdaaGreatDoor
namespace Go.KRun
theorem Zoo {T:Tab}{b:Operand}{c1 c2:Code}{x:Lf}{P:Ex→Lf→Prop}{v:Bool}(hb:okX b=true) (hv:ev x.1 b= .bool v) (h:Runs T (if v=true then c1 else c2) x P):Runs T (.cond b c1 c2) x P:=by
 intro m B a w R Q hQ;have hev:a.eval b= .bool v:=by rw[Zy R.tmps hb,hv];simp [mv,mv2,mv1]
 cases v
 ·exact wp_cond_false hev (h m B a w R Q hQ)
 ·exact wp_cond_true hev (h m B a w R Q hQ)
def cTh:Code→Code
 | .cond _ a _=>a
 | c=>c
end Go.KRun
namespace Go.Proofs.YtgefjidphfdhdaaGreatDoor
open Go.Proofs.Tryz
open Go.KRun Go.Nt Go.Rd Go.Pt
set_option maxRecDepth 100000
def drZ (F:Func):Code:=cTh (Zz (sP F 5))
def drL (F:Func):Code:=cIn (cIn (Z1 (drZ F)))
def drE (F:Func):Code:=Zz (drZ F)
theorem Zxc:f13.body=some (zo [sP f13 0,sP f13 1,sP f13 2,sP f13 3,sP f13 4] (.seq (.seq (Z1 (sP f13 5)) (.cond (.tmp 33) (.seq (.block 0 (.loop (drL f13))) (drE f13)) .skip)) (sK f13 6))):=by kernel_rfl
def drF (p n m:Int) (b:Bool) (S:List UInt8):List Value:=[.int .u64 p,.int .i64 n,.int .i64 m,undef,undef,undef,bR [],.int .i64 0,.bool b,bR S,undef,undef,undef,undef,undef,undef,undef,undef,.int .i64 n,.bool false,.bool false,.int .i64 n,.bool false,.bool false,.int .u64 p,bR [],.bool false,undef,undef,.int .u64 p,.bool b,.int .u64 p,.int .u64 (p.tmod 9223372036854775808),.bool true]
def drQ (p n m:Int) (b:Bool):List Value:=[.int .u64 p,.int .i64 n,.int .i64 m,undef,undef,undef,bR [],.int .i64 0,.bool b,bR [],undef,undef,undef,undef,undef,undef,undef,undef,.int .i64 n,.bool false,.bool false,.int .i64 n,.bool false,.bool false,.int .u64 p,bR [],.bool false,undef,undef,.int .u64 p,.bool b]
theorem Z1I (p n m:Int) (b:Bool):Zh (evL (Zo prog Zg ZW true) 300 [sP f13 0,sP f13 1,sP f13 2,sP f13 3,sP f13 4] ([.int .u64 p,.int .i64 n,.int .i64 m]++List.replicate 126 undef,⟨0,[]⟩,[cmp false,cmp false,num 0,cmp b]) ⟨[],[],[]⟩) 31 98 none (drQ p n m b) ⟨0,[]⟩ [(decide (p≥9223372036854775808),b),(decide (spK p=0),true),(decide (U p),true),(decide (n>1000),false),(decide (n<1),false)]:=by and_intros<;>kernel_rfl
theorem Z5H (p n m:Int) (b:Bool) (g:Nat→Value):Zh (evC (Zo prog Zg ZW true) 300 false (Z1 (sP f13 5)) (drQ p n m b++tl 98 g,⟨0,[]⟩,[cmp false,cmp true]) ⟨[],[],[]⟩) 34 95 none (drF p n m b []) ⟨0,[]⟩ [(p.tmod 9223372036854775808==0,true),(decide ((9223372036854775808:Int)=0),false)]:=by and_intros<;>kernel_rfl
theorem Z5I (p n m:Int) (b:Bool) (S:List UInt8) (g:Nat→Value):Zh (evC (Zo prog Zg ZW true) 300 false (drL f13) (drF p n m b S++tl 95 g,⟨0,[]⟩,[cmp true,sam true]) ⟨[],[],[]⟩) 34 95 none (drF p n m b (S++[48])) ⟨0,[]⟩ [(decide (S.length+([48]:List UInt8).length≤9223372036854775807),true),(decide (((S.length:Nat):Int)<n),true)]:=by and_intros<;>kernel_rfl
theorem Z1J (p n m:Int) (b:Bool) (S:List UInt8) (g:Nat→Value):Zh (evC (Zo prog Zg ZW true) 300 false (drL f13) (drF p n m b S++tl 95 g,⟨0,[]⟩,[cmp false]) ⟨[],[],[]⟩) 34 95 (some (some 0)) (drF p n m b S) ⟨0,[]⟩ [(decide (((S.length:Nat):Int)<n),false)]:=by and_intros<;>kernel_rfl
theorem Z1K (p n m:Int) (b:Bool) (R:List UInt8) (g:Nat→Value):Zh (evC (Zo prog Zg ZW true) 300 false (drE f13) (drF p n m b (48::R)++tl 95 g,⟨0,[]⟩,[]) ⟨[],[],[]⟩) 8 121 (some none) [.int .u64 p,.int .i64 n,.int .i64 m,undef,undef,undef,bR (txL b (48::R) 0),.int .i64 0] ⟨0,[]⟩ [(decide (R.length≤100000∧Int.natAbs 0≤2000000),true)]:=by and_intros<;>kernel_rfl
def drS (p n m:Int) (b:Bool) (k:Nat) (y:Lf):Prop:=∃ g:Nat→Value,y.1=drF p n m b (List.replicate k 48)++tl 95 g∧y.2.1=⟨0,[]⟩
theorem ZrG (p m:Int) (b:Bool) (N:Nat) (hN:N≤1000) (r:Nat) (y:Lf) (hy:∃ k,r=N-k∧k≤N∧drS p (N:Nat) m b k y):
  Runs (Zo prog Zg ZW true) (drL f13) y fun e z=>match e with | none=>∃ r',r'<r∧∃ k,r'=N-k∧k≤N∧drS p (N:Nat) m b k z | some none=>False | some (some id')=>id'=0∧drS p (N:Nat) m b N z:=by
 have hT:=Zl ZbE;obtain⟨k,hr,hk,g,ht,hh⟩:=hy;obtain⟨t,h',sc⟩:=y;simp only at ht hh;subst ht hh;have el:(List.replicate k (48:UInt8)).length=k:=List.length_replicate;by_cases hc:k<N
 ·have hg:=Z5I p (N:Nat) m b (List.replicate k 48) g;rw[← List.replicate_succ'] at hg;refine (Zb (s0:=sc) hT hg (Za (Xa (by rw[el,List.length_singleton];omega)) (ZB (Xa (by rw[el];omega))))).mono fun e z he=> ?_;obtain⟨rfl,⟨g',z1⟩,z2⟩:=he;exact⟨N-(k+1),by omega,k+1,rfl,by omega,g',z1,z2⟩
 ·have ek:k=N:=by omega
  subst ek;refine (Zb (s0:=sc) hT (Z1J p (k:Nat) m b (List.replicate k 48) g) (ZB (Xb (by rw[el];omega)))).mono fun e z he=> ?_;obtain⟨rfl,⟨g',z1⟩,z2⟩:=he;exact⟨rfl,g',z1,z2⟩
theorem Zxd (p m:Int) (hp:U p) (N:Nat) (hn:1≤N∧N≤1000) (h0:cl p=0) (w:World):Calls prog 13 #[.int .u64 p,.int .i64 N,.int .i64 m] w fun e w'=>e= .returned (.tuple #[bR (ZbJ p N m),.int .i64 0])∧zH w w':=by
 have hT:=Zl ZbE;have hs:spK p=0:=Zg4 (by omega);have hz:p.tmod 9223372036854775808=0:=by
  have x:ex p=0∧fr p=0:=by
   unfold cl at h0;split at h0
   ·rename_i a;split at h0
    ·rename_i b;exact⟨a,b⟩
    ·omega
   ·split at h0
    ·split at h0
     ·omega
     ·split at h0<;>omega
    ·omega
  unfold U at hp;rw[Int.tmod_eq_emod_of_nonneg hp.1];unfold ex fr at x;omega
 have ev:ZbJ p N m=txL (sgn p) (List.replicate N 48) 0:=by unfold ZbJ;rw[if_neg (fun c=>c hs),if_pos h0]
 rw[ev];obtain⟨k,rfl⟩:∃ k,N=k+1:=⟨N-1,by omega⟩;refine zW (T:=Zo prog Zg ZW true) func13 Zxc (by rfl) (by rfl) ?_ w;refine Z4 hT (Z1I p ((k+1:Nat):Int) m (sgn p)) (Za rfl (Za (Xa hs) (Za (Xa hp) (Za (Xb (by omega)) (ZB (Xb (by omega))))))) fun g0=> ?_;refine Runs.seq (P1:=fun e y=>e=some none∧∃ g:Nat→Value,y.1=[.int .u64 p,.int .i64 ((k+1:Nat):Int),.int .i64 m,undef,undef,undef,bR (txL (sgn p) (List.replicate (k+1) 48) 0),.int .i64 0]++tl 121 g∧y.2.1=⟨0,[]⟩) ?_ (fun y he=>by cases he.1) ?_
 ·refine Runs.seq (P1:=fun e y=>e=none∧drS p ((k+1:Nat):Int) m (sgn p) 0 y) ?_ ?_ (fun e y he=>by cases he.1)
  ·refine (Zb hT (Z5H p ((k+1:Nat):Int) m (sgn p) g0) (Za (zy hz) (ZB (by decide)))).mono fun e z he=> ?_;obtain⟨rfl,⟨g',z1⟩,z2⟩:=he;exact⟨rfl,g',z1,z2⟩
  rintro⟨t,hh,sc0⟩ ⟨_,g,e1,e2⟩;simp only at e1 e2;subst e1 e2;refine Zoo (v:=true) rfl rfl ?_;rw[if_pos rfl];refine Runs.seq (P1:=fun e y=>e=none∧drS p ((k+1:Nat):Int) m (sgn p) (k+1) y) ?_ ?_ (fun e y he=>by cases he.1)
  ·refine (Runs.forLoop (R:=fun _=>False) (P:=drS p ((k+1:Nat):Int) m (sgn p) (k+1)) (fun r y=>∃ j,r=k+1-j∧j≤k+1∧drS p ((k+1:Nat):Int) m (sgn p) j y) (ZrG p m (sgn p) (k+1) hn.2) (n:=k+1-0) ⟨0,rfl,Nat.zero_le _,g,rfl,rfl⟩).mono fun e z hz=> ?_
   match e,hz with
   | none,hz=>exact⟨rfl,hz⟩
  ·rintro⟨t,hh,sc⟩ ⟨_,g1,e1,e2⟩;simp only at e1 e2;subst e1 e2;refine (Zb (s0:=sc) hT (Z1K p ((k+1:Nat):Int) m (sgn p) (List.replicate k 48) g1) (ZB (Xa ⟨by rw[List.length_replicate];omega,by decide⟩))).mono fun e z he=> ?_;obtain⟨rfl,⟨g',z1⟩,z2⟩:=he;exact⟨rfl,g',z1,z2⟩
 ·rintro e y ⟨he,g',z1,z2⟩;cases he;exact⟨.inr rfl,by rw[z1,z2];rfl⟩
end Go.Proofs.YtgefjidphfdhdaaGreatDoor
namespace Go.Proofs.YtgefjidphfdhdaaGreatDoor
open Go.KRun Go.Nt Go.Rd Go.Pt
set_option maxRecDepth 100000
theorem Zxe {a b q:Nat}(ha:1≤a) (hb:1≤b) (h1:10^(a-1)≤q) (h2:q<10^a) (h3:10^(b-1)≤q) (h4:q<10^b):a=b:=by
 rcases Nat.lt_trichotomy a b with c | c | c
 ·have:=Nat.pow_le_pow_right (n:=10) (by omega) (show a≤b-1 by omega);omega
 ·exact c
 ·have:=Nat.pow_le_pow_right (n:=10) (by omega) (show b≤a-1 by omega);omega
theorem Zh2 {n q:Nat}(hn:1≤n) (h1:10^(n-1)≤q) (h2:q<10^n):zD q=Zbj n q∧(zD q).length=n:=by
 have hp:0<10^(n-1):=Nat.pow_pos (by omega);obtain⟨l1,l2,l3⟩:=Zak (W:=q) (by omega);have e:=Zxe l1 hn l2 l3 h1 h2;refine⟨?_,e⟩;have d:=ZdN (W:=q) (by omega);rw[e] at d;exact d
def dcT (mn:Bool) (n q:Nat) (f:Int):List UInt8:=if n<(zD q).length then txL mn ((zD q).take n) (f+1) else txL mn (zD q) f
theorem Zop (mn:Bool) {n q:Nat}(hn:1≤n) (h1:10^(n-1)≤q) (h2:q<10^n) (f:Int):dcT mn n q f=txL mn (Zbj n q) f:=by
 obtain⟨a,b⟩:=Zh2 hn h1 h2;unfold dcT;rw[if_neg (by omega),a]
theorem ZrH (mn:Bool) {n q:Nat}(hn:1≤n) (h1:10^(n-1)≤q) (h2:q<10^n) (f:Int):dcT mn n (q+1) f=hiX mn n q f:=by
 unfold hiX;by_cases h:q+1=10^n
 ·rw[if_pos h,h];have hp:10^(n+1)=10^n*10:=Nat.pow_succ ..;have hq:10^n=10^(n-1)*10:=by rw[← Nat.pow_succ];congr 1;omega
  have h0:0<10^(n-1):=Nat.pow_pos (by omega);obtain⟨a,b⟩:=Zh2 (n:=n+1) (q:=10^n) (by omega) (by rw[Nat.add_sub_cancel];exact Nat.le_refl _) (by omega);obtain⟨c,d⟩:=Zh2 (n:=n) (q:=10^(n-1)) hn (Nat.le_refl _) (by omega);unfold dcT;rw[if_pos (by omega),a];have e:Zbj (n+1) (10^n)=Zbj n (10^(n-1))++[chD (10^n % 10)]:=by
   rw[Zbj,if_neg (by omega),show 10^n/10=10^(n-1) by omega]
  rw[e,List.take_left' (by rw[← c];exact d)]
 ·rw[if_neg h];exact Zop mn hn (by omega) (by omega) f
end Go.Proofs.YtgefjidphfdhdaaGreatDoor
namespace Go.KRun
open Go.RowKit
def Zfu:(Nat→Value)→List (Option Value)→List Value
 | _,[]=>[]
 | j,o::r=>o.getD (j 0)::Zfu (fun i=>j (i+1)) r
def Z21 (f:Nat→Nat):List (Option Value)→List Value→Prop
 | [],[]=>True
 | some u::r,v::s=>rn f u=v∧Z21 f r s
 | none::r,_::s=>Z21 f r s
 | _,_=>False
theorem Zfv {m:Mp}{f:Nat→Nat}{k:Nat}(hk:0<k):∀ (o:List (Option Value)) (t:List Value),Z21 f o t→(∀ v,some v∈o→lt k v=true)→∃ j,(Zfu j o).map (mv fun i=>m (f i))=t.map (mv m)∧∀ v∈Zfu j o,lt k v=true
 | [],[],_,_=>⟨fun _=>undef,rfl,fun v hv=>by cases hv⟩
 | [],_::_,h,_=>h.elim
 | some _::_,[],h,_=>h.elim
 | none::_,[],h,_=>h.elim
 | some u::r,v::s,h,hl=>by
  obtain⟨h1,h2⟩:=h;obtain⟨j,e1,e2⟩:=Zfv (m:=m) hk r s h2 fun x hx=>hl x (Xd _ hx);refine⟨fun i=>match i with | 0=>undef | i+1=>j i,?_,?_⟩
  ·show mv (fun i=>m (f i)) u::(Zfu j r).map (mv fun i=>m (f i))=mv m v::s.map (mv m);rw[e1,← h1,Zce]
  ·intro x hx;rcases List.mem_cons.1 (show x∈u::Zfu j r from hx) with rfl | hx
   ·exact hl x Xe
   ·exact e2 x hx
 | none::r,v::s,h,hl=>by
  obtain⟨j,e1,e2⟩:=Zfv (m:=m) hk r s h fun x hx=>hl x (Xd _ hx);refine⟨fun i=>match i with | 0=> .iface ZT (mv m v) | i+1=>j i,?_,?_⟩
  ·show mv (fun i=>m (f i)) (.iface ZT (mv m v))::(Zfu j r).map (mv fun i=>m (f i))=mv m v::s.map (mv m);rw[e1];simp [mv,mv2,mv1]
  ·intro x hx;rcases List.mem_cons.1 (show x∈Value.iface ZT (mv m v)::Zfu j r from hx) with rfl | hx
   ·simp [lt,lt2,lt1,hk,ZT]
   ·exact e2 x hx
theorem Zfw {bs:List Nat}{cells:List (List Value×TypeId)}(hl:cells.length=bs.length) {i:Nat}{x:List Value×TypeId}(h:(⟨bs.length,cells.reverse⟩:Hp).blk? i=some x):i<bs.length∧(bs.getD i 0,x)∈bs.zip cells:=by
 have hi:i<bs.length:=Hp.blk_lt h;refine⟨hi,?_⟩;unfold Hp.blk? at h;rw[if_pos (Zk.2 hi)] at h;have h':cells.reverse[bs.length-1-i]? =some x:=h;rw[List.getElem?_reverse (by omega),show cells.length-1-(bs.length-1-i)=i by omega] at h';refine List.mem_of_getElem? (i:=i) ?_;rw[List.getElem?_zip_eq_some];exact⟨by rw[List.getD_eq_getElem?_getD,List.getElem?_eq_getElem hi];rfl,h'⟩
theorem RunsW.preP {T:Tab}{c:Code}{P:Ex→Lf→Prop}{front:List Value}(o:List (Option Value)) {n:Nat}{h:Hp}(bs:List Nat) (cells:List (List Value×TypeId)) {s s':List Dec}{g:Nat→Value}(hr:∀ j g,RunsW T c (Zfu j o++tl n g,⟨bs.length,cells.reverse⟩,s') P)
  (hl:cells.length=bs.length) (h0:0<bs.length) (hf:Z21 (fun i=>bs.getD i 0) o front) (hx:∀ q∈bs.zip cells,h.blk? q.1=some q.2∧∀ v∈q.2.1,still v=true) (hd:bs.Nodup) (hw:(o.all fun x=>x.all (lt bs.length))=true):
  RunsW T c (front++tl n g,h,s) P:=by
 intro m B a w R Q hQ;obtain⟨j,j1,j2⟩:=Zfv (m:=m) h0 o front hf fun v hv=>List.all_eq_true.1 hw _ hv;obtain⟨g',hg⟩:=ZgK (J:=(tl n g).map (fun v=>Value.iface ZT (mv m v))) (n:=n) (by simp [ZfN]);have R2:Rel (fun i=>m (bs.getD i 0)) B (Zfu j o++tl n g',⟨bs.length,cells.reverse⟩,s) a w:=by
  refine ZkI R (fun i=>bs.getD i 0) (by simp [hl]) (fun i x hi=> ?_) (fun i k x y hi hk _ _ hik=> ?_) ?_ ?_
  ·obtain⟨_,q⟩:=Zfw hl hi;obtain⟨q1,q2⟩:=hx _ q;exact⟨q2,x,[],q1,rfl,by simp⟩
  ·obtain⟨q1,_⟩:=Zfw hl hi;obtain⟨q2,_⟩:=Zfw hl hk;have e1:bs.getD i 0=bs[i]:=by rw[List.getD_eq_getElem?_getD,List.getElem?_eq_getElem q1];rfl
   have e2:bs.getD k 0=bs[k]:=by rw[List.getD_eq_getElem?_getD,List.getElem?_eq_getElem q2];rfl
   rw[e1,e2] at hik;have hp:=List.pairwise_iff_getElem.1 hd;rcases Nat.lt_trichotomy i k with c | c | c
   ·exact absurd hik (hp i k q1 q2 c)
   ·exact c
   ·exact absurd hik.symm (hp k i q2 q1 c)
  ·rw[List.map_append,List.map_append,j1,← hg,List.map_map];congr 1
  ·intro v hv;rcases List.mem_append.1 hv with hv | hv
   ·exact j2 v hv
   ·rw[← hg] at hv;obtain⟨u,_,rfl⟩:=List.mem_map.1 hv;simp [lt,lt2,lt1,h0,ZT]
 exact hr j g' _ B a w ⟨R2.tmps,R2.dfr,R2.emb,R2.wf⟩ Q hQ
theorem ZaC (f:Nat→Nat):rn f undef=undef:=by kernel_rfl
end Go.KRun
namespace Go.Proofs.YtgefjidphfdhdaaGreatDoor
open Go.Proofs.Tryz
open Go.KRun Go.Nt Go.Wd Go.Rn Go.Pt
set_option maxRecDepth 100000
set_option linter.unusedVariables false
def Z22:Hc:=zx 34 Z1o hcN
theorem Zxf:HcOk Z22:=Zt func34 rfl Zhy zw
def ZrI:Con:=alt 47 (gU vT) Zn
theorem ZrJ:ConOk ZrI:=ZF func47 rfl ZsM Ze
theorem Zxg:f28.body=some (Zq f28):=by kernel_rfl
theorem Z5J (p:Int):Zh (evC (Zm prog Zg ZrI Z22) 200 false (Zq f28) ([.int .u64 p]++List.replicate 13 undef,⟨0,[]⟩,[]) ⟨[],[],[]⟩) 3 11 (some none) [.int .u64 p,undef,.pointer (some ⟨0,0,none⟩)] ⟨3,[(wU (d16 (sg p).toNat),tU),([.bool (sgn p),.int .i64 (cl p),.int .i64 (xp p),.int .u64 (sg p)],77),bOf (sgn p) (xp p) (sOf 2 (sg p).toNat)]⟩ [(decide (0≤sg p∧sg p<18446744073709551616),true),(decide (U p),true)]:=by and_intros<;>kernel_rfl
def gPt:Zag:=fun vals h s=>
 match vals with
 | [.int .u64 p]=>some (vRN (sgn p) (xp p) (sOf h.n (sg p).toNat),h.push (wU (d16 (sg p).toNat)) tU,s,[(decide (U p),true)])
 | _=>none
theorem Z1L:Z8 28 gPt:=by
 intro vals h s v h' s' lg hg hl m B w E hv;unfold gPt at hg;split at hg
 ·rename_i p;cases hg;have q:=hl _ Xf;have hs:=sg_lt p;have hr:RunsW (Zm prog Zg ZrI Z22) (Zq f28) ([.int .u64 p]++List.replicate 13 undef,⟨0,[]⟩,[]) fun e z=>(e=none∨e=some none)∧∃ k,zd prog f28 z.1 z.2.1=some (vRN (sgn p) (xp p) (sOf k (sg p).toNat))∧∃ r,z.2.1.blk? k=some (wU (d16 (sg p).toNat)++r,tU):=by
   refine (Zd (Zp ZrJ Zxf) (Z5J p) (Za (Xa ⟨hs.1,by omega⟩) (ZB q))).mono fun e z he=> ?_;obtain⟨rfl,⟨g,e1⟩,e2⟩:=he;exact⟨.inr rfl,2,by rw[e1,e2];rfl,[],by rw[e2,List.append_nil];rfl⟩
  have:=Zeq (T:=Zm prog Zg ZrI Z22) func28 Zxg (h0:=⟨0,[]⟩) ⟨rfl,fun b x hx=>by have:b<0:=Hp.blk_lt hx;omega⟩ (vals:=[.int .u64 p]) (fun v hv=>by rw[List.mem_singleton.1 hv];rfl) (v:=fun k=>vRN (sgn p) (xp p) (sOf k (sg p).toNat)) (ZbR _) (by kernel_rfl) hr (fun k=>by simp [oc,oc2,oc1,sOf,sl,vRN]) E (s:=fun i=>i) (fun i x hx _=>by have:i<0:=Hp.blk_lt hx;omega) (fun k=>by simp [rn,rn2,rn1,sOf,sl,vRN]);exact this
 ·cases hg
end Go.Proofs.YtgefjidphfdhdaaGreatDoor
namespace Go.Proofs.YtgefjidphfdhdaaGreatDoor
open Go.KRun Go.Nt Go.Pt Go.Rn
set_option maxRecDepth 100000
def Z5K:Zag:=fun vals h s=>
 match vals,s with
 | [.int .u64 p],.inr (.inr (.inr (.inl d)))::s'=>some (vRN d (xp p) (sOf h.n (sg p).toNat),h.push (wU (d16 (sg p).toNat)) tU,s',[(sgn p,d),(decide (U p),true)])
 | _,_=>none
theorem Zxh:Z8 28 Z5K:=by
 intro vals h s v h' s' lg hg hl;unfold Z5K at hg;split at hg
 ·rename_i p d s2;cases hg;obtain⟨l1,l2⟩:=Zfq hl;have l1:sgn p=d:=l1;refine Z1L _ h [] _ _ [] _ ?_ l2;simp only[gPt,l1]
 ·cases hg
end Go.Proofs.YtgefjidphfdhdaaGreatDoor
namespace Go.Proofs.YtgefjidphfdhdaaGreatDoor
open Go.Proofs.Tryz
open Go.KRun Go.Nt Go.Wd Go.Rn Go.Rd Go.Pt
set_option maxRecDepth 100000
set_option linter.unusedVariables false
def Zb6:Hc:=zx 28 Z5K (zx 29 Z57 (zx 32 Z2z Zdq))
theorem Zxi:HcOk Zb6:=Zt func28 rfl Zxh (Zt func29 rfl ZwP (Zt func32 rfl ZnP Zob))
def xH (neg:Bool) (E:Int) (S:Nat):Hp:=⟨2,[bOf neg E (sOf 0 S),w16 S]⟩
def xM (neg:Bool) (E:Int) (S:Nat) (L:List Nat):Hp:=⟨3+L.length,(L.map w16).reverse++[bOf neg E (sOf 0 S),bOf neg E (sOf 0 S),w16 S]⟩
theorem RowV.pa {h:Hp}{p q:Option Addr}{n c n' c' V W:Nat}(r:RowV h p n c V) (r':RowV h q n' c' W) (hV:0<V) (hW:0<W):Zoz h p q n c n' c'=true:=by
 unfold Zoz;have:=r.2.2;have:=r'.2.2;have:=r.pos hV;have:=r'.pos hW;rw[r.1,r.dg,r'.1,r'.can,Zk.2 (by omega),Zk.2 (by omega),Zk.2 (by omega),Zk.2 (by omega)];rfl
def Z6g (b:Bool) (E k ke kp:Int) (S A B V Q R:Nat):Log:=[(decide (vO (xM b E S [1,A,B,V]) (Z6 6) (d16 V).length/vO (xM b E S [1,A,B,V]) (Z6 3) (d16 1).length=Q∧vO (xM b E S [1,A,B,V]) (Z6 6) (d16 V).length % vO (xM b E S [1,A,B,V]) (Z6 3) (d16 1).length=R),true),(Zoz (xM b E S [1,A,B,V]) (Z6 6) (Z6 3) (d16 V).length (d16 V).length (d16 1).length (d16 1).length,true),(decide (vO (xM b E S [1,A,B]) (Z6 4) (d16 A).length*vO (xM b E S [1,A,B]) (Z6 5) (d16 B).length=V),true),(ZeS (xM b E S [1,A,B]) (Z6 4) (Z6 5) (d16 A).length (d16 A).length (d16 B).length (d16 B).length,true),(decide ((10:Int).toNat^kp.toNat=B),true),(Zin 10 kp,true),(decide ((10:Int)=0∧2≤kp),false),(decide (k≥0),true),(decide (vO (xM b E S [1]) (Z6 0) (d16 S).length*2^ke.toNat=A),true),(ZgB (xM b E S [1]) (Z6 0) (d16 S).length (d16 S).length ke,true),(decide (0<(d16 S).length),true),(decide (E≥0),true),(true,true)]
theorem Z1M {b:Bool}{E k:Int}{S A B V Q R:Nat}(hA:A=S*2^E.toNat) (hB:B=10^k.toNat) (hV:V=A*B) (hQ:Q=V/1) (hR:R=V % 1) (h0:S≠0) (hS:S<2^53) (hE1: -1074≤E∧E≤972) (hk1: -1500≤k∧k≤1500) (hE:0≤E) (hk:0≤k):Zu (Z6g b E k E k S A B V Q R)∧V=paN S E k∧1=pbN E k:=by
 have ea:V=paN S E k:=by
  unfold paN;rw[hV,hA,hB]
 have eb:1=pbN E k:=by
  unfold pbN;rw[show (-E).toNat=0 by omega,show (-k).toNat=0 by omega]
 obtain⟨J,hJ⟩:∃ J,J=1100:=⟨_,rfl⟩;obtain⟨K,hK⟩:∃ K,K=6001:=⟨_,rfl⟩;have tA:A<2^(53+J):=by
  rw[hA];exact zc hS (Nat.pow_lt_pow_right (by omega) (by omega))
 have tB:B<2^K:=by
  rw[hB];exact Nat.lt_of_lt_of_le (ZaG _) (Nat.pow_le_pow_right (by omega) (by omega))
 have tV:V<2^(53+J+K):=by
  rw[hV];exact zc tA tB
 have lS:(d16 S).length<100000:=zf hS (by omega);have l1:(d16 1).length<100000:=zf (i:=1) (by decide) (by omega);have lA:=zf tA (by omega);have lB:=zf tB (by omega);have lV:=zf tV (by omega);exact⟨(Za (by rw[(RowV.at (h:=(xM b E S [1,A,B,V])) (b:=6) (V:=V) rfl lV).vo,(RowV.at (h:=(xM b E S [1,A,B,V])) (b:=3) (V:=1) rfl l1).vo];exact Xa ⟨hQ.symm,hR.symm⟩) (Za (RowV.pa (RowV.at (h:=(xM b E S [1,A,B,V])) (b:=6) (V:=V) rfl lV) (RowV.at (h:=(xM b E S [1,A,B,V])) (b:=3) (V:=1) rfl l1) (by rw[ea];exact Zfd h0 E k) (by rw[eb];exact zt E k)) (Za (by rw[(RowV.at (h:=(xM b E S [1,A,B])) (b:=4) (V:=A) rfl lA).vo,(RowV.at (h:=(xM b E S [1,A,B])) (b:=5) (V:=B) rfl lB).vo];exact Xa hV.symm) (Za (RowV.mu (RowV.at (h:=(xM b E S [1,A,B])) (b:=4) (V:=A) rfl lA) (RowV.at (h:=(xM b E S [1,A,B])) (b:=5) (V:=B) rfl lB)) (Za (Xa hB.symm) (Za (Xa ⟨by omega,by omega,by omega,by omega⟩) (Za (Xb (by omega)) (Za (Xa (by omega)) (Za (by rw[(RowV.at (h:=(xM b E S [1])) (b:=0) (V:=S) rfl lS).vo];exact Xa hA.symm) (Za (RowV.sh (RowV.at (h:=(xM b E S [1])) (b:=0) (V:=S) rfl lS) (by omega) (by omega)) (Za (Xa (RowV.pos (RowV.at (h:=(xM b E S [1])) (b:=0) (V:=S) rfl lS) (by omega))) (Za (Xa (by omega)) (ZB rfl))))))))))))),ea,eb⟩
def Z6h (b:Bool) (E k ke kp:Int) (S A B V Q R:Nat):Log:=[(decide (vO (xM b E S [1,A,B,V]) (Z6 4) (d16 A).length/vO (xM b E S [1,A,B,V]) (Z6 6) (d16 V).length=Q∧vO (xM b E S [1,A,B,V]) (Z6 4) (d16 A).length % vO (xM b E S [1,A,B,V]) (Z6 6) (d16 V).length=R),true),(Zoz (xM b E S [1,A,B,V]) (Z6 4) (Z6 6) (d16 A).length (d16 A).length (d16 V).length (d16 V).length,true),(decide (vO (xM b E S [1,A,B]) (Z6 3) (d16 1).length*vO (xM b E S [1,A,B]) (Z6 5) (d16 B).length=V),true),(ZeS (xM b E S [1,A,B]) (Z6 3) (Z6 5) (d16 1).length (d16 1).length (d16 B).length (d16 B).length,true),(decide ((10:Int).toNat^kp.toNat=B),true),(Zin 10 kp,true),(decide ((10:Int)=0∧2≤kp),false),(decide (k≥0),false),(decide (vO (xM b E S [1]) (Z6 0) (d16 S).length*2^ke.toNat=A),true),(ZgB (xM b E S [1]) (Z6 0) (d16 S).length (d16 S).length ke,true),(decide (0<(d16 S).length),true),(decide (E≥0),true),(true,true)]
theorem Z1N {b:Bool}{E k:Int}{S A B V Q R:Nat}(hA:A=S*2^E.toNat) (hB:B=10^(-k).toNat) (hV:V=1*B) (hQ:Q=A/V) (hR:R=A % V) (h0:S≠0) (hS:S<2^53) (hE1: -1074≤E∧E≤972) (hk1: -1500≤k∧k≤1500) (hE:0≤E) (hk:k<0):Zu (Z6h b E k E (-k) S A B V Q R)∧A=paN S E k∧V=pbN E k:=by
 have ea:A=paN S E k:=by
  unfold paN;rw[show k.toNat=0 by omega,hA,Nat.pow_zero,Nat.mul_one]
 have eb:V=pbN E k:=by
  unfold pbN;rw[show (-E).toNat=0 by omega,hV,hB]
 obtain⟨J,hJ⟩:∃ J,J=1100:=⟨_,rfl⟩;obtain⟨K,hK⟩:∃ K,K=6001:=⟨_,rfl⟩;have tA:A<2^(53+J):=by
  rw[hA];exact zc hS (Nat.pow_lt_pow_right (by omega) (by omega))
 have tB:B<2^K:=by
  rw[hB];exact Nat.lt_of_lt_of_le (ZaG _) (Nat.pow_le_pow_right (by omega) (by omega))
 have tV:V<2^(53+J+K):=by
  rw[hV];exact zc (Nat.lt_of_lt_of_le (show 1<2^1 by decide) (Nat.pow_le_pow_right (by omega) (by omega))) tB
 have lS:(d16 S).length<100000:=zf hS (by omega);have l1:(d16 1).length<100000:=zf (i:=1) (by decide) (by omega);have lA:=zf tA (by omega);have lB:=zf tB (by omega);have lV:=zf tV (by omega);exact⟨(Za (by rw[(RowV.at (h:=(xM b E S [1,A,B,V])) (b:=4) (V:=A) rfl lA).vo,(RowV.at (h:=(xM b E S [1,A,B,V])) (b:=6) (V:=V) rfl lV).vo];exact Xa ⟨hQ.symm,hR.symm⟩) (Za (RowV.pa (RowV.at (h:=(xM b E S [1,A,B,V])) (b:=4) (V:=A) rfl lA) (RowV.at (h:=(xM b E S [1,A,B,V])) (b:=6) (V:=V) rfl lV) (by rw[ea];exact Zfd h0 E k) (by rw[eb];exact zt E k)) (Za (by rw[(RowV.at (h:=(xM b E S [1,A,B])) (b:=3) (V:=1) rfl l1).vo,(RowV.at (h:=(xM b E S [1,A,B])) (b:=5) (V:=B) rfl lB).vo];exact Xa hV.symm) (Za (RowV.mu (RowV.at (h:=(xM b E S [1,A,B])) (b:=3) (V:=1) rfl l1) (RowV.at (h:=(xM b E S [1,A,B])) (b:=5) (V:=B) rfl lB)) (Za (Xa hB.symm) (Za (Xa ⟨by omega,by omega,by omega,by omega⟩) (Za (Xb (by omega)) (Za (Xb (by omega)) (Za (by rw[(RowV.at (h:=(xM b E S [1])) (b:=0) (V:=S) rfl lS).vo];exact Xa hA.symm) (Za (RowV.sh (RowV.at (h:=(xM b E S [1])) (b:=0) (V:=S) rfl lS) (by omega) (by omega)) (Za (Xa (RowV.pos (RowV.at (h:=(xM b E S [1])) (b:=0) (V:=S) rfl lS) (by omega))) (Za (Xa (by omega)) (ZB rfl))))))))))))),ea,eb⟩
def Z6i (b:Bool) (E k ke kp:Int) (S A B V Q R:Nat):Log:=[(decide (vO (xM b E S [1,A,B,V]) (Z6 6) (d16 V).length/vO (xM b E S [1,A,B,V]) (Z6 4) (d16 A).length=Q∧vO (xM b E S [1,A,B,V]) (Z6 6) (d16 V).length % vO (xM b E S [1,A,B,V]) (Z6 4) (d16 A).length=R),true),(Zoz (xM b E S [1,A,B,V]) (Z6 6) (Z6 4) (d16 V).length (d16 V).length (d16 A).length (d16 A).length,true),(decide (vO (xM b E S [1,A,B]) (Z6 0) (d16 S).length*vO (xM b E S [1,A,B]) (Z6 5) (d16 B).length=V),true),(ZeS (xM b E S [1,A,B]) (Z6 0) (Z6 5) (d16 S).length (d16 S).length (d16 B).length (d16 B).length,true),(decide ((10:Int).toNat^kp.toNat=B),true),(Zin 10 kp,true),(decide ((10:Int)=0∧2≤kp),false),(decide (k≥0),true),(decide (vO (xM b E S [1]) (Z6 3) (d16 1).length*2^ke.toNat=A),true),(ZgB (xM b E S [1]) (Z6 3) (d16 1).length (d16 1).length ke,true),(decide (0<(d16 1).length),true),(decide (E≥0),false),(true,true)]
theorem Z1O {b:Bool}{E k:Int}{S A B V Q R:Nat}(hA:A=1*2^(-E).toNat) (hB:B=10^k.toNat) (hV:V=S*B) (hQ:Q=V/A) (hR:R=V % A) (h0:S≠0) (hS:S<2^53) (hE1: -1074≤E∧E≤972) (hk1: -1500≤k∧k≤1500) (hE:E<0) (hk:0≤k):Zu (Z6i b E k (-E) k S A B V Q R)∧V=paN S E k∧A=pbN E k:=by
 have ea:V=paN S E k:=by
  unfold paN;rw[show E.toNat=0 by omega,hV,hB,Nat.pow_zero,Nat.mul_one]
 have eb:A=pbN E k:=by
  unfold pbN;rw[show (-k).toNat=0 by omega,hA,Nat.pow_zero,Nat.mul_one,Nat.one_mul]
 obtain⟨J,hJ⟩:∃ J,J=1100:=⟨_,rfl⟩;obtain⟨K,hK⟩:∃ K,K=6001:=⟨_,rfl⟩;have tA:A<2^(53+J):=by
  rw[hA];exact zc (show 1<2^53 by decide) (Nat.pow_lt_pow_right (by omega) (by omega))
 have tB:B<2^K:=by
  rw[hB];exact Nat.lt_of_lt_of_le (ZaG _) (Nat.pow_le_pow_right (by omega) (by omega))
 have tV:V<2^(53+J+K):=by
  rw[hV];exact zc (Nat.lt_of_lt_of_le hS (Nat.pow_le_pow_right (by omega) (by omega))) tB
 have lS:(d16 S).length<100000:=zf hS (by omega);have l1:(d16 1).length<100000:=zf (i:=1) (by decide) (by omega);have lA:=zf tA (by omega);have lB:=zf tB (by omega);have lV:=zf tV (by omega);exact⟨(Za (by rw[(RowV.at (h:=(xM b E S [1,A,B,V])) (b:=6) (V:=V) rfl lV).vo,(RowV.at (h:=(xM b E S [1,A,B,V])) (b:=4) (V:=A) rfl lA).vo];exact Xa ⟨hQ.symm,hR.symm⟩) (Za (RowV.pa (RowV.at (h:=(xM b E S [1,A,B,V])) (b:=6) (V:=V) rfl lV) (RowV.at (h:=(xM b E S [1,A,B,V])) (b:=4) (V:=A) rfl lA) (by rw[ea];exact Zfd h0 E k) (by rw[eb];exact zt E k)) (Za (by rw[(RowV.at (h:=(xM b E S [1,A,B])) (b:=0) (V:=S) rfl lS).vo,(RowV.at (h:=(xM b E S [1,A,B])) (b:=5) (V:=B) rfl lB).vo];exact Xa hV.symm) (Za (RowV.mu (RowV.at (h:=(xM b E S [1,A,B])) (b:=0) (V:=S) rfl lS) (RowV.at (h:=(xM b E S [1,A,B])) (b:=5) (V:=B) rfl lB)) (Za (Xa hB.symm) (Za (Xa ⟨by omega,by omega,by omega,by omega⟩) (Za (Xb (by omega)) (Za (Xa (by omega)) (Za (by rw[(RowV.at (h:=(xM b E S [1])) (b:=3) (V:=1) rfl l1).vo];exact Xa hA.symm) (Za (RowV.sh (RowV.at (h:=(xM b E S [1])) (b:=3) (V:=1) rfl l1) (by omega) (by omega)) (Za (Xa (RowV.pos (RowV.at (h:=(xM b E S [1])) (b:=3) (V:=1) rfl l1) (by omega))) (Za (Xb (by omega)) (ZB rfl))))))))))))),ea,eb⟩
def Z6j (b:Bool) (E k ke kp:Int) (S A B V Q R:Nat):Log:=[(decide (vO (xM b E S [1,A,B,V]) (Z6 0) (d16 S).length/vO (xM b E S [1,A,B,V]) (Z6 6) (d16 V).length=Q∧vO (xM b E S [1,A,B,V]) (Z6 0) (d16 S).length % vO (xM b E S [1,A,B,V]) (Z6 6) (d16 V).length=R),true),(Zoz (xM b E S [1,A,B,V]) (Z6 0) (Z6 6) (d16 S).length (d16 S).length (d16 V).length (d16 V).length,true),(decide (vO (xM b E S [1,A,B]) (Z6 4) (d16 A).length*vO (xM b E S [1,A,B]) (Z6 5) (d16 B).length=V),true),(ZeS (xM b E S [1,A,B]) (Z6 4) (Z6 5) (d16 A).length (d16 A).length (d16 B).length (d16 B).length,true),(decide ((10:Int).toNat^kp.toNat=B),true),(Zin 10 kp,true),(decide ((10:Int)=0∧2≤kp),false),(decide (k≥0),false),(decide (vO (xM b E S [1]) (Z6 3) (d16 1).length*2^ke.toNat=A),true),(ZgB (xM b E S [1]) (Z6 3) (d16 1).length (d16 1).length ke,true),(decide (0<(d16 1).length),true),(decide (E≥0),false),(true,true)]
theorem Z1P {b:Bool}{E k:Int}{S A B V Q R:Nat}(hA:A=1*2^(-E).toNat) (hB:B=10^(-k).toNat) (hV:V=A*B) (hQ:Q=S/V) (hR:R=S % V) (h0:S≠0) (hS:S<2^53) (hE1: -1074≤E∧E≤972) (hk1: -1500≤k∧k≤1500) (hE:E<0) (hk:k<0):Zu (Z6j b E k (-E) (-k) S A B V Q R)∧S=paN S E k∧V=pbN E k:=by
 have ea:S=paN S E k:=by
  unfold paN;rw[show E.toNat=0 by omega,show k.toNat=0 by omega,Nat.mul_one,Nat.mul_one]
 have eb:V=pbN E k:=by
  unfold pbN;rw[hV,hA,hB,Nat.one_mul]
 obtain⟨J,hJ⟩:∃ J,J=1100:=⟨_,rfl⟩;obtain⟨K,hK⟩:∃ K,K=6001:=⟨_,rfl⟩;have tA:A<2^(53+J):=by
  rw[hA];exact zc (show 1<2^53 by decide) (Nat.pow_lt_pow_right (by omega) (by omega))
 have tB:B<2^K:=by
  rw[hB];exact Nat.lt_of_lt_of_le (ZaG _) (Nat.pow_le_pow_right (by omega) (by omega))
 have tV:V<2^(53+J+K):=by
  rw[hV];exact zc tA tB
 have lS:(d16 S).length<100000:=zf hS (by omega);have l1:(d16 1).length<100000:=zf (i:=1) (by decide) (by omega);have lA:=zf tA (by omega);have lB:=zf tB (by omega);have lV:=zf tV (by omega);exact⟨(Za (by rw[(RowV.at (h:=(xM b E S [1,A,B,V])) (b:=0) (V:=S) rfl lS).vo,(RowV.at (h:=(xM b E S [1,A,B,V])) (b:=6) (V:=V) rfl lV).vo];exact Xa ⟨hQ.symm,hR.symm⟩) (Za (RowV.pa (RowV.at (h:=(xM b E S [1,A,B,V])) (b:=0) (V:=S) rfl lS) (RowV.at (h:=(xM b E S [1,A,B,V])) (b:=6) (V:=V) rfl lV) (by rw[ea];exact Zfd h0 E k) (by rw[eb];exact zt E k)) (Za (by rw[(RowV.at (h:=(xM b E S [1,A,B])) (b:=4) (V:=A) rfl lA).vo,(RowV.at (h:=(xM b E S [1,A,B])) (b:=5) (V:=B) rfl lB).vo];exact Xa hV.symm) (Za (RowV.mu (RowV.at (h:=(xM b E S [1,A,B])) (b:=4) (V:=A) rfl lA) (RowV.at (h:=(xM b E S [1,A,B])) (b:=5) (V:=B) rfl lB)) (Za (Xa hB.symm) (Za (Xa ⟨by omega,by omega,by omega,by omega⟩) (Za (Xb (by omega)) (Za (Xb (by omega)) (Za (by rw[(RowV.at (h:=(xM b E S [1])) (b:=3) (V:=1) rfl l1).vo];exact Xa hA.symm) (Za (RowV.sh (RowV.at (h:=(xM b E S [1])) (b:=3) (V:=1) rfl l1) (by omega) (by omega)) (Za (Xa (RowV.pos (RowV.at (h:=(xM b E S [1])) (b:=3) (V:=1) rfl l1) (by omega))) (Za (Xb (by omega)) (ZB rfl))))))))))))),ea,eb⟩
end Go.Proofs.YtgefjidphfdhdaaGreatDoor
namespace Go.Proofs.YtgefjidphfdhdaaGreatDoor
open Go.Proofs.Tryz
open Go.IntKind
open Go.KRun Go.Nt Go.Wd Go.Rn Go.Rd Go.Pt
set_option maxRecDepth 100000
set_option linter.unusedVariables false
theorem Zg5:TabOk (Zm prog Zg ZW Zb6):=Zp ZbE Zxi
def lC1 (H H':Hp) (iB iR i2 B R:Nat) (K:Int) (l:Log):Log:=(decide (Zac (vO H' (Z6 i2) (d16 (2*R)).length) (vO H' (Z6 iB) (d16 B).length)=K),true)::(zB H' (Z6 i2) (Z6 iB) (d16 (2*R)).length (d16 (2*R)).length (d16 B).length (d16 B).length,true)::(decide (vO H (Z6 iR) (d16 R).length*2^(1:Int).toNat=2*R),true)::(ZgB H (Z6 iR) (d16 R).length (d16 R).length 1,true)::(decide (0<(d16 R).length),true)::l
def lC0 (H:Hp) (iB iR B R:Nat) (K:Int) (l:Log):Log:=(decide (Zac (vO H none 0) (vO H (Z6 iB) (d16 B).length)=K),true)::(zB H none (Z6 iB) 0 0 (d16 B).length (d16 B).length,true)::(Zaa H (Z6 iR) (d16 R).length (d16 R).length,true)::(decide (0<(d16 R).length),false)::l
theorem Z6S {H H':Hp}{iB iR i2 B R:Nat}{l:Log}(h1:H.blk? iR=some (w16 R)) (h2:H'.blk? i2=some (w16 (2*R))) (h3:H'.blk? iB=some (w16 B)) (lB:(d16 B).length<100000) (lR:(d16 R).length<100000) (l2:(d16 (2*R)).length<100000) (h0:0<R) (hl:Zu l):Zu (lC1 H H' iB iR i2 B R (Zac (2*R) B) l):=by
 have r2:=RowV.at h2 l2;have rB:=RowV.at h3 lB;have rR:=RowV.at h1 lR;exact Za (by rw[r2.vo,rB.vo];exact Xa rfl) (Za (RowV.two r2 rB) (Za (by rw[rR.vo];exact Xa (by rw[Nat.mul_comm];rfl)) (Za (RowV.sh rR (by omega) (by omega)) (Za (Xa (ZdP.2 h0)) hl))))
theorem Z1Q (H:Hp):RowV H none 0 0 0:=⟨rfl,by rw[Zjz];rfl,by omega⟩
theorem Z6T {H:Hp}{iB iR B:Nat}{l:Log}(h1:H.blk? iR=some (w16 0)) (h3:H.blk? iB=some (w16 B)) (lB:(d16 B).length<100000) (hl:Zu l):Zu (lC0 H iB iR B 0 (Zac 0 B) l):=by
 have rB:=RowV.at h3 lB;exact Za (by rw[(Z1Q H).vo,rB.vo];exact Xa rfl) (Za (RowV.two (Z1Q H) rB) (Za (RowV.at h1 (by rw[Zjz];decide)).1 (Za (by rw[Zjz];rfl) hl)))
theorem Zoq {a b:Nat}:decide (Zac a b>0)=decide (b<a):=decide_eq_decide.2 (Zhz a b).2
theorem Z1R {Q:Nat}(h:Q≠0):Z3 ((wU (d16 Q))[0]?) (.int .u32 ((Q % 65536:Nat):Int))=true:=by
 unfold d16;rw[Zbd (by omega) h];simp [wU,Z3]
theorem Zfx {h:Hp}{b V:Nat}(hb:h.blk? b=some (w16 V)):h.blk? b=some (w16 V)∧∀ v∈(w16 V).1,still v=true:=⟨hb,ZG _⟩
theorem fa1 {α:Type}{P:α→Prop}{a:α}(h:P a):∀ q∈[a],P q:=fun q hq=>by rw[List.mem_singleton.1 hq];exact h
theorem fa3 {α:Type}{P:α→Prop}{a b c:α}(h:P a) (h':P b) (h2:P c):∀ q∈[a,b,c],P q:=fun q hq=>by
 rcases List.mem_cons.1 hq with rfl | hq
 ·exact h
 ·rcases List.mem_cons.1 hq with rfl | hq
  ·exact h'
  ·exact fa1 h2 q hq
def s16 (b V:Nat):Value:= .slice (Z6 b) (d16 V).length (d16 V).length
def dgF (p n m:Int) (b:Bool) (x f a c q r u k:Value):List Value:=[.int .u64 p,.int .i64 n,.int .i64 m,undef,undef,undef,bR [],.int .i64 0,.bool b,bR [],x,f,a,c,q,r,u,k]
def dgX (p n m:Int) (b:Bool) (f a:Value):List Value:=dgF p n m b (.pointer (some ⟨1,0,none⟩)) f a undef undef undef undef undef
def dg0 (F:Func):List Code:=[sP F 0,sP F 1,sP F 2,sP F 3,sP F 4,sP F 5,sP F 6]
def dgU (F:Func):List Code:=[sP F 10,sP F 11,sP F 12]
theorem Zxj:f13.body=some (zo (dg0 f13) (zo [sP f13 7] (zo [sP f13 8,sP f13 9] (zo (dgU f13) (sK f13 13))))):=by kernel_rfl
theorem Z6U (p n m:Int) (b:Bool):Zh (evL (Zm prog Zg ZW Zb6) 300 (dg0 f13) ([.int .u64 p,.int .i64 n,.int .i64 m]++List.replicate 126 undef,⟨0,[]⟩,[cmp false,cmp false,num 0,cmp b,cmp false,cmp false,cmp b]) ⟨[],[],[]⟩) 18 111 none (dgX p n m b undef undef) (xH b (xp p) (sg p).toNat) [(sgn p,b),(decide (U p),true),(p.tmod 9223372036854775808==0,false),(decide ((9223372036854775808:Int)=0),false),(decide (p≥9223372036854775808),b),(decide (spK p=0),true),(decide (U p),true),(decide (n>1000),false),(decide (n<1),false)]:=by and_intros<;>kernel_rfl
theorem Z6V (p n m E:Int) (b:Bool) (S:Nat) (g:Nat→Value):Zh (evL (Zm prog Zg ZW Zb6) 300 [sP f13 7] (dgX p n m b undef undef++tl 111 g,xH b E S,[num S]) ⟨[],[],[]⟩) 18 111 none (dgX p n m b (.int .i64 (frS S E)) undef) (xH b E S) [(Z20 (xH b E S) (Z6 0) (d16 S).length (d16 S).length S E,true)]:=by and_intros<;>kernel_rfl
def dgK (n f:Int):Int:=i64.wrap (i64.wrap (n-1)-f)
theorem Z5L (p n m E f:Int) (b:Bool) (S A B V Q R:Nat) (g:Nat→Value):Zh (evL (Zm prog Zg ZW Zb6) 300 [sP f13 8,sP f13 9] (dgX p n m b (.int .i64 f) undef++tl 111 g,xH b E S,[cmp true,cmp true,num A,cmp true,cmp true,num B,num V,num Q,num R]) ⟨[],[],[]⟩) 18 111 none (dgF p n m b (.pointer (some ⟨1,0,none⟩)) (.int .i64 f) (s16 6 V) (s16 3 1) (s16 7 Q) (s16 8 R) undef undef) (xM b E S [1,A,B,V,Q,R]) (Z6g b E (dgK n f) E (dgK n f) S A B V Q R):=by and_intros<;>kernel_rfl
theorem Z5M (p n m E f:Int) (b:Bool) (S A B V Q R:Nat) (g:Nat→Value):Zh (evL (Zm prog Zg ZW Zb6) 300 [sP f13 8,sP f13 9] (dgX p n m b (.int .i64 f) undef++tl 111 g,xH b E S,[cmp true,cmp true,num A,cmp false,cmp true,num B,num V,num Q,num R]) ⟨[],[],[]⟩) 18 111 none (dgF p n m b (.pointer (some ⟨1,0,none⟩)) (.int .i64 f) (s16 4 A) (s16 6 V) (s16 7 Q) (s16 8 R) undef undef) (xM b E S [1,A,B,V,Q,R]) (Z6h b E (dgK n f) E (i64.wrap (0-dgK n f)) S A B V Q R):=by and_intros<;>kernel_rfl
theorem Z5N (p n m E f:Int) (b:Bool) (S A B V Q R:Nat) (g:Nat→Value):Zh (evL (Zm prog Zg ZW Zb6) 300 [sP f13 8,sP f13 9] (dgX p n m b (.int .i64 f) undef++tl 111 g,xH b E S,[cmp false,cmp true,num A,cmp true,cmp true,num B,num V,num Q,num R]) ⟨[],[],[]⟩) 18 111 none (dgF p n m b (.pointer (some ⟨1,0,none⟩)) (.int .i64 f) (s16 6 V) (s16 4 A) (s16 7 Q) (s16 8 R) undef undef) (xM b E S [1,A,B,V,Q,R]) (Z6i b E (dgK n f) (i64.wrap (0-E)) (dgK n f) S A B V Q R):=by and_intros<;>kernel_rfl
theorem Z5O (p n m E f:Int) (b:Bool) (S A B V Q R:Nat) (g:Nat→Value):Zh (evL (Zm prog Zg ZW Zb6) 300 [sP f13 8,sP f13 9] (dgX p n m b (.int .i64 f) undef++tl 111 g,xH b E S,[cmp false,cmp true,num A,cmp false,cmp true,num B,num V,num Q,num R]) ⟨[],[],[]⟩) 18 111 none (dgF p n m b (.pointer (some ⟨1,0,none⟩)) (.int .i64 f) (s16 0 S) (s16 6 V) (s16 7 Q) (s16 8 R) undef undef) (xM b E S [1,A,B,V,Q,R]) (Z6j b E (dgK n f) (i64.wrap (0-E)) (i64.wrap (0-dgK n f)) S A B V Q R):=by and_intros<;>kernel_rfl
theorem Z1S (p n m f K:Int) (b:Bool) (d:Bool) (x a:Value) (B Q R:Nat) (g:Nat→Value):Zh (evL (Zm prog Zg ZW Zb6) 300 (dgU f13) (dgF p n m b x (.int .i64 f) a (s16 0 B) (s16 1 Q) (s16 2 R) undef undef++tl 111 g,⟨3,[w16 R,w16 Q,w16 B]⟩,[cmp true,num (2*R:Nat),num K,cmp true,cmp d]) ⟨[],[],[]⟩) 18 111 none (dgF p n m b x (.int .i64 f) a (s16 0 B) (s16 1 Q) (s16 2 R) (.bool d) (.int .i64 K)) ⟨4,[w16 (2*R),w16 R,w16 Q,w16 B]⟩ ((decide (K≥0),d)::(m==1,true)::lC1 ⟨3,[w16 R,w16 Q,w16 B]⟩ ⟨4,[w16 (2*R),w16 R,w16 Q,w16 B]⟩ 0 2 3 B R K []):=by and_intros<;>kernel_rfl
theorem Z1T (p n m f K:Int) (b:Bool) (x a:Value) (B Q R:Nat) (g:Nat→Value):Zh (evL (Zm prog Zg ZW Zb6) 300 (dgU f13) (dgF p n m b x (.int .i64 f) a (s16 0 B) (s16 1 Q) (s16 2 R) undef undef++tl 111 g,⟨3,[w16 R,w16 Q,w16 B]⟩,[cmp true,num (2*R:Nat),num K,cmp false,cmp true]) ⟨[],[],[]⟩) 18 111 none (dgF p n m b x (.int .i64 f) a (s16 0 B) (s16 1 Q) (s16 2 R) (.bool false) (.int .i64 K)) ⟨4,[w16 (2*R),w16 R,w16 Q,w16 B]⟩ ((m==2,true)::(m==1,false)::lC1 ⟨3,[w16 R,w16 Q,w16 B]⟩ ⟨4,[w16 (2*R),w16 R,w16 Q,w16 B]⟩ 0 2 3 B R K []):=by and_intros<;>kernel_rfl
theorem Z1U (p n m f K:Int) (b:Bool) (x a:Value) (B Q R:Nat) (g:Nat→Value):Zh (evL (Zm prog Zg ZW Zb6) 300 (dgU f13) (dgF p n m b x (.int .i64 f) a (s16 0 B) (s16 1 Q) (s16 2 R) undef undef++tl 111 g,⟨3,[w16 R,w16 Q,w16 B]⟩,[cmp true,num (2*R:Nat),num K,cmp false,cmp false,cmp true,cmp true]) ⟨[],[],[]⟩) 18 111 none (dgF p n m b x (.int .i64 f) a (s16 0 B) (s16 1 Q) (s16 2 R) (.bool (!b)) (.int .i64 K)) ⟨4,[w16 (2*R),w16 R,w16 Q,w16 B]⟩ ((decide (((d16 R).length:Int)>0),true)::(m==3,true)::(m==2,false)::(m==1,false)::lC1 ⟨3,[w16 R,w16 Q,w16 B]⟩ ⟨4,[w16 (2*R),w16 R,w16 Q,w16 B]⟩ 0 2 3 B R K []):=by and_intros<;>kernel_rfl
theorem Z1V (p n m f K:Int) (b:Bool) (x a:Value) (B Q R:Nat) (g:Nat→Value):Zh (evL (Zm prog Zg ZW Zb6) 300 (dgU f13) (dgF p n m b x (.int .i64 f) a (s16 0 B) (s16 1 Q) (s16 2 R) undef undef++tl 111 g,⟨3,[w16 R,w16 Q,w16 B]⟩,[cmp true,num (2*R:Nat),num K,cmp false,cmp false,cmp false,cmp true,cmp true]) ⟨[],[],[]⟩) 18 111 none (dgF p n m b x (.int .i64 f) a (s16 0 B) (s16 1 Q) (s16 2 R) (.bool b) (.int .i64 K)) ⟨4,[w16 (2*R),w16 R,w16 Q,w16 B]⟩ ((decide (((d16 R).length:Int)>0),true)::(m==4,true)::(m==3,false)::(m==2,false)::(m==1,false)::lC1 ⟨3,[w16 R,w16 Q,w16 B]⟩ ⟨4,[w16 (2*R),w16 R,w16 Q,w16 B]⟩ 0 2 3 B R K []):=by and_intros<;>kernel_rfl
theorem Zxk (p n m f K:Int) (b:Bool) (x a:Value) (B Q R:Nat) (g:Nat→Value):Zh (evL (Zm prog Zg ZW Zb6) 300 (dgU f13) (dgF p n m b x (.int .i64 f) a (s16 0 B) (s16 1 Q) (s16 2 R) undef undef++tl 111 g,⟨3,[w16 R,w16 Q,w16 B]⟩,[cmp true,num (2*R:Nat),num K,cmp false,cmp false,cmp false,cmp false,cmp true]) ⟨[],[],[]⟩) 18 111 none (dgF p n m b x (.int .i64 f) a (s16 0 B) (s16 1 Q) (s16 2 R) (.bool true) (.int .i64 K)) ⟨4,[w16 (2*R),w16 R,w16 Q,w16 B]⟩ ((decide (K>0),true)::(m==4,false)::(m==3,false)::(m==2,false)::(m==1,false)::lC1 ⟨3,[w16 R,w16 Q,w16 B]⟩ ⟨4,[w16 (2*R),w16 R,w16 Q,w16 B]⟩ 0 2 3 B R K []):=by and_intros<;>kernel_rfl
theorem Zxl (p n m f K:Int) (b:Bool) (x a:Value) (B Q R:Nat) (g:Nat→Value):Zh (evL (Zm prog Zg ZW Zb6) 300 (dgU f13) (dgF p n m b x (.int .i64 f) a (s16 0 B) (s16 1 Q) (s16 2 R) undef undef++tl 111 g,⟨3,[w16 R,w16 Q,w16 B]⟩,[cmp true,num (2*R:Nat),num K,cmp false,cmp false,cmp false,cmp false,cmp false,cmp false]) ⟨[],[],[]⟩) 18 111 none (dgF p n m b x (.int .i64 f) a (s16 0 B) (s16 1 Q) (s16 2 R) (.bool false) (.int .i64 K)) ⟨4,[w16 (2*R),w16 R,w16 Q,w16 B]⟩ ((K==0,false)::(decide (K>0),false)::(m==4,false)::(m==3,false)::(m==2,false)::(m==1,false)::lC1 ⟨3,[w16 R,w16 Q,w16 B]⟩ ⟨4,[w16 (2*R),w16 R,w16 Q,w16 B]⟩ 0 2 3 B R K []):=by and_intros<;>kernel_rfl
theorem Zxm (p n m f K:Int) (b:Bool) (d:Bool) (v:Int) (x a:Value) (B Q R:Nat) (g:Nat→Value):Zh (evL (Zm prog Zg ZW Zb6) 300 (dgU f13) (dgF p n m b x (.int .i64 f) a (s16 0 B) (s16 1 Q) (s16 2 R) undef undef++tl 111 g,⟨3,[w16 R,w16 Q,w16 B]⟩,[cmp true,num (2*R:Nat),num K,cmp false,cmp false,cmp false,cmp false,cmp false,cmp true,cmp true,at_,val (.int .u32 v),cmp false,cmp d]) ⟨[],[],[]⟩) 18 111 none (dgF p n m b x (.int .i64 f) a (s16 0 B) (s16 1 Q) (s16 2 R) (.bool d) (.int .i64 K)) ⟨4,[w16 (2*R),w16 R,w16 Q,w16 B]⟩ ((v.tmod 2==1,d)::(decide ((2:Int)=0),false)::(Z3 ((wU (d16 Q))[0]?) (.int .u32 v),true)::(decide ((0:Int)≤0∧(0:Int)<((d16 Q).length:Int)),true)::(decide (((d16 Q).length:Int)>0),true)::(K==0,true)::(decide (K>0),false)::(m==4,false)::(m==3,false)::(m==2,false)::(m==1,false)::lC1 ⟨3,[w16 R,w16 Q,w16 B]⟩ ⟨4,[w16 (2*R),w16 R,w16 Q,w16 B]⟩ 0 2 3 B R K []):=by and_intros<;>kernel_rfl
theorem Z1W (p n m f K:Int) (b:Bool) (d:Bool) (x a:Value) (B Q R:Nat) (g:Nat→Value):Zh (evL (Zm prog Zg ZW Zb6) 300 (dgU f13) (dgF p n m b x (.int .i64 f) a (s16 0 B) (s16 1 Q) (s16 2 R) undef undef++tl 111 g,⟨3,[w16 R,w16 Q,w16 B]⟩,[cmp false,num K,cmp true,cmp d]) ⟨[],[],[]⟩) 18 111 none (dgF p n m b x (.int .i64 f) a (s16 0 B) (s16 1 Q) (s16 2 R) (.bool d) (.int .i64 K)) ⟨3,[w16 R,w16 Q,w16 B]⟩ ((decide (K≥0),d)::(m==1,true)::lC0 ⟨3,[w16 R,w16 Q,w16 B]⟩ 0 2 B R K []):=by and_intros<;>kernel_rfl
theorem Z1X (p n m f K:Int) (b:Bool) (x a:Value) (B Q R:Nat) (g:Nat→Value):Zh (evL (Zm prog Zg ZW Zb6) 300 (dgU f13) (dgF p n m b x (.int .i64 f) a (s16 0 B) (s16 1 Q) (s16 2 R) undef undef++tl 111 g,⟨3,[w16 R,w16 Q,w16 B]⟩,[cmp false,num K,cmp false,cmp true]) ⟨[],[],[]⟩) 18 111 none (dgF p n m b x (.int .i64 f) a (s16 0 B) (s16 1 Q) (s16 2 R) (.bool false) (.int .i64 K)) ⟨3,[w16 R,w16 Q,w16 B]⟩ ((m==2,true)::(m==1,false)::lC0 ⟨3,[w16 R,w16 Q,w16 B]⟩ 0 2 B R K []):=by and_intros<;>kernel_rfl
theorem Zxn (p n m f K:Int) (b:Bool) (x a:Value) (B Q R:Nat) (g:Nat→Value):Zh (evL (Zm prog Zg ZW Zb6) 300 (dgU f13) (dgF p n m b x (.int .i64 f) a (s16 0 B) (s16 1 Q) (s16 2 R) undef undef++tl 111 g,⟨3,[w16 R,w16 Q,w16 B]⟩,[cmp false,num K,cmp false,cmp false,cmp true,cmp false]) ⟨[],[],[]⟩) 18 111 none (dgF p n m b x (.int .i64 f) a (s16 0 B) (s16 1 Q) (s16 2 R) (.bool false) (.int .i64 K)) ⟨3,[w16 R,w16 Q,w16 B]⟩ ((decide (((d16 R).length:Int)>0),false)::(m==3,true)::(m==2,false)::(m==1,false)::lC0 ⟨3,[w16 R,w16 Q,w16 B]⟩ 0 2 B R K []):=by and_intros<;>kernel_rfl
theorem Zxo (p n m f K:Int) (b:Bool) (x a:Value) (B Q R:Nat) (g:Nat→Value):Zh (evL (Zm prog Zg ZW Zb6) 300 (dgU f13) (dgF p n m b x (.int .i64 f) a (s16 0 B) (s16 1 Q) (s16 2 R) undef undef++tl 111 g,⟨3,[w16 R,w16 Q,w16 B]⟩,[cmp false,num K,cmp false,cmp false,cmp false,cmp true,cmp false]) ⟨[],[],[]⟩) 18 111 none (dgF p n m b x (.int .i64 f) a (s16 0 B) (s16 1 Q) (s16 2 R) (.bool false) (.int .i64 K)) ⟨3,[w16 R,w16 Q,w16 B]⟩ ((decide (((d16 R).length:Int)>0),false)::(m==4,true)::(m==3,false)::(m==2,false)::(m==1,false)::lC0 ⟨3,[w16 R,w16 Q,w16 B]⟩ 0 2 B R K []):=by and_intros<;>kernel_rfl
theorem Zxp (p n m f K:Int) (b:Bool) (x a:Value) (B Q R:Nat) (g:Nat→Value):Zh (evL (Zm prog Zg ZW Zb6) 300 (dgU f13) (dgF p n m b x (.int .i64 f) a (s16 0 B) (s16 1 Q) (s16 2 R) undef undef++tl 111 g,⟨3,[w16 R,w16 Q,w16 B]⟩,[cmp false,num K,cmp false,cmp false,cmp false,cmp false,cmp false,cmp false]) ⟨[],[],[]⟩) 18 111 none (dgF p n m b x (.int .i64 f) a (s16 0 B) (s16 1 Q) (s16 2 R) (.bool false) (.int .i64 K)) ⟨3,[w16 R,w16 Q,w16 B]⟩ ((K==0,false)::(decide (K>0),false)::(m==4,false)::(m==3,false)::(m==2,false)::(m==1,false)::lC0 ⟨3,[w16 R,w16 Q,w16 B]⟩ 0 2 B R K []):=by and_intros<;>kernel_rfl
theorem Z1Y (p m f:Int) (b:Bool) (x a c r k:Value) (Q V N:Nat) (h:UInt8) (t:List UInt8) (g:Nat→Value):Zh (evC (Zm prog Zg ZW Zb6) 300 false (sK f13 13) (dgF p ((N+1:Nat):Int) m b x (.int .i64 f) a c (s16 0 Q) r (.bool true) k++tl 111 g,⟨1,[w16 Q]⟩,[cmp true,num V,val (bR (h::t)),cmp true,sam true]) ⟨[],[],[]⟩) 8 121 (some none) [.int .u64 p,.int .i64 ((N+1:Nat):Int),.int .i64 m,undef,undef,undef,bR (txL b (h::t.take N) (i64.wrap (f+1))),.int .i64 0] ⟨3,[w16 V,w16 1,w16 Q]⟩ [(decide ((t.take N).length≤100000∧(i64.wrap (f+1)).natAbs≤2000000),true),(decide ((0:Int)≤((N+1:Nat):Int)∧((N+1:Nat):Int)≤(((h::t).length:Nat):Int)),true),(decide ((((h::t).length:Nat):Int)>((N+1:Nat):Int)),true),(Zaa ⟨3,[w16 V,w16 1,w16 Q]⟩ (Z6 2) (d16 V).length (d16 V).length && ZeJ (Zj ⟨3,[w16 V,w16 1,w16 Q]⟩ (Z6 2) (d16 V).length) && Nat.blt (d16 V).length 1073741824,true),(decide (zD (vO ⟨3,[w16 V,w16 1,w16 Q]⟩ (Z6 2) (d16 V).length)=h::t),true),(decide (vO ⟨2,[w16 1,w16 Q]⟩ (Z6 0) (d16 Q).length+vO ⟨2,[w16 1,w16 Q]⟩ (Z6 1) (d16 1).length=V),true),(zB ⟨2,[w16 1,w16 Q]⟩ (Z6 0) (Z6 1) (d16 Q).length (d16 Q).length (d16 1).length (d16 1).length,true),(decide (0<(d16 Q).length∨0<(d16 1).length),true),(decide ((0:Int)≤1∧(1:Int)<18446744073709551616),true)]:=by and_intros<;>kernel_rfl
theorem Z1Z (p m f:Int) (b:Bool) (x a c r k:Value) (Q V N:Nat) (h:UInt8) (t:List UInt8) (g:Nat→Value):Zh (evC (Zm prog Zg ZW Zb6) 300 false (sK f13 13) (dgF p ((N+1:Nat):Int) m b x (.int .i64 f) a c (s16 0 Q) r (.bool true) k++tl 111 g,⟨1,[w16 Q]⟩,[cmp true,num V,val (bR (h::t)),cmp false]) ⟨[],[],[]⟩) 8 121 (some none) [.int .u64 p,.int .i64 ((N+1:Nat):Int),.int .i64 m,undef,undef,undef,bR (txL b (h::t) f),.int .i64 0] ⟨3,[w16 V,w16 1,w16 Q]⟩ [(decide (t.length≤100000∧f.natAbs≤2000000),true),(decide ((((h::t).length:Nat):Int)>((N+1:Nat):Int)),false),(Zaa ⟨3,[w16 V,w16 1,w16 Q]⟩ (Z6 2) (d16 V).length (d16 V).length && ZeJ (Zj ⟨3,[w16 V,w16 1,w16 Q]⟩ (Z6 2) (d16 V).length) && Nat.blt (d16 V).length 1073741824,true),(decide (zD (vO ⟨3,[w16 V,w16 1,w16 Q]⟩ (Z6 2) (d16 V).length)=h::t),true),(decide (vO ⟨2,[w16 1,w16 Q]⟩ (Z6 0) (d16 Q).length+vO ⟨2,[w16 1,w16 Q]⟩ (Z6 1) (d16 1).length=V),true),(zB ⟨2,[w16 1,w16 Q]⟩ (Z6 0) (Z6 1) (d16 Q).length (d16 Q).length (d16 1).length (d16 1).length,true),(decide (0<(d16 Q).length∨0<(d16 1).length),true),(decide ((0:Int)≤1∧(1:Int)<18446744073709551616),true)]:=by and_intros<;>kernel_rfl
theorem Z2a (p m f:Int) (b:Bool) (x a c r k:Value) (Q V N:Nat) (h:UInt8) (t:List UInt8) (g:Nat→Value):Zh (evC (Zm prog Zg ZW Zb6) 300 false (sK f13 13) (dgF p ((N+1:Nat):Int) m b x (.int .i64 f) a c (s16 0 Q) r (.bool false) k++tl 111 g,⟨1,[w16 Q]⟩,[val (bR (h::t)),cmp true,sam true]) ⟨[],[],[]⟩) 8 121 (some none) [.int .u64 p,.int .i64 ((N+1:Nat):Int),.int .i64 m,undef,undef,undef,bR (txL b (h::t.take N) (i64.wrap (f+1))),.int .i64 0] ⟨1,[w16 Q]⟩ [(decide ((t.take N).length≤100000∧(i64.wrap (f+1)).natAbs≤2000000),true),(decide ((0:Int)≤((N+1:Nat):Int)∧((N+1:Nat):Int)≤(((h::t).length:Nat):Int)),true),(decide ((((h::t).length:Nat):Int)>((N+1:Nat):Int)),true),(Zaa ⟨1,[w16 Q]⟩ (Z6 0) (d16 Q).length (d16 Q).length && ZeJ (Zj ⟨1,[w16 Q]⟩ (Z6 0) (d16 Q).length) && Nat.blt (d16 Q).length 1073741824,true),(decide (zD (vO ⟨1,[w16 Q]⟩ (Z6 0) (d16 Q).length)=h::t),true)]:=by and_intros<;>kernel_rfl
theorem Z2b (p m f:Int) (b:Bool) (x a c r k:Value) (Q V N:Nat) (h:UInt8) (t:List UInt8) (g:Nat→Value):Zh (evC (Zm prog Zg ZW Zb6) 300 false (sK f13 13) (dgF p ((N+1:Nat):Int) m b x (.int .i64 f) a c (s16 0 Q) r (.bool false) k++tl 111 g,⟨1,[w16 Q]⟩,[val (bR (h::t)),cmp false]) ⟨[],[],[]⟩) 8 121 (some none) [.int .u64 p,.int .i64 ((N+1:Nat):Int),.int .i64 m,undef,undef,undef,bR (txL b (h::t) f),.int .i64 0] ⟨1,[w16 Q]⟩ [(decide (t.length≤100000∧f.natAbs≤2000000),true),(decide ((((h::t).length:Nat):Int)>((N+1:Nat):Int)),false),(Zaa ⟨1,[w16 Q]⟩ (Z6 0) (d16 Q).length (d16 Q).length && ZeJ (Zj ⟨1,[w16 Q]⟩ (Z6 0) (d16 Q).length) && Nat.blt (d16 Q).length 1073741824,true),(decide (zD (vO ⟨1,[w16 Q]⟩ (Z6 0) (d16 Q).length)=h::t),true)]:=by and_intros<;>kernel_rfl
section
variable {p n m f : Int} {b : Bool} {B Q R : Nat}
theorem ZcZ {X:Code}{P:Ex→Lf→Prop}{x a:Value}{g0:Nat→Value}{s s0:List Dec}{K:Int}{u:Bool}{H:Hp}{cs:Log}(hG:Zh (evL (Zm prog Zg ZW Zb6) 300 (dgU f13) (dgF p n m b x (.int .i64 f) a (s16 0 B) (s16 1 Q) (s16 2 R) undef undef++tl 111 g0,⟨3,[w16 R,w16 Q,w16 B]⟩,s) ⟨[],[],[]⟩) 18 111 none (dgF p n m b x (.int .i64 f) a (s16 0 B) (s16 1 Q) (s16 2 R) (.bool u) (.int .i64 K)) H cs) (hcs:Zu cs) (hH:H.blk? 1=some (w16 Q)) (hu:Zar m b Q R B=u)
  (hX:∀ x a c r k g,RunsW (Zm prog Zg ZW Zb6) X (dgF p n m b x (.int .i64 f) a c (s16 0 Q) r (.bool (Zar m b Q R B)) k++tl 111 g,⟨1,[w16 Q]⟩,[]) P):
  RunsW (Zm prog Zg ZW Zb6) (zo (dgU f13) X) (dgF p n m b x (.int .i64 f) a (s16 0 B) (s16 1 Q) (s16 2 R) undef undef++tl 111 g0,⟨3,[w16 R,w16 Q,w16 B]⟩,s0) P:=by
 rw[hu] at hX;refine ZA Zg5 hG hcs fun g=> ?_;refine RunsW.preP [some (.int .u64 p),some (.int .i64 n),some (.int .i64 m),some undef,some undef,some undef,some (bR []),some (.int .i64 0),some (.bool b),some (bR []),none,some (.int .i64 f),none,none,some (s16 0 Q),none,some (.bool u),none] [1] [w16 Q] (fun j g'=>hX _ _ _ _ _ g') rfl (by decide) ⟨rfl,rfl,rfl,ZaC _,ZaC _,ZaC _,rfl,rfl,rfl,rfl,rfl,rfl,rfl,trivial⟩ (fa1 (Zfx hH)) (by decide) (by rfl)
theorem Z5P {X:Code}{P:Ex→Lf→Prop}{x a:Value}{g0:Nat→Value}{s0:List Dec}(lB:(d16 B).length<100000) (lR:(d16 R).length<100000) (l2:(d16 (2*R)).length<100000) (hQ:Q≠0) (hB:0<B)
  (hX:∀ x a c r k g,RunsW (Zm prog Zg ZW Zb6) X (dgF p n m b x (.int .i64 f) a c (s16 0 Q) r (.bool (Zar m b Q R B)) k++tl 111 g,⟨1,[w16 Q]⟩,[]) P):
  RunsW (Zm prog Zg ZW Zb6) (zo (dgU f13) X) (dgF p n m b x (.int .i64 f) a (s16 0 B) (s16 1 Q) (s16 2 R) undef undef++tl 111 g0,⟨3,[w16 R,w16 Q,w16 B]⟩,s0) P:=by
 have eQ:(((Q % 65536:Nat):Int).tmod 2==1)=decide (Q % 2=1):=by
  have:((Q % 65536:Nat):Int).tmod 2=((Q % 2:Nat):Int):=by
   rw[Int.tmod_eq_emod_of_nonneg (Int.natCast_nonneg _)];omega
  rw[this];rcases Nat.mod_two_eq_zero_or_one Q with h | h<;>rw[h]<;>rfl
 have lQ:((d16 Q).length:Int)>0:=by have:=ZdP.2 (Nat.pos_of_ne_zero hQ);omega
 rcases Nat.eq_zero_or_pos R with hR | hR
 ·subst hR;have hc:Zac 0 B= -1:=by unfold Zac;rw[if_pos hB]
  have k0:Zu (lC0 ⟨3,[w16 0,w16 Q,w16 B]⟩ 0 2 B 0 (Zac 0 B) []):=Z6T rfl rfl lB (fun x hx=>by cases hx);rw[hc] at k0;have z0:decide (((d16 0).length:Int)>0)=false:=by rw[Zjz];rfl
  by_cases m1:m=1
  ·exact ZcZ (Z1W p n m f (-1) b false x a B Q 0 g0) (Za (by decide) (Za (zy m1) k0)) rfl (by unfold Zar;rw[if_pos m1];exact Xb (by omega)) hX
  have k1:=Za (ze m1) k0;by_cases m2:m=2
  ·exact ZcZ (Z1X p n m f (-1) b x a B Q 0 g0) (Za (zy m2) k1) rfl (by unfold Zar;rw[if_neg m1,if_pos m2]) hX
  have k2:=Za (ze m2) k1;by_cases m3:m=3
  ·exact ZcZ (Zxn p n m f (-1) b x a B Q 0 g0) (Za z0 (Za (zy m3) k2)) rfl (by unfold Zar;rw[if_neg m1,if_neg m2,if_pos m3];rfl) hX
  have k3:=Za (ze m3) k2;by_cases m4:m=4
  ·exact ZcZ (Zxo p n m f (-1) b x a B Q 0 g0) (Za z0 (Za (zy m4) k3)) rfl (by unfold Zar;rw[if_neg m1,if_neg m2,if_neg m3,if_pos m4];rfl) hX
  have k4:=Za (ze m4) k3;refine ZcZ (Zxp p n m f (-1) b x a B Q 0 g0) (Za (by decide) (Za (by decide) k4)) rfl ?_ hX;unfold Zar;rw[if_neg m1,if_neg m2,if_neg m3,if_neg m4,Xb (by omega),Xb (p:=2*0=B) (by omega)];rfl
 ·have k0:Zu (lC1 ⟨3,[w16 R,w16 Q,w16 B]⟩ ⟨4,[w16 (2*R),w16 R,w16 Q,w16 B]⟩ 0 2 3 B R (Zac (2*R) B) []):=Z6S rfl rfl rfl lB lR l2 hR (fun x hx=>by cases hx);have z1:decide (((d16 R).length:Int)>0)=true:=Xa (by have:=ZdP.2 hR;omega);by_cases m1:m=1
  ·exact ZcZ (Z1S p n m f (Zac (2*R) B) b (decide (B≤2*R)) x a B Q R g0) (Za Zbb (Za (zy m1) k0)) rfl (by unfold Zar;rw[if_pos m1]) hX
  have k1:=Za (ze m1) k0;by_cases m2:m=2
  ·exact ZcZ (Z1T p n m f (Zac (2*R) B) b x a B Q R g0) (Za (zy m2) k1) rfl (by unfold Zar;rw[if_neg m1,if_pos m2]) hX
  have k2:=Za (ze m2) k1;by_cases m3:m=3
  ·exact ZcZ (Z1U p n m f (Zac (2*R) B) b x a B Q R g0) (Za z1 (Za (zy m3) k2)) rfl (by unfold Zar;rw[if_neg m1,if_neg m2,if_pos m3,Xa hR];rfl) hX
  have k3:=Za (ze m3) k2;by_cases m4:m=4
  ·exact ZcZ (Z1V p n m f (Zac (2*R) B) b x a B Q R g0) (Za z1 (Za (zy m4) k3)) rfl (by unfold Zar;rw[if_neg m1,if_neg m2,if_neg m3,if_pos m4,Xa hR];rfl) hX
  have k4:=Za (ze m4) k3;have eu:Zar m b Q R B=(decide (B<2*R) || (decide (2*R=B) && decide (Q % 2=1))):=by unfold Zar;rw[if_neg m1,if_neg m2,if_neg m3,if_neg m4]
  by_cases c1:B<2*R
  ·exact ZcZ (Zxk p n m f (Zac (2*R) B) b x a B Q R g0) (Za (by rw[Zoq];exact Xa c1) k4) rfl (by rw[eu,Xa c1];rfl) hX
  have g1:decide (Zac (2*R) B>0)=false:=by rw[Zoq];exact Xb c1
  by_cases c2:2*R=B
  ·refine ZcZ (Zxm p n m f (Zac (2*R) B) b (decide (Q % 2=1)) ((Q % 65536:Nat):Int) x a B Q R g0) (Za eQ (Za (by decide) (Za (Z1R hQ) (Za (Xa ⟨by omega,lQ⟩) (Za (Xa lQ) (Za (by rw[ZnX];exact Xa c2) (Za g1 k4))))))) rfl ?_ hX;rw[eu,Xb c1,Xa c2];rfl
  ·refine ZcZ (Zxl p n m f (Zac (2*R) B) b x a B Q R g0) (Za (by rw[ZnX];exact Xb c2) (Za g1 k4)) rfl ?_ hX;rw[eu,Xb c1,Xb c2];rfl
theorem Z2c {x a c r k:Value}{g:Nat→Value}{s:List Dec}{N:Nat}(hN:N≤999) (u:Bool) (hQ:Q≠0) (lQ:(d16 Q).length<100000) (lV:(d16 (Q+1)).length<100000) (hf: -400≤f∧f≤400) (hd:(zD Q).length≤2000∧(zD (Q+1)).length≤2000):
  RunsW (Zm prog Zg ZW Zb6) (sK f13 13) (dgF p ((N+1:Nat):Int) m b x (.int .i64 f) a c (s16 0 Q) r (.bool u) k++tl 111 g,⟨1,[w16 Q]⟩,s) fun e y=>(e=none∨e=some none)∧zd prog f13 y.1 y.2.1=some (.tuple #[bR (dcT b (N+1) (if u=true then Q+1 else Q) f),.int .i64 0]):=by
 have ew:i64.wrap (f+1)=f+1:=Zw (by omega) (by omega);have fin:∀ {cs:Log}{H:Hp}{sc:List Dec}{tx:List UInt8},Zh (evC (Zm prog Zg ZW Zb6) 300 false (sK f13 13) (dgF p ((N+1:Nat):Int) m b x (.int .i64 f) a c (s16 0 Q) r (.bool u) k++tl 111 g,⟨1,[w16 Q]⟩,sc) ⟨[],[],[]⟩) 8 121 (some none) [.int .u64 p,.int .i64 ((N+1:Nat):Int),.int .i64 m,undef,undef,undef,bR tx,.int .i64 0] H cs→Zu cs→tx=dcT b (N+1) (if u=true then Q+1 else Q) f→RunsW (Zm prog Zg ZW Zb6) (sK f13 13) (dgF p ((N+1:Nat):Int) m b x (.int .i64 f) a c (s16 0 Q) r (.bool u) k++tl 111 g,⟨1,[w16 Q]⟩,s) fun e y=>(e=none∨e=some none)∧zd prog f13 y.1 y.2.1=some (.tuple #[bR (dcT b (N+1) (if u=true then Q+1 else Q) f),.int .i64 0]):=by
  intro cs H sc tx hG hcs ht;refine (Zd Zg5 hG hcs).mono fun e z he=> ?_;obtain⟨rfl,⟨g',z1⟩,z2⟩:=he;refine⟨.inr rfl,?_⟩;rw[z1,← ht];rfl
 have tk:∀ {h:UInt8}{t:List UInt8},(h::t).length≤2000→N+1<(h::t).length→decide ((t.take N).length≤100000∧(f+1).natAbs≤2000000)=true:=fun {h t} h1 h2=>Xa ⟨by rw[List.length_take];rw[List.length_cons] at h1;omega,by omega⟩;cases u with
 | true=>
  obtain⟨V,hV⟩:∃ V,V=Q+1:=⟨_,rfl⟩;rw[if_pos rfl] at fin ⊢;rw[← hV] at lV hd fin ⊢;obtain⟨l1,_,_⟩:=Zak (W:=V) (by omega);cases ht:zD V with
  | nil=>rw[ht] at l1;simp at l1
  | cons h t=>
   rw[ht] at hd;have rV:=RowV.at (h:=⟨3,[w16 V,w16 1,w16 Q]⟩) (b:=2) (V:=V) rfl lV;have rQ:=RowV.at (h:=⟨2,[w16 1,w16 Q]⟩) (b:=0) (V:=Q) rfl lQ;have r1:=RowV.at (h:=⟨2,[w16 1,w16 Q]⟩) (b:=1) (V:=1) rfl (zf (i:=1) (by decide) (by omega));have k0:Zu [(Zaa ⟨3,[w16 V,w16 1,w16 Q]⟩ (Z6 2) (d16 V).length (d16 V).length && ZeJ (Zj ⟨3,[w16 V,w16 1,w16 Q]⟩ (Z6 2) (d16 V).length) && Nat.blt (d16 V).length 1073741824,true),(decide (zD (vO ⟨3,[w16 V,w16 1,w16 Q]⟩ (Z6 2) (d16 V).length)=h::t),true),(decide (vO ⟨2,[w16 1,w16 Q]⟩ (Z6 0) (d16 Q).length+vO ⟨2,[w16 1,w16 Q]⟩ (Z6 1) (d16 1).length=V),true),(zB ⟨2,[w16 1,w16 Q]⟩ (Z6 0) (Z6 1) (d16 Q).length (d16 Q).length (d16 1).length (d16 1).length,true),(decide (0<(d16 Q).length∨0<(d16 1).length),true),(decide ((0:Int)≤1∧(1:Int)<18446744073709551616),true)]:=Za (Zrz (h:=⟨3,[w16 V,w16 1,w16 Q]⟩) (b:=2) (V:=V) rfl lV) (Za (by rw[rV.vo];exact Xa ht) (Za (by rw[rQ.vo,r1.vo];exact Xa hV.symm) (Za (RowV.two rQ r1) (Za (Xa (.inl (ZdP.2 (by omega)))) (ZB (by decide))))));by_cases hl:N+1<(h::t).length
   ·have hG:=Z1Y p m f b x a c r k Q V N h t g;rw[ew] at hG;refine fin hG (Za (tk hd.2 hl) (Za (Xa ⟨by omega,by omega⟩) (Za (Xa (by omega)) k0))) ?_;unfold dcT;rw[ht,if_pos hl];rfl
   ·refine fin (Z1Z p m f b x a c r k Q V N h t g) (Za (Xa ⟨by have:=hd.2;rw[List.length_cons] at this;omega,by omega⟩) (Za (Xb (by omega)) k0)) ?_;unfold dcT;rw[ht,if_neg hl]
 | false=>
  rw[if_neg (by decide)] at fin ⊢;obtain⟨l1,_,_⟩:=Zak (W:=Q) (by omega);cases ht:zD Q with
  | nil=>rw[ht] at l1;simp at l1
  | cons h t=>
   rw[ht] at hd;have rQ:=RowV.at (h:=⟨1,[w16 Q]⟩) (b:=0) (V:=Q) rfl lQ;have k0:Zu [(Zaa ⟨1,[w16 Q]⟩ (Z6 0) (d16 Q).length (d16 Q).length && ZeJ (Zj ⟨1,[w16 Q]⟩ (Z6 0) (d16 Q).length) && Nat.blt (d16 Q).length 1073741824,true),(decide (zD (vO ⟨1,[w16 Q]⟩ (Z6 0) (d16 Q).length)=h::t),true)]:=Za (Zrz (h:=⟨1,[w16 Q]⟩) (b:=0) (V:=Q) rfl lQ) (ZB (by rw[rQ.vo];exact Xa ht));by_cases hl:N+1<(h::t).length
   ·have hG:=Z2a p m f b x a c r k Q 0 N h t g;rw[ew] at hG;refine fin hG (Za (tk hd.1 hl) (Za (Xa ⟨by omega,by omega⟩) (Za (Xa (by omega)) k0))) ?_;unfold dcT;rw[ht,if_pos hl];rfl
   ·refine fin (Z2b p m f b x a c r k Q 0 N h t g) (Za (Xa ⟨by have:=hd.1;rw[List.length_cons] at this;omega,by omega⟩) (Za (Xb (by omega)) k0)) ?_;unfold dcT;rw[ht,if_neg hl]
end
end Go.Proofs.YtgefjidphfdhdaaGreatDoor
