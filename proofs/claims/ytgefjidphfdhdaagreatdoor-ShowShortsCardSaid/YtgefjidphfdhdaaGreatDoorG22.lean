/-
  ShS, ShT, SiC, ShW, RunO, PtA, PtT, SiE, SiF, RdH, SuN, RdI, RdJ
-/
import Derived.Test.YtgefjidphfdhdaaGreatDoorG21
namespace Go.Proofs.YtgefjidphfdhdaaGreatDoor
open Go.Proofs.Tryz
open Go.IntKind
open Go.KRun Go.Nt Go.Rd Go.Wd Go.Pt
set_option maxRecDepth 100000
theorem ZtZ:zw 43 (gU fun p=> .string (hxW p)):=Zlk Zp8
def Zl3:Con:=alt 20 (gU vT) (alt 22 Z7r (alt 44 Z4n (alt 45 Z7q (alt 43 (gU fun p=> .string (hxW p)) (alt 42 Z4g Zn)))))
theorem Zua:ConOk Zl3:=ZE func20 rfl ZhL (ZE func22 rfl ZoX (ZE func44 rfl ZiG (ZE func45 rfl ZoW (ZE func43 rfl ZtZ (ZE func42 rfl ZiC Zd)))))
theorem Zub:TabOk (Zk prog Zf Zl3 Z02):=Zh Zua Zqe
def hfD (p:Int):List UInt8:=(hxW p).data.toList.drop 3
def hfT (p:Int) (c:UInt8):List UInt8:=ptL ([c]++trC 48 (hfD p))
def hfW (p:Int) (c:UInt8) (x:Int):List UInt8:=(((mnL (sgn p)++[48,120])++hfT p c)++[112])++ZaA x
def lHf (p:Int) (c:UInt8) (x:Int) (l:Log):Log:=(decide ((((mnL (sgn p)++[48,120])++hfT p c)++[112]).length+(ZaA x).length≤9223372036854775807),true)::(decide (x.natAbs≤2000000),true)::(decide (((mnL (sgn p)++[48,120])++hfT p c).length+1≤9223372036854775807),true)::(decide ((mnL (sgn p)++[48,120]).length+(hfT p c).length≤9223372036854775807),true)::(decide (1≤([c]++trC 48 (hfD p)).length∧([c]++trC 48 (hfD p)).length≤100000),true)::(decide (1+(trC 48 (hfD p)).length≤9223372036854775807),true)::(decide ((mnL (sgn p)).length+2≤9223372036854775807),true)::(true,true)::(decide ((hfD p).length≤100000),true)::(true,true)::(decide (U p),true)::l
theorem Z6i (p:Int):ZB (ZS (Zk prog Zf Zl3 Z02) hT0 200 15 [.int .u64 p] [cmp false,cmp false,cmp false]) (bR (nmL (sgn p) (cl p))) [(cl p==2,false),(cl p==1,false),(cl p==0,false),(decide (U p),true)]:=by and_intros<;>kernel_rfl
theorem Z6j (p:Int):ZB (ZS (Zk prog Zf Zl3 Z02) hT0 200 15 [.int .u64 p] [cmp true,sam true,sam true,sam true,sam true,sam true,sam true]) (bR (hfW p 48 0)) (lHf p 48 0 [(cl p==0,true),(decide (U p),true)]):=by and_intros<;>kernel_rfl
theorem Z6k (p:Int):ZB (ZS (Zk prog Zf Zl3 Z02) hT0 200 15 [.int .u64 p] [cmp false,cmp true,sam true,sam true,sam true,sam true,sam true,sam true]) (bR (hfW p 48 (i64.wrap (xp p+52)))) (lHf p 48 (i64.wrap (xp p+52)) [(cl p==1,true),(cl p==0,false),(decide (U p),true)]):=by and_intros<;>kernel_rfl
theorem Z6l (p:Int):ZB (ZS (Zk prog Zf Zl3 Z02) hT0 200 15 [.int .u64 p] [cmp false,cmp false,cmp true,sam true,sam true,sam true,sam true,sam true,sam true]) (bR (hfW p 49 (i64.wrap (xp p+52)))) (lHf p 49 (i64.wrap (xp p+52)) [(cl p==2,true),(cl p==1,false),(cl p==0,false),(decide (U p),true)]):=by and_intros<;>kernel_rfl
theorem ZiO (p:Int):∀ k:Nat,hSn p k=p/16^k
 | 0=>by show p=p/16^0;rw[Int.pow_zero,Int.ediv_one]
 | k+1=>by
  show hSx (hSn p k)=_;rw[ZiO p k];unfold hSx;have e:(2:Int)^min (Int.toNat 4) 64=16:=rfl;rw[e,Int.fdiv_eq_ediv_of_nonneg _ (by omega),Int.ediv_ediv_of_nonneg (Int.le_of_lt (Int.pow_pos (by omega))),Int.pow_succ]
theorem Z07 {q r:Int}(hq:U q) (hr:U r) (h:q % 16=r % 16):hBx q=hBx r:=by
 unfold hBx hC;have e:∀ q:Int,U q→Zj2 q 15=q % 16:=fun q hq=>by
  rw[ZbY 0 4 hq (by rfl) (by decide)];have e0:(2:Int)^0=1:=rfl;have e4:(2:Int)^4=16:=rfl;rw[e0,e4];omega
 rw[e q hq,e r hr,h]
theorem Zqj {p:Int}(hp:U p) (k:Nat):U (p/16^k):=by
 have h1:(0:Int)<16^k:=Int.pow_pos (by omega);unfold U at hp ⊢;exact⟨Int.ediv_nonneg hp.1 (by omega),Int.lt_of_le_of_lt (Int.ediv_le_self _ hp.1) hp.2⟩
theorem Z6m {p:Int}(hp:U p):hfD p=ZvB p:=by
 have key:∀ k:Nat,k≤12→hBx (hSn p k)=hBx (hSn (ZeU p) k):=fun k hk=>by
  rw[ZiO,ZiO];have hf:ZeU p=p % 4503599627370496:=by
   unfold ZeU;have h1:=ZeR p;have h2:fr p=p % 4503599627370496:=rfl;have h3:0≤sg p:=(Go.Rn.sg_lt p).1;rw[Int.tmod_eq_emod_of_nonneg h3,← h2];unfold sg;split
   ·omega
   ·split<;>omega
  have hu:U (ZeU p):=by rw[hf];unfold U;omega
  refine Z07 (Zqj hp k) (Zqj hu k) ?_;rw[hf];rcases (show k=0∨k=1∨k=2∨k=3∨k=4∨k=5∨k=6∨k=7∨k=8∨k=9∨k=10∨k=11∨k=12 by omega) with rfl | rfl | rfl | rfl | rfl | rfl | rfl | rfl | rfl | rfl | rfl | rfl | rfl
  all_goals
   simp only[show (16:Int)^0=1 from rfl,show (16:Int)^1=16 from rfl,show (16:Int)^2=256 from rfl,show (16:Int)^3=4096 from rfl,show (16:Int)^4=65536 from rfl,show (16:Int)^5=1048576 from rfl,show (16:Int)^6=16777216 from rfl,show (16:Int)^7=268435456 from rfl,show (16:Int)^8=4294967296 from rfl,show (16:Int)^9=68719476736 from rfl,show (16:Int)^10=1099511627776 from rfl,show (16:Int)^11=17592186044416 from rfl,show (16:Int)^12=281474976710656 from rfl];omega
 unfold hfD ZvB hxW;show [hBx (hSn p 12),hBx (hSn p 11),hBx (hSn p 10),hBx (hSn p 9),hBx (hSn p 8),hBx (hSn p 7),hBx (hSn p 6),hBx (hSn p 5),hBx (hSn p 4),hBx (hSn p 3),hBx (hSn p 2),hBx (hSn p 1),hBx (hSn p 0)]=[hBx (hSn (ZeU p) 12),hBx (hSn (ZeU p) 11),hBx (hSn (ZeU p) 10),hBx (hSn (ZeU p) 9),hBx (hSn (ZeU p) 8),hBx (hSn (ZeU p) 7),hBx (hSn (ZeU p) 6),hBx (hSn (ZeU p) 5),hBx (hSn (ZeU p) 4),hBx (hSn (ZeU p) 3),hBx (hSn (ZeU p) 2),hBx (hSn (ZeU p) 1),hBx (hSn (ZeU p) 0)];rw[key 12 (by omega),key 11 (by omega),key 10 (by omega),key 9 (by omega),key 8 (by omega),key 7 (by omega),key 6 (by omega),key 5 (by omega),key 4 (by omega),key 3 (by omega),key 2 (by omega),key 1 (by omega),key 0 (by omega)]
theorem Zqk {p:Int}(hp:U p) (c:UInt8) (x:Int):hfW p c x=Z1a (sgn p) c (trR (ZvB p)) x:=by
 unfold hfW hfT Z1a mnL;rw[Z6m hp,Z3X];cases trR (ZvB p) with
 | nil=>simp [ptL]
 | cons a r=>simp [ptL]
theorem Z08 {p:Int}(h:ZeU p=0):trR (ZvB p)=[]:=by
 unfold ZvB;rw[h]
 decide
theorem Zql {p:Int}(hp:U p) (c:UInt8) {x:Int}(hx:x.natAbs≤2000000) {l:Log}(hl:Zx l):Zx (lHf p c x l):=by
 have l0:(hfD p).length=13:=rfl;have l1:=Zgs (sgn p);have l2:=Zgo 48 (hfD p);have l3:=ZiN ([c]++trC 48 (hfD p));have l4:=ZcT x;have l5:([c]++trC 48 (hfD p)).length=1+(trC 48 (hfD p)).length:=by rw[List.length_append];rfl
 have l6:(hfT p c).length≤([c]++trC 48 (hfD p)).length+1:=l3;have l7:(mnL (sgn p)++[48,120]).length=(mnL (sgn p)).length+2:=by rw[List.length_append];rfl
 have l8:((mnL (sgn p)++[48,120])++hfT p c).length=(mnL (sgn p)).length+2+(hfT p c).length:=by rw[List.length_append,l7]
 have l9:(((mnL (sgn p)++[48,120])++hfT p c)++[112]).length=(mnL (sgn p)).length+2+(hfT p c).length+1:=by rw[List.length_append,l8];rfl
 exact Za (Xa (by omega)) (Za (Xa hx) (Za (Xa (by omega)) (Za (Xa (by omega)) (Za (Xa (by omega)) (Za (Xa (by omega)) (Za (Xa (by omega)) (Za rfl (Za (Xa (by omega)) (Za rfl (Za (Xa hp) hl))))))))))
theorem Zqm (p:Int) (hp:U p) (w:World) (hk:knT w):Calls prog 15 #[.int .u64 p] w fun e w'=>e= .returned (bR (Z5V p))∧Zak w w':=by
 have hu:decide (U p)=true:=Xa hp;have xb:=Go.Rn.xp_bd p;have ew:i64.wrap (xp p+52)=xp p+52:=Zw (by omega) (by omega);unfold Z5V;by_cases h2:cl p≤2
 ·rw[if_neg (fun c=>c (Zkr h2))];by_cases h0:cl p=0
  ·have hf:ZeU p=0:=by
    unfold ZeU;have:sg p=0:=by
     unfold cl at h0;unfold sg;split at h0
     ·rename_i c;rw[if_pos c];split at h0
      ·assumption
      ·omega
     ·split at h0
      ·split at h0
       ·omega
       ·split at h0<;>omega
      ·omega
    rw[this];rfl
   have f:=Z6j p;rw[Zqk hp,Z08 hf] at f;rw[if_pos h0];have e:Z1a (sgn p) 48 [] 0=(if sgn p=true then [45] else [])++[48,120,48,112,48]:=by
    unfold Z1a;rfl
   rw[e] at f;exact Zcs Zub f (Zql hp 48 (by decide) (Za (ZQ h0) (Z4 hu))) (by rfl) (by rfl) hk
  ·rw[if_neg h0];by_cases h1:cl p=1
   ·have ex0:xp p= -1074:=by
     have:=Zgr p;unfold xp;rcases this with ⟨a,_⟩ | ⟨a,b⟩ | ⟨a,b,c⟩
     ·rw[if_pos a]
     ·omega
     ·omega
    have f:=Z6k p;rw[Zqk hp,ew,show xp p+52= -1022 by omega] at f;rw[if_pos h1];exact Zcs Zub f (Zql hp 48 (by decide) (Za (ZQ h1) (Za (ZI h0) (Z4 hu)))) (by rfl) (by rfl) hk
   ·rw[if_neg h1];have h3:cl p=2:=by have:=Zgr p;omega
    have f:=Z6l p;rw[Zqk hp,ew] at f;have lk:=Zql hp 49 (x:=xp p+52) (by omega) (Za (ZQ h3) (Za (ZI h1) (Za (ZI h0) (Z4 hu))));exact Zcs Zub f lk (by rfl) (by rfl) hk
 ·obtain⟨a,b⟩:=ZtX hp h2;rw[if_pos a,← b];exact Zcs Zub (Z6i p) (Za (ZI (by omega)) (Za (ZI (by omega)) (Za (ZI (by omega)) (Z4 hu)))) (by rfl) (by rfl) hk
def ZBf:Ans:=gU fun p=>bR (shT p)
theorem Z09:Zcx 9 ZBf:=by
 intro vals s v s' lg h hl w hk;unfold ZBf gU at h;split at h
 ·cases h;exact ZtY _ (Xc (hl _ Xf)) w hk
 ·cases h
def ZBg:Ans:=gU fun p=>bR (Z5V p)
theorem Z0A:Zcx 15 ZBg:=by
 intro vals s v s' lg h hl w hk;unfold ZBg gU at h;split at h
 ·cases h;exact Zqm _ (Xc (hl _ Xf)) w hk
 ·cases h
end Go.Proofs.YtgefjidphfdhdaaGreatDoor
namespace Go.Proofs.YtgefjidphfdhdaaGreatDoor
open Go.Proofs.Tryz
open Go.KRun Go.Nt Go.Rd Go.Pt
set_option maxRecDepth 100000
def ZBh:Hc:=zd 9 (gT ZBf) (zd 12 (gT ZBe) (zd 15 (gT ZBg) hcN))
theorem Zqn:HcOk ZBh:=Zt func9 rfl (Zgq Z09) (Zt func12 rfl (Zgq Z06) (Zt func15 rfl (Zgq Z0A) zx))
theorem ZCN:shT 4591870180066957722=[49,101,45,49]:=by decide+kernel
theorem ZCO:Zqh 4607182418800017408 3 0=[49,46,48,48,101,48]:=by decide+kernel
theorem ZCP:Z5V 4609434218613702656=[48,120,49,46,56,112,48]:=by decide+kernel
theorem ZCQ:ZB (ZS (Zk prog Zf Zn ZBh) hT0 200 11 [] [cmp true,sam true,sam true,sam true]) (.bool true) [ZeA (Z5V 4609434218613702656) [48,120,49,46,56,112,48] true,(decide (U 4609434218613702656),true),ZeA (Zqh 4607182418800017408 3 0) [49,46,48,48,101,48] true,ZeA (shT 4591870180066957722) [49,101,45,49] true,(decide (U 4591870180066957722),true),(decide ((1:Int)≤3∧(3:Int)≤1000),true),(decide (U 4607182418800017408),true)]:=by and_intros<;>kernel_rfl
def Z0B:Ans:=fun vals s=>
 match vals with
 | []=>some (.bool true,s,[])
 | _=>none
theorem Zuc:Zcx 11 Z0B:=by
 intro vals s v s' lg h hl w hk;unfold Z0B at h;split at h
 ·cases h;exact Zcs (Zh Zd Zqn) ZCQ (Za (ZaB (by rw[ZCP];rfl)) (Za (by decide) (Za (ZaB (by rw[ZCO];rfl)) (Za (ZaB (by rw[ZCN];rfl)) (Za (by decide) (Za (by decide) (Z4 (by decide)))))))) (by rfl) (by rfl) hk
 ·cases h
def ZBA:Hc:=zd 11 (gT Z0B) ZBh
theorem Z0C:HcOk ZBA:=Zt func11 rfl (Zgq Zuc) Zqn
def Zud:Con:=alt 25 ZAB (alt 27 ZAC Zn)
theorem Zg1:ConOk Zud:=ZE func25 rfl Zzx (ZE func27 rfl Zzy Zd)
theorem Z6n {k:Int}(h:k=1∨k=2∨k=3):(!(ZeA (spL k) [] true).1)=true:=by rcases h with rfl | rfl | rfl<;>rfl
theorem Z0D (p:Int) (h:spK p≠0):spK p=1∨spK p=2∨spK p=3:=by
 unfold spK at h ⊢;split
 ·exact .inl rfl
 ·split
  ·exact .inr (.inl rfl)
  ·split
   ·exact .inr (.inr rfl)
   ·rename_i a b c;rw[if_neg a,if_neg b,if_neg c] at h;exact absurd rfl h
end Go.Proofs.YtgefjidphfdhdaaGreatDoor
namespace Go.Proofs.YtgefjidphfdhdaaGreatDoor
open Go.KRun Go.Nt Go.Rd Go.Pt
set_option maxRecDepth 100000
theorem Z0E {a b q:Nat}(ha:1≤a) (hb:1≤b) (h1:10^(a-1)≤q) (h2:q<10^a) (h3:10^(b-1)≤q) (h4:q<10^b):a=b:=by
 rcases Nat.lt_trichotomy a b with c | c | c
 ·have:=Nat.pow_le_pow_right (n:=10) (by omega) (show a≤b-1 by omega);omega
 ·exact c
 ·have:=Nat.pow_le_pow_right (n:=10) (by omega) (show b≤a-1 by omega);omega
theorem Zg2 {n q:Nat}(hn:1≤n) (h1:10^(n-1)≤q) (h2:q<10^n):Zac q=ZaU n q∧(Zac q).length=n:=by
 have hp:0<10^(n-1):=Nat.pow_pos (by omega);obtain⟨l1,l2,l3⟩:=ZaH (W:=q) (by omega);have e:=Z0E l1 hn l2 l3 h1 h2;refine⟨?_,e⟩;have d:=ZeD (W:=q) (by omega);rw[e] at d;exact d
def dcT (mn:Bool) (n q:Nat) (f:Int):List UInt8:=if n<(Zac q).length then txL mn ((Zac q).take n) (f+1) else txL mn (Zac q) f
theorem Z0F (mn:Bool) {n q:Nat}(hn:1≤n) (h1:10^(n-1)≤q) (h2:q<10^n) (f:Int):dcT mn n q f=txL mn (ZaU n q) f:=by
 obtain⟨a,b⟩:=Zg2 hn h1 h2;unfold dcT;rw[if_neg (by omega),a]
theorem Zue (mn:Bool) {n q:Nat}(hn:1≤n) (h1:10^(n-1)≤q) (h2:q<10^n) (f:Int):dcT mn n (q+1) f=hiX mn n q f:=by
 unfold hiX;by_cases h:q+1=10^n
 ·rw[if_pos h,h];have hp:10^(n+1)=10^n*10:=Nat.pow_succ ..;have hq:10^n=10^(n-1)*10:=by rw[← Nat.pow_succ];congr 1;omega
  have h0:0<10^(n-1):=Nat.pow_pos (by omega);obtain⟨a,b⟩:=Zg2 (n:=n+1) (q:=10^n) (by omega) (by rw[Nat.add_sub_cancel];exact Nat.le_refl _) (by omega);obtain⟨c,d⟩:=Zg2 (n:=n) (q:=10^(n-1)) hn (Nat.le_refl _) (by omega);unfold dcT;rw[if_pos (by omega),a];have e:ZaU (n+1) (10^n)=ZaU n (10^(n-1))++[chD (10^n % 10)]:=by
   rw[ZaU,if_neg (by omega),show 10^n/10=10^(n-1) by omega]
  rw[e,List.take_left' (by rw[← c];exact d)]
 ·rw[if_neg h];exact Z0F mn hn (by omega) (by omega) f
end Go.Proofs.YtgefjidphfdhdaaGreatDoor
namespace Go.KRun
open Go.RowKit
def Zg3:(Nat→Value)→List (Option Value)→List Value
 | _,[]=>[]
 | j,o::r=>o.getD (j 0)::Zg3 (fun i=>j (i+1)) r
def Z7z (f:Nat→Nat):List (Option Value)→List Value→Prop
 | [],[]=>True
 | some u::r,v::s=>rn f u=v∧Z7z f r s
 | none::r,_::s=>Z7z f r s
 | _,_=>False
theorem Zg4 {m:Mp}{f:Nat→Nat}{k:Nat}(hk:0<k):∀ (o:List (Option Value)) (t:List Value),Z7z f o t→(∀ v,some v∈o→lt k v=true)→∃ j,(Zg3 j o).map (mv fun i=>m (f i))=t.map (mv m)∧∀ v∈Zg3 j o,lt k v=true
 | [],[],_,_=>⟨fun _=>undef,rfl,fun v hv=>by cases hv⟩
 | [],_::_,h,_=>h.elim
 | some _::_,[],h,_=>h.elim
 | none::_,[],h,_=>h.elim
 | some u::r,v::s,h,hl=>by
  obtain⟨h1,h2⟩:=h;obtain⟨j,e1,e2⟩:=Zg4 (m:=m) hk r s h2 fun x hx=>hl x (Xd _ hx);refine⟨fun i=>match i with | 0=>undef | i+1=>j i,?_,?_⟩
  ·show mv (fun i=>m (f i)) u::(Zg3 j r).map (mv fun i=>m (f i))=mv m v::s.map (mv m);rw[e1,← h1,ZcF]
  ·intro x hx;rcases List.mem_cons.1 (show x∈u::Zg3 j r from hx) with rfl | hx
   ·exact hl x Xe
   ·exact e2 x hx
 | none::r,v::s,h,hl=>by
  obtain⟨j,e1,e2⟩:=Zg4 (m:=m) hk r s h fun x hx=>hl x (Xd _ hx);refine⟨fun i=>match i with | 0=> .iface za (mv m v) | i+1=>j i,?_,?_⟩
  ·show mv (fun i=>m (f i)) (.iface za (mv m v))::(Zg3 j r).map (mv fun i=>m (f i))=mv m v::s.map (mv m);rw[e1];simp [mv,mv2,mv1]
  ·intro x hx;rcases List.mem_cons.1 (show x∈Value.iface za (mv m v)::Zg3 j r from hx) with rfl | hx
   ·simp [lt,lt2,lt1,hk,za]
   ·exact e2 x hx
theorem Zuf {m:Mp}{B:Nat}{t t':List Value}{h h':Hp}{s:List Dec}{a:Act}{w:World}(R:Rel m B (t,h,s) a w) (f:Nat→Nat) (hl:h'.l.length=h'.n)
  (hb:∀ i x,h'.blk? i=some x→(x.1.all (lt1 h'.n))=true∧h.blk? (f i)=some (x.1.map (rn1 f),x.2))
  (hi:∀ i j x y,h'.blk? i=some x→h'.blk? j=some y→f i=f j→i=j)
  (ht:t'.map (mv fun i=>m (f i))=t.map (mv m)) (hw:∀ v∈t',lt h'.n v=true):Rel (fun i=>m (f i)) B (t',h',s) a w:=by
 have E:=R.emb;have em:∀ l:List Value,(l.map (rn1 f)).map (mv1 m)=l.map (mv1 fun i=>m (f i)):=fun l=>by
  rw[List.map_map];exact List.map_congr_left fun v _=>Zmb m f v
 refine⟨by rw[R.tmps];simp only;rw[ht],R.dfr,⟨hl,?_,?_,?_,?_,?_,E.base,E.ice,?_⟩,hw⟩
 ·intro b x hx ht;have:=E.lies (f b) _ (hb b x hx).2 ht;rw[em] at this;exact this
 ·intro b x hx hr;exact E.low (f b) _ (hb b x hx).2 hr
 ·intro b x hx ht hr;exact E.ros (f b) _ (hb b x hx).2 ht hr
 ·intro b b' x x' hx hx' hr hr' he;exact hi b b' x x' hx hx' (E.inj _ _ _ _ (hb b x hx).2 (hb b' x' hx').2 hr hr' he)
 ·intro b x hx v hv;exact List.all_eq_true.1 (hb b x hx).1 v hv
 ·intro b x hx ha;have:=E.abs (f b) _ (hb b x hx).2 ha;rw[em] at this;exact this
theorem Zg5 {bs:List Nat}{cells:List (List Value×TypeId)}(hl:cells.length=bs.length) {i:Nat}{x:List Value×TypeId}(h:(⟨bs.length,cells.reverse⟩:Hp).blk? i=some x):i<bs.length∧(bs.getD i 0,x)∈bs.zip cells:=by
 have hi:i<bs.length:=Hp.blk_lt h;refine⟨hi,?_⟩;unfold Hp.blk? at h;rw[if_pos (Zl.2 hi)] at h;have h':cells.reverse[bs.length-1-i]? =some x:=h;rw[List.getElem?_reverse (by omega),show cells.length-1-(bs.length-1-i)=i by omega] at h';refine List.mem_of_getElem? (i:=i) ?_;rw[List.getElem?_zip_eq_some];exact⟨by rw[List.getD_eq_getElem?_getD,List.getElem?_eq_getElem hi];rfl,h'⟩
theorem RunsW.preP {T:Tab}{c:Code}{P:Ex→Lf→Prop}{front:List Value}(o:List (Option Value)) {n:Nat}{h:Hp}(bs:List Nat) (cells:List (List Value×TypeId)) {s s':List Dec}{g:Nat→Value}(hr:∀ j g,RunsW T c (Zg3 j o++tl n g,⟨bs.length,cells.reverse⟩,s') P)
  (hl:cells.length=bs.length) (h0:0<bs.length) (hf:Z7z (fun i=>bs.getD i 0) o front) (hx:∀ q∈bs.zip cells,(q.2.1.all (lt1 bs.length))=true∧h.blk? q.1=some (q.2.1.map (rn1 fun i=>bs.getD i 0),q.2.2)) (hd:bs.Nodup) (hw:(o.all fun x=>x.all (lt bs.length))=true):
  RunsW T c (front++tl n g,h,s) P:=by
 intro m B a w R Q hQ;obtain⟨j,j1,j2⟩:=Zg4 (m:=m) h0 o front hf fun v hv=>List.all_eq_true.1 hw _ hv;obtain⟨g',hg⟩:=ZgO (J:=(tl n g).map (fun v=>Value.iface za (mv m v))) (n:=n) (by simp [Zfl]);have R2:Rel (fun i=>m (bs.getD i 0)) B (Zg3 j o++tl n g',⟨bs.length,cells.reverse⟩,s) a w:=by
  refine Zuf R (fun i=>bs.getD i 0) (by simp [hl]) (fun i x hi=> ?_) (fun i k x y hi hk hik=> ?_) ?_ ?_
  ·obtain⟨_,q⟩:=Zg5 hl hi;exact hx _ q
  ·obtain⟨q1,_⟩:=Zg5 hl hi;obtain⟨q2,_⟩:=Zg5 hl hk;have e1:bs.getD i 0=bs[i]:=by rw[List.getD_eq_getElem?_getD,List.getElem?_eq_getElem q1];rfl
   have e2:bs.getD k 0=bs[k]:=by rw[List.getD_eq_getElem?_getD,List.getElem?_eq_getElem q2];rfl
   rw[e1,e2] at hik;have hp:=List.pairwise_iff_getElem.1 hd;rcases Nat.lt_trichotomy i k with c | c | c
   ·exact absurd hik (hp i k q1 q2 c)
   ·exact c
   ·exact absurd hik.symm (hp k i q2 q1 c)
  ·rw[List.map_append,List.map_append,j1,← hg,List.map_map];congr 1
  ·intro v hv;rcases List.mem_append.1 hv with hv | hv
   ·exact j2 v hv
   ·rw[← hg] at hv;obtain⟨u,_,rfl⟩:=List.mem_map.1 hv;simp [lt,lt2,lt1,h0,za]
 exact hr j g' _ B a w ⟨R2.tmps,R2.dfr,R2.emb,R2.wf⟩ Q hQ
theorem Zks (f:Nat→Nat):rn f undef=undef:=by kernel_rfl
end Go.KRun
namespace Go.Proofs.YtgefjidphfdhdaaGreatDoor
open Go.Proofs.Tryz
open Go.KRun Go.Nt Go.Wd Go.Rn Go.Pt
set_option maxRecDepth 100000
set_option linter.unusedVariables false
def Z70:Hc:=zd 34 Zzp hcN
theorem Z0G:HcOk Z70:=Zt func34 rfl ZeF zx
def Zug:Con:=alt 47 (gU vT) Zn
theorem Zuh:ConOk Zug:=ZE func47 rfl Zvw Zd
theorem Z0H:f28.body=some (Zs f28):=by kernel_rfl
theorem ZBi (p:Int):Zg (evC (Zk prog Zf Zug Z70) 200 false (Zs f28) ([.int .u64 p]++List.replicate 13 undef,⟨0,[]⟩,[]) ⟨[],[],[]⟩) 3 11 (some none) [.int .u64 p,undef,.pointer (some ⟨0,0,none⟩)] ⟨3,[(wU (d16 (sg p).toNat),tU),([.bool (sgn p),.int .i64 (cl p),.int .i64 (xp p),.int .u64 (sg p)],77),bOf (sgn p) (xp p) (sOf 2 (sg p).toNat)]⟩ [(decide (0≤sg p∧sg p<18446744073709551616),true),(decide (U p),true)]:=by and_intros<;>kernel_rfl
def gPt:Zaf:=fun vals h s=>
 match vals with
 | [.int .u64 p]=>some (vRN (sgn p) (xp p) (sOf h.n (sg p).toNat),h.push (wU (d16 (sg p).toNat)) tU,s,[(decide (U p),true)])
 | _=>none
theorem Z6o:Z8 28 gPt:=by
 intro vals h s v h' s' lg hg hl m B w E hv;unfold gPt at hg;split at hg
 ·rename_i p;cases hg;have q:=hl _ Xf;have hs:=sg_lt p;have hr:RunsW (Zk prog Zf Zug Z70) (Zs f28) ([.int .u64 p]++List.replicate 13 undef,⟨0,[]⟩,[]) fun e z=>(e=none∨e=some none)∧∃ k,ZY prog f28 z.1 z.2.1=some (vRN (sgn p) (xp p) (sOf k (sg p).toNat))∧∃ r,z.2.1.blk? k=some (wU (d16 (sg p).toNat)++r,tU):=by
   refine (Zb (Zh Zuh Z0G) (ZBi p) (Za (Xa ⟨hs.1,by omega⟩) (Z4 q))).mono fun e z he=> ?_;obtain⟨rfl,⟨g,e1⟩,e2⟩:=he;exact⟨.inr rfl,2,by rw[e1,e2];rfl,[],by rw[e2,List.append_nil];rfl⟩
  have:=Zci (T:=Zk prog Zf Zug Z70) func28 Z0H (h0:=⟨0,[]⟩) ⟨rfl,fun b x hx=>by have:b<0:=Hp.blk_lt hx;omega⟩ (vals:=[.int .u64 p]) (fun v hv=>by rw[List.mem_singleton.1 hv];rfl) (v:=fun k=>vRN (sgn p) (xp p) (sOf k (sg p).toNat)) (Zbf _) (by kernel_rfl) hr (fun k=>by simp [oc,oc2,oc1,sOf,sl,vRN]) E (s:=fun i=>i) (fun i x hx _=>by have:i<0:=Hp.blk_lt hx;omega) (fun k=>by simp [rn,rn2,rn1,sOf,sl,vRN]);exact this
 ·cases hg
end Go.Proofs.YtgefjidphfdhdaaGreatDoor
namespace Go.Proofs.YtgefjidphfdhdaaGreatDoor
open Go.KRun Go.Nt Go.Pt Go.Rn
set_option maxRecDepth 100000
def ZBj:Zaf:=fun vals h s=>
 match vals,s with
 | [.int .u64 p],.inr (.inr (.inr (.inl d)))::s'=>some (vRN d (xp p) (sOf h.n (sg p).toNat),h.push (wU (d16 (sg p).toNat)) tU,s',[(sgn p,d),(decide (U p),true)])
 | _,_=>none
theorem Z0I:Z8 28 ZBj:=by
 intro vals h s v h' s' lg hg hl;unfold ZBj at hg;split at hg
 ·rename_i p d s2;cases hg;obtain⟨l1,l2⟩:=Zd2 hl;have l1:sgn p=d:=l1;refine Z6o _ h [] _ _ [] _ ?_ l2;simp only[gPt,l1]
 ·cases hg
end Go.Proofs.YtgefjidphfdhdaaGreatDoor
namespace Go.Proofs.YtgefjidphfdhdaaGreatDoor
open Go.Proofs.Tryz
open Go.KRun Go.Nt Go.Wd Go.Rn Go.Rd Go.Pt
set_option maxRecDepth 100000
set_option linter.unusedVariables false
def ZbC:Hc:=zd 28 ZBj (zd 29 ZBa (zd 32 Z7v Zeb))
theorem Z0J:HcOk ZbC:=Zt func28 rfl Z0I (Zt func29 rfl Z01 (Zt func32 rfl ZpF Zqb))
def xH (neg:Bool) (E:Int) (S:Nat):Hp:=⟨2,[bOf neg E (sOf 0 S),w16 S]⟩
def xM (neg:Bool) (E:Int) (S:Nat) (L:List Nat):Hp:=⟨3+L.length,(L.map w16).reverse++[bOf neg E (sOf 0 S),bOf neg E (sOf 0 S),w16 S]⟩
theorem RowV.pa {h:Hp}{p q:Option Addr}{n c n' c' V W:Nat}(r:RowV h p n c V) (r':RowV h q n' c' W) (hV:0<V) (hW:0<W):Zkp h p q n c n' c'=true:=by
 unfold Zkp;have:=r.2.2;have:=r'.2.2;have:=r.pos hV;have:=r'.pos hW;rw[r.1,r.dg,r'.1,r'.can,Zl.2 (by omega),Zl.2 (by omega),Zl.2 (by omega),Zl.2 (by omega)];rfl
def ZBB (b:Bool) (E k ke kp:Int) (S A B V Q R:Nat):Log:=[(decide (vO (xM b E S [1,A,B,V]) (Z6 6) (d16 V).length/vO (xM b E S [1,A,B,V]) (Z6 3) (d16 1).length=Q∧vO (xM b E S [1,A,B,V]) (Z6 6) (d16 V).length % vO (xM b E S [1,A,B,V]) (Z6 3) (d16 1).length=R),true),(Zkp (xM b E S [1,A,B,V]) (Z6 6) (Z6 3) (d16 V).length (d16 V).length (d16 1).length (d16 1).length,true),(decide (vO (xM b E S [1,A,B]) (Z6 4) (d16 A).length*vO (xM b E S [1,A,B]) (Z6 5) (d16 B).length=V),true),(ZeM (xM b E S [1,A,B]) (Z6 4) (Z6 5) (d16 A).length (d16 A).length (d16 B).length (d16 B).length,true),(decide ((10:Int).toNat^kp.toNat=B),true),(Zg9 10 kp,true),(decide ((10:Int)=0∧2≤kp),false),(decide (k≥0),true),(decide (vO (xM b E S [1]) (Z6 0) (d16 S).length*2^ke.toNat=A),true),(Zea (xM b E S [1]) (Z6 0) (d16 S).length (d16 S).length ke,true),(decide (0<(d16 S).length),true),(decide (E≥0),true),(true,true)]
theorem Z6p {b:Bool}{E k:Int}{S A B V Q R:Nat}(hA:A=S*2^E.toNat) (hB:B=10^k.toNat) (hV:V=A*B) (hQ:Q=V/1) (hR:R=V % 1) (h0:S≠0) (hS:S<2^53) (hE1: -1074≤E∧E≤972) (hk1: -1500≤k∧k≤1500) (hE:0≤E) (hk:0≤k):Zx (ZBB b E k E k S A B V Q R)∧V=paN S E k∧1=pbN E k:=by
 have ea:V=paN S E k:=by
  unfold paN;rw[hV,hA,hB]
 have eb:1=pbN E k:=by
  unfold pbN;rw[show (-E).toNat=0 by omega,show (-k).toNat=0 by omega]
 obtain⟨J,hJ⟩:∃ J,J=1100:=⟨_,rfl⟩;obtain⟨K,hK⟩:∃ K,K=6001:=⟨_,rfl⟩;have tA:A<2^(53+J):=by
  rw[hA];exact zl hS (Nat.pow_lt_pow_right (by omega) (by omega))
 have tB:B<2^K:=by
  rw[hB];exact Nat.lt_of_lt_of_le (Zbi _) (Nat.pow_le_pow_right (by omega) (by omega))
 have tV:V<2^(53+J+K):=by
  rw[hV];exact zl tA tB
 have lS:(d16 S).length<100000:=zn hS (by omega);have l1:(d16 1).length<100000:=zn (i:=1) (by decide) (by omega);have lA:=zn tA (by omega);have lB:=zn tB (by omega);have lV:=zn tV (by omega);exact⟨(Za (by rw[(RowV.at (h:=(xM b E S [1,A,B,V])) (b:=6) (V:=V) rfl lV).vo,(RowV.at (h:=(xM b E S [1,A,B,V])) (b:=3) (V:=1) rfl l1).vo];exact Xa ⟨hQ.symm,hR.symm⟩) (Za (RowV.pa (RowV.at (h:=(xM b E S [1,A,B,V])) (b:=6) (V:=V) rfl lV) (RowV.at (h:=(xM b E S [1,A,B,V])) (b:=3) (V:=1) rfl l1) (by rw[ea];exact Zgi h0 E k) (by rw[eb];exact zJ E k)) (Za (by rw[(RowV.at (h:=(xM b E S [1,A,B])) (b:=4) (V:=A) rfl lA).vo,(RowV.at (h:=(xM b E S [1,A,B])) (b:=5) (V:=B) rfl lB).vo];exact Xa hV.symm) (Za (RowV.mu (RowV.at (h:=(xM b E S [1,A,B])) (b:=4) (V:=A) rfl lA) (RowV.at (h:=(xM b E S [1,A,B])) (b:=5) (V:=B) rfl lB)) (Za (Xa hB.symm) (Za (Xa ⟨by omega,by omega,by omega,by omega⟩) (Za (Xb (by omega)) (Za (Xa (by omega)) (Za (by rw[(RowV.at (h:=(xM b E S [1])) (b:=0) (V:=S) rfl lS).vo];exact Xa hA.symm) (Za (RowV.sh (RowV.at (h:=(xM b E S [1])) (b:=0) (V:=S) rfl lS) (by omega) (by omega)) (Za (Xa (RowV.pos (RowV.at (h:=(xM b E S [1])) (b:=0) (V:=S) rfl lS) (by omega))) (Za (Xa (by omega)) (Z4 rfl))))))))))))),ea,eb⟩
def ZBC (b:Bool) (E k ke kp:Int) (S A B V Q R:Nat):Log:=[(decide (vO (xM b E S [1,A,B,V]) (Z6 4) (d16 A).length/vO (xM b E S [1,A,B,V]) (Z6 6) (d16 V).length=Q∧vO (xM b E S [1,A,B,V]) (Z6 4) (d16 A).length % vO (xM b E S [1,A,B,V]) (Z6 6) (d16 V).length=R),true),(Zkp (xM b E S [1,A,B,V]) (Z6 4) (Z6 6) (d16 A).length (d16 A).length (d16 V).length (d16 V).length,true),(decide (vO (xM b E S [1,A,B]) (Z6 3) (d16 1).length*vO (xM b E S [1,A,B]) (Z6 5) (d16 B).length=V),true),(ZeM (xM b E S [1,A,B]) (Z6 3) (Z6 5) (d16 1).length (d16 1).length (d16 B).length (d16 B).length,true),(decide ((10:Int).toNat^kp.toNat=B),true),(Zg9 10 kp,true),(decide ((10:Int)=0∧2≤kp),false),(decide (k≥0),false),(decide (vO (xM b E S [1]) (Z6 0) (d16 S).length*2^ke.toNat=A),true),(Zea (xM b E S [1]) (Z6 0) (d16 S).length (d16 S).length ke,true),(decide (0<(d16 S).length),true),(decide (E≥0),true),(true,true)]
theorem Z6q {b:Bool}{E k:Int}{S A B V Q R:Nat}(hA:A=S*2^E.toNat) (hB:B=10^(-k).toNat) (hV:V=1*B) (hQ:Q=A/V) (hR:R=A % V) (h0:S≠0) (hS:S<2^53) (hE1: -1074≤E∧E≤972) (hk1: -1500≤k∧k≤1500) (hE:0≤E) (hk:k<0):Zx (ZBC b E k E (-k) S A B V Q R)∧A=paN S E k∧V=pbN E k:=by
 have ea:A=paN S E k:=by
  unfold paN;rw[show k.toNat=0 by omega,hA,Nat.pow_zero,Nat.mul_one]
 have eb:V=pbN E k:=by
  unfold pbN;rw[show (-E).toNat=0 by omega,hV,hB]
 obtain⟨J,hJ⟩:∃ J,J=1100:=⟨_,rfl⟩;obtain⟨K,hK⟩:∃ K,K=6001:=⟨_,rfl⟩;have tA:A<2^(53+J):=by
  rw[hA];exact zl hS (Nat.pow_lt_pow_right (by omega) (by omega))
 have tB:B<2^K:=by
  rw[hB];exact Nat.lt_of_lt_of_le (Zbi _) (Nat.pow_le_pow_right (by omega) (by omega))
 have tV:V<2^(53+J+K):=by
  rw[hV];exact zl (Nat.lt_of_lt_of_le (show 1<2^1 by decide) (Nat.pow_le_pow_right (by omega) (by omega))) tB
 have lS:(d16 S).length<100000:=zn hS (by omega);have l1:(d16 1).length<100000:=zn (i:=1) (by decide) (by omega);have lA:=zn tA (by omega);have lB:=zn tB (by omega);have lV:=zn tV (by omega);exact⟨(Za (by rw[(RowV.at (h:=(xM b E S [1,A,B,V])) (b:=4) (V:=A) rfl lA).vo,(RowV.at (h:=(xM b E S [1,A,B,V])) (b:=6) (V:=V) rfl lV).vo];exact Xa ⟨hQ.symm,hR.symm⟩) (Za (RowV.pa (RowV.at (h:=(xM b E S [1,A,B,V])) (b:=4) (V:=A) rfl lA) (RowV.at (h:=(xM b E S [1,A,B,V])) (b:=6) (V:=V) rfl lV) (by rw[ea];exact Zgi h0 E k) (by rw[eb];exact zJ E k)) (Za (by rw[(RowV.at (h:=(xM b E S [1,A,B])) (b:=3) (V:=1) rfl l1).vo,(RowV.at (h:=(xM b E S [1,A,B])) (b:=5) (V:=B) rfl lB).vo];exact Xa hV.symm) (Za (RowV.mu (RowV.at (h:=(xM b E S [1,A,B])) (b:=3) (V:=1) rfl l1) (RowV.at (h:=(xM b E S [1,A,B])) (b:=5) (V:=B) rfl lB)) (Za (Xa hB.symm) (Za (Xa ⟨by omega,by omega,by omega,by omega⟩) (Za (Xb (by omega)) (Za (Xb (by omega)) (Za (by rw[(RowV.at (h:=(xM b E S [1])) (b:=0) (V:=S) rfl lS).vo];exact Xa hA.symm) (Za (RowV.sh (RowV.at (h:=(xM b E S [1])) (b:=0) (V:=S) rfl lS) (by omega) (by omega)) (Za (Xa (RowV.pos (RowV.at (h:=(xM b E S [1])) (b:=0) (V:=S) rfl lS) (by omega))) (Za (Xa (by omega)) (Z4 rfl))))))))))))),ea,eb⟩
def ZBD (b:Bool) (E k ke kp:Int) (S A B V Q R:Nat):Log:=[(decide (vO (xM b E S [1,A,B,V]) (Z6 6) (d16 V).length/vO (xM b E S [1,A,B,V]) (Z6 4) (d16 A).length=Q∧vO (xM b E S [1,A,B,V]) (Z6 6) (d16 V).length % vO (xM b E S [1,A,B,V]) (Z6 4) (d16 A).length=R),true),(Zkp (xM b E S [1,A,B,V]) (Z6 6) (Z6 4) (d16 V).length (d16 V).length (d16 A).length (d16 A).length,true),(decide (vO (xM b E S [1,A,B]) (Z6 0) (d16 S).length*vO (xM b E S [1,A,B]) (Z6 5) (d16 B).length=V),true),(ZeM (xM b E S [1,A,B]) (Z6 0) (Z6 5) (d16 S).length (d16 S).length (d16 B).length (d16 B).length,true),(decide ((10:Int).toNat^kp.toNat=B),true),(Zg9 10 kp,true),(decide ((10:Int)=0∧2≤kp),false),(decide (k≥0),true),(decide (vO (xM b E S [1]) (Z6 3) (d16 1).length*2^ke.toNat=A),true),(Zea (xM b E S [1]) (Z6 3) (d16 1).length (d16 1).length ke,true),(decide (0<(d16 1).length),true),(decide (E≥0),false),(true,true)]
theorem Z6r {b:Bool}{E k:Int}{S A B V Q R:Nat}(hA:A=1*2^(-E).toNat) (hB:B=10^k.toNat) (hV:V=S*B) (hQ:Q=V/A) (hR:R=V % A) (h0:S≠0) (hS:S<2^53) (hE1: -1074≤E∧E≤972) (hk1: -1500≤k∧k≤1500) (hE:E<0) (hk:0≤k):Zx (ZBD b E k (-E) k S A B V Q R)∧V=paN S E k∧A=pbN E k:=by
 have ea:V=paN S E k:=by
  unfold paN;rw[show E.toNat=0 by omega,hV,hB,Nat.pow_zero,Nat.mul_one]
 have eb:A=pbN E k:=by
  unfold pbN;rw[show (-k).toNat=0 by omega,hA,Nat.pow_zero,Nat.mul_one,Nat.one_mul]
 obtain⟨J,hJ⟩:∃ J,J=1100:=⟨_,rfl⟩;obtain⟨K,hK⟩:∃ K,K=6001:=⟨_,rfl⟩;have tA:A<2^(53+J):=by
  rw[hA];exact zl (show 1<2^53 by decide) (Nat.pow_lt_pow_right (by omega) (by omega))
 have tB:B<2^K:=by
  rw[hB];exact Nat.lt_of_lt_of_le (Zbi _) (Nat.pow_le_pow_right (by omega) (by omega))
 have tV:V<2^(53+J+K):=by
  rw[hV];exact zl (Nat.lt_of_lt_of_le hS (Nat.pow_le_pow_right (by omega) (by omega))) tB
 have lS:(d16 S).length<100000:=zn hS (by omega);have l1:(d16 1).length<100000:=zn (i:=1) (by decide) (by omega);have lA:=zn tA (by omega);have lB:=zn tB (by omega);have lV:=zn tV (by omega);exact⟨(Za (by rw[(RowV.at (h:=(xM b E S [1,A,B,V])) (b:=6) (V:=V) rfl lV).vo,(RowV.at (h:=(xM b E S [1,A,B,V])) (b:=4) (V:=A) rfl lA).vo];exact Xa ⟨hQ.symm,hR.symm⟩) (Za (RowV.pa (RowV.at (h:=(xM b E S [1,A,B,V])) (b:=6) (V:=V) rfl lV) (RowV.at (h:=(xM b E S [1,A,B,V])) (b:=4) (V:=A) rfl lA) (by rw[ea];exact Zgi h0 E k) (by rw[eb];exact zJ E k)) (Za (by rw[(RowV.at (h:=(xM b E S [1,A,B])) (b:=0) (V:=S) rfl lS).vo,(RowV.at (h:=(xM b E S [1,A,B])) (b:=5) (V:=B) rfl lB).vo];exact Xa hV.symm) (Za (RowV.mu (RowV.at (h:=(xM b E S [1,A,B])) (b:=0) (V:=S) rfl lS) (RowV.at (h:=(xM b E S [1,A,B])) (b:=5) (V:=B) rfl lB)) (Za (Xa hB.symm) (Za (Xa ⟨by omega,by omega,by omega,by omega⟩) (Za (Xb (by omega)) (Za (Xa (by omega)) (Za (by rw[(RowV.at (h:=(xM b E S [1])) (b:=3) (V:=1) rfl l1).vo];exact Xa hA.symm) (Za (RowV.sh (RowV.at (h:=(xM b E S [1])) (b:=3) (V:=1) rfl l1) (by omega) (by omega)) (Za (Xa (RowV.pos (RowV.at (h:=(xM b E S [1])) (b:=3) (V:=1) rfl l1) (by omega))) (Za (Xb (by omega)) (Z4 rfl))))))))))))),ea,eb⟩
def ZBE (b:Bool) (E k ke kp:Int) (S A B V Q R:Nat):Log:=[(decide (vO (xM b E S [1,A,B,V]) (Z6 0) (d16 S).length/vO (xM b E S [1,A,B,V]) (Z6 6) (d16 V).length=Q∧vO (xM b E S [1,A,B,V]) (Z6 0) (d16 S).length % vO (xM b E S [1,A,B,V]) (Z6 6) (d16 V).length=R),true),(Zkp (xM b E S [1,A,B,V]) (Z6 0) (Z6 6) (d16 S).length (d16 S).length (d16 V).length (d16 V).length,true),(decide (vO (xM b E S [1,A,B]) (Z6 4) (d16 A).length*vO (xM b E S [1,A,B]) (Z6 5) (d16 B).length=V),true),(ZeM (xM b E S [1,A,B]) (Z6 4) (Z6 5) (d16 A).length (d16 A).length (d16 B).length (d16 B).length,true),(decide ((10:Int).toNat^kp.toNat=B),true),(Zg9 10 kp,true),(decide ((10:Int)=0∧2≤kp),false),(decide (k≥0),false),(decide (vO (xM b E S [1]) (Z6 3) (d16 1).length*2^ke.toNat=A),true),(Zea (xM b E S [1]) (Z6 3) (d16 1).length (d16 1).length ke,true),(decide (0<(d16 1).length),true),(decide (E≥0),false),(true,true)]
theorem Z6s {b:Bool}{E k:Int}{S A B V Q R:Nat}(hA:A=1*2^(-E).toNat) (hB:B=10^(-k).toNat) (hV:V=A*B) (hQ:Q=S/V) (hR:R=S % V) (h0:S≠0) (hS:S<2^53) (hE1: -1074≤E∧E≤972) (hk1: -1500≤k∧k≤1500) (hE:E<0) (hk:k<0):Zx (ZBE b E k (-E) (-k) S A B V Q R)∧S=paN S E k∧V=pbN E k:=by
 have ea:S=paN S E k:=by
  unfold paN;rw[show E.toNat=0 by omega,show k.toNat=0 by omega,Nat.mul_one,Nat.mul_one]
 have eb:V=pbN E k:=by
  unfold pbN;rw[hV,hA,hB,Nat.one_mul]
 obtain⟨J,hJ⟩:∃ J,J=1100:=⟨_,rfl⟩;obtain⟨K,hK⟩:∃ K,K=6001:=⟨_,rfl⟩;have tA:A<2^(53+J):=by
  rw[hA];exact zl (show 1<2^53 by decide) (Nat.pow_lt_pow_right (by omega) (by omega))
 have tB:B<2^K:=by
  rw[hB];exact Nat.lt_of_lt_of_le (Zbi _) (Nat.pow_le_pow_right (by omega) (by omega))
 have tV:V<2^(53+J+K):=by
  rw[hV];exact zl tA tB
 have lS:(d16 S).length<100000:=zn hS (by omega);have l1:(d16 1).length<100000:=zn (i:=1) (by decide) (by omega);have lA:=zn tA (by omega);have lB:=zn tB (by omega);have lV:=zn tV (by omega);exact⟨(Za (by rw[(RowV.at (h:=(xM b E S [1,A,B,V])) (b:=0) (V:=S) rfl lS).vo,(RowV.at (h:=(xM b E S [1,A,B,V])) (b:=6) (V:=V) rfl lV).vo];exact Xa ⟨hQ.symm,hR.symm⟩) (Za (RowV.pa (RowV.at (h:=(xM b E S [1,A,B,V])) (b:=0) (V:=S) rfl lS) (RowV.at (h:=(xM b E S [1,A,B,V])) (b:=6) (V:=V) rfl lV) (by rw[ea];exact Zgi h0 E k) (by rw[eb];exact zJ E k)) (Za (by rw[(RowV.at (h:=(xM b E S [1,A,B])) (b:=4) (V:=A) rfl lA).vo,(RowV.at (h:=(xM b E S [1,A,B])) (b:=5) (V:=B) rfl lB).vo];exact Xa hV.symm) (Za (RowV.mu (RowV.at (h:=(xM b E S [1,A,B])) (b:=4) (V:=A) rfl lA) (RowV.at (h:=(xM b E S [1,A,B])) (b:=5) (V:=B) rfl lB)) (Za (Xa hB.symm) (Za (Xa ⟨by omega,by omega,by omega,by omega⟩) (Za (Xb (by omega)) (Za (Xb (by omega)) (Za (by rw[(RowV.at (h:=(xM b E S [1])) (b:=3) (V:=1) rfl l1).vo];exact Xa hA.symm) (Za (RowV.sh (RowV.at (h:=(xM b E S [1])) (b:=3) (V:=1) rfl l1) (by omega) (by omega)) (Za (Xa (RowV.pos (RowV.at (h:=(xM b E S [1])) (b:=3) (V:=1) rfl l1) (by omega))) (Za (Xb (by omega)) (Z4 rfl))))))))))))),ea,eb⟩
end Go.Proofs.YtgefjidphfdhdaaGreatDoor
namespace Go.Proofs.YtgefjidphfdhdaaGreatDoor
open Go.IntKind
open Go.KRun Go.Nt Go.Wd Go.Rn Go.Rd Go.Pt
set_option maxRecDepth 100000
set_option linter.unusedVariables false
def lC1 (H H':Hp) (iB iR i2 B R:Nat) (K:Int) (l:Log):Log:=(decide (Zag (vO H' (Z6 i2) (d16 (2*R)).length) (vO H' (Z6 iB) (d16 B).length)=K),true)::(ZN H' (Z6 i2) (Z6 iB) (d16 (2*R)).length (d16 (2*R)).length (d16 B).length (d16 B).length,true)::(decide (vO H (Z6 iR) (d16 R).length*2^(1:Int).toNat=2*R),true)::(Zea H (Z6 iR) (d16 R).length (d16 R).length 1,true)::(decide (0<(d16 R).length),true)::l
def lC0 (H:Hp) (iB iR B R:Nat) (K:Int) (l:Log):Log:=(decide (Zag (vO H none 0) (vO H (Z6 iB) (d16 B).length)=K),true)::(ZN H none (Z6 iB) 0 0 (d16 B).length (d16 B).length,true)::(zC H (Z6 iR) (d16 R).length (d16 R).length,true)::(decide (0<(d16 R).length),false)::l
theorem ZCR {H H':Hp}{iB iR i2 B R:Nat}{l:Log}(h1:H.blk? iR=some (w16 R)) (h2:H'.blk? i2=some (w16 (2*R))) (h3:H'.blk? iB=some (w16 B)) (lB:(d16 B).length<100000) (lR:(d16 R).length<100000) (l2:(d16 (2*R)).length<100000) (h0:0<R) (hl:Zx l):Zx (lC1 H H' iB iR i2 B R (Zag (2*R) B) l):=by
 have r2:=RowV.at h2 l2;have rB:=RowV.at h3 lB;have rR:=RowV.at h1 lR;exact Za (by rw[r2.vo,rB.vo];exact Xa rfl) (Za (RowV.two r2 rB) (Za (by rw[rR.vo];exact Xa (by rw[Nat.mul_comm];rfl)) (Za (RowV.sh rR (by omega) (by omega)) (Za (Xa (ZeG.2 h0)) hl))))
theorem Z6t (H:Hp):RowV H none 0 0 0:=⟨rfl,by rw[ZkY];rfl,by omega⟩
theorem ZCS {H:Hp}{iB iR B:Nat}{l:Log}(h1:H.blk? iR=some (w16 0)) (h3:H.blk? iB=some (w16 B)) (lB:(d16 B).length<100000) (hl:Zx l):Zx (lC0 H iB iR B 0 (Zag 0 B) l):=by
 have rB:=RowV.at h3 lB;exact Za (by rw[(Z6t H).vo,rB.vo];exact Xa rfl) (Za (RowV.two (Z6t H) rB) (Za (RowV.at h1 (by rw[ZkY];decide)).1 (Za (by rw[ZkY];rfl) hl)))
theorem Z6u {Q:Nat}(h:Q≠0):Z5 ((wU (d16 Q))[0]?) (.int .u32 ((Q % 65536:Nat):Int))=true:=by
 unfold d16;rw[Zbb (by omega) h];simp [wU,Z5]
theorem ZCT (f:Nat→Nat) (V:Nat):(w16 V).1.map (rn1 f)=(w16 V).1:=by
 unfold w16 wU;rw[List.map_map];rfl
theorem ZeK {h:Hp}{b k V:Nat}{f:Nat→Nat}(hb:h.blk? b=some (w16 V)):((w16 V).1.all (lt1 k))=true∧h.blk? b=some ((w16 V).1.map (rn1 f),(w16 V).2):=by
 refine⟨List.all_eq_true.2 fun v hv=>zo (Nat.zero_le _) (Zbf _ v hv),?_⟩;rw[ZCT];exact hb
theorem fa1 {α:Type}{P:α→Prop}{a:α}(h:P a):∀ q∈[a],P q:=fun q hq=>by rw[List.mem_singleton.1 hq];exact h
theorem fa3 {α:Type}{P:α→Prop}{a b c:α}(h:P a) (h':P b) (h2:P c):∀ q∈[a,b,c],P q:=fun q hq=>by
 rcases List.mem_cons.1 hq with rfl | hq
 ·exact h
 ·rcases List.mem_cons.1 hq with rfl | hq
  ·exact h'
  ·exact fa1 h2 q hq
def s16 (b V:Nat):Value:= .slice (Z6 b) (d16 V).length (d16 V).length
def dgK (n f:Int):Int:=i64.wrap (i64.wrap (n-1)-f)
end Go.Proofs.YtgefjidphfdhdaaGreatDoor
namespace Go.Proofs.YtgefjidphfdhdaaGreatDoor
open Go.Proofs.Tryz
open Go.KRun Go.Nt Go.Rd Go.Rn
set_option maxRecDepth 100000
theorem Zqo {n:Bool}{b:Int}{D:List UInt8}{k P:Int}{Q:Ex→Lf→Prop}(h:∀ g s,RunsW (Zk prog Zf ZL ZeT) (sK f57 3) (dnF n b D k P (trZ D)++tl 104 g,dnM n b D k P,s) Q):RunsW (Zk prog Zf ZL ZeT) (ZZ (Z5R f57) (.seq (.block 0 (.loop (dnL f57))) (sK f57 3))) ([tX n b D k P]++List.replicate 107 undef,⟨0,[]⟩,[]) Q:=by
 refine Zu ZeH (Z5S n b D k P) Zcb fun g=> ?_;refine RunsW.seq (P1:=fun e y=>match e with | none=>dnS n b D k P (trZ D) y | some none=>False | some (some _)=>False) (RunsW.forLoop (R:=fun _=>False) (P:=dnS n b D k P (trZ D)) (fun r y=>∃ l,r=l.length∧dnS n b D k P l y) ZtR (n:=D.length) ⟨D,rfl,rfl,g,rfl,rfl⟩) ?_ (fun e y he=>by match e,he with | none,he=>exact he.elim | some _,he=>exact he.elim);rintro⟨t,hh,sc⟩ ⟨_,g',e1,e2⟩;simp only at e1 e2;subst e1 e2;exact h g' sc
def gDn:Zaf:=fun vals h s=>
 match vals,s with
 | [.agg cs],.inr (.inr (.inr (.inl true)))::s'=>
  match cs.toList with
  | [.bool n,.int .i64 b,.string ⟨⟨D⟩⟩,.int .i64 k,.int .i64 P]=>some (vRN n 0 Zo,h,s',[(decide (trZ D=[]),true),(Z0p b D k P,true)])
  | _=>none
 | [.agg cs],.inr (.inr (.inr (.inl false))):: .inr (.inl V):: .inr (.inl E)::s'=>
  match cs.toList with
  | [.bool n,.int .i64 b,.string ⟨⟨D⟩⟩,.int .i64 k,.int .i64 P]=>some (vRN n E (sOf h.n V.toNat),h.push (wU (d16 V.toNat)) tU,s',[(decide (dnA b (trZ D) k P=(V.toNat,E)),true),(decide (trZ D=[]),false),(Z0p b D k P,true)])
  | _=>none
 | _,_=>none
theorem Z6v:Z8 57 gDn:=by
 intro vals h s v h' s' lg hg hl m B w E0 hv;unfold gDn at hg;split at hg
 ·rename_i cs s2;split at hg
  ·rename_i n b D k P hcs;have ecs:cs= #[.bool n,.int .i64 b,bR D,.int .i64 k,.int .i64 P]:=by
    have:=congrArg List.toArray hcs;simpa [bR] using this
   cases hg;rw[Zm9,Zm9] at hl;obtain⟨l1,_,_⟩:=hl;have l1:trZ D=[]:=Xc l1;rw[ecs];have r:RunsW (Zk prog Zf ZL ZeT) (ZZ (Z5R f57) (.seq (.block 0 (.loop (dnL f57))) (sK f57 3))) ([tX n b D k P]++List.replicate 107 undef,⟨0,[]⟩,[]) fun e z=>(e=none∨e=some none)∧ZY prog f57 z.1 z.2.1=some (vRN n 0 Zo):=Zqo fun g s=>by
    rw[l1];refine (Zb (s0:=s) ZeH (ZCF n b D k P [] g) (Z4 (by rw[Zft];rfl))).mono fun e z he=> ?_;obtain⟨rfl,⟨g',z1⟩,z2⟩:=he;exact⟨.inr rfl,by rw[z1,z2];rfl⟩
   have evals:List.map (rn fun i=>i) [tX n b D k P]=[.agg #[.bool n,.int .i64 b,bR D,.int .i64 k,.int .i64 P]]:=by simp [rn,rn2,rn1,tX,bR]
   have fin:=Z9 (T:=(Zk prog Zf ZL ZeT)) func57 Zqa (h0:=⟨0,[]⟩) ⟨rfl,fun b x hx=>by have:b<0:=Hp.blk_lt hx;omega⟩ (vals:=[tX n b D k P]) (fun v hv=>by rw[List.mem_singleton.1 hv];rfl) (v:=vRN n 0 Zo) (by rfl) r E0 (s:=fun i=>i) (fun i x hx=>by have:i<0:=Hp.blk_lt hx;omega);rw[evals] at fin;exact fin
  ·cases hg
 ·rename_i cs V E s2;split at hg
  ·rename_i n b D k P hcs;have ecs:cs= #[.bool n,.int .i64 b,bR D,.int .i64 k,.int .i64 P]:=by
    have:=congrArg List.toArray hcs;simpa [bR] using this
   cases hg;rw[Zm9,Zm9,Zm9] at hl;obtain⟨l0,l1,l2,_⟩:=hl;have l0:dnA b (trZ D) k P=(V.toNat,E):=Xc l0;have l1:¬ trZ D=[]:=of_decide_eq_false l1;unfold Z0p at l2;simp only[Xh,Xi] at l2;obtain⟨⟨q1,q2,q3,q4⟩,q5⟩:=l2;obtain⟨c,l,hcl⟩:∃ c l,trZ D=c::l:=by
    cases h3:trZ D with
    | nil=>exact absurd h3 l1
    | cons c l=>exact⟨c,l,rfl⟩
   have r:RunsW (Zk prog Zf ZL ZeT) (ZZ (Z5R f57) (.seq (.block 0 (.loop (dnL f57))) (sK f57 3))) ([tX n b D k P]++List.replicate 107 undef,⟨0,[]⟩,[]) (dnZ n V.toNat E):=Zqo fun g s=>by
    have ht:=Zox D;have:=Z0q (n:=n) (b:=b) (D:=D) (k:=k) (P:=P) (c:=c) (l:=l) q1 (by rw[← hcl];omega) q3 q4 (by rw[← hcl];exact ZjO q5) (Zgd q5 hcl) g s;rw[← hcl,l0] at this;exact this
   rw[ecs];have evals:List.map (rn fun i=>i) [tX n b D k P]=[.agg #[.bool n,.int .i64 b,bR D,.int .i64 k,.int .i64 P]]:=by simp [rn,rn2,rn1,tX,bR]
   have fin:=Zci (T:=(Zk prog Zf ZL ZeT)) func57 Zqa (h0:=⟨0,[]⟩) ⟨rfl,fun b x hx=>by have:b<0:=Hp.blk_lt hx;omega⟩ (vals:=[tX n b D k P]) (fun v hv=>by rw[List.mem_singleton.1 hv];rfl) (v:=fun j=>vRN n E (sOf j V.toNat)) (Zbf _) (by kernel_rfl) r (fun k=>by simp [oc,oc2,oc1,sOf,sl,vRN]) E0 (s:=fun i=>i) (fun i x hx=>by have:i<0:=Hp.blk_lt hx;omega) (fun k=>by simp [rn,rn2,rn1,sOf,sl,vRN]);rw[evals] at fin;exact fin
  ·cases hg
 ·cases hg
end Go.Proofs.YtgefjidphfdhdaaGreatDoor
namespace Go.Proofs.YtgefjidphfdhdaaGreatDoor
open Go.Proofs.Tryz
open Go.KRun Go.Nt Go.Wd Go.Rn Go.Pt
set_option maxRecDepth 100000
set_option linter.unusedVariables false
def r0V (neg:Bool):Value:= .tuple #[.int .u64 (sS neg 0),.int .i64 0]
theorem r0a (neg:Bool) (E M:Int):ZB (Zr (Zq prog Zf Zn true) 200 56 [vRN neg E Zo,.int .i64 M] [cmp true,cmp true]) (r0V neg) [(((0:Nat):Int)==0,true),(decide (M<0),true)]:=by
 cases neg<;>exact by and_intros<;>kernel_rfl
theorem r0b (neg:Bool) (E M:Int):ZB (Zr (Zq prog Zf Zn true) 200 56 [vRN neg E Zo,.int .i64 M] [cmp false,cmp true,cmp true]) (r0V neg) [(((0:Nat):Int)==0,true),(decide (M>4),true),(decide (M<0),false)]:=by
 cases neg<;>exact by and_intros<;>kernel_rfl
theorem r0c (neg:Bool) (E M:Int):ZB (Zr (Zq prog Zf Zn true) 200 56 [vRN neg E Zo,.int .i64 M] [cmp false,cmp false,cmp true]) (r0V neg) [(((0:Nat):Int)==0,true),(decide (M>4),false),(decide (M<0),false)]:=by
 cases neg<;>exact by and_intros<;>kernel_rfl
def gR0:Ans:=fun vals s=>
 match vals with
 | [.agg cs,.int .i64 M]=>
  match cs.toList with
  | [.bool neg,.int .i64 E,.slice none 0 0]=>some (r0V neg,s,[])
  | _=>none
 | _=>none
theorem Z6w:zw 56 gR0:=by
 intro vals s v s' lg h hl w;unfold gR0 at h;split at h
 ·rename_i cs M;split at h
  ·rename_i neg E hcs;have ecs:cs= #[.bool neg,.int .i64 E,Zo]:=by
    have:=congrArg List.toArray hcs;simpa [Zo] using this
   cases h;rw[ecs];by_cases h0:M<0
   ·exact Ze (Zp Zd) (r0a neg E M) (Za rfl (Z4 (Xa h0))) (by rfl) (by rfl) w
   ·by_cases h4:M>4
    ·exact Ze (Zp Zd) (r0b neg E M) (Za rfl (Za (Xa h4) (Z4 (Xb h0)))) (by rfl) (by rfl) w
    ·exact Ze (Zp Zd) (r0c neg E M) (Za rfl (Za (Xb h4) (Z4 (Xb h0)))) (by rfl) (by rfl) w
  ·cases h
 ·cases h
end Go.Proofs.YtgefjidphfdhdaaGreatDoor
namespace Go.Proofs.YtgefjidphfdhdaaGreatDoor
open Go.Proofs.Tryz
open Go.KRun Go.Nt Go.Rd Go.Rn
set_option maxRecDepth 100000
def zP:Con:=alt 55 ZAt (alt 56 gR0 Zn)
theorem Zec:ConOk zP:=ZE func55 rfl Zzi (ZE func56 rfl Z6w Zd)
def ZbN:Hc:=zd 57 gDn (zd 56 ZAY hcN)
theorem Zg6:HcOk ZbN:=Zt func57 rfl Z6v (Zt func56 rfl Z0n zx)
def lN1 (l:List UInt8) (k:Int) (d:Bool):Bool×Bool:=(decide (((l.length:Nat):Int)>k),d)
def lX0 (l:List UInt8):Bool×Bool:=(decide ((0:Int)≤0∧0<l.length),true)
def lCh (c:UInt8) (k:Int) (d:Bool):Bool×Bool:=(lq8 c==k,d)
def lPt (l:List UInt8) (k:Int):Bool×Bool:=(decide ((0:Int)≤k∧k≤((l.length:Nat):Int)),true)
def lIs (u w:List UInt8) (d:Bool):Bool×Bool:=((⟨⟨u⟩⟩:ByteArray)==⟨⟨w⟩⟩,d)
def lSm (c:UInt8) (r:List UInt8):Log:=[lPt (c::r) 1,lCh c 45 true,lX0 (c::r),lN1 (c::r) 0 true,lCh c 45 true,lX0 (c::r),lN1 (c::r) 0 true,lN1 (c::r) 65536 false]
def lSp (c:UInt8) (r:List UInt8):Log:=[lPt (c::r) 1,lCh c 43 true,lX0 (c::r),lCh c 45 false,lX0 (c::r),lN1 (c::r) 0 true,lCh c 45 false,lX0 (c::r),lN1 (c::r) 0 true,lN1 (c::r) 65536 false]
def ZlB (c:UInt8) (r:List UInt8):Log:=[lCh c 43 false,lX0 (c::r),lCh c 45 false,lX0 (c::r),lN1 (c::r) 0 true,lCh c 45 false,lX0 (c::r),lN1 (c::r) 0 true,lN1 (c::r) 65536 false]
def lSe:Log:=[lN1 [] 0 false,lN1 [] 0 false,lN1 [] 65536 false]
def lBn (u:List UInt8) (l:Log):Log:=lIs u [105,110,102] false::lIs u [110,97,110] false::l
def Zui (u:List UInt8) (l:Log):Log:=lPt u 2::lIs (u.take 2) [48,120] true::lPt u 2::lN1 u 1 true::lBn u l
def lBa (u:List UInt8) (l:Log):Log:=lIs (u.take 2) [48,120] false::lPt u 2::lN1 u 1 true::lBn u l
def lBb (u:List UInt8) (l:Log):Log:=lN1 u 1 false::lBn u l
def lSc (b:Int) (v:List UInt8) (d:Bool) (l:Log):Log:=((scA b v).2,d)::(decide ((b=10∨b=16)∧v.length≤100000),true)::l
def dgs (b:Int) (v:List UInt8):List UInt8:=(sc1 b false v).1
def bhd (b:Int) (v:List UInt8):Int:=(((sc1 b false v).2.1:Nat):Int)
def lDz (b:Int) (v:List UInt8) (l:Log):Log:=(decide (trZ (dgs b v)=[]),true)::(Z0p b (dgs b v) (bhd b v) (scA b v).1,true)::l
def hPz (n:Bool) (b:Int) (v:List UInt8) (V:Nat):Hp:=⟨2,[w16 V,tC9 n b (dgs b v) (bhd b v) (scA b v).1]⟩
def lDn (n:Bool) (b:Int) (v:List UInt8) (V:Nat) (E:Int) (l:Log):Log:=(decide (vO (hPz n b v V) (Z6 1) (d16 V).length=V),true)::(ZpZ (hPz n b v V) (Z6 1) (d16 V).length (d16 V).length E,true)::(decide (dnA b (trZ (dgs b v)) (bhd b v) (scA b v).1=(V,E)),true)::(decide (trZ (dgs b v)=[]),false)::(Z0p b (dgs b v) (bhd b v) (scA b v).1,true)::l
theorem ZCU (l:List UInt8) (m:Int):ZB (Zr (Zk prog Zf zP ZbN) 300 19 [bR l,.int .i64 m] [cmp true]) (.tuple #[.int .u64 0,.int .i64 0,.int .i64 2]) ([(decide (((l.length:Nat):Int)>65536),true)]):=by and_intros<;>kernel_rfl
theorem ZCV (m:Int):ZB (Zr (Zk prog Zf zP ZbN) 300 19 [bR [],.int .i64 m] [cmp false,cmp false,cmp false,sam false,sam false,cmp false,cmp false]) (.tuple #[.int .u64 0,.int .i64 0,.int .i64 3]) (lSc 10 [] false (lBb [] lSe)):=by and_intros<;>kernel_rfl
theorem ZBk (c:UInt8) (r:List UInt8) (m:Int):ZB (Zr (Zk prog Zf zP ZbN) 300 19 [bR (c::r),.int .i64 m] [cmp false,cmp true,cmp true,cmp true,cmp true,sam true,sam true]) (.tuple #[.int .u64 9221120237041090560,.int .i64 0,.int .i64 0]) (lIs r [110,97,110] true::lSm c r):=by and_intros<;>kernel_rfl
theorem ZBl (c:UInt8) (r:List UInt8) (m:Int):ZB (Zr (Zk prog Zf zP ZbN) 300 19 [bR (c::r),.int .i64 m] [cmp false,cmp true,cmp true,cmp true,cmp true,sam true,sam false,sam true]) (.tuple #[.int .u64 18442240474082181120,.int .i64 0,.int .i64 0]) (lIs r [105,110,102] true::lIs r [110,97,110] false::lSm c r):=by and_intros<;>kernel_rfl
theorem Z6x (c:UInt8) (r:List UInt8) (m:Int):ZB (Zr (Zk prog Zf zP ZbN) 300 19 [bR (c::r),.int .i64 m] [cmp false,cmp true,cmp true,cmp true,cmp true,sam true,sam false,sam false,cmp true,sam true,sam true,sam true,cmp false]) (.tuple #[.int .u64 0,.int .i64 0,.int .i64 3]) (lSc 16 (r.drop 2) false (Zui r (lSm c r))):=by and_intros<;>kernel_rfl
theorem Z6y (c:UInt8) (r:List UInt8) (m:Int):ZB (Zr (Zk prog Zf zP ZbN) 300 19 [bR (c::r),.int .i64 m] [cmp false,cmp true,cmp true,cmp true,cmp true,sam true,sam false,sam false,cmp true,sam true,sam true,sam true,cmp true,cmp true]) (.tuple #[.int .u64 9223372036854775808,.int .i64 0,.int .i64 0]) (lDz 16 (r.drop 2) (lSc 16 (r.drop 2) true (Zui r (lSm c r)))):=by and_intros<;>kernel_rfl
theorem Z6z (c:UInt8) (r:List UInt8) (m:Int) (V:Nat) (E:Int):ZB (Zr (Zk prog Zf zP ZbN) 300 19 [bR (c::r),.int .i64 m] [cmp false,cmp true,cmp true,cmp true,cmp true,sam true,sam false,sam false,cmp true,sam true,sam true,sam true,cmp true,cmp false,num V,num E,num V]) (.tuple #[.int .u64 (sS true (rnP m true V E)),.int .i64 (rnF m true V E),.int .i64 0]) (lDn true 16 (r.drop 2) V E (lSc 16 (r.drop 2) true (Zui r (lSm c r)))):=by and_intros<;>kernel_rfl
theorem Z60 (c:UInt8) (r:List UInt8) (m:Int):ZB (Zr (Zk prog Zf zP ZbN) 300 19 [bR (c::r),.int .i64 m] [cmp false,cmp true,cmp true,cmp true,cmp true,sam true,sam false,sam false,cmp true,sam true,sam false,cmp false]) (.tuple #[.int .u64 0,.int .i64 0,.int .i64 3]) (lSc 10 r false (lBa r (lSm c r))):=by and_intros<;>kernel_rfl
theorem Z61 (c:UInt8) (r:List UInt8) (m:Int):ZB (Zr (Zk prog Zf zP ZbN) 300 19 [bR (c::r),.int .i64 m] [cmp false,cmp true,cmp true,cmp true,cmp true,sam true,sam false,sam false,cmp true,sam true,sam false,cmp true,cmp true]) (.tuple #[.int .u64 9223372036854775808,.int .i64 0,.int .i64 0]) (lDz 10 r (lSc 10 r true (lBa r (lSm c r)))):=by and_intros<;>kernel_rfl
theorem Z62 (c:UInt8) (r:List UInt8) (m:Int) (V:Nat) (E:Int):ZB (Zr (Zk prog Zf zP ZbN) 300 19 [bR (c::r),.int .i64 m] [cmp false,cmp true,cmp true,cmp true,cmp true,sam true,sam false,sam false,cmp true,sam true,sam false,cmp true,cmp false,num V,num E,num V]) (.tuple #[.int .u64 (sS true (rnP m true V E)),.int .i64 (rnF m true V E),.int .i64 0]) (lDn true 10 r V E (lSc 10 r true (lBa r (lSm c r)))):=by and_intros<;>kernel_rfl
theorem Z63 (c:UInt8) (r:List UInt8) (m:Int):ZB (Zr (Zk prog Zf zP ZbN) 300 19 [bR (c::r),.int .i64 m] [cmp false,cmp true,cmp true,cmp true,cmp true,sam true,sam false,sam false,cmp false,cmp false]) (.tuple #[.int .u64 0,.int .i64 0,.int .i64 3]) (lSc 10 r false (lBb r (lSm c r))):=by and_intros<;>kernel_rfl
theorem Z64 (c:UInt8) (r:List UInt8) (m:Int):ZB (Zr (Zk prog Zf zP ZbN) 300 19 [bR (c::r),.int .i64 m] [cmp false,cmp true,cmp true,cmp true,cmp true,sam true,sam false,sam false,cmp false,cmp true,cmp true]) (.tuple #[.int .u64 9223372036854775808,.int .i64 0,.int .i64 0]) (lDz 10 r (lSc 10 r true (lBb r (lSm c r)))):=by and_intros<;>kernel_rfl
theorem Z65 (c:UInt8) (r:List UInt8) (m:Int) (V:Nat) (E:Int):ZB (Zr (Zk prog Zf zP ZbN) 300 19 [bR (c::r),.int .i64 m] [cmp false,cmp true,cmp true,cmp true,cmp true,sam true,sam false,sam false,cmp false,cmp true,cmp false,num V,num E,num V]) (.tuple #[.int .u64 (sS true (rnP m true V E)),.int .i64 (rnF m true V E),.int .i64 0]) (lDn true 10 r V E (lSc 10 r true (lBb r (lSm c r)))):=by and_intros<;>kernel_rfl
theorem ZBm (c:UInt8) (r:List UInt8) (m:Int):ZB (Zr (Zk prog Zf zP ZbN) 300 19 [bR (c::r),.int .i64 m] [cmp false,cmp true,cmp false,cmp true,cmp false,cmp true,sam true,sam true]) (.tuple #[.int .u64 9221120237041090560,.int .i64 0,.int .i64 0]) (lIs r [110,97,110] true::lSp c r):=by and_intros<;>kernel_rfl
theorem ZBn (c:UInt8) (r:List UInt8) (m:Int):ZB (Zr (Zk prog Zf zP ZbN) 300 19 [bR (c::r),.int .i64 m] [cmp false,cmp true,cmp false,cmp true,cmp false,cmp true,sam true,sam false,sam true]) (.tuple #[.int .u64 9218868437227405312,.int .i64 0,.int .i64 0]) (lIs r [105,110,102] true::lIs r [110,97,110] false::lSp c r):=by and_intros<;>kernel_rfl
theorem Z66 (c:UInt8) (r:List UInt8) (m:Int):ZB (Zr (Zk prog Zf zP ZbN) 300 19 [bR (c::r),.int .i64 m] [cmp false,cmp true,cmp false,cmp true,cmp false,cmp true,sam true,sam false,sam false,cmp true,sam true,sam true,sam true,cmp false]) (.tuple #[.int .u64 0,.int .i64 0,.int .i64 3]) (lSc 16 (r.drop 2) false (Zui r (lSp c r))):=by and_intros<;>kernel_rfl
theorem Z67 (c:UInt8) (r:List UInt8) (m:Int):ZB (Zr (Zk prog Zf zP ZbN) 300 19 [bR (c::r),.int .i64 m] [cmp false,cmp true,cmp false,cmp true,cmp false,cmp true,sam true,sam false,sam false,cmp true,sam true,sam true,sam true,cmp true,cmp true]) (.tuple #[.int .u64 0,.int .i64 0,.int .i64 0]) (lDz 16 (r.drop 2) (lSc 16 (r.drop 2) true (Zui r (lSp c r)))):=by and_intros<;>kernel_rfl
theorem Z68 (c:UInt8) (r:List UInt8) (m:Int) (V:Nat) (E:Int):ZB (Zr (Zk prog Zf zP ZbN) 300 19 [bR (c::r),.int .i64 m] [cmp false,cmp true,cmp false,cmp true,cmp false,cmp true,sam true,sam false,sam false,cmp true,sam true,sam true,sam true,cmp true,cmp false,num V,num E,num V]) (.tuple #[.int .u64 (sS false (rnP m false V E)),.int .i64 (rnF m false V E),.int .i64 0]) (lDn false 16 (r.drop 2) V E (lSc 16 (r.drop 2) true (Zui r (lSp c r)))):=by and_intros<;>kernel_rfl
theorem Z69 (c:UInt8) (r:List UInt8) (m:Int):ZB (Zr (Zk prog Zf zP ZbN) 300 19 [bR (c::r),.int .i64 m] [cmp false,cmp true,cmp false,cmp true,cmp false,cmp true,sam true,sam false,sam false,cmp true,sam true,sam false,cmp false]) (.tuple #[.int .u64 0,.int .i64 0,.int .i64 3]) (lSc 10 r false (lBa r (lSp c r))):=by and_intros<;>kernel_rfl
theorem Z6A (c:UInt8) (r:List UInt8) (m:Int):ZB (Zr (Zk prog Zf zP ZbN) 300 19 [bR (c::r),.int .i64 m] [cmp false,cmp true,cmp false,cmp true,cmp false,cmp true,sam true,sam false,sam false,cmp true,sam true,sam false,cmp true,cmp true]) (.tuple #[.int .u64 0,.int .i64 0,.int .i64 0]) (lDz 10 r (lSc 10 r true (lBa r (lSp c r)))):=by and_intros<;>kernel_rfl
theorem Z6B (c:UInt8) (r:List UInt8) (m:Int) (V:Nat) (E:Int):ZB (Zr (Zk prog Zf zP ZbN) 300 19 [bR (c::r),.int .i64 m] [cmp false,cmp true,cmp false,cmp true,cmp false,cmp true,sam true,sam false,sam false,cmp true,sam true,sam false,cmp true,cmp false,num V,num E,num V]) (.tuple #[.int .u64 (sS false (rnP m false V E)),.int .i64 (rnF m false V E),.int .i64 0]) (lDn false 10 r V E (lSc 10 r true (lBa r (lSp c r)))):=by and_intros<;>kernel_rfl
theorem Z6C (c:UInt8) (r:List UInt8) (m:Int):ZB (Zr (Zk prog Zf zP ZbN) 300 19 [bR (c::r),.int .i64 m] [cmp false,cmp true,cmp false,cmp true,cmp false,cmp true,sam true,sam false,sam false,cmp false,cmp false]) (.tuple #[.int .u64 0,.int .i64 0,.int .i64 3]) (lSc 10 r false (lBb r (lSp c r))):=by and_intros<;>kernel_rfl
theorem Z6D (c:UInt8) (r:List UInt8) (m:Int):ZB (Zr (Zk prog Zf zP ZbN) 300 19 [bR (c::r),.int .i64 m] [cmp false,cmp true,cmp false,cmp true,cmp false,cmp true,sam true,sam false,sam false,cmp false,cmp true,cmp true]) (.tuple #[.int .u64 0,.int .i64 0,.int .i64 0]) (lDz 10 r (lSc 10 r true (lBb r (lSp c r)))):=by and_intros<;>kernel_rfl
theorem Z6E (c:UInt8) (r:List UInt8) (m:Int) (V:Nat) (E:Int):ZB (Zr (Zk prog Zf zP ZbN) 300 19 [bR (c::r),.int .i64 m] [cmp false,cmp true,cmp false,cmp true,cmp false,cmp true,sam true,sam false,sam false,cmp false,cmp true,cmp false,num V,num E,num V]) (.tuple #[.int .u64 (sS false (rnP m false V E)),.int .i64 (rnF m false V E),.int .i64 0]) (lDn false 10 r V E (lSc 10 r true (lBb r (lSp c r)))):=by and_intros<;>kernel_rfl
theorem ZBo (c:UInt8) (r:List UInt8) (m:Int):ZB (Zr (Zk prog Zf zP ZbN) 300 19 [bR (c::r),.int .i64 m] [cmp false,cmp true,cmp false,cmp true,cmp false,cmp false,sam true]) (.tuple #[.int .u64 9221120237041090560,.int .i64 0,.int .i64 0]) (lIs (c::r) [110,97,110] true::ZlB c r):=by and_intros<;>kernel_rfl
theorem ZBp (c:UInt8) (r:List UInt8) (m:Int):ZB (Zr (Zk prog Zf zP ZbN) 300 19 [bR (c::r),.int .i64 m] [cmp false,cmp true,cmp false,cmp true,cmp false,cmp false,sam false,sam true]) (.tuple #[.int .u64 9218868437227405312,.int .i64 0,.int .i64 0]) (lIs (c::r) [105,110,102] true::lIs (c::r) [110,97,110] false::ZlB c r):=by and_intros<;>kernel_rfl
theorem Z6F (c:UInt8) (r:List UInt8) (m:Int):ZB (Zr (Zk prog Zf zP ZbN) 300 19 [bR (c::r),.int .i64 m] [cmp false,cmp true,cmp false,cmp true,cmp false,cmp false,sam false,sam false,cmp true,sam true,sam true,sam true,cmp false]) (.tuple #[.int .u64 0,.int .i64 0,.int .i64 3]) (lSc 16 ((c::r).drop 2) false (Zui (c::r) (ZlB c r))):=by and_intros<;>kernel_rfl
theorem Z6G (c:UInt8) (r:List UInt8) (m:Int):ZB (Zr (Zk prog Zf zP ZbN) 300 19 [bR (c::r),.int .i64 m] [cmp false,cmp true,cmp false,cmp true,cmp false,cmp false,sam false,sam false,cmp true,sam true,sam true,sam true,cmp true,cmp true]) (.tuple #[.int .u64 0,.int .i64 0,.int .i64 0]) (lDz 16 ((c::r).drop 2) (lSc 16 ((c::r).drop 2) true (Zui (c::r) (ZlB c r)))):=by and_intros<;>kernel_rfl
theorem Z6H (c:UInt8) (r:List UInt8) (m:Int) (V:Nat) (E:Int):ZB (Zr (Zk prog Zf zP ZbN) 300 19 [bR (c::r),.int .i64 m] [cmp false,cmp true,cmp false,cmp true,cmp false,cmp false,sam false,sam false,cmp true,sam true,sam true,sam true,cmp true,cmp false,num V,num E,num V]) (.tuple #[.int .u64 (sS false (rnP m false V E)),.int .i64 (rnF m false V E),.int .i64 0]) (lDn false 16 ((c::r).drop 2) V E (lSc 16 ((c::r).drop 2) true (Zui (c::r) (ZlB c r)))):=by and_intros<;>kernel_rfl
theorem Z6I (c:UInt8) (r:List UInt8) (m:Int):ZB (Zr (Zk prog Zf zP ZbN) 300 19 [bR (c::r),.int .i64 m] [cmp false,cmp true,cmp false,cmp true,cmp false,cmp false,sam false,sam false,cmp true,sam true,sam false,cmp false]) (.tuple #[.int .u64 0,.int .i64 0,.int .i64 3]) (lSc 10 (c::r) false (lBa (c::r) (ZlB c r))):=by and_intros<;>kernel_rfl
theorem Z6J (c:UInt8) (r:List UInt8) (m:Int):ZB (Zr (Zk prog Zf zP ZbN) 300 19 [bR (c::r),.int .i64 m] [cmp false,cmp true,cmp false,cmp true,cmp false,cmp false,sam false,sam false,cmp true,sam true,sam false,cmp true,cmp true]) (.tuple #[.int .u64 0,.int .i64 0,.int .i64 0]) (lDz 10 (c::r) (lSc 10 (c::r) true (lBa (c::r) (ZlB c r)))):=by and_intros<;>kernel_rfl
theorem Z6K (c:UInt8) (r:List UInt8) (m:Int) (V:Nat) (E:Int):ZB (Zr (Zk prog Zf zP ZbN) 300 19 [bR (c::r),.int .i64 m] [cmp false,cmp true,cmp false,cmp true,cmp false,cmp false,sam false,sam false,cmp true,sam true,sam false,cmp true,cmp false,num V,num E,num V]) (.tuple #[.int .u64 (sS false (rnP m false V E)),.int .i64 (rnF m false V E),.int .i64 0]) (lDn false 10 (c::r) V E (lSc 10 (c::r) true (lBa (c::r) (ZlB c r)))):=by and_intros<;>kernel_rfl
theorem Z6L (c:UInt8) (r:List UInt8) (m:Int):ZB (Zr (Zk prog Zf zP ZbN) 300 19 [bR (c::r),.int .i64 m] [cmp false,cmp true,cmp false,cmp true,cmp false,cmp false,sam false,sam false,cmp false,cmp false]) (.tuple #[.int .u64 0,.int .i64 0,.int .i64 3]) (lSc 10 (c::r) false (lBb (c::r) (ZlB c r))):=by and_intros<;>kernel_rfl
theorem Z6M (c:UInt8) (r:List UInt8) (m:Int):ZB (Zr (Zk prog Zf zP ZbN) 300 19 [bR (c::r),.int .i64 m] [cmp false,cmp true,cmp false,cmp true,cmp false,cmp false,sam false,sam false,cmp false,cmp true,cmp true]) (.tuple #[.int .u64 0,.int .i64 0,.int .i64 0]) (lDz 10 (c::r) (lSc 10 (c::r) true (lBb (c::r) (ZlB c r)))):=by and_intros<;>kernel_rfl
theorem Z6N (c:UInt8) (r:List UInt8) (m:Int) (V:Nat) (E:Int):ZB (Zr (Zk prog Zf zP ZbN) 300 19 [bR (c::r),.int .i64 m] [cmp false,cmp true,cmp false,cmp true,cmp false,cmp false,sam false,sam false,cmp false,cmp true,cmp false,num V,num E,num V]) (.tuple #[.int .u64 (sS false (rnP m false V E)),.int .i64 (rnF m false V E),.int .i64 0]) (lDn false 10 (c::r) V E (lSc 10 (c::r) true (lBb (c::r) (ZlB c r)))):=by and_intros<;>kernel_rfl
theorem Za8 {u w:List UInt8}{d:Bool}(h:decide (u=w)=d):(lIs u w d).1=(lIs u w d).2:=by
 show ((⟨⟨u⟩⟩:ByteArray)==⟨⟨w⟩⟩)=d;rw[Zft];exact h
theorem Z6O (c:UInt8) (r:List UInt8):(lX0 (c::r)).1=true:=by
 show decide ((0:Int)≤0∧0<(c::r).length)=true;exact Xa ⟨by omega,by rw[List.length_cons];omega⟩
theorem Z6P (c:UInt8) (r:List UInt8):(lN1 (c::r) 0 true).1=true:=Xa (by rw[List.length_cons];omega)
theorem Zkt {u:List UInt8}{l:Log}(h1:¬ u=[110,97,110]) (h2:¬ u=[105,110,102]) (hl:Zx l):Zx (lBn u l):=Za (Za8 (Xb h2)) (Za (Za8 (Xb h1)) hl)
theorem Zat {b:Int}{v:List UInt8}{d:Bool}{l:Log}(h:(scA b v).2=d) (hb:b=10∨b=16) (hv:v.length≤10000) (hl:Zx l):Zx (lSc b v d l):=Za h (Za (Xa ⟨hb,by omega⟩) hl)
theorem Zqp {b:Int}{v:List UInt8}(hb:b=10∨b=16) (hv:v.length≤10000):Z0p b (dgs b v) (bhd b v) (scA b v).1=true∧(0≤bhd b v∧bhd b v≤10000)∧(-2000000≤(scA b v).1∧(scA b v).1≤2000000)∧(dgs b v).length≤10000:=by
 obtain⟨h1,h2,h3⟩:=ZuZ b false v;have h4: -2000000≤(scA b v).1∧(scA b v).1≤2000000:=by
  unfold scA;split
  ·exact⟨show (-2000000:Int)≤0 by decide,show (0:Int)≤2000000 by decide⟩
  ·exact Z32 b _
 unfold Z0p dgs bhd;refine⟨?_,by omega,h4,by omega⟩;rw[h3,Xa ⟨hb,by omega,by omega,h4.1,h4.2⟩];rfl
theorem Zdb {b:Int}{v:List UInt8}{l:Log}(h:trZ (sc1 b false v).1=[]) (hb:b=10∨b=16) (hv:v.length≤10000) (hl:Zx l):Zx (lDz b v l):=Za (Xa h) (Za (Zqp hb hv).1 hl)
theorem Zdc {n:Bool}{b:Int}{v:List UInt8}{l:Log}(h:¬ trZ (sc1 b false v).1=[]) (hb:b=10∨b=16) (hv:v.length≤10000) (hl:Zx l):Zx (lDn n b v (dnA b (trZ (dgs b v)) (bhd b v) (scA b v).1).1 (dnA b (trZ (dgs b v)) (bhd b v) (scA b v).1).2 l):=by
 obtain⟨h1,h2,h3,h4⟩:=Zqp hb hv;have ht:=Zox (dgs b v);obtain⟨b1,b2,b3⟩:=Z33 b hb (trZ (dgs b v)) (by omega) (bhd b v) (scA b v).1 h2 h3;obtain⟨V,hV⟩:∃ V,V=(dnA b (trZ (dgs b v)) (bhd b v) (scA b v).1).1:=⟨_,rfl⟩;obtain⟨E,hE⟩:∃ E,E=(dnA b (trZ (dgs b v)) (bhd b v) (scA b v).1).2:=⟨_,rfl⟩;rw[← hV] at b1;rw[← hE] at b2 b3;rw[← hV,← hE];have lV:=Zc8 b1;refine Za (Xa (ZdL (V:=V) rfl)) (Za ?_ (Za (Xa (by rw[hV,hE])) (Za (Xb h) (Za h1 hl))));unfold ZpZ Z6;rw[ZP (A:=V) rfl (by omega),Zaq (A:=V) rfl,show Zdf (d16 V)=true from ZbW (Zcv (by omega) _),Zl.2 (by omega),Xa ⟨b2,b3⟩];rfl
def pzT (x:Int×Int×Int):Value:= .tuple #[.int .u64 x.1,.int .i64 x.2.1,.int .i64 x.2.2]
theorem ZCW (c:UInt8) (r:List UInt8) (m:Int) (hl:(c::r).length≤10000) (hs:sgT (c::r)=(true,r)) (lS:Zx (lSm c r)) (w:World):Calls prog 19 #[bR (c::r),.int .i64 m] w fun e w'=>e= .returned (pzT (rdP m (c::r)))∧Zak w w':=by
 have T0:=Zh Zec Zg6;have hlu:r.length≤10000:=by rw[List.length_cons] at hl;omega
 have eP:rdP m (c::r)=if r=[110,97,110] then (9221120237041090560,0,0) else if r=[105,110,102] then (if true=true then 18442240474082181120 else 9218868437227405312,0,0) else rdQ m true (rdB r).1 (rdB r).2:=by
  unfold rdP;rw[if_neg (by omega),hs]
 rw[eP];by_cases h1:r=[110,97,110]
 ·rw[if_pos h1];exact Ze T0 (ZBk c r m) (Za (Za8 (Xa h1)) lS) (by rfl) (by rfl) w
 rw[if_neg h1];by_cases h2:r=[105,110,102]
 ·rw[if_pos h2];exact Ze T0 (ZBl c r m) (Za (Za8 (Xa h2)) (Za (Za8 (Xb h1)) lS)) (by rfl) (by rfl) w
 rw[if_neg h2];have lB:=Zkt h1 h2 lS;by_cases hq:1<r.length
 ·have lq:=Za (show decide (((r.length:Nat):Int)>1)=true from Xa (by omega)) lB;have lp:(lPt r 2).1=true:=Xa ⟨by omega,by omega⟩;have lq:=Za lp lq;by_cases h16:r.take 2=[48,120]
  ·have eB:rdB r=(16,r.drop 2):=by unfold rdB;rw[if_pos ⟨hq,h16⟩]
   rw[eB];dsimp only;have hv:(r.drop 2).length≤10000:=by rw[List.length_drop];omega
   have lX:=Za lp (Za (Za8 (Xa h16)) lq);cases hk:(scA 16 (r.drop 2)).2 with
   | false=>
    have e:rdQ m true 16 (r.drop 2)=(0,0,3):=by unfold rdQ;rw[if_pos hk]
    rw[e];exact Ze T0 (Z6x c r m) (Zat hk (.inr rfl) hv lX) (by rfl) (by rfl) w
   | true=>
    have lY:=Zat hk (.inr rfl) hv lX;by_cases hz:trZ (sc1 16 false (r.drop 2)).1=[]
    ·have e:rdQ m true 16 (r.drop 2)=(9223372036854775808,0,0):=by unfold rdQ;rw[if_neg (by rw[hk];decide),if_pos hz];rfl
     rw[e];exact Ze T0 (Z6y c r m) (Zdb hz (.inr rfl) hv lY) (by rfl) (by rfl) w
    ·have e:rdQ m true 16 (r.drop 2)=(sS true (rnP m true (dnA 16 (trZ (dgs 16 (r.drop 2))) (bhd 16 (r.drop 2)) (scA 16 (r.drop 2)).1).1 (dnA 16 (trZ (dgs 16 (r.drop 2))) (bhd 16 (r.drop 2)) (scA 16 (r.drop 2)).1).2),rnF m true (dnA 16 (trZ (dgs 16 (r.drop 2))) (bhd 16 (r.drop 2)) (scA 16 (r.drop 2)).1).1 (dnA 16 (trZ (dgs 16 (r.drop 2))) (bhd 16 (r.drop 2)) (scA 16 (r.drop 2)).1).2,0):=by unfold rdQ;rw[if_neg (by rw[hk];decide),if_neg hz];rfl
     rw[e];exact Ze T0 (Z6z c r m _ _) (Zdc hz (.inr rfl) hv lY) (by rfl) (by rfl) w
  ·have eB:rdB r=(10,r):=by unfold rdB;rw[if_neg (fun h=>h16 h.2)]
   rw[eB];dsimp only;have hv:=hlu;have lX:=Za (Za8 (Xb h16)) lq;cases hk:(scA 10 r).2 with
   | false=>
    have e:rdQ m true 10 r=(0,0,3):=by unfold rdQ;rw[if_pos hk]
    rw[e];exact Ze T0 (Z60 c r m) (Zat hk (.inl rfl) hv lX) (by rfl) (by rfl) w
   | true=>
    have lY:=Zat hk (.inl rfl) hv lX;by_cases hz:trZ (sc1 10 false r).1=[]
    ·have e:rdQ m true 10 r=(9223372036854775808,0,0):=by unfold rdQ;rw[if_neg (by rw[hk];decide),if_pos hz];rfl
     rw[e];exact Ze T0 (Z61 c r m) (Zdb hz (.inl rfl) hv lY) (by rfl) (by rfl) w
    ·have e:rdQ m true 10 r=(sS true (rnP m true (dnA 10 (trZ (dgs 10 r)) (bhd 10 r) (scA 10 r).1).1 (dnA 10 (trZ (dgs 10 r)) (bhd 10 r) (scA 10 r).1).2),rnF m true (dnA 10 (trZ (dgs 10 r)) (bhd 10 r) (scA 10 r).1).1 (dnA 10 (trZ (dgs 10 r)) (bhd 10 r) (scA 10 r).1).2,0):=by unfold rdQ;rw[if_neg (by rw[hk];decide),if_neg hz];rfl
     rw[e];exact Ze T0 (Z62 c r m _ _) (Zdc hz (.inl rfl) hv lY) (by rfl) (by rfl) w
 ·have eB:rdB r=(10,r):=by unfold rdB;rw[if_neg (fun h=>hq h.1)]
  rw[eB];dsimp only;have hv:=hlu;have lX:=Za (show decide (((r.length:Nat):Int)>1)=false from Xb (by omega)) lB;cases hk:(scA 10 r).2 with
  | false=>
   have e:rdQ m true 10 r=(0,0,3):=by unfold rdQ;rw[if_pos hk]
   rw[e];exact Ze T0 (Z63 c r m) (Zat hk (.inl rfl) hv lX) (by rfl) (by rfl) w
  | true=>
   have lY:=Zat hk (.inl rfl) hv lX;by_cases hz:trZ (sc1 10 false r).1=[]
   ·have e:rdQ m true 10 r=(9223372036854775808,0,0):=by unfold rdQ;rw[if_neg (by rw[hk];decide),if_pos hz];rfl
    rw[e];exact Ze T0 (Z64 c r m) (Zdb hz (.inl rfl) hv lY) (by rfl) (by rfl) w
   ·have e:rdQ m true 10 r=(sS true (rnP m true (dnA 10 (trZ (dgs 10 r)) (bhd 10 r) (scA 10 r).1).1 (dnA 10 (trZ (dgs 10 r)) (bhd 10 r) (scA 10 r).1).2),rnF m true (dnA 10 (trZ (dgs 10 r)) (bhd 10 r) (scA 10 r).1).1 (dnA 10 (trZ (dgs 10 r)) (bhd 10 r) (scA 10 r).1).2,0):=by unfold rdQ;rw[if_neg (by rw[hk];decide),if_neg hz];rfl
    rw[e];exact Ze T0 (Z65 c r m _ _) (Zdc hz (.inl rfl) hv lY) (by rfl) (by rfl) w
theorem ZCX (c:UInt8) (r:List UInt8) (m:Int) (hl:(c::r).length≤10000) (hs:sgT (c::r)=(false,r)) (lS:Zx (lSp c r)) (w:World):Calls prog 19 #[bR (c::r),.int .i64 m] w fun e w'=>e= .returned (pzT (rdP m (c::r)))∧Zak w w':=by
 have T0:=Zh Zec Zg6;have hlu:r.length≤10000:=by rw[List.length_cons] at hl;omega
 have eP:rdP m (c::r)=if r=[110,97,110] then (9221120237041090560,0,0) else if r=[105,110,102] then (if false=true then 18442240474082181120 else 9218868437227405312,0,0) else rdQ m false (rdB r).1 (rdB r).2:=by
  unfold rdP;rw[if_neg (by omega),hs]
 rw[eP];by_cases h1:r=[110,97,110]
 ·rw[if_pos h1];exact Ze T0 (ZBm c r m) (Za (Za8 (Xa h1)) lS) (by rfl) (by rfl) w
 rw[if_neg h1];by_cases h2:r=[105,110,102]
 ·rw[if_pos h2];exact Ze T0 (ZBn c r m) (Za (Za8 (Xa h2)) (Za (Za8 (Xb h1)) lS)) (by rfl) (by rfl) w
 rw[if_neg h2];have lB:=Zkt h1 h2 lS;by_cases hq:1<r.length
 ·have lq:=Za (show decide (((r.length:Nat):Int)>1)=true from Xa (by omega)) lB;have lp:(lPt r 2).1=true:=Xa ⟨by omega,by omega⟩;have lq:=Za lp lq;by_cases h16:r.take 2=[48,120]
  ·have eB:rdB r=(16,r.drop 2):=by unfold rdB;rw[if_pos ⟨hq,h16⟩]
   rw[eB];dsimp only;have hv:(r.drop 2).length≤10000:=by rw[List.length_drop];omega
   have lX:=Za lp (Za (Za8 (Xa h16)) lq);cases hk:(scA 16 (r.drop 2)).2 with
   | false=>
    have e:rdQ m false 16 (r.drop 2)=(0,0,3):=by unfold rdQ;rw[if_pos hk]
    rw[e];exact Ze T0 (Z66 c r m) (Zat hk (.inr rfl) hv lX) (by rfl) (by rfl) w
   | true=>
    have lY:=Zat hk (.inr rfl) hv lX;by_cases hz:trZ (sc1 16 false (r.drop 2)).1=[]
    ·have e:rdQ m false 16 (r.drop 2)=(0,0,0):=by unfold rdQ;rw[if_neg (by rw[hk];decide),if_pos hz];rfl
     rw[e];exact Ze T0 (Z67 c r m) (Zdb hz (.inr rfl) hv lY) (by rfl) (by rfl) w
    ·have e:rdQ m false 16 (r.drop 2)=(sS false (rnP m false (dnA 16 (trZ (dgs 16 (r.drop 2))) (bhd 16 (r.drop 2)) (scA 16 (r.drop 2)).1).1 (dnA 16 (trZ (dgs 16 (r.drop 2))) (bhd 16 (r.drop 2)) (scA 16 (r.drop 2)).1).2),rnF m false (dnA 16 (trZ (dgs 16 (r.drop 2))) (bhd 16 (r.drop 2)) (scA 16 (r.drop 2)).1).1 (dnA 16 (trZ (dgs 16 (r.drop 2))) (bhd 16 (r.drop 2)) (scA 16 (r.drop 2)).1).2,0):=by unfold rdQ;rw[if_neg (by rw[hk];decide),if_neg hz];rfl
     rw[e];exact Ze T0 (Z68 c r m _ _) (Zdc hz (.inr rfl) hv lY) (by rfl) (by rfl) w
  ·have eB:rdB r=(10,r):=by unfold rdB;rw[if_neg (fun h=>h16 h.2)]
   rw[eB];dsimp only;have hv:=hlu;have lX:=Za (Za8 (Xb h16)) lq;cases hk:(scA 10 r).2 with
   | false=>
    have e:rdQ m false 10 r=(0,0,3):=by unfold rdQ;rw[if_pos hk]
    rw[e];exact Ze T0 (Z69 c r m) (Zat hk (.inl rfl) hv lX) (by rfl) (by rfl) w
   | true=>
    have lY:=Zat hk (.inl rfl) hv lX;by_cases hz:trZ (sc1 10 false r).1=[]
    ·have e:rdQ m false 10 r=(0,0,0):=by unfold rdQ;rw[if_neg (by rw[hk];decide),if_pos hz];rfl
     rw[e];exact Ze T0 (Z6A c r m) (Zdb hz (.inl rfl) hv lY) (by rfl) (by rfl) w
    ·have e:rdQ m false 10 r=(sS false (rnP m false (dnA 10 (trZ (dgs 10 r)) (bhd 10 r) (scA 10 r).1).1 (dnA 10 (trZ (dgs 10 r)) (bhd 10 r) (scA 10 r).1).2),rnF m false (dnA 10 (trZ (dgs 10 r)) (bhd 10 r) (scA 10 r).1).1 (dnA 10 (trZ (dgs 10 r)) (bhd 10 r) (scA 10 r).1).2,0):=by unfold rdQ;rw[if_neg (by rw[hk];decide),if_neg hz];rfl
     rw[e];exact Ze T0 (Z6B c r m _ _) (Zdc hz (.inl rfl) hv lY) (by rfl) (by rfl) w
 ·have eB:rdB r=(10,r):=by unfold rdB;rw[if_neg (fun h=>hq h.1)]
  rw[eB];dsimp only;have hv:=hlu;have lX:=Za (show decide (((r.length:Nat):Int)>1)=false from Xb (by omega)) lB;cases hk:(scA 10 r).2 with
  | false=>
   have e:rdQ m false 10 r=(0,0,3):=by unfold rdQ;rw[if_pos hk]
   rw[e];exact Ze T0 (Z6C c r m) (Zat hk (.inl rfl) hv lX) (by rfl) (by rfl) w
  | true=>
   have lY:=Zat hk (.inl rfl) hv lX;by_cases hz:trZ (sc1 10 false r).1=[]
   ·have e:rdQ m false 10 r=(0,0,0):=by unfold rdQ;rw[if_neg (by rw[hk];decide),if_pos hz];rfl
    rw[e];exact Ze T0 (Z6D c r m) (Zdb hz (.inl rfl) hv lY) (by rfl) (by rfl) w
   ·have e:rdQ m false 10 r=(sS false (rnP m false (dnA 10 (trZ (dgs 10 r)) (bhd 10 r) (scA 10 r).1).1 (dnA 10 (trZ (dgs 10 r)) (bhd 10 r) (scA 10 r).1).2),rnF m false (dnA 10 (trZ (dgs 10 r)) (bhd 10 r) (scA 10 r).1).1 (dnA 10 (trZ (dgs 10 r)) (bhd 10 r) (scA 10 r).1).2,0):=by unfold rdQ;rw[if_neg (by rw[hk];decide),if_neg hz];rfl
    rw[e];exact Ze T0 (Z6E c r m _ _) (Zdc hz (.inl rfl) hv lY) (by rfl) (by rfl) w
theorem ZCY (c:UInt8) (r:List UInt8) (m:Int) (hl:(c::r).length≤10000) (hs:sgT (c::r)=(false,(c::r))) (lS:Zx (ZlB c r)) (w:World):Calls prog 19 #[bR (c::r),.int .i64 m] w fun e w'=>e= .returned (pzT (rdP m (c::r)))∧Zak w w':=by
 have T0:=Zh Zec Zg6;have hlu:(c::r).length≤10000:=by exact hl
 have eP:rdP m (c::r)=if (c::r)=[110,97,110] then (9221120237041090560,0,0) else if (c::r)=[105,110,102] then (if false=true then 18442240474082181120 else 9218868437227405312,0,0) else rdQ m false (rdB (c::r)).1 (rdB (c::r)).2:=by
  unfold rdP;rw[if_neg (by omega),hs]
 rw[eP];by_cases h1:(c::r)=[110,97,110]
 ·rw[if_pos h1];exact Ze T0 (ZBo c r m) (Za (Za8 (Xa h1)) lS) (by rfl) (by rfl) w
 rw[if_neg h1];by_cases h2:(c::r)=[105,110,102]
 ·rw[if_pos h2];exact Ze T0 (ZBp c r m) (Za (Za8 (Xa h2)) (Za (Za8 (Xb h1)) lS)) (by rfl) (by rfl) w
 rw[if_neg h2];have lB:=Zkt h1 h2 lS;by_cases hq:1<(c::r).length
 ·have lq:=Za (show decide ((((c::r).length:Nat):Int)>1)=true from Xa (by omega)) lB;have lp:(lPt (c::r) 2).1=true:=Xa ⟨by omega,by omega⟩;have lq:=Za lp lq;by_cases h16:(c::r).take 2=[48,120]
  ·have eB:rdB (c::r)=(16,(c::r).drop 2):=by unfold rdB;rw[if_pos ⟨hq,h16⟩]
   rw[eB];dsimp only;have hv:((c::r).drop 2).length≤10000:=by rw[List.length_drop];omega
   have lX:=Za lp (Za (Za8 (Xa h16)) lq);cases hk:(scA 16 ((c::r).drop 2)).2 with
   | false=>
    have e:rdQ m false 16 ((c::r).drop 2)=(0,0,3):=by unfold rdQ;rw[if_pos hk]
    rw[e];exact Ze T0 (Z6F c r m) (Zat hk (.inr rfl) hv lX) (by rfl) (by rfl) w
   | true=>
    have lY:=Zat hk (.inr rfl) hv lX;by_cases hz:trZ (sc1 16 false ((c::r).drop 2)).1=[]
    ·have e:rdQ m false 16 ((c::r).drop 2)=(0,0,0):=by unfold rdQ;rw[if_neg (by rw[hk];decide),if_pos hz];rfl
     rw[e];exact Ze T0 (Z6G c r m) (Zdb hz (.inr rfl) hv lY) (by rfl) (by rfl) w
    ·have e:rdQ m false 16 ((c::r).drop 2)=(sS false (rnP m false (dnA 16 (trZ (dgs 16 ((c::r).drop 2))) (bhd 16 ((c::r).drop 2)) (scA 16 ((c::r).drop 2)).1).1 (dnA 16 (trZ (dgs 16 ((c::r).drop 2))) (bhd 16 ((c::r).drop 2)) (scA 16 ((c::r).drop 2)).1).2),rnF m false (dnA 16 (trZ (dgs 16 ((c::r).drop 2))) (bhd 16 ((c::r).drop 2)) (scA 16 ((c::r).drop 2)).1).1 (dnA 16 (trZ (dgs 16 ((c::r).drop 2))) (bhd 16 ((c::r).drop 2)) (scA 16 ((c::r).drop 2)).1).2,0):=by unfold rdQ;rw[if_neg (by rw[hk];decide),if_neg hz];rfl
     rw[e];exact Ze T0 (Z6H c r m _ _) (Zdc hz (.inr rfl) hv lY) (by rfl) (by rfl) w
  ·have eB:rdB (c::r)=(10,(c::r)):=by unfold rdB;rw[if_neg (fun h=>h16 h.2)]
   rw[eB];dsimp only;have hv:=hlu;have lX:=Za (Za8 (Xb h16)) lq;cases hk:(scA 10 (c::r)).2 with
   | false=>
    have e:rdQ m false 10 (c::r)=(0,0,3):=by unfold rdQ;rw[if_pos hk]
    rw[e];exact Ze T0 (Z6I c r m) (Zat hk (.inl rfl) hv lX) (by rfl) (by rfl) w
   | true=>
    have lY:=Zat hk (.inl rfl) hv lX;by_cases hz:trZ (sc1 10 false (c::r)).1=[]
    ·have e:rdQ m false 10 (c::r)=(0,0,0):=by unfold rdQ;rw[if_neg (by rw[hk];decide),if_pos hz];rfl
     rw[e];exact Ze T0 (Z6J c r m) (Zdb hz (.inl rfl) hv lY) (by rfl) (by rfl) w
    ·have e:rdQ m false 10 (c::r)=(sS false (rnP m false (dnA 10 (trZ (dgs 10 (c::r))) (bhd 10 (c::r)) (scA 10 (c::r)).1).1 (dnA 10 (trZ (dgs 10 (c::r))) (bhd 10 (c::r)) (scA 10 (c::r)).1).2),rnF m false (dnA 10 (trZ (dgs 10 (c::r))) (bhd 10 (c::r)) (scA 10 (c::r)).1).1 (dnA 10 (trZ (dgs 10 (c::r))) (bhd 10 (c::r)) (scA 10 (c::r)).1).2,0):=by unfold rdQ;rw[if_neg (by rw[hk];decide),if_neg hz];rfl
     rw[e];exact Ze T0 (Z6K c r m _ _) (Zdc hz (.inl rfl) hv lY) (by rfl) (by rfl) w
 ·have eB:rdB (c::r)=(10,(c::r)):=by unfold rdB;rw[if_neg (fun h=>hq h.1)]
  rw[eB];dsimp only;have hv:=hlu;have lX:=Za (show decide ((((c::r).length:Nat):Int)>1)=false from Xb (by omega)) lB;cases hk:(scA 10 (c::r)).2 with
  | false=>
   have e:rdQ m false 10 (c::r)=(0,0,3):=by unfold rdQ;rw[if_pos hk]
   rw[e];exact Ze T0 (Z6L c r m) (Zat hk (.inl rfl) hv lX) (by rfl) (by rfl) w
  | true=>
   have lY:=Zat hk (.inl rfl) hv lX;by_cases hz:trZ (sc1 10 false (c::r)).1=[]
   ·have e:rdQ m false 10 (c::r)=(0,0,0):=by unfold rdQ;rw[if_neg (by rw[hk];decide),if_pos hz];rfl
    rw[e];exact Ze T0 (Z6M c r m) (Zdb hz (.inl rfl) hv lY) (by rfl) (by rfl) w
   ·have e:rdQ m false 10 (c::r)=(sS false (rnP m false (dnA 10 (trZ (dgs 10 (c::r))) (bhd 10 (c::r)) (scA 10 (c::r)).1).1 (dnA 10 (trZ (dgs 10 (c::r))) (bhd 10 (c::r)) (scA 10 (c::r)).1).2),rnF m false (dnA 10 (trZ (dgs 10 (c::r))) (bhd 10 (c::r)) (scA 10 (c::r)).1).1 (dnA 10 (trZ (dgs 10 (c::r))) (bhd 10 (c::r)) (scA 10 (c::r)).1).2,0):=by unfold rdQ;rw[if_neg (by rw[hk];decide),if_neg hz];rfl
    rw[e];exact Ze T0 (Z6N c r m _ _) (Zdc hz (.inl rfl) hv lY) (by rfl) (by rfl) w
theorem Zuj (l:List UInt8) (m:Int) (h:l.length≤10000∨65536<l.length) (w:World):Calls prog 19 #[bR l,.int .i64 m] w fun e w'=>e= .returned (pzT (rdP m l))∧Zak w w':=by
 have T0:=Zh Zec Zg6;by_cases hl:65536<l.length
 ·have e:rdP m l=(0,0,2):=by unfold rdP;rw[if_pos hl]
  rw[e];exact Ze T0 (ZCU l m) (Z4 (Xa (by omega))) (by rfl) (by rfl) w
 have hl:l.length≤10000:=by omega
 cases l with
 | nil=>
  have e:rdP m []=(0,0,3):=by
   unfold rdP;rw[if_neg (by decide),if_neg (by decide),if_neg (by decide)];rfl
  rw[e];exact Ze T0 (ZCV m) (Zat rfl (.inl rfl) (by decide) (Za rfl (Zkt (by decide) (by decide) (Za rfl (Za rfl (Z4 rfl)))))) (by rfl) (by rfl) w
 | cons c r=>
  have x0:=Z6O c r;have n0:=Z6P c r;have n6:(lN1 (c::r) 65536 false).1=false:=Xb (by omega);have p1:(lPt (c::r) 1).1=true:=Xa ⟨by omega,by rw[List.length_cons];omega⟩;by_cases h45:lq8 c=45
  ·have c1:(lCh c 45 true).1=true:=ZQ h45;exact ZCW c r m hl (by unfold sgT;dsimp only;rw[if_pos h45]) (Za p1 (Za c1 (Za x0 (Za n0 (Za c1 (Za x0 (Za n0 (Z4 n6)))))))) w
  have c1:(lCh c 45 false).1=false:=ZI h45;by_cases h43:lq8 c=43
  ·have c2:(lCh c 43 true).1=true:=ZQ h43;exact ZCX c r m hl (by unfold sgT;dsimp only;rw[if_neg h45,if_pos h43]) (Za p1 (Za c2 (Za x0 (Za c1 (Za x0 (Za n0 (Za c1 (Za x0 (Za n0 (Z4 n6)))))))))) w
  ·have c2:(lCh c 43 false).1=false:=ZI h43;exact ZCY c r m hl (by unfold sgT;dsimp only;rw[if_neg h45,if_neg h43]) (Za c2 (Za x0 (Za c1 (Za x0 (Za n0 (Za c1 (Za x0 (Za n0 (Z4 n6))))))))) w
def gRP:Ans:=fun vals s=>
 match vals with
 | [.string ⟨⟨l⟩⟩,.int .i64 m]=>some (pzT (rdP m l),s,[(decide (l.length≤10000∨65536<l.length),true)])
 | _=>none
theorem Z6Q:zw 19 gRP:=by
 intro vals s v s' lg h hl w;unfold gRP at h;split at h
 ·cases h;exact Zuj _ _ (Xc (hl _ Xf)) w
 ·cases h
end Go.Proofs.YtgefjidphfdhdaaGreatDoor
