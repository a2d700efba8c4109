/-
  ShP, PhA, PhE, PhF, TxN, TxO, ConVB, ToS, ShA, ConVE, ConVF, RfN, RfD, RfF, ToA, ConVN
-/
import Derived.Test.YtgefjidphfdhdaaGreatDoorG16
import Derived.Laws.Closers25b
namespace Go.Proofs.YtgefjidphfdhdaaGreatDoor
open Go.Proofs.Tryz
open Go.IntKind
open Go.KRun Go.Nt Go.Rd Go.Wd Go.Pt
set_option maxRecDepth 100000
def nrV (p:Int) (n:Nat):Nat:=arN (nrU (ZO p (lsP p)) (Zab p (lsP p)) (10^(atL p-n))) (ZO p (lsP p)) (10^(atL p-n))
def frV (p:Int) (n:Nat):Nat:=arX (nrU (ZO p (lsP p)) (Zab p (lsP p)) (10^(atL p-n))) (ZO p (lsP p)) (10^(atL p-n))
theorem ZnI (p:Int) (n:Nat):(nrV p n=Zbm p n∧frV p n=Zb4 p n∧nrU (ZO p (lsP p)) (Zab p (lsP p)) (10^(atL p-n))=true)∨(nrV p n=Zb4 p n∧frV p n=Zbm p n∧nrU (ZO p (lsP p)) (Zab p (lsP p)) (10^(atL p-n))=false):=by
 unfold nrV frV arN arX;cases nrU (ZO p (lsP p)) (Zab p (lsP p)) (10^(atL p-n)) with
 | true=>exact .inl ⟨if_pos rfl,if_pos rfl,rfl⟩
 | false=>exact .inr ⟨if_neg (by decide),if_neg (by decide),rfl⟩
section
variable {p : Int}
theorem Z5e (h:Fin14 p) (x:Nat):(decide (((Zbk p (lsP p):Nat):Int)≤((x:Nat):Int)) && decide (((x:Nat):Int)≤((Zbl p (lsP p):Nat):Int)))=ZgA p (lsP p) x:=by
 rw[Z0o h,decide_eq_decide.2 (show ((Zbk p (lsP p):Nat):Int)≤((x:Nat):Int)↔Zbk p (lsP p)≤x by omega),decide_eq_decide.2 (show ((x:Nat):Int)≤((Zbl p (lsP p):Nat):Int)↔x≤Zbl p (lsP p) by omega)]
theorem Zct (h:Fin14 p):10^atL p≤10000000000000000000:=Nat.pow_le_pow_right (n:=10) (by omega) (Zbg h).1.2
theorem ZnJ (h:Fin14 p) {n:Nat}(h1:1≤n) (h2:n≤17):10^(atL p-1)≤Zb4 p n∧Zbm p n≤10^atL p∧Zb4 p n≤Zbm p n:=by
 obtain⟨⟨l1,l2⟩,a,b⟩:=Zbg h;have hu:0<10^(atL p-n):=Nat.pow_pos (by omega);have e1:10^atL p=10^n*10^(atL p-n):=by rw[← Nat.pow_add];congr 1;omega
 have e2:10^(atL p-1)=10^(n-1)*10^(atL p-n):=by rw[← Nat.pow_add];congr 1;omega
 have q1:10^(n-1)≤ZO p (lsP p)/10^(atL p-n):=(Nat.le_div_iff_mul_le hu).2 (by rw[← e2];exact a);have q2:ZO p (lsP p)/10^(atL p-n)<10^n:=(Nat.div_lt_iff_lt_mul hu).2 (by rw[← e1];exact b);unfold Zb4 Zbm;refine⟨?_,?_,Nat.mul_le_mul_right _ (by omega)⟩
 ·rw[e2];exact Nat.mul_le_mul_right _ q1
 ·rw[e1];exact Nat.mul_le_mul_right _ q2
theorem Zw0 (h:Fin14 p) {n:Nat}(h1:1≤n) (h2:n≤17):Zx6 (ZO p (lsP p)) (10^(atL p-n))=true:=by
 obtain⟨⟨l1,l2⟩,_⟩:=Zbg h;obtain⟨_,b,_⟩:=ZnJ h h1 h2;have:=Zct h;refine Xa ⟨?_,?_⟩
 ·have:10^1≤10^(atL p-n):=Nat.pow_le_pow_right (by omega) (by omega);omega
 ·have e:Zbm p n=(ZO p (lsP p)/10^(atL p-n)+1)*10^(atL p-n):=rfl;rw[← e];omega
end
def srK (p:Int):Hp:=srM (sgn p) (cl p) (xp p) (sg p) ((Zbk p (lsP p):Nat):Int) ((Zbl p (lsP p):Nat):Int) ((ZO p (lsP p):Nat):Int) (Zab p (lsP p)) (lsP p)
def srA (p u:Int):List Value:=srF (sgn p) (cl p) (xp p) (sg p) u
def srB (p u n f:Int):List Value:=srG (sgn p) (cl p) (xp p) (sg p) u n f
def Zx8 (p:Int) (i:Nat) (y:Lf):Prop:=i≤atL p-1∧∃ g,y.1=srA p ((10^i:Nat):Int)++tl 44 g∧y.2.1=srK p
def Zw1 (p:Int) (n:Nat) (y:Lf):Prop:=(1≤n∧n≤nP p)∧∃ g,y.1=srB p ((10^(atL p-n):Nat):Int) ((nrV p n:Nat):Int) ((frV p n:Nat):Int)++tl 42 g∧y.2.1=srK p
theorem Z5f {p:Int}(h:Fin14 p) (r:Nat) (y:Lf) (hy:∃ i,r=atL p-1-i∧Zx8 p i y):
  Runs (Zm prog Zg Zb5 Zgx) (Z2x f24) y fun e z=>match e with | none=>∃ r',r'<r∧∃ i,r'=atL p-1-i∧Zx8 p i z | some none=>False | some (some id')=>id'=0∧Zx8 p (atL p-1) z:=by
 obtain⟨i,hr,hi,g,ht,hh⟩:=hy;obtain⟨t,h',sc⟩:=y;simp only at ht hh;subst ht hh;obtain⟨⟨l1,l2⟩,a,b⟩:=Zbg h;have t19:=Zct h;have ew:u64.wrap (((ZO p (lsP p):Nat):Int).tdiv 10)=((ZO p (lsP p)/10:Nat):Int):=by
  rw[Int.tdiv_eq_ediv_of_nonneg (by omega),ZcT (by omega) (by omega)];omega
 by_cases hc:i<atL p-1
 ·have hp:10^(i+1)≤ZO p (lsP p):=Nat.le_trans (Nat.pow_le_pow_right (by omega) (by omega)) a;rw[Nat.pow_succ] at hp;have hg:=Z4Y (sgn p) (cl p) (xp p) (sg p) ((Zbk p (lsP p):Nat):Int) ((Zbl p (lsP p):Nat):Int) ((ZO p (lsP p):Nat):Int) (lsP p) ((10^i:Nat):Int) (Zab p (lsP p)) g;have em:u64.wrap (((10^i:Nat):Int)*10)=((10^(i+1):Nat):Int):=by
   rw[Nat.pow_succ,ZcT (by omega) (by omega)];omega
  rw[em] at hg;refine (Zb (s0:=sc) ZdO hg (ZB (Xa (by rw[ew];omega)))).mono fun e z he=> ?_;obtain⟨rfl,⟨g',z1⟩,z2⟩:=he;exact⟨atL p-1-(i+1),by omega,i+1,rfl,by omega,g',z1,z2⟩
 ·have ei:i=atL p-1:=by omega
  have hn:¬ 10^i≤ZO p (lsP p)/10:=by
   intro c;have:10^atL p=10^i*10:=by rw[← Nat.pow_succ];congr 1;omega
   omega
  refine (Zb (s0:=sc) ZdO (Z4Z (sgn p) (cl p) (xp p) (sg p) ((Zbk p (lsP p):Nat):Int) ((Zbl p (lsP p):Nat):Int) ((ZO p (lsP p):Nat):Int) (lsP p) ((10^i:Nat):Int) (Zab p (lsP p)) g) (ZB (Xb (by rw[ew];omega)))).mono fun e z he=> ?_;obtain⟨rfl,⟨g',z1⟩,z2⟩:=he;rw[ei] at z1;exact⟨rfl,Nat.le_refl _,g',z1,z2⟩
theorem ZnK {p:Int}(h:Fin14 p) {n:Nat}(h1:1≤n) (h2:n≤17) {b:Bool}(hb:nrU (ZO p (lsP p)) (Zab p (lsP p)) (10^(atL p-n))=b) {l:Log}(hl:Zu l):Zu (lAr ((ZO p (lsP p):Nat):Int) ((10^(atL p-n):Nat):Int) (Zab p (lsP p)) b l):=by
 unfold lAr;rw[Xg,Xg];exact Za hb (Za (Zw0 h h1 h2) (Za (Xa ⟨Int.natCast_nonneg _,Int.natCast_nonneg _⟩) hl))
theorem Z5g {p:Int}(h:Fin14 p) (r:Nat) (y:Lf) (hy:∃ n,r=nP p-n∧Zw1 p n y):
  Runs (Zm prog Zg Zb5 Zgx) (Zx7 f24) y fun e z=>match e with | none=>∃ r',r'<r∧∃ n,r'=nP p-n∧Zw1 p n z | some none=>False | some (some id')=>id'=2∧Zw1 p (nP p) z:=by
 obtain⟨n,hr,⟨n1,n2⟩,g,ht,hh⟩:=hy;obtain⟨t,h',sc⟩:=y;simp only at ht hh;subst ht hh;obtain⟨⟨l1,l2⟩,_⟩:=Zbg h;obtain⟨_,⟨_,n17⟩,_⟩:=ZbD h;have se:=ZqX h n1 n2;have orE:(ZgA p (lsP p) (nrV p n)=true∨ZgA p (lsP p) (frV p n)=true)↔n=nP p:=by
  rw[← se];rcases ZnI p n with ⟨e1,e2,_⟩ | ⟨e1,e2,_⟩<;>rw[e1,e2]
  exact or_comm
 have hN:=Z5e h (nrV p n);have hF:=Z5e h (frV p n);cases c1:ZgA p (lsP p) (nrV p n) with
 | true=>
  have en:=orE.1 (.inl c1);refine (Zb (s0:=sc) ZdO (Z1b (sgn p) (cl p) (xp p) (sg p) ((Zbk p (lsP p):Nat):Int) ((Zbl p (lsP p):Nat):Int) ((ZO p (lsP p):Nat):Int) (lsP p) ((10^(atL p-n):Nat):Int) ((nrV p n:Nat):Int) ((frV p n:Nat):Int) (Zab p (lsP p)) g) (ZB (by rw[hN];exact c1))).mono fun e z he=> ?_;obtain⟨rfl,⟨g',z1⟩,z2⟩:=he;rw[← en];exact⟨rfl,⟨n1,n2⟩,g',z1,z2⟩
 | false=>
  cases c2:ZgA p (lsP p) (frV p n) with
  | true=>
   have en:=orE.1 (.inr c2);refine (Zb (s0:=sc) ZdO (Z1c (sgn p) (cl p) (xp p) (sg p) ((Zbk p (lsP p):Nat):Int) ((Zbl p (lsP p):Nat):Int) ((ZO p (lsP p):Nat):Int) (lsP p) ((10^(atL p-n):Nat):Int) ((nrV p n:Nat):Int) ((frV p n:Nat):Int) (Zab p (lsP p)) g) (Za (by rw[hF];exact c2) (ZB (by rw[hN];exact c1)))).mono fun e z he=> ?_;obtain⟨rfl,⟨g',z1⟩,z2⟩:=he;rw[← en];exact⟨rfl,⟨n1,n2⟩,g',z1,z2⟩
  | false=>
   have hne:n≠nP p:=fun c=>by
    rcases orE.2 c with c3 | c3
    ·rw[c1] at c3;cases c3
    ·rw[c2] at c3;cases c3
   have eu:u64.wrap (((10^(atL p-n):Nat):Int).tdiv 10)=((10^(atL p-(n+1)):Nat):Int):=by
    have e:10^(atL p-n)=10^(atL p-(n+1))*10:=by rw[← Nat.pow_succ];congr 1;omega
    have b:10^(atL p-(n+1))≤10^atL p:=Nat.pow_le_pow_right (by omega) (by omega);have:=Zct h;rw[e,Int.tdiv_eq_ediv_of_nonneg (by omega),ZcT (by omega) (by omega)];omega
   have fin:∀ b,nrU (ZO p (lsP p)) (Zab p (lsP p)) (10^(atL p-(n+1)))=b→((arN b (ZO p (lsP p)) (10^(atL p-(n+1)))=nrV p (n+1))∧(arX b (ZO p (lsP p)) (10^(atL p-(n+1)))=frV p (n+1))):=fun b hb=>by
    unfold nrV frV;rw[hb];exact⟨rfl,rfl⟩
   have lg:∀ b,nrU (ZO p (lsP p)) (Zab p (lsP p)) (10^(atL p-(n+1)))=b→Zu (lAr ((ZO p (lsP p):Nat):Int) ((10^(atL p-(n+1)):Nat):Int) (Zab p (lsP p)) b [(decide (((Zbk p (lsP p):Nat):Int)≤((frV p n:Nat):Int)) && decide (((frV p n:Nat):Int)≤((Zbl p (lsP p):Nat):Int)),false),(decide (((Zbk p (lsP p):Nat):Int)≤((nrV p n:Nat):Int)) && decide (((nrV p n:Nat):Int)≤((Zbl p (lsP p):Nat):Int)),false)]):=fun b hb=>ZnK h (by omega) (by omega) hb (Za (by rw[hF];exact c2) (ZB (by rw[hN];exact c1)));cases c3:nrU (ZO p (lsP p)) (Zab p (lsP p)) (10^(atL p-(n+1))) with
   | true=>
    have hg:=Z1d (sgn p) (cl p) (xp p) (sg p) ((Zbk p (lsP p):Nat):Int) ((Zbl p (lsP p):Nat):Int) ((ZO p (lsP p):Nat):Int) (lsP p) ((10^(atL p-n):Nat):Int) ((nrV p n:Nat):Int) ((frV p n:Nat):Int) (Zab p (lsP p)) g;rw[eu,Xg,Xg,(fin true c3).1,(fin true c3).2] at hg;refine (Zb (s0:=sc) ZdO hg (lg true c3)).mono fun e z he=> ?_;obtain⟨rfl,⟨g',z1⟩,z2⟩:=he;exact⟨nP p-(n+1),by omega,n+1,rfl,⟨by omega,by omega⟩,g',z1,z2⟩
   | false=>
    have hg:=Z1e (sgn p) (cl p) (xp p) (sg p) ((Zbk p (lsP p):Nat):Int) ((Zbl p (lsP p):Nat):Int) ((ZO p (lsP p):Nat):Int) (lsP p) ((10^(atL p-n):Nat):Int) ((nrV p n:Nat):Int) ((frV p n:Nat):Int) (Zab p (lsP p)) g;rw[eu,Xg,Xg,(fin false c3).1,(fin false c3).2] at hg;refine (Zb (s0:=sc) ZdO hg (lg false c3)).mono fun e z he=> ?_;obtain⟨rfl,⟨g',z1⟩,z2⟩:=he;exact⟨nP p-(n+1),by omega,n+1,rfl,⟨by omega,by omega⟩,g',z1,z2⟩
def sdD (p:Int):List UInt8:=trR (dcL (shV p))
def sdE (p:Int):Int:=lsP p+(((dcL (shV p)).length:Nat):Int)-1
theorem Zrr {p:Int}(h:Fin14 p) (w:World) (hk:knT w):Calls prog 24 #[vT p] w fun r w'=>r= .returned (vDc (sdD p) (sdE p))∧zH w w':=by
 have ev:∀ m:Mp,[vT p].map (mv m)=[vT p]:=fun m=>(List.map_congr_left fun y hy=>Z7 (by rw[List.mem_singleton.1 hy];rfl)).trans (List.map_id' _);have q0:0≤sg p:=by
  have:=ZdY p;unfold sg;split
  ·omega
  ·split<;>omega
 have f1:=h.ne;have f2:=h.e0;have f3:=h.e1;have f4:=h.s1;have main:=ZdX (T:=Zm prog Zg Zb5 Zgx) func24 Zwz (h0:=hT0) (vals:=[vT p]) (fun v hv=>by rw[List.mem_singleton.1 hv];rfl) (v:=vDc (sdD p) (sdE p)) (by rfl) (m:=fun b=>(b,0)) (w:=w) ?_ (ZsJ hk)
 ·rw[ev] at main;exact main
 obtain⟨⟨l1,l2⟩,a,b⟩:=Zbg h;obtain⟨_,⟨p1,p17⟩,_⟩:=ZbD h;obtain⟨_,_,j1,j2⟩:=ZvJ h;refine Z4 ZdO (Z1a (sgn p) (cl p) (xp p) (sg p)) (ZB (Xa (by omega))) fun g=> ?_;refine Runs.seq (P1:=fun e y=>match e with | none=>Zx8 p (atL p-1) y | some none=>False | some (some _)=>False) (Runs.forLoop (R:=fun _=>False) (P:=Zx8 p (atL p-1)) (fun r y=>∃ i,r=atL p-1-i∧Zx8 p i y) (Z5f h) (n:=atL p-1-0) ⟨0,rfl,Nat.zero_le _,g,rfl,rfl⟩) ?_ (fun e y he=>by match e,he with | none,he=>exact he.elim | some _,he=>exact he.elim);rintro⟨t,hh,sc⟩ ⟨_,g1,e1,e2⟩;simp only at e1 e2;subst e1 e2;have mid:Runs (Zm prog Zg Zb5 Zgx) (sP f24 4) (srA p ((10^(atL p-1):Nat):Int)++tl 44 g1,srK p,sc) fun e y=>e=none∧Zw1 p 1 y:=by
  have fin:∀ b,nrU (ZO p (lsP p)) (Zab p (lsP p)) (10^(atL p-1))=b→((arN b (ZO p (lsP p)) (10^(atL p-1))=nrV p 1)∧(arX b (ZO p (lsP p)) (10^(atL p-1))=frV p 1)):=fun b hb=>by
   unfold nrV frV;rw[hb];exact⟨rfl,rfl⟩
  cases c3:nrU (ZO p (lsP p)) (Zab p (lsP p)) (10^(atL p-1)) with
  | true=>
   have hg:=Z5a (sgn p) (cl p) (xp p) (sg p) ((Zbk p (lsP p):Nat):Int) ((Zbl p (lsP p):Nat):Int) ((ZO p (lsP p):Nat):Int) (lsP p) ((10^(atL p-1):Nat):Int) (Zab p (lsP p)) g1;rw[Xg,Xg,(fin true c3).1,(fin true c3).2] at hg;refine (Zb (s0:=sc) ZdO hg (ZnK h (by omega) (by omega) c3 Zhk)).mono fun e z he=> ?_;obtain⟨rfl,⟨g',z1⟩,z2⟩:=he;exact⟨rfl,⟨by omega,p1⟩,g',z1,z2⟩
  | false=>
   have hg:=Z5b (sgn p) (cl p) (xp p) (sg p) ((Zbk p (lsP p):Nat):Int) ((Zbl p (lsP p):Nat):Int) ((ZO p (lsP p):Nat):Int) (lsP p) ((10^(atL p-1):Nat):Int) (Zab p (lsP p)) g1;rw[Xg,Xg,(fin false c3).1,(fin false c3).2] at hg;refine (Zb (s0:=sc) ZdO hg (ZnK h (by omega) (by omega) c3 Zhk)).mono fun e z he=> ?_;obtain⟨rfl,⟨g',z1⟩,z2⟩:=he;exact⟨rfl,⟨by omega,p1⟩,g',z1,z2⟩
 refine Runs.seq mid ?_ (fun e y he=>by cases he.1);rintro⟨t,hh,sc2⟩ ⟨_,hs2⟩;refine Runs.seq (P1:=fun e y=>match e with | none=>Zw1 p (nP p) y | some none=>False | some (some _)=>False) (Runs.forLoop (R:=fun _=>False) (P:=Zw1 p (nP p)) (fun r y=>∃ n,r=nP p-n∧Zw1 p n y) (Z5g h) (n:=nP p-1) ⟨1,rfl,hs2⟩) ?_ (fun e y he=>by match e,he with | none,he=>exact he.elim | some _,he=>exact he.elim);rintro⟨t3,hh3,sc3⟩ ⟨_,g3,e1,e2⟩;simp only at e1 e2;subst e1 e2;have sv:=Z0w h;have bd:=ZnJ h p1 p17;have t19:=Zct h;have t17:10^17≤10^(atL p-1):=Nat.pow_le_pow_right (by omega) (by omega);have e17:(10:Nat)^17=100000000000000000:=rfl;have hN:=Z5e h (nrV p (nP p));have bds:∀ x,x=Zb4 p (nP p)∨x=Zbm p (nP p)→(100:Int)≤((x:Nat):Int)∧((x:Nat):Int)<18446744073709551616∧ -100000≤lsP p∧lsP p≤100000:=fun x hx=>by
  rcases hx with rfl | rfl<;>omega
 have isN:nrV p (nP p)=Zb4 p (nP p)∨nrV p (nP p)=Zbm p (nP p):=by rcases ZnI p (nP p) with ⟨c,_⟩ | ⟨c,_⟩<;>simp [c]
 have isF:frV p (nP p)=Zb4 p (nP p)∨frV p (nP p)=Zbm p (nP p):=by rcases ZnI p (nP p) with ⟨_,c,_⟩ | ⟨_,c,_⟩<;>simp [c]
 cases c1:ZgA p (lsP p) (nrV p (nP p)) with
 | true=>
  have ex:shV p=nrV p (nP p):=by
   rw[sv];rcases ZnI p (nP p) with ⟨c,_,d⟩ | ⟨c,_,d⟩
   ·rw[d,if_pos rfl,← c,if_pos c1]
   ·rw[d,if_neg (by decide),← c,if_pos c1]
  refine (Zb (s0:=sc3) ZdO (Z5c (sgn p) (cl p) (xp p) (sg p) ((Zbk p (lsP p):Nat):Int) ((Zbl p (lsP p):Nat):Int) ((ZO p (lsP p):Nat):Int) (lsP p) ((10^(atL p-nP p):Nat):Int) ((nrV p (nP p):Nat):Int) ((frV p (nP p):Nat):Int) (Zab p (lsP p)) g3) (Za (Xa (bds _ isN)) (ZB (by rw[hN];exact c1)))).mono fun e z he=> ?_;obtain⟨rfl,⟨g',z1⟩,z2⟩:=he;refine⟨.inr rfl,?_⟩;rw[z1,z2];unfold sdD sdE;rw[ex];rfl
 | false=>
  have ex:shV p=frV p (nP p):=by
   rw[sv];rcases ZnI p (nP p) with ⟨c,c',d⟩ | ⟨c,c',d⟩
   ·rw[d,if_pos rfl,← c,if_neg (by rw[c1];decide),c']
   ·rw[d,if_neg (by decide),← c,if_neg (by rw[c1];decide),c']
  refine (Zb (s0:=sc3) ZdO (Z5d (sgn p) (cl p) (xp p) (sg p) ((Zbk p (lsP p):Nat):Int) ((Zbl p (lsP p):Nat):Int) ((ZO p (lsP p):Nat):Int) (lsP p) ((10^(atL p-nP p):Nat):Int) ((nrV p (nP p):Nat):Int) ((frV p (nP p):Nat):Int) (Zab p (lsP p)) g3) (Za (Xa (bds _ isF)) (ZB (by rw[hN];exact c1)))).mono fun e z he=> ?_;obtain⟨rfl,⟨g',z1⟩,z2⟩:=he;refine⟨.inr rfl,?_⟩;rw[z1,z2];unfold sdD sdE;rw[ex];rfl
end Go.Proofs.YtgefjidphfdhdaaGreatDoor
namespace Go.Proofs.YtgefjidphfdhdaaGreatDoor
open Go.KRun
set_option maxRecDepth 100000
set_option linter.unusedVariables false
def hxV (c:Int):Int:=if 48≤c∧c≤57 then c-48 else if 97≤c∧c≤102 then c-87 else 0
def Z6G (c:Int):Bool:=decide ((48≤c∧c≤57)∨(97≤c∧c≤102))
end Go.Proofs.YtgefjidphfdhdaaGreatDoor
namespace Go.Proofs.YtgefjidphfdhdaaGreatDoor
open Go.Proofs.Tryz
open Go.IntKind
open Go.KRun Go.Pt
set_option maxRecDepth 100000
set_option linter.unusedVariables false
def hxT:List UInt8:=[48,49,50,51,52,53,54,55,56,57,97,98,99,100,101,102]
def hSx (q:Int):Int:=q.fdiv (2^min (Int.toNat 4) 64)
def hC (q:Int):Int:=((hxT.getD (Zig q 15).toNat 0).toNat:Nat)
def hBx (q:Int):UInt8:=UInt8.ofNat (hC q).toNat
def hSn (p:Int):Nat→Int
 | 0=>p
 | n+1=>hSx (hSn p n)
def inX (q:Int):Bool:=decide (0≤Zig q 15∧(Zig q 15).toNat<hxT.length)
def hxW (p:Int):ByteArray:=⟨#[hBx (hSn p 15),hBx (hSn p 14),hBx (hSn p 13),hBx (hSn p 12),hBx (hSn p 11),hBx (hSn p 10),hBx (hSn p 9),hBx (hSn p 8),hBx (hSn p 7),hBx (hSn p 6),hBx (hSn p 5),hBx (hSn p 4),hBx (hSn p 3),hBx (hSn p 2),hBx (hSn p 1),hBx (hSn p 0)]⟩
def hxL (p:Int):Nat→Log
 | 0=>[]
 | n+1=>(false,false)::(inX (hSn p n),true)::hxL p n
theorem Zrs (p:Int):ZH (Zr (Zo prog Zg Zn true) 3000 43 [.int .u64 p] []) (.string (hxW p)) (hxL p 16):=by and_intros<;>kernel_rfl
def rPx (q:Int):List UInt8:=(hxT.drop (q.tmod 16).toNat).take ((u64.wrap (q.tmod 16+1)).toNat-(q.tmod 16).toNat)
theorem ZnL (q:Int):q % 16=0∨q % 16=1∨q % 16=2∨q % 16=3∨q % 16=4∨q % 16=5∨q % 16=6∨q % 16=7∨q % 16=8∨q % 16=9∨q % 16=10∨q % 16=11∨q % 16=12∨q % 16=13∨q % 16=14∨q % 16=15:=by omega
theorem Z1f {q:Int}(h:0≤q):q.tmod 16=q % 16:=Int.tmod_eq_emod_of_nonneg h
theorem Z5h {q:Int}(h:0≤q):hSx q=q/16:=by
 have e:((2:Int)^min (Int.toNat 4) 64)=16:=rfl;unfold hSx;rw[e,Int.fdiv_eq_ediv_of_nonneg _ (by omega)]
theorem Z5i {q:Int}(h:U q):U (q/16):=by
 have h0:=h.1;have h1:=h.2;exact⟨by omega,by omega⟩
theorem Zw2 {p:Int}(h:U p):∀ n,U (hSn p n)
 | 0=>h
 | n+1=>by
  show U (hSx (hSn p n));rw[Z5h (Zw2 h n).1];exact Z5i (Zw2 h n)
theorem Z5j {q:Int}(h:U q):inX q=true∧rPx q=[hBx q]∧hxV (((hBx q).toNat:Nat):Int)=q % 16∧Z6G (((hBx q).toNat:Nat):Int)=true∧decide (0≤q.tmod 16∧q.tmod 16≤u64.wrap (q.tmod 16+1)∧u64.wrap (q.tmod 16+1)≤(hxT.length:Int))=true:=by
 unfold inX rPx hBx hC;rw[Z1f h.1,Zqm h];rcases ZnL q with e | e | e | e | e | e | e | e | e | e | e | e | e | e | e | e<;>rw[e]<;>exact⟨by rfl,by rfl,by rfl,by rfl,by rfl⟩
theorem ZsT {p:Int}(h:U p):∀ n,Zu (hxL p n)
 | 0=>fun x hx=>by cases hx
 | n+1=>Za rfl (Za (Z5j (Zw2 h n)).1 (ZsT h n))
theorem ZnM (p:Int) (hp:U p) (w:World):Calls prog 43 #[.int .u64 p] w fun e w'=>e= .returned (.string (hxW p))∧zH w w':=
 Zf (Zl Ze) (Zrs p) (ZsT hp 16) (by rfl) (by rfl) w
end Go.Proofs.YtgefjidphfdhdaaGreatDoor
namespace Go.Proofs.YtgefjidphfdhdaaGreatDoor
open Go.Proofs.Tryz
open Go.IntKind
open Go.KRun Go.Nt
set_option maxRecDepth 100000
def Zdp:Hc:=zx 68 ZfQ hcN
theorem Zw3:HcOk Zdp:=Zt func68 rfl Zd6 zw
theorem ZcY:TabOk (Zm prog Zg Zn Zdp):=Zp Ze Zw3
def eC (F:Func):Nat→Code
 | 0=>Zq F
 | n+1=>Zz (eC F n)
def eP (F:Func):List Code:=[Z1 (eC F 0),Z1 (eC F 1),Z1 (eC F 2)]
def eL (F:Func):Code:=cIn (cIn (Z1 (eC F 3)))
def eE (F:Func):Code:=eC F 4
def eA (F:Func):Code:=Z1 (eL F)
def eB (F:Func):Code:=cIn (Zz (eL F))
def eQ (F:Func):List Code:=[Z1 (eB F),Z1 (Zz (eB F)),Z1 (Zz (Zz (eB F)))]
def eB3 (F:Func):Code:=Zz (Zz (Zz (eB F)))
def e8 (F:Func):Code:=Z1 (Z1 (eB3 F))
def eI (F:Func):Code:=cIn (cIn (Zz (Z1 (eB3 F))))
def eZ (F:Func):Code:=Zz (eB3 F)
theorem Zw4:f32.body=some (zo (eP f32) (.seq (.block 0 (.loop (.seq (eA f32) (.block 1 (zo (eQ f32) (.seq (.seq (e8 f32) (.block 2 (.loop (eI f32)))) (eZ f32))))))) (eE f32))):=by kernel_rfl
theorem Zrt:f32.body=some (Zq f32):=by kernel_rfl
def hQd (X:List (List Value×TypeId)) (Q:List Value):Hp:=⟨X.length+1,(Q,tU)::X⟩
def eF (a s q r i:Value):List Value:=[a,undef,bS [],s,q,r,i]
theorem Zru (p:Option Addr) (n c:Nat) (h:Hp):Zh (evC (Zm prog Zg Zn Zdp) 100 false (Zq f32) ([.slice p n c]++List.replicate 45 undef,h,[cmp true]) ⟨[],[],[]⟩) 3 43 (some none) [.slice p n c,undef,bS [48]] h [((n:Int)==0,true)]:=by and_intros<;>kernel_rfl
theorem Z1g (n c o:Nat) (h:Hp):Zh (evL (Zm prog Zg Zn Zdp) 100 (eP f32) ([sl 0 o n c]++List.replicate 45 undef,h,[cmp false]) ⟨[],[],[]⟩) 7 39 none (eF (sl 0 o n c) (bS []) undef undef undef) h [((n:Int)==0,false)]:=by and_intros<;>kernel_rfl
theorem Z5k (b o n c:Nat) (d:Bool) (s q r i:Value) (h:Hp) (g:Nat→Value):Zh (evC (Zm prog Zg Zn Zdp) 100 false (eA f32) (eF (sl b o n c) s q r i++tl 39 g,h,[cmp d]) ⟨[],[],[]⟩) 7 39 (match d with | true=>none | false=>some (some 0)) (eF (sl b o n c) s q r i) h [(decide ((n:Int)>0),d)]:=by
 cases d<;>exact by and_intros<;>kernel_rfl
theorem Z5l (o n c:Nat) (s q r i:Value) (l:List Value) (t:TypeId) (g:Nat→Value):Zh (evL (Zm prog Zg Zn Zdp) 100 (eQ f32) (eF (sl 0 o n c) s q r i++tl 39 g,⟨1,[(l,t)]⟩,[at_]) ⟨[],[],[]⟩) 7 39 none (eF (sl 0 o n c) s (.slice (some ⟨1,0,none⟩) n grown) (uu 0) i) (hQd [(l,t)] ((l.drop o).take n)) [(ZcG (l,t) o n,true)]:=by and_intros<;>kernel_rfl
theorem Z5m (n c:Nat) (s q r i:Value) (A:List Value) (x:List Value×TypeId) (g:Nat→Value):Zh (evL (Zm prog Zg Zn Zdp) 100 (eQ f32) (eF (sl 1 0 n c) s q r i++tl 39 g,⟨2,[(A,tU),x]⟩,[at_]) ⟨[],[],[]⟩) 7 39 none (eF (sl 1 0 n c) s (.slice (some ⟨2,0,none⟩) n grown) (uu 0) i) (hQd [(A,tU),x] ((A.drop 0).take n)) [(ZcG (A,tU) 0 n,true)]:=by and_intros<;>kernel_rfl
theorem Z6H (a s r i:Value) (b n:Nat) (h:Hp) (g:Nat→Value):Zh (evC (Zm prog Zg Zn Zdp) 100 false (e8 f32) (eF a s (.slice (some ⟨b,0,none⟩) n grown) r i++tl 39 g,h,[]) ⟨[],[],[]⟩) 7 39 none (eF a s (.slice (some ⟨b,0,none⟩) n grown) r (.int .i64 (i64.wrap ((n:Int)-1)))) h []:=by and_intros<;>kernel_rfl
theorem Z6I (a s r:Value) (b n:Nat) (i:Int) (h:Hp) (g:Nat→Value):Zh (evC (Zm prog Zg Zn Zdp) 100 false (eI f32) (eF a s (.slice (some ⟨b,0,none⟩) n grown) r (.int .i64 i)++tl 39 g,h,[cmp false]) ⟨[],[],[]⟩) 7 39 (some (some 2)) (eF a s (.slice (some ⟨b,0,none⟩) n grown) r (.int .i64 i)) h [(decide (i≥0),false)]:=by and_intros<;>kernel_rfl
def Z2y (r x:Int):Int:=u32.wrap (u32.wrap (65536*r)+x)
def Zox (r x:Int):Int:=u32.wrap ((Z2y r x).tdiv 10)
def Zw5 (r x:Int):Int:=(Z2y r x).tmod 10
theorem Z5n (a s:Value) (n:Nat) (r i x:Int) (x1:List Value×TypeId) (Q:List Value) (g:Nat→Value):Zh (evC (Zm prog Zg Zn Zdp) 100 false (eI f32) (eF a s (.slice (some ⟨1,0,none⟩) n grown) (uu r) (.int .i64 i)++tl 39 g,hQd [x1] Q,[cmp true,at_,val (uu x),at_,at_]) ⟨[],[],[]⟩) 7 39 none (eF a s (.slice (some ⟨1,0,none⟩) n grown) (uu (Zw5 r x)) (.int .i64 (i64.wrap (i-1)))) (hQd [x1] (Q.set (0+i.toNat*1) (uu (Zox r x)))) [(decide (0+i.toNat*1<Q.length),true),inR i n,ZbG Q 0 i x,inR i n,(decide (i≥0),true)]:=by and_intros<;>kernel_rfl
theorem Z5o (a s:Value) (n:Nat) (r i x:Int) (x1 x2:List Value×TypeId) (Q:List Value) (g:Nat→Value):Zh (evC (Zm prog Zg Zn Zdp) 100 false (eI f32) (eF a s (.slice (some ⟨2,0,none⟩) n grown) (uu r) (.int .i64 i)++tl 39 g,hQd [x1,x2] Q,[cmp true,at_,val (uu x),at_,at_]) ⟨[],[],[]⟩) 7 39 none (eF a s (.slice (some ⟨2,0,none⟩) n grown) (uu (Zw5 r x)) (.int .i64 (i64.wrap (i-1)))) (hQd [x1,x2] (Q.set (0+i.toNat*1) (uu (Zox r x)))) [(decide (0+i.toNat*1<Q.length),true),inR i n,ZbG Q 0 i x,inR i n,(decide (i≥0),true)]:=by and_intros<;>kernel_rfl
theorem Z5p {X:List (List Value×TypeId)}(hX:X.length=1∨X.length=2) (a s:Value) (n:Nat) (r i x:Int) (Q:List Value) (g:Nat→Value):Zh (evC (Zm prog Zg Zn Zdp) 100 false (eI f32) (eF a s (.slice (some ⟨X.length,0,none⟩) n grown) (uu r) (.int .i64 i)++tl 39 g,hQd X Q,[cmp true,at_,val (uu x),at_,at_]) ⟨[],[],[]⟩) 7 39 none (eF a s (.slice (some ⟨X.length,0,none⟩) n grown) (uu (Zw5 r x)) (.int .i64 (i64.wrap (i-1)))) (hQd X (Q.set (0+i.toNat*1) (uu (Zox r x)))) [(decide (0+i.toNat*1<Q.length),true),inR i n,ZbG Q 0 i x,inR i n,(decide (i≥0),true)]:=by
 match X,hX with
 | [x1],_=>exact Z5n a s n r i x x1 Q g
 | [x1,x2],_=>exact Z5o a s n r i x x1 x2 Q g
def Zoy:List UInt8:=[48,49,50,51,52,53,54,55,56,57]
def Z1h (r:Int) (l:List UInt8):List UInt8:=(Zoy.drop r.toNat).take ((u32.wrap (r+1)).toNat-r.toNat)++l
theorem Z5q (a i:Value) (l:List UInt8) (n:Nat) (r:Int) (x1:List Value×TypeId) (Q:List Value) (g:Nat→Value):Zh (evC (Zm prog Zg Zn Zdp) 100 false (eZ f32) (eF a (bS l) (.slice (some ⟨1,0,none⟩) n grown) (uu r) i++tl 39 g,hQd [x1] Q,[sam true,sam true]) ⟨[],[],[]⟩) 7 39 none (eF (sl 1 0 (Zc (Zx Q 0 n)) (Zc (Zx Q 0 n))) (bS (Z1h r l)) (.slice (some ⟨1,0,none⟩) n grown) (uu r) i) (hQd [x1] Q) [(ZaB tU Q 0 n grown,true),(decide (((Zoy.drop r.toNat).take ((u32.wrap (r+1)).toNat-r.toNat)).length+l.length≤9223372036854775807),true),(decide (0≤r∧r≤u32.wrap (r+1)∧u32.wrap (r+1)≤((Zoy.length:Nat):Int)),true)]:=by and_intros<;>kernel_rfl
theorem Z5r (a i:Value) (l:List UInt8) (n:Nat) (r:Int) (x1 x2:List Value×TypeId) (Q:List Value) (g:Nat→Value):Zh (evC (Zm prog Zg Zn Zdp) 100 false (eZ f32) (eF a (bS l) (.slice (some ⟨2,0,none⟩) n grown) (uu r) i++tl 39 g,hQd [x1,x2] Q,[sam true,sam true]) ⟨[],[],[]⟩) 7 39 none (eF (sl 2 0 (Zc (Zx Q 0 n)) (Zc (Zx Q 0 n))) (bS (Z1h r l)) (.slice (some ⟨2,0,none⟩) n grown) (uu r) i) (hQd [x1,x2] Q) [(ZaB tU Q 0 n grown,true),(decide (((Zoy.drop r.toNat).take ((u32.wrap (r+1)).toNat-r.toNat)).length+l.length≤9223372036854775807),true),(decide (0≤r∧r≤u32.wrap (r+1)∧u32.wrap (r+1)≤((Zoy.length:Nat):Int)),true)]:=by and_intros<;>kernel_rfl
theorem Z1i (a s q r i:Value) (h:Hp) (g:Nat→Value):Zh (evC (Zm prog Zg Zn Zdp) 100 false (eE f32) (eF a s q r i++tl 39 g,h,[]) ⟨[],[],[]⟩) 3 43 (some none) [a,undef,s] h []:=by and_intros<;>kernel_rfl
theorem Z1j {r x:Int}(hr:0≤r∧r<10) (hx:0≤x∧x<65536):Zox r x=(65536*r+x)/10∧Zw5 r x=(65536*r+x) % 10∧0≤Zox r x∧Zox r x<65536:=by
 have eT:Z2y r x=65536*r+x:=by
  unfold Z2y;simp [IntKind.wrap,IntKind.bits,IntKind.signed];omega
 have q2:Zox r x=(65536*r+x)/10:=by
  unfold Zox;rw[eT,Int.tdiv_eq_ediv_of_nonneg (by omega)];simp [IntKind.wrap,IntKind.bits,IntKind.signed];omega
 have q3:Zw5 r x=(65536*r+x) % 10:=by
  unfold Zw5;rw[eT,Int.tmod_eq_emod_of_nonneg (by omega)]
 rw[q2,q3];exact⟨rfl,rfl,by omega,by omega⟩
def a8 (x:Int):UInt8:=UInt8.ofNat (asc x).toNat
theorem Zw6:∀ k:Fin 10,(Zoy.drop k.val).take 1=[UInt8.ofNat (48+k.val)]:=by decide
theorem Zw7 {r:Int}(hr:0≤r∧r<10) (l:List UInt8):Z1h r l=a8 r::l∧((Zoy.drop r.toNat).take ((u32.wrap (r+1)).toNat-r.toNat)).length=1∧u32.wrap (r+1)=r+1:=by
 have ew:u32.wrap (r+1)=r+1:=by
  simp [IntKind.wrap,IntKind.bits,IntKind.signed];omega
 have e1:(u32.wrap (r+1)).toNat-r.toNat=1:=by rw[ew];omega
 have h:=Zw6 ⟨r.toNat,by omega⟩;simp only at h;unfold Z1h;rw[e1,h];refine⟨?_,rfl,ew⟩;unfold a8 asc;rw[show (48+r).toNat=48+r.toNat by omega];rfl
theorem Z6J {L:List Int}(h:∀ x∈L,Dg 65536 x):∀ x∈L,0≤x∧x<4294967296:=fun x hx=>⟨(h x hx).1,by have:=(h x hx).2;omega⟩
theorem Z1k {X:List (List Value×TypeId)}(hX:X.length=1∨X.length=2) (a:Value) (l:List UInt8) (i:Value) {L:List Int}(hL:∀ x∈L,Dg 65536 x) (hN:L.length<1073741824) (hl:l.length<9223372036854775000) (g:Nat→Value) (sc:List Dec):
  RunsW (Zm prog Zg Zn Zdp) (.seq (.seq (e8 f32) (.block 2 (.loop (eI f32)))) (eZ f32)) (eF a (bS l) (.slice (some ⟨X.length,0,none⟩) L.length grown) (uu 0) i++tl 39 g,hQd X (wU L),sc) fun e z=>e=none∧∃ Q:List Int,Q.length=L.length∧(∀ x∈Q,Dg 65536 x)∧vb 65536 Q=vb 65536 L/10∧z.2.1=hQd X (wU Q)∧∃ (j:Int) (g:Nat→Value),z.1=eF (sl X.length 0 (Zc Q) (Zc Q)) (bS (a8 ((vb 65536 L % 10:Nat):Int)::l)) (.slice (some ⟨X.length,0,none⟩) L.length grown) (uu ((vb 65536 L % 10:Nat):Int)) (.int .i64 j)++tl 39 g:=by
 refine RunsW.seq (P1:=fun e z=>e=none∧∃ Q:List Int,Q.length=L.length∧(∀ x∈Q,Dg 65536 x)∧vb 65536 Q=vb 65536 L/10∧z.2.1=hQd X (wU Q)∧∃ (j:Int) (g:Nat→Value),z.1=eF a (bS l) (.slice (some ⟨X.length,0,none⟩) L.length grown) (uu ((vb 65536 L % 10:Nat):Int)) (.int .i64 j)++tl 39 g) ?_ ?_ (fun e y he=>by cases he.1)
 ·refine RunsW.seq (Zd (s0:=sc) ZcY (Z6H a (bS l) (uu 0) i X.length L.length _ g) Zsw) ?_ (fun e y he=>by cases he.1);rintro⟨t,hh,s⟩ ⟨_,⟨g',e1⟩,e2⟩;have ew:i64.wrap ((L.length:Int)-1)=(L.length:Int)-1:=Zw (by omega) (by omega);rw[ew] at e1;refine (RunsW.forLoop (R:=fun _=>False) (P:=fun z=>∃ Q:List Int,Q.length=L.length∧(∀ x∈Q,Dg 65536 x)∧vb 65536 Q=vb 65536 L/10∧z.2.1=hQd X (wU Q)∧∃ (j:Int) (g:Nat→Value),z.1=eF a (bS l) (.slice (some ⟨X.length,0,none⟩) L.length grown) (uu ((vb 65536 L % 10:Nat):Int)) (.int .i64 j)++tl 39 g)
   (fun m y=>∃ (A Q H:List Int) (r:Nat) (g:Nat→Value),y.1=eF a (bS l) (.slice (some ⟨X.length,0,none⟩) L.length grown) (uu (r:Nat)) (.int .i64 ((A.length:Int)-1))++tl 39 g∧y.2.1=hQd X (wU (A++Q))∧L=A++H∧H.length=Q.length∧(∀ x∈Q,Dg 65536 x)∧r<10∧vb 65536 H=vb 65536 Q*10+r∧m=A.length)
   ?_ (n:=L.length) ⟨L,[],[],0,g',e1,by rw[List.append_nil];exact e2,by simp,rfl,(fun x hx=>by cases hx),by omega,rfl,rfl⟩).mono fun e z hz=> ?_
  ·rintro m ⟨t,h',s'⟩ ⟨A,Q,H,r,g,ht,hh,hLA,hHQ,wQ,hr,hv,hm⟩;simp only at ht hh;subst ht hh;rcases List.eq_nil_or_concat A with rfl | ⟨A',x,rfl⟩
   ·refine (Zd (s0:=s') ZcY (Z6I a (bS l) _ X.length L.length _ _ g) (ZB (Xb (by simp)))).mono fun e z he=> ?_;obtain⟨rfl,⟨g',z1⟩,z2⟩:=he;have eH:L=H:=by simpa using hLA
    rw[← eH] at hv hHQ;refine⟨rfl,Q,hHQ.symm,wQ,by omega,z2,((([]:List Int).length:Nat):Int)-1,g',?_⟩;rw[show vb 65536 L % 10=r by omega];exact z1
   ·rw[List.concat_eq_append] at*;have hlen:L.length=A'.length+1+H.length:=by rw[hLA];simp;omega
    have hx:=hL x (by rw[hLA];simp);have hx':0≤x∧x<65536:=⟨hx.1,by have:=hx.2;omega⟩;obtain⟨n1,n2,n3,n4⟩:=Z1j (r:=((r:Nat):Int)) ⟨by omega,by omega⟩ hx';have ei:(((A'++[x]).length:Nat):Int)-1=(A'.length:Nat):=by simp
    have eS:wU (A'++[x]++Q)=wU (A'++x::Q):=by simp
    have cS:(wU (A'++x::Q))[0+A'.length]? =some (uu x):=by
     rw[Nat.zero_add];exact ZkC A' x Q
    have l1:decide (0+((A'.length:Nat):Int).toNat*1<(wU (A'++x::Q)).length)=true:=Xa (by unfold wU;simp);have l2:(inR (A'.length:Nat) L.length).1=(inR (A'.length:Nat) L.length).2:=Xa (by omega);have l3:(ZbG (wU (A'++x::Q)) 0 (A'.length:Nat) x).1=(ZbG (wU (A'++x::Q)) 0 (A'.length:Nat) x).2:=Zae cS;rw[ei,eS];refine (Zd (s0:=s') ZcY (Z5p hX a (bS l) L.length (r:Nat) (A'.length:Nat) x (wU (A'++x::Q)) g) (Za l1 (Za l2 (Za l3 (Za l2 (ZB (Xa (by omega)))))))).mono fun e z he=> ?_;obtain⟨rfl,⟨g',z1⟩,z2⟩:=he;obtain⟨r',hr'⟩:=Int.eq_ofNat_of_zero_le (show 0≤Zw5 (r:Nat) x by rw[n2];omega);rw[hr'] at z1 n2;refine⟨A'.length,by rw[hm];simp,A',Zox (r:Nat) x::Q,x::H,r',g',?_,?_,by rw[hLA];simp,by simp [hHQ],?_,by omega,?_,rfl⟩
    ·rw[z1,Zw (by omega) (by omega)]
    ·rw[z2,Xg,Nat.mul_one,Nat.zero_add,ZfJ];simp
    ·intro y hy;rcases List.mem_cons.1 hy with rfl | hy
     ·exact⟨n3,by omega⟩
     ·exact wQ y hy
    ·show x.toNat+65536*vb 65536 H=((Zox (r:Nat) x).toNat+65536*vb 65536 Q)*10+r';rw[hv];omega
  ·match e,hz with
   | none,hz=>exact⟨rfl,hz⟩
 ·rintro⟨t,hh,s⟩ ⟨_,Q,q1,q2,q3,q4,j,g',q5⟩;simp only at q4 q5;subst q4 q5;obtain⟨c1,c2,c3⟩:=Zw7 (r:=((vb 65536 L % 10:Nat):Int)) ⟨by omega,by omega⟩ l;have ec:Zx (wU Q) 0 L.length=Q:=by rw[Zhg,← q1,List.take_length]
  have lc:ZaB tU (wU Q) 0 L.length grown=true:=by
   rw[← q1];exact Zah (Z6J q2) (by omega) (by rfl)
  have hG:Zh (evC (Zm prog Zg Zn Zdp) 100 false (eZ f32) (eF a (bS l) (.slice (some ⟨X.length,0,none⟩) L.length grown) (uu ((vb 65536 L % 10:Nat):Int)) (.int .i64 j)++tl 39 g',hQd X (wU Q),[sam true,sam true]) ⟨[],[],[]⟩) 7 39 none (eF (sl X.length 0 (Zc (Zx (wU Q) 0 L.length)) (Zc (Zx (wU Q) 0 L.length))) (bS (Z1h ((vb 65536 L % 10:Nat):Int) l)) (.slice (some ⟨X.length,0,none⟩) L.length grown) (uu ((vb 65536 L % 10:Nat):Int)) (.int .i64 j)) (hQd X (wU Q)) [(ZaB tU (wU Q) 0 L.length grown,true),(decide (((Zoy.drop (((vb 65536 L % 10:Nat):Int)).toNat).take ((u32.wrap (((vb 65536 L % 10:Nat):Int)+1)).toNat-(((vb 65536 L % 10:Nat):Int)).toNat)).length+l.length≤9223372036854775807),true),(decide (0≤((vb 65536 L % 10:Nat):Int)∧((vb 65536 L % 10:Nat):Int)≤u32.wrap (((vb 65536 L % 10:Nat):Int)+1)∧u32.wrap (((vb 65536 L % 10:Nat):Int)+1)≤((Zoy.length:Nat):Int)),true)]:=by
   match X,hX with
   | [x1],_=>exact Z5q a _ l L.length _ x1 (wU Q) g'
   | [x1,x2],_=>exact Z5r a _ l L.length _ x1 x2 (wU Q) g'
  rw[c1,ec] at hG;refine (Zd (s0:=s) ZcY hG (Za lc (Za (Xa (by rw[c2];omega)) (ZB (Xa ⟨by omega,by rw[c3];omega,by rw[c3,show Zoy.length=10 from rfl];omega⟩))))).mono fun e z he=> ?_;obtain⟨rfl,⟨g2,z1⟩,z2⟩:=he;exact⟨rfl,Q,q1,q2,q3,z2,j,g2,z1⟩
def rdI (V0 V:Nat) (l:List UInt8):Prop:=((db 10 V).reverse.map a8)++l=zD V0
theorem ZiG {V0 V:Nat}{l:List UInt8}(hV:0<V) (h:rdI V0 V l):rdI V0 (V/10) (a8 ((V % 10:Nat):Int)::l):=by
 unfold rdI at*;rw[Zbd (by omega) (by omega),List.reverse_cons,List.map_append,List.append_assoc] at h;exact h
theorem Zw8 {V0 V:Nat}{l:List UInt8}(h:rdI V0 V l):l.length≤(zD V0).length:=by
 unfold rdI at h;rw[← h,List.length_append];omega
theorem Zrv {V n:Nat}(h:V<65536^n) (hn:0<n):(zD V).length≤5*n:=by
 unfold zD Zs1;by_cases h0:V=0
 ·rw[if_pos h0];simp;omega
 ·rw[if_neg h0,List.length_map,List.length_reverse];refine Zci (by omega) _ V (Nat.lt_of_lt_of_le h ?_);rw[Nat.pow_mul];exact Nat.pow_le_pow_left (by decide) n
def rdO (V0:Nat) (z:Lf):Prop:=∃ (a q r i:Value) (g:Nat→Value),z.1=eF a (bS (zD V0)) q r i++tl 39 g
def Zx9 (la:List Value) (V0:Nat) (m:Nat) (z:Lf):Prop:=∃ (Q:List Int) (l:List UInt8) (k j:Nat) (r i:Int) (g:Nat→Value),z.1=eF (sl 1 0 (Zc Q) (Zc Q)) (bS l) (.slice (some ⟨1,0,none⟩) k grown) (uu r) (.int .i64 i)++tl 39 g∧z.2.1=⟨2,[(wU Q,tU),(la,tR)]⟩∧(∀ x∈Q,Dg 65536 x)∧Q.length<1073741824∧rdI V0 (vb 65536 Q) l∧m=vb 65536 Q∧j=0
theorem ZnN {L:List Int}{n:Nat}(h0:0<n) (hn:n≤L.length) (hb:n<1073741824):ZcG (wU L,tU) 0 n=true:=by
 unfold ZcG;rw[show zE tU=false from by kernel_rfl,Nat.ble_eq_true_of_le (show 0+n≤(wU L).length by unfold wU;simp;omega),Zk.2 h0,Nat.ble_eq_true_of_le (by omega)];have:(((wU L).drop 0).take n).all one=true:=by
  rw[List.drop_zero,List.all_eq_true];exact fun v hv=>List.all_eq_true.1 (ZfR L) v (List.mem_of_mem_take hv)
 rw[this];rfl
theorem Zrw {la:List Value}(hla:la.all still=true) {V0:Nat}(hV0:(zD V0).length<9223372036854775000) (m:Nat) (z:Lf) (h:Zx9 la V0 m z):
  RunsW (Zm prog Zg Zn Zdp) (.seq (eA f32) (.block 1 (zo (eQ f32) (.seq (.seq (e8 f32) (.block 2 (.loop (eI f32)))) (eZ f32))))) z fun e y=>match e with | none=>∃ m',m'<m∧Zx9 la V0 m' y | some none=>False | some (some id')=>id'=0∧rdO V0 y:=by
 obtain⟨Q,l,k,j,r,i,g,ht,hh,hDQ,hQl,hI,hm,hj⟩:=h;obtain⟨t,h',sc⟩:=z;simp only at ht hh;subst ht hh;have htr:=Zam (b:=65536) (by omega) hDQ;have hle:=zm Q;have hpos:0<Zc Q↔0<vb 65536 Q:=by
  rw[htr,List.length_pos_iff,ne_eq,ZcM (by omega)];omega
 by_cases h0:0<Zc Q
 ·have hV:=hpos.1 h0;have hll:=Zw8 hI;refine RunsW.seq (P1:=fun e y=>e=none∧(∃ g,y.1=eF (sl 1 0 (Zc Q) (Zc Q)) (bS l) (.slice (some ⟨1,0,none⟩) k grown) (uu r) (.int .i64 i)++tl 39 g)∧y.2.1=⟨2,[(wU Q,tU),(la,tR)]⟩) (Zd (s0:=sc) ZcY (Z5k 1 0 (Zc Q) (Zc Q) true _ _ _ _ _ g) (ZB (Xa (by omega)))) ?_ (fun e y he=>by cases he.1);rintro⟨t,hh,s⟩ ⟨_,⟨g1,e1⟩,e2⟩;simp only at e1 e2;subst e1 e2;have hin:RunsW (Zm prog Zg Zn Zdp) (zo (eQ f32) (.seq (.seq (e8 f32) (.block 2 (.loop (eI f32)))) (eZ f32))) (eF (sl 1 0 (Zc Q) (Zc Q)) (bS l) (.slice (some ⟨1,0,none⟩) k grown) (uu r) (.int .i64 i)++tl 39 g1,⟨2,[(wU Q,tU),(la,tR)]⟩,s) fun e y=>e=none∧∃ Q':List Int,Q'.length=Zc Q∧(∀ x∈Q',Dg 65536 x)∧vb 65536 Q'=vb 65536 Q/10∧∃ (j:Int) (g:Nat→Value),y.1=eF (sl 2 0 (Zc Q') (Zc Q')) (bS (a8 ((vb 65536 Q % 10:Nat):Int)::l)) (.slice (some ⟨2,0,none⟩) (Zc Q) grown) (uu ((vb 65536 Q % 10:Nat):Int)) (.int .i64 j)++tl 39 g∧y.2.1=hQd [(wU Q,tU),(la,tR)] (wU Q'):=by
   refine ZA ZcY (Z5m (Zc Q) (Zc Q) (bS l) _ _ _ (wU Q) (la,tR) g1) (ZB (ZnN h0 hle (by omega))) fun g2=> ?_;have ecp:((wU Q).drop 0).take (Zc Q)=wU (db 65536 (vb 65536 Q)):=by
    rw[List.drop_zero,← za (by omega) Q hDQ];unfold wU;rw[List.map_take]
   rw[ecp];have hr:=Z1k (X:=[(wU Q,tU),(la,tR)]) (.inr rfl) (sl 1 0 (Zc Q) (Zc Q)) l (.int .i64 i) (L:=db 65536 (vb 65536 Q)) (ZiX (by omega) _) (by rw[← htr];omega) (by omega) g2 [];rw[ZbH (by omega),← htr] at hr;refine hr.mono fun e y he=> ?_;obtain⟨rfl,Q',p1,p2,p3,p4,j',g3,p5⟩:=he;exact⟨rfl,Q',p1,p2,p3,j',g3,p5,p4⟩
  have hblk:=RunsW.block (id:=1) (P:=fun e y=>e=none∧∃ Q':List Int,Q'.length=Zc Q∧(∀ x∈Q',Dg 65536 x)∧vb 65536 Q'=vb 65536 Q/10∧∃ (j:Int) (g:Nat→Value),y.1=eF (sl 2 0 (Zc Q') (Zc Q')) (bS (a8 ((vb 65536 Q % 10:Nat):Int)::l)) (.slice (some ⟨2,0,none⟩) (Zc Q) grown) (uu ((vb 65536 Q % 10:Nat):Int)) (.int .i64 j)++tl 39 g∧y.2.1=hQd [(wU Q,tU),(la,tR)] (wU Q')) hin (fun y he=>he) (fun y he=>by cases he.1) (fun y he=>by cases he.1) (fun id' y _ he=>by cases he.1);refine hblk.small (P':=fun e y=>match e with | none=>∃ m',m'<m∧Zx9 la V0 m' y | some none=>False | some (some id')=>id'=0∧rdO V0 y) fun e y he=> .inr ?_;obtain⟨rfl,Q',p1,p2,p3,j',g3,p5,p4⟩:=he;obtain⟨t,hh,s3⟩:=y;simp only at p4 p5;subst p4 p5;refine⟨eF (sl 2 0 (Zc Q') (Zc Q')) (bS (a8 ((vb 65536 Q % 10:Nat):Int)::l)) (.slice (some ⟨2,0,none⟩) (Zc Q) grown) (uu ((vb 65536 Q % 10:Nat):Int)) (.int .i64 j'),eF (sl 1 0 (Zc Q') (Zc Q')) (bS (a8 ((vb 65536 Q % 10:Nat):Int)::l)) (.slice (some ⟨1,0,none⟩) (Zc Q) grown) (uu ((vb 65536 Q % 10:Nat):Int)) (.int .i64 j'),tl 39 g3,_,⟨2,[(wU Q',tU),(la,tR)]⟩,s3,zA 1 2,rfl,by kernel_rfl,rfl,Nat.succ_pos 1,fun i x hx=> ?_,fun i j x y hi hj _ _ hij=> ?_,?_,fun g4=> ?_⟩
  ·have hi2:i<2:=Hp.blk_lt hx;have h01:i=0∨i=1:=by omega
   rcases h01 with rfl | rfl
   ·obtain rfl:=(Option.some.inj hx).symm;exact⟨List.all_eq_true.1 hla,(la,tR),[],rfl,rfl,(List.append_nil _).symm⟩
   ·obtain rfl:=(Option.some.inj hx).symm;exact⟨List.all_eq_true.1 (Za4 _),(wU Q',tU),[],rfl,rfl,(List.append_nil _).symm⟩
  ·have hi2:i<2:=Hp.blk_lt hi;have hj2:j<2:=Hp.blk_lt hj;have h01:i=0∨i=1:=by omega
   have h02:j=0∨j=1:=by omega
   rcases h01 with rfl | rfl<;>rcases h02 with rfl | rfl
   ·rfl
   ·exact absurd hij (by decide)
   ·exact absurd hij (by decide)
   ·rfl
  ·intro v hv;simp only[eF,List.mem_cons,List.not_mem_nil,or_false] at hv;rcases hv with rfl | rfl | rfl | rfl | rfl | rfl | rfl<;>rfl
  ·have hl39:(tl 39 g3).length=39:=by simp [tl]
   refine⟨vb 65536 Q',by rw[hm,p3];exact Nat.div_lt_self hV (by omega),Q',a8 ((vb 65536 Q % 10:Nat):Int)::l,Zc Q,0,((vb 65536 Q % 10:Nat):Int),j',g4,by rw[hl39],rfl,p2,by omega,?_,rfl,rfl⟩;rw[p3];exact ZiG hV hI
 ·have hz:vb 65536 Q=0:=by
   rcases Nat.eq_zero_or_pos (vb 65536 Q) with h1 | h1
   ·exact h1
   ·exact absurd (hpos.2 h1) h0
  refine RunsW.seq (P1:=fun e y=>e=some (some 0)∧rdO V0 y) ((Zd (s0:=sc) ZcY (Z5k 1 0 (Zc Q) (Zc Q) false _ _ _ _ _ g) (ZB (Xb (by omega)))).mono fun e y he=> ?_) (fun y he=>by cases he.1) (fun e y he=> ?_)
  ·obtain⟨rfl,⟨g',z1⟩,z2⟩:=he;unfold rdI at hI;rw[hz,zj] at hI;have:l=zD V0:=by simpa using hI
   rw[this] at z1;exact⟨rfl,_,_,_,_,g',z1⟩
  ·obtain⟨h1,h2⟩:=he;cases h1;exact⟨rfl,h2⟩
theorem ZnO {la:List Value}{o n c:Nat}{L:List Int}(hR:Row la o L) (hn:L.length=n) (hla:la.all still=true) (hD:∀ x∈L,Dg 65536 x) (h0:0<n) (hb:n<1073741824) (hV:0<vb 65536 L):
  RunsW (Zm prog Zg Zn Zdp) (zo (eP f32) (.seq (.block 0 (.loop (.seq (eA f32) (.block 1 (zo (eQ f32) (.seq (.seq (e8 f32) (.block 2 (.loop (eI f32)))) (eZ f32))))))) (eE f32))) ([sl 0 o n c]++List.replicate 45 undef,h1R la,[]) fun e z=>(e=none∨e=some none)∧zd prog f32 z.1 z.2.1=some (bS (zD (vb 65536 L))):=by
 have hV0:(zD (vb 65536 L)).length<9223372036854775000:=by
  have:=Zrv (V:=vb 65536 L) (n:=L.length) (ZcU (by omega) L hD) (by omega);omega
 have hI0:rdI (vb 65536 L) (vb 65536 L) []:=by
  unfold rdI zD Zs1;rw[if_neg (by omega),List.append_nil];rfl
 refine ZA ZcY (Z1g n c o _) (ZB (by simp;omega)) fun g=> ?_;refine RunsW.seq (P1:=fun e y=>e=none∧rdO (vb 65536 L) y) ?_ ?_ (fun e y he=>by cases he.1)
 ·
  refine (RunsW.forLoop (R:=fun _=>False) (P:=rdO (vb 65536 L)) (fun m z=>(m=vb 65536 L+1∧(∃ g,z.1=eF (sl 0 o n c) (bS []) undef undef undef++tl 39 g)∧z.2.1=h1R la)∨(m≤vb 65536 L∧Zx9 la (vb 65536 L) m z)) ?_ (n:=vb 65536 L+1) (.inl ⟨rfl,⟨g,rfl⟩,rfl⟩)).mono fun e z hz=> ?_
  ·rintro m z (⟨hm,⟨g,ht⟩,hh⟩ | ⟨hm,hS⟩)
   ·obtain⟨t,h',sc⟩:=z;simp only at ht hh;subst ht hh;refine RunsW.seq (P1:=fun e y=>e=none∧(∃ g,y.1=eF (sl 0 o n c) (bS []) undef undef undef++tl 39 g)∧y.2.1=h1R la) (Zd (s0:=sc) ZcY (Z5k 0 o n c true _ _ _ _ _ g) (ZB (Xa (by omega)))) ?_ (fun e y he=>by cases he.1);rintro⟨t,hh,s⟩ ⟨_,⟨g1,e1⟩,e2⟩;simp only at e1 e2;subst e1 e2;have lc:ZcG (la,tR) o n=true:=by
     have h1:=hR.cut;have h2:=hR.len;unfold Zbp at h1;rw[hn] at h1 h2;unfold ZcG;simp only;rw[show zE tR=false from by kernel_rfl,Nat.ble_eq_true_of_le h2,Zk.2 h0,h1,ZfR,Nat.ble_eq_true_of_le (by omega)];rfl
    have hin:RunsW (Zm prog Zg Zn Zdp) (zo (eQ f32) (.seq (.seq (e8 f32) (.block 2 (.loop (eI f32)))) (eZ f32))) (eF (sl 0 o n c) (bS []) undef undef undef++tl 39 g1,h1R la,s) fun e y=>e=none∧∃ m',m'<m∧(m'≤vb 65536 L∧Zx9 la (vb 65536 L) m' y):=by
     refine ZA ZcY (Z5l o n c (bS []) undef undef undef la tR g1) (ZB lc) fun g2=> ?_;have ecp:(la.drop o).take n=wU L:=by
      have h1:=hR.cut;unfold Zbp at h1;rw[hn] at h1;exact h1
     rw[ecp];have hr:=Z1k (X:=[(la,tR)]) (.inl rfl) (sl 0 o n c) [] undef hD (by omega) (by decide) g2 [];rw[hn] at hr;refine hr.mono fun e y he=> ?_;obtain⟨rfl,Q',p1,p2,p3,p4,j',g3,p5⟩:=he;refine⟨rfl,vb 65536 Q',by rw[hm,p3];have:=Nat.div_le_self (vb 65536 L) 10;omega,by rw[p3];exact Nat.div_le_self _ _,Q',_,n,0,_,j',g3,p5,p4,p2,by omega,?_,rfl,rfl⟩;rw[p3];exact ZiG hV hI0
    refine (RunsW.block (id:=1) (P:=fun e y=>e=none∧∃ m',m'<m∧(m'≤vb 65536 L∧Zx9 la (vb 65536 L) m' y)) hin (fun y he=>he) (fun y he=>by cases he.1) (fun y he=>by cases he.1) (fun id' y _ he=>by cases he.1)).mono fun e y he=> ?_;obtain⟨rfl,m',h1,h2⟩:=he;exact⟨m',h1,.inr h2⟩
   ·refine (Zrw hla hV0 m z hS).mono fun e y he=> ?_
    match e,he with
    | none,he=>
     obtain⟨m',h1,h2⟩:=he;exact⟨m',h1,.inr ⟨by omega,h2⟩⟩
    | some (some id'),he=>exact he
  ·match e,hz with
   | none,hz=>exact⟨rfl,hz⟩
 ·rintro⟨t,hh,s⟩ ⟨_,a,q,r,i,g',e1⟩;simp only at e1;subst e1;refine (Zd (s0:=s) ZcY (Z1i a _ q r i hh g') Zsw).mono fun e z he=> ?_;obtain⟨rfl,⟨g2,z1⟩,z2⟩:=he;refine⟨.inr rfl,?_⟩;rw[z1];rfl
def Z2z:Zag:=fun vals h s=>
 match vals,s with
 | [.slice p n c],.inr (.inr (.inr (.inr (.inr (.string b)))))::s'=>some (.string b,h,s',[(Zaa h p n c && ZeJ (Zj h p n) && Nat.blt n 1073741824,true),(decide (zD (vO h p n)=b.data.toList),true)])
 | _,_=>none
theorem ZnP:Z8 32 Z2z:=by
 intro vals h s v h' s' lg hg hl m B w E hv;unfold Z2z at hg;split at hg
 ·rename_i p n c b s2;cases hg;obtain⟨q,q0⟩:=Zew hl;obtain⟨l3,_⟩:=Zew q0;have l3:=Xc l3;have et:Value.string b=bS b.data.toList:=rfl;rw[et,← l3];simp only[Xh] at q;obtain⟨⟨q1,q2⟩,q3⟩:=q;have q2:=ZgP q2;have q3:=Zk.1 q3;have hlen:=zK q1;by_cases hn:n=0
  ·subst hn;have e0:Zj h p 0=[]:=List.length_eq_zero_iff.1 hlen;have ev:vO h p 0=0:=by unfold vO;rw[e0];rfl
   obtain⟨x,p',a,NA,eA,fA⟩:=ZbS 0 q1;have hr:Runs (Zm prog Zg Zn Zdp) (Zq f32) ([.slice p' 0 c]++List.replicate 45 undef,⟨1,[x]⟩,[]) fun e z=>(e=none∨e=some none)∧zd prog f32 z.1 z.2.1=some (bS (zD (vO h p 0))):=by
    refine (Zb ZcY (Zru p' 0 c _) (ZB rfl)).mono fun e z he=> ?_;obtain⟨rfl,⟨g,e2⟩,e3⟩:=he;refine⟨.inr rfl,?_⟩;rw[e2,e3,ev];rfl
   have:=ZI (T:=(Zm prog Zg Zn Zdp)) func32 Zrt (h0:=⟨1,[x]⟩) ⟨rfl,fun b z hz=>by obtain⟨_,rfl⟩:=ZzZ hz;exact⟨NA.ros.1,NA.lt0,NA.ros.2⟩⟩ (vals:=[.slice p' 0 c]) (fun v hv=>by rw[List.mem_singleton.1 hv];exact NA.lt (by show 0<1;omega)) (by rfl) hr.w E (s:=fun _=>a) (fun i z hz ht=>by obtain⟨_,rfl⟩:=ZzZ hz;exact fA ht);simp only[List.map_cons,List.map_nil] at this;rw[eA _ rfl] at this;exact this
  ·rcases ZQ q1 with ⟨rfl,rfl,rfl,e0⟩ | ⟨bk,o,x,rfl,hx,r1,_,e0⟩
   ·exact absurd rfl hn
   ·rw[e0] at q2 hlen;obtain⟨h1,h2,h3,h4,h5,h6,h7⟩:=zP r1;have ev:vO h (some ⟨bk,o,none⟩) n=vb 65536 (Zx x.1 o n):=by unfold vO;rw[e0]
    rw[ev];have hVp:0<vb 65536 (Zx x.1 o n):=by
     rcases Nat.eq_zero_or_pos (vb 65536 (Zx x.1 o n)) with hz | hz
     ·exfalso
      have:=ZhN (by omega) q2;rw[hz,zj] at this;rw[← this] at hlen;exact hn hlen.symm
     ·exact hz
    exact ZI (T:=(Zm prog Zg Zn Zdp)) func32 Zw4 (ZaU h7) (vals:=[sl 0 o n c]) (fun v hv=>by rw[List.mem_singleton.1 hv];rfl) (by rfl) (ZnO h1 h2 (List.all_eq_true.2 h7) q2.1 (by omega) q3 hVp) E (s:=fun _=>bk) (zX hx h5 h6 rfl)
 ·cases hg
def f4 (n:Int):List Int:=[u32.wrap (n.tmod 65536),u32.wrap ((u64.wrap (n.tdiv 65536)).tmod 65536),u32.wrap ((u64.wrap (n.tdiv 4294967296)).tmod 65536),u32.wrap (u64.wrap (n.tdiv 281474976710656))]
theorem Zrx:f34.body=some (Zq f34):=by kernel_rfl
theorem Z1l (n:Int):Zh (evC (Zm prog Zg Zn hcV) 100 false (Zq f34) ([.int .u64 n]++List.replicate 18 undef,⟨0,[]⟩,[cmp true,cmp true,cmp true]) ⟨[],[],[]⟩) 3 16 (some none) [.int .u64 n,undef,sl 0 0 (Zc (Zx (wU (f4 n)) 0 4)) (Zc (Zx (wU (f4 n)) 0 4))] ⟨1,[(wU (f4 n),tU)]⟩ [(ZaB tU (wU (f4 n)) 0 4 4,true),(decide ((65536:Int)=0),false),(decide ((65536:Int)=0),false),(decide ((65536:Int)=0),false)]:=by and_intros<;>kernel_rfl
theorem ZnQ {n:Int}(h0:0≤n) (h1:n<18446744073709551616):u64.wrap n=n:=by simp [IntKind.wrap,IntKind.bits,IntKind.signed];omega
theorem Z1m {n:Int}(h0:0≤n) (h1:n<18446744073709551616):f4 n=[n % 65536,n/65536 % 65536,n/4294967296 % 65536,n/281474976710656]:=by
 unfold f4;rw[Int.tmod_eq_emod_of_nonneg h0,Int.tdiv_eq_ediv_of_nonneg h0,Int.tdiv_eq_ediv_of_nonneg h0,Int.tdiv_eq_ediv_of_nonneg h0,ZnQ (n:=n/65536) (by omega) (by omega),ZnQ (n:=n/4294967296) (by omega) (by omega),ZnQ (n:=n/281474976710656) (by omega) (by omega),Int.tmod_eq_emod_of_nonneg (by omega),Int.tmod_eq_emod_of_nonneg (by omega),zT (n:=n % 65536) (by omega) (by omega),zT (n:=n/65536 % 65536) (by omega) (by omega),zT (n:=n/4294967296 % 65536) (by omega) (by omega),zT (by omega) (by omega)]
theorem Z5s {n:Int}(h0:0≤n) (h1:n<18446744073709551616):∀ x∈f4 n,Dg 65536 x:=by
 rw[Z1m h0 h1];intro x hx;simp only[List.mem_cons,List.not_mem_nil,or_false] at hx;rcases hx with rfl | rfl | rfl | rfl<;>exact⟨by omega,by omega⟩
theorem Z1n {n:Int}(h0:0≤n) (h1:n<18446744073709551616):vb 65536 (f4 n)=n.toNat:=by
 rw[Z1m h0 h1];simp only[vb];omega
def Z1o:Zag:=fun vals h s=>
 match vals with
 | [.int .u64 n]=>ZcV n.toNat h s [(decide (0≤n∧n<18446744073709551616),true)]
 | _=>none
theorem Zhy:Z8 34 Z1o:=by
 intro vals h s v h' s' lg hg hl m B w E hv;unfold Z1o at hg;split at hg
 ·rename_i n;unfold ZcV at hg;cases hg;have q:=Xc (hl _ Xf);have hd:=Z5s q.1 q.2;have hv4:=Z1n q.1 q.2;have hl4:(f4 n).length=4:=rfl;have ec:Zx (wU (f4 n)) 0 4=f4 n:=by
   have:=ZaO (f4 n);rw[hl4] at this;exact this
  have et:Zc (f4 n)=(d16 n.toNat).length:=by
   rw[Zam (by omega) hd,hv4];rfl
  have hrow:ZaB tU (wU (f4 n)) 0 4 4=true:=by
   have:=Zah (L:=f4 n) (fun x hx=>⟨(hd x hx).1,by have:=(hd x hx).2;omega⟩) (by rw[hl4];omega) (c:=4) (by rw[hl4];rfl);rw[hl4] at this;exact this
  have hr:Runs (Zm prog Zg Zn hcV) (Zq f34) ([.int .u64 n]++List.replicate 18 undef,⟨0,[]⟩,[]) fun e z=>(e=none∨e=some none)∧zd prog f34 z.1 z.2.1=some (sl 0 0 (d16 n.toNat).length (d16 n.toNat).length)∧∃ r,z.2.1.blk? 0=some (wU (d16 n.toNat)++r,tU):=by
   refine (Zb (Zp Ze Z2) (Z1l n) (Zi hrow (Zi rfl (Zi rfl (Zv rfl))))).mono fun e z he=> ?_;obtain⟨rfl,⟨g,e1⟩,e2⟩:=he;refine⟨.inr rfl,?_,?_⟩
   ·rw[e1,e2,ec,et];rfl
   ·rw[e2];refine⟨wU ((f4 n).drop (Zc (f4 n))),?_⟩;have e3:wU (d16 n.toNat)++wU ((f4 n).drop (Zc (f4 n)))=wU (f4 n):=by
     unfold d16;rw[← hv4,← za (by omega) _ hd,← zk,List.take_append_drop]
    rw[e3];rfl
  have:=ZL (T:=Zm prog Zg Zn hcV) func34 Zrx (h0:=⟨0,[]⟩) ⟨rfl,fun b x hx=>by have:b<0:=Hp.blk_lt hx;omega⟩ (vals:=[.int .u64 n]) (fun v hv=>by rw[List.mem_singleton.1 hv];rfl) (k:=0) (cs:=wU (d16 n.toNat)) (ty:=tU) (ZbR _) (by kernel_rfl) hr.w (by rfl) E (s:=fun i=>i) (fun i x hx _=>by have:i<0:=Hp.blk_lt hx;omega);exact this
 ·cases hg
end Go.Proofs.YtgefjidphfdhdaaGreatDoor
namespace Go.Proofs.YtgefjidphfdhdaaGreatDoor
open Go.KRun Go.Nt
set_option maxRecDepth 100000
theorem Zfq {x:Bool×Bool}{l:Log}(h:Zu (x::l)):x.1=x.2∧Zu l:=⟨h _ Xe,fun y hy=>h y (Xd _ hy)⟩
def ZgB (h:Hp) (p:Option Addr) (n c:Nat) (k:Int):Bool:=Zaa h p n c && dgB (Zj h p n) && Nat.blt (k.toNat/16+n+3) 1073741824 && decide (0≤k)
def ZnR:Zag:=fun vals h s=>
 match vals,s with
 | [.slice p n c,.int .i64 k],.inr (.inr (.inr (.inl d)))::s'=>
  match d,s' with
  | true,.inr (.inl V)::s2=>ZcV V.toNat h s2 [(decide (vO h p n*2^k.toNat=V.toNat),true),(ZgB h p n c k,true),(decide (0<n),true)]
  | false,_=>some (Zs,h,s',[(Zaa h p n c,true),(decide (0<n),false)])
  | _,_=>none
 | _,_=>none
theorem ZnS:Z8 36 ZnR:=by
 intro vals h s v h' s' lg hg hl;unfold ZnR at hg;split at hg
 ·rename_i p n c k d s2;split at hg
  ·rename_i V s3;unfold ZcV at hg;cases hg;obtain⟨l1,l2⟩:=Zfq hl;have l1:=Xc l1;refine ZhV _ h [cmp true] _ _ [] _ ?_ l2;simp only[ZtQ,ZcV,l1];rfl
  ·cases hg;exact ZhV _ h [cmp false] _ _ [] _ rfl hl
  ·cases hg
 ·cases hg
def ZnT:Zag:=fun vals h s=>
 match vals,s with
 | [.slice p n c,.slice q n' c'],.inr (.inl k)::s'=>some (.int .i64 k,h,s',[(decide (Zac (vO h p n) (vO h q n')=k),true),(zB h p q n c n' c',true)])
 | _,_=>none
theorem ZnU:Z8 35 ZnT:=by
 intro vals h s v h' s' lg hg hl;unfold ZnT at hg;split at hg
 ·rename_i p n c q n' c' V s3;cases hg;obtain⟨l1,l2⟩:=Zfq hl;have l1:=Xc l1;refine ZhR _ h [] _ _ [] _ ?_ l2;simp only[Zp2,l1]
 ·cases hg
def Z6 (b:Nat):Option Addr:=some ⟨b,0,none⟩
def w16 (X:Nat):List Value×TypeId:=(wU (d16 X),tU)
section
variable {h : Hp} {b V : Nat}
theorem Z1p (hb:h.blk? b=some (wU (d16 V),tU)):vO h (Z6 b) (d16 V).length=V:=Zsu hb
theorem ZdP:0<(d16 V).length↔0<V:=by
 unfold d16;rw[List.length_pos_iff,ne_eq,ZcM (by omega)];omega
end
end Go.Proofs.YtgefjidphfdhdaaGreatDoor
namespace Go.Proofs.YtgefjidphfdhdaaGreatDoor
open Go.Proofs.Tryz
open Go.IntKind
open Go.KRun Go.Nt Go.Rd
set_option maxRecDepth 100000
def Z5t:Hc:=zx 34 Z1o (zx 32 Z2z hcN)
theorem Zw9:HcOk Z5t:=Zt func34 rfl Zhy (Zt func32 rfl ZnP zw)
def ZnV:Con:=alt 47 (gU vT) Zn
theorem Zry:ConOk ZnV:=ZF func47 rfl ZsM Ze
def hD1 (x:Int):Hp:=⟨1,[w16 x.toNat]⟩
theorem Zrz {h:Hp}{b V:Nat}(hb:h.blk? b=some (wU (d16 V),tU)) (hl:(d16 V).length<100000):(Zaa h (Z6 b) (d16 V).length (d16 V).length && ZeJ (Zj h (Z6 b) (d16 V).length) && Nat.blt (d16 V).length 1073741824)=true:=by
 unfold Z6;rw[ZeV hb (by omega),Zcp hb,show ZeJ (d16 V)=true from Zlj (ZfP (by omega) _),Zk.2 (by omega)];rfl
theorem Z5u (n:Int) (b:List UInt8):ZH (Zr (Zm prog Zg Zn Z5t) 300 49 [.int .i64 n] [cmp true,val (bR b),sam true]) (bR (45::b)) [(decide (1+b.length≤9223372036854775807),true),(Zaa (hD1 (u64.wrap (i64.wrap (0-n)))) (Z6 0) (d16 (u64.wrap (i64.wrap (0-n))).toNat).length (d16 (u64.wrap (i64.wrap (0-n))).toNat).length && ZeJ (Zj (hD1 (u64.wrap (i64.wrap (0-n)))) (Z6 0) (d16 (u64.wrap (i64.wrap (0-n))).toNat).length) && Nat.blt (d16 (u64.wrap (i64.wrap (0-n))).toNat).length 1073741824,true),(decide (zD (vO (hD1 (u64.wrap (i64.wrap (0-n)))) (Z6 0) (d16 (u64.wrap (i64.wrap (0-n))).toNat).length)=b),true),(decide (0≤(u64.wrap (i64.wrap (0-n)))∧(u64.wrap (i64.wrap (0-n)))<18446744073709551616),true),(decide (n<0),true)]:=by and_intros<;>kernel_rfl
theorem Z5v (n:Int) (b:List UInt8):ZH (Zr (Zm prog Zg Zn Z5t) 300 49 [.int .i64 n] [cmp false,val (bR b)]) (bR b) [(Zaa (hD1 (u64.wrap n)) (Z6 0) (d16 (u64.wrap n).toNat).length (d16 (u64.wrap n).toNat).length && ZeJ (Zj (hD1 (u64.wrap n)) (Z6 0) (d16 (u64.wrap n).toNat).length) && Nat.blt (d16 (u64.wrap n).toNat).length 1073741824,true),(decide (zD (vO (hD1 (u64.wrap n)) (Z6 0) (d16 (u64.wrap n).toNat).length)=b),true),(decide (0≤(u64.wrap n)∧(u64.wrap n)<18446744073709551616),true),(decide (n<0),false)]:=by and_intros<;>kernel_rfl
theorem Zfr (n:Int) (hn:n.natAbs≤2000000) (w:World):Calls prog 49 #[.int .i64 n] w fun r w'=>r= .returned (bR (Zca n))∧zH w w':=by
 have T:=Zp Ze Zw9;have lb:=Zhm n.natAbs;have ls:(d16 n.natAbs).length≤4:=ZeU (A:=n.natAbs) (k:=4) (Nat.lt_of_le_of_lt hn (by decide));obtain⟨b,hb0⟩:∃ b,b=dcL n.natAbs:=⟨_,rfl⟩;have hb:zD n.natAbs=b:=by rw[hb0];exact Zrh (by omega)
 rw[← hb0] at lb;unfold Zca;rw[← hb0];by_cases h:n<0
 ·rw[if_pos h];have e:(u64.wrap (i64.wrap (0-n)))=(n.natAbs:Nat):=by
   rw[Zw (n:=0-n) (by omega) (by omega)];simp [IntKind.wrap,IntKind.bits,IntKind.signed];omega
  have hf:=Z5u n b;rw[e,Xg] at hf;exact Zf T hf (Za (Xa (by omega)) (Za (Zrz (h:=hD1 _) (b:=0) rfl (by omega)) (Za (Xa (by rw[Z1p (V:=_) rfl];exact hb)) (Za (Xa ⟨by omega,by omega⟩) (ZB (Xa h)))))) (by rfl) (by rfl) w
 ·rw[if_neg h];have e:(u64.wrap n)=(n.natAbs:Nat):=by
   simp [IntKind.wrap,IntKind.bits,IntKind.signed];omega
  have hf:=Z5v n b;rw[e,Xg] at hf;exact Zf T hf (Za (Zrz (h:=hD1 _) (b:=0) rfl (by omega)) (Za (Xa (by rw[Z1p (V:=_) rfl];exact hb)) (Za (Xa ⟨by omega,by omega⟩) (ZB (Xb h))))) (by rfl) (by rfl) w
def Z5w:Ans:=fun vals s=>
 match vals with
 | [.int .i64 n]=>some (bR (Zca n),s,[(decide (n.natAbs≤2000000),true)])
 | _=>none
theorem ZwA:z8 49 Z5w:=by
 intro vals s v s' lg h hl w;unfold Z5w at h;split at h
 ·cases h;exact Zfr _ (Xc (hl _ Xf)) w
 ·cases h
theorem Z5x (p:Int):ZH (Zr (Zo prog Zg ZnV true) 300 25 [.int .u64 p] [cmp true]) (bR [110,97,110]) [(decide (Go.Pt.cl p>3),true),(decide (Go.Pt.U p),true)]:=by and_intros<;>kernel_rfl
theorem Z5y (p:Int):ZH (Zr (Zo prog Zg ZnV true) 300 25 [.int .u64 p] [cmp false,cmp true]) (bR [105,110,102]) [(p==9218868437227405312,true),(decide (Go.Pt.cl p>3),false),(decide (Go.Pt.U p),true)]:=by and_intros<;>kernel_rfl
theorem Z5z (p:Int):ZH (Zr (Zo prog Zg ZnV true) 300 25 [.int .u64 p] [cmp false,cmp false,cmp true]) (bR [45,105,110,102]) [(p==18442240474082181120,true),(p==9218868437227405312,false),(decide (Go.Pt.cl p>3),false),(decide (Go.Pt.U p),true)]:=by and_intros<;>kernel_rfl
theorem Z50 (p:Int):ZH (Zr (Zo prog Zg ZnV true) 300 25 [.int .u64 p] [cmp false,cmp false,cmp false]) (bR []) [(p==18442240474082181120,false),(p==9218868437227405312,false),(decide (Go.Pt.cl p>3),false),(decide (Go.Pt.U p),true)]:=by and_intros<;>kernel_rfl
def spK (p:Int):Int:=if 3<Go.Pt.cl p then 1 else if p=9218868437227405312 then 2 else if p=18442240474082181120 then 3 else 0
def spL (k:Int):List UInt8:=if k=1 then [110,97,110] else if k=2 then [105,110,102] else if k=3 then [45,105,110,102] else []
theorem Zfs (p:Int) (hp:Go.Pt.U p) (w:World):Calls prog 25 #[.int .u64 p] w fun r w'=>r= .returned (bR (spL (spK p)))∧zH w w':=by
 have T:=Zl Zry;unfold spK;by_cases h0:3<Go.Pt.cl p
 ·rw[if_pos h0];exact Zf T (Z5x p) (Za (Xa (by omega)) (ZB (Xa hp))) (by rfl) (by rfl) w
 rw[if_neg h0];by_cases h1:p=9218868437227405312
 ·rw[if_pos h1];exact Zf T (Z5y p) (Za (zy h1) (Za (Xb (by omega)) (ZB (Xa hp)))) (by rfl) (by rfl) w
 rw[if_neg h1];by_cases h2:p=18442240474082181120
 ·rw[if_pos h2];exact Zf T (Z5z p) (Za (zy h2) (Za (ze h1) (Za (Xb (by omega)) (ZB (Xa hp))))) (by rfl) (by rfl) w
 rw[if_neg h2];exact Zf T (Z50 p) (Za (ze h2) (Za (ze h1) (Za (Xb (by omega)) (ZB (Xa hp))))) (by rfl) (by rfl) w
def Z51:Ans:=fun vals s=>
 match vals,s with
 | [.int .u64 p],.inr (.inl k)::s'=>some (bR (spL k),s',[(decide (spK p=k),true),(decide (Go.Pt.U p),true)])
 | _,_=>none
theorem ZwB:z8 25 Z51:=by
 intro vals s v s' lg h hl w;unfold Z51 at h;split at h
 ·cases h;rw[Z5Z,Z5Z] at hl;obtain⟨l1,l2,_⟩:=hl;have l1:=Xc l1;rw[← l1];exact Zfs _ (Xc l2) w
 ·cases h
def ZnW:Con:=alt 49 Z5w Zn
theorem Zr0:ConOk ZnW:=ZF func49 rfl ZwA Ze
theorem Z1q (c:UInt8) (r:List UInt8) (e:Int):ZH (Zr (Zo prog Zg ZnW true) 300 27 [bR (c::r),.int .i64 e,.bool true] [sam true,cmp true,sam true,sam true,sam true,sam true,sam true,sam true]) (bR (45::((c::46::r)++[101]++Zca e))) [(decide (1+((c::46::r)++[101]++Zca e).length≤9223372036854775807),true),(decide (((c::46::r)++[101]).length+(Zca e).length≤9223372036854775807),true),(decide (e.natAbs≤2000000),true),(decide ((c::46::r).length+1≤9223372036854775807),true),(decide ([c,46].length+r.length≤9223372036854775807),true),(decide ((0:Int)≤1∧(1:Int)≤(((c::r).length:Nat):Int)),true),(decide ([c].length+1≤9223372036854775807),true),(decide ((((c::r).length:Nat):Int)>1),true),(decide ((0:Int)≤1∧(1:Int)≤(((c::r).length:Nat):Int)),true)]:=by and_intros<;>kernel_rfl
theorem Z1r (c:UInt8) (r:List UInt8) (e:Int):ZH (Zr (Zo prog Zg ZnW true) 300 27 [bR (c::r),.int .i64 e,.bool true] [sam true,cmp false,sam true,sam true,sam true]) (bR (45::([c]++[101]++Zca e))) [(decide (1+([c]++[101]++Zca e).length≤9223372036854775807),true),(decide (([c]++[101]).length+(Zca e).length≤9223372036854775807),true),(decide (e.natAbs≤2000000),true),(decide ([c].length+1≤9223372036854775807),true),(decide ((((c::r).length:Nat):Int)>1),false),(decide ((0:Int)≤1∧(1:Int)≤(((c::r).length:Nat):Int)),true)]:=by and_intros<;>kernel_rfl
theorem Z1s (c:UInt8) (r:List UInt8) (e:Int):ZH (Zr (Zo prog Zg ZnW true) 300 27 [bR (c::r),.int .i64 e,.bool false] [sam true,cmp true,sam true,sam true,sam true,sam true,sam true]) (bR ((c::46::r)++[101]++Zca e)) [(decide (((c::46::r)++[101]).length+(Zca e).length≤9223372036854775807),true),(decide (e.natAbs≤2000000),true),(decide ((c::46::r).length+1≤9223372036854775807),true),(decide ([c,46].length+r.length≤9223372036854775807),true),(decide ((0:Int)≤1∧(1:Int)≤(((c::r).length:Nat):Int)),true),(decide ([c].length+1≤9223372036854775807),true),(decide ((((c::r).length:Nat):Int)>1),true),(decide ((0:Int)≤1∧(1:Int)≤(((c::r).length:Nat):Int)),true)]:=by and_intros<;>kernel_rfl
theorem Z1t (c:UInt8) (r:List UInt8) (e:Int):ZH (Zr (Zo prog Zg ZnW true) 300 27 [bR (c::r),.int .i64 e,.bool false] [sam true,cmp false,sam true,sam true]) (bR ([c]++[101]++Zca e)) [(decide (([c]++[101]).length+(Zca e).length≤9223372036854775807),true),(decide (e.natAbs≤2000000),true),(decide ([c].length+1≤9223372036854775807),true),(decide ((((c::r).length:Nat):Int)>1),false),(decide ((0:Int)≤1∧(1:Int)≤(((c::r).length:Nat):Int)),true)]:=by and_intros<;>kernel_rfl
theorem ZjJ (c:UInt8) (r:List UInt8) (e:Int) (n:Bool) (hr:r.length≤100000) (he:e.natAbs≤2000000) (w:World):Calls prog 27 #[bR (c::r),.int .i64 e,.bool n] w fun x w'=>x= .returned (bR (txL n (c::r) e))∧zH w w':=by
 have T:=Zl Zr0;have hx:=Zff e;cases r with
 | nil=>
  cases n with
  | true=>
   have hv:txL true [c] e=45::([c]++[101]++Zca e):=by unfold txL;simp
   rw[hv];exact Zf T (Z1r c [] e) (Za (Xa (by simp only[List.length_append,List.length_cons,List.length_nil];omega)) (Za (Xa (by simp only[List.length_append,List.length_cons,List.length_nil];omega)) (Za (Xa he) (Za (Xa (by simp only[List.length_cons,List.length_nil];omega)) (Za (Xb (by simp only[List.length_cons,List.length_nil];omega)) (ZB (Xa ⟨by omega,by rw[List.length_cons];omega⟩))))))) (by rfl) (by rfl) w
  | false=>
   have hv:txL false [c] e=[c]++[101]++Zca e:=by unfold txL;simp
   rw[hv];exact Zf T (Z1t c [] e) (Za (Xa (by simp only[List.length_append,List.length_cons,List.length_nil];omega)) (Za (Xa he) (Za (Xa (by simp only[List.length_cons,List.length_nil];omega)) (Za (Xb (by simp only[List.length_cons,List.length_nil];omega)) (ZB (Xa ⟨by omega,by rw[List.length_cons];omega⟩)))))) (by rfl) (by rfl) w
 | cons d r=>
  rw[List.length_cons] at hr;cases n with
  | true=>
   have hv:txL true (c::d::r) e=45::((c::46::d::r)++[101]++Zca e):=by unfold txL;simp
   rw[hv];exact Zf T (Z1q c (d::r) e) (Za (Xa (by simp only[List.length_append,List.length_cons,List.length_nil];omega)) (Za (Xa (by simp only[List.length_append,List.length_cons,List.length_nil];omega)) (Za (Xa he) (Za (Xa (by simp only[List.length_cons];omega)) (Za (Xa (by simp only[List.length_cons,List.length_nil];omega)) (Za (Xa ⟨by omega,by rw[List.length_cons];omega⟩) (Za (Xa (by simp only[List.length_cons,List.length_nil];omega)) (Za (Xa (by simp only[List.length_cons];omega)) (ZB (Xa ⟨by omega,by rw[List.length_cons];omega⟩)))))))))) (by rfl) (by rfl) w
  | false=>
   have hv:txL false (c::d::r) e=(c::46::d::r)++[101]++Zca e:=by unfold txL;simp
   rw[hv];exact Zf T (Z1s c (d::r) e) (Za (Xa (by simp only[List.length_append,List.length_cons,List.length_nil];omega)) (Za (Xa he) (Za (Xa (by simp only[List.length_cons];omega)) (Za (Xa (by simp only[List.length_cons,List.length_nil];omega)) (Za (Xa ⟨by omega,by rw[List.length_cons];omega⟩) (Za (Xa (by simp only[List.length_cons,List.length_nil];omega)) (Za (Xa (by simp only[List.length_cons];omega)) (ZB (Xa ⟨by omega,by rw[List.length_cons];omega⟩))))))))) (by rfl) (by rfl) w
def Z52:Ans:=fun vals s=>
 match vals with
 | [.string ⟨⟨c::r⟩⟩,.int .i64 e,.bool n]=>some (bR (txL n (c::r) e),s,[(decide (r.length≤100000∧e.natAbs≤2000000),true)])
 | _=>none
theorem ZwC:z8 27 Z52:=by
 intro vals s v s' lg h hl w;unfold Z52 at h;split at h
 ·cases h;obtain⟨h1,h2⟩:=Xc (hl _ Xf);exact ZjJ _ _ _ _ h1 h2 w
 ·cases h
end Go.Proofs.YtgefjidphfdhdaaGreatDoor
namespace Go.Proofs.YtgefjidphfdhdaaGreatDoor
open Go.KRun Go.Nt
set_option maxRecDepth 100000
section
variable {l : List Value} {o c : Nat} {A : List Int}
def Fst (l:List Value) (o c:Nat) (A:List Int):Prop:=∀ h:Hp,h.blk? 0=some (l,tR)→Zaa h (some ⟨0,o,none⟩) A.length c=true∧Zj h (some ⟨0,o,none⟩) A.length=A
end
theorem Z1u {ty:TypeId}{l:List Value}{o n c:Nat}(r:ZaB ty l o n c=true) (hs:∀ v∈l,still v=true):Fst l o c (Zx l o n):=by
 intro h hb;have hlen:=(zP r).2.1;rw[hlen];constructor
 ·simp only[Zaa,hb,Xh];refine⟨?_,List.all_eq_true.2 hs⟩;unfold ZaB at r ⊢;simp only[Xh,Bool.not_eq_true'] at r ⊢;obtain⟨⟨⟨⟨⟨⟨_,_⟩,p3⟩,p4⟩,p5⟩,p6⟩,p7⟩:=r;exact⟨⟨⟨⟨⟨⟨ZaT,by kernel_rfl⟩,p3⟩,p4⟩,p5⟩,p6⟩,p7⟩
 ·simp [Zj,hb]
end Go.Proofs.YtgefjidphfdhdaaGreatDoor
namespace Go.Proofs.YtgefjidphfdhdaaGreatDoor
open Go.KRun Go.Nt
def bOf (m:Bool) (e:Int) (v:Value):List Value×TypeId:=([.bool m,.int .i64 e,v],56)
def sOf (b V:Nat):Value:=sl b 0 (d16 V).length (d16 V).length
def vRN (m:Bool) (e:Int) (v:Value):Value:= .agg #[.bool m,.int .i64 e,v]
end Go.Proofs.YtgefjidphfdhdaaGreatDoor
namespace Go.Proofs.YtgefjidphfdhdaaGreatDoor
open Go.KRun Go.Nt Go.Wd
set_option maxRecDepth 100000
set_option linter.unusedVariables false
abbrev pX9 (neg:Bool) (E N M:Int) (o n c:Nat) (r:List Value):List Value:=vRN neg E (sl 0 o n c):: .int .i64 N:: .int .i64 M:: .pointer (some ⟨1,0,none⟩)::undef::undef::r
def bX (neg:Bool) (E:Int) (o n c:Nat):List Value×TypeId:=bOf neg E (sl 0 o n c)
def hX (neg:Bool) (E:Int) (o n c:Nat) (l:List Value):Hp:=⟨2,[bX neg E o n c,(l,tR)]⟩
def aX (o:Nat):Option Addr:=some ⟨0,o,none⟩
end Go.Proofs.YtgefjidphfdhdaaGreatDoor
namespace Go.Proofs.YtgefjidphfdhdaaGreatDoor
open Go.KRun Go.Nt Go.Wd Go.Rn
set_option maxRecDepth 100000
set_option linter.unusedVariables false
section
variable {l : List Value} {o c : Nat} {A : List Int}
theorem ZnX {x y:Nat}:(Zac x y==0)=decide (x=y):=by
 unfold Zac;by_cases h1:x<y
 ·rw[if_pos h1,Xb (by omega)];rfl
 ·rw[if_neg h1];by_cases h2:x=y
  ·rw[if_pos h2,Xa h2];rfl
  ·rw[if_neg h2,Xb h2];rfl
end
end Go.Proofs.YtgefjidphfdhdaaGreatDoor
namespace Go.Proofs.YtgefjidphfdhdaaGreatDoor
open Go.KRun Go.Nt
set_option maxRecDepth 100000
def ZnY:Zag:=fun vals h s=>
 match vals,s with
 | [.slice p n c,.slice q n' c'],.inr (.inr (.inr (.inl d)))::s'=>
  match d,s' with
  | true,.inr (.inl V)::s2=>ZcV V.toNat h s2 [(decide (vO h p n+vO h q n'=V.toNat),true),(zB h p q n c n' c',true),(decide (0<n∨0<n'),true)]
  | false,_=>some (Zs,h,s',[(zB h p q n c n' c',true),(decide (0<n∨0<n'),false)])
  | _,_=>none
 | _,_=>none
theorem ZnZ:Z8 33 ZnY:=by
 intro vals h s v h' s' lg hg hl;unfold ZnY at hg;split at hg
 ·rename_i p n c q n' c' d s2;split at hg
  ·rename_i V s3;unfold ZcV at hg;cases hg;obtain⟨l1,l2⟩:=Zfq hl;have l1:=Xc l1;refine ZhP _ h [cmp true] _ _ [] _ ?_ l2;simp only[Zt1,ZcV,l1]
  ·cases hg;exact ZhP _ h [cmp false] _ _ [] _ rfl hl
  ·cases hg
 ·cases hg
end Go.Proofs.YtgefjidphfdhdaaGreatDoor
namespace Go.Proofs.YtgefjidphfdhdaaGreatDoor
open Go.Proofs.Tryz
open Go.KRun Go.Nt
set_option maxRecDepth 100000
set_option linter.unusedVariables false
section
variable {la lb : List Value} {o c o' c' : Nat} {A L : List Int}
def rIn (V:Nat) (Q:List Int) (la lb:List Value) (r:Value) (h:Hp):Prop:=(V=0∧r=Zs∧h=hB3 (wU Q) lb la)∨(r=sl 3 0 (d16 V).length (d16 V).length∧h=hB4 (wU (d16 V)) (wU Q) lb la)
theorem Zr1 (H:Two la lb o o' c' A L) {V:Nat}(hV:V<vb 65536 L) {Q:List Int}{k:Nat}(hk:k<A.length) {v10 v11:Value}(k1:KRun.lt 4 v10=true) (k2:KRun.lt 4 v11=true) (s1:∀ b:Nat,rn (zA 3 b) v10=v10) (s2:∀ b:Nat,rn (zA 3 b) v11=v11) {r:Value}{h:Hp}(hr:rIn V Q la lb r h) (g:Nat→Value) (s:List Dec):
  RunsW (Zm prog Zg Zn hcP) (x7 f31) (pFr o A.length c o' L.length c' A.length r ((k:Nat):Int) v10 v11++tl 83 g,h,s) fun e z=>e=none∧(∃ g,z.1=pFr o A.length c o' L.length c' A.length (sl 3 0 (d16 ((A.getD k 0).toNat+65536*V)).length (d16 ((A.getD k 0).toNat+65536*V)).length) ((k:Nat):Int) v10 v11++tl 83 g)∧z.2.1=hB4 (wU (d16 ((A.getD k 0).toNat+65536*V))) (wU Q) lb la:=by
 have hd:=Zd9 H.dA k;generalize hdd:A.getD k 0=d at*;obtain⟨t1,t2⟩:=ZpR V hd;have b2:=H.bnd.2.1;have hlen:(d16 V).length≤L.length:=Zcn (Nat.lt_trans hV b2);have n2:=H.n2;have gc:Z3 (la[o+((k:Nat):Int).toNat*1]?) (.int .u32 d)=true:=by rw[Xg,Nat.mul_one,H.ra.cell hk,hdd];simp [Z3]
 have gi:decide (0≤((k:Nat):Int)∧((k:Nat):Int)<((A.length:Nat):Int))=true:=Xa (by omega);have one:ZaB tU [.int .u32 d] 0 1 1=true:=Zah (L:=[d]) (Zy3 hd) (by show 1<_;omega) (Z2o (by show 1<_;omega));have c1:Zx [.int .u32 d] 0 1=[d]:=ZaO [d];have lt':∀ t:Nat,∀ v∈pFr o A.length c o' L.length c' A.length (sl 3 0 t t) ((k:Nat):Int) v10 v11,KRun.lt 4 v=true:=fun t=>Zsl k1 k2;have front:∀ b t:Nat,3≤b→(pFr o A.length c o' L.length c' A.length (sl 3 0 t t) ((k:Nat):Int) v10 v11).map (rn (zA 3 b))=pFr o A.length c o' L.length c' A.length (sl b 0 t t) ((k:Nat):Int) v10 v11:=fun b t hb=>by
  simp only[pFr,List.map_cons,List.map_nil,s1,s2]
  kernel_rfl
 by_cases h0:V=0
 ·subst h0;have e0:d16 0=[]:=zj _;rw[e0] at t1 t2;rcases hr with ⟨_,rfl,rfl⟩ | ⟨rfl,rfl⟩
  ·have r:=Zd (s0:=s) Zbi (Z3i o A.length c o' L.length c' A.length v10 v11 ((k:Nat):Int) d (wU Q) lb la g) (Zi one (Zi gc (Zv gi)));rw[c1,t1] at r;exact r.keptP (k:=3) (b:=3) (base:=[(wU Q,tU),(lb,tR),(la,tR)]) (y:=(wU (d16 (d.toNat+65536*0)),tU)) (r:=wU ([d].drop (Zc [d]))) rfl (front 3 _ (Nat.le_refl _)) (ZpS (ZG Q) H.sb H.sa rfl rfl rfl) (by
    show some ([Value.int .u32 d],tU)=_;rw[← t2];rfl) (Nat.le_refl _) (ZG _) (lt' _)
  ·rw[e0];have r:=Zd (s0:=s) Zbi (Z3j o A.length c o' L.length c' A.length v10 v11 ((k:Nat):Int) d (wU []) (wU Q) lb la g) (Zi one (Zi gc (Zv gi)));rw[c1,t1] at r;exact r.keptP (k:=3) (b:=4) (base:=[(wU Q,tU),(lb,tR),(la,tR)]) (y:=(wU (d16 (d.toNat+65536*0)),tU)) (r:=wU ([d].drop (Zc [d]))) rfl (front 4 _ (by omega)) (ZpS (ZG Q) H.sb H.sa rfl rfl rfl) (by
    show some ([Value.int .u32 d],tU)=_;rw[← t2];rfl) (by omega) (ZG _) (lt' _)
 ·rcases hr with ⟨h1,_,_⟩ | ⟨rfl,rfl⟩
  ·exact absurd h1 h0
  ·have hpos:0<(d16 V).length:=by
    rcases Nat.eq_zero_or_pos (d16 V).length with h1 | h1
    ·exact absurd ((ZcM (b:=65536) (by omega)).1 (List.eq_nil_of_length_eq_zero h1)) h0
    ·exact h1
   have et:List.take (d16 V).length (List.drop 0 (wU (d16 V)))=wU (d16 V):=by rw[List.drop_zero,← zZ,List.take_length]
   have e1:[.int .u32 d]++List.take (d16 V).length (List.drop 0 (wU (d16 V)))=wU (d::d16 V):=by rw[et];rfl
   have hD:∀ x∈d::d16 V,0≤x∧x<4294967296:=fun x hx=>by
    rcases List.mem_cons.1 hx with rfl | hx
    ·exact⟨hd.1,by have:=hd.2;omega⟩
    ·exact Zl0 V x hx
   have row:ZaB tU (wU (d::d16 V)) 0 (1+(d16 V).length) grown=true:=by
    have:=Zah (L:=d::d16 V) hD (by simp only[List.length_cons];omega) (c:=grown) (Zyi _);rw[List.length_cons,Nat.add_comm] at this;exact this
   have chz:ZcH ([.int .u32 d],tU) (wU (d16 V),tU) 1 1 0 (d16 V).length=true:=ZfW (L:=[d]) (M:=d16 V) rfl rfl hpos (by simp only[List.length_singleton];omega);have cD:Zx (wU (d::d16 V)) 0 (1+(d16 V).length)=d::d16 V:=by
    have:=ZaO (d::d16 V);rw[List.length_cons,Nat.add_comm] at this;exact this
   have q:=Z3k o A.length c o' L.length c' A.length (d16 V).length v10 v11 ((k:Nat):Int) d (wU (d16 V)) (wU Q) lb la g;rw[e1] at q;have r:=Zd (s0:=s) Zbi q (Zi row (Zi chz (Zi gc (Zv gi))));rw[cD,t1] at r;exact r.keptP (k:=3) (b:=5) (base:=[(wU Q,tU),(lb,tR),(la,tR)]) (y:=(wU (d16 (d.toNat+65536*V)),tU)) (r:=wU ((d::d16 V).drop (Zc (d::d16 V)))) rfl (front 5 _ (by omega)) (ZpS (ZG Q) H.sb H.sa rfl rfl rfl) (by
    show some (wU (d::d16 V),tU)=_;rw[← t2]) (by omega) (ZG _) (lt' _)
end
end Go.Proofs.YtgefjidphfdhdaaGreatDoor
