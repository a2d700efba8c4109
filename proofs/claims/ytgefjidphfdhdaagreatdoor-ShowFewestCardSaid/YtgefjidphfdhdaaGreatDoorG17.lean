/-
  ShP, PhA, PhE, PhF, RdA, RdB, RdC, RdD, RdE
-/
import Derived.Test.YtgefjidphfdhdaaGreatDoorG16
import Derived.Laws.Closers25b
namespace Go.Proofs.YtgefjidphfdhdaaGreatDoor
open Go.Proofs.Tryz
open Go.IntKind
open Go.KRun Go.Nt Go.Rd Go.Wd Go.Pt
set_option maxRecDepth 100000
def nrV (p:Int) (n:Nat):Nat:=arN (nrU (ZS p (lsP p)) (Zah p (lsP p)) (10^(atL p-n))) (ZS p (lsP p)) (10^(atL p-n))
def frV (p:Int) (n:Nat):Nat:=arX (nrU (ZS p (lsP p)) (Zah p (lsP p)) (10^(atL p-n))) (ZS p (lsP p)) (10^(atL p-n))
theorem ZoD (p:Int) (n:Nat):(nrV p n=Zb9 p n∧frV p n=ZbT p n∧nrU (ZS p (lsP p)) (Zah p (lsP p)) (10^(atL p-n))=true)∨(nrV p n=ZbT p n∧frV p n=Zb9 p n∧nrU (ZS p (lsP p)) (Zah p (lsP p)) (10^(atL p-n))=false):=by
 unfold nrV frV arN arX;cases nrU (ZS p (lsP p)) (Zah p (lsP p)) (10^(atL p-n)) with
 | true=>exact .inl ⟨if_pos rfl,if_pos rfl,rfl⟩
 | false=>exact .inr ⟨if_neg (by decide),if_neg (by decide),rfl⟩
section
variable {p : Int}
theorem Z7V (h:Fin14 p) (x:Nat):(decide (((Zb7 p (lsP p):Nat):Int)≤((x:Nat):Int)) && decide (((x:Nat):Int)≤((Zb8 p (lsP p):Nat):Int)))=Zhn p (lsP p) x:=by
 rw[Z2v h,decide_eq_decide.2 (show ((Zb7 p (lsP p):Nat):Int)≤((x:Nat):Int)↔Zb7 p (lsP p)≤x by omega),decide_eq_decide.2 (show ((x:Nat):Int)≤((Zb8 p (lsP p):Nat):Int)↔x≤Zb8 p (lsP p) by omega)]
theorem ZcJ (h:Fin14 p):10^atL p≤10000000000000000000:=Nat.pow_le_pow_right (n:=10) (by omega) (Zb1 h).1.2
theorem ZoE (h:Fin14 p) {n:Nat}(h1:1≤n) (h2:n≤17):10^(atL p-1)≤ZbT p n∧Zb9 p n≤10^atL p∧ZbT p n≤Zb9 p n:=by
 obtain⟨⟨l1,l2⟩,a,b⟩:=Zb1 h;have hu:0<10^(atL p-n):=Nat.pow_pos (by omega);have e1:10^atL p=10^n*10^(atL p-n):=by rw[← Nat.pow_add];congr 1;omega
 have e2:10^(atL p-1)=10^(n-1)*10^(atL p-n):=by rw[← Nat.pow_add];congr 1;omega
 have q1:10^(n-1)≤ZS p (lsP p)/10^(atL p-n):=(Nat.le_div_iff_mul_le hu).2 (by rw[← e2];exact a);have q2:ZS p (lsP p)/10^(atL p-n)<10^n:=(Nat.div_lt_iff_lt_mul hu).2 (by rw[← e1];exact b);unfold ZbT Zb9;refine⟨?_,?_,Nat.mul_le_mul_right _ (by omega)⟩
 ·rw[e2];exact Nat.mul_le_mul_right _ q1
 ·rw[e1];exact Nat.mul_le_mul_right _ q2
theorem ZxV (h:Fin14 p) {n:Nat}(h1:1≤n) (h2:n≤17):Zz3 (ZS p (lsP p)) (10^(atL p-n))=true:=by
 obtain⟨⟨l1,l2⟩,_⟩:=Zb1 h;obtain⟨_,b,_⟩:=ZoE h h1 h2;have:=ZcJ h;refine Xa ⟨?_,?_⟩
 ·have:10^1≤10^(atL p-n):=Nat.pow_le_pow_right (by omega) (by omega);omega
 ·have e:Zb9 p n=(ZS p (lsP p)/10^(atL p-n)+1)*10^(atL p-n):=rfl;rw[← e];omega
end
def srK (p:Int):Hp:=srM (sgn p) (cl p) (xp p) (sg p) ((Zb7 p (lsP p):Nat):Int) ((Zb8 p (lsP p):Nat):Int) ((ZS p (lsP p):Nat):Int) (Zah p (lsP p)) (lsP p)
def srA (p u:Int):List Value:=srF (sgn p) (cl p) (xp p) (sg p) u
def srB (p u n f:Int):List Value:=srG (sgn p) (cl p) (xp p) (sg p) u n f
def Zz5 (p:Int) (i:Nat) (y:Lf):Prop:=i≤atL p-1∧∃ g,y.1=srA p ((10^i:Nat):Int)++tl 44 g∧y.2.1=srK p
def ZxW (p:Int) (n:Nat) (y:Lf):Prop:=(1≤n∧n≤nP p)∧∃ g,y.1=srB p ((10^(atL p-n):Nat):Int) ((nrV p n:Nat):Int) ((frV p n:Nat):Int)++tl 42 g∧y.2.1=srK p
theorem Z7W {p:Int}(h:Fin14 p) (r:Nat) (y:Lf) (hy:∃ i,r=atL p-1-i∧Zz5 p i y):
  Runs (Zk prog Zf ZbU Zhc) (Z5r f24) y fun e z=>match e with | none=>∃ r',r'<r∧∃ i,r'=atL p-1-i∧Zz5 p i z | some none=>False | some (some id')=>id'=0∧Zz5 p (atL p-1) z:=by
 obtain⟨i,hr,hi,g,ht,hh⟩:=hy;obtain⟨t,h',sc⟩:=y;simp only at ht hh;subst ht hh;obtain⟨⟨l1,l2⟩,a,b⟩:=Zb1 h;have t19:=ZcJ h;have ew:u64.wrap (((ZS p (lsP p):Nat):Int).tdiv 10)=((ZS p (lsP p)/10:Nat):Int):=by
  rw[Int.tdiv_eq_ediv_of_nonneg (by omega),Zd9 (by omega) (by omega)];omega
 by_cases hc:i<atL p-1
 ·have hp:10^(i+1)≤ZS p (lsP p):=Nat.le_trans (Nat.pow_le_pow_right (by omega) (by omega)) a;rw[Nat.pow_succ] at hp;have hg:=Z7P (sgn p) (cl p) (xp p) (sg p) ((Zb7 p (lsP p):Nat):Int) ((Zb8 p (lsP p):Nat):Int) ((ZS p (lsP p):Nat):Int) (lsP p) ((10^i:Nat):Int) (Zah p (lsP p)) g;have em:u64.wrap (((10^i:Nat):Int)*10)=((10^(i+1):Nat):Int):=by
   rw[Nat.pow_succ,Zd9 (by omega) (by omega)];omega
  rw[em] at hg;refine (Zb (s0:=sc) Ze2 hg (Z6 (Xa (by rw[ew];omega)))).mono fun e z he=> ?_;obtain⟨rfl,⟨g',z1⟩,z2⟩:=he;exact⟨atL p-1-(i+1),by omega,i+1,rfl,by omega,g',z1,z2⟩
 ·have ei:i=atL p-1:=by omega
  have hn:¬ 10^i≤ZS p (lsP p)/10:=by
   intro c;have:10^atL p=10^i*10:=by rw[← Nat.pow_succ];congr 1;omega
   omega
  refine (Zb (s0:=sc) Ze2 (Z7Q (sgn p) (cl p) (xp p) (sg p) ((Zb7 p (lsP p):Nat):Int) ((Zb8 p (lsP p):Nat):Int) ((ZS p (lsP p):Nat):Int) (lsP p) ((10^i:Nat):Int) (Zah p (lsP p)) g) (Z6 (Xb (by rw[ew];omega)))).mono fun e z he=> ?_;obtain⟨rfl,⟨g',z1⟩,z2⟩:=he;rw[ei] at z1;exact⟨rfl,Nat.le_refl _,g',z1,z2⟩
theorem ZoF {p:Int}(h:Fin14 p) {n:Nat}(h1:1≤n) (h2:n≤17) {b:Bool}(hb:nrU (ZS p (lsP p)) (Zah p (lsP p)) (10^(atL p-n))=b) {l:Log}(hl:Zx l):Zx (lAr ((ZS p (lsP p):Nat):Int) ((10^(atL p-n):Nat):Int) (Zah p (lsP p)) b l):=by
 unfold lAr;rw[Xg,Xg];exact Za hb (Za (ZxV h h1 h2) (Za (Xa ⟨Int.natCast_nonneg _,Int.natCast_nonneg _⟩) hl))
theorem Z7X {p:Int}(h:Fin14 p) (r:Nat) (y:Lf) (hy:∃ n,r=nP p-n∧ZxW p n y):
  Runs (Zk prog Zf ZbU Zhc) (Zz4 f24) y fun e z=>match e with | none=>∃ r',r'<r∧∃ n,r'=nP p-n∧ZxW p n z | some none=>False | some (some id')=>id'=2∧ZxW p (nP p) z:=by
 obtain⟨n,hr,⟨n1,n2⟩,g,ht,hh⟩:=hy;obtain⟨t,h',sc⟩:=y;simp only at ht hh;subst ht hh;obtain⟨⟨l1,l2⟩,_⟩:=Zb1 h;obtain⟨_,⟨_,n17⟩,_⟩:=Zag h;have se:=Zsc h n1 n2;have orE:(Zhn p (lsP p) (nrV p n)=true∨Zhn p (lsP p) (frV p n)=true)↔n=nP p:=by
  rw[← se];rcases ZoD p n with ⟨e1,e2,_⟩ | ⟨e1,e2,_⟩<;>rw[e1,e2]
  exact or_comm
 have hN:=Z7V h (nrV p n);have hF:=Z7V h (frV p n);cases c1:Zhn p (lsP p) (nrV p n) with
 | true=>
  have en:=orE.1 (.inl c1);refine (Zb (s0:=sc) Ze2 (Z3g (sgn p) (cl p) (xp p) (sg p) ((Zb7 p (lsP p):Nat):Int) ((Zb8 p (lsP p):Nat):Int) ((ZS p (lsP p):Nat):Int) (lsP p) ((10^(atL p-n):Nat):Int) ((nrV p n:Nat):Int) ((frV p n:Nat):Int) (Zah p (lsP p)) g) (Z6 (by rw[hN];exact c1))).mono fun e z he=> ?_;obtain⟨rfl,⟨g',z1⟩,z2⟩:=he;rw[← en];exact⟨rfl,⟨n1,n2⟩,g',z1,z2⟩
 | false=>
  cases c2:Zhn p (lsP p) (frV p n) with
  | true=>
   have en:=orE.1 (.inr c2);refine (Zb (s0:=sc) Ze2 (Z3h (sgn p) (cl p) (xp p) (sg p) ((Zb7 p (lsP p):Nat):Int) ((Zb8 p (lsP p):Nat):Int) ((ZS p (lsP p):Nat):Int) (lsP p) ((10^(atL p-n):Nat):Int) ((nrV p n:Nat):Int) ((frV p n:Nat):Int) (Zah p (lsP p)) g) (Za (by rw[hF];exact c2) (Z6 (by rw[hN];exact c1)))).mono fun e z he=> ?_;obtain⟨rfl,⟨g',z1⟩,z2⟩:=he;rw[← en];exact⟨rfl,⟨n1,n2⟩,g',z1,z2⟩
  | false=>
   have hne:n≠nP p:=fun c=>by
    rcases orE.2 c with c3 | c3
    ·rw[c1] at c3;cases c3
    ·rw[c2] at c3;cases c3
   have eu:u64.wrap (((10^(atL p-n):Nat):Int).tdiv 10)=((10^(atL p-(n+1)):Nat):Int):=by
    have e:10^(atL p-n)=10^(atL p-(n+1))*10:=by rw[← Nat.pow_succ];congr 1;omega
    have b:10^(atL p-(n+1))≤10^atL p:=Nat.pow_le_pow_right (by omega) (by omega);have:=ZcJ h;rw[e,Int.tdiv_eq_ediv_of_nonneg (by omega),Zd9 (by omega) (by omega)];omega
   have fin:∀ b,nrU (ZS p (lsP p)) (Zah p (lsP p)) (10^(atL p-(n+1)))=b→((arN b (ZS p (lsP p)) (10^(atL p-(n+1)))=nrV p (n+1))∧(arX b (ZS p (lsP p)) (10^(atL p-(n+1)))=frV p (n+1))):=fun b hb=>by
    unfold nrV frV;rw[hb];exact⟨rfl,rfl⟩
   have lg:∀ b,nrU (ZS p (lsP p)) (Zah p (lsP p)) (10^(atL p-(n+1)))=b→Zx (lAr ((ZS p (lsP p):Nat):Int) ((10^(atL p-(n+1)):Nat):Int) (Zah p (lsP p)) b [(decide (((Zb7 p (lsP p):Nat):Int)≤((frV p n:Nat):Int)) && decide (((frV p n:Nat):Int)≤((Zb8 p (lsP p):Nat):Int)),false),(decide (((Zb7 p (lsP p):Nat):Int)≤((nrV p n:Nat):Int)) && decide (((nrV p n:Nat):Int)≤((Zb8 p (lsP p):Nat):Int)),false)]):=fun b hb=>ZoF h (by omega) (by omega) hb (Za (by rw[hF];exact c2) (Z6 (by rw[hN];exact c1)));cases c3:nrU (ZS p (lsP p)) (Zah p (lsP p)) (10^(atL p-(n+1))) with
   | true=>
    have hg:=Z3i (sgn p) (cl p) (xp p) (sg p) ((Zb7 p (lsP p):Nat):Int) ((Zb8 p (lsP p):Nat):Int) ((ZS p (lsP p):Nat):Int) (lsP p) ((10^(atL p-n):Nat):Int) ((nrV p n:Nat):Int) ((frV p n:Nat):Int) (Zah p (lsP p)) g;rw[eu,Xg,Xg,(fin true c3).1,(fin true c3).2] at hg;refine (Zb (s0:=sc) Ze2 hg (lg true c3)).mono fun e z he=> ?_;obtain⟨rfl,⟨g',z1⟩,z2⟩:=he;exact⟨nP p-(n+1),by omega,n+1,rfl,⟨by omega,by omega⟩,g',z1,z2⟩
   | false=>
    have hg:=Z3j (sgn p) (cl p) (xp p) (sg p) ((Zb7 p (lsP p):Nat):Int) ((Zb8 p (lsP p):Nat):Int) ((ZS p (lsP p):Nat):Int) (lsP p) ((10^(atL p-n):Nat):Int) ((nrV p n:Nat):Int) ((frV p n:Nat):Int) (Zah p (lsP p)) g;rw[eu,Xg,Xg,(fin false c3).1,(fin false c3).2] at hg;refine (Zb (s0:=sc) Ze2 hg (lg false c3)).mono fun e z he=> ?_;obtain⟨rfl,⟨g',z1⟩,z2⟩:=he;exact⟨nP p-(n+1),by omega,n+1,rfl,⟨by omega,by omega⟩,g',z1,z2⟩
def sdD (p:Int):List UInt8:=trR (dcL (shV p))
def sdE (p:Int):Int:=lsP p+(((dcL (shV p)).length:Nat):Int)-1
theorem Zsx {p:Int}(h:Fin14 p) (w:World) (hk:knT w):Calls prog 24 #[vT p] w fun r w'=>r= .returned (vDc (sdD p) (sdE p))∧Zav w w':=by
 have ev:∀ m:Mp,[vT p].map (mv m)=[vT p]:=fun m=>(List.map_congr_left fun y hy=>ZA (by rw[List.mem_singleton.1 hy];rfl)).trans (List.map_id' _);have q0:0≤sg p:=by
  have:=ZfF p;unfold sg;split
  ·omega
  ·split<;>omega
 have f1:=h.ne;have f2:=h.e0;have f3:=h.e1;have f4:=h.s1;have main:=Zci (T:=Zk prog Zf ZbU Zhc) func24 ZxU (h0:=hT0) (vals:=[vT p]) (fun v hv=>by rw[List.mem_singleton.1 hv];rfl) (v:=vDc (sdD p) (sdE p)) (by rfl) (m:=fun b=>(b,0)) (w:=w) ?_ (ZnW hk)
 ·rw[ev] at main;exact main
 obtain⟨⟨l1,l2⟩,a,b⟩:=Zb1 h;obtain⟨_,⟨p1,p17⟩,_⟩:=Zag h;obtain⟨_,_,j1,j2⟩:=Zxo h;refine Z0 Ze2 (Z3f (sgn p) (cl p) (xp p) (sg p)) (Z6 (Xa (by omega))) fun g=> ?_;refine Runs.seq (P1:=fun e y=>match e with | none=>Zz5 p (atL p-1) y | some none=>False | some (some _)=>False) (Runs.forLoop (R:=fun _=>False) (P:=Zz5 p (atL p-1)) (fun r y=>∃ i,r=atL p-1-i∧Zz5 p i y) (Z7W h) (n:=atL p-1-0) ⟨0,rfl,Nat.zero_le _,g,rfl,rfl⟩) ?_ (fun e y he=>by match e,he with | none,he=>exact he.elim | some _,he=>exact he.elim);rintro⟨t,hh,sc⟩ ⟨_,g1,e1,e2⟩;simp only at e1 e2;subst e1 e2;have mid:Runs (Zk prog Zf ZbU Zhc) (sP f24 4) (srA p ((10^(atL p-1):Nat):Int)++tl 44 g1,srK p,sc) fun e y=>e=none∧ZxW p 1 y:=by
  have fin:∀ b,nrU (ZS p (lsP p)) (Zah p (lsP p)) (10^(atL p-1))=b→((arN b (ZS p (lsP p)) (10^(atL p-1))=nrV p 1)∧(arX b (ZS p (lsP p)) (10^(atL p-1))=frV p 1)):=fun b hb=>by
   unfold nrV frV;rw[hb];exact⟨rfl,rfl⟩
  cases c3:nrU (ZS p (lsP p)) (Zah p (lsP p)) (10^(atL p-1)) with
  | true=>
   have hg:=Z7R (sgn p) (cl p) (xp p) (sg p) ((Zb7 p (lsP p):Nat):Int) ((Zb8 p (lsP p):Nat):Int) ((ZS p (lsP p):Nat):Int) (lsP p) ((10^(atL p-1):Nat):Int) (Zah p (lsP p)) g1;rw[Xg,Xg,(fin true c3).1,(fin true c3).2] at hg;refine (Zb (s0:=sc) Ze2 hg (ZoF h (by omega) (by omega) c3 Zbt)).mono fun e z he=> ?_;obtain⟨rfl,⟨g',z1⟩,z2⟩:=he;exact⟨rfl,⟨by omega,p1⟩,g',z1,z2⟩
  | false=>
   have hg:=Z7S (sgn p) (cl p) (xp p) (sg p) ((Zb7 p (lsP p):Nat):Int) ((Zb8 p (lsP p):Nat):Int) ((ZS p (lsP p):Nat):Int) (lsP p) ((10^(atL p-1):Nat):Int) (Zah p (lsP p)) g1;rw[Xg,Xg,(fin false c3).1,(fin false c3).2] at hg;refine (Zb (s0:=sc) Ze2 hg (ZoF h (by omega) (by omega) c3 Zbt)).mono fun e z he=> ?_;obtain⟨rfl,⟨g',z1⟩,z2⟩:=he;exact⟨rfl,⟨by omega,p1⟩,g',z1,z2⟩
 refine Runs.seq mid ?_ (fun e y he=>by cases he.1);rintro⟨t,hh,sc2⟩ ⟨_,hs2⟩;refine Runs.seq (P1:=fun e y=>match e with | none=>ZxW p (nP p) y | some none=>False | some (some _)=>False) (Runs.forLoop (R:=fun _=>False) (P:=ZxW p (nP p)) (fun r y=>∃ n,r=nP p-n∧ZxW p n y) (Z7X h) (n:=nP p-1) ⟨1,rfl,hs2⟩) ?_ (fun e y he=>by match e,he with | none,he=>exact he.elim | some _,he=>exact he.elim);rintro⟨t3,hh3,sc3⟩ ⟨_,g3,e1,e2⟩;simp only at e1 e2;subst e1 e2;have sv:=Z23 h;have bd:=ZoE h p1 p17;have t19:=ZcJ h;have t17:10^17≤10^(atL p-1):=Nat.pow_le_pow_right (by omega) (by omega);have e17:(10:Nat)^17=100000000000000000:=rfl;have hN:=Z7V h (nrV p (nP p));have bds:∀ x,x=ZbT p (nP p)∨x=Zb9 p (nP p)→(100:Int)≤((x:Nat):Int)∧((x:Nat):Int)<18446744073709551616∧ -100000≤lsP p∧lsP p≤100000:=fun x hx=>by
  rcases hx with rfl | rfl<;>omega
 have isN:nrV p (nP p)=ZbT p (nP p)∨nrV p (nP p)=Zb9 p (nP p):=by rcases ZoD p (nP p) with ⟨c,_⟩ | ⟨c,_⟩<;>simp [c]
 have isF:frV p (nP p)=ZbT p (nP p)∨frV p (nP p)=Zb9 p (nP p):=by rcases ZoD p (nP p) with ⟨_,c,_⟩ | ⟨_,c,_⟩<;>simp [c]
 cases c1:Zhn p (lsP p) (nrV p (nP p)) with
 | true=>
  have ex:shV p=nrV p (nP p):=by
   rw[sv];rcases ZoD p (nP p) with ⟨c,_,d⟩ | ⟨c,_,d⟩
   ·rw[d,if_pos rfl,← c,if_pos c1]
   ·rw[d,if_neg (by decide),← c,if_pos c1]
  refine (Zb (s0:=sc3) Ze2 (Z7T (sgn p) (cl p) (xp p) (sg p) ((Zb7 p (lsP p):Nat):Int) ((Zb8 p (lsP p):Nat):Int) ((ZS p (lsP p):Nat):Int) (lsP p) ((10^(atL p-nP p):Nat):Int) ((nrV p (nP p):Nat):Int) ((frV p (nP p):Nat):Int) (Zah p (lsP p)) g3) (Za (Xa (bds _ isN)) (Z6 (by rw[hN];exact c1)))).mono fun e z he=> ?_;obtain⟨rfl,⟨g',z1⟩,z2⟩:=he;refine⟨.inr rfl,?_⟩;rw[z1,z2];unfold sdD sdE;rw[ex];rfl
 | false=>
  have ex:shV p=frV p (nP p):=by
   rw[sv];rcases ZoD p (nP p) with ⟨c,c',d⟩ | ⟨c,c',d⟩
   ·rw[d,if_pos rfl,← c,if_neg (by rw[c1];decide),c']
   ·rw[d,if_neg (by decide),← c,if_neg (by rw[c1];decide),c']
  refine (Zb (s0:=sc3) Ze2 (Z7U (sgn p) (cl p) (xp p) (sg p) ((Zb7 p (lsP p):Nat):Int) ((Zb8 p (lsP p):Nat):Int) ((ZS p (lsP p):Nat):Int) (lsP p) ((10^(atL p-nP p):Nat):Int) ((nrV p (nP p):Nat):Int) ((frV p (nP p):Nat):Int) (Zah p (lsP p)) g3) (Za (Xa (bds _ isF)) (Z6 (by rw[hN];exact c1)))).mono fun e z he=> ?_;obtain⟨rfl,⟨g',z1⟩,z2⟩:=he;refine⟨.inr rfl,?_⟩;rw[z1,z2];unfold sdD sdE;rw[ex];rfl
end Go.Proofs.YtgefjidphfdhdaaGreatDoor
namespace Go.Proofs.YtgefjidphfdhdaaGreatDoor
open Go.KRun
set_option maxRecDepth 100000
set_option linter.unusedVariables false
def hxV (c:Int):Int:=if 48≤c∧c≤57 then c-48 else if 97≤c∧c≤102 then c-87 else 0
def Z9Q (c:Int):Bool:=decide ((48≤c∧c≤57)∨(97≤c∧c≤102))
end Go.Proofs.YtgefjidphfdhdaaGreatDoor
namespace Go.Proofs.YtgefjidphfdhdaaGreatDoor
open Go.Proofs.Tryz
open Go.IntKind
open Go.KRun Go.Pt
set_option maxRecDepth 100000
set_option linter.unusedVariables false
def hxT:List UInt8:=[48,49,50,51,52,53,54,55,56,57,97,98,99,100,101,102]
def hSx (q:Int):Int:=q.fdiv (2^min (Int.toNat 4) 64)
def hC (q:Int):Int:=((hxT.getD (ZiK q 15).toNat 0).toNat:Nat)
def hBx (q:Int):UInt8:=UInt8.ofNat (hC q).toNat
def hSn (p:Int):Nat→Int
 | 0=>p
 | n+1=>hSx (hSn p n)
def inX (q:Int):Bool:=decide (0≤ZiK q 15∧(ZiK q 15).toNat<hxT.length)
def hxW (p:Int):ByteArray:=⟨#[hBx (hSn p 15),hBx (hSn p 14),hBx (hSn p 13),hBx (hSn p 12),hBx (hSn p 11),hBx (hSn p 10),hBx (hSn p 9),hBx (hSn p 8),hBx (hSn p 7),hBx (hSn p 6),hBx (hSn p 5),hBx (hSn p 4),hBx (hSn p 3),hBx (hSn p 2),hBx (hSn p 1),hBx (hSn p 0)]⟩
def hxL (p:Int):Nat→Log
 | 0=>[]
 | n+1=>(false,false)::(inX (hSn p n),true)::hxL p n
theorem Zsy (p:Int):ZB (Zr (Zp prog Zf Zo true) 3000 43 [.int .u64 p] []) (.string (hxW p)) (hxL p 16):=by and_intros<;>kernel_rfl
def rPx (q:Int):List UInt8:=(hxT.drop (q.tmod 16).toNat).take ((u64.wrap (q.tmod 16+1)).toNat-(q.tmod 16).toNat)
theorem ZoG (q:Int):q % 16=0∨q % 16=1∨q % 16=2∨q % 16=3∨q % 16=4∨q % 16=5∨q % 16=6∨q % 16=7∨q % 16=8∨q % 16=9∨q % 16=10∨q % 16=11∨q % 16=12∨q % 16=13∨q % 16=14∨q % 16=15:=by omega
theorem Z3k {q:Int}(h:0≤q):q.tmod 16=q % 16:=Int.tmod_eq_emod_of_nonneg h
theorem Z7Y {q:Int}(h:0≤q):hSx q=q/16:=by
 have e:((2:Int)^min (Int.toNat 4) 64)=16:=rfl;unfold hSx;rw[e,Int.fdiv_eq_ediv_of_nonneg _ (by omega)]
theorem Z7Z {q:Int}(h:U q):U (q/16):=by
 have h0:=h.1;have h1:=h.2;exact⟨by omega,by omega⟩
theorem ZxX {p:Int}(h:U p):∀ n,U (hSn p n)
 | 0=>h
 | n+1=>by
  show U (hSx (hSn p n));rw[Z7Y (ZxX h n).1];exact Z7Z (ZxX h n)
theorem Z8a {q:Int}(h:U q):inX q=true∧rPx q=[hBx q]∧hxV (((hBx q).toNat:Nat):Int)=q % 16∧Z9Q (((hBx q).toNat:Nat):Int)=true∧decide (0≤q.tmod 16∧q.tmod 16≤u64.wrap (q.tmod 16+1)∧u64.wrap (q.tmod 16+1)≤(hxT.length:Int))=true:=by
 unfold inX rPx hBx hC;rw[Z3k h.1,Zrn h];rcases ZoG q with e | e | e | e | e | e | e | e | e | e | e | e | e | e | e | e<;>rw[e]<;>exact⟨by rfl,by rfl,by rfl,by rfl,by rfl⟩
theorem Zuv {p:Int}(h:U p):∀ n,Zx (hxL p n)
 | 0=>fun x hx=>by cases hx
 | n+1=>Za rfl (Za (Z8a (ZxX h n)).1 (Zuv h n))
theorem ZoH (p:Int) (hp:U p) (w:World):Calls prog 43 #[.int .u64 p] w fun e w'=>e= .returned (.string (hxW p))∧Zav w w':=
 Ze (Zq Zd) (Zsy p) (Zuv hp 16) (by rfl) (by rfl) w
end Go.Proofs.YtgefjidphfdhdaaGreatDoor
namespace Go.Proofs.YtgefjidphfdhdaaGreatDoor
open Go.Proofs.Tryz
open Go.IntKind
open Go.KRun Go.Rd
set_option maxRecDepth 100000
def Zz6:List UInt8:=[48,49,50,51,52,53,54,55,56,57,97,98,99,100,101,102]
def Z3l (F:Func):Code:=cIn (cIn (Z1 (sP F 1)))
theorem ZxY:f106.body=some (zg [sP f106 0] (.seq (.seq (Z3 (sP f106 1)) (.block 0 (.loop (Z3l f106)))) (sK f106 2))):=by kernel_rfl
def Zuw (c b i:Int):List Value:=[.int .u8 c,.int .i64 b,undef,undef,.int .i64 0,.int .i64 i]
theorem Z3m (c b:Int):Zh (evL (Zp prog Zf Zo true) 100 [sP f106 0] ([.int .u8 c,.int .i64 b]++List.replicate 14 undef,⟨0,[]⟩,[]) ⟨[],[],[]⟩) 5 11 none [.int .u8 c,.int .i64 b,undef,undef,.int .i64 0] ⟨0,[]⟩ []:=by and_intros<;>kernel_rfl
theorem Z9R (c b:Int) (g:Nat→Value):Zh (evC (Zp prog Zf Zo true) 100 false (Z3 (sP f106 1)) ([.int .u8 c,.int .i64 b,undef,undef,.int .i64 0]++tl 11 g,⟨0,[]⟩,[]) ⟨[],[],[]⟩) 6 10 none (Zuw c b 0) ⟨0,[]⟩ []:=by and_intros<;>kernel_rfl
theorem Z9S (c b i:Int) (g:Nat→Value):Zh (evC (Zp prog Zf Zo true) 100 false (Z3l f106) (Zuw c b i++tl 10 g,⟨0,[]⟩,[cmp false]) ⟨[],[],[]⟩) 6 10 (some (some 0)) (Zuw c b i) ⟨0,[]⟩ [(decide (i<b),false)]:=by and_intros<;>kernel_rfl
theorem Z9T (c b i:Int) (g:Nat→Value):Zh (evC (Zp prog Zf Zo true) 100 false (Z3l f106) (Zuw c b i++tl 10 g,⟨0,[]⟩,[cmp true,cmp true]) ⟨[],[],[]⟩) 5 11 (some none) [.int .u8 c,.int .i64 b,undef,undef,.int .i64 i] ⟨0,[]⟩ [(byR Zz6 i==c,true),(decide (0≤i∧i.toNat<16),true),(decide (i<b),true)]:=by and_intros<;>kernel_rfl
theorem Z9U (c b i:Int) (g:Nat→Value):Zh (evC (Zp prog Zf Zo true) 100 false (Z3l f106) (Zuw c b i++tl 10 g,⟨0,[]⟩,[cmp true,cmp false]) ⟨[],[],[]⟩) 6 10 none (Zuw c b (i64.wrap (i+1))) ⟨0,[]⟩ [(byR Zz6 i==c,false),(decide (0≤i∧i.toNat<16),true),(decide (i<b),true)]:=by and_intros<;>kernel_rfl
theorem Z9V (c b i:Int) (g:Nat→Value):Zh (evC (Zp prog Zf Zo true) 100 false (sK f106 2) (Zuw c b i++tl 10 g,⟨0,[]⟩,[]) ⟨[],[],[]⟩) 5 11 (some none) [.int .u8 c,.int .i64 b,undef,undef,.int .i64 (-1)] ⟨0,[]⟩ []:=by and_intros<;>kernel_rfl
theorem ZoI {i:Nat}(h:i<16):byR Zz6 (i:Int)=if i<10 then 48+(i:Int) else 87+(i:Int):=by
 have k:∀ j:Fin 16,byR Zz6 (j.val:Int)=if j.val<10 then 48+(j.val:Int) else 87+(j.val:Int):=by decide
 exact k ⟨i,h⟩
def Zz7 (c b:Int) (i:Nat) (y:Lf):Prop:=∃ g:Nat→Value,(i:Int)≤b∧(∀ j:Nat,j<i→byR Zz6 (j:Int)≠c)∧y.1=Zuw c b i++tl 10 g∧y.2.1=⟨0,[]⟩
def Z8b (c b:Int) (y:Lf):Prop:=ZW prog f106 y.1 y.2.1=some (.int .i64 (zl c b))
theorem Zsz {c b:Int}(hb:b=10∨b=16) (r:Nat) (y:Lf) (h:∃ i,r=b.toNat-i∧Zz7 c b i y):
  Runs (Zp prog Zf Zo true) (Z3l f106) y fun e z=>match e with | none=>∃ r',r'<r∧∃ i,r'=b.toNat-i∧Zz7 c b i z | some none=>Z8b c b z | some (some id')=>id'=0∧Zz7 c b b.toNat z:=by
 have hT:=Zq Zd;obtain⟨i,hr,g,hi,hn,ht,hh⟩:=h;obtain⟨t,h',sc⟩:=y;simp only at ht hh;subst ht hh;by_cases hc:(i:Int)<b
 ·have lA:decide (((i:Nat):Int)<b)=true:=Xa hc;have lI:decide ((0:Int)≤(i:Nat)∧((i:Nat):Int).toNat<16)=true:=Xa (by omega);have ha:=ZoI (i:=i) (by omega);by_cases hd:byR Zz6 (i:Int)=c
  ·refine (Zb (s0:=sc) hT (Z9T c b (i:Nat) g) (Za (ZN hd) (Za lI (Z6 lA)))).mono fun e z he=> ?_;obtain⟨rfl,⟨g',z1⟩,z2⟩:=he;have e:zl c b=(i:Int):=by
    rw[ha] at hd;unfold zl;split at hd
    ·rw[if_pos (by omega)];omega
    ·rw[if_neg (by omega),if_pos (by omega)];omega
   show ZW prog f106 z.1 z.2.1=some (.int .i64 (zl c b));rw[e,z1,z2];rfl
  ·have hg:=Z9U c b (i:Nat) g;rw[wN (by omega)] at hg;refine (Zb (s0:=sc) hT hg (Za (ZE hd) (Za lI (Z6 lA)))).mono fun e z he=> ?_;obtain⟨rfl,⟨g',z1⟩,z2⟩:=he;refine⟨b.toNat-(i+1),by omega,i+1,rfl,g',by omega,fun j hj=> ?_,z1,z2⟩;by_cases hji:j=i
   ·rw[hji];exact hd
   ·exact hn j (by omega)
 ·have e:i=b.toNat:=by omega
  subst e;refine (Zb (s0:=sc) hT (Z9S c b _ g) (Z6 (Xb hc))).mono fun e z he=> ?_;obtain⟨rfl,⟨g',z1⟩,z2⟩:=he;exact⟨rfl,g',hi,hn,z1,z2⟩
theorem Zs0 {c b:Int}(hb:b=10∨b=16) (w:World):Calls prog 106 #[.int .u8 c,.int .i64 b] w fun r w'=>r= .returned (.int .i64 (zl c b))∧Zav w w':=by
 have hT:=Zq Zd;refine zG (T:=Zp prog Zf Zo true) func106 ZxY (by rfl) (by rfl) ?_ w;refine Z0 hT (Z3m c b) Zbt fun g=> ?_;refine Runs.seq (P1:=fun e y=>match e with | none=>Zz7 c b b.toNat y | some none=>Z8b c b y | some (some _)=>False) ?_ ?_ ?_
 ·refine Runs.seq (Zb hT (Z9R c b g) Zbt) ?_ (fun e y he=>by cases he.1);rintro⟨t,hh,sc⟩ ⟨_,⟨g',e1⟩,e2⟩;simp only at e1 e2;subst e1 e2;exact Runs.forLoop (R:=Z8b c b) (P:=Zz7 c b b.toNat) (fun r y=>∃ i,r=b.toNat-i∧Zz7 c b i y) (Zsz hb) (n:=b.toNat-0) ⟨0,rfl,g',by omega,fun j hj=>absurd hj (Nat.not_lt_zero _),rfl,rfl⟩
 ·rintro⟨t,hh,sc⟩ ⟨g',_,hn,e1,e2⟩;simp only at e1 e2;subst e1 e2;refine (Zb (s0:=sc) hT (Z9V c b _ g') Zbt).mono fun e z he=> ?_;obtain⟨rfl,⟨g2,z1⟩,z2⟩:=he;have e:zl c b= -1:=by
   unfold zl;rw[if_neg,if_neg]
   ·rintro⟨h1,h2,h3⟩;refine hn (c-87).toNat (by omega) ?_;rw[ZoI (by omega),if_neg (by omega)];omega
   ·rintro⟨h2,h3⟩;refine hn (c-48).toNat (by omega) ?_;rw[ZoI (by omega),if_pos (by omega)];omega
  rw[e];exact⟨.inr rfl,by rw[z1,z2];rfl⟩
 ·rintro e y he
  match e,he with
  | none,he=>exact⟨.inr rfl,he⟩
def Z8c:Ans:=fun vals s=>
 match vals with
 | [.int .u8 c,.int .i64 b]=>some (.int .i64 (zl c b),s,[(decide (b=10∨b=16),true)])
 | _=>none
theorem ZxZ:z8 106 Z8c:=by
 intro vals s v s' lg h hl w;unfold Z8c at h;split at h
 ·rename_i c b;cases h;exact Zs0 (Xc (hl _ Xf)) w
 ·cases h
def ZJ:Con:=alt 106 Z8c Zo
theorem Zce:ConOk ZJ:=ZI func106 rfl ZxZ Zd
end Go.Proofs.YtgefjidphfdhdaaGreatDoor
namespace Go.Proofs.YtgefjidphfdhdaaGreatDoor
open Go.Proofs.Tryz
open Go.IntKind
open Go.KRun Go.Nt Go.Rd
set_option maxRecDepth 100000
def rfP (F:Func):List Code:=[Z3 (Zs F),Z3 (Z1 (Zs F))]
def rfI (F:Func):Code:=Z3 (Z3 (Z1 (Z1 (Zs F))))
def rfL (F:Func):Code:=cIn (cIn (Z1 (Z3 (Z1 (Z1 (Zs F))))))
def rfE (F:Func):Code:=Z1 (Z1 (Z1 (Zs F)))
theorem Zya:f111.body=some (zg (rfP f111) (.seq (.seq (rfI f111) (.block 0 (.loop (rfL f111)))) (rfE f111))):=by kernel_rfl
theorem Zkz:TabOk (Zk prog Zf ZJ ZdB):=Zg Zce ZmT
def rfF (l:List UInt8) (b:Int) (out:Value) (i:Int):List Value:=[bR l,.int .i64 b,undef,undef,Zm,out,.int .i64 i]
theorem Z3n (l:List UInt8) (b:Int):Zh (evL (Zk prog Zf ZJ ZdB) 100 (rfP f111) ([bR l,.int .i64 b]++List.replicate 22 undef,⟨0,[]⟩,[]) ⟨[],[],[]⟩) 6 18 none [bR l,.int .i64 b,undef,undef,Zm,Zm] ⟨0,[]⟩ []:=by and_intros<;>kernel_rfl
theorem Z9W (l:List UInt8) (b:Int) (h:Hp) (g:Nat→Value):Zh (evC (Zk prog Zf ZJ ZdB) 100 false (rfI f111) ([bR l,.int .i64 b,undef,undef,Zm,Zm]++tl 18 g,h,[]) ⟨[],[],[]⟩) 7 17 none (rfF l b Zm 0) h []:=by and_intros<;>kernel_rfl
theorem Z9X (l:List UInt8) (b:Int) (out:Value) (i:Int) (h:Hp) (g:Nat→Value):Zh (evC (Zk prog Zf ZJ ZdB) 100 false (rfL f111) (rfF l b out i++tl 17 g,h,[cmp false]) ⟨[],[],[]⟩) 7 17 (some (some 0)) (rfF l b out i) h [(decide (i<(l.length:Nat)),false)]:=by and_intros<;>kernel_rfl
theorem Z8d (l:List UInt8) (b i:Int) (W:Nat) (g:Nat→Value):Zh (evC (Zk prog Zf ZJ ZdB) 100 false (rfL f111) (rfF l b Zm i++tl 17 g,⟨0,[]⟩,[cmp true,cmp true,num W]) ⟨[],[],[]⟩) 7 17 none (rfF l b (sq0 W) (i64.wrap (i+1))) (pA W) [(decide (vO ⟨0,[]⟩ none 0*(u32.wrap b).toNat+(u32.wrap (zl (byR l i) b)).toNat=W),true),(ZaV ⟨0,[]⟩ none 0 0 (u32.wrap b) (u32.wrap (zl (byR l i) b)),true),(decide (0<0∨0<(u32.wrap (zl (byR l i) b))),true),(decide (b=10∨b=16),true),(decide (0≤i∧i.toNat<l.length),true),(decide (i<(l.length:Nat)),true)]:=by and_intros<;>kernel_rfl
theorem Z8e (l:List UInt8) (b i:Int) (V W:Nat) (g:Nat→Value):Zh (evC (Zk prog Zf ZJ ZdB) 100 false (rfL f111) (rfF l b (sq0 V) i++tl 17 g,pA V,[cmp true,cmp true,num W]) ⟨[],[],[]⟩) 7 17 none (rfF l b (sl 1 0 (d16 W).length (d16 W).length) (i64.wrap (i+1))) ⟨2,[wq W,wq V]⟩ [(decide (vO (pA V) (some ⟨0,0,none⟩) (d16 V).length*(u32.wrap b).toNat+(u32.wrap (zl (byR l i) b)).toNat=W),true),(ZaV (pA V) (some ⟨0,0,none⟩) (d16 V).length (d16 V).length (u32.wrap b) (u32.wrap (zl (byR l i) b)),true),(decide (0<(d16 V).length∨0<(u32.wrap (zl (byR l i) b))),true),(decide (b=10∨b=16),true),(decide (0≤i∧i.toNat<l.length),true),(decide (i<(l.length:Nat)),true)]:=by and_intros<;>kernel_rfl
theorem Z9Y (l:List UInt8) (b:Int) (out:Value) (i:Int) (h:Hp) (g:Nat→Value):Zh (evC (Zk prog Zf ZJ ZdB) 100 false (rfE f111) (rfF l b out i++tl 17 g,h,[]) ⟨[],[],[]⟩) 5 19 (some none) [bR l,.int .i64 b,undef,undef,out] h []:=by and_intros<;>kernel_rfl
def Zs1 (b:Int) (l:List UInt8):Bool:=decide ((b=10∨b=16)∧l.length≤20000) && Zac b l && decide (0<zl (byR l 0) b)
theorem Zs2 {b:Int}{l:List UInt8}(h:Zac b l=true) {i:Nat}(hi:i<l.length):0≤zl (byR l (i:Nat)) b:=by
 unfold Zac at h;rw[List.all_eq_true] at h;have h1:=h (l.getD i 0) (by rw[List.getD_eq_getElem?_getD,List.getElem?_eq_getElem hi,Option.getD_some];exact List.getElem_mem hi);unfold byR;rw[Xg];exact Xc h1
theorem Z3o {b:Int}(hb:b=10∨b=16) (l:List UInt8):(d16 (nmB b l)).length≤l.length:=by
 refine Zev (Nat.lt_of_lt_of_le (Zn2 hb l) ?_);have h1:b.toNat^l.length≤16^l.length:=Nat.pow_le_pow_left (by omega) _;have h2:(16:Nat)^l.length=2^(4*l.length):=by rw[Nat.pow_mul]
 have h3:(2:Nat)^(4*l.length)≤2^(16*l.length):=Nat.pow_le_pow_right (by omega) (by omega);omega
def rfS (b:Int) (l:List UInt8) (i:Nat) (y:Lf):Prop:=(i=0∧∃ g,y.1=rfF l b Zm i++tl 17 g∧y.2.1=⟨0,[]⟩)∨(0<i∧0<nmB b (l.take i)∧∃ g,y.1=rfF l b (sq0 (nmB b (l.take i))) i++tl 17 g∧y.2.1=pA (nmB b (l.take i)))
theorem Zs3 {b:Int}{l:List UInt8}(hb:b=10∨b=16) (h2:l.length≤20000) (hA:Zac b l=true) (h0:0<zl (byR l 0) b) (r:Nat) (y:Lf) (h:∃ i,i≤l.length∧r=l.length-i∧rfS b l i y):
  RunsW (Zk prog Zf ZJ ZdB) (rfL f111) y fun e z=>match e with | none=>∃ r',r'<r∧∃ i,i≤l.length∧r'=l.length-i∧rfS b l i z | some none=>False | some (some id')=>id'=0∧rfS b l l.length z:=by
 obtain⟨i,hi,hr,hS⟩:=h;obtain⟨t,h',sc⟩:=y;by_cases hc:i<l.length
 ·have lA:decide (((i:Nat):Int)<(l.length:Nat))=true:=Xa (by omega);have lI:decide ((0:Int)≤(i:Nat)∧((i:Nat):Int).toNat<l.length)=true:=Xa ⟨by omega,by rw[Xg];exact hc⟩;have lB:decide (b=10∨b=16)=true:=Xa hb;have ew:i64.wrap (((i:Nat):Int)+1)=((i+1:Nat):Int):=by rw[Zv (by omega) (by omega)];omega
  have bD:=ZhI (byR l (i:Nat)) b;have bd0:=Zs2 hA hc;have eD:(u32.wrap (zl (byR l (i:Nat)) b))=zl (byR l (i:Nat)) b:=by
   simp [IntKind.wrap,IntKind.bits,IntKind.signed];omega
  have eB:u32.wrap b=b:=by
   simp [IntKind.wrap,IntKind.bits,IntKind.signed];omega
  have eV:=ZrS b l hc;have eC:lq8 (l.getD i 0)=byR l (i:Nat):=by unfold lq8 byR;rw[Xg]
  rw[eC] at eV;rcases hS with ⟨hz,g,ht,hh⟩ | ⟨hz,hp,g,ht,hh⟩
  ·simp only at ht hh;subst ht hh;have hg:=Z8d l b (i:Nat) (nmB b (l.take (i+1))) g;rw[ew,eD,eB] at hg;have d0:0<zl (byR l (i:Nat)) b:=by rw[hz];exact h0
   have e0:nmB b (l.take i)=0:=by rw[hz];rfl
   have k0:ZaV ⟨0,[]⟩ none 0 0 b (zl (byR l (i:Nat)) b)=true:=by
    unfold ZaV;rw[Xa ⟨⟨by omega,by omega⟩,by omega,by omega⟩];rfl
   refine (Zc (s0:=sc) Zkz hg (Za (Xa (by rw[eV,e0,show vO ⟨0,[]⟩ none 0=0 from rfl])) (Za k0 (Za (Xa (.inr d0)) (Za lB (Za lI (Z6 lA))))))).mono fun e z he=> ?_;obtain⟨rfl,⟨g',z1⟩,z2⟩:=he;exact⟨l.length-(i+1),by omega,i+1,by omega,rfl,.inr ⟨by omega,by rw[eV,e0];omega,g',z1,z2⟩⟩
  ·simp only at ht hh;subst ht hh;have lV:=Z3o hb (l.take i);have lT:(l.take i).length≤i:=by rw[List.length_take];omega
   obtain⟨V,hV⟩:∃ V,V=nmB b (l.take i):=⟨_,rfl⟩;rw[← hV] at eV lV hp;have h1:0<(d16 V).length:=by
    unfold d16;rw[List.length_pos_iff,ne_eq,Zc7 (by omega)];omega
   have k1:ZaV (pA V) (some ⟨0,0,none⟩) (d16 V).length (d16 V).length b (zl (byR l (i:Nat)) b)=true:=by
    unfold ZaV;rw[ZQ (h:=pA V) (b:=0) (A:=V) rfl (by omega),zY (h:=pA V) (b:=0) (A:=V) (ty:=tU) rfl,Zl.2 (by omega),Xa ⟨⟨by omega,by omega⟩,by omega,by omega⟩];rfl
   have q1:decide (vO (pA V) (some ⟨0,0,none⟩) (d16 V).length*b.toNat+(zl (byR l (i:Nat)) b).toNat=nmB b (l.take (i+1)))=true:=Xa (by rw[z7 (h:=pA V) (b:=0) (A:=V) (ty:=tU) rfl,eV]);have hg:=Z8e l b (i:Nat) V (nmB b (l.take (i+1))) g;rw[ew,eD,eB] at hg;rw[← hV];have hb0:0<b.toNat:=by omega
   have hW:0<nmB b (l.take (i+1)):=by rw[eV];have:=Nat.mul_pos hp hb0;omega
   refine ((Zc (s0:=sc) Zkz hg (Za q1 (Za k1 (Za (Xa (.inl h1)) (Za lB (Za lI (Z6 lA))))))).kept (k:=0) (b:=1) (base:=[]) (y:=wq (nmB b (l.take (i+1)))) (front':=rfF l b (sq0 (nmB b (l.take (i+1)))) ((i+1:Nat):Int)) rfl (by kernel_rfl) (fun j x hx=>by have:j<0:=Hp.blk_lt hx;omega) rfl (by omega) (ZF _) (by
    intro v hv;simp only[rfF,List.mem_cons,List.not_mem_nil,or_false] at hv;rcases hv with rfl | rfl | rfl | rfl | rfl | rfl | rfl<;>rfl)).mono fun e z he=> ?_
   obtain⟨rfl,⟨g',z1⟩,z2⟩:=he;exact⟨l.length-(i+1),by omega,i+1,by omega,rfl,.inr ⟨by omega,hW,g',z1,z2⟩⟩
 ·have his:i=l.length:=by omega
  have out:∀ (o:Value) (g:Nat→Value),RunsW (Zk prog Zf ZJ ZdB) (rfL f111) (rfF l b o i++tl 17 g,h',sc) fun e z=>e=some (some 0)∧(∃ g,z.1=rfF l b o i++tl 17 g)∧z.2.1=h':=fun o g=>Zc (s0:=sc) Zkz (Z9X l b o (i:Nat) h' g) (Z6 (Xb (by omega)));rw[← his];rcases hS with ⟨hz,g,ht,hh⟩ | ⟨hz,hp,g,ht,hh⟩
  ·simp only at ht hh;subst ht;refine (out _ g).mono fun e z he=> ?_;obtain⟨rfl,⟨g',z1⟩,z2⟩:=he;exact⟨rfl,.inl ⟨hz,g',z1,z2.trans hh⟩⟩
  ·simp only at ht hh;subst ht;refine (out _ g).mono fun e z he=> ?_;obtain⟨rfl,⟨g',z1⟩,z2⟩:=he;exact⟨rfl,.inr ⟨hz,hp,g',z1,z2.trans hh⟩⟩
theorem Zyb {b:Int}{l:List UInt8}(hb:b=10∨b=16) (h2:l.length≤20000) (hA:Zac b l=true) (h0:0<zl (byR l 0) b):RunsW (Zk prog Zf ZJ ZdB) (zg (rfP f111) (.seq (.seq (rfI f111) (.block 0 (.loop (rfL f111)))) (rfE f111))) ([bR l,.int .i64 b]++List.replicate 22 undef,⟨0,[]⟩,[]) fun e z=>(e=none∨e=some none)∧ZW prog f111 z.1 z.2.1=some (sl 0 0 (d16 (nmB b l)).length (d16 (nmB b l)).length)∧∃ r,z.2.1.blk? 0=some (wU (d16 (nmB b l))++r,tU):=by
 refine Zz Zkz (Z3n l b) Zbt fun g=> ?_;refine RunsW.seq (P1:=fun e y=>match e with | none=>rfS b l l.length y | some none=>False | some (some _)=>False) ?_ ?_ ?_
 ·refine RunsW.seq (Zc Zkz (Z9W l b _ g) Zbt) ?_ (fun e y he=>by cases he.1);rintro⟨t,hh,sc⟩ ⟨_,⟨g',e1⟩,e2⟩;refine RunsW.forLoop (R:=fun _=>False) (P:=rfS b l l.length) (fun r y=>∃ i,i≤l.length∧r=l.length-i∧rfS b l i y) (Zs3 hb h2 hA h0) (n:=l.length) ⟨0,by omega,rfl,.inl ⟨rfl,g',e1,e2⟩⟩
 ·rintro⟨t,hh,sc⟩ hS;have et:l.take l.length=l:=List.take_length;rcases hS with ⟨hz,g',e1,e2⟩ | ⟨hz,hp,g',e1,e2⟩
  ·exfalso
   have:l=[]:=List.eq_nil_of_length_eq_zero hz;rw[this] at h0;have e:zl (byR [] 0) b= -1:=by
    unfold byR zl;rw[if_neg (by decide),if_neg (by intro h;exact absurd h.2.1 (by decide))]
   omega
  ·simp only at e1 e2;subst e1 e2;rw[et];refine (Zc (s0:=sc) Zkz (Z9Y l b _ _ _ g') Zbt).mono fun e z he=> ?_;obtain⟨rfl,⟨g2,z1⟩,z2⟩:=he;exact⟨.inr rfl,by rw[z1,z2];rfl,[],by rw[z2,List.append_nil];rfl⟩
 ·rintro e ⟨t,hh,sc⟩ hc
  match e,hc with
  | none,hc=>exact hc.elim
  | some _,hc=>exact hc.elim
def Z8f:Zab:=fun vals h s=>
 match vals,s with
 | [.string ⟨⟨l⟩⟩,.int .i64 b],.inr (.inl V)::s'=>Zdh V.toNat h s' [(decide (nmB b l=V.toNat),true),(Zs1 b l,true)]
 | _,_=>none
theorem Zyc:Z7 111 Z8f:=by
 intro vals h s v h' s' lg hg hl m B w E hv;unfold Z8f at hg;split at hg
 ·rename_i l b V s2;unfold Zdh at hg;cases hg;rw[Zqt,Zqt] at hl;obtain⟨l0,l1,_⟩:=hl;have l0:=Xc l0;rw[← l0];unfold Zs1 at l1;simp only[Xh,Xi] at l1;obtain⟨⟨⟨q1,q2⟩,q3⟩,q4⟩:=l1;have r:=Zyb q1 q2 q3 q4;have e:rn (fun _=>h.n) (sl 0 0 (d16 (nmB b l)).length (d16 (nmB b l)).length)=sl h.n 0 (d16 (nmB b l)).length (d16 (nmB b l)).length:=by kernel_rfl
  have:=ZK (T:=(Zk prog Zf ZJ ZdB)) func111 Zya (h0:=⟨0,[]⟩) ⟨rfl,fun b x hx=>by have:b<0:=Hp.blk_lt hx;omega⟩ (vals:=[bR l,.int .i64 b]) (fun v hv=>by
   simp only[List.mem_cons,List.not_mem_nil,or_false] at hv;rcases hv with h1 | h1<;>rw[h1]<;>rfl) (k:=0) (cs:=wU (d16 (nmB b l))) (ty:=tU) (Zbn _) (by kernel_rfl) r (by rfl) E (s:=fun i=>i) (fun i x hx=>by have:i<0:=Hp.blk_lt hx;omega)
  rw[e] at this;exact this
 ·cases hg
end Go.Proofs.YtgefjidphfdhdaaGreatDoor
namespace Go.Proofs.YtgefjidphfdhdaaGreatDoor
open Go.Proofs.Tryz
open Go.IntKind
open Go.KRun Go.Rd
set_option maxRecDepth 100000
def Zux (F:Func):Code:=cIn (cIn (sP F 3))
def Zz8 (F:Func):Code:=cIn (cIn (sP F 11))
theorem ZoJ:f55.body=some (zg [sP f55 0,sP f55 1,sP f55 2] (.seq (.block 0 (.loop (Zux f55))) (sK f55 4))):=by kernel_rfl
theorem Zbf:sK f55 4=zg [sP f55 4,sP f55 5,sP f55 6,sP f55 7,sP f55 8,sP f55 9,sP f55 10] (.seq (.block 2 (.loop (Zz8 f55))) (sK f55 12)):=by kernel_rfl
def ZcK (b:Int) (D:List UInt8) (k P:Int):List Value×TypeId:=([.bool false,.int .i64 b,bR D,.int .i64 k,.int .i64 P],94)
def zB:List Value×TypeId:=([.bool false,.int .i64 0,bR [],.int .i64 0,.int .i64 0],94)
def ZcL (l:List UInt8) (b i q:Int):List Value:=[bR l,.int .i64 b,undef,undef,pO 0,.bool false,pO 1,.int .i64 i,.int .i64 q]
def Zho (l:List UInt8) (b i q:Int) (mn:Bool):List Value:=[bR l,.int .i64 b,undef,undef,pO 0,.bool false,pO 1,.int .i64 i,.int .i64 q,.bool mn]
def scM (b:Int) (D:List UInt8) (k P:Int):Hp:=⟨2,[ZcK b D k P,zB]⟩
theorem Z3p (l:List UInt8) (b:Int):Zh (evL (Zp prog Zf ZJ true) 100 [sP f55 0,sP f55 1,sP f55 2] ([bR l,.int .i64 b]++List.replicate 147 undef,⟨0,[]⟩,[]) ⟨[],[],[]⟩) 9 140 none (ZcL l b 0 0) (scM b [] 0 0) []:=by and_intros<;>kernel_rfl
theorem Z9Z (l:List UInt8) (b i q:Int) (D:List UInt8) (k P:Int) (g:Nat→Value):Zh (evC (Zp prog Zf ZJ true) 100 false (Zux f55) (ZcL l b i q++tl 140 g,scM b D k P,[cmp false]) ⟨[],[],[]⟩) 9 140 (some (some 0)) (ZcL l b i q) (scM b D k P) [(decide (i<(l.length:Nat)),false)]:=by and_intros<;>kernel_rfl
theorem Z8g (l:List UInt8) (b i q:Int) (D:List UInt8) (k P:Int) (g:Nat→Value):Zh (evC (Zp prog Zf ZJ true) 100 false (Zux f55) (ZcL l b i q++tl 140 g,scM b D k P,[cmp true,cmp false,cmp false]) ⟨[],[],[]⟩) 9 140 (some (some 0)) (ZcL l b i q) (scM b D k P) [(decide (zl (byR l i) b≥0),false),(decide (b=10∨b=16),true),(decide (0≤i∧i.toNat<l.length),true),(byR l i==46,false),(decide (0≤i∧i.toNat<l.length),true),(decide (i<(l.length:Nat)),true)]:=by and_intros<;>kernel_rfl
theorem Z8h (l:List UInt8) (b i q:Int) (D:List UInt8) (k P:Int) (g:Nat→Value):Zh (evC (Zp prog Zf ZJ true) 100 false (Zux f55) (ZcL l b i q++tl 140 g,scM b D k P,[cmp true,cmp true,cmp false,cmp false]) ⟨[],[],[]⟩) 9 140 (some (some 0)) (ZcL l b i q) (scM b D k P) [(decide (zl (byR l i) b≥0),false),(decide (b=10∨b=16),true),(decide (0≤i∧i.toNat<l.length),true),(q==0,false),(byR l i==46,true),(decide (0≤i∧i.toNat<l.length),true),(decide (i<(l.length:Nat)),true)]:=by and_intros<;>kernel_rfl
theorem ZAa (l:List UInt8) (b i q:Int) (D:List UInt8) (k P:Int) (g:Nat→Value):Zh (evC (Zp prog Zf ZJ true) 100 false (Zux f55) (ZcL l b i q++tl 140 g,scM b D k P,[cmp true,cmp true,cmp true,cmp true]) ⟨[],[],[]⟩) 9 140 none (ZcL l b (i64.wrap (i+1)) (i64.wrap (q+1))) (scM b D k P) [(byR l i==46,true),(decide (0≤i∧i.toNat<l.length),true),(q==0,true),(byR l i==46,true),(decide (0≤i∧i.toNat<l.length),true),(decide (i<(l.length:Nat)),true)]:=by and_intros<;>kernel_rfl
theorem ZAb (l:List UInt8) (b i q:Int) (D:List UInt8) (k P:Int) (g:Nat→Value):Zh (evC (Zp prog Zf ZJ true) 100 false (Zux f55) (ZcL l b i q++tl 140 g,scM b D k P,[cmp true,cmp false,cmp true,cmp false,sam true,sam true]) ⟨[],[],[]⟩) 9 140 none (ZcL l b (i64.wrap (i+1)) q) (scM b (D++((l.drop i.toNat).take ((i64.wrap (i+1)).toNat-i.toNat))) (i64.wrap (k+q)) P) [(decide (D.length+((l.drop i.toNat).take ((i64.wrap (i+1)).toNat-i.toNat)).length≤9223372036854775807),true),(decide (0≤i∧i≤(i64.wrap (i+1))∧(i64.wrap (i+1))≤((l.length:Nat):Int)),true),(byR l i==46,false),(decide (0≤i∧i.toNat<l.length),true),(decide (zl (byR l i) b≥0),true),(decide (b=10∨b=16),true),(decide (0≤i∧i.toNat<l.length),true),(byR l i==46,false),(decide (0≤i∧i.toNat<l.length),true),(decide (i<(l.length:Nat)),true)]:=by and_intros<;>kernel_rfl
theorem ZAc (l:List UInt8) (b i q:Int) (D:List UInt8) (k P:Int) (g:Nat→Value):Zh (evC (Zp prog Zf ZJ true) 100 false (sK f55 4) (ZcL l b i q++tl 140 g,scM b D k P,[sam true]) ⟨[],[],[]⟩) 6 143 (some none) [bR l,.int .i64 b,undef,undef,pO 0,.bool false] ⟨2,[ZcK b D k P,ZcK b D k P]⟩ [((⟨⟨D⟩⟩:ByteArray)==⟨⟨[]⟩⟩,true)]:=by and_intros<;>kernel_rfl
theorem ZAd (l:List UInt8) (b i q:Int) (D:List UInt8) (k P:Int) (g:Nat→Value) (d:Bool):Zh (evC (Zp prog Zf ZJ true) 100 false (sK f55 4) (ZcL l b i q++tl 140 g,scM b D k P,[sam false,cmp true,cmp d]) ⟨[],[],[]⟩) 6 143 (some none) [bR l,.int .i64 b,undef,undef,pO 0,.bool d] ⟨2,[ZcK b D k P,ZcK b D k P]⟩ [(b==10,d),(i==(l.length:Nat),true),((⟨⟨D⟩⟩:ByteArray)==⟨⟨[]⟩⟩,false)]:=by and_intros<;>kernel_rfl
theorem Z8i (l:List UInt8) (b i q:Int) (D:List UInt8) (k P:Int) (g:Nat→Value):Zh (evC (Zp prog Zf ZJ true) 100 false (sK f55 4) (ZcL l b i q++tl 140 g,scM b D k P,[sam false,cmp false,cmp true,cmp true]) ⟨[],[],[]⟩) 6 143 (some none) [bR l,.int .i64 b,undef,undef,pO 0,.bool false] ⟨2,[ZcK b D k P,ZcK b D k P]⟩ [(byR l i !=101,true),(decide (0≤i∧i.toNat<l.length),true),(b==10,true),(i==(l.length:Nat),false),((⟨⟨D⟩⟩:ByteArray)==⟨⟨[]⟩⟩,false)]:=by and_intros<;>kernel_rfl
theorem Z8j (l:List UInt8) (b i q:Int) (D:List UInt8) (k P:Int) (g:Nat→Value):Zh (evC (Zp prog Zf ZJ true) 100 false (sK f55 4) (ZcL l b i q++tl 140 g,scM b D k P,[sam false,cmp false,cmp false,cmp true,cmp true]) ⟨[],[],[]⟩) 6 143 (some none) [bR l,.int .i64 b,undef,undef,pO 0,.bool false] ⟨2,[ZcK b D k P,ZcK b D k P]⟩ [(byR l i !=112,true),(decide (0≤i∧i.toNat<l.length),true),(b==16,true),(b==10,false),(i==(l.length:Nat),false),((⟨⟨D⟩⟩:ByteArray)==⟨⟨[]⟩⟩,false)]:=by and_intros<;>kernel_rfl
theorem Z8k (l:List UInt8) (b i q:Int) (D:List UInt8) (k P:Int) (g:Nat→Value):Zh (evC (Zp prog Zf ZJ true) 100 false (sK f55 4) (ZcL l b i q++tl 140 g,scM b D k P,[sam false,cmp false,cmp true,cmp false,cmp false,cmp false,cmp false,cmp true]) ⟨[],[],[]⟩) 6 143 (some none) [bR l,.int .i64 b,undef,undef,pO 0,.bool false] ⟨2,[ZcK b D k P,ZcK b D k P]⟩ [((i64.wrap (i+1))==(l.length:Nat),true),(decide ((i64.wrap (i+1))<(l.length:Nat)),false),(decide ((i64.wrap (i+1))<(l.length:Nat)),false),(b==16,false),(byR l i !=101,false),(decide (0≤i∧i.toNat<l.length),true),(b==10,true),(i==(l.length:Nat),false),((⟨⟨D⟩⟩:ByteArray)==⟨⟨[]⟩⟩,false)]:=by and_intros<;>kernel_rfl
theorem Z3q (l:List UInt8) (b i q:Int) (D:List UInt8) (k P:Int) (g:Nat→Value):Zh (evC (Zp prog Zf ZJ true) 100 false (sK f55 4) (ZcL l b i q++tl 140 g,scM b D k P,[sam false,cmp false,cmp true,cmp false,cmp false,cmp true,cmp true,cmp true,cmp true,cmp true]) ⟨[],[],[]⟩) 6 143 (some none) [bR l,.int .i64 b,undef,undef,pO 0,.bool false] ⟨2,[ZcK b D k P,ZcK b D k P]⟩ [((i64.wrap ((i64.wrap (i+1))+1))==(l.length:Nat),true),(byR l (i64.wrap (i+1))==45,true),(decide (0≤(i64.wrap (i+1))∧(i64.wrap (i+1)).toNat<l.length),true),(decide ((i64.wrap (i+1))<(l.length:Nat)),true),(byR l (i64.wrap (i+1))==45,true),(decide (0≤(i64.wrap (i+1))∧(i64.wrap (i+1)).toNat<l.length),true),(decide ((i64.wrap (i+1))<(l.length:Nat)),true),(b==16,false),(byR l i !=101,false),(decide (0≤i∧i.toNat<l.length),true),(b==10,true),(i==(l.length:Nat),false),((⟨⟨D⟩⟩:ByteArray)==⟨⟨[]⟩⟩,false)]:=by and_intros<;>kernel_rfl
theorem Z3r (l:List UInt8) (b i q:Int) (D:List UInt8) (k P:Int) (g:Nat→Value):Zh (evL (Zp prog Zf ZJ true) 100 [sP f55 4,sP f55 5,sP f55 6,sP f55 7,sP f55 8,sP f55 9,sP f55 10] (ZcL l b i q++tl 140 g,scM b D k P,[sam false,cmp false,cmp true,cmp false,cmp false,cmp true,cmp true,cmp true,cmp true,cmp false]) ⟨[],[],[]⟩) 10 139 none (Zho l b (i64.wrap ((i64.wrap (i+1))+1)) q true) (scM b D k P) [((i64.wrap ((i64.wrap (i+1))+1))==(l.length:Nat),false),(byR l (i64.wrap (i+1))==45,true),(decide (0≤(i64.wrap (i+1))∧(i64.wrap (i+1)).toNat<l.length),true),(decide ((i64.wrap (i+1))<(l.length:Nat)),true),(byR l (i64.wrap (i+1))==45,true),(decide (0≤(i64.wrap (i+1))∧(i64.wrap (i+1)).toNat<l.length),true),(decide ((i64.wrap (i+1))<(l.length:Nat)),true),(b==16,false),(byR l i !=101,false),(decide (0≤i∧i.toNat<l.length),true),(b==10,true),(i==(l.length:Nat),false),((⟨⟨D⟩⟩:ByteArray)==⟨⟨[]⟩⟩,false)]:=by and_intros<;>kernel_rfl
theorem Z3s (l:List UInt8) (b i q:Int) (D:List UInt8) (k P:Int) (g:Nat→Value):Zh (evC (Zp prog Zf ZJ true) 100 false (sK f55 4) (ZcL l b i q++tl 140 g,scM b D k P,[sam false,cmp false,cmp true,cmp false,cmp false,cmp true,cmp false,cmp true,cmp false,cmp true,cmp true]) ⟨[],[],[]⟩) 6 143 (some none) [bR l,.int .i64 b,undef,undef,pO 0,.bool false] ⟨2,[ZcK b D k P,ZcK b D k P]⟩ [((i64.wrap ((i64.wrap (i+1))+1))==(l.length:Nat),true),(byR l (i64.wrap (i+1))==43,true),(decide (0≤(i64.wrap (i+1))∧(i64.wrap (i+1)).toNat<l.length),true),(byR l (i64.wrap (i+1))==45,false),(decide (0≤(i64.wrap (i+1))∧(i64.wrap (i+1)).toNat<l.length),true),(decide ((i64.wrap (i+1))<(l.length:Nat)),true),(byR l (i64.wrap (i+1))==45,false),(decide (0≤(i64.wrap (i+1))∧(i64.wrap (i+1)).toNat<l.length),true),(decide ((i64.wrap (i+1))<(l.length:Nat)),true),(b==16,false),(byR l i !=101,false),(decide (0≤i∧i.toNat<l.length),true),(b==10,true),(i==(l.length:Nat),false),((⟨⟨D⟩⟩:ByteArray)==⟨⟨[]⟩⟩,false)]:=by and_intros<;>kernel_rfl
theorem Z3t (l:List UInt8) (b i q:Int) (D:List UInt8) (k P:Int) (g:Nat→Value):Zh (evL (Zp prog Zf ZJ true) 100 [sP f55 4,sP f55 5,sP f55 6,sP f55 7,sP f55 8,sP f55 9,sP f55 10] (ZcL l b i q++tl 140 g,scM b D k P,[sam false,cmp false,cmp true,cmp false,cmp false,cmp true,cmp false,cmp true,cmp false,cmp true,cmp false]) ⟨[],[],[]⟩) 10 139 none (Zho l b (i64.wrap ((i64.wrap (i+1))+1)) q false) (scM b D k P) [((i64.wrap ((i64.wrap (i+1))+1))==(l.length:Nat),false),(byR l (i64.wrap (i+1))==43,true),(decide (0≤(i64.wrap (i+1))∧(i64.wrap (i+1)).toNat<l.length),true),(byR l (i64.wrap (i+1))==45,false),(decide (0≤(i64.wrap (i+1))∧(i64.wrap (i+1)).toNat<l.length),true),(decide ((i64.wrap (i+1))<(l.length:Nat)),true),(byR l (i64.wrap (i+1))==45,false),(decide (0≤(i64.wrap (i+1))∧(i64.wrap (i+1)).toNat<l.length),true),(decide ((i64.wrap (i+1))<(l.length:Nat)),true),(b==16,false),(byR l i !=101,false),(decide (0≤i∧i.toNat<l.length),true),(b==10,true),(i==(l.length:Nat),false),((⟨⟨D⟩⟩:ByteArray)==⟨⟨[]⟩⟩,false)]:=by and_intros<;>kernel_rfl
theorem Z3u (l:List UInt8) (b i q:Int) (D:List UInt8) (k P:Int) (g:Nat→Value):Zh (evL (Zp prog Zf ZJ true) 100 [sP f55 4,sP f55 5,sP f55 6,sP f55 7,sP f55 8,sP f55 9,sP f55 10] (ZcL l b i q++tl 140 g,scM b D k P,[sam false,cmp false,cmp true,cmp false,cmp false,cmp true,cmp false,cmp true,cmp false,cmp false,cmp false]) ⟨[],[],[]⟩) 10 139 none (Zho l b (i64.wrap (i+1)) q false) (scM b D k P) [((i64.wrap (i+1))==(l.length:Nat),false),(byR l (i64.wrap (i+1))==43,false),(decide (0≤(i64.wrap (i+1))∧(i64.wrap (i+1)).toNat<l.length),true),(byR l (i64.wrap (i+1))==45,false),(decide (0≤(i64.wrap (i+1))∧(i64.wrap (i+1)).toNat<l.length),true),(decide ((i64.wrap (i+1))<(l.length:Nat)),true),(byR l (i64.wrap (i+1))==45,false),(decide (0≤(i64.wrap (i+1))∧(i64.wrap (i+1)).toNat<l.length),true),(decide ((i64.wrap (i+1))<(l.length:Nat)),true),(b==16,false),(byR l i !=101,false),(decide (0≤i∧i.toNat<l.length),true),(b==10,true),(i==(l.length:Nat),false),((⟨⟨D⟩⟩:ByteArray)==⟨⟨[]⟩⟩,false)]:=by and_intros<;>kernel_rfl
theorem Z8l (l:List UInt8) (b i q:Int) (D:List UInt8) (k P:Int) (g:Nat→Value):Zh (evC (Zp prog Zf ZJ true) 100 false (sK f55 4) (ZcL l b i q++tl 140 g,scM b D k P,[sam false,cmp false,cmp false,cmp true,cmp false,cmp false,cmp false,cmp true]) ⟨[],[],[]⟩) 6 143 (some none) [bR l,.int .i64 b,undef,undef,pO 0,.bool false] ⟨2,[ZcK b D k P,ZcK b D k P]⟩ [((i64.wrap (i+1))==(l.length:Nat),true),(decide ((i64.wrap (i+1))<(l.length:Nat)),false),(decide ((i64.wrap (i+1))<(l.length:Nat)),false),(byR l i !=112,false),(decide (0≤i∧i.toNat<l.length),true),(b==16,true),(b==10,false),(i==(l.length:Nat),false),((⟨⟨D⟩⟩:ByteArray)==⟨⟨[]⟩⟩,false)]:=by and_intros<;>kernel_rfl
theorem Z3v (l:List UInt8) (b i q:Int) (D:List UInt8) (k P:Int) (g:Nat→Value):Zh (evC (Zp prog Zf ZJ true) 100 false (sK f55 4) (ZcL l b i q++tl 140 g,scM b D k P,[sam false,cmp false,cmp false,cmp true,cmp false,cmp true,cmp true,cmp true,cmp true,cmp true]) ⟨[],[],[]⟩) 6 143 (some none) [bR l,.int .i64 b,undef,undef,pO 0,.bool false] ⟨2,[ZcK b D k P,ZcK b D k P]⟩ [((i64.wrap ((i64.wrap (i+1))+1))==(l.length:Nat),true),(byR l (i64.wrap (i+1))==45,true),(decide (0≤(i64.wrap (i+1))∧(i64.wrap (i+1)).toNat<l.length),true),(decide ((i64.wrap (i+1))<(l.length:Nat)),true),(byR l (i64.wrap (i+1))==45,true),(decide (0≤(i64.wrap (i+1))∧(i64.wrap (i+1)).toNat<l.length),true),(decide ((i64.wrap (i+1))<(l.length:Nat)),true),(byR l i !=112,false),(decide (0≤i∧i.toNat<l.length),true),(b==16,true),(b==10,false),(i==(l.length:Nat),false),((⟨⟨D⟩⟩:ByteArray)==⟨⟨[]⟩⟩,false)]:=by and_intros<;>kernel_rfl
theorem Z3w (l:List UInt8) (b i q:Int) (D:List UInt8) (k P:Int) (g:Nat→Value):Zh (evL (Zp prog Zf ZJ true) 100 [sP f55 4,sP f55 5,sP f55 6,sP f55 7,sP f55 8,sP f55 9,sP f55 10] (ZcL l b i q++tl 140 g,scM b D k P,[sam false,cmp false,cmp false,cmp true,cmp false,cmp true,cmp true,cmp true,cmp true,cmp false]) ⟨[],[],[]⟩) 10 139 none (Zho l b (i64.wrap ((i64.wrap (i+1))+1)) q true) (scM b D k P) [((i64.wrap ((i64.wrap (i+1))+1))==(l.length:Nat),false),(byR l (i64.wrap (i+1))==45,true),(decide (0≤(i64.wrap (i+1))∧(i64.wrap (i+1)).toNat<l.length),true),(decide ((i64.wrap (i+1))<(l.length:Nat)),true),(byR l (i64.wrap (i+1))==45,true),(decide (0≤(i64.wrap (i+1))∧(i64.wrap (i+1)).toNat<l.length),true),(decide ((i64.wrap (i+1))<(l.length:Nat)),true),(byR l i !=112,false),(decide (0≤i∧i.toNat<l.length),true),(b==16,true),(b==10,false),(i==(l.length:Nat),false),((⟨⟨D⟩⟩:ByteArray)==⟨⟨[]⟩⟩,false)]:=by and_intros<;>kernel_rfl
theorem Z3x (l:List UInt8) (b i q:Int) (D:List UInt8) (k P:Int) (g:Nat→Value):Zh (evC (Zp prog Zf ZJ true) 100 false (sK f55 4) (ZcL l b i q++tl 140 g,scM b D k P,[sam false,cmp false,cmp false,cmp true,cmp false,cmp true,cmp false,cmp true,cmp false,cmp true,cmp true]) ⟨[],[],[]⟩) 6 143 (some none) [bR l,.int .i64 b,undef,undef,pO 0,.bool false] ⟨2,[ZcK b D k P,ZcK b D k P]⟩ [((i64.wrap ((i64.wrap (i+1))+1))==(l.length:Nat),true),(byR l (i64.wrap (i+1))==43,true),(decide (0≤(i64.wrap (i+1))∧(i64.wrap (i+1)).toNat<l.length),true),(byR l (i64.wrap (i+1))==45,false),(decide (0≤(i64.wrap (i+1))∧(i64.wrap (i+1)).toNat<l.length),true),(decide ((i64.wrap (i+1))<(l.length:Nat)),true),(byR l (i64.wrap (i+1))==45,false),(decide (0≤(i64.wrap (i+1))∧(i64.wrap (i+1)).toNat<l.length),true),(decide ((i64.wrap (i+1))<(l.length:Nat)),true),(byR l i !=112,false),(decide (0≤i∧i.toNat<l.length),true),(b==16,true),(b==10,false),(i==(l.length:Nat),false),((⟨⟨D⟩⟩:ByteArray)==⟨⟨[]⟩⟩,false)]:=by and_intros<;>kernel_rfl
theorem Z3y (l:List UInt8) (b i q:Int) (D:List UInt8) (k P:Int) (g:Nat→Value):Zh (evL (Zp prog Zf ZJ true) 100 [sP f55 4,sP f55 5,sP f55 6,sP f55 7,sP f55 8,sP f55 9,sP f55 10] (ZcL l b i q++tl 140 g,scM b D k P,[sam false,cmp false,cmp false,cmp true,cmp false,cmp true,cmp false,cmp true,cmp false,cmp true,cmp false]) ⟨[],[],[]⟩) 10 139 none (Zho l b (i64.wrap ((i64.wrap (i+1))+1)) q false) (scM b D k P) [((i64.wrap ((i64.wrap (i+1))+1))==(l.length:Nat),false),(byR l (i64.wrap (i+1))==43,true),(decide (0≤(i64.wrap (i+1))∧(i64.wrap (i+1)).toNat<l.length),true),(byR l (i64.wrap (i+1))==45,false),(decide (0≤(i64.wrap (i+1))∧(i64.wrap (i+1)).toNat<l.length),true),(decide ((i64.wrap (i+1))<(l.length:Nat)),true),(byR l (i64.wrap (i+1))==45,false),(decide (0≤(i64.wrap (i+1))∧(i64.wrap (i+1)).toNat<l.length),true),(decide ((i64.wrap (i+1))<(l.length:Nat)),true),(byR l i !=112,false),(decide (0≤i∧i.toNat<l.length),true),(b==16,true),(b==10,false),(i==(l.length:Nat),false),((⟨⟨D⟩⟩:ByteArray)==⟨⟨[]⟩⟩,false)]:=by and_intros<;>kernel_rfl
theorem Z3z (l:List UInt8) (b i q:Int) (D:List UInt8) (k P:Int) (g:Nat→Value):Zh (evL (Zp prog Zf ZJ true) 100 [sP f55 4,sP f55 5,sP f55 6,sP f55 7,sP f55 8,sP f55 9,sP f55 10] (ZcL l b i q++tl 140 g,scM b D k P,[sam false,cmp false,cmp false,cmp true,cmp false,cmp true,cmp false,cmp true,cmp false,cmp false,cmp false]) ⟨[],[],[]⟩) 10 139 none (Zho l b (i64.wrap (i+1)) q false) (scM b D k P) [((i64.wrap (i+1))==(l.length:Nat),false),(byR l (i64.wrap (i+1))==43,false),(decide (0≤(i64.wrap (i+1))∧(i64.wrap (i+1)).toNat<l.length),true),(byR l (i64.wrap (i+1))==45,false),(decide (0≤(i64.wrap (i+1))∧(i64.wrap (i+1)).toNat<l.length),true),(decide ((i64.wrap (i+1))<(l.length:Nat)),true),(byR l (i64.wrap (i+1))==45,false),(decide (0≤(i64.wrap (i+1))∧(i64.wrap (i+1)).toNat<l.length),true),(decide ((i64.wrap (i+1))<(l.length:Nat)),true),(byR l i !=112,false),(decide (0≤i∧i.toNat<l.length),true),(b==16,true),(b==10,false),(i==(l.length:Nat),false),((⟨⟨D⟩⟩:ByteArray)==⟨⟨[]⟩⟩,false)]:=by and_intros<;>kernel_rfl
theorem ZAe (l:List UInt8) (b i q:Int) (mn:Bool) (D:List UInt8) (k P:Int) (g:Nat→Value):Zh (evC (Zp prog Zf ZJ true) 100 false (Zz8 f55) (Zho l b i q mn++tl 139 g,scM b D k P,[cmp false]) ⟨[],[],[]⟩) 10 139 (some (some 2)) (Zho l b i q mn) (scM b D k P) [(decide (i<(l.length:Nat)),false)]:=by and_intros<;>kernel_rfl
theorem ZAf (l:List UInt8) (b i q:Int) (mn:Bool) (D:List UInt8) (k P:Int) (g:Nat→Value):Zh (evC (Zp prog Zf ZJ true) 100 false (Zz8 f55) (Zho l b i q mn++tl 139 g,scM b D k P,[cmp true,cmp true]) ⟨[],[],[]⟩) 6 143 (some none) [bR l,.int .i64 b,undef,undef,pO 0,.bool false] ⟨2,[ZcK b D k P,ZcK b D k P]⟩ [(decide (zl (byR l i) 10<0),true),(true,true),(decide (0≤i∧i.toNat<l.length),true),(decide (i<(l.length:Nat)),true)]:=by and_intros<;>kernel_rfl
theorem ZAg (l:List UInt8) (b i q:Int) (mn:Bool) (D:List UInt8) (k P:Int) (g:Nat→Value):Zh (evC (Zp prog Zf ZJ true) 100 false (Zz8 f55) (Zho l b i q mn++tl 139 g,scM b D k P,[cmp true,cmp false]) ⟨[],[],[]⟩) 10 139 none (Zho l b (i64.wrap (i+1)) q mn) (scM b D k (if 2000000<(i64.wrap (i64.wrap (10*P)+zl (byR l i) 10)) then 2000000 else (i64.wrap (i64.wrap (10*P)+zl (byR l i) 10)))) [(true,true),(true,true),(decide (0≤i∧i.toNat<l.length),true),(decide (zl (byR l i) 10<0),false),(true,true),(decide (0≤i∧i.toNat<l.length),true),(decide (i<(l.length:Nat)),true)]:=by and_intros<;>kernel_rfl
theorem ZAh (l:List UInt8) (b i q:Int) (D:List UInt8) (k P:Int) (g:Nat→Value):Zh (evC (Zp prog Zf ZJ true) 100 false (sK f55 12) (Zho l b i q true++tl 139 g,scM b D k P,[]) ⟨[],[],[]⟩) 6 143 (some none) [bR l,.int .i64 b,undef,undef,pO 0,.bool true] ⟨2,[ZcK b D k (i64.wrap (0-P)),ZcK b D k (i64.wrap (0-P))]⟩ []:=by and_intros<;>kernel_rfl
theorem ZAi (l:List UInt8) (b i q:Int) (D:List UInt8) (k P:Int) (g:Nat→Value):Zh (evC (Zp prog Zf ZJ true) 100 false (sK f55 12) (Zho l b i q false++tl 139 g,scM b D k P,[]) ⟨[],[],[]⟩) 6 143 (some none) [bR l,.int .i64 b,undef,undef,pO 0,.bool true] ⟨2,[ZcK b D k P,ZcK b D k P]⟩ []:=by and_intros<;>kernel_rfl
end Go.Proofs.YtgefjidphfdhdaaGreatDoor
namespace Go.Proofs.YtgefjidphfdhdaaGreatDoor
open Go.Proofs.Tryz
open Go.IntKind
open Go.KRun Go.Nt Go.Rd
set_option maxRecDepth 100000
def q1R (p:Bool):Int:=if p=true then 1 else 0
def scS (b:Int) (l:List UInt8) (i:Nat) (y:Lf):Prop:=∃ (p:Bool) (D:List UInt8) (k:Nat) (g:Nat→Value),i≤l.length∧D.length≤i∧k≤i∧sc1 b false l=(D++(sc1 b p (l.drop i)).1,k+(sc1 b p (l.drop i)).2.1,(sc1 b p (l.drop i)).2.2)∧y.1=ZcL l b i (q1R p)++tl 140 g∧y.2.1=scM b D k 0
def scO (b:Int) (l:List UInt8) (y:Lf):Prop:=∃ (i:Nat) (p:Bool) (D:List UInt8) (k:Nat) (g:Nat→Value),i≤l.length∧D.length≤i∧k≤i∧sc1 b false l=(D,k,l.drop i)∧y.1=ZcL l b i (q1R p)++tl 140 g∧y.2.1=scM b D k 0
theorem Zs4 {b:Int}{l:List UInt8}(hb:b=10∨b=16) (h2:l.length≤100000) (r:Nat) (y:Lf) (h:∃ i,r=l.length-i∧scS b l i y):
  Runs (Zp prog Zf ZJ true) (Zux f55) y fun e z=>match e with | none=>∃ r',r'<r∧∃ i,r'=l.length-i∧scS b l i z | some none=>False | some (some id')=>id'=0∧scO b l z:=by
 have hT:=Zq Zce;obtain⟨i,hr,p,D,k,g,hi,hD,hk,hS,ht,hh⟩:=h;obtain⟨t,h',sc⟩:=y;simp only at ht hh;subst ht hh;by_cases hc:i<l.length
 ·have lA:decide (((i:Nat):Int)<(l.length:Nat))=true:=Xa (by omega);have lI:decide ((0:Int)≤(i:Nat)∧((i:Nat):Int).toNat<l.length)=true:=Xa ⟨by omega,by rw[Xg];exact hc⟩;have lB:decide (b=10∨b=16)=true:=Xa hb;have ew:=wN (n:=i) (by omega);have ed:=ZcE hc;have eC:lq8 (l.getD i 0)=byR l (i:Nat):=by unfold lq8 byR;rw[Xg]
  by_cases h46:byR l (i:Nat)=46
  ·have c46:(byR l (i:Nat)==46)=true:=ZN h46;cases p with
   | false=>
    have hg:=ZAa l b (i:Nat) (q1R false) D k 0 g;rw[ew] at hg;refine (Zb (s0:=sc) hT hg (Za c46 (Za lI (Za (by decide) (Za c46 (Za lI (Z6 lA))))))).mono fun e z he=> ?_;obtain⟨rfl,⟨g',z1⟩,z2⟩:=he;have es:sc1 b false (l.drop i)=sc1 b true (l.drop (i+1)):=by
     rw[ed];unfold sc1;rw[eC,if_pos ⟨h46,rfl⟩];exact sc1.eq_def b true _ ▸ rfl
    rw[es] at hS;exact⟨l.length-(i+1),by omega,i+1,rfl,true,D,k,g',by omega,by omega,by omega,hS,z1,z2⟩
   | true=>
    have hn:zl (byR l (i:Nat)) b= -1:=by
     rw[h46];unfold zl;rw[if_neg (by omega),if_neg (by omega)]
    refine (Zb (s0:=sc) hT (Z8h l b (i:Nat) (q1R true) D k 0 g) (Za (Xb (by rw[hn];decide)) (Za lB (Za lI (Za (by decide) (Za c46 (Za lI (Z6 lA)))))))).mono fun e z he=> ?_;obtain⟨rfl,⟨g',z1⟩,z2⟩:=he;have es:sc1 b true (l.drop i)=([],0,l.drop i):=by
     rw[ed,sc1,eC,if_neg (fun h=>by cases h.2),if_neg (by rw[hn];decide)]
    rw[es] at hS;simp only[List.append_nil,Nat.add_zero] at hS;exact⟨rfl,i,true,D,k,g',hi,hD,hk,hS,z1,z2⟩
  ·have c46:(byR l (i:Nat)==46)=false:=ZE h46;by_cases hd:0≤zl (byR l (i:Nat)) b
   ·have hg:=ZAb l b (i:Nat) (q1R p) D k 0 g;rw[ew] at hg;have ep:(l.drop ((i:Nat):Int).toNat).take (((i+1:Nat):Int).toNat-((i:Nat):Int).toNat)=[l.getD i 0]:=by
     rw[Xg,Xg,show i+1-i=1 by omega,ed];rfl
    rw[ep] at hg;have ek:i64.wrap (((k:Nat):Int)+q1R p)=((k+(if p=true then 1 else 0):Nat):Int):=by
     unfold q1R;rw[Zv (by split<;>omega) (by split<;>omega)];split<;>omega
    rw[ek] at hg;refine (Zb (s0:=sc) hT hg (Za (Xa (by rw[List.length_singleton];omega)) (Za (Xa ⟨by omega,by omega,by omega⟩) (Za c46 (Za lI (Za (Xa hd) (Za lB (Za lI (Za c46 (Za lI (Z6 lA))))))))))).mono fun e z he=> ?_;obtain⟨rfl,⟨g',z1⟩,z2⟩:=he;have es:sc1 b p (l.drop i)=(l.getD i 0::(sc1 b p (l.drop (i+1))).1,(if p=true then 1 else 0)+(sc1 b p (l.drop (i+1))).2.1,(sc1 b p (l.drop (i+1))).2.2):=by
     rw[ed,sc1,eC,if_neg (fun h=>h46 h.1),if_pos hd]
    rw[es] at hS;refine⟨l.length-(i+1),by omega,i+1,rfl,p,D++[l.getD i 0],k+(if p=true then 1 else 0),g',by omega,by rw[List.length_append,List.length_singleton];omega,by split<;>omega,?_,z1,z2⟩;rw[hS];simp only[List.append_assoc,List.singleton_append,Nat.add_assoc]
   ·have es:sc1 b p (l.drop i)=([],0,l.drop i):=by
     rw[ed,sc1,eC,if_neg (fun h=>h46 h.1),if_neg hd]
    refine (Zb (s0:=sc) hT (Z8g l b (i:Nat) (q1R p) D k 0 g) (Za (Xb (by omega)) (Za lB (Za lI (Za c46 (Za lI (Z6 lA))))))).mono fun e z he=> ?_;obtain⟨rfl,⟨g',z1⟩,z2⟩:=he;rw[es] at hS;simp only[List.append_nil,Nat.add_zero] at hS;exact⟨rfl,i,p,D,k,g',hi,hD,hk,hS,z1,z2⟩
 ·have es:l.drop i=[]:=List.drop_eq_nil_of_le (by omega);refine (Zb (s0:=sc) hT (Z9Z l b (i:Nat) (q1R p) D k 0 g) (Z6 (Xb (by omega)))).mono fun e z he=> ?_;obtain⟨rfl,⟨g',z1⟩,z2⟩:=he;refine⟨rfl,i,p,D,k,g',hi,hD,hk,?_,z1,z2⟩;rw[hS,es,sc1];simp only[List.append_nil,Nat.add_zero]
def scW (b:Int) (D:List UInt8) (k:Nat) (P:Int) (v:Bool):Value:= .tuple #[.agg #[.bool false,.int .i64 b,bR D,.int .i64 k,.int .i64 P],.bool v]
def scZ (b:Int) (D:List UInt8) (k:Nat) (P:Int) (v:Bool) (e:Ex) (z:Lf):Prop:=(e=none∨e=some none)∧ZW prog f55 z.1 z.2.1=some (scW b D k P v)
theorem Zbg {l:List UInt8}{b:Int}{D:List UInt8}{k:Nat}{P:Int}{v:Bool}{e:Ex}{z:Lf}(h:e=some none∧(∃ g,z.1=[bR l,.int .i64 b,undef,undef,pO 0,.bool v]++tl 143 g)∧z.2.1=⟨2,[ZcK b D k P,ZcK b D k P]⟩):scZ b D k P v e z:=by
 obtain⟨rfl,⟨g,z1⟩,z2⟩:=h;exact⟨.inr rfl,by rw[z1,z2];rfl⟩
def pwJ (b q:Int) (mn:Bool) (l:List UInt8) (D:List UInt8) (k:Nat) (X:Nat×Bool) (i:Nat) (y:Lf):Prop:=∃ (a:Nat) (g:Nat→Value),i≤l.length∧a≤2000000∧X=pw1 a (l.drop i)∧y.1=Zho l b i q mn++tl 139 g∧y.2.1=scM b D k a
def pwO (b q:Int) (mn:Bool) (l:List UInt8) (D:List UInt8) (k:Nat) (X:Nat×Bool) (y:Lf):Prop:=∃ (a i:Nat) (g:Nat→Value),a≤2000000∧X=(a,true)∧y.1=Zho l b i q mn++tl 139 g∧y.2.1=scM b D k a
def pwB (b:Int) (D:List UInt8) (k:Nat) (X:Nat×Bool) (y:Lf):Prop:=X.2=false∧scZ b D k (X.1:Nat) false (some none) y
theorem ZoK {b q:Int}{mn:Bool}{l D:List UInt8}{k:Nat}{X:Nat×Bool}(h2:l.length≤100000) (r:Nat) (y:Lf) (h:∃ i,r=l.length-i∧pwJ b q mn l D k X i y):
  Runs (Zp prog Zf ZJ true) (Zz8 f55) y fun e z=>match e with | none=>∃ r',r'<r∧∃ i,r'=l.length-i∧pwJ b q mn l D k X i z | some none=>pwB b D k X z | some (some id')=>id'=2∧pwO b q mn l D k X z:=by
 have hT:=Zq Zce;obtain⟨i,hr,a,g,hi,ha,hX,ht,hh⟩:=h;obtain⟨t,h',sc⟩:=y;simp only at ht hh;subst ht hh;by_cases hc:i<l.length
 ·have lA:decide (((i:Nat):Int)<(l.length:Nat))=true:=Xa (by omega);have lI:decide ((0:Int)≤(i:Nat)∧((i:Nat):Int).toNat<l.length)=true:=Xa ⟨by omega,by rw[Xg];exact hc⟩;have ew:=wN (n:=i) (by omega);have ed:=ZcE hc;have eC:lq8 (l.getD i 0)=byR l (i:Nat):=by unfold lq8 byR;rw[Xg]
  have bD:=ZhI (byR l (i:Nat)) 10;by_cases hd:0≤zl (byR l (i:Nat)) 10
  ·have hg:=ZAg l b (i:Nat) q mn D k a g;have ev:i64.wrap (i64.wrap (10*((a:Nat):Int))+zl (byR l (i:Nat)) 10)=10*((a:Nat):Int)+zl (byR l (i:Nat)) 10:=by
    rw[Zv (n:=10*((a:Nat):Int)) (by omega) (by omega),Zv (by omega) (by omega)]
   have em:(if 2000000<10*((a:Nat):Int)+zl (byR l (i:Nat)) 10 then 2000000 else 10*((a:Nat):Int)+zl (byR l (i:Nat)) 10)=((min (10*a+(zl (byR l (i:Nat)) 10).toNat) 2000000:Nat):Int):=by split<;>omega
   rw[ev,em,ew] at hg;refine (Zb (s0:=sc) hT hg (Za rfl (Za rfl (Za lI (Za (Xb (by omega)) (Za rfl (Za lI (Z6 lA)))))))).mono fun e z he=> ?_;obtain⟨rfl,⟨g',z1⟩,z2⟩:=he;refine⟨l.length-(i+1),by omega,i+1,rfl,_,g',by omega,by omega,?_,z1,z2⟩;rw[hX,ed,pw1,eC,if_pos hd]
  ·refine (Zb (s0:=sc) hT (ZAf l b (i:Nat) q mn D k a g) (Za (Xa (by omega)) (Za rfl (Za lI (Z6 lA))))).mono fun e z he=> ?_;have hx:X=(a,false):=by rw[hX,ed,pw1,eC,if_neg hd]
   have hz:=Zbg he;obtain⟨rfl,_⟩:=he;rw[hx];exact⟨rfl,hz⟩
 ·have es:l.drop i=[]:=List.drop_eq_nil_of_le (by omega);refine (Zb (s0:=sc) hT (ZAe l b (i:Nat) q mn D k a g) (Z6 (Xb (by omega)))).mono fun e z he=> ?_;obtain⟨rfl,⟨g',z1⟩,z2⟩:=he;exact⟨rfl,a,i,g',ha,by rw[hX,es];rfl,z1,z2⟩
theorem Zfg {b q:Int}{mn:Bool}{l D:List UInt8}{k j:Nat}(h2:l.length≤100000) (hj:j≤l.length) (g:Nat→Value) (s:List Dec):
  Runs (Zp prog Zf ZJ true) (.seq (.block 2 (.loop (Zz8 f55))) (sK f55 12)) (Zho l b j q mn++tl 139 g,scM b D k 0,s) (scZ b D k (if (pw1 0 (l.drop j)).2=false then ((pw1 0 (l.drop j)).1:Nat) else if mn=true then -((pw1 0 (l.drop j)).1:Nat) else ((pw1 0 (l.drop j)).1:Nat)) (pw1 0 (l.drop j)).2):=by
 have hT:=Zq Zce;obtain⟨X,hX⟩:∃ X,X=pw1 0 (l.drop j):=⟨_,rfl⟩;rw[← hX];refine Runs.seq (P1:=fun e y=>match e with | none=>pwO b q mn l D k X y | some none=>pwB b D k X y | some (some _)=>False) (Runs.forLoop (R:=pwB b D k X) (P:=pwO b q mn l D k X) (fun r y=>∃ i,r=l.length-i∧pwJ b q mn l D k X i y) (ZoK h2) (n:=l.length-j) ⟨j,rfl,0,g,hj,by omega,hX,rfl,rfl⟩) ?_ ?_
 ·rintro⟨t,hh,sc⟩ ⟨a,i,g',ha,hx,e1,e2⟩;simp only at e1 e2;subst e1 e2;rw[hx];dsimp only;cases mn with
  | true=>
   have hg:=ZAh l b (i:Nat) q D k a g';rw[Zv (n:=0-((a:Nat):Int)) (by omega) (by omega),show (0:Int)-((a:Nat):Int)= -((a:Nat):Int) by omega] at hg;refine (Zb (s0:=sc) hT hg Zbt).mono fun e z he=> ?_;have hz:=Zbg he;rw[if_neg (by decide),if_pos rfl];exact hz
  | false=>
   refine (Zb (s0:=sc) hT (ZAi l b (i:Nat) q D k a g') Zbt).mono fun e z he=> ?_;have hz:=Zbg he;rw[if_neg (by decide),if_neg (by decide)];exact hz
 ·rintro e ⟨t,hh,sc⟩ hc
  match e,hc with
  | none,hc=>
   obtain⟨h3,h4⟩:=hc;rw[if_pos h3,h3];exact h4
theorem Zfh {b:Int}{D:List UInt8}{k:Nat}{X:Nat×Bool}{mn:Bool}{e:Ex}{z:Lf}(h:scZ b D k (if X.2=false then (X.1:Nat) else if mn=true then -(X.1:Nat) else (X.1:Nat)) X.2 e z):scZ b D k (if X.2=false then ((X.1:Nat),false) else (if mn=true then -(X.1:Nat) else (X.1:Nat),true):Int×Bool).1 (if X.2=false then ((X.1:Nat),false) else (if mn=true then -(X.1:Nat) else (X.1:Nat),true):Int×Bool).2 e z:=by
 cases h2:X.2 with
 | true=>
  rw[h2,if_neg (by decide)] at h;rw[if_neg (by decide)];exact h
 | false=>
  rw[h2,if_pos rfl] at h;rw[if_pos rfl];exact h
theorem ZoL {b:Int}{l:List UInt8}(hb:b=10∨b=16) (h2:l.length≤100000):Runs (Zp prog Zf ZJ true) (zg [sP f55 0,sP f55 1,sP f55 2] (.seq (.block 0 (.loop (Zux f55))) (sK f55 4))) ([bR l,.int .i64 b]++List.replicate 147 undef,⟨0,[]⟩,[]) (scZ b (sc1 b false l).1 (sc1 b false l).2.1 (scA b l).1 (scA b l).2):=by
 have hT:=Zq Zce;refine Z0 hT (Z3p l b) Zbt fun g=> ?_;refine Runs.seq (P1:=fun e y=>match e with | none=>scO b l y | some none=>False | some (some _)=>False) (Runs.forLoop (R:=fun _=>False) (P:=scO b l) (fun r y=>∃ i,r=l.length-i∧scS b l i y) (Zs4 hb h2) (n:=l.length) ⟨0,by omega,false,[],0,g,by omega,by exact Nat.le_refl _,by omega,by simp,rfl,rfl⟩) ?_ (fun e y he=>by match e,he with | none,he=>exact he.elim | some _,he=>exact he.elim);rintro⟨t,hh,sc⟩ ⟨i,p,D,k,g',hi,hD,hk,hS,e1,e2⟩;simp only at e1 e2;subst e1 e2;have eA:scA b l=if D=[] then (0,false) else scE b (l.drop i):=by unfold scA;rw[hS]
 rw[eA,hS];dsimp only;by_cases hN:D=[]
 ·rw[if_pos hN];exact (Zb (s0:=sc) hT (ZAc l b (i:Nat) (q1R p) D k 0 g') (Z6 (by rw[ZeZ];exact Xa hN))).mono fun e z he=>Zbg he
 have eN:((⟨⟨D⟩⟩:ByteArray)==⟨⟨[]⟩⟩)=false:=by rw[ZeZ];exact Xb hN
 rw[if_neg hN];by_cases hc:¬ i<l.length
 ·have es:l.drop i=[]:=List.drop_eq_nil_of_le (by omega);rw[es];unfold scE;dsimp only;exact (Zb (s0:=sc) hT (ZAd l b (i:Nat) (q1R p) D k 0 g' (decide (b=10))) (Za (by by_cases h:b=10<;>simp [h]) (Za (ZN (by omega)) (Z6 eN)))).mono fun e z he=>Zbg he
 have hc:i<l.length:=by omega
 have lQ:(((i:Nat):Int)==(l.length:Nat))=false:=ZE (by omega);have lI:decide ((0:Int)≤(i:Nat)∧((i:Nat):Int).toNat<l.length)=true:=Xa ⟨by omega,by rw[Xg];exact hc⟩;have ed:=ZcE hc;have eC:lq8 (l.getD i 0)=byR l (i:Nat):=by unfold lq8 byR;rw[Xg]
 rw[ed];unfold scE;dsimp only;rw[eC];have ew:=wN (n:=i) (by omega);rcases hb with hb | hb
 ·skip
  by_cases hm:byR l (i:Nat)≠101
  ·rw[if_pos (.inl ⟨hb,hm⟩)];exact (Zb (s0:=sc) hT (Z8i l b (i:Nat) (q1R p) D k 0 g') (Za (ZtW hm) (Za lI (Za (ZN hb) (Za lQ (Z6 eN)))))).mono fun e z he=>Zbg he
  have hm:byR l (i:Nat)=101:=Decidable.of_not_not hm;rw[if_neg (by omega)];have lg:=(Za (ZE (show b≠16 by omega)) (Za (ZtX hm) (Za lI (Za (ZN hb) (Za lQ (Z6 eN))))));by_cases hc1:¬ i+1<l.length
  ·have es:l.drop (i+1)=[]:=List.drop_eq_nil_of_le (by omega);rw[es,if_pos (show (sgT []).2=[] from rfl)];have hg:=Z8k l b (i:Nat) (q1R p) D k 0 g';rw[ew] at hg;exact (Zb (s0:=sc) hT hg (Za (ZN (by omega)) (Za (Xb (by omega)) (Za (Xb (by omega)) lg)))).mono fun e z he=>Zbg he
  have hc1:i+1<l.length:=by omega
  have lA1:decide (((i+1:Nat):Int)<(l.length:Nat))=true:=Xa (by omega);have lI1:decide ((0:Int)≤((i+1:Nat):Int)∧((i+1:Nat):Int).toNat<l.length)=true:=Xa ⟨by omega,by rw[Xg];exact hc1⟩;have ed1:=ZcE hc1;have eC1:lq8 (l.getD (i+1) 0)=byR l ((i+1:Nat):Int):=by unfold lq8 byR;rw[Xg]
  have ew1:=wN (n:=i+1) (by omega);rw[Zbf];by_cases h45:byR l ((i+1:Nat):Int)=45
  ·have esg:sgT (l.drop (i+1))=(true,l.drop (i+1+1)):=by rw[ed1];unfold sgT;dsimp only;rw[eC1,if_pos h45]
   rw[esg];dsimp only;have lm:=Za (ZN h45) (Za lI1 (Za lA1 (Za (ZN h45) (Za lI1 (Za lA1 lg)))));by_cases hc2:l.drop (i+1+1)=[]
   ·rw[if_pos hc2,← Zbf];have hl2:l.length≤i+1+1:=List.drop_eq_nil_iff.1 hc2;have hg:=Z3q l b (i:Nat) (q1R p) D k 0 g';rw[ew,ew1] at hg;exact (Zb (s0:=sc) hT hg (Za (ZN (by omega)) lm)).mono fun e z he=>Zbg he
   ·rw[if_neg hc2];have hl2:¬ l.length≤i+1+1:=fun h=>hc2 (List.drop_eq_nil_iff.2 h);have hg:=Z3r l b (i:Nat) (q1R p) D k 0 g';rw[ew,ew1] at hg;refine Z0 hT hg (Za (ZE (by omega)) lm) fun g2=> ?_;refine (Zfg (b:=b) (q:=q1R p) (mn:=true) (l:=l) (D:=D) (k:=k) (j:=i+1+1) h2 (by omega) g2 _).mono fun e z hz=> ?_;exact Zfh hz
  by_cases h43:byR l ((i+1:Nat):Int)=43
  ·have esg:sgT (l.drop (i+1))=(false,l.drop (i+1+1)):=by rw[ed1];unfold sgT;dsimp only;rw[eC1,if_neg h45,if_pos h43]
   rw[esg];dsimp only;have lm:=Za (ZN h43) (Za lI1 (Za (ZE h45) (Za lI1 (Za lA1 (Za (ZE h45) (Za lI1 (Za lA1 lg)))))));by_cases hc2:l.drop (i+1+1)=[]
   ·rw[if_pos hc2,← Zbf];have hl2:l.length≤i+1+1:=List.drop_eq_nil_iff.1 hc2;have hg:=Z3s l b (i:Nat) (q1R p) D k 0 g';rw[ew,ew1] at hg;exact (Zb (s0:=sc) hT hg (Za (ZN (by omega)) lm)).mono fun e z he=>Zbg he
   ·rw[if_neg hc2];have hl2:¬ l.length≤i+1+1:=fun h=>hc2 (List.drop_eq_nil_iff.2 h);have hg:=Z3t l b (i:Nat) (q1R p) D k 0 g';rw[ew,ew1] at hg;refine Z0 hT hg (Za (ZE (by omega)) lm) fun g2=> ?_;refine (Zfg (b:=b) (q:=q1R p) (mn:=false) (l:=l) (D:=D) (k:=k) (j:=i+1+1) h2 (by omega) g2 _).mono fun e z hz=> ?_;exact Zfh hz
  ·have esg:sgT (l.drop (i+1))=(false,l.drop (i+1)):=by rw[ed1];unfold sgT;dsimp only;rw[eC1,if_neg h45,if_neg h43]
   rw[esg];dsimp only;have lm:=Za (ZE h43) (Za lI1 (Za (ZE h45) (Za lI1 (Za lA1 (Za (ZE h45) (Za lI1 (Za lA1 lg)))))));rw[if_neg (fun h=>by have:=List.drop_eq_nil_iff.1 h;omega)];have hg:=Z3u l b (i:Nat) (q1R p) D k 0 g';rw[ew] at hg;refine Z0 hT hg (Za (ZE (by omega)) lm) fun g2=> ?_;refine (Zfg (b:=b) (q:=q1R p) (mn:=false) (l:=l) (D:=D) (k:=k) (j:=i+1) h2 (by omega) g2 _).mono fun e z hz=> ?_;exact Zfh hz
 ·skip
  by_cases hm:byR l (i:Nat)≠112
  ·rw[if_pos (.inr ⟨hb,hm⟩)];exact (Zb (s0:=sc) hT (Z8j l b (i:Nat) (q1R p) D k 0 g') (Za (ZtW hm) (Za lI (Za (ZN hb) (Za (ZE (by omega)) (Za lQ (Z6 eN))))))).mono fun e z he=>Zbg he
  have hm:byR l (i:Nat)=112:=Decidable.of_not_not hm;rw[if_neg (by omega)];have lg:=(Za (ZtX hm) (Za lI (Za (ZN hb) (Za (ZE (show b≠10 by omega)) (Za lQ (Z6 eN))))));by_cases hc1:¬ i+1<l.length
  ·have es:l.drop (i+1)=[]:=List.drop_eq_nil_of_le (by omega);rw[es,if_pos (show (sgT []).2=[] from rfl)];have hg:=Z8l l b (i:Nat) (q1R p) D k 0 g';rw[ew] at hg;exact (Zb (s0:=sc) hT hg (Za (ZN (by omega)) (Za (Xb (by omega)) (Za (Xb (by omega)) lg)))).mono fun e z he=>Zbg he
  have hc1:i+1<l.length:=by omega
  have lA1:decide (((i+1:Nat):Int)<(l.length:Nat))=true:=Xa (by omega);have lI1:decide ((0:Int)≤((i+1:Nat):Int)∧((i+1:Nat):Int).toNat<l.length)=true:=Xa ⟨by omega,by rw[Xg];exact hc1⟩;have ed1:=ZcE hc1;have eC1:lq8 (l.getD (i+1) 0)=byR l ((i+1:Nat):Int):=by unfold lq8 byR;rw[Xg]
  have ew1:=wN (n:=i+1) (by omega);rw[Zbf];by_cases h45:byR l ((i+1:Nat):Int)=45
  ·have esg:sgT (l.drop (i+1))=(true,l.drop (i+1+1)):=by rw[ed1];unfold sgT;dsimp only;rw[eC1,if_pos h45]
   rw[esg];dsimp only;have lm:=Za (ZN h45) (Za lI1 (Za lA1 (Za (ZN h45) (Za lI1 (Za lA1 lg)))));by_cases hc2:l.drop (i+1+1)=[]
   ·rw[if_pos hc2,← Zbf];have hl2:l.length≤i+1+1:=List.drop_eq_nil_iff.1 hc2;have hg:=Z3v l b (i:Nat) (q1R p) D k 0 g';rw[ew,ew1] at hg;exact (Zb (s0:=sc) hT hg (Za (ZN (by omega)) lm)).mono fun e z he=>Zbg he
   ·rw[if_neg hc2];have hl2:¬ l.length≤i+1+1:=fun h=>hc2 (List.drop_eq_nil_iff.2 h);have hg:=Z3w l b (i:Nat) (q1R p) D k 0 g';rw[ew,ew1] at hg;refine Z0 hT hg (Za (ZE (by omega)) lm) fun g2=> ?_;refine (Zfg (b:=b) (q:=q1R p) (mn:=true) (l:=l) (D:=D) (k:=k) (j:=i+1+1) h2 (by omega) g2 _).mono fun e z hz=> ?_;exact Zfh hz
  by_cases h43:byR l ((i+1:Nat):Int)=43
  ·have esg:sgT (l.drop (i+1))=(false,l.drop (i+1+1)):=by rw[ed1];unfold sgT;dsimp only;rw[eC1,if_neg h45,if_pos h43]
   rw[esg];dsimp only;have lm:=Za (ZN h43) (Za lI1 (Za (ZE h45) (Za lI1 (Za lA1 (Za (ZE h45) (Za lI1 (Za lA1 lg)))))));by_cases hc2:l.drop (i+1+1)=[]
   ·rw[if_pos hc2,← Zbf];have hl2:l.length≤i+1+1:=List.drop_eq_nil_iff.1 hc2;have hg:=Z3x l b (i:Nat) (q1R p) D k 0 g';rw[ew,ew1] at hg;exact (Zb (s0:=sc) hT hg (Za (ZN (by omega)) lm)).mono fun e z he=>Zbg he
   ·rw[if_neg hc2];have hl2:¬ l.length≤i+1+1:=fun h=>hc2 (List.drop_eq_nil_iff.2 h);have hg:=Z3y l b (i:Nat) (q1R p) D k 0 g';rw[ew,ew1] at hg;refine Z0 hT hg (Za (ZE (by omega)) lm) fun g2=> ?_;refine (Zfg (b:=b) (q:=q1R p) (mn:=false) (l:=l) (D:=D) (k:=k) (j:=i+1+1) h2 (by omega) g2 _).mono fun e z hz=> ?_;exact Zfh hz
  ·have esg:sgT (l.drop (i+1))=(false,l.drop (i+1)):=by rw[ed1];unfold sgT;dsimp only;rw[eC1,if_neg h45,if_neg h43]
   rw[esg];dsimp only;have lm:=Za (ZE h43) (Za lI1 (Za (ZE h45) (Za lI1 (Za lA1 (Za (ZE h45) (Za lI1 (Za lA1 lg)))))));rw[if_neg (fun h=>by have:=List.drop_eq_nil_iff.1 h;omega)];have hg:=Z3z l b (i:Nat) (q1R p) D k 0 g';rw[ew] at hg;refine Z0 hT hg (Za (ZE (by omega)) lm) fun g2=> ?_;refine (Zfg (b:=b) (q:=q1R p) (mn:=false) (l:=l) (D:=D) (k:=k) (j:=i+1) h2 (by omega) g2 _).mono fun e z hz=> ?_;exact Zfh hz
theorem Zk0 (l:List UInt8) (b:Int) (hb:b=10∨b=16) (h2:l.length≤100000) (w:World):Calls prog 55 #[bR l,.int .i64 b] w fun r w'=>r= .returned (scW b (sc1 b false l).1 (sc1 b false l).2.1 (scA b l).1 (scA b l).2)∧Zav w w':=
 zG (T:=(Zp prog Zf ZJ true)) func55 ZoJ (by rfl) (by rfl) (ZoL hb h2) w
def Z8m:Ans:=fun vals s=>
 match vals,s with
 | [.string ⟨⟨l⟩⟩,.int .i64 b],.inr (.inr (.inr (.inl d)))::s'=>some (scW b (sc1 b false l).1 (sc1 b false l).2.1 (scA b l).1 d,s',[((scA b l).2,d),(decide ((b=10∨b=16)∧l.length≤100000),true)])
 | _,_=>none
theorem Zyd:z8 55 Z8m:=by
 intro vals s v s' lg h hl w;unfold Z8m at h;split at h
 ·rename_i l b d s2;cases h;rw[Zqt,Zqt] at hl;obtain⟨l1,l2,_⟩:=hl;obtain⟨q1,q2⟩:=Xc l2;have l1:(scA b l).2=d:=l1;rw[← l1];exact Zk0 l b q1 q2 w
 ·cases h
end Go.Proofs.YtgefjidphfdhdaaGreatDoor
