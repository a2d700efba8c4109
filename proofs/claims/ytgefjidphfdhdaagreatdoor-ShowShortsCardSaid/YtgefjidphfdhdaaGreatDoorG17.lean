/-
  ShP, PhA, PhE, PhF, RdA, RdB, RdC, RdD, RdE, TxN
-/
import Derived.Test.YtgefjidphfdhdaaGreatDoorG16
import Derived.Laws.Closers25b
namespace Go.Proofs.YtgefjidphfdhdaaGreatDoor
open Go.Proofs.Tryz
open Go.IntKind
open Go.KRun Go.Nt Go.Rd Go.Wd Go.Pt
set_option maxRecDepth 100000
def nrV (p:Int) (n:Nat):Nat:=arN (nrU (ZV p (lsP p)) (Zas p (lsP p)) (10^(atL p-n))) (ZV p (lsP p)) (10^(atL p-n))
def frV (p:Int) (n:Nat):Nat:=arX (nrU (ZV p (lsP p)) (Zas p (lsP p)) (10^(atL p-n))) (ZV p (lsP p)) (10^(atL p-n))
theorem Zp4 (p:Int) (n:Nat):(nrV p n=ZbI p n∧frV p n=Zcc p n∧nrU (ZV p (lsP p)) (Zas p (lsP p)) (10^(atL p-n))=true)∨(nrV p n=Zcc p n∧frV p n=ZbI p n∧nrU (ZV p (lsP p)) (Zas p (lsP p)) (10^(atL p-n))=false):=by
 unfold nrV frV arN arX;cases nrU (ZV p (lsP p)) (Zas p (lsP p)) (10^(atL p-n)) with
 | true=>exact .inl ⟨if_pos rfl,if_pos rfl,rfl⟩
 | false=>exact .inr ⟨if_neg (by decide),if_neg (by decide),rfl⟩
section
variable {p : Int}
theorem ZAc (h:Fin14 p) (x:Nat):(decide (((ZbG p (lsP p):Nat):Int)≤((x:Nat):Int)) && decide (((x:Nat):Int)≤((ZbH p (lsP p):Nat):Int)))=ZhR p (lsP p) x:=by
 rw[Z3W h,decide_eq_decide.2 (show ((ZbG p (lsP p):Nat):Int)≤((x:Nat):Int)↔ZbG p (lsP p)≤x by omega),decide_eq_decide.2 (show ((x:Nat):Int)≤((ZbH p (lsP p):Nat):Int)↔x≤ZbH p (lsP p) by omega)]
theorem ZcV (h:Fin14 p):10^atL p≤10000000000000000000:=Nat.pow_le_pow_right (n:=10) (by omega) (ZbA h).1.2
theorem Zp5 (h:Fin14 p) {n:Nat}(h1:1≤n) (h2:n≤17):10^(atL p-1)≤Zcc p n∧ZbI p n≤10^atL p∧Zcc p n≤ZbI p n:=by
 obtain⟨⟨l1,l2⟩,a,b⟩:=ZbA h;have hu:0<10^(atL p-n):=Nat.pow_pos (by omega);have e1:10^atL p=10^n*10^(atL p-n):=by rw[← Nat.pow_add];congr 1;omega
 have e2:10^(atL p-1)=10^(n-1)*10^(atL p-n):=by rw[← Nat.pow_add];congr 1;omega
 have q1:10^(n-1)≤ZV p (lsP p)/10^(atL p-n):=(Nat.le_div_iff_mul_le hu).2 (by rw[← e2];exact a);have q2:ZV p (lsP p)/10^(atL p-n)<10^n:=(Nat.div_lt_iff_lt_mul hu).2 (by rw[← e1];exact b);unfold Zcc ZbI;refine⟨?_,?_,Nat.mul_le_mul_right _ (by omega)⟩
 ·rw[e2];exact Nat.mul_le_mul_right _ q1
 ·rw[e1];exact Nat.mul_le_mul_right _ q2
theorem Zza (h:Fin14 p) {n:Nat}(h1:1≤n) (h2:n≤17):Z1c (ZV p (lsP p)) (10^(atL p-n))=true:=by
 obtain⟨⟨l1,l2⟩,_⟩:=ZbA h;obtain⟨_,b,_⟩:=Zp5 h h1 h2;have:=ZcV h;refine Xa ⟨?_,?_⟩
 ·have:10^1≤10^(atL p-n):=Nat.pow_le_pow_right (by omega) (by omega);omega
 ·have e:ZbI p n=(ZV p (lsP p)/10^(atL p-n)+1)*10^(atL p-n):=rfl;rw[← e];omega
end
def srK (p:Int):Hp:=srM (sgn p) (cl p) (xp p) (sg p) ((ZbG p (lsP p):Nat):Int) ((ZbH p (lsP p):Nat):Int) ((ZV p (lsP p):Nat):Int) (Zas p (lsP p)) (lsP p)
def srA (p u:Int):List Value:=srF (sgn p) (cl p) (xp p) (sg p) u
def srB (p u n f:Int):List Value:=srG (sgn p) (cl p) (xp p) (sg p) u n f
def Z1e (p:Int) (i:Nat) (y:Lf):Prop:=i≤atL p-1∧∃ g,y.1=srA p ((10^i:Nat):Int)++tl 44 g∧y.2.1=srK p
def Zzb (p:Int) (n:Nat) (y:Lf):Prop:=(1≤n∧n≤nP p)∧∃ g,y.1=srB p ((10^(atL p-n):Nat):Int) ((nrV p n:Nat):Int) ((frV p n:Nat):Int)++tl 42 g∧y.2.1=srK p
theorem ZAd {p:Int}(h:Fin14 p) (r:Nat) (y:Lf) (hy:∃ i,r=atL p-1-i∧Z1e p i y):
  Runs (Zk prog Zf Zcd Zh9) (Z7t f24) y fun e z=>match e with | none=>∃ r',r'<r∧∃ i,r'=atL p-1-i∧Z1e p i z | some none=>False | some (some id')=>id'=0∧Z1e p (atL p-1) z:=by
 obtain⟨i,hr,hi,g,ht,hh⟩:=hy;obtain⟨t,h',sc⟩:=y;simp only at ht hh;subst ht hh;obtain⟨⟨l1,l2⟩,a,b⟩:=ZbA h;have t19:=ZcV h;have ew:u64.wrap (((ZV p (lsP p):Nat):Int).tdiv 10)=((ZV p (lsP p)/10:Nat):Int):=by
  rw[Int.tdiv_eq_ediv_of_nonneg (by omega),ZdH (by omega) (by omega)];omega
 by_cases hc:i<atL p-1
 ·have hp:10^(i+1)≤ZV p (lsP p):=Nat.le_trans (Nat.pow_le_pow_right (by omega) (by omega)) a;rw[Nat.pow_succ] at hp;have hg:=Z9W (sgn p) (cl p) (xp p) (sg p) ((ZbG p (lsP p):Nat):Int) ((ZbH p (lsP p):Nat):Int) ((ZV p (lsP p):Nat):Int) (lsP p) ((10^i:Nat):Int) (Zas p (lsP p)) g;have em:u64.wrap (((10^i:Nat):Int)*10)=((10^(i+1):Nat):Int):=by
   rw[Nat.pow_succ,ZdH (by omega) (by omega)];omega
  rw[em] at hg;refine (Zc (s0:=sc) ZeE hg (Z4 (Xa (by rw[ew];omega)))).mono fun e z he=> ?_;obtain⟨rfl,⟨g',z1⟩,z2⟩:=he;exact⟨atL p-1-(i+1),by omega,i+1,rfl,by omega,g',z1,z2⟩
 ·have ei:i=atL p-1:=by omega
  have hn:¬ 10^i≤ZV p (lsP p)/10:=by
   intro c;have:10^atL p=10^i*10:=by rw[← Nat.pow_succ];congr 1;omega
   omega
  refine (Zc (s0:=sc) ZeE (Z9X (sgn p) (cl p) (xp p) (sg p) ((ZbG p (lsP p):Nat):Int) ((ZbH p (lsP p):Nat):Int) ((ZV p (lsP p):Nat):Int) (lsP p) ((10^i:Nat):Int) (Zas p (lsP p)) g) (Z4 (Xb (by rw[ew];omega)))).mono fun e z he=> ?_;obtain⟨rfl,⟨g',z1⟩,z2⟩:=he;rw[ei] at z1;exact⟨rfl,Nat.le_refl _,g',z1,z2⟩
theorem Zp6 {p:Int}(h:Fin14 p) {n:Nat}(h1:1≤n) (h2:n≤17) {b:Bool}(hb:nrU (ZV p (lsP p)) (Zas p (lsP p)) (10^(atL p-n))=b) {l:Log}(hl:Zx l):Zx (lAr ((ZV p (lsP p):Nat):Int) ((10^(atL p-n):Nat):Int) (Zas p (lsP p)) b l):=by
 unfold lAr;rw[Xg,Xg];exact Za hb (Za (Zza h h1 h2) (Za (Xa ⟨Int.natCast_nonneg _,Int.natCast_nonneg _⟩) hl))
theorem ZAe {p:Int}(h:Fin14 p) (r:Nat) (y:Lf) (hy:∃ n,r=nP p-n∧Zzb p n y):
  Runs (Zk prog Zf Zcd Zh9) (Z1d f24) y fun e z=>match e with | none=>∃ r',r'<r∧∃ n,r'=nP p-n∧Zzb p n z | some none=>False | some (some id')=>id'=2∧Zzb p (nP p) z:=by
 obtain⟨n,hr,⟨n1,n2⟩,g,ht,hh⟩:=hy;obtain⟨t,h',sc⟩:=y;simp only at ht hh;subst ht hh;obtain⟨⟨l1,l2⟩,_⟩:=ZbA h;obtain⟨_,⟨_,n17⟩,_⟩:=Zco h;have se:=ZsV h n1 n2;have orE:(ZhR p (lsP p) (nrV p n)=true∨ZhR p (lsP p) (frV p n)=true)↔n=nP p:=by
  rw[← se];rcases Zp4 p n with ⟨e1,e2,_⟩ | ⟨e1,e2,_⟩<;>rw[e1,e2]
  exact or_comm
 have hN:=ZAc h (nrV p n);have hF:=ZAc h (frV p n);cases c1:ZhR p (lsP p) (nrV p n) with
 | true=>
  have en:=orE.1 (.inl c1);refine (Zc (s0:=sc) ZeE (Z4J (sgn p) (cl p) (xp p) (sg p) ((ZbG p (lsP p):Nat):Int) ((ZbH p (lsP p):Nat):Int) ((ZV p (lsP p):Nat):Int) (lsP p) ((10^(atL p-n):Nat):Int) ((nrV p n:Nat):Int) ((frV p n:Nat):Int) (Zas p (lsP p)) g) (Z4 (by rw[hN];exact c1))).mono fun e z he=> ?_;obtain⟨rfl,⟨g',z1⟩,z2⟩:=he;rw[← en];exact⟨rfl,⟨n1,n2⟩,g',z1,z2⟩
 | false=>
  cases c2:ZhR p (lsP p) (frV p n) with
  | true=>
   have en:=orE.1 (.inr c2);refine (Zc (s0:=sc) ZeE (Z4K (sgn p) (cl p) (xp p) (sg p) ((ZbG p (lsP p):Nat):Int) ((ZbH p (lsP p):Nat):Int) ((ZV p (lsP p):Nat):Int) (lsP p) ((10^(atL p-n):Nat):Int) ((nrV p n:Nat):Int) ((frV p n:Nat):Int) (Zas p (lsP p)) g) (Za (by rw[hF];exact c2) (Z4 (by rw[hN];exact c1)))).mono fun e z he=> ?_;obtain⟨rfl,⟨g',z1⟩,z2⟩:=he;rw[← en];exact⟨rfl,⟨n1,n2⟩,g',z1,z2⟩
  | false=>
   have hne:n≠nP p:=fun c=>by
    rcases orE.2 c with c3 | c3
    ·rw[c1] at c3;cases c3
    ·rw[c2] at c3;cases c3
   have eu:u64.wrap (((10^(atL p-n):Nat):Int).tdiv 10)=((10^(atL p-(n+1)):Nat):Int):=by
    have e:10^(atL p-n)=10^(atL p-(n+1))*10:=by rw[← Nat.pow_succ];congr 1;omega
    have b:10^(atL p-(n+1))≤10^atL p:=Nat.pow_le_pow_right (by omega) (by omega);have:=ZcV h;rw[e,Int.tdiv_eq_ediv_of_nonneg (by omega),ZdH (by omega) (by omega)];omega
   have fin:∀ b,nrU (ZV p (lsP p)) (Zas p (lsP p)) (10^(atL p-(n+1)))=b→((arN b (ZV p (lsP p)) (10^(atL p-(n+1)))=nrV p (n+1))∧(arX b (ZV p (lsP p)) (10^(atL p-(n+1)))=frV p (n+1))):=fun b hb=>by
    unfold nrV frV;rw[hb];exact⟨rfl,rfl⟩
   have lg:∀ b,nrU (ZV p (lsP p)) (Zas p (lsP p)) (10^(atL p-(n+1)))=b→Zx (lAr ((ZV p (lsP p):Nat):Int) ((10^(atL p-(n+1)):Nat):Int) (Zas p (lsP p)) b [(decide (((ZbG p (lsP p):Nat):Int)≤((frV p n:Nat):Int)) && decide (((frV p n:Nat):Int)≤((ZbH p (lsP p):Nat):Int)),false),(decide (((ZbG p (lsP p):Nat):Int)≤((nrV p n:Nat):Int)) && decide (((nrV p n:Nat):Int)≤((ZbH p (lsP p):Nat):Int)),false)]):=fun b hb=>Zp6 h (by omega) (by omega) hb (Za (by rw[hF];exact c2) (Z4 (by rw[hN];exact c1)));cases c3:nrU (ZV p (lsP p)) (Zas p (lsP p)) (10^(atL p-(n+1))) with
   | true=>
    have hg:=Z4L (sgn p) (cl p) (xp p) (sg p) ((ZbG p (lsP p):Nat):Int) ((ZbH p (lsP p):Nat):Int) ((ZV p (lsP p):Nat):Int) (lsP p) ((10^(atL p-n):Nat):Int) ((nrV p n:Nat):Int) ((frV p n:Nat):Int) (Zas p (lsP p)) g;rw[eu,Xg,Xg,(fin true c3).1,(fin true c3).2] at hg;refine (Zc (s0:=sc) ZeE hg (lg true c3)).mono fun e z he=> ?_;obtain⟨rfl,⟨g',z1⟩,z2⟩:=he;exact⟨nP p-(n+1),by omega,n+1,rfl,⟨by omega,by omega⟩,g',z1,z2⟩
   | false=>
    have hg:=Z4M (sgn p) (cl p) (xp p) (sg p) ((ZbG p (lsP p):Nat):Int) ((ZbH p (lsP p):Nat):Int) ((ZV p (lsP p):Nat):Int) (lsP p) ((10^(atL p-n):Nat):Int) ((nrV p n:Nat):Int) ((frV p n:Nat):Int) (Zas p (lsP p)) g;rw[eu,Xg,Xg,(fin false c3).1,(fin false c3).2] at hg;refine (Zc (s0:=sc) ZeE hg (lg false c3)).mono fun e z he=> ?_;obtain⟨rfl,⟨g',z1⟩,z2⟩:=he;exact⟨nP p-(n+1),by omega,n+1,rfl,⟨by omega,by omega⟩,g',z1,z2⟩
def sdD (p:Int):List UInt8:=trR (dcL (shV p))
def sdE (p:Int):Int:=lsP p+(((dcL (shV p)).length:Nat):Int)-1
theorem Ztp {p:Int}(h:Fin14 p) (w:World) (hk:knT w):Calls prog 24 #[vT p] w fun r w'=>r= .returned (vDc (sdD p) (sdE p))∧Zak w w':=by
 have ev:∀ m:Mp,[vT p].map (mv m)=[vT p]:=fun m=>(List.map_congr_left fun y hy=>ZC (by rw[List.mem_singleton.1 hy];rfl)).trans (List.map_id' _);have q0:0≤sg p:=by
  have:=ZeR p;unfold sg;split
  ·omega
  ·split<;>omega
 have f1:=h.ne;have f2:=h.e0;have f3:=h.e1;have f4:=h.s1;have main:=ZeQ (T:=Zk prog Zf Zcd Zh9) func24 ZyZ (h0:=hT0) (vals:=[vT p]) (fun v hv=>by rw[List.mem_singleton.1 hv];rfl) (v:=vDc (sdD p) (sdE p)) (by rfl) (m:=fun b=>(b,0)) (w:=w) ?_ (Zvt hk)
 ·rw[ev] at main;exact main
 obtain⟨⟨l1,l2⟩,a,b⟩:=ZbA h;obtain⟨_,⟨p1,p17⟩,_⟩:=Zco h;obtain⟨_,_,j1,j2⟩:=Zyt h;refine Z2 ZeE (Z4I (sgn p) (cl p) (xp p) (sg p)) (Z4 (Xa (by omega))) fun g=> ?_;refine Runs.seq (P1:=fun e y=>match e with | none=>Z1e p (atL p-1) y | some none=>False | some (some _)=>False) (Runs.forLoop (R:=fun _=>False) (P:=Z1e p (atL p-1)) (fun r y=>∃ i,r=atL p-1-i∧Z1e p i y) (ZAd h) (n:=atL p-1-0) ⟨0,rfl,Nat.zero_le _,g,rfl,rfl⟩) ?_ (fun e y he=>by match e,he with | none,he=>exact he.elim | some _,he=>exact he.elim);rintro⟨t,hh,sc⟩ ⟨_,g1,e1,e2⟩;simp only at e1 e2;subst e1 e2;have mid:Runs (Zk prog Zf Zcd Zh9) (sP f24 4) (srA p ((10^(atL p-1):Nat):Int)++tl 44 g1,srK p,sc) fun e y=>e=none∧Zzb p 1 y:=by
  have fin:∀ b,nrU (ZV p (lsP p)) (Zas p (lsP p)) (10^(atL p-1))=b→((arN b (ZV p (lsP p)) (10^(atL p-1))=nrV p 1)∧(arX b (ZV p (lsP p)) (10^(atL p-1))=frV p 1)):=fun b hb=>by
   unfold nrV frV;rw[hb];exact⟨rfl,rfl⟩
  cases c3:nrU (ZV p (lsP p)) (Zas p (lsP p)) (10^(atL p-1)) with
  | true=>
   have hg:=Z9Y (sgn p) (cl p) (xp p) (sg p) ((ZbG p (lsP p):Nat):Int) ((ZbH p (lsP p):Nat):Int) ((ZV p (lsP p):Nat):Int) (lsP p) ((10^(atL p-1):Nat):Int) (Zas p (lsP p)) g1;rw[Xg,Xg,(fin true c3).1,(fin true c3).2] at hg;refine (Zc (s0:=sc) ZeE hg (Zp6 h (by omega) (by omega) c3 Zcb)).mono fun e z he=> ?_;obtain⟨rfl,⟨g',z1⟩,z2⟩:=he;exact⟨rfl,⟨by omega,p1⟩,g',z1,z2⟩
  | false=>
   have hg:=Z9Z (sgn p) (cl p) (xp p) (sg p) ((ZbG p (lsP p):Nat):Int) ((ZbH p (lsP p):Nat):Int) ((ZV p (lsP p):Nat):Int) (lsP p) ((10^(atL p-1):Nat):Int) (Zas p (lsP p)) g1;rw[Xg,Xg,(fin false c3).1,(fin false c3).2] at hg;refine (Zc (s0:=sc) ZeE hg (Zp6 h (by omega) (by omega) c3 Zcb)).mono fun e z he=> ?_;obtain⟨rfl,⟨g',z1⟩,z2⟩:=he;exact⟨rfl,⟨by omega,p1⟩,g',z1,z2⟩
 refine Runs.seq mid ?_ (fun e y he=>by cases he.1);rintro⟨t,hh,sc2⟩ ⟨_,hs2⟩;refine Runs.seq (P1:=fun e y=>match e with | none=>Zzb p (nP p) y | some none=>False | some (some _)=>False) (Runs.forLoop (R:=fun _=>False) (P:=Zzb p (nP p)) (fun r y=>∃ n,r=nP p-n∧Zzb p n y) (ZAe h) (n:=nP p-1) ⟨1,rfl,hs2⟩) ?_ (fun e y he=>by match e,he with | none,he=>exact he.elim | some _,he=>exact he.elim);rintro⟨t3,hh3,sc3⟩ ⟨_,g3,e1,e2⟩;simp only at e1 e2;subst e1 e2;have sv:=Z4e h;have bd:=Zp5 h p1 p17;have t19:=ZcV h;have t17:10^17≤10^(atL p-1):=Nat.pow_le_pow_right (by omega) (by omega);have e17:(10:Nat)^17=100000000000000000:=rfl;have hN:=ZAc h (nrV p (nP p));have bds:∀ x,x=Zcc p (nP p)∨x=ZbI p (nP p)→(100:Int)≤((x:Nat):Int)∧((x:Nat):Int)<18446744073709551616∧ -100000≤lsP p∧lsP p≤100000:=fun x hx=>by
  rcases hx with rfl | rfl<;>omega
 have isN:nrV p (nP p)=Zcc p (nP p)∨nrV p (nP p)=ZbI p (nP p):=by rcases Zp4 p (nP p) with ⟨c,_⟩ | ⟨c,_⟩<;>simp [c]
 have isF:frV p (nP p)=Zcc p (nP p)∨frV p (nP p)=ZbI p (nP p):=by rcases Zp4 p (nP p) with ⟨_,c,_⟩ | ⟨_,c,_⟩<;>simp [c]
 cases c1:ZhR p (lsP p) (nrV p (nP p)) with
 | true=>
  have ex:shV p=nrV p (nP p):=by
   rw[sv];rcases Zp4 p (nP p) with ⟨c,_,d⟩ | ⟨c,_,d⟩
   ·rw[d,if_pos rfl,← c,if_pos c1]
   ·rw[d,if_neg (by decide),← c,if_pos c1]
  refine (Zc (s0:=sc3) ZeE (ZAa (sgn p) (cl p) (xp p) (sg p) ((ZbG p (lsP p):Nat):Int) ((ZbH p (lsP p):Nat):Int) ((ZV p (lsP p):Nat):Int) (lsP p) ((10^(atL p-nP p):Nat):Int) ((nrV p (nP p):Nat):Int) ((frV p (nP p):Nat):Int) (Zas p (lsP p)) g3) (Za (Xa (bds _ isN)) (Z4 (by rw[hN];exact c1)))).mono fun e z he=> ?_;obtain⟨rfl,⟨g',z1⟩,z2⟩:=he;refine⟨.inr rfl,?_⟩;rw[z1,z2];unfold sdD sdE;rw[ex];rfl
 | false=>
  have ex:shV p=frV p (nP p):=by
   rw[sv];rcases Zp4 p (nP p) with ⟨c,c',d⟩ | ⟨c,c',d⟩
   ·rw[d,if_pos rfl,← c,if_neg (by rw[c1];decide),c']
   ·rw[d,if_neg (by decide),← c,if_neg (by rw[c1];decide),c']
  refine (Zc (s0:=sc3) ZeE (ZAb (sgn p) (cl p) (xp p) (sg p) ((ZbG p (lsP p):Nat):Int) ((ZbH p (lsP p):Nat):Int) ((ZV p (lsP p):Nat):Int) (lsP p) ((10^(atL p-nP p):Nat):Int) ((nrV p (nP p):Nat):Int) ((frV p (nP p):Nat):Int) (Zas p (lsP p)) g3) (Za (Xa (bds _ isF)) (Z4 (by rw[hN];exact c1)))).mono fun e z he=> ?_;obtain⟨rfl,⟨g',z1⟩,z2⟩:=he;refine⟨.inr rfl,?_⟩;rw[z1,z2];unfold sdD sdE;rw[ex];rfl
end Go.Proofs.YtgefjidphfdhdaaGreatDoor
namespace Go.Proofs.YtgefjidphfdhdaaGreatDoor
open Go.KRun
set_option maxRecDepth 100000
set_option linter.unusedVariables false
def hxV (c:Int):Int:=if 48≤c∧c≤57 then c-48 else if 97≤c∧c≤102 then c-87 else 0
def ZCo (c:Int):Bool:=decide ((48≤c∧c≤57)∨(97≤c∧c≤102))
end Go.Proofs.YtgefjidphfdhdaaGreatDoor
namespace Go.Proofs.YtgefjidphfdhdaaGreatDoor
open Go.Proofs.Tryz
open Go.IntKind
open Go.KRun Go.Pt
set_option maxRecDepth 100000
set_option linter.unusedVariables false
def hxT:List UInt8:=[48,49,50,51,52,53,54,55,56,57,97,98,99,100,101,102]
def hSx (q:Int):Int:=q.fdiv (2^min (Int.toNat 4) 64)
def hC (q:Int):Int:=((hxT.getD (Zj2 q 15).toNat 0).toNat:Nat)
def hBx (q:Int):UInt8:=UInt8.ofNat (hC q).toNat
def hSn (p:Int):Nat→Int
 | 0=>p
 | n+1=>hSx (hSn p n)
def inX (q:Int):Bool:=decide (0≤Zj2 q 15∧(Zj2 q 15).toNat<hxT.length)
def hxW (p:Int):ByteArray:=⟨#[hBx (hSn p 15),hBx (hSn p 14),hBx (hSn p 13),hBx (hSn p 12),hBx (hSn p 11),hBx (hSn p 10),hBx (hSn p 9),hBx (hSn p 8),hBx (hSn p 7),hBx (hSn p 6),hBx (hSn p 5),hBx (hSn p 4),hBx (hSn p 3),hBx (hSn p 2),hBx (hSn p 1),hBx (hSn p 0)]⟩
def hxL (p:Int):Nat→Log
 | 0=>[]
 | n+1=>(false,false)::(inX (hSn p n),true)::hxL p n
theorem Ztq (p:Int):ZB (Zr (Zq prog Zf Zn true) 3000 43 [.int .u64 p] []) (.string (hxW p)) (hxL p 16):=by and_intros<;>kernel_rfl
def rPx (q:Int):List UInt8:=(hxT.drop (q.tmod 16).toNat).take ((u64.wrap (q.tmod 16+1)).toNat-(q.tmod 16).toNat)
theorem Zp7 (q:Int):q % 16=0∨q % 16=1∨q % 16=2∨q % 16=3∨q % 16=4∨q % 16=5∨q % 16=6∨q % 16=7∨q % 16=8∨q % 16=9∨q % 16=10∨q % 16=11∨q % 16=12∨q % 16=13∨q % 16=14∨q % 16=15:=by omega
theorem Z4N {q:Int}(h:0≤q):q.tmod 16=q % 16:=Int.tmod_eq_emod_of_nonneg h
theorem ZAf {q:Int}(h:0≤q):hSx q=q/16:=by
 have e:((2:Int)^min (Int.toNat 4) 64)=16:=rfl;unfold hSx;rw[e,Int.fdiv_eq_ediv_of_nonneg _ (by omega)]
theorem ZAg {q:Int}(h:U q):U (q/16):=by
 have h0:=h.1;have h1:=h.2;exact⟨by omega,by omega⟩
theorem Zzc {p:Int}(h:U p):∀ n,U (hSn p n)
 | 0=>h
 | n+1=>by
  show U (hSx (hSn p n));rw[ZAf (Zzc h n).1];exact ZAg (Zzc h n)
theorem ZAh {q:Int}(h:U q):inX q=true∧rPx q=[hBx q]∧hxV (((hBx q).toNat:Nat):Int)=q % 16∧ZCo (((hBx q).toNat:Nat):Int)=true∧decide (0≤q.tmod 16∧q.tmod 16≤u64.wrap (q.tmod 16+1)∧u64.wrap (q.tmod 16+1)≤(hxT.length:Int))=true:=by
 unfold inX rPx hBx hC;rw[Z4N h.1,Zsg h];rcases Zp7 q with e | e | e | e | e | e | e | e | e | e | e | e | e | e | e | e<;>rw[e]<;>exact⟨by rfl,by rfl,by rfl,by rfl,by rfl⟩
theorem Zv3 {p:Int}(h:U p):∀ n,Zx (hxL p n)
 | 0=>fun x hx=>by cases hx
 | n+1=>Za rfl (Za (ZAh (Zzc h n)).1 (Zv3 h n))
theorem Zp8 (p:Int) (hp:U p) (w:World):Calls prog 43 #[.int .u64 p] w fun e w'=>e= .returned (.string (hxW p))∧Zak w w':=
 Ze (Zp Zd) (Ztq p) (Zv3 hp 16) (by rfl) (by rfl) w
end Go.Proofs.YtgefjidphfdhdaaGreatDoor
namespace Go.Proofs.YtgefjidphfdhdaaGreatDoor
open Go.Proofs.Tryz
open Go.IntKind
open Go.KRun Go.Rd
set_option maxRecDepth 100000
def Z1f:List UInt8:=[48,49,50,51,52,53,54,55,56,57,97,98,99,100,101,102]
def Z4O (F:Func):Code:=cIn (cIn (Z0 (sP F 1)))
theorem Zzd:f106.body=some (ZZ [sP f106 0] (.seq (.seq (Z1 (sP f106 1)) (.block 0 (.loop (Z4O f106)))) (sK f106 2))):=by kernel_rfl
def Zv4 (c b i:Int):List Value:=[.int .u8 c,.int .i64 b,undef,undef,.int .i64 0,.int .i64 i]
theorem Z4P (c b:Int):Zg (evL (Zq prog Zf Zn true) 100 [sP f106 0] ([.int .u8 c,.int .i64 b]++List.replicate 14 undef,⟨0,[]⟩,[]) ⟨[],[],[]⟩) 5 11 none [.int .u8 c,.int .i64 b,undef,undef,.int .i64 0] ⟨0,[]⟩ []:=by and_intros<;>kernel_rfl
theorem ZCp (c b:Int) (g:Nat→Value):Zg (evC (Zq prog Zf Zn true) 100 false (Z1 (sP f106 1)) ([.int .u8 c,.int .i64 b,undef,undef,.int .i64 0]++tl 11 g,⟨0,[]⟩,[]) ⟨[],[],[]⟩) 6 10 none (Zv4 c b 0) ⟨0,[]⟩ []:=by and_intros<;>kernel_rfl
theorem ZCq (c b i:Int) (g:Nat→Value):Zg (evC (Zq prog Zf Zn true) 100 false (Z4O f106) (Zv4 c b i++tl 10 g,⟨0,[]⟩,[cmp false]) ⟨[],[],[]⟩) 6 10 (some (some 0)) (Zv4 c b i) ⟨0,[]⟩ [(decide (i<b),false)]:=by and_intros<;>kernel_rfl
theorem ZCr (c b i:Int) (g:Nat→Value):Zg (evC (Zq prog Zf Zn true) 100 false (Z4O f106) (Zv4 c b i++tl 10 g,⟨0,[]⟩,[cmp true,cmp true]) ⟨[],[],[]⟩) 5 11 (some none) [.int .u8 c,.int .i64 b,undef,undef,.int .i64 i] ⟨0,[]⟩ [(byR Z1f i==c,true),(decide (0≤i∧i.toNat<16),true),(decide (i<b),true)]:=by and_intros<;>kernel_rfl
theorem ZCs (c b i:Int) (g:Nat→Value):Zg (evC (Zq prog Zf Zn true) 100 false (Z4O f106) (Zv4 c b i++tl 10 g,⟨0,[]⟩,[cmp true,cmp false]) ⟨[],[],[]⟩) 6 10 none (Zv4 c b (i64.wrap (i+1))) ⟨0,[]⟩ [(byR Z1f i==c,false),(decide (0≤i∧i.toNat<16),true),(decide (i<b),true)]:=by and_intros<;>kernel_rfl
theorem ZCt (c b i:Int) (g:Nat→Value):Zg (evC (Zq prog Zf Zn true) 100 false (sK f106 2) (Zv4 c b i++tl 10 g,⟨0,[]⟩,[]) ⟨[],[],[]⟩) 5 11 (some none) [.int .u8 c,.int .i64 b,undef,undef,.int .i64 (-1)] ⟨0,[]⟩ []:=by and_intros<;>kernel_rfl
theorem Zp9 {i:Nat}(h:i<16):byR Z1f (i:Int)=if i<10 then 48+(i:Int) else 87+(i:Int):=by
 have k:∀ j:Fin 16,byR Z1f (j.val:Int)=if j.val<10 then 48+(j.val:Int) else 87+(j.val:Int):=by decide
 exact k ⟨i,h⟩
def Z1g (c b:Int) (i:Nat) (y:Lf):Prop:=∃ g:Nat→Value,(i:Int)≤b∧(∀ j:Nat,j<i→byR Z1f (j:Int)≠c)∧y.1=Zv4 c b i++tl 10 g∧y.2.1=⟨0,[]⟩
def ZAi (c b:Int) (y:Lf):Prop:=ZY prog f106 y.1 y.2.1=some (.int .i64 (zA c b))
theorem Ztr {c b:Int}(hb:b=10∨b=16) (r:Nat) (y:Lf) (h:∃ i,r=b.toNat-i∧Z1g c b i y):
  Runs (Zq prog Zf Zn true) (Z4O f106) y fun e z=>match e with | none=>∃ r',r'<r∧∃ i,r'=b.toNat-i∧Z1g c b i z | some none=>ZAi c b z | some (some id')=>id'=0∧Z1g c b b.toNat z:=by
 have hT:=Zp Zd;obtain⟨i,hr,g,hi,hn,ht,hh⟩:=h;obtain⟨t,h',sc⟩:=y;simp only at ht hh;subst ht hh;by_cases hc:(i:Int)<b
 ·have lA:decide (((i:Nat):Int)<b)=true:=Xa hc;have lI:decide ((0:Int)≤(i:Nat)∧((i:Nat):Int).toNat<16)=true:=Xa (by omega);have ha:=Zp9 (i:=i) (by omega);by_cases hd:byR Z1f (i:Int)=c
  ·refine (Zc (s0:=sc) hT (ZCr c b (i:Nat) g) (Za (ZQ hd) (Za lI (Z4 lA)))).mono fun e z he=> ?_;obtain⟨rfl,⟨g',z1⟩,z2⟩:=he;have e:zA c b=(i:Int):=by
    rw[ha] at hd;unfold zA;split at hd
    ·rw[if_pos (by omega)];omega
    ·rw[if_neg (by omega),if_pos (by omega)];omega
   show ZY prog f106 z.1 z.2.1=some (.int .i64 (zA c b));rw[e,z1,z2];rfl
  ·have hg:=ZCs c b (i:Nat) g;rw[wN (by omega)] at hg;refine (Zc (s0:=sc) hT hg (Za (ZI hd) (Za lI (Z4 lA)))).mono fun e z he=> ?_;obtain⟨rfl,⟨g',z1⟩,z2⟩:=he;refine⟨b.toNat-(i+1),by omega,i+1,rfl,g',by omega,fun j hj=> ?_,z1,z2⟩;by_cases hji:j=i
   ·rw[hji];exact hd
   ·exact hn j (by omega)
 ·have e:i=b.toNat:=by omega
  subst e;refine (Zc (s0:=sc) hT (ZCq c b _ g) (Z4 (Xb hc))).mono fun e z he=> ?_;obtain⟨rfl,⟨g',z1⟩,z2⟩:=he;exact⟨rfl,g',hi,hn,z1,z2⟩
theorem Zts {c b:Int}(hb:b=10∨b=16) (w:World):Calls prog 106 #[.int .u8 c,.int .i64 b] w fun r w'=>r= .returned (.int .i64 (zA c b))∧Zak w w':=by
 have hT:=Zp Zd;refine zW (T:=Zq prog Zf Zn true) func106 Zzd (by rfl) (by rfl) ?_ w;refine Z2 hT (Z4P c b) Zcb fun g=> ?_;refine Runs.seq (P1:=fun e y=>match e with | none=>Z1g c b b.toNat y | some none=>ZAi c b y | some (some _)=>False) ?_ ?_ ?_
 ·refine Runs.seq (Zc hT (ZCp c b g) Zcb) ?_ (fun e y he=>by cases he.1);rintro⟨t,hh,sc⟩ ⟨_,⟨g',e1⟩,e2⟩;simp only at e1 e2;subst e1 e2;exact Runs.forLoop (R:=ZAi c b) (P:=Z1g c b b.toNat) (fun r y=>∃ i,r=b.toNat-i∧Z1g c b i y) (Ztr hb) (n:=b.toNat-0) ⟨0,rfl,g',by omega,fun j hj=>absurd hj (Nat.not_lt_zero _),rfl,rfl⟩
 ·rintro⟨t,hh,sc⟩ ⟨g',_,hn,e1,e2⟩;simp only at e1 e2;subst e1 e2;refine (Zc (s0:=sc) hT (ZCt c b _ g') Zcb).mono fun e z he=> ?_;obtain⟨rfl,⟨g2,z1⟩,z2⟩:=he;have e:zA c b= -1:=by
   unfold zA;rw[if_neg,if_neg]
   ·rintro⟨h1,h2,h3⟩;refine hn (c-87).toNat (by omega) ?_;rw[Zp9 (by omega),if_neg (by omega)];omega
   ·rintro⟨h2,h3⟩;refine hn (c-48).toNat (by omega) ?_;rw[Zp9 (by omega),if_pos (by omega)];omega
  rw[e];exact⟨.inr rfl,by rw[z1,z2];rfl⟩
 ·rintro e y he
  match e,he with
  | none,he=>exact⟨.inr rfl,he⟩
def ZAj:Ans:=fun vals s=>
 match vals with
 | [.int .u8 c,.int .i64 b]=>some (.int .i64 (zA c b),s,[(decide (b=10∨b=16),true)])
 | _=>none
theorem Zze:zw 106 ZAj:=by
 intro vals s v s' lg h hl w;unfold ZAj at h;split at h
 ·rename_i c b;cases h;exact Zts (Xc (hl _ Xf)) w
 ·cases h
def ZL:Con:=alt 106 ZAj Zn
theorem Zcp:ConOk ZL:=ZE func106 rfl Zze Zd
end Go.Proofs.YtgefjidphfdhdaaGreatDoor
namespace Go.Proofs.YtgefjidphfdhdaaGreatDoor
open Go.Proofs.Tryz
open Go.IntKind
open Go.KRun Go.Nt Go.Rd
set_option maxRecDepth 100000
def rfP (F:Func):List Code:=[Z1 (Zs F),Z1 (Z0 (Zs F))]
def rfI (F:Func):Code:=Z1 (Z1 (Z0 (Z0 (Zs F))))
def rfL (F:Func):Code:=cIn (cIn (Z0 (Z1 (Z0 (Z0 (Zs F))))))
def rfE (F:Func):Code:=Z0 (Z0 (Z0 (Zs F)))
theorem Zzf:f111.body=some (ZZ (rfP f111) (.seq (.seq (rfI f111) (.block 0 (.loop (rfL f111)))) (rfE f111))):=by kernel_rfl
theorem Zls:TabOk (Zk prog Zf ZL ZdJ):=Zh Zcp ZnN
def rfF (l:List UInt8) (b:Int) (out:Value) (i:Int):List Value:=[bR l,.int .i64 b,undef,undef,Zo,out,.int .i64 i]
theorem Z4Q (l:List UInt8) (b:Int):Zg (evL (Zk prog Zf ZL ZdJ) 100 (rfP f111) ([bR l,.int .i64 b]++List.replicate 22 undef,⟨0,[]⟩,[]) ⟨[],[],[]⟩) 6 18 none [bR l,.int .i64 b,undef,undef,Zo,Zo] ⟨0,[]⟩ []:=by and_intros<;>kernel_rfl
theorem ZCu (l:List UInt8) (b:Int) (h:Hp) (g:Nat→Value):Zg (evC (Zk prog Zf ZL ZdJ) 100 false (rfI f111) ([bR l,.int .i64 b,undef,undef,Zo,Zo]++tl 18 g,h,[]) ⟨[],[],[]⟩) 7 17 none (rfF l b Zo 0) h []:=by and_intros<;>kernel_rfl
theorem ZCv (l:List UInt8) (b:Int) (out:Value) (i:Int) (h:Hp) (g:Nat→Value):Zg (evC (Zk prog Zf ZL ZdJ) 100 false (rfL f111) (rfF l b out i++tl 17 g,h,[cmp false]) ⟨[],[],[]⟩) 7 17 (some (some 0)) (rfF l b out i) h [(decide (i<(l.length:Nat)),false)]:=by and_intros<;>kernel_rfl
theorem ZAk (l:List UInt8) (b i:Int) (W:Nat) (g:Nat→Value):Zg (evC (Zk prog Zf ZL ZdJ) 100 false (rfL f111) (rfF l b Zo i++tl 17 g,⟨0,[]⟩,[cmp true,cmp true,num W]) ⟨[],[],[]⟩) 7 17 none (rfF l b (sq0 W) (i64.wrap (i+1))) (pA W) [(decide (vO ⟨0,[]⟩ none 0*(u32.wrap b).toNat+(u32.wrap (zA (byR l i) b)).toNat=W),true),(Zbh ⟨0,[]⟩ none 0 0 (u32.wrap b) (u32.wrap (zA (byR l i) b)),true),(decide (0<0∨0<(u32.wrap (zA (byR l i) b))),true),(decide (b=10∨b=16),true),(decide (0≤i∧i.toNat<l.length),true),(decide (i<(l.length:Nat)),true)]:=by and_intros<;>kernel_rfl
theorem ZAl (l:List UInt8) (b i:Int) (V W:Nat) (g:Nat→Value):Zg (evC (Zk prog Zf ZL ZdJ) 100 false (rfL f111) (rfF l b (sq0 V) i++tl 17 g,pA V,[cmp true,cmp true,num W]) ⟨[],[],[]⟩) 7 17 none (rfF l b (sl 1 0 (d16 W).length (d16 W).length) (i64.wrap (i+1))) ⟨2,[wq W,wq V]⟩ [(decide (vO (pA V) (some ⟨0,0,none⟩) (d16 V).length*(u32.wrap b).toNat+(u32.wrap (zA (byR l i) b)).toNat=W),true),(Zbh (pA V) (some ⟨0,0,none⟩) (d16 V).length (d16 V).length (u32.wrap b) (u32.wrap (zA (byR l i) b)),true),(decide (0<(d16 V).length∨0<(u32.wrap (zA (byR l i) b))),true),(decide (b=10∨b=16),true),(decide (0≤i∧i.toNat<l.length),true),(decide (i<(l.length:Nat)),true)]:=by and_intros<;>kernel_rfl
theorem ZCw (l:List UInt8) (b:Int) (out:Value) (i:Int) (h:Hp) (g:Nat→Value):Zg (evC (Zk prog Zf ZL ZdJ) 100 false (rfE f111) (rfF l b out i++tl 17 g,h,[]) ⟨[],[],[]⟩) 5 19 (some none) [bR l,.int .i64 b,undef,undef,out] h []:=by and_intros<;>kernel_rfl
def Ztt (b:Int) (l:List UInt8):Bool:=decide ((b=10∨b=16)∧l.length≤20000) && Zaw b l && decide (0<zA (byR l 0) b)
theorem Ztu {b:Int}{l:List UInt8}(h:Zaw b l=true) {i:Nat}(hi:i<l.length):0≤zA (byR l (i:Nat)) b:=by
 unfold Zaw at h;rw[List.all_eq_true] at h;have h1:=h (l.getD i 0) (by rw[List.getD_eq_getElem?_getD,List.getElem?_eq_getElem hi,Option.getD_some];exact List.getElem_mem hi);unfold byR;rw[Xg];exact Xc h1
theorem Z4R {b:Int}(hb:b=10∨b=16) (l:List UInt8):(d16 (nmB b l)).length≤l.length:=by
 refine Zc8 (Nat.lt_of_lt_of_le (Zov hb l) ?_);have h1:b.toNat^l.length≤16^l.length:=Nat.pow_le_pow_left (by omega) _;have h2:(16:Nat)^l.length=2^(4*l.length):=by rw[Nat.pow_mul]
 have h3:(2:Nat)^(4*l.length)≤2^(16*l.length):=Nat.pow_le_pow_right (by omega) (by omega);omega
def rfS (b:Int) (l:List UInt8) (i:Nat) (y:Lf):Prop:=(i=0∧∃ g,y.1=rfF l b Zo i++tl 17 g∧y.2.1=⟨0,[]⟩)∨(0<i∧0<nmB b (l.take i)∧∃ g,y.1=rfF l b (sq0 (nmB b (l.take i))) i++tl 17 g∧y.2.1=pA (nmB b (l.take i)))
theorem Ztv {b:Int}{l:List UInt8}(hb:b=10∨b=16) (h2:l.length≤20000) (hA:Zaw b l=true) (h0:0<zA (byR l 0) b) (r:Nat) (y:Lf) (h:∃ i,i≤l.length∧r=l.length-i∧rfS b l i y):
  RunsW (Zk prog Zf ZL ZdJ) (rfL f111) y fun e z=>match e with | none=>∃ r',r'<r∧∃ i,i≤l.length∧r'=l.length-i∧rfS b l i z | some none=>False | some (some id')=>id'=0∧rfS b l l.length z:=by
 obtain⟨i,hi,hr,hS⟩:=h;obtain⟨t,h',sc⟩:=y;by_cases hc:i<l.length
 ·have lA:decide (((i:Nat):Int)<(l.length:Nat))=true:=Xa (by omega);have lI:decide ((0:Int)≤(i:Nat)∧((i:Nat):Int).toNat<l.length)=true:=Xa ⟨by omega,by rw[Xg];exact hc⟩;have lB:decide (b=10∨b=16)=true:=Xa hb;have ew:i64.wrap (((i:Nat):Int)+1)=((i+1:Nat):Int):=by rw[Zw (by omega) (by omega)];omega
  have bD:=Ziy (byR l (i:Nat)) b;have bd0:=Ztu hA hc;have eD:(u32.wrap (zA (byR l (i:Nat)) b))=zA (byR l (i:Nat)) b:=by
   simp [IntKind.wrap,IntKind.bits,IntKind.signed];omega
  have eB:u32.wrap b=b:=by
   simp [IntKind.wrap,IntKind.bits,IntKind.signed];omega
  have eV:=ZsL b l hc;have eC:lq8 (l.getD i 0)=byR l (i:Nat):=by unfold lq8 byR;rw[Xg]
  rw[eC] at eV;rcases hS with ⟨hz,g,ht,hh⟩ | ⟨hz,hp,g,ht,hh⟩
  ·simp only at ht hh;subst ht hh;have hg:=ZAk l b (i:Nat) (nmB b (l.take (i+1))) g;rw[ew,eD,eB] at hg;have d0:0<zA (byR l (i:Nat)) b:=by rw[hz];exact h0
   have e0:nmB b (l.take i)=0:=by rw[hz];rfl
   have k0:Zbh ⟨0,[]⟩ none 0 0 b (zA (byR l (i:Nat)) b)=true:=by
    unfold Zbh;rw[Xa ⟨⟨by omega,by omega⟩,by omega,by omega⟩];rfl
   refine (Zb (s0:=sc) Zls hg (Za (Xa (by rw[eV,e0,show vO ⟨0,[]⟩ none 0=0 from rfl])) (Za k0 (Za (Xa (.inr d0)) (Za lB (Za lI (Z4 lA))))))).mono fun e z he=> ?_;obtain⟨rfl,⟨g',z1⟩,z2⟩:=he;exact⟨l.length-(i+1),by omega,i+1,by omega,rfl,.inr ⟨by omega,by rw[eV,e0];omega,g',z1,z2⟩⟩
  ·simp only at ht hh;subst ht hh;have lV:=Z4R hb (l.take i);have lT:(l.take i).length≤i:=by rw[List.length_take];omega
   obtain⟨V,hV⟩:∃ V,V=nmB b (l.take i):=⟨_,rfl⟩;rw[← hV] at eV lV hp;have h1:0<(d16 V).length:=by
    unfold d16;rw[List.length_pos_iff,ne_eq,Zcu (by omega)];omega
   have k1:Zbh (pA V) (some ⟨0,0,none⟩) (d16 V).length (d16 V).length b (zA (byR l (i:Nat)) b)=true:=by
    unfold Zbh;rw[ZP (h:=pA V) (b:=0) (A:=V) rfl (by omega),Zai (h:=pA V) (b:=0) (A:=V) (ty:=tU) rfl,Zl.2 (by omega),Xa ⟨⟨by omega,by omega⟩,by omega,by omega⟩];rfl
   have q1:decide (vO (pA V) (some ⟨0,0,none⟩) (d16 V).length*b.toNat+(zA (byR l (i:Nat)) b).toNat=nmB b (l.take (i+1)))=true:=Xa (by rw[zO (h:=pA V) (b:=0) (A:=V) (ty:=tU) rfl,eV]);have hg:=ZAl l b (i:Nat) V (nmB b (l.take (i+1))) g;rw[ew,eD,eB] at hg;rw[← hV];have hb0:0<b.toNat:=by omega
   have hW:0<nmB b (l.take (i+1)):=by rw[eV];have:=Nat.mul_pos hp hb0;omega
   refine ((Zb (s0:=sc) Zls hg (Za q1 (Za k1 (Za (Xa (.inl h1)) (Za lB (Za lI (Z4 lA))))))).kept (k:=0) (b:=1) (base:=[]) (y:=wq (nmB b (l.take (i+1)))) (front':=rfF l b (sq0 (nmB b (l.take (i+1)))) ((i+1:Nat):Int)) rfl (by kernel_rfl) (fun j x hx=>by have:j<0:=Hp.blk_lt hx;omega) rfl (by omega) (ZJ _) (by
    intro v hv;simp only[rfF,List.mem_cons,List.not_mem_nil,or_false] at hv;rcases hv with rfl | rfl | rfl | rfl | rfl | rfl | rfl<;>rfl)).mono fun e z he=> ?_
   obtain⟨rfl,⟨g',z1⟩,z2⟩:=he;exact⟨l.length-(i+1),by omega,i+1,by omega,rfl,.inr ⟨by omega,hW,g',z1,z2⟩⟩
 ·have his:i=l.length:=by omega
  have out:∀ (o:Value) (g:Nat→Value),RunsW (Zk prog Zf ZL ZdJ) (rfL f111) (rfF l b o i++tl 17 g,h',sc) fun e z=>e=some (some 0)∧(∃ g,z.1=rfF l b o i++tl 17 g)∧z.2.1=h':=fun o g=>Zb (s0:=sc) Zls (ZCv l b o (i:Nat) h' g) (Z4 (Xb (by omega)));rw[← his];rcases hS with ⟨hz,g,ht,hh⟩ | ⟨hz,hp,g,ht,hh⟩
  ·simp only at ht hh;subst ht;refine (out _ g).mono fun e z he=> ?_;obtain⟨rfl,⟨g',z1⟩,z2⟩:=he;exact⟨rfl,.inl ⟨hz,g',z1,z2.trans hh⟩⟩
  ·simp only at ht hh;subst ht;refine (out _ g).mono fun e z he=> ?_;obtain⟨rfl,⟨g',z1⟩,z2⟩:=he;exact⟨rfl,.inr ⟨hz,hp,g',z1,z2.trans hh⟩⟩
theorem Zzg {b:Int}{l:List UInt8}(hb:b=10∨b=16) (h2:l.length≤20000) (hA:Zaw b l=true) (h0:0<zA (byR l 0) b):RunsW (Zk prog Zf ZL ZdJ) (ZZ (rfP f111) (.seq (.seq (rfI f111) (.block 0 (.loop (rfL f111)))) (rfE f111))) ([bR l,.int .i64 b]++List.replicate 22 undef,⟨0,[]⟩,[]) fun e z=>(e=none∨e=some none)∧ZY prog f111 z.1 z.2.1=some (sl 0 0 (d16 (nmB b l)).length (d16 (nmB b l)).length)∧∃ r,z.2.1.blk? 0=some (wU (d16 (nmB b l))++r,tU):=by
 refine Zu Zls (Z4Q l b) Zcb fun g=> ?_;refine RunsW.seq (P1:=fun e y=>match e with | none=>rfS b l l.length y | some none=>False | some (some _)=>False) ?_ ?_ ?_
 ·refine RunsW.seq (Zb Zls (ZCu l b _ g) Zcb) ?_ (fun e y he=>by cases he.1);rintro⟨t,hh,sc⟩ ⟨_,⟨g',e1⟩,e2⟩;refine RunsW.forLoop (R:=fun _=>False) (P:=rfS b l l.length) (fun r y=>∃ i,i≤l.length∧r=l.length-i∧rfS b l i y) (Ztv hb h2 hA h0) (n:=l.length) ⟨0,by omega,rfl,.inl ⟨rfl,g',e1,e2⟩⟩
 ·rintro⟨t,hh,sc⟩ hS;have et:l.take l.length=l:=List.take_length;rcases hS with ⟨hz,g',e1,e2⟩ | ⟨hz,hp,g',e1,e2⟩
  ·exfalso
   have:l=[]:=List.eq_nil_of_length_eq_zero hz;rw[this] at h0;have e:zA (byR [] 0) b= -1:=by
    unfold byR zA;rw[if_neg (by decide),if_neg (by intro h;exact absurd h.2.1 (by decide))]
   omega
  ·simp only at e1 e2;subst e1 e2;rw[et];refine (Zb (s0:=sc) Zls (ZCw l b _ _ _ g') Zcb).mono fun e z he=> ?_;obtain⟨rfl,⟨g2,z1⟩,z2⟩:=he;exact⟨.inr rfl,by rw[z1,z2];rfl,[],by rw[z2,List.append_nil];rfl⟩
 ·rintro e ⟨t,hh,sc⟩ hc
  match e,hc with
  | none,hc=>exact hc.elim
  | some _,hc=>exact hc.elim
def ZAm:Zaf:=fun vals h s=>
 match vals,s with
 | [.string ⟨⟨l⟩⟩,.int .i64 b],.inr (.inl V)::s'=>Zdq V.toNat h s' [(decide (nmB b l=V.toNat),true),(Ztt b l,true)]
 | _,_=>none
theorem Zzh:Z8 111 ZAm:=by
 intro vals h s v h' s' lg hg hl m B w E hv;unfold ZAm at hg;split at hg
 ·rename_i l b V s2;unfold Zdq at hg;cases hg;rw[Zm9,Zm9] at hl;obtain⟨l0,l1,_⟩:=hl;have l0:=Xc l0;rw[← l0];unfold Ztt at l1;simp only[Xh,Xi] at l1;obtain⟨⟨⟨q1,q2⟩,q3⟩,q4⟩:=l1;have r:=Zzg q1 q2 q3 q4;have e:rn (fun _=>h.n) (sl 0 0 (d16 (nmB b l)).length (d16 (nmB b l)).length)=sl h.n 0 (d16 (nmB b l)).length (d16 (nmB b l)).length:=by kernel_rfl
  have:=ZM (T:=(Zk prog Zf ZL ZdJ)) func111 Zzf (h0:=⟨0,[]⟩) ⟨rfl,fun b x hx=>by have:b<0:=Hp.blk_lt hx;omega⟩ (vals:=[bR l,.int .i64 b]) (fun v hv=>by
   simp only[List.mem_cons,List.not_mem_nil,or_false] at hv;rcases hv with h1 | h1<;>rw[h1]<;>rfl) (k:=0) (cs:=wU (d16 (nmB b l))) (ty:=tU) (Zbf _) (by kernel_rfl) r (by rfl) E (s:=fun i=>i) (fun i x hx=>by have:i<0:=Hp.blk_lt hx;omega)
  rw[e] at this;exact this
 ·cases hg
end Go.Proofs.YtgefjidphfdhdaaGreatDoor
namespace Go.Proofs.YtgefjidphfdhdaaGreatDoor
open Go.Proofs.Tryz
open Go.IntKind
open Go.KRun Go.Rd
set_option maxRecDepth 100000
def Zv5 (F:Func):Code:=cIn (cIn (sP F 3))
def Z1h (F:Func):Code:=cIn (cIn (sP F 11))
theorem ZpA:f55.body=some (ZZ [sP f55 0,sP f55 1,sP f55 2] (.seq (.block 0 (.loop (Zv5 f55))) (sK f55 4))):=by kernel_rfl
theorem Zbr:sK f55 4=ZZ [sP f55 4,sP f55 5,sP f55 6,sP f55 7,sP f55 8,sP f55 9,sP f55 10] (.seq (.block 2 (.loop (Z1h f55))) (sK f55 12)):=by kernel_rfl
def ZcW (b:Int) (D:List UInt8) (k P:Int):List Value×TypeId:=([.bool false,.int .i64 b,bR D,.int .i64 k,.int .i64 P],94)
def zB:List Value×TypeId:=([.bool false,.int .i64 0,bR [],.int .i64 0,.int .i64 0],94)
def ZcX (l:List UInt8) (b i q:Int):List Value:=[bR l,.int .i64 b,undef,undef,pO 0,.bool false,pO 1,.int .i64 i,.int .i64 q]
def ZhS (l:List UInt8) (b i q:Int) (mn:Bool):List Value:=[bR l,.int .i64 b,undef,undef,pO 0,.bool false,pO 1,.int .i64 i,.int .i64 q,.bool mn]
def scM (b:Int) (D:List UInt8) (k P:Int):Hp:=⟨2,[ZcW b D k P,zB]⟩
theorem Z4S (l:List UInt8) (b:Int):Zg (evL (Zq prog Zf ZL true) 100 [sP f55 0,sP f55 1,sP f55 2] ([bR l,.int .i64 b]++List.replicate 147 undef,⟨0,[]⟩,[]) ⟨[],[],[]⟩) 9 140 none (ZcX l b 0 0) (scM b [] 0 0) []:=by and_intros<;>kernel_rfl
theorem ZCx (l:List UInt8) (b i q:Int) (D:List UInt8) (k P:Int) (g:Nat→Value):Zg (evC (Zq prog Zf ZL true) 100 false (Zv5 f55) (ZcX l b i q++tl 140 g,scM b D k P,[cmp false]) ⟨[],[],[]⟩) 9 140 (some (some 0)) (ZcX l b i q) (scM b D k P) [(decide (i<(l.length:Nat)),false)]:=by and_intros<;>kernel_rfl
theorem ZAn (l:List UInt8) (b i q:Int) (D:List UInt8) (k P:Int) (g:Nat→Value):Zg (evC (Zq prog Zf ZL true) 100 false (Zv5 f55) (ZcX l b i q++tl 140 g,scM b D k P,[cmp true,cmp false,cmp false]) ⟨[],[],[]⟩) 9 140 (some (some 0)) (ZcX l b i q) (scM b D k P) [(decide (zA (byR l i) b≥0),false),(decide (b=10∨b=16),true),(decide (0≤i∧i.toNat<l.length),true),(byR l i==46,false),(decide (0≤i∧i.toNat<l.length),true),(decide (i<(l.length:Nat)),true)]:=by and_intros<;>kernel_rfl
theorem ZAo (l:List UInt8) (b i q:Int) (D:List UInt8) (k P:Int) (g:Nat→Value):Zg (evC (Zq prog Zf ZL true) 100 false (Zv5 f55) (ZcX l b i q++tl 140 g,scM b D k P,[cmp true,cmp true,cmp false,cmp false]) ⟨[],[],[]⟩) 9 140 (some (some 0)) (ZcX l b i q) (scM b D k P) [(decide (zA (byR l i) b≥0),false),(decide (b=10∨b=16),true),(decide (0≤i∧i.toNat<l.length),true),(q==0,false),(byR l i==46,true),(decide (0≤i∧i.toNat<l.length),true),(decide (i<(l.length:Nat)),true)]:=by and_intros<;>kernel_rfl
theorem ZCy (l:List UInt8) (b i q:Int) (D:List UInt8) (k P:Int) (g:Nat→Value):Zg (evC (Zq prog Zf ZL true) 100 false (Zv5 f55) (ZcX l b i q++tl 140 g,scM b D k P,[cmp true,cmp true,cmp true,cmp true]) ⟨[],[],[]⟩) 9 140 none (ZcX l b (i64.wrap (i+1)) (i64.wrap (q+1))) (scM b D k P) [(byR l i==46,true),(decide (0≤i∧i.toNat<l.length),true),(q==0,true),(byR l i==46,true),(decide (0≤i∧i.toNat<l.length),true),(decide (i<(l.length:Nat)),true)]:=by and_intros<;>kernel_rfl
theorem ZCz (l:List UInt8) (b i q:Int) (D:List UInt8) (k P:Int) (g:Nat→Value):Zg (evC (Zq prog Zf ZL true) 100 false (Zv5 f55) (ZcX l b i q++tl 140 g,scM b D k P,[cmp true,cmp false,cmp true,cmp false,sam true,sam true]) ⟨[],[],[]⟩) 9 140 none (ZcX l b (i64.wrap (i+1)) q) (scM b (D++((l.drop i.toNat).take ((i64.wrap (i+1)).toNat-i.toNat))) (i64.wrap (k+q)) P) [(decide (D.length+((l.drop i.toNat).take ((i64.wrap (i+1)).toNat-i.toNat)).length≤9223372036854775807),true),(decide (0≤i∧i≤(i64.wrap (i+1))∧(i64.wrap (i+1))≤((l.length:Nat):Int)),true),(byR l i==46,false),(decide (0≤i∧i.toNat<l.length),true),(decide (zA (byR l i) b≥0),true),(decide (b=10∨b=16),true),(decide (0≤i∧i.toNat<l.length),true),(byR l i==46,false),(decide (0≤i∧i.toNat<l.length),true),(decide (i<(l.length:Nat)),true)]:=by and_intros<;>kernel_rfl
theorem ZC0 (l:List UInt8) (b i q:Int) (D:List UInt8) (k P:Int) (g:Nat→Value):Zg (evC (Zq prog Zf ZL true) 100 false (sK f55 4) (ZcX l b i q++tl 140 g,scM b D k P,[sam true]) ⟨[],[],[]⟩) 6 143 (some none) [bR l,.int .i64 b,undef,undef,pO 0,.bool false] ⟨2,[ZcW b D k P,ZcW b D k P]⟩ [((⟨⟨D⟩⟩:ByteArray)==⟨⟨[]⟩⟩,true)]:=by and_intros<;>kernel_rfl
theorem ZC1 (l:List UInt8) (b i q:Int) (D:List UInt8) (k P:Int) (g:Nat→Value) (d:Bool):Zg (evC (Zq prog Zf ZL true) 100 false (sK f55 4) (ZcX l b i q++tl 140 g,scM b D k P,[sam false,cmp true,cmp d]) ⟨[],[],[]⟩) 6 143 (some none) [bR l,.int .i64 b,undef,undef,pO 0,.bool d] ⟨2,[ZcW b D k P,ZcW b D k P]⟩ [(b==10,d),(i==(l.length:Nat),true),((⟨⟨D⟩⟩:ByteArray)==⟨⟨[]⟩⟩,false)]:=by and_intros<;>kernel_rfl
theorem ZAp (l:List UInt8) (b i q:Int) (D:List UInt8) (k P:Int) (g:Nat→Value):Zg (evC (Zq prog Zf ZL true) 100 false (sK f55 4) (ZcX l b i q++tl 140 g,scM b D k P,[sam false,cmp false,cmp true,cmp true]) ⟨[],[],[]⟩) 6 143 (some none) [bR l,.int .i64 b,undef,undef,pO 0,.bool false] ⟨2,[ZcW b D k P,ZcW b D k P]⟩ [(byR l i !=101,true),(decide (0≤i∧i.toNat<l.length),true),(b==10,true),(i==(l.length:Nat),false),((⟨⟨D⟩⟩:ByteArray)==⟨⟨[]⟩⟩,false)]:=by and_intros<;>kernel_rfl
theorem ZAq (l:List UInt8) (b i q:Int) (D:List UInt8) (k P:Int) (g:Nat→Value):Zg (evC (Zq prog Zf ZL true) 100 false (sK f55 4) (ZcX l b i q++tl 140 g,scM b D k P,[sam false,cmp false,cmp false,cmp true,cmp true]) ⟨[],[],[]⟩) 6 143 (some none) [bR l,.int .i64 b,undef,undef,pO 0,.bool false] ⟨2,[ZcW b D k P,ZcW b D k P]⟩ [(byR l i !=112,true),(decide (0≤i∧i.toNat<l.length),true),(b==16,true),(b==10,false),(i==(l.length:Nat),false),((⟨⟨D⟩⟩:ByteArray)==⟨⟨[]⟩⟩,false)]:=by and_intros<;>kernel_rfl
theorem ZAr (l:List UInt8) (b i q:Int) (D:List UInt8) (k P:Int) (g:Nat→Value):Zg (evC (Zq prog Zf ZL true) 100 false (sK f55 4) (ZcX l b i q++tl 140 g,scM b D k P,[sam false,cmp false,cmp true,cmp false,cmp false,cmp false,cmp false,cmp true]) ⟨[],[],[]⟩) 6 143 (some none) [bR l,.int .i64 b,undef,undef,pO 0,.bool false] ⟨2,[ZcW b D k P,ZcW b D k P]⟩ [((i64.wrap (i+1))==(l.length:Nat),true),(decide ((i64.wrap (i+1))<(l.length:Nat)),false),(decide ((i64.wrap (i+1))<(l.length:Nat)),false),(b==16,false),(byR l i !=101,false),(decide (0≤i∧i.toNat<l.length),true),(b==10,true),(i==(l.length:Nat),false),((⟨⟨D⟩⟩:ByteArray)==⟨⟨[]⟩⟩,false)]:=by and_intros<;>kernel_rfl
theorem Z4T (l:List UInt8) (b i q:Int) (D:List UInt8) (k P:Int) (g:Nat→Value):Zg (evC (Zq prog Zf ZL true) 100 false (sK f55 4) (ZcX l b i q++tl 140 g,scM b D k P,[sam false,cmp false,cmp true,cmp false,cmp false,cmp true,cmp true,cmp true,cmp true,cmp true]) ⟨[],[],[]⟩) 6 143 (some none) [bR l,.int .i64 b,undef,undef,pO 0,.bool false] ⟨2,[ZcW b D k P,ZcW b D k P]⟩ [((i64.wrap ((i64.wrap (i+1))+1))==(l.length:Nat),true),(byR l (i64.wrap (i+1))==45,true),(decide (0≤(i64.wrap (i+1))∧(i64.wrap (i+1)).toNat<l.length),true),(decide ((i64.wrap (i+1))<(l.length:Nat)),true),(byR l (i64.wrap (i+1))==45,true),(decide (0≤(i64.wrap (i+1))∧(i64.wrap (i+1)).toNat<l.length),true),(decide ((i64.wrap (i+1))<(l.length:Nat)),true),(b==16,false),(byR l i !=101,false),(decide (0≤i∧i.toNat<l.length),true),(b==10,true),(i==(l.length:Nat),false),((⟨⟨D⟩⟩:ByteArray)==⟨⟨[]⟩⟩,false)]:=by and_intros<;>kernel_rfl
theorem Z4U (l:List UInt8) (b i q:Int) (D:List UInt8) (k P:Int) (g:Nat→Value):Zg (evL (Zq prog Zf ZL true) 100 [sP f55 4,sP f55 5,sP f55 6,sP f55 7,sP f55 8,sP f55 9,sP f55 10] (ZcX l b i q++tl 140 g,scM b D k P,[sam false,cmp false,cmp true,cmp false,cmp false,cmp true,cmp true,cmp true,cmp true,cmp false]) ⟨[],[],[]⟩) 10 139 none (ZhS l b (i64.wrap ((i64.wrap (i+1))+1)) q true) (scM b D k P) [((i64.wrap ((i64.wrap (i+1))+1))==(l.length:Nat),false),(byR l (i64.wrap (i+1))==45,true),(decide (0≤(i64.wrap (i+1))∧(i64.wrap (i+1)).toNat<l.length),true),(decide ((i64.wrap (i+1))<(l.length:Nat)),true),(byR l (i64.wrap (i+1))==45,true),(decide (0≤(i64.wrap (i+1))∧(i64.wrap (i+1)).toNat<l.length),true),(decide ((i64.wrap (i+1))<(l.length:Nat)),true),(b==16,false),(byR l i !=101,false),(decide (0≤i∧i.toNat<l.length),true),(b==10,true),(i==(l.length:Nat),false),((⟨⟨D⟩⟩:ByteArray)==⟨⟨[]⟩⟩,false)]:=by and_intros<;>kernel_rfl
theorem Z4V (l:List UInt8) (b i q:Int) (D:List UInt8) (k P:Int) (g:Nat→Value):Zg (evC (Zq prog Zf ZL true) 100 false (sK f55 4) (ZcX l b i q++tl 140 g,scM b D k P,[sam false,cmp false,cmp true,cmp false,cmp false,cmp true,cmp false,cmp true,cmp false,cmp true,cmp true]) ⟨[],[],[]⟩) 6 143 (some none) [bR l,.int .i64 b,undef,undef,pO 0,.bool false] ⟨2,[ZcW b D k P,ZcW b D k P]⟩ [((i64.wrap ((i64.wrap (i+1))+1))==(l.length:Nat),true),(byR l (i64.wrap (i+1))==43,true),(decide (0≤(i64.wrap (i+1))∧(i64.wrap (i+1)).toNat<l.length),true),(byR l (i64.wrap (i+1))==45,false),(decide (0≤(i64.wrap (i+1))∧(i64.wrap (i+1)).toNat<l.length),true),(decide ((i64.wrap (i+1))<(l.length:Nat)),true),(byR l (i64.wrap (i+1))==45,false),(decide (0≤(i64.wrap (i+1))∧(i64.wrap (i+1)).toNat<l.length),true),(decide ((i64.wrap (i+1))<(l.length:Nat)),true),(b==16,false),(byR l i !=101,false),(decide (0≤i∧i.toNat<l.length),true),(b==10,true),(i==(l.length:Nat),false),((⟨⟨D⟩⟩:ByteArray)==⟨⟨[]⟩⟩,false)]:=by and_intros<;>kernel_rfl
theorem Z4W (l:List UInt8) (b i q:Int) (D:List UInt8) (k P:Int) (g:Nat→Value):Zg (evL (Zq prog Zf ZL true) 100 [sP f55 4,sP f55 5,sP f55 6,sP f55 7,sP f55 8,sP f55 9,sP f55 10] (ZcX l b i q++tl 140 g,scM b D k P,[sam false,cmp false,cmp true,cmp false,cmp false,cmp true,cmp false,cmp true,cmp false,cmp true,cmp false]) ⟨[],[],[]⟩) 10 139 none (ZhS l b (i64.wrap ((i64.wrap (i+1))+1)) q false) (scM b D k P) [((i64.wrap ((i64.wrap (i+1))+1))==(l.length:Nat),false),(byR l (i64.wrap (i+1))==43,true),(decide (0≤(i64.wrap (i+1))∧(i64.wrap (i+1)).toNat<l.length),true),(byR l (i64.wrap (i+1))==45,false),(decide (0≤(i64.wrap (i+1))∧(i64.wrap (i+1)).toNat<l.length),true),(decide ((i64.wrap (i+1))<(l.length:Nat)),true),(byR l (i64.wrap (i+1))==45,false),(decide (0≤(i64.wrap (i+1))∧(i64.wrap (i+1)).toNat<l.length),true),(decide ((i64.wrap (i+1))<(l.length:Nat)),true),(b==16,false),(byR l i !=101,false),(decide (0≤i∧i.toNat<l.length),true),(b==10,true),(i==(l.length:Nat),false),((⟨⟨D⟩⟩:ByteArray)==⟨⟨[]⟩⟩,false)]:=by and_intros<;>kernel_rfl
theorem Z4X (l:List UInt8) (b i q:Int) (D:List UInt8) (k P:Int) (g:Nat→Value):Zg (evL (Zq prog Zf ZL true) 100 [sP f55 4,sP f55 5,sP f55 6,sP f55 7,sP f55 8,sP f55 9,sP f55 10] (ZcX l b i q++tl 140 g,scM b D k P,[sam false,cmp false,cmp true,cmp false,cmp false,cmp true,cmp false,cmp true,cmp false,cmp false,cmp false]) ⟨[],[],[]⟩) 10 139 none (ZhS l b (i64.wrap (i+1)) q false) (scM b D k P) [((i64.wrap (i+1))==(l.length:Nat),false),(byR l (i64.wrap (i+1))==43,false),(decide (0≤(i64.wrap (i+1))∧(i64.wrap (i+1)).toNat<l.length),true),(byR l (i64.wrap (i+1))==45,false),(decide (0≤(i64.wrap (i+1))∧(i64.wrap (i+1)).toNat<l.length),true),(decide ((i64.wrap (i+1))<(l.length:Nat)),true),(byR l (i64.wrap (i+1))==45,false),(decide (0≤(i64.wrap (i+1))∧(i64.wrap (i+1)).toNat<l.length),true),(decide ((i64.wrap (i+1))<(l.length:Nat)),true),(b==16,false),(byR l i !=101,false),(decide (0≤i∧i.toNat<l.length),true),(b==10,true),(i==(l.length:Nat),false),((⟨⟨D⟩⟩:ByteArray)==⟨⟨[]⟩⟩,false)]:=by and_intros<;>kernel_rfl
theorem ZAs (l:List UInt8) (b i q:Int) (D:List UInt8) (k P:Int) (g:Nat→Value):Zg (evC (Zq prog Zf ZL true) 100 false (sK f55 4) (ZcX l b i q++tl 140 g,scM b D k P,[sam false,cmp false,cmp false,cmp true,cmp false,cmp false,cmp false,cmp true]) ⟨[],[],[]⟩) 6 143 (some none) [bR l,.int .i64 b,undef,undef,pO 0,.bool false] ⟨2,[ZcW b D k P,ZcW b D k P]⟩ [((i64.wrap (i+1))==(l.length:Nat),true),(decide ((i64.wrap (i+1))<(l.length:Nat)),false),(decide ((i64.wrap (i+1))<(l.length:Nat)),false),(byR l i !=112,false),(decide (0≤i∧i.toNat<l.length),true),(b==16,true),(b==10,false),(i==(l.length:Nat),false),((⟨⟨D⟩⟩:ByteArray)==⟨⟨[]⟩⟩,false)]:=by and_intros<;>kernel_rfl
theorem Z4Y (l:List UInt8) (b i q:Int) (D:List UInt8) (k P:Int) (g:Nat→Value):Zg (evC (Zq prog Zf ZL true) 100 false (sK f55 4) (ZcX l b i q++tl 140 g,scM b D k P,[sam false,cmp false,cmp false,cmp true,cmp false,cmp true,cmp true,cmp true,cmp true,cmp true]) ⟨[],[],[]⟩) 6 143 (some none) [bR l,.int .i64 b,undef,undef,pO 0,.bool false] ⟨2,[ZcW b D k P,ZcW b D k P]⟩ [((i64.wrap ((i64.wrap (i+1))+1))==(l.length:Nat),true),(byR l (i64.wrap (i+1))==45,true),(decide (0≤(i64.wrap (i+1))∧(i64.wrap (i+1)).toNat<l.length),true),(decide ((i64.wrap (i+1))<(l.length:Nat)),true),(byR l (i64.wrap (i+1))==45,true),(decide (0≤(i64.wrap (i+1))∧(i64.wrap (i+1)).toNat<l.length),true),(decide ((i64.wrap (i+1))<(l.length:Nat)),true),(byR l i !=112,false),(decide (0≤i∧i.toNat<l.length),true),(b==16,true),(b==10,false),(i==(l.length:Nat),false),((⟨⟨D⟩⟩:ByteArray)==⟨⟨[]⟩⟩,false)]:=by and_intros<;>kernel_rfl
theorem Z4Z (l:List UInt8) (b i q:Int) (D:List UInt8) (k P:Int) (g:Nat→Value):Zg (evL (Zq prog Zf ZL true) 100 [sP f55 4,sP f55 5,sP f55 6,sP f55 7,sP f55 8,sP f55 9,sP f55 10] (ZcX l b i q++tl 140 g,scM b D k P,[sam false,cmp false,cmp false,cmp true,cmp false,cmp true,cmp true,cmp true,cmp true,cmp false]) ⟨[],[],[]⟩) 10 139 none (ZhS l b (i64.wrap ((i64.wrap (i+1))+1)) q true) (scM b D k P) [((i64.wrap ((i64.wrap (i+1))+1))==(l.length:Nat),false),(byR l (i64.wrap (i+1))==45,true),(decide (0≤(i64.wrap (i+1))∧(i64.wrap (i+1)).toNat<l.length),true),(decide ((i64.wrap (i+1))<(l.length:Nat)),true),(byR l (i64.wrap (i+1))==45,true),(decide (0≤(i64.wrap (i+1))∧(i64.wrap (i+1)).toNat<l.length),true),(decide ((i64.wrap (i+1))<(l.length:Nat)),true),(byR l i !=112,false),(decide (0≤i∧i.toNat<l.length),true),(b==16,true),(b==10,false),(i==(l.length:Nat),false),((⟨⟨D⟩⟩:ByteArray)==⟨⟨[]⟩⟩,false)]:=by and_intros<;>kernel_rfl
theorem Z5a (l:List UInt8) (b i q:Int) (D:List UInt8) (k P:Int) (g:Nat→Value):Zg (evC (Zq prog Zf ZL true) 100 false (sK f55 4) (ZcX l b i q++tl 140 g,scM b D k P,[sam false,cmp false,cmp false,cmp true,cmp false,cmp true,cmp false,cmp true,cmp false,cmp true,cmp true]) ⟨[],[],[]⟩) 6 143 (some none) [bR l,.int .i64 b,undef,undef,pO 0,.bool false] ⟨2,[ZcW b D k P,ZcW b D k P]⟩ [((i64.wrap ((i64.wrap (i+1))+1))==(l.length:Nat),true),(byR l (i64.wrap (i+1))==43,true),(decide (0≤(i64.wrap (i+1))∧(i64.wrap (i+1)).toNat<l.length),true),(byR l (i64.wrap (i+1))==45,false),(decide (0≤(i64.wrap (i+1))∧(i64.wrap (i+1)).toNat<l.length),true),(decide ((i64.wrap (i+1))<(l.length:Nat)),true),(byR l (i64.wrap (i+1))==45,false),(decide (0≤(i64.wrap (i+1))∧(i64.wrap (i+1)).toNat<l.length),true),(decide ((i64.wrap (i+1))<(l.length:Nat)),true),(byR l i !=112,false),(decide (0≤i∧i.toNat<l.length),true),(b==16,true),(b==10,false),(i==(l.length:Nat),false),((⟨⟨D⟩⟩:ByteArray)==⟨⟨[]⟩⟩,false)]:=by and_intros<;>kernel_rfl
theorem Z5b (l:List UInt8) (b i q:Int) (D:List UInt8) (k P:Int) (g:Nat→Value):Zg (evL (Zq prog Zf ZL true) 100 [sP f55 4,sP f55 5,sP f55 6,sP f55 7,sP f55 8,sP f55 9,sP f55 10] (ZcX l b i q++tl 140 g,scM b D k P,[sam false,cmp false,cmp false,cmp true,cmp false,cmp true,cmp false,cmp true,cmp false,cmp true,cmp false]) ⟨[],[],[]⟩) 10 139 none (ZhS l b (i64.wrap ((i64.wrap (i+1))+1)) q false) (scM b D k P) [((i64.wrap ((i64.wrap (i+1))+1))==(l.length:Nat),false),(byR l (i64.wrap (i+1))==43,true),(decide (0≤(i64.wrap (i+1))∧(i64.wrap (i+1)).toNat<l.length),true),(byR l (i64.wrap (i+1))==45,false),(decide (0≤(i64.wrap (i+1))∧(i64.wrap (i+1)).toNat<l.length),true),(decide ((i64.wrap (i+1))<(l.length:Nat)),true),(byR l (i64.wrap (i+1))==45,false),(decide (0≤(i64.wrap (i+1))∧(i64.wrap (i+1)).toNat<l.length),true),(decide ((i64.wrap (i+1))<(l.length:Nat)),true),(byR l i !=112,false),(decide (0≤i∧i.toNat<l.length),true),(b==16,true),(b==10,false),(i==(l.length:Nat),false),((⟨⟨D⟩⟩:ByteArray)==⟨⟨[]⟩⟩,false)]:=by and_intros<;>kernel_rfl
theorem Z5c (l:List UInt8) (b i q:Int) (D:List UInt8) (k P:Int) (g:Nat→Value):Zg (evL (Zq prog Zf ZL true) 100 [sP f55 4,sP f55 5,sP f55 6,sP f55 7,sP f55 8,sP f55 9,sP f55 10] (ZcX l b i q++tl 140 g,scM b D k P,[sam false,cmp false,cmp false,cmp true,cmp false,cmp true,cmp false,cmp true,cmp false,cmp false,cmp false]) ⟨[],[],[]⟩) 10 139 none (ZhS l b (i64.wrap (i+1)) q false) (scM b D k P) [((i64.wrap (i+1))==(l.length:Nat),false),(byR l (i64.wrap (i+1))==43,false),(decide (0≤(i64.wrap (i+1))∧(i64.wrap (i+1)).toNat<l.length),true),(byR l (i64.wrap (i+1))==45,false),(decide (0≤(i64.wrap (i+1))∧(i64.wrap (i+1)).toNat<l.length),true),(decide ((i64.wrap (i+1))<(l.length:Nat)),true),(byR l (i64.wrap (i+1))==45,false),(decide (0≤(i64.wrap (i+1))∧(i64.wrap (i+1)).toNat<l.length),true),(decide ((i64.wrap (i+1))<(l.length:Nat)),true),(byR l i !=112,false),(decide (0≤i∧i.toNat<l.length),true),(b==16,true),(b==10,false),(i==(l.length:Nat),false),((⟨⟨D⟩⟩:ByteArray)==⟨⟨[]⟩⟩,false)]:=by and_intros<;>kernel_rfl
theorem ZC2 (l:List UInt8) (b i q:Int) (mn:Bool) (D:List UInt8) (k P:Int) (g:Nat→Value):Zg (evC (Zq prog Zf ZL true) 100 false (Z1h f55) (ZhS l b i q mn++tl 139 g,scM b D k P,[cmp false]) ⟨[],[],[]⟩) 10 139 (some (some 2)) (ZhS l b i q mn) (scM b D k P) [(decide (i<(l.length:Nat)),false)]:=by and_intros<;>kernel_rfl
theorem ZC3 (l:List UInt8) (b i q:Int) (mn:Bool) (D:List UInt8) (k P:Int) (g:Nat→Value):Zg (evC (Zq prog Zf ZL true) 100 false (Z1h f55) (ZhS l b i q mn++tl 139 g,scM b D k P,[cmp true,cmp true]) ⟨[],[],[]⟩) 6 143 (some none) [bR l,.int .i64 b,undef,undef,pO 0,.bool false] ⟨2,[ZcW b D k P,ZcW b D k P]⟩ [(decide (zA (byR l i) 10<0),true),(true,true),(decide (0≤i∧i.toNat<l.length),true),(decide (i<(l.length:Nat)),true)]:=by and_intros<;>kernel_rfl
theorem ZC4 (l:List UInt8) (b i q:Int) (mn:Bool) (D:List UInt8) (k P:Int) (g:Nat→Value):Zg (evC (Zq prog Zf ZL true) 100 false (Z1h f55) (ZhS l b i q mn++tl 139 g,scM b D k P,[cmp true,cmp false]) ⟨[],[],[]⟩) 10 139 none (ZhS l b (i64.wrap (i+1)) q mn) (scM b D k (if 2000000<(i64.wrap (i64.wrap (10*P)+zA (byR l i) 10)) then 2000000 else (i64.wrap (i64.wrap (10*P)+zA (byR l i) 10)))) [(true,true),(true,true),(decide (0≤i∧i.toNat<l.length),true),(decide (zA (byR l i) 10<0),false),(true,true),(decide (0≤i∧i.toNat<l.length),true),(decide (i<(l.length:Nat)),true)]:=by and_intros<;>kernel_rfl
theorem ZC5 (l:List UInt8) (b i q:Int) (D:List UInt8) (k P:Int) (g:Nat→Value):Zg (evC (Zq prog Zf ZL true) 100 false (sK f55 12) (ZhS l b i q true++tl 139 g,scM b D k P,[]) ⟨[],[],[]⟩) 6 143 (some none) [bR l,.int .i64 b,undef,undef,pO 0,.bool true] ⟨2,[ZcW b D k (i64.wrap (0-P)),ZcW b D k (i64.wrap (0-P))]⟩ []:=by and_intros<;>kernel_rfl
theorem ZC6 (l:List UInt8) (b i q:Int) (D:List UInt8) (k P:Int) (g:Nat→Value):Zg (evC (Zq prog Zf ZL true) 100 false (sK f55 12) (ZhS l b i q false++tl 139 g,scM b D k P,[]) ⟨[],[],[]⟩) 6 143 (some none) [bR l,.int .i64 b,undef,undef,pO 0,.bool true] ⟨2,[ZcW b D k P,ZcW b D k P]⟩ []:=by and_intros<;>kernel_rfl
end Go.Proofs.YtgefjidphfdhdaaGreatDoor
namespace Go.Proofs.YtgefjidphfdhdaaGreatDoor
open Go.Proofs.Tryz
open Go.IntKind
open Go.KRun Go.Nt Go.Rd
set_option maxRecDepth 100000
def q1R (p:Bool):Int:=if p=true then 1 else 0
def scS (b:Int) (l:List UInt8) (i:Nat) (y:Lf):Prop:=∃ (p:Bool) (D:List UInt8) (k:Nat) (g:Nat→Value),i≤l.length∧D.length≤i∧k≤i∧sc1 b false l=(D++(sc1 b p (l.drop i)).1,k+(sc1 b p (l.drop i)).2.1,(sc1 b p (l.drop i)).2.2)∧y.1=ZcX l b i (q1R p)++tl 140 g∧y.2.1=scM b D k 0
def scO (b:Int) (l:List UInt8) (y:Lf):Prop:=∃ (i:Nat) (p:Bool) (D:List UInt8) (k:Nat) (g:Nat→Value),i≤l.length∧D.length≤i∧k≤i∧sc1 b false l=(D,k,l.drop i)∧y.1=ZcX l b i (q1R p)++tl 140 g∧y.2.1=scM b D k 0
theorem Ztw {b:Int}{l:List UInt8}(hb:b=10∨b=16) (h2:l.length≤100000) (r:Nat) (y:Lf) (h:∃ i,r=l.length-i∧scS b l i y):
  Runs (Zq prog Zf ZL true) (Zv5 f55) y fun e z=>match e with | none=>∃ r',r'<r∧∃ i,r'=l.length-i∧scS b l i z | some none=>False | some (some id')=>id'=0∧scO b l z:=by
 have hT:=Zp Zcp;obtain⟨i,hr,p,D,k,g,hi,hD,hk,hS,ht,hh⟩:=h;obtain⟨t,h',sc⟩:=y;simp only at ht hh;subst ht hh;by_cases hc:i<l.length
 ·have lA:decide (((i:Nat):Int)<(l.length:Nat))=true:=Xa (by omega);have lI:decide ((0:Int)≤(i:Nat)∧((i:Nat):Int).toNat<l.length)=true:=Xa ⟨by omega,by rw[Xg];exact hc⟩;have lB:decide (b=10∨b=16)=true:=Xa hb;have ew:=wN (n:=i) (by omega);have ed:=ZcP hc;have eC:lq8 (l.getD i 0)=byR l (i:Nat):=by unfold lq8 byR;rw[Xg]
  by_cases h46:byR l (i:Nat)=46
  ·have c46:(byR l (i:Nat)==46)=true:=ZQ h46;cases p with
   | false=>
    have hg:=ZCy l b (i:Nat) (q1R false) D k 0 g;rw[ew] at hg;refine (Zc (s0:=sc) hT hg (Za c46 (Za lI (Za (by decide) (Za c46 (Za lI (Z4 lA))))))).mono fun e z he=> ?_;obtain⟨rfl,⟨g',z1⟩,z2⟩:=he;have es:sc1 b false (l.drop i)=sc1 b true (l.drop (i+1)):=by
     rw[ed];unfold sc1;rw[eC,if_pos ⟨h46,rfl⟩];exact sc1.eq_def b true _ ▸ rfl
    rw[es] at hS;exact⟨l.length-(i+1),by omega,i+1,rfl,true,D,k,g',by omega,by omega,by omega,hS,z1,z2⟩
   | true=>
    have hn:zA (byR l (i:Nat)) b= -1:=by
     rw[h46];unfold zA;rw[if_neg (by omega),if_neg (by omega)]
    refine (Zc (s0:=sc) hT (ZAo l b (i:Nat) (q1R true) D k 0 g) (Za (Xb (by rw[hn];decide)) (Za lB (Za lI (Za (by decide) (Za c46 (Za lI (Z4 lA)))))))).mono fun e z he=> ?_;obtain⟨rfl,⟨g',z1⟩,z2⟩:=he;have es:sc1 b true (l.drop i)=([],0,l.drop i):=by
     rw[ed,sc1,eC,if_neg (fun h=>by cases h.2),if_neg (by rw[hn];decide)]
    rw[es] at hS;simp only[List.append_nil,Nat.add_zero] at hS;exact⟨rfl,i,true,D,k,g',hi,hD,hk,hS,z1,z2⟩
  ·have c46:(byR l (i:Nat)==46)=false:=ZI h46;by_cases hd:0≤zA (byR l (i:Nat)) b
   ·have hg:=ZCz l b (i:Nat) (q1R p) D k 0 g;rw[ew] at hg;have ep:(l.drop ((i:Nat):Int).toNat).take (((i+1:Nat):Int).toNat-((i:Nat):Int).toNat)=[l.getD i 0]:=by
     rw[Xg,Xg,show i+1-i=1 by omega,ed];rfl
    rw[ep] at hg;have ek:i64.wrap (((k:Nat):Int)+q1R p)=((k+(if p=true then 1 else 0):Nat):Int):=by
     unfold q1R;rw[Zw (by split<;>omega) (by split<;>omega)];split<;>omega
    rw[ek] at hg;refine (Zc (s0:=sc) hT hg (Za (Xa (by rw[List.length_singleton];omega)) (Za (Xa ⟨by omega,by omega,by omega⟩) (Za c46 (Za lI (Za (Xa hd) (Za lB (Za lI (Za c46 (Za lI (Z4 lA))))))))))).mono fun e z he=> ?_;obtain⟨rfl,⟨g',z1⟩,z2⟩:=he;have es:sc1 b p (l.drop i)=(l.getD i 0::(sc1 b p (l.drop (i+1))).1,(if p=true then 1 else 0)+(sc1 b p (l.drop (i+1))).2.1,(sc1 b p (l.drop (i+1))).2.2):=by
     rw[ed,sc1,eC,if_neg (fun h=>h46 h.1),if_pos hd]
    rw[es] at hS;refine⟨l.length-(i+1),by omega,i+1,rfl,p,D++[l.getD i 0],k+(if p=true then 1 else 0),g',by omega,by rw[List.length_append,List.length_singleton];omega,by split<;>omega,?_,z1,z2⟩;rw[hS];simp only[List.append_assoc,List.singleton_append,Nat.add_assoc]
   ·have es:sc1 b p (l.drop i)=([],0,l.drop i):=by
     rw[ed,sc1,eC,if_neg (fun h=>h46 h.1),if_neg hd]
    refine (Zc (s0:=sc) hT (ZAn l b (i:Nat) (q1R p) D k 0 g) (Za (Xb (by omega)) (Za lB (Za lI (Za c46 (Za lI (Z4 lA))))))).mono fun e z he=> ?_;obtain⟨rfl,⟨g',z1⟩,z2⟩:=he;rw[es] at hS;simp only[List.append_nil,Nat.add_zero] at hS;exact⟨rfl,i,p,D,k,g',hi,hD,hk,hS,z1,z2⟩
 ·have es:l.drop i=[]:=List.drop_eq_nil_of_le (by omega);refine (Zc (s0:=sc) hT (ZCx l b (i:Nat) (q1R p) D k 0 g) (Z4 (Xb (by omega)))).mono fun e z he=> ?_;obtain⟨rfl,⟨g',z1⟩,z2⟩:=he;refine⟨rfl,i,p,D,k,g',hi,hD,hk,?_,z1,z2⟩;rw[hS,es,sc1];simp only[List.append_nil,Nat.add_zero]
def scW (b:Int) (D:List UInt8) (k:Nat) (P:Int) (v:Bool):Value:= .tuple #[.agg #[.bool false,.int .i64 b,bR D,.int .i64 k,.int .i64 P],.bool v]
def scZ (b:Int) (D:List UInt8) (k:Nat) (P:Int) (v:Bool) (e:Ex) (z:Lf):Prop:=(e=none∨e=some none)∧ZY prog f55 z.1 z.2.1=some (scW b D k P v)
theorem Zbs {l:List UInt8}{b:Int}{D:List UInt8}{k:Nat}{P:Int}{v:Bool}{e:Ex}{z:Lf}(h:e=some none∧(∃ g,z.1=[bR l,.int .i64 b,undef,undef,pO 0,.bool v]++tl 143 g)∧z.2.1=⟨2,[ZcW b D k P,ZcW b D k P]⟩):scZ b D k P v e z:=by
 obtain⟨rfl,⟨g,z1⟩,z2⟩:=h;exact⟨.inr rfl,by rw[z1,z2];rfl⟩
def pwJ (b q:Int) (mn:Bool) (l:List UInt8) (D:List UInt8) (k:Nat) (X:Nat×Bool) (i:Nat) (y:Lf):Prop:=∃ (a:Nat) (g:Nat→Value),i≤l.length∧a≤2000000∧X=pw1 a (l.drop i)∧y.1=ZhS l b i q mn++tl 139 g∧y.2.1=scM b D k a
def pwO (b q:Int) (mn:Bool) (l:List UInt8) (D:List UInt8) (k:Nat) (X:Nat×Bool) (y:Lf):Prop:=∃ (a i:Nat) (g:Nat→Value),a≤2000000∧X=(a,true)∧y.1=ZhS l b i q mn++tl 139 g∧y.2.1=scM b D k a
def pwB (b:Int) (D:List UInt8) (k:Nat) (X:Nat×Bool) (y:Lf):Prop:=X.2=false∧scZ b D k (X.1:Nat) false (some none) y
theorem ZpB {b q:Int}{mn:Bool}{l D:List UInt8}{k:Nat}{X:Nat×Bool}(h2:l.length≤100000) (r:Nat) (y:Lf) (h:∃ i,r=l.length-i∧pwJ b q mn l D k X i y):
  Runs (Zq prog Zf ZL true) (Z1h f55) y fun e z=>match e with | none=>∃ r',r'<r∧∃ i,r'=l.length-i∧pwJ b q mn l D k X i z | some none=>pwB b D k X z | some (some id')=>id'=2∧pwO b q mn l D k X z:=by
 have hT:=Zp Zcp;obtain⟨i,hr,a,g,hi,ha,hX,ht,hh⟩:=h;obtain⟨t,h',sc⟩:=y;simp only at ht hh;subst ht hh;by_cases hc:i<l.length
 ·have lA:decide (((i:Nat):Int)<(l.length:Nat))=true:=Xa (by omega);have lI:decide ((0:Int)≤(i:Nat)∧((i:Nat):Int).toNat<l.length)=true:=Xa ⟨by omega,by rw[Xg];exact hc⟩;have ew:=wN (n:=i) (by omega);have ed:=ZcP hc;have eC:lq8 (l.getD i 0)=byR l (i:Nat):=by unfold lq8 byR;rw[Xg]
  have bD:=Ziy (byR l (i:Nat)) 10;by_cases hd:0≤zA (byR l (i:Nat)) 10
  ·have hg:=ZC4 l b (i:Nat) q mn D k a g;have ev:i64.wrap (i64.wrap (10*((a:Nat):Int))+zA (byR l (i:Nat)) 10)=10*((a:Nat):Int)+zA (byR l (i:Nat)) 10:=by
    rw[Zw (n:=10*((a:Nat):Int)) (by omega) (by omega),Zw (by omega) (by omega)]
   have em:(if 2000000<10*((a:Nat):Int)+zA (byR l (i:Nat)) 10 then 2000000 else 10*((a:Nat):Int)+zA (byR l (i:Nat)) 10)=((min (10*a+(zA (byR l (i:Nat)) 10).toNat) 2000000:Nat):Int):=by split<;>omega
   rw[ev,em,ew] at hg;refine (Zc (s0:=sc) hT hg (Za rfl (Za rfl (Za lI (Za (Xb (by omega)) (Za rfl (Za lI (Z4 lA)))))))).mono fun e z he=> ?_;obtain⟨rfl,⟨g',z1⟩,z2⟩:=he;refine⟨l.length-(i+1),by omega,i+1,rfl,_,g',by omega,by omega,?_,z1,z2⟩;rw[hX,ed,pw1,eC,if_pos hd]
  ·refine (Zc (s0:=sc) hT (ZC3 l b (i:Nat) q mn D k a g) (Za (Xa (by omega)) (Za rfl (Za lI (Z4 lA))))).mono fun e z he=> ?_;have hx:X=(a,false):=by rw[hX,ed,pw1,eC,if_neg hd]
   have hz:=Zbs he;obtain⟨rfl,_⟩:=he;rw[hx];exact⟨rfl,hz⟩
 ·have es:l.drop i=[]:=List.drop_eq_nil_of_le (by omega);refine (Zc (s0:=sc) hT (ZC2 l b (i:Nat) q mn D k a g) (Z4 (Xb (by omega)))).mono fun e z he=> ?_;obtain⟨rfl,⟨g',z1⟩,z2⟩:=he;exact⟨rfl,a,i,g',ha,by rw[hX,es];rfl,z1,z2⟩
theorem Zfz {b q:Int}{mn:Bool}{l D:List UInt8}{k j:Nat}(h2:l.length≤100000) (hj:j≤l.length) (g:Nat→Value) (s:List Dec):
  Runs (Zq prog Zf ZL true) (.seq (.block 2 (.loop (Z1h f55))) (sK f55 12)) (ZhS l b j q mn++tl 139 g,scM b D k 0,s) (scZ b D k (if (pw1 0 (l.drop j)).2=false then ((pw1 0 (l.drop j)).1:Nat) else if mn=true then -((pw1 0 (l.drop j)).1:Nat) else ((pw1 0 (l.drop j)).1:Nat)) (pw1 0 (l.drop j)).2):=by
 have hT:=Zp Zcp;obtain⟨X,hX⟩:∃ X,X=pw1 0 (l.drop j):=⟨_,rfl⟩;rw[← hX];refine Runs.seq (P1:=fun e y=>match e with | none=>pwO b q mn l D k X y | some none=>pwB b D k X y | some (some _)=>False) (Runs.forLoop (R:=pwB b D k X) (P:=pwO b q mn l D k X) (fun r y=>∃ i,r=l.length-i∧pwJ b q mn l D k X i y) (ZpB h2) (n:=l.length-j) ⟨j,rfl,0,g,hj,by omega,hX,rfl,rfl⟩) ?_ ?_
 ·rintro⟨t,hh,sc⟩ ⟨a,i,g',ha,hx,e1,e2⟩;simp only at e1 e2;subst e1 e2;rw[hx];dsimp only;cases mn with
  | true=>
   have hg:=ZC5 l b (i:Nat) q D k a g';rw[Zw (n:=0-((a:Nat):Int)) (by omega) (by omega),show (0:Int)-((a:Nat):Int)= -((a:Nat):Int) by omega] at hg;refine (Zc (s0:=sc) hT hg Zcb).mono fun e z he=> ?_;have hz:=Zbs he;rw[if_neg (by decide),if_pos rfl];exact hz
  | false=>
   refine (Zc (s0:=sc) hT (ZC6 l b (i:Nat) q D k a g') Zcb).mono fun e z he=> ?_;have hz:=Zbs he;rw[if_neg (by decide),if_neg (by decide)];exact hz
 ·rintro e ⟨t,hh,sc⟩ hc
  match e,hc with
  | none,hc=>
   obtain⟨h3,h4⟩:=hc;rw[if_pos h3,h3];exact h4
theorem Zf0 {b:Int}{D:List UInt8}{k:Nat}{X:Nat×Bool}{mn:Bool}{e:Ex}{z:Lf}(h:scZ b D k (if X.2=false then (X.1:Nat) else if mn=true then -(X.1:Nat) else (X.1:Nat)) X.2 e z):scZ b D k (if X.2=false then ((X.1:Nat),false) else (if mn=true then -(X.1:Nat) else (X.1:Nat),true):Int×Bool).1 (if X.2=false then ((X.1:Nat),false) else (if mn=true then -(X.1:Nat) else (X.1:Nat),true):Int×Bool).2 e z:=by
 cases h2:X.2 with
 | true=>
  rw[h2,if_neg (by decide)] at h;rw[if_neg (by decide)];exact h
 | false=>
  rw[h2,if_pos rfl] at h;rw[if_pos rfl];exact h
theorem ZpC {b:Int}{l:List UInt8}(hb:b=10∨b=16) (h2:l.length≤100000):Runs (Zq prog Zf ZL true) (ZZ [sP f55 0,sP f55 1,sP f55 2] (.seq (.block 0 (.loop (Zv5 f55))) (sK f55 4))) ([bR l,.int .i64 b]++List.replicate 147 undef,⟨0,[]⟩,[]) (scZ b (sc1 b false l).1 (sc1 b false l).2.1 (scA b l).1 (scA b l).2):=by
 have hT:=Zp Zcp;refine Z2 hT (Z4S l b) Zcb fun g=> ?_;refine Runs.seq (P1:=fun e y=>match e with | none=>scO b l y | some none=>False | some (some _)=>False) (Runs.forLoop (R:=fun _=>False) (P:=scO b l) (fun r y=>∃ i,r=l.length-i∧scS b l i y) (Ztw hb h2) (n:=l.length) ⟨0,by omega,false,[],0,g,by omega,by exact Nat.le_refl _,by omega,by simp,rfl,rfl⟩) ?_ (fun e y he=>by match e,he with | none,he=>exact he.elim | some _,he=>exact he.elim);rintro⟨t,hh,sc⟩ ⟨i,p,D,k,g',hi,hD,hk,hS,e1,e2⟩;simp only at e1 e2;subst e1 e2;have eA:scA b l=if D=[] then (0,false) else scE b (l.drop i):=by unfold scA;rw[hS]
 rw[eA,hS];dsimp only;by_cases hN:D=[]
 ·rw[if_pos hN];exact (Zc (s0:=sc) hT (ZC0 l b (i:Nat) (q1R p) D k 0 g') (Z4 (by rw[Zft];exact Xa hN))).mono fun e z he=>Zbs he
 have eN:((⟨⟨D⟩⟩:ByteArray)==⟨⟨[]⟩⟩)=false:=by rw[Zft];exact Xb hN
 rw[if_neg hN];by_cases hc:¬ i<l.length
 ·have es:l.drop i=[]:=List.drop_eq_nil_of_le (by omega);rw[es];unfold scE;dsimp only;exact (Zc (s0:=sc) hT (ZC1 l b (i:Nat) (q1R p) D k 0 g' (decide (b=10))) (Za (by by_cases h:b=10<;>simp [h]) (Za (ZQ (by omega)) (Z4 eN)))).mono fun e z he=>Zbs he
 have hc:i<l.length:=by omega
 have lQ:(((i:Nat):Int)==(l.length:Nat))=false:=ZI (by omega);have lI:decide ((0:Int)≤(i:Nat)∧((i:Nat):Int).toNat<l.length)=true:=Xa ⟨by omega,by rw[Xg];exact hc⟩;have ed:=ZcP hc;have eC:lq8 (l.getD i 0)=byR l (i:Nat):=by unfold lq8 byR;rw[Xg]
 rw[ed];unfold scE;dsimp only;rw[eC];have ew:=wN (n:=i) (by omega);rcases hb with hb | hb
 ·skip
  by_cases hm:byR l (i:Nat)≠101
  ·rw[if_pos (.inl ⟨hb,hm⟩)];exact (Zc (s0:=sc) hT (ZAp l b (i:Nat) (q1R p) D k 0 g') (Za (Zvb hm) (Za lI (Za (ZQ hb) (Za lQ (Z4 eN)))))).mono fun e z he=>Zbs he
  have hm:byR l (i:Nat)=101:=Decidable.of_not_not hm;rw[if_neg (by omega)];have lg:=(Za (ZI (show b≠16 by omega)) (Za (Zvc hm) (Za lI (Za (ZQ hb) (Za lQ (Z4 eN))))));by_cases hc1:¬ i+1<l.length
  ·have es:l.drop (i+1)=[]:=List.drop_eq_nil_of_le (by omega);rw[es,if_pos (show (sgT []).2=[] from rfl)];have hg:=ZAr l b (i:Nat) (q1R p) D k 0 g';rw[ew] at hg;exact (Zc (s0:=sc) hT hg (Za (ZQ (by omega)) (Za (Xb (by omega)) (Za (Xb (by omega)) lg)))).mono fun e z he=>Zbs he
  have hc1:i+1<l.length:=by omega
  have lA1:decide (((i+1:Nat):Int)<(l.length:Nat))=true:=Xa (by omega);have lI1:decide ((0:Int)≤((i+1:Nat):Int)∧((i+1:Nat):Int).toNat<l.length)=true:=Xa ⟨by omega,by rw[Xg];exact hc1⟩;have ed1:=ZcP hc1;have eC1:lq8 (l.getD (i+1) 0)=byR l ((i+1:Nat):Int):=by unfold lq8 byR;rw[Xg]
  have ew1:=wN (n:=i+1) (by omega);rw[Zbr];by_cases h45:byR l ((i+1:Nat):Int)=45
  ·have esg:sgT (l.drop (i+1))=(true,l.drop (i+1+1)):=by rw[ed1];unfold sgT;dsimp only;rw[eC1,if_pos h45]
   rw[esg];dsimp only;have lm:=Za (ZQ h45) (Za lI1 (Za lA1 (Za (ZQ h45) (Za lI1 (Za lA1 lg)))));by_cases hc2:l.drop (i+1+1)=[]
   ·rw[if_pos hc2,← Zbr];have hl2:l.length≤i+1+1:=List.drop_eq_nil_iff.1 hc2;have hg:=Z4T l b (i:Nat) (q1R p) D k 0 g';rw[ew,ew1] at hg;exact (Zc (s0:=sc) hT hg (Za (ZQ (by omega)) lm)).mono fun e z he=>Zbs he
   ·rw[if_neg hc2];have hl2:¬ l.length≤i+1+1:=fun h=>hc2 (List.drop_eq_nil_iff.2 h);have hg:=Z4U l b (i:Nat) (q1R p) D k 0 g';rw[ew,ew1] at hg;refine Z2 hT hg (Za (ZI (by omega)) lm) fun g2=> ?_;refine (Zfz (b:=b) (q:=q1R p) (mn:=true) (l:=l) (D:=D) (k:=k) (j:=i+1+1) h2 (by omega) g2 _).mono fun e z hz=> ?_;exact Zf0 hz
  by_cases h43:byR l ((i+1:Nat):Int)=43
  ·have esg:sgT (l.drop (i+1))=(false,l.drop (i+1+1)):=by rw[ed1];unfold sgT;dsimp only;rw[eC1,if_neg h45,if_pos h43]
   rw[esg];dsimp only;have lm:=Za (ZQ h43) (Za lI1 (Za (ZI h45) (Za lI1 (Za lA1 (Za (ZI h45) (Za lI1 (Za lA1 lg)))))));by_cases hc2:l.drop (i+1+1)=[]
   ·rw[if_pos hc2,← Zbr];have hl2:l.length≤i+1+1:=List.drop_eq_nil_iff.1 hc2;have hg:=Z4V l b (i:Nat) (q1R p) D k 0 g';rw[ew,ew1] at hg;exact (Zc (s0:=sc) hT hg (Za (ZQ (by omega)) lm)).mono fun e z he=>Zbs he
   ·rw[if_neg hc2];have hl2:¬ l.length≤i+1+1:=fun h=>hc2 (List.drop_eq_nil_iff.2 h);have hg:=Z4W l b (i:Nat) (q1R p) D k 0 g';rw[ew,ew1] at hg;refine Z2 hT hg (Za (ZI (by omega)) lm) fun g2=> ?_;refine (Zfz (b:=b) (q:=q1R p) (mn:=false) (l:=l) (D:=D) (k:=k) (j:=i+1+1) h2 (by omega) g2 _).mono fun e z hz=> ?_;exact Zf0 hz
  ·have esg:sgT (l.drop (i+1))=(false,l.drop (i+1)):=by rw[ed1];unfold sgT;dsimp only;rw[eC1,if_neg h45,if_neg h43]
   rw[esg];dsimp only;have lm:=Za (ZI h43) (Za lI1 (Za (ZI h45) (Za lI1 (Za lA1 (Za (ZI h45) (Za lI1 (Za lA1 lg)))))));rw[if_neg (fun h=>by have:=List.drop_eq_nil_iff.1 h;omega)];have hg:=Z4X l b (i:Nat) (q1R p) D k 0 g';rw[ew] at hg;refine Z2 hT hg (Za (ZI (by omega)) lm) fun g2=> ?_;refine (Zfz (b:=b) (q:=q1R p) (mn:=false) (l:=l) (D:=D) (k:=k) (j:=i+1) h2 (by omega) g2 _).mono fun e z hz=> ?_;exact Zf0 hz
 ·skip
  by_cases hm:byR l (i:Nat)≠112
  ·rw[if_pos (.inr ⟨hb,hm⟩)];exact (Zc (s0:=sc) hT (ZAq l b (i:Nat) (q1R p) D k 0 g') (Za (Zvb hm) (Za lI (Za (ZQ hb) (Za (ZI (by omega)) (Za lQ (Z4 eN))))))).mono fun e z he=>Zbs he
  have hm:byR l (i:Nat)=112:=Decidable.of_not_not hm;rw[if_neg (by omega)];have lg:=(Za (Zvc hm) (Za lI (Za (ZQ hb) (Za (ZI (show b≠10 by omega)) (Za lQ (Z4 eN))))));by_cases hc1:¬ i+1<l.length
  ·have es:l.drop (i+1)=[]:=List.drop_eq_nil_of_le (by omega);rw[es,if_pos (show (sgT []).2=[] from rfl)];have hg:=ZAs l b (i:Nat) (q1R p) D k 0 g';rw[ew] at hg;exact (Zc (s0:=sc) hT hg (Za (ZQ (by omega)) (Za (Xb (by omega)) (Za (Xb (by omega)) lg)))).mono fun e z he=>Zbs he
  have hc1:i+1<l.length:=by omega
  have lA1:decide (((i+1:Nat):Int)<(l.length:Nat))=true:=Xa (by omega);have lI1:decide ((0:Int)≤((i+1:Nat):Int)∧((i+1:Nat):Int).toNat<l.length)=true:=Xa ⟨by omega,by rw[Xg];exact hc1⟩;have ed1:=ZcP hc1;have eC1:lq8 (l.getD (i+1) 0)=byR l ((i+1:Nat):Int):=by unfold lq8 byR;rw[Xg]
  have ew1:=wN (n:=i+1) (by omega);rw[Zbr];by_cases h45:byR l ((i+1:Nat):Int)=45
  ·have esg:sgT (l.drop (i+1))=(true,l.drop (i+1+1)):=by rw[ed1];unfold sgT;dsimp only;rw[eC1,if_pos h45]
   rw[esg];dsimp only;have lm:=Za (ZQ h45) (Za lI1 (Za lA1 (Za (ZQ h45) (Za lI1 (Za lA1 lg)))));by_cases hc2:l.drop (i+1+1)=[]
   ·rw[if_pos hc2,← Zbr];have hl2:l.length≤i+1+1:=List.drop_eq_nil_iff.1 hc2;have hg:=Z4Y l b (i:Nat) (q1R p) D k 0 g';rw[ew,ew1] at hg;exact (Zc (s0:=sc) hT hg (Za (ZQ (by omega)) lm)).mono fun e z he=>Zbs he
   ·rw[if_neg hc2];have hl2:¬ l.length≤i+1+1:=fun h=>hc2 (List.drop_eq_nil_iff.2 h);have hg:=Z4Z l b (i:Nat) (q1R p) D k 0 g';rw[ew,ew1] at hg;refine Z2 hT hg (Za (ZI (by omega)) lm) fun g2=> ?_;refine (Zfz (b:=b) (q:=q1R p) (mn:=true) (l:=l) (D:=D) (k:=k) (j:=i+1+1) h2 (by omega) g2 _).mono fun e z hz=> ?_;exact Zf0 hz
  by_cases h43:byR l ((i+1:Nat):Int)=43
  ·have esg:sgT (l.drop (i+1))=(false,l.drop (i+1+1)):=by rw[ed1];unfold sgT;dsimp only;rw[eC1,if_neg h45,if_pos h43]
   rw[esg];dsimp only;have lm:=Za (ZQ h43) (Za lI1 (Za (ZI h45) (Za lI1 (Za lA1 (Za (ZI h45) (Za lI1 (Za lA1 lg)))))));by_cases hc2:l.drop (i+1+1)=[]
   ·rw[if_pos hc2,← Zbr];have hl2:l.length≤i+1+1:=List.drop_eq_nil_iff.1 hc2;have hg:=Z5a l b (i:Nat) (q1R p) D k 0 g';rw[ew,ew1] at hg;exact (Zc (s0:=sc) hT hg (Za (ZQ (by omega)) lm)).mono fun e z he=>Zbs he
   ·rw[if_neg hc2];have hl2:¬ l.length≤i+1+1:=fun h=>hc2 (List.drop_eq_nil_iff.2 h);have hg:=Z5b l b (i:Nat) (q1R p) D k 0 g';rw[ew,ew1] at hg;refine Z2 hT hg (Za (ZI (by omega)) lm) fun g2=> ?_;refine (Zfz (b:=b) (q:=q1R p) (mn:=false) (l:=l) (D:=D) (k:=k) (j:=i+1+1) h2 (by omega) g2 _).mono fun e z hz=> ?_;exact Zf0 hz
  ·have esg:sgT (l.drop (i+1))=(false,l.drop (i+1)):=by rw[ed1];unfold sgT;dsimp only;rw[eC1,if_neg h45,if_neg h43]
   rw[esg];dsimp only;have lm:=Za (ZI h43) (Za lI1 (Za (ZI h45) (Za lI1 (Za lA1 (Za (ZI h45) (Za lI1 (Za lA1 lg)))))));rw[if_neg (fun h=>by have:=List.drop_eq_nil_iff.1 h;omega)];have hg:=Z5c l b (i:Nat) (q1R p) D k 0 g';rw[ew] at hg;refine Z2 hT hg (Za (ZI (by omega)) lm) fun g2=> ?_;refine (Zfz (b:=b) (q:=q1R p) (mn:=false) (l:=l) (D:=D) (k:=k) (j:=i+1) h2 (by omega) g2 _).mono fun e z hz=> ?_;exact Zf0 hz
theorem Zlt (l:List UInt8) (b:Int) (hb:b=10∨b=16) (h2:l.length≤100000) (w:World):Calls prog 55 #[bR l,.int .i64 b] w fun r w'=>r= .returned (scW b (sc1 b false l).1 (sc1 b false l).2.1 (scA b l).1 (scA b l).2)∧Zak w w':=
 zW (T:=(Zq prog Zf ZL true)) func55 ZpA (by rfl) (by rfl) (ZpC hb h2) w
def ZAt:Ans:=fun vals s=>
 match vals,s with
 | [.string ⟨⟨l⟩⟩,.int .i64 b],.inr (.inr (.inr (.inl d)))::s'=>some (scW b (sc1 b false l).1 (sc1 b false l).2.1 (scA b l).1 d,s',[((scA b l).2,d),(decide ((b=10∨b=16)∧l.length≤100000),true)])
 | _,_=>none
theorem Zzi:zw 55 ZAt:=by
 intro vals s v s' lg h hl w;unfold ZAt at h;split at h
 ·rename_i l b d s2;cases h;rw[Zm9,Zm9] at hl;obtain⟨l1,l2,_⟩:=hl;obtain⟨q1,q2⟩:=Xc l2;have l1:(scA b l).2=d:=l1;rw[← l1];exact Zlt l b q1 q2 w
 ·cases h
end Go.Proofs.YtgefjidphfdhdaaGreatDoor
namespace Go.Proofs.YtgefjidphfdhdaaGreatDoor
open Go.Proofs.Tryz
open Go.IntKind
open Go.KRun Go.Nt
set_option maxRecDepth 100000
def ZdZ:Hc:=zd 68 ZgZ hcN
theorem Zzj:HcOk ZdZ:=Zt func68 rfl Zet zx
theorem ZdK:TabOk (Zk prog Zf Zn ZdZ):=Zh Zd Zzj
def eC (F:Func):Nat→Code
 | 0=>Zs F
 | n+1=>Z0 (eC F n)
def eP (F:Func):List Code:=[Z1 (eC F 0),Z1 (eC F 1),Z1 (eC F 2)]
def eL (F:Func):Code:=cIn (cIn (Z1 (eC F 3)))
def eE (F:Func):Code:=eC F 4
def eA (F:Func):Code:=Z1 (eL F)
def eB (F:Func):Code:=cIn (Z0 (eL F))
def eQ (F:Func):List Code:=[Z1 (eB F),Z1 (Z0 (eB F)),Z1 (Z0 (Z0 (eB F)))]
def eB3 (F:Func):Code:=Z0 (Z0 (Z0 (eB F)))
def e8 (F:Func):Code:=Z1 (Z1 (eB3 F))
def eI (F:Func):Code:=cIn (cIn (Z0 (Z1 (eB3 F))))
def eZ (F:Func):Code:=Z0 (eB3 F)
theorem Zzk:f32.body=some (ZZ (eP f32) (.seq (.block 0 (.loop (.seq (eA f32) (.block 1 (ZZ (eQ f32) (.seq (.seq (e8 f32) (.block 2 (.loop (eI f32)))) (eZ f32))))))) (eE f32))):=by kernel_rfl
theorem Ztx:f32.body=some (Zs f32):=by kernel_rfl
def hQd (X:List (List Value×TypeId)) (Q:List Value):Hp:=⟨X.length+1,(Q,tU)::X⟩
def eF (a s q r i:Value):List Value:=[a,undef,bS [],s,q,r,i]
theorem Zty (p:Option Addr) (n c:Nat) (h:Hp):Zg (evC (Zk prog Zf Zn ZdZ) 100 false (Zs f32) ([.slice p n c]++List.replicate 45 undef,h,[cmp true]) ⟨[],[],[]⟩) 3 43 (some none) [.slice p n c,undef,bS [48]] h [((n:Int)==0,true)]:=by and_intros<;>kernel_rfl
theorem Z5d (n c o:Nat) (h:Hp):Zg (evL (Zk prog Zf Zn ZdZ) 100 (eP f32) ([sl 0 o n c]++List.replicate 45 undef,h,[cmp false]) ⟨[],[],[]⟩) 7 39 none (eF (sl 0 o n c) (bS []) undef undef undef) h [((n:Int)==0,false)]:=by and_intros<;>kernel_rfl
theorem ZAu (b o n c:Nat) (d:Bool) (s q r i:Value) (h:Hp) (g:Nat→Value):Zg (evC (Zk prog Zf Zn ZdZ) 100 false (eA f32) (eF (sl b o n c) s q r i++tl 39 g,h,[cmp d]) ⟨[],[],[]⟩) 7 39 (match d with | true=>none | false=>some (some 0)) (eF (sl b o n c) s q r i) h [(decide ((n:Int)>0),d)]:=by
 cases d<;>exact by and_intros<;>kernel_rfl
theorem ZAv (o n c:Nat) (s q r i:Value) (l:List Value) (t:TypeId) (g:Nat→Value):Zg (evL (Zk prog Zf Zn ZdZ) 100 (eQ f32) (eF (sl 0 o n c) s q r i++tl 39 g,⟨1,[(l,t)]⟩,[at_]) ⟨[],[],[]⟩) 7 39 none (eF (sl 0 o n c) s (.slice (some ⟨1,0,none⟩) n grown) (uu 0) i) (hQd [(l,t)] ((l.drop o).take n)) [(Zd5 (l,t) o n,true)]:=by and_intros<;>kernel_rfl
theorem ZAw (n c:Nat) (s q r i:Value) (A:List Value) (x:List Value×TypeId) (g:Nat→Value):Zg (evL (Zk prog Zf Zn ZdZ) 100 (eQ f32) (eF (sl 1 0 n c) s q r i++tl 39 g,⟨2,[(A,tU),x]⟩,[at_]) ⟨[],[],[]⟩) 7 39 none (eF (sl 1 0 n c) s (.slice (some ⟨2,0,none⟩) n grown) (uu 0) i) (hQd [(A,tU),x] ((A.drop 0).take n)) [(Zd5 (A,tU) 0 n,true)]:=by and_intros<;>kernel_rfl
theorem ZC7 (a s r i:Value) (b n:Nat) (h:Hp) (g:Nat→Value):Zg (evC (Zk prog Zf Zn ZdZ) 100 false (e8 f32) (eF a s (.slice (some ⟨b,0,none⟩) n grown) r i++tl 39 g,h,[]) ⟨[],[],[]⟩) 7 39 none (eF a s (.slice (some ⟨b,0,none⟩) n grown) r (.int .i64 (i64.wrap ((n:Int)-1)))) h []:=by and_intros<;>kernel_rfl
theorem ZC8 (a s r:Value) (b n:Nat) (i:Int) (h:Hp) (g:Nat→Value):Zg (evC (Zk prog Zf Zn ZdZ) 100 false (eI f32) (eF a s (.slice (some ⟨b,0,none⟩) n grown) r (.int .i64 i)++tl 39 g,h,[cmp false]) ⟨[],[],[]⟩) 7 39 (some (some 2)) (eF a s (.slice (some ⟨b,0,none⟩) n grown) r (.int .i64 i)) h [(decide (i≥0),false)]:=by and_intros<;>kernel_rfl
def Z7u (r x:Int):Int:=u32.wrap (u32.wrap (65536*r)+x)
def Zqy (r x:Int):Int:=u32.wrap ((Z7u r x).tdiv 10)
def Zzl (r x:Int):Int:=(Z7u r x).tmod 10
theorem ZAx (a s:Value) (n:Nat) (r i x:Int) (x1:List Value×TypeId) (Q:List Value) (g:Nat→Value):Zg (evC (Zk prog Zf Zn ZdZ) 100 false (eI f32) (eF a s (.slice (some ⟨1,0,none⟩) n grown) (uu r) (.int .i64 i)++tl 39 g,hQd [x1] Q,[cmp true,at_,val (uu x),at_,at_]) ⟨[],[],[]⟩) 7 39 none (eF a s (.slice (some ⟨1,0,none⟩) n grown) (uu (Zzl r x)) (.int .i64 (i64.wrap (i-1)))) (hQd [x1] (Q.set (0+i.toNat*1) (uu (Zqy r x)))) [(decide (0+i.toNat*1<Q.length),true),inR i n,Zcr Q 0 i x,inR i n,(decide (i≥0),true)]:=by and_intros<;>kernel_rfl
theorem ZAy (a s:Value) (n:Nat) (r i x:Int) (x1 x2:List Value×TypeId) (Q:List Value) (g:Nat→Value):Zg (evC (Zk prog Zf Zn ZdZ) 100 false (eI f32) (eF a s (.slice (some ⟨2,0,none⟩) n grown) (uu r) (.int .i64 i)++tl 39 g,hQd [x1,x2] Q,[cmp true,at_,val (uu x),at_,at_]) ⟨[],[],[]⟩) 7 39 none (eF a s (.slice (some ⟨2,0,none⟩) n grown) (uu (Zzl r x)) (.int .i64 (i64.wrap (i-1)))) (hQd [x1,x2] (Q.set (0+i.toNat*1) (uu (Zqy r x)))) [(decide (0+i.toNat*1<Q.length),true),inR i n,Zcr Q 0 i x,inR i n,(decide (i≥0),true)]:=by and_intros<;>kernel_rfl
theorem ZAz {X:List (List Value×TypeId)}(hX:X.length=1∨X.length=2) (a s:Value) (n:Nat) (r i x:Int) (Q:List Value) (g:Nat→Value):Zg (evC (Zk prog Zf Zn ZdZ) 100 false (eI f32) (eF a s (.slice (some ⟨X.length,0,none⟩) n grown) (uu r) (.int .i64 i)++tl 39 g,hQd X Q,[cmp true,at_,val (uu x),at_,at_]) ⟨[],[],[]⟩) 7 39 none (eF a s (.slice (some ⟨X.length,0,none⟩) n grown) (uu (Zzl r x)) (.int .i64 (i64.wrap (i-1)))) (hQd X (Q.set (0+i.toNat*1) (uu (Zqy r x)))) [(decide (0+i.toNat*1<Q.length),true),inR i n,Zcr Q 0 i x,inR i n,(decide (i≥0),true)]:=by
 match X,hX with
 | [x1],_=>exact ZAx a s n r i x x1 Q g
 | [x1,x2],_=>exact ZAy a s n r i x x1 x2 Q g
def Zqz:List UInt8:=[48,49,50,51,52,53,54,55,56,57]
def Z5e (r:Int) (l:List UInt8):List UInt8:=(Zqz.drop r.toNat).take ((u32.wrap (r+1)).toNat-r.toNat)++l
theorem ZA0 (a i:Value) (l:List UInt8) (n:Nat) (r:Int) (x1:List Value×TypeId) (Q:List Value) (g:Nat→Value):Zg (evC (Zk prog Zf Zn ZdZ) 100 false (eZ f32) (eF a (bS l) (.slice (some ⟨1,0,none⟩) n grown) (uu r) i++tl 39 g,hQd [x1] Q,[sam true,sam true]) ⟨[],[],[]⟩) 7 39 none (eF (sl 1 0 (Zi (Zz Q 0 n)) (Zi (Zz Q 0 n))) (bS (Z5e r l)) (.slice (some ⟨1,0,none⟩) n grown) (uu r) i) (hQd [x1] Q) [(ZaW tU Q 0 n grown,true),(decide (((Zqz.drop r.toNat).take ((u32.wrap (r+1)).toNat-r.toNat)).length+l.length≤9223372036854775807),true),(decide (0≤r∧r≤u32.wrap (r+1)∧u32.wrap (r+1)≤((Zqz.length:Nat):Int)),true)]:=by and_intros<;>kernel_rfl
theorem ZA1 (a i:Value) (l:List UInt8) (n:Nat) (r:Int) (x1 x2:List Value×TypeId) (Q:List Value) (g:Nat→Value):Zg (evC (Zk prog Zf Zn ZdZ) 100 false (eZ f32) (eF a (bS l) (.slice (some ⟨2,0,none⟩) n grown) (uu r) i++tl 39 g,hQd [x1,x2] Q,[sam true,sam true]) ⟨[],[],[]⟩) 7 39 none (eF (sl 2 0 (Zi (Zz Q 0 n)) (Zi (Zz Q 0 n))) (bS (Z5e r l)) (.slice (some ⟨2,0,none⟩) n grown) (uu r) i) (hQd [x1,x2] Q) [(ZaW tU Q 0 n grown,true),(decide (((Zqz.drop r.toNat).take ((u32.wrap (r+1)).toNat-r.toNat)).length+l.length≤9223372036854775807),true),(decide (0≤r∧r≤u32.wrap (r+1)∧u32.wrap (r+1)≤((Zqz.length:Nat):Int)),true)]:=by and_intros<;>kernel_rfl
theorem Z5f (a s q r i:Value) (h:Hp) (g:Nat→Value):Zg (evC (Zk prog Zf Zn ZdZ) 100 false (eE f32) (eF a s q r i++tl 39 g,h,[]) ⟨[],[],[]⟩) 3 43 (some none) [a,undef,s] h []:=by and_intros<;>kernel_rfl
end Go.Proofs.YtgefjidphfdhdaaGreatDoor
