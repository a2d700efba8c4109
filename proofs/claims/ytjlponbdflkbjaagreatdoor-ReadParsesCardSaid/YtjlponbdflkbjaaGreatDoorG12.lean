/-
  NumQt, ConO9, ConOA, ConOB, SlK, PwE, PwA, R16, PwC, PwF, ConNK, PwB
-/
import Derived.Test.YtjlponbdflkbjaaGreatDoorG11
namespace Go.Nt
theorem ZiE:∀ (a b:Nat) (V:Int),dg (a+b) V=dg a V++dg b (V/4294967296^a)
 | 0,b,V=>by simp [dg]
 | a+1,b,V=>by
  rw[show a+1+b=(a+b)+1 by omega];simp only[dg];rw[ZiE a b,pw,Int.ediv_ediv_of_nonneg (show (0:Int)≤4294967296 by omega)];rfl
theorem ZiF (i m j:Nat) (W:Int):dg (i+(m+j)) W=dg i W++(dg m (W/4294967296^i)++dg j (W/4294967296^i/4294967296^m)):=by
 rw[ZiE,ZiE]
def qtW (W X:Int) (i:Nat):Int:=W % 4294967296^i+4294967296^i*X
theorem ZvI (W X:Int) (i:Nat):qtW W X i/4294967296^i=X:=by
 have hp:=Zaw i;unfold qtW;rw[Int.add_mul_ediv_left _ _ (by omega),Int.ediv_eq_zero_of_lt (Int.emod_nonneg _ (by omega)) (Int.emod_lt_of_pos _ hp),Int.zero_add]
theorem ZvJ (W X:Int) (i:Nat):dg i (qtW W X i)=dg i W:=by
 have h:=Int.emod_add_mul_ediv W (4294967296^i);have e:qtW W X i=W+4294967296^i*(X-W/4294967296^i):=by
  unfold qtW;rw[Int.mul_sub];omega
 rw[e,Zc5]
theorem ZqD {i m j:Nat}{W X:Int}(hX:0≤X∧X<4294967296^m):dg i W++(dg m X++dg j 0)=dg (i+(m+j)) (qtW W X i):=by
 rw[ZiF,ZvJ,ZvI,Int.ediv_eq_zero_of_lt hX.1 hX.2]
theorem ZqE {W B W0 v:Int}{i n:Nat}(hB:0<B∧B<4294967296^n) (hW:0≤W∧W<B*4294967296^(i+1)) (h:W0=W+B*(4294967296^(i+1)*v)):
  (0≤W/4294967296^i∧W/4294967296^i<4294967296*B∧W/4294967296^i<4294967296^(n+1))∧(0≤W/4294967296^i % B∧W/4294967296^i % B<4294967296^(n+1))∧(0≤qtW W (W/4294967296^i % B) i∧qtW W (W/4294967296^i % B) i<B*4294967296^i)∧W0=qtW W (W/4294967296^i % B) i+B*(4294967296^i*(W/4294967296^i/B+4294967296*v)):=by
 have hp:=Zaw i;have hn:=Zaw n;have hd:=Int.emod_add_mul_ediv W (4294967296^i);have h1:=Int.emod_nonneg W (show (4294967296:Int)^i≠0 by omega);have h2:=Int.emod_lt_of_pos W hp;have t0:0≤W/4294967296^i:=Int.ediv_nonneg hW.1 (by omega);have t1:W/4294967296^i<4294967296*B:=Int.ediv_lt_of_lt_mul hp (by
  have:=hW.2;rw[pw,← Int.mul_assoc,Int.mul_comm B 4294967296] at this;exact this)
 have t2:W/4294967296^i<4294967296^(n+1):=by rw[pw];omega
 generalize hT:W/4294967296^i=T at*;have x0:=Int.emod_nonneg T (show B≠0 by omega);have x1:=Int.emod_lt_of_pos T hB.1;have hx:=Int.emod_add_mul_ediv T B;generalize T % B=X at*;generalize T/B=q at*;have x2:X<4294967296^(n+1):=by rw[pw];omega
 have y1:4294967296^i*X≤4294967296^i*(B-1):=Int.mul_le_mul_of_nonneg_left (by omega) (by omega);have y2:0≤4294967296^i*X:=Int.mul_nonneg (by omega) x0;rw[Int.mul_sub,Int.mul_one,Int.mul_comm _ B] at y1;refine⟨⟨t0,t1,t2⟩,⟨x0,x2⟩,?_,?_⟩
 ·unfold qtW;omega
 ·unfold qtW;have hT2:4294967296^i*T=4294967296^i*X+4294967296^i*(B*q):=by rw[← Int.mul_add,hx]
  rw[h,pw,Int.mul_add (4294967296^i) q,Int.mul_add B];have e1:B*(4294967296^i*q)=4294967296^i*(B*q):=by rw[← Int.mul_assoc,Int.mul_comm B,Int.mul_assoc]
  have e2:4294967296^i*(4294967296*v)=4294967296*4294967296^i*v:=by rw[← Int.mul_assoc,Int.mul_comm _ (4294967296:Int)]
  rw[e1,e2];omega
theorem Z1m {W B W0 v:Int}(hW:0≤W∧W<B) (h:W0=W+B*v):v=W0/B∧W=W0 % B:=by
 subst h;rw[Int.add_mul_ediv_left _ _ (by omega),Int.ediv_eq_zero_of_lt hW.1 hW.2,Int.add_mul_emod_self_left,Int.emod_eq_of_lt hW.1 hW.2];omega
theorem ZvK {V:Int}{n:Nat}(hn:0<n) (h0:4294967296^(n-1)≤V) (h1:V<4294967296^n):0<(dg n V).getD (n-1) 0:=by
 have e:dg n V=dg (n-1) V++dg 1 (V/4294967296^(n-1)):=by
  rw[← ZiE];congr 1;omega
 have hp:=Zaw (n-1);have h2:(1:Int)≤V/4294967296^(n-1):=(Int.le_ediv_iff_mul_le hp).2 (by omega);have h3:V/4294967296^(n-1)<4294967296:=Int.ediv_lt_of_lt_mul hp (by
  rw[← pw,show n-1+1=n by omega];exact h1)
 have e2:(dg (n-1) V++dg 1 (V/4294967296^(n-1)))[n-1]? =some (V/4294967296^(n-1) % 4294967296):=by
  rw[List.getElem?_append_right (by rw[ZR];omega),ZR,Nat.sub_self];rfl
 rw[e,List.getD,e2];simp only[Option.getD_some];omega
theorem ZvL {L:List Int}{n k:Nat}{x b:Int}(hL:wds L) (hl:L.length=n) (hn:0<n) (hx:L.getD (n-1) 0=x) (hb:x<b) (hbk:b*2^k≤4294967296):vN L*2^k<4294967296^n:=by
 have eL:L=L.take (n-1)++[x]:=by
  have h2:=Zax (L:=L) (k:=n-1) (by omega);rw[← hx,← h2,show n-1+1=L.length by omega,List.take_length]
 have vL:vN L=vN (L.take (n-1))+4294967296^(n-1)*x:=by
  have:vN L=vN (L.take (n-1)++[x]):=by rw[← eL]
  rw[this,zp,List.length_take,Nat.min_eq_left (by omega)]
 have bL:=ZaK (L.take (n-1)) (Zc0 hL _);rw[List.length_take,Nat.min_eq_left (by omega)] at bL;have hp:=Zaw (n-1);have hk:(0:Int)<2^k:=Int.pow_pos (by omega);have h1:4294967296^(n-1)*(x+1)≤4294967296^(n-1)*b:=Int.mul_le_mul_of_nonneg_left (by omega) (by omega);have h2:vN L<4294967296^(n-1)*b:=by rw[Int.mul_add] at h1;omega
 have h3:=Int.mul_lt_mul_of_pos_right h2 hk;have h4:4294967296^(n-1)*(b*2^k)≤4294967296^(n-1)*4294967296:=Int.mul_le_mul_of_nonneg_left hbk (by omega);have h5:(4294967296:Int)^n=4294967296^(n-1)*4294967296:=by
  have:=pw (n-1);rw[show n-1+1=n by omega] at this;rw[this,Int.mul_comm]
 rw[h5];rw[Int.mul_assoc] at h3;omega
end Go.Nt
namespace Go.Proofs.YtjlponbdflkbjaaGreatDoor.Na
open Go.Proofs.Tryz
open Go.KRun Go.Nt
set_option maxRecDepth 100000
set_option linter.unusedVariables false
theorem ZmV {l:List Value}{o:Nat}{L:List Int}(h:Row l o L):Zx l o L.length=L:=by
 unfold Zx;rw[h.cut];unfold wU;rw[List.map_map];exact (List.map_congr_left fun x _=>rfl).trans (List.map_id' _)
theorem Zdj (L:List Int) {z:Nat}(hl:L.length=z):Zx (wU L) 0 z=L:=by
 have:=Zh0 [] L [];rw[List.append_nil,List.nil_append,List.length_nil,hl] at this;exact this
theorem ZmW (L M:List Int) {z:Nat}(hl:L.length=z):tmS (wU L) 0 z M=wU M:=by
 have:=Zh1 [] L [] M;rw[List.append_nil,List.nil_append,List.length_nil,hl,List.append_nil,List.nil_append] at this;exact this
theorem ZmX (L:List Int) {z K:Nat}(hl:L.length=z):upT (wU L) 0 z (K:Int)=wU (dg z (vN L*2^K)):=by
 unfold upT;rw[Zdj L hl,ZmW L _ hl,Xg]
theorem zv {q:Nat}(h:q≤1000000):ZA q=true:=Zo.2 (by unfold ZZ;omega)
theorem ZqF {x:Int}(h:0<x∧x<4294967296):∃ K:Nat,dmU x=(K:Int)∧K<32∧x<2^(32-K)∧(2:Int)^(32-K)*2^K≤4294967296:=by
 have h1:=Zee (by omega) h.2;have h2:=bitLen_spec x.toNat;have h3:bitLen x.toNat≠0:=fun h0=>by rw[h0] at h2;have:=h2.1;omega
 refine⟨32-bitLen x.toNat,?_,by omega,?_,?_⟩
 ·unfold dmU;rw[Zv (by omega) (by omega)];omega
 ·rw[show 32-(32-bitLen x.toNat)=bitLen x.toNat by omega];have:((x.toNat:Nat):Int)<((2^bitLen x.toNat:Nat):Int):=Int.ofNat_lt.2 h2.1;rw[Int.natCast_pow] at this;have e:((x.toNat:Nat):Int)=x:=Int.toNat_of_nonneg (by omega);rw[e] at this;exact this
 ·rw[← Int.pow_add,show 32-(32-bitLen x.toNat)+(32-bitLen x.toNat)=32 by omega]
  decide
theorem ZvM {la lb:List Value}{o c o' c':Nat}{LA LB:List Int}(RA:Row la o LA) (RB:Row lb o' LB) (ra:Z6 tR la o LA.length c=true) (rb:Z6 tR lb o' LB.length c'=true) (ba:ZT LA=false) (bb:ZT LB=false) (hb0:0<LB.length) (hc:¬ Zck LA LB<0):
  Runs (Zr prog Zf ZeY hcD) (za (dmP f81) (.seq (.seq (Z3 (Z3 (sn 12 f81))) (.block 0 (.loop (dmL f81)))) (sn 13 f81))) ([sl 0 o LA.length c,sl 1 o' LB.length c']++List.replicate 87 undef,h2 la lb,[]) fun e y=>(e=none∨e=some none)∧ZV prog f81 y.1 y.2.1=some (.tuple #[sl 4 0 (Zl (dg (LA.length-LB.length+1) (vN LA/vN LB))) (LA.length-LB.length+1),sl 2 0 (Zl (dg (LA.length+1) (vN LA % vN LB))) (LA.length+1),.nilIface])∧y.2.1.blk? 4=some (wU (dg (LA.length-LB.length+1) (vN LA/vN LB)),tU)∧y.2.1.blk? 2=some (wU (dg (LA.length+1) (vN LA % vN LB)),tU):=by
 have hT:=Zh ZaS Z1i;have n8:=Zcz ba;have n8':=Zcz bb;have qa:=ZeW RA.rng ba;have qb:=ZeW RB.rng bb;have hcv:=Zip qa qb;have hge:vN LB≤vN LA:=by
  have:=mt hcv.1.2 hc;omega
 have hle:=Zlx qa qb hge;obtain⟨_,_,_,_,_,_,sa⟩:=ZH ra;obtain⟨_,_,_,_,_,_,sb⟩:=ZH rb;have cA:=ZmV RA;have cB:=ZmV RB;have cx:=RB.cell (k:=LB.length-1) (by omega);have hx0:LB.getD (LB.length-1) 0≠0:=qb.2.resolve_left (by omega);have hxr:=RB.rng (LB.getD (LB.length-1) 0) (by
  have hk:LB.length-1<LB.length:=by omega
  simp [List.getD,List.getElem?_eq_getElem hk])
 obtain⟨K,eU,hK,hxK,hKK⟩:=ZqF (x:=LB.getD (LB.length-1) 0) (by omega);have hB1:=ZvL RB.rng rfl hb0 rfl hxK hKK;have hlow:=Zgt RB.rng hb0 hx0;have k1:(1:Int)≤2^K:=by have:(0:Int)<2^K:=Int.pow_pos (by omega);omega
 have k2:(2:Int)^K≤4294967296:=by
  have h1:(1:Int)≤2^(32-K):=by have:(0:Int)<2^(32-K):=Int.pow_pos (by omega);omega
  have h2:1*(2:Int)^K≤2^(32-K)*2^K:=Int.mul_le_mul_of_nonneg_right h1 (by omega);omega
 have bA:=ZaK LA RA.rng;have pN1:=Zaw (LB.length-1);have hvB:0<vN LB:=by omega
 have hBlow:4294967296^(LB.length-1)≤vN LB*2^K:=by
  have:vN LB*1≤vN LB*2^K:=Int.mul_le_mul_of_nonneg_left k1 (by omega);omega
 have hW0:0≤vN LA*2^K:=Int.mul_nonneg bA.1 (by omega);have hW1:vN LA*2^K<vN LB*2^K*4294967296^(LA.length-LB.length+1):=by
  have e1:(4294967296:Int)^LA.length=4294967296^(LB.length-1)*4294967296^(LA.length-LB.length+1):=by
   rw[← Int.pow_add,show LB.length-1+(LA.length-LB.length+1)=LA.length by omega]
  have h1:4294967296^(LB.length-1)*4294967296^(LA.length-LB.length+1)≤vN LB*4294967296^(LA.length-LB.length+1):=Int.mul_le_mul_of_nonneg_right hlow (by have:=Zaw (LA.length-LB.length+1);omega);have h2:vN LA<vN LB*4294967296^(LA.length-LB.length+1):=by omega
  have h3:=Int.mul_lt_mul_of_pos_right h2 (show (0:Int)<2^K by omega);rw[Int.mul_assoc,Int.mul_comm (4294967296^(LA.length-LB.length+1)) (2^K),← Int.mul_assoc] at h3;exact h3
 have eNP:(nP LA.length).toNat=LA.length+1:=Zin n8;have eQ:dmQ LA.length LB.length=((LA.length-LB.length+1:Nat):Int):=by
  unfold dmQ;rw[Zv (n:=(LA.length:Int)-(LB.length:Int)) (by omega) (by omega),Zv (by omega) (by omega)];omega
 have eR:dmR la o LA.length (LB.getD (LB.length-1) 0)=wU (dg (LA.length+1) (vN LA*2^K)):=by
  unfold dmR;rw[eU,eNP,Zlt RA n8,ZmX _ (by simp),zp,Int.mul_zero,Int.add_zero]
 have eY:dmY lb o' LB.length (LB.getD (LB.length-1) 0)=wU (dg LB.length (vN LB*2^K)):=by
  unfold dmY;rw[eU,Xg,ZsP RB,ZmX _ rfl]
 have g0:=Z1j o LA.length c o' LB.length c' (LB.getD (LB.length-1) 0) la lb;have en1:n1 LB.length=((LB.length-1:Nat):Int):=by unfold n1;rw[Zv (by omega) (by omega)];omega
 rw[eR,eY,eU,eNP,eQ,Xg,Xg,cA,cB,Zlt RA n8,ZsP RB,en1] at g0;have erep:List.replicate (LA.length-LB.length+1) (uu 0)=wU (List.replicate (LA.length-LB.length+1) 0++[]):=by
  unfold wU uu;simp
 rw[erep] at g0;have lm1:ZoG (wU (dg LB.length (vN LB*2^K))) la lb (wU (LA++[0])) tR tR tU tU 0 (LA.length+1) (LA.length+1) (K:Int)=true:=by
  unfold ZoG;rw[z3 (ZfA RA.rng) (by simp) (Nat.le_refl _) (zv (by omega)),ZbE,List.all_eq_true.2 sa,List.all_eq_true.2 sb,Xa (show (0:Int)≤K∧(K:Int)<32 by omega)];simp
 have lm2:ZoG (wU (LA++[0])) la lb (wU LB) tR tR tU tU 0 LB.length LB.length (K:Int)=true:=by
  unfold ZoG;rw[z3 RB.rng (by simp) (Nat.le_refl _) (zv (by omega)),ZbE,List.all_eq_true.2 sa,List.all_eq_true.2 sb,Xa (show (0:Int)≤K∧(K:Int)<32 by omega)];simp
 refine Zw hT g0 (Zi (by unfold ZI;exact Xa (by omega)) (Zi lm1 (Zi lm2 (Zi (Zur RB) (Zi (by unfold ZI;exact Xa (by omega)) (Zi (Xa hxr) (Zi (Zav cx) (Zi (Xa (by omega)) (Zi (Xb hc) (Zi ra (Zi rb (Zi (Zlu RA n8) (Zi (ZzH n8) (Zi (by simpa using (show LB.length≠0 by omega)) (Zi ra (Zi rb (Zt (by rw[ba,bb];rfl)))))))))))))))))) fun g=> ?_;generalize hBe:vN LB*2^K=B' at*;generalize hWe:vN LA*2^K=W0 at*;have cY:=Zdj (dg LB.length B') (ZR LB.length B');have vY:vN (dg LB.length B')=B':=ZjR _ _ (by omega) hB1;have tY:=ZvK hb0 hBlow hB1;have hBp:0<B':=by omega
 refine Runs.seq (P1:=fun e' y=>e'=none∧∃ (W:Int) (qs:List Int) (i:Int) (g:Nat→Value),(0≤W∧W<B')∧W0=W+B'*vN qs∧qs.length=LA.length-LB.length+1∧wds qs∧y.1=dmG o LA.length c o' LB.length c' (LA.length+1) LB.length (LA.length-LB.length+1) K i++tl 76 g∧y.2.1=h5 la lb (wU (dg (LA.length+1) W)) (wU (dg LB.length B')) (wU qs)) ?_ ?_ (fun e y he=>by cases he.1)
 ·refine Runs.seq (P1:=fun e' y=>e'=none∧(∃ g,y.1=dmG o LA.length c o' LB.length c' (LA.length+1) LB.length (LA.length-LB.length+1) K (n1 (LA.length-LB.length+1))++tl 76 g)∧y.2.1=h5 la lb (wU (dg (LA.length+1) W0)) (wU (dg LB.length B')) (wU (List.replicate (LA.length-LB.length+1) 0++[]))) (Zb hT (Z9n o LA.length c o' LB.length c' (LA.length+1) LB.length (LA.length-LB.length+1) K _ g) (fun x hx=>by cases hx)) ?_ (fun e y he=>by cases he.1);rintro⟨t,h',s'⟩ ⟨_,⟨g1,ht⟩,hh⟩;simp only at ht hh;subst ht hh;refine (Runs.forLoop (R:=fun _=>False) (P:=fun y=>∃ (W:Int) (qs:List Int) (i:Int) (g:Nat→Value),(0≤W∧W<B')∧W0=W+B'*vN qs∧qs.length=LA.length-LB.length+1∧wds qs∧y.1=dmG o LA.length c o' LB.length c' (LA.length+1) LB.length (LA.length-LB.length+1) K i++tl 76 g∧y.2.1=h5 la lb (wU (dg (LA.length+1) W)) (wU (dg LB.length B')) (wU qs))
   (fun r y=>∃ (W:Int) (qs:List Int) (g:Nat→Value),(0≤W∧W<B'*4294967296^r)∧W0=W+B'*(4294967296^r*vN qs)∧qs.length+r=LA.length-LB.length+1∧wds qs∧y.1=dmG o LA.length c o' LB.length c' (LA.length+1) LB.length (LA.length-LB.length+1) K ((r:Int)-1)++tl 76 g∧y.2.1=h5 la lb (wU (dg (LA.length+1) W)) (wU (dg LB.length B')) (wU (List.replicate r 0++qs)))
   ?_ (n:=LA.length-LB.length+1) ⟨W0,[],g1,⟨hW0,hW1⟩,by simp [vN],by simp,(fun x hx=>by cases hx),?_,rfl⟩).mono fun e' y he=> ?_
  ·rintro r ⟨t,h',s'⟩ ⟨W,qs,g,hW,hsum,hq,wq,ht,hh⟩;simp only at ht hh;subst ht hh;cases r with
   | zero=>
    refine (Zb hT (Z1k o LA.length c o' LB.length c' (LA.length+1) LB.length (LA.length-LB.length+1) K _ _ g) (Zt (Xb (by omega)))).mono fun e' y he=> ?_;obtain⟨rfl,⟨g1,e2⟩,e3⟩:=he;rw[Int.pow_zero] at hW hsum;rw[Int.mul_one] at hW;rw[Int.one_mul] at hsum;exact⟨rfl,W,qs,_,g1,hW,hsum,by omega,wq,e2,e3⟩
   | succ r=>
    have ei:((r+1:Nat):Int)-1=(r:Int):=by omega
    rw[ei];obtain⟨⟨t0,t1,t2⟩,⟨x0,x1⟩,hW',hs'⟩:=ZqE ⟨hBp,hB1⟩ hW hsum;have hdg:=ZiC hBp t0 t1;generalize hTe:W/4294967296^r=T at*;have eJ:pJ (r:Int)=r:=by unfold pJ;omega
    have eH:dmH (r:Int) LB.length=((r+LB.length+1:Nat):Int):=by
     unfold dmH;rw[Zv (n:=(r:Int)+(LB.length:Int)) (by omega) (by omega),Zv (by omega) (by omega)];omega
    have eN:dmN (r:Int) LB.length=LB.length+1:=by unfold dmN;rw[eH];omega
    have eRr:dg (LA.length+1) W=dg r W++(dg (LB.length+1) T++dg (LA.length-LB.length-r) 0):=by
     rw[show LA.length+1=r+((LB.length+1)+(LA.length-LB.length-r)) by omega,ZiF,hTe,Int.ediv_eq_zero_of_lt t0 t2]
    have cT:Zx (wU (dg (LA.length+1) W)) r (LB.length+1)=dg (LB.length+1) T:=by
     have:=Zh0 (dg r W) (dg (LB.length+1) T) (dg (LA.length-LB.length-r) 0);rw[ZR,ZR,← eRr] at this;exact this
    have vT:vN (dg (LB.length+1) T)=T:=ZjR _ _ t0 t2;have sT:tmS (wU (dg (LA.length+1) W)) r (LB.length+1) (dg (LB.length+1) (T % B'))=wU (dg (LA.length+1) (qtW W (T % B') r)):=by
     have:=Zh1 (dg r W) (dg (LB.length+1) T) (dg (LA.length-LB.length-r) 0) (dg (LB.length+1) (T % B'));rw[ZR,ZR,← eRr] at this;rw[this,ZqD ⟨x0,x1⟩,show r+((LB.length+1)+(LA.length-LB.length-r))=LA.length+1 by omega]
    have sQ:(wU (List.replicate (r+1) 0++qs)).set r (uu (T/B'))=wU (List.replicate r 0++(T/B')::qs):=by
     have:=Zil (List.replicate r 0) 0 (T/B') qs;rw[List.length_replicate] at this;rw[List.replicate_succ',List.append_assoc,List.singleton_append,this,List.append_assoc,List.singleton_append]
    have g2:=Z6h o LA.length c o' LB.length c' (LA.length+1) LB.length (LA.length-LB.length+1) K r la lb (wU (dg (LA.length+1) W)) (wU (dg LB.length B')) (wU (List.replicate (r+1) 0++qs)) g;rw[eJ,eN,eH,cT,cY,vT,vY,sT,sQ,Xg] at g2;have l1:decide (r<(wU (List.replicate (r+1) 0++qs)).length)=true:=Xa (by rw[Zak];simp;omega);have l2:(inR r (LA.length-LB.length+1)).1=(inR r (LA.length-LB.length+1)).2:=Xa (by omega);have l3:(Zen la lb (wU (dg (LA.length+1) W)) (wU (dg LB.length B')) (wU (List.replicate (r+1) 0++qs)) tR tR tU tU tU r (LB.length+1) (LA.length+1-r) LB.length LB.length && decide (0<LB.length∧0<(dg LB.length B').getD (LB.length-1) 0∧T<4294967296*B'))=true:=by
     unfold Zen;rw[z3 (Za2 _ _) (by rw[ZR];omega) (by omega) (zv (by omega)),z3 (Za2 _ _) (by rw[ZR];omega) (Nat.le_refl _) (zv (by omega)),ZbE,List.all_eq_true.2 sa,List.all_eq_true.2 sb,Zo.2 (show LB.length+1<1099511627776 by omega),Xa (show 0<LB.length∧0<(dg LB.length B').getD (LB.length-1) 0∧T<4294967296*B' from ⟨hb0,tY,t1⟩)];simp
    have l5:ZP (r:Int) ((r+LB.length+1:Nat):Int) ((LA.length+1:Nat):Int) ((LA.length+1:Nat):Int)=true:=by unfold ZP;exact Xa (by omega)
    have l6:decide (((LA.length+1:Nat):Int)=(r:Int)∧(r:Int)≠0)=false:=Xb (by omega);have l7:decide ((r:Int)≥0)=true:=Xa (by omega);refine (Zb hT g2 (Zi l1 (Zi l2 (Zi l3 (Zi (zv (by omega)) (Zi l5 (Zi l6 (Zt l7)))))))).mono fun e' y he=> ?_;obtain⟨rfl,⟨g3,e2⟩,e3⟩:=he;refine⟨r,by omega,qtW W (T % B') r,T/B'::qs,g3,hW',?_,by simp;omega,?_,?_,e3⟩
    ·simp only[vN];exact hs'
    ·intro z hz;rcases List.mem_cons.1 hz with rfl | hz
     ·omega
     ·exact wq z hz
    ·rw[e2,Zv (by omega) (by omega)]
  ·show dmG _ _ _ _ _ _ _ _ _ _ _++_=_;rw[show n1 (LA.length-LB.length+1)=((LA.length-LB.length+1:Nat):Int)-1 from by unfold n1;rw[Zv (by omega) (by omega)]]
  ·match e',he with
   | none,he=>exact⟨rfl,he⟩
   | some none,he=>exact he.elim
   | some (some _),he=>exact he.elim
 ·rintro⟨t,h',s'⟩ ⟨_,W,qs,i,g,hW,hsum,hq,wq,ht,hh⟩;simp only at ht hh;subst ht hh;obtain⟨f1,f2⟩:=Z1m hW hsum;have hkp:(0:Int)<2^K:=by omega
  have d1:W0/B'=vN LA/vN LB:=by rw[← hWe,← hBe];exact Int.mul_ediv_mul_of_pos_left _ _ hkp
  have d2:W0 % B'=vN LA % vN LB*2^K:=by rw[← hWe,← hBe,Int.mul_comm (vN LA) (2^K),Int.mul_comm (vN LB) (2^K),Int.mul_emod_mul_of_pos _ _ hkp,Int.mul_comm]
  have eqs:qs=dg (LA.length-LB.length+1) (vN LA/vN LB):=by
   have:=Zfx qs wq;rw[hq,f1,d1] at this;exact this.symm
  have hWlt:W<4294967296^(LA.length+1):=by
   have h1:(4294967296:Int)^LB.length≤4294967296^(LA.length+1):=Zpx (by omega);omega
  have vW:vN (dg (LA.length+1) W)=W:=ZjR _ _ hW.1 hWlt;have eD:dmD (wU (dg (LA.length+1) W)) (LA.length+1) K=wU (dg (LA.length+1) (vN LA % vN LB)):=by
   unfold dmD;rw[Zdj _ (ZR _ _),ZmW _ _ (ZR _ _),vW,f2,d2,Xg,Int.mul_ediv_cancel _ (by omega)]
  have g2:=Z1l o LA.length c o' LB.length c' (LA.length+1) LB.length (LA.length-LB.length+1) K i la lb (wU (dg (LA.length+1) W)) (wU (dg LB.length B')) (wU qs) g;rw[eD,Zdj qs hq,Zdj _ (ZR _ _),eqs] at g2;have l1:Z1h la lb (wU (dg (LA.length+1) W)) (wU (dg LB.length B')) (wU (dg (LA.length-LB.length+1) (vN LA/vN LB))) tR tR tU tU tU 0 (LA.length+1) (LA.length+1) (K:Int)=true:=by
   unfold Z1h;rw[z3 (Za2 _ _) (by rw[ZR];omega) (Nat.le_refl _) (zv (by omega)),ZbE,ZbE,List.all_eq_true.2 sa,List.all_eq_true.2 sb,Zo.2 (show LA.length+1<1099511627776 by omega),Xa (show (0:Int)≤K∧(K:Int)<32 by omega)];simp
  rw[eqs];refine (Zb hT g2 (Zi (z3 (Za2 _ _) (by rw[ZR];omega) (Nat.le_refl _) (zv (by omega))) (Zi (z3 (Za2 _ _) (by rw[ZR];omega) (Nat.le_refl _) (zv (by omega))) (Zt l1)))).mono fun e' y he=> ?_;obtain⟨rfl,⟨g1,e2⟩,e3⟩:=he;refine⟨.inr rfl,?_,?_,?_⟩
  ·rw[e2,e3];rfl
  ·rw[e3];rfl
  ·rw[e3];rfl
def hcE:Hc:=zP 116 Zis (zP 120 Zuw (zP 112 Zgq hcN))
theorem ZiG:HcOk hcE:=Zz func116 rfl Zgx (Zz func120 rfl Zp4 (Zz func112 rfl ZbW Zag))
theorem Z1n (p q:Option Addr) (n c n' c':Nat) (h:Hp):Zg (evC (Zr prog Zf Zn hcE) 300 false (Zs f81) ([.slice p n c,.slice q n' c']++List.replicate 87 undef,h,[cmp true]) ⟨[],[],[]⟩) 7 82 (some none) [.slice p n c,.slice q n' c',undef,undef,Zp,Zp,Zcx 1] h [(Zal h p n c,true),(Zal h q n' c',true),(ZT (Zq h p n) || ZT (Zq h q n'),true)]:=by and_intros<;>kernel_rfl
theorem ZvN (p q:Option Addr) (n c n' c':Nat) (h:Hp):Zg (evC (Zr prog Zf Zn hcE) 300 false (Zs f81) ([.slice p n c,.slice q n' c']++List.replicate 87 undef,h,[cmp false,cmp true]) ⟨[],[],[]⟩) 7 82 (some none) [.slice p n c,.slice q n' c',undef,undef,Zp,Zp,Zcx 5] h [((n':Int)==0,true),(Zal h p n c,true),(Zal h q n' c',true),(ZT (Zq h p n) || ZT (Zq h q n'),false)]:=by and_intros<;>kernel_rfl
theorem ZvO (o n c o' n' c':Nat) (la lb:List Value):Zg (evC (Zr prog Zf Zn hcE) 300 false (Zs f81) ([sl 0 o n c,sl 1 o' n' c']++List.replicate 87 undef,h2 la lb,[cmp false,cmp false,at_,at_,cmp true]) ⟨[],[],[]⟩) 7 82 (some none) [sl 0 o n c,sl 1 o' n' c',undef,undef,Zp,sl 2 0 (Zl (Zx (cpy la o n) 0 (nP n).toNat)) (nP n).toNat,.nilIface] (h3 la lb (cpy la o n))
  [(Z6 tU (cpy la o n) 0 (nP n).toNat (nP n).toNat,true),(decide (Zck (Zx la o n) (Zx lb o' n')<0),true),(Z6 tR la o n c,true),(Z6 tR lb o' n' c',true),(Z4i la o n,true),(ZI 4 (nP n) (nP n),true),((n':Int)==0,false),(Z6 tR la o n c,true),(Z6 tR lb o' n' c',true),(ZT (Zx la o n) || ZT (Zx lb o' n'),false)]:=by and_intros<;>kernel_rfl
theorem ZqG (o n c:Nat) (lb:List Value):Zg (evC (Zr prog Zf Zn hcE) 300 false (Zs f81) ([Zp,sl 0 o n c]++List.replicate 87 undef,⟨1,[(lb,tR)]⟩,[cmp false,cmp false,cmp true]) ⟨[],[],[]⟩) 7 82 (some none) [Zp,sl 0 o n c,undef,undef,Zp,sl 1 0 0 1,.nilIface] ⟨2,[(wU [0],tU),(lb,tR)]⟩
  [(Z6 tU (wU [0]) 0 1 1,true),(decide (Zck [] (Zx lb o n)<0),true),(true,true),(Z6 tR lb o n c,true),((n:Int)==0,false),(true,true),(Z6 tR lb o n c,true),(ZT (Zx lb o n),false)]:=by and_intros<;>kernel_rfl
def gDm:Zac:=fun vals h s=>
 match vals,s with
 | [.slice p n c,.slice q n' c'],.inr (.inr (.inr (.inl true)))::s'=>some (.tuple #[Zp,Zp,Zcx 1],h,s',[(Zal h p n c,true),(Zal h q n' c',true),(ZT (Zq h p n) || ZT (Zq h q n'),true)])
 | [.slice p n c,.slice q n' c'],.inr (.inr (.inr (.inl false))):: .inr (.inr (.inr (.inl true)))::s'=>some (.tuple #[Zp,Zp,Zcx 5],h,s',[(Zal h p n c,true),(Zal h q n' c',true),(!(ZT (Zq h p n) || ZT (Zq h q n')) && decide (n'=0),true)])
 | [.slice p n c,.slice q n' c'],.inr (.inr (.inr (.inl false))):: .inr (.inr (.inr (.inl false))):: .inr (.inr (.inr (.inl true)))::s'=>some (.tuple #[Zp,sl h.n 0 (Zl (Zq h p n++[0])) (n+1),.nilIface],h.push (wU (Zq h p n++[0])) tU,s',[(Zal h p n c,true),(Zal h q n' c',true),(!(ZT (Zq h p n) || ZT (Zq h q n')) && decide (0<n'∧Zck (Zq h p n) (Zq h q n')<0),true)])
 | [.slice p n c,.slice q n' c'],.inr (.inr (.inr (.inl false))):: .inr (.inr (.inr (.inl false))):: .inr (.inr (.inr (.inl false))):: .inr (.inl V):: .inr (.inl U)::s'=>some (.tuple #[sl h.n 0 (Zl (dg (n-n'+1) V)) (n-n'+1),sl (h.n+1) 0 (Zl (dg (n+1) U)) (n+1),.nilIface],(h.push (wU (dg (n-n'+1) V)) tU).push (wU (dg (n+1) U)) tU,s',[(decide (vN (Zq h p n)/vN (Zq h q n')=V∧vN (Zq h p n) % vN (Zq h q n')=U),true),(Zal h p n c,true),(Zal h q n' c',true),(!(ZT (Zq h p n) || ZT (Zq h q n')) && decide (0<n'∧¬ Zck (Zq h p n) (Zq h q n')<0),true)])
 | _,_=>none
theorem Z9o {a b c d:Bool×Bool}(h:Z2 [a,b,c,d]):a.1=a.2∧b.1=b.2∧c.1=c.2∧d.1=d.2:=⟨h _ (by simp),h _ (by simp),h _ (by simp),h _ (by simp)⟩
theorem ZiH:Z8 81 gDm:=by
 intro vals h s v h' s' lg hg hl m B w E hv;unfold gDm at hg;split at hg
 ·rename_i p n c q n' c' s2;cases hg;have r:=Zb (s0:=[]) (Zh Zd ZiG) (Z1n p q n c n' c' h) hl;exact Zbn (T:=Zr prog Zf Zn hcE) func81 ZdB (vals:=[.slice p n c,.slice q n' c']) (v:= .tuple #[Zp,Zp,Zcx 1]) (h:=h) (by rfl) (r.mono fun e y he=>by
   obtain⟨rfl,⟨g,e1⟩,e2⟩:=he;exact⟨.inr rfl,by rw[e1,e2];rfl,e2⟩) m B w E hv
 ·rename_i p n c q n' c' s2;cases hg;obtain⟨l1,l2,l3⟩:=Z4k hl;simp only[Xh,Bool.not_eq_true',Xi] at l1 l2 l3;have r:=Zb (s0:=[]) (Zh Zd ZiG) (ZvN p q n c n' c' h) (Zi (by simp [l3.2]) (Zi l1 (Zi l2 (Zt l3.1))));exact Zbn (T:=Zr prog Zf Zn hcE) func81 ZdB (vals:=[.slice p n c,.slice q n' c']) (v:= .tuple #[Zp,Zp,Zcx 5]) (h:=h) (by rfl) (r.mono fun e y he=>by
   obtain⟨rfl,⟨g,e1⟩,e2⟩:=he;exact⟨.inr rfl,by rw[e1,e2];rfl,e2⟩) m B w E hv
 ·rename_i p n c q n' c' s2;cases hg;obtain⟨l1,l2,l3⟩:=Z4k hl;simp only[Xh,Bool.not_eq_true',Bool.or_eq_false_iff,Xi] at l1 l2 l3;obtain⟨⟨l3,l4⟩,l5,l6⟩:=l3;rcases ZL l2 with ⟨_,h0,_⟩ | ⟨b',o',y,rfl,hy,t1,f0⟩
  ·omega
  rw[f0] at l4 l6;have tR1:=zJ t1;obtain⟨b1,b2,b3,b4,b5,b6,b7⟩:=ZH t1;rcases ZL l1 with ⟨rfl,rfl,rfl,e0⟩ | ⟨b,o,x,rfl,hx,r1,e0⟩
  ·rw[e0] at l6 ⊢;have r:Runs (Zr prog Zf Zn hcE) (Zs f81) ([Zp,sl 0 o' n' c']++List.replicate 87 undef,⟨1,[(y.1,tR)]⟩,[]) fun e z=>(e=none∨e=some none)∧ZV prog f81 z.1 z.2.1=some (.tuple #[Zp,sl 1 0 0 1,.nilIface])∧∃ r,z.2.1.blk? 1=some (wU [0]++r,tU):=by
    refine (Zb (Zh Zd ZiG) (ZqG o' n' c' y.1) (Zi (by kernel_rfl) (Zi (Xa l6) (Zi rfl (Zi tR1 (Zi (by simpa using (show n'≠0 by omega)) (Zi rfl (Zi tR1 (Zt l4))))))))).mono fun e z he=> ?_;obtain⟨rfl,⟨g,e1⟩,e2⟩:=he;exact⟨.inr rfl,by rw[e1,e2];rfl,[],by rw[e2];rfl⟩
   have evals:List.map (rn fun _=>b') [Zp,sl 0 o' n' c']=[.slice none 0 0,.slice (some ⟨b',o',none⟩) n' c']:=by simp [rn,rn2,rn1,sl,Zp]
   have e1:∀ k M:Nat,rn (fun _=>h.n) (.tuple #[Zp,sl 1 0 k M,.nilIface])= .tuple #[Zp,sl h.n 0 k M,.nilIface]:=fun k M=>by simp [rn,rn2,rn1,sl,Zp]
   have:=ZE (T:=Zr prog Zf Zn hcE) func81 ZdB (ZaJ b7) (vals:=[Zp,sl 0 o' n' c']) (fun v hv=>by
    simp only[List.mem_cons,List.not_mem_nil,or_false] at hv;rcases hv with rfl | rfl<;>rfl) (k:=1) (ZcZ _) ZdZ r.w (by rfl) E (s:=fun _=>b') (zQ hy b5 b6 rfl)
   rw[evals,e1] at this;exact this
  ·rw[e0] at l3 l6 ⊢;have tR0:=zJ r1;obtain⟨a1,a2,a3,a4,a5,a6,a7⟩:=ZH r1;have n8:=Zcz l3;have g0:=ZvO o n c o' n' c' x.1 y.1;have eP:=Zlt a1 n8;have eO:=Zlu a1 n8;rw[a2] at eP eO;rw[a2] at n8;rw[Zin n8,eP] at g0;have hw:=ZfA a1.rng;have hl1:(Zx x.1 o n++[0]).length=n+1:=by simp [a2]
   rw[Zdj _ hl1] at g0;have r:Runs (Zr prog Zf Zn hcE) (Zs f81) ([sl 0 o n c,sl 1 o' n' c']++List.replicate 87 undef,h2 x.1 y.1,[]) fun e z=>(e=none∨e=some none)∧ZV prog f81 z.1 z.2.1=some (.tuple #[Zp,sl 2 0 (Zl (Zx x.1 o n++[0])) (n+1),.nilIface])∧∃ r,z.2.1.blk? 2=some (wU (Zx x.1 o n++[0])++r,tU):=by
    refine (Zb (Zh Zd ZiG) g0 (Zi (z3 hw (by rw[hl1];omega) (Nat.le_refl _) (zv (by omega))) (Zi (Xa l6) (Zi tR0 (Zi tR1 (Zi eO (Zi (ZzH n8) (Zi (by simpa using (show n'≠0 by omega)) (Zi tR0 (Zi tR1 (Zt (by rw[l3,l4];rfl)))))))))))).mono fun e z he=> ?_;obtain⟨rfl,⟨g,e1⟩,e2⟩:=he;exact⟨.inr rfl,by rw[e1,e2];rfl,[],by rw[e2,List.append_nil];rfl⟩
   have e1:∀ k M:Nat,rn (fun _=>h.n) (.tuple #[Zp,sl 2 0 k M,.nilIface])= .tuple #[Zp,sl h.n 0 k M,.nilIface]:=fun k M=>by simp [rn,rn2,rn1,sl,Zp]
   have:=ZE (T:=Zr prog Zf Zn hcE) func81 ZdB (Zhm a7 b7) (vals:=[sl 0 o n c,sl 1 o' n' c']) (fun v hv=>by
    simp only[List.mem_cons,List.not_mem_nil,or_false] at hv;rcases hv with rfl | rfl<;>rfl) (k:=2) (ZcZ _) ZdZ r.w (by rfl) E (s:=ZeT b b') (ZdV hx a5 a6 hy b5 b6)
   rw[e1] at this;exact this
 ·rename_i p n c q n' c' V U s2;cases hg;obtain⟨l0,l1,l2,l3⟩:=Z9o hl;simp only[Xh,Bool.not_eq_true',Bool.or_eq_false_iff,Xi] at l0 l1 l2 l3;obtain⟨⟨l3,l4⟩,l5,l6⟩:=l3;obtain⟨rfl,rfl⟩:=l0;rcases ZL l2 with ⟨_,h0,_⟩ | ⟨b',o',y,rfl,hy,t1,f0⟩
  ·omega
  rw[f0] at l4 l6 ⊢;have tR1:=zJ t1;obtain⟨b1,b2,b3,b4,b5,b6,b7⟩:=ZH t1;rcases ZL l1 with ⟨rfl,rfl,rfl,e0⟩ | ⟨b,o,x,rfl,hx,r1,e0⟩
  ·rw[e0] at l6;exact absurd ((ZzN b2).2 l5) l6
  ·rw[e0] at l3 l6 ⊢;have tR0:=zJ r1;obtain⟨a1,a2,a3,a4,a5,a6,a7⟩:=ZH r1;have r:=ZvM (c:=c) (c':=c') a1 b1 (by rw[a2];exact tR0) (by rw[b2];exact tR1) l3 l4 (by omega) l6;rw[a2,b2] at r;have fin:=ZeX (T:=Zr prog Zf ZeY hcD) func81 ZvH (Zhm a7 b7) (vals:=[sl 0 o n c,sl 1 o' n' c']) (fun v hv=>by
    simp only[List.mem_cons,List.not_mem_nil,or_false] at hv;rcases hv with h1 | h1<;>rw[h1]<;>rfl) (v:=fun k j=> .tuple #[sl k 0 (Zl (dg (n-n'+1) (vN (Zx x.1 o n)/vN (Zx y.1 o' n')))) (n-n'+1),sl j 0 (Zl (dg (n+1) (vN (Zx x.1 o n) % vN (Zx y.1 o' n')))) (n+1),.nilIface]) (ZcZ _) (ZcZ _) ZdZ (r.w.mono fun e z hz=>⟨hz.1,4,2,by omega,hz.2.1,⟨[],by rw[List.append_nil];exact hz.2.2.1⟩,[],by rw[List.append_nil];exact hz.2.2.2⟩) (fun k j=>by simp [oc,oc2,oc1,sl]) E (s:=ZeT b b') (ZdV hx a5 a6 hy b5 b6) (fun k j g=>by simp [rn,rn2,rn1,sl])
   exact fin
 ·cases hg
end Go.Proofs.YtjlponbdflkbjaaGreatDoor.Na
namespace Go.Proofs.YtjlponbdflkbjaaGreatDoor.Na
open Go.KRun Go.Nt
set_option maxRecDepth 100000
set_option linter.unusedVariables false
def Z6i:Zac:=fun vals h s=>
 match vals,s with
 | [.slice p n c,.slice q n' c'],.inr (.inr (.inr (.inl true)))::s'=>some (.tuple #[Zp,Zp,Zcx 1],h,s',[(Zal h p n c,true),(Zal h q n' c',true),(ZT (Zq h p n) || ZT (Zq h q n'),true)])
 | [.slice p n c,.slice q n' c'],.inr (.inr (.inr (.inl false))):: .inr (.inr (.inr (.inl true)))::s'=>some (.tuple #[Zp,Zp,Zcx 5],h,s',[(Zal h p n c,true),(Zal h q n' c',true),(!(ZT (Zq h p n) || ZT (Zq h q n')) && decide (n'=0),true)])
 | [.slice p n c,.slice q n' c'],.inr (.inr (.inr (.inl false))):: .inr (.inr (.inr (.inl false))):: .inr (.inr (.inr (.inl true))):: .inr (.inl U)::s'=>some (.tuple #[Zp,sl h.n 0 (Zl (dg (n+1) U)) (n+1),.nilIface],h.push (wU (dg (n+1) U)) tU,s',[(decide (Zq h p n++[0]=dg (n+1) U),true),(Zal h p n c,true),(Zal h q n' c',true),(!(ZT (Zq h p n) || ZT (Zq h q n')) && decide (0<n'∧Zck (Zq h p n) (Zq h q n')<0),true)])
 | [.slice p n c,.slice q n' c'],.inr (.inr (.inr (.inl false))):: .inr (.inr (.inr (.inl false))):: .inr (.inr (.inr (.inl false))):: .inr (.inl V):: .inr (.inl U)::s'=>some (.tuple #[sl h.n 0 (Zl (dg (n-n'+1) V)) (n-n'+1),sl (h.n+1) 0 (Zl (dg (n+1) U)) (n+1),.nilIface],(h.push (wU (dg (n-n'+1) V)) tU).push (wU (dg (n+1) U)) tU,s',[(decide (vN (Zq h p n)/vN (Zq h q n')=V∧vN (Zq h p n) % vN (Zq h q n')=U),true),(Zal h p n c,true),(Zal h q n' c',true),(!(ZT (Zq h p n) || ZT (Zq h q n')) && decide (0<n'∧¬ Zck (Zq h p n) (Zq h q n')<0),true)])
 | _,_=>none
theorem ZvP:Z8 81 Z6i:=by
 intro vals h s v h' s' lg hg hl;unfold Z6i at hg;split at hg
 ·cases hg;exact ZiH _ h [cmp true] _ _ [] _ rfl hl
 ·cases hg;exact ZiH _ h [cmp false,cmp true] _ _ [] _ rfl hl
 ·rename_i p n c q n' c' U s3;cases hg;obtain⟨l1,l2⟩:=Zta hl;have l1:=Xc l1;refine ZiH _ h [cmp false,cmp false,cmp true] _ _ [] _ ?_ l2;simp only[gDm,l1]
 ·cases hg;exact ZiH _ h [cmp false,cmp false,cmp false,num _,num _] _ _ [] _ rfl hl
 ·cases hg
def IsR (H:Hp) (p:Option Addr) (n c V:Nat):Prop:=Zal H p n c=true∧zS H p n c=true∧Zq H p n=d32 V∧n=(d32 V).length∧n≤1000
theorem Zkz {H:Hp}{b V m:Nat}(hb:H.blk? b=some (wU (dg m (V:Int)),tU)) (hV:V<4294967296^m) (hm:m≤1000):IsR H (some ⟨b,0,none⟩) (Zl (dg m (V:Int))) m V:=by
 have h32:=Z5I hb hV hm;have ht:=Za4 (dg m (V:Int));have hl:=ZR m (V:Int);refine⟨?_,h32.1,h32.2,?_,by omega⟩
 ·unfold Zal;simp only[hb];exact z3 (Za2 _ _) (by omega) (by omega) (zv (by omega))
 ·rw[← h32.2];have:=zT h32.1;omega
section
variable {H : Hp} {p q : Option Addr} {n c n' c' V W : Nat}
theorem Zg9 (V:Nat):vN (d32 V)=(V:Int):=by
 rw[Zhw (ZfE V)];exact congrArg _ (ZbC (by omega) V)
theorem ZcB (V:Nat):Zbi (d32 V):=by
 have h:=Zea (b:=4294967296) (by omega) V;refine⟨ZfE V,?_⟩;have ht:=Zcw (d32 V);rw[show Zl (d32 V)=(d32 V).length from h.2] at ht;exact ht
theorem IsR.good (h:IsR H p n c V):ZT (Zq H p n)=false:=by
 have hl:(Zq H p n).length=n:=by rw[h.2.2.1];exact h.2.2.2.1.symm
 have h8:=h.2.2.2.2;have hc:=ZcB V;rw[← h.2.2.1] at hc;unfold ZT;rw[Xb (by omega),Bool.false_or];rcases hc.2 with h0 | h0
 ·rw[Xb (by omega)];rfl
 ·rw[beq_eq_false_iff_ne.2 h0,Bool.and_false]
theorem rX (h:IsR H p n c V):Zal H p n c=true:=h.1
theorem rOr (h:IsR H p n c V) (g:IsR H q n' c' W):(ZT (Zq H p n) || ZT (Zq H q n'))=false:=by rw[h.good,g.good];rfl
theorem ZvQ (h:IsR H p n c V) (g:IsR H q n' c' W):decide (Zhz (Zq H p n) (Zq H q n')=dg (n+n') ((V*W:Nat):Int))=true:=by
 refine Xa ?_;unfold Zhz;rw[h.2.2.1,g.2.2.1,Zg9,Zg9,← h.2.2.2.1,← g.2.2.2.1,Int.natCast_mul]
theorem Z6j (h:IsR H p n c V) (g:IsR H q n' c' W):Zck (Zq H p n) (Zq H q n')=ZcT V W:=by
 rw[h.2.2.1,g.2.2.1,ZuH (ZcB V) (ZcB W),show vb 4294967296 (d32 V)=V from ZbC (by omega) V,show vb 4294967296 (d32 W)=W from ZbC (by omega) W];rfl
theorem rG (h:IsR H p n c V) (g:IsR H q n' c' W) (hp:0<n') (hle:W≤V):(!(ZT (Zq H p n) || ZT (Zq H q n')) && decide (0<n'∧¬ Zck (Zq H p n) (Zq H q n')<0))=true:=by
 rw[rOr h g,Z6j h g,Xa ⟨hp,by unfold ZcT;rw[if_neg (by omega)];split<;>omega⟩];rfl
theorem Z9p (h:IsR H p n c V) (g:IsR H q n' c' W):decide (vN (Zq H p n)/vN (Zq H q n')=((V/W:Nat):Int)∧vN (Zq H p n) % vN (Zq H q n')=((V % W:Nat):Int))=true:=by
 rw[h.2.2.1,g.2.2.1,Zg9,Zg9];exact Xa ⟨(Int.natCast_ediv V W).symm,(Int.natCast_emod V W).symm⟩
theorem rLt (h:IsR H p n c V):V<4294967296^n:=by
 have:=Zbl (b:=4294967296) (by omega) (d32 V) (ZfE V);rw[show vb 4294967296 (d32 V)=V from ZbC (by omega) V,← h.2.2.2.1] at this;exact this
end
end Go.Proofs.YtjlponbdflkbjaaGreatDoor.Na
namespace Go.Proofs.YtjlponbdflkbjaaGreatDoor.Na
open Go.Proofs.Tryz
open Go.IntKind
open Go.KRun Go.Nt
set_option maxRecDepth 100000
set_option linter.unusedVariables false
def o2 (x:Int):List Int:=[u32.wrap x,u32.wrap (x.fdiv (2^min (32:Int).toNat 64))]
theorem Z6k (x:Int):Zg (evC (Zr prog Zf Zn Z4m) 100 false (Zs f113) ([.int .u64 x]++List.replicate 9 undef,⟨0,[]⟩,[]) ⟨[],[],[]⟩) 3 7 (some none) [.int .u64 x,.tuple #[],sl 0 0 (Zl (Zx (wU (o2 x)) 0 2)) 2] ⟨1,[(wU (o2 x),tU)]⟩ [(Z6 tU (wU (o2 x)) 0 2 2,true),(decide ((32:Int)<0),false)]:=by and_intros<;>kernel_rfl
theorem Z6l {x:Int}(h0:0≤x) (h1:x<18446744073709551616):o2 x=dg 2 x:=by
 have e:(2:Int)^min (32:Int).toNat 64=4294967296:=rfl;unfold o2;rw[e,Int.fdiv_eq_ediv_of_nonneg _ (by omega)];simp only[dg];have w:∀ z:Int,u32.wrap z=z % 4294967296:=fun z=>by simp [IntKind.wrap,IntKind.bits,IntKind.signed]
 rw[w,w]
def Z6m:Zac:=fun vals h s=>
 match vals with
 | [.int .u64 x]=>some (sl h.n 0 (Zl (dg 2 x)) 2,h.push (wU (dg 2 x)) tU,s,[(decide (0≤x∧x<18446744073709551616),true)])
 | _=>none
theorem ZvR:Z8 113 Z6m:=by
 intro vals h s v h' s' lg hg hl m B w E hv;have hr0:(⟨0,[]⟩:Hp).rows:=⟨rfl,fun b x hx=>by have:b<0:=Hp.blk_lt hx;omega⟩;unfold Z6m at hg;split at hg
 ·rename_i x;cases hg;have q:=Xc (hl _ Xf);have hg:=Z6k x;have hl2:=ZR 2 x;have ec:Zx (wU (dg 2 x)) 0 2=dg 2 x:=by
   have:=ZaO (dg 2 x);rw[hl2] at this;exact this
  rw[Z6l q.1 q.2,ec] at hg;have hok:Z6 tU (wU (dg 2 x)) 0 2 2=true:=z3 (Za2 _ _) (by omega) (by omega) (zv (by omega));have r:RunsW (Zr prog Zf Zn Z4m) (Zs f113) ([.int .u64 x]++List.replicate 9 undef,⟨0,[]⟩,[]) fun e z=>(e=none∨e=some none)∧ZV prog f113 z.1 z.2.1=some (sl 0 0 (Zl (dg 2 x)) 2)∧∃ r,z.2.1.blk? 0=some (wU (dg 2 x)++r,tU):=by
   refine (Ze (Zh Zd Zvf) hg (Za hok (Z4 (by decide)))).mono fun e z he=> ?_;obtain⟨rfl,⟨g,e1⟩,e2⟩:=he;exact⟨.inr rfl,by rw[e1,e2];rfl,[],by rw[e2,List.append_nil];rfl⟩
  exact ZE (T:=Zr prog Zf Zn Z4m) func113 Zvg hr0 (vals:=[.int .u64 x]) (fun v hv=>by rw[List.mem_singleton.1 hv];rfl) (k:=0) (cs:=wU (dg 2 x)) (ty:=tU) (Zbb _) (by kernel_rfl) r (by simp [oc,oc2,oc1,sl]) E (s:=fun i=>i) (fun i x hx _=>by have:i<0:=Hp.blk_lt hx;omega)
 ·cases hg
def hcQ:Hc:=zP 113 Z6m (zP 115 Z4q hcN)
theorem ZaE:HcOk hcQ:=Zz func113 rfl ZvR (Zz func115 rfl ZmO Zag)
end Go.Proofs.YtjlponbdflkbjaaGreatDoor.Na
namespace Go.Proofs.YtjlponbdflkbjaaGreatDoor
open Go.Proofs.Tryz
open Go.KRun Go.Nt
set_option maxRecDepth 100000
set_option linter.unusedVariables false
theorem ZvS {x:Bool×Bool}{l:Log}(h:Z2 (x::l)):x.1=x.2∧Z2 l:=⟨h _ Xe,fun y hy=>h y (Xd _ hy)⟩
def ZvT:Zac:=fun vals h s=>
 match vals,s with
 | [.slice p n c,.int .u32 b,.int .u32 e],.inr (.inr (.inr (.inl d)))::s'=>
  match d,s' with
  | true,.inr (.inl V)::s2=>Zdf V.toNat h s2 [(decide (vO h p n*b.toNat+e.toNat=V.toNat),true),(ZaU h p n c b e,true),(decide (0<n∨0<e),true)]
  | false,_=>some (Zp,h,s',[(ZaU h p n c b e,true),(decide (0<n∨0<e),false)])
  | _,_=>none
 | _,_=>none
theorem ZqH:Z8 93 ZvT:=by
 intro vals h s v h' s' lg hg hl;unfold ZvT at hg;split at hg
 ·rename_i p n c b e d s2;split at hg
  ·rename_i V s3;unfold Zdf at hg;cases hg;obtain⟨l1,l2⟩:=ZvS hl;have l1:=Xc l1;refine Zh4 _ h [cmp true] _ _ [] _ ?_ l2;simp only[Z4o,Zdf,l1]
  ·cases hg;exact Zh4 _ h [cmp false] _ _ [] _ rfl hl
  ·cases hg
 ·cases hg
def Zd1:Hc:=zP 93 ZvT hcN
theorem ZmY:HcOk Zd1:=Zz func93 rfl ZqH Zag
end Go.Proofs.YtjlponbdflkbjaaGreatDoor
namespace Go.Proofs.YtjlponbdflkbjaaGreatDoor
open Go.KRun Go.Nt
set_option maxRecDepth 100000
theorem Zeo {A k:Nat}(h:A<2^(16*k)):(d16 A).length≤k:=ZaZ (by omega) k A (by rw[Zf5];exact h)
theorem ZaF {h:Hp}{b A:Nat}{ty:TypeId}(hb:h.blk? b=some (wU (d16 A),ty)):Zq h (some ⟨b,0,none⟩) (d16 A).length=d16 A:=by
 simp only[Zq,hb];exact ZaO _
theorem z4 {h:Hp}{b A:Nat}{ty:TypeId}(hb:h.blk? b=some (wU (d16 A),ty)):vO h (some ⟨b,0,none⟩) (d16 A).length=A:=by
 unfold vO;rw[ZaF hb];exact ZbC (by omega) A
theorem ZgA (h:Hp):vO h none 0=0:=rfl
theorem ZN {h:Hp}{b A:Nat}(hb:h.blk? b=some (wU (d16 A),tU)) (hl:(d16 A).length<1073741824):zS h (some ⟨b,0,none⟩) (d16 A).length (d16 A).length=true:=by
 simp only[zS,hb,Xh];refine⟨Zap (fun x hx=>⟨(Zbd A x hx).1,by have:=(Zbd A x hx).2;omega⟩) (by omega) ?_,List.all_eq_true.2 (ZD _)⟩;unfold Zda;simp only[Bool.or_eq_true,Xh];exact .inl ⟨Zo.2 (by unfold ZZ;omega),Nat.ble_eq_true_of_le (Nat.le_refl _)⟩
theorem zY {h:Hp}{b A:Nat}{ty:TypeId}(hb:h.blk? b=some (wU (d16 A),ty)):dgB (Zq h (some ⟨b,0,none⟩) (d16 A).length)=true:=by
 rw[ZaF hb];exact ZbG (Zbd A)
theorem ZfG {h:Hp}{b b' A A':Nat}(hb:h.blk? b=some (wU (d16 A),tU)) (hb':h.blk? b'=some (wU (d16 A'),tU)) (hl:(d16 A).length<1073741800) (hl':(d16 A').length<1073741800):ZS h (some ⟨b,0,none⟩) (some ⟨b',0,none⟩) (d16 A).length (d16 A).length (d16 A').length (d16 A').length=true:=by
 unfold ZS;rw[ZN hb (by omega),ZN hb' (by omega),zY hb,zY hb'];simp only[Bool.true_and];exact Zo.2 (by omega)
theorem ZvU {h:Hp}{b A:Nat}(hb:h.blk? b=some (wU (d16 A),tU)) (hl:(d16 A).length<1073741800):ZS h none (some ⟨b,0,none⟩) 0 0 (d16 A).length (d16 A).length=true:=by
 unfold ZS;rw[ZN hb (by omega),zY hb];simp only[Bool.and_true];exact Bool.and_eq_true_iff.2 ⟨rfl,Zo.2 (by omega)⟩
theorem ZmZ {A:Nat}(h:0<(d16 A).length):A≠0:=by
 rintro rfl;unfold d16 at h;rw[zt] at h;simp at h
end Go.Proofs.YtjlponbdflkbjaaGreatDoor
namespace Go.Proofs.YtjlponbdflkbjaaGreatDoor
open Go.Proofs.Tryz
open Go.IntKind
open Go.KRun Go.Nt
set_option maxRecDepth 100000
set_option linter.unusedVariables false
def pwP (F:Func):List Code:=[Z3 (Zs F),Z3 (Z0 (Zs F))]
def pwI (F:Func):Code:=Z3 (Z3 (Z0 (Z0 (Zs F))))
def pwL (F:Func):Code:=cIn (cIn (Z0 (Z3 (Z0 (Z0 (Zs F))))))
def pwE (F:Func):Code:=Z0 (Z0 (Z0 (Zs F)))
theorem Zna:f53.body=some (za (pwP f53) (.seq (.seq (pwI f53) (.block 0 (.loop (pwL f53)))) (pwE f53))):=by kernel_rfl
def wq (V:Nat):List Value×TypeId:=(wU (d16 V),tU)
def sq0 (V:Nat):Value:=sl 0 0 (d16 V).length (d16 V).length
def pwF (b n:Int) (out:Value) (i:Int):List Value:=[.int .u32 b,.int .i64 n,.tuple #[],.tuple #[],Zp,out,.int .i64 i]
theorem Z1o (b n:Int):Zg (evL (Zr prog Zf Zn Zd1) 100 (pwP f53) ([.int .u32 b,.int .i64 n]++List.replicate 15 undef,⟨0,[]⟩,[]) ⟨[],[],[]⟩) 6 11 none [.int .u32 b,.int .i64 n,.tuple #[],.tuple #[],Zp,sq0 1] ⟨1,[wq 1]⟩ []:=by and_intros<;>kernel_rfl
theorem Z9q (v0 v1 v2 v3 v4 v5:Value) (g:Nat→Value) (h:Hp):Zg (evC (Zr prog Zf Zn Zd1) 100 false (pwI f53) ([v0,v1,v2,v3,v4,v5]++tl 11 g,h,[]) ⟨[],[],[]⟩) 7 10 none [v0,v1,v2,v3,v4,v5,.int .i64 0] h []:=by and_intros<;>kernel_rfl
def pA (V:Nat):Hp:=⟨1,[wq V]⟩
theorem Z6n (b n i:Int) (V W:Nat) (g:Nat→Value):Zg (evC (Zr prog Zf Zn Zd1) 100 false (pwL f53) (pwF b n (sq0 V) i++tl 10 g,pA V,[cmp true,cmp true,num W]) ⟨[],[],[]⟩) 7 10 none (pwF b n (sl 1 0 (d16 W).length (d16 W).length) (i64.wrap (i+1))) ⟨2,[wq W,wq V]⟩ [(decide (vO (pA V) (some ⟨0,0,none⟩) (d16 V).length*b.toNat+(0:Int).toNat=W),true),(ZaU (pA V) (some ⟨0,0,none⟩) (d16 V).length (d16 V).length b 0,true),(decide (0<(d16 V).length∨0<(0:Int)),true),(decide (i<n),true)]:=by and_intros<;>kernel_rfl
theorem Z6o (b n i:Int) (V:Nat) (g:Nat→Value):Zg (evC (Zr prog Zf Zn Zd1) 100 false (pwL f53) (pwF b n (sq0 V) i++tl 10 g,pA V,[cmp true,cmp false]) ⟨[],[],[]⟩) 7 10 none (pwF b n Zp (i64.wrap (i+1))) (pA V) [(ZaU (pA V) (some ⟨0,0,none⟩) (d16 V).length (d16 V).length b 0,true),(decide (0<(d16 V).length∨0<(0:Int)),false),(decide (i<n),true)]:=by and_intros<;>kernel_rfl
theorem Z6p (b n i:Int) (V:Nat) (g:Nat→Value):Zg (evC (Zr prog Zf Zn Zd1) 100 false (pwL f53) (pwF b n Zp i++tl 10 g,pA V,[cmp true,cmp false]) ⟨[],[],[]⟩) 7 10 none (pwF b n Zp (i64.wrap (i+1))) (pA V) [(ZaU (pA V) none 0 0 b 0,true),(decide (0<0∨0<(0:Int)),false),(decide (i<n),true)]:=by and_intros<;>kernel_rfl
theorem Z89 (b n i:Int) (v:Value) (h:Hp) (g:Nat→Value):Zg (evC (Zr prog Zf Zn Zd1) 100 false (pwL f53) (pwF b n v i++tl 10 g,h,[cmp false]) ⟨[],[],[]⟩) 7 10 (some (some 0)) (pwF b n v i) h [(decide (i<n),false)]:=by and_intros<;>kernel_rfl
theorem Z8A (b n i:Int) (v:Value) (h:Hp) (g:Nat→Value):Zg (evC (Zr prog Zf Zn Zd1) 100 false (pwE f53) (pwF b n v i++tl 10 g,h,[]) ⟨[],[],[]⟩) 5 12 (some none) [.int .u32 b,.int .i64 n,.tuple #[],.tuple #[],v] h []:=by and_intros<;>kernel_rfl
def pwS (b n i:Nat) (y:Lf):Prop:=(¬ (b=0∧2≤i)∧∃ g,y.1=pwF b n (sq0 (b^i)) i++tl 10 g∧y.2.1=pA (b^i))∨((b=0∧2≤i)∧∃ g V,y.1=pwF b n Zp i++tl 10 g∧y.2.1=pA V)
theorem ZfH:TabOk (Zr prog Zf Zn Zd1):=Zh Zd ZmY
theorem Z1p {b i k:Nat}(hb:b<4294967296) (hi:2*i<k):b^i<2^(16*k):=by
 have h1:b^i≤(2^32)^i:=Nat.pow_le_pow_left (by have:(2:Nat)^32=4294967296:=rfl;omega) i;rw[← Nat.pow_mul] at h1;exact Nat.lt_of_le_of_lt h1 (Nat.pow_lt_pow_right (by omega) (by omega))
theorem Z1q (b n:Int) {s:Value}(i:Int) (hs:lt 1 s=true):∀ v∈pwF b n s i,lt 1 v=true:=by
 intro v hv;unfold pwF at hv;simp only[List.mem_cons,List.not_mem_nil,or_false] at hv;rcases hv with rfl | rfl | rfl | rfl | rfl | rfl | rfl<;>first | rfl | exact hs
theorem ZqI {b n i:Nat}(hb:b<4294967296) (hn:n≤20000) (hi:i<n) {y:Lf}(h:pwS b n i y):RunsW (Zr prog Zf Zn Zd1) (pwL f53) y fun e z=>e=none∧pwS b n (i+1) z:=by
 obtain⟨t,h',s⟩:=y;have ei:i64.wrap ((i:Int)+1)=((i+1:Nat):Int):=by rw[Zv (by omega) (by omega)];omega
 have hlt:decide ((i:Int)<(n:Int))=true:=Xa (by omega);rcases h with ⟨hA,g,ht,hh⟩ | ⟨hB,g,V,ht,hh⟩
 ·simp only at ht hh;subst ht hh;have lV:=Zeo (Z1p (b:=b) (i:=i) (k:=2*i+1) hb (by omega));have hk:ZaU (pA (b^i)) (some ⟨0,0,none⟩) (d16 (b^i)).length (d16 (b^i)).length (b:Int) 0=true:=by
   unfold ZaU;rw[ZN (h:=pA (b^i)) (b:=0) (A:=b^i) rfl (by omega),zY (h:=pA (b^i)) (b:=0) (A:=b^i) (ty:=tU) rfl,Zo.2 (by omega),Xa ⟨⟨by omega,by omega⟩,by omega,by omega⟩];rfl
  by_cases hz:b^i=0
  ·have h1:¬ 0<(d16 (b^i)).length:=by rw[hz,show d16 0=[] from zt 65536];decide
   have hg:=Z6o b n i (b^i) g;rw[ei] at hg;refine (Ze (s0:=s) ZfH hg (Za hk (Za (Xb (by omega)) (Z4 hlt)))).mono fun e z hz'=> ?_;obtain⟨rfl,⟨g',e1⟩,e2⟩:=hz';have b0:b=0:=by
    rcases Nat.eq_zero_or_pos b with h0 | h0
    ·exact h0
    ·have:=Nat.pow_pos (n:=i) h0;omega
   have i1:1≤i:=by
    rcases Nat.eq_zero_or_pos i with h0 | h0
    ·subst h0;rw[Nat.pow_zero] at hz;omega
    ·exact h0
   exact⟨rfl,.inr ⟨⟨b0,by omega⟩,g',_,e1,e2⟩⟩
  ·have h1:0<(d16 (b^i)).length:=by
    unfold d16;rw[List.length_pos_iff,ne_eq,Zc2 (by omega)];exact hz
   have hg:=Z6n b n i (b^i) (b^(i+1)) g;rw[ei] at hg;have:=(Ze (s0:=s) ZfH hg (Za (Xa (by rw[z4 (h:=pA (b^i)) (b:=0) (A:=b^i) (ty:=tU) rfl,Nat.pow_succ];rfl)) (Za hk (Za (Xa (.inl h1)) (Z4 hlt))))).kept (k:=0) (b:=1) (base:=[]) (y:=wq (b^(i+1))) (front':=pwF b n (sq0 (b^(i+1))) ((i+1:Nat):Int)) rfl (by kernel_rfl) (fun j x hx=>by have:j<0:=Hp.blk_lt hx;omega) rfl (by omega) (ZD _) (Z1q _ _ _ rfl);refine this.mono fun e z hz'=> ?_;obtain⟨rfl,⟨g',e1⟩,e2⟩:=hz';refine⟨rfl,.inl ⟨fun hc=> ?_,g',e1,e2⟩⟩;obtain⟨b0,i2⟩:=hc;apply hz;rw[b0,Nat.zero_pow (by omega)]
 ·simp only at ht hh;subst ht hh;have hk:ZaU (pA V) none 0 0 (b:Int) 0=true:=by
   unfold ZaU;rw[show zS (pA V) none 0 0=true from rfl,show dgB (Zq (pA V) none 0)=true from rfl,Zo.2 (by omega),Xa ⟨⟨by omega,by omega⟩,by omega,by omega⟩];rfl
  have hg:=Z6p b n i V g;rw[ei] at hg;refine (Ze (s0:=s) ZfH hg (Za hk (Za (by decide) (Z4 hlt)))).mono fun e z hz'=> ?_;obtain⟨rfl,⟨g',e1⟩,e2⟩:=hz';exact⟨rfl,.inr ⟨⟨hB.1,by omega⟩,g',V,e1,e2⟩⟩
theorem Znb {b n:Nat}(hb:b<4294967296) (hn:n≤20000):RunsW (Zr prog Zf Zn Zd1) (za (pwP f53) (.seq (.seq (pwI f53) (.block 0 (.loop (pwL f53)))) (pwE f53))) ([.int .u32 (b:Int),.int .i64 (n:Int)]++List.replicate 15 undef,⟨0,[]⟩,[]) fun e z=>(e=none∨e=some none)∧((¬ (b=0∧2≤n)∧ZV prog f53 z.1 z.2.1=some (sq0 (b^n))∧∃ r,z.2.1.blk? 0=some (wU (d16 (b^n))++r,tU))∨((b=0∧2≤n)∧ZV prog f53 z.1 z.2.1=some Zp)):=by
 refine Z1 ZfH (Z1o b n) (fun x hx=>by cases hx) fun g=> ?_;refine RunsW.seq (P1:=fun e y=>e=none∧pwS b n n y) ?_ ?_ (fun e y hy=>by cases hy.1)
 ·refine RunsW.seq (Ze ZfH (Z9q _ _ _ _ _ _ g _) (fun x hx=>by cases hx)) ?_ (fun e y hy=>by cases hy.1);rintro⟨t,h',s⟩ ⟨_,⟨g',ht⟩,hh⟩;simp only at ht hh;subst ht hh;have lp:=RunsW.forLoop (T:=Zr prog Zf Zn Zd1) (c:=pwL f53) (id:=0) (P:=pwS b n n) (R:=fun _=>False) (fun k y=>∃ i,k=n-i∧i≤n∧pwS b n i y) (x:=(pwF b n (sq0 1) 0++tl 10 g',pA 1,s)) ?_ (n:=n) ⟨0,by omega,by omega,.inl ⟨by omega,g',by rw[Nat.pow_zero];rfl,by rw[Nat.pow_zero]⟩⟩
  ·refine lp.mono fun e z hz=> ?_
   match e,hz with
   | none,hz=>exact⟨rfl,hz⟩
   | some none,hz=>exact hz.elim
   | some (some _),hz=>exact hz.elim
  ·rintro k y ⟨i,hk,hi,hy⟩;by_cases hlt:i<n
   ·refine (ZqI hb hn hlt hy).mono fun e z hz=> ?_;obtain⟨rfl,hz⟩:=hz;exact⟨n-(i+1),by omega,i+1,rfl,by omega,hz⟩
   ·have e:i=n:=by omega
    subst e;obtain⟨t,h',s⟩:=y;rcases hy with ⟨hA,g,ht,hh⟩ | ⟨hB,g,V,ht,hh⟩
    ·simp only at ht hh;subst ht hh;refine (Ze ZfH (Z89 b i i _ _ g) (Z4 (Xb (by omega)))).mono fun e z hz=> ?_;obtain⟨rfl,⟨g',e1⟩,e2⟩:=hz;exact⟨rfl,.inl ⟨hA,g',e1,e2⟩⟩
    ·simp only at ht hh;subst ht hh;refine (Ze ZfH (Z89 b i i _ _ g) (Z4 (Xb (by omega)))).mono fun e z hz=> ?_;obtain⟨rfl,⟨g',e1⟩,e2⟩:=hz;exact⟨rfl,.inr ⟨hB,g',V,e1,e2⟩⟩
 ·rintro⟨t,h',s⟩ ⟨_,hy⟩;rcases hy with ⟨hA,g,ht,hh⟩ | ⟨hB,g,V,ht,hh⟩
  ·simp only at ht hh;subst ht hh;refine (Ze ZfH (Z8A b n n _ _ g) (fun x hx=>by cases hx)).mono fun e z hz=> ?_;obtain⟨rfl,⟨g',e1⟩,e2⟩:=hz;exact⟨.inr rfl,.inl ⟨hA,by rw[e1,e2];rfl,[],by rw[e2,List.append_nil];rfl⟩⟩
  ·simp only at ht hh;subst ht hh;refine (Ze ZfH (Z8A b n n _ _ g) (fun x hx=>by cases hx)).mono fun e z hz=> ?_;obtain⟨rfl,⟨g',e1⟩,e2⟩:=hz;exact⟨.inr rfl,.inr ⟨hB,by rw[e1,e2];rfl⟩⟩
def ZyX (b n:Int):Bool:=decide (0≤b∧b<4294967296∧0≤n∧n≤20000)
def ZvV:Zac:=fun vals h s=>
 match vals,s with
 | [.int .u32 b,.int .i64 n],.inr (.inr (.inr (.inl d)))::s'=>
  match d,s' with
  | true,.inr (.inl V)::s2=>Zdf V.toNat h s2 [(decide (b.toNat^n.toNat=V.toNat),true),(ZyX b n,true),(decide (b=0∧2≤n),false)]
  | false,_=>some (Zp,h,s',[(ZyX b n,true),(decide (b=0∧2≤n),true)])
  | _,_=>none
 | _,_=>none
theorem ZqJ:Z8 53 ZvV:=by
 intro vals h s v h' s' lg hg hl m B w E hv;have hr0:(⟨0,[]⟩:Hp).rows:=⟨rfl,fun b x hx=>by have:b<0:=Hp.blk_lt hx;omega⟩;unfold ZvV at hg;split at hg
 ·rename_i b n d s2;split at hg
  ·rename_i V s3;unfold Zdf at hg;cases hg;have l1:=Xc (hl _ Xe);have l2:=Xc (hl _ (Xd _ Xe));have l3:=hl _ (Xd _ (Xd _ Xf));have l3:=of_decide_eq_false l3;obtain⟨b',rfl⟩:=Int.eq_ofNat_of_zero_le l2.1;obtain⟨n',rfl⟩:=Int.eq_ofNat_of_zero_le l2.2.2.1;rw[Xg,Xg] at l1;rw[← l1];have r:=(Znb (b:=b') (n:=n') (by omega) (by omega)).mono (P':=fun e z=>(e=none∨e=some none)∧ZV prog f53 z.1 z.2.1=some (sq0 (b'^n'))∧∃ r,z.2.1.blk? 0=some (wU (d16 (b'^n'))++r,tU)) fun e z hz=>⟨hz.1,by
    rcases hz.2 with ⟨_,q⟩ | ⟨q,_⟩
    ·exact q
    ·exact absurd q (by omega)⟩
   have:=ZE (T:=Zr prog Zf Zn Zd1) func53 Zna hr0 (vals:=[.int .u32 (b':Int),.int .i64 (n':Int)]) (fun v hv=>by
    simp only[List.mem_cons,List.not_mem_nil,or_false] at hv;rcases hv with rfl | rfl<;>rfl) (k:=0) (cs:=wU (d16 (b'^n'))) (ty:=tU) (Zbb _) (by kernel_rfl) r (by simp [oc,oc2,oc1,sq0,sl]) E (s:=fun i=>i) (fun i x hx _=>by have:i<0:=Hp.blk_lt hx;omega)
   exact this
  ·cases hg;have l2:=Xc (hl _ Xe);have l3:=Xc (hl _ (Xd _ Xf));obtain⟨b',rfl⟩:=Int.eq_ofNat_of_zero_le l2.1;obtain⟨n',rfl⟩:=Int.eq_ofNat_of_zero_le l2.2.2.1;have r:=(Znb (b:=b') (n:=n') (by omega) (by omega)).mono (P':=fun e z=>(e=none∨e=some none)∧ZV prog f53 z.1 z.2.1=some Zp) fun e z hz=>⟨hz.1,by
    rcases hz.2 with ⟨q,_⟩ | ⟨_,q⟩
    ·exact absurd (show b'=0∧2≤n' by omega) q
    ·exact q⟩
   have:=ZB (T:=Zr prog Zf Zn Zd1) func53 Zna hr0 (vals:=[.int .u32 (b':Int),.int .i64 (n':Int)]) (fun v hv=>by
    simp only[List.mem_cons,List.not_mem_nil,or_false] at hv;rcases hv with rfl | rfl<;>rfl) (v:=Zp) (by rfl) r E (s:=fun i=>i) (fun i x hx _=>by have:i<0:=Hp.blk_lt hx;omega)
   exact this
  ·cases hg
 ·cases hg
end Go.Proofs.YtjlponbdflkbjaaGreatDoor
namespace Go.Proofs.YtjlponbdflkbjaaGreatDoor.Na
open Go.Proofs.Tryz
open Go.IntKind
open Go.KRun Go.Nt
set_option maxRecDepth 100000
set_option linter.unusedVariables false
def qsn (k:Nat) (F:Func):Code:=match k with | 0=>Zs F | k+1=>Z0 (qsn k F)
def qP (F:Func):List Code:=[Z3 (qsn 0 F),Z3 (qsn 1 F),Z3 (qsn 2 F),Z3 (qsn 3 F)]
def qI (F:Func):Code:=Z3 (Z3 (qsn 4 F))
def qL (F:Func):Code:=cIn (cIn (Z0 (Z3 (qsn 4 F))))
def qE (F:Func):Code:=qsn 5 F
theorem Znc:f76.body=some (za (qP f76) (.seq (.seq (qI f76) (.block 0 (.loop (qL f76)))) (qE f76))):=by kernel_rfl
theorem ZqK:f76.body=some (Zs f76):=by kernel_rfl
def w32 (m:Nat) (V:Nat):List Value×TypeId:=(wU (dg m (V:Int)),tU)
def s32 (k m V:Nat):Value:=sl k 0 (Zl (dg m (V:Int))) m
def qF (b n:Int) (P O:Value) (i:Int):List Value:=[.int .u32 b,.int .i64 n,.tuple #[],.tuple #[],Zp,.nilIface,P,O,.nilIface,.int .i64 i]
def Q2 (b:Nat):Hp:=⟨2,[w32 2 b,w32 2 1]⟩
def Q3 (b m V:Nat):Hp:=⟨3,[w32 m V,w32 2 b,w32 2 1]⟩
def Q4 (b m V M S:Nat):Hp:=⟨4,[w32 M S,w32 m V,w32 2 b,w32 2 1]⟩
def ZiI (n i:Int):Int:=i64.wrap ((BitVec.ofInt 64 (n.fdiv (2^min i.toNat 64)) &&& BitVec.ofInt 64 1).toNat:Nat)
def q0F (b n:Int) (O:Value):List Value:=[.int .u32 b,.int .i64 n,.tuple #[],.tuple #[],Zp,.nilIface,s32 0 2 1,O,.nilIface]
theorem Z1r (b:Nat) (n:Int):Zg (evL (Zr prog Zf ZaL hcQ) 100 (qP f76) ([.int .u32 (b:Int),.int .i64 n]++List.replicate 54 undef,⟨0,[]⟩,[cmp false,cmp false]) ⟨[],[],[]⟩) 9 47 none (q0F b n (sl 1 0 (Zl (dg 2 (u64.wrap (b:Int)))) 2)) ⟨2,[(wU (dg 2 (u64.wrap (b:Int))),tU),w32 2 1]⟩ [(decide (0≤u64.wrap (b:Int)∧u64.wrap (b:Int)<18446744073709551616),true),(decide (0≤(1:Int)∧(1:Int)<18446744073709551616),true),(decide (n>1000000),false),(decide (n<0),false)]:=by and_intros<;>kernel_rfl
theorem Z9r (b:Nat) (n:Int) (O:Value) (g:Nat→Value) (h:Hp):Zg (evC (Zr prog Zf ZaL hcQ) 100 false (qI f76) (q0F b n O++tl 47 g,h,[]) ⟨[],[],[]⟩) 10 46 none (qF b n (s32 0 2 1) O (i64.wrap (((bitLen (u64.wrap n).toNat:Nat):Int)-1))) h [(decide (0≤u64.wrap n∧u64.wrap n<65536),true)]:=by and_intros<;>kernel_rfl
theorem ZvW (b n:Int):Zg (evC (Zr prog Zf ZaL hcQ) 100 false (Zs f76) ([.int .u32 b,.int .i64 n]++List.replicate 54 undef,⟨0,[]⟩,[cmp true]) ⟨[],[],[]⟩) 6 50 (some none) [.int .u32 b,.int .i64 n,.tuple #[],undef,Zp,Zcx 1] ⟨0,[]⟩ [(decide (n<0),true)]:=by and_intros<;>kernel_rfl
theorem ZvX (b n:Int):Zg (evC (Zr prog Zf ZaL hcQ) 100 false (Zs f76) ([.int .u32 b,.int .i64 n]++List.replicate 54 undef,⟨0,[]⟩,[cmp false,cmp true]) ⟨[],[],[]⟩) 6 50 (some none) [.int .u32 b,.int .i64 n,.tuple #[],undef,Zp,Zcx 1] ⟨0,[]⟩ [(decide (n>1000000),true),(decide (n<0),false)]:=by and_intros<;>kernel_rfl
theorem Z6q (n i:Int) (b m V S:Nat) (g:Nat→Value):Zg (evC (Zr prog Zf ZaL hcQ) 100 false (qL f76) (qF b n (s32 2 m V) (s32 1 2 b) i++tl 46 g,Q3 b m V,[cmp true,cmp false,num S,cmp false]) ⟨[],[],[]⟩) 10 46 none (qF b n (s32 3 (Zl (dg m (V:Int))+Zl (dg m (V:Int))) S) (s32 1 2 b) (i64.wrap (i-1))) (Q4 b m V (Zl (dg m (V:Int))+Zl (dg m (V:Int))) S) [(ZiI n i==1,false),(decide (i<0),false),(decide (Zhz (Zq (Q3 b m V) (some ⟨2,0,none⟩) (Zl (dg m (V:Int)))) (Zq (Q3 b m V) (some ⟨2,0,none⟩) (Zl (dg m (V:Int))))=dg (Zl (dg m (V:Int))+Zl (dg m (V:Int))) (S:Int)),true),(Zal (Q3 b m V) (some ⟨2,0,none⟩) (Zl (dg m (V:Int))) (m),true),(Zal (Q3 b m V) (some ⟨2,0,none⟩) (Zl (dg m (V:Int))) (m),true),(!decide (Zl (dg m (V:Int))=0∨Zl (dg m (V:Int))=0) && Nat.ble (Zl (dg m (V:Int))+Zl (dg m (V:Int))) 8192,true),(decide (i≥0),true)]:=by and_intros<;>kernel_rfl
theorem Z6r (n i:Int) (b m V S W:Nat) (g:Nat→Value):Zg (evC (Zr prog Zf ZaL hcQ) 100 false (qL f76) (qF b n (s32 2 m V) (s32 1 2 b) i++tl 46 g,Q3 b m V,[cmp true,cmp false,num S,cmp true,cmp false,num W]) ⟨[],[],[]⟩) 10 46 none (qF b n (s32 4 (Zl (dg (Zl (dg m (V:Int))+Zl (dg m (V:Int))) (S:Int))+Zl (dg 2 (b:Int))) W) (s32 1 2 b) (i64.wrap (i-1))) ⟨5,[w32 (Zl (dg (Zl (dg m (V:Int))+Zl (dg m (V:Int))) (S:Int))+Zl (dg 2 (b:Int))) W,w32 (Zl (dg m (V:Int))+Zl (dg m (V:Int))) S,w32 m V,w32 2 b,w32 2 1]⟩ [(decide (Zhz (Zq (Q4 b m V (Zl (dg m (V:Int))+Zl (dg m (V:Int))) S) (some ⟨3,0,none⟩) (Zl (dg (Zl (dg m (V:Int))+Zl (dg m (V:Int))) (S:Int)))) (Zq (Q4 b m V (Zl (dg m (V:Int))+Zl (dg m (V:Int))) S) (some ⟨1,0,none⟩) (Zl (dg 2 (b:Int))))=dg (Zl (dg (Zl (dg m (V:Int))+Zl (dg m (V:Int))) (S:Int))+Zl (dg 2 (b:Int))) (W:Int)),true),(Zal (Q4 b m V (Zl (dg m (V:Int))+Zl (dg m (V:Int))) S) (some ⟨3,0,none⟩) (Zl (dg (Zl (dg m (V:Int))+Zl (dg m (V:Int))) (S:Int))) (Zl (dg m (V:Int))+Zl (dg m (V:Int))),true),(Zal (Q4 b m V (Zl (dg m (V:Int))+Zl (dg m (V:Int))) S) (some ⟨1,0,none⟩) (Zl (dg 2 (b:Int))) (2),true),(!decide (Zl (dg (Zl (dg m (V:Int))+Zl (dg m (V:Int))) (S:Int))=0∨Zl (dg 2 (b:Int))=0) && Nat.ble (Zl (dg (Zl (dg m (V:Int))+Zl (dg m (V:Int))) (S:Int))+Zl (dg 2 (b:Int))) 8192,true),(ZiI n i==1,true),(decide (i<0),false),(decide (Zhz (Zq (Q3 b m V) (some ⟨2,0,none⟩) (Zl (dg m (V:Int)))) (Zq (Q3 b m V) (some ⟨2,0,none⟩) (Zl (dg m (V:Int))))=dg (Zl (dg m (V:Int))+Zl (dg m (V:Int))) (S:Int)),true),(Zal (Q3 b m V) (some ⟨2,0,none⟩) (Zl (dg m (V:Int))) (m),true),(Zal (Q3 b m V) (some ⟨2,0,none⟩) (Zl (dg m (V:Int))) (m),true),(!decide (Zl (dg m (V:Int))=0∨Zl (dg m (V:Int))=0) && Nat.ble (Zl (dg m (V:Int))+Zl (dg m (V:Int))) 8192,true),(decide (i≥0),true)]:=by and_intros<;>kernel_rfl
theorem Z6s (n i:Int) (b S W:Nat) (g:Nat→Value):Zg (evC (Zr prog Zf ZaL hcQ) 100 false (qL f76) (qF b n (s32 0 2 1) (s32 1 2 b) i++tl 46 g,Q2 b,[cmp true,cmp false,num S,cmp true,cmp false,num W]) ⟨[],[],[]⟩) 10 46 none (qF b n (s32 3 (Zl (dg (Zl (dg 2 ((1:Nat):Int))+Zl (dg 2 ((1:Nat):Int))) (S:Int))+Zl (dg 2 (b:Int))) W) (s32 1 2 b) (i64.wrap (i-1))) ⟨4,[w32 (Zl (dg (Zl (dg 2 ((1:Nat):Int))+Zl (dg 2 ((1:Nat):Int))) (S:Int))+Zl (dg 2 (b:Int))) W,w32 (Zl (dg 2 ((1:Nat):Int))+Zl (dg 2 ((1:Nat):Int))) S,w32 2 b,w32 2 1]⟩ [(decide (Zhz (Zq (Q3 b (Zl (dg 2 ((1:Nat):Int))+Zl (dg 2 ((1:Nat):Int))) S) (some ⟨2,0,none⟩) (Zl (dg (Zl (dg 2 ((1:Nat):Int))+Zl (dg 2 ((1:Nat):Int))) (S:Int)))) (Zq (Q3 b (Zl (dg 2 ((1:Nat):Int))+Zl (dg 2 ((1:Nat):Int))) S) (some ⟨1,0,none⟩) (Zl (dg 2 (b:Int))))=dg (Zl (dg (Zl (dg 2 ((1:Nat):Int))+Zl (dg 2 ((1:Nat):Int))) (S:Int))+Zl (dg 2 (b:Int))) (W:Int)),true),(Zal (Q3 b (Zl (dg 2 ((1:Nat):Int))+Zl (dg 2 ((1:Nat):Int))) S) (some ⟨2,0,none⟩) (Zl (dg (Zl (dg 2 ((1:Nat):Int))+Zl (dg 2 ((1:Nat):Int))) (S:Int))) (Zl (dg 2 ((1:Nat):Int))+Zl (dg 2 ((1:Nat):Int))),true),(Zal (Q3 b (Zl (dg 2 ((1:Nat):Int))+Zl (dg 2 ((1:Nat):Int))) S) (some ⟨1,0,none⟩) (Zl (dg 2 (b:Int))) (2),true),(!decide (Zl (dg (Zl (dg 2 ((1:Nat):Int))+Zl (dg 2 ((1:Nat):Int))) (S:Int))=0∨Zl (dg 2 (b:Int))=0) && Nat.ble (Zl (dg (Zl (dg 2 ((1:Nat):Int))+Zl (dg 2 ((1:Nat):Int))) (S:Int))+Zl (dg 2 (b:Int))) 8192,true),(ZiI n i==1,true),(decide (i<0),false),(decide (Zhz (Zq (Q2 b) (some ⟨0,0,none⟩) (Zl (dg 2 ((1:Nat):Int)))) (Zq (Q2 b) (some ⟨0,0,none⟩) (Zl (dg 2 ((1:Nat):Int))))=dg (Zl (dg 2 ((1:Nat):Int))+Zl (dg 2 ((1:Nat):Int))) (S:Int)),true),(Zal (Q2 b) (some ⟨0,0,none⟩) (Zl (dg 2 ((1:Nat):Int))) (2),true),(Zal (Q2 b) (some ⟨0,0,none⟩) (Zl (dg 2 ((1:Nat):Int))) (2),true),(!decide (Zl (dg 2 ((1:Nat):Int))=0∨Zl (dg 2 ((1:Nat):Int))=0) && Nat.ble (Zl (dg 2 ((1:Nat):Int))+Zl (dg 2 ((1:Nat):Int))) 8192,true),(decide (i≥0),true)]:=by and_intros<;>kernel_rfl
theorem Z6t (n i:Int) (b S:Nat) (g:Nat→Value):Zg (evC (Zr prog Zf ZaL hcQ) 100 false (qL f76) (qF b n (s32 0 2 1) (s32 1 2 b) i++tl 46 g,Q2 b,[cmp true,cmp false,num S,cmp true,cmp true]) ⟨[],[],[]⟩) 10 46 none (qF b n Zp (s32 1 2 b) (i64.wrap (i-1))) (Q3 b (Zl (dg 2 ((1:Nat):Int))+Zl (dg 2 ((1:Nat):Int))) S) [(decide (Zl (dg (Zl (dg 2 ((1:Nat):Int))+Zl (dg 2 ((1:Nat):Int))) (S:Int))=0∨Zl (dg 2 (b:Int))=0),true),(ZiI n i==1,true),(decide (i<0),false),(decide (Zhz (Zq (Q2 b) (some ⟨0,0,none⟩) (Zl (dg 2 ((1:Nat):Int)))) (Zq (Q2 b) (some ⟨0,0,none⟩) (Zl (dg 2 ((1:Nat):Int))))=dg (Zl (dg 2 ((1:Nat):Int))+Zl (dg 2 ((1:Nat):Int))) (S:Int)),true),(Zal (Q2 b) (some ⟨0,0,none⟩) (Zl (dg 2 ((1:Nat):Int))) (2),true),(Zal (Q2 b) (some ⟨0,0,none⟩) (Zl (dg 2 ((1:Nat):Int))) (2),true),(!decide (Zl (dg 2 ((1:Nat):Int))=0∨Zl (dg 2 ((1:Nat):Int))=0) && Nat.ble (Zl (dg 2 ((1:Nat):Int))+Zl (dg 2 ((1:Nat):Int))) 8192,true),(decide (i≥0),true)]:=by and_intros<;>kernel_rfl
theorem Z6u (n i:Int) (b m V:Nat) (g:Nat→Value):Zg (evC (Zr prog Zf ZaL hcQ) 100 false (qL f76) (qF b n Zp (s32 1 2 b) i++tl 46 g,Q3 b m V,[cmp true,cmp true,cmp false]) ⟨[],[],[]⟩) 10 46 none (qF b n Zp (s32 1 2 b) (i64.wrap (i-1))) (Q3 b m V) [(ZiI n i==1,false),(decide (i<0),false),(decide (0=0∨0=0),true),(decide (i≥0),true)]:=by and_intros<;>kernel_rfl
theorem Z6v (n i:Int) (b m V:Nat) (g:Nat→Value):Zg (evC (Zr prog Zf ZaL hcQ) 100 false (qL f76) (qF b n Zp (s32 1 2 b) i++tl 46 g,Q3 b m V,[cmp true,cmp true,cmp true,cmp true]) ⟨[],[],[]⟩) 10 46 none (qF b n Zp (s32 1 2 b) (i64.wrap (i-1))) (Q3 b m V) [(decide (0=0∨Zl (dg 2 (b:Int))=0),true),(ZiI n i==1,true),(decide (i<0),false),(decide (0=0∨0=0),true),(decide (i≥0),true)]:=by and_intros<;>kernel_rfl
theorem Z9s (n i:Int) (b:Nat) (P O:Value) (h:Hp) (g:Nat→Value):Zg (evC (Zr prog Zf ZaL hcQ) 100 false (qL f76) (qF b n P O i++tl 46 g,h,[cmp false]) ⟨[],[],[]⟩) 10 46 (some (some 0)) (qF b n P O i) h [(decide (i≥0),false)]:=by and_intros<;>kernel_rfl
theorem Z6w (n i:Int) (b:Nat) (P O:Value) (h:Hp) (g:Nat→Value):Zg (evC (Zr prog Zf ZaL hcQ) 100 false (qE f76) (qF b n P O i++tl 46 g,h,[]) ⟨[],[],[]⟩) 6 50 (some none) [.int .u32 (b:Int),.int .i64 n,.tuple #[],.tuple #[],P,.nilIface] h []:=by and_intros<;>kernel_rfl
def nw (V:Nat):Nat:=(d32 V).length
def pM (b j:Nat):Nat:=if j=0 then 2 else if j % 2=1 then nw (b^(j-1))+nw b else nw (b^(j/2))+nw (b^(j/2))
theorem ZiJ:TabOk (Zr prog Zf ZaL hcQ):=Zh Zqo ZaE
theorem Zkb {V k:Nat}(h:V<4294967296^k):nw V≤k:=ZaZ (by omega) k V h
theorem Znd (V:Nat):V<4294967296^nw V:=by
 have:=Zbl (b:=4294967296) (by omega) (d32 V) (Zfy (by omega) V);rw[show vb 4294967296 (d32 V)=V from ZbC (by omega) V] at this;exact this
theorem ZiK {V:Nat}(h:0<V):0<nw V:=(Zfa (by omega)).2 h
theorem ZvY:nw 0=0:=by unfold nw d32;rw[zt];rfl
theorem ZqL {m V:Nat}(h:V<4294967296^m) (hm:m≤1000):Zl (dg m (V:Int))=nw V:=
 (Zkz (H:=⟨1,[w32 m V]⟩) (b:=0) rfl h hm).2.2.2.1
theorem Z6x {b j:Nat}(hb:b<4294967296) (hj:1≤j):b^j<4294967296^j:=Nat.pow_lt_pow_left hb (by omega)
theorem Z1s {b j:Nat}(hb:b<4294967296):nw (b^j)≤j+1:=by
 by_cases h:1≤j
 ·have:=Zkb (Z6x hb h);omega
 ·have:j=0:=by omega
  subst this;rw[Nat.pow_zero];exact Zkb (by decide)
theorem ZvZ {n i:Nat}(hn:n<65536) (hi:i<64):ZiI (n:Int) (i:Int)=((n/2^i % 2:Nat):Int):=by
 have e:(n:Int).fdiv (2^min (i:Int).toNat 64)=((n/2^i:Nat):Int):=by
  rw[Xg,show min i 64=i by omega,Int.fdiv_eq_ediv_of_nonneg _ (Int.le_of_lt (Int.pow_pos (by omega)))];simp
 have hl:n/2^i≤n:=Nat.div_le_self _ _;unfold ZiI;rw[e,BitVec.toNat_and,show (BitVec.ofInt 64 1).toNat=1 from rfl,Nat.and_one_is_mod,BitVec.toNat_ofInt];have h2:((2^64:Nat):Int)=18446744073709551616:=rfl;rw[Zv (by omega) (by omega)];omega
theorem Zwa (b:Nat) {h:Hp}(h0:h.blk? 0=some (w32 2 1)) (h1:h.blk? 1=some (w32 2 b)):∀ i x,(⟨2,[w32 2 b,w32 2 1]⟩:Hp).blk? i=some x→h.blk? i=some x∧∀ v∈x.1,still v=true:=by
 intro i x hx;have hi:i<2:=Hp.blk_lt hx
 match i,hi,hx with
 | 0,_,hx=>
  have e:x=w32 2 1:=(Option.some.inj hx).symm;subst e;exact⟨h0,ZD _⟩
 | 1,_,hx=>
  have e:x=w32 2 b:=(Option.some.inj hx).symm;subst e;exact⟨h1,ZD _⟩
theorem Zwb (b n:Int) {P O:Value}(i:Int) (hP:lt 3 P=true) (hO:lt 3 O=true):∀ v∈qF b n P O i,lt 3 v=true:=by
 intro v hv;unfold qF at hv;simp only[List.mem_cons,List.not_mem_nil,or_false] at hv;rcases hv with rfl | rfl | rfl | rfl | rfl | rfl | rfl | rfl | rfl | rfl<;>first | rfl | exact hP | exact hO
def nS (b n k:Nat) (y:Lf):Prop:=∃ g,(n/2^k=0∧y.1=qF b n (s32 0 2 1) (s32 1 2 b) ((k:Int)-1)++tl 46 g∧y.2.1=Q2 b)∨
 (1≤n/2^k∧0<b∧y.1=qF b n (s32 2 (pM b (n/2^k)) (b^(n/2^k))) (s32 1 2 b) ((k:Int)-1)++tl 46 g∧y.2.1=Q3 b (pM b (n/2^k)) (b^(n/2^k)))∨
 (1≤n/2^k∧b=0∧∃ m V,y.1=qF b n Zp (s32 1 2 b) ((k:Int)-1)++tl 46 g∧y.2.1=Q3 b m V)
theorem ZqM {b n:Nat}(hb:b<4294967296) (hn:n≤300):∀ j,j≤n→nw (b^j)≤400:=fun j hj=>by
 have:=Z1s (b:=b) (j:=j) hb;omega
theorem Ztj {n:Nat}(hn:n≤2000):∀ j,j≤n→nw (10^j)≤400:=fun j hj=>by
 have h:(10:Nat)^j<4294967296^(j/9+1):=by
  refine Nat.lt_of_le_of_lt (Nat.pow_le_pow_right (by omega) (show j≤9*(j/9+1) by omega)) ?_;rw[Nat.pow_mul];exact Nat.pow_lt_pow_left (by decide) (by omega)
 have:=Zkb h;omega
theorem Z1t {b j n:Nat}(hw:∀ j,j≤n→nw (b^j)≤400) (hb:b<4294967296) (hj:j≤n) (hj0:1≤j):b^j<4294967296^pM b j∧pM b j≤1000:=by
 unfold pM;rw[if_neg (by omega)];by_cases h:j % 2=1
 ·rw[if_pos h];have e:b^j=b^(j-1)*b:=by rw[← Nat.pow_succ];congr 1;omega
  have l1:=Znd (b^(j-1));have l2:=Znd b;have k1:=hw (j-1) (by omega);have k2:nw b≤1:=Zkb (by omega);refine⟨?_,by omega⟩;rw[e,Nat.pow_add];exact Nat.mul_lt_mul'' l1 l2
 ·rw[if_neg h];have e:b^j=b^(j/2)*b^(j/2):=by rw[← Nat.pow_add];congr 1;omega
  have l1:=Znd (b^(j/2));have k1:=hw (j/2) (by omega);refine⟨?_,by omega⟩;rw[e,Nat.pow_add];exact Nat.mul_lt_mul'' l1 l1
theorem ZgB {x y:Nat}(hx:0<x) (hy:0<y) (h:x+y≤8192):(!decide (x=0∨y=0) && Nat.ble (x+y) 8192)=true:=by
 rw[Xb (by omega),Nat.ble_eq_true_of_le h];rfl
theorem ZqN {b n k:Nat}(hb:b<4294967296) (hn:n≤2000) (hw:∀ j,j≤n→nw (b^j)≤400) (hk:k≤20) {y:Lf}(h:nS b n (k+1) y) (ht:n/2^(k+1)=0→n/2^k % 2=1):RunsW (Zr prog Zf ZaL hcQ) (qL f76) y fun e z=>e=none∧nS b n k z:=by
 obtain⟨t,h',s⟩:=y;obtain⟨i,hi⟩:∃ i:Int,i=((k+1:Nat):Int)-1:=⟨_,rfl⟩;have hik:i=(k:Int):=by omega
 have hi0:i≥0:=by omega
 have hiF:decide (i<0)=false:=Xb (by omega);have ei:i64.wrap (i-1)=(k:Int)-1:=by rw[Zv (by omega) (by omega)];omega
 have eb:ZiI (n:Int) i=((n/2^k % 2:Nat):Int):=by rw[hik];exact ZvZ (by omega) (by omega)
 have dd:n/2^k=2*(n/2^(k+1))+n/2^k % 2:=by
  rw[Nat.pow_succ,← Nat.div_div_eq_div_mul];omega
 have jn:n/2^k≤n:=Nat.div_le_self _ _;have kb:nw b≤1:=Zkb (by omega);have tb:=ZqL (m:=2) (V:=b) (by have:(4294967296:Nat)^2=18446744073709551616:=rfl;omega) (by omega);have lt1:KRun.lt 3 (s32 1 2 b)=true:=rfl;have bN:b<4294967296^2:=by have:(4294967296:Nat)^2=18446744073709551616:=rfl;omega
 generalize hj:n/2^(k+1)=j at*;generalize hj':n/2^k=j' at*;obtain⟨g,hy⟩:=h;rw[hj] at hy;rcases hy with ⟨j0,ht',hh⟩ | ⟨j1,b0,ht',hh⟩ | ⟨j1,b0,m,V,ht',hh⟩
 ·have hbit:=ht j0;have j'1:j'=1:=by omega
  simp only at ht' hh;rw[← hi] at ht';subst ht' hh;have hbt:(ZiI (n:Int) i==1)=true:=by rw[eb,hbit];rfl
  have n1:Zl (dg 2 ((1:Nat):Int))=1:=by decide
  have r1:=Zkz (H:=Q2 b) (b:=0) (V:=1) (m:=2) rfl (by decide) (by omega);have z1:(!decide (Zl (dg 2 ((1:Nat):Int))=0∨Zl (dg 2 ((1:Nat):Int))=0) && Nat.ble (Zl (dg 2 ((1:Nat):Int))+Zl (dg 2 ((1:Nat):Int))) 8192)=true:=ZgB (by omega) (by omega) (by omega);by_cases b0:0<b
  ·have e2:Zl (dg (Zl (dg 2 ((1:Nat):Int))+Zl (dg 2 ((1:Nat):Int))) ((1:Nat):Int))=1:=by decide
   have r2:=Zkz (H:=Q3 b (Zl (dg 2 ((1:Nat):Int))+Zl (dg 2 ((1:Nat):Int))) 1) (b:=2) (V:=1) (m:=Zl (dg 2 ((1:Nat):Int))+Zl (dg 2 ((1:Nat):Int))) rfl (by decide) (by omega);have r3:=Zkz (H:=Q3 b (Zl (dg 2 ((1:Nat):Int))+Zl (dg 2 ((1:Nat):Int))) 1) (b:=1) (V:=b) (m:=2) rfl bN (by omega);have pb:=ZiK b0;have hg:=Z6s n i b 1 (1*b) g;rw[ei] at hg;have z2:=ZgB (x:=Zl (dg (Zl (dg 2 ((1:Nat):Int))+Zl (dg 2 ((1:Nat):Int))) ((1:Nat):Int))) (y:=Zl (dg 2 (b:Int))) (by omega) (by omega) (by omega);have hp:pM b 1=Zl (dg (Zl (dg 2 ((1:Nat):Int))+Zl (dg 2 ((1:Nat):Int))) ((1:Nat):Int))+Zl (dg 2 (b:Int)):=by
    rw[e2,tb];unfold pM;rw[if_neg (by omega),if_pos (by omega),Nat.sub_self,Nat.pow_zero];rw[show nw 1=1 from by
     have:=ZqL (m:=2) (V:=1) (by decide) (by omega);rw[← this];exact n1]
   have run:=Ze (s0:=s) ZiJ hg (Za (ZvQ r2 r3) (Za (rX r2) (Za (rX r3) (Za z2 (Za hbt (Za hiF (Za (ZvQ r1 r1) (Za (rX r1) (Za (rX r1) (Za z1 (Z4 (Xa hi0))))))))))));rw[← hp,Nat.one_mul] at run;have:=run.kept (k:=2) (b:=3) (base:=[w32 2 b,w32 2 1]) (y:=w32 (pM b 1) b) (front':=qF b n (s32 2 (pM b 1) b) (s32 1 2 b) ((k:Int)-1)) rfl (by kernel_rfl) (Zwa b rfl rfl) rfl (by omega) (ZD _) (Zwb _ _ _ rfl rfl);refine this.mono fun e z hz=> ?_;obtain⟨rfl,⟨g',e1⟩,e2'⟩:=hz;refine⟨rfl,g',.inr (.inl ⟨by omega,b0,?_,?_⟩)⟩
   ·rw[hj',j'1,Nat.pow_one];exact e1
   ·rw[hj',j'1,Nat.pow_one];exact e2'
  ·have bz:b=0:=by omega
   have hg:=Z6t n i b 1 g;rw[ei] at hg;have run:=Ze (s0:=s) ZiJ hg (Za (Xa (.inr (by rw[tb,bz,ZvY]))) (Za hbt (Za hiF (Za (ZvQ r1 r1) (Za (rX r1) (Za (rX r1) (Za z1 (Z4 (Xa hi0)))))))));refine run.mono fun e z hz=> ?_;obtain⟨rfl,⟨g',e1⟩,e2'⟩:=hz;exact⟨rfl,g',.inr (.inr ⟨by rw[hj'];omega,bz,_,_,e1,e2'⟩)⟩
 ·simp only at ht' hh;rw[← hi] at ht';have hm:pM b j=pM b j:=rfl;obtain⟨m,em⟩:∃ m,m=pM b j:=⟨_,rfl⟩;obtain⟨V,eV⟩:∃ V,V=b^j:=⟨_,rfl⟩;rw[← em,← eV] at ht' hh;obtain⟨p1,p2⟩:=Z1t hw hb (show j≤n by omega) j1;rw[← em,← eV] at p1;rw[← em] at p2;subst ht' hh;have V0:0<V:=by rw[eV];exact Nat.pow_pos b0
  have tV:=ZqL p1 p2;have pV:=ZiK V0;have lV:nw V≤400:=by rw[eV];exact hw j (by omega)
  have r1:=Zkz (H:=Q3 b m V) (b:=2) (V:=V) (m:=m) rfl p1 p2;have z1:=ZgB (x:=Zl (dg m (V:Int))) (y:=Zl (dg m (V:Int))) (by omega) (by omega) (by omega);have eS:V*V=b^(2*j):=by rw[eV,← Nat.pow_add];congr 1;omega
  by_cases hbit:j' % 2=1
  ·have hbt:(ZiI (n:Int) i==1)=true:=by rw[eb,hbit];rfl
   have j'e:j'=2*j+1:=by omega
   have pb:=ZiK b0;obtain⟨S,hS⟩:∃ S,S=V*V:=⟨_,rfl⟩;have sB:S<4294967296^(Zl (dg m (V:Int))+Zl (dg m (V:Int))):=by
    rw[hS,Nat.pow_add,tV];exact Nat.mul_lt_mul'' (Znd V) (Znd V)
   have sm:Zl (dg m (V:Int))+Zl (dg m (V:Int))≤1000:=by omega
   have tS:=ZqL sB sm;have S0:0<S:=by rw[hS];exact Nat.mul_pos V0 V0
   have pS:=ZiK S0;have lS:nw S≤400:=by rw[hS,eS];exact hw (2*j) (by omega)
   have r2:=Zkz (H:=Q4 b m V (Zl (dg m (V:Int))+Zl (dg m (V:Int))) S) (b:=3) (V:=S) (m:=Zl (dg m (V:Int))+Zl (dg m (V:Int))) rfl sB sm;have r3:=Zkz (H:=Q4 b m V (Zl (dg m (V:Int))+Zl (dg m (V:Int))) S) (b:=1) (V:=b) (m:=2) rfl bN (by omega);have z2:=ZgB (x:=Zl (dg (Zl (dg m (V:Int))+Zl (dg m (V:Int))) (S:Int))) (y:=Zl (dg 2 (b:Int))) (by omega) (by omega) (by omega);have rm:=ZvQ r1 r1;rw[← hS] at rm;have hg:=Z6r n i b m V S (S*b) g;rw[ei] at hg;have hp:pM b j'=Zl (dg (Zl (dg m (V:Int))+Zl (dg m (V:Int))) (S:Int))+Zl (dg 2 (b:Int)):=by
    rw[tS,tb];unfold pM;rw[if_neg (by omega),if_pos hbit,hS,eS,j'e,Nat.add_sub_cancel]
   have run:=Ze (s0:=s) ZiJ hg (Za (ZvQ r2 r3) (Za (rX r2) (Za (rX r3) (Za z2 (Za hbt (Za hiF (Za rm (Za (rX r1) (Za (rX r1) (Za z1 (Z4 (Xa hi0))))))))))));have hW:S*b=b^j':=by rw[hS,eS,j'e,Nat.pow_succ]
   rw[← hp,hW] at run;have:=run.kept (k:=2) (b:=4) (base:=[w32 2 b,w32 2 1]) (y:=w32 (pM b j') (b^j')) (front':=qF b n (s32 2 (pM b j') (b^j')) (s32 1 2 b) ((k:Int)-1)) rfl (by kernel_rfl) (Zwa b rfl rfl) rfl (by omega) (ZD _) (Zwb _ _ _ rfl rfl);refine this.mono fun e z hz=> ?_;obtain⟨rfl,⟨g',e1⟩,e2'⟩:=hz;refine⟨rfl,g',.inr (.inl ⟨by omega,b0,?_,?_⟩)⟩
   ·rw[hj'];exact e1
   ·rw[hj'];exact e2'
  ·have hbt:(ZiI (n:Int) i==1)=false:=by rw[eb,show j' % 2=0 by omega];rfl
   have j'e:j'=2*j:=by omega
   have hg:=Z6q n i b m V (V*V) g;rw[ei] at hg;have hp:pM b j'=Zl (dg m (V:Int))+Zl (dg m (V:Int)):=by
    rw[tV,eV];unfold pM;rw[if_neg (by omega),if_neg hbit,j'e,Nat.mul_div_cancel_left _ (by omega)]
   have run:=Ze (s0:=s) ZiJ hg (Za hbt (Za hiF (Za (ZvQ r1 r1) (Za (rX r1) (Za (rX r1) (Za z1 (Z4 (Xa hi0))))))));have hW:V*V=b^j':=by rw[eS,j'e]
   rw[← hp,hW] at run;have:=run.kept (k:=2) (b:=3) (base:=[w32 2 b,w32 2 1]) (y:=w32 (pM b j') (b^j')) (front':=qF b n (s32 2 (pM b j') (b^j')) (s32 1 2 b) ((k:Int)-1)) rfl (by kernel_rfl) (Zwa b rfl rfl) rfl (by omega) (ZD _) (Zwb _ _ _ rfl rfl);refine this.mono fun e z hz=> ?_;obtain⟨rfl,⟨g',e1⟩,e2'⟩:=hz;refine⟨rfl,g',.inr (.inl ⟨by omega,b0,?_,?_⟩)⟩
   ·rw[hj'];exact e1
   ·rw[hj'];exact e2'
 ·simp only at ht' hh;rw[← hi] at ht';subst ht' hh;by_cases hbit:j' % 2=1
  ·have hbt:(ZiI (n:Int) i==1)=true:=by rw[eb,hbit];rfl
   have hg:=Z6v n i b m V g;rw[ei] at hg;refine (Ze (s0:=s) ZiJ hg (Za (Xa (.inl rfl)) (Za hbt (Za hiF (Za (by decide) (Z4 (Xa hi0))))))).mono fun e z hz=> ?_;obtain⟨rfl,⟨g',e1⟩,e2'⟩:=hz;exact⟨rfl,g',.inr (.inr ⟨by rw[hj'];omega,b0,m,V,e1,e2'⟩)⟩
  ·have hbt:(ZiI (n:Int) i==1)=false:=by rw[eb,show j' % 2=0 by omega];rfl
   have hg:=Z6u n i b m V g;rw[ei] at hg;refine (Ze (s0:=s) ZiJ hg (Za hbt (Za hiF (Za (by decide) (Z4 (Xa hi0)))))).mono fun e z hz=> ?_;obtain⟨rfl,⟨g',e1⟩,e2'⟩:=hz;exact⟨rfl,g',.inr (.inr ⟨by rw[hj'];omega,b0,m,V,e1,e2'⟩)⟩
end Go.Proofs.YtjlponbdflkbjaaGreatDoor.Na
namespace Go.Proofs.YtjlponbdflkbjaaGreatDoor.Na
open Go.Proofs.Tryz
open Go.KRun Go.Nt
set_option maxRecDepth 100000
def fN (k:Int) (e:Value):List Value:=[Zp,i6' k,undef,undef,Zp,e]
theorem ZqO (k:Int):Zg (evC (Zr prog Zf Zn hcS) 200 false (Zs f80) ([Zp,i6' k]++List.replicate 45 undef,⟨0,[]⟩,[cmp true]) ⟨[],[],[]⟩) 6 41 (some none) (fN k (Zcx 1)) ⟨0,[]⟩ [(decide (k<0),true)]:=by and_intros<;>kernel_rfl
theorem ZqP (k:Int):Zg (evC (Zr prog Zf Zn hcS) 200 false (Zs f80) ([Zp,i6' k]++List.replicate 45 undef,⟨0,[]⟩,[cmp false]) ⟨[],[],[]⟩) 6 41 (some none) (fN k .nilIface) ⟨0,[]⟩ [(decide (k<0),false)]:=by and_intros<;>kernel_rfl
def Z4s (d:Bool):Value:=match d with | true=>Zcx 1 | false=> .nilIface
theorem Zne (k:Int) (d:Bool) (hd:decide (k<0)=d):Runs (Zr prog Zf Zn hcS) (Zs f80) ([Zp,i6' k]++List.replicate 45 undef,⟨0,[]⟩,[]) fun e' y=>(e'=none∨e'=some none)∧ZV prog f80 y.1 y.2.1=some (.tuple #[Zp,Z4s d]):=by
 cases d with
 | true=>
  refine (Zb (Zh Zd Ziz) (ZqO k) (Zt hd)).mono fun e' y he=> ?_;obtain⟨rfl,⟨g,e2⟩,e3⟩:=he;refine⟨.inr rfl,?_⟩;rw[e2,e3];rfl
 | false=>
  refine (Zb (Zh Zd Ziz) (ZqP k) (Zt hd)).mono fun e' y he=> ?_;obtain⟨rfl,⟨g,e2⟩,e3⟩:=he;refine⟨.inr rfl,?_⟩;rw[e2,e3];rfl
def Zkc:Zac:=fun vals h s=>
 match vals with
 | [.slice none 0 0,.int .i64 k]=>
  match s with
  | .inr (.inr (.inr (.inl d)))::s'=>some (.tuple #[Zp,Z4s d],h,s',[(decide (k<0),d)])
  | _=>none
 | _=>ZuV vals h s
theorem ZbZ:Z8 80 Zkc:=by
 intro vals h s v h' s' lg hg hl m B w E hv;unfold Zkc at hg;split at hg
 ·rename_i k;split at hg
  ·rename_i d s2;cases hg;have hd:=hl _ Xf;have e0:rn (fun b=>b) (.tuple #[Zp,Z4s d])= .tuple #[Zp,Z4s d]:=by cases d<;>exact Zd6 (by rfl)
   have:=zj (T:=Zr prog Zf Zn hcS) func80 Zf9 (h0:=⟨0,[]⟩) ⟨rfl,fun b x hb=>absurd (Hp.blk_lt hb) (Nat.not_lt_zero _)⟩ (vals:=[Zp,i6' k]) (fun v hv=>by
    simp only[List.mem_cons,List.not_mem_nil,or_false] at hv;rcases hv with rfl | rfl<;>rfl) (by cases d<;>rfl) (Zne k d hd) E (s:=fun b=>b) (fun i hi=>absurd hi (Nat.not_lt_zero _)) (fun i x hi=>absurd (Hp.blk_lt hi) (Nat.not_lt_zero _))
   rw[e0] at this;exact this.mono fun e w' he=>⟨m,he.1,he.2⟩
  ·cases hg
 ·exact ZuW _ _ _ _ _ _ _ hg hl m B w E hv
end Go.Proofs.YtjlponbdflkbjaaGreatDoor.Na
namespace Go.Proofs.YtjlponbdflkbjaaGreatDoor.Na
open Go.KRun Go.Nt
set_option maxRecDepth 100000
set_option linter.unusedVariables false
def sM (n:Nat) (k:Int):Nat:=k.toNat/32+(n+1)
def Zwc:Zac:=fun vals h s=>
 match vals,s with
 | [.slice p n c,.int .i64 k],.inr (.inr (.inr (.inl true)))::s'=>some (.tuple #[Zp,Zcx 1],h,s',[(Zal h p n c,true),(ZT (Zq h p n) || decide (k<0),true)])
 | [.slice p n c,.int .i64 k],.inr (.inr (.inr (.inl false))):: .inr (.inr (.inr (.inl true)))::s'=>some (.tuple #[Zp,.nilIface],h,s',[(Zal h p n c,true),(ZT (Zq h p n) || decide (k<0),false),(decide (n=0),true)])
 | [.slice p n c,.int .i64 k],.inr (.inr (.inr (.inl false))):: .inr (.inr (.inr (.inl false))):: .inr (.inr (.inr (.inl true)))::s'=>some (.tuple #[Zp,Zcx 2],h,s',[(Zal h p n c,true),(ZT (Zq h p n) || decide (k<0),false),(decide (n=0),false),(decide (k>262144-Zdz (Zq h p n)),true)])
 | [.slice p n c,.int .i64 k],.inr (.inr (.inr (.inl false))):: .inr (.inr (.inr (.inl false))):: .inr (.inr (.inr (.inl false))):: .inr (.inl V)::s'=>some (.tuple #[sl h.n 0 (Zl (dg (sM n k) V)) (sM n k),.nilIface],h.push (wU (dg (sM n k) V)) tU,s',[(decide (Zhb (Zq h p n) k.toNat=dg (sM n k) V),true),(Zal h p n c,true),(ZT (Zq h p n) || decide (k<0),false),(decide (n=0),false),(decide (k>262144-Zdz (Zq h p n)),false)])
 | _,_=>none
theorem ZqQ:Z8 80 Zwc:=by
 intro vals h s v h' s' lg hg hl m B w E hv;unfold Zwc at hg;split at hg
 ·rename_i p n c k s2;cases hg;have l1:=hl _ (Xe);have l2:=hl _ (Xd _ Xf);simp only at l1 l2;rcases ZL l1 with ⟨rfl,rfl,rfl,e0⟩ | ⟨b,o,x,rfl,hx,r1,e0⟩<;>rw[e0] at l2
  ·rw[Zc3,Bool.false_or] at l2;exact ZbZ _ h [cmp true] _ _ [] [(decide (k<0),true)] rfl (Z4 l2) m B w E hv
  ·exact ZbZ _ h [cmp true] _ _ [] [(Z6 x.2 x.1 o n c,true),(ZT (Zx x.1 o n) || decide (k<0),true)] (by simp only[Zkc,ZuV,hx]) (Za r1 (Z4 l2)) m B w E hv
 ·rename_i p n c k s2;cases hg;have l1:=hl _ (Xe);have l2:=hl _ (Xd _ Xe);have l3:=hl _ (Xd _ (Xd _ Xf));simp only at l1 l2 l3;rcases ZL l1 with ⟨rfl,rfl,rfl,e0⟩ | ⟨b,o,x,rfl,hx,r1,e0⟩<;>rw[e0] at l2
  ·rw[Zc3,Bool.false_or] at l2;exact ZbZ _ h [cmp false] _ _ [] [(decide (k<0),false)] rfl (Z4 l2) m B w E hv
  ·exact ZbZ _ h [cmp false,cmp true] _ _ [] [(Z6 x.2 x.1 o n c,true),(ZT (Zx x.1 o n) || decide (k<0),false),(decide (n=0),true)] (by simp only[Zkc,ZuV,hx]) (Za r1 (Za l2 (Z4 l3))) m B w E hv
 ·rename_i p n c k s2;cases hg;have l1:=hl _ (Xe);have l2:=hl _ (Xd _ Xe);have l3:=hl _ (Xd _ (Xd _ Xe));have l4:=hl _ (Xd _ (Xd _ (Xd _ Xf)));simp only at l1 l2 l3 l4;rcases ZL l1 with ⟨rfl,rfl,rfl,e0⟩ | ⟨b,o,x,rfl,hx,r1,e0⟩
  ·exact absurd rfl (of_decide_eq_false l3)
  ·rw[e0] at l2 l4;exact ZbZ _ h [cmp false,cmp false,cmp true] _ _ [] [(Z6 x.2 x.1 o n c,true),(ZT (Zx x.1 o n) || decide (k<0),false),(decide (n=0),false),(decide (k>262144-Zdz (Zx x.1 o n)),true)] (by simp only[Zkc,ZuV,hx]) (Za r1 (Za l2 (Za l3 (Z4 l4)))) m B w E hv
 ·rename_i p n c k V s2;cases hg;have l0:=Xc (hl _ (Xe));have l1:=hl _ (Xd _ Xe);have l2:=hl _ (Xd _ (Xd _ Xe));have l3:=hl _ (Xd _ (Xd _ (Xd _ Xe)));have l4:=hl _ (Xd _ (Xd _ (Xd _ (Xd _ Xf))));simp only at l1 l2 l3 l4;rcases ZL l1 with ⟨rfl,rfl,rfl,e0⟩ | ⟨b,o,x,rfl,hx,r1,e0⟩
  ·exact absurd rfl (of_decide_eq_false l3)
  ·rw[e0] at l0 l2 l4;rw[← l0];exact ZbZ _ h [cmp false,cmp false,cmp false] _ _ [] [(Z6 x.2 x.1 o n c,true),(ZT (Zx x.1 o n) || decide (k<0),false),(decide (n=0),false),(decide (k>262144-Zdz (Zx x.1 o n)),false)] (by simp only[Zkc,ZuV,hx];rfl) (Za r1 (Za l2 (Za l3 (Z4 l4)))) m B w E hv
 ·cases hg
def Zwd:Zac:=fun vals h s=>
 match vals,s with
 | [.slice p n c],.inr (.inl l)::s'=>some (i6' l,h,s',[(decide (Zdz (Zq h p n)=l),true),(Zal h p n c,true)])
 | _,_=>none
theorem ZqR:Z8 79 Zwd:=by
 intro vals h s v h' s' lg hg hl m B w E hv;unfold Zwd at hg;split at hg
 ·rename_i p n c l s2;cases hg;have l0:=Xc (hl _ (Xe));have l1:=hl _ (Xd _ Xf);simp only at l1;rcases ZL l1 with ⟨rfl,rfl,rfl,e0⟩ | ⟨b,o,x,rfl,hx,r1,e0⟩<;>rw[e0] at l0<;>rw[← l0]
  ·exact Zhr _ h [] _ _ [] [] rfl (fun x hx=>by cases hx) m B w E hv
  ·exact Zhr _ h [] _ _ [] [(Z6 x.2 x.1 o n c,true)] (by simp only[Z4l,hx]) (Z4 r1) m B w E hv
 ·cases hg
end Go.Proofs.YtjlponbdflkbjaaGreatDoor.Na
