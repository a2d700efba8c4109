/-
  ConO9, ConOA, ConOB, SlK, PwD, PwE, PwA, R16, PwC, PwF, ConNK, PwB
-/
import Derived.Test.YtgefjidphfdhdaaGreatDoorG10
namespace Go.Proofs.YtgefjidphfdhdaaGreatDoor.Na
open Go.Proofs.Tryz
open Go.KRun Go.Nt
set_option maxRecDepth 100000
set_option linter.unusedVariables false
theorem Zmd {l:List Value}{o:Nat}{L:List Int}(h:Row l o L):Zx l o L.length=L:=by
 unfold Zx;rw[h.cut];unfold wU;rw[List.map_map];exact (List.map_congr_left fun x _=>rfl).trans (List.map_id' _)
theorem ZcA (L:List Int) {z:Nat}(hl:L.length=z):Zx (wU L) 0 z=L:=by
 have:=ZgZ [] L [];rw[List.append_nil,List.nil_append,List.length_nil,hl] at this;exact this
theorem Zme (L M:List Int) {z:Nat}(hl:L.length=z):tmS (wU L) 0 z M=wU M:=by
 have:=Zha [] L [] M;rw[List.append_nil,List.nil_append,List.length_nil,hl,List.append_nil,List.nil_append] at this;exact this
theorem Zmf (L:List Int) {z K:Nat}(hl:L.length=z):upT (wU L) 0 z (K:Int)=wU (dg z (vN L*2^K)):=by
 unfold upT;rw[ZcA L hl,Zme L _ hl,Xg]
theorem zC {q:Nat}(h:q≤1000000):ZE q=true:=Zk.2 (by unfold ZT;omega)
theorem Zqr {x:Int}(h:0<x∧x<4294967296):∃ K:Nat,dmU x=(K:Int)∧K<32∧x<2^(32-K)∧(2:Int)^(32-K)*2^K≤4294967296:=by
 have h1:=ZdF (by omega) h.2;have h2:=bitLen_spec x.toNat;have h3:bitLen x.toNat≠0:=fun h0=>by rw[h0] at h2;have:=h2.1;omega
 refine⟨32-bitLen x.toNat,?_,by omega,?_,?_⟩
 ·unfold dmU;rw[Zw (by omega) (by omega)];omega
 ·rw[show 32-(32-bitLen x.toNat)=bitLen x.toNat by omega];have:((x.toNat:Nat):Int)<((2^bitLen x.toNat:Nat):Int):=Int.ofNat_lt.2 h2.1;rw[Int.natCast_pow] at this;have e:((x.toNat:Nat):Int)=x:=Int.toNat_of_nonneg (by omega);rw[e] at this;exact this
 ·rw[← Int.pow_add,show 32-(32-bitLen x.toNat)+(32-bitLen x.toNat)=32 by omega]
  decide
theorem ZuK {la lb:List Value}{o c o' c':Nat}{LA LB:List Int}(RA:Row la o LA) (RB:Row lb o' LB) (ra:Z0 tR la o LA.length c=true) (rb:Z0 tR lb o' LB.length c'=true) (ba:ZN LA=false) (bb:ZN LB=false) (hb0:0<LB.length) (hc:¬ ZbP LA LB<0):
  Runs (Zm prog Zg Zg8 hcD) (zo (dmP f152) (.seq (.seq (Z1 (Z1 (sn 12 f152))) (.block 0 (.loop (dmL f152)))) (sn 13 f152))) ([sl 0 o LA.length c,sl 1 o' LB.length c']++List.replicate 87 undef,h2 la lb,[]) fun e y=>(e=none∨e=some none)∧zd prog f152 y.1 y.2.1=some (.tuple #[sl 4 0 (Zc (dg (LA.length-LB.length+1) (vN LA/vN LB))) (LA.length-LB.length+1),sl 2 0 (Zc (dg (LA.length+1) (vN LA % vN LB))) (LA.length+1),.nilIface])∧y.2.1.blk? 4=some (wU (dg (LA.length-LB.length+1) (vN LA/vN LB)),tU)∧y.2.1.blk? 2=some (wU (dg (LA.length+1) (vN LA % vN LB)),tU):=by
 have hT:=Zp Zc9 Zzo;have n8:=ZbA ba;have n8':=ZbA bb;have qa:=Zc3 RA.rng ba;have qb:=Zc3 RB.rng bb;have hcv:=ZhM qa qb;have hge:vN LB≤vN LA:=by
  have:=mt hcv.1.2 hc;omega
 have hle:=ZkH qa qb hge;obtain⟨_,_,_,_,_,_,sa⟩:=ZC ra;obtain⟨_,_,_,_,_,_,sb⟩:=ZC rb;have cA:=Zmd RA;have cB:=Zmd RB;have cx:=RB.cell (k:=LB.length-1) (by omega);have hx0:LB.getD (LB.length-1) 0≠0:=qb.2.resolve_left (by omega);have hxr:=RB.rng (LB.getD (LB.length-1) 0) (by
  have hk:LB.length-1<LB.length:=by omega
  simp [List.getD,List.getElem?_eq_getElem hk])
 obtain⟨K,eU,hK,hxK,hKK⟩:=Zqr (x:=LB.getD (LB.length-1) 0) (by omega);have hB1:=ZuJ RB.rng rfl hb0 rfl hxK hKK;have hlow:=ZfL RB.rng hb0 hx0;have k1:(1:Int)≤2^K:=by have:(0:Int)<2^K:=Int.pow_pos (by omega);omega
 have k2:(2:Int)^K≤4294967296:=by
  have h1:(1:Int)≤2^(32-K):=by have:(0:Int)<2^(32-K):=Int.pow_pos (by omega);omega
  have h2:1*(2:Int)^K≤2^(32-K)*2^K:=Int.mul_le_mul_of_nonneg_right h1 (by omega);omega
 have bA:=ZaM LA RA.rng;have pN1:=Za0 (LB.length-1);have hvB:0<vN LB:=by omega
 have hBlow:4294967296^(LB.length-1)≤vN LB*2^K:=by
  have:vN LB*1≤vN LB*2^K:=Int.mul_le_mul_of_nonneg_left k1 (by omega);omega
 have hW0:0≤vN LA*2^K:=Int.mul_nonneg bA.1 (by omega);have hW1:vN LA*2^K<vN LB*2^K*4294967296^(LA.length-LB.length+1):=by
  have e1:(4294967296:Int)^LA.length=4294967296^(LB.length-1)*4294967296^(LA.length-LB.length+1):=by
   rw[← Int.pow_add,show LB.length-1+(LA.length-LB.length+1)=LA.length by omega]
  have h1:4294967296^(LB.length-1)*4294967296^(LA.length-LB.length+1)≤vN LB*4294967296^(LA.length-LB.length+1):=Int.mul_le_mul_of_nonneg_right hlow (by have:=Za0 (LA.length-LB.length+1);omega);have h2:vN LA<vN LB*4294967296^(LA.length-LB.length+1):=by omega
  have h3:=Int.mul_lt_mul_of_pos_right h2 (show (0:Int)<2^K by omega);rw[Int.mul_assoc,Int.mul_comm (4294967296^(LA.length-LB.length+1)) (2^K),← Int.mul_assoc] at h3;exact h3
 have eNP:(nP LA.length).toNat=LA.length+1:=ZhJ n8;have eQ:dmQ LA.length LB.length=((LA.length-LB.length+1:Nat):Int):=by
  unfold dmQ;rw[Zw (n:=(LA.length:Int)-(LB.length:Int)) (by omega) (by omega),Zw (by omega) (by omega)];omega
 have eR:dmR la o LA.length (LB.getD (LB.length-1) 0)=wU (dg (LA.length+1) (vN LA*2^K)):=by
  unfold dmR;rw[eU,eNP,ZkD RA n8,Zmf _ (by simp),zp,Int.mul_zero,Int.add_zero]
 have eY:dmY lb o' LB.length (LB.getD (LB.length-1) 0)=wU (dg LB.length (vN LB*2^K)):=by
  unfold dmY;rw[eU,Xg,Zsd RB,Zmf _ rfl]
 have g0:=Zzp o LA.length c o' LB.length c' (LB.getD (LB.length-1) 0) la lb;have en1:n1 LB.length=((LB.length-1:Nat):Int):=by unfold n1;rw[Zw (by omega) (by omega)];omega
 rw[eR,eY,eU,eNP,eQ,Xg,Xg,cA,cB,ZkD RA n8,Zsd RB,en1] at g0;have erep:List.replicate (LA.length-LB.length+1) (uu 0)=wU (List.replicate (LA.length-LB.length+1) 0++[]):=by
  unfold wU uu;simp
 rw[erep] at g0;have lm1:Zou (wU (dg LB.length (vN LB*2^K))) la lb (wU (LA++[0])) tR tR tU tU 0 (LA.length+1) (LA.length+1) (K:Int)=true:=by
  unfold Zou;rw[zF (ZeQ RA.rng) (by simp) (Nat.le_refl _) (zC (by omega)),Za4,List.all_eq_true.2 sa,List.all_eq_true.2 sb,Xa (show (0:Int)≤K∧(K:Int)<32 by omega)];simp
 have lm2:Zou (wU (LA++[0])) la lb (wU LB) tR tR tU tU 0 LB.length LB.length (K:Int)=true:=by
  unfold Zou;rw[zF RB.rng (by simp) (Nat.le_refl _) (zC (by omega)),Za4,List.all_eq_true.2 sa,List.all_eq_true.2 sb,Xa (show (0:Int)≤K∧(K:Int)<32 by omega)];simp
 refine Z4 hT g0 (Zi (by unfold ZJ;exact Xa (by omega)) (Zi lm1 (Zi lm2 (Zi (Zts RB) (Zi (by unfold ZJ;exact Xa (by omega)) (Zi (Xa hxr) (Zi (Zae cx) (Zi (Xa (by omega)) (Zi (Xb hc) (Zi ra (Zi rb (Zi (ZkE RA n8) (Zi (Zyd n8) (Zi (by simpa using (show LB.length≠0 by omega)) (Zi ra (Zi rb (Zv (by rw[ba,bb];rfl)))))))))))))))))) fun g=> ?_;generalize hBe:vN LB*2^K=B' at*;generalize hWe:vN LA*2^K=W0 at*;have cY:=ZcA (dg LB.length B') (ZP LB.length B');have vY:vN (dg LB.length B')=B':=Zjr _ _ (by omega) hB1;have tY:=ZuI hb0 hBlow hB1;have hBp:0<B':=by omega
 refine Runs.seq (P1:=fun e' y=>e'=none∧∃ (W:Int) (qs:List Int) (i:Int) (g:Nat→Value),(0≤W∧W<B')∧W0=W+B'*vN qs∧qs.length=LA.length-LB.length+1∧wds qs∧y.1=dmG o LA.length c o' LB.length c' (LA.length+1) LB.length (LA.length-LB.length+1) K i++tl 76 g∧y.2.1=h5 la lb (wU (dg (LA.length+1) W)) (wU (dg LB.length B')) (wU qs)) ?_ ?_ (fun e y he=>by cases he.1)
 ·refine Runs.seq (P1:=fun e' y=>e'=none∧(∃ g,y.1=dmG o LA.length c o' LB.length c' (LA.length+1) LB.length (LA.length-LB.length+1) K (n1 (LA.length-LB.length+1))++tl 76 g)∧y.2.1=h5 la lb (wU (dg (LA.length+1) W0)) (wU (dg LB.length B')) (wU (List.replicate (LA.length-LB.length+1) 0++[]))) (Zb hT (Z61 o LA.length c o' LB.length c' (LA.length+1) LB.length (LA.length-LB.length+1) K _ g) (fun x hx=>by cases hx)) ?_ (fun e y he=>by cases he.1);rintro⟨t,h',s'⟩ ⟨_,⟨g1,ht⟩,hh⟩;simp only at ht hh;subst ht hh;refine (Runs.forLoop (R:=fun _=>False) (P:=fun y=>∃ (W:Int) (qs:List Int) (i:Int) (g:Nat→Value),(0≤W∧W<B')∧W0=W+B'*vN qs∧qs.length=LA.length-LB.length+1∧wds qs∧y.1=dmG o LA.length c o' LB.length c' (LA.length+1) LB.length (LA.length-LB.length+1) K i++tl 76 g∧y.2.1=h5 la lb (wU (dg (LA.length+1) W)) (wU (dg LB.length B')) (wU qs))
   (fun r y=>∃ (W:Int) (qs:List Int) (g:Nat→Value),(0≤W∧W<B'*4294967296^r)∧W0=W+B'*(4294967296^r*vN qs)∧qs.length+r=LA.length-LB.length+1∧wds qs∧y.1=dmG o LA.length c o' LB.length c' (LA.length+1) LB.length (LA.length-LB.length+1) K ((r:Int)-1)++tl 76 g∧y.2.1=h5 la lb (wU (dg (LA.length+1) W)) (wU (dg LB.length B')) (wU (List.replicate r 0++qs)))
   ?_ (n:=LA.length-LB.length+1) ⟨W0,[],g1,⟨hW0,hW1⟩,by simp [vN],by simp,(fun x hx=>by cases hx),?_,rfl⟩).mono fun e' y he=> ?_
  ·rintro r ⟨t,h',s'⟩ ⟨W,qs,g,hW,hsum,hq,wq,ht,hh⟩;simp only at ht hh;subst ht hh;cases r with
   | zero=>
    refine (Zb hT (Zzq o LA.length c o' LB.length c' (LA.length+1) LB.length (LA.length-LB.length+1) K _ _ g) (Zv (Xb (by omega)))).mono fun e' y he=> ?_;obtain⟨rfl,⟨g1,e2⟩,e3⟩:=he;rw[Int.pow_zero] at hW hsum;rw[Int.mul_one] at hW;rw[Int.one_mul] at hsum;exact⟨rfl,W,qs,_,g1,hW,hsum,by omega,wq,e2,e3⟩
   | succ r=>
    have ei:((r+1:Nat):Int)-1=(r:Int):=by omega
    rw[ei];obtain⟨⟨t0,t1,t2⟩,⟨x0,x1⟩,hW',hs'⟩:=Zqq ⟨hBp,hB1⟩ hW hsum;have hdg:=Zif hBp t0 t1;generalize hTe:W/4294967296^r=T at*;have eJ:pJ (r:Int)=r:=by unfold pJ;omega
    have eH:dmH (r:Int) LB.length=((r+LB.length+1:Nat):Int):=by
     unfold dmH;rw[Zw (n:=(r:Int)+(LB.length:Int)) (by omega) (by omega),Zw (by omega) (by omega)];omega
    have eN:dmN (r:Int) LB.length=LB.length+1:=by unfold dmN;rw[eH];omega
    have eRr:dg (LA.length+1) W=dg r W++(dg (LB.length+1) T++dg (LA.length-LB.length-r) 0):=by
     rw[show LA.length+1=r+((LB.length+1)+(LA.length-LB.length-r)) by omega,Zij,hTe,Int.ediv_eq_zero_of_lt t0 t2]
    have cT:Zx (wU (dg (LA.length+1) W)) r (LB.length+1)=dg (LB.length+1) T:=by
     have:=ZgZ (dg r W) (dg (LB.length+1) T) (dg (LA.length-LB.length-r) 0);rw[ZP,ZP,← eRr] at this;exact this
    have vT:vN (dg (LB.length+1) T)=T:=Zjr _ _ t0 t2;have sT:tmS (wU (dg (LA.length+1) W)) r (LB.length+1) (dg (LB.length+1) (T % B'))=wU (dg (LA.length+1) (qtW W (T % B') r)):=by
     have:=Zha (dg r W) (dg (LB.length+1) T) (dg (LA.length-LB.length-r) 0) (dg (LB.length+1) (T % B'));rw[ZP,ZP,← eRr] at this;rw[this,Zqp ⟨x0,x1⟩,show r+((LB.length+1)+(LA.length-LB.length-r))=LA.length+1 by omega]
    have sQ:(wU (List.replicate (r+1) 0++qs)).set r (uu (T/B'))=wU (List.replicate r 0++(T/B')::qs):=by
     have:=ZfJ (List.replicate r 0) 0 (T/B') qs;rw[List.length_replicate] at this;rw[List.replicate_succ',List.append_assoc,List.singleton_append,this,List.append_assoc,List.singleton_append]
    have g2:=Z3S o LA.length c o' LB.length c' (LA.length+1) LB.length (LA.length-LB.length+1) K r la lb (wU (dg (LA.length+1) W)) (wU (dg LB.length B')) (wU (List.replicate (r+1) 0++qs)) g;rw[eJ,eN,eH,cT,cY,vT,vY,sT,sQ,Xg] at g2;have l1:decide (r<(wU (List.replicate (r+1) 0++qs)).length)=true:=Xa (by rw[zZ];simp;omega);have l2:(inR r (LA.length-LB.length+1)).1=(inR r (LA.length-LB.length+1)).2:=Xa (by omega);have l3:(Zj0 la lb (wU (dg (LA.length+1) W)) (wU (dg LB.length B')) (wU (List.replicate (r+1) 0++qs)) tR tR tU tU tU r (LB.length+1) (LA.length+1-r) LB.length LB.length && decide (0<LB.length∧0<(dg LB.length B').getD (LB.length-1) 0∧T<4294967296*B'))=true:=by
     unfold Zj0;rw[zF (ZaA _ _) (by rw[ZP];omega) (by omega) (zC (by omega)),zF (ZaA _ _) (by rw[ZP];omega) (Nat.le_refl _) (zC (by omega)),Za4,List.all_eq_true.2 sa,List.all_eq_true.2 sb,Zk.2 (show LB.length+1<1099511627776 by omega),Xa (show 0<LB.length∧0<(dg LB.length B').getD (LB.length-1) 0∧T<4294967296*B' from ⟨hb0,tY,t1⟩)];simp
    have l5:ZZ (r:Int) ((r+LB.length+1:Nat):Int) ((LA.length+1:Nat):Int) ((LA.length+1:Nat):Int)=true:=by unfold ZZ;exact Xa (by omega)
    have l6:decide (((LA.length+1:Nat):Int)=(r:Int)∧(r:Int)≠0)=false:=Xb (by omega);have l7:decide ((r:Int)≥0)=true:=Xa (by omega);refine (Zb hT g2 (Zi l1 (Zi l2 (Zi l3 (Zi (zC (by omega)) (Zi l5 (Zi l6 (Zv l7)))))))).mono fun e' y he=> ?_;obtain⟨rfl,⟨g3,e2⟩,e3⟩:=he;refine⟨r,by omega,qtW W (T % B') r,T/B'::qs,g3,hW',?_,by simp;omega,?_,?_,e3⟩
    ·simp only[vN];exact hs'
    ·intro z hz;rcases List.mem_cons.1 hz with rfl | hz
     ·omega
     ·exact wq z hz
    ·rw[e2,Zw (by omega) (by omega)]
  ·show dmG _ _ _ _ _ _ _ _ _ _ _++_=_;rw[show n1 (LA.length-LB.length+1)=((LA.length-LB.length+1:Nat):Int)-1 from by unfold n1;rw[Zw (by omega) (by omega)]]
  ·match e',he with
   | none,he=>exact⟨rfl,he⟩
   | some none,he=>exact he.elim
   | some (some _),he=>exact he.elim
 ·rintro⟨t,h',s'⟩ ⟨_,W,qs,i,g,hW,hsum,hq,wq,ht,hh⟩;simp only at ht hh;subst ht hh;obtain⟨f1,f2⟩:=Zzs hW hsum;have hkp:(0:Int)<2^K:=by omega
  have d1:W0/B'=vN LA/vN LB:=by rw[← hWe,← hBe];exact Int.mul_ediv_mul_of_pos_left _ _ hkp
  have d2:W0 % B'=vN LA % vN LB*2^K:=by rw[← hWe,← hBe,Int.mul_comm (vN LA) (2^K),Int.mul_comm (vN LB) (2^K),Int.mul_emod_mul_of_pos _ _ hkp,Int.mul_comm]
  have eqs:qs=dg (LA.length-LB.length+1) (vN LA/vN LB):=by
   have:=ZfI qs wq;rw[hq,f1,d1] at this;exact this.symm
  have hWlt:W<4294967296^(LA.length+1):=by
   have h1:(4294967296:Int)^LB.length≤4294967296^(LA.length+1):=Zph (by omega);omega
  have vW:vN (dg (LA.length+1) W)=W:=Zjr _ _ hW.1 hWlt;have eD:dmD (wU (dg (LA.length+1) W)) (LA.length+1) K=wU (dg (LA.length+1) (vN LA % vN LB)):=by
   unfold dmD;rw[ZcA _ (ZP _ _),Zme _ _ (ZP _ _),vW,f2,d2,Xg,Int.mul_ediv_cancel _ (by omega)]
  have g2:=Zzr o LA.length c o' LB.length c' (LA.length+1) LB.length (LA.length-LB.length+1) K i la lb (wU (dg (LA.length+1) W)) (wU (dg LB.length B')) (wU qs) g;rw[eD,ZcA qs hq,ZcA _ (ZP _ _),eqs] at g2;have l1:Zzn la lb (wU (dg (LA.length+1) W)) (wU (dg LB.length B')) (wU (dg (LA.length-LB.length+1) (vN LA/vN LB))) tR tR tU tU tU 0 (LA.length+1) (LA.length+1) (K:Int)=true:=by
   unfold Zzn;rw[zF (ZaA _ _) (by rw[ZP];omega) (Nat.le_refl _) (zC (by omega)),Za4,Za4,List.all_eq_true.2 sa,List.all_eq_true.2 sb,Zk.2 (show LA.length+1<1099511627776 by omega),Xa (show (0:Int)≤K∧(K:Int)<32 by omega)];simp
  rw[eqs];refine (Zb hT g2 (Zi (zF (ZaA _ _) (by rw[ZP];omega) (Nat.le_refl _) (zC (by omega))) (Zi (zF (ZaA _ _) (by rw[ZP];omega) (Nat.le_refl _) (zC (by omega))) (Zv l1)))).mono fun e' y he=> ?_;obtain⟨rfl,⟨g1,e2⟩,e3⟩:=he;refine⟨.inr rfl,?_,?_,?_⟩
  ·rw[e2,e3];rfl
  ·rw[e3];rfl
  ·rw[e3];rfl
def hcE:Hc:=zx 132 ZfS (zx 187 Zty (zx 131 ZfE hcN))
theorem Zik:HcOk hcE:=Zt func132 rfl Zd8 (Zt func187 rfl Zpq (Zt func131 rfl Zb9 zw))
theorem Zzt (p q:Option Addr) (n c n' c':Nat) (h:Hp):Zh (evC (Zm prog Zg Zn hcE) 300 false (Zq f152) ([.slice p n c,.slice q n' c']++List.replicate 87 undef,h,[cmp true]) ⟨[],[],[]⟩) 7 82 (some none) [.slice p n c,.slice q n' c',undef,undef,Zs,Zs,Zcv 1] h [(zG h p n c,true),(zG h q n' c',true),(ZN (Zj h p n) || ZN (Zj h q n'),true)]:=by and_intros<;>kernel_rfl
theorem ZuL (p q:Option Addr) (n c n' c':Nat) (h:Hp):Zh (evC (Zm prog Zg Zn hcE) 300 false (Zq f152) ([.slice p n c,.slice q n' c']++List.replicate 87 undef,h,[cmp false,cmp true]) ⟨[],[],[]⟩) 7 82 (some none) [.slice p n c,.slice q n' c',undef,undef,Zs,Zs,Zcv 5] h [((n':Int)==0,true),(zG h p n c,true),(zG h q n' c',true),(ZN (Zj h p n) || ZN (Zj h q n'),false)]:=by and_intros<;>kernel_rfl
theorem ZuM (o n c o' n' c':Nat) (la lb:List Value):Zh (evC (Zm prog Zg Zn hcE) 300 false (Zq f152) ([sl 0 o n c,sl 1 o' n' c']++List.replicate 87 undef,h2 la lb,[cmp false,cmp false,at_,at_,cmp true]) ⟨[],[],[]⟩) 7 82 (some none) [sl 0 o n c,sl 1 o' n' c',undef,undef,Zs,sl 2 0 (Zc (Zx (cpy la o n) 0 (nP n).toNat)) (nP n).toNat,.nilIface] (h3 la lb (cpy la o n))
  [(Z0 tU (cpy la o n) 0 (nP n).toNat (nP n).toNat,true),(decide (ZbP (Zx la o n) (Zx lb o' n')<0),true),(Z0 tR la o n c,true),(Z0 tR lb o' n' c',true),(Z2j la o n,true),(ZJ 4 (nP n) (nP n),true),((n':Int)==0,false),(Z0 tR la o n c,true),(Z0 tR lb o' n' c',true),(ZN (Zx la o n) || ZN (Zx lb o' n'),false)]:=by and_intros<;>kernel_rfl
theorem Zqs (o n c:Nat) (lb:List Value):Zh (evC (Zm prog Zg Zn hcE) 300 false (Zq f152) ([Zs,sl 0 o n c]++List.replicate 87 undef,⟨1,[(lb,tR)]⟩,[cmp false,cmp false,cmp true]) ⟨[],[],[]⟩) 7 82 (some none) [Zs,sl 0 o n c,undef,undef,Zs,sl 1 0 0 1,.nilIface] ⟨2,[(wU [0],tU),(lb,tR)]⟩
  [(Z0 tU (wU [0]) 0 1 1,true),(decide (ZbP [] (Zx lb o n)<0),true),(true,true),(Z0 tR lb o n c,true),((n:Int)==0,false),(true,true),(Z0 tR lb o n c,true),(ZN (Zx lb o n),false)]:=by and_intros<;>kernel_rfl
def gDm:Zag:=fun vals h s=>
 match vals,s with
 | [.slice p n c,.slice q n' c'],.inr (.inr (.inr (.inl true)))::s'=>some (.tuple #[Zs,Zs,Zcv 1],h,s',[(zG h p n c,true),(zG h q n' c',true),(ZN (Zj h p n) || ZN (Zj h q n'),true)])
 | [.slice p n c,.slice q n' c'],.inr (.inr (.inr (.inl false))):: .inr (.inr (.inr (.inl true)))::s'=>some (.tuple #[Zs,Zs,Zcv 5],h,s',[(zG h p n c,true),(zG h q n' c',true),(!(ZN (Zj h p n) || ZN (Zj h q n')) && decide (n'=0),true)])
 | [.slice p n c,.slice q n' c'],.inr (.inr (.inr (.inl false))):: .inr (.inr (.inr (.inl false))):: .inr (.inr (.inr (.inl true)))::s'=>some (.tuple #[Zs,sl h.n 0 (Zc (Zj h p n++[0])) (n+1),.nilIface],h.push (wU (Zj h p n++[0])) tU,s',[(zG h p n c,true),(zG h q n' c',true),(!(ZN (Zj h p n) || ZN (Zj h q n')) && decide (0<n'∧ZbP (Zj h p n) (Zj h q n')<0),true)])
 | [.slice p n c,.slice q n' c'],.inr (.inr (.inr (.inl false))):: .inr (.inr (.inr (.inl false))):: .inr (.inr (.inr (.inl false))):: .inr (.inl V):: .inr (.inl U)::s'=>some (.tuple #[sl h.n 0 (Zc (dg (n-n'+1) V)) (n-n'+1),sl (h.n+1) 0 (Zc (dg (n+1) U)) (n+1),.nilIface],(h.push (wU (dg (n-n'+1) V)) tU).push (wU (dg (n+1) U)) tU,s',[(decide (vN (Zj h p n)/vN (Zj h q n')=V∧vN (Zj h p n) % vN (Zj h q n')=U),true),(zG h p n c,true),(zG h q n' c',true),(!(ZN (Zj h p n) || ZN (Zj h q n')) && decide (0<n'∧¬ ZbP (Zj h p n) (Zj h q n')<0),true)])
 | _,_=>none
theorem Z62 {a b c d:Bool×Bool}(h:Zu [a,b,c,d]):a.1=a.2∧b.1=b.2∧c.1=c.2∧d.1=d.2:=⟨h _ (by simp),h _ (by simp),h _ (by simp),h _ (by simp)⟩
theorem Zil:Z8 152 gDm:=by
 intro vals h s v h' s' lg hg hl m B w E hv;unfold gDm at hg;split at hg
 ·rename_i p n c q n' c' s2;cases hg;have r:=Zb (s0:=[]) (Zp Ze Zik) (Zzt p q n c n' c' h) hl;exact ZaV (T:=Zm prog Zg Zn hcE) func152 Zdg (vals:=[.slice p n c,.slice q n' c']) (v:= .tuple #[Zs,Zs,Zcv 1]) (h:=h) (by rfl) (r.mono fun e y he=>by
   obtain⟨rfl,⟨g,e1⟩,e2⟩:=he;exact⟨.inr rfl,by rw[e1,e2];rfl,e2⟩) m B w E hv
 ·rename_i p n c q n' c' s2;cases hg;obtain⟨l1,l2,l3⟩:=Z2l hl;simp only[Xh,Bool.not_eq_true',Xi] at l1 l2 l3;have r:=Zb (s0:=[]) (Zp Ze Zik) (ZuL p q n c n' c' h) (Zi (by simp [l3.2]) (Zi l1 (Zi l2 (Zv l3.1))));exact ZaV (T:=Zm prog Zg Zn hcE) func152 Zdg (vals:=[.slice p n c,.slice q n' c']) (v:= .tuple #[Zs,Zs,Zcv 5]) (h:=h) (by rfl) (r.mono fun e y he=>by
   obtain⟨rfl,⟨g,e1⟩,e2⟩:=he;exact⟨.inr rfl,by rw[e1,e2];rfl,e2⟩) m B w E hv
 ·rename_i p n c q n' c' s2;cases hg;obtain⟨l1,l2,l3⟩:=Z2l hl;simp only[Xh,Bool.not_eq_true',Bool.or_eq_false_iff,Xi] at l1 l2 l3;obtain⟨⟨l3,l4⟩,l5,l6⟩:=l3;rcases ZD l2 with ⟨_,h0,_⟩ | ⟨b',o',y,rfl,hy,t1,f0⟩
  ·omega
  rw[f0] at l4 l6;have tR1:=zi t1;obtain⟨b1,b2,b3,b4,b5,b6,b7⟩:=ZC t1;rcases ZD l1 with ⟨rfl,rfl,rfl,e0⟩ | ⟨b,o,x,rfl,hx,r1,e0⟩
  ·rw[e0] at l6 ⊢;have r:Runs (Zm prog Zg Zn hcE) (Zq f152) ([Zs,sl 0 o' n' c']++List.replicate 87 undef,⟨1,[(y.1,tR)]⟩,[]) fun e z=>(e=none∨e=some none)∧zd prog f152 z.1 z.2.1=some (.tuple #[Zs,sl 1 0 0 1,.nilIface])∧∃ r,z.2.1.blk? 1=some (wU [0]++r,tU):=by
    refine (Zb (Zp Ze Zik) (Zqs o' n' c' y.1) (Zi (by kernel_rfl) (Zi (Xa l6) (Zi rfl (Zi tR1 (Zi (by simpa using (show n'≠0 by omega)) (Zi rfl (Zi tR1 (Zv l4))))))))).mono fun e z he=> ?_;obtain⟨rfl,⟨g,e1⟩,e2⟩:=he;exact⟨.inr rfl,by rw[e1,e2];rfl,[],by rw[e2];rfl⟩
   have evals:List.map (rn fun _=>b') [Zs,sl 0 o' n' c']=[.slice none 0 0,.slice (some ⟨b',o',none⟩) n' c']:=by simp [rn,rn2,rn1,sl,Zs]
   have e1:∀ k M:Nat,rn (fun _=>h.n) (.tuple #[Zs,sl 1 0 k M,.nilIface])= .tuple #[Zs,sl h.n 0 k M,.nilIface]:=fun k M=>by simp [rn,rn2,rn1,sl,Zs]
   have:=ZL (T:=Zm prog Zg Zn hcE) func152 Zdg (ZaU b7) (vals:=[Zs,sl 0 o' n' c']) (fun v hv=>by
    simp only[List.mem_cons,List.not_mem_nil,or_false] at hv;rcases hv with rfl | rfl<;>rfl) (k:=1) (Zc1 _) Zd5 r.w (by rfl) E (s:=fun _=>b') (zX hy b5 b6 rfl)
   rw[evals,e1] at this;exact this
  ·rw[e0] at l3 l6 ⊢;have tR0:=zi r1;obtain⟨a1,a2,a3,a4,a5,a6,a7⟩:=ZC r1;have n8:=ZbA l3;have g0:=ZuM o n c o' n' c' x.1 y.1;have eP:=ZkD a1 n8;have eO:=ZkE a1 n8;rw[a2] at eP eO;rw[a2] at n8;rw[ZhJ n8,eP] at g0;have hw:=ZeQ a1.rng;have hl1:(Zx x.1 o n++[0]).length=n+1:=by simp [a2]
   rw[ZcA _ hl1] at g0;have r:Runs (Zm prog Zg Zn hcE) (Zq f152) ([sl 0 o n c,sl 1 o' n' c']++List.replicate 87 undef,h2 x.1 y.1,[]) fun e z=>(e=none∨e=some none)∧zd prog f152 z.1 z.2.1=some (.tuple #[Zs,sl 2 0 (Zc (Zx x.1 o n++[0])) (n+1),.nilIface])∧∃ r,z.2.1.blk? 2=some (wU (Zx x.1 o n++[0])++r,tU):=by
    refine (Zb (Zp Ze Zik) g0 (Zi (zF hw (by rw[hl1];omega) (Nat.le_refl _) (zC (by omega))) (Zi (Xa l6) (Zi tR0 (Zi tR1 (Zi eO (Zi (Zyd n8) (Zi (by simpa using (show n'≠0 by omega)) (Zi tR0 (Zi tR1 (Zv (by rw[l3,l4];rfl)))))))))))).mono fun e z he=> ?_;obtain⟨rfl,⟨g,e1⟩,e2⟩:=he;exact⟨.inr rfl,by rw[e1,e2];rfl,[],by rw[e2,List.append_nil];rfl⟩
   have e1:∀ k M:Nat,rn (fun _=>h.n) (.tuple #[Zs,sl 2 0 k M,.nilIface])= .tuple #[Zs,sl h.n 0 k M,.nilIface]:=fun k M=>by simp [rn,rn2,rn1,sl,Zs]
   have:=ZL (T:=Zm prog Zg Zn hcE) func152 Zdg (ZfF a7 b7) (vals:=[sl 0 o n c,sl 1 o' n' c']) (fun v hv=>by
    simp only[List.mem_cons,List.not_mem_nil,or_false] at hv;rcases hv with rfl | rfl<;>rfl) (k:=2) (Zc1 _) Zd5 r.w (by rfl) E (s:=Zd1 b b') (ZcL hx a5 a6 hy b5 b6)
   rw[e1] at this;exact this
 ·rename_i p n c q n' c' V U s2;cases hg;obtain⟨l0,l1,l2,l3⟩:=Z62 hl;simp only[Xh,Bool.not_eq_true',Bool.or_eq_false_iff,Xi] at l0 l1 l2 l3;obtain⟨⟨l3,l4⟩,l5,l6⟩:=l3;obtain⟨rfl,rfl⟩:=l0;rcases ZD l2 with ⟨_,h0,_⟩ | ⟨b',o',y,rfl,hy,t1,f0⟩
  ·omega
  rw[f0] at l4 l6 ⊢;have tR1:=zi t1;obtain⟨b1,b2,b3,b4,b5,b6,b7⟩:=ZC t1;rcases ZD l1 with ⟨rfl,rfl,rfl,e0⟩ | ⟨b,o,x,rfl,hx,r1,e0⟩
  ·rw[e0] at l6;exact absurd ((Zyk b2).2 l5) l6
  ·rw[e0] at l3 l6 ⊢;have tR0:=zi r1;obtain⟨a1,a2,a3,a4,a5,a6,a7⟩:=ZC r1;have r:=ZuK (c:=c) (c':=c') a1 b1 (by rw[a2];exact tR0) (by rw[b2];exact tR1) l3 l4 (by omega) l6;rw[a2,b2] at r;have fin:=Zer (T:=Zm prog Zg Zg8 hcD) func152 ZuF (ZfF a7 b7) (vals:=[sl 0 o n c,sl 1 o' n' c']) (fun v hv=>by
    simp only[List.mem_cons,List.not_mem_nil,or_false] at hv;rcases hv with h1 | h1<;>rw[h1]<;>rfl) (v:=fun k j=> .tuple #[sl k 0 (Zc (dg (n-n'+1) (vN (Zx x.1 o n)/vN (Zx y.1 o' n')))) (n-n'+1),sl j 0 (Zc (dg (n+1) (vN (Zx x.1 o n) % vN (Zx y.1 o' n')))) (n+1),.nilIface]) (Zc1 _) (Zc1 _) Zd5 (r.w.mono fun e z hz=>⟨hz.1,4,2,by omega,hz.2.1,⟨[],by rw[List.append_nil];exact hz.2.2.1⟩,[],by rw[List.append_nil];exact hz.2.2.2⟩) (fun k j=>by simp [oc,oc2,oc1,sl]) E (s:=Zd1 b b') (ZcL hx a5 a6 hy b5 b6) (fun k j g=>by simp [rn,rn2,rn1,sl])
   exact fin
 ·cases hg
end Go.Proofs.YtgefjidphfdhdaaGreatDoor.Na
namespace Go.Proofs.YtgefjidphfdhdaaGreatDoor.Na
open Go.KRun Go.Nt
set_option maxRecDepth 100000
set_option linter.unusedVariables false
def Z3T:Zag:=fun vals h s=>
 match vals,s with
 | [.slice p n c,.slice q n' c'],.inr (.inr (.inr (.inl true)))::s'=>some (.tuple #[Zs,Zs,Zcv 1],h,s',[(zG h p n c,true),(zG h q n' c',true),(ZN (Zj h p n) || ZN (Zj h q n'),true)])
 | [.slice p n c,.slice q n' c'],.inr (.inr (.inr (.inl false))):: .inr (.inr (.inr (.inl true)))::s'=>some (.tuple #[Zs,Zs,Zcv 5],h,s',[(zG h p n c,true),(zG h q n' c',true),(!(ZN (Zj h p n) || ZN (Zj h q n')) && decide (n'=0),true)])
 | [.slice p n c,.slice q n' c'],.inr (.inr (.inr (.inl false))):: .inr (.inr (.inr (.inl false))):: .inr (.inr (.inr (.inl true))):: .inr (.inl U)::s'=>some (.tuple #[Zs,sl h.n 0 (Zc (dg (n+1) U)) (n+1),.nilIface],h.push (wU (dg (n+1) U)) tU,s',[(decide (Zj h p n++[0]=dg (n+1) U),true),(zG h p n c,true),(zG h q n' c',true),(!(ZN (Zj h p n) || ZN (Zj h q n')) && decide (0<n'∧ZbP (Zj h p n) (Zj h q n')<0),true)])
 | [.slice p n c,.slice q n' c'],.inr (.inr (.inr (.inl false))):: .inr (.inr (.inr (.inl false))):: .inr (.inr (.inr (.inl false))):: .inr (.inl V):: .inr (.inl U)::s'=>some (.tuple #[sl h.n 0 (Zc (dg (n-n'+1) V)) (n-n'+1),sl (h.n+1) 0 (Zc (dg (n+1) U)) (n+1),.nilIface],(h.push (wU (dg (n-n'+1) V)) tU).push (wU (dg (n+1) U)) tU,s',[(decide (vN (Zj h p n)/vN (Zj h q n')=V∧vN (Zj h p n) % vN (Zj h q n')=U),true),(zG h p n c,true),(zG h q n' c',true),(!(ZN (Zj h p n) || ZN (Zj h q n')) && decide (0<n'∧¬ ZbP (Zj h p n) (Zj h q n')<0),true)])
 | _,_=>none
theorem ZuN:Z8 152 Z3T:=by
 intro vals h s v h' s' lg hg hl;unfold Z3T at hg;split at hg
 ·cases hg;exact Zil _ h [cmp true] _ _ [] _ rfl hl
 ·cases hg;exact Zil _ h [cmp false,cmp true] _ _ [] _ rfl hl
 ·rename_i p n c q n' c' U s3;cases hg;obtain⟨l1,l2⟩:=Zsk hl;have l1:=Xc l1;refine Zil _ h [cmp false,cmp false,cmp true] _ _ [] _ ?_ l2;simp only[gDm,l1]
 ·cases hg;exact Zil _ h [cmp false,cmp false,cmp false,num _,num _] _ _ [] _ rfl hl
 ·cases hg
def IsR (H:Hp) (p:Option Addr) (n c V:Nat):Prop:=zG H p n c=true∧Zaa H p n c=true∧Zj H p n=d32 V∧n=(d32 V).length∧n≤1000
theorem Zhd {H:Hp}{b V m:Nat}(hb:H.blk? b=some (wU (dg m (V:Int)),tU)) (hV:V<4294967296^m) (hm:m≤1000):IsR H (some ⟨b,0,none⟩) (Zc (dg m (V:Int))) m V:=by
 have h32:=Z3s hb hV hm;have ht:=zm (dg m (V:Int));have hl:=ZP m (V:Int);refine⟨?_,h32.1,h32.2,?_,by omega⟩
 ·unfold zG;simp only[hb];exact zF (ZaA _ _) (by omega) (by omega) (zC (by omega))
 ·rw[← h32.2];have:=zK h32.1;omega
section
variable {H : Hp} {p q : Option Addr} {n c n' c' V W : Nat}
theorem Zgc (V:Nat):vN (d32 V)=(V:Int):=by
 rw[Zjq (ZgU V)];exact congrArg _ (ZbH (by omega) V)
theorem Zco (V:Nat):ZaJ (d32 V):=by
 have h:=ZfP (b:=4294967296) (by omega) V;refine⟨ZgU V,?_⟩;have ht:=Zbx (d32 V);rw[show Zc (d32 V)=(d32 V).length from h.2] at ht;exact ht
theorem IsR.good (h:IsR H p n c V):ZN (Zj H p n)=false:=by
 have hl:(Zj H p n).length=n:=by rw[h.2.2.1];exact h.2.2.2.1.symm
 have h8:=h.2.2.2.2;have hc:=Zco V;rw[← h.2.2.1] at hc;unfold ZN;rw[Xb (by omega),Bool.false_or];rcases hc.2 with h0 | h0
 ·rw[Xb (by omega)];rfl
 ·rw[beq_eq_false_iff_ne.2 h0,Bool.and_false]
theorem rX (h:IsR H p n c V):zG H p n c=true:=h.1
theorem rOr (h:IsR H p n c V) (g:IsR H q n' c' W):(ZN (Zj H p n) || ZN (Zj H q n'))=false:=by rw[h.good,g.good];rfl
theorem ZuO (h:IsR H p n c V) (g:IsR H q n' c' W):decide (ZgY (Zj H p n) (Zj H q n')=dg (n+n') ((V*W:Nat):Int))=true:=by
 refine Xa ?_;unfold ZgY;rw[h.2.2.1,g.2.2.1,Zgc,Zgc,← h.2.2.2.1,← g.2.2.2.1,Int.natCast_mul]
theorem Z3U (h:IsR H p n c V) (g:IsR H q n' c' W):ZbP (Zj H p n) (Zj H q n')=Zac V W:=by
 rw[h.2.2.1,g.2.2.1,ZtG (Zco V) (Zco W),show vb 4294967296 (d32 V)=V from ZbH (by omega) V,show vb 4294967296 (d32 W)=W from ZbH (by omega) W];rfl
theorem rG (h:IsR H p n c V) (g:IsR H q n' c' W) (hp:0<n') (hle:W≤V):(!(ZN (Zj H p n) || ZN (Zj H q n')) && decide (0<n'∧¬ ZbP (Zj H p n) (Zj H q n')<0))=true:=by
 rw[rOr h g,Z3U h g,Xa ⟨hp,by unfold Zac;rw[if_neg (by omega)];split<;>omega⟩];rfl
theorem Z63 (h:IsR H p n c V) (g:IsR H q n' c' W):decide (vN (Zj H p n)/vN (Zj H q n')=((V/W:Nat):Int)∧vN (Zj H p n) % vN (Zj H q n')=((V % W:Nat):Int))=true:=by
 rw[h.2.2.1,g.2.2.1,Zgc,Zgc];exact Xa ⟨(Int.natCast_ediv V W).symm,(Int.natCast_emod V W).symm⟩
end
end Go.Proofs.YtgefjidphfdhdaaGreatDoor.Na
namespace Go.Proofs.YtgefjidphfdhdaaGreatDoor.Na
open Go.Proofs.Tryz
open Go.KRun Go.Nt
set_option maxRecDepth 100000
set_option linter.unusedVariables false
theorem Z3V (u:Int):ZH (Zr (Zo prog Zg Zn true) 3000 126 [.int .u64 u] [tst false,tst false,tst false,tst false]) (ZeN 0 u) [lt8 u,geq u 256 false,geq u 65536 false,geq u 4294967296 false,nz]:=by and_intros<;>kernel_rfl
theorem Z3W (u:Int):ZH (Zr (Zo prog Zg Zn true) 3000 126 [.int .u64 u] [tst false,tst false,tst false,tst true]) (ZeN 8 (shd u 8)) [lt8 (shd u 8),nz,geq u 256 true,geq u 65536 false,geq u 4294967296 false,nz]:=by and_intros<;>kernel_rfl
theorem Zmg (u:Int) (h0:0≤u) (h1:u<65536) (w:World):Calls prog 126 #[.int .u64 u] w fun e w'=>e= .returned (.int .i64 (bitLen u.toNat:Nat))∧zH w w':=by
 obtain⟨U,rfl⟩:=Int.eq_ofNat_of_zero_le h0;rw[Xg];have p8:(2:Nat)^8=256:=rfl;have step:∀ {v:Value}{s:List Dec}{cs:Log},ZH (Zr (Zo prog Zg Zn true) 3000 126 [.int .u64 (U:Int)] s) v cs→Zu cs→v= .int .i64 (bitLen U:Nat)→Calls prog 126 #[.int .u64 (U:Int)] w fun e w'=>e= .returned (.int .i64 (bitLen U:Nat))∧zH w w':=
  fun {v s cs} hf hc hv=>by subst hv;exact Zf (Zl Ze) hf hc (by rfl) (by rfl) w
 by_cases c:U<256
 ·obtain⟨e1,e2⟩:=zQ (m:=0) (by omega) (by omega) c;exact step (Z3V U) (Zi e2 (Zi (ZeO (by omega)) (Zi (ZeO (by omega)) (Zi (ZeO (by omega)) (Zv ZaQ))))) (by rw[e1];congr 1;omega)
 ·have l:=Za3 U 8 (by omega);obtain⟨e1,e2⟩:=zQ (m:=8) (Z:=U/2^8) (by omega) (by omega) (by omega);rw[← ZdE] at e1 e2;exact step (Z3W U) (Zi e2 (Zi ZaQ (Zi (Zl5 (by omega)) (Zi (ZeO (by omega)) (Zi (ZeO (by omega)) (Zv ZaQ)))))) (by rw[e1];congr 1;omega)
def ZuP:Ans:=fun vals s=>
 match vals with
 | [.int .u64 x]=>some (.int .i64 (bitLen x.toNat:Nat),s,[(decide (0≤x∧x<65536),true)])
 | _=>none
theorem Zqt:z8 126 ZuP:=by
 intro vals s v s' lg h hl w;unfold ZuP at h;split at h
 ·cases h;have hr:=hl _ Xf;simp only[Xi] at hr;exact Zmg _ hr.1 hr.2 w
 ·cases h
def Za6:Con:=alt 126 ZuP Zn
theorem Zqu:ConOk Za6:=ZF func126 rfl Zqt Ze
def Z2q:Hc:=zx 131 ZfE hcN
theorem ZuQ:HcOk Z2q:=Zt func131 rfl Zb9 zw
theorem ZuR:f79.body=some (Zq f79):=by kernel_rfl
end Go.Proofs.YtgefjidphfdhdaaGreatDoor.Na
namespace Go.Proofs.YtgefjidphfdhdaaGreatDoor.Na
open Go.Proofs.Tryz
open Go.IntKind
open Go.KRun Go.Nt
set_option maxRecDepth 100000
set_option linter.unusedVariables false
def o2 (x:Int):List Int:=[u32.wrap x,u32.wrap (x.fdiv (2^min (32:Int).toNat 64))]
theorem Z3X (x:Int):Zh (evC (Zm prog Zg Zn Z2q) 100 false (Zq f79) ([.int .u64 x]++List.replicate 9 undef,⟨0,[]⟩,[]) ⟨[],[],[]⟩) 3 7 (some none) [.int .u64 x,.tuple #[],sl 0 0 (Zc (Zx (wU (o2 x)) 0 2)) 2] ⟨1,[(wU (o2 x),tU)]⟩ [(Z0 tU (wU (o2 x)) 0 2 2,true),(decide ((32:Int)<0),false)]:=by and_intros<;>kernel_rfl
theorem Z3Y {x:Int}(h0:0≤x) (h1:x<18446744073709551616):o2 x=dg 2 x:=by
 have e:(2:Int)^min (32:Int).toNat 64=4294967296:=rfl;unfold o2;rw[e,Int.fdiv_eq_ediv_of_nonneg _ (by omega)];simp only[dg];have w:∀ z:Int,u32.wrap z=z % 4294967296:=fun z=>by simp [IntKind.wrap,IntKind.bits,IntKind.signed]
 rw[w,w]
def Zzu:Zag:=fun vals h s=>
 match vals with
 | [.int .u64 x]=>some (sl h.n 0 (Zc (dg 2 x)) 2,h.push (wU (dg 2 x)) tU,s,[(decide (0≤x∧x<18446744073709551616),true)])
 | _=>none
theorem Zhe:Z8 79 Zzu:=by
 intro vals h s v h' s' lg hg hl m B w E hv;have hr0:(⟨0,[]⟩:Hp).rows:=⟨rfl,fun b x hx=>by have:b<0:=Hp.blk_lt hx;omega⟩;unfold Zzu at hg;split at hg
 ·rename_i x;cases hg;have q:=Xc (hl _ Xf);have hg:=Z3X x;have hl2:=ZP 2 x;have ec:Zx (wU (dg 2 x)) 0 2=dg 2 x:=by
   have:=ZaO (dg 2 x);rw[hl2] at this;exact this
  rw[Z3Y q.1 q.2,ec] at hg;have hok:Z0 tU (wU (dg 2 x)) 0 2 2=true:=zF (ZaA _ _) (by omega) (by omega) (zC (by omega));have r:RunsW (Zm prog Zg Zn Z2q) (Zq f79) ([.int .u64 x]++List.replicate 9 undef,⟨0,[]⟩,[]) fun e z=>(e=none∨e=some none)∧zd prog f79 z.1 z.2.1=some (sl 0 0 (Zc (dg 2 x)) 2)∧∃ r,z.2.1.blk? 0=some (wU (dg 2 x)++r,tU):=by
   refine (Zd (Zp Ze ZuQ) hg (Za hok (ZB (by decide)))).mono fun e z he=> ?_;obtain⟨rfl,⟨g,e1⟩,e2⟩:=he;exact⟨.inr rfl,by rw[e1,e2];rfl,[],by rw[e2,List.append_nil];rfl⟩
  exact ZL (T:=Zm prog Zg Zn Z2q) func79 ZuR hr0 (vals:=[.int .u64 x]) (fun v hv=>by rw[List.mem_singleton.1 hv];rfl) (k:=0) (cs:=wU (dg 2 x)) (ty:=tU) (ZbR _) (by kernel_rfl) r (by simp [oc,oc2,oc1,sl]) E (s:=fun i=>i) (fun i x hx _=>by have:i<0:=Hp.blk_lt hx;omega)
 ·cases hg
def hcQ:Hc:=zx 79 Zzu (zx 127 ZyV hcN)
theorem Zzv:HcOk hcQ:=Zt func79 rfl Zhe (Zt func127 rfl Zhb zw)
end Go.Proofs.YtgefjidphfdhdaaGreatDoor.Na
namespace Go.Proofs.YtgefjidphfdhdaaGreatDoor
open Go.Proofs.Tryz
open Go.KRun Go.Nt
set_option maxRecDepth 100000
set_option linter.unusedVariables false
theorem ZuS {x:Bool×Bool}{l:Log}(h:Zu (x::l)):x.1=x.2∧Zu l:=⟨h _ Xe,fun y hy=>h y (Xd _ hy)⟩
def ZuT:Zag:=fun vals h s=>
 match vals,s with
 | [.slice p n c,.int .u32 b,.int .u32 e],.inr (.inr (.inr (.inl d)))::s'=>
  match d,s' with
  | true,.inr (.inl V)::s2=>ZcV V.toNat h s2 [(decide (vO h p n*b.toNat+e.toNat=V.toNat),true),(ZbV h p n c b e,true),(decide (0<n∨0<e),true)]
  | false,_=>some (Zs,h,s',[(ZbV h p n c b e,true),(decide (0<n∨0<e),false)])
  | _,_=>none
 | _,_=>none
theorem Zqv:Z8 70 ZuT:=by
 intro vals h s v h' s' lg hg hl;unfold ZuT at hg;split at hg
 ·rename_i p n c b e d s2;split at hg
  ·rename_i V s3;unfold ZcV at hg;cases hg;obtain⟨l1,l2⟩:=ZuS hl;have l1:=Xc l1;refine ZgS _ h [cmp true] _ _ [] _ ?_ l2;simp only[Z2n,ZcV,l1]
  ·cases hg;exact ZgS _ h [cmp false] _ _ [] _ rfl hl
  ·cases hg
 ·cases hg
def Zim:Hc:=zx 70 ZuT hcN
theorem ZuU:HcOk Zim:=Zt func70 rfl Zqv zw
end Go.Proofs.YtgefjidphfdhdaaGreatDoor
namespace Go.Proofs.YtgefjidphfdhdaaGreatDoor
open Go.KRun Go.Nt
set_option maxRecDepth 100000
theorem ZeU {A k:Nat}(h:A<2^(16*k)):(d16 A).length≤k:=Zci (by omega) k A (by rw[Zt9];exact h)
theorem Zcp {h:Hp}{b A:Nat}{ty:TypeId}(hb:h.blk? b=some (wU (d16 A),ty)):Zj h (some ⟨b,0,none⟩) (d16 A).length=d16 A:=by
 simp only[Zj,hb];exact ZaO _
theorem Zsu {h:Hp}{b A:Nat}{ty:TypeId}(hb:h.blk? b=some (wU (d16 A),ty)):vO h (some ⟨b,0,none⟩) (d16 A).length=A:=by
 unfold vO;rw[Zcp hb];exact ZbH (by omega) A
theorem ZeV {h:Hp}{b A:Nat}(hb:h.blk? b=some (wU (d16 A),tU)) (hl:(d16 A).length<1073741824):Zaa h (some ⟨b,0,none⟩) (d16 A).length (d16 A).length=true:=by
 simp only[Zaa,hb,Xh];refine⟨Zah (fun x hx=>⟨(ZaP A x hx).1,by have:=(ZaP A x hx).2;omega⟩) (by omega) ?_,List.all_eq_true.2 (ZG _)⟩;unfold Zc4;simp only[Bool.or_eq_true,Xh];exact .inl ⟨Zk.2 (by unfold ZT;omega),Nat.ble_eq_true_of_le (Nat.le_refl _)⟩
theorem ZuV {h:Hp}{b A:Nat}{ty:TypeId}(hb:h.blk? b=some (wU (d16 A),ty)):dgB (Zj h (some ⟨b,0,none⟩) (d16 A).length)=true:=by
 rw[Zcp hb];exact Zes (ZaP A)
end Go.Proofs.YtgefjidphfdhdaaGreatDoor
namespace Go.Proofs.YtgefjidphfdhdaaGreatDoor
open Go.Proofs.Tryz
open Go.IntKind
open Go.KRun Go.Nt
set_option maxRecDepth 100000
set_option linter.unusedVariables false
def pwP (F:Func):List Code:=[Z1 (Zq F),Z1 (Zz (Zq F))]
def pwI (F:Func):Code:=Z1 (Z1 (Zz (Zz (Zq F))))
def pwL (F:Func):Code:=cIn (cIn (Zz (Z1 (Zz (Zz (Zq F))))))
def pwE (F:Func):Code:=Zz (Zz (Zz (Zq F)))
theorem Zmh:f67.body=some (zo (pwP f67) (.seq (.seq (pwI f67) (.block 0 (.loop (pwL f67)))) (pwE f67))):=by kernel_rfl
def wq (V:Nat):List Value×TypeId:=(wU (d16 V),tU)
def sq0 (V:Nat):Value:=sl 0 0 (d16 V).length (d16 V).length
def pwF (b n:Int) (out:Value) (i:Int):List Value:=[.int .u32 b,.int .i64 n,.tuple #[],.tuple #[],Zs,out,.int .i64 i]
theorem Zzw (b n:Int):Zh (evL (Zm prog Zg Zn Zim) 100 (pwP f67) ([.int .u32 b,.int .i64 n]++List.replicate 15 undef,⟨0,[]⟩,[]) ⟨[],[],[]⟩) 6 11 none [.int .u32 b,.int .i64 n,.tuple #[],.tuple #[],Zs,sq0 1] ⟨1,[wq 1]⟩ []:=by and_intros<;>kernel_rfl
theorem Z64 (v0 v1 v2 v3 v4 v5:Value) (g:Nat→Value) (h:Hp):Zh (evC (Zm prog Zg Zn Zim) 100 false (pwI f67) ([v0,v1,v2,v3,v4,v5]++tl 11 g,h,[]) ⟨[],[],[]⟩) 7 10 none [v0,v1,v2,v3,v4,v5,.int .i64 0] h []:=by and_intros<;>kernel_rfl
def pA (V:Nat):Hp:=⟨1,[wq V]⟩
theorem Z3Z (b n i:Int) (V W:Nat) (g:Nat→Value):Zh (evC (Zm prog Zg Zn Zim) 100 false (pwL f67) (pwF b n (sq0 V) i++tl 10 g,pA V,[cmp true,cmp true,num W]) ⟨[],[],[]⟩) 7 10 none (pwF b n (sl 1 0 (d16 W).length (d16 W).length) (i64.wrap (i+1))) ⟨2,[wq W,wq V]⟩ [(decide (vO (pA V) (some ⟨0,0,none⟩) (d16 V).length*b.toNat+(0:Int).toNat=W),true),(ZbV (pA V) (some ⟨0,0,none⟩) (d16 V).length (d16 V).length b 0,true),(decide (0<(d16 V).length∨0<(0:Int)),true),(decide (i<n),true)]:=by and_intros<;>kernel_rfl
theorem Z4a (b n i:Int) (V:Nat) (g:Nat→Value):Zh (evC (Zm prog Zg Zn Zim) 100 false (pwL f67) (pwF b n (sq0 V) i++tl 10 g,pA V,[cmp true,cmp false]) ⟨[],[],[]⟩) 7 10 none (pwF b n Zs (i64.wrap (i+1))) (pA V) [(ZbV (pA V) (some ⟨0,0,none⟩) (d16 V).length (d16 V).length b 0,true),(decide (0<(d16 V).length∨0<(0:Int)),false),(decide (i<n),true)]:=by and_intros<;>kernel_rfl
theorem Z4b (b n i:Int) (V:Nat) (g:Nat→Value):Zh (evC (Zm prog Zg Zn Zim) 100 false (pwL f67) (pwF b n Zs i++tl 10 g,pA V,[cmp true,cmp false]) ⟨[],[],[]⟩) 7 10 none (pwF b n Zs (i64.wrap (i+1))) (pA V) [(ZbV (pA V) none 0 0 b 0,true),(decide (0<0∨0<(0:Int)),false),(decide (i<n),true)]:=by and_intros<;>kernel_rfl
theorem Z6b (b n i:Int) (v:Value) (h:Hp) (g:Nat→Value):Zh (evC (Zm prog Zg Zn Zim) 100 false (pwL f67) (pwF b n v i++tl 10 g,h,[cmp false]) ⟨[],[],[]⟩) 7 10 (some (some 0)) (pwF b n v i) h [(decide (i<n),false)]:=by and_intros<;>kernel_rfl
theorem Z6c (b n i:Int) (v:Value) (h:Hp) (g:Nat→Value):Zh (evC (Zm prog Zg Zn Zim) 100 false (pwE f67) (pwF b n v i++tl 10 g,h,[]) ⟨[],[],[]⟩) 5 12 (some none) [.int .u32 b,.int .i64 n,.tuple #[],.tuple #[],v] h []:=by and_intros<;>kernel_rfl
def pwS (b n i:Nat) (y:Lf):Prop:=(¬ (b=0∧2≤i)∧∃ g,y.1=pwF b n (sq0 (b^i)) i++tl 10 g∧y.2.1=pA (b^i))∨((b=0∧2≤i)∧∃ g V,y.1=pwF b n Zs i++tl 10 g∧y.2.1=pA V)
theorem ZeW:TabOk (Zm prog Zg Zn Zim):=Zp Ze ZuU
theorem Zzx {b i k:Nat}(hb:b<4294967296) (hi:2*i<k):b^i<2^(16*k):=by
 have h1:b^i≤(2^32)^i:=Nat.pow_le_pow_left (by have:(2:Nat)^32=4294967296:=rfl;omega) i;rw[← Nat.pow_mul] at h1;exact Nat.lt_of_le_of_lt h1 (Nat.pow_lt_pow_right (by omega) (by omega))
theorem Zzy (b n:Int) {s:Value}(i:Int) (hs:lt 1 s=true):∀ v∈pwF b n s i,lt 1 v=true:=by
 intro v hv;unfold pwF at hv;simp only[List.mem_cons,List.not_mem_nil,or_false] at hv;rcases hv with rfl | rfl | rfl | rfl | rfl | rfl | rfl<;>first | rfl | exact hs
theorem Zqw {b n i:Nat}(hb:b<4294967296) (hn:n≤20000) (hi:i<n) {y:Lf}(h:pwS b n i y):RunsW (Zm prog Zg Zn Zim) (pwL f67) y fun e z=>e=none∧pwS b n (i+1) z:=by
 obtain⟨t,h',s⟩:=y;have ei:i64.wrap ((i:Int)+1)=((i+1:Nat):Int):=by rw[Zw (by omega) (by omega)];omega
 have hlt:decide ((i:Int)<(n:Int))=true:=Xa (by omega);rcases h with ⟨hA,g,ht,hh⟩ | ⟨hB,g,V,ht,hh⟩
 ·simp only at ht hh;subst ht hh;have lV:=ZeU (Zzx (b:=b) (i:=i) (k:=2*i+1) hb (by omega));have hk:ZbV (pA (b^i)) (some ⟨0,0,none⟩) (d16 (b^i)).length (d16 (b^i)).length (b:Int) 0=true:=by
   unfold ZbV;rw[ZeV (h:=pA (b^i)) (b:=0) (A:=b^i) rfl (by omega),ZuV (h:=pA (b^i)) (b:=0) (A:=b^i) (ty:=tU) rfl,Zk.2 (by omega),Xa ⟨⟨by omega,by omega⟩,by omega,by omega⟩];rfl
  by_cases hz:b^i=0
  ·have h1:¬ 0<(d16 (b^i)).length:=by rw[hz,show d16 0=[] from zj 65536];decide
   have hg:=Z4a b n i (b^i) g;rw[ei] at hg;refine (Zd (s0:=s) ZeW hg (Za hk (Za (Xb (by omega)) (ZB hlt)))).mono fun e z hz'=> ?_;obtain⟨rfl,⟨g',e1⟩,e2⟩:=hz';have b0:b=0:=by
    rcases Nat.eq_zero_or_pos b with h0 | h0
    ·exact h0
    ·have:=Nat.pow_pos (n:=i) h0;omega
   have i1:1≤i:=by
    rcases Nat.eq_zero_or_pos i with h0 | h0
    ·subst h0;rw[Nat.pow_zero] at hz;omega
    ·exact h0
   exact⟨rfl,.inr ⟨⟨b0,by omega⟩,g',_,e1,e2⟩⟩
  ·have h1:0<(d16 (b^i)).length:=by
    unfold d16;rw[List.length_pos_iff,ne_eq,ZcM (by omega)];exact hz
   have hg:=Z3Z b n i (b^i) (b^(i+1)) g;rw[ei] at hg;have:=(Zd (s0:=s) ZeW hg (Za (Xa (by rw[Zsu (h:=pA (b^i)) (b:=0) (A:=b^i) (ty:=tU) rfl,Nat.pow_succ];rfl)) (Za hk (Za (Xa (.inl h1)) (ZB hlt))))).kept (k:=0) (b:=1) (base:=[]) (y:=wq (b^(i+1))) (front':=pwF b n (sq0 (b^(i+1))) ((i+1:Nat):Int)) rfl (by kernel_rfl) (fun j x hx=>by have:j<0:=Hp.blk_lt hx;omega) rfl (by omega) (ZG _) (Zzy _ _ _ rfl);refine this.mono fun e z hz'=> ?_;obtain⟨rfl,⟨g',e1⟩,e2⟩:=hz';refine⟨rfl,.inl ⟨fun hc=> ?_,g',e1,e2⟩⟩;obtain⟨b0,i2⟩:=hc;apply hz;rw[b0,Nat.zero_pow (by omega)]
 ·simp only at ht hh;subst ht hh;have hk:ZbV (pA V) none 0 0 (b:Int) 0=true:=by
   unfold ZbV;rw[show Zaa (pA V) none 0 0=true from rfl,show dgB (Zj (pA V) none 0)=true from rfl,Zk.2 (by omega),Xa ⟨⟨by omega,by omega⟩,by omega,by omega⟩];rfl
  have hg:=Z4b b n i V g;rw[ei] at hg;refine (Zd (s0:=s) ZeW hg (Za hk (Za (by decide) (ZB hlt)))).mono fun e z hz'=> ?_;obtain⟨rfl,⟨g',e1⟩,e2⟩:=hz';exact⟨rfl,.inr ⟨⟨hB.1,by omega⟩,g',V,e1,e2⟩⟩
theorem Zmi {b n:Nat}(hb:b<4294967296) (hn:n≤20000):RunsW (Zm prog Zg Zn Zim) (zo (pwP f67) (.seq (.seq (pwI f67) (.block 0 (.loop (pwL f67)))) (pwE f67))) ([.int .u32 (b:Int),.int .i64 (n:Int)]++List.replicate 15 undef,⟨0,[]⟩,[]) fun e z=>(e=none∨e=some none)∧((¬ (b=0∧2≤n)∧zd prog f67 z.1 z.2.1=some (sq0 (b^n))∧∃ r,z.2.1.blk? 0=some (wU (d16 (b^n))++r,tU))∨((b=0∧2≤n)∧zd prog f67 z.1 z.2.1=some Zs)):=by
 refine ZA ZeW (Zzw b n) (fun x hx=>by cases hx) fun g=> ?_;refine RunsW.seq (P1:=fun e y=>e=none∧pwS b n n y) ?_ ?_ (fun e y hy=>by cases hy.1)
 ·refine RunsW.seq (Zd ZeW (Z64 _ _ _ _ _ _ g _) (fun x hx=>by cases hx)) ?_ (fun e y hy=>by cases hy.1);rintro⟨t,h',s⟩ ⟨_,⟨g',ht⟩,hh⟩;simp only at ht hh;subst ht hh;have lp:=RunsW.forLoop (T:=Zm prog Zg Zn Zim) (c:=pwL f67) (id:=0) (P:=pwS b n n) (R:=fun _=>False) (fun k y=>∃ i,k=n-i∧i≤n∧pwS b n i y) (x:=(pwF b n (sq0 1) 0++tl 10 g',pA 1,s)) ?_ (n:=n) ⟨0,by omega,by omega,.inl ⟨by omega,g',by rw[Nat.pow_zero];rfl,by rw[Nat.pow_zero]⟩⟩
  ·refine lp.mono fun e z hz=> ?_
   match e,hz with
   | none,hz=>exact⟨rfl,hz⟩
   | some none,hz=>exact hz.elim
   | some (some _),hz=>exact hz.elim
  ·rintro k y ⟨i,hk,hi,hy⟩;by_cases hlt:i<n
   ·refine (Zqw hb hn hlt hy).mono fun e z hz=> ?_;obtain⟨rfl,hz⟩:=hz;exact⟨n-(i+1),by omega,i+1,rfl,by omega,hz⟩
   ·have e:i=n:=by omega
    subst e;obtain⟨t,h',s⟩:=y;rcases hy with ⟨hA,g,ht,hh⟩ | ⟨hB,g,V,ht,hh⟩
    ·simp only at ht hh;subst ht hh;refine (Zd ZeW (Z6b b i i _ _ g) (ZB (Xb (by omega)))).mono fun e z hz=> ?_;obtain⟨rfl,⟨g',e1⟩,e2⟩:=hz;exact⟨rfl,.inl ⟨hA,g',e1,e2⟩⟩
    ·simp only at ht hh;subst ht hh;refine (Zd ZeW (Z6b b i i _ _ g) (ZB (Xb (by omega)))).mono fun e z hz=> ?_;obtain⟨rfl,⟨g',e1⟩,e2⟩:=hz;exact⟨rfl,.inr ⟨hB,g',V,e1,e2⟩⟩
 ·rintro⟨t,h',s⟩ ⟨_,hy⟩;rcases hy with ⟨hA,g,ht,hh⟩ | ⟨hB,g,V,ht,hh⟩
  ·simp only at ht hh;subst ht hh;refine (Zd ZeW (Z6c b n n _ _ g) (fun x hx=>by cases hx)).mono fun e z hz=> ?_;obtain⟨rfl,⟨g',e1⟩,e2⟩:=hz;exact⟨.inr rfl,.inl ⟨hA,by rw[e1,e2];rfl,[],by rw[e2,List.append_nil];rfl⟩⟩
  ·simp only at ht hh;subst ht hh;refine (Zd ZeW (Z6c b n n _ _ g) (fun x hx=>by cases hx)).mono fun e z hz=> ?_;obtain⟨rfl,⟨g',e1⟩,e2⟩:=hz;exact⟨.inr rfl,.inr ⟨hB,by rw[e1,e2];rfl⟩⟩
def Zin (b n:Int):Bool:=decide (0≤b∧b<4294967296∧0≤n∧n≤20000)
def ZuW:Zag:=fun vals h s=>
 match vals,s with
 | [.int .u32 b,.int .i64 n],.inr (.inr (.inr (.inl d)))::s'=>
  match d,s' with
  | true,.inr (.inl V)::s2=>ZcV V.toNat h s2 [(decide (b.toNat^n.toNat=V.toNat),true),(Zin b n,true),(decide (b=0∧2≤n),false)]
  | false,_=>some (Zs,h,s',[(Zin b n,true),(decide (b=0∧2≤n),true)])
  | _,_=>none
 | _,_=>none
theorem Zqx:Z8 67 ZuW:=by
 intro vals h s v h' s' lg hg hl m B w E hv;have hr0:(⟨0,[]⟩:Hp).rows:=⟨rfl,fun b x hx=>by have:b<0:=Hp.blk_lt hx;omega⟩;unfold ZuW at hg;split at hg
 ·rename_i b n d s2;split at hg
  ·rename_i V s3;unfold ZcV at hg;cases hg;have l1:=Xc (hl _ Xe);have l2:=Xc (hl _ (Xd _ Xe));have l3:=hl _ (Xd _ (Xd _ Xf));have l3:=of_decide_eq_false l3;obtain⟨b',rfl⟩:=Int.eq_ofNat_of_zero_le l2.1;obtain⟨n',rfl⟩:=Int.eq_ofNat_of_zero_le l2.2.2.1;rw[Xg,Xg] at l1;rw[← l1];have r:=(Zmi (b:=b') (n:=n') (by omega) (by omega)).mono (P':=fun e z=>(e=none∨e=some none)∧zd prog f67 z.1 z.2.1=some (sq0 (b'^n'))∧∃ r,z.2.1.blk? 0=some (wU (d16 (b'^n'))++r,tU)) fun e z hz=>⟨hz.1,by
    rcases hz.2 with ⟨_,q⟩ | ⟨q,_⟩
    ·exact q
    ·exact absurd q (by omega)⟩
   have:=ZL (T:=Zm prog Zg Zn Zim) func67 Zmh hr0 (vals:=[.int .u32 (b':Int),.int .i64 (n':Int)]) (fun v hv=>by
    simp only[List.mem_cons,List.not_mem_nil,or_false] at hv;rcases hv with rfl | rfl<;>rfl) (k:=0) (cs:=wU (d16 (b'^n'))) (ty:=tU) (ZbR _) (by kernel_rfl) r (by simp [oc,oc2,oc1,sq0,sl]) E (s:=fun i=>i) (fun i x hx _=>by have:i<0:=Hp.blk_lt hx;omega)
   exact this
  ·cases hg;have l2:=Xc (hl _ Xe);have l3:=Xc (hl _ (Xd _ Xf));obtain⟨b',rfl⟩:=Int.eq_ofNat_of_zero_le l2.1;obtain⟨n',rfl⟩:=Int.eq_ofNat_of_zero_le l2.2.2.1;have r:=(Zmi (b:=b') (n:=n') (by omega) (by omega)).mono (P':=fun e z=>(e=none∨e=some none)∧zd prog f67 z.1 z.2.1=some Zs) fun e z hz=>⟨hz.1,by
    rcases hz.2 with ⟨q,_⟩ | ⟨_,q⟩
    ·exact absurd (show b'=0∧2≤n' by omega) q
    ·exact q⟩
   have:=ZI (T:=Zm prog Zg Zn Zim) func67 Zmh hr0 (vals:=[.int .u32 (b':Int),.int .i64 (n':Int)]) (fun v hv=>by
    simp only[List.mem_cons,List.not_mem_nil,or_false] at hv;rcases hv with rfl | rfl<;>rfl) (v:=Zs) (by rfl) r E (s:=fun i=>i) (fun i x hx _=>by have:i<0:=Hp.blk_lt hx;omega)
   exact this
  ·cases hg
 ·cases hg
end Go.Proofs.YtgefjidphfdhdaaGreatDoor
namespace Go.Proofs.YtgefjidphfdhdaaGreatDoor.Na
open Go.Proofs.Tryz
open Go.IntKind
open Go.KRun Go.Nt
set_option maxRecDepth 100000
set_option linter.unusedVariables false
def qsn (k:Nat) (F:Func):Code:=match k with | 0=>Zq F | k+1=>Zz (qsn k F)
def qP (F:Func):List Code:=[Z1 (qsn 0 F),Z1 (qsn 1 F),Z1 (qsn 2 F),Z1 (qsn 3 F)]
def qI (F:Func):Code:=Z1 (Z1 (qsn 4 F))
def qL (F:Func):Code:=cIn (cIn (Zz (Z1 (qsn 4 F))))
def qE (F:Func):Code:=qsn 5 F
theorem Zmj:f76.body=some (zo (qP f76) (.seq (.seq (qI f76) (.block 0 (.loop (qL f76)))) (qE f76))):=by kernel_rfl
theorem Zqy:f76.body=some (Zq f76):=by kernel_rfl
def w32 (m:Nat) (V:Nat):List Value×TypeId:=(wU (dg m (V:Int)),tU)
def s32 (k m V:Nat):Value:=sl k 0 (Zc (dg m (V:Int))) m
def qF (b n:Int) (P O:Value) (i:Int):List Value:=[.int .u32 b,.int .i64 n,.tuple #[],.tuple #[],Zs,.nilIface,P,O,.nilIface,.int .i64 i]
def Q2 (b:Nat):Hp:=⟨2,[w32 2 b,w32 2 1]⟩
def Q3 (b m V:Nat):Hp:=⟨3,[w32 m V,w32 2 b,w32 2 1]⟩
def Q4 (b m V M S:Nat):Hp:=⟨4,[w32 M S,w32 m V,w32 2 b,w32 2 1]⟩
def Zio (n i:Int):Int:=i64.wrap ((BitVec.ofInt 64 (n.fdiv (2^min i.toNat 64)) &&& BitVec.ofInt 64 1).toNat:Nat)
def q0F (b n:Int) (O:Value):List Value:=[.int .u32 b,.int .i64 n,.tuple #[],.tuple #[],Zs,.nilIface,s32 0 2 1,O,.nilIface]
theorem Zzz (b:Nat) (n:Int):Zh (evL (Zm prog Zg Za6 hcQ) 100 (qP f76) ([.int .u32 (b:Int),.int .i64 n]++List.replicate 54 undef,⟨0,[]⟩,[cmp false,cmp false]) ⟨[],[],[]⟩) 9 47 none (q0F b n (sl 1 0 (Zc (dg 2 (u64.wrap (b:Int)))) 2)) ⟨2,[(wU (dg 2 (u64.wrap (b:Int))),tU),w32 2 1]⟩ [(decide (0≤u64.wrap (b:Int)∧u64.wrap (b:Int)<18446744073709551616),true),(decide (0≤(1:Int)∧(1:Int)<18446744073709551616),true),(decide (n>1000000),false),(decide (n<0),false)]:=by and_intros<;>kernel_rfl
theorem Z65 (b:Nat) (n:Int) (O:Value) (g:Nat→Value) (h:Hp):Zh (evC (Zm prog Zg Za6 hcQ) 100 false (qI f76) (q0F b n O++tl 47 g,h,[]) ⟨[],[],[]⟩) 10 46 none (qF b n (s32 0 2 1) O (i64.wrap (((bitLen (u64.wrap n).toNat:Nat):Int)-1))) h [(decide (0≤u64.wrap n∧u64.wrap n<65536),true)]:=by and_intros<;>kernel_rfl
theorem ZuX (b n:Int):Zh (evC (Zm prog Zg Za6 hcQ) 100 false (Zq f76) ([.int .u32 b,.int .i64 n]++List.replicate 54 undef,⟨0,[]⟩,[cmp true]) ⟨[],[],[]⟩) 6 50 (some none) [.int .u32 b,.int .i64 n,.tuple #[],undef,Zs,Zcv 1] ⟨0,[]⟩ [(decide (n<0),true)]:=by and_intros<;>kernel_rfl
theorem ZuY (b n:Int):Zh (evC (Zm prog Zg Za6 hcQ) 100 false (Zq f76) ([.int .u32 b,.int .i64 n]++List.replicate 54 undef,⟨0,[]⟩,[cmp false,cmp true]) ⟨[],[],[]⟩) 6 50 (some none) [.int .u32 b,.int .i64 n,.tuple #[],undef,Zs,Zcv 1] ⟨0,[]⟩ [(decide (n>1000000),true),(decide (n<0),false)]:=by and_intros<;>kernel_rfl
theorem Z4c (n i:Int) (b m V S:Nat) (g:Nat→Value):Zh (evC (Zm prog Zg Za6 hcQ) 100 false (qL f76) (qF b n (s32 2 m V) (s32 1 2 b) i++tl 46 g,Q3 b m V,[cmp true,cmp false,num S,cmp false]) ⟨[],[],[]⟩) 10 46 none (qF b n (s32 3 (Zc (dg m (V:Int))+Zc (dg m (V:Int))) S) (s32 1 2 b) (i64.wrap (i-1))) (Q4 b m V (Zc (dg m (V:Int))+Zc (dg m (V:Int))) S) [(Zio n i==1,false),(decide (i<0),false),(decide (ZgY (Zj (Q3 b m V) (some ⟨2,0,none⟩) (Zc (dg m (V:Int)))) (Zj (Q3 b m V) (some ⟨2,0,none⟩) (Zc (dg m (V:Int))))=dg (Zc (dg m (V:Int))+Zc (dg m (V:Int))) (S:Int)),true),(zG (Q3 b m V) (some ⟨2,0,none⟩) (Zc (dg m (V:Int))) (m),true),(zG (Q3 b m V) (some ⟨2,0,none⟩) (Zc (dg m (V:Int))) (m),true),(!decide (Zc (dg m (V:Int))=0∨Zc (dg m (V:Int))=0) && Nat.ble (Zc (dg m (V:Int))+Zc (dg m (V:Int))) 8192,true),(decide (i≥0),true)]:=by and_intros<;>kernel_rfl
theorem Z4d (n i:Int) (b m V S W:Nat) (g:Nat→Value):Zh (evC (Zm prog Zg Za6 hcQ) 100 false (qL f76) (qF b n (s32 2 m V) (s32 1 2 b) i++tl 46 g,Q3 b m V,[cmp true,cmp false,num S,cmp true,cmp false,num W]) ⟨[],[],[]⟩) 10 46 none (qF b n (s32 4 (Zc (dg (Zc (dg m (V:Int))+Zc (dg m (V:Int))) (S:Int))+Zc (dg 2 (b:Int))) W) (s32 1 2 b) (i64.wrap (i-1))) ⟨5,[w32 (Zc (dg (Zc (dg m (V:Int))+Zc (dg m (V:Int))) (S:Int))+Zc (dg 2 (b:Int))) W,w32 (Zc (dg m (V:Int))+Zc (dg m (V:Int))) S,w32 m V,w32 2 b,w32 2 1]⟩ [(decide (ZgY (Zj (Q4 b m V (Zc (dg m (V:Int))+Zc (dg m (V:Int))) S) (some ⟨3,0,none⟩) (Zc (dg (Zc (dg m (V:Int))+Zc (dg m (V:Int))) (S:Int)))) (Zj (Q4 b m V (Zc (dg m (V:Int))+Zc (dg m (V:Int))) S) (some ⟨1,0,none⟩) (Zc (dg 2 (b:Int))))=dg (Zc (dg (Zc (dg m (V:Int))+Zc (dg m (V:Int))) (S:Int))+Zc (dg 2 (b:Int))) (W:Int)),true),(zG (Q4 b m V (Zc (dg m (V:Int))+Zc (dg m (V:Int))) S) (some ⟨3,0,none⟩) (Zc (dg (Zc (dg m (V:Int))+Zc (dg m (V:Int))) (S:Int))) (Zc (dg m (V:Int))+Zc (dg m (V:Int))),true),(zG (Q4 b m V (Zc (dg m (V:Int))+Zc (dg m (V:Int))) S) (some ⟨1,0,none⟩) (Zc (dg 2 (b:Int))) (2),true),(!decide (Zc (dg (Zc (dg m (V:Int))+Zc (dg m (V:Int))) (S:Int))=0∨Zc (dg 2 (b:Int))=0) && Nat.ble (Zc (dg (Zc (dg m (V:Int))+Zc (dg m (V:Int))) (S:Int))+Zc (dg 2 (b:Int))) 8192,true),(Zio n i==1,true),(decide (i<0),false),(decide (ZgY (Zj (Q3 b m V) (some ⟨2,0,none⟩) (Zc (dg m (V:Int)))) (Zj (Q3 b m V) (some ⟨2,0,none⟩) (Zc (dg m (V:Int))))=dg (Zc (dg m (V:Int))+Zc (dg m (V:Int))) (S:Int)),true),(zG (Q3 b m V) (some ⟨2,0,none⟩) (Zc (dg m (V:Int))) (m),true),(zG (Q3 b m V) (some ⟨2,0,none⟩) (Zc (dg m (V:Int))) (m),true),(!decide (Zc (dg m (V:Int))=0∨Zc (dg m (V:Int))=0) && Nat.ble (Zc (dg m (V:Int))+Zc (dg m (V:Int))) 8192,true),(decide (i≥0),true)]:=by and_intros<;>kernel_rfl
theorem Z4e (n i:Int) (b S W:Nat) (g:Nat→Value):Zh (evC (Zm prog Zg Za6 hcQ) 100 false (qL f76) (qF b n (s32 0 2 1) (s32 1 2 b) i++tl 46 g,Q2 b,[cmp true,cmp false,num S,cmp true,cmp false,num W]) ⟨[],[],[]⟩) 10 46 none (qF b n (s32 3 (Zc (dg (Zc (dg 2 ((1:Nat):Int))+Zc (dg 2 ((1:Nat):Int))) (S:Int))+Zc (dg 2 (b:Int))) W) (s32 1 2 b) (i64.wrap (i-1))) ⟨4,[w32 (Zc (dg (Zc (dg 2 ((1:Nat):Int))+Zc (dg 2 ((1:Nat):Int))) (S:Int))+Zc (dg 2 (b:Int))) W,w32 (Zc (dg 2 ((1:Nat):Int))+Zc (dg 2 ((1:Nat):Int))) S,w32 2 b,w32 2 1]⟩ [(decide (ZgY (Zj (Q3 b (Zc (dg 2 ((1:Nat):Int))+Zc (dg 2 ((1:Nat):Int))) S) (some ⟨2,0,none⟩) (Zc (dg (Zc (dg 2 ((1:Nat):Int))+Zc (dg 2 ((1:Nat):Int))) (S:Int)))) (Zj (Q3 b (Zc (dg 2 ((1:Nat):Int))+Zc (dg 2 ((1:Nat):Int))) S) (some ⟨1,0,none⟩) (Zc (dg 2 (b:Int))))=dg (Zc (dg (Zc (dg 2 ((1:Nat):Int))+Zc (dg 2 ((1:Nat):Int))) (S:Int))+Zc (dg 2 (b:Int))) (W:Int)),true),(zG (Q3 b (Zc (dg 2 ((1:Nat):Int))+Zc (dg 2 ((1:Nat):Int))) S) (some ⟨2,0,none⟩) (Zc (dg (Zc (dg 2 ((1:Nat):Int))+Zc (dg 2 ((1:Nat):Int))) (S:Int))) (Zc (dg 2 ((1:Nat):Int))+Zc (dg 2 ((1:Nat):Int))),true),(zG (Q3 b (Zc (dg 2 ((1:Nat):Int))+Zc (dg 2 ((1:Nat):Int))) S) (some ⟨1,0,none⟩) (Zc (dg 2 (b:Int))) (2),true),(!decide (Zc (dg (Zc (dg 2 ((1:Nat):Int))+Zc (dg 2 ((1:Nat):Int))) (S:Int))=0∨Zc (dg 2 (b:Int))=0) && Nat.ble (Zc (dg (Zc (dg 2 ((1:Nat):Int))+Zc (dg 2 ((1:Nat):Int))) (S:Int))+Zc (dg 2 (b:Int))) 8192,true),(Zio n i==1,true),(decide (i<0),false),(decide (ZgY (Zj (Q2 b) (some ⟨0,0,none⟩) (Zc (dg 2 ((1:Nat):Int)))) (Zj (Q2 b) (some ⟨0,0,none⟩) (Zc (dg 2 ((1:Nat):Int))))=dg (Zc (dg 2 ((1:Nat):Int))+Zc (dg 2 ((1:Nat):Int))) (S:Int)),true),(zG (Q2 b) (some ⟨0,0,none⟩) (Zc (dg 2 ((1:Nat):Int))) (2),true),(zG (Q2 b) (some ⟨0,0,none⟩) (Zc (dg 2 ((1:Nat):Int))) (2),true),(!decide (Zc (dg 2 ((1:Nat):Int))=0∨Zc (dg 2 ((1:Nat):Int))=0) && Nat.ble (Zc (dg 2 ((1:Nat):Int))+Zc (dg 2 ((1:Nat):Int))) 8192,true),(decide (i≥0),true)]:=by and_intros<;>kernel_rfl
theorem Z4f (n i:Int) (b S:Nat) (g:Nat→Value):Zh (evC (Zm prog Zg Za6 hcQ) 100 false (qL f76) (qF b n (s32 0 2 1) (s32 1 2 b) i++tl 46 g,Q2 b,[cmp true,cmp false,num S,cmp true,cmp true]) ⟨[],[],[]⟩) 10 46 none (qF b n Zs (s32 1 2 b) (i64.wrap (i-1))) (Q3 b (Zc (dg 2 ((1:Nat):Int))+Zc (dg 2 ((1:Nat):Int))) S) [(decide (Zc (dg (Zc (dg 2 ((1:Nat):Int))+Zc (dg 2 ((1:Nat):Int))) (S:Int))=0∨Zc (dg 2 (b:Int))=0),true),(Zio n i==1,true),(decide (i<0),false),(decide (ZgY (Zj (Q2 b) (some ⟨0,0,none⟩) (Zc (dg 2 ((1:Nat):Int)))) (Zj (Q2 b) (some ⟨0,0,none⟩) (Zc (dg 2 ((1:Nat):Int))))=dg (Zc (dg 2 ((1:Nat):Int))+Zc (dg 2 ((1:Nat):Int))) (S:Int)),true),(zG (Q2 b) (some ⟨0,0,none⟩) (Zc (dg 2 ((1:Nat):Int))) (2),true),(zG (Q2 b) (some ⟨0,0,none⟩) (Zc (dg 2 ((1:Nat):Int))) (2),true),(!decide (Zc (dg 2 ((1:Nat):Int))=0∨Zc (dg 2 ((1:Nat):Int))=0) && Nat.ble (Zc (dg 2 ((1:Nat):Int))+Zc (dg 2 ((1:Nat):Int))) 8192,true),(decide (i≥0),true)]:=by and_intros<;>kernel_rfl
theorem Z4g (n i:Int) (b m V:Nat) (g:Nat→Value):Zh (evC (Zm prog Zg Za6 hcQ) 100 false (qL f76) (qF b n Zs (s32 1 2 b) i++tl 46 g,Q3 b m V,[cmp true,cmp true,cmp false]) ⟨[],[],[]⟩) 10 46 none (qF b n Zs (s32 1 2 b) (i64.wrap (i-1))) (Q3 b m V) [(Zio n i==1,false),(decide (i<0),false),(decide (0=0∨0=0),true),(decide (i≥0),true)]:=by and_intros<;>kernel_rfl
theorem Z4h (n i:Int) (b m V:Nat) (g:Nat→Value):Zh (evC (Zm prog Zg Za6 hcQ) 100 false (qL f76) (qF b n Zs (s32 1 2 b) i++tl 46 g,Q3 b m V,[cmp true,cmp true,cmp true,cmp true]) ⟨[],[],[]⟩) 10 46 none (qF b n Zs (s32 1 2 b) (i64.wrap (i-1))) (Q3 b m V) [(decide (0=0∨Zc (dg 2 (b:Int))=0),true),(Zio n i==1,true),(decide (i<0),false),(decide (0=0∨0=0),true),(decide (i≥0),true)]:=by and_intros<;>kernel_rfl
theorem Z66 (n i:Int) (b:Nat) (P O:Value) (h:Hp) (g:Nat→Value):Zh (evC (Zm prog Zg Za6 hcQ) 100 false (qL f76) (qF b n P O i++tl 46 g,h,[cmp false]) ⟨[],[],[]⟩) 10 46 (some (some 0)) (qF b n P O i) h [(decide (i≥0),false)]:=by and_intros<;>kernel_rfl
theorem Z4i (n i:Int) (b:Nat) (P O:Value) (h:Hp) (g:Nat→Value):Zh (evC (Zm prog Zg Za6 hcQ) 100 false (qE f76) (qF b n P O i++tl 46 g,h,[]) ⟨[],[],[]⟩) 6 50 (some none) [.int .u32 (b:Int),.int .i64 n,.tuple #[],.tuple #[],P,.nilIface] h []:=by and_intros<;>kernel_rfl
def nw (V:Nat):Nat:=(d32 V).length
def pM (b j:Nat):Nat:=if j=0 then 2 else if j % 2=1 then nw (b^(j-1))+nw b else nw (b^(j/2))+nw (b^(j/2))
theorem Zip:TabOk (Zm prog Zg Za6 hcQ):=Zp Zqu Zzv
theorem ZdI {V k:Nat}(h:V<4294967296^k):nw V≤k:=Zci (by omega) k V h
theorem Zj2 (V:Nat):V<4294967296^nw V:=by
 have:=ZcU (b:=4294967296) (by omega) (d32 V) (ZiX (by omega) V);rw[show vb 4294967296 (d32 V)=V from ZbH (by omega) V] at this;exact this
theorem Ziq {V:Nat}(h:0<V):0<nw V:=(Zc6 (by omega)).2 h
theorem ZuZ:nw 0=0:=by unfold nw d32;rw[zj];rfl
theorem Zqz {m V:Nat}(h:V<4294967296^m) (hm:m≤1000):Zc (dg m (V:Int))=nw V:=
 (Zhd (H:=⟨1,[w32 m V]⟩) (b:=0) rfl h hm).2.2.2.1
theorem Z4j {b j:Nat}(hb:b<4294967296) (hj:1≤j):b^j<4294967296^j:=Nat.pow_lt_pow_left hb (by omega)
theorem Zz0 {b j:Nat}(hb:b<4294967296):nw (b^j)≤j+1:=by
 by_cases h:1≤j
 ·have:=ZdI (Z4j hb h);omega
 ·have:j=0:=by omega
  subst this;rw[Nat.pow_zero];exact ZdI (by decide)
theorem Zva {n i:Nat}(hn:n<65536) (hi:i<64):Zio (n:Int) (i:Int)=((n/2^i % 2:Nat):Int):=by
 have e:(n:Int).fdiv (2^min (i:Int).toNat 64)=((n/2^i:Nat):Int):=by
  rw[Xg,show min i 64=i by omega,Int.fdiv_eq_ediv_of_nonneg _ (Int.le_of_lt (Int.pow_pos (by omega)))];simp
 have hl:n/2^i≤n:=Nat.div_le_self _ _;unfold Zio;rw[e,BitVec.toNat_and,show (BitVec.ofInt 64 1).toNat=1 from rfl,Nat.and_one_is_mod,BitVec.toNat_ofInt];have h2:((2^64:Nat):Int)=18446744073709551616:=rfl;rw[Zw (by omega) (by omega)];omega
theorem Zvb (b:Nat) {h:Hp}(h0:h.blk? 0=some (w32 2 1)) (h1:h.blk? 1=some (w32 2 b)):∀ i x,(⟨2,[w32 2 b,w32 2 1]⟩:Hp).blk? i=some x→h.blk? i=some x∧∀ v∈x.1,still v=true:=by
 intro i x hx;have hi:i<2:=Hp.blk_lt hx
 match i,hi,hx with
 | 0,_,hx=>
  have e:x=w32 2 1:=(Option.some.inj hx).symm;subst e;exact⟨h0,ZG _⟩
 | 1,_,hx=>
  have e:x=w32 2 b:=(Option.some.inj hx).symm;subst e;exact⟨h1,ZG _⟩
theorem Zvc (b n:Int) {P O:Value}(i:Int) (hP:lt 3 P=true) (hO:lt 3 O=true):∀ v∈qF b n P O i,lt 3 v=true:=by
 intro v hv;unfold qF at hv;simp only[List.mem_cons,List.not_mem_nil,or_false] at hv;rcases hv with rfl | rfl | rfl | rfl | rfl | rfl | rfl | rfl | rfl | rfl<;>first | rfl | exact hP | exact hO
def nS (b n k:Nat) (y:Lf):Prop:=∃ g,(n/2^k=0∧y.1=qF b n (s32 0 2 1) (s32 1 2 b) ((k:Int)-1)++tl 46 g∧y.2.1=Q2 b)∨
 (1≤n/2^k∧0<b∧y.1=qF b n (s32 2 (pM b (n/2^k)) (b^(n/2^k))) (s32 1 2 b) ((k:Int)-1)++tl 46 g∧y.2.1=Q3 b (pM b (n/2^k)) (b^(n/2^k)))∨
 (1≤n/2^k∧b=0∧∃ m V,y.1=qF b n Zs (s32 1 2 b) ((k:Int)-1)++tl 46 g∧y.2.1=Q3 b m V)
theorem Zq0 {b n:Nat}(hb:b<4294967296) (hn:n≤300):∀ j,j≤n→nw (b^j)≤400:=fun j hj=>by
 have:=Zz0 (b:=b) (j:=j) hb;omega
theorem Zsv {n:Nat}(hn:n≤2000):∀ j,j≤n→nw (10^j)≤400:=fun j hj=>by
 have h:(10:Nat)^j<4294967296^(j/9+1):=by
  refine Nat.lt_of_le_of_lt (Nat.pow_le_pow_right (by omega) (show j≤9*(j/9+1) by omega)) ?_;rw[Nat.pow_mul];exact Nat.pow_lt_pow_left (by decide) (by omega)
 have:=ZdI h;omega
theorem Zz1 {b j n:Nat}(hw:∀ j,j≤n→nw (b^j)≤400) (hb:b<4294967296) (hj:j≤n) (hj0:1≤j):b^j<4294967296^pM b j∧pM b j≤1000:=by
 unfold pM;rw[if_neg (by omega)];by_cases h:j % 2=1
 ·rw[if_pos h];have e:b^j=b^(j-1)*b:=by rw[← Nat.pow_succ];congr 1;omega
  have l1:=Zj2 (b^(j-1));have l2:=Zj2 b;have k1:=hw (j-1) (by omega);have k2:nw b≤1:=ZdI (by omega);refine⟨?_,by omega⟩;rw[e,Nat.pow_add];exact Nat.mul_lt_mul'' l1 l2
 ·rw[if_neg h];have e:b^j=b^(j/2)*b^(j/2):=by rw[← Nat.pow_add];congr 1;omega
  have l1:=Zj2 (b^(j/2));have k1:=hw (j/2) (by omega);refine⟨?_,by omega⟩;rw[e,Nat.pow_add];exact Nat.mul_lt_mul'' l1 l1
theorem Zir {x y:Nat}(hx:0<x) (hy:0<y) (h:x+y≤8192):(!decide (x=0∨y=0) && Nat.ble (x+y) 8192)=true:=by
 rw[Xb (by omega),Nat.ble_eq_true_of_le h];rfl
theorem Zq1 {b n k:Nat}(hb:b<4294967296) (hn:n≤2000) (hw:∀ j,j≤n→nw (b^j)≤400) (hk:k≤20) {y:Lf}(h:nS b n (k+1) y) (ht:n/2^(k+1)=0→n/2^k % 2=1):RunsW (Zm prog Zg Za6 hcQ) (qL f76) y fun e z=>e=none∧nS b n k z:=by
 obtain⟨t,h',s⟩:=y;obtain⟨i,hi⟩:∃ i:Int,i=((k+1:Nat):Int)-1:=⟨_,rfl⟩;have hik:i=(k:Int):=by omega
 have hi0:i≥0:=by omega
 have hiF:decide (i<0)=false:=Xb (by omega);have ei:i64.wrap (i-1)=(k:Int)-1:=by rw[Zw (by omega) (by omega)];omega
 have eb:Zio (n:Int) i=((n/2^k % 2:Nat):Int):=by rw[hik];exact Zva (by omega) (by omega)
 have dd:n/2^k=2*(n/2^(k+1))+n/2^k % 2:=by
  rw[Nat.pow_succ,← Nat.div_div_eq_div_mul];omega
 have jn:n/2^k≤n:=Nat.div_le_self _ _;have kb:nw b≤1:=ZdI (by omega);have tb:=Zqz (m:=2) (V:=b) (by have:(4294967296:Nat)^2=18446744073709551616:=rfl;omega) (by omega);have lt1:KRun.lt 3 (s32 1 2 b)=true:=rfl;have bN:b<4294967296^2:=by have:(4294967296:Nat)^2=18446744073709551616:=rfl;omega
 generalize hj:n/2^(k+1)=j at*;generalize hj':n/2^k=j' at*;obtain⟨g,hy⟩:=h;rw[hj] at hy;rcases hy with ⟨j0,ht',hh⟩ | ⟨j1,b0,ht',hh⟩ | ⟨j1,b0,m,V,ht',hh⟩
 ·have hbit:=ht j0;have j'1:j'=1:=by omega
  simp only at ht' hh;rw[← hi] at ht';subst ht' hh;have hbt:(Zio (n:Int) i==1)=true:=by rw[eb,hbit];rfl
  have n1:Zc (dg 2 ((1:Nat):Int))=1:=by decide
  have r1:=Zhd (H:=Q2 b) (b:=0) (V:=1) (m:=2) rfl (by decide) (by omega);have z1:(!decide (Zc (dg 2 ((1:Nat):Int))=0∨Zc (dg 2 ((1:Nat):Int))=0) && Nat.ble (Zc (dg 2 ((1:Nat):Int))+Zc (dg 2 ((1:Nat):Int))) 8192)=true:=Zir (by omega) (by omega) (by omega);by_cases b0:0<b
  ·have e2:Zc (dg (Zc (dg 2 ((1:Nat):Int))+Zc (dg 2 ((1:Nat):Int))) ((1:Nat):Int))=1:=by decide
   have r2:=Zhd (H:=Q3 b (Zc (dg 2 ((1:Nat):Int))+Zc (dg 2 ((1:Nat):Int))) 1) (b:=2) (V:=1) (m:=Zc (dg 2 ((1:Nat):Int))+Zc (dg 2 ((1:Nat):Int))) rfl (by decide) (by omega);have r3:=Zhd (H:=Q3 b (Zc (dg 2 ((1:Nat):Int))+Zc (dg 2 ((1:Nat):Int))) 1) (b:=1) (V:=b) (m:=2) rfl bN (by omega);have pb:=Ziq b0;have hg:=Z4e n i b 1 (1*b) g;rw[ei] at hg;have z2:=Zir (x:=Zc (dg (Zc (dg 2 ((1:Nat):Int))+Zc (dg 2 ((1:Nat):Int))) ((1:Nat):Int))) (y:=Zc (dg 2 (b:Int))) (by omega) (by omega) (by omega);have hp:pM b 1=Zc (dg (Zc (dg 2 ((1:Nat):Int))+Zc (dg 2 ((1:Nat):Int))) ((1:Nat):Int))+Zc (dg 2 (b:Int)):=by
    rw[e2,tb];unfold pM;rw[if_neg (by omega),if_pos (by omega),Nat.sub_self,Nat.pow_zero];rw[show nw 1=1 from by
     have:=Zqz (m:=2) (V:=1) (by decide) (by omega);rw[← this];exact n1]
   have run:=Zd (s0:=s) Zip hg (Za (ZuO r2 r3) (Za (rX r2) (Za (rX r3) (Za z2 (Za hbt (Za hiF (Za (ZuO r1 r1) (Za (rX r1) (Za (rX r1) (Za z1 (ZB (Xa hi0))))))))))));rw[← hp,Nat.one_mul] at run;have:=run.kept (k:=2) (b:=3) (base:=[w32 2 b,w32 2 1]) (y:=w32 (pM b 1) b) (front':=qF b n (s32 2 (pM b 1) b) (s32 1 2 b) ((k:Int)-1)) rfl (by kernel_rfl) (Zvb b rfl rfl) rfl (by omega) (ZG _) (Zvc _ _ _ rfl rfl);refine this.mono fun e z hz=> ?_;obtain⟨rfl,⟨g',e1⟩,e2'⟩:=hz;refine⟨rfl,g',.inr (.inl ⟨by omega,b0,?_,?_⟩)⟩
   ·rw[hj',j'1,Nat.pow_one];exact e1
   ·rw[hj',j'1,Nat.pow_one];exact e2'
  ·have bz:b=0:=by omega
   have hg:=Z4f n i b 1 g;rw[ei] at hg;have run:=Zd (s0:=s) Zip hg (Za (Xa (.inr (by rw[tb,bz,ZuZ]))) (Za hbt (Za hiF (Za (ZuO r1 r1) (Za (rX r1) (Za (rX r1) (Za z1 (ZB (Xa hi0)))))))));refine run.mono fun e z hz=> ?_;obtain⟨rfl,⟨g',e1⟩,e2'⟩:=hz;exact⟨rfl,g',.inr (.inr ⟨by rw[hj'];omega,bz,_,_,e1,e2'⟩)⟩
 ·simp only at ht' hh;rw[← hi] at ht';have hm:pM b j=pM b j:=rfl;obtain⟨m,em⟩:∃ m,m=pM b j:=⟨_,rfl⟩;obtain⟨V,eV⟩:∃ V,V=b^j:=⟨_,rfl⟩;rw[← em,← eV] at ht' hh;obtain⟨p1,p2⟩:=Zz1 hw hb (show j≤n by omega) j1;rw[← em,← eV] at p1;rw[← em] at p2;subst ht' hh;have V0:0<V:=by rw[eV];exact Nat.pow_pos b0
  have tV:=Zqz p1 p2;have pV:=Ziq V0;have lV:nw V≤400:=by rw[eV];exact hw j (by omega)
  have r1:=Zhd (H:=Q3 b m V) (b:=2) (V:=V) (m:=m) rfl p1 p2;have z1:=Zir (x:=Zc (dg m (V:Int))) (y:=Zc (dg m (V:Int))) (by omega) (by omega) (by omega);have eS:V*V=b^(2*j):=by rw[eV,← Nat.pow_add];congr 1;omega
  by_cases hbit:j' % 2=1
  ·have hbt:(Zio (n:Int) i==1)=true:=by rw[eb,hbit];rfl
   have j'e:j'=2*j+1:=by omega
   have pb:=Ziq b0;obtain⟨S,hS⟩:∃ S,S=V*V:=⟨_,rfl⟩;have sB:S<4294967296^(Zc (dg m (V:Int))+Zc (dg m (V:Int))):=by
    rw[hS,Nat.pow_add,tV];exact Nat.mul_lt_mul'' (Zj2 V) (Zj2 V)
   have sm:Zc (dg m (V:Int))+Zc (dg m (V:Int))≤1000:=by omega
   have tS:=Zqz sB sm;have S0:0<S:=by rw[hS];exact Nat.mul_pos V0 V0
   have pS:=Ziq S0;have lS:nw S≤400:=by rw[hS,eS];exact hw (2*j) (by omega)
   have r2:=Zhd (H:=Q4 b m V (Zc (dg m (V:Int))+Zc (dg m (V:Int))) S) (b:=3) (V:=S) (m:=Zc (dg m (V:Int))+Zc (dg m (V:Int))) rfl sB sm;have r3:=Zhd (H:=Q4 b m V (Zc (dg m (V:Int))+Zc (dg m (V:Int))) S) (b:=1) (V:=b) (m:=2) rfl bN (by omega);have z2:=Zir (x:=Zc (dg (Zc (dg m (V:Int))+Zc (dg m (V:Int))) (S:Int))) (y:=Zc (dg 2 (b:Int))) (by omega) (by omega) (by omega);have rm:=ZuO r1 r1;rw[← hS] at rm;have hg:=Z4d n i b m V S (S*b) g;rw[ei] at hg;have hp:pM b j'=Zc (dg (Zc (dg m (V:Int))+Zc (dg m (V:Int))) (S:Int))+Zc (dg 2 (b:Int)):=by
    rw[tS,tb];unfold pM;rw[if_neg (by omega),if_pos hbit,hS,eS,j'e,Nat.add_sub_cancel]
   have run:=Zd (s0:=s) Zip hg (Za (ZuO r2 r3) (Za (rX r2) (Za (rX r3) (Za z2 (Za hbt (Za hiF (Za rm (Za (rX r1) (Za (rX r1) (Za z1 (ZB (Xa hi0))))))))))));have hW:S*b=b^j':=by rw[hS,eS,j'e,Nat.pow_succ]
   rw[← hp,hW] at run;have:=run.kept (k:=2) (b:=4) (base:=[w32 2 b,w32 2 1]) (y:=w32 (pM b j') (b^j')) (front':=qF b n (s32 2 (pM b j') (b^j')) (s32 1 2 b) ((k:Int)-1)) rfl (by kernel_rfl) (Zvb b rfl rfl) rfl (by omega) (ZG _) (Zvc _ _ _ rfl rfl);refine this.mono fun e z hz=> ?_;obtain⟨rfl,⟨g',e1⟩,e2'⟩:=hz;refine⟨rfl,g',.inr (.inl ⟨by omega,b0,?_,?_⟩)⟩
   ·rw[hj'];exact e1
   ·rw[hj'];exact e2'
  ·have hbt:(Zio (n:Int) i==1)=false:=by rw[eb,show j' % 2=0 by omega];rfl
   have j'e:j'=2*j:=by omega
   have hg:=Z4c n i b m V (V*V) g;rw[ei] at hg;have hp:pM b j'=Zc (dg m (V:Int))+Zc (dg m (V:Int)):=by
    rw[tV,eV];unfold pM;rw[if_neg (by omega),if_neg hbit,j'e,Nat.mul_div_cancel_left _ (by omega)]
   have run:=Zd (s0:=s) Zip hg (Za hbt (Za hiF (Za (ZuO r1 r1) (Za (rX r1) (Za (rX r1) (Za z1 (ZB (Xa hi0))))))));have hW:V*V=b^j':=by rw[eS,j'e]
   rw[← hp,hW] at run;have:=run.kept (k:=2) (b:=3) (base:=[w32 2 b,w32 2 1]) (y:=w32 (pM b j') (b^j')) (front':=qF b n (s32 2 (pM b j') (b^j')) (s32 1 2 b) ((k:Int)-1)) rfl (by kernel_rfl) (Zvb b rfl rfl) rfl (by omega) (ZG _) (Zvc _ _ _ rfl rfl);refine this.mono fun e z hz=> ?_;obtain⟨rfl,⟨g',e1⟩,e2'⟩:=hz;refine⟨rfl,g',.inr (.inl ⟨by omega,b0,?_,?_⟩)⟩
   ·rw[hj'];exact e1
   ·rw[hj'];exact e2'
 ·simp only at ht' hh;rw[← hi] at ht';subst ht' hh;by_cases hbit:j' % 2=1
  ·have hbt:(Zio (n:Int) i==1)=true:=by rw[eb,hbit];rfl
   have hg:=Z4h n i b m V g;rw[ei] at hg;refine (Zd (s0:=s) Zip hg (Za (Xa (.inl rfl)) (Za hbt (Za hiF (Za (by decide) (ZB (Xa hi0))))))).mono fun e z hz=> ?_;obtain⟨rfl,⟨g',e1⟩,e2'⟩:=hz;exact⟨rfl,g',.inr (.inr ⟨by rw[hj'];omega,b0,m,V,e1,e2'⟩)⟩
  ·have hbt:(Zio (n:Int) i==1)=false:=by rw[eb,show j' % 2=0 by omega];rfl
   have hg:=Z4g n i b m V g;rw[ei] at hg;refine (Zd (s0:=s) Zip hg (Za hbt (Za hiF (Za (by decide) (ZB (Xa hi0)))))).mono fun e z hz=> ?_;obtain⟨rfl,⟨g',e1⟩,e2'⟩:=hz;exact⟨rfl,g',.inr (.inr ⟨by rw[hj'];omega,b0,m,V,e1,e2'⟩)⟩
end Go.Proofs.YtgefjidphfdhdaaGreatDoor.Na
namespace Go.Proofs.YtgefjidphfdhdaaGreatDoor.Na
open Go.Proofs.Tryz
open Go.KRun Go.Nt
set_option maxRecDepth 100000
def fN (k:Int) (e:Value):List Value:=[Zs,i6' k,undef,undef,Zs,e]
theorem Zq2 (k:Int):Zh (evC (Zm prog Zg Zn hcS) 200 false (Zq f77) ([Zs,i6' k]++List.replicate 45 undef,⟨0,[]⟩,[cmp true]) ⟨[],[],[]⟩) 6 41 (some none) (fN k (Zcv 1)) ⟨0,[]⟩ [(decide (k<0),true)]:=by and_intros<;>kernel_rfl
theorem Zq3 (k:Int):Zh (evC (Zm prog Zg Zn hcS) 200 false (Zq f77) ([Zs,i6' k]++List.replicate 45 undef,⟨0,[]⟩,[cmp false]) ⟨[],[],[]⟩) 6 41 (some none) (fN k .nilIface) ⟨0,[]⟩ [(decide (k<0),false)]:=by and_intros<;>kernel_rfl
def Z2r (d:Bool):Value:=match d with | true=>Zcv 1 | false=> .nilIface
theorem Zmk (k:Int) (d:Bool) (hd:decide (k<0)=d):Runs (Zm prog Zg Zn hcS) (Zq f77) ([Zs,i6' k]++List.replicate 45 undef,⟨0,[]⟩,[]) fun e' y=>(e'=none∨e'=some none)∧zd prog f77 y.1 y.2.1=some (.tuple #[Zs,Z2r d]):=by
 cases d with
 | true=>
  refine (Zb (Zp Ze ZhZ) (Zq2 k) (Zv hd)).mono fun e' y he=> ?_;obtain⟨rfl,⟨g,e2⟩,e3⟩:=he;refine⟨.inr rfl,?_⟩;rw[e2,e3];rfl
 | false=>
  refine (Zb (Zp Ze ZhZ) (Zq3 k) (Zv hd)).mono fun e' y he=> ?_;obtain⟨rfl,⟨g,e2⟩,e3⟩:=he;refine⟨.inr rfl,?_⟩;rw[e2,e3];rfl
def Zj3:Zag:=fun vals h s=>
 match vals with
 | [.slice none 0 0,.int .i64 k]=>
  match s with
  | .inr (.inr (.inr (.inl d)))::s'=>some (.tuple #[Zs,Z2r d],h,s',[(decide (k<0),d)])
  | _=>none
 | _=>Zuj vals h s
theorem ZbC:Z8 77 Zj3:=by
 intro vals h s v h' s' lg hg hl m B w E hv;unfold Zj3 at hg;split at hg
 ·rename_i k;split at hg
  ·rename_i d s2;cases hg;have hd:=hl _ Xf;have e0:rn (fun b=>b) (.tuple #[Zs,Z2r d])= .tuple #[Zs,Z2r d]:=by cases d<;>exact Zdd (by rfl)
   have:=zh (T:=Zm prog Zg Zn hcS) func77 ZeP (h0:=⟨0,[]⟩) ⟨rfl,fun b x hb=>absurd (Hp.blk_lt hb) (Nat.not_lt_zero _)⟩ (vals:=[Zs,i6' k]) (fun v hv=>by
    simp only[List.mem_cons,List.not_mem_nil,or_false] at hv;rcases hv with rfl | rfl<;>rfl) (by cases d<;>rfl) (Zmk k d hd) E (s:=fun b=>b) (fun i hi=>absurd hi (Nat.not_lt_zero _)) (fun i x hi=>absurd (Hp.blk_lt hi) (Nat.not_lt_zero _))
   rw[e0] at this;exact this.mono fun e w' he=>⟨m,he.1,he.2⟩
  ·cases hg
 ·exact Zuk _ _ _ _ _ _ _ hg hl m B w E hv
end Go.Proofs.YtgefjidphfdhdaaGreatDoor.Na
namespace Go.Proofs.YtgefjidphfdhdaaGreatDoor.Na
open Go.KRun Go.Nt
set_option maxRecDepth 100000
set_option linter.unusedVariables false
def sM (n:Nat) (k:Int):Nat:=k.toNat/32+(n+1)
def Zq4:Zag:=fun vals h s=>
 match vals,s with
 | [.slice p n c,.int .i64 k],.inr (.inr (.inr (.inl true)))::s'=>some (.tuple #[Zs,Zcv 1],h,s',[(zG h p n c,true),(ZN (Zj h p n) || decide (k<0),true)])
 | [.slice p n c,.int .i64 k],.inr (.inr (.inr (.inl false))):: .inr (.inr (.inr (.inl true)))::s'=>some (.tuple #[Zs,.nilIface],h,s',[(zG h p n c,true),(ZN (Zj h p n) || decide (k<0),false),(decide (n=0),true)])
 | [.slice p n c,.int .i64 k],.inr (.inr (.inr (.inl false))):: .inr (.inr (.inr (.inl false))):: .inr (.inr (.inr (.inl true)))::s'=>some (.tuple #[Zs,Zcv 2],h,s',[(zG h p n c,true),(ZN (Zj h p n) || decide (k<0),false),(decide (n=0),false),(decide (k>262144-ZdS (Zj h p n)),true)])
 | [.slice p n c,.int .i64 k],.inr (.inr (.inr (.inl false))):: .inr (.inr (.inr (.inl false))):: .inr (.inr (.inr (.inl false))):: .inr (.inl V)::s'=>some (.tuple #[sl h.n 0 (Zc (dg (sM n k) V)) (sM n k),.nilIface],h.push (wU (dg (sM n k) V)) tU,s',[(decide (Zg9 (Zj h p n) k.toNat=dg (sM n k) V),true),(zG h p n c,true),(ZN (Zj h p n) || decide (k<0),false),(decide (n=0),false),(decide (k>262144-ZdS (Zj h p n)),false)])
 | _,_=>none
theorem Zis:Z8 77 Zq4:=by
 intro vals h s v h' s' lg hg hl m B w E hv;unfold Zq4 at hg;split at hg
 ·rename_i p n c k s2;cases hg;have l1:=hl _ (Xe);have l2:=hl _ (Xd _ Xf);simp only at l1 l2;rcases ZD l1 with ⟨rfl,rfl,rfl,e0⟩ | ⟨b,o,x,rfl,hx,r1,e0⟩<;>rw[e0] at l2
  ·rw[ZaW,Bool.false_or] at l2;exact ZbC _ h [cmp true] _ _ [] [(decide (k<0),true)] rfl (ZB l2) m B w E hv
  ·exact ZbC _ h [cmp true] _ _ [] [(Z0 x.2 x.1 o n c,true),(ZN (Zx x.1 o n) || decide (k<0),true)] (by simp only[Zj3,Zuj,hx]) (Za r1 (ZB l2)) m B w E hv
 ·rename_i p n c k s2;cases hg;have l1:=hl _ (Xe);have l2:=hl _ (Xd _ Xe);have l3:=hl _ (Xd _ (Xd _ Xf));simp only at l1 l2 l3;rcases ZD l1 with ⟨rfl,rfl,rfl,e0⟩ | ⟨b,o,x,rfl,hx,r1,e0⟩<;>rw[e0] at l2
  ·rw[ZaW,Bool.false_or] at l2;exact ZbC _ h [cmp false] _ _ [] [(decide (k<0),false)] rfl (ZB l2) m B w E hv
  ·exact ZbC _ h [cmp false,cmp true] _ _ [] [(Z0 x.2 x.1 o n c,true),(ZN (Zx x.1 o n) || decide (k<0),false),(decide (n=0),true)] (by simp only[Zj3,Zuj,hx]) (Za r1 (Za l2 (ZB l3))) m B w E hv
 ·rename_i p n c k s2;cases hg;have l1:=hl _ (Xe);have l2:=hl _ (Xd _ Xe);have l3:=hl _ (Xd _ (Xd _ Xe));have l4:=hl _ (Xd _ (Xd _ (Xd _ Xf)));simp only at l1 l2 l3 l4;rcases ZD l1 with ⟨rfl,rfl,rfl,e0⟩ | ⟨b,o,x,rfl,hx,r1,e0⟩
  ·exact absurd rfl (of_decide_eq_false l3)
  ·rw[e0] at l2 l4;exact ZbC _ h [cmp false,cmp false,cmp true] _ _ [] [(Z0 x.2 x.1 o n c,true),(ZN (Zx x.1 o n) || decide (k<0),false),(decide (n=0),false),(decide (k>262144-ZdS (Zx x.1 o n)),true)] (by simp only[Zj3,Zuj,hx]) (Za r1 (Za l2 (Za l3 (ZB l4)))) m B w E hv
 ·rename_i p n c k V s2;cases hg;have l0:=Xc (hl _ (Xe));have l1:=hl _ (Xd _ Xe);have l2:=hl _ (Xd _ (Xd _ Xe));have l3:=hl _ (Xd _ (Xd _ (Xd _ Xe)));have l4:=hl _ (Xd _ (Xd _ (Xd _ (Xd _ Xf))));simp only at l1 l2 l3 l4;rcases ZD l1 with ⟨rfl,rfl,rfl,e0⟩ | ⟨b,o,x,rfl,hx,r1,e0⟩
  ·exact absurd rfl (of_decide_eq_false l3)
  ·rw[e0] at l0 l2 l4;rw[← l0];exact ZbC _ h [cmp false,cmp false,cmp false] _ _ [] [(Z0 x.2 x.1 o n c,true),(ZN (Zx x.1 o n) || decide (k<0),false),(decide (n=0),false),(decide (k>262144-ZdS (Zx x.1 o n)),false)] (by simp only[Zj3,Zuj,hx];rfl) (Za r1 (Za l2 (Za l3 (ZB l4)))) m B w E hv
 ·cases hg
end Go.Proofs.YtgefjidphfdhdaaGreatDoor.Na
