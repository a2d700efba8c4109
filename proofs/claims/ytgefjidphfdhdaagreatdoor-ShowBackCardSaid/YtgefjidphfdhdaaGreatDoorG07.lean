/-
  ConNF, ConNP, SlM, ConO1, NumTo, ConO2, ConO3, NumDg, NumU, ConO4, ConO5
-/
import Derived.Test.YtgefjidphfdhdaaGreatDoorG06
import GoSem.Core.Sem
namespace Go.Proofs.YtgefjidphfdhdaaGreatDoor.Na
open Go.Proofs.Tryz
open Go.KRun Go.Nt
set_option maxRecDepth 100000
theorem Zl1 {L:List Int}(hL:wds L):0≤ZcN L∧ZcN L≤262144:=by
 unfold ZcN;cases h:(L.length==0 || ZH L) with
 | true=>
  show (0:Int)≤0∧(0:Int)≤262144;omega
 | false=>
  simp only[Bool.or_eq_false_iff] at h;have h8:=Zb0 h.2;have h0:L.length≠0:=by simpa using h.1
  have hx:=hL (L.getD (L.length-1) 0) (by
   have hk':L.length-1<L.length:=by omega
   simp [List.getD,List.getElem?_eq_getElem hk'])
  have:=ZdA hx.1 hx.2;simp only;omega
theorem Zl2 {K:Nat}(h:K≤262144):skI K=((K/32:Nat):Int):=by
 unfold skI;have e:((K:Nat):Int).tdiv 32=((K/32:Nat):Int):=rfl;rw[e,Zv (by omega) (by omega)]
theorem Zzq (K:Nat):rmI K=((K % 32:Nat):Int):=rfl
theorem Zzr {n K:Nat}(h:K≤262144) (hn:n≤8192):zI n K=((K/32+(n+1):Nat):Int):=by
 unfold zI;rw[Zl2 h,Zv (n:=((K/32:Nat):Int)+(n:Nat)) (by omega) (by omega),Zv (by omega) (by omega)];omega
theorem Zp5 {n K:Nat}(h:K≤262144) (hn:n≤8192):zN n K=K/32+(n+1):=by unfold zN;rw[Zzr h hn,Xg]
theorem Zl3 {K:Nat}(h:K≤262144):oN K=K/32:=by unfold oN;rw[Zl2 h,Xg];omega
theorem Zp6 {n K:Nat}(h:K≤262144) (hn:n≤8192):pN n K=n+1:=by unfold pN;rw[Zl2 h,Zp5 h hn,Xg];omega
theorem Zst {n K:Nat}(h:K≤262144) (hn:n≤8192):cpN n K=n:=by unfold cpN;rw[Zp6 h hn];simp
theorem Zl4 {la:List Value}{o K:Nat}{L:List Int}(hR:Row la o L) (h:K≤262144) (hn:L.length≤8192):cpL la o L.length K=wU (List.replicate (K/32) 0++(L++[0])):=by
 unfold cpL;rw[Zst h hn,Zp5 h hn,Zl3 h];have e1:(la.drop o).take L.length=wU L:=hR.cut;rw[e1,List.drop_replicate,List.take_replicate,show K/32+(L.length+1)-(K/32+L.length)=1 from by omega,show min (K/32) (K/32+(L.length+1))=K/32 from by omega];unfold wU uu;simp
theorem Zur {la:List Value}{o K:Nat}{L:List Int}(hR:Row la o L) (h:K≤262144) (hn:L.length≤8192):Z3J la o L.length K=true:=by
 unfold Z3J;rw[Zst h hn,Zp5 h hn,Zl3 h];have e1:(la.drop o).take L.length=wU L:=hR.cut;rw[e1,Zd0,Zd5];have h1:Nat.ble (o+L.length) la.length=true:=Nat.ble_eq_true_of_le hR.len;have h2:Nat.ble (K/32+L.length) (List.replicate (K/32+(L.length+1)) (uu 0)).length=true:=Nat.ble_eq_true_of_le (by rw[List.length_replicate];omega);have h3:((wU L).all one)=true:=by
  unfold wU;rw[List.all_eq_true];intro v hv;obtain⟨x,_,rfl⟩:=List.mem_map.1 hv;rfl
 rw[h1,h2,h3];rfl
theorem Zim (A B:List Int):Zt (wU (A++B)) A.length B.length=B:=by
 unfold Zt ZbE wU;rw[List.map_append,List.drop_append_of_le_length (by simp),show A.length=(A.map (Value.int .u32)).length from by simp,List.drop_length,List.nil_append,List.take_of_length_le (by simp),List.map_map];exact (List.map_congr_left fun x _=>rfl).trans (List.map_id' _)
theorem Zhe (s:Nat):wds (List.replicate s 0):=fun x hx=>by rw[List.eq_of_mem_replicate hx];omega
theorem ZeS {L:List Int}(h:wds L):wds (L++[0]):=z8 h (fun x hx=>by rw[List.mem_singleton.1 hx];omega)
theorem Zzs {la:List Value}{o K:Nat}{L:List Int}(hR:Row la o L) (h:K≤262144) (hn:L.length≤8192):upM la o L.length K=wU (Zgb L K):=by
 unfold upM upS;rw[Zl4 hR h hn,Zl3 h,Zp6 h hn,Zzq,Xg];have e1:=Zim (List.replicate (K/32) 0) (L++[0]);rw[List.length_replicate,List.length_append,List.length_singleton] at e1;rw[e1,zd,Int.mul_zero,Int.add_zero,Zuq];unfold wU;rw[List.map_append,List.map_append,List.take_append_of_le_length (by simp),List.take_of_length_le (by simp),List.map_append]
theorem Zus {la:List Value}{o K:Nat}{L:List Int}(hR:Row la o L) (h:K≤262144) (hn:L.length≤8192):Zu tU (cpL la o L.length K) (oN K) (pN L.length K) (pN L.length K)=true:=by
 rw[Zl4 hR h hn,Zl3 h,Zp6 h hn];unfold Zu;have e1:=Zim (List.replicate (K/32) 0) (L++[0]);rw[show Zai tU=false from by kernel_rfl,show Nat.beq (rt tU) tU=true from by kernel_rfl,Nat.ble_eq_true_of_le (show K/32+(L.length+1)≤(wU (List.replicate (K/32) 0++(L++[0]))).length by unfold wU;simp),Nat.ble_eq_true_of_le (Nat.le_refl _),show Z8 (L.length+1)=true from Zl.2 (by unfold ZX;omega),Za6];have h3:((ZbE (wU (List.replicate (K/32) 0++(L++[0]))) (K/32) (L.length+1)).all isU)=true:=by
  rw[List.all_eq_true];intro v hv;unfold ZbE wU at hv;obtain⟨x,hx,rfl⟩:=List.mem_map.1 (List.mem_of_mem_drop (List.mem_of_mem_take hv));exact Xa ((z8 (Zhe _) (ZeS hR.rng)) x hx)
 rw[h3];rfl
theorem Zp7 {la:List Value}{o n c K:Nat}(ha:Zu tR la o n c=true) (hb:ZH (Zt la o n)=false) (h0:n≠0) (hK:(K:Int)≤262144-ZcN (Zt la o n)):
  Runs (Zx prog Zi Zn hcS) (Zw f77) ([sl 0 o n c,i6' K]++List.replicate 45 undef,⟨1,[(la,tR)]⟩,[]) fun e y=>(e=none∨e=some none)∧zE prog f77 y.1 y.2.1=some (.tuple #[sl 1 0 (Zg (Zgb (Zt la o n) K)) (K/32+(n+1)),.nilIface])∧y.2.1.blk? 1=some (wU (Zgb (Zt la o n) K),tU):=by
 obtain⟨a1,a2,a3,a4,a5,a6,a7⟩:=Z4 ha;have h8:=Zb0 hb;have hl:=Zl1 a1.rng;have g0:=Zp4 o n c K la;have lI:lnI la o n=262144-ZcN (Zt la o n):=by unfold lnI;rw[Zv (by omega) (by omega)]
 rw[lI] at g0;generalize hL:Zt la o n=L at*;subst a2;have hK2:K≤262144:=by omega
 rw[Zzs a1 hK2 h8] at g0;have ez:=Zp5 (n:=L.length) hK2 h8;have esm:Z8 (zN L.length K)=true:=Zl.2 (by rw[ez];unfold ZX;omega);have r1:=Zsj (Zac (K/32+(L.length+1)) (vN L*2^K)) (c:=zN L.length K) (by rw[ZB,ez];exact Nat.le_refl _) esm;rw[ZB,← ez] at r1;have r2:Zu tU (wU (Zgb L K)) 0 (zN L.length K) (zN L.length K)=true:=by unfold Zgb;rw[← ez];exact r1.1
 have r3:Zt (wU (Zgb L K)) 0 (zN L.length K)=Zgb L K:=by unfold Zgb;rw[← ez];exact r1.2
 have part:ZR (skI K) (zN L.length K) (zN L.length K) (zN L.length K)=true:=by unfold ZR;rw[Zl2 hK2,ez];exact Xa (by omega)
 have part2:decide (((zN L.length K:Nat):Int)=skI K∧skI K≠0)=false:=by rw[Zl2 hK2,ez];exact Xb (by omega)
 have mk:ZO 4 (zI L.length K) (zI L.length K)=true:=by unfold ZO;rw[Zzr hK2 h8];exact Xa (by omega)
 have len:Nat.beq (oN K+pN L.length K) (cpL la o L.length K).length=true:=by
  rw[Zl4 a1 hK2 h8,Zl3 hK2,Zp6 hK2 h8];unfold wU;simp
 have calm:la.all still=true:=List.all_eq_true.2 a7;have d1:decide (0≤rmI K∧rmI K<32)=true:=by rw[Zzq];exact Xa (by omega)
 have d2:decide ((K:Int)>262144-ZcN L)=false:=Xb (by omega);have d3:((L.length:Int)==0)=false:=by simpa using h0
 have d4:decide ((K:Int)<0)=false:=Xb (by omega);refine (Zc (Z3 Zh Zil) g0 (Zj r2 (Zj (by kernel_rfl) (Zj (by kernel_rfl) (Zj (Zus a1 hK2 h8) (Zj len (Zj calm (Zj d1
  (Zj esm (Zj part (Zj part2 (Zj (Zur a1 hK2 h8) (Zj esm (Zj part (Zj part2 (Zj mk (Zj d2 (Zj ha (Zj d3 (Zj d4 (Zj ha (Z7 hb)))))))))))))))))))))).mono fun e y he=> ?_
 obtain⟨rfl,⟨g,e2⟩,e3⟩:=he;refine⟨.inr rfl,?_,?_⟩
 ·rw[e2,e3,r3,ez];rfl
 ·rw[e3];rfl
theorem ZeT {la:List Value}{o n c:Nat}{k:Int}{r e:Value}{cs:Log}{s:List Dec}(g0:Zk (evC (Zx prog Zi Zn hcS) 200 false (Zw f77) ([sl 0 o n c,i6' k]++List.replicate 45 undef,⟨1,[(la,tR)]⟩,s) ⟨[],[],[]⟩) 6 41 (some none) (fS o n c k r e) ⟨1,[(la,tR)]⟩ cs) (hcs:Zo cs)
  (hres:∀ g,zE prog f77 (fS o n c k r e++tl 41 g) ⟨1,[(la,tR)]⟩=some (.tuple #[r,e])):
  Runs (Zx prog Zi Zn hcS) (Zw f77) ([sl 0 o n c,i6' k]++List.replicate 45 undef,⟨1,[(la,tR)]⟩,[]) fun e' y=>(e'=none∨e'=some none)∧zE prog f77 y.1 y.2.1=some (.tuple #[r,e]):=by
 refine (Zc (Z3 Zh Zil) g0 hcs).mono fun e' y he=> ?_;obtain⟨rfl,⟨g,e2⟩,e3⟩:=he;refine⟨.inr rfl,?_⟩;rw[e2,e3];exact hres g
def Zut:Zba:=fun vals h s=>
 match vals with
 | [.slice (some ⟨b,o,none⟩) n c,.int .i64 k]=>
  match h.blk? b,s with
  | some x,.inr (.inr (.inr (.inl true)))::s'=>some (.tuple #[ZD,ZbH 1],h,s',[(Zu x.2 x.1 o n c,true),(ZH (Zt x.1 o n) || decide (k<0),true)])
  | some x,.inr (.inr (.inr (.inl false))):: .inr (.inr (.inr (.inl true)))::s'=>some (.tuple #[ZD,.nilIface],h,s',[(Zu x.2 x.1 o n c,true),(ZH (Zt x.1 o n) || decide (k<0),false),(decide (n=0),true)])
  | some x,.inr (.inr (.inr (.inl false))):: .inr (.inr (.inr (.inl false))):: .inr (.inr (.inr (.inl true)))::s'=>some (.tuple #[ZD,ZbH 2],h,s',[(Zu x.2 x.1 o n c,true),(ZH (Zt x.1 o n) || decide (k<0),false),(decide (n=0),false),(decide (k>262144-ZcN (Zt x.1 o n)),true)])
  | some x,.inr (.inr (.inr (.inl false))):: .inr (.inr (.inr (.inl false))):: .inr (.inr (.inr (.inl false)))::s'=>some (.tuple #[sl h.n 0 (Zg (Zgb (Zt x.1 o n) k.toNat)) (k.toNat/32+(n+1)),.nilIface],h.push (wU (Zgb (Zt x.1 o n) k.toNat)) tU,s',[(Zu x.2 x.1 o n c,true),(ZH (Zt x.1 o n) || decide (k<0),false),(decide (n=0),false),(decide (k>262144-ZcN (Zt x.1 o n)),false)])
  | _,_=>none
 | _=>none
theorem Zuu:ZJ 77 Zut:=by
 intro vals h s v h' s' lg hg hl m B w E hv;unfold Zut at hg;split at hg
 ·rename_i b o n c k;have one1:∀ x:List Value×TypeId,h.blk? b=some x→Zu x.2 x.1 o n c=true→∀ v0:Value,oc (List.range 1) v0=true→rn (fun _=>b) v0=v0→
    Runs (Zx prog Zi Zn hcS) (Zw f77) ([sl 0 o n c,i6' k]++List.replicate 45 undef,⟨1,[(x.1,tR)]⟩,[]) (fun e y=>(e=none∨e=some none)∧zE prog f77 y.1 y.2.1=some v0)→
    Calls prog 77 (([.slice (some ⟨b,o,none⟩) n c,.int .i64 k]:List Value).map (mv m)).toArray w fun e w'=>∃ m',e= .returned (mv m' v0)∧Came m B h w v0 h m' w':=by
   intro x hx ra v0 ho e0 r;obtain⟨a1,a2,a3,a4,a5,a6,a7⟩:=Z4 ra;have hlt:=Hp.blk_lt hx;have:=zl (T:=Zx prog Zi Zn hcS) func77 ZeR (ZcU a7) (vals:=[sl 0 o n c,i6' k]) (fun v hv=>by
    simp only[List.mem_cons,List.not_mem_nil,or_false] at hv;rcases hv with rfl | rfl<;>rfl) ho r E (s:=fun _=>b) (fun i _=>hlt) (ZaQ hx a5 a6 rfl)
   rw[e0] at this;exact this.mono fun e w' he=>⟨m,he.1,he.2⟩
  split at hg
  ·rename_i x s2 hx;cases hg;have ra:=hl _ (Xe);have hd:=hl _ (Xd _ Xf);simp only at hd;refine one1 x hx ra _ (by rfl) (Zdb (by rfl)) ?_;cases hb:ZH (Zt x.1 o n) with
   | true=>exact ZeT (Zun o n c k x.1) (Zj (ZW ra) (Z7 hb)) (fun _=>rfl)
   | false=>
    rw[hb,Bool.false_or] at hd;exact ZeT (Zuo o n c k x.1) (Zj hd (Zj (ZW ra) (Z7 hb))) (fun _=>rfl)
  ·rename_i x s2 hx;cases hg;have ra:=hl _ (Xe);have hd:=hl _ (Xd _ Xe);have h0:=Xc (hl _ (Xd _ (Xd _ Xf)));simp only[Bool.or_eq_false_iff] at hd;have d3:((n:Int)==0)=true:=by rw[h0];rfl
   exact one1 x hx ra _ (by rfl) (Zdb (by rfl)) (ZeT (Zup o n c k x.1) (Zj d3 (Zj hd.2 (Zj (ZW ra) (Z7 hd.1)))) (fun _=>rfl))
  ·rename_i x s2 hx;cases hg;have ra:=hl _ (Xe);have hd:=hl _ (Xd _ Xe);have h0:=of_decide_eq_false (hl _ (Xd _ (Xd _ Xe)));have hk:=hl _ (Xd _ (Xd _ (Xd _ Xf)));simp only[Bool.or_eq_false_iff] at hd;have d3:((n:Int)==0)=false:=by simpa using h0
   obtain⟨a1,a2,a3,a4,a5,a6,a7⟩:=Z4 ra;have hle:=Zl1 a1.rng;have lI:lnI x.1 o n=262144-ZcN (Zt x.1 o n):=by unfold lnI;rw[Zv (by omega) (by omega)]
   have g0:=Zp3 o n c k x.1;rw[lI] at g0;exact one1 x hx ra _ (by rfl) (Zdb (by rfl)) (ZeT g0 (Zj hk (Zj (ZW ra) (Zj d3 (Zj hd.2 (Zj (ZW ra) (Z7 hd.1)))))) (fun _=>rfl))
  ·rename_i x s2 hx;cases hg;have ra:=hl _ (Xe);have hd:=hl _ (Xd _ Xe);have h0:=of_decide_eq_false (hl _ (Xd _ (Xd _ Xe)));have hk:=of_decide_eq_false (hl _ (Xd _ (Xd _ (Xd _ Xf))));simp only[Bool.or_eq_false_iff] at hd;have hk0:=of_decide_eq_false hd.2;obtain⟨K,rfl⟩:=Int.eq_ofNat_of_zero_le (show 0≤k by omega);rw[Xg];obtain⟨a1,a2,a3,a4,a5,a6,a7⟩:=Z4 ra;have r:=Zp7 (K:=K) (ZW ra) hd.1 h0 (by omega);have e1:∀ j M:Nat,rn (fun _=>h.n) (.tuple #[sl 1 0 j M,.nilIface])= .tuple #[sl h.n 0 j M,.nilIface]:=fun j M=>by simp [rn,rn2,rn1,sl]
   have:=Zao (T:=Zx prog Zi Zn hcS) func77 ZeR (ZcU a7) (vals:=[sl 0 o n c,i6' K]) (fun v hv=>by
    simp only[List.mem_cons,List.not_mem_nil,or_false] at hv;rcases hv with rfl | rfl<;>rfl) (k:=1) (Zc1 _) Zd5 (r.w.mono fun e y h=>⟨h.1,h.2.1,[],by rw[List.append_nil];exact h.2.2⟩) (by rfl) E (s:=fun _=>b) (ZaQ hx a5 a6 rfl)
   rw[e1] at this;exact this
  ·cases hg
 ·cases hg
end Go.Proofs.YtgefjidphfdhdaaGreatDoor.Na
namespace Go.Proofs.YtgefjidphfdhdaaGreatDoor.Na
open Go.Proofs.Tryz
open Go.KRun Go.Nt
set_option maxRecDepth 100000
set_option linter.unusedVariables false
def ZgK (L M:List Int):List Int:=dg (L.length+M.length) (vN L*vN M)
theorem ZT {L:List Int}(h:wds L) {o n c:Nat}(hl:o+n≤L.length) (hc:n≤c) (h2:Z8 c=true):Zu tU (wU L) o n c=true:=by
 unfold Zu;have h3:((ZbE (wU L) o n).all isU)=true:=by
  rw[List.all_eq_true];intro v hv;unfold ZbE wU at hv;obtain⟨x,hx,rfl⟩:=List.mem_map.1 (List.mem_of_mem_drop (List.mem_of_mem_take hv));exact Xa (h x hx)
 rw[show Zai tU=false from by kernel_rfl,show Nat.beq (rt tU) tU=true from by kernel_rfl,Nat.ble_eq_true_of_le (show o+n≤(wU L).length by rw[Zcf];exact hl),Nat.ble_eq_true_of_le hc,h2,h3,Za6];rfl
theorem Zhf (D M R:List Int):Zt (wU (D++(M++R))) D.length M.length=M:=by
 unfold Zt ZbE wU;rw[List.map_append,List.map_append,List.drop_left' (by simp),List.take_left' (by simp),List.map_map];exact (List.map_congr_left fun x _=>rfl).trans (List.map_id' _)
theorem Zhg (D M R L:List Int):tmS (wU (D++(M++R))) D.length M.length L=wU (D++(L++R)):=by
 have e1:(wU (D++(M++R))).take D.length=wU D:=by
  unfold wU;rw[List.map_append];exact List.take_left' (by simp)
 have e2:(wU (D++(M++R))).drop (D.length+M.length)=wU R:=by
  unfold wU;rw[← List.append_assoc,List.map_append];exact List.drop_left' (by simp)
 unfold tmS;rw[e1,e2];unfold wU;rw[List.map_append,List.map_append]
theorem Zuv (D L:List Int) (z c:Int) (R:List Int):(wU (D++(L++z::R))).set (D.length+L.length) (uu c)=wU (D++((L++[c])++R)):=by
 rw[← List.append_assoc,show D.length+L.length=(D++L).length from by simp,ZfU];simp
theorem Zuw {la lb:List Value}{o c o' c':Nat}{LA LB:List Int}(RA:Row la o LA) (RB:Row lb o' LB) (sa:∀ v∈la,still v=true) (hrb:Zu tR lb o' LB.length c'=true) (ha:0<LA.length) (hb:0<LB.length) (h8:LA.length+LB.length≤8192):
  Runs (Zx prog Zi Zn hcM) (Zaj (pdP f127) (.seq (.seq (ZA (ZA (sn 4 f127))) (.block 0 (.loop (pdL f127)))) (ZV (sn 4 f127)))) ([sl 0 o LA.length c,sl 1 o' LB.length c']++List.replicate 57 undef,h2 la lb,[]) fun e y=>(e=none∨e=some none)∧zE prog f127 y.1 y.2.1=some (.tuple #[sl 2 0 (Zg (ZgK LA LB)) (LA.length+LB.length),.nilIface])∧y.2.1.blk? 2=some (wU (ZgK LA LB),tU):=by
 have hT:=Z3 Zh Zly;have eZ:pZ LA.length LB.length=((LA.length+LB.length:Nat):Int):=by
  unfold pZ;rw[Zv (by omega) (by omega)];omega
 have g0:=Zzn o LA.length c o' LB.length c' la lb;rw[eZ,Xg] at g0;have esm:∀ q:Nat,q≤8192→Z8 q=true:=fun q hq=>Zl.2 (by unfold ZX;omega);have bA:=RA.rng;have bB:=Zax LB RB.rng;have erep:List.replicate (LA.length+LB.length) (uu 0)=wU ([]++(List.replicate LB.length 0++List.replicate LA.length 0)):=by
  unfold wU uu;rw[Nat.add_comm];simp [List.replicate_append_replicate]
 rw[erep] at g0;refine Zz hT g0 (Zj (by unfold ZO;exact Xa (by omega)) (Zj (by rw[Zv (by omega) (by omega)];exact Xb (by omega)) (Zj (by simpa using (show LB.length≠0 by omega)) (Z7 (by simpa using (show LA.length≠0 by omega)))))) fun g=> ?_;refine Runs.seq (P1:=fun e' y=>e'=none∧∃ (D M:List Int) (v7 v8 u1 u2 u3:Value) (g g':Nat→Value),y.1=ml (pdF o LA.length c o' LB.length c' (LA.length+LB.length) v7 v8) 22 g [u1,u2,u3] 25 g'∧D.length=LA.length∧M.length=LB.length∧wds D∧wds M∧vN D+4294967296^D.length*vN M=vN LA*vN LB∧y.2.1=h3 la lb (wU (D++(M++[])))) ?_ ?_ (fun e y he=>by cases he.1)
 ·refine Runs.seq (P1:=fun e' y=>e'=none∧(∃ g g',y.1=ml (pdF o LA.length c o' LB.length c' (LA.length+LB.length) undef undef) 22 g [sl 0 o LA.length c,i6' LA.length,i6' 0] 25 g')∧y.2.1=h3 la lb (wU ([]++(List.replicate LB.length 0++List.replicate LA.length 0)))) (zm hT (Z6Y o LA.length c o' LB.length c' (LA.length+LB.length) undef undef la lb _ g) (fun x hx=>by cases hx)) ?_ (fun e y he=>by cases he.1);rintro⟨t,h',s'⟩ ⟨_,⟨g1,g2,ht⟩,hh⟩;simp only at ht hh;subst ht hh;refine (Runs.forLoop (R:=fun _=>False) (P:=fun y=>∃ (D M:List Int) (v7 v8 u1 u2 u3:Value) (g g':Nat→Value),y.1=ml (pdF o LA.length c o' LB.length c' (LA.length+LB.length) v7 v8) 22 g [u1,u2,u3] 25 g'∧D.length=LA.length∧M.length=LB.length∧wds D∧wds M∧vN D+4294967296^D.length*vN M=vN LA*vN LB∧y.2.1=h3 la lb (wU (D++(M++[]))))
   (fun r y=>∃ (D M:List Int) (v7 v8:Value) (g g':Nat→Value),D.length+r=LA.length∧M.length=LB.length∧wds D∧wds M∧vN D+4294967296^D.length*vN M=vN (LA.take D.length)*vN LB∧y.1=ml (pdF o LA.length c o' LB.length c' (LA.length+LB.length) v7 v8) 22 g [sl 0 o LA.length c,i6' LA.length,i6' D.length] 25 g'∧y.2.1=h3 la lb (wU (D++(M++List.replicate r 0))))
   ?_ (n:=LA.length) ⟨[],List.replicate LB.length 0,undef,undef,g1,g2,by simp,by simp,(fun x hx=>by cases hx),Zhe _,?_,rfl,rfl⟩).mono fun e' y he=> ?_
  ·rintro r ⟨t,h',s'⟩ ⟨D,M,v7,v8,g,g',hr,hM,w1,w2,hv,ht,hh⟩;simp only at ht hh;subst ht hh;cases r with
   | zero=>
    have ek:D.length=LA.length:=by omega
    refine (zm hT (Zzo o LA.length c o' LB.length c' (LA.length+LB.length) D.length v7 v8 la lb _ g g') (Z7 (Xb (by omega)))).mono fun e' y he=> ?_;obtain⟨rfl,⟨g1,g2,e2⟩,e3⟩:=he;rw[ek,List.take_length] at hv;rw[← ek] at hv;exact⟨rfl,D,M,v7,v8,_,_,_,g1,g2,e2,ek,hM,w1,w2,hv,e3⟩
   | succ r=>
    have hk:D.length<LA.length:=by omega
    have cA:=RA.cell hk;have hx:=bA (LA.getD D.length 0) (by simp [List.getD,List.getElem?_eq_getElem hk]);have et:=Zae hk;generalize LA.getD D.length 0=x at*;have eJ:pJ D.length=D.length:=by unfold pJ;omega
    have eK:pK D.length LB.length=((D.length+LB.length:Nat):Int):=by unfold pK;rw[Zv (by omega) (by omega)];omega
    have eL:pLn D.length LB.length=M.length:=by unfold pLn;rw[eK];omega
    have ecB:Zt lb o' LB.length=LB:=by
     unfold Zt;rw[RB.cut];unfold wU;rw[List.map_map];exact (List.map_congr_left fun x _=>rfl).trans (List.map_id' _)
    have ecM:Zt (wU (D++(M++List.replicate (r+1) 0))) (pJ D.length) (pLn D.length LB.length)=M:=by rw[eJ,eL];exact Zhf _ _ _
    have ePS:pS (wU (D++(M++List.replicate (r+1) 0))) lb o' LB.length D.length x=wU (D++(tmR M LB x++List.replicate (r+1) 0)):=by
     unfold pS;rw[ecM,ecB,eJ,eL];exact Zhg _ _ _ _
    have ePC:pC (wU (D++(M++List.replicate (r+1) 0))) lb o' LB.length D.length x=tmC M LB x:=by
     unfold pC;rw[ecM,ecB]
    have lR:(tmR M LB x).length=M.length:=by unfold tmR;rw[ZB]
    have bM:=Zax M w2;rw[hM] at bM;have bT:=Z3C bM bB hx;rw[← hM] at bT;obtain⟨y,m,e1,e2,w3,w4,e5⟩:=Zp2 bT;have eW:tmR M LB x++[tmC M LB x]=y::m:=e1;have g1:=Z3G o LA.length c o' LB.length c' (LA.length+LB.length) D.length x v7 v8 la lb (wU (D++(M++List.replicate (r+1) 0))) g g';rw[ePS,ePC,eK,eJ,eL,Xg,Xg,Nat.zero_add,Nat.mul_one] at g1;have hall:wds (D++(M++List.replicate (r+1) 0)):=z8 w1 (z8 w2 (Zhe _));have l1:decide (D.length+LB.length<(wU (D++(tmR M LB x++List.replicate (r+1) 0))).length)=true:=Xa (by rw[Zcf];simp [lR];omega);have l2:(inR ((D.length+LB.length:Nat):Int) (LA.length+LB.length)).1=(inR ((D.length+LB.length:Nat):Int) (LA.length+LB.length)).2:=Xa (by omega);have l3:Zhd (wU (D++(M++List.replicate (r+1) 0))) lb la tU tR tR D.length M.length (LA.length+LB.length-D.length) o' LB.length c' x=true:=by
     unfold Zhd;rw[ZT hall (by simp) (by omega) (esm _ (by omega)),hrb,List.all_eq_true.2 sa,Zl.2 (show M.length<1099511627776 by omega),Xa hx,hM];simp
    have l5:ZR D.length ((D.length+LB.length:Nat):Int) ((LA.length+LB.length:Nat):Int) ((LA.length+LB.length:Nat):Int)=true:=by unfold ZR;exact Xa (by omega)
    have l6:decide (((LA.length+LB.length:Nat):Int)=(D.length:Int)∧(D.length:Int)≠0)=false:=Xb (by omega);have l7:(inR D.length LA.length).1=(inR D.length LA.length).2:=Xa (by omega);refine (zm hT g1 (Zj l1 (Zj l2 (Zj l3 (Zj (esm _ (by omega)) (Zj l5 (Zj l6 (Zj (zT cA) (Zj l7 (Z7 (Xa (by omega)))))))))))).mono fun e' Y he=> ?_;obtain⟨rfl,⟨g2,g3,f2⟩,f3⟩:=he;refine⟨r,by omega,D++[y],m,i6' D.length,uu x,g2,g3,by simp;omega,by omega,z8 w1 w3,w4,?_,?_,?_⟩
    ·rw[zd,List.length_append,List.length_singleton,pw,et,zd,List.length_take,Nat.min_eq_left (by omega)];exact Zuh e5 hv
    ·rw[f2,Zv (by omega) (by omega)];simp
    ·rw[f3,List.replicate_succ,← hM,← lR,Zuv,eW];simp
  ·simp only[List.length_nil,List.take_zero];have:vN (List.replicate LB.length 0)=0:=Zss _;rw[this];simp [vN]
  ·match e',he with
   | none,he=>exact⟨rfl,he⟩
   | some none,he=>exact he.elim
   | some (some _),he=>exact he.elim
 ·rintro⟨t,h',s'⟩ ⟨_,D,M,v7,v8,u1,u2,u3,g,g',ht,hD,hM,w1,w2,hv,hh⟩;simp only at ht hh;subst ht hh;have hw:wds (D++M):=z8 w1 w2;have hl:(D++M).length=LA.length+LB.length:=by simp;omega
  have ew:D++M=ZgK LA LB:=by
   have:=ZdY (D++M) hw;rw[Zsi,hv,hl] at this;exact this.symm
  have hr:=Zsj hw (c:=LA.length+LB.length) (by omega) (esm _ h8);rw[hl] at hr;have htr:=za (D++M);have g1:=Zzp o LA.length c o' LB.length c' (LA.length+LB.length) v7 v8 u1 u2 u3 la lb (wU (D++M)) g g';rw[hr.2] at g1;rw[List.append_nil];refine (Zc hT g1 (Zj (Xb (by omega)) (Z7 hr.1))).mono fun e' y he=> ?_;obtain⟨rfl,⟨g1,e2⟩,e3⟩:=he;refine⟨.inr rfl,?_,?_⟩
  ·rw[e2,e3,ew];rfl
  ·rw[e3,ew];rfl
def Z3K:Zba:=fun vals h s=>
 match vals,s with
 | [.slice p n c,.slice q n' c'],.inr (.inr (.inr (.inl true)))::s'=>some (.tuple #[ZD,.nilIface],h,s',[(decide (n=0∨n'=0),true)])
 | [.slice p n c,.slice q n' c'],.inr (.inr (.inr (.inl false)))::s'=>some (.tuple #[sl h.n 0 (Zg (ZgK (Zm h p n) (Zm h q n'))) (n+n'),.nilIface],h.push (wU (ZgK (Zm h p n) (Zm h q n'))) tU,s',[(zg h p n c,true),(zg h q n' c',true),(!decide (n=0∨n'=0) && Nat.ble (n+n') 8192,true)])
 | _,_=>none
theorem Zl5:ZJ 127 Z3K:=by
 intro vals h s v h' s' lg hg hl m B w E hv;unfold Z3K at hg;split at hg
 ·rename_i p n c q n' c' s2;cases hg;have l1:=Xc (hl _ Xf);by_cases h0:n=0
  ·have r:=Zc (s0:=[]) (Z3 Zh Zly) (Z3H p q n c n' c' h) (Z7 (by simp [h0]));exact ZaE (T:=Zx prog Zi Zn hcM) func127 Zik (vals:=[.slice p n c,.slice q n' c']) (v:= .tuple #[ZD,.nilIface]) (h:=h) (by rfl) (r.mono fun e y he=>by
    obtain⟨rfl,⟨g,e1⟩,e2⟩:=he;exact⟨.inr rfl,by rw[e1,e2];rfl,e2⟩) m B w E hv
  ·have h1:n'=0:=l1.resolve_left h0;have r:=Zc (s0:=[]) (Z3 Zh Zly) (Z3I p q n c n' c' h) (Zj (by simp [h1]) (Z7 (by simpa using h0)));exact ZaE (T:=Zx prog Zi Zn hcM) func127 Zik (vals:=[.slice p n c,.slice q n' c']) (v:= .tuple #[ZD,.nilIface]) (h:=h) (by rfl) (r.mono fun e y he=>by
    obtain⟨rfl,⟨g,e1⟩,e2⟩:=he;exact⟨.inr rfl,by rw[e1,e2];rfl,e2⟩) m B w E hv
 ·rename_i p n c q n' c' s2;cases hg;obtain⟨l1,l2,l3⟩:=Z2Y hl;simp only[Xh,Bool.not_eq_true',decide_eq_false_iff_not] at l1 l2 l3;obtain⟨l3,l4⟩:=l3;have l4:=Nat.le_of_ble_eq_true l4;rcases Z5 l1 with ⟨_,h0,_⟩ | ⟨b,o,x,rfl,hx,r1,e0⟩
  ·omega
  rcases Z5 l2 with ⟨_,h0,_⟩ | ⟨b',o',y,rfl,hy,t1,f0⟩
  ·omega
  rw[e0,f0];obtain⟨a1,a2,a3,a4,a5,a6,a7⟩:=Z4 r1;obtain⟨b1,b2,b3,b4,b5,b6,b7⟩:=Z4 t1;have r:=Zuw (c:=c) (c':=c') a1 b1 a7 (by rw[b2];exact ZW t1) (by omega) (by omega) (by omega);rw[a2,b2] at r;have e1:∀ k M:Nat,rn (fun _=>h.n) (.tuple #[sl 2 0 k M,.nilIface])= .tuple #[sl h.n 0 k M,.nilIface]:=fun k M=>by simp [rn,rn2,rn1,sl]
  have:=Zao (T:=Zx prog Zi Zn hcM) func127 Zum (Zj1 a7 b7) (vals:=[sl 0 o n c,sl 1 o' n' c']) (fun v hv=>by
   simp only[List.mem_cons,List.not_mem_nil,or_false] at hv;rcases hv with rfl | rfl<;>rfl) (k:=2) (Zc1 _) Zd5 (r.w.mono fun e y h=>⟨h.1,h.2.1,[],by rw[List.append_nil];exact h.2.2⟩) (by rfl) E (s:=Zkl b b') (Zet hx a5 a6 hy b5 b6)
  rw[e1] at this;exact this
 ·cases hg
end Go.Proofs.YtgefjidphfdhdaaGreatDoor.Na
namespace Go.Proofs.YtgefjidphfdhdaaGreatDoor.Na
open Go.KRun Go.Nt
set_option maxRecDepth 100000
set_option linter.unusedVariables false
def Zyj:Zba:=fun vals h s=>
 match vals,s with
 | [.slice p n c,.slice q n' c'],.inr (.inr (.inr (.inl true)))::s'=>some (.tuple #[ZD,.nilIface],h,s',[(decide (n=0∨n'=0),true)])
 | [.slice p n c,.slice q n' c'],.inr (.inr (.inr (.inl false))):: .inr (.inl V)::s'=>some (.tuple #[sl h.n 0 (Zg (dg (n+n') V)) (n+n'),.nilIface],h.push (wU (dg (n+n') V)) tU,s',[(decide (ZgK (Zm h p n) (Zm h q n')=dg (n+n') V),true),(zg h p n c,true),(zg h q n' c',true),(!decide (n=0∨n'=0) && Nat.ble (n+n') 8192,true)])
 | _,_=>none
theorem ZeU:ZJ 127 Zyj:=by
 intro vals h s v h' s' lg hg hl;unfold Zyj at hg;split at hg
 ·cases hg;exact Zl5 _ h [cmp true] _ _ [] _ rfl hl
 ·rename_i p n c q n' c' V s3;cases hg;obtain⟨l1,l2⟩:=Zso hl;have l1:=Xc l1;refine Zl5 _ h [cmp false] _ _ [] _ ?_ l2;simp only[Z3K,l1]
 ·cases hg
theorem Zzt {x y m k:Nat}(hx:x<4294967296^m) (hy:y<4294967296^k):x*y<4294967296^(m+k):=by
 rw[Nat.pow_add];exact Nat.mul_lt_mul'' hx hy
end Go.Proofs.YtgefjidphfdhdaaGreatDoor.Na
namespace Go.Proofs.YtgefjidphfdhdaaGreatDoor.Na
open Go.Proofs.Tryz
open Go.IntKind
open Go.KRun Go.Nt
set_option maxRecDepth 100000
set_option linter.unusedVariables false
def h5 (la lb R Y Q:List Value):Hp:=⟨5,[(Q,tU),(Y,tU),(R,tU),(lb,tR),(la,tR)]⟩
def toT (k x d:Int):Int:=u64.wrap (k+u64.wrap (u64.wrap x*u64.wrap d))
def toW (k x d:Int):Int:=u32.wrap (toT k x d)
def toC (k x d:Int):Int:=(toT k x d).fdiv (2^min (Int.toNat 32) 64)
def toP (F:Func):List Code:=[ZA (sn 0 F),ZA (sn 1 F),ZA (sn 2 F),ZA (sn 3 F),ZA (sn 4 F)]
def toB (F:Func):Code:=ZA (sn 5 F)
def toL (F:Func):Code:=cIn (cIn (ZV (toB F)))
def toF (o m c n k:Nat) (d cy b:Int) (v11 v12:Value):List Value:=[sl 2 o m c,sl 3 0 n k,uu d,undef,undef,undef,.bool false,i6' n,sl 2 o n c,.int .u64 cy,uu b,v11,v12]
theorem Zux:f208.body=some (Zaj (toP f208) (.seq (.seq (ZA (toB f208)) (.block 0 (.loop (toL f208)))) (sn 6 f208))):=by kernel_rfl
theorem Zzu (o m c n k:Nat) (d:Int) (la lb R Y Q:List Value):Zk (evL (Ze prog Zi Zih true) 100 (toP f208) ([sl 2 o m c,sl 3 0 n k,uu d]++List.replicate 62 undef,h5 la lb R Y Q,[num 0]) ⟨[],[],[]⟩) 13 52 none (toF o m c n k d 0 0 undef undef) (h5 la lb R Y Q) [(Z8 c,true),(ZR 0 n c c,true),(decide ((c:Int)=0∧(0:Int)≠0),false)]:=by and_intros<;>kernel_rfl
theorem Z6Z (o m c n k:Nat) (d cy b:Int) (v11 v12:Value) (h:Hp) (g:Nat→Value):Zd4 (evC (Ze prog Zi Zih true) 100 false (ZA (toB f208)) (toF o m c n k d cy b v11 v12++tl 52 g,h,[]) ⟨[],[],[]⟩) 13 5 3 44 none (toF o m c n k d cy b v11 v12) [sl 3 0 n k,i6' n,i6' 0] h []:=by and_intros<;>kernel_rfl
theorem Zzv (o m c n k:Nat) (d cy b j:Int) (v11 v12:Value) (h:Hp) (g g':Nat→Value):Zd4 (evC (Ze prog Zi Zih true) 100 false (toL f208) (ml (toF o m c n k d cy b v11 v12) 5 g [sl 3 0 n k,i6' n,i6' j] 44 g',h,[cmp false]) ⟨[],[],[]⟩) 13 5 3 44 (some (some 0)) (toF o m c n k d cy b v11 v12) [sl 3 0 n k,i6' n,i6' j] h [(decide (j<n),false)]:=by and_intros<;>kernel_rfl
theorem Z3L (o m c n k:Nat) (d cy b j x y:Int) (v11 v12:Value) (la lb R Y Q:List Value) (g g':Nat→Value):Zd4 (evC (Ze prog Zi Zih true) 100 false (toL f208) (ml (toF o m c n k d cy b v11 v12) 5 g [sl 3 0 n k,i6' n,i6' j] 44 g',h5 la lb R Y Q,[cmp true,at_,val (uu x),at_,val (uu y),at_,at_]) ⟨[],[],[]⟩) 13 5 3 44 none (toF o m c n k d (toC cy x d) (Zj7 y (toW cy x d) b) (i6' j) (uu x)) [sl 3 0 n k,i6' n,i6' (i64.wrap (j+1))] (h5 la lb (R.set (o+j.toNat*1) (uu (ZfV y (toW cy x d) b))) Y Q)
  [(decide ((32:Int)<0),false),(decide (o+j.toNat*1<R.length),true),inR j n,(wd4 y (toW cy x d) b,true),ZbO R o j y,inR j n,ZbO Y 0 j x,inR j n,(decide (j<n),true)]:=by and_intros<;>kernel_rfl
theorem Zzw (e:Bool) (o m c n k:Nat) (d cy b y:Int) (v11 v12 u1 u2 u3:Value) (la lb R Y Q:List Value) (g g':Nat→Value):Zk (evC (Ze prog Zi Zih true) 100 false (sn 6 f208) (ml (toF o m c n k d cy b v11 v12) 5 g [u1,u2,u3] 44 g',h5 la lb R Y Q,[at_,val (uu y),at_,at_,cmp e]) ⟨[],[],[]⟩) 7 58 (some none) [sl 2 o m c,sl 3 0 n k,uu d,undef,undef,undef,.bool e] (h5 la lb (R.set (o+((n:Int)).toNat*1) (uu (ZfV y (u32.wrap cy) b))) Y Q)
  [(Zj7 y (u32.wrap cy) b !=0,e),(decide (o+((n:Int)).toNat*1<R.length),true),inR n m,(wd4 y (u32.wrap cy) b,true),ZbO R o n y,inR n m]:=by
 cases e<;>exact by and_intros<;>kernel_rfl
end Go.Proofs.YtgefjidphfdhdaaGreatDoor.Na
namespace Go.Nt
theorem Zuy {P a b x y k br d e l A B D W:Int}(hk:k+x*d=W+4294967296*e) (hs:y-W-br=D-4294967296*l) (h:a+P*((y+4294967296*A)-d*(x+4294967296*B)-k-br)=b):a+P*D+4294967296*P*(A-d*B-e-l)=b:=by
 rw[← h];have e1:(y+4294967296*A)-d*(x+4294967296*B)-k-br=D+4294967296*(A-d*B-e-l):=by
  rw[Int.mul_add d x,← Int.mul_assoc d 4294967296 B,Int.mul_comm d 4294967296,Int.mul_assoc 4294967296 d B,Int.mul_comm d x];omega
 rw[e1];generalize A-d*B-e-l=Z;rw[Int.mul_add P D,← Int.mul_assoc P 4294967296 Z,Int.mul_comm P 4294967296];omega
theorem Zuz {P a b x y br e A B D:Int}(hs:y+x+br=D+4294967296*e) (h:a+P*((y+4294967296*A)+(x+4294967296*B)+br)=b):a+P*D+4294967296*P*(A+B+e)=b:=by
 rw[← h];have e1:(y+4294967296*A)+(x+4294967296*B)+br=D+4294967296*(A+B+e):=by omega
 rw[e1];generalize A+B+e=Z;rw[Int.mul_add P D,← Int.mul_assoc P 4294967296 Z,Int.mul_comm P 4294967296];omega
theorem Zgc {dx:List Int}{D l V:Int}(hd:wds dx) (hD:0≤D∧D<4294967296) (h:vN dx+4294967296^dx.length*(D+4294967296*l)=V):dx++[D]=dg (dx.length+1) V∧V/4294967296^(dx.length+1)=l:=by
 have hw:wds (dx++[D]):=z8 hd (fun x hx=>by rw[List.mem_singleton.1 hx];exact hD);have hv:vN (dx++[D])+4294967296^(dx.length+1)*l=V:=by
  rw[zd,← h,pw,Int.mul_add,← Int.mul_assoc,Int.mul_comm (4294967296^dx.length) 4294967296];omega
 have hl:(dx++[D]).length=dx.length+1:=by simp
 have hb:=Zax (dx++[D]) hw;rw[hl] at hb;constructor
 ·rw[← hv,Zch,← hl];exact (ZdY _ hw).symm
 ·rw[← hv,Int.add_mul_ediv_left _ _ (by have:=Zad (dx.length+1);omega),Int.ediv_eq_zero_of_lt hb.1 hb.2,Int.zero_add]
theorem Zu0 {V Q l:Int}(hQ:0<Q) (h:V/Q=l):V<0↔l<0:=by
 subst h;constructor
 ·intro hv;exact Int.ediv_lt_of_lt_mul hQ (by omega)
 ·intro hl;refine Decidable.byContradiction fun hn=> ?_;have:=Int.ediv_nonneg (a:=V) (b:=Q) (by omega) (by omega);omega
end Go.Nt
namespace Go.Proofs.YtgefjidphfdhdaaGreatDoor.Na
open Go.Proofs.Tryz
open Go.IntKind
open Go.KRun Go.Nt
set_option maxRecDepth 100000
set_option linter.unusedVariables false
theorem Zu1 {k x d:Int}(hk:0≤k∧k<4294967296) (hx:0≤x∧x<4294967296) (hd:0≤d∧d<4294967296):
  (0≤toW k x d∧toW k x d<4294967296)∧(0≤toC k x d∧toC k x d<4294967296)∧k+x*d=toW k x d+4294967296*toC k x d:=by
 have hxy:=Zzj hx hd;have e:toT k x d=k+x*d:=by
  unfold toT;simp only[ZcV];rw[Int.emod_eq_of_lt hx.1 (by omega),Int.emod_eq_of_lt hd.1 (by omega),Int.emod_eq_of_lt hxy.1 (by omega),Int.emod_eq_of_lt (by omega) (by omega)]
 unfold toW toC;rw[e,ZgJ,show ((2:Int)^min (Int.toNat 32) 64)=4294967296 from by decide,Int.fdiv_eq_ediv_of_nonneg _ (by omega)];generalize x*d=W at*;omega
theorem Zin {x y c:Int}(hx:0≤x∧x<4294967296) (hy:0≤y∧y<4294967296) (hc:0≤c∧c≤1):wd4 x y c=true:=by
 unfold wd4;simp only[Xi];omega
theorem Zu2 {F G la lb Y Q:List Value}{o c k:Nat}{M LB:List Int}{d:Int}(hF:F.length=o) (hM:wds M) (RB:Row Y 0 LB) (hl:M.length=LB.length+1) (hN:M.length<1099511627776) (hd:0≤d∧d<4294967296) (hc:M.length≤c) (hs:Z8 c=true) (e:Bool) (he:decide (vN M-d*vN LB<0)=e):
  Runs (Ze prog Zi Zih true) (Zaj (toP f208) (.seq (.seq (ZA (toB f208)) (.block 0 (.loop (toL f208)))) (sn 6 f208))) ([sl 2 o M.length c,sl 3 0 LB.length k,uu d]++List.replicate 62 undef,h5 la lb (F++(wU M++G)) Y Q,[]) fun e' y=>(e'=none∨e'=some none)∧zE prog f208 y.1 y.2.1=some (.bool e)∧y.2.1.cut 5=h5 la lb (F++(wU (dg M.length (vN M-d*vN LB))++G)) Y Q:=by
 have hwB:=RB.rng;have hcs:c<4611686018427387904:=Zl.1 hs;have hT:=Zd Zc2;refine Zz hT (Zzu o M.length c LB.length k d la lb _ Y Q) (Zj hs (Zj (by unfold ZR;exact Xa (by omega)) (Z7 (Xb (by omega))))) fun g=> ?_;refine Runs.seq (P1:=fun e' y=>e'=none∧∃ (dx:List Int) (t cy b:Int) (v11 v12 u1 u2 u3:Value) (g g':Nat→Value),dx.length=LB.length∧wds dx∧(0≤t∧t<4294967296)∧(0≤cy∧cy<4294967296)∧(0≤b∧b≤1)∧y.1=ml (toF o M.length c LB.length k d cy b v11 v12) 5 g [u1,u2,u3] 44 g'∧y.2.1=h5 la lb (F++(wU (dx++t::[])++G)) Y Q∧vN dx+4294967296^dx.length*(t-cy-b)=vN M-d*vN LB) ?_ ?_ (fun e y he=>by cases he.1)
 ·refine Runs.seq (P1:=fun e' y=>e'=none∧(∃ g g',y.1=ml (toF o M.length c LB.length k d 0 0 undef undef) 5 g [sl 3 0 LB.length k,i6' LB.length,i6' 0] 44 g')∧y.2.1=h5 la lb (F++(wU M++G)) Y Q) (zm hT (Z6Z o M.length c LB.length k d 0 0 undef undef _ g) (fun x hx=>by cases hx)) ?_ (fun e y he=>by cases he.1);rintro⟨t,h',s'⟩ ⟨_,⟨g1,g2,ht⟩,hh⟩;simp only at ht hh;subst ht hh;refine (Runs.forLoop (R:=fun _=>False) (P:=fun y=>∃ (dx:List Int) (t cy b:Int) (v11 v12 u1 u2 u3:Value) (g g':Nat→Value),dx.length=LB.length∧wds dx∧(0≤t∧t<4294967296)∧(0≤cy∧cy<4294967296)∧(0≤b∧b≤1)∧y.1=ml (toF o M.length c LB.length k d cy b v11 v12) 5 g [u1,u2,u3] 44 g'∧y.2.1=h5 la lb (F++(wU (dx++t::[])++G)) Y Q∧vN dx+4294967296^dx.length*(t-cy-b)=vN M-d*vN LB)
   (fun r y=>∃ (dx px bx:List Int) (cy b:Int) (v11 v12:Value) (g g':Nat→Value),px.length=r+1∧dx.length+px.length=M.length∧wds dx∧wds px∧bx=LB.drop dx.length∧(0≤cy∧cy<4294967296)∧(0≤b∧b≤1)∧y.1=ml (toF o M.length c LB.length k d cy b v11 v12) 5 g [sl 3 0 LB.length k,i6' LB.length,i6' dx.length] 44 g'∧y.2.1=h5 la lb (F++(wU (dx++px)++G)) Y Q∧vN dx+4294967296^dx.length*(vN px-d*vN bx-cy-b)=vN M-d*vN LB)
   ?_ (n:=LB.length) ⟨[],M,LB,0,0,undef,undef,g1,g2,by omega,by simp,(fun x hx=>by cases hx),hM,rfl,by omega,by omega,rfl,rfl,by simp [vN]⟩).mono fun e' y he=> ?_
  ·rintro r ⟨t,h',s'⟩ ⟨dx,px,bx,cy,b,v11,v12,g,g',hr,hlen,wd1,wd2,hb,hcy,hbb,ht,hh,hv⟩;simp only at ht hh;subst ht hh;cases r with
   | zero=>
    have hl':dx.length=LB.length:=by omega
    match px,hr,wd2,hv with
    | [t],hr,wd2,hv=>
     refine (zm hT (Zzv o M.length c LB.length k d cy b dx.length v11 v12 _ g g') (Z7 (Xb (by omega)))).mono fun e' y he=> ?_;obtain⟨rfl,⟨g1,g2,e2⟩,e3⟩:=he;have hbx:bx=[]:=by rw[hb,List.drop_eq_nil_of_le (by omega)]
     subst hbx;refine⟨rfl,dx,t,cy,b,v11,v12,_,_,_,g1,g2,hl',wd1,wd2 t Xf,hcy,hbb,e2,e3,?_⟩;simpa [vN] using hv
   | succ r=>
    match px,hr,hlen,wd2,hv with
    | y::px,hr,hlen,wd2,hv=>
     obtain⟨wy,wd2⟩:=zL wd2;have hl':dx.length<LB.length:=by simp at hlen hr;omega
     have hx:=RB.cell (k:=dx.length) (by omega);have hxr:=hwB (LB.getD dx.length 0) (by simp [List.getD,List.getElem?_eq_getElem hl']);have hbx:bx=LB.getD dx.length 0::LB.drop (dx.length+1):=by
      rw[hb,List.drop_eq_getElem_cons hl'];simp [List.getD,List.getElem?_eq_getElem hl']
     generalize LB.getD dx.length 0=x at*;obtain⟨k1,k2,k3⟩:=Zu1 hcy hxr hd;obtain⟨s1,s2,s3⟩:=ZfX wy k1 hbb;have cS:=ZdB hF dx y px G;have lS:o+dx.length<(F++(wU (dx++y::px)++G)).length:=(List.getElem?_eq_some_iff.1 cS).1;have l1:decide (o+((dx.length:Int)).toNat*1<(F++(wU (dx++y::px)++G)).length)=true:=by
      rw[Xg,Nat.mul_one];exact Xa lS
     have l2:(inR dx.length LB.length).1=(inR dx.length LB.length).2:=Xa (by omega);refine (zm hT (Z3L o M.length c LB.length k d cy b dx.length x y v11 v12 la lb _ Y Q g g') (Zj (by decide) (Zj l1 (Zj l2 (Zj (Zin wy k1 hbb) (Zj (zT cS) (Zj l2 (Zj (zT hx) (Zj l2 (Z7 (Xa (by omega)))))))))))).mono fun e' z he=> ?_;obtain⟨rfl,⟨g1,g2,e2⟩,e3⟩:=he;refine⟨r,by omega,dx++[ZfV y (toW cy x d) b],px,LB.drop (dx.length+1),toC cy x d,Zj7 y (toW cy x d) b,i6' dx.length,uu x,g1,g2,by simp at hr;omega,by simp at hlen ⊢;omega,z8 wd1 (fun u hu=>by rw[List.mem_singleton.1 hu];exact s1),wd2,by simp,k2,s2,?_,?_,?_⟩
     ·rw[e2,Zv (by omega) (by omega)];simp
     ·rw[e3,Xg,Nat.mul_one,ZdC hF]
     ·rw[hbx] at hv;simp only[vN] at hv;rw[zd,List.length_append,List.length_singleton,pw];exact Zuy k3 s3 hv
  ·match e',he with
   | none,he=>exact⟨rfl,he⟩
   | some none,he=>exact he.elim
   | some (some _),he=>exact he.elim
 ·rintro⟨t,h',s'⟩ ⟨_,dx,tw,cy,b,v11,v12,u1,u2,u3,g,g',hdl,wd1,wt,hcy,hbb,ht,hh,hv⟩;simp only at ht hh;subst ht hh;have ew:u32.wrap cy=cy:=by rw[ZgJ,Int.emod_eq_of_lt hcy.1 hcy.2]
  obtain⟨s1,s2,s3⟩:=ZfX wt hcy hbb;have cS:=ZdB hF dx tw [] G;have lS:o+dx.length<(F++(wU (dx++tw::[])++G)).length:=(List.getElem?_eq_some_iff.1 cS).1;obtain⟨f1,f2⟩:=Zgc (l:= - Zj7 tw cy b) (V:=vN M-d*vN LB) wd1 s1 (by rw[← hv,s3];congr 2;omega);have hn:=Zu0 (Zad (dx.length+1)) f2;have g0:=Zzw e o M.length c LB.length k d cy b tw v11 v12 u1 u2 u3 la lb (F++(wU (dx++tw::[])++G)) Y Q g g';rw[ew,← hdl,Xg,Nat.mul_one,ZdC hF] at g0;have l0:(Zj7 tw cy b !=0)=e:=by
   rw[← he];by_cases hneg:vN M-d*vN LB<0
   ·rw[Xa hneg];have:=hn.1 hneg;exact bne_iff_ne.2 (by omega)
   ·rw[Xb hneg];have:Zj7 tw cy b=0:=Decidable.byContradiction fun h0=>hneg (hn.2 (by omega));rw[this];rfl
  have l2:(inR dx.length M.length).1=(inR dx.length M.length).2:=Xa (by omega);rw[← hdl];refine (Zc hT g0 (Zj l0 (Zj (Xa lS) (Zj l2 (Zj (Zin wt hcy hbb) (Zj (zT cS) (Z7 l2))))))).mono fun e' y he=> ?_;obtain⟨rfl,⟨g1,e2⟩,e3⟩:=he;refine⟨.inr rfl,?_,?_⟩
  ·rw[e2,e3];rfl
  ·rw[e3,hl,← hdl,← f1,List.append_nil];rfl
def ZjD (la lb R Y Q:List Value) (t0 t1 t2 t3 t4:TypeId) (o m c n k:Nat):Bool:=Nat.beq t0 tR && Nat.beq t1 tR && Nat.beq t2 tU && Nat.beq t3 tU && Nat.beq t4 tU && Zu tU R o m c && Zu tU Y 0 n k && Nat.beq m (n+1) && Nat.blt m 1099511627776 && la.all still && lb.all still && Q.all still
theorem ZeV {la lb R Y Q:List Value}{t0 t1 t2 t3 t4:TypeId}{o m c n k:Nat}(q:ZjD la lb R Y Q t0 t1 t2 t3 t4 o m c n k=true):t0=tR∧t1=tR∧t2=tU∧t3=tU∧t4=tU∧Zu tU R o m c=true∧Zu tU Y 0 n k=true∧m=n+1∧m<1099511627776∧la.all still=true∧lb.all still=true∧Q.all still=true:=by
 unfold ZjD at q;simp only[Xh] at q;obtain⟨⟨⟨⟨⟨⟨⟨⟨⟨⟨⟨q0,q1⟩,q2⟩,q3⟩,q4⟩,ra⟩,rb⟩,qn⟩,qN⟩,s0⟩,s1⟩,s2⟩:=q;exact⟨Xj q0,Xj q1,Xj q2,Xj q3,Xj q4,ra,rb,Xj qn,Zl.1 qN,s0,s1,s2⟩
theorem Zaw {R:List Value}{o m c:Nat}(ra:Zu tU R o m c=true):R=R.take o++(wU (Zt R o m)++R.drop (o+m))∧(R.take o).length=o:=by
 obtain⟨a1,a2,a3,a4,a5,a6,a7⟩:=Z4 ra;constructor
 ·have h1:=a1.cut;rw[a2] at h1;rw[← h1];unfold ZbE;rw[← List.drop_drop,List.take_append_drop,List.take_append_drop]
 ·have:=a1.len;simp;omega
theorem Zl6 {la lb R Y Q:List Value}{o m c n k:Nat}{L:List Int}(ra:Zu tU R o m c=true) (rb:Zu tU Y 0 n k=true) (s0:la.all still=true) (s1:lb.all still=true) (s2:Q.all still=true):(h5 la lb (tmS R o m L) Y Q).tight=true:=by
 obtain⟨a1,a2,a3,a4,a5,a6,a7⟩:=Z4 ra;obtain⟨b1,b2,b3,b4,b5,b6,b7⟩:=Z4 rb;unfold Hp.tight tmS h5;simp only[List.all_cons,List.all_nil,List.all_append,Bool.and_true,Xh];refine⟨ZM (by omega) s2,ZM (by omega) (List.all_eq_true.2 b7),⟨?_,Za1 _ _,?_⟩,ZM (by omega) s1,ZM (by omega) s0⟩
 ·rw[List.all_eq_true];exact fun v hv=>ZY (by omega) (a7 v (List.mem_of_mem_take hv))
 ·rw[List.all_eq_true];exact fun v hv=>ZY (by omega) (a7 v (List.mem_of_mem_drop hv))
def Z3M:Zba:=fun vals h s=>
 match vals,h,s with
 | [.slice (some ⟨2,o,none⟩) m c,.slice (some ⟨3,0,none⟩) n k,.int .u32 d],⟨5,[(Q,t4),(Y,t3),(R,t2),(lb,t1),(la,t0)]⟩,.inr (.inr (.inr (.inl e)))::s'=>some (.bool e,h5 la lb (tmS R o m (dg m (vN (Zt R o m)-d*vN (Zt Y 0 n)))) Y Q,s',[(ZjD la lb R Y Q t0 t1 t2 t3 t4 o m c n k && decide (0≤d∧d<4294967296),true),(decide (vN (Zt R o m)-d*vN (Zt Y 0 n)<0),e)])
 | _,_,_=>none
theorem Zu3:ZJ 208 Z3M:=by
 intro vals h s v h' s' lg hg hl m B w E hv;unfold Z3M at hg;split at hg
 ·rename_i o mm c n k d Q t4 Y t3 R t2 lb t1 la t0 e s2;cases hg;have l1:=hl _ Xe;have l2:=hl _ (Xd _ Xf);simp only[Xh,Xi] at l1 l2;obtain⟨l1,hd⟩:=l1;obtain⟨q0,q1,q2,q3,q4,ra,rb,qn,qN,st0,st1,st2⟩:=ZeV l1;subst q0 q1 q2 q3 q4;obtain⟨a1,a2,a3,a4,a5,a6,a7⟩:=Z4 ra;obtain⟨b1,b2,b3,b4,b5,b6,b7⟩:=Z4 rb;obtain⟨eS,hF⟩:=Zaw ra;have r:=Zu2 (G:=R.drop (o+mm)) (la:=la) (lb:=lb) (Q:=Q) (c:=c) (k:=k) hF a1.rng b1 (by rw[a2,b2];exact qn) (by rw[a2];exact qN) hd (by rw[a2];exact a3) a4 e l2;rw[a2,b2,← eS] at r;exact ZI (T:=Ze prog Zi Zih true) func208 Zux (vals:=[sl 2 o mm c,sl 3 0 n k,uu d]) (v:= .bool e) (h:=h5 la lb R Y Q) (by rfl) (Zl6 ra rb st0 st1 st2) r m B w E hv
 ·cases hg
def pbP (F:Func):List Code:=[ZA (sn 0 F),ZA (sn 1 F)]
def pbB (F:Func):Code:=ZA (sn 2 F)
def pbL (F:Func):Code:=cIn (cIn (ZV (pbB F)))
def pbF (o m c n k:Nat) (b:Int) (v6 v7 u1 u2 u3:Value):List Value:=[sl 2 o m c,sl 3 0 n k,undef,undef,.bool false,uu b,v6,v7,u1,u2,u3]
def adD (x y c:Int):Int:=(x+y+c) % 4294967296
def adC (x y c:Int):Int:=(x+y+c)/4294967296
theorem Zu4:f209.body=some (Zaj (pbP f209) (.seq (.seq (ZA (pbB f209)) (.block 0 (.loop (pbL f209)))) (sn 3 f209))):=by kernel_rfl
theorem Zzx (o m c n k:Nat) (h:Hp):Zk (evL (Ze prog Zi ZgY true) 100 (pbP f209) ([sl 2 o m c,sl 3 0 n k]++List.replicate 43 undef,h,[]) ⟨[],[],[]⟩) 11 34 none (pbF o m c n k 0 undef undef undef undef undef) h []:=by and_intros<;>kernel_rfl
theorem Z7a (o m c n k:Nat) (b:Int) (v6 v7 u1 u2 u3:Value) (h:Hp) (g:Nat→Value):Zk (evC (Ze prog Zi ZgY true) 100 false (ZA (pbB f209)) (pbF o m c n k b v6 v7 u1 u2 u3++tl 34 g,h,[]) ⟨[],[],[]⟩) 11 34 none (pbF o m c n k b v6 v7 (sl 3 0 n k) (i6' n) (i6' 0)) h []:=by and_intros<;>kernel_rfl
theorem Zzy (o m c n k:Nat) (b j:Int) (v6 v7:Value) (h:Hp) (g:Nat→Value):Zk (evC (Ze prog Zi ZgY true) 100 false (pbL f209) (pbF o m c n k b v6 v7 (sl 3 0 n k) (i6' n) (i6' j)++tl 34 g,h,[cmp false]) ⟨[],[],[]⟩) 11 34 (some (some 0)) (pbF o m c n k b v6 v7 (sl 3 0 n k) (i6' n) (i6' j)) h [(decide (j<n),false)]:=by and_intros<;>kernel_rfl
theorem Z3N (o m c n k:Nat) (b j x y:Int) (v6 v7:Value) (la lb R Y Q:List Value) (g:Nat→Value):Zk (evC (Ze prog Zi ZgY true) 100 false (pbL f209) (pbF o m c n k b v6 v7 (sl 3 0 n k) (i6' n) (i6' j)++tl 34 g,h5 la lb R Y Q,[cmp true,at_,val (uu x),at_,val (uu y),at_,at_]) ⟨[],[],[]⟩) 11 34 none (pbF o m c n k (adC y x b) (i6' j) (uu x) (sl 3 0 n k) (i6' n) (i6' (i64.wrap (j+1)))) (h5 la lb (R.set (o+j.toNat*1) (uu (adD y x b))) Y Q)
  [(decide (o+j.toNat*1<R.length),true),inR j m,(wd4 y x b,true),ZbO R o j y,inR j m,ZbO Y 0 j x,inR j n,(decide (j<n),true)]:=by and_intros<;>kernel_rfl
theorem Zzz (e:Bool) (o m c n k:Nat) (b y:Int) (v6 v7 u1 u2 u3:Value) (la lb R Y Q:List Value) (g:Nat→Value):Zk (evC (Ze prog Zi ZgY true) 100 false (sn 3 f209) (pbF o m c n k b v6 v7 u1 u2 u3++tl 34 g,h5 la lb R Y Q,[at_,val (uu y),at_,at_,cmp e]) ⟨[],[],[]⟩) 5 40 (some none) [sl 2 o m c,sl 3 0 n k,undef,undef,.bool e] (h5 la lb (R.set (o+((n:Int)).toNat*1) (uu (adD y 0 b))) Y Q)
  [(adC y 0 b !=0,e),(decide (o+((n:Int)).toNat*1<R.length),true),inR n m,(wd4 y 0 b,true),ZbO R o n y,inR n m]:=by
 cases e<;>exact by and_intros<;>kernel_rfl
theorem Zgd {x y c:Int}(hx:0≤x∧x<4294967296) (hy:0≤y∧y<4294967296) (hc:0≤c∧c≤1):(0≤adD x y c∧adD x y c<4294967296)∧(0≤adC x y c∧adC x y c≤1)∧x+y+c=adD x y c+4294967296*adC x y c:=by
 unfold adD adC;omega
theorem Zu5 {F G la lb Y Q:List Value}{o c k:Nat}{M LB:List Int}(hF:F.length=o) (hM:wds M) (RB:Row Y 0 LB) (hl:M.length=LB.length+1) (hN:M.length<1099511627776) (e:Bool) (he:decide (4294967296^M.length≤vN M+vN LB)=e):
  Runs (Ze prog Zi ZgY true) (Zaj (pbP f209) (.seq (.seq (ZA (pbB f209)) (.block 0 (.loop (pbL f209)))) (sn 3 f209))) ([sl 2 o M.length c,sl 3 0 LB.length k]++List.replicate 43 undef,h5 la lb (F++(wU M++G)) Y Q,[]) fun e' y=>(e'=none∨e'=some none)∧zE prog f209 y.1 y.2.1=some (.bool e)∧y.2.1.cut 5=h5 la lb (F++(wU (dg M.length (vN M+vN LB))++G)) Y Q:=by
 have hwB:=RB.rng;have hT:=Zd ZbP;refine Zz hT (Zzx o M.length c LB.length k _) (fun x hx=>by cases hx) fun g=> ?_;refine Runs.seq (P1:=fun e' y=>e'=none∧∃ (dx:List Int) (t b:Int) (v6 v7 u1 u2 u3:Value) (g:Nat→Value),dx.length=LB.length∧wds dx∧(0≤t∧t<4294967296)∧(0≤b∧b≤1)∧y.1=pbF o M.length c LB.length k b v6 v7 u1 u2 u3++tl 34 g∧y.2.1=h5 la lb (F++(wU (dx++t::[])++G)) Y Q∧vN dx+4294967296^dx.length*(t+b)=vN M+vN LB) ?_ ?_ (fun e y he=>by cases he.1)
 ·refine Runs.seq (P1:=fun e' y=>e'=none∧(∃ g,y.1=pbF o M.length c LB.length k 0 undef undef (sl 3 0 LB.length k) (i6' LB.length) (i6' 0)++tl 34 g)∧y.2.1=h5 la lb (F++(wU M++G)) Y Q) (Zc hT (Z7a o M.length c LB.length k 0 undef undef undef undef undef _ g) (fun x hx=>by cases hx)) ?_ (fun e y he=>by cases he.1);rintro⟨t,h',s'⟩ ⟨_,⟨g1,ht⟩,hh⟩;simp only at ht hh;subst ht hh;refine (Runs.forLoop (R:=fun _=>False) (P:=fun y=>∃ (dx:List Int) (t b:Int) (v6 v7 u1 u2 u3:Value) (g:Nat→Value),dx.length=LB.length∧wds dx∧(0≤t∧t<4294967296)∧(0≤b∧b≤1)∧y.1=pbF o M.length c LB.length k b v6 v7 u1 u2 u3++tl 34 g∧y.2.1=h5 la lb (F++(wU (dx++t::[])++G)) Y Q∧vN dx+4294967296^dx.length*(t+b)=vN M+vN LB)
   (fun r y=>∃ (dx px bx:List Int) (b:Int) (v6 v7:Value) (g:Nat→Value),px.length=r+1∧dx.length+px.length=M.length∧wds dx∧wds px∧bx=LB.drop dx.length∧(0≤b∧b≤1)∧y.1=pbF o M.length c LB.length k b v6 v7 (sl 3 0 LB.length k) (i6' LB.length) (i6' dx.length)++tl 34 g∧y.2.1=h5 la lb (F++(wU (dx++px)++G)) Y Q∧vN dx+4294967296^dx.length*(vN px+vN bx+b)=vN M+vN LB)
   ?_ (n:=LB.length) ⟨[],M,LB,0,undef,undef,g1,by omega,by simp,(fun x hx=>by cases hx),hM,rfl,by omega,rfl,rfl,by simp [vN]⟩).mono fun e' y he=> ?_
  ·rintro r ⟨t,h',s'⟩ ⟨dx,px,bx,b,v6,v7,g,hr,hlen,wd1,wd2,hb,hbb,ht,hh,hv⟩;simp only at ht hh;subst ht hh;cases r with
   | zero=>
    have hl':dx.length=LB.length:=by omega
    match px,hr,wd2,hv with
    | [t],hr,wd2,hv=>
     refine (Zc hT (Zzy o M.length c LB.length k b dx.length v6 v7 _ g) (Z7 (Xb (by omega)))).mono fun e' y he=> ?_;obtain⟨rfl,⟨g1,e2⟩,e3⟩:=he;have hbx:bx=[]:=by rw[hb,List.drop_eq_nil_of_le (by omega)]
     subst hbx;refine⟨rfl,dx,t,b,v6,v7,_,_,_,g1,hl',wd1,wd2 t Xf,hbb,e2,e3,?_⟩;simpa [vN] using hv
   | succ r=>
    match px,hr,hlen,wd2,hv with
    | y::px,hr,hlen,wd2,hv=>
     obtain⟨wy,wd2⟩:=zL wd2;have hl':dx.length<LB.length:=by simp at hlen hr;omega
     have hx:=RB.cell (k:=dx.length) (by omega);have hxr:=hwB (LB.getD dx.length 0) (by simp [List.getD,List.getElem?_eq_getElem hl']);have hbx:bx=LB.getD dx.length 0::LB.drop (dx.length+1):=by
      rw[hb,List.drop_eq_getElem_cons hl'];simp [List.getD,List.getElem?_eq_getElem hl']
     generalize LB.getD dx.length 0=x at*;obtain⟨s1,s2,s3⟩:=Zgd wy hxr hbb;have cS:=ZdB hF dx y px G;have lS:o+dx.length<(F++(wU (dx++y::px)++G)).length:=(List.getElem?_eq_some_iff.1 cS).1;have l1:decide (o+((dx.length:Int)).toNat*1<(F++(wU (dx++y::px)++G)).length)=true:=by
      rw[Xg,Nat.mul_one];exact Xa lS
     have l2:(inR dx.length M.length).1=(inR dx.length M.length).2:=Xa (by omega);have l3:(inR dx.length LB.length).1=(inR dx.length LB.length).2:=Xa (by omega);refine (Zc hT (Z3N o M.length c LB.length k b dx.length x y v6 v7 la lb _ Y Q g) (Zj l1 (Zj l2 (Zj (Zin wy hxr hbb) (Zj (zT cS) (Zj l2 (Zj (zT hx) (Zj l3 (Z7 (Xa (by omega))))))))))).mono fun e' z he=> ?_;obtain⟨rfl,⟨g1,e2⟩,e3⟩:=he;refine⟨r,by omega,dx++[adD y x b],px,LB.drop (dx.length+1),adC y x b,i6' dx.length,uu x,g1,by simp at hr;omega,by simp at hlen ⊢;omega,z8 wd1 (fun u hu=>by rw[List.mem_singleton.1 hu];exact s1),wd2,by simp,s2,?_,?_,?_⟩
     ·rw[e2,Zv (by omega) (by omega)];simp
     ·rw[e3,Xg,Nat.mul_one,ZdC hF]
     ·rw[hbx] at hv;simp only[vN] at hv;rw[zd,List.length_append,List.length_singleton,pw];exact Zuz s3 hv
  ·match e',he with
   | none,he=>exact⟨rfl,he⟩
   | some none,he=>exact he.elim
   | some (some _),he=>exact he.elim
 ·rintro⟨t,h',s'⟩ ⟨_,dx,tw,b,v6,v7,u1,u2,u3,g,hdl,wd1,wt,hbb,ht,hh,hv⟩;simp only at ht hh;subst ht hh;obtain⟨s1,s2,s3⟩:=Zgd wt (show (0:Int)≤0∧(0:Int)<4294967296 by omega) hbb;have cS:=ZdB hF dx tw [] G;have lS:o+dx.length<(F++(wU (dx++tw::[])++G)).length:=(List.getElem?_eq_some_iff.1 cS).1;obtain⟨f1,f2⟩:=Zgc (l:=adC tw 0 b) (V:=vN M+vN LB) wd1 s1 (by rw[← hv,← s3];congr 2;omega);have g0:=Zzz e o M.length c LB.length k b tw v6 v7 u1 u2 u3 la lb (F++(wU (dx++tw::[])++G)) Y Q g;rw[← hdl,Xg,Nat.mul_one,ZdC hF] at g0;have l0:(adC tw 0 b !=0)=e:=by
   rw[← he,hl,← hdl,← f2];have hp:=Zad (dx.length+1);by_cases hbig:4294967296^(dx.length+1)≤vN M+vN LB
   ·rw[Xa hbig];have:(1:Int)≤(vN M+vN LB)/4294967296^(dx.length+1):=(Int.le_ediv_iff_mul_le hp).2 (by omega);exact bne_iff_ne.2 (by omega)
   ·rw[Xb hbig];have h1:=Zax M hM;have h2:=Zax LB hwB;rw[Int.ediv_eq_zero_of_lt (by omega) (by omega)];rfl
  have l2:(inR dx.length M.length).1=(inR dx.length M.length).2:=Xa (by omega);rw[← hdl];refine (Zc hT g0 (Zj l0 (Zj (Xa lS) (Zj l2 (Zj (Zin wt (by omega) hbb) (Zj (zT cS) (Z7 l2))))))).mono fun e' y he=> ?_;obtain⟨rfl,⟨g1,e2⟩,e3⟩:=he;refine⟨.inr rfl,?_,?_⟩
  ·rw[e2,e3];rfl
  ·rw[e3,hl,← hdl,← f1,List.append_nil];rfl
def Z3O:Zba:=fun vals h s=>
 match vals,h,s with
 | [.slice (some ⟨2,o,none⟩) m c,.slice (some ⟨3,0,none⟩) n k],⟨5,[(Q,t4),(Y,t3),(R,t2),(lb,t1),(la,t0)]⟩,.inr (.inr (.inr (.inl e)))::s'=>some (.bool e,h5 la lb (tmS R o m (dg m (vN (Zt R o m)+vN (Zt Y 0 n)))) Y Q,s',[(ZjD la lb R Y Q t0 t1 t2 t3 t4 o m c n k,true),(decide (4294967296^m≤vN (Zt R o m)+vN (Zt Y 0 n)),e)])
 | _,_,_=>none
theorem Zu6:ZJ 209 Z3O:=by
 intro vals h s v h' s' lg hg hl m B w E hv;unfold Z3O at hg;split at hg
 ·rename_i o mm c n k Q t4 Y t3 R t2 lb t1 la t0 e s2;cases hg;have l1:=hl _ Xe;have l2:=hl _ (Xd _ Xf);simp only at l1 l2;obtain⟨q0,q1,q2,q3,q4,ra,rb,qn,qN,st0,st1,st2⟩:=ZeV l1;subst q0 q1 q2 q3 q4;obtain⟨a1,a2,a3,a4,a5,a6,a7⟩:=Z4 ra;obtain⟨b1,b2,b3,b4,b5,b6,b7⟩:=Z4 rb;obtain⟨eS,hF⟩:=Zaw ra;have r:=Zu5 (G:=R.drop (o+mm)) (la:=la) (lb:=lb) (Q:=Q) (c:=c) (k:=k) hF a1.rng b1 (by rw[a2,b2];exact qn) (by rw[a2];exact qN) e (by rw[a2];exact l2);rw[a2,b2,← eS] at r;exact ZI (T:=Ze prog Zi ZgY true) func209 Zu4 (vals:=[sl 2 o mm c,sl 3 0 n k]) (v:= .bool e) (h:=h5 la lb R Y Q) (by rfl) (Zl6 ra rb st0 st1 st2) r m B w E hv
 ·cases hg
end Go.Proofs.YtgefjidphfdhdaaGreatDoor.Na
namespace Go.Nt
theorem Zp8 {M L:List Int}(hM:wds M) (hL:wds L) {n:Nat}(hm:M.length=n+1) (hl:L.length=n) (hn:0<n) (hb:0<L.getD (n-1) 0):vN M/vN L≤(M.getD n 0*4294967296+M.getD (n-1) 0)/L.getD (n-1) 0:=by
 have hP:=Zad (n-1);have eM:M=(M.take (n-1)++[M.getD (n-1) 0])++[M.getD n 0]:=by
  have h1:=Zae (L:=M) (k:=n) (by omega);have h2:=Zae (L:=M) (k:=n-1) (by omega);rw[show n-1+1=n by omega] at h2;rw[← h2,← h1,← hm,List.take_length]
 have eL:L=L.take (n-1)++[L.getD (n-1) 0]:=by
  have h2:=Zae (L:=L) (k:=n-1) (by omega);rw[← h2,show n-1+1=L.length by omega,List.take_length]
 have vM:vN M=vN (M.take (n-1))+4294967296^(n-1)*(M.getD n 0*4294967296+M.getD (n-1) 0):=by
  have:vN M=vN ((M.take (n-1)++[M.getD (n-1) 0])++[M.getD n 0]):=by rw[← eM]
  rw[this,zd,zd,List.length_append,List.length_take,Nat.min_eq_left (by omega),List.length_singleton,pw,Int.mul_add,Int.mul_comm (M.getD n 0) 4294967296,← Int.mul_assoc,Int.mul_comm (4294967296^(n-1)) 4294967296];omega
 have vL:vN L=vN (L.take (n-1))+4294967296^(n-1)*L.getD (n-1) 0:=by
  have:vN L=vN (L.take (n-1)++[L.getD (n-1) 0]):=by rw[← eL]
  rw[this,zd,List.length_take,Nat.min_eq_left (by omega)]
 have bM:=Zax (M.take (n-1)) (Zcc hM _);have bL:=Zax (L.take (n-1)) (Zcc hL _);rw[List.length_take,Nat.min_eq_left (by omega)] at bM bL;generalize M.getD n 0*4294967296+M.getD (n-1) 0=T at*;generalize L.getD (n-1) 0=b at*;generalize (4294967296:Int)^(n-1)=P at*;have hPb:0<P*b:=Int.mul_pos hP hb;have hq:=Int.mul_ediv_self_le (x:=vN M) (k:=vN L) (by omega);have hq0:0≤vN M/vN L:=by
  by_cases h0:0≤vN M
  ·exact Int.ediv_nonneg h0 (by omega)
  ·have:=(Zax M hM).1;omega
 generalize hqd:vN M/vN L=q at*;refine (Int.le_ediv_iff_mul_le hb).2 ?_;have h1:P*b*q≤vN L*q:=Int.mul_le_mul_of_nonneg_right (by omega) hq0;have h2:P*b*q<P*(T+1):=by
  rw[Int.mul_add];omega
 rw[Int.mul_assoc] at h2;have h3:=Int.lt_of_mul_lt_mul_left h2 (by omega);rw[Int.mul_comm q b];omega
theorem Zio {h l b:Int}(hh:0≤h) (hl:0≤l∧l<4294967296) (hb:h<b):0≤(h*4294967296+l)/b∧(h*4294967296+l)/b<4294967296:=
 ⟨Int.ediv_nonneg (by omega) (by omega),Int.ediv_lt_of_lt_mul (by omega) (by omega)⟩
theorem Zip {M B:Int}(hB:0<B) (h0:0≤M) (h:M<4294967296*B):0≤M/B∧M/B≤4294967295:=by
 have h1:=Int.ediv_lt_of_lt_mul hB h;exact⟨Int.ediv_nonneg h0 (by omega),by omega⟩
theorem Zu7 {M B d:Int}(hB:0<B) (h1:0≤M-d*B) (h2:M/B≤d):d=M/B∧M-d*B=M % B:=by
 have h3:d≤M/B:=(Int.le_ediv_iff_mul_le hB).2 (by omega);have e:d=M/B:=by omega
 refine⟨e,?_⟩;have:=Int.emod_add_mul_ediv M B;rw[e,Int.mul_comm (M/B) B];omega
theorem Zl7 {M B d:Int}(hB:0<B) (h:M-d*B<0):M/B<d:=Int.ediv_lt_of_lt_mul hB (by omega)
theorem Zz0 {m:Nat}{V:Int}(h0:V<0) (h1: -(4294967296^m)≤V):vN (dg m V)=V+4294967296^m:=by
 have:=Zch m V 1;rw[Int.mul_one] at this;rw[← this];exact ZjC m _ (by omega) (by omega)
end Go.Nt
namespace Go.Pt
open Go.IntKind
def Ziq (x y:Int):Int:=u64.wrap ((BitVec.ofInt 64 x &&& BitVec.ofInt 64 y).toNat:Nat)
def bOr (x y:Int):Int:=u64.wrap ((BitVec.ofInt 64 x ||| BitVec.ofInt 64 y).toNat:Nat)
def Z3P (x y:Int):Int:=u64.wrap ((BitVec.ofInt 64 x ^^^ BitVec.ofInt 64 y).toNat:Nat)
def Zu8 (x y:Int):Int:=u64.wrap ((BitVec.ofInt 64 x &&& ~~~(BitVec.ofInt 64 y)).toNat:Nat)
abbrev U (p:Int):Prop:=0≤p∧p<18446744073709551616
abbrev I (n:Int):Prop:= -9223372036854775808≤n∧n≤9223372036854775807
theorem Z3Q (n:Int):u64.wrap n=n % 18446744073709551616:=by simp [IntKind.wrap,IntKind.bits,IntKind.signed]
theorem Zir {n:Int}(h:U n):u64.wrap n=n:=by rw[Z3Q];unfold U at h;omega
theorem Za2 {n:Int}(h:I n):i64.wrap n=n:=by
 unfold I at h;simp [IntKind.wrap,IntKind.bits,IntKind.signed];omega
theorem ofU {Z:Nat}(h:Z<18446744073709551616):(BitVec.ofInt 64 (Z:Int)).toNat=Z:=by simp;omega
theorem Zo2 {V:BitVec 64}:u64.wrap (V.toNat:Nat)=(V.toNat:Int):=by
 have:=V.isLt;exact Zir ⟨by omega,by omega⟩
theorem Zp9 (x k j:Nat):x &&& (2^k*(2^j-1))=2^k*(x/2^k % 2^j):=by
 refine Nat.eq_of_testBit_eq fun i=> ?_;rw[Nat.testBit_and,Nat.testBit_two_pow_mul,Nat.testBit_two_pow_sub_one,Nat.testBit_two_pow_mul,Nat.testBit_mod_two_pow,Nat.testBit_div_two_pow];by_cases h:k≤i
 ·have e:k+(i-k)=i:=by omega
  have e':i-k+k=i:=by omega
  simp [h,e',Bool.and_comm]
 ·simp [h]
theorem Zbk {p m:Int}(k j:Nat) (hp:U p) (hm:m=((2^k*(2^j-1):Nat):Int)) (hk:2^k*(2^j-1)<18446744073709551616):Ziq p m=2^k*(p/2^k % 2^j):=by
 obtain⟨h0,h1⟩:=hp;obtain⟨Z,rfl⟩:=Int.eq_ofNat_of_zero_le h0;unfold Ziq;rw[Zo2,BitVec.toNat_and,ofU (by omega),hm,ofU hk,Zp9];simp
theorem or_low {p q:Int}(k:Nat) {z:Int}(hz:0≤z) (hq:q=2^k*z) (hp:0≤p) (hk:p<2^k) (hs:q+p<18446744073709551616):bOr p q=q+p:=by
 obtain⟨Z,rfl⟩:=Int.eq_ofNat_of_zero_le hz;obtain⟨Y,rfl⟩:=Int.eq_ofNat_of_zero_le hp;have ex:(2:Int)^k*(Z:Nat)=((2^k*Z:Nat):Int):=by simp
 have hY:Y<2^k:=by
  have:((Y:Nat):Int)<((2^k:Nat):Int):=by simpa using hk
  exact Int.ofNat_lt.1 this
 subst hq;rw[ex] at hs ⊢;have hX:2^k*Z+Y<18446744073709551616:=by omega
 unfold bOr;rw[Zo2,BitVec.toNat_or,ofU (by omega),ofU (by omega),Nat.or_comm,← Nat.two_pow_add_eq_or_of_lt hY];omega
theorem Zge {p:Int}(hp:U p):Zu8 p 9223372036854775808=p % 9223372036854775808:=by
 obtain⟨h0,h1⟩:=hp;obtain⟨Z,rfl⟩:=Int.eq_ofNat_of_zero_le h0;unfold Zu8;have e:(~~~(BitVec.ofInt 64 9223372036854775808)).toNat=2^63-1:=by decide
 rw[Zo2,BitVec.toNat_and,ofU (by omega),e,Nat.and_two_pow_sub_one_eq_mod];omega
theorem Zis (r:Nat) (h:r<2^63):r ^^^ 2^63=2^63+r:=by
 have e:2^63+r=2^63 ||| r:=by
  have:=Nat.two_pow_add_eq_or_of_lt h 1;simpa using this
 rw[e];refine Nat.eq_of_testBit_eq fun i=> ?_;rw[Nat.testBit_xor,Nat.testBit_or,Nat.testBit_two_pow];by_cases hi:63=i
 ·subst hi;rw[Nat.testBit_lt_two_pow h];simp
 ·simp [hi]
theorem Zl8 {p:Int}(hp:U p):Z3P p 9223372036854775808=(p+9223372036854775808) % 18446744073709551616:=by
 obtain⟨h0,h1⟩:=hp;obtain⟨Z,rfl⟩:=Int.eq_ofNat_of_zero_le h0;unfold Z3P;have e:(BitVec.ofInt 64 9223372036854775808).toNat=2^63:=by decide
 rw[Zo2,BitVec.toNat_xor,ofU (by omega),e];by_cases hz:Z<2^63
 ·rw[Zis Z hz];omega
 ·have h2:=Zis (Z-2^63) (by omega);have e2:Z=(Z-2^63) ^^^ 2^63:=by rw[h2];omega
  have e3:Z ^^^ 2^63=Z-2^63:=by
   rw[e2,Nat.xor_assoc,Nat.xor_self,Nat.xor_zero,← e2]
  rw[e3];omega
theorem Zl9 {p:Int}(hp:U p):Ziq p 4503599627370495=p % 4503599627370496:=by
 rw[Zbk 0 52 hp (by rfl) (by decide)];simp
theorem ZlA {p:Int}(hp:U p):Ziq p 9223372036854775808=9223372036854775808*(p/9223372036854775808 % 2):=Zbk 63 1 hp (by rfl) (by decide)
theorem ZjE {p:Int}(hp:U p):Ziq p 2251799813685248=2251799813685248*(p/2251799813685248 % 2):=Zbk 51 1 hp (by rfl) (by decide)
theorem ZpA {p:Int}(hp:U p):Ziq p 15=p % 16:=by
 rw[Zbk 0 4 hp (by rfl) (by decide)];simp
def sgn (p:Int):Bool:=decide (9223372036854775808≤p)
def mag (p:Int):Int:=p % 9223372036854775808
def ex (p:Int):Int:=p/4503599627370496 % 2048
def fr (p:Int):Int:=p % 4503599627370496
def cl (p:Int):Int:=if ex p=0 then (if fr p=0 then 0 else 1) else if ex p=2047 then (if fr p=0 then 3 else if 2251799813685248≤fr p then 4 else 5) else 2
def xp (p:Int):Int:=if ex p=0 then -1074 else if ex p=2047 then 0 else ex p-1075
def sg (p:Int):Int:=if ex p=0 then fr p else if ex p=2047 then fr p else fr p+4503599627370496
theorem Zsu (p:Int):mag p/4503599627370496=ex p:=by unfold mag ex;omega
theorem Zhh (p:Int):0≤ex p∧ex p<2048:=by unfold ex;omega
theorem ZdD (p:Int):0≤fr p∧fr p<4503599627370496:=by unfold fr;omega
theorem Zit {p:Int}(hp:U p):p=(if sgn p=true then 9223372036854775808 else 0)+4503599627370496*ex p+fr p:=by
 unfold sgn ex fr U at*;split<;>rename_i h<;>simp only[Xi] at h<;>omega
end Go.Pt
namespace Go.Proofs.YtgefjidphfdhdaaGreatDoor.Na
open Go.Proofs.Tryz
open Go.IntKind
open Go.KRun Go.Nt
set_option maxRecDepth 100000
set_option linter.unusedVariables false
def gsV (h l b:Int):Int:=if b≤h then 4294967295 else (h*4294967296+l)/b
def Z3a (h l b:Int):Bool:=decide ((0≤h∧h<4294967296)∧(0≤l∧l<4294967296)∧0<b∧b<4294967296)
theorem Z3R (h l b:Int):Zs (Zf (Ze prog Zi Zn true) 100 207 [uu h,uu l,uu b] [cmp true]) (uu 4294967295) [(decide (h≥b),true)]:=by and_intros<;>kernel_rfl
theorem Z3S (h l b q:Int):Zs (Zf (Ze prog Zi Zn true) 100 207 [uu h,uu l,uu b] [cmp false,num q]) (uu (u32.wrap q)) [(decide (u64.wrap b=0),false),(decide (u64.wrap ((Go.Pt.bOr (u64.wrap (u64.wrap h*2^min (Int.toNat 32) 64)) (u64.wrap l)).tdiv (u64.wrap b))=q),true),(decide ((32:Int)<0),false),(decide (h≥b),false)]:=by and_intros<;>kernel_rfl
theorem Zu9 (p q:Int):Go.Pt.bOr p q=Go.Pt.bOr q p:=by unfold Go.Pt.bOr;rw[BitVec.or_comm]
def gGs:Ans:=fun vals s=>
 match vals with
 | [.int .u32 h,.int .u32 l,.int .u32 b]=>some (uu (gsV h l b),s,[(Z3a h l b,true)])
 | _=>none
theorem Zz1:ZC 207 gGs:=by
 intro vals s v s' lg h hl w;unfold gGs at h;split at h
 ·rename_i x y z;cases h;have hr:=hl _ Xf;simp only[Z3a,Xi] at hr;obtain⟨hx,hy,hz⟩:=hr;unfold gsV;by_cases hc:z≤x
  ·rw[if_pos hc];exact Zb (Zd Zh) (Z3R x y z) (Z7 (Xa hc)) (by rfl) (by rfl) w
  ·rw[if_neg hc];have hb:=Zio hx.1 hy (show x<z by omega);have e1:Go.Pt.bOr (u64.wrap (u64.wrap x*2^min (Int.toNat 32) 64)) (u64.wrap y)=x*4294967296+y:=by
    simp only[ZcV];rw[Int.emod_eq_of_lt hx.1 (by omega),Int.emod_eq_of_lt hy.1 (by omega),show ((2:Int)^min (Int.toNat 32) 64)=4294967296 from by decide,Int.emod_eq_of_lt (by omega) (by omega),Zu9];exact Go.Pt.or_low 32 (z:=x) hx.1 (by omega) hy.1 (by omega) (by omega)
   have e2:u64.wrap z=z:=by rw[ZcV,Int.emod_eq_of_lt (by omega) (by omega)]
   have e3:u32.wrap ((x*4294967296+y)/z)=(x*4294967296+y)/z:=by rw[ZgJ,Int.emod_eq_of_lt hb.1 hb.2]
   have:=Zb (Zd Zh) (Z3S x y z ((x*4294967296+y)/z)) (Zj (by rw[e2];exact Xb (by omega)) (Zj (by rw[e1,e2,Int.tdiv_eq_ediv_of_nonneg (by omega),ZcV,Int.emod_eq_of_lt hb.1 (by omega)];exact Xa rfl) (Zj (by decide) (Z7 (Xb (by omega)))))) (by rfl) (by rfl) w;rw[e3] at this;exact this
 ·cases h
def Zsv:Con:=alt 207 gGs Zn
theorem ZuA:ConOk Zsv:=Zr func207 rfl Zz1 Zh
def hcG:Hc:=zJ 208 Z3M (zJ 209 Z3O hcN)
theorem Zz2:HcOk hcG:=Zq func208 rfl Zu3 (Zq func209 rfl Zu6 zo)
def tdP (F:Func):List Code:=[ZA (sn 0 F),ZA (sn 1 F),ZA (sn 2 F)]
def tdB (F:Func):Code:=ZA (sn 3 F)
def tdL (F:Func):Code:=cIn (cIn (ZV (tdB F)))
def tdF (o m c n k:Nat) (d:Int):List Value:=[sl 2 o m c,sl 3 0 n k,undef,undef,uu 0,i6' n,uu d]
def tdG (o m c n k:Nat) (d:Int) (b:Bool):List Value:=[sl 2 o m c,sl 3 0 n k,undef,undef,uu 0,i6' n,uu d,.bool b]
theorem Zhi:f189.body=some (Zaj (tdP f189) (.seq (.seq (ZA (tdB f189)) (.block 0 (.loop (tdL f189)))) (sn 4 f189))):=by kernel_rfl
theorem Zz3 (o m c n k:Nat) (x y z:Int) (la lb R Y Q:List Value):Zk (evL (Zx prog Zi Zsv hcG) 100 (tdP f189) ([sl 2 o m c,sl 3 0 n k]++List.replicate 35 undef,h5 la lb R Y Q,[at_,val (uu x),at_,val (uu y),at_,val (uu z)]) ⟨[],[],[]⟩) 7 30 none (tdF o m c n k (gsV x y z)) (h5 la lb R Y Q) [(Z3a x y z,true),ZbO Y 0 (n1 n) z,inR (n1 n) n,ZbO R o (n1 n) y,inR (n1 n) m,ZbO R o n x,inR n m]:=by and_intros<;>kernel_rfl
theorem Z7b (e:Bool) (o m c n k:Nat) (d:Int) (la lb R Y Q:List Value) (g:Nat→Value):Zk (evC (Zx prog Zi Zsv hcG) 100 false (ZA (tdB f189)) (tdF o m c n k d++tl 30 g,h5 la lb R Y Q,[cmp e]) ⟨[],[],[]⟩) 8 29 none (tdG o m c n k d e) (h5 la lb (tmS R o m (dg m (vN (Zt R o m)-d*vN (Zt Y 0 n)))) Y Q) [(ZjD la lb R Y Q tR tR tU tU tU o m c n k && decide (0≤d∧d<4294967296),true),(decide (vN (Zt R o m)-d*vN (Zt Y 0 n)<0),e)]:=by and_intros<;>kernel_rfl
theorem Z3T (e:Bool) (o m c n k:Nat) (d:Int) (la lb R Y Q:List Value) (g:Nat→Value):Zk (evC (Zx prog Zi Zsv hcG) 100 false (tdL f189) (tdG o m c n k d true++tl 29 g,h5 la lb R Y Q,[cmp e]) ⟨[],[],[]⟩) 8 29 none (tdG o m c n k (u32.wrap (d-1)) (!e)) (h5 la lb (tmS R o m (dg m (vN (Zt R o m)+vN (Zt Y 0 n)))) Y Q) [(ZjD la lb R Y Q tR tR tU tU tU o m c n k,true),(decide (4294967296^m≤vN (Zt R o m)+vN (Zt Y 0 n)),e)]:=by and_intros<;>kernel_rfl
theorem Zz4 (o m c n k:Nat) (d:Int) (h:Hp) (g:Nat→Value):Zk (evC (Zx prog Zi Zsv hcG) 100 false (tdL f189) (tdG o m c n k d false++tl 29 g,h,[]) ⟨[],[],[]⟩) 8 29 (some (some 0)) (tdG o m c n k d false) h []:=by and_intros<;>kernel_rfl
theorem Zz5 (o m c n k:Nat) (d:Int) (b:Bool) (h:Hp) (g:Nat→Value):Zk (evC (Zx prog Zi Zsv hcG) 100 false (sn 4 f189) (tdG o m c n k d b++tl 29 g,h,[]) ⟨[],[],[]⟩) 5 32 (some none) [sl 2 o m c,sl 3 0 n k,undef,undef,uu d] h []:=by and_intros<;>kernel_rfl
theorem ZuB {R:List Value}{o m c:Nat}{L:List Int}(ra:Zu tU R o m c=true) (hl:L.length=m):Zt (tmS R o m L) o m=L:=by
 obtain⟨_,hF⟩:=Zaw ra;unfold tmS Zt ZbE;rw[List.drop_left' hF,List.take_left' (by rw[Zcf,hl])];unfold wU;rw[List.map_map];exact (List.map_congr_left fun x _=>rfl).trans (List.map_id' _)
theorem ZuC {R:List Value}{o m c:Nat}{L L':List Int}(ra:Zu tU R o m c=true) (hl:L.length=m):tmS (tmS R o m L) o m L'=tmS R o m L':=by
 obtain⟨_,hF⟩:=Zaw ra;have e1:(tmS R o m L).take o=R.take o:=by unfold tmS;exact List.take_left' hF
 have e2:(tmS R o m L).drop (o+m)=R.drop (o+m):=by
  unfold tmS;rw[← List.append_assoc];exact List.drop_left' (by rw[List.length_append,hF,Zcf,hl])
 show (tmS R o m L).take o++(wU L'++(tmS R o m L).drop (o+m))=_;rw[e1,e2];rfl
theorem ZuD {R:List Value}{o m c:Nat}{L:List Int}(ra:Zu tU R o m c=true) (hl:L.length=m) (hw:wds L):Zu tU (tmS R o m L) o m c=true:=by
 obtain⟨a1,a2,a3,a4,a5,a6,a7⟩:=Z4 ra;obtain⟨_,hF⟩:=Zaw ra;have hr:=a1.len;rw[a2] at hr;unfold Zu;have ec:ZbE (tmS R o m L) o m=wU L:=by
  unfold tmS ZbE;rw[List.drop_left' hF,List.take_left' (by rw[Zcf,hl])]
 have h3:((ZbE (tmS R o m L) o m).all isU)=true:=by
  rw[ec,List.all_eq_true];intro v hv;unfold wU at hv;obtain⟨x,hx,rfl⟩:=List.mem_map.1 hv;exact Xa (hw x hx)
 have h4:(tmS R o m L).all still=true:=by
  unfold tmS;simp only[List.all_append,Xh];exact⟨List.all_eq_true.2 fun v hv=>a7 v (List.mem_of_mem_take hv),Za6 _,List.all_eq_true.2 fun v hv=>a7 v (List.mem_of_mem_drop hv)⟩
 have h5:o+m≤(tmS R o m L).length:=by
  unfold tmS;rw[List.length_append,List.length_append,hF,Zcf,hl];omega
 rw[show Zai tU=false from by kernel_rfl,show Nat.beq (rt tU) tU=true from by kernel_rfl,Nat.ble_eq_true_of_le h5,Nat.ble_eq_true_of_le a3,a4,h3,h4];rfl
theorem ZuE {la lb R Y Q:List Value}{o m c n k:Nat}{M LB:List Int}(hM:Zt R o m=M) (hB:Zt Y 0 n=LB) (hok:ZjD la lb R Y Q tR tR tU tU tU o m c n k=true) (hn:0<n) (htop:0<LB.getD (n-1) 0) (hlt:vN M<4294967296*vN LB):
  Runs (Zx prog Zi Zsv hcG) (Zaj (tdP f189) (.seq (.seq (ZA (tdB f189)) (.block 0 (.loop (tdL f189)))) (sn 4 f189))) ([sl 2 o m c,sl 3 0 n k]++List.replicate 35 undef,h5 la lb R Y Q,[]) fun e' y=>(e'=none∨e'=some none)∧zE prog f189 y.1 y.2.1=some (uu (vN M/vN LB))∧y.2.1.cut 5=h5 la lb (tmS R o m (dg m (vN M % vN LB))) Y Q:=by
 have hT:=Z3 ZuA Zz2;obtain⟨_,_,_,_,_,ra,rb,qn,qN,st0,st1,st2⟩:=ZeV hok;obtain⟨a1,a2,a3,a4,a5,a6,a7⟩:=Z4 ra;obtain⟨b1,b2,b3,b4,b5,b6,b7⟩:=Z4 rb;rw[hM] at a1 a2;rw[hB] at b1 b2;have w1:=a1.rng;have w2:=b1.rng;have bM:=Zax M w1;have bB:=Zax LB w2;rw[a2] at bM;rw[b2] at bB;have hpos:0<vN LB:=by
  have:=ZfW (L:=LB) w2 (by omega) (by rw[b2];omega);have h2:=Zad (LB.length-1);omega
 have hge:=Zp8 w1 w2 (n:=n) (by omega) b2 hn htop;have en:n1 n=((n-1:Nat):Int):=by unfold n1;rw[Zv (by omega) (by omega)];omega
 have rng:∀ i,i<M.length→0≤M.getD i 0∧M.getD i 0<4294967296:=fun i hi=>w1 _ (by simp [List.getD,List.getElem?_eq_getElem hi]);have rngB:∀ i,i<LB.length→0≤LB.getD i 0∧LB.getD i 0<4294967296:=fun i hi=>w2 _ (by simp [List.getD,List.getElem?_eq_getElem hi]);have r1:=rng n (by omega);have r2:=rng (n-1) (by omega);have r3:=rngB (n-1) (by omega);have c1:=a1.cell (k:=n) (by omega);have c2:=a1.cell (k:=n-1) (by omega);have c3:=b1.cell (k:=n-1) (by omega);have hq:=Zip hpos bM.1 hlt;have hG:vN M/vN LB≤gsV (M.getD n 0) (M.getD (n-1) 0) (LB.getD (n-1) 0)∧0≤gsV (M.getD n 0) (M.getD (n-1) 0) (LB.getD (n-1) 0)∧gsV (M.getD n 0) (M.getD (n-1) 0) (LB.getD (n-1) 0)<4294967296:=by
  unfold gsV;split
  ·omega
  ·have:=Zio r1.1 r2 (b:=LB.getD (n-1) 0) (by omega);omega
 have g0:=Zz3 o m c n k (M.getD n 0) (M.getD (n-1) 0) (LB.getD (n-1) 0) la lb R Y Q;rw[en] at g0;refine Zz hT g0 (Zj (by unfold Z3a;exact Xa ⟨r1,r2,htop,r3.2⟩) (Zj (zT c3) (Zj (Xa (by omega)) (Zj (zT c2) (Zj (Xa (by omega)) (Zj (zT c1) (Z7 (Xa (by omega))))))))) fun g=> ?_;generalize gsV (M.getD n 0) (M.getD (n-1) 0) (LB.getD (n-1) 0)=d at*;refine Runs.seq (P1:=fun e' y=>e'=none∧∃ g,y.1=tdG o m c n k (vN M/vN LB) false++tl 29 g∧y.2.1=h5 la lb (tmS R o m (dg m (vN M % vN LB))) Y Q) ?_ ?_ (fun e y he=>by cases he.1)
 ·have g1:=Z7b (decide (vN M-d*vN LB<0)) o m c n k d la lb R Y Q g;rw[hM,hB] at g1;refine Runs.seq (P1:=fun e' y=>e'=none∧(∃ g,y.1=tdG o m c n k d (decide (vN M-d*vN LB<0))++tl 29 g)∧y.2.1=h5 la lb (tmS R o m (dg m (vN M-d*vN LB))) Y Q) (Zc hT g1 (Zj (by rw[hok,Xa hG.2];rfl) (Z7 rfl))) ?_ (fun e y he=>by cases he.1);rintro⟨t,h',s'⟩ ⟨_,⟨g1,ht⟩,hh⟩;simp only at ht hh;subst ht hh;refine (Runs.forLoop (R:=fun _=>False) (P:=fun y=>∃ g,y.1=tdG o m c n k (vN M/vN LB) false++tl 29 g∧y.2.1=h5 la lb (tmS R o m (dg m (vN M % vN LB))) Y Q)
   (fun r y=>∃ (d:Int) (g:Nat→Value),d=vN M/vN LB+r∧d<4294967296∧y.1=tdG o m c n k d (decide (vN M-d*vN LB<0))++tl 29 g∧y.2.1=h5 la lb (tmS R o m (dg m (vN M-d*vN LB))) Y Q)
   ?_ (n:=(d-vN M/vN LB).toNat) ⟨d,g1,by omega,hG.2.2,rfl,rfl⟩).mono fun e' y he=> ?_
  ·rintro r ⟨t,h',s'⟩ ⟨d,g,hd,hdl,ht,hh⟩;simp only at ht hh;subst ht hh;by_cases hneg:vN M-d*vN LB<0
   ·rw[Xa hneg];have hmore:=Zl7 hpos hneg;have hlo: -(4294967296^m)≤vN M-d*vN LB:=by
     have h1:d*vN LB≤4294967296*vN LB:=Int.mul_le_mul_of_nonneg_right (by omega) (by omega);rw[qn,pw];omega
    have hvd:=Zz0 hneg hlo;have hwd:=Zac m (vN M-d*vN LB);have hld:=ZB m (vN M-d*vN LB);have ra':=ZuD ra hld hwd;have ec:=ZuB ra hld;have eV:vN M-d*vN LB+4294967296^m+vN LB=(vN M-(d-1)*vN LB)+4294967296^m*1:=by
     rw[Int.sub_mul,Int.one_mul,Int.mul_one];omega
    have g2:=Z3T (decide (4294967296^m≤vN M-d*vN LB+4294967296^m+vN LB)) o m c n k d la lb (tmS R o m (dg m (vN M-d*vN LB))) Y Q g;rw[ec,hB,hvd,eV,Zch,ZuC ra hld,ZgJ,Int.emod_eq_of_lt (by omega) (by omega)] at g2;have hok':ZjD la lb (tmS R o m (dg m (vN M-d*vN LB))) Y Q tR tR tU tU tU o m c n k=true:=by
     unfold ZjD at hok ⊢;rw[ra'];rw[ra] at hok;exact hok
    refine (Zc hT g2 (Zj hok' (Z7 rfl))).mono fun e' y he=> ?_;obtain⟨rfl,⟨g3,e2⟩,e3⟩:=he;refine⟨r-1,by omega,d-1,g3,by omega,by omega,?_,e3⟩;rw[e2];congr 2;by_cases h0:vN M-(d-1)*vN LB<0
    ·rw[Xa h0,Xb (by omega)];rfl
    ·rw[Xb h0,Xa (by omega)];rfl
   ·rw[Xb hneg];obtain⟨f1,f2⟩:=Zu7 hpos (show 0≤vN M-d*vN LB by omega) (show vN M/vN LB≤d by omega);refine (Zc hT (Zz4 o m c n k d _ g) (fun x hx=>by cases hx)).mono fun e' y he=> ?_;obtain⟨rfl,⟨g3,e2⟩,e3⟩:=he;rw[f2] at e3;rw[f1] at e2;exact⟨rfl,g3,e2,e3⟩
  ·match e',he with
   | none,he=>exact⟨rfl,he⟩
   | some none,he=>exact he.elim
   | some (some _),he=>exact he.elim
 ·rintro⟨t,h',s'⟩ ⟨_,g,ht,hh⟩;simp only at ht hh;subst ht hh;refine (Zc hT (Zz5 o m c n k (vN M/vN LB) false _ g) (fun x hx=>by cases hx)).mono fun e' y he=> ?_;obtain⟨rfl,⟨g1,e2⟩,e3⟩:=he;refine⟨.inr rfl,?_,?_⟩
  ·rw[e2,e3];rfl
  ·rw[e3];rfl
def Z3U:Zba:=fun vals h s=>
 match vals,h with
 | [.slice (some ⟨2,o,none⟩) m c,.slice (some ⟨3,0,none⟩) n k],⟨5,[(Q,t4),(Y,t3),(R,t2),(lb,t1),(la,t0)]⟩=>some (uu (vN (Zt R o m)/vN (Zt Y 0 n)),h5 la lb (tmS R o m (dg m (vN (Zt R o m) % vN (Zt Y 0 n)))) Y Q,s,[(ZjD la lb R Y Q t0 t1 t2 t3 t4 o m c n k && decide (0<n∧0<(Zt Y 0 n).getD (n-1) 0∧vN (Zt R o m)<4294967296*vN (Zt Y 0 n)),true)])
 | _,_=>none
theorem ZuF:ZJ 189 Z3U:=by
 intro vals h s v h' s' lg hg hl m B w E hv;unfold Z3U at hg;split at hg
 ·rename_i o mm c n k Q t4 Y t3 R t2 lb t1 la t0;cases hg;have l1:=hl _ Xf;simp only[Xh,Xi] at l1;obtain⟨l1,h0,h1,h2⟩:=l1;obtain⟨q0,q1,q2,q3,q4,ra,rb,qn,qN,st0,st1,st2⟩:=ZeV l1;subst q0 q1 q2 q3 q4;have r:=ZuE rfl rfl l1 h0 h1 h2;exact ZI (T:=Zx prog Zi Zsv hcG) func189 Zhi (vals:=[sl 2 o mm c,sl 3 0 n k]) (v:=uu (vN (Zt R o mm)/vN (Zt Y 0 n))) (h:=h5 la lb R Y Q) (by rfl) (Zl6 ra rb st0 st1 st2) r m B w E hv
 ·cases hg
def mB (q:Bool):Nat:=match q with | true=>3 | false=>2
def h4q (q:Bool) (S X la lb:List Value):Hp:=match q with | true=>⟨4,[(S,tU),(X,tU),(lb,tR),(la,tR)]⟩ | false=>⟨4,[(X,tU),(S,tU),(lb,tR),(la,tR)]⟩
theorem ZuG (q:Bool) (S X la lb:List Value):(h4q q S X la lb).cut 4=h4q q S X la lb:=by cases q<;>rfl
theorem ZuH (q:Bool) (o n c:Nat) (k l j x:Int) (i0 x0:Value) (X la lb S:List Value) (g:Nat→Value):Zk (evC (Ze prog Zi Zn true) 100 false (mL f130) (mF (sl (mB q) o n c) (i6' k) (uu l) i0 x0 (sl (mB q) o n c) (i6' n) (i6' j)++tl 17 g,h4q q S X la lb,[cmp true,at_,val (uu x),at_,at_]) ⟨[],[],[]⟩) 10 17 none
  (mF (sl (mB q) o n c) (i6' k) (uu (Zpx x k)) (i6' j) (uu x) (sl (mB q) o n c) (i6' n) (i6' (i64.wrap (j+1)))) (h4q q (S.set (o+j.toNat*1) (uu (Zpw x k l))) X la lb) [(decide (i64.wrap (32-k)<0),false),(decide (o+j.toNat*1<S.length),true),inR j n,(decide (k<0),false),ZbO S o j x,inR j n,(decide (j<n),true)]:=by
 cases q<;>exact by and_intros<;>kernel_rfl
theorem ZlB (q:Bool) {F X la lb G:List Value}{o c k:Nat}{L:List Int}(hF:F.length=o) (hL:wds L) (hk:k<32) (hN:L.length<4611686018427387904):
  Runs (Ze prog Zi Zn true) (Zaj (mR0 f130) (.block 0 (.loop (mL f130)))) ([sl (mB q) o L.length c,i6' k]++List.replicate 25 undef,h4q q (F++(wU L++G)) X la lb,[]) fun e y=>(e=none∨e=some none)∧zE prog f130 y.1 y.2.1=some (.tuple #[])∧y.2.1.cut 4=h4q q (F++(wU (dg L.length (vN L*2^k))++G)) X la lb:=by
 refine Zz (Zd Zh) (Zln (mB q) o L.length c (i6' k) _) (fun x hx=>by cases hx) fun g=> ?_;refine (Runs.forLoop (R:=fun _=>False) (P:=fun y=>∃ (l i x j:Value) (g:Nat→Value),y.1=mF (sl (mB q) o L.length c) (i6' k) l i x (sl (mB q) o L.length c) (i6' L.length) j++tl 17 g∧y.2.1=h4q q (F++(wU (dg L.length (vN L*2^k))++G)) X la lb)
  (fun r y=>∃ (dx px:List Int) (l:Int) (i0 x0:Value) (g:Nat→Value),px.length=r∧dx.length+px.length=L.length∧wds dx∧wds px∧(0≤l∧l<2^k)∧y.1=mF (sl (mB q) o L.length c) (i6' k) (uu l) i0 x0 (sl (mB q) o L.length c) (i6' L.length) (i6' dx.length)++tl 17 g∧y.2.1=h4q q (F++(wU (dx++px)++G)) X la lb∧vN dx+4294967296^dx.length*(vN px*2^k+l)=vN L*2^k)
  ?_ (n:=L.length) ⟨[],L,0,undef,undef,g,rfl,by simp,(fun x hx=>by cases hx),hL,⟨by omega,Int.pow_pos (by omega)⟩,rfl,rfl,by simp [vN]⟩).mono fun e' y he=> ?_
 ·rintro r ⟨t,h',s'⟩ ⟨dx,px,l,i0,x0,g,hr,hl,wd1,wd2,hlo,ht,hh,hv⟩;simp only at ht hh;subst ht hh
  match px,hr,hl,wd2,hv with
  | [],hr,hl,wd2,hv=>
   have hl':dx.length=L.length:=by simpa using hl
   refine (Zc (Zd Zh) (Zlo _ _ _ _ _ _ L.length dx.length _ g) (Z7 (Xb (by omega)))).mono fun e' y he=> ?_;obtain⟨rfl,⟨g1,e2⟩,e3⟩:=he;refine⟨rfl,_,_,_,_,g1,e2,?_⟩;simp only[vN] at hv;rw[Int.zero_mul,Int.zero_add] at hv;have e5:=Zch dx.length (vN dx) l;rw[hv,ZdY dx wd1,hl'] at e5;rw[e3,e5,List.append_nil]
  | x::px,hr,hl,wd2,hv=>
   obtain⟨wx,wd2⟩:=zL wd2;obtain⟨k1,k2,k3⟩:=Z6O wx hlo hk;have cS:=ZdB hF dx x px G;have lS:o+dx.length<(F++(wU (dx++x::px)++G)).length:=(List.getElem?_eq_some_iff.1 cS).1;have hl':dx.length<L.length:=by simp at hl;omega
   have l1:decide (o+((dx.length:Int)).toNat*1<(F++(wU (dx++x::px)++G)).length)=true:=by
    rw[Xg,Nat.mul_one];exact Xa lS
   have l2:(inR dx.length L.length).1=(inR dx.length L.length).2:=Xa (by omega);have l4:(ZbO (F++(wU (dx++x::px)++G)) o dx.length x).1=(ZbO (F++(wU (dx++x::px)++G)) o dx.length x).2:=zT cS;have e32:i64.wrap (32-(k:Int))=32-(k:Int):=Zv (by omega) (by omega);have l5:decide (i64.wrap (32-(k:Int))<0)=false:=by
    rw[e32];exact Xb (by omega)
   have l6:decide ((k:Int)<0)=false:=Xb (by omega);have l7:decide ((dx.length:Int)<(L.length:Nat))=true:=Xa (by omega);refine (Zc (Zd Zh) (ZuH q o L.length c k l dx.length x i0 x0 X la lb (F++(wU (dx++x::px)++G)) g) (Zj l5 (Zj l1 (Zj l2 (Zj l6 (Zj l4 (Zj l2 (Z7 l7)))))))).mono fun e' y he=> ?_;obtain⟨rfl,⟨g1,e2⟩,e3⟩:=he;refine⟨px.length,by simp at hr;omega,dx++[Zpw x k l],px,Zpx x k,i6' dx.length,uu x,g1,rfl,by simp at hl ⊢;omega,z8 wd1 (fun z hz=>by rw[List.mem_singleton.1 hz];exact k1),wd2,k2,?_,?_,?_⟩
   ·rw[e2,Zv (by omega) (by omega)];simp
   ·rw[e3,Xg,Nat.mul_one,ZdC hF]
   ·simp only[vN] at hv;rw[zd,List.length_append,List.length_singleton,pw];exact Zlm k3 hv
 ·match e',he with
  | none,he=>
   obtain⟨l,i,x,j,g,e1,e2⟩:=he;refine⟨.inl rfl,?_,?_⟩
   ·rw[e1];exact Zlp _ _ _ _ _ _ _ _ _ _
   ·rw[e2];exact ZuG _ _ _ _ _
  | some none,he=>exact he.elim
  | some (some _),he=>exact he.elim
def Zo3 (X la lb S:List Value) (t0 t1 t2 t3:TypeId) (o n c:Nat) (k:Int):Bool:=Nat.beq t0 tR && Nat.beq t1 tR && Nat.beq t2 tU && Nat.beq t3 tU && Zu tU S o n c && X.all still && la.all still && lb.all still && decide (0≤k∧k<32)
theorem ZlC {X la lb S:List Value}{t0 t1 t2 t3:TypeId}{o n c:Nat}{k:Int}(q:Zo3 X la lb S t0 t1 t2 t3 o n c k=true):t0=tR∧t1=tR∧t2=tU∧t3=tU∧Zu tU S o n c=true∧X.all still=true∧la.all still=true∧lb.all still=true∧0≤k∧k<32:=by
 unfold Zo3 at q;simp only[Xh,Xi] at q;obtain⟨⟨⟨⟨⟨⟨⟨⟨q0,q1⟩,q2⟩,q3⟩,ra⟩,s0⟩,s1⟩,s2⟩,h⟩:=q;exact⟨Xj q0,Xj q1,Xj q2,Xj q3,ra,s0,s1,s2,h.1,h.2⟩
def upT (S:List Value) (o n:Nat) (k:Int):List Value:=tmS S o n (dg n (vN (Zt S o n)*2^k.toNat))
def ZuI:Zba:=fun vals h s=>
 match vals,h with
 | [.slice (some ⟨3,o,none⟩) n c,.int .i64 k],⟨4,[(S,t3),(X,t2),(lb,t1),(la,t0)]⟩=>some (.tuple #[],⟨4,[(upT S o n k,tU),(X,tU),(lb,tR),(la,tR)]⟩,s,[(Zo3 X la lb S t0 t1 t2 t3 o n c k,true)])
 | [.slice (some ⟨2,o,none⟩) n c,.int .i64 k],⟨4,[(X,t3),(S,t2),(lb,t1),(la,t0)]⟩=>some (.tuple #[],⟨4,[(X,tU),(upT S o n k,tU),(lb,tR),(la,tR)]⟩,s,[(Zo3 X la lb S t0 t1 t2 t3 o n c k,true)])
 | _,_=>none
theorem Zz6 (q:Bool) {X la lb S:List Value}{o n c:Nat}{L:List Int}(ra:Zu tU S o n c=true) (s0:X.all still=true) (s1:la.all still=true) (s2:lb.all still=true):(h4q q (tmS S o n L) X la lb).tight=true:=by
 obtain⟨a1,a2,a3,a4,a5,a6,a7⟩:=Z4 ra;have hS:(tmS S o n L).all (lt1 4)=true:=by
  unfold tmS;simp only[List.all_append,Xh];refine⟨?_,Za1 _ _,?_⟩
  ·rw[List.all_eq_true];exact fun v hv=>ZY (by omega) (a7 v (List.mem_of_mem_take hv))
  ·rw[List.all_eq_true];exact fun v hv=>ZY (by omega) (a7 v (List.mem_of_mem_drop hv))
 have h1:=ZM (n:=4) (by omega) s0;have h2:=ZM (n:=4) (by omega) s1;have h3:=ZM (n:=4) (by omega) s2;cases q<;>simp [Hp.tight,h4q,hS,h1,h2,h3]
theorem Zgf (q:Bool) {X la lb S:List Value}{o n c:Nat}{k:Int}(ra:Zu tU S o n c=true) (s0:X.all still=true) (s1:la.all still=true) (s2:lb.all still=true) (k0:0≤k) (k1:k<32) (m:Mp) (B:Nat) (w:World) (E:Emb m B (h4q q S X la lb) w) (hv:∀ v∈[sl (mB q) o n c,i6' k],KRun.lt (h4q q S X la lb).n v=true):
  Calls prog 130 (([sl (mB q) o n c,i6' k]:List Value).map (mv m)).toArray w fun e w'=>∃ m',e= .returned (mv m' (.tuple #[]))∧Came m B (h4q q S X la lb) w (.tuple #[]) (h4q q (upT S o n k) X la lb) m' w':=by
 obtain⟨a1,a2,a3,a4,a5,a6,a7⟩:=Z4 ra;obtain⟨K,rfl⟩:=Int.eq_ofNat_of_zero_le k0;have hc:c<4611686018427387904:=Zl.1 a4;obtain⟨eS,hF⟩:=Zaw ra;have r:=ZlB q (X:=X) (la:=la) (lb:=lb) (G:=S.drop (o+n)) (c:=c) (k:=K) hF a1.rng (by omega) (by omega);rw[a2,← eS] at r;have hn:(h4q q S X la lb).n=4:=by cases q<;>rfl
 exact ZI (T:=Ze prog Zi Zn true) func130 Zij (vals:=[sl (mB q) o n c,i6' K]) (v:= .tuple #[]) (h:=h4q q S X la lb) (by rfl) (Zz6 q ra s0 s1 s2) (by rw[hn];exact r) m B w E hv
theorem ZpB:ZJ 130 ZuI:=by
 intro vals h s v h' s' lg hg hl m B w E hv;unfold ZuI at hg;split at hg
 ·rename_i o n c k S t3 X t2 lb t1 la t0;cases hg;obtain⟨q0,q1,q2,q3,ra,s0,s1,s2,k0,k1⟩:=ZlC (hl _ Xf);subst q0 q1 q2 q3;exact Zgf true ra s0 s1 s2 k0 k1 m B w E hv
 ·rename_i o n c k X t3 S t2 lb t1 la t0;cases hg;obtain⟨q0,q1,q2,q3,ra,s0,s1,s2,k0,k1⟩:=ZlC (hl _ Xf);subst q0 q1 q2 q3;exact Zgf false ra s0 s1 s2 k0 k1 m B w E hv
 ·cases hg
end Go.Proofs.YtgefjidphfdhdaaGreatDoor.Na
