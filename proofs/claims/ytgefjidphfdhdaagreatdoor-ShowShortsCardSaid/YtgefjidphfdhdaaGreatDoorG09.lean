/-
  ConNP, NumS, NumI, ConVG, ConVH, ConVU, SlM, ConO1, NumTo, ConO2, ConO3, NumDg
-/
import Derived.Test.YtgefjidphfdhdaaGreatDoorG08
namespace Go.Proofs.YtgefjidphfdhdaaGreatDoor.Na
open Go.Proofs.Tryz
open Go.KRun Go.Nt
set_option maxRecDepth 100000
set_option linter.unusedVariables false
def Zh8 (L M:List Int):List Int:=dg (L.length+M.length) (vN L*vN M)
theorem Zam {L:List Int}(h:wds L) {o n c:Nat}(hl:o+n≤L.length) (hc:n≤c) (h2:ZG c=true):Z8 tU (wU L) o n c=true:=by
 unfold Z8;have h3:((ZbR (wU L) o n).all isU)=true:=by
  rw[List.all_eq_true];intro v hv;unfold ZbR wU at hv;obtain⟨x,hx,rfl⟩:=List.mem_map.1 (List.mem_of_mem_drop (List.mem_of_mem_take hv));exact Xa (h x hx)
 rw[show Zad tU=false from by kernel_rfl,show Nat.beq (rt tU) tU=true from by kernel_rfl,Nat.ble_eq_true_of_le (show o+n≤(wU L).length by rw[Zak];exact hl),Nat.ble_eq_true_of_le hc,h2,h3,Zbs];rfl
theorem Zh9 (D M R:List Int):Zz (wU (D++(M++R))) D.length M.length=M:=by
 unfold Zz ZbR wU;rw[List.map_append,List.map_append,List.drop_left' (by simp),List.take_left' (by simp),List.map_map];exact (List.map_congr_left fun x _=>rfl).trans (List.map_id' _)
theorem ZhA (D M R L:List Int):tmS (wU (D++(M++R))) D.length M.length L=wU (D++(L++R)):=by
 have e1:(wU (D++(M++R))).take D.length=wU D:=by
  unfold wU;rw[List.map_append];exact List.take_left' (by simp)
 have e2:(wU (D++(M++R))).drop (D.length+M.length)=wU R:=by
  unfold wU;rw[← List.append_assoc,List.map_append];exact List.drop_left' (by simp)
 unfold tmS;rw[e1,e2];unfold wU;rw[List.map_append,List.map_append]
theorem Zva (D L:List Int) (z c:Int) (R:List Int):(wU (D++(L++z::R))).set (D.length+L.length) (uu c)=wU (D++((L++[c])++R)):=by
 rw[← List.append_assoc,show D.length+L.length=(D++L).length from by simp,Ziw];simp
theorem Zvb {la lb:List Value}{o c o' c':Nat}{LA LB:List Int}(RA:Row la o LA) (RB:Row lb o' LB) (sa:∀ v∈la,still v=true) (hrb:Z8 tR lb o' LB.length c'=true) (ha:0<LA.length) (hb:0<LB.length) (h8:LA.length+LB.length≤8192):
  Runs (Zk prog Zf Zo hcM) (ZW (pdP f127) (.seq (.seq (Z2 (Z2 (sn 4 f127))) (.block 0 (.loop (pdL f127)))) (Z0 (sn 4 f127)))) ([sl 0 o LA.length c,sl 1 o' LB.length c']++List.replicate 57 undef,h2 la lb,[]) fun e y=>(e=none∨e=some none)∧ZV prog f127 y.1 y.2.1=some (.tuple #[sl 2 0 (Zi (Zh8 LA LB)) (LA.length+LB.length),.nilIface])∧y.2.1.blk? 2=some (wU (Zh8 LA LB),tU):=by
 have hT:=Zh Zd Zmx;have eZ:pZ LA.length LB.length=((LA.length+LB.length:Nat):Int):=by
  unfold pZ;rw[Zw (by omega) (by omega)];omega
 have g0:=ZzV o LA.length c o' LB.length c' la lb;rw[eZ,Xg] at g0;have esm:∀ q:Nat,q≤8192→ZG q=true:=fun q hq=>Zl.2 (by unfold zo;omega);have bA:=RA.rng;have bB:=Zbe LB RB.rng;have erep:List.replicate (LA.length+LB.length) (uu 0)=wU ([]++(List.replicate LB.length 0++List.replicate LA.length 0)):=by
  unfold wU uu;rw[Nat.add_comm];simp [List.replicate_append_replicate]
 rw[erep] at g0;refine Z3 hT g0 (Zj (by unfold ZO;exact Xa (by omega)) (Zj (by rw[Zw (by omega) (by omega)];exact Xb (by omega)) (Zj (by simpa using (show LB.length≠0 by omega)) (Zu (by simpa using (show LA.length≠0 by omega)))))) fun g=> ?_;refine Runs.seq (P1:=fun e' y=>e'=none∧∃ (D M:List Int) (v7 v8 u1 u2 u3:Value) (g g':Nat→Value),y.1=ml (pdF o LA.length c o' LB.length c' (LA.length+LB.length) v7 v8) 22 g [u1,u2,u3] 25 g'∧D.length=LA.length∧M.length=LB.length∧wds D∧wds M∧vN D+4294967296^D.length*vN M=vN LA*vN LB∧y.2.1=h3 la lb (wU (D++(M++[])))) ?_ ?_ (fun e y he=>by cases he.1)
 ·refine Runs.seq (P1:=fun e' y=>e'=none∧(∃ g g',y.1=ml (pdF o LA.length c o' LB.length c' (LA.length+LB.length) undef undef) 22 g [sl 0 o LA.length c,i6' LA.length,i6' 0] 25 g')∧y.2.1=h3 la lb (wU ([]++(List.replicate LB.length 0++List.replicate LA.length 0)))) (ZaA hT (Z8M o LA.length c o' LB.length c' (LA.length+LB.length) undef undef la lb _ g) (fun x hx=>by cases hx)) ?_ (fun e y he=>by cases he.1);rintro⟨t,h',s'⟩ ⟨_,⟨g1,g2,ht⟩,hh⟩;simp only at ht hh;subst ht hh;refine (Runs.forLoop (R:=fun _=>False) (P:=fun y=>∃ (D M:List Int) (v7 v8 u1 u2 u3:Value) (g g':Nat→Value),y.1=ml (pdF o LA.length c o' LB.length c' (LA.length+LB.length) v7 v8) 22 g [u1,u2,u3] 25 g'∧D.length=LA.length∧M.length=LB.length∧wds D∧wds M∧vN D+4294967296^D.length*vN M=vN LA*vN LB∧y.2.1=h3 la lb (wU (D++(M++[]))))
   (fun r y=>∃ (D M:List Int) (v7 v8:Value) (g g':Nat→Value),D.length+r=LA.length∧M.length=LB.length∧wds D∧wds M∧vN D+4294967296^D.length*vN M=vN (LA.take D.length)*vN LB∧y.1=ml (pdF o LA.length c o' LB.length c' (LA.length+LB.length) v7 v8) 22 g [sl 0 o LA.length c,i6' LA.length,i6' D.length] 25 g'∧y.2.1=h3 la lb (wU (D++(M++List.replicate r 0))))
   ?_ (n:=LA.length) ⟨[],List.replicate LB.length 0,undef,undef,g1,g2,by simp,by simp,(fun x hx=>by cases hx),Zh7 _,?_,rfl,rfl⟩).mono fun e' y he=> ?_
  ·rintro r ⟨t,h',s'⟩ ⟨D,M,v7,v8,g,g',hr,hM,w1,w2,hv,ht,hh⟩;simp only at ht hh;subst ht hh;cases r with
   | zero=>
    have ek:D.length=LA.length:=by omega
    refine (ZaA hT (ZzW o LA.length c o' LB.length c' (LA.length+LB.length) D.length v7 v8 la lb _ g g') (Zu (Xb (by omega)))).mono fun e' y he=> ?_;obtain⟨rfl,⟨g1,g2,e2⟩,e3⟩:=he;rw[ek,List.take_length] at hv;rw[← ek] at hv;exact⟨rfl,D,M,v7,v8,_,_,_,g1,g2,e2,ek,hM,w1,w2,hv,e3⟩
   | succ r=>
    have hk:D.length<LA.length:=by omega
    have cA:=RA.cell hk;have hx:=bA (LA.getD D.length 0) (by simp [List.getD,List.getElem?_eq_getElem hk]);have et:=Za3 hk;generalize LA.getD D.length 0=x at*;have eJ:pJ D.length=D.length:=by unfold pJ;omega
    have eK:pK D.length LB.length=((D.length+LB.length:Nat):Int):=by unfold pK;rw[Zw (by omega) (by omega)];omega
    have eL:pLn D.length LB.length=M.length:=by unfold pLn;rw[eK];omega
    have ecB:Zz lb o' LB.length=LB:=by
     unfold Zz;rw[RB.cut];unfold wU;rw[List.map_map];exact (List.map_congr_left fun x _=>rfl).trans (List.map_id' _)
    have ecM:Zz (wU (D++(M++List.replicate (r+1) 0))) (pJ D.length) (pLn D.length LB.length)=M:=by rw[eJ,eL];exact Zh9 _ _ _
    have ePS:pS (wU (D++(M++List.replicate (r+1) 0))) lb o' LB.length D.length x=wU (D++(tmR M LB x++List.replicate (r+1) 0)):=by
     unfold pS;rw[ecM,ecB,eJ,eL];exact ZhA _ _ _ _
    have ePC:pC (wU (D++(M++List.replicate (r+1) 0))) lb o' LB.length D.length x=tmC M LB x:=by
     unfold pC;rw[ecM,ecB]
    have lR:(tmR M LB x).length=M.length:=by unfold tmR;rw[ZZ]
    have bM:=Zbe M w2;rw[hM] at bM;have bT:=Z5t bM bB hx;rw[← hM] at bT;obtain⟨y,m,e1,e2,w3,w4,e5⟩:=ZqA bT;have eW:tmR M LB x++[tmC M LB x]=y::m:=e1;have g1:=Z5x o LA.length c o' LB.length c' (LA.length+LB.length) D.length x v7 v8 la lb (wU (D++(M++List.replicate (r+1) 0))) g g';rw[ePS,ePC,eK,eJ,eL,Xg,Xg,Nat.zero_add,Nat.mul_one] at g1;have hall:wds (D++(M++List.replicate (r+1) 0)):=Zas w1 (Zas w2 (Zh7 _));have l1:decide (D.length+LB.length<(wU (D++(tmR M LB x++List.replicate (r+1) 0))).length)=true:=Xa (by rw[Zak];simp [lR];omega);have l2:(inR ((D.length+LB.length:Nat):Int) (LA.length+LB.length)).1=(inR ((D.length+LB.length:Nat):Int) (LA.length+LB.length)).2:=Xa (by omega);have l3:ZzU (wU (D++(M++List.replicate (r+1) 0))) lb la tU tR tR D.length M.length (LA.length+LB.length-D.length) o' LB.length c' x=true:=by
     unfold ZzU;rw[Zam hall (by simp) (by omega) (esm _ (by omega)),hrb,List.all_eq_true.2 sa,Zl.2 (show M.length<1099511627776 by omega),Xa hx,hM];simp
    have l5:ze D.length ((D.length+LB.length:Nat):Int) ((LA.length+LB.length:Nat):Int) ((LA.length+LB.length:Nat):Int)=true:=by unfold ze;exact Xa (by omega)
    have l6:decide (((LA.length+LB.length:Nat):Int)=(D.length:Int)∧(D.length:Int)≠0)=false:=Xb (by omega);have l7:(inR D.length LA.length).1=(inR D.length LA.length).2:=Xa (by omega);refine (ZaA hT g1 (Zj l1 (Zj l2 (Zj l3 (Zj (esm _ (by omega)) (Zj l5 (Zj l6 (Zj (Za2 cA) (Zj l7 (Zu (Xa (by omega)))))))))))).mono fun e' Y he=> ?_;obtain⟨rfl,⟨g2,g3,f2⟩,f3⟩:=he;refine⟨r,by omega,D++[y],m,i6' D.length,uu x,g2,g3,by simp;omega,by omega,Zas w1 w3,w4,?_,?_,?_⟩
    ·rw[z8,List.length_append,List.length_singleton,pw,et,z8,List.length_take,Nat.min_eq_left (by omega)];exact ZuM e5 hv
    ·rw[f2,Zw (by omega) (by omega)];simp
    ·rw[f3,List.replicate_succ,← hM,← lR,Zva,eW];simp
  ·simp only[List.length_nil,List.take_zero];have:vN (List.replicate LB.length 0)=0:=Zti _;rw[this];simp [vN]
  ·match e',he with
   | none,he=>exact⟨rfl,he⟩
   | some none,he=>exact he.elim
   | some (some _),he=>exact he.elim
 ·rintro⟨t,h',s'⟩ ⟨_,D,M,v7,v8,u1,u2,u3,g,g',ht,hD,hM,w1,w2,hv,hh⟩;simp only at ht hh;subst ht hh;have hw:wds (D++M):=Zas w1 w2;have hl:(D++M).length=LA.length+LB.length:=by simp;omega
  have ew:D++M=Zh8 LA LB:=by
   have:=Zhz (D++M) hw;rw[ZsV,hv,hl] at this;exact this.symm
  have hr:=ZsX hw (c:=LA.length+LB.length) (by omega) (esm _ h8);rw[hl] at hr;have htr:=zQ (D++M);have g1:=ZzX o LA.length c o' LB.length c' (LA.length+LB.length) v7 v8 u1 u2 u3 la lb (wU (D++M)) g g';rw[hr.2] at g1;rw[List.append_nil];refine (Zc hT g1 (Zj (Xb (by omega)) (Zu hr.1))).mono fun e' y he=> ?_;obtain⟨rfl,⟨g1,e2⟩,e3⟩:=he;refine⟨.inr rfl,?_,?_⟩
  ·rw[e2,e3,ew];rfl
  ·rw[e3,ew];rfl
def Z51:Zae:=fun vals h s=>
 match vals,s with
 | [.slice p n c,.slice q n' c'],.inr (.inr (.inr (.inl true)))::s'=>some (.tuple #[Zn,.nilIface],h,s',[(decide (n=0∨n'=0),true)])
 | [.slice p n c,.slice q n' c'],.inr (.inr (.inr (.inl false)))::s'=>some (.tuple #[sl h.n 0 (Zi (Zh8 (Zm h p n) (Zm h q n'))) (n+n'),.nilIface],h.push (wU (Zh8 (Zm h p n) (Zm h q n'))) tU,s',[(Zaf h p n c,true),(Zaf h q n' c',true),(!decide (n=0∨n'=0) && Nat.ble (n+n') 8192,true)])
 | _,_=>none
theorem Zm4:Z6 127 Z51:=by
 intro vals h s v h' s' lg hg hl m B w E hv;unfold Z51 at hg;split at hg
 ·rename_i p n c q n' c' s2;cases hg;have l1:=Xc (hl _ Xf);by_cases h0:n=0
  ·have r:=Zc (s0:=[]) (Zh Zd Zmx) (Z5y p q n c n' c' h) (Zu (by simp [h0]));exact Zbr (T:=Zk prog Zf Zo hcM) func127 ZiC (vals:=[.slice p n c,.slice q n' c']) (v:= .tuple #[Zn,.nilIface]) (h:=h) (by rfl) (r.mono fun e y he=>by
    obtain⟨rfl,⟨g,e1⟩,e2⟩:=he;exact⟨.inr rfl,by rw[e1,e2];rfl,e2⟩) m B w E hv
  ·have h1:n'=0:=l1.resolve_left h0;have r:=Zc (s0:=[]) (Zh Zd Zmx) (Z5z p q n c n' c' h) (Zj (by simp [h1]) (Zu (by simpa using h0)));exact Zbr (T:=Zk prog Zf Zo hcM) func127 ZiC (vals:=[.slice p n c,.slice q n' c']) (v:= .tuple #[Zn,.nilIface]) (h:=h) (by rfl) (r.mono fun e y he=>by
    obtain⟨rfl,⟨g,e1⟩,e2⟩:=he;exact⟨.inr rfl,by rw[e1,e2];rfl,e2⟩) m B w E hv
 ·rename_i p n c q n' c' s2;cases hg;obtain⟨l1,l2,l3⟩:=Z4h hl;simp only[Xh,Bool.not_eq_true',decide_eq_false_iff_not] at l1 l2 l3;obtain⟨l3,l4⟩:=l3;have l4:=Nat.le_of_ble_eq_true l4;rcases ZK l1 with ⟨_,h0,_⟩ | ⟨b,o,x,rfl,hx,r1,e0⟩
  ·omega
  rcases ZK l2 with ⟨_,h0,_⟩ | ⟨b',o',y,rfl,hy,t1,f0⟩
  ·omega
  rw[e0,f0];obtain⟨a1,a2,a3,a4,a5,a6,a7⟩:=ZH r1;obtain⟨b1,b2,b3,b4,b5,b6,b7⟩:=ZH t1;have r:=Zvb (c:=c) (c':=c') a1 b1 a7 (by rw[b2];exact zJ t1) (by omega) (by omega) (by omega);rw[a2,b2] at r;have e1:∀ k M:Nat,rn (fun _=>h.n) (.tuple #[sl 2 0 k M,.nilIface])= .tuple #[sl h.n 0 k M,.nilIface]:=fun k M=>by simp [rn,rn2,rn1,sl]
  have:=ZI (T:=Zk prog Zf Zo hcM) func127 ZuR (Zgv a7 b7) (vals:=[sl 0 o n c,sl 1 o' n' c']) (fun v hv=>by
   simp only[List.mem_cons,List.not_mem_nil,or_false] at hv;rcases hv with rfl | rfl<;>rfl) (k:=2) (ZcW _) Zec (r.w.mono fun e y h=>⟨h.1,h.2.1,[],by rw[List.append_nil];exact h.2.2⟩) (by rfl) E (s:=ZdY b b') (Zdu hx a5 a6 hy b5 b6)
  rw[e1] at this;exact this
 ·cases hg
end Go.Proofs.YtgefjidphfdhdaaGreatDoor.Na
namespace Go.Nt
def dgS (L:List Int) (i:Nat):Nat:=(L.getD i 0).toNat
theorem Zcm (k:Nat):2^k=65536^(k/16)*2^(k % 16):=by
 rw[Zfz,← Nat.pow_add];congr 1;omega
theorem Z52 {L:List Int}(h:∀ x∈L,Dg 65536 x) (i:Nat):dgS L i<65536:=by
 unfold dgS;by_cases hi:i<L.length
 ·have:=h (L.getD i 0) (by simp [List.getD,List.getElem?_eq_getElem hi]);omega
 ·simp [List.getD,List.getElem?_eq_none (show L.length≤i by omega)]
theorem Zm5 {L:List Int}(h:∀ x∈L,Dg 65536 x) (z:Nat):vb 65536 L/65536^z=vb 65536 (L.drop z)∧vb 65536 L % 65536^z=vb 65536 (L.take z):=by
 have hp:0<65536^z:=Nat.pow_pos (by omega);by_cases hz:z≤L.length
 ·have e:vb 65536 L=vb 65536 (L.take z)+65536^z*vb 65536 (L.drop z):=by
   conv=>lhs;rw[← List.take_append_drop z L]
   rw[ZaJ,List.length_take,show min z L.length=z by omega]
  have hl:vb 65536 (L.take z)<65536^z:=by
   have:=ZbG (b:=65536) (by omega) (L.take z) (fun x hx=>h x (List.mem_of_mem_take hx));rw[List.length_take,show min z L.length=z by omega] at this;exact this
  rw[e];exact⟨by rw[Nat.add_mul_div_left _ _ hp,Nat.div_eq_of_lt hl,Nat.zero_add],by rw[Nat.add_mul_mod_self_left,Nat.mod_eq_of_lt hl]⟩
 ·have hl:vb 65536 L<65536^z:=by
   have h1:=ZbG (b:=65536) (by omega) L h;have h2:=Nat.pow_le_pow_right (show 0<65536 by omega) (show L.length≤z by omega);omega
  rw[List.drop_of_length_le (by omega),List.take_of_length_le (by omega)];exact⟨Nat.div_eq_of_lt hl,Nat.mod_eq_of_lt hl⟩
theorem Zck {L:List Int}{z:Nat}:vb 65536 (L.drop z)=dgS L z+65536*vb 65536 (L.drop (z+1)):=by
 by_cases hz:z<L.length
 ·rw[List.drop_eq_getElem_cons hz];simp only[vb,dgS];simp [List.getD,List.getElem?_eq_getElem hz]
 ·rw[List.drop_of_length_le (by omega),List.drop_of_length_le (by omega)];simp [vb,dgS,List.getD,List.getElem?_eq_none (show L.length≤z by omega)]
theorem ZhB {s:Nat}(h:s≤16):2^s*2^(16-s)=65536:=by rw[← Nat.pow_add,show s+(16-s)=16 by omega]
theorem Z0b {L:List Int}(h:∀ x∈L,Dg 65536 x) (k:Nat):vb 65536 L/2^k % 2=dgS L (k/16)/2^(k % 16) % 2:=by
 obtain⟨e,_⟩:=Zm5 h (k/16);rw[Zcm,← Nat.div_div_eq_div_mul,e,Zck];have hd:=ZhB (s:=k % 16+1) (by omega);have e2:65536*vb 65536 (L.drop (k/16+1))=2^(k % 16)*(2*(2^(16-(k % 16+1))*vb 65536 (L.drop (k/16+1)))):=by
  rw[← hd,Nat.pow_succ];simp only[Nat.mul_assoc]
 have hp:0<2^(k % 16):=Nat.pow_pos (by omega);rw[e2,Nat.add_mul_div_left _ _ hp];omega
theorem lost_iff {L:List Int}(h:∀ x∈L,Dg 65536 x) (k:Nat):(vb 65536 L % 2^k≠0)↔(vb 65536 (L.take (k/16))≠0∨dgS L (k/16) % 2^(k % 16)≠0):=by
 obtain⟨e1,e2⟩:=Zm5 h (k/16);have hp:0<65536^(k/16):=Nat.pow_pos (by omega);rw[Zcm,Nat.mod_mul,e1,e2,Zck];have hd:=ZhB (s:=k % 16) (by omega);have e3:(dgS L (k/16)+65536*vb 65536 (L.drop (k/16+1))) % 2^(k % 16)=dgS L (k/16) % 2^(k % 16):=by
  rw[← hd,Nat.mul_assoc,Nat.add_mul_mod_self_left]
 rw[e3];generalize dgS L (k/16) % 2^(k % 16)=r;generalize vb 65536 (L.take (k/16))=u;constructor
 ·intro h0;by_cases hu:u=0
  ·right
   intro hr;apply h0;rw[hu,hr,Nat.mul_zero]
  ·exact .inl hu
 ·rintro (h0 | h0) hh
  ·omega
  ·have:0<65536^(k/16)*r:=Nat.mul_pos hp (by omega);omega
theorem Zm6 {O:List Int}{P R y x0 x1 j W:Nat}(hPR:P*R=65536) (hO:O.length=j) (h:vb 65536 O*P+y=W+65536^j*(x0 % P)):
  vb 65536 (O++[((x0/P+x1 % P*R:Nat):Int)])*P+y=(W+65536^j*x0)+65536^(j+1)*(x1 % P):=by
 have e:vb 65536 (O++[((x0/P+x1 % P*R:Nat):Int)])=vb 65536 O+65536^j*(x0/P+x1 % P*R):=by
  rw[ZcZ,hO,Xg]
 have e2:=Nat.div_add_mod x0 P;have e3:65536^j*(x0/P+x1 % P*R)*P=65536^j*(P*(x0/P))+65536^(j+1)*(x1 % P):=by
  rw[Nat.mul_assoc,Nat.add_mul,Nat.mul_add,Nat.mul_comm (x0/P) P,Nat.mul_assoc (x1 % P),Nat.mul_comm R P,hPR,Nat.pow_succ,Nat.mul_comm (x1 % P),Nat.mul_assoc]
 have e4:65536^j*x0=65536^j*(P*(x0/P))+65536^j*(x0 % P):=by rw[← Nat.mul_add,e2]
 rw[e,Nat.add_mul,e3];omega
theorem Zm7 {P R x0 x1:Nat}(hP:0<P) (hPR:P*R=65536) (h0:x0<65536):x0/P+x1 % P*R<65536:=by
 have h1:x0/P<R:=Nat.div_lt_of_lt_mul (by omega);have h2:x1 % P+1≤P:=Nat.mod_lt _ hP;have h3:=Nat.mul_le_mul_right R h2;rw[Nat.add_mul,Nat.one_mul,hPR] at h3;omega
theorem ZqG {L:List Int}(h:∀ x∈L,Dg 65536 x) {k V':Nat}(e:V'*2^(k % 16)+dgS L (k/16) % 2^(k % 16)=vb 65536 (L.drop (k/16))):V'=vb 65536 L/2^k:=by
 have hp:0<2^(k % 16):=Nat.pow_pos (by omega);obtain⟨e1,_⟩:=Zm5 h (k/16);rw[Zcm,← Nat.div_div_eq_div_mul,e1,← e,Nat.add_comm,Nat.mul_comm,Nat.add_mul_div_left _ _ hp,Nat.div_eq_of_lt (Nat.mod_lt _ hp),Nat.zero_add]
theorem Zm8 {b:Nat}:∀ {L:List Int}{j:Nat},j<L.length→∀ v:Int,vb b (L.set j v)+b^j*(L.getD j 0).toNat=vb b L+b^j*v.toNat
 | [],_,h,_=>by simp at h
 | x::L,0,_,v=>by simp [vb];omega
 | x::L,j+1,h,v=>by
  have ih:=Zm8 (b:=b) (L:=L) (j:=j) (by simpa using h) v;have e:(x::L).getD (j+1) 0=L.getD j 0:=by simp [List.getD]
  simp only[List.set,vb,e];have h2:=congrArg (fun t=>b*t) ih;simp only[Nat.mul_add] at h2;rw[Nat.pow_succ,Nat.mul_comm (b^j) b,Nat.mul_assoc,Nat.mul_assoc];omega
theorem Zm9 {L:List Int}(h:∀ x∈L,Dg 65536 x) {v:Int}(hv:Dg 65536 v) (j:Nat):∀ x∈L.set j v,Dg 65536 x:=fun x hx=>by
 rcases List.mem_or_eq_of_mem_set hx with hx | rfl
 ·exact h x hx
 ·exact hv
theorem ZqH {L:List Int}{j:Nat}(hj:j<L.length) (hL:∀ x∈L,Dg 65536 x) {c p q:Nat}(hc:c<65536) (hp:p<65536) (hq:q<65536):
  let t:=c+(L.getD j 0).toNat+p*q
  vb 65536 (L.set j ((t % 65536:Nat):Int))+t/65536*65536^(j+1)=vb 65536 L+c*65536^j+p*q*65536^j∧t/65536<65536∧(∀ x∈L.set j ((t % 65536:Nat):Int),Dg 65536 x):=by
 intro t;have hd:(L.getD j 0).toNat<65536:=Z52 hL j;have hpq:p*q≤65535*65535:=Nat.mul_le_mul (by omega) (by omega);have ht:t=c+(L.getD j 0).toNat+p*q:=rfl;refine⟨?_,by omega,Zm9 hL ⟨by omega,by omega⟩ j⟩;have h1:=Zm8 (b:=65536) hj ((t % 65536:Nat):Int);rw[Xg] at h1;have h2:=Nat.div_add_mod t 65536;have h3:65536^j*t=65536^j*(65536*(t/65536))+65536^j*(t % 65536):=by rw[← Nat.mul_add,h2]
 have h4:65536^j*t=65536^j*c+65536^j*(L.getD j 0).toNat+65536^j*(p*q):=by rw[ht,Nat.mul_add,Nat.mul_add]
 have h5:t/65536*65536^(j+1)=65536^j*(65536*(t/65536)):=by rw[Nat.pow_succ,Nat.mul_comm,Nat.mul_assoc]
 rw[h5,Nat.mul_comm c,Nat.mul_comm (p*q)];omega
end Go.Nt
namespace Go.Proofs.YtgefjidphfdhdaaGreatDoor
open Go.Proofs.Tryz
open Go.IntKind
open Go.KRun Go.Nt
set_option maxRecDepth 100000
set_option linter.unusedVariables false
def muB (F:Func):Code:=Z2 (Z0 (Z0 (Zs F)))
def muO (F:Func):Code:=cIn (cIn (Z0 (muB F)))
def muI (F:Func):Code:=cIn (Z2 (Z0 (muO F)))
def muL (F:Func):Code:=cIn (cIn (Z0 (Z2 (Z0 (muI F)))))
def ZyL (F:Func):List Code:=[Z2 (Zs F),Z2 (Z0 (Zs F))]
def muE (F:Func):Code:=Z0 (Z0 (Z0 (Zs F)))
theorem Zg8:f66.body=some (ZW (ZyL f66) (.seq (.seq (Z2 (muB f66)) (.block 0 (.loop (muO f66)))) (muE f66))):=by kernel_rfl
theorem ZiF:muO f66= .seq (Z2 (muO f66)) (.seq (.block 1 (muI f66)) (Z0 (Z0 (muO f66)))):=by kernel_rfl
theorem ZqI:muI f66= .seq (Z2 (muI f66)) (.seq (.seq (Z2 (Z2 (Z0 (muI f66)))) (.block 2 (.loop (muL f66)))) (Z0 (Z0 (muI f66)))):=by kernel_rfl
def mFr (o n c o' n' c' z:Nat) (i v7 v8:Value):List Value:=[sl 0 o n c,sl 1 o' n' c',undef,undef,Zn,sl 2 0 z z,i,v7,v8]
def hM3 (lo lb la:List Value):Hp:=⟨3,[(lo,tU),(lb,tR),(la,tR)]⟩
def zM (n n':Nat):Int:=i64.wrap ((n:Int)+n')
def inM (j:Int) (n:Nat):Bool×Bool:=(decide (0≤j∧j<(n:Int)),true)
def ceM (l:List Value) (o:Nat) (j x:Int):Bool×Bool:=(Z4 (l[o+j.toNat*1]?) (.int .u32 x),true)
def stM (l:List Value) (j:Int):Bool×Bool:=(decide (0+j.toNat*1<l.length),true)
def d65:Bool×Bool:=(decide ((65536:Int)=0),false)
def tM (c7 d p q:Int):Int:=u64.wrap (u64.wrap (c7+u64.wrap d)+u64.wrap (u64.wrap p*u64.wrap q))
def ijM (i k:Int):Int:=i64.wrap (i+k)
theorem Z0c (o n c o' n' c':Nat) (la lb:List Value):Zg (evL (Zk prog Zf Zo hcV) 200 (ZyL f66) ([sl 0 o n c,sl 1 o' n' c']++List.replicate 66 undef,h2 la lb,[at_]) ⟨[],[],[]⟩) 6 62 none [sl 0 o n c,sl 1 o' n' c',undef,undef,Zn,sl 2 0 (zM n n').toNat (zM n n').toNat] (hM3 (List.replicate (zM n n').toNat (.int .u32 0)) lb la) [(ZO 4 (zM n n') (zM n n'),true)]:=by and_intros<;>kernel_rfl
theorem Z0d (v0 v1 v5:Value) (h:Hp) (g:Nat→Value):Zg (evC (Zk prog Zf Zo hcV) 200 false (Z2 (muB f66)) ([v0,v1,undef,undef,Zn,v5]++tl 62 g,h,[]) ⟨[],[],[]⟩) 9 59 none [v0,v1,undef,undef,Zn,v5,.int .i64 0,g 1,g 2] h []:=by and_intros<;>kernel_rfl
theorem Z53 (o n c o' n' c' z:Nat) (i c7 k d p q:Int) (v7 v8:Value) (lo lb la:List Value) (g:Nat→Value):Zg (evC (Zk prog Zf Zo hcV) 200 false (Z2 (muO f66)) (mFr o n c o' n' c' z (.int .i64 i) v7 v8++tl 59 g,hM3 lo lb la,[cmp true]) ⟨[],[],[]⟩) 9 59 none (mFr o n c o' n' c' z (.int .i64 i) v7 v8) (hM3 lo lb la) [(decide (i<(n:Int)),true)]:=by and_intros<;>kernel_rfl
theorem Z54 (o n c o' n' c' z:Nat) (i c7 k d p q:Int) (v7 v8:Value) (lo lb la:List Value) (g:Nat→Value):Zg (evC (Zk prog Zf Zo hcV) 200 false (Z2 (muO f66)) (mFr o n c o' n' c' z (.int .i64 i) v7 v8++tl 59 g,hM3 lo lb la,[cmp false]) ⟨[],[],[]⟩) 9 59 (some (some 0)) (mFr o n c o' n' c' z (.int .i64 i) v7 v8) (hM3 lo lb la) [(decide (i<(n:Int)),false)]:=by and_intros<;>kernel_rfl
theorem Z55 (o n c o' n' c' z:Nat) (i c7 k d p q:Int) (v7 v8:Value) (lo lb la:List Value) (g:Nat→Value):Zg (evC (Zk prog Zf Zo hcV) 200 false (Z2 (muI f66)) (mFr o n c o' n' c' z (.int .i64 i) v7 v8++tl 59 g,hM3 lo lb la,[]) ⟨[],[],[]⟩) 9 59 none (mFr o n c o' n' c' z (.int .i64 i) (.int .u64 0) v8) (hM3 lo lb la) []:=by and_intros<;>kernel_rfl
theorem Z56 (o n c o' n' c' z:Nat) (i c7 k d p q:Int) (v7 v8:Value) (lo lb la:List Value) (g:Nat→Value):Zg (evC (Zk prog Zf Zo hcV) 200 false (Z2 (Z2 (Z0 (muI f66)))) (mFr o n c o' n' c' z (.int .i64 i) v7 v8++tl 59 g,hM3 lo lb la,[]) ⟨[],[],[]⟩) 9 59 none (mFr o n c o' n' c' z (.int .i64 i) v7 (.int .i64 0)) (hM3 lo lb la) []:=by and_intros<;>kernel_rfl
theorem Z57 (o n c o' n' c' z:Nat) (i c7 k d p q:Int) (v7 v8:Value) (lo lb la:List Value) (g:Nat→Value):Zg (evC (Zk prog Zf Zo hcV) 200 false (muL f66) (mFr o n c o' n' c' z (.int .i64 i) (.int .u64 c7) (.int .i64 k)++tl 59 g,hM3 lo lb la,[cmp true,at_,val (.int .u32 d),at_,val (.int .u32 p),at_,val (.int .u32 q),cmp true,at_,at_]) ⟨[],[],[]⟩) 9 59 none (mFr o n c o' n' c' z (.int .i64 i) (.int .u64 (u64.wrap ((tM c7 d p q).tdiv 65536))) (.int .i64 (i64.wrap (k+1)))) (hM3 (lo.set (0+(ijM i k).toNat*1) (.int .u32 (u32.wrap ((tM c7 d p q).tmod 65536)))) lb la) [stM lo (ijM i k),inM (ijM i k) z,d65,ceM lb o' k q,inM k n',ceM la o i p,inM i n,ceM lo 0 (ijM i k) d,inM (ijM i k) z,(decide (k<(n':Int)),true)]:=by and_intros<;>kernel_rfl
theorem Z0e (o n c o' n' c' z:Nat) (i c7 k d p q:Int) (v7 v8:Value) (lo lb la:List Value) (g:Nat→Value):Zg (evC (Zk prog Zf Zo hcV) 200 false (muL f66) (mFr o n c o' n' c' z (.int .i64 i) (.int .u64 c7) (.int .i64 k)++tl 59 g,hM3 lo lb la,[cmp false]) ⟨[],[],[]⟩) 9 59 (some (some 2)) (mFr o n c o' n' c' z (.int .i64 i) (.int .u64 c7) (.int .i64 k)) (hM3 lo lb la) [(decide (k<(n':Int)),false)]:=by and_intros<;>kernel_rfl
theorem Z0f (o n c o' n' c' z:Nat) (i c7 k d p q:Int) (v7 v8:Value) (lo lb la:List Value) (g:Nat→Value):Zg (evC (Zk prog Zf Zo hcV) 200 false (Z0 (Z0 (muI f66))) (mFr o n c o' n' c' z (.int .i64 i) (.int .u64 c7) v8++tl 59 g,hM3 lo lb la,[at_,at_]) ⟨[],[],[]⟩) 9 59 none (mFr o n c o' n' c' z (.int .i64 i) (.int .u64 c7) v8) (hM3 (lo.set (0+(ijM i n').toNat*1) (.int .u32 (u32.wrap c7))) lb la) [stM lo (ijM i n'),inM (ijM i n') z]:=by and_intros<;>kernel_rfl
theorem Z58 (o n c o' n' c' z:Nat) (i c7 k d p q:Int) (v7 v8:Value) (lo lb la:List Value) (g:Nat→Value):Zg (evC (Zk prog Zf Zo hcV) 200 false (Z0 (Z0 (muO f66))) (mFr o n c o' n' c' z (.int .i64 i) v7 v8++tl 59 g,hM3 lo lb la,[]) ⟨[],[],[]⟩) 9 59 none (mFr o n c o' n' c' z (.int .i64 (i64.wrap (i+1))) v7 v8) (hM3 lo lb la) []:=by and_intros<;>kernel_rfl
theorem Z0g (o n c o' n' c' z:Nat) (i c7 k d p q:Int) (v7 v8:Value) (lo lb la:List Value) (g:Nat→Value):Zg (evC (Zk prog Zf Zo hcV) 200 false (muE f66) (mFr o n c o' n' c' z (.int .i64 i) v7 v8++tl 59 g,hM3 lo lb la,[]) ⟨[],[],[]⟩) 5 63 (some none) [sl 0 o n c,sl 1 o' n' c',undef,undef,sl 2 0 (Zi (Zz lo 0 z)) (Zi (Zz lo 0 z))] (hM3 lo lb la) [(ZaQ tU lo 0 z z,true)]:=by and_intros<;>kernel_rfl
theorem Runs.next {T:Tab}{c1 c2:Code}{x:Lf}{front:List Value}{n:Nat}{h:Hp}{P:Ex→Lf→Prop}(h1:Runs T c1 x fun e y=>e=none∧(∃ g,y.1=front++tl n g)∧y.2.1=h) (h2:∀ g s,Runs T c2 (front++tl n g,h,s) P):Runs T (.seq c1 c2) x P:=by
 refine Runs.seq h1 (fun y hy=> ?_) (fun e y hy=>by cases hy.1);obtain⟨_,⟨g,e1⟩,e2⟩:=hy;obtain⟨t,hh,s⟩:=y;simp only at e1 e2;subst e1 e2;exact h2 g s
theorem ZmA (O:List Int) (j:Nat) (v:Int):(wU O).set j (.int .u32 v)=wU (O.set j v):=by unfold wU;rw[List.map_set]
theorem Zcn {n:Int}(h0:0≤n) (h1:n<18446744073709551616):u64.wrap n=n:=by simp [IntKind.wrap,IntKind.bits,IntKind.signed];omega
theorem Zvc {O:List Int}{j:Nat}(h:j<O.length):(wU O)[0+j*1]? =some (.int .u32 (O.getD j 0)):=by
 rw[Nat.zero_add,Nat.mul_one];unfold wU;rw[List.getElem?_map,List.getElem?_eq_getElem h];simp [List.getD,List.getElem?_eq_getElem h]
theorem ZmB {n:Nat}(h:n<1000000):ZG n=true:=by
 unfold ZG;exact Zl.2 (by have:zo=4611686018427387904:=rfl;omega)
theorem ZmC {x:Int}(h:Dg 65536 x):∃ p:Nat,x=(p:Int)∧p<65536:=⟨x.toNat,by have:=h.1;omega,by have:=h.1;have:=h.2;omega⟩
section
variable {la lb : List Value} {o c o' c' : Nat} {A B : List Int}
def mSt (o n c o' n' c' z:Nat) (la lb:List Value) (O:List Int) (i:Nat) (v7 v8:Value) (Y:Lf):Prop:=(∃ g,Y.1=mFr o n c o' n' c' z (.int .i64 ((i:Nat):Int)) v7 v8++tl 59 g)∧Y.2.1=hM3 (wU O) lb la
def mOk (z i n':Nat) (O:List Int):Prop:=O.length=z∧(∀ x∈O,Dg 65536 x)∧∀ j,i+n'≤j→O.getD j 0=0
def mIn (o c o' c':Nat) (la lb:List Value) (A B:List Int) (i V:Nat) (m:Nat) (Y:Lf):Prop:=
 ∃ k O c7,m=B.length-k∧k≤B.length∧mOk (A.length+B.length) i B.length O∧c7<65536∧vb 65536 O+c7*65536^(i+k)=V+(A.getD i 0).toNat*vb 65536 (B.take k)*65536^i∧mSt o A.length c o' B.length c' (A.length+B.length) la lb O i (.int .u64 ((c7:Nat):Int)) (.int .i64 ((k:Nat):Int)) Y
def mFi (o c o' c':Nat) (la lb:List Value) (A B:List Int) (i V:Nat) (Y:Lf):Prop:=
 ∃ O c7 v8,mOk (A.length+B.length) i B.length O∧c7<65536∧vb 65536 O+c7*65536^(i+B.length)=V+(A.getD i 0).toNat*vb 65536 B*65536^i∧mSt o A.length c o' B.length c' (A.length+B.length) la lb O i (.int .u64 ((c7:Nat):Int)) v8 Y
theorem Zvd {z i n':Nat}{O:List Int}(h:mOk z i n' O) {j:Nat}(hj:j<i+n') {v:Int}(hv:∀ x∈O.set j v,Dg 65536 x):mOk z i n' (O.set j v):=by
 refine⟨by rw[List.length_set];exact h.1,hv,fun t ht=> ?_⟩;have:=h.2.2 t ht;simp only[List.getD] at*;rw[List.getElem?_set_ne (by omega)];exact this
theorem Zkk (rA:Row la o A) (rB:Row lb o' B) (dA:∀ x∈A,Dg 65536 x) (dB:∀ x∈B,Dg 65536 x) (hz:A.length+B.length<1000000) {i V:Nat}(hi:i<A.length) {Y0:Lf}(h0:mIn o c o' c' la lb A B i V B.length Y0):
  Runs (Zk prog Zf Zo hcV) (.block 2 (.loop (muL f66))) Y0 fun e Y=>match e with | none=>mFi o c o' c' la lb A B i V Y | some none=>False | some (some _)=>False:=by
 refine Runs.forLoop (P:=mFi o c o' c' la lb A B i V) (R:=fun _=>False) (mIn o c o' c' la lb A B i V) ?_ (n:=B.length) h0;rintro m ⟨t,h',s⟩ ⟨k,O,c7,hm,hk,hO,hc,hval,⟨g,ht⟩,hh⟩;simp only at ht hh;subst ht hh;by_cases hlt:k<B.length
 ·have hj:i+k<O.length:=by rw[hO.1];omega
  obtain⟨p,ep,hp⟩:=ZmC (Zef dA i);obtain⟨q,eq,hq⟩:=ZmC (Zef dB k);obtain⟨d,ed,hd⟩:=ZmC (Zef hO.2.1 (i+k));have eij:ijM i k=((i+k:Nat):Int):=by unfold ijM;rw[Zw (by omega) (by omega)];omega
  have hpq:p*q≤65535*65535:=Nat.mul_le_mul (by omega) (by omega);have epq:(p:Int)*(q:Int)=((p*q:Nat):Int):=by simp
  have eT:tM c7 d p q=((c7+d+p*q:Nat):Int):=by
   unfold tM;rw[Zcn (n:=(d:Int)) (by omega) (by omega),Zcn (n:=(p:Int)) (by omega) (by omega),Zcn (n:=(q:Int)) (by omega) (by omega),epq,Zcn (n:=((p*q:Nat):Int)) (by omega) (by omega),Zcn (n:=(c7:Int)+(d:Int)) (by omega) (by omega),Zcn (by omega) (by omega)];omega
  have e1:u64.wrap ((tM c7 d p q).tdiv 65536)=(((c7+d+p*q)/65536:Nat):Int):=by
   rw[eT,Int.tdiv_eq_ediv_of_nonneg (by omega),Zcn (by omega) (by omega)];omega
  have e2:u32.wrap ((tM c7 d p q).tmod 65536)=(((c7+d+p*q) % 65536:Nat):Int):=by
   rw[eT,Int.tmod_eq_emod_of_nonneg (by omega),zt (by omega) (by omega)];omega
  have e3:i64.wrap ((k:Int)+1)=((k+1:Nat):Int):=by rw[Zw (by omega) (by omega)];omega
  have hstep:=ZqH hj hO.2.1 hc hp hq;rw[ed,Xg] at hstep;obtain⟨s1,s2,s3⟩:=hstep;have hw:=Z57 o A.length c o' B.length c' (A.length+B.length) i c7 k d p q undef undef (wU O) lb la g;have lg:Zx [stM (wU O) (ijM i k),inM (ijM i k) (A.length+B.length),d65,ceM lb o' k q,inM k B.length,ceM la o i p,inM i A.length,ceM (wU O) 0 (ijM i k) d,inM (ijM i k) (A.length+B.length),(decide ((k:Int)<((B.length:Nat):Int)),true)]:=by
   have g1:decide (0+(ijM i k).toNat*1<(wU O).length)=true:=Xa (by rw[eij,Xg,Zak];omega);have g2:decide (0≤ijM i k∧ijM i k<((A.length+B.length:Nat):Int))=true:=Xa (by rw[eij];omega);have g3:Z4 (lb[o'+(k:Int).toNat*1]?) (.int .u32 q)=true:=by rw[Xg,Nat.mul_one,rB.cell hlt,eq];simp [Z4]
   have g4:decide (0≤(k:Int)∧(k:Int)<((B.length:Nat):Int))=true:=Xa (by omega);have g5:Z4 (la[o+(i:Int).toNat*1]?) (.int .u32 p)=true:=by rw[Xg,Nat.mul_one,rA.cell hi,ep];simp [Z4]
   have g6:decide (0≤(i:Int)∧(i:Int)<((A.length:Nat):Int))=true:=Xa (by omega);have g7:Z4 ((wU O)[0+(ijM i k).toNat*1]?) (.int .u32 d)=true:=by rw[eij,Xg,Zvc hj,ed];simp [Z4]
   exact Zj g1 (Zj g2 (Zj rfl (Zj g3 (Zj g4 (Zj g5 (Zj g6 (Zj g7 (Zj g2 (Zu (Xa (by omega)))))))))))
  rw[e1,e2,e3,eij,Xg,Nat.zero_add,Nat.mul_one,ZmA] at hw;refine (Zc (Zh Zd Zy) hw (by rw[← Xg (i+k),← eij] at*;exact lg)).mono fun e z hz=> ?_;obtain⟨rfl,z1,z2⟩:=hz;refine⟨B.length-(k+1),by omega,k+1,O.set (i+k) (((c7+d+p*q) % 65536:Nat):Int),(c7+d+p*q)/65536,rfl,by omega,Zvd hO (by omega) s3,s2,?_,z1,z2⟩;rw[Za5,Nat.mul_add,Nat.add_mul,eq,Xg,ep,Xg];rw[ep,Xg] at hval;have x1:p*(65536^k*q)*65536^i=p*q*65536^(i+k):=by rw[Nat.pow_add,Nat.mul_comm (65536^k) q,← Nat.mul_assoc,Nat.mul_assoc (p*q),Nat.mul_comm (65536^k)]
  rw[x1];have x2:i+(k+1)=i+k+1:=by omega
  rw[x2];omega
 ·have hkl:k=B.length:=by omega
  subst hkl;refine (Zc (Zh Zd Zy) (Z0e o A.length c o' B.length c' (A.length+B.length) i c7 ((B.length:Nat):Int) 0 0 0 undef undef (wU O) lb la g) (Zu (Xb (by omega)))).mono fun e z hz=> ?_;obtain⟨rfl,z1,z2⟩:=hz;rw[List.take_length] at hval;exact⟨rfl,O,c7,_,hO,hc,hval,z1,z2⟩
theorem Z8N {T:Tab}{c:Code}{id:Nat}{x:Lf}{P:Lf→Prop}(h:Runs T c x fun e y=>e=none∧P y):Runs T (.block id c) x fun e y=>e=none∧P y:=
 Runs.block h (fun y hy=>hy) (fun y hy=>by cases hy.1) (fun y hy=>by cases hy.1) (fun id' y _ hy=>by cases hy.1)
def mOu (o c o' c':Nat) (la lb:List Value) (A B:List Int) (i:Nat) (Y:Lf):Prop:=
 ∃ O v7 v8,mOk (A.length+B.length) i B.length O∧vb 65536 O=vb 65536 (A.take i)*vb 65536 B∧mSt o A.length c o' B.length c' (A.length+B.length) la lb O i v7 v8 Y
theorem Zkl (rA:Row la o A) (rB:Row lb o' B) (dA:∀ x∈A,Dg 65536 x) (dB:∀ x∈B,Dg 65536 x) (hz:A.length+B.length<1000000) {i:Nat}(hi:i<A.length) {Y0:Lf}(h0:mOu o c o' c' la lb A B i Y0):
  Runs (Zk prog Zf Zo hcV) (muO f66) Y0 fun e Y=>e=none∧mOu o c o' c' la lb A B (i+1) Y:=by
 obtain⟨O,v7,v8,hO,hval,⟨g,ht⟩,hh⟩:=h0;obtain⟨t,h',s⟩:=Y0;simp only at ht hh;subst ht hh;have hT:=Zh Zd Zy;rw[ZiF];refine Runs.next (Zc hT (Z53 o A.length c o' B.length c' (A.length+B.length) i 0 0 0 0 0 v7 v8 (wU O) lb la g) (Zu (Xa (by omega)))) fun g s=> ?_;refine Runs.seq (P1:=fun e Y=>e=none∧∃ O v7 v8,mOk (A.length+B.length) (i+1) B.length O∧vb 65536 O=vb 65536 (A.take (i+1))*vb 65536 B∧mSt o A.length c o' B.length c' (A.length+B.length) la lb O i v7 v8 Y) (Z8N ?_) ?_ (fun e y hy=>by cases hy.1)
 ·rw[ZqI];refine Runs.next (Zc hT (Z55 o A.length c o' B.length c' (A.length+B.length) i 0 0 0 0 0 v7 v8 (wU O) lb la g) (fun _ h=>by cases h)) fun g s=> ?_;refine Runs.seq (P1:=fun e Y=>e=none∧mFi o c o' c' la lb A B i (vb 65536 O) Y) ?_ ?_ (fun e y hy=>by cases hy.1)
  ·refine Runs.next (Zc hT (Z56 o A.length c o' B.length c' (A.length+B.length) i 0 0 0 0 0 (.int .u64 0) v8 (wU O) lb la g) (fun _ h=>by cases h)) fun g s=> ?_;refine (Zkk rA rB dA dB hz hi (V:=vb 65536 O) ⟨0,O,0,by omega,by omega,hO,by omega,?_,⟨g,rfl⟩,rfl⟩).mono fun e Y hY=> ?_
   ·simp [vb]
   ·match e,hY with
    | none,hY=>exact⟨rfl,hY⟩
    | some none,hY=>exact hY.elim
    | some (some _),hY=>exact hY.elim
  ·rintro⟨t,h',s⟩ ⟨_,O',c7,w8,hO',hc7,hv',⟨g,ht⟩,hh⟩;simp only at ht hh;subst ht hh;have hj:i+B.length<O'.length:=by rw[hO'.1];omega
   have eij:ijM i ((B.length:Nat):Int)=((i+B.length:Nat):Int):=by unfold ijM;rw[Zw (by omega) (by omega)];omega
   have e1:u32.wrap ((c7:Nat):Int)=((c7:Nat):Int):=zt (by omega) (by omega);have hw:=Z0f o A.length c o' B.length c' (A.length+B.length) i c7 0 0 0 0 undef w8 (wU O') lb la g;have g1:decide (0+(ijM i ((B.length:Nat):Int)).toNat*1<(wU O').length)=true:=Xa (by rw[eij,Xg,Zak];omega);have g2:decide (0≤ijM i ((B.length:Nat):Int)∧ijM i ((B.length:Nat):Int)<((A.length+B.length:Nat):Int))=true:=Xa (by rw[eij];omega);have r:=Zc (s0:=s) hT hw (Zj g1 (Zu g2));rw[e1,eij,Xg,Nat.zero_add,Nat.mul_one,ZmA] at r;refine r.mono fun e z hz=> ?_;obtain⟨rfl,z1,z2⟩:=hz;have hdg:∀ x∈O'.set (i+B.length) ((c7:Nat):Int),Dg 65536 x:=Zm9 hO'.2.1 ⟨by omega,by omega⟩ _;refine⟨rfl,O'.set (i+B.length) ((c7:Nat):Int),_,_,⟨by rw[List.length_set];exact hO'.1,hdg,fun j hj'=> ?_⟩,?_,z1,z2⟩
   ·have:=hO'.2.2 j (by omega);simp only[List.getD] at*;rw[List.getElem?_set_ne (by omega)];exact this
   ·have hs:=Zm8 (b:=65536) hj ((c7:Nat):Int);rw[hO'.2.2 (i+B.length) (Nat.le_refl _),Xg] at hs;rw[Za5,Nat.add_mul,← hval];have x1:65536^i*(A.getD i 0).toNat*vb 65536 B=(A.getD i 0).toNat*vb 65536 B*65536^i:=by rw[Nat.mul_assoc,Nat.mul_comm]
    rw[x1];have x2:c7*65536^(i+B.length)=65536^(i+B.length)*c7:=Nat.mul_comm _ _;have x3:(65536:Nat)^(i+B.length)*(0:Int).toNat=0:=by simp
    omega
 ·rintro⟨t,h',s⟩ ⟨_,O',w7,w8,hO',hv',⟨g,ht⟩,hh⟩;simp only at ht hh;subst ht hh;have e3:i64.wrap ((i:Int)+1)=((i+1:Nat):Int):=by rw[Zw (by omega) (by omega)];omega
  have hw:=Z58 o A.length c o' B.length c' (A.length+B.length) i 0 0 0 0 0 w7 w8 (wU O') lb la g;rw[e3] at hw;refine (Zc hT hw (fun _ h=>by cases h)).mono fun e z hz=> ?_;obtain⟨rfl,z1,z2⟩:=hz;exact⟨rfl,O',w7,w8,hO',hv',z1,z2⟩
theorem ZmD (rA:Row la o A) (rB:Row lb o' B) (dA:∀ x∈A,Dg 65536 x) (dB:∀ x∈B,Dg 65536 x) (hz:A.length+B.length<1000000) {Y0:Lf}(h0:mOu o c o' c' la lb A B 0 Y0):
  Runs (Zk prog Zf Zo hcV) (.block 0 (.loop (muO f66))) Y0 fun e Y=>match e with | none=>mOu o c o' c' la lb A B A.length Y | some none=>False | some (some _)=>False:=by
 refine Runs.forLoop (P:=mOu o c o' c' la lb A B A.length) (R:=fun _=>False) (fun m Y=>∃ i,m=A.length-i∧i≤A.length∧mOu o c o' c' la lb A B i Y) ?_ (n:=A.length) ⟨0,by omega,by omega,h0⟩;rintro m Y ⟨i,hm,hi,hY⟩;by_cases hlt:i<A.length
 ·refine (Zkl rA rB dA dB hz hlt hY).mono fun e z hz'=> ?_;obtain⟨rfl,z1⟩:=hz';exact⟨A.length-(i+1),by omega,i+1,rfl,by omega,z1⟩
 ·have hil:i=A.length:=by omega
  subst hil;obtain⟨O,v7,v8,hO,hval,⟨g,ht⟩,hh⟩:=hY;obtain⟨t,h',s⟩:=Y;simp only at ht hh;subst ht hh;rw[ZiF];refine Runs.seq (Zc (Zh Zd Zy) (Z54 o A.length c o' B.length c' (A.length+B.length) ((A.length:Nat):Int) 0 0 0 0 0 v7 v8 (wU O) lb la g) (Zu (Xb (by omega)))) (fun y hy=>by cases hy.1) (fun e y hy=> ?_);obtain⟨e1,z1,z2⟩:=hy;cases e1;exact⟨rfl,O,v7,v8,hO,hval,z1,z2⟩
theorem ZmE (rA:Row la o A) (rB:Row lb o' B) (dA:∀ x∈A,Dg 65536 x) (dB:∀ x∈B,Dg 65536 x) (hz:A.length+B.length<1000000):
  Runs (Zk prog Zf Zo hcV) (ZW (ZyL f66) (.seq (.seq (Z2 (muB f66)) (.block 0 (.loop (muO f66)))) (muE f66))) ([sl 0 o A.length c,sl 1 o' B.length c']++List.replicate 66 undef,h2 la lb,[]) fun e z=>(e=none∨e=some none)∧ZV prog f66 z.1 z.2.1=some (sl 2 0 (d16 (vb 65536 A*vb 65536 B)).length (d16 (vb 65536 A*vb 65536 B)).length)∧∃ r,z.2.1.blk? 2=some (wU (d16 (vb 65536 A*vb 65536 B))++r,tU):=by
 have hT:=Zh Zd Zy;have ez:zM A.length B.length=((A.length+B.length:Nat):Int):=by unfold zM;rw[Zw (by omega) (by omega)];omega
 have hp:=Z0c o A.length c o' B.length c' la lb;have mk:ZO 4 (zM A.length B.length) (zM A.length B.length)=true:=by unfold ZO;rw[ez];exact Xa (by omega)
 refine Z3 hT hp (Zu mk) fun g=> ?_;rw[ez,Xg];have ew:List.replicate (A.length+B.length) (Value.int .u32 0)=wU (List.replicate (A.length+B.length) 0):=by unfold wU;rw[List.map_replicate]
 rw[ew];have hrep:mOk (A.length+B.length) 0 B.length (List.replicate (A.length+B.length) (0:Int)):=by
  refine⟨by simp,fun x hx=> ?_,fun j _=> ?_⟩
  ·rw[List.eq_of_mem_replicate hx];exact⟨by omega,by omega⟩
  ·simp only[List.getD,List.getElem?_replicate];split<;>rfl
 have hv0:∀ n:Nat,vb 65536 (List.replicate n (0:Int))=0:=fun n=>by
  induction n with
  | zero=>rfl
  | succ n ih=>rw[List.replicate_succ];simp only[vb,ih];rfl
 refine Runs.seq (P1:=fun e Y=>e=none∧mOu o c o' c' la lb A B A.length Y) ?_ ?_ (fun e y hy=>by cases hy.1)
 ·refine Runs.next (Zc hT (Z0d (sl 0 o A.length c) (sl 1 o' B.length c') (sl 2 0 (A.length+B.length) (A.length+B.length)) _ g) (fun _ h=>by cases h)) fun g s=> ?_;refine (ZmD rA rB dA dB hz ⟨List.replicate (A.length+B.length) 0,_,_,hrep,by rw[hv0];simp [vb],⟨g,rfl⟩,rfl⟩).mono fun e Y hY=> ?_
  match e,hY with
  | none,hY=>exact⟨rfl,hY⟩
  | some none,hY=>exact hY.elim
  | some (some _),hY=>exact hY.elim
 ·rintro⟨t,h',s⟩ ⟨_,O,v7,v8,hO,hval,⟨g,ht⟩,hh⟩;simp only at ht hh;subst ht hh;rw[List.take_length] at hval;have hl:=hO.1;have hrow:ZaQ tU (wU O) 0 (A.length+B.length) (A.length+B.length)=true:=by
   have:=Zal (L:=O) (fun x hx=>⟨(hO.2.1 x hx).1,by have:=(hO.2.1 x hx).2;omega⟩) (by rw[hl];omega) (c:=A.length+B.length) (by rw[hl];unfold ZcY;simp;exact .inl (ZmB (by omega)));rw[hl] at this;exact this
  have ec:Zz (wU O) 0 (A.length+B.length)=O:=by
   have:=ZaV O;rw[hl] at this;exact this
  have et:Zi O=(d16 (vb 65536 A*vb 65536 B)).length:=by
   rw[Zaj (by omega) hO.2.1,hval];rfl
  refine (Zc hT (Z0g o A.length c o' B.length c' (A.length+B.length) ((A.length:Nat):Int) 0 0 0 0 0 v7 v8 (wU O) lb la g) (Zu hrow)).mono fun e z hz'=> ?_;obtain⟨rfl,⟨g',e1⟩,e2⟩:=hz';refine⟨.inr rfl,?_,?_⟩
  ·rw[e1,e2,ec,et];rfl
  ·rw[e2];refine⟨wU (O.drop (Zi O)),?_⟩;have e3:wU (d16 (vb 65536 A*vb 65536 B))++wU (O.drop (Zi O))=wU O:=by
    unfold d16;rw[← hval,← zf (by omega) _ hO.2.1,← ZU,List.take_append_drop]
   rw[e3];rfl
end
def Zgg (h:Hp) (p q:Option Addr) (n c n' c':Nat):Bool:=zx h p n c && dgB (Zm h p n) && (zx h q n' c' && dgB (Zm h q n')) && Nat.blt (n+n') 1000000
def Z0h:Zae:=fun vals h s=>
 match vals with
 | [.slice (some ⟨b,o,none⟩) n c,.slice (some ⟨b',o',none⟩) n' c']=>Zda (vO h (some ⟨b,o,none⟩) n*vO h (some ⟨b',o',none⟩) n') h s [(Zgg h (some ⟨b,o,none⟩) (some ⟨b',o',none⟩) n c n' c',true)]
 | _=>none
theorem ZqJ:Z6 66 Z0h:=by
 intro vals h s v h' s' lg hg hl m B w E0 hv;unfold Z0h at hg;split at hg
 ·rename_i b o n c b' o' n' c';unfold Zda at hg;cases hg;have l3:=hl _ Xf;simp only[Zgg,Xh] at l3;obtain⟨⟨⟨q1,q2⟩,⟨p1,p2⟩⟩,q4⟩:=l3;have q2:=Zbu q2;have p2:=Zbu p2;have q4:=Zl.1 q4;rcases ZC q1 with ⟨h0,_⟩ | ⟨b1,o1,x,hp,hx,r1,rs,e0⟩
  ·cases h0
  ·cases hp;rcases ZC p1 with ⟨h0,_⟩ | ⟨b2,o2,y,hp',hy,t1,ts,f0⟩
   ·cases h0
   ·cases hp';rw[e0] at q2;rw[f0] at p2;obtain⟨h1,h2',h3,h4,h5,h6,h7⟩:=zj r1;obtain⟨k1,k2,k3,k4,k5,k6,k7⟩:=zj t1;have ev:vO h (some ⟨b,o,none⟩) n=vb 65536 (Zz x.1 o n):=by unfold vO;rw[e0]
    have ev':vO h (some ⟨b',o',none⟩) n'=vb 65536 (Zz y.1 o' n'):=by unfold vO;rw[f0]
    have r:=ZmE (c:=c) (c':=c') h1 k1 q2 p2 (by rw[h2',k2];exact q4);rw[h2',k2,← ev,← ev'] at r;have evals:List.map (rn (ZdY b b')) [sl 0 o n c,sl 1 o' n' c']=[.slice (some ⟨b,o,none⟩) n c,.slice (some ⟨b',o',none⟩) n' c']:=by
     simp [rn,rn2,rn1,sl,ZdY]
    have fin:=ZI (T:=Zk prog Zf Zo hcV) func66 Zg8 (Zgv h7 k7) (vals:=[sl 0 o n c,sl 1 o' n' c']) (fun v hv=>by
     simp only[List.mem_cons,List.not_mem_nil,or_false] at hv;rcases hv with h1 | h1<;>rw[h1]<;>rfl) (k:=2) (cs:=wU (d16 (vO h (some ⟨b,o,none⟩) n*vO h (some ⟨b',o',none⟩) n'))) (ty:=tU) (ZaX _) (by kernel_rfl) r.w (by rfl) E0 (s:=ZdY b b') (Zdu hx h5 h6 hy k5 k6)
    rw[evals] at fin;exact fin
 ·cases hg
def hN2 (lo la:List Value):Hp:=⟨2,[(lo,tU),(la,tR)]⟩
def mNr (o n c z:Nat) (i v7 v8:Value):List Value:=[sl 0 o n c,Zn,undef,undef,Zn,sl 1 0 z z,i,v7,v8]
def zU (n:Nat):List Value:=List.replicate n (.int .u32 0)
theorem Z0i (n:Nat):zU n=wU (List.replicate n 0):=by unfold zU wU;simp
theorem ZiG:∀ n:Nat,Zi (List.replicate n 0)=0
 | 0=>rfl
 | n+1=>by
  rw[List.replicate_succ];simp only[Zi];rw[ZiG n];rfl
theorem Ztk (n:Nat):Zi (Zz (zU n) 0 n)=0:=by
 have h:=ZaV (List.replicate n 0);rw[List.length_replicate] at h;rw[Z0i,h,ZiG]
theorem Ztl {n:Nat}(h:n<1000000):ZaQ tU (zU n) 0 n n=true:=by
 have:=Zal (L:=List.replicate n 0) (fun x hx=>by rw[List.eq_of_mem_replicate hx];omega) (by simp;omega) (c:=n) (by simp only[List.length_replicate];exact Z4k (by omega));rw[List.length_replicate] at this;rw[Z0i];exact this
def zL (n:Nat):Int:=i64.wrap ((n:Int)+((0:Nat):Int))
def zR (n:Nat):Int:=i64.wrap (((0:Nat):Int)+(n:Int))
theorem Z59 {n:Nat}(h:n<1000000):zL n=(n:Int):=by unfold zL;rw[Zw (by omega) (by omega)];omega
theorem Z5A {n:Nat}(h:n<1000000):zR n=(n:Int):=by unfold zR;rw[Zw (by omega) (by omega)];omega
theorem Z0j (o n c:Nat) (la:List Value):Zg (evL (Zk prog Zf Zo hcV) 200 (ZyL f66) ([sl 0 o n c,Zn]++List.replicate 66 undef,⟨1,[(la,tR)]⟩,[at_]) ⟨[],[],[]⟩) 6 62 none [sl 0 o n c,Zn,undef,undef,Zn,sl 1 0 (zL n).toNat (zL n).toNat] (hN2 (zU (zL n).toNat) la) [(ZO 4 (zL n) (zL n),true)]:=by and_intros<;>kernel_rfl
theorem Z5B (o n c z:Nat) (i:Int) (v7 v8:Value) (lo la:List Value) (g:Nat→Value):Zg (evC (Zk prog Zf Zo hcV) 200 false (muO f66) (mNr o n c z (.int .i64 i) v7 v8++tl 59 g,hN2 lo la,[cmp true,cmp false,at_,at_]) ⟨[],[],[]⟩) 9 59 none (mNr o n c z (.int .i64 (i64.wrap (i+1))) (.int .u64 0) (.int .i64 0)) (hN2 (lo.set (0+(ijM i (0:Nat)).toNat*1) (.int .u32 0)) la) [stM lo (ijM i (0:Nat)),inM (ijM i (0:Nat)) z,(decide ((0:Int)<((0:Nat):Int)),false),(decide (i<(n:Int)),true)]:=by and_intros<;>kernel_rfl
theorem Z0k (o n c z:Nat) (i:Int) (v7 v8:Value) (lo la:List Value) (g:Nat→Value):Zg (evC (Zk prog Zf Zo hcV) 200 false (muO f66) (mNr o n c z (.int .i64 i) v7 v8++tl 59 g,hN2 lo la,[cmp false]) ⟨[],[],[]⟩) 9 59 (some (some 0)) (mNr o n c z (.int .i64 i) v7 v8) (hN2 lo la) [(decide (i<(n:Int)),false)]:=by and_intros<;>kernel_rfl
theorem Z0l (o n c z:Nat) (i v7 v8:Value) (lo la:List Value) (g:Nat→Value):Zg (evC (Zk prog Zf Zo hcV) 200 false (muE f66) (mNr o n c z i v7 v8++tl 59 g,hN2 lo la,[]) ⟨[],[],[]⟩) 5 63 (some none) [sl 0 o n c,Zn,undef,undef,sl 1 0 (Zi (Zz lo 0 z)) (Zi (Zz lo 0 z))] (hN2 lo la) [(ZaQ tU lo 0 z z,true)]:=by and_intros<;>kernel_rfl
theorem Z8O (o n c:Nat) (la:List Value):Zg (evC (Zk prog Zf Zo hcV) 200 false (Zs f66) ([Zn,sl 0 o n c]++List.replicate 66 undef,⟨1,[(la,tR)]⟩,[at_,cmp false]) ⟨[],[],[]⟩) 5 63 (some none) [Zn,sl 0 o n c,undef,undef,sl 1 0 (Zi (Zz (zU (zR n).toNat) 0 (zR n).toNat)) (Zi (Zz (zU (zR n).toNat) 0 (zR n).toNat))] (hN2 (zU (zR n).toNat) la) [(ZaQ tU (zU (zR n).toNat) 0 (zR n).toNat (zR n).toNat,true),(decide ((0:Int)<((0:Nat):Int)),false),(ZO 4 (zR n) (zR n),true)]:=by and_intros<;>kernel_rfl
theorem Z5C:Zg (evC (Zk prog Zf Zo hcV) 200 false (Zs f66) ([Zn,Zn]++List.replicate 66 undef,⟨0,[]⟩,[at_,cmp false]) ⟨[],[],[]⟩) 5 63 (some none) [Zn,Zn,undef,undef,sl 0 0 0 0] ⟨1,[([],tU)]⟩ [(ZaQ tU [] 0 0 0,true),(decide ((0:Int)<((0:Nat):Int)),false),(true,true)]:=by and_intros<;>kernel_rfl
theorem ZeV:f66.body=some (Zs f66):=by kernel_rfl
theorem Zve {la:List Value}{o n c:Nat}(hn:n<1000000):
  Runs (Zk prog Zf Zo hcV) (ZW (ZyL f66) (.seq (.seq (Z2 (muB f66)) (.block 0 (.loop (muO f66)))) (muE f66))) ([sl 0 o n c,Zn]++List.replicate 66 undef,⟨1,[(la,tR)]⟩,[]) fun e y=>(e=none∨e=some none)∧ZV prog f66 y.1 y.2.1=some (sl 1 0 0 0)∧y.2.1.blk? 1=some (zU n,tU):=by
 have hT:=Zh Zd Zy;have g0:=Z0j o n c la;rw[Z59 hn,Xg] at g0;refine Z3 hT g0 (Zu (by unfold ZO;exact Xa (by omega))) fun g=> ?_;refine Runs.seq (P1:=fun e' y=>e'=none∧∃ (i v7 v8:Value) (g:Nat→Value),y.1=mNr o n c n i v7 v8++tl 59 g∧y.2.1=hN2 (zU n) la) ?_ ?_ (fun e y he=>by cases he.1)
 ·refine Runs.next (Zc hT (Z0d (sl 0 o n c) Zn (sl 1 0 n n) _ g) (fun _ h=>by cases h)) fun g s=> ?_;refine (Runs.forLoop (R:=fun _=>False) (P:=fun y=>∃ (i v7 v8:Value) (g:Nat→Value),y.1=mNr o n c n i v7 v8++tl 59 g∧y.2.1=hN2 (zU n) la)
   (fun r y=>∃ (k:Nat) (v7 v8:Value) (g:Nat→Value),k+r=n∧y.1=mNr o n c n (.int .i64 (k:Int)) v7 v8++tl 59 g∧y.2.1=hN2 (zU n) la)
   ?_ (n:=n) ⟨0,_,_,g,by omega,rfl,rfl⟩).mono fun e' y he=> ?_
  ·rintro r ⟨t,h',s'⟩ ⟨k,v7,v8,g,hk,ht,hh⟩;simp only at ht hh;subst ht hh;cases r with
   | zero=>
    refine (Zc hT (Z0k o n c n k v7 v8 _ la g) (Zu (Xb (by omega)))).mono fun e' y he=> ?_;obtain⟨rfl,⟨g1,e2⟩,e3⟩:=he;exact⟨rfl,_,_,_,g1,e2,e3⟩
   | succ r=>
    have ei:ijM (k:Int) (0:Nat)=(k:Int):=by unfold ijM;rw[Zw (by omega) (by omega)];omega
    have g1:=Z5B o n c n k v7 v8 (zU n) la g;rw[ei] at g1;have es:(zU n).set (0+((k:Int)).toNat*1) (.int .u32 0)=zU n:=by
     unfold zU;rw[Xg,Nat.zero_add,Nat.mul_one,List.set_replicate_self]
    rw[es] at g1;refine (Zc hT g1 (Zj (by unfold stM zU;exact Xa (by simp;omega)) (Zj (by unfold inM;exact Xa (by omega)) (Zj (by decide) (Zu (Xa (by omega))))))).mono fun e' y he=> ?_;obtain⟨rfl,⟨g2,e2⟩,e3⟩:=he;refine⟨r,by omega,k+1,.int .u64 0,.int .i64 0,g2,by omega,?_,e3⟩;rw[e2,Zw (by omega) (by omega)];rfl
  ·match e',he with
   | none,he=>exact⟨rfl,he⟩
   | some none,he=>exact he.elim
   | some (some _),he=>exact he.elim
 ·rintro⟨t,h',s'⟩ ⟨_,i,v7,v8,g,ht,hh⟩;simp only at ht hh;subst ht hh;have g1:=Z0l o n c n i v7 v8 (zU n) la g;rw[Ztk] at g1;refine (Zc hT g1 (Zu (Ztl hn))).mono fun e' y he=> ?_;obtain⟨rfl,⟨g2,e2⟩,e3⟩:=he;refine⟨.inr rfl,?_,?_⟩
  ·rw[e2,e3];rfl
  ·rw[e3];rfl
def ZiH:Zae:=fun vals h s=>
 match vals,s with
 | [.slice p n c,.slice q n' c'],.inr (.inl V)::s'=>Zda V.toNat h s' [(decide (vO h p n*vO h q n'=V.toNat),true),(Zgg h p q n c n' c',true)]
 | _,_=>none
theorem Zkm:d16 0=[]:=zc 65536
theorem Zg9:Z6 66 ZiH:=by
 intro vals h s v h' s' lg hg hl m B w E hv;unfold ZiH at hg;split at hg
 ·rename_i p n c q n' c' V s2;unfold Zda at hg;cases hg;have l1:=Xc (hl _ Xe);have l3:=hl _ (Xd _ Xf);have l3':=l3;simp only[Zgg,Xh] at l3;obtain⟨⟨⟨q1,q2⟩,⟨p1,p2⟩⟩,q4⟩:=l3;have q4:=Zl.1 q4;rcases ZC q1 with ⟨rfl,rfl,rfl,e0⟩ | ⟨b,o,x,rfl,hx,r1,rs,e0⟩
  ·have hV:V.toNat=0:=by
    rw[← l1];unfold vO;rw[e0];simp [vb]
   rw[hV,Zkm];rcases ZC p1 with ⟨rfl,rfl,rfl,f0⟩ | ⟨b',o',y,rfl,hy,t1,ts,f0⟩
   ·have r:Runs (Zk prog Zf Zo hcV) (Zs f66) ([Zn,Zn]++List.replicate 66 undef,⟨0,[]⟩,[]) fun e z=>(e=none∨e=some none)∧ZV prog f66 z.1 z.2.1=some (sl 0 0 0 0)∧∃ r,z.2.1.blk? 0=some (wU []++r,tU):=by
     refine (Zc (Zh Zd Zy) Z5C (Zj (by kernel_rfl) (Zj (by decide) (Zu rfl)))).mono fun e z he=> ?_;obtain⟨rfl,⟨g,e1⟩,e2⟩:=he;exact⟨.inr rfl,by rw[e1,e2];rfl,[],by rw[e2];rfl⟩
    have:=ZI (T:=Zk prog Zf Zo hcV) func66 ZeV (h0:=⟨0,[]⟩) ⟨rfl,fun b x hx=>by have:b<0:=Hp.blk_lt hx;omega⟩ (vals:=[Zn,Zn]) (fun v hv=>by
     simp only[List.mem_cons,List.not_mem_nil,or_false] at hv;rcases hv with rfl | rfl<;>rfl) (k:=0) (cs:=wU []) (ty:=tU) (ZaX _) (by kernel_rfl) r.w (by rfl) E (s:=fun i=>i) (fun i x hx _=>by have:i<0:=Hp.blk_lt hx;omega)
    exact this
   ·obtain⟨b1,b2,b3,b4,b5,b6,b7⟩:=zj t1;have g0:=Z8O o' n' c' y.1;rw[Z5A (by omega),Xg,Ztk] at g0;have r:Runs (Zk prog Zf Zo hcV) (Zs f66) ([Zn,sl 0 o' n' c']++List.replicate 66 undef,⟨1,[(y.1,tR)]⟩,[]) fun e z=>(e=none∨e=some none)∧ZV prog f66 z.1 z.2.1=some (sl 1 0 0 0)∧∃ r,z.2.1.blk? 1=some (wU []++r,tU):=by
     refine (Zc (Zh Zd Zy) g0 (Zj (Ztl (by omega)) (Zj (by decide) (Zu (by unfold ZO;exact Xa (by omega)))))).mono fun e z he=> ?_;obtain⟨rfl,⟨g,e1⟩,e2⟩:=he;exact⟨.inr rfl,by rw[e1,e2];rfl,zU n',by rw[e2];rfl⟩
    have evals:List.map (rn fun _=>b') [Zn,sl 0 o' n' c']=[.slice none 0 0,.slice (some ⟨b',o',none⟩) n' c']:=by simp [rn,rn2,rn1,sl,Zn]
    have:=ZI (T:=Zk prog Zf Zo hcV) func66 ZeV (ZaH b7) (vals:=[Zn,sl 0 o' n' c']) (fun v hv=>by
     simp only[List.mem_cons,List.not_mem_nil,or_false] at hv;rcases hv with rfl | rfl<;>rfl) (k:=1) (cs:=wU []) (ty:=tU) (ZaX _) (by kernel_rfl) r.w (by rfl) E (s:=fun _=>b') (zS hy b5 b6 rfl)
    rw[evals] at this;exact this
  ·rcases ZC p1 with ⟨rfl,rfl,rfl,f0⟩ | ⟨b',o',y,rfl,hy,t1,ts,f0⟩
   ·have hV:V.toNat=0:=by
     rw[← l1];unfold vO;rw[f0];simp [vb]
    rw[hV,Zkm];obtain⟨b1,b2,b3,b4,b5,b6,b7⟩:=zj r1;have r:Runs (Zk prog Zf Zo hcV) (ZW (ZyL f66) (.seq (.seq (Z2 (muB f66)) (.block 0 (.loop (muO f66)))) (muE f66))) ([sl 0 o n c,Zn]++List.replicate 66 undef,⟨1,[(x.1,tR)]⟩,[]) fun e z=>(e=none∨e=some none)∧ZV prog f66 z.1 z.2.1=some (sl 1 0 0 0)∧∃ r,z.2.1.blk? 1=some (wU []++r,tU):=
     (Zve (by omega)).mono fun e z he=>⟨he.1,he.2.1,zU n,he.2.2⟩
    have evals:List.map (rn fun _=>b) [sl 0 o n c,Zn]=[.slice (some ⟨b,o,none⟩) n c,.slice none 0 0]:=by simp [rn,rn2,rn1,sl,Zn]
    have:=ZI (T:=Zk prog Zf Zo hcV) func66 Zg8 (ZaH b7) (vals:=[sl 0 o n c,Zn]) (fun v hv=>by
     simp only[List.mem_cons,List.not_mem_nil,or_false] at hv;rcases hv with rfl | rfl<;>rfl) (k:=1) (cs:=wU []) (ty:=tU) (ZaX _) (by kernel_rfl) r.w (by rfl) E (s:=fun _=>b) (zS hx b5 b6 rfl)
    rw[evals] at this;exact this
   ·rw[← l1];exact ZqJ _ h [] _ _ [] [(Zgg h (some ⟨b,o,none⟩) (some ⟨b',o',none⟩) n c n' c',true)] rfl (Z5 l3') m B w E hv
 ·cases hg
end Go.Proofs.YtgefjidphfdhdaaGreatDoor
namespace Go.Proofs.YtgefjidphfdhdaaGreatDoor.Na
open Go.KRun Go.Nt
set_option maxRecDepth 100000
set_option linter.unusedVariables false
def Z0m:Zae:=fun vals h s=>
 match vals,s with
 | [.slice p n c,.slice q n' c'],.inr (.inr (.inr (.inl true)))::s'=>some (.tuple #[Zn,.nilIface],h,s',[(decide (n=0∨n'=0),true)])
 | [.slice p n c,.slice q n' c'],.inr (.inr (.inr (.inl false))):: .inr (.inl V)::s'=>some (.tuple #[sl h.n 0 (Zi (dg (n+n') V)) (n+n'),.nilIface],h.push (wU (dg (n+n') V)) tU,s',[(decide (Zh8 (Zm h p n) (Zm h q n')=dg (n+n') V),true),(Zaf h p n c,true),(Zaf h q n' c',true),(!decide (n=0∨n'=0) && Nat.ble (n+n') 8192,true)])
 | _,_=>none
theorem ZhC:Z6 127 Z0m:=by
 intro vals h s v h' s' lg hg hl;unfold Z0m at hg;split at hg
 ·cases hg;exact Zm4 _ h [cmp true] _ _ [] _ rfl hl
 ·rename_i p n c q n' c' V s3;cases hg;obtain⟨l1,l2⟩:=Ztd hl;have l1:=Xc l1;refine Zm4 _ h [cmp false] _ _ [] _ ?_ l2;simp only[Z51,l1]
 ·cases hg
end Go.Proofs.YtgefjidphfdhdaaGreatDoor.Na
namespace Go.Proofs.YtgefjidphfdhdaaGreatDoor.Na
open Go.Proofs.Tryz
open Go.IntKind
open Go.KRun Go.Nt
set_option maxRecDepth 100000
set_option linter.unusedVariables false
def h5 (la lb R Y Q:List Value):Hp:=⟨5,[(Q,tU),(Y,tU),(R,tU),(lb,tR),(la,tR)]⟩
def toT (k x d:Int):Int:=u64.wrap (k+u64.wrap (u64.wrap x*u64.wrap d))
def toW (k x d:Int):Int:=u32.wrap (toT k x d)
def toC (k x d:Int):Int:=(toT k x d).fdiv (2^min (Int.toNat 32) 64)
def toP (F:Func):List Code:=[Z2 (sn 0 F),Z2 (sn 1 F),Z2 (sn 2 F),Z2 (sn 3 F),Z2 (sn 4 F)]
def toB (F:Func):Code:=Z2 (sn 5 F)
def toL (F:Func):Code:=cIn (cIn (Z0 (toB F)))
def toF (o m c n k:Nat) (d cy b:Int) (v11 v12:Value):List Value:=[sl 2 o m c,sl 3 0 n k,uu d,undef,undef,undef,.bool false,i6' n,sl 2 o n c,.int .u64 cy,uu b,v11,v12]
theorem Zen:f208.body=some (ZW (toP f208) (.seq (.seq (Z2 (toB f208)) (.block 0 (.loop (toL f208)))) (sn 6 f208))):=by kernel_rfl
theorem Z0n (o m c n k:Nat) (d:Int) (la lb R Y Q:List Value):Zg (evL (Zq prog Zf Ziz true) 100 (toP f208) ([sl 2 o m c,sl 3 0 n k,uu d]++List.replicate 62 undef,h5 la lb R Y Q,[num 0]) ⟨[],[],[]⟩) 13 52 none (toF o m c n k d 0 0 undef undef) (h5 la lb R Y Q) [(ZG c,true),(ze 0 n c c,true),(decide ((c:Int)=0∧(0:Int)≠0),false)]:=by and_intros<;>kernel_rfl
theorem Z8P (o m c n k:Nat) (d cy b:Int) (v11 v12:Value) (h:Hp) (g:Nat→Value):Zgx (evC (Zq prog Zf Ziz true) 100 false (Z2 (toB f208)) (toF o m c n k d cy b v11 v12++tl 52 g,h,[]) ⟨[],[],[]⟩) 13 5 3 44 none (toF o m c n k d cy b v11 v12) [sl 3 0 n k,i6' n,i6' 0] h []:=by and_intros<;>kernel_rfl
theorem Z0o (o m c n k:Nat) (d cy b j:Int) (v11 v12:Value) (h:Hp) (g g':Nat→Value):Zgx (evC (Zq prog Zf Ziz true) 100 false (toL f208) (ml (toF o m c n k d cy b v11 v12) 5 g [sl 3 0 n k,i6' n,i6' j] 44 g',h,[cmp false]) ⟨[],[],[]⟩) 13 5 3 44 (some (some 0)) (toF o m c n k d cy b v11 v12) [sl 3 0 n k,i6' n,i6' j] h [(decide (j<n),false)]:=by and_intros<;>kernel_rfl
theorem Z5D (o m c n k:Nat) (d cy b j x y:Int) (v11 v12:Value) (la lb R Y Q:List Value) (g g':Nat→Value):Zgx (evC (Zq prog Zf Ziz true) 100 false (toL f208) (ml (toF o m c n k d cy b v11 v12) 5 g [sl 3 0 n k,i6' n,i6' j] 44 g',h5 la lb R Y Q,[cmp true,at_,val (uu x),at_,val (uu y),at_,at_]) ⟨[],[],[]⟩) 13 5 3 44 none (toF o m c n k d (toC cy x d) (ZjN y (toW cy x d) b) (i6' j) (uu x)) [sl 3 0 n k,i6' n,i6' (i64.wrap (j+1))] (h5 la lb (R.set (o+j.toNat*1) (uu (Zgy y (toW cy x d) b))) Y Q)
  [(decide ((32:Int)<0),false),(decide (o+j.toNat*1<R.length),true),inR j n,(wd4 y (toW cy x d) b,true),ZcP R o j y,inR j n,ZcP Y 0 j x,inR j n,(decide (j<n),true)]:=by and_intros<;>kernel_rfl
theorem Z0p (e:Bool) (o m c n k:Nat) (d cy b y:Int) (v11 v12 u1 u2 u3:Value) (la lb R Y Q:List Value) (g g':Nat→Value):Zg (evC (Zq prog Zf Ziz true) 100 false (sn 6 f208) (ml (toF o m c n k d cy b v11 v12) 5 g [u1,u2,u3] 44 g',h5 la lb R Y Q,[at_,val (uu y),at_,at_,cmp e]) ⟨[],[],[]⟩) 7 58 (some none) [sl 2 o m c,sl 3 0 n k,uu d,undef,undef,undef,.bool e] (h5 la lb (R.set (o+((n:Int)).toNat*1) (uu (Zgy y (u32.wrap cy) b))) Y Q)
  [(ZjN y (u32.wrap cy) b !=0,e),(decide (o+((n:Int)).toNat*1<R.length),true),inR n m,(wd4 y (u32.wrap cy) b,true),ZcP R o n y,inR n m]:=by
 cases e<;>exact by and_intros<;>kernel_rfl
end Go.Proofs.YtgefjidphfdhdaaGreatDoor.Na
namespace Go.Nt
theorem Zvf {P a b x y k br d e l A B D W:Int}(hk:k+x*d=W+4294967296*e) (hs:y-W-br=D-4294967296*l) (h:a+P*((y+4294967296*A)-d*(x+4294967296*B)-k-br)=b):a+P*D+4294967296*P*(A-d*B-e-l)=b:=by
 rw[← h];have e1:(y+4294967296*A)-d*(x+4294967296*B)-k-br=D+4294967296*(A-d*B-e-l):=by
  rw[Int.mul_add d x,← Int.mul_assoc d 4294967296 B,Int.mul_comm d 4294967296,Int.mul_assoc 4294967296 d B,Int.mul_comm d x];omega
 rw[e1];generalize A-d*B-e-l=Z;rw[Int.mul_add P D,← Int.mul_assoc P 4294967296 Z,Int.mul_comm P 4294967296];omega
theorem Zvg {P a b x y br e A B D:Int}(hs:y+x+br=D+4294967296*e) (h:a+P*((y+4294967296*A)+(x+4294967296*B)+br)=b):a+P*D+4294967296*P*(A+B+e)=b:=by
 rw[← h];have e1:(y+4294967296*A)+(x+4294967296*B)+br=D+4294967296*(A+B+e):=by omega
 rw[e1];generalize A+B+e=Z;rw[Int.mul_add P D,← Int.mul_assoc P 4294967296 Z,Int.mul_comm P 4294967296];omega
theorem ZgA {dx:List Int}{D l V:Int}(hd:wds dx) (hD:0≤D∧D<4294967296) (h:vN dx+4294967296^dx.length*(D+4294967296*l)=V):dx++[D]=dg (dx.length+1) V∧V/4294967296^(dx.length+1)=l:=by
 have hw:wds (dx++[D]):=Zas hd (fun x hx=>by rw[List.mem_singleton.1 hx];exact hD);have hv:vN (dx++[D])+4294967296^(dx.length+1)*l=V:=by
  rw[z8,← h,pw,Int.mul_add,← Int.mul_assoc,Int.mul_comm (4294967296^dx.length) 4294967296];omega
 have hl:(dx++[D]).length=dx.length+1:=by simp
 have hb:=Zbe (dx++[D]) hw;rw[hl] at hb;constructor
 ·rw[← hv,Zdw,← hl];exact (Zhz _ hw).symm
 ·rw[← hv,Int.add_mul_ediv_left _ _ (by have:=ZaI (dx.length+1);omega),Int.ediv_eq_zero_of_lt hb.1 hb.2,Int.zero_add]
theorem Zvh {V Q l:Int}(hQ:0<Q) (h:V/Q=l):V<0↔l<0:=by
 subst h;constructor
 ·intro hv;exact Int.ediv_lt_of_lt_mul hQ (by omega)
 ·intro hl;refine Decidable.byContradiction fun hn=> ?_;have:=Int.ediv_nonneg (a:=V) (b:=Q) (by omega) (by omega);omega
end Go.Nt
namespace Go.Proofs.YtgefjidphfdhdaaGreatDoor.Na
open Go.Proofs.Tryz
open Go.IntKind
open Go.KRun Go.Nt
set_option maxRecDepth 100000
set_option linter.unusedVariables false
theorem Zvi {k x d:Int}(hk:0≤k∧k<4294967296) (hx:0≤x∧x<4294967296) (hd:0≤d∧d<4294967296):
  (0≤toW k x d∧toW k x d<4294967296)∧(0≤toC k x d∧toC k x d<4294967296)∧k+x*d=toW k x d+4294967296*toC k x d:=by
 have hxy:=ZzQ hx hd;have e:toT k x d=k+x*d:=by
  unfold toT;simp only[Zd1];rw[Int.emod_eq_of_lt hx.1 (by omega),Int.emod_eq_of_lt hd.1 (by omega),Int.emod_eq_of_lt hxy.1 (by omega),Int.emod_eq_of_lt (by omega) (by omega)]
 unfold toW toC;rw[e,Zhj,show ((2:Int)^min (Int.toNat 32) 64)=4294967296 from by decide,Int.fdiv_eq_ediv_of_nonneg _ (by omega)];generalize x*d=W at*;omega
theorem ZiI {x y c:Int}(hx:0≤x∧x<4294967296) (hy:0≤y∧y<4294967296) (hc:0≤c∧c≤1):wd4 x y c=true:=by
 unfold wd4;simp only[Xi];omega
theorem ZhD {F G la lb Y Q:List Value}{o c k:Nat}{M LB:List Int}{d:Int}(hF:F.length=o) (hM:wds M) (RB:Row Y 0 LB) (hl:M.length=LB.length+1) (hN:M.length<1099511627776) (hd:0≤d∧d<4294967296) (hc:M.length≤c) (hs:ZG c=true) (e:Bool) (he:decide (vN M-d*vN LB<0)=e):
  Runs (Zq prog Zf Ziz true) (ZW (toP f208) (.seq (.seq (Z2 (toB f208)) (.block 0 (.loop (toL f208)))) (sn 6 f208))) ([sl 2 o M.length c,sl 3 0 LB.length k,uu d]++List.replicate 62 undef,h5 la lb (F++(wU M++G)) Y Q,[]) fun e' y=>(e'=none∨e'=some none)∧ZV prog f208 y.1 y.2.1=some (.bool e)∧y.2.1.cut 5=h5 la lb (F++(wU (dg M.length (vN M-d*vN LB))++G)) Y Q:=by
 have hwB:=RB.rng;have hcs:c<4611686018427387904:=Zl.1 hs;have hT:=Zp ZcX;refine Z3 hT (Z0n o M.length c LB.length k d la lb _ Y Q) (Zj hs (Zj (by unfold ze;exact Xa (by omega)) (Zu (Xb (by omega))))) fun g=> ?_;refine Runs.seq (P1:=fun e' y=>e'=none∧∃ (dx:List Int) (t cy b:Int) (v11 v12 u1 u2 u3:Value) (g g':Nat→Value),dx.length=LB.length∧wds dx∧(0≤t∧t<4294967296)∧(0≤cy∧cy<4294967296)∧(0≤b∧b≤1)∧y.1=ml (toF o M.length c LB.length k d cy b v11 v12) 5 g [u1,u2,u3] 44 g'∧y.2.1=h5 la lb (F++(wU (dx++t::[])++G)) Y Q∧vN dx+4294967296^dx.length*(t-cy-b)=vN M-d*vN LB) ?_ ?_ (fun e y he=>by cases he.1)
 ·refine Runs.seq (P1:=fun e' y=>e'=none∧(∃ g g',y.1=ml (toF o M.length c LB.length k d 0 0 undef undef) 5 g [sl 3 0 LB.length k,i6' LB.length,i6' 0] 44 g')∧y.2.1=h5 la lb (F++(wU M++G)) Y Q) (ZaA hT (Z8P o M.length c LB.length k d 0 0 undef undef _ g) (fun x hx=>by cases hx)) ?_ (fun e y he=>by cases he.1);rintro⟨t,h',s'⟩ ⟨_,⟨g1,g2,ht⟩,hh⟩;simp only at ht hh;subst ht hh;refine (Runs.forLoop (R:=fun _=>False) (P:=fun y=>∃ (dx:List Int) (t cy b:Int) (v11 v12 u1 u2 u3:Value) (g g':Nat→Value),dx.length=LB.length∧wds dx∧(0≤t∧t<4294967296)∧(0≤cy∧cy<4294967296)∧(0≤b∧b≤1)∧y.1=ml (toF o M.length c LB.length k d cy b v11 v12) 5 g [u1,u2,u3] 44 g'∧y.2.1=h5 la lb (F++(wU (dx++t::[])++G)) Y Q∧vN dx+4294967296^dx.length*(t-cy-b)=vN M-d*vN LB)
   (fun r y=>∃ (dx px bx:List Int) (cy b:Int) (v11 v12:Value) (g g':Nat→Value),px.length=r+1∧dx.length+px.length=M.length∧wds dx∧wds px∧bx=LB.drop dx.length∧(0≤cy∧cy<4294967296)∧(0≤b∧b≤1)∧y.1=ml (toF o M.length c LB.length k d cy b v11 v12) 5 g [sl 3 0 LB.length k,i6' LB.length,i6' dx.length] 44 g'∧y.2.1=h5 la lb (F++(wU (dx++px)++G)) Y Q∧vN dx+4294967296^dx.length*(vN px-d*vN bx-cy-b)=vN M-d*vN LB)
   ?_ (n:=LB.length) ⟨[],M,LB,0,0,undef,undef,g1,g2,by omega,by simp,(fun x hx=>by cases hx),hM,rfl,by omega,by omega,rfl,rfl,by simp [vN]⟩).mono fun e' y he=> ?_
  ·rintro r ⟨t,h',s'⟩ ⟨dx,px,bx,cy,b,v11,v12,g,g',hr,hlen,wd1,wd2,hb,hcy,hbb,ht,hh,hv⟩;simp only at ht hh;subst ht hh;cases r with
   | zero=>
    have hl':dx.length=LB.length:=by omega
    match px,hr,wd2,hv with
    | [t],hr,wd2,hv=>
     refine (ZaA hT (Z0o o M.length c LB.length k d cy b dx.length v11 v12 _ g g') (Zu (Xb (by omega)))).mono fun e' y he=> ?_;obtain⟨rfl,⟨g1,g2,e2⟩,e3⟩:=he;have hbx:bx=[]:=by rw[hb,List.drop_eq_nil_of_le (by omega)]
     subst hbx;refine⟨rfl,dx,t,cy,b,v11,v12,_,_,_,g1,g2,hl',wd1,wd2 t Xf,hcy,hbb,e2,e3,?_⟩;simpa [vN] using hv
   | succ r=>
    match px,hr,hlen,wd2,hv with
    | y::px,hr,hlen,wd2,hv=>
     obtain⟨wy,wd2⟩:=Zax wd2;have hl':dx.length<LB.length:=by simp at hlen hr;omega
     have hx:=RB.cell (k:=dx.length) (by omega);have hxr:=hwB (LB.getD dx.length 0) (by simp [List.getD,List.getElem?_eq_getElem hl']);have hbx:bx=LB.getD dx.length 0::LB.drop (dx.length+1):=by
      rw[hb,List.drop_eq_getElem_cons hl'];simp [List.getD,List.getElem?_eq_getElem hl']
     generalize LB.getD dx.length 0=x at*;obtain⟨k1,k2,k3⟩:=Zvi hcy hxr hd;obtain⟨s1,s2,s3⟩:=Zg0 wy k1 hbb;have cS:=Zel hF dx y px G;have lS:o+dx.length<(F++(wU (dx++y::px)++G)).length:=(List.getElem?_eq_some_iff.1 cS).1;have l1:decide (o+((dx.length:Int)).toNat*1<(F++(wU (dx++y::px)++G)).length)=true:=by
      rw[Xg,Nat.mul_one];exact Xa lS
     have l2:(inR dx.length LB.length).1=(inR dx.length LB.length).2:=Xa (by omega);refine (ZaA hT (Z5D o M.length c LB.length k d cy b dx.length x y v11 v12 la lb _ Y Q g g') (Zj (by decide) (Zj l1 (Zj l2 (Zj (ZiI wy k1 hbb) (Zj (Za2 cS) (Zj l2 (Zj (Za2 hx) (Zj l2 (Zu (Xa (by omega)))))))))))).mono fun e' z he=> ?_;obtain⟨rfl,⟨g1,g2,e2⟩,e3⟩:=he;refine⟨r,by omega,dx++[Zgy y (toW cy x d) b],px,LB.drop (dx.length+1),toC cy x d,ZjN y (toW cy x d) b,i6' dx.length,uu x,g1,g2,by simp at hr;omega,by simp at hlen ⊢;omega,Zas wd1 (fun u hu=>by rw[List.mem_singleton.1 hu];exact s1),wd2,by simp,k2,s2,?_,?_,?_⟩
     ·rw[e2,Zw (by omega) (by omega)];simp
     ·rw[e3,Xg,Nat.mul_one,Zem hF]
     ·rw[hbx] at hv;simp only[vN] at hv;rw[z8,List.length_append,List.length_singleton,pw];exact Zvf k3 s3 hv
  ·match e',he with
   | none,he=>exact⟨rfl,he⟩
   | some none,he=>exact he.elim
   | some (some _),he=>exact he.elim
 ·rintro⟨t,h',s'⟩ ⟨_,dx,tw,cy,b,v11,v12,u1,u2,u3,g,g',hdl,wd1,wt,hcy,hbb,ht,hh,hv⟩;simp only at ht hh;subst ht hh;have ew:u32.wrap cy=cy:=by rw[Zhj,Int.emod_eq_of_lt hcy.1 hcy.2]
  obtain⟨s1,s2,s3⟩:=Zg0 wt hcy hbb;have cS:=Zel hF dx tw [] G;have lS:o+dx.length<(F++(wU (dx++tw::[])++G)).length:=(List.getElem?_eq_some_iff.1 cS).1;obtain⟨f1,f2⟩:=ZgA (l:= - ZjN tw cy b) (V:=vN M-d*vN LB) wd1 s1 (by rw[← hv,s3];congr 2;omega);have hn:=Zvh (ZaI (dx.length+1)) f2;have g0:=Z0p e o M.length c LB.length k d cy b tw v11 v12 u1 u2 u3 la lb (F++(wU (dx++tw::[])++G)) Y Q g g';rw[ew,← hdl,Xg,Nat.mul_one,Zem hF] at g0;have l0:(ZjN tw cy b !=0)=e:=by
   rw[← he];by_cases hneg:vN M-d*vN LB<0
   ·rw[Xa hneg];have:=hn.1 hneg;exact bne_iff_ne.2 (by omega)
   ·rw[Xb hneg];have:ZjN tw cy b=0:=Decidable.byContradiction fun h0=>hneg (hn.2 (by omega));rw[this];rfl
  have l2:(inR dx.length M.length).1=(inR dx.length M.length).2:=Xa (by omega);rw[← hdl];refine (Zc hT g0 (Zj l0 (Zj (Xa lS) (Zj l2 (Zj (ZiI wt hcy hbb) (Zj (Za2 cS) (Zu l2))))))).mono fun e' y he=> ?_;obtain⟨rfl,⟨g1,e2⟩,e3⟩:=he;refine⟨.inr rfl,?_,?_⟩
  ·rw[e2,e3];rfl
  ·rw[e3,hl,← hdl,← f1,List.append_nil];rfl
def Zeo (la lb R Y Q:List Value) (t0 t1 t2 t3 t4:TypeId) (o m c n k:Nat):Bool:=Nat.beq t0 tR && Nat.beq t1 tR && Nat.beq t2 tU && Nat.beq t3 tU && Nat.beq t4 tU && Z8 tU R o m c && Z8 tU Y 0 n k && Nat.beq m (n+1) && Nat.blt m 1099511627776 && la.all still && lb.all still && Q.all still
theorem Zf8 {la lb R Y Q:List Value}{t0 t1 t2 t3 t4:TypeId}{o m c n k:Nat}(q:Zeo la lb R Y Q t0 t1 t2 t3 t4 o m c n k=true):t0=tR∧t1=tR∧t2=tU∧t3=tU∧t4=tU∧Z8 tU R o m c=true∧Z8 tU Y 0 n k=true∧m=n+1∧m<1099511627776∧la.all still=true∧lb.all still=true∧Q.all still=true:=by
 unfold Zeo at q;simp only[Xh] at q;obtain⟨⟨⟨⟨⟨⟨⟨⟨⟨⟨⟨q0,q1⟩,q2⟩,q3⟩,q4⟩,ra⟩,rb⟩,qn⟩,qN⟩,s0⟩,s1⟩,s2⟩:=q;exact⟨Xj q0,Xj q1,Xj q2,Xj q3,Xj q4,ra,rb,Xj qn,Zl.1 qN,s0,s1,s2⟩
theorem ZaM {R:List Value}{o m c:Nat}(ra:Z8 tU R o m c=true):R=R.take o++(wU (Zz R o m)++R.drop (o+m))∧(R.take o).length=o:=by
 obtain⟨a1,a2,a3,a4,a5,a6,a7⟩:=ZH ra;constructor
 ·have h1:=a1.cut;rw[a2] at h1;rw[← h1];unfold ZbR;rw[← List.drop_drop,List.take_append_drop,List.take_append_drop]
 ·have:=a1.len;simp;omega
theorem ZmF {la lb R Y Q:List Value}{o m c n k:Nat}{L:List Int}(ra:Z8 tU R o m c=true) (rb:Z8 tU Y 0 n k=true) (s0:la.all still=true) (s1:lb.all still=true) (s2:Q.all still=true):(h5 la lb (tmS R o m L) Y Q).tight=true:=by
 obtain⟨a1,a2,a3,a4,a5,a6,a7⟩:=ZH ra;obtain⟨b1,b2,b3,b4,b5,b6,b7⟩:=ZH rb;unfold Hp.tight tmS h5;simp only[List.all_cons,List.all_nil,List.all_append,Bool.and_true,Xh];refine⟨zD (by omega) s2,zD (by omega) (List.all_eq_true.2 b7),⟨?_,Zc9 _ _,?_⟩,zD (by omega) s1,zD (by omega) s0⟩
 ·rw[List.all_eq_true];exact fun v hv=>zv (by omega) (a7 v (List.mem_of_mem_take hv))
 ·rw[List.all_eq_true];exact fun v hv=>zv (by omega) (a7 v (List.mem_of_mem_drop hv))
def Z5E:Zae:=fun vals h s=>
 match vals,h,s with
 | [.slice (some ⟨2,o,none⟩) m c,.slice (some ⟨3,0,none⟩) n k,.int .u32 d],⟨5,[(Q,t4),(Y,t3),(R,t2),(lb,t1),(la,t0)]⟩,.inr (.inr (.inr (.inl e)))::s'=>some (.bool e,h5 la lb (tmS R o m (dg m (vN (Zz R o m)-d*vN (Zz Y 0 n)))) Y Q,s',[(Zeo la lb R Y Q t0 t1 t2 t3 t4 o m c n k && decide (0≤d∧d<4294967296),true),(decide (vN (Zz R o m)-d*vN (Zz Y 0 n)<0),e)])
 | _,_,_=>none
theorem Zvj:Z6 208 Z5E:=by
 intro vals h s v h' s' lg hg hl m B w E hv;unfold Z5E at hg;split at hg
 ·rename_i o mm c n k d Q t4 Y t3 R t2 lb t1 la t0 e s2;cases hg;have l1:=hl _ Xe;have l2:=hl _ (Xd _ Xf);simp only[Xh,Xi] at l1 l2;obtain⟨l1,hd⟩:=l1;obtain⟨q0,q1,q2,q3,q4,ra,rb,qn,qN,st0,st1,st2⟩:=Zf8 l1;subst q0 q1 q2 q3 q4;obtain⟨a1,a2,a3,a4,a5,a6,a7⟩:=ZH ra;obtain⟨b1,b2,b3,b4,b5,b6,b7⟩:=ZH rb;obtain⟨eS,hF⟩:=ZaM ra;have r:=ZhD (G:=R.drop (o+mm)) (la:=la) (lb:=lb) (Q:=Q) (c:=c) (k:=k) hF a1.rng b1 (by rw[a2,b2];exact qn) (by rw[a2];exact qN) hd (by rw[a2];exact a3) a4 e l2;rw[a2,b2,← eS] at r;exact zi (T:=Zq prog Zf Ziz true) func208 Zen (vals:=[sl 2 o mm c,sl 3 0 n k,uu d]) (v:= .bool e) (h:=h5 la lb R Y Q) (by rfl) (ZmF ra rb st0 st1 st2) r m B w E hv
 ·cases hg
def pbP (F:Func):List Code:=[Z2 (sn 0 F),Z2 (sn 1 F)]
def pbB (F:Func):Code:=Z2 (sn 2 F)
def pbL (F:Func):Code:=cIn (cIn (Z0 (pbB F)))
def pbF (o m c n k:Nat) (b:Int) (v6 v7 u1 u2 u3:Value):List Value:=[sl 2 o m c,sl 3 0 n k,undef,undef,.bool false,uu b,v6,v7,u1,u2,u3]
def adD (x y c:Int):Int:=(x+y+c) % 4294967296
def adC (x y c:Int):Int:=(x+y+c)/4294967296
theorem Zvk:f209.body=some (ZW (pbP f209) (.seq (.seq (Z2 (pbB f209)) (.block 0 (.loop (pbL f209)))) (sn 3 f209))):=by kernel_rfl
theorem Z0q (o m c n k:Nat) (h:Hp):Zg (evL (Zq prog Zf Zh0 true) 100 (pbP f209) ([sl 2 o m c,sl 3 0 n k]++List.replicate 43 undef,h,[]) ⟨[],[],[]⟩) 11 34 none (pbF o m c n k 0 undef undef undef undef undef) h []:=by and_intros<;>kernel_rfl
theorem Z8Q (o m c n k:Nat) (b:Int) (v6 v7 u1 u2 u3:Value) (h:Hp) (g:Nat→Value):Zg (evC (Zq prog Zf Zh0 true) 100 false (Z2 (pbB f209)) (pbF o m c n k b v6 v7 u1 u2 u3++tl 34 g,h,[]) ⟨[],[],[]⟩) 11 34 none (pbF o m c n k b v6 v7 (sl 3 0 n k) (i6' n) (i6' 0)) h []:=by and_intros<;>kernel_rfl
theorem Z0r (o m c n k:Nat) (b j:Int) (v6 v7:Value) (h:Hp) (g:Nat→Value):Zg (evC (Zq prog Zf Zh0 true) 100 false (pbL f209) (pbF o m c n k b v6 v7 (sl 3 0 n k) (i6' n) (i6' j)++tl 34 g,h,[cmp false]) ⟨[],[],[]⟩) 11 34 (some (some 0)) (pbF o m c n k b v6 v7 (sl 3 0 n k) (i6' n) (i6' j)) h [(decide (j<n),false)]:=by and_intros<;>kernel_rfl
theorem Z5F (o m c n k:Nat) (b j x y:Int) (v6 v7:Value) (la lb R Y Q:List Value) (g:Nat→Value):Zg (evC (Zq prog Zf Zh0 true) 100 false (pbL f209) (pbF o m c n k b v6 v7 (sl 3 0 n k) (i6' n) (i6' j)++tl 34 g,h5 la lb R Y Q,[cmp true,at_,val (uu x),at_,val (uu y),at_,at_]) ⟨[],[],[]⟩) 11 34 none (pbF o m c n k (adC y x b) (i6' j) (uu x) (sl 3 0 n k) (i6' n) (i6' (i64.wrap (j+1)))) (h5 la lb (R.set (o+j.toNat*1) (uu (adD y x b))) Y Q)
  [(decide (o+j.toNat*1<R.length),true),inR j m,(wd4 y x b,true),ZcP R o j y,inR j m,ZcP Y 0 j x,inR j n,(decide (j<n),true)]:=by and_intros<;>kernel_rfl
theorem Z0s (e:Bool) (o m c n k:Nat) (b y:Int) (v6 v7 u1 u2 u3:Value) (la lb R Y Q:List Value) (g:Nat→Value):Zg (evC (Zq prog Zf Zh0 true) 100 false (sn 3 f209) (pbF o m c n k b v6 v7 u1 u2 u3++tl 34 g,h5 la lb R Y Q,[at_,val (uu y),at_,at_,cmp e]) ⟨[],[],[]⟩) 5 40 (some none) [sl 2 o m c,sl 3 0 n k,undef,undef,.bool e] (h5 la lb (R.set (o+((n:Int)).toNat*1) (uu (adD y 0 b))) Y Q)
  [(adC y 0 b !=0,e),(decide (o+((n:Int)).toNat*1<R.length),true),inR n m,(wd4 y 0 b,true),ZcP R o n y,inR n m]:=by
 cases e<;>exact by and_intros<;>kernel_rfl
theorem ZgB {x y c:Int}(hx:0≤x∧x<4294967296) (hy:0≤y∧y<4294967296) (hc:0≤c∧c≤1):(0≤adD x y c∧adD x y c<4294967296)∧(0≤adC x y c∧adC x y c≤1)∧x+y+c=adD x y c+4294967296*adC x y c:=by
 unfold adD adC;omega
theorem Zvl {F G la lb Y Q:List Value}{o c k:Nat}{M LB:List Int}(hF:F.length=o) (hM:wds M) (RB:Row Y 0 LB) (hl:M.length=LB.length+1) (hN:M.length<1099511627776) (e:Bool) (he:decide (4294967296^M.length≤vN M+vN LB)=e):
  Runs (Zq prog Zf Zh0 true) (ZW (pbP f209) (.seq (.seq (Z2 (pbB f209)) (.block 0 (.loop (pbL f209)))) (sn 3 f209))) ([sl 2 o M.length c,sl 3 0 LB.length k]++List.replicate 43 undef,h5 la lb (F++(wU M++G)) Y Q,[]) fun e' y=>(e'=none∨e'=some none)∧ZV prog f209 y.1 y.2.1=some (.bool e)∧y.2.1.cut 5=h5 la lb (F++(wU (dg M.length (vN M+vN LB))++G)) Y Q:=by
 have hwB:=RB.rng;have hT:=Zp Zcj;refine Z3 hT (Z0q o M.length c LB.length k _) (fun x hx=>by cases hx) fun g=> ?_;refine Runs.seq (P1:=fun e' y=>e'=none∧∃ (dx:List Int) (t b:Int) (v6 v7 u1 u2 u3:Value) (g:Nat→Value),dx.length=LB.length∧wds dx∧(0≤t∧t<4294967296)∧(0≤b∧b≤1)∧y.1=pbF o M.length c LB.length k b v6 v7 u1 u2 u3++tl 34 g∧y.2.1=h5 la lb (F++(wU (dx++t::[])++G)) Y Q∧vN dx+4294967296^dx.length*(t+b)=vN M+vN LB) ?_ ?_ (fun e y he=>by cases he.1)
 ·refine Runs.seq (P1:=fun e' y=>e'=none∧(∃ g,y.1=pbF o M.length c LB.length k 0 undef undef (sl 3 0 LB.length k) (i6' LB.length) (i6' 0)++tl 34 g)∧y.2.1=h5 la lb (F++(wU M++G)) Y Q) (Zc hT (Z8Q o M.length c LB.length k 0 undef undef undef undef undef _ g) (fun x hx=>by cases hx)) ?_ (fun e y he=>by cases he.1);rintro⟨t,h',s'⟩ ⟨_,⟨g1,ht⟩,hh⟩;simp only at ht hh;subst ht hh;refine (Runs.forLoop (R:=fun _=>False) (P:=fun y=>∃ (dx:List Int) (t b:Int) (v6 v7 u1 u2 u3:Value) (g:Nat→Value),dx.length=LB.length∧wds dx∧(0≤t∧t<4294967296)∧(0≤b∧b≤1)∧y.1=pbF o M.length c LB.length k b v6 v7 u1 u2 u3++tl 34 g∧y.2.1=h5 la lb (F++(wU (dx++t::[])++G)) Y Q∧vN dx+4294967296^dx.length*(t+b)=vN M+vN LB)
   (fun r y=>∃ (dx px bx:List Int) (b:Int) (v6 v7:Value) (g:Nat→Value),px.length=r+1∧dx.length+px.length=M.length∧wds dx∧wds px∧bx=LB.drop dx.length∧(0≤b∧b≤1)∧y.1=pbF o M.length c LB.length k b v6 v7 (sl 3 0 LB.length k) (i6' LB.length) (i6' dx.length)++tl 34 g∧y.2.1=h5 la lb (F++(wU (dx++px)++G)) Y Q∧vN dx+4294967296^dx.length*(vN px+vN bx+b)=vN M+vN LB)
   ?_ (n:=LB.length) ⟨[],M,LB,0,undef,undef,g1,by omega,by simp,(fun x hx=>by cases hx),hM,rfl,by omega,rfl,rfl,by simp [vN]⟩).mono fun e' y he=> ?_
  ·rintro r ⟨t,h',s'⟩ ⟨dx,px,bx,b,v6,v7,g,hr,hlen,wd1,wd2,hb,hbb,ht,hh,hv⟩;simp only at ht hh;subst ht hh;cases r with
   | zero=>
    have hl':dx.length=LB.length:=by omega
    match px,hr,wd2,hv with
    | [t],hr,wd2,hv=>
     refine (Zc hT (Z0r o M.length c LB.length k b dx.length v6 v7 _ g) (Zu (Xb (by omega)))).mono fun e' y he=> ?_;obtain⟨rfl,⟨g1,e2⟩,e3⟩:=he;have hbx:bx=[]:=by rw[hb,List.drop_eq_nil_of_le (by omega)]
     subst hbx;refine⟨rfl,dx,t,b,v6,v7,_,_,_,g1,hl',wd1,wd2 t Xf,hbb,e2,e3,?_⟩;simpa [vN] using hv
   | succ r=>
    match px,hr,hlen,wd2,hv with
    | y::px,hr,hlen,wd2,hv=>
     obtain⟨wy,wd2⟩:=Zax wd2;have hl':dx.length<LB.length:=by simp at hlen hr;omega
     have hx:=RB.cell (k:=dx.length) (by omega);have hxr:=hwB (LB.getD dx.length 0) (by simp [List.getD,List.getElem?_eq_getElem hl']);have hbx:bx=LB.getD dx.length 0::LB.drop (dx.length+1):=by
      rw[hb,List.drop_eq_getElem_cons hl'];simp [List.getD,List.getElem?_eq_getElem hl']
     generalize LB.getD dx.length 0=x at*;obtain⟨s1,s2,s3⟩:=ZgB wy hxr hbb;have cS:=Zel hF dx y px G;have lS:o+dx.length<(F++(wU (dx++y::px)++G)).length:=(List.getElem?_eq_some_iff.1 cS).1;have l1:decide (o+((dx.length:Int)).toNat*1<(F++(wU (dx++y::px)++G)).length)=true:=by
      rw[Xg,Nat.mul_one];exact Xa lS
     have l2:(inR dx.length M.length).1=(inR dx.length M.length).2:=Xa (by omega);have l3:(inR dx.length LB.length).1=(inR dx.length LB.length).2:=Xa (by omega);refine (Zc hT (Z5F o M.length c LB.length k b dx.length x y v6 v7 la lb _ Y Q g) (Zj l1 (Zj l2 (Zj (ZiI wy hxr hbb) (Zj (Za2 cS) (Zj l2 (Zj (Za2 hx) (Zj l3 (Zu (Xa (by omega))))))))))).mono fun e' z he=> ?_;obtain⟨rfl,⟨g1,e2⟩,e3⟩:=he;refine⟨r,by omega,dx++[adD y x b],px,LB.drop (dx.length+1),adC y x b,i6' dx.length,uu x,g1,by simp at hr;omega,by simp at hlen ⊢;omega,Zas wd1 (fun u hu=>by rw[List.mem_singleton.1 hu];exact s1),wd2,by simp,s2,?_,?_,?_⟩
     ·rw[e2,Zw (by omega) (by omega)];simp
     ·rw[e3,Xg,Nat.mul_one,Zem hF]
     ·rw[hbx] at hv;simp only[vN] at hv;rw[z8,List.length_append,List.length_singleton,pw];exact Zvg s3 hv
  ·match e',he with
   | none,he=>exact⟨rfl,he⟩
   | some none,he=>exact he.elim
   | some (some _),he=>exact he.elim
 ·rintro⟨t,h',s'⟩ ⟨_,dx,tw,b,v6,v7,u1,u2,u3,g,hdl,wd1,wt,hbb,ht,hh,hv⟩;simp only at ht hh;subst ht hh;obtain⟨s1,s2,s3⟩:=ZgB wt (show (0:Int)≤0∧(0:Int)<4294967296 by omega) hbb;have cS:=Zel hF dx tw [] G;have lS:o+dx.length<(F++(wU (dx++tw::[])++G)).length:=(List.getElem?_eq_some_iff.1 cS).1;obtain⟨f1,f2⟩:=ZgA (l:=adC tw 0 b) (V:=vN M+vN LB) wd1 s1 (by rw[← hv,← s3];congr 2;omega);have g0:=Z0s e o M.length c LB.length k b tw v6 v7 u1 u2 u3 la lb (F++(wU (dx++tw::[])++G)) Y Q g;rw[← hdl,Xg,Nat.mul_one,Zem hF] at g0;have l0:(adC tw 0 b !=0)=e:=by
   rw[← he,hl,← hdl,← f2];have hp:=ZaI (dx.length+1);by_cases hbig:4294967296^(dx.length+1)≤vN M+vN LB
   ·rw[Xa hbig];have:(1:Int)≤(vN M+vN LB)/4294967296^(dx.length+1):=(Int.le_ediv_iff_mul_le hp).2 (by omega);exact bne_iff_ne.2 (by omega)
   ·rw[Xb hbig];have h1:=Zbe M hM;have h2:=Zbe LB hwB;rw[Int.ediv_eq_zero_of_lt (by omega) (by omega)];rfl
  have l2:(inR dx.length M.length).1=(inR dx.length M.length).2:=Xa (by omega);rw[← hdl];refine (Zc hT g0 (Zj l0 (Zj (Xa lS) (Zj l2 (Zj (ZiI wt (by omega) hbb) (Zj (Za2 cS) (Zu l2))))))).mono fun e' y he=> ?_;obtain⟨rfl,⟨g1,e2⟩,e3⟩:=he;refine⟨.inr rfl,?_,?_⟩
  ·rw[e2,e3];rfl
  ·rw[e3,hl,← hdl,← f1,List.append_nil];rfl
def Z5G:Zae:=fun vals h s=>
 match vals,h,s with
 | [.slice (some ⟨2,o,none⟩) m c,.slice (some ⟨3,0,none⟩) n k],⟨5,[(Q,t4),(Y,t3),(R,t2),(lb,t1),(la,t0)]⟩,.inr (.inr (.inr (.inl e)))::s'=>some (.bool e,h5 la lb (tmS R o m (dg m (vN (Zz R o m)+vN (Zz Y 0 n)))) Y Q,s',[(Zeo la lb R Y Q t0 t1 t2 t3 t4 o m c n k,true),(decide (4294967296^m≤vN (Zz R o m)+vN (Zz Y 0 n)),e)])
 | _,_,_=>none
theorem Zvm:Z6 209 Z5G:=by
 intro vals h s v h' s' lg hg hl m B w E hv;unfold Z5G at hg;split at hg
 ·rename_i o mm c n k Q t4 Y t3 R t2 lb t1 la t0 e s2;cases hg;have l1:=hl _ Xe;have l2:=hl _ (Xd _ Xf);simp only at l1 l2;obtain⟨q0,q1,q2,q3,q4,ra,rb,qn,qN,st0,st1,st2⟩:=Zf8 l1;subst q0 q1 q2 q3 q4;obtain⟨a1,a2,a3,a4,a5,a6,a7⟩:=ZH ra;obtain⟨b1,b2,b3,b4,b5,b6,b7⟩:=ZH rb;obtain⟨eS,hF⟩:=ZaM ra;have r:=Zvl (G:=R.drop (o+mm)) (la:=la) (lb:=lb) (Q:=Q) (c:=c) (k:=k) hF a1.rng b1 (by rw[a2,b2];exact qn) (by rw[a2];exact qN) e (by rw[a2];exact l2);rw[a2,b2,← eS] at r;exact zi (T:=Zq prog Zf Zh0 true) func209 Zvk (vals:=[sl 2 o mm c,sl 3 0 n k]) (v:= .bool e) (h:=h5 la lb R Y Q) (by rfl) (ZmF ra rb st0 st1 st2) r m B w E hv
 ·cases hg
end Go.Proofs.YtgefjidphfdhdaaGreatDoor.Na
namespace Go.Nt
theorem ZqK {M L:List Int}(hM:wds M) (hL:wds L) {n:Nat}(hm:M.length=n+1) (hl:L.length=n) (hn:0<n) (hb:0<L.getD (n-1) 0):vN M/vN L≤(M.getD n 0*4294967296+M.getD (n-1) 0)/L.getD (n-1) 0:=by
 have hP:=ZaI (n-1);have eM:M=(M.take (n-1)++[M.getD (n-1) 0])++[M.getD n 0]:=by
  have h1:=Za3 (L:=M) (k:=n) (by omega);have h2:=Za3 (L:=M) (k:=n-1) (by omega);rw[show n-1+1=n by omega] at h2;rw[← h2,← h1,← hm,List.take_length]
 have eL:L=L.take (n-1)++[L.getD (n-1) 0]:=by
  have h2:=Za3 (L:=L) (k:=n-1) (by omega);rw[← h2,show n-1+1=L.length by omega,List.take_length]
 have vM:vN M=vN (M.take (n-1))+4294967296^(n-1)*(M.getD n 0*4294967296+M.getD (n-1) 0):=by
  have:vN M=vN ((M.take (n-1)++[M.getD (n-1) 0])++[M.getD n 0]):=by rw[← eM]
  rw[this,z8,z8,List.length_append,List.length_take,Nat.min_eq_left (by omega),List.length_singleton,pw,Int.mul_add,Int.mul_comm (M.getD n 0) 4294967296,← Int.mul_assoc,Int.mul_comm (4294967296^(n-1)) 4294967296];omega
 have vL:vN L=vN (L.take (n-1))+4294967296^(n-1)*L.getD (n-1) 0:=by
  have:vN L=vN (L.take (n-1)++[L.getD (n-1) 0]):=by rw[← eL]
  rw[this,z8,List.length_take,Nat.min_eq_left (by omega)]
 have bM:=Zbe (M.take (n-1)) (Zc0 hM _);have bL:=Zbe (L.take (n-1)) (Zc0 hL _);rw[List.length_take,Nat.min_eq_left (by omega)] at bM bL;generalize M.getD n 0*4294967296+M.getD (n-1) 0=T at*;generalize L.getD (n-1) 0=b at*;generalize (4294967296:Int)^(n-1)=P at*;have hPb:0<P*b:=Int.mul_pos hP hb;have hq:=Int.mul_ediv_self_le (x:=vN M) (k:=vN L) (by omega);have hq0:0≤vN M/vN L:=by
  by_cases h0:0≤vN M
  ·exact Int.ediv_nonneg h0 (by omega)
  ·have:=(Zbe M hM).1;omega
 generalize hqd:vN M/vN L=q at*;refine (Int.le_ediv_iff_mul_le hb).2 ?_;have h1:P*b*q≤vN L*q:=Int.mul_le_mul_of_nonneg_right (by omega) hq0;have h2:P*b*q<P*(T+1):=by
  rw[Int.mul_add];omega
 rw[Int.mul_assoc] at h2;have h3:=Int.lt_of_mul_lt_mul_left h2 (by omega);rw[Int.mul_comm q b];omega
theorem ZiJ {h l b:Int}(hh:0≤h) (hl:0≤l∧l<4294967296) (hb:h<b):0≤(h*4294967296+l)/b∧(h*4294967296+l)/b<4294967296:=
 ⟨Int.ediv_nonneg (by omega) (by omega),Int.ediv_lt_of_lt_mul (by omega) (by omega)⟩
theorem ZiK {M B:Int}(hB:0<B) (h0:0≤M) (h:M<4294967296*B):0≤M/B∧M/B≤4294967295:=by
 have h1:=Int.ediv_lt_of_lt_mul hB h;exact⟨Int.ediv_nonneg h0 (by omega),by omega⟩
theorem Zvn {M B d:Int}(hB:0<B) (h1:0≤M-d*B) (h2:M/B≤d):d=M/B∧M-d*B=M % B:=by
 have h3:d≤M/B:=(Int.le_ediv_iff_mul_le hB).2 (by omega);have e:d=M/B:=by omega
 refine⟨e,?_⟩;have:=Int.emod_add_mul_ediv M B;rw[e,Int.mul_comm (M/B) B];omega
theorem ZmG {M B d:Int}(hB:0<B) (h:M-d*B<0):M/B<d:=Int.ediv_lt_of_lt_mul hB (by omega)
theorem Z0t {m:Nat}{V:Int}(h0:V<0) (h1: -(4294967296^m)≤V):vN (dg m V)=V+4294967296^m:=by
 have:=Zdw m V 1;rw[Int.mul_one] at this;rw[← this];exact Zke m _ (by omega) (by omega)
end Go.Nt
