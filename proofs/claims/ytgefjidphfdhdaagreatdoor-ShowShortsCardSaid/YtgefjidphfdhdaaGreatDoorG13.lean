/-
  TxF, UuB, TxG
-/
import Derived.Test.YtgefjidphfdhdaaGreatDoorG12
namespace Go.Proofs.YtgefjidphfdhdaaGreatDoor.Na
open Go.Proofs.Tryz
open Go.KRun Go.Nt
set_option maxRecDepth 100000
def Z9r (a:Value) (la:List Value) (V:Nat) (y:Lf):Prop:=∃ (D:List Int) (r w:Value) (Y:List Value×TypeId) (g:Nat→Value),y.1=dF a r (.slice (some ⟨2,0,none⟩) D.length grown) w++tl 38 g∧y.2.1=hB2 (wB (D.map asc)) Y la∧D.length<100000∧(∀ x∈D,Dg 10 x)∧vb 10 D=V∧(Y.1.all still)=true
theorem Zyd {o n c:Nat}{la:List Value}{N V:Nat}(hla:la.all still=true) (hN:N≤8192) (hV0:0<V) {e:Nat}(he:e=262144) (hV:V<2^e) (r:Nat) (y:Lf) (h:Z7o (sl 0 o n c) la N V r y):
  RunsW (Zk prog Zf Zb1 ZfZ) (dL f80) y fun e z=>match e with | none=>∃ r',r'<r∧Z7o (sl 0 o n c) la N V r' z | some none=>False | some (some id')=>id'=0∧Z9r (sl 0 o n c) la V z:=by
 obtain⟨k,D,W,Z,w,g,ht,hh,hD,hDg,hwz,hW,hlen,hv,hr,hk9⟩:=h;obtain⟨t,h',sc⟩:=y;simp only at ht hh;subst ht hh;have hWw:wds W:=fun x hx=>hwz x (List.mem_append_left _ hx);have hWl:W.length≤N:=by rw[← hlen,List.length_append];omega
 have hpos:=ZjH hWw hW;have hsm:ZK N=true:=Zl.2 (by unfold za;omega);by_cases h0:0<W.length
 ·have lc:decide (((W.length:Nat):Int)>0)=true:=Xa (by omega);have hR:=hpos.2 h0;have hk:k<9040:=Z9n (k:=k) (V:=V) (by
   have:=Nat.mul_le_mul_left (10^(9*k)) (show 1≤vb 4294967296 W by omega);omega) he hV
  obtain⟨q1,Z',q2,q3,q4,q5⟩:=Zs6 hwz;have hp:vb 4294967296 W % 1000000000<4294967296:=by omega
  have l1:Z7 tU (wU (W++Z)) 0 W.length N=true:=zX hwz (by rw[List.length_append];omega) hWl hsm;have l2:Z7 tU (tpS (wU (W++Z)) W.length) 0 W.length N=true:=by
   rw[q2];exact zX q4 (by rw[q5,List.length_append];omega) hWl hsm
  have stS:∀ v∈(tpS (wU (W++Z)) W.length),still v=true:=by
   rw[q2];exact List.all_eq_true.1 (ZaQ _)
  have ep:∀ (D:List Int) (j:Nat),apB (wB (D.map asc)) (tpP (wU (W++Z)) W.length) j=wB ((D++ld j (vb 4294967296 W % 1000000000)).map asc):=fun D j=>by rw[q1];exact Zoe hp D j
  have dec:vb 4294967296 W/1000000000<vb 4294967296 W:=Nat.div_lt_self hR (by omega);have next:∀ (D:List Int),D.length=9*k→vb 10 D+10^(9*k)*vb 4294967296 W=V→(∀ x∈D,Dg 10 x)→∀ (z:Lf) (w':Value),(∃ g,z.1=dF (sl 0 o n c) (sl 1 0 (trS (wU (W++Z)) W.length) N) (.slice (some ⟨2,0,none⟩) (D.length+9) grown) w'++tl 38 g)→z.2.1=⟨3,[(wB ((D++ld 9 (vb 4294967296 W % 1000000000)).map asc),tBy),(tpS (wU (W++Z)) W.length,tU),(la,tR)]⟩→∃ r',r'<r∧Z7o (sl 0 o n c) la N V r' z:=fun D hD hv hDg z w' hz1 hz2=>by
   obtain⟨g',hz1⟩:=hz1;refine⟨_,by rw[hr];exact dec,k+1,D++ld 9 (vb 4294967296 W % 1000000000),db 4294967296 (vb 4294967296 W/1000000000),Z',w',g',?_,?_,?_,?_,q4,?_,by rw[q5];exact hlen,?_,?_⟩
   ·rw[hz1,q3];unfold dS;rw[if_neg (by omega),List.length_append,ZjG]
   ·rw[hz2,q2];unfold dX;rw[if_neg (by omega)];rfl
   ·rw[List.length_append,ZjG,hD];omega
   ·intro x hx;rcases List.mem_append.1 hx with hx | hx
    ·exact hDg x hx
    ·exact Z3g _ _ x hx
   ·exact (Zcv (by omega) _).2
   ·rw[ZbV (by omega)];exact Zld hD hv
   ·exact⟨by rw[ZbV (by omega)],by omega⟩
  by_cases hk0:k=0
  ·have hDn:D=[]:=List.length_eq_zero_iff.1 (by omega);have ap:∀ (m j:Nat),m=j→m<1073741824→(apL [] (tpP (wU (W++Z)) W.length) m j).1=(apL [] (tpP (wU (W++Z)) W.length) m j).2:=fun m j hm hb=>by
    rw[q1];exact ZuU hp [] (m:=m) (j:=j) (by simpa using hm) hb
   have e0:dS k D=Zo:=by unfold dS;rw[if_pos hk0]
   have e1:dX k D=[]:=by unfold dX;rw[if_pos hk0]
   rw[e0,e1];have stY:∀ v∈((apB [] (tpP (wU (W++Z)) W.length) 9,tBy):List Value×TypeId).1,still v=true:=by
    have:=ep [] 9;rw[show wB (List.map asc [])=[] from rfl] at this;simp only[this];exact List.all_eq_true.1 (Zga _)
   refine ((Zb (s0:=sc) Zhp (Z3q W.length N (sl 0 o n c) w (wU (W++Z)) la g) (Za l2 (Za rfl (Za (ap 8 8 (by simp) (by omega)) (Za rfl (Za (ap 7 7 (by simp) (by omega)) (Za rfl (Za (ap 6 6 (by simp) (by omega)) (Za rfl (Za (ap 5 5 (by simp) (by omega)) (Za rfl (Za (ap 4 4 (by simp) (by omega)) (Za rfl (Za (ap 3 3 (by simp) (by omega)) (Za rfl (Za (ap 2 2 (by simp) (by omega)) (Za rfl (Za (ap 1 1 (by simp) (by omega)) (Za rfl (Za rfl (Za rfl (Za rfl (Za rfl (Za l1 (Za hla (Za rfl (Z4 lc))))))))))))))))))))))))))).kept (k:=2) (b:=19) (base:=[(tpS (wU (W++Z)) W.length,tU),(la,tR)]) (y:=(apB [] (tpP (wU (W++Z)) W.length) 9,tBy)) (front':=dF (sl 0 o n c) (sl 1 0 (trS (wU (W++Z)) W.length) N) (.slice (some ⟨2,0,none⟩) 9 grown) (uu (pNx (tpP (wU (W++Z)) W.length) 9))) rfl (by kernel_rfl) (fun i x hi=>by
    have hi2:i<2:=Hp.blk_lt hi;have h01:i=0∨i=1:=by omega
    rcases h01 with rfl | rfl
    ·obtain rfl:=(Option.some.inj hi).symm;exact⟨rfl,List.all_eq_true.1 hla⟩
    ·obtain rfl:=(Option.some.inj hi).symm;exact⟨rfl,stS⟩) rfl (by omega) stY (by
    intro v hv;simp only[dF,List.mem_cons,List.not_mem_nil,or_false] at hv;rcases hv with rfl | rfl | rfl | rfl | rfl | rfl | rfl | rfl<;>rfl)).mono fun e z hz=> ?_
   obtain⟨rfl,hz1,hz2⟩:=hz;have e9:=ep [] 9;rw[show wB (List.map asc [])=[] from rfl] at e9;rw[e9] at hz2;refine next [] (by rw[hk0];rfl) (by rw[← hDn];exact hv) (fun x hx=>by cases hx) z (uu (pNx (tpP (wU (W++Z)) W.length) 9)) hz1 hz2
  ·have e0:dS k D= .slice (some ⟨2,0,none⟩) D.length grown:=by unfold dS;rw[if_neg hk0]
   have e1:dX k D=[(wB (D.map asc),tBy)]:=by unfold dX;rw[if_neg hk0]
   rw[e0,e1];have ap:∀ (m j:Nat),m=D.length+j→m<1073741824→(apL (wB (D.map asc)) (tpP (wU (W++Z)) W.length) m j).1=(apL (wB (D.map asc)) (tpP (wU (W++Z)) W.length) m j).2:=fun m j hm hb=>by
    rw[q1];exact ZuU hp D hm hb
   have lX:(([(wB (D.map asc),tBy)]:List (List Value×TypeId)).all fun x=>x.1.all still)=true:=by
    rw[List.all_cons,Zga];rfl
   have stY:∀ v∈((apB (wB (D.map asc)) (tpP (wU (W++Z)) W.length) 9,tBy):List Value×TypeId).1,still v=true:=by
    simp only[ep D 9];exact List.all_eq_true.1 (Zga _)
   refine ((Zb (s0:=sc) Zhp (Z3r W.length N D.length (sl 0 o n c) w (wB (D.map asc)) (wU (W++Z)) la g) (Za l2 (Za rfl (Za (ap (D.length+8) 8 rfl (by omega)) (Za rfl (Za (ap (D.length+7) 7 rfl (by omega)) (Za rfl (Za (ap (D.length+6) 6 rfl (by omega)) (Za rfl (Za (ap (D.length+5) 5 rfl (by omega)) (Za rfl (Za (ap (D.length+4) 4 rfl (by omega)) (Za rfl (Za (ap (D.length+3) 3 rfl (by omega)) (Za rfl (Za (ap (D.length+2) 2 rfl (by omega)) (Za rfl (Za (ap (D.length+1) 1 rfl (by omega)) (Za rfl (Za (ap D.length 0 rfl (by omega)) (Za rfl (Za rfl (Za rfl (Za l1 (Za hla (Za lX (Z4 lc))))))))))))))))))))))))))).kept (k:=2) (b:=20) (base:=[(tpS (wU (W++Z)) W.length,tU),(la,tR)]) (y:=(apB (wB (D.map asc)) (tpP (wU (W++Z)) W.length) 9,tBy)) (front':=dF (sl 0 o n c) (sl 1 0 (trS (wU (W++Z)) W.length) N) (.slice (some ⟨2,0,none⟩) (D.length+9) grown) (uu (pNx (tpP (wU (W++Z)) W.length) 9))) rfl (by kernel_rfl) (fun i x hi=>by
    have hi2:i<2:=Hp.blk_lt hi;have h01:i=0∨i=1:=by omega
    rcases h01 with rfl | rfl
    ·obtain rfl:=(Option.some.inj hi).symm;exact⟨rfl,List.all_eq_true.1 hla⟩
    ·obtain rfl:=(Option.some.inj hi).symm;exact⟨rfl,stS⟩) rfl (by omega) stY (by
    intro v hv;simp only[dF,List.mem_cons,List.not_mem_nil,or_false] at hv;rcases hv with rfl | rfl | rfl | rfl | rfl | rfl | rfl | rfl<;>rfl)).mono fun e z hz=> ?_
   obtain⟨rfl,hz1,hz2⟩:=hz;rw[ep D 9] at hz2;exact next D hD hv hDg z _ hz1 hz2
 ·have hR:vb 4294967296 W=0:=by
   rcases Nat.eq_zero_or_pos (vb 4294967296 W) with h1 | h1
   ·exact h1
   ·exact absurd (hpos.1 h1) h0
  rw[hR,Nat.mul_zero,Nat.add_zero] at hv;have hk0:k≠0:=fun hk=>by
   have:D=[]:=List.length_eq_zero_iff.1 (by omega);rw[this] at hv;simp [vb] at hv;omega
  refine (Zb (s0:=sc) Zhp (Z3s W.length N (sl 0 o n c) (dS k D) w _ g) (Z4 (Xb (by omega)))).mono fun e z hz=> ?_;obtain⟨rfl,⟨g',hz1⟩,hz2⟩:=hz;have e0:dS k D= .slice (some ⟨2,0,none⟩) D.length grown:=by unfold dS;rw[if_neg hk0]
  have e1:dX k D=[(wB (D.map asc),tBy)]:=by unfold dX;rw[if_neg hk0]
  rw[e0] at hz1;rw[e1] at hz2;exact⟨rfl,D,_,w,(wU (W++Z),tU),g',hz1,hz2,by omega,hDg,hv,ZaQ _⟩
theorem ZsN {D:List Int}{V:Nat}(hV:0<V) (hD:∀ x∈D,Dg 10 x) (hv:vb 10 D=V):trL 48 ((D.map asc).reverse.map fun n=>UInt8.ofNat n.toNat)=Zac V:=by
 have h1:=Zoa hD;rw[hv] at h1;unfold Zac ZuS;rw[if_neg (by omega),← h1];have key:∀ L:List Int,(∀ x∈L,Dg 10 x)→trL 48 ((L.map asc).map fun n=>UInt8.ofNat n.toNat)=(ZfY L).map fun x=>UInt8.ofNat (asc x).toNat:=by
  intro L
  induction L with
  | nil=>intro _;rfl
  | cons x L ih=>
   intro hL;have hx:=hL x Xe;have ih:=ih fun y hy=>hL y (Xd _ hy);have hx0:=hx.1;have hx1:x<10:=by have:=hx.2;omega
   have ev:(((UInt8.ofNat (asc x).toNat).toNat:Nat):Int)=48+x:=by
    unfold asc;simp;omega
   by_cases h0:x=0
   ·subst h0;unfold trL ZfY at*;rw[List.map_cons,List.map_cons,List.dropWhile_cons_of_pos (by rfl),List.dropWhile_cons_of_pos (by rfl)];exact ih
   ·unfold trL ZfY at*;rw[List.map_cons,List.map_cons,List.dropWhile_cons_of_neg (by rw[ev];simp;omega),List.dropWhile_cons_of_neg (by simpa using h0)];simp
 rw[← List.map_reverse];exact key D.reverse fun x hx=>hD x (List.mem_reverse.1 hx)
theorem Zhv:∀ L:List Int,Zb5 (wB L)=some L
 | []=>rfl
 | x::L=>by
  show Zb5 (ub x::wB L)=_;simp [Zb5,ub,Zhv L]
theorem Z9s {a r w:Value}{D:List Int}{Y:List Value×TypeId}{la:List Value}{V:Nat}(hla:la.all still=true) (hV:0<V) (hl:D.length<100000) (hD:∀ x∈D,Dg 10 x) (hv:vb 10 D=V) (hY:Y.1.all still=true) (g:Nat→Value) (sc:List Dec):
  RunsW (Zk prog Zf Zb1 ZfZ) (dE f80) (dF a r (.slice (some ⟨2,0,none⟩) D.length grown) w++tl 38 g,hB2 (wB (D.map asc)) Y la,sc) fun e z=>(e=none∨e=some none)∧ZY prog f80 z.1 z.2.1=some (.tuple #[bS (Zac V),.nilIface]):=by
 have l1:ZgG ((wB (D.map asc)).reverse,tBy) 0 D.length ⟨⟨(D.map asc).reverse.map fun n=>UInt8.ofNat n.toNat⟩⟩=true:=by
  unfold ZgG;have e:(wB (D.map asc)).reverse=wB (D.map asc).reverse:=by simp [wB]
  have e2:((wB (D.map asc).reverse).drop 0).take D.length=wB (D.map asc).reverse:=by
   rw[List.drop_zero];exact List.take_of_length_le (by simp [wB])
  simp only[e,e2,Zhv];rw[show Zae tBy=false from by kernel_rfl,Nat.ble_eq_true_of_le (by simp [wB])];simp
 refine (Zb (s0:=sc) Zhp (Z3t D.length a r w ⟨⟨(D.map asc).reverse.map fun n=>UInt8.ofNat n.toNat⟩⟩ (wB (D.map asc)) Y la g) (Za rfl (Za l1 (Za hY (Za rfl (Za rfl (Za (by rw[Zho,List.length_map];exact Nat.beq_refl _) (Za (ZuP _) (Za rfl (Za hla (Z4 (Zl.2 (by omega))))))))))))).mono fun e z hz=> ?_;obtain⟨rfl,⟨g',hz1⟩,hz2⟩:=hz;refine⟨.inr rfl,?_⟩;have et:=ZsN hV hD hv;have:bS (trL 48 (⟨⟨(D.map asc).reverse.map fun n=>UInt8.ofNat n.toNat⟩⟩:ByteArray).data.toList)=bS (Zac V):=by rw[← et]
 rw[this] at hz1;rw[hz1,hz2];rfl
end Go.Proofs.YtgefjidphfdhdaaGreatDoor.Na
namespace Go.Proofs.YtgefjidphfdhdaaGreatDoor
open Go.KRun
set_option maxRecDepth 100000
theorem Z3H {x:List Value×TypeId}{i:Nat}{z:List Value×TypeId}(hz:(⟨1,[x]⟩:Hp).blk? i=some z):i=0∧z=x:=by
 have:i<1:=Hp.blk_lt hz;have hi:i=0:=by omega
 subst hi;exact⟨rfl,(Option.some.inj hz).symm⟩
end Go.Proofs.YtgefjidphfdhdaaGreatDoor
namespace Go.Proofs.YtgefjidphfdhdaaGreatDoor.Na
open Go.Proofs.Tryz
open Go.KRun Go.Nt
set_option maxRecDepth 100000
theorem Zgf:f80.body=some (Zs f80):=by kernel_rfl
theorem Z3I {l:List Value}{o:Nat}{L:List Int}(h:Row l o L):cpD l o L.length=wU L∧cpC l o L.length=true:=by
 have e:L.length.min L.length=L.length:=Nat.min_self _;have h1:=h.cut;have h2:=h.len;unfold ZbL at h1;unfold cpD cpC;rw[e,h1];refine⟨by simp,?_⟩;rw[show Zae tR=false from by kernel_rfl,show ro tU=false from by kernel_rfl,Nat.ble_eq_true_of_le h2,Nat.ble_eq_true_of_le (by simp),Zha];rfl
theorem Zlh {L:List Int}(h:Zbk L):Zi L=L.length:=by
 apply Zbl
 ·intro i hi;simp [List.getD,List.getElem?_eq_none hi]
 ·exact h.2
theorem ZsO {l:List Value}{o n c:Nat}(ha:Z7 tR l o n c=true) (hb:ZU (Zz l o n)=false) (h0:0<n):
  RunsW (Zk prog Zf Zb1 ZfZ) (ZZ (dP f80) (.seq (.block 0 (.loop (dL f80))) (dE f80))) ([sl 0 o n c]++List.replicate 45 undef,h1R l,[]) fun e z=>(e=none∨e=some none)∧ZY prog f80 z.1 z.2.1=some (.tuple #[bS (Zac (vb 4294967296 (Zz l o n))),.nilIface]):=by
 obtain⟨a1,a2,a3,a4,a5,a6,a7⟩:=ZG ha;obtain⟨L,hL⟩:∃ L,L=Zz l o n:=⟨_,rfl⟩;rw[← hL] at a1 a2 hb ⊢;have h8:=Zch hb;have hc:=Zdn a1.rng hb;have hla:l.all still=true:=List.all_eq_true.2 a7;have ht:=Zlh hc;have hw:wds L:=a1.rng;have hV:0<vb 4294967296 L:=(ZjH hw ht).2 (by omega);obtain⟨k,hk⟩:∃ k:Nat,k=8192:=⟨_,rfl⟩;have hlt:=Zwv (m:=k) hw (by omega);obtain⟨e,he⟩:∃ e:Nat,e=262144:=⟨_,rfl⟩;have hlt2:vb 4294967296 L<2^e:=by
  rw[show (4294967296:Nat)=2^32 from rfl,← Nat.pow_mul] at hlt;rw[show e=32*k by omega];exact hlt
 obtain⟨c1,c2⟩:=Z3I a1;rw[a2] at c1 c2;have rX:zZ (h1R l) (some ⟨0,o,none⟩) n c=true:=by
  show Z7 tR l o n c=true;exact ha
 have rO:Zm (h1R l) (some ⟨0,o,none⟩) n=L:=by rw[hL];rfl
 have lm:ZO 4 n n=true:=by unfold ZO;exact Xa ⟨by omega,by omega,by omega,by omega⟩
 refine Zu Zhp (Z3o o n c l) (Za c2 (Za lm (Za (by simp;omega) (Za rX (Z4 (by rw[rO];exact hb)))))) fun g=> ?_;refine RunsW.seq (P1:=fun e y=>e=none∧Z9r (sl 0 o n c) l (vb 4294967296 L) y) ?_ ?_ (fun e y he=>by cases he.1)
 ·refine (RunsW.forLoop (R:=fun _=>False) (P:=Z9r (sl 0 o n c) l (vb 4294967296 L)) (Z7o (sl 0 o n c) l n (vb 4294967296 L)) (Zyd hla (by omega) hV he hlt2) (n:=vb 4294967296 L) ⟨0,[],L,[],undef,g,?_,?_,rfl,(fun x hx=>by cases hx),(by simpa using hw),ht,by simpa using a2,by simp [vb],rfl,by omega⟩).mono fun e z hz=> ?_
  ·rw[a2];rfl
  ·show hX [] (cpD l o n) l=hX (dX 0 []) (wU (L++[])) l;rw[c1,List.append_nil];rfl
  ·match e,hz with
   | none,hz=>exact⟨rfl,hz⟩
 ·rintro⟨t,hh,s⟩ ⟨_,D,r,w,Y,g',e1,e2,e3,e4,e5,e6⟩;simp only at e1 e2;subst e1 e2;exact Z9s hla hV e3 e4 e5 e6 g' s
def gDc:Zaf:=fun vals h s=>
 match vals,s with
 | [.slice p n c],.inr (.inr (.inr (.inl true)))::s'=>some (.tuple #[bS [],Zdd 1],h,s',[(zZ h p n c,true),(ZU (Zm h p n),true)])
 | [.slice p n c],.inr (.inr (.inr (.inl false))):: .inr (.inr (.inr (.inr (.inr (.string b)))))::s'=>some (.tuple #[.string b,.nilIface],h,s',[(zZ h p n c,true),(ZU (Zm h p n),false),(decide (Zac (ZuB h p n)=b.data.toList),true)])
 | _,_=>none
theorem Z3J:Z8 80 gDc:=by
 intro vals h s v h' s' lg hg hl m B w E hv;unfold gDc at hg;split at hg
 ·rename_i p n c s2;cases hg;obtain⟨l1,q⟩:=Zfq hl;obtain⟨l2,_⟩:=Zfq q;rcases ZH l1 with ⟨rfl,rfl,rfl,e0⟩ | ⟨b,o,x,rfl,hx,r1,e0⟩
  ·rw[e0,Zb0] at l2;cases l2
  ·rw[e0] at l2;obtain⟨a1,a2,a3,a4,a5,a6,a7⟩:=ZG r1;have hr:Runs (Zk prog Zf Zb1 ZfZ) (Zs f80) ([sl 0 o n c]++List.replicate 45 undef,h1R x.1,[]) fun e z=>(e=none∨e=some none)∧ZY prog f80 z.1 z.2.1=some (.tuple #[bS [],Zdd 1]):=by
    refine (Zc Zhp (Z3p (some ⟨0,o,none⟩) n c (h1R x.1)) (Za (zv r1) (Z4 l2))).mono fun e z he=> ?_;obtain⟨rfl,⟨g,z1⟩,z2⟩:=he;exact⟨.inr rfl,by rw[z1,z2];rfl⟩
   exact Z9 (T:=Zk prog Zf Zb1 ZfZ) func80 Zgf (Za5 a7) (vals:=[sl 0 o n c]) (fun v hv=>by rw[List.mem_singleton.1 hv];rfl) (by rfl) hr.w E (s:=fun _=>b) (zD hx a5 a6 rfl)
 ·rename_i p n c t s2;cases hg;obtain⟨l1,q⟩:=Zfq hl;obtain⟨l2,q⟩:=Zfq q;obtain⟨l3,_⟩:=Zfq q;have l3:=Xc l3;have et:Value.string t=bS t.data.toList:=rfl;rw[et,← l3];rcases ZH l1 with ⟨rfl,rfl,rfl,e0⟩ | ⟨b,o,x,rfl,hx,r1,e0⟩
  ·have ev:ZuB h none 0=0:=by unfold ZuB;rw[e0];rfl
   rw[ev];have hr:Runs (Zk prog Zf Zb1 ZfZ) (Zs f80) ([.slice none 0 0]++List.replicate 45 undef,⟨0,[]⟩,[]) fun e z=>(e=none∨e=some none)∧ZY prog f80 z.1 z.2.1=some (.tuple #[bS (Zac 0),.nilIface]):=by
    refine (Zc Zhp (Zoc none 0 0 ⟨0,[]⟩) (Za rfl (Za rfl (Z4 rfl)))).mono fun e z he=> ?_;obtain⟨rfl,⟨g,z1⟩,z2⟩:=he;exact⟨.inr rfl,by rw[z1,z2];rfl⟩
   exact Z9 (T:=Zk prog Zf Zb1 ZfZ) func80 Zgf (h0:=⟨0,[]⟩) ⟨rfl,fun b x hx=>by have:b<0:=Hp.blk_lt hx;omega⟩ (vals:=[.slice none 0 0]) (fun v hv=>by rw[List.mem_singleton.1 hv];rfl) (by rfl) hr.w E (s:=fun i=>i) (fun i x hx=>by have:i<0:=Hp.blk_lt hx;omega)
  ·have ev:ZuB h (some ⟨b,o,none⟩) n=vb 4294967296 (Zz x.1 o n):=by unfold ZuB;rw[e0]
   rw[e0] at l2;obtain⟨a1,a2,a3,a4,a5,a6,a7⟩:=ZG r1;rw[ev];by_cases hn:n=0
   ·subst hn;have e1:Zz x.1 o 0=[]:=List.length_eq_zero_iff.1 a2;have hr:Runs (Zk prog Zf Zb1 ZfZ) (Zs f80) ([sl 0 o 0 c]++List.replicate 45 undef,h1R x.1,[]) fun e z=>(e=none∨e=some none)∧ZY prog f80 z.1 z.2.1=some (.tuple #[bS (Zac 0),.nilIface]):=by
     refine (Zc Zhp (Zoc (some ⟨0,o,none⟩) 0 c (h1R x.1)) (Za rfl (Za (zv r1) (Z4 l2)))).mono fun e z he=> ?_;obtain⟨rfl,⟨g,z1⟩,z2⟩:=he;exact⟨.inr rfl,by rw[z1,z2];rfl⟩
    rw[e1];exact Z9 (T:=Zk prog Zf Zb1 ZfZ) func80 Zgf (Za5 a7) (vals:=[sl 0 o 0 c]) (fun v hv=>by rw[List.mem_singleton.1 hv];rfl) (by rfl) hr.w E (s:=fun _=>b) (zD hx a5 a6 rfl)
   ·exact Z9 (T:=Zk prog Zf Zb1 ZfZ) func80 ZxM (Za5 a7) (vals:=[sl 0 o n c]) (fun v hv=>by rw[List.mem_singleton.1 hv];rfl) (by rfl) (ZsO (zv r1) l2 (by omega)) E (s:=fun _=>b) (zD hx a5 a6 rfl)
 ·cases hg
end Go.Proofs.YtgefjidphfdhdaaGreatDoor.Na
