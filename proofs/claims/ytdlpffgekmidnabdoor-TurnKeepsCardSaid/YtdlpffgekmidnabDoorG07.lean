/-
  ConQA, ConQB, ConQC, RunU, NumZ, NumU, NumY, NumX4, FiA, NumFa, NumFb, NumFc, NumFe, NumFg, NumFh, FiB, RunV, RunY, FiC, FiD, FiE
-/
import Derived.Test.YtdlpffgekmidnabDoorG06
import Derived.OneCell
namespace Go.Proofs.YtdlpffgekmidnabDoor
open Go.Proofs.Tryd
open Go.IntKind
open Go.KRun Go.Wd
set_option maxRecDepth 100000
theorem quo_loop {n:Nat}(hn:1≤n) (h4:n≤4) {ds rs0:List Int}(ld:ds.length=4) (lr:rs0.length=5) (wd':words ds) (wr:words rs0) (top:9223372036854775808≤(ds.take n).getD (n-1) 0) (h3:vB (rs0.drop (5-n))<vB (ds.take n))
  (v0 v1 v14 v15:Value) (up:Int) (a b lw:W4) (g:Nat→Value) (s:List Dec):
  Runs (tabOf prog extY conQW true) (.block 0 (.loop (qLoop f63))) (qFr v0 v1 n up (i64.wrap (4-(n:Int))) v14 v15++tl 70 g,qHp a b lw ds rs0 [0,0,0,0],s) fun e y=>match e with
   | none=>∃ (rs qs:List Int) (i:Int) (g:Nat→Value),y.1=qFr v0 v1 n up i v14 v15++tl 70 g∧y.2.1=qHp a b lw ds rs qs∧rs.length=5∧words rs∧qs.length=4∧words qs∧vB rs<vB (ds.take n)∧vB rs+vB qs*vB (ds.take n)=vB rs0
   | some none=>False
   | some (some _)=>False:=by
 have w0:words [0,0,0,0]:=fun d hd=>by
  simp only[List.mem_cons,List.not_mem_nil,or_false,or_self] at hd;rw[hd];unfold word;omega
 refine Runs.forLoop (n:=5-n) (R:=fun _=>False) (P:=fun y=>∃ (rs qs:List Int) (i:Int) (g:Nat→Value),y.1=qFr v0 v1 n up i v14 v15++tl 70 g∧y.2.1=qHp a b lw ds rs qs∧rs.length=5∧words rs∧qs.length=4∧words qs∧vB rs<vB (ds.take n)∧vB rs+vB qs*vB (ds.take n)=vB rs0)
  (fun r y=>∃ (rs qs:List Int) (g:Nat→Value),n+r≤5∧y.1=qFr v0 v1 n up ((r:Int)-1) v14 v15++tl 70 g∧y.2.1=qHp a b lw ds rs qs∧rs.length=5∧words rs∧qs.length=4∧words qs∧vB (rs.drop r)<vB (ds.take n)∧qs.take r=List.replicate r 0∧vB rs+vB qs*vB (ds.take n)=vB rs0) ?_
  ⟨rs0,[0,0,0,0],g,by omega,by rw[wrap_i64' (by omega) (by omega),show (4:Int)-n=((5-n:Nat):Int)-1 from by omega],rfl,lr,wr,rfl,w0,h3,by
   have hn':n=1∨n=2∨n=3∨n=4:=by omega
   rcases hn' with rfl | rfl | rfl | rfl<;>rfl,by simp [vB]⟩
 rintro r ⟨t,h',s'⟩ ⟨rs,qs,g,e0,ht,hh,lr,wr,lq,wq,h3,hz,hv⟩;simp only at ht hh;subst ht hh;cases r with
 | zero=>
  refine (goesT_runs (tabY_ok conQ_okW) (quo_out v0 v1 v14 v15 n up _ g).t (okL1 (by rfl))).mono fun e y he=> ?_;obtain⟨rfl,⟨g',h2⟩,h3'⟩:=he;exact⟨rfl,rs,qs,_,g',h2,h3',lr,wr,lq,wq,h3,hv⟩
 | succ i=>
  obtain⟨c,hc,t1,t2,t3,t4,t5,t6,t7,t8⟩:=quo_step hn (by omega) ld lr lq wd' wr wq top h3 hz;have ei:((i+1:Nat):Int)-1=(i:Int):=by omega
  rw[ei];refine (goesT_runs (tabY_ok conQ_okW) (rd_all hn (by omega) hc ld lr lq v0 v1 v14 v15 up a b lw g) t1).mono fun e y he=> ?_;obtain⟨rfl,⟨g',h2⟩,h3'⟩:=he;refine⟨i,by omega,_,_,g',by omega,?_,h3',t2,t3,t4,t5,t6,t7,by rw[t8];exact hv⟩;rw[h2,wrap_i64' (by omega) (by omega)]
theorem pow64 (j:Nat):(18446744073709551616:Int)^j=2^(64*j):=by
 rw[show (18446744073709551616:Int)=2^64 from rfl,← Int.pow_mul]
theorem l4_val (x:W4):vB (l4 x)=x.val:=by unfold l4 W4.val;simp only[vB];omega
theorem l4_words {x:W4}(h:x.ok):words (l4 x):=fun d hd=>by
 obtain⟨y0,y1,y2,y3⟩:=h;unfold l4 at hd;simp only[List.mem_cons,List.not_mem_nil,or_false] at hd;rcases hd with rfl | rfl | rfl | rfl
 ·exact y0
 ·exact y1
 ·exact y2
 ·exact y3
theorem shlW_spec {x:W4}(hx:x.ok) {u:Nat}(hu:u<64):(shlW x u).ok∧(shlW x u).val=x.val*2^u % 115792089237316195423570985008687907853269984665640564039457584007913129639936:=by
 have b:=W4.val_bd hx;unfold shlW;split
 ·have:u=0:=by omega
  subst this;refine⟨hx,?_⟩;rw[Int.pow_zero,Int.mul_one,Int.emod_eq_of_lt b.1 b.2]
 ·rw[if_neg (by omega),Xg];exact⟨W4.ok_of _,W4.val_of _⟩
theorem pow_pos2' (n:Nat):(0:Int)<2^n:=Int.pow_pos (by omega)
theorem topI_eq {a:W4}(ha:a.ok) {u:Nat}(hu:u<64):topI a u=a.val*2^u/115792089237316195423570985008687907853269984665640564039457584007913129639936∧0≤topI a u∧topI a u<18446744073709551616:=by
 have e1:(u64.wrap (i64.wrap (64-(u:Int)))).toNat=64-u:=by
  rw[wrap_i64' (by omega) (by omega),wrap_u64' (by omega) (by omega)];omega
 obtain⟨h1,h2,h3,h4⟩:=ha;have ed:a.val/6277101735386680763835789423207666416102355444464034512896=a.d:=by unfold W4.val;omega
 have pp:(115792089237316195423570985008687907853269984665640564039457584007913129639936:Int)=6277101735386680763835789423207666416102355444464034512896*2^(64-u)*2^u:=by
  rw[Int.mul_assoc,← Int.pow_add,show 64-u+u=64 from by omega];rfl
 have hp:=pow_pos2' u;have hp2:=pow_pos2' (64-u);have key:topI a u=a.val*2^u/115792089237316195423570985008687907853269984665640564039457584007913129639936:=by
  unfold topI;rw[e1,show min (64-u) 64=64-u from by omega,Int.fdiv_eq_ediv_of_nonneg _ (by omega),pp,Int.mul_ediv_mul_of_pos_left _ _ hp,← Int.ediv_ediv_of_nonneg (by omega),ed]
 refine⟨key,?_,?_⟩
 ·unfold topI;rw[e1,show min (64-u) 64=64-u from by omega,Int.fdiv_eq_ediv_of_nonneg _ (by omega)];exact Int.ediv_nonneg h4.1 (by omega)
 ·unfold topI;rw[e1,show min (64-u) 64=64-u from by omega,Int.fdiv_eq_ediv_of_nonneg _ (by omega)];exact Int.lt_of_le_of_lt (Int.ediv_le_self _ h4.1) h4.2
def qrV (q r:W4):Value:= .tuple #[vW q,vW r,.nilIface]
theorem cast_pow' (k:Nat):((2^k:Nat):Int)=2^k:=by simp
theorem size_of {b:W4}(hb:b.ok) (hz:b.val≠0):∃ n u:Nat,1≤n∧n≤4∧u<64∧upI b n=u∧i64.wrap ((szI b).tdiv 64)=n∧2^(64*n-1)≤b.val*2^u∧b.val*2^u<2^(64*n):=by
 have bd:=W4.val_bd hb;have hV:b.val.toNat≠0:=by omega
 obtain⟨s1,s2⟩:=bitLen_spec b.val.toNat;have s2:=s2 hV;have hk1:bitLen b.val.toNat≠0:=by intro h0;rw[h0] at s1;simp at s1;omega
 have hk2:bitLen b.val.toNat≤256:=by
  rcases Nat.lt_or_ge 256 (bitLen b.val.toNat) with hh | hh
  ·have h1:2^256≤2^(bitLen b.val.toNat-1):=Nat.pow_le_pow_right (by omega) (by omega);have h2:(2:Nat)^256=115792089237316195423570985008687907853269984665640564039457584007913129639936:=rfl;rw[h2] at h1;omega
  ·exact hh
 have lo:(2:Int)^(bitLen b.val.toNat-1)≤b.val:=by rw[← cast_pow'];omega
 have hi:b.val<(2:Int)^bitLen b.val.toNat:=by rw[← cast_pow'];omega
 unfold upI szI lenI;generalize bitLen b.val.toNat=k at*;have hn:(k+63)/64*64≥k∧(k+63)/64*64<k+64:=by omega
 refine⟨(k+63)/64,(k+63)/64*64-k,by omega,by omega,by omega,?_,?_,?_,?_⟩
 ·rw[wrap_i64' (n:=((((k+63)/64:Nat):Int))*64) (by omega) (by omega),wrap_i64' (by omega) (by omega)];omega
 ·rw[wrap_i64' (n:=(k:Int)+64) (by omega) (by omega),wrap_i64' (n:=(k:Int)+64-1) (by omega) (by omega),Int.tdiv_eq_ediv_of_nonneg (by omega),wrap_i64' (by omega) (by omega)];omega
 ·rw[show 64*((k+63)/64)-1=(k-1)+((k+63)/64*64-k) from by omega,Int.pow_add];exact Int.mul_le_mul_of_nonneg_right lo (Int.le_of_lt (pow_pos2' _))
 ·have e:64*((k+63)/64)=k+((k+63)/64*64-k):=by omega
  rw[e,Int.pow_add];exact Int.mul_lt_mul_of_pos_right hi (pow_pos2' _)
theorem pow_mono2 {i j:Nat}(h:i≤j):(2:Int)^i≤2^j:=by
 rw[← cast_pow',← cast_pow'];have:=Nat.pow_le_pow_right (n:=2) (by omega) h;omega
theorem l5_val (x:W4) (t:Int):vB (l5 x t)=x.val+115792089237316195423570985008687907853269984665640564039457584007913129639936*t:=by unfold l5 W4.val;simp only[vB];omega
theorem l5_words {x:W4}(h:x.ok) {t:Int}(ht:0≤t∧t<18446744073709551616):words (l5 x t):=fun d hd=>by
 obtain⟨y0,y1,y2,y3⟩:=h;unfold l5 at hd;simp only[List.mem_cons,List.not_mem_nil,or_false] at hd;rcases hd with rfl | rfl | rfl | rfl | rfl
 ·exact y0
 ·exact y1
 ·exact y2
 ·exact y3
 ·exact ht
theorem top_word {l:List Int}{n:Nat}(hn:1≤n) (hl:l.length=n) (hw:words l) (h:2^(64*n-1)≤vB l):9223372036854775808≤l.getD (n-1) 0:=by
 obtain⟨k,rfl⟩:∃ k,n=k+1:=⟨n-1,by omega⟩;obtain⟨d0,dt,e,l0⟩:=snoc_of hl;have b0:=vB_bd d0 (fun x hx=>hw x (by rw[e];exact List.mem_append_left _ hx));rw[l0] at b0;rw[Nat.add_sub_cancel,e,getD_snoc d0 dt [] l0];rw[e,vB_append,l0,show 64*(k+1)-1=64*k+63 from by omega,Int.pow_add,← pow64] at h;simp only[vB] at h;rw[Int.mul_zero,Int.add_zero,show (2:Int)^63=9223372036854775808 from rfl] at h;rcases Int.lt_or_le dt 9223372036854775808 with hc | hc
 ·exfalso
  have h1:18446744073709551616^k*dt≤18446744073709551616^k*9223372036854775807:=Int.mul_le_mul_of_nonneg_left (by omega) (Int.le_of_lt (pow_posB k));generalize (18446744073709551616:Int)^k=K at*;omega
 ·exact hc
theorem divmod_calls (a b:W4) (ha:a.ok) (hb:b.ok) (hz:b.val≠0) (w:World):Calls prog 63 #[vW a,vW b] w fun e w'=>e= .returned (qrV (W4.of (a.val/b.val)) (W4.of (a.val % b.val)))∧Tidy w w':=by
 obtain⟨n,u,n1,n4,hu,eu,en,dlo,dhi⟩:=size_of hb hz;have ba:=W4.val_bd ha;have bb:=W4.val_bd hb;have hp:=pow_pos2' u;have p256':(2:Int)^256=115792089237316195423570985008687907853269984665640564039457584007913129639936:=rfl;have h256:b.val*2^u<115792089237316195423570985008687907853269984665640564039457584007913129639936:=by
  have:=pow_mono2 (show 64*n≤256 by omega);rw[p256'] at this;omega
 have hD0:0<b.val*2^u:=Int.mul_pos (by omega) hp;obtain⟨ob,vb⟩:=shlW_spec hb hu;rw[Int.emod_eq_of_lt (by omega) h256] at vb;obtain⟨oa,va⟩:=shlW_spec ha hu;obtain⟨tp,t0,t9⟩:=topI_eq ha hu;have hA:vB (l5 (shlW a u) (topI a u))=a.val*2^u:=by
  rw[l5_val,va,tp];have:=Int.mul_ediv_add_emod (a.val*2^u) 115792089237316195423570985008687907853269984665640564039457584007913129639936;omega
 have wds:=l4_words ob;have vds:vB (l4 (shlW b u))=b.val*2^u:=by rw[l4_val];exact vb
 have lds:(l4 (shlW b u)).length=4:=rfl;have hdn:vB ((l4 (shlW b u)).take n)=b.val*2^u:=by
  have z:=high_zero wds (n:=n) (by rw[lds];exact n4) (Int.le_refl _) (by rw[vds,pow64];exact dhi);have e:=vB_append ((l4 (shlW b u)).take n) ((l4 (shlW b u)).drop n);rw[List.take_append_drop,z,vds,Int.mul_zero,Int.add_zero] at e;exact e.symm
 have ltn:((l4 (shlW b u)).take n).length=n:=by rw[List.length_take,lds];omega
 have top:=top_word n1 ltn (words_take wds n) (by rw[hdn];exact dlo);have wrs:=l5_words oa ⟨t0,t9⟩;have lrs:(l5 (shlW a u) (topI a u)).length=5:=rfl;have h3:vB ((l5 (shlW a u) (topI a u)).drop (5-n))<vB ((l4 (shlW b u)).take n):=by
  rw[hdn];refine Int.lt_of_lt_of_le ?_ dlo;have e:=vB_append ((l5 (shlW a u) (topI a u)).take (5-n)) ((l5 (shlW a u) (topI a u)).drop (5-n));rw[List.take_append_drop,hA,List.length_take,lrs,show min (5-n) 5=5-n from by omega] at e;have b0:=(vB_bd _ (words_take wrs (5-n))).1;have big:a.val*2^u<2^(256+63):=by
   have h1:a.val*2^u<2^256*2^u:=Int.mul_lt_mul_of_pos_right (by rw[p256'];exact ba.2) hp;rw[← Int.pow_add] at h1;have:=pow_mono2 (show 256+u≤256+63 by omega);omega
  rcases Int.lt_or_le (vB ((l5 (shlW a u) (topI a u)).drop (5-n))) (2^(64*n-1)) with hc | hc
  ·exact hc
  ·exfalso
   have h1:18446744073709551616^(5-n)*2^(64*n-1)≤18446744073709551616^(5-n)*vB ((l5 (shlW a u) (topI a u)).drop (5-n)):=Int.mul_le_mul_of_nonneg_left hc (Int.le_of_lt (pow_posB _));rw[pow64,← Int.pow_add,show 64*(5-n)+(64*n-1)=256+63 from by omega,← pow64] at h1;omega
 have pre:=quo_pre a b n;rw[eu] at pre;refine calls_of_runs (T:=(tabOf prog extY conQW true)) func63 quo_body (vals:=[vW a,vW b]) (by rfl) (by rfl) (goesT_list (tabY_ok conQ_okW) pre.t
  (okCons (Xb (by rw[wrap_i64' (by omega) (by omega),wrap_u64' (by omega) (by omega)];omega)) (okCons (lk_ok ha (by omega) (by omega)) (okCons (lk_ok hb (by omega) (by omega)) (okCons (Xa hb) (okCons (by rfl) (okCons (Xa en) (okCons (Xa hb) (okL1 (by
   show eqW b ⟨0,0,0,0⟩=false;cases h:eqW b ⟨0,0,0,0⟩
   ·rfl
   ·rw[eqW_iff.1 h] at hz;exact absurd rfl hz))))))))) fun g=> ?_) w
 refine Runs.seq (P1:=fun e y=>e=none∧∃ (rs qs:List Int) (i:Int) (g:Nat→Value),y.1=qFr (vW a) (vW b) n u i undef undef++tl 70 g∧y.2.1=qHp a b (shlW a u) (l4 (shlW b u)) rs qs∧rs.length=5∧words rs∧qs.length=4∧words qs∧vB rs<b.val*2^u∧vB rs+vB qs*(b.val*2^u)=a.val*2^u) ?_ ?_ (fun e y he=>by cases he.1)
 ·refine Runs.seq (goesT_runs (tabY_ok conQ_okW) (quo_r (vW a) (vW b) undef undef undef n u _ g).t okNil) ?_ (fun e y he=>by cases he.1);rintro⟨t,h',s⟩ ⟨_,⟨g',ht⟩,hh⟩;simp only at ht hh;subst ht hh;refine (quo_loop n1 n4 lds lrs wds wrs top h3 (vW a) (vW b) undef undef u a b (shlW a u) g' s).mono fun e y he=> ?_;rw[hdn,hA] at he
  match e,he with
  | none,he=>exact⟨rfl,he⟩
 ·rintro⟨t,h',s⟩ ⟨_,rs,qs,i,g',ht,hh,lr,wr,lq,wq,hlt,hv⟩;simp only at ht hh;subst ht hh;have hr0:=(vB_bd _ wr).1;have r4z:vB (rs.drop 4)=0:=high_zero wr (n:=4) (by omega) (by show (115792089237316195423570985008687907853269984665640564039457584007913129639936:Int)≤18446744073709551616^4;decide) (by omega)
  match rs,lr,qs,lq,wr,wq,hr0,r4z,hlt,hv with
  | [r0,r1,r2,r3,r4],_,[q0,q1,q2,q3],_,wr,wq,hr0,r4z,hlt,hv=>
   have okQ':(⟨q0,q1,q2,q3⟩:W4).ok:=⟨wq q0 (by simp),wq q1 (by simp),wq q2 (by simp),wq q3 (by simp)⟩;have okR:(⟨r0,r1,r2,r3⟩:W4).ok:=⟨wr r0 (by simp),wr r1 (by simp),wr r2 (by simp),wr r3 (by simp)⟩;have vq:vB [q0,q1,q2,q3]=(⟨q0,q1,q2,q3⟩:W4).val:=l4_val ⟨q0,q1,q2,q3⟩;have e4:r4=0:=by
    simp only[List.drop_succ_cons,List.drop_zero,vB] at r4z;omega
   have vr:vB [r0,r1,r2,r3,r4]=(⟨r0,r1,r2,r3⟩:W4).val:=by
    have:=l5_val ⟨r0,r1,r2,r3⟩ r4;rw[e4,Int.mul_zero,Int.add_zero] at this;rw[e4];exact this
   rw[vq] at hv;rw[vr] at hv hlt hr0;have eA:a.val*2^u=b.val*2^u*(⟨q0,q1,q2,q3⟩:W4).val+(⟨r0,r1,r2,r3⟩:W4).val:=by rw[Int.mul_comm (b.val*2^u)];omega
   have eq:a.val/b.val=(⟨q0,q1,q2,q3⟩:W4).val:=by
    rw[← Int.mul_ediv_mul_of_pos_left a.val b.val hp];exact ediv_of eA hr0 hlt
   have er:(⟨r0,r1,r2,r3⟩:W4).val=a.val % b.val*2^u:=by
    have dm:=Int.mul_ediv_add_emod a.val b.val;rw[eq] at dm;have:a.val*2^u=b.val*2^u*(⟨q0,q1,q2,q3⟩:W4).val+a.val % b.val*2^u:=by
     rw[Int.mul_right_comm,← Int.add_mul,dm]
    omega
   have es:shrW ⟨r0,r1,r2,r3⟩ u=W4.of (a.val % b.val):=by
    unfold shrW;split
    ·have:u=0:=by omega
     subst this;rw[Int.pow_zero,Int.mul_one] at er;rw[← er,W4.of_val okR]
    ·rw[if_neg (by omega),Xg,er,Int.mul_ediv_cancel _ (by omega)]
   refine (goesT_runs (tabY_ok conQ_okW) (quo_end (vW a) (vW b) undef undef n u i a b (shlW a u) (l4 (shlW b u)) r0 r1 r2 r3 r4 ⟨q0,q1,q2,q3⟩ g') (okL1 (lk_ok okR (by omega) (by omega)))).mono fun e y he=> ?_;obtain⟨rfl,⟨g2,h2⟩,h3'⟩:=he;refine⟨.inr rfl,?_⟩;rw[h2,h3',es,eq,W4.of_val okQ'];rfl
end Go.Proofs.YtdlpffgekmidnabDoor
namespace Go.Proofs.YtdlpffgekmidnabDoor
open Go.KRun Go.Wd
set_option maxRecDepth 100000
def nz2 (a b:W4):Bool×Bool:=(decide (a.ok∧b.ok∧b.val≠0),true)
def gQR:Ans:=fun vals s=>
 match vals with
 | [x,y]=>
  match w4 x,w4 y with
  | some a,some b=>some (qrV (W4.of (a.val/b.val)) (W4.of (a.val % b.val)),s,[nz2 a b])
  | _,_=>none
 | _=>none
theorem gQR_ok:AnsOk 63 gQR:=by
 intro vals s v s' lg h hl w;unfold gQR at h;split at h
 ·split at h
  ·rename_i a b ha hb;cases h;have h1:=hl _ Xf;simp only[nz2,Xi] at h1;rw[w4_spec ha,w4_spec hb];exact divmod_calls a b h1.1 h1.2.1 h1.2.2 w
  ·cases h
 ·cases h
end Go.Proofs.YtdlpffgekmidnabDoor
namespace Go.KRun
open Go.RowKit
def RunsW (T:Tab) (c:Code) (x:Lf) (Post:Ex→Lf→Prop):Prop:=
 ∀ m B a w,Rel m B x a w→∀ Q:Exit→Act→World→Prop,(∀ e y,Post e y→∀ m' a' w',Rel m' B y a' w'→Below B w w'→Q (out e) a' w')→c.wp T.P Q a w
theorem Runs.w {T:Tab}{c:Code}{x:Lf}{P:Ex→Lf→Prop}(h:Runs T c x P):RunsW T c x P:=fun m B a w R Q hQ=>h m B a w R Q fun e y he a' w' hR=>by
 obtain⟨m',_,k2,k3,_⟩:=hR;exact hQ e y he m' a' w' k2 k3
theorem RunsW.post {T:Tab}{c:Code}{x:Lf}{P P':Ex→Lf→Prop}(h:RunsW T c x P) (hp:∀ e y,P e y→∃ y',P' e y'∧∀ m B a w,Rel m B y a w→∃ m',Rel m' B y' a w):RunsW T c x P':=
 fun m B a w R Q hQ=>h m B a w R Q fun e y he m' a' w' hR hb=>by
  obtain⟨y',h1,h2⟩:=hp e y he;obtain⟨m2,h3⟩:=h2 m' B a' w' hR;exact hQ e y' h1 m2 a' w' h3 hb
theorem RunsW.mono {T:Tab}{c:Code}{x:Lf}{P P':Ex→Lf→Prop}(h:RunsW T c x P) (hp:∀ e y,P e y→P' e y):RunsW T c x P':=h.post fun e y he=>⟨y,hp e y he,fun m _ _ _ R=>⟨m,R⟩⟩
theorem RunsW.seq {T:Tab}{c1 c2:Code}{x:Lf}{P1 P:Ex→Lf→Prop}(h1:RunsW T c1 x P1) (h2:∀ y,P1 none y→RunsW T c2 y P) (h3:∀ e y,P1 (some e) y→P (some e) y):RunsW T (.seq c1 c2) x P:=by
 intro m B a w R Q hQ;refine wp_seq (h1 m B a w R _ fun e y he m' a' w' hR hb=> ?_)
 match e,he with
 | none,he=>exact h2 y he m' B a' w' hR Q fun e' y' he' m'' a'' w'' hR' hb'=>hQ e' y' he' m'' a'' w'' hR' (hb.trans hb')
 | some none,he=>exact hQ _ _ (h3 none y he) m' a' w' hR hb
 | some (some id),he=>exact hQ _ _ (h3 (some id) y he) m' a' w' hR hb
theorem RunsW.block {T:Tab}{c:Code}{id:Nat}{x:Lf}{P1 P:Ex→Lf→Prop}(h1:RunsW T c x P1) (h2:∀ y,P1 none y→P none y) (h3:∀ y,P1 (some none) y→P (some none) y)
  (h4:∀ y,P1 (some (some id)) y→P none y) (h5:∀ id' y,id'≠id→P1 (some (some id')) y→P (some (some id')) y):RunsW T (.block id c) x P:=by
 intro m B a w R Q hQ;refine wp_block (h1 m B a w R _ fun e y he m' a' w' hR hb=> ?_)
 match e,he with
 | none,he=>exact hQ _ _ (h2 y he) m' a' w' hR hb
 | some none,he=>exact hQ _ _ (h3 y he) m' a' w' hR hb
 | some (some id'),he=>
  simp only[out,Exit.inBlock];by_cases hid:id'=id
  ·subst hid;rw[if_pos rfl];exact hQ _ _ (h4 y he) m' a' w' hR hb
  ·rw[if_neg hid];exact hQ _ _ (h5 id' y hid he) m' a' w' hR hb
theorem RunsW.loop {T:Tab}{c:Code}{P:Ex→Lf→Prop}(Inv:Nat→Lf→Prop) (round:∀ n x,Inv n x→RunsW T c x fun e y=>match e with | none=>∃ n',n'<n∧Inv n' y | some e=>P (some e) y) {n:Nat}{x:Lf}(h0:Inv n x):
  RunsW T (.loop c) x P:=by
 have key:∀ N n x,n<N→Inv n x→∀ m B a w,Rel m B x a w→∀ Q:Exit→Act→World→Prop,(∀ e y,P e y→∀ m' a' w',Rel m' B y a' w'→Below B w w'→Q (out e) a' w')→Code.rounds T.P c Q N a w:=by
  intro N
  induction N with
  | zero=>intro n x hn;omega
  | succ N ih=>
   intro n x hn hI m B a w R Q hQ;rw[rounds_succ];refine round n x hI m B a w R _ fun e y he m' a' w' hR hb=> ?_
   match e,he with
   | none,he=>
    obtain⟨n',hn',hI'⟩:=he;exact ih n' y (by omega) hI' m' B a' w' hR Q fun e' y' he' m'' a'' w'' hR' hb'=>hQ e' y' he' m'' a'' w'' hR' (hb.trans hb')
   | some none,he=>exact hQ _ _ he m' a' w' hR hb
   | some (some id),he=>exact hQ _ _ he m' a' w' hR hb
 intro m B a w R Q hQ;exact wp_loop_rounds (n+1) (key (n+1) n x (by omega) h0 m B a w R Q hQ)
theorem RunsW.script {T:Tab}{c:Code}{t:List Value}{h:Hp}{s s':List Dec}{P:Ex→Lf→Prop}(hr:RunsW T c (t,h,s) P):RunsW T c (t,h,s') P:=
 fun m B a w R Q hQ=>hr m B a w ⟨R.tmps,R.dfr,R.emb,R.wf⟩ Q hQ
theorem goesT_listW {T:Tab}(hT:TabOk T) {N:Nat}{l:List Code}{X:Code}{t:List Value}{h h':Hp}{s s0:List Dec}{k n:Nat}{e:Ex}{front:List Value}{cs:Log}{P:Ex→Lf→Prop}(hG:GoesT (evL T N l (t,h,s) ⟨[],[],[]⟩) k n e front h' cs) (hcs:okLog cs)
  (hX:∀ g,RunsW T X (front++tl n g,h',[]) P):RunsW T (seqs l X) (t,h,s0) P:=by
 obtain⟨g,s',L,hr,hL⟩:=goesT_some hG hcs;have key:∀ (cs:List Code) (x x':Lf) (L L':Lg) (e:Ex),evL T N cs x L=some (e,x',L')→L'.ok→L.ok∧(RunsW T X x' P→RunsW T (seqs cs X) x P):=by
  intro cs
  induction cs with
  | nil=>
   intro x x' L L' e h hL;simp only[evL] at h;cases h;exact⟨hL,id⟩
  | cons c cs ih=>
   intro x x' L L' e h hL;simp only[evL] at h;split at h
   ·rename_i x1 L1 h1;obtain⟨g1,g3⟩:=ih x1 x' L1 L' e h hL;obtain⟨g4,g5⟩:=(evC_ok hT N).1 _ _ _ _ _ _ h1 g1;refine⟨g4,fun hX m B a w R Q hQ=>wp_seq (g5 m B a w R _ fun a' w' hR=> ?_)⟩;obtain⟨m',_,k2,k3,_⟩:=hR;exact g3 hX m' B a' w' k2 Q fun e' y' he' m'' a'' w'' hR' hb'=>hQ e' y' he' m'' a'' w'' hR' (k3.trans hb')
   ·cases h
 have r:=(key l _ _ _ _ _ hr hL).2 (RunsW.script (hX g));exact RunsW.script r
end Go.KRun
namespace Go.Rn
def upR (m:Int) (neg odd:Bool) (c:Int):Bool:=
 if c=0 then false else if m=2 then false else if m=3 then !neg else if m=4 then neg else if m=1 then decide (2≤c) else decide (2<c) || (decide (c=2) && odd)
def restC (r P:Nat):Int:=if r=0 then 0 else if 2*r<P then 1 else if 2*r=P then 2 else 3
def odd (q:Nat):Bool:=decide (q % 2=1)
def rq (m:Int) (neg:Bool) (T k:Nat):Nat:=T/2^k+(if upR m neg (odd (T/2^k)) (restC (T % 2^k) (2^k))=true then 1 else 0)
def toQ (m:Int) (neg:Bool) (T:Nat) (E e:Int):Nat:=if e≤E then T*2^(E-e).toNat else rq m neg T (e-E).toNat
def toL (T:Nat) (E e:Int):Bool:=if e≤E then false else decide (T % 2^(e-E).toNat≠0)
def lgN (T:Nat) (E:Int):Int:=E+(bitLen T:Nat)-1
def lowE (T:Nat) (E:Int):Int:=if lgN T E-52≤ -1074 then -1074 else lgN T E-52
def p0 (m:Int) (neg:Bool) (T:Nat) (E:Int):Int:=(lowE T E+1074)*4503599627370496+(toQ m neg T E (lowE T E):Nat)
def tiny (m:Int) (neg:Bool) (T:Nat) (E:Int):Bool:=if lgN T E= -1023 then decide (toQ m neg T E (-1075)<9007199254740992) else decide (lgN T E< -1022)
def bey (m:Int) (neg:Bool):Int:=if upR m neg true 3=true then 9218868437227405312 else 9218868437227405311
def rnP (m:Int) (neg:Bool) (T:Nat) (E:Int):Int:=if T=0 then 0 else if 9218868437227405312≤p0 m neg T E then bey m neg else p0 m neg T E
def rnF (m:Int) (neg:Bool) (T:Nat) (E:Int):Int:=if T=0 then 0 else if 9218868437227405312≤p0 m neg T E then 20 else if toL T E (lowE T E)=true then (if tiny m neg T E=true then 24 else 16) else 0
theorem len_pos {T:Nat}(h:T≠0):1≤bitLen T:=by unfold bitLen;rw[if_neg h];omega
theorem len_uniq {T k:Nat}(h0:2^k≤T) (h1:T<2^(k+1)):bitLen T=k+1:=by
 have hp:0<2^k:=Nat.pow_pos (by omega);obtain⟨a1,a2⟩:=bitLen_spec T;have a2:=a2 (by omega);have a3:=len_pos (show T≠0 by omega);rcases Nat.lt_or_ge (bitLen T) (k+1) with h | h
 ·have:=Nat.pow_le_pow_right (show 0<2 by omega) (show bitLen T≤k by omega);omega
 ·rcases Nat.lt_or_ge (k+1) (bitLen T) with h' | h'
  ·have:=Nat.pow_le_pow_right (show 0<2 by omega) (show k+1≤bitLen T-1 by omega);omega
  ·omega
theorem len_le {T k:Nat}(h:T<2^k):bitLen T≤k:=by
 by_cases h0:T=0
 ·subst h0;simp [bitLen]
 ·have a2:=(bitLen_spec T).2 h0;rcases Nat.lt_or_ge k (bitLen T) with h' | h'
  ·have:=Nat.pow_le_pow_right (show 0<2 by omega) (show k≤bitLen T-1 by omega);omega
  ·exact h'
theorem restC_iff {r P:Nat}:restC r P=0↔r=0:=by
 unfold restC;split
 ·simp_all
 ·rename_i h;simp only[h,iff_false];split<;>(try split)<;>omega
theorem rq_bd (m:Int) (neg:Bool) (T k:Nat):T/2^k≤rq m neg T k∧rq m neg T k≤T/2^k+1:=by unfold rq;split<;>omega
end Go.Rn
namespace Go.Pt
open Go.IntKind
def bOr (x y:Int):Int:=u64.wrap ((BitVec.ofInt 64 x ||| BitVec.ofInt 64 y).toNat:Nat)
def bXor (x y:Int):Int:=u64.wrap ((BitVec.ofInt 64 x ^^^ BitVec.ofInt 64 y).toNat:Nat)
def bNot (x y:Int):Int:=u64.wrap ((BitVec.ofInt 64 x &&& ~~~(BitVec.ofInt 64 y)).toNat:Nat)
abbrev U (p:Int):Prop:=0≤p∧p<18446744073709551616
abbrev I (n:Int):Prop:= -9223372036854775808≤n∧n≤9223372036854775807
theorem wrapU (n:Int):u64.wrap n=n % 18446744073709551616:=by simp [IntKind.wrap,IntKind.bits,IntKind.signed]
theorem wrapU' {n:Int}(h:U n):u64.wrap n=n:=by rw[wrapU];unfold U at h;omega
theorem wrapI' {n:Int}(h:I n):i64.wrap n=n:=by
 unfold I at h;simp [IntKind.wrap,IntKind.bits,IntKind.signed];omega
theorem ofU {Z:Nat}(h:Z<18446744073709551616):(BitVec.ofInt 64 (Z:Int)).toNat=Z:=by simp;omega
theorem back {V:BitVec 64}:u64.wrap (V.toNat:Nat)=(V.toNat:Int):=by
 have:=V.isLt;exact wrapU' ⟨by omega,by omega⟩
theorem or_low {p q:Int}(k:Nat) {z:Int}(hz:0≤z) (hq:q=2^k*z) (hp:0≤p) (hk:p<2^k) (hs:q+p<18446744073709551616):bOr p q=q+p:=by
 obtain⟨Z,rfl⟩:=Int.eq_ofNat_of_zero_le hz;obtain⟨Y,rfl⟩:=Int.eq_ofNat_of_zero_le hp;have ex:(2:Int)^k*(Z:Nat)=((2^k*Z:Nat):Int):=by simp
 have hY:Y<2^k:=by
  have:((Y:Nat):Int)<((2^k:Nat):Int):=by simpa using hk
  exact Int.ofNat_lt.1 this
 subst hq;rw[ex] at hs ⊢;have hX:2^k*Z+Y<18446744073709551616:=by omega
 unfold bOr;rw[back,BitVec.toNat_or,ofU (by omega),ofU (by omega),Nat.or_comm,← Nat.two_pow_add_eq_or_of_lt hY];omega
theorem bNot_sign {p:Int}(hp:U p):bNot p 9223372036854775808=p % 9223372036854775808:=by
 obtain⟨h0,h1⟩:=hp;obtain⟨Z,rfl⟩:=Int.eq_ofNat_of_zero_le h0;unfold bNot;have e:(~~~(BitVec.ofInt 64 9223372036854775808)).toNat=2^63-1:=by decide
 rw[back,BitVec.toNat_and,ofU (by omega),e,Nat.and_two_pow_sub_one_eq_mod];omega
theorem xor_sign (r:Nat) (h:r<2^63):r ^^^ 2^63=2^63+r:=by
 have e:2^63+r=2^63 ||| r:=by
  have:=Nat.two_pow_add_eq_or_of_lt h 1;simpa using this
 rw[e];refine Nat.eq_of_testBit_eq fun i=> ?_;rw[Nat.testBit_xor,Nat.testBit_or,Nat.testBit_two_pow];by_cases hi:63=i
 ·subst hi;rw[Nat.testBit_lt_two_pow h];simp
 ·simp [hi]
theorem bXor_sign {p:Int}(hp:U p):bXor p 9223372036854775808=(p+9223372036854775808) % 18446744073709551616:=by
 obtain⟨h0,h1⟩:=hp;obtain⟨Z,rfl⟩:=Int.eq_ofNat_of_zero_le h0;unfold bXor;have e:(BitVec.ofInt 64 9223372036854775808).toNat=2^63:=by decide
 rw[back,BitVec.toNat_xor,ofU (by omega),e];by_cases hz:Z<2^63
 ·rw[xor_sign Z hz];omega
 ·have h2:=xor_sign (Z-2^63) (by omega);have e2:Z=(Z-2^63) ^^^ 2^63:=by rw[h2];omega
  have e3:Z ^^^ 2^63=Z-2^63:=by
   rw[e2,Nat.xor_assoc,Nat.xor_self,Nat.xor_zero,← e2]
  rw[e3];omega
end Go.Pt
namespace Go.Rn
open Go.Pt
theorem toQ_le {m:Int}{neg:Bool}{T:Nat}{E e:Int}{n:Nat}(h:(bitLen T:Int)+(E-e)≤n):toQ m neg T E e≤2^n:=by
 have a1:=(bitLen_spec T).1;unfold toQ;by_cases he:e≤E
 ·rw[if_pos he];have hp:0<2^(E-e).toNat:=Nat.pow_pos (by omega);have:=Nat.mul_le_mul_right (2^(E-e).toNat) (Nat.le_of_lt a1);rw[← Nat.pow_add] at this;have h2:=Nat.pow_le_pow_right (show 0<2 by omega) (show bitLen T+(E-e).toNat≤n by omega);omega
 ·rw[if_neg he];have b:=(rq_bd m neg T (e-E).toNat).2;have h2:=Nat.pow_le_pow_right (show 0<2 by omega) (show bitLen T≤n+(e-E).toNat by omega);have h3:T/2^(e-E).toNat<2^n:=by
   apply Nat.div_lt_of_lt_mul;rw[Nat.pow_add,Nat.mul_comm] at h2;omega
  omega
theorem low_hi (m:Int) (neg:Bool) (T:Nat) (E:Int):toQ m neg T E (lowE T E)≤9007199254740992:=by
 refine toQ_le (n:=53) ?_;unfold lowE lgN;split<;>omega
theorem lowE_ge (T:Nat) (E:Int): -1074≤lowE T E:=by unfold lowE;split<;>omega
theorem p0_nonneg (m:Int) (neg:Bool) (T:Nat) (E:Int):0≤p0 m neg T E:=by
 have:=lowE_ge T E;unfold p0;omega
theorem bey_or (m:Int) (neg:Bool):bey m neg=9218868437227405312∨bey m neg=9218868437227405311:=by unfold bey;split<;>simp
end Go.Rn
namespace Go.Wd
open Go.Rn
def W4.nat (x:W4):Nat:=x.val.toNat
theorem W4.nat_val {x:W4}(h:x.ok):x.val=(x.nat:Int):=by
 have:=(W4.val_bd h).1;unfold W4.nat;omega
theorem W4.nat_lt {x:W4}(h:x.ok):x.nat<2^256:=by
 have:=W4.val_bd h;have e:(2:Nat)^256=115792089237316195423570985008687907853269984665640564039457584007913129639936:=rfl;unfold W4.nat;omega
def ofN (n:Nat):W4:=W4.of (n:Int)
theorem ofN_ok (n:Nat):(ofN n).ok:=W4.ok_of _
theorem ofN_nat {n:Nat}(h:n<2^256):(ofN n).nat=n:=by
 have e:(2:Nat)^256=115792089237316195423570985008687907853269984665640564039457584007913129639936:=rfl;unfold W4.nat ofN;rw[W4.val_of];omega
theorem ofN_self {x:W4}(h:x.ok):ofN x.nat=x:=by
 unfold ofN;rw[← W4.nat_val h,W4.of_val h]
theorem of_mod (n:Int):W4.of (n % 115792089237316195423570985008687907853269984665640564039457584007913129639936)=W4.of n:=by
 unfold W4.of;refine W4.ext' ?_ ?_ ?_ ?_<;>dsimp only<;>omega
theorem ofN_mod (n:Nat):ofN (n % 2^256)=ofN n:=by
 have e:(2:Nat)^256=115792089237316195423570985008687907853269984665640564039457584007913129639936:=rfl;unfold ofN;rw[← of_mod (n:Int),e];congr 1
theorem ofN_zero:ofN 0=⟨0,0,0,0⟩:=by rfl
theorem ofN_big {n k:Nat}(h:256≤k):ofN (n*2^k)=⟨0,0,0,0⟩:=by
 rw[← ofN_mod];have:n*2^k % 2^256=0:=by
  obtain⟨j,rfl⟩:∃ j,k=j+256:=⟨k-256,by omega⟩;rw[Nat.pow_add,← Nat.mul_assoc,Nat.mul_mod_left]
 rw[this,ofN_zero]
theorem ofN_mul_mod (n k:Nat):ofN (n % 2^256*k)=ofN (n*k):=by
 rw[← ofN_mod (n % 2^256*k),← ofN_mod (n*k),Nat.mod_mul_mod]
theorem small_div {n k:Nat}(h:n<2^256) (hk:256≤k):n/2^k=0:=by
 have:=Nat.pow_le_pow_right (show 0<2 by omega) hk;exact Nat.div_eq_of_lt (by omega)
theorem small_mod {n k:Nat}(h:n<2^256) (hk:256≤k):n % 2^k=n:=by
 have:=Nat.pow_le_pow_right (show 0<2 by omega) hk;exact Nat.mod_eq_of_lt (by omega)
theorem cast_pow (k:Nat):((2:Int)^k)=((2^k:Nat):Int):=by simp
def tw (x:W4) (b:Bool):Nat:=2*x.nat+(match b with | true=>1 | false=>0)
theorem tw_div (x:W4) (b:Bool) (d:Nat):tw x b/2^(d+1)=x.nat/2^d:=by
 unfold tw;rw[Nat.pow_succ,Nat.mul_comm (2^d) 2,← Nat.div_div_eq_div_mul];congr 1;cases b<;>simp only<;>omega
theorem tw_mod (x:W4) (b:Bool) (d:Nat):tw x b % 2^(d+1)=2*(x.nat % 2^d)+(match b with | true=>1 | false=>0):=by
 unfold tw;rw[Nat.pow_succ,Nat.mul_comm (2^d) 2,Nat.mod_mul];have e:(2*x.nat+(match b with | true=>1 | false=>0))/2=x.nat:=by cases b<;>simp only<;>omega
 rw[e];cases b<;>simp only<;>omega
theorem tw_zero {x:W4}{b:Bool}(h:x.ok):tw x b=0↔(eqW x ⟨0,0,0,0⟩ && !b)=true:=by
 have e:x.nat=0↔x=⟨0,0,0,0⟩:=by
  constructor
  ·intro h0;rw[← ofN_self h,h0,ofN_zero]
  ·intro h0;rw[h0];rfl
 rw[Xh,eqW_iff,← e];unfold tw;cases b<;>simp<;>omega
theorem rc_none {x:W4}{d:Nat}(h:x.nat % 2^d=0):restC (tw x false % 2^(d+1)) (2^(d+1))=0:=by
 rw[tw_mod,h];simp [restC]
theorem rc_zero {x:W4}:restC (tw x true % 2^(0+1)) (2^(0+1))=2:=by
 rw[tw_mod];simp [restC,Nat.mod_one]
theorem mod_bit (V j:Nat):V % 2^(j+1)=V % 2^j+2^j*(V/2^j % 2):=by rw[Nat.pow_succ,Nat.mod_mul]
theorem rc_below {x:W4}{b:Bool}{j:Nat}(h:x.nat/2^j % 2=0) (h0:x.nat % 2^(j+1)≠0∨b=true):restC (tw x b % 2^(j+1+1)) (2^(j+1+1))=1:=by
 have hp:0<2^j:=Nat.pow_pos (by omega);have hm:=mod_bit x.nat j;rw[h,Nat.mul_zero,Nat.add_zero] at hm;have hl:=Nat.mod_lt x.nat hp;rw[hm] at h0;rw[tw_mod,hm,Nat.pow_succ,Nat.pow_succ];unfold restC;cases b
 ·simp only[Bool.false_eq_true,or_false] at*;rw[if_neg (by omega),if_pos (by omega)]
 ·simp only;rw[if_neg (by omega),if_pos (by omega)]
theorem rc_above {x:W4}{b:Bool}{j:Nat}(h:x.nat/2^j % 2=1) (h0:x.nat % 2^j≠0∨b=true):restC (tw x b % 2^(j+1+1)) (2^(j+1+1))=3:=by
 have hp:0<2^j:=Nat.pow_pos (by omega);have hm:=mod_bit x.nat j;rw[h,Nat.mul_one] at hm;rw[tw_mod,hm,Nat.pow_succ,Nat.pow_succ];unfold restC;cases b
 ·simp only[Bool.false_eq_true,or_false] at*;rw[if_neg (by omega),if_neg (by omega),if_neg (by omega)]
 ·simp only;rw[if_neg (by omega),if_neg (by omega),if_neg (by omega)]
theorem rc_half {x:W4}{j:Nat}(h:x.nat/2^j % 2=1) (h0:x.nat % 2^j=0):restC (tw x false % 2^(j+1+1)) (2^(j+1+1))=2:=by
 have hp:0<2^j:=Nat.pow_pos (by omega);have hm:=mod_bit x.nat j;rw[h,h0,Nat.mul_one] at hm;rw[tw_mod,hm,Nat.pow_succ,Nat.pow_succ];unfold restC;simp only;rw[if_neg (by omega),if_neg (by omega),if_pos (by omega)]
theorem back_iff {x:W4}(hx:x.ok) {j:Nat}(h:x.nat/2^j % 2=1):eqW x (ofN ((2*(x.nat/2^(j+1))+1)*2^j))=decide (x.nat % 2^j=0):=by
 have hl:=W4.nat_lt hx;have hm:=mod_bit x.nat j;rw[h,Nat.mul_one] at hm;have hd:=Nat.div_add_mod x.nat (2^(j+1));have e:(2*(x.nat/2^(j+1))+1)*2^j=x.nat-x.nat % 2^j:=by
  rw[Nat.pow_succ] at hd hm ⊢;rw[Nat.add_mul,Nat.one_mul,Nat.mul_comm 2,Nat.mul_assoc,Nat.mul_comm 2,Nat.mul_comm];omega
 rw[e,Bool.eq_iff_iff,eqW_iff,Xi];have hle:x.nat % 2^j≤x.nat:=Nat.mod_le _ _;constructor
 ·intro hh;have:=congrArg W4.nat hh;rw[ofN_nat (by omega)] at this;omega
 ·intro hh;rw[hh,Nat.sub_zero,ofN_self hx]
end Go.Wd
namespace Go.Proofs.YtdlpffgekmidnabDoor
open Go.Proofs.Tryd
open Go.KRun Go.Wd
set_option maxRecDepth 100000
def conFA:Con:=alt 64 (g2 (plain2 mulV4)) (alt 56 (g1n (plain1n shrV4)) (alt 42 (g1n (plain1n shlV4)) (alt 41 (g1 lenV4) (alt 57 (g2 (plain2 addV4)) conN))))
theorem conFA_ok:ConOk conFA:=alt_ok func64 rfl (plain2_ok mul_calls) (alt_ok func56 rfl (plain1n_ok shr_calls) (alt_ok func42 rfl (plain1n_ok shl_calls) (alt_ok func41 rfl (g1_ok wlen_calls) (alt_ok func57 rfl (plain2_ok add_calls) conN_ok))))
def mLo (a b:W4):W4:=W4.of (a.val*b.val)
def mHi (a b:W4):W4:=W4.of (a.val*b.val/115792089237316195423570985008687907853269984665640564039457584007913129639936)
def fmW (a b:W4):W4:=W4.of ((shlW (mHi a b) 8).val+(shrW (mLo a b) 248).val)
def q2 (a b:W4):Bool×Bool:=(decide (a.ok∧b.ok),true)
def qk (a:W4) (n:Int):Bool×Bool:=(decide (a.ok∧ -9223372036854775808≤n∧n≤9223372036854775807),true)
theorem fm_fits (a b:W4):Fits (reckon (tabOf prog extY conFA true) 300 53 [vW a,vW b] []) (.tuple #[vW (fmW a b),.bool (decide (lenI (mHi a b)>248))]) [(decide (mHi a b).ok,true),q2 (shlW (mHi a b) 8) (shrW (mLo a b) 248),qk (mHi a b) 8,qk (mLo a b) 248,q2 a b]:=by and_intros<;>kernel_rfl
theorem len_gt {n k:Nat}:k<bitLen n↔2^k≤n:=by
 have h:=bitLen_spec n;constructor
 ·intro c;have hn:n≠0:=by
   rintro rfl;exact absurd c (by decide+revert)
  exact Nat.le_trans (Nat.pow_le_pow_right (by omega) (by omega)) (h.2 hn)
 ·intro c;rcases Nat.lt_or_ge k (bitLen n) with e | e
  ·exact e
  ·have:=Nat.pow_le_pow_right (show 0<2 by omega) e;omega
theorem lenI_gt (x:W4) (k:Nat):lenI x>k↔2^k≤x.nat:=by
 unfold lenI W4.nat;have:= @len_gt x.val.toNat k;omega
def fmI (a b:W4):Int:=a.val*b.val/452312848583266388373324160190187140051835877600158453279131187530910662656
def fmV4 (a b:W4):Value:= .tuple #[vW (W4.of (fmI a b)),.bool (decide (115792089237316195423570985008687907853269984665640564039457584007913129639936≤fmI a b))]
theorem mul_bd2 {a b:W4}(ha:a.ok) (hb:b.ok):0≤a.val*b.val∧a.val*b.val<115792089237316195423570985008687907853269984665640564039457584007913129639936*115792089237316195423570985008687907853269984665640564039457584007913129639936:=by
 have h1:=W4.val_bd ha;have h2:=W4.val_bd hb;have h3:=Int.mul_nonneg h1.1 h2.1;have h4:=Int.mul_le_mul (show a.val≤115792089237316195423570985008687907853269984665640564039457584007913129639935 by omega) (show b.val≤115792089237316195423570985008687907853269984665640564039457584007913129639935 by omega) h2.1 (by omega);constructor
 ·exact h3
 ·exact Int.lt_of_le_of_lt h4 (by decide)
theorem fm_calls (a b:W4) (ha:a.ok) (hb:b.ok) (w:World):Calls prog 53 #[vW a,vW b] w fun e w'=>e= .returned (fmV4 a b)∧Tidy w w':=by
 have h:=fits_calls (tabY_ok conFA_ok) (fm_fits a b) (okCons (Xa (W4.ok_of _)) (okCons (Xa ⟨by unfold shlW;rw[if_neg (by decide),if_neg (by decide)];exact W4.ok_of _,by unfold shrW;rw[if_neg (by decide),if_neg (by decide)];exact W4.ok_of _⟩) (okCons (Xa ⟨W4.ok_of _,by omega,by omega⟩) (okCons (Xa ⟨W4.ok_of _,by omega,by omega⟩) (okL1 (Xa ⟨ha,hb⟩)))))) (by rfl) (by rfl) w;have bd:=mul_bd2 ha hb;have e1:fmW a b=W4.of (fmI a b):=by
  have e8:(2:Int)^(8:Int).toNat=256:=rfl;have e248:(2:Int)^(248:Int).toNat=452312848583266388373324160190187140051835877600158453279131187530910662656:=by rfl
  unfold fmW shlW shrW mHi mLo fmI;rw[if_neg (by decide),if_neg (by decide),if_neg (by decide),if_neg (by decide),e8,e248];simp only[W4.val_of];generalize a.val*b.val=P at*;rw[← of_mod (_+_),← of_mod (P/_)];congr 1;omega
 have e2:decide (lenI (mHi a b)>248)=decide (115792089237316195423570985008687907853269984665640564039457584007913129639936≤fmI a b):=by
  rw[decide_eq_decide];have g:=lenI_gt (mHi a b) 248;have p:(2:Nat)^248=452312848583266388373324160190187140051835877600158453279131187530910662656:=by rfl
  rw[p] at g;have:(mHi a b).nat=(a.val*b.val/115792089237316195423570985008687907853269984665640564039457584007913129639936).toNat:=by
   unfold W4.nat mHi;rw[W4.val_of,Int.emod_eq_of_lt (by omega) (by omega)]
  rw[this] at g;unfold fmI;generalize a.val*b.val=P at*;omega
 rw[e1,e2] at h;exact h
end Go.Proofs.YtdlpffgekmidnabDoor
namespace Go.Fx
def sm (f:Nat→Rat):Nat→Rat
 | 0=>0
 | n+1=>sm f n+f n
theorem sm_add (f g:Nat→Rat):∀ n,sm (fun i=>f i+g i) n=sm f n+sm g n
 | 0=>by simp only[sm];grind
 | n+1=>by simp only[sm];rw[sm_add f g n];grind
theorem sm_congr {f g:Nat→Rat}:∀ {n:Nat},(∀ i,i<n→f i=g i)→sm f n=sm g n
 | 0,_=>rfl
 | n+1,h=>by simp only[sm];rw[sm_congr (n:=n) fun i hi=>h i (by omega),h n (by omega)]
theorem sm_head (f:Nat→Rat):∀ n,sm f (n+1)=f 0+sm (fun i=>f (i+1)) n
 | 0=>by simp only[sm];grind
 | n+1=>by
  have:=sm_head f n;simp only[sm] at this ⊢;rw[this]
  grind
def pf (a:Rat):Nat→Rat
 | 0=>1
 | m+1=>pf a m*a/((m+1:Nat):Rat)
theorem sm_neg (f:Nat→Rat):∀ n,sm (fun i=> -f i) n= -sm f n
 | 0=>by simp only[sm];grind
 | n+1=>by simp only[sm];rw[sm_neg f n];grind
def snI (k:Nat):Rat:=if k % 4=1 then 1 else if k % 4=3 then -1 else 0
def s15 (x:Rat) (k:Nat):Rat:=snI k*pf x k
def mns (j:Nat):Rat:=if j % 2=0 then 1 else -1
def al (a:Nat→Rat) (n:Nat):Rat:=sm (fun k=>mns k*a k) n
theorem mns_zero:mns 0=1:=rfl
theorem mns_succ (j:Nat):mns (j+1)= -mns j:=by
 unfold mns;rcases Nat.mod_two_eq_zero_or_one j with c | c
 ·rw[if_neg (show ¬ (j+1) % 2=0 by omega),if_pos c]
 ·rw[if_pos (show (j+1) % 2=0 by omega),if_neg (show ¬ j % 2=0 by omega)]
  grind
theorem al_succ (a:Nat→Rat) (n:Nat):al a (n+1)=a 0-al (fun k=>a (k+1)) n:=by
 unfold al;rw[sm_head,mns_zero];have:sm (fun i=>mns (i+1)*a (i+1)) n= -sm (fun k=>mns k*a (k+1)) n:=by
  rw[← sm_neg];refine sm_congr fun i hi=> ?_;rw[mns_succ]
  grind
 rw[this]
 grind
theorem al_bd:∀ (n:Nat) (a:Nat→Rat),(∀ k,0≤a k)→(∀ k,a (k+1)≤a k)→0≤al a n∧al a n≤a 0
 | 0,a,h,_=>by
  have:al a 0=0:=rfl;have:=h 0;constructor<;>grind
 | n+1,a,h,g=>by
  have h1:=al_bd n (fun k=>a (k+1)) (fun k=>h (k+1)) fun k=>g (k+1);have h2:=g 0;rw[al_succ];simp only[Nat.zero_add] at h1 h2;constructor<;>grind
theorem s15_al (x:Rat):∀ n,sm (s15 x) (2*n)=al (fun k=>pf x (2*k+1)) n
 | 0=>rfl
 | n+1=>by
  have h:=s15_al x n;have e1:snI (2*n)=0:=by
   unfold snI;rw[if_neg (by omega),if_neg (by omega)]
  have e2:snI (2*n+1)=mns n:=by
   unfold snI mns;rcases Nat.mod_two_eq_zero_or_one n with c | c
   ·rw[if_pos (by omega),if_pos c]
   ·rw[if_neg (by omega),if_pos (by omega),if_neg (by omega)]
  show sm (s15 x) (2*n)+s15 x (2*n)+s15 x (2*n+1)=al _ n+mns n*pf x (2*n+1);rw[h];unfold s15;rw[e1,e2]
  grind
def tm (U s f n0:Nat):Nat→Nat
 | 0=>f
 | k+1=>tm U s f n0 k*s/U/((n0+2*k)*(n0+2*k+1))
def sr (U s f n0:Nat):Nat→Int
 | 0=>0
 | k+1=>if k % 2=0 then sr U s f n0 k+tm U s f n0 k else sr U s f n0 k-tm U s f n0 k
theorem sr_al (U s f n0:Nat):∀ n,((sr U s f n0 n:Int):Rat)=al (fun k=>((tm U s f n0 k:Nat):Rat)) n
 | 0=>rfl
 | n+1=>by
  have h:=sr_al U s f n0 n;show _=al (fun k=>((tm U s f n0 k:Nat):Rat)) n+mns n*((tm U s f n0 n:Nat):Rat);simp only[sr];unfold mns;split
  ·rw[Rat.intCast_add,h,Rat.intCast_natCast]
   grind
  ·rw[Rat.intCast_sub,h,Rat.intCast_natCast]
   grind
theorem tm_less {U s f n0:Nat}(hU:0<U) (hs:s≤U) (k:Nat):tm U s f n0 (k+1)≤tm U s f n0 k:=by
 simp only[tm];refine Nat.le_trans (Nat.div_le_self _ _) ?_;refine Nat.le_trans (Nat.div_le_div_right (Nat.mul_le_mul_left _ hs)) ?_;rw[Nat.mul_div_cancel _ hU];exact Nat.le_refl _
theorem sr_bd {U s f n0:Nat}(hU:0<U) (hs:s≤U) (n:Nat):0≤sr U s f n0 n∧sr U s f n0 n≤f:=by
 have h:=al_bd n (fun k=>((tm U s f n0 k:Nat):Rat)) (fun k=>by exact_mod_cast Nat.zero_le _) fun k=>by
  have:=tm_less (f:=f) (n0:=n0) hU hs k
  exact_mod_cast this
 rw[← sr_al] at h;constructor
 ·exact_mod_cast h.1
 ·have h2:=h.2;have e:((tm U s f n0 0:Nat):Rat)=((f:Nat):Rat):=rfl;rw[e,← Rat.intCast_natCast] at h2
  exact_mod_cast h2
theorem tm_le {U s f n0:Nat}(hU:0<U) (hs:s≤U):∀ k,tm U s f n0 k≤f
 | 0=>Nat.le_refl _
 | k+1=>Nat.le_trans (tm_less hU hs k) (tm_le hU hs k)
theorem tm_none {U s f n0 j:Nat}(h:tm U s f n0 j=0):∀ d,tm U s f n0 (j+d)=0
 | 0=>h
 | d+1=>by
  have:=tm_none h d;show tm U s f n0 (j+d)*s/U/_=0;rw[this,Nat.zero_mul,Nat.zero_div,Nat.zero_div]
theorem sr_stop {U s f n0 j:Nat}(h:tm U s f n0 j=0):∀ d,sr U s f n0 (j+d)=sr U s f n0 j
 | 0=>rfl
 | d+1=>by
  have h1:=sr_stop h d;have h2:=tm_none h d;show (if (j+d) % 2=0 then sr U s f n0 (j+d)+((tm U s f n0 (j+d):Nat):Int) else sr U s f n0 (j+d)-((tm U s f n0 (j+d):Nat):Int))=_;rw[h1,h2];split<;>omega
def sS (U n x:Nat):Int:=sr U (x*x/U) x 2 n
def cS (U n x:Nat):Int:=sr U (x*x/U) U 1 n
theorem sq_le {U x:Nat}(hU:0<U) (hx:x≤U):x*x/U≤U:=by
 have:=Nat.mul_le_mul_left x hx;exact Nat.le_trans (Nat.div_le_div_right this) (by rw[Nat.mul_div_cancel _ hU];exact hx)
theorem sS_bd {U x:Nat}(hU:0<U) (hx:x≤U) (n:Nat):0≤sS U n x∧sS U n x≤x:=sr_bd hU (sq_le hU hx) n
theorem cS_bd {U x:Nat}(hU:0<U) (hx:x≤U) (n:Nat):0≤cS U n x∧cS U n x≤U:=sr_bd hU (sq_le hU hx) n
def uP:Nat:=2^248
theorem uP_pos:0<uP:=by decide
def lo32 (S:Int):Nat:=(S-32).toNat
def hi32 (S:Int):Nat:=(S+32).toNat
structure Fx (x:Nat) (s c:Rat):Prop where
 s0:0≤s
 c0:((uP:Nat):Rat)≤2*c
 sl:((sS uP 29 x:Int):Rat)≤s+29
 sh:s≤((sS uP 29 x:Int):Rat)+31
 cl:((cS uP 29 x:Int):Rat)≤c+29
 ch:c≤((cS uP 29 x:Int):Rat)+31
end Go.Fx
namespace Go.Proofs.YtdlpffgekmidnabDoor
open Go.Proofs.Tryd
open Go.IntKind
open Go.KRun Go.Wd
set_option maxRecDepth 100000
def conFB:Con:=alt 53 (g2 (plain2 fmV4)) (alt 63 gQR conFA)
theorem conFB_ok:ConOk conFB:=alt_ok func53 rfl (plain2_ok fm_calls) (alt_ok func63 rfl gQR_ok conFA_ok)
def ptD (n:Int):W4:=⟨u64.wrap (n*u64.wrap (n+1)),0,0,0⟩
def ptW (t s:W4) (n:Int):W4:=W4.of ((W4.of (fmI t s)).val/(ptD n).val)
theorem pt_fits (t s:W4) (n:Int):Fits (reckon (tabOf prog extY conFB true) 300 61 [vW t,vW s,.int .u64 n] []) (vW (ptW t s n)) [nz2 (W4.of (fmI t s)) (ptD n),nz2 (W4.of (fmI t s)) (ptD n),nz2 (W4.of (fmI t s)) (ptD n),nz2 (W4.of (fmI t s)) (ptD n),nz2 (W4.of (fmI t s)) (ptD n),nz2 (W4.of (fmI t s)) (ptD n),nz2 (W4.of (fmI t s)) (ptD n),nz2 (W4.of (fmI t s)) (ptD n),nz2 (W4.of (fmI t s)) (ptD n),nz2 (W4.of (fmI t s)) (ptD n),nz2 (W4.of (fmI t s)) (ptD n),q2 t s]:=by and_intros<;>kernel_rfl
def okPt (t s:W4) (n:Int):Bool×Bool:=(decide (t.ok∧s.ok∧fmI t s<115792089237316195423570985008687907853269984665640564039457584007913129639936∧1≤n∧n≤1000),true)
theorem pt_calls (t s:W4) (n:Int) (h:t.ok∧s.ok∧fmI t s<115792089237316195423570985008687907853269984665640564039457584007913129639936∧1≤n∧n≤1000) (w:World):Calls prog 61 #[vW t,vW s,.int .u64 n] w fun e w'=>e= .returned (vW (W4.of (fmI t s/(n*(n+1)))))∧Tidy w w':=by
 obtain⟨ht,hs,hf,h1,h2⟩:=h;have h0:0≤fmI t s:=Int.ediv_nonneg (mul_bd2 ht hs).1 (by omega);have bn:0<n*(n+1):=Int.mul_pos (by omega) (by omega);have bm:n*(n+1)≤1000*1001:=Int.mul_le_mul h2 (by omega) (by omega) (by omega);have ew:u64.wrap (n*u64.wrap (n+1))=n*(n+1):=by
  rw[wrap_u64' (n:=n+1) (by omega) (by omega),wrap_u64' (by omega) (by omega)]
 have eD:ptD n=⟨n*(n+1),0,0,0⟩:=by unfold ptD;rw[ew]
 have vD:(ptD n).val=n*(n+1):=by rw[eD];unfold W4.val;dsimp only;omega
 have oD:(ptD n).ok:=by rw[eD];exact⟨⟨by dsimp only;omega,by dsimp only;omega⟩,z64,z64,z64⟩
 have e1:ptW t s n=W4.of (fmI t s/(n*(n+1))):=by
  unfold ptW;rw[vD,W4.val_of,Int.emod_eq_of_lt h0 hf]
 have q:(nz2 (W4.of (fmI t s)) (ptD n)).1=(nz2 (W4.of (fmI t s)) (ptD n)).2:=Xa ⟨W4.ok_of _,oD,by rw[vD];omega⟩;rw[← e1];exact fits_calls (tabY_ok conFB_ok) (pt_fits t s n) ((okCons q (okCons q (okCons q (okCons q (okCons q (okCons q (okCons q (okCons q (okCons q (okCons q (okCons q (okL1 (Xa ⟨ht,hs⟩)))))))))))))) (by rfl) (by rfl) w
def gPrt:Ans:=fun vals s=>
 match vals with
 | [x,y,.int .u64 n]=>
  match w4 x,w4 y with
  | some a,some b=>some (vW (W4.of (fmI a b/(n*(n+1)))),s,[okPt a b n])
  | _,_=>none
 | _=>none
theorem gPrt_ok:AnsOk 61 gPrt:=by
 intro vals s v s' lg h hl w;unfold gPrt at h;split at h
 ·split at h
  ·rename_i a b ha hb;cases h;have h1:=hl _ Xf;simp only[okPt,Xi] at h1;rw[w4_spec ha,w4_spec hb];exact pt_calls a b _ h1 w
  ·cases h
 ·cases h
def conFC:Con:=alt 59 (g2 subB) (alt 57 (g2 (plain2 addV4)) conN)
theorem conFC_ok:ConOk conFC:=alt_ok func59 rfl subB_ok (alt_ok func57 rfl (plain2_ok add_calls) conN_ok)
def w32:W4:=⟨32,0,0,0⟩
theorem bd_low (x:W4):Fits (reckon (tabOf prog extY conFC true) 300 50 [vW x] [tst true]) (.tuple #[vW ⟨0,0,0,0⟩,vW (W4.of (x.val+w32.val))]) [q2 x w32,q2 x w32,(decide (x.val<w32.val),true)]:=by and_intros<;>kernel_rfl
theorem bd_in (x:W4):Fits (reckon (tabOf prog extY conFC true) 300 50 [vW x] [tst false]) (.tuple #[vW (W4.of (x.val-w32.val)),vW (W4.of (x.val+w32.val))]) [q2 x w32,q2 x w32,(decide (x.val<w32.val),false)]:=by and_intros<;>kernel_rfl
def bdV4 (x:W4):Value:= .tuple #[vW (ofN (Go.Fx.lo32 x.val)),vW (ofN (Go.Fx.hi32 x.val))]
theorem bd_calls (x:W4) (hx:x.ok) (w:World):Calls prog 50 #[vW x] w fun e w'=>e= .returned (bdV4 x)∧Tidy w w':=by
 have b:=W4.val_bd hx;have v:w32.val=32:=by rfl
 have o:w32.ok:=⟨⟨by decide,by decide⟩,z64,z64,z64⟩;have q:(q2 x w32).1=(q2 x w32).2:=Xa ⟨hx,o⟩;have e2:ofN (Go.Fx.hi32 x.val)=W4.of (x.val+w32.val):=by
  unfold ofN Go.Fx.hi32;rw[v,Int.toNat_of_nonneg (by omega)]
 unfold bdV4;rw[e2];by_cases c:x.val<w32.val
 ·have e1:ofN (Go.Fx.lo32 x.val)=⟨0,0,0,0⟩:=by
   unfold Go.Fx.lo32;rw[show (x.val-32).toNat=0 by omega];exact ofN_zero
  rw[e1];exact fits_calls (tabY_ok conFC_ok) (bd_low x) (okCons q (okCons q (okL1 (Xa c)))) (by rfl) (by rfl) w
 ·have e1:ofN (Go.Fx.lo32 x.val)=W4.of (x.val-w32.val):=by
   unfold ofN Go.Fx.lo32;rw[v,Int.toNat_of_nonneg (by omega)]
  rw[e1];exact fits_calls (tabY_ok conFC_ok) (bd_in x) (okCons q (okCons q (okL1 (Xb c)))) (by rfl) (by rfl) w
end Go.Proofs.YtdlpffgekmidnabDoor
namespace Go.KRun
open Go.RowKit
theorem tidy_trans {a b c:World}(h1:Tidy a b) (h2:Tidy b c):Tidy a c:=by
 refine⟨h1.1.trans (h2.1.mono h1.1.size),fun k hk hk'=> ?_⟩;by_cases h:k<b.heap.size
 ·rw[h2.1.block k h];exact h1.2 k hk h
 ·exact h2.2 k (by omega) hk'
theorem tidy_alloc (w:World) (cs:Array Value) (e:TypeId):Tidy w (w.alloc (.cells cs e (0,0))):=by
 refine⟨Below.alloc (Below.refl _ _) (Nat.le_refl _) _,fun k hk hk'=> ?_⟩;rw[size_alloc'] at hk';have:k=w.heap.size:=by omega
 subst this;exact iced_cells (heap_alloc_at w _)
theorem tidy_setCell {a w:World}(h:Tidy a w) {b:Nat}{v:Value}{t:TypeId}(hb:a.heap.size≤b) (hc:w.heap[b]? =some (.cells #[v] t (0,0))) (u:Value):Tidy a (w.setCell ⟨b,0,none⟩ u):=by
 refine⟨Below.setCell h.1 hb u,fun k hk hk'=> ?_⟩;by_cases hkb:k=b
 ·subst hkb;exact iced_cells (one_setCell hc)
 ·rw[Below.heap_setCell w ⟨b,0,none⟩ u k hkb];refine h.2 k hk ?_;have hs:(w.setCell ⟨b,0,none⟩ u).heap.size=w.heap.size:=by simp [World.setCell]
  omega
theorem RunsW.forLoop {T:Tab}{c:Code}{id:Nat}{x:Lf}{P:Lf→Prop}{R:Lf→Prop}(Inv:Nat→Lf→Prop)
  (round:∀ n x,Inv n x→RunsW T c x fun e y=>match e with | none=>∃ n',n'<n∧Inv n' y | some none=>R y | some (some id')=>id'=id∧P y) {n:Nat}(h0:Inv n x):
  RunsW T (.block id (.loop c)) x fun e y=>match e with | none=>P y | some none=>R y | some (some _)=>False:=by
 refine RunsW.block (P1:=fun e y=>match e with | none=>False | some none=>R y | some (some id')=>id'=id∧P y) ?_ (fun y he=>he.elim) (fun y he=>he) (fun y he=>he.2) (fun id' y hid he=>absurd he.1 hid);refine RunsW.loop Inv (fun n x hI=>(round n x hI).mono fun e y he=> ?_) h0
 match e,he with
 | none,he=>exact he
 | some none,he=>exact he
 | some (some id'),he=>exact he
theorem goesT_runsW {T:Tab}(hT:TabOk T) {N:Nat}{c:Code}{t:List Value}{h h':Hp}{s s0:List Dec}{k n:Nat}{e:Ex}{front:List Value}{cs:Log}(hG:GoesT (evC T N false c (t,h,s) ⟨[],[],[]⟩) k n e front h' cs) (hcs:okLog cs):
  RunsW T c (t,h,s0) fun e' y=>e'=e∧(∃ g,y.1=front++tl n g)∧y.2.1=h':=(goesT_runs hT hG hcs).w
theorem tl_len (n:Nat) (g:Nat→Value):(tl n g).length=n:=by simp [tl]
end Go.KRun
namespace Go.Proofs.YtdlpffgekmidnabDoor
open Go.Proofs.Tryd
open Go.IntKind
open Go.KRun Go.Wd
set_option maxRecDepth 100000
def conFS:Con:=alt 61 gPrt (alt 53 (g2 (plain2 fmV4)) (alt 59 (g2 (plain2 subV4)) (alt 57 (g2 (plain2 addV4)) conN)))
theorem conFS_ok:ConOk conFS:=alt_ok func61 rfl gPrt_ok (alt_ok func53 rfl (plain2_ok fm_calls) (alt_ok func59 rfl (plain2_ok sub_calls) (alt_ok func57 rfl (plain2_ok add_calls) conN_ok)))
def srP (F:Func):List Code:=[cFst (cBody F),cFst (cSnd (cBody F)),cFst (cSnd (cSnd (cBody F)))]
def srI (F:Func):Code:=cFst (cFst (cSnd (cSnd (cSnd (cBody F)))))
def srL (F:Func):Code:=cIn (cIn (cSnd (cFst (cSnd (cSnd (cSnd (cBody F)))))))
def srE (F:Func):Code:=cSnd (cSnd (cSnd (cSnd (cBody F))))
theorem sr_body:f51.body=some (seqs (srP f51) (.seq (.seq (srI f51) (.block 0 (.loop (srL f51)))) (srE f51))):=by kernel_rfl
def aFx (n:Nat):Value:= .pointer (some ⟨n,0,none⟩)
def kFx (x:W4):List Value×TypeId:=([.int .u64 x.a,.int .u64 x.b,.int .u64 x.c,.int .u64 x.d],86)
def srH (t x q y:W4):Hp:=⟨5,[kFx y,kFx q,kFx ⟨0,0,0,0⟩,kFx x,kFx t]⟩
def srF (v0 v1:Value) (n:Int) (v5 v8 v10 v11 v12 v13 v14 v15 v16 v17:Value) (k:Int):List Value:=[v0,v1,.int .u64 n,aFx 0,aFx 1,v5,aFx 2,aFx 3,v8,aFx 4,v10,v11,v12,v13,v14,v15,v16,v17,.int .u64 k]
theorem sr_pre (t x:W4) (n:Int):GoesT (evL (tabOf prog extY conFS true) 300 (srP f51) ([vW t,vW x,.int .u64 n]++List.replicate 39 undef,⟨0,[]⟩,[]) ⟨[],[],[]⟩) 18 24 none [vW t,vW x,.int .u64 n,aFx 0,aFx 1,undef,aFx 2,aFx 3,.bool (decide (115792089237316195423570985008687907853269984665640564039457584007913129639936≤fmI x x)),aFx 4,undef,fmV4 x x,vW x,vW x,fmV4 x x,vW (W4.of (fmI x x)),.bool (decide (115792089237316195423570985008687907853269984665640564039457584007913129639936≤fmI x x)),vW t] (srH t x (W4.of (fmI x x)) t) [q2 x x]:=by and_intros<;>kernel_rfl
theorem sr_i (v0 v1 v2 v3 v4 v5 v6 v7 v8 v9 v10 v11 v12 v13 v14 v15 v16 v17:Value) (g:Nat→Value) (h:Hp):GoesT (evC (tabOf prog extY conFS true) 100 false (srI f51) ([v0,v1,v2,v3,v4,v5,v6,v7,v8,v9,v10,v11,v12,v13,v14,v15,v16,v17]++tl 24 g,h,[]) ⟨[],[],[]⟩) 19 23 none [v0,v1,v2,v3,v4,v5,v6,v7,v8,v9,v10,v11,v12,v13,v14,v15,v16,v17,.int .u64 0] h []:=by and_intros<;>kernel_rfl
section
variable (v0 v1 v5 v8 v10 v11 v12 v13 v14 v15 v16 v17 : Value) (t x q y : W4) (n k : Int) (g : Nat → Value)
def srT (t q:W4) (n k:Int):W4:=W4.of (fmI t q/(u64.wrap (n+u64.wrap (2*k))*(u64.wrap (n+u64.wrap (2*k))+1)))
def srO (t q:W4) (n k:Int):Bool×Bool:=okPt t q (u64.wrap (n+u64.wrap (2*k)))
theorem sr_out:GoesT (evC (tabOf prog extY conFS true) 100 false (srL f51) (srF v0 v1 n v5 v8 v10 v11 v12 v13 v14 v15 v16 v17 k++tl 23 g,srH t x q y,[cmp false]) ⟨[],[],[]⟩) 19 23 (some (some 0)) (srF v0 v1 n v5 v8 v10 v11 v12 v13 v14 v15 v16 v17 k) (srH t x q y) [(decide (k<28),false)]:=by and_intros<;>kernel_rfl
theorem sr_brk:GoesT (evC (tabOf prog extY conFS true) 100 false (srL f51) (srF v0 v1 n v5 v8 v10 v11 v12 v13 v14 v15 v16 v17 k++tl 23 g,srH t x q y,[cmp true,sam true]) ⟨[],[],[]⟩) 19 23 (some (some 0)) (srF v0 v1 n v5 v8 (.int .u64 k) v11 v12 v13 v14 v15 v16 v17 k) (srH (srT t q n k) x q y) [(eqW (srT t q n k) ⟨0,0,0,0⟩,true),srO t q n k,(decide (k<28),true)]:=by and_intros<;>kernel_rfl
theorem sr_less:GoesT (evC (tabOf prog extY conFS true) 100 false (srL f51) (srF v0 v1 n v5 v8 v10 v11 v12 v13 v14 v15 v16 v17 k++tl 23 g,srH t x q y,[cmp true,sam false,cmp false,cmp true]) ⟨[],[],[]⟩) 19 23 none (srF v0 v1 n v5 v8 (.int .u64 k) v11 v12 v13 v14 v15 v16 v17 (u64.wrap (k+1))) (srH (srT t q n k) x q (W4.of (y.val-(srT t q n k).val))) [q2 y (srT t q n k),(k.tmod 2==0,true),(decide ((2:Int)=0),false),(eqW (srT t q n k) ⟨0,0,0,0⟩,false),srO t q n k,(decide (k<28),true)]:=by and_intros<;>kernel_rfl
theorem sr_plus:GoesT (evC (tabOf prog extY conFS true) 100 false (srL f51) (srF v0 v1 n v5 v8 v10 v11 v12 v13 v14 v15 v16 v17 k++tl 23 g,srH t x q y,[cmp true,sam false,cmp false,cmp false]) ⟨[],[],[]⟩) 19 23 none (srF v0 v1 n v5 v8 (.int .u64 k) v11 v12 v13 v14 v15 v16 v17 (u64.wrap (k+1))) (srH (srT t q n k) x q (W4.of (y.val+(srT t q n k).val))) [q2 y (srT t q n k),(k.tmod 2==0,false),(decide ((2:Int)=0),false),(eqW (srT t q n k) ⟨0,0,0,0⟩,false),srO t q n k,(decide (k<28),true)]:=by and_intros<;>kernel_rfl
theorem sr_end:GoesT (evC (tabOf prog extY conFS true) 100 false (srE f51) (srF v0 v1 n v5 v8 v10 v11 v12 v13 v14 v15 v16 v17 k++tl 23 g,srH t x q y,[]) ⟨[],[],[]⟩) 19 23 (some none) (srF v0 v1 n v5 v8 v10 v11 v12 v13 v14 v15 v16 v17 k) ⟨5,[kFx y,kFx q,kFx y,kFx x,kFx t]⟩ []:=by and_intros<;>kernel_rfl
end
theorem uP_is:Go.Fx.uP=452312848583266388373324160190187140051835877600158453279131187530910662656:=by rfl
theorem of_sub (A b:Int):W4.of ((W4.of A).val-b)=W4.of (A-b):=by
 rw[W4.val_of,← of_mod (_-b),← of_mod (A-b)];congr 1;omega
theorem of_add (A b:Int):W4.of ((W4.of A).val+b)=W4.of (A+b):=by
 rw[W4.val_of,← of_mod (_+b),← of_mod (A+b)];congr 1;omega
theorem ofN_val {n:Nat}(h:n≤Go.Fx.uP):(ofN n).val=(n:Int):=by
 rw[uP_is] at h;unfold ofN;rw[W4.val_of];omega
theorem fmI_of {a b:Nat}(ha:a≤Go.Fx.uP) (hb:b≤Go.Fx.uP):fmI (ofN a) (ofN b)=((a*b/Go.Fx.uP:Nat):Int):=by
 unfold fmI;rw[ofN_val ha,ofN_val hb,uP_is];omega
theorem ofN_none {n:Nat}(h:n≤Go.Fx.uP):eqW (ofN n) ⟨0,0,0,0⟩=decide (n=0):=by
 rw[Bool.eq_iff_iff,eqW_iff,Xi];constructor
 ·intro e;have:=congrArg W4.val e;rw[ofN_val h] at this;have z:(⟨0,0,0,0⟩:W4).val=0:=rfl;omega
 ·rintro rfl;exact ofN_zero
section
variable (f x n : Nat)
def sqF:Nat:=x*x/Go.Fx.uP
def tF (k:Nat):Nat:=Go.Fx.tm Go.Fx.uP (sqF x) f n k
def yF (k:Nat):Int:=Go.Fx.sr Go.Fx.uP (sqF x) f n k
end
section
variable {f x n : Nat} (hf : f ≤ Go.Fx.uP) (hx : x ≤ Go.Fx.uP) (hn : 1 ≤ n ∧ n ≤ 100)
include hx in
theorem sqF_le:sqF x≤Go.Fx.uP:=Go.Fx.sq_le Go.Fx.uP_pos hx
include hf hx in
theorem tF_le (k:Nat):tF f x n k≤Go.Fx.uP:=Nat.le_trans (Go.Fx.tm_le Go.Fx.uP_pos (sqF_le hx) k) hf
include hf hx hn in
theorem srT_is {k:Nat}(hk:k<28):srT (ofN (tF f x n k)) (ofN (sqF x)) (n:Int) (k:Int)=ofN (tF f x n (k+1))∧(srO (ofN (tF f x n k)) (ofN (sqF x)) (n:Int) (k:Int)).1=(srO (ofN (tF f x n k)) (ofN (sqF x)) (n:Int) (k:Int)).2:=by
 have ew:u64.wrap ((n:Int)+u64.wrap (2*(k:Int)))=((n+2*k:Nat):Int):=by
  rw[wrap_u64' (n:=2*(k:Int)) (by omega) (by omega),wrap_u64' (by omega) (by omega)];omega
 have hfm:=fmI_of (tF_le hf hx k) (sqF_le hx) (a:=tF f x n k);have hle:tF f x n k*sqF x/Go.Fx.uP≤Go.Fx.uP:=by
  have:=Nat.mul_le_mul (tF_le hf hx k (n:=n)) (sqF_le hx);exact Nat.le_trans (Nat.div_le_div_right this) (by rw[Nat.mul_div_cancel _ Go.Fx.uP_pos];exact Nat.le_refl _)
 constructor
 ·unfold srT ofN;rw[ew];unfold ofN at hfm;rw[hfm];congr 1
 ·unfold srO okPt;rw[ew];have n1:(1:Int)≤((n+2*k:Nat):Int):=by omega
  have n2:((n+2*k:Nat):Int)≤1000:=by omega
  have hl:fmI (ofN (tF f x n k)) (ofN (sqF x))<115792089237316195423570985008687907853269984665640564039457584007913129639936:=by
   rw[hfm];clear hfm;generalize tF f x n k*sqF x/Go.Fx.uP=p at*;rw[uP_is] at hle;omega
  dsimp only;exact Xa ⟨ofN_ok _,ofN_ok _,hl,n1,n2⟩
def sI (f x n:Nat) (v0 v1 v5 v8 v11 v12 v13 v14 v15 v16 v17:Value) (k:Nat) (y:Lf):Prop:=∃ v10 g,y.1=srF v0 v1 (n:Int) v5 v8 v10 v11 v12 v13 v14 v15 v16 v17 (k:Int)++tl 23 g∧y.2.1=srH (ofN (tF f x n k)) (ofN x) (ofN (sqF x)) (W4.of (yF f x n (k+1)))
def sFinX (f x n:Nat) (v0 v1 v5 v8 v11 v12 v13 v14 v15 v16 v17:Value) (y:Lf):Prop:=∃ v10 t k g,y.1=srF v0 v1 (n:Int) v5 v8 v10 v11 v12 v13 v14 v15 v16 v17 k++tl 23 g∧y.2.1=srH t (ofN x) (ofN (sqF x)) (W4.of (yF f x n 29))
include hf hx hn in
theorem sr_round (v0 v1 v5 v8 v11 v12 v13 v14 v15 v16 v17:Value) {k:Nat}(hk:k≤28) {y:Lf}(h:sI f x n v0 v1 v5 v8 v11 v12 v13 v14 v15 v16 v17 k y):
  Runs (tabOf prog extY conFS true) (srL f51) y fun e z=>match e with | none=>k<28∧sI f x n v0 v1 v5 v8 v11 v12 v13 v14 v15 v16 v17 (k+1) z | some none=>False | some (some id')=>id'=0∧sFinX f x n v0 v1 v5 v8 v11 v12 v13 v14 v15 v16 v17 z:=by
 obtain⟨t,h',s⟩:=y;obtain⟨v10,g,ht,hh⟩:=h;simp only at ht hh;subst ht hh;have T:=tabY_ok conFS_ok;by_cases c:k<28
 ·have hlt:decide ((k:Int)<28)=true:=Xa (by omega);obtain⟨e1,o1⟩:=srT_is hf hx hn c;have e2:=ofN_none (tF_le hf hx (n:=n) (k+1));have ek:u64.wrap ((k:Int)+1)=((k+1:Nat):Int):=by rw[wrap_u64' (by omega) (by omega)];omega
  have oQ:(q2 (W4.of (yF f x n (k+1))) (ofN (tF f x n (k+1)))).1=(q2 (W4.of (yF f x n (k+1))) (ofN (tF f x n (k+1)))).2:=Xa ⟨W4.ok_of _,ofN_ok _⟩;have hv:=ofN_val (tF_le hf hx (n:=n) (k+1));by_cases z:tF f x n (k+1)=0
  ·have hg:=sr_brk v0 v1 v5 v8 v10 v11 v12 v13 v14 v15 v16 v17 (ofN (tF f x n k)) (ofN x) (ofN (sqF x)) (W4.of (yF f x n (k+1))) n k g;rw[e1] at hg;refine (goesT_runs (s0:=s) T hg (okPC (by rw[e2];exact Xa z) (okPC o1 (okP1 hlt)))).mono fun e w hw=> ?_;obtain⟨rfl,⟨g',z1⟩,z2⟩:=hw;refine⟨rfl,_,ofN (tF f x n (k+1)),_,g',z1,?_⟩;have:yF f x n 29=yF f x n (k+1):=by
    have:=Go.Fx.sr_stop z (28-k);rw[show k+1+(28-k)=29 by omega] at this;exact this
   rw[z2,this]
  ·have e2':eqW (ofN (tF f x n (k+1))) ⟨0,0,0,0⟩=false:=by rw[e2];exact Xb z
   rcases Nat.mod_two_eq_zero_or_one k with m | m
   ·have hg:=sr_less v0 v1 v5 v8 v10 v11 v12 v13 v14 v15 v16 v17 (ofN (tF f x n k)) (ofN x) (ofN (sqF x)) (W4.of (yF f x n (k+1))) n k g;rw[e1,ek,hv,of_sub] at hg;have hm:((k:Int).tmod 2==0)=true:=by rw[beq_iff_eq,Int.tmod_eq_emod_of_nonneg (by omega)];omega
    refine (goesT_runs (s0:=s) T hg (okPC oQ (okPC hm (okPC (by decide) (okPC e2' (okPC o1 (okP1 hlt))))))).mono fun e w hw=> ?_;obtain⟨rfl,⟨g',z1⟩,z2⟩:=hw;refine⟨c,_,g',z1,?_⟩;have:yF f x n (k+1+1)=yF f x n (k+1)-((tF f x n (k+1):Nat):Int):=by
     show (if (k+1) % 2=0 then _ else _)=_;rw[if_neg (by omega)];rfl
    rw[z2,this]
   ·have hg:=sr_plus v0 v1 v5 v8 v10 v11 v12 v13 v14 v15 v16 v17 (ofN (tF f x n k)) (ofN x) (ofN (sqF x)) (W4.of (yF f x n (k+1))) n k g;rw[e1,ek,hv,of_add] at hg;have hm:((k:Int).tmod 2==0)=false:=by rw[beq_eq_false_iff_ne,Int.tmod_eq_emod_of_nonneg (by omega)];omega
    refine (goesT_runs (s0:=s) T hg (okPC oQ (okPC hm (okPC (by decide) (okPC e2' (okPC o1 (okP1 hlt))))))).mono fun e w hw=> ?_;obtain⟨rfl,⟨g',z1⟩,z2⟩:=hw;refine⟨c,_,g',z1,?_⟩;have:yF f x n (k+1+1)=yF f x n (k+1)+((tF f x n (k+1):Nat):Int):=by
     show (if (k+1) % 2=0 then _ else _)=_;rw[if_pos (by omega)];rfl
    rw[z2,this]
 ·have e:k=28:=by omega
  subst e;refine (goesT_runs (s0:=s) T (sr_out v0 v1 v5 v8 v10 v11 v12 v13 v14 v15 v16 v17 (ofN (tF f x n 28)) (ofN x) (ofN (sqF x)) (W4.of (yF f x n (28+1))) n ((28:Nat):Int) g) (okL1 (by decide))).mono fun e w hw=> ?_;obtain⟨rfl,⟨g',z1⟩,z2⟩:=hw;exact⟨rfl,_,_,_,g',z1,z2⟩
include hf hx hn in
theorem series_calls (w:World):Calls prog 51 #[vW (ofN f),vW (ofN x),.int .u64 (n:Int)] w fun e w'=>e= .returned (vW (W4.of (yF f x n 29)))∧Tidy w w':=by
 have T:=tabY_ok conFS_ok;refine calls_of_runs (T:=tabOf prog extY conFS true) func51 sr_body (vals:=[vW (ofN f),vW (ofN x),.int .u64 (n:Int)]) (by rfl) (by rfl) ?_ w;refine goesT_list T (sr_pre (ofN f) (ofN x) n) (okL1 (Xa ⟨ofN_ok _,ofN_ok _⟩)) fun g=> ?_;have es:W4.of (fmI (ofN x) (ofN x))=ofN (sqF x):=by rw[fmI_of hx hx];rfl
 rw[es];refine Runs.seq (P1:=fun e y=>e=none∧∃ v0 v1 v5 v8 v11 v12 v13 v14 v15 v16 v17,sFinX f x n v0 v1 v5 v8 v11 v12 v13 v14 v15 v16 v17 y) ?_ ?_ (fun e y he=>by cases he.1)
 ·refine Runs.seq (goesT_runs T (sr_i _ _ _ _ _ _ _ _ _ _ _ _ _ _ _ _ _ _ g _) okNil) ?_ (fun e y he=>by cases he.1);rintro⟨t,h',s⟩ ⟨_,⟨g',ht⟩,hh⟩;simp only at ht hh;subst ht hh;refine (Runs.forLoop (T:=tabOf prog extY conFS true) (c:=srL f51) (id:=0) (R:=fun _=>False) (P:=fun y=>∃ v0 v1 v5 v8 v11 v12 v13 v14 v15 v16 v17,sFinX f x n v0 v1 v5 v8 v11 v12 v13 v14 v15 v16 v17 y) (fun j y=>∃ k,j=28-k∧k≤28∧sI f x n _ _ _ _ _ _ _ _ _ _ _ k y) ?_ (n:=28) ⟨0,by omega,by omega,_,g',rfl,?_⟩).mono fun e z hz=> ?_
  ·rintro j y ⟨k,hj,hk,hI⟩;refine (sr_round hf hx hn _ _ _ _ _ _ _ _ _ _ _ hk hI).mono fun e z hz=> ?_
   match e,hz with
   | none,hz=>exact⟨28-(k+1),by omega,k+1,rfl,by omega,hz.2⟩
   | some none,hz=>exact hz.elim
   | some (some _),hz=>exact⟨hz.1,_,_,_,_,_,_,_,_,_,_,_,hz.2⟩
  ·have:yF f x n (0+1)=(f:Int):=by
    show (0:Int)+((f:Nat):Int)=_;omega
   rw[this];rfl
  ·match e,hz with
   | none,hz=>exact⟨rfl,hz⟩
   | some none,hz=>exact hz.elim
   | some (some _),hz=>exact hz.elim
 ·rintro⟨t,h',s⟩ ⟨_,v0,v1,v5,v8,v11,v12,v13,v14,v15,v16,v17,v10,tt,k,g',ht,hh⟩;simp only at ht hh;subst ht hh;refine (goesT_runs T (sr_end v0 v1 v5 v8 v10 v11 v12 v13 v14 v15 v16 v17 tt (ofN x) (ofN (sqF x)) (W4.of (yF f x n 29)) n k g') okNil).mono fun e z hz=> ?_;obtain⟨rfl,⟨g2,z1⟩,z2⟩:=hz;refine⟨.inr rfl,?_⟩;rw[z1,z2];rfl
end
end Go.Proofs.YtdlpffgekmidnabDoor
namespace Go.Proofs.YtdlpffgekmidnabDoor
open Go.Proofs.Tryd
open Go.KRun Go.Wd
set_option maxRecDepth 100000
def okSer (a b:W4) (n:Int):Bool×Bool:=(decide (a.ok∧b.ok∧a.nat≤Go.Fx.uP∧b.nat≤Go.Fx.uP∧1≤n∧n≤100),true)
def serW (a b:W4) (n:Int):W4:=W4.of (yF a.nat b.nat n.toNat 29)
def gSer:Ans:=fun vals s=>
 match vals with
 | [x,y,.int .u64 n]=>
  match w4 x,w4 y with
  | some a,some b=>some (vW (serW a b n),s,[okSer a b n])
  | _,_=>none
 | _=>none
theorem gSer_ok:AnsOk 51 gSer:=by
 intro vals s v s' lg h hl w;unfold gSer at h;split at h
 ·rename_i x y n;split at h
  ·rename_i a b ha hb;cases h;have h1:=hl _ Xf;simp only[okSer,Xi] at h1;obtain⟨k1,k2,k3,k4,k5,k6⟩:=h1;rw[w4_spec ha,w4_spec hb];have:=series_calls (n:=Int.toNat n) k3 k4 ⟨by omega,by omega⟩ w;rw[ofN_self k1,ofN_self k2,Int.toNat_of_nonneg (by omega)] at this;exact this
  ·cases h
 ·cases h
def conFO:Con:=alt 42 (g1n (plain1n shlV4)) conN
theorem conFO_ok:ConOk conFO:=alt_ok func42 rfl (plain1n_ok shl_calls) conN_ok
def oneW:W4:=⟨0,0,0,72057594037927936⟩
def g0 (k:Value):Ans:=fun vals s=>match vals with | []=>some (k,s,[]) | _=>none
theorem g0_ok {f:Nat}{k:Value}(hk:∀ w,Calls prog f #[] w fun e w'=>e= .returned k∧Tidy w w'):AnsOk f (g0 k):=by
 intro vals s v s' lg h hl w;unfold g0 at h;split at h
 ·cases h;exact hk w
 ·cases h
theorem one_fits:Fits (reckon (tabOf prog extY conFO true) 300 49 [] []) (vW (shlW ⟨1,0,0,0⟩ 248)) [qk ⟨1,0,0,0⟩ 248]:=by and_intros<;>kernel_rfl
theorem one_calls (w:World):Calls prog 49 #[] w fun e w'=>e= .returned (vW oneW)∧Tidy w w':=by
 have e:shlW ⟨1,0,0,0⟩ 248=oneW:=eqW_iff.1 (by decide+kernel);have:=fits_calls (tabY_ok conFO_ok) one_fits (okL1 (by decide)) (by rfl) (by rfl) w;rw[e] at this;exact this
def conFT:Con:=alt 49 (g0 (vW oneW)) (alt 48 (g2 (plain2 cmpV4)) (alt 51 gSer (alt 50 (g1 bdV4) conN)))
theorem conFT_ok:ConOk conFT:=alt_ok func49 rfl (g0_ok one_calls) (alt_ok func48 rfl (plain2_ok cmp_calls) (alt_ok func51 rfl gSer_ok (alt_ok func50 rfl (g1_ok bd_calls) conN_ok)))
def cg1 (x:W4) (d:Bool):Bool×Bool:=(decide (cmpI x oneW>0),d)
def oW (x:W4):Bool×Bool:=(decide x.ok,true)
theorem sin_big (x:W4):Fits (reckon (tabOf prog extY conFT true) 300 39 [vW x] [cmp true]) (.tuple #[vW ⟨0,0,0,0⟩,vW ⟨0,0,0,0⟩,.iface 42 (.int .i64 1)]) [cg1 x true,q2 x oneW]:=by and_intros<;>kernel_rfl
theorem sin_in (x:W4):Fits (reckon (tabOf prog extY conFT true) 300 39 [vW x] [cmp false]) (.tuple #[vW (ofN (Go.Fx.lo32 (serW x x 2).val)),vW (ofN (Go.Fx.hi32 (serW x x 2).val)),.nilIface]) [oW (serW x x 2),okSer x x 2,cg1 x false,q2 x oneW]:=by and_intros<;>kernel_rfl
theorem cos_big (x:W4):Fits (reckon (tabOf prog extY conFT true) 300 37 [vW x] [cmp true]) (.tuple #[vW ⟨0,0,0,0⟩,vW ⟨0,0,0,0⟩,.iface 42 (.int .i64 1)]) [cg1 x true,q2 x oneW]:=by and_intros<;>kernel_rfl
theorem cos_in (x:W4):Fits (reckon (tabOf prog extY conFT true) 300 37 [vW x] [cmp false]) (.tuple #[vW (ofN (Go.Fx.lo32 (serW oneW x 1).val)),vW (ofN (Go.Fx.hi32 (serW oneW x 1).val)),.nilIface]) [oW (serW oneW x 1),okSer oneW x 1,oW (serW oneW x 1),okSer oneW x 1,oW (serW oneW x 1),oW (serW oneW x 1),okSer oneW x 1,oW (serW oneW x 1),okSer oneW x 1,oW (serW oneW x 1),okSer oneW x 1,oW (serW oneW x 1),oW (serW oneW x 1),okSer oneW x 1,oW (serW oneW x 1),okSer oneW x 1,oW (serW oneW x 1),oW (serW oneW x 1),okSer oneW x 1,oW (serW oneW x 1),okSer oneW x 1,oW (serW oneW x 1),oW (serW oneW x 1),okSer oneW x 1,oW (serW oneW x 1),oW (serW oneW x 1),oW (serW oneW x 1),oW (serW oneW x 1),oW (serW oneW x 1),okSer oneW x 1,cg1 x false,q2 x oneW]:=by and_intros<;>kernel_rfl
theorem oneW_ok:oneW.ok:=by decide
theorem oneW_nat:oneW.nat=Go.Fx.uP:=by rfl
theorem cg1_iff {x:W4}(hx:x.ok):cmpI x oneW>0↔Go.Fx.uP<x.nat:=by
 have h:=W4.nat_val hx;have e:oneW.val=452312848583266388373324160190187140051835877600158453279131187530910662656:=by rfl
 rw[uP_is];unfold cmpI;rw[e,h];split
 ·omega
 ·split<;>omega
theorem serW_val {a b n:Nat}(ha:a≤Go.Fx.uP) (hb:b≤Go.Fx.uP):(W4.of (yF a b n 29)).val=yF a b n 29:=by
 have h:0≤yF a b n 29∧yF a b n 29≤(a:Int):=Go.Fx.sr_bd Go.Fx.uP_pos (Go.Fx.sq_le Go.Fx.uP_pos hb) 29;rw[uP_is] at ha;rw[W4.val_of,Int.emod_eq_of_lt h.1 (by omega)]
def slN (x:W4):Nat:=Go.Fx.lo32 (Go.Fx.sS Go.Fx.uP 29 x.nat)
def shN (x:W4):Nat:=Go.Fx.hi32 (Go.Fx.sS Go.Fx.uP 29 x.nat)
def clN (x:W4):Nat:=Go.Fx.lo32 (Go.Fx.cS Go.Fx.uP 29 x.nat)
def chN (x:W4):Nat:=Go.Fx.hi32 (Go.Fx.cS Go.Fx.uP 29 x.nat)
def tooV:Value:= .tuple #[vW ⟨0,0,0,0⟩,vW ⟨0,0,0,0⟩,.iface 42 (.int .i64 1)]
def sinV (x:W4):Value:= .tuple #[vW (ofN (slN x)),vW (ofN (shN x)),.nilIface]
def cosV (x:W4):Value:= .tuple #[vW (ofN (clN x)),vW (ofN (chN x)),.nilIface]
def gAng (k:W4→Value):Ans:=fun vals s=>
 match vals,s with
 | [x],.inr (.inr (.inr (.inl d)))::s'=>
  match w4 x,d with
  | some a,true=>some (tooV,s',[(decide (Go.Fx.uP<a.nat),true),(decide a.ok,true)])
  | some a,false=>some (k a,s',[(decide (Go.Fx.uP<a.nat),false),(decide a.ok,true)])
  | _,_=>none
 | _,_=>none
theorem gAng_ok {f:Nat}{k:W4→Value}(hk:∀ x:W4,x.ok→∀ w,Calls prog f #[vW x] w fun e w'=>e= .returned (if Go.Fx.uP<x.nat then tooV else k x)∧Tidy w w'):AnsOk f (gAng k):=by
 intro vals s v s' lg h hl w;unfold gAng at h;split at h
 ·rename_i x d s2;split at h
  ·rename_i a ha;cases h;have h1:=Xc (hl _ Xe);have h2:=Xc (hl _ (Xd _ Xf));have:=hk a h2 w;rw[if_pos h1] at this;rw[w4_spec ha];exact this
  ·rename_i a ha;cases h;have h1:=of_decide_eq_false (hl _ Xe);have h2:=Xc (hl _ (Xd _ Xf));have:=hk a h2 w;rw[if_neg h1] at this;rw[w4_spec ha];exact this
  ·cases h
 ·cases h
theorem sin_calls (x:W4) (hx:x.ok) (w:World):Calls prog 39 #[vW x] w fun e w'=>e= .returned (if Go.Fx.uP<x.nat then tooV else sinV x)∧Tidy w w':=by
 have T:=tabY_ok conFT_ok;have h2:(q2 x oneW).1=(q2 x oneW).2:=Xa ⟨hx,oneW_ok⟩;by_cases c:Go.Fx.uP<x.nat
 ·rw[if_pos c];have h1:(cg1 x true).1=(cg1 x true).2:=Xa ((cg1_iff hx).2 c);exact fits_calls T (sin_big x) (okPC h1 (okPC h2 okNil)) (by rfl) (by rfl) w
 ·rw[if_neg c];have h1:(cg1 x false).1=(cg1 x false).2:=Xb fun h=>c ((cg1_iff hx).1 h);have hl:x.nat≤Go.Fx.uP:=by omega
  have h3:(okSer x x 2).1=(okSer x x 2).2:=Xa ⟨hx,hx,hl,hl,by decide,by decide⟩;have h4:(oW (serW x x 2)).1=(oW (serW x x 2)).2:=Xa (W4.ok_of _);have e:(serW x x 2).val=Go.Fx.sS Go.Fx.uP 29 x.nat:=serW_val hl hl;have:=fits_calls T (sin_in x) (okPC h4 (okPC h3 (okPC h1 (okPC h2 okNil)))) (by rfl) (by rfl) w;rw[e] at this;exact this
theorem cos_calls (x:W4) (hx:x.ok) (w:World):Calls prog 37 #[vW x] w fun e w'=>e= .returned (if Go.Fx.uP<x.nat then tooV else cosV x)∧Tidy w w':=by
 have T:=tabY_ok conFT_ok;have h2:(q2 x oneW).1=(q2 x oneW).2:=Xa ⟨hx,oneW_ok⟩;by_cases c:Go.Fx.uP<x.nat
 ·rw[if_pos c];have h1:(cg1 x true).1=(cg1 x true).2:=Xa ((cg1_iff hx).2 c);exact fits_calls T (cos_big x) (okPC h1 (okPC h2 okNil)) (by rfl) (by rfl) w
 ·rw[if_neg c];have h1:(cg1 x false).1=(cg1 x false).2:=Xb fun h=>c ((cg1_iff hx).1 h);have hl:x.nat≤Go.Fx.uP:=by omega
  have h3:(okSer oneW x 1).1=(okSer oneW x 1).2:=Xa ⟨oneW_ok,hx,Nat.le_of_eq oneW_nat,hl,by decide,by decide⟩;have h4:(oW (serW oneW x 1)).1=(oW (serW oneW x 1)).2:=Xa (W4.ok_of _);have e:(serW oneW x 1).val=Go.Fx.cS Go.Fx.uP 29 x.nat:=serW_val (Nat.le_of_eq oneW_nat) hl;have:=fits_calls T (cos_in x) (okPC h4 (okPC h3 (okPC h4 (okPC h3 (okPC h4 (okPC h4 (okPC h3 (okPC h4 (okPC h3 (okPC h4 (okPC h3 (okPC h4 (okPC h4 (okPC h3 (okPC h4 (okPC h3 (okPC h4 (okPC h4 (okPC h3 (okPC h4 (okPC h3 (okPC h4 (okPC h4 (okPC h3 (okPC h4 (okPC h4 (okPC h4 (okPC h4 (okPC h4 (okPC h3 (okPC h1 (okPC h2 okNil)))))))))))))))))))))))))))))))) (by rfl) (by rfl) w;rw[e] at this;exact this
end Go.Proofs.YtdlpffgekmidnabDoor
