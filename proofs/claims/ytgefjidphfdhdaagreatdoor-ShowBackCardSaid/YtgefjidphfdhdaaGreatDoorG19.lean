/-
  ShX, RowN
-/
import Derived.Test.YtgefjidphfdhdaaGreatDoorG18
import Derived.Lib.LaidTab
import Derived.ChangeSame
import Derived.RowKit
namespace Go.Proofs.YtgefjidphfdhdaaGreatDoor
open Go.Proofs.Tryz
open Go.KRun Go.Nt Go.Rd Go.Pt
set_option maxRecDepth 100000
def ZdV (c:UInt8):Nat:=(zy (lq8 c) 16).toNat
theorem Zyb:∀ k:Fin 16,ZdV (hBx (k.val:Nat))=k.val∧ZF 16 [hBx (k.val:Nat)]=true:=by decide+kernel
theorem Zoz {q:Int}(hq:U q):ZdV (hBx q)=(q % 16).toNat∧ZF 16 [hBx q]=true:=by
 have e:hBx q=hBx ((((q % 16).toNat:Nat)):Int):=Zon hq (by unfold U;omega) (by omega);have:=Zyb ⟨(q % 16).toNat,by omega⟩;rw[e];exact this
theorem ZhL (p:Int):0≤zR p∧zR p<4503599627370496:=by
 have h:=(Go.Rn.sg_lt p).1;unfold zR;rw[Int.tmod_eq_emod_of_nonneg h];omega
theorem Zt2 (p:Int):U (zR p):=by
 have:=ZhL p;unfold U;omega
theorem Z2K (p:Int):ZF 16 (Zf8 p)=true:=by
 have h:∀ k,ZF 16 [hBx (hSn (zR p) k)]=true:=fun k=>by rw[ZdS];exact (Zoz (Zf9 (Zt2 p) k)).2
 have h1:∀ (c:UInt8) (l:List UInt8),ZF 16 [c]=true→ZF 16 l=true→ZF 16 (c::l)=true:=fun c l a b=>by
  unfold ZF at a b ⊢;rw[List.all_cons] at a ⊢;rw[b];simpa using a
 show ZF 16 [hBx (hSn (zR p) 12),hBx (hSn (zR p) 11),hBx (hSn (zR p) 10),hBx (hSn (zR p) 9),hBx (hSn (zR p) 8),hBx (hSn (zR p) 7),hBx (hSn (zR p) 6),hBx (hSn (zR p) 5),hBx (hSn (zR p) 4),hBx (hSn (zR p) 3),hBx (hSn (zR p) 2),hBx (hSn (zR p) 1),hBx (hSn (zR p) 0)]=true;exact h1 _ _ (h 12) (h1 _ _ (h 11) (h1 _ _ (h 10) (h1 _ _ (h 9) (h1 _ _ (h 8) (h1 _ _ (h 7) (h1 _ _ (h 6) (h1 _ _ (h 5) (h1 _ _ (h 4) (h1 _ _ (h 3) (h1 _ _ (h 2) (h1 _ _ (h 1) (h1 _ _ (h 0) (rfl)))))))))))))
theorem Zyc (p:Int) (c:UInt8):nmB 16 (c::Zf8 p)=((((((((((((((0*16+ZdV c)*16+ZdV (hBx (hSn (zR p) 12)))*16+ZdV (hBx (hSn (zR p) 11)))*16+ZdV (hBx (hSn (zR p) 10)))*16+ZdV (hBx (hSn (zR p) 9)))*16+ZdV (hBx (hSn (zR p) 8)))*16+ZdV (hBx (hSn (zR p) 7)))*16+ZdV (hBx (hSn (zR p) 6)))*16+ZdV (hBx (hSn (zR p) 5)))*16+ZdV (hBx (hSn (zR p) 4)))*16+ZdV (hBx (hSn (zR p) 3)))*16+ZdV (hBx (hSn (zR p) 2)))*16+ZdV (hBx (hSn (zR p) 1)))*16+ZdV (hBx (hSn (zR p) 0))):=by kernel_rfl
theorem ZrP (G:Nat→Int) (d:Nat) (g0:∀ k,0≤G k) (g1:∀ k,G (k+1)=G k/16) (g2:G 13=0):((((((((((((((0*16+d)*16+(G 12 % 16).toNat)*16+(G 11 % 16).toNat)*16+(G 10 % 16).toNat)*16+(G 9 % 16).toNat)*16+(G 8 % 16).toNat)*16+(G 7 % 16).toNat)*16+(G 6 % 16).toNat)*16+(G 5 % 16).toNat)*16+(G 4 % 16).toNat)*16+(G 3 % 16).toNat)*16+(G 2 % 16).toNat)*16+(G 1 % 16).toNat)*16+(G 0 % 16).toNat)=d*4503599627370496+(G 0).toNat:=by
 have s:∀ (k j a:Nat),j=k+1→(a+(G j).toNat)*16+(G k % 16).toNat=a*16+(G k).toNat:=fun k j a hj=>by
  have e:=g1 k;have h:=g0 k;rw[hj,e];generalize G k=H at h ⊢;omega
 have b:0*16+d=d+(G 13).toNat:=by rw[g2];simp
 rw[b,s 12 13 (d) rfl,s 11 12 (d*16) rfl,s 10 11 (d*16*16) rfl,s 9 10 (d*16*16*16) rfl,s 8 9 (d*16*16*16*16) rfl,s 7 8 (d*16*16*16*16*16) rfl,s 6 7 (d*16*16*16*16*16*16) rfl,s 5 6 (d*16*16*16*16*16*16*16) rfl,s 4 5 (d*16*16*16*16*16*16*16*16) rfl,s 3 4 (d*16*16*16*16*16*16*16*16*16) rfl,s 2 3 (d*16*16*16*16*16*16*16*16*16*16) rfl,s 1 2 (d*16*16*16*16*16*16*16*16*16*16*16) rfl,s 0 1 (d*16*16*16*16*16*16*16*16*16*16*16*16) rfl];rw[show (4503599627370496:Nat)=16*(16*(16*(16*(16*(16*(16*(16*(16*(16*(16*(16*(16)))))))))))) from by decide];simp only[Nat.mul_assoc]
theorem Z2L (p:Int) (c:UInt8):nmB 16 (c::Zf8 p)=ZdV c*4503599627370496+(zR p).toNat:=by
 obtain⟨G,hG⟩:∃ G:Nat→Int,∀ k,G k=zR p/16^k:=⟨_,fun _=>rfl⟩;have v:∀ k,ZdV (hBx (hSn (zR p) k))=(G k % 16).toNat:=fun k=>by rw[ZdS,hG];exact (Zoz (Zf9 (Zt2 p) k)).1
 obtain⟨f0,f1⟩:=ZhL p;have hp:∀ k:Nat,(0:Int)≤16^k:=fun k=>Int.le_of_lt (Int.pow_pos (by omega));have t:=ZrP G (ZdV c) (fun k=>by rw[hG];exact Int.ediv_nonneg f0 (hp k)) (fun k=>by rw[hG,hG,Int.pow_succ,Int.ediv_ediv_of_nonneg (hp k)]) (by rw[hG];exact Int.ediv_eq_zero_of_lt f0 (Int.lt_of_lt_of_le f1 (by decide)));rw[Zyc,v 12,v 11,v 10,v 9,v 8,v 7,v 6,v 5,v 4,v 3,v 2,v 1,v 0,t,hG,Int.pow_zero,Int.ediv_one]
theorem Zjr {p:Int}(hp:U p) (h:Fin14 p) (m:Int) (c:UInt8) (x:Int) (hc:ZF 16 [c]=true) (hv:((ZdV c*4503599627370496+(zR p).toNat:Nat):Int)=sg p) (hx:x-52=xp p):rdP m (Zng (sgn p) c (trR (Zf8 p)) x)=(p,0,0):=by
 have hn:=Z2L p c;have hl:(Zf8 p).length=13:=rfl;have l2:=Zjm p;have e0:=h.e0;have e1:=h.e1;have ne:=h.ne;obtain⟨s1,s2⟩:=ZqH m (sgn p) c (Zf8 p) x;have es:nmB 16 (c::Zf8 p)=(sg p).toNat:=by rw[hn];omega
 rw[es,hl,show x-4*((13:Nat):Int)=xp p by omega] at s1 s2;obtain⟨o1,o2⟩:=Go.Rn.own_pat (m:=m) (neg:=sgn p) h.fin;have hz:nmB 16 (c::trR (Zf8 p))≠0:=by
  intro hz;rw[hz] at s1 s2;rw[o1] at s1;have z:Go.Rn.rnP m (sgn p) 0 (x-4*((trR (Zf8 p)).length:Nat))=0:=by unfold Go.Rn.rnP;rw[if_pos rfl]
  rw[z] at s1;have hm:mag p=0:=s1.symm;apply ne;have ez:ex p=0:=by unfold mag at hm;unfold ex;omega
  have fz:fr p=0:=by unfold mag at hm;unfold fr;omega
  unfold sg;rw[if_pos ez,fz];rfl
 rw[Zni m (sgn p) hc (Zfn (Z2K p)) (by omega) (by omega) hz,s1,s2,o1,o2];have ep:(if sgn p=true then 9223372036854775808+mag p else mag p)=p:=by
  unfold U at hp;unfold sgn mag;by_cases hh:(9223372036854775808:Int)≤p
  ·rw[if_pos (Xa hh)];omega
  ·rw[if_neg (by simpa using hh)];omega
 rw[ep]
theorem ZcH (m:Int) {k:Int}(h:k=1∨k=2∨k=3):rdP m (spL k)=(if k=1 then 9221120237041090560 else if k=2 then 9218868437227405312 else 18442240474082181120,0,0):=by
 rcases h with rfl | rfl | rfl<;>rfl
theorem Z2M (p:Int) (h:spK p≠0):(3<cl p∧spK p=1)∨(p=9218868437227405312∧spK p=2)∨(p=18442240474082181120∧spK p=3):=by
 unfold spK at h ⊢;by_cases c1:3<cl p
 ·rw[if_pos c1];exact .inl ⟨c1,rfl⟩
 ·rw[if_neg c1] at h ⊢;by_cases c2:p=9218868437227405312
  ·rw[if_pos c2];exact .inr (.inl ⟨c2,rfl⟩)
  ·rw[if_neg c2] at h ⊢;by_cases c3:p=18442240474082181120
   ·rw[if_pos c3];exact .inr (.inr ⟨c3,rfl⟩)
   ·rw[if_neg c3] at h;exact absurd rfl h
def ZrQ (p:Int):Int:=if 3<cl p then 9221120237041090560 else p
theorem Zyd {p:Int}(hp:U p):(if decide (9223372036854775808≤p)=true then 9223372036854775808+mag p else mag p)=p:=by
 unfold U at hp;unfold mag;by_cases hh:(9223372036854775808:Int)≤p
 ·rw[if_pos (Xa hh)];omega
 ·rw[if_neg (by simpa using hh)];omega
theorem Zye {p:Int}(hp:U p) (h:cl p=0):p=if sgn p=true then 9223372036854775808 else 0:=by
 have e:=Zit hp;have h2:ex p=0∧fr p=0:=by
  unfold cl at h;split at h
  ·rename_i a;split at h
   ·rename_i b;exact⟨a,b⟩
   ·omega
  ·split at h
   ·split at h
    ·omega
    ·split at h<;>omega
   ·omega
 rw[h2.1,h2.2] at e;cases hs:sgn p with
 | true=>rw[hs,if_pos rfl] at e;rw[if_pos rfl];omega
 | false=>rw[hs,if_neg (by decide)] at e;rw[if_neg (by decide)];omega
theorem Z2N (m:Int) (b:Bool):rdP m (txL b [48] 0)=(if b=true then 9223372036854775808 else 0,0,0):=by cases b<;>rfl
theorem Z2O (m:Int) (b:Bool):rdP m (txL b (List.replicate 17 48) 0)=(if b=true then 9223372036854775808 else 0,0,0):=by cases b<;>rfl
theorem Z2P (m:Int) (b:Bool):rdP m ((if b=true then [45] else [])++[48,120,48,112,48])=(if b=true then 9223372036854775808 else 0,0,0):=by cases b<;>rfl
theorem Z2Q {p:Int}(hp:U p) (m:Int):((rdP 0 (shT p)).1=ZrQ p∧(rdP 0 (shT p)).2.2=0)∧rdP m (ZgN p)=(ZrQ p,0,0)∧((rdP 0 (ZbU p 17 0)).1=ZrQ p∧(rdP 0 (ZbU p 17 0)).2.2=0):=by
 unfold shT ZgN ZbU ZrQ;by_cases hs:spK p≠0
 ·rw[if_pos hs,if_pos hs,if_pos hs];rcases Z2M p hs with ⟨a,b⟩ | ⟨a,b⟩ | ⟨a,b⟩
  ·rw[b,if_pos a,ZcH m (.inl rfl),ZcH 0 (.inl rfl)];exact⟨⟨rfl,rfl⟩,rfl,rfl,rfl⟩
  ·have c3:¬ 3<cl p:=by rw[a];decide
   rw[b,if_neg c3,ZcH m (.inr (.inl rfl)),ZcH 0 (.inr (.inl rfl)),a];exact⟨⟨rfl,rfl⟩,rfl,rfl,rfl⟩
  ·have c3:¬ 3<cl p:=by rw[a];decide
   rw[b,if_neg c3,ZcH m (.inr (.inr rfl)),ZcH 0 (.inr (.inr rfl)),a];exact⟨⟨rfl,rfl⟩,rfl,rfl,rfl⟩
 ·rw[if_neg hs,if_neg hs,if_neg hs];have h2:cl p≤2:=by
   rcases Int.lt_or_le 2 (cl p) with c | c
   ·exact absurd (Zoj hp (by omega)).1 hs
   ·exact c
  rw[if_neg (show ¬ 3<cl p by omega)];by_cases h0:cl p=0
  ·rw[if_pos h0,if_pos h0,if_pos h0,Z2N,Z2P,Z2O,← Zye hp h0];exact⟨⟨rfl,rfl⟩,rfl,rfl,rfl⟩
  ·rw[if_neg h0,if_neg h0,if_neg h0];have hf:=ZcG (Zjj h2 h0);have s:=ZjU hf;have d:=Znf hf;rw[Zyd hp] at s d;refine⟨s,?_,d⟩;have hfr:(zR p:Int)=fr p:=by
    have h1:=ZdD p;have h3:0≤sg p:=(Go.Rn.sg_lt p).1;unfold zR;rw[Int.tmod_eq_emod_of_nonneg h3];unfold sg;split
    ·omega
    ·split<;>omega
   have hb:=ZhL p;have cc:=Zdp p;by_cases h1:cl p=1
   ·rw[if_pos h1];have e0:ex p=0:=by
     rcases cc with ⟨a,_⟩ | ⟨a,b⟩ | ⟨a,b,c⟩
     ·exact a
     ·omega
     ·omega
    refine Zjr hp hf m 48 (-1022) (by decide) ?_ ?_
    ·have:ZdV 48=0:=by decide
     unfold sg;rw[if_pos e0,this];omega
    ·unfold xp;rw[if_pos e0]
     decide
   ·rw[if_neg h1];have e0:ex p≠0∧ex p≠2047:=by
     refine⟨fun c=> ?_,hf.fin⟩;rw[cl,if_pos c] at h1 h0;split at h1
     ·rename_i d;rw[if_pos d] at h0;exact h0 rfl
     ·exact h1 rfl
    refine Zjr hp hf m 49 (xp p+52) (by decide) ?_ (by omega);have:ZdV 49=1:=by decide
    unfold sg;rw[if_neg e0.1,if_neg e0.2,this];omega
def Zyf:Con:=alt 17 gPR Zn
theorem Zjs:ConOk Zyf:=Zr func17 rfl Z2J Zh
def lBk (p m:Int):Log:=[((rdP m (ZgN p)).2.1==0,true),(decide ((rdP 0 (ZbU p (Int.toNat 17) 0)).2.2=0),true),(ZrO (ZbU p (Int.toNat 17) 0),true),(decide ((1:Int)≤17∧(17:Int)≤1000),true),(decide (U p),true),(decide ((rdP m (ZgN p)).2.2=0),true),(ZrO (ZgN p),true),(decide (U p),true),(decide ((rdP 0 (shT p)).2.2=0),true),(ZrO (shT p),true),(decide (U p),true)]
theorem bka (p m:Int):Zs (ZE (Zx prog Zi Zyf Z6d) hT0 200 6 [.int .u64 p,.int .i64 m] [cmp true,cmp true,cmp true,cmp true,cmp true,cmp true,cmp true,cmp true]) (.bool true) ((p==(rdP 0 (ZbU p (Int.toNat 17) 0)).1,true)::(p==(rdP m (ZgN p)).1,true)::(p==(rdP 0 (shT p)).1,true)::lBk p m):=by and_intros<;>kernel_rfl
theorem bkb (p m:Int):Zs (ZE (Zx prog Zi Zyf Z6d) hT0 200 6 [.int .u64 p,.int .i64 m] [cmp true,cmp true,cmp true,cmp true,cmp true,cmp false,cmp true,cmp true,cmp false,cmp true,cmp true,cmp false,cmp true,cmp true]) (.bool true) (((rdP 0 (ZbU p (Int.toNat 17) 0)).1==9221120237041090560,true)::(decide (Zu8 p 9223372036854775808>9218868437227405312),true)::(p==(rdP 0 (ZbU p (Int.toNat 17) 0)).1,false)::((rdP m (ZgN p)).1==9221120237041090560,true)::(decide (Zu8 p 9223372036854775808>9218868437227405312),true)::(p==(rdP m (ZgN p)).1,false)::((rdP 0 (shT p)).1==9221120237041090560,true)::(decide (Zu8 p 9223372036854775808>9218868437227405312),true)::(p==(rdP 0 (shT p)).1,false)::lBk p m):=by and_intros<;>kernel_rfl
theorem ZhM {l:List UInt8}(h:l.length≤10000):ZrO l=true:=Xa (.inl h)
theorem Z2R {p:Int}(hp:U p) (m:Int):Zo (lBk p m):=by
 have hu:decide (U p)=true:=Xa hp;obtain⟨⟨_,a2⟩,b,⟨_,c2⟩⟩:=Z2Q hp m;have m1:=ZrC p;have m2:=ZrA hp;have m3:=ZrB p (Int.toNat 17) 0;have e17:Int.toNat 17=17:=rfl;exact Za (zH (by rw[b])) (Za (Xa c2) (Za (ZhM (by omega)) (Za (by decide) (Za hu (Za (Xa (by rw[b])) (Za (ZhM (by omega)) (Za hu (Za (Xa a2) (Za (ZhM (by omega)) (Zy hu))))))))))
theorem ZhN (p m:Int) (hp:0≤p∧p<18446744073709551616) (w:World) (hk:knT w):Calls prog 6 #[.int .u64 p,.int .i64 m] w fun e w'=>e= .returned (.bool true)∧zi w w':=by
 have lk:=Z2R hp m;obtain⟨⟨a1,_⟩,b,⟨c1,_⟩⟩:=Z2Q hp m;have b1:(rdP m (ZgN p)).1=ZrQ p:=by rw[b]
 by_cases h:p=ZrQ p
 ·exact Zbw (Z3 Zjs Zos) (bka p m) (Za (zH (h.trans c1.symm)) (Za (zH (h.trans b1.symm)) (Za (zH (h.trans a1.symm)) lk))) (by rfl) (by rfl) hk
 ·have h3:3<cl p:=by
   rcases Int.lt_or_le 3 (cl p) with c | c
   ·exact c
   ·exact absurd (by unfold ZrQ;rw[if_neg (by omega)]) h
  have hr:ZrQ p=9221120237041090560:=by unfold ZrQ;rw[if_pos h3]
  have hq:decide (Zu8 p 9223372036854775808>9218868437227405312)=true:=by
   rw[Zge hp];refine Xa ?_;have x:ex p=2047∧fr p≠0:=by
    unfold cl at h3;split at h3
    ·split at h3<;>omega
    ·split at h3
     ·split at h3
      ·omega
      ·constructor<;>assumption
     ·omega
   unfold ex fr at x;omega
  exact Zbw (Z3 Zjs Zos) (bkb p m) (Za (zH (c1.trans hr)) (Za hq (Za (zO (fun c=>h (c.trans c1))) (Za (zH (b1.trans hr)) (Za hq (Za (zO (fun c=>h (c.trans b1))) (Za (zH (a1.trans hr)) (Za hq (Za (zO (fun c=>h (c.trans a1))) lk))))))))) (by rfl) (by rfl) hk
end Go.Proofs.YtgefjidphfdhdaaGreatDoor
namespace Go.Proofs.YtgefjidphfdhdaaGreatDoor
open Go.Proofs.Tryz
open Go.KRun Go.RowKit Go.ChangeShapes
set_option maxRecDepth 100000
theorem Zo0 {H:Type}{enc:TypeId×Value→H}{P:Program}{f:Func}{s:ChangeSpec}{apart fresh handsOn again:Bool}{W W':World}{args:Array Value}{v:Value}{ds gs:List (DataW H)}
  (hW:DataW.Whole enc P f.params.toList s.vars apart W args.toList ds gs [])
  (hres:∀ (b:Nat) (sp:Nat→Bool) (hd:Bool),DataW.TrodAll enc P W' b sp hd f.resultTypes.toList (v.resultList f.resultTypes.size) (s.fn H (ds++gs)).results [])
  (hargs:∀ sp:Nat→Bool,DataW.TrodAll enc P W' 0 sp true f.params.toList args.toList (s.fn H (ds++gs)).args [])
  (hvars:∀ sp:Nat→Bool,DataW.TrodVars enc P W' sp s.vars (s.fn H (ds++gs)).vars [])
  (hk:W.keptBut W' (· ∈([]:List MemPlace)))
  (hok:∀ (j:Nat) (t:TypeId) (r:Value),f.resultTypes[j]? =some t→(v.resultList f.resultTypes.size)[j]? =some r→Value.okWide P W' .any 0 t r):
  s.post enc P f apart fresh handsOn again W args v W':=by
 refine⟨ds,gs,[],[],[],[],hW,hres _ _ _,hargs _,hvars _,World.keptBut_mono (fun p hp=>absurd hp List.not_mem_nil) hk,fun _=> ?_⟩;obtain⟨_,_,_,_,_,_,hn⟩:=hW;refine⟨hok,_,_,([]++[])++[],⟨[]++[],[],trodAll_append (hargs _) (hres _ _ _),hvars _,rfl,?_,?_⟩,?_⟩
 ·intro b off hp;exact absurd hp List.not_mem_nil
 ·intro ha;exact hn ha
 ·intro p hp _;exact absurd hp List.not_mem_nil
theorem Z2S {P:Program}{w:World}:∀ {l:List (String×DataW Unit)}{ps:List MemPlace},DataW.LaidVars P w l ps→∀ {n:String}{d:DataW Unit},(n,d)∈l→∃ g t cs fuel p,P.globalNamed n=some g∧(P.globals[g]?).map (·.type)=some t∧w.var? P n=some cs∧DataW.trod (fun _=>()) P w 0 (fun _=>true) false fuel t cs.toList=some (d,p)
 | [],_,_,_,_,hm=>absurd hm List.not_mem_nil
 | (n',d')::r,ps,h,n,d,hm=>by
  obtain⟨g,t,cs,fuel,p,q,h1,h2,h3,h4,h5,_⟩:=h;rcases List.mem_cons.1 hm with e | e
  ·cases e;exact⟨g,t,cs,fuel,p,h1,h2,h3,h4⟩
  ·exact Z2S h5 e
theorem ZrR {l:List (String×DataW Unit)}{W:World}(h:laidMet prog l W) {n:String}{d:DataW Unit}(hm:(n,d)∈l) (hn:prog.globalNamed n=some 2) (hd:d=Lib.tabData .u64 Lib.pow10Tab):knT W:=by
 obtain⟨ps,hl,_⟩:=h;obtain⟨g,t,cs,fuel,p,h1,h2,h3,h4⟩:=Z2S hl hm;obtain rfl:=Option.some.inj (hn.symm.trans h1);have ht:(prog.globals[2]?).map (·.type)=some 255:=by kernel_rfl
 obtain rfl:=Option.some.inj (ht.symm.trans h2);rw[hd] at h4;have hc:=Lib.cells_of_tab underlying255 underlying22 (by kernel_rfl) (by kernel_rfl) h4;unfold World.var? at h3;rw[hn] at h3;simp only[Option.bind_some] at h3;split at h3
 ·rename_i c e z hb;cases h3;refine⟨e,z,?_⟩;rw[hb];congr 2;apply Array.toList_inj.1;rw[hc];rfl
 ·cases h3
end Go.Proofs.YtgefjidphfdhdaaGreatDoor
