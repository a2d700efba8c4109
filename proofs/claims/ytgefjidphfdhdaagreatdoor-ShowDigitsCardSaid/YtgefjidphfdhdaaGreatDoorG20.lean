/-
  SiH, SiA, RowN
-/
import Derived.Test.YtgefjidphfdhdaaGreatDoorG19
import Derived.Lib.LaidTab
import Derived.ChangeSame
import Derived.RowKit
namespace Go.Proofs.YtgefjidphfdhdaaGreatDoor
open Go.Proofs.Tryz
open Go.IntKind
open Go.KRun Go.Nt Go.Wd Go.Rn Go.Rd Go.Pt
set_option maxRecDepth 100000
set_option linter.unusedVariables false
theorem Zxq {E k:Int}(hE: -1074≤E) (hk: -1500≤k):∃ j,j≤7200∧pbN E k<2^j:=by
 refine⟨((-E).toNat+1)+(4*(-k).toNat+1),by omega,?_⟩;unfold pbN;exact zc (Nat.pow_lt_pow_right (by omega) (by omega)) (ZaG _)
theorem Zor {Q n:Nat}(h0:Q≠0) (h:Q≤10^n) (hn:n≤1000):(d16 Q).length<100000∧(zD Q).length≤2000:=by
 constructor
 ·exact zf (i:=4*n+1) (Nat.lt_of_le_of_lt h (ZaG n)) (by omega)
 ·obtain⟨_,l2,_⟩:=Zak h0;rcases Nat.lt_or_ge (n+1) (zD Q).length with c | c
  ·have:=Nat.pow_lt_pow_right (a:=10) (by omega) (show n<(zD Q).length-1 by omega);omega
  ·omega
theorem Zxr {p m f:Int}{b:Bool}{B Q R N ib:Nat}{H:Hp}{a:Value}{g:Nat→Value}{s:List Dec}(hN:N≤999) (hf: -400≤f∧f≤400) (hQ:Q≠0) (hQ1:Q+1≤10^(N+1)) (hB:0<B) (hRB:R<B) {j:Nat}(hj:j≤7200) (hBj:B<2^j) (hb:H.blk? ib=some (w16 B)) (h7:H.blk? 7=some (w16 Q)) (h8:H.blk? 8=some (w16 R)) (hd:[ib,7,8].Nodup):
  RunsW (Zm prog Zg ZW Zb6) (zo (dgU f13) (sK f13 13)) (dgF p ((N+1:Nat):Int) m b (.pointer (some ⟨1,0,none⟩)) (.int .i64 f) a (s16 ib B) (s16 7 Q) (s16 8 R) undef undef++tl 111 g,H,s) fun e y=>(e=none∨e=some none)∧zd prog f13 y.1 y.2.1=some (.tuple #[bR (dcT b (N+1) (if Zar m b Q R B=true then Q+1 else Q) f),.int .i64 0]):=by
 have lB:=zf hBj (by omega);have lR:=zf (Nat.lt_trans hRB hBj) (by omega);have l2:(d16 (2*R)).length<100000:=zf (i:=j+1) (by rw[Nat.pow_succ];omega) (by omega);obtain⟨q1,q2⟩:=Zor hQ (show Q≤10^(N+1) by omega) (by omega);obtain⟨q3,q4⟩:=Zor (by omega) hQ1 (by omega);refine RunsW.preP (s':=s) [some (.int .u64 p),some (.int .i64 ((N+1:Nat):Int)),some (.int .i64 m),some undef,some undef,some undef,some (bR []),some (.int .i64 0),some (.bool b),some (bR []),none,some (.int .i64 f),none,some (s16 0 B),some (s16 1 Q),some (s16 2 R),some undef,some undef] [ib,7,8] [w16 B,w16 Q,w16 R] (fun j g'=> ?_) rfl (Nat.succ_pos 2) ⟨rfl,rfl,rfl,ZaC _,ZaC _,ZaC _,rfl,rfl,rfl,rfl,rfl,rfl,rfl,rfl,ZaC _,ZaC _,trivial⟩ (fa3 (Zfx hb) (Zfx h7) (Zfx h8)) hd (by rfl);exact Z5P (p:=p) (n:=((N+1:Nat):Int)) (m:=m) (f:=f) (b:=b) (B:=B) (Q:=Q) (R:=R) (g0:=g') lB lR l2 hQ hB fun x a c r k g=>Z2c hN _ hQ q1 q3 hf ⟨q2,q4⟩
theorem Z2d (p m:Int) (hp:U p) (N:Nat) (hn:1≤N∧N≤1000) (h2:cl p≤2) (h0:cl p≠0) (w:World):Calls prog 13 #[.int .u64 p,.int .i64 N,.int .i64 m] w fun e w'=>e= .returned (.tuple #[bR (ZbJ p N m),.int .i64 0])∧zH w w':=by
 have hs:spK p=0:=Zg4 h2;have hF:=ZdR (Zog h2 h0);obtain⟨hfi,f1,f2⟩:=ZdM hF;obtain⟨N,rfl⟩:∃ k,N=k+1:=⟨N-1,by omega⟩;obtain⟨f,ef⟩:∃ f,f=frP p:=⟨_,rfl⟩;obtain⟨S,eS⟩:∃ S,S=(sg p).toNat:=⟨_,rfl⟩;obtain⟨E,eE⟩:∃ E,E=xp p:=⟨_,rfl⟩;have x0:=hF.ne;have x1:=hF.e0;have x2:=hF.e1;have x3:=hF.s1;have efr:frS S E=f:=by rw[ef,eS,eE];rfl
 rw[← eS] at x0 x3;rw[← eE] at x1 x2;rw[← eS,← eE,← ef] at hfi;rw[← ef] at f1 f2;obtain⟨b1,b2⟩:=ZmO hfi (n:=N+1) (by omega);obtain⟨k,ek⟩:∃ k:Int,k=((N+1:Nat):Int)-1-f:=⟨_,rfl⟩;have eK:dgK ((N+1:Nat):Int) f=k:=by
  unfold dgK;rw[Zw (n:=((N+1:Nat):Int)-1) (by omega) (by omega),Zw (by omega) (by omega),ek]
 obtain⟨Q,hQ⟩:∃ Q,Q=paN S E k/pbN E k:=⟨_,rfl⟩;obtain⟨R,hR⟩:∃ R,R=paN S E k % pbN E k:=⟨_,rfl⟩;have eQ:qD S E f (N+1)=Q:=by rw[hQ,ek];rfl
 have eR:ZjN S E f (N+1)=R:=by rw[hR,ek];rfl
 rw[eQ] at b1 b2;have p10:0<10^(N+1-1):=Nat.pow_pos (by omega);have hB:=zt E k;have hRB:R<pbN E k:=by rw[hR];exact Nat.mod_lt _ hB
 obtain⟨j,hj,hBj⟩:=Zxq (E:=E) (k:=k) x1 (by omega);have ev:ZbJ p (N+1) m=dcT (sgn p) (N+1) (if Zar m (sgn p) Q R (pbN E k)=true then Q+1 else Q) f:=by
  unfold ZbJ;rw[if_neg (fun c=>c hs),if_neg h0];unfold ZmS;rw[← eS,← eE,← ef,eQ,eR,← ek];show (if Zar m (sgn p) Q R (pbN E k)=true then hiX (sgn p) (N+1) Q f else txL (sgn p) (Zbj (N+1) Q) f)=_;split
  ·exact (ZrH (sgn p) (by omega) b1 b2 f).symm
  ·exact (Zop (sgn p) (by omega) b1 b2 f).symm
 rw[ev];refine ZdU (T:=(Zm prog Zg ZW Zb6)) func13 Zxj (vals:=[.int .u64 p,.int .i64 ((N+1:Nat):Int),.int .i64 m]) (by rfl) (by rfl) ?_ w;have ht:p.tmod 9223372036854775808≠0:=by
  intro c;have hp':=hp;unfold U at hp';rw[Int.tmod_eq_emod_of_nonneg hp'.1] at c;refine h0 ?_;unfold cl ex fr;rw[if_pos (by omega),if_pos (by omega)]
 refine ZA Zg5 (Z6U p ((N+1:Nat):Int) m (sgn p)) (Za rfl (Za (Xa hp) (Za (ze ht) (Za (by decide) (Za rfl (Za (Xa hs) (Za (Xa hp) (Za (Xb (by omega)) (ZB (Xb (by omega))))))))))) fun g=> ?_;rw[← eS,← eE];have lS:(d16 S).length<100000:=zf (i:=53) x3 (by omega);have hG:=Z6V p ((N+1:Nat):Int) m E (sgn p) S g;rw[efr] at hG;refine ZA Zg5 hG (ZB ?_) fun g=> ?_
 ·have r:=RowV.at (h:=xH (sgn p) E S) (b:=0) (V:=S) rfl lS;unfold Z20;rw[r.1,Xa r.2.1,Xa ⟨by omega,x3,x1,x2⟩];rfl
 have fin:∀ {ib V:Nat}{H:Hp}{a:Value}{g:Nat→Value},V=pbN E k→H.blk? ib=some (w16 V)→H.blk? 7=some (w16 Q)→H.blk? 8=some (w16 R)→[ib,7,8].Nodup→RunsW (Zm prog Zg ZW Zb6) (zo (dgU f13) (sK f13 13)) (dgF p ((N+1:Nat):Int) m (sgn p) (.pointer (some ⟨1,0,none⟩)) (.int .i64 f) a (s16 ib V) (s16 7 Q) (s16 8 R) undef undef++tl 111 g,H,[]) fun e y=>(e=none∨e=some none)∧zd prog f13 y.1 y.2.1=some (.tuple #[bR (dcT (sgn p) (N+1) (if Zar m (sgn p) Q R (pbN E k)=true then Q+1 else Q) f),.int .i64 0]):=by
  intro ib V H a g hV hb h7 h8 hd;rw[← hV] at hB hRB hBj ⊢;exact Zxr (by omega) ⟨by omega,by omega⟩ (by omega) (by omega) hB hRB hj hBj hb h7 h8 hd
 have q2:E<0→i64.wrap (0-E)= -E:=fun h=>by rw[Zw (by omega) (by omega)];omega
 have q1:k<0→i64.wrap (0-k)= -k:=fun h=>by rw[Zw (by omega) (by omega)];omega
 have hk1: -1500≤k∧k≤1500:=⟨by omega,by omega⟩;by_cases hE:0≤E
 ·by_cases hk:0≤k
  ·obtain⟨A,hA⟩:∃ A,A=S*2^E.toNat:=⟨_,rfl⟩;obtain⟨B,hB'⟩:∃ B,B=10^k.toNat:=⟨_,rfl⟩;obtain⟨V,hV⟩:∃ V,V=A*B:=⟨_,rfl⟩;obtain⟨_,ea,eb⟩:=Z1M (b:=sgn p) hA hB' hV rfl rfl x0 x3 ⟨x1,x2⟩ hk1 hE hk;have ok:=Z1M (b:=sgn p) hA hB' hV (show Q=V/1 by rw[ea,eb,hQ]) (show R=V % 1 by rw[ea,eb,hR]) x0 x3 ⟨x1,x2⟩ hk1 hE hk;have hG:=Z5L p ((N+1:Nat):Int) m E f (sgn p) S A B V Q R g;rw[eK] at hG;exact ZA Zg5 hG ok.1 fun g=>fin eb rfl rfl rfl (by decide)
  ·have hk:k<0:=by omega
   obtain⟨A,hA⟩:∃ A,A=S*2^E.toNat:=⟨_,rfl⟩;obtain⟨B,hB'⟩:∃ B,B=10^(-k).toNat:=⟨_,rfl⟩;obtain⟨V,hV⟩:∃ V,V=1*B:=⟨_,rfl⟩;obtain⟨_,ea,eb⟩:=Z1N (b:=sgn p) hA hB' hV rfl rfl x0 x3 ⟨x1,x2⟩ hk1 hE hk;have ok:=Z1N (b:=sgn p) hA hB' hV (show Q=A/V by rw[ea,eb,hQ]) (show R=A % V by rw[ea,eb,hR]) x0 x3 ⟨x1,x2⟩ hk1 hE hk;have hG:=Z5M p ((N+1:Nat):Int) m E f (sgn p) S A B V Q R g;rw[eK,q1 hk] at hG;exact ZA Zg5 hG ok.1 fun g=>fin eb rfl rfl rfl (by decide)
 ·have hE:E<0:=by omega
  by_cases hk:0≤k
  ·obtain⟨A,hA⟩:∃ A,A=1*2^(-E).toNat:=⟨_,rfl⟩;obtain⟨B,hB'⟩:∃ B,B=10^k.toNat:=⟨_,rfl⟩;obtain⟨V,hV⟩:∃ V,V=S*B:=⟨_,rfl⟩;obtain⟨_,ea,eb⟩:=Z1O (b:=sgn p) hA hB' hV rfl rfl x0 x3 ⟨x1,x2⟩ hk1 hE hk;have ok:=Z1O (b:=sgn p) hA hB' hV (show Q=V/A by rw[ea,eb,hQ]) (show R=V % A by rw[ea,eb,hR]) x0 x3 ⟨x1,x2⟩ hk1 hE hk;have hG:=Z5N p ((N+1:Nat):Int) m E f (sgn p) S A B V Q R g;rw[eK,q2 hE] at hG;exact ZA Zg5 hG ok.1 fun g=>fin eb rfl rfl rfl (by decide)
  ·have hk:k<0:=by omega
   obtain⟨A,hA⟩:∃ A,A=1*2^(-E).toNat:=⟨_,rfl⟩;obtain⟨B,hB'⟩:∃ B,B=10^(-k).toNat:=⟨_,rfl⟩;obtain⟨V,hV⟩:∃ V,V=A*B:=⟨_,rfl⟩;obtain⟨_,ea,eb⟩:=Z1P (b:=sgn p) hA hB' hV rfl rfl x0 x3 ⟨x1,x2⟩ hk1 hE hk;have ok:=Z1P (b:=sgn p) hA hB' hV (show Q=S/V by rw[ea,eb,hQ];) (show R=S % V by rw[ea,eb,hR]) x0 x3 ⟨x1,x2⟩ hk1 hE hk;have hG:=Z5O p ((N+1:Nat):Int) m E f (sgn p) S A B V Q R g;rw[eK,q1 hk,q2 hE] at hG;exact ZA Zg5 hG ok.1 fun g=>fin eb rfl rfl rfl (by decide)
def Z5Q:Ans:=fun vals s=>
 match vals,s with
 | [.int .u64 p,.int .i64 n,.int .i64 m],.inr (.inr (.inr (.inl true)))::s'=>some (.tuple #[bR (ZbJ p n.toNat m),.int .i64 0],s',[(decide (1≤n∧n≤1000),true),(decide (U p),true)])
 | [.int .u64 _,.int .i64 n,.int .i64 _],.inr (.inr (.inr (.inl false)))::s'=>some (.tuple #[bR [],.int .i64 1],s',[(decide (1≤n∧n≤1000),false)])
 | _,_=>none
theorem Zxs:z8 13 Z5Q:=by
 intro vals s v s' lg h hl w;unfold Z5Q at h;split at h
 ·rename_i p n m s2;cases h;obtain⟨l1,l2⟩:=Xc (hl _ Xe);have l3:=Xc (hl _ (Xd _ Xf));obtain⟨k,rfl⟩:∃ k:Nat,n=k:=⟨n.toNat,by omega⟩;rw[Xg];by_cases hs:spK p=0
  ·by_cases h0:cl p=0
   ·exact Zxd p m l3 k ⟨by omega,by omega⟩ h0 w
   ·refine Z2d p m l3 k ⟨by omega,by omega⟩ ?_ h0 w;rcases Int.lt_or_le 2 (cl p) with c | c
    ·exact absurd hs (ZrA l3 (by omega)).1
    ·exact c
  ·exact Z5G p k m l3 ⟨by omega,by omega⟩ hs w
 ·rename_i p n m s2;cases h;exact Z1G p n m (of_decide_eq_false (hl _ Xf)) w
 ·cases h
end Go.Proofs.YtgefjidphfdhdaaGreatDoor
namespace Go.Proofs.YtgefjidphfdhdaaGreatDoor
open Go.Proofs.Tryz
open Go.KRun Go.Nt Go.Rd Go.Pt
set_option maxRecDepth 100000
def Zxt:Con:=alt 13 Z5Q Zn
theorem ZrK:ConOk Zxt:=ZF func13 rfl Zxs Ze
def Z5R:Hc:=zx 14 Z2T Z6f
theorem Zxu:HcOk Z5R:=Zt func14 rfl ZtE Zxa
theorem Zxv (p n m:Int):ZH (ZK (Zm prog Zg Zxt Z5R) hT2 200 4 [.int .u64 p,.int .i64 n,.int .i64 m] [cmp true,cmp true,sam true]) (.bool true) [Zdk (ZbJ p n.toNat m) (ZbJ p n.toNat m) true,(decide (1≤n∧n≤1000),true),(decide (U p),true),(decide (1≤n∧n≤1000),true),(decide (U p),true)]:=by and_intros<;>kernel_rfl
theorem Zxw (p n m:Int):ZH (ZK (Zm prog Zg Zxt Z5R) hT2 200 4 [.int .u64 p,.int .i64 n,.int .i64 m] [cmp false,cmp false,sam true]) (.bool true) [(true,true),Zdk [] [] true,(decide (1≤n∧n≤1000),false),(decide (1≤n∧n≤1000),false)]:=by and_intros<;>kernel_rfl
theorem ZjL (p n m:Int) (hp:0≤p∧p<18446744073709551616) (w:World) (hk:ZdB w) (ht:knT w):Calls prog 4 #[.int .u64 p,.int .i64 n,.int .i64 m] w fun e w'=>e= .returned (.bool true)∧zH w w':=by
 have hu:decide (U p)=true:=Xa hp;have T:=Zp ZrK Zxu;by_cases h:1≤n∧n≤1000
 ·have hd:=Xa h;exact Zb0 T (Zxv p n m) (Za (Zai (Xa rfl)) (Za hd (Za hu (Za hd (ZB hu))))) (by rfl) (by rfl) (ZmX hk ht)
 ·have hd:=Xb h;exact Zb0 T (Zxw p n m) (Za rfl (Za (Zai (Xa rfl)) (Za hd (ZB hd)))) (by rfl) (by rfl) (ZmX hk ht)
end Go.Proofs.YtgefjidphfdhdaaGreatDoor
namespace Go.Proofs.YtgefjidphfdhdaaGreatDoor
open Go.Proofs.Tryz
open Go.KRun Go.RowKit Go.ChangeShapes
set_option maxRecDepth 100000
theorem Zos {H:Type}{enc:TypeId×Value→H}{P:Program}{f:Func}{s:ChangeSpec}{apart fresh handsOn again:Bool}{W W':World}{args:Array Value}{v:Value}{ds gs:List (DataW H)}
  (hW:DataW.Whole enc P f.params.toList s.vars apart W args.toList ds gs [])
  (hres:∀ (b:Nat) (sp:Nat→Bool) (hd:Bool),DataW.TrodAll enc P W' b sp hd f.resultTypes.toList (v.resultList f.resultTypes.size) (s.fn H (ds++gs)).results [])
  (hargs:∀ sp:Nat→Bool,DataW.TrodAll enc P W' 0 sp true f.params.toList args.toList (s.fn H (ds++gs)).args [])
  (hvars:∀ sp:Nat→Bool,DataW.TrodVars enc P W' sp s.vars (s.fn H (ds++gs)).vars [])
  (hk:W.keptBut W' (· ∈([]:List MemPlace)))
  (hok:∀ (j:Nat) (t:TypeId) (r:Value),f.resultTypes[j]? =some t→(v.resultList f.resultTypes.size)[j]? =some r→Value.okWide P W' .any 0 t r):
  s.post enc P f apart fresh handsOn again W args v W':=by
 refine⟨ds,gs,[],[],[],[],hW,hres _ _ _,hargs _,hvars _,World.keptBut_mono (fun p hp=>absurd hp List.not_mem_nil) hk,fun _=> ?_⟩;obtain⟨_,_,_,_,_,_,hn⟩:=hW;refine⟨hok,_,_,([]++[])++[],⟨[]++[],[],trodAll_append (hargs _) (hres _ _ _),hvars _,rfl,?_,?_⟩,?_⟩
 ·intro b off hp;exact absurd hp List.not_mem_nil
 ·intro ha;exact hn ha
 ·intro p hp _;exact absurd hp List.not_mem_nil
theorem Z2e {P:Program}{w:World}:∀ {l:List (String×DataW Unit)}{ps:List MemPlace},DataW.LaidVars P w l ps→∀ {n:String}{d:DataW Unit},(n,d)∈l→∃ g t cs fuel p,P.globalNamed n=some g∧(P.globals[g]?).map (·.type)=some t∧w.var? P n=some cs∧DataW.trod (fun _=>()) P w 0 (fun _=>true) false fuel t cs.toList=some (d,p)
 | [],_,_,_,_,hm=>absurd hm List.not_mem_nil
 | (n',d')::r,ps,h,n,d,hm=>by
  obtain⟨g,t,cs,fuel,p,q,h1,h2,h3,h4,h5,_⟩:=h;rcases List.mem_cons.1 hm with e | e
  ·cases e;exact⟨g,t,cs,fuel,p,h1,h2,h3,h4⟩
  ·exact Z2e h5 e
theorem ZrL {l:List (String×DataW Unit)}{W:World}(h:laidMet prog l W) {n:String}{d:DataW Unit}(hm:(n,d)∈l) (hn:prog.globalNamed n=some 2) (hd:d=Lib.tabData .u64 Lib.pow10Tab):knT W:=by
 obtain⟨ps,hl,_⟩:=h;obtain⟨g,t,cs,fuel,p,h1,h2,h3,h4⟩:=Z2e hl hm;obtain rfl:=Option.some.inj (hn.symm.trans h1);have ht:(prog.globals[2]?).map (·.type)=some 255:=by kernel_rfl
 obtain rfl:=Option.some.inj (ht.symm.trans h2);rw[hd] at h4;have hc:=Lib.cells_of_tab underlying255 underlying22 (by kernel_rfl) (by kernel_rfl) h4;unfold World.var? at h3;rw[hn] at h3;simp only[Option.bind_some] at h3;split at h3
 ·rename_i c e z hb;cases h3;refine⟨e,z,?_⟩;rw[hb];congr 2;apply Array.toList_inj.1;rw[hc];rfl
 ·cases h3
end Go.Proofs.YtgefjidphfdhdaaGreatDoor
