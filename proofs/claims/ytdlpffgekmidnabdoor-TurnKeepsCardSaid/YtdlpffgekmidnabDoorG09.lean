/-
  TuC, Hcs, TuM, TuN, TuO, TuP, TuQ, Row, RowS, RowQ, Asn, AsNum
-/
import Derived.Test.YtdlpffgekmidnabDoorG08
import Derived.WalkKit
import Derived.ProofKit
import Derived.OpenShut
import Derived.Laws.IdiomArrays
import Derived.Lib.SmallJoins
import Derived.ChangeSlices
import Derived.LaidEql
import Derived.Stop.Asserts
import Derived.RowKitTokens
namespace Go.Proofs.YtdlpffgekmidnabDoor
open Go.Proofs.Tryd
open Go.KRun Go.Wd Go.Pt
set_option maxRecDepth 100000
theorem pp_calls {k n:Int}(h:inK k n) (w:World):Calls prog 11 #[paV k n] w fun e w'=>e= .returned (ptV (coI k n) (siI k n))∧Tidy w w':=
 fits_calls (tabY_ok conTE_ok) (pp_fits k n) (okPC (Xa h) (okP1 (Xa h))) (by rfl) (by rfl) w
def gPp:Ans:=fun vals s=>match vals with | [.agg ⟨[.int .i64 k,.int .i64 n]⟩]=>some (ptV (coI k n) (siI k n),s,[(decide (inK k n),true)]) | _=>none
theorem gPp_ok:AnsOk 11 gPp:=by
 intro vals s v s' lg h hl w;unfold gPp at h;split at h
 ·cases h;exact pp_calls (Xc (hl _ Xf)) w
 ·cases h
def conTF:Con:=alt 11 gPp conTE
theorem conTF_ok:ConOk conTF:=alt_ok func11 rfl gPp_ok conTE_ok
theorem co_bad (k n:Int):Fits (reckon (tabOf prog extY conTF true) 300 14 [.int .i64 k,.int .i64 n] [cmp true]) (.tuple #[.int .u64 0,errF 1]) [bL n true]:=by and_intros<;>kernel_rfl
theorem co_in (k n:Int):Fits (reckon (tabOf prog extY conTF true) 300 14 [.int .i64 k,.int .i64 n] [cmp false]) (.tuple #[.int .u64 (coI (k % n) n),.nilIface]) [kL (k % n) n,bL n false]:=by and_intros<;>kernel_rfl
theorem si_bad (k n:Int):Fits (reckon (tabOf prog extY conTF true) 300 15 [.int .i64 k,.int .i64 n] [cmp true]) (.tuple #[.int .u64 0,errF 1]) [bL n true]:=by and_intros<;>kernel_rfl
theorem si_in (k n:Int):Fits (reckon (tabOf prog extY conTF true) 300 15 [.int .i64 k,.int .i64 n] [cmp false]) (.tuple #[.int .u64 (siI (k % n) n),.nilIface]) [kL (k % n) n,bL n false]:=by and_intros<;>kernel_rfl
theorem ro_bad (k n:Int):Fits (reckon (tabOf prog extY conTF true) 300 8 [.int .i64 k,.int .i64 n] [cmp true]) (.tuple #[ptV 0 0,errF 1]) [bL n true]:=by and_intros<;>kernel_rfl
theorem ro_in (k n:Int):Fits (reckon (tabOf prog extY conTF true) 300 8 [.int .i64 k,.int .i64 n] [cmp false]) (.tuple #[ptV (coI (k % n) n) (siI (k % n) n),.nilIface]) [kL (k % n) n,bL n false]:=by and_intros<;>kernel_rfl
theorem in_k {k n:Int}(h:¬ badP n):inK (k % n) n:=by
 unfold badP at h;have b:=Int.emod_nonneg k (show n≠0 by omega);have c:=Int.emod_lt_of_pos k (show 0<n by omega);exact⟨b,c,by omega⟩
def gTu (z:Value) (f:Int→Int→Value):Ans:=fun vals s=>
 match vals,s with
 | [.int .i64 k,.int .i64 n],.inr (.inr (.inr (.inl d)))::s'=>
  match d with
  | true=>some (.tuple #[z,errF 1],s',[(decide (badP n),true)])
  | false=>some (.tuple #[f k n,.nilIface],s',[(decide (badP n),false)])
 | _,_=>none
theorem gTu_ok {f:Nat}{z:Value}{g:Int→Int→Value}(h1:∀ k n:Int,badP n→∀ w,Calls prog f #[.int .i64 k,.int .i64 n] w fun e w'=>e= .returned (.tuple #[z,errF 1])∧Tidy w w')
  (h2:∀ k n:Int,¬ badP n→∀ w,Calls prog f #[.int .i64 k,.int .i64 n] w fun e w'=>e= .returned (.tuple #[g k n,.nilIface])∧Tidy w w'):AnsOk f (gTu z g):=by
 intro vals s v s' lg h hl w;unfold gTu at h;split at h
 ·rename_i k n d s2;split at h
  ·cases h;exact h1 k n (Xc (hl _ Xf)) w
  ·cases h;exact h2 k n (of_decide_eq_false (hl _ Xf)) w
 ·cases h
def rootV (k n:Int):Value:=ptV (coI (k % n) n) (siI (k % n) n)
theorem root_ok:AnsOk 8 (gTu (ptV 0 0) rootV):=gTu_ok
 (fun k n h w=>fits_calls (tabY_ok conTF_ok) (ro_bad k n) (okP1 (Xa h)) (by rfl) (by rfl) w)
 (fun k n h w=>fits_calls (tabY_ok conTF_ok) (ro_in k n) (okPC (Xa (in_k h)) (okP1 (Xb h))) (by rfl) (by rfl) w)
theorem cosC_ok:AnsOk 14 (gTu (.int .u64 0) fun k n=> .int .u64 (coI (k % n) n)):=gTu_ok
 (fun k n h w=>fits_calls (tabY_ok conTF_ok) (co_bad k n) (okP1 (Xa h)) (by rfl) (by rfl) w)
 (fun k n h w=>fits_calls (tabY_ok conTF_ok) (co_in k n) (okPC (Xa (in_k h)) (okP1 (Xb h))) (by rfl) (by rfl) w)
theorem sinC_ok:AnsOk 15 (gTu (.int .u64 0) fun k n=> .int .u64 (siI (k % n) n)):=gTu_ok
 (fun k n h w=>fits_calls (tabY_ok conTF_ok) (si_bad k n) (okP1 (Xa h)) (by rfl) (by rfl) w)
 (fun k n h w=>fits_calls (tabY_ok conTF_ok) (si_in k n) (okPC (Xa (in_k h)) (okP1 (Xb h))) (by rfl) (by rfl) w)
def conTS:Con:=alt 14 (gTu (.int .u64 0) fun k n=> .int .u64 (coI (k % n) n)) (alt 15 (gTu (.int .u64 0) fun k n=> .int .u64 (siI (k % n) n)) conN)
theorem conTS_ok:ConOk conTS:=alt_ok func14 rfl cosC_ok (alt_ok func15 rfl sinC_ok conN_ok)
theorem half_is:coI (1 % 6) 6=4602678819172646912:=by decide+kernel
theorem eighth_is:siI (1 % 8) 8=4604544271217802189:=by decide+kernel
theorem sure16_fits (c s:Int):c=coI (1 % 6) 6→s=siI (1 % 8) 8→Fits (reckon (tabOf prog extY conTS true) 300 9 [] [cmp false,cmp false,cmp true,cmp true]) (.bool true) [(s==4604544271217802189,true),(c==4602678819172646912,true),(decide (badP 8),false),(decide (badP 6),false)]:=by
 rintro rfl rfl;exact by and_intros<;>kernel_rfl
theorem sure16_calls (w:World):Calls prog 9 #[] w fun e w'=>e= .returned (.bool true)∧Tidy w w':=
 fits_calls (tabY_ok conTS_ok) (sure16_fits _ _ rfl rfl) (okPC (by rw[eighth_is];rfl) (okPC (by rw[half_is];rfl) (okPC (by decide) (okP1 (by decide))))) (by rfl) (by rfl) w
def conTL:Con:=alt 9 (g0 (.bool true)) (alt 8 (gTu (ptV 0 0) rootV) conN)
theorem conTL_ok:ConOk conTL:=alt_ok func9 rfl (g0_ok sure16_calls) (alt_ok func8 rfl root_ok conN_ok)
end Go.Proofs.YtdlpffgekmidnabDoor
namespace Go.Proofs.YtdlpffgekmidnabDoor
open Go.Proofs.Tryd
open Go.KRun
set_option maxRecDepth 100000
abbrev Hc:=Nat→List Value→Hp→List Dec→Option (Value×Hp×List Dec×Log)
abbrev AnsH:=List Value→Hp→List Dec→Option (Value×Hp×List Dec×Log)
def AnsHOk (f:Nat) (g:AnsH):Prop:=∀ vals h s v h' s' lg,g vals h s=some (v,h',s',lg)→okLog lg→∀ m B w,Emb m B h w→(∀ v∈vals,lt h.n v=true)→Calls prog f (vals.map (mv m)).toArray w fun e w'=>∃ m',e= .returned (mv m' v)∧Came m B h w v h' m' w'
structure HcOk (hc:Hc):Prop where
 fn:∀ f vals h s r,hc f vals h s=some r→∃ F,prog.funcs[f]? =some F∧F.body.isSome=true
 calls:∀ f,AnsHOk f (hc f)
def hcN:Hc:=fun _ _ _ _=>none
theorem hcN_ok:HcOk hcN:=⟨fun _ _ _ _ _ h=>(by cases h),fun _ _ _ _ _ _ _ _ h=>(by cases h)⟩
def altH (f:Nat) (g:AnsH) (hc:Hc):Hc:=fun f' vals h s=>if Nat.beq f' f=true then g vals h s else hc f' vals h s
theorem altH_ok {f:Nat}{F:Func}(hF:prog.funcs[f]? =some F) (hb:F.body.isSome=true) {g:AnsH}(hg:AnsHOk f g) {hc:Hc}(h:HcOk hc):HcOk (altH f g hc) where
 fn:=fun f' vals h' s r hr=>by
  unfold altH at hr;split at hr
  ·rename_i e;rw[Xj e];exact⟨F,hF,hb⟩
  ·exact h.fn _ _ _ _ _ hr
 calls:=fun f' vals h' s v h'' s' lg hr=>by
  unfold altH at hr;split at hr
  ·rename_i e;rw[Xj e];exact hg _ _ _ _ _ _ _ hr
  ·exact h.calls f' _ _ _ _ _ _ _ hr
def tabH (P:Program) (ext:Nat→List Value→Option (Value×Log)) (con:Con) (hc:Hc):Tab:={P:=P,fn:=fun f=>P.funcs[f]?,ext:=ext,con:=con,sym:=true,hc:=hc}
theorem tabH_ok {con:Con}(h:ConOk con) {hc:Hc}(hh:HcOk hc):TabOk (tabH prog extY con hc) where
 mixed:=mixed
 ext:=extY_ok
 con:=fun f vals s v s' lg hc hl=>⟨by obtain⟨F,h1,h2⟩:=h.fn f vals s v s' lg hc;exact⟨F,(fns_ok f F h1).1,(fns_ok f F h1).2,h2⟩,h.calls f vals s v s' lg hc hl⟩
 fn:=fns_ok
 hc:=fun f vals h0 s v h' s' lg hr hl=>⟨by obtain⟨F,h1,h2⟩:=hh.fn f vals h0 s _ hr;exact⟨F,(fns_ok f F h1).1,(fns_ok f F h1).2,h2⟩,hh.calls f vals h0 s v h' s' lg hr hl⟩
end Go.Proofs.YtdlpffgekmidnabDoor
namespace Go.Proofs.YtdlpffgekmidnabDoor
open Go.Proofs.Tryd
open Go.KRun Go.Wd
set_option maxRecDepth 100000
def hSm (l10 l8 l6 L F:List Value):Hp:=⟨6,[(l10,26),(l8,39),(l6,26),(L,mpT),([.map (some 2)],obTy),(F,fmT)]⟩
def hNm (l10 l8 l6 F:List Value):Hp:=⟨5,[(l10,26),(l8,39),(l6,26),([.map none],obTy),(F,fmT)]⟩
def hSm' (c s k n:Int) (l10 l8 l6 L F:List Value):Hp:=⟨8,[([.int .u64 c,.int .u64 s],26),([.int .i64 k,.int .i64 n],39),(l10,26),(l8,39),(l6,26),(bumpM (paV k n) (ptV c s) L,mpT),([.map (some 2)],obTy),(F,fmT)]⟩
def hNm' (c s k n:Int) (l10 l8 l6 F:List Value):Hp:=⟨8,[([.int .i64 1,paV k n,ptV c s],mpT),([.int .u64 c,.int .u64 s],26),([.int .i64 k,.int .i64 n],39),(l10,26),(l8,39),(l6,26),([.map (some 7)],obTy),(F,fmT)]⟩
def noneT (k n:Int):List Value→Bool
 | []=>true
 | .agg ⟨[.int .i64 a,.int .i64 b]⟩::_::r=> !(k==a && (n==b && true)) && noneT k n r
 | _=>false
def hereT (k n:Int) (v:Value):List Value→Bool
 | .agg ⟨[.int .i64 a,.int .i64 b]⟩::u::r=>match (k==a && (n==b && true)) with | true=>valIs u v | false=>hereT k n v r
 | _=>false
theorem eq_parts (k n a b:Int):eqV prog 5 39 (paV k n) (paV a b)=some (k==a && (n==b && true)):=by kernel_rfl
theorem noneT_is {k n:Int}:∀ {L:List Value},noneT k n L=true→lookL prog 39 (paV k n) L=some none
 | [],_=>rfl
 | [x],h=>by
  unfold noneT at h;split at h
  ·cases ‹[x]=[]›
  ·cases ‹[x]=_›
  ·cases h
 | x::u::r,h=>by
  unfold noneT at h;split at h
  ·cases ‹_=[]›
  ·rename_i a b y r' e;cases e;rw[Xh] at h;have e1:eqV prog 5 39 (paV k n) (.agg ⟨[.int .i64 a,.int .i64 b]⟩)=some false:=by
    have:=eq_parts k n a b;have h1:(k==a && (n==b && true))=false:=(Bool.not_eq_true' _).mp h.1;rw[h1] at this;exact this
   unfold lookL;rw[e1];exact noneT_is h.2
  ·cases h
theorem hereT_is {k n:Int}{v:Value}:∀ {L:List Value},hereT k n v L=true→∃ u,lookL prog 39 (paV k n) L=some (some u)∧valIs u v=true
 | [],h=>by cases h
 | [x],h=>by
  unfold hereT at h;split at h<;>first | cases h | simp_all
 | x::u::r,h=>by
  unfold hereT at h;split at h
  ·rename_i a b y r' e;cases e;have:=eq_parts k n a b;split at h
   ·rename_i h1;rw[h1] at this;refine⟨u,?_,h⟩;unfold lookL;rw[show eqV prog 5 39 (paV k n) (.agg ⟨[.int .i64 a,.int .i64 b]⟩)=some true from this]
   ·rename_i h1;rw[h1] at this;obtain⟨q,h2,h3⟩:=hereT_is h;refine⟨q,?_,h3⟩;unfold lookL;rw[show eqV prog 5 39 (paV k n) (.agg ⟨[.int .i64 a,.int .i64 b]⟩)=some false from this];exact h2
  ·cases h
theorem rem_s (k n c s:Int) (l10 l8 l6 L F:List Value):GoesT (evC (tabH prog extY conN hcN) 300 false (cBody f12) ([.pointer (some ⟨1,0,none⟩),paV k n,ptV c s]++List.replicate 18 undef,hSm l10 l8 l6 L F,[cmp false]) ⟨[],[],[]⟩) 3 18 none [.pointer (some ⟨1,0,none⟩),paV k n,ptV c s] (hSm' c s k n l10 l8 l6 L F) [(isMp L && noneIs prog 39 (paV k n) L.tail,true)]:=by and_intros<;>kernel_rfl
theorem rem_n (k n c s:Int) (l10 l8 l6 F:List Value):GoesT (evC (tabH prog extY conN hcN) 300 false (cBody f12) ([.pointer (some ⟨1,0,none⟩),paV k n,ptV c s]++List.replicate 18 undef,hNm l10 l8 l6 F,[cmp false]) ⟨[],[],[]⟩) 3 18 none [.pointer (some ⟨1,0,none⟩),paV k n,ptV c s] (hNm' c s k n l10 l8 l6 F) [(true,true)]:=by and_intros<;>kernel_rfl
theorem rem_body:f12.body=some (cBody f12):=by kernel_rfl
theorem rem_res (a b c:Value) (h:Hp) (g:Nat→Value):resS prog f12 ([a,b,c]++tl 18 g) h=some (.tuple #[]):=rfl
theorem hcalls_all {T:Tab}{f:Nat}{F:Func}{c:Code}(hF:T.P.funcs[f]? =some F) (hc:F.body=some c) {vals:List Value}{v:Value}{h h':Hp}
  (hr:Runs T c (vals++List.replicate (F.ntmps-vals.length) undef,h,[]) fun e y=>(e=none∨e=some none)∧resS T.P F y.1 y.2.1=some v∧y.2.1=h') (m:Mp) (B:Nat) (w:World) (E:Emb m B h w) (hvals:∀ v∈vals,lt h.n v=true):
  Calls T.P f (vals.map (mv m)).toArray w fun e w'=>∃ m',e= .returned (mv m' v)∧Came m B h w v h' m' w':=by
 refine calls_of_wp hF hc ?_;have R:Rel m B (vals++List.replicate (F.ntmps-vals.length) undef,h,[]) {tmps:=(vals.map (mv m)).toArray++Array.replicate (F.ntmps-(vals.map (mv m)).toArray.size) undef,defers:=[]} w:=by
  refine⟨?_,rfl,E,?_⟩
  ·simp [mv_undef]
  ·intro y hy;rcases List.mem_append.1 hy with hy | hy
   ·exact hvals y hy
   ·rw[List.eq_of_mem_replicate hy];simp [undef,lt]
 refine hr _ _ _ w R _ fun e y he a' w' hR=> ?_;obtain⟨hex,hres,rfl⟩:=he;obtain⟨m',k1,k2,k3,k4⟩:=hR;obtain⟨r1,r2⟩:=resS_run k2.emb k2.wf hres;rw[← k2.tmps] at r1;have post:a'.defers=[]∧∃ v',(results F a'.tmps).run T.P w'= .ok v' w'∧∃ m',Ending.returned v'= .returned (mv m' v)∧Came m B h w v y.2.1 m' w':=
  ⟨k2.dfr,_,r1,m',rfl,⟨k1,k2.emb,k3,k4,r2⟩⟩
 rcases hex with rfl | rfl<;>exact post
def gRem:AnsH:=fun vals h s=>
 match vals,h with
 | [.pointer (some ⟨1,0,none⟩),.agg ⟨[.int .i64 k,.int .i64 n]⟩,.agg ⟨[.int .u64 c,.int .u64 t]⟩],⟨6,[(l10,t10),(l8,t8),(l6,t6),(L,tm),([.map (some 2)],ts),(F,tf)]⟩=>
  if (Nat.beq t10 26 && Nat.beq t8 39 && Nat.beq t6 26 && Nat.beq tm mpT && Nat.beq ts obTy && Nat.beq tf fmT)=true then some (.tuple #[],hSm' c t k n l10 l8 l6 L F,s,[(isMp L && noneT k n L.tail,true)]) else none
 | [.pointer (some ⟨1,0,none⟩),.agg ⟨[.int .i64 k,.int .i64 n]⟩,.agg ⟨[.int .u64 c,.int .u64 t]⟩],⟨5,[(l10,t10),(l8,t8),(l6,t6),([.map none],ts),(F,tf)]⟩=>
  if (Nat.beq t10 26 && Nat.beq t8 39 && Nat.beq t6 26 && Nat.beq ts obTy && Nat.beq tf fmT)=true then some (.tuple #[],hNm' c t k n l10 l8 l6 F,s,[]) else none
 | _,_=>none
theorem gRem_ok:AnsHOk 12 gRem:=by
 intro vals h s v h' s' lg hg hl m B w E hv;have TT:=tabH_ok conN_ok hcN_ok;unfold gRem at hg;split at hg
 ·rename_i k n c t l10 t10 l8 t8 l6 t6 L tm ts F tf;split at hg
  ·rename_i hc;cases hg;simp only[Xh] at hc;obtain⟨⟨⟨⟨⟨c1,c2⟩,c3⟩,c4⟩,c5⟩,c6⟩:=hc;obtain rfl:=Xj c1;obtain rfl:=Xj c2;obtain rfl:=Xj c3;obtain rfl:=Xj c4;obtain rfl:=Xj c5;obtain rfl:=Xj c6;have h1:=hl _ Xf;simp only[Xh] at h1;have h2:(isMp L && noneIs prog 39 (paV k n) L.tail)=true:=by
    rw[h1.1];unfold noneIs;rw[noneT_is h1.2];rfl
   refine hcalls_all (T:=tabH prog extY conN hcN) func12 rem_body ((goesT_runs TT (rem_s k n c t l10 l8 l6 L F) (okP1 h2)).mono fun e z he=> ?_) m B w E hv;obtain⟨rfl,⟨g,e1⟩,e2⟩:=he;exact⟨.inl rfl,by rw[e1];exact rem_res _ _ _ _ g,e2⟩
  ·cases hg
 ·rename_i k n c t l10 t10 l8 t8 l6 t6 ts F tf;split at hg
  ·rename_i hc;cases hg;simp only[Xh] at hc;obtain⟨⟨⟨⟨c1,c2⟩,c3⟩,c5⟩,c6⟩:=hc;obtain rfl:=Xj c1;obtain rfl:=Xj c2;obtain rfl:=Xj c3;obtain rfl:=Xj c5;obtain rfl:=Xj c6;refine hcalls_all (T:=tabH prog extY conN hcN) func12 rem_body ((goesT_runs TT (rem_n k n c t l10 l8 l6 F) (okP1 rfl)).mono fun e z he=> ?_) m B w E hv;obtain⟨rfl,⟨g,e1⟩,e2⟩:=he;exact⟨.inl rfl,by rw[e1];exact rem_res _ _ _ _ g,e2⟩
  ·cases hg
 ·cases hg
def hcRm:Hc:=altH 12 gRem hcN
theorem hcRm_ok:HcOk hcRm:=altH_ok func12 rfl gRem_ok hcN_ok
end Go.Proofs.YtdlpffgekmidnabDoor
namespace Go.Proofs.YtdlpffgekmidnabDoor
open Go.KRun Go.Wd
set_option maxRecDepth 100000
def hS0 (L F:List Value):Hp:=⟨3,[(L,mpT),([.map (some 2)],obTy),(F,fmT)]⟩
def hN0 (F:List Value):Hp:=⟨2,[([.map none],obTy),(F,fmT)]⟩
def frOf (m:Mp) (h:Hp) (w:World):List Value:=(List.range h.n).filterMap fun c=>
 match h.blk? c with
 | some y=>
  match ro y.2,w.heap[(m c).1]? with
  | false,some (.cells cs t _)=>some (.func (.func (m c).1) ⟨[.int .i64 (t:Nat)]⟩ cs)
  | _,_=>none
 | none=>none
theorem fr_mem {m:Mp}{h:Hp}{w:World}{v:Value}(hv:v∈frOf m h w):∃ c y cs t z,h.blk? c=some y∧ro y.2=false∧w.heap[(m c).1]? =some (.cells cs t z)∧v= .func (.func (m c).1) ⟨[.int .i64 (t:Nat)]⟩ cs:=by
 unfold frOf at hv;obtain⟨c,_,h1⟩:=List.mem_filterMap.1 hv;split at h1
 ·rename_i y hy;split at h1
  ·rename_i cs t z hr hw;exact⟨c,y,cs,t,z,hy,hr,hw,(Option.some.inj h1).symm⟩
  ·cases h1
 ·cases h1
theorem mem_fr {m:Mp}{B:Nat}{h:Hp}{w:World}(E:Emb m B h w) {c:Nat}{y:List Value×TypeId}(hc:h.blk? c=some y) (hy:ro y.2=false):∃ cs t,w.heap[(m c).1]? =some (.cells cs t (0,0))∧ .func (.func (m c).1) ⟨[.int .i64 (t:Nat)]⟩ cs∈frOf m h w:=by
 obtain⟨r,z,_,h1,h2⟩:=E.lies c y hc (tomb_ro hy);obtain⟨z1,z2⟩:=h2 hy;refine⟨_,z.1,by rw[h1,z2],?_⟩;unfold frOf;refine List.mem_filterMap.2 ⟨c,List.mem_range.2 (Hp.blk_lt hc),?_⟩;simp only[hc,hy,h1]
theorem fr_at {m:Mp}{B:Nat}{h:Hp}{w:World}(E:Emb m B h w):frAt w (frOf m h w):=by
 intro v hv k t cs hf;obtain⟨c,y,cs',t',z,h1,h2,h3,rfl⟩:=fr_mem hv;obtain⟨r,z',_,h4,h5⟩:=E.lies c y h1 (tomb_ro h2);have hz:=(h5 h2).2;rw[h4] at h3;unfold frV at hf;simp only[Option.some.injEq,Prod.mk.injEq,Xg] at hf;obtain⟨rfl,rfl,rfl⟩:=hf;cases h3;rw[h4,hz]
theorem fr_still {m':Mp}{m:Mp}{h:Hp}{w:World}:(frOf m h w).map (mv1 m')=frOf m h w:=by
 refine (List.map_congr_left fun v hv=> ?_).trans (List.map_id' _);obtain⟨c,y,cs',t',z,h1,h2,h3,rfl⟩:=fr_mem hv;rfl
theorem fr_own {m:Mp}{h:Hp}{w:World}{g k:Nat}(hf:fpt g (frOf m h w) fmT k):∃ c y,h.blk? c=some y∧ro y.2=false∧(m c).1=k:=by
 rcases hf with ⟨hf,_⟩ | ⟨_,v,hv,t,cs,hf⟩
 ·exact absurd rfl hf
 ·obtain⟨c,y,cs',t',z,h1,h2,h3,rfl⟩:=fr_mem hv;unfold frV at hf;simp only[Option.some.injEq,Prod.mk.injEq] at hf;exact⟨c,y,h1,h2,hf.1⟩
theorem ob_marks:ab obT=true∧spK obT=true∧ro obTy=false∧tomb fmT=true∧ro fmT=true∧spK fmT=true∧ab fmT=true∧spK obTy=false∧rt obTy=obTy:=⟨rfl,rfl,rfl,rfl,rfl,rfl,rfl,rfl,rfl⟩
theorem mp_still {L:List Value}(hm:isMp L=true):∀ v∈L,lt1 0 v=true:=by
 unfold isMp at hm;split at hm
 ·simp only[Xh,List.all_eq_true] at hm;intro v hv;rcases List.mem_cons.1 hv with rfl | hv
  ·rfl
  ·exact hm.2 v hv
 ·cases hm
theorem still_mapL {m:Mp}{L:List Value}(h:∀ v∈L,lt1 0 v=true):L.map (mv1 m)=L:=(List.map_congr_left fun v hv=>mv1_still (h v hv)).trans (List.map_id' _)
theorem blkS3 {L F:List Value}{b:Nat}{x:List Value×TypeId}(h:(hS0 L F).blk? b=some x):(b=0∧x=(F,fmT))∨(b=1∧x=([.map (some 2)],obTy))∨(b=2∧x=(L,mpT)):=by
 have hb:b<3:=Hp.blk_lt h;rcases (show b=0∨b=1∨b=2 by omega) with rfl | rfl | rfl
 ·exact .inl ⟨rfl,(Option.some.inj h).symm⟩
 ·exact .inr (.inl ⟨rfl,(Option.some.inj h).symm⟩)
 ·exact .inr (.inr ⟨rfl,(Option.some.inj h).symm⟩)
theorem blkN2 {F:List Value}{b:Nat}{x:List Value×TypeId}(h:(hN0 F).blk? b=some x):(b=0∧x=(F,fmT))∨(b=1∧x=([.map none],obTy)):=by
 have hb:b<2:=Hp.blk_lt h;rcases (show b=0∨b=1 by omega) with rfl | rfl
 ·exact .inl ⟨rfl,(Option.some.inj h).symm⟩
 ·exact .inr ⟨rfl,(Option.some.inj h).symm⟩
def mO (k1 k2:Nat×Nat) (i:Nat):Nat×Nat:=if i=1 then k1 else if i=2 then k2 else (0,0)
theorem ob_open {m:Mp}{B:Nat}{h:Hp}{w:World}{b:Nat}{L:List Value}(E:Emb m B h w) (hb:h.blk? b=some (L,obT)) (hm:isMp L=true):
  ∃ m1,(m1 1).1=(m b).1∧(Emb m1 B (hS0 L (frOf m h w)) w∨(Emb m1 B (hN0 (frOf m h w)) w∧L=[.int .i64 0])):=by
 obtain⟨o1,o2,o3,o4,o5,o6,o7,o8,o9⟩:=ob_marks;obtain⟨p1,p2,p3,p4⟩:=mp_marks;obtain⟨f1,f2,f3⟩:=fm_marks;obtain⟨A1,A2,A3⟩:=(E.abs b _ hb o1).2 o2;obtain⟨hB,c,q,hg,hc⟩:=A1.2.1 rfl;have st:=mp_still hm;rw[still_mapL st] at hc;have own:∀ {k:Nat},(∃ c y,h.blk? c=some y∧ro y.2=false∧(m c).1=k)→k≠(m b).1:=by
  rintro k ⟨c,y,h1,h2,rfl⟩ he;exact A2 c y h1 h2 (.inl ⟨(show obT≠fmT by decide),he⟩)
 rcases hc with ⟨rfl,r,hr⟩ | ⟨g2,rfl,hB2,hmp⟩
 ·
  have hL:L=[.int .i64 0]:=by
   have h0:headE #[]=[.int .i64 0]:=rfl;rw[h0] at hr
   match L,hm,hr with
   | [a],_,hr=>rw[(List.cons.inj hr).1]
   | a::a'::t,_,hr=>cases (List.cons.inj hr).2
  refine⟨mO ((m b).1,1+q.length) (0,0),rfl,.inr ⟨?_,hL⟩⟩;refine⟨rfl,fun i x hi ht=> ?_,fun i x hi hx=> ?_,fun i x hi ht hr=> ?_,fun i j x y hi hj hx hy he=> ?_,fun i x hi v hv=> ?_,E.base,E.ice,fun i x hi hx=> ?_⟩
  ·rcases blkN2 hi with ⟨rfl,rfl⟩ | ⟨rfl,rfl⟩
   ·rw[o4] at ht;cases ht
   ·exact⟨q,(obTy,0,0),by simp [mO],hg,fun _=>⟨o9.symm,rfl⟩⟩
  ·rcases blkN2 hi with ⟨rfl,rfl⟩ | ⟨rfl,rfl⟩
   ·rw[o5] at hx;cases hx
   ·exact hB
  ·rcases blkN2 hi with ⟨rfl,rfl⟩ | ⟨rfl,rfl⟩
   ·rw[o4] at ht;cases ht
   ·rw[o3] at hr;cases hr
  ·rcases blkN2 hi with ⟨rfl,rfl⟩ | ⟨rfl,rfl⟩
   ·rw[o5] at hx;cases hx
   ·rcases blkN2 hj with ⟨rfl,rfl⟩ | ⟨rfl,rfl⟩
    ·rw[o5] at hy;cases hy
    ·rfl
  ·rcases blkN2 hi with ⟨rfl,rfl⟩ | ⟨rfl,rfl⟩
   ·obtain⟨c,y,cs',t',z,_,_,_,rfl⟩:=fr_mem hv;rfl
   ·rw[List.mem_singleton.1 hv];rfl
  ·rcases blkN2 hi with ⟨rfl,rfl⟩ | ⟨rfl,rfl⟩
   ·refine⟨fun hs=>absurd (o6.symm.trans hs) (by decide),fun _=> ?_⟩;rw[show (frOf m h w,fmT).1.map (mv1 (mO ((m b).1,1+q.length) (0,0)))=frOf m h w from fr_still];refine⟨⟨fun he=>absurd (show fmT=mpT from he) (by decide),fun he=>absurd (show fmT=obT from he) (by decide),fun _=>fr_at E,fun he=>absurd rfl he⟩,fun c y hc hy hf=> ?_,fun c y hc hy hq=> ?_⟩
    ·rcases blkN2 hc with ⟨rfl,rfl⟩ | ⟨rfl,rfl⟩
     ·rw[o5] at hy;cases hy
     ·exact own (fr_own hf) rfl
    ·rcases blkN2 hc with ⟨rfl,rfl⟩ | ⟨rfl,rfl⟩
     ·rfl
     ·rw[o8] at hy;cases hy
   ·rw[ab_ro o3] at hx;cases hx
 ·
  have hne:g2≠(m b).1:=by
   rintro rfl;obtain⟨es,ck,r,h1,_⟩:=hmp;rw[hg] at h1;cases h1
  refine⟨mO ((m b).1,1+q.length) (g2,0),rfl,.inl ?_⟩;refine⟨rfl,fun i x hi ht=> ?_,fun i x hi hx=> ?_,fun i x hi ht hr=> ?_,fun i j x y hi hj hx hy he=> ?_,fun i x hi v hv=> ?_,E.base,E.ice,fun i x hi hx=> ?_⟩
  ·rcases blkS3 hi with ⟨rfl,rfl⟩ | ⟨rfl,rfl⟩ | ⟨rfl,rfl⟩
   ·rw[o4] at ht;cases ht
   ·exact⟨q,(obTy,0,0),by simp [mO],hg,fun _=>⟨o9.symm,rfl⟩⟩
   ·rw[p4] at ht;cases ht
  ·rcases blkS3 hi with ⟨rfl,rfl⟩ | ⟨rfl,rfl⟩ | ⟨rfl,rfl⟩
   ·rw[o5] at hx;cases hx
   ·exact hB
   ·rw[p3] at hx;cases hx
  ·rcases blkS3 hi with ⟨rfl,rfl⟩ | ⟨rfl,rfl⟩ | ⟨rfl,rfl⟩
   ·rw[o4] at ht;cases ht
   ·rw[o3] at hr;cases hr
   ·rw[p4] at ht;cases ht
  ·rcases blkS3 hi with ⟨rfl,rfl⟩ | ⟨rfl,rfl⟩ | ⟨rfl,rfl⟩
   ·rw[o5] at hx;cases hx
   ·rcases blkS3 hj with ⟨rfl,rfl⟩ | ⟨rfl,rfl⟩ | ⟨rfl,rfl⟩
    ·rw[o5] at hy;cases hy
    ·rfl
    ·rw[p3] at hy;cases hy
   ·rw[p3] at hx;cases hx
  ·rcases blkS3 hi with ⟨rfl,rfl⟩ | ⟨rfl,rfl⟩ | ⟨rfl,rfl⟩
   ·obtain⟨c,y,cs',t',z,_,_,_,rfl⟩:=fr_mem hv;rfl
   ·rw[List.mem_singleton.1 hv];rfl
   ·exact lt1_mono (Nat.zero_le _) (st v hv)
  ·rcases blkS3 hi with ⟨rfl,rfl⟩ | ⟨rfl,rfl⟩ | ⟨rfl,rfl⟩
   ·refine⟨fun hs=>absurd (o6.symm.trans hs) (by decide),fun _=> ?_⟩;rw[show (frOf m h w,fmT).1.map (mv1 (mO ((m b).1,1+q.length) (g2,0)))=frOf m h w from fr_still];refine⟨⟨fun he=>absurd (show fmT=mpT from he) (by decide),fun he=>absurd (show fmT=obT from he) (by decide),fun _=>fr_at E,fun he=>absurd rfl he⟩,fun c y hc hy hf=> ?_,fun c y hc hy hq=> ?_⟩
    ·rcases blkS3 hc with ⟨rfl,rfl⟩ | ⟨rfl,rfl⟩ | ⟨rfl,rfl⟩
     ·rw[o5] at hy;cases hy
     ·exact own (fr_own hf) rfl
     ·rw[p3] at hy;cases hy
    ·rcases blkS3 hc with ⟨rfl,rfl⟩ | ⟨rfl,rfl⟩ | ⟨rfl,rfl⟩
     ·rfl
     ·rw[o8] at hy;cases hy
     ·cases (hq.symm.trans f1).symm.trans f3
   ·rw[ab_ro o3] at hx;cases hx
   ·refine⟨fun hs=>absurd (p2.symm.trans hs) (by decide),fun _=> ?_⟩;rw[show (L,mpT).1.map (mv1 (mO ((m b).1,1+q.length) (g2,0)))=L from still_mapL st];refine⟨⟨fun _=>⟨hB2,hmp⟩,fun he=>absurd (show mpT=obT from he) (by decide),fun he=>absurd (show mpT=fmT from he) (by decide),fun _=>hmp.lt⟩,fun c y hc hy hf=> ?_,fun c y hc hy hq=> ?_⟩
    ·rcases blkS3 hc with ⟨rfl,rfl⟩ | ⟨rfl,rfl⟩ | ⟨rfl,rfl⟩
     ·rw[o5] at hy;cases hy
     ·rcases hf with ⟨_,hf⟩ | ⟨hf,_⟩
      ·exact hne hf.symm
      ·exact absurd (show mpT=fmT from hf) (by decide)
     ·rw[p3] at hy;cases hy
    ·rcases blkS3 hc with ⟨rfl,rfl⟩ | ⟨rfl,rfl⟩ | ⟨rfl,rfl⟩
     ·cases (hq.trans f1).symm.trans f3
     ·rw[o8] at hy;cases hy
     ·rfl
end Go.Proofs.YtdlpffgekmidnabDoor
namespace Go.Proofs.YtdlpffgekmidnabDoor
open Go.Proofs.Tryd
open Go.KRun Go.Wd
set_option maxRecDepth 100000
def bPr (c s:Int):List Value×TypeId:=([.int .u64 c,.int .u64 s],26)
def bPa (k n:Int):List Value×TypeId:=([.int .i64 k,.int .i64 n],39)
def bOb (c:Value):List Value×TypeId:=([c],obTy)
def fA (k n:Int) (p:Nat) (e:Value):List Value:=[.pointer (some ⟨1,0,none⟩),.int .i64 k,.int .i64 n,undef,undef,undef,.pointer (some ⟨p,0,none⟩),e]
def cK (k n:Int):Int:=coI (k % n) n
def sK (k n:Int):Int:=siI (k % n) n
def hEs (L F:List Value):Hp:=⟨5,[bPa 0 0,bPr 0 0,(L,mpT),bOb (.map (some 2)),(F,fmT)]⟩
def hEn (F:List Value):Hp:=⟨4,[bPa 0 0,bPr 0 0,bOb (.map none),(F,fmT)]⟩
def hKs (k n c s:Int) (L F:List Value):Hp:=⟨6,[bPr c s,bPa (k % n) n,bPr c s,(L,mpT),bOb (.map (some 2)),(F,fmT)]⟩
def hUs (k n:Int) (L F:List Value):Hp:=⟨8,[bPr (cK k n) (sK k n),bPa (k % n) n,bPr (cK k n) (sK k n),bPa (k % n) n,bPr (cK k n) (sK k n),(bumpM (paV (k % n) n) (ptV (cK k n) (sK k n)) L,mpT),bOb (.map (some 2)),(F,fmT)]⟩
def hUn (k n:Int) (F:List Value):Hp:=⟨8,[([.int .i64 1,paV (k % n) n,ptV (cK k n) (sK k n)],mpT),bPr (cK k n) (sK k n),bPa (k % n) n,bPr (cK k n) (sK k n),bPa (k % n) n,bPr (cK k n) (sK k n),bOb (.map (some 7)),(F,fmT)]⟩
theorem at_es (k n:Int) (L F:List Value):GoesT (evC (tabH prog extY conTF hcRm) 300 false (cBody f4) ([.pointer (some ⟨1,0,none⟩),.int .i64 k,.int .i64 n]++List.replicate 41 undef,hS0 L F,[cmp true]) ⟨[],[],[]⟩) 8 36 (some none) (fA k n 3 (errF 1)) (hEs L F) [bL n true]:=by and_intros<;>kernel_rfl
theorem at_en (k n:Int) (F:List Value):GoesT (evC (tabH prog extY conTF hcRm) 300 false (cBody f4) ([.pointer (some ⟨1,0,none⟩),.int .i64 k,.int .i64 n]++List.replicate 41 undef,hN0 F,[cmp true]) ⟨[],[],[]⟩) 8 36 (some none) (fA k n 2 (errF 1)) (hEn F) [bL n true]:=by and_intros<;>kernel_rfl
theorem at_ks (k n c s:Int) (L F:List Value):GoesT (evC (tabH prog extY conTF hcRm) 300 false (cBody f4) ([.pointer (some ⟨1,0,none⟩),.int .i64 k,.int .i64 n]++List.replicate 41 undef,hS0 L F,[cmp false,cmp true,val (ptV c s)]) ⟨[],[],[]⟩) 8 36 (some none) (fA k n 3 .nilIface) (hKs k n c s L F) [(isMp L && lookIs prog 39 (paV (k % n) n) L.tail (ptV c s),true),(isMp L && lookIs prog 39 (paV (k % n) n) L.tail (ptV c s),true),bL n false]:=by and_intros<;>kernel_rfl
theorem at_us (k n:Int) (L F:List Value):GoesT (evC (tabH prog extY conTF hcRm) 300 false (cBody f4) ([.pointer (some ⟨1,0,none⟩),.int .i64 k,.int .i64 n]++List.replicate 41 undef,hS0 L F,[cmp false,cmp false]) ⟨[],[],[]⟩) 8 36 (some none) (fA k n 3 .nilIface) (hUs k n L F) [(isMp L && noneT (k % n) n L.tail,true),kL (k % n) n,(isMp L && noneIs prog 39 (paV (k % n) n) L.tail,true),(isMp L && noneIs prog 39 (paV (k % n) n) L.tail,true),bL n false]:=by and_intros<;>kernel_rfl
theorem at_un (k n:Int) (F:List Value):GoesT (evC (tabH prog extY conTF hcRm) 300 false (cBody f4) ([.pointer (some ⟨1,0,none⟩),.int .i64 k,.int .i64 n]++List.replicate 41 undef,hN0 F,[cmp false]) ⟨[],[],[]⟩) 8 36 (some none) (fA k n 2 .nilIface) (hUn k n F) [kL (k % n) n,bL n false]:=by and_intros<;>kernel_rfl
theorem at_body:f4.body=some (cBody f4):=by kernel_rfl
def atV (c s:Int) (e:Value):Value:= .tuple #[ptV c s,e]
theorem res_es (k n:Int) (L F:List Value) (g:Nat→Value):resS prog f4 (fA k n 3 (errF 1)++tl 36 g) (hEs L F)=some (atV 0 0 (errF 1)):=rfl
theorem res_en (k n:Int) (F:List Value) (g:Nat→Value):resS prog f4 (fA k n 2 (errF 1)++tl 36 g) (hEn F)=some (atV 0 0 (errF 1)):=rfl
theorem res_ks (k n c s:Int) (L F:List Value) (g:Nat→Value):resS prog f4 (fA k n 3 .nilIface++tl 36 g) (hKs k n c s L F)=some (atV c s .nilIface):=rfl
theorem res_us (k n:Int) (L F:List Value) (g:Nat→Value):resS prog f4 (fA k n 3 .nilIface++tl 36 g) (hUs k n L F)=some (atV (cK k n) (sK k n) .nilIface):=rfl
theorem res_un (k n:Int) (F:List Value) (g:Nat→Value):resS prog f4 (fA k n 2 .nilIface++tl 36 g) (hUn k n F)=some (atV (cK k n) (sK k n) .nilIface):=rfl
theorem ob_map {m:Mp}{B:Nat}{h:Hp}{w:World}(E:Emb m B h w) {j:Nat}{L:List Value}(h1:h.blk? 1=some (bOb (.map (some j)))) (h2:h.blk? j=some (L,mpT)) (hs:∀ v∈L,lt1 0 v=true):B≤(m 1).1∧objAt B w (m 1).1 L:=by
 obtain⟨o1,o2,o3,o4,o5,o6,o7,o8,o9⟩:=ob_marks;obtain⟨p1,p2,p3,p4⟩:=mp_marks;obtain⟨r,z,_,l1,l2⟩:=E.lies 1 _ h1 (tomb_ro o3);obtain⟨z1,z2⟩:=l2 o3;have A:=(((E.abs j _ h2 p1).2 p2).1.1 rfl);rw[still_mapL hs] at A;refine⟨E.low 1 _ h1 o3,.map (some (m j).1),r,?_,.inr ⟨_,rfl,A.1,A.2⟩⟩;rw[l1,z2,z1];exact congrArg (fun t=>some (Obj.cells _ t (0,0))) o9
theorem ob_none {m:Mp}{B:Nat}{h:Hp}{w:World}(E:Emb m B h w) (h1:h.blk? 1=some (bOb (.map none))):B≤(m 1).1∧objAt B w (m 1).1 [.int .i64 0]:=by
 obtain⟨o1,o2,o3,o4,o5,o6,o7,o8,o9⟩:=ob_marks;obtain⟨r,z,_,l1,l2⟩:=E.lies 1 _ h1 (tomb_ro o3);obtain⟨z1,z2⟩:=l2 o3;refine⟨E.low 1 _ h1 o3,.map none,r,?_,.inl ⟨rfl,[],rfl⟩⟩;rw[l1,z2,z1];exact congrArg (fun t=>some (Obj.cells _ t (0,0))) o9
theorem ob_stay {m:Mp}{B:Nat}{h:Hp}{w:World}(E:Emb m B h w) {F:List Value}(h0:h.blk? 0=some (F,fmT)):frAt w (F.map (mv1 m)):=by
 obtain⟨o1,o2,o3,o4,o5,o6,o7,o8,o9⟩:=ob_marks;exact ((E.abs 0 _ h0 o7).2 o6).1.2.2.1 rfl
theorem ob_shut {m m1:Mp}{B:Nat}{h:Hp}{w w':World}{b:Nat}{L L':List Value}(E:Emb m B h w) (hb:h.blk? b=some (L,obT)) (hfm:(h.l.all fun x=> !(Nat.beq x.2 fmT))=true) {h1:Hp}(E1:Emb m1 B h1 w') (hB:Go.RowKit.Below B w w')
  (hF:frAt w' ((frOf m h w).map (mv1 m1))) (ho:objAt B w' (m b).1 L') (hBb:B≤(m b).1) (hs:∀ v∈L',lt1 0 v=true):Emb m B (h.put b (L',obT)) w':=by
 obtain⟨o1,o2,o3,o4,o5,o6,o7,o8,o9⟩:=ob_marks;obtain⟨f1,f2,f3⟩:=fm_marks;rw[fr_still] at hF;have A:=(E.abs b _ hb o1).2 o2;have blk:=fun c=>Hp.blk_put (h:=h) (b:=b) (x:=(L',obT)) (c:=c) E.len (Hp.blk_lt hb);have ro_ob:ro obT=true:=rfl;have tomb_ob:tomb obT=true:=rfl;have own:∀ {c:Nat}{y:List Value×TypeId},h.blk? c=some y→ro y.2=false→w'.heap[(m c).1]? =w.heap[(m c).1]? :=by
  intro c y hc hy;obtain⟨cs,t,q1,q2⟩:=mem_fr E hc hy;rw[q1];exact hF _ q2 _ _ _ (by unfold frV;simp only[Xg])
 refine⟨by simp [Hp.put,E.len],fun c x hc hx=> ?_,fun c x hc hx=> ?_,fun c x hc hx hr=> ?_,fun c c' x x' hc hc' hx hx' he=> ?_,fun c x hc v hv=> ?_,E1.base,E1.ice,fun c x hc hx=> ?_⟩
 ·rw[blk] at hc;split at hc
  ·cases hc;rw[tomb_ob] at hx;cases hx
  ·refine (E.lies c x hc hx).congr ?_;cases hr:ro x.2
   ·exact own hc hr
   ·exact hB.block _ (E.ros c x hc hx hr)
 ·rw[blk] at hc;split at hc
  ·cases hc;rw[ro_ob] at hx;cases hx
  ·exact E.low c x hc hx
 ·rw[blk] at hc;split at hc
  ·cases hc;rw[tomb_ob] at hx;cases hx
  ·exact E.ros c x hc hx hr
 ·rw[blk] at hc hc';split at hc
  ·cases hc;rw[ro_ob] at hx;cases hx
  ·split at hc'
   ·cases hc';rw[ro_ob] at hx';cases hx'
   ·exact E.inj c c' x x' hc hc' hx hx' he
 ·rw[blk] at hc;split at hc
  ·cases hc;exact lt1_mono (Nat.zero_le _) (hs v hv)
  ·exact E.wf c x hc v hv
 ·rw[blk] at hc;split at hc
  ·rename_i hcb;cases hc;refine⟨fun h'=>absurd (o2.symm.trans h') (by decide),fun _=> ?_⟩;rw[show (L',obT).1.map (mv1 m)=L' from still_mapL hs,hcb];refine⟨⟨fun he=>absurd (show obT=mpT from he) (by decide),fun _=>⟨hBb,ho⟩,fun he=>absurd (show obT=fmT from he) (by decide),fun _=> ?_⟩,fun d y hd hy hf=> ?_,fun d y hd hy hq=> ?_⟩
   ·obtain⟨_,q,q1,_⟩:=ho;exact (Array.getElem?_eq_some_iff.1 q1).1
   ·rw[blk] at hd;split at hd
    ·cases hd;rw[ro_ob] at hy;cases hy
    ·refine A.2.1 d y hd hy ?_;rcases hf with hf | ⟨hf,_⟩
     ·exact .inl hf
     ·exact absurd (show obT=fmT from hf) (by decide)
   ·rw[blk] at hd;split at hd
    ·rename_i hdb;exact hdb
    ·exact A.2.2 d y hd hy hq
  ·rename_i hcb;have C:=E.abs c x hc hx;refine⟨fun hs'=> ?_,fun hs'=> ?_⟩
   ·obtain⟨c1,c2⟩:=C.1 hs';exact⟨c1,c2.congr (hB.block _ c1)⟩
   ·exfalso
    have hn:Nat.beq x.2 fmT=false:=by
     unfold Hp.blk? at hc;split at hc
     ·have:=List.all_eq_true.1 hfm x (List.mem_of_getElem? hc);simpa using this
     ·cases hc
    exact hcb (A.2.2 c x hc hs' (hn.trans f2.symm))
theorem put_same {h:Hp}{b:Nat}{x:List Value×TypeId}(hl:h.l.length=h.n) (hb:h.blk? b=some x):h.put b x=h:=by
 have hlt:=Hp.blk_lt hb;unfold Hp.blk? at hb;rw[if_pos (blt_iff.2 hlt)] at hb;unfold Hp.put;have:h.l.set (h.n-1-b) x=h.l:=by
  refine List.ext_getElem? fun i=> ?_;rw[List.getElem?_set];split
  ·rename_i hi;subst hi;rw[hb,if_pos (by omega)]
  ·rfl
 rw[this]
theorem bump_mp {k n c s:Int}{L:List Value}(h:isMp L=true):isMp (bumpM (paV k n) (ptV c s) L)=true:=by
 unfold isMp at h;split at h
 ·rename_i a r;simp only[Xh,Xi,List.all_eq_true] at h;obtain⟨⟨h1,h2⟩,h3⟩:=h;have h2:=Xj h2;show (decide (0≤a+1) && Nat.beq (r++[paV k n,ptV c s]).length (2*(a+1).toNat) && (r++[paV k n,ptV c s]).all (lt1 0))=true;simp only[Xh,Xi,List.all_eq_true];refine⟨⟨by omega,?_⟩,fun v hv=> ?_⟩
  ·rw[Nat.beq_eq];simp;omega
  ·rcases List.mem_append.1 hv with hv | hv
   ·exact h3 v hv
   ·have:v=paV k n∨v=ptV c s:=by simpa using hv
    rcases this with rfl | rfl<;>rfl
 ·cases h
def gAt:AnsH:=fun vals h s=>
 match vals,s with
 | [.pointer (some ⟨b,0,none⟩),.int .i64 k,.int .i64 n],.inr (.inr (.inr (.inl d)))::s'=>
  match h.blk? b with
  | some x=>
   if (Nat.beq x.2 obT && h.l.all fun x=> !(Nat.beq x.2 fmT))=true then
    match d,s' with
    | true,_=>some (atV 0 0 (errF 1),h,s',[(isMp x.1,true),(decide (badP n),true)])
    | false,.inr (.inr (.inr (.inl true)))::s2=>some (atV (cK k n) (sK k n) .nilIface,h,s2,[(hereT (k % n) n (ptV (cK k n) (sK k n)) x.1.tail,true),(isMp x.1,true),(decide (badP n),false)])
    | false,.inr (.inr (.inr (.inl false)))::s2=>some (atV (cK k n) (sK k n) .nilIface,h.put b (bumpM (paV (k % n) n) (ptV (cK k n) (sK k n)) x.1,obT),s2,[(noneT (k % n) n x.1.tail,true),(isMp x.1,true),(decide (badP n),false)])
    | _,_=>none
   else none
  | none=>none
 | _,_=>none
theorem at_calls {m:Mp}{B:Nat}{h:Hp}{w:World}(E:Emb m B h w) {b:Nat}{L:List Value}(hb:h.blk? b=some (L,obT)) (hfm:(h.l.all fun x=> !(Nat.beq x.2 fmT))=true) (hm:isMp L=true) (k n c s:Int) (e:Value) (he:lt 0 (atV c s e)=true) {L':List Value}(hL':isMp L'=true)
  (hS:∀ F,∃ h1,h1.blk? 1=some (bOb (.map (some 2)))∧h1.blk? 2=some (L',mpT)∧h1.blk? 0=some (F,fmT)∧Runs (tabH prog extY conTF hcRm) (cBody f4) ([.pointer (some ⟨1,0,none⟩),.int .i64 k,.int .i64 n]++List.replicate 41 undef,hS0 L F,[]) fun ex y=>(ex=none∨ex=some none)∧resS prog f4 y.1 y.2.1=some (atV c s e)∧y.2.1=h1)
  (hN:L=[.int .i64 0]→∀ F,∃ h1,((∃ j,h1.blk? 1=some (bOb (.map (some j)))∧h1.blk? j=some (L',mpT))∨(h1.blk? 1=some (bOb (.map none))∧L'=[.int .i64 0]))∧h1.blk? 0=some (F,fmT)∧Runs (tabH prog extY conTF hcRm) (cBody f4) ([.pointer (some ⟨1,0,none⟩),.int .i64 k,.int .i64 n]++List.replicate 41 undef,hN0 F,[]) fun ex y=>(ex=none∨ex=some none)∧resS prog f4 y.1 y.2.1=some (atV c s e)∧y.2.1=h1):
  Calls prog 4 ([.pointer (some ⟨b,0,none⟩),.int .i64 k,.int .i64 n].map (mv m)).toArray w fun ex w'=>∃ m',ex= .returned (mv m' (atV c s e))∧Came m B h w (atV c s e) (h.put b (L',obT)) m' w':=by
 obtain⟨m1,hm1,hE⟩:=ob_open E hb hm;have ev:[.pointer (some ⟨b,0,none⟩),.int .i64 k,.int .i64 n].map (mv m)=[.pointer (some ⟨1,0,none⟩),.int .i64 k,.int .i64 n].map (mv m1):=by
  have e1:mv m (.pointer (some ⟨b,0,none⟩))= .pointer (some ⟨(m b).1,0,none⟩):=rfl;have e2:mv m1 (.pointer (some ⟨1,0,none⟩))= .pointer (some ⟨(m1 1).1,0,none⟩):=rfl;simp only[List.map_cons,List.map_nil,e1,e2,hm1];rfl
 rw[ev];have st:=mp_still hL';have fin:∀ {h0 h1:Hp}{m':Mp}{w':World},1<h0.n→Came m1 B h0 w (atV c s e) h1 m' w'→h1.blk? 0=some (frOf m h w,fmT)→(B≤(m' 1).1∧objAt B w' (m' 1).1 L')→∃ m',Ending.returned (mv m' (atV c s e))= .returned (mv m' (atV c s e))∧Came m B h w (atV c s e) (h.put b (L',obT)) m' w':=by
  intro h0 h1 m' w' hn C b0 ob;have em:(m' 1).1=(m b).1:=by rw[C.agree 1 hn,hm1]
  rw[em] at ob;exact⟨m,rfl,⟨Agree.refl _ _,ob_shut E hb hfm C.emb C.below (ob_stay C.emb b0) ob.2 ob.1 st,C.below,Nat.le_refl _,lt_mono (Nat.zero_le _) he⟩⟩
 rcases hE with E1 | ⟨E1,hL⟩
 ·obtain⟨h1,b1,b2,b0,hr⟩:=hS (frOf m h w);refine (hcalls_all (T:=tabH prog extY conTF hcRm) func4 at_body hr m1 B w E1 (fun v hv=> ?_)).mono fun ex w' he'=> ?_
  ·simp only[List.mem_cons,List.not_mem_nil,or_false] at hv;rcases hv with rfl | rfl | rfl<;>rfl
  ·obtain⟨m',rfl,C⟩:=he';obtain⟨m2,_,q⟩:=fin (by show 1<3;omega) C b0 (ob_map C.emb b1 b2 st);exact⟨m2,by rw[mv_still he,mv_still he],q⟩
 ·obtain⟨h1,b1,b0,hr⟩:=hN hL (frOf m h w);refine (hcalls_all (T:=tabH prog extY conTF hcRm) func4 at_body hr m1 B w E1 (fun v hv=> ?_)).mono fun ex w' he'=> ?_
  ·simp only[List.mem_cons,List.not_mem_nil,or_false] at hv;rcases hv with rfl | rfl | rfl<;>rfl
  ·obtain⟨m',rfl,C⟩:=he';have ob:B≤(m' 1).1∧objAt B w' (m' 1).1 L':=by
    rcases b1 with ⟨j,b1,b2⟩ | ⟨b1,rfl⟩
    ·exact ob_map C.emb b1 b2 st
    ·exact ob_none C.emb b1
   obtain⟨m2,_,q⟩:=fin (by show 1<2;omega) C b0 ob;exact⟨m2,by rw[mv_still he,mv_still he],q⟩
theorem runs_of {k n c s:Int}{h0 h1:Hp}{sc:List Dec}{p:Nat}{e:Value}{lg:Log}(g0:GoesT (evC (tabH prog extY conTF hcRm) 300 false (cBody f4) ([.pointer (some ⟨1,0,none⟩),.int .i64 k,.int .i64 n]++List.replicate 41 undef,h0,sc) ⟨[],[],[]⟩) 8 36 (some none) (fA k n p e) h1 lg) (hl:okLog lg)
  (hr:∀ g,resS prog f4 (fA k n p e++tl 36 g) h1=some (atV c s e)):Runs (tabH prog extY conTF hcRm) (cBody f4) ([.pointer (some ⟨1,0,none⟩),.int .i64 k,.int .i64 n]++List.replicate 41 undef,h0,[]) fun ex y=>(ex=none∨ex=some none)∧resS prog f4 y.1 y.2.1=some (atV c s e)∧y.2.1=h1:=by
 refine (goesT_runs (tabH_ok conTF_ok hcRm_ok) g0 hl).mono fun ex z hz=> ?_;obtain⟨rfl,⟨g,e1⟩,e2⟩:=hz;exact⟨.inr rfl,by rw[e1,e2];exact hr g,e2⟩
theorem gAt_ok:AnsHOk 4 gAt:=by
 intro vals h s v h' s' lg hg hl m B w E hv;unfold gAt at hg;split at hg
 ·rename_i b k n d s1;split at hg
  ·rename_i x hb;split at hg
   ·rename_i hc;simp only[Xh] at hc;obtain⟨hc,hfm⟩:=hc;have hc:=Xj hc;obtain⟨L,e⟩:=x;simp only at hc;subst hc;split at hg
    ·
     cases hg;have hm:=hl _ Xe;have h1:=hl _ (Xd _ Xf);simp only at hm h1;have h1:(bL n true).1=(bL n true).2:=h1;have:=at_calls E hb hfm hm k n 0 0 (errF 1) rfl hm
      (fun F=>⟨hEs L F,rfl,rfl,rfl,runs_of (at_es k n L F) (okP1 h1) (res_es k n L F)⟩)
      (fun hL F=>⟨hEn F,.inr ⟨rfl,hL⟩,rfl,runs_of (at_en k n F) (okP1 h1) (res_en k n F)⟩)
     rw[put_same E.len hb] at this;exact this
    ·
     cases hg;have hk:=hl _ Xe;have hm:=hl _ (Xd _ Xe);have h1:=hl _ (Xd _ (Xd _ Xf));simp only at hk hm h1;have h1:(bL n false).1=(bL n false).2:=h1;have hl2:(isMp L && lookIs prog 39 (paV (k % n) n) L.tail (ptV (cK k n) (sK k n)))=true:=by
      obtain⟨u,u1,u2⟩:=hereT_is hk;rw[hm];unfold lookIs;rw[u1];exact u2
     have:=at_calls E hb hfm hm k n (cK k n) (sK k n) .nilIface rfl hm
      (fun F=>⟨hKs k n (cK k n) (sK k n) L F,rfl,rfl,rfl,runs_of (at_ks k n (cK k n) (sK k n) L F) (okPC hl2 (okPC hl2 (okP1 h1))) (res_ks k n _ _ L F)⟩)
      (fun hL F=>by
       rw[hL] at hk;cases hk)
     rw[put_same E.len hb] at this;exact this
    ·
     cases hg;have hk:=hl _ Xe;have hm:=hl _ (Xd _ Xe);have h1:=hl _ (Xd _ (Xd _ Xf));simp only at hk hm h1;have hb1:=of_decide_eq_false h1;have h1:(bL n false).1=(bL n false).2:=h1;have h2:(kL (k % n) n).1=(kL (k % n) n).2:=Xa (in_k hb1);have h3:(isMp L && noneT (k % n) n L.tail)=true:=by rw[hm,hk];rfl
     have h4:(isMp L && noneIs prog 39 (paV (k % n) n) L.tail)=true:=by
      rw[hm];unfold noneIs;rw[noneT_is hk];rfl
     exact at_calls E hb hfm hm k n (cK k n) (sK k n) .nilIface rfl (bump_mp hm)
      (fun F=>⟨hUs k n L F,rfl,rfl,rfl,runs_of (at_us k n L F) (okPC h3 (okPC h2 (okPC h4 (okPC h4 (okP1 h1))))) (res_us k n L F)⟩)
      (fun hL F=>⟨hUn k n F,.inl ⟨7,rfl,by rw[hL];rfl⟩,rfl,runs_of (at_un k n F) (okPC h2 (okP1 h1)) (res_un k n F)⟩)
    ·cases hg
   ·cases hg
  ·cases hg
 ·cases hg
theorem atz_bad (k n:Int):Fits (reckon (tabH prog extY conTF hcN) 300 4 [.pointer none,.int .i64 k,.int .i64 n] [cmp true]) (atV 0 0 (errF 1)) [bL n true]:=by and_intros<;>kernel_rfl
theorem atz_in (k n:Int):Fits (reckon (tabH prog extY conTF hcN) 300 4 [.pointer none,.int .i64 k,.int .i64 n] [cmp false]) (atV 0 0 (errF 1)) [bL n false]:=by and_intros<;>kernel_rfl
def gAtZ:Ans:=fun vals s=>match vals with | [.pointer none,.int .i64 _,.int .i64 _]=>some (atV 0 0 (errF 1),s,[]) | _=>none
theorem gAtZ_ok:AnsOk 4 gAtZ:=by
 intro vals s v s' lg h hl w;unfold gAtZ at h;split at h
 ·rename_i k n;cases h;have T:=tabH_ok conTF_ok hcN_ok;by_cases c:badP n
  ·exact fits_calls T (atz_bad k n) (okP1 (Xa c)) (by rfl) (by rfl) w
  ·exact fits_calls T (atz_in k n) (okP1 (Xb c)) (by rfl) (by rfl) w
 ·cases h
theorem lenz_fits:Fits (reckon (tabH prog extY conN hcN) 300 7 [.pointer none] []) (.int .i64 0) []:=by and_intros<;>kernel_rfl
def gLenZ:Ans:=fun vals s=>match vals with | [.pointer none]=>some (.int .i64 0,s,[]) | _=>none
theorem gLenZ_ok:AnsOk 7 gLenZ:=by
 intro vals s v s' lg h hl w;unfold gLenZ at h;split at h
 ·cases h;exact fits_calls (tabH_ok conN_ok hcN_ok) lenz_fits okNil (by rfl) (by rfl) w
 ·cases h
theorem len_s (q:Int) (R F:List Value):GoesT (evC (tabH prog extY conN hcN) 300 false (cBody f7) ([.pointer (some ⟨1,0,none⟩)]++List.replicate 9 undef,hS0 (.int .i64 q::R) F,[]) ⟨[],[],[]⟩) 3 7 (some none) [.pointer (some ⟨1,0,none⟩),undef,.int .i64 q] (hS0 (.int .i64 q::R) F) []:=by and_intros<;>kernel_rfl
theorem len_n (F:List Value):GoesT (evC (tabH prog extY conN hcN) 300 false (cBody f7) ([.pointer (some ⟨1,0,none⟩)]++List.replicate 9 undef,hN0 F,[]) ⟨[],[],[]⟩) 3 7 (some none) [.pointer (some ⟨1,0,none⟩),undef,.int .i64 0] (hN0 F) []:=by and_intros<;>kernel_rfl
theorem len_body:f7.body=some (cBody f7):=by kernel_rfl
theorem len_res (a v:Value) (h:Hp) (g:Nat→Value):resS prog f7 ([a,undef,v]++tl 7 g) h=some v:=rfl
def gLenR:AnsH:=fun vals h s=>
 match vals with
 | [.pointer (some ⟨b,0,none⟩)]=>
  match h.blk? b with
  | some (.int .i64 q::R,e)=>if (Nat.beq e obT && h.l.all fun x=> !(Nat.beq x.2 fmT))=true then some (.int .i64 q,h,s,[(isMp (.int .i64 q::R),true)]) else none
  | _=>none
 | _=>none
theorem gLenR_ok:AnsHOk 7 gLenR:=by
 intro vals h s v h' s' lg hg hl m B w E hv;unfold gLenR at hg;split at hg
 ·rename_i b;split at hg
  ·rename_i q R e hb;split at hg
   ·rename_i hc;simp only[Xh] at hc;obtain⟨hc,hfm⟩:=hc;obtain rfl:=Xj hc;cases hg;have hm:=hl _ Xf;simp only at hm;have st:=mp_still hm;have TT:=tabH_ok conN_ok hcN_ok;obtain⟨m1,hm1,hE⟩:=ob_open E hb hm;have ev:[.pointer (some ⟨b,0,none⟩)].map (mv m)=[.pointer (some ⟨1,0,none⟩)].map (mv m1):=by
     have e1:mv m (.pointer (some ⟨b,0,none⟩))= .pointer (some ⟨(m b).1,0,none⟩):=rfl;have e2:mv m1 (.pointer (some ⟨1,0,none⟩))= .pointer (some ⟨(m1 1).1,0,none⟩):=rfl;simp only[List.map_cons,List.map_nil,e1,e2,hm1]
    rw[ev];have fin:∀ {h0:Hp}{m':Mp}{w':World},1<h0.n→Came m1 B h0 w (.int .i64 q) h0 m' w'→h0.blk? 0=some (frOf m h w,fmT)→(B≤(m' 1).1∧objAt B w' (m' 1).1 (.int .i64 q::R))→∃ m2,Ending.returned (mv m' (.int .i64 q))= .returned (mv m2 (.int .i64 q))∧Came m B h w (.int .i64 q) h m2 w':=by
     intro h0 m' w' hn C b0 ob;have em:(m' 1).1=(m b).1:=by rw[C.agree 1 hn,hm1]
     rw[em] at ob;have E2:=ob_shut E hb hfm C.emb C.below (ob_stay C.emb b0) ob.2 ob.1 st;rw[put_same E.len hb] at E2;exact⟨m,rfl,⟨Agree.refl _ _,E2,C.below,Nat.le_refl _,rfl⟩⟩
    rcases hE with E1 | ⟨E1,hL⟩
    ·refine (hcalls_all (T:=tabH prog extY conN hcN) func7 len_body (v:= .int .i64 q) (h':=hS0 (.int .i64 q::R) (frOf m h w)) ((goesT_runs TT (len_s q R (frOf m h w)) okNil).mono fun ex z hz=> ?_) m1 B w E1 (fun v hv=>by rw[List.mem_singleton.1 hv];rfl)).mono fun ex w' he'=> ?_
     ·obtain⟨rfl,⟨g,e1⟩,e2⟩:=hz;exact⟨.inr rfl,by rw[e1];exact len_res _ _ _ g,e2⟩
     ·obtain⟨m',rfl,C⟩:=he';exact fin (by show 1<3;omega) C rfl (ob_map C.emb (j:=2) rfl rfl st)
    ·injection hL with hq hR
     injection hq with _ hq
     subst hq hR;refine (hcalls_all (T:=tabH prog extY conN hcN) func7 len_body (v:= .int .i64 0) (h':=hN0 (frOf m h w)) ((goesT_runs TT (len_n (frOf m h w)) okNil).mono fun ex z hz=> ?_) m1 B w E1 (fun v hv=>by rw[List.mem_singleton.1 hv];rfl)).mono fun ex w' he'=> ?_
     ·obtain⟨rfl,⟨g,e1⟩,e2⟩:=hz;exact⟨.inr rfl,by rw[e1];exact len_res _ _ _ g,e2⟩
     ·obtain⟨m',rfl,C⟩:=he';exact fin (by show 1<2;omega) C rfl (ob_none C.emb rfl)
   ·cases hg
  ·cases hg
 ·cases hg
theorem new_body:f5.body=some (cBody f5):=by kernel_rfl
theorem new_goes:GoesT (evC (tabH prog extY conN hcN) 300 false (cBody f5) ([]++List.replicate 3 undef,⟨0,[]⟩,[]) ⟨[],[],[]⟩) 1 2 (some none) [.pointer (some ⟨0,0,none⟩)] ⟨1,[bOb (.map none)]⟩ []:=by and_intros<;>kernel_rfl
theorem new_res (v:Value) (h:Hp) (g:Nat→Value):resS prog f5 ([v]++tl 2 g) h=some v:=rfl
theorem Emb.pushO {m:Mp}{B:Nat}{h:Hp}{w:World}(E:Emb m B h w) (hn:(h.l.all fun x=> !(spK x.2))=true) {g:Nat×Nat}(hB:B≤g.1) (ho:objAt B w g.1 [.int .i64 0]) (hf:∀ c y,h.blk? c=some y→ro y.2=false→(m c).1≠g.1):Emb (upd m h.n g) B (h.push [.int .i64 0] obT) w:=by
 obtain⟨o1,o2,o3,o4,o5,o6,o7,o8,o9⟩:=ob_marks;have ro_ob:ro obT=true:=rfl;have tomb_ob:tomb obT=true:=rfl;have blk:=fun b=>Hp.blk_push (h:=h) (cs:=[.int .i64 0]) (e:=obT) (b:=b) E.len;have ag:=upd_agree m h.n g;have non:∀ b x,h.blk? b=some x→spK x.2=false:=fun b x hb=>by
  unfold Hp.blk? at hb;split at hb
  ·simpa using List.all_eq_true.1 hn x (List.mem_of_getElem? hb)
  ·cases hb
 refine⟨by simp [Hp.push,E.len],fun b x hb hx=> ?_,fun b x hb hx=> ?_,fun b x hb hx hr=> ?_,fun b b' x x' hb hb' hx hx' he=> ?_,fun b x hb v hv=> ?_,E.base,E.ice,fun b x hb hx=> ?_⟩
 ·rw[blk] at hb;split at hb
  ·cases hb;rw[tomb_ob] at hx;cases hx
  ·rw[ag b (Hp.blk_lt hb),map_agree ag (E.wf b x hb)];exact E.lies b x hb hx
 ·rw[blk] at hb;split at hb
  ·cases hb;rw[ro_ob] at hx;cases hx
  ·rw[ag b (Hp.blk_lt hb)];exact E.low b x hb hx
 ·rw[blk] at hb;split at hb
  ·cases hb;rw[tomb_ob] at hx;cases hx
  ·rw[ag b (Hp.blk_lt hb)];exact E.ros b x hb hx hr
 ·rw[blk] at hb hb';split at hb
  ·cases hb;rw[ro_ob] at hx;cases hx
  ·split at hb'
   ·cases hb';rw[ro_ob] at hx';cases hx'
   ·rw[ag b (Hp.blk_lt hb),ag b' (Hp.blk_lt hb')] at he;exact E.inj b b' x x' hb hb' hx hx' he
 ·rw[blk] at hb;split at hb
  ·cases hb;rw[List.mem_singleton.1 hv];rfl
  ·exact lt1_mono (Nat.le_succ _) (E.wf b x hb v hv)
 ·rw[blk] at hb;split at hb
  ·rename_i hbn;cases hb;refine⟨fun hs=>absurd (o2.symm.trans hs) (by decide),fun _=> ?_⟩;rw[hbn,show upd m h.n g h.n=g by simp [upd]];refine⟨⟨fun he=>absurd (show obT=mpT from he) (by decide),fun _=>⟨hB,ho⟩,fun he=>absurd (show obT=fmT from he) (by decide),fun _=> ?_⟩,fun c y hc hy hf'=> ?_,fun c y hc hy _=> ?_⟩
   ·obtain⟨_,q,q1,_⟩:=ho;exact (Array.getElem?_eq_some_iff.1 q1).1
   ·rw[blk] at hc;split at hc
    ·cases hc;rw[ro_ob] at hy;cases hy
    ·rw[ag c (Hp.blk_lt hc)] at hf';rcases hf' with ⟨_,hf'⟩ | ⟨hf',_⟩
     ·exact hf c y hc hy hf'
     ·exact absurd (show obT=fmT from hf') (by decide)
   ·rw[blk] at hc;split at hc
    ·rename_i hcn;rw[hcn]
    ·rw[non c y hc] at hy;cases hy
  ·refine .of (non b x hb) ?_;rw[map_agree ag (E.wf b x hb)];exact (E.abs b x hb hx).1 (non b x hb)
def gNewR:AnsH:=fun vals h s=>
 match vals with
 | []=>if (h.l.all fun x=> !(spK x.2))=true then some (.pointer (some ⟨h.n,0,none⟩),h.push [.int .i64 0] obT,s,[]) else none
 | _=>none
theorem gNewR_ok:AnsHOk 5 gNewR:=by
 intro vals h s v h' s' lg hg hl m B w E hv;unfold gNewR at hg;split at hg
 ·split at hg
  ·rename_i hn;cases hg;have TT:=tabH_ok conN_ok hcN_ok;refine (hcalls_all (T:=tabH prog extY conN hcN) func5 new_body (vals:=[]) (v:= .pointer (some ⟨0,0,none⟩)) (h:=⟨0,[]⟩) (h':=⟨1,[bOb (.map none)]⟩) ((goesT_runs TT new_goes okNil).mono fun ex z hz=> ?_) (fun b=>(b,0)) w.heap.size w (Emb.none w) (fun v hv=>by cases hv)).mono fun ex w' he'=> ?_
   ·obtain⟨rfl,⟨g,e1⟩,e2⟩:=hz;exact⟨.inr rfl,by rw[e1];exact new_res _ _ g,e2⟩
   ·obtain⟨m',rfl,C⟩:=he';have td:Tidy w w':=⟨C.below,fun k h1 h2=>C.emb.ice k h1 h2⟩;obtain⟨E',hb'⟩:=clean_emb E td;have o3:ro obTy=false:=rfl;obtain⟨r,z,_,l1,l2⟩:=C.emb.lies 0 (bOb (.map none)) rfl (tomb_ro o3);obtain⟨z1,z2⟩:=l2 o3;have hlow:w.heap.size≤(m' 0).1:=C.emb.low 0 (bOb (.map none)) rfl o3;have ho:objAt B w' (m' 0).1 [.int .i64 0]:=by
     refine⟨.map none,r,?_,.inl ⟨rfl,[],rfl⟩⟩;rw[l1,z2,z1];rfl
    have E2:=Go.Proofs.YtdlpffgekmidnabDoor.Emb.pushO E' hn (g:=m' 0) (Nat.le_trans E.base hlow) ho (fun c y hc hy heq=>by
     have:=E.here hc (tomb_ro hy);omega)
    refine⟨upd m h.n (m' 0),?_,⟨upd_agree _ _ _,E2,hb',Nat.le_succ _,blt_iff.2 (Nat.lt_succ_self _)⟩⟩;simp only[mv,mv2,mv1,mvA,upd,if_pos]
  ·cases hg
 ·cases hg
end Go.Proofs.YtdlpffgekmidnabDoor
namespace Go.KRun
open Go.ChangeShapes Go.WideShapes Go.ChangeAt Go.RowKit Go.Joins
theorem tidy_frozen {w w':World}(h:Tidy w w') (a:Addr):w'.frozen? a=w.frozen? a:=by
 unfold World.frozen?;by_cases h1:a.block<w.heap.size
 ·rw[h.1.block _ h1]
 ·rw[Array.getElem?_eq_none (by omega:w.heap.size≤a.block)];by_cases h2:a.block<w'.heap.size
  ·have h3:=h.2 a.block (by omega) h2;unfold iced at h3;split
   ·rename_i c e lo hi hc;have:=h3 _ _ _ hc;cases this;simp
   ·rfl
  ·rw[Array.getElem?_eq_none (by omega:w'.heap.size≤a.block)]
theorem rowAt_le {p:Program}{fits:TypeId→Bool}:∀ (d:Nat) (e:TypeId) (count off n:Nat),rowAt p fits d e count off n=true→off≤count*p.cellsOf e
 | 0,_,_,_,_,h=>by simp [rowAt] at h
 | d+1,e,count,off,n,h=>by
  unfold rowAt at h;simp only at h;split at h
  ·cases h
  ·rename_i hs;have hdm:=Nat.div_add_mod off (p.cellsOf e);have hml:=Nat.mod_lt off (show 0<p.cellsOf e by omega);simp only[Bool.or_eq_true,Xh,Xi,beq_iff_eq] at h;rcases h with h | h
   ·obtain⟨⟨h1,h2⟩,_⟩:=h;have h3:off/p.cellsOf e≤count:=by omega
    have:=Nat.mul_le_mul_left (p.cellsOf e) h3;rw[Nat.mul_comm count];omega
   ·have h3:off/p.cellsOf e+1≤count:=h.1;have:=Nat.mul_le_mul_left (p.cellsOf e) h3;rw[Nat.mul_succ] at this;rw[Nat.mul_comm count];omega
theorem liesAt_le {p:Program}:∀ (d:Nat) (e:TypeId) (count off:Nat) (u:TypeId) (n:Nat),liesAt p d e count off u n=true→off≤count*p.cellsOf e
 | 0,_,_,_,_,_,h=>by simp [liesAt] at h
 | d+1,e,count,off,u,n,h=>by
  unfold liesAt at h;simp only[Bool.or_eq_true] at h;rcases h with h | h
  ·exact rowAt_le _ _ _ _ _ h
  ·split at h
   ·exact liesAt_le d _ _ _ _ _ h
   ·cases h
section
variable {H : Type} {enc : TypeId × Value → H} {P : Program} {w : World}
structure Lain (w:World) (b off:Nat) (cs:Array Value) (zs:List Int):Prop where
 heap:∃ ty z,w.heap[b]? =some (.cells cs ty z)
 room:off+zs.length≤cs.size
 cell:∀ i,i<zs.length→cs[off+i]? =some (.int .u32 (zs.getD i 0))
 wf:∀ n∈zs,(Lit.int .u32 n).wf=true
end
end Go.KRun
namespace Go.KRun
open Go.ChangeShapes Go.WideShapes Go.ChangeAt Go.RowKit Go.Joins Go.Deep
section
variable {H : Type} {enc : TypeId × Value → H} {P : Program} {w : World}
structure LainK (w:World) (kd:IntKind) (b off:Nat) (cs:Array Value) (zs:List Int):Prop where
 heap:∃ ty z,w.heap[b]? =some (.cells cs ty z)
 room:off+zs.length≤cs.size
 cell:∀ i,i<zs.length→cs[off+i]? =some (.int kd (zs.getD i 0))
 wf:∀ n∈zs,(Lit.int kd n).wf=true
theorem two_ints {base:Nat}{sp:Nat→Bool}{held:Bool}{fuel:Nat}{e:TypeId}{f0 f1:Field}{kd:IntKind}{cs:List Value}{x:DataW H×List MemPlace}(hs:P.underlying e=some (.struct #[f0,f1])) (hone:oneCellFields P #[f0,f1]=true)
  (h0:P.underlying f0.type=some (.int kd)) (h1:P.underlying f1.type=some (.int kd)) (hl:cs.length=2) (h:DataW.trod enc P w base sp held fuel e cs=some x):
  ∃ a b,cs=[.int kd a,.int kd b]∧(Lit.int kd a).wf=true∧(Lit.int kd b).wf=true∧x.2=[]:=by
 obtain⟨c0,c1,rfl⟩:∃ c0 c1,cs=[c0,c1]:=by
  match cs,hl with
  | [c0,c1],_=>exact⟨c0,c1,rfl⟩
 obtain⟨y0,y1,n,hx,_,t0,t1⟩:=trod_struct2 hs h;obtain⟨o0,k0⟩:=hone_of hone 0 f0 rfl;obtain⟨o1,k1⟩:=hone_of hone 1 f1 rfl;have t0:DataW.trod enc P w base sp held n f0.type [c0]=some y0:=by simpa [o0,k0] using t0
 have t1:DataW.trod enc P w base sp held n f1.type [c1]=some y1:=by simpa [o1,k1] using t1
 obtain⟨a,e0,r0,w0⟩:=DataW.trod_int h0 t0;obtain⟨b,e1,r1,w1⟩:=DataW.trod_int h1 t1;refine⟨a,b,?_,w0,w1,?_⟩
 ·simp only[List.cons.injEq,and_true] at e0 e1;rw[e0,e1]
 ·rw[hx,r0,r1];rfl
theorem open_pairs {base:Nat}{r:Go.Reach}{t e:TypeId}{f0 f1:Field}{kd:IntKind}{v:Value}{d:DataW H}{p:List MemPlace}(ht:P.underlying t=some (.slice e)) (hs:P.underlying e=some (.struct #[f0,f1])) (hone:oneCellFields P #[f0,f1]=true) (hC:P.cellsOf e=2)
  (h0:P.underlying f0.type=some (.int kd)) (h1:P.underlying f1.type=some (.int kd)) (hval:Value.okWide P w r base t v) (h:DataW.Trod enc P w 0 (fun _=>true) true t v d p):
  (v= .slice none 0 0∧d= .nil∧p=[])∨∃ b off len cap cs zs x y,v= .slice (some ⟨b,off,none⟩) len cap∧len≤cap∧zs.length=2*cap∧cap≤maxLen∧LainK w kd b off cs zs∧d= .slice x y∧x.length+y.length=cap∧∀ q∈p,q.block=b:=by
 obtain⟨a0,len0,cap0,rfl⟩:=okWide_slice ht hval;obtain⟨fuel,hf⟩:=h;have hf':DataW.trod enc P w 0 (fun _=>true) true fuel t [.slice a0 len0 cap0]=some (d,p):=by simpa [Value.cells] using hf
 rcases DataW.trod_slice ht hf' with ⟨g1,g2⟩ | ⟨a,len,cap,elems,rest,n,_,g1,g2,hb,hl,hm,hlen,hel,hsp,_⟩
 ·simp only[List.cons.injEq,and_true,Value.slice.injEq] at g1;obtain⟨rfl,rfl,rfl⟩:=g1;simp only[Prod.mk.injEq] at g2;exact .inl ⟨rfl,g2.1,g2.2⟩
 ·simp only[List.cons.injEq,and_true,Value.slice.injEq] at g1;obtain⟨rfl,rfl,rfl⟩:=g1;simp only[Prod.mk.injEq] at g2;obtain⟨hrl,hr⟩:=hsp rfl;have hv:w.has P r base a e cap0:=by
   simp only[Value.okWide,ht,Cell.okWide,Cell.ok] at hval;exact hval.2.2
  obtain⟨_,hspot,row,cells,hsh,hli⟩:=hv;obtain⟨b,off,spot⟩:=a;simp only at hspot hsh hli;subst hspot;obtain⟨cs,z,hh,hcs⟩:∃ cs z,w.heap[b]? =some (.cells cs row z)∧cs.size=cells:=by
   unfold World.shape? at hsh;split at hsh
   ·rename_i c el z hh;simp only[Option.some.injEq,Prod.mk.injEq] at hsh;exact⟨c,z,by rw[hh,hsh.1],hsh.2⟩
   ·cases hsh
  have each:∀ i,i<cap0→∃ u v,cs[off+2*i]? =some (.int kd u)∧cs[off+(2*i+1)]? =some (.int kd v)∧(Lit.int kd u).wf=true∧(Lit.int kd v).wf=true:=by
   intro i hi;have hb':∃ y,(w.cells? 0 ((⟨b,off,none⟩:Addr).add (i*P.cellsOf e)) (P.cellsOf e)).bind (DataW.trod enc P w 0 (fun _=>true) true n e)=some y:=by
    by_cases c:i<len0
    ·exact⟨_,(hel i c).trans (List.getElem?_eq_getElem (by omega))⟩
    ·have:=hr (i-len0) (by omega);rw[show len0+(i-len0)=i by omega] at this;exact⟨_,this.trans (List.getElem?_eq_getElem (by omega))⟩
   obtain⟨y,hy⟩:=hb';rw[hC,Option.bind_eq_some_iff] at hy;obtain⟨cs',hcs',hy⟩:=hy;obtain⟨_,q2,q3⟩:=World.cells?_some hcs';obtain⟨u,v,rfl,w0,w1,_⟩:=two_ints hs hone h0 h1 q2 hy;have p0:=q3 0 (by omega);have p1:=q3 1 (by omega);rw[add_plain,add_plain] at p0 p1;unfold World.cell? at p0 p1;simp only[hh] at p0 p1;refine⟨u,v,?_,?_,w0,w1⟩
   ·rw[show off+2*i=off+i*2+0 by omega];simpa using p0
   ·rw[show off+(2*i+1)=off+i*2+1 by omega];simpa using p1
  have places:∀ y∈elems++rest,y.2=[]:=by
   intro y hy;obtain⟨i,hi⟩:=List.getElem?_of_mem hy;have hb':(w.cells? 0 ((⟨b,off,none⟩:Addr).add (i*P.cellsOf e)) (P.cellsOf e)).bind (DataW.trod enc P w 0 (fun _=>true) true n e)=some y:=by
    by_cases c:i<len0
    ·rw[hel i c,← hi,List.getElem?_append_left (by omega)]
    ·have hlt:=(List.getElem?_eq_some_iff.1 hi).1;rw[List.length_append] at hlt;have:=hr (i-len0) (by omega);rw[show len0+(i-len0)=i by omega] at this;rw[this,← hi,List.getElem?_append_right (by omega),hlen]
   rw[hC,Option.bind_eq_some_iff] at hb';obtain⟨cs',hcs',hy⟩:=hb';obtain⟨_,q2,_⟩:=World.cells?_some hcs';obtain⟨_,_,_,_,_,q⟩:=two_ints hs hone h0 h1 q2 hy;exact q
  have flat:∀ i,i<2*cap0→∃ u,cs[off+i]? =some (.int kd u)∧(Lit.int kd u).wf=true:=by
   intro i hi;obtain⟨u,v,e0,e1,w0,w1⟩:=each (i/2) (by omega);rcases Nat.mod_two_eq_zero_or_one i with c | c
   ·exact⟨u,by rw[show off+i=off+2*(i/2) by omega];exact e0,w0⟩
   ·exact⟨v,by rw[show off+i=off+(2*(i/2)+1) by omega];exact e1,w1⟩
  have hoff:off≤cs.size:=by
   have:=liesAt_le _ _ _ _ _ _ hli;have h2:=Nat.div_mul_le_self cells (P.cellsOf row);omega
  let zs:List Int:=(List.range (2*cap0)).map fun i=>match cs[off+i]? with | some (.int _ u)=>u | _=>0
  have hz:zs.length=2*cap0:=by simp [zs]
  have hget:∀ i,i<2*cap0→cs[off+i]? =some (.int kd (zs.getD i 0))∧(Lit.int kd (zs.getD i 0)).wf=true:=by
   intro i hi;obtain⟨u,e1,w1⟩:=flat i hi;have:zs.getD i 0=u:=by
    simp only[zs,List.getD,List.getElem?_map,List.getElem?_range hi,Option.map_some,Option.getD_some,e1]
   rw[this];exact⟨e1,w1⟩
  have room:off+zs.length≤cs.size:=by
   rw[hz];rcases Nat.eq_zero_or_pos cap0 with c | c
   ·omega
   ·have:=(hget (2*cap0-1) (by omega)).1;have:=(Array.getElem?_eq_some_iff.1 this).1;omega
  refine .inr ⟨b,off,len0,cap0,cs,zs,_,_,rfl,hl,hz,hm,⟨⟨_,_,hh⟩,room,fun i hi=>(hget i (hz ▸ hi)).1,fun m hmem=> ?_⟩,g2.1,by simp;omega,fun q hq=> ?_⟩
  rotate_left
  ·rw[g2.2] at hq;rcases List.mem_append.1 hq with hq | hq
   ·obtain⟨_,_,e⟩:=MemPlace.mem_row.1 hq;rw[e];simp only[MemPlace.block]
   ·obtain⟨y,hy,hq⟩:=List.mem_flatMap.1 hq;rw[places y hy] at hq;cases hq
  obtain⟨i,hi,rfl⟩:=List.mem_iff_getElem.1 hmem;have:=(hget i (hz ▸ hi)).2;simpa [List.getD,List.getElem?_eq_getElem hi] using this
end
def rowK (kd:IntKind) (cs:Array Value) (off:Nat) (zs:List Int):List Value:=(cs.toList.take off).map (Value.iface dead)++zs.map (Value.int kd)
theorem rowK_still (kd:IntKind) (cs:Array Value) (off:Nat) (zs:List Int):∀ v∈rowK kd cs off zs,still v=true:=fun v hv=>by
 unfold rowK at hv;rcases List.mem_append.1 hv with h | h
 ·obtain⟨x,_,rfl⟩:=List.mem_map.1 h;rfl
 ·obtain⟨x,_,rfl⟩:=List.mem_map.1 h;rfl
theorem rowK_lie {w:World}{kd:IntKind}{b off:Nat}{cs:Array Value}{zs:List Int}(h:LainK w kd b off cs zs) {e:TypeId}(he:ro e=true) (m:Mp):lie w (b,cs.size) ((rowK kd cs off zs).map (mv1 m)) e:=by
 obtain⟨ty,z,hh⟩:=h.heap;have hroom:=h.room;have e1:(rowK kd cs off zs).map (mv1 m)=cs.toList.take (off+zs.length):=by
  apply List.ext_getElem?;intro i;unfold rowK;rw[List.map_append,List.map_map,List.map_map,List.getElem?_take];have hlen:((cs.toList.take off).map (mv1 m ∘ Value.iface dead)).length=off:=by simp;omega
  by_cases hi:i<off
  ·rw[List.getElem?_append_left (by omega),if_pos (by omega),List.getElem?_map,List.getElem?_take,if_pos hi];cases hx:cs.toList[i]? with
   | none=>rfl
   | some x=>simp [mv1]
  ·rw[List.getElem?_append_right (by omega),hlen];by_cases hj:i<off+zs.length
   ·rw[if_pos hj,List.getElem?_map];have hc:=h.cell (i-off) (by omega);rw[show off+(i-off)=i by omega] at hc;have hz:zs[i-off]? =some (zs.getD (i-off) 0):=by
     rw[List.getElem?_eq_getElem (by omega)];simp [List.getD,List.getElem?_eq_getElem (show i-off<zs.length by omega)]
    rw[hz];simp only[Option.map_some,Function.comp,mv1];rw[← hc];simp
   ·rw[if_neg hj,List.getElem?_eq_none (by simp;omega)]
 refine⟨cs.toList.drop (off+zs.length),(ty,z),?_,?_,fun h0=>by rw[he] at h0;cases h0⟩
 ·rw[e1];simp;omega
 ·rw[e1,List.take_append_drop];exact hh
theorem rowK_get {w:World}{kd:IntKind}{b off:Nat}{cs:Array Value}{zs:List Int}(h:LainK w kd b off cs zs) {i:Nat}(hi:i<zs.length):(rowK kd cs off zs)[off+i]? =some (.int kd (zs.getD i 0)):=by
 have:=h.room;have hlen:((cs.toList.take off).map (Value.iface dead)).length=off:=by simp;omega
 unfold rowK;rw[List.getElem?_append_right (by omega),hlen,Nat.add_sub_cancel_left,List.getElem?_map,List.getElem?_eq_getElem hi];simp [List.getD,List.getElem?_eq_getElem hi]
end Go.KRun
namespace Go.Proofs.YtdlpffgekmidnabDoor
open Go.Proofs.Tryd
open Go.RowKit Go.Extern.Stop Go.Stop Go.Extern
theorem as_valueOfP (t:Addr) (w:World):(ReflectliteValue.unpack (.iface 50 (.pointer (some t)))).run prog w
  = .ok (.agg #[.pointer (some ⟨3,50,none⟩),.pointer (some ⟨w.heap.size,0,none⟩),.int .u64 150]) (w.alloc (.cells #[.pointer (some t)] 50)):=by kernel_rfl
theorem as_typeP (a:Addr) (w:World):(ReflectliteValue.methodAny (ReflectliteValue.valueError "reflectlite.Value.Type" 0) (fun t _ _ _=>ReflectliteType.toType t) #[.agg #[.pointer (some ⟨3,50,none⟩),.pointer (some a),.int .u64 150]]).run prog w
  = .ok (.iface 69 (.agg #[.pointer (some ⟨3,50,none⟩)])) w:=by kernel_rfl
theorem as_methodKind (h:Value) (w:World):(Go.method 269 69 (.agg #[h]) "Kind").run prog w= .ok (89,h) w:=by kernel_rfl
theorem as_kindP (w:World):((ReflectliteType.abiMethod fun t=>(fun a:Nat=>Value.int IntKind.u8 (a:Int))<$>Rtype.kind t) #[.pointer (some ⟨3,50,none⟩)]).run prog w= .ok (.int .u8 22) w:=by kernel_rfl
theorem as_kindE (w:World):((ReflectliteType.abiMethod fun t=>(fun a:Nat=>Value.int IntKind.u8 (a:Int))<$>Rtype.kind t) #[.pointer (some ⟨3,42,none⟩)]).run prog w= .ok (.int .u8 2) w:=by kernel_rfl
theorem as_rlm (z:Sem Value) (f:TypeId→Addr→Nat→Nat→Sem Value) (v:Value):
  ReflectliteValue.method z f #[v]=(do match ← ReflectliteValue.parts v with | none=>z | some (t,a,fl)=>f t a fl (fl % 32)):=rfl
theorem as_partsP (a:Addr) (w:World):(ReflectliteValue.parts (.agg #[.pointer (some ⟨3,50,none⟩),.pointer (some a),.int .u64 150])).run prog w= .ok (some (50,a,150)) w:=by kernel_rfl
theorem as_isNilP (a p:Addr) (W:World) (ha:W.cell? a=some (.pointer (some p))):
  (ReflectliteValue.method (ReflectliteValue.valueError "reflectlite.Value.IsNil" 0) ReflectliteValue.isNil #[.agg #[.pointer (some ⟨3,50,none⟩),.pointer (some a),.int .u64 150]]).run prog W= .ok (.bool false) W:=by
 rw[as_rlm];simp only[Sem.run_bind,as_partsP,Result.andThen];simp [ReflectliteValue.isNil,loadVar,isAgg,underlying,underlying50,ha,Result.andThen]
theorem as_methodElem (h:Value) (w:World):(Go.method 269 69 (.agg #[h]) "Elem").run prog w= .ok (99,.agg #[h]) w:=by kernel_rfl
theorem as_methodImplements (h:Value) (w:World):(Go.method 269 69 (.agg #[h]) "Implements").run prog w= .ok (100,.agg #[h]) w:=by kernel_rfl
theorem as_methodAssignableTo (h:Value) (w:World):(Go.method 269 69 (.agg #[h]) "AssignableTo").run prog w= .ok (97,.agg #[h]) w:=by kernel_rfl
theorem as_elemP (w:World):(ReflectliteType.method ReflectliteType.elem #[.agg #[.pointer (some ⟨3,50,none⟩)]]).run prog w= .ok (.iface 69 (.agg #[.pointer (some ⟨3,42,none⟩)])) w:=by kernel_rfl
theorem as_implementsE (w:World):(ReflectliteType.relation "Implements" ReflectliteType.implements_ #[.agg #[.pointer (some ⟨3,42,none⟩)],.iface 69 (.agg #[.pointer (some ⟨3,28,none⟩)])]).run prog w= .ok (.bool true) w:=by kernel_rfl
theorem as_typeOfE (v:Value) (w:World):(ReflectliteType.typeOf #[.iface 42 v]).run prog w= .ok (.iface 69 (.agg #[.pointer (some ⟨3,42,none⟩)])) w:=by kernel_rfl
theorem as_assignableE (w:World):(ReflectliteType.relation "AssignableTo" ReflectliteType.assignableTo #[.agg #[.pointer (some ⟨3,42,none⟩)],.iface 69 (.agg #[.pointer (some ⟨3,42,none⟩)])]).run prog w= .ok (.bool true) w:=by kernel_rfl
theorem as_valueOfE (n:Int) (w:World):(ReflectliteValue.unpack (.iface 42 (.int .i64 n))).run prog w
  = .ok (.agg #[.pointer (some ⟨3,42,none⟩),.pointer (some ⟨w.heap.size,0,none⟩),.int .u64 130]) (w.alloc (.cells #[.int .i64 n] 42)):=by kernel_rfl
theorem as_elemOfP (w:World):(Rtype.elem? 50).run prog w= .ok (some 42) w:=by kernel_rfl
theorem as_mkE (p:Addr) (w:World):(ReflectliteValue.mk 42 p ReflectliteValue.flagAddr).run prog w= .ok (.agg #[.pointer (some ⟨3,42,none⟩),.pointer (some p),.int .u64 386]) w:=by kernel_rfl
theorem as_elemVP (a p:Addr) (W:World) (ha:W.cell? a=some (.pointer (some p))):
  (ReflectliteValue.method (ReflectliteValue.valueError "reflectlite.Value.Elem" 0) ReflectliteValue.elem #[.agg #[.pointer (some ⟨3,50,none⟩),.pointer (some a),.int .u64 150]]).run prog W
   = .ok (.agg #[.pointer (some ⟨3,42,none⟩),.pointer (some p),.int .u64 386]) W:=by
 rw[as_rlm];simp only[Sem.run_bind,as_partsP,Result.andThen];simp [ReflectliteValue.elem,loadVar,isAgg,underlying,underlying50,ha,Result.andThen,as_elemOfP,as_mkE]
theorem as_partsEa (a:Addr) (w:World):(ReflectliteValue.parts (.agg #[.pointer (some ⟨3,42,none⟩),.pointer (some a),.int .u64 386])).run prog w= .ok (some (42,a,386)) w:=by kernel_rfl
theorem as_partsE (a:Addr) (w:World):(ReflectliteValue.parts (.agg #[.pointer (some ⟨3,42,none⟩),.pointer (some a),.int .u64 130])).run prog w= .ok (some (42,a,130)) w:=by kernel_rfl
theorem as_directE (w:World):(Rtype.directlyAssignable 42 42).run prog w= .ok true w:=by kernel_rfl
theorem as_setE (ta b:Addr) (n:Int) (old:Value) (W:World) (hb:W.cell? b=some (.int .i64 n)) (ht:W.cell? ta=some old) (hf:W.frozen? ta=false):
  (ReflectliteValue.set #[.agg #[.pointer (some ⟨3,42,none⟩),.pointer (some ta),.int .u64 386],.agg #[.pointer (some ⟨3,42,none⟩),.pointer (some b),.int .u64 130]]).run prog W
   = .ok (.tuple #[]) (W.setCell ta (.int .i64 n)):=by
 have e:∀ v x:Value,ReflectliteValue.set #[v,x]=(ReflectliteValue.parts v>>=fun p=>ReflectliteValue.parts x>>=fun q=>_):=fun _ _=>rfl;rw[e];simp only[Sem.run_bind,as_partsEa,as_partsE,Result.andThen];simp [ReflectliteValue.flagAddr,loadVar,isAgg,underlying,underlying42,hb,Result.andThen,as_directE,storeVar,Value.cells,storeCells,Addr.add];rw[run_store prog W ta _ _ (by rfl)];simp [ht,hf]
def errT:Value:= .iface 69 (.agg #[.pointer (some ⟨3,28,none⟩)])
def asW (n:Int) (t:Addr) (w:World):World:=((((w.alloc (.cells #[.pointer (some t)] 50)).alloc (.cells #[.pointer (some ⟨3,50,none⟩),.pointer (some ⟨w.heap.size,0,none⟩),.int .u64 150] 58)).alloc (.cells #[.pointer (some ⟨3,50,none⟩),.pointer (some ⟨w.heap.size,0,none⟩),.int .u64 150] 58)).alloc (.cells #[.int .i64 n] 42)).setCell t (.int .i64 n)
set_option maxHeartbeats 4000000 in
theorem as_hit (n:Int) (t:Addr) (old:Value) (w:World) (hg:w.cell? ⟨0,0,none⟩=some (.iface 69 (.agg #[.pointer (some ⟨3,28,none⟩)]))) (ht0:w.cell? t=some old) (hf0:w.frozen? t=false):
  Calls prog 13 #[.iface 42 (.int .i64 n),.iface 50 (.pointer (some t))] w fun ev w'=>ev= .returned (.bool true)∧w'=((((w.alloc (.cells #[.pointer (some t)] 50)).alloc (.cells #[.pointer (some ⟨3,50,none⟩),.pointer (some ⟨w.heap.size,0,none⟩),.int .u64 150] 58)).alloc (.cells #[.pointer (some ⟨3,50,none⟩),.pointer (some ⟨w.heap.size,0,none⟩),.int .u64 150] 58)).alloc (.cells #[.int .i64 n] 42)).setCell t (.int .i64 n):=by
 have h6:= @run_callFunc_extern prog 19 _ (fun args=>ReflectliteValue.unpack (args.getD 0 (.tuple #[]))) func19 (by kernel_rfl) (by kernel_rfl) (by kernel_rfl) (by kernel_rfl);have h7:= @run_callFunc_extern prog 20 _ (ReflectliteValue.methodAny (ReflectliteValue.valueError "reflectlite.Value.Type" 0) (fun t _ _ _=>ReflectliteType.toType t)) func20 (by kernel_rfl) (by kernel_rfl) (by kernel_rfl) (by kernel_rfl);have h8:= @run_callFunc_extern prog 21 _ (ReflectliteValue.method (ReflectliteValue.valueError "reflectlite.Value.IsNil" 0) ReflectliteValue.isNil) func21 (by kernel_rfl) (by kernel_rfl) (by kernel_rfl) (by kernel_rfl);have h27:= @run_callFunc_extern prog 89 _ (ReflectliteType.abiMethod fun t=>do pure (.int .u8 (← Rtype.kind t))) func89 (by kernel_rfl) (by kernel_rfl) (by kernel_rfl) (by kernel_rfl);have h37:= @run_callFunc_extern prog 99 _ (ReflectliteType.method ReflectliteType.elem) func99 (by kernel_rfl) (by kernel_rfl) (by kernel_rfl) (by kernel_rfl);have h38:= @run_callFunc_extern prog 100 _ (ReflectliteType.relation "Implements" ReflectliteType.implements_) func100 (by kernel_rfl) (by kernel_rfl) (by kernel_rfl) (by kernel_rfl);have h10:= @run_callFunc_extern prog 24 _ ReflectliteType.typeOf func24 (by kernel_rfl) (by kernel_rfl) (by kernel_rfl) (by kernel_rfl);have h35:= @run_callFunc_extern prog 97 _ (ReflectliteType.relation "AssignableTo" ReflectliteType.assignableTo) func97 (by kernel_rfl) (by kernel_rfl) (by kernel_rfl) (by kernel_rfl);have h11:= @run_callFunc_extern prog 25 _ (ReflectliteValue.method (ReflectliteValue.valueError "reflectlite.Value.Elem" 0) ReflectliteValue.elem) func25 (by kernel_rfl) (by kernel_rfl) (by kernel_rfl) (by kernel_rfl);have h12:= @run_callFunc_extern prog 26 _ ReflectliteValue.set func26 (by kernel_rfl) (by kernel_rfl) (by kernel_rfl) (by kernel_rfl);have tO:=as_typeOfE;have mA:=as_methodAssignableTo;have aE:=as_assignableE;have vE:=as_valueOfE;have f6:=as_valueOfP;have f7:=as_typeP;have mK:=as_methodKind;have mE:=as_methodElem;have mI:=as_methodImplements;have kP:=as_kindP;have kE:=as_kindE;have eP:=as_elemP;have iE:=as_implementsE;have n8:=as_isNilP ⟨w.heap.size,0,none⟩ t ((w.alloc (.cells #[.pointer (some t)] 50)).alloc (.cells #[.pointer (some ⟨3,50,none⟩),.pointer (some ⟨w.heap.size,0,none⟩),.int .u64 150] 58)) (by simp);have hlt:0<w.heap.size:=by
  rcases Nat.eq_zero_or_pos w.heap.size with h0 | h
  ·simp [World.cell?,h0] at hg
  ·exact h
 have hg2:((w.alloc (.cells #[.pointer (some t)] 50)).alloc (.cells #[.pointer (some ⟨3,50,none⟩),.pointer (some ⟨w.heap.size,0,none⟩),.int .u64 150] 58)).cell? ⟨0,0,none⟩=some (.iface 69 (.agg #[.pointer (some ⟨3,28,none⟩)])):=by
  rw[World.cell?_alloc_lt _ _ ⟨0,0,none⟩ (by simp),World.cell?_alloc_lt _ _ ⟨0,0,none⟩ hlt];exact hg
 have htl:t.block<w.heap.size:=by
  rcases Nat.lt_or_ge t.block w.heap.size with h | h
  ·exact h
  ·simp [World.cell?,Array.getElem?_eq_none h] at ht0
 have el:=as_elemVP ⟨w.heap.size,0,none⟩ t (((w.alloc (.cells #[.pointer (some t)] 50)).alloc (.cells #[.pointer (some ⟨3,50,none⟩),.pointer (some ⟨w.heap.size,0,none⟩),.int .u64 150] 58)).alloc (.cells #[.pointer (some ⟨3,50,none⟩),.pointer (some ⟨w.heap.size,0,none⟩),.int .u64 150] 58)) (by rw[World.cell?_alloc_lt _ _ ⟨w.heap.size,0,none⟩ (by simp;omega)];simp);have st:=as_setE t ⟨w.heap.size+1+1+1,0,none⟩ n old ((((w.alloc (.cells #[.pointer (some t)] 50)).alloc (.cells #[.pointer (some ⟨3,50,none⟩),.pointer (some ⟨w.heap.size,0,none⟩),.int .u64 150] 58)).alloc (.cells #[.pointer (some ⟨3,50,none⟩),.pointer (some ⟨w.heap.size,0,none⟩),.int .u64 150] 58)).alloc (.cells #[.int .i64 n] 42))
  (by rw[World.cell?_alloc_at _ _ _ _ (by simp)];rfl)
  (by rw[World.cell?_alloc_lt _ _ t (by simp;omega),World.cell?_alloc_lt _ _ t (by simp;omega),World.cell?_alloc_lt _ _ t (by simp;omega),World.cell?_alloc_lt _ _ t htl];exact ht0)
  (by rw[World.frozen?_alloc_old _ _ t (by simp;omega),World.frozen?_alloc_old _ _ t (by simp;omega),World.frozen?_alloc_old _ _ t (by simp;omega),World.frozen?_alloc_old _ _ t (Nat.ne_of_lt htl)];exact hf0)
 go_enter func13,ntmps13
 go_wp2
 refine wp_loop_rounds 1 ?_;rw[rounds_succ]
 go_wp2
 go_ret
 exact⟨rfl,rfl⟩
end Go.Proofs.YtdlpffgekmidnabDoor
namespace Go.Proofs.YtdlpffgekmidnabDoor
open Go.Proofs.Tryd
open Go.KRun Go.RowKit
set_option maxRecDepth 100000
def known (w:World):Prop:=w.cell? ⟨0,0,none⟩=some errT
set_option maxHeartbeats 4000000 in
theorem num_calls (n:Int) (w:World) (hg:known w):Calls prog 6 #[.iface 42 (.int .i64 n)] w fun e w'=>e= .returned (.int .i64 n)∧Tidy w w':=by
 have hlt:0<w.heap.size:=by
  rcases Nat.eq_zero_or_pos w.heap.size with h0 | h
  ·unfold known at hg;simp [World.cell?,h0] at hg
  ·exact h
 have hg1:(w.alloc (.cells #[.int .i64 0] 42)).cell? ⟨0,0,none⟩=some errT:=by
  rw[World.cell?_alloc_lt _ _ ⟨0,0,none⟩ hlt];exact hg
 have ht1:(w.alloc (.cells #[.int .i64 0] 42)).cell? ⟨w.heap.size,0,none⟩=some (.int .i64 0):=by simp
 have hf1:(w.alloc (.cells #[.int .i64 0] 42)).frozen? ⟨w.heap.size,0,none⟩=false:=by simp
 have hit:=as_hit n ⟨w.heap.size,0,none⟩ (.int .i64 0) _ hg1 ht1 hf1;have hb:(w.alloc (.cells #[.int .i64 0] 42)).heap[w.heap.size]? =some (.cells #[.int .i64 0] 42 (0,0)):=heap_alloc_at w _;have hcell:(asW n ⟨w.heap.size,0,none⟩ (w.alloc (.cells #[.int .i64 0] 42))).cell? ⟨w.heap.size,0,none⟩=some (.int .i64 n)∧Tidy w (asW n ⟨w.heap.size,0,none⟩ (w.alloc (.cells #[.int .i64 0] 42))):=by
  unfold asW;have t1:=tidy_alloc w #[.int .i64 0] 42;generalize hw1:w.alloc (.cells #[.int .i64 0] 42)=w1 at*;have s1:w.heap.size<w1.heap.size:=by rw[← hw1,size_alloc'];omega
  have t2:=tidy_alloc w1 #[.pointer (some ⟨w.heap.size,0,none⟩)] 50;have q2:=heap_alloc_ne w1 (.cells #[.pointer (some ⟨w.heap.size,0,none⟩)] 50) w.heap.size (by omega);have s2:=size_alloc' w1 (.cells #[.pointer (some ⟨w.heap.size,0,none⟩)] 50);generalize w1.alloc (.cells #[.pointer (some ⟨w.heap.size,0,none⟩)] 50)=w2 at*;have t3:=tidy_alloc w2 #[.pointer (some ⟨3,50,none⟩),.pointer (some ⟨w1.heap.size,0,none⟩),.int .u64 150] 58;have q3:=heap_alloc_ne w2 (.cells #[.pointer (some ⟨3,50,none⟩),.pointer (some ⟨w1.heap.size,0,none⟩),.int .u64 150] 58) w.heap.size (by omega);have s3:=size_alloc' w2 (.cells #[.pointer (some ⟨3,50,none⟩),.pointer (some ⟨w1.heap.size,0,none⟩),.int .u64 150] 58);generalize w2.alloc (.cells #[.pointer (some ⟨3,50,none⟩),.pointer (some ⟨w1.heap.size,0,none⟩),.int .u64 150] 58)=w3 at*;have t4:=tidy_alloc w3 #[.pointer (some ⟨3,50,none⟩),.pointer (some ⟨w1.heap.size,0,none⟩),.int .u64 150] 58;have q4:=heap_alloc_ne w3 (.cells #[.pointer (some ⟨3,50,none⟩),.pointer (some ⟨w1.heap.size,0,none⟩),.int .u64 150] 58) w.heap.size (by omega);have s4:=size_alloc' w3 (.cells #[.pointer (some ⟨3,50,none⟩),.pointer (some ⟨w1.heap.size,0,none⟩),.int .u64 150] 58);generalize w3.alloc (.cells #[.pointer (some ⟨3,50,none⟩),.pointer (some ⟨w1.heap.size,0,none⟩),.int .u64 150] 58)=w4 at*;have t5:=tidy_alloc w4 #[.int .i64 n] 42;have q5:=heap_alloc_ne w4 (.cells #[.int .i64 n] 42) w.heap.size (by omega);generalize w4.alloc (.cells #[.int .i64 n] 42)=w5 at*;have hb5:w5.heap[w.heap.size]? =some (.cells #[.int .i64 0] 42 (0,0)):=by rw[q5,q4,q3,q2];exact hb
  exact⟨cell_of_one (one_setCell hb5),tidy_setCell (tidy_trans t1 (tidy_trans t2 (tidy_trans t3 (tidy_trans t4 t5)))) (Nat.le_refl _) hb5 _⟩
 obtain⟨W',hc1,hc2,hit'⟩:∃ W':World,W'.cell? ⟨w.heap.size,0,none⟩=some (.int .i64 n)∧Tidy w W'∧Calls prog 13 #[.iface 42 (.int .i64 n),.iface 50 (.pointer (some ⟨w.heap.size,0,none⟩))] (w.alloc (.cells #[.int .i64 0] 42)) fun ev w'=>ev= .returned (.bool true)∧w'=W':=⟨_,hcell.1,hcell.2,hit⟩;clear hit hcell hb hf1 ht1 hg1 hlt hg
 go_enter func6,ntmps6
 go_wp2_with (go_at_call 13;refine hit'.mono ?_;rintro e w' ⟨rfl,rfl⟩)
 go_ret
 exact⟨rfl,hc2⟩
def eqA:List Value→Bool
 | [.pointer (some ⟨g,e,none⟩)]=>Nat.beq g 3 && Nat.beq e 28
 | _=>false
def eqE:Value→Bool
 | .iface r (.agg a)=>Nat.beq r 69 && eqA a.toList
 | _=>false
def kOk:List Value→Bool
 | [.iface d v]=>Nat.beq d dead && eqE v
 | _=>false
def kV:List Value:=[.iface dead errT]
def kT:TypeId:=3*dead
theorem eqE_spec {v:Value}(h:eqE v=true):v=errT:=by
 unfold eqE at h;split at h
 ·rename_i r a;simp only[Xh] at h;obtain⟨h1,h2⟩:=h;have h1:=Xj h1;unfold eqA at h2;split at h2
  ·rename_i g e ha;simp only[Xh] at h2;have h3:=Xj h2.1;have h4:=Xj h2.2;have ea:a= #[.pointer (some ⟨g,e,none⟩)]:=by
    apply Array.toList_inj.1;rw[ha]
   rw[ea,h1,h3,h4];rfl
  ·cases h2
 ·cases h
theorem kOk_spec {cs:List Value}(h:kOk cs=true):cs=kV:=by
 unfold kOk at h;split at h
 ·rename_i d v;simp only[Xh] at h;rw[Xj h.1,eqE_spec h.2];rfl
 ·cases h
def gNum:AnsH:=fun vals h s=>
 match vals,h.blk? 0 with
 | [.iface t (.int .i64 n)],some (cs,ty)=>some (.int .i64 n,h,s,[(Nat.beq t 42 && Nat.beq ty kT && kOk cs,true)])
 | _,_=>none
theorem known_of_blk {w:World}{r:List Value}{t:TypeId}{z:Nat×Nat}(h:w.heap[0]? =some (.cells (errT::r).toArray t z)):known w:=by
 unfold known World.cell?;simp [h]
theorem gNum_ok:AnsHOk 6 gNum:=by
 intro vals h s v h' s' lg hg hl m B w E hv;unfold gNum at hg;split at hg
 ·rename_i t n cs ty hb;cases hg;have h1:=hl _ Xf;simp only[Xh] at h1;obtain⟨⟨e1,e2⟩,e3⟩:=h1;have e1:=Xj e1;have e2:=Xj e2;have e3:=kOk_spec e3;subst e1 e2 e3;obtain⟨_,r,t',z,k2,_⟩:=(E.abs 0 _ hb (by kernel_rfl)).1 (by kernel_rfl);have hk:known w:=known_of_blk (r:=r) (t:=t') (z:=z) (by
   have e4:kV.map (mv1 m)=[errT]:=by rfl
   have e5:nbA kT=0:=by kernel_rfl
   rw[e4] at k2;simp only[e5] at k2;exact k2)
  refine (num_calls n w hk).mono fun e w' he=> ?_;obtain⟨E',hb'⟩:=clean_emb E he.2;exact⟨m,he.1,⟨Agree.refl _ _,E',hb',Nat.le_refl _,rfl⟩⟩
 ·cases hg
def hK:Hp:=⟨1,[(kV,kT)]⟩
theorem blkK {b:Nat}{x:List Value×TypeId}(h:hK.blk? b=some x):x=(kV,kT):=by
 have hb0:b=0:=by have:b<1:=Hp.blk_lt h;omega
 subst hb0;exact (Option.some.inj h).symm
theorem startK {w:World}(hk:known w):Emb (fun b=>(b,0)) w.heap.size hK w where
 len:=rfl
 lies:=fun b x hb hx=>by rw[blkK hb,show tomb kT=true from by kernel_rfl] at hx;cases hx
 low:=fun b x hb hx=>by rw[blkK hb,show ro kT=true from by kernel_rfl] at hx;cases hx
 ros:=fun b x hb hx=>by rw[blkK hb,show tomb kT=true from by kernel_rfl] at hx;cases hx
 inj:=fun b b' x x' hb _ hx=>by rw[blkK hb,show ro kT=true from by kernel_rfl] at hx;cases hx
 wf:=fun b x hb v hv=>by
  rw[blkK hb] at hv;rw[List.mem_singleton.1 hv];rfl
 base:=Nat.le_refl _
 ice:=fun k h1 h2=>by omega
 abs:=fun b x hb _=>by
  rw[blkK hb];refine .of (by kernel_rfl) ?_;have e5:nbA kT=0:=by kernel_rfl
  have e6:lnA kT=0:=by kernel_rfl
  have e4:kV.map (mv1 fun b=>(b,0))=[errT]:=by rfl
  unfold absR;simp only[e5,e4,e6];unfold known World.cell? at hk;simp only at hk;cases h0:w.heap[0]? with
  | none=>rw[h0] at hk;simp at hk
  | some o=>
   have hlt:=(Array.getElem?_eq_some_iff.1 h0).1;rw[h0] at hk;cases o with
   | cells c t z=>
    refine⟨hlt,c.toList.drop 1,t,z,?_,.inl trivial⟩;have hc:c.toList[0]? =some errT:=by simpa using hk
    have:[errT]++c.toList.drop 1=c.toList:=by
     cases hl:c.toList with
     | nil=>rw[hl] at hc;simp at hc
     | cons a l=>
      rw[hl] at hc;simp at hc;simp [hc]
    rw[this]
   | _=>simp at hk
end Go.Proofs.YtdlpffgekmidnabDoor
