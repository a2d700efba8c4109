/-
  TuR, RunO, RunX2, TuS, TuT, TuU, TuV, TuW, RunK
-/
import Derived.Test.YtdlpffgekmidnabDoorG09
import Derived.SizedLaws
import Derived.Carry
namespace Go.Proofs.YtdlpffgekmidnabDoor
open Go.Proofs.Tryd
open Go.KRun Go.ChangeShapes Go.WideShapes Go.ChangeAt Go.RowKit
set_option maxRecDepth 100000
abbrev askR:TypeId:=35+dead
theorem askR_ro:ro askR=true:=by kernel_rfl
theorem askR_ab:ab askR=false:=by kernel_rfl
theorem ask_ty:prog.underlying 22=some (.slice 35):=by kernel_rfl
theorem ask_st:prog.underlying 35=some (.struct #[⟨"K",3,0,false, "", "",0⟩,⟨"N",3,1,false, "", "",8⟩]):=by kernel_rfl
theorem ask_ce:prog.cellsOf 35=2:=by kernel_rfl
theorem ask_by:prog.bytesOf 35=16:=by kernel_rfl
theorem int_el:prog.underlying 3=some (.int .i64):=by kernel_rfl
theorem laid_out:laidOutB prog=true:=by kernel_rfl
def ArgP (w:World) (i:Nat) (v:Value) (x:List Value×TypeId) (k:Nat×Nat) (p:Option Addr) (n c o:Nat) (L:List Int):Prop:=
 (v= .slice none 0 0∧x=([],2*dead)∧p=none∧n=0∧c=0∧L=[])∨
 ∃ b cs,v= .slice (some ⟨b,o,none⟩) n c∧LainK w .i64 b o cs L∧L.length=2*c∧n≤c∧c<2305843009213693952∧x=(rowK .i64 cs o L,askR)∧k=(b,cs.size)∧p=some ⟨i,o,none⟩
theorem ArgP.emb {w:World}{i:Nat}{v:Value}{x:List Value×TypeId}{k:Nat×Nat}{p:Option Addr}{n c o:Nat}{L:List Int}(h:ArgP w i v x k p n c o L):
  ro x.2=true∧ab x.2=false∧(∀ u∈x.1,still u=true)∧(tomb x.2=false→(∀ m:Mp,lie w k (x.1.map (mv1 m)) x.2)∧k.1<w.heap.size):=by
 rcases h with ⟨_,rfl,_⟩ | ⟨b,cs,_,hL,_,_,_,rfl,rfl,_⟩
 ·exact⟨by kernel_rfl,by kernel_rfl,(fun u hu=>by cases hu),fun ht=>by rw[show tomb (2*dead)=true from by kernel_rfl] at ht;cases ht⟩
 ·refine⟨askR_ro,askR_ab,rowK_still _ _ _ _,fun _=>⟨fun m=>rowK_lie hL askR_ro m,?_⟩⟩;obtain⟨ty,z,hh⟩:=hL.heap;exact (Array.getElem?_eq_some_iff.1 hh).1
def hP (x:List Value×TypeId):Hp:=⟨2,[x,(kV,kT)]⟩
def mP (k:Nat×Nat):Mp:=fun b=>if b=0 then (0,0) else k
theorem startP {w:World}(hk:known w) {v:Value}{x:List Value×TypeId}{k:Nat×Nat}{p:Option Addr}{n c o:Nat}{L:List Int}(Ha:ArgP w 1 v x k p n c o L):Emb (mP k) w.heap.size (hP x) w:=by
 obtain⟨a1,a2,a3,a4⟩:=Ha.emb;have K:=startK hk;have k0:hK.blk? 0=some (kV,kT):=rfl;have kro:ro kT=true:=by kernel_rfl
 have kto:tomb kT=true:=by kernel_rfl
 have bk:∀ {b:Nat}{y:List Value×TypeId},(hP x).blk? b=some y→(b=0∧y=(kV,kT))∨(b=1∧y=x):=by
  intro b y h;have hb:b<2:=Hp.blk_lt h;have:b=0∨b=1:=by omega
  rcases this with rfl | rfl
  ·exact .inl ⟨rfl,(Option.some.inj h).symm⟩
  ·exact .inr ⟨rfl,(Option.some.inj h).symm⟩
 refine⟨rfl,fun b y hb ht=> ?_,fun b y hb hr=> ?_,fun b y hb ht hr=> ?_,fun b b' y y' hb _ hr=> ?_,fun b y hb v hv=> ?_,Nat.le_refl _,fun k h1 h2=>by omega,fun b y hb hx=> ?_⟩
 ·rcases bk hb with ⟨rfl,rfl⟩ | ⟨rfl,rfl⟩
  ·rw[kto] at ht;cases ht
  ·exact (a4 ht).1 _
 ·rcases bk hb with ⟨rfl,rfl⟩ | ⟨rfl,rfl⟩
  ·rw[kro] at hr;cases hr
  ·rw[a1] at hr;cases hr
 ·rcases bk hb with ⟨rfl,rfl⟩ | ⟨rfl,rfl⟩
  ·rw[kto] at ht;cases ht
  ·exact (a4 ht).2
 ·rcases bk hb with ⟨rfl,rfl⟩ | ⟨rfl,rfl⟩
  ·rw[kro] at hr;cases hr
  ·rw[a1] at hr;cases hr
 ·rcases bk hb with ⟨rfl,rfl⟩ | ⟨rfl,rfl⟩
  ·rw[List.mem_singleton.1 hv];rfl
  ·exact still_lt (by show 0<2;omega) (a3 v hv)
 ·rcases bk hb with ⟨rfl,rfl⟩ | ⟨rfl,rfl⟩
  ·have:=(K.abs 0 _ k0 hx).1 (by kernel_rfl);have e:kV.map (mv1 (mP k))=kV.map (mv1 fun b=>(b,0)):=rfl;refine .of (by kernel_rfl) ?_;rw[e];exact this
  ·rw[a2] at hx;cases hx
theorem ArgP.val {w:World}{i:Nat}{v:Value}{x:List Value×TypeId}{k:Nat×Nat}{p:Option Addr}{n c o:Nat}{L:List Int}(h:ArgP w i v x k p n c o L) {m:Mp}(hm:m i=k):mv m (.slice p n c)=v:=by
 rcases h with ⟨rfl,_,rfl,rfl,rfl,_⟩ | ⟨b,cs,rfl,_,_,h3,h4,_,rfl,rfl⟩
 ·rfl
 ·have hs:smallC c=true:=blt_iff.2 (by unfold dead;omega);simp only[mv,mv2,mv1,mvA,hm,cap_small hs]
theorem ArgP.lt {w:World}{i:Nat}{v:Value}{x:List Value×TypeId}{k:Nat×Nat}{p:Option Addr}{n c o:Nat}{L:List Int}(h:ArgP w i v x k p n c o L) {j:Nat}(hi:i<j):KRun.lt j (.slice p n c)=true:=by
 rcases h with ⟨_,_,rfl,_⟩ | ⟨b,cs,_,_,_,_,_,_,_,rfl⟩
 ·rfl
 ·exact blt_iff.2 hi
theorem ArgP.get {w:World}{i:Nat}{v:Value}{x:List Value×TypeId}{k:Nat×Nat}{p:Option Addr}{n c o:Nat}{L:List Int}(h:ArgP w i v x k p n c o L) {j:Nat}(hj:j<n):
  p=some ⟨i,o,none⟩∧x.2=askR∧x.1[o+j*2]? =some (.int .i64 (L.getD (j*2) 0))∧x.1[o+(j*2+1)]? =some (.int .i64 (L.getD (j*2+1) 0))∧(Lit.int .i64 (L.getD (j*2) 0)).wf=true∧(Lit.int .i64 (L.getD (j*2+1) 0)).wf=true:=by
 rcases h with ⟨_,_,_,rfl,_⟩ | ⟨b,cs,_,hL,h2,h3,h4,rfl,rfl,rfl⟩
 ·omega
 ·have w0:∀ q,q<L.length→(Lit.int .i64 (L.getD q 0)).wf=true:=fun q hq=>by
   have:=hL.wf (L[q]) (List.getElem_mem hq);simpa [List.getD,List.getElem?_eq_getElem hq] using this
  exact⟨rfl,rfl,rowK_get hL (by omega),rowK_get hL (by omega),w0 _ (by omega),w0 _ (by omega)⟩
variable {H : Type} {enc : TypeId × Value → H}
theorem argP_of {w:World}{base:Nat}{r:Go.Reach}{v:Value}{d:DataW H}{p:List MemPlace}(i:Nat) (hval:Value.okWide prog w r base 22 v) (h:DataW.Trod enc prog w 0 (fun _=>true) true 22 v d p) (hsz:∀ x y,d= .slice x y→(x.length+y.length)*prog.bytesOf 35≤reachBytes):
  (∃ x k q n c o L,ArgP w i v x k q n c o L)∧∀ w' (sp:Nat→Bool),Tidy w w'→(∀ y∈p,sp y.block=true)→DataW.Trod enc prog w' 0 sp true 22 v d p:=by
 have back:(∀ y∈p,y.block<w.heap.size)→∀ w' (sp:Nat→Bool),Tidy w w'→(∀ y∈p,sp y.block=true)→DataW.Trod enc prog w' 0 sp true 22 v d p:=
  fun hlt w' sp ht hp=>WideElems.Trod_stays laid_out (by kernel_rfl) (Xc (by kernel_rfl)) h (fun x hx=>ht.1.same (hlt x hx)) hp
 rcases open_pairs ask_ty ask_st (by kernel_rfl) ask_ce int_el int_el hval h with ⟨rfl,rfl,rfl⟩ | ⟨b,off,len,cap,cs,zs,x,y,rfl,hle,hz,hm,hL,rfl,hxy,hpl⟩
 ·exact⟨⟨_,(0,0),_,_,_,0,_,.inl ⟨rfl,rfl,rfl,rfl,rfl,rfl⟩⟩,back (fun y hy=>by cases hy)⟩
 ·have hs:=hsz _ _ rfl;rw[ask_by,hxy] at hs;simp only[reachBytes] at hs;refine⟨⟨_,_,_,_,_,_,_,.inr ⟨b,cs,rfl,hL,hz,hle,by omega,rfl,rfl,rfl⟩⟩,back fun y hy=> ?_⟩;obtain⟨ty,z,hh⟩:=hL.heap;rw[hpl y hy];exact (Array.getElem?_eq_some_iff.1 hh).1
end Go.Proofs.YtdlpffgekmidnabDoor
namespace Go.KRun
open Go.RowKit
def fillO:(Nat→Value)→List (Option Value)→List Value
 | _,[]=>[]
 | j,o::r=>o.getD (j 0)::fillO (fun i=>j (i+1)) r
def matO (f:Nat→Nat):List (Option Value)→List Value→Prop
 | [],[]=>True
 | some u::r,v::s=>rn f u=v∧matO f r s
 | none::r,_::s=>matO f r s
 | _,_=>False
theorem fill_mat {m:Mp}{f:Nat→Nat}{k:Nat}(hk:0<k):∀ (o:List (Option Value)) (t:List Value),matO f o t→(∀ v,some v∈o→lt k v=true)→∃ j,(fillO j o).map (mv fun i=>m (f i))=t.map (mv m)∧∀ v∈fillO j o,lt k v=true
 | [],[],_,_=>⟨fun _=>undef,rfl,fun v hv=>by cases hv⟩
 | [],_::_,h,_=>h.elim
 | some _::_,[],h,_=>h.elim
 | none::_,[],h,_=>h.elim
 | some u::r,v::s,h,hl=>by
  obtain⟨h1,h2⟩:=h;obtain⟨j,e1,e2⟩:=fill_mat (m:=m) hk r s h2 fun x hx=>hl x (Xd _ hx);refine⟨fun i=>match i with | 0=>undef | i+1=>j i,?_,?_⟩
  ·show mv (fun i=>m (f i)) u::(fillO j r).map (mv fun i=>m (f i))=mv m v::s.map (mv m);rw[e1,← h1,mv_rn]
  ·intro x hx;rcases List.mem_cons.1 (show x∈u::fillO j r from hx) with rfl | hx
   ·exact hl x Xe
   ·exact e2 x hx
 | none::r,v::s,h,hl=>by
  obtain⟨j,e1,e2⟩:=fill_mat (m:=m) hk r s h fun x hx=>hl x (Xd _ hx);refine⟨fun i=>match i with | 0=> .iface dead (mv m v) | i+1=>j i,?_,?_⟩
  ·show mv (fun i=>m (f i)) (.iface dead (mv m v))::(fillO j r).map (mv fun i=>m (f i))=mv m v::s.map (mv m);rw[e1];simp [mv,mv2,mv1]
  ·intro x hx;rcases List.mem_cons.1 (show x∈Value.iface dead (mv m v)::fillO j r from hx) with rfl | hx
   ·simp [lt,lt2,lt1,hk,dead]
   ·exact e2 x hx
theorem compactR {m:Mp}{B:Nat}{t t':List Value}{h h':Hp}{s:List Dec}{a:Act}{w:World}(R:Rel m B (t,h,s) a w) (f:Nat→Nat) (hl:h'.l.length=h'.n)
  (hb:∀ i x,h'.blk? i=some x→(x.1.all (lt1 h'.n))=true∧h.blk? (f i)=some (x.1.map (rn1 f),x.2))
  (hi:∀ i j x y,h'.blk? i=some x→h'.blk? j=some y→f i=f j→i=j)
  (ht:t'.map (mv fun i=>m (f i))=t.map (mv m)) (hw:∀ v∈t',lt h'.n v=true):Rel (fun i=>m (f i)) B (t',h',s) a w:=by
 have E:=R.emb;have em:∀ l:List Value,(l.map (rn1 f)).map (mv1 m)=l.map (mv1 fun i=>m (f i)):=fun l=>by
  rw[List.map_map];exact List.map_congr_left fun v _=>mv1_rn m f v
 refine⟨by rw[R.tmps];simp only;rw[ht],R.dfr,⟨hl,?_,?_,?_,?_,?_,E.base,E.ice,?_⟩,hw⟩
 ·intro b x hx ht;have:=E.lies (f b) _ (hb b x hx).2 ht;rw[em] at this;exact this
 ·intro b x hx hr;exact E.low (f b) _ (hb b x hx).2 hr
 ·intro b x hx ht hr;exact E.ros (f b) _ (hb b x hx).2 ht hr
 ·intro b b' x x' hx hx' hr hr' he;exact hi b b' x x' hx hx' (E.inj _ _ _ _ (hb b x hx).2 (hb b' x' hx').2 hr hr' he)
 ·intro b x hx v hv;exact List.all_eq_true.1 (hb b x hx).1 v hv
 ·intro b x hx ha;exact (E.abs (f b) _ (hb b x hx).2 ha).ren (f:=f) (r:=[]) rfl (by rw[List.append_nil];exact em _) (fun c z hz=>⟨_,(hb c z hz).2,rfl⟩) fun c z hz _ _ hc=>hi c b z x hz hx hc
theorem blk_pick {bs:List Nat}{cells:List (List Value×TypeId)}(hl:cells.length=bs.length) {i:Nat}{x:List Value×TypeId}(h:(⟨bs.length,cells.reverse⟩:Hp).blk? i=some x):i<bs.length∧(bs.getD i 0,x)∈bs.zip cells:=by
 have hi:i<bs.length:=Hp.blk_lt h;refine⟨hi,?_⟩;unfold Hp.blk? at h;rw[if_pos (blt_iff.2 hi)] at h;have h':cells.reverse[bs.length-1-i]? =some x:=h;rw[List.getElem?_reverse (by omega),show cells.length-1-(bs.length-1-i)=i by omega] at h';refine List.mem_of_getElem? (i:=i) ?_;rw[List.getElem?_zip_eq_some];exact⟨by rw[List.getD_eq_getElem?_getD,List.getElem?_eq_getElem hi];rfl,h'⟩
theorem RunsW.preP {T:Tab}{c:Code}{P:Ex→Lf→Prop}{front:List Value}(o:List (Option Value)) {n:Nat}{h:Hp}(bs:List Nat) (cells:List (List Value×TypeId)) {s s':List Dec}{g:Nat→Value}(hr:∀ j g,RunsW T c (fillO j o++tl n g,⟨bs.length,cells.reverse⟩,s') P)
  (hl:cells.length=bs.length) (h0:0<bs.length) (hf:matO (fun i=>bs.getD i 0) o front) (hx:∀ q∈bs.zip cells,(q.2.1.all (lt1 bs.length))=true∧h.blk? q.1=some (q.2.1.map (rn1 fun i=>bs.getD i 0),q.2.2)) (hd:bs.Nodup) (hw:(o.all fun x=>x.all (lt bs.length))=true):
  RunsW T c (front++tl n g,h,s) P:=by
 intro m B a w R Q hQ;obtain⟨j,j1,j2⟩:=fill_mat (m:=m) h0 o front hf fun v hv=>List.all_eq_true.1 hw _ hv;obtain⟨g',hg⟩:=tl_of (J:=(tl n g).map (fun v=>Value.iface dead (mv m v))) (n:=n) (by simp [tl_len]);have R2:Rel (fun i=>m (bs.getD i 0)) B (fillO j o++tl n g',⟨bs.length,cells.reverse⟩,s) a w:=by
  refine compactR R (fun i=>bs.getD i 0) (by simp [hl]) (fun i x hi=> ?_) (fun i k x y hi hk hik=> ?_) ?_ ?_
  ·obtain⟨_,q⟩:=blk_pick hl hi;exact hx _ q
  ·obtain⟨q1,_⟩:=blk_pick hl hi;obtain⟨q2,_⟩:=blk_pick hl hk;have e1:bs.getD i 0=bs[i]:=by rw[List.getD_eq_getElem?_getD,List.getElem?_eq_getElem q1];rfl
   have e2:bs.getD k 0=bs[k]:=by rw[List.getD_eq_getElem?_getD,List.getElem?_eq_getElem q2];rfl
   rw[e1,e2] at hik;have hp:=List.pairwise_iff_getElem.1 hd;rcases Nat.lt_trichotomy i k with c | c | c
   ·exact absurd hik (hp i k q1 q2 c)
   ·exact c
   ·exact absurd hik.symm (hp k i q2 q1 c)
  ·rw[List.map_append,List.map_append,j1,← hg,List.map_map];congr 1
  ·intro v hv;rcases List.mem_append.1 hv with hv | hv
   ·exact j2 v hv
   ·rw[← hg] at hv;obtain⟨u,_,rfl⟩:=List.mem_map.1 hv;simp [lt,lt2,lt1,h0,dead]
 exact hr j g' _ B a w ⟨R2.tmps,R2.dfr,R2.emb,R2.wf⟩ Q hQ
end Go.KRun
namespace Go.KRun
theorem RunsW.cond {T:Tab}{b:Operand}{c1 c2:Code}{x:Lf}{P:Ex→Lf→Prop}(v:Bool) (hb:okX b=true) (hv:ev x.1 b= .bool v) (h:RunsW T (match v with | true=>c1 | false=>c2) x P):RunsW T (.cond b c1 c2) x P:=by
 intro m B a w R Q hQ;have hev:a.eval b= .bool v:=by rw[eval_mv R.tmps hb,hv];simp [mv,mv2,mv1]
 cases v
 ·exact wp_cond_false hev (h m B a w R Q hQ)
 ·exact wp_cond_true hev (h m B a w R Q hQ)
def cThn:Code→Code
 | .cond _ a _=>a
 | c=>c
end Go.KRun
namespace Go.Proofs.YtdlpffgekmidnabDoor
open Go.KRun Go.RowKit
theorem calls_of_startW {T:Tab}{f:Nat}{F:Func}{c:Code}(hF:T.P.funcs[f]? =some F) (hc:F.body=some c) {h0:Hp}{vals:List Value}(hvals:∀ v∈vals,lt h0.n v=true) {v:Value}(hv:lt 0 v=true)
  (hrun:RunsW T c (vals++List.replicate (F.ntmps-vals.length) undef,h0,[]) fun e y=>(e=none∨e=some none)∧resS T.P F y.1 y.2.1=some v)
  {m:Mp}{w:World}(E:Emb m w.heap.size h0 w):
  Calls T.P f (vals.map (mv m)).toArray w fun e w'=>e= .returned v∧Tidy w w':=by
 refine calls_of_wp hF hc ?_;have R:Rel m w.heap.size (vals++List.replicate (F.ntmps-vals.length) undef,h0,[]) {tmps:=(vals.map (mv m)).toArray++Array.replicate (F.ntmps-(vals.map (mv m)).toArray.size) undef,defers:=[]} w:=by
  refine⟨?_,rfl,E,?_⟩
  ·simp [mv_undef]
  ·intro y hy;rcases List.mem_append.1 hy with hy | hy
   ·exact hvals y hy
   ·rw[List.eq_of_mem_replicate hy];simp [undef,lt]
 refine hrun _ _ _ w R _ fun e y he m1 a' w' k2 k3=> ?_;obtain⟨hex,hres⟩:=he;obtain⟨r1,r2⟩:=resS_run k2.emb k2.wf hres;rw[← k2.tmps,mv_still hv] at r1;have td:Tidy w w':=⟨k3,fun k h1 h2=>k2.emb.ice k h1 h2⟩;have post:a'.defers=[]∧∃ v',(results F a'.tmps).run T.P w'= .ok v' w'∧(Ending.returned v'= .returned v∧Tidy w w'):=⟨k2.dfr,_,r1,rfl,td⟩;rcases hex with rfl | rfl<;>exact post
end Go.Proofs.YtdlpffgekmidnabDoor
namespace Go.Proofs.YtdlpffgekmidnabDoor
open Go.Proofs.Tryd
open Go.KRun Go.Wd
set_option maxRecDepth 100000
theorem numk_fits:Fits (reckon (tabOf prog extY conN true) 100 6 [.nilIface] []) (.int .i64 0) []:=by and_intros<;>kernel_rfl
def gNumK:Ans:=fun vals s=>match vals with | [.nilIface]=>some (.int .i64 0,s,[]) | _=>none
theorem gNumK_ok:AnsOk 6 gNumK:=by
 intro vals s v s' lg h hl w;unfold gNumK at h;split at h
 ·cases h;exact fits_calls (tabY_ok conN_ok) numk_fits okNil (by rfl) (by rfl) w
 ·cases h
def conTK:Con:=alt 6 gNumK (alt 4 gAtZ (alt 7 gLenZ conTL))
theorem conTK_ok:ConOk conTK:=alt_ok func6 rfl gNumK_ok (alt_ok func4 rfl gAtZ_ok (alt_ok func7 rfl gLenZ_ok conTL_ok))
def hcTK:Hc:=altH 6 gNum (altH 4 gAt (altH 7 gLenR (altH 5 gNewR hcN)))
theorem hcTK_ok:HcOk hcTK:=altH_ok func6 rfl gNum_ok (altH_ok func4 rfl gAt_ok (altH_ok func7 rfl gLenR_ok (altH_ok func5 rfl gNewR_ok hcN_ok)))
def kF (F:Func):Code:=cFst (cSnd (cSnd (cSnd (cSnd (cSnd (cSnd (cBody F)))))))
def kZ (F:Func):Code:=cSnd (cSnd (cSnd (cSnd (cSnd (cSnd (cSnd (cBody F)))))))
def kS (F:Func):List Code:=[cFst (cBody F),cFst (cSnd (cBody F)),cFst (cSnd (cSnd (cBody F))),cFst (cSnd (cSnd (cSnd (cBody F)))),cFst (cSnd (cSnd (cSnd (cSnd (cBody F))))),cFst (cSnd (cSnd (cSnd (cSnd (cSnd (cBody F))))))]
def kA (F:Func):Code:=cIn (cIn (cSnd (kF F)))
def kB (F:Func):Code:=cIn (cFst (cSnd (kA F)))
def kQ (F:Func):Code:=cFst (kA F)
def kR (F:Func):Code:=cSnd (cSnd (kA F))
def kP (F:Func):List Code:=[cFst (kB F),cFst (cSnd (kB F)),cFst (cSnd (cSnd (kB F)))]
def kH (F:Func):Code:=cFst (cSnd (cSnd (cSnd (kB F))))
def kN (F:Func):Code:=cSnd (cSnd (cSnd (cSnd (kB F))))
def kG (F:Func):Code:=cThn (cSnd (kH F))
def kI (F:Func):List Code:=[cFst (kG F),cFst (cSnd (kG F)),cFst (cSnd (cSnd (kG F)))]
def kD (F:Func):Code:=cFst (cSnd (cSnd (cSnd (kG F))))
def kE (F:Func):Code:=cIn (cIn (cSnd (kD F)))
def kU (F:Func):Code:=cSnd (cSnd (cSnd (cSnd (kG F))))
def tkF (l u1 u2 u3 u4 u5 r sv:Value) (i:Int) (u9 u10 u11 u12 u13 u14 u15:Value):List Value:=[l,u1,u2,u3,u4,u5,r,sv,.int .i64 i,u9,u10,u11,u12,u13,u14,u15]
abbrev obP:Value:= .pointer (some ⟨2,0,none⟩)
abbrev lP (o n c:Nat):Value:= .slice (some ⟨1,o,none⟩) n c
def h4 (S:List Value) (e3:TypeId) (L X:List Value):Hp:=⟨4,[(S,e3),(L,obT),(X,askR),(kV,kT)]⟩
abbrev vI (k:Int):Dec:=val (.int .i64 k)
end Go.Proofs.YtdlpffgekmidnabDoor
namespace Go.Proofs.YtdlpffgekmidnabDoor
open Go.Proofs.Tryd
open Go.IntKind
open Go.KRun Go.Wd
set_option maxRecDepth 100000
set_option linter.unusedVariables false
theorem tk_eP (o n c j:Nat) (u1 u2 u3 u4 u5:Value) (k m:Int) (u9 u10 u11 u12 u13 u14 u15:Value) (S L X:List Value) (q:Int) (g:Nat→Value) (sn:Nat):GoesT (evC (tabH prog extY conTK hcTK) 300 false (kB f3) (tkF (lP o n c) u1 u2 u3 u4 u5 obP (.slice none 0 0) (j:Nat) u9 u10 u11 u12 u13 u14 u15++tl 129 g,h4 S 26 (.int .i64 q::L) X,[at_,vI k,at_,vI m,cmp true,at_,at_,vI k,at_,vI m,cmp true,cmp false,cmp false,cmp false]) ⟨[],[],[]⟩) 16 129 none (tkF (lP o n c) u1 u2 u3 u4 u5 obP (.slice none 0 0) (j:Nat) (.pointer (some ⟨4,0,none⟩)) (.iface 42 (.int .i64 1)) (.pointer (some ⟨5,0,none⟩)) (.iface 42 (.int .i64 1)) u13 u14 u15) (⟨6,[([.int .u64 0,.int .u64 0],26),([.int .u64 0,.int .u64 0],26),(S,26),(.int .i64 q::L,obT),(X,askR),(kV,kT)]⟩) [(q !=0,false),(isMp (.int .i64 q::L),true),((1:Int) !=1,false),(Nat.beq 42 42 && Nat.beq kT kT && kOk kV,true),(Nat.beq 42 42 && Nat.beq kT kT && kOk kV,true),(decide (badP m),true),(decide (badP m),true),(cellIs (X[o+(j*2+1)]?) (.int .i64 m),true),(decide (0≤((j:Nat):Int)∧((j:Nat):Int)<((n:Nat):Int)),true),(cellIs (X[o+j*2]?) (.int .i64 k),true),(decide (0≤((j:Nat):Int)∧((j:Nat):Int)<((n:Nat):Int)),true),(true,true),(isMp (.int .i64 q::L),true),(decide (badP m),true),(true,true),(isMp (.int .i64 q::L),true),(decide (badP m),true),(cellIs (X[o+(j*2+1)]?) (.int .i64 m),true),(decide (0≤((j:Nat):Int)∧((j:Nat):Int)<((n:Nat):Int)),true),(cellIs (X[o+j*2]?) (.int .i64 k),true),(decide (0≤((j:Nat):Int)∧((j:Nat):Int)<((n:Nat):Int)),true)]:=by and_intros<;>kernel_rfl
theorem tk_gnP (o n c j:Nat) (u1 u2 u3 u4 u5:Value) (k m:Int) (u9 u10 u11 u12 u13 u14 u15:Value) (S L X:List Value) (q:Int) (g:Nat→Value) (sn:Nat):GoesT (evL (tabH prog extY conTK hcTK) 300 (kP f3) (tkF (lP o n c) u1 u2 u3 u4 u5 obP (.slice none 0 0) (j:Nat) u9 u10 u11 u12 u13 u14 u15++tl 129 g,h4 S 26 (.int .i64 q::L) X,[at_,vI k,at_,vI m,cmp false,cmp false,at_,at_,vI k,at_,vI m,cmp false,sam false,cmp false]) ⟨[],[],[]⟩) 16 129 none (tkF (lP o n c) u1 u2 u3 u4 u5 obP (.slice none 0 0) (j:Nat) (.pointer (some ⟨4,0,none⟩)) .nilIface (.pointer (some ⟨5,0,none⟩)) .nilIface u13 u14 u15) (⟨6,[([.int .u64 (coI (k % m) m),.int .u64 (siI (k % m) m)],26),([.int .u64 (cK k m),.int .u64 (sK k m)],26),(S,26),(.int .i64 (q+1)::(L++[paV (k % m) m,ptV (cK k m) (sK k m)]),obT),(X,askR),(kV,kT)]⟩) [((0:Int) !=0,false),(!(cK k m==coI (k % m) m && (sK k m==siI (k % m) m && true)),false),(decide (badP m),false),(decide (badP m),false),(cellIs (X[o+(j*2+1)]?) (.int .i64 m),true),(decide (0≤((j:Nat):Int)∧((j:Nat):Int)<((n:Nat):Int)),true),(cellIs (X[o+j*2]?) (.int .i64 k),true),(decide (0≤((j:Nat):Int)∧((j:Nat):Int)<((n:Nat):Int)),true),(true,true),(noneT (k % m) m L,true),(isMp (.int .i64 q::L),true),(decide (badP m),false),(true,true),(noneT (k % m) m L,true),(isMp (.int .i64 q::L),true),(decide (badP m),false),(cellIs (X[o+(j*2+1)]?) (.int .i64 m),true),(decide (0≤((j:Nat):Int)∧((j:Nat):Int)<((n:Nat):Int)),true),(cellIs (X[o+j*2]?) (.int .i64 k),true),(decide (0≤((j:Nat):Int)∧((j:Nat):Int)<((n:Nat):Int)),true)]:=by and_intros<;>kernel_rfl
theorem tk_i0P (o n c j:Nat) (u1 u2 u3 u4 u5:Value) (k m:Int) (u9 u10 u11 u12 u13 u14 u15:Value) (S L X:List Value) (q:Int) (g:Nat→Value) (sn:Nat):GoesT (evL (tabH prog extY conTK hcTK) 300 (kI f3) (tkF (lP o n c) u1 u2 u3 u4 u5 obP (.slice none 0 0) (j:Nat) u9 u10 u11 u12 u13 u14 u15++tl 129 g,h4 S 26 (.int .i64 q::L) X,[at_,vI k,at_,vI m,cmp false,cmp false]) ⟨[],[],[]⟩) 16 129 none (tkF (lP o n c) u1 u2 u3 u4 u5 obP (.slice none 0 0) (j:Nat) u9 u10 u11 u12 (.int .i64 (k.tmod m)) (.bool false) u15) (h4 S 26 (.int .i64 q::L) X) [(decide (k.tmod m<0),false),(decide (m=0),false),(cellIs (X[o+(j*2+1)]?) (.int .i64 m),true),(decide (0≤((j:Nat):Int)∧((j:Nat):Int)<((n:Nat):Int)),true),(cellIs (X[o+j*2]?) (.int .i64 k),true),(decide (0≤((j:Nat):Int)∧((j:Nat):Int)<((n:Nat):Int)),true)]:=by and_intros<;>kernel_rfl
theorem tk_i1P (o n c j:Nat) (u1 u2 u3 u4 u5:Value) (k m:Int) (u9 u10 u11 u12 u13 u14 u15:Value) (S L X:List Value) (q:Int) (g:Nat→Value) (sn:Nat):GoesT (evL (tabH prog extY conTK hcTK) 300 (kI f3) (tkF (lP o n c) u1 u2 u3 u4 u5 obP (.slice none 0 0) (j:Nat) u9 u10 u11 u12 u13 u14 u15++tl 129 g,h4 S 26 (.int .i64 q::L) X,[at_,vI k,at_,vI m,cmp false,cmp true,at_,vI m]) ⟨[],[],[]⟩) 16 129 none (tkF (lP o n c) u1 u2 u3 u4 u5 obP (.slice none 0 0) (j:Nat) u9 u10 u11 u12 (.int .i64 (i64.wrap (k.tmod m+m))) (.bool false) u15) (h4 S 26 (.int .i64 q::L) X) [(cellIs (X[o+(j*2+1)]?) (.int .i64 m),true),(decide (0≤((j:Nat):Int)∧((j:Nat):Int)<((n:Nat):Int)),true),(decide (k.tmod m<0),true),(decide (m=0),false),(cellIs (X[o+(j*2+1)]?) (.int .i64 m),true),(decide (0≤((j:Nat):Int)∧((j:Nat):Int)<((n:Nat):Int)),true),(cellIs (X[o+j*2]?) (.int .i64 k),true),(decide (0≤((j:Nat):Int)∧((j:Nat):Int)<((n:Nat):Int)),true)]:=by and_intros<;>kernel_rfl
theorem tk_dP (o n c j:Nat) (u1 u2 u3 u4 u5:Value) (k m:Int) (u9 u10 u11 u12 u13 u14 u15:Value) (S L X:List Value) (q:Int) (g:Nat→Value) (sn:Nat):GoesT (evC (tabH prog extY conTK hcTK) 300 false (cFst (kD f3)) (tkF (lP o n c) u1 u2 u3 u4 u5 obP (.slice none 0 0) (j:Nat) u9 u10 u11 u12 u13 u14 u15++tl 129 g,h4 S 26 (.int .i64 q::L) X,[]) ⟨[],[],[]⟩) 16 129 none (tkF (lP o n c) u1 u2 u3 u4 u5 obP (.slice none 0 0) (j:Nat) u9 u10 u11 u12 u13 u14 (.int .i64 0)) (h4 S 26 (.int .i64 q::L) X) []:=by and_intros<;>kernel_rfl
theorem tk_nP (o n c j:Nat) (u1 u2 u3 u4 u5:Value) (k m:Int) (u9 u10 u11 u12 u13 u14 u15:Value) (S L X:List Value) (q:Int) (g:Nat→Value) (sn:Nat):GoesT (evC (tabH prog extY conTK hcTK) 300 false (kN f3) (tkF (lP o n c) u1 u2 u3 u4 u5 obP (.slice none 0 0) (j:Nat) u9 u10 u11 u12 u13 u14 u15++tl 129 g,h4 S 26 (.int .i64 q::L) X,[cmp false]) ⟨[],[],[]⟩) 16 129 none (tkF (lP o n c) u1 u2 u3 u4 u5 obP (.slice none 0 0) (j:Nat) u9 u10 u11 u12 u13 u14 u15) (h4 S 26 (.int .i64 q::L) X) [(q !=0,false),(isMp (.int .i64 q::L),true)]:=by and_intros<;>kernel_rfl
theorem tk_rP (o n c j:Nat) (u1 u2 u3 u4 u5:Value) (k m:Int) (u9 u10 u11 u12 u13 u14 u15:Value) (S L X:List Value) (q:Int) (g:Nat→Value) (sn:Nat):GoesT (evC (tabH prog extY conTK hcTK) 300 false (kR f3) (tkF (lP o n c) u1 u2 u3 u4 u5 obP (.slice none 0 0) (j:Nat) u9 u10 u11 u12 u13 u14 u15++tl 129 g,h4 S 26 (.int .i64 q::L) X,[]) ⟨[],[],[]⟩) 16 129 none (tkF (lP o n c) u1 u2 u3 u4 u5 obP (.slice none 0 0) (i64.wrap ((j:Nat)+1)) u9 u10 u11 u12 u13 u14 u15) (h4 S 26 (.int .i64 q::L) X) []:=by and_intros<;>kernel_rfl
theorem tk_qP (o n c j:Nat) (u1 u2 u3 u4 u5:Value) (k m:Int) (u9 u10 u11 u12 u13 u14 u15:Value) (S L X:List Value) (q:Int) (g:Nat→Value) (sn:Nat):GoesT (evC (tabH prog extY conTK hcTK) 300 false (kQ f3) (tkF (lP o n c) u1 u2 u3 u4 u5 obP (.slice none 0 0) (j:Nat) u9 u10 u11 u12 u13 u14 u15++tl 129 g,h4 S 26 (.int .i64 q::L) X,[cmp true,cmp true]) ⟨[],[],[]⟩) 16 129 none (tkF (lP o n c) u1 u2 u3 u4 u5 obP (.slice none 0 0) (j:Nat) u9 u10 u11 u12 u13 u14 u15) (h4 S 26 (.int .i64 q::L) X) [(decide (((j:Nat):Int)<20),true),(decide (((j:Nat):Int)<((n:Nat):Int)),true)]:=by and_intros<;>kernel_rfl
theorem tk_qaP (o n c j:Nat) (u1 u2 u3 u4 u5:Value) (k m:Int) (u9 u10 u11 u12 u13 u14 u15:Value) (S L X:List Value) (q:Int) (g:Nat→Value) (sn:Nat):GoesT (evC (tabH prog extY conTK hcTK) 300 false (kQ f3) (tkF (lP o n c) u1 u2 u3 u4 u5 obP (.slice none 0 0) (j:Nat) u9 u10 u11 u12 u13 u14 u15++tl 129 g,h4 S 26 (.int .i64 q::L) X,[cmp false]) ⟨[],[],[]⟩) 16 129 (some (some 0)) (tkF (lP o n c) u1 u2 u3 u4 u5 obP (.slice none 0 0) (j:Nat) u9 u10 u11 u12 u13 u14 u15) (h4 S 26 (.int .i64 q::L) X) [(decide (((j:Nat):Int)<((n:Nat):Int)),false)]:=by and_intros<;>kernel_rfl
theorem tk_qbP (o n c j:Nat) (u1 u2 u3 u4 u5:Value) (k m:Int) (u9 u10 u11 u12 u13 u14 u15:Value) (S L X:List Value) (q:Int) (g:Nat→Value) (sn:Nat):GoesT (evC (tabH prog extY conTK hcTK) 300 false (kQ f3) (tkF (lP o n c) u1 u2 u3 u4 u5 obP (.slice none 0 0) (j:Nat) u9 u10 u11 u12 u13 u14 u15++tl 129 g,h4 S 26 (.int .i64 q::L) X,[cmp true,cmp false]) ⟨[],[],[]⟩) 16 129 (some (some 0)) (tkF (lP o n c) u1 u2 u3 u4 u5 obP (.slice none 0 0) (j:Nat) u9 u10 u11 u12 u13 u14 u15) (h4 S 26 (.int .i64 q::L) X) [(decide (((j:Nat):Int)<20),false),(decide (((j:Nat):Int)<((n:Nat):Int)),true)]:=by and_intros<;>kernel_rfl
theorem tk_eQ (o n c j:Nat) (u1 u2 u3 u4 u5:Value) (k m:Int) (u9 u10 u11 u12 u13 u14 u15:Value) (S L X:List Value) (q:Int) (g:Nat→Value) (sn:Nat):GoesT (evC (tabH prog extY conTK hcTK) 300 false (kB f3) (tkF (lP o n c) u1 u2 u3 u4 u5 obP (.slice (some ⟨3,0,none⟩) sn (dead+2)) (j:Nat) u9 u10 u11 u12 u13 u14 u15++tl 129 g,h4 S 35 (.int .i64 q::L) X,[at_,vI k,at_,vI m,cmp true,at_,at_,vI k,at_,vI m,cmp true,cmp false,cmp false,cmp false]) ⟨[],[],[]⟩) 16 129 none (tkF (lP o n c) u1 u2 u3 u4 u5 obP (.slice (some ⟨3,0,none⟩) sn (dead+2)) (j:Nat) (.pointer (some ⟨4,0,none⟩)) (.iface 42 (.int .i64 1)) (.pointer (some ⟨5,0,none⟩)) (.iface 42 (.int .i64 1)) u13 u14 u15) (⟨6,[([.int .u64 0,.int .u64 0],26),([.int .u64 0,.int .u64 0],26),(S,35),(.int .i64 q::L,obT),(X,askR),(kV,kT)]⟩) [(q !=((sn:Nat):Int),false),(isMp (.int .i64 q::L),true),((1:Int) !=1,false),(Nat.beq 42 42 && Nat.beq kT kT && kOk kV,true),(Nat.beq 42 42 && Nat.beq kT kT && kOk kV,true),(decide (badP m),true),(decide (badP m),true),(cellIs (X[o+(j*2+1)]?) (.int .i64 m),true),(decide (0≤((j:Nat):Int)∧((j:Nat):Int)<((n:Nat):Int)),true),(cellIs (X[o+j*2]?) (.int .i64 k),true),(decide (0≤((j:Nat):Int)∧((j:Nat):Int)<((n:Nat):Int)),true),(true,true),(isMp (.int .i64 q::L),true),(decide (badP m),true),(true,true),(isMp (.int .i64 q::L),true),(decide (badP m),true),(cellIs (X[o+(j*2+1)]?) (.int .i64 m),true),(decide (0≤((j:Nat):Int)∧((j:Nat):Int)<((n:Nat):Int)),true),(cellIs (X[o+j*2]?) (.int .i64 k),true),(decide (0≤((j:Nat):Int)∧((j:Nat):Int)<((n:Nat):Int)),true)]:=by and_intros<;>kernel_rfl
theorem tk_gkQ (o n c j:Nat) (u1 u2 u3 u4 u5:Value) (k m:Int) (u9 u10 u11 u12 u13 u14 u15:Value) (S L X:List Value) (q:Int) (g:Nat→Value) (sn:Nat):GoesT (evL (tabH prog extY conTK hcTK) 300 (kP f3) (tkF (lP o n c) u1 u2 u3 u4 u5 obP (.slice (some ⟨3,0,none⟩) sn (dead+2)) (j:Nat) u9 u10 u11 u12 u13 u14 u15++tl 129 g,h4 S 35 (.int .i64 q::L) X,[at_,vI k,at_,vI m,cmp false,cmp true,at_,at_,vI k,at_,vI m,cmp false,sam false,cmp false]) ⟨[],[],[]⟩) 16 129 none (tkF (lP o n c) u1 u2 u3 u4 u5 obP (.slice (some ⟨3,0,none⟩) sn (dead+2)) (j:Nat) (.pointer (some ⟨4,0,none⟩)) .nilIface (.pointer (some ⟨5,0,none⟩)) .nilIface u13 u14 u15) (⟨6,[([.int .u64 (coI (k % m) m),.int .u64 (siI (k % m) m)],26),([.int .u64 (cK k m),.int .u64 (sK k m)],26),(S,35),(.int .i64 q::L,obT),(X,askR),(kV,kT)]⟩) [((0:Int) !=0,false),(!(cK k m==coI (k % m) m && (sK k m==siI (k % m) m && true)),false),(decide (badP m),false),(decide (badP m),false),(cellIs (X[o+(j*2+1)]?) (.int .i64 m),true),(decide (0≤((j:Nat):Int)∧((j:Nat):Int)<((n:Nat):Int)),true),(cellIs (X[o+j*2]?) (.int .i64 k),true),(decide (0≤((j:Nat):Int)∧((j:Nat):Int)<((n:Nat):Int)),true),(true,true),(hereT (k % m) m (ptV (cK k m) (sK k m)) L,true),(isMp (.int .i64 q::L),true),(decide (badP m),false),(true,true),(hereT (k % m) m (ptV (cK k m) (sK k m)) L,true),(isMp (.int .i64 q::L),true),(decide (badP m),false),(cellIs (X[o+(j*2+1)]?) (.int .i64 m),true),(decide (0≤((j:Nat):Int)∧((j:Nat):Int)<((n:Nat):Int)),true),(cellIs (X[o+j*2]?) (.int .i64 k),true),(decide (0≤((j:Nat):Int)∧((j:Nat):Int)<((n:Nat):Int)),true)]:=by and_intros<;>kernel_rfl
theorem tk_gnQ (o n c j:Nat) (u1 u2 u3 u4 u5:Value) (k m:Int) (u9 u10 u11 u12 u13 u14 u15:Value) (S L X:List Value) (q:Int) (g:Nat→Value) (sn:Nat):GoesT (evL (tabH prog extY conTK hcTK) 300 (kP f3) (tkF (lP o n c) u1 u2 u3 u4 u5 obP (.slice (some ⟨3,0,none⟩) sn (dead+2)) (j:Nat) u9 u10 u11 u12 u13 u14 u15++tl 129 g,h4 S 35 (.int .i64 q::L) X,[at_,vI k,at_,vI m,cmp false,cmp false,at_,at_,vI k,at_,vI m,cmp false,sam false,cmp false]) ⟨[],[],[]⟩) 16 129 none (tkF (lP o n c) u1 u2 u3 u4 u5 obP (.slice (some ⟨3,0,none⟩) sn (dead+2)) (j:Nat) (.pointer (some ⟨4,0,none⟩)) .nilIface (.pointer (some ⟨5,0,none⟩)) .nilIface u13 u14 u15) (⟨6,[([.int .u64 (coI (k % m) m),.int .u64 (siI (k % m) m)],26),([.int .u64 (cK k m),.int .u64 (sK k m)],26),(S,35),(.int .i64 (q+1)::(L++[paV (k % m) m,ptV (cK k m) (sK k m)]),obT),(X,askR),(kV,kT)]⟩) [((0:Int) !=0,false),(!(cK k m==coI (k % m) m && (sK k m==siI (k % m) m && true)),false),(decide (badP m),false),(decide (badP m),false),(cellIs (X[o+(j*2+1)]?) (.int .i64 m),true),(decide (0≤((j:Nat):Int)∧((j:Nat):Int)<((n:Nat):Int)),true),(cellIs (X[o+j*2]?) (.int .i64 k),true),(decide (0≤((j:Nat):Int)∧((j:Nat):Int)<((n:Nat):Int)),true),(true,true),(noneT (k % m) m L,true),(isMp (.int .i64 q::L),true),(decide (badP m),false),(true,true),(noneT (k % m) m L,true),(isMp (.int .i64 q::L),true),(decide (badP m),false),(cellIs (X[o+(j*2+1)]?) (.int .i64 m),true),(decide (0≤((j:Nat):Int)∧((j:Nat):Int)<((n:Nat):Int)),true),(cellIs (X[o+j*2]?) (.int .i64 k),true),(decide (0≤((j:Nat):Int)∧((j:Nat):Int)<((n:Nat):Int)),true)]:=by and_intros<;>kernel_rfl
theorem tk_i0Q (o n c j:Nat) (u1 u2 u3 u4 u5:Value) (k m:Int) (u9 u10 u11 u12 u13 u14 u15:Value) (S L X:List Value) (q:Int) (g:Nat→Value) (sn:Nat):GoesT (evL (tabH prog extY conTK hcTK) 300 (kI f3) (tkF (lP o n c) u1 u2 u3 u4 u5 obP (.slice (some ⟨3,0,none⟩) sn (dead+2)) (j:Nat) u9 u10 u11 u12 u13 u14 u15++tl 129 g,h4 S 35 (.int .i64 q::L) X,[at_,vI k,at_,vI m,cmp false,cmp false]) ⟨[],[],[]⟩) 16 129 none (tkF (lP o n c) u1 u2 u3 u4 u5 obP (.slice (some ⟨3,0,none⟩) sn (dead+2)) (j:Nat) u9 u10 u11 u12 (.int .i64 (k.tmod m)) (.bool false) u15) (h4 S 35 (.int .i64 q::L) X) [(decide (k.tmod m<0),false),(decide (m=0),false),(cellIs (X[o+(j*2+1)]?) (.int .i64 m),true),(decide (0≤((j:Nat):Int)∧((j:Nat):Int)<((n:Nat):Int)),true),(cellIs (X[o+j*2]?) (.int .i64 k),true),(decide (0≤((j:Nat):Int)∧((j:Nat):Int)<((n:Nat):Int)),true)]:=by and_intros<;>kernel_rfl
theorem tk_i1Q (o n c j:Nat) (u1 u2 u3 u4 u5:Value) (k m:Int) (u9 u10 u11 u12 u13 u14 u15:Value) (S L X:List Value) (q:Int) (g:Nat→Value) (sn:Nat):GoesT (evL (tabH prog extY conTK hcTK) 300 (kI f3) (tkF (lP o n c) u1 u2 u3 u4 u5 obP (.slice (some ⟨3,0,none⟩) sn (dead+2)) (j:Nat) u9 u10 u11 u12 u13 u14 u15++tl 129 g,h4 S 35 (.int .i64 q::L) X,[at_,vI k,at_,vI m,cmp false,cmp true,at_,vI m]) ⟨[],[],[]⟩) 16 129 none (tkF (lP o n c) u1 u2 u3 u4 u5 obP (.slice (some ⟨3,0,none⟩) sn (dead+2)) (j:Nat) u9 u10 u11 u12 (.int .i64 (i64.wrap (k.tmod m+m))) (.bool false) u15) (h4 S 35 (.int .i64 q::L) X) [(cellIs (X[o+(j*2+1)]?) (.int .i64 m),true),(decide (0≤((j:Nat):Int)∧((j:Nat):Int)<((n:Nat):Int)),true),(decide (k.tmod m<0),true),(decide (m=0),false),(cellIs (X[o+(j*2+1)]?) (.int .i64 m),true),(decide (0≤((j:Nat):Int)∧((j:Nat):Int)<((n:Nat):Int)),true),(cellIs (X[o+j*2]?) (.int .i64 k),true),(decide (0≤((j:Nat):Int)∧((j:Nat):Int)<((n:Nat):Int)),true)]:=by and_intros<;>kernel_rfl
theorem tk_dQ (o n c j:Nat) (u1 u2 u3 u4 u5:Value) (k m:Int) (u9 u10 u11 u12 u13 u14 u15:Value) (S L X:List Value) (q:Int) (g:Nat→Value) (sn:Nat):GoesT (evC (tabH prog extY conTK hcTK) 300 false (cFst (kD f3)) (tkF (lP o n c) u1 u2 u3 u4 u5 obP (.slice (some ⟨3,0,none⟩) sn (dead+2)) (j:Nat) u9 u10 u11 u12 u13 u14 u15++tl 129 g,h4 S 35 (.int .i64 q::L) X,[]) ⟨[],[],[]⟩) 16 129 none (tkF (lP o n c) u1 u2 u3 u4 u5 obP (.slice (some ⟨3,0,none⟩) sn (dead+2)) (j:Nat) u9 u10 u11 u12 u13 u14 (.int .i64 0)) (h4 S 35 (.int .i64 q::L) X) []:=by and_intros<;>kernel_rfl
theorem tk_nQ (o n c j:Nat) (u1 u2 u3 u4 u5:Value) (k m:Int) (u9 u10 u11 u12 u13 u14 u15:Value) (S L X:List Value) (q:Int) (g:Nat→Value) (sn:Nat):GoesT (evC (tabH prog extY conTK hcTK) 300 false (kN f3) (tkF (lP o n c) u1 u2 u3 u4 u5 obP (.slice (some ⟨3,0,none⟩) sn (dead+2)) (j:Nat) u9 u10 u11 u12 u13 u14 u15++tl 129 g,h4 S 35 (.int .i64 q::L) X,[cmp false]) ⟨[],[],[]⟩) 16 129 none (tkF (lP o n c) u1 u2 u3 u4 u5 obP (.slice (some ⟨3,0,none⟩) sn (dead+2)) (j:Nat) u9 u10 u11 u12 u13 u14 u15) (h4 S 35 (.int .i64 q::L) X) [(q !=((sn:Nat):Int),false),(isMp (.int .i64 q::L),true)]:=by and_intros<;>kernel_rfl
theorem tk_rQ (o n c j:Nat) (u1 u2 u3 u4 u5:Value) (k m:Int) (u9 u10 u11 u12 u13 u14 u15:Value) (S L X:List Value) (q:Int) (g:Nat→Value) (sn:Nat):GoesT (evC (tabH prog extY conTK hcTK) 300 false (kR f3) (tkF (lP o n c) u1 u2 u3 u4 u5 obP (.slice (some ⟨3,0,none⟩) sn (dead+2)) (j:Nat) u9 u10 u11 u12 u13 u14 u15++tl 129 g,h4 S 35 (.int .i64 q::L) X,[]) ⟨[],[],[]⟩) 16 129 none (tkF (lP o n c) u1 u2 u3 u4 u5 obP (.slice (some ⟨3,0,none⟩) sn (dead+2)) (i64.wrap ((j:Nat)+1)) u9 u10 u11 u12 u13 u14 u15) (h4 S 35 (.int .i64 q::L) X) []:=by and_intros<;>kernel_rfl
theorem tk_qQ (o n c j:Nat) (u1 u2 u3 u4 u5:Value) (k m:Int) (u9 u10 u11 u12 u13 u14 u15:Value) (S L X:List Value) (q:Int) (g:Nat→Value) (sn:Nat):GoesT (evC (tabH prog extY conTK hcTK) 300 false (kQ f3) (tkF (lP o n c) u1 u2 u3 u4 u5 obP (.slice (some ⟨3,0,none⟩) sn (dead+2)) (j:Nat) u9 u10 u11 u12 u13 u14 u15++tl 129 g,h4 S 35 (.int .i64 q::L) X,[cmp true,cmp true]) ⟨[],[],[]⟩) 16 129 none (tkF (lP o n c) u1 u2 u3 u4 u5 obP (.slice (some ⟨3,0,none⟩) sn (dead+2)) (j:Nat) u9 u10 u11 u12 u13 u14 u15) (h4 S 35 (.int .i64 q::L) X) [(decide (((j:Nat):Int)<20),true),(decide (((j:Nat):Int)<((n:Nat):Int)),true)]:=by and_intros<;>kernel_rfl
theorem tk_qaQ (o n c j:Nat) (u1 u2 u3 u4 u5:Value) (k m:Int) (u9 u10 u11 u12 u13 u14 u15:Value) (S L X:List Value) (q:Int) (g:Nat→Value) (sn:Nat):GoesT (evC (tabH prog extY conTK hcTK) 300 false (kQ f3) (tkF (lP o n c) u1 u2 u3 u4 u5 obP (.slice (some ⟨3,0,none⟩) sn (dead+2)) (j:Nat) u9 u10 u11 u12 u13 u14 u15++tl 129 g,h4 S 35 (.int .i64 q::L) X,[cmp false]) ⟨[],[],[]⟩) 16 129 (some (some 0)) (tkF (lP o n c) u1 u2 u3 u4 u5 obP (.slice (some ⟨3,0,none⟩) sn (dead+2)) (j:Nat) u9 u10 u11 u12 u13 u14 u15) (h4 S 35 (.int .i64 q::L) X) [(decide (((j:Nat):Int)<((n:Nat):Int)),false)]:=by and_intros<;>kernel_rfl
theorem tk_qbQ (o n c j:Nat) (u1 u2 u3 u4 u5:Value) (k m:Int) (u9 u10 u11 u12 u13 u14 u15:Value) (S L X:List Value) (q:Int) (g:Nat→Value) (sn:Nat):GoesT (evC (tabH prog extY conTK hcTK) 300 false (kQ f3) (tkF (lP o n c) u1 u2 u3 u4 u5 obP (.slice (some ⟨3,0,none⟩) sn (dead+2)) (j:Nat) u9 u10 u11 u12 u13 u14 u15++tl 129 g,h4 S 35 (.int .i64 q::L) X,[cmp true,cmp false]) ⟨[],[],[]⟩) 16 129 (some (some 0)) (tkF (lP o n c) u1 u2 u3 u4 u5 obP (.slice (some ⟨3,0,none⟩) sn (dead+2)) (j:Nat) u9 u10 u11 u12 u13 u14 u15) (h4 S 35 (.int .i64 q::L) X) [(decide (((j:Nat):Int)<20),false),(decide (((j:Nat):Int)<((n:Nat):Int)),true)]:=by and_intros<;>kernel_rfl
theorem tk_utQ (o n c j:Nat) (u1 u2 u3 u4 u5:Value) (k m:Int) (u9 u10 u11 u12 u13 u14 u15:Value) (S L X:List Value) (q:Int) (g:Nat→Value) (sn:Nat):GoesT (evC (tabH prog extY conTK hcTK) 300 false (kU f3) (tkF (lP o n c) u1 u2 u3 u4 u5 obP (.slice (some ⟨3,0,none⟩) sn (dead+2)) (j:Nat) u9 u10 u11 u12 u13 (.bool true) u15++tl 129 g,h4 S 35 (.int .i64 q::L) X,[]) ⟨[],[],[]⟩) 16 129 none (tkF (lP o n c) u1 u2 u3 u4 u5 obP (.slice (some ⟨3,0,none⟩) sn (dead+2)) (j:Nat) u9 u10 u11 u12 u13 (.bool true) u15) (h4 S 35 (.int .i64 q::L) X) []:=by and_intros<;>kernel_rfl
theorem tk_eo (o n c j:Nat) (u1 u2 u3 u4 u5:Value) (k m:Int) (u9 u10 u11 u12 u13 u14 u15:Value) (S L X:List Value) (q:Int) (g:Nat→Value) (sn:Nat) (K:Int) (d:Bool) (x:Nat):GoesT (evC (tabH prog extY conTK hcTK) 300 false (kE f3) (tkF (lP o n c) u1 u2 u3 u4 u5 obP (.slice (some ⟨3,0,none⟩) sn (dead+2)) (j:Nat) u9 u10 u11 u12 (.int .i64 K) (.bool d) (.int .i64 (x:Nat))++tl 129 g,h4 S 35 (.int .i64 q::L) X,[cmp false]) ⟨[],[],[]⟩) 16 129 (some (some 2)) (tkF (lP o n c) u1 u2 u3 u4 u5 obP (.slice (some ⟨3,0,none⟩) sn (dead+2)) (j:Nat) u9 u10 u11 u12 (.int .i64 K) (.bool d) (.int .i64 (x:Nat))) (h4 S 35 (.int .i64 q::L) X) [(decide (((x:Nat):Int)<((sn:Nat):Int)),false)]:=by and_intros<;>kernel_rfl
theorem tk_eoP (o n c j:Nat) (u1 u2 u3 u4 u5:Value) (k m:Int) (u9 u10 u11 u12 u13 u14 u15:Value) (S L X:List Value) (q:Int) (g:Nat→Value) (sn:Nat) (K:Int) (d:Bool) (x:Nat):GoesT (evC (tabH prog extY conTK hcTK) 300 false (kE f3) (tkF (lP o n c) u1 u2 u3 u4 u5 obP (.slice none 0 0) (j:Nat) u9 u10 u11 u12 (.int .i64 K) (.bool d) (.int .i64 (x:Nat))++tl 129 g,h4 S 26 (.int .i64 q::L) X,[cmp false]) ⟨[],[],[]⟩) 16 129 (some (some 2)) (tkF (lP o n c) u1 u2 u3 u4 u5 obP (.slice none 0 0) (j:Nat) u9 u10 u11 u12 (.int .i64 K) (.bool d) (.int .i64 (x:Nat))) (h4 S 26 (.int .i64 q::L) X) [(decide (((x:Nat):Int)<0),false)]:=by and_intros<;>kernel_rfl
theorem tk_et (o n c j:Nat) (u1 u2 u3 u4 u5:Value) (k m:Int) (u9 u10 u11 u12 u13 u14 u15:Value) (S L X:List Value) (q:Int) (g:Nat→Value) (sn:Nat) (K:Int) (x:Nat):GoesT (evC (tabH prog extY conTK hcTK) 300 false (kE f3) (tkF (lP o n c) u1 u2 u3 u4 u5 obP (.slice (some ⟨3,0,none⟩) sn (dead+2)) (j:Nat) u9 u10 u11 u12 (.int .i64 K) (.bool true) (.int .i64 (x:Nat))++tl 129 g,h4 S 35 (.int .i64 q::L) X,[cmp true]) ⟨[],[],[]⟩) 16 129 none (tkF (lP o n c) u1 u2 u3 u4 u5 obP (.slice (some ⟨3,0,none⟩) sn (dead+2)) (j:Nat) u9 u10 u11 u12 (.int .i64 K) (.bool true) (.int .i64 (i64.wrap ((x:Nat)+1)))) (h4 S 35 (.int .i64 q::L) X) [(decide (((x:Nat):Int)<((sn:Nat):Int)),true)]:=by and_intros<;>kernel_rfl
theorem tk_ef (o n c j:Nat) (u1 u2 u3 u4 u5:Value) (k m:Int) (u9 u10 u11 u12 u13 u14 u15:Value) (S L X:List Value) (q:Int) (g:Nat→Value) (sn:Nat) (K:Int) (x:Nat) (a b:Int):GoesT (evC (tabH prog extY conTK hcTK) 300 false (kE f3) (tkF (lP o n c) u1 u2 u3 u4 u5 obP (.slice (some ⟨3,0,none⟩) sn (dead+2)) (j:Nat) u9 u10 u11 u12 (.int .i64 K) (.bool false) (.int .i64 (x:Nat))++tl 129 g,h4 S 35 (.int .i64 q::L) X,[cmp true,at_,val (paV a b),at_,vI m]) ⟨[],[],[]⟩) 16 129 none (tkF (lP o n c) u1 u2 u3 u4 u5 obP (.slice (some ⟨3,0,none⟩) sn (dead+2)) (j:Nat) u9 u10 u11 u12 (.int .i64 K) (.bool (a==K && (b==m && true))) (.int .i64 (i64.wrap ((x:Nat)+1)))) (h4 S 35 (.int .i64 q::L) X) [(cellIs (X[o+(j*2+1)]?) (.int .i64 m),true),(decide (0≤((j:Nat):Int)∧((j:Nat):Int)<((n:Nat):Int)),true),(cellsIs ((S.drop (0+x*2)).take 2) [.int .i64 a,.int .i64 b],true),(decide (0≤((x:Nat):Int)∧((x:Nat):Int)<((sn:Nat):Int)),true),(decide (((x:Nat):Int)<((sn:Nat):Int)),true)]:=by and_intros<;>kernel_rfl
theorem tk_un (o n c j:Nat) (u1 u2 u3 u4 u5:Value) (k m:Int) (u9 u10 u11 u12 u13 u14 u15:Value) (S L X:List Value) (q:Int) (g:Nat→Value) (sn:Nat) (K:Int):GoesT (evC (tabH prog extY conTK hcTK) 300 false (kU f3) (tkF (lP o n c) u1 u2 u3 u4 u5 obP (.slice none 0 0) (j:Nat) u9 u10 u11 u12 (.int .i64 K) (.bool false) u15++tl 129 g,h4 S 26 (.int .i64 q::L) X,[at_,vI m]) ⟨[],[],[]⟩) 16 129 none (tkF (lP o n c) u1 u2 u3 u4 u5 obP (.slice (some ⟨5,0,none⟩) 1 (dead+2)) (j:Nat) u9 u10 u11 u12 (.int .i64 K) (.bool false) u15) (⟨6,[([.int .i64 K,.int .i64 m],35),([.int .i64 K,.int .i64 m],35),(S,26),(.int .i64 q::L,obT),(X,askR),(kV,kT)]⟩) [(cellIs (X[o+(j*2+1)]?) (.int .i64 m),true),(decide (0≤((j:Nat):Int)∧((j:Nat):Int)<((n:Nat):Int)),true)]:=by and_intros<;>kernel_rfl
theorem tk_uq (o n c j:Nat) (u1 u2 u3 u4 u5:Value) (k m:Int) (u9 u10 u11 u12 u13 u14 u15:Value) (S L X:List Value) (q:Int) (g:Nat→Value) (sn:Nat) (K:Int):GoesT (evC (tabH prog extY conTK hcTK) 300 false (kU f3) (tkF (lP o n c) u1 u2 u3 u4 u5 obP (.slice (some ⟨3,0,none⟩) sn (dead+2)) (j:Nat) u9 u10 u11 u12 (.int .i64 K) (.bool false) u15++tl 129 g,h4 S 35 (.int .i64 q::L) X,[at_,vI m,at_]) ⟨[],[],[]⟩) 16 129 none (tkF (lP o n c) u1 u2 u3 u4 u5 obP (.slice (some ⟨5,0,none⟩) (sn+1) (dead+2)) (j:Nat) u9 u10 u11 u12 (.int .i64 K) (.bool false) u15) (⟨6,[(S++[.int .i64 K,.int .i64 m],35),([.int .i64 K,.int .i64 m],35),([],2*dead),(.int .i64 q::L,obT),(X,askR),(kV,kT)]⟩) [(bndK sn 1 && true && Nat.beq (sn*2) S.length && !ro 35 && Nat.beq 35 35,true),(cellIs (X[o+(j*2+1)]?) (.int .i64 m),true),(decide (0≤((j:Nat):Int)∧((j:Nat):Int)<((n:Nat):Int)),true)]:=by and_intros<;>kernel_rfl
end Go.Proofs.YtdlpffgekmidnabDoor
namespace Go.Proofs.YtdlpffgekmidnabDoor
open Go.KRun Go.Wd
set_option maxRecDepth 100000
def seenC:List (Int×Int)→List Value
 | []=>[]
 | p::r=> .int .i64 p.1:: .int .i64 p.2::seenC r
def seenT:List (Int×Int)→List Value
 | []=>[]
 | p::r=>paV p.1 p.2::ptV (coI p.1 p.2) (siI p.1 p.2)::seenT r
theorem seenC_len:∀ s,(seenC s).length=s.length*2
 | []=>rfl
 | p::r=>by
  have:=seenC_len r;simp only[seenC,List.length_cons];omega
theorem seenT_len:∀ s,(seenT s).length=2*s.length
 | []=>rfl
 | p::r=>by
  have:=seenT_len r;simp only[seenT,List.length_cons];omega
theorem seenC_app:∀ s (a b:Int),seenC (s++[(a,b)])=seenC s++[.int .i64 a,.int .i64 b]
 | [],_,_=>rfl
 | p::r,a,b=>by simp only[List.cons_append,seenC,seenC_app r a b]
theorem seenT_app:∀ s (a b:Int),seenT (s++[(a,b)])=seenT s++[paV a b,ptV (coI a b) (siI a b)]
 | [],_,_=>rfl
 | p::r,a,b=>by simp only[List.cons_append,seenT,seenT_app r a b]
theorem seenC_still:∀ s,∀ v∈seenC s,still v=true
 | [],_,h=>by cases h
 | p::r,v,h=>by
  simp only[seenC,List.mem_cons] at h;rcases h with rfl | rfl | h
  ·rfl
  ·rfl
  ·exact seenC_still r v h
theorem seenT_low:∀ s,∀ v∈seenT s,lt1 0 v=true∧still v=true
 | [],_,h=>by cases h
 | p::r,v,h=>by
  simp only[seenT,List.mem_cons] at h;rcases h with rfl | rfl | h
  ·exact⟨rfl,rfl⟩
  ·exact⟨rfl,rfl⟩
  ·exact seenT_low r v h
theorem seenT_mp (s:List (Int×Int)):isMp (.int .i64 (s.length:Nat)::seenT s)=true:=by
 show (decide ((0:Int)≤(s.length:Nat)) && Nat.beq (seenT s).length (2*((s.length:Nat):Int).toNat) && (seenT s).all (lt1 0))=true;simp only[Xh,Xi,List.all_eq_true];refine⟨⟨by omega,?_⟩,fun v hv=>(seenT_low s v hv).1⟩;rw[Nat.beq_eq,seenT_len];simp
theorem eq_pair (k n a b:Int):(k==a && (n==b && true))=decide ((a,b)=(k,n)):=by
 rw[Bool.and_true];by_cases h:(a,b)=(k,n)
 ·cases h;simp
 ·rw[Xb h];cases e:(k==a && n==b) with
  | false=>rfl
  | true=>
   rw[Xh,beq_iff_eq,beq_iff_eq] at e;exact absurd (by rw[e.1,e.2]) h
theorem none_of {k n:Int}:∀ {s:List (Int×Int)},(k,n) ∉ s→noneT k n (seenT s)=true
 | [],_=>rfl
 | p::r,h=>by
  have h1:(k==p.1 && (n==p.2 && true))=false:=by
   rw[eq_pair];exact Xb fun e=>h (by rw[show p=(k,n) from e];exact Xe)
  show (!(k==p.1 && (n==p.2 && true)) && noneT k n (seenT r))=true;rw[h1,none_of fun c=>h (Xd _ c)];rfl
theorem valIs_pt (c s:Int):valIs (ptV c s) (ptV c s)=true:=by
 show (decide (IntKind.u64= .u64∧c=c) && (decide (IntKind.u64= .u64∧s=s) && true))=true;simp
theorem here_of {k n:Int}:∀ {s:List (Int×Int)},(k,n)∈s→hereT k n (ptV (coI k n) (siI k n)) (seenT s)=true
 | [],h=>by cases h
 | p::r,h=>by
  show (match (k==p.1 && (n==p.2 && true)) with | true=>valIs (ptV (coI p.1 p.2) (siI p.1 p.2)) (ptV (coI k n) (siI k n)) | false=>hereT k n (ptV (coI k n) (siI k n)) (seenT r))=true;by_cases c:p=(k,n)
  ·subst c;rw[eq_pair,Xa rfl];exact valIs_pt _ _
  ·rw[eq_pair,Xb fun e=>c e];exact here_of (by
    rcases List.mem_cons.1 h with e | e
    ·exact absurd e.symm c
    ·exact e)
theorem seenC_at:∀ (s:List (Int×Int)) (x:Nat) (h:x<s.length),cellsIs (((seenC s).drop (0+x*2)).take 2) [.int .i64 s[x].1,.int .i64 s[x].2]=true
 | [],_,h=>absurd h (Nat.not_lt_zero _)
 | p::r,0,_=>by
  show (decide (IntKind.i64= .i64∧p.1=p.1) && (decide (IntKind.i64= .i64∧p.2=p.2) && true))=true;simp
 | p::r,x+1,h=>by
  have:=seenC_at r x (by simpa using h);rw[show 0+(x+1)*2=(0+x*2)+2 by omega];exact this
theorem tmod_pos {k m:Int}(hm:0<m) (h:¬ k.tmod m<0):k.tmod m=k % m:=by
 have h1:=Int.emod_nonneg k (show m≠0 by omega);have h2:=Int.emod_lt_of_pos k hm;have h3:=Int.tmod_lt_of_pos k hm;have e1:=Int.mul_tdiv_add_tmod k m;have e2:=Int.mul_ediv_add_emod k m;have h4:m*(Int.tdiv k m-k/m)=k % m-k.tmod m:=by rw[Int.mul_sub];omega
 have h5:Int.tdiv k m-k/m=0:=by
  rcases Int.lt_trichotomy (Int.tdiv k m-k/m) 0 with c | c | c
  ·have:=Int.mul_le_mul_of_nonneg_left (show Int.tdiv k m-k/m≤ -1 by omega) (show 0≤m by omega);omega
  ·exact c
  ·have:=Int.mul_le_mul_of_nonneg_left (show 1≤Int.tdiv k m-k/m by omega) (show 0≤m by omega);omega
 rw[h5,Int.mul_zero] at h4;omega
theorem tmod_neg {k m:Int}(hm:0<m) (h:k.tmod m<0):k.tmod m+m=k % m:=by
 have h1:=Int.emod_nonneg k (show m≠0 by omega);have h2:=Int.emod_lt_of_pos k hm;have h3:=Int.tmod_lt_of_pos (-k) hm;rw[Int.neg_tmod] at h3;have e1:=Int.mul_tdiv_add_tmod k m;have e2:=Int.mul_ediv_add_emod k m;have h4:m*(Int.tdiv k m-k/m)=k % m-k.tmod m:=by rw[Int.mul_sub];omega
 have h5:Int.tdiv k m-k/m=1:=by
  rcases Int.lt_trichotomy (Int.tdiv k m-k/m) 1 with c | c | c
  ·have:=Int.mul_le_mul_of_nonneg_left (show Int.tdiv k m-k/m≤0 by omega) (show 0≤m by omega);omega
  ·exact c
  ·have:=Int.mul_le_mul_of_nonneg_left (show 2≤Int.tdiv k m-k/m by omega) (show 0≤m by omega);omega
 rw[h5,Int.mul_one] at h4;omega
theorem cell_k {X:List Value}{i:Nat}{k:Int}(h:X[i]? =some (.int .i64 k)):cellIs (X[i]?) (.int .i64 k)=true:=by
 rw[h];show decide (IntKind.i64= .i64∧k=k)=true;simp
end Go.Proofs.YtdlpffgekmidnabDoor
namespace Go.Proofs.YtdlpffgekmidnabDoor
open Go.Proofs.Tryd
open Go.IntKind
open Go.KRun Go.Wd
set_option maxRecDepth 100000
set_option linter.unusedVariables false
theorem tkT:TabOk (tabH prog extY conTK hcTK):=tabH_ok conTK_ok hcTK_ok
theorem kB_is:kB f3=seqs (kP f3) (.seq (kH f3) (kN f3)):=by kernel_rfl
theorem kH_is:kH f3= .seq (cFst (kH f3)) (.cond (.tmp 85) (kG f3) .skip):=by kernel_rfl
theorem kG_is:kG f3=seqs (kI f3) (.seq (kD f3) (kU f3)):=by kernel_rfl
theorem kD_is:kD f3= .seq (cFst (kD f3)) (.block 2 (.loop (kE f3))):=by kernel_rfl
theorem kA_is:kA f3= .seq (kQ f3) (.seq (.block 1 (kB f3)) (kR f3)):=by kernel_rfl
theorem goesB_runsW {T:Tab}(hT:TabOk T) {N:Nat}{c:Code}{t:List Value}{h h':Hp}{s s0:List Dec}{k n:Nat}{e:Ex}{front:List Value}{cs:Log}{b:Operand}{v:Bool}(hG:GoesT (evC T N false c (t,h,s) ⟨[],[],[]⟩) k n e front h' cs)
  (hb:(evC T N false c (t,h,s) ⟨[],[],[]⟩).map (fun r=>ev r.2.1.1 b)=some (.bool v)) (hcs:okLog cs):
  RunsW T c (t,h,s0) fun e' y=>e'=e∧(∃ g,y.1=front++tl n g)∧y.2.1=h'∧ev y.1 b= .bool v:=by
 obtain⟨g,s',L,hr,hL⟩:=goesT_some hG hcs;rw[hr] at hb;have hb2:ev (front++tl n g) b= .bool v:=Option.some.inj hb;refine (Runs.script ((Runs.ev hT hr hL).mono fun e2 y he=> ?_)).w;obtain⟨rfl,rfl⟩:=he;exact⟨rfl,⟨g,rfl⟩,rfl,hb2⟩
theorem still_rk {l:List Value}(h:∀ v∈l,still v=true) (f:Nat→Nat) {k:Nat}(hk:0<k):(l.all (lt1 k))=true∧l.map (rn1 f)=l:=by
 refine⟨List.all_eq_true.2 fun v hv=>still_lt hk (h v hv),?_⟩;refine (List.map_congr_left fun v hv=> ?_).trans (List.map_id' _);have:=h v hv;cases v with
 | pointer a=>cases a<;>simp_all [still,rn1]
 | slice a _ _=>cases a<;>simp_all [still,rn1]
 | map a=>cases a<;>simp_all [still,rn1]
 | _=>rfl
theorem kept_k {h:Hp}{b:Nat}{x:List Value×TypeId}(hs:∀ v∈x.1,still v=true) (hb:h.blk? b=some x) (f:Nat→Nat) {k:Nat}(hk:0<k):(x.1.all (lt1 k))=true∧h.blk? b=some (x.1.map (rn1 f),x.2):=by
 obtain⟨h1,h2⟩:=still_rk hs f hk;exact⟨h1,by rw[h2];exact hb⟩
theorem kV_still:∀ v∈kV,still v=true:=fun v hv=>by rw[List.mem_singleton.1 hv];rfl
theorem cons_still {q:Int}{L:List Value}(h:∀ v∈L,still v=true):∀ v∈Value.int .i64 q::L,still v=true:=fun v hv=>by
 rcases List.mem_cons.1 hv with rfl | hv
 ·rfl
 ·exact h v hv
def TkSeen (s:List (Int×Int)) (sv:Value) (h:Hp):Prop:=
 (s=[]∧sv= .slice none 0 0∧∃ S,h.blk? 3=some (S,26)∧∀ v∈S,still v=true)∨
 ∃ b,2<b∧sv= .slice (some ⟨b,0,none⟩) s.length (dead+2)∧h.blk? b=some (seenC s,35)
def TkAt (X:List Value) (o n c:Nat) (q:Int) (L:List Value) (s:List (Int×Int)) (j:Nat) (u12:Value) (y:Lf):Prop:=
 ∃ u1 u2 u3 u4 u5 u9 u10 u11 u13 u14 u15 sv g h sc,y=(tkF (lP o n c) u1 u2 u3 u4 u5 obP sv (j:Nat) u9 u10 u11 u12 u13 u14 u15++tl 129 g,h,sc)∧h.blk? 0=some (kV,kT)∧h.blk? 1=some (X,askR)∧h.blk? 2=some (.int .i64 q::L,obT)∧TkSeen s sv h
theorem nd_k {b:Nat}(h:2<b):[0,1,2,b].Nodup:=by
 simp only[List.nodup_cons,List.mem_cons,List.not_mem_nil,or_false,not_or,List.nodup_nil,and_true,not_false_eq_true];omega
theorem canon {T:Tab}{cd:Code}{P:Ex→Lf→Prop}{X:List Value}{o n c:Nat}{q:Int}{L:List Value}{s:List (Int×Int)}{j:Nat}{v12:Value}{y:Lf}(SX:∀ v∈X,still v=true) (SL:∀ v∈L,still v=true) (h:TkAt X o n c q L s j v12 y)
  (hP:s=[]→∀ u1 u2 u3 u4 u5 u9 u10 u11 u12 u13 u14 u15 S g,(∀ v∈S,still v=true)→RunsW T cd (tkF (lP o n c) u1 u2 u3 u4 u5 obP (.slice none 0 0) (j:Nat) u9 u10 u11 u12 u13 u14 u15++tl 129 g,h4 S 26 (.int .i64 q::L) X,[]) P)
  (hQ:∀ u1 u2 u3 u4 u5 u9 u10 u11 u12 u13 u14 u15 g,RunsW T cd (tkF (lP o n c) u1 u2 u3 u4 u5 obP (.slice (some ⟨3,0,none⟩) s.length (dead+2)) (j:Nat) u9 u10 u11 u12 u13 u14 u15++tl 129 g,h4 (seenC s) 35 (.int .i64 q::L) X,[]) P):RunsW T cd y P:=by
 obtain⟨u1,u2,u3,u4,u5,u9,u10,u11,u13,u14,u15,sv,g,h,sc,rfl,b0,b1,b2,hs⟩:=h;rcases hs with ⟨e0,rfl,S,b3,hS⟩ | ⟨b,hb,rfl,b3⟩
 ·refine RunsW.preP (s':=[]) [some (lP o n c),none,none,none,none,none,some obP,some (.slice none 0 0),some (.int .i64 (j:Nat)),none,none,none,none,none,none,none] [0,1,2,3] [(kV,kT),(X,askR),(.int .i64 q::L,obT),(S,26)] (fun jj g2=>hP e0 _ _ _ _ _ _ _ _ _ _ _ _ S g2 hS) rfl (Nat.succ_pos 3) ⟨rfl,rfl,rfl,rfl,trivial⟩ ?_ (nd_k (by omega)) (by rfl);intro qq hq;simp only[List.zip_cons_cons,List.zip_nil_right,List.mem_cons,List.not_mem_nil,or_false] at hq;rcases hq with rfl | rfl | rfl | rfl
  ·exact kept_k kV_still b0 _ (Nat.succ_pos 3)
  ·exact kept_k SX b1 _ (Nat.succ_pos 3)
  ·exact kept_k (cons_still SL) b2 _ (Nat.succ_pos 3)
  ·exact kept_k hS b3 _ (Nat.succ_pos 3)
 ·refine RunsW.preP (s':=[]) [some (lP o n c),none,none,none,none,none,some obP,some (.slice (some ⟨3,0,none⟩) s.length (dead+2)),some (.int .i64 (j:Nat)),none,none,none,none,none,none,none] [0,1,2,b] [(kV,kT),(X,askR),(.int .i64 q::L,obT),(seenC s,35)] (fun jj g2=>hQ _ _ _ _ _ _ _ _ _ _ _ _ g2) rfl (Nat.succ_pos 3) ⟨rfl,rfl,rfl,rfl,trivial⟩ ?_ (nd_k (by omega)) (by rfl);intro qq hq;simp only[List.zip_cons_cons,List.zip_nil_right,List.mem_cons,List.not_mem_nil,or_false] at hq;rcases hq with rfl | rfl | rfl | rfl
  ·exact kept_k kV_still b0 _ (Nat.succ_pos 3)
  ·exact kept_k SX b1 _ (Nat.succ_pos 3)
  ·exact kept_k (cons_still SL) b2 _ (Nat.succ_pos 3)
  ·exact kept_k (seenC_still s) b3 _ (Nat.succ_pos 3)
theorem canonN {T:Tab}{cd:Code}{P:Ex→Lf→Prop}{X:List Value}{o n c:Nat}{q:Int}{L:List Value}{s:List (Int×Int)}{j:Nat}{v12:Value}{y:Lf}(SX:∀ v∈X,still v=true) (SL:∀ v∈L,still v=true) (h:TkAt X o n c q L s j .nilIface y)
  (hP:s=[]→∀ u1 u2 u3 u4 u5 u9 u10 u11 u13 u14 u15 S g,(∀ v∈S,still v=true)→RunsW T cd (tkF (lP o n c) u1 u2 u3 u4 u5 obP (.slice none 0 0) (j:Nat) u9 u10 u11 .nilIface u13 u14 u15++tl 129 g,h4 S 26 (.int .i64 q::L) X,[]) P)
  (hQ:∀ u1 u2 u3 u4 u5 u9 u10 u11 u13 u14 u15 g,RunsW T cd (tkF (lP o n c) u1 u2 u3 u4 u5 obP (.slice (some ⟨3,0,none⟩) s.length (dead+2)) (j:Nat) u9 u10 u11 .nilIface u13 u14 u15++tl 129 g,h4 (seenC s) 35 (.int .i64 q::L) X,[]) P):RunsW T cd y P:=by
 obtain⟨u1,u2,u3,u4,u5,u9,u10,u11,u13,u14,u15,sv,g,h,sc,rfl,b0,b1,b2,hs⟩:=h;rcases hs with ⟨e0,rfl,S,b3,hS⟩ | ⟨b,hb,rfl,b3⟩
 ·refine RunsW.preP (s':=[]) [some (lP o n c),none,none,none,none,none,some obP,some (.slice none 0 0),some (.int .i64 (j:Nat)),none,none,none,some .nilIface,none,none,none] [0,1,2,3] [(kV,kT),(X,askR),(.int .i64 q::L,obT),(S,26)] (fun jj g2=>hP e0 _ _ _ _ _ _ _ _ _ _ _ S g2 hS) rfl (Nat.succ_pos 3) ⟨rfl,rfl,rfl,rfl,rfl,trivial⟩ ?_ (nd_k (by omega)) (by rfl);intro qq hq;simp only[List.zip_cons_cons,List.zip_nil_right,List.mem_cons,List.not_mem_nil,or_false] at hq;rcases hq with rfl | rfl | rfl | rfl
  ·exact kept_k kV_still b0 _ (Nat.succ_pos 3)
  ·exact kept_k SX b1 _ (Nat.succ_pos 3)
  ·exact kept_k (cons_still SL) b2 _ (Nat.succ_pos 3)
  ·exact kept_k hS b3 _ (Nat.succ_pos 3)
 ·refine RunsW.preP (s':=[]) [some (lP o n c),none,none,none,none,none,some obP,some (.slice (some ⟨3,0,none⟩) s.length (dead+2)),some (.int .i64 (j:Nat)),none,none,none,some .nilIface,none,none,none] [0,1,2,b] [(kV,kT),(X,askR),(.int .i64 q::L,obT),(seenC s,35)] (fun jj g2=>hQ _ _ _ _ _ _ _ _ _ _ _ g2) rfl (Nat.succ_pos 3) ⟨rfl,rfl,rfl,rfl,rfl,trivial⟩ ?_ (nd_k (by omega)) (by rfl);intro qq hq;simp only[List.zip_cons_cons,List.zip_nil_right,List.mem_cons,List.not_mem_nil,or_false] at hq;rcases hq with rfl | rfl | rfl | rfl
  ·exact kept_k kV_still b0 _ (Nat.succ_pos 3)
  ·exact kept_k SX b1 _ (Nat.succ_pos 3)
  ·exact kept_k (cons_still SL) b2 _ (Nat.succ_pos 3)
  ·exact kept_k (seenC_still s) b3 _ (Nat.succ_pos 3)
theorem tk_hP (o n c j:Nat) (u1 u2 u3 u4 u5:Value) (u9 u10 u11 u13 u14 u15:Value) (S L X:List Value) (q:Int) (g:Nat→Value) (sn:Nat):GoesT (evC (tabH prog extY conTK hcTK) 300 false (cFst (kH f3)) (tkF (lP o n c) u1 u2 u3 u4 u5 obP (.slice none 0 0) (j:Nat) u9 u10 u11 .nilIface u13 u14 u15++tl 129 g,h4 S 26 (.int .i64 q::L) X,[]) ⟨[],[],[]⟩) 16 129 none (tkF (lP o n c) u1 u2 u3 u4 u5 obP (.slice none 0 0) (j:Nat) u9 u10 u11 .nilIface u13 u14 u15) (h4 S 26 (.int .i64 q::L) X) []:=by and_intros<;>kernel_rfl
theorem tk_hbP (o n c j:Nat) (u1 u2 u3 u4 u5:Value) (u9 u10 u11 u13 u14 u15:Value) (S L X:List Value) (q:Int) (g:Nat→Value) (sn:Nat):(evC (tabH prog extY conTK hcTK) 300 false (cFst (kH f3)) (tkF (lP o n c) u1 u2 u3 u4 u5 obP (.slice none 0 0) (j:Nat) u9 u10 u11 .nilIface u13 u14 u15++tl 129 g,h4 S 26 (.int .i64 q::L) X,[]) ⟨[],[],[]⟩).map (fun r=>ev r.2.1.1 (.tmp 85))=some (.bool true):=by kernel_rfl
theorem tk_hQ (o n c j:Nat) (u1 u2 u3 u4 u5:Value) (u9 u10 u11 u13 u14 u15:Value) (S L X:List Value) (q:Int) (g:Nat→Value) (sn:Nat):GoesT (evC (tabH prog extY conTK hcTK) 300 false (cFst (kH f3)) (tkF (lP o n c) u1 u2 u3 u4 u5 obP (.slice (some ⟨3,0,none⟩) sn (dead+2)) (j:Nat) u9 u10 u11 .nilIface u13 u14 u15++tl 129 g,h4 S 35 (.int .i64 q::L) X,[]) ⟨[],[],[]⟩) 16 129 none (tkF (lP o n c) u1 u2 u3 u4 u5 obP (.slice (some ⟨3,0,none⟩) sn (dead+2)) (j:Nat) u9 u10 u11 .nilIface u13 u14 u15) (h4 S 35 (.int .i64 q::L) X) []:=by and_intros<;>kernel_rfl
theorem tk_hbQ (o n c j:Nat) (u1 u2 u3 u4 u5:Value) (u9 u10 u11 u13 u14 u15:Value) (S L X:List Value) (q:Int) (g:Nat→Value) (sn:Nat):(evC (tabH prog extY conTK hcTK) 300 false (cFst (kH f3)) (tkF (lP o n c) u1 u2 u3 u4 u5 obP (.slice (some ⟨3,0,none⟩) sn (dead+2)) (j:Nat) u9 u10 u11 .nilIface u13 u14 u15++tl 129 g,h4 S 35 (.int .i64 q::L) X,[]) ⟨[],[],[]⟩).map (fun r=>ev r.2.1.1 (.tmp 85))=some (.bool true):=by kernel_rfl
section
variable {X : List Value} {o n c : Nat} {k m : Int} {j : Nat} (hj : j < n) (hk : X[o + j * 2]? = some (.int .i64 k)) (hm : X[o + (j * 2 + 1)]? = some (.int .i64 m))
theorem in_j (hj:j<n):decide (0≤((j:Nat):Int)∧((j:Nat):Int)<((n:Nat):Int))=true:=Xa (by omega)
def KFq (X:List Value) (o n c j:Nat) (u1 u2 u3 u4 u5 u9 u10 u11 u12:Value) (q:Int) (L:List Value) (s:List (Int×Int)) (K:Int) (d:Bool) (x:Nat) (y:Lf):Prop:=
 ∃ g,y.1=tkF (lP o n c) u1 u2 u3 u4 u5 obP (.slice (some ⟨3,0,none⟩) s.length (dead+2)) (j:Nat) u9 u10 u11 u12 (.int .i64 K) (.bool d) (.int .i64 (x:Nat))++tl 129 g∧y.2.1=h4 (seenC s) 35 (.int .i64 q::L) X
include hj hm in
theorem inner {u1 u2 u3 u4 u5 u9 u10 u11 u12:Value}{q:Int}{L:List Value}{s:List (Int×Int)}(hs:s.length≤100) {K:Int}{y:Lf}(h:KFq X o n c j u1 u2 u3 u4 u5 u9 u10 u11 u12 q L s K false 0 y):
  RunsW (tabH prog extY conTK hcTK) (.block 2 (.loop (kE f3))) y fun ex z=>ex=none∧KFq X o n c j u1 u2 u3 u4 u5 u9 u10 u11 u12 q L s K (decide ((K,m)∈s)) s.length z:=by
 refine (RunsW.forLoop (R:=fun _=>False) (P:=KFq X o n c j u1 u2 u3 u4 u5 u9 u10 u11 u12 q L s K (decide ((K,m)∈s)) s.length) (fun r y=>∃ x,r=s.length-x∧x≤s.length∧KFq X o n c j u1 u2 u3 u4 u5 u9 u10 u11 u12 q L s K (decide ((K,m)∈s.take x)) x y) ?_ (n:=s.length-0) ⟨0,rfl,Nat.zero_le _,by simpa using h⟩).mono fun ex z hz=> ?_
 ·rintro r ⟨tt,hh,sc⟩ ⟨x,rfl,hx,g,e1,e2⟩;simp only at e1 e2;subst e1 e2;by_cases c1:x<s.length
  ·have hw:i64.wrap (((x:Nat):Int)+1)=((x+1:Nat):Int):=by
    rw[show i64.wrap (((x:Nat):Int)+1)=((x:Nat):Int)+1 from Go.Wd.wrap_i64' (by omega) (by omega)];omega
   have tk:s.take (x+1)=s.take x++[s[x]]:=(List.take_append_getElem c1).symm;cases d:decide ((K,m)∈s.take x) with
   | true=>
    refine (goesT_runsW (s0:=sc) tkT (tk_et o n c j u1 u2 u3 u4 u5 0 m u9 u10 u11 u12 undef undef undef (seenC s) L X q g s.length K x) (okP1 (Xa (by omega)))).mono fun ex z hz=> ?_;obtain⟨rfl,⟨g2,z1⟩,z2⟩:=hz;refine⟨s.length-(x+1),by omega,x+1,rfl,c1,g2,?_,z2⟩;rw[z1,hw,show decide ((K,m)∈s.take (x+1))=true from Xa (by rw[tk];exact List.mem_append_left _ (Xc d))]
   | false=>
    refine (goesT_runsW (s0:=sc) tkT (tk_ef o n c j u1 u2 u3 u4 u5 0 m u9 u10 u11 u12 undef undef undef (seenC s) L X q g s.length K x s[x].1 s[x].2) (okPC (cell_k hm) (okPC (in_j hj) (okPC (seenC_at s x c1) (okPC (in_j c1) (okP1 (Xa (by omega)))))))).mono fun ex z hz=> ?_;obtain⟨rfl,⟨g2,z1⟩,z2⟩:=hz;refine⟨s.length-(x+1),by omega,x+1,rfl,c1,g2,?_,z2⟩;have hd:decide ((K,m)∈s.take (x+1))=(s[x].1==K && (s[x].2==m && true)):=by
     rw[eq_pair];have hn:=of_decide_eq_false d;refine decide_eq_decide.2 ?_;rw[tk,List.mem_append,List.mem_singleton];exact⟨fun e=>e.resolve_left hn,fun e=> .inr e⟩
    rw[z1,hw,hd]
  ·have hx2:x=s.length:=by omega
   subst hx2;refine (goesT_runsW (s0:=sc) tkT (tk_eo o n c j u1 u2 u3 u4 u5 0 m u9 u10 u11 u12 undef undef undef (seenC s) L X q g s.length K _ s.length) (okP1 (Xb (by omega)))).mono fun ex z hz=> ?_;obtain⟨rfl,⟨g2,z1⟩,z2⟩:=hz;refine⟨rfl,g2,?_,z2⟩;rw[z1,List.take_length]
 ·match ex,hz with
  | none,hz=>exact⟨rfl,hz⟩
end
theorem tkAt_mk {X:List Value}{o n c:Nat}{q:Int}{L:List Value}{s:List (Int×Int)}{j:Nat}{u12:Value}{u1 u2 u3 u4 u5 u9 u10 u11 u13 u14 u15 sv:Value}{g:Nat→Value}{z:Lf}(h1:z.1=tkF (lP o n c) u1 u2 u3 u4 u5 obP sv (j:Nat) u9 u10 u11 u12 u13 u14 u15++tl 129 g) (b0:z.2.1.blk? 0=some (kV,kT)) (b1:z.2.1.blk? 1=some (X,askR)) (b2:z.2.1.blk? 2=some (.int .i64 q::L,obT)) (hs:TkSeen s sv z.2.1):TkAt X o n c q L s j u12 z:=
 ⟨u1,u2,u3,u4,u5,u9,u10,u11,u13,u14,u15,sv,g,z.2.1,z.2.2,by rw[← h1],b0,b1,b2,hs⟩
def grow (s:List (Int×Int)) (K m:Int):List (Int×Int):=if (K,m)∈s then s else s++[(K,m)]
section
variable {X : List Value} {o n c : Nat} {k m : Int} {j : Nat} (hj : j < n) (hk : X[o + j * 2]? = some (.int .i64 k)) (hm : X[o + (j * 2 + 1)]? = some (.int .i64 m)) (SX : ∀ v ∈ X, still v = true)
theorem bad_bd {m:Int}(h:¬ badP m):1≤m∧m≤67108864:=by unfold badP at h;omega
include hj hk hm SX in
theorem goodH (hg:¬ badP m) {q:Int}{L:List Value}{s:List (Int×Int)}(hs:s.length≤100) (SL:∀ v∈L,still v=true) {y:Lf}(h:TkAt X o n c q L s j .nilIface y):
  RunsW (tabH prog extY conTK hcTK) (kH f3) y fun ex z=>ex=none∧∃ u12,TkAt X o n c q L (grow s (k % m) m) j u12 z:=by
 have mb:=bad_bd hg;have m0:decide (m=0)=false:=Xb (by omega);have hw:k.tmod m<0→i64.wrap (k.tmod m+m)=k % m:=fun hn=>by
  have e:=tmod_neg (k:=k) (m:=m) (by omega) hn;have:=Int.emod_nonneg k (show m≠0 by omega);have:=Int.emod_lt_of_pos k (show 0<m by omega);rw[e];exact Go.Wd.wrap_i64' (by omega) (by omega)
 rw[kH_is];refine canonN (v12:=undef) SX SL h (fun hs0 u1 u2 u3 u4 u5 u9 u10 u11 u13 u14 u15 S g hS=> ?_) (fun u1 u2 u3 u4 u5 u9 u10 u11 u13 u14 u15 g=> ?_)
 ·subst hs0;have gr:grow [] (k % m) m=[(k % m,m)]:=rfl;refine RunsW.seq (goesB_runsW tkT (tk_hP o n c j u1 u2 u3 u4 u5 u9 u10 u11 u13 u14 u15 S L X q g 0) (tk_hbP o n c j u1 u2 u3 u4 u5 u9 u10 u11 u13 u14 u15 S L X q g 0) okNil) ?_ (fun ex y he=>by cases he.1);rintro⟨tt,hh,sc⟩ ⟨_,⟨g1,e1⟩,e2,hb⟩;simp only at e1 e2 hb;subst e1 e2;refine RunsW.cond true rfl hb ?_;show RunsW (tabH prog extY conTK hcTK) (kG f3) _ _;rw[kG_is];have mid:∀ g2 sc,RunsW (tabH prog extY conTK hcTK) (.seq (kD f3) (kU f3)) (tkF (lP o n c) u1 u2 u3 u4 u5 obP (.slice none 0 0) (j:Nat) u9 u10 u11 .nilIface (.int .i64 (k % m)) (.bool false) u15++tl 129 g2,h4 S 26 (.int .i64 q::L) X,sc) fun ex z=>ex=none∧∃ u12,TkAt X o n c q L (grow [] (k % m) m) j u12 z:=by
   intro g2 sc;rw[kD_is];refine RunsW.seq (P1:=fun ex y=>ex=none∧(∃ g,y.1=tkF (lP o n c) u1 u2 u3 u4 u5 obP (.slice none 0 0) (j:Nat) u9 u10 u11 .nilIface (.int .i64 (k % m)) (.bool false) (.int .i64 ((0:Nat):Int))++tl 129 g)∧y.2.1=h4 S 26 (.int .i64 q::L) X) ?_ ?_ (fun ex y he=>by cases he.1)
   ·refine RunsW.seq (goesT_runsW (s0:=sc) tkT (tk_dP o n c j u1 u2 u3 u4 u5 k m u9 u10 u11 .nilIface _ _ u15 S L X q g2 0) okNil) ?_ (fun ex y he=>by cases he.1);rintro⟨tt,hh,sc⟩ ⟨_,⟨g3,e1⟩,e2⟩;simp only at e1 e2;subst e1 e2;refine (RunsW.forLoop (R:=fun _=>False) (P:=fun y=>(∃ g,y.1=tkF (lP o n c) u1 u2 u3 u4 u5 obP (.slice none 0 0) (j:Nat) u9 u10 u11 .nilIface (.int .i64 (k % m)) (.bool false) (.int .i64 ((0:Nat):Int))++tl 129 g)∧y.2.1=h4 S 26 (.int .i64 q::L) X) (fun r y=>(∃ g,y.1=tkF (lP o n c) u1 u2 u3 u4 u5 obP (.slice none 0 0) (j:Nat) u9 u10 u11 .nilIface (.int .i64 (k % m)) (.bool false) (.int .i64 ((0:Nat):Int))++tl 129 g)∧y.2.1=h4 S 26 (.int .i64 q::L) X) ?_ (n:=0) ⟨⟨g3,rfl⟩,rfl⟩).mono fun ex z hz=> ?_
    ·rintro r ⟨tt,hh,sc⟩ ⟨⟨g4,e1⟩,e2⟩;simp only at e1 e2;subst e1 e2;refine (goesT_runsW (s0:=sc) tkT (tk_eoP o n c j u1 u2 u3 u4 u5 k m u9 u10 u11 .nilIface undef undef undef S L X q g4 0 (k % m) false 0) (okP1 (by decide))).mono fun ex z hz=> ?_;obtain⟨rfl,z1,z2⟩:=hz;exact⟨rfl,z1,z2⟩
    ·match ex,hz with
     | none,hz=>exact⟨rfl,hz⟩
   ·rintro⟨tt,hh,sc⟩ ⟨_,⟨g3,e1⟩,e2⟩;simp only at e1 e2;subst e1 e2;refine (goesT_runsW (s0:=sc) tkT (tk_un o n c j u1 u2 u3 u4 u5 k m u9 u10 u11 .nilIface undef undef (.int .i64 ((0:Nat):Int)) S L X q g3 0 (k % m)) (okPC (cell_k hm) (okP1 (in_j hj)))).mono fun ex z hz=> ?_;obtain⟨rfl,⟨g4,z1⟩,z2⟩:=hz;refine⟨rfl,.nilIface,tkAt_mk z1 (by rw[z2];rfl) (by rw[z2];rfl) (by rw[z2];rfl) (.inr ⟨5,by omega,rfl,by rw[z2,gr];rfl⟩)⟩
  by_cases hneg:k.tmod m<0
  ·refine goesT_listW tkT (tk_i1P o n c j u1 u2 u3 u4 u5 k m u9 u10 u11 .nilIface u13 u14 u15 S L X q g1 0) (okPC (cell_k hm) (okPC (in_j hj) (okPC (Xa hneg) (okPC m0 (okPC (cell_k hm) (okPC (in_j hj) (okPC (cell_k hk) (okP1 (in_j hj))))))))) fun g2=> ?_;rw[hw hneg];exact mid g2 _
  ·refine goesT_listW tkT (tk_i0P o n c j u1 u2 u3 u4 u5 k m u9 u10 u11 .nilIface u13 u14 u15 S L X q g1 0) (okPC (Xb hneg) (okPC m0 (okPC (cell_k hm) (okPC (in_j hj) (okPC (cell_k hk) (okP1 (in_j hj))))))) fun g2=> ?_;rw[tmod_pos (k:=k) (m:=m) (by omega) hneg];exact mid g2 _
 ·refine RunsW.seq (goesB_runsW tkT (tk_hQ o n c j u1 u2 u3 u4 u5 u9 u10 u11 u13 u14 u15 (seenC s) L X q g s.length) (tk_hbQ o n c j u1 u2 u3 u4 u5 u9 u10 u11 u13 u14 u15 (seenC s) L X q g s.length) okNil) ?_ (fun ex y he=>by cases he.1);rintro⟨tt,hh,sc⟩ ⟨_,⟨g1,e1⟩,e2,hb⟩;simp only at e1 e2 hb;subst e1 e2;refine RunsW.cond true rfl hb ?_;show RunsW (tabH prog extY conTK hcTK) (kG f3) _ _;rw[kG_is];have mid:∀ g2 sc,RunsW (tabH prog extY conTK hcTK) (.seq (kD f3) (kU f3)) (tkF (lP o n c) u1 u2 u3 u4 u5 obP (.slice (some ⟨3,0,none⟩) s.length (dead+2)) (j:Nat) u9 u10 u11 .nilIface (.int .i64 (k % m)) (.bool false) u15++tl 129 g2,h4 (seenC s) 35 (.int .i64 q::L) X,sc) fun ex z=>ex=none∧∃ u12,TkAt X o n c q L (grow s (k % m) m) j u12 z:=by
   intro g2 sc;rw[kD_is];refine RunsW.seq (P1:=fun ex y=>ex=none∧KFq X o n c j u1 u2 u3 u4 u5 u9 u10 u11 .nilIface q L s (k % m) (decide ((k % m,m)∈s)) s.length y) ?_ ?_ (fun ex y he=>by cases he.1)
   ·refine RunsW.seq (goesT_runsW (s0:=sc) tkT (tk_dQ o n c j u1 u2 u3 u4 u5 k m u9 u10 u11 .nilIface _ _ u15 (seenC s) L X q g2 s.length) okNil) ?_ (fun ex y he=>by cases he.1);rintro⟨tt,hh,sc⟩ ⟨_,⟨g3,e1⟩,e2⟩;simp only at e1 e2;subst e1 e2;exact inner hj hm hs ⟨g3,rfl,rfl⟩
   ·rintro⟨tt,hh,sc⟩ ⟨_,g3,e1,e2⟩;simp only at e1 e2;subst e1 e2;by_cases hin:(k % m,m)∈s
    ·rw[Xa hin];refine (goesT_runsW (s0:=sc) tkT (tk_utQ o n c j u1 u2 u3 u4 u5 k m u9 u10 u11 .nilIface _ undef _ (seenC s) L X q g3 s.length) okNil).mono fun ex z hz=> ?_;obtain⟨rfl,⟨g4,z1⟩,z2⟩:=hz;refine⟨rfl,.nilIface,tkAt_mk z1 (by rw[z2];rfl) (by rw[z2];rfl) (by rw[z2];rfl) (.inr ⟨3,by omega,?_,?_⟩)⟩
     ·rw[show grow s (k % m) m=s from if_pos hin]
     ·rw[z2,show grow s (k % m) m=s from if_pos hin];rfl
    ·rw[Xb hin];have hb2:(bndK s.length 1 && true && Nat.beq (s.length*2) (seenC s).length && !ro 35 && Nat.beq 35 35)=true:=by
      rw[seenC_len,show Nat.beq (s.length*2) (s.length*2)=true from Nat.beq_refl _,show bndK s.length 1=true from by
       unfold bndK;rw[Nat.ble_eq_true_of_le (show s.length+1≤1073741824 by omega)];rfl]
      rfl
     refine (goesT_runsW (s0:=sc) tkT (tk_uq o n c j u1 u2 u3 u4 u5 k m u9 u10 u11 .nilIface undef undef _ (seenC s) L X q g3 s.length (k % m)) (okPC hb2 (okPC (cell_k hm) (okP1 (in_j hj))))).mono fun ex z hz=> ?_;obtain⟨rfl,⟨g4,z1⟩,z2⟩:=hz;refine⟨rfl,.nilIface,tkAt_mk z1 (by rw[z2];rfl) (by rw[z2];rfl) (by rw[z2];rfl) (.inr ⟨5,by omega,?_,?_⟩)⟩
     ·rw[show grow s (k % m) m=s++[(k % m,m)] from if_neg hin,List.length_append];rfl
     ·rw[z2,show grow s (k % m) m=s++[(k % m,m)] from if_neg hin,seenC_app];rfl
  by_cases hneg:k.tmod m<0
  ·refine goesT_listW tkT (tk_i1Q o n c j u1 u2 u3 u4 u5 k m u9 u10 u11 .nilIface u13 u14 u15 (seenC s) L X q g1 s.length) (okPC (cell_k hm) (okPC (in_j hj) (okPC (Xa hneg) (okPC m0 (okPC (cell_k hm) (okPC (in_j hj) (okPC (cell_k hk) (okP1 (in_j hj))))))))) fun g2=> ?_;rw[hw hneg];exact mid g2 _
  ·refine goesT_listW tkT (tk_i0Q o n c j u1 u2 u3 u4 u5 k m u9 u10 u11 .nilIface u13 u14 u15 (seenC s) L X q g1 s.length) (okPC (Xb hneg) (okPC m0 (okPC (cell_k hm) (okPC (in_j hj) (okPC (cell_k hk) (okP1 (in_j hj))))))) fun g2=> ?_;rw[tmod_pos (k:=k) (m:=m) (by omega) hneg];exact mid g2 _
end
end Go.Proofs.YtdlpffgekmidnabDoor
namespace Go.KRun
open Go.RowKit
def reckonAt (T:Tab) (h0:Hp) (n:Nat) (f:Nat) (vals:List Value) (s:List Dec):Option (Value×Hp×List Dec×Lg):=callBy T (evC T n false) f vals h0 s ⟨[],[],[]⟩
theorem fitsAt_calls {T:Tab}(hT:TabOk T) {h0:Hp}{n f:Nat}{vals:List Value}{s:List Dec}{v:Value}{cs:Log}(hF:Fits (reckonAt T h0 n f vals s) v cs) (hcs:okLog cs) (hvals:(vals.all (lt h0.n))=true) (hv:lt 0 v=true) {m:Mp}{w:World}(E:Emb m w.heap.size h0 w):
  Calls T.P f (vals.map (mv m)).toArray w fun e w'=>e= .returned v∧Tidy w w':=by
 obtain⟨h1,h2,h3,h4⟩:=hF;cases hr:reckonAt T h0 n f vals s with
 | none=>rw[hr] at h1;cases h1
 | some r=>
  rw[hr] at h1 h2 h3 h4;simp only[Option.map_some,Option.some.injEq] at h1 h2 h3 h4;obtain⟨v',h',s',L⟩:=r;simp only at h1 h2 h3 h4;subst h1;obtain⟨_,_,h5⟩:=callBy_ok hT (evC_ok hT n).1 _ _ _ _ _ _ _ _ _ hr ⟨by rw[h2];exact hcs,all_eq _ h3,all_eq _ h4⟩;refine (h5 _ _ w E (List.all_eq_true.1 hvals)).mono fun en w' he=> ?_;obtain⟨m',rfl,C⟩:=he;exact⟨by rw[mv_still hv],C.below,fun k h1 h2=>C.emb.ice k h1 h2⟩
theorem fitsAt_still {T:Tab}(hT:TabOk T) {h0:Hp}{n f:Nat}{vals:List Value}{s:List Dec}{v:Value}{cs:Log}(hF:Fits (reckonAt T h0 n f vals s) v cs) (hcs:okLog cs) (hvals:(vals.all (lt 0))=true) (hv:lt 0 v=true) {m:Mp}{w:World}(E:Emb m w.heap.size h0 w):
  Calls T.P f vals.toArray w fun e w'=>e= .returned v∧Tidy w w':=by
 have hst:∀ y∈vals,lt 0 y=true:=List.all_eq_true.1 hvals;have e:vals.map (mv m)=vals:=(List.map_congr_left fun y hy=>mv_still (hst y hy)).trans (List.map_id' _);have:=fitsAt_calls hT hF hcs (List.all_eq_true.2 fun y hy=>lt_mono (Nat.zero_le _) (hst y hy)) hv E;rw[e] at this;exact this
end Go.KRun
