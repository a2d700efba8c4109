/-
  Tab, Hcs, Okl, RunX, RunY, RunZ, TxU, TxA, NumN, ConN1, ConN2, ConN3, UuV, ConN4, UuR, NumO, ConN5, UuW, ConN7, ConN8
-/
import Derived.Test.YtjlponbdflkbjaaGreatDoorG04
import Derived.Test.YtjlponbdflkbjaaGreatDoorProg
namespace Go.Proofs.YtjlponbdflkbjaaGreatDoor
open Go.Proofs.Tryz
open Go.KRun
theorem Z4H:(prog.funcs.toList.all fun F=> !(F.name== "runtime.NumGoroutine"))=true:=by kernel_rfl
theorem ZbA (f:Nat) (F:Func) (h:prog.funcs[f]? =some F):prog.funcs[f]? =some F∧(F.name== "runtime.NumGoroutine")=false:=
 ⟨h,by simpa using List.all_eq_true.1 Z4H F (by simpa using Array.mem_of_getElem? h)⟩
def Zf:Nat→List Value→Option (Value×Log):=fun f vals=>if f=108 then Z4h vals else none
theorem ZtW {vals:List Value}{v:Value}{lg:Log}(h:Z4h vals=some (v,lg)) (hl:Z3 lg) (w:World):(callFunc 108 vals.toArray).run prog w= .ok (.value v) w:=
 Zpc func108 (by kernel_rfl) (by kernel_rfl) (by kernel_rfl) (by kernel_rfl) h hl w
theorem ZkV (f:Nat) (vals:List Value) (v:Value) (lg:Log) (h:Zf f vals=some (v,lg)) (hl:Z3 lg) (w:World):(callFunc f vals.toArray).run prog w= .ok (.value v) w:=by
 unfold Zf at h;split at h
 ·rename_i hf;subst hf;exact ZtW h hl w
 ·cases h
abbrev Con:=Nat→List Value→List Dec→Option (Value×List Dec×Log)
structure ConOk (con:Con):Prop where
 fn:∀ f vals s v s' lg,con f vals s=some (v,s',lg)→∃ F,prog.funcs[f]? =some F∧F.body.isSome=true
 calls:∀ f vals s v s' lg,con f vals s=some (v,s',lg)→Z3 lg→∀ w,Calls prog f vals.toArray w fun e w'=>e= .returned v∧Zal w w'
def Zn:Con:=fun _ _ _=>none
theorem Zd:ConOk Zn where
 fn:=fun _ _ _ _ _ _ h=>by simp [Zn] at h
 calls:=fun _ _ _ _ _ _ h=>by simp [Zn] at h
def Zk (P:Program) (ext:Nat→List Value→Option (Value×Log)) (con:Con) (sym:Bool):Tab:={P:=P,fn:=fun f=>P.funcs[f]?,ext:=ext,con:=con,sym:=sym}
theorem mixed:prog.follows .mixedOrders=true:=by kernel_rfl
theorem Zj {con:Con}(h:ConOk con):TabOk (Zk prog Zf con true) where
 mixed:=mixed
 ext:=ZkV
 con:=fun f vals s v s' lg hc hl=>⟨by obtain⟨F,h1,h2⟩:=h.fn f vals s v s' lg hc;exact⟨F,(ZbA f F h1).1,(ZbA f F h1).2,h2⟩,h.calls f vals s v s' lg hc hl⟩
 fn:=ZbA
 hc:=fun _ _ _ _ _ _ _ _ h=>by cases h
abbrev Ans:=List Value→List Dec→Option (Value×List Dec×Log)
def ZR (f:Nat) (g:Ans):Prop:=∀ vals s v s' lg,g vals s=some (v,s',lg)→Z3 lg→∀ w,Calls prog f vals.toArray w fun e w'=>e= .returned v∧Zal w w'
def alt (f:Nat) (g:Ans) (rest:Con):Con:=fun f' vals s=>if f'=f then g vals s else rest f' vals s
theorem Z9 {f:Nat}{g:Ans}{rest:Con}{F:Func}(hf:prog.funcs[f]? =some F) (hb:F.body.isSome=true) (hg:ZR f g) (hr:ConOk rest):ConOk (alt f g rest) where
 fn:=fun f' vals s v s' lg h=>by
  unfold alt at h;split at h
  ·rename_i he;subst he;exact⟨F,hf,hb⟩
  ·exact hr.fn _ _ _ _ _ _ h
 calls:=fun f' vals s v s' lg h hl w=>by
  unfold alt at h;split at h
  ·rename_i he;subst he;exact hg _ _ _ _ _ h hl w
  ·exact hr.calls _ _ _ _ _ _ h hl w
end Go.Proofs.YtjlponbdflkbjaaGreatDoor
namespace Go.Proofs.YtjlponbdflkbjaaGreatDoor
open Go.Proofs.Tryz
open Go.IntKind
open Go.KRun
set_option maxRecDepth 100000
theorem Zt {p:Bool×Bool}(h:p.1=p.2):Z3 [p]:=fun x hx=>by rw[List.mem_singleton.1 hx];exact h
theorem Zi {p:Bool×Bool}{l:Log}(h:p.1=p.2) (hl:Z3 l):Z3 (p::l):=fun x hx=>by
 rcases List.mem_cons.1 hx with rfl | hx
 ·exact h
 ·exact hl x hx
theorem Zw {n:Int}(h0: -9223372036854775808≤n) (h1:n≤9223372036854775807):i64.wrap n=n:=by
 simp [IntKind.wrap,IntKind.bits,IntKind.signed];omega
abbrev Hc:=Nat→List Value→Hp→List Dec→Option (Value×Hp×List Dec×Log)
abbrev Zad:=List Value→Hp→List Dec→Option (Value×Hp×List Dec×Log)
def Z8 (f:Nat) (g:Zad):Prop:=∀ vals h s v h' s' lg,g vals h s=some (v,h',s',lg)→Z3 lg→∀ m B w,Emb m B h w→(∀ v∈vals,lt h.n v=true)→Calls prog f (vals.map (mv m)).toArray w fun e w'=>∃ m',e= .returned (mv m' v)∧Came m B h w v h' m' w'
structure HcOk (hc:Hc):Prop where
 fn:∀ f vals h s r,hc f vals h s=some r→∃ F,prog.funcs[f]? =some F∧F.body.isSome=true
 calls:∀ f,Z8 f (hc f)
def hcN:Hc:=fun _ _ _ _=>none
theorem Zam:HcOk hcN:=⟨fun _ _ _ _ _ h=>(by cases h),fun _ _ _ _ _ _ _ _ h=>(by cases h)⟩
def zS (f:Nat) (g:Zad) (hc:Hc):Hc:=fun f' vals h s=>if Nat.beq f' f=true then g vals h s else hc f' vals h s
theorem Z1 {f:Nat}{F:Func}(hF:prog.funcs[f]? =some F) (hb:F.body.isSome=true) {g:Zad}(hg:Z8 f g) {hc:Hc}(h:HcOk hc):HcOk (zS f g hc) where
 fn:=fun f' vals h' s r hr=>by
  unfold zS at hr;split at hr
  ·rename_i e;rw[Xj e];exact⟨F,hF,hb⟩
  ·exact h.fn _ _ _ _ _ hr
 calls:=fun f' vals h' s v h'' s' lg hr=>by
  unfold zS at hr;split at hr
  ·rename_i e;rw[Xj e];exact hg _ _ _ _ _ _ _ hr
  ·exact h.calls f' _ _ _ _ _ _ _ hr
def Zr (P:Program) (ext:Nat→List Value→Option (Value×Log)) (con:Con) (hc:Hc):Tab:={P:=P,fn:=fun f=>P.funcs[f]?,ext:=ext,con:=con,sym:=true,hc:=hc}
theorem Zh {con:Con}(h:ConOk con) {hc:Hc}(hh:HcOk hc):TabOk (Zr prog Zf con hc) where
 mixed:=mixed
 ext:=ZkV
 con:=fun f vals s v s' lg hc hl=>⟨by obtain⟨F,h1,h2⟩:=h.fn f vals s v s' lg hc;exact⟨F,(ZbA f F h1).1,(ZbA f F h1).2,h2⟩,h.calls f vals s v s' lg hc hl⟩
 fn:=ZbA
 hc:=fun f vals h0 s v h' s' lg hr hl=>⟨by obtain⟨F,h1,h2⟩:=hh.fn f vals h0 s _ hr;exact⟨F,(ZbA f F h1).1,(ZbA f F h1).2,h2⟩,hh.calls f vals h0 s v h' s' lg hr hl⟩
end Go.Proofs.YtjlponbdflkbjaaGreatDoor
namespace Go.Proofs.YtjlponbdflkbjaaGreatDoor
open Go.KRun
theorem Z4 {a b:Bool}(h:a=b):Z3 [(a,b)]:=fun p hp=>by rw[List.mem_singleton.1 hp];exact h
theorem Za {a b:Bool}{l:Log}(h:a=b) (hl:Z3 l):Z3 ((a,b)::l):=fun p hp=>by
 rcases List.mem_cons.1 hp with rfl | hp
 ·exact h
 ·exact hl p hp
theorem ZcQ {a b:Bool}{l:Log}:Z3 ((a,b)::l)↔a=b∧Z3 l:=⟨fun h=>⟨h _ (Xe),fun x hx=>h x (Xd _ hx)⟩,fun h=>Za h.1 h.2⟩
theorem ZoA:Z3 []:=fun x hx=>by cases hx
end Go.Proofs.YtjlponbdflkbjaaGreatDoor
namespace Go.KRun
open Go.RowKit
def ml (front:List Value) (b:Nat) (g:Nat→Value) (mid:List Value) (n:Nat) (g':Nat→Value):List Value:=front++(tl b g++(mid++tl n g'))
def ZdS (r:Option (Ex×Lf×Lg)) (a b c n:Nat) (e:Ex) (front mid:List Value) (h:Hp) (cs:Log):Prop:=
 r.map (fun r=>(r.1,r.2.1.1.take a,((r.2.1.1.drop a).take b).length,((r.2.1.1.drop a).drop b).take c,(((r.2.1.1.drop a).drop b).drop c).length,r.2.1.2.1,r.2.2.cs))=some (e,front,b,mid,n,h,cs)∧
  r.map (fun r=>r.2.2.es.map Prod.fst)=r.map (fun r=>r.2.2.es.map Prod.snd)∧r.map (fun r=>r.2.2.bs.map Prod.fst)=r.map (fun r=>r.2.2.bs.map Prod.snd)
theorem Zjx {r:Option (Ex×Lf×Lg)}{a b c n:Nat}{e:Ex}{front mid:List Value}{h:Hp}{cs:Log}(hG:ZdS r a b c n e front mid h cs) (hcs:Z3 cs):∃ g g' s L,r=some (e,(ml front b g mid n g',h,s),L)∧L.ok:=by
 obtain⟨h1,h5,h6⟩:=hG;cases r with
 | none=>cases h1
 | some r=>
  simp only[Option.map_some,Option.some.injEq,Prod.mk.injEq] at h1 h5 h6;obtain⟨e',⟨t',h',s'⟩,L⟩:=r;simp only at h1 h5 h6;obtain⟨h1,h2,h3,h4,h7,h8,h9⟩:=h1;subst h1 h8;obtain⟨g,hg⟩:=ZkU h3;obtain⟨g',hg'⟩:=ZkU h7;refine⟨g,g',s',L,?_,by rw[h9];exact hcs,ZdR _ h5,ZdR _ h6⟩;unfold ml;rw[← h2,← hg,← h4,← hg',List.take_append_drop,List.take_append_drop,List.take_append_drop]
theorem z9 {T:Tab}(hT:TabOk T) {N:Nat}{c:Code}{t:List Value}{h h':Hp}{s s0:List Dec}{a b k n:Nat}{e:Ex}{front mid:List Value}{cs:Log}(hG:ZdS (evC T N false c (t,h,s) ⟨[],[],[]⟩) a b k n e front mid h' cs) (hcs:Z3 cs):
  Runs T c (t,h,s0) fun e' y=>e'=e∧(∃ g g',y.1=ml front b g mid n g')∧y.2.1=h':=by
 obtain⟨g,g',s',L,hr,hL⟩:=Zjx hG hcs;refine Runs.script ((Runs.ev hT hr hL).mono fun e2 y he=> ?_);obtain⟨rfl,rfl⟩:=he;exact⟨rfl,⟨g,g',rfl⟩,rfl⟩
theorem ZtX {m:Mp}{B:Nat}{t t':List Value}{h h':Hp}{s:List Dec}{a:Act}{w:World}(R:Rel m B (t,h,s) a w) (f:Nat→Nat) (hl:h'.l.length=h'.n)
  (hb:∀ i x,h'.blk? i=some x→(∀ v∈x.1,still v=true)∧∃ y r,h.blk? (f i)=some y∧y.2=x.2∧y.1=x.1++r)
  (hi:∀ i j x y,h'.blk? i=some x→h'.blk? j=some y→ro x.2=false→ro y.2=false→f i=f j→i=j)
  (ht:t'.map (mv fun i=>m (f i))=t.map (mv m)) (hw:∀ v∈t',lt h'.n v=true):Rel (fun i=>m (f i)) B (t',h',s) a w:=by
 have E:=R.emb;refine⟨by rw[R.tmps];simp only;rw[ht],R.dfr,?_,hw⟩;refine⟨hl,?_,?_,?_,?_,?_,E.base,E.ice,?_⟩
 ·intro b x hx ht;obtain⟨q1,y,r,q2,q3,q4⟩:=hb b x hx;obtain⟨r0,z,e1,e2,e3⟩:=E.lies (f b) y q2 (by rw[q3];exact ht);rw[q4,List.map_append,ZdI (m':=fun i=>m (f i)) q1] at e1 e2;refine⟨r.map (mv1 m)++r0,z,by rw[← e1];simp;omega,by rw[e2,List.append_assoc],by rw[← q3];exact e3⟩
 ·intro b x hx hr;obtain⟨_,y,r,q2,q3,_⟩:=hb b x hx;exact E.low (f b) y q2 (by rw[q3];exact hr)
 ·intro b x hx ht hr;obtain⟨_,y,r,q2,q3,_⟩:=hb b x hx;exact E.ros (f b) y q2 (by rw[q3];exact ht) (by rw[q3];exact hr)
 ·intro b b' x x' hx hx' hr hr' he;obtain⟨_,y,r,q2,q3,_⟩:=hb b x hx;obtain⟨_,y',r',q2',q3',_⟩:=hb b' x' hx';exact hi b b' x x' hx hx' hr hr' (E.inj _ _ y y' q2 q2' (by rw[q3];exact hr) (by rw[q3'];exact hr') he)
 ·intro b x hx v hv;exact zg (Nat.lt_of_le_of_lt (Nat.zero_le _) (Hp.blk_lt hx)) ((hb b x hx).1 v hv)
 ·intro b x hx ha;obtain⟨q1,y,r,q2,q3,q4⟩:=hb b x hx;obtain⟨e1,r0,t0,z,e2⟩:=E.abs (f b) y q2 (by rw[q3];exact ha);rw[q3] at e1 e2;rw[q4,List.map_append,ZdI (m':=fun i=>m (f i)) q1] at e2;exact⟨e1,r.map (mv1 m)++r0,t0,z,by rw[e2,List.append_assoc]⟩
theorem Z8H {m:Mp}(f:Nat→Nat) {front front' rest:List Value}(h:front'.map (rn f)=front):(front'++rest.map (fun v=>Value.iface za (mv m v))).map (mv fun i=>m (f i))=(front++rest).map (mv m):=by
 rw[List.map_append,List.map_append,← h,List.map_map,List.map_map];congr 1
 ·exact List.map_congr_left fun v _=>(Zdx m f v).symm
theorem RunsW.small {T:Tab}{c:Code}{x:Lf}{P:Ex→Lf→Prop}(hr:RunsW T c x P) {P':Ex→Lf→Prop}
  (hp:∀ e y,P e y→P' e y∨∃ (front front' rest:List Value) (h h':Hp) (s:List Dec) (f:Nat→Nat),y=(front++rest,h,s)∧front'.map (rn f)=front∧h'.l.length=h'.n∧0<h'.n∧
   (∀ i x,h'.blk? i=some x→(∀ v∈x.1,still v=true)∧∃ y r,h.blk? (f i)=some y∧y.2=x.2∧y.1=x.1++r)∧
   (∀ i j x y,h'.blk? i=some x→h'.blk? j=some y→ro x.2=false→ro y.2=false→f i=f j→i=j)∧(∀ v∈front',lt h'.n v=true)∧∀ g,P' e (front'++tl rest.length g,h',s)):RunsW T c x P':=by
 intro m B a w R Q hQ;refine hr m B a w R Q fun e y he m' a' w' R' hb'=> ?_;rcases hp e y he with h1 | ⟨front,front',rest,h,h',s,f,rfl,e1,e2,e3,e4,e5,e6,e7⟩
 ·exact hQ e y h1 m' a' w' R' hb'
 ·obtain⟨g,hg⟩:=ZkU (J:=rest.map (fun v=>Value.iface za (mv m' v))) (n:=rest.length) (by simp);refine hQ e _ (e7 g) _ a' w' (ZtX R' f e2 e4 e5 (by rw[← hg];exact Z8H f e1) ?_) hb';intro v hv;rw[← hg] at hv;rcases List.mem_append.1 hv with hv | hv
  ·exact e6 v hv
  ·obtain⟨u,_,rfl⟩:=List.mem_map.1 hv;simp [lt,lt2,lt1,e3,za]
theorem RunsW.forLoop {T:Tab}{c:Code}{id:Nat}{x:Lf}{P:Lf→Prop}{R:Lf→Prop}(Inv:Nat→Lf→Prop)
  (round:∀ n x,Inv n x→RunsW T c x fun e y=>match e with | none=>∃ n',n'<n∧Inv n' y | some none=>R y | some (some id')=>id'=id∧P y) {n:Nat}(h0:Inv n x):
  RunsW T (.block id (.loop c)) x fun e y=>match e with | none=>P y | some none=>R y | some (some _)=>False:=by
 refine RunsW.block (P1:=fun e y=>match e with | none=>False | some none=>R y | some (some id')=>id'=id∧P y) ?_ (fun y he=>he.elim) (fun y he=>he) (fun y he=>he.2) (fun id' y hid he=>absurd he.1 hid);refine RunsW.loop Inv (fun n x hI=>(round n x hI).mono fun e y he=> ?_) h0
 match e,he with
 | none,he=>exact he
 | some none,he=>exact he
 | some (some id'),he=>exact he
theorem Ze {T:Tab}(hT:TabOk T) {N:Nat}{c:Code}{t:List Value}{h h':Hp}{s s0:List Dec}{k n:Nat}{e:Ex}{front:List Value}{cs:Log}(hG:Zg (evC T N false c (t,h,s) ⟨[],[],[]⟩) k n e front h' cs) (hcs:Z3 cs):
  RunsW T c (t,h,s0) fun e' y=>e'=e∧(∃ g,y.1=front++tl n g)∧y.2.1=h':=(Zb hT hG hcs).w
theorem ZkW (n:Nat) (g:Nat→Value):(tl n g).length=n:=by simp [tl]
theorem ZkX {x y:List Value×TypeId}{i:Nat}{z:List Value×TypeId}(h:(⟨2,[y,x]⟩:Hp).blk? i=some z):(i=0∧z=x)∨(i=1∧z=y):=by
 have:i<2:=Hp.blk_lt h;have:i=0∨i=1:=by omega
 rcases this with rfl | rfl
 ·exact .inl ⟨rfl,(Option.some.inj h).symm⟩
 ·exact .inr ⟨rfl,(Option.some.inj h).symm⟩
def zA (k b:Nat) (i:Nat):Nat:=if Nat.blt i k=true then i else b
theorem Zjy {base:List (List Value×TypeId)}{k:Nat}(hk:base.length=k) {y:List Value×TypeId}{i:Nat}{z:List Value×TypeId}(h:(⟨k+1,y::base⟩:Hp).blk? i=some z):(i<k∧(⟨k,base⟩:Hp).blk? i=some z)∨(i=k∧z=y):=by
 have hi:i<k+1:=Hp.blk_lt h;by_cases h0:i=k
 ·subst h0;have:(⟨i+1,y::base⟩:Hp).blk? i=some y:=by
   unfold Hp.blk?;rw[if_pos (Zo.2 (by show i<i+1;omega))];show (y::base)[i+1-1-i]? =some y;rw[show i+1-1-i=0 from by omega];rfl
  rw[this] at h;exact .inr ⟨rfl,(Option.some.inj h).symm⟩
 ·refine .inl ⟨by omega,?_⟩;unfold Hp.blk? at h ⊢;rw[if_pos (Zo.2 (by show i<k+1;omega))] at h;rw[if_pos (Zo.2 (by show i<k;omega))];have e:k+1-1-i=(k-1-i)+1:=by omega
  have h':(y::base)[k+1-1-i]? =some z:=h;rw[e,List.getElem?_cons_succ] at h';exact h'
theorem RunsW.kept {T:Tab}{c:Code}{x0:Lf}{ex:Ex}{front front':List Value}{n k b:Nat}{h:Hp}{base:List (List Value×TypeId)}{y:List Value×TypeId}(hr:RunsW T c x0 fun e z=>e=ex∧(∃ g,z.1=front++tl n g)∧z.2.1=h)
  (hk:base.length=k) (hf:front'.map (rn (zA k b))=front) (hx:∀ i x,(⟨k,base⟩:Hp).blk? i=some x→h.blk? i=some x∧∀ v∈x.1,still v=true) (hy:h.blk? b=some y) (hb:k≤b) (sy:∀ v∈y.1,still v=true) (hw:∀ v∈front',lt (k+1) v=true):
  RunsW T c x0 fun e z=>e=ex∧(∃ g,z.1=front'++tl n g)∧z.2.1=⟨k+1,y::base⟩:=by
 refine hr.small fun e z he=> .inr ?_;obtain⟨rfl,⟨g,h1⟩,h2⟩:=he;obtain⟨t,h',s⟩:=z;simp only at h1 h2;subst h1 h2;refine⟨front,front',tl n g,h',⟨k+1,y::base⟩,s,zA k b,rfl,hf,by simp [hk],Nat.succ_pos _,fun i z hz=> ?_,fun i j u v hi hj _ _ hij=> ?_,hw,fun g'=>⟨rfl,⟨g',by rw[ZkW]⟩,rfl⟩⟩
 ·rcases Zjy hk hz with ⟨hi,hz'⟩ | ⟨rfl,rfl⟩
  ·obtain⟨q1,q2⟩:=hx i z hz';exact⟨q2,z,[],by unfold zA;rw[if_pos (Zo.2 hi)];exact q1,rfl,by simp⟩
  ·exact⟨sy,z,[],by unfold zA;rw[if_neg (by rw[Zo];omega)];exact hy,rfl,by simp⟩
 ·unfold zA at hij;rcases Zjy hk hi with ⟨h1,_⟩ | ⟨rfl,_⟩<;>rcases Zjy hk hj with ⟨h2,_⟩ | ⟨rfl,_⟩
  ·rw[if_pos (Zo.2 h1),if_pos (Zo.2 h2)] at hij;exact hij
  ·rw[if_pos (Zo.2 h1),if_neg (by rw[Zo];omega)] at hij;omega
  ·rw[if_pos (Zo.2 h2),if_neg (by rw[Zo];omega)] at hij;omega
  ·rfl
theorem ZB {T:Tab}{f:Nat}{F:Func}{c:Code}(hF:T.P.funcs[f]? =some F) (hc:F.body=some c) {h0:Hp}(hr:h0.rows) {vals:List Value}(hvals:∀ v∈vals,lt h0.n v=true) {v:Value}(hv:lt 0 v=true)
  (hrun:RunsW T c (vals++List.replicate (F.ntmps-vals.length) undef,h0,[]) fun e y=>(e=none∨e=some none)∧ZV T.P F y.1 y.2.1=some v)
  {m:Mp}{B:Nat}{h:Hp}{w:World}(E:Emb m B h w) {s:Nat→Nat}(hf:h0.fits s h):
  Calls T.P f ((vals.map (rn s)).map (mv m)).toArray w fun e w'=>∃ m',e= .returned (mv m' v)∧Came m B h w v h m' w':=by
 have E0:=E.small hr hf;have ev:(vals.map (rn s)).map (mv m)=vals.map (mv fun i=>m (s i)):=by
  rw[List.map_map];exact List.map_congr_left fun y _=>Zdx m s y
 rw[ev];refine calls_of_wp hF hc ?_;have R:Rel (fun i=>m (s i)) w.heap.size (vals++List.replicate (F.ntmps-vals.length) undef,h0,[]) {tmps:=(vals.map (mv fun i=>m (s i))).toArray++Array.replicate (F.ntmps-(vals.map (mv fun i=>m (s i))).toArray.size) undef,defers:=[]} w:=by
  refine⟨?_,rfl,E0,?_⟩
  ·simp [zm]
  ·intro y hy;rcases List.mem_append.1 hy with hy | hy
   ·exact hvals y hy
   ·rw[List.eq_of_mem_replicate hy];simp [undef,lt]
 refine hrun _ _ _ w R _ fun e y he m1 a' w' k2 k3=> ?_;obtain⟨hex,hres⟩:=he;obtain⟨r1,r2⟩:=Zac k2.emb k2.wf hres;rw[← k2.tmps,ZC hv] at r1;have td:Zal w w':=⟨k3,fun k h1 h2=>k2.emb.ice k h1 h2⟩;obtain⟨E',hb⟩:=zc E td;have post:a'.defers=[]∧∃ v',(results F a'.tmps).run T.P w'= .ok v' w'∧∃ m',Ending.returned v'= .returned (mv m' v)∧Came m B h w v h m' w':=
  ⟨k2.dfr,_,r1,m,by rw[ZC hv],⟨Agree.refl _ _,E',hb,Nat.le_refl _,zT (Nat.zero_le _) hv⟩⟩
 rcases hex with rfl | rfl<;>exact post
theorem Zpd {k n:Nat}{base l:List (List Value×TypeId)}(hn:n=l.length+k) {i:Nat}(hi:i<k):(⟨n,l++base⟩:Hp).blk? i=(⟨k,base⟩:Hp).blk? i:=by
 unfold Hp.blk?;rw[if_pos (Zo.2 (by show i<n;omega)),if_pos (Zo.2 hi)];show (l++base)[n-1-i]? =base[k-1-i]?;rw[List.getElem?_append_right (by omega)];congr 1;omega
theorem RunsW.pre {T:Tab}{c:Code}{P:Ex→Lf→Prop}{f1 f2:List Value}{u:Value}{n k N:Nat}{extra base:List (List Value×TypeId)}{s s':List Dec}{g:Nat→Value}(h:∀ j g,RunsW T c ((f1++j::f2)++tl n g,⟨k,base⟩,s') P)
  (hk:base.length=k) (hN:N=extra.length+k) (h0:0<k) (hb:∀ x∈base,∀ v∈x.1,lt1 k v=true) (h1:∀ v∈f1,lt k v=true) (h2:∀ v∈f2,lt k v=true):
  RunsW T c ((f1++u::f2)++tl n g,⟨N,extra++base⟩,s) P:=by
 intro m B a w R Q hQ;obtain⟨g',hg'⟩:=ZkU (J:=(tl n g).map (fun v=>Value.iface za (mv m v))) (n:=n) (by simp [ZkW]);refine h (Value.iface za (mv m u)) g' m B a w ?_ Q hQ;have E:=R.emb;have sub:∀ i x,(⟨k,base⟩:Hp).blk? i=some x→(⟨N,extra++base⟩:Hp).blk? i=some x:=fun i x hx=>by
  rw[Zpd hN (Hp.blk_lt hx)];exact hx
 have mem:∀ i x,(⟨k,base⟩:Hp).blk? i=some x→x∈base:=fun i x hx=>by
  unfold Hp.blk? at hx;split at hx
  ·exact List.mem_of_getElem? hx
  ·cases hx
 have ltd:∀ v:Value,lt k (Value.iface za v)=true:=fun v=>by simp [lt,lt2,lt1,h0]
 have mvd:∀ v:Value,mv m (Value.iface za (mv m v))=mv m v:=fun v=>by simp [mv,mv2,mv1]
 refine⟨?_,R.dfr,⟨hk,fun b x hx ht=>E.lies b x (sub b x hx) ht,fun b x hx hro=>E.low b x (sub b x hx) hro,fun b x hx ht hro=>E.ros b x (sub b x hx) ht hro,fun b b' x x' hx hx' hro hro' he=>E.inj b b' x x' (sub b x hx) (sub b' x' hx') hro hro' he,fun b x hx v hv=>hb x (mem b x hx) v hv,E.base,E.ice,fun b x hx ha=>E.abs b x (sub b x hx) ha⟩,?_⟩
 ·rw[R.tmps];simp only[List.map_append,List.map_cons,mvd,← hg',List.map_map];congr 2
 ·intro v hv;rcases List.mem_append.1 hv with hv | hv
  ·rcases List.mem_append.1 hv with hv | hv
   ·exact h1 v hv
   ·rcases List.mem_cons.1 hv with rfl | hv
    ·exact ltd _
    ·exact h2 v hv
  ·rw[← hg'] at hv;obtain⟨y,_,rfl⟩:=List.mem_map.1 hv;exact ltd _
theorem ZcW {T:Tab}{f:Nat}{F:Func}{c:Code}(hF:T.P.funcs[f]? =some F) (hc:F.body=some c) {h0:Hp}(hr:h0.rows) {vals:List Value}(hvals:∀ v∈vals,lt h0.n v=true) {v:Nat→Value}
  {cs:List Value}{ty:TypeId}(hcs:∀ u∈cs,lt1 0 u=true) (hty:ro ty=false)
  (hrun:RunsW T c (vals++List.replicate (F.ntmps-vals.length) undef,h0,[]) fun e y=>(e=none∨e=some none)∧∃ k,ZV T.P F y.1 y.2.1=some (v k)∧∃ r,y.2.1.blk? k=some (cs++r,ty))
  (hv0:∀ k,oc [k] (v k)=true)
  {m:Mp}{B:Nat}{h:Hp}{w:World}(E:Emb m B h w) {s:Nat→Nat}(hf:h0.fits s h) (hv1:∀ k,rn (fun _=>h.n) (v k)=v h.n):
  Calls T.P f ((vals.map (rn s)).map (mv m)).toArray w fun e w'=>∃ m',e= .returned (mv m' (v h.n))∧Came m B h w (v h.n) (h.push cs ty) m' w':=by
 have E0:=E.small hr hf;have ev:(vals.map (rn s)).map (mv m)=vals.map (mv fun i=>m (s i)):=by
  rw[List.map_map];exact List.map_congr_left fun y _=>Zdx m s y
 rw[ev];refine calls_of_wp hF hc ?_;have R:Rel (fun i=>m (s i)) w.heap.size (vals++List.replicate (F.ntmps-vals.length) undef,h0,[]) {tmps:=(vals.map (mv fun i=>m (s i))).toArray++Array.replicate (F.ntmps-(vals.map (mv fun i=>m (s i))).toArray.size) undef,defers:=[]} w:=by
  refine⟨?_,rfl,E0,?_⟩
  ·simp [zm]
  ·intro y hy;rcases List.mem_append.1 hy with hy | hy
   ·exact hvals y hy
   ·rw[List.eq_of_mem_replicate hy];simp [undef,lt]
 refine hrun _ _ _ w R _ fun e y he m1 a' w' k2 k3=> ?_;obtain⟨hex,k,hres,r,hblk⟩:=he;obtain⟨r1,r2⟩:=Zac k2.emb k2.wf hres;rw[← k2.tmps] at r1;have td:Zal w w':=⟨k3,fun k h1 h2=>k2.emb.ice k h1 h2⟩;obtain⟨E',hb⟩:=zc E td;have hlow:w.heap.size≤(m1 k).1:=k2.emb.low k _ hblk hty;have hlie:lie w' (m1 k) (cs.map (mv1 m)) ty:=by
  obtain⟨r',z,l0,l1,l2⟩:=k2.emb.lies k _ hblk (Zao hty);have e:cs.map (mv1 m1)=cs.map (mv1 m):=Zb8 hcs;simp only[List.map_append] at l0 l1;refine⟨r.map (mv1 m1)++r',z,?_,?_,l2⟩
  ·simp at l0 ⊢;omega
  ·rw[← e,l1,List.append_assoc]
 have Ea:=E'.adopt cs ty hty (fun u hu=>zl (Nat.zero_le _) (hcs u hu)) hlie (Nat.le_trans E.base hlow) (fun b x hbx hx heq=>by
  have:=E.here hbx (Zao hx);omega)
 have e1:mv m1 (v k)=mv (upd m h.n (m1 k)) (v h.n):=by
  rw[← hv1 k,Zdx];refine Zpb (fun b hb=> ?_) (hv0 k);rw[List.mem_singleton.1 hb];simp [upd]
 rw[e1] at r1;have hlt:lt (h.n+1) (v h.n)=true:=by rw[← hv1 k];exact Zid (bs:=[k]) (fun b hb=>by show h.n<h.n+1;omega) (hv0 k)
 have post:a'.defers=[]∧∃ v',(results F a'.tmps).run T.P w'= .ok v' w'∧∃ m',Ending.returned v'= .returned (mv m' (v h.n))∧Came m B h w (v h.n) (h.push cs ty) m' w':=
  ⟨k2.dfr,_,r1,upd m h.n (m1 k),rfl,⟨ZP _ _ _,Ea,hb,Nat.le_succ _,hlt⟩⟩
 rcases hex with rfl | rfl<;>exact post
end Go.KRun
namespace Go.Proofs.YtjlponbdflkbjaaGreatDoor.Na
open Go.KRun
set_option maxRecDepth 100000
theorem ZyO:Z3 []:=fun _ h=>by cases h
def bS (l:List UInt8):Value:= .string ⟨⟨l⟩⟩
theorem Zjz (l l':List UInt8):((⟨⟨l⟩⟩:ByteArray)==⟨⟨l'⟩⟩)=decide (l=l'):=by
 rw[beq_toListBytes,ByteArray.toList_eq,ByteArray.toList_eq];show (l==l')=decide (l=l');by_cases h:l=l'
 ·rw[Xa h];simpa using h
 ·rw[Xb h];simpa using h
end Go.Proofs.YtjlponbdflkbjaaGreatDoor.Na
namespace Go.Proofs.YtjlponbdflkbjaaGreatDoor.Na
open Go.Proofs.Tryz
open Go.KRun
set_option maxRecDepth 100000
def tlP (F:Func):Code:=Z2 (Zs F)
def tlL (F:Func):Code:=cIn (cIn (Z2 (Zz (Zs F))))
def tlE (F:Func):Code:=Zz (Zz (Zs F))
theorem ZtY:f101.body=some (ZW [tlP f101] (.seq (.block 0 (.loop (tlL f101))) (tlE f101))):=by kernel_rfl
def tlF (l:List UInt8) (c:Int):List Value:=[bS l,.int .u8 c,undef,undef,bS []]
theorem Zz2 (l:List UInt8) (c:Int):Zg (evL (Zk prog Zf Zn true) 100 [tlP f101] ([bS l,.int .u8 c]++List.replicate 15 undef,⟨0,[]⟩,[]) ⟨[],[],[]⟩) 5 12 none (tlF l c) ⟨0,[]⟩ []:=by and_intros<;>kernel_rfl
theorem Z4I (x:UInt8) (l:List UInt8) (c:Int) (g:Nat→Value):Zg (evC (Zk prog Zf Zn true) 100 false (tlL f101) (tlF (x::l) c++tl 12 g,⟨0,[]⟩,[cmp true,cmp true,sam true]) ⟨[],[],[]⟩) 5 12 none (tlF l c) ⟨0,[]⟩ [(decide ((0:Int)≤1∧(1:Int)≤((x::l).length:Nat)),true),(((x.toNat:Nat):Int)==c,true),(decide ((0:Int)≤0∧0<(x::l).length),true),(decide ((((x::l).length:Nat):Int)>0),true)]:=by and_intros<;>kernel_rfl
theorem Zz3 (x:UInt8) (l:List UInt8) (c:Int) (g:Nat→Value):Zg (evC (Zk prog Zf Zn true) 100 false (tlL f101) (tlF (x::l) c++tl 12 g,⟨0,[]⟩,[cmp true,cmp false]) ⟨[],[],[]⟩) 5 12 (some (some 0)) (tlF (x::l) c) ⟨0,[]⟩ [(((x.toNat:Nat):Int)==c,false),(decide ((0:Int)≤0∧0<(x::l).length),true),(decide ((((x::l).length:Nat):Int)>0),true)]:=by and_intros<;>kernel_rfl
theorem Zz4 (c:Int) (g:Nat→Value):Zg (evC (Zk prog Zf Zn true) 100 false (tlL f101) (tlF [] c++tl 12 g,⟨0,[]⟩,[cmp false]) ⟨[],[],[]⟩) 5 12 (some (some 0)) (tlF [] c) ⟨0,[]⟩ [(decide (((0:Nat):Int)>0),false)]:=by and_intros<;>kernel_rfl
theorem Zz5 (l:List UInt8) (c:Int) (g:Nat→Value):Zg (evC (Zk prog Zf Zn true) 100 false (tlE f101) (tlF l c++tl 12 g,⟨0,[]⟩,[]) ⟨[],[],[]⟩) 5 12 (some none) [bS l,.int .u8 c,undef,undef,bS l] ⟨0,[]⟩ []:=by and_intros<;>kernel_rfl
def trL (c:Int) (l:List UInt8):List UInt8:=l.dropWhile fun x=>((x.toNat:Nat):Int)==c
theorem ZtZ (c:Int) (L:List UInt8) (n:Nat) (x:Lf) (h:∃ (l:List UInt8) (g:Nat→Value),x.1=tlF l c++tl 12 g∧x.2.1=⟨0,[]⟩∧trL c l=trL c L∧n=l.length):Runs (Zk prog Zf Zn true) (tlL f101) x fun e y=>match e with | none=>∃ n',n'<n∧∃ (l:List UInt8) (g:Nat→Value),y.1=tlF l c++tl 12 g∧y.2.1=⟨0,[]⟩∧trL c l=trL c L∧n'=l.length | some none=>False | some (some id')=>id'=0∧∃ g:Nat→Value,y.1=tlF (trL c L) c++tl 12 g∧y.2.1=⟨0,[]⟩:=by
 obtain⟨l,g,e1,e2,h1,h2⟩:=h;obtain⟨t,hh,s⟩:=x;have e1:t=_:=e1;have e2:hh=_:=e2;subst e1 e2;have T:=Zj Zd;cases l with
 | nil=>
  refine (Zb T (Zz4 c g) (Z4 (by decide))).mono fun e z he=> ?_;obtain⟨rfl,⟨g',z1⟩,z2⟩:=he;have:trL c L=[]:=h1.symm;rw[this];exact⟨rfl,g',z1,z2⟩
 | cons x l=>
  by_cases hx:((x.toNat:Nat):Int)=c
  ·refine (Zb T (Z4I x l c g) (Za (Xa (by rw[List.length_cons];omega)) (Za (by simpa using hx) (Za (Xa (by rw[List.length_cons];omega)) (Z4 (Xa (by rw[List.length_cons];omega))))))).mono fun e z he=> ?_;obtain⟨rfl,⟨g',z1⟩,z2⟩:=he;refine⟨l.length,by rw[h2,List.length_cons];omega,l,g',z1,z2,?_,rfl⟩;rw[← h1];unfold trL;rw[List.dropWhile_cons_of_pos (by simpa using hx)]
  ·refine (Zb T (Zz3 x l c g) (Za (by simpa using hx) (Za (Xa (by rw[List.length_cons];omega)) (Z4 (Xa (by rw[List.length_cons];omega)))))).mono fun e z he=> ?_;obtain⟨rfl,⟨g',z1⟩,z2⟩:=he;have:trL c L=x::l:=by
    rw[← h1];unfold trL;rw[List.dropWhile_cons_of_neg (by simpa using hx)]
   rw[this];exact⟨rfl,g',z1,z2⟩
theorem ZkY (l:List UInt8) (c:Int) (w:World):Calls prog 101 #[bS l,.int .u8 c] w fun r w'=>r= .returned (bS (trL c l))∧Zal w w':=by
 have hT:=Zj Zd;refine ZJ (T:=Zk prog Zf Zn true) func101 ZtY (by rfl) (by rfl) ?_ w;refine Zv hT (Zz2 l c) ZyO fun g=> ?_;refine Runs.seq (P1:=fun e y=>e=none∧∃ g:Nat→Value,y.1=tlF (trL c l) c++tl 12 g∧y.2.1=⟨0,[]⟩) ?_ ?_ (fun e y he=>by cases he.1)
 ·refine (Runs.forLoop (R:=fun _=>False) (P:=fun y=>∃ g:Nat→Value,y.1=tlF (trL c l) c++tl 12 g∧y.2.1=⟨0,[]⟩) (fun n x=>∃ (l':List UInt8) (g:Nat→Value),x.1=tlF l' c++tl 12 g∧x.2.1=⟨0,[]⟩∧trL c l'=trL c l∧n=l'.length) (ZtZ c l) (n:=l.length) ⟨l,g,rfl,rfl,rfl,rfl⟩).mono fun e z hz=> ?_
  match e,hz with
  | none,hz=>exact⟨rfl,hz⟩
 ·intro y he;obtain⟨_,g',e1,e2⟩:=he;obtain⟨t,hh,s⟩:=y;have e1:t=_:=e1;have e2:hh=_:=e2;subst e1 e2;refine (Zb hT (Zz5 (trL c l) c g') ZyO).mono fun e z hz=> ?_;obtain⟨rfl,⟨g2,z1⟩,z2⟩:=hz;exact⟨.inr rfl,by rw[z1,z2];rfl⟩
def Z4J:Ans:=fun vals s=>
 match vals with
 | [.string b,.int .u8 c]=>some (bS (trL c b.data.toList),s,[])
 | _=>none
theorem Zua:ZR 101 Z4J:=by
 intro vals s v s' lg h hl w;unfold Z4J at h;split at h
 ·cases h;exact ZkY _ _ w
 ·cases h
def Zub:Con:=alt 101 Z4J Zn
theorem Zie:ConOk Zub:=Z9 func101 rfl Zua Zd
theorem Z8I (l:List UInt8):Z7 (Zm (Zk prog Zf Zub true) 100 71 [bS l,bS [48]] [sam true]) (bS l) [((⟨⟨l⟩⟩:ByteArray)==⟨⟨[]⟩⟩,true)]:=by and_intros<;>kernel_rfl
theorem Z8J (l:List UInt8):Z7 (Zm (Zk prog Zf Zub true) 100 71 [bS l,bS [48]] [sam false]) (bS (trL 48 l)) [(true,true),(true,true),((⟨⟨l⟩⟩:ByteArray)==⟨⟨[]⟩⟩,false)]:=by and_intros<;>kernel_rfl
def Z4K:Ans:=fun vals s=>
 match vals with
 | [.string b,.string ⟨⟨[c]⟩⟩]=>some (bS (trL 48 b.data.toList),s,[(decide (c=48),true)])
 | _=>none
theorem Zuc:ZR 71 Z4K:=by
 intro vals s v s' lg h hl w;unfold Z4K at h;split at h
 ·rename_i b c;cases h;have hc:=Xc (hl _ Xf);subst hc;by_cases hn:b.data.toList=[]
  ·have:=Zc (Zj Zie) (Z8I b.data.toList) (Z4 ((Zjz _ _).trans (Xa hn))) (by rfl) (by rfl) w;rw[hn] at this ⊢;have hb:b=⟨⟨[]⟩⟩:=by
    apply ByteArray.ext;apply Array.ext';exact hn
   rw[hb];exact this
  ·exact Zc (Zj Zie) (Z8J b.data.toList) (Za rfl (Za rfl (Z4 ((Zjz _ _).trans (Xb hn))))) (by rfl) (by rfl) w
 ·cases h
end Go.Proofs.YtjlponbdflkbjaaGreatDoor.Na
namespace Go.Nt
def Zl:List Int→Nat
 | []=>0
 | x::r=>if Zl r=0 then (if x=0 then 0 else 1) else Zl r+1
theorem Za4:∀ L:List Int,Zl L≤L.length
 | []=>Nat.le_refl _
 | x::r=>by
  have:=Za4 r;unfold Zl;split
  ·split<;>simp
  ·simp;omega
theorem ZeO:∀ (L:List Int) (i:Nat),Zl L≤i→L.getD i 0=0
 | [],i,_=>by simp
 | x::r,i,h=>by
  unfold Zl at h;cases i with
  | zero=>
   split at h
   ·split at h
    ·rename_i h1;simp [h1]
    ·omega
   ·omega
  | succ i=>
   have:=ZeO r i (by split at h<;>(try split at h)<;>omega);simpa using this
theorem Zct:∀ L:List Int,Zl L=0∨L.getD (Zl L-1) 0≠0
 | []=> .inl rfl
 | x::r=>by
  have ih:=Zct r;unfold Zl;split
  ·split
   ·exact .inl rfl
   ·rename_i h;exact .inr (by simpa using h)
  ·rename_i h;rcases ih with ih | ih
   ·exact absurd ih h
   ·refine .inr ?_;obtain⟨k,hk⟩:∃ k,Zl r=k+1:=⟨Zl r-1,by omega⟩;rw[hk] at ih ⊢;simpa using ih
theorem ZbS {L:List Int}{k:Nat}(h1:∀ i,k≤i→L.getD i 0=0) (h2:k=0∨L.getD (k-1) 0≠0):Zl L=k:=by
 rcases Nat.lt_trichotomy (Zl L) k with h | h | h
 ·rcases h2 with h2 | h2
  ·omega
  ·exact absurd (ZeO L (k-1) (by omega)) h2
 ·exact h
 ·rcases Zct L with h3 | h3
  ·omega
  ·exact absurd (h1 (Zl L-1) (by omega)) h3
def Zan (L M:List Int):Nat→Int
 | 0=>0
 | k+1=>if L.getD k 0=M.getD k 0 then Zan L M k else if L.getD k 0<M.getD k 0 then -1 else 1
def Zci (L M:List Int):Int:=if L.length=M.length then Zan L M L.length else if L.length<M.length then -1 else 1
end Go.Nt
namespace Go.Proofs.YtjlponbdflkbjaaGreatDoor
open Go.Proofs.Tryz
open Go.IntKind
open Go.KRun Go.Nt
set_option maxRecDepth 100000
def wU (L:List Int):List Value:=L.map (Value.int .u32)
def tU:TypeId:=104
def tR:TypeId:=104+za
theorem Zpe:ro tR=true:=by kernel_rfl
theorem Zpf:ab tR=false:=by kernel_rfl
theorem ZbB:Zak tR=false:=by kernel_rfl
theorem Zpg:rt tR=tU:=by kernel_rfl
def sl (b o n c:Nat):Value:= .slice (some ⟨b,o,none⟩) n c
def Zp:Value:= .slice none 0 0
def ZyP (F:Func):List Code:=[Z2 (Zs F)]
def ZkZ (F:Func):Code:=cIn (cIn (Z2 (Zz (Zs F))))
def Z4L (F:Func):Code:=Zz (Zz (Zs F))
theorem Zla:f112.body=some (ZW (ZyP f112) (.seq (.block 0 (.loop (ZkZ f112))) (Z4L f112))):=by kernel_rfl
theorem Zph (v:Value) (h:Hp):Zg (evL (Zk prog Zf Zn true) 100 (ZyP f112) ([v]++List.replicate 20 undef,h,[]) ⟨[],[],[]⟩) 3 18 none [v,undef,Zp] h []:=by and_intros<;>kernel_rfl
def n1 (n:Nat):Int:=i64.wrap ((n:Int)-1)
theorem Zud (o n c:Nat) (x:Int) (l:List Value) (j1 j2:Value) (g:Nat→Value):GoesE (evC (Zk prog Zf Zn true) 100 false (ZkZ f112) ([sl 0 o n c,j1,j2]++tl 18 g,⟨1,[(l,tR)]⟩,[cmp true,at_,val (.int .u32 x),cmp true,num 0]) ⟨[],[],[]⟩) 3 18 none
  [sl 0 o (n1 n).toNat c,j1,j2] ⟨1,[(l,tR)]⟩ [(ZA c,true),(ZQ 0 (n1 n) c c,true),(decide ((c:Int)=0∧(0:Int)≠0),false),(x==0,true),(Z5 (l[o+(n1 n).toNat*1]?) (.int .u32 x),true),(decide (0≤n1 n∧n1 n<n),true),(decide ((n:Int)>0),true)]:=by unfold GoesE;kernel_rfl
theorem Zlb (j1 j2:Value) (p:Option Addr) (n c:Nat) (h:Hp) (g:Nat→Value):GoesE (evC (Zk prog Zf Zn true) 100 false (ZkZ f112) ([.slice p n c,j1,j2]++tl 18 g,h,[cmp false]) ⟨[],[],[]⟩) 3 18 (some (some 0))
  [.slice p n c,j1,j2] h [(decide ((n:Int)>0),false)]:=by unfold GoesE;kernel_rfl
theorem Zlc (o n c:Nat) (x:Int) (l:List Value) (j1 j2:Value) (g:Nat→Value):GoesE (evC (Zk prog Zf Zn true) 100 false (ZkZ f112) ([sl 0 o n c,j1,j2]++tl 18 g,⟨1,[(l,tR)]⟩,[cmp true,at_,val (.int .u32 x),cmp false]) ⟨[],[],[]⟩) 3 18 (some (some 0))
  [sl 0 o n c,j1,j2] ⟨1,[(l,tR)]⟩ [(x==0,false),(Z5 (l[o+(n1 n).toNat*1]?) (.int .u32 x),true),(decide (0≤n1 n∧n1 n<n),true),(decide ((n:Int)>0),true)]:=by unfold GoesE;kernel_rfl
theorem Zpi (v j1 j2:Value) (h:Hp) (g:Nat→Value):Zg (evC (Zk prog Zf Zn true) 100 false (Z4L f112) ([v,j1,j2]++tl 18 g,h,[]) ⟨[],[],[]⟩) 3 18 (some none) [v,j1,v] h []:=by and_intros<;>kernel_rfl
def Zpj:Value→Int
 | .int _ n=>n
 | _=>0
def isU:Value→Bool
 | .int .u32 n=>decide (0≤n∧n<4294967296)
 | _=>false
theorem Zfv {v:Value}(h:isU v=true):v= .int .u32 (Zpj v)∧0≤Zpj v∧Zpj v<4294967296:=by
 unfold isU at h;split at h
 ·simp only[Xi] at h;exact⟨rfl,h.1,h.2⟩
 ·cases h
def Zce (l:List Value) (o n:Nat):List Value:=(l.drop o).take n
def Zx (l:List Value) (o n:Nat):List Int:=(Zce l o n).map Zpj
def Z6 (ty:TypeId) (l:List Value) (o n c:Nat):Bool:= !(Zak ty) && Nat.beq (rt ty) tU && Nat.ble (o+n) l.length && Nat.ble n c && ZA c && (Zce l o n).all isU && l.all still
theorem ZeP {l:List Value}{o n:Nat}(h:((Zce l o n).all isU)=true):Zce l o n=wU (Zx l o n):=by
 unfold wU Zx;rw[List.map_map];refine (List.map_id' _).symm.trans (List.map_congr_left fun v hv=> ?_);exact (Zfv (List.all_eq_true.1 h v hv)).1
structure Row (l:List Value) (o:Nat) (L:List Int):Prop where
 len:o+L.length≤l.length
 cut:Zce l o L.length=wU L
 rng:∀ x∈L,0≤x∧x<4294967296
theorem Row.cell {l:List Value}{o:Nat}{L:List Int}(h:Row l o L) {k:Nat}(hk:k<L.length):l[o+k]? =some (.int .u32 (L.getD k 0)):=by
 have e:(Zce l o L.length)[k]? =(wU L)[k]? :=by rw[h.cut]
 unfold Zce wU at e;rw[List.getElem?_take,if_pos hk,List.getElem?_drop,List.getElem?_map] at e;rw[e,List.getElem?_eq_getElem hk];simp [List.getD,List.getElem?_eq_getElem hk]
theorem ZH {ty:TypeId}{l:List Value}{o n c:Nat}(h:Z6 ty l o n c=true):Row l o (Zx l o n)∧(Zx l o n).length=n∧n≤c∧ZA c=true∧Zak ty=false∧rt ty=tU∧∀ v∈l,still v=true:=by
 unfold Z6 at h;simp only[Xh,Bool.not_eq_true'] at h;obtain⟨⟨⟨⟨⟨⟨h1,h2⟩,h3⟩,h4⟩,h5⟩,h6⟩,h7⟩:=h;have h2:=Xj h2;have h3:=Nat.le_of_ble_eq_true h3;have h4:=Nat.le_of_ble_eq_true h4;have hlen:(Zx l o n).length=n:=by unfold Zx Zce;simp;omega
 refine⟨⟨by rw[hlen];exact h3,by rw[hlen];exact ZeP h6,fun x hx=> ?_⟩,hlen,h4,h5,h1,h2,List.all_eq_true.1 h7⟩;unfold Zx at hx;obtain⟨v,hv,rfl⟩:=List.mem_map.1 hx;have:=Zfv (List.all_eq_true.1 h6 v hv);exact⟨this.2.1,this.2.2⟩
theorem Zld {l:List Value}{o c:Nat}{L:List Int}(hR:Row l o L) (hc:ZA c=true) (hn:L.length≤c):
  Runs (Zk prog Zf Zn true) (ZW (ZyP f112) (.seq (.block 0 (.loop (ZkZ f112))) (Z4L f112))) ([sl 0 o L.length c]++List.replicate 20 undef,⟨1,[(l,tR)]⟩,[]) fun e y=>(e=none∨e=some none)∧ZV prog f112 y.1 y.2.1=some (sl 0 o (Zl L) c):=by
 have hc':c<4611686018427387904:=Zo.1 hc;refine Zv (Zj Zd) (Zph _ _) (fun x hx=>by cases hx) fun g=> ?_;refine Runs.seq (P1:=fun e y=>e=none∧(∃ g,y.1=[sl 0 o (Zl L) c,undef,Zp]++tl 18 g)∧y.2.1=⟨1,[(l,tR)]⟩) ?_ ?_ (fun e y he=>by cases he.1)
 ·refine (Runs.forLoop (P:=fun y=>(∃ g,y.1=[sl 0 o (Zl L) c,undef,Zp]++tl 18 g)∧y.2.1=⟨1,[(l,tR)]⟩) (R:=fun _=>False) (fun n y=>(∃ g,y.1=[sl 0 o n c,undef,Zp]++tl 18 g)∧y.2.1=⟨1,[(l,tR)]⟩∧n≤L.length∧∀ i,n≤i→L.getD i 0=0) ?_ (n:=L.length) ⟨⟨g,rfl⟩,rfl,Nat.le_refl _,fun i hi=>by simp [List.getD,List.getElem?_eq_none hi]⟩).mono fun e y he=> ?_
  ·rintro n ⟨t,h',s⟩ ⟨⟨g,ht⟩,hh,hle,hz⟩;simp only at ht hh;subst ht hh;cases n with
   | zero=>
    refine (Zb (Zj Zd) (Zlb undef Zp (some ⟨0,o,none⟩) 0 c _ g).t (Zt (by rfl))).mono fun e y he=> ?_;obtain⟨rfl,⟨g',h2⟩,h3⟩:=he;have e0:Zl L=0:=ZbS hz (.inl rfl);exact⟨rfl,⟨g',by rw[h2,e0];rfl⟩,h3⟩
   | succ k=>
    have ek:n1 (k+1)=(k:Int):=by
     unfold n1;rw[Zw (by omega) (by omega)];omega
    have hcell:=hR.cell (k:=k) (by omega);have hce:Z5 (l[o+(n1 (k+1)).toNat*1]?) (.int .u32 (L.getD k 0))=true:=by
     rw[ek,Xg,Nat.mul_one,hcell];simp [Z5]
    have hix:decide (0≤n1 (k+1)∧n1 (k+1)<((k+1:Nat):Int))=true:=by rw[ek];exact Xa (by omega)
    have hgt:decide (((k+1:Nat):Int)>0)=true:=Xa (by omega);by_cases hx:L.getD k 0=0
    ·refine (Zb (Zj Zd) (Zud o (k+1) c (L.getD k 0) l undef Zp g).t (Zi hc (Zi (by
      unfold ZQ;rw[ek];exact Xa (by omega)) (Zi (Xb (by omega)) (Zi (by rw[hx];rfl) (Zi hce (Zi hix (Zt hgt)))))))).mono fun e y he=> ?_
     obtain⟨rfl,⟨g',h2⟩,h3⟩:=he;rw[ek,Xg] at h2;refine⟨k,by omega,⟨g',h2⟩,h3,by omega,fun i hi=> ?_⟩;rcases Nat.lt_or_ge k i with h | h
     ·exact hz i h
     ·have:i=k:=by omega
      rw[this];exact hx
    ·refine (Zb (Zj Zd) (Zlc o (k+1) c (L.getD k 0) l undef Zp g).t (Zi (by simpa using hx) (Zi hce (Zi hix (Zt hgt))))).mono fun e y he=> ?_;obtain⟨rfl,⟨g',h2⟩,h3⟩:=he;have e0:Zl L=k+1:=ZbS hz (.inr (by simpa using hx));exact⟨rfl,⟨g',by rw[h2,e0]⟩,h3⟩
  ·match e,he with
   | none,he=>exact⟨rfl,he⟩
 ·rintro⟨t,h',s⟩ ⟨_,⟨g',ht⟩,hh⟩;simp only at ht hh;subst ht hh;refine (Zb (Zj Zd) (Zpi _ undef Zp _ g') (fun x hx=>by cases hx)).mono fun e y he=> ?_;obtain⟨rfl,⟨g2,h2⟩,h3⟩:=he;refine⟨.inr rfl,?_⟩;rw[h2,h3];rfl
theorem ZaK {l:List Value}(h:∀ v∈l,still v=true):(⟨1,[(l,tR)]⟩:Hp).rows:=by
 refine⟨rfl,fun b x hb=> ?_⟩;have hb0:b=0:=by have:b<1:=Hp.blk_lt hb;omega
 subst hb0;have:x=(l,tR):=(Option.some.inj hb).symm;rw[this];exact⟨Zpe,h,Zpf⟩
theorem zH {l:List Value}{h:Hp}{b:Nat}{x:List Value×TypeId}(hb:h.blk? b=some x) (h1:Zak x.2=false) (h2:rt x.2=tU) (e:x.1=l):(⟨1,[(l,tR)]⟩:Hp).fits (fun _=>b) h:=by
 intro i y hi _;have hb0:i=0:=by have:i<1:=Hp.blk_lt hi;omega
 subst hb0;have:y=(l,tR):=(Option.some.inj hi).symm;rw[this];exact⟨x,[],hb,h1,by rw[h2];exact Zpg.symm,by rw[e,List.append_nil]⟩
def Zgm:Zad:=fun vals h s=>
 match vals with
 | [.slice none 0 0]=>some (Zp,h,s,[])
 | [.slice (some ⟨b,o,none⟩) n c]=>
  match h.blk? b with
  | some x=>some (sl b o (Zl (Zx x.1 o n)) c,h,s,[(Z6 x.2 x.1 o n c,true)])
  | none=>none
 | _=>none
theorem Zpk:Z7 (Zm (Zk prog Zf Zn true) 100 112 [Zp] []) Zp []:=by and_intros<;>kernel_rfl
theorem ZbT:Z8 112 Zgm:=by
 intro vals h s v h' s' lg hg hl m B w E hv;unfold Zgm at hg;split at hg
 ·cases hg;refine (Zc (Zj Zd) Zpk (fun x hx=>by cases hx) (by rfl) (by rfl) w).mono fun e w' he=> ?_;obtain⟨E',hb⟩:=zc E he.2;exact⟨m,he.1,⟨Agree.refl _ _,E',hb,Nat.le_refl _,rfl⟩⟩
 ·rename_i b o n c;split at hg
  ·rename_i x hx;cases hg;obtain⟨h1,h2,h3,h4,h5,h6,h7⟩:=ZH (hl _ Xf);have hlt:=Hp.blk_lt hx;have r:=Zld h1 h4 (by rw[h2];exact h3);rw[h2] at r;have:=zi (T:=Zk prog Zf Zn true) func112 Zla (ZaK h7) (vals:=[sl 0 o n c]) (fun v hv=>by rw[List.mem_singleton.1 hv];rfl) (by rfl) r E (s:=fun _=>b) (fun i _=>hlt) (zH hx h5 h6 rfl);exact this.mono fun e w' he=>⟨m,he.1,he.2⟩
  ·cases hg
 ·cases hg
def h2 (la lb:List Value):Hp:=⟨2,[(lb,tR),(la,tR)]⟩
def ZeQ (a b i:Nat):Nat:=if Nat.beq i 0=true then a else b
theorem Z86 {la lb:List Value}{i:Nat}{x:List Value×TypeId}(h:(h2 la lb).blk? i=some x):(i=0∧x=(la,tR))∨(i=1∧x=(lb,tR)):=by
 have:i<2:=Hp.blk_lt h;have:i=0∨i=1:=by omega
 rcases this with rfl | rfl
 ·exact .inl ⟨rfl,(Option.some.inj h).symm⟩
 ·exact .inr ⟨rfl,(Option.some.inj h).symm⟩
theorem Zhe {la lb:List Value}(ha:∀ v∈la,still v=true) (hb:∀ v∈lb,still v=true):(h2 la lb).rows:=by
 refine⟨rfl,fun b x hx=> ?_⟩;rcases Z86 hx with ⟨_,e⟩ | ⟨_,e⟩<;>rw[e]
 ·exact⟨Zpe,ha,Zpf⟩
 ·exact⟨Zpe,hb,Zpf⟩
theorem ZdT {h:Hp}{a b:Nat}{x y:List Value×TypeId}(hx:h.blk? a=some x) (x1:Zak x.2=false) (x2:rt x.2=tU) (hy:h.blk? b=some y) (y1:Zak y.2=false) (y2:rt y.2=tU):(h2 x.1 y.1).fits (ZeQ a b) h:=by
 intro i z hz _;rcases Z86 hz with ⟨rfl,e⟩ | ⟨rfl,e⟩<;>rw[e]
 ·exact⟨x,[],hx,x1,by rw[x2];exact Zpg.symm,by rw[List.append_nil]⟩
 ·exact⟨y,[],hy,y1,by rw[y2];exact Zpg.symm,by rw[List.append_nil]⟩
def hT:Hp:=⟨1,[([],2*za)]⟩
theorem Z87 {i:Nat}{x:List Value×TypeId}(h:hT.blk? i=some x):x=([],2*za):=by
 have h1:i<1:=Hp.blk_lt h;have h2:i=0:=by omega
 subst h2;exact (Option.some.inj h).symm
theorem Z4M:Zak (2*za)=true:=by kernel_rfl
theorem roT:ro (2*za)=true:=by kernel_rfl
theorem Zz6:hT.rows:=⟨rfl,fun b x hx=>by rw[Z87 hx];exact⟨roT,(fun v hv=>by cases hv),by kernel_rfl⟩⟩
theorem ZsB (s:Nat→Nat) (h:Hp):hT.fits s h:=fun i x hx ht=>by rw[Z87 hx,Z4M] at ht;cases ht
end Go.Proofs.YtjlponbdflkbjaaGreatDoor
namespace Go.Proofs.YtjlponbdflkbjaaGreatDoor.Na
open Go.KRun Go.Nt
set_option maxRecDepth 100000
def i6' (n:Int):Value:= .int .i64 n
def oA (F:Func):Code:=Z2 (Zz (Zs F))
def oR (F:Func):Code:=Z2 (Z2 (Zz (Zz (Zs F))))
def Zle (F:Func):Code:=cIn (cIn (Zz (Z2 (Zz (Zz (Zs F))))))
def Z4N (F:Func):Code:=Zz (Zz (Zz (Zs F)))
end Go.Proofs.YtjlponbdflkbjaaGreatDoor.Na
namespace Go.Proofs.YtjlponbdflkbjaaGreatDoor.Na
open Go.Proofs.Tryz
open Go.IntKind
open Go.KRun Go.Nt
set_option maxRecDepth 100000
def Zue (d:Bool):Int:=match d with | true=> -1 | false=>1
theorem Zlf (d:Bool):Z7 (Zm (Zk prog Zf Zn true) 100 134 [.bool d] []) (i6' (Zue d)) []:=by
 cases d<;>exact by and_intros<;>kernel_rfl
def Zuf:Ans:=fun vals s=>
 match vals with
 | [.bool d]=>some (i6' (Zue d),s,[])
 | _=>none
theorem Zpl:ZR 134 Zuf:=by
 intro vals s v s' lg h hl w;unfold Zuf at h;split at h
 ·cases h;exact Zc (Zj Zd) (Zlf _) (fun x hx=>by cases hx) (by rfl) (by rfl) w
 ·cases h
def Zbz:Con:=alt 134 Zuf Zn
theorem zn:ConOk Zbz:=Z9 func134 rfl Zpl Zd
theorem Zd6:f120.body=some (ZW (ZyP f120) (.seq (oA f120) (.seq (.seq (oR f120) (.block 0 (.loop (Zle f120)))) (Z4N f120)))):=by kernel_rfl
theorem Zhf (v w:Value) (h:Hp):Zg (evL (Zk prog Zf Zbz true) 100 (ZyP f120) ([v,w]++List.replicate 41 undef,h,[]) ⟨[],[],[]⟩) 6 37 none [v,w,undef,undef,i6' 0,undef] h []:=by and_intros<;>kernel_rfl
theorem Zz7 (p q:Option Addr) (n c k d:Nat) (j2 j3 j4 j5:Value) (h:Hp) (g:Nat→Value):GoesE (evC (Zk prog Zf Zbz true) 100 false (oA f120) ([.slice p n c,.slice q k d,j2,j3,j4,j5]++tl 37 g,h,[cmp true,cmp true]) ⟨[],[],[]⟩) 6 37 (some none)
  [.slice p n c,.slice q k d,j2,j3,i6' (-1),j5] h [(decide ((n:Int)<k),true),((n:Int) !=k,true)]:=by unfold GoesE;kernel_rfl
theorem Zz8 (p q:Option Addr) (n c k d:Nat) (j2 j3 j4 j5:Value) (h:Hp) (g:Nat→Value):GoesE (evC (Zk prog Zf Zbz true) 100 false (oA f120) ([.slice p n c,.slice q k d,j2,j3,j4,j5]++tl 37 g,h,[cmp true,cmp false]) ⟨[],[],[]⟩) 6 37 (some none)
  [.slice p n c,.slice q k d,j2,j3,i6' 1,j5] h [(decide ((n:Int)<k),false),((n:Int) !=k,true)]:=by unfold GoesE;kernel_rfl
theorem ZsC (p q:Option Addr) (n c k d:Nat) (j2 j3 j4 j5:Value) (h:Hp) (g:Nat→Value):GoesE (evC (Zk prog Zf Zbz true) 100 false (oA f120) ([.slice p n c,.slice q k d,j2,j3,j4,j5]++tl 37 g,h,[cmp false]) ⟨[],[],[]⟩) 6 37 none
  [.slice p n c,.slice q k d,j2,j3,j4,j5] h [((n:Int) !=k,false)]:=by unfold GoesE;kernel_rfl
theorem Zz9 (p:Option Addr) (n c:Nat) (w j2 j3 j4 j5:Value) (h:Hp) (g:Nat→Value):GoesE (evC (Zk prog Zf Zbz true) 100 false (oR f120) ([.slice p n c,w,j2,j3,j4,j5]++tl 37 g,h,[]) ⟨[],[],[]⟩) 6 37 none
  [.slice p n c,w,j2,j3,j4,i6' (n1 n)] h []:=by unfold GoesE;kernel_rfl
theorem Zlg (v w j2 j3 j4:Value) (i:Int) (h:Hp) (g:Nat→Value):GoesE (evC (Zk prog Zf Zbz true) 100 false (Zle f120) ([v,w,j2,j3,j4,i6' i]++tl 37 g,h,[cmp false]) ⟨[],[],[]⟩) 6 37 (some (some 0))
  [v,w,j2,j3,j4,i6' i] h [(decide (i≥0),false)]:=by unfold GoesE;kernel_rfl
theorem ZzA (o n c o' n' c':Nat) (i x y:Int) (la lb:List Value) (j2 j3 j4:Value) (g:Nat→Value):Zg (evC (Zk prog Zf Zbz true) 100 false (Zle f120) ([sl 0 o n c,sl 1 o' n' c',j2,j3,j4,i6' i]++tl 37 g,h2 la lb,[cmp true,at_,val (.int .u32 x),at_,val (.int .u32 y),cmp false]) ⟨[],[],[]⟩) 6 37 none
  [sl 0 o n c,sl 1 o' n' c',j2,j3,j4,i6' (i64.wrap (i-1))] (h2 la lb) [(x !=y,false),(Z5 (lb[o'+i.toNat*1]?) (.int .u32 y),true),(decide (0≤i∧i<n'),true),(Z5 (la[o+i.toNat*1]?) (.int .u32 x),true),(decide (0≤i∧i<n),true),(decide (i≥0),true)]:=by and_intros<;>kernel_rfl
theorem ZzB (d:Bool) (o n c o' n' c':Nat) (i x y:Int) (la lb:List Value) (j2 j3 j4:Value) (g:Nat→Value):Zg (evC (Zk prog Zf Zbz true) 100 false (Zle f120) ([sl 0 o n c,sl 1 o' n' c',j2,j3,j4,i6' i]++tl 37 g,h2 la lb,[cmp true,at_,val (.int .u32 x),at_,val (.int .u32 y),cmp true,at_,val (.int .u32 x),at_,val (.int .u32 y),cmp d]) ⟨[],[],[]⟩) 6 37 (some none)
  [sl 0 o n c,sl 1 o' n' c',j2,j3,i6' (Zue d),i6' i] (h2 la lb) [(decide (x<y),d),(Z5 (lb[o'+i.toNat*1]?) (.int .u32 y),true),(decide (0≤i∧i<n'),true),(Z5 (la[o+i.toNat*1]?) (.int .u32 x),true),(decide (0≤i∧i<n),true),(x !=y,true),(Z5 (lb[o'+i.toNat*1]?) (.int .u32 y),true),(decide (0≤i∧i<n'),true),(Z5 (la[o+i.toNat*1]?) (.int .u32 x),true),(decide (0≤i∧i<n),true),(decide (i≥0),true)]:=by
 cases d<;>exact by and_intros<;>kernel_rfl
theorem Zlh (v w j2 j3 j4 j5:Value) (h:Hp) (g:Nat→Value):GoesE (evC (Zk prog Zf Zbz true) 100 false (Z4N f120) ([v,w,j2,j3,j4,j5]++tl 37 g,h,[]) ⟨[],[],[]⟩) 6 37 (some none)
  [v,w,j2,j3,i6' 0,j5] h []:=by unfold GoesE;kernel_rfl
def Z4i (F:Func):Code:=ZW (ZyP F) (.seq (oA F) (.seq (.seq (oR F) (.block 0 (.loop (Zle F)))) (Z4N F)))
theorem Zgn (p q:Option Addr) (n c k d:Nat) (h:Hp) (hn:n≠k):
  Runs (Zk prog Zf Zbz true) (Z4i f120) ([.slice p n c,.slice q k d]++List.replicate 41 undef,h,[]) fun e y=>(e=none∨e=some none)∧ZV prog f120 y.1 y.2.1=some (i6' (if n<k then -1 else 1)):=by
 refine Zv (Zj zn) (Zhf _ _ _) (fun x hx=>by cases hx) fun g=> ?_;by_cases hl:n<k
 ·refine Runs.seq (Zb (Zj zn) (Zz7 p q n c k d undef undef (i6' 0) undef h g).t (Zi (Xa (by omega)) (Zt (by simp;omega)))) (fun y he=>by cases he.1) (fun e y he=> ?_);obtain⟨h1,⟨g3,e2⟩,e3⟩:=he;refine⟨.inr h1,?_⟩;rw[e2,e3,if_pos hl];rfl
 ·refine Runs.seq (Zb (Zj zn) (Zz8 p q n c k d undef undef (i6' 0) undef h g).t (Zi (Xb (by omega)) (Zt (by simp;omega)))) (fun y he=>by cases he.1) (fun e y he=> ?_);obtain⟨h1,⟨g3,e2⟩,e3⟩:=he;refine⟨.inr h1,?_⟩;rw[e2,e3,if_neg hl];rfl
theorem Zli (p q:Option Addr) (c d:Nat) (h:Hp):
  Runs (Zk prog Zf Zbz true) (Z4i f120) ([.slice p 0 c,.slice q 0 d]++List.replicate 41 undef,h,[]) fun e y=>(e=none∨e=some none)∧ZV prog f120 y.1 y.2.1=some (i6' 0):=by
 refine Zv (Zj zn) (Zhf _ _ _) (fun x hx=>by cases hx) fun g=> ?_;refine Runs.seq (Zb (Zj zn) (ZsC p q 0 c 0 d undef undef (i6' 0) undef h g).t (Zt (by rfl))) ?_ (fun e y he=>by cases he.1);rintro⟨t,h',s⟩ ⟨_,⟨g1,ht⟩,hh⟩;simp only at ht hh;subst ht hh;refine Runs.seq (P1:=fun e y=>e=none∧(∃ g i,y.1=[.slice p 0 c,.slice q 0 d,undef,undef,i6' 0,i6' i]++tl 37 g)∧y.2.1=h') ?_ ?_ (fun e y he=>by cases he.1)
 ·refine Runs.seq (Zb (Zj zn) (Zz9 p 0 c _ undef undef (i6' 0) undef h' g1).t (fun x hx=>by cases hx)) ?_ (fun e y he=>by cases he.1);rintro⟨t,h'',s⟩ ⟨_,⟨g2,ht⟩,hh⟩;simp only at ht hh;subst ht hh;refine (Runs.forLoop (P:=fun y=>(∃ g i,y.1=[.slice p 0 c,.slice q 0 d,undef,undef,i6' 0,i6' i]++tl 37 g)∧y.2.1=h'') (R:=fun _=>False) (fun _ y=>∃ g,y.1=[.slice p 0 c,.slice q 0 d,undef,undef,i6' 0,i6' (n1 0)]++tl 37 g∧y.2.1=h'') ?_ (n:=0) ⟨g2,rfl,rfl⟩).mono fun e y he=> ?_
  ·rintro _ ⟨t,h3,s⟩ ⟨g,ht,hh⟩;simp only at ht hh;subst ht hh;refine (Zb (Zj zn) (Zlg _ _ undef undef (i6' 0) (n1 0) h3 g).t (Zt (by rfl))).mono fun e y he=> ?_;obtain⟨rfl,⟨g',e2⟩,e3⟩:=he;exact⟨rfl,⟨g',_,e2⟩,e3⟩
  ·match e,he with
   | none,he=>exact⟨rfl,he⟩
 ·rintro⟨t,h'',s⟩ ⟨_,⟨g2,i,ht⟩,hh⟩;simp only at ht hh;subst ht hh;refine (Zb (Zj zn) (Zlh _ _ undef undef (i6' 0) _ h'' g2).t (fun x hx=>by cases hx)).mono fun e y he=> ?_;obtain⟨rfl,⟨g3,e2⟩,e3⟩:=he;refine⟨.inr rfl,?_⟩;rw[e2,e3];rfl
theorem Zpm {la lb:List Value}{o o' c c':Nat}{La Lb:List Int}(Ra:Row la o La) (Rb:Row lb o' Lb) (hc:La.length<4611686018427387904):
  Runs (Zk prog Zf Zbz true) (Z4i f120) ([sl 0 o La.length c,sl 1 o' Lb.length c']++List.replicate 41 undef,h2 la lb,[]) fun e y=>(e=none∨e=some none)∧ZV prog f120 y.1 y.2.1=some (i6' (Zci La Lb)):=by
 by_cases hn:La.length=Lb.length
 ·unfold Zci;rw[if_pos hn];refine Zv (Zj zn) (Zhf _ _ _) (fun x hx=>by cases hx) fun g=> ?_;refine Runs.seq (Zb (Zj zn) (ZsC _ _ La.length c Lb.length c' undef undef (i6' 0) undef (h2 la lb) g).t (Zt (by simp [hn]))) ?_ (fun e y he=>by cases he.1);rintro⟨t,h',s⟩ ⟨_,⟨g1,ht⟩,hh⟩;simp only at ht hh;subst ht hh;refine Runs.seq (P1:=fun e y=>(e=none∧(∃ g i,y.1=[sl 0 o La.length c,sl 1 o' Lb.length c',undef,undef,i6' 0,i6' i]++tl 37 g)∧y.2.1=h2 la lb∧Zan La Lb La.length=0)∨(e=some none∧(∃ g i,y.1=[sl 0 o La.length c,sl 1 o' Lb.length c',undef,undef,i6' (Zan La Lb La.length),i6' i]++tl 37 g)∧y.2.1=h2 la lb)) ?_ ?_ ?_
  ·refine Runs.seq (Zb (Zj zn) (Zz9 _ La.length c _ undef undef (i6' 0) undef _ g1).t (fun x hx=>by cases hx)) ?_ (fun e y he=>by cases he.1);rintro⟨t,h'',s⟩ ⟨_,⟨g2,ht⟩,hh⟩;simp only at ht hh;subst ht hh;refine (Runs.forLoop (P:=fun y=>(∃ g i,y.1=[sl 0 o La.length c,sl 1 o' Lb.length c',undef,undef,i6' 0,i6' i]++tl 37 g)∧y.2.1=h2 la lb∧Zan La Lb La.length=0) (R:=fun y=>(∃ g i,y.1=[sl 0 o La.length c,sl 1 o' Lb.length c',undef,undef,i6' (Zan La Lb La.length),i6' i]++tl 37 g)∧y.2.1=h2 la lb)
    (fun r y=>∃ (g:Nat→Value),r≤La.length∧y.1=[sl 0 o La.length c,sl 1 o' Lb.length c',undef,undef,i6' 0,i6' ((r:Int)-1)]++tl 37 g∧y.2.1=h2 la lb∧Zan La Lb La.length=Zan La Lb r) ?_ (n:=La.length) ⟨g2,Nat.le_refl _,by unfold n1;rw[Zw (by omega) (by omega)];rfl,rfl,rfl⟩).mono fun e y he=> ?_
   ·rintro r ⟨t,h3,s⟩ ⟨g,hk,ht,hh,htop⟩;simp only at ht hh;subst ht hh;cases r with
    | zero=>
     refine (Zb (Zj zn) (Zlg _ _ undef undef (i6' 0) _ _ g).t (Zt (by rfl))).mono fun e y he=> ?_;obtain⟨rfl,⟨g',e2⟩,e3⟩:=he;exact⟨rfl,⟨g',_,e2⟩,e3,htop⟩
    | succ k=>
     have ek:((k+1:Nat):Int)-1=(k:Int):=by omega
     rw[ek];have ca:=Ra.cell (k:=k) (by omega);have cb:=Rb.cell (k:=k) (by omega);have ha:Z5 (la[o+((k:Int)).toNat*1]?) (.int .u32 (La.getD k 0))=true:=by
      rw[Xg,Nat.mul_one,ca];simp [Z5]
     have hb:Z5 (lb[o'+((k:Int)).toNat*1]?) (.int .u32 (Lb.getD k 0))=true:=by
      rw[Xg,Nat.mul_one,cb];simp [Z5]
     have q1:decide (0≤(k:Int)∧(k:Int)<(La.length:Nat))=true:=Xa (by omega);have q2:decide (0≤(k:Int)∧(k:Int)<(Lb.length:Nat))=true:=Xa (by omega);have q3:decide ((k:Int)≥0)=true:=Xa (by omega);by_cases hx:La.getD k 0=Lb.getD k 0
     ·refine (Zb (Zj zn) (ZzA o La.length c o' Lb.length c' k (La.getD k 0) (Lb.getD k 0) la lb undef undef (i6' 0) g) (Zi (by show (La.getD k 0 !=Lb.getD k 0)=false;rw[hx];exact bne_self_eq_false _) (Zi hb (Zi q2 (Zi ha (Zi q1 (Zt q3))))))).mono fun e y he=> ?_;obtain⟨rfl,⟨g',e2⟩,e3⟩:=he;refine⟨k,by omega,g',by omega,?_,e3,?_⟩
      ·rw[e2,Zw (by omega) (by omega)]
      ·rw[htop];simp only[Zan];rw[if_pos hx]
     ·have hne:(La.getD k 0 !=Lb.getD k 0)=true:=by simpa using hx
      refine (Zb (Zj zn) (ZzB (decide (La.getD k 0<Lb.getD k 0)) o La.length c o' Lb.length c' k (La.getD k 0) (Lb.getD k 0) la lb undef undef (i6' 0) g) (Zi rfl (Zi hb (Zi q2 (Zi ha (Zi q1 (Zi hne (Zi hb (Zi q2 (Zi ha (Zi q1 (Zt q3)))))))))))).mono fun e y he=> ?_;obtain⟨rfl,⟨g',e2⟩,e3⟩:=he;refine⟨⟨g',k,?_⟩,e3⟩;rw[e2,htop];simp only[Zan];rw[if_neg hx];by_cases hlt:La.getD k 0<Lb.getD k 0
      ·rw[if_pos hlt,Xa hlt];rfl
      ·rw[if_neg hlt,Xb hlt];rfl
   ·match e,he with
    | none,he=>exact .inl ⟨rfl,he⟩
    | some none,he=>exact .inr ⟨rfl,he⟩
  ·rintro⟨t,h'',s⟩ (⟨_,⟨g2,i,ht⟩,hh,heq⟩ | ⟨h,_⟩)
   ·simp only at ht hh;subst ht hh;refine (Zb (Zj zn) (Zlh _ _ undef undef (i6' 0) _ _ g2).t (fun x hx=>by cases hx)).mono fun e y he=> ?_;obtain⟨rfl,⟨g3,e2⟩,e3⟩:=he;refine⟨.inr rfl,?_⟩;rw[e2,e3,heq];rfl
   ·cases h
  ·rintro e y (⟨h,_⟩ | ⟨h1,⟨g3,i,e2⟩,e3⟩)
   ·cases h
   ·refine⟨.inr h1,?_⟩;rw[e2,e3];rfl
 ·unfold Zci;rw[if_neg hn];exact Zgn _ _ _ _ _ _ _ hn
def Zpn (n k:Nat):Int:=if n=k then 0 else if n<k then -1 else 1
theorem ZdU (p q:Option Addr) (n c k d:Nat) (h:Hp) (h0:n=0∨k=0):
  Runs (Zk prog Zf Zbz true) (Z4i f120) ([.slice p n c,.slice q k d]++List.replicate 41 undef,h,[]) fun e y=>(e=none∨e=some none)∧ZV prog f120 y.1 y.2.1=some (i6' (Zpn n k)):=by
 unfold Zpn;by_cases hn:n=k
 ·rw[if_pos hn];have e1:n=0:=by omega
  have e2:k=0:=by omega
  subst e1 e2;exact Zli p q c d h
 ·rw[if_neg hn];exact Zgn p q n c k d h hn
def Z4j:Zad:=fun vals h s=>
 match vals with
 | [.slice (some ⟨b,o,none⟩) n c,.slice (some ⟨b',o',none⟩) n' c']=>
  match h.blk? b,h.blk? b' with
  | some x,some y=>some (i6' (Zci (Zx x.1 o n) (Zx y.1 o' n')),h,s,[(Z6 x.2 x.1 o n c,true),(Z6 y.2 y.1 o' n' c',true)])
  | _,_=>none
 | [.slice none 0 0,.slice none 0 0]=>some (i6' 0,h,s,[])
 | [.slice none 0 0,.slice (some _) k _]=>some (i6' (Zpn 0 k),h,s,[])
 | [.slice (some _) n _,.slice none 0 0]=>some (i6' (Zpn n 0),h,s,[])
 | _=>none
theorem ZdV:Z8 120 Z4j:=by
 intro vals h s v h' s' lg hg hl m B w E hv;unfold Z4j at hg;split at hg
 ·rename_i b o n c b' o' n' c';split at hg
  ·rename_i x y hx hy;cases hg;obtain⟨a1,a2,a3,a4,a5,a6,a7⟩:=ZH (hl _ (Xe));obtain⟨b1,b2,b3,b4,b5,b6,b7⟩:=ZH (hl _ (Xd _ Xf));have hsm:n<4611686018427387904:=by have:=Zo.1 a4;unfold za at this;omega
   have r:=Zpm (c:=c) (c':=c') a1 b1 (by rw[a2];exact hsm);rw[a2,b2] at r;have lx:=Hp.blk_lt hx;have ly:=Hp.blk_lt hy;have:=zi (T:=Zk prog Zf Zbz true) func120 Zd6 (Zhe a7 b7) (vals:=[sl 0 o n c,sl 1 o' n' c']) (fun v hv=>by
    simp only[List.mem_cons,List.not_mem_nil,or_false] at hv;rcases hv with rfl | rfl<;>rfl) (by rfl) r E (s:=ZeQ b b') (fun i _=>by unfold ZeQ;split<;>assumption) (ZdT hx a5 a6 hy b5 b6)
   exact this.mono fun e w' he=>⟨m,he.1,he.2⟩
  ·cases hg
 ·cases hg;have r:=ZdU none none 0 0 0 0 ⟨0,[]⟩ (.inl rfl);refine (ZJ (T:=Zk prog Zf Zbz true) func120 Zd6 (vals:=[Zp,Zp]) (by rfl) (by rfl) r w).mono fun e w' he=> ?_;obtain⟨E',hb⟩:=zc E he.2;exact⟨m,he.1,⟨Agree.refl _ _,E',hb,Nat.le_refl _,rfl⟩⟩
 ·rename_i a k c;cases hg;have r:=ZdU none (some {a with block:=0}) 0 0 k c hT (.inl rfl);have hlt:a.block<h.n:=by
   have:=hv (.slice (some a) k c) (by simp);exact Zo.1 this
  have:=zi (T:=Zk prog Zf Zbz true) func120 Zd6 Zz6 (vals:=[Zp,.slice (some {a with block:=0}) k c]) (fun v hv=>by
   simp only[List.mem_cons,List.not_mem_nil,or_false] at hv;rcases hv with rfl | rfl<;>rfl) (by rfl) r E (s:=fun _=>a.block) (fun i _=>hlt) (ZsB _ _)
  exact this.mono fun e w' he=>⟨m,he.1,he.2⟩
 ·rename_i a n c;cases hg;have r:=ZdU (some {a with block:=0}) none n c 0 0 hT (.inr rfl);have hlt:a.block<h.n:=by
   have:=hv (.slice (some a) n c) (by simp);exact Zo.1 this
  have:=zi (T:=Zk prog Zf Zbz true) func120 Zd6 Zz6 (vals:=[.slice (some {a with block:=0}) n c,Zp]) (fun v hv=>by
   simp only[List.mem_cons,List.not_mem_nil,or_false] at hv;rcases hv with rfl | rfl<;>rfl) (by rfl) r E (s:=fun _=>a.block) (fun i _=>hlt) (ZsB _ _)
  exact this.mono fun e w' he=>⟨m,he.1,he.2⟩
 ·cases hg
end Go.Proofs.YtjlponbdflkbjaaGreatDoor.Na
namespace Go.Proofs.YtjlponbdflkbjaaGreatDoor.Na
open Go.KRun
set_option maxRecDepth 100000
def uu (n:Int):Value:= .int .u32 n
end Go.Proofs.YtjlponbdflkbjaaGreatDoor.Na
namespace Go.Proofs.YtjlponbdflkbjaaGreatDoor.Na
open Go.Proofs.Tryz
open Go.IntKind
open Go.KRun Go.Nt
set_option maxRecDepth 100000
def Zcu (k:Int):Value:= .iface 42 (.int .i64 k)
def ZcX (d:Bool):Value:=match d with | true=>Zcu 1 | false=> .nilIface
def ZU (L:List Int):Bool:=decide (8192<L.length) || (decide (0<L.length) && (L.getD (L.length-1) 0==0))
theorem Zpo (p:Option Addr) (n c:Nat) (h:Hp):Zg (evC (Zk prog Zf Zn true) 100 false (Zs f117) ([.slice p n c]++List.replicate 20 undef,h,[cmp true]) ⟨[],[],[]⟩) 3 18 (some none) [.slice p n c,undef,Zcu 1] h [(decide ((n:Int)>8192),true)]:=by and_intros<;>kernel_rfl
theorem Zpp (p:Option Addr) (n c:Nat) (h:Hp):Zg (evC (Zk prog Zf Zn true) 100 false (Zs f117) ([.slice p n c]++List.replicate 20 undef,h,[cmp false,cmp false]) ⟨[],[],[]⟩) 3 18 (some none) [.slice p n c,undef,.nilIface] h [(decide ((n:Int)>0),false),(decide ((n:Int)>8192),false)]:=by and_intros<;>kernel_rfl
theorem Zpq (d:Bool) (o n c:Nat) (x:Int) (l:List Value):Zg (evC (Zk prog Zf Zn true) 100 false (Zs f117) ([sl 0 o n c]++List.replicate 20 undef,⟨1,[(l,tR)]⟩,[cmp false,cmp true,at_,val (.int .u32 x),cmp d]) ⟨[],[],[]⟩) 3 18 (some none) [sl 0 o n c,undef,ZcX d] ⟨1,[(l,tR)]⟩ [(x==0,d),(Z5 (l[o+(n1 n).toNat*1]?) (.int .u32 x),true),(decide (0≤n1 n∧n1 n<n),true),(decide ((n:Int)>0),true),(decide ((n:Int)>8192),false)]:=by
 cases d<;>exact by and_intros<;>kernel_rfl
theorem Zpr:f117.body=some (Zs f117):=by kernel_rfl
theorem Zps {l:List Value}{o c:Nat}{L:List Int}(hR:Row l o L):
  Runs (Zk prog Zf Zn true) (Zs f117) ([sl 0 o L.length c]++List.replicate 20 undef,⟨1,[(l,tR)]⟩,[]) fun e y=>(e=none∨e=some none)∧ZV prog f117 y.1 y.2.1=some (ZcX (ZU L)):=by
 unfold ZU;by_cases h1:8192<L.length
 ·rw[Xa h1,Bool.true_or];refine (Zb (Zj Zd) (Zpo _ _ _ _) (Zt (Xa (by omega)))).mono fun e y he=> ?_;obtain⟨rfl,⟨g,e2⟩,e3⟩:=he;refine⟨.inr rfl,?_⟩;rw[e2,e3];rfl
 ·rw[Xb h1,Bool.false_or];by_cases h2:0<L.length
  ·rw[Xa h2,Bool.true_and];have ek:n1 L.length=((L.length-1:Nat):Int):=by
    unfold n1;rw[Zw (by omega) (by omega)];omega
   refine (Zb (Zj Zd) (Zpq (L.getD (L.length-1) 0==0) o L.length c (L.getD (L.length-1) 0) l) (Zi rfl (Zi (by
    rw[ek,Xg,Nat.mul_one,hR.cell (by omega)];simp [Z5]) (Zi (by rw[ek];exact Xa (by omega)) (Zi (Xa (by omega)) (Zt (Xb (by omega)))))))).mono fun e y he=> ?_
   obtain⟨rfl,⟨g,e2⟩,e3⟩:=he;refine⟨.inr rfl,?_⟩;rw[e2,e3];generalize (L.getD (L.length-1) 0==0)=d;cases d<;>rfl
  ·rw[Xb h2,Bool.false_and];refine (Zb (Zj Zd) (Zpp _ _ _ _) (Zi (Xb (by omega)) (Zt (Xb (by omega))))).mono fun e y he=> ?_;obtain⟨rfl,⟨g,e2⟩,e3⟩:=he;refine⟨.inr rfl,?_⟩;rw[e2,e3];rfl
theorem Zug:Z7 (Zm (Zk prog Zf Zn true) 100 117 [Zp] []) .nilIface []:=by and_intros<;>kernel_rfl
def Z4k:Zad:=fun vals h s=>
 match vals with
 | [.slice none 0 0]=>some (.nilIface,h,s,[])
 | [.slice (some ⟨b,o,none⟩) n c]=>
  match h.blk? b,s with
  | some x,.inr (.inr (.inr (.inl d)))::s'=>some (ZcX d,h,s',[(Z6 x.2 x.1 o n c,true),(ZU (Zx x.1 o n),d)])
  | _,_=>none
 | _=>none
theorem Zlj:Z8 117 Z4k:=by
 intro vals h s v h' s' lg hg hl m B w E hv;unfold Z4k at hg;split at hg
 ·cases hg;refine (Zc (Zj Zd) Zug (fun x hx=>by cases hx) (by rfl) (by rfl) w).mono fun e w' he=> ?_;obtain⟨E',hb⟩:=zc E he.2;exact⟨m,he.1,⟨Agree.refl _ _,E',hb,Nat.le_refl _,rfl⟩⟩
 ·rename_i b o n c;split at hg
  ·rename_i x d s2 hx;cases hg;obtain⟨h1,h2,h3,h4,h5,h6,h7⟩:=ZH (hl _ (Xe));have hd:=hl _ (Xd _ Xf);simp only at hd;have hlt:=Hp.blk_lt hx;have r:=Zps (c:=c) h1;rw[h2,hd] at r;have e0:rn (fun _=>b) (ZcX d)=ZcX d:=by cases d<;>rfl
   have:=zi (T:=Zk prog Zf Zn true) func117 Zpr (ZaK h7) (vals:=[sl 0 o n c]) (fun v hv=>by rw[List.mem_singleton.1 hv];rfl) (by cases d<;>rfl) r E (s:=fun _=>b) (fun i _=>hlt) (zH hx h5 h6 rfl);rw[e0] at this;exact this.mono fun e w' he=>⟨m,he.1,he.2⟩
  ·cases hg
 ·cases hg
def hcK:Hc:=zS 117 Z4k hcN
theorem ZeR:HcOk hcK:=Z1 func117 rfl Zlj Zam
def Zhg (l:List Value) (o n c:Nat):Bool×Bool:=(Z6 tR l o n c,true)
theorem Zpt (o n c o' n' c':Nat) (la lb:List Value):Zg (evC (Zr prog Zf Zn hcK) 100 false (Zs f116) ([sl 0 o n c,sl 1 o' n' c']++List.replicate 11 undef,h2 la lb,[cmp true]) ⟨[],[],[]⟩) 5 8 (some none) [sl 0 o n c,sl 1 o' n' c',undef,undef,Zcu 1] (h2 la lb) [Zhg la o n c,(ZU (Zx la o n),true)]:=by and_intros<;>kernel_rfl
theorem ZzC (d:Bool) (o n c o' n' c':Nat) (la lb:List Value):Zg (evC (Zr prog Zf Zn hcK) 100 false (Zs f116) ([sl 0 o n c,sl 1 o' n' c']++List.replicate 11 undef,h2 la lb,[cmp false,cmp d]) ⟨[],[],[]⟩) 5 8 (some none) [sl 0 o n c,sl 1 o' n' c',undef,undef,ZcX d] (h2 la lb) [Zhg lb o' n' c',(ZU (Zx lb o' n'),d),Zhg la o n c,(ZU (Zx la o n),false)]:=by
 cases d<;>exact by and_intros<;>kernel_rfl
theorem zE {ty:TypeId}{l:List Value}{o n c:Nat}(h:Z6 ty l o n c=true):Z6 tR l o n c=true:=by
 unfold Z6 at*;simp only[Xh,Bool.not_eq_true'] at*;obtain⟨⟨⟨⟨⟨⟨h1,h2⟩,h3⟩,h4⟩,h5⟩,h6⟩,h7⟩:=h;exact⟨⟨⟨⟨⟨⟨ZbB,by kernel_rfl⟩,h3⟩,h4⟩,h5⟩,h6⟩,h7⟩
theorem ZdW:f116.body=some (Zs f116):=by kernel_rfl
theorem Zlk {la lb:List Value}{o n c o' n' c':Nat}(ha:Z6 tR la o n c=true) (hb:Z6 tR lb o' n' c'=true):
  Runs (Zr prog Zf Zn hcK) (Zs f116) ([sl 0 o n c,sl 1 o' n' c']++List.replicate 11 undef,h2 la lb,[]) fun e y=>(e=none∨e=some none)∧ZV prog f116 y.1 y.2.1=some (ZcX (ZU (Zx la o n) || ZU (Zx lb o' n'))):=by
 cases h:ZU (Zx la o n) with
 | true=>
  refine (Zb (Zh Zd ZeR) (Zpt o n c o' n' c' la lb) (Zi ha (Zt h))).mono fun e y he=> ?_;obtain⟨rfl,⟨g,e2⟩,e3⟩:=he;refine⟨.inr rfl,?_⟩;rw[e2,e3];rfl
 | false=>
  refine (Zb (Zh Zd ZeR) (ZzC (ZU (Zx lb o' n')) o n c o' n' c' la lb) (Zi hb (Zi rfl (Zi ha (Zt h))))).mono fun e y he=> ?_;obtain⟨rfl,⟨g,e2⟩,e3⟩:=he;refine⟨.inr rfl,?_⟩;rw[e2,e3,Bool.false_or];generalize ZU (Zx lb o' n')=d;cases d<;>rfl
theorem Zuh (d:Bool) (o n c:Nat) (l:List Value):Zg (evC (Zr prog Zf Zn hcK) 100 false (Zs f116) ([Zp,sl 0 o n c]++List.replicate 11 undef,⟨1,[(l,tR)]⟩,[cmp d]) ⟨[],[],[]⟩) 5 8 (some none) [Zp,sl 0 o n c,undef,undef,ZcX d] ⟨1,[(l,tR)]⟩ [Zhg l o n c,(ZU (Zx l o n),d)]:=by
 cases d<;>exact by and_intros<;>kernel_rfl
theorem Zui (d:Bool) (o n c:Nat) (l:List Value):Zg (evC (Zr prog Zf Zn hcK) 100 false (Zs f116) ([sl 0 o n c,Zp]++List.replicate 11 undef,⟨1,[(l,tR)]⟩,[cmp d]) ⟨[],[],[]⟩) 5 8 (some none) [sl 0 o n c,Zp,undef,undef,ZcX d] ⟨1,[(l,tR)]⟩ [Zhg l o n c,(ZU (Zx l o n),d)]:=by
 cases d<;>exact by and_intros<;>kernel_rfl
theorem Zpu:Z7 (Zm (Zk prog Zf Zn true) 100 116 [Zp,Zp] []) .nilIface []:=by and_intros<;>kernel_rfl
theorem Zif {vals:List Value}{l:List Value}{o n c:Nat}{d:Bool}(hf:Zg (evC (Zr prog Zf Zn hcK) 100 false (Zs f116) (vals++List.replicate 11 undef,⟨1,[(l,tR)]⟩,[cmp d]) ⟨[],[],[]⟩) 5 8 (some none) (vals++[undef,undef,ZcX d]) ⟨1,[(l,tR)]⟩ [Zhg l o n c,(ZU (Zx l o n),d)]) (ha:Z6 tR l o n c=true) (hd:ZU (Zx l o n)=d) (hr:∀ g,ZV prog f116 ((vals++[undef,undef,ZcX d])++tl 8 g) ⟨1,[(l,tR)]⟩=some (ZcX d)):
  Runs (Zr prog Zf Zn hcK) (Zs f116) (vals++List.replicate 11 undef,⟨1,[(l,tR)]⟩,[]) fun e y=>(e=none∨e=some none)∧ZV prog f116 y.1 y.2.1=some (ZcX d):=by
 refine (Zb (Zh Zd ZeR) hf (Zi ha (Zt hd))).mono fun e y he=> ?_;obtain⟨rfl,⟨g,e2⟩,e3⟩:=he;refine⟨.inr rfl,?_⟩;rw[e2,e3];exact hr g
def Zj0:Zad:=fun vals h s=>
 match vals with
 | [.slice (some ⟨b,o,none⟩) n c,.slice (some ⟨b',o',none⟩) n' c']=>
  match h.blk? b,h.blk? b',s with
  | some x,some y,.inr (.inr (.inr (.inl d)))::s'=>some (ZcX d,h,s',[(Z6 x.2 x.1 o n c,true),(Z6 y.2 y.1 o' n' c',true),(ZU (Zx x.1 o n) || ZU (Zx y.1 o' n'),d)])
  | _,_,_=>none
 | [.slice none 0 0,.slice (some ⟨b,o,none⟩) n c]=>
  match h.blk? b,s with
  | some x,.inr (.inr (.inr (.inl d)))::s'=>some (ZcX d,h,s',[(Z6 x.2 x.1 o n c,true),(ZU (Zx x.1 o n),d)])
  | _,_=>none
 | [.slice (some ⟨b,o,none⟩) n c,.slice none 0 0]=>
  match h.blk? b,s with
  | some x,.inr (.inr (.inr (.inl d)))::s'=>some (ZcX d,h,s',[(Z6 x.2 x.1 o n c,true),(ZU (Zx x.1 o n),d)])
  | _,_=>none
 | [.slice none 0 0,.slice none 0 0]=>some (.nilIface,h,s,[])
 | _=>none
theorem Zcv:Z8 116 Zj0:=by
 intro vals h s v h' s' lg hg hl m B w E hv;unfold Zj0 at hg;split at hg
 ·rename_i b o n c b' o' n' c';split at hg
  ·rename_i x y d s2 hx hy;cases hg;have ra:=hl _ (Xe);have rb:=hl _ (Xd _ Xe);obtain⟨a1,a2,a3,a4,a5,a6,a7⟩:=ZH ra;obtain⟨b1,b2,b3,b4,b5,b6,b7⟩:=ZH rb;have hd:=hl _ (Xd _ (Xd _ Xf));simp only at hd;have r:=Zlk (zE ra) (zE rb);rw[hd] at r;have lx:=Hp.blk_lt hx;have ly:=Hp.blk_lt hy;have e0:rn (ZeQ b b') (ZcX d)=ZcX d:=by cases d<;>rfl
   have:=zi (T:=Zr prog Zf Zn hcK) func116 ZdW (Zhe a7 b7) (vals:=[sl 0 o n c,sl 1 o' n' c']) (fun v hv=>by
    simp only[List.mem_cons,List.not_mem_nil,or_false] at hv;rcases hv with rfl | rfl<;>rfl) (by cases d<;>rfl) r E (s:=ZeQ b b') (fun i _=>by unfold ZeQ;split<;>assumption) (ZdT hx a5 a6 hy b5 b6)
   rw[e0] at this;exact this.mono fun e w' he=>⟨m,he.1,he.2⟩
  ·cases hg
 ·rename_i b o n c;split at hg
  ·rename_i x d s2 hx;cases hg;have ra:=hl _ (Xe);have hd:=hl _ (Xd _ Xf);simp only at hd;obtain⟨a1,a2,a3,a4,a5,a6,a7⟩:=ZH ra;have hlt:=Hp.blk_lt hx;have e0:rn (fun _=>b) (ZcX d)=ZcX d:=by cases d<;>rfl
   have r:=Zif (Zuh d o n c x.1) (zE ra) hd (fun _=>by cases d<;>rfl);have:=zi (T:=Zr prog Zf Zn hcK) func116 ZdW (ZaK a7) (vals:=[Zp,sl 0 o n c]) (fun v hv=>by
    simp only[List.mem_cons,List.not_mem_nil,or_false] at hv;rcases hv with rfl | rfl<;>rfl) (by cases d<;>rfl) r E (s:=fun _=>b) (fun i _=>hlt) (zH hx a5 a6 rfl)
   rw[e0] at this;exact this.mono fun e w' he=>⟨m,he.1,he.2⟩
  ·cases hg
 ·rename_i b o n c;split at hg
  ·rename_i x d s2 hx;cases hg;have ra:=hl _ (Xe);have hd:=hl _ (Xd _ Xf);simp only at hd;obtain⟨a1,a2,a3,a4,a5,a6,a7⟩:=ZH ra;have hlt:=Hp.blk_lt hx;have e0:rn (fun _=>b) (ZcX d)=ZcX d:=by cases d<;>rfl
   have r:=Zif (Zui d o n c x.1) (zE ra) hd (fun _=>by cases d<;>rfl);have:=zi (T:=Zr prog Zf Zn hcK) func116 ZdW (ZaK a7) (vals:=[sl 0 o n c,Zp]) (fun v hv=>by
    simp only[List.mem_cons,List.not_mem_nil,or_false] at hv;rcases hv with rfl | rfl<;>rfl) (by cases d<;>rfl) r E (s:=fun _=>b) (fun i _=>hlt) (zH hx a5 a6 rfl)
   rw[e0] at this;exact this.mono fun e w' he=>⟨m,he.1,he.2⟩
  ·cases hg
 ·cases hg;refine (Zc (Zj Zd) Zpu (fun x hx=>by cases hx) (by rfl) (by rfl) w).mono fun e w' he=> ?_;obtain⟨E',hb⟩:=zc E he.2;exact⟨m,he.1,⟨Agree.refl _ _,E',hb,Nat.le_refl _,rfl⟩⟩
 ·cases hg
def wd4 (x y c:Int):Bool:=decide ((0≤x∧x<4294967296)∧(0≤y∧y<4294967296)∧0≤c∧c≤1)
def ZzD (x y c:Int):Value:= .tuple #[uu ((x+y+c) % 4294967296),uu ((x+y+c)/4294967296)]
def Zpv (x y c:Int):Int:=u64.wrap (u64.wrap (u64.wrap x+u64.wrap y)+u64.wrap c)
theorem Zj1 (x y c:Int):Z7 (Zm (Zk prog Zf Zn true) 100 147 [uu x,uu y,uu c] []) (.tuple #[uu (u32.wrap (Zpv x y c)),uu (u32.wrap ((Zpv x y c).fdiv (2^min ((32:Int).toNat) 64)))]) [(decide ((32:Int)<0),false)]:=by and_intros<;>kernel_rfl
theorem ZoB (n:Int):u64.wrap n=n % 18446744073709551616:=by simp [IntKind.wrap,IntKind.bits,IntKind.signed]
theorem ZgS (n:Int):u32.wrap n=n % 4294967296:=by simp [IntKind.wrap,IntKind.bits,IntKind.signed]
def Zll:Ans:=fun vals s=>
 match vals with
 | [.int .u32 x,.int .u32 y,.int .u32 c]=>some (ZzD x y c,s,[(wd4 x y c,true)])
 | _=>none
theorem Zlm:ZR 147 Zll:=by
 intro vals s v s' lg h hl w;unfold Zll at h;split at h
 ·rename_i x y c;cases h;have hr:=hl _ Xf;simp only[wd4,Xi] at hr;have e:Zpv x y c=x+y+c:=by
   unfold Zpv;rw[ZoB,ZoB,ZoB,ZoB,ZoB];omega
  have e2:(2:Int)^min ((32:Int).toNat) 64=4294967296:=rfl;have:=Zc (Zj Zd) (Zj1 x y c) (Zt (by rfl)) (by rfl) (by rfl) w;rw[e,e2,ZgS,ZgS,Int.fdiv_eq_ediv_of_nonneg _ (by omega),Int.emod_eq_of_lt (a:=(x+y+c)/4294967296) (by omega) (by omega)] at this;exact this
 ·cases h
end Go.Proofs.YtjlponbdflkbjaaGreatDoor.Na
namespace Go.Proofs.YtjlponbdflkbjaaGreatDoor.Na
open Go.KRun
set_option maxRecDepth 100000
def inR (i:Int) (n:Nat):Bool×Bool:=(decide (0≤i∧i<n),true)
def Zdr (l:List Value) (o:Nat) (i x:Int):Bool×Bool:=(Z5 (l[o+i.toNat*1]?) (uu x),true)
end Go.Proofs.YtjlponbdflkbjaaGreatDoor.Na
namespace Go.Nt
def vN:List Int→Int
 | []=>0
 | x::r=>x+4294967296*vN r
def dg:Nat→Int→List Int
 | 0,_=>[]
 | m+1,V=>V % 4294967296::dg m (V/4294967296)
def wds (L:List Int):Prop:=∀ x∈L,0≤x∧x<4294967296
theorem ZS:∀ (m:Nat) (V:Int),(dg m V).length=m
 | 0,_=>rfl
 | m+1,V=>by simp [dg,ZS m]
theorem Za2:∀ (m:Nat) (V:Int),wds (dg m V)
 | 0,_=>fun x hx=>by cases hx
 | m+1,V=>fun x hx=>by
  simp only[dg,List.mem_cons] at hx;rcases hx with rfl | hx
  ·omega
  ·exact Za2 m _ x hx
theorem Zae {x:Int}{L:List Int}(h:wds (x::L)):(0≤x∧x<4294967296)∧wds L:=⟨h x Xe,fun y hy=>h y (Xd _ hy)⟩
theorem Zfw:∀ L:List Int,wds L→dg L.length (vN L)=L
 | [],_=>rfl
 | x::r,h=>by
  obtain⟨h1,h2⟩:=Zae h;have ih:=Zfw r h2;simp only[List.length_cons,dg,vN];have e1:(x+4294967296*vN r) % 4294967296=x:=by omega
  have e2:(x+4294967296*vN r)/4294967296=vN r:=by omega
  rw[e1,e2,ih]
theorem pw (k:Nat):(4294967296:Int)^(k+1)=4294967296*4294967296^k:=by rw[Int.pow_succ,Int.mul_comm]
theorem Zav (k:Nat):(0:Int)<4294967296^k:=Int.pow_pos (by omega)
theorem Zpw {i j:Nat}(h:i≤j):(4294967296:Int)^i≤4294967296^j:=by
 have h1:∀ k:Nat,((4294967296^k:Nat):Int)=4294967296^k:=fun k=>by simp
 rw[← h1,← h1];have:=Nat.pow_le_pow_right (n:=4294967296) (by omega) h;omega
theorem ZaL:∀ L:List Int,wds L→0≤vN L∧vN L<4294967296^L.length
 | [],_=>by simp [vN]
 | x::r,h=>by
  obtain⟨h1,h2⟩:=Zae h;have ih:=ZaL r h2;simp only[List.length_cons,vN];rw[pw];omega
theorem zo:∀ (L:List Int) (d:Int),vN (L++[d])=vN L+4294967296^L.length*d
 | [],d=>by simp [vN]
 | x::r,d=>by
  have ih:=zo r d;simp only[List.cons_append,vN,List.length_cons];rw[ih,pw,Int.mul_assoc,Int.mul_add];omega
theorem ZsD:∀ (L M:List Int),vN (L++M)=vN L+4294967296^L.length*vN M
 | [],M=>by simp [vN]
 | x::r,M=>by
  have ih:=ZsD r M;simp only[List.cons_append,vN,List.length_cons];rw[ih,pw,Int.mul_assoc,Int.mul_add];omega
theorem Zaf {L M:List Int}(h1:wds L) (h2:wds M):wds (L++M):=fun x hx=>by
 rcases List.mem_append.1 hx with hx | hx
 ·exact h1 x hx
 ·exact h2 x hx
end Go.Nt
namespace Go.Proofs.YtjlponbdflkbjaaGreatDoor.Na
open Go.Proofs.Tryz
open Go.IntKind
open Go.KRun Go.Nt
set_option maxRecDepth 100000
def ZsE:Con:=alt 147 Zll Zn
theorem Zuj:ConOk ZsE:=Z9 func147 rfl Zlm Zd
def sn (k:Nat) (F:Func):Code:=match k with | 0=>Zs F | k+1=>Zz (sn k F)
def nP (n:Nat):Int:=i64.wrap ((n:Int)+1)
def cpy (la:List Value) (o n:Nat):List Value:=(List.replicate (nP n).toNat (uu 0)).take 0++(la.drop o).take (Nat.min n (nP n).toNat)++(List.replicate (nP n).toNat (uu 0)).drop (0+Nat.min n (nP n).toNat)
def h3 (la lb S:List Value):Hp:=⟨3,[(S,tU),(lb,tR),(la,tR)]⟩
def Z4l (la:List Value) (o n:Nat):Bool:= !(Zak tR) && !(ro tU) && Nat.ble (o+Nat.min n (nP n).toNat) la.length && Nat.ble (0+Nat.min n (nP n).toNat) (List.replicate (nP n).toNat (uu 0)).length && ((la.drop o).take (Nat.min n (nP n).toNat)).all one
end Go.Proofs.YtjlponbdflkbjaaGreatDoor.Na
namespace Go.Proofs.YtjlponbdflkbjaaGreatDoor.Na
open Go.KRun Go.Nt
set_option maxRecDepth 100000
theorem ZsF (dx:List Int) (x:Int) (px:List Int):(wU (dx++x::px))[dx.length]? =some (uu x):=by
 unfold wU;simp [uu]
theorem Zig (dx:List Int) (x d:Int) (px:List Int):(wU (dx++x::px)).set dx.length (uu d)=wU ((dx++[d])++px):=by
 unfold wU uu;simp
theorem Zaw {S:List Value}{o k:Nat}{x:Int}(h:S[o+k]? =some (uu x)):(Zdr S o k x).1=(Zdr S o k x).2:=by
 unfold Zdr;simp only[Xg,Nat.mul_one];rw[h];simp [Z5,uu]
theorem ZzE {n:Nat}(h:n≤8192):nP n=((n+1:Nat):Int):=by unfold nP;rw[Zw (by omega) (by omega)];omega
theorem Zih {n:Nat}(h:n≤8192):(nP n).toNat=n+1:=by rw[ZzE h,Xg]
theorem Zln {la:List Value}{o:Nat}{L:List Int}(hR:Row la o L) (h:L.length≤8192):cpy la o L.length=wU (L++[0]):=by
 unfold cpy;rw[Zih h,show Nat.min L.length (L.length+1)=L.length from by simp];have e1:(la.drop o).take L.length=wU L:=hR.cut;rw[e1,Nat.zero_add,List.take_zero,List.nil_append,List.drop_replicate,show L.length+1-L.length=1 from by omega];unfold wU uu;simp
theorem Zlo {la:List Value}{o:Nat}{L:List Int}(hR:Row la o L) (h:L.length≤8192):Z4l la o L.length=true:=by
 unfold Z4l;rw[Zih h,show Nat.min L.length (L.length+1)=L.length from by simp];have e1:(la.drop o).take L.length=wU L:=hR.cut;rw[e1,ZbB,show ro tU=false from by kernel_rfl];have h1:Nat.ble (o+L.length) la.length=true:=Nat.ble_eq_true_of_le hR.len;have h2:Nat.ble (0+L.length) (List.replicate (L.length+1) (uu 0)).length=true:=Nat.ble_eq_true_of_le (by simp);have h3:((wU L).all one)=true:=by
  unfold wU;rw[List.all_eq_true];intro v hv;obtain⟨x,_,rfl⟩:=List.mem_map.1 hv;rfl
 rw[h1,h2,h3];rfl
theorem ZzF {n:Nat}(h:n≤8192):ZI 4 (nP n) (nP n)=true:=by
 rw[ZzE h];exact Xa (by omega)
theorem ZsG {L:List Int}(h:wds L) {c:Nat}(hc:L.length≤c) (h2:ZA c=true):Z6 tU (wU L) 0 L.length c=true∧Zx (wU L) 0 L.length=L:=by
 have e1:Zce (wU L) 0 L.length=wU L:=by
  unfold Zce;rw[List.drop_zero];exact List.take_of_length_le (by unfold wU;simp)
 have e2:Zx (wU L) 0 L.length=L:=by
  unfold Zx;rw[e1];unfold wU;rw[List.map_map];exact (List.map_congr_left fun x _=>rfl).trans (List.map_id' _)
 refine⟨?_,e2⟩;unfold Z6;rw[e1,h2,show Zak tU=false from by kernel_rfl,show Nat.beq (rt tU) tU=true from by kernel_rfl,Nat.ble_eq_true_of_le (show 0+L.length≤(wU L).length by unfold wU;simp),Nat.ble_eq_true_of_le hc];have h3:((wU L).all isU)=true:=by
  unfold wU;rw[List.all_eq_true];intro v hv;obtain⟨x,hx,rfl⟩:=List.mem_map.1 hv;exact Xa (h x hx)
 have h4:((wU L).all still)=true:=by
  unfold wU;rw[List.all_eq_true];intro v hv;obtain⟨x,_,rfl⟩:=List.mem_map.1 hv;rfl
 rw[h3,h4];rfl
theorem Zcw {L:List Int}(h:ZU L=false):L.length≤8192:=by
 unfold ZU at h;simp only[Bool.or_eq_false_iff,decide_eq_false_iff_not] at h;omega
theorem ZcY (L:List Int):∀ u∈wU L,lt1 0 u=true:=fun u hu=>by
 unfold wU at hu;obtain⟨x,_,rfl⟩:=List.mem_map.1 hu;rfl
theorem ZdX:ro tU=false:=by kernel_rfl
end Go.Proofs.YtjlponbdflkbjaaGreatDoor.Na
namespace Go.Proofs.YtjlponbdflkbjaaGreatDoor.Na
open Go.Proofs.Tryz
open Go.IntKind
open Go.KRun Go.Nt
set_option maxRecDepth 100000
def bnt (z:Int):Int:=u32.wrap ((BitVec.ofInt 32 4294967295 ^^^ BitVec.ofInt 32 z).toNat:Nat)
def bnd (x y:Int):Int:=u32.wrap ((BitVec.ofInt 32 x &&& BitVec.ofInt 32 y).toNat:Nat)
def bxr (x y:Int):Int:=u32.wrap ((BitVec.ofInt 32 x ^^^ BitVec.ofInt 32 y).toNat:Nat)
def brr (x y:Int):Int:=u32.wrap ((BitVec.ofInt 32 x ||| BitVec.ofInt 32 y).toNat:Nat)
def ZzG (x y c:Int):Int:=u32.wrap (u32.wrap (x-y)-c)
def Z4O (x y c:Int):Int:=(brr (bnd (bnt x) y) (bnd (bnt (bxr x y)) (ZzG x y c))).fdiv (2^min ((31:Int).toNat) 32)
theorem Zj2 (x y c:Int):Z7 (Zm (Zk prog Zf Zn true) 100 146 [uu x,uu y,uu c] []) (.tuple #[uu (ZzG x y c),uu (Z4O x y c)]) [(decide ((31:Int)<0),false)]:=by and_intros<;>kernel_rfl
theorem Zj3 (v:BitVec 32):BitVec.ofInt 32 (u32.wrap (v.toNat:Nat))=v:=by
 rw[ZgS];have h:=v.isLt;apply BitVec.eq_of_toNat_eq;simp;omega
theorem Zpx (v:BitVec 32):u32.wrap (v.toNat:Nat)=v.toNat:=by
 rw[ZgS];have h:=v.isLt;omega
theorem Zuk (v:BitVec 32):v.toNat/2147483648=if v.getLsbD 31=true then 1 else 0:=by
 have h:=v.isLt;unfold BitVec.getLsbD;rw[Nat.testBit_eq_decide_div_mod_eq];have e:(2:Nat)^31=2147483648:=rfl;rw[e];by_cases h1:v.toNat/2147483648 % 2=1
 ·rw[Xa h1];simp;omega
 ·rw[Xb h1];simp;omega
theorem Zii {x:Int}(h0:0≤x) (h1:x<4294967296):(BitVec.ofInt 32 x).getLsbD 31=decide (2147483648≤x):=by
 have e:(BitVec.ofInt 32 x).toNat=x.toNat:=by simp;omega
 unfold BitVec.getLsbD;rw[e,Nat.testBit_eq_decide_div_mod_eq];have e2:(2:Nat)^31=2147483648:=rfl;rw[e2];by_cases h:2147483648≤x
 ·rw[Xa h];exact Xa (by omega)
 ·rw[Xb h];exact Xb (by omega)
def Zgo (x y c:Int):Int:=(x-y-c) % 4294967296
def Zj4 (x y c:Int):Int:=if x<y+c then 1 else 0
theorem Zpy {x y c:Int}(hx:0≤x∧x<4294967296) (hy:0≤y∧y<4294967296) (hc:0≤c∧c≤1):ZzG x y c=Zgo x y c∧Z4O x y c=Zj4 x y c:=by
 have e1:ZzG x y c=Zgo x y c:=by
  unfold ZzG Zgo;rw[ZgS,ZgS];omega
 refine⟨e1,?_⟩;have d0:0≤Zgo x y c∧Zgo x y c<4294967296:=by unfold Zgo;omega
 unfold Z4O;rw[e1];unfold brr bnd bnt bxr;simp only[Zj3];rw[Zpx,show (2:Int)^min ((31:Int).toNat) 32=2147483648 from rfl,Int.fdiv_eq_ediv_of_nonneg _ (by omega)];have key:=Zuk ((BitVec.ofInt 32 4294967295 ^^^ BitVec.ofInt 32 x) &&& BitVec.ofInt 32 y ||| (BitVec.ofInt 32 4294967295 ^^^ (BitVec.ofInt 32 x ^^^ BitVec.ofInt 32 y)) &&& BitVec.ofInt 32 (Zgo x y c));simp only[BitVec.getLsbD_or,BitVec.getLsbD_and,BitVec.getLsbD_xor,Zii hx.1 hx.2,Zii hy.1 hy.2,Zii d0.1 d0.2,Zii (x:=4294967295) (by omega) (by omega)] at key;rw[show decide ((2147483648:Int)≤4294967295)=true from rfl] at key;generalize hV:((BitVec.ofInt 32 4294967295 ^^^ BitVec.ofInt 32 x) &&& BitVec.ofInt 32 y ||| (BitVec.ofInt 32 4294967295 ^^^ (BitVec.ofInt 32 x ^^^ BitVec.ofInt 32 y)) &&& BitVec.ofInt 32 (Zgo x y c)).toNat=V at*;have cast:((V:Nat):Int)/2147483648=((V/2147483648:Nat):Int):=by omega
 rw[cast,key];unfold Zj4;unfold Zgo at*;by_cases a1:2147483648≤x<;>by_cases a2:2147483648≤y<;>by_cases a3:2147483648≤(x-y-c) % 4294967296<;>simp only[a1,a2,a3,decide_true,decide_false]<;>split<;>split<;>simp_all<;>omega
def ZzH (x y c:Int):Value:= .tuple #[uu (Zgo x y c),uu (Zj4 x y c)]
def Zlp:Ans:=fun vals s=>
 match vals with
 | [.int .u32 x,.int .u32 y,.int .u32 c]=>some (ZzH x y c,s,[(wd4 x y c,true)])
 | _=>none
theorem Zlq:ZR 146 Zlp:=by
 intro vals s v s' lg h hl w;unfold Zlp at h;split at h
 ·rename_i x y c;cases h;have hr:=hl _ Xf;simp only[wd4,Xi] at hr;obtain⟨e1,e2⟩:=Zpy hr.1 hr.2.1 hr.2.2;have:=Zc (Zj Zd) (Zj2 x y c) (Zt (by rfl)) (by rfl) (by rfl) w;rw[e1,e2] at this;exact this
 ·cases h
def ZsH:Con:=alt 146 Zlp Zn
theorem Zul:ConOk ZsH:=Z9 func146 rfl Zlq Zd
def cpS (la:List Value) (o n:Nat):List Value:=(List.replicate ((n:Int)).toNat (uu 0)).take 0++(la.drop o).take (Nat.min n ((n:Int)).toNat)++(List.replicate ((n:Int)).toNat (uu 0)).drop (0+Nat.min n ((n:Int)).toNat)
def Z4P (la:List Value) (o n:Nat):Bool:= !(Zak tR) && !(ro tU) && Nat.ble (o+Nat.min n ((n:Int)).toNat) la.length && Nat.ble (0+Nat.min n ((n:Int)).toNat) (List.replicate ((n:Int)).toNat (uu 0)).length && ((la.drop o).take (Nat.min n ((n:Int)).toNat)).all one
end Go.Proofs.YtjlponbdflkbjaaGreatDoor.Na
