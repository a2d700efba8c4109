/-
  RunZ, RunP, Okl, ConNU, ConV4, ConV7, ConVK, ConNV, AsNum, RunK, Row, RowS, SlN, NumSl, ConVM, SlH, NumQ, ConNC, ConNB, UuX, ConND, NumTm, ConNM, ConNN, ConNO, ConNE, NumR
-/
import Derived.Test.YtgefjidphfdhdaaGreatDoorG05
import Derived.WalkKit
import Derived.LaidEql
import Derived.Stop.Asserts
import Derived.RowKitTokens
import Derived.ProofKit
import Derived.OpenShut
import Derived.Laws.IdiomArrays
import Derived.Lib.SmallJoins
import Derived.ChangeSlices
import Derived.Laws.MathBits
namespace Go.KRun
open Go.RowKit
theorem Zj9 {T:Tab}{f:Nat}{F:Func}{c:Code}(hF:T.P.funcs[f]? =some F) (hc:F.body=some c) {h0:Hp}(hr:h0.rows) {vals:List Value}(hvals:∀ v∈vals,lt h0.n v=true) {v:Nat→Value}
  {cs:List Value}{ty:TypeId}(hcs:∀ u∈cs,lt1 0 u=true) (hty:ro ty=false)
  (hrun:RunsW T c (vals++List.replicate (F.ntmps-vals.length) undef,h0,[]) fun e y=>(e=none∨e=some none)∧∃ k,zE T.P F y.1 y.2.1=some (v k)∧∃ r,y.2.1.blk? k=some (cs++r,ty))
  (hv0:∀ k,oc [k] (v k)=true)
  {m:Mp}{B:Nat}{h:Hp}{w:World}(E:Emb m B h w) {s:Nat→Nat}(hf:h0.fits s h) (hv1:∀ k,rn (fun _=>h.n) (v k)=v h.n):
  Calls T.P f ((vals.map (rn s)).map (mv m)).toArray w fun e w'=>∃ m',e= .returned (mv m' (v h.n))∧Came m B h w (v h.n) (h.push cs ty) m' w':=by
 have E0:=E.small hr hf;have ev:(vals.map (rn s)).map (mv m)=vals.map (mv fun i=>m (s i)):=by
  rw[List.map_map];exact List.map_congr_left fun y _=>Zcx m s y
 rw[ev];refine calls_of_wp hF hc ?_;have R:Rel (fun i=>m (s i)) w.heap.size (vals++List.replicate (F.ntmps-vals.length) undef,h0,[]) {tmps:=(vals.map (mv fun i=>m (s i))).toArray++Array.replicate (F.ntmps-(vals.map (mv fun i=>m (s i))).toArray.size) undef,defers:=[]} w:=by
  refine⟨?_,rfl,E0,?_⟩
  ·simp [ZS]
  ·intro y hy;rcases List.mem_append.1 hy with hy | hy
   ·exact hvals y hy
   ·rw[List.eq_of_mem_replicate hy];simp [undef,lt]
 refine hrun _ _ _ w R _ fun e y he m1 a' w' k2 k3=> ?_;obtain⟨hex,k,hres,r,hblk⟩:=he;obtain⟨r1,r2⟩:=zx k2.emb k2.wf hres;rw[← k2.tmps] at r1;have td:zi w w':=⟨k3,fun k h1 h2=>k2.emb.ice k h1 h2⟩;obtain⟨E',hb⟩:=ZQ E td;have hlow:w.heap.size≤(m1 k).1:=k2.emb.low k _ hblk hty;have hlie:lie w' (m1 k) (cs.map (mv1 m)) ty:=by
  obtain⟨r',z,l0,l1,l2⟩:=k2.emb.lies k _ hblk (zU hty);have e:cs.map (mv1 m1)=cs.map (mv1 m):=Zbf hcs;simp only[List.map_append] at l0 l1;refine⟨r.map (mv1 m1)++r',z,?_,?_,l2⟩
  ·simp at l0 ⊢;omega
  ·rw[← e,l1,List.append_assoc]
 have Ea:=E'.adopt cs ty hty (fun u hu=>zj (Nat.zero_le _) (hcs u hu)) hlie (Nat.le_trans E.base hlow) (fun b x hbx hx heq=>by
  have:=E.here hbx (zU hx);omega)
 have e1:mv m1 (v k)=mv (upd m h.n (m1 k)) (v h.n):=by
  rw[← hv1 k,Zcx];refine ZoV (fun b hb=> ?_) (hv0 k);rw[List.mem_singleton.1 hb];simp [upd]
 rw[e1] at r1;have hlt:lt (h.n+1) (v h.n)=true:=by rw[← hv1 k];exact Zid (bs:=[k]) (fun b hb=>by show h.n<h.n+1;omega) (hv0 k)
 have post:a'.defers=[]∧∃ v',(results F a'.tmps).run T.P w'= .ok v' w'∧∃ m',Ending.returned v'= .returned (mv m' (v h.n))∧Came m B h w (v h.n) (h.push cs ty) m' w':=
  ⟨k2.dfr,_,r1,upd m h.n (m1 k),rfl,⟨ZL _ _ _,Ea,hb,Nat.le_succ _,hlt⟩⟩
 rcases hex with rfl | rfl<;>exact post
theorem ZaE {T:Tab}{f:Nat}{F:Func}{c:Code}(hF:T.P.funcs[f]? =some F) (hc:F.body=some c) {vals:List Value}{v:Value}{h:Hp}(hv:lt 0 v=true)
  (hr:Runs T c (vals++List.replicate (F.ntmps-vals.length) undef,h,[]) fun e y=>(e=none∨e=some none)∧zE T.P F y.1 y.2.1=some v∧y.2.1=h) (m:Mp) (B:Nat) (w:World) (E:Emb m B h w) (hvals:∀ v∈vals,lt h.n v=true):
  Calls T.P f (vals.map (mv m)).toArray w fun e w'=>∃ m',e= .returned (mv m' v)∧Came m B h w v h m' w':=by
 refine calls_of_wp hF hc ?_;have R:Rel m B (vals++List.replicate (F.ntmps-vals.length) undef,h,[]) {tmps:=(vals.map (mv m)).toArray++Array.replicate (F.ntmps-(vals.map (mv m)).toArray.size) undef,defers:=[]} w:=by
  refine⟨?_,rfl,E,?_⟩
  ·simp [ZS]
  ·intro y hy;rcases List.mem_append.1 hy with hy | hy
   ·exact hvals y hy
   ·rw[List.eq_of_mem_replicate hy];simp [undef,lt]
 refine hr _ _ _ w R _ fun e y he a' w' hR=> ?_;obtain⟨hex,hres,hh⟩:=he;obtain⟨m1,k1,k2,k3,_⟩:=hR;obtain⟨r1,r2⟩:=zx k2.emb k2.wf hres;rw[← k2.tmps] at r1;have Ek:Emb m1 B h w':=by
  have:=k2.emb;rw[hh] at this;exact this
 have post:a'.defers=[]∧∃ v',(results F a'.tmps).run T.P w'= .ok v' w'∧∃ m',Ending.returned v'= .returned (mv m' v)∧Came m B h w v h m' w':=
  ⟨k2.dfr,_,r1,m1,rfl,⟨k1,Ek,k3,Nat.le_refl _,zh (Nat.zero_le _) hv⟩⟩
 rcases hex with rfl | rfl<;>exact post
theorem ZjA {T:Tab}{f:Nat}{F:Func}{c:Code}(hF:T.P.funcs[f]? =some F) (hc:F.body=some c) {h0:Hp}(hr:h0.rows) {vals:List Value}(hvals:∀ v∈vals,lt h0.n v=true) {v:Nat→Nat→Value}
  {cs ds:List Value}{ty:TypeId}(hcs:∀ u∈cs,lt1 0 u=true) (hds:∀ u∈ds,lt1 0 u=true) (hty:ro ty=false)
  (hrun:RunsW T c (vals++List.replicate (F.ntmps-vals.length) undef,h0,[]) fun e y=>(e=none∨e=some none)∧∃ k j,k≠j∧zE T.P F y.1 y.2.1=some (v k j)∧(∃ r,y.2.1.blk? k=some (cs++r,ty))∧∃ r,y.2.1.blk? j=some (ds++r,ty))
  (hv0:∀ k j,oc [k,j] (v k j)=true)
  {m:Mp}{B:Nat}{h:Hp}{w:World}(E:Emb m B h w) {s:Nat→Nat}(hf:h0.fits s h) (hv1:∀ k j,∀ g:Nat→Nat,rn g (v k j)=v (g k) (g j)):
  Calls T.P f ((vals.map (rn s)).map (mv m)).toArray w fun e w'=>∃ m',e= .returned (mv m' (v h.n (h.n+1)))∧Came m B h w (v h.n (h.n+1)) ((h.push cs ty).push ds ty) m' w':=by
 have E0:=E.small hr hf;have ev:(vals.map (rn s)).map (mv m)=vals.map (mv fun i=>m (s i)):=by
  rw[List.map_map];exact List.map_congr_left fun y _=>Zcx m s y
 rw[ev];refine calls_of_wp hF hc ?_;have R:Rel (fun i=>m (s i)) w.heap.size (vals++List.replicate (F.ntmps-vals.length) undef,h0,[]) {tmps:=(vals.map (mv fun i=>m (s i))).toArray++Array.replicate (F.ntmps-(vals.map (mv fun i=>m (s i))).toArray.size) undef,defers:=[]} w:=by
  refine⟨?_,rfl,E0,?_⟩
  ·simp [ZS]
  ·intro y hy;rcases List.mem_append.1 hy with hy | hy
   ·exact hvals y hy
   ·rw[List.eq_of_mem_replicate hy];simp [undef,lt]
 refine hrun _ _ _ w R _ fun e y he m1 a' w' k2 k3=> ?_;obtain⟨hex,k,j,hkj,hres,⟨r,hblk⟩,r',hblj⟩:=he;obtain⟨r1,r2⟩:=zx k2.emb k2.wf hres;rw[← k2.tmps] at r1;have td:zi w w':=⟨k3,fun k h1 h2=>k2.emb.ice k h1 h2⟩;obtain⟨E',hb⟩:=ZQ E td;have low:∀ {k:Nat}{x:List Value×TypeId},y.2.1.blk? k=some x→ro x.2=false→w.heap.size≤(m1 k).1:=fun h1 h2=>k2.emb.low _ _ h1 h2;have hlie:∀ {k:Nat}{cs r:List Value},(∀ u∈cs,lt1 0 u=true)→y.2.1.blk? k=some (cs++r,ty)→∀ m':Mp,lie w' (m1 k) (cs.map (mv1 m')) ty:=fun {k cs r} hcs hblk m'=>by
  obtain⟨r',z,l0,l1,l2⟩:=k2.emb.lies k _ hblk (zU hty);have e:cs.map (mv1 m1)=cs.map (mv1 m'):=Zbf hcs;simp only[List.map_append] at l0 l1;refine⟨r.map (mv1 m1)++r',z,?_,?_,l2⟩
  ·simp at l0 ⊢;omega
  ·rw[← e,l1,List.append_assoc]
 have lk:=low hblk hty;have lj:=low hblj hty;have Ea:=E'.adopt cs ty hty (fun u hu=>zj (Nat.zero_le _) (hcs u hu)) (hlie hcs hblk m) (Nat.le_trans E.base lk) (fun b x hbx hx heq=>by
  have:=E.here hbx (zU hx);omega)
 have Eb:=Ea.adopt ds ty hty (fun u hu=>zj (Nat.zero_le _) (hds u hu)) (hlie hds hblj (upd m h.n (m1 k))) (Nat.le_trans E.base lj) (fun b x hbx hx heq=>by
  rw[Hp.blk_push E.len] at hbx;by_cases h1:b=h.n
  ·subst h1;simp only[upd,if_pos] at heq;exact hkj (k2.emb.inj k j _ _ hblk hblj hty hty heq)
  ·rw[if_neg h1] at hbx;simp only[upd,if_neg h1] at heq;have:=E.here hbx (zU hx);omega)
 have hn:(h.push cs ty).n=h.n+1:=rfl;rw[hn] at Eb;have e1:mv m1 (v k j)=mv (upd (upd m h.n (m1 k)) (h.n+1) (m1 j)) (v h.n (h.n+1)):=by
  have e2:=hv1 k j (fun b=>if b=k then h.n else h.n+1);simp only[if_pos,if_neg (Ne.symm hkj)] at e2;rw[← e2,Zcx];refine ZoV (fun b hb=> ?_) (hv0 k j);simp only[List.mem_cons,List.not_mem_nil,or_false] at hb;rcases hb with rfl | rfl
  ·simp [upd]
  ·simp [upd,Ne.symm hkj]
 rw[e1] at r1;have hlt:lt (h.n+2) (v h.n (h.n+1))=true:=by
  have e2:=hv1 k j (fun b=>if b=k then h.n else h.n+1);simp only[if_pos,if_neg (Ne.symm hkj)] at e2;rw[← e2];exact Zid (bs:=[k,j]) (fun b hb=>by split<;>omega) (hv0 k j)
 have post:a'.defers=[]∧∃ v',(results F a'.tmps).run T.P w'= .ok v' w'∧∃ m',Ending.returned v'= .returned (mv m' (v h.n (h.n+1)))∧Came m B h w (v h.n (h.n+1)) ((h.push cs ty).push ds ty) m' w':=
  ⟨k2.dfr,_,r1,_,rfl,⟨(ZL m h.n (m1 k)).trans (ZL _ _ _) (by omega),Eb,hb,by show h.n≤h.n+1+1;omega,hlt⟩⟩
 rcases hex with rfl | rfl<;>exact post
end Go.KRun
namespace Go.Proofs.YtgefjidphfdhdaaGreatDoor
open Go.KRun
theorem Zy {a b:Bool}(h:a=b):Zo [(a,b)]:=fun p hp=>by rw[List.mem_singleton.1 hp];exact h
theorem Za {a b:Bool}{l:Log}(h:a=b) (hl:Zo l):Zo ((a,b)::l):=fun p hp=>by
 rcases List.mem_cons.1 hp with rfl | hp
 ·exact h
 ·exact hl p hp
theorem ZeN {a b:Bool}{l:Log}:Zo ((a,b)::l)↔a=b∧Zo l:=⟨fun h=>⟨h _ (Xe),fun x hx=>h x (Xd _ hx)⟩,fun h=>Za h.1 h.2⟩
theorem Zps:Zo []:=fun x hx=>by cases hx
end Go.Proofs.YtgefjidphfdhdaaGreatDoor
namespace Go.Proofs.YtgefjidphfdhdaaGreatDoor.Na
open Go.KRun Go.Nt
set_option maxRecDepth 100000
set_option linter.unusedVariables false
def zg (h:Hp) (p:Option Addr) (n c:Nat):Bool:=
 match p with
 | none=>Nat.beq n 0 && Nat.beq c 0
 | some a=>
  match a.spot,h.blk? a.block with
  | none,some x=>Zu x.2 x.1 a.off n c
  | _,_=>false
theorem Z5 {h:Hp}{p:Option Addr}{n c:Nat}(hr:zg h p n c=true):(p=none∧n=0∧c=0∧Zm h p n=[])∨∃ b o x,p=some ⟨b,o,none⟩∧h.blk? b=some x∧Zu x.2 x.1 o n c=true∧Zm h p n=Zt x.1 o n:=by
 unfold zg at hr;split at hr
 ·simp only[Xh] at hr;exact .inl ⟨rfl,Xj hr.1,Xj hr.2,rfl⟩
 ·rename_i a;split at hr
  ·rename_i x hs hx;obtain⟨b,o,sp⟩:=a;simp only at hs hx;subst hs;exact .inr ⟨b,o,x,rfl,hx,hr,by simp [Zm,hx]⟩
  ·cases hr
theorem ZaF:ZH []=false:=rfl
def ZtZ:Zba:=fun vals h s=>
 match vals,s with
 | [.slice p n c],.inr (.inr (.inr (.inl d)))::s'=>some (Zcs d,h,s',[(zg h p n c,true),(ZH (Zm h p n),d)])
 | _,_=>none
theorem Zpt:ZJ 128 ZtZ:=by
 intro vals h s v h' s' lg hg hl m B w E hv;unfold ZtZ at hg;split at hg
 ·rename_i p n c d s2;cases hg;have l1:=hl _ (Xe);have l2:=hl _ (Xd _ Xf);simp only at l1 l2;rcases Z5 l1 with ⟨rfl,rfl,rfl,e0⟩ | ⟨b,o,x,rfl,hx,r1,e0⟩
  ·rw[e0,ZaF] at l2;subst l2;exact ZeL _ h [] _ _ _ _ rfl (fun x hx=>by cases hx) m B w E hv
  ·rw[e0] at l2;exact ZeL _ h [cmp d] (Zcs d) h [] [(Zu x.2 x.1 o n c,true),(ZH (Zt x.1 o n),d)] (by simp only[ZyP,hx]) (Za r1 (Zy l2)) m B w E hv
 ·cases hg
def Zew:Zba:=fun vals h s=>
 match vals,s with
 | [.slice p n c,.slice q n' c'],.inr (.inr (.inr (.inl d)))::s'=>some (Zcs d,h,s',[(zg h p n c,true),(zg h q n' c',true),(ZH (Zm h p n) || ZH (Zm h q n'),d)])
 | _,_=>none
theorem Z2Y {a b c:Bool×Bool}(h:Zo [a,b,c]):a.1=a.2∧b.1=b.2∧c.1=c.2:=⟨h _ (by simp),h _ (by simp),h _ (by simp)⟩
theorem Zcg:ZJ 132 Zew:=by
 intro vals h s v h' s' lg hg hl m B w E hv;unfold Zew at hg;split at hg
 ·rename_i p n c q n' c' d s2;cases hg;obtain⟨l1,l2,l3⟩:=Z2Y hl;simp only at l1 l2 l3;rcases Z5 l1 with ⟨rfl,rfl,rfl,e0⟩ | ⟨b,o,x,rfl,hx,r1,e0⟩<;>rcases Z5 l2 with ⟨rfl,rfl,rfl,f0⟩ | ⟨b',o',y,rfl,hy,t1,f0⟩<;>simp only[e0,f0] at l3
  ·rw[ZaF,Bool.or_self] at l3;subst l3;exact Zcb _ h [] _ _ _ _ rfl (fun x hx=>by cases hx) m B w E hv
  ·rw[ZaF,Bool.false_or] at l3;exact Zcb _ h [cmp d] (Zcs d) h [] [(Zu y.2 y.1 o' n' c',true),(ZH (Zt y.1 o' n'),d)] (by simp only[Zj2,hy]) (Za t1 (Zy l3)) m B w E hv
  ·rw[ZaF,Bool.or_false] at l3;exact Zcb _ h [cmp d] (Zcs d) h [] [(Zu x.2 x.1 o n c,true),(ZH (Zt x.1 o n),d)] (by simp only[Zj2,hx]) (Za r1 (Zy l3)) m B w E hv
  ·exact Zcb _ h [cmp d] (Zcs d) h [] [(Zu x.2 x.1 o n c,true),(Zu y.2 y.1 o' n' c',true),(ZH (Zt x.1 o n) || ZH (Zt y.1 o' n'),d)] (by simp only[Zj2,hx,hy]) (Za r1 (Za t1 (Zy l3))) m B w E hv
 ·cases hg
def Zua:Zba:=fun vals h s=>
 match vals with
 | [.slice p n c,.slice q n' c']=>some (i6' (ZbG (Zm h p n) (Zm h q n')),h,s,[(zg h p n c,true),(zg h q n' c',true)])
 | _=>none
theorem Zsm {L:List Int}{n:Nat}(h:L.length=n):ZbG [] L=Zpd 0 n:=by
 unfold ZbG Zpd;rw[h,List.length_nil];split
 ·rfl
 ·rfl
theorem Zzb {L:List Int}{n:Nat}(h:L.length=n):ZbG L []=Zpd n 0:=by
 unfold ZbG Zpd;rw[h,List.length_nil];split
 ·rename_i h0;rw[h0];rfl
 ·rfl
theorem Zpu:ZJ 187 Zua:=by
 intro vals h s v h' s' lg hg hl m B w E hv;unfold Zua at hg;split at hg
 ·rename_i p n c q n' c';cases hg;have l1:=hl _ (Xe);have l2:=hl _ (Xd _ Xf);simp only at l1 l2;rcases Z5 l1 with ⟨rfl,rfl,rfl,e0⟩ | ⟨b,o,x,rfl,hx,r1,e0⟩<;>rcases Z5 l2 with ⟨rfl,rfl,rfl,f0⟩ | ⟨b',o',y,rfl,hy,t1,f0⟩<;>simp only[e0,f0]
  ·exact Zd2 _ h s _ _ _ _ rfl (fun x hx=>by cases hx) m B w E hv
  ·rw[Zsm (Z4 t1).2.1];exact Zd2 _ h s _ _ _ _ rfl (fun x hx=>by cases hx) m B w E hv
  ·rw[Zzb (Z4 r1).2.1];exact Zd2 _ h s _ _ _ _ rfl (fun x hx=>by cases hx) m B w E hv
  ·exact Zd2 _ h s _ h s [(Zu x.2 x.1 o n c,true),(Zu y.2 y.1 o' n' c',true)] (by simp only[Z2W,hx,hy]) (Za r1 (Zy t1)) m B w E hv
 ·cases hg
theorem Zzc {L:List Int}{n:Nat}(h:L.length=n):ZbG [] L<0↔0<n:=by
 rw[Zsm h];unfold Zpd;split
 ·omega
 ·split<;>omega
end Go.Proofs.YtgefjidphfdhdaaGreatDoor.Na
namespace Go.Proofs.YtgefjidphfdhdaaGreatDoor
open Go.KRun Go.Nt
set_option maxRecDepth 100000
structure Nu (i:Nat) (x:List Value×TypeId) (p:Option Addr) (n c:Nat) (A:List Int):Prop where
 row:∀ h:Hp,h.blk? i=some x→Zo1 h p n c=true∧Zm h p n=A
 pos:p=none∨∃ o,p=some ⟨i,o,none⟩
 st:∀ v∈x.1,still v=true
 lt0:∀ v∈x.1,still v=true
 ros:ro x.2=true∧ab x.2=false
theorem Zlk {h:Hp}{p:Option Addr}{n c:Nat}(hr:Zo1 h p n c=true):(Zm h p n).length=n:=by
 rcases Zj8 hr with ⟨rfl,rfl,rfl,e0⟩ | ⟨b,o,x,rfl,hx,q1,q2,e0⟩
 ·rw[e0];rfl
 ·rw[e0];exact (ZtX q1).2.1
def Z6N (a b:Nat):Int:=if a<b then -1 else if a=b then 0 else 1
end Go.Proofs.YtgefjidphfdhdaaGreatDoor
namespace Go.Proofs.YtgefjidphfdhdaaGreatDoor.Na
open Go.KRun Go.Nt
set_option maxRecDepth 100000
set_option linter.unusedVariables false
section
variable {l : List Value} {o c : Nat} {A : List Int}
def d32 (V:Nat):List Int:=db 4294967296 V
end
def Zsn (h:Hp) (p:Option Addr) (n:Nat):Nat:=vb 4294967296 (Zm h p n)
end Go.Proofs.YtgefjidphfdhdaaGreatDoor.Na
namespace Go.Proofs.YtgefjidphfdhdaaGreatDoor
open Go.KRun Go.RowKit
set_option maxRecDepth 100000
set_option maxHeartbeats 4000000 in
theorem ZdZ {T:Tab}{f:Nat}{F:Func}{c:Code}(hF:T.P.funcs[f]? =some F) (hc:F.body=some c) {h0:Hp}{vals:List Value}(hvals:∀ v∈vals,lt h0.n v=true) {v:Value}(hv:lt 0 v=true)
  (hrun:Runs T c (vals++List.replicate (F.ntmps-vals.length) undef,h0,[]) fun e y=>(e=none∨e=some none)∧zE T.P F y.1 y.2.1=some v)
  {m:Mp}{w:World}(E:Emb m w.heap.size h0 w):
  Calls T.P f (vals.map (mv m)).toArray w fun e w'=>e= .returned v∧zi w w':=by
 refine calls_of_wp hF hc ?_;have R:Rel m w.heap.size (vals++List.replicate (F.ntmps-vals.length) undef,h0,[]) {tmps:=(vals.map (mv m)).toArray++Array.replicate (F.ntmps-(vals.map (mv m)).toArray.size) undef,defers:=[]} w:=by
  refine⟨?_,rfl,E,?_⟩
  ·simp [ZS]
  ·intro y hy;rcases List.mem_append.1 hy with hy | hy
   ·exact hvals y hy
   ·rw[List.eq_of_mem_replicate hy];simp [undef,lt]
 refine hrun _ _ _ w R _ fun e y he a' w' hR=> ?_;obtain⟨hex,hres⟩:=he;obtain⟨m1,k1,k2,k3,_⟩:=hR;obtain⟨r1,r2⟩:=zx k2.emb k2.wf hres;rw[← k2.tmps,Z2 hv] at r1;have td:zi w w':=⟨k3,fun k h1 h2=>k2.emb.ice k h1 h2⟩;have post:a'.defers=[]∧∃ v',(results F a'.tmps).run T.P w'= .ok v' w'∧(Ending.returned v'= .returned v∧zi w w'):=⟨k2.dfr,_,r1,rfl,td⟩;rcases hex with rfl | rfl<;>exact post
end Go.Proofs.YtgefjidphfdhdaaGreatDoor
namespace Go.KRun
open Go.RowKit
def ZE (T:Tab) (h0:Hp) (n:Nat) (f:Nat) (vals:List Value) (s:List Dec):Option (Value×Hp×List Dec×Lg):=ZfQ T (evC T n false) f vals h0 s ⟨[],[],[]⟩
theorem ZcM {T:Tab}(hT:TabOk T) {h0:Hp}{n f:Nat}{vals:List Value}{s:List Dec}{v:Value}{cs:Log}(hF:Zs (ZE T h0 n f vals s) v cs) (hcs:Zo cs) (hvals:(vals.all (lt h0.n))=true) (hv:lt 0 v=true) {m:Mp}{w:World}(E:Emb m w.heap.size h0 w):
  Calls T.P f (vals.map (mv m)).toArray w fun e w'=>e= .returned v∧zi w w':=by
 obtain⟨h1,h2,h3,h4⟩:=hF;cases hr:ZE T h0 n f vals s with
 | none=>rw[hr] at h1;cases h1
 | some r=>
  rw[hr] at h1 h2 h3 h4;simp only[Option.map_some,Option.some.injEq] at h1 h2 h3 h4;obtain⟨v',h',s',L⟩:=r;simp only at h1 h2 h3 h4;subst h1;obtain⟨_,_,h5⟩:=Zdz hT (ZfR hT n).1 _ _ _ _ _ _ _ _ _ hr ⟨by rw[h2];exact hcs,ZbZ _ h3,ZbZ _ h4⟩;refine (h5 _ _ w E (List.all_eq_true.1 hvals)).mono fun en w' he=> ?_;obtain⟨m',rfl,C⟩:=he;exact⟨by rw[Z2 hv],C.below,fun k h1 h2=>C.emb.ice k h1 h2⟩
theorem ZfY {T:Tab}(hT:TabOk T) {h0:Hp}{n f:Nat}{vals:List Value}{s:List Dec}{v:Value}{cs:Log}(hF:Zs (ZE T h0 n f vals s) v cs) (hcs:Zo cs) (hvals:(vals.all (lt 0))=true) (hv:lt 0 v=true) {m:Mp}{w:World}(E:Emb m w.heap.size h0 w):
  Calls T.P f vals.toArray w fun e w'=>e= .returned v∧zi w w':=by
 have hst:∀ y∈vals,lt 0 y=true:=List.all_eq_true.1 hvals;have e:vals.map (mv m)=vals:=(List.map_congr_left fun y hy=>Z2 (hst y hy)).trans (List.map_id' _);have:=ZcM hT hF hcs (List.all_eq_true.2 fun y hy=>zh (Nat.zero_le _) (hst y hy)) hv E;rw[e] at this;exact this
end Go.KRun
namespace Go.KRun
open Go.ChangeShapes Go.WideShapes Go.ChangeAt Go.RowKit Go.Joins
theorem ZjB {n:Int}(h:(Lit.int .u64 n).wf=true):0≤n∧n<18446744073709551616:=by
 simp [Lit.wf,IntKind.min,IntKind.max,IntKind.signed,IntKind.bits] at h;omega
section
variable {H : Type} {enc : TypeId × Value → H} {P : Program} {w : World}
structure Lain (w:World) (b off:Nat) (cs:Array Value) (zs:List Int):Prop where
 heap:∃ ty z,w.heap[b]? =some (.cells cs ty z)
 room:off+zs.length≤cs.size
 cell:∀ i,i<zs.length→cs[off+i]? =some (.int .u32 (zs.getD i 0))
 wf:∀ n∈zs,(Lit.int .u32 n).wf=true
end
end Go.KRun
namespace Go.Proofs.YtgefjidphfdhdaaGreatDoor.Na
open Go.KRun Go.Nt
set_option maxRecDepth 100000
set_option linter.unusedVariables false
theorem Zso {x:Bool×Bool}{l:Log}(h:Zo (x::l)):x.1=x.2∧Zo l:=⟨h _ Xe,fun y hy=>h y (Xd _ hy)⟩
end Go.Proofs.YtgefjidphfdhdaaGreatDoor.Na
namespace Go.Nt
theorem ZfZ:∀ {L:List Int},wds L→vN L=(vb 4294967296 L:Nat)
 | [],_=>rfl
 | x::r,h=>by
  obtain⟨h1,h2⟩:=zL h;have:=ZfZ h2;show x+4294967296*vN r=((x.toNat+4294967296*vb 4294967296 r:Nat):Int);rw[this];omega
theorem ZjC:∀ (m:Nat) (V:Int),0≤V→V<4294967296^m→vN (dg m V)=V
 | 0,V,h0,h1=>by
  have:V=0:=by rw[Int.pow_zero] at h1;omega
  subst this;rfl
 | m+1,V,h0,h1=>by
  rw[pw] at h1;have h2:=ZjC m (V/4294967296) (by omega) (by omega);simp only[dg,vN];rw[h2];omega
theorem Zll {m:Nat}{V:Nat}(h:(V:Int)<4294967296^m):(dg m V).take (Zg (dg m V))=db 4294967296 V:=by
 have hw:=Zac m V;rw[Zbj (b:=4294967296) (by omega) _ hw];have h1:=ZjC m V (by omega) h;rw[ZfZ hw] at h1;rw[Int.ofNat.inj h1]
theorem Zga (L M:List Int):∀ k,zS L M k= -1∨zS L M k=0∨zS L M k=1
 | 0=> .inr (.inl rfl)
 | k+1=>by
  unfold zS;split
  ·exact Zga L M k
  ·split
   ·exact .inl rfl
   ·exact .inr (.inr rfl)
theorem Zub (L M:List Int):ZbG L M= -1∨ZbG L M=0∨ZbG L M=1:=by
 unfold ZbG;split
 ·exact Zga _ _ _
 ·split
  ·exact .inl rfl
  ·exact .inr (.inr rfl)
theorem Zuc {L M:List Int}(hL:Za9 L) (hM:Za9 M):ZbG L M=if vb 4294967296 L<vb 4294967296 M then -1 else if vb 4294967296 L=vb 4294967296 M then 0 else 1:=by
 have h:=Zii hL hM;rw[ZfZ hL.1,ZfZ hM.1] at h;have h3:=Zub L M;split
 ·have:=h.1.2 (by omega);omega
 ·split
  ·exact h.2.2 (by omega)
  ·have h1:¬ ZbG L M<0:=fun hx=>by have:=h.1.1 hx;omega
   have h2:¬ ZbG L M=0:=fun hx=>by have:=h.2.1 hx;omega
   omega
theorem Zud {L:List Int}(hL:wds L) {m:Nat}(h:L.length≤m):vb 4294967296 L<4294967296^m:=by
 have h1:=Zd6 (b:=4294967296) (by omega) L hL;exact Nat.lt_of_lt_of_le h1 (Nat.pow_le_pow_right (by omega) h)
theorem Zc4 {b V:Nat}(hb:2≤b):0<(db b V).length↔0<V:=by
 rw[List.length_pos_iff,ne_eq,Zsl hb];omega
end Go.Nt
namespace Go.Proofs.YtgefjidphfdhdaaGreatDoor
open Go.KRun Go.Nt
set_option maxRecDepth 100000
set_option linter.unusedVariables false
structure Two (la lb:List Value) (o o' c':Nat) (A L:List Int):Prop where
 ra:Row la o A
 rb:Row lb o' L
 dA:∀ x∈A,Dg 65536 x
 cL:ZtW 65536 L
 n1:1≤L.length
 n2:L.length<1000000
 a1:1≤A.length
 a2:A.length<1000000
 cb:Zpr tR lb o' L.length c'=true
 sb:∀ v∈lb,still v=true
 sa:∀ v∈la,still v=true
 eb:Zt lb o' L.length=L
end Go.Proofs.YtgefjidphfdhdaaGreatDoor
namespace Go.Proofs.YtgefjidphfdhdaaGreatDoor.Na
open Go.KRun Go.Nt
set_option maxRecDepth 100000
set_option linter.unusedVariables false
def Z6X (H:Hp) (p:Option Addr) (n c V:Nat):Prop:=Zo1 H p n c=true∧Zm H p n=d32 V
theorem ZeO (V:Nat):wds (d32 V):=ZeM (by omega) V
theorem Zpv {L:List Int}(n:Nat):Zt (wU L) 0 n=L.take n:=by
 unfold Zt ZbE wU;rw[List.drop_zero,← List.map_take,List.map_map];exact (List.map_congr_left fun z _=>rfl).trans (List.map_id' _)
theorem Z3A {H:Hp}{b V m:Nat}(hb:H.blk? b=some (wU (dg m (V:Int)),tU)) (hV:V<4294967296^m) (hm:m≤1000):Z6X H (some ⟨b,0,none⟩) (Zg (dg m (V:Int))) m V:=by
 have hw:=Zac m (V:Int);have hl:=ZB m (V:Int);have ht:=za (dg m (V:Int));refine⟨?_,?_⟩
 ·unfold Zo1;simp only[hb];unfold Zpr;have e1:Zai tU=false:=by kernel_rfl
  have e2:Nat.beq (rt tU) tU=true:=by kernel_rfl
  have e3:Nat.ble (0+Zg (dg m (V:Int))) (wU (dg m (V:Int))).length=true:=Nat.ble_eq_true_of_le (by rw[Zcf];omega);have e4:Nat.blt (Zg (dg m (V:Int))) 4611686018427387904=true:=Zl.2 (by omega);have e5:((ZbE (wU (dg m (V:Int))) 0 (Zg (dg m (V:Int)))).all isU)=true:=by
   unfold ZbE;rw[List.drop_zero];refine List.all_eq_true.2 fun v hv=> ?_;have hv:=List.mem_of_mem_take hv;unfold wU at hv;obtain⟨x,hx,rfl⟩:=List.mem_map.1 hv;exact Xa (hw x hx)
  have e6:Zpq 0 (Zg (dg m (V:Int))) m=true:=by
   unfold Zpq;rw[show Z8 m=true from Zl.2 (by have:ZX=4611686018427387904:=rfl;omega),Nat.ble_eq_true_of_le (by omega)];rfl
  rw[e1,e2,e3,e4,e5,e6,List.all_eq_true.2 (Zb1 _)];rfl
 ·unfold Zm;simp only[hb];rw[Zpv];refine Zll ?_;have:((4294967296^m:Nat):Int)=4294967296^m:=by rw[Int.natCast_pow];rfl
  rw[← this];omega
end Go.Proofs.YtgefjidphfdhdaaGreatDoor.Na
namespace Go.Nt
theorem Zch:∀ (m:Nat) (V c:Int),dg m (V+4294967296^m*c)=dg m V
 | 0,_,_=>rfl
 | m+1,V,c=>by
  simp only[dg];rw[pw,Int.mul_assoc];generalize hZ:(4294967296:Int)^m*c=Z;have e1:(V+4294967296*Z) % 4294967296=V % 4294967296:=by omega
  have e2:(V+4294967296*Z)/4294967296=V/4294967296+Z:=by omega
  rw[e1,e2,← hZ,Zch m]
theorem Zd7 {k:Nat}(h:k≤32):(2:Int)^k*2^(32-k)=4294967296:=by
 rw[← Int.pow_add,show k+(32-k)=32 from by omega];rfl
theorem Zsp {k:Nat}{z y:Int}(z0:0≤z) (y0:0≤y) (y1:y<2^k) (hs:2^k*z+y<4294967296):(((BitVec.ofInt 32 (2^k*z) ||| BitVec.ofInt 32 y).toNat:Nat):Int)=2^k*z+y:=by
 obtain⟨Z,rfl⟩:=Int.eq_ofNat_of_zero_le z0;obtain⟨Y,rfl⟩:=Int.eq_ofNat_of_zero_le y0;have ex:(2:Int)^k*(Z:Nat)=((2^k*Z:Nat):Int):=by simp
 have hY:Y<2^k:=by
  have:((Y:Nat):Int)<((2^k:Nat):Int):=by simpa using y1
  exact Int.ofNat_lt.1 this
 rw[ex] at hs ⊢;have hX:2^k*Z+Y<4294967296:=by omega
 have e1:∀ m:Nat,m<4294967296→(BitVec.ofInt 32 (m:Int)).toNat=m:=fun m hm=>by
  simp;omega
 rw[BitVec.toNat_or,e1 _ (by omega),e1 _ (by omega),← Nat.two_pow_add_eq_or_of_lt hY];omega
theorem Zue {x l q r:Int}(hq:1≤q) (hr:1≤r) (hqr:q*r=4294967296) (hx:0≤x∧x<4294967296) (hl:0≤l∧l<q):
  x*q=4294967296*(x/r)+q*(x % r)∧0≤q*(x % r)∧q*(x % r)+l<4294967296∧0≤x/r∧x/r<q:=by
 have h1:=Int.mul_ediv_add_emod x r;have h2:=Int.emod_nonneg x (show r≠0 by omega);have h3:=Int.emod_lt_of_pos x (show 0<r by omega);have h4:0≤x/r:=Int.ediv_nonneg hx.1 (by omega);generalize x/r=hi at*;generalize x % r=lo at*;have e1:x*q=4294967296*hi+q*lo:=by
  rw[← h1,← hqr,Int.add_mul,Int.mul_assoc q r hi,Int.mul_comm (r*hi) q,Int.mul_comm lo q]
 have e2:q*lo+q≤4294967296:=by
  have:=Int.mul_le_mul_of_nonneg_left (show lo+1≤r by omega) (show 0≤q by omega);rw[Int.mul_add,Int.mul_one,hqr] at this;exact this
 refine⟨e1,Int.mul_nonneg (by omega) h2,by omega,h4,?_⟩;rcases Int.lt_or_le hi q with h | h
 ·exact h
 ·exfalso
  have:=Int.mul_le_mul_of_nonneg_left h (show 0≤r by omega);rw[Int.mul_comm r q,hqr] at this;omega
theorem Zlm {P a b q x l d e A:Int}(he:x*q+l=d+4294967296*e) (h:a+P*((x+4294967296*A)*q+l)=b):a+P*d+4294967296*P*(A*q+e)=b:=by
 rw[← h];have e1:(x+4294967296*A)*q+l=d+4294967296*(A*q+e):=by
  rw[Int.add_mul,Int.mul_assoc];omega
 rw[e1];generalize A*q+e=Z;rw[Int.mul_add P d,← Int.mul_assoc P 4294967296 Z,Int.mul_comm P 4294967296];omega
end Go.Nt
namespace Go.Proofs.YtgefjidphfdhdaaGreatDoor.Na
open Go.Proofs.Tryz
open Go.IntKind
open Go.KRun Go.Nt
set_option maxRecDepth 100000
def upU (x k:Int):Int:=u32.wrap (x*2^min k.toNat 32)
def Zpw (x k l:Int):Int:=brr (upU x k) l
def Zpx (x k:Int):Int:=x.fdiv (2^min (i64.wrap (32-k)).toNat 32)
theorem Z6O {x l:Int}{k:Nat}(hx:0≤x∧x<4294967296) (hl:0≤l∧l<2^k) (hk:k<32):
  (0≤Zpw x k l∧Zpw x k l<4294967296)∧(0≤Zpx x k∧Zpx x k<2^k)∧x*2^k+l=Zpw x k l+4294967296*Zpx x k:=by
 have q1:(1:Int)≤2^k:=by have:(0:Int)<2^k:=Int.pow_pos (by omega);omega
 have r1:(1:Int)≤2^(32-k):=by have:(0:Int)<2^(32-k):=Int.pow_pos (by omega);omega
 obtain⟨u1,u2,u3,u4,u5⟩:=Zue q1 r1 (Zd7 (by omega)) hx hl;have eL:Zpx x k=x/2^(32-k):=by
  unfold Zpx;rw[Zv (by omega) (by omega),show min ((32:Int)-(k:Nat)).toNat 32=32-k from by omega,Int.fdiv_eq_ediv_of_nonneg _ (by omega)]
 have eU:upU x k=2^k*(x % 2^(32-k)):=by
  unfold upU;rw[Xg,show min k 32=k from by omega,ZgJ,u1];omega
 have lo0:=Int.emod_nonneg x (show (2:Int)^(32-k)≠0 by omega);have eN:Zpw x k l=2^k*(x % 2^(32-k))+l:=by
  unfold Zpw brr;rw[eU,Zsp lo0 hl.1 hl.2 u3,ZgJ];omega
 rw[eL,eN];omega
def mR0 (F:Func):List Code:=[ZA (Zw F),ZA (ZV (Zw F))]
def mL (F:Func):Code:=cIn (cIn (ZV (ZV (Zw F))))
theorem Zij:f130.body=some (Zaj (mR0 f130) (.block 0 (.loop (mL f130)))):=by kernel_rfl
def mF (w k l i x s n j:Value):List Value:=[w,k,undef,undef,l,i,x,s,n,j]
def hU (S la:List Value):Hp:=⟨2,[(S,tU),(la,tR)]⟩
theorem Zln (b o n c:Nat) (k:Value) (h:Hp):Zk (evL (Ze prog Zi Zn true) 100 (mR0 f130) ([sl b o n c,k]++List.replicate 25 undef,h,[]) ⟨[],[],[]⟩) 10 17 none (mF (sl b o n c) k (uu 0) undef undef (sl b o n c) (i6' n) (i6' 0)) h []:=by and_intros<;>kernel_rfl
theorem Zlo (w k l i x s:Value) (n:Nat) (j:Int) (h:Hp) (g:Nat→Value):Zk (evC (Ze prog Zi Zn true) 100 false (mL f130) (mF w k l i x s (i6' n) (i6' j)++tl 17 g,h,[cmp false]) ⟨[],[],[]⟩) 10 17 (some (some 0)) (mF w k l i x s (i6' n) (i6' j)) h [(decide (j<n),false)]:=by and_intros<;>kernel_rfl
theorem Zzd (o n c:Nat) (k l j x:Int) (i0 x0:Value) (la S:List Value) (g:Nat→Value):Zk (evC (Ze prog Zi Zn true) 100 false (mL f130) (mF (sl 1 o n c) (i6' k) (uu l) i0 x0 (sl 1 o n c) (i6' n) (i6' j)++tl 17 g,hU S la,[cmp true,at_,val (uu x),at_,at_]) ⟨[],[],[]⟩) 10 17 none
  (mF (sl 1 o n c) (i6' k) (uu (Zpx x k)) (i6' j) (uu x) (sl 1 o n c) (i6' n) (i6' (i64.wrap (j+1)))) (hU (S.set (o+j.toNat*1) (uu (Zpw x k l))) la) [(decide (i64.wrap (32-k)<0),false),(decide (o+j.toNat*1<S.length),true),inR j n,(decide (k<0),false),ZbO S o j x,inR j n,(decide (j<n),true)]:=by and_intros<;>kernel_rfl
theorem Zlp (w k l i x s n j:Value) (h:Hp) (g:Nat→Value):zE prog f130 (mF w k l i x s n j++tl 17 g) h=some (.tuple #[]):=by kernel_rfl
def Zat:List UInt8:=(List.range 256).map fun i=>UInt8.ofNat (bitLen i)
def Zd8 (z:Int):Int:=((Zat.getD (u8.wrap z).toNat 0).toNat:Int)
def lt8 (z:Int):Bool×Bool:=(decide (0≤u8.wrap z∧(u8.wrap z).toNat<Zat.length),true)
def shd (z:Int) (k:Nat):Int:=z.fdiv (2^k)
def geq (z k:Int) (d:Bool):Bool×Bool:=(decide (z≥k),d)
def ZeP (m z:Int):Value:= .int .i64 (i64.wrap (m+i64.wrap (Zd8 z)))
def nz:Bool×Bool:=(false,false)
theorem Zze (u:Int):Zs (Zf (Ze prog Zi Zn true) 3000 169 [uu u] [tst false,tst false]) (ZeP 0 u) [lt8 u,geq u 256 false,geq u 65536 false]:=by and_intros<;>kernel_rfl
theorem Zzf (u:Int):Zs (Zf (Ze prog Zi Zn true) 3000 169 [uu u] [tst false,tst true]) (ZeP 8 (shd u 8)) [lt8 (shd u 8),nz,geq u 256 true,geq u 65536 false]:=by and_intros<;>kernel_rfl
theorem Zzg (u:Int):Zs (Zf (Ze prog Zi Zn true) 3000 169 [uu u] [tst true,tst false]) (ZeP 16 (shd u 16)) [lt8 (shd u 16),geq (shd u 16) 256 false,nz,geq u 65536 true]:=by and_intros<;>kernel_rfl
theorem Zzh (u:Int):Zs (Zf (Ze prog Zi Zn true) 3000 169 [uu u] [tst true,tst true]) (ZeP 24 (shd (shd u 16) 8)) [lt8 (shd (shd u 16) 8),nz,geq (shd u 16) 256 true,nz,geq u 65536 true]:=by and_intros<;>kernel_rfl
theorem Zc5:Zat.length=256:=by unfold Zat;rw[List.length_map,List.length_range]
theorem Zc6 (b:Nat) (h:b<256):(Zat.getD b 0).toNat=bitLen b:=by
 have h1:Zat.getD b 0=UInt8.ofNat (bitLen b):=by
  unfold Zat;rw[List.getD,List.getElem?_map,List.getElem?_range h];rfl
 have h2:=bitLen_le8 b h;rw[h1,UInt8.toNat_ofNat'];omega
theorem Zha {z:Int}(h0:0≤z) (h1:z<256):u8.wrap z=z:=by
 simp [IntKind.wrap,IntKind.bits,IntKind.signed];omega
theorem zA {m:Int}{Z:Nat}(hm:0≤m) (hm':m≤56) (h1:Z<256):ZeP m (Z:Int)= .int .i64 (m+bitLen Z)∧(lt8 (Z:Int)).1=(lt8 (Z:Int)).2:=by
 have hb:=bitLen_le8 Z h1;have e:=Zha (z:=(Z:Int)) (by omega) (by omega);refine⟨?_,?_⟩
 ·unfold ZeP Zd8;rw[e,Xg,Zc6 Z h1,Zv (n:=((bitLen Z:Nat):Int)) (by omega) (by omega),Zv (by omega) (by omega)]
 ·unfold lt8;rw[e,Xg];rw[Zc5];exact Xa (And.intro (by omega) h1)
theorem Zd9 (Z k:Nat):shd (Z:Int) k=((Z/2^k:Nat):Int):=by
 unfold shd;rw[Int.fdiv_eq_ediv_of_nonneg _ (Int.le_of_lt (Int.pow_pos (by omega)))];simp
theorem Zlq {z k:Int}(h:k≤z):(geq z k true).1=(geq z k true).2:=Xa h
theorem ZeQ {z k:Int}(h:z<k):(geq z k false).1=(geq z k false).2:=Xb (by omega)
theorem ZaA:nz.1=nz.2:=rfl
theorem Zau (x b:Nat) (h:2^b≤x):bitLen x=b+bitLen (x/2^b):=bitLen_shift x b (by
 have:0<x/2^b:=Nat.div_pos h (Nat.two_pow_pos b);omega)
def Zlr (u:Int):Value:= .int .i64 (bitLen u.toNat:Nat)
theorem Zhb (u:Int) (h0:0≤u) (h1:u<4294967296) (w:World):Calls prog 169 #[uu u] w fun e w'=>e= .returned (Zlr u)∧zi w w':=by
 obtain⟨U,rfl⟩:=Int.eq_ofNat_of_zero_le h0;unfold Zlr;rw[Xg];have p8:(2:Nat)^8=256:=rfl;have p16:(2:Nat)^16=65536:=rfl;have step:∀ {v:Value}{s:List Dec}{cs:Log},Zs (Zf (Ze prog Zi Zn true) 3000 169 [uu (U:Int)] s) v cs→Zo cs→v= .int .i64 (bitLen U:Nat)→Calls prog 169 #[uu (U:Int)] w fun e w'=>e= .returned (.int .i64 (bitLen U:Nat))∧zi w w':=
  fun {v s cs} hf hc hv=>by subst hv;exact Zb (Zd Zh) hf hc (by rfl) (by rfl) w
 by_cases b:U<65536
 ·by_cases c:U<256
  ·obtain⟨e1,e2⟩:=zA (m:=0) (by omega) (by omega) c;exact step (Zze U) (Zj e2 (Zj (ZeQ (by omega)) (Z7 (ZeQ (by omega))))) (by rw[e1];congr 1;omega)
  ·have l:=Zau U 8 (by omega);obtain⟨e1,e2⟩:=zA (m:=8) (Z:=U/2^8) (by omega) (by omega) (by omega);rw[← Zd9] at e1 e2;exact step (Zzf U) (Zj e2 (Zj ZaA (Zj (Zlq (by omega)) (Z7 (ZeQ (by omega)))))) (by rw[e1];congr 1;omega)
 ·have l:=Zau U 16 (by omega);by_cases c:U/2^16<256
  ·obtain⟨e1,e2⟩:=zA (m:=16) (Z:=U/2^16) (by omega) (by omega) c;rw[← Zd9] at e1 e2;exact step (Zzg U) (Zj e2 (Zj (ZeQ (by rw[Zd9];omega)) (Zj ZaA (Z7 (Zlq (by omega)))))) (by rw[e1];congr 1;omega)
  ·have l2:=Zau (U/2^16) 8 (by omega);obtain⟨e1,e2⟩:=zA (m:=24) (Z:=U/2^16/2^8) (by omega) (by omega) (by omega);rw[← Zd9,← Zd9] at e1 e2;exact step (Zzh U) (Zj e2 (Zj ZaA (Zj (Zlq (by rw[Zd9];omega)) (Zj ZaA (Z7 (Zlq (by omega))))))) (by rw[e1];congr 1;omega)
def Zls:Ans:=fun vals s=>
 match vals with
 | [.int .u32 x]=>some (Zlr x,s,[(decide (0≤x∧x<4294967296),true)])
 | _=>none
theorem Zlt:ZC 169 Zls:=by
 intro vals s v s' lg h hl w;unfold Zls at h;split at h
 ·rename_i x;cases h;have hr:=hl _ Xf;simp only[Xi] at hr;exact Zhb x hr.1 hr.2 w
 ·cases h
def Zea:Con:=alt 169 Zls Zn
theorem Zav:ConOk Zea:=Zr func169 rfl Zlt Zh
theorem Zlu:f129.body=some (Zw f129):=by kernel_rfl
theorem Zzi (p:Option Addr) (n c:Nat) (h:Hp):Zk (evC (Zx prog Zi Zea hcK) 100 false (Zw f129) ([.slice p n c]++List.replicate 22 undef,h,[cmp true]) ⟨[],[],[]⟩) 3 20 (some none) [.slice p n c,undef,i6' 0] h [((n:Int)==0,true)]:=by and_intros<;>kernel_rfl
theorem Zpy (o n c:Nat) (l:List Value):Zk (evC (Zx prog Zi Zea hcK) 100 false (Zw f129) ([sl 0 o n c]++List.replicate 22 undef,⟨1,[(l,tR)]⟩,[cmp false,cmp true]) ⟨[],[],[]⟩) 3 20 (some none) [sl 0 o n c,undef,i6' 0] ⟨1,[(l,tR)]⟩ [ZgX l o n c,(ZH (Zt l o n),true),((n:Int)==0,false)]:=by and_intros<;>kernel_rfl
theorem Zlv (o n c:Nat) (x:Int) (l:List Value):Zk (evC (Zx prog Zi Zea hcK) 100 false (Zw f129) ([sl 0 o n c]++List.replicate 22 undef,⟨1,[(l,tR)]⟩,[cmp false,cmp false,at_,val (uu x)]) ⟨[],[],[]⟩) 3 20 (some none) [sl 0 o n c,undef,i6' (i64.wrap (i64.wrap (n1 n*32)+(bitLen x.toNat:Nat)))] ⟨1,[(l,tR)]⟩ [(decide (0≤x∧x<4294967296),true),(Z6 (l[o+(n1 n).toNat*1]?) (.int .u32 x),true),(decide (0≤n1 n∧n1 n<n),true),ZgX l o n c,(ZH (Zt l o n),false),((n:Int)==0,false)]:=by and_intros<;>kernel_rfl
def ZcN (L:List Int):Int:=match (L.length==0 || ZH L) with | true=>0 | false=>32*((L.length-1:Nat):Int)+(bitLen (L.getD (L.length-1) 0).toNat:Nat)
theorem ZdA {x:Int}(h0:0≤x) (h1:x<4294967296):bitLen x.toNat≤32:=by
 by_cases h:65536≤x.toNat
 ·have p8:(2:Nat)^8=256:=rfl;have p16:(2:Nat)^16=65536:=rfl;have l:=Zau x.toNat 16 (by omega);by_cases h2:256≤x.toNat/2^16
  ·have l2:=Zau (x.toNat/2^16) 8 (by omega);have:=bitLen_le8 (x.toNat/2^16/2^8) (by omega);omega
  ·have:=bitLen_le8 (x.toNat/2^16) (by omega);omega
 ·have p8:(2:Nat)^8=256:=rfl;by_cases h2:256≤x.toNat
  ·have l2:=Zau x.toNat 8 (by omega);have:=bitLen_le8 (x.toNat/2^8) (by omega);omega
  ·have:=bitLen_le8 x.toNat (by omega);omega
theorem Zlw {l:List Value}{o n c:Nat}(ha:Zu tR l o n c=true):
  Runs (Zx prog Zi Zea hcK) (Zw f129) ([sl 0 o n c]++List.replicate 22 undef,⟨1,[(l,tR)]⟩,[]) fun e y=>(e=none∨e=some none)∧zE prog f129 y.1 y.2.1=some (i6' (ZcN (Zt l o n))):=by
 obtain⟨a1,a2,a3,a4,a5,a6,a7⟩:=Z4 ha;unfold ZcN;by_cases h0:n=0
 ·have e0:((Zt l o n).length==0)=true:=by rw[a2,h0];rfl
  rw[e0,Bool.true_or];refine (Zc (Z3 Zav Zeu) (Zzi (some ⟨0,o,none⟩) n c _) (Z7 (by rw[h0];rfl))).mono fun e y he=> ?_;obtain⟨rfl,⟨g,e2⟩,e3⟩:=he;refine⟨.inr rfl,?_⟩;rw[e2,e3];rfl
 ·have e0:((Zt l o n).length==0)=false:=by rw[a2];simpa using h0
  have e1:((n:Int)==0)=false:=by simpa using h0
  rw[e0,Bool.false_or];cases hb:ZH (Zt l o n) with
  | true=>
   refine (Zc (Z3 Zav Zeu) (Zpy o n c l) (Zj ha (Zj hb (Z7 e1)))).mono fun e y he=> ?_;obtain⟨rfl,⟨g,e2⟩,e3⟩:=he;refine⟨.inr rfl,?_⟩;rw[e2,e3];rfl
  | false=>
   have h8:n≤8192:=by
    unfold ZH at hb;simp only[Bool.or_eq_false_iff,decide_eq_false_iff_not,a2] at hb;omega
   have ek:n1 n=((n-1:Nat):Int):=by
    unfold n1;rw[Zv (by omega) (by omega)];omega
   rw[a2];have hx:=a1.rng ((Zt l o n).getD (n-1) 0) (by
    have hk':n-1<(Zt l o n).length:=by omega
    simp [List.getD,List.getElem?_eq_getElem hk'])
   have hc:=a1.cell (k:=n-1) (by omega);have b32:=ZdA hx.1 hx.2;refine (Zc (Z3 Zav Zeu) (Zlv o n c ((Zt l o n).getD (n-1) 0) l) (Zj (Xa hx) (Zj (by
    rw[ek,Xg,Nat.mul_one,hc];simp [Z6]) (Zj (by rw[ek];exact Xa (by omega)) (Zj ha (Zj hb (Z7 e1))))))).mono fun e y he=> ?_
   obtain⟨rfl,⟨g,e2⟩,e3⟩:=he;refine⟨.inr rfl,?_⟩;have e4:i64.wrap (i64.wrap (n1 n*32)+(bitLen ((Zt l o n).getD (n-1) 0).toNat:Nat))=32*((n-1:Nat):Int)+(bitLen ((Zt l o n).getD (n-1) 0).toNat:Nat):=by
    rw[ek,Zv (n:=((n-1:Nat):Int)*32) (by omega) (by omega),Zv (by omega) (by omega)];omega
   rw[e2,e3,e4];rfl
theorem Zpz:Zs (Zf (Ze prog Zi Zn true) 100 129 [ZD] []) (i6' 0) []:=by and_intros<;>kernel_rfl
def Z2Z:Zba:=fun vals h s=>
 match vals with
 | [.slice none 0 0]=>some (i6' 0,h,s,[])
 | [.slice (some ⟨b,o,none⟩) n c]=>
  match h.blk? b with
  | some x=>some (i6' (ZcN (Zt x.1 o n)),h,s,[(Zu x.2 x.1 o n c,true)])
  | _=>none
 | _=>none
theorem Zhc:ZJ 129 Z2Z:=by
 intro vals h s v h' s' lg hg hl m B w E hv;unfold Z2Z at hg;split at hg
 ·cases hg;refine (Zb (Zd Zh) Zpz (fun x hx=>by cases hx) (by rfl) (by rfl) w).mono fun e w' he=> ?_;obtain⟨E',hb⟩:=ZQ E he.2;exact⟨m,he.1,⟨Agree.refl _ _,E',hb,Nat.le_refl _,rfl⟩⟩
 ·rename_i b o n c;split at hg
  ·rename_i x hx;cases hg;have ra:=hl _ Xf;obtain⟨h1,h2,h3,h4,h5,h6,h7⟩:=Z4 ra;have hlt:=Hp.blk_lt hx;have r:=Zlw (ZW ra);have:=zl (T:=Zx prog Zi Zea hcK) func129 Zlu (ZcU h7) (vals:=[sl 0 o n c]) (fun v hv=>by rw[List.mem_singleton.1 hv];rfl) (by rfl) r E (s:=fun _=>b) (fun i _=>hlt) (ZaQ hx h5 h6 rfl);exact this.mono fun e w' he=>⟨m,he.1,he.2⟩
  ·cases hg
 ·cases hg
end Go.Proofs.YtgefjidphfdhdaaGreatDoor.Na
namespace Go.Proofs.YtgefjidphfdhdaaGreatDoor
open Go.KRun Go.Nt
set_option maxRecDepth 100000
theorem Za6 (L:List Int):(wU L).all still=true:=by
 unfold wU;rw[List.all_eq_true];intro v hv;obtain⟨x,_,rfl⟩:=List.mem_map.1 hv;rfl
end Go.Proofs.YtgefjidphfdhdaaGreatDoor
namespace Go.Proofs.YtgefjidphfdhdaaGreatDoor.Na
open Go.Proofs.Tryz
open Go.IntKind
open Go.KRun Go.Nt
set_option maxRecDepth 100000
theorem Zsq {F:List Value}{o:Nat}(hF:F.length=o) (dx:List Int) (x:Int) (px:List Int):(F++wU (dx++x::px))[o+dx.length]? =some (uu x):=by
 rw[List.getElem?_append_right (by omega),hF,Nat.add_sub_cancel_left];exact Zlc dx x px
theorem Zsr {F:List Value}{o:Nat}(hF:F.length=o) (dx:List Int) (x d:Int) (px:List Int):(F++wU (dx++x::px)).set (o+dx.length) (uu d)=F++wU ((dx++[d])++px):=by
 rw[List.set_append_right _ _ (by omega),hF,Nat.add_sub_cancel_left,ZfU]
theorem Zp0 {F la:List Value}{o c k:Nat}{L:List Int}(hF:F.length=o) (hL:wds L) (hk:k<32) (hN:L.length<4611686018427387904):
  Runs (Ze prog Zi Zn true) (Zaj (mR0 f130) (.block 0 (.loop (mL f130)))) ([sl 1 o L.length c,i6' k]++List.replicate 25 undef,hU (F++wU L) la,[]) fun e y=>(e=none∨e=some none)∧zE prog f130 y.1 y.2.1=some (.tuple #[])∧y.2.1.cut 2=hU (F++wU (dg L.length (vN L*2^k))) la:=by
 refine Zz (Zd Zh) (Zln 1 o L.length c (i6' k) _) (fun x hx=>by cases hx) fun g=> ?_;refine (Runs.forLoop (R:=fun _=>False) (P:=fun y=>∃ (l i x j:Value) (g:Nat→Value),y.1=mF (sl 1 o L.length c) (i6' k) l i x (sl 1 o L.length c) (i6' L.length) j++tl 17 g∧y.2.1=hU (F++wU (dg L.length (vN L*2^k))) la)
  (fun r y=>∃ (dx px:List Int) (l:Int) (i0 x0:Value) (g:Nat→Value),px.length=r∧dx.length+px.length=L.length∧wds dx∧wds px∧(0≤l∧l<2^k)∧y.1=mF (sl 1 o L.length c) (i6' k) (uu l) i0 x0 (sl 1 o L.length c) (i6' L.length) (i6' dx.length)++tl 17 g∧y.2.1=hU (F++wU (dx++px)) la∧vN dx+4294967296^dx.length*(vN px*2^k+l)=vN L*2^k)
  ?_ (n:=L.length) ⟨[],L,0,undef,undef,g,rfl,by simp,(fun x hx=>by cases hx),hL,⟨by omega,Int.pow_pos (by omega)⟩,rfl,rfl,by simp [vN]⟩).mono fun e' y he=> ?_
 ·rintro r ⟨t,h',s'⟩ ⟨dx,px,l,i0,x0,g,hr,hl,wd1,wd2,hlo,ht,hh,hv⟩;simp only at ht hh;subst ht hh
  match px,hr,hl,wd2,hv with
  | [],hr,hl,wd2,hv=>
   have hl':dx.length=L.length:=by simpa using hl
   refine (Zc (Zd Zh) (Zlo _ _ _ _ _ _ L.length dx.length _ g) (Z7 (Xb (by omega)))).mono fun e' y he=> ?_;obtain⟨rfl,⟨g1,e2⟩,e3⟩:=he;refine⟨rfl,_,_,_,_,g1,e2,?_⟩;simp only[vN] at hv;rw[Int.zero_mul,Int.zero_add] at hv;have e5:=Zch dx.length (vN dx) l;rw[hv,ZdY dx wd1,hl'] at e5;rw[e3,e5,List.append_nil]
  | x::px,hr,hl,wd2,hv=>
   obtain⟨wx,wd2⟩:=zL wd2;obtain⟨k1,k2,k3⟩:=Z6O wx hlo hk;have cS:=Zsq hF dx x px;have lS:(F++wU (dx++x::px)).length=o+L.length:=by
    unfold wU;simp at hl ⊢;omega
   have hl':dx.length<L.length:=by simp at hl;omega
   have l1:decide (o+((dx.length:Int)).toNat*1<(F++wU (dx++x::px)).length)=true:=by
    rw[lS,Xg];exact Xa (by omega)
   have l2:(inR dx.length L.length).1=(inR dx.length L.length).2:=Xa (by omega);have l4:(ZbO (F++wU (dx++x::px)) o dx.length x).1=(ZbO (F++wU (dx++x::px)) o dx.length x).2:=zT cS;have e32:i64.wrap (32-(k:Int))=32-(k:Int):=Zv (by omega) (by omega);have l5:decide (i64.wrap (32-(k:Int))<0)=false:=by
    rw[e32];exact Xb (by omega)
   have l6:decide ((k:Int)<0)=false:=Xb (by omega);have l7:decide ((dx.length:Int)<(L.length:Nat))=true:=Xa (by omega);refine (Zc (Zd Zh) (Zzd o L.length c k l dx.length x i0 x0 la (F++wU (dx++x::px)) g) (Zj l5 (Zj l1 (Zj l2 (Zj l6 (Zj l4 (Zj l2 (Z7 l7)))))))).mono fun e' y he=> ?_;obtain⟨rfl,⟨g1,e2⟩,e3⟩:=he;refine⟨px.length,by simp at hr;omega,dx++[Zpw x k l],px,Zpx x k,i6' dx.length,uu x,g1,rfl,by simp at hl ⊢;omega,z8 wd1 (fun z hz=>by rw[List.mem_singleton.1 hz];exact k1),wd2,k2,?_,?_,?_⟩
   ·rw[e2,Zv (by omega) (by omega)];simp
   ·rw[e3,Xg,Nat.mul_one,Zsr hF]
   ·simp only[vN] at hv;rw[zd,List.length_append,List.length_singleton,pw];exact Zlm k3 hv
 ·match e',he with
  | none,he=>
   obtain⟨l,i,x,j,g,e1,e2⟩:=he;refine⟨.inl rfl,?_,?_⟩
   ·rw[e1];exact Zlp _ _ _ _ _ _ _ _ _ _
   ·rw[e2];rfl
  | some none,he=>exact he.elim
  | some (some _),he=>exact he.elim
def upS (S:List Value) (o n:Nat) (k:Int):List Value:=S.take o++wU (dg n (vN (Zt S o n)*2^k.toNat))
def Z3B:Zba:=fun vals h s=>
 match vals,h with
 | [.slice (some ⟨1,o,none⟩) n c,.int .i64 k],⟨2,[(S,t),(la,t')]⟩=>some (.tuple #[],⟨2,[(upS S o n k,tU),(la,tR)]⟩,s,[(Nat.beq t tU,true),(Nat.beq t' tR,true),(Zu t S o n c,true),(Nat.beq (o+n) S.length,true),(la.all still,true),(decide (0≤k∧k<32),true)])
 | _,_=>none
theorem Za1 (L:List Int) (n:Nat):(wU L).all (lt1 n)=true:=by
 unfold wU;rw[List.all_eq_true];intro v hv;obtain⟨x,_,rfl⟩:=List.mem_map.1 hv;rfl
theorem ZM {l:List Value}{n:Nat}(hn:0<n) (h:l.all still=true):l.all (lt1 n)=true:=by
 rw[List.all_eq_true] at*;exact fun v hv=>ZY hn (h v hv)
theorem Zuf:ZJ 130 Z3B:=by
 intro vals h s v h' s' lg hg hl m B w E hv;unfold Z3B at hg;split at hg
 ·rename_i o n c k S t la t';cases hg;have q1:=Xj (hl _ (Xe));have q2:=Xj (hl _ (Xd _ Xe));have ra:=hl _ (Xd _ (Xd _ Xe));have q4:=Xj (hl _ (Xd _ (Xd _ (Xd _ Xe))));have q5:=hl _ (Xd _ (Xd _ (Xd _ (Xd _ Xe))));have q6:=Xc (hl _ (Xd _ (Xd _ (Xd _ (Xd _ (Xd _ Xf))))));simp only at q1 q2 q4 q5;subst q1 q2;obtain⟨a1,a2,a3,a4,a5,a6,a7⟩:=Z4 ra;obtain⟨K,rfl⟩:=Int.eq_ofNat_of_zero_le q6.1;have hc:c<4611686018427387904:=Zl.1 a4;have eS:S=S.take o++wU (Zt S o n):=by
   have h1:=a1.cut;rw[a2] at h1;rw[← h1];unfold ZbE;rw[show n=(S.drop o).length from by simp;omega,List.take_length,List.take_append_drop]
  have hF:(S.take o).length=o:=by simp;omega
  have r:=Zp0 (la:=la) (c:=c) (k:=K) hF a1.rng (by omega) (by omega);rw[a2,← eS] at r;have ht:(Hp.tight ⟨2,[(upS S o n K,tU),(la,tR)]⟩)=true:=by
   unfold Hp.tight upS;simp only[List.all_cons,List.all_nil,List.all_append,Bool.and_true,Xh];refine⟨⟨?_,Za1 _ _⟩,ZM (by omega) q5⟩;rw[List.all_eq_true];exact fun v hv=>ZY (by omega) (a7 v (List.mem_of_mem_take hv))
  exact ZI (T:=Ze prog Zi Zn true) func130 Zij (vals:=[sl 1 o n c,i6' K]) (v:= .tuple #[]) (h:=hU S la) (by rfl) ht r m B w E hv
 ·cases hg
end Go.Proofs.YtgefjidphfdhdaaGreatDoor.Na
namespace Go.Nt
theorem Zlx:∀ (m:Nat) (V:Int),vN (dg m V)+4294967296^m*(V/4294967296^m)=V
 | 0,V=>by simp [dg,vN]
 | m+1,V=>by
  have h:=Zlx m (V/4294967296);simp only[dg,vN];rw[pw,← Int.ediv_ediv_of_nonneg (show (0:Int)≤4294967296 by omega),Int.mul_assoc];omega
theorem Zug {P a b x y z k d e A B:Int}(he:k+(x*y+z)=d+4294967296*e) (h:a+P*((z+4294967296*A)+x*(y+4294967296*B)+k)=b):a+P*d+4294967296*P*(A+x*B+e)=b:=by
 rw[← h];have e1:(z+4294967296*A)+x*(y+4294967296*B)+k=d+4294967296*(A+x*B+e):=by
  rw[Int.mul_add x y,← Int.mul_assoc x 4294967296 B,Int.mul_comm x 4294967296,Int.mul_assoc 4294967296 x B];omega
 rw[e1];generalize A+x*B+e=Z;rw[Int.mul_add P d,← Int.mul_assoc P 4294967296 Z,Int.mul_comm P 4294967296];omega
theorem Zzj {x y:Int}(hx:0≤x∧x<4294967296) (hy:0≤y∧y<4294967296):0≤x*y∧x*y≤18446744065119617025:=by
 constructor
 ·exact Int.mul_nonneg hx.1 hy.1
 ·have h1:x*y≤4294967295*y:=Int.mul_le_mul_of_nonneg_right (by omega) hy.1;omega
theorem Z3C {M B x Q:Int}(hM:0≤M∧M<Q) (hB:0≤B∧B<Q) (hx:0≤x∧x<4294967296):0≤M+x*B∧M+x*B<Q*4294967296:=by
 have h0:=Int.mul_nonneg hx.1 hB.1;have h1:x*B≤4294967295*B:=Int.mul_le_mul_of_nonneg_right (by omega) hB.1;omega
theorem Zp1 {T Q:Int}(hQ:0<Q) (h:0≤T∧T<Q*4294967296):0≤T/Q∧T/Q<4294967296:=
 ⟨Int.ediv_nonneg h.1 (by omega),Int.ediv_lt_of_lt_mul hQ (by rw[Int.mul_comm];exact h.2)⟩
theorem Zp2 {M:List Int}{T:Int}(hT:0≤T∧T<4294967296^M.length*4294967296):∃ y m,dg M.length T++[T/4294967296^M.length]=y::m∧m.length=M.length∧wds [y]∧wds m∧y+4294967296*vN m=T:=by
 have hc:=Zp1 (Zad M.length) hT;have hw:wds (dg M.length T++[T/4294967296^M.length]):=z8 (Zac _ _) (fun x hx=>by rw[List.mem_singleton.1 hx];exact hc);have hl:(dg M.length T++[T/4294967296^M.length]).length=M.length+1:=by rw[List.length_append,ZB];rfl
 have hv:vN (dg M.length T++[T/4294967296^M.length])=T:=by rw[zd,ZB];exact Zlx _ _
 cases h:dg M.length T++[T/4294967296^M.length] with
 | nil=>rw[h] at hl;simp at hl
 | cons y m=>
  rw[h] at hw hl hv;obtain⟨w1,w2⟩:=zL hw;refine⟨y,m,rfl,by simpa using hl,fun x hx=>by rw[List.mem_singleton.1 hx];exact w1,w2,hv⟩
theorem Zuh {P d m A B x y m':Int}(hT:y+4294967296*m'=m+x*B) (h:d+P*m=A*B):d+P*y+4294967296*P*m'=(A+P*x)*B:=by
 have e1:P*y+4294967296*P*m'=P*(m+x*B):=by
  rw[← hT,Int.mul_add,← Int.mul_assoc P 4294967296 m',Int.mul_comm P 4294967296]
 rw[Int.add_mul,← h,Int.mul_assoc P x B];rw[Int.mul_add] at e1;omega
theorem Zss:∀ n:Nat,vN (List.replicate n 0)=0
 | 0=>rfl
 | n+1=>by
  rw[List.replicate_succ];simp only[vN];rw[Zss n];rfl
end Go.Nt
namespace Go.Proofs.YtgefjidphfdhdaaGreatDoor.Na
open Go.Proofs.Tryz
open Go.IntKind
open Go.KRun Go.Nt
set_option maxRecDepth 100000
set_option linter.unusedVariables false
def tK (k x y z:Int):Int:=u64.wrap (k+u64.wrap (u64.wrap (u64.wrap x*u64.wrap y)+u64.wrap z))
def tC (k x y z:Int):Int:=(tK k x y z).fdiv (2^min (Int.toNat 32) 64)
def tD (k x y z:Int):Int:=u32.wrap (tK k x y z)
theorem Zui {k x y z:Int}(hk:0≤k∧k<4294967296) (hx:0≤x∧x<4294967296) (hy:0≤y∧y<4294967296) (hz:0≤z∧z<4294967296):
  (0≤tD k x y z∧tD k x y z<4294967296)∧(0≤tC k x y z∧tC k x y z<4294967296)∧k+(x*y+z)=tD k x y z+4294967296*tC k x y z:=by
 have hxy:=Zzj hx hy;have e:tK k x y z=k+(x*y+z):=by
  unfold tK;simp only[ZcV];rw[Int.emod_eq_of_lt hx.1 (by omega),Int.emod_eq_of_lt hy.1 (by omega),Int.emod_eq_of_lt hz.1 (by omega),Int.emod_eq_of_lt hxy.1 (by omega),Int.emod_eq_of_lt (by omega) (by omega),Int.emod_eq_of_lt (by omega) (by omega)]
 unfold tD tC;rw[e,ZgJ,show ((2:Int)^min (Int.toNat 32) 64)=4294967296 from by decide,Int.fdiv_eq_ediv_of_nonneg _ (by omega)];generalize x*y=W at*;omega
def tmP (F:Func):List Code:=[ZA (Zw F),ZA (ZV (Zw F)),ZA (ZV (ZV (Zw F)))]
def tmB (F:Func):Code:=ZA (ZV (ZV (ZV (Zw F))))
def tmL (F:Func):Code:=cIn (cIn (ZV (tmB F)))
def tmE (F:Func):Code:=ZV (ZV (ZV (ZV (Zw F))))
def tmF (o n c o' c':Nat) (x k:Int) (v8 v9 u1 u2 u3 u4:Value) (j:Int):List Value:=[sl 2 o n c,sl 1 o' n c',uu x,undef,undef,undef,uu 0,.int .u64 k,v8,v9,u1,u2,u3,u4,sl 1 o' n c',i6' n,i6' j]
theorem Zuj:f170.body=some (Zaj (tmP f170) (.seq (.seq (ZA (tmB f170)) (.block 0 (.loop (tmL f170)))) (tmE f170))):=by kernel_rfl
def tmA (o n c o' c':Nat) (x:Int):List Value:=[sl 2 o n c,sl 1 o' n c',uu x,undef,undef,undef,uu 0,.int .u64 0,undef,undef,sl 2 o n c,sl 1 o' n c',i6' n,sl 2 o n c]
theorem Zzk (o n c o' c':Nat) (x:Int) (S la lb:List Value):Zk (evL (Ze prog Zi Zn true) 100 (tmP f170) ([sl 2 o n c,sl 1 o' n c',uu x]++List.replicate 41 undef,h3 la lb S,[num 0]) ⟨[],[],[]⟩) 14 30 none (tmA o n c o' c' x) (h3 la lb S) [(Z8 c,true),(ZR 0 n c c,true),(decide ((c:Int)=0∧(0:Int)≠0),false)]:=by and_intros<;>kernel_rfl
theorem Z3D (o n c o' c':Nat) (x:Int) (S la lb:List Value) (g:Nat→Value):Zk (evC (Ze prog Zi Zn true) 100 false (ZA (tmB f170)) (tmA o n c o' c' x++tl 30 g,h3 la lb S,[]) ⟨[],[],[]⟩) 17 27 none (tmF o n c o' c' x 0 undef undef (sl 2 o n c) (sl 1 o' n c') (i6' n) (sl 2 o n c) 0) (h3 la lb S) []:=by and_intros<;>kernel_rfl
theorem Zzl (o n c o' c':Nat) (x k j:Int) (v8 v9 u1 u2 u3 u4:Value) (S la lb:List Value) (g:Nat→Value):Zk (evC (Ze prog Zi Zn true) 100 false (tmL f170) (tmF o n c o' c' x k v8 v9 u1 u2 u3 u4 j++tl 27 g,h3 la lb S,[cmp false]) ⟨[],[],[]⟩) 17 27 (some (some 0)) (tmF o n c o' c' x k v8 v9 u1 u2 u3 u4 j) (h3 la lb S) [(decide (j<n),false)]:=by and_intros<;>kernel_rfl
theorem Z3E (o n c o' c':Nat) (x k j y z:Int) (v8 v9 u1 u2 u3 u4:Value) (S la lb:List Value) (g:Nat→Value):Zk (evC (Ze prog Zi Zn true) 100 false (tmL f170) (tmF o n c o' c' x k v8 v9 u1 u2 u3 u4 j++tl 27 g,h3 la lb S,[cmp true,at_,val (uu y),at_,val (uu z),at_,at_]) ⟨[],[],[]⟩) 17 27 none (tmF o n c o' c' x (tC k x y z) (i6' j) (uu y) u1 u2 u3 u4 (i64.wrap (j+1))) (h3 la lb (S.set (o+j.toNat*1) (uu (tD k x y z)))) [(decide ((32:Int)<0),false),(decide (o+j.toNat*1<S.length),true),inR j n,ZbO S o j z,inR j n,ZbO lb o' j y,inR j n,(decide (j<n),true)]:=by and_intros<;>kernel_rfl
theorem Zzm (o n c o' c':Nat) (x k j:Int) (v8 v9 u1 u2 u3 u4:Value) (h:Hp) (g:Nat→Value):Zk (evC (Ze prog Zi Zn true) 100 false (tmE f170) (tmF o n c o' c' x k v8 v9 u1 u2 u3 u4 j++tl 27 g,h,[]) ⟨[],[],[]⟩) 7 37 (some none) [sl 2 o n c,sl 1 o' n c',uu x,undef,undef,undef,uu (u32.wrap k)] h []:=by and_intros<;>kernel_rfl
theorem ZdB {F:List Value}{o:Nat}(hF:F.length=o) (dx:List Int) (x:Int) (px:List Int) (R:List Value):(F++(wU (dx++x::px)++R))[o+dx.length]? =some (uu x):=by
 rw[← List.append_assoc,List.getElem?_append_left (by unfold wU;simp;omega)];exact Zsq hF dx x px
theorem ZdC {F:List Value}{o:Nat}(hF:F.length=o) (dx:List Int) (x d:Int) (px:List Int) (R:List Value):(F++(wU (dx++x::px)++R)).set (o+dx.length) (uu d)=F++(wU ((dx++[d])++px)++R):=by
 rw[← List.append_assoc,List.set_append_left _ _ (by unfold wU;simp;omega),Zsr hF,List.append_assoc]
def tmR (M B:List Int) (x:Int):List Int:=dg M.length (vN M+x*vN B)
def tmC (M B:List Int) (x:Int):Int:=(vN M+x*vN B)/4294967296^M.length
theorem Zuk {F R la lb:List Value}{o c o' c':Nat}{M LB:List Int}{x:Int}(hF:F.length=o) (hM:wds M) (RB:Row lb o' LB) (hl:M.length=LB.length) (hN:M.length<1099511627776) (hx:0≤x∧x<4294967296) (hc:M.length≤c) (hs:Z8 c=true):
  Runs (Ze prog Zi Zn true) (Zaj (tmP f170) (.seq (.seq (ZA (tmB f170)) (.block 0 (.loop (tmL f170)))) (tmE f170))) ([sl 2 o M.length c,sl 1 o' M.length c',uu x]++List.replicate 41 undef,h3 la lb (F++(wU M++R)),[]) fun e y=>(e=none∨e=some none)∧zE prog f170 y.1 y.2.1=some (uu (tmC M LB x))∧y.2.1.cut 3=h3 la lb (F++(wU (tmR M LB x)++R)):=by
 have hwB:=RB.rng;have hcs:c<4611686018427387904:=Zl.1 hs;refine Zz (Zd Zh) (Zzk o M.length c o' c' x _ la lb) (Zj hs (Zj (by unfold ZR;exact Xa (by omega)) (Z7 (Xb (by omega))))) fun g=> ?_;refine Runs.seq (P1:=fun e' y=>e'=none∧∃ (k j:Int) (v8 v9 u1 u2 u3 u4:Value) (g:Nat→Value),y.1=tmF o M.length c o' c' x k v8 v9 u1 u2 u3 u4 j++tl 27 g∧(0≤k∧k<4294967296)∧k=tmC M LB x∧y.2.1=h3 la lb (F++(wU (tmR M LB x)++R))) ?_ ?_ (fun e y he=>by cases he.1)
 ·refine Runs.seq (P1:=fun e' y=>e'=none∧(∃ g,y.1=tmF o M.length c o' c' x 0 undef undef (sl 2 o M.length c) (sl 1 o' M.length c') (i6' M.length) (sl 2 o M.length c) 0++tl 27 g)∧y.2.1=h3 la lb (F++(wU M++R))) (Zc (Zd Zh) (Z3D o M.length c o' c' x _ la lb g) (fun x hx=>by cases hx)) ?_ (fun e y he=>by cases he.1);rintro⟨t,h',s'⟩ ⟨_,⟨g1,ht⟩,hh⟩;simp only at ht hh;subst ht hh;refine (Runs.forLoop (R:=fun _=>False) (P:=fun y=>∃ (k j:Int) (v8 v9 u1 u2 u3 u4:Value) (g:Nat→Value),y.1=tmF o M.length c o' c' x k v8 v9 u1 u2 u3 u4 j++tl 27 g∧(0≤k∧k<4294967296)∧k=tmC M LB x∧y.2.1=h3 la lb (F++(wU (tmR M LB x)++R)))
   (fun r y=>∃ (dx px bx:List Int) (k:Int) (v8 v9 u1 u2 u3 u4:Value) (g:Nat→Value),px.length=r∧dx.length+px.length=M.length∧wds dx∧wds px∧bx=LB.drop dx.length∧(0≤k∧k<4294967296)∧y.1=tmF o M.length c o' c' x k v8 v9 u1 u2 u3 u4 dx.length++tl 27 g∧y.2.1=h3 la lb (F++(wU (dx++px)++R))∧vN dx+4294967296^dx.length*(vN px+x*vN bx+k)=vN M+x*vN LB)
   ?_ (n:=M.length) ⟨[],M,LB,0,undef,undef,_,_,_,_,g1,rfl,by simp,(fun x hx=>by cases hx),hM,rfl,by omega,rfl,rfl,by simp [vN]⟩).mono fun e' y he=> ?_
  ·rintro r ⟨t,h',s'⟩ ⟨dx,px,bx,k,v8,v9,u1,u2,u3,u4,g,hr,hlen,wd1,wd2,hb,hk,ht,hh,hv⟩;simp only at ht hh;subst ht hh
   match px,hr,hlen,wd2,hv with
   | [],hr,hlen,wd2,hv=>
    have hl':dx.length=M.length:=by simpa using hlen
    refine (Zc (Zd Zh) (Zzl o M.length c o' c' x k dx.length v8 v9 u1 u2 u3 u4 _ la lb g) (Z7 (Xb (by omega)))).mono fun e' y he=> ?_;obtain⟨rfl,⟨g1,e2⟩,e3⟩:=he;have hbx:bx=[]:=by rw[hb,List.drop_eq_nil_of_le (by omega)]
    subst hbx;simp only[vN] at hv;rw[Int.mul_zero,Int.zero_add,Int.zero_add] at hv;have hbd:=Zax dx wd1;refine⟨rfl,k,dx.length,v8,v9,u1,u2,u3,u4,g1,e2,hk,?_,?_⟩
    ·unfold tmC;rw[← hv,← hl',Int.add_mul_ediv_left _ _ (by have:=Zad dx.length;omega),Int.ediv_eq_zero_of_lt hbd.1 hbd.2,Int.zero_add]
    ·unfold tmR;rw[e3,← hv,← hl',Zch,ZdY dx wd1,List.append_nil]
   | z::px,hr,hlen,wd2,hv=>
    obtain⟨wz,wd2⟩:=zL wd2;have hl':dx.length<M.length:=by simp at hlen;omega
    have hy:=RB.cell (k:=dx.length) (by omega);have hyr:=hwB (LB.getD dx.length 0) (by
     have hk':dx.length<LB.length:=by omega
     simp [List.getD,List.getElem?_eq_getElem hk'])
    have hbx:bx=LB.getD dx.length 0::LB.drop (dx.length+1):=by
     have hk':dx.length<LB.length:=by omega
     rw[hb,List.drop_eq_getElem_cons hk'];simp [List.getD,List.getElem?_eq_getElem hk']
    generalize LB.getD dx.length 0=yv at*;obtain⟨k1,k2,k3⟩:=Zui hk hx hyr wz;have cS:=ZdB hF dx z px R;have lS:o+dx.length<(F++(wU (dx++z::px)++R)).length:=(List.getElem?_eq_some_iff.1 cS).1;have l1:decide (o+((dx.length:Int)).toNat*1<(F++(wU (dx++z::px)++R)).length)=true:=by
     rw[Xg,Nat.mul_one];exact Xa lS
    have l2:(inR dx.length M.length).1=(inR dx.length M.length).2:=Xa (by omega);refine (Zc (Zd Zh) (Z3E o M.length c o' c' x k dx.length yv z v8 v9 u1 u2 u3 u4 _ la lb g) (Zj (by decide) (Zj l1 (Zj l2 (Zj (zT cS) (Zj l2 (Zj (zT hy) (Zj l2 (Z7 (Xa (by omega))))))))))).mono fun e' y he=> ?_;obtain⟨rfl,⟨g1,e2⟩,e3⟩:=he;refine⟨px.length,by simp at hr;omega,dx++[tD k x yv z],px,LB.drop (dx.length+1),tC k x yv z,i6' dx.length,uu yv,u1,u2,u3,u4,g1,rfl,by simp at hlen ⊢;omega,z8 wd1 (fun u hu=>by rw[List.mem_singleton.1 hu];exact k1),wd2,by simp,k2,?_,?_,?_⟩
    ·rw[e2,Zv (by omega) (by omega)];simp
    ·rw[e3,Xg,Nat.mul_one,ZdC hF]
    ·rw[hbx] at hv;simp only[vN] at hv;rw[zd,List.length_append,List.length_singleton,pw];exact Zug k3 hv
  ·match e',he with
   | none,he=>exact⟨rfl,he⟩
   | some none,he=>exact he.elim
   | some (some _),he=>exact he.elim
 ·rintro⟨t,h',s'⟩ ⟨_,k,j,v8,v9,u1,u2,u3,u4,g,ht,hk,hkv,hh⟩;simp only at ht hh;subst ht hh;refine (Zc (Zd Zh) (Zzm o M.length c o' c' x k j v8 v9 u1 u2 u3 u4 _ g) (fun x hx=>by cases hx)).mono fun e' y he=> ?_;obtain⟨rfl,⟨g1,e2⟩,e3⟩:=he;have ek:u32.wrap k=tmC M LB x:=by rw[ZgJ,Int.emod_eq_of_lt hk.1 hk.2,hkv]
  rw[ek] at e2;refine⟨.inr rfl,?_,?_⟩
  ·rw[e2,e3];rfl
  ·rw[e3];rfl
def tmS (S:List Value) (o n:Nat) (L:List Int):List Value:=S.take o++(wU L++S.drop (o+n))
def Zhd (S lb la:List Value) (t t' t'':TypeId) (o n c o' n' c':Nat) (x:Int):Bool:=Nat.beq t tU && Nat.beq t' tR && Nat.beq t'' tR && Zu t S o n c && Zu t' lb o' n' c' && Nat.beq n n' && Nat.blt n 1099511627776 && la.all still && decide (0≤x∧x<4294967296)
def Z3F:Zba:=fun vals h s=>
 match vals,h with
 | [.slice (some ⟨2,o,none⟩) n c,.slice (some ⟨1,o',none⟩) n' c',.int .u32 x],⟨3,[(S,t),(lb,t'),(la,t'')]⟩=>some (uu (tmC (Zt S o n) (Zt lb o' n') x),⟨3,[(tmS S o n (tmR (Zt S o n) (Zt lb o' n') x),tU),(lb,tR),(la,tR)]⟩,s,[(Zhd S lb la t t' t'' o n c o' n' c' x,true)])
 | _,_=>none
theorem Zul:ZJ 170 Z3F:=by
 intro vals h s v h' s' lg hg hl m B w E hv;unfold Z3F at hg;split at hg
 ·rename_i o n c o' n' c' x S t lb t' la t'';cases hg;have q:=hl _ Xf;unfold Zhd at q;simp only[Xh,Xi] at q;obtain⟨⟨⟨⟨⟨⟨⟨⟨q1,q2⟩,q3⟩,ra⟩,rb⟩,qn⟩,qN⟩,q5⟩,q6⟩:=q;have q1:=Xj q1;have q2:=Xj q2;have q3:=Xj q3;have qn:=Xj qn;have qN:n<1099511627776:=Zl.1 qN;subst q1 q2 q3 qn;obtain⟨a1,a2,a3,a4,a5,a6,a7⟩:=Z4 ra;obtain⟨b1,b2,b3,b4,b5,b6,b7⟩:=Z4 rb;have eS:S=S.take o++(wU (Zt S o n)++S.drop (o+n)):=by
   have h1:=a1.cut;rw[a2] at h1;rw[← h1];unfold ZbE;rw[← List.drop_drop,List.take_append_drop,List.take_append_drop]
  have hF:(S.take o).length=o:=by
   have:=a1.len;simp;omega
  have r:=Zuk (R:=S.drop (o+n)) (la:=la) (c:=c) (c':=c') hF a1.rng b1 (by rw[a2,b2]) (by rw[a2];exact qN) q6 (by rw[a2];exact a3) a4;rw[a2,← eS] at r;have ht:(Hp.tight ⟨3,[(tmS S o n (tmR (Zt S o n) (Zt lb o' n) x),tU),(lb,tR),(la,tR)]⟩)=true:=by
   unfold Hp.tight tmS;simp only[List.all_cons,List.all_nil,List.all_append,Bool.and_true,Xh];refine⟨⟨?_,Za1 _ _,?_⟩,ZM (by omega) (List.all_eq_true.2 b7),ZM (by omega) q5⟩
   ·rw[List.all_eq_true];exact fun v hv=>ZY (by omega) (a7 v (List.mem_of_mem_take hv))
   ·rw[List.all_eq_true];exact fun v hv=>ZY (by omega) (a7 v (List.mem_of_mem_drop hv))
  exact ZI (T:=Ze prog Zi Zn true) func170 Zuj (vals:=[sl 2 o n c,sl 1 o' n c',uu x]) (v:=uu (tmC (Zt S o n) (Zt lb o' n) x)) (h:=h3 la lb S) (by rfl) ht r m B w E hv
 ·cases hg
def hcM:Hc:=zJ 170 Z3F (zJ 131 ZeK hcN)
theorem Zly:HcOk hcM:=Zq func170 rfl Zul (Zq func131 rfl ZaD zo)
def pdP (F:Func):List Code:=[ZA (sn 0 F),ZA (sn 1 F),ZA (sn 2 F),ZA (sn 3 F)]
def pdL (F:Func):Code:=cIn (cIn (ZV (ZA (sn 4 F))))
def pdF (o n c o' n' c' z:Nat) (v7 v8:Value):List Value:=[sl 0 o n c,sl 1 o' n' c',undef,undef,ZD,.nilIface,sl 2 0 z z,v7,v8]
theorem Zum:f127.body=some (Zaj (pdP f127) (.seq (.seq (ZA (ZA (sn 4 f127))) (.block 0 (.loop (pdL f127)))) (ZV (sn 4 f127)))):=by kernel_rfl
def pZ (n n':Nat):Int:=i64.wrap ((n:Int)+(n':Int))
theorem Zzn (o n c o' n' c':Nat) (la lb:List Value):Zk (evL (Zx prog Zi Zn hcM) 100 (pdP f127) ([sl 0 o n c,sl 1 o' n' c']++List.replicate 57 undef,h2 la lb,[cmp false,cmp false,cmp false,at_]) ⟨[],[],[]⟩) 9 50 none (pdF o n c o' n' c' (pZ n n').toNat undef undef) (h3 la lb (List.replicate (pZ n n').toNat (uu 0))) [(ZO 4 (pZ n n') (pZ n n'),true),(decide (i64.wrap (pZ n n'-1)>8192),false),((n':Int)==0,false),((n:Int)==0,false)]:=by and_intros<;>kernel_rfl
theorem Z6Y (o n c o' n' c' z:Nat) (v7 v8:Value) (la lb S:List Value) (g:Nat→Value):Zd4 (evC (Zx prog Zi Zn hcM) 100 false (ZA (ZA (sn 4 f127))) (pdF o n c o' n' c' z v7 v8++tl 50 g,h3 la lb S,[]) ⟨[],[],[]⟩) 9 22 3 25 none (pdF o n c o' n' c' z v7 v8) [sl 0 o n c,i6' n,i6' 0] (h3 la lb S) []:=by and_intros<;>kernel_rfl
theorem Zzo (o n c o' n' c' z:Nat) (j:Int) (v7 v8:Value) (la lb S:List Value) (g g':Nat→Value):Zd4 (evC (Zx prog Zi Zn hcM) 100 false (pdL f127) (ml (pdF o n c o' n' c' z v7 v8) 22 g [sl 0 o n c,i6' n,i6' j] 25 g',h3 la lb S,[cmp false]) ⟨[],[],[]⟩) 9 22 3 25 (some (some 0)) (pdF o n c o' n' c' z v7 v8) [sl 0 o n c,i6' n,i6' j] (h3 la lb S) [(decide (j<n),false)]:=by and_intros<;>kernel_rfl
def pJ (j:Int):Nat:=0+j.toNat*1
def pK (j:Int) (n':Nat):Int:=i64.wrap (j+n')
def pLn (j:Int) (n':Nat):Nat:=(pK j n').toNat-j.toNat
def pS (S lb:List Value) (o' n':Nat) (j x:Int):List Value:=tmS S (pJ j) (pLn j n') (tmR (Zt S (pJ j) (pLn j n')) (Zt lb o' n') x)
def pC (S lb:List Value) (o' n':Nat) (j x:Int):Int:=tmC (Zt S (pJ j) (pLn j n')) (Zt lb o' n') x
theorem Z3G (o n c o' n' c' z:Nat) (j x:Int) (v7 v8:Value) (la lb S:List Value) (g g':Nat→Value):Zd4 (evC (Zx prog Zi Zn hcM) 100 false (pdL f127) (ml (pdF o n c o' n' c' z v7 v8) 22 g [sl 0 o n c,i6' n,i6' j] 25 g',h3 la lb S,[cmp true,at_,val (uu x),num 0,at_,at_]) ⟨[],[],[]⟩) 9 22 3 25 none (pdF o n c o' n' c' z (i6' j) (uu x)) [sl 0 o n c,i6' n,i6' (i64.wrap (j+1))]
  (h3 la lb ((pS S lb o' n' j x).set (0+(pK j n').toNat*1) (uu (pC S lb o' n' j x))))
  [(decide (0+(pK j n').toNat*1<(pS S lb o' n' j x).length),true),inR (pK j n') z,(Zhd S lb la tU tR tR (pJ j) (pLn j n') (z-j.toNat) o' n' c' x,true),(Z8 z,true),(ZR j (pK j n') z z,true),(decide ((z:Int)=j∧j≠0),false),ZbO la o j x,inR j n,(decide (j<n),true)]:=by and_intros<;>kernel_rfl
theorem Zzp (o n c o' n' c' z:Nat) (v7 v8 u1 u2 u3:Value) (la lb S:List Value) (g g':Nat→Value):Zk (evC (Zx prog Zi Zn hcM) 100 false (ZV (sn 4 f127)) (ml (pdF o n c o' n' c' z v7 v8) 22 g [u1,u2,u3] 25 g',h3 la lb S,[cmp false]) ⟨[],[],[]⟩) 6 53 (some none) [sl 0 o n c,sl 1 o' n' c',undef,undef,sl 2 0 (Zg (Zt S 0 z)) z,.nilIface] (h3 la lb S) [(decide ((Zg (Zt S 0 z):Int)>8192),false),(Zu tU S 0 z z,true)]:=by and_intros<;>kernel_rfl
theorem Z3H (p q:Option Addr) (n c n' c':Nat) (h:Hp):Zk (evC (Zx prog Zi Zn hcM) 100 false (Zw f127) ([.slice p n c,.slice q n' c']++List.replicate 57 undef,h,[cmp true]) ⟨[],[],[]⟩) 6 53 (some none) [.slice p n c,.slice q n' c',undef,undef,ZD,.nilIface] h [((n:Int)==0,true)]:=by and_intros<;>kernel_rfl
theorem Z3I (p q:Option Addr) (n c n' c':Nat) (h:Hp):Zk (evC (Zx prog Zi Zn hcM) 100 false (Zw f127) ([.slice p n c,.slice q n' c']++List.replicate 57 undef,h,[cmp false,cmp true]) ⟨[],[],[]⟩) 6 53 (some none) [.slice p n c,.slice q n' c',undef,undef,ZD,.nilIface] h [((n':Int)==0,true),((n:Int)==0,false)]:=by and_intros<;>kernel_rfl
theorem Zik:f127.body=some (Zw f127):=by kernel_rfl
end Go.Proofs.YtgefjidphfdhdaaGreatDoor.Na
namespace Go.Proofs.YtgefjidphfdhdaaGreatDoor.Na
open Go.Proofs.Tryz
open Go.IntKind
open Go.KRun Go.Nt
set_option maxRecDepth 100000
def hcS:Hc:=zJ 128 ZyP (zJ 129 Z2Z (zJ 130 Z3B (zJ 131 ZeK hcN)))
theorem Zil:HcOk hcS:=Zq func128 rfl ZeL (Zq func129 rfl Zhc (Zq func130 rfl Zuf (Zq func131 rfl ZaD zo)))
def skI (k:Int):Int:=i64.wrap (k.tdiv 32)
def rmI (k:Int):Int:=k.tmod 32
def zI (n:Nat) (k:Int):Int:=i64.wrap (i64.wrap (skI k+n)+1)
def zN (n:Nat) (k:Int):Nat:=(zI n k).toNat
def oN (k:Int):Nat:=0+(skI k).toNat*1
def pN (n:Nat) (k:Int):Nat:=zN n k-(skI k).toNat
def cpN (n:Nat) (k:Int):Nat:=Nat.min n (pN n k)
def cpL (la:List Value) (o n:Nat) (k:Int):List Value:=(List.replicate (zN n k) (uu 0)).take (oN k)++(la.drop o).take (cpN n k)++(List.replicate (zN n k) (uu 0)).drop (oN k+cpN n k)
def Z3J (la:List Value) (o n:Nat) (k:Int):Bool:= !(Zai tR) && !(ro tU) && Nat.ble (o+cpN n k) la.length && Nat.ble (oN k+cpN n k) (List.replicate (zN n k) (uu 0)).length && ((la.drop o).take (cpN n k)).all one
def upM (la:List Value) (o n:Nat) (k:Int):List Value:=upS (cpL la o n k) (oN k) (pN n k) (rmI k)
def lnI (la:List Value) (o n:Nat):Int:=i64.wrap (262144-ZcN (Zt la o n))
def fS (o n c:Nat) (k:Int) (r e:Value):List Value:=[sl 0 o n c,i6' k,undef,undef,r,e]
theorem ZeR:f77.body=some (Zw f77):=by kernel_rfl
theorem Zun (o n c:Nat) (k:Int) (la:List Value):Zk (evC (Zx prog Zi Zn hcS) 200 false (Zw f77) ([sl 0 o n c,i6' k]++List.replicate 45 undef,⟨1,[(la,tR)]⟩,[cmp true]) ⟨[],[],[]⟩) 6 41 (some none) (fS o n c k ZD (ZbH 1)) ⟨1,[(la,tR)]⟩ [ZgX la o n c,(ZH (Zt la o n),true)]:=by and_intros<;>kernel_rfl
theorem Zuo (o n c:Nat) (k:Int) (la:List Value):Zk (evC (Zx prog Zi Zn hcS) 200 false (Zw f77) ([sl 0 o n c,i6' k]++List.replicate 45 undef,⟨1,[(la,tR)]⟩,[cmp false,cmp true]) ⟨[],[],[]⟩) 6 41 (some none) (fS o n c k ZD (ZbH 1)) ⟨1,[(la,tR)]⟩ [(decide (k<0),true),ZgX la o n c,(ZH (Zt la o n),false)]:=by and_intros<;>kernel_rfl
theorem Zup (o n c:Nat) (k:Int) (la:List Value):Zk (evC (Zx prog Zi Zn hcS) 200 false (Zw f77) ([sl 0 o n c,i6' k]++List.replicate 45 undef,⟨1,[(la,tR)]⟩,[cmp false,cmp false,cmp true]) ⟨[],[],[]⟩) 6 41 (some none) (fS o n c k ZD .nilIface) ⟨1,[(la,tR)]⟩ [((n:Int)==0,true),(decide (k<0),false),ZgX la o n c,(ZH (Zt la o n),false)]:=by and_intros<;>kernel_rfl
theorem Zp3 (o n c:Nat) (k:Int) (la:List Value):Zk (evC (Zx prog Zi Zn hcS) 200 false (Zw f77) ([sl 0 o n c,i6' k]++List.replicate 45 undef,⟨1,[(la,tR)]⟩,[cmp false,cmp false,cmp false,cmp true]) ⟨[],[],[]⟩) 6 41 (some none) (fS o n c k ZD (ZbH 2)) ⟨1,[(la,tR)]⟩ [(decide (k>lnI la o n),true),ZgX la o n c,((n:Int)==0,false),(decide (k<0),false),ZgX la o n c,(ZH (Zt la o n),false)]:=by and_intros<;>kernel_rfl
theorem Zp4 (o n c:Nat) (k:Int) (la:List Value):Zk (evC (Zx prog Zi Zn hcS) 200 false (Zw f77) ([sl 0 o n c,i6' k]++List.replicate 45 undef,⟨1,[(la,tR)]⟩,[cmp false,cmp false,cmp false,cmp false,at_,num 0,at_,num 0]) ⟨[],[],[]⟩) 6 41 (some none) (fS o n c k (sl 1 0 (Zg (Zt (upM la o n k) 0 (zN n k))) (zN n k)) .nilIface) (hU (upM la o n k) la)
  [(Zu tU (upM la o n k) 0 (zN n k) (zN n k),true),(Nat.beq tU tU,true),(Nat.beq tR tR,true),(Zu tU (cpL la o n k) (oN k) (pN n k) (pN n k),true),(Nat.beq (oN k+pN n k) (cpL la o n k).length,true),(la.all still,true),(decide (0≤rmI k∧rmI k<32),true),
   (Z8 (zN n k),true),(ZR (skI k) (zN n k) (zN n k) (zN n k),true),(decide (((zN n k:Nat):Int)=skI k∧skI k≠0),false),(Z3J la o n k,true),(Z8 (zN n k),true),(ZR (skI k) (zN n k) (zN n k) (zN n k),true),(decide (((zN n k:Nat):Int)=skI k∧skI k≠0),false),(ZO 4 (zI n k) (zI n k),true),
   (decide (k>lnI la o n),false),ZgX la o n c,((n:Int)==0,false),(decide (k<0),false),ZgX la o n c,(ZH (Zt la o n),false)]:=by and_intros<;>kernel_rfl
end Go.Proofs.YtgefjidphfdhdaaGreatDoor.Na
namespace Go.Nt
theorem Zlz:∀ (s m:Nat) (V:Int),dg (s+m) (4294967296^s*V)=List.replicate s 0++dg m V
 | 0,m,V=>by simp
 | s+1,m,V=>by
  rw[show s+1+m=(s+m)+1 from by omega];simp only[dg];rw[pw,Int.mul_assoc];generalize hZ:(4294967296:Int)^s*V=Z;have e1:(4294967296*Z) % 4294967296=0:=by omega
  have e2:(4294967296*Z)/4294967296=Z:=by omega
  rw[e1,e2,← hZ,Zlz s m V,List.replicate_succ,List.cons_append]
theorem Zl0 (K:Nat):(2:Int)^K=4294967296^(K/32)*2^(K % 32):=by
 have e:(4294967296:Int)=2^32:=rfl;rw[e,← Int.pow_mul,← Int.pow_add,show 32*(K/32)+K % 32=K from by omega]
def Zgb (L:List Int) (K:Nat):List Int:=dg (K/32+(L.length+1)) (vN L*2^K)
theorem Zuq (L:List Int) (K:Nat):Zgb L K=List.replicate (K/32) 0++dg (L.length+1) (vN L*2^(K % 32)):=by
 unfold Zgb;rw[Zl0 K,← Int.mul_assoc,Int.mul_comm (vN L),Int.mul_assoc,Zlz]
end Go.Nt
