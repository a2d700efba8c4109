/-
  Tab, Hcs, NumN, ConN1, ConN2, ConN3, UuV, ConN4, UuR, RunX, NumO, ConN5, UuW, ConN7, ConN8, NumP, ConN9, ConNA, RunY, NumV, ConV1, NumW, ConV2, ConV3
-/
import Derived.Test.YtgefjidphfdhdaaGreatDoorG04
import Derived.Test.YtgefjidphfdhdaaGreatDoorProg
namespace Go.Proofs.YtgefjidphfdhdaaGreatDoor
open Go.Proofs.Tryz
open Go.KRun
theorem Z34:(prog.funcs.toList.all fun F=> !(F.name== "runtime.NumGoroutine"))=true:=by kernel_rfl
theorem Zbh (f:Nat) (F:Func) (h:prog.funcs[f]? =some F):prog.funcs[f]? =some F∧(F.name== "runtime.NumGoroutine")=false:=
 ⟨h,by simpa using List.all_eq_true.1 Z34 F (by simpa using Array.mem_of_getElem? h)⟩
def Zi:Nat→List Value→Option (Value×Log):=fun f vals=>if f=183 then Z2U vals else none
theorem ZtI {vals:List Value}{v:Value}{lg:Log}(h:Z2U vals=some (v,lg)) (hl:Zo lg) (w:World):(callFunc 183 vals.toArray).run prog w= .ok (.value v) w:=
 ZoW func183 (by kernel_rfl) (by kernel_rfl) (by kernel_rfl) (by kernel_rfl) h hl w
theorem ZkO (f:Nat) (vals:List Value) (v:Value) (lg:Log) (h:Zi f vals=some (v,lg)) (hl:Zo lg) (w:World):(callFunc f vals.toArray).run prog w= .ok (.value v) w:=by
 unfold Zi at h;split at h
 ·rename_i hf;subst hf;exact ZtI h hl w
 ·cases h
abbrev Con:=Nat→List Value→List Dec→Option (Value×List Dec×Log)
structure ConOk (con:Con):Prop where
 fn:∀ f vals s v s' lg,con f vals s=some (v,s',lg)→∃ F,prog.funcs[f]? =some F∧F.body.isSome=true
 calls:∀ f vals s v s' lg,con f vals s=some (v,s',lg)→Zo lg→∀ w,Calls prog f vals.toArray w fun e w'=>e= .returned v∧zi w w'
def Zn:Con:=fun _ _ _=>none
theorem Zh:ConOk Zn where
 fn:=fun _ _ _ _ _ _ h=>by simp [Zn] at h
 calls:=fun _ _ _ _ _ _ h=>by simp [Zn] at h
def Ze (P:Program) (ext:Nat→List Value→Option (Value×Log)) (con:Con) (sym:Bool):Tab:={P:=P,fn:=fun f=>P.funcs[f]?,ext:=ext,con:=con,sym:=sym}
theorem mixed:prog.follows .mixedOrders=true:=by kernel_rfl
theorem Zd {con:Con}(h:ConOk con):TabOk (Ze prog Zi con true) where
 mixed:=mixed
 ext:=ZkO
 con:=fun f vals s v s' lg hc hl=>⟨by obtain⟨F,h1,h2⟩:=h.fn f vals s v s' lg hc;exact⟨F,(Zbh f F h1).1,(Zbh f F h1).2,h2⟩,h.calls f vals s v s' lg hc hl⟩
 fn:=Zbh
 hc:=fun _ _ _ _ _ _ _ _ h=>by cases h
abbrev Ans:=List Value→List Dec→Option (Value×List Dec×Log)
def ZC (f:Nat) (g:Ans):Prop:=∀ vals s v s' lg,g vals s=some (v,s',lg)→Zo lg→∀ w,Calls prog f vals.toArray w fun e w'=>e= .returned v∧zi w w'
def alt (f:Nat) (g:Ans) (rest:Con):Con:=fun f' vals s=>if f'=f then g vals s else rest f' vals s
theorem Zr {f:Nat}{g:Ans}{rest:Con}{F:Func}(hf:prog.funcs[f]? =some F) (hb:F.body.isSome=true) (hg:ZC f g) (hr:ConOk rest):ConOk (alt f g rest) where
 fn:=fun f' vals s v s' lg h=>by
  unfold alt at h;split at h
  ·rename_i he;subst he;exact⟨F,hf,hb⟩
  ·exact hr.fn _ _ _ _ _ _ h
 calls:=fun f' vals s v s' lg h hl w=>by
  unfold alt at h;split at h
  ·rename_i he;subst he;exact hg _ _ _ _ _ h hl w
  ·exact hr.calls _ _ _ _ _ _ h hl w
end Go.Proofs.YtgefjidphfdhdaaGreatDoor
namespace Go.Proofs.YtgefjidphfdhdaaGreatDoor
open Go.Proofs.Tryz
open Go.IntKind
open Go.KRun
set_option maxRecDepth 100000
theorem Z7 {p:Bool×Bool}(h:p.1=p.2):Zo [p]:=fun x hx=>by rw[List.mem_singleton.1 hx];exact h
theorem Zj {p:Bool×Bool}{l:Log}(h:p.1=p.2) (hl:Zo l):Zo (p::l):=fun x hx=>by
 rcases List.mem_cons.1 hx with rfl | hx
 ·exact h
 ·exact hl x hx
theorem Zv {n:Int}(h0: -9223372036854775808≤n) (h1:n≤9223372036854775807):i64.wrap n=n:=by
 simp [IntKind.wrap,IntKind.bits,IntKind.signed];omega
abbrev Hc:=Nat→List Value→Hp→List Dec→Option (Value×Hp×List Dec×Log)
abbrev Zba:=List Value→Hp→List Dec→Option (Value×Hp×List Dec×Log)
def ZJ (f:Nat) (g:Zba):Prop:=∀ vals h s v h' s' lg,g vals h s=some (v,h',s',lg)→Zo lg→∀ m B w,Emb m B h w→(∀ v∈vals,lt h.n v=true)→Calls prog f (vals.map (mv m)).toArray w fun e w'=>∃ m',e= .returned (mv m' v)∧Came m B h w v h' m' w'
structure HcOk (hc:Hc):Prop where
 fn:∀ f vals h s r,hc f vals h s=some r→∃ F,prog.funcs[f]? =some F∧F.body.isSome=true
 calls:∀ f,ZJ f (hc f)
def hcN:Hc:=fun _ _ _ _=>none
theorem zo:HcOk hcN:=⟨fun _ _ _ _ _ h=>(by cases h),fun _ _ _ _ _ _ _ _ h=>(by cases h)⟩
def zJ (f:Nat) (g:Zba) (hc:Hc):Hc:=fun f' vals h s=>if Nat.beq f' f=true then g vals h s else hc f' vals h s
theorem Zq {f:Nat}{F:Func}(hF:prog.funcs[f]? =some F) (hb:F.body.isSome=true) {g:Zba}(hg:ZJ f g) {hc:Hc}(h:HcOk hc):HcOk (zJ f g hc) where
 fn:=fun f' vals h' s r hr=>by
  unfold zJ at hr;split at hr
  ·rename_i e;rw[Xj e];exact⟨F,hF,hb⟩
  ·exact h.fn _ _ _ _ _ hr
 calls:=fun f' vals h' s v h'' s' lg hr=>by
  unfold zJ at hr;split at hr
  ·rename_i e;rw[Xj e];exact hg _ _ _ _ _ _ _ hr
  ·exact h.calls f' _ _ _ _ _ _ _ hr
def Zx (P:Program) (ext:Nat→List Value→Option (Value×Log)) (con:Con) (hc:Hc):Tab:={P:=P,fn:=fun f=>P.funcs[f]?,ext:=ext,con:=con,sym:=true,hc:=hc}
theorem Z3 {con:Con}(h:ConOk con) {hc:Hc}(hh:HcOk hc):TabOk (Zx prog Zi con hc) where
 mixed:=mixed
 ext:=ZkO
 con:=fun f vals s v s' lg hc hl=>⟨by obtain⟨F,h1,h2⟩:=h.fn f vals s v s' lg hc;exact⟨F,(Zbh f F h1).1,(Zbh f F h1).2,h2⟩,h.calls f vals s v s' lg hc hl⟩
 fn:=Zbh
 hc:=fun f vals h0 s v h' s' lg hr hl=>⟨by obtain⟨F,h1,h2⟩:=hh.fn f vals h0 s _ hr;exact⟨F,(Zbh f F h1).1,(Zbh f F h1).2,h2⟩,hh.calls f vals h0 s v h' s' lg hr hl⟩
end Go.Proofs.YtgefjidphfdhdaaGreatDoor
namespace Go.Nt
def Zg:List Int→Nat
 | []=>0
 | x::r=>if Zg r=0 then (if x=0 then 0 else 1) else Zg r+1
theorem za:∀ L:List Int,Zg L≤L.length
 | []=>Nat.le_refl _
 | x::r=>by
  have:=za r;unfold Zg;split
  ·split<;>simp
  ·simp;omega
theorem Zcz:∀ (L:List Int) (i:Nat),Zg L≤i→L.getD i 0=0
 | [],i,_=>by simp
 | x::r,i,h=>by
  unfold Zg at h;cases i with
  | zero=>
   split at h
   ·split at h
    ·rename_i h1;simp [h1]
    ·omega
   ·omega
  | succ i=>
   have:=Zcz r i (by split at h<;>(try split at h)<;>omega);simpa using this
theorem Zca:∀ L:List Int,Zg L=0∨L.getD (Zg L-1) 0≠0
 | []=> .inl rfl
 | x::r=>by
  have ih:=Zca r;unfold Zg;split
  ·split
   ·exact .inl rfl
   ·rename_i h;exact .inr (by simpa using h)
  ·rename_i h;rcases ih with ih | ih
   ·exact absurd ih h
   ·refine .inr ?_;obtain⟨k,hk⟩:∃ k,Zg r=k+1:=⟨Zg r-1,by omega⟩;rw[hk] at ih ⊢;simpa using ih
theorem Zc0 {L:List Int}{k:Nat}(h1:∀ i,k≤i→L.getD i 0=0) (h2:k=0∨L.getD (k-1) 0≠0):Zg L=k:=by
 rcases Nat.lt_trichotomy (Zg L) k with h | h | h
 ·rcases h2 with h2 | h2
  ·omega
  ·exact absurd (Zcz L (k-1) (by omega)) h2
 ·exact h
 ·rcases Zca L with h3 | h3
  ·omega
  ·exact absurd (h1 (Zg L-1) (by omega)) h3
def zS (L M:List Int):Nat→Int
 | 0=>0
 | k+1=>if L.getD k 0=M.getD k 0 then zS L M k else if L.getD k 0<M.getD k 0 then -1 else 1
def ZbG (L M:List Int):Int:=if L.length=M.length then zS L M L.length else if L.length<M.length then -1 else 1
end Go.Nt
namespace Go.Proofs.YtgefjidphfdhdaaGreatDoor
open Go.Proofs.Tryz
open Go.IntKind
open Go.KRun Go.Nt
set_option maxRecDepth 100000
def wU (L:List Int):List Value:=L.map (Value.int .u32)
def tU:TypeId:=68
def tR:TypeId:=68+ZX
theorem ZtJ:ro tR=true:=by kernel_rfl
theorem ZtK:ab tR=false:=by kernel_rfl
theorem Zd0:Zai tR=false:=by kernel_rfl
theorem ZtL:rt tR=tU:=by kernel_rfl
def sl (b o n c:Nat):Value:= .slice (some ⟨b,o,none⟩) n c
def ZD:Value:= .slice none 0 0
def Zyi (F:Func):List Code:=[ZA (Zw F)]
def ZkP (F:Func):Code:=cIn (cIn (ZA (ZV (Zw F))))
def Z35 (F:Func):Code:=ZV (ZV (Zw F))
theorem ZkQ:f131.body=some (Zaj (Zyi f131) (.seq (.block 0 (.loop (ZkP f131))) (Z35 f131))):=by kernel_rfl
theorem ZoX (v:Value) (h:Hp):Zk (evL (Ze prog Zi Zn true) 100 (Zyi f131) ([v]++List.replicate 20 undef,h,[]) ⟨[],[],[]⟩) 3 18 none [v,undef,ZD] h []:=by and_intros<;>kernel_rfl
def n1 (n:Nat):Int:=i64.wrap ((n:Int)-1)
theorem ZtM (o n c:Nat) (x:Int) (l:List Value) (j1 j2:Value) (g:Nat→Value):GoesE (evC (Ze prog Zi Zn true) 100 false (ZkP f131) ([sl 0 o n c,j1,j2]++tl 18 g,⟨1,[(l,tR)]⟩,[cmp true,at_,val (.int .u32 x),cmp true,num 0]) ⟨[],[],[]⟩) 3 18 none
  [sl 0 o (n1 n).toNat c,j1,j2] ⟨1,[(l,tR)]⟩ [(Z8 c,true),(ZR 0 (n1 n) c c,true),(decide ((c:Int)=0∧(0:Int)≠0),false),(x==0,true),(Z6 (l[o+(n1 n).toNat*1]?) (.int .u32 x),true),(decide (0≤n1 n∧n1 n<n),true),(decide ((n:Int)>0),true)]:=by unfold GoesE;kernel_rfl
theorem ZkR (j1 j2:Value) (p:Option Addr) (n c:Nat) (h:Hp) (g:Nat→Value):GoesE (evC (Ze prog Zi Zn true) 100 false (ZkP f131) ([.slice p n c,j1,j2]++tl 18 g,h,[cmp false]) ⟨[],[],[]⟩) 3 18 (some (some 0))
  [.slice p n c,j1,j2] h [(decide ((n:Int)>0),false)]:=by unfold GoesE;kernel_rfl
theorem ZkS (o n c:Nat) (x:Int) (l:List Value) (j1 j2:Value) (g:Nat→Value):GoesE (evC (Ze prog Zi Zn true) 100 false (ZkP f131) ([sl 0 o n c,j1,j2]++tl 18 g,⟨1,[(l,tR)]⟩,[cmp true,at_,val (.int .u32 x),cmp false]) ⟨[],[],[]⟩) 3 18 (some (some 0))
  [sl 0 o n c,j1,j2] ⟨1,[(l,tR)]⟩ [(x==0,false),(Z6 (l[o+(n1 n).toNat*1]?) (.int .u32 x),true),(decide (0≤n1 n∧n1 n<n),true),(decide ((n:Int)>0),true)]:=by unfold GoesE;kernel_rfl
theorem ZoY (v j1 j2:Value) (h:Hp) (g:Nat→Value):Zk (evC (Ze prog Zi Zn true) 100 false (Z35 f131) ([v,j1,j2]++tl 18 g,h,[]) ⟨[],[],[]⟩) 3 18 (some none) [v,j1,v] h []:=by and_intros<;>kernel_rfl
def ZoZ:Value→Int
 | .int _ n=>n
 | _=>0
def isU:Value→Bool
 | .int .u32 n=>decide (0≤n∧n<4294967296)
 | _=>false
theorem ZeJ {v:Value}(h:isU v=true):v= .int .u32 (ZoZ v)∧0≤ZoZ v∧ZoZ v<4294967296:=by
 unfold isU at h;split at h
 ·simp only[Xi] at h;exact⟨rfl,h.1,h.2⟩
 ·cases h
def ZbE (l:List Value) (o n:Nat):List Value:=(l.drop o).take n
def Zt (l:List Value) (o n:Nat):List Int:=(ZbE l o n).map ZoZ
def Zu (ty:TypeId) (l:List Value) (o n c:Nat):Bool:= !(Zai ty) && Nat.beq (rt ty) tU && Nat.ble (o+n) l.length && Nat.ble n c && Z8 c && (ZbE l o n).all isU && l.all still
theorem Zes {l:List Value}{o n:Nat}(h:((ZbE l o n).all isU)=true):ZbE l o n=wU (Zt l o n):=by
 unfold wU Zt;rw[List.map_map];refine (List.map_id' _).symm.trans (List.map_congr_left fun v hv=> ?_);exact (ZeJ (List.all_eq_true.1 h v hv)).1
structure Row (l:List Value) (o:Nat) (L:List Int):Prop where
 len:o+L.length≤l.length
 cut:ZbE l o L.length=wU L
 rng:∀ x∈L,0≤x∧x<4294967296
theorem Row.cell {l:List Value}{o:Nat}{L:List Int}(h:Row l o L) {k:Nat}(hk:k<L.length):l[o+k]? =some (.int .u32 (L.getD k 0)):=by
 have e:(ZbE l o L.length)[k]? =(wU L)[k]? :=by rw[h.cut]
 unfold ZbE wU at e;rw[List.getElem?_take,if_pos hk,List.getElem?_drop,List.getElem?_map] at e;rw[e,List.getElem?_eq_getElem hk];simp [List.getD,List.getElem?_eq_getElem hk]
theorem Z4 {ty:TypeId}{l:List Value}{o n c:Nat}(h:Zu ty l o n c=true):Row l o (Zt l o n)∧(Zt l o n).length=n∧n≤c∧Z8 c=true∧Zai ty=false∧rt ty=tU∧∀ v∈l,still v=true:=by
 unfold Zu at h;simp only[Xh,Bool.not_eq_true'] at h;obtain⟨⟨⟨⟨⟨⟨h1,h2⟩,h3⟩,h4⟩,h5⟩,h6⟩,h7⟩:=h;have h2:=Xj h2;have h3:=Nat.le_of_ble_eq_true h3;have h4:=Nat.le_of_ble_eq_true h4;have hlen:(Zt l o n).length=n:=by unfold Zt ZbE;simp;omega
 refine⟨⟨by rw[hlen];exact h3,by rw[hlen];exact Zes h6,fun x hx=> ?_⟩,hlen,h4,h5,h1,h2,List.all_eq_true.1 h7⟩;unfold Zt at hx;obtain⟨v,hv,rfl⟩:=List.mem_map.1 hx;have:=ZeJ (List.all_eq_true.1 h6 v hv);exact⟨this.2.1,this.2.2⟩
theorem ZkT {l:List Value}{o c:Nat}{L:List Int}(hR:Row l o L) (hc:Z8 c=true) (hn:L.length≤c):
  Runs (Ze prog Zi Zn true) (Zaj (Zyi f131) (.seq (.block 0 (.loop (ZkP f131))) (Z35 f131))) ([sl 0 o L.length c]++List.replicate 20 undef,⟨1,[(l,tR)]⟩,[]) fun e y=>(e=none∨e=some none)∧zE prog f131 y.1 y.2.1=some (sl 0 o (Zg L) c):=by
 have hc':c<4611686018427387904:=Zl.1 hc;refine Zz (Zd Zh) (ZoX _ _) (fun x hx=>by cases hx) fun g=> ?_;refine Runs.seq (P1:=fun e y=>e=none∧(∃ g,y.1=[sl 0 o (Zg L) c,undef,ZD]++tl 18 g)∧y.2.1=⟨1,[(l,tR)]⟩) ?_ ?_ (fun e y he=>by cases he.1)
 ·refine (Runs.forLoop (P:=fun y=>(∃ g,y.1=[sl 0 o (Zg L) c,undef,ZD]++tl 18 g)∧y.2.1=⟨1,[(l,tR)]⟩) (R:=fun _=>False) (fun n y=>(∃ g,y.1=[sl 0 o n c,undef,ZD]++tl 18 g)∧y.2.1=⟨1,[(l,tR)]⟩∧n≤L.length∧∀ i,n≤i→L.getD i 0=0) ?_ (n:=L.length) ⟨⟨g,rfl⟩,rfl,Nat.le_refl _,fun i hi=>by simp [List.getD,List.getElem?_eq_none hi]⟩).mono fun e y he=> ?_
  ·rintro n ⟨t,h',s⟩ ⟨⟨g,ht⟩,hh,hle,hz⟩;simp only at ht hh;subst ht hh;cases n with
   | zero=>
    refine (Zc (Zd Zh) (ZkR undef ZD (some ⟨0,o,none⟩) 0 c _ g).t (Z7 (by rfl))).mono fun e y he=> ?_;obtain⟨rfl,⟨g',h2⟩,h3⟩:=he;have e0:Zg L=0:=Zc0 hz (.inl rfl);exact⟨rfl,⟨g',by rw[h2,e0];rfl⟩,h3⟩
   | succ k=>
    have ek:n1 (k+1)=(k:Int):=by
     unfold n1;rw[Zv (by omega) (by omega)];omega
    have hcell:=hR.cell (k:=k) (by omega);have hce:Z6 (l[o+(n1 (k+1)).toNat*1]?) (.int .u32 (L.getD k 0))=true:=by
     rw[ek,Xg,Nat.mul_one,hcell];simp [Z6]
    have hix:decide (0≤n1 (k+1)∧n1 (k+1)<((k+1:Nat):Int))=true:=by rw[ek];exact Xa (by omega)
    have hgt:decide (((k+1:Nat):Int)>0)=true:=Xa (by omega);by_cases hx:L.getD k 0=0
    ·refine (Zc (Zd Zh) (ZtM o (k+1) c (L.getD k 0) l undef ZD g).t (Zj hc (Zj (by
      unfold ZR;rw[ek];exact Xa (by omega)) (Zj (Xb (by omega)) (Zj (by rw[hx];rfl) (Zj hce (Zj hix (Z7 hgt)))))))).mono fun e y he=> ?_
     obtain⟨rfl,⟨g',h2⟩,h3⟩:=he;rw[ek,Xg] at h2;refine⟨k,by omega,⟨g',h2⟩,h3,by omega,fun i hi=> ?_⟩;rcases Nat.lt_or_ge k i with h | h
     ·exact hz i h
     ·have:i=k:=by omega
      rw[this];exact hx
    ·refine (Zc (Zd Zh) (ZkS o (k+1) c (L.getD k 0) l undef ZD g).t (Zj (by simpa using hx) (Zj hce (Zj hix (Z7 hgt))))).mono fun e y he=> ?_;obtain⟨rfl,⟨g',h2⟩,h3⟩:=he;have e0:Zg L=k+1:=Zc0 hz (.inr (by simpa using hx));exact⟨rfl,⟨g',by rw[h2,e0]⟩,h3⟩
  ·match e,he with
   | none,he=>exact⟨rfl,he⟩
 ·rintro⟨t,h',s⟩ ⟨_,⟨g',ht⟩,hh⟩;simp only at ht hh;subst ht hh;refine (Zc (Zd Zh) (ZoY _ undef ZD _ g') (fun x hx=>by cases hx)).mono fun e y he=> ?_;obtain⟨rfl,⟨g2,h2⟩,h3⟩:=he;refine⟨.inr rfl,?_⟩;rw[h2,h3];rfl
theorem ZcU {l:List Value}(h:∀ v∈l,still v=true):(⟨1,[(l,tR)]⟩:Hp).rows:=by
 refine⟨rfl,fun b x hb=> ?_⟩;have hb0:b=0:=by have:b<1:=Hp.blk_lt hb;omega
 subst hb0;have:x=(l,tR):=(Option.some.inj hb).symm;rw[this];exact⟨ZtJ,h,ZtK⟩
theorem ZaQ {l:List Value}{h:Hp}{b:Nat}{x:List Value×TypeId}(hb:h.blk? b=some x) (h1:Zai x.2=false) (h2:rt x.2=tU) (e:x.1=l):(⟨1,[(l,tR)]⟩:Hp).fits (fun _=>b) h:=by
 intro i y hi _;have hb0:i=0:=by have:i<1:=Hp.blk_lt hi;omega
 subst hb0;have:y=(l,tR):=(Option.some.inj hi).symm;rw[this];exact⟨x,[],hb,h1,by rw[h2];exact ZtL.symm,by rw[e,List.append_nil]⟩
def ZeK:Zba:=fun vals h s=>
 match vals with
 | [.slice none 0 0]=>some (ZD,h,s,[])
 | [.slice (some ⟨b,o,none⟩) n c]=>
  match h.blk? b with
  | some x=>some (sl b o (Zg (Zt x.1 o n)) c,h,s,[(Zu x.2 x.1 o n c,true)])
  | none=>none
 | _=>none
theorem Zpa:Zs (Zf (Ze prog Zi Zn true) 100 131 [ZD] []) ZD []:=by and_intros<;>kernel_rfl
theorem ZaD:ZJ 131 ZeK:=by
 intro vals h s v h' s' lg hg hl m B w E hv;unfold ZeK at hg;split at hg
 ·cases hg;refine (Zb (Zd Zh) Zpa (fun x hx=>by cases hx) (by rfl) (by rfl) w).mono fun e w' he=> ?_;obtain⟨E',hb⟩:=ZQ E he.2;exact⟨m,he.1,⟨Agree.refl _ _,E',hb,Nat.le_refl _,rfl⟩⟩
 ·rename_i b o n c;split at hg
  ·rename_i x hx;cases hg;obtain⟨h1,h2,h3,h4,h5,h6,h7⟩:=Z4 (hl _ Xf);have hlt:=Hp.blk_lt hx;have r:=ZkT h1 h4 (by rw[h2];exact h3);rw[h2] at r;have:=zl (T:=Ze prog Zi Zn true) func131 ZkQ (ZcU h7) (vals:=[sl 0 o n c]) (fun v hv=>by rw[List.mem_singleton.1 hv];rfl) (by rfl) r E (s:=fun _=>b) (fun i _=>hlt) (ZaQ hx h5 h6 rfl);exact this.mono fun e w' he=>⟨m,he.1,he.2⟩
  ·cases hg
 ·cases hg
def h2 (la lb:List Value):Hp:=⟨2,[(lb,tR),(la,tR)]⟩
def Zkl (a b i:Nat):Nat:=if Nat.beq i 0=true then a else b
theorem Z6L {la lb:List Value}{i:Nat}{x:List Value×TypeId}(h:(h2 la lb).blk? i=some x):(i=0∧x=(la,tR))∨(i=1∧x=(lb,tR)):=by
 have:i<2:=Hp.blk_lt h;have:i=0∨i=1:=by omega
 rcases this with rfl | rfl
 ·exact .inl ⟨rfl,(Option.some.inj h).symm⟩
 ·exact .inr ⟨rfl,(Option.some.inj h).symm⟩
theorem Zj1 {la lb:List Value}(ha:∀ v∈la,still v=true) (hb:∀ v∈lb,still v=true):(h2 la lb).rows:=by
 refine⟨rfl,fun b x hx=> ?_⟩;rcases Z6L hx with ⟨_,e⟩ | ⟨_,e⟩<;>rw[e]
 ·exact⟨ZtJ,ha,ZtK⟩
 ·exact⟨ZtJ,hb,ZtK⟩
theorem Zet {h:Hp}{a b:Nat}{x y:List Value×TypeId}(hx:h.blk? a=some x) (x1:Zai x.2=false) (x2:rt x.2=tU) (hy:h.blk? b=some y) (y1:Zai y.2=false) (y2:rt y.2=tU):(h2 x.1 y.1).fits (Zkl a b) h:=by
 intro i z hz _;rcases Z6L hz with ⟨rfl,e⟩ | ⟨rfl,e⟩<;>rw[e]
 ·exact⟨x,[],hx,x1,by rw[x2];exact ZtL.symm,by rw[List.append_nil]⟩
 ·exact⟨y,[],hy,y1,by rw[y2];exact ZtL.symm,by rw[List.append_nil]⟩
def hT:Hp:=⟨1,[([],2*ZX)]⟩
theorem Z6M {i:Nat}{x:List Value×TypeId}(h:hT.blk? i=some x):x=([],2*ZX):=by
 have h1:i<1:=Hp.blk_lt h;have h2:i=0:=by omega
 subst h2;exact (Option.some.inj h).symm
theorem Z36:Zai (2*ZX)=true:=by kernel_rfl
theorem roT:ro (2*ZX)=true:=by kernel_rfl
theorem ZyJ:hT.rows:=⟨rfl,fun b x hx=>by rw[Z6M hx];exact⟨roT,(fun v hv=>by cases hv),by kernel_rfl⟩⟩
theorem Zsg (s:Nat→Nat) (h:Hp):hT.fits s h:=fun i x hx ht=>by rw[Z6M hx,Z36] at ht;cases ht
end Go.Proofs.YtgefjidphfdhdaaGreatDoor
namespace Go.Proofs.YtgefjidphfdhdaaGreatDoor.Na
open Go.KRun Go.Nt
set_option maxRecDepth 100000
def i6' (n:Int):Value:= .int .i64 n
def oA (F:Func):Code:=ZA (ZV (Zw F))
def oR (F:Func):Code:=ZA (ZA (ZV (ZV (Zw F))))
def ZkU (F:Func):Code:=cIn (cIn (ZV (ZA (ZV (ZV (Zw F))))))
def Z37 (F:Func):Code:=ZV (ZV (ZV (Zw F)))
end Go.Proofs.YtgefjidphfdhdaaGreatDoor.Na
namespace Go.Proofs.YtgefjidphfdhdaaGreatDoor.Na
open Go.Proofs.Tryz
open Go.IntKind
open Go.KRun Go.Nt
set_option maxRecDepth 100000
def ZtN (d:Bool):Int:=match d with | true=> -1 | false=>1
theorem ZkV (d:Bool):Zs (Zf (Ze prog Zi Zn true) 100 206 [.bool d] []) (i6' (ZtN d)) []:=by
 cases d<;>exact by and_intros<;>kernel_rfl
def ZtO:Ans:=fun vals s=>
 match vals with
 | [.bool d]=>some (i6' (ZtN d),s,[])
 | _=>none
theorem Zpb:ZC 206 ZtO:=by
 intro vals s v s' lg h hl w;unfold ZtO at h;split at h
 ·cases h;exact Zb (Zd Zh) (ZkV _) (fun x hx=>by cases hx) (by rfl) (by rfl) w
 ·cases h
def ZaS:Con:=alt 206 ZtO Zn
theorem zc:ConOk ZaS:=Zr func206 rfl Zpb Zh
theorem Zdc:f187.body=some (Zaj (Zyi f187) (.seq (oA f187) (.seq (.seq (oR f187) (.block 0 (.loop (ZkU f187)))) (Z37 f187)))):=by kernel_rfl
theorem ZgW (v w:Value) (h:Hp):Zk (evL (Ze prog Zi ZaS true) 100 (Zyi f187) ([v,w]++List.replicate 41 undef,h,[]) ⟨[],[],[]⟩) 6 37 none [v,w,undef,undef,i6' 0,undef] h []:=by and_intros<;>kernel_rfl
theorem ZyK (p q:Option Addr) (n c k d:Nat) (j2 j3 j4 j5:Value) (h:Hp) (g:Nat→Value):GoesE (evC (Ze prog Zi ZaS true) 100 false (oA f187) ([.slice p n c,.slice q k d,j2,j3,j4,j5]++tl 37 g,h,[cmp true,cmp true]) ⟨[],[],[]⟩) 6 37 (some none)
  [.slice p n c,.slice q k d,j2,j3,i6' (-1),j5] h [(decide ((n:Int)<k),true),((n:Int) !=k,true)]:=by unfold GoesE;kernel_rfl
theorem ZyL (p q:Option Addr) (n c k d:Nat) (j2 j3 j4 j5:Value) (h:Hp) (g:Nat→Value):GoesE (evC (Ze prog Zi ZaS true) 100 false (oA f187) ([.slice p n c,.slice q k d,j2,j3,j4,j5]++tl 37 g,h,[cmp true,cmp false]) ⟨[],[],[]⟩) 6 37 (some none)
  [.slice p n c,.slice q k d,j2,j3,i6' 1,j5] h [(decide ((n:Int)<k),false),((n:Int) !=k,true)]:=by unfold GoesE;kernel_rfl
theorem Zsh (p q:Option Addr) (n c k d:Nat) (j2 j3 j4 j5:Value) (h:Hp) (g:Nat→Value):GoesE (evC (Ze prog Zi ZaS true) 100 false (oA f187) ([.slice p n c,.slice q k d,j2,j3,j4,j5]++tl 37 g,h,[cmp false]) ⟨[],[],[]⟩) 6 37 none
  [.slice p n c,.slice q k d,j2,j3,j4,j5] h [((n:Int) !=k,false)]:=by unfold GoesE;kernel_rfl
theorem ZyM (p:Option Addr) (n c:Nat) (w j2 j3 j4 j5:Value) (h:Hp) (g:Nat→Value):GoesE (evC (Ze prog Zi ZaS true) 100 false (oR f187) ([.slice p n c,w,j2,j3,j4,j5]++tl 37 g,h,[]) ⟨[],[],[]⟩) 6 37 none
  [.slice p n c,w,j2,j3,j4,i6' (n1 n)] h []:=by unfold GoesE;kernel_rfl
theorem ZkW (v w j2 j3 j4:Value) (i:Int) (h:Hp) (g:Nat→Value):GoesE (evC (Ze prog Zi ZaS true) 100 false (ZkU f187) ([v,w,j2,j3,j4,i6' i]++tl 37 g,h,[cmp false]) ⟨[],[],[]⟩) 6 37 (some (some 0))
  [v,w,j2,j3,j4,i6' i] h [(decide (i≥0),false)]:=by unfold GoesE;kernel_rfl
theorem ZyN (o n c o' n' c':Nat) (i x y:Int) (la lb:List Value) (j2 j3 j4:Value) (g:Nat→Value):Zk (evC (Ze prog Zi ZaS true) 100 false (ZkU f187) ([sl 0 o n c,sl 1 o' n' c',j2,j3,j4,i6' i]++tl 37 g,h2 la lb,[cmp true,at_,val (.int .u32 x),at_,val (.int .u32 y),cmp false]) ⟨[],[],[]⟩) 6 37 none
  [sl 0 o n c,sl 1 o' n' c',j2,j3,j4,i6' (i64.wrap (i-1))] (h2 la lb) [(x !=y,false),(Z6 (lb[o'+i.toNat*1]?) (.int .u32 y),true),(decide (0≤i∧i<n'),true),(Z6 (la[o+i.toNat*1]?) (.int .u32 x),true),(decide (0≤i∧i<n),true),(decide (i≥0),true)]:=by and_intros<;>kernel_rfl
theorem ZyO (d:Bool) (o n c o' n' c':Nat) (i x y:Int) (la lb:List Value) (j2 j3 j4:Value) (g:Nat→Value):Zk (evC (Ze prog Zi ZaS true) 100 false (ZkU f187) ([sl 0 o n c,sl 1 o' n' c',j2,j3,j4,i6' i]++tl 37 g,h2 la lb,[cmp true,at_,val (.int .u32 x),at_,val (.int .u32 y),cmp true,at_,val (.int .u32 x),at_,val (.int .u32 y),cmp d]) ⟨[],[],[]⟩) 6 37 (some none)
  [sl 0 o n c,sl 1 o' n' c',j2,j3,i6' (ZtN d),i6' i] (h2 la lb) [(decide (x<y),d),(Z6 (lb[o'+i.toNat*1]?) (.int .u32 y),true),(decide (0≤i∧i<n'),true),(Z6 (la[o+i.toNat*1]?) (.int .u32 x),true),(decide (0≤i∧i<n),true),(x !=y,true),(Z6 (lb[o'+i.toNat*1]?) (.int .u32 y),true),(decide (0≤i∧i<n'),true),(Z6 (la[o+i.toNat*1]?) (.int .u32 x),true),(decide (0≤i∧i<n),true),(decide (i≥0),true)]:=by
 cases d<;>exact by and_intros<;>kernel_rfl
theorem ZkX (v w j2 j3 j4 j5:Value) (h:Hp) (g:Nat→Value):GoesE (evC (Ze prog Zi ZaS true) 100 false (Z37 f187) ([v,w,j2,j3,j4,j5]++tl 37 g,h,[]) ⟨[],[],[]⟩) 6 37 (some none)
  [v,w,j2,j3,i6' 0,j5] h []:=by unfold GoesE;kernel_rfl
def Z2V (F:Func):Code:=Zaj (Zyi F) (.seq (oA F) (.seq (.seq (oR F) (.block 0 (.loop (ZkU F)))) (Z37 F)))
theorem ZfT (p q:Option Addr) (n c k d:Nat) (h:Hp) (hn:n≠k):
  Runs (Ze prog Zi ZaS true) (Z2V f187) ([.slice p n c,.slice q k d]++List.replicate 41 undef,h,[]) fun e y=>(e=none∨e=some none)∧zE prog f187 y.1 y.2.1=some (i6' (if n<k then -1 else 1)):=by
 refine Zz (Zd zc) (ZgW _ _ _) (fun x hx=>by cases hx) fun g=> ?_;by_cases hl:n<k
 ·refine Runs.seq (Zc (Zd zc) (ZyK p q n c k d undef undef (i6' 0) undef h g).t (Zj (Xa (by omega)) (Z7 (by simp;omega)))) (fun y he=>by cases he.1) (fun e y he=> ?_);obtain⟨h1,⟨g3,e2⟩,e3⟩:=he;refine⟨.inr h1,?_⟩;rw[e2,e3,if_pos hl];rfl
 ·refine Runs.seq (Zc (Zd zc) (ZyL p q n c k d undef undef (i6' 0) undef h g).t (Zj (Xb (by omega)) (Z7 (by simp;omega)))) (fun y he=>by cases he.1) (fun e y he=> ?_);obtain⟨h1,⟨g3,e2⟩,e3⟩:=he;refine⟨.inr h1,?_⟩;rw[e2,e3,if_neg hl];rfl
theorem ZkY (p q:Option Addr) (c d:Nat) (h:Hp):
  Runs (Ze prog Zi ZaS true) (Z2V f187) ([.slice p 0 c,.slice q 0 d]++List.replicate 41 undef,h,[]) fun e y=>(e=none∨e=some none)∧zE prog f187 y.1 y.2.1=some (i6' 0):=by
 refine Zz (Zd zc) (ZgW _ _ _) (fun x hx=>by cases hx) fun g=> ?_;refine Runs.seq (Zc (Zd zc) (Zsh p q 0 c 0 d undef undef (i6' 0) undef h g).t (Z7 (by rfl))) ?_ (fun e y he=>by cases he.1);rintro⟨t,h',s⟩ ⟨_,⟨g1,ht⟩,hh⟩;simp only at ht hh;subst ht hh;refine Runs.seq (P1:=fun e y=>e=none∧(∃ g i,y.1=[.slice p 0 c,.slice q 0 d,undef,undef,i6' 0,i6' i]++tl 37 g)∧y.2.1=h') ?_ ?_ (fun e y he=>by cases he.1)
 ·refine Runs.seq (Zc (Zd zc) (ZyM p 0 c _ undef undef (i6' 0) undef h' g1).t (fun x hx=>by cases hx)) ?_ (fun e y he=>by cases he.1);rintro⟨t,h'',s⟩ ⟨_,⟨g2,ht⟩,hh⟩;simp only at ht hh;subst ht hh;refine (Runs.forLoop (P:=fun y=>(∃ g i,y.1=[.slice p 0 c,.slice q 0 d,undef,undef,i6' 0,i6' i]++tl 37 g)∧y.2.1=h'') (R:=fun _=>False) (fun _ y=>∃ g,y.1=[.slice p 0 c,.slice q 0 d,undef,undef,i6' 0,i6' (n1 0)]++tl 37 g∧y.2.1=h'') ?_ (n:=0) ⟨g2,rfl,rfl⟩).mono fun e y he=> ?_
  ·rintro _ ⟨t,h3,s⟩ ⟨g,ht,hh⟩;simp only at ht hh;subst ht hh;refine (Zc (Zd zc) (ZkW _ _ undef undef (i6' 0) (n1 0) h3 g).t (Z7 (by rfl))).mono fun e y he=> ?_;obtain⟨rfl,⟨g',e2⟩,e3⟩:=he;exact⟨rfl,⟨g',_,e2⟩,e3⟩
  ·match e,he with
   | none,he=>exact⟨rfl,he⟩
 ·rintro⟨t,h'',s⟩ ⟨_,⟨g2,i,ht⟩,hh⟩;simp only at ht hh;subst ht hh;refine (Zc (Zd zc) (ZkX _ _ undef undef (i6' 0) _ h'' g2).t (fun x hx=>by cases hx)).mono fun e y he=> ?_;obtain⟨rfl,⟨g3,e2⟩,e3⟩:=he;refine⟨.inr rfl,?_⟩;rw[e2,e3];rfl
theorem Zpc {la lb:List Value}{o o' c c':Nat}{La Lb:List Int}(Ra:Row la o La) (Rb:Row lb o' Lb) (hc:La.length<4611686018427387904):
  Runs (Ze prog Zi ZaS true) (Z2V f187) ([sl 0 o La.length c,sl 1 o' Lb.length c']++List.replicate 41 undef,h2 la lb,[]) fun e y=>(e=none∨e=some none)∧zE prog f187 y.1 y.2.1=some (i6' (ZbG La Lb)):=by
 by_cases hn:La.length=Lb.length
 ·unfold ZbG;rw[if_pos hn];refine Zz (Zd zc) (ZgW _ _ _) (fun x hx=>by cases hx) fun g=> ?_;refine Runs.seq (Zc (Zd zc) (Zsh _ _ La.length c Lb.length c' undef undef (i6' 0) undef (h2 la lb) g).t (Z7 (by simp [hn]))) ?_ (fun e y he=>by cases he.1);rintro⟨t,h',s⟩ ⟨_,⟨g1,ht⟩,hh⟩;simp only at ht hh;subst ht hh;refine Runs.seq (P1:=fun e y=>(e=none∧(∃ g i,y.1=[sl 0 o La.length c,sl 1 o' Lb.length c',undef,undef,i6' 0,i6' i]++tl 37 g)∧y.2.1=h2 la lb∧zS La Lb La.length=0)∨(e=some none∧(∃ g i,y.1=[sl 0 o La.length c,sl 1 o' Lb.length c',undef,undef,i6' (zS La Lb La.length),i6' i]++tl 37 g)∧y.2.1=h2 la lb)) ?_ ?_ ?_
  ·refine Runs.seq (Zc (Zd zc) (ZyM _ La.length c _ undef undef (i6' 0) undef _ g1).t (fun x hx=>by cases hx)) ?_ (fun e y he=>by cases he.1);rintro⟨t,h'',s⟩ ⟨_,⟨g2,ht⟩,hh⟩;simp only at ht hh;subst ht hh;refine (Runs.forLoop (P:=fun y=>(∃ g i,y.1=[sl 0 o La.length c,sl 1 o' Lb.length c',undef,undef,i6' 0,i6' i]++tl 37 g)∧y.2.1=h2 la lb∧zS La Lb La.length=0) (R:=fun y=>(∃ g i,y.1=[sl 0 o La.length c,sl 1 o' Lb.length c',undef,undef,i6' (zS La Lb La.length),i6' i]++tl 37 g)∧y.2.1=h2 la lb)
    (fun r y=>∃ (g:Nat→Value),r≤La.length∧y.1=[sl 0 o La.length c,sl 1 o' Lb.length c',undef,undef,i6' 0,i6' ((r:Int)-1)]++tl 37 g∧y.2.1=h2 la lb∧zS La Lb La.length=zS La Lb r) ?_ (n:=La.length) ⟨g2,Nat.le_refl _,by unfold n1;rw[Zv (by omega) (by omega)];rfl,rfl,rfl⟩).mono fun e y he=> ?_
   ·rintro r ⟨t,h3,s⟩ ⟨g,hk,ht,hh,htop⟩;simp only at ht hh;subst ht hh;cases r with
    | zero=>
     refine (Zc (Zd zc) (ZkW _ _ undef undef (i6' 0) _ _ g).t (Z7 (by rfl))).mono fun e y he=> ?_;obtain⟨rfl,⟨g',e2⟩,e3⟩:=he;exact⟨rfl,⟨g',_,e2⟩,e3,htop⟩
    | succ k=>
     have ek:((k+1:Nat):Int)-1=(k:Int):=by omega
     rw[ek];have ca:=Ra.cell (k:=k) (by omega);have cb:=Rb.cell (k:=k) (by omega);have ha:Z6 (la[o+((k:Int)).toNat*1]?) (.int .u32 (La.getD k 0))=true:=by
      rw[Xg,Nat.mul_one,ca];simp [Z6]
     have hb:Z6 (lb[o'+((k:Int)).toNat*1]?) (.int .u32 (Lb.getD k 0))=true:=by
      rw[Xg,Nat.mul_one,cb];simp [Z6]
     have q1:decide (0≤(k:Int)∧(k:Int)<(La.length:Nat))=true:=Xa (by omega);have q2:decide (0≤(k:Int)∧(k:Int)<(Lb.length:Nat))=true:=Xa (by omega);have q3:decide ((k:Int)≥0)=true:=Xa (by omega);by_cases hx:La.getD k 0=Lb.getD k 0
     ·refine (Zc (Zd zc) (ZyN o La.length c o' Lb.length c' k (La.getD k 0) (Lb.getD k 0) la lb undef undef (i6' 0) g) (Zj (by show (La.getD k 0 !=Lb.getD k 0)=false;rw[hx];exact bne_self_eq_false _) (Zj hb (Zj q2 (Zj ha (Zj q1 (Z7 q3))))))).mono fun e y he=> ?_;obtain⟨rfl,⟨g',e2⟩,e3⟩:=he;refine⟨k,by omega,g',by omega,?_,e3,?_⟩
      ·rw[e2,Zv (by omega) (by omega)]
      ·rw[htop];simp only[zS];rw[if_pos hx]
     ·have hne:(La.getD k 0 !=Lb.getD k 0)=true:=by simpa using hx
      refine (Zc (Zd zc) (ZyO (decide (La.getD k 0<Lb.getD k 0)) o La.length c o' Lb.length c' k (La.getD k 0) (Lb.getD k 0) la lb undef undef (i6' 0) g) (Zj rfl (Zj hb (Zj q2 (Zj ha (Zj q1 (Zj hne (Zj hb (Zj q2 (Zj ha (Zj q1 (Z7 q3)))))))))))).mono fun e y he=> ?_;obtain⟨rfl,⟨g',e2⟩,e3⟩:=he;refine⟨⟨g',k,?_⟩,e3⟩;rw[e2,htop];simp only[zS];rw[if_neg hx];by_cases hlt:La.getD k 0<Lb.getD k 0
      ·rw[if_pos hlt,Xa hlt];rfl
      ·rw[if_neg hlt,Xb hlt];rfl
   ·match e,he with
    | none,he=>exact .inl ⟨rfl,he⟩
    | some none,he=>exact .inr ⟨rfl,he⟩
  ·rintro⟨t,h'',s⟩ (⟨_,⟨g2,i,ht⟩,hh,heq⟩ | ⟨h,_⟩)
   ·simp only at ht hh;subst ht hh;refine (Zc (Zd zc) (ZkX _ _ undef undef (i6' 0) _ _ g2).t (fun x hx=>by cases hx)).mono fun e y he=> ?_;obtain⟨rfl,⟨g3,e2⟩,e3⟩:=he;refine⟨.inr rfl,?_⟩;rw[e2,e3,heq];rfl
   ·cases h
  ·rintro e y (⟨h,_⟩ | ⟨h1,⟨g3,i,e2⟩,e3⟩)
   ·cases h
   ·refine⟨.inr h1,?_⟩;rw[e2,e3];rfl
 ·unfold ZbG;rw[if_neg hn];exact ZfT _ _ _ _ _ _ _ hn
def Zpd (n k:Nat):Int:=if n=k then 0 else if n<k then -1 else 1
theorem Zd1 (p q:Option Addr) (n c k d:Nat) (h:Hp) (h0:n=0∨k=0):
  Runs (Ze prog Zi ZaS true) (Z2V f187) ([.slice p n c,.slice q k d]++List.replicate 41 undef,h,[]) fun e y=>(e=none∨e=some none)∧zE prog f187 y.1 y.2.1=some (i6' (Zpd n k)):=by
 unfold Zpd;by_cases hn:n=k
 ·rw[if_pos hn];have e1:n=0:=by omega
  have e2:k=0:=by omega
  subst e1 e2;exact ZkY p q c d h
 ·rw[if_neg hn];exact ZfT p q n c k d h hn
def Z2W:Zba:=fun vals h s=>
 match vals with
 | [.slice (some ⟨b,o,none⟩) n c,.slice (some ⟨b',o',none⟩) n' c']=>
  match h.blk? b,h.blk? b' with
  | some x,some y=>some (i6' (ZbG (Zt x.1 o n) (Zt y.1 o' n')),h,s,[(Zu x.2 x.1 o n c,true),(Zu y.2 y.1 o' n' c',true)])
  | _,_=>none
 | [.slice none 0 0,.slice none 0 0]=>some (i6' 0,h,s,[])
 | [.slice none 0 0,.slice (some _) k _]=>some (i6' (Zpd 0 k),h,s,[])
 | [.slice (some _) n _,.slice none 0 0]=>some (i6' (Zpd n 0),h,s,[])
 | _=>none
theorem Zd2:ZJ 187 Z2W:=by
 intro vals h s v h' s' lg hg hl m B w E hv;unfold Z2W at hg;split at hg
 ·rename_i b o n c b' o' n' c';split at hg
  ·rename_i x y hx hy;cases hg;obtain⟨a1,a2,a3,a4,a5,a6,a7⟩:=Z4 (hl _ (Xe));obtain⟨b1,b2,b3,b4,b5,b6,b7⟩:=Z4 (hl _ (Xd _ Xf));have hsm:n<4611686018427387904:=by have:=Zl.1 a4;unfold ZX at this;omega
   have r:=Zpc (c:=c) (c':=c') a1 b1 (by rw[a2];exact hsm);rw[a2,b2] at r;have lx:=Hp.blk_lt hx;have ly:=Hp.blk_lt hy;have:=zl (T:=Ze prog Zi ZaS true) func187 Zdc (Zj1 a7 b7) (vals:=[sl 0 o n c,sl 1 o' n' c']) (fun v hv=>by
    simp only[List.mem_cons,List.not_mem_nil,or_false] at hv;rcases hv with rfl | rfl<;>rfl) (by rfl) r E (s:=Zkl b b') (fun i _=>by unfold Zkl;split<;>assumption) (Zet hx a5 a6 hy b5 b6)
   exact this.mono fun e w' he=>⟨m,he.1,he.2⟩
  ·cases hg
 ·cases hg;have r:=Zd1 none none 0 0 0 0 ⟨0,[]⟩ (.inl rfl);refine (ZZ (T:=Ze prog Zi ZaS true) func187 Zdc (vals:=[ZD,ZD]) (by rfl) (by rfl) r w).mono fun e w' he=> ?_;obtain⟨E',hb⟩:=ZQ E he.2;exact⟨m,he.1,⟨Agree.refl _ _,E',hb,Nat.le_refl _,rfl⟩⟩
 ·rename_i a k c;cases hg;have r:=Zd1 none (some {a with block:=0}) 0 0 k c hT (.inl rfl);have hlt:a.block<h.n:=by
   have:=hv (.slice (some a) k c) (by simp);exact Zl.1 this
  have:=zl (T:=Ze prog Zi ZaS true) func187 Zdc ZyJ (vals:=[ZD,.slice (some {a with block:=0}) k c]) (fun v hv=>by
   simp only[List.mem_cons,List.not_mem_nil,or_false] at hv;rcases hv with rfl | rfl<;>rfl) (by rfl) r E (s:=fun _=>a.block) (fun i _=>hlt) (Zsg _ _)
  exact this.mono fun e w' he=>⟨m,he.1,he.2⟩
 ·rename_i a n c;cases hg;have r:=Zd1 (some {a with block:=0}) none n c 0 0 hT (.inr rfl);have hlt:a.block<h.n:=by
   have:=hv (.slice (some a) n c) (by simp);exact Zl.1 this
  have:=zl (T:=Ze prog Zi ZaS true) func187 Zdc ZyJ (vals:=[.slice (some {a with block:=0}) n c,ZD]) (fun v hv=>by
   simp only[List.mem_cons,List.not_mem_nil,or_false] at hv;rcases hv with rfl | rfl<;>rfl) (by rfl) r E (s:=fun _=>a.block) (fun i _=>hlt) (Zsg _ _)
  exact this.mono fun e w' he=>⟨m,he.1,he.2⟩
 ·cases hg
end Go.Proofs.YtgefjidphfdhdaaGreatDoor.Na
namespace Go.Proofs.YtgefjidphfdhdaaGreatDoor
open Go.KRun
set_option maxRecDepth 100000
def uu (n:Int):Value:= .int .u32 n
end Go.Proofs.YtgefjidphfdhdaaGreatDoor
namespace Go.Proofs.YtgefjidphfdhdaaGreatDoor.Na
open Go.Proofs.Tryz
open Go.IntKind
open Go.KRun Go.Nt
set_option maxRecDepth 100000
def ZbH (k:Int):Value:= .iface 69 (.int .i64 k)
def Zcs (d:Bool):Value:=match d with | true=>ZbH 1 | false=> .nilIface
def ZH (L:List Int):Bool:=decide (8192<L.length) || (decide (0<L.length) && (L.getD (L.length-1) 0==0))
theorem Zpe (p:Option Addr) (n c:Nat) (h:Hp):Zk (evC (Ze prog Zi Zn true) 100 false (Zw f128) ([.slice p n c]++List.replicate 20 undef,h,[cmp true]) ⟨[],[],[]⟩) 3 18 (some none) [.slice p n c,undef,ZbH 1] h [(decide ((n:Int)>8192),true)]:=by and_intros<;>kernel_rfl
theorem Zpf (p:Option Addr) (n c:Nat) (h:Hp):Zk (evC (Ze prog Zi Zn true) 100 false (Zw f128) ([.slice p n c]++List.replicate 20 undef,h,[cmp false,cmp false]) ⟨[],[],[]⟩) 3 18 (some none) [.slice p n c,undef,.nilIface] h [(decide ((n:Int)>0),false),(decide ((n:Int)>8192),false)]:=by and_intros<;>kernel_rfl
theorem Zpg (d:Bool) (o n c:Nat) (x:Int) (l:List Value):Zk (evC (Ze prog Zi Zn true) 100 false (Zw f128) ([sl 0 o n c]++List.replicate 20 undef,⟨1,[(l,tR)]⟩,[cmp false,cmp true,at_,val (.int .u32 x),cmp d]) ⟨[],[],[]⟩) 3 18 (some none) [sl 0 o n c,undef,Zcs d] ⟨1,[(l,tR)]⟩ [(x==0,d),(Z6 (l[o+(n1 n).toNat*1]?) (.int .u32 x),true),(decide (0≤n1 n∧n1 n<n),true),(decide ((n:Int)>0),true),(decide ((n:Int)>8192),false)]:=by
 cases d<;>exact by and_intros<;>kernel_rfl
theorem Zph:f128.body=some (Zw f128):=by kernel_rfl
theorem Zpi {l:List Value}{o c:Nat}{L:List Int}(hR:Row l o L):
  Runs (Ze prog Zi Zn true) (Zw f128) ([sl 0 o L.length c]++List.replicate 20 undef,⟨1,[(l,tR)]⟩,[]) fun e y=>(e=none∨e=some none)∧zE prog f128 y.1 y.2.1=some (Zcs (ZH L)):=by
 unfold ZH;by_cases h1:8192<L.length
 ·rw[Xa h1,Bool.true_or];refine (Zc (Zd Zh) (Zpe _ _ _ _) (Z7 (Xa (by omega)))).mono fun e y he=> ?_;obtain⟨rfl,⟨g,e2⟩,e3⟩:=he;refine⟨.inr rfl,?_⟩;rw[e2,e3];rfl
 ·rw[Xb h1,Bool.false_or];by_cases h2:0<L.length
  ·rw[Xa h2,Bool.true_and];have ek:n1 L.length=((L.length-1:Nat):Int):=by
    unfold n1;rw[Zv (by omega) (by omega)];omega
   refine (Zc (Zd Zh) (Zpg (L.getD (L.length-1) 0==0) o L.length c (L.getD (L.length-1) 0) l) (Zj rfl (Zj (by
    rw[ek,Xg,Nat.mul_one,hR.cell (by omega)];simp [Z6]) (Zj (by rw[ek];exact Xa (by omega)) (Zj (Xa (by omega)) (Z7 (Xb (by omega)))))))).mono fun e y he=> ?_
   obtain⟨rfl,⟨g,e2⟩,e3⟩:=he;refine⟨.inr rfl,?_⟩;rw[e2,e3];generalize (L.getD (L.length-1) 0==0)=d;cases d<;>rfl
  ·rw[Xb h2,Bool.false_and];refine (Zc (Zd Zh) (Zpf _ _ _ _) (Zj (Xb (by omega)) (Z7 (Xb (by omega))))).mono fun e y he=> ?_;obtain⟨rfl,⟨g,e2⟩,e3⟩:=he;refine⟨.inr rfl,?_⟩;rw[e2,e3];rfl
theorem ZtP:Zs (Zf (Ze prog Zi Zn true) 100 128 [ZD] []) .nilIface []:=by and_intros<;>kernel_rfl
def ZyP:Zba:=fun vals h s=>
 match vals with
 | [.slice none 0 0]=>some (.nilIface,h,s,[])
 | [.slice (some ⟨b,o,none⟩) n c]=>
  match h.blk? b,s with
  | some x,.inr (.inr (.inr (.inl d)))::s'=>some (Zcs d,h,s',[(Zu x.2 x.1 o n c,true),(ZH (Zt x.1 o n),d)])
  | _,_=>none
 | _=>none
theorem ZeL:ZJ 128 ZyP:=by
 intro vals h s v h' s' lg hg hl m B w E hv;unfold ZyP at hg;split at hg
 ·cases hg;refine (Zb (Zd Zh) ZtP (fun x hx=>by cases hx) (by rfl) (by rfl) w).mono fun e w' he=> ?_;obtain⟨E',hb⟩:=ZQ E he.2;exact⟨m,he.1,⟨Agree.refl _ _,E',hb,Nat.le_refl _,rfl⟩⟩
 ·rename_i b o n c;split at hg
  ·rename_i x d s2 hx;cases hg;obtain⟨h1,h2,h3,h4,h5,h6,h7⟩:=Z4 (hl _ (Xe));have hd:=hl _ (Xd _ Xf);simp only at hd;have hlt:=Hp.blk_lt hx;have r:=Zpi (c:=c) h1;rw[h2,hd] at r;have e0:rn (fun _=>b) (Zcs d)=Zcs d:=by cases d<;>rfl
   have:=zl (T:=Ze prog Zi Zn true) func128 Zph (ZcU h7) (vals:=[sl 0 o n c]) (fun v hv=>by rw[List.mem_singleton.1 hv];rfl) (by cases d<;>rfl) r E (s:=fun _=>b) (fun i _=>hlt) (ZaQ hx h5 h6 rfl);rw[e0] at this;exact this.mono fun e w' he=>⟨m,he.1,he.2⟩
  ·cases hg
 ·cases hg
def hcK:Hc:=zJ 128 ZyP hcN
theorem Zeu:HcOk hcK:=Zq func128 rfl ZeL zo
def ZgX (l:List Value) (o n c:Nat):Bool×Bool:=(Zu tR l o n c,true)
theorem Zpj (o n c o' n' c':Nat) (la lb:List Value):Zk (evC (Zx prog Zi Zn hcK) 100 false (Zw f132) ([sl 0 o n c,sl 1 o' n' c']++List.replicate 11 undef,h2 la lb,[cmp true]) ⟨[],[],[]⟩) 5 8 (some none) [sl 0 o n c,sl 1 o' n' c',undef,undef,ZbH 1] (h2 la lb) [ZgX la o n c,(ZH (Zt la o n),true)]:=by and_intros<;>kernel_rfl
theorem ZyQ (d:Bool) (o n c o' n' c':Nat) (la lb:List Value):Zk (evC (Zx prog Zi Zn hcK) 100 false (Zw f132) ([sl 0 o n c,sl 1 o' n' c']++List.replicate 11 undef,h2 la lb,[cmp false,cmp d]) ⟨[],[],[]⟩) 5 8 (some none) [sl 0 o n c,sl 1 o' n' c',undef,undef,Zcs d] (h2 la lb) [ZgX lb o' n' c',(ZH (Zt lb o' n'),d),ZgX la o n c,(ZH (Zt la o n),false)]:=by
 cases d<;>exact by and_intros<;>kernel_rfl
theorem ZW {ty:TypeId}{l:List Value}{o n c:Nat}(h:Zu ty l o n c=true):Zu tR l o n c=true:=by
 unfold Zu at*;simp only[Xh,Bool.not_eq_true'] at*;obtain⟨⟨⟨⟨⟨⟨h1,h2⟩,h3⟩,h4⟩,h5⟩,h6⟩,h7⟩:=h;exact⟨⟨⟨⟨⟨⟨Zd0,by kernel_rfl⟩,h3⟩,h4⟩,h5⟩,h6⟩,h7⟩
theorem Zd3:f132.body=some (Zw f132):=by kernel_rfl
theorem ZkZ {la lb:List Value}{o n c o' n' c':Nat}(ha:Zu tR la o n c=true) (hb:Zu tR lb o' n' c'=true):
  Runs (Zx prog Zi Zn hcK) (Zw f132) ([sl 0 o n c,sl 1 o' n' c']++List.replicate 11 undef,h2 la lb,[]) fun e y=>(e=none∨e=some none)∧zE prog f132 y.1 y.2.1=some (Zcs (ZH (Zt la o n) || ZH (Zt lb o' n'))):=by
 cases h:ZH (Zt la o n) with
 | true=>
  refine (Zc (Z3 Zh Zeu) (Zpj o n c o' n' c' la lb) (Zj ha (Z7 h))).mono fun e y he=> ?_;obtain⟨rfl,⟨g,e2⟩,e3⟩:=he;refine⟨.inr rfl,?_⟩;rw[e2,e3];rfl
 | false=>
  refine (Zc (Z3 Zh Zeu) (ZyQ (ZH (Zt lb o' n')) o n c o' n' c' la lb) (Zj hb (Zj rfl (Zj ha (Z7 h))))).mono fun e y he=> ?_;obtain⟨rfl,⟨g,e2⟩,e3⟩:=he;refine⟨.inr rfl,?_⟩;rw[e2,e3,Bool.false_or];generalize ZH (Zt lb o' n')=d;cases d<;>rfl
theorem ZtQ (d:Bool) (o n c:Nat) (l:List Value):Zk (evC (Zx prog Zi Zn hcK) 100 false (Zw f132) ([ZD,sl 0 o n c]++List.replicate 11 undef,⟨1,[(l,tR)]⟩,[cmp d]) ⟨[],[],[]⟩) 5 8 (some none) [ZD,sl 0 o n c,undef,undef,Zcs d] ⟨1,[(l,tR)]⟩ [ZgX l o n c,(ZH (Zt l o n),d)]:=by
 cases d<;>exact by and_intros<;>kernel_rfl
theorem ZtR (d:Bool) (o n c:Nat) (l:List Value):Zk (evC (Zx prog Zi Zn hcK) 100 false (Zw f132) ([sl 0 o n c,ZD]++List.replicate 11 undef,⟨1,[(l,tR)]⟩,[cmp d]) ⟨[],[],[]⟩) 5 8 (some none) [sl 0 o n c,ZD,undef,undef,Zcs d] ⟨1,[(l,tR)]⟩ [ZgX l o n c,(ZH (Zt l o n),d)]:=by
 cases d<;>exact by and_intros<;>kernel_rfl
theorem Zpk:Zs (Zf (Ze prog Zi Zn true) 100 132 [ZD,ZD] []) .nilIface []:=by and_intros<;>kernel_rfl
theorem Zie {vals:List Value}{l:List Value}{o n c:Nat}{d:Bool}(hf:Zk (evC (Zx prog Zi Zn hcK) 100 false (Zw f132) (vals++List.replicate 11 undef,⟨1,[(l,tR)]⟩,[cmp d]) ⟨[],[],[]⟩) 5 8 (some none) (vals++[undef,undef,Zcs d]) ⟨1,[(l,tR)]⟩ [ZgX l o n c,(ZH (Zt l o n),d)]) (ha:Zu tR l o n c=true) (hd:ZH (Zt l o n)=d) (hr:∀ g,zE prog f132 ((vals++[undef,undef,Zcs d])++tl 8 g) ⟨1,[(l,tR)]⟩=some (Zcs d)):
  Runs (Zx prog Zi Zn hcK) (Zw f132) (vals++List.replicate 11 undef,⟨1,[(l,tR)]⟩,[]) fun e y=>(e=none∨e=some none)∧zE prog f132 y.1 y.2.1=some (Zcs d):=by
 refine (Zc (Z3 Zh Zeu) hf (Zj ha (Z7 hd))).mono fun e y he=> ?_;obtain⟨rfl,⟨g,e2⟩,e3⟩:=he;refine⟨.inr rfl,?_⟩;rw[e2,e3];exact hr g
def Zj2:Zba:=fun vals h s=>
 match vals with
 | [.slice (some ⟨b,o,none⟩) n c,.slice (some ⟨b',o',none⟩) n' c']=>
  match h.blk? b,h.blk? b',s with
  | some x,some y,.inr (.inr (.inr (.inl d)))::s'=>some (Zcs d,h,s',[(Zu x.2 x.1 o n c,true),(Zu y.2 y.1 o' n' c',true),(ZH (Zt x.1 o n) || ZH (Zt y.1 o' n'),d)])
  | _,_,_=>none
 | [.slice none 0 0,.slice (some ⟨b,o,none⟩) n c]=>
  match h.blk? b,s with
  | some x,.inr (.inr (.inr (.inl d)))::s'=>some (Zcs d,h,s',[(Zu x.2 x.1 o n c,true),(ZH (Zt x.1 o n),d)])
  | _,_=>none
 | [.slice (some ⟨b,o,none⟩) n c,.slice none 0 0]=>
  match h.blk? b,s with
  | some x,.inr (.inr (.inr (.inl d)))::s'=>some (Zcs d,h,s',[(Zu x.2 x.1 o n c,true),(ZH (Zt x.1 o n),d)])
  | _,_=>none
 | [.slice none 0 0,.slice none 0 0]=>some (.nilIface,h,s,[])
 | _=>none
theorem Zcb:ZJ 132 Zj2:=by
 intro vals h s v h' s' lg hg hl m B w E hv;unfold Zj2 at hg;split at hg
 ·rename_i b o n c b' o' n' c';split at hg
  ·rename_i x y d s2 hx hy;cases hg;have ra:=hl _ (Xe);have rb:=hl _ (Xd _ Xe);obtain⟨a1,a2,a3,a4,a5,a6,a7⟩:=Z4 ra;obtain⟨b1,b2,b3,b4,b5,b6,b7⟩:=Z4 rb;have hd:=hl _ (Xd _ (Xd _ Xf));simp only at hd;have r:=ZkZ (ZW ra) (ZW rb);rw[hd] at r;have lx:=Hp.blk_lt hx;have ly:=Hp.blk_lt hy;have e0:rn (Zkl b b') (Zcs d)=Zcs d:=by cases d<;>rfl
   have:=zl (T:=Zx prog Zi Zn hcK) func132 Zd3 (Zj1 a7 b7) (vals:=[sl 0 o n c,sl 1 o' n' c']) (fun v hv=>by
    simp only[List.mem_cons,List.not_mem_nil,or_false] at hv;rcases hv with rfl | rfl<;>rfl) (by cases d<;>rfl) r E (s:=Zkl b b') (fun i _=>by unfold Zkl;split<;>assumption) (Zet hx a5 a6 hy b5 b6)
   rw[e0] at this;exact this.mono fun e w' he=>⟨m,he.1,he.2⟩
  ·cases hg
 ·rename_i b o n c;split at hg
  ·rename_i x d s2 hx;cases hg;have ra:=hl _ (Xe);have hd:=hl _ (Xd _ Xf);simp only at hd;obtain⟨a1,a2,a3,a4,a5,a6,a7⟩:=Z4 ra;have hlt:=Hp.blk_lt hx;have e0:rn (fun _=>b) (Zcs d)=Zcs d:=by cases d<;>rfl
   have r:=Zie (ZtQ d o n c x.1) (ZW ra) hd (fun _=>by cases d<;>rfl);have:=zl (T:=Zx prog Zi Zn hcK) func132 Zd3 (ZcU a7) (vals:=[ZD,sl 0 o n c]) (fun v hv=>by
    simp only[List.mem_cons,List.not_mem_nil,or_false] at hv;rcases hv with rfl | rfl<;>rfl) (by cases d<;>rfl) r E (s:=fun _=>b) (fun i _=>hlt) (ZaQ hx a5 a6 rfl)
   rw[e0] at this;exact this.mono fun e w' he=>⟨m,he.1,he.2⟩
  ·cases hg
 ·rename_i b o n c;split at hg
  ·rename_i x d s2 hx;cases hg;have ra:=hl _ (Xe);have hd:=hl _ (Xd _ Xf);simp only at hd;obtain⟨a1,a2,a3,a4,a5,a6,a7⟩:=Z4 ra;have hlt:=Hp.blk_lt hx;have e0:rn (fun _=>b) (Zcs d)=Zcs d:=by cases d<;>rfl
   have r:=Zie (ZtR d o n c x.1) (ZW ra) hd (fun _=>by cases d<;>rfl);have:=zl (T:=Zx prog Zi Zn hcK) func132 Zd3 (ZcU a7) (vals:=[sl 0 o n c,ZD]) (fun v hv=>by
    simp only[List.mem_cons,List.not_mem_nil,or_false] at hv;rcases hv with rfl | rfl<;>rfl) (by cases d<;>rfl) r E (s:=fun _=>b) (fun i _=>hlt) (ZaQ hx a5 a6 rfl)
   rw[e0] at this;exact this.mono fun e w' he=>⟨m,he.1,he.2⟩
  ·cases hg
 ·cases hg;refine (Zb (Zd Zh) Zpk (fun x hx=>by cases hx) (by rfl) (by rfl) w).mono fun e w' he=> ?_;obtain⟨E',hb⟩:=ZQ E he.2;exact⟨m,he.1,⟨Agree.refl _ _,E',hb,Nat.le_refl _,rfl⟩⟩
 ·cases hg
def wd4 (x y c:Int):Bool:=decide ((0≤x∧x<4294967296)∧(0≤y∧y<4294967296)∧0≤c∧c≤1)
def ZyR (x y c:Int):Value:= .tuple #[uu ((x+y+c) % 4294967296),uu ((x+y+c)/4294967296)]
def Zpl (x y c:Int):Int:=u64.wrap (u64.wrap (u64.wrap x+u64.wrap y)+u64.wrap c)
theorem Zj3 (x y c:Int):Zs (Zf (Ze prog Zi Zn true) 100 216 [uu x,uu y,uu c] []) (.tuple #[uu (u32.wrap (Zpl x y c)),uu (u32.wrap ((Zpl x y c).fdiv (2^min ((32:Int).toNat) 64)))]) [(decide ((32:Int)<0),false)]:=by and_intros<;>kernel_rfl
theorem ZcV (n:Int):u64.wrap n=n % 18446744073709551616:=by simp [IntKind.wrap,IntKind.bits,IntKind.signed]
theorem ZgJ (n:Int):u32.wrap n=n % 4294967296:=by simp [IntKind.wrap,IntKind.bits,IntKind.signed]
def Zla:Ans:=fun vals s=>
 match vals with
 | [.int .u32 x,.int .u32 y,.int .u32 c]=>some (ZyR x y c,s,[(wd4 x y c,true)])
 | _=>none
theorem Zlb:ZC 216 Zla:=by
 intro vals s v s' lg h hl w;unfold Zla at h;split at h
 ·rename_i x y c;cases h;have hr:=hl _ Xf;simp only[wd4,Xi] at hr;have e:Zpl x y c=x+y+c:=by
   unfold Zpl;rw[ZcV,ZcV,ZcV,ZcV,ZcV];omega
  have e2:(2:Int)^min ((32:Int).toNat) 64=4294967296:=rfl;have:=Zb (Zd Zh) (Zj3 x y c) (Z7 (by rfl)) (by rfl) (by rfl) w;rw[e,e2,ZgJ,ZgJ,Int.fdiv_eq_ediv_of_nonneg _ (by omega),Int.emod_eq_of_lt (a:=(x+y+c)/4294967296) (by omega) (by omega)] at this;exact this
 ·cases h
end Go.Proofs.YtgefjidphfdhdaaGreatDoor.Na
namespace Go.Proofs.YtgefjidphfdhdaaGreatDoor
open Go.KRun
set_option maxRecDepth 100000
def inR (i:Int) (n:Nat):Bool×Bool:=(decide (0≤i∧i<n),true)
def ZbO (l:List Value) (o:Nat) (i x:Int):Bool×Bool:=(Z6 (l[o+i.toNat*1]?) (uu x),true)
end Go.Proofs.YtgefjidphfdhdaaGreatDoor
namespace Go.KRun
open Go.RowKit
def ml (front:List Value) (b:Nat) (g:Nat→Value) (mid:List Value) (n:Nat) (g':Nat→Value):List Value:=front++(tl b g++(mid++tl n g'))
def Zd4 (r:Option (Ex×Lf×Lg)) (a b c n:Nat) (e:Ex) (front mid:List Value) (h:Hp) (cs:Log):Prop:=
 r.map (fun r=>(r.1,r.2.1.1.take a,((r.2.1.1.drop a).take b).length,((r.2.1.1.drop a).drop b).take c,(((r.2.1.1.drop a).drop b).drop c).length,r.2.1.2.1,r.2.2.cs))=some (e,front,b,mid,n,h,cs)∧
  r.map (fun r=>r.2.2.es.map Prod.fst)=r.map (fun r=>r.2.2.es.map Prod.snd)∧r.map (fun r=>r.2.2.bs.map Prod.fst)=r.map (fun r=>r.2.2.bs.map Prod.snd)
theorem Zj4 {r:Option (Ex×Lf×Lg)}{a b c n:Nat}{e:Ex}{front mid:List Value}{h:Hp}{cs:Log}(hG:Zd4 r a b c n e front mid h cs) (hcs:Zo cs):∃ g g' s L,r=some (e,(ml front b g mid n g',h,s),L)∧L.ok:=by
 obtain⟨h1,h5,h6⟩:=hG;cases r with
 | none=>cases h1
 | some r=>
  simp only[Option.map_some,Option.some.injEq,Prod.mk.injEq] at h1 h5 h6;obtain⟨e',⟨t',h',s'⟩,L⟩:=r;simp only at h1 h5 h6;obtain⟨h1,h2,h3,h4,h7,h8,h9⟩:=h1;subst h1 h8;obtain⟨g,hg⟩:=ZoU h3;obtain⟨g',hg'⟩:=ZoU h7;refine⟨g,g',s',L,?_,by rw[h9];exact hcs,ZbZ _ h5,ZbZ _ h6⟩;unfold ml;rw[← h2,← hg,← h4,← hg',List.take_append_drop,List.take_append_drop,List.take_append_drop]
theorem zm {T:Tab}(hT:TabOk T) {N:Nat}{c:Code}{t:List Value}{h h':Hp}{s s0:List Dec}{a b k n:Nat}{e:Ex}{front mid:List Value}{cs:Log}(hG:Zd4 (evC T N false c (t,h,s) ⟨[],[],[]⟩) a b k n e front mid h' cs) (hcs:Zo cs):
  Runs T c (t,h,s0) fun e' y=>e'=e∧(∃ g g',y.1=ml front b g mid n g')∧y.2.1=h':=by
 obtain⟨g,g',s',L,hr,hL⟩:=Zj4 hG hcs;refine Runs.script ((Runs.ev hT hr hL).mono fun e2 y he=> ?_);obtain⟨rfl,rfl⟩:=he;exact⟨rfl,⟨g,g',rfl⟩,rfl⟩
end Go.KRun
namespace Go.Nt
def vN:List Int→Int
 | []=>0
 | x::r=>x+4294967296*vN r
def dg:Nat→Int→List Int
 | 0,_=>[]
 | m+1,V=>V % 4294967296::dg m (V/4294967296)
def wds (L:List Int):Prop:=∀ x∈L,0≤x∧x<4294967296
theorem ZB:∀ (m:Nat) (V:Int),(dg m V).length=m
 | 0,_=>rfl
 | m+1,V=>by simp [dg,ZB m]
theorem Zac:∀ (m:Nat) (V:Int),wds (dg m V)
 | 0,_=>fun x hx=>by cases hx
 | m+1,V=>fun x hx=>by
  simp only[dg,List.mem_cons] at hx;rcases hx with rfl | hx
  ·omega
  ·exact Zac m _ x hx
theorem zL {x:Int}{L:List Int}(h:wds (x::L)):(0≤x∧x<4294967296)∧wds L:=⟨h x Xe,fun y hy=>h y (Xd _ hy)⟩
theorem ZdY:∀ L:List Int,wds L→dg L.length (vN L)=L
 | [],_=>rfl
 | x::r,h=>by
  obtain⟨h1,h2⟩:=zL h;have ih:=ZdY r h2;simp only[List.length_cons,dg,vN];have e1:(x+4294967296*vN r) % 4294967296=x:=by omega
  have e2:(x+4294967296*vN r)/4294967296=vN r:=by omega
  rw[e1,e2,ih]
theorem pw (k:Nat):(4294967296:Int)^(k+1)=4294967296*4294967296^k:=by rw[Int.pow_succ,Int.mul_comm]
theorem Zad (k:Nat):(0:Int)<4294967296^k:=Int.pow_pos (by omega)
theorem Zpm {i j:Nat}(h:i≤j):(4294967296:Int)^i≤4294967296^j:=by
 have h1:∀ k:Nat,((4294967296^k:Nat):Int)=4294967296^k:=fun k=>by simp
 rw[← h1,← h1];have:=Nat.pow_le_pow_right (n:=4294967296) (by omega) h;omega
theorem Zax:∀ L:List Int,wds L→0≤vN L∧vN L<4294967296^L.length
 | [],_=>by simp [vN]
 | x::r,h=>by
  obtain⟨h1,h2⟩:=zL h;have ih:=Zax r h2;simp only[List.length_cons,vN];rw[pw];omega
theorem zd:∀ (L:List Int) (d:Int),vN (L++[d])=vN L+4294967296^L.length*d
 | [],d=>by simp [vN]
 | x::r,d=>by
  have ih:=zd r d;simp only[List.cons_append,vN,List.length_cons];rw[ih,pw,Int.mul_assoc,Int.mul_add];omega
theorem Zsi:∀ (L M:List Int),vN (L++M)=vN L+4294967296^L.length*vN M
 | [],M=>by simp [vN]
 | x::r,M=>by
  have ih:=Zsi r M;simp only[List.cons_append,vN,List.length_cons];rw[ih,pw,Int.mul_assoc,Int.mul_add];omega
theorem z8 {L M:List Int}(h1:wds L) (h2:wds M):wds (L++M):=fun x hx=>by
 rcases List.mem_append.1 hx with hx | hx
 ·exact h1 x hx
 ·exact h2 x hx
end Go.Nt
namespace Go.Proofs.YtgefjidphfdhdaaGreatDoor.Na
open Go.Proofs.Tryz
open Go.IntKind
open Go.KRun Go.Nt
set_option maxRecDepth 100000
def ZgY:Con:=alt 216 Zla Zn
theorem ZbP:ConOk ZgY:=Zr func216 rfl Zlb Zh
def sn (k:Nat) (F:Func):Code:=match k with | 0=>Zw F | k+1=>ZV (sn k F)
def nP (n:Nat):Int:=i64.wrap ((n:Int)+1)
def cpy (la:List Value) (o n:Nat):List Value:=(List.replicate (nP n).toNat (uu 0)).take 0++(la.drop o).take (Nat.min n (nP n).toNat)++(List.replicate (nP n).toNat (uu 0)).drop (0+Nat.min n (nP n).toNat)
def h3 (la lb S:List Value):Hp:=⟨3,[(S,tU),(lb,tR),(la,tR)]⟩
def Z2X (la:List Value) (o n:Nat):Bool:= !(Zai tR) && !(ro tU) && Nat.ble (o+Nat.min n (nP n).toNat) la.length && Nat.ble (0+Nat.min n (nP n).toNat) (List.replicate (nP n).toNat (uu 0)).length && ((la.drop o).take (Nat.min n (nP n).toNat)).all one
end Go.Proofs.YtgefjidphfdhdaaGreatDoor.Na
namespace Go.Proofs.YtgefjidphfdhdaaGreatDoor
open Go.KRun Go.Nt
set_option maxRecDepth 100000
theorem Zlc (dx:List Int) (x:Int) (px:List Int):(wU (dx++x::px))[dx.length]? =some (uu x):=by
 unfold wU;simp [uu]
theorem ZfU (dx:List Int) (x d:Int) (px:List Int):(wU (dx++x::px)).set dx.length (uu d)=wU ((dx++[d])++px):=by
 unfold wU uu;simp
theorem zT {S:List Value}{o k:Nat}{x:Int}(h:S[o+k]? =some (uu x)):(ZbO S o k x).1=(ZbO S o k x).2:=by
 unfold ZbO;simp only[Xg,Nat.mul_one];rw[h];simp [Z6,uu]
end Go.Proofs.YtgefjidphfdhdaaGreatDoor
namespace Go.Proofs.YtgefjidphfdhdaaGreatDoor.Na
open Go.KRun Go.Nt
set_option maxRecDepth 100000
theorem ZyS {n:Nat}(h:n≤8192):nP n=((n+1:Nat):Int):=by unfold nP;rw[Zv (by omega) (by omega)];omega
theorem Zif {n:Nat}(h:n≤8192):(nP n).toNat=n+1:=by rw[ZyS h,Xg]
theorem Zld {la:List Value}{o:Nat}{L:List Int}(hR:Row la o L) (h:L.length≤8192):cpy la o L.length=wU (L++[0]):=by
 unfold cpy;rw[Zif h,show Nat.min L.length (L.length+1)=L.length from by simp];have e1:(la.drop o).take L.length=wU L:=hR.cut;rw[e1,Nat.zero_add,List.take_zero,List.nil_append,List.drop_replicate,show L.length+1-L.length=1 from by omega];unfold wU uu;simp
theorem Zle {la:List Value}{o:Nat}{L:List Int}(hR:Row la o L) (h:L.length≤8192):Z2X la o L.length=true:=by
 unfold Z2X;rw[Zif h,show Nat.min L.length (L.length+1)=L.length from by simp];have e1:(la.drop o).take L.length=wU L:=hR.cut;rw[e1,Zd0,show ro tU=false from by kernel_rfl];have h1:Nat.ble (o+L.length) la.length=true:=Nat.ble_eq_true_of_le hR.len;have h2:Nat.ble (0+L.length) (List.replicate (L.length+1) (uu 0)).length=true:=Nat.ble_eq_true_of_le (by simp);have h3:((wU L).all one)=true:=by
  unfold wU;rw[List.all_eq_true];intro v hv;obtain⟨x,_,rfl⟩:=List.mem_map.1 hv;rfl
 rw[h1,h2,h3];rfl
theorem ZyT {n:Nat}(h:n≤8192):ZO 4 (nP n) (nP n)=true:=by
 rw[ZyS h];exact Xa (by omega)
theorem Zsj {L:List Int}(h:wds L) {c:Nat}(hc:L.length≤c) (h2:Z8 c=true):Zu tU (wU L) 0 L.length c=true∧Zt (wU L) 0 L.length=L:=by
 have e1:ZbE (wU L) 0 L.length=wU L:=by
  unfold ZbE;rw[List.drop_zero];exact List.take_of_length_le (by unfold wU;simp)
 have e2:Zt (wU L) 0 L.length=L:=by
  unfold Zt;rw[e1];unfold wU;rw[List.map_map];exact (List.map_congr_left fun x _=>rfl).trans (List.map_id' _)
 refine⟨?_,e2⟩;unfold Zu;rw[e1,h2,show Zai tU=false from by kernel_rfl,show Nat.beq (rt tU) tU=true from by kernel_rfl,Nat.ble_eq_true_of_le (show 0+L.length≤(wU L).length by unfold wU;simp),Nat.ble_eq_true_of_le hc];have h3:((wU L).all isU)=true:=by
  unfold wU;rw[List.all_eq_true];intro v hv;obtain⟨x,hx,rfl⟩:=List.mem_map.1 hv;exact Xa (h x hx)
 have h4:((wU L).all still)=true:=by
  unfold wU;rw[List.all_eq_true];intro v hv;obtain⟨x,_,rfl⟩:=List.mem_map.1 hv;rfl
 rw[h3,h4];rfl
theorem Zb0 {L:List Int}(h:ZH L=false):L.length≤8192:=by
 unfold ZH at h;simp only[Bool.or_eq_false_iff,decide_eq_false_iff_not] at h;omega
theorem Zc1 (L:List Int):∀ u∈wU L,lt1 0 u=true:=fun u hu=>by
 unfold wU at hu;obtain⟨x,_,rfl⟩:=List.mem_map.1 hu;rfl
theorem Zd5:ro tU=false:=by kernel_rfl
end Go.Proofs.YtgefjidphfdhdaaGreatDoor.Na
namespace Go.Proofs.YtgefjidphfdhdaaGreatDoor.Na
open Go.Proofs.Tryz
open Go.IntKind
open Go.KRun Go.Nt
set_option maxRecDepth 100000
def bnt (z:Int):Int:=u32.wrap ((BitVec.ofInt 32 4294967295 ^^^ BitVec.ofInt 32 z).toNat:Nat)
def bnd (x y:Int):Int:=u32.wrap ((BitVec.ofInt 32 x &&& BitVec.ofInt 32 y).toNat:Nat)
def bxr (x y:Int):Int:=u32.wrap ((BitVec.ofInt 32 x ^^^ BitVec.ofInt 32 y).toNat:Nat)
def brr (x y:Int):Int:=u32.wrap ((BitVec.ofInt 32 x ||| BitVec.ofInt 32 y).toNat:Nat)
def ZyU (x y c:Int):Int:=u32.wrap (u32.wrap (x-y)-c)
def Z38 (x y c:Int):Int:=(brr (bnd (bnt x) y) (bnd (bnt (bxr x y)) (ZyU x y c))).fdiv (2^min ((31:Int).toNat) 32)
theorem Zj5 (x y c:Int):Zs (Zf (Ze prog Zi Zn true) 100 215 [uu x,uu y,uu c] []) (.tuple #[uu (ZyU x y c),uu (Z38 x y c)]) [(decide ((31:Int)<0),false)]:=by and_intros<;>kernel_rfl
theorem Zj6 (v:BitVec 32):BitVec.ofInt 32 (u32.wrap (v.toNat:Nat))=v:=by
 rw[ZgJ];have h:=v.isLt;apply BitVec.eq_of_toNat_eq;simp;omega
theorem Zpn (v:BitVec 32):u32.wrap (v.toNat:Nat)=v.toNat:=by
 rw[ZgJ];have h:=v.isLt;omega
theorem ZtS (v:BitVec 32):v.toNat/2147483648=if v.getLsbD 31=true then 1 else 0:=by
 have h:=v.isLt;unfold BitVec.getLsbD;rw[Nat.testBit_eq_decide_div_mod_eq];have e:(2:Nat)^31=2147483648:=rfl;rw[e];by_cases h1:v.toNat/2147483648 % 2=1
 ·rw[Xa h1];simp;omega
 ·rw[Xb h1];simp;omega
theorem Zig {x:Int}(h0:0≤x) (h1:x<4294967296):(BitVec.ofInt 32 x).getLsbD 31=decide (2147483648≤x):=by
 have e:(BitVec.ofInt 32 x).toNat=x.toNat:=by simp;omega
 unfold BitVec.getLsbD;rw[e,Nat.testBit_eq_decide_div_mod_eq];have e2:(2:Nat)^31=2147483648:=rfl;rw[e2];by_cases h:2147483648≤x
 ·rw[Xa h];exact Xa (by omega)
 ·rw[Xb h];exact Xb (by omega)
def ZfV (x y c:Int):Int:=(x-y-c) % 4294967296
def Zj7 (x y c:Int):Int:=if x<y+c then 1 else 0
theorem Zpo {x y c:Int}(hx:0≤x∧x<4294967296) (hy:0≤y∧y<4294967296) (hc:0≤c∧c≤1):ZyU x y c=ZfV x y c∧Z38 x y c=Zj7 x y c:=by
 have e1:ZyU x y c=ZfV x y c:=by
  unfold ZyU ZfV;rw[ZgJ,ZgJ];omega
 refine⟨e1,?_⟩;have d0:0≤ZfV x y c∧ZfV x y c<4294967296:=by unfold ZfV;omega
 unfold Z38;rw[e1];unfold brr bnd bnt bxr;simp only[Zj6];rw[Zpn,show (2:Int)^min ((31:Int).toNat) 32=2147483648 from rfl,Int.fdiv_eq_ediv_of_nonneg _ (by omega)];have key:=ZtS ((BitVec.ofInt 32 4294967295 ^^^ BitVec.ofInt 32 x) &&& BitVec.ofInt 32 y ||| (BitVec.ofInt 32 4294967295 ^^^ (BitVec.ofInt 32 x ^^^ BitVec.ofInt 32 y)) &&& BitVec.ofInt 32 (ZfV x y c));simp only[BitVec.getLsbD_or,BitVec.getLsbD_and,BitVec.getLsbD_xor,Zig hx.1 hx.2,Zig hy.1 hy.2,Zig d0.1 d0.2,Zig (x:=4294967295) (by omega) (by omega)] at key;rw[show decide ((2147483648:Int)≤4294967295)=true from rfl] at key;generalize hV:((BitVec.ofInt 32 4294967295 ^^^ BitVec.ofInt 32 x) &&& BitVec.ofInt 32 y ||| (BitVec.ofInt 32 4294967295 ^^^ (BitVec.ofInt 32 x ^^^ BitVec.ofInt 32 y)) &&& BitVec.ofInt 32 (ZfV x y c)).toNat=V at*;have cast:((V:Nat):Int)/2147483648=((V/2147483648:Nat):Int):=by omega
 rw[cast,key];unfold Zj7;unfold ZfV at*;by_cases a1:2147483648≤x<;>by_cases a2:2147483648≤y<;>by_cases a3:2147483648≤(x-y-c) % 4294967296<;>simp only[a1,a2,a3,decide_true,decide_false]<;>split<;>split<;>simp_all<;>omega
def ZyV (x y c:Int):Value:= .tuple #[uu (ZfV x y c),uu (Zj7 x y c)]
def Zlf:Ans:=fun vals s=>
 match vals with
 | [.int .u32 x,.int .u32 y,.int .u32 c]=>some (ZyV x y c,s,[(wd4 x y c,true)])
 | _=>none
theorem Zlg:ZC 215 Zlf:=by
 intro vals s v s' lg h hl w;unfold Zlf at h;split at h
 ·rename_i x y c;cases h;have hr:=hl _ Xf;simp only[wd4,Xi] at hr;obtain⟨e1,e2⟩:=Zpo hr.1 hr.2.1 hr.2.2;have:=Zb (Zd Zh) (Zj5 x y c) (Z7 (by rfl)) (by rfl) (by rfl) w;rw[e1,e2] at this;exact this
 ·cases h
def Zih:Con:=alt 215 Zlf Zn
theorem Zc2:ConOk Zih:=Zr func215 rfl Zlg Zh
def cpS (la:List Value) (o n:Nat):List Value:=(List.replicate ((n:Int)).toNat (uu 0)).take 0++(la.drop o).take (Nat.min n ((n:Int)).toNat)++(List.replicate ((n:Int)).toNat (uu 0)).drop (0+Nat.min n ((n:Int)).toNat)
def Z39 (la:List Value) (o n:Nat):Bool:= !(Zai tR) && !(ro tU) && Nat.ble (o+Nat.min n ((n:Int)).toNat) la.length && Nat.ble (0+Nat.min n ((n:Int)).toNat) (List.replicate ((n:Int)).toNat (uu 0)).length && ((la.drop o).take (Nat.min n ((n:Int)).toNat)).all one
end Go.Proofs.YtgefjidphfdhdaaGreatDoor.Na
namespace Go.Nt
theorem ZfW {L:List Int}(h:wds L) (h0:0<L.length) (ht:L.getD (L.length-1) 0≠0):4294967296^(L.length-1)≤vN L:=by
 induction L with
 | nil=>simp at h0
 | cons x r ih=>
  obtain⟨h1,h2⟩:=zL h;cases r with
  | nil=>
   simp at ht ⊢;simp [vN];omega
  | cons y r=>
   have:=ih h2 (by simp) (by simpa using ht);simp only[List.length_cons,Nat.add_sub_cancel] at this ⊢;rw[pw];have e:vN (x::y::r)=x+4294967296*vN (y::r):=rfl;rw[e];omega
theorem Zae {L:List Int}{k:Nat}(h:k<L.length):L.take (k+1)=L.take k++[L.getD k 0]:=by
 rw[List.take_add_one,List.getElem?_eq_getElem h];simp [List.getD,List.getElem?_eq_getElem h]
theorem Zcc {L:List Int}(h:wds L) (k:Nat):wds (L.take k):=fun x hx=>h x (List.mem_of_mem_take hx)
theorem Zev {L M:List Int}(hL:wds L) (hM:wds M):∀ k,k≤L.length→k≤M.length→(zS L M k<0↔vN (L.take k)<vN (M.take k))∧(zS L M k=0↔vN (L.take k)=vN (M.take k))
 | 0,_,_=>by simp [zS,vN]
 | k+1,h1,h2=>by
  have ih:=Zev hL hM k (by omega) (by omega);have bL:=Zax (L.take k) (Zcc hL k);have bM:=Zax (M.take k) (Zcc hM k);have lL:(L.take k).length=k:=by simp;omega
  have lM:(M.take k).length=k:=by simp;omega
  rw[lL] at bL;rw[lM] at bM;rw[Zae (by omega:k<L.length),Zae (by omega:k<M.length),zd,zd,lL,lM];simp only[zS];generalize L.getD k 0=x;generalize M.getD k 0=y;have hp:=Zad k;by_cases hxy:x=y
  ·subst hxy;rw[if_pos rfl];omega
  ·rw[if_neg hxy];by_cases hlt:x<y
   ·rw[if_pos hlt];have:4294967296^k*x+4294967296^k≤4294967296^k*y:=by
     have:=Int.mul_le_mul_of_nonneg_left (show x+1≤y by omega) (Int.le_of_lt hp);rw[Int.mul_add,Int.mul_one] at this;exact this
    omega
   ·rw[if_neg hlt];have:4294967296^k*y+4294967296^k≤4294967296^k*x:=by
     have:=Int.mul_le_mul_of_nonneg_left (show y+1≤x by omega) (Int.le_of_lt hp);rw[Int.mul_add,Int.mul_one] at this;exact this
    omega
def Za9 (L:List Int):Prop:=wds L∧(L.length=0∨L.getD (L.length-1) 0≠0)
theorem Zii {L M:List Int}(hL:Za9 L) (hM:Za9 M):(ZbG L M<0↔vN L<vN M)∧(ZbG L M=0↔vN L=vN M):=by
 obtain⟨wL,tL⟩:=hL;obtain⟨wM,tM⟩:=hM;unfold ZbG;by_cases hl:L.length=M.length
 ·rw[if_pos hl];have:=Zev wL wM L.length (Nat.le_refl _) (by omega);rw[List.take_length,hl,List.take_length] at this;rw[hl];exact this
 ·rw[if_neg hl];have bL:=Zax L wL;have bM:=Zax M wM;by_cases hlt:L.length<M.length
  ·rw[if_pos hlt];have h1:=ZfW wM (by omega) (by rcases tM with h | h;omega;exact h);have h2:=Zpm (show L.length≤M.length-1 by omega);omega
  ·rw[if_neg hlt];have h1:=ZfW wL (by omega) (by rcases tL with h | h;omega;exact h);have h2:=Zpm (show M.length≤L.length-1 by omega);omega
end Go.Nt
namespace Go.Proofs.YtgefjidphfdhdaaGreatDoor.Na
open Go.KRun Go.Nt
set_option maxRecDepth 100000
theorem ZfX {x y c:Int}(hx:0≤x∧x<4294967296) (hy:0≤y∧y<4294967296) (hc:0≤c∧c≤1):(0≤ZfV x y c∧ZfV x y c<4294967296)∧(0≤Zj7 x y c∧Zj7 x y c≤1)∧x-y-c=ZfV x y c-4294967296*Zj7 x y c:=by
 unfold ZfV Zj7;split<;>omega
theorem Zsk {la:List Value}{o:Nat}{L:List Int}(hR:Row la o L):cpS la o L.length=wU L:=by
 unfold cpS;rw[Xg,show Nat.min L.length L.length=L.length from by simp];have e1:(la.drop o).take L.length=wU L:=hR.cut;rw[e1,Nat.zero_add,List.take_zero,List.nil_append,List.drop_replicate,Nat.sub_self];simp
theorem ZtT {la:List Value}{o:Nat}{L:List Int}(hR:Row la o L):Z39 la o L.length=true:=by
 unfold Z39;rw[Xg,show Nat.min L.length L.length=L.length from by simp];have e1:(la.drop o).take L.length=wU L:=hR.cut;rw[e1,Zd0,Zd5];have h1:Nat.ble (o+L.length) la.length=true:=Nat.ble_eq_true_of_le hR.len;have h2:Nat.ble (0+L.length) (List.replicate L.length (uu 0)).length=true:=Nat.ble_eq_true_of_le (by simp);have h3:((wU L).all one)=true:=by
  unfold wU;rw[List.all_eq_true];intro v hv;obtain⟨x,_,rfl⟩:=List.mem_map.1 hv;rfl
 rw[h1,h2,h3];rfl
theorem Zc3 {L:List Int}(hw:wds L) (h:ZH L=false):Za9 L:=by
 unfold ZH at h;simp only[Bool.or_eq_false_iff,decide_eq_false_iff_not,Bool.and_eq_false_iff,beq_eq_false_iff_ne,ne_eq] at h;refine⟨hw,?_⟩;rcases h.2 with h | h
 ·exact .inl (by omega)
 ·exact .inr h
theorem Zlh {L M:List Int}(hL:Za9 L) (hM:Za9 M) (h:vN M≤vN L):M.length≤L.length:=by
 rcases Nat.lt_or_ge L.length M.length with hlt | hge
 ·exfalso
  have h1:=ZfW hM.1 (by omega) (by rcases hM.2 with h | h;omega;exact h);have h2:=Zpm (show L.length≤M.length-1 by omega);have:=Zax L hL.1;omega
 ·exact hge
end Go.Proofs.YtgefjidphfdhdaaGreatDoor.Na
namespace Go.KRun
open Go.RowKit
theorem ZtU {m:Mp}{B:Nat}{t t':List Value}{h h':Hp}{s:List Dec}{a:Act}{w:World}(R:Rel m B (t,h,s) a w) (f:Nat→Nat) (hl:h'.l.length=h'.n)
  (hb:∀ i x,h'.blk? i=some x→(∀ v∈x.1,still v=true)∧∃ y r,h.blk? (f i)=some y∧y.2=x.2∧y.1=x.1++r)
  (hi:∀ i j x y,h'.blk? i=some x→h'.blk? j=some y→ro x.2=false→ro y.2=false→f i=f j→i=j)
  (ht:t'.map (mv fun i=>m (f i))=t.map (mv m)) (hw:∀ v∈t',lt h'.n v=true):Rel (fun i=>m (f i)) B (t',h',s) a w:=by
 have E:=R.emb;refine⟨by rw[R.tmps];simp only;rw[ht],R.dfr,?_,hw⟩;refine⟨hl,?_,?_,?_,?_,?_,E.base,E.ice,?_⟩
 ·intro b x hx ht;obtain⟨q1,y,r,q2,q3,q4⟩:=hb b x hx;obtain⟨r0,z,e1,e2,e3⟩:=E.lies (f b) y q2 (by rw[q3];exact ht);rw[q4,List.map_append,Zdr (m':=fun i=>m (f i)) q1] at e1 e2;refine⟨r.map (mv1 m)++r0,z,by rw[← e1];simp;omega,by rw[e2,List.append_assoc],by rw[← q3];exact e3⟩
 ·intro b x hx hr;obtain⟨_,y,r,q2,q3,_⟩:=hb b x hx;exact E.low (f b) y q2 (by rw[q3];exact hr)
 ·intro b x hx ht hr;obtain⟨_,y,r,q2,q3,_⟩:=hb b x hx;exact E.ros (f b) y q2 (by rw[q3];exact ht) (by rw[q3];exact hr)
 ·intro b b' x x' hx hx' hr hr' he;obtain⟨_,y,r,q2,q3,_⟩:=hb b x hx;obtain⟨_,y',r',q2',q3',_⟩:=hb b' x' hx';exact hi b b' x x' hx hx' hr hr' (E.inj _ _ y y' q2 q2' (by rw[q3];exact hr) (by rw[q3'];exact hr') he)
 ·intro b x hx v hv;exact ZY (Nat.lt_of_le_of_lt (Nat.zero_le _) (Hp.blk_lt hx)) ((hb b x hx).1 v hv)
 ·intro b x hx ha;obtain⟨q1,y,r,q2,q3,q4⟩:=hb b x hx;obtain⟨e1,r0,t0,z,e2,e3⟩:=E.abs (f b) y q2 (by rw[q3];exact ha);rw[q3] at e1 e2 e3;rw[q4,List.map_append,Zdr (m':=fun i=>m (f i)) q1] at e2 e3;exact⟨e1,r.map (mv1 m)++r0,t0,z,by rw[e2,List.append_assoc],by rw[List.length_append];rw[List.length_append] at e3;omega⟩
theorem Z6W {m:Mp}(f:Nat→Nat) {front front' rest:List Value}(h:front'.map (rn f)=front):(front'++rest.map (fun v=>Value.iface ZX (mv m v))).map (mv fun i=>m (f i))=(front++rest).map (mv m):=by
 rw[List.map_append,List.map_append,← h,List.map_map,List.map_map];congr 1
 ·exact List.map_congr_left fun v _=>(Zcx m f v).symm
theorem RunsW.small {T:Tab}{c:Code}{x:Lf}{P:Ex→Lf→Prop}(hr:RunsW T c x P) {P':Ex→Lf→Prop}
  (hp:∀ e y,P e y→P' e y∨∃ (front front' rest:List Value) (h h':Hp) (s:List Dec) (f:Nat→Nat),y=(front++rest,h,s)∧front'.map (rn f)=front∧h'.l.length=h'.n∧0<h'.n∧
   (∀ i x,h'.blk? i=some x→(∀ v∈x.1,still v=true)∧∃ y r,h.blk? (f i)=some y∧y.2=x.2∧y.1=x.1++r)∧
   (∀ i j x y,h'.blk? i=some x→h'.blk? j=some y→ro x.2=false→ro y.2=false→f i=f j→i=j)∧(∀ v∈front',lt h'.n v=true)∧∀ g,P' e (front'++tl rest.length g,h',s)):RunsW T c x P':=by
 intro m B a w R Q hQ;refine hr m B a w R Q fun e y he m' a' w' R' hb'=> ?_;rcases hp e y he with h1 | ⟨front,front',rest,h,h',s,f,rfl,e1,e2,e3,e4,e5,e6,e7⟩
 ·exact hQ e y h1 m' a' w' R' hb'
 ·obtain⟨g,hg⟩:=ZoU (J:=rest.map (fun v=>Value.iface ZX (mv m' v))) (n:=rest.length) (by simp);refine hQ e _ (e7 g) _ a' w' (ZtU R' f e2 e4 e5 (by rw[← hg];exact Z6W f e1) ?_) hb';intro v hv;rw[← hg] at hv;rcases List.mem_append.1 hv with hv | hv
  ·exact e6 v hv
  ·obtain⟨u,_,rfl⟩:=List.mem_map.1 hv;simp [lt,lt2,lt1,e3,ZX]
theorem RunsW.forLoop {T:Tab}{c:Code}{id:Nat}{x:Lf}{P:Lf→Prop}{R:Lf→Prop}(Inv:Nat→Lf→Prop)
  (round:∀ n x,Inv n x→RunsW T c x fun e y=>match e with | none=>∃ n',n'<n∧Inv n' y | some none=>R y | some (some id')=>id'=id∧P y) {n:Nat}(h0:Inv n x):
  RunsW T (.block id (.loop c)) x fun e y=>match e with | none=>P y | some none=>R y | some (some _)=>False:=by
 refine RunsW.block (P1:=fun e y=>match e with | none=>False | some none=>R y | some (some id')=>id'=id∧P y) ?_ (fun y he=>he.elim) (fun y he=>he) (fun y he=>he.2) (fun id' y hid he=>absurd he.1 hid);refine RunsW.loop Inv (fun n x hI=>(round n x hI).mono fun e y he=> ?_) h0
 match e,he with
 | none,he=>exact he
 | some none,he=>exact he
 | some (some id'),he=>exact he
theorem Z0 {T:Tab}(hT:TabOk T) {N:Nat}{c:Code}{t:List Value}{h h':Hp}{s s0:List Dec}{k n:Nat}{e:Ex}{front:List Value}{cs:Log}(hG:Zk (evC T N false c (t,h,s) ⟨[],[],[]⟩) k n e front h' cs) (hcs:Zo cs):
  RunsW T c (t,h,s0) fun e' y=>e'=e∧(∃ g,y.1=front++tl n g)∧y.2.1=h':=(Zc hT hG hcs).w
theorem ZyW (n:Nat) (g:Nat→Value):(tl n g).length=n:=by simp [tl]
def Zli (k b:Nat) (i:Nat):Nat:=if Nat.blt i k=true then i else b
theorem ZtV {base:List (List Value×TypeId)}{k:Nat}(hk:base.length=k) {y:List Value×TypeId}{i:Nat}{z:List Value×TypeId}(h:(⟨k+1,y::base⟩:Hp).blk? i=some z):(i<k∧(⟨k,base⟩:Hp).blk? i=some z)∨(i=k∧z=y):=by
 have hi:i<k+1:=Hp.blk_lt h;by_cases h0:i=k
 ·subst h0;have:(⟨i+1,y::base⟩:Hp).blk? i=some y:=by
   unfold Hp.blk?;rw[if_pos (Zl.2 (by show i<i+1;omega))];show (y::base)[i+1-1-i]? =some y;rw[show i+1-1-i=0 from by omega];rfl
  rw[this] at h;exact .inr ⟨rfl,(Option.some.inj h).symm⟩
 ·refine .inl ⟨by omega,?_⟩;unfold Hp.blk? at h ⊢;rw[if_pos (Zl.2 (by show i<k+1;omega))] at h;rw[if_pos (Zl.2 (by show i<k;omega))];have e:k+1-1-i=(k-1-i)+1:=by omega
  have h':(y::base)[k+1-1-i]? =some z:=h;rw[e,List.getElem?_cons_succ] at h';exact h'
theorem RunsW.kept {T:Tab}{c:Code}{x0:Lf}{ex:Ex}{front front':List Value}{n k b:Nat}{h:Hp}{base:List (List Value×TypeId)}{y:List Value×TypeId}(hr:RunsW T c x0 fun e z=>e=ex∧(∃ g,z.1=front++tl n g)∧z.2.1=h)
  (hk:base.length=k) (hf:front'.map (rn (Zli k b))=front) (hx:∀ i x,(⟨k,base⟩:Hp).blk? i=some x→h.blk? i=some x∧∀ v∈x.1,still v=true) (hy:h.blk? b=some y) (hb:k≤b) (sy:∀ v∈y.1,still v=true) (hw:∀ v∈front',lt (k+1) v=true):
  RunsW T c x0 fun e z=>e=ex∧(∃ g,z.1=front'++tl n g)∧z.2.1=⟨k+1,y::base⟩:=by
 refine hr.small fun e z he=> .inr ?_;obtain⟨rfl,⟨g,h1⟩,h2⟩:=he;obtain⟨t,h',s⟩:=z;simp only at h1 h2;subst h1 h2;refine⟨front,front',tl n g,h',⟨k+1,y::base⟩,s,Zli k b,rfl,hf,by simp [hk],Nat.succ_pos _,fun i z hz=> ?_,fun i j u v hi hj _ _ hij=> ?_,hw,fun g'=>⟨rfl,⟨g',by rw[ZyW]⟩,rfl⟩⟩
 ·rcases ZtV hk hz with ⟨hi,hz'⟩ | ⟨rfl,rfl⟩
  ·obtain⟨q1,q2⟩:=hx i z hz';exact⟨q2,z,[],by unfold Zli;rw[if_pos (Zl.2 hi)];exact q1,rfl,by simp⟩
  ·exact⟨sy,z,[],by unfold Zli;rw[if_neg (by rw[Zl];omega)];exact hy,rfl,by simp⟩
 ·unfold Zli at hij;rcases ZtV hk hi with ⟨h1,_⟩ | ⟨rfl,_⟩<;>rcases ZtV hk hj with ⟨h2,_⟩ | ⟨rfl,_⟩
  ·rw[if_pos (Zl.2 h1),if_pos (Zl.2 h2)] at hij;exact hij
  ·rw[if_pos (Zl.2 h1),if_neg (by rw[Zl];omega)] at hij;omega
  ·rw[if_pos (Zl.2 h2),if_neg (by rw[Zl];omega)] at hij;omega
  ·rfl
theorem zV {T:Tab}{f:Nat}{F:Func}{c:Code}(hF:T.P.funcs[f]? =some F) (hc:F.body=some c) {h0:Hp}(hr:h0.rows) {vals:List Value}(hvals:∀ v∈vals,lt h0.n v=true) {v:Value}(hv:lt 0 v=true)
  (hrun:RunsW T c (vals++List.replicate (F.ntmps-vals.length) undef,h0,[]) fun e y=>(e=none∨e=some none)∧zE T.P F y.1 y.2.1=some v)
  {m:Mp}{B:Nat}{h:Hp}{w:World}(E:Emb m B h w) {s:Nat→Nat}(hf:h0.fits s h):
  Calls T.P f ((vals.map (rn s)).map (mv m)).toArray w fun e w'=>∃ m',e= .returned (mv m' v)∧Came m B h w v h m' w':=by
 have E0:=E.small hr hf;have ev:(vals.map (rn s)).map (mv m)=vals.map (mv fun i=>m (s i)):=by
  rw[List.map_map];exact List.map_congr_left fun y _=>Zcx m s y
 rw[ev];refine calls_of_wp hF hc ?_;have R:Rel (fun i=>m (s i)) w.heap.size (vals++List.replicate (F.ntmps-vals.length) undef,h0,[]) {tmps:=(vals.map (mv fun i=>m (s i))).toArray++Array.replicate (F.ntmps-(vals.map (mv fun i=>m (s i))).toArray.size) undef,defers:=[]} w:=by
  refine⟨?_,rfl,E0,?_⟩
  ·simp [ZS]
  ·intro y hy;rcases List.mem_append.1 hy with hy | hy
   ·exact hvals y hy
   ·rw[List.eq_of_mem_replicate hy];simp [undef,lt]
 refine hrun _ _ _ w R _ fun e y he m1 a' w' k2 k3=> ?_;obtain⟨hex,hres⟩:=he;obtain⟨r1,r2⟩:=zx k2.emb k2.wf hres;rw[← k2.tmps,Z2 hv] at r1;have td:zi w w':=⟨k3,fun k h1 h2=>k2.emb.ice k h1 h2⟩;obtain⟨E',hb⟩:=ZQ E td;have post:a'.defers=[]∧∃ v',(results F a'.tmps).run T.P w'= .ok v' w'∧∃ m',Ending.returned v'= .returned (mv m' v)∧Came m B h w v h m' w':=
  ⟨k2.dfr,_,r1,m,by rw[Z2 hv],⟨Agree.refl _ _,E',hb,Nat.le_refl _,zh (Nat.zero_le _) hv⟩⟩
 rcases hex with rfl | rfl<;>exact post
end Go.KRun
namespace Go.Nt
def vb (b:Nat):List Int→Nat
 | []=>0
 | x::l=>x.toNat+b*vb b l
def db (b V:Nat):List Int:=if _h:V=0∨b<2 then [] else ((V % b:Nat):Int)::db b (V/b)
 termination_by V
 decreasing_by exact Nat.div_lt_self (by omega) (by omega)
abbrev Dg (b:Nat) (x:Int):Prop:=0≤x∧x<b
theorem zp (b:Nat):db b 0=[]:=by rw[db];simp
theorem Zcd {b V:Nat}(hb:2≤b) (hV:V≠0):db b V=((V % b:Nat):Int)::db b (V/b):=by
 rw[db];rw[dif_neg (by omega)]
theorem Zbi {b:Nat}(hb:2≤b) (V:Nat):vb b (db b V)=V:=by
 induction V using Nat.strongRecOn with
 | ind V ih=>
  by_cases hV:V=0
  ·subst hV;rw[zp];rfl
  ·rw[Zcd hb hV];simp only[vb];rw[ih (V/b) (Nat.div_lt_self (by omega) (by omega)),Xg];exact Nat.mod_add_div V b
theorem ZeM {b:Nat}(hb:2≤b) (V:Nat):∀ x∈db b V,Dg b x:=by
 induction V using Nat.strongRecOn with
 | ind V ih=>
  by_cases hV:V=0
  ·subst hV;rw[zp];intro x hx;cases hx
  ·rw[Zcd hb hV];intro x hx;rcases List.mem_cons.1 hx with rfl | hx
   ·have:=Nat.mod_lt V (show b>0 by omega);exact⟨by omega,by omega⟩
   ·exact ih (V/b) (Nat.div_lt_self (by omega) (by omega)) x hx
theorem Zsl {b V:Nat}(hb:2≤b):db b V=[]↔V=0:=by
 constructor
 ·intro h;by_cases hV:V=0
  ·exact hV
  ·rw[Zcd hb hV] at h;cases h
 ·rintro rfl;exact zp b
theorem Zbj {b:Nat}(hb:2≤b):∀ (L:List Int),(∀ x∈L,Dg b x)→L.take (Zg L)=db b (vb b L)
 | [],_=>by simp [vb,zp]
 | x::r,h=>by
  have ih:=Zbj hb r (fun y hy=>h y (Xd _ hy));have hx:=h x (Xe);have hxn:((x.toNat:Nat):Int)=x:=Int.toNat_of_nonneg hx.1;have hlt:x.toNat<b:=by omega
  have e1:(x.toNat+b*vb b r) % b=x.toNat:=by rw[Nat.add_mul_mod_self_left,Nat.mod_eq_of_lt hlt]
  have e2:(x.toNat+b*vb b r)/b=vb b r:=by rw[Nat.add_mul_div_left _ _ (by omega),Nat.div_eq_of_lt hlt,Nat.zero_add]
  unfold Zg;by_cases h0:Zg r=0
  ·rw[if_pos h0];rw[h0,List.take_zero] at ih;have hv:vb b r=0:=(Zsl hb).1 ih.symm;by_cases hx0:x=0
   ·rw[if_pos hx0];simp only[List.take_zero,vb,hv,hx0];simp [zp]
   ·rw[if_neg hx0];have hx1:x.toNat≠0:=by omega
    show [x]=_;simp only[vb];rw[Zcd hb (by rw[hv];omega),e1,e2,hv,zp,hxn]
  ·rw[if_neg h0];have hv:vb b r≠0:=fun hv=>by
    rw[hv,zp] at ih;have hl:=congrArg List.length ih;have:=za r;simp at hl;rcases hl with hl | hl
    ·exact h0 hl
    ·subst hl;exact h0 rfl
   have hpos:0<b*vb b r:=Nat.mul_pos (by omega) (by omega);show x::r.take (Zg r)=_;simp only[vb];rw[Zcd hb (by omega),e1,e2,hxn,ih]
theorem Zpp {b:Nat}(hb:2≤b) {L:List Int}(h:∀ x∈L,Dg b x):Zg L=(db b (vb b L)).length:=by
 rw[← Zbj hb L h];have:=za L;simp;omega
def ZtW (b:Nat) (L:List Int):Prop:=(∀ x∈L,Dg b x)∧Zg L=L.length
theorem Zlj {b:Nat}(hb:2≤b) (V:Nat):ZtW b (db b V):=by
 have h:=ZeM hb V;refine⟨h,?_⟩;have:=Zpp hb h;rw[Zbi hb] at this;exact this
theorem ZyX {b:Nat}(hb:2≤b) {L:List Int}(h:ZtW b L):db b (vb b L)=L:=by
 rw[← Zbj hb L h.1,h.2,List.take_length]
theorem ZcL {b:Nat}(hb:2≤b):∀ (k V:Nat),V<b^k→(db b V).length≤k
 | 0,V,h=>by
  have:V=0:=by simpa using h
  subst this;rw[zp];exact Nat.le_refl _
 | k+1,V,h=>by
  by_cases hV:V=0
  ·subst hV;rw[zp];exact Nat.zero_le _
  ·rw[Zcd hb hV];have:V/b<b^k:=Nat.div_lt_of_lt_mul (by rw[Nat.pow_succ] at h;rw[Nat.mul_comm];exact h);have:=ZcL hb k (V/b) this;simp;omega
theorem Zd6 {b:Nat}(hb:2≤b):∀ (L:List Int),(∀ x∈L,Dg b x)→vb b L<b^L.length
 | [],_=>by simp [vb]
 | x::r,h=>by
  have ih:=Zd6 hb r (fun y hy=>h y (Xd _ hy));have hx:=h x (Xe);have hlt:x.toNat<b:=by omega
  simp only[vb,List.length_cons,Nat.pow_succ]
  calc x.toNat+b*vb b r<b+b*vb b r:=by omega
   _=b*(vb b r+1):=by rw[Nat.mul_add,Nat.mul_one,Nat.add_comm]
   _≤b*b^r.length:=Nat.mul_le_mul_left _ ih
   _=b^r.length*b:=Nat.mul_comm _ _
theorem Zce (b:Nat):∀ (L M:List Int),vb b (L++M)=vb b L+b^L.length*vb b M
 | [],M=>by simp [vb]
 | x::r,M=>by
  simp only[List.cons_append,vb,Zce b r M,List.length_cons,Nat.pow_succ];rw[Nat.mul_add,← Nat.mul_assoc,Nat.mul_comm b (b^r.length)];omega
end Go.Nt
namespace Go.Proofs.YtgefjidphfdhdaaGreatDoor
open Go.KRun Go.Nt
set_option maxRecDepth 100000
def Zpq (o n c:Nat):Bool:=(Z8 c && Nat.ble n c) || (Nat.beq c grown && Nat.beq o 0)
def Zpr (ty:TypeId) (l:List Value) (o n c:Nat):Bool:= !(Zai ty) && Nat.beq (rt ty) tU && Nat.ble (o+n) l.length && Nat.blt n 4611686018427387904 && Zpq o n c && (ZbE l o n).all isU && l.all still
theorem ZtX {ty:TypeId}{l:List Value}{o n c:Nat}(h:Zpr ty l o n c=true):Row l o (Zt l o n)∧(Zt l o n).length=n∧n<4611686018427387904∧Zpq o n c=true∧Zai ty=false∧rt ty=tU∧∀ v∈l,still v=true:=by
 unfold Zpr at h;simp only[Xh,Bool.not_eq_true'] at h;obtain⟨⟨⟨⟨⟨⟨h1,h2⟩,h3⟩,h4⟩,h5⟩,h6⟩,h7⟩:=h;have h2:=Xj h2;have h3:=Nat.le_of_ble_eq_true h3;have h4:=Zl.1 h4;have hlen:(Zt l o n).length=n:=by unfold Zt ZbE;simp;omega
 refine⟨⟨by rw[hlen];exact h3,by rw[hlen];exact Zes h6,fun x hx=> ?_⟩,hlen,h4,h5,h1,h2,List.all_eq_true.1 h7⟩;unfold Zt at hx;obtain⟨v,hv,rfl⟩:=List.mem_map.1 hx;have:=ZeJ (List.all_eq_true.1 h6 v hv);exact⟨this.2.1,this.2.2⟩
end Go.Proofs.YtgefjidphfdhdaaGreatDoor
namespace Go.Nt
theorem ZyY (b:Nat) (x:Int):vb b [x]=x.toNat:=by simp [vb]
theorem ZgZ (b:Nat) (L:List Int) (i:Nat):vb b (L.take (i+1))=vb b (L.take i)+b^i*(L.getD i 0).toNat:=by
 by_cases h:i<L.length
 ·have e:L.take (i+1)=L.take i++[L.getD i 0]:=by
   rw[List.take_add_one,List.getElem?_eq_getElem h];simp [List.getD,List.getElem?_eq_getElem h]
  rw[e,Zce,ZyY,List.length_take];rw[show min i L.length=i from by omega]
 ·rw[List.take_of_length_le (by omega),List.take_of_length_le (by omega)];simp [List.getD,List.getElem?_eq_none (show L.length≤i by omega)]
end Go.Nt
namespace Go.Proofs.YtgefjidphfdhdaaGreatDoor
open Go.KRun Go.Nt
set_option maxRecDepth 100000
theorem Zb1 (L:List Int):∀ v∈wU L,still v=true:=fun v hv=>by
 unfold wU at hv;obtain⟨x,_,rfl⟩:=List.mem_map.1 hv;rfl
theorem ZyZ (L:List Int):(wU L).all one=true:=List.all_eq_true.2 fun v hv=>by
 unfold wU at hv;obtain⟨x,_,rfl⟩:=List.mem_map.1 hv;rfl
theorem Zcf (L:List Int):(wU L).length=L.length:=by simp [wU]
theorem Zza (L:List Int):Zt (wU L) 0 L.length=L:=by
 unfold Zt ZbE;rw[List.drop_zero,← Zcf,List.take_length];unfold wU;rw[List.map_map];exact List.map_id' _
theorem ZtY (L:List Int):∀ u∈wU L,lt1 0 u=true:=fun v hv=>by
 unfold wU at hv;obtain⟨x,_,rfl⟩:=List.mem_map.1 hv;rfl
def Zm (h:Hp) (p:Option Addr) (n:Nat):List Int:=
 match p with
 | none=>[]
 | some a=>
  match h.blk? a.block with
  | some x=>Zt x.1 a.off n
  | none=>[]
def Zo1 (h:Hp) (p:Option Addr) (n c:Nat):Bool:=
 match p with
 | none=>Nat.beq n 0 && Nat.beq c 0
 | some a=>
  match a.spot,h.blk? a.block with
  | none,some x=>Zpr x.2 x.1 a.off n c && x.1.all still
  | _,_=>false
theorem Zj8 {h:Hp}{p:Option Addr}{n c:Nat}(hr:Zo1 h p n c=true):(p=none∧n=0∧c=0∧Zm h p n=[])∨∃ b o x,p=some ⟨b,o,none⟩∧h.blk? b=some x∧Zpr x.2 x.1 o n c=true∧(∀ v∈x.1,still v=true)∧Zm h p n=Zt x.1 o n:=by
 unfold Zo1 at hr;split at hr
 ·simp only[Xh] at hr;exact .inl ⟨rfl,Xj hr.1,Xj hr.2,rfl⟩
 ·rename_i a;split at hr
  ·rename_i x hs hx;simp only[Xh] at hr;obtain⟨b,o,sp⟩:=a;simp only at hs hx;subst hs;exact .inr ⟨b,o,x,rfl,hx,hr.1,List.all_eq_true.1 hr.2,by simp [Zm,hx]⟩
  ·cases hr
end Go.Proofs.YtgefjidphfdhdaaGreatDoor
