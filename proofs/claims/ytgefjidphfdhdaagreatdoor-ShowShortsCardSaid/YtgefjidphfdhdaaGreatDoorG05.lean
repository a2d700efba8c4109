/-
  Tab, Hcs, NumN, ConN1, ConN2, ConN3, UuV, ConN4, UuR, RunX, NumO, ConN5, UuW, ConN7, ConN8, NumP, ConN9, ConNA, RunY, NumV
-/
import Derived.Test.YtgefjidphfdhdaaGreatDoorG04
import Derived.Test.YtgefjidphfdhdaaGreatDoorProg
namespace Go.Proofs.YtgefjidphfdhdaaGreatDoor
open Go.Proofs.Tryz
open Go.KRun
theorem Z4F:(prog.funcs.toList.all fun F=> !(F.name== "runtime.NumGoroutine"))=true:=by kernel_rfl
theorem Zdt (f:Nat) (F:Func) (h:prog.funcs[f]? =some F):prog.funcs[f]? =some F∧(F.name== "runtime.NumGoroutine")=false:=
 ⟨h,by simpa using List.all_eq_true.1 Z4F F (by simpa using Array.mem_of_getElem? h)⟩
def Zf:Nat→List Value→Option (Value×Log):=fun f vals=>if f=183 then Z4b vals else none
theorem Zuf {vals:List Value}{v:Value}{lg:Log}(h:Z4b vals=some (v,lg)) (hl:Zx lg) (w:World):(callFunc 183 vals.toArray).run prog w= .ok (.value v) w:=
 Zp6 func183 (by kernel_rfl) (by kernel_rfl) (by kernel_rfl) (by kernel_rfl) h hl w
theorem Zln (f:Nat) (vals:List Value) (v:Value) (lg:Log) (h:Zf f vals=some (v,lg)) (hl:Zx lg) (w:World):(callFunc f vals.toArray).run prog w= .ok (.value v) w:=by
 unfold Zf at h;split at h
 ·rename_i hf;subst hf;exact Zuf h hl w
 ·cases h
abbrev Con:=Nat→List Value→List Dec→Option (Value×List Dec×Log)
structure ConOk (con:Con):Prop where
 fn:∀ f vals s v s' lg,con f vals s=some (v,s',lg)→∃ F,prog.funcs[f]? =some F∧F.body.isSome=true
 calls:∀ f vals s v s' lg,con f vals s=some (v,s',lg)→Zx lg→∀ w,Calls prog f vals.toArray w fun e w'=>e= .returned v∧Za0 w w'
def Zo:Con:=fun _ _ _=>none
theorem Zd:ConOk Zo where
 fn:=fun _ _ _ _ _ _ h=>by simp [Zo] at h
 calls:=fun _ _ _ _ _ _ h=>by simp [Zo] at h
def Zq (P:Program) (ext:Nat→List Value→Option (Value×Log)) (con:Con) (sym:Bool):Tab:={P:=P,fn:=fun f=>P.funcs[f]?,ext:=ext,con:=con,sym:=sym}
theorem mixed:prog.follows .mixedOrders=true:=by kernel_rfl
theorem Zp {con:Con}(h:ConOk con):TabOk (Zq prog Zf con true) where
 mixed:=mixed
 ext:=Zln
 con:=fun f vals s v s' lg hc hl=>⟨by obtain⟨F,h1,h2⟩:=h.fn f vals s v s' lg hc;exact⟨F,(Zdt f F h1).1,(Zdt f F h1).2,h2⟩,h.calls f vals s v s' lg hc hl⟩
 fn:=Zdt
 hc:=fun _ _ _ _ _ _ _ _ h=>by cases h
abbrev Ans:=List Value→List Dec→Option (Value×List Dec×Log)
def zT (f:Nat) (g:Ans):Prop:=∀ vals s v s' lg,g vals s=some (v,s',lg)→Zx lg→∀ w,Calls prog f vals.toArray w fun e w'=>e= .returned v∧Za0 w w'
def alt (f:Nat) (g:Ans) (rest:Con):Con:=fun f' vals s=>if f'=f then g vals s else rest f' vals s
theorem ZM {f:Nat}{g:Ans}{rest:Con}{F:Func}(hf:prog.funcs[f]? =some F) (hb:F.body.isSome=true) (hg:zT f g) (hr:ConOk rest):ConOk (alt f g rest) where
 fn:=fun f' vals s v s' lg h=>by
  unfold alt at h;split at h
  ·rename_i he;subst he;exact⟨F,hf,hb⟩
  ·exact hr.fn _ _ _ _ _ _ h
 calls:=fun f' vals s v s' lg h hl w=>by
  unfold alt at h;split at h
  ·rename_i he;subst he;exact hg _ _ _ _ _ h hl w
  ·exact hr.calls _ _ _ _ _ _ h hl w
end Go.Proofs.YtgefjidphfdhdaaGreatDoor
namespace Go.Proofs.YtgefjidphfdhdaaGreatDoor
open Go.Proofs.Tryz
open Go.IntKind
open Go.KRun
set_option maxRecDepth 100000
theorem Zu {p:Bool×Bool}(h:p.1=p.2):Zx [p]:=fun x hx=>by rw[List.mem_singleton.1 hx];exact h
theorem Zj {p:Bool×Bool}{l:Log}(h:p.1=p.2) (hl:Zx l):Zx (p::l):=fun x hx=>by
 rcases List.mem_cons.1 hx with rfl | hx
 ·exact h
 ·exact hl x hx
theorem Zw {n:Int}(h0: -9223372036854775808≤n) (h1:n≤9223372036854775807):i64.wrap n=n:=by
 simp [IntKind.wrap,IntKind.bits,IntKind.signed];omega
abbrev Hc:=Nat→List Value→Hp→List Dec→Option (Value×Hp×List Dec×Log)
abbrev Zae:=List Value→Hp→List Dec→Option (Value×Hp×List Dec×Log)
def Z6 (f:Nat) (g:Zae):Prop:=∀ vals h s v h' s' lg,g vals h s=some (v,h',s',lg)→Zx lg→∀ m B w,Emb m B h w→(∀ v∈vals,lt h.n v=true)→Calls prog f (vals.map (mv m)).toArray w fun e w'=>∃ m',e= .returned (mv m' v)∧Came m B h w v h' m' w'
structure HcOk (hc:Hc):Prop where
 fn:∀ f vals h s r,hc f vals h s=some r→∃ F,prog.funcs[f]? =some F∧F.body.isSome=true
 calls:∀ f,Z6 f (hc f)
def hcN:Hc:=fun _ _ _ _=>none
theorem zp:HcOk hcN:=⟨fun _ _ _ _ _ h=>(by cases h),fun _ _ _ _ _ _ _ _ h=>(by cases h)⟩
def ZY (f:Nat) (g:Zae) (hc:Hc):Hc:=fun f' vals h s=>if Nat.beq f' f=true then g vals h s else hc f' vals h s
theorem Zt {f:Nat}{F:Func}(hF:prog.funcs[f]? =some F) (hb:F.body.isSome=true) {g:Zae}(hg:Z6 f g) {hc:Hc}(h:HcOk hc):HcOk (ZY f g hc) where
 fn:=fun f' vals h' s r hr=>by
  unfold ZY at hr;split at hr
  ·rename_i e;rw[Xj e];exact⟨F,hF,hb⟩
  ·exact h.fn _ _ _ _ _ hr
 calls:=fun f' vals h' s v h'' s' lg hr=>by
  unfold ZY at hr;split at hr
  ·rename_i e;rw[Xj e];exact hg _ _ _ _ _ _ _ hr
  ·exact h.calls f' _ _ _ _ _ _ _ hr
def Zk (P:Program) (ext:Nat→List Value→Option (Value×Log)) (con:Con) (hc:Hc):Tab:={P:=P,fn:=fun f=>P.funcs[f]?,ext:=ext,con:=con,sym:=true,hc:=hc}
theorem Zh {con:Con}(h:ConOk con) {hc:Hc}(hh:HcOk hc):TabOk (Zk prog Zf con hc) where
 mixed:=mixed
 ext:=Zln
 con:=fun f vals s v s' lg hc hl=>⟨by obtain⟨F,h1,h2⟩:=h.fn f vals s v s' lg hc;exact⟨F,(Zdt f F h1).1,(Zdt f F h1).2,h2⟩,h.calls f vals s v s' lg hc hl⟩
 fn:=Zdt
 hc:=fun f vals h0 s v h' s' lg hr hl=>⟨by obtain⟨F,h1,h2⟩:=hh.fn f vals h0 s _ hr;exact⟨F,(Zdt f F h1).1,(Zdt f F h1).2,h2⟩,hh.calls f vals h0 s v h' s' lg hr hl⟩
end Go.Proofs.YtgefjidphfdhdaaGreatDoor
namespace Go.Nt
def Zi:List Int→Nat
 | []=>0
 | x::r=>if Zi r=0 then (if x=0 then 0 else 1) else Zi r+1
theorem zQ:∀ L:List Int,Zi L≤L.length
 | []=>Nat.le_refl _
 | x::r=>by
  have:=zQ r;unfold Zi;split
  ·split<;>simp
  ·simp;omega
theorem ZeM:∀ (L:List Int) (i:Nat),Zi L≤i→L.getD i 0=0
 | [],i,_=>by simp
 | x::r,i,h=>by
  unfold Zi at h;cases i with
  | zero=>
   split at h
   ·split at h
    ·rename_i h1;simp [h1]
    ·omega
   ·omega
  | succ i=>
   have:=ZeM r i (by split at h<;>(try split at h)<;>omega);simpa using this
theorem Zcw:∀ L:List Int,Zi L=0∨L.getD (Zi L-1) 0≠0
 | []=> .inl rfl
 | x::r=>by
  have ih:=Zcw r;unfold Zi;split
  ·split
   ·exact .inl rfl
   ·rename_i h;exact .inr (by simpa using h)
  ·rename_i h;rcases ih with ih | ih
   ·exact absurd ih h
   ·refine .inr ?_;obtain⟨k,hk⟩:∃ k,Zi r=k+1:=⟨Zi r-1,by omega⟩;rw[hk] at ih ⊢;simpa using ih
theorem ZbQ {L:List Int}{k:Nat}(h1:∀ i,k≤i→L.getD i 0=0) (h2:k=0∨L.getD (k-1) 0≠0):Zi L=k:=by
 rcases Nat.lt_trichotomy (Zi L) k with h | h | h
 ·rcases h2 with h2 | h2
  ·omega
  ·exact absurd (ZeM L (k-1) (by omega)) h2
 ·exact h
 ·rcases Zcw L with h3 | h3
  ·omega
  ·exact absurd (h1 (Zi L-1) (by omega)) h3
def Zaq (L M:List Int):Nat→Int
 | 0=>0
 | k+1=>if L.getD k 0=M.getD k 0 then Zaq L M k else if L.getD k 0<M.getD k 0 then -1 else 1
def Zci (L M:List Int):Int:=if L.length=M.length then Zaq L M L.length else if L.length<M.length then -1 else 1
end Go.Nt
namespace Go.Proofs.YtgefjidphfdhdaaGreatDoor
open Go.Proofs.Tryz
open Go.IntKind
open Go.KRun Go.Nt
set_option maxRecDepth 100000
def wU (L:List Int):List Value:=L.map (Value.int .u32)
def tU:TypeId:=68
def tR:TypeId:=68+zo
theorem Zp7:ro tR=true:=by kernel_rfl
theorem Zp8:ab tR=false:=by kernel_rfl
theorem Zbp:Zad tR=false:=by kernel_rfl
theorem Zp9:rt tR=tU:=by kernel_rfl
def sl (b o n c:Nat):Value:= .slice (some ⟨b,o,none⟩) n c
def Zn:Value:= .slice none 0 0
def ZyI (F:Func):List Code:=[Z2 (Zs F)]
def Zlo (F:Func):Code:=cIn (cIn (Z2 (Z0 (Zs F))))
def Z4G (F:Func):Code:=Z0 (Z0 (Zs F))
theorem Zlp:f131.body=some (ZW (ZyI f131) (.seq (.block 0 (.loop (Zlo f131))) (Z4G f131))):=by kernel_rfl
theorem ZpA (v:Value) (h:Hp):Zg (evL (Zq prog Zf Zo true) 100 (ZyI f131) ([v]++List.replicate 20 undef,h,[]) ⟨[],[],[]⟩) 3 18 none [v,undef,Zn] h []:=by and_intros<;>kernel_rfl
def n1 (n:Nat):Int:=i64.wrap ((n:Int)-1)
theorem Zug (o n c:Nat) (x:Int) (l:List Value) (j1 j2:Value) (g:Nat→Value):GoesE (evC (Zq prog Zf Zo true) 100 false (Zlo f131) ([sl 0 o n c,j1,j2]++tl 18 g,⟨1,[(l,tR)]⟩,[cmp true,at_,val (.int .u32 x),cmp true,num 0]) ⟨[],[],[]⟩) 3 18 none
  [sl 0 o (n1 n).toNat c,j1,j2] ⟨1,[(l,tR)]⟩ [(ZG c,true),(ze 0 (n1 n) c c,true),(decide ((c:Int)=0∧(0:Int)≠0),false),(x==0,true),(Z4 (l[o+(n1 n).toNat*1]?) (.int .u32 x),true),(decide (0≤n1 n∧n1 n<n),true),(decide ((n:Int)>0),true)]:=by unfold GoesE;kernel_rfl
theorem Zlq (j1 j2:Value) (p:Option Addr) (n c:Nat) (h:Hp) (g:Nat→Value):GoesE (evC (Zq prog Zf Zo true) 100 false (Zlo f131) ([.slice p n c,j1,j2]++tl 18 g,h,[cmp false]) ⟨[],[],[]⟩) 3 18 (some (some 0))
  [.slice p n c,j1,j2] h [(decide ((n:Int)>0),false)]:=by unfold GoesE;kernel_rfl
theorem Zlr (o n c:Nat) (x:Int) (l:List Value) (j1 j2:Value) (g:Nat→Value):GoesE (evC (Zq prog Zf Zo true) 100 false (Zlo f131) ([sl 0 o n c,j1,j2]++tl 18 g,⟨1,[(l,tR)]⟩,[cmp true,at_,val (.int .u32 x),cmp false]) ⟨[],[],[]⟩) 3 18 (some (some 0))
  [sl 0 o n c,j1,j2] ⟨1,[(l,tR)]⟩ [(x==0,false),(Z4 (l[o+(n1 n).toNat*1]?) (.int .u32 x),true),(decide (0≤n1 n∧n1 n<n),true),(decide ((n:Int)>0),true)]:=by unfold GoesE;kernel_rfl
theorem ZpB (v j1 j2:Value) (h:Hp) (g:Nat→Value):Zg (evC (Zq prog Zf Zo true) 100 false (Z4G f131) ([v,j1,j2]++tl 18 g,h,[]) ⟨[],[],[]⟩) 3 18 (some none) [v,j1,v] h []:=by and_intros<;>kernel_rfl
def ZpC:Value→Int
 | .int _ n=>n
 | _=>0
def isU:Value→Bool
 | .int .u32 n=>decide (0≤n∧n<4294967296)
 | _=>false
theorem Zfu {v:Value}(h:isU v=true):v= .int .u32 (ZpC v)∧0≤ZpC v∧ZpC v<4294967296:=by
 unfold isU at h;split at h
 ·simp only[Xi] at h;exact⟨rfl,h.1,h.2⟩
 ·cases h
def ZbR (l:List Value) (o n:Nat):List Value:=(l.drop o).take n
def Zz (l:List Value) (o n:Nat):List Int:=(ZbR l o n).map ZpC
def Z8 (ty:TypeId) (l:List Value) (o n c:Nat):Bool:= !(Zad ty) && Nat.beq (rt ty) tU && Nat.ble (o+n) l.length && Nat.ble n c && ZG c && (ZbR l o n).all isU && l.all still
theorem ZeN {l:List Value}{o n:Nat}(h:((ZbR l o n).all isU)=true):ZbR l o n=wU (Zz l o n):=by
 unfold wU Zz;rw[List.map_map];refine (List.map_id' _).symm.trans (List.map_congr_left fun v hv=> ?_);exact (Zfu (List.all_eq_true.1 h v hv)).1
structure Row (l:List Value) (o:Nat) (L:List Int):Prop where
 len:o+L.length≤l.length
 cut:ZbR l o L.length=wU L
 rng:∀ x∈L,0≤x∧x<4294967296
theorem Row.cell {l:List Value}{o:Nat}{L:List Int}(h:Row l o L) {k:Nat}(hk:k<L.length):l[o+k]? =some (.int .u32 (L.getD k 0)):=by
 have e:(ZbR l o L.length)[k]? =(wU L)[k]? :=by rw[h.cut]
 unfold ZbR wU at e;rw[List.getElem?_take,if_pos hk,List.getElem?_drop,List.getElem?_map] at e;rw[e,List.getElem?_eq_getElem hk];simp [List.getD,List.getElem?_eq_getElem hk]
theorem ZH {ty:TypeId}{l:List Value}{o n c:Nat}(h:Z8 ty l o n c=true):Row l o (Zz l o n)∧(Zz l o n).length=n∧n≤c∧ZG c=true∧Zad ty=false∧rt ty=tU∧∀ v∈l,still v=true:=by
 unfold Z8 at h;simp only[Xh,Bool.not_eq_true'] at h;obtain⟨⟨⟨⟨⟨⟨h1,h2⟩,h3⟩,h4⟩,h5⟩,h6⟩,h7⟩:=h;have h2:=Xj h2;have h3:=Nat.le_of_ble_eq_true h3;have h4:=Nat.le_of_ble_eq_true h4;have hlen:(Zz l o n).length=n:=by unfold Zz ZbR;simp;omega
 refine⟨⟨by rw[hlen];exact h3,by rw[hlen];exact ZeN h6,fun x hx=> ?_⟩,hlen,h4,h5,h1,h2,List.all_eq_true.1 h7⟩;unfold Zz at hx;obtain⟨v,hv,rfl⟩:=List.mem_map.1 hx;have:=Zfu (List.all_eq_true.1 h6 v hv);exact⟨this.2.1,this.2.2⟩
theorem Zls {l:List Value}{o c:Nat}{L:List Int}(hR:Row l o L) (hc:ZG c=true) (hn:L.length≤c):
  Runs (Zq prog Zf Zo true) (ZW (ZyI f131) (.seq (.block 0 (.loop (Zlo f131))) (Z4G f131))) ([sl 0 o L.length c]++List.replicate 20 undef,⟨1,[(l,tR)]⟩,[]) fun e y=>(e=none∨e=some none)∧ZV prog f131 y.1 y.2.1=some (sl 0 o (Zi L) c):=by
 have hc':c<4611686018427387904:=Zl.1 hc;refine Z3 (Zp Zd) (ZpA _ _) (fun x hx=>by cases hx) fun g=> ?_;refine Runs.seq (P1:=fun e y=>e=none∧(∃ g,y.1=[sl 0 o (Zi L) c,undef,Zn]++tl 18 g)∧y.2.1=⟨1,[(l,tR)]⟩) ?_ ?_ (fun e y he=>by cases he.1)
 ·refine (Runs.forLoop (P:=fun y=>(∃ g,y.1=[sl 0 o (Zi L) c,undef,Zn]++tl 18 g)∧y.2.1=⟨1,[(l,tR)]⟩) (R:=fun _=>False) (fun n y=>(∃ g,y.1=[sl 0 o n c,undef,Zn]++tl 18 g)∧y.2.1=⟨1,[(l,tR)]⟩∧n≤L.length∧∀ i,n≤i→L.getD i 0=0) ?_ (n:=L.length) ⟨⟨g,rfl⟩,rfl,Nat.le_refl _,fun i hi=>by simp [List.getD,List.getElem?_eq_none hi]⟩).mono fun e y he=> ?_
  ·rintro n ⟨t,h',s⟩ ⟨⟨g,ht⟩,hh,hle,hz⟩;simp only at ht hh;subst ht hh;cases n with
   | zero=>
    refine (Zc (Zp Zd) (Zlq undef Zn (some ⟨0,o,none⟩) 0 c _ g).t (Zu (by rfl))).mono fun e y he=> ?_;obtain⟨rfl,⟨g',h2⟩,h3⟩:=he;have e0:Zi L=0:=ZbQ hz (.inl rfl);exact⟨rfl,⟨g',by rw[h2,e0];rfl⟩,h3⟩
   | succ k=>
    have ek:n1 (k+1)=(k:Int):=by
     unfold n1;rw[Zw (by omega) (by omega)];omega
    have hcell:=hR.cell (k:=k) (by omega);have hce:Z4 (l[o+(n1 (k+1)).toNat*1]?) (.int .u32 (L.getD k 0))=true:=by
     rw[ek,Xg,Nat.mul_one,hcell];simp [Z4]
    have hix:decide (0≤n1 (k+1)∧n1 (k+1)<((k+1:Nat):Int))=true:=by rw[ek];exact Xa (by omega)
    have hgt:decide (((k+1:Nat):Int)>0)=true:=Xa (by omega);by_cases hx:L.getD k 0=0
    ·refine (Zc (Zp Zd) (Zug o (k+1) c (L.getD k 0) l undef Zn g).t (Zj hc (Zj (by
      unfold ze;rw[ek];exact Xa (by omega)) (Zj (Xb (by omega)) (Zj (by rw[hx];rfl) (Zj hce (Zj hix (Zu hgt)))))))).mono fun e y he=> ?_
     obtain⟨rfl,⟨g',h2⟩,h3⟩:=he;rw[ek,Xg] at h2;refine⟨k,by omega,⟨g',h2⟩,h3,by omega,fun i hi=> ?_⟩;rcases Nat.lt_or_ge k i with h | h
     ·exact hz i h
     ·have:i=k:=by omega
      rw[this];exact hx
    ·refine (Zc (Zp Zd) (Zlr o (k+1) c (L.getD k 0) l undef Zn g).t (Zj (by simpa using hx) (Zj hce (Zj hix (Zu hgt))))).mono fun e y he=> ?_;obtain⟨rfl,⟨g',h2⟩,h3⟩:=he;have e0:Zi L=k+1:=ZbQ hz (.inr (by simpa using hx));exact⟨rfl,⟨g',by rw[h2,e0]⟩,h3⟩
  ·match e,he with
   | none,he=>exact⟨rfl,he⟩
 ·rintro⟨t,h',s⟩ ⟨_,⟨g',ht⟩,hh⟩;simp only at ht hh;subst ht hh;refine (Zc (Zp Zd) (ZpB _ undef Zn _ g') (fun x hx=>by cases hx)).mono fun e y he=> ?_;obtain⟨rfl,⟨g2,h2⟩,h3⟩:=he;refine⟨.inr rfl,?_⟩;rw[h2,h3];rfl
theorem ZaH {l:List Value}(h:∀ v∈l,still v=true):(⟨1,[(l,tR)]⟩:Hp).rows:=by
 refine⟨rfl,fun b x hb=> ?_⟩;have hb0:b=0:=by have:b<1:=Hp.blk_lt hb;omega
 subst hb0;have:x=(l,tR):=(Option.some.inj hb).symm;rw[this];exact⟨Zp7,h,Zp8⟩
theorem zS {l:List Value}{h:Hp}{b:Nat}{x:List Value×TypeId}(hb:h.blk? b=some x) (h1:Zad x.2=false) (h2:rt x.2=tU) (e:x.1=l):(⟨1,[(l,tR)]⟩:Hp).fits (fun _=>b) h:=by
 intro i y hi _;have hb0:i=0:=by have:i<1:=Hp.blk_lt hi;omega
 subst hb0;have:y=(l,tR):=(Option.some.inj hi).symm;rw[this];exact⟨x,[],hb,h1,by rw[h2];exact Zp9.symm,by rw[e,List.append_nil]⟩
def Zhw:Zae:=fun vals h s=>
 match vals with
 | [.slice none 0 0]=>some (Zn,h,s,[])
 | [.slice (some ⟨b,o,none⟩) n c]=>
  match h.blk? b with
  | some x=>some (sl b o (Zi (Zz x.1 o n)) c,h,s,[(Z8 x.2 x.1 o n c,true)])
  | none=>none
 | _=>none
theorem ZpD:ZD (Zr (Zq prog Zf Zo true) 100 131 [Zn] []) Zn []:=by and_intros<;>kernel_rfl
theorem Zcx:Z6 131 Zhw:=by
 intro vals h s v h' s' lg hg hl m B w E hv;unfold Zhw at hg;split at hg
 ·cases hg;refine (Ze (Zp Zd) ZpD (fun x hx=>by cases hx) (by rfl) (by rfl) w).mono fun e w' he=> ?_;obtain⟨E',hb⟩:=ZT E he.2;exact⟨m,he.1,⟨Agree.refl _ _,E',hb,Nat.le_refl _,rfl⟩⟩
 ·rename_i b o n c;split at hg
  ·rename_i x hx;cases hg;obtain⟨h1,h2,h3,h4,h5,h6,h7⟩:=ZH (hl _ Xf);have hlt:=Hp.blk_lt hx;have r:=Zls h1 h4 (by rw[h2];exact h3);rw[h2] at r;have:=zn (T:=Zq prog Zf Zo true) func131 Zlp (ZaH h7) (vals:=[sl 0 o n c]) (fun v hv=>by rw[List.mem_singleton.1 hv];rfl) (by rfl) r E (s:=fun _=>b) (fun i _=>hlt) (zS hx h5 h6 rfl);exact this.mono fun e w' he=>⟨m,he.1,he.2⟩
  ·cases hg
 ·cases hg
def h2 (la lb:List Value):Hp:=⟨2,[(lb,tR),(la,tR)]⟩
def ZdY (a b i:Nat):Nat:=if Nat.beq i 0=true then a else b
theorem Z8t {la lb:List Value}{i:Nat}{x:List Value×TypeId}(h:(h2 la lb).blk? i=some x):(i=0∧x=(la,tR))∨(i=1∧x=(lb,tR)):=by
 have:i<2:=Hp.blk_lt h;have:i=0∨i=1:=by omega
 rcases this with rfl | rfl
 ·exact .inl ⟨rfl,(Option.some.inj h).symm⟩
 ·exact .inr ⟨rfl,(Option.some.inj h).symm⟩
theorem Zgv {la lb:List Value}(ha:∀ v∈la,still v=true) (hb:∀ v∈lb,still v=true):(h2 la lb).rows:=by
 refine⟨rfl,fun b x hx=> ?_⟩;rcases Z8t hx with ⟨_,e⟩ | ⟨_,e⟩<;>rw[e]
 ·exact⟨Zp7,ha,Zp8⟩
 ·exact⟨Zp7,hb,Zp8⟩
theorem Zdu {h:Hp}{a b:Nat}{x y:List Value×TypeId}(hx:h.blk? a=some x) (x1:Zad x.2=false) (x2:rt x.2=tU) (hy:h.blk? b=some y) (y1:Zad y.2=false) (y2:rt y.2=tU):(h2 x.1 y.1).fits (ZdY a b) h:=by
 intro i z hz _;rcases Z8t hz with ⟨rfl,e⟩ | ⟨rfl,e⟩<;>rw[e]
 ·exact⟨x,[],hx,x1,by rw[x2];exact Zp9.symm,by rw[List.append_nil]⟩
 ·exact⟨y,[],hy,y1,by rw[y2];exact Zp9.symm,by rw[List.append_nil]⟩
def hT:Hp:=⟨1,[([],2*zo)]⟩
theorem Z8u {i:Nat}{x:List Value×TypeId}(h:hT.blk? i=some x):x=([],2*zo):=by
 have h1:i<1:=Hp.blk_lt h;have h2:i=0:=by omega
 subst h2;exact (Option.some.inj h).symm
theorem Z4H:Zad (2*zo)=true:=by kernel_rfl
theorem roT:ro (2*zo)=true:=by kernel_rfl
theorem Zzp:hT.rows:=⟨rfl,fun b x hx=>by rw[Z8u hx];exact⟨roT,(fun v hv=>by cases hv),by kernel_rfl⟩⟩
theorem ZsT (s:Nat→Nat) (h:Hp):hT.fits s h:=fun i x hx ht=>by rw[Z8u hx,Z4H] at ht;cases ht
end Go.Proofs.YtgefjidphfdhdaaGreatDoor
namespace Go.Proofs.YtgefjidphfdhdaaGreatDoor.Na
open Go.KRun Go.Nt
set_option maxRecDepth 100000
def i6' (n:Int):Value:= .int .i64 n
def oA (F:Func):Code:=Z2 (Z0 (Zs F))
def oR (F:Func):Code:=Z2 (Z2 (Z0 (Z0 (Zs F))))
def Zlt (F:Func):Code:=cIn (cIn (Z0 (Z2 (Z0 (Z0 (Zs F))))))
def Z4I (F:Func):Code:=Z0 (Z0 (Z0 (Zs F)))
end Go.Proofs.YtgefjidphfdhdaaGreatDoor.Na
namespace Go.Proofs.YtgefjidphfdhdaaGreatDoor.Na
open Go.Proofs.Tryz
open Go.IntKind
open Go.KRun Go.Nt
set_option maxRecDepth 100000
def Zuh (d:Bool):Int:=match d with | true=> -1 | false=>1
theorem Zlu (d:Bool):ZD (Zr (Zq prog Zf Zo true) 100 206 [.bool d] []) (i6' (Zuh d)) []:=by
 cases d<;>exact by and_intros<;>kernel_rfl
def Zui:Ans:=fun vals s=>
 match vals with
 | [.bool d]=>some (i6' (Zuh d),s,[])
 | _=>none
theorem ZpE:zT 206 Zui:=by
 intro vals s v s' lg h hl w;unfold Zui at h;split at h
 ·cases h;exact Ze (Zp Zd) (Zlu _) (fun x hx=>by cases hx) (by rfl) (by rfl) w
 ·cases h
def Zbz:Con:=alt 206 Zui Zo
theorem zw:ConOk Zbz:=ZM func206 rfl ZpE Zd
theorem ZdA:f187.body=some (ZW (ZyI f187) (.seq (oA f187) (.seq (.seq (oR f187) (.block 0 (.loop (Zlt f187)))) (Z4I f187)))):=by kernel_rfl
theorem Zhx (v w:Value) (h:Hp):Zg (evL (Zq prog Zf Zbz true) 100 (ZyI f187) ([v,w]++List.replicate 41 undef,h,[]) ⟨[],[],[]⟩) 6 37 none [v,w,undef,undef,i6' 0,undef] h []:=by and_intros<;>kernel_rfl
theorem Zzq (p q:Option Addr) (n c k d:Nat) (j2 j3 j4 j5:Value) (h:Hp) (g:Nat→Value):GoesE (evC (Zq prog Zf Zbz true) 100 false (oA f187) ([.slice p n c,.slice q k d,j2,j3,j4,j5]++tl 37 g,h,[cmp true,cmp true]) ⟨[],[],[]⟩) 6 37 (some none)
  [.slice p n c,.slice q k d,j2,j3,i6' (-1),j5] h [(decide ((n:Int)<k),true),((n:Int) !=k,true)]:=by unfold GoesE;kernel_rfl
theorem Zzr (p q:Option Addr) (n c k d:Nat) (j2 j3 j4 j5:Value) (h:Hp) (g:Nat→Value):GoesE (evC (Zq prog Zf Zbz true) 100 false (oA f187) ([.slice p n c,.slice q k d,j2,j3,j4,j5]++tl 37 g,h,[cmp true,cmp false]) ⟨[],[],[]⟩) 6 37 (some none)
  [.slice p n c,.slice q k d,j2,j3,i6' 1,j5] h [(decide ((n:Int)<k),false),((n:Int) !=k,true)]:=by unfold GoesE;kernel_rfl
theorem ZsU (p q:Option Addr) (n c k d:Nat) (j2 j3 j4 j5:Value) (h:Hp) (g:Nat→Value):GoesE (evC (Zq prog Zf Zbz true) 100 false (oA f187) ([.slice p n c,.slice q k d,j2,j3,j4,j5]++tl 37 g,h,[cmp false]) ⟨[],[],[]⟩) 6 37 none
  [.slice p n c,.slice q k d,j2,j3,j4,j5] h [((n:Int) !=k,false)]:=by unfold GoesE;kernel_rfl
theorem Zzs (p:Option Addr) (n c:Nat) (w j2 j3 j4 j5:Value) (h:Hp) (g:Nat→Value):GoesE (evC (Zq prog Zf Zbz true) 100 false (oR f187) ([.slice p n c,w,j2,j3,j4,j5]++tl 37 g,h,[]) ⟨[],[],[]⟩) 6 37 none
  [.slice p n c,w,j2,j3,j4,i6' (n1 n)] h []:=by unfold GoesE;kernel_rfl
theorem Zlv (v w j2 j3 j4:Value) (i:Int) (h:Hp) (g:Nat→Value):GoesE (evC (Zq prog Zf Zbz true) 100 false (Zlt f187) ([v,w,j2,j3,j4,i6' i]++tl 37 g,h,[cmp false]) ⟨[],[],[]⟩) 6 37 (some (some 0))
  [v,w,j2,j3,j4,i6' i] h [(decide (i≥0),false)]:=by unfold GoesE;kernel_rfl
theorem Zzt (o n c o' n' c':Nat) (i x y:Int) (la lb:List Value) (j2 j3 j4:Value) (g:Nat→Value):Zg (evC (Zq prog Zf Zbz true) 100 false (Zlt f187) ([sl 0 o n c,sl 1 o' n' c',j2,j3,j4,i6' i]++tl 37 g,h2 la lb,[cmp true,at_,val (.int .u32 x),at_,val (.int .u32 y),cmp false]) ⟨[],[],[]⟩) 6 37 none
  [sl 0 o n c,sl 1 o' n' c',j2,j3,j4,i6' (i64.wrap (i-1))] (h2 la lb) [(x !=y,false),(Z4 (lb[o'+i.toNat*1]?) (.int .u32 y),true),(decide (0≤i∧i<n'),true),(Z4 (la[o+i.toNat*1]?) (.int .u32 x),true),(decide (0≤i∧i<n),true),(decide (i≥0),true)]:=by and_intros<;>kernel_rfl
theorem Zzu (d:Bool) (o n c o' n' c':Nat) (i x y:Int) (la lb:List Value) (j2 j3 j4:Value) (g:Nat→Value):Zg (evC (Zq prog Zf Zbz true) 100 false (Zlt f187) ([sl 0 o n c,sl 1 o' n' c',j2,j3,j4,i6' i]++tl 37 g,h2 la lb,[cmp true,at_,val (.int .u32 x),at_,val (.int .u32 y),cmp true,at_,val (.int .u32 x),at_,val (.int .u32 y),cmp d]) ⟨[],[],[]⟩) 6 37 (some none)
  [sl 0 o n c,sl 1 o' n' c',j2,j3,i6' (Zuh d),i6' i] (h2 la lb) [(decide (x<y),d),(Z4 (lb[o'+i.toNat*1]?) (.int .u32 y),true),(decide (0≤i∧i<n'),true),(Z4 (la[o+i.toNat*1]?) (.int .u32 x),true),(decide (0≤i∧i<n),true),(x !=y,true),(Z4 (lb[o'+i.toNat*1]?) (.int .u32 y),true),(decide (0≤i∧i<n'),true),(Z4 (la[o+i.toNat*1]?) (.int .u32 x),true),(decide (0≤i∧i<n),true),(decide (i≥0),true)]:=by
 cases d<;>exact by and_intros<;>kernel_rfl
theorem Zlw (v w j2 j3 j4 j5:Value) (h:Hp) (g:Nat→Value):GoesE (evC (Zq prog Zf Zbz true) 100 false (Z4I f187) ([v,w,j2,j3,j4,j5]++tl 37 g,h,[]) ⟨[],[],[]⟩) 6 37 (some none)
  [v,w,j2,j3,i6' 0,j5] h []:=by unfold GoesE;kernel_rfl
def Z4c (F:Func):Code:=ZW (ZyI F) (.seq (oA F) (.seq (.seq (oR F) (.block 0 (.loop (Zlt F)))) (Z4I F)))
theorem Zgw (p q:Option Addr) (n c k d:Nat) (h:Hp) (hn:n≠k):
  Runs (Zq prog Zf Zbz true) (Z4c f187) ([.slice p n c,.slice q k d]++List.replicate 41 undef,h,[]) fun e y=>(e=none∨e=some none)∧ZV prog f187 y.1 y.2.1=some (i6' (if n<k then -1 else 1)):=by
 refine Z3 (Zp zw) (Zhx _ _ _) (fun x hx=>by cases hx) fun g=> ?_;by_cases hl:n<k
 ·refine Runs.seq (Zc (Zp zw) (Zzq p q n c k d undef undef (i6' 0) undef h g).t (Zj (Xa (by omega)) (Zu (by simp;omega)))) (fun y he=>by cases he.1) (fun e y he=> ?_);obtain⟨h1,⟨g3,e2⟩,e3⟩:=he;refine⟨.inr h1,?_⟩;rw[e2,e3,if_pos hl];rfl
 ·refine Runs.seq (Zc (Zp zw) (Zzr p q n c k d undef undef (i6' 0) undef h g).t (Zj (Xb (by omega)) (Zu (by simp;omega)))) (fun y he=>by cases he.1) (fun e y he=> ?_);obtain⟨h1,⟨g3,e2⟩,e3⟩:=he;refine⟨.inr h1,?_⟩;rw[e2,e3,if_neg hl];rfl
theorem Zlx (p q:Option Addr) (c d:Nat) (h:Hp):
  Runs (Zq prog Zf Zbz true) (Z4c f187) ([.slice p 0 c,.slice q 0 d]++List.replicate 41 undef,h,[]) fun e y=>(e=none∨e=some none)∧ZV prog f187 y.1 y.2.1=some (i6' 0):=by
 refine Z3 (Zp zw) (Zhx _ _ _) (fun x hx=>by cases hx) fun g=> ?_;refine Runs.seq (Zc (Zp zw) (ZsU p q 0 c 0 d undef undef (i6' 0) undef h g).t (Zu (by rfl))) ?_ (fun e y he=>by cases he.1);rintro⟨t,h',s⟩ ⟨_,⟨g1,ht⟩,hh⟩;simp only at ht hh;subst ht hh;refine Runs.seq (P1:=fun e y=>e=none∧(∃ g i,y.1=[.slice p 0 c,.slice q 0 d,undef,undef,i6' 0,i6' i]++tl 37 g)∧y.2.1=h') ?_ ?_ (fun e y he=>by cases he.1)
 ·refine Runs.seq (Zc (Zp zw) (Zzs p 0 c _ undef undef (i6' 0) undef h' g1).t (fun x hx=>by cases hx)) ?_ (fun e y he=>by cases he.1);rintro⟨t,h'',s⟩ ⟨_,⟨g2,ht⟩,hh⟩;simp only at ht hh;subst ht hh;refine (Runs.forLoop (P:=fun y=>(∃ g i,y.1=[.slice p 0 c,.slice q 0 d,undef,undef,i6' 0,i6' i]++tl 37 g)∧y.2.1=h'') (R:=fun _=>False) (fun _ y=>∃ g,y.1=[.slice p 0 c,.slice q 0 d,undef,undef,i6' 0,i6' (n1 0)]++tl 37 g∧y.2.1=h'') ?_ (n:=0) ⟨g2,rfl,rfl⟩).mono fun e y he=> ?_
  ·rintro _ ⟨t,h3,s⟩ ⟨g,ht,hh⟩;simp only at ht hh;subst ht hh;refine (Zc (Zp zw) (Zlv _ _ undef undef (i6' 0) (n1 0) h3 g).t (Zu (by rfl))).mono fun e y he=> ?_;obtain⟨rfl,⟨g',e2⟩,e3⟩:=he;exact⟨rfl,⟨g',_,e2⟩,e3⟩
  ·match e,he with
   | none,he=>exact⟨rfl,he⟩
 ·rintro⟨t,h'',s⟩ ⟨_,⟨g2,i,ht⟩,hh⟩;simp only at ht hh;subst ht hh;refine (Zc (Zp zw) (Zlw _ _ undef undef (i6' 0) _ h'' g2).t (fun x hx=>by cases hx)).mono fun e y he=> ?_;obtain⟨rfl,⟨g3,e2⟩,e3⟩:=he;refine⟨.inr rfl,?_⟩;rw[e2,e3];rfl
theorem ZpF {la lb:List Value}{o o' c c':Nat}{La Lb:List Int}(Ra:Row la o La) (Rb:Row lb o' Lb) (hc:La.length<4611686018427387904):
  Runs (Zq prog Zf Zbz true) (Z4c f187) ([sl 0 o La.length c,sl 1 o' Lb.length c']++List.replicate 41 undef,h2 la lb,[]) fun e y=>(e=none∨e=some none)∧ZV prog f187 y.1 y.2.1=some (i6' (Zci La Lb)):=by
 by_cases hn:La.length=Lb.length
 ·unfold Zci;rw[if_pos hn];refine Z3 (Zp zw) (Zhx _ _ _) (fun x hx=>by cases hx) fun g=> ?_;refine Runs.seq (Zc (Zp zw) (ZsU _ _ La.length c Lb.length c' undef undef (i6' 0) undef (h2 la lb) g).t (Zu (by simp [hn]))) ?_ (fun e y he=>by cases he.1);rintro⟨t,h',s⟩ ⟨_,⟨g1,ht⟩,hh⟩;simp only at ht hh;subst ht hh;refine Runs.seq (P1:=fun e y=>(e=none∧(∃ g i,y.1=[sl 0 o La.length c,sl 1 o' Lb.length c',undef,undef,i6' 0,i6' i]++tl 37 g)∧y.2.1=h2 la lb∧Zaq La Lb La.length=0)∨(e=some none∧(∃ g i,y.1=[sl 0 o La.length c,sl 1 o' Lb.length c',undef,undef,i6' (Zaq La Lb La.length),i6' i]++tl 37 g)∧y.2.1=h2 la lb)) ?_ ?_ ?_
  ·refine Runs.seq (Zc (Zp zw) (Zzs _ La.length c _ undef undef (i6' 0) undef _ g1).t (fun x hx=>by cases hx)) ?_ (fun e y he=>by cases he.1);rintro⟨t,h'',s⟩ ⟨_,⟨g2,ht⟩,hh⟩;simp only at ht hh;subst ht hh;refine (Runs.forLoop (P:=fun y=>(∃ g i,y.1=[sl 0 o La.length c,sl 1 o' Lb.length c',undef,undef,i6' 0,i6' i]++tl 37 g)∧y.2.1=h2 la lb∧Zaq La Lb La.length=0) (R:=fun y=>(∃ g i,y.1=[sl 0 o La.length c,sl 1 o' Lb.length c',undef,undef,i6' (Zaq La Lb La.length),i6' i]++tl 37 g)∧y.2.1=h2 la lb)
    (fun r y=>∃ (g:Nat→Value),r≤La.length∧y.1=[sl 0 o La.length c,sl 1 o' Lb.length c',undef,undef,i6' 0,i6' ((r:Int)-1)]++tl 37 g∧y.2.1=h2 la lb∧Zaq La Lb La.length=Zaq La Lb r) ?_ (n:=La.length) ⟨g2,Nat.le_refl _,by unfold n1;rw[Zw (by omega) (by omega)];rfl,rfl,rfl⟩).mono fun e y he=> ?_
   ·rintro r ⟨t,h3,s⟩ ⟨g,hk,ht,hh,htop⟩;simp only at ht hh;subst ht hh;cases r with
    | zero=>
     refine (Zc (Zp zw) (Zlv _ _ undef undef (i6' 0) _ _ g).t (Zu (by rfl))).mono fun e y he=> ?_;obtain⟨rfl,⟨g',e2⟩,e3⟩:=he;exact⟨rfl,⟨g',_,e2⟩,e3,htop⟩
    | succ k=>
     have ek:((k+1:Nat):Int)-1=(k:Int):=by omega
     rw[ek];have ca:=Ra.cell (k:=k) (by omega);have cb:=Rb.cell (k:=k) (by omega);have ha:Z4 (la[o+((k:Int)).toNat*1]?) (.int .u32 (La.getD k 0))=true:=by
      rw[Xg,Nat.mul_one,ca];simp [Z4]
     have hb:Z4 (lb[o'+((k:Int)).toNat*1]?) (.int .u32 (Lb.getD k 0))=true:=by
      rw[Xg,Nat.mul_one,cb];simp [Z4]
     have q1:decide (0≤(k:Int)∧(k:Int)<(La.length:Nat))=true:=Xa (by omega);have q2:decide (0≤(k:Int)∧(k:Int)<(Lb.length:Nat))=true:=Xa (by omega);have q3:decide ((k:Int)≥0)=true:=Xa (by omega);by_cases hx:La.getD k 0=Lb.getD k 0
     ·refine (Zc (Zp zw) (Zzt o La.length c o' Lb.length c' k (La.getD k 0) (Lb.getD k 0) la lb undef undef (i6' 0) g) (Zj (by show (La.getD k 0 !=Lb.getD k 0)=false;rw[hx];exact bne_self_eq_false _) (Zj hb (Zj q2 (Zj ha (Zj q1 (Zu q3))))))).mono fun e y he=> ?_;obtain⟨rfl,⟨g',e2⟩,e3⟩:=he;refine⟨k,by omega,g',by omega,?_,e3,?_⟩
      ·rw[e2,Zw (by omega) (by omega)]
      ·rw[htop];simp only[Zaq];rw[if_pos hx]
     ·have hne:(La.getD k 0 !=Lb.getD k 0)=true:=by simpa using hx
      refine (Zc (Zp zw) (Zzu (decide (La.getD k 0<Lb.getD k 0)) o La.length c o' Lb.length c' k (La.getD k 0) (Lb.getD k 0) la lb undef undef (i6' 0) g) (Zj rfl (Zj hb (Zj q2 (Zj ha (Zj q1 (Zj hne (Zj hb (Zj q2 (Zj ha (Zj q1 (Zu q3)))))))))))).mono fun e y he=> ?_;obtain⟨rfl,⟨g',e2⟩,e3⟩:=he;refine⟨⟨g',k,?_⟩,e3⟩;rw[e2,htop];simp only[Zaq];rw[if_neg hx];by_cases hlt:La.getD k 0<Lb.getD k 0
      ·rw[if_pos hlt,Xa hlt];rfl
      ·rw[if_neg hlt,Xb hlt];rfl
   ·match e,he with
    | none,he=>exact .inl ⟨rfl,he⟩
    | some none,he=>exact .inr ⟨rfl,he⟩
  ·rintro⟨t,h'',s⟩ (⟨_,⟨g2,i,ht⟩,hh,heq⟩ | ⟨h,_⟩)
   ·simp only at ht hh;subst ht hh;refine (Zc (Zp zw) (Zlw _ _ undef undef (i6' 0) _ _ g2).t (fun x hx=>by cases hx)).mono fun e y he=> ?_;obtain⟨rfl,⟨g3,e2⟩,e3⟩:=he;refine⟨.inr rfl,?_⟩;rw[e2,e3,heq];rfl
   ·cases h
  ·rintro e y (⟨h,_⟩ | ⟨h1,⟨g3,i,e2⟩,e3⟩)
   ·cases h
   ·refine⟨.inr h1,?_⟩;rw[e2,e3];rfl
 ·unfold Zci;rw[if_neg hn];exact Zgw _ _ _ _ _ _ _ hn
def ZpG (n k:Nat):Int:=if n=k then 0 else if n<k then -1 else 1
theorem ZdZ (p q:Option Addr) (n c k d:Nat) (h:Hp) (h0:n=0∨k=0):
  Runs (Zq prog Zf Zbz true) (Z4c f187) ([.slice p n c,.slice q k d]++List.replicate 41 undef,h,[]) fun e y=>(e=none∨e=some none)∧ZV prog f187 y.1 y.2.1=some (i6' (ZpG n k)):=by
 unfold ZpG;by_cases hn:n=k
 ·rw[if_pos hn];have e1:n=0:=by omega
  have e2:k=0:=by omega
  subst e1 e2;exact Zlx p q c d h
 ·rw[if_neg hn];exact Zgw p q n c k d h hn
def Z4d:Zae:=fun vals h s=>
 match vals with
 | [.slice (some ⟨b,o,none⟩) n c,.slice (some ⟨b',o',none⟩) n' c']=>
  match h.blk? b,h.blk? b' with
  | some x,some y=>some (i6' (Zci (Zz x.1 o n) (Zz y.1 o' n')),h,s,[(Z8 x.2 x.1 o n c,true),(Z8 y.2 y.1 o' n' c',true)])
  | _,_=>none
 | [.slice none 0 0,.slice none 0 0]=>some (i6' 0,h,s,[])
 | [.slice none 0 0,.slice (some _) k _]=>some (i6' (ZpG 0 k),h,s,[])
 | [.slice (some _) n _,.slice none 0 0]=>some (i6' (ZpG n 0),h,s,[])
 | _=>none
theorem Zea:Z6 187 Z4d:=by
 intro vals h s v h' s' lg hg hl m B w E hv;unfold Z4d at hg;split at hg
 ·rename_i b o n c b' o' n' c';split at hg
  ·rename_i x y hx hy;cases hg;obtain⟨a1,a2,a3,a4,a5,a6,a7⟩:=ZH (hl _ (Xe));obtain⟨b1,b2,b3,b4,b5,b6,b7⟩:=ZH (hl _ (Xd _ Xf));have hsm:n<4611686018427387904:=by have:=Zl.1 a4;unfold zo at this;omega
   have r:=ZpF (c:=c) (c':=c') a1 b1 (by rw[a2];exact hsm);rw[a2,b2] at r;have lx:=Hp.blk_lt hx;have ly:=Hp.blk_lt hy;have:=zn (T:=Zq prog Zf Zbz true) func187 ZdA (Zgv a7 b7) (vals:=[sl 0 o n c,sl 1 o' n' c']) (fun v hv=>by
    simp only[List.mem_cons,List.not_mem_nil,or_false] at hv;rcases hv with rfl | rfl<;>rfl) (by rfl) r E (s:=ZdY b b') (fun i _=>by unfold ZdY;split<;>assumption) (Zdu hx a5 a6 hy b5 b6)
   exact this.mono fun e w' he=>⟨m,he.1,he.2⟩
  ·cases hg
 ·cases hg;have r:=ZdZ none none 0 0 0 0 ⟨0,[]⟩ (.inl rfl);refine (Zai (T:=Zq prog Zf Zbz true) func187 ZdA (vals:=[Zn,Zn]) (by rfl) (by rfl) r w).mono fun e w' he=> ?_;obtain⟨E',hb⟩:=ZT E he.2;exact⟨m,he.1,⟨Agree.refl _ _,E',hb,Nat.le_refl _,rfl⟩⟩
 ·rename_i a k c;cases hg;have r:=ZdZ none (some {a with block:=0}) 0 0 k c hT (.inl rfl);have hlt:a.block<h.n:=by
   have:=hv (.slice (some a) k c) (by simp);exact Zl.1 this
  have:=zn (T:=Zq prog Zf Zbz true) func187 ZdA Zzp (vals:=[Zn,.slice (some {a with block:=0}) k c]) (fun v hv=>by
   simp only[List.mem_cons,List.not_mem_nil,or_false] at hv;rcases hv with rfl | rfl<;>rfl) (by rfl) r E (s:=fun _=>a.block) (fun i _=>hlt) (ZsT _ _)
  exact this.mono fun e w' he=>⟨m,he.1,he.2⟩
 ·rename_i a n c;cases hg;have r:=ZdZ (some {a with block:=0}) none n c 0 0 hT (.inr rfl);have hlt:a.block<h.n:=by
   have:=hv (.slice (some a) n c) (by simp);exact Zl.1 this
  have:=zn (T:=Zq prog Zf Zbz true) func187 ZdA Zzp (vals:=[.slice (some {a with block:=0}) n c,Zn]) (fun v hv=>by
   simp only[List.mem_cons,List.not_mem_nil,or_false] at hv;rcases hv with rfl | rfl<;>rfl) (by rfl) r E (s:=fun _=>a.block) (fun i _=>hlt) (ZsT _ _)
  exact this.mono fun e w' he=>⟨m,he.1,he.2⟩
 ·cases hg
end Go.Proofs.YtgefjidphfdhdaaGreatDoor.Na
namespace Go.Proofs.YtgefjidphfdhdaaGreatDoor
open Go.KRun
set_option maxRecDepth 100000
def uu (n:Int):Value:= .int .u32 n
end Go.Proofs.YtgefjidphfdhdaaGreatDoor
namespace Go.Proofs.YtgefjidphfdhdaaGreatDoor.Na
open Go.Proofs.Tryz
open Go.IntKind
open Go.KRun Go.Nt
set_option maxRecDepth 100000
def Zd0 (k:Int):Value:= .iface 69 (.int .i64 k)
def ZcV (d:Bool):Value:=match d with | true=>Zd0 1 | false=> .nilIface
def ZS (L:List Int):Bool:=decide (8192<L.length) || (decide (0<L.length) && (L.getD (L.length-1) 0==0))
theorem ZpH (p:Option Addr) (n c:Nat) (h:Hp):Zg (evC (Zq prog Zf Zo true) 100 false (Zs f128) ([.slice p n c]++List.replicate 20 undef,h,[cmp true]) ⟨[],[],[]⟩) 3 18 (some none) [.slice p n c,undef,Zd0 1] h [(decide ((n:Int)>8192),true)]:=by and_intros<;>kernel_rfl
theorem ZpI (p:Option Addr) (n c:Nat) (h:Hp):Zg (evC (Zq prog Zf Zo true) 100 false (Zs f128) ([.slice p n c]++List.replicate 20 undef,h,[cmp false,cmp false]) ⟨[],[],[]⟩) 3 18 (some none) [.slice p n c,undef,.nilIface] h [(decide ((n:Int)>0),false),(decide ((n:Int)>8192),false)]:=by and_intros<;>kernel_rfl
theorem ZpJ (d:Bool) (o n c:Nat) (x:Int) (l:List Value):Zg (evC (Zq prog Zf Zo true) 100 false (Zs f128) ([sl 0 o n c]++List.replicate 20 undef,⟨1,[(l,tR)]⟩,[cmp false,cmp true,at_,val (.int .u32 x),cmp d]) ⟨[],[],[]⟩) 3 18 (some none) [sl 0 o n c,undef,ZcV d] ⟨1,[(l,tR)]⟩ [(x==0,d),(Z4 (l[o+(n1 n).toNat*1]?) (.int .u32 x),true),(decide (0≤n1 n∧n1 n<n),true),(decide ((n:Int)>0),true),(decide ((n:Int)>8192),false)]:=by
 cases d<;>exact by and_intros<;>kernel_rfl
theorem ZpK:f128.body=some (Zs f128):=by kernel_rfl
theorem ZpL {l:List Value}{o c:Nat}{L:List Int}(hR:Row l o L):
  Runs (Zq prog Zf Zo true) (Zs f128) ([sl 0 o L.length c]++List.replicate 20 undef,⟨1,[(l,tR)]⟩,[]) fun e y=>(e=none∨e=some none)∧ZV prog f128 y.1 y.2.1=some (ZcV (ZS L)):=by
 unfold ZS;by_cases h1:8192<L.length
 ·rw[Xa h1,Bool.true_or];refine (Zc (Zp Zd) (ZpH _ _ _ _) (Zu (Xa (by omega)))).mono fun e y he=> ?_;obtain⟨rfl,⟨g,e2⟩,e3⟩:=he;refine⟨.inr rfl,?_⟩;rw[e2,e3];rfl
 ·rw[Xb h1,Bool.false_or];by_cases h2:0<L.length
  ·rw[Xa h2,Bool.true_and];have ek:n1 L.length=((L.length-1:Nat):Int):=by
    unfold n1;rw[Zw (by omega) (by omega)];omega
   refine (Zc (Zp Zd) (ZpJ (L.getD (L.length-1) 0==0) o L.length c (L.getD (L.length-1) 0) l) (Zj rfl (Zj (by
    rw[ek,Xg,Nat.mul_one,hR.cell (by omega)];simp [Z4]) (Zj (by rw[ek];exact Xa (by omega)) (Zj (Xa (by omega)) (Zu (Xb (by omega)))))))).mono fun e y he=> ?_
   obtain⟨rfl,⟨g,e2⟩,e3⟩:=he;refine⟨.inr rfl,?_⟩;rw[e2,e3];generalize (L.getD (L.length-1) 0==0)=d;cases d<;>rfl
  ·rw[Xb h2,Bool.false_and];refine (Zc (Zp Zd) (ZpI _ _ _ _) (Zj (Xb (by omega)) (Zu (Xb (by omega))))).mono fun e y he=> ?_;obtain⟨rfl,⟨g,e2⟩,e3⟩:=he;refine⟨.inr rfl,?_⟩;rw[e2,e3];rfl
theorem Zuj:ZD (Zr (Zq prog Zf Zo true) 100 128 [Zn] []) .nilIface []:=by and_intros<;>kernel_rfl
def Z4e:Zae:=fun vals h s=>
 match vals with
 | [.slice none 0 0]=>some (.nilIface,h,s,[])
 | [.slice (some ⟨b,o,none⟩) n c]=>
  match h.blk? b,s with
  | some x,.inr (.inr (.inr (.inl d)))::s'=>some (ZcV d,h,s',[(Z8 x.2 x.1 o n c,true),(ZS (Zz x.1 o n),d)])
  | _,_=>none
 | _=>none
theorem Zly:Z6 128 Z4e:=by
 intro vals h s v h' s' lg hg hl m B w E hv;unfold Z4e at hg;split at hg
 ·cases hg;refine (Ze (Zp Zd) Zuj (fun x hx=>by cases hx) (by rfl) (by rfl) w).mono fun e w' he=> ?_;obtain⟨E',hb⟩:=ZT E he.2;exact⟨m,he.1,⟨Agree.refl _ _,E',hb,Nat.le_refl _,rfl⟩⟩
 ·rename_i b o n c;split at hg
  ·rename_i x d s2 hx;cases hg;obtain⟨h1,h2,h3,h4,h5,h6,h7⟩:=ZH (hl _ (Xe));have hd:=hl _ (Xd _ Xf);simp only at hd;have hlt:=Hp.blk_lt hx;have r:=ZpL (c:=c) h1;rw[h2,hd] at r;have e0:rn (fun _=>b) (ZcV d)=ZcV d:=by cases d<;>rfl
   have:=zn (T:=Zq prog Zf Zo true) func128 ZpK (ZaH h7) (vals:=[sl 0 o n c]) (fun v hv=>by rw[List.mem_singleton.1 hv];rfl) (by cases d<;>rfl) r E (s:=fun _=>b) (fun i _=>hlt) (zS hx h5 h6 rfl);rw[e0] at this;exact this.mono fun e w' he=>⟨m,he.1,he.2⟩
  ·cases hg
 ·cases hg
def hcK:Hc:=ZY 128 Z4e hcN
theorem ZeO:HcOk hcK:=Zt func128 rfl Zly zp
def Zhy (l:List Value) (o n c:Nat):Bool×Bool:=(Z8 tR l o n c,true)
theorem ZpM (o n c o' n' c':Nat) (la lb:List Value):Zg (evC (Zk prog Zf Zo hcK) 100 false (Zs f132) ([sl 0 o n c,sl 1 o' n' c']++List.replicate 11 undef,h2 la lb,[cmp true]) ⟨[],[],[]⟩) 5 8 (some none) [sl 0 o n c,sl 1 o' n' c',undef,undef,Zd0 1] (h2 la lb) [Zhy la o n c,(ZS (Zz la o n),true)]:=by and_intros<;>kernel_rfl
theorem Zzv (d:Bool) (o n c o' n' c':Nat) (la lb:List Value):Zg (evC (Zk prog Zf Zo hcK) 100 false (Zs f132) ([sl 0 o n c,sl 1 o' n' c']++List.replicate 11 undef,h2 la lb,[cmp false,cmp d]) ⟨[],[],[]⟩) 5 8 (some none) [sl 0 o n c,sl 1 o' n' c',undef,undef,ZcV d] (h2 la lb) [Zhy lb o' n' c',(ZS (Zz lb o' n'),d),Zhy la o n c,(ZS (Zz la o n),false)]:=by
 cases d<;>exact by and_intros<;>kernel_rfl
theorem zJ {ty:TypeId}{l:List Value}{o n c:Nat}(h:Z8 ty l o n c=true):Z8 tR l o n c=true:=by
 unfold Z8 at*;simp only[Xh,Bool.not_eq_true'] at*;obtain⟨⟨⟨⟨⟨⟨h1,h2⟩,h3⟩,h4⟩,h5⟩,h6⟩,h7⟩:=h;exact⟨⟨⟨⟨⟨⟨Zbp,by kernel_rfl⟩,h3⟩,h4⟩,h5⟩,h6⟩,h7⟩
theorem Zeb:f132.body=some (Zs f132):=by kernel_rfl
theorem Zlz {la lb:List Value}{o n c o' n' c':Nat}(ha:Z8 tR la o n c=true) (hb:Z8 tR lb o' n' c'=true):
  Runs (Zk prog Zf Zo hcK) (Zs f132) ([sl 0 o n c,sl 1 o' n' c']++List.replicate 11 undef,h2 la lb,[]) fun e y=>(e=none∨e=some none)∧ZV prog f132 y.1 y.2.1=some (ZcV (ZS (Zz la o n) || ZS (Zz lb o' n'))):=by
 cases h:ZS (Zz la o n) with
 | true=>
  refine (Zc (Zh Zd ZeO) (ZpM o n c o' n' c' la lb) (Zj ha (Zu h))).mono fun e y he=> ?_;obtain⟨rfl,⟨g,e2⟩,e3⟩:=he;refine⟨.inr rfl,?_⟩;rw[e2,e3];rfl
 | false=>
  refine (Zc (Zh Zd ZeO) (Zzv (ZS (Zz lb o' n')) o n c o' n' c' la lb) (Zj hb (Zj rfl (Zj ha (Zu h))))).mono fun e y he=> ?_;obtain⟨rfl,⟨g,e2⟩,e3⟩:=he;refine⟨.inr rfl,?_⟩;rw[e2,e3,Bool.false_or];generalize ZS (Zz lb o' n')=d;cases d<;>rfl
theorem Zuk (d:Bool) (o n c:Nat) (l:List Value):Zg (evC (Zk prog Zf Zo hcK) 100 false (Zs f132) ([Zn,sl 0 o n c]++List.replicate 11 undef,⟨1,[(l,tR)]⟩,[cmp d]) ⟨[],[],[]⟩) 5 8 (some none) [Zn,sl 0 o n c,undef,undef,ZcV d] ⟨1,[(l,tR)]⟩ [Zhy l o n c,(ZS (Zz l o n),d)]:=by
 cases d<;>exact by and_intros<;>kernel_rfl
theorem Zul (d:Bool) (o n c:Nat) (l:List Value):Zg (evC (Zk prog Zf Zo hcK) 100 false (Zs f132) ([sl 0 o n c,Zn]++List.replicate 11 undef,⟨1,[(l,tR)]⟩,[cmp d]) ⟨[],[],[]⟩) 5 8 (some none) [sl 0 o n c,Zn,undef,undef,ZcV d] ⟨1,[(l,tR)]⟩ [Zhy l o n c,(ZS (Zz l o n),d)]:=by
 cases d<;>exact by and_intros<;>kernel_rfl
theorem ZpN:ZD (Zr (Zq prog Zf Zo true) 100 132 [Zn,Zn] []) .nilIface []:=by and_intros<;>kernel_rfl
theorem Ziv {vals:List Value}{l:List Value}{o n c:Nat}{d:Bool}(hf:Zg (evC (Zk prog Zf Zo hcK) 100 false (Zs f132) (vals++List.replicate 11 undef,⟨1,[(l,tR)]⟩,[cmp d]) ⟨[],[],[]⟩) 5 8 (some none) (vals++[undef,undef,ZcV d]) ⟨1,[(l,tR)]⟩ [Zhy l o n c,(ZS (Zz l o n),d)]) (ha:Z8 tR l o n c=true) (hd:ZS (Zz l o n)=d) (hr:∀ g,ZV prog f132 ((vals++[undef,undef,ZcV d])++tl 8 g) ⟨1,[(l,tR)]⟩=some (ZcV d)):
  Runs (Zk prog Zf Zo hcK) (Zs f132) (vals++List.replicate 11 undef,⟨1,[(l,tR)]⟩,[]) fun e y=>(e=none∨e=some none)∧ZV prog f132 y.1 y.2.1=some (ZcV d):=by
 refine (Zc (Zh Zd ZeO) hf (Zj ha (Zu hd))).mono fun e y he=> ?_;obtain⟨rfl,⟨g,e2⟩,e3⟩:=he;refine⟨.inr rfl,?_⟩;rw[e2,e3];exact hr g
def ZjI:Zae:=fun vals h s=>
 match vals with
 | [.slice (some ⟨b,o,none⟩) n c,.slice (some ⟨b',o',none⟩) n' c']=>
  match h.blk? b,h.blk? b',s with
  | some x,some y,.inr (.inr (.inr (.inl d)))::s'=>some (ZcV d,h,s',[(Z8 x.2 x.1 o n c,true),(Z8 y.2 y.1 o' n' c',true),(ZS (Zz x.1 o n) || ZS (Zz y.1 o' n'),d)])
  | _,_,_=>none
 | [.slice none 0 0,.slice (some ⟨b,o,none⟩) n c]=>
  match h.blk? b,s with
  | some x,.inr (.inr (.inr (.inl d)))::s'=>some (ZcV d,h,s',[(Z8 x.2 x.1 o n c,true),(ZS (Zz x.1 o n),d)])
  | _,_=>none
 | [.slice (some ⟨b,o,none⟩) n c,.slice none 0 0]=>
  match h.blk? b,s with
  | some x,.inr (.inr (.inr (.inl d)))::s'=>some (ZcV d,h,s',[(Z8 x.2 x.1 o n c,true),(ZS (Zz x.1 o n),d)])
  | _,_=>none
 | [.slice none 0 0,.slice none 0 0]=>some (.nilIface,h,s,[])
 | _=>none
theorem Zcy:Z6 132 ZjI:=by
 intro vals h s v h' s' lg hg hl m B w E hv;unfold ZjI at hg;split at hg
 ·rename_i b o n c b' o' n' c';split at hg
  ·rename_i x y d s2 hx hy;cases hg;have ra:=hl _ (Xe);have rb:=hl _ (Xd _ Xe);obtain⟨a1,a2,a3,a4,a5,a6,a7⟩:=ZH ra;obtain⟨b1,b2,b3,b4,b5,b6,b7⟩:=ZH rb;have hd:=hl _ (Xd _ (Xd _ Xf));simp only at hd;have r:=Zlz (zJ ra) (zJ rb);rw[hd] at r;have lx:=Hp.blk_lt hx;have ly:=Hp.blk_lt hy;have e0:rn (ZdY b b') (ZcV d)=ZcV d:=by cases d<;>rfl
   have:=zn (T:=Zk prog Zf Zo hcK) func132 Zeb (Zgv a7 b7) (vals:=[sl 0 o n c,sl 1 o' n' c']) (fun v hv=>by
    simp only[List.mem_cons,List.not_mem_nil,or_false] at hv;rcases hv with rfl | rfl<;>rfl) (by cases d<;>rfl) r E (s:=ZdY b b') (fun i _=>by unfold ZdY;split<;>assumption) (Zdu hx a5 a6 hy b5 b6)
   rw[e0] at this;exact this.mono fun e w' he=>⟨m,he.1,he.2⟩
  ·cases hg
 ·rename_i b o n c;split at hg
  ·rename_i x d s2 hx;cases hg;have ra:=hl _ (Xe);have hd:=hl _ (Xd _ Xf);simp only at hd;obtain⟨a1,a2,a3,a4,a5,a6,a7⟩:=ZH ra;have hlt:=Hp.blk_lt hx;have e0:rn (fun _=>b) (ZcV d)=ZcV d:=by cases d<;>rfl
   have r:=Ziv (Zuk d o n c x.1) (zJ ra) hd (fun _=>by cases d<;>rfl);have:=zn (T:=Zk prog Zf Zo hcK) func132 Zeb (ZaH a7) (vals:=[Zn,sl 0 o n c]) (fun v hv=>by
    simp only[List.mem_cons,List.not_mem_nil,or_false] at hv;rcases hv with rfl | rfl<;>rfl) (by cases d<;>rfl) r E (s:=fun _=>b) (fun i _=>hlt) (zS hx a5 a6 rfl)
   rw[e0] at this;exact this.mono fun e w' he=>⟨m,he.1,he.2⟩
  ·cases hg
 ·rename_i b o n c;split at hg
  ·rename_i x d s2 hx;cases hg;have ra:=hl _ (Xe);have hd:=hl _ (Xd _ Xf);simp only at hd;obtain⟨a1,a2,a3,a4,a5,a6,a7⟩:=ZH ra;have hlt:=Hp.blk_lt hx;have e0:rn (fun _=>b) (ZcV d)=ZcV d:=by cases d<;>rfl
   have r:=Ziv (Zul d o n c x.1) (zJ ra) hd (fun _=>by cases d<;>rfl);have:=zn (T:=Zk prog Zf Zo hcK) func132 Zeb (ZaH a7) (vals:=[sl 0 o n c,Zn]) (fun v hv=>by
    simp only[List.mem_cons,List.not_mem_nil,or_false] at hv;rcases hv with rfl | rfl<;>rfl) (by cases d<;>rfl) r E (s:=fun _=>b) (fun i _=>hlt) (zS hx a5 a6 rfl)
   rw[e0] at this;exact this.mono fun e w' he=>⟨m,he.1,he.2⟩
  ·cases hg
 ·cases hg;refine (Ze (Zp Zd) ZpN (fun x hx=>by cases hx) (by rfl) (by rfl) w).mono fun e w' he=> ?_;obtain⟨E',hb⟩:=ZT E he.2;exact⟨m,he.1,⟨Agree.refl _ _,E',hb,Nat.le_refl _,rfl⟩⟩
 ·cases hg
def wd4 (x y c:Int):Bool:=decide ((0≤x∧x<4294967296)∧(0≤y∧y<4294967296)∧0≤c∧c≤1)
def Zzw (x y c:Int):Value:= .tuple #[uu ((x+y+c) % 4294967296),uu ((x+y+c)/4294967296)]
def ZpO (x y c:Int):Int:=u64.wrap (u64.wrap (u64.wrap x+u64.wrap y)+u64.wrap c)
theorem ZjJ (x y c:Int):ZD (Zr (Zq prog Zf Zo true) 100 216 [uu x,uu y,uu c] []) (.tuple #[uu (u32.wrap (ZpO x y c)),uu (u32.wrap ((ZpO x y c).fdiv (2^min ((32:Int).toNat) 64)))]) [(decide ((32:Int)<0),false)]:=by and_intros<;>kernel_rfl
theorem Zd1 (n:Int):u64.wrap n=n % 18446744073709551616:=by simp [IntKind.wrap,IntKind.bits,IntKind.signed]
theorem Zhj (n:Int):u32.wrap n=n % 4294967296:=by simp [IntKind.wrap,IntKind.bits,IntKind.signed]
def Zl0:Ans:=fun vals s=>
 match vals with
 | [.int .u32 x,.int .u32 y,.int .u32 c]=>some (Zzw x y c,s,[(wd4 x y c,true)])
 | _=>none
theorem Zl1:zT 216 Zl0:=by
 intro vals s v s' lg h hl w;unfold Zl0 at h;split at h
 ·rename_i x y c;cases h;have hr:=hl _ Xf;simp only[wd4,Xi] at hr;have e:ZpO x y c=x+y+c:=by
   unfold ZpO;rw[Zd1,Zd1,Zd1,Zd1,Zd1];omega
  have e2:(2:Int)^min ((32:Int).toNat) 64=4294967296:=rfl;have:=Ze (Zp Zd) (ZjJ x y c) (Zu (by rfl)) (by rfl) (by rfl) w;rw[e,e2,Zhj,Zhj,Int.fdiv_eq_ediv_of_nonneg _ (by omega),Int.emod_eq_of_lt (a:=(x+y+c)/4294967296) (by omega) (by omega)] at this;exact this
 ·cases h
end Go.Proofs.YtgefjidphfdhdaaGreatDoor.Na
namespace Go.Proofs.YtgefjidphfdhdaaGreatDoor
open Go.KRun
set_option maxRecDepth 100000
def inR (i:Int) (n:Nat):Bool×Bool:=(decide (0≤i∧i<n),true)
def ZcP (l:List Value) (o:Nat) (i x:Int):Bool×Bool:=(Z4 (l[o+i.toNat*1]?) (uu x),true)
end Go.Proofs.YtgefjidphfdhdaaGreatDoor
namespace Go.KRun
open Go.RowKit
def ml (front:List Value) (b:Nat) (g:Nat→Value) (mid:List Value) (n:Nat) (g':Nat→Value):List Value:=front++(tl b g++(mid++tl n g'))
def Zgx (r:Option (Ex×Lf×Lg)) (a b c n:Nat) (e:Ex) (front mid:List Value) (h:Hp) (cs:Log):Prop:=
 r.map (fun r=>(r.1,r.2.1.1.take a,((r.2.1.1.drop a).take b).length,((r.2.1.1.drop a).drop b).take c,(((r.2.1.1.drop a).drop b).drop c).length,r.2.1.2.1,r.2.2.cs))=some (e,front,b,mid,n,h,cs)∧
  r.map (fun r=>r.2.2.es.map Prod.fst)=r.map (fun r=>r.2.2.es.map Prod.snd)∧r.map (fun r=>r.2.2.bs.map Prod.fst)=r.map (fun r=>r.2.2.bs.map Prod.snd)
theorem ZjK {r:Option (Ex×Lf×Lg)}{a b c n:Nat}{e:Ex}{front mid:List Value}{h:Hp}{cs:Log}(hG:Zgx r a b c n e front mid h cs) (hcs:Zx cs):∃ g g' s L,r=some (e,(ml front b g mid n g',h,s),L)∧L.ok:=by
 obtain⟨h1,h5,h6⟩:=hG;cases r with
 | none=>cases h1
 | some r=>
  simp only[Option.map_some,Option.some.injEq,Prod.mk.injEq] at h1 h5 h6;obtain⟨e',⟨t',h',s'⟩,L⟩:=r;simp only at h1 h5 h6;obtain⟨h1,h2,h3,h4,h7,h8,h9⟩:=h1;subst h1 h8;obtain⟨g,hg⟩:=Zgu h3;obtain⟨g',hg'⟩:=Zgu h7;refine⟨g,g',s',L,?_,by rw[h9];exact hcs,Zcv _ h5,Zcv _ h6⟩;unfold ml;rw[← h2,← hg,← h4,← hg',List.take_append_drop,List.take_append_drop,List.take_append_drop]
theorem ZaA {T:Tab}(hT:TabOk T) {N:Nat}{c:Code}{t:List Value}{h h':Hp}{s s0:List Dec}{a b k n:Nat}{e:Ex}{front mid:List Value}{cs:Log}(hG:Zgx (evC T N false c (t,h,s) ⟨[],[],[]⟩) a b k n e front mid h' cs) (hcs:Zx cs):
  Runs T c (t,h,s0) fun e' y=>e'=e∧(∃ g g',y.1=ml front b g mid n g')∧y.2.1=h':=by
 obtain⟨g,g',s',L,hr,hL⟩:=ZjK hG hcs;refine Runs.script ((Runs.ev hT hr hL).mono fun e2 y he=> ?_);obtain⟨rfl,rfl⟩:=he;exact⟨rfl,⟨g,g',rfl⟩,rfl⟩
end Go.KRun
namespace Go.Nt
def vN:List Int→Int
 | []=>0
 | x::r=>x+4294967296*vN r
def dg:Nat→Int→List Int
 | 0,_=>[]
 | m+1,V=>V % 4294967296::dg m (V/4294967296)
def wds (L:List Int):Prop:=∀ x∈L,0≤x∧x<4294967296
theorem ZZ:∀ (m:Nat) (V:Int),(dg m V).length=m
 | 0,_=>rfl
 | m+1,V=>by simp [dg,ZZ m]
theorem Zbd:∀ (m:Nat) (V:Int),wds (dg m V)
 | 0,_=>fun x hx=>by cases hx
 | m+1,V=>fun x hx=>by
  simp only[dg,List.mem_cons] at hx;rcases hx with rfl | hx
  ·omega
  ·exact Zbd m _ x hx
theorem Zax {x:Int}{L:List Int}(h:wds (x::L)):(0≤x∧x<4294967296)∧wds L:=⟨h x Xe,fun y hy=>h y (Xd _ hy)⟩
theorem Zhz:∀ L:List Int,wds L→dg L.length (vN L)=L
 | [],_=>rfl
 | x::r,h=>by
  obtain⟨h1,h2⟩:=Zax h;have ih:=Zhz r h2;simp only[List.length_cons,dg,vN];have e1:(x+4294967296*vN r) % 4294967296=x:=by omega
  have e2:(x+4294967296*vN r)/4294967296=vN r:=by omega
  rw[e1,e2,ih]
theorem pw (k:Nat):(4294967296:Int)^(k+1)=4294967296*4294967296^k:=by rw[Int.pow_succ,Int.mul_comm]
theorem ZaI (k:Nat):(0:Int)<4294967296^k:=Int.pow_pos (by omega)
theorem ZpP {i j:Nat}(h:i≤j):(4294967296:Int)^i≤4294967296^j:=by
 have h1:∀ k:Nat,((4294967296^k:Nat):Int)=4294967296^k:=fun k=>by simp
 rw[← h1,← h1];have:=Nat.pow_le_pow_right (n:=4294967296) (by omega) h;omega
theorem Zbe:∀ L:List Int,wds L→0≤vN L∧vN L<4294967296^L.length
 | [],_=>by simp [vN]
 | x::r,h=>by
  obtain⟨h1,h2⟩:=Zax h;have ih:=Zbe r h2;simp only[List.length_cons,vN];rw[pw];omega
theorem z8:∀ (L:List Int) (d:Int),vN (L++[d])=vN L+4294967296^L.length*d
 | [],d=>by simp [vN]
 | x::r,d=>by
  have ih:=z8 r d;simp only[List.cons_append,vN,List.length_cons];rw[ih,pw,Int.mul_assoc,Int.mul_add];omega
theorem ZsV:∀ (L M:List Int),vN (L++M)=vN L+4294967296^L.length*vN M
 | [],M=>by simp [vN]
 | x::r,M=>by
  have ih:=ZsV r M;simp only[List.cons_append,vN,List.length_cons];rw[ih,pw,Int.mul_assoc,Int.mul_add];omega
theorem Zas {L M:List Int}(h1:wds L) (h2:wds M):wds (L++M):=fun x hx=>by
 rcases List.mem_append.1 hx with hx | hx
 ·exact h1 x hx
 ·exact h2 x hx
end Go.Nt
namespace Go.Proofs.YtgefjidphfdhdaaGreatDoor.Na
open Go.Proofs.Tryz
open Go.IntKind
open Go.KRun Go.Nt
set_option maxRecDepth 100000
def Zh0:Con:=alt 216 Zl0 Zo
theorem Zcj:ConOk Zh0:=ZM func216 rfl Zl1 Zd
def sn (k:Nat) (F:Func):Code:=match k with | 0=>Zs F | k+1=>Z0 (sn k F)
def nP (n:Nat):Int:=i64.wrap ((n:Int)+1)
def cpy (la:List Value) (o n:Nat):List Value:=(List.replicate (nP n).toNat (uu 0)).take 0++(la.drop o).take (Nat.min n (nP n).toNat)++(List.replicate (nP n).toNat (uu 0)).drop (0+Nat.min n (nP n).toNat)
def h3 (la lb S:List Value):Hp:=⟨3,[(S,tU),(lb,tR),(la,tR)]⟩
def Z4f (la:List Value) (o n:Nat):Bool:= !(Zad tR) && !(ro tU) && Nat.ble (o+Nat.min n (nP n).toNat) la.length && Nat.ble (0+Nat.min n (nP n).toNat) (List.replicate (nP n).toNat (uu 0)).length && ((la.drop o).take (Nat.min n (nP n).toNat)).all one
end Go.Proofs.YtgefjidphfdhdaaGreatDoor.Na
namespace Go.Proofs.YtgefjidphfdhdaaGreatDoor
open Go.KRun Go.Nt
set_option maxRecDepth 100000
theorem ZsW (dx:List Int) (x:Int) (px:List Int):(wU (dx++x::px))[dx.length]? =some (uu x):=by
 unfold wU;simp [uu]
theorem Ziw (dx:List Int) (x d:Int) (px:List Int):(wU (dx++x::px)).set dx.length (uu d)=wU ((dx++[d])++px):=by
 unfold wU uu;simp
theorem Za2 {S:List Value}{o k:Nat}{x:Int}(h:S[o+k]? =some (uu x)):(ZcP S o k x).1=(ZcP S o k x).2:=by
 unfold ZcP;simp only[Xg,Nat.mul_one];rw[h];simp [Z4,uu]
end Go.Proofs.YtgefjidphfdhdaaGreatDoor
namespace Go.Proofs.YtgefjidphfdhdaaGreatDoor.Na
open Go.KRun Go.Nt
set_option maxRecDepth 100000
theorem Zzx {n:Nat}(h:n≤8192):nP n=((n+1:Nat):Int):=by unfold nP;rw[Zw (by omega) (by omega)];omega
theorem Zix {n:Nat}(h:n≤8192):(nP n).toNat=n+1:=by rw[Zzx h,Xg]
theorem Zl2 {la:List Value}{o:Nat}{L:List Int}(hR:Row la o L) (h:L.length≤8192):cpy la o L.length=wU (L++[0]):=by
 unfold cpy;rw[Zix h,show Nat.min L.length (L.length+1)=L.length from by simp];have e1:(la.drop o).take L.length=wU L:=hR.cut;rw[e1,Nat.zero_add,List.take_zero,List.nil_append,List.drop_replicate,show L.length+1-L.length=1 from by omega];unfold wU uu;simp
theorem Zl3 {la:List Value}{o:Nat}{L:List Int}(hR:Row la o L) (h:L.length≤8192):Z4f la o L.length=true:=by
 unfold Z4f;rw[Zix h,show Nat.min L.length (L.length+1)=L.length from by simp];have e1:(la.drop o).take L.length=wU L:=hR.cut;rw[e1,Zbp,show ro tU=false from by kernel_rfl];have h1:Nat.ble (o+L.length) la.length=true:=Nat.ble_eq_true_of_le hR.len;have h2:Nat.ble (0+L.length) (List.replicate (L.length+1) (uu 0)).length=true:=Nat.ble_eq_true_of_le (by simp);have h3:((wU L).all one)=true:=by
  unfold wU;rw[List.all_eq_true];intro v hv;obtain⟨x,_,rfl⟩:=List.mem_map.1 hv;rfl
 rw[h1,h2,h3];rfl
theorem Zzy {n:Nat}(h:n≤8192):ZO 4 (nP n) (nP n)=true:=by
 rw[Zzx h];exact Xa (by omega)
theorem ZsX {L:List Int}(h:wds L) {c:Nat}(hc:L.length≤c) (h2:ZG c=true):Z8 tU (wU L) 0 L.length c=true∧Zz (wU L) 0 L.length=L:=by
 have e1:ZbR (wU L) 0 L.length=wU L:=by
  unfold ZbR;rw[List.drop_zero];exact List.take_of_length_le (by unfold wU;simp)
 have e2:Zz (wU L) 0 L.length=L:=by
  unfold Zz;rw[e1];unfold wU;rw[List.map_map];exact (List.map_congr_left fun x _=>rfl).trans (List.map_id' _)
 refine⟨?_,e2⟩;unfold Z8;rw[e1,h2,show Zad tU=false from by kernel_rfl,show Nat.beq (rt tU) tU=true from by kernel_rfl,Nat.ble_eq_true_of_le (show 0+L.length≤(wU L).length by unfold wU;simp),Nat.ble_eq_true_of_le hc];have h3:((wU L).all isU)=true:=by
  unfold wU;rw[List.all_eq_true];intro v hv;obtain⟨x,hx,rfl⟩:=List.mem_map.1 hv;exact Xa (h x hx)
 have h4:((wU L).all still)=true:=by
  unfold wU;rw[List.all_eq_true];intro v hv;obtain⟨x,_,rfl⟩:=List.mem_map.1 hv;rfl
 rw[h3,h4];rfl
theorem Zcz {L:List Int}(h:ZS L=false):L.length≤8192:=by
 unfold ZS at h;simp only[Bool.or_eq_false_iff,decide_eq_false_iff_not] at h;omega
theorem ZcW (L:List Int):∀ u∈wU L,lt1 0 u=true:=fun u hu=>by
 unfold wU at hu;obtain⟨x,_,rfl⟩:=List.mem_map.1 hu;rfl
theorem Zec:ro tU=false:=by kernel_rfl
end Go.Proofs.YtgefjidphfdhdaaGreatDoor.Na
namespace Go.Proofs.YtgefjidphfdhdaaGreatDoor.Na
open Go.Proofs.Tryz
open Go.IntKind
open Go.KRun Go.Nt
set_option maxRecDepth 100000
def bnt (z:Int):Int:=u32.wrap ((BitVec.ofInt 32 4294967295 ^^^ BitVec.ofInt 32 z).toNat:Nat)
def bnd (x y:Int):Int:=u32.wrap ((BitVec.ofInt 32 x &&& BitVec.ofInt 32 y).toNat:Nat)
def bxr (x y:Int):Int:=u32.wrap ((BitVec.ofInt 32 x ^^^ BitVec.ofInt 32 y).toNat:Nat)
def brr (x y:Int):Int:=u32.wrap ((BitVec.ofInt 32 x ||| BitVec.ofInt 32 y).toNat:Nat)
def Zzz (x y c:Int):Int:=u32.wrap (u32.wrap (x-y)-c)
def Z4J (x y c:Int):Int:=(brr (bnd (bnt x) y) (bnd (bnt (bxr x y)) (Zzz x y c))).fdiv (2^min ((31:Int).toNat) 32)
theorem ZjL (x y c:Int):ZD (Zr (Zq prog Zf Zo true) 100 215 [uu x,uu y,uu c] []) (.tuple #[uu (Zzz x y c),uu (Z4J x y c)]) [(decide ((31:Int)<0),false)]:=by and_intros<;>kernel_rfl
theorem ZjM (v:BitVec 32):BitVec.ofInt 32 (u32.wrap (v.toNat:Nat))=v:=by
 rw[Zhj];have h:=v.isLt;apply BitVec.eq_of_toNat_eq;simp;omega
theorem ZpQ (v:BitVec 32):u32.wrap (v.toNat:Nat)=v.toNat:=by
 rw[Zhj];have h:=v.isLt;omega
theorem Zum (v:BitVec 32):v.toNat/2147483648=if v.getLsbD 31=true then 1 else 0:=by
 have h:=v.isLt;unfold BitVec.getLsbD;rw[Nat.testBit_eq_decide_div_mod_eq];have e:(2:Nat)^31=2147483648:=rfl;rw[e];by_cases h1:v.toNat/2147483648 % 2=1
 ·rw[Xa h1];simp;omega
 ·rw[Xb h1];simp;omega
theorem Ziy {x:Int}(h0:0≤x) (h1:x<4294967296):(BitVec.ofInt 32 x).getLsbD 31=decide (2147483648≤x):=by
 have e:(BitVec.ofInt 32 x).toNat=x.toNat:=by simp;omega
 unfold BitVec.getLsbD;rw[e,Nat.testBit_eq_decide_div_mod_eq];have e2:(2:Nat)^31=2147483648:=rfl;rw[e2];by_cases h:2147483648≤x
 ·rw[Xa h];exact Xa (by omega)
 ·rw[Xb h];exact Xb (by omega)
def Zgy (x y c:Int):Int:=(x-y-c) % 4294967296
def ZjN (x y c:Int):Int:=if x<y+c then 1 else 0
theorem ZpR {x y c:Int}(hx:0≤x∧x<4294967296) (hy:0≤y∧y<4294967296) (hc:0≤c∧c≤1):Zzz x y c=Zgy x y c∧Z4J x y c=ZjN x y c:=by
 have e1:Zzz x y c=Zgy x y c:=by
  unfold Zzz Zgy;rw[Zhj,Zhj];omega
 refine⟨e1,?_⟩;have d0:0≤Zgy x y c∧Zgy x y c<4294967296:=by unfold Zgy;omega
 unfold Z4J;rw[e1];unfold brr bnd bnt bxr;simp only[ZjM];rw[ZpQ,show (2:Int)^min ((31:Int).toNat) 32=2147483648 from rfl,Int.fdiv_eq_ediv_of_nonneg _ (by omega)];have key:=Zum ((BitVec.ofInt 32 4294967295 ^^^ BitVec.ofInt 32 x) &&& BitVec.ofInt 32 y ||| (BitVec.ofInt 32 4294967295 ^^^ (BitVec.ofInt 32 x ^^^ BitVec.ofInt 32 y)) &&& BitVec.ofInt 32 (Zgy x y c));simp only[BitVec.getLsbD_or,BitVec.getLsbD_and,BitVec.getLsbD_xor,Ziy hx.1 hx.2,Ziy hy.1 hy.2,Ziy d0.1 d0.2,Ziy (x:=4294967295) (by omega) (by omega)] at key;rw[show decide ((2147483648:Int)≤4294967295)=true from rfl] at key;generalize hV:((BitVec.ofInt 32 4294967295 ^^^ BitVec.ofInt 32 x) &&& BitVec.ofInt 32 y ||| (BitVec.ofInt 32 4294967295 ^^^ (BitVec.ofInt 32 x ^^^ BitVec.ofInt 32 y)) &&& BitVec.ofInt 32 (Zgy x y c)).toNat=V at*;have cast:((V:Nat):Int)/2147483648=((V/2147483648:Nat):Int):=by omega
 rw[cast,key];unfold ZjN;unfold Zgy at*;by_cases a1:2147483648≤x<;>by_cases a2:2147483648≤y<;>by_cases a3:2147483648≤(x-y-c) % 4294967296<;>simp only[a1,a2,a3,decide_true,decide_false]<;>split<;>split<;>simp_all<;>omega
def Zz0 (x y c:Int):Value:= .tuple #[uu (Zgy x y c),uu (ZjN x y c)]
def Zl4:Ans:=fun vals s=>
 match vals with
 | [.int .u32 x,.int .u32 y,.int .u32 c]=>some (Zz0 x y c,s,[(wd4 x y c,true)])
 | _=>none
theorem Zl5:zT 215 Zl4:=by
 intro vals s v s' lg h hl w;unfold Zl4 at h;split at h
 ·rename_i x y c;cases h;have hr:=hl _ Xf;simp only[wd4,Xi] at hr;obtain⟨e1,e2⟩:=ZpR hr.1 hr.2.1 hr.2.2;have:=Ze (Zp Zd) (ZjL x y c) (Zu (by rfl)) (by rfl) (by rfl) w;rw[e1,e2] at this;exact this
 ·cases h
def Ziz:Con:=alt 215 Zl4 Zo
theorem ZcX:ConOk Ziz:=ZM func215 rfl Zl5 Zd
def cpS (la:List Value) (o n:Nat):List Value:=(List.replicate ((n:Int)).toNat (uu 0)).take 0++(la.drop o).take (Nat.min n ((n:Int)).toNat)++(List.replicate ((n:Int)).toNat (uu 0)).drop (0+Nat.min n ((n:Int)).toNat)
def Z4K (la:List Value) (o n:Nat):Bool:= !(Zad tR) && !(ro tU) && Nat.ble (o+Nat.min n ((n:Int)).toNat) la.length && Nat.ble (0+Nat.min n ((n:Int)).toNat) (List.replicate ((n:Int)).toNat (uu 0)).length && ((la.drop o).take (Nat.min n ((n:Int)).toNat)).all one
end Go.Proofs.YtgefjidphfdhdaaGreatDoor.Na
namespace Go.Nt
theorem Zgz {L:List Int}(h:wds L) (h0:0<L.length) (ht:L.getD (L.length-1) 0≠0):4294967296^(L.length-1)≤vN L:=by
 induction L with
 | nil=>simp at h0
 | cons x r ih=>
  obtain⟨h1,h2⟩:=Zax h;cases r with
  | nil=>
   simp at ht ⊢;simp [vN];omega
  | cons y r=>
   have:=ih h2 (by simp) (by simpa using ht);simp only[List.length_cons,Nat.add_sub_cancel] at this ⊢;rw[pw];have e:vN (x::y::r)=x+4294967296*vN (y::r):=rfl;rw[e];omega
theorem Za3 {L:List Int}{k:Nat}(h:k<L.length):L.take (k+1)=L.take k++[L.getD k 0]:=by
 rw[List.take_add_one,List.getElem?_eq_getElem h];simp [List.getD,List.getElem?_eq_getElem h]
theorem Zc0 {L:List Int}(h:wds L) (k:Nat):wds (L.take k):=fun x hx=>h x (List.mem_of_mem_take hx)
theorem ZeP {L M:List Int}(hL:wds L) (hM:wds M):∀ k,k≤L.length→k≤M.length→(Zaq L M k<0↔vN (L.take k)<vN (M.take k))∧(Zaq L M k=0↔vN (L.take k)=vN (M.take k))
 | 0,_,_=>by simp [Zaq,vN]
 | k+1,h1,h2=>by
  have ih:=ZeP hL hM k (by omega) (by omega);have bL:=Zbe (L.take k) (Zc0 hL k);have bM:=Zbe (M.take k) (Zc0 hM k);have lL:(L.take k).length=k:=by simp;omega
  have lM:(M.take k).length=k:=by simp;omega
  rw[lL] at bL;rw[lM] at bM;rw[Za3 (by omega:k<L.length),Za3 (by omega:k<M.length),z8,z8,lL,lM];simp only[Zaq];generalize L.getD k 0=x;generalize M.getD k 0=y;have hp:=ZaI k;by_cases hxy:x=y
  ·subst hxy;rw[if_pos rfl];omega
  ·rw[if_neg hxy];by_cases hlt:x<y
   ·rw[if_pos hlt];have:4294967296^k*x+4294967296^k≤4294967296^k*y:=by
     have:=Int.mul_le_mul_of_nonneg_left (show x+1≤y by omega) (Int.le_of_lt hp);rw[Int.mul_add,Int.mul_one] at this;exact this
    omega
   ·rw[if_neg hlt];have:4294967296^k*y+4294967296^k≤4294967296^k*x:=by
     have:=Int.mul_le_mul_of_nonneg_left (show y+1≤x by omega) (Int.le_of_lt hp);rw[Int.mul_add,Int.mul_one] at this;exact this
    omega
def Zbn (L:List Int):Prop:=wds L∧(L.length=0∨L.getD (L.length-1) 0≠0)
theorem Zi0 {L M:List Int}(hL:Zbn L) (hM:Zbn M):(Zci L M<0↔vN L<vN M)∧(Zci L M=0↔vN L=vN M):=by
 obtain⟨wL,tL⟩:=hL;obtain⟨wM,tM⟩:=hM;unfold Zci;by_cases hl:L.length=M.length
 ·rw[if_pos hl];have:=ZeP wL wM L.length (Nat.le_refl _) (by omega);rw[List.take_length,hl,List.take_length] at this;rw[hl];exact this
 ·rw[if_neg hl];have bL:=Zbe L wL;have bM:=Zbe M wM;by_cases hlt:L.length<M.length
  ·rw[if_pos hlt];have h1:=Zgz wM (by omega) (by rcases tM with h | h;omega;exact h);have h2:=ZpP (show L.length≤M.length-1 by omega);omega
  ·rw[if_neg hlt];have h1:=Zgz wL (by omega) (by rcases tL with h | h;omega;exact h);have h2:=ZpP (show M.length≤L.length-1 by omega);omega
end Go.Nt
namespace Go.Proofs.YtgefjidphfdhdaaGreatDoor.Na
open Go.KRun Go.Nt
set_option maxRecDepth 100000
theorem Zg0 {x y c:Int}(hx:0≤x∧x<4294967296) (hy:0≤y∧y<4294967296) (hc:0≤c∧c≤1):(0≤Zgy x y c∧Zgy x y c<4294967296)∧(0≤ZjN x y c∧ZjN x y c≤1)∧x-y-c=Zgy x y c-4294967296*ZjN x y c:=by
 unfold Zgy ZjN;split<;>omega
theorem ZsY {la:List Value}{o:Nat}{L:List Int}(hR:Row la o L):cpS la o L.length=wU L:=by
 unfold cpS;rw[Xg,show Nat.min L.length L.length=L.length from by simp];have e1:(la.drop o).take L.length=wU L:=hR.cut;rw[e1,Nat.zero_add,List.take_zero,List.nil_append,List.drop_replicate,Nat.sub_self];simp
theorem Zun {la:List Value}{o:Nat}{L:List Int}(hR:Row la o L):Z4K la o L.length=true:=by
 unfold Z4K;rw[Xg,show Nat.min L.length L.length=L.length from by simp];have e1:(la.drop o).take L.length=wU L:=hR.cut;rw[e1,Zbp,Zec];have h1:Nat.ble (o+L.length) la.length=true:=Nat.ble_eq_true_of_le hR.len;have h2:Nat.ble (0+L.length) (List.replicate L.length (uu 0)).length=true:=Nat.ble_eq_true_of_le (by simp);have h3:((wU L).all one)=true:=by
  unfold wU;rw[List.all_eq_true];intro v hv;obtain⟨x,_,rfl⟩:=List.mem_map.1 hv;rfl
 rw[h1,h2,h3];rfl
theorem ZeQ {L:List Int}(hw:wds L) (h:ZS L=false):Zbn L:=by
 unfold ZS at h;simp only[Bool.or_eq_false_iff,decide_eq_false_iff_not,Bool.and_eq_false_iff,beq_eq_false_iff_ne,ne_eq] at h;refine⟨hw,?_⟩;rcases h.2 with h | h
 ·exact .inl (by omega)
 ·exact .inr h
theorem Zl6 {L M:List Int}(hL:Zbn L) (hM:Zbn M) (h:vN M≤vN L):M.length≤L.length:=by
 rcases Nat.lt_or_ge L.length M.length with hlt | hge
 ·exfalso
  have h1:=Zgz hM.1 (by omega) (by rcases hM.2 with h | h;omega;exact h);have h2:=ZpP (show L.length≤M.length-1 by omega);have:=Zbe L hL.1;omega
 ·exact hge
end Go.Proofs.YtgefjidphfdhdaaGreatDoor.Na
namespace Go.KRun
open Go.RowKit
theorem Zuo {m:Mp}{B:Nat}{t t':List Value}{h h':Hp}{s:List Dec}{a:Act}{w:World}(R:Rel m B (t,h,s) a w) (f:Nat→Nat) (hl:h'.l.length=h'.n)
  (hb:∀ i x,h'.blk? i=some x→(∀ v∈x.1,still v=true)∧∃ y r,h.blk? (f i)=some y∧y.2=x.2∧y.1=x.1++r)
  (hi:∀ i j x y,h'.blk? i=some x→h'.blk? j=some y→ro x.2=false→ro y.2=false→f i=f j→i=j)
  (ht:t'.map (mv fun i=>m (f i))=t.map (mv m)) (hw:∀ v∈t',lt h'.n v=true):Rel (fun i=>m (f i)) B (t',h',s) a w:=by
 have E:=R.emb;refine⟨by rw[R.tmps];simp only;rw[ht],R.dfr,?_,hw⟩;refine⟨hl,?_,?_,?_,?_,?_,E.base,E.ice,?_⟩
 ·intro b x hx ht;obtain⟨q1,y,r,q2,q3,q4⟩:=hb b x hx;obtain⟨r0,z,e1,e2,e3⟩:=E.lies (f b) y q2 (by rw[q3];exact ht);rw[q4,List.map_append,ZdN (m':=fun i=>m (f i)) q1] at e1 e2;refine⟨r.map (mv1 m)++r0,z,by rw[← e1];simp;omega,by rw[e2,List.append_assoc],by rw[← q3];exact e3⟩
 ·intro b x hx hr;obtain⟨_,y,r,q2,q3,_⟩:=hb b x hx;exact E.low (f b) y q2 (by rw[q3];exact hr)
 ·intro b x hx ht hr;obtain⟨_,y,r,q2,q3,_⟩:=hb b x hx;exact E.ros (f b) y q2 (by rw[q3];exact ht) (by rw[q3];exact hr)
 ·intro b b' x x' hx hx' hr hr' he;obtain⟨_,y,r,q2,q3,_⟩:=hb b x hx;obtain⟨_,y',r',q2',q3',_⟩:=hb b' x' hx';exact hi b b' x x' hx hx' hr hr' (E.inj _ _ y y' q2 q2' (by rw[q3];exact hr) (by rw[q3'];exact hr') he)
 ·intro b x hx v hv;exact zv (Nat.lt_of_le_of_lt (Nat.zero_le _) (Hp.blk_lt hx)) ((hb b x hx).1 v hv)
 ·intro b x hx ha;obtain⟨q1,y,r,q2,q3,q4⟩:=hb b x hx;obtain⟨e1,r0,t0,z,e2,e3⟩:=E.abs (f b) y q2 (by rw[q3];exact ha);rw[q3] at e1 e2 e3;rw[q4,List.map_append,ZdN (m':=fun i=>m (f i)) q1] at e2 e3;exact⟨e1,r.map (mv1 m)++r0,t0,z,by rw[e2,List.append_assoc],by rw[List.length_append];rw[List.length_append] at e3;omega⟩
theorem Z8A {m:Mp}(f:Nat→Nat) {front front' rest:List Value}(h:front'.map (rn f)=front):(front'++rest.map (fun v=>Value.iface zo (mv m v))).map (mv fun i=>m (f i))=(front++rest).map (mv m):=by
 rw[List.map_append,List.map_append,← h,List.map_map,List.map_map];congr 1
 ·exact List.map_congr_left fun v _=>(Zcu m f v).symm
theorem RunsW.small {T:Tab}{c:Code}{x:Lf}{P:Ex→Lf→Prop}(hr:RunsW T c x P) {P':Ex→Lf→Prop}
  (hp:∀ e y,P e y→P' e y∨∃ (front front' rest:List Value) (h h':Hp) (s:List Dec) (f:Nat→Nat),y=(front++rest,h,s)∧front'.map (rn f)=front∧h'.l.length=h'.n∧0<h'.n∧
   (∀ i x,h'.blk? i=some x→(∀ v∈x.1,still v=true)∧∃ y r,h.blk? (f i)=some y∧y.2=x.2∧y.1=x.1++r)∧
   (∀ i j x y,h'.blk? i=some x→h'.blk? j=some y→ro x.2=false→ro y.2=false→f i=f j→i=j)∧(∀ v∈front',lt h'.n v=true)∧∀ g,P' e (front'++tl rest.length g,h',s)):RunsW T c x P':=by
 intro m B a w R Q hQ;refine hr m B a w R Q fun e y he m' a' w' R' hb'=> ?_;rcases hp e y he with h1 | ⟨front,front',rest,h,h',s,f,rfl,e1,e2,e3,e4,e5,e6,e7⟩
 ·exact hQ e y h1 m' a' w' R' hb'
 ·obtain⟨g,hg⟩:=Zgu (J:=rest.map (fun v=>Value.iface zo (mv m' v))) (n:=rest.length) (by simp);refine hQ e _ (e7 g) _ a' w' (Zuo R' f e2 e4 e5 (by rw[← hg];exact Z8A f e1) ?_) hb';intro v hv;rw[← hg] at hv;rcases List.mem_append.1 hv with hv | hv
  ·exact e6 v hv
  ·obtain⟨u,_,rfl⟩:=List.mem_map.1 hv;simp [lt,lt2,lt1,e3,zo]
theorem RunsW.forLoop {T:Tab}{c:Code}{id:Nat}{x:Lf}{P:Lf→Prop}{R:Lf→Prop}(Inv:Nat→Lf→Prop)
  (round:∀ n x,Inv n x→RunsW T c x fun e y=>match e with | none=>∃ n',n'<n∧Inv n' y | some none=>R y | some (some id')=>id'=id∧P y) {n:Nat}(h0:Inv n x):
  RunsW T (.block id (.loop c)) x fun e y=>match e with | none=>P y | some none=>R y | some (some _)=>False:=by
 refine RunsW.block (P1:=fun e y=>match e with | none=>False | some none=>R y | some (some id')=>id'=id∧P y) ?_ (fun y he=>he.elim) (fun y he=>he) (fun y he=>he.2) (fun id' y hid he=>absurd he.1 hid);refine RunsW.loop Inv (fun n x hI=>(round n x hI).mono fun e y he=> ?_) h0
 match e,he with
 | none,he=>exact he
 | some none,he=>exact he
 | some (some id'),he=>exact he
theorem Zb {T:Tab}(hT:TabOk T) {N:Nat}{c:Code}{t:List Value}{h h':Hp}{s s0:List Dec}{k n:Nat}{e:Ex}{front:List Value}{cs:Log}(hG:Zg (evC T N false c (t,h,s) ⟨[],[],[]⟩) k n e front h' cs) (hcs:Zx cs):
  RunsW T c (t,h,s0) fun e' y=>e'=e∧(∃ g,y.1=front++tl n g)∧y.2.1=h':=(Zc hT hG hcs).w
theorem ZeR (n:Nat) (g:Nat→Value):(tl n g).length=n:=by simp [tl]
theorem Zl7 {x y:List Value×TypeId}{i:Nat}{z:List Value×TypeId}(h:(⟨2,[y,x]⟩:Hp).blk? i=some z):(i=0∧z=x)∨(i=1∧z=y):=by
 have:i<2:=Hp.blk_lt h;have:i=0∨i=1:=by omega
 rcases this with rfl | rfl
 ·exact .inl ⟨rfl,(Option.some.inj h).symm⟩
 ·exact .inr ⟨rfl,(Option.some.inj h).symm⟩
def zK (k b:Nat) (i:Nat):Nat:=if Nat.blt i k=true then i else b
theorem ZjO {base:List (List Value×TypeId)}{k:Nat}(hk:base.length=k) {y:List Value×TypeId}{i:Nat}{z:List Value×TypeId}(h:(⟨k+1,y::base⟩:Hp).blk? i=some z):(i<k∧(⟨k,base⟩:Hp).blk? i=some z)∨(i=k∧z=y):=by
 have hi:i<k+1:=Hp.blk_lt h;by_cases h0:i=k
 ·subst h0;have:(⟨i+1,y::base⟩:Hp).blk? i=some y:=by
   unfold Hp.blk?;rw[if_pos (Zl.2 (by show i<i+1;omega))];show (y::base)[i+1-1-i]? =some y;rw[show i+1-1-i=0 from by omega];rfl
  rw[this] at h;exact .inr ⟨rfl,(Option.some.inj h).symm⟩
 ·refine .inl ⟨by omega,?_⟩;unfold Hp.blk? at h ⊢;rw[if_pos (Zl.2 (by show i<k+1;omega))] at h;rw[if_pos (Zl.2 (by show i<k;omega))];have e:k+1-1-i=(k-1-i)+1:=by omega
  have h':(y::base)[k+1-1-i]? =some z:=h;rw[e,List.getElem?_cons_succ] at h';exact h'
theorem RunsW.kept {T:Tab}{c:Code}{x0:Lf}{ex:Ex}{front front':List Value}{n k b:Nat}{h:Hp}{base:List (List Value×TypeId)}{y:List Value×TypeId}(hr:RunsW T c x0 fun e z=>e=ex∧(∃ g,z.1=front++tl n g)∧z.2.1=h)
  (hk:base.length=k) (hf:front'.map (rn (zK k b))=front) (hx:∀ i x,(⟨k,base⟩:Hp).blk? i=some x→h.blk? i=some x∧∀ v∈x.1,still v=true) (hy:h.blk? b=some y) (hb:k≤b) (sy:∀ v∈y.1,still v=true) (hw:∀ v∈front',lt (k+1) v=true):
  RunsW T c x0 fun e z=>e=ex∧(∃ g,z.1=front'++tl n g)∧z.2.1=⟨k+1,y::base⟩:=by
 refine hr.small fun e z he=> .inr ?_;obtain⟨rfl,⟨g,h1⟩,h2⟩:=he;obtain⟨t,h',s⟩:=z;simp only at h1 h2;subst h1 h2;refine⟨front,front',tl n g,h',⟨k+1,y::base⟩,s,zK k b,rfl,hf,by simp [hk],Nat.succ_pos _,fun i z hz=> ?_,fun i j u v hi hj _ _ hij=> ?_,hw,fun g'=>⟨rfl,⟨g',by rw[ZeR]⟩,rfl⟩⟩
 ·rcases ZjO hk hz with ⟨hi,hz'⟩ | ⟨rfl,rfl⟩
  ·obtain⟨q1,q2⟩:=hx i z hz';exact⟨q2,z,[],by unfold zK;rw[if_pos (Zl.2 hi)];exact q1,rfl,by simp⟩
  ·exact⟨sy,z,[],by unfold zK;rw[if_neg (by rw[Zl];omega)];exact hy,rfl,by simp⟩
 ·unfold zK at hij;rcases ZjO hk hi with ⟨h1,_⟩ | ⟨rfl,_⟩<;>rcases ZjO hk hj with ⟨h2,_⟩ | ⟨rfl,_⟩
  ·rw[if_pos (Zl.2 h1),if_pos (Zl.2 h2)] at hij;exact hij
  ·rw[if_pos (Zl.2 h1),if_neg (by rw[Zl];omega)] at hij;omega
  ·rw[if_pos (Zl.2 h2),if_neg (by rw[Zl];omega)] at hij;omega
  ·rfl
theorem ZB {T:Tab}{f:Nat}{F:Func}{c:Code}(hF:T.P.funcs[f]? =some F) (hc:F.body=some c) {h0:Hp}(hr:h0.rows) {vals:List Value}(hvals:∀ v∈vals,lt h0.n v=true) {v:Value}(hv:lt 0 v=true)
  (hrun:RunsW T c (vals++List.replicate (F.ntmps-vals.length) undef,h0,[]) fun e y=>(e=none∨e=some none)∧ZV T.P F y.1 y.2.1=some v)
  {m:Mp}{B:Nat}{h:Hp}{w:World}(E:Emb m B h w) {s:Nat→Nat}(hf:h0.fits s h):
  Calls T.P f ((vals.map (rn s)).map (mv m)).toArray w fun e w'=>∃ m',e= .returned (mv m' v)∧Came m B h w v h m' w':=by
 have E0:=E.small hr hf;have ev:(vals.map (rn s)).map (mv m)=vals.map (mv fun i=>m (s i)):=by
  rw[List.map_map];exact List.map_congr_left fun y _=>Zcu m s y
 rw[ev];refine calls_of_wp hF hc ?_;have R:Rel (fun i=>m (s i)) w.heap.size (vals++List.replicate (F.ntmps-vals.length) undef,h0,[]) {tmps:=(vals.map (mv fun i=>m (s i))).toArray++Array.replicate (F.ntmps-(vals.map (mv fun i=>m (s i))).toArray.size) undef,defers:=[]} w:=by
  refine⟨?_,rfl,E0,?_⟩
  ·simp [zu]
  ·intro y hy;rcases List.mem_append.1 hy with hy | hy
   ·exact hvals y hy
   ·rw[List.eq_of_mem_replicate hy];simp [undef,lt]
 refine hrun _ _ _ w R _ fun e y he m1 a' w' k2 k3=> ?_;obtain⟨hex,hres⟩:=he;obtain⟨r1,r2⟩:=Zah k2.emb k2.wf hres;rw[← k2.tmps,ZA hv] at r1;have td:Za0 w w':=⟨k3,fun k h1 h2=>k2.emb.ice k h1 h2⟩;obtain⟨E',hb⟩:=ZT E td;have post:a'.defers=[]∧∃ v',(results F a'.tmps).run T.P w'= .ok v' w'∧∃ m',Ending.returned v'= .returned (mv m' v)∧Came m B h w v h m' w':=
  ⟨k2.dfr,_,r1,m,by rw[ZA hv],⟨Agree.refl _ _,E',hb,Nat.le_refl _,zG (Nat.zero_le _) hv⟩⟩
 rcases hex with rfl | rfl<;>exact post
end Go.KRun
namespace Go.Nt
def vb (b:Nat):List Int→Nat
 | []=>0
 | x::l=>x.toNat+b*vb b l
def db (b V:Nat):List Int:=if _h:V=0∨b<2 then [] else ((V % b:Nat):Int)::db b (V/b)
 termination_by V
 decreasing_by exact Nat.div_lt_self (by omega) (by omega)
abbrev Dg (b:Nat) (x:Int):Prop:=0≤x∧x<b
theorem zc (b:Nat):db b 0=[]:=by rw[db];simp
theorem ZaU {b V:Nat}(hb:2≤b) (hV:V≠0):db b V=((V % b:Nat):Int)::db b (V/b):=by
 rw[db];rw[dif_neg (by omega)]
theorem Zc1 {b:Nat}(hb:2≤b) (V:Nat):vb b (db b V)=V:=by
 induction V using Nat.strongRecOn with
 | ind V ih=>
  by_cases hV:V=0
  ·subst hV;rw[zc];rfl
  ·rw[ZaU hb hV];simp only[vb];rw[ih (V/b) (Nat.div_lt_self (by omega) (by omega)),Xg];exact Nat.mod_add_div V b
theorem ZjP {b:Nat}(hb:2≤b) (V:Nat):∀ x∈db b V,Dg b x:=by
 induction V using Nat.strongRecOn with
 | ind V ih=>
  by_cases hV:V=0
  ·subst hV;rw[zc];intro x hx;cases hx
  ·rw[ZaU hb hV];intro x hx;rcases List.mem_cons.1 hx with rfl | hx
   ·have:=Nat.mod_lt V (show b>0 by omega);exact⟨by omega,by omega⟩
   ·exact ih (V/b) (Nat.div_lt_self (by omega) (by omega)) x hx
theorem Zcc {b V:Nat}(hb:2≤b):db b V=[]↔V=0:=by
 constructor
 ·intro h;by_cases hV:V=0
  ·exact hV
  ·rw[ZaU hb hV] at h;cases h
 ·rintro rfl;exact zc b
theorem zf {b:Nat}(hb:2≤b):∀ (L:List Int),(∀ x∈L,Dg b x)→L.take (Zi L)=db b (vb b L)
 | [],_=>by simp [vb,zc]
 | x::r,h=>by
  have ih:=zf hb r (fun y hy=>h y (Xd _ hy));have hx:=h x (Xe);have hxn:((x.toNat:Nat):Int)=x:=Int.toNat_of_nonneg hx.1;have hlt:x.toNat<b:=by omega
  have e1:(x.toNat+b*vb b r) % b=x.toNat:=by rw[Nat.add_mul_mod_self_left,Nat.mod_eq_of_lt hlt]
  have e2:(x.toNat+b*vb b r)/b=vb b r:=by rw[Nat.add_mul_div_left _ _ (by omega),Nat.div_eq_of_lt hlt,Nat.zero_add]
  unfold Zi;by_cases h0:Zi r=0
  ·rw[if_pos h0];rw[h0,List.take_zero] at ih;have hv:vb b r=0:=(Zcc hb).1 ih.symm;by_cases hx0:x=0
   ·rw[if_pos hx0];simp only[List.take_zero,vb,hv,hx0];simp [zc]
   ·rw[if_neg hx0];have hx1:x.toNat≠0:=by omega
    show [x]=_;simp only[vb];rw[ZaU hb (by rw[hv];omega),e1,e2,hv,zc,hxn]
  ·rw[if_neg h0];have hv:vb b r≠0:=fun hv=>by
    rw[hv,zc] at ih;have hl:=congrArg List.length ih;have:=zQ r;simp at hl;rcases hl with hl | hl
    ·exact h0 hl
    ·subst hl;exact h0 rfl
   have hpos:0<b*vb b r:=Nat.mul_pos (by omega) (by omega);show x::r.take (Zi r)=_;simp only[vb];rw[ZaU hb (by omega),e1,e2,hxn,ih]
theorem Zaj {b:Nat}(hb:2≤b) {L:List Int}(h:∀ x∈L,Dg b x):Zi L=(db b (vb b L)).length:=by
 rw[← zf hb L h];have:=zQ L;simp;omega
def Zbq (b:Nat) (L:List Int):Prop:=(∀ x∈L,Dg b x)∧Zi L=L.length
theorem Zc2 {b:Nat}(hb:2≤b) (V:Nat):Zbq b (db b V):=by
 have h:=ZjP hb V;refine⟨h,?_⟩;have:=Zaj hb h;rw[Zc1 hb] at this;exact this
theorem Zi1 {b:Nat}(hb:2≤b) {L:List Int}(h:Zbq b L):db b (vb b L)=L:=by
 rw[← zf hb L h.1,h.2,List.take_length]
theorem Zbt {b:Nat}(hb:2≤b):∀ (k V:Nat),V<b^k→(db b V).length≤k
 | 0,V,h=>by
  have:V=0:=by simpa using h
  subst this;rw[zc];exact Nat.le_refl _
 | k+1,V,h=>by
  by_cases hV:V=0
  ·subst hV;rw[zc];exact Nat.zero_le _
  ·rw[ZaU hb hV];have:V/b<b^k:=Nat.div_lt_of_lt_mul (by rw[Nat.pow_succ] at h;rw[Nat.mul_comm];exact h);have:=Zbt hb k (V/b) this;simp;omega
theorem ZbG {b:Nat}(hb:2≤b):∀ (L:List Int),(∀ x∈L,Dg b x)→vb b L<b^L.length
 | [],_=>by simp [vb]
 | x::r,h=>by
  have ih:=ZbG hb r (fun y hy=>h y (Xd _ hy));have hx:=h x (Xe);have hlt:x.toNat<b:=by omega
  simp only[vb,List.length_cons,Nat.pow_succ]
  calc x.toNat+b*vb b r<b+b*vb b r:=by omega
   _=b*(vb b r+1):=by rw[Nat.mul_add,Nat.mul_one,Nat.add_comm]
   _≤b*b^r.length:=Nat.mul_le_mul_left _ ih
   _=b^r.length*b:=Nat.mul_comm _ _
theorem ZaJ (b:Nat):∀ (L M:List Int),vb b (L++M)=vb b L+b^L.length*vb b M
 | [],M=>by simp [vb]
 | x::r,M=>by
  simp only[List.cons_append,vb,ZaJ b r M,List.length_cons,Nat.pow_succ];rw[Nat.mul_add,← Nat.mul_assoc,Nat.mul_comm b (b^r.length)];omega
end Go.Nt
