/-
  ConV1, NumW, ConV2, ConV3, RunZ, RunP, Okl, ConNU, ConV4, ConV5, ConV6
-/
import Derived.Test.YtgefjidphfdhdaaGreatDoorG05
namespace Go.Proofs.YtgefjidphfdhdaaGreatDoor
open Go.Proofs.Tryz
open Go.IntKind
open Go.KRun Go.Nt
set_option maxRecDepth 100000
def Z4L (F:Func):List Code:=[Z2 (Zs F),Z2 (Z0 (Zs F))]
def Zl8 (F:Func):Code:=cIn (cIn (Z2 (Z0 (Z0 (Zs F)))))
def Z4g (F:Func):Code:=Z0 (Z0 (Z0 (Zs F)))
theorem ZjQ:f68.body=some (ZW (Z4L f68) (.seq (.block 0 (.loop (Zl8 f68))) (Z4g f68))):=by kernel_rfl
theorem Zup (p:Option Addr) (n c:Nat) (h:Hp):Zg (evL (Zq prog Zf Zo true) 100 (Z4L f68) ([.slice p n c]++List.replicate 21 undef,h,[]) ⟨[],[],[]⟩) 4 18 none [.slice p n c,undef,Zn,.int .i64 n] h []:=by and_intros<;>kernel_rfl
def i1 (k:Int):Int:=i64.wrap (k-1)
theorem Zz1 (o n c:Nat) (k x:Int) (l:List Value) (j1 j2:Value) (g:Nat→Value):Zg (evC (Zq prog Zf Zo true) 100 false (Zl8 f68) ([sl 0 o n c,j1,j2,.int .i64 k]++tl 18 g,⟨1,[(l,tR)]⟩,[cmp true,at_,val (.int .u32 x),cmp true]) ⟨[],[],[]⟩) 4 18 none [sl 0 o n c,j1,j2,.int .i64 (i1 k)] ⟨1,[(l,tR)]⟩
  [(x==0,true),(Z4 (l[o+(i1 k).toNat*1]?) (.int .u32 x),true),(decide (0≤i1 k∧i1 k<n),true),(decide (k>0),true)]:=by and_intros<;>kernel_rfl
theorem ZpS (o n c:Nat) (k x:Int) (l:List Value) (j1 j2:Value) (g:Nat→Value):Zg (evC (Zq prog Zf Zo true) 100 false (Zl8 f68) ([sl 0 o n c,j1,j2,.int .i64 k]++tl 18 g,⟨1,[(l,tR)]⟩,[cmp true,at_,val (.int .u32 x),cmp false]) ⟨[],[],[]⟩) 4 18 (some (some 0)) [sl 0 o n c,j1,j2,.int .i64 k] ⟨1,[(l,tR)]⟩
  [(x==0,false),(Z4 (l[o+(i1 k).toNat*1]?) (.int .u32 x),true),(decide (0≤i1 k∧i1 k<n),true),(decide (k>0),true)]:=by and_intros<;>kernel_rfl
theorem ZpT (v:Value) (k:Int) (h:Hp) (j1 j2:Value) (g:Nat→Value):Zg (evC (Zq prog Zf Zo true) 100 false (Zl8 f68) ([v,j1,j2,.int .i64 k]++tl 18 g,h,[cmp false]) ⟨[],[],[]⟩) 4 18 (some (some 0)) [v,j1,j2,.int .i64 k] h [(decide (k>0),false)]:=by and_intros<;>kernel_rfl
theorem Zuq (o n c k:Nat) (l:List Value) (j1 j2:Value) (g:Nat→Value):Zg (evC (Zq prog Zf Zo true) 100 false (Z4g f68) ([sl 0 o n c,j1,j2,.int .i64 k]++tl 18 g,⟨1,[(l,tR)]⟩,[num 0]) ⟨[],[],[]⟩) 4 18 (some none) [sl 0 o n c,j1,sl 0 o k k,.int .i64 k] ⟨1,[(l,tR)]⟩
  [(ZG c,true),(ze 0 k k c,true),(decide ((k:Int)=0∧(0:Int)≠0),false)]:=by and_intros<;>kernel_rfl
theorem ZpU (n k:Nat) (l:List Value) (j1 j2:Value) (g:Nat→Value):Zg (evC (Zq prog Zf Zo true) 100 false (Z4g f68) ([sl 0 0 n grown,j1,j2,.int .i64 k]++tl 18 g,⟨1,[(l,tR)]⟩,[at_]) ⟨[],[],[]⟩) 4 18 (some none) [sl 0 0 n grown,j1,sl 0 0 k k,.int .i64 k] ⟨1,[(l,tR)]⟩
  [(ze 0 k k n,true),(decide ((k:Int)=0∧(0:Int)≠0),false),(!(Zad tR) && Nat.ble n l.length,true)]:=by and_intros<;>kernel_rfl
def ZcY (o n c:Nat):Bool:=(ZG c && Nat.ble n c) || (Nat.beq c grown && Nat.beq o 0)
theorem ZjR {l:List Value}{o c:Nat}{L:List Int}(hR:Row l o L) (hL:L.length<4611686018427387904) (hc:ZcY o L.length c=true):
  Runs (Zq prog Zf Zo true) (ZW (Z4L f68) (.seq (.block 0 (.loop (Zl8 f68))) (Z4g f68))) ([sl 0 o L.length c]++List.replicate 21 undef,⟨1,[(l,tR)]⟩,[]) fun e y=>(e=none∨e=some none)∧ZV prog f68 y.1 y.2.1=some (sl 0 o (Zi L) (Zi L)):=by
 refine Z3 (Zp Zd) (Zup _ _ _ _) (fun x hx=>by cases hx) fun g=> ?_;refine Runs.seq (P1:=fun e y=>e=none∧(∃ g,y.1=[sl 0 o L.length c,undef,Zn,.int .i64 (Zi L:Nat)]++tl 18 g)∧y.2.1=⟨1,[(l,tR)]⟩) ?_ ?_ (fun e y he=>by cases he.1)
 ·refine (Runs.forLoop (P:=fun y=>(∃ g,y.1=[sl 0 o L.length c,undef,Zn,.int .i64 (Zi L:Nat)]++tl 18 g)∧y.2.1=⟨1,[(l,tR)]⟩) (R:=fun _=>False) (fun n y=>(∃ g,y.1=[sl 0 o L.length c,undef,Zn,.int .i64 (n:Nat)]++tl 18 g)∧y.2.1=⟨1,[(l,tR)]⟩∧n≤L.length∧∀ i,n≤i→L.getD i 0=0) ?_ (n:=L.length) ⟨⟨g,rfl⟩,rfl,Nat.le_refl _,fun i hi=>by simp [List.getD,List.getElem?_eq_none hi]⟩).mono fun e y he=> ?_
  ·rintro n ⟨t,h',s⟩ ⟨⟨g,ht⟩,hh,hle,hz⟩;simp only at ht hh;subst ht hh;cases n with
   | zero=>
    refine (Zc (Zp Zd) (ZpT _ _ _ undef Zn g) (Zu (by rfl))).mono fun e y he=> ?_;obtain⟨rfl,⟨g',h2⟩,h3⟩:=he;have e0:Zi L=0:=ZbQ hz (.inl rfl);exact⟨rfl,⟨g',by rw[h2,e0]⟩,h3⟩
   | succ k=>
    have ek:i1 ((k+1:Nat):Int)=(k:Int):=by
     unfold i1;rw[Zw (by omega) (by omega)];omega
    have hcell:=hR.cell (k:=k) (by omega);have hce:Z4 (l[o+(i1 ((k+1:Nat):Int)).toNat*1]?) (.int .u32 (L.getD k 0))=true:=by
     rw[ek,Xg,Nat.mul_one,hcell];simp [Z4]
    have hix:decide (0≤i1 ((k+1:Nat):Int)∧i1 ((k+1:Nat):Int)<(L.length:Int))=true:=by rw[ek];exact Xa (by omega)
    have hgt:decide (((k+1:Nat):Int)>0)=true:=Xa (by omega);by_cases hx:L.getD k 0=0
    ·refine (Zc (Zp Zd) (Zz1 o L.length c ((k+1:Nat):Int) (L.getD k 0) l undef Zn g) (Zj (by rw[hx];rfl) (Zj hce (Zj hix (Zu hgt))))).mono fun e y he=> ?_;obtain⟨rfl,⟨g',h2⟩,h3⟩:=he;rw[ek] at h2;refine⟨k,by omega,⟨g',h2⟩,h3,by omega,fun i hi=> ?_⟩;rcases Nat.lt_or_ge k i with h | h
     ·exact hz i h
     ·have:i=k:=by omega
      rw[this];exact hx
    ·refine (Zc (Zp Zd) (ZpS o L.length c ((k+1:Nat):Int) (L.getD k 0) l undef Zn g) (Zj (by simpa using hx) (Zj hce (Zj hix (Zu hgt))))).mono fun e y he=> ?_;obtain⟨rfl,⟨g',h2⟩,h3⟩:=he;have e0:Zi L=k+1:=ZbQ hz (.inr (by simpa using hx));exact⟨rfl,⟨g',by rw[h2,e0]⟩,h3⟩
  ·match e,he with
   | none,he=>exact⟨rfl,he⟩
 ·rintro⟨t,h',s⟩ ⟨_,⟨g',ht⟩,hh⟩;simp only at ht hh;subst ht hh;have hle:=zQ L;have hp:ze 0 (Zi L:Nat) (Zi L:Nat) (L.length:Nat)=true:=by unfold ze;exact Xa (by omega)
  unfold ZcY at hc;simp only[Bool.or_eq_true,Xh] at hc;rcases hc with ⟨h1,h2⟩ | ⟨h1,h2⟩
  ·have h2:=Nat.le_of_ble_eq_true h2;have h1':c<4611686018427387904:=Zl.1 h1;refine (Zc (Zp Zd) (Zuq o L.length c (Zi L) l undef Zn g') (Zj h1 (Zj (by unfold ze;exact Xa (by omega)) (Zu (Xb (by omega)))))).mono fun e y he=> ?_;obtain⟨rfl,⟨g2,h2⟩,h3⟩:=he;refine⟨.inr rfl,?_⟩;rw[h2,h3];rfl
  ·have h1:=Xj h1;have h2:=Xj h2;subst h1 h2;have hlen:=hR.len;refine (Zc (Zp Zd) (ZpU L.length (Zi L) l undef Zn g') (Zj hp (Zj (Xb (by omega)) (Zu (by
    rw[Zbp,Nat.ble_eq_true_of_le (by omega)];rfl))))).mono fun e y he=> ?_
   obtain⟨rfl,⟨g2,h2⟩,h3⟩:=he;refine⟨.inr rfl,?_⟩;rw[h2,h3];rfl
def ZaQ (ty:TypeId) (l:List Value) (o n c:Nat):Bool:= !(Zad ty) && Nat.beq (rt ty) tU && Nat.ble (o+n) l.length && Nat.blt n 4611686018427387904 && ZcY o n c && (ZbR l o n).all isU && l.all still
theorem zj {ty:TypeId}{l:List Value}{o n c:Nat}(h:ZaQ ty l o n c=true):Row l o (Zz l o n)∧(Zz l o n).length=n∧n<4611686018427387904∧ZcY o n c=true∧Zad ty=false∧rt ty=tU∧∀ v∈l,still v=true:=by
 unfold ZaQ at h;simp only[Xh,Bool.not_eq_true'] at h;obtain⟨⟨⟨⟨⟨⟨h1,h2⟩,h3⟩,h4⟩,h5⟩,h6⟩,h7⟩:=h;have h2:=Xj h2;have h3:=Nat.le_of_ble_eq_true h3;have h4:=Zl.1 h4;have hlen:(Zz l o n).length=n:=by unfold Zz ZbR;simp;omega
 refine⟨⟨by rw[hlen];exact h3,by rw[hlen];exact ZeN h6,fun x hx=> ?_⟩,hlen,h4,h5,h1,h2,List.all_eq_true.1 h7⟩;unfold Zz at hx;obtain⟨v,hv,rfl⟩:=List.mem_map.1 hx;have:=Zfu (List.all_eq_true.1 h6 v hv);exact⟨this.2.1,this.2.2⟩
theorem Zl9:ZD (Zr (Zq prog Zf Zo true) 100 68 [Zn] []) Zn []:=by and_intros<;>kernel_rfl
def Zg1:Zae:=fun vals h s=>
 match vals with
 | [.slice none 0 0]=>some (Zn,h,s,[])
 | [.slice (some ⟨b,o,none⟩) n c]=>
  match h.blk? b with
  | some x=>some (sl b o (Zi (Zz x.1 o n)) (Zi (Zz x.1 o n)),h,s,[(ZaQ x.2 x.1 o n c,true)])
  | none=>none
 | _=>none
theorem Zed:Z6 68 Zg1:=by
 intro vals h s v h' s' lg hg hl m B w E hv;unfold Zg1 at hg;split at hg
 ·cases hg;refine (Ze (Zp Zd) Zl9 (fun x hx=>by cases hx) (by rfl) (by rfl) w).mono fun e w' he=> ?_;obtain⟨E',hb⟩:=ZT E he.2;exact⟨m,he.1,⟨Agree.refl _ _,E',hb,Nat.le_refl _,rfl⟩⟩
 ·rename_i b o n c;split at hg
  ·rename_i x hx;cases hg;obtain⟨h1,h2,h3,h4,h5,h6,h7⟩:=zj (hl _ Xf);have hlt:=Hp.blk_lt hx;have r:=ZjR (c:=c) h1 (by rw[h2];exact h3) (by rw[h2];exact h4);rw[h2] at r;have:=zn (T:=Zq prog Zf Zo true) func68 ZjQ (ZaH h7) (vals:=[sl 0 o n c]) (fun v hv=>by rw[List.mem_singleton.1 hv];rfl) (by rfl) r E (s:=fun _=>b) (fun i _=>hlt) (zS hx h5 h6 rfl);exact this.mono fun e w' he=>⟨m,he.1,he.2⟩
  ·cases hg
 ·cases hg
end Go.Proofs.YtgefjidphfdhdaaGreatDoor
namespace Go.Nt
theorem ZsZ (b:Nat) (x:Int):vb b [x]=x.toNat:=by simp [vb]
theorem Za5 (b:Nat) (L:List Int) (i:Nat):vb b (L.take (i+1))=vb b (L.take i)+b^i*(L.getD i 0).toNat:=by
 by_cases h:i<L.length
 ·have e:L.take (i+1)=L.take i++[L.getD i 0]:=by
   rw[List.take_add_one,List.getElem?_eq_getElem h];simp [List.getD,List.getElem?_eq_getElem h]
  rw[e,ZaJ,ZsZ,List.length_take];rw[show min i L.length=i from by omega]
 ·rw[List.take_of_length_le (by omega),List.take_of_length_le (by omega)];simp [List.getD,List.getElem?_eq_none (show L.length≤i by omega)]
theorem ZcZ (b:Nat) (O:List Int) (x:Int):vb b (O++[x])=vb b O+b^O.length*x.toNat:=by rw[ZaJ,ZsZ]
theorem ZlA {b:Nat}{O:List Int}{X Y:Nat}{k a c:Nat}(h:vb b O+b^O.length*k=X+Y):
  vb b (O++[(((k+a+c) % b:Nat):Int)])+b^(O.length+1)*((k+a+c)/b)=(X+b^O.length*a)+(Y+b^O.length*c):=by
 rw[ZcZ,Xg,Nat.pow_succ,Nat.mul_assoc];have e:=Nat.mod_add_div (k+a+c) b;generalize hP:b^O.length=P at*;have e1:P*((k+a+c) % b)+P*(b*((k+a+c)/b))=P*(k+a+c):=by rw[← Nat.mul_add,e]
 have e2:P*(k+a+c)=P*k+P*a+P*c:=by rw[Nat.mul_add,Nat.mul_add]
 omega
end Go.Nt
namespace Go.Proofs.YtgefjidphfdhdaaGreatDoor
open Go.Proofs.Tryz
open Go.KRun Go.Nt
set_option maxRecDepth 100000
def hcU:Hc:=ZY 68 Zg1 hcN
theorem Zz2:HcOk hcU:=Zt func68 rfl Zed zp
theorem ZE (L:List Int):∀ v∈wU L,still v=true:=fun v hv=>by
 unfold wU at hv;obtain⟨x,_,rfl⟩:=List.mem_map.1 hv;rfl
theorem Zi2 (L:List Int):(wU L).all one=true:=List.all_eq_true.2 fun v hv=>by
 unfold wU at hv;obtain⟨x,_,rfl⟩:=List.mem_map.1 hv;rfl
theorem ZU (L M:List Int):wU (L++M)=wU L++wU M:=by simp [wU]
theorem Zak (L:List Int):(wU L).length=L.length:=by simp [wU]
theorem ZaV (L:List Int):Zz (wU L) 0 L.length=L:=by
 unfold Zz ZbR;rw[List.drop_zero,← Zak,List.take_length];unfold wU;rw[List.map_map];exact List.map_id' _
theorem Zal {L:List Int}(h:∀ x∈L,0≤x∧x<4294967296) (hl:L.length<4611686018427387904) {c:Nat}(hc:ZcY 0 L.length c=true):ZaQ tU (wU L) 0 L.length c=true:=by
 unfold ZaQ;have e1:Zad tU=false:=by kernel_rfl
 have e2:Nat.beq (rt tU) tU=true:=by kernel_rfl
 have e3:Nat.ble (0+L.length) (wU L).length=true:=Nat.ble_eq_true_of_le (by rw[Zak];omega);have e4:Nat.blt L.length 4611686018427387904=true:=Zl.2 hl;have e5:((ZbR (wU L) 0 L.length).all isU)=true:=by
  unfold ZbR;rw[List.drop_zero,← Zak,List.take_length];refine List.all_eq_true.2 fun v hv=> ?_;unfold wU at hv;obtain⟨x,hx,rfl⟩:=List.mem_map.1 hv;exact Xa (h x hx)
 have e6:((wU L).all still)=true:=List.all_eq_true.2 fun v hv=>by
  unfold wU at hv;obtain⟨x,_,rfl⟩:=List.mem_map.1 hv;rfl
 rw[e1,e2,e3,e4,hc,e5,e6];rfl
theorem Zbf {L M:List Int}{k:Nat}(hk:k=L.length) (hM:0<M.length) (hb:L.length+M.length≤1073741824):Zag tU (wU L,tU) (wU M,tU) k 0 M.length=true:=by
 subst hk;unfold Zag;simp only[Xh,Bool.not_eq_true',Zak];refine⟨⟨⟨⟨⟨⟨⟨⟨Nat.beq_refl _,Nat.ble_eq_true_of_le hb⟩,by kernel_rfl⟩,by kernel_rfl⟩,by kernel_rfl⟩,by kernel_rfl⟩,Nat.ble_eq_true_of_le (by omega)⟩,Zl.2 hM⟩,?_⟩;rw[List.drop_zero,← Zak,List.take_length];exact Zi2 M
theorem ZyJ (n:Nat):ZcY 0 n grown=true:=by unfold ZcY;rw[show Nat.beq grown grown=true from by kernel_rfl,show Nat.beq 0 0=true from rfl];simp
theorem Zi3 {L:List Int}{k:Nat}(h:k<L.length):L.getD k 0=L[k]:=by simp [List.getD,List.getElem?_eq_getElem h]
theorem Zg2 {T:Tab}{a b c:Code}{x:Lf}{P1 P2 P:Ex→Lf→Prop}(h1:RunsW T a x P1) (n1:∀ e y,P1 (some e) y→False) (h2:∀ y,P1 none y→RunsW T b y P2) (n2:∀ e y,P2 (some e) y→False) (h3:∀ y,P2 none y→RunsW T c y P):RunsW T (.seq (.seq a b) c) x P:=
 RunsW.seq (P1:=P2) (RunsW.seq (P1:=P1) h1 h2 (fun e y he=>(n1 e y he).elim)) h3 (fun e y he=>(n2 e y he).elim)
def d16 (V:Nat):List Int:=db 65536 V
theorem ZaX (L:List Int):∀ u∈wU L,lt1 0 u=true:=fun v hv=>by
 unfold wU at hv;obtain⟨x,_,rfl⟩:=List.mem_map.1 hv;rfl
def Zm (h:Hp) (p:Option Addr) (n:Nat):List Int:=
 match p with
 | none=>[]
 | some a=>
  match h.blk? a.block with
  | some x=>Zz x.1 a.off n
  | none=>[]
def zx (h:Hp) (p:Option Addr) (n c:Nat):Bool:=
 match p with
 | none=>Nat.beq n 0 && Nat.beq c 0
 | some a=>
  match a.spot,h.blk? a.block with
  | none,some x=>ZaQ x.2 x.1 a.off n c && x.1.all still
  | _,_=>false
def atN (L:List Int) (i:Int):Int:=if 0≤i then L.getD i.toNat 0 else 0
theorem ZC {h:Hp}{p:Option Addr}{n c:Nat}(hr:zx h p n c=true):(p=none∧n=0∧c=0∧Zm h p n=[])∨∃ b o x,p=some ⟨b,o,none⟩∧h.blk? b=some x∧ZaQ x.2 x.1 o n c=true∧(∀ v∈x.1,still v=true)∧Zm h p n=Zz x.1 o n:=by
 unfold zx at hr;split at hr
 ·simp only[Xh] at hr;exact .inl ⟨rfl,Xj hr.1,Xj hr.2,rfl⟩
 ·rename_i a;split at hr
  ·rename_i x hs hx;simp only[Xh] at hr;obtain⟨b,o,sp⟩:=a;simp only at hs hx;subst hs;exact .inr ⟨b,o,x,rfl,hx,hr.1,List.all_eq_true.1 hr.2,by simp [Zm,hx]⟩
  ·cases hr
theorem ZlB:f69.body=some (Zs f69):=by kernel_rfl
theorem Z4M (o n c:Nat) (i x:Int) (l:List Value):Zg (evC (Zq prog Zf Zo true) 100 false (Zs f69) ([sl 0 o n c,.int .i64 i]++List.replicate 15 undef,⟨1,[(l,tR)]⟩,[cmp true,cmp true,at_,val (.int .u32 x)]) ⟨[],[],[]⟩) 5 12 (some none) [sl 0 o n c,.int .i64 i,undef,undef,.int .u32 x] ⟨1,[(l,tR)]⟩ [(Z4 (l[o+i.toNat*1]?) (.int .u32 x),true),(decide (0≤i∧i<n),true),(decide (i<n),true),(decide (i≥0),true)]:=by and_intros<;>kernel_rfl
theorem Zur (p:Option Addr) (n c:Nat) (i:Int) (h:Hp):Zg (evC (Zq prog Zf Zo true) 100 false (Zs f69) ([.slice p n c,.int .i64 i]++List.replicate 15 undef,h,[cmp true,cmp false]) ⟨[],[],[]⟩) 5 12 (some none) [.slice p n c,.int .i64 i,undef,undef,.int .u32 0] h [(decide (i<n),false),(decide (i≥0),true)]:=by and_intros<;>kernel_rfl
theorem ZpV (p:Option Addr) (n c:Nat) (i:Int) (h:Hp):Zg (evC (Zq prog Zf Zo true) 100 false (Zs f69) ([.slice p n c,.int .i64 i]++List.replicate 15 undef,h,[cmp false]) ⟨[],[],[]⟩) 5 12 (some none) [.slice p n c,.int .i64 i,undef,undef,.int .u32 0] h [(decide (i≥0),false)]:=by and_intros<;>kernel_rfl
theorem ZlC {p:Option Addr}{n c:Nat}{i:Int}{h:Hp}(hi:i<0∨(n:Int)≤i):Runs (Zq prog Zf Zo true) (Zs f69) ([.slice p n c,.int .i64 i]++List.replicate 15 undef,h,[]) fun e y=>(e=none∨e=some none)∧ZV prog f69 y.1 y.2.1=some (.int .u32 0):=by
 by_cases h0:i<0
 ·refine (Zc (Zp Zd) (ZpV p n c i h) (Zu (Xb (by omega)))).mono fun e y he=> ?_;obtain⟨rfl,⟨g,e2⟩,e3⟩:=he;refine⟨.inr rfl,?_⟩;rw[e2,e3];rfl
 ·refine (Zc (Zp Zd) (Zur p n c i h) (Zj (Xb (by omega)) (Zu (Xa (by omega))))).mono fun e y he=> ?_;obtain⟨rfl,⟨g,e2⟩,e3⟩:=he;refine⟨.inr rfl,?_⟩;rw[e2,e3];rfl
theorem Zus {l:List Value}{o c:Nat}{L:List Int}(i:Int) (hR:Row l o L):
  Runs (Zq prog Zf Zo true) (Zs f69) ([sl 0 o L.length c,.int .i64 i]++List.replicate 15 undef,⟨1,[(l,tR)]⟩,[]) fun e y=>(e=none∨e=some none)∧ZV prog f69 y.1 y.2.1=some (.int .u32 (atN L i)):=by
 by_cases hi:i<0∨(L.length:Int)≤i
 ·have e0:atN L i=0:=by
   unfold atN;split
   ·have:L.length≤i.toNat:=by omega
    simp [List.getD,List.getElem?_eq_none this]
   ·rfl
  rw[e0];exact ZlC hi
 ·have h0:0≤i:=by omega
  have hlt:i.toNat<L.length:=by omega
  have e0:atN L i=L.getD i.toNat 0:=by unfold atN;rw[if_pos h0]
  rw[e0];have hc:=hR.cell hlt;refine (Zc (Zp Zd) (Z4M o L.length c i (L.getD i.toNat 0) l) (Zj (by rw[Nat.mul_one,hc];simp [Z4]) (Zj (Xa (by omega)) (Zj (Xa (by omega)) (Zu (Xa (by omega))))))).mono fun e y he=> ?_;obtain⟨rfl,⟨g,e2⟩,e3⟩:=he;refine⟨.inr rfl,?_⟩;rw[e2,e3];rfl
def gAt:Zae:=fun vals h s=>
 match vals with
 | [.slice p n c,.int .i64 i]=>some (.int .u32 (atN (Zm h p n) i),h,s,[(zx h p n c,true)])
 | _=>none
theorem Zta:Z6 69 gAt:=by
 intro vals h s v h' s' lg hg hl m B w E hv;unfold gAt at hg;split at hg
 ·rename_i p n c i;cases hg;have q:=hl _ Xf;simp only at q;rcases ZC q with ⟨rfl,rfl,rfl,e0⟩ | ⟨b,o,x,rfl,hx,q1,_,e0⟩
  ·rw[e0];have hz:atN [] i=0:=by unfold atN;split<;>simp
   rw[hz];have hi:i<0∨((0:Nat):Int)≤i:=by omega
   refine (Zai (T:=Zq prog Zf Zo true) func69 ZlB (vals:=[Zn,.int .i64 i]) (v:= .int .u32 0) (by rfl) (by rfl) (ZlC (p:=none) (n:=0) (c:=0) (i:=i) (h:=⟨0,[]⟩) hi) w).mono fun e w' he=> ?_;obtain⟨E',hb⟩:=ZT E he.2;exact⟨m,he.1,⟨Agree.refl _ _,E',hb,Nat.le_refl _,rfl⟩⟩
  ·rw[e0];obtain⟨h1,h2,h3,h4,h5,h6,h7⟩:=zj q1;have hlt:=Hp.blk_lt hx;have r:=Zus (c:=c) i h1;rw[h2] at r;have:=zn (T:=Zq prog Zf Zo true) func69 ZlB (ZaH h7) (vals:=[sl 0 o n c,.int .i64 i]) (fun v hv=>by
    simp only[List.mem_cons,List.not_mem_nil,or_false] at hv;rcases hv with rfl | rfl<;>rfl) (by rfl) r E (s:=fun _=>b) (fun i _=>hlt) (zS hx h5 h6 rfl)
   exact this.mono fun e w' he=>⟨m,he.1,he.2⟩
 ·cases hg
def hcV:Hc:=ZY 69 gAt hcU
theorem Zy:HcOk hcV:=Zt func69 rfl Zta Zz2
end Go.Proofs.YtgefjidphfdhdaaGreatDoor
namespace Go.KRun
open Go.RowKit
theorem Zi4 {k n:Nat}{base l:List (List Value×TypeId)}(hn:n=l.length+k) {i:Nat}(hi:i<k):(⟨n,l++base⟩:Hp).blk? i=(⟨k,base⟩:Hp).blk? i:=by
 unfold Hp.blk?;rw[if_pos (Zl.2 (by show i<n;omega)),if_pos (Zl.2 hi)];show (l++base)[n-1-i]? =base[k-1-i]?;rw[List.getElem?_append_right (by omega)];congr 1;omega
theorem RunsW.cut {T:Tab}{c:Code}{x0:Lf}{ex:Ex}{f1 f2:List Value}{u:Value}{n k N:Nat}{extra base:List (List Value×TypeId)}(hr:RunsW T c x0 fun e z=>e=ex∧(∃ g,z.1=(f1++u::f2)++tl n g)∧z.2.1=⟨N,extra++base⟩)
  (hk:base.length=k) (hN:N=extra.length+k) (h0:0<k) (hb:∀ x∈base,∀ v∈x.1,lt1 k v=true) (h1:∀ v∈f1,lt k v=true) (h2:∀ v∈f2,lt k v=true):
  RunsW T c x0 fun e z=>e=ex∧(∃ g j,z.1=(f1++j::f2)++tl n g)∧z.2.1=⟨k,base⟩:=by
 intro m B a w R Q hQ;refine hr m B a w R Q fun e z he m' a' w' R' hb'=> ?_;obtain⟨rfl,⟨g,hz1⟩,hz2⟩:=he;obtain⟨t,h,s⟩:=z;simp only at hz1 hz2;subst hz1 hz2;obtain⟨g',hg'⟩:=Zgu (J:=(tl n g).map (fun v=>Value.iface zo (mv m' v))) (n:=n) (by simp [ZeR]);refine hQ e ((f1++Value.iface zo (mv m' u)::f2)++tl n g',⟨k,base⟩,s) ⟨rfl,⟨g',_,rfl⟩,rfl⟩ m' a' w' ?_ hb';have E:=R'.emb;have sub:∀ i x,(⟨k,base⟩:Hp).blk? i=some x→(⟨N,extra++base⟩:Hp).blk? i=some x:=fun i x hx=>by
  rw[Zi4 hN (Hp.blk_lt hx)];exact hx
 have mem:∀ i x,(⟨k,base⟩:Hp).blk? i=some x→x∈base:=fun i x hx=>by
  unfold Hp.blk? at hx;split at hx
  ·exact List.mem_of_getElem? hx
  ·cases hx
 have ltd:∀ v:Value,lt k (Value.iface zo v)=true:=fun v=>by simp [lt,lt2,lt1,h0]
 have mvd:∀ v:Value,mv m' (Value.iface zo (mv m' v))=mv m' v:=fun v=>by simp [mv,mv2,mv1]
 refine⟨?_,R'.dfr,⟨hk,fun b x hx ht=>E.lies b x (sub b x hx) ht,fun b x hx hro=>E.low b x (sub b x hx) hro,fun b x hx ht hro=>E.ros b x (sub b x hx) ht hro,fun b b' x x' hx hx' hro hro' he=>E.inj b b' x x' (sub b x hx) (sub b' x' hx') hro hro' he,fun b x hx v hv=>hb x (mem b x hx) v hv,E.base,E.ice,fun b x hx ha=>E.abs b x (sub b x hx) ha⟩,?_⟩
 ·rw[R'.tmps];simp only[List.map_append,List.map_cons,mvd,← hg',List.map_map];congr 2
 ·intro v hv;rcases List.mem_append.1 hv with hv | hv
  ·rcases List.mem_append.1 hv with hv | hv
   ·exact h1 v hv
   ·rcases List.mem_cons.1 hv with rfl | hv
    ·exact ltd _
    ·exact h2 v hv
  ·rw[← hg'] at hv;obtain⟨y,_,rfl⟩:=List.mem_map.1 hv;exact ltd _
theorem RunsW.pre {T:Tab}{c:Code}{P:Ex→Lf→Prop}{f1 f2:List Value}{u:Value}{n k N:Nat}{extra base:List (List Value×TypeId)}{s s':List Dec}{g:Nat→Value}(h:∀ j g,RunsW T c ((f1++j::f2)++tl n g,⟨k,base⟩,s') P)
  (hk:base.length=k) (hN:N=extra.length+k) (h0:0<k) (hb:∀ x∈base,∀ v∈x.1,lt1 k v=true) (h1:∀ v∈f1,lt k v=true) (h2:∀ v∈f2,lt k v=true):
  RunsW T c ((f1++u::f2)++tl n g,⟨N,extra++base⟩,s) P:=by
 intro m B a w R Q hQ;obtain⟨g',hg'⟩:=Zgu (J:=(tl n g).map (fun v=>Value.iface zo (mv m v))) (n:=n) (by simp [ZeR]);refine h (Value.iface zo (mv m u)) g' m B a w ?_ Q hQ;have E:=R.emb;have sub:∀ i x,(⟨k,base⟩:Hp).blk? i=some x→(⟨N,extra++base⟩:Hp).blk? i=some x:=fun i x hx=>by
  rw[Zi4 hN (Hp.blk_lt hx)];exact hx
 have mem:∀ i x,(⟨k,base⟩:Hp).blk? i=some x→x∈base:=fun i x hx=>by
  unfold Hp.blk? at hx;split at hx
  ·exact List.mem_of_getElem? hx
  ·cases hx
 have ltd:∀ v:Value,lt k (Value.iface zo v)=true:=fun v=>by simp [lt,lt2,lt1,h0]
 have mvd:∀ v:Value,mv m (Value.iface zo (mv m v))=mv m v:=fun v=>by simp [mv,mv2,mv1]
 refine⟨?_,R.dfr,⟨hk,fun b x hx ht=>E.lies b x (sub b x hx) ht,fun b x hx hro=>E.low b x (sub b x hx) hro,fun b x hx ht hro=>E.ros b x (sub b x hx) ht hro,fun b b' x x' hx hx' hro hro' he=>E.inj b b' x x' (sub b x hx) (sub b' x' hx') hro hro' he,fun b x hx v hv=>hb x (mem b x hx) v hv,E.base,E.ice,fun b x hx ha=>E.abs b x (sub b x hx) ha⟩,?_⟩
 ·rw[R.tmps];simp only[List.map_append,List.map_cons,mvd,← hg',List.map_map];congr 2
 ·intro v hv;rcases List.mem_append.1 hv with hv | hv
  ·rcases List.mem_append.1 hv with hv | hv
   ·exact h1 v hv
   ·rcases List.mem_cons.1 hv with rfl | hv
    ·exact ltd _
    ·exact h2 v hv
  ·rw[← hg'] at hv;obtain⟨y,_,rfl⟩:=List.mem_map.1 hv;exact ltd _
theorem ZbS {T:Tab}{f:Nat}{F:Func}{c:Code}(hF:T.P.funcs[f]? =some F) (hc:F.body=some c) {h0:Hp}(hr:h0.rows) {vals:List Value}(hvals:∀ v∈vals,lt h0.n v=true) {v:Nat→Value}
  {cs:List Value}{ty:TypeId}(hcs:∀ u∈cs,lt1 0 u=true) (hty:ro ty=false)
  (hrun:RunsW T c (vals++List.replicate (F.ntmps-vals.length) undef,h0,[]) fun e y=>(e=none∨e=some none)∧∃ k,ZV T.P F y.1 y.2.1=some (v k)∧∃ r,y.2.1.blk? k=some (cs++r,ty))
  (hv0:∀ k,oc [k] (v k)=true)
  {m:Mp}{B:Nat}{h:Hp}{w:World}(E:Emb m B h w) {s:Nat→Nat}(hf:h0.fits s h) (hv1:∀ k,rn (fun _=>h.n) (v k)=v h.n):
  Calls T.P f ((vals.map (rn s)).map (mv m)).toArray w fun e w'=>∃ m',e= .returned (mv m' (v h.n))∧Came m B h w (v h.n) (h.push cs ty) m' w':=by
 have E0:=E.small hr hf;have ev:(vals.map (rn s)).map (mv m)=vals.map (mv fun i=>m (s i)):=by
  rw[List.map_map];exact List.map_congr_left fun y _=>Zcu m s y
 rw[ev];refine calls_of_wp hF hc ?_;have R:Rel (fun i=>m (s i)) w.heap.size (vals++List.replicate (F.ntmps-vals.length) undef,h0,[]) {tmps:=(vals.map (mv fun i=>m (s i))).toArray++Array.replicate (F.ntmps-(vals.map (mv fun i=>m (s i))).toArray.size) undef,defers:=[]} w:=by
  refine⟨?_,rfl,E0,?_⟩
  ·simp [zu]
  ·intro y hy;rcases List.mem_append.1 hy with hy | hy
   ·exact hvals y hy
   ·rw[List.eq_of_mem_replicate hy];simp [undef,lt]
 refine hrun _ _ _ w R _ fun e y he m1 a' w' k2 k3=> ?_;obtain⟨hex,k,hres,r,hblk⟩:=he;obtain⟨r1,r2⟩:=Zah k2.emb k2.wf hres;rw[← k2.tmps] at r1;have td:Za0 w w':=⟨k3,fun k h1 h2=>k2.emb.ice k h1 h2⟩;obtain⟨E',hb⟩:=ZT E td;have hlow:w.heap.size≤(m1 k).1:=k2.emb.low k _ hblk hty;have hlie:lie w' (m1 k) (cs.map (mv1 m)) ty:=by
  obtain⟨r',z,l0,l1,l2⟩:=k2.emb.lies k _ hblk (Zar hty);have e:cs.map (mv1 m1)=cs.map (mv1 m):=ZbE hcs;simp only[List.map_append] at l0 l1;refine⟨r.map (mv1 m1)++r',z,?_,?_,l2⟩
  ·simp at l0 ⊢;omega
  ·rw[← e,l1,List.append_assoc]
 have Ea:=E'.adopt cs ty hty (fun u hu=>zl (Nat.zero_le _) (hcs u hu)) hlie (Nat.le_trans E.base hlow) (fun b x hbx hx heq=>by
  have:=E.here hbx (Zar hx);omega)
 have e1:mv m1 (v k)=mv (upd m h.n (m1 k)) (v h.n):=by
  rw[← hv1 k,Zcu];refine Zp5 (fun b hb=> ?_) (hv0 k);rw[List.mem_singleton.1 hb];simp [upd]
 rw[e1] at r1;have hlt:lt (h.n+1) (v h.n)=true:=by rw[← hv1 k];exact Ziu (bs:=[k]) (fun b hb=>by show h.n<h.n+1;omega) (hv0 k)
 have post:a'.defers=[]∧∃ v',(results F a'.tmps).run T.P w'= .ok v' w'∧∃ m',Ending.returned v'= .returned (mv m' (v h.n))∧Came m B h w (v h.n) (h.push cs ty) m' w':=
  ⟨k2.dfr,_,r1,upd m h.n (m1 k),rfl,⟨ZQ _ _ _,Ea,hb,Nat.le_succ _,hlt⟩⟩
 rcases hex with rfl | rfl<;>exact post
theorem RunsW.keptP {T:Tab}{c:Code}{x0:Lf}{ex:Ex}{front front':List Value}{n k b:Nat}{h:Hp}{base:List (List Value×TypeId)}{y:List Value×TypeId}{r:List Value}(hr:RunsW T c x0 fun e z=>e=ex∧(∃ g,z.1=front++tl n g)∧z.2.1=h)
  (hk:base.length=k) (hf:front'.map (rn (zK k b))=front) (hx:∀ i x,(⟨k,base⟩:Hp).blk? i=some x→h.blk? i=some x∧∀ v∈x.1,still v=true) (hy:h.blk? b=some (y.1++r,y.2)) (hb:k≤b) (sy:∀ v∈y.1,still v=true) (hw:∀ v∈front',lt (k+1) v=true):
  RunsW T c x0 fun e z=>e=ex∧(∃ g,z.1=front'++tl n g)∧z.2.1=⟨k+1,y::base⟩:=by
 refine hr.small fun e z he=> .inr ?_;obtain⟨rfl,⟨g,h1⟩,h2⟩:=he;obtain⟨t,h',s⟩:=z;simp only at h1 h2;subst h1 h2;refine⟨front,front',tl n g,h',⟨k+1,y::base⟩,s,zK k b,rfl,hf,by simp [hk],Nat.succ_pos _,fun i z hz=> ?_,fun i j u v hi hj _ _ hij=> ?_,hw,fun g'=>⟨rfl,⟨g',by rw[ZeR]⟩,rfl⟩⟩
 ·rcases ZjO hk hz with ⟨hi,hz'⟩ | ⟨rfl,rfl⟩
  ·obtain⟨q1,q2⟩:=hx i z hz';exact⟨q2,z,[],by unfold zK;rw[if_pos (Zl.2 hi)];exact q1,rfl,by simp⟩
  ·exact⟨sy,(z.1++r,z.2),r,by unfold zK;rw[if_neg (by rw[Zl];omega)];exact hy,rfl,rfl⟩
 ·unfold zK at hij;rcases ZjO hk hi with ⟨h1,_⟩ | ⟨rfl,_⟩<;>rcases ZjO hk hj with ⟨h2,_⟩ | ⟨rfl,_⟩
  ·rw[if_pos (Zl.2 h1),if_pos (Zl.2 h2)] at hij;exact hij
  ·rw[if_pos (Zl.2 h1),if_neg (by rw[Zl];omega)] at hij;omega
  ·rw[if_pos (Zl.2 h2),if_neg (by rw[Zl];omega)] at hij;omega
  ·rfl
theorem Zbr {T:Tab}{f:Nat}{F:Func}{c:Code}(hF:T.P.funcs[f]? =some F) (hc:F.body=some c) {vals:List Value}{v:Value}{h:Hp}(hv:lt 0 v=true)
  (hr:Runs T c (vals++List.replicate (F.ntmps-vals.length) undef,h,[]) fun e y=>(e=none∨e=some none)∧ZV T.P F y.1 y.2.1=some v∧y.2.1=h) (m:Mp) (B:Nat) (w:World) (E:Emb m B h w) (hvals:∀ v∈vals,lt h.n v=true):
  Calls T.P f (vals.map (mv m)).toArray w fun e w'=>∃ m',e= .returned (mv m' v)∧Came m B h w v h m' w':=by
 refine calls_of_wp hF hc ?_;have R:Rel m B (vals++List.replicate (F.ntmps-vals.length) undef,h,[]) {tmps:=(vals.map (mv m)).toArray++Array.replicate (F.ntmps-(vals.map (mv m)).toArray.size) undef,defers:=[]} w:=by
  refine⟨?_,rfl,E,?_⟩
  ·simp [zu]
  ·intro y hy;rcases List.mem_append.1 hy with hy | hy
   ·exact hvals y hy
   ·rw[List.eq_of_mem_replicate hy];simp [undef,lt]
 refine hr _ _ _ w R _ fun e y he a' w' hR=> ?_;obtain⟨hex,hres,hh⟩:=he;obtain⟨m1,k1,k2,k3,_⟩:=hR;obtain⟨r1,r2⟩:=Zah k2.emb k2.wf hres;rw[← k2.tmps] at r1;have Ek:Emb m1 B h w':=by
  have:=k2.emb;rw[hh] at this;exact this
 have post:a'.defers=[]∧∃ v',(results F a'.tmps).run T.P w'= .ok v' w'∧∃ m',Ending.returned v'= .returned (mv m' v)∧Came m B h w v h m' w':=
  ⟨k2.dfr,_,r1,m1,rfl,⟨k1,Ek,k3,Nat.le_refl _,zG (Nat.zero_le _) hv⟩⟩
 rcases hex with rfl | rfl<;>exact post
theorem ZeS {T:Tab}{f:Nat}{F:Func}{c:Code}(hF:T.P.funcs[f]? =some F) (hc:F.body=some c) {h0:Hp}(hr:h0.rows) {vals:List Value}(hvals:∀ v∈vals,lt h0.n v=true) {v:Nat→Nat→Value}
  {cs ds:List Value}{ty:TypeId}(hcs:∀ u∈cs,lt1 0 u=true) (hds:∀ u∈ds,lt1 0 u=true) (hty:ro ty=false)
  (hrun:RunsW T c (vals++List.replicate (F.ntmps-vals.length) undef,h0,[]) fun e y=>(e=none∨e=some none)∧∃ k j,k≠j∧ZV T.P F y.1 y.2.1=some (v k j)∧(∃ r,y.2.1.blk? k=some (cs++r,ty))∧∃ r,y.2.1.blk? j=some (ds++r,ty))
  (hv0:∀ k j,oc [k,j] (v k j)=true)
  {m:Mp}{B:Nat}{h:Hp}{w:World}(E:Emb m B h w) {s:Nat→Nat}(hf:h0.fits s h) (hv1:∀ k j,∀ g:Nat→Nat,rn g (v k j)=v (g k) (g j)):
  Calls T.P f ((vals.map (rn s)).map (mv m)).toArray w fun e w'=>∃ m',e= .returned (mv m' (v h.n (h.n+1)))∧Came m B h w (v h.n (h.n+1)) ((h.push cs ty).push ds ty) m' w':=by
 have E0:=E.small hr hf;have ev:(vals.map (rn s)).map (mv m)=vals.map (mv fun i=>m (s i)):=by
  rw[List.map_map];exact List.map_congr_left fun y _=>Zcu m s y
 rw[ev];refine calls_of_wp hF hc ?_;have R:Rel (fun i=>m (s i)) w.heap.size (vals++List.replicate (F.ntmps-vals.length) undef,h0,[]) {tmps:=(vals.map (mv fun i=>m (s i))).toArray++Array.replicate (F.ntmps-(vals.map (mv fun i=>m (s i))).toArray.size) undef,defers:=[]} w:=by
  refine⟨?_,rfl,E0,?_⟩
  ·simp [zu]
  ·intro y hy;rcases List.mem_append.1 hy with hy | hy
   ·exact hvals y hy
   ·rw[List.eq_of_mem_replicate hy];simp [undef,lt]
 refine hrun _ _ _ w R _ fun e y he m1 a' w' k2 k3=> ?_;obtain⟨hex,k,j,hkj,hres,⟨r,hblk⟩,r',hblj⟩:=he;obtain⟨r1,r2⟩:=Zah k2.emb k2.wf hres;rw[← k2.tmps] at r1;have td:Za0 w w':=⟨k3,fun k h1 h2=>k2.emb.ice k h1 h2⟩;obtain⟨E',hb⟩:=ZT E td;have low:∀ {k:Nat}{x:List Value×TypeId},y.2.1.blk? k=some x→ro x.2=false→w.heap.size≤(m1 k).1:=fun h1 h2=>k2.emb.low _ _ h1 h2;have hlie:∀ {k:Nat}{cs r:List Value},(∀ u∈cs,lt1 0 u=true)→y.2.1.blk? k=some (cs++r,ty)→∀ m':Mp,lie w' (m1 k) (cs.map (mv1 m')) ty:=fun {k cs r} hcs hblk m'=>by
  obtain⟨r',z,l0,l1,l2⟩:=k2.emb.lies k _ hblk (Zar hty);have e:cs.map (mv1 m1)=cs.map (mv1 m'):=ZbE hcs;simp only[List.map_append] at l0 l1;refine⟨r.map (mv1 m1)++r',z,?_,?_,l2⟩
  ·simp at l0 ⊢;omega
  ·rw[← e,l1,List.append_assoc]
 have lk:=low hblk hty;have lj:=low hblj hty;have Ea:=E'.adopt cs ty hty (fun u hu=>zl (Nat.zero_le _) (hcs u hu)) (hlie hcs hblk m) (Nat.le_trans E.base lk) (fun b x hbx hx heq=>by
  have:=E.here hbx (Zar hx);omega)
 have Eb:=Ea.adopt ds ty hty (fun u hu=>zl (Nat.zero_le _) (hds u hu)) (hlie hds hblj (upd m h.n (m1 k))) (Nat.le_trans E.base lj) (fun b x hbx hx heq=>by
  rw[Hp.blk_push E.len] at hbx;by_cases h1:b=h.n
  ·subst h1;simp only[upd,if_pos] at heq;exact hkj (k2.emb.inj k j _ _ hblk hblj hty hty heq)
  ·rw[if_neg h1] at hbx;simp only[upd,if_neg h1] at heq;have:=E.here hbx (Zar hx);omega)
 have hn:(h.push cs ty).n=h.n+1:=rfl;rw[hn] at Eb;have e1:mv m1 (v k j)=mv (upd (upd m h.n (m1 k)) (h.n+1) (m1 j)) (v h.n (h.n+1)):=by
  have e2:=hv1 k j (fun b=>if b=k then h.n else h.n+1);simp only[if_pos,if_neg (Ne.symm hkj)] at e2;rw[← e2,Zcu];refine Zp5 (fun b hb=> ?_) (hv0 k j);simp only[List.mem_cons,List.not_mem_nil,or_false] at hb;rcases hb with rfl | rfl
  ·simp [upd]
  ·simp [upd,Ne.symm hkj]
 rw[e1] at r1;have hlt:lt (h.n+2) (v h.n (h.n+1))=true:=by
  have e2:=hv1 k j (fun b=>if b=k then h.n else h.n+1);simp only[if_pos,if_neg (Ne.symm hkj)] at e2;rw[← e2];exact Ziu (bs:=[k,j]) (fun b hb=>by split<;>omega) (hv0 k j)
 have post:a'.defers=[]∧∃ v',(results F a'.tmps).run T.P w'= .ok v' w'∧∃ m',Ending.returned v'= .returned (mv m' (v h.n (h.n+1)))∧Came m B h w (v h.n (h.n+1)) ((h.push cs ty).push ds ty) m' w':=
  ⟨k2.dfr,_,r1,_,rfl,⟨(ZQ m h.n (m1 k)).trans (ZQ _ _ _) (by omega),Eb,hb,by show h.n≤h.n+1+1;omega,hlt⟩⟩
 rcases hex with rfl | rfl<;>exact post
end Go.KRun
namespace Go.Proofs.YtgefjidphfdhdaaGreatDoor
open Go.KRun
theorem Z5 {a b:Bool}(h:a=b):Zx [(a,b)]:=fun p hp=>by rw[List.mem_singleton.1 hp];exact h
theorem Za {a b:Bool}{l:Log}(h:a=b) (hl:Zx l):Zx ((a,b)::l):=fun p hp=>by
 rcases List.mem_cons.1 hp with rfl | hp
 ·exact h
 ·exact hl p hp
theorem ZlD {a b:Bool}{l:Log}:Zx ((a,b)::l)↔a=b∧Zx l:=⟨fun h=>⟨h _ (Xe),fun x hx=>h x (Xd _ hx)⟩,fun h=>Za h.1 h.2⟩
theorem Z8B:Zx []:=fun x hx=>by cases hx
end Go.Proofs.YtgefjidphfdhdaaGreatDoor
namespace Go.Proofs.YtgefjidphfdhdaaGreatDoor.Na
open Go.KRun Go.Nt
set_option maxRecDepth 100000
set_option linter.unusedVariables false
def Zaf (h:Hp) (p:Option Addr) (n c:Nat):Bool:=
 match p with
 | none=>Nat.beq n 0 && Nat.beq c 0
 | some a=>
  match a.spot,h.blk? a.block with
  | none,some x=>Z8 x.2 x.1 a.off n c
  | _,_=>false
theorem ZK {h:Hp}{p:Option Addr}{n c:Nat}(hr:Zaf h p n c=true):(p=none∧n=0∧c=0∧Zm h p n=[])∨∃ b o x,p=some ⟨b,o,none⟩∧h.blk? b=some x∧Z8 x.2 x.1 o n c=true∧Zm h p n=Zz x.1 o n:=by
 unfold Zaf at hr;split at hr
 ·simp only[Xh] at hr;exact .inl ⟨rfl,Xj hr.1,Xj hr.2,rfl⟩
 ·rename_i a;split at hr
  ·rename_i x hs hx;obtain⟨b,o,sp⟩:=a;simp only at hs hx;subst hs;exact .inr ⟨b,o,x,rfl,hx,hr,by simp [Zm,hx]⟩
  ·cases hr
theorem Zc3:ZS []=false:=rfl
def Z8C:Zae:=fun vals h s=>
 match vals,s with
 | [.slice p n c],.inr (.inr (.inr (.inl d)))::s'=>some (ZcV d,h,s',[(Zaf h p n c,true),(ZS (Zm h p n),d)])
 | _,_=>none
def Zg3:Zae:=fun vals h s=>
 match vals,s with
 | [.slice p n c,.slice q n' c'],.inr (.inr (.inr (.inl d)))::s'=>some (ZcV d,h,s',[(Zaf h p n c,true),(Zaf h q n' c',true),(ZS (Zm h p n) || ZS (Zm h q n'),d)])
 | _,_=>none
theorem Z4h {a b c:Bool×Bool}(h:Zx [a,b,c]):a.1=a.2∧b.1=b.2∧c.1=c.2:=⟨h _ (by simp),h _ (by simp),h _ (by simp)⟩
theorem Zee:Z6 132 Zg3:=by
 intro vals h s v h' s' lg hg hl m B w E hv;unfold Zg3 at hg;split at hg
 ·rename_i p n c q n' c' d s2;cases hg;obtain⟨l1,l2,l3⟩:=Z4h hl;simp only at l1 l2 l3;rcases ZK l1 with ⟨rfl,rfl,rfl,e0⟩ | ⟨b,o,x,rfl,hx,r1,e0⟩<;>rcases ZK l2 with ⟨rfl,rfl,rfl,f0⟩ | ⟨b',o',y,rfl,hy,t1,f0⟩<;>simp only[e0,f0] at l3
  ·rw[Zc3,Bool.or_self] at l3;subst l3;exact Zcy _ h [] _ _ _ _ rfl (fun x hx=>by cases hx) m B w E hv
  ·rw[Zc3,Bool.false_or] at l3;exact Zcy _ h [cmp d] (ZcV d) h [] [(Z8 y.2 y.1 o' n' c',true),(ZS (Zz y.1 o' n'),d)] (by simp only[ZjI,hy]) (Za t1 (Z5 l3)) m B w E hv
  ·rw[Zc3,Bool.or_false] at l3;exact Zcy _ h [cmp d] (ZcV d) h [] [(Z8 x.2 x.1 o n c,true),(ZS (Zz x.1 o n),d)] (by simp only[ZjI,hx]) (Za r1 (Z5 l3)) m B w E hv
  ·exact Zcy _ h [cmp d] (ZcV d) h [] [(Z8 x.2 x.1 o n c,true),(Z8 y.2 y.1 o' n' c',true),(ZS (Zz x.1 o n) || ZS (Zz y.1 o' n'),d)] (by simp only[ZjI,hx,hy]) (Za r1 (Za t1 (Z5 l3))) m B w E hv
 ·cases hg
def Zut:Zae:=fun vals h s=>
 match vals with
 | [.slice p n c,.slice q n' c']=>some (i6' (Zci (Zm h p n) (Zm h q n')),h,s,[(Zaf h p n c,true),(Zaf h q n' c',true)])
 | _=>none
theorem Ztb {L:List Int}{n:Nat}(h:L.length=n):Zci [] L=ZpG 0 n:=by
 unfold Zci ZpG;rw[h,List.length_nil];split
 ·rfl
 ·rfl
theorem Zz3 {L:List Int}{n:Nat}(h:L.length=n):Zci L []=ZpG n 0:=by
 unfold Zci ZpG;rw[h,List.length_nil];split
 ·rename_i h0;rw[h0];rfl
 ·rfl
theorem ZpW:Z6 187 Zut:=by
 intro vals h s v h' s' lg hg hl m B w E hv;unfold Zut at hg;split at hg
 ·rename_i p n c q n' c';cases hg;have l1:=hl _ (Xe);have l2:=hl _ (Xd _ Xf);simp only at l1 l2;rcases ZK l1 with ⟨rfl,rfl,rfl,e0⟩ | ⟨b,o,x,rfl,hx,r1,e0⟩<;>rcases ZK l2 with ⟨rfl,rfl,rfl,f0⟩ | ⟨b',o',y,rfl,hy,t1,f0⟩<;>simp only[e0,f0]
  ·exact Zea _ h s _ _ _ _ rfl (fun x hx=>by cases hx) m B w E hv
  ·rw[Ztb (ZH t1).2.1];exact Zea _ h s _ _ _ _ rfl (fun x hx=>by cases hx) m B w E hv
  ·rw[Zz3 (ZH r1).2.1];exact Zea _ h s _ _ _ _ rfl (fun x hx=>by cases hx) m B w E hv
  ·exact Zea _ h s _ h s [(Z8 x.2 x.1 o n c,true),(Z8 y.2 y.1 o' n' c',true)] (by simp only[Z4d,hx,hy]) (Za r1 (Z5 t1)) m B w E hv
 ·cases hg
theorem Zz4 {L:List Int}{n:Nat}(h:L.length=n):Zci [] L<0↔0<n:=by
 rw[Ztb h];unfold ZpG;split
 ·omega
 ·split<;>omega
end Go.Proofs.YtgefjidphfdhdaaGreatDoor.Na
namespace Go.Proofs.YtgefjidphfdhdaaGreatDoor
open Go.Proofs.Tryz
open Go.IntKind
open Go.KRun Go.Nt
set_option maxRecDepth 100000
structure Nu (i:Nat) (x:List Value×TypeId) (p:Option Addr) (n c:Nat) (A:List Int):Prop where
 row:∀ h:Hp,h.blk? i=some x→zx h p n c=true∧Zm h p n=A
 pos:p=none∨∃ o,p=some ⟨i,o,none⟩
 st:∀ v∈x.1,still v=true
 lt0:∀ v∈x.1,still v=true
 ros:ro x.2=true∧ab x.2=false
theorem Nu.rn {i:Nat}{x:List Value×TypeId}{p:Option Addr}{n c:Nat}{A:List Int}(h:Nu i x p n c A) {f:Nat→Nat}(hf:f i=i):KRun.rn f (.slice p n c)= .slice p n c:=by
 rcases h.pos with rfl | ⟨o,rfl⟩
 ·rfl
 ·show Value.slice (some ⟨f i,o,none⟩) n c=_;rw[hf]
theorem Nu.lt {i:Nat}{x:List Value×TypeId}{p:Option Addr}{n c:Nat}{A:List Int}(h:Nu i x p n c A) {k:Nat}(hk:i<k):KRun.lt k (.slice p n c)=true:=by
 rcases h.pos with rfl | ⟨o,rfl⟩
 ·rfl
 ·exact Zl.2 hk
theorem Zb0 {h:Hp}{p:Option Addr}{n c:Nat}(i:Nat) (hr:zx h p n c=true):∃ x p' b,Nu i x p' n c (Zm h p n)∧(∀ s:Nat→Nat,s i=b→rn s (.slice p' n c)= .slice p n c)∧(Zad x.2=false→∃ y r,h.blk? b=some y∧Zad y.2=false∧rt y.2=rt x.2∧y.1=x.1++r):=by
 rcases ZC hr with ⟨rfl,rfl,rfl,e0⟩ | ⟨b,o,x,rfl,hx,q1,q2,e0⟩
 ·refine⟨([],2*zo),none,0,⟨fun h' _=>⟨rfl,by rw[e0];rfl⟩,.inl rfl,(fun v hv=>by cases hv),(fun v hv=>by cases hv),(by kernel_rfl),(by kernel_rfl)⟩,fun s _=>rfl,fun ht=> ?_⟩;rw[show Zad (2*zo)=true from by kernel_rfl] at ht;cases ht
 ·obtain⟨h1,h2,h3,h4,h5,h6,h7⟩:=zj q1;refine⟨(x.1,tR),some ⟨i,o,none⟩,b,⟨fun h' hb=>⟨?_,?_⟩,.inr ⟨o,rfl⟩,q2,h7,Zp7,Zp8⟩,fun s hs=> ?_,fun _=>⟨x,[],hx,h5,by rw[h6];exact Zp9.symm,by simp⟩⟩
  ·simp only[zx,hb,Xh];refine⟨?_,List.all_eq_true.2 q2⟩;unfold ZaQ at q1 ⊢;simp only[Xh,Bool.not_eq_true'] at q1 ⊢;obtain⟨⟨⟨⟨⟨⟨_,_⟩,p3⟩,p4⟩,p5⟩,p6⟩,p7⟩:=q1;exact⟨⟨⟨⟨⟨⟨Zbp,by kernel_rfl⟩,p3⟩,p4⟩,p5⟩,p6⟩,p7⟩
  ·rw[e0];simp [Zm,hb]
  ·show Value.slice (some ⟨s i,o,none⟩) n c=_;rw[hs]
def dgB (L:List Int):Bool:=L.all fun x=>decide (0≤x∧x<65536)
theorem Zbu {L:List Int}(h:dgB L=true):∀ x∈L,Dg 65536 x:=fun x hx=>Xc (List.all_eq_true.1 h x hx)
theorem Zbv {L:List Int}(h:∀ x∈L,Dg 65536 x):dgB L=true:=List.all_eq_true.2 fun x hx=>Xa (h x hx)
theorem z6 {h:Hp}{p:Option Addr}{n c:Nat}(hr:zx h p n c=true):(Zm h p n).length=n:=by
 rcases ZC hr with ⟨rfl,rfl,rfl,e0⟩ | ⟨b,o,x,rfl,hx,q1,q2,e0⟩
 ·rw[e0];rfl
 ·rw[e0];exact (zj q1).2.1
theorem Zef {L:List Int}(h:∀ x∈L,Dg 65536 x) (i:Nat):Dg 65536 (L.getD i 0):=by
 by_cases hi:i<L.length
 ·rw[Zi3 hi];exact h _ (List.getElem_mem hi)
 ·rw[show L.getD i 0=0 from by simp [List.getD,List.getElem?_eq_none (show L.length≤i by omega)]];exact⟨by omega,by omega⟩
theorem Zat (L:List Int) (i:Nat):atN L (i:Int)=L.getD i 0:=by unfold atN;rw[if_pos (by omega),Xg]
def ZjS (F:Func):List Code:=[Z2 (Zs F),Z2 (Z0 (Zs F)),Z2 (Z0 (Z0 (Zs F)))]
def aR3 (F:Func):Code:=Z2 (Z2 (Z0 (Z0 (Z0 (Zs F)))))
def ZaY (F:Func):Code:=cIn (cIn (Z0 (Z2 (Z0 (Z0 (Z0 (Zs F)))))))
def ZyK (F:Func):Code:=Z0 (Z0 (Z0 (Z0 (Zs F))))
theorem ZlE:f33.body=some (ZW (ZjS f33) (.seq (.seq (aR3 f33) (.block 0 (.loop (ZaY f33)))) (ZyK f33))):=by kernel_rfl
theorem ZpX (a b:Value) (h:Hp):Zg (evL (Zk prog Zf Zo hcV) 100 (ZjS f33) ([a,b]++List.replicate 40 undef,h,[]) ⟨[],[],[]⟩) 7 35 none [a,b,undef,undef,Zn,Zn,.int .u32 0] h []:=by and_intros<;>kernel_rfl
theorem Zuu (a b:Value) (h:Hp) (g:Nat→Value):Zg (evC (Zk prog Zf Zo hcV) 100 false (aR3 f33) ([a,b,undef,undef,Zn,Zn,.int .u32 0]++tl 35 g,h,[]) ⟨[],[],[]⟩) 8 34 none [a,b,undef,undef,Zn,Zn,.int .u32 0,.int .i64 0] h []:=by and_intros<;>kernel_rfl
def sm (A B:List Int) (k i:Int):Int:=u32.wrap (u32.wrap (k+atN A i)+atN B i)
def hu3 (lo:List Value) (y x:List Value×TypeId):Hp:=⟨3,[(lo,tU),y,x]⟩
def hp2 (y x:List Value×TypeId):Hp:=⟨2,[y,x]⟩
def Zz5 (w:Nat):List Dec:=match w with | 0=>[cmp true] | 1=>[cmp false,cmp true] | _=>[cmp false,cmp false,cmp true]
def Ztc (w:Nat) (n n':Nat) (k i:Int):Log:=match w with | 0=>[(decide (i<n),true)] | 1=>[(decide (i<n'),true),(decide (i<n),false)] | _=>[(decide (k>0),true),(decide (i<n'),false),(decide (i<n),false)]
def rP (h:Hp) (p:Option Addr) (n c:Nat):Bool×Bool:=(zx h p n c,true)
theorem ZlF (p q:Option Addr) (n c n' c':Nat) (k i:Int) (x y:List Value×TypeId) (g:Nat→Value):Zg (evC (Zk prog Zf Zo hcV) 100 false (ZaY f33) ([.slice p n c,.slice q n' c',undef,undef,Zn,Zn,.int .u32 k,.int .i64 i]++tl 34 g,hp2 y x,Zz5 0++[cmp true]) ⟨[],[],[]⟩) 8 34 none [.slice p n c,.slice q n' c',undef,undef,Zn,sl 3 0 1 grown,.int .u32 (u32.wrap ((sm (Zm (hp2 y x) p n) (Zm (hp2 y x) q n') k i).tdiv 65536)),.int .i64 (i64.wrap (i+1))] ⟨4,[([.int .u32 ((sm (Zm (hp2 y x) p n) (Zm (hp2 y x) q n') k i).tmod 65536)],tU),([.int .u32 ((sm (Zm (hp2 y x) p n) (Zm (hp2 y x) q n') k i).tmod 65536)],tU),y,x]⟩ ((decide ((65536:Int)=0),false)::rP (hp2 y x) q n' c'::rP (hp2 y x) p n c::Ztc 0 n n' k i):=by and_intros<;>kernel_rfl
theorem ZlG (p q:Option Addr) (n c n' c':Nat) (k i:Int) (x y:List Value×TypeId) (g:Nat→Value):Zg (evC (Zk prog Zf Zo hcV) 100 false (ZaY f33) ([.slice p n c,.slice q n' c',undef,undef,Zn,Zn,.int .u32 k,.int .i64 i]++tl 34 g,hp2 y x,Zz5 1++[cmp true]) ⟨[],[],[]⟩) 8 34 none [.slice p n c,.slice q n' c',undef,undef,Zn,sl 3 0 1 grown,.int .u32 (u32.wrap ((sm (Zm (hp2 y x) p n) (Zm (hp2 y x) q n') k i).tdiv 65536)),.int .i64 (i64.wrap (i+1))] ⟨4,[([.int .u32 ((sm (Zm (hp2 y x) p n) (Zm (hp2 y x) q n') k i).tmod 65536)],tU),([.int .u32 ((sm (Zm (hp2 y x) p n) (Zm (hp2 y x) q n') k i).tmod 65536)],tU),y,x]⟩ ((decide ((65536:Int)=0),false)::rP (hp2 y x) q n' c'::rP (hp2 y x) p n c::Ztc 1 n n' k i):=by and_intros<;>kernel_rfl
theorem ZjT (p q:Option Addr) (n c n' c' z:Nat) (k i:Int) (x y:List Value×TypeId) (lo:List Value) (g:Nat→Value):Zg (evC (Zk prog Zf Zo hcV) 100 false (ZaY f33) ([.slice p n c,.slice q n' c',undef,undef,Zn,sl 2 0 z grown,.int .u32 k,.int .i64 i]++tl 34 g,hu3 lo y x,Zz5 0++[cmp true,at_]) ⟨[],[],[]⟩) 8 34 none [.slice p n c,.slice q n' c',undef,undef,Zn,sl 4 0 (z+1) grown,.int .u32 (u32.wrap ((sm (Zm (hu3 lo y x) p n) (Zm (hu3 lo y x) q n') k i).tdiv 65536)),.int .i64 (i64.wrap (i+1))] ⟨5,[(lo++[.int .u32 ((sm (Zm (hu3 lo y x) p n) (Zm (hu3 lo y x) q n') k i).tmod 65536)],tU),([.int .u32 ((sm (Zm (hu3 lo y x) p n) (Zm (hu3 lo y x) q n') k i).tmod 65536)],tU),([],2*zo),y,x]⟩ ((Zag tU (lo,tU) ([.int .u32 ((sm (Zm (hu3 lo y x) p n) (Zm (hu3 lo y x) q n') k i).tmod 65536)],tU) z 0 1,true)::(decide ((65536:Int)=0),false)::rP (hu3 lo y x) q n' c'::rP (hu3 lo y x) p n c::Ztc 0 n n' k i):=by and_intros<;>kernel_rfl
theorem ZjU (p q:Option Addr) (n c n' c' z:Nat) (k i:Int) (x y:List Value×TypeId) (lo:List Value) (g:Nat→Value):Zg (evC (Zk prog Zf Zo hcV) 100 false (ZaY f33) ([.slice p n c,.slice q n' c',undef,undef,Zn,sl 2 0 z grown,.int .u32 k,.int .i64 i]++tl 34 g,hu3 lo y x,Zz5 1++[cmp true,at_]) ⟨[],[],[]⟩) 8 34 none [.slice p n c,.slice q n' c',undef,undef,Zn,sl 4 0 (z+1) grown,.int .u32 (u32.wrap ((sm (Zm (hu3 lo y x) p n) (Zm (hu3 lo y x) q n') k i).tdiv 65536)),.int .i64 (i64.wrap (i+1))] ⟨5,[(lo++[.int .u32 ((sm (Zm (hu3 lo y x) p n) (Zm (hu3 lo y x) q n') k i).tmod 65536)],tU),([.int .u32 ((sm (Zm (hu3 lo y x) p n) (Zm (hu3 lo y x) q n') k i).tmod 65536)],tU),([],2*zo),y,x]⟩ ((Zag tU (lo,tU) ([.int .u32 ((sm (Zm (hu3 lo y x) p n) (Zm (hu3 lo y x) q n') k i).tmod 65536)],tU) z 0 1,true)::(decide ((65536:Int)=0),false)::rP (hu3 lo y x) q n' c'::rP (hu3 lo y x) p n c::Ztc 1 n n' k i):=by and_intros<;>kernel_rfl
theorem ZjV (p q:Option Addr) (n c n' c' z:Nat) (k i:Int) (x y:List Value×TypeId) (lo:List Value) (g:Nat→Value):Zg (evC (Zk prog Zf Zo hcV) 100 false (ZaY f33) ([.slice p n c,.slice q n' c',undef,undef,Zn,sl 2 0 z grown,.int .u32 k,.int .i64 i]++tl 34 g,hu3 lo y x,Zz5 2++[cmp true,at_]) ⟨[],[],[]⟩) 8 34 none [.slice p n c,.slice q n' c',undef,undef,Zn,sl 4 0 (z+1) grown,.int .u32 (u32.wrap ((sm (Zm (hu3 lo y x) p n) (Zm (hu3 lo y x) q n') k i).tdiv 65536)),.int .i64 (i64.wrap (i+1))] ⟨5,[(lo++[.int .u32 ((sm (Zm (hu3 lo y x) p n) (Zm (hu3 lo y x) q n') k i).tmod 65536)],tU),([.int .u32 ((sm (Zm (hu3 lo y x) p n) (Zm (hu3 lo y x) q n') k i).tmod 65536)],tU),([],2*zo),y,x]⟩ ((Zag tU (lo,tU) ([.int .u32 ((sm (Zm (hu3 lo y x) p n) (Zm (hu3 lo y x) q n') k i).tmod 65536)],tU) z 0 1,true)::(decide ((65536:Int)=0),false)::rP (hu3 lo y x) q n' c'::rP (hu3 lo y x) p n c::Ztc 2 n n' k i):=by and_intros<;>kernel_rfl
theorem ZpY (p q:Option Addr) (n c n' c':Nat) (v:Value) (k i:Int) (h:Hp) (g:Nat→Value):Zg (evC (Zk prog Zf Zo hcV) 100 false (ZaY f33) ([.slice p n c,.slice q n' c',undef,undef,Zn,v,.int .u32 k,.int .i64 i]++tl 34 g,h,[cmp false,cmp false,cmp false]) ⟨[],[],[]⟩) 8 34 (some (some 0)) [.slice p n c,.slice q n' c',undef,undef,Zn,v,.int .u32 k,.int .i64 i] h [(decide (k>0),false),(decide (i<n'),false),(decide (i<n),false)]:=by and_intros<;>kernel_rfl
theorem ZpZ (a b:Value) (z:Nat) (k i:Int) (x y:List Value×TypeId) (lo:List Value) (g:Nat→Value):Zg (evC (Zk prog Zf Zo hcV) 100 false (ZyK f33) ([a,b,undef,undef,Zn,sl 2 0 z grown,.int .u32 k,.int .i64 i]++tl 34 g,hu3 lo y x,[]) ⟨[],[],[]⟩) 5 37 (some none) [a,b,undef,undef,sl 2 0 (Zi (Zz lo 0 z)) (Zi (Zz lo 0 z))] (hu3 lo y x) [(ZaQ tU lo 0 z grown,true)]:=by and_intros<;>kernel_rfl
theorem ZjW (p q:Option Addr) (n c n' c':Nat) (h:Hp):Zg (evC (Zk prog Zf Zo hcV) 100 false (Zs f33) ([.slice p n c,.slice q n' c']++List.replicate 40 undef,h,[cmp false,cmp false,cmp false]) ⟨[],[],[]⟩) 5 37 (some none) [.slice p n c,.slice q n' c',undef,undef,Zn] h [(decide ((0:Int)>0),false),(decide ((0:Int)<n'),false),(decide ((0:Int)<n),false)]:=by and_intros<;>kernel_rfl
theorem zt {n:Int}(h0:0≤n) (h1:n<4294967296):u32.wrap n=n:=by simp [IntKind.wrap,IntKind.bits,IntKind.signed];omega
def dgN (L:List Int) (i:Nat):Nat:=(L.getD i 0).toNat
theorem zC {L:List Int}(h:∀ x∈L,Dg 65536 x) (i:Nat):dgN L i<65536∧((dgN L i:Nat):Int)=L.getD i 0:=by
 have:=Zef h i;unfold dgN;omega
theorem Zeg {L:List Int}{i:Nat}(h:L.length≤i):dgN L i=0:=by unfold dgN;simp [List.getD,List.getElem?_eq_none h]
theorem Z4N {A B:List Int}(hA:∀ x∈A,Dg 65536 x) (hB:∀ x∈B,Dg 65536 x) {k:Nat}(hk:k≤1) (i:Nat):sm A B k i=((k+dgN A i+dgN B i:Nat):Int):=by
 have h1:=zC hA i;have h2:=zC hB i;unfold sm;rw[Zat,Zat,← h1.2,← h2.2,zt (n:=(k:Int)+_) (by omega) (by omega),zt (by omega) (by omega)];omega
theorem Zfv (a:Nat):((a:Int)).tmod 65536=((a % 65536:Nat):Int):=by rw[Int.tmod_eq_emod_of_nonneg (by omega)];omega
theorem Zfw {a:Nat}(h:a<4294967296):u32.wrap ((a:Int).tdiv 65536)=((a/65536:Nat):Int):=by
 rw[Int.tdiv_eq_ediv_of_nonneg (by omega),zt (by omega) (by omega)];omega
theorem okW {p:Bool×Bool}{l:Log}(h:p.1=p.2) (hl:Zx l):Zx (p::l):=Zj h hl
section
variable {x y : List Value × TypeId} {p q : Option Addr} {n c n' c' : Nat} {A B : List Int}
theorem Zc4 (NA:Nu 0 x p n c A) (NB:Nu 1 y q n' c' B) {h:Hp}(h0:h.blk? 0=some x) (h1:h.blk? 1=some y):∀ i z,(⟨2,[y,x]⟩:Hp).blk? i=some z→h.blk? i=some z∧∀ v∈z.1,still v=true:=fun i z hz=>by
 rcases Zl7 hz with ⟨rfl,rfl⟩ | ⟨rfl,rfl⟩
 ·exact⟨h0,NA.st⟩
 ·exact⟨h1,NB.st⟩
theorem ZjX (NA:Nu 0 x p n c A) (NB:Nu 1 y q n' c' B) (hA:∀ x∈A,Dg 65536 x) (hB:∀ x∈B,Dg 65536 x) {k i:Nat}{O:List Int}(hk:k≤1) (hi:i<1073741823) (hO:O.length=i) (hgo:i<n∨i<n'∨0<k) {Y:Lf}
  (hY:(i=0∧k=0∧(∃ g,Y.1=[.slice p n c,.slice q n' c',undef,undef,Zn,Zn,.int .u32 (k:Nat),.int .i64 (i:Nat)]++tl 34 g)∧Y.2.1=hp2 y x)∨(0<i∧(∃ g,Y.1=[.slice p n c,.slice q n' c',undef,undef,Zn,sl 2 0 i grown,.int .u32 (k:Nat),.int .i64 (i:Nat)]++tl 34 g)∧Y.2.1=hu3 (wU O) y x)):
  RunsW (Zk prog Zf Zo hcV) (ZaY f33) Y fun e z=>e=none∧(∃ g,z.1=[.slice p n c,.slice q n' c',undef,undef,Zn,sl 2 0 (i+1) grown,.int .u32 ((k+dgN A i+dgN B i)/65536:Nat),.int .i64 ((i+1:Nat):Int)]++tl 34 g)∧z.2.1=hu3 (wU (O++[(((k+dgN A i+dgN B i) % 65536:Nat):Int)])) y x:=by
 obtain⟨t,h',s⟩:=Y;have hd1:=(zC hA i).1;have hd2:=(zC hB i).1;have es:=Z4N hA hB hk i;have e1:(sm A B k i).tmod 65536=(((k+dgN A i+dgN B i) % 65536:Nat):Int):=by rw[es,Zfv]
 have e2:u32.wrap ((sm A B k i).tdiv 65536)=(((k+dgN A i+dgN B i)/65536:Nat):Int):=by rw[es,Zfw (by omega)]
 have e3:i64.wrap ((i:Int)+1)=((i+1:Nat):Int):=by rw[Zw (by omega) (by omega)];omega
 rcases hY with ⟨h0,k0,⟨g,ht⟩,hh⟩ | ⟨h0,⟨g,ht⟩,hh⟩
 ·simp only at ht hh;subst ht hh;have r0:=NA.row (hp2 y x) rfl;have r1:=NB.row (hp2 y x) rfl;have fin:RunsW (Zk prog Zf Zo hcV) (ZaY f33) ([.slice p n c,.slice q n' c',undef,undef,Zn,Zn,.int .u32 (k:Nat),.int .i64 (i:Nat)]++tl 34 g,hp2 y x,s) fun e z=>e=none∧(∃ g,z.1=[.slice p n c,.slice q n' c',undef,undef,Zn,sl 3 0 1 grown,.int .u32 (u32.wrap ((sm A B k i).tdiv 65536)),.int .i64 (i64.wrap ((i:Int)+1))]++tl 34 g)∧z.2.1=⟨4,[([.int .u32 ((sm A B k i).tmod 65536)],tU),([.int .u32 ((sm A B k i).tmod 65536)],tU),y,x]⟩:=by
   by_cases ha:i<n
   ·have:=Zb (Zh Zd Zy) (s0:=s) (ZlF p q n c n' c' k i x y g) (okW rfl (okW r1.1 (okW r0.1 (Zu (Xa (by omega))))));rw[r0.2,r1.2] at this;exact this
   ·have:=Zb (Zh Zd Zy) (s0:=s) (ZlG p q n c n' c' k i x y g) (okW rfl (okW r1.1 (okW r0.1 (okW (Xa (by omega)) (Zu (Xb (by omega)))))));rw[r0.2,r1.2] at this;exact this
  have hO':O=[]:=List.length_eq_zero_iff.1 (by omega);rw[e1,e2,e3] at fin;have:=fin.kept (k:=2) (b:=3) (base:=[y,x]) (y:=([.int .u32 (((k+dgN A i+dgN B i) % 65536:Nat):Int)],tU)) (front':=[.slice p n c,.slice q n' c',undef,undef,Zn,sl 2 0 1 grown,.int .u32 ((k+dgN A i+dgN B i)/65536:Nat),.int .i64 ((i+1:Nat):Int)]) rfl
   (by simp only[List.map_cons,List.map_nil,NA.rn (f:=zK 2 3) rfl,NB.rn (f:=zK 2 3) rfl];kernel_rfl) (Zc4 NA NB rfl rfl) rfl (by omega) (fun v hv=>by rw[List.mem_singleton.1 hv];rfl) (fun v hv=>by
    simp only[List.mem_cons,List.not_mem_nil,or_false] at hv;rcases hv with rfl | rfl | rfl | rfl | rfl | rfl | rfl | rfl
    ·exact NA.lt (by omega)
    ·exact NB.lt (by omega)
    all_goals rfl)
  refine this.mono fun e z hz=> ?_;obtain⟨rfl,⟨g',q1⟩,q2⟩:=hz;subst hO' h0;exact⟨rfl,⟨g',q1⟩,q2⟩
 ·simp only at ht hh;subst ht hh;have r0:=NA.row (hu3 (wU O) y x) rfl;have r1:=NB.row (hu3 (wU O) y x) rfl;have hchk:Zag tU (wU O,tU) ([.int .u32 ((sm A B k i).tmod 65536)],tU) i 0 1=true:=
   Zbf (L:=O) (M:=[(sm A B k i).tmod 65536]) hO.symm (show 0<1 by omega) (by show O.length+1≤_;omega)
  have fin:RunsW (Zk prog Zf Zo hcV) (ZaY f33) ([.slice p n c,.slice q n' c',undef,undef,Zn,sl 2 0 i grown,.int .u32 (k:Nat),.int .i64 (i:Nat)]++tl 34 g,hu3 (wU O) y x,s) fun e z=>e=none∧(∃ g,z.1=[.slice p n c,.slice q n' c',undef,undef,Zn,sl 4 0 (i+1) grown,.int .u32 (u32.wrap ((sm A B k i).tdiv 65536)),.int .i64 (i64.wrap ((i:Int)+1))]++tl 34 g)∧z.2.1=⟨5,[(wU O++[.int .u32 ((sm A B k i).tmod 65536)],tU),([.int .u32 ((sm A B k i).tmod 65536)],tU),([],2*zo),y,x]⟩:=by
   by_cases ha:i<n
   ·have hl:Zx (Ztc 0 n n' k i):=Zu (Xa (by omega));have:=Zb (Zh Zd Zy) (s0:=s) (ZjT p q n c n' c' i k i x y (wU O) g) (by rw[r0.2,r1.2];exact okW hchk (okW rfl (okW r1.1 (okW r0.1 hl))));rw[r0.2,r1.2] at this;exact this
   ·by_cases hb:i<n'
    ·have hl:Zx (Ztc 1 n n' k i):=okW (Xa (by omega)) (Zu (Xb (by omega)));have:=Zb (Zh Zd Zy) (s0:=s) (ZjU p q n c n' c' i k i x y (wU O) g) (by rw[r0.2,r1.2];exact okW hchk (okW rfl (okW r1.1 (okW r0.1 hl))));rw[r0.2,r1.2] at this;exact this
    ·have hl:Zx (Ztc 2 n n' k i):=okW (Xa (by omega)) (okW (Xb (by omega)) (Zu (Xb (by omega))));have:=Zb (Zh Zd Zy) (s0:=s) (ZjV p q n c n' c' i k i x y (wU O) g) (by rw[r0.2,r1.2];exact okW hchk (okW rfl (okW r1.1 (okW r0.1 hl))));rw[r0.2,r1.2] at this;exact this
  rw[e1,e2,e3] at fin;have ew:wU O++[.int .u32 (((k+dgN A i+dgN B i) % 65536:Nat):Int)]=wU (O++[(((k+dgN A i+dgN B i) % 65536:Nat):Int)]):=by rw[ZU];rfl
  rw[ew] at fin;have:=fin.kept (k:=2) (b:=4) (base:=[y,x]) (y:=(wU (O++[(((k+dgN A i+dgN B i) % 65536:Nat):Int)]),tU)) (front':=[.slice p n c,.slice q n' c',undef,undef,Zn,sl 2 0 (i+1) grown,.int .u32 ((k+dgN A i+dgN B i)/65536:Nat),.int .i64 ((i+1:Nat):Int)]) rfl
   (by simp only[List.map_cons,List.map_nil,NA.rn (f:=zK 2 4) rfl,NB.rn (f:=zK 2 4) rfl];kernel_rfl) (Zc4 NA NB rfl rfl) rfl (by omega) (ZE _) (fun v hv=>by
    simp only[List.mem_cons,List.not_mem_nil,or_false] at hv;rcases hv with rfl | rfl | rfl | rfl | rfl | rfl | rfl | rfl
    ·exact NA.lt (by omega)
    ·exact NB.lt (by omega)
    all_goals rfl)
  exact this
def aSt (x y:List Value×TypeId) (p q:Option Addr) (n c n' c':Nat) (O:List Int) (i k:Nat) (Y:Lf):Prop:=
 (i=0∧k=0∧(∃ g,Y.1=[.slice p n c,.slice q n' c',undef,undef,Zn,Zn,.int .u32 (k:Nat),.int .i64 (i:Nat)]++tl 34 g)∧Y.2.1=hp2 y x)∨(0<i∧(∃ g,Y.1=[.slice p n c,.slice q n' c',undef,undef,Zn,sl 2 0 i grown,.int .u32 (k:Nat),.int .i64 (i:Nat)]++tl 34 g)∧Y.2.1=hu3 (wU O) y x)
def Z8D (x y:List Value×TypeId) (p q:Option Addr) (n c n' c':Nat) (A B:List Int) (m:Nat) (Y:Lf):Prop:=
 ∃ (i k:Nat) (O:List Int),O.length=i∧m=max n n'+1-i∧i≤max n n'+1∧k≤1∧(i=max n n'+1→k=0)∧(∀ x∈O,Dg 65536 x)∧vb 65536 O+65536^O.length*k=vb 65536 (A.take i)+vb 65536 (B.take i)∧aSt x y p q n c n' c' O i k Y
def Zuv (x y:List Value×TypeId) (p q:Option Addr) (n c n' c':Nat) (A B:List Int) (Y:Lf):Prop:=
 ∃ (i:Nat) (O:List Int),O.length=i∧i≤max n n'+1∧(∀ x∈O,Dg 65536 x)∧vb 65536 O=vb 65536 A+vb 65536 B∧n≤i∧n'≤i∧aSt x y p q n c n' c' O i 0 Y
theorem ZlH (NA:Nu 0 x p n c A) (NB:Nu 1 y q n' c' B) (lA:A.length=n) (lB:B.length=n') (hA:∀ x∈A,Dg 65536 x) (hB:∀ x∈B,Dg 65536 x) (hn:max n n'+2<1073741824) (g:Nat→Value):
  RunsW (Zk prog Zf Zo hcV) (.block 0 (.loop (ZaY f33))) ([.slice p n c,.slice q n' c',undef,undef,Zn,Zn,.int .u32 0,.int .i64 0]++tl 34 g,hp2 y x,[]) fun e Y=>match e with | none=>Zuv x y p q n c n' c' A B Y | some none=>False | some (some _)=>False:=by
 refine RunsW.forLoop (P:=Zuv x y p q n c n' c' A B) (R:=fun _=>False) (Z8D x y p q n c n' c' A B) ?_ (n:=max n n'+1) ⟨0,0,[],rfl,by omega,by omega,by omega,by omega,(fun x hx=>by cases hx),by simp [vb],.inl ⟨rfl,rfl,⟨g,rfl⟩,rfl⟩⟩;rintro m Y ⟨i,k,O,hO,hm,hi,hk,hk0,hOd,hval,hY⟩;by_cases hgo:i<n∨i<n'∨0<k
 ·have hmx:i≤max n n':=by
   rcases Nat.lt_or_ge i (max n n'+1) with h | h
   ·omega
   ·have:k=0:=hk0 (by omega);omega
  have r:=ZjX NA NB hA hB hk (by omega) hO hgo hY;refine r.mono fun e z hz=> ?_;obtain⟨rfl,z1,z2⟩:=hz;have d1:=(zC hA i).1;have d2:=(zC hB i).1;refine⟨max n n'+1-(i+1),by omega,i+1,(k+dgN A i+dgN B i)/65536,O++[(((k+dgN A i+dgN B i) % 65536:Nat):Int)],by simp [hO],rfl,by omega,by omega,fun he=> ?_,fun x hx=> ?_,?_,.inr ⟨by omega,z1,z2⟩⟩
  ·have z1:dgN A i=0:=Zeg (by omega);have z2:dgN B i=0:=Zeg (by omega);omega
  ·rcases List.mem_append.1 hx with hx | hx
   ·exact hOd x hx
   ·rw[List.mem_singleton.1 hx];exact⟨by omega,by omega⟩
  ·have:=ZlA (a:=dgN A i) (c:=dgN B i) hval;rw[Za5,Za5,← hO];rw[List.length_append];rw[hO] at this ⊢;exact this
 ·have hk:k=0:=by omega
  subst hk;have ha:n≤i:=by omega
  have hb:n'≤i:=by omega
  have out:∀ (v:Value) (h:Hp) (g:Nat→Value) (s:List Dec),RunsW (Zk prog Zf Zo hcV) (ZaY f33) ([.slice p n c,.slice q n' c',undef,undef,Zn,v,.int .u32 ((0:Nat):Int),.int .i64 (i:Nat)]++tl 34 g,h,s) fun e z=>e=some (some 0)∧(∃ g,z.1=[.slice p n c,.slice q n' c',undef,undef,Zn,v,.int .u32 ((0:Nat):Int),.int .i64 (i:Nat)]++tl 34 g)∧z.2.1=h:=fun v h g s=>
   Zb (Zh Zd Zy) (ZpY p q n c n' c' v 0 i h g) (okW rfl (okW (Xb (by omega)) (Zu (Xb (by omega)))))
  have hv:vb 65536 O=vb 65536 A+vb 65536 B:=by
   rw[List.take_of_length_le (by omega),List.take_of_length_le (by omega)] at hval;omega
  obtain⟨t,h',s⟩:=Y;rcases hY with ⟨h0,k0,⟨g,ht⟩,hh⟩ | ⟨h0,⟨g,ht⟩,hh⟩
  ·simp only at ht hh;subst ht hh;refine (out Zn _ g s).mono fun e z hz=> ?_;obtain⟨rfl,z1,z2⟩:=hz;exact⟨rfl,i,O,hO,hi,hOd,hv,ha,hb,.inl ⟨h0,rfl,z1,z2⟩⟩
  ·simp only at ht hh;subst ht hh;refine (out (sl 2 0 i grown) _ g s).mono fun e z hz=> ?_;obtain⟨rfl,z1,z2⟩:=hz;exact⟨rfl,i,O,hO,hi,hOd,hv,ha,hb,.inr ⟨h0,z1,z2⟩⟩
theorem ZlI (NA:Nu 0 x p n c A) (NB:Nu 1 y q n' c' B) (lA:A.length=n) (lB:B.length=n') (hA:∀ x∈A,Dg 65536 x) (hB:∀ x∈B,Dg 65536 x) (hn:max n n'+2<1073741824) (h0:0<n∨0<n') {V:Nat}(hV:V=vb 65536 A+vb 65536 B):
  RunsW (Zk prog Zf Zo hcV) (ZW (ZjS f33) (.seq (.seq (aR3 f33) (.block 0 (.loop (ZaY f33)))) (ZyK f33))) ([.slice p n c,.slice q n' c']++List.replicate 40 undef,hp2 y x,[]) fun e z=>(e=none∨e=some none)∧ZV prog f33 z.1 z.2.1=some (sl 2 0 (d16 V).length (d16 V).length)∧∃ r,z.2.1.blk? 2=some (wU (d16 V)++r,tU):=by
 refine Zv (Zh Zd Zy) (ZpX _ _ _) (fun x hx=>by cases hx) fun g=> ?_;refine Zg2 (Zb (Zh Zd Zy) (Zuu _ _ _ g) (fun x hx=>by cases hx)) (fun e y he=>by cases he.1) (P2:=fun e Y=>match e with | none=>Zuv x y p q n c n' c' A B Y | some none=>False | some (some _)=>False) ?_ ?_ ?_
 ·rintro⟨t,h',s⟩ ⟨_,⟨g',ht⟩,hh⟩;simp only at ht hh;subst ht hh;exact RunsW.script (ZlH NA NB lA lB hA hB hn g')
 ·intro e y he
  match e,he with
  | none,he=>exact he
  | some id,he=>exact he
 ·rintro⟨t,h',s⟩ ⟨i,O,hO,hi,hOd,hv,ha,hb,hY⟩;rcases hY with ⟨e0,_⟩ | ⟨_,⟨g',ht⟩,hh⟩
  ·omega
  ·simp only at ht hh;subst ht hh;have hrow:ZaQ tU (wU O) 0 i grown=true:=by
    rw[← hO];exact Zal (fun x hx=>⟨(hOd x hx).1,by have:=(hOd x hx).2;omega⟩) (by omega) (ZyJ _)
   refine (Zb (Zh Zd Zy) (ZpZ _ _ i 0 i x y (wU O) g') (Zu hrow)).mono fun e z he=> ?_;obtain⟨rfl,⟨g2,e1⟩,e2⟩:=he;have et:Zi (Zz (wU O) 0 i)=(d16 V).length:=by
    rw[← hO,ZaV,Zaj (by omega) hOd,hv,← hV];rfl
   refine⟨.inr rfl,?_,?_⟩
   ·rw[e1,e2,et];rfl
   ·rw[e2];refine⟨wU (O.drop (Zi O)),?_⟩;have e3:wU (d16 V)++wU (O.drop (Zi O))=wU O:=by
     unfold d16;rw[hV,← hv,← zf (by omega) _ hOd,← ZU,List.take_append_drop]
    rw[e3];rfl
end
theorem Zc5 {x y:List Value×TypeId}{p q:Option Addr}{n c n' c':Nat}{A B:List Int}(NA:Nu 0 x p n c A) (NB:Nu 1 y q n' c' B):(hp2 y x).rows:=by
 refine⟨rfl,fun b z hz=> ?_⟩;rcases Zl7 hz with ⟨rfl,rfl⟩ | ⟨rfl,rfl⟩
 ·exact⟨NA.ros.1,NA.lt0,NA.ros.2⟩
 ·exact⟨NB.ros.1,NB.lt0,NB.ros.2⟩
theorem Zc6 {x y:List Value×TypeId}{h:Hp}{a b:Nat}(hx:Zad x.2=false→∃ z r,h.blk? a=some z∧Zad z.2=false∧rt z.2=rt x.2∧z.1=x.1++r) (hy:Zad y.2=false→∃ z r,h.blk? b=some z∧Zad z.2=false∧rt z.2=rt y.2∧z.1=y.1++r):(hp2 y x).fits (ZdY a b) h:=by
 intro i z hz ht;rcases Zl7 hz with ⟨rfl,rfl⟩ | ⟨rfl,rfl⟩
 ·exact hx ht
 ·exact hy ht
theorem ZjY:f33.body=some (Zs f33):=by kernel_rfl
def ZL (h:Hp) (p q:Option Addr) (n c n' c':Nat):Bool:=zx h p n c && zx h q n' c' && dgB (Zm h p n) && dgB (Zm h q n') && Nat.blt (max n n'+2) 1073741824
theorem Zc7 {h:Hp}{p q:Option Addr}{n c n' c':Nat}(hr:ZL h p q n c n' c'=true):zx h p n c=true∧zx h q n' c'=true∧(∀ x∈Zm h p n,Dg 65536 x)∧(∀ x∈Zm h q n',Dg 65536 x)∧max n n'+2<1073741824:=by
 unfold ZL at hr;simp only[Xh] at hr;obtain⟨⟨⟨⟨h1,h2⟩,h3⟩,h4⟩,h5⟩:=hr;exact⟨h1,h2,Zbu h3,Zbu h4,Zl.1 h5⟩
def vO (h:Hp) (p:Option Addr) (n:Nat):Nat:=vb 65536 (Zm h p n)
theorem Zbg (A:Nat):∀ x∈d16 A,Dg 65536 x:=ZjP (by omega) A
def Zda (V:Nat) (h:Hp) (s:List Dec) (lg:Log):Option (Value×Hp×List Dec×Log):=some (sl h.n 0 (d16 V).length (d16 V).length,h.push (wU (d16 V)) tU,s,lg)
def Zqa:Zae:=fun vals h s=>
 match vals,s with
 | [.slice p n c,.slice q n' c'],.inr (.inr (.inr (.inl d)))::s'=>
  match d with
  | true=>Zda (vO h p n+vO h q n') h s' [(ZL h p q n c n' c',true),(decide (0<n∨0<n'),true)]
  | false=>some (Zn,h,s',[(ZL h p q n c n' c',true),(decide (0<n∨0<n'),false)])
 | _,_=>none
theorem Zfx:Z6 33 Zqa:=by
 intro vals h s v h' s' lg hg hl m B w E hv;unfold Zqa at hg;split at hg
 ·rename_i p n c q n' c' d s2;split at hg
  ·unfold Zda at hg;cases hg;have q1:=hl _ (Xe);have q2:=hl _ (Xd _ Xf);simp only[Xi] at q1 q2;obtain⟨r1,r2,d1,d2,hn⟩:=Zc7 q1;obtain⟨x,p',a,NA,eA,fA⟩:=Zb0 0 r1;obtain⟨y,q',b,NB,eB,fB⟩:=Zb0 1 r2;have r:=ZlI NA NB (z6 r1) (z6 r2) d1 d2 hn q2 rfl;have:=ZI (T:=Zk prog Zf Zo hcV) func33 ZlE (Zc5 NA NB) (vals:=[.slice p' n c,.slice q' n' c']) (fun v hv=>by
    simp only[List.mem_cons,List.not_mem_nil,or_false] at hv;rcases hv with rfl | rfl
    ·exact NA.lt (by show 0<2;omega)
    ·exact NB.lt (by show 1<2;omega)) (k:=2) (cs:=wU (d16 (vO h p n+vO h q n'))) (ty:=tU) (ZaX _) (by kernel_rfl) r (by rfl) E (s:=ZdY a b) (Zc6 fA fB)
   simp only[List.map_cons,List.map_nil] at this;rw[eA _ rfl,eB _ rfl] at this;exact this
  ·cases hg;have q1:=hl _ (Xe);have q2:=hl _ (Xd _ Xf);simp only[decide_eq_false_iff_not] at q1 q2;obtain⟨r1,r2,d1,d2,hn⟩:=Zc7 q1;obtain⟨x,p',a,NA,eA,fA⟩:=Zb0 0 r1;obtain⟨y,q',b,NB,eB,fB⟩:=Zb0 1 r2;have hr:Runs (Zk prog Zf Zo hcV) (Zs f33) ([.slice p' n c,.slice q' n' c']++List.replicate 40 undef,hp2 y x,[]) fun e z=>(e=none∨e=some none)∧ZV prog f33 z.1 z.2.1=some Zn:=by
    refine (Zc (Zh Zd Zy) (ZjW p' q' n c n' c' _) (okW rfl (okW (Xb (by omega)) (Zu (Xb (by omega)))))).mono fun e z he=> ?_;obtain⟨rfl,⟨g,e2⟩,e3⟩:=he;refine⟨.inr rfl,?_⟩;rw[e2,e3];rfl
   have:=ZB (T:=Zk prog Zf Zo hcV) func33 ZjY (Zc5 NA NB) (vals:=[.slice p' n c,.slice q' n' c']) (fun v hv=>by
    simp only[List.mem_cons,List.not_mem_nil,or_false] at hv;rcases hv with rfl | rfl
    ·exact NA.lt (by show 0<2;omega)
    ·exact NB.lt (by show 1<2;omega)) (v:=Zn) (by rfl) hr.w E (s:=ZdY a b) (Zc6 fA fB)
   simp only[List.map_cons,List.map_nil] at this;rw[eA _ rfl,eB _ rfl] at this;exact this
 ·cases hg
theorem ZlJ:f71.body=some (ZW (ZjS f71) (.seq (.seq (aR3 f71) (.block 0 (.loop (ZaY f71)))) (ZyK f71))):=by kernel_rfl
theorem ZjZ:f71.body=some (Zs f71):=by kernel_rfl
theorem Zqb (a b:Value) (h:Hp):Zg (evL (Zk prog Zf Zo hcV) 100 (ZjS f71) ([a,b]++List.replicate 33 undef,h,[]) ⟨[],[],[]⟩) 7 28 none [a,b,undef,undef,Zn,Zn,.int .u32 0] h []:=by and_intros<;>kernel_rfl
theorem Zuw (a b:Value) (h:Hp) (g:Nat→Value):Zg (evC (Zk prog Zf Zo hcV) 100 false (aR3 f71) ([a,b,undef,undef,Zn,Zn,.int .u32 0]++tl 28 g,h,[]) ⟨[],[],[]⟩) 8 27 none [a,b,undef,undef,Zn,Zn,.int .u32 0,.int .i64 0] h []:=by and_intros<;>kernel_rfl
def df (A B:List Int) (k i:Int):Int:=u32.wrap (u32.wrap (u32.wrap (65536+atN A i)-atN B i)-k)
theorem Zqc (p q:Option Addr) (n c n' c':Nat) (k i:Int) (x y:List Value×TypeId) (g:Nat→Value):Zg (evC (Zk prog Zf Zo hcV) 100 false (ZaY f71) ([.slice p n c,.slice q n' c',undef,undef,Zn,Zn,.int .u32 k,.int .i64 i]++tl 27 g,hp2 y x,[cmp true,cmp true]) ⟨[],[],[]⟩) 8 27 none [.slice p n c,.slice q n' c',undef,undef,Zn,sl 3 0 1 grown,.int .u32 (u32.wrap (1-u32.wrap ((df (Zm (hp2 y x) p n) (Zm (hp2 y x) q n') k i).tdiv 65536))),.int .i64 (i64.wrap (i+1))] ⟨4,[([.int .u32 ((df (Zm (hp2 y x) p n) (Zm (hp2 y x) q n') k i).tmod 65536)],tU),([.int .u32 ((df (Zm (hp2 y x) p n) (Zm (hp2 y x) q n') k i).tmod 65536)],tU),y,x]⟩ [(decide ((65536:Int)=0),false),rP (hp2 y x) q n' c',rP (hp2 y x) p n c,(decide (i<n),true)]:=by and_intros<;>kernel_rfl
theorem ZlK (p q:Option Addr) (n c n' c' z:Nat) (k i:Int) (x y:List Value×TypeId) (lo:List Value) (g:Nat→Value):Zg (evC (Zk prog Zf Zo hcV) 100 false (ZaY f71) ([.slice p n c,.slice q n' c',undef,undef,Zn,sl 2 0 z grown,.int .u32 k,.int .i64 i]++tl 27 g,hu3 lo y x,[cmp true,cmp true,at_]) ⟨[],[],[]⟩) 8 27 none [.slice p n c,.slice q n' c',undef,undef,Zn,sl 4 0 (z+1) grown,.int .u32 (u32.wrap (1-u32.wrap ((df (Zm (hu3 lo y x) p n) (Zm (hu3 lo y x) q n') k i).tdiv 65536))),.int .i64 (i64.wrap (i+1))] ⟨5,[(lo++[.int .u32 ((df (Zm (hu3 lo y x) p n) (Zm (hu3 lo y x) q n') k i).tmod 65536)],tU),([.int .u32 ((df (Zm (hu3 lo y x) p n) (Zm (hu3 lo y x) q n') k i).tmod 65536)],tU),([],2*zo),y,x]⟩ [(Zag tU (lo,tU) ([.int .u32 ((df (Zm (hu3 lo y x) p n) (Zm (hu3 lo y x) q n') k i).tmod 65536)],tU) z 0 1,true),(decide ((65536:Int)=0),false),rP (hu3 lo y x) q n' c',rP (hu3 lo y x) p n c,(decide (i<n),true)]:=by and_intros<;>kernel_rfl
theorem Zqd (p q:Option Addr) (n c n' c':Nat) (v:Value) (k i:Int) (h:Hp) (g:Nat→Value):Zg (evC (Zk prog Zf Zo hcV) 100 false (ZaY f71) ([.slice p n c,.slice q n' c',undef,undef,Zn,v,.int .u32 k,.int .i64 i]++tl 27 g,h,[cmp false]) ⟨[],[],[]⟩) 8 27 (some (some 0)) [.slice p n c,.slice q n' c',undef,undef,Zn,v,.int .u32 k,.int .i64 i] h [(decide (i<n),false)]:=by and_intros<;>kernel_rfl
theorem Zqe (a b:Value) (z:Nat) (k i:Int) (x y:List Value×TypeId) (lo:List Value) (g:Nat→Value):Zg (evC (Zk prog Zf Zo hcV) 100 false (ZyK f71) ([a,b,undef,undef,Zn,sl 2 0 z grown,.int .u32 k,.int .i64 i]++tl 27 g,hu3 lo y x,[]) ⟨[],[],[]⟩) 5 30 (some none) [a,b,undef,undef,sl 2 0 (Zi (Zz lo 0 z)) (Zi (Zz lo 0 z))] (hu3 lo y x) [(ZaQ tU lo 0 z grown,true)]:=by and_intros<;>kernel_rfl
theorem Zka (p q:Option Addr) (n c n' c':Nat) (h:Hp):Zg (evC (Zk prog Zf Zo hcV) 100 false (Zs f71) ([.slice p n c,.slice q n' c']++List.replicate 33 undef,h,[cmp false]) ⟨[],[],[]⟩) 5 30 (some none) [.slice p n c,.slice q n' c',undef,undef,Zn] h [(decide ((0:Int)<n),false)]:=by and_intros<;>kernel_rfl
def dfN (A B:List Int) (k i:Nat):Nat:=65536+dgN A i-dgN B i-k
theorem Zz6 {A B:List Int}(hA:∀ x∈A,Dg 65536 x) (hB:∀ x∈B,Dg 65536 x) {k:Nat}(hk:k≤1) (i:Nat):df A B k i=((dfN A B k i:Nat):Int)∧dfN A B k i<131072∧dfN A B k i+dgN B i+k=65536+dgN A i:=by
 have h1:=zC hA i;have h2:=zC hB i;unfold df dfN;rw[Zat,Zat,← h1.2,← h2.2,zt (n:=65536+_) (by omega) (by omega),zt (n:=65536+_-_) (by omega) (by omega),zt (by omega) (by omega)];omega
theorem Zz7 {d:Nat}(h:d<131072):u32.wrap (1-u32.wrap ((d:Int).tdiv 65536))=((1-d/65536:Nat):Int):=by
 rw[Zfw (by omega),zt (by omega) (by omega)];omega
section
variable {x y : List Value × TypeId} {p q : Option Addr} {n c n' c' : Nat} {A B : List Int}
theorem Zkb (NA:Nu 0 x p n c A) (NB:Nu 1 y q n' c' B) (hA:∀ x∈A,Dg 65536 x) (hB:∀ x∈B,Dg 65536 x) {k i:Nat}{O:List Int}(hk:k≤1) (hi:i<1073741823) (hO:O.length=i) (hgo:i<n) {Y:Lf}
  (hY:(i=0∧k=0∧(∃ g,Y.1=[.slice p n c,.slice q n' c',undef,undef,Zn,Zn,.int .u32 (k:Nat),.int .i64 (i:Nat)]++tl 27 g)∧Y.2.1=hp2 y x)∨(0<i∧(∃ g,Y.1=[.slice p n c,.slice q n' c',undef,undef,Zn,sl 2 0 i grown,.int .u32 (k:Nat),.int .i64 (i:Nat)]++tl 27 g)∧Y.2.1=hu3 (wU O) y x)):
  RunsW (Zk prog Zf Zo hcV) (ZaY f71) Y fun e z=>e=none∧(∃ g,z.1=[.slice p n c,.slice q n' c',undef,undef,Zn,sl 2 0 (i+1) grown,.int .u32 ((1-dfN A B k i/65536:Nat):Int),.int .i64 ((i+1:Nat):Int)]++tl 27 g)∧z.2.1=hu3 (wU (O++[((dfN A B k i % 65536:Nat):Int)])) y x:=by
 obtain⟨t,h',s⟩:=Y;obtain⟨es,hlt,_⟩:=Zz6 hA hB hk i;have e1:(df A B k i).tmod 65536=((dfN A B k i % 65536:Nat):Int):=by rw[es,Zfv]
 have e2:u32.wrap (1-u32.wrap ((df A B k i).tdiv 65536))=((1-dfN A B k i/65536:Nat):Int):=by rw[es,Zz7 hlt]
 have e3:i64.wrap ((i:Int)+1)=((i+1:Nat):Int):=by rw[Zw (by omega) (by omega)];omega
 have hl:decide ((i:Int)<(n:Nat))=true:=Xa (by omega);rcases hY with ⟨h0,k0,⟨g,ht⟩,hh⟩ | ⟨h0,⟨g,ht⟩,hh⟩
 ·simp only at ht hh;subst ht hh;have r0:=NA.row (hp2 y x) rfl;have r1:=NB.row (hp2 y x) rfl;have fin:=Zb (Zh Zd Zy) (s0:=s) (Zqc p q n c n' c' k i x y g) (okW rfl (okW r1.1 (okW r0.1 (Zu hl))));have hO':O=[]:=List.length_eq_zero_iff.1 (by omega);rw[r0.2,r1.2,e1,e2,e3] at fin;have:=fin.kept (k:=2) (b:=3) (base:=[y,x]) (y:=([.int .u32 ((dfN A B k i % 65536:Nat):Int)],tU)) (front':=[.slice p n c,.slice q n' c',undef,undef,Zn,sl 2 0 1 grown,.int .u32 ((1-dfN A B k i/65536:Nat):Int),.int .i64 ((i+1:Nat):Int)]) rfl
   (by simp only[List.map_cons,List.map_nil,NA.rn (f:=zK 2 3) rfl,NB.rn (f:=zK 2 3) rfl];kernel_rfl) (Zc4 NA NB rfl rfl) rfl (by omega) (fun v hv=>by rw[List.mem_singleton.1 hv];rfl) (fun v hv=>by
    simp only[List.mem_cons,List.not_mem_nil,or_false] at hv;rcases hv with rfl | rfl | rfl | rfl | rfl | rfl | rfl | rfl
    ·exact NA.lt (by omega)
    ·exact NB.lt (by omega)
    all_goals rfl)
  refine this.mono fun e z hz=> ?_;obtain⟨rfl,⟨g',q1⟩,q2⟩:=hz;subst hO' h0;exact⟨rfl,⟨g',q1⟩,q2⟩
 ·simp only at ht hh;subst ht hh;have r0:=NA.row (hu3 (wU O) y x) rfl;have r1:=NB.row (hu3 (wU O) y x) rfl;have hchk:Zag tU (wU O,tU) ([.int .u32 ((df A B k i).tmod 65536)],tU) i 0 1=true:=
   Zbf (L:=O) (M:=[(df A B k i).tmod 65536]) hO.symm (show 0<1 by omega) (by show O.length+1≤_;omega)
  have fin:=Zb (Zh Zd Zy) (s0:=s) (ZlK p q n c n' c' i k i x y (wU O) g) (by rw[r0.2,r1.2];exact okW hchk (okW rfl (okW r1.1 (okW r0.1 (Zu hl)))));rw[r0.2,r1.2,e1,e2,e3] at fin;have ew:wU O++[.int .u32 ((dfN A B k i % 65536:Nat):Int)]=wU (O++[((dfN A B k i % 65536:Nat):Int)]):=by rw[ZU];rfl
  rw[ew] at fin;exact fin.kept (k:=2) (b:=4) (base:=[y,x]) (y:=(wU (O++[((dfN A B k i % 65536:Nat):Int)]),tU)) (front':=[.slice p n c,.slice q n' c',undef,undef,Zn,sl 2 0 (i+1) grown,.int .u32 ((1-dfN A B k i/65536:Nat):Int),.int .i64 ((i+1:Nat):Int)]) rfl
   (by simp only[List.map_cons,List.map_nil,NA.rn (f:=zK 2 4) rfl,NB.rn (f:=zK 2 4) rfl];kernel_rfl) (Zc4 NA NB rfl rfl) rfl (by omega) (ZE _) (fun v hv=>by
    simp only[List.mem_cons,List.not_mem_nil,or_false] at hv;rcases hv with rfl | rfl | rfl | rfl | rfl | rfl | rfl | rfl
    ·exact NA.lt (by omega)
    ·exact NB.lt (by omega)
    all_goals rfl)
def sSt (x y:List Value×TypeId) (p q:Option Addr) (n c n' c':Nat) (O:List Int) (i k:Nat) (Y:Lf):Prop:=
 (i=0∧k=0∧(∃ g,Y.1=[.slice p n c,.slice q n' c',undef,undef,Zn,Zn,.int .u32 (k:Nat),.int .i64 (i:Nat)]++tl 27 g)∧Y.2.1=hp2 y x)∨(0<i∧(∃ g,Y.1=[.slice p n c,.slice q n' c',undef,undef,Zn,sl 2 0 i grown,.int .u32 (k:Nat),.int .i64 (i:Nat)]++tl 27 g)∧Y.2.1=hu3 (wU O) y x)
def Z8E (x y:List Value×TypeId) (p q:Option Addr) (n c n' c':Nat) (A B:List Int) (m:Nat) (Y:Lf):Prop:=
 ∃ (i k:Nat) (O:List Int),O.length=i∧m=n-i∧i≤n∧k≤1∧(∀ x∈O,Dg 65536 x)∧vb 65536 O+vb 65536 (B.take i)=vb 65536 (A.take i)+65536^O.length*k∧sSt x y p q n c n' c' O i k Y
def Z4O (x y:List Value×TypeId) (p q:Option Addr) (n c n' c':Nat) (A B:List Int) (Y:Lf):Prop:=
 ∃ (k:Nat) (O:List Int),O.length=n∧(∀ x∈O,Dg 65536 x)∧vb 65536 O+vb 65536 (B.take n)=vb 65536 A+65536^n*k∧sSt x y p q n c n' c' O n k Y
theorem ZlL (NA:Nu 0 x p n c A) (NB:Nu 1 y q n' c' B) (lA:A.length=n) (hA:∀ x∈A,Dg 65536 x) (hB:∀ x∈B,Dg 65536 x) (hn:n<1073741823) (g:Nat→Value):
  RunsW (Zk prog Zf Zo hcV) (.block 0 (.loop (ZaY f71))) ([.slice p n c,.slice q n' c',undef,undef,Zn,Zn,.int .u32 0,.int .i64 0]++tl 27 g,hp2 y x,[]) fun e Y=>match e with | none=>Z4O x y p q n c n' c' A B Y | some none=>False | some (some _)=>False:=by
 refine RunsW.forLoop (P:=Z4O x y p q n c n' c' A B) (R:=fun _=>False) (Z8E x y p q n c n' c' A B) ?_ (n:=n) ⟨0,0,[],rfl,by omega,by omega,by omega,(fun x hx=>by cases hx),by simp [vb],.inl ⟨rfl,rfl,⟨g,rfl⟩,rfl⟩⟩;rintro m Y ⟨i,k,O,hO,hm,hi,hk,hOd,hval,hY⟩;by_cases hgo:i<n
 ·have r:=Zkb NA NB hA hB hk (by omega) hO hgo hY;refine r.mono fun e z hz=> ?_;obtain⟨rfl,z1,z2⟩:=hz;obtain⟨_,hlt,hsum⟩:=Zz6 hA hB hk i;refine⟨n-(i+1),by omega,i+1,1-dfN A B k i/65536,O++[((dfN A B k i % 65536:Nat):Int)],by simp [hO],rfl,by omega,by omega,fun x hx=> ?_,?_,.inr ⟨by omega,z1,z2⟩⟩
  ·rcases List.mem_append.1 hx with hx | hx
   ·exact hOd x hx
   ·rw[List.mem_singleton.1 hx];exact⟨by omega,by omega⟩
  ·have ha:vb 65536 (A.take (i+1))=vb 65536 (A.take i)+65536^i*dgN A i:=Za5 65536 A i;have hb:vb 65536 (B.take (i+1))=vb 65536 (B.take i)+65536^i*dgN B i:=Za5 65536 B i;rw[ha,hb,ZcZ,Xg,List.length_append,hO,List.length_singleton,Nat.pow_succ,Nat.mul_assoc];rw[hO] at hval;generalize 65536^i=P at*;have hq:dfN A B k i/65536≤1:=by omega
   have e:dfN A B k i % 65536+dgN B i+k=dgN A i+65536*(1-dfN A B k i/65536):=by omega
   have e':P*(dfN A B k i % 65536)+P*dgN B i+P*k=P*dgN A i+P*(65536*(1-dfN A B k i/65536)):=by rw[← Nat.mul_add,← Nat.mul_add,← Nat.mul_add,e]
   omega
 ·have hin:i=n:=by omega
  subst hin;have hv:vb 65536 O+vb 65536 (B.take i)=vb 65536 A+65536^i*k:=by
   rw[List.take_of_length_le (show A.length≤i by omega),hO] at hval;exact hval
  have out:∀ (v:Value) (h:Hp) (g:Nat→Value) (s:List Dec),RunsW (Zk prog Zf Zo hcV) (ZaY f71) ([.slice p i c,.slice q n' c',undef,undef,Zn,v,.int .u32 (k:Nat),.int .i64 (i:Nat)]++tl 27 g,h,s) fun e z=>e=some (some 0)∧(∃ g,z.1=[.slice p i c,.slice q n' c',undef,undef,Zn,v,.int .u32 (k:Nat),.int .i64 (i:Nat)]++tl 27 g)∧z.2.1=h:=fun v h g s=>
   Zb (Zh Zd Zy) (Zqd p q i c n' c' v k i h g) (Zu (Xb (by omega)))
  obtain⟨t,h',s⟩:=Y;rcases hY with ⟨h0,k0,⟨g,ht⟩,hh⟩ | ⟨h0,⟨g,ht⟩,hh⟩
  ·simp only at ht hh;subst ht hh;refine (out Zn _ g s).mono fun e z hz=> ?_;obtain⟨rfl,z1,z2⟩:=hz;exact⟨rfl,k,O,hO,hOd,hv,.inl ⟨h0,k0,z1,z2⟩⟩
  ·simp only at ht hh;subst ht hh;refine (out (sl 2 0 i grown) _ g s).mono fun e z hz=> ?_;obtain⟨rfl,z1,z2⟩:=hz;exact⟨rfl,k,O,hO,hOd,hv,.inr ⟨h0,z1,z2⟩⟩
theorem ZlM (NA:Nu 0 x p n c A) (NB:Nu 1 y q n' c' B) (lA:A.length=n) (hA:∀ x∈A,Dg 65536 x) (hB:∀ x∈B,Dg 65536 x) (hn:n<1073741823) (h0:0<n) (hle:vb 65536 B≤vb 65536 A) {V:Nat}(hV:V=vb 65536 A-vb 65536 B):
  RunsW (Zk prog Zf Zo hcV) (ZW (ZjS f71) (.seq (.seq (aR3 f71) (.block 0 (.loop (ZaY f71)))) (ZyK f71))) ([.slice p n c,.slice q n' c']++List.replicate 33 undef,hp2 y x,[]) fun e z=>(e=none∨e=some none)∧ZV prog f71 z.1 z.2.1=some (sl 2 0 (d16 V).length (d16 V).length)∧∃ r,z.2.1.blk? 2=some (wU (d16 V)++r,tU):=by
 refine Zv (Zh Zd Zy) (Zqb _ _ _) (fun x hx=>by cases hx) fun g=> ?_;refine Zg2 (Zb (Zh Zd Zy) (Zuw _ _ _ g) (fun x hx=>by cases hx)) (fun e y he=>by cases he.1) (P2:=fun e Y=>match e with | none=>Z4O x y p q n c n' c' A B Y | some none=>False | some (some _)=>False) ?_ ?_ ?_
 ·rintro⟨t,h',s⟩ ⟨_,⟨g',ht⟩,hh⟩;simp only at ht hh;subst ht hh;exact RunsW.script (ZlL NA NB lA hA hB hn g')
 ·intro e y he
  match e,he with
  | none,he=>exact he
  | some id,he=>exact he
 ·rintro⟨t,h',s⟩ ⟨k,O,hO,hOd,hval,hY⟩;have hv:vb 65536 O=vb 65536 A-vb 65536 B:=by
   have l1:=ZbG (by omega) A hA;have l2:=ZbG (by omega) O hOd;have hsp:vb 65536 B=vb 65536 (B.take n)+65536^(B.take n).length*vb 65536 (B.drop n):=by rw[← ZaJ,List.take_append_drop]
   rw[lA] at l1;rw[hO] at l2;have hpos:0<65536^n:=Nat.pow_pos (by omega);have hz:65536^(B.take n).length*vb 65536 (B.drop n)=0:=by
    by_cases hb:B.length≤n
    ·rw[List.drop_eq_nil_of_le hb];simp [vb]
    ·have hl:(B.take n).length=n:=by rw[List.length_take];omega
     rw[hl] at hsp ⊢;rcases Nat.eq_zero_or_pos (vb 65536 (B.drop n)) with h | h
     ·rw[h];rfl
     ·have:=Nat.le_mul_of_pos_right (65536^n) h;omega
   have hk:k=0:=by
    rcases Nat.eq_zero_or_pos k with h | h
    ·exact h
    ·have:=Nat.le_mul_of_pos_right (65536^n) h;omega
   subst hk;omega
  rcases hY with ⟨e0,_⟩ | ⟨_,⟨g',ht⟩,hh⟩
  ·omega
  ·simp only at ht hh;subst ht hh;have hrow:ZaQ tU (wU O) 0 n grown=true:=by
    rw[← hO];exact Zal (fun x hx=>⟨(hOd x hx).1,by have:=(hOd x hx).2;omega⟩) (by omega) (ZyJ _)
   refine (Zb (Zh Zd Zy) (Zqe _ _ n k n x y (wU O) g') (Zu hrow)).mono fun e z he=> ?_;obtain⟨rfl,⟨g2,e1⟩,e2⟩:=he;have et:Zi (Zz (wU O) 0 n)=(d16 V).length:=by
    rw[← hO,ZaV,Zaj (by omega) hOd,hv,← hV];rfl
   refine⟨.inr rfl,?_,?_⟩
   ·rw[e1,e2,et];rfl
   ·rw[e2];refine⟨wU (O.drop (Zi O)),?_⟩;have e3:wU (d16 V)++wU (O.drop (Zi O))=wU O:=by
     unfold d16;rw[hV,← hv,← zf (by omega) _ hOd,← ZU,List.take_append_drop]
    rw[e3];rfl
end
def Zqf:Zae:=fun vals h s=>
 match vals,s with
 | [.slice p n c,.slice q n' c'],.inr (.inr (.inr (.inl d)))::s'=>
  match d with
  | true=>Zda (vO h p n-vO h q n') h s' [(ZL h p q n c n' c' && Nat.ble (vO h q n') (vO h p n),true),(decide (0<n),true)]
  | false=>some (Zn,h,s',[(ZL h p q n c n' c',true),(decide (0<n),false)])
 | _,_=>none
theorem Zi5:Z6 71 Zqf:=by
 intro vals h s v h' s' lg hg hl m B w E hv;unfold Zqf at hg;split at hg
 ·rename_i p n c q n' c' d s2;split at hg
  ·unfold Zda at hg;cases hg;have q1:=hl _ (Xe);have q2:=hl _ (Xd _ Xf);simp only[Xi,Xh] at q1 q2;obtain⟨q1,q3⟩:=q1;have q3:=Nat.le_of_ble_eq_true q3;obtain⟨r1,r2,d1,d2,hn⟩:=Zc7 q1;obtain⟨x,p',a,NA,eA,fA⟩:=Zb0 0 r1;obtain⟨y,q',b,NB,eB,fB⟩:=Zb0 1 r2;have r:=ZlM NA NB (z6 r1) d1 d2 (by omega) q2 q3 rfl;have:=ZI (T:=Zk prog Zf Zo hcV) func71 ZlJ (Zc5 NA NB) (vals:=[.slice p' n c,.slice q' n' c']) (fun v hv=>by
    simp only[List.mem_cons,List.not_mem_nil,or_false] at hv;rcases hv with rfl | rfl
    ·exact NA.lt (by show 0<2;omega)
    ·exact NB.lt (by show 1<2;omega)) (k:=2) (cs:=wU (d16 (vO h p n-vO h q n'))) (ty:=tU) (ZaX _) (by kernel_rfl) r (by rfl) E (s:=ZdY a b) (Zc6 fA fB)
   simp only[List.map_cons,List.map_nil] at this;rw[eA _ rfl,eB _ rfl] at this;exact this
  ·cases hg;have q1:=hl _ (Xe);have q2:=hl _ (Xd _ Xf);simp only[decide_eq_false_iff_not] at q1 q2;obtain⟨r1,r2,d1,d2,hn⟩:=Zc7 q1;obtain⟨x,p',a,NA,eA,fA⟩:=Zb0 0 r1;obtain⟨y,q',b,NB,eB,fB⟩:=Zb0 1 r2;have hr:Runs (Zk prog Zf Zo hcV) (Zs f71) ([.slice p' n c,.slice q' n' c']++List.replicate 33 undef,hp2 y x,[]) fun e z=>(e=none∨e=some none)∧ZV prog f71 z.1 z.2.1=some Zn:=by
    refine (Zc (Zh Zd Zy) (Zka p' q' n c n' c' _) (Zu (Xb (by omega)))).mono fun e z he=> ?_;obtain⟨rfl,⟨g,e2⟩,e3⟩:=he;refine⟨.inr rfl,?_⟩;rw[e2,e3];rfl
   have:=ZB (T:=Zk prog Zf Zo hcV) func71 ZjZ (Zc5 NA NB) (vals:=[.slice p' n c,.slice q' n' c']) (fun v hv=>by
    simp only[List.mem_cons,List.not_mem_nil,or_false] at hv;rcases hv with rfl | rfl
    ·exact NA.lt (by show 0<2;omega)
    ·exact NB.lt (by show 1<2;omega)) (v:=Zn) (by rfl) hr.w E (s:=ZdY a b) (Zc6 fA fB)
   simp only[List.map_cons,List.map_nil] at this;rw[eA _ rfl,eB _ rfl] at this;exact this
 ·cases hg
end Go.Proofs.YtgefjidphfdhdaaGreatDoor
