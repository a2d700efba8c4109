/-
  ConV1, NumW, ConV2, ConV3, RunZ, RunP, Okl, ConNU, ConV4, ConV5, ConV6
-/
import Derived.Test.YtgefjidphfdhdaaGreatDoorG05
namespace Go.Proofs.YtgefjidphfdhdaaGreatDoor
open Go.Proofs.Tryz
open Go.IntKind
open Go.KRun Go.Nt
set_option maxRecDepth 100000
def Z5E (F:Func):List Code:=[Z3 (Zs F),Z3 (Z1 (Zs F))]
def ZlA (F:Func):Code:=cIn (cIn (Z3 (Z1 (Z1 (Zs F)))))
def Z5d (F:Func):Code:=Z1 (Z1 (Z1 (Zs F)))
theorem ZjI:f68.body=some (zg (Z5E f68) (.seq (.block 0 (.loop (ZlA f68))) (Z5d f68))):=by kernel_rfl
theorem ZuV (p:Option Addr) (n c:Nat) (h:Hp):Zh (evL (Zp prog Zf Zo true) 100 (Z5E f68) ([.slice p n c]++List.replicate 21 undef,h,[]) ⟨[],[],[]⟩) 4 18 none [.slice p n c,undef,Zm,.int .i64 n] h []:=by and_intros<;>kernel_rfl
def i1 (k:Int):Int:=i64.wrap (k-1)
theorem Z0f (o n c:Nat) (k x:Int) (l:List Value) (j1 j2:Value) (g:Nat→Value):Zh (evC (Zp prog Zf Zo true) 100 false (ZlA f68) ([sl 0 o n c,j1,j2,.int .i64 k]++tl 18 g,⟨1,[(l,tR)]⟩,[cmp true,at_,val (.int .u32 x),cmp true]) ⟨[],[],[]⟩) 4 18 none [sl 0 o n c,j1,j2,.int .i64 (i1 k)] ⟨1,[(l,tR)]⟩
  [(x==0,true),(Z4 (l[o+(i1 k).toNat*1]?) (.int .u32 x),true),(decide (0≤i1 k∧i1 k<n),true),(decide (k>0),true)]:=by and_intros<;>kernel_rfl
theorem Zqo (o n c:Nat) (k x:Int) (l:List Value) (j1 j2:Value) (g:Nat→Value):Zh (evC (Zp prog Zf Zo true) 100 false (ZlA f68) ([sl 0 o n c,j1,j2,.int .i64 k]++tl 18 g,⟨1,[(l,tR)]⟩,[cmp true,at_,val (.int .u32 x),cmp false]) ⟨[],[],[]⟩) 4 18 (some (some 0)) [sl 0 o n c,j1,j2,.int .i64 k] ⟨1,[(l,tR)]⟩
  [(x==0,false),(Z4 (l[o+(i1 k).toNat*1]?) (.int .u32 x),true),(decide (0≤i1 k∧i1 k<n),true),(decide (k>0),true)]:=by and_intros<;>kernel_rfl
theorem Zqp (v:Value) (k:Int) (h:Hp) (j1 j2:Value) (g:Nat→Value):Zh (evC (Zp prog Zf Zo true) 100 false (ZlA f68) ([v,j1,j2,.int .i64 k]++tl 18 g,h,[cmp false]) ⟨[],[],[]⟩) 4 18 (some (some 0)) [v,j1,j2,.int .i64 k] h [(decide (k>0),false)]:=by and_intros<;>kernel_rfl
theorem ZuW (o n c k:Nat) (l:List Value) (j1 j2:Value) (g:Nat→Value):Zh (evC (Zp prog Zf Zo true) 100 false (Z5d f68) ([sl 0 o n c,j1,j2,.int .i64 k]++tl 18 g,⟨1,[(l,tR)]⟩,[num 0]) ⟨[],[],[]⟩) 4 18 (some none) [sl 0 o n c,j1,sl 0 o k k,.int .i64 k] ⟨1,[(l,tR)]⟩
  [(ZH c,true),(ze 0 k k c,true),(decide ((k:Int)=0∧(0:Int)≠0),false)]:=by and_intros<;>kernel_rfl
theorem Zqq (n k:Nat) (l:List Value) (j1 j2:Value) (g:Nat→Value):Zh (evC (Zp prog Zf Zo true) 100 false (Z5d f68) ([sl 0 0 n grown,j1,j2,.int .i64 k]++tl 18 g,⟨1,[(l,tR)]⟩,[at_]) ⟨[],[],[]⟩) 4 18 (some none) [sl 0 0 n grown,j1,sl 0 0 k k,.int .i64 k] ⟨1,[(l,tR)]⟩
  [(ze 0 k k n,true),(decide ((k:Int)=0∧(0:Int)≠0),false),(!(Zaa tR) && Nat.ble n l.length,true)]:=by and_intros<;>kernel_rfl
def Zde (o n c:Nat):Bool:=(ZH c && Nat.ble n c) || (Nat.beq c grown && Nat.beq o 0)
theorem ZjJ {l:List Value}{o c:Nat}{L:List Int}(hR:Row l o L) (hL:L.length<4611686018427387904) (hc:Zde o L.length c=true):
  Runs (Zp prog Zf Zo true) (zg (Z5E f68) (.seq (.block 0 (.loop (ZlA f68))) (Z5d f68))) ([sl 0 o L.length c]++List.replicate 21 undef,⟨1,[(l,tR)]⟩,[]) fun e y=>(e=none∨e=some none)∧ZW prog f68 y.1 y.2.1=some (sl 0 o (Zj L) (Zj L)):=by
 refine Z0 (Zq Zd) (ZuV _ _ _ _) (fun x hx=>by cases hx) fun g=> ?_;refine Runs.seq (P1:=fun e y=>e=none∧(∃ g,y.1=[sl 0 o L.length c,undef,Zm,.int .i64 (Zj L:Nat)]++tl 18 g)∧y.2.1=⟨1,[(l,tR)]⟩) ?_ ?_ (fun e y he=>by cases he.1)
 ·refine (Runs.forLoop (P:=fun y=>(∃ g,y.1=[sl 0 o L.length c,undef,Zm,.int .i64 (Zj L:Nat)]++tl 18 g)∧y.2.1=⟨1,[(l,tR)]⟩) (R:=fun _=>False) (fun n y=>(∃ g,y.1=[sl 0 o L.length c,undef,Zm,.int .i64 (n:Nat)]++tl 18 g)∧y.2.1=⟨1,[(l,tR)]⟩∧n≤L.length∧∀ i,n≤i→L.getD i 0=0) ?_ (n:=L.length) ⟨⟨g,rfl⟩,rfl,Nat.le_refl _,fun i hi=>by simp [List.getD,List.getElem?_eq_none hi]⟩).mono fun e y he=> ?_
  ·rintro n ⟨t,h',s⟩ ⟨⟨g,ht⟩,hh,hle,hz⟩;simp only at ht hh;subst ht hh;cases n with
   | zero=>
    refine (Zb (Zq Zd) (Zqp _ _ _ undef Zm g) (Zt (by rfl))).mono fun e y he=> ?_;obtain⟨rfl,⟨g',h2⟩,h3⟩:=he;have e0:Zj L=0:=Zba hz (.inl rfl);exact⟨rfl,⟨g',by rw[h2,e0]⟩,h3⟩
   | succ k=>
    have ek:i1 ((k+1:Nat):Int)=(k:Int):=by
     unfold i1;rw[Zv (by omega) (by omega)];omega
    have hcell:=hR.cell (k:=k) (by omega);have hce:Z4 (l[o+(i1 ((k+1:Nat):Int)).toNat*1]?) (.int .u32 (L.getD k 0))=true:=by
     rw[ek,Xg,Nat.mul_one,hcell];simp [Z4]
    have hix:decide (0≤i1 ((k+1:Nat):Int)∧i1 ((k+1:Nat):Int)<(L.length:Int))=true:=by rw[ek];exact Xa (by omega)
    have hgt:decide (((k+1:Nat):Int)>0)=true:=Xa (by omega);by_cases hx:L.getD k 0=0
    ·refine (Zb (Zq Zd) (Z0f o L.length c ((k+1:Nat):Int) (L.getD k 0) l undef Zm g) (Zi (by rw[hx];rfl) (Zi hce (Zi hix (Zt hgt))))).mono fun e y he=> ?_;obtain⟨rfl,⟨g',h2⟩,h3⟩:=he;rw[ek] at h2;refine⟨k,by omega,⟨g',h2⟩,h3,by omega,fun i hi=> ?_⟩;rcases Nat.lt_or_ge k i with h | h
     ·exact hz i h
     ·have:i=k:=by omega
      rw[this];exact hx
    ·refine (Zb (Zq Zd) (Zqo o L.length c ((k+1:Nat):Int) (L.getD k 0) l undef Zm g) (Zi (by simpa using hx) (Zi hce (Zi hix (Zt hgt))))).mono fun e y he=> ?_;obtain⟨rfl,⟨g',h2⟩,h3⟩:=he;have e0:Zj L=k+1:=Zba hz (.inr (by simpa using hx));exact⟨rfl,⟨g',by rw[h2,e0]⟩,h3⟩
  ·match e,he with
   | none,he=>exact⟨rfl,he⟩
 ·rintro⟨t,h',s⟩ ⟨_,⟨g',ht⟩,hh⟩;simp only at ht hh;subst ht hh;have hle:=zy L;have hp:ze 0 (Zj L:Nat) (Zj L:Nat) (L.length:Nat)=true:=by unfold ze;exact Xa (by omega)
  unfold Zde at hc;simp only[Bool.or_eq_true,Xh] at hc;rcases hc with ⟨h1,h2⟩ | ⟨h1,h2⟩
  ·have h2:=Nat.le_of_ble_eq_true h2;have h1':c<4611686018427387904:=Zl.1 h1;refine (Zb (Zq Zd) (ZuW o L.length c (Zj L) l undef Zm g') (Zi h1 (Zi (by unfold ze;exact Xa (by omega)) (Zt (Xb (by omega)))))).mono fun e y he=> ?_;obtain⟨rfl,⟨g2,h2⟩,h3⟩:=he;refine⟨.inr rfl,?_⟩;rw[h2,h3];rfl
  ·have h1:=Xj h1;have h2:=Xj h2;subst h1 h2;have hlen:=hR.len;refine (Zb (Zq Zd) (Zqq L.length (Zj L) l undef Zm g') (Zi hp (Zi (Xb (by omega)) (Zt (by
    rw[Zbl,Nat.ble_eq_true_of_le (by omega)];rfl))))).mono fun e y he=> ?_
   obtain⟨rfl,⟨g2,h2⟩,h3⟩:=he;refine⟨.inr rfl,?_⟩;rw[h2,h3];rfl
def ZaX (ty:TypeId) (l:List Value) (o n c:Nat):Bool:= !(Zaa ty) && Nat.beq (rt ty) tU && Nat.ble (o+n) l.length && Nat.blt n 4611686018427387904 && Zde o n c && (ZbW l o n).all isU && l.all still
theorem zu {ty:TypeId}{l:List Value}{o n c:Nat}(h:ZaX ty l o n c=true):Row l o (Zy l o n)∧(Zy l o n).length=n∧n<4611686018427387904∧Zde o n c=true∧Zaa ty=false∧rt ty=tU∧∀ v∈l,still v=true:=by
 unfold ZaX at h;simp only[Xh,Bool.not_eq_true'] at h;obtain⟨⟨⟨⟨⟨⟨h1,h2⟩,h3⟩,h4⟩,h5⟩,h6⟩,h7⟩:=h;have h2:=Xj h2;have h3:=Nat.le_of_ble_eq_true h3;have h4:=Zl.1 h4;have hlen:(Zy l o n).length=n:=by unfold Zy ZbW;simp;omega
 refine⟨⟨by rw[hlen];exact h3,by rw[hlen];exact ZeQ h6,fun x hx=> ?_⟩,hlen,h4,h5,h1,h2,List.all_eq_true.1 h7⟩;unfold Zy at hx;obtain⟨v,hv,rfl⟩:=List.mem_map.1 hx;have:=Zfz (List.all_eq_true.1 h6 v hv);exact⟨this.2.1,this.2.2⟩
theorem ZlB:ZB (Zr (Zp prog Zf Zo true) 100 68 [Zm] []) Zm []:=by and_intros<;>kernel_rfl
def Zi2:Zab:=fun vals h s=>
 match vals with
 | [.slice none 0 0]=>some (Zm,h,s,[])
 | [.slice (some ⟨b,o,none⟩) n c]=>
  match h.blk? b with
  | some x=>some (sl b o (Zj (Zy x.1 o n)) (Zj (Zy x.1 o n)),h,s,[(ZaX x.2 x.1 o n c,true)])
  | none=>none
 | _=>none
theorem Zg5:Z7 68 Zi2:=by
 intro vals h s v h' s' lg hg hl m B w E hv;unfold Zi2 at hg;split at hg
 ·cases hg;refine (Ze (Zq Zd) ZlB (fun x hx=>by cases hx) (by rfl) (by rfl) w).mono fun e w' he=> ?_;obtain⟨E',hb⟩:=ZX E he.2;exact⟨m,he.1,⟨Agree.refl _ _,E',hb,Nat.le_refl _,rfl⟩⟩
 ·rename_i b o n c;split at hg
  ·rename_i x hx;cases hg;obtain⟨h1,h2,h3,h4,h5,h6,h7⟩:=zu (hl _ Xf);have hlt:=Hp.blk_lt hx;have r:=ZjJ (c:=c) h1 (by rw[h2];exact h3) (by rw[h2];exact h4);rw[h2] at r;have:=zj (T:=Zp prog Zf Zo true) func68 ZjI (Za4 h7) (vals:=[sl 0 o n c]) (fun v hv=>by rw[List.mem_singleton.1 hv];rfl) (by rfl) r E (s:=fun _=>b) (fun i _=>hlt) (zE hx h5 h6 rfl);exact this.mono fun e w' he=>⟨m,he.1,he.2⟩
  ·cases hg
 ·cases hg
end Go.Proofs.YtgefjidphfdhdaaGreatDoor
namespace Go.Nt
theorem Zt2 (b:Nat) (x:Int):vb b [x]=x.toNat:=by simp [vb]
theorem Za1 (b:Nat) (L:List Int) (i:Nat):vb b (L.take (i+1))=vb b (L.take i)+b^i*(L.getD i 0).toNat:=by
 by_cases h:i<L.length
 ·have e:L.take (i+1)=L.take i++[L.getD i 0]:=by
   rw[List.take_add_one,List.getElem?_eq_getElem h];simp [List.getD,List.getElem?_eq_getElem h]
  rw[e,Zaz,Zt2,List.length_take];rw[show min i L.length=i from by omega]
 ·rw[List.take_of_length_le (by omega),List.take_of_length_le (by omega)];simp [List.getD,List.getElem?_eq_none (show L.length≤i by omega)]
theorem Zdf (b:Nat) (O:List Int) (x:Int):vb b (O++[x])=vb b O+b^O.length*x.toNat:=by rw[Zaz,Zt2]
theorem ZlC {b:Nat}{O:List Int}{X Y:Nat}{k a c:Nat}(h:vb b O+b^O.length*k=X+Y):
  vb b (O++[(((k+a+c) % b:Nat):Int)])+b^(O.length+1)*((k+a+c)/b)=(X+b^O.length*a)+(Y+b^O.length*c):=by
 rw[Zdf,Xg,Nat.pow_succ,Nat.mul_assoc];have e:=Nat.mod_add_div (k+a+c) b;generalize hP:b^O.length=P at*;have e1:P*((k+a+c) % b)+P*(b*((k+a+c)/b))=P*(k+a+c):=by rw[← Nat.mul_add,e]
 have e2:P*(k+a+c)=P*k+P*a+P*c:=by rw[Nat.mul_add,Nat.mul_add]
 omega
end Go.Nt
namespace Go.Proofs.YtgefjidphfdhdaaGreatDoor
open Go.Proofs.Tryz
open Go.KRun Go.Nt
set_option maxRecDepth 100000
def hcU:Hc:=zm 68 Zi2 hcN
theorem Z0g:HcOk hcU:=Zu func68 rfl Zg5 zO
theorem ZF (L:List Int):∀ v∈wU L,still v=true:=fun v hv=>by
 unfold wU at hv;obtain⟨x,_,rfl⟩:=List.mem_map.1 hv;rfl
theorem ZlD (L:List Int):(wU L).all one=true:=List.all_eq_true.2 fun v hv=>by
 unfold wU at hv;obtain⟨x,_,rfl⟩:=List.mem_map.1 hv;rfl
theorem ZY (L M:List Int):wU (L++M)=wU L++wU M:=by simp [wU]
theorem Zaf (L:List Int):(wU L).length=L.length:=by simp [wU]
theorem ZaR (L:List Int):Zy (wU L) 0 L.length=L:=by
 unfold Zy ZbW;rw[List.drop_zero,← Zaf,List.take_length];unfold wU;rw[List.map_map];exact List.map_id' _
theorem Zal {L:List Int}(h:∀ x∈L,0≤x∧x<4294967296) (hl:L.length<4611686018427387904) {c:Nat}(hc:Zde 0 L.length c=true):ZaX tU (wU L) 0 L.length c=true:=by
 unfold ZaX;have e1:Zaa tU=false:=by kernel_rfl
 have e2:Nat.beq (rt tU) tU=true:=by kernel_rfl
 have e3:Nat.ble (0+L.length) (wU L).length=true:=Nat.ble_eq_true_of_le (by rw[Zaf];omega);have e4:Nat.blt L.length 4611686018427387904=true:=Zl.2 hl;have e5:((ZbW (wU L) 0 L.length).all isU)=true:=by
  unfold ZbW;rw[List.drop_zero,← Zaf,List.take_length];refine List.all_eq_true.2 fun v hv=> ?_;unfold wU at hv;obtain⟨x,hx,rfl⟩:=List.mem_map.1 hv;exact Xa (h x hx)
 have e6:((wU L).all still)=true:=List.all_eq_true.2 fun v hv=>by
  unfold wU at hv;obtain⟨x,_,rfl⟩:=List.mem_map.1 hv;rfl
 rw[e1,e2,e3,e4,hc,e5,e6];rfl
theorem Zbc {L M:List Int}{k:Nat}(hk:k=L.length) (hM:0<M.length) (hb:L.length+M.length≤1073741824):zK tU (wU L,tU) (wU M,tU) k 0 M.length=true:=by
 subst hk;unfold zK;simp only[Xh,Bool.not_eq_true',Zaf];refine⟨⟨⟨⟨⟨⟨⟨⟨Nat.beq_refl _,Nat.ble_eq_true_of_le hb⟩,by kernel_rfl⟩,by kernel_rfl⟩,by kernel_rfl⟩,by kernel_rfl⟩,Nat.ble_eq_true_of_le (by omega)⟩,Zl.2 hM⟩,?_⟩;rw[List.drop_zero,← Zaf,List.take_length];exact ZlD M
theorem Zzu (n:Nat):Zde 0 n grown=true:=by unfold Zde;rw[show Nat.beq grown grown=true from by kernel_rfl,show Nat.beq 0 0=true from rfl];simp
theorem Zi3 {L:List Int}{k:Nat}(h:k<L.length):L.getD k 0=L[k]:=by simp [List.getD,List.getElem?_eq_getElem h]
theorem Zg6 {T:Tab}{a b c:Code}{x:Lf}{P1 P2 P:Ex→Lf→Prop}(h1:RunsW T a x P1) (n1:∀ e y,P1 (some e) y→False) (h2:∀ y,P1 none y→RunsW T b y P2) (n2:∀ e y,P2 (some e) y→False) (h3:∀ y,P2 none y→RunsW T c y P):RunsW T (.seq (.seq a b) c) x P:=
 RunsW.seq (P1:=P2) (RunsW.seq (P1:=P1) h1 h2 (fun e y he=>(n1 e y he).elim)) h3 (fun e y he=>(n2 e y he).elim)
def d16 (V:Nat):List Int:=db 65536 V
theorem Zbn (L:List Int):∀ u∈wU L,lt1 0 u=true:=fun v hv=>by
 unfold wU at hv;obtain⟨x,_,rfl⟩:=List.mem_map.1 hv;rfl
def Zn (h:Hp) (p:Option Addr) (n:Nat):List Int:=
 match p with
 | none=>[]
 | some a=>
  match h.blk? a.block with
  | some x=>Zy x.1 a.off n
  | none=>[]
def zP (h:Hp) (p:Option Addr) (n c:Nat):Bool:=
 match p with
 | none=>Nat.beq n 0 && Nat.beq c 0
 | some a=>
  match a.spot,h.blk? a.block with
  | none,some x=>ZaX x.2 x.1 a.off n c && x.1.all still
  | _,_=>false
def atN (L:List Int) (i:Int):Int:=if 0≤i then L.getD i.toNat 0 else 0
theorem ZG {h:Hp}{p:Option Addr}{n c:Nat}(hr:zP h p n c=true):(p=none∧n=0∧c=0∧Zn h p n=[])∨∃ b o x,p=some ⟨b,o,none⟩∧h.blk? b=some x∧ZaX x.2 x.1 o n c=true∧(∀ v∈x.1,still v=true)∧Zn h p n=Zy x.1 o n:=by
 unfold zP at hr;split at hr
 ·simp only[Xh] at hr;exact .inl ⟨rfl,Xj hr.1,Xj hr.2,rfl⟩
 ·rename_i a;split at hr
  ·rename_i x hs hx;simp only[Xh] at hr;obtain⟨b,o,sp⟩:=a;simp only at hs hx;subst hs;exact .inr ⟨b,o,x,rfl,hx,hr.1,List.all_eq_true.1 hr.2,by simp [Zn,hx]⟩
  ·cases hr
theorem ZlE:f69.body=some (Zs f69):=by kernel_rfl
theorem Z5F (o n c:Nat) (i x:Int) (l:List Value):Zh (evC (Zp prog Zf Zo true) 100 false (Zs f69) ([sl 0 o n c,.int .i64 i]++List.replicate 15 undef,⟨1,[(l,tR)]⟩,[cmp true,cmp true,at_,val (.int .u32 x)]) ⟨[],[],[]⟩) 5 12 (some none) [sl 0 o n c,.int .i64 i,undef,undef,.int .u32 x] ⟨1,[(l,tR)]⟩ [(Z4 (l[o+i.toNat*1]?) (.int .u32 x),true),(decide (0≤i∧i<n),true),(decide (i<n),true),(decide (i≥0),true)]:=by and_intros<;>kernel_rfl
theorem ZuX (p:Option Addr) (n c:Nat) (i:Int) (h:Hp):Zh (evC (Zp prog Zf Zo true) 100 false (Zs f69) ([.slice p n c,.int .i64 i]++List.replicate 15 undef,h,[cmp true,cmp false]) ⟨[],[],[]⟩) 5 12 (some none) [.slice p n c,.int .i64 i,undef,undef,.int .u32 0] h [(decide (i<n),false),(decide (i≥0),true)]:=by and_intros<;>kernel_rfl
theorem Zqr (p:Option Addr) (n c:Nat) (i:Int) (h:Hp):Zh (evC (Zp prog Zf Zo true) 100 false (Zs f69) ([.slice p n c,.int .i64 i]++List.replicate 15 undef,h,[cmp false]) ⟨[],[],[]⟩) 5 12 (some none) [.slice p n c,.int .i64 i,undef,undef,.int .u32 0] h [(decide (i≥0),false)]:=by and_intros<;>kernel_rfl
theorem ZlF {p:Option Addr}{n c:Nat}{i:Int}{h:Hp}(hi:i<0∨(n:Int)≤i):Runs (Zp prog Zf Zo true) (Zs f69) ([.slice p n c,.int .i64 i]++List.replicate 15 undef,h,[]) fun e y=>(e=none∨e=some none)∧ZW prog f69 y.1 y.2.1=some (.int .u32 0):=by
 by_cases h0:i<0
 ·refine (Zb (Zq Zd) (Zqr p n c i h) (Zt (Xb (by omega)))).mono fun e y he=> ?_;obtain⟨rfl,⟨g,e2⟩,e3⟩:=he;refine⟨.inr rfl,?_⟩;rw[e2,e3];rfl
 ·refine (Zb (Zq Zd) (ZuX p n c i h) (Zi (Xb (by omega)) (Zt (Xa (by omega))))).mono fun e y he=> ?_;obtain⟨rfl,⟨g,e2⟩,e3⟩:=he;refine⟨.inr rfl,?_⟩;rw[e2,e3];rfl
theorem ZuY {l:List Value}{o c:Nat}{L:List Int}(i:Int) (hR:Row l o L):
  Runs (Zp prog Zf Zo true) (Zs f69) ([sl 0 o L.length c,.int .i64 i]++List.replicate 15 undef,⟨1,[(l,tR)]⟩,[]) fun e y=>(e=none∨e=some none)∧ZW prog f69 y.1 y.2.1=some (.int .u32 (atN L i)):=by
 by_cases hi:i<0∨(L.length:Int)≤i
 ·have e0:atN L i=0:=by
   unfold atN;split
   ·have:L.length≤i.toNat:=by omega
    simp [List.getD,List.getElem?_eq_none this]
   ·rfl
  rw[e0];exact ZlF hi
 ·have h0:0≤i:=by omega
  have hlt:i.toNat<L.length:=by omega
  have e0:atN L i=L.getD i.toNat 0:=by unfold atN;rw[if_pos h0]
  rw[e0];have hc:=hR.cell hlt;refine (Zb (Zq Zd) (Z5F o L.length c i (L.getD i.toNat 0) l) (Zi (by rw[Nat.mul_one,hc];simp [Z4]) (Zi (Xa (by omega)) (Zi (Xa (by omega)) (Zt (Xa (by omega))))))).mono fun e y he=> ?_;obtain⟨rfl,⟨g,e2⟩,e3⟩:=he;refine⟨.inr rfl,?_⟩;rw[e2,e3];rfl
def gAt:Zab:=fun vals h s=>
 match vals with
 | [.slice p n c,.int .i64 i]=>some (.int .u32 (atN (Zn h p n) i),h,s,[(zP h p n c,true)])
 | _=>none
theorem Zt3:Z7 69 gAt:=by
 intro vals h s v h' s' lg hg hl m B w E hv;unfold gAt at hg;split at hg
 ·rename_i p n c i;cases hg;have q:=hl _ Xf;simp only at q;rcases ZG q with ⟨rfl,rfl,rfl,e0⟩ | ⟨b,o,x,rfl,hx,q1,_,e0⟩
  ·rw[e0];have hz:atN [] i=0:=by unfold atN;split<;>simp
   rw[hz];have hi:i<0∨((0:Nat):Int)≤i:=by omega
   refine (zG (T:=Zp prog Zf Zo true) func69 ZlE (vals:=[Zm,.int .i64 i]) (v:= .int .u32 0) (by rfl) (by rfl) (ZlF (p:=none) (n:=0) (c:=0) (i:=i) (h:=⟨0,[]⟩) hi) w).mono fun e w' he=> ?_;obtain⟨E',hb⟩:=ZX E he.2;exact⟨m,he.1,⟨Agree.refl _ _,E',hb,Nat.le_refl _,rfl⟩⟩
  ·rw[e0];obtain⟨h1,h2,h3,h4,h5,h6,h7⟩:=zu q1;have hlt:=Hp.blk_lt hx;have r:=ZuY (c:=c) i h1;rw[h2] at r;have:=zj (T:=Zp prog Zf Zo true) func69 ZlE (Za4 h7) (vals:=[sl 0 o n c,.int .i64 i]) (fun v hv=>by
    simp only[List.mem_cons,List.not_mem_nil,or_false] at hv;rcases hv with rfl | rfl<;>rfl) (by rfl) r E (s:=fun _=>b) (fun i _=>hlt) (zE hx h5 h6 rfl)
   exact this.mono fun e w' he=>⟨m,he.1,he.2⟩
 ·cases hg
def hcV:Hc:=zm 69 gAt hcU
theorem Zw:HcOk hcV:=Zu func69 rfl Zt3 Z0g
end Go.Proofs.YtgefjidphfdhdaaGreatDoor
namespace Go.KRun
open Go.RowKit
theorem Zqs {k n:Nat}{base l:List (List Value×TypeId)}(hn:n=l.length+k) {i:Nat}(hi:i<k):(⟨n,l++base⟩:Hp).blk? i=(⟨k,base⟩:Hp).blk? i:=by
 unfold Hp.blk?;rw[if_pos (Zl.2 (by show i<n;omega)),if_pos (Zl.2 hi)];show (l++base)[n-1-i]? =base[k-1-i]?;rw[List.getElem?_append_right (by omega)];congr 1;omega
theorem RunsW.pre {T:Tab}{c:Code}{P:Ex→Lf→Prop}{f1 f2:List Value}{u:Value}{n k N:Nat}{extra base:List (List Value×TypeId)}{s s':List Dec}{g:Nat→Value}(h:∀ j g,RunsW T c ((f1++j::f2)++tl n g,⟨k,base⟩,s') P)
  (hk:base.length=k) (hN:N=extra.length+k) (h0:0<k) (hb:∀ x∈base,∀ v∈x.1,lt1 k v=true) (h1:∀ v∈f1,lt k v=true) (h2:∀ v∈f2,lt k v=true):
  RunsW T c ((f1++u::f2)++tl n g,⟨N,extra++base⟩,s) P:=by
 intro m B a w R Q hQ;obtain⟨g',hg'⟩:=Zln (J:=(tl n g).map (fun v=>Value.iface zd (mv m v))) (n:=n) (by simp [Zl7]);refine h (Value.iface zd (mv m u)) g' m B a w ?_ Q hQ;have E:=R.emb;have sub:∀ i x,(⟨k,base⟩:Hp).blk? i=some x→(⟨N,extra++base⟩:Hp).blk? i=some x:=fun i x hx=>by
  rw[Zqs hN (Hp.blk_lt hx)];exact hx
 have mem:∀ i x,(⟨k,base⟩:Hp).blk? i=some x→x∈base:=fun i x hx=>by
  unfold Hp.blk? at hx;split at hx
  ·exact List.mem_of_getElem? hx
  ·cases hx
 have ltd:∀ v:Value,lt k (Value.iface zd v)=true:=fun v=>by simp [lt,lt2,lt1,h0]
 have mvd:∀ v:Value,mv m (Value.iface zd (mv m v))=mv m v:=fun v=>by simp [mv,mv2,mv1]
 refine⟨?_,R.dfr,⟨hk,fun b x hx ht=>E.lies b x (sub b x hx) ht,fun b x hx hro=>E.low b x (sub b x hx) hro,fun b x hx ht hro=>E.ros b x (sub b x hx) ht hro,fun b b' x x' hx hx' hro hro' he=>E.inj b b' x x' (sub b x hx) (sub b' x' hx') hro hro' he,fun b x hx v hv=>hb x (mem b x hx) v hv,E.base,E.ice,fun b x hx ha=>E.abs b x (sub b x hx) ha⟩,?_⟩
 ·rw[R.tmps];simp only[List.map_append,List.map_cons,mvd,← hg',List.map_map];congr 2
 ·intro v hv;rcases List.mem_append.1 hv with hv | hv
  ·rcases List.mem_append.1 hv with hv | hv
   ·exact h1 v hv
   ·rcases List.mem_cons.1 hv with rfl | hv
    ·exact ltd _
    ·exact h2 v hv
  ·rw[← hg'] at hv;obtain⟨y,_,rfl⟩:=List.mem_map.1 hv;exact ltd _
theorem Zdg {T:Tab}{f:Nat}{F:Func}{c:Code}(hF:T.P.funcs[f]? =some F) (hc:F.body=some c) {h0:Hp}(hr:h0.rows) {vals:List Value}(hvals:∀ v∈vals,lt h0.n v=true) {v:Nat→Value}
  {cs:List Value}{ty:TypeId}(hcs:∀ u∈cs,lt1 0 u=true) (hty:ro ty=false)
  (hrun:RunsW T c (vals++List.replicate (F.ntmps-vals.length) undef,h0,[]) fun e y=>(e=none∨e=some none)∧∃ k,ZW T.P F y.1 y.2.1=some (v k)∧∃ r,y.2.1.blk? k=some (cs++r,ty))
  (hv0:∀ k,oc [k] (v k)=true)
  {m:Mp}{B:Nat}{h:Hp}{w:World}(E:Emb m B h w) {s:Nat→Nat}(hf:h0.fits s h) (hv1:∀ k,rn (fun _=>h.n) (v k)=v h.n):
  Calls T.P f ((vals.map (rn s)).map (mv m)).toArray w fun e w'=>∃ m',e= .returned (mv m' (v h.n))∧Came m B h w (v h.n) (h.push cs ty) m' w':=by
 have E0:=E.small hr hf;have ev:(vals.map (rn s)).map (mv m)=vals.map (mv fun i=>m (s i)):=by
  rw[List.map_map];exact List.map_congr_left fun y _=>ZcY m s y
 rw[ev];refine calls_of_wp hF hc ?_;have R:Rel (fun i=>m (s i)) w.heap.size (vals++List.replicate (F.ntmps-vals.length) undef,h0,[]) {tmps:=(vals.map (mv fun i=>m (s i))).toArray++Array.replicate (F.ntmps-(vals.map (mv fun i=>m (s i))).toArray.size) undef,defers:=[]} w:=by
  refine⟨?_,rfl,E0,?_⟩
  ·simp [zx]
  ·intro y hy;rcases List.mem_append.1 hy with hy | hy
   ·exact hvals y hy
   ·rw[List.eq_of_mem_replicate hy];simp [undef,lt]
 refine hrun _ _ _ w R _ fun e y he m1 a' w' k2 k3=> ?_;obtain⟨hex,k,hres,r,hblk⟩:=he;obtain⟨r1,r2⟩:=Zaq k2.emb k2.wf hres;rw[← k2.tmps] at r1;have td:Zav w w':=⟨k3,fun k h1 h2=>k2.emb.ice k h1 h2⟩;obtain⟨E',hb⟩:=ZX E td;have hlow:w.heap.size≤(m1 k).1:=k2.emb.low k _ hblk hty;have hlie:lie w' (m1 k) (cs.map (mv1 m)) ty:=by
  obtain⟨r',z,l0,l1,l2⟩:=k2.emb.lies k _ hblk (Zak hty);have e:cs.map (mv1 m1)=cs.map (mv1 m):=ZbI hcs;simp only[List.map_append] at l0 l1;refine⟨r.map (mv1 m1)++r',z,?_,?_,l2⟩
  ·simp at l0 ⊢;omega
  ·rw[← e,l1,List.append_assoc]
 have Ea:=E'.adopt cs ty hty (fun u hu=>zo (Nat.zero_le _) (hcs u hu)) hlie (Nat.le_trans E.base hlow) (fun b x hbx hx heq=>by
  have:=E.here hbx (Zak hx);omega)
 have e1:mv m1 (v k)=mv (upd m h.n (m1 k)) (v h.n):=by
  rw[← hv1 k,ZcY];refine ZpR (fun b hb=> ?_) (hv0 k);rw[List.mem_singleton.1 hb];simp [upd]
 rw[e1] at r1;have hlt:lt (h.n+1) (v h.n)=true:=by rw[← hv1 k];exact Ziu (bs:=[k]) (fun b hb=>by show h.n<h.n+1;omega) (hv0 k)
 have post:a'.defers=[]∧∃ v',(results F a'.tmps).run T.P w'= .ok v' w'∧∃ m',Ending.returned v'= .returned (mv m' (v h.n))∧Came m B h w (v h.n) (h.push cs ty) m' w':=
  ⟨k2.dfr,_,r1,upd m h.n (m1 k),rfl,⟨ZU _ _ _,Ea,hb,Nat.le_succ _,hlt⟩⟩
 rcases hex with rfl | rfl<;>exact post
theorem RunsW.keptP {T:Tab}{c:Code}{x0:Lf}{ex:Ex}{front front':List Value}{n k b:Nat}{h:Hp}{base:List (List Value×TypeId)}{y:List Value×TypeId}{r:List Value}(hr:RunsW T c x0 fun e z=>e=ex∧(∃ g,z.1=front++tl n g)∧z.2.1=h)
  (hk:base.length=k) (hf:front'.map (rn (zH k b))=front) (hx:∀ i x,(⟨k,base⟩:Hp).blk? i=some x→h.blk? i=some x∧∀ v∈x.1,still v=true) (hy:h.blk? b=some (y.1++r,y.2)) (hb:k≤b) (sy:∀ v∈y.1,still v=true) (hw:∀ v∈front',lt (k+1) v=true):
  RunsW T c x0 fun e z=>e=ex∧(∃ g,z.1=front'++tl n g)∧z.2.1=⟨k+1,y::base⟩:=by
 refine hr.small fun e z he=> .inr ?_;obtain⟨rfl,⟨g,h1⟩,h2⟩:=he;obtain⟨t,h',s⟩:=z;simp only at h1 h2;subst h1 h2;refine⟨front,front',tl n g,h',⟨k+1,y::base⟩,s,zH k b,rfl,hf,by simp [hk],Nat.succ_pos _,fun i z hz=> ?_,fun i j u v hi hj _ _ hij=> ?_,hw,fun g'=>⟨rfl,⟨g',by rw[Zl7]⟩,rfl⟩⟩
 ·rcases ZjH hk hz with ⟨hi,hz'⟩ | ⟨rfl,rfl⟩
  ·obtain⟨q1,q2⟩:=hx i z hz';exact⟨q2,z,[],by unfold zH;rw[if_pos (Zl.2 hi)];exact q1,rfl,by simp⟩
  ·exact⟨sy,(z.1++r,z.2),r,by unfold zH;rw[if_neg (by rw[Zl];omega)];exact hy,rfl,rfl⟩
 ·unfold zH at hij;rcases ZjH hk hi with ⟨h1,_⟩ | ⟨rfl,_⟩<;>rcases ZjH hk hj with ⟨h2,_⟩ | ⟨rfl,_⟩
  ·rw[if_pos (Zl.2 h1),if_pos (Zl.2 h2)] at hij;exact hij
  ·rw[if_pos (Zl.2 h1),if_neg (by rw[Zl];omega)] at hij;omega
  ·rw[if_pos (Zl.2 h2),if_neg (by rw[Zl];omega)] at hij;omega
  ·rfl
theorem Zbo {T:Tab}{f:Nat}{F:Func}{c:Code}(hF:T.P.funcs[f]? =some F) (hc:F.body=some c) {vals:List Value}{v:Value}{h:Hp}(hv:lt 0 v=true)
  (hr:Runs T c (vals++List.replicate (F.ntmps-vals.length) undef,h,[]) fun e y=>(e=none∨e=some none)∧ZW T.P F y.1 y.2.1=some v∧y.2.1=h) (m:Mp) (B:Nat) (w:World) (E:Emb m B h w) (hvals:∀ v∈vals,lt h.n v=true):
  Calls T.P f (vals.map (mv m)).toArray w fun e w'=>∃ m',e= .returned (mv m' v)∧Came m B h w v h m' w':=by
 refine calls_of_wp hF hc ?_;have R:Rel m B (vals++List.replicate (F.ntmps-vals.length) undef,h,[]) {tmps:=(vals.map (mv m)).toArray++Array.replicate (F.ntmps-(vals.map (mv m)).toArray.size) undef,defers:=[]} w:=by
  refine⟨?_,rfl,E,?_⟩
  ·simp [zx]
  ·intro y hy;rcases List.mem_append.1 hy with hy | hy
   ·exact hvals y hy
   ·rw[List.eq_of_mem_replicate hy];simp [undef,lt]
 refine hr _ _ _ w R _ fun e y he a' w' hR=> ?_;obtain⟨hex,hres,hh⟩:=he;obtain⟨m1,k1,k2,k3,_⟩:=hR;obtain⟨r1,r2⟩:=Zaq k2.emb k2.wf hres;rw[← k2.tmps] at r1;have Ek:Emb m1 B h w':=by
  have:=k2.emb;rw[hh] at this;exact this
 have post:a'.defers=[]∧∃ v',(results F a'.tmps).run T.P w'= .ok v' w'∧∃ m',Ending.returned v'= .returned (mv m' v)∧Came m B h w v h m' w':=
  ⟨k2.dfr,_,r1,m1,rfl,⟨k1,Ek,k3,Nat.le_refl _,zC (Nat.zero_le _) hv⟩⟩
 rcases hex with rfl | rfl<;>exact post
theorem ZeT {T:Tab}{f:Nat}{F:Func}{c:Code}(hF:T.P.funcs[f]? =some F) (hc:F.body=some c) {h0:Hp}(hr:h0.rows) {vals:List Value}(hvals:∀ v∈vals,lt h0.n v=true) {v:Nat→Nat→Value}
  {cs ds:List Value}{ty:TypeId}(hcs:∀ u∈cs,lt1 0 u=true) (hds:∀ u∈ds,lt1 0 u=true) (hty:ro ty=false)
  (hrun:RunsW T c (vals++List.replicate (F.ntmps-vals.length) undef,h0,[]) fun e y=>(e=none∨e=some none)∧∃ k j,k≠j∧ZW T.P F y.1 y.2.1=some (v k j)∧(∃ r,y.2.1.blk? k=some (cs++r,ty))∧∃ r,y.2.1.blk? j=some (ds++r,ty))
  (hv0:∀ k j,oc [k,j] (v k j)=true)
  {m:Mp}{B:Nat}{h:Hp}{w:World}(E:Emb m B h w) {s:Nat→Nat}(hf:h0.fits s h) (hv1:∀ k j,∀ g:Nat→Nat,rn g (v k j)=v (g k) (g j)):
  Calls T.P f ((vals.map (rn s)).map (mv m)).toArray w fun e w'=>∃ m',e= .returned (mv m' (v h.n (h.n+1)))∧Came m B h w (v h.n (h.n+1)) ((h.push cs ty).push ds ty) m' w':=by
 have E0:=E.small hr hf;have ev:(vals.map (rn s)).map (mv m)=vals.map (mv fun i=>m (s i)):=by
  rw[List.map_map];exact List.map_congr_left fun y _=>ZcY m s y
 rw[ev];refine calls_of_wp hF hc ?_;have R:Rel (fun i=>m (s i)) w.heap.size (vals++List.replicate (F.ntmps-vals.length) undef,h0,[]) {tmps:=(vals.map (mv fun i=>m (s i))).toArray++Array.replicate (F.ntmps-(vals.map (mv fun i=>m (s i))).toArray.size) undef,defers:=[]} w:=by
  refine⟨?_,rfl,E0,?_⟩
  ·simp [zx]
  ·intro y hy;rcases List.mem_append.1 hy with hy | hy
   ·exact hvals y hy
   ·rw[List.eq_of_mem_replicate hy];simp [undef,lt]
 refine hrun _ _ _ w R _ fun e y he m1 a' w' k2 k3=> ?_;obtain⟨hex,k,j,hkj,hres,⟨r,hblk⟩,r',hblj⟩:=he;obtain⟨r1,r2⟩:=Zaq k2.emb k2.wf hres;rw[← k2.tmps] at r1;have td:Zav w w':=⟨k3,fun k h1 h2=>k2.emb.ice k h1 h2⟩;obtain⟨E',hb⟩:=ZX E td;have low:∀ {k:Nat}{x:List Value×TypeId},y.2.1.blk? k=some x→ro x.2=false→w.heap.size≤(m1 k).1:=fun h1 h2=>k2.emb.low _ _ h1 h2;have hlie:∀ {k:Nat}{cs r:List Value},(∀ u∈cs,lt1 0 u=true)→y.2.1.blk? k=some (cs++r,ty)→∀ m':Mp,lie w' (m1 k) (cs.map (mv1 m')) ty:=fun {k cs r} hcs hblk m'=>by
  obtain⟨r',z,l0,l1,l2⟩:=k2.emb.lies k _ hblk (Zak hty);have e:cs.map (mv1 m1)=cs.map (mv1 m'):=ZbI hcs;simp only[List.map_append] at l0 l1;refine⟨r.map (mv1 m1)++r',z,?_,?_,l2⟩
  ·simp at l0 ⊢;omega
  ·rw[← e,l1,List.append_assoc]
 have lk:=low hblk hty;have lj:=low hblj hty;have Ea:=E'.adopt cs ty hty (fun u hu=>zo (Nat.zero_le _) (hcs u hu)) (hlie hcs hblk m) (Nat.le_trans E.base lk) (fun b x hbx hx heq=>by
  have:=E.here hbx (Zak hx);omega)
 have Eb:=Ea.adopt ds ty hty (fun u hu=>zo (Nat.zero_le _) (hds u hu)) (hlie hds hblj (upd m h.n (m1 k))) (Nat.le_trans E.base lj) (fun b x hbx hx heq=>by
  rw[Hp.blk_push E.len] at hbx;by_cases h1:b=h.n
  ·subst h1;simp only[upd,if_pos] at heq;exact hkj (k2.emb.inj k j _ _ hblk hblj hty hty heq)
  ·rw[if_neg h1] at hbx;simp only[upd,if_neg h1] at heq;have:=E.here hbx (Zak hx);omega)
 have hn:(h.push cs ty).n=h.n+1:=rfl;rw[hn] at Eb;have e1:mv m1 (v k j)=mv (upd (upd m h.n (m1 k)) (h.n+1) (m1 j)) (v h.n (h.n+1)):=by
  have e2:=hv1 k j (fun b=>if b=k then h.n else h.n+1);simp only[if_pos,if_neg (Ne.symm hkj)] at e2;rw[← e2,ZcY];refine ZpR (fun b hb=> ?_) (hv0 k j);simp only[List.mem_cons,List.not_mem_nil,or_false] at hb;rcases hb with rfl | rfl
  ·simp [upd]
  ·simp [upd,Ne.symm hkj]
 rw[e1] at r1;have hlt:lt (h.n+2) (v h.n (h.n+1))=true:=by
  have e2:=hv1 k j (fun b=>if b=k then h.n else h.n+1);simp only[if_pos,if_neg (Ne.symm hkj)] at e2;rw[← e2];exact Ziu (bs:=[k,j]) (fun b hb=>by split<;>omega) (hv0 k j)
 have post:a'.defers=[]∧∃ v',(results F a'.tmps).run T.P w'= .ok v' w'∧∃ m',Ending.returned v'= .returned (mv m' (v h.n (h.n+1)))∧Came m B h w (v h.n (h.n+1)) ((h.push cs ty).push ds ty) m' w':=
  ⟨k2.dfr,_,r1,_,rfl,⟨(ZU m h.n (m1 k)).trans (ZU _ _ _) (by omega),Eb,hb,by show h.n≤h.n+1+1;omega,hlt⟩⟩
 rcases hex with rfl | rfl<;>exact post
end Go.KRun
namespace Go.Proofs.YtgefjidphfdhdaaGreatDoor
open Go.KRun
theorem Z6 {a b:Bool}(h:a=b):Zx [(a,b)]:=fun p hp=>by rw[List.mem_singleton.1 hp];exact h
theorem Za {a b:Bool}{l:Log}(h:a=b) (hl:Zx l):Zx ((a,b)::l):=fun p hp=>by
 rcases List.mem_cons.1 hp with rfl | hp
 ·exact h
 ·exact hl p hp
theorem Zqt {a b:Bool}{l:Log}:Zx ((a,b)::l)↔a=b∧Zx l:=⟨fun h=>⟨h _ (Xe),fun x hx=>h x (Xd _ hx)⟩,fun h=>Za h.1 h.2⟩
theorem Z9u:Zx []:=fun x hx=>by cases hx
end Go.Proofs.YtgefjidphfdhdaaGreatDoor
namespace Go.Proofs.YtgefjidphfdhdaaGreatDoor.Na
open Go.KRun Go.Nt
set_option maxRecDepth 100000
set_option linter.unusedVariables false
def zQ (h:Hp) (p:Option Addr) (n c:Nat):Bool:=
 match p with
 | none=>Nat.beq n 0 && Nat.beq c 0
 | some a=>
  match a.spot,h.blk? a.block with
  | none,some x=>Z5 x.2 x.1 a.off n c
  | _,_=>false
theorem ZD {h:Hp}{p:Option Addr}{n c:Nat}(hr:zQ h p n c=true):(p=none∧n=0∧c=0∧Zn h p n=[])∨∃ b o x,p=some ⟨b,o,none⟩∧h.blk? b=some x∧Z5 x.2 x.1 o n c=true∧Zn h p n=Zy x.1 o n:=by
 unfold zQ at hr;split at hr
 ·simp only[Xh] at hr;exact .inl ⟨rfl,Xj hr.1,Xj hr.2,rfl⟩
 ·rename_i a;split at hr
  ·rename_i x hs hx;obtain⟨b,o,sp⟩:=a;simp only at hs hx;subst hs;exact .inr ⟨b,o,x,rfl,hx,hr,by simp [Zn,hx]⟩
  ·cases hr
theorem Zbp:ZR []=false:=rfl
def ZuZ:Zab:=fun vals h s=>
 match vals,s with
 | [.slice p n c],.inr (.inr (.inr (.inl d)))::s'=>some (ZcS d,h,s',[(zQ h p n c,true),(ZR (Zn h p n),d)])
 | _,_=>none
theorem Zqu:Z7 128 ZuZ:=by
 intro vals h s v h' s' lg hg hl m B w E hv;unfold ZuZ at hg;split at hg
 ·rename_i p n c d s2;cases hg;have l1:=hl _ (Xe);have l2:=hl _ (Xd _ Xf);simp only at l1 l2;rcases ZD l1 with ⟨rfl,rfl,rfl,e0⟩ | ⟨b,o,x,rfl,hx,r1,e0⟩
  ·rw[e0,Zbp] at l2;subst l2;exact Zf0 _ h [] _ _ _ _ rfl (fun x hx=>by cases hx) m B w E hv
  ·rw[e0] at l2;exact Zf0 _ h [cmp d] (ZcS d) h [] [(Z5 x.2 x.1 o n c,true),(ZR (Zy x.1 o n),d)] (by simp only[ZzY,hx]) (Za r1 (Z6 l2)) m B w E hv
 ·cases hg
def Zg7:Zab:=fun vals h s=>
 match vals,s with
 | [.slice p n c,.slice q n' c'],.inr (.inr (.inr (.inl d)))::s'=>some (ZcS d,h,s',[(zQ h p n c,true),(zQ h q n' c',true),(ZR (Zn h p n) || ZR (Zn h q n'),d)])
 | _,_=>none
theorem Z5e {a b c:Bool×Bool}(h:Zx [a,b,c]):a.1=a.2∧b.1=b.2∧c.1=c.2:=⟨h _ (by simp),h _ (by simp),h _ (by simp)⟩
theorem Zej:Z7 132 Zg7:=by
 intro vals h s v h' s' lg hg hl m B w E hv;unfold Zg7 at hg;split at hg
 ·rename_i p n c q n' c' d s2;cases hg;obtain⟨l1,l2,l3⟩:=Z5e hl;simp only at l1 l2 l3;rcases ZD l1 with ⟨rfl,rfl,rfl,e0⟩ | ⟨b,o,x,rfl,hx,r1,e0⟩<;>rcases ZD l2 with ⟨rfl,rfl,rfl,f0⟩ | ⟨b',o',y,rfl,hy,t1,f0⟩<;>simp only[e0,f0] at l3
  ·rw[Zbp,Bool.or_self] at l3;subst l3;exact Zc5 _ h [] _ _ _ _ rfl (fun x hx=>by cases hx) m B w E hv
  ·rw[Zbp,Bool.false_or] at l3;exact Zc5 _ h [cmp d] (ZcS d) h [] [(Z5 y.2 y.1 o' n' c',true),(ZR (Zy y.1 o' n'),d)] (by simp only[ZjB,hy]) (Za t1 (Z6 l3)) m B w E hv
  ·rw[Zbp,Bool.or_false] at l3;exact Zc5 _ h [cmp d] (ZcS d) h [] [(Z5 x.2 x.1 o n c,true),(ZR (Zy x.1 o n),d)] (by simp only[ZjB,hx]) (Za r1 (Z6 l3)) m B w E hv
  ·exact Zc5 _ h [cmp d] (ZcS d) h [] [(Z5 x.2 x.1 o n c,true),(Z5 y.2 y.1 o' n' c',true),(ZR (Zy x.1 o n) || ZR (Zy y.1 o' n'),d)] (by simp only[ZjB,hx,hy]) (Za r1 (Za t1 (Z6 l3))) m B w E hv
 ·cases hg
def Zva:Zab:=fun vals h s=>
 match vals with
 | [.slice p n c,.slice q n' c']=>some (i6' (Zco (Zn h p n) (Zn h q n')),h,s,[(zQ h p n c,true),(zQ h q n' c',true)])
 | _=>none
theorem Zt4 {L:List Int}{n:Nat}(h:L.length=n):Zco [] L=Zqc 0 n:=by
 unfold Zco Zqc;rw[h,List.length_nil];split
 ·rfl
 ·rfl
theorem Z0h {L:List Int}{n:Nat}(h:L.length=n):Zco L []=Zqc n 0:=by
 unfold Zco Zqc;rw[h,List.length_nil];split
 ·rename_i h0;rw[h0];rfl
 ·rfl
theorem Zqv:Z7 187 Zva:=by
 intro vals h s v h' s' lg hg hl m B w E hv;unfold Zva at hg;split at hg
 ·rename_i p n c q n' c';cases hg;have l1:=hl _ (Xe);have l2:=hl _ (Xd _ Xf);simp only at l1 l2;rcases ZD l1 with ⟨rfl,rfl,rfl,e0⟩ | ⟨b,o,x,rfl,hx,r1,e0⟩<;>rcases ZD l2 with ⟨rfl,rfl,rfl,f0⟩ | ⟨b',o',y,rfl,hy,t1,f0⟩<;>simp only[e0,f0]
  ·exact Zef _ h s _ _ _ _ rfl (fun x hx=>by cases hx) m B w E hv
  ·rw[Zt4 (ZC t1).2.1];exact Zef _ h s _ _ _ _ rfl (fun x hx=>by cases hx) m B w E hv
  ·rw[Z0h (ZC r1).2.1];exact Zef _ h s _ _ _ _ rfl (fun x hx=>by cases hx) m B w E hv
  ·exact Zef _ h s _ h s [(Z5 x.2 x.1 o n c,true),(Z5 y.2 y.1 o' n' c',true)] (by simp only[Z5b,hx,hy]) (Za r1 (Z6 t1)) m B w E hv
 ·cases hg
theorem Z0i {L:List Int}{n:Nat}(h:L.length=n):Zco [] L<0↔0<n:=by
 rw[Zt4 h];unfold Zqc;split
 ·omega
 ·split<;>omega
end Go.Proofs.YtgefjidphfdhdaaGreatDoor.Na
namespace Go.Proofs.YtgefjidphfdhdaaGreatDoor
open Go.Proofs.Tryz
open Go.IntKind
open Go.KRun Go.Nt
set_option maxRecDepth 100000
structure Nu (i:Nat) (x:List Value×TypeId) (p:Option Addr) (n c:Nat) (A:List Int):Prop where
 row:∀ h:Hp,h.blk? i=some x→zP h p n c=true∧Zn h p n=A
 pos:p=none∨∃ o,p=some ⟨i,o,none⟩
 st:∀ v∈x.1,still v=true
 lt0:∀ v∈x.1,still v=true
 ros:ro x.2=true∧ab x.2=false
theorem Nu.rn {i:Nat}{x:List Value×TypeId}{p:Option Addr}{n c:Nat}{A:List Int}(h:Nu i x p n c A) {f:Nat→Nat}(hf:f i=i):KRun.rn f (.slice p n c)= .slice p n c:=by
 rcases h.pos with rfl | ⟨o,rfl⟩
 ·rfl
 ·show Value.slice (some ⟨f i,o,none⟩) n c=_;rw[hf]
theorem Nu.lt {i:Nat}{x:List Value×TypeId}{p:Option Addr}{n c:Nat}{A:List Int}(h:Nu i x p n c A) {k:Nat}(hk:i<k):KRun.lt k (.slice p n c)=true:=by
 rcases h.pos with rfl | ⟨o,rfl⟩
 ·rfl
 ·exact Zl.2 hk
theorem ZbM {h:Hp}{p:Option Addr}{n c:Nat}(i:Nat) (hr:zP h p n c=true):∃ x p' b,Nu i x p' n c (Zn h p n)∧(∀ s:Nat→Nat,s i=b→rn s (.slice p' n c)= .slice p n c)∧(Zaa x.2=false→∃ y r,h.blk? b=some y∧Zaa y.2=false∧rt y.2=rt x.2∧y.1=x.1++r):=by
 rcases ZG hr with ⟨rfl,rfl,rfl,e0⟩ | ⟨b,o,x,rfl,hx,q1,q2,e0⟩
 ·refine⟨([],2*zd),none,0,⟨fun h' _=>⟨rfl,by rw[e0];rfl⟩,.inl rfl,(fun v hv=>by cases hv),(fun v hv=>by cases hv),(by kernel_rfl),(by kernel_rfl)⟩,fun s _=>rfl,fun ht=> ?_⟩;rw[show Zaa (2*zd)=true from by kernel_rfl] at ht;cases ht
 ·obtain⟨h1,h2,h3,h4,h5,h6,h7⟩:=zu q1;refine⟨(x.1,tR),some ⟨i,o,none⟩,b,⟨fun h' hb=>⟨?_,?_⟩,.inr ⟨o,rfl⟩,q2,h7,ZpT,ZpU⟩,fun s hs=> ?_,fun _=>⟨x,[],hx,h5,by rw[h6];exact ZpV.symm,by simp⟩⟩
  ·simp only[zP,hb,Xh];refine⟨?_,List.all_eq_true.2 q2⟩;unfold ZaX at q1 ⊢;simp only[Xh,Bool.not_eq_true'] at q1 ⊢;obtain⟨⟨⟨⟨⟨⟨_,_⟩,p3⟩,p4⟩,p5⟩,p6⟩,p7⟩:=q1;exact⟨⟨⟨⟨⟨⟨Zbl,by kernel_rfl⟩,p3⟩,p4⟩,p5⟩,p6⟩,p7⟩
  ·rw[e0];simp [Zn,hb]
  ·show Value.slice (some ⟨s i,o,none⟩) n c=_;rw[hs]
def dgB (L:List Int):Bool:=L.all fun x=>decide (0≤x∧x<65536)
theorem Zby {L:List Int}(h:dgB L=true):∀ x∈L,Dg 65536 x:=fun x hx=>Xc (List.all_eq_true.1 h x hx)
theorem ZbN {L:List Int}(h:∀ x∈L,Dg 65536 x):dgB L=true:=List.all_eq_true.2 fun x hx=>Xa (h x hx)
theorem zV {h:Hp}{p:Option Addr}{n c:Nat}(hr:zP h p n c=true):(Zn h p n).length=n:=by
 rcases ZG hr with ⟨rfl,rfl,rfl,e0⟩ | ⟨b,o,x,rfl,hx,q1,q2,e0⟩
 ·rw[e0];rfl
 ·rw[e0];exact (zu q1).2.1
theorem Zek {L:List Int}(h:∀ x∈L,Dg 65536 x) (i:Nat):Dg 65536 (L.getD i 0):=by
 by_cases hi:i<L.length
 ·rw[Zi3 hi];exact h _ (List.getElem_mem hi)
 ·rw[show L.getD i 0=0 from by simp [List.getD,List.getElem?_eq_none (show L.length≤i by omega)]];exact⟨by omega,by omega⟩
theorem Zam (L:List Int) (i:Nat):atN L (i:Int)=L.getD i 0:=by unfold atN;rw[if_pos (by omega),Xg]
def ZjK (F:Func):List Code:=[Z3 (Zs F),Z3 (Z1 (Zs F)),Z3 (Z1 (Z1 (Zs F)))]
def aR3 (F:Func):Code:=Z3 (Z3 (Z1 (Z1 (Z1 (Zs F)))))
def ZaU (F:Func):Code:=cIn (cIn (Z1 (Z3 (Z1 (Z1 (Z1 (Zs F)))))))
def Zzv (F:Func):Code:=Z1 (Z1 (Z1 (Z1 (Zs F))))
theorem ZlG:f33.body=some (zg (ZjK f33) (.seq (.seq (aR3 f33) (.block 0 (.loop (ZaU f33)))) (Zzv f33))):=by kernel_rfl
theorem Zqw (a b:Value) (h:Hp):Zh (evL (Zk prog Zf Zo hcV) 100 (ZjK f33) ([a,b]++List.replicate 40 undef,h,[]) ⟨[],[],[]⟩) 7 35 none [a,b,undef,undef,Zm,Zm,.int .u32 0] h []:=by and_intros<;>kernel_rfl
theorem Zvb (a b:Value) (h:Hp) (g:Nat→Value):Zh (evC (Zk prog Zf Zo hcV) 100 false (aR3 f33) ([a,b,undef,undef,Zm,Zm,.int .u32 0]++tl 35 g,h,[]) ⟨[],[],[]⟩) 8 34 none [a,b,undef,undef,Zm,Zm,.int .u32 0,.int .i64 0] h []:=by and_intros<;>kernel_rfl
def sm (A B:List Int) (k i:Int):Int:=u32.wrap (u32.wrap (k+atN A i)+atN B i)
def hu3 (lo:List Value) (y x:List Value×TypeId):Hp:=⟨3,[(lo,tU),y,x]⟩
def hp2 (y x:List Value×TypeId):Hp:=⟨2,[y,x]⟩
def Z0j (w:Nat):List Dec:=match w with | 0=>[cmp true] | 1=>[cmp false,cmp true] | _=>[cmp false,cmp false,cmp true]
def Zt5 (w:Nat) (n n':Nat) (k i:Int):Log:=match w with | 0=>[(decide (i<n),true)] | 1=>[(decide (i<n'),true),(decide (i<n),false)] | _=>[(decide (k>0),true),(decide (i<n'),false),(decide (i<n),false)]
def rP (h:Hp) (p:Option Addr) (n c:Nat):Bool×Bool:=(zP h p n c,true)
theorem ZlH (p q:Option Addr) (n c n' c':Nat) (k i:Int) (x y:List Value×TypeId) (g:Nat→Value):Zh (evC (Zk prog Zf Zo hcV) 100 false (ZaU f33) ([.slice p n c,.slice q n' c',undef,undef,Zm,Zm,.int .u32 k,.int .i64 i]++tl 34 g,hp2 y x,Z0j 0++[cmp true]) ⟨[],[],[]⟩) 8 34 none [.slice p n c,.slice q n' c',undef,undef,Zm,sl 3 0 1 grown,.int .u32 (u32.wrap ((sm (Zn (hp2 y x) p n) (Zn (hp2 y x) q n') k i).tdiv 65536)),.int .i64 (i64.wrap (i+1))] ⟨4,[([.int .u32 ((sm (Zn (hp2 y x) p n) (Zn (hp2 y x) q n') k i).tmod 65536)],tU),([.int .u32 ((sm (Zn (hp2 y x) p n) (Zn (hp2 y x) q n') k i).tmod 65536)],tU),y,x]⟩ ((decide ((65536:Int)=0),false)::rP (hp2 y x) q n' c'::rP (hp2 y x) p n c::Zt5 0 n n' k i):=by and_intros<;>kernel_rfl
theorem ZlI (p q:Option Addr) (n c n' c':Nat) (k i:Int) (x y:List Value×TypeId) (g:Nat→Value):Zh (evC (Zk prog Zf Zo hcV) 100 false (ZaU f33) ([.slice p n c,.slice q n' c',undef,undef,Zm,Zm,.int .u32 k,.int .i64 i]++tl 34 g,hp2 y x,Z0j 1++[cmp true]) ⟨[],[],[]⟩) 8 34 none [.slice p n c,.slice q n' c',undef,undef,Zm,sl 3 0 1 grown,.int .u32 (u32.wrap ((sm (Zn (hp2 y x) p n) (Zn (hp2 y x) q n') k i).tdiv 65536)),.int .i64 (i64.wrap (i+1))] ⟨4,[([.int .u32 ((sm (Zn (hp2 y x) p n) (Zn (hp2 y x) q n') k i).tmod 65536)],tU),([.int .u32 ((sm (Zn (hp2 y x) p n) (Zn (hp2 y x) q n') k i).tmod 65536)],tU),y,x]⟩ ((decide ((65536:Int)=0),false)::rP (hp2 y x) q n' c'::rP (hp2 y x) p n c::Zt5 1 n n' k i):=by and_intros<;>kernel_rfl
theorem ZjL (p q:Option Addr) (n c n' c' z:Nat) (k i:Int) (x y:List Value×TypeId) (lo:List Value) (g:Nat→Value):Zh (evC (Zk prog Zf Zo hcV) 100 false (ZaU f33) ([.slice p n c,.slice q n' c',undef,undef,Zm,sl 2 0 z grown,.int .u32 k,.int .i64 i]++tl 34 g,hu3 lo y x,Z0j 0++[cmp true,at_]) ⟨[],[],[]⟩) 8 34 none [.slice p n c,.slice q n' c',undef,undef,Zm,sl 4 0 (z+1) grown,.int .u32 (u32.wrap ((sm (Zn (hu3 lo y x) p n) (Zn (hu3 lo y x) q n') k i).tdiv 65536)),.int .i64 (i64.wrap (i+1))] ⟨5,[(lo++[.int .u32 ((sm (Zn (hu3 lo y x) p n) (Zn (hu3 lo y x) q n') k i).tmod 65536)],tU),([.int .u32 ((sm (Zn (hu3 lo y x) p n) (Zn (hu3 lo y x) q n') k i).tmod 65536)],tU),([],2*zd),y,x]⟩ ((zK tU (lo,tU) ([.int .u32 ((sm (Zn (hu3 lo y x) p n) (Zn (hu3 lo y x) q n') k i).tmod 65536)],tU) z 0 1,true)::(decide ((65536:Int)=0),false)::rP (hu3 lo y x) q n' c'::rP (hu3 lo y x) p n c::Zt5 0 n n' k i):=by and_intros<;>kernel_rfl
theorem ZjM (p q:Option Addr) (n c n' c' z:Nat) (k i:Int) (x y:List Value×TypeId) (lo:List Value) (g:Nat→Value):Zh (evC (Zk prog Zf Zo hcV) 100 false (ZaU f33) ([.slice p n c,.slice q n' c',undef,undef,Zm,sl 2 0 z grown,.int .u32 k,.int .i64 i]++tl 34 g,hu3 lo y x,Z0j 1++[cmp true,at_]) ⟨[],[],[]⟩) 8 34 none [.slice p n c,.slice q n' c',undef,undef,Zm,sl 4 0 (z+1) grown,.int .u32 (u32.wrap ((sm (Zn (hu3 lo y x) p n) (Zn (hu3 lo y x) q n') k i).tdiv 65536)),.int .i64 (i64.wrap (i+1))] ⟨5,[(lo++[.int .u32 ((sm (Zn (hu3 lo y x) p n) (Zn (hu3 lo y x) q n') k i).tmod 65536)],tU),([.int .u32 ((sm (Zn (hu3 lo y x) p n) (Zn (hu3 lo y x) q n') k i).tmod 65536)],tU),([],2*zd),y,x]⟩ ((zK tU (lo,tU) ([.int .u32 ((sm (Zn (hu3 lo y x) p n) (Zn (hu3 lo y x) q n') k i).tmod 65536)],tU) z 0 1,true)::(decide ((65536:Int)=0),false)::rP (hu3 lo y x) q n' c'::rP (hu3 lo y x) p n c::Zt5 1 n n' k i):=by and_intros<;>kernel_rfl
theorem ZjN (p q:Option Addr) (n c n' c' z:Nat) (k i:Int) (x y:List Value×TypeId) (lo:List Value) (g:Nat→Value):Zh (evC (Zk prog Zf Zo hcV) 100 false (ZaU f33) ([.slice p n c,.slice q n' c',undef,undef,Zm,sl 2 0 z grown,.int .u32 k,.int .i64 i]++tl 34 g,hu3 lo y x,Z0j 2++[cmp true,at_]) ⟨[],[],[]⟩) 8 34 none [.slice p n c,.slice q n' c',undef,undef,Zm,sl 4 0 (z+1) grown,.int .u32 (u32.wrap ((sm (Zn (hu3 lo y x) p n) (Zn (hu3 lo y x) q n') k i).tdiv 65536)),.int .i64 (i64.wrap (i+1))] ⟨5,[(lo++[.int .u32 ((sm (Zn (hu3 lo y x) p n) (Zn (hu3 lo y x) q n') k i).tmod 65536)],tU),([.int .u32 ((sm (Zn (hu3 lo y x) p n) (Zn (hu3 lo y x) q n') k i).tmod 65536)],tU),([],2*zd),y,x]⟩ ((zK tU (lo,tU) ([.int .u32 ((sm (Zn (hu3 lo y x) p n) (Zn (hu3 lo y x) q n') k i).tmod 65536)],tU) z 0 1,true)::(decide ((65536:Int)=0),false)::rP (hu3 lo y x) q n' c'::rP (hu3 lo y x) p n c::Zt5 2 n n' k i):=by and_intros<;>kernel_rfl
theorem Zqx (p q:Option Addr) (n c n' c':Nat) (v:Value) (k i:Int) (h:Hp) (g:Nat→Value):Zh (evC (Zk prog Zf Zo hcV) 100 false (ZaU f33) ([.slice p n c,.slice q n' c',undef,undef,Zm,v,.int .u32 k,.int .i64 i]++tl 34 g,h,[cmp false,cmp false,cmp false]) ⟨[],[],[]⟩) 8 34 (some (some 0)) [.slice p n c,.slice q n' c',undef,undef,Zm,v,.int .u32 k,.int .i64 i] h [(decide (k>0),false),(decide (i<n'),false),(decide (i<n),false)]:=by and_intros<;>kernel_rfl
theorem Zqy (a b:Value) (z:Nat) (k i:Int) (x y:List Value×TypeId) (lo:List Value) (g:Nat→Value):Zh (evC (Zk prog Zf Zo hcV) 100 false (Zzv f33) ([a,b,undef,undef,Zm,sl 2 0 z grown,.int .u32 k,.int .i64 i]++tl 34 g,hu3 lo y x,[]) ⟨[],[],[]⟩) 5 37 (some none) [a,b,undef,undef,sl 2 0 (Zj (Zy lo 0 z)) (Zj (Zy lo 0 z))] (hu3 lo y x) [(ZaX tU lo 0 z grown,true)]:=by and_intros<;>kernel_rfl
theorem ZjO (p q:Option Addr) (n c n' c':Nat) (h:Hp):Zh (evC (Zk prog Zf Zo hcV) 100 false (Zs f33) ([.slice p n c,.slice q n' c']++List.replicate 40 undef,h,[cmp false,cmp false,cmp false]) ⟨[],[],[]⟩) 5 37 (some none) [.slice p n c,.slice q n' c',undef,undef,Zm] h [(decide ((0:Int)>0),false),(decide ((0:Int)<n'),false),(decide ((0:Int)<n),false)]:=by and_intros<;>kernel_rfl
theorem zn {n:Int}(h0:0≤n) (h1:n<4294967296):u32.wrap n=n:=by simp [IntKind.wrap,IntKind.bits,IntKind.signed];omega
def dgN (L:List Int) (i:Nat):Nat:=(L.getD i 0).toNat
theorem z6 {L:List Int}(h:∀ x∈L,Dg 65536 x) (i:Nat):dgN L i<65536∧((dgN L i:Nat):Int)=L.getD i 0:=by
 have:=Zek h i;unfold dgN;omega
theorem Zel {L:List Int}{i:Nat}(h:L.length≤i):dgN L i=0:=by unfold dgN;simp [List.getD,List.getElem?_eq_none h]
theorem Z5G {A B:List Int}(hA:∀ x∈A,Dg 65536 x) (hB:∀ x∈B,Dg 65536 x) {k:Nat}(hk:k≤1) (i:Nat):sm A B k i=((k+dgN A i+dgN B i:Nat):Int):=by
 have h1:=z6 hA i;have h2:=z6 hB i;unfold sm;rw[Zam,Zam,← h1.2,← h2.2,zn (n:=(k:Int)+_) (by omega) (by omega),zn (by omega) (by omega)];omega
theorem Zf1 (a:Nat):((a:Int)).tmod 65536=((a % 65536:Nat):Int):=by rw[Int.tmod_eq_emod_of_nonneg (by omega)];omega
theorem Zf2 {a:Nat}(h:a<4294967296):u32.wrap ((a:Int).tdiv 65536)=((a/65536:Nat):Int):=by
 rw[Int.tdiv_eq_ediv_of_nonneg (by omega),zn (by omega) (by omega)];omega
theorem okW {p:Bool×Bool}{l:Log}(h:p.1=p.2) (hl:Zx l):Zx (p::l):=Zi h hl
section
variable {x y : List Value × TypeId} {p q : Option Addr} {n c n' c' : Nat} {A B : List Int}
theorem Zc8 (NA:Nu 0 x p n c A) (NB:Nu 1 y q n' c' B) {h:Hp}(h0:h.blk? 0=some x) (h1:h.blk? 1=some y):∀ i z,(⟨2,[y,x]⟩:Hp).blk? i=some z→h.blk? i=some z∧∀ v∈z.1,still v=true:=fun i z hz=>by
 rcases Zl8 hz with ⟨rfl,rfl⟩ | ⟨rfl,rfl⟩
 ·exact⟨h0,NA.st⟩
 ·exact⟨h1,NB.st⟩
theorem ZjP (NA:Nu 0 x p n c A) (NB:Nu 1 y q n' c' B) (hA:∀ x∈A,Dg 65536 x) (hB:∀ x∈B,Dg 65536 x) {k i:Nat}{O:List Int}(hk:k≤1) (hi:i<1073741823) (hO:O.length=i) (hgo:i<n∨i<n'∨0<k) {Y:Lf}
  (hY:(i=0∧k=0∧(∃ g,Y.1=[.slice p n c,.slice q n' c',undef,undef,Zm,Zm,.int .u32 (k:Nat),.int .i64 (i:Nat)]++tl 34 g)∧Y.2.1=hp2 y x)∨(0<i∧(∃ g,Y.1=[.slice p n c,.slice q n' c',undef,undef,Zm,sl 2 0 i grown,.int .u32 (k:Nat),.int .i64 (i:Nat)]++tl 34 g)∧Y.2.1=hu3 (wU O) y x)):
  RunsW (Zk prog Zf Zo hcV) (ZaU f33) Y fun e z=>e=none∧(∃ g,z.1=[.slice p n c,.slice q n' c',undef,undef,Zm,sl 2 0 (i+1) grown,.int .u32 ((k+dgN A i+dgN B i)/65536:Nat),.int .i64 ((i+1:Nat):Int)]++tl 34 g)∧z.2.1=hu3 (wU (O++[(((k+dgN A i+dgN B i) % 65536:Nat):Int)])) y x:=by
 obtain⟨t,h',s⟩:=Y;have hd1:=(z6 hA i).1;have hd2:=(z6 hB i).1;have es:=Z5G hA hB hk i;have e1:(sm A B k i).tmod 65536=(((k+dgN A i+dgN B i) % 65536:Nat):Int):=by rw[es,Zf1]
 have e2:u32.wrap ((sm A B k i).tdiv 65536)=(((k+dgN A i+dgN B i)/65536:Nat):Int):=by rw[es,Zf2 (by omega)]
 have e3:i64.wrap ((i:Int)+1)=((i+1:Nat):Int):=by rw[Zv (by omega) (by omega)];omega
 rcases hY with ⟨h0,k0,⟨g,ht⟩,hh⟩ | ⟨h0,⟨g,ht⟩,hh⟩
 ·simp only at ht hh;subst ht hh;have r0:=NA.row (hp2 y x) rfl;have r1:=NB.row (hp2 y x) rfl;have fin:RunsW (Zk prog Zf Zo hcV) (ZaU f33) ([.slice p n c,.slice q n' c',undef,undef,Zm,Zm,.int .u32 (k:Nat),.int .i64 (i:Nat)]++tl 34 g,hp2 y x,s) fun e z=>e=none∧(∃ g,z.1=[.slice p n c,.slice q n' c',undef,undef,Zm,sl 3 0 1 grown,.int .u32 (u32.wrap ((sm A B k i).tdiv 65536)),.int .i64 (i64.wrap ((i:Int)+1))]++tl 34 g)∧z.2.1=⟨4,[([.int .u32 ((sm A B k i).tmod 65536)],tU),([.int .u32 ((sm A B k i).tmod 65536)],tU),y,x]⟩:=by
   by_cases ha:i<n
   ·have:=Zc (Zg Zd Zw) (s0:=s) (ZlH p q n c n' c' k i x y g) (okW rfl (okW r1.1 (okW r0.1 (Zt (Xa (by omega))))));rw[r0.2,r1.2] at this;exact this
   ·have:=Zc (Zg Zd Zw) (s0:=s) (ZlI p q n c n' c' k i x y g) (okW rfl (okW r1.1 (okW r0.1 (okW (Xa (by omega)) (Zt (Xb (by omega)))))));rw[r0.2,r1.2] at this;exact this
  have hO':O=[]:=List.length_eq_zero_iff.1 (by omega);rw[e1,e2,e3] at fin;have:=fin.kept (k:=2) (b:=3) (base:=[y,x]) (y:=([.int .u32 (((k+dgN A i+dgN B i) % 65536:Nat):Int)],tU)) (front':=[.slice p n c,.slice q n' c',undef,undef,Zm,sl 2 0 1 grown,.int .u32 ((k+dgN A i+dgN B i)/65536:Nat),.int .i64 ((i+1:Nat):Int)]) rfl
   (by simp only[List.map_cons,List.map_nil,NA.rn (f:=zH 2 3) rfl,NB.rn (f:=zH 2 3) rfl];kernel_rfl) (Zc8 NA NB rfl rfl) rfl (by omega) (fun v hv=>by rw[List.mem_singleton.1 hv];rfl) (fun v hv=>by
    simp only[List.mem_cons,List.not_mem_nil,or_false] at hv;rcases hv with rfl | rfl | rfl | rfl | rfl | rfl | rfl | rfl
    ·exact NA.lt (by omega)
    ·exact NB.lt (by omega)
    all_goals rfl)
  refine this.mono fun e z hz=> ?_;obtain⟨rfl,⟨g',q1⟩,q2⟩:=hz;subst hO' h0;exact⟨rfl,⟨g',q1⟩,q2⟩
 ·simp only at ht hh;subst ht hh;have r0:=NA.row (hu3 (wU O) y x) rfl;have r1:=NB.row (hu3 (wU O) y x) rfl;have hchk:zK tU (wU O,tU) ([.int .u32 ((sm A B k i).tmod 65536)],tU) i 0 1=true:=
   Zbc (L:=O) (M:=[(sm A B k i).tmod 65536]) hO.symm (show 0<1 by omega) (by show O.length+1≤_;omega)
  have fin:RunsW (Zk prog Zf Zo hcV) (ZaU f33) ([.slice p n c,.slice q n' c',undef,undef,Zm,sl 2 0 i grown,.int .u32 (k:Nat),.int .i64 (i:Nat)]++tl 34 g,hu3 (wU O) y x,s) fun e z=>e=none∧(∃ g,z.1=[.slice p n c,.slice q n' c',undef,undef,Zm,sl 4 0 (i+1) grown,.int .u32 (u32.wrap ((sm A B k i).tdiv 65536)),.int .i64 (i64.wrap ((i:Int)+1))]++tl 34 g)∧z.2.1=⟨5,[(wU O++[.int .u32 ((sm A B k i).tmod 65536)],tU),([.int .u32 ((sm A B k i).tmod 65536)],tU),([],2*zd),y,x]⟩:=by
   by_cases ha:i<n
   ·have hl:Zx (Zt5 0 n n' k i):=Zt (Xa (by omega));have:=Zc (Zg Zd Zw) (s0:=s) (ZjL p q n c n' c' i k i x y (wU O) g) (by rw[r0.2,r1.2];exact okW hchk (okW rfl (okW r1.1 (okW r0.1 hl))));rw[r0.2,r1.2] at this;exact this
   ·by_cases hb:i<n'
    ·have hl:Zx (Zt5 1 n n' k i):=okW (Xa (by omega)) (Zt (Xb (by omega)));have:=Zc (Zg Zd Zw) (s0:=s) (ZjM p q n c n' c' i k i x y (wU O) g) (by rw[r0.2,r1.2];exact okW hchk (okW rfl (okW r1.1 (okW r0.1 hl))));rw[r0.2,r1.2] at this;exact this
    ·have hl:Zx (Zt5 2 n n' k i):=okW (Xa (by omega)) (okW (Xb (by omega)) (Zt (Xb (by omega))));have:=Zc (Zg Zd Zw) (s0:=s) (ZjN p q n c n' c' i k i x y (wU O) g) (by rw[r0.2,r1.2];exact okW hchk (okW rfl (okW r1.1 (okW r0.1 hl))));rw[r0.2,r1.2] at this;exact this
  rw[e1,e2,e3] at fin;have ew:wU O++[.int .u32 (((k+dgN A i+dgN B i) % 65536:Nat):Int)]=wU (O++[(((k+dgN A i+dgN B i) % 65536:Nat):Int)]):=by rw[ZY];rfl
  rw[ew] at fin;have:=fin.kept (k:=2) (b:=4) (base:=[y,x]) (y:=(wU (O++[(((k+dgN A i+dgN B i) % 65536:Nat):Int)]),tU)) (front':=[.slice p n c,.slice q n' c',undef,undef,Zm,sl 2 0 (i+1) grown,.int .u32 ((k+dgN A i+dgN B i)/65536:Nat),.int .i64 ((i+1:Nat):Int)]) rfl
   (by simp only[List.map_cons,List.map_nil,NA.rn (f:=zH 2 4) rfl,NB.rn (f:=zH 2 4) rfl];kernel_rfl) (Zc8 NA NB rfl rfl) rfl (by omega) (ZF _) (fun v hv=>by
    simp only[List.mem_cons,List.not_mem_nil,or_false] at hv;rcases hv with rfl | rfl | rfl | rfl | rfl | rfl | rfl | rfl
    ·exact NA.lt (by omega)
    ·exact NB.lt (by omega)
    all_goals rfl)
  exact this
def aSt (x y:List Value×TypeId) (p q:Option Addr) (n c n' c':Nat) (O:List Int) (i k:Nat) (Y:Lf):Prop:=
 (i=0∧k=0∧(∃ g,Y.1=[.slice p n c,.slice q n' c',undef,undef,Zm,Zm,.int .u32 (k:Nat),.int .i64 (i:Nat)]++tl 34 g)∧Y.2.1=hp2 y x)∨(0<i∧(∃ g,Y.1=[.slice p n c,.slice q n' c',undef,undef,Zm,sl 2 0 i grown,.int .u32 (k:Nat),.int .i64 (i:Nat)]++tl 34 g)∧Y.2.1=hu3 (wU O) y x)
def Z9v (x y:List Value×TypeId) (p q:Option Addr) (n c n' c':Nat) (A B:List Int) (m:Nat) (Y:Lf):Prop:=
 ∃ (i k:Nat) (O:List Int),O.length=i∧m=max n n'+1-i∧i≤max n n'+1∧k≤1∧(i=max n n'+1→k=0)∧(∀ x∈O,Dg 65536 x)∧vb 65536 O+65536^O.length*k=vb 65536 (A.take i)+vb 65536 (B.take i)∧aSt x y p q n c n' c' O i k Y
def Zvc (x y:List Value×TypeId) (p q:Option Addr) (n c n' c':Nat) (A B:List Int) (Y:Lf):Prop:=
 ∃ (i:Nat) (O:List Int),O.length=i∧i≤max n n'+1∧(∀ x∈O,Dg 65536 x)∧vb 65536 O=vb 65536 A+vb 65536 B∧n≤i∧n'≤i∧aSt x y p q n c n' c' O i 0 Y
theorem ZlJ (NA:Nu 0 x p n c A) (NB:Nu 1 y q n' c' B) (lA:A.length=n) (lB:B.length=n') (hA:∀ x∈A,Dg 65536 x) (hB:∀ x∈B,Dg 65536 x) (hn:max n n'+2<1073741824) (g:Nat→Value):
  RunsW (Zk prog Zf Zo hcV) (.block 0 (.loop (ZaU f33))) ([.slice p n c,.slice q n' c',undef,undef,Zm,Zm,.int .u32 0,.int .i64 0]++tl 34 g,hp2 y x,[]) fun e Y=>match e with | none=>Zvc x y p q n c n' c' A B Y | some none=>False | some (some _)=>False:=by
 refine RunsW.forLoop (P:=Zvc x y p q n c n' c' A B) (R:=fun _=>False) (Z9v x y p q n c n' c' A B) ?_ (n:=max n n'+1) ⟨0,0,[],rfl,by omega,by omega,by omega,by omega,(fun x hx=>by cases hx),by simp [vb],.inl ⟨rfl,rfl,⟨g,rfl⟩,rfl⟩⟩;rintro m Y ⟨i,k,O,hO,hm,hi,hk,hk0,hOd,hval,hY⟩;by_cases hgo:i<n∨i<n'∨0<k
 ·have hmx:i≤max n n':=by
   rcases Nat.lt_or_ge i (max n n'+1) with h | h
   ·omega
   ·have:k=0:=hk0 (by omega);omega
  have r:=ZjP NA NB hA hB hk (by omega) hO hgo hY;refine r.mono fun e z hz=> ?_;obtain⟨rfl,z1,z2⟩:=hz;have d1:=(z6 hA i).1;have d2:=(z6 hB i).1;refine⟨max n n'+1-(i+1),by omega,i+1,(k+dgN A i+dgN B i)/65536,O++[(((k+dgN A i+dgN B i) % 65536:Nat):Int)],by simp [hO],rfl,by omega,by omega,fun he=> ?_,fun x hx=> ?_,?_,.inr ⟨by omega,z1,z2⟩⟩
  ·have z1:dgN A i=0:=Zel (by omega);have z2:dgN B i=0:=Zel (by omega);omega
  ·rcases List.mem_append.1 hx with hx | hx
   ·exact hOd x hx
   ·rw[List.mem_singleton.1 hx];exact⟨by omega,by omega⟩
  ·have:=ZlC (a:=dgN A i) (c:=dgN B i) hval;rw[Za1,Za1,← hO];rw[List.length_append];rw[hO] at this ⊢;exact this
 ·have hk:k=0:=by omega
  subst hk;have ha:n≤i:=by omega
  have hb:n'≤i:=by omega
  have out:∀ (v:Value) (h:Hp) (g:Nat→Value) (s:List Dec),RunsW (Zk prog Zf Zo hcV) (ZaU f33) ([.slice p n c,.slice q n' c',undef,undef,Zm,v,.int .u32 ((0:Nat):Int),.int .i64 (i:Nat)]++tl 34 g,h,s) fun e z=>e=some (some 0)∧(∃ g,z.1=[.slice p n c,.slice q n' c',undef,undef,Zm,v,.int .u32 ((0:Nat):Int),.int .i64 (i:Nat)]++tl 34 g)∧z.2.1=h:=fun v h g s=>
   Zc (Zg Zd Zw) (Zqx p q n c n' c' v 0 i h g) (okW rfl (okW (Xb (by omega)) (Zt (Xb (by omega)))))
  have hv:vb 65536 O=vb 65536 A+vb 65536 B:=by
   rw[List.take_of_length_le (by omega),List.take_of_length_le (by omega)] at hval;omega
  obtain⟨t,h',s⟩:=Y;rcases hY with ⟨h0,k0,⟨g,ht⟩,hh⟩ | ⟨h0,⟨g,ht⟩,hh⟩
  ·simp only at ht hh;subst ht hh;refine (out Zm _ g s).mono fun e z hz=> ?_;obtain⟨rfl,z1,z2⟩:=hz;exact⟨rfl,i,O,hO,hi,hOd,hv,ha,hb,.inl ⟨h0,rfl,z1,z2⟩⟩
  ·simp only at ht hh;subst ht hh;refine (out (sl 2 0 i grown) _ g s).mono fun e z hz=> ?_;obtain⟨rfl,z1,z2⟩:=hz;exact⟨rfl,i,O,hO,hi,hOd,hv,ha,hb,.inr ⟨h0,z1,z2⟩⟩
theorem ZlK (NA:Nu 0 x p n c A) (NB:Nu 1 y q n' c' B) (lA:A.length=n) (lB:B.length=n') (hA:∀ x∈A,Dg 65536 x) (hB:∀ x∈B,Dg 65536 x) (hn:max n n'+2<1073741824) (h0:0<n∨0<n') {V:Nat}(hV:V=vb 65536 A+vb 65536 B):
  RunsW (Zk prog Zf Zo hcV) (zg (ZjK f33) (.seq (.seq (aR3 f33) (.block 0 (.loop (ZaU f33)))) (Zzv f33))) ([.slice p n c,.slice q n' c']++List.replicate 40 undef,hp2 y x,[]) fun e z=>(e=none∨e=some none)∧ZW prog f33 z.1 z.2.1=some (sl 2 0 (d16 V).length (d16 V).length)∧∃ r,z.2.1.blk? 2=some (wU (d16 V)++r,tU):=by
 refine Zz (Zg Zd Zw) (Zqw _ _ _) (fun x hx=>by cases hx) fun g=> ?_;refine Zg6 (Zc (Zg Zd Zw) (Zvb _ _ _ g) (fun x hx=>by cases hx)) (fun e y he=>by cases he.1) (P2:=fun e Y=>match e with | none=>Zvc x y p q n c n' c' A B Y | some none=>False | some (some _)=>False) ?_ ?_ ?_
 ·rintro⟨t,h',s⟩ ⟨_,⟨g',ht⟩,hh⟩;simp only at ht hh;subst ht hh;exact RunsW.script (ZlJ NA NB lA lB hA hB hn g')
 ·intro e y he
  match e,he with
  | none,he=>exact he
  | some id,he=>exact he
 ·rintro⟨t,h',s⟩ ⟨i,O,hO,hi,hOd,hv,ha,hb,hY⟩;rcases hY with ⟨e0,_⟩ | ⟨_,⟨g',ht⟩,hh⟩
  ·omega
  ·simp only at ht hh;subst ht hh;have hrow:ZaX tU (wU O) 0 i grown=true:=by
    rw[← hO];exact Zal (fun x hx=>⟨(hOd x hx).1,by have:=(hOd x hx).2;omega⟩) (by omega) (Zzu _)
   refine (Zc (Zg Zd Zw) (Zqy _ _ i 0 i x y (wU O) g') (Zt hrow)).mono fun e z he=> ?_;obtain⟨rfl,⟨g2,e1⟩,e2⟩:=he;have et:Zj (Zy (wU O) 0 i)=(d16 V).length:=by
    rw[← hO,ZaR,Zas (by omega) hOd,hv,← hV];rfl
   refine⟨.inr rfl,?_,?_⟩
   ·rw[e1,e2,et];rfl
   ·rw[e2];refine⟨wU (O.drop (Zj O)),?_⟩;have e3:wU (d16 V)++wU (O.drop (Zj O))=wU O:=by
     unfold d16;rw[hV,← hv,← zf (by omega) _ hOd,← ZY,List.take_append_drop]
    rw[e3];rfl
end
theorem Zc9 {x y:List Value×TypeId}{p q:Option Addr}{n c n' c':Nat}{A B:List Int}(NA:Nu 0 x p n c A) (NB:Nu 1 y q n' c' B):(hp2 y x).rows:=by
 refine⟨rfl,fun b z hz=> ?_⟩;rcases Zl8 hz with ⟨rfl,rfl⟩ | ⟨rfl,rfl⟩
 ·exact⟨NA.ros.1,NA.lt0,NA.ros.2⟩
 ·exact⟨NB.ros.1,NB.lt0,NB.ros.2⟩
theorem ZcA {x y:List Value×TypeId}{h:Hp}{a b:Nat}(hx:Zaa x.2=false→∃ z r,h.blk? a=some z∧Zaa z.2=false∧rt z.2=rt x.2∧z.1=x.1++r) (hy:Zaa y.2=false→∃ z r,h.blk? b=some z∧Zaa z.2=false∧rt z.2=rt y.2∧z.1=y.1++r):(hp2 y x).fits (Zed a b) h:=by
 intro i z hz ht;rcases Zl8 hz with ⟨rfl,rfl⟩ | ⟨rfl,rfl⟩
 ·exact hx ht
 ·exact hy ht
theorem ZjQ:f33.body=some (Zs f33):=by kernel_rfl
def ZV (h:Hp) (p q:Option Addr) (n c n' c':Nat):Bool:=zP h p n c && zP h q n' c' && dgB (Zn h p n) && dgB (Zn h q n') && Nat.blt (max n n'+2) 1073741824
theorem ZcB {h:Hp}{p q:Option Addr}{n c n' c':Nat}(hr:ZV h p q n c n' c'=true):zP h p n c=true∧zP h q n' c'=true∧(∀ x∈Zn h p n,Dg 65536 x)∧(∀ x∈Zn h q n',Dg 65536 x)∧max n n'+2<1073741824:=by
 unfold ZV at hr;simp only[Xh] at hr;obtain⟨⟨⟨⟨h1,h2⟩,h3⟩,h4⟩,h5⟩:=hr;exact⟨h1,h2,Zby h3,Zby h4,Zl.1 h5⟩
def vO (h:Hp) (p:Option Addr) (n:Nat):Nat:=vb 65536 (Zn h p n)
theorem Zbd (A:Nat):∀ x∈d16 A,Dg 65536 x:=Zl9 (by omega) A
def Zdh (V:Nat) (h:Hp) (s:List Dec) (lg:Log):Option (Value×Hp×List Dec×Log):=some (sl h.n 0 (d16 V).length (d16 V).length,h.push (wU (d16 V)) tU,s,lg)
def Zqz:Zab:=fun vals h s=>
 match vals,s with
 | [.slice p n c,.slice q n' c'],.inr (.inr (.inr (.inl d)))::s'=>
  match d with
  | true=>Zdh (vO h p n+vO h q n') h s' [(ZV h p q n c n' c',true),(decide (0<n∨0<n'),true)]
  | false=>some (Zm,h,s',[(ZV h p q n c n' c',true),(decide (0<n∨0<n'),false)])
 | _,_=>none
theorem Zf3:Z7 33 Zqz:=by
 intro vals h s v h' s' lg hg hl m B w E hv;unfold Zqz at hg;split at hg
 ·rename_i p n c q n' c' d s2;split at hg
  ·unfold Zdh at hg;cases hg;have q1:=hl _ (Xe);have q2:=hl _ (Xd _ Xf);simp only[Xi] at q1 q2;obtain⟨r1,r2,d1,d2,hn⟩:=ZcB q1;obtain⟨x,p',a,NA,eA,fA⟩:=ZbM 0 r1;obtain⟨y,q',b,NB,eB,fB⟩:=ZbM 1 r2;have r:=ZlK NA NB (zV r1) (zV r2) d1 d2 hn q2 rfl;have:=ZK (T:=Zk prog Zf Zo hcV) func33 ZlG (Zc9 NA NB) (vals:=[.slice p' n c,.slice q' n' c']) (fun v hv=>by
    simp only[List.mem_cons,List.not_mem_nil,or_false] at hv;rcases hv with rfl | rfl
    ·exact NA.lt (by show 0<2;omega)
    ·exact NB.lt (by show 1<2;omega)) (k:=2) (cs:=wU (d16 (vO h p n+vO h q n'))) (ty:=tU) (Zbn _) (by kernel_rfl) r (by rfl) E (s:=Zed a b) (ZcA fA fB)
   simp only[List.map_cons,List.map_nil] at this;rw[eA _ rfl,eB _ rfl] at this;exact this
  ·cases hg;have q1:=hl _ (Xe);have q2:=hl _ (Xd _ Xf);simp only[decide_eq_false_iff_not] at q1 q2;obtain⟨r1,r2,d1,d2,hn⟩:=ZcB q1;obtain⟨x,p',a,NA,eA,fA⟩:=ZbM 0 r1;obtain⟨y,q',b,NB,eB,fB⟩:=ZbM 1 r2;have hr:Runs (Zk prog Zf Zo hcV) (Zs f33) ([.slice p' n c,.slice q' n' c']++List.replicate 40 undef,hp2 y x,[]) fun e z=>(e=none∨e=some none)∧ZW prog f33 z.1 z.2.1=some Zm:=by
    refine (Zb (Zg Zd Zw) (ZjO p' q' n c n' c' _) (okW rfl (okW (Xb (by omega)) (Zt (Xb (by omega)))))).mono fun e z he=> ?_;obtain⟨rfl,⟨g,e2⟩,e3⟩:=he;refine⟨.inr rfl,?_⟩;rw[e2,e3];rfl
   have:=Z9 (T:=Zk prog Zf Zo hcV) func33 ZjQ (Zc9 NA NB) (vals:=[.slice p' n c,.slice q' n' c']) (fun v hv=>by
    simp only[List.mem_cons,List.not_mem_nil,or_false] at hv;rcases hv with rfl | rfl
    ·exact NA.lt (by show 0<2;omega)
    ·exact NB.lt (by show 1<2;omega)) (v:=Zm) (by rfl) hr.w E (s:=Zed a b) (ZcA fA fB)
   simp only[List.map_cons,List.map_nil] at this;rw[eA _ rfl,eB _ rfl] at this;exact this
 ·cases hg
theorem ZlL:f71.body=some (zg (ZjK f71) (.seq (.seq (aR3 f71) (.block 0 (.loop (ZaU f71)))) (Zzv f71))):=by kernel_rfl
theorem ZjR:f71.body=some (Zs f71):=by kernel_rfl
theorem Zq0 (a b:Value) (h:Hp):Zh (evL (Zk prog Zf Zo hcV) 100 (ZjK f71) ([a,b]++List.replicate 33 undef,h,[]) ⟨[],[],[]⟩) 7 28 none [a,b,undef,undef,Zm,Zm,.int .u32 0] h []:=by and_intros<;>kernel_rfl
theorem Zvd (a b:Value) (h:Hp) (g:Nat→Value):Zh (evC (Zk prog Zf Zo hcV) 100 false (aR3 f71) ([a,b,undef,undef,Zm,Zm,.int .u32 0]++tl 28 g,h,[]) ⟨[],[],[]⟩) 8 27 none [a,b,undef,undef,Zm,Zm,.int .u32 0,.int .i64 0] h []:=by and_intros<;>kernel_rfl
def df (A B:List Int) (k i:Int):Int:=u32.wrap (u32.wrap (u32.wrap (65536+atN A i)-atN B i)-k)
theorem Zq1 (p q:Option Addr) (n c n' c':Nat) (k i:Int) (x y:List Value×TypeId) (g:Nat→Value):Zh (evC (Zk prog Zf Zo hcV) 100 false (ZaU f71) ([.slice p n c,.slice q n' c',undef,undef,Zm,Zm,.int .u32 k,.int .i64 i]++tl 27 g,hp2 y x,[cmp true,cmp true]) ⟨[],[],[]⟩) 8 27 none [.slice p n c,.slice q n' c',undef,undef,Zm,sl 3 0 1 grown,.int .u32 (u32.wrap (1-u32.wrap ((df (Zn (hp2 y x) p n) (Zn (hp2 y x) q n') k i).tdiv 65536))),.int .i64 (i64.wrap (i+1))] ⟨4,[([.int .u32 ((df (Zn (hp2 y x) p n) (Zn (hp2 y x) q n') k i).tmod 65536)],tU),([.int .u32 ((df (Zn (hp2 y x) p n) (Zn (hp2 y x) q n') k i).tmod 65536)],tU),y,x]⟩ [(decide ((65536:Int)=0),false),rP (hp2 y x) q n' c',rP (hp2 y x) p n c,(decide (i<n),true)]:=by and_intros<;>kernel_rfl
theorem ZlM (p q:Option Addr) (n c n' c' z:Nat) (k i:Int) (x y:List Value×TypeId) (lo:List Value) (g:Nat→Value):Zh (evC (Zk prog Zf Zo hcV) 100 false (ZaU f71) ([.slice p n c,.slice q n' c',undef,undef,Zm,sl 2 0 z grown,.int .u32 k,.int .i64 i]++tl 27 g,hu3 lo y x,[cmp true,cmp true,at_]) ⟨[],[],[]⟩) 8 27 none [.slice p n c,.slice q n' c',undef,undef,Zm,sl 4 0 (z+1) grown,.int .u32 (u32.wrap (1-u32.wrap ((df (Zn (hu3 lo y x) p n) (Zn (hu3 lo y x) q n') k i).tdiv 65536))),.int .i64 (i64.wrap (i+1))] ⟨5,[(lo++[.int .u32 ((df (Zn (hu3 lo y x) p n) (Zn (hu3 lo y x) q n') k i).tmod 65536)],tU),([.int .u32 ((df (Zn (hu3 lo y x) p n) (Zn (hu3 lo y x) q n') k i).tmod 65536)],tU),([],2*zd),y,x]⟩ [(zK tU (lo,tU) ([.int .u32 ((df (Zn (hu3 lo y x) p n) (Zn (hu3 lo y x) q n') k i).tmod 65536)],tU) z 0 1,true),(decide ((65536:Int)=0),false),rP (hu3 lo y x) q n' c',rP (hu3 lo y x) p n c,(decide (i<n),true)]:=by and_intros<;>kernel_rfl
theorem Zq2 (p q:Option Addr) (n c n' c':Nat) (v:Value) (k i:Int) (h:Hp) (g:Nat→Value):Zh (evC (Zk prog Zf Zo hcV) 100 false (ZaU f71) ([.slice p n c,.slice q n' c',undef,undef,Zm,v,.int .u32 k,.int .i64 i]++tl 27 g,h,[cmp false]) ⟨[],[],[]⟩) 8 27 (some (some 0)) [.slice p n c,.slice q n' c',undef,undef,Zm,v,.int .u32 k,.int .i64 i] h [(decide (i<n),false)]:=by and_intros<;>kernel_rfl
theorem Zq3 (a b:Value) (z:Nat) (k i:Int) (x y:List Value×TypeId) (lo:List Value) (g:Nat→Value):Zh (evC (Zk prog Zf Zo hcV) 100 false (Zzv f71) ([a,b,undef,undef,Zm,sl 2 0 z grown,.int .u32 k,.int .i64 i]++tl 27 g,hu3 lo y x,[]) ⟨[],[],[]⟩) 5 30 (some none) [a,b,undef,undef,sl 2 0 (Zj (Zy lo 0 z)) (Zj (Zy lo 0 z))] (hu3 lo y x) [(ZaX tU lo 0 z grown,true)]:=by and_intros<;>kernel_rfl
theorem ZjS (p q:Option Addr) (n c n' c':Nat) (h:Hp):Zh (evC (Zk prog Zf Zo hcV) 100 false (Zs f71) ([.slice p n c,.slice q n' c']++List.replicate 33 undef,h,[cmp false]) ⟨[],[],[]⟩) 5 30 (some none) [.slice p n c,.slice q n' c',undef,undef,Zm] h [(decide ((0:Int)<n),false)]:=by and_intros<;>kernel_rfl
def dfN (A B:List Int) (k i:Nat):Nat:=65536+dgN A i-dgN B i-k
theorem Z0k {A B:List Int}(hA:∀ x∈A,Dg 65536 x) (hB:∀ x∈B,Dg 65536 x) {k:Nat}(hk:k≤1) (i:Nat):df A B k i=((dfN A B k i:Nat):Int)∧dfN A B k i<131072∧dfN A B k i+dgN B i+k=65536+dgN A i:=by
 have h1:=z6 hA i;have h2:=z6 hB i;unfold df dfN;rw[Zam,Zam,← h1.2,← h2.2,zn (n:=65536+_) (by omega) (by omega),zn (n:=65536+_-_) (by omega) (by omega),zn (by omega) (by omega)];omega
theorem Z0l {d:Nat}(h:d<131072):u32.wrap (1-u32.wrap ((d:Int).tdiv 65536))=((1-d/65536:Nat):Int):=by
 rw[Zf2 (by omega),zn (by omega) (by omega)];omega
section
variable {x y : List Value × TypeId} {p q : Option Addr} {n c n' c' : Nat} {A B : List Int}
theorem ZjT (NA:Nu 0 x p n c A) (NB:Nu 1 y q n' c' B) (hA:∀ x∈A,Dg 65536 x) (hB:∀ x∈B,Dg 65536 x) {k i:Nat}{O:List Int}(hk:k≤1) (hi:i<1073741823) (hO:O.length=i) (hgo:i<n) {Y:Lf}
  (hY:(i=0∧k=0∧(∃ g,Y.1=[.slice p n c,.slice q n' c',undef,undef,Zm,Zm,.int .u32 (k:Nat),.int .i64 (i:Nat)]++tl 27 g)∧Y.2.1=hp2 y x)∨(0<i∧(∃ g,Y.1=[.slice p n c,.slice q n' c',undef,undef,Zm,sl 2 0 i grown,.int .u32 (k:Nat),.int .i64 (i:Nat)]++tl 27 g)∧Y.2.1=hu3 (wU O) y x)):
  RunsW (Zk prog Zf Zo hcV) (ZaU f71) Y fun e z=>e=none∧(∃ g,z.1=[.slice p n c,.slice q n' c',undef,undef,Zm,sl 2 0 (i+1) grown,.int .u32 ((1-dfN A B k i/65536:Nat):Int),.int .i64 ((i+1:Nat):Int)]++tl 27 g)∧z.2.1=hu3 (wU (O++[((dfN A B k i % 65536:Nat):Int)])) y x:=by
 obtain⟨t,h',s⟩:=Y;obtain⟨es,hlt,_⟩:=Z0k hA hB hk i;have e1:(df A B k i).tmod 65536=((dfN A B k i % 65536:Nat):Int):=by rw[es,Zf1]
 have e2:u32.wrap (1-u32.wrap ((df A B k i).tdiv 65536))=((1-dfN A B k i/65536:Nat):Int):=by rw[es,Z0l hlt]
 have e3:i64.wrap ((i:Int)+1)=((i+1:Nat):Int):=by rw[Zv (by omega) (by omega)];omega
 have hl:decide ((i:Int)<(n:Nat))=true:=Xa (by omega);rcases hY with ⟨h0,k0,⟨g,ht⟩,hh⟩ | ⟨h0,⟨g,ht⟩,hh⟩
 ·simp only at ht hh;subst ht hh;have r0:=NA.row (hp2 y x) rfl;have r1:=NB.row (hp2 y x) rfl;have fin:=Zc (Zg Zd Zw) (s0:=s) (Zq1 p q n c n' c' k i x y g) (okW rfl (okW r1.1 (okW r0.1 (Zt hl))));have hO':O=[]:=List.length_eq_zero_iff.1 (by omega);rw[r0.2,r1.2,e1,e2,e3] at fin;have:=fin.kept (k:=2) (b:=3) (base:=[y,x]) (y:=([.int .u32 ((dfN A B k i % 65536:Nat):Int)],tU)) (front':=[.slice p n c,.slice q n' c',undef,undef,Zm,sl 2 0 1 grown,.int .u32 ((1-dfN A B k i/65536:Nat):Int),.int .i64 ((i+1:Nat):Int)]) rfl
   (by simp only[List.map_cons,List.map_nil,NA.rn (f:=zH 2 3) rfl,NB.rn (f:=zH 2 3) rfl];kernel_rfl) (Zc8 NA NB rfl rfl) rfl (by omega) (fun v hv=>by rw[List.mem_singleton.1 hv];rfl) (fun v hv=>by
    simp only[List.mem_cons,List.not_mem_nil,or_false] at hv;rcases hv with rfl | rfl | rfl | rfl | rfl | rfl | rfl | rfl
    ·exact NA.lt (by omega)
    ·exact NB.lt (by omega)
    all_goals rfl)
  refine this.mono fun e z hz=> ?_;obtain⟨rfl,⟨g',q1⟩,q2⟩:=hz;subst hO' h0;exact⟨rfl,⟨g',q1⟩,q2⟩
 ·simp only at ht hh;subst ht hh;have r0:=NA.row (hu3 (wU O) y x) rfl;have r1:=NB.row (hu3 (wU O) y x) rfl;have hchk:zK tU (wU O,tU) ([.int .u32 ((df A B k i).tmod 65536)],tU) i 0 1=true:=
   Zbc (L:=O) (M:=[(df A B k i).tmod 65536]) hO.symm (show 0<1 by omega) (by show O.length+1≤_;omega)
  have fin:=Zc (Zg Zd Zw) (s0:=s) (ZlM p q n c n' c' i k i x y (wU O) g) (by rw[r0.2,r1.2];exact okW hchk (okW rfl (okW r1.1 (okW r0.1 (Zt hl)))));rw[r0.2,r1.2,e1,e2,e3] at fin;have ew:wU O++[.int .u32 ((dfN A B k i % 65536:Nat):Int)]=wU (O++[((dfN A B k i % 65536:Nat):Int)]):=by rw[ZY];rfl
  rw[ew] at fin;exact fin.kept (k:=2) (b:=4) (base:=[y,x]) (y:=(wU (O++[((dfN A B k i % 65536:Nat):Int)]),tU)) (front':=[.slice p n c,.slice q n' c',undef,undef,Zm,sl 2 0 (i+1) grown,.int .u32 ((1-dfN A B k i/65536:Nat):Int),.int .i64 ((i+1:Nat):Int)]) rfl
   (by simp only[List.map_cons,List.map_nil,NA.rn (f:=zH 2 4) rfl,NB.rn (f:=zH 2 4) rfl];kernel_rfl) (Zc8 NA NB rfl rfl) rfl (by omega) (ZF _) (fun v hv=>by
    simp only[List.mem_cons,List.not_mem_nil,or_false] at hv;rcases hv with rfl | rfl | rfl | rfl | rfl | rfl | rfl | rfl
    ·exact NA.lt (by omega)
    ·exact NB.lt (by omega)
    all_goals rfl)
def sSt (x y:List Value×TypeId) (p q:Option Addr) (n c n' c':Nat) (O:List Int) (i k:Nat) (Y:Lf):Prop:=
 (i=0∧k=0∧(∃ g,Y.1=[.slice p n c,.slice q n' c',undef,undef,Zm,Zm,.int .u32 (k:Nat),.int .i64 (i:Nat)]++tl 27 g)∧Y.2.1=hp2 y x)∨(0<i∧(∃ g,Y.1=[.slice p n c,.slice q n' c',undef,undef,Zm,sl 2 0 i grown,.int .u32 (k:Nat),.int .i64 (i:Nat)]++tl 27 g)∧Y.2.1=hu3 (wU O) y x)
def Z9w (x y:List Value×TypeId) (p q:Option Addr) (n c n' c':Nat) (A B:List Int) (m:Nat) (Y:Lf):Prop:=
 ∃ (i k:Nat) (O:List Int),O.length=i∧m=n-i∧i≤n∧k≤1∧(∀ x∈O,Dg 65536 x)∧vb 65536 O+vb 65536 (B.take i)=vb 65536 (A.take i)+65536^O.length*k∧sSt x y p q n c n' c' O i k Y
def Z5H (x y:List Value×TypeId) (p q:Option Addr) (n c n' c':Nat) (A B:List Int) (Y:Lf):Prop:=
 ∃ (k:Nat) (O:List Int),O.length=n∧(∀ x∈O,Dg 65536 x)∧vb 65536 O+vb 65536 (B.take n)=vb 65536 A+65536^n*k∧sSt x y p q n c n' c' O n k Y
theorem ZlN (NA:Nu 0 x p n c A) (NB:Nu 1 y q n' c' B) (lA:A.length=n) (hA:∀ x∈A,Dg 65536 x) (hB:∀ x∈B,Dg 65536 x) (hn:n<1073741823) (g:Nat→Value):
  RunsW (Zk prog Zf Zo hcV) (.block 0 (.loop (ZaU f71))) ([.slice p n c,.slice q n' c',undef,undef,Zm,Zm,.int .u32 0,.int .i64 0]++tl 27 g,hp2 y x,[]) fun e Y=>match e with | none=>Z5H x y p q n c n' c' A B Y | some none=>False | some (some _)=>False:=by
 refine RunsW.forLoop (P:=Z5H x y p q n c n' c' A B) (R:=fun _=>False) (Z9w x y p q n c n' c' A B) ?_ (n:=n) ⟨0,0,[],rfl,by omega,by omega,by omega,(fun x hx=>by cases hx),by simp [vb],.inl ⟨rfl,rfl,⟨g,rfl⟩,rfl⟩⟩;rintro m Y ⟨i,k,O,hO,hm,hi,hk,hOd,hval,hY⟩;by_cases hgo:i<n
 ·have r:=ZjT NA NB hA hB hk (by omega) hO hgo hY;refine r.mono fun e z hz=> ?_;obtain⟨rfl,z1,z2⟩:=hz;obtain⟨_,hlt,hsum⟩:=Z0k hA hB hk i;refine⟨n-(i+1),by omega,i+1,1-dfN A B k i/65536,O++[((dfN A B k i % 65536:Nat):Int)],by simp [hO],rfl,by omega,by omega,fun x hx=> ?_,?_,.inr ⟨by omega,z1,z2⟩⟩
  ·rcases List.mem_append.1 hx with hx | hx
   ·exact hOd x hx
   ·rw[List.mem_singleton.1 hx];exact⟨by omega,by omega⟩
  ·have ha:vb 65536 (A.take (i+1))=vb 65536 (A.take i)+65536^i*dgN A i:=Za1 65536 A i;have hb:vb 65536 (B.take (i+1))=vb 65536 (B.take i)+65536^i*dgN B i:=Za1 65536 B i;rw[ha,hb,Zdf,Xg,List.length_append,hO,List.length_singleton,Nat.pow_succ,Nat.mul_assoc];rw[hO] at hval;generalize 65536^i=P at*;have hq:dfN A B k i/65536≤1:=by omega
   have e:dfN A B k i % 65536+dgN B i+k=dgN A i+65536*(1-dfN A B k i/65536):=by omega
   have e':P*(dfN A B k i % 65536)+P*dgN B i+P*k=P*dgN A i+P*(65536*(1-dfN A B k i/65536)):=by rw[← Nat.mul_add,← Nat.mul_add,← Nat.mul_add,e]
   omega
 ·have hin:i=n:=by omega
  subst hin;have hv:vb 65536 O+vb 65536 (B.take i)=vb 65536 A+65536^i*k:=by
   rw[List.take_of_length_le (show A.length≤i by omega),hO] at hval;exact hval
  have out:∀ (v:Value) (h:Hp) (g:Nat→Value) (s:List Dec),RunsW (Zk prog Zf Zo hcV) (ZaU f71) ([.slice p i c,.slice q n' c',undef,undef,Zm,v,.int .u32 (k:Nat),.int .i64 (i:Nat)]++tl 27 g,h,s) fun e z=>e=some (some 0)∧(∃ g,z.1=[.slice p i c,.slice q n' c',undef,undef,Zm,v,.int .u32 (k:Nat),.int .i64 (i:Nat)]++tl 27 g)∧z.2.1=h:=fun v h g s=>
   Zc (Zg Zd Zw) (Zq2 p q i c n' c' v k i h g) (Zt (Xb (by omega)))
  obtain⟨t,h',s⟩:=Y;rcases hY with ⟨h0,k0,⟨g,ht⟩,hh⟩ | ⟨h0,⟨g,ht⟩,hh⟩
  ·simp only at ht hh;subst ht hh;refine (out Zm _ g s).mono fun e z hz=> ?_;obtain⟨rfl,z1,z2⟩:=hz;exact⟨rfl,k,O,hO,hOd,hv,.inl ⟨h0,k0,z1,z2⟩⟩
  ·simp only at ht hh;subst ht hh;refine (out (sl 2 0 i grown) _ g s).mono fun e z hz=> ?_;obtain⟨rfl,z1,z2⟩:=hz;exact⟨rfl,k,O,hO,hOd,hv,.inr ⟨h0,z1,z2⟩⟩
theorem ZlO (NA:Nu 0 x p n c A) (NB:Nu 1 y q n' c' B) (lA:A.length=n) (hA:∀ x∈A,Dg 65536 x) (hB:∀ x∈B,Dg 65536 x) (hn:n<1073741823) (h0:0<n) (hle:vb 65536 B≤vb 65536 A) {V:Nat}(hV:V=vb 65536 A-vb 65536 B):
  RunsW (Zk prog Zf Zo hcV) (zg (ZjK f71) (.seq (.seq (aR3 f71) (.block 0 (.loop (ZaU f71)))) (Zzv f71))) ([.slice p n c,.slice q n' c']++List.replicate 33 undef,hp2 y x,[]) fun e z=>(e=none∨e=some none)∧ZW prog f71 z.1 z.2.1=some (sl 2 0 (d16 V).length (d16 V).length)∧∃ r,z.2.1.blk? 2=some (wU (d16 V)++r,tU):=by
 refine Zz (Zg Zd Zw) (Zq0 _ _ _) (fun x hx=>by cases hx) fun g=> ?_;refine Zg6 (Zc (Zg Zd Zw) (Zvd _ _ _ g) (fun x hx=>by cases hx)) (fun e y he=>by cases he.1) (P2:=fun e Y=>match e with | none=>Z5H x y p q n c n' c' A B Y | some none=>False | some (some _)=>False) ?_ ?_ ?_
 ·rintro⟨t,h',s⟩ ⟨_,⟨g',ht⟩,hh⟩;simp only at ht hh;subst ht hh;exact RunsW.script (ZlN NA NB lA hA hB hn g')
 ·intro e y he
  match e,he with
  | none,he=>exact he
  | some id,he=>exact he
 ·rintro⟨t,h',s⟩ ⟨k,O,hO,hOd,hval,hY⟩;have hv:vb 65536 O=vb 65536 A-vb 65536 B:=by
   have l1:=Zb4 (by omega) A hA;have l2:=Zb4 (by omega) O hOd;have hsp:vb 65536 B=vb 65536 (B.take n)+65536^(B.take n).length*vb 65536 (B.drop n):=by rw[← Zaz,List.take_append_drop]
   rw[lA] at l1;rw[hO] at l2;have hpos:0<65536^n:=Nat.pow_pos (by omega);have hz:65536^(B.take n).length*vb 65536 (B.drop n)=0:=by
    by_cases hb:B.length≤n
    ·rw[List.drop_eq_nil_of_le hb];simp [vb]
    ·have hl:(B.take n).length=n:=by rw[List.length_take];omega
     rw[hl] at hsp ⊢;rcases Nat.eq_zero_or_pos (vb 65536 (B.drop n)) with h | h
     ·rw[h];rfl
     ·have:=Nat.le_mul_of_pos_right (65536^n) h;omega
   have hk:k=0:=by
    rcases Nat.eq_zero_or_pos k with h | h
    ·exact h
    ·have:=Nat.le_mul_of_pos_right (65536^n) h;omega
   subst hk;omega
  rcases hY with ⟨e0,_⟩ | ⟨_,⟨g',ht⟩,hh⟩
  ·omega
  ·simp only at ht hh;subst ht hh;have hrow:ZaX tU (wU O) 0 n grown=true:=by
    rw[← hO];exact Zal (fun x hx=>⟨(hOd x hx).1,by have:=(hOd x hx).2;omega⟩) (by omega) (Zzu _)
   refine (Zc (Zg Zd Zw) (Zq3 _ _ n k n x y (wU O) g') (Zt hrow)).mono fun e z he=> ?_;obtain⟨rfl,⟨g2,e1⟩,e2⟩:=he;have et:Zj (Zy (wU O) 0 n)=(d16 V).length:=by
    rw[← hO,ZaR,Zas (by omega) hOd,hv,← hV];rfl
   refine⟨.inr rfl,?_,?_⟩
   ·rw[e1,e2,et];rfl
   ·rw[e2];refine⟨wU (O.drop (Zj O)),?_⟩;have e3:wU (d16 V)++wU (O.drop (Zj O))=wU O:=by
     unfold d16;rw[hV,← hv,← zf (by omega) _ hOd,← ZY,List.take_append_drop]
    rw[e3];rfl
end
def Zq4:Zab:=fun vals h s=>
 match vals,s with
 | [.slice p n c,.slice q n' c'],.inr (.inr (.inr (.inl d)))::s'=>
  match d with
  | true=>Zdh (vO h p n-vO h q n') h s' [(ZV h p q n c n' c' && Nat.ble (vO h q n') (vO h p n),true),(decide (0<n),true)]
  | false=>some (Zm,h,s',[(ZV h p q n c n' c',true),(decide (0<n),false)])
 | _,_=>none
theorem Zi4:Z7 71 Zq4:=by
 intro vals h s v h' s' lg hg hl m B w E hv;unfold Zq4 at hg;split at hg
 ·rename_i p n c q n' c' d s2;split at hg
  ·unfold Zdh at hg;cases hg;have q1:=hl _ (Xe);have q2:=hl _ (Xd _ Xf);simp only[Xi,Xh] at q1 q2;obtain⟨q1,q3⟩:=q1;have q3:=Nat.le_of_ble_eq_true q3;obtain⟨r1,r2,d1,d2,hn⟩:=ZcB q1;obtain⟨x,p',a,NA,eA,fA⟩:=ZbM 0 r1;obtain⟨y,q',b,NB,eB,fB⟩:=ZbM 1 r2;have r:=ZlO NA NB (zV r1) d1 d2 (by omega) q2 q3 rfl;have:=ZK (T:=Zk prog Zf Zo hcV) func71 ZlL (Zc9 NA NB) (vals:=[.slice p' n c,.slice q' n' c']) (fun v hv=>by
    simp only[List.mem_cons,List.not_mem_nil,or_false] at hv;rcases hv with rfl | rfl
    ·exact NA.lt (by show 0<2;omega)
    ·exact NB.lt (by show 1<2;omega)) (k:=2) (cs:=wU (d16 (vO h p n-vO h q n'))) (ty:=tU) (Zbn _) (by kernel_rfl) r (by rfl) E (s:=Zed a b) (ZcA fA fB)
   simp only[List.map_cons,List.map_nil] at this;rw[eA _ rfl,eB _ rfl] at this;exact this
  ·cases hg;have q1:=hl _ (Xe);have q2:=hl _ (Xd _ Xf);simp only[decide_eq_false_iff_not] at q1 q2;obtain⟨r1,r2,d1,d2,hn⟩:=ZcB q1;obtain⟨x,p',a,NA,eA,fA⟩:=ZbM 0 r1;obtain⟨y,q',b,NB,eB,fB⟩:=ZbM 1 r2;have hr:Runs (Zk prog Zf Zo hcV) (Zs f71) ([.slice p' n c,.slice q' n' c']++List.replicate 33 undef,hp2 y x,[]) fun e z=>(e=none∨e=some none)∧ZW prog f71 z.1 z.2.1=some Zm:=by
    refine (Zb (Zg Zd Zw) (ZjS p' q' n c n' c' _) (Zt (Xb (by omega)))).mono fun e z he=> ?_;obtain⟨rfl,⟨g,e2⟩,e3⟩:=he;refine⟨.inr rfl,?_⟩;rw[e2,e3];rfl
   have:=Z9 (T:=Zk prog Zf Zo hcV) func71 ZjR (Zc9 NA NB) (vals:=[.slice p' n c,.slice q' n' c']) (fun v hv=>by
    simp only[List.mem_cons,List.not_mem_nil,or_false] at hv;rcases hv with rfl | rfl
    ·exact NA.lt (by show 0<2;omega)
    ·exact NB.lt (by show 1<2;omega)) (v:=Zm) (by rfl) hr.w E (s:=Zed a b) (ZcA fA fB)
   simp only[List.map_cons,List.map_nil] at this;rw[eA _ rfl,eB _ rfl] at this;exact this
 ·cases hg
end Go.Proofs.YtgefjidphfdhdaaGreatDoor
