/-
  NumP, ConN9, ConNA, NumV, ConV1, NumW, ConV2, ConV3, RunP, ConNU, RunI, TxH, NumQ, ConNC, ConNB, UuX
-/
import Derived.Test.YtjlponbdflkbjaaGreatDoorG05
import Derived.Laws.RangeString
import Derived.Laws.RangeAny
import Derived.Laws.MathBits
namespace Go.Nt
theorem Zgp {L:List Int}(h:wds L) (h0:0<L.length) (ht:L.getD (L.length-1) 0≠0):4294967296^(L.length-1)≤vN L:=by
 induction L with
 | nil=>simp at h0
 | cons x r ih=>
  obtain⟨h1,h2⟩:=Zae h;cases r with
  | nil=>
   simp at ht ⊢;simp [vN];omega
  | cons y r=>
   have:=ih h2 (by simp) (by simpa using ht);simp only[List.length_cons,Nat.add_sub_cancel] at this ⊢;rw[pw];have e:vN (x::y::r)=x+4294967296*vN (y::r):=rfl;rw[e];omega
theorem Zax {L:List Int}{k:Nat}(h:k<L.length):L.take (k+1)=L.take k++[L.getD k 0]:=by
 rw[List.take_add_one,List.getElem?_eq_getElem h];simp [List.getD,List.getElem?_eq_getElem h]
theorem Zcx {L:List Int}(h:wds L) (k:Nat):wds (L.take k):=fun x hx=>h x (List.mem_of_mem_take hx)
theorem ZeS {L M:List Int}(hL:wds L) (hM:wds M):∀ k,k≤L.length→k≤M.length→(Zan L M k<0↔vN (L.take k)<vN (M.take k))∧(Zan L M k=0↔vN (L.take k)=vN (M.take k))
 | 0,_,_=>by simp [Zan,vN]
 | k+1,h1,h2=>by
  have ih:=ZeS hL hM k (by omega) (by omega);have bL:=ZaL (L.take k) (Zcx hL k);have bM:=ZaL (M.take k) (Zcx hM k);have lL:(L.take k).length=k:=by simp;omega
  have lM:(M.take k).length=k:=by simp;omega
  rw[lL] at bL;rw[lM] at bM;rw[Zax (by omega:k<L.length),Zax (by omega:k<M.length),zo,zo,lL,lM];simp only[Zan];generalize L.getD k 0=x;generalize M.getD k 0=y;have hp:=Zav k;by_cases hxy:x=y
  ·subst hxy;rw[if_pos rfl];omega
  ·rw[if_neg hxy];by_cases hlt:x<y
   ·rw[if_pos hlt];have:4294967296^k*x+4294967296^k≤4294967296^k*y:=by
     have:=Int.mul_le_mul_of_nonneg_left (show x+1≤y by omega) (Int.le_of_lt hp);rw[Int.mul_add,Int.mul_one] at this;exact this
    omega
   ·rw[if_neg hlt];have:4294967296^k*y+4294967296^k≤4294967296^k*x:=by
     have:=Int.mul_le_mul_of_nonneg_left (show y+1≤x by omega) (Int.le_of_lt hp);rw[Int.mul_add,Int.mul_one] at this;exact this
    omega
def Zbi (L:List Int):Prop:=wds L∧(L.length=0∨L.getD (L.length-1) 0≠0)
theorem Zij {L M:List Int}(hL:Zbi L) (hM:Zbi M):(Zci L M<0↔vN L<vN M)∧(Zci L M=0↔vN L=vN M):=by
 obtain⟨wL,tL⟩:=hL;obtain⟨wM,tM⟩:=hM;unfold Zci;by_cases hl:L.length=M.length
 ·rw[if_pos hl];have:=ZeS wL wM L.length (Nat.le_refl _) (by omega);rw[List.take_length,hl,List.take_length] at this;rw[hl];exact this
 ·rw[if_neg hl];have bL:=ZaL L wL;have bM:=ZaL M wM;by_cases hlt:L.length<M.length
  ·rw[if_pos hlt];have h1:=Zgp wM (by omega) (by rcases tM with h | h;omega;exact h);have h2:=Zpw (show L.length≤M.length-1 by omega);omega
  ·rw[if_neg hlt];have h1:=Zgp wL (by omega) (by rcases tL with h | h;omega;exact h);have h2:=Zpw (show M.length≤L.length-1 by omega);omega
end Go.Nt
namespace Go.Proofs.YtjlponbdflkbjaaGreatDoor.Na
open Go.KRun Go.Nt
set_option maxRecDepth 100000
theorem Zgq {x y c:Int}(hx:0≤x∧x<4294967296) (hy:0≤y∧y<4294967296) (hc:0≤c∧c≤1):(0≤Zgo x y c∧Zgo x y c<4294967296)∧(0≤Zj4 x y c∧Zj4 x y c≤1)∧x-y-c=Zgo x y c-4294967296*Zj4 x y c:=by
 unfold Zgo Zj4;split<;>omega
theorem ZsI {la:List Value}{o:Nat}{L:List Int}(hR:Row la o L):cpS la o L.length=wU L:=by
 unfold cpS;rw[Xg,show Nat.min L.length L.length=L.length from by simp];have e1:(la.drop o).take L.length=wU L:=hR.cut;rw[e1,Nat.zero_add,List.take_zero,List.nil_append,List.drop_replicate,Nat.sub_self];simp
theorem Zum {la:List Value}{o:Nat}{L:List Int}(hR:Row la o L):Z4P la o L.length=true:=by
 unfold Z4P;rw[Xg,show Nat.min L.length L.length=L.length from by simp];have e1:(la.drop o).take L.length=wU L:=hR.cut;rw[e1,ZbB,ZdX];have h1:Nat.ble (o+L.length) la.length=true:=Nat.ble_eq_true_of_le hR.len;have h2:Nat.ble (0+L.length) (List.replicate L.length (uu 0)).length=true:=Nat.ble_eq_true_of_le (by simp);have h3:((wU L).all one)=true:=by
  unfold wU;rw[List.all_eq_true];intro v hv;obtain⟨x,_,rfl⟩:=List.mem_map.1 hv;rfl
 rw[h1,h2,h3];rfl
theorem ZeT {L:List Int}(hw:wds L) (h:ZU L=false):Zbi L:=by
 unfold ZU at h;simp only[Bool.or_eq_false_iff,decide_eq_false_iff_not,Bool.and_eq_false_iff,beq_eq_false_iff_ne,ne_eq] at h;refine⟨hw,?_⟩;rcases h.2 with h | h
 ·exact .inl (by omega)
 ·exact .inr h
theorem Zlr {L M:List Int}(hL:Zbi L) (hM:Zbi M) (h:vN M≤vN L):M.length≤L.length:=by
 rcases Nat.lt_or_ge L.length M.length with hlt | hge
 ·exfalso
  have h1:=Zgp hM.1 (by omega) (by rcases hM.2 with h | h;omega;exact h);have h2:=Zpw (show L.length≤M.length-1 by omega);have:=ZaL L hL.1;omega
 ·exact hge
end Go.Proofs.YtjlponbdflkbjaaGreatDoor.Na
namespace Go.Nt
def vb (b:Nat):List Int→Nat
 | []=>0
 | x::l=>x.toNat+b*vb b l
def db (b V:Nat):List Int:=if _h:V=0∨b<2 then [] else ((V % b:Nat):Int)::db b (V/b)
 termination_by V
 decreasing_by exact Nat.div_lt_self (by omega) (by omega)
abbrev Dg (b:Nat) (x:Int):Prop:=0≤x∧x<b
theorem zp (b:Nat):db b 0=[]:=by rw[db];simp
theorem Zcy {b V:Nat}(hb:2≤b) (hV:V≠0):db b V=((V % b:Nat):Int)::db b (V/b):=by
 rw[db];rw[dif_neg (by omega)]
theorem ZbC {b:Nat}(hb:2≤b) (V:Nat):vb b (db b V)=V:=by
 induction V using Nat.strongRecOn with
 | ind V ih=>
  by_cases hV:V=0
  ·subst hV;rw[zp];rfl
  ·rw[Zcy hb hV];simp only[vb];rw[ih (V/b) (Nat.div_lt_self (by omega) (by omega)),Xg];exact Nat.mod_add_div V b
theorem Zfx {b:Nat}(hb:2≤b) (V:Nat):∀ x∈db b V,Dg b x:=by
 induction V using Nat.strongRecOn with
 | ind V ih=>
  by_cases hV:V=0
  ·subst hV;rw[zp];intro x hx;cases hx
  ·rw[Zcy hb hV];intro x hx;rcases List.mem_cons.1 hx with rfl | hx
   ·have:=Nat.mod_lt V (show b>0 by omega);exact⟨by omega,by omega⟩
   ·exact ih (V/b) (Nat.div_lt_self (by omega) (by omega)) x hx
theorem Zcz {b V:Nat}(hb:2≤b):db b V=[]↔V=0:=by
 constructor
 ·intro h;by_cases hV:V=0
  ·exact hV
  ·rw[Zcy hb hV] at h;cases h
 ·rintro rfl;exact zp b
theorem zj {b:Nat}(hb:2≤b):∀ (L:List Int),(∀ x∈L,Dg b x)→L.take (Zl L)=db b (vb b L)
 | [],_=>by simp [vb,zp]
 | x::r,h=>by
  have ih:=zj hb r (fun y hy=>h y (Xd _ hy));have hx:=h x (Xe);have hxn:((x.toNat:Nat):Int)=x:=Int.toNat_of_nonneg hx.1;have hlt:x.toNat<b:=by omega
  have e1:(x.toNat+b*vb b r) % b=x.toNat:=by rw[Nat.add_mul_mod_self_left,Nat.mod_eq_of_lt hlt]
  have e2:(x.toNat+b*vb b r)/b=vb b r:=by rw[Nat.add_mul_div_left _ _ (by omega),Nat.div_eq_of_lt hlt,Nat.zero_add]
  unfold Zl;by_cases h0:Zl r=0
  ·rw[if_pos h0];rw[h0,List.take_zero] at ih;have hv:vb b r=0:=(Zcz hb).1 ih.symm;by_cases hx0:x=0
   ·rw[if_pos hx0];simp only[List.take_zero,vb,hv,hx0];simp [zp]
   ·rw[if_neg hx0];have hx1:x.toNat≠0:=by omega
    show [x]=_;simp only[vb];rw[Zcy hb (by rw[hv];omega),e1,e2,hv,zp,hxn]
  ·rw[if_neg h0];have hv:vb b r≠0:=fun hv=>by
    rw[hv,zp] at ih;have hl:=congrArg List.length ih;have:=Za4 r;simp at hl;rcases hl with hl | hl
    ·exact h0 hl
    ·subst hl;exact h0 rfl
   have hpos:0<b*vb b r:=Nat.mul_pos (by omega) (by omega);show x::r.take (Zl r)=_;simp only[vb];rw[Zcy hb (by omega),e1,e2,hxn,ih]
theorem Zat {b:Nat}(hb:2≤b) {L:List Int}(h:∀ x∈L,Dg b x):Zl L=(db b (vb b L)).length:=by
 rw[← zj hb L h];have:=Za4 L;simp;omega
def Zbk (b:Nat) (L:List Int):Prop:=(∀ x∈L,Dg b x)∧Zl L=L.length
theorem ZdY {b:Nat}(hb:2≤b) (V:Nat):Zbk b (db b V):=by
 have h:=Zfx hb V;refine⟨h,?_⟩;have:=Zat hb h;rw[ZbC hb] at this;exact this
theorem Zls {b:Nat}(hb:2≤b) {L:List Int}(h:Zbk b L):db b (vb b L)=L:=by
 rw[← zj hb L h.1,h.2,List.take_length]
theorem ZaZ {b:Nat}(hb:2≤b):∀ (k V:Nat),V<b^k→(db b V).length≤k
 | 0,V,h=>by
  have:V=0:=by simpa using h
  subst this;rw[zp];exact Nat.le_refl _
 | k+1,V,h=>by
  by_cases hV:V=0
  ·subst hV;rw[zp];exact Nat.zero_le _
  ·rw[Zcy hb hV];have:V/b<b^k:=Nat.div_lt_of_lt_mul (by rw[Nat.pow_succ] at h;rw[Nat.mul_comm];exact h);have:=ZaZ hb k (V/b) this;simp;omega
theorem Zbl {b:Nat}(hb:2≤b):∀ (L:List Int),(∀ x∈L,Dg b x)→vb b L<b^L.length
 | [],_=>by simp [vb]
 | x::r,h=>by
  have ih:=Zbl hb r (fun y hy=>h y (Xd _ hy));have hx:=h x (Xe);have hlt:x.toNat<b:=by omega
  simp only[vb,List.length_cons,Nat.pow_succ]
  calc x.toNat+b*vb b r<b+b*vb b r:=by omega
   _=b*(vb b r+1):=by rw[Nat.mul_add,Nat.mul_one,Nat.add_comm]
   _≤b*b^r.length:=Nat.mul_le_mul_left _ ih
   _=b^r.length*b:=Nat.mul_comm _ _
theorem Zay (b:Nat):∀ (L M:List Int),vb b (L++M)=vb b L+b^L.length*vb b M
 | [],M=>by simp [vb]
 | x::r,M=>by
  simp only[List.cons_append,vb,Zay b r M,List.length_cons,Nat.pow_succ];rw[Nat.mul_add,← Nat.mul_assoc,Nat.mul_comm b (b^r.length)];omega
end Go.Nt
namespace Go.Proofs.YtjlponbdflkbjaaGreatDoor
open Go.Proofs.Tryz
open Go.IntKind
open Go.KRun Go.Nt
set_option maxRecDepth 100000
def Z4Q (F:Func):List Code:=[Z2 (Zs F),Z2 (Zz (Zs F))]
def Zlt (F:Func):Code:=cIn (cIn (Z2 (Zz (Zz (Zs F)))))
def Z4m (F:Func):Code:=Zz (Zz (Zz (Zs F)))
theorem Zj5:f88.body=some (ZW (Z4Q f88) (.seq (.block 0 (.loop (Zlt f88))) (Z4m f88))):=by kernel_rfl
theorem Zun (p:Option Addr) (n c:Nat) (h:Hp):Zg (evL (Zk prog Zf Zn true) 100 (Z4Q f88) ([.slice p n c]++List.replicate 21 undef,h,[]) ⟨[],[],[]⟩) 4 18 none [.slice p n c,undef,Zp,.int .i64 n] h []:=by and_intros<;>kernel_rfl
def i1 (k:Int):Int:=i64.wrap (k-1)
theorem ZzI (o n c:Nat) (k x:Int) (l:List Value) (j1 j2:Value) (g:Nat→Value):Zg (evC (Zk prog Zf Zn true) 100 false (Zlt f88) ([sl 0 o n c,j1,j2,.int .i64 k]++tl 18 g,⟨1,[(l,tR)]⟩,[cmp true,at_,val (.int .u32 x),cmp true]) ⟨[],[],[]⟩) 4 18 none [sl 0 o n c,j1,j2,.int .i64 (i1 k)] ⟨1,[(l,tR)]⟩
  [(x==0,true),(Z5 (l[o+(i1 k).toNat*1]?) (.int .u32 x),true),(decide (0≤i1 k∧i1 k<n),true),(decide (k>0),true)]:=by and_intros<;>kernel_rfl
theorem Zpz (o n c:Nat) (k x:Int) (l:List Value) (j1 j2:Value) (g:Nat→Value):Zg (evC (Zk prog Zf Zn true) 100 false (Zlt f88) ([sl 0 o n c,j1,j2,.int .i64 k]++tl 18 g,⟨1,[(l,tR)]⟩,[cmp true,at_,val (.int .u32 x),cmp false]) ⟨[],[],[]⟩) 4 18 (some (some 0)) [sl 0 o n c,j1,j2,.int .i64 k] ⟨1,[(l,tR)]⟩
  [(x==0,false),(Z5 (l[o+(i1 k).toNat*1]?) (.int .u32 x),true),(decide (0≤i1 k∧i1 k<n),true),(decide (k>0),true)]:=by and_intros<;>kernel_rfl
theorem Zp0 (v:Value) (k:Int) (h:Hp) (j1 j2:Value) (g:Nat→Value):Zg (evC (Zk prog Zf Zn true) 100 false (Zlt f88) ([v,j1,j2,.int .i64 k]++tl 18 g,h,[cmp false]) ⟨[],[],[]⟩) 4 18 (some (some 0)) [v,j1,j2,.int .i64 k] h [(decide (k>0),false)]:=by and_intros<;>kernel_rfl
theorem Zuo (o n c k:Nat) (l:List Value) (j1 j2:Value) (g:Nat→Value):Zg (evC (Zk prog Zf Zn true) 100 false (Z4m f88) ([sl 0 o n c,j1,j2,.int .i64 k]++tl 18 g,⟨1,[(l,tR)]⟩,[num 0]) ⟨[],[],[]⟩) 4 18 (some none) [sl 0 o n c,j1,sl 0 o k k,.int .i64 k] ⟨1,[(l,tR)]⟩
  [(ZA c,true),(ZQ 0 k k c,true),(decide ((k:Int)=0∧(0:Int)≠0),false)]:=by and_intros<;>kernel_rfl
theorem Zp1 (n k:Nat) (l:List Value) (j1 j2:Value) (g:Nat→Value):Zg (evC (Zk prog Zf Zn true) 100 false (Z4m f88) ([sl 0 0 n grown,j1,j2,.int .i64 k]++tl 18 g,⟨1,[(l,tR)]⟩,[at_]) ⟨[],[],[]⟩) 4 18 (some none) [sl 0 0 n grown,j1,sl 0 0 k k,.int .i64 k] ⟨1,[(l,tR)]⟩
  [(ZQ 0 k k n,true),(decide ((k:Int)=0∧(0:Int)≠0),false),(!(Zak tR) && Nat.ble n l.length,true)]:=by and_intros<;>kernel_rfl
def ZcZ (o n c:Nat):Bool:=(ZA c && Nat.ble n c) || (Nat.beq c grown && Nat.beq o 0)
theorem Zj6 {l:List Value}{o c:Nat}{L:List Int}(hR:Row l o L) (hL:L.length<4611686018427387904) (hc:ZcZ o L.length c=true):
  Runs (Zk prog Zf Zn true) (ZW (Z4Q f88) (.seq (.block 0 (.loop (Zlt f88))) (Z4m f88))) ([sl 0 o L.length c]++List.replicate 21 undef,⟨1,[(l,tR)]⟩,[]) fun e y=>(e=none∨e=some none)∧ZV prog f88 y.1 y.2.1=some (sl 0 o (Zl L) (Zl L)):=by
 refine Zv (Zj Zd) (Zun _ _ _ _) (fun x hx=>by cases hx) fun g=> ?_;refine Runs.seq (P1:=fun e y=>e=none∧(∃ g,y.1=[sl 0 o L.length c,undef,Zp,.int .i64 (Zl L:Nat)]++tl 18 g)∧y.2.1=⟨1,[(l,tR)]⟩) ?_ ?_ (fun e y he=>by cases he.1)
 ·refine (Runs.forLoop (P:=fun y=>(∃ g,y.1=[sl 0 o L.length c,undef,Zp,.int .i64 (Zl L:Nat)]++tl 18 g)∧y.2.1=⟨1,[(l,tR)]⟩) (R:=fun _=>False) (fun n y=>(∃ g,y.1=[sl 0 o L.length c,undef,Zp,.int .i64 (n:Nat)]++tl 18 g)∧y.2.1=⟨1,[(l,tR)]⟩∧n≤L.length∧∀ i,n≤i→L.getD i 0=0) ?_ (n:=L.length) ⟨⟨g,rfl⟩,rfl,Nat.le_refl _,fun i hi=>by simp [List.getD,List.getElem?_eq_none hi]⟩).mono fun e y he=> ?_
  ·rintro n ⟨t,h',s⟩ ⟨⟨g,ht⟩,hh,hle,hz⟩;simp only at ht hh;subst ht hh;cases n with
   | zero=>
    refine (Zb (Zj Zd) (Zp0 _ _ _ undef Zp g) (Zt (by rfl))).mono fun e y he=> ?_;obtain⟨rfl,⟨g',h2⟩,h3⟩:=he;have e0:Zl L=0:=ZbS hz (.inl rfl);exact⟨rfl,⟨g',by rw[h2,e0]⟩,h3⟩
   | succ k=>
    have ek:i1 ((k+1:Nat):Int)=(k:Int):=by
     unfold i1;rw[Zw (by omega) (by omega)];omega
    have hcell:=hR.cell (k:=k) (by omega);have hce:Z5 (l[o+(i1 ((k+1:Nat):Int)).toNat*1]?) (.int .u32 (L.getD k 0))=true:=by
     rw[ek,Xg,Nat.mul_one,hcell];simp [Z5]
    have hix:decide (0≤i1 ((k+1:Nat):Int)∧i1 ((k+1:Nat):Int)<(L.length:Int))=true:=by rw[ek];exact Xa (by omega)
    have hgt:decide (((k+1:Nat):Int)>0)=true:=Xa (by omega);by_cases hx:L.getD k 0=0
    ·refine (Zb (Zj Zd) (ZzI o L.length c ((k+1:Nat):Int) (L.getD k 0) l undef Zp g) (Zi (by rw[hx];rfl) (Zi hce (Zi hix (Zt hgt))))).mono fun e y he=> ?_;obtain⟨rfl,⟨g',h2⟩,h3⟩:=he;rw[ek] at h2;refine⟨k,by omega,⟨g',h2⟩,h3,by omega,fun i hi=> ?_⟩;rcases Nat.lt_or_ge k i with h | h
     ·exact hz i h
     ·have:i=k:=by omega
      rw[this];exact hx
    ·refine (Zb (Zj Zd) (Zpz o L.length c ((k+1:Nat):Int) (L.getD k 0) l undef Zp g) (Zi (by simpa using hx) (Zi hce (Zi hix (Zt hgt))))).mono fun e y he=> ?_;obtain⟨rfl,⟨g',h2⟩,h3⟩:=he;have e0:Zl L=k+1:=ZbS hz (.inr (by simpa using hx));exact⟨rfl,⟨g',by rw[h2,e0]⟩,h3⟩
  ·match e,he with
   | none,he=>exact⟨rfl,he⟩
 ·rintro⟨t,h',s⟩ ⟨_,⟨g',ht⟩,hh⟩;simp only at ht hh;subst ht hh;have hle:=Za4 L;have hp:ZQ 0 (Zl L:Nat) (Zl L:Nat) (L.length:Nat)=true:=by unfold ZQ;exact Xa (by omega)
  unfold ZcZ at hc;simp only[Bool.or_eq_true,Xh] at hc;rcases hc with ⟨h1,h2⟩ | ⟨h1,h2⟩
  ·have h2:=Nat.le_of_ble_eq_true h2;have h1':c<4611686018427387904:=Zo.1 h1;refine (Zb (Zj Zd) (Zuo o L.length c (Zl L) l undef Zp g') (Zi h1 (Zi (by unfold ZQ;exact Xa (by omega)) (Zt (Xb (by omega)))))).mono fun e y he=> ?_;obtain⟨rfl,⟨g2,h2⟩,h3⟩:=he;refine⟨.inr rfl,?_⟩;rw[h2,h3];rfl
  ·have h1:=Xj h1;have h2:=Xj h2;subst h1 h2;have hlen:=hR.len;refine (Zb (Zj Zd) (Zp1 L.length (Zl L) l undef Zp g') (Zi hp (Zi (Xb (by omega)) (Zt (by
    rw[ZbB,Nat.ble_eq_true_of_le (by omega)];rfl))))).mono fun e y he=> ?_
   obtain⟨rfl,⟨g2,h2⟩,h3⟩:=he;refine⟨.inr rfl,?_⟩;rw[h2,h3];rfl
def Zbm (ty:TypeId) (l:List Value) (o n c:Nat):Bool:= !(Zak ty) && Nat.beq (rt ty) tU && Nat.ble (o+n) l.length && Nat.blt n 4611686018427387904 && ZcZ o n c && (Zce l o n).all isU && l.all still
theorem zt {ty:TypeId}{l:List Value}{o n c:Nat}(h:Zbm ty l o n c=true):Row l o (Zx l o n)∧(Zx l o n).length=n∧n<4611686018427387904∧ZcZ o n c=true∧Zak ty=false∧rt ty=tU∧∀ v∈l,still v=true:=by
 unfold Zbm at h;simp only[Xh,Bool.not_eq_true'] at h;obtain⟨⟨⟨⟨⟨⟨h1,h2⟩,h3⟩,h4⟩,h5⟩,h6⟩,h7⟩:=h;have h2:=Xj h2;have h3:=Nat.le_of_ble_eq_true h3;have h4:=Zo.1 h4;have hlen:(Zx l o n).length=n:=by unfold Zx Zce;simp;omega
 refine⟨⟨by rw[hlen];exact h3,by rw[hlen];exact ZeP h6,fun x hx=> ?_⟩,hlen,h4,h5,h1,h2,List.all_eq_true.1 h7⟩;unfold Zx at hx;obtain⟨v,hv,rfl⟩:=List.mem_map.1 hx;have:=Zfv (List.all_eq_true.1 h6 v hv);exact⟨this.2.1,this.2.2⟩
theorem Zlu:Z7 (Zm (Zk prog Zf Zn true) 100 88 [Zp] []) Zp []:=by and_intros<;>kernel_rfl
def Zik:Zad:=fun vals h s=>
 match vals with
 | [.slice none 0 0]=>some (Zp,h,s,[])
 | [.slice (some ⟨b,o,none⟩) n c]=>
  match h.blk? b with
  | some x=>some (sl b o (Zl (Zx x.1 o n)) (Zl (Zx x.1 o n)),h,s,[(Zbm x.2 x.1 o n c,true)])
  | none=>none
 | _=>none
theorem Zgr:Z8 88 Zik:=by
 intro vals h s v h' s' lg hg hl m B w E hv;unfold Zik at hg;split at hg
 ·cases hg;refine (Zc (Zj Zd) Zlu (fun x hx=>by cases hx) (by rfl) (by rfl) w).mono fun e w' he=> ?_;obtain⟨E',hb⟩:=zc E he.2;exact⟨m,he.1,⟨Agree.refl _ _,E',hb,Nat.le_refl _,rfl⟩⟩
 ·rename_i b o n c;split at hg
  ·rename_i x hx;cases hg;obtain⟨h1,h2,h3,h4,h5,h6,h7⟩:=zt (hl _ Xf);have hlt:=Hp.blk_lt hx;have r:=Zj6 (c:=c) h1 (by rw[h2];exact h3) (by rw[h2];exact h4);rw[h2] at r;have:=zi (T:=Zk prog Zf Zn true) func88 Zj5 (ZaK h7) (vals:=[sl 0 o n c]) (fun v hv=>by rw[List.mem_singleton.1 hv];rfl) (by rfl) r E (s:=fun _=>b) (fun i _=>hlt) (zH hx h5 h6 rfl);exact this.mono fun e w' he=>⟨m,he.1,he.2⟩
  ·cases hg
 ·cases hg
end Go.Proofs.YtjlponbdflkbjaaGreatDoor
namespace Go.Nt
theorem ZsJ (b:Nat) (x:Int):vb b [x]=x.toNat:=by simp [vb]
theorem Zag (b:Nat) (L:List Int) (i:Nat):vb b (L.take (i+1))=vb b (L.take i)+b^i*(L.getD i 0).toNat:=by
 by_cases h:i<L.length
 ·have e:L.take (i+1)=L.take i++[L.getD i 0]:=by
   rw[List.take_add_one,List.getElem?_eq_getElem h];simp [List.getD,List.getElem?_eq_getElem h]
  rw[e,Zay,ZsJ,List.length_take];rw[show min i L.length=i from by omega]
 ·rw[List.take_of_length_le (by omega),List.take_of_length_le (by omega)];simp [List.getD,List.getElem?_eq_none (show L.length≤i by omega)]
theorem Zda (b:Nat) (O:List Int) (x:Int):vb b (O++[x])=vb b O+b^O.length*x.toNat:=by rw[Zay,ZsJ]
theorem Zlv {b:Nat}{O:List Int}{X Y:Nat}{k a c:Nat}(h:vb b O+b^O.length*k=X+Y):
  vb b (O++[(((k+a+c) % b:Nat):Int)])+b^(O.length+1)*((k+a+c)/b)=(X+b^O.length*a)+(Y+b^O.length*c):=by
 rw[Zda,Xg,Nat.pow_succ,Nat.mul_assoc];have e:=Nat.mod_add_div (k+a+c) b;generalize hP:b^O.length=P at*;have e1:P*((k+a+c) % b)+P*(b*((k+a+c)/b))=P*(k+a+c):=by rw[← Nat.mul_add,e]
 have e2:P*(k+a+c)=P*k+P*a+P*c:=by rw[Nat.mul_add,Nat.mul_add]
 omega
end Go.Nt
namespace Go.Proofs.YtjlponbdflkbjaaGreatDoor
open Go.Proofs.Tryz
open Go.KRun Go.Nt
set_option maxRecDepth 100000
def hcU:Hc:=zS 88 Zik hcN
theorem ZzJ:HcOk hcU:=Z1 func88 rfl Zgr Zam
theorem ZD (L:List Int):∀ v∈wU L,still v=true:=fun v hv=>by
 unfold wU at hv;obtain⟨x,_,rfl⟩:=List.mem_map.1 hv;rfl
theorem ZsK (L:List Int):(wU L).all one=true:=List.all_eq_true.2 fun v hv=>by
 unfold wU at hv;obtain⟨x,_,rfl⟩:=List.mem_map.1 hv;rfl
theorem ZX (L M:List Int):wU (L++M)=wU L++wU M:=by simp [wU]
theorem Zah (L:List Int):(wU L).length=L.length:=by simp [wU]
theorem ZaO (L:List Int):Zx (wU L) 0 L.length=L:=by
 unfold Zx Zce;rw[List.drop_zero,← Zah,List.take_length];unfold wU;rw[List.map_map];exact List.map_id' _
theorem Zap {L:List Int}(h:∀ x∈L,0≤x∧x<4294967296) (hl:L.length<4611686018427387904) {c:Nat}(hc:ZcZ 0 L.length c=true):Zbm tU (wU L) 0 L.length c=true:=by
 unfold Zbm;have e1:Zak tU=false:=by kernel_rfl
 have e2:Nat.beq (rt tU) tU=true:=by kernel_rfl
 have e3:Nat.ble (0+L.length) (wU L).length=true:=Nat.ble_eq_true_of_le (by rw[Zah];omega);have e4:Nat.blt L.length 4611686018427387904=true:=Zo.2 hl;have e5:((Zce (wU L) 0 L.length).all isU)=true:=by
  unfold Zce;rw[List.drop_zero,← Zah,List.take_length];refine List.all_eq_true.2 fun v hv=> ?_;unfold wU at hv;obtain⟨x,hx,rfl⟩:=List.mem_map.1 hv;exact Xa (h x hx)
 have e6:((wU L).all still)=true:=List.all_eq_true.2 fun v hv=>by
  unfold wU at hv;obtain⟨x,_,rfl⟩:=List.mem_map.1 hv;rfl
 rw[e1,e2,e3,e4,hc,e5,e6];rfl
theorem Zba {L M:List Int}{k:Nat}(hk:k=L.length) (hM:0<M.length) (hb:L.length+M.length≤1073741824):Zab tU (wU L,tU) (wU M,tU) k 0 M.length=true:=by
 subst hk;unfold Zab;simp only[Xh,Bool.not_eq_true',Zah];refine⟨⟨⟨⟨⟨⟨⟨⟨Nat.beq_refl _,Nat.ble_eq_true_of_le hb⟩,by kernel_rfl⟩,by kernel_rfl⟩,by kernel_rfl⟩,by kernel_rfl⟩,Nat.ble_eq_true_of_le (by omega)⟩,Zo.2 hM⟩,?_⟩;rw[List.drop_zero,← Zah,List.take_length];exact ZsK M
theorem ZyQ (n:Nat):ZcZ 0 n grown=true:=by unfold ZcZ;rw[show Nat.beq grown grown=true from by kernel_rfl,show Nat.beq 0 0=true from rfl];simp
theorem Zil {L:List Int}{k:Nat}(h:k<L.length):L.getD k 0=L[k]:=by simp [List.getD,List.getElem?_eq_getElem h]
theorem Zgs {T:Tab}{a b c:Code}{x:Lf}{P1 P2 P:Ex→Lf→Prop}(h1:RunsW T a x P1) (n1:∀ e y,P1 (some e) y→False) (h2:∀ y,P1 none y→RunsW T b y P2) (n2:∀ e y,P2 (some e) y→False) (h3:∀ y,P2 none y→RunsW T c y P):RunsW T (.seq (.seq a b) c) x P:=
 RunsW.seq (P1:=P2) (RunsW.seq (P1:=P1) h1 h2 (fun e y he=>(n1 e y he).elim)) h3 (fun e y he=>(n2 e y he).elim)
def d16 (V:Nat):List Int:=db 65536 V
theorem Zbb (L:List Int):∀ u∈wU L,lt1 0 u=true:=fun v hv=>by
 unfold wU at hv;obtain⟨x,_,rfl⟩:=List.mem_map.1 hv;rfl
def Zq (h:Hp) (p:Option Addr) (n:Nat):List Int:=
 match p with
 | none=>[]
 | some a=>
  match h.blk? a.block with
  | some x=>Zx x.1 a.off n
  | none=>[]
def zJ (h:Hp) (p:Option Addr) (n c:Nat):Bool:=
 match p with
 | none=>Nat.beq n 0 && Nat.beq c 0
 | some a=>
  match a.spot,h.blk? a.block with
  | none,some x=>Zbm x.2 x.1 a.off n c && x.1.all still
  | _,_=>false
def atN (L:List Int) (i:Int):Int:=if 0≤i then L.getD i.toNat 0 else 0
theorem ZF {h:Hp}{p:Option Addr}{n c:Nat}(hr:zJ h p n c=true):(p=none∧n=0∧c=0∧Zq h p n=[])∨∃ b o x,p=some ⟨b,o,none⟩∧h.blk? b=some x∧Zbm x.2 x.1 o n c=true∧(∀ v∈x.1,still v=true)∧Zq h p n=Zx x.1 o n:=by
 unfold zJ at hr;split at hr
 ·simp only[Xh] at hr;exact .inl ⟨rfl,Xj hr.1,Xj hr.2,rfl⟩
 ·rename_i a;split at hr
  ·rename_i x hs hx;simp only[Xh] at hr;obtain⟨b,o,sp⟩:=a;simp only at hs hx;subst hs;exact .inr ⟨b,o,x,rfl,hx,hr.1,List.all_eq_true.1 hr.2,by simp [Zq,hx]⟩
  ·cases hr
theorem Zlw:f94.body=some (Zs f94):=by kernel_rfl
theorem Z4R (o n c:Nat) (i x:Int) (l:List Value):Zg (evC (Zk prog Zf Zn true) 100 false (Zs f94) ([sl 0 o n c,.int .i64 i]++List.replicate 15 undef,⟨1,[(l,tR)]⟩,[cmp true,cmp true,at_,val (.int .u32 x)]) ⟨[],[],[]⟩) 5 12 (some none) [sl 0 o n c,.int .i64 i,undef,undef,.int .u32 x] ⟨1,[(l,tR)]⟩ [(Z5 (l[o+i.toNat*1]?) (.int .u32 x),true),(decide (0≤i∧i<n),true),(decide (i<n),true),(decide (i≥0),true)]:=by and_intros<;>kernel_rfl
theorem Zup (p:Option Addr) (n c:Nat) (i:Int) (h:Hp):Zg (evC (Zk prog Zf Zn true) 100 false (Zs f94) ([.slice p n c,.int .i64 i]++List.replicate 15 undef,h,[cmp true,cmp false]) ⟨[],[],[]⟩) 5 12 (some none) [.slice p n c,.int .i64 i,undef,undef,.int .u32 0] h [(decide (i<n),false),(decide (i≥0),true)]:=by and_intros<;>kernel_rfl
theorem Zp2 (p:Option Addr) (n c:Nat) (i:Int) (h:Hp):Zg (evC (Zk prog Zf Zn true) 100 false (Zs f94) ([.slice p n c,.int .i64 i]++List.replicate 15 undef,h,[cmp false]) ⟨[],[],[]⟩) 5 12 (some none) [.slice p n c,.int .i64 i,undef,undef,.int .u32 0] h [(decide (i≥0),false)]:=by and_intros<;>kernel_rfl
theorem Zlx {p:Option Addr}{n c:Nat}{i:Int}{h:Hp}(hi:i<0∨(n:Int)≤i):Runs (Zk prog Zf Zn true) (Zs f94) ([.slice p n c,.int .i64 i]++List.replicate 15 undef,h,[]) fun e y=>(e=none∨e=some none)∧ZV prog f94 y.1 y.2.1=some (.int .u32 0):=by
 by_cases h0:i<0
 ·refine (Zb (Zj Zd) (Zp2 p n c i h) (Zt (Xb (by omega)))).mono fun e y he=> ?_;obtain⟨rfl,⟨g,e2⟩,e3⟩:=he;refine⟨.inr rfl,?_⟩;rw[e2,e3];rfl
 ·refine (Zb (Zj Zd) (Zup p n c i h) (Zi (Xb (by omega)) (Zt (Xa (by omega))))).mono fun e y he=> ?_;obtain⟨rfl,⟨g,e2⟩,e3⟩:=he;refine⟨.inr rfl,?_⟩;rw[e2,e3];rfl
theorem Zuq {l:List Value}{o c:Nat}{L:List Int}(i:Int) (hR:Row l o L):
  Runs (Zk prog Zf Zn true) (Zs f94) ([sl 0 o L.length c,.int .i64 i]++List.replicate 15 undef,⟨1,[(l,tR)]⟩,[]) fun e y=>(e=none∨e=some none)∧ZV prog f94 y.1 y.2.1=some (.int .u32 (atN L i)):=by
 by_cases hi:i<0∨(L.length:Int)≤i
 ·have e0:atN L i=0:=by
   unfold atN;split
   ·have:L.length≤i.toNat:=by omega
    simp [List.getD,List.getElem?_eq_none this]
   ·rfl
  rw[e0];exact Zlx hi
 ·have h0:0≤i:=by omega
  have hlt:i.toNat<L.length:=by omega
  have e0:atN L i=L.getD i.toNat 0:=by unfold atN;rw[if_pos h0]
  rw[e0];have hc:=hR.cell hlt;refine (Zb (Zj Zd) (Z4R o L.length c i (L.getD i.toNat 0) l) (Zi (by rw[Nat.mul_one,hc];simp [Z5]) (Zi (Xa (by omega)) (Zi (Xa (by omega)) (Zt (Xa (by omega))))))).mono fun e y he=> ?_;obtain⟨rfl,⟨g,e2⟩,e3⟩:=he;refine⟨.inr rfl,?_⟩;rw[e2,e3];rfl
def gAt:Zad:=fun vals h s=>
 match vals with
 | [.slice p n c,.int .i64 i]=>some (.int .u32 (atN (Zq h p n) i),h,s,[(zJ h p n c,true)])
 | _=>none
theorem ZsL:Z8 94 gAt:=by
 intro vals h s v h' s' lg hg hl m B w E hv;unfold gAt at hg;split at hg
 ·rename_i p n c i;cases hg;have q:=hl _ Xf;simp only at q;rcases ZF q with ⟨rfl,rfl,rfl,e0⟩ | ⟨b,o,x,rfl,hx,q1,_,e0⟩
  ·rw[e0];have hz:atN [] i=0:=by unfold atN;split<;>simp
   rw[hz];have hi:i<0∨((0:Nat):Int)≤i:=by omega
   refine (ZJ (T:=Zk prog Zf Zn true) func94 Zlw (vals:=[Zp,.int .i64 i]) (v:= .int .u32 0) (by rfl) (by rfl) (Zlx (p:=none) (n:=0) (c:=0) (i:=i) (h:=⟨0,[]⟩) hi) w).mono fun e w' he=> ?_;obtain⟨E',hb⟩:=zc E he.2;exact⟨m,he.1,⟨Agree.refl _ _,E',hb,Nat.le_refl _,rfl⟩⟩
  ·rw[e0];obtain⟨h1,h2,h3,h4,h5,h6,h7⟩:=zt q1;have hlt:=Hp.blk_lt hx;have r:=Zuq (c:=c) i h1;rw[h2] at r;have:=zi (T:=Zk prog Zf Zn true) func94 Zlw (ZaK h7) (vals:=[sl 0 o n c,.int .i64 i]) (fun v hv=>by
    simp only[List.mem_cons,List.not_mem_nil,or_false] at hv;rcases hv with rfl | rfl<;>rfl) (by rfl) r E (s:=fun _=>b) (fun i _=>hlt) (zH hx h5 h6 rfl)
   exact this.mono fun e w' he=>⟨m,he.1,he.2⟩
 ·cases hg
def hcV:Hc:=zS 94 gAt hcU
theorem Zu:HcOk hcV:=Z1 func94 rfl ZsL ZzJ
end Go.Proofs.YtjlponbdflkbjaaGreatDoor
namespace Go.KRun
open Go.RowKit
theorem RunsW.keptP {T:Tab}{c:Code}{x0:Lf}{ex:Ex}{front front':List Value}{n k b:Nat}{h:Hp}{base:List (List Value×TypeId)}{y:List Value×TypeId}{r:List Value}(hr:RunsW T c x0 fun e z=>e=ex∧(∃ g,z.1=front++tl n g)∧z.2.1=h)
  (hk:base.length=k) (hf:front'.map (rn (zA k b))=front) (hx:∀ i x,(⟨k,base⟩:Hp).blk? i=some x→h.blk? i=some x∧∀ v∈x.1,still v=true) (hy:h.blk? b=some (y.1++r,y.2)) (hb:k≤b) (sy:∀ v∈y.1,still v=true) (hw:∀ v∈front',lt (k+1) v=true):
  RunsW T c x0 fun e z=>e=ex∧(∃ g,z.1=front'++tl n g)∧z.2.1=⟨k+1,y::base⟩:=by
 refine hr.small fun e z he=> .inr ?_;obtain⟨rfl,⟨g,h1⟩,h2⟩:=he;obtain⟨t,h',s⟩:=z;simp only at h1 h2;subst h1 h2;refine⟨front,front',tl n g,h',⟨k+1,y::base⟩,s,zA k b,rfl,hf,by simp [hk],Nat.succ_pos _,fun i z hz=> ?_,fun i j u v hi hj _ _ hij=> ?_,hw,fun g'=>⟨rfl,⟨g',by rw[ZkW]⟩,rfl⟩⟩
 ·rcases Zjy hk hz with ⟨hi,hz'⟩ | ⟨rfl,rfl⟩
  ·obtain⟨q1,q2⟩:=hx i z hz';exact⟨q2,z,[],by unfold zA;rw[if_pos (Zo.2 hi)];exact q1,rfl,by simp⟩
  ·exact⟨sy,(z.1++r,z.2),r,by unfold zA;rw[if_neg (by rw[Zo];omega)];exact hy,rfl,rfl⟩
 ·unfold zA at hij;rcases Zjy hk hi with ⟨h1,_⟩ | ⟨rfl,_⟩<;>rcases Zjy hk hj with ⟨h2,_⟩ | ⟨rfl,_⟩
  ·rw[if_pos (Zo.2 h1),if_pos (Zo.2 h2)] at hij;exact hij
  ·rw[if_pos (Zo.2 h1),if_neg (by rw[Zo];omega)] at hij;omega
  ·rw[if_pos (Zo.2 h2),if_neg (by rw[Zo];omega)] at hij;omega
  ·rfl
theorem Zbn {T:Tab}{f:Nat}{F:Func}{c:Code}(hF:T.P.funcs[f]? =some F) (hc:F.body=some c) {vals:List Value}{v:Value}{h:Hp}(hv:lt 0 v=true)
  (hr:Runs T c (vals++List.replicate (F.ntmps-vals.length) undef,h,[]) fun e y=>(e=none∨e=some none)∧ZV T.P F y.1 y.2.1=some v∧y.2.1=h) (m:Mp) (B:Nat) (w:World) (E:Emb m B h w) (hvals:∀ v∈vals,lt h.n v=true):
  Calls T.P f (vals.map (mv m)).toArray w fun e w'=>∃ m',e= .returned (mv m' v)∧Came m B h w v h m' w':=by
 refine calls_of_wp hF hc ?_;have R:Rel m B (vals++List.replicate (F.ntmps-vals.length) undef,h,[]) {tmps:=(vals.map (mv m)).toArray++Array.replicate (F.ntmps-(vals.map (mv m)).toArray.size) undef,defers:=[]} w:=by
  refine⟨?_,rfl,E,?_⟩
  ·simp [zm]
  ·intro y hy;rcases List.mem_append.1 hy with hy | hy
   ·exact hvals y hy
   ·rw[List.eq_of_mem_replicate hy];simp [undef,lt]
 refine hr _ _ _ w R _ fun e y he a' w' hR=> ?_;obtain⟨hex,hres,hh⟩:=he;obtain⟨m1,k1,k2,k3,_⟩:=hR;obtain⟨r1,r2⟩:=Zac k2.emb k2.wf hres;rw[← k2.tmps] at r1;have Ek:Emb m1 B h w':=by
  have:=k2.emb;rw[hh] at this;exact this
 have post:a'.defers=[]∧∃ v',(results F a'.tmps).run T.P w'= .ok v' w'∧∃ m',Ending.returned v'= .returned (mv m' v)∧Came m B h w v h m' w':=
  ⟨k2.dfr,_,r1,m1,rfl,⟨k1,Ek,k3,Nat.le_refl _,zT (Nat.zero_le _) hv⟩⟩
 rcases hex with rfl | rfl<;>exact post
theorem ZeU {T:Tab}{f:Nat}{F:Func}{c:Code}(hF:T.P.funcs[f]? =some F) (hc:F.body=some c) {h0:Hp}(hr:h0.rows) {vals:List Value}(hvals:∀ v∈vals,lt h0.n v=true) {v:Nat→Nat→Value}
  {cs ds:List Value}{ty:TypeId}(hcs:∀ u∈cs,lt1 0 u=true) (hds:∀ u∈ds,lt1 0 u=true) (hty:ro ty=false)
  (hrun:RunsW T c (vals++List.replicate (F.ntmps-vals.length) undef,h0,[]) fun e y=>(e=none∨e=some none)∧∃ k j,k≠j∧ZV T.P F y.1 y.2.1=some (v k j)∧(∃ r,y.2.1.blk? k=some (cs++r,ty))∧∃ r,y.2.1.blk? j=some (ds++r,ty))
  (hv0:∀ k j,oc [k,j] (v k j)=true)
  {m:Mp}{B:Nat}{h:Hp}{w:World}(E:Emb m B h w) {s:Nat→Nat}(hf:h0.fits s h) (hv1:∀ k j,∀ g:Nat→Nat,rn g (v k j)=v (g k) (g j)):
  Calls T.P f ((vals.map (rn s)).map (mv m)).toArray w fun e w'=>∃ m',e= .returned (mv m' (v h.n (h.n+1)))∧Came m B h w (v h.n (h.n+1)) ((h.push cs ty).push ds ty) m' w':=by
 have E0:=E.small hr hf;have ev:(vals.map (rn s)).map (mv m)=vals.map (mv fun i=>m (s i)):=by
  rw[List.map_map];exact List.map_congr_left fun y _=>Zdx m s y
 rw[ev];refine calls_of_wp hF hc ?_;have R:Rel (fun i=>m (s i)) w.heap.size (vals++List.replicate (F.ntmps-vals.length) undef,h0,[]) {tmps:=(vals.map (mv fun i=>m (s i))).toArray++Array.replicate (F.ntmps-(vals.map (mv fun i=>m (s i))).toArray.size) undef,defers:=[]} w:=by
  refine⟨?_,rfl,E0,?_⟩
  ·simp [zm]
  ·intro y hy;rcases List.mem_append.1 hy with hy | hy
   ·exact hvals y hy
   ·rw[List.eq_of_mem_replicate hy];simp [undef,lt]
 refine hrun _ _ _ w R _ fun e y he m1 a' w' k2 k3=> ?_;obtain⟨hex,k,j,hkj,hres,⟨r,hblk⟩,r',hblj⟩:=he;obtain⟨r1,r2⟩:=Zac k2.emb k2.wf hres;rw[← k2.tmps] at r1;have td:Zal w w':=⟨k3,fun k h1 h2=>k2.emb.ice k h1 h2⟩;obtain⟨E',hb⟩:=zc E td;have low:∀ {k:Nat}{x:List Value×TypeId},y.2.1.blk? k=some x→ro x.2=false→w.heap.size≤(m1 k).1:=fun h1 h2=>k2.emb.low _ _ h1 h2;have hlie:∀ {k:Nat}{cs r:List Value},(∀ u∈cs,lt1 0 u=true)→y.2.1.blk? k=some (cs++r,ty)→∀ m':Mp,lie w' (m1 k) (cs.map (mv1 m')) ty:=fun {k cs r} hcs hblk m'=>by
  obtain⟨r',z,l0,l1,l2⟩:=k2.emb.lies k _ hblk (Zao hty);have e:cs.map (mv1 m1)=cs.map (mv1 m'):=Zb8 hcs;simp only[List.map_append] at l0 l1;refine⟨r.map (mv1 m1)++r',z,?_,?_,l2⟩
  ·simp at l0 ⊢;omega
  ·rw[← e,l1,List.append_assoc]
 have lk:=low hblk hty;have lj:=low hblj hty;have Ea:=E'.adopt cs ty hty (fun u hu=>zl (Nat.zero_le _) (hcs u hu)) (hlie hcs hblk m) (Nat.le_trans E.base lk) (fun b x hbx hx heq=>by
  have:=E.here hbx (Zao hx);omega)
 have Eb:=Ea.adopt ds ty hty (fun u hu=>zl (Nat.zero_le _) (hds u hu)) (hlie hds hblj (upd m h.n (m1 k))) (Nat.le_trans E.base lj) (fun b x hbx hx heq=>by
  rw[Hp.blk_push E.len] at hbx;by_cases h1:b=h.n
  ·subst h1;simp only[upd,if_pos] at heq;exact hkj (k2.emb.inj k j _ _ hblk hblj hty hty heq)
  ·rw[if_neg h1] at hbx;simp only[upd,if_neg h1] at heq;have:=E.here hbx (Zao hx);omega)
 have hn:(h.push cs ty).n=h.n+1:=rfl;rw[hn] at Eb;have e1:mv m1 (v k j)=mv (upd (upd m h.n (m1 k)) (h.n+1) (m1 j)) (v h.n (h.n+1)):=by
  have e2:=hv1 k j (fun b=>if b=k then h.n else h.n+1);simp only[if_pos,if_neg (Ne.symm hkj)] at e2;rw[← e2,Zdx];refine Zpb (fun b hb=> ?_) (hv0 k j);simp only[List.mem_cons,List.not_mem_nil,or_false] at hb;rcases hb with rfl | rfl
  ·simp [upd]
  ·simp [upd,Ne.symm hkj]
 rw[e1] at r1;have hlt:lt (h.n+2) (v h.n (h.n+1))=true:=by
  have e2:=hv1 k j (fun b=>if b=k then h.n else h.n+1);simp only[if_pos,if_neg (Ne.symm hkj)] at e2;rw[← e2];exact Zid (bs:=[k,j]) (fun b hb=>by split<;>omega) (hv0 k j)
 have post:a'.defers=[]∧∃ v',(results F a'.tmps).run T.P w'= .ok v' w'∧∃ m',Ending.returned v'= .returned (mv m' (v h.n (h.n+1)))∧Came m B h w (v h.n (h.n+1)) ((h.push cs ty).push ds ty) m' w':=
  ⟨k2.dfr,_,r1,_,rfl,⟨(ZP m h.n (m1 k)).trans (ZP _ _ _) (by omega),Eb,hb,by show h.n≤h.n+1+1;omega,hlt⟩⟩
 rcases hex with rfl | rfl<;>exact post
end Go.KRun
namespace Go.Proofs.YtjlponbdflkbjaaGreatDoor.Na
open Go.KRun Go.Nt
set_option maxRecDepth 100000
set_option linter.unusedVariables false
def Zai (h:Hp) (p:Option Addr) (n c:Nat):Bool:=
 match p with
 | none=>Nat.beq n 0 && Nat.beq c 0
 | some a=>
  match a.spot,h.blk? a.block with
  | none,some x=>Z6 x.2 x.1 a.off n c
  | _,_=>false
theorem ZM {h:Hp}{p:Option Addr}{n c:Nat}(hr:Zai h p n c=true):(p=none∧n=0∧c=0∧Zq h p n=[])∨∃ b o x,p=some ⟨b,o,none⟩∧h.blk? b=some x∧Z6 x.2 x.1 o n c=true∧Zq h p n=Zx x.1 o n:=by
 unfold Zai at hr;split at hr
 ·simp only[Xh] at hr;exact .inl ⟨rfl,Xj hr.1,Xj hr.2,rfl⟩
 ·rename_i a;split at hr
  ·rename_i x hs hx;obtain⟨b,o,sp⟩:=a;simp only at hs hx;subst hs;exact .inr ⟨b,o,x,rfl,hx,hr,by simp [Zq,hx]⟩
  ·cases hr
theorem Zc0:ZU []=false:=rfl
def Z8K:Zad:=fun vals h s=>
 match vals,s with
 | [.slice p n c],.inr (.inr (.inr (.inl d)))::s'=>some (ZcX d,h,s',[(Zai h p n c,true),(ZU (Zq h p n),d)])
 | _,_=>none
def Zim:Zad:=fun vals h s=>
 match vals,s with
 | [.slice p n c,.slice q n' c'],.inr (.inr (.inr (.inl d)))::s'=>some (ZcX d,h,s',[(Zai h p n c,true),(Zai h q n' c',true),(ZU (Zq h p n) || ZU (Zq h q n'),d)])
 | _,_=>none
theorem Z4n {a b c:Bool×Bool}(h:Z3 [a,b,c]):a.1=a.2∧b.1=b.2∧c.1=c.2:=⟨h _ (by simp),h _ (by simp),h _ (by simp)⟩
theorem Zgt:Z8 116 Zim:=by
 intro vals h s v h' s' lg hg hl m B w E hv;unfold Zim at hg;split at hg
 ·rename_i p n c q n' c' d s2;cases hg;obtain⟨l1,l2,l3⟩:=Z4n hl;simp only at l1 l2 l3;rcases ZM l1 with ⟨rfl,rfl,rfl,e0⟩ | ⟨b,o,x,rfl,hx,r1,e0⟩<;>rcases ZM l2 with ⟨rfl,rfl,rfl,f0⟩ | ⟨b',o',y,rfl,hy,t1,f0⟩<;>simp only[e0,f0] at l3
  ·rw[Zc0,Bool.or_self] at l3;subst l3;exact Zcv _ h [] _ _ _ _ rfl (fun x hx=>by cases hx) m B w E hv
  ·rw[Zc0,Bool.false_or] at l3;exact Zcv _ h [cmp d] (ZcX d) h [] [(Z6 y.2 y.1 o' n' c',true),(ZU (Zx y.1 o' n'),d)] (by simp only[Zj0,hy]) (Za t1 (Z4 l3)) m B w E hv
  ·rw[Zc0,Bool.or_false] at l3;exact Zcv _ h [cmp d] (ZcX d) h [] [(Z6 x.2 x.1 o n c,true),(ZU (Zx x.1 o n),d)] (by simp only[Zj0,hx]) (Za r1 (Z4 l3)) m B w E hv
  ·exact Zcv _ h [cmp d] (ZcX d) h [] [(Z6 x.2 x.1 o n c,true),(Z6 y.2 y.1 o' n' c',true),(ZU (Zx x.1 o n) || ZU (Zx y.1 o' n'),d)] (by simp only[Zj0,hx,hy]) (Za r1 (Za t1 (Z4 l3))) m B w E hv
 ·cases hg
def Zur:Zad:=fun vals h s=>
 match vals with
 | [.slice p n c,.slice q n' c']=>some (i6' (Zci (Zq h p n) (Zq h q n')),h,s,[(Zai h p n c,true),(Zai h q n' c',true)])
 | _=>none
theorem ZsM {L:List Int}{n:Nat}(h:L.length=n):Zci [] L=Zpn 0 n:=by
 unfold Zci Zpn;rw[h,List.length_nil];split
 ·rfl
 ·rfl
theorem ZzK {L:List Int}{n:Nat}(h:L.length=n):Zci L []=Zpn n 0:=by
 unfold Zci Zpn;rw[h,List.length_nil];split
 ·rename_i h0;rw[h0];rfl
 ·rfl
theorem Zp3:Z8 120 Zur:=by
 intro vals h s v h' s' lg hg hl m B w E hv;unfold Zur at hg;split at hg
 ·rename_i p n c q n' c';cases hg;have l1:=hl _ (Xe);have l2:=hl _ (Xd _ Xf);simp only at l1 l2;rcases ZM l1 with ⟨rfl,rfl,rfl,e0⟩ | ⟨b,o,x,rfl,hx,r1,e0⟩<;>rcases ZM l2 with ⟨rfl,rfl,rfl,f0⟩ | ⟨b',o',y,rfl,hy,t1,f0⟩<;>simp only[e0,f0]
  ·exact ZdV _ h s _ _ _ _ rfl (fun x hx=>by cases hx) m B w E hv
  ·rw[ZsM (ZH t1).2.1];exact ZdV _ h s _ _ _ _ rfl (fun x hx=>by cases hx) m B w E hv
  ·rw[ZzK (ZH r1).2.1];exact ZdV _ h s _ _ _ _ rfl (fun x hx=>by cases hx) m B w E hv
  ·exact ZdV _ h s _ h s [(Z6 x.2 x.1 o n c,true),(Z6 y.2 y.1 o' n' c',true)] (by simp only[Z4j,hx,hy]) (Za r1 (Z4 t1)) m B w E hv
 ·cases hg
theorem ZzL {L:List Int}{n:Nat}(h:L.length=n):Zci [] L<0↔0<n:=by
 rw[ZsM h];unfold Zpn;split
 ·omega
 ·split<;>omega
end Go.Proofs.YtjlponbdflkbjaaGreatDoor.Na
namespace Go.KRun
open Go.RowKit
structure BelowI (B r:Nat) (w w':World):Prop where
 os:w'.os=w.os
 tape:w'.tape=w.tape
 output:w'.output=w.output
 size:w.heap.size≤w'.heap.size
 block:∀ k,k<B→k≠r→w'.heap[k]? =w.heap[k]?
theorem BelowI.of {B r:Nat}{w w':World}(h:Below B w w'):BelowI B r w w':=⟨h.os,h.tape,h.output,h.size,fun k hk _=>h.block k hk⟩
theorem BelowI.trans {B r:Nat}{w w' w'':World}(h:BelowI B r w w') (g:BelowI B r w' w''):BelowI B r w w'':=
 ⟨g.os.trans h.os,g.tape.trans h.tape,g.output.trans h.output,Nat.le_trans h.size g.size,fun k hk hr=>(g.block k hk hr).trans (h.block k hk hr)⟩
def RunsI (T:Tab) (c:Code) (r:Nat) (s:ByteArray) (p:Nat) (x:Lf) (Post:Ex→Lf→Nat→Prop):Prop:=
 ∀ m B a w,Rel m B x a w→r<B→w.heap[r]? =some (.stringIter s p)→∀ Q:Exit→Act→World→Prop,
  (∀ e y p',Post e y p'→∀ m' a' w',Rel m' B y a' w'→BelowI B r w w'→w'.heap[r]? =some (.stringIter s p')→Q (out e) a' w')→c.wp T.P Q a w
section
variable {T : Tab} {r : Nat} {s : ByteArray}
theorem RunsW.i {c:Code}{p:Nat}{x:Lf}{P:Ex→Lf→Prop}(h:RunsW T c x P):RunsI T c r s p x fun e y p'=>p'=p∧P e y:=by
 intro m B a w R hr hi Q hQ;refine h m B a w R Q fun e y he m' a' w' R' hb=>hQ e y p ⟨rfl,he⟩ m' a' w' R' (BelowI.of hb) ?_;rw[hb.block r hr];exact hi
theorem RunsI.mono {c:Code}{p:Nat}{x:Lf}{P P':Ex→Lf→Nat→Prop}(h:RunsI T c r s p x P) (hp:∀ e y q,P e y q→P' e y q):RunsI T c r s p x P':=
 fun m B a w R hr hi Q hQ=>h m B a w R hr hi Q fun e y p' he=>hQ e y p' (hp e y p' he)
theorem RunsI.seq {c1 c2:Code}{p:Nat}{x:Lf}{P1 P:Ex→Lf→Nat→Prop}(h1:RunsI T c1 r s p x P1) (h2:∀ y q,P1 none y q→RunsI T c2 r s q y P) (h3:∀ e y q,P1 (some e) y q→P (some e) y q):RunsI T (.seq c1 c2) r s p x P:=by
 intro m B a w R hr hi Q hQ;refine wp_seq (h1 m B a w R hr hi _ fun e y q he m' a' w' R' hb hi'=> ?_)
 match e,he with
 | none,he=>exact h2 y q he m' B a' w' R' hr hi' Q fun e' y' q' he' m'' a'' w'' R'' hb' hi''=>hQ e' y' q' he' m'' a'' w'' R'' (hb.trans hb') hi''
 | some none,he=>exact hQ _ _ q (h3 none y q he) m' a' w' R' hb hi'
 | some (some id),he=>exact hQ _ _ q (h3 (some id) y q he) m' a' w' R' hb hi'
theorem RunsI.block {c:Code}{id p:Nat}{x:Lf}{P1 P:Ex→Lf→Nat→Prop}(h1:RunsI T c r s p x P1) (h2:∀ y q,P1 none y q→P none y q) (h3:∀ y q,P1 (some none) y q→P (some none) y q)
  (h4:∀ y q,P1 (some (some id)) y q→P none y q) (h5:∀ id' y q,id'≠id→P1 (some (some id')) y q→P (some (some id')) y q):RunsI T (.block id c) r s p x P:=by
 intro m B a w R hr hi Q hQ;refine wp_block (h1 m B a w R hr hi _ fun e y q he m' a' w' R' hb hi'=> ?_)
 match e,he with
 | none,he=>exact hQ _ _ q (h2 y q he) m' a' w' R' hb hi'
 | some none,he=>exact hQ _ _ q (h3 y q he) m' a' w' R' hb hi'
 | some (some id'),he=>
  simp only[out,Exit.inBlock];by_cases hid:id'=id
  ·subst hid;rw[if_pos rfl];exact hQ _ _ q (h4 y q he) m' a' w' R' hb hi'
  ·rw[if_neg hid];exact hQ _ _ q (h5 id' y q hid he) m' a' w' R' hb hi'
theorem RunsI.loop {c:Code}{p:Nat}{x:Lf}{P:Ex→Lf→Nat→Prop}(Inv:Nat→Lf→Nat→Prop) (round:∀ n x q,Inv n x q→RunsI T c r s q x fun e y q'=>match e with | none=>∃ n',n'<n∧Inv n' y q' | some e=>P (some e) y q') {n:Nat}(h0:Inv n x p):
  RunsI T (.loop c) r s p x P:=by
 have key:∀ N n x p,n<N→Inv n x p→∀ m B a w,Rel m B x a w→r<B→w.heap[r]? =some (.stringIter s p)→∀ Q:Exit→Act→World→Prop,(∀ e y p',P e y p'→∀ m' a' w',Rel m' B y a' w'→BelowI B r w w'→w'.heap[r]? =some (.stringIter s p')→Q (out e) a' w')→Code.rounds T.P c Q N a w:=by
  intro N
  induction N with
  | zero=>intro n x p hn;omega
  | succ N ih=>
   intro n x p hn hI m B a w R hr hi Q hQ;rw[rounds_succ];refine round n x p hI m B a w R hr hi _ fun e y q he m' a' w' R' hb hi'=> ?_
   match e,he with
   | none,he=>
    obtain⟨n',hn',hI'⟩:=he;exact ih n' y q (by omega) hI' m' B a' w' R' hr hi' Q fun e' y' q' he' m'' a'' w'' R'' hb' hi''=>hQ e' y' q' he' m'' a'' w'' R'' (hb.trans hb') hi''
   | some none,he=>exact hQ _ _ q he m' a' w' R' hb hi'
   | some (some id),he=>exact hQ _ _ q he m' a' w' R' hb hi'
 intro m B a w R hr hi Q hQ;exact wp_loop_rounds (n+1) (key (n+1) n x p (by omega) h0 m B a w R hr hi Q hQ)
theorem RunsI.forLoop {c:Code}{id p:Nat}{x:Lf}{P:Lf→Nat→Prop}{R:Lf→Nat→Prop}(Inv:Nat→Lf→Nat→Prop)
  (round:∀ n x q,Inv n x q→RunsI T c r s q x fun e y q'=>match e with | none=>∃ n',n'<n∧Inv n' y q' | some none=>R y q' | some (some id')=>id'=id∧P y q') {n:Nat}(h0:Inv n x p):
  RunsI T (.block id (.loop c)) r s p x fun e y q=>match e with | none=>P y q | some none=>R y q | some (some _)=>False:=by
 refine RunsI.block (P1:=fun e y q=>match e with | none=>False | some none=>R y q | some (some id')=>id'=id∧P y q) ?_ (fun y q he=>he.elim) (fun y q he=>he) (fun y q he=>he.2) (fun id' y q hid he=>absurd he.1 hid);refine RunsI.loop Inv (fun n x q hI=>(round n x q hI).mono fun e y q' he=> ?_) h0
 match e,he with
 | none,he=>exact he
 | some none,he=>exact he
 | some (some id'),he=>exact he
end
def hT1:Hp:=⟨1,[([],2*za)]⟩
theorem Zus {b:Nat}{x:List Value×TypeId}(h:hT1.blk? b=some x):x=([],2*za):=by
 have hb:b<1:=Hp.blk_lt h;have h0:b=0:=by omega
 subst h0;exact (Option.some.inj h).symm
theorem ZsN (m:Mp) {B:Nat}{w:World}(hB:B≤w.heap.size) (hi:∀ k,B≤k→k<w.heap.size→Zzj w.heap[k]?):Emb m B hT1 w:=by
 have t1:Zak (2*za)=true:=by kernel_rfl
 have r1:ro (2*za)=true:=by kernel_rfl
 have a1:ab (2*za)=false:=by kernel_rfl
 refine⟨rfl,fun b x hb ht=> ?_,fun b x hb hr=> ?_,fun b x hb ht=> ?_,fun b b' x x' hb _ hr=> ?_,fun b x hb v hv=> ?_,hB,hi,fun b x hb ha=> ?_⟩<;>rw[Zus hb] at*
 ·rw[t1] at ht;cases ht
 ·rw[r1] at hr;cases hr
 ·rw[t1] at ht;cases ht
 ·rw[r1] at hr;cases hr
 ·cases hv
 ·rw[a1] at ha;cases ha
theorem ZbU {P:Program}{ops:Array Oper}{Q:Exit→Act→World→Prop}{i:Nat}{K:Act→World→Prop}{a:Act}{w w':World}{o:Oper}{v:Value}(hi:ops[i]? =some o) (hg:o.guard=none) (hr:(execOp a.eval o).run P w= .ok (.value v) w') (hK:K (a.put o.dst v) w'):wpOp P ops Q i K a w:=by
 unfold wpOp;have hw:Region.wanted o (yielded ops a.tmps)=true:=by unfold Region.wanted;rw[hg]
 simp only[hi,hw,if_true]
 left
 unfold Oper.wp;rw[hr,Oper.upon_value];exact hK
theorem Zly {P:Program}{a:Act}{o:Oper}{x:Operand}(ho:o.op= .move x) (w:World):(execOp a.eval o).run P w= .ok (.value (a.eval x)) w:=by
 unfold execOp;rw[ho];simp
theorem Zj7 {P:Program}{a:Act}{o:Oper}{x:Operand}{ty:TypeId}(ho:o.op= .range ty x) {s:ByteArray}(hx:a.eval x= .string s) (hty:P.underlying ty=some .string) (w:World):
  (execOp a.eval o).run P w= .ok (.value (.pointer (some ⟨w.heap.size,0,none⟩))) (w.iter s 0):=by
 unfold execOp;rw[ho];simp [hx,run_range_string w ty s hty]
theorem RunsW.overString {T:Tab}{c:Code}{id:Nat}{o1 o2:Oper}(g1:o1.guard=none) (g2:o2.guard=none) {j d1 d2:Nat}{ty:TypeId}(e1:o1.op= .move (.tmp j)) (e2:o2.op= .range ty (.tmp d1)) (k1:o1.dst=some d1) (k2:o2.dst=some d2)
  (hty:T.P.underlying ty=some .string) {t:List Value}{s:ByteArray}(hj:t[j]? =some (.string s)) (hd:d1<t.length) {sc:List Dec}{P:Ex→Lf→Prop}
  (hI:∀ r,RunsI T c r s 0 ((t.set d1 (.string s)).set d2 (.iface za (.pointer (some ⟨r,0,none⟩))),hT1,[]) fun e y _=>y.2.1=hT1∧P e y):
  RunsW T (.seq (.region id #[o1,o2] false) c) (t,⟨0,[]⟩,sc) P:=by
 intro m B a w R Q hQ;refine wp_seq (wp_region ?_);show wpOps T.P #[o1,o2] _ [0,1] a w;rw[wpOps_cons];have ev1:a.eval (.tmp j)= .string s:=by
  rw[Zy R.tmps (x:= .tmp j) rfl];simp [ev,List.getD,hj,mv,mv2,mv1]
 refine ZbU (o:=o1) (by rfl) g1 (Zly e1 w) ?_;rw[ev1,k1,wpOps_cons];have R1:Rel m B (t.set d1 (.string s),⟨0,[]⟩,[]) (a.put (some d1) (.string s)) w:=R.put (v:= .string s) (Agree.refl _ _) R.emb (Nat.le_refl _) (by simp [lt,lt2,lt1]) (some d1) [];have ev2:(a.put (some d1) (.string s)).eval (.tmp d1)= .string s:=by
  rw[Zy R1.tmps (x:= .tmp d1) rfl];simp [ev,List.getD,hd,mv,mv2,mv1]
 refine ZbU (o:=o2) (by rfl) g2 (Zj7 e2 ev2 hty w) ?_;rw[k2];show wpOps T.P #[o1,o2] _ [] _ _;have hsz:(w.iter s 0).heap.size=w.heap.size+1:=Zcg w _;have hold:∀ k,k<w.heap.size→(w.iter s 0).heap[k]? =w.heap[k]? :=fun k hk=>Za3 w _ k (by omega);have R2:Rel m (w.heap.size+1) ((t.set d1 (.string s)).set d2 (.iface za (.pointer (some ⟨w.heap.size,0,none⟩))),hT1,[]) ((a.put (some d1) (.string s)).put (some d2) (.pointer (some ⟨w.heap.size,0,none⟩))) (w.iter s 0):=by
  have E:Emb m (w.heap.size+1) hT1 (w.iter s 0):=ZsN m (by omega) (fun k h1 h2=>by omega);have R1':Rel m (w.heap.size+1) (t.set d1 (.string s),hT1,[]) (a.put (some d1) (.string s)) (w.iter s 0):=⟨R1.tmps,R1.dfr,E,fun v hv=>zT (Nat.zero_le _) (R1.wf v hv)⟩;have:=R1'.put (v:= .iface za (.pointer (some ⟨w.heap.size,0,none⟩))) (Agree.refl _ _) E (Nat.le_refl _) (by simp [lt,lt2,lt1,hT1]) (some d2) [];have em:mv m (.iface za (.pointer (some ⟨w.heap.size,0,none⟩)))= .pointer (some ⟨w.heap.size,0,none⟩):=by simp [mv,mv2,mv1]
  rw[em] at this;exact this
 refine hI w.heap.size m (w.heap.size+1) _ _ R2 (Nat.lt_succ_self _) (World.iter_heap w s 0) Q fun e y p' hp m' a' w' R' hb hi=> ?_;obtain⟨hy,hP⟩:=hp;have hB:=R.emb.base;have Eb:∀ k,k<w.heap.size→w'.heap[k]? =w.heap[k]? :=fun k hk=>by rw[hb.block k (by omega) (by omega),hold k hk]
 have E':Emb m' B hT1 w':=by
  refine ZsN m' ?_ fun k h1 h2=> ?_
  ·have:=hb.size;omega
  ·rcases Nat.lt_trichotomy k w.heap.size with h | h | h
   ·rw[Eb k h];exact R.emb.ice k h1 h
   ·subst h;rw[hi];intro c e z hz;cases hz
   ·have:=R'.emb.ice k (by omega) h2;exact this
 obtain⟨ty',hy',sy⟩:=y;simp only at hy;subst hy;exact hQ e _ hP m' a' w' ⟨R'.tmps,R'.dfr,E',R'.wf⟩ ⟨hb.os,hb.tape,hb.output,by have:=hb.size;omega,fun k hk=>Eb k (by omega)⟩
def World.setIt (w:World) (r:Nat) (s:ByteArray) (p:Nat):World:={w with heap:=w.heap.setIfInBounds r (.stringIter s p)}
theorem Zdb (w:World) (r:Nat) (s:ByteArray) (p:Nat):(World.setIt w r s p).heap.size=w.heap.size:=by simp [World.setIt]
theorem Zp4 {w:World}{r:Nat}(s:ByteArray) (p:Nat) (h:r<w.heap.size):(World.setIt w r s p).heap[r]? =some (.stringIter s p):=by simp [World.setIt,h]
theorem Zd7 (w:World) {r k:Nat}(s:ByteArray) (p:Nat) (h:k≠r):(World.setIt w r s p).heap[k]? =w.heap[k]? :=by
 simp only[World.setIt];rw[Array.getElem?_setIfInBounds];simp [Ne.symm h]
theorem Zlz {m:Mp}{B:Nat}{h:Hp}{w:World}(E:Emb m B h w) {r q:Nat}{s u:ByteArray}(hr:r<B) (hi:w.heap[r]? =some (.stringIter s q)) (p:Nat):Emb m B h (World.setIt w r u p):=by
 have ne:∀ {k:Nat}{c:Array Value}{t:TypeId}{z:Nat×Nat},w.heap[k]? =some (.cells c t z)→k≠r:=fun {k c t z} hk he=>by
  subst he;rw[hi] at hk;cases hk
 refine⟨E.len,fun b x hb ht=> ?_,E.low,E.ros,E.inj,E.wf,by rw[Zdb];exact E.base,fun k h1 h2=> ?_,fun b x hb ha=> ?_⟩
 ·have hl:=E.lies b x hb ht;refine hl.congr (Zd7 w u p ?_);obtain⟨r',z,_,l1,_⟩:=hl;exact ne l1
 ·rw[Zdb] at h2;rw[Zd7 w u p (by omega)];exact E.ice k h1 h2
 ·obtain⟨k1,r',t,z,k2⟩:=E.abs b x hb ha;exact⟨k1,r',t,z,by rw[Zd7 w u p (ne k2)];exact k2⟩
theorem Zl0 {P:Program}{a:Act}{o:Oper}{x:Operand}(ho:o.op= .next x true) {r p:Nat}{s:ByteArray}(hx:a.eval x= .pointer (some ⟨r,0,none⟩)) {w:World}(hi:w.heap[r]? =some (.stringIter s p)) (hp:p<s.size):
  (execOp a.eval o).run P w= .ok (.value (.tuple #[.bool true,.int .i64 p,.int .i32 (Utf8.decode s p).1])) (World.setIt w r s (p+(Utf8.decode s p).2)):=by
 unfold execOp;rw[ho];simp [hx,Instr.next,getObj,setObj,Sem.run,hi,hp,goInt,World.setIt]
theorem Zl1 {P:Program}{a:Act}{o:Oper}{x:Operand}(ho:o.op= .next x true) {r p:Nat}{s:ByteArray}(hx:a.eval x= .pointer (some ⟨r,0,none⟩)) {w:World}(hi:w.heap[r]? =some (.stringIter s p)) (hp:¬ p<s.size):
  (execOp a.eval o).run P w= .ok (.value (.tuple #[.bool false])) w:=by
 unfold execOp;rw[ho];simp [hx,Instr.next,getObj,Sem.run,hi,hp]
theorem Zds {P:Program}{a:Act}{o:Oper}{x:Operand}{k:Nat}(ho:o.op= .extract x k) {vs:Array Value}{v:Value}(hx:a.eval x= .tuple vs) (hv:vs[k]? =some v) (w:World):(execOp a.eval o).run P w= .ok (.value v) w:=by
 unfold execOp;rw[ho];simp [hx,Instr.extract,hv]
def itV (s:ByteArray) (p:Nat):Value:= .tuple #[.bool true,.int .i64 p,.int .i32 (Utf8.decode s p).1]
theorem RunsI.step {T:Tab}{r:Nat}{s:ByteArray}{id:Nat}{o1 o2:Oper}(g1:o1.guard=none) (g2:o2.guard=none) {j d1 d2:Nat}(e1:o1.op= .next (.tmp j) true) (e2:o2.op= .extract (.tmp d1) 0) (k1:o1.dst=some d1) (k2:o2.dst=some d2)
  {t:List Value}{h:Hp}{sc:List Dec}{p:Nat}(hj:t[j]? =some (.iface za (.pointer (some ⟨r,0,none⟩)))) (hd:d1<t.length):
  RunsI T (.region id #[o1,o2] false) r s p (t,h,sc) fun e y q=>e=none∧y.2.1=h∧((p<s.size∧q=p+(Utf8.decode s p).2∧y.1=(t.set d1 (itV s p)).set d2 (.bool true))∨(¬ p<s.size∧q=p∧y.1=(t.set d1 (.tuple #[.bool false])).set d2 (.bool false))):=by
 intro m B a w R hr hi Q hQ;refine wp_region ?_;show wpOps T.P #[o1,o2] _ [0,1] a w;rw[wpOps_cons];have ev1:a.eval (.tmp j)= .pointer (some ⟨r,0,none⟩):=by
  rw[Zy R.tmps (x:= .tmp j) rfl];simp [ev,List.getD,hj,mv,mv2,mv1]
 have hB:=R.emb.base;by_cases hp:p<s.size
 ·refine ZbU (o:=o1) (by rfl) g1 (Zl0 e1 ev1 hi hp) ?_;rw[k1,wpOps_cons];have E1:=Zlz (u:=s) R.emb hr hi (p+(Utf8.decode s p).2);have R0:Rel m B (t,h,sc) a (World.setIt w r s (p+(Utf8.decode s p).2)):=⟨R.tmps,R.dfr,E1,R.wf⟩;have m1:mv m (itV s p)=itV s p:=by simp [itV,mv,mv2,mv1]
  have R1:=R0.put (v:=itV s p) (Agree.refl _ _) E1 (Nat.le_refl _) (by simp [itV,lt,lt2,lt1]) (some d1) [];rw[m1] at R1;have ev2:(a.put (some d1) (itV s p)).eval (.tmp d1)=itV s p:=by
   rw[Zy R1.tmps (x:= .tmp d1) rfl];simp [ev,Ze3,List.getD,hd,m1]
  refine ZbU (o:=o2) (v:= .bool true) (by rfl) g2 (Zds e2 ev2 (by rfl) _) ?_;rw[k2];show Q .normal _ _;have R2:=R1.put (v:= .bool true) (Agree.refl _ _) E1 (Nat.le_refl _) (by simp [lt,lt2,lt1]) (some d2) [];have m2:mv m (.bool true)= .bool true:=by simp [mv,mv2,mv1]
  rw[m2] at R2;exact hQ none _ _ ⟨rfl,rfl,.inl ⟨hp,rfl,rfl⟩⟩ m _ _ R2 ⟨rfl,rfl,rfl,by rw[Zdb];exact Nat.le_refl _,fun k _ hk=>Zd7 w s _ hk⟩ (Zp4 s _ (by omega))
 ·refine ZbU (o:=o1) (by rfl) g1 (Zl1 e1 ev1 hi hp) ?_;rw[k1,wpOps_cons];have m1:mv m (.tuple #[.bool false])= .tuple #[.bool false]:=by simp [mv,mv2,mv1]
  have R1:=R.put (v:= .tuple #[.bool false]) (Agree.refl _ _) R.emb (Nat.le_refl _) (by simp [lt,lt2,lt1]) (some d1) [];rw[m1] at R1;have ev2:(a.put (some d1) (.tuple #[.bool false])).eval (.tmp d1)= .tuple #[.bool false]:=by
   rw[Zy R1.tmps (x:= .tmp d1) rfl];simp [ev,Ze3,List.getD,hd,m1]
  refine ZbU (o:=o2) (v:= .bool false) (by rfl) g2 (Zds e2 ev2 (by rfl) _) ?_;rw[k2];show Q .normal _ _;have R2:=R1.put (v:= .bool false) (Agree.refl _ _) R.emb (Nat.le_refl _) (by simp [lt,lt2,lt1]) (some d2) [];have m2:mv m (.bool false)= .bool false:=by simp [mv,mv2,mv1]
  rw[m2] at R2;exact hQ none _ _ ⟨rfl,rfl,.inr ⟨hp,rfl,rfl⟩⟩ m _ _ R2 (BelowI.of (Below.refl _ _)) hi
end Go.KRun
namespace Go.Proofs.YtjlponbdflkbjaaGreatDoor.Na
open Go.Proofs.Tryz
open Go.KRun
set_option maxRecDepth 100000
set_option linter.unusedVariables false
def ZfY (c:Int):Bool:=decide (c<48) || decide (c>57)
def fO:Value:= .func (.func 109) #[] #[]
theorem Z8L (c:Int):Z7 (Zm (Zk prog Zf Zn true) 100 109 [.int .i32 c] [cmp true]) (.bool true) [(decide (c<48),true)]:=by and_intros<;>kernel_rfl
theorem Z8M (c:Int) (d:Bool):Z7 (Zm (Zk prog Zf Zn true) 100 109 [.int .i32 c] [cmp false,cmp d]) (.bool d) [(decide (c>57),d),(decide (c<48),false)]:=by and_intros<;>kernel_rfl
def gOd:Ans:=fun vals s=>
 match vals,s with
 | [.int .i32 c],.inr (.inr (.inr (.inl d)))::s'=>some (.bool d,s',[(ZfY c,d)])
 | _,_=>none
theorem ZzM:ZR 109 gOd:=by
 intro vals s v s' lg h hl w;unfold gOd at h;split at h
 ·rename_i c d s2;cases h;have hd:ZfY c=d:=hl _ Xf;unfold ZfY at hd;by_cases h1:c<48
  ·rw[Xa h1,Bool.true_or] at hd;subst hd;exact Zc (Zj Zd) (Z8L c) (Z4 (Xa h1)) (by rfl) (by rfl) w
  ·rw[Xb h1,Bool.false_or] at hd;exact Zc (Zj Zd) (Z8M c d) (Za hd (Z4 (Xb h1))) (by rfl) (by rfl) w
 ·cases h
def ZzN:Con:=alt 109 gOd Zn
theorem Zp5:ConOk ZzN:=Z9 func109 rfl ZzM Zd
noncomputable def tabOd:Tab:=Zk prog Zf ZzN true
theorem Zc1:TabOk tabOd:=Zj Zp5
def iR0 (F:Func):Code:=Z2 (Zs F)
def iR1 (F:Func):Code:=Z2 (Z2 (Zz (Zs F)))
def iLp (F:Func):Code:=Zz (Z2 (Zz (Zs F)))
def iFn (F:Func):Code:=Zz (Zz (Zs F))
def iR2 (F:Func):Code:=Z2 (cIn (cIn (iLp F)))
def iBd (F:Func):Code:=Zz (cIn (cIn (iLp F)))
def iF (s:ByteArray) (a:Nat→Value):List Value:=[.string s,fO,.bool true,a 3,a 4,a 5,.int .i64 0,a 7,a 8,a 9]
def Zp6 (r:Nat):Value:= .iface za (.pointer (some ⟨r,0,none⟩))
def Z4S (q c:Int):Value:= .tuple #[.bool true,.int .i64 q,.int .i32 c]
theorem Z4T (s:ByteArray) (q c:Int) (r:Nat) (a g:Nat→Value):Zg (evC tabOd 300 false (iBd f145) (iF s a++[Zp6 r,Z4S q c,.bool true]++tl 8 g,hT1,[cmp false]) ⟨[],[],[]⟩) 11 10 none [.string s,fO,.bool true,a 3,a 4,a 5,.int .i64 0,.int .i64 q,.int .i32 c,a 9,Zp6 r] hT1 [(ZfY c,false)]:=by and_intros<;>kernel_rfl
theorem Z4U (s:ByteArray) (q c:Int) (r:Nat) (a g:Nat→Value):Zg (evC tabOd 300 false (iBd f145) (iF s a++[Zp6 r,Z4S q c,.bool true]++tl 8 g,hT1,[cmp true]) ⟨[],[],[]⟩) 7 14 (some none) [.string s,fO,.bool true,a 3,a 4,a 5,.int .i64 q] hT1 [(ZfY c,true)]:=by and_intros<;>kernel_rfl
theorem ZzO (s:ByteArray) (r:Nat) (a g:Nat→Value):Zg (evC tabOd 300 false (iBd f145) (iF s a++[Zp6 r,.tuple #[.bool false],.bool false]++tl 8 g,hT1,[]) ⟨[],[],[]⟩) 10 11 (some (some 0)) (iF s a) hT1 []:=by and_intros<;>kernel_rfl
theorem ZzP (s:ByteArray) (a g:Nat→Value):Zg (evC tabOd 300 false (iFn f145) (iF s a++tl 11 g,hT1,[]) ⟨[],[],[]⟩) 7 14 (some none) [.string s,fO,.bool true,a 3,a 4,a 5,.int .i64 (-1)] hT1 []:=by and_intros<;>kernel_rfl
theorem Z4V (s:ByteArray):Zg (evL tabOd 300 [iR0 f145] ([.string s,fO,.bool true]++List.replicate 18 undef,⟨0,[]⟩,[]) ⟨[],[],[]⟩) 7 14 none [.string s,fO,.bool true,undef,undef,undef,.int .i64 0] ⟨0,[]⟩ []:=by and_intros<;>kernel_rfl
def byT (s:ByteArray) (k:Nat):Int:=((s.data.toList.getD k 0).toNat:Nat)
def ixR (s:ByteArray):Nat→Int
 | 0=> -1
 | n+1=>if ZfY (byT s (s.size-(n+1)))=true then ((s.size-(n+1):Nat):Int) else ixR s n
def ixV (s:ByteArray):Int:=ixR s s.size
def Z4W:Code→Array Oper
 | .region _ ops _=>ops
 | _=> #[]
def Zp7 (c:Code) (k:Nat):Oper:=((Z4W c)[k]?).getD ⟨none,.move (.tmp 0),0, "",#[],none⟩
theorem ZzQ:iLp f145= .block 0 (.loop (.seq (.region 2 #[Zp7 (iR2 f145) 0,Zp7 (iR2 f145) 1] false) (iBd f145))):=by kernel_rfl
theorem ZzR:iR1 f145= .region 1 #[Zp7 (iR1 f145) 0,Zp7 (iR1 f145) 1] false:=by kernel_rfl
theorem Z4X:Zs f145=ZW [iR0 f145] (.seq (.seq (iR1 f145) (iLp f145)) (iFn f145)):=by kernel_rfl
theorem Zl2 {s:ByteArray}{p:Nat}(h:p<s.size):byT s p=((s[p]'h).toNat:Nat):=by
 unfold byT;have e:s.data.toList.getD p 0=s[p]'h:=by
  have h2:p<s.data.toList.length:=h;simp only[List.getD,List.getElem?_eq_getElem h2,Option.getD_some];rfl
 rw[e]
theorem Zp8 {s:ByteArray}{p:Nat}(h:p<s.size):ZfY (((Utf8.decode s p).1:Nat):Int)=ZfY (byT s p)∧(ZfY (byT s p)=false→(Utf8.decode s p).2=1):=by
 by_cases ha:(s[p]'h).toNat<128
 ·rw[decode_ascii s p h ha,Zl2 h];exact⟨rfl,fun _=>rfl⟩
 ·have hd:=(decode_high s p h (by omega)).1;have e1:ZfY (byT s p)=true:=by
   rw[Zl2 h];unfold ZfY;rw[Xa (show (((s[p]'h).toNat:Nat):Int)>57 by omega),Bool.or_true]
  refine⟨?_,fun h'=>by rw[e1] at h';cases h'⟩;rw[e1];unfold ZfY;rw[Xa (show (((Utf8.decode s p).1:Nat):Int)>57 by omega),Bool.or_true]
theorem Zp9 {s:ByteArray}{q:Nat}(h:q<s.size):ixR s (s.size-q)=if ZfY (byT s q)=true then (q:Int) else ixR s (s.size-(q+1)):=by
 obtain⟨n,hn⟩:∃ n,s.size-q=n+1:=⟨s.size-q-1,by omega⟩;rw[hn,show s.size-(q+1)=n by omega];simp only[ixR];rw[show s.size-(n+1)=q by omega]
theorem Zut {s:ByteArray}(r:Nat) (a g:Nat→Value) (x y:Value):
  RunsI tabOd (iLp f145) r s 0 (iF s a++[Zp6 r,x,y]++tl 8 g,hT1,[]) fun e z _=>z.2.1=hT1∧match e with
   | none=>ixV s= -1∧∃ a g,z.1=iF s a++tl 11 g
   | some none=>∃ u v w g,z.1=[.string s,fO,.bool true,u,v,w,.int .i64 (ixV s)]++tl 14 g
   | some (some _)=>False:=by
 rw[ZzQ];refine (RunsI.forLoop (P:=fun z _=>z.2.1=hT1∧ixV s= -1∧∃ a g,z.1=iF s a++tl 11 g)
  (R:=fun z _=>z.2.1=hT1∧∃ u v w g,z.1=[.string s,fO,.bool true,u,v,w,.int .i64 (ixV s)]++tl 14 g)
  (fun n z q=>n+q=s.size∧ixR s (s.size-q)=ixV s∧z.2.1=hT1∧∃ a x y g,z.1=iF s a++[Zp6 r,x,y]++tl 8 g) ?_ (n:=s.size) ⟨by omega,rfl,rfl,a,x,y,g,rfl⟩).mono fun e z q he=> ?_
 ·rintro n ⟨t,h',sc⟩ q ⟨hn,hA,hh,a,x,y,g,ht⟩;simp only at hh ht;subst hh ht;refine RunsI.seq (RunsI.step (j:=10) (d1:=11) (d2:=12) (by kernel_rfl) (by kernel_rfl) (by kernel_rfl) (by kernel_rfl) (by kernel_rfl) (by kernel_rfl) (by rfl) (by simp [iF,tl])) ?_ (fun e y q he=>by cases he.1);rintro⟨t,h',sc'⟩ q' ⟨_,hh,hc⟩;simp only at hh;subst hh;rcases hc with ⟨hq,hq',ht⟩ | ⟨hq,hq',ht⟩
  ·simp only at ht;have et:t=iF s a++[Zp6 r,Z4S (q:Nat) ((Utf8.decode s q).1:Nat),.bool true]++tl 8 g:=by rw[ht];rfl
   subst et;obtain⟨r1,r2⟩:=Zp8 hq;rw[Zp9 hq] at hA;cases hk:ZfY (byT s q) with
   | false=>
    rw[hk,if_neg (by decide)] at hA;refine ((Ze Zc1 (Z4T s (q:Nat) ((Utf8.decode s q).1:Nat) r a g) (Z4 (r1.trans hk))).i).mono fun e z q2 he=> ?_;obtain⟨rfl,rfl,⟨g1,e2⟩,e3⟩:=he;rw[r2 hk] at hq';refine⟨n-1,by omega,by omega,by rw[hq'];exact hA,e3,?_⟩;refine⟨fun k=>z.1.getD k undef,g1 0,g1 1,fun k=>g1 (k+2),?_⟩;rw[e2];rfl
   | true=>
    rw[hk,if_pos rfl] at hA;refine ((Ze Zc1 (Z4U s (q:Nat) ((Utf8.decode s q).1:Nat) r a g) (Z4 (r1.trans hk))).i).mono fun e z q2 he=> ?_;obtain⟨rfl,rfl,⟨g1,e2⟩,e3⟩:=he;rw[hA] at e2;exact⟨e3,_,_,_,g1,e2⟩
  ·simp only at ht;have et:t=iF s a++[Zp6 r,.tuple #[.bool false],.bool false]++tl 8 g:=by rw[ht];rfl
   subst et;have hqs:q=s.size:=by omega
   refine ((Ze Zc1 (ZzO s r a g) (fun x hx=>by cases hx)).i).mono fun e z q2 he=> ?_;obtain⟨rfl,rfl,⟨g1,e2⟩,e3⟩:=he;rw[hqs,Nat.sub_self] at hA;exact⟨rfl,e3,hA.symm,a,g1,e2⟩
 ·match e,he with
  | none,he=>exact he
  | some none,he=>exact he
theorem ZzS (s:ByteArray):RunsW tabOd (Zs f145) ([.string s,fO,.bool true]++List.replicate 18 undef,⟨0,[]⟩,[]) fun e y=>(e=none∨e=some none)∧ZV prog f145 y.1 y.2.1=some (.int .i64 (ixV s)):=by
 rw[Z4X];refine Z0 Zc1 (Z4V s) ZyO fun g=> ?_;refine RunsW.seq (P1:=fun e z=>z.2.1=hT1∧match e with
   | none=>ixV s= -1∧∃ a g,z.1=iF s a++tl 11 g
   | some none=>∃ u v w g,z.1=[.string s,fO,.bool true,u,v,w,.int .i64 (ixV s)]++tl 14 g
   | some (some _)=>False) ?_ ?_ ?_
 ·rw[ZzR];refine RunsW.overString (j:=0) (d1:=9) (d2:=10) (ty:=9) (by kernel_rfl) (by kernel_rfl) (by kernel_rfl) (by kernel_rfl) (by kernel_rfl) (by kernel_rfl) (by kernel_rfl) (by rfl) (by simp [tl]) fun r=> ?_;have et:(([.string s,fO,.bool true,undef,undef,undef,.int .i64 0]++tl 14 g).set 9 (.string s)).set 10 (.iface za (.pointer (some ⟨r,0,none⟩)))=
    iF s (fun k=>(([.string s,fO,.bool true,undef,undef,undef,.int .i64 0]++tl 14 g).set 9 (.string s)).getD k undef)++[Zp6 r,g 4,g 5]++tl 8 (fun k=>g (k+6)):=by rfl
  rw[et];exact (Zut r _ _ _ _).mono fun e z q he=>⟨he.1,he⟩
 ·rintro⟨t,h',sc⟩ ⟨hh,hA,a,g1,ht⟩;simp only at hh ht;subst hh ht;refine (Ze Zc1 (ZzP s a g1) (fun x hx=>by cases hx)).mono fun e z he=> ?_;obtain⟨rfl,⟨g2,e2⟩,e3⟩:=he;refine⟨.inr rfl,?_⟩;rw[e2,e3,hA];rfl
 ·rintro e ⟨t,h',sc⟩ ⟨hh,hc⟩
  match e,hc with
  | none,hc=>
   obtain⟨u,v,w,g1,ht⟩:=hc;simp only at hh ht;subst hh ht;exact⟨.inr rfl,rfl⟩
theorem ZpA (s:ByteArray) (w:World):Calls prog 145 #[.string s,fO,.bool true] w fun e w'=>e= .returned (.int .i64 (ixV s))∧Zal w w':=
 Ze4 (T:=tabOd) (c:=Zs f145) (vals:=[.string s,fO,.bool true]) func145 (by kernel_rfl) (by rfl) (by rfl) (ZzS s) w
def gIx:Ans:=fun vals s=>
 match vals with
 | [.string b,.func (.func f) ⟨[]⟩ ⟨[]⟩,.bool true]=>some (.int .i64 (ixV b),s,[(Nat.beq f 109,true)])
 | _=>none
theorem ZzT:ZR 145 gIx:=by
 intro vals s v s' lg h hl w;unfold gIx at h;split at h
 ·rename_i b f;cases h;have hf:=Xj (hl _ Xf);subst hf;exact ZpA b w
 ·cases h
def Zj8:Con:=alt 145 gIx Zn
theorem Zd8:ConOk Zj8:=Z9 func145 rfl ZzT Zd
theorem Zuu (s:ByteArray) (d:Bool):Z7 (Zm (Zk prog Zf Zj8 true) 100 110 [.string s,fO] [cmp d]) (.bool d) [(decide (ixV s≥0),d),(true,true)]:=by and_intros<;>kernel_rfl
def gCf:Ans:=fun vals s=>
 match vals,s with
 | [.string b,.func (.func f) ⟨[]⟩ ⟨[]⟩],.inr (.inr (.inr (.inl d)))::s'=>some (.bool d,s',[(decide (ixV b≥0),d),(Nat.beq f 109,true)])
 | _,_=>none
theorem ZzU:ZR 110 gCf:=by
 intro vals s v s' lg h hl w;unfold gCf at h;split at h
 ·rename_i b f d s2;cases h;have h1:=hl _ Xe;have hf:=Xj (hl _ (Xd _ Xf));subst hf;exact Zc (Zj Zd8) (Zuu b d) (Za h1 (Z4 rfl)) (by rfl) (by rfl) w
 ·cases h
def ZoC (s:ByteArray):Prop:=∀ j,j<s.size→ZfY (byT s j)=false
theorem Zl3 (s:ByteArray):∀ n,n≤s.size→(ixR s n<0↔∀ j,s.size-n≤j→j<s.size→ZfY (byT s j)=false)
 | 0,_=>by simp [ixR];intro j h1 h2;omega
 | n+1,hn=>by
  simp only[ixR];cases hk:ZfY (byT s (s.size-(n+1))) with
  | true=>
   rw[if_pos rfl];constructor
   ·intro h;omega
   ·intro h;have:=h (s.size-(n+1)) (Nat.le_refl _) (by omega);rw[hk] at this;cases this
  | false=>
   rw[if_neg (by decide),Zl3 s n (by omega)];constructor
   ·intro h j h1 h2;by_cases h3:j=s.size-(n+1)
    ·rw[h3];exact hk
    ·exact h j (by omega) h2
   ·intro h j h1 h2;exact h j (by omega) h2
theorem ZbD (s:ByteArray):¬ ixV s≥0↔ZoC s:=by
 have h:=Zl3 s s.size (Nat.le_refl _);unfold ixV ZoC;constructor
 ·intro h1 j hj;exact h.1 (by omega) j (by omega) hj
 ·intro h1 h2;have:=h.2 fun j _ hj=>h1 j hj;omega
end Go.Proofs.YtjlponbdflkbjaaGreatDoor.Na
namespace Go.Nt
theorem Zc2:∀ (m:Nat) (V c:Int),dg m (V+4294967296^m*c)=dg m V
 | 0,_,_=>rfl
 | m+1,V,c=>by
  simp only[dg];rw[pw,Int.mul_assoc];generalize hZ:(4294967296:Int)^m*c=Z;have e1:(V+4294967296*Z) % 4294967296=V % 4294967296:=by omega
  have e2:(V+4294967296*Z)/4294967296=V/4294967296+Z:=by omega
  rw[e1,e2,← hZ,Zc2 m]
theorem ZdZ {k:Nat}(h:k≤32):(2:Int)^k*2^(32-k)=4294967296:=by
 rw[← Int.pow_add,show k+(32-k)=32 from by omega];rfl
theorem ZsO {k:Nat}{z y:Int}(z0:0≤z) (y0:0≤y) (y1:y<2^k) (hs:2^k*z+y<4294967296):(((BitVec.ofInt 32 (2^k*z) ||| BitVec.ofInt 32 y).toNat:Nat):Int)=2^k*z+y:=by
 obtain⟨Z,rfl⟩:=Int.eq_ofNat_of_zero_le z0;obtain⟨Y,rfl⟩:=Int.eq_ofNat_of_zero_le y0;have ex:(2:Int)^k*(Z:Nat)=((2^k*Z:Nat):Int):=by simp
 have hY:Y<2^k:=by
  have:((Y:Nat):Int)<((2^k:Nat):Int):=by simpa using y1
  exact Int.ofNat_lt.1 this
 rw[ex] at hs ⊢;have hX:2^k*Z+Y<4294967296:=by omega
 have e1:∀ m:Nat,m<4294967296→(BitVec.ofInt 32 (m:Int)).toNat=m:=fun m hm=>by
  simp;omega
 rw[BitVec.toNat_or,e1 _ (by omega),e1 _ (by omega),← Nat.two_pow_add_eq_or_of_lt hY];omega
theorem Zuv {x l q r:Int}(hq:1≤q) (hr:1≤r) (hqr:q*r=4294967296) (hx:0≤x∧x<4294967296) (hl:0≤l∧l<q):
  x*q=4294967296*(x/r)+q*(x % r)∧0≤q*(x % r)∧q*(x % r)+l<4294967296∧0≤x/r∧x/r<q:=by
 have h1:=Int.mul_ediv_add_emod x r;have h2:=Int.emod_nonneg x (show r≠0 by omega);have h3:=Int.emod_lt_of_pos x (show 0<r by omega);have h4:0≤x/r:=Int.ediv_nonneg hx.1 (by omega);generalize x/r=hi at*;generalize x % r=lo at*;have e1:x*q=4294967296*hi+q*lo:=by
  rw[← h1,← hqr,Int.add_mul,Int.mul_assoc q r hi,Int.mul_comm (r*hi) q,Int.mul_comm lo q]
 have e2:q*lo+q≤4294967296:=by
  have:=Int.mul_le_mul_of_nonneg_left (show lo+1≤r by omega) (show 0≤q by omega);rw[Int.mul_add,Int.mul_one,hqr] at this;exact this
 refine⟨e1,Int.mul_nonneg (by omega) h2,by omega,h4,?_⟩;rcases Int.lt_or_le hi q with h | h
 ·exact h
 ·exfalso
  have:=Int.mul_le_mul_of_nonneg_left h (show 0≤r by omega);rw[Int.mul_comm r q,hqr] at this;omega
theorem Zl4 {P a b q x l d e A:Int}(he:x*q+l=d+4294967296*e) (h:a+P*((x+4294967296*A)*q+l)=b):a+P*d+4294967296*P*(A*q+e)=b:=by
 rw[← h];have e1:(x+4294967296*A)*q+l=d+4294967296*(A*q+e):=by
  rw[Int.add_mul,Int.mul_assoc];omega
 rw[e1];generalize A*q+e=Z;rw[Int.mul_add P d,← Int.mul_assoc P 4294967296 Z,Int.mul_comm P 4294967296];omega
end Go.Nt
namespace Go.Proofs.YtjlponbdflkbjaaGreatDoor.Na
open Go.Proofs.Tryz
open Go.IntKind
open Go.KRun Go.Nt
set_option maxRecDepth 100000
def upU (x k:Int):Int:=u32.wrap (x*2^min k.toNat 32)
def ZpB (x k l:Int):Int:=brr (upU x k) l
def ZpC (x k:Int):Int:=x.fdiv (2^min (i64.wrap (32-k)).toNat 32)
theorem Z88 {x l:Int}{k:Nat}(hx:0≤x∧x<4294967296) (hl:0≤l∧l<2^k) (hk:k<32):
  (0≤ZpB x k l∧ZpB x k l<4294967296)∧(0≤ZpC x k∧ZpC x k<2^k)∧x*2^k+l=ZpB x k l+4294967296*ZpC x k:=by
 have q1:(1:Int)≤2^k:=by have:(0:Int)<2^k:=Int.pow_pos (by omega);omega
 have r1:(1:Int)≤2^(32-k):=by have:(0:Int)<2^(32-k):=Int.pow_pos (by omega);omega
 obtain⟨u1,u2,u3,u4,u5⟩:=Zuv q1 r1 (ZdZ (by omega)) hx hl;have eL:ZpC x k=x/2^(32-k):=by
  unfold ZpC;rw[Zw (by omega) (by omega),show min ((32:Int)-(k:Nat)).toNat 32=32-k from by omega,Int.fdiv_eq_ediv_of_nonneg _ (by omega)]
 have eU:upU x k=2^k*(x % 2^(32-k)):=by
  unfold upU;rw[Xg,show min k 32=k from by omega,ZgS,u1];omega
 have lo0:=Int.emod_nonneg x (show (2:Int)^(32-k)≠0 by omega);have eN:ZpB x k l=2^k*(x % 2^(32-k))+l:=by
  unfold ZpB brr;rw[eU,ZsO lo0 hl.1 hl.2 u3,ZgS];omega
 rw[eL,eN];omega
def mR0 (F:Func):List Code:=[Z2 (Zs F),Z2 (Zz (Zs F))]
def mL (F:Func):Code:=cIn (cIn (Zz (Zz (Zs F))))
theorem Zin:f119.body=some (ZW (mR0 f119) (.block 0 (.loop (mL f119)))):=by kernel_rfl
def mF (w k l i x s n j:Value):List Value:=[w,k,undef,undef,l,i,x,s,n,j]
def hU (S la:List Value):Hp:=⟨2,[(S,tU),(la,tR)]⟩
theorem Zl5 (b o n c:Nat) (k:Value) (h:Hp):Zg (evL (Zk prog Zf Zn true) 100 (mR0 f119) ([sl b o n c,k]++List.replicate 25 undef,h,[]) ⟨[],[],[]⟩) 10 17 none (mF (sl b o n c) k (uu 0) undef undef (sl b o n c) (i6' n) (i6' 0)) h []:=by and_intros<;>kernel_rfl
theorem Zl6 (w k l i x s:Value) (n:Nat) (j:Int) (h:Hp) (g:Nat→Value):Zg (evC (Zk prog Zf Zn true) 100 false (mL f119) (mF w k l i x s (i6' n) (i6' j)++tl 17 g,h,[cmp false]) ⟨[],[],[]⟩) 10 17 (some (some 0)) (mF w k l i x s (i6' n) (i6' j)) h [(decide (j<n),false)]:=by and_intros<;>kernel_rfl
theorem ZzV (o n c:Nat) (k l j x:Int) (i0 x0:Value) (la S:List Value) (g:Nat→Value):Zg (evC (Zk prog Zf Zn true) 100 false (mL f119) (mF (sl 1 o n c) (i6' k) (uu l) i0 x0 (sl 1 o n c) (i6' n) (i6' j)++tl 17 g,hU S la,[cmp true,at_,val (uu x),at_,at_]) ⟨[],[],[]⟩) 10 17 none
  (mF (sl 1 o n c) (i6' k) (uu (ZpC x k)) (i6' j) (uu x) (sl 1 o n c) (i6' n) (i6' (i64.wrap (j+1)))) (hU (S.set (o+j.toNat*1) (uu (ZpB x k l))) la) [(decide (i64.wrap (32-k)<0),false),(decide (o+j.toNat*1<S.length),true),inR j n,(decide (k<0),false),Zdr S o j x,inR j n,(decide (j<n),true)]:=by and_intros<;>kernel_rfl
theorem Zl7 (w k l i x s n j:Value) (h:Hp) (g:Nat→Value):ZV prog f119 (mF w k l i x s n j++tl 17 g) h=some (.tuple #[]):=by kernel_rfl
def ZaB:List UInt8:=(List.range 256).map fun i=>UInt8.ofNat (bitLen i)
def Zea (z:Int):Int:=((ZaB.getD (u8.wrap z).toNat 0).toNat:Int)
def lt8 (z:Int):Bool×Bool:=(decide (0≤u8.wrap z∧(u8.wrap z).toNat<ZaB.length),true)
def shd (z:Int) (k:Nat):Int:=z.fdiv (2^k)
def geq (z k:Int) (d:Bool):Bool×Bool:=(decide (z≥k),d)
def Zfy (m z:Int):Value:= .int .i64 (i64.wrap (m+i64.wrap (Zea z)))
def nz:Bool×Bool:=(false,false)
theorem ZzW (u:Int):Z7 (Zm (Zk prog Zf Zn true) 3000 118 [uu u] [tst false,tst false]) (Zfy 0 u) [lt8 u,geq u 256 false,geq u 65536 false]:=by and_intros<;>kernel_rfl
theorem ZzX (u:Int):Z7 (Zm (Zk prog Zf Zn true) 3000 118 [uu u] [tst false,tst true]) (Zfy 8 (shd u 8)) [lt8 (shd u 8),nz,geq u 256 true,geq u 65536 false]:=by and_intros<;>kernel_rfl
theorem ZzY (u:Int):Z7 (Zm (Zk prog Zf Zn true) 3000 118 [uu u] [tst true,tst false]) (Zfy 16 (shd u 16)) [lt8 (shd u 16),geq (shd u 16) 256 false,nz,geq u 65536 true]:=by and_intros<;>kernel_rfl
theorem ZzZ (u:Int):Z7 (Zm (Zk prog Zf Zn true) 3000 118 [uu u] [tst true,tst true]) (Zfy 24 (shd (shd u 16) 8)) [lt8 (shd (shd u 16) 8),nz,geq (shd u 16) 256 true,nz,geq u 65536 true]:=by and_intros<;>kernel_rfl
theorem Zdc:ZaB.length=256:=by unfold ZaB;rw[List.length_map,List.length_range]
theorem Zdd (b:Nat) (h:b<256):(ZaB.getD b 0).toNat=bitLen b:=by
 have h1:ZaB.getD b 0=UInt8.ofNat (bitLen b):=by
  unfold ZaB;rw[List.getD,List.getElem?_map,List.getElem?_range h];rfl
 have h2:=bitLen_le8 b h;rw[h1,UInt8.toNat_ofNat'];omega
theorem Zhh {z:Int}(h0:0≤z) (h1:z<256):u8.wrap z=z:=by
 simp [IntKind.wrap,IntKind.bits,IntKind.signed];omega
theorem zV {m:Int}{Z:Nat}(hm:0≤m) (hm':m≤56) (h1:Z<256):Zfy m (Z:Int)= .int .i64 (m+bitLen Z)∧(lt8 (Z:Int)).1=(lt8 (Z:Int)).2:=by
 have hb:=bitLen_le8 Z h1;have e:=Zhh (z:=(Z:Int)) (by omega) (by omega);refine⟨?_,?_⟩
 ·unfold Zfy Zea;rw[e,Xg,Zdd Z h1,Zw (n:=((bitLen Z:Nat):Int)) (by omega) (by omega),Zw (by omega) (by omega)]
 ·unfold lt8;rw[e,Xg];rw[Zdc];exact Xa (And.intro (by omega) h1)
theorem Zeb (Z k:Nat):shd (Z:Int) k=((Z/2^k:Nat):Int):=by
 unfold shd;rw[Int.fdiv_eq_ediv_of_nonneg _ (Int.le_of_lt (Int.pow_pos (by omega)))];simp
theorem Zl8 {z k:Int}(h:k≤z):(geq z k true).1=(geq z k true).2:=Xa h
theorem Zfz {z k:Int}(h:z<k):(geq z k false).1=(geq z k false).2:=Xb (by omega)
theorem Zbc:nz.1=nz.2:=rfl
theorem ZaC (x b:Nat) (h:2^b≤x):bitLen x=b+bitLen (x/2^b):=bitLen_shift x b (by
 have:0<x/2^b:=Nat.div_pos h (Nat.two_pow_pos b);omega)
def Zl9 (u:Int):Value:= .int .i64 (bitLen u.toNat:Nat)
theorem Zhi (u:Int) (h0:0≤u) (h1:u<4294967296) (w:World):Calls prog 118 #[uu u] w fun e w'=>e= .returned (Zl9 u)∧Zal w w':=by
 obtain⟨U,rfl⟩:=Int.eq_ofNat_of_zero_le h0;unfold Zl9;rw[Xg];have p8:(2:Nat)^8=256:=rfl;have p16:(2:Nat)^16=65536:=rfl;have step:∀ {v:Value}{s:List Dec}{cs:Log},Z7 (Zm (Zk prog Zf Zn true) 3000 118 [uu (U:Int)] s) v cs→Z3 cs→v= .int .i64 (bitLen U:Nat)→Calls prog 118 #[uu (U:Int)] w fun e w'=>e= .returned (.int .i64 (bitLen U:Nat))∧Zal w w':=
  fun {v s cs} hf hc hv=>by subst hv;exact Zc (Zj Zd) hf hc (by rfl) (by rfl) w
 by_cases b:U<65536
 ·by_cases c:U<256
  ·obtain⟨e1,e2⟩:=zV (m:=0) (by omega) (by omega) c;exact step (ZzW U) (Zi e2 (Zi (Zfz (by omega)) (Zt (Zfz (by omega))))) (by rw[e1];congr 1;omega)
  ·have l:=ZaC U 8 (by omega);obtain⟨e1,e2⟩:=zV (m:=8) (Z:=U/2^8) (by omega) (by omega) (by omega);rw[← Zeb] at e1 e2;exact step (ZzX U) (Zi e2 (Zi Zbc (Zi (Zl8 (by omega)) (Zt (Zfz (by omega)))))) (by rw[e1];congr 1;omega)
 ·have l:=ZaC U 16 (by omega);by_cases c:U/2^16<256
  ·obtain⟨e1,e2⟩:=zV (m:=16) (Z:=U/2^16) (by omega) (by omega) c;rw[← Zeb] at e1 e2;exact step (ZzY U) (Zi e2 (Zi (Zfz (by rw[Zeb];omega)) (Zi Zbc (Zt (Zl8 (by omega)))))) (by rw[e1];congr 1;omega)
  ·have l2:=ZaC (U/2^16) 8 (by omega);obtain⟨e1,e2⟩:=zV (m:=24) (Z:=U/2^16/2^8) (by omega) (by omega) (by omega);rw[← Zeb,← Zeb] at e1 e2;exact step (ZzZ U) (Zi e2 (Zi Zbc (Zi (Zl8 (by rw[Zeb];omega)) (Zi Zbc (Zt (Zl8 (by omega))))))) (by rw[e1];congr 1;omega)
def ZlA:Ans:=fun vals s=>
 match vals with
 | [.int .u32 x]=>some (Zl9 x,s,[(decide (0≤x∧x<4294967296),true)])
 | _=>none
theorem ZlB:ZR 118 ZlA:=by
 intro vals s v s' lg h hl w;unfold ZlA at h;split at h
 ·rename_i x;cases h;have hr:=hl _ Xf;simp only[Xi] at hr;exact Zhi x hr.1 hr.2 w
 ·cases h
def ZeV:Con:=alt 118 ZlA Zn
theorem ZaT:ConOk ZeV:=Z9 func118 rfl ZlB Zd
theorem ZlC:f79.body=some (Zs f79):=by kernel_rfl
theorem Z0a (p:Option Addr) (n c:Nat) (h:Hp):Zg (evC (Zr prog Zf ZeV hcK) 100 false (Zs f79) ([.slice p n c]++List.replicate 22 undef,h,[cmp true]) ⟨[],[],[]⟩) 3 20 (some none) [.slice p n c,undef,i6' 0] h [((n:Int)==0,true)]:=by and_intros<;>kernel_rfl
theorem ZpD (o n c:Nat) (l:List Value):Zg (evC (Zr prog Zf ZeV hcK) 100 false (Zs f79) ([sl 0 o n c]++List.replicate 22 undef,⟨1,[(l,tR)]⟩,[cmp false,cmp true]) ⟨[],[],[]⟩) 3 20 (some none) [sl 0 o n c,undef,i6' 0] ⟨1,[(l,tR)]⟩ [Zhg l o n c,(ZU (Zx l o n),true),((n:Int)==0,false)]:=by and_intros<;>kernel_rfl
theorem ZlD (o n c:Nat) (x:Int) (l:List Value):Zg (evC (Zr prog Zf ZeV hcK) 100 false (Zs f79) ([sl 0 o n c]++List.replicate 22 undef,⟨1,[(l,tR)]⟩,[cmp false,cmp false,at_,val (uu x)]) ⟨[],[],[]⟩) 3 20 (some none) [sl 0 o n c,undef,i6' (i64.wrap (i64.wrap (n1 n*32)+(bitLen x.toNat:Nat)))] ⟨1,[(l,tR)]⟩ [(decide (0≤x∧x<4294967296),true),(Z5 (l[o+(n1 n).toNat*1]?) (.int .u32 x),true),(decide (0≤n1 n∧n1 n<n),true),Zhg l o n c,(ZU (Zx l o n),false),((n:Int)==0,false)]:=by and_intros<;>kernel_rfl
def Zdy (L:List Int):Int:=match (L.length==0 || ZU L) with | true=>0 | false=>32*((L.length-1:Nat):Int)+(bitLen (L.getD (L.length-1) 0).toNat:Nat)
theorem Zec {x:Int}(h0:0≤x) (h1:x<4294967296):bitLen x.toNat≤32:=by
 by_cases h:65536≤x.toNat
 ·have p8:(2:Nat)^8=256:=rfl;have p16:(2:Nat)^16=65536:=rfl;have l:=ZaC x.toNat 16 (by omega);by_cases h2:256≤x.toNat/2^16
  ·have l2:=ZaC (x.toNat/2^16) 8 (by omega);have:=bitLen_le8 (x.toNat/2^16/2^8) (by omega);omega
  ·have:=bitLen_le8 (x.toNat/2^16) (by omega);omega
 ·have p8:(2:Nat)^8=256:=rfl;by_cases h2:256≤x.toNat
  ·have l2:=ZaC x.toNat 8 (by omega);have:=bitLen_le8 (x.toNat/2^8) (by omega);omega
  ·have:=bitLen_le8 x.toNat (by omega);omega
theorem ZlE {l:List Value}{o n c:Nat}(ha:Z6 tR l o n c=true):
  Runs (Zr prog Zf ZeV hcK) (Zs f79) ([sl 0 o n c]++List.replicate 22 undef,⟨1,[(l,tR)]⟩,[]) fun e y=>(e=none∨e=some none)∧ZV prog f79 y.1 y.2.1=some (i6' (Zdy (Zx l o n))):=by
 obtain⟨a1,a2,a3,a4,a5,a6,a7⟩:=ZH ha;unfold Zdy;by_cases h0:n=0
 ·have e0:((Zx l o n).length==0)=true:=by rw[a2,h0];rfl
  rw[e0,Bool.true_or];refine (Zb (Zh ZaT ZeR) (Z0a (some ⟨0,o,none⟩) n c _) (Zt (by rw[h0];rfl))).mono fun e y he=> ?_;obtain⟨rfl,⟨g,e2⟩,e3⟩:=he;refine⟨.inr rfl,?_⟩;rw[e2,e3];rfl
 ·have e0:((Zx l o n).length==0)=false:=by rw[a2];simpa using h0
  have e1:((n:Int)==0)=false:=by simpa using h0
  rw[e0,Bool.false_or];cases hb:ZU (Zx l o n) with
  | true=>
   refine (Zb (Zh ZaT ZeR) (ZpD o n c l) (Zi ha (Zi hb (Zt e1)))).mono fun e y he=> ?_;obtain⟨rfl,⟨g,e2⟩,e3⟩:=he;refine⟨.inr rfl,?_⟩;rw[e2,e3];rfl
  | false=>
   have h8:n≤8192:=by
    unfold ZU at hb;simp only[Bool.or_eq_false_iff,decide_eq_false_iff_not,a2] at hb;omega
   have ek:n1 n=((n-1:Nat):Int):=by
    unfold n1;rw[Zw (by omega) (by omega)];omega
   rw[a2];have hx:=a1.rng ((Zx l o n).getD (n-1) 0) (by
    have hk':n-1<(Zx l o n).length:=by omega
    simp [List.getD,List.getElem?_eq_getElem hk'])
   have hc:=a1.cell (k:=n-1) (by omega);have b32:=Zec hx.1 hx.2;refine (Zb (Zh ZaT ZeR) (ZlD o n c ((Zx l o n).getD (n-1) 0) l) (Zi (Xa hx) (Zi (by
    rw[ek,Xg,Nat.mul_one,hc];simp [Z5]) (Zi (by rw[ek];exact Xa (by omega)) (Zi ha (Zi hb (Zt e1))))))).mono fun e y he=> ?_
   obtain⟨rfl,⟨g,e2⟩,e3⟩:=he;refine⟨.inr rfl,?_⟩;have e4:i64.wrap (i64.wrap (n1 n*32)+(bitLen ((Zx l o n).getD (n-1) 0).toNat:Nat))=32*((n-1:Nat):Int)+(bitLen ((Zx l o n).getD (n-1) 0).toNat:Nat):=by
    rw[ek,Zw (n:=((n-1:Nat):Int)*32) (by omega) (by omega),Zw (by omega) (by omega)];omega
   rw[e2,e3,e4];rfl
theorem ZpE:Z7 (Zm (Zk prog Zf Zn true) 100 79 [Zp] []) (i6' 0) []:=by and_intros<;>kernel_rfl
def Z4o:Zad:=fun vals h s=>
 match vals with
 | [.slice none 0 0]=>some (i6' 0,h,s,[])
 | [.slice (some ⟨b,o,none⟩) n c]=>
  match h.blk? b with
  | some x=>some (i6' (Zdy (Zx x.1 o n)),h,s,[(Z6 x.2 x.1 o n c,true)])
  | _=>none
 | _=>none
theorem Zhj:Z8 79 Z4o:=by
 intro vals h s v h' s' lg hg hl m B w E hv;unfold Z4o at hg;split at hg
 ·cases hg;refine (Zc (Zj Zd) ZpE (fun x hx=>by cases hx) (by rfl) (by rfl) w).mono fun e w' he=> ?_;obtain⟨E',hb⟩:=zc E he.2;exact⟨m,he.1,⟨Agree.refl _ _,E',hb,Nat.le_refl _,rfl⟩⟩
 ·rename_i b o n c;split at hg
  ·rename_i x hx;cases hg;have ra:=hl _ Xf;obtain⟨h1,h2,h3,h4,h5,h6,h7⟩:=ZH ra;have hlt:=Hp.blk_lt hx;have r:=ZlE (zE ra);have:=zi (T:=Zr prog Zf ZeV hcK) func79 ZlC (ZaK h7) (vals:=[sl 0 o n c]) (fun v hv=>by rw[List.mem_singleton.1 hv];rfl) (by rfl) r E (s:=fun _=>b) (fun i _=>hlt) (zH hx h5 h6 rfl);exact this.mono fun e w' he=>⟨m,he.1,he.2⟩
  ·cases hg
 ·cases hg
end Go.Proofs.YtjlponbdflkbjaaGreatDoor.Na
namespace Go.Proofs.YtjlponbdflkbjaaGreatDoor.Na
open Go.KRun Go.Nt
set_option maxRecDepth 100000
theorem ZbE (L:List Int):(wU L).all still=true:=by
 unfold wU;rw[List.all_eq_true];intro v hv;obtain⟨x,_,rfl⟩:=List.mem_map.1 hv;rfl
end Go.Proofs.YtjlponbdflkbjaaGreatDoor.Na
