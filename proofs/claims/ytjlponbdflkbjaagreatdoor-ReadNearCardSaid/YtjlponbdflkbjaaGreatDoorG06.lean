/-
  ConN1, UuW, ConN2, ConN3, ConN4, NumO, ConN5, ConN7, ConN8, NumP, ConN9, ConNA, NumV
-/
import Derived.Test.YtjlponbdflkbjaaGreatDoorG05
namespace Go.Proofs.YtjlponbdflkbjaaGreatDoor
open Go.Proofs.Tryz
open Go.IntKind
open Go.KRun Go.Nt
set_option maxRecDepth 100000
def wU (L:List Int):List Value:=L.map (Value.int .u32)
def tU:TypeId:=104
def tR:TypeId:=104+za
theorem Zpe:ro tR=true:=by kernel_rfl
theorem Zpf:ab tR=false:=by kernel_rfl
theorem ZbB:Zak tR=false:=by kernel_rfl
theorem Zpg:rt tR=tU:=by kernel_rfl
def sl (b o n c:Nat):Value:= .slice (some ⟨b,o,none⟩) n c
def Zp:Value:= .slice none 0 0
def ZyP (F:Func):List Code:=[Z2 (Zs F)]
def ZkZ (F:Func):Code:=cIn (cIn (Z2 (Zz (Zs F))))
def Z4L (F:Func):Code:=Zz (Zz (Zs F))
theorem Zla:f112.body=some (ZW (ZyP f112) (.seq (.block 0 (.loop (ZkZ f112))) (Z4L f112))):=by kernel_rfl
theorem Zph (v:Value) (h:Hp):Zg (evL (Zk prog Zf Zn true) 100 (ZyP f112) ([v]++List.replicate 20 uZ,h,[]) ⟨[],[],[]⟩) 3 18 none [v,uZ,Zp] h []:=by and_intros<;>kernel_rfl
def n1 (n:Nat):Int:=i64.wrap ((n:Int)-1)
theorem Zud (o n c:Nat) (x:Int) (l:List Value) (j1 j2:Value) (g:Nat→Value):GoesE (evC (Zk prog Zf Zn true) 100 false (ZkZ f112) ([sl 0 o n c,j1,j2]++tl 18 g,⟨1,[(l,tR)]⟩,[cmp true,at_,val (.int .u32 x),cmp true,num 0]) ⟨[],[],[]⟩) 3 18 none
  [sl 0 o (n1 n).toNat c,j1,j2] ⟨1,[(l,tR)]⟩ [(ZA c,true),(ZQ 0 (n1 n) c c,true),(decide ((c:Int)=0∧(0:Int)≠0),false),(x==0,true),(Z5 (l[o+(n1 n).toNat*1]?) (.int .u32 x),true),(decide (0≤n1 n∧n1 n<n),true),(decide ((n:Int)>0),true)]:=by unfold GoesE;kernel_rfl
theorem Zlb (j1 j2:Value) (p:Option Addr) (n c:Nat) (h:Hp) (g:Nat→Value):GoesE (evC (Zk prog Zf Zn true) 100 false (ZkZ f112) ([.slice p n c,j1,j2]++tl 18 g,h,[cmp false]) ⟨[],[],[]⟩) 3 18 (some (some 0))
  [.slice p n c,j1,j2] h [(decide ((n:Int)>0),false)]:=by unfold GoesE;kernel_rfl
theorem Zlc (o n c:Nat) (x:Int) (l:List Value) (j1 j2:Value) (g:Nat→Value):GoesE (evC (Zk prog Zf Zn true) 100 false (ZkZ f112) ([sl 0 o n c,j1,j2]++tl 18 g,⟨1,[(l,tR)]⟩,[cmp true,at_,val (.int .u32 x),cmp false]) ⟨[],[],[]⟩) 3 18 (some (some 0))
  [sl 0 o n c,j1,j2] ⟨1,[(l,tR)]⟩ [(x==0,false),(Z5 (l[o+(n1 n).toNat*1]?) (.int .u32 x),true),(decide (0≤n1 n∧n1 n<n),true),(decide ((n:Int)>0),true)]:=by unfold GoesE;kernel_rfl
theorem Zpi (v j1 j2:Value) (h:Hp) (g:Nat→Value):Zg (evC (Zk prog Zf Zn true) 100 false (Z4L f112) ([v,j1,j2]++tl 18 g,h,[]) ⟨[],[],[]⟩) 3 18 (some none) [v,j1,v] h []:=by and_intros<;>kernel_rfl
def Zpj:Value→Int
 | .int _ n=>n
 | _=>0
def isU:Value→Bool
 | .int .u32 n=>decide (0≤n∧n<4294967296)
 | _=>false
theorem Zfv {v:Value}(h:isU v=true):v= .int .u32 (Zpj v)∧0≤Zpj v∧Zpj v<4294967296:=by
 unfold isU at h;split at h
 ·simp only[decide_eq_true_eq] at h;exact⟨rfl,h.1,h.2⟩
 ·cases h
def Zce (l:List Value) (o n:Nat):List Value:=(l.drop o).take n
def Zx (l:List Value) (o n:Nat):List Int:=(Zce l o n).map Zpj
def Z6 (ty:TypeId) (l:List Value) (o n c:Nat):Bool:= !(Zak ty) && Nat.beq (rt ty) tU && Nat.ble (o+n) l.length && Nat.ble n c && ZA c && (Zce l o n).all isU && l.all still
theorem ZeP {l:List Value}{o n:Nat}(h:((Zce l o n).all isU)=true):Zce l o n=wU (Zx l o n):=by
 unfold wU Zx;rw[List.map_map];refine (List.map_id' _).symm.trans (List.map_congr_left fun v hv=> ?_);exact (Zfv (List.all_eq_true.1 h v hv)).1
structure Row (l:List Value) (o:Nat) (L:List Int):Prop where
 len:o+L.length≤l.length
 cut:Zce l o L.length=wU L
 rng:∀ x∈L,0≤x∧x<4294967296
theorem Row.cell {l:List Value}{o:Nat}{L:List Int}(h:Row l o L) {k:Nat}(hk:k<L.length):l[o+k]? =some (.int .u32 (L.getD k 0)):=by
 have e:(Zce l o L.length)[k]? =(wU L)[k]? :=by rw[h.cut]
 unfold Zce wU at e;rw[List.getElem?_take,if_pos hk,List.getElem?_drop,List.getElem?_map] at e;rw[e,List.getElem?_eq_getElem hk];simp [List.getD,List.getElem?_eq_getElem hk]
theorem ZH {ty:TypeId}{l:List Value}{o n c:Nat}(h:Z6 ty l o n c=true):Row l o (Zx l o n)∧(Zx l o n).length=n∧n≤c∧ZA c=true∧Zak ty=false∧rt ty=tU∧∀ v∈l,still v=true:=by
 unfold Z6 at h;simp only[Bool.and_eq_true,Bool.not_eq_true'] at h;obtain⟨⟨⟨⟨⟨⟨h1,h2⟩,h3⟩,h4⟩,h5⟩,h6⟩,h7⟩:=h;have h2:=Nat.eq_of_beq_eq_true h2;have h3:=Nat.le_of_ble_eq_true h3;have h4:=Nat.le_of_ble_eq_true h4;have hlen:(Zx l o n).length=n:=by unfold Zx Zce;simp;omega
 refine⟨⟨by rw[hlen];exact h3,by rw[hlen];exact ZeP h6,fun x hx=> ?_⟩,hlen,h4,h5,h1,h2,List.all_eq_true.1 h7⟩;unfold Zx at hx;obtain⟨v,hv,rfl⟩:=List.mem_map.1 hx;have:=Zfv (List.all_eq_true.1 h6 v hv);exact⟨this.2.1,this.2.2⟩
theorem Zld {l:List Value}{o c:Nat}{L:List Int}(hR:Row l o L) (hc:ZA c=true) (hn:L.length≤c):
  Runs (Zk prog Zf Zn true) (ZW (ZyP f112) (.seq (.block 0 (.loop (ZkZ f112))) (Z4L f112))) ([sl 0 o L.length c]++List.replicate 20 uZ,⟨1,[(l,tR)]⟩,[]) fun e y=>(e=none∨e=some none)∧ZV prog f112 y.1 y.2.1=some (sl 0 o (Zl L) c):=by
 have hc':c<4611686018427387904:=Zo.1 hc;refine Zv (Zj Zd) (Zph _ _) (fun x hx=>by cases hx) fun g=> ?_;refine Runs.seq (P1:=fun e y=>e=none∧(∃ g,y.1=[sl 0 o (Zl L) c,uZ,Zp]++tl 18 g)∧y.2.1=⟨1,[(l,tR)]⟩) ?_ ?_ (fun e y he=>by cases he.1)
 ·refine (Runs.forLoop (P:=fun y=>(∃ g,y.1=[sl 0 o (Zl L) c,uZ,Zp]++tl 18 g)∧y.2.1=⟨1,[(l,tR)]⟩) (R:=fun _=>False) (fun n y=>(∃ g,y.1=[sl 0 o n c,uZ,Zp]++tl 18 g)∧y.2.1=⟨1,[(l,tR)]⟩∧n≤L.length∧∀ i,n≤i→L.getD i 0=0) ?_ (n:=L.length) ⟨⟨g,rfl⟩,rfl,Nat.le_refl _,fun i hi=>by simp [List.getD,List.getElem?_eq_none hi]⟩).mono fun e y he=> ?_
  ·rintro n ⟨t,h',s⟩ ⟨⟨g,ht⟩,hh,hle,hz⟩;simp only at ht hh;subst ht hh;cases n with
   | zero=>
    refine (Zb (Zj Zd) (Zlb uZ Zp (some ⟨0,o,none⟩) 0 c _ g).t (Zt (by rfl))).mono fun e y he=> ?_;obtain⟨rfl,⟨g',h2⟩,h3⟩:=he;have e0:Zl L=0:=ZbS hz (.inl rfl);exact⟨rfl,⟨g',by rw[h2,e0];rfl⟩,h3⟩
   | succ k=>
    have ek:n1 (k+1)=(k:Int):=by
     unfold n1;rw[Zw (by omega) (by omega)];omega
    have hcell:=hR.cell (k:=k) (by omega);have hce:Z5 (l[o+(n1 (k+1)).toNat*1]?) (.int .u32 (L.getD k 0))=true:=by
     rw[ek,tN,Nat.mul_one,hcell];simp [Z5]
    have hix:decide (0≤n1 (k+1)∧n1 (k+1)<((k+1:Nat):Int))=true:=by rw[ek];exact dT (by omega)
    have hgt:decide (((k+1:Nat):Int)>0)=true:=dT (by omega);by_cases hx:L.getD k 0=0
    ·refine (Zb (Zj Zd) (Zud o (k+1) c (L.getD k 0) l uZ Zp g).t (Zi hc (Zi (by
      unfold ZQ;rw[ek];exact dT (by omega)) (Zi (dF (by omega)) (Zi (by rw[hx];rfl) (Zi hce (Zi hix (Zt hgt)))))))).mono fun e y he=> ?_
     obtain⟨rfl,⟨g',h2⟩,h3⟩:=he;rw[ek,tN] at h2;refine⟨k,by omega,⟨g',h2⟩,h3,by omega,fun i hi=> ?_⟩;rcases Nat.lt_or_ge k i with h | h
     ·exact hz i h
     ·have:i=k:=by omega
      rw[this];exact hx
    ·refine (Zb (Zj Zd) (Zlc o (k+1) c (L.getD k 0) l uZ Zp g).t (Zi (by simpa using hx) (Zi hce (Zi hix (Zt hgt))))).mono fun e y he=> ?_;obtain⟨rfl,⟨g',h2⟩,h3⟩:=he;have e0:Zl L=k+1:=ZbS hz (.inr (by simpa using hx));exact⟨rfl,⟨g',by rw[h2,e0]⟩,h3⟩
  ·match e,he with
   | none,he=>exact⟨rfl,he⟩
 ·rintro⟨t,h',s⟩ ⟨_,⟨g',ht⟩,hh⟩;simp only at ht hh;subst ht hh;refine (Zb (Zj Zd) (Zpi _ uZ Zp _ g') (fun x hx=>by cases hx)).mono fun e y he=> ?_;obtain⟨rfl,⟨g2,h2⟩,h3⟩:=he;refine⟨.inr rfl,?_⟩;rw[h2,h3];rfl
theorem ZaK {l:List Value}(h:∀ v∈l,still v=true):(⟨1,[(l,tR)]⟩:Hp).rows:=by
 refine⟨rfl,fun b x hb=> ?_⟩;have hb0:b=0:=by have:b<1:=Hp.blk_lt hb;omega
 subst hb0;have:x=(l,tR):=(Option.some.inj hb).symm;rw[this];exact⟨Zpe,h,Zpf⟩
theorem zH {l:List Value}{h:Hp}{b:Nat}{x:List Value×TypeId}(hb:h.blk? b=some x) (h1:Zak x.2=false) (h2:rt x.2=tU) (e:x.1=l):(⟨1,[(l,tR)]⟩:Hp).fits (fun _=>b) h:=by
 intro i y hi _;have hb0:i=0:=by have:i<1:=Hp.blk_lt hi;omega
 subst hb0;have:y=(l,tR):=(Option.some.inj hi).symm;rw[this];exact⟨x,[],hb,h1,by rw[h2];exact Zpg.symm,by rw[e,List.append_nil]⟩
def Zgm:Zad:=fun vals h s=>
 match vals with
 | [.slice none 0 0]=>some (Zp,h,s,[])
 | [.slice (some ⟨b,o,none⟩) n c]=>
  match h.blk? b with
  | some x=>some (sl b o (Zl (Zx x.1 o n)) c,h,s,[(Z6 x.2 x.1 o n c,true)])
  | none=>none
 | _=>none
theorem Zpk:Z7 (Zm (Zk prog Zf Zn true) 100 112 [Zp] []) Zp []:=by and_intros<;>kernel_rfl
theorem ZbT:Z8 112 Zgm:=by
 intro vals h s v h' s' lg hg hl m B w E hv;unfold Zgm at hg;split at hg
 ·cases hg;refine (Zc (Zj Zd) Zpk (fun x hx=>by cases hx) (by rfl) (by rfl) w).mono fun e w' he=> ?_;obtain⟨E',hb⟩:=zc E he.2;exact⟨m,he.1,⟨Agree.refl _ _,E',hb,Nat.le_refl _,rfl⟩⟩
 ·rename_i b o n c;split at hg
  ·rename_i x hx;cases hg;obtain⟨h1,h2,h3,h4,h5,h6,h7⟩:=ZH (hl _ mS);have hlt:=Hp.blk_lt hx;have r:=Zld h1 h4 (by rw[h2];exact h3);rw[h2] at r;have:=zi (T:=Zk prog Zf Zn true) func112 Zla (ZaK h7) (vals:=[sl 0 o n c]) (fun v hv=>by rw[List.mem_singleton.1 hv];rfl) (by rfl) r E (s:=fun _=>b) (fun i _=>hlt) (zH hx h5 h6 rfl);exact this.mono fun e w' he=>⟨m,he.1,he.2⟩
  ·cases hg
 ·cases hg
def h2 (la lb:List Value):Hp:=⟨2,[(lb,tR),(la,tR)]⟩
def ZeQ (a b i:Nat):Nat:=if Nat.beq i 0=true then a else b
theorem Z86 {la lb:List Value}{i:Nat}{x:List Value×TypeId}(h:(h2 la lb).blk? i=some x):(i=0∧x=(la,tR))∨(i=1∧x=(lb,tR)):=by
 have:i<2:=Hp.blk_lt h;have:i=0∨i=1:=by omega
 rcases this with rfl | rfl
 ·exact .inl ⟨rfl,(Option.some.inj h).symm⟩
 ·exact .inr ⟨rfl,(Option.some.inj h).symm⟩
theorem Zhe {la lb:List Value}(ha:∀ v∈la,still v=true) (hb:∀ v∈lb,still v=true):(h2 la lb).rows:=by
 refine⟨rfl,fun b x hx=> ?_⟩;rcases Z86 hx with ⟨_,e⟩ | ⟨_,e⟩<;>rw[e]
 ·exact⟨Zpe,ha,Zpf⟩
 ·exact⟨Zpe,hb,Zpf⟩
theorem ZdT {h:Hp}{a b:Nat}{x y:List Value×TypeId}(hx:h.blk? a=some x) (x1:Zak x.2=false) (x2:rt x.2=tU) (hy:h.blk? b=some y) (y1:Zak y.2=false) (y2:rt y.2=tU):(h2 x.1 y.1).fits (ZeQ a b) h:=by
 intro i z hz _;rcases Z86 hz with ⟨rfl,e⟩ | ⟨rfl,e⟩<;>rw[e]
 ·exact⟨x,[],hx,x1,by rw[x2];exact Zpg.symm,by rw[List.append_nil]⟩
 ·exact⟨y,[],hy,y1,by rw[y2];exact Zpg.symm,by rw[List.append_nil]⟩
def hT:Hp:=⟨1,[([],2*za)]⟩
theorem Z87 {i:Nat}{x:List Value×TypeId}(h:hT.blk? i=some x):x=([],2*za):=by
 have h1:i<1:=Hp.blk_lt h;have h2:i=0:=by omega
 subst h2;exact (Option.some.inj h).symm
theorem Z4M:Zak (2*za)=true:=by kernel_rfl
theorem roT:ro (2*za)=true:=by kernel_rfl
theorem Zz6:hT.rows:=⟨rfl,fun b x hx=>by rw[Z87 hx];exact⟨roT,(fun v hv=>by cases hv),by kernel_rfl⟩⟩
theorem ZsB (s:Nat→Nat) (h:Hp):hT.fits s h:=fun i x hx ht=>by rw[Z87 hx,Z4M] at ht;cases ht
end Go.Proofs.YtjlponbdflkbjaaGreatDoor
namespace Go.Proofs.YtjlponbdflkbjaaGreatDoor.Na
open Go.KRun Go.Nt
set_option maxRecDepth 100000
theorem ZsC (dx:List Int) (x:Int) (px:List Int):(wU (dx++x::px))[dx.length]? =some (uu x):=by
 unfold wU;simp [uu]
theorem Zif (dx:List Int) (x d:Int) (px:List Int):(wU (dx++x::px)).set dx.length (uu d)=wU ((dx++[d])++px):=by
 unfold wU uu;simp
theorem Zav {S:List Value}{o k:Nat}{x:Int}(h:S[o+k]? =some (uu x)):(Zdr S o k x).1=(Zdr S o k x).2:=by
 unfold Zdr;simp only[tN,Nat.mul_one];rw[h];simp [Z5,uu]
def i6' (n:Int):Value:= .int .i64 n
def oA (F:Func):Code:=Z2 (Zz (Zs F))
def oR (F:Func):Code:=Z2 (Z2 (Zz (Zz (Zs F))))
def Zle (F:Func):Code:=cIn (cIn (Zz (Z2 (Zz (Zz (Zs F))))))
def Z4N (F:Func):Code:=Zz (Zz (Zz (Zs F)))
end Go.Proofs.YtjlponbdflkbjaaGreatDoor.Na
namespace Go.Proofs.YtjlponbdflkbjaaGreatDoor.Na
open Go.Proofs.Tryz
open Go.IntKind
open Go.KRun Go.Nt
set_option maxRecDepth 100000
def Zue (d:Bool):Int:=match d with | true=> -1 | false=>1
theorem Zlf (d:Bool):Z7 (Zm (Zk prog Zf Zn true) 100 134 [.bool d] []) (i6' (Zue d)) []:=by
 cases d<;>exact by and_intros<;>kernel_rfl
def Zuf:Ans:=fun vals s=>
 match vals with
 | [.bool d]=>some (i6' (Zue d),s,[])
 | _=>none
theorem Zpl:ZR 134 Zuf:=by
 intro vals s v s' lg h hl w;unfold Zuf at h;split at h
 ·cases h;exact Zc (Zj Zd) (Zlf _) (fun x hx=>by cases hx) (by rfl) (by rfl) w
 ·cases h
def Zbz:Con:=alt 134 Zuf Zn
theorem zn:ConOk Zbz:=Z9 func134 rfl Zpl Zd
theorem Zd6:f120.body=some (ZW (ZyP f120) (.seq (oA f120) (.seq (.seq (oR f120) (.block 0 (.loop (Zle f120)))) (Z4N f120)))):=by kernel_rfl
theorem Zhf (v w:Value) (h:Hp):Zg (evL (Zk prog Zf Zbz true) 100 (ZyP f120) ([v,w]++List.replicate 41 uZ,h,[]) ⟨[],[],[]⟩) 6 37 none [v,w,uZ,uZ,i6' 0,uZ] h []:=by and_intros<;>kernel_rfl
theorem Zz7 (p q:Option Addr) (n c k d:Nat) (j2 j3 j4 j5:Value) (h:Hp) (g:Nat→Value):GoesE (evC (Zk prog Zf Zbz true) 100 false (oA f120) ([.slice p n c,.slice q k d,j2,j3,j4,j5]++tl 37 g,h,[cmp true,cmp true]) ⟨[],[],[]⟩) 6 37 (some none)
  [.slice p n c,.slice q k d,j2,j3,i6' (-1),j5] h [(decide ((n:Int)<k),true),((n:Int) !=k,true)]:=by unfold GoesE;kernel_rfl
theorem Zz8 (p q:Option Addr) (n c k d:Nat) (j2 j3 j4 j5:Value) (h:Hp) (g:Nat→Value):GoesE (evC (Zk prog Zf Zbz true) 100 false (oA f120) ([.slice p n c,.slice q k d,j2,j3,j4,j5]++tl 37 g,h,[cmp true,cmp false]) ⟨[],[],[]⟩) 6 37 (some none)
  [.slice p n c,.slice q k d,j2,j3,i6' 1,j5] h [(decide ((n:Int)<k),false),((n:Int) !=k,true)]:=by unfold GoesE;kernel_rfl
theorem ZsD (p q:Option Addr) (n c k d:Nat) (j2 j3 j4 j5:Value) (h:Hp) (g:Nat→Value):GoesE (evC (Zk prog Zf Zbz true) 100 false (oA f120) ([.slice p n c,.slice q k d,j2,j3,j4,j5]++tl 37 g,h,[cmp false]) ⟨[],[],[]⟩) 6 37 none
  [.slice p n c,.slice q k d,j2,j3,j4,j5] h [((n:Int) !=k,false)]:=by unfold GoesE;kernel_rfl
theorem Zz9 (p:Option Addr) (n c:Nat) (w j2 j3 j4 j5:Value) (h:Hp) (g:Nat→Value):GoesE (evC (Zk prog Zf Zbz true) 100 false (oR f120) ([.slice p n c,w,j2,j3,j4,j5]++tl 37 g,h,[]) ⟨[],[],[]⟩) 6 37 none
  [.slice p n c,w,j2,j3,j4,i6' (n1 n)] h []:=by unfold GoesE;kernel_rfl
theorem Zlg (v w j2 j3 j4:Value) (i:Int) (h:Hp) (g:Nat→Value):GoesE (evC (Zk prog Zf Zbz true) 100 false (Zle f120) ([v,w,j2,j3,j4,i6' i]++tl 37 g,h,[cmp false]) ⟨[],[],[]⟩) 6 37 (some (some 0))
  [v,w,j2,j3,j4,i6' i] h [(decide (i≥0),false)]:=by unfold GoesE;kernel_rfl
theorem ZzA (o n c o' n' c':Nat) (i x y:Int) (la lb:List Value) (j2 j3 j4:Value) (g:Nat→Value):Zg (evC (Zk prog Zf Zbz true) 100 false (Zle f120) ([sl 0 o n c,sl 1 o' n' c',j2,j3,j4,i6' i]++tl 37 g,h2 la lb,[cmp true,at_,val (.int .u32 x),at_,val (.int .u32 y),cmp false]) ⟨[],[],[]⟩) 6 37 none
  [sl 0 o n c,sl 1 o' n' c',j2,j3,j4,i6' (i64.wrap (i-1))] (h2 la lb) [(x !=y,false),(Z5 (lb[o'+i.toNat*1]?) (.int .u32 y),true),(decide (0≤i∧i<n'),true),(Z5 (la[o+i.toNat*1]?) (.int .u32 x),true),(decide (0≤i∧i<n),true),(decide (i≥0),true)]:=by and_intros<;>kernel_rfl
theorem ZzB (d:Bool) (o n c o' n' c':Nat) (i x y:Int) (la lb:List Value) (j2 j3 j4:Value) (g:Nat→Value):Zg (evC (Zk prog Zf Zbz true) 100 false (Zle f120) ([sl 0 o n c,sl 1 o' n' c',j2,j3,j4,i6' i]++tl 37 g,h2 la lb,[cmp true,at_,val (.int .u32 x),at_,val (.int .u32 y),cmp true,at_,val (.int .u32 x),at_,val (.int .u32 y),cmp d]) ⟨[],[],[]⟩) 6 37 (some none)
  [sl 0 o n c,sl 1 o' n' c',j2,j3,i6' (Zue d),i6' i] (h2 la lb) [(decide (x<y),d),(Z5 (lb[o'+i.toNat*1]?) (.int .u32 y),true),(decide (0≤i∧i<n'),true),(Z5 (la[o+i.toNat*1]?) (.int .u32 x),true),(decide (0≤i∧i<n),true),(x !=y,true),(Z5 (lb[o'+i.toNat*1]?) (.int .u32 y),true),(decide (0≤i∧i<n'),true),(Z5 (la[o+i.toNat*1]?) (.int .u32 x),true),(decide (0≤i∧i<n),true),(decide (i≥0),true)]:=by
 cases d<;>exact by and_intros<;>kernel_rfl
theorem Zlh (v w j2 j3 j4 j5:Value) (h:Hp) (g:Nat→Value):GoesE (evC (Zk prog Zf Zbz true) 100 false (Z4N f120) ([v,w,j2,j3,j4,j5]++tl 37 g,h,[]) ⟨[],[],[]⟩) 6 37 (some none)
  [v,w,j2,j3,i6' 0,j5] h []:=by unfold GoesE;kernel_rfl
def Z4i (F:Func):Code:=ZW (ZyP F) (.seq (oA F) (.seq (.seq (oR F) (.block 0 (.loop (Zle F)))) (Z4N F)))
theorem Zgn (p q:Option Addr) (n c k d:Nat) (h:Hp) (hn:n≠k):
  Runs (Zk prog Zf Zbz true) (Z4i f120) ([.slice p n c,.slice q k d]++List.replicate 41 uZ,h,[]) fun e y=>(e=none∨e=some none)∧ZV prog f120 y.1 y.2.1=some (i6' (if n<k then -1 else 1)):=by
 refine Zv (Zj zn) (Zhf _ _ _) (fun x hx=>by cases hx) fun g=> ?_;by_cases hl:n<k
 ·refine Runs.seq (Zb (Zj zn) (Zz7 p q n c k d uZ uZ (i6' 0) uZ h g).t (Zi (dT (by omega)) (Zt (by simp;omega)))) (fun y he=>by cases he.1) (fun e y he=> ?_);obtain⟨h1,⟨g3,e2⟩,e3⟩:=he;refine⟨.inr h1,?_⟩;rw[e2,e3,if_pos hl];rfl
 ·refine Runs.seq (Zb (Zj zn) (Zz8 p q n c k d uZ uZ (i6' 0) uZ h g).t (Zi (dF (by omega)) (Zt (by simp;omega)))) (fun y he=>by cases he.1) (fun e y he=> ?_);obtain⟨h1,⟨g3,e2⟩,e3⟩:=he;refine⟨.inr h1,?_⟩;rw[e2,e3,if_neg hl];rfl
theorem Zli (p q:Option Addr) (c d:Nat) (h:Hp):
  Runs (Zk prog Zf Zbz true) (Z4i f120) ([.slice p 0 c,.slice q 0 d]++List.replicate 41 uZ,h,[]) fun e y=>(e=none∨e=some none)∧ZV prog f120 y.1 y.2.1=some (i6' 0):=by
 refine Zv (Zj zn) (Zhf _ _ _) (fun x hx=>by cases hx) fun g=> ?_;refine Runs.seq (Zb (Zj zn) (ZsD p q 0 c 0 d uZ uZ (i6' 0) uZ h g).t (Zt (by rfl))) ?_ (fun e y he=>by cases he.1);rintro⟨t,h',s⟩ ⟨_,⟨g1,ht⟩,hh⟩;simp only at ht hh;subst ht hh;refine Runs.seq (P1:=fun e y=>e=none∧(∃ g i,y.1=[.slice p 0 c,.slice q 0 d,uZ,uZ,i6' 0,i6' i]++tl 37 g)∧y.2.1=h') ?_ ?_ (fun e y he=>by cases he.1)
 ·refine Runs.seq (Zb (Zj zn) (Zz9 p 0 c _ uZ uZ (i6' 0) uZ h' g1).t (fun x hx=>by cases hx)) ?_ (fun e y he=>by cases he.1);rintro⟨t,h'',s⟩ ⟨_,⟨g2,ht⟩,hh⟩;simp only at ht hh;subst ht hh;refine (Runs.forLoop (P:=fun y=>(∃ g i,y.1=[.slice p 0 c,.slice q 0 d,uZ,uZ,i6' 0,i6' i]++tl 37 g)∧y.2.1=h'') (R:=fun _=>False) (fun _ y=>∃ g,y.1=[.slice p 0 c,.slice q 0 d,uZ,uZ,i6' 0,i6' (n1 0)]++tl 37 g∧y.2.1=h'') ?_ (n:=0) ⟨g2,rfl,rfl⟩).mono fun e y he=> ?_
  ·rintro _ ⟨t,h3,s⟩ ⟨g,ht,hh⟩;simp only at ht hh;subst ht hh;refine (Zb (Zj zn) (Zlg _ _ uZ uZ (i6' 0) (n1 0) h3 g).t (Zt (by rfl))).mono fun e y he=> ?_;obtain⟨rfl,⟨g',e2⟩,e3⟩:=he;exact⟨rfl,⟨g',_,e2⟩,e3⟩
  ·match e,he with
   | none,he=>exact⟨rfl,he⟩
 ·rintro⟨t,h'',s⟩ ⟨_,⟨g2,i,ht⟩,hh⟩;simp only at ht hh;subst ht hh;refine (Zb (Zj zn) (Zlh _ _ uZ uZ (i6' 0) _ h'' g2).t (fun x hx=>by cases hx)).mono fun e y he=> ?_;obtain⟨rfl,⟨g3,e2⟩,e3⟩:=he;refine⟨.inr rfl,?_⟩;rw[e2,e3];rfl
theorem Zpm {la lb:List Value}{o o' c c':Nat}{La Lb:List Int}(Ra:Row la o La) (Rb:Row lb o' Lb) (hc:La.length<4611686018427387904):
  Runs (Zk prog Zf Zbz true) (Z4i f120) ([sl 0 o La.length c,sl 1 o' Lb.length c']++List.replicate 41 uZ,h2 la lb,[]) fun e y=>(e=none∨e=some none)∧ZV prog f120 y.1 y.2.1=some (i6' (Zci La Lb)):=by
 by_cases hn:La.length=Lb.length
 ·unfold Zci;rw[if_pos hn];refine Zv (Zj zn) (Zhf _ _ _) (fun x hx=>by cases hx) fun g=> ?_;refine Runs.seq (Zb (Zj zn) (ZsD _ _ La.length c Lb.length c' uZ uZ (i6' 0) uZ (h2 la lb) g).t (Zt (by simp [hn]))) ?_ (fun e y he=>by cases he.1);rintro⟨t,h',s⟩ ⟨_,⟨g1,ht⟩,hh⟩;simp only at ht hh;subst ht hh;refine Runs.seq (P1:=fun e y=>(e=none∧(∃ g i,y.1=[sl 0 o La.length c,sl 1 o' Lb.length c',uZ,uZ,i6' 0,i6' i]++tl 37 g)∧y.2.1=h2 la lb∧Zan La Lb La.length=0)∨(e=some none∧(∃ g i,y.1=[sl 0 o La.length c,sl 1 o' Lb.length c',uZ,uZ,i6' (Zan La Lb La.length),i6' i]++tl 37 g)∧y.2.1=h2 la lb)) ?_ ?_ ?_
  ·refine Runs.seq (Zb (Zj zn) (Zz9 _ La.length c _ uZ uZ (i6' 0) uZ _ g1).t (fun x hx=>by cases hx)) ?_ (fun e y he=>by cases he.1);rintro⟨t,h'',s⟩ ⟨_,⟨g2,ht⟩,hh⟩;simp only at ht hh;subst ht hh;refine (Runs.forLoop (P:=fun y=>(∃ g i,y.1=[sl 0 o La.length c,sl 1 o' Lb.length c',uZ,uZ,i6' 0,i6' i]++tl 37 g)∧y.2.1=h2 la lb∧Zan La Lb La.length=0) (R:=fun y=>(∃ g i,y.1=[sl 0 o La.length c,sl 1 o' Lb.length c',uZ,uZ,i6' (Zan La Lb La.length),i6' i]++tl 37 g)∧y.2.1=h2 la lb)
    (fun r y=>∃ (g:Nat→Value),r≤La.length∧y.1=[sl 0 o La.length c,sl 1 o' Lb.length c',uZ,uZ,i6' 0,i6' ((r:Int)-1)]++tl 37 g∧y.2.1=h2 la lb∧Zan La Lb La.length=Zan La Lb r) ?_ (n:=La.length) ⟨g2,Nat.le_refl _,by unfold n1;rw[Zw (by omega) (by omega)];rfl,rfl,rfl⟩).mono fun e y he=> ?_
   ·rintro r ⟨t,h3,s⟩ ⟨g,hk,ht,hh,htop⟩;simp only at ht hh;subst ht hh;cases r with
    | zero=>
     refine (Zb (Zj zn) (Zlg _ _ uZ uZ (i6' 0) _ _ g).t (Zt (by rfl))).mono fun e y he=> ?_;obtain⟨rfl,⟨g',e2⟩,e3⟩:=he;exact⟨rfl,⟨g',_,e2⟩,e3,htop⟩
    | succ k=>
     have ek:((k+1:Nat):Int)-1=(k:Int):=by omega
     rw[ek];have ca:=Ra.cell (k:=k) (by omega);have cb:=Rb.cell (k:=k) (by omega);have ha:Z5 (la[o+((k:Int)).toNat*1]?) (.int .u32 (La.getD k 0))=true:=by
      rw[tN,Nat.mul_one,ca];simp [Z5]
     have hb:Z5 (lb[o'+((k:Int)).toNat*1]?) (.int .u32 (Lb.getD k 0))=true:=by
      rw[tN,Nat.mul_one,cb];simp [Z5]
     have q1:decide (0≤(k:Int)∧(k:Int)<(La.length:Nat))=true:=dT (by omega);have q2:decide (0≤(k:Int)∧(k:Int)<(Lb.length:Nat))=true:=dT (by omega);have q3:decide ((k:Int)≥0)=true:=dT (by omega);by_cases hx:La.getD k 0=Lb.getD k 0
     ·refine (Zb (Zj zn) (ZzA o La.length c o' Lb.length c' k (La.getD k 0) (Lb.getD k 0) la lb uZ uZ (i6' 0) g) (Zi (by show (La.getD k 0 !=Lb.getD k 0)=false;rw[hx];exact bne_self_eq_false _) (Zi hb (Zi q2 (Zi ha (Zi q1 (Zt q3))))))).mono fun e y he=> ?_;obtain⟨rfl,⟨g',e2⟩,e3⟩:=he;refine⟨k,by omega,g',by omega,?_,e3,?_⟩
      ·rw[e2,Zw (by omega) (by omega)]
      ·rw[htop];simp only[Zan];rw[if_pos hx]
     ·have hne:(La.getD k 0 !=Lb.getD k 0)=true:=by simpa using hx
      refine (Zb (Zj zn) (ZzB (decide (La.getD k 0<Lb.getD k 0)) o La.length c o' Lb.length c' k (La.getD k 0) (Lb.getD k 0) la lb uZ uZ (i6' 0) g) (Zi rfl (Zi hb (Zi q2 (Zi ha (Zi q1 (Zi hne (Zi hb (Zi q2 (Zi ha (Zi q1 (Zt q3)))))))))))).mono fun e y he=> ?_;obtain⟨rfl,⟨g',e2⟩,e3⟩:=he;refine⟨⟨g',k,?_⟩,e3⟩;rw[e2,htop];simp only[Zan];rw[if_neg hx];by_cases hlt:La.getD k 0<Lb.getD k 0
      ·rw[if_pos hlt,dT hlt];rfl
      ·rw[if_neg hlt,dF hlt];rfl
   ·match e,he with
    | none,he=>exact .inl ⟨rfl,he⟩
    | some none,he=>exact .inr ⟨rfl,he⟩
  ·rintro⟨t,h'',s⟩ (⟨_,⟨g2,i,ht⟩,hh,heq⟩ | ⟨h,_⟩)
   ·simp only at ht hh;subst ht hh;refine (Zb (Zj zn) (Zlh _ _ uZ uZ (i6' 0) _ _ g2).t (fun x hx=>by cases hx)).mono fun e y he=> ?_;obtain⟨rfl,⟨g3,e2⟩,e3⟩:=he;refine⟨.inr rfl,?_⟩;rw[e2,e3,heq];rfl
   ·cases h
  ·rintro e y (⟨h,_⟩ | ⟨h1,⟨g3,i,e2⟩,e3⟩)
   ·cases h
   ·refine⟨.inr h1,?_⟩;rw[e2,e3];rfl
 ·unfold Zci;rw[if_neg hn];exact Zgn _ _ _ _ _ _ _ hn
def Zpn (n k:Nat):Int:=if n=k then 0 else if n<k then -1 else 1
theorem ZdU (p q:Option Addr) (n c k d:Nat) (h:Hp) (h0:n=0∨k=0):
  Runs (Zk prog Zf Zbz true) (Z4i f120) ([.slice p n c,.slice q k d]++List.replicate 41 uZ,h,[]) fun e y=>(e=none∨e=some none)∧ZV prog f120 y.1 y.2.1=some (i6' (Zpn n k)):=by
 unfold Zpn;by_cases hn:n=k
 ·rw[if_pos hn];have e1:n=0:=by omega
  have e2:k=0:=by omega
  subst e1 e2;exact Zli p q c d h
 ·rw[if_neg hn];exact Zgn p q n c k d h hn
def Z4j:Zad:=fun vals h s=>
 match vals with
 | [.slice (some ⟨b,o,none⟩) n c,.slice (some ⟨b',o',none⟩) n' c']=>
  match h.blk? b,h.blk? b' with
  | some x,some y=>some (i6' (Zci (Zx x.1 o n) (Zx y.1 o' n')),h,s,[(Z6 x.2 x.1 o n c,true),(Z6 y.2 y.1 o' n' c',true)])
  | _,_=>none
 | [.slice none 0 0,.slice none 0 0]=>some (i6' 0,h,s,[])
 | [.slice none 0 0,.slice (some _) k _]=>some (i6' (Zpn 0 k),h,s,[])
 | [.slice (some _) n _,.slice none 0 0]=>some (i6' (Zpn n 0),h,s,[])
 | _=>none
theorem ZdV:Z8 120 Z4j:=by
 intro vals h s v h' s' lg hg hl m B w E hv;unfold Z4j at hg;split at hg
 ·rename_i b o n c b' o' n' c';split at hg
  ·rename_i x y hx hy;cases hg;obtain⟨a1,a2,a3,a4,a5,a6,a7⟩:=ZH (hl _ (mH));obtain⟨b1,b2,b3,b4,b5,b6,b7⟩:=ZH (hl _ (mN _ mS));have hsm:n<4611686018427387904:=by have:=Zo.1 a4;unfold za at this;omega
   have r:=Zpm (c:=c) (c':=c') a1 b1 (by rw[a2];exact hsm);rw[a2,b2] at r;have lx:=Hp.blk_lt hx;have ly:=Hp.blk_lt hy;have:=zi (T:=Zk prog Zf Zbz true) func120 Zd6 (Zhe a7 b7) (vals:=[sl 0 o n c,sl 1 o' n' c']) (fun v hv=>by
    simp only[List.mem_cons,List.not_mem_nil,or_false] at hv;rcases hv with rfl | rfl<;>rfl) (by rfl) r E (s:=ZeQ b b') (fun i _=>by unfold ZeQ;split<;>assumption) (ZdT hx a5 a6 hy b5 b6)
   exact this.mono fun e w' he=>⟨m,he.1,he.2⟩
  ·cases hg
 ·cases hg;have r:=ZdU none none 0 0 0 0 ⟨0,[]⟩ (.inl rfl);refine (ZJ (T:=Zk prog Zf Zbz true) func120 Zd6 (vals:=[Zp,Zp]) (by rfl) (by rfl) r w).mono fun e w' he=> ?_;obtain⟨E',hb⟩:=zc E he.2;exact⟨m,he.1,⟨Agree.refl _ _,E',hb,Nat.le_refl _,rfl⟩⟩
 ·rename_i a k c;cases hg;have r:=ZdU none (some {a with block:=0}) 0 0 k c hT (.inl rfl);have hlt:a.block<h.n:=by
   have:=hv (.slice (some a) k c) (by simp);exact Zo.1 this
  have:=zi (T:=Zk prog Zf Zbz true) func120 Zd6 Zz6 (vals:=[Zp,.slice (some {a with block:=0}) k c]) (fun v hv=>by
   simp only[List.mem_cons,List.not_mem_nil,or_false] at hv;rcases hv with rfl | rfl<;>rfl) (by rfl) r E (s:=fun _=>a.block) (fun i _=>hlt) (ZsB _ _)
  exact this.mono fun e w' he=>⟨m,he.1,he.2⟩
 ·rename_i a n c;cases hg;have r:=ZdU (some {a with block:=0}) none n c 0 0 hT (.inr rfl);have hlt:a.block<h.n:=by
   have:=hv (.slice (some a) n c) (by simp);exact Zo.1 this
  have:=zi (T:=Zk prog Zf Zbz true) func120 Zd6 Zz6 (vals:=[.slice (some {a with block:=0}) n c,Zp]) (fun v hv=>by
   simp only[List.mem_cons,List.not_mem_nil,or_false] at hv;rcases hv with rfl | rfl<;>rfl) (by rfl) r E (s:=fun _=>a.block) (fun i _=>hlt) (ZsB _ _)
  exact this.mono fun e w' he=>⟨m,he.1,he.2⟩
 ·cases hg
def Zcu (k:Int):Value:= .iface 42 (.int .i64 k)
def ZcX (d:Bool):Value:=match d with | true=>Zcu 1 | false=> .nilIface
def ZU (L:List Int):Bool:=decide (8192<L.length) || (decide (0<L.length) && (L.getD (L.length-1) 0==0))
theorem Zpo (p:Option Addr) (n c:Nat) (h:Hp):Zg (evC (Zk prog Zf Zn true) 100 false (Zs f117) ([.slice p n c]++List.replicate 20 uZ,h,[cmp true]) ⟨[],[],[]⟩) 3 18 (some none) [.slice p n c,uZ,Zcu 1] h [(decide ((n:Int)>8192),true)]:=by and_intros<;>kernel_rfl
theorem Zpp (p:Option Addr) (n c:Nat) (h:Hp):Zg (evC (Zk prog Zf Zn true) 100 false (Zs f117) ([.slice p n c]++List.replicate 20 uZ,h,[cmp false,cmp false]) ⟨[],[],[]⟩) 3 18 (some none) [.slice p n c,uZ,.nilIface] h [(decide ((n:Int)>0),false),(decide ((n:Int)>8192),false)]:=by and_intros<;>kernel_rfl
theorem Zpq (d:Bool) (o n c:Nat) (x:Int) (l:List Value):Zg (evC (Zk prog Zf Zn true) 100 false (Zs f117) ([sl 0 o n c]++List.replicate 20 uZ,⟨1,[(l,tR)]⟩,[cmp false,cmp true,at_,val (.int .u32 x),cmp d]) ⟨[],[],[]⟩) 3 18 (some none) [sl 0 o n c,uZ,ZcX d] ⟨1,[(l,tR)]⟩ [(x==0,d),(Z5 (l[o+(n1 n).toNat*1]?) (.int .u32 x),true),(decide (0≤n1 n∧n1 n<n),true),(decide ((n:Int)>0),true),(decide ((n:Int)>8192),false)]:=by
 cases d<;>exact by and_intros<;>kernel_rfl
theorem Zpr:f117.body=some (Zs f117):=by kernel_rfl
theorem Zps {l:List Value}{o c:Nat}{L:List Int}(hR:Row l o L):
  Runs (Zk prog Zf Zn true) (Zs f117) ([sl 0 o L.length c]++List.replicate 20 uZ,⟨1,[(l,tR)]⟩,[]) fun e y=>(e=none∨e=some none)∧ZV prog f117 y.1 y.2.1=some (ZcX (ZU L)):=by
 unfold ZU;by_cases h1:8192<L.length
 ·rw[dT h1,Bool.true_or];refine (Zb (Zj Zd) (Zpo _ _ _ _) (Zt (dT (by omega)))).mono fun e y he=> ?_;obtain⟨rfl,⟨g,e2⟩,e3⟩:=he;refine⟨.inr rfl,?_⟩;rw[e2,e3];rfl
 ·rw[dF h1,Bool.false_or];by_cases h2:0<L.length
  ·rw[dT h2,Bool.true_and];have ek:n1 L.length=((L.length-1:Nat):Int):=by
    unfold n1;rw[Zw (by omega) (by omega)];omega
   refine (Zb (Zj Zd) (Zpq (L.getD (L.length-1) 0==0) o L.length c (L.getD (L.length-1) 0) l) (Zi rfl (Zi (by
    rw[ek,tN,Nat.mul_one,hR.cell (by omega)];simp [Z5]) (Zi (by rw[ek];exact dT (by omega)) (Zi (dT (by omega)) (Zt (dF (by omega)))))))).mono fun e y he=> ?_
   obtain⟨rfl,⟨g,e2⟩,e3⟩:=he;refine⟨.inr rfl,?_⟩;rw[e2,e3];generalize (L.getD (L.length-1) 0==0)=d;cases d<;>rfl
  ·rw[dF h2,Bool.false_and];refine (Zb (Zj Zd) (Zpp _ _ _ _) (Zi (dF (by omega)) (Zt (dF (by omega))))).mono fun e y he=> ?_;obtain⟨rfl,⟨g,e2⟩,e3⟩:=he;refine⟨.inr rfl,?_⟩;rw[e2,e3];rfl
theorem Zug:Z7 (Zm (Zk prog Zf Zn true) 100 117 [Zp] []) .nilIface []:=by and_intros<;>kernel_rfl
def Z4k:Zad:=fun vals h s=>
 match vals with
 | [.slice none 0 0]=>some (.nilIface,h,s,[])
 | [.slice (some ⟨b,o,none⟩) n c]=>
  match h.blk? b,s with
  | some x,.inr (.inr (.inr (.inl d)))::s'=>some (ZcX d,h,s',[(Z6 x.2 x.1 o n c,true),(ZU (Zx x.1 o n),d)])
  | _,_=>none
 | _=>none
theorem Zlj:Z8 117 Z4k:=by
 intro vals h s v h' s' lg hg hl m B w E hv;unfold Z4k at hg;split at hg
 ·cases hg;refine (Zc (Zj Zd) Zug (fun x hx=>by cases hx) (by rfl) (by rfl) w).mono fun e w' he=> ?_;obtain⟨E',hb⟩:=zc E he.2;exact⟨m,he.1,⟨Agree.refl _ _,E',hb,Nat.le_refl _,rfl⟩⟩
 ·rename_i b o n c;split at hg
  ·rename_i x d s2 hx;cases hg;obtain⟨h1,h2,h3,h4,h5,h6,h7⟩:=ZH (hl _ (mH));have hd:=hl _ (mN _ mS);simp only at hd;have hlt:=Hp.blk_lt hx;have r:=Zps (c:=c) h1;rw[h2,hd] at r;have e0:rn (fun _=>b) (ZcX d)=ZcX d:=by cases d<;>rfl
   have:=zi (T:=Zk prog Zf Zn true) func117 Zpr (ZaK h7) (vals:=[sl 0 o n c]) (fun v hv=>by rw[List.mem_singleton.1 hv];rfl) (by cases d<;>rfl) r E (s:=fun _=>b) (fun i _=>hlt) (zH hx h5 h6 rfl);rw[e0] at this;exact this.mono fun e w' he=>⟨m,he.1,he.2⟩
  ·cases hg
 ·cases hg
def hcK:Hc:=zS 117 Z4k hcN
theorem ZeR:HcOk hcK:=Z1 func117 rfl Zlj Zam
def Zhg (l:List Value) (o n c:Nat):Bool×Bool:=(Z6 tR l o n c,true)
theorem Zpt (o n c o' n' c':Nat) (la lb:List Value):Zg (evC (Zr prog Zf Zn hcK) 100 false (Zs f116) ([sl 0 o n c,sl 1 o' n' c']++List.replicate 11 uZ,h2 la lb,[cmp true]) ⟨[],[],[]⟩) 5 8 (some none) [sl 0 o n c,sl 1 o' n' c',uZ,uZ,Zcu 1] (h2 la lb) [Zhg la o n c,(ZU (Zx la o n),true)]:=by and_intros<;>kernel_rfl
theorem ZzC (d:Bool) (o n c o' n' c':Nat) (la lb:List Value):Zg (evC (Zr prog Zf Zn hcK) 100 false (Zs f116) ([sl 0 o n c,sl 1 o' n' c']++List.replicate 11 uZ,h2 la lb,[cmp false,cmp d]) ⟨[],[],[]⟩) 5 8 (some none) [sl 0 o n c,sl 1 o' n' c',uZ,uZ,ZcX d] (h2 la lb) [Zhg lb o' n' c',(ZU (Zx lb o' n'),d),Zhg la o n c,(ZU (Zx la o n),false)]:=by
 cases d<;>exact by and_intros<;>kernel_rfl
theorem zE {ty:TypeId}{l:List Value}{o n c:Nat}(h:Z6 ty l o n c=true):Z6 tR l o n c=true:=by
 unfold Z6 at*;simp only[Bool.and_eq_true,Bool.not_eq_true'] at*;obtain⟨⟨⟨⟨⟨⟨h1,h2⟩,h3⟩,h4⟩,h5⟩,h6⟩,h7⟩:=h;exact⟨⟨⟨⟨⟨⟨ZbB,by kernel_rfl⟩,h3⟩,h4⟩,h5⟩,h6⟩,h7⟩
theorem ZdW:f116.body=some (Zs f116):=by kernel_rfl
theorem Zlk {la lb:List Value}{o n c o' n' c':Nat}(ha:Z6 tR la o n c=true) (hb:Z6 tR lb o' n' c'=true):
  Runs (Zr prog Zf Zn hcK) (Zs f116) ([sl 0 o n c,sl 1 o' n' c']++List.replicate 11 uZ,h2 la lb,[]) fun e y=>(e=none∨e=some none)∧ZV prog f116 y.1 y.2.1=some (ZcX (ZU (Zx la o n) || ZU (Zx lb o' n'))):=by
 cases h:ZU (Zx la o n) with
 | true=>
  refine (Zb (Zh Zd ZeR) (Zpt o n c o' n' c' la lb) (Zi ha (Zt h))).mono fun e y he=> ?_;obtain⟨rfl,⟨g,e2⟩,e3⟩:=he;refine⟨.inr rfl,?_⟩;rw[e2,e3];rfl
 | false=>
  refine (Zb (Zh Zd ZeR) (ZzC (ZU (Zx lb o' n')) o n c o' n' c' la lb) (Zi hb (Zi rfl (Zi ha (Zt h))))).mono fun e y he=> ?_;obtain⟨rfl,⟨g,e2⟩,e3⟩:=he;refine⟨.inr rfl,?_⟩;rw[e2,e3,Bool.false_or];generalize ZU (Zx lb o' n')=d;cases d<;>rfl
theorem Zuh (d:Bool) (o n c:Nat) (l:List Value):Zg (evC (Zr prog Zf Zn hcK) 100 false (Zs f116) ([Zp,sl 0 o n c]++List.replicate 11 uZ,⟨1,[(l,tR)]⟩,[cmp d]) ⟨[],[],[]⟩) 5 8 (some none) [Zp,sl 0 o n c,uZ,uZ,ZcX d] ⟨1,[(l,tR)]⟩ [Zhg l o n c,(ZU (Zx l o n),d)]:=by
 cases d<;>exact by and_intros<;>kernel_rfl
theorem Zui (d:Bool) (o n c:Nat) (l:List Value):Zg (evC (Zr prog Zf Zn hcK) 100 false (Zs f116) ([sl 0 o n c,Zp]++List.replicate 11 uZ,⟨1,[(l,tR)]⟩,[cmp d]) ⟨[],[],[]⟩) 5 8 (some none) [sl 0 o n c,Zp,uZ,uZ,ZcX d] ⟨1,[(l,tR)]⟩ [Zhg l o n c,(ZU (Zx l o n),d)]:=by
 cases d<;>exact by and_intros<;>kernel_rfl
theorem Zpu:Z7 (Zm (Zk prog Zf Zn true) 100 116 [Zp,Zp] []) .nilIface []:=by and_intros<;>kernel_rfl
theorem Zig {vals:List Value}{l:List Value}{o n c:Nat}{d:Bool}(hf:Zg (evC (Zr prog Zf Zn hcK) 100 false (Zs f116) (vals++List.replicate 11 uZ,⟨1,[(l,tR)]⟩,[cmp d]) ⟨[],[],[]⟩) 5 8 (some none) (vals++[uZ,uZ,ZcX d]) ⟨1,[(l,tR)]⟩ [Zhg l o n c,(ZU (Zx l o n),d)]) (ha:Z6 tR l o n c=true) (hd:ZU (Zx l o n)=d) (hr:∀ g,ZV prog f116 ((vals++[uZ,uZ,ZcX d])++tl 8 g) ⟨1,[(l,tR)]⟩=some (ZcX d)):
  Runs (Zr prog Zf Zn hcK) (Zs f116) (vals++List.replicate 11 uZ,⟨1,[(l,tR)]⟩,[]) fun e y=>(e=none∨e=some none)∧ZV prog f116 y.1 y.2.1=some (ZcX d):=by
 refine (Zb (Zh Zd ZeR) hf (Zi ha (Zt hd))).mono fun e y he=> ?_;obtain⟨rfl,⟨g,e2⟩,e3⟩:=he;refine⟨.inr rfl,?_⟩;rw[e2,e3];exact hr g
def Zj0:Zad:=fun vals h s=>
 match vals with
 | [.slice (some ⟨b,o,none⟩) n c,.slice (some ⟨b',o',none⟩) n' c']=>
  match h.blk? b,h.blk? b',s with
  | some x,some y,.inr (.inr (.inr (.inl d)))::s'=>some (ZcX d,h,s',[(Z6 x.2 x.1 o n c,true),(Z6 y.2 y.1 o' n' c',true),(ZU (Zx x.1 o n) || ZU (Zx y.1 o' n'),d)])
  | _,_,_=>none
 | [.slice none 0 0,.slice (some ⟨b,o,none⟩) n c]=>
  match h.blk? b,s with
  | some x,.inr (.inr (.inr (.inl d)))::s'=>some (ZcX d,h,s',[(Z6 x.2 x.1 o n c,true),(ZU (Zx x.1 o n),d)])
  | _,_=>none
 | [.slice (some ⟨b,o,none⟩) n c,.slice none 0 0]=>
  match h.blk? b,s with
  | some x,.inr (.inr (.inr (.inl d)))::s'=>some (ZcX d,h,s',[(Z6 x.2 x.1 o n c,true),(ZU (Zx x.1 o n),d)])
  | _,_=>none
 | [.slice none 0 0,.slice none 0 0]=>some (.nilIface,h,s,[])
 | _=>none
theorem Zcv:Z8 116 Zj0:=by
 intro vals h s v h' s' lg hg hl m B w E hv;unfold Zj0 at hg;split at hg
 ·rename_i b o n c b' o' n' c';split at hg
  ·rename_i x y d s2 hx hy;cases hg;have ra:=hl _ (mH);have rb:=hl _ (mN _ mH);obtain⟨a1,a2,a3,a4,a5,a6,a7⟩:=ZH ra;obtain⟨b1,b2,b3,b4,b5,b6,b7⟩:=ZH rb;have hd:=hl _ (mN _ (mN _ mS));simp only at hd;have r:=Zlk (zE ra) (zE rb);rw[hd] at r;have lx:=Hp.blk_lt hx;have ly:=Hp.blk_lt hy;have e0:rn (ZeQ b b') (ZcX d)=ZcX d:=by cases d<;>rfl
   have:=zi (T:=Zr prog Zf Zn hcK) func116 ZdW (Zhe a7 b7) (vals:=[sl 0 o n c,sl 1 o' n' c']) (fun v hv=>by
    simp only[List.mem_cons,List.not_mem_nil,or_false] at hv;rcases hv with rfl | rfl<;>rfl) (by cases d<;>rfl) r E (s:=ZeQ b b') (fun i _=>by unfold ZeQ;split<;>assumption) (ZdT hx a5 a6 hy b5 b6)
   rw[e0] at this;exact this.mono fun e w' he=>⟨m,he.1,he.2⟩
  ·cases hg
 ·rename_i b o n c;split at hg
  ·rename_i x d s2 hx;cases hg;have ra:=hl _ (mH);have hd:=hl _ (mN _ mS);simp only at hd;obtain⟨a1,a2,a3,a4,a5,a6,a7⟩:=ZH ra;have hlt:=Hp.blk_lt hx;have e0:rn (fun _=>b) (ZcX d)=ZcX d:=by cases d<;>rfl
   have r:=Zig (Zuh d o n c x.1) (zE ra) hd (fun _=>by cases d<;>rfl);have:=zi (T:=Zr prog Zf Zn hcK) func116 ZdW (ZaK a7) (vals:=[Zp,sl 0 o n c]) (fun v hv=>by
    simp only[List.mem_cons,List.not_mem_nil,or_false] at hv;rcases hv with rfl | rfl<;>rfl) (by cases d<;>rfl) r E (s:=fun _=>b) (fun i _=>hlt) (zH hx a5 a6 rfl)
   rw[e0] at this;exact this.mono fun e w' he=>⟨m,he.1,he.2⟩
  ·cases hg
 ·rename_i b o n c;split at hg
  ·rename_i x d s2 hx;cases hg;have ra:=hl _ (mH);have hd:=hl _ (mN _ mS);simp only at hd;obtain⟨a1,a2,a3,a4,a5,a6,a7⟩:=ZH ra;have hlt:=Hp.blk_lt hx;have e0:rn (fun _=>b) (ZcX d)=ZcX d:=by cases d<;>rfl
   have r:=Zig (Zui d o n c x.1) (zE ra) hd (fun _=>by cases d<;>rfl);have:=zi (T:=Zr prog Zf Zn hcK) func116 ZdW (ZaK a7) (vals:=[sl 0 o n c,Zp]) (fun v hv=>by
    simp only[List.mem_cons,List.not_mem_nil,or_false] at hv;rcases hv with rfl | rfl<;>rfl) (by cases d<;>rfl) r E (s:=fun _=>b) (fun i _=>hlt) (zH hx a5 a6 rfl)
   rw[e0] at this;exact this.mono fun e w' he=>⟨m,he.1,he.2⟩
  ·cases hg
 ·cases hg;refine (Zc (Zj Zd) Zpu (fun x hx=>by cases hx) (by rfl) (by rfl) w).mono fun e w' he=> ?_;obtain⟨E',hb⟩:=zc E he.2;exact⟨m,he.1,⟨Agree.refl _ _,E',hb,Nat.le_refl _,rfl⟩⟩
 ·cases hg
def wd4 (x y c:Int):Bool:=decide ((0≤x∧x<4294967296)∧(0≤y∧y<4294967296)∧0≤c∧c≤1)
def ZzD (x y c:Int):Value:= .tuple #[uu ((x+y+c) % 4294967296),uu ((x+y+c)/4294967296)]
def Zpv (x y c:Int):Int:=u64.wrap (u64.wrap (u64.wrap x+u64.wrap y)+u64.wrap c)
theorem Zj1 (x y c:Int):Z7 (Zm (Zk prog Zf Zn true) 100 147 [uu x,uu y,uu c] []) (.tuple #[uu (u32.wrap (Zpv x y c)),uu (u32.wrap ((Zpv x y c).fdiv (2^min ((32:Int).toNat) 64)))]) [(decide ((32:Int)<0),false)]:=by and_intros<;>kernel_rfl
theorem ZoB (n:Int):u64.wrap n=n % 18446744073709551616:=by simp [IntKind.wrap,IntKind.bits,IntKind.signed]
theorem ZgS (n:Int):u32.wrap n=n % 4294967296:=by simp [IntKind.wrap,IntKind.bits,IntKind.signed]
def Zll:Ans:=fun vals s=>
 match vals with
 | [.int .u32 x,.int .u32 y,.int .u32 c]=>some (ZzD x y c,s,[(wd4 x y c,true)])
 | _=>none
theorem Zlm:ZR 147 Zll:=by
 intro vals s v s' lg h hl w;unfold Zll at h;split at h
 ·rename_i x y c;cases h;have hr:=hl _ mS;simp only[wd4,decide_eq_true_eq] at hr;have e:Zpv x y c=x+y+c:=by
   unfold Zpv;rw[ZoB,ZoB,ZoB,ZoB,ZoB];omega
  have e2:(2:Int)^min ((32:Int).toNat) 64=4294967296:=rfl;have:=Zc (Zj Zd) (Zj1 x y c) (Zt (by rfl)) (by rfl) (by rfl) w;rw[e,e2,ZgS,ZgS,Int.fdiv_eq_ediv_of_nonneg _ (by omega),Int.emod_eq_of_lt (a:=(x+y+c)/4294967296) (by omega) (by omega)] at this;exact this
 ·cases h
end Go.Proofs.YtjlponbdflkbjaaGreatDoor.Na
namespace Go.Nt
def vN:List Int→Int
 | []=>0
 | x::r=>x+4294967296*vN r
def dg:Nat→Int→List Int
 | 0,_=>[]
 | m+1,V=>V % 4294967296::dg m (V/4294967296)
def wds (L:List Int):Prop:=∀ x∈L,0≤x∧x<4294967296
theorem ZS:∀ (m:Nat) (V:Int),(dg m V).length=m
 | 0,_=>rfl
 | m+1,V=>by simp [dg,ZS m]
theorem Za2:∀ (m:Nat) (V:Int),wds (dg m V)
 | 0,_=>fun x hx=>by cases hx
 | m+1,V=>fun x hx=>by
  simp only[dg,List.mem_cons] at hx;rcases hx with rfl | hx
  ·omega
  ·exact Za2 m _ x hx
theorem Zae {x:Int}{L:List Int}(h:wds (x::L)):(0≤x∧x<4294967296)∧wds L:=⟨h x mH,fun y hy=>h y (mN _ hy)⟩
theorem Zfw:∀ L:List Int,wds L→dg L.length (vN L)=L
 | [],_=>rfl
 | x::r,h=>by
  obtain⟨h1,h2⟩:=Zae h;have ih:=Zfw r h2;simp only[List.length_cons,dg,vN];have e1:(x+4294967296*vN r) % 4294967296=x:=by omega
  have e2:(x+4294967296*vN r)/4294967296=vN r:=by omega
  rw[e1,e2,ih]
theorem pw (k:Nat):(4294967296:Int)^(k+1)=4294967296*4294967296^k:=by rw[Int.pow_succ,Int.mul_comm]
theorem Zaw (k:Nat):(0:Int)<4294967296^k:=Int.pow_pos (by omega)
theorem Zpw {i j:Nat}(h:i≤j):(4294967296:Int)^i≤4294967296^j:=by
 have h1:∀ k:Nat,((4294967296^k:Nat):Int)=4294967296^k:=fun k=>by simp
 rw[← h1,← h1];have:=Nat.pow_le_pow_right (n:=4294967296) (by omega) h;omega
theorem ZaL:∀ L:List Int,wds L→0≤vN L∧vN L<4294967296^L.length
 | [],_=>by simp [vN]
 | x::r,h=>by
  obtain⟨h1,h2⟩:=Zae h;have ih:=ZaL r h2;simp only[List.length_cons,vN];rw[pw];omega
theorem zo:∀ (L:List Int) (d:Int),vN (L++[d])=vN L+4294967296^L.length*d
 | [],d=>by simp [vN]
 | x::r,d=>by
  have ih:=zo r d;simp only[List.cons_append,vN,List.length_cons];rw[ih,pw,Int.mul_assoc,Int.mul_add];omega
theorem ZsE:∀ (L M:List Int),vN (L++M)=vN L+4294967296^L.length*vN M
 | [],M=>by simp [vN]
 | x::r,M=>by
  have ih:=ZsE r M;simp only[List.cons_append,vN,List.length_cons];rw[ih,pw,Int.mul_assoc,Int.mul_add];omega
theorem Zaf {L M:List Int}(h1:wds L) (h2:wds M):wds (L++M):=fun x hx=>by
 rcases List.mem_append.1 hx with hx | hx
 ·exact h1 x hx
 ·exact h2 x hx
end Go.Nt
namespace Go.Proofs.YtjlponbdflkbjaaGreatDoor.Na
open Go.Proofs.Tryz
open Go.IntKind
open Go.KRun Go.Nt
set_option maxRecDepth 100000
def ZsF:Con:=alt 147 Zll Zn
theorem Zuj:ConOk ZsF:=Z9 func147 rfl Zlm Zd
def sn (k:Nat) (F:Func):Code:=match k with | 0=>Zs F | k+1=>Zz (sn k F)
def nP (n:Nat):Int:=i64.wrap ((n:Int)+1)
def cpy (la:List Value) (o n:Nat):List Value:=(List.replicate (nP n).toNat (uu 0)).take 0++(la.drop o).take (Nat.min n (nP n).toNat)++(List.replicate (nP n).toNat (uu 0)).drop (0+Nat.min n (nP n).toNat)
def h3 (la lb S:List Value):Hp:=⟨3,[(S,tU),(lb,tR),(la,tR)]⟩
def Z4l (la:List Value) (o n:Nat):Bool:= !(Zak tR) && !(ro tU) && Nat.ble (o+Nat.min n (nP n).toNat) la.length && Nat.ble (0+Nat.min n (nP n).toNat) (List.replicate (nP n).toNat (uu 0)).length && ((la.drop o).take (Nat.min n (nP n).toNat)).all one
end Go.Proofs.YtjlponbdflkbjaaGreatDoor.Na
namespace Go.Proofs.YtjlponbdflkbjaaGreatDoor.Na
open Go.KRun Go.Nt
set_option maxRecDepth 100000
theorem ZzE {n:Nat}(h:n≤8192):nP n=((n+1:Nat):Int):=by unfold nP;rw[Zw (by omega) (by omega)];omega
theorem Zih {n:Nat}(h:n≤8192):(nP n).toNat=n+1:=by rw[ZzE h,tN]
theorem Zln {la:List Value}{o:Nat}{L:List Int}(hR:Row la o L) (h:L.length≤8192):cpy la o L.length=wU (L++[0]):=by
 unfold cpy;rw[Zih h,show Nat.min L.length (L.length+1)=L.length from by simp];have e1:(la.drop o).take L.length=wU L:=hR.cut;rw[e1,Nat.zero_add,List.take_zero,List.nil_append,List.drop_replicate,show L.length+1-L.length=1 from by omega];unfold wU uu;simp
theorem Zlo {la:List Value}{o:Nat}{L:List Int}(hR:Row la o L) (h:L.length≤8192):Z4l la o L.length=true:=by
 unfold Z4l;rw[Zih h,show Nat.min L.length (L.length+1)=L.length from by simp];have e1:(la.drop o).take L.length=wU L:=hR.cut;rw[e1,ZbB,show ro tU=false from by kernel_rfl];have h1:Nat.ble (o+L.length) la.length=true:=Nat.ble_eq_true_of_le hR.len;have h2:Nat.ble (0+L.length) (List.replicate (L.length+1) (uu 0)).length=true:=Nat.ble_eq_true_of_le (by simp);have h3:((wU L).all one)=true:=by
  unfold wU;rw[List.all_eq_true];intro v hv;obtain⟨x,_,rfl⟩:=List.mem_map.1 hv;rfl
 rw[h1,h2,h3];rfl
theorem ZzF {n:Nat}(h:n≤8192):ZI 4 (nP n) (nP n)=true:=by
 rw[ZzE h];exact dT (by omega)
theorem ZsG {L:List Int}(h:wds L) {c:Nat}(hc:L.length≤c) (h2:ZA c=true):Z6 tU (wU L) 0 L.length c=true∧Zx (wU L) 0 L.length=L:=by
 have e1:Zce (wU L) 0 L.length=wU L:=by
  unfold Zce;rw[List.drop_zero];exact List.take_of_length_le (by unfold wU;simp)
 have e2:Zx (wU L) 0 L.length=L:=by
  unfold Zx;rw[e1];unfold wU;rw[List.map_map];exact (List.map_congr_left fun x _=>rfl).trans (List.map_id' _)
 refine⟨?_,e2⟩;unfold Z6;rw[e1,h2,show Zak tU=false from by kernel_rfl,show Nat.beq (rt tU) tU=true from by kernel_rfl,Nat.ble_eq_true_of_le (show 0+L.length≤(wU L).length by unfold wU;simp),Nat.ble_eq_true_of_le hc];have h3:((wU L).all isU)=true:=by
  unfold wU;rw[List.all_eq_true];intro v hv;obtain⟨x,hx,rfl⟩:=List.mem_map.1 hv;exact dT (h x hx)
 have h4:((wU L).all still)=true:=by
  unfold wU;rw[List.all_eq_true];intro v hv;obtain⟨x,_,rfl⟩:=List.mem_map.1 hv;rfl
 rw[h3,h4];rfl
theorem Zcw {L:List Int}(h:ZU L=false):L.length≤8192:=by
 unfold ZU at h;simp only[Bool.or_eq_false_iff,decide_eq_false_iff_not] at h;omega
theorem ZcY (L:List Int):∀ u∈wU L,lt1 0 u=true:=fun u hu=>by
 unfold wU at hu;obtain⟨x,_,rfl⟩:=List.mem_map.1 hu;rfl
theorem ZdX:ro tU=false:=by kernel_rfl
end Go.Proofs.YtjlponbdflkbjaaGreatDoor.Na
namespace Go.Proofs.YtjlponbdflkbjaaGreatDoor.Na
open Go.Proofs.Tryz
open Go.IntKind
open Go.KRun Go.Nt
set_option maxRecDepth 100000
def bnt (z:Int):Int:=u32.wrap ((BitVec.ofInt 32 4294967295 ^^^ BitVec.ofInt 32 z).toNat:Nat)
def bnd (x y:Int):Int:=u32.wrap ((BitVec.ofInt 32 x &&& BitVec.ofInt 32 y).toNat:Nat)
def bxr (x y:Int):Int:=u32.wrap ((BitVec.ofInt 32 x ^^^ BitVec.ofInt 32 y).toNat:Nat)
def brr (x y:Int):Int:=u32.wrap ((BitVec.ofInt 32 x ||| BitVec.ofInt 32 y).toNat:Nat)
def ZzG (x y c:Int):Int:=u32.wrap (u32.wrap (x-y)-c)
def Z4O (x y c:Int):Int:=(brr (bnd (bnt x) y) (bnd (bnt (bxr x y)) (ZzG x y c))).fdiv (2^min ((31:Int).toNat) 32)
theorem Zj2 (x y c:Int):Z7 (Zm (Zk prog Zf Zn true) 100 146 [uu x,uu y,uu c] []) (.tuple #[uu (ZzG x y c),uu (Z4O x y c)]) [(decide ((31:Int)<0),false)]:=by and_intros<;>kernel_rfl
theorem Zj3 (v:BitVec 32):BitVec.ofInt 32 (u32.wrap (v.toNat:Nat))=v:=by
 rw[ZgS];have h:=v.isLt;apply BitVec.eq_of_toNat_eq;simp;omega
theorem Zpx (v:BitVec 32):u32.wrap (v.toNat:Nat)=v.toNat:=by
 rw[ZgS];have h:=v.isLt;omega
theorem Zuk (v:BitVec 32):v.toNat/2147483648=if v.getLsbD 31=true then 1 else 0:=by
 have h:=v.isLt;unfold BitVec.getLsbD;rw[Nat.testBit_eq_decide_div_mod_eq];have e:(2:Nat)^31=2147483648:=rfl;rw[e];by_cases h1:v.toNat/2147483648 % 2=1
 ·rw[dT h1];simp;omega
 ·rw[dF h1];simp;omega
theorem Zii {x:Int}(h0:0≤x) (h1:x<4294967296):(BitVec.ofInt 32 x).getLsbD 31=decide (2147483648≤x):=by
 have e:(BitVec.ofInt 32 x).toNat=x.toNat:=by simp;omega
 unfold BitVec.getLsbD;rw[e,Nat.testBit_eq_decide_div_mod_eq];have e2:(2:Nat)^31=2147483648:=rfl;rw[e2];by_cases h:2147483648≤x
 ·rw[dT h];exact dT (by omega)
 ·rw[dF h];exact dF (by omega)
def Zgo (x y c:Int):Int:=(x-y-c) % 4294967296
def Zj4 (x y c:Int):Int:=if x<y+c then 1 else 0
theorem Zpy {x y c:Int}(hx:0≤x∧x<4294967296) (hy:0≤y∧y<4294967296) (hc:0≤c∧c≤1):ZzG x y c=Zgo x y c∧Z4O x y c=Zj4 x y c:=by
 have e1:ZzG x y c=Zgo x y c:=by
  unfold ZzG Zgo;rw[ZgS,ZgS];omega
 refine⟨e1,?_⟩;have d0:0≤Zgo x y c∧Zgo x y c<4294967296:=by unfold Zgo;omega
 unfold Z4O;rw[e1];unfold brr bnd bnt bxr;simp only[Zj3];rw[Zpx,show (2:Int)^min ((31:Int).toNat) 32=2147483648 from rfl,Int.fdiv_eq_ediv_of_nonneg _ (by omega)];have key:=Zuk ((BitVec.ofInt 32 4294967295 ^^^ BitVec.ofInt 32 x) &&& BitVec.ofInt 32 y ||| (BitVec.ofInt 32 4294967295 ^^^ (BitVec.ofInt 32 x ^^^ BitVec.ofInt 32 y)) &&& BitVec.ofInt 32 (Zgo x y c));simp only[BitVec.getLsbD_or,BitVec.getLsbD_and,BitVec.getLsbD_xor,Zii hx.1 hx.2,Zii hy.1 hy.2,Zii d0.1 d0.2,Zii (x:=4294967295) (by omega) (by omega)] at key;rw[show decide ((2147483648:Int)≤4294967295)=true from rfl] at key;generalize hV:((BitVec.ofInt 32 4294967295 ^^^ BitVec.ofInt 32 x) &&& BitVec.ofInt 32 y ||| (BitVec.ofInt 32 4294967295 ^^^ (BitVec.ofInt 32 x ^^^ BitVec.ofInt 32 y)) &&& BitVec.ofInt 32 (Zgo x y c)).toNat=V at*;have cast:((V:Nat):Int)/2147483648=((V/2147483648:Nat):Int):=by omega
 rw[cast,key];unfold Zj4;unfold Zgo at*;by_cases a1:2147483648≤x<;>by_cases a2:2147483648≤y<;>by_cases a3:2147483648≤(x-y-c) % 4294967296<;>simp only[a1,a2,a3,decide_true,decide_false]<;>split<;>split<;>simp_all<;>omega
def ZzH (x y c:Int):Value:= .tuple #[uu (Zgo x y c),uu (Zj4 x y c)]
def Zlp:Ans:=fun vals s=>
 match vals with
 | [.int .u32 x,.int .u32 y,.int .u32 c]=>some (ZzH x y c,s,[(wd4 x y c,true)])
 | _=>none
theorem Zlq:ZR 146 Zlp:=by
 intro vals s v s' lg h hl w;unfold Zlp at h;split at h
 ·rename_i x y c;cases h;have hr:=hl _ mS;simp only[wd4,decide_eq_true_eq] at hr;obtain⟨e1,e2⟩:=Zpy hr.1 hr.2.1 hr.2.2;have:=Zc (Zj Zd) (Zj2 x y c) (Zt (by rfl)) (by rfl) (by rfl) w;rw[e1,e2] at this;exact this
 ·cases h
def ZsH:Con:=alt 146 Zlp Zn
theorem Zul:ConOk ZsH:=Z9 func146 rfl Zlq Zd
def cpS (la:List Value) (o n:Nat):List Value:=(List.replicate ((n:Int)).toNat (uu 0)).take 0++(la.drop o).take (Nat.min n ((n:Int)).toNat)++(List.replicate ((n:Int)).toNat (uu 0)).drop (0+Nat.min n ((n:Int)).toNat)
def Z4P (la:List Value) (o n:Nat):Bool:= !(Zak tR) && !(ro tU) && Nat.ble (o+Nat.min n ((n:Int)).toNat) la.length && Nat.ble (0+Nat.min n ((n:Int)).toNat) (List.replicate ((n:Int)).toNat (uu 0)).length && ((la.drop o).take (Nat.min n ((n:Int)).toNat)).all one
end Go.Proofs.YtjlponbdflkbjaaGreatDoor.Na
namespace Go.Nt
theorem Zgp {L:List Int}(h:wds L) (h0:0<L.length) (ht:L.getD (L.length-1) 0≠0):4294967296^(L.length-1)≤vN L:=by
 induction L with
 | nil=>simp at h0
 | cons x r ih=>
  obtain⟨h1,h2⟩:=Zae h;cases r with
  | nil=>
   simp at ht ⊢;simp [vN];omega
  | cons y r=>
   have:=ih h2 (by simp) (by simpa using ht);simp only[List.length_cons,Nat.add_sub_cancel] at this ⊢;rw[pw];have e:vN (x::y::r)=x+4294967296*vN (y::r):=rfl;rw[e];omega
theorem Zax {L:List Int}{k:Nat}(h:k<L.length):L.take (k+1)=L.take k++[L.getD k 0]:=by
 rw[List.take_add_one,List.getElem?_eq_getElem h];simp [List.getD,List.getElem?_eq_getElem h]
theorem Zcx {L:List Int}(h:wds L) (k:Nat):wds (L.take k):=fun x hx=>h x (List.mem_of_mem_take hx)
theorem ZeS {L M:List Int}(hL:wds L) (hM:wds M):∀ k,k≤L.length→k≤M.length→(Zan L M k<0↔vN (L.take k)<vN (M.take k))∧(Zan L M k=0↔vN (L.take k)=vN (M.take k))
 | 0,_,_=>by simp [Zan,vN]
 | k+1,h1,h2=>by
  have ih:=ZeS hL hM k (by omega) (by omega);have bL:=ZaL (L.take k) (Zcx hL k);have bM:=ZaL (M.take k) (Zcx hM k);have lL:(L.take k).length=k:=by simp;omega
  have lM:(M.take k).length=k:=by simp;omega
  rw[lL] at bL;rw[lM] at bM;rw[Zax (by omega:k<L.length),Zax (by omega:k<M.length),zo,zo,lL,lM];simp only[Zan];generalize L.getD k 0=x;generalize M.getD k 0=y;have hp:=Zaw k;by_cases hxy:x=y
  ·subst hxy;rw[if_pos rfl];omega
  ·rw[if_neg hxy];by_cases hlt:x<y
   ·rw[if_pos hlt];have:4294967296^k*x+4294967296^k≤4294967296^k*y:=by
     have:=Int.mul_le_mul_of_nonneg_left (show x+1≤y by omega) (Int.le_of_lt hp);rw[Int.mul_add,Int.mul_one] at this;exact this
    omega
   ·rw[if_neg hlt];have:4294967296^k*y+4294967296^k≤4294967296^k*x:=by
     have:=Int.mul_le_mul_of_nonneg_left (show y+1≤x by omega) (Int.le_of_lt hp);rw[Int.mul_add,Int.mul_one] at this;exact this
    omega
def Zbi (L:List Int):Prop:=wds L∧(L.length=0∨L.getD (L.length-1) 0≠0)
theorem Zij {L M:List Int}(hL:Zbi L) (hM:Zbi M):(Zci L M<0↔vN L<vN M)∧(Zci L M=0↔vN L=vN M):=by
 obtain⟨wL,tL⟩:=hL;obtain⟨wM,tM⟩:=hM;unfold Zci;by_cases hl:L.length=M.length
 ·rw[if_pos hl];have:=ZeS wL wM L.length (Nat.le_refl _) (by omega);rw[List.take_length,hl,List.take_length] at this;rw[hl];exact this
 ·rw[if_neg hl];have bL:=ZaL L wL;have bM:=ZaL M wM;by_cases hlt:L.length<M.length
  ·rw[if_pos hlt];have h1:=Zgp wM (by omega) (by rcases tM with h | h;omega;exact h);have h2:=Zpw (show L.length≤M.length-1 by omega);omega
  ·rw[if_neg hlt];have h1:=Zgp wL (by omega) (by rcases tL with h | h;omega;exact h);have h2:=Zpw (show M.length≤L.length-1 by omega);omega
end Go.Nt
namespace Go.Proofs.YtjlponbdflkbjaaGreatDoor.Na
open Go.KRun Go.Nt
set_option maxRecDepth 100000
theorem Zgq {x y c:Int}(hx:0≤x∧x<4294967296) (hy:0≤y∧y<4294967296) (hc:0≤c∧c≤1):(0≤Zgo x y c∧Zgo x y c<4294967296)∧(0≤Zj4 x y c∧Zj4 x y c≤1)∧x-y-c=Zgo x y c-4294967296*Zj4 x y c:=by
 unfold Zgo Zj4;split<;>omega
theorem ZsI {la:List Value}{o:Nat}{L:List Int}(hR:Row la o L):cpS la o L.length=wU L:=by
 unfold cpS;rw[tN,show Nat.min L.length L.length=L.length from by simp];have e1:(la.drop o).take L.length=wU L:=hR.cut;rw[e1,Nat.zero_add,List.take_zero,List.nil_append,List.drop_replicate,Nat.sub_self];simp
theorem Zum {la:List Value}{o:Nat}{L:List Int}(hR:Row la o L):Z4P la o L.length=true:=by
 unfold Z4P;rw[tN,show Nat.min L.length L.length=L.length from by simp];have e1:(la.drop o).take L.length=wU L:=hR.cut;rw[e1,ZbB,ZdX];have h1:Nat.ble (o+L.length) la.length=true:=Nat.ble_eq_true_of_le hR.len;have h2:Nat.ble (0+L.length) (List.replicate L.length (uu 0)).length=true:=Nat.ble_eq_true_of_le (by simp);have h3:((wU L).all one)=true:=by
  unfold wU;rw[List.all_eq_true];intro v hv;obtain⟨x,_,rfl⟩:=List.mem_map.1 hv;rfl
 rw[h1,h2,h3];rfl
theorem ZeT {L:List Int}(hw:wds L) (h:ZU L=false):Zbi L:=by
 unfold ZU at h;simp only[Bool.or_eq_false_iff,decide_eq_false_iff_not,Bool.and_eq_false_iff,beq_eq_false_iff_ne,ne_eq] at h;refine⟨hw,?_⟩;rcases h.2 with h | h
 ·exact .inl (by omega)
 ·exact .inr h
theorem Zlr {L M:List Int}(hL:Zbi L) (hM:Zbi M) (h:vN M≤vN L):M.length≤L.length:=by
 rcases Nat.lt_or_ge L.length M.length with hlt | hge
 ·exfalso
  have h1:=Zgp hM.1 (by omega) (by rcases hM.2 with h | h;omega;exact h);have h2:=Zpw (show L.length≤M.length-1 by omega);have:=ZaL L hL.1;omega
 ·exact hge
end Go.Proofs.YtjlponbdflkbjaaGreatDoor.Na
namespace Go.Nt
def vb (b:Nat):List Int→Nat
 | []=>0
 | x::l=>x.toNat+b*vb b l
def db (b V:Nat):List Int:=if _h:V=0∨b<2 then [] else ((V % b:Nat):Int)::db b (V/b)
 termination_by V
 decreasing_by exact Nat.div_lt_self (by omega) (by omega)
abbrev Dg (b:Nat) (x:Int):Prop:=0≤x∧x<b
theorem zp (b:Nat):db b 0=[]:=by rw[db];simp
theorem Zcy {b V:Nat}(hb:2≤b) (hV:V≠0):db b V=((V % b:Nat):Int)::db b (V/b):=by
 rw[db];rw[dif_neg (by omega)]
theorem ZbC {b:Nat}(hb:2≤b) (V:Nat):vb b (db b V)=V:=by
 induction V using Nat.strongRecOn with
 | ind V ih=>
  by_cases hV:V=0
  ·subst hV;rw[zp];rfl
  ·rw[Zcy hb hV];simp only[vb];rw[ih (V/b) (Nat.div_lt_self (by omega) (by omega)),tN];exact Nat.mod_add_div V b
theorem Zfx {b:Nat}(hb:2≤b) (V:Nat):∀ x∈db b V,Dg b x:=by
 induction V using Nat.strongRecOn with
 | ind V ih=>
  by_cases hV:V=0
  ·subst hV;rw[zp];intro x hx;cases hx
  ·rw[Zcy hb hV];intro x hx;rcases List.mem_cons.1 hx with rfl | hx
   ·have:=Nat.mod_lt V (show b>0 by omega);exact⟨by omega,by omega⟩
   ·exact ih (V/b) (Nat.div_lt_self (by omega) (by omega)) x hx
theorem Zcz {b V:Nat}(hb:2≤b):db b V=[]↔V=0:=by
 constructor
 ·intro h;by_cases hV:V=0
  ·exact hV
  ·rw[Zcy hb hV] at h;cases h
 ·rintro rfl;exact zp b
theorem zj {b:Nat}(hb:2≤b):∀ (L:List Int),(∀ x∈L,Dg b x)→L.take (Zl L)=db b (vb b L)
 | [],_=>by simp [vb,zp]
 | x::r,h=>by
  have ih:=zj hb r (fun y hy=>h y (mN _ hy));have hx:=h x (mH);have hxn:((x.toNat:Nat):Int)=x:=Int.toNat_of_nonneg hx.1;have hlt:x.toNat<b:=by omega
  have e1:(x.toNat+b*vb b r) % b=x.toNat:=by rw[Nat.add_mul_mod_self_left,Nat.mod_eq_of_lt hlt]
  have e2:(x.toNat+b*vb b r)/b=vb b r:=by rw[Nat.add_mul_div_left _ _ (by omega),Nat.div_eq_of_lt hlt,Nat.zero_add]
  unfold Zl;by_cases h0:Zl r=0
  ·rw[if_pos h0];rw[h0,List.take_zero] at ih;have hv:vb b r=0:=(Zcz hb).1 ih.symm;by_cases hx0:x=0
   ·rw[if_pos hx0];simp only[List.take_zero,vb,hv,hx0];simp [zp]
   ·rw[if_neg hx0];have hx1:x.toNat≠0:=by omega
    show [x]=_;simp only[vb];rw[Zcy hb (by rw[hv];omega),e1,e2,hv,zp,hxn]
  ·rw[if_neg h0];have hv:vb b r≠0:=fun hv=>by
    rw[hv,zp] at ih;have hl:=congrArg List.length ih;have:=Za4 r;simp at hl;rcases hl with hl | hl
    ·exact h0 hl
    ·subst hl;exact h0 rfl
   have hpos:0<b*vb b r:=Nat.mul_pos (by omega) (by omega);show x::r.take (Zl r)=_;simp only[vb];rw[Zcy hb (by omega),e1,e2,hxn,ih]
theorem Zat {b:Nat}(hb:2≤b) {L:List Int}(h:∀ x∈L,Dg b x):Zl L=(db b (vb b L)).length:=by
 rw[← zj hb L h];have:=Za4 L;simp;omega
def Zbk (b:Nat) (L:List Int):Prop:=(∀ x∈L,Dg b x)∧Zl L=L.length
theorem ZdY {b:Nat}(hb:2≤b) (V:Nat):Zbk b (db b V):=by
 have h:=Zfx hb V;refine⟨h,?_⟩;have:=Zat hb h;rw[ZbC hb] at this;exact this
theorem Zls {b:Nat}(hb:2≤b) {L:List Int}(h:Zbk b L):db b (vb b L)=L:=by
 rw[← zj hb L h.1,h.2,List.take_length]
theorem ZaZ {b:Nat}(hb:2≤b):∀ (k V:Nat),V<b^k→(db b V).length≤k
 | 0,V,h=>by
  have:V=0:=by simpa using h
  subst this;rw[zp];exact Nat.le_refl _
 | k+1,V,h=>by
  by_cases hV:V=0
  ·subst hV;rw[zp];exact Nat.zero_le _
  ·rw[Zcy hb hV];have:V/b<b^k:=Nat.div_lt_of_lt_mul (by rw[Nat.pow_succ] at h;rw[Nat.mul_comm];exact h);have:=ZaZ hb k (V/b) this;simp;omega
theorem Zbl {b:Nat}(hb:2≤b):∀ (L:List Int),(∀ x∈L,Dg b x)→vb b L<b^L.length
 | [],_=>by simp [vb]
 | x::r,h=>by
  have ih:=Zbl hb r (fun y hy=>h y (mN _ hy));have hx:=h x (mH);have hlt:x.toNat<b:=by omega
  simp only[vb,List.length_cons,Nat.pow_succ]
  calc x.toNat+b*vb b r<b+b*vb b r:=by omega
   _=b*(vb b r+1):=by rw[Nat.mul_add,Nat.mul_one,Nat.add_comm]
   _≤b*b^r.length:=Nat.mul_le_mul_left _ ih
   _=b^r.length*b:=Nat.mul_comm _ _
theorem Zay (b:Nat):∀ (L M:List Int),vb b (L++M)=vb b L+b^L.length*vb b M
 | [],M=>by simp [vb]
 | x::r,M=>by
  simp only[List.cons_append,vb,Zay b r M,List.length_cons,Nat.pow_succ];rw[Nat.mul_add,← Nat.mul_assoc,Nat.mul_comm b (b^r.length)];omega
end Go.Nt
