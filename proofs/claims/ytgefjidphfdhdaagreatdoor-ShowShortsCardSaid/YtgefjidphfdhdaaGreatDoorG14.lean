/-
  ShF, ShH, PatA, ShI, TxY, ShJ, ShK, Con2, Con3, ShN
-/
import Derived.Test.YtgefjidphfdhdaaGreatDoorG13
import Derived.WalkSmall
namespace Go.Proofs.YtgefjidphfdhdaaGreatDoor
open Go.Proofs.Tryz
open Go.KRun Go.Rd Go.RowKit
set_option maxRecDepth 100000
def pwV:List Value:=Lib.pow10Tab.map fun z=>Value.int .u64 z
def pwT:TypeId:=3*zo+(1048576*20+2)
def knT (w:World):Prop:=∃ t z,w.heap[2]? =some (.cells pwV.toArray t z)
theorem Zjq {w:World}(h:knT w) {nm:String}(hn:prog.globalNamed nm=some 2):Lib.TabIs prog w nm .u64 Lib.pow10Tab:=by
 obtain⟨t,z,h⟩:=h;unfold Lib.TabIs World.var?;rw[hn];simp only[Option.bind_some];rw[h];rfl
def Zr5:List Value→List Int→Bool
 | [],[]=>true
 | .int .u64 a::r,b::q=>decide (a=b) && Zr5 r q
 | _,_=>false
theorem Zjr:∀ {l:List Value}{q:List Int},Zr5 l q=true→l=q.map fun z=>Value.int .u64 z
 | [],[],_=>rfl
 | .int .u64 a::r,b::q,h=>by
  unfold Zr5 at h;rw[Xh,Xi] at h;rw[List.map_cons,h.1,Zjr h.2]
def isT:Option (List Value×TypeId)→Bool
 | some (cs,ty)=>Nat.beq ty pwT && Zr5 cs Lib.pow10Tab
 | none=>false
def Z6q (h:Hp):Bool:=isT (h.blk? 0) || isT (h.blk? 1)
theorem Zt6 {o:Option (List Value×TypeId)}(h:isT o=true):o=some (pwV,pwT):=by
 unfold isT at h;split at h
 ·rw[Xh] at h;rw[Xj h.1,Zjr h.2];rfl
 ·cases h
theorem ZfO (m:Mp):pwV.map (mv1 m)=pwV:=rfl
theorem Z11 {m:Mp}{B:Nat}{h:Hp}{w:World}(E:Emb m B h w) (ht:Z6q h=true):knT w:=by
 obtain⟨b,hb⟩:∃ b,h.blk? b=some (pwV,pwT):=by
  unfold Z6q at ht;rw[Bool.or_eq_true] at ht;rcases ht with ht | ht
  ·exact⟨0,Zt6 ht⟩
  ·exact⟨1,Zt6 ht⟩
 obtain⟨_,r,t,z,k2,k3⟩:=E.abs b _ hb (by kernel_rfl);have e1:nbA pwT=2:=by kernel_rfl
 have e2:lnA pwT=20:=by kernel_rfl
 simp only[ZfO,e1] at k2;simp only[ZfO,e2] at k3;have e3:pwV.length=20:=rfl;have hr:r=[]:=List.length_eq_zero_iff.1 (by omega);rw[hr,List.append_nil] at k2;exact⟨t,z,k2⟩
def Zce (f:Nat) (g:Ans):Prop:=∀ vals s v s' lg,g vals s=some (v,s',lg)→Zx lg→∀ w,knT w→Calls prog f vals.toArray w fun e w'=>e= .returned v∧Za0 w w'
def gT (g:Ans):Zae:=fun vals h s=>
 match Z6q h && vals.all (lt 0) with
 | true=>
  match g vals s with
  | some (v,s',lg)=>match lt 0 v with | true=>some (v,h,s',lg) | false=>none
  | none=>none
 | false=>none
theorem Zeu {f:Nat}{g:Ans}(hg:Zce f g):Z6 f (gT g):=by
 intro vals h s v h' s' lg hr hl m B w E hv;unfold gT at hr;split at hr
 ·rename_i hc;rw[Xh] at hc;split at hr
  ·rename_i v1 s1 lg1 hgv;split at hr
   ·rename_i hv0;cases hr;have hst:∀ y∈vals,lt 0 y=true:=List.all_eq_true.1 hc.2;have e:vals.map (mv m)=vals:=(List.map_congr_left fun y hy=>ZA (hst y hy)).trans (List.map_id' _);rw[e];refine (hg _ _ _ _ _ hgv hl w (Z11 E hc.1)).mono fun e w' he=> ?_;obtain⟨E',hb'⟩:=ZT E he.2;exact⟨m,by rw[he.1,ZA hv0],⟨Agree.refl _ _,E',hb',Nat.le_refl _,zG (Nat.zero_le _) hv0⟩⟩
   ·cases hr
  ·cases hr
 ·cases hr
def hT0:Hp:=⟨1,[(pwV,pwT)]⟩
theorem Zfa {b:Nat}{x:List Value×TypeId}(h:hT0.blk? b=some x):x=(pwV,pwT):=by
 have hb0:b=0:=by have:b<1:=Hp.blk_lt h;omega
 subst hb0;exact (Option.some.inj h).symm
theorem Z9b {w:World}(hk:knT w) (m:Mp):nbA pwT<w.heap.size∧absR w (pwV.map (mv1 m)) pwT:=by
 obtain⟨t,z,h⟩:=hk;have e1:nbA pwT=2:=by kernel_rfl
 have e2:lnA pwT=20:=by kernel_rfl
 refine⟨by rw[e1];exact (Array.getElem?_eq_some_iff.1 h).1,[],t,z,?_,.inr ?_⟩
 ·rw[e1,ZfO,List.append_nil,h]
 ·rw[e2];rfl
theorem Zt7 {w:World}(hk:knT w):Emb (fun b=>(b,0)) w.heap.size hT0 w where
 len:=rfl
 lies:=fun b x hb hx=>by rw[Zfa hb,show Zad pwT=true from by kernel_rfl] at hx;cases hx
 low:=fun b x hb hx=>by rw[Zfa hb,show ro pwT=true from by kernel_rfl] at hx;cases hx
 ros:=fun b x hb hx=>by rw[Zfa hb,show Zad pwT=true from by kernel_rfl] at hx;cases hx
 inj:=fun b b' x x' hb _ hx=>by rw[Zfa hb,show ro pwT=true from by kernel_rfl] at hx;cases hx
 wf:=fun b x hb v hv=>by
  rw[Zfa hb] at hv;have:∀ v∈pwV,lt1 1 v=true:=List.all_eq_true.1 (by kernel_rfl);exact this v hv
 base:=Nat.le_refl _
 ice:=fun k h1 h2=>by omega
 abs:=fun b x hb _=>by
  rw[Zfa hb];exact Z9b hk _
theorem ZfP {T:Tab}(hT:TabOk T) {n f:Nat}{vals:List Value}{s:List Dec}{v:Value}{cs:Log}(hF:ZD (zg T hT0 n f vals s) v cs) (hcs:Zx cs) (hvals:(vals.all (lt 0))=true) (hv:lt 0 v=true) {w:World}(hk:knT w):
  Calls T.P f vals.toArray w fun e w'=>e= .returned v∧Za0 w w':=Zg4 hT hF hcs hvals hv (Zt7 hk)
theorem ZnG:∀ {f u:Nat},u<10^(f+1)→Lib.decDigits u=Zba (f+1) u
 | 0,u,h=>by
  have h10:u<10:=by simpa using h
  rw[Lib.decDigits_one h10];unfold Zba;rw[if_pos h10];rfl
 | f+1,u,h=>by
  unfold Zba;by_cases h10:u<10
  ·rw[if_pos h10,Lib.decDigits_one h10];rfl
  ·rw[if_neg h10,Lib.decDigits,dif_neg h10,ZnG (f:=f) (by rw[Nat.pow_succ] at h;omega)];rfl
theorem ZhU {u:Nat}(h:u<18446744073709551616):Lib.decDigits u=dcL u:=ZnG (f:=19) (Zjh h)
theorem Zr6 {n:Int}(h:n.natAbs<18446744073709551616):Lib.itoa n=ZaB n:=by
 unfold Lib.itoa ZaB;split
 ·rw[ZhU h]
 ·rw[show n.toNat=n.natAbs by omega,ZhU h]
theorem Zdl {w w':World}(h:Below w.heap.size w w'):Za0 w w':=⟨h,fun _ _ _=>trivial⟩
theorem Zdy (w:World) (k:Nat) (os:Array Obj):Below w.heap.size w (Go.Sort.grow (w.drewN k) os):=by
 refine⟨rfl,rfl,rfl,?_,fun j hj=> ?_⟩
 ·show w.heap.size≤(w.heap++os).size;rw[Array.size_append];omega
 ·show (w.heap++os)[j]? =w.heap[j]?;rw[Array.getElem?_append_left hj]
theorem Zku (n:Int) (h:n.natAbs≤2000000) (w:World) (hk:knT w):Calls prog 46 #[.int .i64 n] w fun e w'=>e= .returned (bR (ZaB n))∧Za0 w w':=by
 refine (Any.strconv_Itoa ZfH n (by omega) (by omega) w (Zjq hk (by kernel_rfl))).mono fun e w' he=> ?_;obtain⟨he,k,os,rfl⟩:=he;refine⟨?_,Zdl (Zdy w k os)⟩;rw[he,Zr6 (by omega)];rfl
def Z6r:Ans:=fun vals s=>
 match vals with
 | [.int .i64 n]=>some (bR (ZaB n),s,[(decide (n.natAbs≤2000000),true)])
 | _=>none
theorem Zwt:Zce 46 Z6r:=by
 intro vals s v s' lg h hl w hk;unfold Z6r at h;split at h
 ·cases h;exact Zku _ (Xc (hl _ Xf)) w hk
 ·cases h
end Go.Proofs.YtgefjidphfdhdaaGreatDoor
namespace Go.Proofs.YtgefjidphfdhdaaGreatDoor
open Go.Proofs.Tryz
open Go.KRun Go.Nt Go.Rd
set_option maxRecDepth 100000
theorem Zr7 (c:Int) (L:List UInt8) (n:Nat) (x:Lf) (h:∃ (l:List UInt8) (g:Nat→Value),x.1=trF l c++tl 18 g∧x.2.1=⟨0,[]⟩∧trC c l=trC c L∧l.length≤100000∧n=l.length):Runs (Zq prog Zf Zo true) (Z1g f85) x fun e y=>match e with | none=>∃ n',n'<n∧∃ (l:List UInt8) (g:Nat→Value),y.1=trF l c++tl 18 g∧y.2.1=⟨0,[]⟩∧trC c l=trC c L∧l.length≤100000∧n'=l.length | some none=>False | some (some id')=>id'=0∧∃ g:Nat→Value,y.1=trF (trC c L) c++tl 18 g∧y.2.1=⟨0,[]⟩:=by
 obtain⟨l,g,e1,e2,h1,h3,h2⟩:=h;obtain⟨t,hh,s⟩:=x;have e1:t=_:=e1;have e2:hh=_:=e2;subst e1 e2;have T:=Zp Zd;by_cases hn:l=[]
 ·subst hn;refine (Zc T (Z1j [] c g) (Z5 (by decide))).mono fun e z he=> ?_;obtain⟨rfl,⟨g',z1⟩,z2⟩:=he;have:trC c L=[]:=h1.symm;rw[this];exact⟨rfl,g',z1,z2⟩
 ·obtain⟨l',x,hl⟩:∃ l' x,l=l'++[x]:=⟨l.dropLast,l.getLast hn,(List.dropLast_concat_getLast hn).symm⟩;have hlen:l.length=l'.length+1:=by rw[hl,List.length_append];rfl
  have em:lm1 l=(l'.length:Nat):=by unfold lm1;rw[Zw (by omega) (by omega)];omega
  have eb:byR l (lm1 l)=lq8 x:=by
   unfold byR lq8;rw[em,Xg,hl];simp [List.getD]
  have et:l.take (lm1 l).toNat=l':=by
   rw[em,Xg,hl];exact List.take_left' rfl
  have k1:decide (0≤lm1 l∧(lm1 l).toNat<l.length)=true:=Xa (by omega);have k2:decide (((l.length:Nat):Int)>0)=true:=Xa (by omega);by_cases hx:lq8 x=c
  ·have hg:=Z6k l c g;rw[et] at hg;refine (Zc T hg (Za (Xa (by omega)) (Za (by rw[eb];simpa using hx) (Za k1 (Z5 k2))))).mono fun e z he=> ?_;obtain⟨rfl,⟨g',z1⟩,z2⟩:=he;refine⟨l'.length,by omega,l',g',z1,z2,?_,by omega,rfl⟩;rw[← h1,hl,Zjn,if_pos hx]
  ·refine (Zc T (Z1i l c g) (Za (by rw[eb];simpa using hx) (Za k1 (Z5 k2)))).mono fun e z he=> ?_;obtain⟨rfl,⟨g',z1⟩,z2⟩:=he;have:trC c L=l:=by rw[← h1,hl,Zjn,if_neg hx]
   rw[this];exact⟨rfl,g',z1,z2⟩
theorem Zkv (c:Int) (l:List UInt8) (hl:l.length≤100000) (w:World):Calls prog 85 #[bR l,.int .u8 c] w fun r w'=>r= .returned (bR (trC c l))∧Za0 w w':=by
 have hT:=Zp Zd;refine Zai (T:=Zq prog Zf Zo true) func85 Zwh (by rfl) (by rfl) ?_ w;refine Z3 hT (Z1h l c) Zca fun g=> ?_;refine Runs.seq (P1:=fun e y=>e=none∧∃ g:Nat→Value,y.1=trF (trC c l) c++tl 18 g∧y.2.1=⟨0,[]⟩) ?_ ?_ (fun e y he=>by cases he.1)
 ·refine (Runs.forLoop (R:=fun _=>False) (P:=fun y=>∃ g:Nat→Value,y.1=trF (trC c l) c++tl 18 g∧y.2.1=⟨0,[]⟩) (fun n x=>∃ (l':List UInt8) (g:Nat→Value),x.1=trF l' c++tl 18 g∧x.2.1=⟨0,[]⟩∧trC c l'=trC c l∧l'.length≤100000∧n=l'.length) (Zr7 c l) (n:=l.length) ⟨l,g,rfl,rfl,rfl,hl,rfl⟩).mono fun e z hz=> ?_
  match e,hz with
  | none,hz=>exact⟨rfl,hz⟩
 ·intro y he;obtain⟨_,g',e1,e2⟩:=he;obtain⟨t,hh,s⟩:=y;have e1:t=_:=e1;have e2:hh=_:=e2;subst e1 e2;refine (Zc hT (Z1k (trC c l) c g') Zca).mono fun e z hz=> ?_;obtain⟨rfl,⟨g2,z1⟩,z2⟩:=hz;exact⟨.inr rfl,by rw[z1,z2];rfl⟩
def Z6s:Ans:=fun vals s=>
 match vals with
 | [.string b,.int .u8 c]=>some (bR (trC c b.data.toList),s,[(decide (b.data.toList.length≤100000),true)])
 | _=>none
theorem Zwu:zT 85 Z6s:=by
 intro vals s v s' lg h hl w;unfold Z6s at h;split at h
 ·cases h;exact Zkv _ _ (Xc (hl _ Xf)) w
 ·cases h
def ZnH:Con:=alt 85 Z6s Zo
theorem ZdH:ConOk ZnH:=ZM func85 rfl Zwu Zd
theorem Z6t (l:List UInt8):ZD (Zr (Zq prog Zf ZnH true) 100 42 [bR l,bR [48]] [sam true]) (bR l) [Zpf l [] true]:=by and_intros<;>kernel_rfl
theorem Z6u (l:List UInt8):ZD (Zr (Zq prog Zf ZnH true) 100 42 [bR l,bR [48]] [sam false]) (bR (trC 48 l)) [(decide (l.length≤100000),true),(true,true),(true,true),Zpf l [] false]:=by and_intros<;>kernel_rfl
theorem Z6v (l:List UInt8):ZD (Zr (Zq prog Zf ZnH true) 100 42 [bR l,bR [57]] [sam true]) (bR l) [Zpf l [] true]:=by and_intros<;>kernel_rfl
theorem Z6w (l:List UInt8):ZD (Zr (Zq prog Zf ZnH true) 100 42 [bR l,bR [57]] [sam false]) (bR (trC 57 l)) [(decide (l.length≤100000),true),(true,true),(true,true),Zpf l [] false]:=by and_intros<;>kernel_rfl
def Z4o:Ans:=fun vals s=>
 match vals with
 | [.string b,.string ⟨⟨[c]⟩⟩]=>some (bR (trC (lq8 c) b.data.toList),s,[(decide (c=48∨c=57),true),(decide (b.data.toList.length≤100000),true)])
 | _=>none
theorem ZnI:zT 42 Z4o:=by
 intro vals s v s' lg h hl w;unfold Z4o at h;split at h
 ·rename_i b c;cases h;have hc:=Xc (hl _ Xe);have h2:=hl _ (Xd _ Xf);by_cases hn:b.data.toList=[]
  ·have hb:b=⟨⟨[]⟩⟩:=by
    apply ByteArray.ext;apply Array.ext';exact hn
   subst hb;rcases hc with rfl | rfl
   ·exact Ze (Zp ZdH) (Z6t []) (Z5 (Zdj (Xa rfl))) (by rfl) (by rfl) w
   ·exact Ze (Zp ZdH) (Z6v []) (Z5 (Zdj (Xa rfl))) (by rfl) (by rfl) w
  ·rcases hc with rfl | rfl
   ·exact Ze (Zp ZdH) (Z6u b.data.toList) (Za h2 (Za rfl (Za rfl (Z5 (Zdj (Xb hn)))))) (by rfl) (by rfl) w
   ·exact Ze (Zp ZdH) (Z6w b.data.toList) (Za h2 (Za rfl (Za rfl (Z5 (Zdj (Xb hn)))))) (by rfl) (by rfl) w
 ·cases h
theorem Zwv (c:UInt8) (n:Nat):Lib.repeatL [c] n=List.replicate n c:=by
 have:=Lib.repeatL_replicate c 1 n;rw[Nat.mul_one] at this;exact this
def Z6x:Ans:=fun vals s=>
 match vals with
 | [.string ⟨⟨[c]⟩⟩,.int .i64 n]=>some (bR (List.replicate n.toNat c),s,[(decide (0≤n∧n≤100000),true)])
 | _=>none
theorem Zww:zT 72 Z6x:=by
 intro vals s v s' lg h hl w;unfold Z6x at h;split at h
 ·rename_i c n;cases h;obtain⟨h1,h2⟩:=Xc (hl _ Xf);obtain⟨k,rfl⟩:∃ k:Nat,n=k:=⟨n.toNat,by omega⟩;refine (Any.strings_Repeat Zwg Zdi ⟨⟨[c]⟩⟩ k w (by omega) (by show 1*k≤_;omega)).mono fun e w' he=> ?_;refine⟨?_,Zdl he.2⟩;rw[he.1,Zwv];rfl
 ·cases h
theorem Z12:∀ l r:List UInt8,Lib.compareBytes l r=cmS l r
 | [],[]=>rfl
 | [],_::_=>rfl
 | _::_,[]=>rfl
 | a::l,b::r=>by
  unfold Lib.compareBytes cmS;have e1:(a<b)=(lq8 a<lq8 b):=by
   unfold lq8;rw[UInt8.lt_iff_toNat_lt];apply propext;omega
  have e2:(b<a)=(lq8 b<lq8 a):=by
   unfold lq8;rw[UInt8.lt_iff_toNat_lt];apply propext;omega
  by_cases h1:a<b
  ·rw[if_pos h1,if_pos (e1.mp h1)]
  ·rw[if_neg h1,if_neg (fun c=>h1 (e1.mpr c))];by_cases h2:b<a
   ·rw[if_pos h2,if_pos (e2.mp h2)]
   ·rw[if_neg h2,if_neg (fun c=>h2 (e2.mpr c)),Z12 l r]
def Z6y:Ans:=fun vals s=>
 match vals with
 | [.string a,.string b]=>some (.int .i64 (cmS a.data.toList b.data.toList),s,[])
 | _=>none
theorem ZhV (w:World):Za0 w w:=⟨Go.RowKit.Below.refl _ _,fun k h1 h2=>by omega⟩
theorem Zwx:zT 125 Z6y:=by
 intro vals s v s' lg h hl w;unfold Z6y at h;split at h
 ·rename_i a b;cases h;refine (Any.strings_Compare Zwf a b w).mono fun e w' he=> ?_;obtain⟨he,rfl⟩:=he;exact⟨by rw[he,Z12],ZhV _⟩
 ·cases h
end Go.Proofs.YtgefjidphfdhdaaGreatDoor
namespace Go.Proofs.YtgefjidphfdhdaaGreatDoor
open Go.Proofs.Tryz
open Go.IntKind
open Go.KRun Go.Pt
set_option maxRecDepth 100000
def gU (k:Int→Value):Ans:=fun vals s=>
 match vals with
 | [.int .u64 p]=>some (k p,s,[(decide (U p),true)])
 | _=>none
theorem ZnJ {f:Nat}{k:Int→Value}(hk:∀ p:Int,U p→∀ w,Calls prog f #[.int .u64 p] w fun e w'=>e= .returned (k p)∧Za0 w w'):zT f (gU k):=by
 intro vals s v s' lg h hl w;unfold gU at h;split at h
 ·cases h;exact hk _ (Xc (hl _ Xf)) w
 ·cases h
theorem Zr8 (p:Int):ZD (Zr (Zq prog Zf Zo true) 300 114 [.int .u64 p] []) (.int .u64 (Z5H p 9223372036854775808)) []:=by and_intros<;>kernel_rfl
theorem Z13:zT 114 (gU fun p=> .int .u64 (mag p)):=ZnJ fun p hp w=>by
 have:=Ze (Zp Zd) (Zr8 p) (fun x hx=>by cases hx) (by rfl) (by rfl) w;rw[ZmH hp] at this;exact this
def Zh0:Con:=alt 114 (gU fun p=> .int .u64 (mag p)) Zo
theorem Zcj:ConOk Zh0:=ZM func114 rfl Z13 Zd
def exM (p:Int):Int:=i64.wrap ((mag p).fdiv (2^min (52:Int).toNat 64))
theorem Zt8 (p:Int):exM p=ex p:=by
 have e:((2:Int)^min (52:Int).toNat 64)=4503599627370496:=by rfl
 unfold exM;rw[e,Int.fdiv_eq_ediv_of_nonneg _ (by omega),Z0u];have:=ZhE p;exact ZiL ⟨by omega,by omega⟩
def frM (p:Int):Int:=ZqL p 4503599627370495
def lX (p:Int) (l:Log):Log:=(decide ((52:Int)<0),false)::(decide (U p),true)::l
theorem Z6z {p:Int}(hp:U p):Zx (lX p []):=Za rfl (Z5 (Xa hp))
def lQ (p:Int):Bool:=ZqL (frM p) 2251799813685248 !=0
theorem ZnK (p:Int) (d:Bool):ZD (Zr (Zq prog Zf Zh0 true) 300 58 [.int .u64 p] [cmp true,cmp d]) (.int .i64 (match d with | true=>0 | false=>1)) ((frM p==0,d)::(exM p==0,true)::lX p []):=by
 cases d<;>exact by and_intros<;>kernel_rfl
theorem ZhW (p:Int):ZD (Zr (Zq prog Zf Zh0 true) 300 58 [.int .u64 p] [cmp false,cmp true,cmp true]) (.int .i64 3) ((frM p==0,true)::(exM p==2047,true)::(exM p==0,false)::lX p []):=by and_intros<;>kernel_rfl
theorem ZnL (p:Int) (d:Bool):ZD (Zr (Zq prog Zf Zh0 true) 300 58 [.int .u64 p] [cmp false,cmp true,cmp false,cmp d]) (.int .i64 (match d with | true=>4 | false=>5)) ((lQ p,d)::(frM p==0,false)::(exM p==2047,true)::(exM p==0,false)::lX p []):=by
 cases d<;>exact by and_intros<;>kernel_rfl
theorem ZnM (p:Int):ZD (Zr (Zq prog Zf Zh0 true) 300 58 [.int .u64 p] [cmp false,cmp false]) (.int .i64 2) ((exM p==2047,false)::(exM p==0,false)::lX p []):=by and_intros<;>kernel_rfl
theorem ZnN {p:Int}(hp:U p):frM p=fr p:=ZmI hp
theorem Z60 {p:Int}(hp:U p):lQ p=decide (2251799813685248≤fr p):=by
 have:=Zf9 p;unfold lQ;rw[ZnN hp,Zkn ⟨by omega,by omega⟩];by_cases h:2251799813685248≤fr p
 ·rw[Xa h,show fr p/2251799813685248=1 from by omega];rfl
 ·rw[Xb h,show fr p/2251799813685248=0 from by omega];rfl
theorem ZnO:zT 58 (gU fun p=> .int .i64 (cl p)):=ZnJ fun p hp w=>by
 have hl:=Z6z hp;have ee:=Zt8 p;have ef:=ZnN hp;unfold cl;by_cases h0:ex p=0
 ·rw[if_pos h0];have:=Ze (Zp Zcj) (ZnK p (frM p==0)) (Za rfl (Za (by rw[ee];simp [h0]) hl)) (by rfl) (by cases (frM p==0)<;>rfl) w;rw[ef] at this;by_cases h1:fr p=0
  ·rw[if_pos h1];rw[show (fr p==0)=true from by simp [h1]] at this;exact this
  ·rw[if_neg h1];rw[show (fr p==0)=false from by simp [h1]] at this;exact this
 ·rw[if_neg h0];by_cases h2:ex p=2047
  ·rw[if_pos h2];by_cases h1:fr p=0
   ·rw[if_pos h1];exact Ze (Zp Zcj) (ZhW p) (Za (by rw[ef];simp [h1]) (Za (by rw[ee];simp [h2]) (Za (by rw[ee];simp [h0]) hl))) (by rfl) (by rfl) w
   ·rw[if_neg h1];have:=Ze (Zp Zcj) (ZnL p (lQ p)) (Za rfl (Za (by rw[ef];simp [h1]) (Za (by rw[ee];simp [h2]) (Za (by rw[ee];simp [h0]) hl)))) (by rfl) (by cases (lQ p)<;>rfl) w;rw[Z60 hp] at this;by_cases h3:2251799813685248≤fr p
    ·rw[if_pos h3];rw[Xa h3] at this;exact this
    ·rw[if_neg h3];rw[Xb h3] at this;exact this
  ·rw[if_neg h2];exact Ze (Zp Zcj) (ZnM p) (Za (by rw[ee];simp [h2]) (Za (by rw[ee];simp [h0]) hl)) (by rfl) (by rfl) w
def Ziz:Con:=alt 58 (gU fun p=> .int .i64 (cl p)) Zh0
theorem ZcX:ConOk Ziz:=ZM func58 rfl ZnO Zcj
def vP (m:Bool) (c e s:Int):Value:= .agg #[.bool m,.int .i64 c,.int .i64 e,.int .u64 s]
def vT (p:Int):Value:=vP (sgn p) (cl p) (xp p) (sg p)
def lS (p:Int) (d:Bool):Bool×Bool:=(ZqL p 9223372036854775808 !=0,d)
def lU (p:Int):Bool×Bool:=(decide (U p),true)
theorem ZhX (p:Int) (d:Bool):ZD (Zr (Zq prog Zf Ziz true) 300 20 [.int .u64 p] [cmp d,cmp true]) (vP d (cl p) (-1074) (frM p)) [(cl p==0,true),lU p,lS p d]:=by and_intros<;>kernel_rfl
theorem ZnP (p:Int) (d:Bool):ZD (Zr (Zq prog Zf Ziz true) 300 20 [.int .u64 p] [cmp d,cmp false,cmp true]) (vP d (cl p) (-1074) (frM p)) [(cl p==1,true),(cl p==0,false),lU p,lS p d]:=by and_intros<;>kernel_rfl
theorem Zkw (p:Int) (d:Bool):ZD (Zr (Zq prog Zf Ziz true) 300 20 [.int .u64 p] [cmp d,cmp false,cmp false,cmp true]) (vP d (cl p) (i64.wrap (exM p-1075)) (bOr (frM p) 4503599627370496)) [(decide ((52:Int)<0),false),lU p,(cl p==2,true),(cl p==1,false),(cl p==0,false),lU p,lS p d]:=by and_intros<;>kernel_rfl
theorem Zkx (p:Int) (d:Bool):ZD (Zr (Zq prog Zf Ziz true) 300 20 [.int .u64 p] [cmp d,cmp false,cmp false,cmp false]) (vP d (cl p) 0 (frM p)) [(cl p==2,false),(cl p==1,false),(cl p==0,false),lU p,lS p d]:=by and_intros<;>kernel_rfl
theorem Zwy {p:Int}(hp:U p):(ZqL p 9223372036854775808 !=0)=sgn p:=by
 rw[ZmJ hp];unfold sgn;unfold U at hp;by_cases h:9223372036854775808≤p
 ·rw[Xa h,show p/9223372036854775808=1 from by omega];rfl
 ·rw[Xb h,show p/9223372036854775808=0 from by omega];rfl
theorem Zr9 (p:Int):(ex p=0∧(cl p=0∨cl p=1))∨(ex p=2047∧3≤cl p)∨(ex p≠0∧ex p≠2047∧cl p=2):=by
 unfold cl;split
 ·split<;>omega
 ·split
  ·split
   ·omega
   ·split<;>omega
  ·omega
theorem Zwz {p:Int}:bOr (fr p) 4503599627370496=fr p+4503599627370496:=by
 have:=Zf9 p;rw[or_low 52 (z:=1) (by omega) (by rfl) this.1 (show fr p<2^52 from this.2) (by omega)];omega
theorem Zky (p:Int) (hp:U p) (w:World):Calls prog 20 #[.int .u64 p] w fun e w'=>e= .returned (vT p)∧Za0 w w':=by
 have hu:decide (U p)=true:=Xa hp;have hs:=Zwy hp;have hf:=ZnN hp;have he:=Zt8 p;have hx:=ZhE p;unfold vT xp sg;rcases Zr9 p with ⟨h1,h2⟩ | ⟨h1,h2⟩ | ⟨h1,h2,h3⟩
 ·rw[if_pos h1,if_pos h1];rcases h2 with h2 | h2
  ·have:=Ze (Zp ZcX) (ZhX p (sgn p)) (Za (by simp [h2]) (Za hu (Z5 hs))) (by rfl) (by rfl) w;rw[hf] at this;exact this
  ·have:=Ze (Zp ZcX) (ZnP p (sgn p)) (Za (by simp [h2]) (Za (by simp [h2]) (Za hu (Z5 hs)))) (by rfl) (by rfl) w;rw[hf] at this;exact this
 ·have h0:¬ ex p=0:=by omega
  simp only[if_neg h0,if_pos h1];have h3:¬ cl p=0:=by omega
  have h4:¬ cl p=1:=by omega
  have h5:¬ cl p=2:=by omega
  have:=Ze (Zp ZcX) (Zkx p (sgn p)) (Za (by simp [h5]) (Za (by simp [h4]) (Za (by simp [h3]) (Za hu (Z5 hs))))) (by rfl) (by rfl) w;rw[hf] at this;exact this
 ·rw[if_neg h1,if_neg h1,if_neg h2,if_neg h2];have:=Ze (Zp ZcX) (Zkw p (sgn p)) (Za rfl (Za hu (Za (by simp [h3]) (Za (by simp [h3]) (Za (by simp [h3]) (Za hu (Z5 hs))))))) (by rfl) (by rfl) w;rw[hf,he,ZiL ⟨by omega,by omega⟩,Zwz] at this;exact this
def exR (p:Int):Int:=(u64.wrap (p.tdiv 4503599627370496)).tmod 2048
def frR (p:Int):Int:=p.tmod 4503599627370496
def lR (p:Int) (d:Bool):Log:=[(decide (p≥9223372036854775808),d),(decide ((4503599627370496:Int)=0),false),(decide ((2048:Int)=0),false)]
theorem ZnQ (p:Int) (d:Bool):ZD (Zr (Zq prog Zf Zo true) 300 47 [.int .u64 p] [cmp true,cmp true,cmp d,cmp false,cmp false]) (vP d 2 (i64.wrap (i64.wrap (exR p)-1075)) (u64.wrap (frR p+4503599627370496))) ((exR p==0,false)::(exR p==2047,false)::lR p d):=by and_intros<;>kernel_rfl
theorem ZnR (p:Int) (d:Bool):ZD (Zr (Zq prog Zf Zo true) 300 47 [.int .u64 p] [cmp true,cmp true,cmp d,cmp true,cmp true]) (vP d 4 0 (frR p)) ((decide (frR p≥2251799813685248),true)::(exR p==2047,true)::lR p d):=by and_intros<;>kernel_rfl
theorem ZgP (p:Int) (d b:Bool):ZD (Zr (Zq prog Zf Zo true) 300 47 [.int .u64 p] [cmp true,cmp true,cmp d,cmp true,cmp false,cmp b]) (vP d (match b with | true=>5 | false=>3) 0 (frR p)) ((decide (frR p>0),b)::(decide (frR p≥2251799813685248),false)::(exR p==2047,true)::lR p d):=by
 cases b<;>exact by and_intros<;>kernel_rfl
theorem ZgQ (p:Int) (d b:Bool):ZD (Zr (Zq prog Zf Zo true) 300 47 [.int .u64 p] [cmp true,cmp true,cmp d,cmp false,cmp true,cmp b]) (vP d (match b with | true=>1 | false=>0) (-1074) (frR p)) ((decide (frR p>0),b)::(exR p==0,true)::(exR p==2047,false)::lR p d):=by
 cases b<;>exact by and_intros<;>kernel_rfl
theorem Z14 {p:Int}(hp:U p):exR p=ex p:=by
 unfold exR ex U at*;rw[Int.tdiv_eq_ediv_of_nonneg hp.1,wrapU' ⟨by omega,by omega⟩,Int.tmod_eq_emod_of_nonneg (by omega)]
theorem Z15 {p:Int}(hp:U p):frR p=fr p:=by unfold frR fr U at*;rw[Int.tmod_eq_emod_of_nonneg hp.1]
theorem ZnS (p:Int) (hp:U p) (w:World):Calls prog 47 #[.int .u64 p] w fun e w'=>e= .returned (vT p)∧Za0 w w':=by
 have hl:Zx (lR p (sgn p)):=Za rfl (Za rfl (Z5 rfl));have hf:=Z15 hp;have he:=Z14 hp;have hx:=ZhE p;have hy:=Zf9 p;unfold vT xp sg cl;by_cases h0:ex p=0
 ·simp only[if_pos h0];by_cases h1:fr p=0
  ·simp only[if_pos h1];have:=Ze (Zp Zd) (ZgQ p (sgn p) false) (Za (by rw[hf];simp [h1]) (Za (by rw[he];simp [h0]) (Za (by rw[he];simp [h0]) hl))) (by rfl) (by rfl) w;rw[hf] at this;exact this
  ·simp only[if_neg h1];have:=Ze (Zp Zd) (ZgQ p (sgn p) true) (Za (by rw[hf];exact Xa (by omega)) (Za (by rw[he];simp [h0]) (Za (by rw[he];simp [h0]) hl))) (by rfl) (by rfl) w;rw[hf] at this;exact this
 ·simp only[if_neg h0];by_cases h2:ex p=2047
  ·simp only[if_pos h2];by_cases h3:2251799813685248≤fr p
   ·simp only[if_pos h3,if_neg (show ¬ fr p=0 by omega)];have:=Ze (Zp Zd) (ZnR p (sgn p)) (Za (by rw[hf];exact Xa h3) (Za (by rw[he];simp [h2]) hl)) (by rfl) (by rfl) w;rw[hf] at this;exact this
   ·by_cases h1:fr p=0
    ·simp only[if_pos h1];have:=Ze (Zp Zd) (ZgP p (sgn p) false) (Za (by rw[hf];simp [h1]) (Za (by rw[hf];exact Xb h3) (Za (by rw[he];simp [h2]) hl))) (by rfl) (by rfl) w;rw[hf] at this;exact this
    ·simp only[if_neg h1,if_neg h3];have:=Ze (Zp Zd) (ZgP p (sgn p) true) (Za (by rw[hf];exact Xa (by omega)) (Za (by rw[hf];exact Xb h3) (Za (by rw[he];simp [h2]) hl))) (by rfl) (by rfl) w;rw[hf] at this;exact this
  ·simp only[if_neg h2];have:=Ze (Zp Zd) (ZnQ p (sgn p)) (Za (by rw[he];simp [h0]) (Za (by rw[he];simp [h2]) hl)) (by rfl) (by rfl) w;rw[hf,he,ZiL (n:=ex p) ⟨by omega,by omega⟩,ZiL ⟨by omega,by omega⟩,wrapU' ⟨by omega,by omega⟩] at this;exact this
theorem Zt9:zT 47 (gU vT):=ZnJ ZnS
end Go.Proofs.YtgefjidphfdhdaaGreatDoor
namespace Go.Proofs.YtgefjidphfdhdaaGreatDoor
open Go.Proofs.Tryz
open Go.KRun Go.Nt Go.Rd
set_option maxRecDepth 100000
set_option linter.unusedVariables false
def ZyN:Con:=alt 42 Z4o (alt 72 Z6x (alt 125 Z6y Zo))
theorem Zev:ConOk ZyN:=ZM func42 rfl ZnI (ZM func72 rfl Zww (ZM func125 rfl Zwx Zd))
def mnL (b:Bool):List UInt8:=if b=true then [45] else []
theorem Z16:ZD (Zr (Zq prog Zf ZyN true) 100 44 [.bool true] []) (bR [45]) []:=by and_intros<;>kernel_rfl
theorem Z17:ZD (Zr (Zq prog Zf ZyN true) 100 44 [.bool false] []) (bR []) []:=by and_intros<;>kernel_rfl
def Z4p:Ans:=fun vals s=>
 match vals with
 | [.bool b]=>some (bR (mnL b),s,[])
 | _=>none
theorem ZnT:zT 44 Z4p:=by
 intro vals s v s' lg h hl w;unfold Z4p at h;split at h
 ·rename_i b;cases h;cases b with
  | true=>exact Ze (Zp Zev) Z16 Zca (by rfl) (by rfl) w
  | false=>exact Ze (Zp Zev) Z17 Zca (by rfl) (by rfl) w
 ·cases h
def ptL (l:List UInt8):List UInt8:=match l with | []=>[] | [c]=>[c] | c::r=>c::46::r
theorem Z18 (l:List UInt8):ZD (Zr (Zq prog Zf ZyN true) 100 45 [bR l] [cmp true]) (bR l) [((((l.length:Nat):Int)==1),true)]:=by and_intros<;>kernel_rfl
theorem Z19 (l:List UInt8):ZD (Zr (Zq prog Zf ZyN true) 100 45 [bR l] [cmp false,sam true,sam true,sam true,sam true]) (bR ((l.take 1++[46])++l.drop 1)) [(decide ((l.take 1++[46]).length+(l.drop 1).length≤9223372036854775807),true),(decide ((0:Int)≤1∧(1:Int)≤((l.length:Nat):Int)),true),(decide ((l.take 1).length+1≤9223372036854775807),true),(decide ((0:Int)≤1∧(1:Int)≤((l.length:Nat):Int)),true),((((l.length:Nat):Int)==1),false)]:=by and_intros<;>kernel_rfl
def Z61:Ans:=fun vals s=>
 match vals with
 | [.string b]=>some (bR (ptL b.data.toList),s,[(decide (1≤b.data.toList.length∧b.data.toList.length≤100000),true)])
 | _=>none
theorem Zw0:zT 45 Z61:=by
 intro vals s v s' lg h hl w;unfold Z61 at h;split at h
 ·rename_i b;cases h;obtain⟨h1,h2⟩:=Xc (hl _ Xf);obtain⟨l,hL⟩:∃ l,l=b.data.toList:=⟨_,rfl⟩;have eb:Value.string b=bR l:=by rw[hL];rfl
  rw[eb,← hL];rw[← hL] at h1 h2
  match l,h1,h2 with
  | [c],_,_=>exact Ze (Zp Zev) (Z18 [c]) (Z5 rfl) (by rfl) (by rfl) w
  | c::d::r,h1,h2=>
   have lr:(c::d::r).length=r.length+2:=rfl;have f:=Z19 (c::d::r);refine Ze (Zp Zev) f (Za (Xa (by show 2+(r.length+1)≤_;omega)) (Za (Xa ⟨by omega,by omega⟩) (Za (Xa (by show 1+1≤_;omega)) (Za (Xa ⟨by omega,by omega⟩) (Z5 (ZR (by omega))))))) (by rfl) (by rfl) w
 ·cases h
def Zw1:Con:=alt 44 Z4p ZyN
theorem Zjs:ConOk Zw1:=ZM func44 rfl ZnT Zev
def nmL (m:Bool) (c:Int):List UInt8:=if c=3 then mnL m++[105,110,102] else [110,97,110]
theorem Z1A (m:Bool) (c e s:Int):ZD (Zr (Zq prog Zf Zw1 true) 100 22 [vP m c e s] [cmp true,sam true]) (bR (mnL m++[105,110,102])) [(decide ((mnL m).length+3≤9223372036854775807),true),(c==3,true)]:=by and_intros<;>kernel_rfl
theorem Z1B (m:Bool) (c e s:Int):ZD (Zr (Zq prog Zf Zw1 true) 100 22 [vP m c e s] [cmp false]) (bR [110,97,110]) [(c==3,false)]:=by and_intros<;>kernel_rfl
theorem ZhY (b:Bool):(mnL b).length≤1:=by cases b<;>decide
def vP4:Value→Option (Bool×Int×Int×Int)
 | .agg cs=>
  match cs.toList with
  | [.bool m,.int .i64 c,.int .i64 e,.int .u64 s]=>some (m,c,e,s)
  | _=>none
 | _=>none
theorem ZdI {v:Value}{m:Bool}{c e s:Int}(h:vP4 v=some (m,c,e,s)):v=vP m c e s:=by
 unfold vP4 at h;split at h
 ·rename_i cs;split at h
  ·rename_i hc;cases h;obtain⟨l⟩:=cs;simp only at hc;subst hc;rfl
  ·cases h
 ·cases h
def Z62:Ans:=fun vals s=>
 match vals with
 | [v]=>
  match vP4 v with
  | some (m,c,_,_)=>some (bR (nmL m c),s,[])
  | none=>none
 | _=>none
theorem Zw2:zT 22 Z62:=by
 intro vals s v s' lg h hl w;unfold Z62 at h;split at h
 ·split at h
  ·rename_i m c e q hv;rw[ZdI hv];cases h;unfold nmL;have:=ZhY m;by_cases hc:c=3
   ·rw[if_pos hc];exact Ze (Zp Zjs) (Z1A m c e q) (Za (Xa (by omega)) (Z5 (za hc))) (by rfl) (by rfl) w
   ·rw[if_neg hc];exact Ze (Zp Zjs) (Z1B m c e q) (Z5 (ZR hc)) (by rfl) (by rfl) w
  ·cases h
 ·cases h
def vDc (l:List UInt8) (e:Int):Value:= .agg #[bR l,.int .i64 e]
def dc2:Value→Option (ByteArray×Int)
 | .agg cs=>
  match cs.toList with
  | [.string D,.int .i64 e]=>some (D,e)
  | _=>none
 | _=>none
theorem ZrA {v:Value}{D:ByteArray}{e:Int}(h:dc2 v=some (D,e)):v=vDc D.data.toList e:=by
 unfold dc2 at h;split at h
 ·rename_i cs;split at h
  ·rename_i hc;cases h;obtain⟨l⟩:=cs;simp only at hc;subst hc;rfl
  ·cases h
 ·cases h
end Go.Proofs.YtgefjidphfdhdaaGreatDoor
namespace Go.Proofs.YtgefjidphfdhdaaGreatDoor
open Go.KRun Go.Nt Go.Rd
set_option maxRecDepth 100000
theorem Zjt {f:Nat}:∀ {V:Nat},V<10^(f+1)→ZaW V=Zba (f+1) V:=by
 have lt:∀ x:Nat,UInt8.ofNat (asc ((x:Nat):Int)).toNat=chD x:=fun x=>by unfold asc chD;congr 1
 induction f with
 | zero=>
  intro V h;have h10:V<10:=by simpa using h
  unfold Zba;rw[if_pos h10];unfold ZaW ZvP;by_cases h0:V=0
  ·rw[if_pos h0,h0];rfl
  ·rw[if_neg h0,ZaU (by omega) h0,show V/10=0 by omega,zc,Nat.mod_eq_of_lt h10];show [UInt8.ofNat (asc ((V:Nat):Int)).toNat]=[chD V];rw[lt]
 | succ f ih=>
  intro V h;unfold Zba;by_cases h10:V<10
  ·rw[if_pos h10];unfold ZaW ZvP;by_cases h0:V=0
   ·rw[if_pos h0,h0];rfl
   ·rw[if_neg h0,ZaU (by omega) h0,show V/10=0 by omega,zc,Nat.mod_eq_of_lt h10];show [UInt8.ofNat (asc ((V:Nat):Int)).toNat]=[chD V];rw[lt]
  ·rw[if_neg h10];have h1:=ih (V:=V/10) (by rw[Nat.pow_succ] at h;omega);rw[← h1];unfold ZaW ZvP;rw[if_neg (by omega),if_neg (by omega),ZaU (b:=10) (V:=V) (by omega) (by omega),List.reverse_cons,List.map_append];show _++[UInt8.ofNat (asc ((V % 10:Nat):Int)).toNat]=_;rw[lt]
theorem ZrB {V:Nat}(h:V<18446744073709551616):ZaW V=dcL V:=Zjt (f:=19) (Zjh h)
end Go.Proofs.YtgefjidphfdhdaaGreatDoor
namespace Go.Proofs.YtgefjidphfdhdaaGreatDoor
open Go.KRun Go.Nt Go.Rd Go.Wd
set_option maxRecDepth 100000
def r14 (m V:Nat):List Value×TypeId:=(wU (dg m (V:Int)),tU)
def t14 (m V:Nat):Nat:=Zi (dg m (V:Int))
def a14 (k:Nat):Option Addr:=some ⟨k,0,none⟩
def mx0 (a:Int):Int:=if 0>a then 0 else a
def Zw3 (b j:Int) (P:Nat) (l:Log):Log:=(decide (((b.toNat^j.toNat:Nat):Int)=(P:Int)),true)::(Na.ZyM b j,true)::(decide (b=0∧1≤j),false)::l
def Zw4 (H:Hp) (p:Option Addr) (n c:Nat) (k:Int) (S:Nat) (l:Log):Log:=(decide (Zhl (Zm H p n) k.toNat=dg (Na.sM n k) (S:Int)),true)::(Na.Zaf H p n c,true)::(Na.ZS (Zm H p n) || decide (k<0),false)::(decide (n=0),false)::(decide (k>262144-Na.Ze2 (Zm H p n)),false)::l
def Z1C (H:Hp) (p q:Option Addr) (n c n' c' T:Nat) (l:Log):Log:=(decide (Na.Zh8 (Zm H p n) (Zm H q n')=dg (n+n') (T:Int)),true)::(Na.Zaf H p n c,true)::(Na.Zaf H q n' c',true)::(!decide (n=0∨n'=0) && Nat.ble (n+n') 8192,true)::(Na.Zaf H p n c,true)::(Na.Zaf H q n' c',true)::(Na.ZS (Zm H p n) || Na.ZS (Zm H q n'),false)::l
theorem ZbX {W:Nat}(h:W≠0):1≤(ZaW W).length∧10^((ZaW W).length-1)≤W∧W<10^(ZaW W).length:=by
 have e:(ZaW W).length=(db 10 W).length:=by
  unfold ZaW ZvP;rw[if_neg h,List.length_map,List.length_reverse]
 rw[e];have h1:=(Zdd (b:=10) (by omega)).2 (show 0<W by omega);refine⟨h1,?_,?_⟩
 ·rcases Nat.lt_or_ge W (10^((db 10 W).length-1)) with c | c
  ·have:=Zbt (b:=10) (by omega) _ _ c;omega
  ·exact c
 ·have:=ZbG (b:=10) (by omega) (db 10 W) (ZjP (by omega) W);rw[Zc1 (by omega) W] at this;exact this
theorem ZnU {W:Nat}(h:W≠0):ZaW W=Zba (ZaW W).length W:=by
 obtain⟨h1,_,h3⟩:=ZbX h;have:=Zjt (f:=(ZaW W).length-1) (V:=W) (by rw[show (ZaW W).length-1+1=(ZaW W).length by omega];exact h3);rw[show (ZaW W).length-1+1=(ZaW W).length by omega] at this;exact this
theorem ZfQ (a:Int):mx0 a=((a.toNat:Nat):Int):=by unfold mx0;split<;>omega
theorem Zfb {b:Nat}(hb:b≤10) (k:Nat):b^k<4294967296^(k/9+1):=Nat.lt_of_le_of_lt (Nat.pow_le_pow_left hb k) (Na.Zwe k)
theorem Z1D {H:Hp}{i b k:Nat}(hb:b=10∨b=5) (hk:k≤2000) (hi:H.blk? i=some (r14 (Na.pMi (b:Nat) (k:Nat)) (b^k))):Na.IsR H (a14 i) (t14 (Na.pMi (b:Nat) (k:Nat)) (b^k)) (Na.pMi (b:Nat) (k:Nat)) (b^k)∧(Na.d32 (b^k)).length≤k/9+1:=by
 have hw:∀ j,j≤k→Na.nw (b^j)≤400:=fun j hj=>by
  have h1:=Zfb (b:=b) (by omega) j;have:=Na.Ze6 h1;omega
 have e:Na.pMi (b:Nat) (k:Nat)=Na.pM b k:=rfl;have h:b^k<4294967296^Na.pM b k∧Na.pM b k≤1000:=by
  by_cases h0:k=0
  ·subst h0;exact⟨by rw[Nat.pow_zero];show 1<4294967296^2;decide,by show 2≤1000;decide⟩
  ·exact Na.Z0H hw (by omega) (Nat.le_refl _) (by omega)
 rw[e] at hi ⊢;exact⟨Na.Zko hi h.1 h.2,Na.Ze6 (Zfb (by omega) k)⟩
theorem Zju {b k:Nat}(hb:b=10∨b=5) (hk:k≤2000) {l:Log}(hl:Zx l):Zx (Zw3 (b:Nat) (k:Nat) (b^k) l):=by
 refine Za (Xa rfl) (Za ?_ (Za (Xb (by omega)) hl));exact Xa ⟨by omega,by omega,by omega,.inr ⟨by omega,by omega⟩⟩
theorem ZtA {m V:Nat}(hV:V<4294967296^m) (hm:m≤1000):t14 m V=(Na.d32 V).length:=(Na.Zko (H:=⟨1,[r14 m V]⟩) (b:=0) rfl hV hm).2.2.2.1
theorem Zjv {H:Hp}{p:Option Addr}{n c V:Nat}(r:Na.IsR H p n c V) (h0:V≠0) {k:Nat}(hk:k≤200000) {l:Log}(hl:Zx l):Zx (Zw4 H p n c (k:Nat) (V*2^k) l):=
 Za (Na.Z8Z r k) (Za (Na.rX r) (Za (Na.Z6j r k) (Za (Na.rNe r h0) (Za (Na.Z9a r h0 hk) hl))))
theorem Z1E {V k n:Nat}(h:V<4294967296^n):V*2^k<4294967296^Na.sM n (k:Nat):=Na.Z1c h
theorem Z4q (n k:Nat):Na.sM n (k:Nat)=k/32+(n+1):=by unfold Na.sM;rw[Xg]
theorem ZrC {H:Hp}{p q:Option Addr}{n c n' c' V W:Nat}(r:Na.IsR H p n c V) (g:Na.IsR H q n' c' W) (h0:V≠0) (h1:W≠0) {l:Log}(hl:Zx l):Zx (Z1C H p q n c n' c' (V*W) l):=by
 have p1:=Na.ZbL h0;have p2:=Na.ZbL h1;have e1:=r.2.2.2.1;have e2:=g.2.2.2.1;have b1:=r.2.2.2.2;have b2:=g.2.2.2.2;refine Za (Na.ZvB r g) (Za (Na.rX r) (Za (Na.rX g) (Za ?_ (Za (Na.rX r) (Za (Na.rX g) (Za (Na.rOr r g) hl))))));rw[Xb (by omega),Nat.ble_eq_true_of_le (by omega)];rfl
theorem Z63 {V W n n':Nat}(h:V<4294967296^n) (h':W<4294967296^n'):V*W<4294967296^(n+n'):=by rw[Nat.pow_add];exact Nat.mul_lt_mul'' h h'
theorem Z9c {H:Hp}{i q:Nat}(hq:q<18446744073709551616) (hi:H.blk? i=some (wU (dg 2 (q:Int)),tU)):Na.IsR H (a14 i) (Zi (dg 2 (q:Int))) 2 q∧(Na.d32 q).length≤2:=⟨Na.Zko hi (by show q<4294967296^2;omega) (by omega),Na.Ze6 (by show q<4294967296^2;omega)⟩
end Go.Proofs.YtgefjidphfdhdaaGreatDoor
namespace Go.KRun
open Go.IntKind
open Go.RowKit
theorem ZnV {T:Tab}(hT:TabOk T) {h0:Hp}{n f:Nat}{vals:List Value}{s:List Dec}{v:Value}{cs:Log}(hF:ZD (zg T h0 n f vals s) v cs) (hcs:Zx cs) (hvals:(vals.all (lt h0.n))=true) (hv:lt 0 v=true) (hr:h0.rows) {m:Mp}{B:Nat}{h:Hp}{w:World}(E:Emb m B h w) {σ:Nat→Nat}(hf:h0.fits σ h):
  Calls T.P f ((vals.map (rn σ)).map (mv m)).toArray w fun e w'=>∃ m',e= .returned (mv m' v)∧Came m B h w v h m' w':=by
 have ev:(vals.map (rn σ)).map (mv m)=vals.map (mv fun i=>m (σ i)):=by
  rw[List.map_map];exact List.map_congr_left fun y _=>Zcu m σ y
 rw[ev];refine (Zdv hT hF hcs hvals hv (E.small hr hf)).mono fun e w' he=> ?_;obtain⟨E',hb⟩:=ZT E he.2;exact⟨m,by rw[he.1,ZA hv],⟨Agree.refl _ _,E',hb,Nat.le_refl _,zG (Nat.zero_le _) hv⟩⟩
end Go.KRun
namespace Go.Proofs.YtgefjidphfdhdaaGreatDoor
open Go.Proofs.Tryz
open Go.IntKind
open Go.KRun Go.Nt Go.Rd Go.Wd Go.Pt
set_option maxRecDepth 100000
def Z64:Hc:=ZY 127 Na.Z0m (ZY 132 Na.Zg3 (ZY 79 Na.Z0B (ZY 152 Na.Z5R hcN)))
theorem Zw5:HcOk Z64:=Zt func127 rfl Na.ZhC (Zt func132 rfl Na.Zee (Zt func79 rfl Na.ZhF (Zt func152 rfl Na.ZvA zp)))
theorem Z65:TabOk (Zk prog Zf Zo Z64):=Zh Zd Zw5
def Z66 (la lb:List Value) (o n c o' n' c':Nat) (x:Int):Hp:=⟨4,[(wU (dg 2 x),tU),([sl 0 o n c,sl 1 o' n' c'],168),(lb,tR),(la,tR)]⟩
def tiT (x:Int) (n:Nat):Nat:=Zi (dg 2 x)+n
def Z67 (la lb:List Value) (o n c o' n' c':Nat) (x:Int) (T:Nat):Hp:=⟨5,[r14 (tiT x n) T,(wU (dg 2 x),tU),([sl 0 o n c,sl 1 o' n' c'],168),(lb,tR),(la,tR)]⟩
def tiV (x:Int) (n n' T:Nat):Nat:=t14 (tiT x n) T-n'+1
def Z68 (H:Hp) (p q:Option Addr) (n c n' c':Nat) (Q R:Nat) (l:Log):Log:=(decide (Go.Nt.vN (Zm H p n)/Go.Nt.vN (Zm H q n')=(Q:Int)∧Go.Nt.vN (Zm H p n) % Go.Nt.vN (Zm H q n')=(R:Int)),true)::(Na.Zaf H p n c,true)::(Na.Zaf H q n' c',true)::(!(Na.ZS (Zm H p n) || Na.ZS (Zm H q n')) && decide (0<n'∧¬ Zci (Zm H p n) (Zm H q n')<0),true)::l
def tiW (w0 w1:Int):Int:=bOr (bOr 0 (u64.wrap (u64.wrap w0*2^0))) (u64.wrap (u64.wrap w1*2^32))
theorem Z9d (la lb:List Value) (o n c o' n' c':Nat) (x:Int) (T V R:Nat) (w0 w1:Int) (d:Bool):ZD (zg (Zk prog Zf Zo Z64) (h2 la lb) 200 117 [.agg #[sl 0 o n c,sl 1 o' n' c'],.int .u64 x] [cmp false,cmp false,num T,cmp false,cmp false,cmp false,num V,num R,cmp true,at_,val (.int .u32 w0),cmp true,at_,val (.int .u32 w1),cmp false,cmp d]) (.tuple #[.int .u64 (tiW w0 w1),.bool d])
  ((decide (((t14 (t14 (tiT x n) T+1) R:Nat):Int)>0),d)::(decide ((2:Int)<((t14 (tiV x n n' T) V:Nat):Int)),false)::(false,false)::(Z4 (wU (dg (tiV x n n' T) (V:Int)))[1]? (.int .u32 w1),true)::(decide ((0:Int)≤1∧(1:Int)<((t14 (tiV x n n' T) V:Nat):Int)),true)::(decide ((1:Int)<((t14 (tiV x n n' T) V:Nat):Int)),true)::(false,false)::(Z4 (wU (dg (tiV x n n' T) (V:Int)))[0]? (.int .u32 w0),true)::(decide ((0:Int)≤0∧(0:Int)<((t14 (tiV x n n' T) V:Nat):Int)),true)::(decide ((0:Int)<((t14 (tiV x n n' T) V:Nat):Int)),true)::
   Z68 (Z67 la lb o n c o' n' c' x T) (a14 4) (some ⟨1,o',none⟩) (t14 (tiT x n) T) (tiT x n) n' c' V R (Z1C (Z66 la lb o n c o' n' c' x) (a14 3) (some ⟨0,o,none⟩) (Zi (dg 2 x)) 2 n c T [(decide (0≤x∧x<18446744073709551616),true)])):=by and_intros<;>kernel_rfl
theorem Z1F {ty:TypeId}{l:List Value}{o n c:Nat}(h:ZaQ ty l o n c=true):ZaQ tR l o n c=true:=by
 unfold ZaQ at*;simp only[Xh,Bool.not_eq_true'] at*;obtain⟨⟨⟨⟨⟨⟨h1,h2⟩,h3⟩,h4⟩,h5⟩,h6⟩,h7⟩:=h;exact⟨⟨⟨⟨⟨⟨Zbp,by kernel_rfl⟩,h3⟩,h4⟩,h5⟩,h6⟩,h7⟩
theorem Z1G {h H:Hp}{b i o n c V:Nat}{x:List Value×TypeId}(r:Na.IsR h (some ⟨b,o,none⟩) n c V) (hx:h.blk? b=some x) (hH:H.blk? i=some (x.1,tR)):Na.IsR H (some ⟨i,o,none⟩) n c V:=by
 obtain⟨r1,r2,r3,r4⟩:=r;unfold Na.Zaf at r1;simp only[hx] at r1;unfold zx at r2;simp only[hx,Xh] at r2;refine⟨?_,?_,?_,r4⟩
 ·unfold Na.Zaf;simp only[hH];exact Na.zJ r1
 ·unfold zx;simp only[hH,Xh];exact⟨Z1F r2.1,r2.2⟩
 ·rw[← r3];unfold Zm;simp only[hx,hH]
def Zpg (H:Hp) (p:Option Addr) (n c V:Nat):Bool:=Na.Zaf H p n c && zx H p n c && decide (Zm H p n=Na.d32 V) && decide (n=(Na.d32 V).length∧n≤300)
theorem ZnW {H:Hp}{p:Option Addr}{n c V:Nat}(h:Zpg H p n c V=true):Na.IsR H p n c V∧n≤300:=by
 unfold Zpg at h;simp only[Xh,Xi] at h;obtain⟨⟨⟨h1,h2⟩,h3⟩,h4,h5⟩:=h;exact⟨⟨h1,h2,h3,h4,by omega⟩,h5⟩
theorem ZnX {H:Hp}{p:Option Addr}{n c V:Nat}(h:Na.IsR H p n c V) (h3:n≤300):Zpg H p n c V=true:=by
 unfold Zpg;simp only[Xh,Xi];exact⟨⟨⟨h.1,h.2.1⟩,h.2.2.1⟩,h.2.2.2.1,h3⟩
theorem Z1H {V:Nat}(h:V<18446744073709551616):tiW ((V:Int) % 4294967296) ((V:Int)/4294967296 % 4294967296)=V:=by
 unfold tiW;have w:∀ z:Int,0≤z→z<18446744073709551616→u64.wrap z=z:=fun z h0 h1=>by
  simp [IntKind.wrap,IntKind.bits,IntKind.signed];omega
 have e1:(2:Int)^0=1:=rfl;have e2:(2:Int)^32=4294967296:=rfl;rw[e1,e2,Int.mul_one,w ((V:Int) % 4294967296) (by omega) (by omega),w _ (by omega) (by omega),w ((V:Int)/4294967296 % 4294967296) (by omega) (by omega),w _ (by omega) (by omega)];have o1:bOr 0 ((V:Int) % 4294967296)=(V:Int) % 4294967296:=by
  have:=or_low (p:=0) (q:=(V:Int) % 4294967296) 0 (z:=(V:Int) % 4294967296) (by omega) (by rw[show (2:Int)^0=1 from rfl];omega) (by omega) (by decide) (by omega);omega
 rw[o1,or_low 32 (z:=(V:Int)/4294967296 % 4294967296) (by omega) (by rw[e2];omega) (by omega) (by rw[e2];omega) (by omega)];omega
def Z69:Zae:=fun vals h s=>
 match vals,s with
 | [.agg cs,.int .u64 x],.inr (.inl O):: .inr (.inl U):: .inr (.inl V):: .inr (.inr (.inr (.inl d)))::s'=>
  match cs.toList with
  | [.slice (some ⟨b,o,none⟩) n c,.slice (some ⟨b',o',none⟩) n' c']=>some (.tuple #[.int .u64 V,.bool d],h,s',[(Zpg h (some ⟨b,o,none⟩) n c O.toNat,true),(Zpg h (some ⟨b',o',none⟩) n' c' U.toNat,true),(decide (((x.toNat*O.toNat/U.toNat:Nat):Int)=V),true),(decide (x.toNat*O.toNat % U.toNat≠0),d),(decide (1≤x∧x<18446744073709551616∧O.toNat≠0∧U.toNat≠0∧4294967296≤V∧V<18446744073709551616),true)])
  | _=>none
 | _,_=>none
theorem Zw6:Z6 117 Z69:=by
 intro vals h s v h' s' lg hg hl m B w E hv;unfold Z69 at hg;split at hg
 ·rename_i cs x O U V d s2;split at hg
  ·rename_i b o n c b' o' n' c' hcs;have ecs:cs= #[sl b o n c,sl b' o' n' c']:=by
    have:=congrArg List.toArray hcs;simpa [sl] using this
   cases hg;have l1:Zpg h (some ⟨b,o,none⟩) n c O.toNat=true:=hl _ Xe;have l2:Zpg h (some ⟨b',o',none⟩) n' c' U.toNat=true:=hl _ (Xd _ Xe);have l3:=Xc (hl _ (Xd _ (Xd _ Xe)));have l4:decide (x.toNat*O.toNat % U.toNat≠0)=d:=hl _ (Xd _ (Xd _ (Xd _ Xe)));obtain⟨x1,x2,hO,hU,v1,v2⟩:=Xc (hl _ (Xd _ (Xd _ (Xd _ (Xd _ Xf)))));obtain⟨R1,n3⟩:=ZnW l1;obtain⟨R2,n4⟩:=ZnW l2;obtain⟨X,rfl⟩:∃ X:Nat,x=X:=⟨x.toNat,by omega⟩;obtain⟨O',hO'⟩:∃ O',O'=O.toNat:=⟨_,rfl⟩;obtain⟨U',hU'⟩:∃ U',U'=U.toNat:=⟨_,rfl⟩;obtain⟨V',rfl⟩:∃ V':Nat,V=V':=⟨V.toNat,by omega⟩;rw[Xg,← hO',← hU'] at l3 l4;rw[← hO'] at R1 hO;rw[← hU'] at R2 hU;rcases Na.ZK R1.1 with ⟨c1,_⟩ | ⟨b1,o1,xa,e1,hx,r1,_⟩
   ·cases c1
   cases e1;rcases Na.ZK R2.1 with ⟨c1,_⟩ | ⟨b1,o1,xb,e1,hy,t1,_⟩
   ·cases c1
   cases e1;obtain⟨a1,a2,a3,a4,a5,a6,a7⟩:=ZH r1;obtain⟨d1,d2,d3,d4,d5,d6,d7⟩:=ZH t1;have l3':X*O'/U'=V':=by omega
   have rO:Na.IsR (Z66 xa.1 xb.1 o n c o' n' c' X) (some ⟨0,o,none⟩) n c O':=Z1G R1 hx rfl;obtain⟨rQ,lQ⟩:=Z9c (H:=Z66 xa.1 xb.1 o n c o' n' c' X) (i:=3) (q:=X) (by omega) rfl;obtain⟨T,hT⟩:∃ T,T=X*O':=⟨_,rfl⟩;have X0:X≠0:=by omega
   have T0:T≠0:=by rw[hT];exact Zcd X0 hO
   have nO:=R1.2.2.2.1;have nU:=R2.2.2.2.1;have eQ:=rQ.2.2.2.1;have hTl:T<4294967296^tiT X n:=by
    have:=Z63 (Na.ZcG X) (Na.ZcG O');rw[← hT,← eQ,← nO] at this;exact this
   have hTm:tiT X n≤302:=by unfold tiT;omega
   have rT:Na.IsR (Z67 xa.1 xb.1 o n c o' n' c' X T) (a14 4) (t14 (tiT X n) T) (tiT X n) T:=Na.Zko rfl hTl (by omega);have rU:Na.IsR (Z67 xa.1 xb.1 o n c o' n' c' X T) (some ⟨1,o',none⟩) n' c' U':=Z1G R2 hy rfl;have eT:=rT.2.2.2.1;rw[← hT] at l3' l4;have hle:U'≤T:=by
    rcases Nat.lt_or_ge T U' with c0 | c0
    ·rw[Nat.div_eq_of_lt c0] at l3';omega
    ·exact c0
   have hsl:=Na.Z1e hle;have hVl:V'<4294967296^tiV X n n' T:=by
    have:=Na.Z1d hU hsl;rw[l3'] at this;unfold tiV;rw[eT,nU];exact this
   have hVm:tiV X n n' T≤400:=by unfold tiV;have:t14 (tiT X n) T≤tiT X n:=by {have:=zQ (dg (tiT X n) (T:Int));rw[ZZ] at this;exact this};omega
   have eV:=ZtA hVl (by omega);have wV:(Na.d32 V').length=2:=by
    have h1:(Na.d32 V').length≤2:=Na.Ze6 (by show V'<4294967296^2;omega);have h2:V'<4294967296^(Na.d32 V').length:=Na.ZcG V';rcases (show (Na.d32 V').length=0∨(Na.d32 V').length=1∨(Na.d32 V').length=2 by omega) with c0 | c0 | c0
    ·rw[c0,Nat.pow_zero] at h2;omega
    ·rw[c0,Nat.pow_one] at h2;omega
    ·exact c0
   rw[wV] at eV;have hRl:T % U'<4294967296^(t14 (tiT X n) T+1):=by
    have h2:T % U'<T+1:=Nat.lt_succ_of_le (Nat.mod_le _ _);refine Nat.lt_of_lt_of_le h2 ?_;rw[eT,Nat.pow_succ];have:=Na.ZcG T;show T+1≤_;have e3:(Na.d32 T).length=(Na.d32 T).length:=rfl;omega
   have tl1:t14 (tiT X n) T≤302:=by have:=zQ (dg (tiT X n) (T:Int));rw[ZZ] at this;unfold t14;omega
   have eR:=ZtA hRl (by omega);have hd:decide (((t14 (t14 (tiT X n) T+1) (T % U'):Nat):Int)>0)=d:=by
    rw[eR,← l4];by_cases hz:T % U'=0
    ·have h2:(Na.d32 (T % U')).length=0:=by rw[hz];show (db 4294967296 0).length=0;rw[zc];rfl
     rw[h2,Xb (show ¬ (T % U'≠0) from fun h=>h hz)];rfl
    ·have:=Na.ZbL hz;rw[Xa hz];exact Xa (by omega)
   obtain⟨kv,hkv⟩:∃ k,tiV X n n' T=k+2:=by
    refine⟨tiV X n n' T-2,?_⟩;have:=zQ (dg (tiV X n n' T) (V':Int));rw[ZZ] at this;have e4:Zi (dg (tiV X n n' T) (V':Int))=2:=eV;omega
   have c0:Z4 (wU (dg (tiV X n n' T) (V':Int)))[0]? (.int .u32 ((V':Int) % 4294967296))=true:=by
    rw[hkv];show Z4 (some (.int .u32 ((V':Int) % 4294967296))) (.int .u32 ((V':Int) % 4294967296))=true;simp [Z4]
   have c1:Z4 (wU (dg (tiV X n n' T) (V':Int)))[1]? (.int .u32 ((V':Int)/4294967296 % 4294967296))=true:=by
    rw[hkv];show Z4 (some (.int .u32 ((V':Int)/4294967296 % 4294967296))) (.int .u32 ((V':Int)/4294967296 % 4294967296))=true;simp [Z4]
   have f:=Z9d xa.1 xb.1 o n c o' n' c' X T V' (T % U') ((V':Int) % 4294967296) ((V':Int)/4294967296 % 4294967296) d;rw[Z1H (by omega)] at f;have hdv:=Na.Z8U rT rU;rw[l3'] at hdv;have hpd:=ZrC rQ rO X0 hO (l:=[(decide ((0:Int)≤(X:Nat)∧((X:Nat):Int)<18446744073709551616),true)]) (Z5 (Xa (by omega)));rw[← hT] at hpd;have pU:=Na.ZbL hU;have fin:=ZnV Z65 f (Za hd (Za (Xb (by rw[eV];decide)) (Za rfl (Za c1 (Za (Xa (by rw[eV];decide)) (Za (Xa (by rw[eV];decide)) (Za rfl (Za c0 (Za (Xa (by rw[eV];decide)) (Za (Xa (by rw[eV];decide)) (Za hdv (Za (Na.rX rT) (Za (Na.rX rU) (Za (Na.rG rT rU (by omega) hle) hpd)))))))))))))) (by rfl) (by rfl) (Zgv a7 d7) E (σ:=ZdY b b') (Zdu hx a5 a6 hy d5 d6);have evals:List.map (rn (ZdY b b')) [.agg #[sl 0 o n c,sl 1 o' n' c'],.int .u64 X]=[.agg cs,.int .u64 X]:=by
    rw[ecs];simp [rn,rn2,rn1,sl,ZdY]
   rw[evals] at fin;exact fin
  ·cases hg
 ·cases hg
end Go.Proofs.YtgefjidphfdhdaaGreatDoor
namespace Go.Proofs.YtgefjidphfdhdaaGreatDoor
open Go.KRun Go.Wd
theorem ZtB {p:Bool×Bool}(h:p.1=p.2):Zx [p]:=fun x hx=>by rw[List.mem_singleton.1 hx];exact h
theorem Zb8 {p:Bool×Bool}{l:Log}(h:p.1=p.2) (hl:Zx l):Zx (p::l):=fun x hx=>by
 rcases List.mem_cons.1 hx with rfl | hx
 ·exact h
 ·exact hl x hx
end Go.Proofs.YtgefjidphfdhdaaGreatDoor
namespace Go.Proofs.YtgefjidphfdhdaaGreatDoor
open Go.Proofs.Tryz
open Go.IntKind
open Go.KRun Go.Wd
def ZaK:List UInt8:=(List.range 256).map fun i=>UInt8.ofNat (bitLen i)
def Zei (z:Int):Int:=((ZaK.getD (u8.wrap z).toNat 0).toNat:Int)
def lt8 (z:Int):Bool×Bool:=(decide (0≤u8.wrap z∧(u8.wrap z).toNat<ZaK.length),true)
def sh (z:Int) (k:Nat):Int:=z.fdiv (2^k)
def ge (z k:Int) (d:Bool):Bool×Bool:=(decide (z≥k),d)
def Zf3 (m z:Int):Value:= .int .i64 (i64.wrap (m+i64.wrap (Zei z)))
def nz:Bool×Bool:=(false,false)
theorem Zw7 (u:Int):ZD (Zr (Zq prog Zf Zo true) 3000 161 [.int .u64 u] [tst false,tst false,tst false]) (Zf3 0 u) [lt8 u,ge u 256 false,ge u 65536 false,ge u 4294967296 false]:=by and_intros<;>kernel_rfl
theorem Zw8 (u:Int):ZD (Zr (Zq prog Zf Zo true) 3000 161 [.int .u64 u] [tst false,tst false,tst true]) (Zf3 8 (sh u 8)) [lt8 (sh u 8),nz,ge u 256 true,ge u 65536 false,ge u 4294967296 false]:=by and_intros<;>kernel_rfl
theorem Zw9 (u:Int):ZD (Zr (Zq prog Zf Zo true) 3000 161 [.int .u64 u] [tst false,tst true,tst false]) (Zf3 16 (sh u 16)) [lt8 (sh u 16),ge (sh u 16) 256 false,nz,ge u 65536 true,ge u 4294967296 false]:=by and_intros<;>kernel_rfl
theorem ZwA (u:Int):ZD (Zr (Zq prog Zf Zo true) 3000 161 [.int .u64 u] [tst false,tst true,tst true]) (Zf3 24 (sh (sh u 16) 8)) [lt8 (sh (sh u 16) 8),nz,ge (sh u 16) 256 true,nz,ge u 65536 true,ge u 4294967296 false]:=by and_intros<;>kernel_rfl
theorem ZwB (u:Int):ZD (Zr (Zq prog Zf Zo true) 3000 161 [.int .u64 u] [tst true,tst false,tst false]) (Zf3 32 (sh u 32)) [lt8 (sh u 32),ge (sh u 32) 256 false,ge (sh u 32) 65536 false,nz,ge u 4294967296 true]:=by and_intros<;>kernel_rfl
theorem ZwC (u:Int):ZD (Zr (Zq prog Zf Zo true) 3000 161 [.int .u64 u] [tst true,tst false,tst true]) (Zf3 40 (sh (sh u 32) 8)) [lt8 (sh (sh u 32) 8),nz,ge (sh u 32) 256 true,ge (sh u 32) 65536 false,nz,ge u 4294967296 true]:=by and_intros<;>kernel_rfl
theorem ZwD (u:Int):ZD (Zr (Zq prog Zf Zo true) 3000 161 [.int .u64 u] [tst true,tst true,tst false]) (Zf3 48 (sh (sh u 32) 16)) [lt8 (sh (sh u 32) 16),ge (sh (sh u 32) 16) 256 false,nz,ge (sh u 32) 65536 true,nz,ge u 4294967296 true]:=by and_intros<;>kernel_rfl
theorem ZwE (u:Int):ZD (Zr (Zq prog Zf Zo true) 3000 161 [.int .u64 u] [tst true,tst true,tst true]) (Zf3 56 (sh (sh (sh u 32) 16) 8)) [lt8 (sh (sh (sh u 32) 16) 8),nz,ge (sh (sh u 32) 16) 256 true,nz,ge (sh u 32) 65536 true,nz,ge u 4294967296 true]:=by and_intros<;>kernel_rfl
theorem Zde:ZaK.length=256:=by unfold ZaK;rw[List.length_map,List.length_range]
theorem Zdf (b:Nat) (h:b<256):(ZaK.getD b 0).toNat=bitLen b:=by
 have h1:ZaK.getD b 0=UInt8.ofNat (bitLen b):=by
  unfold ZaK;rw[List.getD,List.getElem?_map,List.getElem?_range h];rfl
 have h2:=bitLen_le8 b h;rw[h1,UInt8.toNat_ofNat'];omega
theorem Zh5 {z:Int}(h0:0≤z) (h1:z<256):u8.wrap z=z:=by
 simp [IntKind.wrap,IntKind.bits,IntKind.signed];omega
theorem zZ {m:Int}{Z:Nat}(hm:0≤m) (hm':m≤56) (h1:Z<256):Zf3 m (Z:Int)= .int .i64 (m+bitLen Z)∧(lt8 (Z:Int)).1=(lt8 (Z:Int)).2:=by
 have hb:=bitLen_le8 Z h1;have e:=Zh5 (z:=(Z:Int)) (by omega) (by omega);refine⟨?_,?_⟩
 ·unfold Zf3 Zei;rw[e,Xg,Zdf Z h1,ZgH (n:=((bitLen Z:Nat):Int)) (by omega) (by omega),ZgH (by omega) (by omega)]
 ·unfold lt8;rw[e,Xg];rw[Zde];exact Xa (And.intro (by omega) h1)
theorem Za8 (Z k:Nat):sh (Z:Int) k=((Z/2^k:Nat):Int):=by
 unfold sh;rw[Int.fdiv_eq_ediv_of_nonneg _ (Int.le_of_lt (Int.pow_pos (by omega)))];simp
theorem ZkD {z k:Int}(h:k≤z):(ge z k true).1=(ge z k true).2:=Xa h
theorem ZkE {z k:Int}(h:z<k):(ge z k false).1=(ge z k false).2:=Xb (by omega)
theorem Zbh:nz.1=nz.2:=rfl
theorem ZaL (x b:Nat) (h:2^b≤x):bitLen x=b+bitLen (x/2^b):=bitLen_shift x b (by
 have:0<x/2^b:=Nat.div_pos h (Nat.two_pow_pos b);omega)
def ZnY (u:Int):Value:= .int .i64 (bitLen u.toNat:Nat)
set_option maxRecDepth 100000 in
theorem ZhZ (u:Int) (h0:0≤u) (h1:u<18446744073709551616) (w:World):Calls prog 161 #[.int .u64 u] w fun e w'=>e= .returned (ZnY u)∧Za0 w w':=by
 obtain⟨U,rfl⟩:=Int.eq_ofNat_of_zero_le h0;unfold ZnY;rw[Xg];have p8:(2:Nat)^8=256:=rfl;have p16:(2:Nat)^16=65536:=rfl;have p32:(2:Nat)^32=4294967296:=rfl;have step:∀ {v:Value}{m:Int}{Z:Nat}{s:List Dec}{cs:Log},ZD (Zr (Zq prog Zf Zo true) 3000 161 [.int .u64 (U:Int)] s) v cs→Zx cs→v= .int .i64 (bitLen U:Nat)→Calls prog 161 #[.int .u64 (U:Int)] w fun e w'=>e= .returned (.int .i64 (bitLen U:Nat))∧Za0 w w':=
  fun {v m Z s cs} hf hc hv=>by subst hv;exact Ze (Zp Zd) hf hc (by rfl) (by rfl) w
 by_cases a:U<4294967296
 ·by_cases b:U<65536
  ·by_cases c:U<256
   ·obtain⟨e1,e2⟩:=zZ (m:=0) (by omega) (by omega) c;exact step (m:=0) (Z:=0) (Zw7 U) (Zb8 e2 (Zb8 (ZkE (by omega)) (Zb8 (ZkE (by omega)) (ZtB (ZkE (by omega)))))) (by rw[e1];congr 1;omega)
   ·have l:=ZaL U 8 (by omega);obtain⟨e1,e2⟩:=zZ (m:=8) (Z:=U/2^8) (by omega) (by omega) (by omega);rw[← Za8] at e1 e2;exact step (m:=0) (Z:=0) (Zw8 U) (Zb8 e2 (Zb8 Zbh (Zb8 (ZkD (by omega)) (Zb8 (ZkE (by omega)) (ZtB (ZkE (by omega))))))) (by rw[e1];congr 1;omega)
  ·have l:=ZaL U 16 (by omega);by_cases c:U/2^16<256
   ·obtain⟨e1,e2⟩:=zZ (m:=16) (Z:=U/2^16) (by omega) (by omega) c;rw[← Za8] at e1 e2;exact step (m:=0) (Z:=0) (Zw9 U) (Zb8 e2 (Zb8 (ZkE (by rw[Za8];omega)) (Zb8 Zbh (Zb8 (ZkD (by omega)) (ZtB (ZkE (by omega))))))) (by rw[e1];congr 1;omega)
   ·have l2:=ZaL (U/2^16) 8 (by omega);obtain⟨e1,e2⟩:=zZ (m:=24) (Z:=U/2^16/2^8) (by omega) (by omega) (by omega);rw[← Za8,← Za8] at e1 e2;exact step (m:=0) (Z:=0) (ZwA U) (Zb8 e2 (Zb8 Zbh (Zb8 (ZkD (by rw[Za8];omega)) (Zb8 Zbh (Zb8 (ZkD (by omega)) (ZtB (ZkE (by omega)))))))) (by rw[e1];congr 1;omega)
 ·have l0:=ZaL U 32 (by omega);have q:U/2^32<4294967296:=by omega
  by_cases b:U/2^32<65536
  ·by_cases c:U/2^32<256
   ·obtain⟨e1,e2⟩:=zZ (m:=32) (Z:=U/2^32) (by omega) (by omega) c;rw[← Za8] at e1 e2;exact step (m:=0) (Z:=0) (ZwB U) (Zb8 e2 (Zb8 (ZkE (by rw[Za8];omega)) (Zb8 (ZkE (by rw[Za8];omega)) (Zb8 Zbh (ZtB (ZkD (by omega))))))) (by rw[e1];congr 1;omega)
   ·have l:=ZaL (U/2^32) 8 (by omega);obtain⟨e1,e2⟩:=zZ (m:=40) (Z:=U/2^32/2^8) (by omega) (by omega) (by omega);rw[← Za8,← Za8] at e1 e2;exact step (m:=0) (Z:=0) (ZwC U) (Zb8 e2 (Zb8 Zbh (Zb8 (ZkD (by rw[Za8];omega)) (Zb8 (ZkE (by rw[Za8];omega)) (Zb8 Zbh (ZtB (ZkD (by omega)))))))) (by rw[e1];congr 1;omega)
  ·have l:=ZaL (U/2^32) 16 (by omega);by_cases c:U/2^32/2^16<256
   ·obtain⟨e1,e2⟩:=zZ (m:=48) (Z:=U/2^32/2^16) (by omega) (by omega) c;rw[← Za8,← Za8] at e1 e2;exact step (m:=0) (Z:=0) (ZwD U) (Zb8 e2 (Zb8 (ZkE (by rw[Za8,Za8];omega)) (Zb8 Zbh (Zb8 (ZkD (by rw[Za8];omega)) (Zb8 Zbh (ZtB (ZkD (by omega)))))))) (by rw[e1];congr 1;omega)
   ·have l2:=ZaL (U/2^32/2^16) 8 (by omega);obtain⟨e1,e2⟩:=zZ (m:=56) (Z:=U/2^32/2^16/2^8) (by omega) (by omega) (by omega);rw[← Za8,← Za8,← Za8] at e1 e2;exact step (m:=0) (Z:=0) (ZwE U) (Zb8 e2 (Zb8 Zbh (Zb8 (ZkD (by rw[Za8,Za8];omega)) (Zb8 Zbh (Zb8 (ZkD (by rw[Za8];omega)) (Zb8 Zbh (ZtB (ZkD (by omega))))))))) (by rw[e1];congr 1;omega)
def gu (k:Int→Value):Ans:=fun vals s=>
 match vals with
 | [.int .u64 u]=>some (k u,s,[(decide (0≤u∧u<18446744073709551616),true)])
 | _=>none
theorem Z6A {f:Nat}{k:Int→Value}(hk:∀ u,0≤u→u<18446744073709551616→∀ w,Calls prog f #[.int .u64 u] w fun e w'=>e= .returned (k u)∧Za0 w w'):zT f (gu k):=by
 intro vals s v s' lg h hl w;unfold gu at h;split at h
 ·cases h;have h1:=hl _ Xf;simp only[Xi] at h1;exact hk _ h1.1 h1.2 w
 ·cases h
def Zhk:Con:=alt 161 (gu ZnY) Zo
theorem Zdg:ConOk Zhk:=ZM func161 rfl (Z6A ZhZ) Zd
end Go.Proofs.YtgefjidphfdhdaaGreatDoor
namespace Go.Proofs.YtgefjidphfdhdaaGreatDoor
open Go.Proofs.Tryz
open Go.IntKind
open Go.KRun Go.Nt Go.Rd Go.Wd Go.Pt
set_option maxRecDepth 100000
set_option linter.unusedVariables false
theorem Z9e (m:Bool) (c e q:Int):ZD (Zr (Zq prog Zf Zhk true) 200 115 [vP m c e q] []) (.int .i64 ((i64.wrap (i64.wrap (i64.wrap (e+((Go.bitLen q.toNat:Nat):Int))-1)*78913)).fdiv 262144)) [(false,false),(decide (0≤q∧q<18446744073709551616),true)]:=by and_intros<;>kernel_rfl
def ZnZ (E q:Int):Bool:=decide (1≤q∧q<9007199254740992∧ -1074≤E∧E≤972)
def Z6B:Ans:=fun vals s=>
 match vals with
 | [v]=>
  match vP4 v with
  | some (_,_,E,q)=>some (.int .i64 (lgS q.toNat E),s,[(ZnZ E q,true)])
  | none=>none
 | _=>none
theorem ZwF:zT 115 Z6B:=by
 intro vals s v s' lg h hl w;unfold Z6B at h;split at h
 ·split at h
  ·rename_i o m c E q hv;rw[ZdI hv];cases h;obtain⟨h1,h2,h3,h4⟩:=Xc (hl _ Xf);have hb:bitLen q.toNat≤53:=Go.Rn.len_le (k:=53) (show q.toNat<9007199254740992 by omega);have f:=Z9e m c E q;rw[Zw (n:=E+((Go.bitLen q.toNat:Nat):Int)) (by omega) (by omega),Zw (n:=E+((Go.bitLen q.toNat:Nat):Int)-1) (by omega) (by omega),Zw (by omega) (by omega),Int.fdiv_eq_ediv_of_nonneg _ (by omega)] at f;exact Ze (Zp Zdg) f (Za rfl (Z5 (Xa (by omega)))) (by rfl) (by rfl) w
  ·cases h
 ·cases h
def Zb6:Con:=alt 115 Z6B Zo
theorem ZrD:ConOk Zb6:=ZM func115 rfl ZwF Zd
def Zgh:Hc:=ZY 117 Z69 (ZY 76 Na.Zrg (ZY 77 Na.Zrf hcN))
theorem ZwG:HcOk Zgh:=Zt func117 rfl Zw6 (Zt func76 rfl Na.ZiX (Zt func77 rfl Na.ZiW zp))
theorem Zcb:TabOk (Zk prog Zf Zb6 Zgh):=Zh ZrD ZwG
def spT (e q:Int):Int:=i64.wrap (lgS q.toNat e-17)
def spN (e q:Int):Int:=i64.wrap (0-spT e q)
def spW (e:Int):Int:=i64.wrap (e-2)
def ZtC (e q:Int):Nat:=Na.pMi 10 (mx0 (spN e q))
def ZtD (e q:Int):Nat:=Na.pMi 10 (mx0 (i64.wrap (0-spN e q)))
def Zgi (e q:Int) (P:Nat):Nat:=Na.sM (t14 (ZtC e q) P) (mx0 (spW e))
def ZgR (e q:Int) (P':Nat):Nat:=Na.sM (t14 (ZtD e q) P') (mx0 (i64.wrap (0-spW e)))
def vSp (l h a:Int) (d:Bool) (t:Int):Value:= .agg #[.int .u64 l,.int .u64 h,.int .u64 a,.bool d,.int .i64 t]
def bSp (l h a:Int) (d:Bool) (t:Int):List Value×TypeId:=([.int .u64 l,.int .u64 h,.int .u64 a,.bool d,.int .i64 t],102)
def bPa (m:Bool) (c e q:Int):List Value×TypeId:=([.bool m,.int .i64 c,.int .i64 e,.int .u64 q],44)
def bSc (e q:Int) (P P' O U:Nat):List Value×TypeId:=([sl 6 0 (t14 (Zgi e q P) O) (Zgi e q P),sl 7 0 (t14 (ZgR e q P') U) (ZgR e q P')],168)
def Z6C (m:Bool) (c e q:Int) (P P':Nat):Hp:=⟨6,[r14 (ZtD e q) P',r14 (ZtC e q) P,([.slice none 0 0,.slice none 0 0],168),bSp 0 0 0 false (spT e q),bSp 0 0 0 false 0,bPa m c e q]⟩
def Z6D (m:Bool) (c e q:Int) (P P' O:Nat):Hp:=⟨7,[r14 (Zgi e q P) O,r14 (ZtD e q) P',r14 (ZtC e q) P,([.slice none 0 0,.slice none 0 0],168),bSp 0 0 0 false (spT e q),bSp 0 0 0 false 0,bPa m c e q]⟩
def Z1I (m:Bool) (c e q:Int) (P P' O U:Nat) (l a:Int) (d:Bool):Hp:=⟨9,[bSc e q P P' O U,r14 (ZgR e q P') U,r14 (Zgi e q P) O,r14 (ZtD e q) P',r14 (ZtC e q) P,bSc e q P P' O U,bSp l 0 a d (spT e q),bSp 0 0 0 false 0,bPa m c e q]⟩
def lTi (e q:Int) (P P' O U:Nat) (H:Hp) (x:Int) (V:Nat) (d:Bool) (l:Log):Log:=(Zpg H (a14 6) (t14 (Zgi e q P) O) (Zgi e q P) O,true)::(Zpg H (a14 7) (t14 (ZgR e q P') U) (ZgR e q P') U,true)::(decide (((x.toNat*O/U:Nat):Int)=(V:Int)),true)::(decide (x.toNat*O % U≠0),d)::(decide (1≤x∧x<18446744073709551616∧O≠0∧U≠0∧(4294967296:Int)≤(V:Int)∧(V:Int)<18446744073709551616),true)::l
def Z6E (m:Bool) (c e q:Int) (P P' O U:Nat) (cl:Bool) (l:Log):Log:=(q.tmod 2==0,cl)::(decide ((2:Int)=0),false)::Zw4 (Z6D m c e q P P' O) (a14 5) (t14 (ZtD e q) P') (ZtD e q) (mx0 (i64.wrap (0-spW e))) U (Zw4 (Z6C m c e q P P') (a14 4) (t14 (ZtC e q) P) (ZtC e q) (mx0 (spW e)) O (Zw3 10 (mx0 (i64.wrap (0-spN e q))) P' (Zw3 10 (mx0 (spN e q)) P ((ZnZ e q,true)::l))))
def sp4 (q:Int):Int:=u64.wrap (4*q)
def Z6F (q:Int):Int:=u64.wrap (sp4 q+2)
def ZwH (pw:Bool) (q:Int):Int:=if pw=true then u64.wrap (sp4 q-1) else u64.wrap (sp4 q-2)
def lPo (e q:Int) (k:Nat):Log:=match k with | 0=>[(q==4503599627370496,false)] | 1=>[(decide (e> -1074),true),(q==4503599627370496,true)] | _=>[(decide (e> -1074),false),(q==4503599627370496,true)]
def Zb7 (m:Bool) (c e q:Int) (P P' O U A L H:Nat) (d0:Bool) (k:Nat) (cl d1 d2:Bool) (L':Int):Log:=lTi e q P P' O U (Z1I m c e q P P' O U L' A d0) (Z6F q) H d2 (lTi e q P P' O U (Z1I m c e q P P' O U 0 A d0) (ZwH (Nat.beq k 1) q) L d1 (lTi e q P P' O U (Z1I m c e q P P' O U 0 0 false) (sp4 q) A d0 (Z6E m c e q P P' O U cl (lPo e q k))))
theorem Zoa (m:Bool) (c e q:Int) (P P' O U A L H:Nat) (d0:Bool):ZD (Zr (Zk prog Zf Zb6 Zgh) 200 60 [vP m c e q] [cmp false,cmp false,cmp false,num P,cmp false,cmp false,num P',cmp false,cmp false,cmp false,num O,cmp false,cmp false,cmp false,num U,cmp false,cmp true,num O,num U,num A,cmp d0,num O,num U,num L,cmp true,num O,num U,num H,cmp true]) (vSp (u64.wrap (L+1)) (H:Int) A d0 (spT e q)) (Zb7 m c e q P P' O U A L H d0 0 true true true (u64.wrap (L+1))):=by and_intros<;>kernel_rfl
theorem Zob (m:Bool) (c e q:Int) (P P' O U A L H:Nat) (d0:Bool):ZD (Zr (Zk prog Zf Zb6 Zgh) 200 60 [vP m c e q] [cmp false,cmp false,cmp false,num P,cmp false,cmp false,num P',cmp false,cmp false,cmp false,num O,cmp false,cmp false,cmp false,num U,cmp false,cmp true,num O,num U,num A,cmp d0,num O,num U,num L,cmp true,num O,num U,num H,cmp false]) (vSp (u64.wrap (L+1)) (H:Int) A d0 (spT e q)) (Zb7 m c e q P P' O U A L H d0 0 true true false (u64.wrap (L+1))):=by and_intros<;>kernel_rfl
theorem Zoc (m:Bool) (c e q:Int) (P P' O U A L H:Nat) (d0:Bool):ZD (Zr (Zk prog Zf Zb6 Zgh) 200 60 [vP m c e q] [cmp false,cmp false,cmp false,num P,cmp false,cmp false,num P',cmp false,cmp false,cmp false,num O,cmp false,cmp false,cmp false,num U,cmp false,cmp true,num O,num U,num A,cmp d0,num O,num U,num L,cmp false,num O,num U,num H,cmp true]) (vSp (L:Int) (H:Int) A d0 (spT e q)) (Zb7 m c e q P P' O U A L H d0 0 true false true (L:Int)):=by and_intros<;>kernel_rfl
theorem Zod (m:Bool) (c e q:Int) (P P' O U A L H:Nat) (d0:Bool):ZD (Zr (Zk prog Zf Zb6 Zgh) 200 60 [vP m c e q] [cmp false,cmp false,cmp false,num P,cmp false,cmp false,num P',cmp false,cmp false,cmp false,num O,cmp false,cmp false,cmp false,num U,cmp false,cmp true,num O,num U,num A,cmp d0,num O,num U,num L,cmp false,num O,num U,num H,cmp false]) (vSp (L:Int) (H:Int) A d0 (spT e q)) (Zb7 m c e q P P' O U A L H d0 0 true false false (L:Int)):=by and_intros<;>kernel_rfl
theorem Zoe (m:Bool) (c e q:Int) (P P' O U A L H:Nat) (d0:Bool):ZD (Zr (Zk prog Zf Zb6 Zgh) 200 60 [vP m c e q] [cmp false,cmp false,cmp false,num P,cmp false,cmp false,num P',cmp false,cmp false,cmp false,num O,cmp false,cmp false,cmp false,num U,cmp false,cmp false,num O,num U,num A,cmp d0,num O,num U,num L,cmp true,num O,num U,num H,cmp true]) (vSp (u64.wrap (L+1)) (H:Int) A d0 (spT e q)) (Zb7 m c e q P P' O U A L H d0 0 false true true (u64.wrap (L+1))):=by and_intros<;>kernel_rfl
theorem Zof (m:Bool) (c e q:Int) (P P' O U A L H:Nat) (d0:Bool):ZD (Zr (Zk prog Zf Zb6 Zgh) 200 60 [vP m c e q] [cmp false,cmp false,cmp false,num P,cmp false,cmp false,num P',cmp false,cmp false,cmp false,num O,cmp false,cmp false,cmp false,num U,cmp false,cmp false,num O,num U,num A,cmp d0,num O,num U,num L,cmp true,num O,num U,num H,cmp false]) (vSp (u64.wrap (L+1)) (u64.wrap (H-1)) A d0 (spT e q)) (Zb7 m c e q P P' O U A L H d0 0 false true false (u64.wrap (L+1))):=by and_intros<;>kernel_rfl
theorem Zog (m:Bool) (c e q:Int) (P P' O U A L H:Nat) (d0:Bool):ZD (Zr (Zk prog Zf Zb6 Zgh) 200 60 [vP m c e q] [cmp false,cmp false,cmp false,num P,cmp false,cmp false,num P',cmp false,cmp false,cmp false,num O,cmp false,cmp false,cmp false,num U,cmp false,cmp false,num O,num U,num A,cmp d0,num O,num U,num L,cmp false,num O,num U,num H,cmp true]) (vSp (u64.wrap (L+1)) (H:Int) A d0 (spT e q)) (Zb7 m c e q P P' O U A L H d0 0 false false true (u64.wrap (L+1))):=by and_intros<;>kernel_rfl
theorem Zoh (m:Bool) (c e q:Int) (P P' O U A L H:Nat) (d0:Bool):ZD (Zr (Zk prog Zf Zb6 Zgh) 200 60 [vP m c e q] [cmp false,cmp false,cmp false,num P,cmp false,cmp false,num P',cmp false,cmp false,cmp false,num O,cmp false,cmp false,cmp false,num U,cmp false,cmp false,num O,num U,num A,cmp d0,num O,num U,num L,cmp false,num O,num U,num H,cmp false]) (vSp (u64.wrap (L+1)) (u64.wrap (H-1)) A d0 (spT e q)) (Zb7 m c e q P P' O U A L H d0 0 false false false (u64.wrap (L+1))):=by and_intros<;>kernel_rfl
theorem Zoi (m:Bool) (c e q:Int) (P P' O U A L H:Nat) (d0:Bool):ZD (Zr (Zk prog Zf Zb6 Zgh) 200 60 [vP m c e q] [cmp true,cmp true,cmp false,cmp false,num P,cmp false,cmp false,num P',cmp false,cmp false,cmp false,num O,cmp false,cmp false,cmp false,num U,cmp false,cmp true,num O,num U,num A,cmp d0,num O,num U,num L,cmp true,num O,num U,num H,cmp true]) (vSp (u64.wrap (L+1)) (H:Int) A d0 (spT e q)) (Zb7 m c e q P P' O U A L H d0 1 true true true (u64.wrap (L+1))):=by and_intros<;>kernel_rfl
theorem Zoj (m:Bool) (c e q:Int) (P P' O U A L H:Nat) (d0:Bool):ZD (Zr (Zk prog Zf Zb6 Zgh) 200 60 [vP m c e q] [cmp true,cmp true,cmp false,cmp false,num P,cmp false,cmp false,num P',cmp false,cmp false,cmp false,num O,cmp false,cmp false,cmp false,num U,cmp false,cmp true,num O,num U,num A,cmp d0,num O,num U,num L,cmp true,num O,num U,num H,cmp false]) (vSp (u64.wrap (L+1)) (H:Int) A d0 (spT e q)) (Zb7 m c e q P P' O U A L H d0 1 true true false (u64.wrap (L+1))):=by and_intros<;>kernel_rfl
theorem Zok (m:Bool) (c e q:Int) (P P' O U A L H:Nat) (d0:Bool):ZD (Zr (Zk prog Zf Zb6 Zgh) 200 60 [vP m c e q] [cmp true,cmp true,cmp false,cmp false,num P,cmp false,cmp false,num P',cmp false,cmp false,cmp false,num O,cmp false,cmp false,cmp false,num U,cmp false,cmp true,num O,num U,num A,cmp d0,num O,num U,num L,cmp false,num O,num U,num H,cmp true]) (vSp (L:Int) (H:Int) A d0 (spT e q)) (Zb7 m c e q P P' O U A L H d0 1 true false true (L:Int)):=by and_intros<;>kernel_rfl
theorem Zol (m:Bool) (c e q:Int) (P P' O U A L H:Nat) (d0:Bool):ZD (Zr (Zk prog Zf Zb6 Zgh) 200 60 [vP m c e q] [cmp true,cmp true,cmp false,cmp false,num P,cmp false,cmp false,num P',cmp false,cmp false,cmp false,num O,cmp false,cmp false,cmp false,num U,cmp false,cmp true,num O,num U,num A,cmp d0,num O,num U,num L,cmp false,num O,num U,num H,cmp false]) (vSp (L:Int) (H:Int) A d0 (spT e q)) (Zb7 m c e q P P' O U A L H d0 1 true false false (L:Int)):=by and_intros<;>kernel_rfl
theorem Zom (m:Bool) (c e q:Int) (P P' O U A L H:Nat) (d0:Bool):ZD (Zr (Zk prog Zf Zb6 Zgh) 200 60 [vP m c e q] [cmp true,cmp false,cmp false,cmp false,num P,cmp false,cmp false,num P',cmp false,cmp false,cmp false,num O,cmp false,cmp false,cmp false,num U,cmp false,cmp true,num O,num U,num A,cmp d0,num O,num U,num L,cmp true,num O,num U,num H,cmp true]) (vSp (u64.wrap (L+1)) (H:Int) A d0 (spT e q)) (Zb7 m c e q P P' O U A L H d0 2 true true true (u64.wrap (L+1))):=by and_intros<;>kernel_rfl
theorem Zon (m:Bool) (c e q:Int) (P P' O U A L H:Nat) (d0:Bool):ZD (Zr (Zk prog Zf Zb6 Zgh) 200 60 [vP m c e q] [cmp true,cmp false,cmp false,cmp false,num P,cmp false,cmp false,num P',cmp false,cmp false,cmp false,num O,cmp false,cmp false,cmp false,num U,cmp false,cmp true,num O,num U,num A,cmp d0,num O,num U,num L,cmp true,num O,num U,num H,cmp false]) (vSp (u64.wrap (L+1)) (H:Int) A d0 (spT e q)) (Zb7 m c e q P P' O U A L H d0 2 true true false (u64.wrap (L+1))):=by and_intros<;>kernel_rfl
theorem Zoo (m:Bool) (c e q:Int) (P P' O U A L H:Nat) (d0:Bool):ZD (Zr (Zk prog Zf Zb6 Zgh) 200 60 [vP m c e q] [cmp true,cmp false,cmp false,cmp false,num P,cmp false,cmp false,num P',cmp false,cmp false,cmp false,num O,cmp false,cmp false,cmp false,num U,cmp false,cmp true,num O,num U,num A,cmp d0,num O,num U,num L,cmp false,num O,num U,num H,cmp true]) (vSp (L:Int) (H:Int) A d0 (spT e q)) (Zb7 m c e q P P' O U A L H d0 2 true false true (L:Int)):=by and_intros<;>kernel_rfl
theorem Zop (m:Bool) (c e q:Int) (P P' O U A L H:Nat) (d0:Bool):ZD (Zr (Zk prog Zf Zb6 Zgh) 200 60 [vP m c e q] [cmp true,cmp false,cmp false,cmp false,num P,cmp false,cmp false,num P',cmp false,cmp false,cmp false,num O,cmp false,cmp false,cmp false,num U,cmp false,cmp true,num O,num U,num A,cmp d0,num O,num U,num L,cmp false,num O,num U,num H,cmp false]) (vSp (L:Int) (H:Int) A d0 (spT e q)) (Zb7 m c e q P P' O U A L H d0 2 true false false (L:Int)):=by and_intros<;>kernel_rfl
end Go.Proofs.YtgefjidphfdhdaaGreatDoor
