/-
  CxE, Row, Flat
-/
import Derived.Test.YtekebccjflilnaaGreatG17
import Derived.WalkKit
import Derived.ProofKit
import Derived.OpenShut
import Derived.Laws.IdiomArrays
import Derived.Lib.SmallJoins
namespace Go.Proofs.YtekebccjflilnaaGreat
open Go.Proofs.Tryz
open Go.KRun Go.Wd Go.Pt Go.Rn
set_option maxRecDepth 100000
def gXP (k:Int→Int→Int→Value):Ans:=fun vals s=>
 match vals with
 | [.agg ⟨[.int .u64 a,.int .u64 b]⟩,.int .u64 p]=>some (k a b p,s,[(decide (U a∧U b∧U p),true)])
 | _=>none
theorem ZhV {f:Nat}{k:Int→Int→Int→Value}(hk:∀ a b p:Int,U a→U b→U p→∀ w,Calls prog f #[pX a b,.int .u64 p] w fun e w'=>e= .returned (k a b p)∧zg w w'):ZJ f (gXP k):=by
 intro vals s v s' lg h hl w;unfold gXP at h;split at h
 ·cases h;obtain⟨h1,h2,h3⟩:=Xc (hl _ Xf);exact hk _ _ _ h1 h2 h3 w
 ·cases h
def Zzd (k:Int→Int→Int→Int→Int→Value):Ans:=fun vals s=>
 match vals with
 | [.agg ⟨[.int .u64 a,.int .u64 b]⟩,.int .u64 p,.agg ⟨[.int .u64 c,.int .u64 d]⟩]=>some (k a b p c d,s,[(decide (U a∧U b∧U p∧U c∧U d),true)])
 | _=>none
theorem Zm2 {f:Nat}{k:Int→Int→Int→Int→Int→Value}(hk:∀ a b p c d:Int,U a→U b→U p→U c→U d→∀ w,Calls prog f #[pX a b,.int .u64 p,pX c d] w fun e w'=>e= .returned (k a b p c d)∧zg w w'):ZJ f (Zzd k):=by
 intro vals s v s' lg h hl w;unfold Zzd at h;split at h
 ·cases h;obtain⟨h1,h2,h3,h4,h5⟩:=Xc (hl _ Xf);exact hk _ _ _ _ _ h1 h2 h3 h4 h5 w
 ·cases h
def ccV (a b p:Int):Value:=cpB (muP 0 a p) (muP 0 b p) (orB (muF 0 a p) (muF 0 b p))
def rcV (a b p:Int):Value:=cpI (muP 0 a p) (muP 0 b p) (orI (muF 0 a p) (muF 0 b p))
def cvV (a b p:Int):Value:=cpB (quP 0 a p) (quP 0 b p) (orB (quF 0 a p) (quF 0 b p))
def rvV (a b p:Int):Value:=cpI (quP 0 a p) (quP 0 b p) (orI (quF 0 a p) (quF 0 b p))
def Zur (a b p c d:Int):Value:=cpB (fmP 0 a p c) (fmP 0 b p d) (orB (fmF 0 a p c) (fmF 0 b p d))
def Zus (a b p c d:Int):Value:=cpI (fmP 0 a p c) (fmP 0 b p d) (orI (fmF 0 a p c) (fmF 0 b p d))
theorem Z3x (a b p:Int):Zw (Ze (Zi prog Zh Zjd true) 300 4 [pX a b,.int .u64 p] []) (ccV a b p) [(decide (U b∧U p),true),(decide (U a∧U p),true)]:=by and_intros<;>kernel_rfl
theorem Zjf (a b p:Int) (ha:U a) (hb:U b) (hp:U p) (w:World):Calls prog 4 #[pX a b,.int .u64 p] w fun r w'=>r= .returned (ccV a b p)∧zg w w':=
 Zb (Zf Zck) (Z3x a b p) (Za (Xa ⟨hb,hp⟩) (Zz (Xa ⟨ha,hp⟩))) rfl (by rfl) w
theorem Z2t (a b p:Int):Zw (Ze (Zi prog Zh Zjd true) 300 6 [pX a b,.int .u64 p] []) (rcV a b p) [(decide (U b∧U p),true),(decide (U a∧U p),true)]:=by and_intros<;>kernel_rfl
theorem ZgC (a b p:Int) (ha:U a) (hb:U b) (hp:U p) (w:World):Calls prog 6 #[pX a b,.int .u64 p] w fun r w'=>r= .returned (rcV a b p)∧zg w w':=
 Zb (Zf Zck) (Z2t a b p) (Za (Xa ⟨hb,hp⟩) (Zz (Xa ⟨ha,hp⟩))) rfl (by rfl) w
theorem Z3y (a b p c d:Int):Zw (Ze (Zi prog Zh Zjd true) 300 9 [pX a b,.int .u64 p,pX c d] []) (Zur a b p c d) [(decide (U b∧U p∧U d),true),(decide (U a∧U p∧U c),true)]:=by and_intros<;>kernel_rfl
theorem Zjg (a b p c d:Int) (ha:U a) (hb:U b) (hp:U p) (hc:U c) (hd:U d) (w:World):Calls prog 9 #[pX a b,.int .u64 p,pX c d] w fun r w'=>r= .returned (Zur a b p c d)∧zg w w':=
 Zb (Zf Zck) (Z3y a b p c d) (Za (Xa ⟨hb,hp,hd⟩) (Zz (Xa ⟨ha,hp,hc⟩))) rfl (by rfl) w
theorem Z2u (a b p c d:Int):Zw (Ze (Zi prog Zh Zjd true) 300 10 [pX a b,.int .u64 p,pX c d] []) (Zus a b p c d) [(decide (U b∧U p∧U d),true),(decide (U a∧U p∧U c),true)]:=by and_intros<;>kernel_rfl
theorem ZgD (a b p c d:Int) (ha:U a) (hb:U b) (hp:U p) (hc:U c) (hd:U d) (w:World):Calls prog 10 #[pX a b,.int .u64 p,pX c d] w fun r w'=>r= .returned (Zus a b p c d)∧zg w w':=
 Zb (Zf Zck) (Z2u a b p c d) (Za (Xa ⟨hb,hp,hd⟩) (Zz (Xa ⟨ha,hp,hc⟩))) rfl (by rfl) w
def Zut:Con:=alt 17 gQD (alt 18 gRD Zpz)
theorem ZhW:ConOk Zut:=Zy func17 rfl ZwL (Zy func18 rfl ZxQ Zfd)
theorem Z3z (a b p:Int):Zw (Ze (Zi prog Zh Zut true) 300 7 [pX a b,.int .u64 p] []) (cvV a b p) [(decide (U b∧U p),true),(decide (U a∧U p),true)]:=by and_intros<;>kernel_rfl
theorem Zjh (a b p:Int) (ha:U a) (hb:U b) (hp:U p) (w:World):Calls prog 7 #[pX a b,.int .u64 p] w fun r w'=>r= .returned (cvV a b p)∧zg w w':=
 Zb (Zf ZhW) (Z3z a b p) (Za (Xa ⟨hb,hp⟩) (Zz (Xa ⟨ha,hp⟩))) rfl (by rfl) w
theorem Z2v (a b p:Int):Zw (Ze (Zi prog Zh Zut true) 300 8 [pX a b,.int .u64 p] []) (rvV a b p) [(decide (U b∧U p),true),(decide (U a∧U p),true)]:=by and_intros<;>kernel_rfl
theorem ZgE (a b p:Int) (ha:U a) (hb:U b) (hp:U p) (w:World):Calls prog 8 #[pX a b,.int .u64 p] w fun r w'=>r= .returned (rvV a b p)∧zg w w':=
 Zb (Zf ZhW) (Z2v a b p) (Za (Xa ⟨hb,hp⟩) (Zz (Xa ⟨ha,hp⟩))) rfl (by rfl) w
theorem ZyH (m a b:Int):fl5 (quF m a b):=by have:=ZxR m a b;unfold fl5;omega
def ZyI:Con:=alt 4 (gXP ccV) (alt 6 (gXP rcV) (alt 7 (gXP cvV) (alt 8 (gXP rvV) (alt 9 (Zzd Zur) (alt 10 (Zzd Zus) (alt 11 gIs ZyE))))))
theorem Zp2:ConOk ZyI:=Zy func4 rfl (ZhV Zjf) (Zy func6 rfl (ZhV ZgC) (Zy func7 rfl (ZhV Zjh) (Zy func8 rfl (ZhV ZgE) (Zy func9 rfl (Zm2 Zjg) (Zy func10 rfl (Zm2 ZgD) (Zy func11 rfl ZyB Zp1))))))
end Go.Proofs.YtekebccjflilnaaGreat
namespace Go.KRun
open Go.ChangeShapes Go.WideShapes Go.ChangeAt Go.RowKit Go.Joins
theorem ZgF {w w':World}(h:zg w w') (a:Addr):w'.frozen? a=w.frozen? a:=by
 unfold World.frozen?;by_cases h1:a.block<w.heap.size
 ·rw[h.1.block _ h1]
 ·rw[Array.getElem?_eq_none (by omega:w.heap.size≤a.block)];by_cases h2:a.block<w'.heap.size
  ·have h3:=h.2 a.block (by omega) h2;unfold ZuA at h3;split
   ·rename_i c e lo hi hc;have:=h3 _ _ _ hc;cases this;simp
   ·rfl
  ·rw[Array.getElem?_eq_none (by omega:w'.heap.size≤a.block)]
theorem ZaJ {n:Int}(h:(Lit.int .u64 n).wf=true):0≤n∧n<18446744073709551616:=by
 simp [Lit.wf,IntKind.min,IntKind.max,IntKind.signed,IntKind.bits] at h;omega
def okC:List (Option IntKind)→List Value→Prop
 | [],[]=>True
 | none::l,v::vs=>(∃ b,v= .bool b)∧okC l vs
 | some k::l,v::vs=>(∃ n,v= .int k n∧(Lit.int k n).wf=true)∧okC l vs
 | _,_=>False
theorem Zb7:∀ {l1:List (Option IntKind)}{v1:List Value}{l2:List (Option IntKind)}{v2:List Value},okC l1 v1→okC l2 v2→okC (l1++l2) (v1++v2)
 | [],[],_,_,_,h2=>by simpa using h2
 | none::l,v::vs,_,_,h1,h2=>⟨h1.1,Zb7 (l1:=l) (v1:=vs) h1.2 h2⟩
 | some k::l,v::vs,_,_,h1,h2=>⟨h1.1,Zb7 (l1:=l) (v1:=vs) h1.2 h2⟩
 | [],_::_,_,_,h1,_=>h1.elim
 | none::_,[],_,_,h1,_=>h1.elim
 | some _::_,[],_,_,h1,_=>h1.elim
theorem Zb8:∀ {l:List (Option IntKind)}{vs:List Value},okC l vs→vs.length=l.length
 | [],[],_=>rfl
 | none::l,v::vs,h=>by simp [Zb8 (l:=l) h.2]
 | some k::l,v::vs,h=>by simp [Zb8 (l:=l) h.2]
 | [],_::_,h=>h.elim
 | none::_,[],h=>h.elim
 | some _::_,[],h=>h.elim
def ZdB (P:Program) (q:TypeId→Option (List (Option IntKind))):Nat→List Field→Option (List (Option IntKind))
 | _,[]=>some []
 | off,f::fs=>
  match q f.type with
  | some l=>
   if (Nat.beq f.offset off && Nat.beq (P.cellsOf f.type) l.length)=true then
    match ZdB P q (off+l.length) fs with
    | some r=>some (l++r)
    | none=>none
   else none
  | none=>none
def Za6 (P:Program) (e:TypeId) (l:List (Option IntKind)):Nat→List (Option IntKind)
 | 0=>[]
 | n+1=>l++Za6 P e l n
def z9 (P:Program):Nat→TypeId→Option (List (Option IntKind))
 | 0,_=>none
 | n+1,t=>
  match P.underlying t with
  | some .bool=>some [none]
  | some (.int k)=>some [some k]
  | some (.struct fs)=>
   match ZdB P (z9 P n) 0 fs.toList with
   | some l=>if Nat.beq (P.cellsOf t) l.length=true then some l else none
   | none=>none
  | some (.array m e)=>
   match z9 P n e with
   | some l=>if (Nat.beq (P.cellsOf e) l.length && Nat.beq (P.cellsOf t) (Za6 P e l m).length)=true then some (Za6 P e l m) else none
   | none=>none
  | _=>none
theorem Zq9 {α:Type}(cs:List α) (off a b:Nat):((cs.drop off).take (a+b))=((cs.drop off).take a)++((cs.drop (off+a)).take b):=by
 rw[List.take_add,List.drop_drop]
section
variable {H : Type} {enc : TypeId × Value → H} {P : Program}
def Zm3 (enc:TypeId×Value→H) (P:Program) (t:TypeId) (L:List (Option IntKind)):Prop:=
 ∀ w base spare held fuel cs x,DataW.trod enc P w base spare held fuel t cs=some x→okC L cs∧x.2=[]∧∀ w' base' spare' held',DataW.trod enc P w' base' spare' held' fuel t cs=some x
theorem ZdC {q:TypeId→Option (List (Option IntKind))}(hq:∀ t L,q t=some L→Zm3 enc P t L) {w:World}{base:Nat}{spare:Nat→Bool}{held:Bool}{fuel:Nat}{cs:List Value}:
  ∀ (fs:List Field) (off:Nat) (L:List (Option IntKind)),ZdB P q off fs=some L→∀ xs,fs.mapM (fun f=>DataW.trod enc P w base spare held fuel f.type ((cs.drop f.offset).take (P.cellsOf f.type)))=some xs→
   okC L ((cs.drop off).take L.length)∧xs.flatMap (·.2)=[]∧∀ w' base' spare' held',fs.mapM (fun f=>DataW.trod enc P w' base' spare' held' fuel f.type ((cs.drop f.offset).take (P.cellsOf f.type)))=some xs
 | [],off,L,hL,xs,hx=>by
  simp only[ZdB] at hL;cases hL;simp at hx;subst hx;exact⟨by simp [okC],by simp,fun _ _ _ _=>by simp⟩
 | f::fs,off,L,hL,xs,hx=>by
  unfold ZdB at hL;split at hL
  ·rename_i l hl;split at hL
   ·rename_i hc;simp only[Xh] at hc;have ho:=Xj hc.1;have hs:=Xj hc.2;split at hL
    ·rename_i r hr;cases hL;rw[List.mapM_cons] at hx;simp only[bind,Option.bind_eq_some_iff,pure,Option.some.injEq] at hx;obtain⟨y,hy,ys,hys,rfl⟩:=hx;obtain⟨a1,a2,a3⟩:=hq _ _ hl _ _ _ _ _ _ _ hy;obtain⟨b1,b2,b3⟩:=ZdC hq fs (off+l.length) r hr ys hys;rw[ho,hs] at a1;refine⟨?_,?_,fun w' base' spare' held'=> ?_⟩
     ·rw[List.length_append,Zq9];exact Zb7 a1 b1
     ·simp [a2,b2]
     ·rw[List.mapM_cons,a3 w' base' spare' held',b3 w' base' spare' held'];rfl
    ·cases hL
   ·cases hL
  ·cases hL
theorem Zeq {e:TypeId}{l:List (Option IntKind)}(hl:Zm3 enc P e l) (hs:P.cellsOf e=l.length) {w:World}{base:Nat}{spare:Nat→Bool}{held:Bool}{fuel:Nat}{cs:List Value}:
  ∀ (n k:Nat) xs,(List.range' k n).mapM (fun i=>DataW.trod enc P w base spare held fuel e ((cs.drop (i*P.cellsOf e)).take (P.cellsOf e)))=some xs→
   okC (Za6 P e l n) ((cs.drop (k*l.length)).take (Za6 P e l n).length)∧xs.flatMap (·.2)=[]∧∀ w' base' spare' held',(List.range' k n).mapM (fun i=>DataW.trod enc P w' base' spare' held' fuel e ((cs.drop (i*P.cellsOf e)).take (P.cellsOf e)))=some xs
 | 0,k,xs,hx=>by
  simp at hx;subst hx;exact⟨by simp [Za6,okC],by simp,fun _ _ _ _=>by simp⟩
 | n+1,k,xs,hx=>by
  rw[List.range'_succ,List.mapM_cons] at hx;simp only[bind,Option.bind_eq_some_iff,pure,Option.some.injEq] at hx;obtain⟨y,hy,ys,hys,rfl⟩:=hx;obtain⟨a1,a2,a3⟩:=hl _ _ _ _ _ _ _ hy;obtain⟨b1,b2,b3⟩:=Zeq hl hs n (k+1) ys hys;rw[hs] at a1;refine⟨?_,?_,fun w' base' spare' held'=> ?_⟩
  ·show okC (l++Za6 P e l n) _;rw[show (Za6 P e l (n+1)).length=l.length+(Za6 P e l n).length by simp [Za6],Zq9];rw[Nat.add_mul,Nat.one_mul] at b1;exact Zb7 a1 b1
  ·simp [a2,b2]
  ·rw[List.range'_succ,List.mapM_cons,a3 w' base' spare' held',b3 w' base' spare' held'];rfl
theorem ZgG:∀ (n:Nat) (t:TypeId) (L:List (Option IntKind)),z9 P n t=some L→Zm3 enc P t L
 | 0,t,L,h=>by simp [z9] at h
 | n+1,t,L,h=>by
  intro w base spare held fuel cs x hx;cases fuel with
  | zero=>simp [DataW.trod] at hx
  | succ fuel=>
   unfold z9 at h;split at h
   ·rename_i hu;cases h;obtain⟨b,rfl,rfl⟩:=DataW.trod_bool hu hx;exact⟨⟨⟨b,rfl⟩,trivial⟩,rfl,fun _ _ _ _=>by simp [DataW.trod,hu]⟩
   ·rename_i k hu;cases h;obtain⟨a,rfl,rfl,hw⟩:=DataW.trod_int hu hx;exact⟨⟨⟨a,rfl,hw⟩,trivial⟩,rfl,fun _ _ _ _=>by simp [DataW.trod,hu,hw]⟩
   ·rename_i fs hu;split at h
    ·rename_i l hl;split at h
     ·rename_i hc;cases h;have hc:=Xj hc;have key:∀ (w:World) (base:Nat) (spare:Nat→Bool) (held:Bool),DataW.trod enc P w base spare held (fuel+1) t cs=if cs.length=P.cellsOf t then (fs.toList.mapM fun f=>DataW.trod enc P w base spare held fuel f.type ((cs.drop f.offset).take (P.cellsOf f.type))).map fun xs=>(.agg (xs.map (·.1)),xs.flatMap (·.2)) else none:=fun w base spare held=>by
       rw[DataW.trod.eq_def];simp only[hu]
      rw[key] at hx;split at hx
      ·rename_i hlen;simp only[Option.map_eq_some_iff] at hx;obtain⟨xs,hxs,rfl⟩:=hx;obtain⟨b1,b2,b3⟩:=ZdC (fun t L h=>ZgG n t L h) fs.toList 0 L hl xs hxs;refine⟨?_,b2,fun w' base' spare' held'=> ?_⟩
       ·rw[List.drop_zero,← hc,← hlen,List.take_length] at b1;exact b1
       ·rw[key,if_pos hlen,b3];rfl
      ·cases hx
     ·cases h
    ·cases h
   ·rename_i m e hu;split at h
    ·rename_i l hl;split at h
     ·rename_i hc;cases h;simp only[Xh] at hc;have hs:=Xj hc.1;have hc:=Xj hc.2;have key:∀ (w:World) (base:Nat) (spare:Nat→Bool) (held:Bool),DataW.trod enc P w base spare held (fuel+1) t cs=if cs.length=P.cellsOf t then ((List.range m).mapM fun i=>DataW.trod enc P w base spare held fuel e ((cs.drop (i*P.cellsOf e)).take (P.cellsOf e))).map fun xs=>(.agg (xs.map (·.1)),xs.flatMap (·.2)) else none:=fun w base spare held=>by
       rw[DataW.trod.eq_def];simp only[hu]
      rw[key] at hx;split at hx
      ·rename_i hlen;simp only[Option.map_eq_some_iff] at hx;obtain⟨xs,hxs,rfl⟩:=hx;rw[List.range_eq_range'] at hxs;obtain⟨b1,b2,b3⟩:=Zeq (ZgG n e l hl) hs m 0 xs hxs;refine⟨?_,b2,fun w' base' spare' held'=> ?_⟩
       ·rw[Nat.zero_mul,List.drop_zero,← hc,← hlen,List.take_length] at b1;exact b1
       ·rw[key,if_pos hlen,List.range_eq_range',b3];rfl
      ·cases hx
     ·cases h
    ·cases h
   ·cases h
theorem ZfT {w:World}{base:Nat}{spare:Nat→Bool}{held:Bool}{t:TypeId}{v:Value}{d:DataW H}{p:List MemPlace}{L:List (Option IntKind)}(hL:z9 P 6 t=some L) (h:DataW.Trod enc P w base spare held t v d p):
  okC L v.cells.toList∧p=[]∧∀ w' base' spare' held',DataW.Trod enc P w' base' spare' held' t v d []:=by
 obtain⟨fuel,hf⟩:=h;obtain⟨h1,h2,h3⟩:=ZgG 6 t L hL _ _ _ _ _ _ _ hf;simp only at h2;subst h2;exact⟨h1,rfl,fun w' base' spare' held'=>⟨fuel,h3 w' base' spare' held'⟩⟩
theorem Zer {r:Go.Reach}{w:World}{b0:Nat}{t:TypeId}{v:Value}{fs:Array Field}(hu:P.underlying t=some (.struct fs)) (hv:Value.okWide P w r b0 t v):∃ cs:Array Value,v= .agg cs:=by
 obtain⟨cs,h,_⟩:=okWide_struct hu hv;exact⟨cs,h⟩
end
end Go.KRun
