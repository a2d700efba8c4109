/-
  RunR, RunC, RunD
-/
import Derived.Test.YtekebccjflilnaaGreatG02
import Derived.ChangeKeysEq
import Derived.Laws.StructEq
import Derived.MapKept
import Derived.Laws.Tables
import Derived.Laws.Concat
import Derived.Laws.Strings2
import Derived.Laws.Strings3
import Derived.Laws.Slices
import Derived.OrdersHeld
namespace Go.KRun
open Go.RowKit
def ZdU (P:Program) (t:TypeId) (xs:List Value) (off:Nat):Option Value:=
 match P.underlying t,P.info? t with
 | some (.struct _),some _=>some (.agg ((xs.drop off).take (P.cellsOf t)).toArray)
 | some (.array _ _),some _=>some (.agg ((xs.drop off).take (P.cellsOf t)).toArray)
 | some .bool,_=>xs[off]?
 | some (.int _),_=>xs[off]?
 | some .string,_=>xs[off]?
 | _,_=>none
theorem Zbz {P:Program}{t:TypeId}{xs:Array Value}{off:Nat}{v:Value}(h:ZdU P t xs.toList off=some v) (w:World):(part t xs off).run P w= .ok v w:=by
 have big:∀ i,P.info? t=some i→(xs.extract off (off+P.cellsOf t))=((xs.toList.drop off).take (P.cellsOf t)).toArray:=fun i _=>by
  cases xs;simp [List.extract_eq_take_drop]
 have small:xs.toList[off]? =some v→xs[off]? =some v:=fun h=>by simpa using h
 unfold ZdU at h;split at h
 ·rename_i hu hi;cases h;simp [part,isAgg,run_underlying hu,run_sizeOf w hi,big _ hi]
 ·rename_i hu hi;cases h;simp [part,isAgg,run_underlying hu,run_sizeOf w hi,big _ hi]
 ·rename_i hu;simp [part,isAgg,run_underlying hu,small h]
 ·rename_i hu;simp [part,isAgg,run_underlying hu,small h]
 ·rename_i hu;simp [part,isAgg,run_underlying hu,small h]
 ·cases h
def ZuJ (P:Program) (q:TypeId→Value→Value→Option Bool) (xs ys:List Value):List Field→Option Bool
 | []=>some true
 | f::fs=>
  if f.name= "_" then none else
  match ZdU P f.type xs f.offset,ZdU P f.type ys f.offset,ZuJ P q xs ys fs with
  | some a,some b,some r'=>
   match q f.type a b with
   | some r=>some (r && r')
   | none=>none
  | _,_,_=>none
def ZuK (P:Program) (q:TypeId→Value→Value→Option Bool) (e:TypeId) (xs ys:List Value):List Nat→Option Bool
 | []=>some true
 | i::is=>
  match ZdU P e xs (i*P.cellsOf e),ZdU P e ys (i*P.cellsOf e),ZuK P q e xs ys is with
  | some a,some b,some r'=>
   match q e a b with
   | some r=>some (r && r')
   | none=>none
  | _,_,_=>none
def eqV (P:Program):Nat→TypeId→Value→Value→Option Bool
 | 0,_,_,_=>none
 | d+1,t,x,y=>
  match P.underlying t,x,y with
  | some .bool,.bool a,.bool b=>some (a==b)
  | some (.int _),.int k a,.int k' b=>if k=k' then some (a==b) else none
  | some .string,.string a,.string b=>some (a.toList==b.toList)
  | some (.struct fs),.agg xs,.agg ys=>if P.stoodInHeld t=true then none else ZuJ P (eqV P d) xs.toList ys.toList fs.toList
  | some (.array n e),.agg xs,.agg ys=>if (P.info? e).isSome=true then ZuK P (eqV P d) e xs.toList ys.toList (List.range n) else none
  | _,_,_=>none
theorem ZgP {P:Program}{q:TypeId→Value→Value→Option Bool}{d:Nat}(w:World) (hq:∀ t x y r,q t x y=some r→(Op.equalIn d t x y).run P w= .ok r w) (xs ys:Array Value):
  ∀ (fs:List Field) (r:Bool),ZuJ P q xs.toList ys.toList fs=some r→(Op.eqFields d xs ys fs).run P w= .ok r w
 | [],r,h=>by simp only[ZuJ] at h;cases h;simp [Op.eqFields]
 | f::fs,r,h=>by
  unfold ZuJ at h;split at h
  ·cases h
  ·rename_i hn;split at h
   ·rename_i a b r' ha hb hr;split at h
    ·rename_i r1 h1;cases h;have ih:=ZgP w hq xs ys fs r' hr;simp only[Op.eqFields,hn,ne_eq,not_false_eq_true,if_true,Sem.run_bind,Zbz ha w,Zbz hb w,Result.andThen_ok,hq _ _ _ _ h1];cases r1
     ·simp
     ·simpa using ih
    ·cases h
   ·cases h
theorem ZgQ {P:Program}{q:TypeId→Value→Value→Option Bool}{d:Nat}(w:World) (hq:∀ t x y r,q t x y=some r→(Op.equalIn d t x y).run P w= .ok r w) (e:TypeId) (xs ys:Array Value):
  ∀ (is:List Nat) (r:Bool),ZuK P q e xs.toList ys.toList is=some r→(Op.eqItems d e (P.cellsOf e) xs ys is).run P w= .ok r w
 | [],r,h=>by simp only[ZuK] at h;cases h;simp [Op.eqItems]
 | i::is,r,h=>by
  unfold ZuK at h;split at h
  ·rename_i a b r' ha hb hr;split at h
   ·rename_i r1 h1;cases h;have ih:=ZgQ w hq e xs ys is r' hr;simp only[Op.eqItems,Sem.run_bind,Zbz ha w,Zbz hb w,Result.andThen_ok,hq _ _ _ _ h1];cases r1
    ·simp
    ·simpa using ih
   ·cases h
  ·cases h
theorem Zdl {P:Program}(w:World) (k:Nat):∀ (d:Nat) (t:TypeId) (x y:Value) (r:Bool),eqV P d t x y=some r→(Op.equalIn (d+k) t x y).run P w= .ok r w
 | 0,t,x,y,r,h=>by simp [eqV] at h
 | d+1,t,x,y,r,h=>by
  rw[show d+1+k=(d+k)+1 by omega];unfold eqV at h;split at h
  ·rename_i hu;cases h;exact run_equalIn_bool w _ t _ _ hu
  ·rename_i hu;split at h
   ·rename_i hk;cases h;subst hk;exact run_equalIn_int w _ t _ _ _ _ hu
   ·cases h
  ·rename_i hu;cases h;exact run_equalIn_string w _ t _ _ hu
  ·rename_i fs xs ys hu;split at h
   ·cases h
   ·rename_i hs;have hfs:P.fieldsOf t=fs:=by simp [Program.fieldsOf,hu]
    rw[run_equalIn_struct w (d+k) t xs ys (by rw[hfs];exact hu) (by simpa using hs),hfs];exact ZgP w (fun t x y r h=>Zdl w k d t x y r h) xs ys fs.toList r h
  ·rename_i n e xs ys hu;split at h
   ·rename_i hi;obtain⟨i,hi⟩:=Option.isSome_iff_exists.1 hi;rw[run_equalIn_array w (d+k) xs ys hu hi];exact ZgQ w (fun t x y r h=>Zdl w k d t x y r h) e xs ys _ r h
   ·cases h
  ·cases h
def ZqN:Value→Value→Bool
 | .agg a,.agg b=>Zdg a.toList b.toList
 | a,b=>ZC (some a) b
theorem Zic {a b:Value}(h:ZqN a b=true):a=b:=by
 unfold ZqN at h;split at h
 ·rename_i x y;have:=Zbd h;rw[Array.toList_inj.1 this]
 ·exact Option.some.inj (ZbD h).1
def Zid (P:Program) (kt:TypeId) (k:Value):List Value→Option (Option Value)
 | []=>some none
 | [_]=>none
 | x::v::r=>
  match eqV P 5 kt k x with
  | some true=>some (some v)
  | some false=>Zid P kt k r
  | none=>none
def ZpA (P:Program) (kt:TypeId) (k:Value) (L:List Value) (v:Value):Bool:=
 match Zid P kt k L with
 | some (some u)=>ZqN u v
 | _=>false
def ZgR (P:Program) (kt:TypeId) (k:Value) (L:List Value):Bool:=
 match Zid P kt k L with
 | some none=>true
 | _=>false
def Zuv:List Value→Bool
 | .int .i64 n::r=>decide (0≤n) && Nat.beq r.length (2*n.toNat) && r.all (lt1 0)
 | _=>false
theorem ZgS:∀ es:List MapEntry,(Zcn es).length=2*es.length
 | []=>rfl
 | e::es=>by
  have:=ZgS es;unfold Zcn at*;rw[List.flatMap_cons,List.length_append,this];simp;omega
theorem Zj8 {m:Mp}{w:World}{g:Nat}{L:List Value}(h:mapAt w g (L.map (mv1 m))) (hm:Zuv L=true):∃ es ck,w.heap[g]? =some (.map es ck)∧L=ZbO es:=by
 obtain⟨es,ck,r,h1,h2⟩:=h;refine⟨es,ck,h1,?_⟩;unfold Zuv at hm;split at hm
 ·rename_i n t;simp only[Xh,Xi,List.all_eq_true] at hm;obtain⟨⟨a1,a2⟩,a3⟩:=hm;have a2:=Xj a2;have e1:(Value.int .i64 n::t).map (mv1 m)=Value.int .i64 n::t:=by
   rw[List.map_cons,(List.map_congr_left fun v hv=>ZX (a3 v hv)).trans (List.map_id' _)];rfl
  rw[e1] at h2;unfold ZbO at h2 ⊢;rw[List.cons_append] at h2
  injection h2 with h3 h4
  injection h3 with _ h5
  have l:=ZgS es.toList;have l2:=congrArg List.length h4;rw[l,List.length_append,a2,Array.length_toList] at l2;have:r=[]:=List.length_eq_zero_iff.1 (by omega);rw[this,List.append_nil] at h4;rw[h4,← h5]
 ·cases hm
theorem Zj9 {P:Program}{kt:TypeId}{k:Value}(w:World):∀ (es:List MapEntry) (i:Nat) (r:Option Value),Zid P kt k (Zcn es)=some r→∃ q,(Instr.findAsking kt k es i).run P w= .ok q w∧q.map (·.2)=r
 | [],i,r,h=>by
  cases h;exact⟨none,rfl,rfl⟩
 | e::es,i,r,h=>by
  have e1:Zcn (e::es)=e.key::e.val::Zcn es:=by
   unfold Zcn;rw[List.flatMap_cons];rfl
  rw[e1] at h;unfold Zid at h;have eq:∀ b,eqV P 5 kt k e.key=some b→(Op.equal kt k e.key).run P w= .ok b w:=fun b hb=>Zdl w 9995 5 kt k e.key b hb;split at h
  ·rename_i hb;cases h;exact⟨some (i,e.val),by simp [Instr.findAsking,eq _ hb],rfl⟩
  ·rename_i hb;obtain⟨q,h1,h2⟩:=Zj9 w es (i+1) r h;exact⟨q,by simp [Instr.findAsking,eq _ hb,h1],h2⟩
  ·cases h
theorem ZcM {P:Program}{kt:TypeId}{k:Value}{fs:Array Field}(hu:P.underlying kt=some (.struct fs)) (w:World) {es:List MapEntry}{r:Option Value}(h:Zid P kt k (Zcn es)=some r):∃ q,(Instr.findKey kt k es).run P w= .ok q w∧q.map (·.2)=r:=by
 cases es with
 | nil=>
  cases h;exact⟨none,by simp [Instr.findKey,run_underlying hu,Instr.findNow],rfl⟩
 | cons e es=>
  obtain⟨q,h1,h2⟩:=Zj9 w (e::es) 0 r h;exact⟨q,by simp [Instr.findKey,run_underlying hu,Instr.findNow,Instr.sameNow,h1],h2⟩
def ZmJ (P:Program) (kt:TypeId) (k:Value):Bool:=
 match P.underlying kt with
 | some (.struct _)=>lt 0 k && (ZgH P (Instr.checkKey true 10000 kt k)).isSome && (ZgH P (Instr.checkKey false 10000 kt k)).isSome
 | _=>false
theorem ZdV {P:Program}{kt:TypeId}{k:Value}(h:ZmJ P kt k=true):(∃ fs,P.underlying kt=some (.struct fs))∧lt 0 k=true∧∀ b w,(Instr.checkKey b 10000 kt k).run P w= .ok () w:=by
 unfold ZmJ at h;split at h
 ·rename_i fs hu;simp only[Xh] at h;refine⟨⟨fs,hu⟩,h.1.1,fun b w=> ?_⟩;cases b
  ·obtain⟨u,hu⟩:=Option.isSome_iff_exists.1 h.2;exact ZaL hu w
  ·obtain⟨u,hu⟩:=Option.isSome_iff_exists.1 h.1.2;exact ZaL hu w
 ·cases h
theorem Zb0:Nat.beq mpT fmT=false∧Nat.beq obT fmT=false∧Nat.beq fmT fmT=true:=by decide
theorem ZcN:ab mpT=true∧spK mpT=true∧ro mpT=true∧Zam mpT=true:=⟨rfl,rfl,rfl,rfl⟩
def mpB (h:Hp) (b:Nat):Option (List Value):=
 match h.blk? b with
 | some x=>if Nat.beq x.2 mpT=true then some x.1 else none
 | none=>none
theorem ZcO {m:Mp}{B:Nat}{h:Hp}{w:World}(E:Emb m B h w) {b:Nat}{L:List Value}(hb:mpB h b=some L):h.blk? b=some (L,mpT)∧B≤(m b).1∧mapAt w (m b).1 (L.map (mv1 m)):=by
 unfold mpB at hb;split at hb
 ·rename_i x hx;split at hb
  ·rename_i he;cases hb;have he:=Xj he;obtain⟨l,e⟩:=x;simp only at he;subst he;have A:=(E.abs b _ hx ZcN.1).2 ZcN.2.1;exact⟨hx,(A.1.1 rfl).1,(A.1.1 rfl).2⟩
  ·cases hb
 ·cases hb
def ZqO (P:Program) (ty:TypeId) (x k:Value) (h:Hp) (s:List Dec):Zdh:=
 match P.underlying ty with
 | some (.map kt e)=>
  match P.info? e with
  | some i=>
   match i.zero with
   | some z=>
    if (ZmJ P kt k && noT z && lt 0 z)=true then
     match x with
     | .map none=>some (.tuple #[z,.bool false],h,s,[])
     | .map (some b)=>
      match mpB h b,s with
      | some L,.inr (.inr (.inr (.inl true))):: .inr (.inr (.inr (.inr (.inr v))))::s'=>if (lt 0 v && noT v)=true then some (.tuple #[v,.bool true],h,s',[(Zuv L && ZpA P kt k L.tail v,true)]) else none
      | some L,.inr (.inr (.inr (.inl false)))::s'=>some (.tuple #[z,.bool false],h,s',[(Zuv L && ZgR P kt k L.tail,true)])
      | _,_=>none
     | _=>none
    else none
   | none=>none
  | none=>none
 | _=>none
theorem ZbE {m:Mp}{v:Value}{b:Bool}(hT:noT v=true) (hv:lt 0 v=true):mv m (.tuple #[v,.bool b])= .tuple #[v,.bool b]∧∀ n,lt n (.tuple #[v,.bool b])=true:=by
 have e2:lt2 0 v=true:=by cases v<;>simp_all [lt,noT]
 refine⟨?_,fun n=> ?_⟩
 ·have:mv2 m v=v:=Zda e2;simp only[mv,List.map_toArray,List.map_cons,List.map_nil,this];rfl
 ·have:=Zes (Nat.zero_le n) e2;show (lt2 n v && (true && true))=true;rw[this];rfl
theorem ZjA {m:Mp}{B:Nat}{P:Program}{ty:TypeId}{x k v:Value}{h h':Hp}{s s':List Dec}{lg:Log}{w:World}(E:Emb m B h w) (hs:ZqO P ty x k h s=some (v,h',s',lg)) (hlg:Zx lg):
  (Instr.lookup ty (mv m x) (mv m k) true).run P w= .ok (mv m v) w∧h'=h∧lt h.n v=true:=by
 unfold ZqO at hs;split at hs
 ·rename_i kt e hu;split at hs
  ·rename_i i hi;split at hs
   ·rename_i z hz;split at hs
    ·rename_i hc;simp only[Xh] at hc;obtain⟨⟨c1,c2⟩,c3⟩:=hc;obtain⟨⟨fs,hfs⟩,k1,k2⟩:=ZdV c1;rw[Z9 k1];have hzv:(zeroValue e).run P w= .ok z w:=by simp [zeroValue,typeInfo,hi,hz]
     split at hs
     ·cases hs;obtain⟨t1,t2⟩:=ZbE (m:=m) (b:=false) c2 c3;refine⟨?_,rfl,t2 _⟩;rw[t1];obtain⟨q,q1,q2⟩:=ZcM (k:=k) hfs w (es:=[]) (r:=none) rfl;cases q with
      | some _=>cases q2
      | none=>simp [Instr.lookup,run_underlying hu,mv,mv2,mv1,k2,q1,hzv,Result.andThen]
     ·rename_i b;split at hs
      ·rename_i L v' s2 hb;split at hs
       ·rename_i hv;cases hs;simp only[Xh] at hv;have h1:=hlg _ Xf;simp only[Xh] at h1;obtain⟨t1,t2⟩:=ZbE (m:=m) (b:=true) hv.2 hv.1;refine⟨?_,rfl,t2 _⟩;rw[t1];obtain⟨_,_,A⟩:=ZcO E hb;obtain⟨es,ck,e1,rfl⟩:=Zj8 A h1.1;have h2:=h1.2;unfold ZpA at h2;split at h2
        ·rename_i u hl;have:=Zic h2;subst this;obtain⟨q,q1,q2⟩:=ZcM hfs w hl;cases q with
         | none=>cases q2
         | some q=>
          obtain rfl:=Option.some.inj q2;simp [Instr.lookup,run_underlying hu,mv,mv2,mv1,MapKept.run_getObj_map e1,k2,q1,Result.andThen]
        ·cases h2
       ·cases hs
      ·rename_i L s2 hb;cases hs;have h1:=hlg _ Xf;simp only[Xh] at h1;obtain⟨t1,t2⟩:=ZbE (m:=m) (b:=false) c2 c3;refine⟨?_,rfl,t2 _⟩;rw[t1];obtain⟨_,_,A⟩:=ZcO E hb;obtain⟨es,ck,e1,rfl⟩:=Zj8 A h1.1;have h2:=h1.2;unfold ZgR at h2;split at h2
       ·rename_i hl;obtain⟨q,q1,q2⟩:=ZcM hfs w hl;cases q with
        | some q=>cases q2
        | none=>simp [Instr.lookup,run_underlying hu,mv,mv2,mv1,MapKept.run_getObj_map e1,k2,q1,hzv,Result.andThen]
       ·cases h2
      ·cases hs
     ·cases hs
    ·cases hs
   ·cases hs
  ·cases hs
 ·cases hs
theorem ZgT {es:Array MapEntry}{ck:Nat}:ZuA (some (.map es ck)):=by
 first
 | exact trivial
 | (intro c e z hz;cases hz)
def ZfW (h:Hp):Value×Hp:=(.map (some h.n),h.push [.int .i64 0] mpT)
theorem Emb.pushM {m:Mp}{B:Nat}{h:Hp}{w:World}(E:Emb m B h w) (hn:∀ b x,h.blk? b=some x→spK x.2=true→x.2=fmT):Emb (upd m h.n (w.heap.size,0)) B (h.push [.int .i64 0] mpT) (w.alloc (.map #[] 0)):=by
 obtain⟨ma,ms,mr,mt⟩:=ZcN;have blk:=fun b=>Hp.blk_push (h:=h) (cs:=[.int .i64 0]) (e:=mpT) (b:=b) E.len;have ag:=Z7 m h.n (w.heap.size,0);have hk:∀ k,k<w.heap.size→(w.alloc (.map #[] 0)).heap[k]? =w.heap[k]? :=fun k hk=>zP _ _ _ (Nat.ne_of_lt hk);have hsz:w.heap.size≤(w.alloc (.map #[] 0)).heap.size:=by rw[zW];omega
 refine⟨by simp [Hp.push,E.len],fun b x hb hx=> ?_,fun b x hb hx=> ?_,fun b x hb hx hr=> ?_,fun b b' x x' hb hb' hx hx' he=> ?_,fun b x hb v hv=> ?_,Nat.le_trans E.base hsz,fun k h1 h2=> ?_,fun b x hb hx=> ?_⟩
 ·rw[blk] at hb;split at hb
  ·cases hb;rw[mt] at hx;cases hx
  ·rw[ag b (Hp.blk_lt hb),zi ag (E.wf b x hb)];exact (E.lies b x hb hx).congr (hk _ (E.here hb hx))
 ·rw[blk] at hb;split at hb
  ·cases hb;rw[mr] at hx;cases hx
  ·rw[ag b (Hp.blk_lt hb)];exact E.low b x hb hx
 ·rw[blk] at hb;split at hb
  ·cases hb;rw[mt] at hx;cases hx
  ·rw[ag b (Hp.blk_lt hb)];exact E.ros b x hb hx hr
 ·rw[blk] at hb hb';split at hb
  ·cases hb;rw[mr] at hx;cases hx
  ·split at hb'
   ·cases hb';rw[mr] at hx';cases hx'
   ·rw[ag b (Hp.blk_lt hb),ag b' (Hp.blk_lt hb')] at he;exact E.inj b b' x x' hb hb' hx hx' he
 ·rw[blk] at hb;split at hb
  ·cases hb;rw[List.mem_singleton.1 hv];rfl
  ·exact ZI (Nat.le_succ _) (E.wf b x hb v hv)
 ·rw[zW] at h2;by_cases h3:k=w.heap.size
  ·subst h3;rw[Zan];exact ZgT
  ·rw[zP _ _ _ h3];exact E.ice k h1 (by omega)
 ·rw[blk] at hb;split at hb
  ·rename_i hbn;cases hb;refine⟨fun hs=>absurd (ms.symm.trans hs) (by decide),fun _=> ?_⟩;rw[hbn,show upd m h.n (w.heap.size,0) h.n=(w.heap.size,0) by simp [upd]];refine⟨⟨fun _=>⟨E.base,#[],0,[],Zan _ _,rfl⟩,fun he=>absurd (show mpT=obT from he) (by decide),fun he=>absurd (show mpT=fmT from he) (by decide),fun _=>by rw[zW];exact Nat.lt_succ_self _⟩,fun c y hc hy hf=> ?_,fun c y hc hy hq=> ?_⟩
   ·rw[blk] at hc;split at hc
    ·cases hc;rw[mr] at hy;cases hy
    ·rw[ag c (Hp.blk_lt hc)] at hf;have:=E.here hc (zo hy);rcases hf with ⟨_,hf⟩ | ⟨hf,_⟩
     ·omega
     ·exact absurd (show mpT=fmT from hf) (by decide)
   ·rw[blk] at hc;split at hc
    ·rename_i hcn;rw[hcn]
    ·rw[hn c y hc hy,Zb0.2.2] at hq;cases hq.trans Zb0.1
  ·have A:=E.abs b x hb hx;have ec:=zi ag (E.wf b x hb);have eb:=ag b (Hp.blk_lt hb);refine⟨fun hs=> ?_,fun hs=> ?_⟩
   ·obtain⟨k1,k2⟩:=A.1 hs;rw[ec];exact⟨k1,k2.congr (hk _ (Nat.lt_of_lt_of_le k1 E.base))⟩
   ·obtain⟨k2,k3,k4⟩:=A.2 hs;rw[ec,eb];refine⟨k2.heap hsz hk,fun c y hc hy=> ?_,fun c y hc hy hq=> ?_⟩
    ·rw[blk] at hc;split at hc
     ·cases hc;rw[mr] at hy;cases hy
     ·rw[ag c (Hp.blk_lt hc)];exact k3 c y hc hy
    ·rw[blk] at hc;split at hc
     ·cases hc;rw[hn b x hb hs] at hq;exact absurd hq (by decide)
     ·exact k4 c y hc hy hq
theorem ZjB {m:Mp}{B:Nat}{P:Program}{ty:TypeId}{h:Hp}{w:World}(E:Emb m B h w) (hn:(h.l.all fun x=> !(spK x.2) || Nat.beq x.2 fmT)=true):
  ∃ m' w',(Instr.makeMap ty none).run P w= .ok (mv m' (ZfW h).1) w'∧Came m B h w (ZfW h).1 (ZfW h).2 m' w':=by
 have E':=E.pushM (fun b x hb hs=>by
  unfold Hp.blk? at hb;split at hb
  ·have:=List.all_eq_true.1 hn x (List.mem_of_getElem? hb);rw[hs] at this;exact Xj this
  ·cases hb)
 refine⟨_,_,?_,⟨Z7 _ _ _,E',(Below.refl _ _).alloc E.base _,Nat.le_succ _,Zk.2 (Nat.lt_succ_self _)⟩⟩;have e:mv (upd m h.n (w.heap.size,0)) (ZfW h).1= .map (some w.heap.size):=by
  simp [ZfW,mv,mv2,mv1,upd]
 rw[e];rfl
def ZmK (k v:Value):List Value→List Value
 | .int .i64 n::r=> .int .i64 (n+1)::(r++[k,v])
 | l=>l
def Zfl (w:World) (g:Nat) (o:Obj):World:={w with heap:=w.heap.setIfInBounds g o}
theorem Zb1 (w:World) (g:Nat) (o:Obj):(Zfl w g o).heap.size=w.heap.size:=by simp [Zfl]
theorem ZgU {w:World}{g:Nat}(o:Obj) (h:g<w.heap.size):(Zfl w g o).heap[g]? =some o:=by simp [Zfl,h]
theorem ZbT (w:World) {g k:Nat}(o:Obj) (h:k≠g):(Zfl w g o).heap[k]? =w.heap[k]? :=by
 simp only[Zfl];rw[Array.getElem?_setIfInBounds_ne (Ne.symm h)]
theorem Emb.putM {m:Mp}{B:Nat}{h:Hp}{w:World}(E:Emb m B h w) {b:Nat}{L L':List Value}(hb:h.blk? b=some (L,mpT)) {es es':Array MapEntry}{ck ck':Nat}(hg:w.heap[(m b).1]? =some (.map es ck)) (hL:L'.map (mv1 m)=ZbO es') (hwf:∀ v∈L',lt1 h.n v=true):
  Emb m B (h.put b (L',mpT)) (Zfl w (m b).1 (.map es' ck'))∧Below B w (Zfl w (m b).1 (.map es' ck')):=by
 obtain⟨ma,ms,mr,mt⟩:=ZcN;have A:=(E.abs b _ hb ma).2 ms;have blk:=fun c=>Hp.blk_put (h:=h) (b:=b) (x:=(L',mpT)) (c:=c) E.len (Hp.blk_lt hb);have hlt:=(Array.getElem?_eq_some_iff.1 hg).1;have nc:∀ {k:Nat}{c:Array Value}{t:TypeId}{z:Nat×Nat},w.heap[k]? =some (.cells c t z)→k≠(m b).1:=by
  rintro k c t z h1 rfl;rw[hg] at h1;cases h1
 refine⟨⟨by simp [Hp.put,E.len],fun c x hc hx=> ?_,fun c x hc hx=> ?_,fun c x hc hx hr=> ?_,fun c c' x x' hc hc' hx hx' he=> ?_,fun c x hc v hv=> ?_,by rw[Zb1];exact E.base,fun k h1 h2=> ?_,fun c x hc hx=> ?_⟩,⟨rfl,rfl,rfl,by rw[Zb1];exact Nat.le_refl _,fun k hk=>ZbT _ _ (by have:=(A.1.1 rfl).1;omega)⟩⟩
 ·rw[blk] at hc;split at hc
  ·cases hc;rw[mt] at hx;cases hx
  ·have l:=E.lies c x hc hx;obtain⟨r,z,_,h2,_⟩:=l;exact (E.lies c x hc hx).congr (ZbT _ _ (nc h2))
 ·rw[blk] at hc;split at hc
  ·cases hc;rw[mr] at hx;cases hx
  ·exact E.low c x hc hx
 ·rw[blk] at hc;split at hc
  ·cases hc;rw[mt] at hx;cases hx
  ·exact E.ros c x hc hx hr
 ·rw[blk] at hc hc';split at hc
  ·cases hc;rw[mr] at hx;cases hx
  ·split at hc'
   ·cases hc';rw[mr] at hx';cases hx'
   ·exact E.inj c c' x x' hc hc' hx hx' he
 ·rw[blk] at hc;split at hc
  ·cases hc;exact hwf v hv
  ·exact E.wf c x hc v hv
 ·rw[Zb1] at h2;by_cases h3:k=(m b).1
  ·rw[h3,ZgU _ hlt];exact ZgT
  ·rw[ZbT _ _ h3];exact E.ice k h1 h2
 ·rw[blk] at hc;split at hc
  ·rename_i hcb;cases hc;refine⟨fun hs=>absurd (ms.symm.trans hs) (by decide),fun _=> ?_⟩;rw[hcb];refine⟨⟨fun _=>⟨(A.1.1 rfl).1,es',ck',[],ZgU _ hlt,by rw[hL,List.append_nil]⟩,fun he=>absurd (show mpT=obT from he) (by decide),fun he=>absurd (show mpT=fmT from he) (by decide),fun _=>by rw[Zb1];exact hlt⟩,fun d y hd hy hf=> ?_,fun d y hd hy hq=> ?_⟩
   ·rw[blk] at hd;split at hd
    ·cases hd;rw[mr] at hy;cases hy
    ·refine A.2.1 d y hd hy ?_;rcases hf with hf | ⟨hf,_⟩
     ·exact .inl hf
     ·exact absurd (show mpT=fmT from hf) (by decide)
   ·rw[blk] at hd;split at hd
    ·rename_i hdb;exact hdb
    ·exact A.2.2 d y hd hy hq
  ·rename_i hcb;have C:=E.abs c x hc hx;refine⟨fun hs=> ?_,fun hs=> ?_⟩
   ·obtain⟨c1,r,t,z,c2,c3⟩:=C.1 hs;exact⟨c1,r,t,z,by rw[ZbT _ _ (nc c2)];exact c2,c3⟩
   ·obtain⟨k2,k3,k4⟩:=C.2 hs;have hfm:x.2=fmT:=by
     rcases Zdc hs with h1 | h1 | h1
     ·exact absurd (A.2.2 c x hc hs (by rw[h1])) hcb
     ·exact absurd (A.2.2 c x hc hs (by rw[h1,Zb0.2.1];exact Zb0.1.symm)) hcb
     ·exact h1
    refine⟨⟨fun he=>absurd (hfm.symm.trans he) (by decide),fun he=>absurd (hfm.symm.trans he) (by decide),fun he v hv k t cs hf=> ?_,fun he=>absurd hfm he⟩,fun d y hd hy=> ?_,fun d y hd hy hq=> ?_⟩
    ·have:=k2.2.2.1 he v hv k t cs hf;rw[ZbT _ _ (nc this)];exact this
    ·rw[blk] at hd;split at hd
     ·cases hd;rw[mr] at hy;cases hy
     ·exact k3 d y hd hy
    ·rw[blk] at hd;split at hd
     ·cases hd;rw[hfm,Zb0.2.2] at hq;cases hq.symm.trans Zb0.1
     ·exact k4 d y hd hy hq
def Zzk (P:Program) (ty:TypeId) (x k v:Value) (h:Hp) (s:List Dec):Zdh:=
 match P.underlying ty with
 | some (.map kt _)=>
  if (ZmJ P kt k && lt 0 v && noT v && noT k && lt1 0 v && lt1 0 k)=true then
   match x with
   | .map (some b)=>
    match mpB h b,s with
    | some L,.inr (.inr (.inr (.inl false)))::s'=>some (undef,h.put b (ZmK k v L,mpT),s',[(Zuv L && ZgR P kt k L.tail,true)])
    | _,_=>none
   | _=>none
  else none
 | _=>none
theorem Zez (a b:List MapEntry):Zcn (a++b)=Zcn a++Zcn b:=List.flatMap_append ..
theorem ZmL {m:Mp}{B:Nat}{P:Program}{ty:TypeId}{x k u v:Value}{h h':Hp}{s s':List Dec}{lg:Log}{w:World}(E:Emb m B h w) (hs:Zzk P ty x k u h s=some (v,h',s',lg)) (hlg:Zx lg):
  ∃ w',(Instr.mapUpdate ty (mv m x) (mv m k) (mv m u)).run P w= .ok () w'∧v=undef∧Emb m B h' w'∧Below B w w'∧h'.n=h.n:=by
 unfold Zzk at hs;split at hs
 ·rename_i kt et hu;split at hs
  ·rename_i hc;simp only[Xh] at hc;obtain⟨⟨⟨⟨⟨c1,c2⟩,c3⟩,c4⟩,c5⟩,c6⟩:=hc;obtain⟨⟨fs,hfs⟩,k1,k2⟩:=ZdV c1;rw[Z9 k1,Z9 c2];split at hs
   ·rename_i b;split at hs
    ·rename_i L s2 hb;cases hs;have h1:=hlg _ Xf;simp only[Xh] at h1;obtain⟨hx,hB,A⟩:=ZcO E hb;obtain⟨es,ck,e1,rfl⟩:=Zj8 A h1.1;have h2:=h1.2;unfold ZgR at h2;split at h2
     ·rename_i hl;obtain⟨q,q1,q2⟩:=ZcM hfs w hl;cases q with
      | some q=>cases q2
      | none=>
       have hm:=h1.1;unfold Zuv ZbO at hm;simp only[Xh,List.all_eq_true] at hm;have hall:=hm.2;have eb:ZmK k u (ZbO es)=ZbO (es.push {key:=k,val:=u,born:=ck}):=by
        unfold ZbO ZmK;simp only[Array.size_push,Array.toList_push,Zez];rfl
       have hE:(ZmK k u (ZbO es)).map (mv1 m)=ZbO (es.push {key:=k,val:=u,born:=ck}):=by
        rw[eb];unfold ZbO;rw[Array.toList_push,Zez];rw[List.map_cons,List.map_append,(List.map_congr_left fun v hv=>ZX (hall v hv)).trans (List.map_id' _)];show _::(Zcn es.toList++[mv1 m k,mv1 m u])=_;rw[ZX c6,ZX c5];rfl
       obtain⟨E',hb'⟩:=E.putM hx e1 (ck':=ck+1) hE (fun v hv=>by
        rw[eb] at hv;unfold ZbO at hv;rw[Array.toList_push,Zez] at hv;rcases List.mem_cons.1 hv with rfl | hv
        ·rfl
        ·rcases List.mem_append.1 hv with hv | hv
         ·exact ZI (Nat.zero_le _) (hall v hv)
         ·have:v=k∨v=u:=by simpa [Zcn] using hv
          rcases this with rfl | rfl
          ·exact ZI (Nat.zero_le _) c6
          ·exact ZI (Nat.zero_le _) c5)
       refine⟨_,?_,rfl,E',hb',rfl⟩;simp [Instr.mapUpdate,run_underlying hu,mv,mv2,mv1,MapKept.run_getObj_map e1,k2,q1,Result.andThen,MapKept.run_setObj_map _ e1];rfl
     ·cases h2
    ·cases hs
   ·cases hs
  ·cases hs
 ·cases hs
def Zzl (P:Program) (ty:TypeId) (x:Value) (h:Hp):Option Value:=
 match P.underlying ty,x with
 | some (.map _ _),.map none=>some (.int .i64 0)
 | some (.map _ _),.map (some b)=>
  match mpB h b with
  | some (.int .i64 n::_)=>some (.int .i64 n)
  | _=>none
 | _,_=>none
theorem ZmM {m:Mp}{B:Nat}{P:Program}{ty rty:TypeId}{x v:Value}{h:Hp}{w:World}(E:Emb m B h w) (hs:Zzl P ty x h=some v):(Builtin.len_ #[ty] rty #[mv m x]).run P w= .ok (mv m v) w∧lt h.n v=true:=by
 unfold Zzl at hs;split at hs
 ·rename_i hu;cases hs;exact⟨by simp [Builtin.len_,run_underlying hu,mv,mv2,mv1,goInt],rfl⟩
 ·rename_i b hu;split at hs
  ·rename_i n r hb;cases hs;obtain⟨_,_,A⟩:=ZcO E hb;obtain⟨es,ck,r',e1,e2⟩:=A;have e3:Value.int .i64 (es.size:Nat)=Value.int .i64 n:=by
    unfold ZbO at e2;rw[List.map_cons,List.cons_append] at e2;exact (List.cons.inj e2).1
   refine⟨?_,rfl⟩;rw[← e3];simp [Builtin.len_,run_underlying hu,mv,mv2,mv1,MapKept.run_getObj_map e1,Result.andThen,goInt]
  ·cases hs
 ·cases hs
def Zn (P:Program) (op:BinOp) (ty:TypeId) (x y:Value):Option Bool:=
 match P.underlying ty,x,y,op with
 | some (.pointer _),.pointer (some _),.pointer none,.eql=>some false
 | some (.pointer _),.pointer (some _),.pointer none,.neq=>some true
 | some (.map _ _),.map (some _),.map none,.eql=>some false
 | some (.map _ _),.map (some _),.map none,.neq=>some true
 | some (.slice _),.slice (some _) _ _,.slice none _ _,.eql=>some false
 | some (.slice _),.slice (some _) _ _,.slice none _ _,.neq=>some true
 | _,_,_,_=>none
theorem Zcq {P:Program}{op:BinOp}{ty:TypeId}{x y:Value}{b c:Bool}(hg:∀ xo yo,eqGuard op ty xo yo x y=pure ()) (hb:binOp op ty x y=(do pure (.bool ((← Op.equalIn (9999+1) ty x y) !=c)))) {w:World}(he:(Op.equalIn (9999+1) ty x y).run P w= .ok b w) (xo yo:Operand):
  (do eqGuard op ty xo yo x y;binOp op ty x y:Sem Value).run P w= .ok (.bool (b !=c)) w:=by
 rw[hg,hb];simp [he]
theorem ZmN {P:Program}{op:BinOp}{ty:TypeId}{x y:Value}{b:Bool}(hs:Zn P op ty x y=some b) (xo yo:Operand) (m:Mp) (w:World):
  (do eqGuard op ty xo yo (mv m x) (mv m y);binOp op ty (mv m x) (mv m y):Sem Value).run P w= .ok (.bool b) w:=by
 unfold Zn at hs;split at hs
 ·rename_i hu;cases hs;exact Zcq (b:=false) (c:=false) (fun _ _=>rfl) (by show (do pure (Value.bool (← Op.equal ty _ _)))=_;simp [Op.equal,Op.maxDepth,mv,mv2,mv1]) (by unfold Op.equalIn;simp [run_underlying hu,mv,mv2,mv1]) xo yo
 ·rename_i hu;cases hs;exact Zcq (b:=false) (c:=true) (fun _ _=>rfl) (by show (do pure (Value.bool (!(← Op.equal ty _ _))))=_;simp [Op.equal,Op.maxDepth,mv,mv2,mv1]) (by unfold Op.equalIn;simp [run_underlying hu,mv,mv2,mv1]) xo yo
 ·rename_i hu;cases hs;exact Zcq (b:=false) (c:=false) (fun _ _=>rfl) (by show (do pure (Value.bool (← Op.equal ty _ _)))=_;simp [Op.equal,Op.maxDepth,mv,mv2,mv1]) (by unfold Op.equalIn;simp [run_underlying hu,mv,mv2,mv1]) xo yo
 ·rename_i hu;cases hs;exact Zcq (b:=false) (c:=true) (fun _ _=>rfl) (by show (do pure (Value.bool (!(← Op.equal ty _ _))))=_;simp [Op.equal,Op.maxDepth,mv,mv2,mv1]) (by unfold Op.equalIn;simp [run_underlying hu,mv,mv2,mv1]) xo yo
 ·rename_i hu;cases hs;exact Zcq (b:=false) (c:=false) (fun _ _=>rfl) (by show (do pure (Value.bool (← Op.equal ty _ _)))=_;simp [Op.equal,Op.maxDepth,mv,mv2,mv1]) (by unfold Op.equalIn;simp [run_underlying hu,mv,mv2,mv1]) xo yo
 ·rename_i hu;cases hs;exact Zcq (b:=false) (c:=true) (fun _ _=>rfl) (by show (do pure (Value.bool (!(← Op.equal ty _ _))))=_;simp [Op.equal,Op.maxDepth,mv,mv2,mv1]) (by unfold Op.equalIn;simp [run_underlying hu,mv,mv2,mv1]) xo yo
 ·cases hs
def Zzm (P:Program) (t:List Value) (h:Hp) (s:List Dec) (o:Oper):Zdh:=
 match o.op with
 | .makeMap _ none=>if (h.l.all fun x=> !(spK x.2) || Nat.beq x.2 fmT)=true then some ((ZfW h).1,(ZfW h).2,s,[]) else none
 | .lookup ty x k true=>if (okX x && okX k)=true then ZqO P ty (ev t x) (ev t k) h s else none
 | .mapUpdate ty x k v=>if (okX x && okX k && okX v)=true then Zzk P ty (ev t x) (ev t k) (ev t v) h s else none
 | .call c=>
  match c.callee,c.args.toList,c.argTypes.toList with
  | .builtin .len,[x],[ty]=>
   if okX x=true then
    match Zzl P ty (ev t x) h with
    | some v=>some (v,h,s,[])
    | none=>none
   else none
  | _,_,_=>none
 | _=>none
theorem ZqP {P:Program}{m:Mp}{B:Nat}{t:List Value}{h h':Hp}{s s':List Dec}{lg:Log}{w:World}{a:Act}{o:Oper}{v:Value}
  (ha:a.tmps=(t.map (mv m)).toArray) (E:Emb m B h w) (hs:Zzm P t h s o=some (v,h',s',lg)) (hlg:Zx lg):Does P m B h w a o v h':=by
 unfold Zzm at hs;split at hs
 ·rename_i ty ho;split at hs
  ·rename_i hn;cases hs;obtain⟨m',w',h1,C⟩:=ZjB (P:=P) (ty:=ty) E hn;refine⟨m',w',_,?_,.inl rfl,C⟩;simp only[execOp,ho,Option.map_none,Sem.run_bind,h1,Result.andThen_ok,Sem.run_pure]
  ·cases hs
 ·rename_i ty x k ho;split at hs
  ·rename_i hx;simp only[Xh] at hx;obtain⟨h1,rfl,h2⟩:=ZjA E hs hlg;refine Does.still E ?_ h2;simp only[execOp,ho,Zr ha hx.1,Zr ha hx.2,Sem.run_bind,h1,Result.andThen_ok,Sem.run_pure]
  ·cases hs
 ·rename_i ty x k u ho;split at hs
  ·rename_i hx;simp only[Xh] at hx;obtain⟨w',h1,rfl,h3,h4,h5⟩:=ZmL E hs hlg;refine⟨m,w',.skip,?_,.inr ⟨rfl,rfl⟩,⟨Agree.refl _ _,h3,h4,by omega,by simp [undef,lt]⟩⟩;simp only[execOp,ho,Zr ha hx.1.1,Zr ha hx.1.2,Zr ha hx.2,Sem.run_bind,h1,Result.andThen_ok,Sem.run_pure]
  ·cases hs
 ·rename_i c ho;split at hs
  ·rename_i x ty hcal hargs htys;split at hs
   ·rename_i hx;split at hs
    ·rename_i u hu;cases hs;obtain⟨callee,args,tys⟩:=c;obtain⟨args⟩:=args;obtain⟨tys⟩:=tys;simp only at hcal hargs htys;subst hcal hargs htys;obtain⟨h1,h2⟩:=ZmM (P:=P) (rty:=o.type) E hu;refine Does.still E ?_ h2;simp [execOp,ho,resolve,invoke,builtin,Zr ha hx,h1]
    ·cases hs
   ·cases hs
  ·cases hs
 ·cases hs
def Zzn (P:Program) (t:List Value) (h:Hp) (s:List Dec) (o:Oper):Zdh:=
 match Zzj P t h s o with
 | some r=>some r
 | none=>Zzm P t h s o
theorem ZqQ {P:Program}{m:Mp}{B:Nat}{t:List Value}{h h':Hp}{s s':List Dec}{lg:Log}{w:World}{a:Act}{o:Oper}{v:Value}
  (ha:a.tmps=(t.map (mv m)).toArray) (E:Emb m B h w) (ht:∀ v∈t,lt h.n v=true) (hs:Zzn P t h s o=some (v,h',s',lg)) (hlg:Zx lg):Does P m B h w a o v h':=by
 unfold Zzn at hs;split at hs
 ·rename_i r hr;cases hs;exact ZqM ha E ht hr hlg
 ·exact ZqP ha E hs hlg
def Zm4 (P:Program) (t:List Value) (s:List Dec) (o:Oper):Option (Value×List Dec×Log):=
 if (o.op.operands.toList.all fun x=>okX x && lt 0 (ev t x))=true then
  match ZgH P (execOp (ev t) o) with
  | some (.value v)=>if lt 0 v=true then some (v,s,[]) else none
  | _=>none
 else none
def Z2x (P:Program) (t:List Value) (c:Call):Option Value:=
 match c.callee,c.args.toList,c.argTypes.toList with
 | .builtin .len,[x],[ty]=>
  if okX x=true then
   match P.underlying ty,ev t x with
   | some (.slice _),.slice _ n _=>some (goInt n)
   | _,_=>none
  else none
 | _,_,_=>none
def ZpB (op:BinOp) (x y:Value):Option (Value×Log):=
 match op,x,y with
 | .shl,.int k a,.int _ b=>some (.int k (k.wrap (a*2^min b.toNat k.bits)),[(decide (b<0),false)])
 | .shr,.int k a,.int _ b=>some (.int k (a.fdiv (2^min b.toNat k.bits)),[(decide (b<0),false)])
 | _,_,_=>none
def ZuL (op:BinOp) (x y:Value):List Dec→Option (Value×List Dec×Log)
 | .inr (.inl q)::s=>
  match op,x,y with
  | .quo,.int k a,.int k' b=>if k=k' then some (.int k q,s,[(decide (b=0),false),(decide (k.wrap (a.tdiv b)=q),true)]) else none
  | _,_,_=>none
 | .inr (.inr (.inr (.inl d)))::s=>
  match x,y with
  | .int k a,.int k' b=>
   if k=k' then
    match op with
    | .rem=>some (.int k (a.tmod b),s,[(decide (b=0),false)])
    | .lss=>some (.bool d,s,[(decide (a<b),d)])
    | .leq=>some (.bool d,s,[(decide (a≤b),d)])
    | .gtr=>some (.bool d,s,[(decide (a>b),d)])
    | .geq=>some (.bool d,s,[(decide (a≥b),d)])
    | .eql=>some (.bool d,s,[(a==b,d)])
    | .neq=>some (.bool d,s,[(a !=b,d)])
    | _=>none
   else none
  | _,_=>none
 | _=>none
def Zzo (op:BinOp) (x y:Value):List Dec→Option (Value×List Dec×Log)
 | .inr (.inr (.inl d))::s=>
  match op,x,y with
  | .eql,.string a,.string b=>some (.bool d,s,[(a==b,d)])
  | .neq,.string a,.string b=>some (.bool d,s,[(!(a==b),d)])
  | .add,.string a,.string b=>some (.string ⟨(a.data.toList++b.data.toList).toArray⟩,s,[(decide (a.data.toList.length+b.data.toList.length≤9223372036854775807),true)])
  | _,_,_=>none
 | _=>none
def Zzp (P:Program) (ty:TypeId) (x:Value) (lo hi mx:Option Value):List Dec→Option (Value×List Dec×Log)
 | .inr (.inr (.inl _))::s=>
  match P.underlying ty,x,lo,hi,mx with
  | some .string,.string b,some (.int _ i),some (.int _ j),none=>some (.string ⟨((b.data.toList.drop i.toNat).take (j.toNat-i.toNat)).toArray⟩,s,[(decide (0≤i∧i≤j∧j≤(b.data.toList.length:Int)),true)])
  | some .string,.string b,none,some (.int _ j),none=>some (.string ⟨(b.data.toList.take j.toNat).toArray⟩,s,[(decide (0≤j∧j≤(b.data.toList.length:Int)),true)])
  | some .string,.string b,some (.int _ i),none,none=>some (.string ⟨(b.data.toList.drop i.toNat).toArray⟩,s,[(decide (0≤i∧i≤(b.data.toList.length:Int)),true)])
  | _,_,_,_,_=>none
 | _=>none
theorem ZmO {P:Program}{op:BinOp}{x y v:Value}{s s':List Dec}{lg:Log}(h:Zzo op x y s=some (v,s',lg)) (hlg:Zx lg) (ty:TypeId) (xo yo:Operand) (m:Mp) (n:Nat):
  (∀ w,(do eqGuard op ty xo yo (mv m x) (mv m y);binOp op ty (mv m x) (mv m y):Sem Value).run P w= .ok (mv m v) w)∧lt n v=true:=by
 unfold Zzo at h;split at h
 ·split at h
  ·rename_i a b;cases h;have h1:=hlg _ Xf;simp only at h1;refine⟨fun w=> ?_,by simp [lt,lt2,lt1]⟩;rw[← h1];simp [mv,mv2,mv1,eqGuard,binOp,Op.stringOp,beq_toListBytes]
  ·rename_i a b;cases h;have h1:=hlg _ Xf;simp only at h1;refine⟨fun w=> ?_,by simp [lt,lt2,lt1]⟩;rw[← h1];simp [mv,mv2,mv1,eqGuard,binOp,Op.stringOp,beq_toListBytes]
  ·rename_i a b;cases h;have h1:=hlg _ Xf;simp only[Xi] at h1;refine⟨fun w=> ?_,by simp [lt,lt2,lt1]⟩;have h2:a.size+b.size≤9223372036854775807:=h1;have h3:a++b=⟨(a.data.toList++b.data.toList).toArray⟩:=by
    apply ByteArray.ext;simp [ByteArray.data_append]
   simp [mv,mv2,mv1,eqGuard,binOp,run_string_add_sum w a b h2,h3]
  ·cases h
 ·cases h
theorem ZmP {P:Program}{ty:TypeId}{x v:Value}{lo hi mx:Option Value}{s s':List Dec}{lg:Log}(h:Zzp P ty x lo hi mx s=some (v,s',lg)) (hlg:Zx lg) (m:Mp) (n:Nat):
  (∀ w,(Instr.sliceAt ty (mv m x) lo hi mx).run P w= .ok (mv m v) w)∧lt n v=true:=by
 unfold Zzp at h;split at h
 ·split at h
  ·rename_i b k i k' j hu;cases h;have h1:=hlg _ Xf;simp only[Xi] at h1;refine⟨fun w=> ?_,by simp [lt,lt2,lt1]⟩;have h2:b.extract i.toNat j.toNat=⟨((b.data.toList.drop i.toNat).take (j.toNat-i.toNat)).toArray⟩:=by
    have h4:=ByteArray.extract_mk b.data.toList i.toNat j.toNat;simpa using h4
   have h3:(b.data.toList.length:Int)=b.size:=rfl;simp only[mv,mv2,mv1];rw[run_sliceAt_string w ty _ _ _ _ hu,run_slice_string w ty b k k' i j hu h1.1 h1.2.1 (by omega),h2]
  ·rename_i b k j hu;cases h;have h1:=hlg _ Xf;simp only[Xi] at h1;refine⟨fun w=> ?_,by simp [lt,lt2,lt1]⟩;have h2:b.extract 0 j.toNat=⟨(b.data.toList.take j.toNat).toArray⟩:=by
    have h4:=ByteArray.extract_mk b.data.toList 0 j.toNat;simpa using h4
   have h3:(b.data.toList.length:Int)=b.size:=rfl;simp only[mv,mv2,mv1];rw[run_sliceAt_string w ty _ _ _ _ hu,run_slice_string_to_if w ty b k j hu,if_pos ⟨h1.1,by omega⟩,h2]
  ·rename_i b k i hu;cases h;have h1:=hlg _ Xf;simp only[Xi] at h1;refine⟨fun w=> ?_,by simp [lt,lt2,lt1]⟩;have h2:b.extract i.toNat b.size=⟨(b.data.toList.drop i.toNat).toArray⟩:=by
    have h4:=ByteArray.extract_mk b.data.toList i.toNat b.size;have h5:(b.data.toList.drop i.toNat).take (b.size-i.toNat)=b.data.toList.drop i.toNat:=List.take_of_length_le (by rw[List.length_drop];exact Nat.le_refl _);rw[h5] at h4;simpa using h4
   have h3:(b.data.toList.length:Int)=b.size:=rfl;simp only[mv,mv2,mv1];rw[run_sliceAt_string w ty _ _ _ _ hu,run_slice_string_from_if w ty b k i hu,if_pos ⟨h1.1,by omega⟩,h2]
  ·cases h
 ·cases h
def Z2y (P:Program) (ty:TypeId) (x y:Value):Option (Value×Log):=
 match P.underlying ty,x,y with
 | some .string,.string b,.int _ i=>some (.int .u8 ((b.data.toList.getD i.toNat 0).toNat:Int),[(decide (0≤i∧i.toNat<b.data.toList.length),true)])
 | _,_,_=>none
def eqL:List Value→List Value→Option Bool
 | [],[]=>some true
 | .int k a::xs,.int k' b::ys=>
  if k=k' then
   match eqL xs ys with
   | some r=>some (a==b && r)
   | none=>none
  else none
 | _,_=>none
def Zie (b:Bool):List Dec→Bool×List Dec×Log
 | .inr (.inr (.inl d))::s=>(d,s,[(b,d)])
 | s=>(b,s,[])
theorem ZmQ {b:Bool}{s:List Dec}(h:Zx (Zie b s).2.2):(Zie b s).1=b:=by
 unfold Zie at*;split at h
 ·rename_i d s;exact (h (b,d) Xf).symm
 ·rfl
def eqS (P:Program) (op:BinOp) (ty:TypeId) (x y:Value):Option Bool:=
 match P.underlying ty,x,y with
 | some (.array len elem),.agg xs,.agg ys=>
  match P.underlying elem,P.info? elem with
  | some (.int _),some ie=>
   if (Nat.beq ie.size 1 && Nat.beq xs.size len && !(P.eqGuardType P.depth ty))=true then
    match op,eqL xs.toList ys.toList with
    | .eql,some b=>some b
    | .neq,some b=>some (!b)
    | _,_=>none
   else none
  | _,_=>none
 | some (.struct _),.agg xs,.agg ys=>
  if (!(P.eqGuardType P.depth ty))=true then
   match op,eqV P 5 ty (.agg xs) (.agg ys) with
   | .eql,some b=>some b
   | .neq,some b=>some (!b)
   | _,_=>none
  else none
 | _,_,_=>none
theorem ZfX {P:Program}{e:TypeId}{k0:IntKind}{ie:TypeInfo}(hu:P.underlying e=some (.int k0)) (hi:P.info? e=some ie) (h1:ie.size=1) (d:Nat) (xs ys:Array Value) (w:World):
  ∀ (l1 l2:List Value) (k:Nat) (r:Bool),xs.toList.drop k=l1→ys.toList.drop k=l2→eqL l1 l2=some r→(Op.eqItems (d+1) e (P.cellsOf e) xs ys (List.range' k l1.length)).run P w= .ok r w:=by
 have hc:P.cellsOf e=1:=by simp [Program.cellsOf,hi,h1]
 intro l1
 induction l1 with
 | nil=>
  intro l2 k r _ _ hr;cases l2 with
  | nil=>simp only[eqL] at hr;cases hr;simp [Op.eqItems]
  | cons y l2=>simp [eqL] at hr
 | cons x l1 ih=>
  intro l2 k r hx hy hr;cases l2 with
  | nil=>cases x<;>simp [eqL] at hr
  | cons y l2=>
   unfold eqL at hr;split at hr
   ·rename_i heq _;cases heq
   ·rename_i ka a xs' kb b ys' ex ey;cases ex;cases ey;split at hr
    ·rename_i hk;subst hk;split at hr
     ·rename_i r' hr';cases hr;have hx0:xs[k]? =some (.int ka a):=by
       have:(xs.toList.drop k)[0]? =some (.int ka a):=by rw[hx];rfl
       rw[List.getElem?_drop] at this;simpa using this
      have hy0:ys[k]? =some (.int ka b):=by
       have:(ys.toList.drop k)[0]? =some (.int ka b):=by rw[hy];rfl
       rw[List.getElem?_drop] at this;simpa using this
      have ih':=ih l2 (k+1) r' (by rw[← List.drop_drop,hx];rfl) (by rw[← List.drop_drop,hy];rfl) hr';simp only[List.length_cons,List.range'_succ,Op.eqItems,hc,Nat.mul_one,Sem.run_bind];have hp:∀ (zs:Array Value) (v:Value),zs[k]? =some v→(part e zs k).run P w= .ok v w:=fun zs v hz=>by
       simp [part,isAgg,underlying,hu,hz]
      rw[hp xs _ hx0];simp only[Result.andThen_ok];rw[hp ys _ hy0];simp only[Result.andThen_ok,run_equalIn_int w d e ka k0 a b hu];rw[hc] at ih';cases hab:(a==b)
      ·simp
      ·simp [ih']
     ·cases hr
    ·cases hr
   ·cases hr
theorem ZqR {P:Program}{op:BinOp}{ty:TypeId}{x y:Value}{v:Bool}(hs:eqS P op ty x y=some v) (xo yo:Operand) (w:World):
  (do eqGuard op ty xo yo x y;binOp op ty x y:Sem Value).run P w= .ok (.bool v) w:=by
 unfold eqS at hs;split at hs
 ·rename_i len elem xs ys hu;split at hs
  ·rename_i k0 ie hue hi;split at hs
   ·rename_i hc;simp only[Xh,Bool.not_eq_true'] at hc;obtain⟨⟨hs1,hs2⟩,hg⟩:=hc;have hs1:=Xj hs1;have hs2:=Xj hs2;have key:∀ b,eqL xs.toList ys.toList=some b→(Op.equalIn 10000 ty (.agg xs) (.agg ys)).run P w= .ok b w:=fun b hb=>by
     rw[show (10000:Nat)=9998+1+1 from rfl,run_equalIn_array w (9998+1) xs ys hu hi];have:=ZfX hue hi hs1 9998 xs ys w xs.toList ys.toList 0 b (by simp) (by simp) hb;rw[List.range_eq_range',← hs2];simpa using this
    split at hs
    ·rename_i b hb;cases hs;rw[Sem.run_bind,run_eqGuard_agg w .eql ty xo yo xs ys hg];simp only[Result.andThen_ok];rw[run_eql_struct,key _ hb];rfl
    ·rename_i b hb;cases hs;rw[Sem.run_bind,run_eqGuard_agg w .neq ty xo yo xs ys hg];simp only[Result.andThen_ok];rw[run_neq_struct,key _ hb];rfl
    ·cases hs
   ·cases hs
  ·cases hs
 ·rename_i fs xs ys hu;split at hs
  ·rename_i hg;have hg:P.eqGuardType P.depth ty=false:=by simpa using hg
   split at hs
   ·rename_i b hb;cases hs;rw[Sem.run_bind,run_eqGuard_agg w .eql ty xo yo xs ys hg];simp only[Result.andThen_ok];rw[run_eql_struct,show (10000:Nat)=5+9995 from rfl,Zdl w 9995 5 ty _ _ _ hb];rfl
   ·rename_i b hb;cases hs;rw[Sem.run_bind,run_eqGuard_agg w .neq ty xo yo xs ys hg];simp only[Result.andThen_ok];rw[run_neq_struct,show (10000:Nat)=5+9995 from rfl,Zdl w 9995 5 ty _ _ _ hb];rfl
   ·cases hs
  ·cases hs
 ·cases hs
theorem ZgV (f:Value→Value) (off:Nat):∀ (l:List (Value×Nat)) (cells:Array Value),(l.map fun p=>(f p.1,p.2)).foldl (fun cs (p:Value×Nat)=>cs.setIfInBounds (off+p.2) p.1) (cells.map f)=(l.foldl (fun cs (p:Value×Nat)=>cs.setIfInBounds (off+p.2) p.1) cells).map f
 | [],_=>rfl
 | p::l,cells=>by
  simp only[List.map_cons,List.foldl_cons];rw[← ZgV f off l (cells.setIfInBounds (off+p.2) p.1),Array.map_setIfInBounds]
theorem ZgW (Q:Value→Prop) (off:Nat):∀ (l:List (Value×Nat)) (cells:Array Value),(∀ p∈l,Q p.1)→(∀ c∈cells,Q c)→∀ c∈l.foldl (fun cs (p:Value×Nat)=>cs.setIfInBounds (off+p.2) p.1) cells,Q c
 | [],_,_,h2=>h2
 | p::l,cells,h1,h2=>by
  simp only[List.foldl_cons];refine ZgW Q off l _ (fun q hq=>h1 q (Xd _ hq)) fun c hc=> ?_;rcases Array.mem_or_eq_of_mem_setIfInBounds hc with h | h
  ·exact h2 c h
  ·rw[h];exact h1 p Xe
theorem Zdm (place:Nat→Option (Nat×Nat)) (cells:Array Value) (i:Nat) (v:Value) (rest:List (Nat×Value)):Instr.fill place cells ((i,v)::rest)=
  match place i with
  | none=>none
  | some (off,size)=>if (v.cells.size≠size || off+v.cells.size>cells.size)=true then none else Instr.fill place (v.cells.zipIdx.toList.foldl (fun cs (p:Value×Nat)=>cs.setIfInBounds (off+p.2) p.1) cells) rest:=by
 rw[Instr.fill];cases place i with
 | none=>rfl
 | some q=>
  obtain⟨off,size⟩:=q;simp only[Array.foldl_toList]
theorem Ze0 {f g:Value→Value}{place:Nat→Option (Nat×Nat)}:∀ (ps:List (Nat×Value)) (cells r:Array Value),(∀ p∈ps,(g p.2).cells=p.2.cells.map f)→Instr.fill place cells ps=some r→Instr.fill place (cells.map f) (ps.map fun p=>(p.1,g p.2))=some (r.map f)
 | [],cells,r,_,h=>by
  simp only[Instr.fill] at h;cases h;rfl
 | (i,v)::rest,cells,r,hg,h=>by
  rw[Zdm] at h;rw[List.map_cons,Zdm];cases hp:place i with
  | none=>rw[hp] at h;cases h
  | some q=>
   obtain⟨off,size⟩:=q;rw[hp] at h;have hv:=hg (i,v) Xe;simp only at hv h ⊢;rw[hv,Array.size_map,Array.size_map];split at h
   ·cases h
   ·rename_i hc;rw[if_neg hc];have e:(v.cells.map f).zipIdx.toList=v.cells.zipIdx.toList.map fun p=>(f p.1,p.2):=by
     simp [List.zipIdx_map,Prod.map]
    rw[e,ZgV];exact Ze0 rest _ r (fun p hp=>hg p (Xd _ hp)) h
theorem Ze1 {Q:Value→Prop}{place:Nat→Option (Nat×Nat)}:∀ (ps:List (Nat×Value)) (cells r:Array Value),(∀ p∈ps,∀ c∈p.2.cells,Q c)→(∀ c∈cells,Q c)→Instr.fill place cells ps=some r→∀ c∈r,Q c
 | [],cells,r,_,hc,h=>by
  simp only[Instr.fill] at h;cases h;exact hc
 | (i,v)::rest,cells,r,hg,hc,h=>by
  rw[Zdm] at h;cases hp:place i with
  | none=>rw[hp] at h;cases h
  | some q=>
   obtain⟨off,size⟩:=q;rw[hp] at h;simp only at h;split at h
   ·cases h
   ·refine Ze1 rest _ r (fun p hp=>hg p (Xd _ hp)) (ZgW Q off _ _ (fun p hp=> ?_) hc) h;have hm:p.1∈v.cells:=by
     have h1:=List.mem_map_of_mem (f:=Prod.fst) hp;simp at h1;exact h1
    exact hg (i,v) Xe p.1 hm
def ZjC (P:Program) (ty:TypeId) (zb:List (Nat×Value)):Option (Array Value):=
 match P.info? ty with
 | some it=>
  match it.zero with
  | some z=>if (z.cells.toList.all (lt1 0))=true then P.built ty zb else none
  | none=>none
 | none=>none
theorem Zif {P:Program}{m:Mp}{n:Nat}{ty:TypeId}{ps:List (Nat×Value)}{cs:Array Value}(hs:ZjC P ty ps=some cs) (hT:∀ p∈ps,noT p.2=true) (hl:∀ p∈ps,lt n p.2=true):
  P.built ty (ps.map fun p=>(p.1,mv m p.2))=some (cs.map (mv1 m))∧∀ c∈cs,lt1 n c=true:=by
 unfold ZjC at hs;split at hs
 ·rename_i it hit;split at hs
  ·rename_i z hz;split at hs
   ·rename_i hzl;have hzl:=List.all_eq_true.1 hzl;have ez:z.cells.map (mv1 m)=z.cells:=by
     have:z.cells.map (mv1 m)=z.cells.map id:=Array.map_congr_left fun x hx=>ZX (hzl x (by simpa using hx));rw[this,Array.map_id]
    have hc:∀ p∈ps,(mv m p.2).cells=p.2.cells.map (mv1 m):=fun p hp=>by
     rw[Zet (hT p hp)];generalize p.2=v;cases v<;>first | exact (Zjm (mv1 m) _).symm | (simp [ZD,Value.cells];done)
    have hq:∀ p∈ps,∀ c∈p.2.cells,lt1 n c=true:=fun p hp c hcc=>by
     refine Zeu (hT p hp) (hl p hp) c ?_
     revert hcc
     cases p.2<;>simp [ZD,Value.cells]
    have hz0:∀ c∈z.cells,lt1 n c=true:=fun c hcc=>ZI (Nat.zero_le _) (hzl c (by simpa using hcc));unfold Program.built at hs ⊢;rw[hit] at hs ⊢;cases hu:P.underlying ty with
    | none=>rw[hu] at hs;cases hs
    | some d=>
     rw[hu] at hs;cases d<;>(first | (cases hs;done) | skip)
     case array k e=>
      simp only[hz] at hs ⊢;cases hie:P.info? e with
      | none=>rw[hie] at hs;cases hs
      | some ie=>
       rw[hie] at hs;simp only at hs ⊢;have h1:=Ze0 (g:=mv m) ps z.cells cs hc hs;rw[ez] at h1;exact⟨h1,Ze1 ps z.cells cs hq hz0 hs⟩
     case struct fs=>
      simp only[hz] at hs ⊢;cases hpl:fs.toList.mapM (fun f=>(P.info? f.type).map fun i=>(f.offset,i.size)) with
      | none=>rw[hpl] at hs;cases hs
      | some places=>
       rw[hpl] at hs;simp only at hs ⊢;have h1:=Ze0 (g:=mv m) ps z.cells cs hc hs;rw[ez] at h1;exact⟨h1,Ze1 ps z.cells cs hq hz0 hs⟩
   ·cases hs
  ·cases hs
 ·cases hs
abbrev Zzq:=Option (Value×List Dec×Log)
def ZgX (T:Tab) (t:List Value) (s:List Dec) (o:Oper):Zzq:=
 match o.op with
 | .move x=>if okX x=true then some (ev t x,s,[]) else none
 | .assign x=>if okX x=true then some (ev t x,s,[]) else none
 | .pick c x y=>
  if (okX c && okX x && okX y)=true then
   match ev t c with
   | .bool b=>some ((match (ZbP b s).1 with | true=>ev t x | false=>ev t y),(ZbP b s).2.1,(ZbP b s).2.2)
   | _=>none
  else none
 | .indexAddr ty x i=>
  if (okX x && okX i)=true then
   match s with
   | .inr (.inr (.inr (.inr (.inl _))))::s'=>
    match Zjr T.P ty (ev t x) (ev t i) with
    | some r=>some (r.1,s',r.2)
    | none=>none
   | _=>
    match Zjp T.P ty (ev t x) (ev t i) with
    | some v=>some (v,s,[])
    | none=>none
  else none
 | .nilCheck x=>
  if okX x=true then
   match ev t x with
   | .pointer (some a)=>some (.pointer (some a),s,[])
   | _=>Zm4 T.P t s o
  else none
 | .fieldAddr ty x k=>
  if okX x=true then
   match Zjq T.P ty (ev t x) k with
   | some v=>some (v,s,[])
   | none=>none
  else none
 | .slice ty x lo hi mx=>
  if (okX x && Zc6 lo t && Zc6 hi t && Zc6 mx t)=true then
   match Zzp T.P ty (ev t x) (lo.map (ev t)) (hi.map (ev t)) (mx.map (ev t)) s with
   | some r=>some r
   | none=>
   match ev t x with
   | .string _=>Zm4 T.P t s o
   | _=>
    match Zjt T.P ty (ev t x) (lo.map (ev t)) (hi.map (ev t)) (mx.map (ev t)) with
    | some v=>some (v,s,[])
    | none=>none
  else none
 | .build ty zb=>
  if (zb.toList.all fun p=>okX p.2 && lt 0 (ev t p.2))=true then
   match ZgH T.P (Instr.build ty (zb.toList.map fun p=>(p.1,ev t p.2)).toArray) with
   | some v=>if lt 0 v=true then some (v,s,[]) else none
   | none=>none
  else if (zb.toList.all fun p=>okX p.2 && noT (ev t p.2))=true then
   match ZjC T.P ty (zb.toList.map fun p=>(p.1,ev t p.2)) with
   | some cs=>some (.agg cs,s,[])
   | none=>none
  else none
 | .call c=>
  match Z2x T.P t c with
  | some v=>some (v,s,[])
  | none=>
   match c.callee with
   | .builtin _=>Zm4 T.P t s o
   | _=>none
 | .select _ _=>none
 | .extract x i=>
  if okX x=true then
   match ev t x with
   | .tuple vs=>
    match vs.toList[i]? with
    | some v=>if noT v=true then some (v,s,[]) else none
    | none=>none
   | _=>none
  else none
 | .index bty x y=>
  match T.sym with
  | true=>
   match (if (okX x && okX y)=true then Z2y T.P bty (ev t x) (ev t y) else none) with
   | some r=>some (r.1,s,r.2)
   | none=>Zm4 T.P t s o
  | false=>Zm4 T.P t s o
 | .binOp op bty x y _=>
  match T.sym with
  | true=>
   match (if (okX x && okX y)=true then Zn T.P op bty (ev t x) (ev t y) else none) with
   | some b=>some (.bool b,s,[])
   | none=>
   match (if (okX x && okX y)=true then Zzo op (ev t x) (ev t y) s else none) with
   | some r=>some r
   | none=>
   match (if (okX x && okX y)=true then ZuL op (ev t x) (ev t y) s else none) with
   | some r=>some r
   | none=>
   match (if (okX x && okX y)=true then ZpB op (ev t x) (ev t y) else none) with
   | some r=>some (r.1,s,r.2)
   | none=>
    match (if (okX x && okX y && lt 0 (ev t x) && lt 0 (ev t y))=true then eqS T.P op bty (ev t x) (ev t y) else none) with
    | some b=>some (.bool (Zie b s).1,(Zie b s).2.1,(Zie b s).2.2)
    | none=>Zm4 T.P t s o
  | false=>Zm4 T.P t s o
 | _=>Zm4 T.P t s o
def ZjD (T:Tab) (t:List Value) (h:Hp) (s:List Dec) (o:Oper):Zdh:=
 match o.op with
 | .box e x=>if (okX x && noT (ev t x) && !(ro e))=true then some (.pointer (some ⟨h.n,0,none⟩),h.push (ZD (ev t x)) e,s,[]) else none
 | .alloc e=>
  match T.P.info? e with
  | some i=>
   match i.zero with
   | some z=>if (lt 0 z && noT z && !(ro e))=true then some (.pointer (some ⟨h.n,0,none⟩),h.push (ZD z) e,s,[]) else none
   | none=>none
  | none=>none
 | .load ty x=>
  if okX x=true then
   match ev t x with
   | .pointer (some a)=>
    match s with
    | .inr (.inr (.inr (.inr (.inr v))))::s'=>
     match ZmD T.P ty a h v with
     | some lg=>some (v,h,s',lg)
     | none=>none
    | _=>
     match ZhX T.P ty a h with
     | some v=>some (v,h,s,[])
     | none=>none
   | _=>none
  else none
 | .store ty x y=>
  if (okX x && okX y)=true then
   match ev t x with
   | .pointer (some a)=>
    match s with
    | .inr (.inr (.inr (.inr (.inl _))))::s'=>
     match Zjs T.P ty a (ev t y) h with
     | some r=>some (undef,r.1,s',r.2)
     | none=>none
    | _=>
     match Zfj T.P ty a (ev t y) h with
     | some h'=>some (undef,h',s,[])
     | none=>none
   | _=>none
  else none
 | _=>
  match Zzn T.P t h s o with
  | some r=>some r
  | none=>
   match ZgX T t s o with
   | some r=>some (r.1,h,r.2.1,r.2.2)
   | none=>none
def ZuM (P:Program) (m:Mp) (n:Nat) (a:Act) (o:Oper) (v:Value):Prop:=
 (∀ w,(execOp a.eval o).run P w= .ok (.value (mv m v)) w)∧lt n v=true
theorem Zbe {P:Program}{m:Mp}{n:Nat}{t:List Value}{s s':List Dec}{lg:Log}{a:Act}{o:Oper}{v:Value}
  (ha:a.tmps=(t.map (mv m)).toArray) (hns:∀ cs b,o.op≠ .select cs b) (hs:Zm4 P t s o=some (v,s',lg)):ZuM P m n a o v:=by
 unfold Zm4 at hs;split at hs
 ·rename_i hall;simp only[List.all_eq_true,Xh] at hall;have hc:execOp a.eval o=execOp (ev t) o:=execOp_congr o hns fun x hx=>by
   have:=hall x (by simpa using hx);rw[Zr ha this.1,Z9 this.2]
  split at hs
  ·rename_i u hu;split at hs
   ·rename_i hl;cases hs;exact⟨fun w=>by rw[hc,ZaL hu w,Z9 hl],Zaj (Nat.zero_le _) hl⟩
   ·cases hs
  ·cases hs
 ·cases hs
theorem Zig (P:Program) (w:World) (e:TypeId) (v:Value):(Instr.box e v).run P w= .ok (.pointer (some ⟨w.heap.size,0,none⟩)) (w.alloc (.cells v.cells e (0,0))):=by
 rfl
theorem Zfm {P:Program}{m:Mp}{B:Nat}{h:Hp}{w:World}{a:Act}{o:Oper}{e:TypeId}{z:Value}(E:Emb m B h w) (he:ro e=false) (hT:noT z=true) (hz:lt h.n z=true)
  (hr:(execOp a.eval o).run P w= .ok (.value (.pointer (some ⟨w.heap.size,0,none⟩))) (w.alloc (.cells (mv m z).cells e (0,0)))):
  Does P m B h w a o (.pointer (some ⟨h.n,0,none⟩)) (h.push (ZD z) e):=by
 rw[Zet hT] at hr;have E':=E.push (ZD z) [] e he (Zeu hT hz) (k:=(ZD z).length) (by simp);rw[List.append_nil] at E';refine⟨upd m h.n (w.heap.size,(ZD z).length),_,_,hr,.inl ?_,⟨Z7 _ _ _,E',(Below.refl _ _).alloc E.base _,Nat.le_succ _,?_⟩⟩
 ·simp [mv,mv2,mv1,mvA,upd]
 ·simp [lt,lt2,lt1,Hp.push]
set_option maxHeartbeats 1000000 in
theorem Zfn {T:Tab}{m:Mp}{n:Nat}{t:List Value}{s s':List Dec}{lg:Log}{a:Act}{o:Oper}{v:Value}
  (ha:a.tmps=(t.map (mv m)).toArray) (ht:∀ v∈t,lt n v=true) (hs:ZgX T t s o=some (v,s',lg)) (hlg:Zx lg):ZuM T.P m n a o v:=by
 unfold ZgX at hs;split at hs
 ·
  rename_i x ho;split at hs
  ·rename_i hx;cases hs;exact⟨fun w=>(by simp [execOp,ho,Zr ha hx]),Zak ht hx⟩
  ·cases hs
 ·rename_i x ho;split at hs
  ·rename_i hx;cases hs;exact⟨fun w=>(by simp [execOp,ho,Zr ha hx]),Zak ht hx⟩
  ·cases hs
 ·
  rename_i c x y ho;split at hs
  ·rename_i hx;simp only[Xh] at hx;obtain⟨⟨hc,hx⟩,hy⟩:=hx;split at hs
   ·rename_i b hb;cases hs;have e:=ZcL hlg;rw[e];refine⟨fun w=> ?_,?_⟩
    ·cases b<;>simp [execOp,ho,Zr ha hx,Zr ha hy,Zr ha hc,hb,mv,mv2,mv1,asBool]
    ·cases b
     ·exact Zak ht hy
     ·exact Zak ht hx
   ·cases hs
  ·cases hs
 ·
  rename_i ty x i ho;split at hs
  ·rename_i hx;simp only[Xh] at hx;split at hs
   ·split at hs
    ·rename_i u hu;cases hs;exact⟨fun w=>by simp [execOp,ho,Zr ha hx.1,Zr ha hx.2,(ZdP (v:=u.1) (lg:=u.2) (m:=m) (Zak ht hx.1) hu hlg w).1],(ZdP (v:=u.1) (lg:=u.2) (m:=m) (Zak ht hx.1) hu hlg default).2⟩
    ·cases hs
   ·split at hs
    ·rename_i u hu;cases hs;exact⟨fun w=>by simp [execOp,ho,Zr ha hx.1,Zr ha hx.2,(ZdN (m:=m) (Zak ht hx.1) hu w).1],(ZdN (m:=m) (Zak ht hx.1) hu default).2⟩
    ·cases hs
  ·cases hs
 ·
  rename_i x ho;split at hs
  ·rename_i hx;split at hs
   ·rename_i ad had;cases hs;have hl:=Zak ht hx;rw[had] at hl;refine⟨fun w=> ?_,hl⟩;have e:a.eval x= .pointer (some (mvA m ad)):=by rw[Zr ha hx,had];rfl
    simp only[execOp,ho,e];rfl
   ·exact Zbe ha (by simp [ho]) hs
  ·cases hs
 ·
  rename_i ty x k ho;split at hs
  ·rename_i hx;split at hs
   ·rename_i u hu;cases hs;exact⟨fun w=>by simp [execOp,ho,Zr ha hx,(ZdO (m:=m) (Zak ht hx) hu w).1],(ZdO (m:=m) (Zak ht hx) hu default).2⟩
   ·cases hs
  ·cases hs
 ·
  rename_i ty x lo hi mx ho;split at hs
  ·rename_i hx;simp only[Xh] at hx;obtain⟨⟨⟨hx,hlo⟩,hhi⟩,hmx⟩:=hx;split at hs
   ·rename_i r hr;cases hs;have h0:=ZmP hr hlg m n;refine⟨fun w=> ?_,h0.2⟩;have h1:=h0.1 w;simp only[execOp,ho,Zr ha hx,ZQ ha hlo,ZQ ha hhi,ZQ ha hmx,Sem.run_bind,h1,Result.andThen_ok,Sem.run_pure]
   split at hs
   ·exact Zbe ha (by simp [ho]) hs
   split at hs
   ·rename_i u hu;cases hs;refine⟨fun w=> ?_,(ZdQ (m:=m) (Zak ht hx) hu default).2⟩;have h1:=(ZdQ (m:=m) (Zak ht hx) hu w).1;simp only[execOp,ho,Zr ha hx,ZQ ha hlo,ZQ ha hhi,ZQ ha hmx,Sem.run_bind,h1,Result.andThen_ok,Sem.run_pure]
   ·cases hs
  ·cases hs
 ·
  rename_i ty zb ho;split at hs
  ·rename_i hall;simp only[List.all_eq_true,Xh] at hall;split at hs
   ·rename_i u hu;split at hs
    ·rename_i hl;cases hs;have e:(zb.map fun p=>(p.1,a.eval p.2))=(zb.toList.map fun p=>(p.1,ev t p.2)).toArray:=by
      have:(zb.map fun p=>(p.1,a.eval p.2))=(zb.map fun p=>(p.1,ev t p.2)):=Array.map_congr_left fun p hp=>by
       have:=hall p (by simpa using hp);rw[Zr ha this.1,Z9 this.2]
      rw[this];cases zb;simp
     refine⟨fun w=> ?_,Zaj (Nat.zero_le _) hl⟩;simp only[execOp,ho,Sem.run_bind,Sem.run_pure];have hr:=ZaL hu w;rw[← e] at hr;rw[Z9 hl];simp only[hr,Result.andThen_ok]
    ·cases hs
   ·cases hs
  ·split at hs
   ·rename_i hall;simp only[List.all_eq_true,Xh] at hall;split at hs
    ·rename_i cs hcs;cases hs;obtain⟨b1,b2⟩:=Zif (m:=m) (n:=n) hcs (fun p hp=>by
      obtain⟨q,hq,rfl⟩:=List.mem_map.1 hp;exact (hall q hq).2) (fun p hp=>by
      obtain⟨q,hq,rfl⟩:=List.mem_map.1 hp;exact Zak ht (hall q hq).1)
     have e:(zb.map fun p=>(p.1,a.eval p.2))=((zb.toList.map fun p=>(p.1,ev t p.2)).map fun p=>(p.1,mv m p.2)).toArray:=by
      have:(zb.map fun p=>(p.1,a.eval p.2))=(zb.map fun p=>(p.1,mv m (ev t p.2))):=Array.map_congr_left fun p hp=>by
       rw[Zr ha (hall p (by simpa using hp)).1]
      rw[this];cases zb;simp
     refine⟨fun w=> ?_,?_⟩
     ·simp only[execOp,ho,Sem.run_bind,Sem.run_pure];have hr:=run_build w ty (zb.map fun p=>(p.1,a.eval p.2)) (cs.map (mv1 m)) (by rw[e];exact b1);have em:mv m (.agg cs)= .agg (cs.map (mv1 m)):=rfl;rw[em];simp only[hr,Result.andThen_ok]
     ·show (cs.toList.all (lt1 n))=true;exact List.all_eq_true.2 fun c hc=>b2 c (by simpa using hc)
    ·cases hs
   ·cases hs
 ·
  rename_i c ho;split at hs
  ·rename_i u hu;cases hs;unfold Z2x at hu;split at hu
   ·rename_i x ty hcal hargs htys;split at hu
    ·rename_i hx;split at hu
     ·rename_i el ad n cp hun hev;cases hu;obtain⟨callee,args,tys⟩:=c;obtain⟨args⟩:=args;obtain⟨tys⟩:=tys;simp only at hcal hargs htys;subst hcal hargs htys;refine⟨fun w=> ?_,by simp [goInt,lt,lt2,lt1]⟩;have e:∃ ad' c',a.eval x= .slice ad' n c':=by
       rw[Zr ha hx,hev];cases ad<;>exact⟨_,_,rfl⟩
      obtain⟨ad',c',e⟩:=e;simp [execOp,ho,resolve,invoke,builtin,Builtin.len_,underlying,hun,e,goInt,mv,mv2,mv1]
     ·cases hu
    ·cases hu
   ·cases hu
  ·split at hs
   ·exact Zbe ha (by simp [ho]) hs
   ·cases hs
 ·cases hs
 ·
  rename_i x i ho;split at hs
  ·rename_i hx;split at hs
   ·rename_i vs hvs;split at hs
    ·rename_i u hu;split at hs
     ·rename_i hT;cases hs;have e:a.eval x= .tuple (vs.map (mv2 m)):=by rw[Zr ha hx,hvs];rfl
      have hl:=Zak ht hx;rw[hvs] at hl;simp only[lt,List.all_eq_true] at hl;have hl':=hl v (List.mem_of_getElem? hu);have e2:mv m v=mv2 m v:=by cases v<;>first | rfl | simp [noT] at hT
      have e3:lt n v=lt2 n v:=by cases v<;>first | rfl | simp [noT] at hT
      refine⟨fun w=> ?_,by rw[e3];exact hl'⟩;have hg:(vs.map (mv2 m))[i]? =some (mv2 m v):=by
       rw[Array.getElem?_map,← Array.getElem?_toList,hu];rfl
      simp [execOp,ho,e,Instr.extract,hg,e2]
     ·cases hs
    ·cases hs
   ·cases hs
  ·cases hs
 ·
  rename_i ty x y ho;split at hs
  ·split at hs
   ·rename_i r hr;cases hs;split at hr
    ·rename_i hx;simp only[Xh] at hx;unfold Z2y at hr;split at hr
     ·rename_i bs k i hu e1 e2;cases hr;have hb:=hlg _ Xf;simp only[Xi] at hb;refine⟨fun w=> ?_,by simp [lt,lt2,lt1]⟩;have hg:bs[i.toNat]? =some (bs.data.toList.getD i.toNat 0):=by
       have h1:i.toNat<bs.size:=by have:=hb.2;rw[Array.length_toList] at this;exact this
       rw[getElem?_pos bs i.toNat h1];congr 1;rw[List.getD,List.getElem?_eq_getElem hb.2];rfl
      simp [execOp,ho,Zr ha hx.1,Zr ha hx.2,e1,e2,mv,mv2,mv1,Instr.index,asIntOf,underlying,hu,hb.1,hg]
     ·cases hr
    ·cases hr
   ·exact Zbe ha (by simp [ho]) hs
  ·exact Zbe ha (by simp [ho]) hs
 ·
  rename_i op ty x y ty' ho;split at hs
  ·split at hs
   ·rename_i b hr;cases hs;split at hr
    ·rename_i hx;simp only[Xh] at hx;refine⟨fun w=> ?_,by simp [lt,lt2,lt1]⟩;have h1:=ZmN hr x y m w;unfold execOp;rw[ho];simp only[Zr ha hx.1,Zr ha hx.2];rw[Sem.run_bind,h1];rfl
    ·cases hr
   rename_i hno;clear hno;split at hs
   ·rename_i r hr;cases hs;split at hr
    ·rename_i hx;simp only[Xh] at hx;have h0:=ZmO (P:=T.P) hr hlg ty x y m n;refine⟨fun w=> ?_,h0.2⟩;have h1:=h0.1 w;unfold execOp;rw[ho];simp only[Zr ha hx.1,Zr ha hx.2];rw[Sem.run_bind,h1];rfl
    ·cases hr
   split at hs
   ·rename_i r hr;cases hs;split at hr
    ·rename_i hx;simp only[Xh] at hx;unfold ZuL at hr;split at hr
     ·rename_i q s0;split at hr
      ·rename_i k n k' b e1 e2;split at hr
       ·rename_i hk;subst hk;cases hr;have h1:=hlg _ (Xe);have h2:=hlg _ (Xd _ Xf);simp only[decide_eq_false_iff_not,Xi] at h1 h2;refine⟨fun w=> ?_,by simp [lt,lt2,lt1]⟩;simp [execOp,ho,Zr ha hx.1,Zr ha hx.2,e1,e2,mv,mv2,mv1,eqGuard,binOp,Op.intDiv,h1,h2]
       ·cases hr
      ·cases hr
     ·rename_i d s0;split at hr
      ·rename_i k n k' b e1 e2;split at hr
       ·rename_i hk;subst hk;split at hr<;>cases hr
        ·have h1:=hlg _ Xf;simp only[decide_eq_false_iff_not] at h1;refine⟨fun w=> ?_,by simp [lt,lt2,lt1]⟩;simp [execOp,ho,Zr ha hx.1,Zr ha hx.2,e1,e2,mv,mv2,mv1,eqGuard,binOp,Op.intDiv,h1]
        all_goals
         have h1:=hlg _ Xf;simp only at h1;refine⟨fun w=> ?_,by simp [lt,lt2,lt1]⟩;rw[← h1];simp [execOp,ho,Zr ha hx.1,Zr ha hx.2,e1,e2,mv,mv2,mv1,eqGuard,binOp,Op.intCmp]
       ·cases hr
      ·cases hr
     ·cases hr
    ·cases hr
   split at hs
   ·rename_i r hr;cases hs;split at hr
    ·rename_i hx;simp only[Xh] at hx;unfold ZpB at hr;split at hr
     ·rename_i k n k' b e1 e2 _ _;cases hr;have hb:¬ b<0:=by have:=hlg _ Xf;simpa using this
      refine⟨fun w=> ?_,by simp [lt,lt2,lt1]⟩;simp [execOp,ho,Zr ha hx.1,Zr ha hx.2,e1,e2,mv,mv2,mv1,eqGuard,binOp,Op.shift,hb]
     ·rename_i k n k' b e1 e2 _ _;cases hr;have hb:¬ b<0:=by have:=hlg _ Xf;simpa using this
      refine⟨fun w=> ?_,by simp [lt,lt2,lt1]⟩;simp [execOp,ho,Zr ha hx.1,Zr ha hx.2,e1,e2,mv,mv2,mv1,eqGuard,binOp,Op.shift,hb]
     ·cases hr
    ·cases hr
   ·split at hs
    ·rename_i r hr;cases hs;split at hr
     ·rename_i hx;simp only[Xh] at hx;obtain⟨⟨⟨hx1,hx2⟩,hx3⟩,hx4⟩:=hx;have e:=ZmQ hlg;rw[e];refine⟨fun w=> ?_,by simp [lt,lt2,lt1]⟩;have h1:=ZqR hr x y w;unfold execOp;rw[ho];simp only[Zr ha hx1,Zr ha hx2,Z9 hx3,Z9 hx4];rw[Sem.run_bind,h1];rfl
     ·cases hr
    ·exact Zbe ha (by simp [ho]) hs
  ·exact Zbe ha (by simp [ho]) hs
 ·rename_i hns _;exact Zbe ha (by intro cs b hh;simp_all) hs
theorem ZjE {T:Tab}{m:Mp}{B:Nat}{t:List Value}{h h':Hp}{s s':List Dec}{lg:Log}{w:World}{a:Act}{o:Oper}{v:Value}
  (ha:a.tmps=(t.map (mv m)).toArray) (E:Emb m B h w) (ht:∀ v∈t,lt h.n v=true) (hs:ZjD T t h s o=some (v,h',s',lg)) (hlg:Zx lg):Does T.P m B h w a o v h':=by
 unfold ZjD at hs;split at hs
 ·
  rename_i e x ho;split at hs
  ·rename_i hx;simp only[Xh,Bool.not_eq_true'] at hx;cases hs;exact Zfm E hx.2 hx.1.2 (Zak ht hx.1.1) (by simp [execOp,ho,Zr ha hx.1.1,Zig])
  ·cases hs
 ·
  rename_i e ho;split at hs
  ·rename_i i hi;split at hs
   ·rename_i z hz;split at hs
    ·rename_i hc;simp only[Xh,Bool.not_eq_true'] at hc;cases hs;refine Zfm E hc.2 hc.1.2 (Zaj (Nat.zero_le _) hc.1.1) ?_;rw[Z9 hc.1.1];simp [execOp,ho,Instr.alloc,zeroValue,typeInfo,hi,hz,newVar,newRow]
    ·cases hs
   ·cases hs
  ·cases hs
 ·
  rename_i ty x ho;split at hs
  ·rename_i hx;split at hs
   ·rename_i ad had;have e:a.eval x= .pointer (some (mvA m ad)):=by rw[Zr ha hx,had];rfl
    split at hs
    ·split at hs
     ·rename_i lg' hu;cases hs;obtain⟨h1,h2⟩:=ZgJ (P:=T.P) (fun y hy=>E.lies _ y hy) (fun y hy=>E.wf _ y hy) hu hlg;refine Does.still E ?_ h2;simp only[execOp,ho,e,Sem.run_bind,h1,Result.andThen_ok,Sem.run_pure]
     ·cases hs
    ·split at hs
     ·rename_i u hu;cases hs;obtain⟨h1,h2⟩:=Zfi (P:=T.P) E hu;refine Does.still E ?_ h2;simp only[execOp,ho,e,Sem.run_bind,h1,Result.andThen_ok,Sem.run_pure]
     ·cases hs
   ·cases hs
  ·cases hs
 ·
  rename_i ty x y ho;split at hs
  ·rename_i hx;simp only[Xh] at hx;split at hs
   ·rename_i ad had;have e:a.eval x= .pointer (some (mvA m ad)):=by rw[Zr ha hx.1,had];rfl
    split at hs
    ·split at hs
     ·rename_i r hu;cases hs;obtain⟨w',h2,h3,h4,h5⟩:=ZhZ (P:=T.P) (h':=r.1) (lg:=r.2) E (Zak ht hx.2) hu hlg;refine⟨m,w',.skip,?_,.inr ⟨rfl,rfl⟩,⟨Agree.refl _ _,h3,h4,by omega,by simp [undef,lt]⟩⟩;simp [execOp,ho,e,Zr ha hx.2,h2]
     ·cases hs
    ·split at hs
     ·rename_i h1 hu;cases hs;obtain⟨w',h2,h3,h4,h5⟩:=Zco (P:=T.P) E (Zak ht hx.2) hu;refine⟨m,w',.skip,?_,.inr ⟨rfl,rfl⟩,⟨Agree.refl _ _,h3,h4,by omega,by simp [undef,lt]⟩⟩;simp [execOp,ho,e,Zr ha hx.2,h2]
     ·cases hs
   ·cases hs
  ·cases hs
 ·split at hs
  ·rename_i r hr;cases hs;exact ZqQ ha E ht hr hlg
  ·split at hs
   ·rename_i r hr;cases hs;have:=Zfn (n:=h.n) ha ht hr hlg;exact Does.still E (this.1 w) this.2
   ·cases hs
def ZfY:Value→Option Nat
 | .pointer (some a)=>some a.block
 | .slice (some a) _ _=>some a.block
 | _=>none
def ZuN (ops:List Oper) (d:Tmp):Option Op:=
 match ops with
 | []=>none
 | o::l=>if (match o.dst with | some e=>Nat.beq e d | none=>false)=true then some o.op else ZuN l d
def Zc8 (ops:List Oper) (t:List Value):Nat→Operand→Option Nat
 | 0,_=>none
 | n+1,.tmp d=>
  match ZuN ops d with
  | some (.indexAddr _ x _)=>Zc8 ops t n x
  | some (.fieldAddr _ x _)=>Zc8 ops t n x
  | some (.move x)=>Zc8 ops t n x
  | some (.slice _ x _ _ _)=>Zc8 ops t n x
  | some (.nilCheck x)=>Zc8 ops t n x
  | some _=>none
  | none=>ZfY (t.getD d undef)
 | _,_=>none
def ZuO (ops:List Oper) (t:List Value) (o:Oper):List Nat:=
 match o.op with
 | .store _ x _=>(Zc8 ops t 6 x).toList
 | .call ⟨.value _,args,_⟩=>args.toList.flatMap fun x=>(Zc8 ops t 6 x).toList
 | _=>[]
def ZuP (ops:List Oper) (t:List Value) (bad:List Nat) (n:Nat):List Oper→List Nat→List Nat
 | [],acc=>acc
 | o::l,acc=>
  match o.op with
  | .load _ x=>
   match Zc8 ops t 6 x with
   | some b=>if (Nat.blt b n && !(bad.contains b) && !(acc.contains b))=true then ZuP ops t bad n l (b::acc) else ZuP ops t bad n l acc
   | none=>ZuP ops t bad n l acc
  | _=>ZuP ops t bad n l acc
def roB (h:Hp) (b:Nat):Bool:=
 match h.blk? b with
 | some x=>ro x.2
 | none=>false
def ZmR (ops:List Oper) (t:List Value) (h:Hp):List Nat:=ZuP ops t ((ops.flatMap (ZuO ops t)).filter fun b=> !(roB h b)) h.n ops []
end Go.KRun
