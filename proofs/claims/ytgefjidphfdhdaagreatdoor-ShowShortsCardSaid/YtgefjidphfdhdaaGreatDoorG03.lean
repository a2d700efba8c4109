/-
  RunC, RunD, RunE
-/
import Derived.Test.YtgefjidphfdhdaaGreatDoorG02
import Derived.ChangeKeysEq
import Derived.Laws.Tables
import Derived.Laws.Concat
import Derived.Laws.Strings2
import Derived.Laws.Strings3
import Derived.Laws.Slices
import Derived.Laws.StructEq
import Derived.OrdersHeld
namespace Go.KRun
open Go.RowKit
def Zpr (P:Program) (t:List Value) (s:List Dec) (o:Oper):Option (Value×List Dec×Log):=
 if (o.op.operands.toList.all fun x=>okX x && lt 0 (ev t x))=true then
  match ZkC P (execOp (ev t) o) with
  | some (.value v)=>if lt 0 v=true then some (v,s,[]) else none
  | _=>none
 else none
def Z8p (P:Program) (t:List Value) (c:Call):Option Value:=
 match c.callee,c.args.toList,c.argTypes.toList with
 | .builtin .len,[x],[ty]=>
  if okX x=true then
   match P.underlying ty,ev t x with
   | some (.slice _),.slice _ n _=>some (goInt n)
   | _,_=>none
  else none
 | _,_,_=>none
def ZsK (op:BinOp) (x y:Value):Option (Value×Log):=
 match op,x,y with
 | .shl,.int k a,.int _ b=>some (.int k (k.wrap (a*2^min b.toNat k.bits)),[(decide (b<0),false)])
 | .shr,.int k a,.int _ b=>some (.int k (a.fdiv (2^min b.toNat k.bits)),[(decide (b<0),false)])
 | _,_,_=>none
def Zzc (op:BinOp) (x y:Value):List Dec→Option (Value×List Dec×Log)
 | .inr (.inl q)::s=>
  match op,x,y with
  | .quo,.int k a,.int k' b=>if k=k' then some (.int k q,s,[(decide (b=0),false),(decide (k.wrap (a.tdiv b)=q),true)]) else none
  | _,_,_=>none
 | .inr (.inr (.inr (.inl d)))::s=>
  match x,y with
  | .int k a,.int k' b=>
   if k=k' then
    match op with
    | .rem=>some (.int k (a.tmod b),s,[(decide (b=0),false)])
    | .lss=>some (.bool d,s,[(decide (a<b),d)])
    | .leq=>some (.bool d,s,[(decide (a≤b),d)])
    | .gtr=>some (.bool d,s,[(decide (a>b),d)])
    | .geq=>some (.bool d,s,[(decide (a≥b),d)])
    | .eql=>some (.bool d,s,[(a==b,d)])
    | .neq=>some (.bool d,s,[(a !=b,d)])
    | _=>none
   else none
  | _,_=>none
 | _=>none
def Z48 (op:BinOp) (x y:Value):List Dec→Option (Value×List Dec×Log)
 | .inr (.inr (.inl d))::s=>
  match op,x,y with
  | .eql,.string a,.string b=>some (.bool d,s,[(a==b,d)])
  | .neq,.string a,.string b=>some (.bool d,s,[(!(a==b),d)])
  | .add,.string a,.string b=>some (.string ⟨(a.data.toList++b.data.toList).toArray⟩,s,[(decide (a.data.toList.length+b.data.toList.length≤9223372036854775807),true)])
  | _,_,_=>none
 | _=>none
def Z49 (P:Program) (ty:TypeId) (x:Value) (lo hi mx:Option Value):List Dec→Option (Value×List Dec×Log)
 | .inr (.inr (.inl _))::s=>
  match P.underlying ty,x,lo,hi,mx with
  | some .string,.string b,some (.int _ i),some (.int _ j),none=>some (.string ⟨((b.data.toList.drop i.toNat).take (j.toNat-i.toNat)).toArray⟩,s,[(decide (0≤i∧i≤j∧j≤(b.data.toList.length:Int)),true)])
  | some .string,.string b,none,some (.int _ j),none=>some (.string ⟨(b.data.toList.take j.toNat).toArray⟩,s,[(decide (0≤j∧j≤(b.data.toList.length:Int)),true)])
  | some .string,.string b,some (.int _ i),none,none=>some (.string ⟨(b.data.toList.drop i.toNat).toArray⟩,s,[(decide (0≤i∧i≤(b.data.toList.length:Int)),true)])
  | _,_,_,_,_=>none
 | _=>none
theorem Zps {P:Program}{op:BinOp}{x y v:Value}{s s':List Dec}{lg:Log}(h:Z48 op x y s=some (v,s',lg)) (hlg:Zx lg) (ty:TypeId) (xo yo:Operand) (m:Mp) (n:Nat):
  (∀ w,(do eqGuard op ty xo yo (mv m x) (mv m y);binOp op ty (mv m x) (mv m y):Sem Value).run P w= .ok (mv m v) w)∧lt n v=true:=by
 unfold Z48 at h;split at h
 ·split at h
  ·rename_i a b;cases h;have h1:=hlg _ Xf;simp only at h1;refine⟨fun w=> ?_,by simp [lt,lt2,lt1]⟩;rw[← h1];simp [mv,mv2,mv1,eqGuard,binOp,Op.stringOp,beq_toListBytes]
  ·rename_i a b;cases h;have h1:=hlg _ Xf;simp only at h1;refine⟨fun w=> ?_,by simp [lt,lt2,lt1]⟩;rw[← h1];simp [mv,mv2,mv1,eqGuard,binOp,Op.stringOp,beq_toListBytes]
  ·rename_i a b;cases h;have h1:=hlg _ Xf;simp only[Xi] at h1;refine⟨fun w=> ?_,by simp [lt,lt2,lt1]⟩;have h2:a.size+b.size≤9223372036854775807:=h1;have h3:a++b=⟨(a.data.toList++b.data.toList).toArray⟩:=by
    apply ByteArray.ext;simp [ByteArray.data_append]
   simp [mv,mv2,mv1,eqGuard,binOp,run_string_add_sum w a b h2,h3]
  ·cases h
 ·cases h
theorem Zpt {P:Program}{ty:TypeId}{x v:Value}{lo hi mx:Option Value}{s s':List Dec}{lg:Log}(h:Z49 P ty x lo hi mx s=some (v,s',lg)) (hlg:Zx lg) (m:Mp) (n:Nat):
  (∀ w,(Instr.sliceAt ty (mv m x) lo hi mx).run P w= .ok (mv m v) w)∧lt n v=true:=by
 unfold Z49 at h;split at h
 ·split at h
  ·rename_i b k i k' j hu;cases h;have h1:=hlg _ Xf;simp only[Xi] at h1;refine⟨fun w=> ?_,by simp [lt,lt2,lt1]⟩;have h2:b.extract i.toNat j.toNat=⟨((b.data.toList.drop i.toNat).take (j.toNat-i.toNat)).toArray⟩:=by
    have h4:=ByteArray.extract_mk b.data.toList i.toNat j.toNat;simpa using h4
   have h3:(b.data.toList.length:Int)=b.size:=rfl;simp only[mv,mv2,mv1];rw[run_sliceAt_string w ty _ _ _ _ hu,run_slice_string w ty b k k' i j hu h1.1 h1.2.1 (by omega),h2]
  ·rename_i b k j hu;cases h;have h1:=hlg _ Xf;simp only[Xi] at h1;refine⟨fun w=> ?_,by simp [lt,lt2,lt1]⟩;have h2:b.extract 0 j.toNat=⟨(b.data.toList.take j.toNat).toArray⟩:=by
    have h4:=ByteArray.extract_mk b.data.toList 0 j.toNat;simpa using h4
   have h3:(b.data.toList.length:Int)=b.size:=rfl;simp only[mv,mv2,mv1];rw[run_sliceAt_string w ty _ _ _ _ hu,run_slice_string_to_if w ty b k j hu,if_pos ⟨h1.1,by omega⟩,h2]
  ·rename_i b k i hu;cases h;have h1:=hlg _ Xf;simp only[Xi] at h1;refine⟨fun w=> ?_,by simp [lt,lt2,lt1]⟩;have h2:b.extract i.toNat b.size=⟨(b.data.toList.drop i.toNat).toArray⟩:=by
    have h4:=ByteArray.extract_mk b.data.toList i.toNat b.size;have h5:(b.data.toList.drop i.toNat).take (b.size-i.toNat)=b.data.toList.drop i.toNat:=List.take_of_length_le (by rw[List.length_drop];exact Nat.le_refl _);rw[h5] at h4;simpa using h4
   have h3:(b.data.toList.length:Int)=b.size:=rfl;simp only[mv,mv2,mv1];rw[run_sliceAt_string w ty _ _ _ _ hu,run_slice_string_from_if w ty b k i hu,if_pos ⟨h1.1,by omega⟩,h2]
  ·cases h
 ·cases h
def Z8q (P:Program) (ty:TypeId) (x y:Value):Option (Value×Log):=
 match P.underlying ty,x,y with
 | some .string,.string b,.int _ i=>some (.int .u8 ((b.data.toList.getD i.toNat 0).toNat:Int),[(decide (0≤i∧i.toNat<b.data.toList.length),true)])
 | _,_,_=>none
def eqL:List Value→List Value→Option Bool
 | [],[]=>some true
 | .int k a::xs,.int k' b::ys=>
  if k=k' then
   match eqL xs ys with
   | some r=>some (a==b && r)
   | none=>none
  else none
 | _,_=>none
def ZjE (b:Bool):List Dec→Bool×List Dec×Log
 | .inr (.inr (.inl d))::s=>(d,s,[(b,d)])
 | s=>(b,s,[])
theorem Zpu {b:Bool}{s:List Dec}(h:Zx (ZjE b s).2.2):(ZjE b s).1=b:=by
 unfold ZjE at*;split at h
 ·rename_i d s;exact (h (b,d) Xf).symm
 ·rfl
def ZeH (P:Program) (t:TypeId) (xs:List Value) (off:Nat):Option Value:=
 match P.underlying t,P.info? t with
 | some (.struct _),some _=>some (.agg ((xs.drop off).take (P.cellsOf t)).toArray)
 | some (.array _ _),some _=>some (.agg ((xs.drop off).take (P.cellsOf t)).toArray)
 | some .bool,_=>xs[off]?
 | some (.int _),_=>xs[off]?
 | some .string,_=>xs[off]?
 | _,_=>none
theorem ZbP {P:Program}{t:TypeId}{xs:Array Value}{off:Nat}{v:Value}(h:ZeH P t xs.toList off=some v) (w:World):(part t xs off).run P w= .ok v w:=by
 have big:∀ i,P.info? t=some i→(xs.extract off (off+P.cellsOf t))=((xs.toList.drop off).take (P.cellsOf t)).toArray:=fun i _=>by
  cases xs;simp [List.extract_eq_take_drop]
 have small:xs.toList[off]? =some v→xs[off]? =some v:=fun h=>by simpa using h
 unfold ZeH at h;split at h
 ·rename_i hu hi;cases h;simp [part,isAgg,run_underlying hu,run_sizeOf w hi,big _ hi]
 ·rename_i hu hi;cases h;simp [part,isAgg,run_underlying hu,run_sizeOf w hi,big _ hi]
 ·rename_i hu;simp [part,isAgg,run_underlying hu,small h]
 ·rename_i hu;simp [part,isAgg,run_underlying hu,small h]
 ·rename_i hu;simp [part,isAgg,run_underlying hu,small h]
 ·cases h
def Zzd (P:Program) (q:TypeId→Value→Value→Option Bool) (xs ys:List Value):List Field→Option Bool
 | []=>some true
 | f::fs=>
  if f.name= "_" then none else
  match ZeH P f.type xs f.offset,ZeH P f.type ys f.offset,Zzd P q xs ys fs with
  | some a,some b,some r'=>
   match q f.type a b with
   | some r=>some (r && r')
   | none=>none
  | _,_,_=>none
def Zze (P:Program) (q:TypeId→Value→Value→Option Bool) (e:TypeId) (xs ys:List Value):List Nat→Option Bool
 | []=>some true
 | i::is=>
  match ZeH P e xs (i*P.cellsOf e),ZeH P e ys (i*P.cellsOf e),Zze P q e xs ys is with
  | some a,some b,some r'=>
   match q e a b with
   | some r=>some (r && r')
   | none=>none
  | _,_,_=>none
def eqV (P:Program):Nat→TypeId→Value→Value→Option Bool
 | 0,_,_,_=>none
 | d+1,t,x,y=>
  match P.underlying t,x,y with
  | some .bool,.bool a,.bool b=>some (a==b)
  | some (.int _),.int k a,.int k' b=>if k=k' then some (a==b) else none
  | some .string,.string a,.string b=>some (a.toList==b.toList)
  | some (.struct fs),.agg xs,.agg ys=>if P.stoodInHeld t=true then none else Zzd P (eqV P d) xs.toList ys.toList fs.toList
  | some (.array n e),.agg xs,.agg ys=>if (P.info? e).isSome=true then Zze P (eqV P d) e xs.toList ys.toList (List.range n) else none
  | _,_,_=>none
theorem Zim {P:Program}{q:TypeId→Value→Value→Option Bool}{d:Nat}(w:World) (hq:∀ t x y r,q t x y=some r→(Op.equalIn d t x y).run P w= .ok r w) (xs ys:Array Value):
  ∀ (fs:List Field) (r:Bool),Zzd P q xs.toList ys.toList fs=some r→(Op.eqFields d xs ys fs).run P w= .ok r w
 | [],r,h=>by simp only[Zzd] at h;cases h;simp [Op.eqFields]
 | f::fs,r,h=>by
  unfold Zzd at h;split at h
  ·cases h
  ·rename_i hn;split at h
   ·rename_i a b r' ha hb hr;split at h
    ·rename_i r1 h1;cases h;have ih:=Zim w hq xs ys fs r' hr;simp only[Op.eqFields,hn,ne_eq,not_false_eq_true,if_true,Sem.run_bind,ZbP ha w,ZbP hb w,Result.andThen_ok,hq _ _ _ _ h1];cases r1
     ·simp
     ·simpa using ih
    ·cases h
   ·cases h
theorem Zin {P:Program}{q:TypeId→Value→Value→Option Bool}{d:Nat}(w:World) (hq:∀ t x y r,q t x y=some r→(Op.equalIn d t x y).run P w= .ok r w) (e:TypeId) (xs ys:Array Value):
  ∀ (is:List Nat) (r:Bool),Zze P q e xs.toList ys.toList is=some r→(Op.eqItems d e (P.cellsOf e) xs ys is).run P w= .ok r w
 | [],r,h=>by simp only[Zze] at h;cases h;simp [Op.eqItems]
 | i::is,r,h=>by
  unfold Zze at h;split at h
  ·rename_i a b r' ha hb hr;split at h
   ·rename_i r1 h1;cases h;have ih:=Zin w hq e xs ys is r' hr;simp only[Op.eqItems,Sem.run_bind,ZbP ha w,ZbP hb w,Result.andThen_ok,hq _ _ _ _ h1];cases r1
    ·simp
    ·simpa using ih
   ·cases h
  ·cases h
theorem Zfo {P:Program}(w:World) (k:Nat):∀ (d:Nat) (t:TypeId) (x y:Value) (r:Bool),eqV P d t x y=some r→(Op.equalIn (d+k) t x y).run P w= .ok r w
 | 0,t,x,y,r,h=>by simp [eqV] at h
 | d+1,t,x,y,r,h=>by
  rw[show d+1+k=(d+k)+1 by omega];unfold eqV at h;split at h
  ·rename_i hu;cases h;exact run_equalIn_bool w _ t _ _ hu
  ·rename_i hu;split at h
   ·rename_i hk;cases h;subst hk;exact run_equalIn_int w _ t _ _ _ _ hu
   ·cases h
  ·rename_i hu;cases h;exact run_equalIn_string w _ t _ _ hu
  ·rename_i fs xs ys hu;split at h
   ·cases h
   ·rename_i hs;have hfs:P.fieldsOf t=fs:=by simp [Program.fieldsOf,hu]
    rw[run_equalIn_struct w (d+k) t xs ys (by rw[hfs];exact hu) (by simpa using hs),hfs];exact Zim w (fun t x y r h=>Zfo w k d t x y r h) xs ys fs.toList r h
  ·rename_i n e xs ys hu;split at h
   ·rename_i hi;obtain⟨i,hi⟩:=Option.isSome_iff_exists.1 hi;rw[run_equalIn_array w (d+k) xs ys hu hi];exact Zin w (fun t x y r h=>Zfo w k d t x y r h) e xs ys _ r h
   ·cases h
  ·cases h
def eqS (P:Program) (op:BinOp) (ty:TypeId) (x y:Value):Option Bool:=
 match P.underlying ty,x,y with
 | some (.array len elem),.agg xs,.agg ys=>
  match P.underlying elem,P.info? elem with
  | some (.int _),some ie=>
   if (Nat.beq ie.size 1 && Nat.beq xs.size len && !(P.eqGuardType P.depth ty))=true then
    match op,eqL xs.toList ys.toList with
    | .eql,some b=>some b
    | .neq,some b=>some (!b)
    | _,_=>none
   else none
  | _,_=>none
 | some (.struct _),.agg xs,.agg ys=>
  if (!(P.eqGuardType P.depth ty))=true then
   match op,eqV P 5 ty (.agg xs) (.agg ys) with
   | .eql,some b=>some b
   | .neq,some b=>some (!b)
   | _,_=>none
  else none
 | _,_,_=>none
theorem Zhr {P:Program}{e:TypeId}{k0:IntKind}{ie:TypeInfo}(hu:P.underlying e=some (.int k0)) (hi:P.info? e=some ie) (h1:ie.size=1) (d:Nat) (xs ys:Array Value) (w:World):
  ∀ (l1 l2:List Value) (k:Nat) (r:Bool),xs.toList.drop k=l1→ys.toList.drop k=l2→eqL l1 l2=some r→(Op.eqItems (d+1) e (P.cellsOf e) xs ys (List.range' k l1.length)).run P w= .ok r w:=by
 have hc:P.cellsOf e=1:=by simp [Program.cellsOf,hi,h1]
 intro l1
 induction l1 with
 | nil=>
  intro l2 k r _ _ hr;cases l2 with
  | nil=>simp only[eqL] at hr;cases hr;simp [Op.eqItems]
  | cons y l2=>simp [eqL] at hr
 | cons x l1 ih=>
  intro l2 k r hx hy hr;cases l2 with
  | nil=>cases x<;>simp [eqL] at hr
  | cons y l2=>
   unfold eqL at hr;split at hr
   ·rename_i heq _;cases heq
   ·rename_i ka a xs' kb b ys' ex ey;cases ex;cases ey;split at hr
    ·rename_i hk;subst hk;split at hr
     ·rename_i r' hr';cases hr;have hx0:xs[k]? =some (.int ka a):=by
       have:(xs.toList.drop k)[0]? =some (.int ka a):=by rw[hx];rfl
       rw[List.getElem?_drop] at this;simpa using this
      have hy0:ys[k]? =some (.int ka b):=by
       have:(ys.toList.drop k)[0]? =some (.int ka b):=by rw[hy];rfl
       rw[List.getElem?_drop] at this;simpa using this
      have ih':=ih l2 (k+1) r' (by rw[← List.drop_drop,hx];rfl) (by rw[← List.drop_drop,hy];rfl) hr';simp only[List.length_cons,List.range'_succ,Op.eqItems,hc,Nat.mul_one,Sem.run_bind];have hp:∀ (zs:Array Value) (v:Value),zs[k]? =some v→(part e zs k).run P w= .ok v w:=fun zs v hz=>by
       simp [part,isAgg,underlying,hu,hz]
      rw[hp xs _ hx0];simp only[Result.andThen_ok];rw[hp ys _ hy0];simp only[Result.andThen_ok,run_equalIn_int w d e ka k0 a b hu];rw[hc] at ih';cases hab:(a==b)
      ·simp
      ·simp [ih']
     ·cases hr
    ·cases hr
   ·cases hr
theorem ZtX {P:Program}{op:BinOp}{ty:TypeId}{x y:Value}{v:Bool}(hs:eqS P op ty x y=some v) (xo yo:Operand) (w:World):
  (do eqGuard op ty xo yo x y;binOp op ty x y:Sem Value).run P w= .ok (.bool v) w:=by
 unfold eqS at hs;split at hs
 ·rename_i len elem xs ys hu;split at hs
  ·rename_i k0 ie hue hi;split at hs
   ·rename_i hc;simp only[Xh,Bool.not_eq_true'] at hc;obtain⟨⟨hs1,hs2⟩,hg⟩:=hc;have hs1:=Xj hs1;have hs2:=Xj hs2;have key:∀ b,eqL xs.toList ys.toList=some b→(Op.equalIn 10000 ty (.agg xs) (.agg ys)).run P w= .ok b w:=fun b hb=>by
     rw[show (10000:Nat)=9998+1+1 from rfl,run_equalIn_array w (9998+1) xs ys hu hi];have:=Zhr hue hi hs1 9998 xs ys w xs.toList ys.toList 0 b (by simp) (by simp) hb;rw[List.range_eq_range',← hs2];simpa using this
    split at hs
    ·rename_i b hb;cases hs;rw[Sem.run_bind,run_eqGuard_agg w .eql ty xo yo xs ys hg];simp only[Result.andThen_ok];rw[run_eql_struct,key _ hb];rfl
    ·rename_i b hb;cases hs;rw[Sem.run_bind,run_eqGuard_agg w .neq ty xo yo xs ys hg];simp only[Result.andThen_ok];rw[run_neq_struct,key _ hb];rfl
    ·cases hs
   ·cases hs
  ·cases hs
 ·rename_i fs xs ys hu;split at hs
  ·rename_i hg;have hg:P.eqGuardType P.depth ty=false:=by simpa using hg
   split at hs
   ·rename_i b hb;cases hs;rw[Sem.run_bind,run_eqGuard_agg w .eql ty xo yo xs ys hg];simp only[Result.andThen_ok];rw[run_eql_struct,show (10000:Nat)=5+9995 from rfl,Zfo w 9995 5 ty _ _ _ hb];rfl
   ·rename_i b hb;cases hs;rw[Sem.run_bind,run_eqGuard_agg w .neq ty xo yo xs ys hg];simp only[Result.andThen_ok];rw[run_neq_struct,show (10000:Nat)=5+9995 from rfl,Zfo w 9995 5 ty _ _ _ hb];rfl
   ·cases hs
  ·cases hs
 ·cases hs
theorem Zio (f:Value→Value) (off:Nat):∀ (l:List (Value×Nat)) (cells:Array Value),(l.map fun p=>(f p.1,p.2)).foldl (fun cs (p:Value×Nat)=>cs.setIfInBounds (off+p.2) p.1) (cells.map f)=(l.foldl (fun cs (p:Value×Nat)=>cs.setIfInBounds (off+p.2) p.1) cells).map f
 | [],_=>rfl
 | p::l,cells=>by
  simp only[List.map_cons,List.foldl_cons];rw[← Zio f off l (cells.setIfInBounds (off+p.2) p.1),Array.map_setIfInBounds]
theorem Zip (Q:Value→Prop) (off:Nat):∀ (l:List (Value×Nat)) (cells:Array Value),(∀ p∈l,Q p.1)→(∀ c∈cells,Q c)→∀ c∈l.foldl (fun cs (p:Value×Nat)=>cs.setIfInBounds (off+p.2) p.1) cells,Q c
 | [],_,_,h2=>h2
 | p::l,cells,h1,h2=>by
  simp only[List.foldl_cons];refine Zip Q off l _ (fun q hq=>h1 q (Xd _ hq)) fun c hc=> ?_;rcases Array.mem_or_eq_of_mem_setIfInBounds hc with h | h
  ·exact h2 c h
  ·rw[h];exact h1 p Xe
theorem ZdU (place:Nat→Option (Nat×Nat)) (cells:Array Value) (i:Nat) (v:Value) (rest:List (Nat×Value)):Instr.fill place cells ((i,v)::rest)=
  match place i with
  | none=>none
  | some (off,size)=>if (v.cells.size≠size || off+v.cells.size>cells.size)=true then none else Instr.fill place (v.cells.zipIdx.toList.foldl (fun cs (p:Value×Nat)=>cs.setIfInBounds (off+p.2) p.1) cells) rest:=by
 rw[Instr.fill];cases place i with
 | none=>rfl
 | some q=>
  obtain⟨off,size⟩:=q;simp only[Array.foldl_toList]
theorem Zfp {f g:Value→Value}{place:Nat→Option (Nat×Nat)}:∀ (ps:List (Nat×Value)) (cells r:Array Value),(∀ p∈ps,(g p.2).cells=p.2.cells.map f)→Instr.fill place cells ps=some r→Instr.fill place (cells.map f) (ps.map fun p=>(p.1,g p.2))=some (r.map f)
 | [],cells,r,_,h=>by
  simp only[Instr.fill] at h;cases h;rfl
 | (i,v)::rest,cells,r,hg,h=>by
  rw[ZdU] at h;rw[List.map_cons,ZdU];cases hp:place i with
  | none=>rw[hp] at h;cases h
  | some q=>
   obtain⟨off,size⟩:=q;rw[hp] at h;have hv:=hg (i,v) Xe;simp only at hv h ⊢;rw[hv,Array.size_map,Array.size_map];split at h
   ·cases h
   ·rename_i hc;rw[if_neg hc];have e:(v.cells.map f).zipIdx.toList=v.cells.zipIdx.toList.map fun p=>(f p.1,p.2):=by
     simp [List.zipIdx_map,Prod.map]
    rw[e,Zio];exact Zfp rest _ r (fun p hp=>hg p (Xd _ hp)) h
theorem Zfq {Q:Value→Prop}{place:Nat→Option (Nat×Nat)}:∀ (ps:List (Nat×Value)) (cells r:Array Value),(∀ p∈ps,∀ c∈p.2.cells,Q c)→(∀ c∈cells,Q c)→Instr.fill place cells ps=some r→∀ c∈r,Q c
 | [],cells,r,_,hc,h=>by
  simp only[Instr.fill] at h;cases h;exact hc
 | (i,v)::rest,cells,r,hg,hc,h=>by
  rw[ZdU] at h;cases hp:place i with
  | none=>rw[hp] at h;cases h
  | some q=>
   obtain⟨off,size⟩:=q;rw[hp] at h;simp only at h;split at h
   ·cases h
   ·refine Zfq rest _ r (fun p hp=>hg p (Xd _ hp)) (Zip Q off _ _ (fun p hp=> ?_) hc) h;have hm:p.1∈v.cells:=by
     have h1:=List.mem_map_of_mem (f:=Prod.fst) hp;simp at h1;exact h1
    exact hg (i,v) Xe p.1 hm
def ZkY (P:Program) (ty:TypeId) (parts:List (Nat×Value)):Option (Array Value):=
 match P.info? ty with
 | some it=>
  match it.zero with
  | some z=>if (z.cells.toList.all (lt1 0))=true then P.built ty parts else none
  | none=>none
 | none=>none
theorem ZjF {P:Program}{m:Mp}{n:Nat}{ty:TypeId}{ps:List (Nat×Value)}{cs:Array Value}(hs:ZkY P ty ps=some cs) (hT:∀ p∈ps,noT p.2=true) (hl:∀ p∈ps,lt n p.2=true):
  P.built ty (ps.map fun p=>(p.1,mv m p.2))=some (cs.map (mv1 m))∧∀ c∈cs,lt1 n c=true:=by
 unfold ZkY at hs;split at hs
 ·rename_i it hit;split at hs
  ·rename_i z hz;split at hs
   ·rename_i hzl;have hzl:=List.all_eq_true.1 hzl;have ez:z.cells.map (mv1 m)=z.cells:=by
     have:z.cells.map (mv1 m)=z.cells.map id:=Array.map_congr_left fun x hx=>ZaD (hzl x (by simpa using hx));rw[this,Array.map_id]
    have hc:∀ p∈ps,(mv m p.2).cells=p.2.cells.map (mv1 m):=fun p hp=>by
     rw[Zfk (hT p hp)];generalize p.2=v;cases v<;>first | exact (ZkH (mv1 m) _).symm | (simp [ZX,Value.cells];done)
    have hq:∀ p∈ps,∀ c∈p.2.cells,lt1 n c=true:=fun p hp c hcc=>by
     refine Zfl (hT p hp) (hl p hp) c ?_
     revert hcc
     cases p.2<;>simp [ZX,Value.cells]
    have hz0:∀ c∈z.cells,lt1 n c=true:=fun c hcc=>zl (Nat.zero_le _) (hzl c (by simpa using hcc));unfold Program.built at hs ⊢;rw[hit] at hs ⊢;cases hu:P.underlying ty with
    | none=>rw[hu] at hs;cases hs
    | some d=>
     rw[hu] at hs;cases d<;>(first | (cases hs;done) | skip)
     case array k e=>
      simp only[hz] at hs ⊢;cases hie:P.info? e with
      | none=>rw[hie] at hs;cases hs
      | some ie=>
       rw[hie] at hs;simp only at hs ⊢;have h1:=Zfp (g:=mv m) ps z.cells cs hc hs;rw[ez] at h1;exact⟨h1,Zfq ps z.cells cs hq hz0 hs⟩
     case struct fs=>
      simp only[hz] at hs ⊢;cases hpl:fs.toList.mapM (fun f=>(P.info? f.type).map fun i=>(f.offset,i.size)) with
      | none=>rw[hpl] at hs;cases hs
      | some places=>
       rw[hpl] at hs;simp only at hs ⊢;have h1:=Zfp (g:=mv m) ps z.cells cs hc hs;rw[ez] at h1;exact⟨h1,Zfq ps z.cells cs hq hz0 hs⟩
   ·cases hs
  ·cases hs
 ·cases hs
abbrev Z4A:=Option (Value×List Dec×Log)
def Ziq (T:Tab) (t:List Value) (s:List Dec) (o:Oper):Z4A:=
 match o.op with
 | .move x=>if okX x=true then some (ev t x,s,[]) else none
 | .assign x=>if okX x=true then some (ev t x,s,[]) else none
 | .pick c x y=>
  if (okX c && okX x && okX y)=true then
   match ev t c with
   | .bool b=>some ((match (Zcs b s).1 with | true=>ev t x | false=>ev t y),(Zcs b s).2.1,(Zcs b s).2.2)
   | _=>none
  else none
 | .indexAddr ty x i=>
  if (okX x && okX i)=true then
   match s with
   | .inr (.inr (.inr (.inr (.inl _))))::s'=>
    match ZkM T.P ty (ev t x) (ev t i) with
    | some r=>some (r.1,s',r.2)
    | none=>none
   | _=>
    match ZkK T.P ty (ev t x) (ev t i) with
    | some v=>some (v,s,[])
    | none=>none
  else none
 | .fieldAddr ty x k=>
  if okX x=true then
   match ZkL T.P ty (ev t x) k with
   | some v=>some (v,s,[])
   | none=>none
  else none
 | .slice ty x lo hi mx=>
  if (okX x && Zdo lo t && Zdo hi t && Zdo mx t)=true then
   match Z49 T.P ty (ev t x) (lo.map (ev t)) (hi.map (ev t)) (mx.map (ev t)) s with
   | some r=>some r
   | none=>
   match ev t x with
   | .string _=>Zpr T.P t s o
   | _=>
    match ZkO T.P ty (ev t x) (lo.map (ev t)) (hi.map (ev t)) (mx.map (ev t)) with
    | some v=>some (v,s,[])
    | none=>none
  else none
 | .build ty parts=>
  if (parts.toList.all fun p=>okX p.2 && lt 0 (ev t p.2))=true then
   match ZkC T.P (Instr.build ty (parts.toList.map fun p=>(p.1,ev t p.2)).toArray) with
   | some v=>if lt 0 v=true then some (v,s,[]) else none
   | none=>none
  else if (parts.toList.all fun p=>okX p.2 && noT (ev t p.2))=true then
   match ZkY T.P ty (parts.toList.map fun p=>(p.1,ev t p.2)) with
   | some cs=>some (.agg cs,s,[])
   | none=>none
  else none
 | .call c=>
  match Z8p T.P t c with
  | some v=>some (v,s,[])
  | none=>
   match c.callee with
   | .builtin _=>Zpr T.P t s o
   | _=>none
 | .select _ _=>none
 | .extract x i=>
  if okX x=true then
   match ev t x with
   | .tuple vs=>
    match vs.toList[i]? with
    | some v=>if noT v=true then some (v,s,[]) else none
    | none=>none
   | _=>none
  else none
 | .index bty x y=>
  match T.sym with
  | true=>
   match (if (okX x && okX y)=true then Z8q T.P bty (ev t x) (ev t y) else none) with
   | some r=>some (r.1,s,r.2)
   | none=>Zpr T.P t s o
  | false=>Zpr T.P t s o
 | .binOp op bty x y _=>
  match T.sym with
  | true=>
   match (if (okX x && okX y)=true then Z48 op (ev t x) (ev t y) s else none) with
   | some r=>some r
   | none=>
   match (if (okX x && okX y)=true then Zzc op (ev t x) (ev t y) s else none) with
   | some r=>some r
   | none=>
   match (if (okX x && okX y)=true then ZsK op (ev t x) (ev t y) else none) with
   | some r=>some (r.1,s,r.2)
   | none=>
    match (if (okX x && okX y && lt 0 (ev t x) && lt 0 (ev t y))=true then eqS T.P op bty (ev t x) (ev t y) else none) with
    | some b=>some (.bool (ZjE b s).1,(ZjE b s).2.1,(ZjE b s).2.2)
    | none=>Zpr T.P t s o
  | false=>Zpr T.P t s o
 | _=>Zpr T.P t s o
def ZkZ (T:Tab) (t:List Value) (h:Hp) (s:List Dec) (o:Oper):ZtR:=
 match o.op with
 | .box e x=>if (okX x && noT (ev t x) && !(ro e))=true then some (.pointer (some ⟨h.n,0,none⟩),h.push (ZX (ev t x)) e,s,[]) else none
 | .alloc e=>
  match T.P.info? e with
  | some i=>
   match i.zero with
   | some z=>if (lt 0 z && noT z && !(ro e))=true then some (.pointer (some ⟨h.n,0,none⟩),h.push (ZX z) e,s,[]) else none
   | none=>none
  | none=>none
 | .load ty x=>
  if okX x=true then
   match ev t x with
   | .pointer (some a)=>
    match s with
    | .inr (.inr (.inr (.inr (.inr v))))::s'=>
     match Zpm T.P ty a h v with
     | some lg=>some (v,h,s',lg)
     | none=>none
    | _=>
     match ZjA T.P ty a h with
     | some v=>some (v,h,s,[])
     | none=>none
   | _=>none
  else none
 | .store ty x y=>
  if (okX x && okX y)=true then
   match ev t x with
   | .pointer (some a)=>
    match s with
    | .inr (.inr (.inr (.inr (.inl _))))::s'=>
     match ZkN T.P ty a (ev t y) h with
     | some r=>some (undef,r.1,s',r.2)
     | none=>none
    | _=>
     match Zii T.P ty a (ev t y) h with
     | some h'=>some (undef,h',s,[])
     | none=>none
   | _=>none
  else none
 | _=>
  match ZtW T.P t h s o with
  | some r=>some r
  | none=>
   match Ziq T t s o with
   | some r=>some (r.1,h,r.2.1,r.2.2)
   | none=>none
def Zzf (P:Program) (m:Mp) (n:Nat) (a:Act) (o:Oper) (v:Value):Prop:=
 (∀ w,(execOp a.eval o).run P w= .ok (.value (mv m v)) w)∧lt n v=true
theorem Zch {P:Program}{m:Mp}{n:Nat}{t:List Value}{s s':List Dec}{lg:Log}{a:Act}{o:Oper}{v:Value}
  (ha:a.tmps=(t.map (mv m)).toArray) (hns:∀ cs b,o.op≠ .select cs b) (hs:Zpr P t s o=some (v,s',lg)):Zzf P m n a o v:=by
 unfold Zpr at hs;split at hs
 ·rename_i hall;simp only[List.all_eq_true,Xh] at hall;have hc:execOp a.eval o=execOp (ev t) o:=execOp_congr o hns fun x hx=>by
   have:=hall x (by simpa using hx);rw[Z1 ha this.1,ZA this.2]
  split at hs
  ·rename_i u hu;split at hs
   ·rename_i hl;cases hs;exact⟨fun w=>by rw[hc,Zcr hu w,ZA hl],zG (Nat.zero_le _) hl⟩
   ·cases hs
  ·cases hs
 ·cases hs
theorem ZjG (P:Program) (w:World) (e:TypeId) (v:Value):(Instr.box e v).run P w= .ok (.pointer (some ⟨w.heap.size,0,none⟩)) (w.alloc (.cells v.cells e (0,0))):=by
 rfl
theorem Zgn {P:Program}{m:Mp}{B:Nat}{h:Hp}{w:World}{a:Act}{o:Oper}{e:TypeId}{z:Value}(E:Emb m B h w) (he:ro e=false) (hT:noT z=true) (hz:lt h.n z=true)
  (hr:(execOp a.eval o).run P w= .ok (.value (.pointer (some ⟨w.heap.size,0,none⟩))) (w.alloc (.cells (mv m z).cells e (0,0)))):
  Does P m B h w a o (.pointer (some ⟨h.n,0,none⟩)) (h.push (ZX z) e):=by
 rw[Zfk hT] at hr;have E':=E.push (ZX z) [] e he (Zfl hT hz) (k:=(ZX z).length) (by simp);rw[List.append_nil] at E';refine⟨upd m h.n (w.heap.size,(ZX z).length),_,_,hr,.inl ?_,⟨ZQ _ _ _,E',(Below.refl _ _).alloc E.base _,Nat.le_succ _,?_⟩⟩
 ·simp [mv,mv2,mv1,mvA,upd]
 ·simp [lt,lt2,lt1,Hp.push]
set_option maxHeartbeats 1000000 in
theorem Zgo {T:Tab}{m:Mp}{n:Nat}{t:List Value}{s s':List Dec}{lg:Log}{a:Act}{o:Oper}{v:Value}
  (ha:a.tmps=(t.map (mv m)).toArray) (ht:∀ v∈t,lt n v=true) (hs:Ziq T t s o=some (v,s',lg)) (hlg:Zx lg):Zzf T.P m n a o v:=by
 unfold Ziq at hs;split at hs
 ·
  rename_i x ho;split at hs
  ·rename_i hx;cases hs;exact⟨fun w=>(by simp [execOp,ho,Z1 ha hx]),ZaF ht hx⟩
  ·cases hs
 ·rename_i x ho;split at hs
  ·rename_i hx;cases hs;exact⟨fun w=>(by simp [execOp,ho,Z1 ha hx]),ZaF ht hx⟩
  ·cases hs
 ·
  rename_i c x y ho;split at hs
  ·rename_i hx;simp only[Xh] at hx;obtain⟨⟨hc,hx⟩,hy⟩:=hx;split at hs
   ·rename_i b hb;cases hs;have e:=Zd6 hlg;rw[e];refine⟨fun w=> ?_,?_⟩
    ·cases b<;>simp [execOp,ho,Z1 ha hx,Z1 ha hy,Z1 ha hc,hb,mv,mv2,mv1,asBool]
    ·cases b
     ·exact ZaF ht hy
     ·exact ZaF ht hx
   ·cases hs
  ·cases hs
 ·
  rename_i ty x i ho;split at hs
  ·rename_i hx;simp only[Xh] at hx;split at hs
   ·split at hs
    ·rename_i u hu;cases hs;exact⟨fun w=>by simp [execOp,ho,Z1 ha hx.1,Z1 ha hx.2,(ZeC (v:=u.1) (lg:=u.2) (m:=m) (ZaF ht hx.1) hu hlg w).1],(ZeC (v:=u.1) (lg:=u.2) (m:=m) (ZaF ht hx.1) hu hlg default).2⟩
    ·cases hs
   ·split at hs
    ·rename_i u hu;cases hs;exact⟨fun w=>by simp [execOp,ho,Z1 ha hx.1,Z1 ha hx.2,(ZeA (m:=m) (ZaF ht hx.1) hu w).1],(ZeA (m:=m) (ZaF ht hx.1) hu default).2⟩
    ·cases hs
  ·cases hs
 ·
  rename_i ty x k ho;split at hs
  ·rename_i hx;split at hs
   ·rename_i u hu;cases hs;exact⟨fun w=>by simp [execOp,ho,Z1 ha hx,(ZeB (m:=m) (ZaF ht hx) hu w).1],(ZeB (m:=m) (ZaF ht hx) hu default).2⟩
   ·cases hs
  ·cases hs
 ·
  rename_i ty x lo hi mx ho;split at hs
  ·rename_i hx;simp only[Xh] at hx;obtain⟨⟨⟨hx,hlo⟩,hhi⟩,hmx⟩:=hx;split at hs
   ·rename_i r hr;cases hs;have h0:=Zpt hr hlg m n;refine⟨fun w=> ?_,h0.2⟩;have h1:=h0.1 w;simp only[execOp,ho,Z1 ha hx,zd ha hlo,zd ha hhi,zd ha hmx,Sem.run_bind,h1,Result.andThen_ok,Sem.run_pure]
   split at hs
   ·exact Zch ha (by simp [ho]) hs
   split at hs
   ·rename_i u hu;cases hs;refine⟨fun w=> ?_,(ZeD (m:=m) (ZaF ht hx) hu default).2⟩;have h1:=(ZeD (m:=m) (ZaF ht hx) hu w).1;simp only[execOp,ho,Z1 ha hx,zd ha hlo,zd ha hhi,zd ha hmx,Sem.run_bind,h1,Result.andThen_ok,Sem.run_pure]
   ·cases hs
  ·cases hs
 ·
  rename_i ty parts ho;split at hs
  ·rename_i hall;simp only[List.all_eq_true,Xh] at hall;split at hs
   ·rename_i u hu;split at hs
    ·rename_i hl;cases hs;have e:(parts.map fun p=>(p.1,a.eval p.2))=(parts.toList.map fun p=>(p.1,ev t p.2)).toArray:=by
      have:(parts.map fun p=>(p.1,a.eval p.2))=(parts.map fun p=>(p.1,ev t p.2)):=Array.map_congr_left fun p hp=>by
       have:=hall p (by simpa using hp);rw[Z1 ha this.1,ZA this.2]
      rw[this];cases parts;simp
     refine⟨fun w=> ?_,zG (Nat.zero_le _) hl⟩;simp only[execOp,ho,Sem.run_bind,Sem.run_pure];have hr:=Zcr hu w;rw[← e] at hr;rw[ZA hl];simp only[hr,Result.andThen_ok]
    ·cases hs
   ·cases hs
  ·split at hs
   ·rename_i hall;simp only[List.all_eq_true,Xh] at hall;split at hs
    ·rename_i cs hcs;cases hs;obtain⟨b1,b2⟩:=ZjF (m:=m) (n:=n) hcs (fun p hp=>by
      obtain⟨q,hq,rfl⟩:=List.mem_map.1 hp;exact (hall q hq).2) (fun p hp=>by
      obtain⟨q,hq,rfl⟩:=List.mem_map.1 hp;exact ZaF ht (hall q hq).1)
     have e:(parts.map fun p=>(p.1,a.eval p.2))=((parts.toList.map fun p=>(p.1,ev t p.2)).map fun p=>(p.1,mv m p.2)).toArray:=by
      have:(parts.map fun p=>(p.1,a.eval p.2))=(parts.map fun p=>(p.1,mv m (ev t p.2))):=Array.map_congr_left fun p hp=>by
       rw[Z1 ha (hall p (by simpa using hp)).1]
      rw[this];cases parts;simp
     refine⟨fun w=> ?_,?_⟩
     ·simp only[execOp,ho,Sem.run_bind,Sem.run_pure];have hr:=run_build w ty (parts.map fun p=>(p.1,a.eval p.2)) (cs.map (mv1 m)) (by rw[e];exact b1);have em:mv m (.agg cs)= .agg (cs.map (mv1 m)):=rfl;rw[em];simp only[hr,Result.andThen_ok]
     ·show (cs.toList.all (lt1 n))=true;exact List.all_eq_true.2 fun c hc=>b2 c (by simpa using hc)
    ·cases hs
   ·cases hs
 ·
  rename_i c ho;split at hs
  ·rename_i u hu;cases hs;unfold Z8p at hu;split at hu
   ·rename_i x ty hcal hargs htys;split at hu
    ·rename_i hx;split at hu
     ·rename_i el ad n cp hun hev;cases hu;obtain⟨callee,args,tys⟩:=c;obtain⟨args⟩:=args;obtain⟨tys⟩:=tys;simp only at hcal hargs htys;subst hcal hargs htys;refine⟨fun w=> ?_,by simp [goInt,lt,lt2,lt1]⟩;have e:∃ ad' c',a.eval x= .slice ad' n c':=by
       rw[Z1 ha hx,hev];cases ad<;>exact⟨_,_,rfl⟩
      obtain⟨ad',c',e⟩:=e;simp [execOp,ho,resolve,invoke,builtin,Builtin.len_,underlying,hun,e,goInt,mv,mv2,mv1]
     ·cases hu
    ·cases hu
   ·cases hu
  ·split at hs
   ·exact Zch ha (by simp [ho]) hs
   ·cases hs
 ·cases hs
 ·
  rename_i x i ho;split at hs
  ·rename_i hx;split at hs
   ·rename_i vs hvs;split at hs
    ·rename_i u hu;split at hs
     ·rename_i hT;cases hs;have e:a.eval x= .tuple (vs.map (mv2 m)):=by rw[Z1 ha hx,hvs];rfl
      have hl:=ZaF ht hx;rw[hvs] at hl;simp only[lt,List.all_eq_true] at hl;have hl':=hl v (List.mem_of_getElem? hu);have e2:mv m v=mv2 m v:=by cases v<;>first | rfl | simp [noT] at hT
      have e3:lt n v=lt2 n v:=by cases v<;>first | rfl | simp [noT] at hT
      refine⟨fun w=> ?_,by rw[e3];exact hl'⟩;have hg:(vs.map (mv2 m))[i]? =some (mv2 m v):=by
       rw[Array.getElem?_map,← Array.getElem?_toList,hu];rfl
      simp [execOp,ho,e,Instr.extract,hg,e2]
     ·cases hs
    ·cases hs
   ·cases hs
  ·cases hs
 ·
  rename_i ty x y ho;split at hs
  ·split at hs
   ·rename_i r hr;cases hs;split at hr
    ·rename_i hx;simp only[Xh] at hx;unfold Z8q at hr;split at hr
     ·rename_i bs k i hu e1 e2;cases hr;have hb:=hlg _ Xf;simp only[Xi] at hb;refine⟨fun w=> ?_,by simp [lt,lt2,lt1]⟩;have hg:bs[i.toNat]? =some (bs.data.toList.getD i.toNat 0):=by
       have h1:i.toNat<bs.size:=by have:=hb.2;rw[Array.length_toList] at this;exact this
       rw[getElem?_pos bs i.toNat h1];congr 1;rw[List.getD,List.getElem?_eq_getElem hb.2];rfl
      simp [execOp,ho,Z1 ha hx.1,Z1 ha hx.2,e1,e2,mv,mv2,mv1,Instr.index,asIntOf,underlying,hu,hb.1,hg]
     ·cases hr
    ·cases hr
   ·exact Zch ha (by simp [ho]) hs
  ·exact Zch ha (by simp [ho]) hs
 ·
  rename_i op ty x y ty' ho;split at hs
  ·split at hs
   ·rename_i r hr;cases hs;split at hr
    ·rename_i hx;simp only[Xh] at hx;have h0:=Zps (P:=T.P) hr hlg ty x y m n;refine⟨fun w=> ?_,h0.2⟩;have h1:=h0.1 w;unfold execOp;rw[ho];simp only[Z1 ha hx.1,Z1 ha hx.2];rw[Sem.run_bind,h1];rfl
    ·cases hr
   split at hs
   ·rename_i r hr;cases hs;split at hr
    ·rename_i hx;simp only[Xh] at hx;unfold Zzc at hr;split at hr
     ·rename_i q s0;split at hr
      ·rename_i k n k' b e1 e2;split at hr
       ·rename_i hk;subst hk;cases hr;have h1:=hlg _ (Xe);have h2:=hlg _ (Xd _ Xf);simp only[decide_eq_false_iff_not,Xi] at h1 h2;refine⟨fun w=> ?_,by simp [lt,lt2,lt1]⟩;simp [execOp,ho,Z1 ha hx.1,Z1 ha hx.2,e1,e2,mv,mv2,mv1,eqGuard,binOp,Op.intDiv,h1,h2]
       ·cases hr
      ·cases hr
     ·rename_i d s0;split at hr
      ·rename_i k n k' b e1 e2;split at hr
       ·rename_i hk;subst hk;split at hr<;>cases hr
        ·have h1:=hlg _ Xf;simp only[decide_eq_false_iff_not] at h1;refine⟨fun w=> ?_,by simp [lt,lt2,lt1]⟩;simp [execOp,ho,Z1 ha hx.1,Z1 ha hx.2,e1,e2,mv,mv2,mv1,eqGuard,binOp,Op.intDiv,h1]
        all_goals
         have h1:=hlg _ Xf;simp only at h1;refine⟨fun w=> ?_,by simp [lt,lt2,lt1]⟩;rw[← h1];simp [execOp,ho,Z1 ha hx.1,Z1 ha hx.2,e1,e2,mv,mv2,mv1,eqGuard,binOp,Op.intCmp]
       ·cases hr
      ·cases hr
     ·cases hr
    ·cases hr
   split at hs
   ·rename_i r hr;cases hs;split at hr
    ·rename_i hx;simp only[Xh] at hx;unfold ZsK at hr;split at hr
     ·rename_i k n k' b e1 e2 _ _;cases hr;have hb:¬ b<0:=by have:=hlg _ Xf;simpa using this
      refine⟨fun w=> ?_,by simp [lt,lt2,lt1]⟩;simp [execOp,ho,Z1 ha hx.1,Z1 ha hx.2,e1,e2,mv,mv2,mv1,eqGuard,binOp,Op.shift,hb]
     ·rename_i k n k' b e1 e2 _ _;cases hr;have hb:¬ b<0:=by have:=hlg _ Xf;simpa using this
      refine⟨fun w=> ?_,by simp [lt,lt2,lt1]⟩;simp [execOp,ho,Z1 ha hx.1,Z1 ha hx.2,e1,e2,mv,mv2,mv1,eqGuard,binOp,Op.shift,hb]
     ·cases hr
    ·cases hr
   ·split at hs
    ·rename_i r hr;cases hs;split at hr
     ·rename_i hx;simp only[Xh] at hx;obtain⟨⟨⟨hx1,hx2⟩,hx3⟩,hx4⟩:=hx;have e:=Zpu hlg;rw[e];refine⟨fun w=> ?_,by simp [lt,lt2,lt1]⟩;have h1:=ZtX hr x y w;unfold execOp;rw[ho];simp only[Z1 ha hx1,Z1 ha hx2,ZA hx3,ZA hx4];rw[Sem.run_bind,h1];rfl
     ·cases hr
    ·exact Zch ha (by simp [ho]) hs
  ·exact Zch ha (by simp [ho]) hs
 ·rename_i hns _;exact Zch ha (by intro cs b hh;simp_all) hs
theorem Zla {T:Tab}{m:Mp}{B:Nat}{t:List Value}{h h':Hp}{s s':List Dec}{lg:Log}{w:World}{a:Act}{o:Oper}{v:Value}
  (ha:a.tmps=(t.map (mv m)).toArray) (E:Emb m B h w) (ht:∀ v∈t,lt h.n v=true) (hs:ZkZ T t h s o=some (v,h',s',lg)) (hlg:Zx lg):Does T.P m B h w a o v h':=by
 unfold ZkZ at hs;split at hs
 ·
  rename_i e x ho;split at hs
  ·rename_i hx;simp only[Xh,Bool.not_eq_true'] at hx;cases hs;exact Zgn E hx.2 hx.1.2 (ZaF ht hx.1.1) (by simp [execOp,ho,Z1 ha hx.1.1,ZjG])
  ·cases hs
 ·
  rename_i e ho;split at hs
  ·rename_i i hi;split at hs
   ·rename_i z hz;split at hs
    ·rename_i hc;simp only[Xh,Bool.not_eq_true'] at hc;cases hs;refine Zgn E hc.2 hc.1.2 (zG (Nat.zero_le _) hc.1.1) ?_;rw[ZA hc.1.1];simp [execOp,ho,Instr.alloc,zeroValue,typeInfo,hi,hz,newVar,newRow]
    ·cases hs
   ·cases hs
  ·cases hs
 ·
  rename_i ty x ho;split at hs
  ·rename_i hx;split at hs
   ·rename_i ad had;have e:a.eval x= .pointer (some (mvA m ad)):=by rw[Z1 ha hx,had];rfl
    split at hs
    ·split at hs
     ·rename_i lg' hu;cases hs;obtain⟨h1,h2⟩:=Zij (P:=T.P) (fun y hy=>E.lies _ y hy) (fun y hy=>E.wf _ y hy) hu hlg;refine Does.still E ?_ h2;simp only[execOp,ho,e,Sem.run_bind,h1,Result.andThen_ok,Sem.run_pure]
     ·cases hs
    ·split at hs
     ·rename_i u hu;cases hs;obtain⟨h1,h2⟩:=Zgl (P:=T.P) E hu;refine Does.still E ?_ h2;simp only[execOp,ho,e,Sem.run_bind,h1,Result.andThen_ok,Sem.run_pure]
     ·cases hs
   ·cases hs
  ·cases hs
 ·
  rename_i ty x y ho;split at hs
  ·rename_i hx;simp only[Xh] at hx;split at hs
   ·rename_i ad had;have e:a.eval x= .pointer (some (mvA m ad)):=by rw[Z1 ha hx.1,had];rfl
    split at hs
    ·split at hs
     ·rename_i r hu;cases hs;obtain⟨w',h2,h3,h4,h5⟩:=ZjC (P:=T.P) (h':=r.1) (lg:=r.2) E (ZaF ht hx.2) hu hlg;refine⟨m,w',.skip,?_,.inr ⟨rfl,rfl⟩,⟨Agree.refl _ _,h3,h4,by omega,by simp [undef,lt]⟩⟩;simp [execOp,ho,e,Z1 ha hx.2,h2]
     ·cases hs
    ·split at hs
     ·rename_i h1 hu;cases hs;obtain⟨w',h2,h3,h4,h5⟩:=Ze9 (P:=T.P) E (ZaF ht hx.2) hu;refine⟨m,w',.skip,?_,.inr ⟨rfl,rfl⟩,⟨Agree.refl _ _,h3,h4,by omega,by simp [undef,lt]⟩⟩;simp [execOp,ho,e,Z1 ha hx.2,h2]
     ·cases hs
   ·cases hs
  ·cases hs
 ·split at hs
  ·rename_i r hr;cases hs;exact Zpq ha E ht hr hlg
  ·split at hs
   ·rename_i r hr;cases hs;have:=Zgo (n:=h.n) ha ht hr hlg;exact Does.still E (this.1 w) this.2
   ·cases hs
def Zhs:Value→Option Nat
 | .pointer (some a)=>some a.block
 | .slice (some a) _ _=>some a.block
 | _=>none
def Zzg (ops:List Oper) (d:Tmp):Option Op:=
 match ops with
 | []=>none
 | o::l=>if (match o.dst with | some e=>Nat.beq e d | none=>false)=true then some o.op else Zzg l d
def Zdr (ops:List Oper) (t:List Value):Nat→Operand→Option Nat
 | 0,_=>none
 | n+1,.tmp d=>
  match Zzg ops d with
  | some (.indexAddr _ x _)=>Zdr ops t n x
  | some (.fieldAddr _ x _)=>Zdr ops t n x
  | some (.move x)=>Zdr ops t n x
  | some (.slice _ x _ _ _)=>Zdr ops t n x
  | some (.nilCheck x)=>Zdr ops t n x
  | some _=>none
  | none=>Zhs (t.getD d undef)
 | _,_=>none
def Zzh (ops:List Oper) (t:List Value) (o:Oper):List Nat:=
 match o.op with
 | .store _ x _=>(Zdr ops t 6 x).toList
 | .call ⟨.value _,args,_⟩=>args.toList.flatMap fun x=>(Zdr ops t 6 x).toList
 | _=>[]
def Zzi (ops:List Oper) (t:List Value) (bad:List Nat) (n:Nat):List Oper→List Nat→List Nat
 | [],acc=>acc
 | o::l,acc=>
  match o.op with
  | .load _ x=>
   match Zdr ops t 6 x with
   | some b=>if (Nat.blt b n && !(bad.contains b) && !(acc.contains b))=true then Zzi ops t bad n l (b::acc) else Zzi ops t bad n l acc
   | none=>Zzi ops t bad n l acc
  | _=>Zzi ops t bad n l acc
def roB (h:Hp) (b:Nat):Bool:=
 match h.blk? b with
 | some x=>ro x.2
 | none=>false
def Zpv (ops:List Oper) (t:List Value) (h:Hp):List Nat:=Zzi ops t ((ops.flatMap (Zzh ops t)).filter fun b=> !(roB h b)) h.n ops []
abbrev Lf:=List Value×Hp×List Dec
abbrev Bp:=Option (List Value×TypeId)
structure Lg where
 cs:Log
 es:List (Lf×Lf)
 bs:List (Bp×Bp)
def Lg.ok (L:Lg):Prop:=Zx L.cs∧(∀ e∈L.es,e.1=e.2)∧∀ e∈L.bs,e.1=e.2
def Lg.add (lg:Log) (L:Lg):Lg:=⟨lg++L.cs,L.es,L.bs⟩
theorem Lg.add_ok {lg:Log}{L:Lg}(h:(Lg.add lg L).ok):Zx lg∧L.ok:=
 ⟨fun x hx=>h.1 x (List.mem_append_left _ hx),fun x hx=>h.1 x (List.mem_append_right _ hx),h.2⟩
abbrev ZbZ:=Nat→List Value→Hp→List Dec→Lg→Option (Value×Hp×List Dec×Lg)
def Za0 (w w':World):Prop:=Below w.heap.size w w'∧∀ k,w.heap.size≤k→k<w'.heap.size→Z42 w'.heap[k]?
structure TabOk (T:Tab):Prop where
 mixed:T.P.follows .mixedOrders=true
 ext:∀ f vals v lg,T.ext f vals=some (v,lg)→Zx lg→∀ w,(callFunc f vals.toArray).run T.P w= .ok (.value v) w
 con:∀ f vals s v s' lg,T.con f vals s=some (v,s',lg)→Zx lg→(∃ F,T.P.funcs[f]? =some F∧(F.name== "runtime.NumGoroutine")=false∧F.body.isSome=true)∧∀ w,Calls T.P f vals.toArray w fun e w'=>e= .returned v∧Za0 w w'
 fn:∀ f F,T.fn f=some F→T.P.funcs[f]? =some F∧(F.name== "runtime.NumGoroutine")=false
 hc:∀ f vals h s v h' s' lg,T.hc f vals h s=some (v,h',s',lg)→Zx lg→(∃ F,T.P.funcs[f]? =some F∧(F.name== "runtime.NumGoroutine")=false∧F.body.isSome=true)∧
  ∀ m B w,Emb m B h w→(∀ v∈vals,lt h.n v=true)→Calls T.P f (vals.map (mv m)).toArray w fun e w'=>∃ m',e= .returned (mv m' v)∧Came m B h w v h' m' w'
structure Rel (m:Mp) (B:Nat) (x:Lf) (a:Act) (w:World):Prop where
 tmps:a.tmps=(x.1.map (mv m)).toArray
 dfr:a.defers=[]
 emb:Emb m B x.2.1 w
 wf:∀ v∈x.1,lt x.2.1.n v=true
def Reach (m:Mp) (B n:Nat) (w:World) (x':Lf) (a':Act) (w':World):Prop:=
 ∃ m',Agree m m' n∧Rel m' B x' a' w'∧Below B w w'∧n≤x'.2.1.n
theorem Reach.trans {m m':Mp}{B n n':Nat}{w w':World}{x:Lf}{a:Act}{w'':World}(h1:Agree m m' n) (h2:Below B w w') (h3:n≤n') (h:Reach m' B n' w' x a w''):Reach m B n w x a w'':=by
 obtain⟨m'',k1,k2,k3,k4⟩:=h;exact⟨m'',h1.trans k1 h3,k2,h2.trans k3,Nat.le_trans h3 k4⟩
def Zfr (t:List Value):Option Tmp→Value→List Value
 | none,_=>t
 | some d,v=>t.set d v
theorem Rel.put {m m':Mp}{B:Nat}{x:Lf}{a:Act}{w w':World}(R:Rel m B x a w) {v:Value}{h':Hp}(hm:Agree m m' x.2.1.n) (E:Emb m' B h' w') (hn:x.2.1.n≤h'.n) (hv:lt h'.n v=true) (d:Option Tmp) (s':List Dec):
  Rel m' B (Zfr x.1 d v,h',s') (a.put d (mv m' v)) w':=by
 have e:x.1.map (mv m)=x.1.map (mv m'):=List.map_congr_left fun y hy=>(Zpk hm (R.wf y hy)).symm;refine⟨?_,?_,E,?_⟩
 ·cases d with
  | none=>simp only[Act.put,Zfr];rw[R.tmps,e]
  | some d=>simp only[Act.put,Zfr];rw[R.tmps,e,List.map_set,List.setIfInBounds_toArray]
 ·cases d<;>exact R.dfr
 ·intro y hy;cases d with
  | none=>exact zG hn (R.wf y hy)
  | some d=>
   simp only[Zfr] at hy;rcases List.mem_or_eq_of_mem_set hy with hy | hy
   ·exact zG hn (R.wf y hy)
   ·subst hy;exact hv
theorem Reach.put {m m':Mp}{B:Nat}{x:Lf}{a:Act}{w w':World}(R:Rel m B x a w) {v:Value}{h':Hp}(C:Came m B x.2.1 w v h' m' w') (d:Option Tmp) (s':List Dec):
  Reach m B x.2.1.n w (Zfr x.1 d v,h',s') (a.put d (mv m' v)) w':=
 ⟨m',C.agree,R.put C.agree C.emb C.grown C.val d s',C.below,C.grown⟩
theorem Reach.undef {m:Mp}{B:Nat}{x:Lf}{a:Act}{w:World}(R:Rel m B x a w) (d:Option Tmp) (s':List Dec):
  Reach m B x.2.1.n w (Zfr x.1 d undef,x.2.1,s') (a.put d undef) w:=by
 have:=Reach.put (v:=Go.undef) R ⟨Agree.refl _ _,R.emb,Below.refl _ _,Nat.le_refl _,by simp [Go.undef,lt]⟩ d s';rw[zu] at this;exact this
def Zbc (ops:Array Oper) (t:List Value) (s:List Dec) (o:Oper):Bool×List Dec×Log:=
 match o.guard with
 | none=>(true,s,[])
 | some g=>
  match (ops[g.1]?).bind (·.dst) with
  | none=>(false,s,[])
  | some d=>
   match t[d]? with
   | some (.bool b)=>((Zcs b s).1==g.2,(Zcs b s).2.1,(Zcs b s).2.2)
   | some (.iface _ _)=>(false,s,[(true,false)])
   | _=>(false,s,[])
theorem ZtY {m:Mp}{v:Value}{b:Bool}(hv:∀ t u,v≠ .iface t u) (h:mv m v= .bool b):v= .bool b:=by
 cases v with
 | bool c=>simpa [mv,mv2,mv1] using h
 | pointer a=>cases a<;>simp [mv,mv2,mv1] at h
 | slice a l c=>cases a<;>simp [mv,mv2,mv1] at h
 | iface t u=>exact absurd rfl (hv t u)
 | _=>simp [mv,mv2,mv1] at h
theorem Zbm {m:Mp}{ops:Array Oper}{t:List Value}{a:Act}(ha:a.tmps=(t.map (mv m)).toArray) {s:List Dec}{o:Oper}(h:Zx (Zbc ops t s o).2.2):
  (Zbc ops t s o).1=Region.wanted o (yielded ops a.tmps):=by
 unfold Zbc Region.wanted yielded at*;cases hg:o.guard with
 | none=>rfl
 | some g=>
  rw[hg] at h;obtain⟨j,want⟩:=g;simp only at h ⊢;cases hd:(ops[j]?).bind (·.dst) with
  | none=>simp
  | some d=>
   simp only[hd] at h ⊢;rw[ha];simp only[Option.bind_some,List.getElem?_toArray,List.getElem?_map];cases ht:t[d]? with
   | none=>simp
   | some v=>
    simp only[ht] at h;simp only[Option.map_some];split at h
    ·rename_i b hb;cases hb;have e:=Zd6 h;simp only[mv,mv2,mv1];rw[e];rfl
    ·have:=h _ Xf;cases this
    ·rename_i hb hi;have:∀ b,mv m v≠ .bool b:=fun b hbb=>hb b (by rw[ZtY (fun t u e=>hi t u (by rw[e])) hbb]);split
     ·rename_i b hbb;exact absurd (Option.some.inj hbb) (this b)
     ·rfl
def ZsL (t:List Value):Op→Option (Nat×List Operand)
 | .call ⟨.value (.func f),args,_⟩=>some (f,args.toList)
 | .call ⟨.value (.tmp k),args,_⟩=>
  match t.getD k undef with
  | .func (.func f) ⟨[]⟩ ⟨[]⟩=>some (f,args.toList)
  | _=>none
 | _=>none
def ZtZ (T:Tab) (call:ZbZ) (o:Oper) (x:Lf) (L:Lg):Option (Lf×Lg):=
 match ZsL x.1 o.op with
 | some c=>
  if (c.2.all okX)=true then
   match T.ext c.1 (c.2.map (ev x.1)) with
   | some r=>if ((c.2.map (ev x.1)).all (lt 0) && lt 0 r.1)=true then some ((Zfr x.1 o.dst r.1,x.2.1,x.2.2),Lg.add r.2 L) else none
   | none=>
    match T.con c.1 (c.2.map (ev x.1)) x.2.2 with
    | some r=>if ((c.2.map (ev x.1)).all (lt 0) && lt 0 r.1)=true then some ((Zfr x.1 o.dst r.1,x.2.1,r.2.1),Lg.add r.2.2 L) else none
    | none=>
     match T.hc c.1 (c.2.map (ev x.1)) x.2.1 x.2.2 with
     | some r=>some ((Zfr x.1 o.dst r.1,r.2.1,r.2.2.1),Lg.add r.2.2.2 L)
     | none=>
      match call c.1 (c.2.map (ev x.1)) x.2.1 x.2.2 L with
      | some (v,h',s',L')=>
       match Nat.beq h'.n x.2.1.n with
       | true=>some ((Zfr x.1 o.dst v,h',s'),L')
       | false=>if (lt 0 v && (h'.cut x.2.1.n).tight)=true then some ((Zfr x.1 o.dst v,h'.cut x.2.1.n,s'),L') else some ((Zfr x.1 o.dst v,h',s'),L')
      | none=>none
  else none
 | none=>
  match ZkZ T x.1 x.2.1 x.2.2 o with
  | some r=>some ((Zfr x.1 o.dst r.1,r.2.1,r.2.2.1),Lg.add r.2.2.2 L)
  | none=>none
def Zds (T:Tab) (call:ZbZ):Prop:=∀ f vals h s L v h' s' L',call f vals h s L=some (v,h',s',L')→L'.ok→L.ok∧
 (∃ F,T.P.funcs[f]? =some F∧(F.name== "runtime.NumGoroutine")=false∧F.body.isSome=true)∧
 ∀ m B w,Emb m B h w→(∀ v∈vals,lt h.n v=true)→Calls T.P f (vals.map (mv m)).toArray w fun e w'=>∃ m',e= .returned (mv m' v)∧Came m B h w v h' m' w'
theorem ZbC {P:Program}{f:Nat}{F:Func}(hf:P.funcs[f]? =some F) (hn:(F.name== "runtime.NumGoroutine")=false) (hb:F.body.isSome=true) (args:Array Value) (w:World):
  (callFunc f args).run P w= .ok (.enter f args) w:=by
 have h1:F.name≠ "runtime.NumGoroutine" :=by simpa using hn
 obtain⟨c,hc⟩:=Option.isSome_iff_exists.1 hb;simp [callFunc,hf,h1,hc]
theorem Zd7 {P:Program}{a:Act}{o:Oper}{f:Nat}{cal:Operand}{args:Array Operand}{tys:Array TypeId}(ho:o.op= .call ⟨.value cal,args,tys⟩) (he:a.eval cal= .func (.func f) #[] #[]) (w:World):
  (execOp a.eval o).run P w=(callFunc f (args.map a.eval)).run P w:=by
 unfold execOp;rw[ho];simp [resolve,he,Deferred.ofValue,invoke]
theorem ZT {m:Mp}{B:Nat}{h:Hp}{w w':World}(E:Emb m B h w) (C:Za0 w w'):Emb m B h w'∧Below B w w':=by
 refine⟨⟨E.len,fun b x hb hx=> ?_,E.low,E.ros,E.inj,E.wf,Nat.le_trans E.base C.1.size,fun k hk hk'=> ?_,fun b x hb hx=> ?_⟩,C.1.mono E.base⟩
 ·exact (E.lies b x hb hx).congr (C.1.block _ (E.here hb hx))
 ·by_cases h1:k<w.heap.size
  ·rw[C.1.block k h1];exact E.ice k hk h1
  ·exact C.2 k (by omega) hk'
 ·obtain⟨k1,k2⟩:=E.abs b x hb hx;have hB:=E.base;have hlt:nbA x.2<w.heap.size:=Nat.lt_of_lt_of_le k1 hB;exact⟨k1,k2.congr (C.1.block _ hlt)⟩
theorem Zlb {m:Mp}{t:List Value}{a:Act}(ha:a.tmps=(t.map (mv m)).toArray) {args:Array Operand}(h:∀ x∈args.toList,okX x=true):
  args.map a.eval=((args.toList.map (ev t)).map (mv m)).toArray:=by
 have:args.map a.eval=args.map fun x=>mv m (ev t x):=Array.map_congr_left fun x hx=>Z1 ha (h x (by simpa using hx));rw[this];cases args;simp
theorem Zpw {T:Tab}(hT:TabOk T) {call:ZbZ}(hC:Zds T call) {o:Oper}{x x':Lf}{L L':Lg}(hs:ZtZ T call o x L=some (x',L')) (hL:L'.ok):
  L.ok∧∀ m B a w,Rel m B x a w→∀ (Q:Exit→Act→World→Prop) (K:Act→World→Prop),(∀ a' w',Reach m B x.2.1.n w x' a' w'→K a' w')→o.wp T.P a w K Q:=by
 unfold ZtZ at hs;split at hs
 ·rename_i c hc;have hop:∃ cal args tys,o.op= .call ⟨.value cal,args,tys⟩∧c.2=args.toList∧okX cal=true∧ev x.1 cal= .func (.func c.1) #[] #[]:=by
   unfold ZsL at hc;split at hc
   ·rename_i f args tys hop;cases hc;exact⟨_,args,tys,hop,rfl,rfl,rfl⟩
   ·rename_i k args tys hop;split at hc
    ·rename_i f hk;cases hc;exact⟨_,args,tys,hop,rfl,rfl,hk⟩
    ·cases hc
   ·cases hc
  obtain⟨cal,args,tys,hop,hargs,hox,hoe⟩:=hop;have hev:∀ (m:Mp) (a:Act) (_:a.tmps=(x.1.map (mv m)).toArray),a.eval cal= .func (.func c.1) #[] #[]:=fun m a ha=>by
   rw[Z1 ha hox,hoe];simp [mv,mv2,mv1]
  split at hs
  ·rename_i hall;simp only[List.all_eq_true] at hall;rw[hargs] at hall;have stillArgs:∀ (m:Mp) (a:Act) (_:a.tmps=(x.1.map (mv m)).toArray),((c.2.map (ev x.1)).all (lt 0))=true→args.map a.eval=(c.2.map (ev x.1)).toArray:=by
    intro m a ha hst;rw[Zlb ha hall,hargs];congr 1;refine (List.map_congr_left fun y hy=>ZA (List.all_eq_true.1 hst y ?_)).trans (List.map_id' _);rw[hargs];exact hy
   split at hs
   ·rename_i r hr;split at hs
    ·rename_i hst;simp only[Xh] at hst;cases hs;obtain⟨h1,h2⟩:=Lg.add_ok hL;refine⟨h2,fun m B a w R Q K hK=> ?_⟩;have hrun:=hT.ext _ _ _ _ hr h1 w;rw[← stillArgs m a R.tmps hst.1] at hrun;unfold Oper.wp;rw[Zd7 hop (hev m a R.tmps),hrun];simp only[Oper.upon];have:=Reach.put R ⟨Agree.refl m _,R.emb,Below.refl _ _,Nat.le_refl _,zG (Nat.zero_le _) hst.2⟩ o.dst x.2.2;rw[ZA hst.2] at this;exact hK _ _ this
    ·cases hs
   ·split at hs
    ·rename_i r hr;split at hs
     ·rename_i hst;simp only[Xh] at hst;cases hs;obtain⟨h1,h2⟩:=Lg.add_ok hL;refine⟨h2,fun m B a w R Q K hK=> ?_⟩;obtain⟨⟨F,hF,hFn,hFb⟩,hcalls⟩:=hT.con _ _ _ _ _ _ hr h1;have hrun:=ZbC hF hFn hFb (args.map a.eval) w;unfold Oper.wp;rw[Zd7 hop (hev m a R.tmps),hrun];simp only[Oper.upon];rw[stillArgs m a R.tmps hst.1];refine (hcalls w).mono fun e w' he=> ?_;obtain⟨rfl,hcl⟩:=he;obtain⟨E',hb⟩:=ZT R.emb hcl;have:=Reach.put R ⟨Agree.refl m _,E',hb,Nat.le_refl _,zG (Nat.zero_le _) hst.2⟩ o.dst r.2.1;rw[ZA hst.2] at this;exact hK _ _ this
     ·cases hs
    ·split at hs
     ·rename_i r hr;cases hs;obtain⟨h1,h2⟩:=Lg.add_ok hL;refine⟨h2,fun m B a w R Q K hK=> ?_⟩;obtain⟨⟨F,hF,hFn,hFb⟩,hcalls⟩:=hT.hc _ _ _ _ _ _ _ _ hr h1;have hrun:=ZbC hF hFn hFb (args.map a.eval) w;unfold Oper.wp;rw[Zd7 hop (hev m a R.tmps),hrun];simp only[Oper.upon];rw[Zlb R.tmps hall,← hargs];refine (hcalls m B w R.emb (fun y hy=> ?_)).mono fun e w' he=> ?_
      ·obtain⟨z,hz,rfl⟩:=List.mem_map.1 hy;exact ZaF R.wf (hall z (hargs ▸ hz))
      ·obtain⟨m',rfl,C⟩:=he;exact hK _ _ (Reach.put R C o.dst _)
     ·split at hs
      ·rename_i v h' s' L1 hcall;have hres:L1=L':=by
        split at hs
        ·cases hs;rfl
        ·split at hs<;>(cases hs;rfl)
       subst hres;obtain⟨h2,⟨F,hF,hFn,hFb⟩,hcalls⟩:=hC _ _ _ _ _ _ _ _ _ hcall hL;refine⟨h2,fun m B a w R Q K hK=> ?_⟩;have hrun:=ZbC hF hFn hFb (args.map a.eval) w;unfold Oper.wp;rw[Zd7 hop (hev m a R.tmps),hrun];simp only[Oper.upon];rw[Zlb R.tmps hall,← hargs];refine (hcalls m B w R.emb (fun y hy=> ?_)).mono fun e w' he=> ?_
       ·obtain⟨z,hz,rfl⟩:=List.mem_map.1 hy;exact ZaF R.wf (hall z (hargs ▸ hz))
       ·obtain⟨m',rfl,C⟩:=he;split at hs
        ·cases hs;exact hK _ _ (Reach.put R C o.dst s')
        split at hs
        ·rename_i hcut;simp only[Xh] at hcut;cases hs;have:=Reach.put R ⟨Agree.refl m _,C.emb.cut C.agree C.grown hcut.2,C.below,by simp [Hp.cut],zG (Nat.zero_le _) hcut.1⟩ o.dst s';rw[ZA hcut.1] at this;rw[ZA hcut.1];exact hK _ _ this
        ·cases hs;exact hK _ _ (Reach.put R C o.dst s')
      ·cases hs
  ·cases hs
 ·split at hs
  ·rename_i r hr;cases hs;obtain⟨h1,h2⟩:=Lg.add_ok hL;refine⟨h2,fun m B a w R Q K hK=> ?_⟩;obtain⟨m',w',nx,hrun,hnx,C⟩:=Zla (v:=r.1) (h':=r.2.1) (s':=r.2.2.1) (lg:=r.2.2.2) R.tmps R.emb R.wf hr h1;unfold Oper.wp;rw[hrun];rcases hnx with rfl | ⟨rfl,hv⟩
   ·simp only[Oper.upon];exact hK _ _ (Reach.put R C o.dst _)
   ·simp only[Oper.upon];have:=Reach.put R C o.dst r.2.2.1;rw[hv,zu] at this;rw[← hv] at this;exact hK _ _ (by rw[← hv] at*;exact this)
  ·cases hs
def opS (T:Tab) (call:ZbZ) (ops:Array Oper) (o:Oper) (x:Lf) (L:Lg):Option (Lf×Lg):=
 match (Zbc ops x.1 x.2.2 o).1 with
 | true=>ZtZ T call o (x.1,x.2.1,(Zbc ops x.1 x.2.2 o).2.1) (Lg.add (Zbc ops x.1 x.2.2 o).2.2 L)
 | false=>some ((Zfr x.1 o.dst undef,x.2.1,(Zbc ops x.1 x.2.2 o).2.1),Lg.add (Zbc ops x.1 x.2.2 o).2.2 L)
theorem Zgp {T:Tab}(hT:TabOk T) {call:ZbZ}(hC:Zds T call) {ops:Array Oper}{i:Nat}{o:Oper}(hi:ops[i]? =some o) {x x':Lf}{L L':Lg}(hs:opS T call ops o x L=some (x',L')) (hL:L'.ok):
  L.ok∧∀ m B a w,Rel m B x a w→∀ (Q:Exit→Act→World→Prop) (K:Act→World→Prop),(∀ a' w',Reach m B x.2.1.n w x' a' w'→K a' w')→wpOp T.P ops Q i K a w:=by
 unfold opS at hs;cases hw:(Zbc ops x.1 x.2.2 o).1 with
 | true=>
  rw[hw] at hs;simp only at hs;obtain⟨h1,h2⟩:=Zpw hT hC hs hL;obtain⟨h3,h4⟩:=Lg.add_ok h1;refine⟨h4,fun m B a w R Q K hK=> ?_⟩;have e:=Zbm R.tmps h3;rw[hw] at e;unfold wpOp;simp only[hi,← e,if_true];exact .inl (h2 m B a w ⟨R.tmps,R.dfr,R.emb,R.wf⟩ Q K hK)
 | false=>
  rw[hw] at hs;simp only at hs;cases hs;obtain⟨h3,h4⟩:=Lg.add_ok hL;refine⟨h4,fun m B a w R Q K hK=> ?_⟩;have e:=Zbm R.tmps h3;rw[hw] at e;unfold wpOp;simp only[hi,← e,Bool.false_eq_true,if_false];exact hK _ _ (Reach.undef R o.dst _)
def Zlc (T:Tab) (call:ZbZ) (ops:Array Oper):List Oper→Lf→Lg→Option (Lf×Lg)
 | [],x,L=>some (x,L)
 | o::l,x,L=>
  match opS T call ops o x L with
  | some r=>Zlc T call ops l r.1 r.2
  | none=>none
theorem Zpx {T:Tab}(hT:TabOk T) {call:ZbZ}(hC:Zds T call) {ops:Array Oper}:∀ (l:List Oper) (k:Nat) (_:ops.toList.drop k=l) (x x':Lf) (L L':Lg),Zlc T call ops l x L=some (x',L')→L'.ok→
  L.ok∧∀ m B a w,Rel m B x a w→∀ Q:Exit→Act→World→Prop,(∀ a' w',Reach m B x.2.1.n w x' a' w'→Q .normal a' w')→wpOps T.P ops Q (List.range' k l.length) a w:=by
 intro l
 induction l with
 | nil=>
  intro k _ x x' L L' hs hL;simp only[Zlc] at hs;cases hs;exact⟨hL,fun m B a w R Q hQ=>hQ _ _ ⟨m,Agree.refl _ _,R,Below.refl _ _,Nat.le_refl _⟩⟩
 | cons o l ih=>
  intro k hk x x' L L' hs hL;simp only[Zlc] at hs;split at hs
  ·rename_i r hr;have hi:ops[k]? =some o:=by
    have:(ops.toList.drop k)[0]? =some o:=by rw[hk];rfl
    rw[List.getElem?_drop] at this;simpa using this
   have hk':ops.toList.drop (k+1)=l:=by
    rw[← List.drop_drop,hk];rfl
   obtain⟨h1,h2⟩:=ih (k+1) hk' _ _ _ _ hs hL;obtain⟨h3,h4⟩:=Zgp (x':=r.1) (L':=r.2) hT hC hi hr h1;refine⟨h3,fun m B a w R Q hQ=> ?_⟩;simp only[List.length_cons,List.range'_succ];rw[wpOps_cons];refine h4 m B a w R Q _ fun a' w' hR=> ?_;obtain⟨m',k1,k2,k3,k4⟩:=hR;exact h2 m' B a' w' k2 Q fun a'' w'' hR'=>hQ a'' w'' (Reach.trans k1 k3 k4 hR')
  ·cases hs
end Go.KRun
