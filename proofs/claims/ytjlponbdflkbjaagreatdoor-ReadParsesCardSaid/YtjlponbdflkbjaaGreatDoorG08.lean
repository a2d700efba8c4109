/-
  Asn, AsNum, RunK, Row, RowS, SlN, NumSl, NumTm, ConNM, ConNN, ConNO, ConNE, NumR, ConNF, ConNP, TxE, TxI
-/
import Derived.WalkKit
import Derived.LaidEql
import Derived.Stop.Asserts
import Derived.RowKitTokens
import Derived.ProofKit
import Derived.OpenShut
import Derived.Laws.IdiomArrays
import Derived.Lib.SmallJoins
import Derived.ChangeSlices
import Derived.Test.YtjlponbdflkbjaaGreatDoorG07
namespace Go.Proofs.YtjlponbdflkbjaaGreatDoor
open Go.Proofs.Tryz
open Go.RowKit Go.Extern.Stop Go.Stop Go.Extern
theorem Zht (t:Addr) (w:World):(ReflectliteValue.unpack (.iface 68 (.pointer (some t)))).run prog w
  = .ok (.agg #[.pointer (some ⟨4,68,none⟩),.pointer (some ⟨w.heap.size,0,none⟩),.int .u64 150]) (w.alloc (.cells #[.pointer (some t)] 68)):=by kernel_rfl
theorem ZpY (a:Addr) (w:World):(ReflectliteValue.methodAny (ReflectliteValue.valueError "reflectlite.Value.Type" 0) (fun t _ _ _=>ReflectliteType.toType t) #[.agg #[.pointer (some ⟨4,68,none⟩),.pointer (some a),.int .u64 150]]).run prog w
  = .ok (.iface 154 (.agg #[.pointer (some ⟨4,68,none⟩)])) w:=by kernel_rfl
theorem Zf7 (h:Value) (w:World):(Go.method 342 154 (.agg #[h]) "Kind").run prog w= .ok (166,h) w:=by kernel_rfl
theorem ZpZ (w:World):((ReflectliteType.abiMethod fun t=>(fun a:Nat=>Value.int IntKind.u8 (a:Int))<$>Rtype.kind t) #[.pointer (some ⟨4,68,none⟩)]).run prog w= .ok (.int .u8 22) w:=by kernel_rfl
theorem Zqa (w:World):((ReflectliteType.abiMethod fun t=>(fun a:Nat=>Value.int IntKind.u8 (a:Int))<$>Rtype.kind t) #[.pointer (some ⟨4,42,none⟩)]).run prog w= .ok (.int .u8 2) w:=by kernel_rfl
theorem ZsZ (z:Sem Value) (f:TypeId→Addr→Nat→Nat→Sem Value) (v:Value):
  ReflectliteValue.method z f #[v]=(do match ← ReflectliteValue.parts v with | none=>z | some (t,a,fl)=>f t a fl (fl % 32)):=rfl
theorem Zgz (a:Addr) (w:World):(ReflectliteValue.parts (.agg #[.pointer (some ⟨4,68,none⟩),.pointer (some a),.int .u64 150])).run prog w= .ok (some (68,a,150)) w:=by kernel_rfl
theorem Zmg (a p:Addr) (W:World) (ha:W.cell? a=some (.pointer (some p))):
  (ReflectliteValue.method (ReflectliteValue.valueError "reflectlite.Value.IsNil" 0) ReflectliteValue.isNil #[.agg #[.pointer (some ⟨4,68,none⟩),.pointer (some a),.int .u64 150]]).run prog W= .ok (.bool false) W:=by
 rw[ZsZ];simp only[Sem.run_bind,Zgz,Result.andThen];simp [ReflectliteValue.isNil,loadVar,isAgg,underlying,underlying68,ha,Result.andThen]
theorem Zf8 (h:Value) (w:World):(Go.method 342 154 (.agg #[h]) "Elem").run prog w= .ok (176,.agg #[h]) w:=by kernel_rfl
theorem Zcm (h:Value) (w:World):(Go.method 342 154 (.agg #[h]) "Implements").run prog w= .ok (177,.agg #[h]) w:=by kernel_rfl
theorem ZbH (h:Value) (w:World):(Go.method 342 154 (.agg #[h]) "AssignableTo").run prog w= .ok (174,.agg #[h]) w:=by kernel_rfl
theorem Zqb (w:World):(ReflectliteType.method ReflectliteType.elem #[.agg #[.pointer (some ⟨4,68,none⟩)]]).run prog w= .ok (.iface 154 (.agg #[.pointer (some ⟨4,42,none⟩)])) w:=by kernel_rfl
theorem Ze5 (w:World):(ReflectliteType.relation "Implements" ReflectliteType.implements_ #[.agg #[.pointer (some ⟨4,42,none⟩)],.iface 154 (.agg #[.pointer (some ⟨4,26,none⟩)])]).run prog w= .ok (.bool true) w:=by kernel_rfl
theorem ZjN (v:Value) (w:World):(ReflectliteType.typeOf #[.iface 42 v]).run prog w= .ok (.iface 154 (.agg #[.pointer (some ⟨4,42,none⟩)])) w:=by kernel_rfl
theorem Ze6 (w:World):(ReflectliteType.relation "AssignableTo" ReflectliteType.assignableTo #[.agg #[.pointer (some ⟨4,42,none⟩)],.iface 154 (.agg #[.pointer (some ⟨4,42,none⟩)])]).run prog w= .ok (.bool true) w:=by kernel_rfl
theorem Zhu (n:Int) (w:World):(ReflectliteValue.unpack (.iface 42 (.int .i64 n))).run prog w
  = .ok (.agg #[.pointer (some ⟨4,42,none⟩),.pointer (some ⟨w.heap.size,0,none⟩),.int .u64 130]) (w.alloc (.cells #[.int .i64 n] 42)):=by kernel_rfl
theorem ZjO (w:World):(Rtype.elem? 68).run prog w= .ok (some 42) w:=by kernel_rfl
theorem Z0h (p:Addr) (w:World):(ReflectliteValue.mk 42 p ReflectliteValue.flagAddr).run prog w= .ok (.agg #[.pointer (some ⟨4,42,none⟩),.pointer (some p),.int .u64 386]) w:=by kernel_rfl
theorem Zmh (a p:Addr) (W:World) (ha:W.cell? a=some (.pointer (some p))):
  (ReflectliteValue.method (ReflectliteValue.valueError "reflectlite.Value.Elem" 0) ReflectliteValue.elem #[.agg #[.pointer (some ⟨4,68,none⟩),.pointer (some a),.int .u64 150]]).run prog W
   = .ok (.agg #[.pointer (some ⟨4,42,none⟩),.pointer (some p),.int .u64 386]) W:=by
 rw[ZsZ];simp only[Sem.run_bind,Zgz,Result.andThen];simp [ReflectliteValue.elem,loadVar,isAgg,underlying,underlying68,ha,Result.andThen,ZjO,Z0h]
theorem ZjP (a:Addr) (w:World):(ReflectliteValue.parts (.agg #[.pointer (some ⟨4,42,none⟩),.pointer (some a),.int .u64 386])).run prog w= .ok (some (42,a,386)) w:=by kernel_rfl
theorem Zmi (a:Addr) (w:World):(ReflectliteValue.parts (.agg #[.pointer (some ⟨4,42,none⟩),.pointer (some a),.int .u64 130])).run prog w= .ok (some (42,a,130)) w:=by kernel_rfl
theorem ZjQ (w:World):(Rtype.directlyAssignable 42 42).run prog w= .ok true w:=by kernel_rfl
theorem ZuD (ta b:Addr) (n:Int) (old:Value) (W:World) (hb:W.cell? b=some (.int .i64 n)) (ht:W.cell? ta=some old) (hf:W.frozen? ta=false):
  (ReflectliteValue.set #[.agg #[.pointer (some ⟨4,42,none⟩),.pointer (some ta),.int .u64 386],.agg #[.pointer (some ⟨4,42,none⟩),.pointer (some b),.int .u64 130]]).run prog W
   = .ok (.tuple #[]) (W.setCell ta (.int .i64 n)):=by
 have e:∀ v x:Value,ReflectliteValue.set #[v,x]=(ReflectliteValue.parts v>>=fun p=>ReflectliteValue.parts x>>=fun q=>_):=fun _ _=>rfl;rw[e];simp only[Sem.run_bind,ZjP,Zmi,Result.andThen];simp [ReflectliteValue.flagAddr,loadVar,isAgg,underlying,underlying42,hb,Result.andThen,ZjQ,storeVar,Value.cells,storeCells,Addr.add];rw[run_store prog W ta _ _ (by rfl)];simp [ht,hf]
def Zmj:Value:= .iface 154 (.agg #[.pointer (some ⟨4,26,none⟩)])
def asW (n:Int) (t:Addr) (w:World):World:=((((w.alloc (.cells #[.pointer (some t)] 68)).alloc (.cells #[.pointer (some ⟨4,68,none⟩),.pointer (some ⟨w.heap.size,0,none⟩),.int .u64 150] 111)).alloc (.cells #[.pointer (some ⟨4,68,none⟩),.pointer (some ⟨w.heap.size,0,none⟩),.int .u64 150] 111)).alloc (.cells #[.int .i64 n] 42)).setCell t (.int .i64 n)
set_option maxHeartbeats 4000000 in
theorem Z0i (n:Int) (t:Addr) (old:Value) (w:World) (hg:w.cell? ⟨0,0,none⟩=some (.iface 154 (.agg #[.pointer (some ⟨4,26,none⟩)]))) (ht0:w.cell? t=some old) (hf0:w.frozen? t=false):
  Calls prog 23 #[.iface 42 (.int .i64 n),.iface 68 (.pointer (some t))] w fun ev w'=>ev= .returned (.bool true)∧w'=((((w.alloc (.cells #[.pointer (some t)] 68)).alloc (.cells #[.pointer (some ⟨4,68,none⟩),.pointer (some ⟨w.heap.size,0,none⟩),.int .u64 150] 111)).alloc (.cells #[.pointer (some ⟨4,68,none⟩),.pointer (some ⟨w.heap.size,0,none⟩),.int .u64 150] 111)).alloc (.cells #[.int .i64 n] 42)).setCell t (.int .i64 n):=by
 have h6:= @run_callFunc_extern prog 57 _ (fun args=>ReflectliteValue.unpack (args.getD 0 (.tuple #[]))) func57 (by kernel_rfl) (by kernel_rfl) (by kernel_rfl) (by kernel_rfl);have h7:= @run_callFunc_extern prog 58 _ (ReflectliteValue.methodAny (ReflectliteValue.valueError "reflectlite.Value.Type" 0) (fun t _ _ _=>ReflectliteType.toType t)) func58 (by kernel_rfl) (by kernel_rfl) (by kernel_rfl) (by kernel_rfl);have h8:= @run_callFunc_extern prog 59 _ (ReflectliteValue.method (ReflectliteValue.valueError "reflectlite.Value.IsNil" 0) ReflectliteValue.isNil) func59 (by kernel_rfl) (by kernel_rfl) (by kernel_rfl) (by kernel_rfl);have h27:= @run_callFunc_extern prog 166 _ (ReflectliteType.abiMethod fun t=>do pure (.int .u8 (← Rtype.kind t))) func166 (by kernel_rfl) (by kernel_rfl) (by kernel_rfl) (by kernel_rfl);have h37:= @run_callFunc_extern prog 176 _ (ReflectliteType.method ReflectliteType.elem) func176 (by kernel_rfl) (by kernel_rfl) (by kernel_rfl) (by kernel_rfl);have h38:= @run_callFunc_extern prog 177 _ (ReflectliteType.relation "Implements" ReflectliteType.implements_) func177 (by kernel_rfl) (by kernel_rfl) (by kernel_rfl) (by kernel_rfl);have h10:= @run_callFunc_extern prog 95 _ ReflectliteType.typeOf func95 (by kernel_rfl) (by kernel_rfl) (by kernel_rfl) (by kernel_rfl);have h35:= @run_callFunc_extern prog 174 _ (ReflectliteType.relation "AssignableTo" ReflectliteType.assignableTo) func174 (by kernel_rfl) (by kernel_rfl) (by kernel_rfl) (by kernel_rfl);have h11:= @run_callFunc_extern prog 96 _ (ReflectliteValue.method (ReflectliteValue.valueError "reflectlite.Value.Elem" 0) ReflectliteValue.elem) func96 (by kernel_rfl) (by kernel_rfl) (by kernel_rfl) (by kernel_rfl);have h12:= @run_callFunc_extern prog 97 _ ReflectliteValue.set func97 (by kernel_rfl) (by kernel_rfl) (by kernel_rfl) (by kernel_rfl);have tO:=ZjN;have mA:=ZbH;have aE:=Ze6;have vE:=Zhu;have f6:=Zht;have f7:=ZpY;have mK:=Zf7;have mE:=Zf8;have mI:=Zcm;have kP:=ZpZ;have kE:=Zqa;have eP:=Zqb;have iE:=Ze5;have n8:=Zmg ⟨w.heap.size,0,none⟩ t ((w.alloc (.cells #[.pointer (some t)] 68)).alloc (.cells #[.pointer (some ⟨4,68,none⟩),.pointer (some ⟨w.heap.size,0,none⟩),.int .u64 150] 111)) (by simp);have hlt:0<w.heap.size:=by
  rcases Nat.eq_zero_or_pos w.heap.size with h0 | h
  ·simp [World.cell?,h0] at hg
  ·exact h
 have hg2:((w.alloc (.cells #[.pointer (some t)] 68)).alloc (.cells #[.pointer (some ⟨4,68,none⟩),.pointer (some ⟨w.heap.size,0,none⟩),.int .u64 150] 111)).cell? ⟨0,0,none⟩=some (.iface 154 (.agg #[.pointer (some ⟨4,26,none⟩)])):=by
  rw[World.cell?_alloc_lt _ _ ⟨0,0,none⟩ (by simp),World.cell?_alloc_lt _ _ ⟨0,0,none⟩ hlt];exact hg
 have htl:t.block<w.heap.size:=by
  rcases Nat.lt_or_ge t.block w.heap.size with h | h
  ·exact h
  ·simp [World.cell?,Array.getElem?_eq_none h] at ht0
 have el:=Zmh ⟨w.heap.size,0,none⟩ t (((w.alloc (.cells #[.pointer (some t)] 68)).alloc (.cells #[.pointer (some ⟨4,68,none⟩),.pointer (some ⟨w.heap.size,0,none⟩),.int .u64 150] 111)).alloc (.cells #[.pointer (some ⟨4,68,none⟩),.pointer (some ⟨w.heap.size,0,none⟩),.int .u64 150] 111)) (by rw[World.cell?_alloc_lt _ _ ⟨w.heap.size,0,none⟩ (by simp;omega)];simp);have st:=ZuD t ⟨w.heap.size+1+1+1,0,none⟩ n old ((((w.alloc (.cells #[.pointer (some t)] 68)).alloc (.cells #[.pointer (some ⟨4,68,none⟩),.pointer (some ⟨w.heap.size,0,none⟩),.int .u64 150] 111)).alloc (.cells #[.pointer (some ⟨4,68,none⟩),.pointer (some ⟨w.heap.size,0,none⟩),.int .u64 150] 111)).alloc (.cells #[.int .i64 n] 42))
  (by rw[World.cell?_alloc_at _ _ _ _ (by simp)];rfl)
  (by rw[World.cell?_alloc_lt _ _ t (by simp;omega),World.cell?_alloc_lt _ _ t (by simp;omega),World.cell?_alloc_lt _ _ t (by simp;omega),World.cell?_alloc_lt _ _ t htl];exact ht0)
  (by rw[World.frozen?_alloc_old _ _ t (by simp;omega),World.frozen?_alloc_old _ _ t (by simp;omega),World.frozen?_alloc_old _ _ t (by simp;omega),World.frozen?_alloc_old _ _ t (Nat.ne_of_lt htl)];exact hf0)
 go_enter func23,ntmps23
 go_wp2
 refine wp_loop_rounds 1 ?_;rw[rounds_succ]
 go_wp2
 go_ret
 exact⟨rfl,rfl⟩
end Go.Proofs.YtjlponbdflkbjaaGreatDoor
namespace Go.Proofs.YtjlponbdflkbjaaGreatDoor
open Go.Proofs.Tryz
open Go.KRun Go.RowKit
set_option maxRecDepth 100000
def Ze7 (w:World):Prop:=w.cell? ⟨0,0,none⟩=some Zmj
set_option maxHeartbeats 4000000 in
theorem Zmk (n:Int) (w:World) (hg:Ze7 w):Calls prog 11 #[.iface 42 (.int .i64 n)] w fun e w'=>e= .returned (.int .i64 n)∧zA w w':=by
 have hlt:0<w.heap.size:=by
  rcases Nat.eq_zero_or_pos w.heap.size with h0 | h
  ·unfold Ze7 at hg;simp [World.cell?,h0] at hg
  ·exact h
 have hg1:(w.alloc (.cells #[.int .i64 0] 42)).cell? ⟨0,0,none⟩=some Zmj:=by
  rw[World.cell?_alloc_lt _ _ ⟨0,0,none⟩ hlt];exact hg
 have ht1:(w.alloc (.cells #[.int .i64 0] 42)).cell? ⟨w.heap.size,0,none⟩=some (.int .i64 0):=by simp
 have hf1:(w.alloc (.cells #[.int .i64 0] 42)).frozen? ⟨w.heap.size,0,none⟩=false:=by simp
 have hit:=Z0i n ⟨w.heap.size,0,none⟩ (.int .i64 0) _ hg1 ht1 hf1;have hb:(w.alloc (.cells #[.int .i64 0] 42)).heap[w.heap.size]? =some (.cells #[.int .i64 0] 42 (0,0)):=Za3 w _;have hcell:(asW n ⟨w.heap.size,0,none⟩ (w.alloc (.cells #[.int .i64 0] 42))).cell? ⟨w.heap.size,0,none⟩=some (.int .i64 n)∧zA w (asW n ⟨w.heap.size,0,none⟩ (w.alloc (.cells #[.int .i64 0] 42))):=by
  unfold asW;have t1:=ZaY w #[.int .i64 0] 42;generalize hw1:w.alloc (.cells #[.int .i64 0] 42)=w1 at*;have s1:w.heap.size<w1.heap.size:=by rw[← hw1,z8];omega
  have t2:=ZaY w1 #[.pointer (some ⟨w.heap.size,0,none⟩)] 68;have q2:=ze w1 (.cells #[.pointer (some ⟨w.heap.size,0,none⟩)] 68) w.heap.size (by omega);have s2:=z8 w1 (.cells #[.pointer (some ⟨w.heap.size,0,none⟩)] 68);generalize w1.alloc (.cells #[.pointer (some ⟨w.heap.size,0,none⟩)] 68)=w2 at*;have t3:=ZaY w2 #[.pointer (some ⟨4,68,none⟩),.pointer (some ⟨w1.heap.size,0,none⟩),.int .u64 150] 111;have q3:=ze w2 (.cells #[.pointer (some ⟨4,68,none⟩),.pointer (some ⟨w1.heap.size,0,none⟩),.int .u64 150] 111) w.heap.size (by omega);have s3:=z8 w2 (.cells #[.pointer (some ⟨4,68,none⟩),.pointer (some ⟨w1.heap.size,0,none⟩),.int .u64 150] 111);generalize w2.alloc (.cells #[.pointer (some ⟨4,68,none⟩),.pointer (some ⟨w1.heap.size,0,none⟩),.int .u64 150] 111)=w3 at*;have t4:=ZaY w3 #[.pointer (some ⟨4,68,none⟩),.pointer (some ⟨w1.heap.size,0,none⟩),.int .u64 150] 111;have q4:=ze w3 (.cells #[.pointer (some ⟨4,68,none⟩),.pointer (some ⟨w1.heap.size,0,none⟩),.int .u64 150] 111) w.heap.size (by omega);have s4:=z8 w3 (.cells #[.pointer (some ⟨4,68,none⟩),.pointer (some ⟨w1.heap.size,0,none⟩),.int .u64 150] 111);generalize w3.alloc (.cells #[.pointer (some ⟨4,68,none⟩),.pointer (some ⟨w1.heap.size,0,none⟩),.int .u64 150] 111)=w4 at*;have t5:=ZaY w4 #[.int .i64 n] 42;have q5:=ze w4 (.cells #[.int .i64 n] 42) w.heap.size (by omega);generalize w4.alloc (.cells #[.int .i64 n] 42)=w5 at*;have hb5:w5.heap[w.heap.size]? =some (.cells #[.int .i64 0] 42 (0,0)):=by rw[q5,q4,q3,q2];exact hb
  exact⟨cell_of_one (one_setCell hb5),Zgp (ZbU t1 (ZbU t2 (ZbU t3 (ZbU t4 t5)))) (Nat.le_refl _) hb5 _⟩
 obtain⟨W',hc1,hc2,hit'⟩:∃ W':World,W'.cell? ⟨w.heap.size,0,none⟩=some (.int .i64 n)∧zA w W'∧Calls prog 23 #[.iface 42 (.int .i64 n),.iface 68 (.pointer (some ⟨w.heap.size,0,none⟩))] (w.alloc (.cells #[.int .i64 0] 42)) fun ev w'=>ev= .returned (.bool true)∧w'=W':=⟨_,hcell.1,hcell.2,hit⟩;clear hit hcell hb hf1 ht1 hg1 hlt hg
 go_enter func11,ntmps11
 go_wp2_with (go_at_call 23;refine hit'.mono ?_;rintro e w' ⟨rfl,rfl⟩)
 go_ret
 exact⟨rfl,hc2⟩
def eqA:List Value→Bool
 | [.pointer (some ⟨g,e,none⟩)]=>Nat.beq g 4 && Nat.beq e 26
 | _=>false
def eqE:Value→Bool
 | .iface r (.agg a)=>Nat.beq r 154 && eqA a.toList
 | _=>false
def kOk:List Value→Bool
 | [.iface d v]=>Nat.beq d ZZ && eqE v
 | _=>false
def kV:List Value:=[.iface ZZ Zmj]
def kT:TypeId:=3*ZZ
theorem Zqc {v:Value}(h:eqE v=true):v=Zmj:=by
 unfold eqE at h;split at h
 ·rename_i r a;simp only[Xh] at h;obtain⟨h1,h2⟩:=h;have h1:=Xj h1;unfold eqA at h2;split at h2
  ·rename_i g e ha;simp only[Xh] at h2;have h3:=Xj h2.1;have h4:=Xj h2.2;have ea:a= #[.pointer (some ⟨g,e,none⟩)]:=by
    apply Array.toList_inj.1;rw[ha]
   rw[ea,h1,h3,h4];rfl
  ·cases h2
 ·cases h
theorem Zqd {cs:List Value}(h:kOk cs=true):cs=kV:=by
 unfold kOk at h;split at h
 ·rename_i d v;simp only[Xh] at h;rw[Xj h.1,Zqc h.2];rfl
 ·cases h
def Z5b:Zac:=fun vals h s=>
 match vals,h.blk? 0 with
 | [.iface t (.int .i64 n)],some (cs,ty)=>some (.int .i64 n,h,s,[(Nat.beq t 42 && Nat.beq ty kT && kOk cs,true)])
 | _,_=>none
theorem Zg0 {w:World}{r:List Value}{t:TypeId}{z:Nat×Nat}(h:w.heap[0]? =some (.cells (Zmj::r).toArray t z)):Ze7 w:=by
 unfold Ze7 World.cell?;simp [h]
theorem ZuE:Z8 11 Z5b:=by
 intro vals h s v h' s' lg hg hl m B w E hv;unfold Z5b at hg;split at hg
 ·rename_i t n cs ty hb;cases hg;have h1:=hl _ Xf;simp only[Xh] at h1;obtain⟨⟨e1,e2⟩,e3⟩:=h1;have e1:=Xj e1;have e2:=Xj e2;have e3:=Zqd e3;subst e1 e2 e3;obtain⟨_,r,t',z,k2⟩:=E.abs 0 _ hb (by kernel_rfl);have hk:Ze7 w:=Zg0 (r:=r) (t:=t') (z:=z) (by
   have e4:kV.map (mv1 m)=[Zmj]:=by rfl
   have e5:kT-3*ZZ=0:=by kernel_rfl
   rw[e4] at k2;simp only[e5] at k2;exact k2)
  refine (Zmk n w hk).mono fun e w' he=> ?_;obtain⟨E',hb'⟩:=ZW E he.2;exact⟨m,he.1,⟨Agree.refl _ _,E',hb',Nat.le_refl _,rfl⟩⟩
 ·cases hg
def hK:Hp:=⟨1,[(kV,kT)]⟩
theorem ZyT {b:Nat}{x:List Value×TypeId}(h:hK.blk? b=some x):x=(kV,kT):=by
 have hb0:b=0:=by have:b<1:=Hp.blk_lt h;omega
 subst hb0;exact (Option.some.inj h).symm
theorem Zix {w:World}(hk:Ze7 w):Emb (fun b=>(b,0)) w.heap.size hK w where
 len:=rfl
 lies:=fun b x hb hx=>by rw[ZyT hb,show Zab kT=true from by kernel_rfl] at hx;cases hx
 low:=fun b x hb hx=>by rw[ZyT hb,show ro kT=true from by kernel_rfl] at hx;cases hx
 ros:=fun b x hb hx=>by rw[ZyT hb,show Zab kT=true from by kernel_rfl] at hx;cases hx
 inj:=fun b b' x x' hb _ hx=>by rw[ZyT hb,show ro kT=true from by kernel_rfl] at hx;cases hx
 wf:=fun b x hb v hv=>by
  rw[ZyT hb] at hv;rw[List.mem_singleton.1 hv];rfl
 base:=Nat.le_refl _
 ice:=fun k h1 h2=>by omega
 abs:=fun b x hb _=>by
  rw[ZyT hb];have e5:kT-3*ZZ=0:=by kernel_rfl
  have e4:kV.map (mv1 fun b=>(b,0))=[Zmj]:=by rfl
  simp only[e5,e4];unfold Ze7 World.cell? at hk;simp only at hk;cases h0:w.heap[0]? with
  | none=>rw[h0] at hk;simp at hk
  | some o=>
   have hlt:=(Array.getElem?_eq_some_iff.1 h0).1;rw[h0] at hk;cases o with
   | cells c t z=>
    refine⟨hlt,c.toList.drop 1,t,z,?_⟩;have hc:c.toList[0]? =some Zmj:=by simpa using hk
    have:[Zmj]++c.toList.drop 1=c.toList:=by
     cases hl:c.toList with
     | nil=>rw[hl] at hc;simp at hc
     | cons a l=>
      rw[hl] at hc;simp at hc;simp [hc]
    rw[this]
   | _=>simp at hk
end Go.Proofs.YtjlponbdflkbjaaGreatDoor
namespace Go.KRun
open Go.RowKit
def Zbp (T:Tab) (h0:Hp) (n:Nat) (f:Nat) (vals:List Value) (s:List Dec):Option (Value×Hp×List Dec×Lg):=Zgm T (evC T n false) f vals h0 s ⟨[],[],[]⟩
theorem Zg1 {T:Tab}(hT:TabOk T) {h0:Hp}{n f:Nat}{vals:List Value}{s:List Dec}{v:Value}{cs:Log}(hF:Z7 (Zbp T h0 n f vals s) v cs) (hcs:Z2 cs) (hvals:(vals.all (lt h0.n))=true) (hv:lt 0 v=true) {m:Mp}{w:World}(E:Emb m w.heap.size h0 w):
  Calls T.P f (vals.map (mv m)).toArray w fun e w'=>e= .returned v∧zA w w':=by
 obtain⟨h1,h2,h3,h4⟩:=hF;cases hr:Zbp T h0 n f vals s with
 | none=>rw[hr] at h1;cases h1
 | some r=>
  rw[hr] at h1 h2 h3 h4;simp only[Option.map_some,Option.some.injEq] at h1 h2 h3 h4;obtain⟨v',h',s',L⟩:=r;simp only at h1 h2 h3 h4;subst h1;obtain⟨_,_,h5⟩:=ZdT hT (Zgn hT n).1 _ _ _ _ _ _ _ _ _ hr ⟨by rw[h2];exact hcs,Zcv _ h3,Zcv _ h4⟩;refine (h5 _ _ w E (List.all_eq_true.1 hvals)).mono fun en w' he=> ?_;obtain⟨m',rfl,C⟩:=he;exact⟨by rw[ZC hv],C.below,fun k h1 h2=>C.emb.ice k h1 h2⟩
theorem ZaP {T:Tab}(hT:TabOk T) {h0:Hp}{n f:Nat}{vals:List Value}{s:List Dec}{v:Value}{cs:Log}(hF:Z7 (Zbp T h0 n f vals s) v cs) (hcs:Z2 cs) (hvals:(vals.all (lt 0))=true) (hv:lt 0 v=true) {m:Mp}{w:World}(E:Emb m w.heap.size h0 w):
  Calls T.P f vals.toArray w fun e w'=>e= .returned v∧zA w w':=by
 have hst:∀ y∈vals,lt 0 y=true:=List.all_eq_true.1 hvals;have e:vals.map (mv m)=vals:=(List.map_congr_left fun y hy=>ZC (hst y hy)).trans (List.map_id' _);have:=Zg1 hT hF hcs (List.all_eq_true.2 fun y hy=>zH (Nat.zero_le _) (hst y hy)) hv E;rw[e] at this;exact this
end Go.KRun
namespace Go.KRun
open Go.ChangeShapes Go.WideShapes Go.ChangeAt Go.RowKit Go.Joins
theorem Zhv {w w':World}(h:zA w w') (a:Addr):w'.frozen? a=w.frozen? a:=by
 unfold World.frozen?;by_cases h1:a.block<w.heap.size
 ·rw[h.1.block _ h1]
 ·rw[Array.getElem?_eq_none (by omega:w.heap.size≤a.block)];by_cases h2:a.block<w'.heap.size
  ·have h3:=h.2 a.block (by omega) h2;unfold Zzl at h3;split
   ·rename_i c e lo hi hc;have:=h3 _ _ _ hc;cases this;simp
   ·rfl
  ·rw[Array.getElem?_eq_none (by omega:w'.heap.size≤a.block)]
section
variable {H : Type} {enc : TypeId × Value → H} {P : Program} {w : World}
structure Lain (w:World) (b off:Nat) (cs:Array Value) (zs:List Int):Prop where
 heap:∃ ty z,w.heap[b]? =some (.cells cs ty z)
 room:off+zs.length≤cs.size
 cell:∀ i,i<zs.length→cs[off+i]? =some (.int .u32 (zs.getD i 0))
 wf:∀ n∈zs,(Lit.int .u32 n).wf=true
end
end Go.KRun
namespace Go.Proofs.YtjlponbdflkbjaaGreatDoor.Na
open Go.KRun Go.Nt
set_option maxRecDepth 100000
set_option linter.unusedVariables false
theorem Zta {x:Bool×Bool}{l:Log}(h:Z2 (x::l)):x.1=x.2∧Z2 l:=⟨h _ Xe,fun y hy=>h y (Xd _ hy)⟩
end Go.Proofs.YtjlponbdflkbjaaGreatDoor.Na
namespace Go.Nt
theorem Zhw:∀ {L:List Int},wds L→vN L=(vb 4294967296 L:Nat)
 | [],_=>rfl
 | x::r,h=>by
  obtain⟨h1,h2⟩:=Zah h;have:=Zhw h2;show x+4294967296*vN r=((x.toNat+4294967296*vb 4294967296 r:Nat):Int);rw[this];omega
theorem ZjR:∀ (m:Nat) (V:Int),0≤V→V<4294967296^m→vN (dg m V)=V
 | 0,V,h0,h1=>by
  have:V=0:=by rw[Int.pow_zero] at h1;omega
  subst this;rfl
 | m+1,V,h0,h1=>by
  rw[pw] at h1;have h2:=ZjR m (V/4294967296) (by omega) (by omega);simp only[dg,vN];rw[h2];omega
theorem ZuF {m:Nat}{V:Nat}(h:(V:Int)<4294967296^m):(dg m V).take (Zl (dg m V))=db 4294967296 V:=by
 have hw:=Za2 m V;rw[zk (b:=4294967296) (by omega) _ hw];have h1:=ZjR m V (by omega) h;rw[Zhw hw] at h1;rw[Int.ofNat.inj h1]
theorem Zg2 (L M:List Int):∀ k,Zan L M k= -1∨Zan L M k=0∨Zan L M k=1
 | 0=> .inr (.inl rfl)
 | k+1=>by
  unfold Zan;split
  ·exact Zg2 L M k
  ·split
   ·exact .inl rfl
   ·exact .inr (.inr rfl)
theorem ZuG (L M:List Int):Zck L M= -1∨Zck L M=0∨Zck L M=1:=by
 unfold Zck;split
 ·exact Zg2 _ _ _
 ·split
  ·exact .inl rfl
  ·exact .inr (.inr rfl)
theorem ZuH {L M:List Int}(hL:Zbi L) (hM:Zbi M):Zck L M=if vb 4294967296 L<vb 4294967296 M then -1 else if vb 4294967296 L=vb 4294967296 M then 0 else 1:=by
 have h:=Zip hL hM;rw[Zhw hL.1,Zhw hM.1] at h;have h3:=ZuG L M;split
 ·have:=h.1.2 (by omega);omega
 ·split
  ·exact h.2.2 (by omega)
  ·have h1:¬ Zck L M<0:=fun hx=>by have:=h.1.1 hx;omega
   have h2:¬ Zck L M=0:=fun hx=>by have:=h.2.1 hx;omega
   omega
theorem Zfa {b V:Nat}(hb:2≤b):0<(db b V).length↔0<V:=by
 rw[List.length_pos_iff,ne_eq,Zc2 hb];omega
theorem Zml:∀ (m:Nat) (V:Int),vN (dg m V)+4294967296^m*(V/4294967296^m)=V
 | 0,V=>by simp [dg,vN]
 | m+1,V=>by
  have h:=Zml m (V/4294967296);simp only[dg,vN];rw[pw,← Int.ediv_ediv_of_nonneg (show (0:Int)≤4294967296 by omega),Int.mul_assoc];omega
theorem ZuI {P a b x y z k d e A B:Int}(he:k+(x*y+z)=d+4294967296*e) (h:a+P*((z+4294967296*A)+x*(y+4294967296*B)+k)=b):a+P*d+4294967296*P*(A+x*B+e)=b:=by
 rw[← h];have e1:(z+4294967296*A)+x*(y+4294967296*B)+k=d+4294967296*(A+x*B+e):=by
  rw[Int.mul_add x y,← Int.mul_assoc x 4294967296 B,Int.mul_comm x 4294967296,Int.mul_assoc 4294967296 x B];omega
 rw[e1];generalize A+x*B+e=Z;rw[Int.mul_add P d,← Int.mul_assoc P 4294967296 Z,Int.mul_comm P 4294967296];omega
theorem Z0j {x y:Int}(hx:0≤x∧x<4294967296) (hy:0≤y∧y<4294967296):0≤x*y∧x*y≤18446744065119617025:=by
 constructor
 ·exact Int.mul_nonneg hx.1 hy.1
 ·have h1:x*y≤4294967295*y:=Int.mul_le_mul_of_nonneg_right (by omega) hy.1;omega
theorem Z5c {M B x Q:Int}(hM:0≤M∧M<Q) (hB:0≤B∧B<Q) (hx:0≤x∧x<4294967296):0≤M+x*B∧M+x*B<Q*4294967296:=by
 have h0:=Int.mul_nonneg hx.1 hB.1;have h1:x*B≤4294967295*B:=Int.mul_le_mul_of_nonneg_right (by omega) hB.1;omega
theorem Zqe {T Q:Int}(hQ:0<Q) (h:0≤T∧T<Q*4294967296):0≤T/Q∧T/Q<4294967296:=
 ⟨Int.ediv_nonneg h.1 (by omega),Int.ediv_lt_of_lt_mul hQ (by rw[Int.mul_comm];exact h.2)⟩
theorem Zqf {M:List Int}{T:Int}(hT:0≤T∧T<4294967296^M.length*4294967296):∃ y m,dg M.length T++[T/4294967296^M.length]=y::m∧m.length=M.length∧wds [y]∧wds m∧y+4294967296*vN m=T:=by
 have hc:=Zqe (Zaw M.length) hT;have hw:wds (dg M.length T++[T/4294967296^M.length]):=Zai (Za2 _ _) (fun x hx=>by rw[List.mem_singleton.1 hx];exact hc);have hl:(dg M.length T++[T/4294967296^M.length]).length=M.length+1:=by rw[List.length_append,ZR];rfl
 have hv:vN (dg M.length T++[T/4294967296^M.length])=T:=by rw[zp,ZR];exact Zml _ _
 cases h:dg M.length T++[T/4294967296^M.length] with
 | nil=>rw[h] at hl;simp at hl
 | cons y m=>
  rw[h] at hw hl hv;obtain⟨w1,w2⟩:=Zah hw;refine⟨y,m,rfl,by simpa using hl,fun x hx=>by rw[List.mem_singleton.1 hx];exact w1,w2,hv⟩
theorem ZuJ {P d m A B x y m':Int}(hT:y+4294967296*m'=m+x*B) (h:d+P*m=A*B):d+P*y+4294967296*P*m'=(A+P*x)*B:=by
 have e1:P*y+4294967296*P*m'=P*(m+x*B):=by
  rw[← hT,Int.mul_add,← Int.mul_assoc P 4294967296 m',Int.mul_comm P 4294967296]
 rw[Int.add_mul,← h,Int.mul_assoc P x B];rw[Int.mul_add] at e1;omega
theorem Ztb:∀ n:Nat,vN (List.replicate n 0)=0
 | 0=>rfl
 | n+1=>by
  rw[List.replicate_succ];simp only[vN];rw[Ztb n];rfl
end Go.Nt
namespace Go.Proofs.YtjlponbdflkbjaaGreatDoor.Na
open Go.Proofs.Tryz
open Go.IntKind
open Go.KRun Go.Nt
set_option maxRecDepth 100000
set_option linter.unusedVariables false
def tK (k x y z:Int):Int:=u64.wrap (k+u64.wrap (u64.wrap (u64.wrap x*u64.wrap y)+u64.wrap z))
def tC (k x y z:Int):Int:=(tK k x y z).fdiv (2^min (Int.toNat 32) 64)
def tD (k x y z:Int):Int:=u32.wrap (tK k x y z)
theorem ZuK {k x y z:Int}(hk:0≤k∧k<4294967296) (hx:0≤x∧x<4294967296) (hy:0≤y∧y<4294967296) (hz:0≤z∧z<4294967296):
  (0≤tD k x y z∧tD k x y z<4294967296)∧(0≤tC k x y z∧tC k x y z<4294967296)∧k+(x*y+z)=tD k x y z+4294967296*tC k x y z:=by
 have hxy:=Z0j hx hy;have e:tK k x y z=k+(x*y+z):=by
  unfold tK;simp only[ZoC];rw[Int.emod_eq_of_lt hx.1 (by omega),Int.emod_eq_of_lt hy.1 (by omega),Int.emod_eq_of_lt hz.1 (by omega),Int.emod_eq_of_lt hxy.1 (by omega),Int.emod_eq_of_lt (by omega) (by omega),Int.emod_eq_of_lt (by omega) (by omega)]
 unfold tD tC;rw[e,Zha,show ((2:Int)^min (Int.toNat 32) 64)=4294967296 from by decide,Int.fdiv_eq_ediv_of_nonneg _ (by omega)];generalize x*y=W at*;omega
def tmP (F:Func):List Code:=[Z3 (Zs F),Z3 (Z0 (Zs F)),Z3 (Z0 (Z0 (Zs F)))]
def tmB (F:Func):Code:=Z3 (Z0 (Z0 (Z0 (Zs F))))
def tmL (F:Func):Code:=cIn (cIn (Z0 (tmB F)))
def tmE (F:Func):Code:=Z0 (Z0 (Z0 (Z0 (Zs F))))
def tmF (o n c o' c':Nat) (x k:Int) (v8 v9 u1 u2 u3 u4:Value) (j:Int):List Value:=[sl 2 o n c,sl 1 o' n c',uu x,undef,undef,undef,uu 0,.int .u64 k,v8,v9,u1,u2,u3,u4,sl 1 o' n c',i6' n,i6' j]
theorem ZuL:f132.body=some (za (tmP f132) (.seq (.seq (Z3 (tmB f132)) (.block 0 (.loop (tmL f132)))) (tmE f132))):=by kernel_rfl
def tmA (o n c o' c':Nat) (x:Int):List Value:=[sl 2 o n c,sl 1 o' n c',uu x,undef,undef,undef,uu 0,.int .u64 0,undef,undef,sl 2 o n c,sl 1 o' n c',i6' n,sl 2 o n c]
theorem Z0k (o n c o' c':Nat) (x:Int) (S la lb:List Value):Zg (evL (Zk prog Zf Zn true) 100 (tmP f132) ([sl 2 o n c,sl 1 o' n c',uu x]++List.replicate 41 undef,h3 la lb S,[num 0]) ⟨[],[],[]⟩) 14 30 none (tmA o n c o' c' x) (h3 la lb S) [(ZA c,true),(ZP 0 n c c,true),(decide ((c:Int)=0∧(0:Int)≠0),false)]:=by and_intros<;>kernel_rfl
theorem Z5d (o n c o' c':Nat) (x:Int) (S la lb:List Value) (g:Nat→Value):Zg (evC (Zk prog Zf Zn true) 100 false (Z3 (tmB f132)) (tmA o n c o' c' x++tl 30 g,h3 la lb S,[]) ⟨[],[],[]⟩) 17 27 none (tmF o n c o' c' x 0 undef undef (sl 2 o n c) (sl 1 o' n c') (i6' n) (sl 2 o n c) 0) (h3 la lb S) []:=by and_intros<;>kernel_rfl
theorem Z0l (o n c o' c':Nat) (x k j:Int) (v8 v9 u1 u2 u3 u4:Value) (S la lb:List Value) (g:Nat→Value):Zg (evC (Zk prog Zf Zn true) 100 false (tmL f132) (tmF o n c o' c' x k v8 v9 u1 u2 u3 u4 j++tl 27 g,h3 la lb S,[cmp false]) ⟨[],[],[]⟩) 17 27 (some (some 0)) (tmF o n c o' c' x k v8 v9 u1 u2 u3 u4 j) (h3 la lb S) [(decide (j<n),false)]:=by and_intros<;>kernel_rfl
theorem Z5e (o n c o' c':Nat) (x k j y z:Int) (v8 v9 u1 u2 u3 u4:Value) (S la lb:List Value) (g:Nat→Value):Zg (evC (Zk prog Zf Zn true) 100 false (tmL f132) (tmF o n c o' c' x k v8 v9 u1 u2 u3 u4 j++tl 27 g,h3 la lb S,[cmp true,at_,val (uu y),at_,val (uu z),at_,at_]) ⟨[],[],[]⟩) 17 27 none (tmF o n c o' c' x (tC k x y z) (i6' j) (uu y) u1 u2 u3 u4 (i64.wrap (j+1))) (h3 la lb (S.set (o+j.toNat*1) (uu (tD k x y z)))) [(decide ((32:Int)<0),false),(decide (o+j.toNat*1<S.length),true),inR j n,Zdr S o j z,inR j n,Zdr lb o' j y,inR j n,(decide (j<n),true)]:=by and_intros<;>kernel_rfl
theorem Z0m (o n c o' c':Nat) (x k j:Int) (v8 v9 u1 u2 u3 u4:Value) (h:Hp) (g:Nat→Value):Zg (evC (Zk prog Zf Zn true) 100 false (tmE f132) (tmF o n c o' c' x k v8 v9 u1 u2 u3 u4 j++tl 27 g,h,[]) ⟨[],[],[]⟩) 7 37 (some none) [sl 2 o n c,sl 1 o' n c',uu x,undef,undef,undef,uu (u32.wrap k)] h []:=by and_intros<;>kernel_rfl
theorem Zei {F:List Value}{o:Nat}(hF:F.length=o) (dx:List Int) (x:Int) (px:List Int) (R:List Value):(F++(wU (dx++x::px)++R))[o+dx.length]? =some (uu x):=by
 rw[← List.append_assoc,List.getElem?_append_left (by unfold wU;simp;omega)];exact ZsW hF dx x px
theorem Zej {F:List Value}{o:Nat}(hF:F.length=o) (dx:List Int) (x d:Int) (px:List Int) (R:List Value):(F++(wU (dx++x::px)++R)).set (o+dx.length) (uu d)=F++(wU ((dx++[d])++px)++R):=by
 rw[← List.append_assoc,List.set_append_left _ _ (by unfold wU;simp;omega),ZsX hF,List.append_assoc]
def tmR (M B:List Int) (x:Int):List Int:=dg M.length (vN M+x*vN B)
def tmC (M B:List Int) (x:Int):Int:=(vN M+x*vN B)/4294967296^M.length
theorem ZuM {F R la lb:List Value}{o c o' c':Nat}{M LB:List Int}{x:Int}(hF:F.length=o) (hM:wds M) (RB:Row lb o' LB) (hl:M.length=LB.length) (hN:M.length<1099511627776) (hx:0≤x∧x<4294967296) (hc:M.length≤c) (hs:ZA c=true):
  Runs (Zk prog Zf Zn true) (za (tmP f132) (.seq (.seq (Z3 (tmB f132)) (.block 0 (.loop (tmL f132)))) (tmE f132))) ([sl 2 o M.length c,sl 1 o' M.length c',uu x]++List.replicate 41 undef,h3 la lb (F++(wU M++R)),[]) fun e y=>(e=none∨e=some none)∧ZV prog f132 y.1 y.2.1=some (uu (tmC M LB x))∧y.2.1.cut 3=h3 la lb (F++(wU (tmR M LB x)++R)):=by
 have hwB:=RB.rng;have hcs:c<4611686018427387904:=Zo.1 hs;refine Zw (Zj Zd) (Z0k o M.length c o' c' x _ la lb) (Zi hs (Zi (by unfold ZP;exact Xa (by omega)) (Zt (Xb (by omega))))) fun g=> ?_;refine Runs.seq (P1:=fun e' y=>e'=none∧∃ (k j:Int) (v8 v9 u1 u2 u3 u4:Value) (g:Nat→Value),y.1=tmF o M.length c o' c' x k v8 v9 u1 u2 u3 u4 j++tl 27 g∧(0≤k∧k<4294967296)∧k=tmC M LB x∧y.2.1=h3 la lb (F++(wU (tmR M LB x)++R))) ?_ ?_ (fun e y he=>by cases he.1)
 ·refine Runs.seq (P1:=fun e' y=>e'=none∧(∃ g,y.1=tmF o M.length c o' c' x 0 undef undef (sl 2 o M.length c) (sl 1 o' M.length c') (i6' M.length) (sl 2 o M.length c) 0++tl 27 g)∧y.2.1=h3 la lb (F++(wU M++R))) (Zb (Zj Zd) (Z5d o M.length c o' c' x _ la lb g) (fun x hx=>by cases hx)) ?_ (fun e y he=>by cases he.1);rintro⟨t,h',s'⟩ ⟨_,⟨g1,ht⟩,hh⟩;simp only at ht hh;subst ht hh;refine (Runs.forLoop (R:=fun _=>False) (P:=fun y=>∃ (k j:Int) (v8 v9 u1 u2 u3 u4:Value) (g:Nat→Value),y.1=tmF o M.length c o' c' x k v8 v9 u1 u2 u3 u4 j++tl 27 g∧(0≤k∧k<4294967296)∧k=tmC M LB x∧y.2.1=h3 la lb (F++(wU (tmR M LB x)++R)))
   (fun r y=>∃ (dx px bx:List Int) (k:Int) (v8 v9 u1 u2 u3 u4:Value) (g:Nat→Value),px.length=r∧dx.length+px.length=M.length∧wds dx∧wds px∧bx=LB.drop dx.length∧(0≤k∧k<4294967296)∧y.1=tmF o M.length c o' c' x k v8 v9 u1 u2 u3 u4 dx.length++tl 27 g∧y.2.1=h3 la lb (F++(wU (dx++px)++R))∧vN dx+4294967296^dx.length*(vN px+x*vN bx+k)=vN M+x*vN LB)
   ?_ (n:=M.length) ⟨[],M,LB,0,undef,undef,_,_,_,_,g1,rfl,by simp,(fun x hx=>by cases hx),hM,rfl,by omega,rfl,rfl,by simp [vN]⟩).mono fun e' y he=> ?_
  ·rintro r ⟨t,h',s'⟩ ⟨dx,px,bx,k,v8,v9,u1,u2,u3,u4,g,hr,hlen,wd1,wd2,hb,hk,ht,hh,hv⟩;simp only at ht hh;subst ht hh
   match px,hr,hlen,wd2,hv with
   | [],hr,hlen,wd2,hv=>
    have hl':dx.length=M.length:=by simpa using hlen
    refine (Zb (Zj Zd) (Z0l o M.length c o' c' x k dx.length v8 v9 u1 u2 u3 u4 _ la lb g) (Zt (Xb (by omega)))).mono fun e' y he=> ?_;obtain⟨rfl,⟨g1,e2⟩,e3⟩:=he;have hbx:bx=[]:=by rw[hb,List.drop_eq_nil_of_le (by omega)]
    subst hbx;simp only[vN] at hv;rw[Int.mul_zero,Int.zero_add,Int.zero_add] at hv;have hbd:=ZaK dx wd1;refine⟨rfl,k,dx.length,v8,v9,u1,u2,u3,u4,g1,e2,hk,?_,?_⟩
    ·unfold tmC;rw[← hv,← hl',Int.add_mul_ediv_left _ _ (by have:=Zaw dx.length;omega),Int.ediv_eq_zero_of_lt hbd.1 hbd.2,Int.zero_add]
    ·unfold tmR;rw[e3,← hv,← hl',Zc5,Zfx dx wd1,List.append_nil]
   | z::px,hr,hlen,wd2,hv=>
    obtain⟨wz,wd2⟩:=Zah wd2;have hl':dx.length<M.length:=by simp at hlen;omega
    have hy:=RB.cell (k:=dx.length) (by omega);have hyr:=hwB (LB.getD dx.length 0) (by
     have hk':dx.length<LB.length:=by omega
     simp [List.getD,List.getElem?_eq_getElem hk'])
    have hbx:bx=LB.getD dx.length 0::LB.drop (dx.length+1):=by
     have hk':dx.length<LB.length:=by omega
     rw[hb,List.drop_eq_getElem_cons hk'];simp [List.getD,List.getElem?_eq_getElem hk']
    generalize LB.getD dx.length 0=yv at*;obtain⟨k1,k2,k3⟩:=ZuK hk hx hyr wz;have cS:=Zei hF dx z px R;have lS:o+dx.length<(F++(wU (dx++z::px)++R)).length:=(List.getElem?_eq_some_iff.1 cS).1;have l1:decide (o+((dx.length:Int)).toNat*1<(F++(wU (dx++z::px)++R)).length)=true:=by
     rw[Xg,Nat.mul_one];exact Xa lS
    have l2:(inR dx.length M.length).1=(inR dx.length M.length).2:=Xa (by omega);refine (Zb (Zj Zd) (Z5e o M.length c o' c' x k dx.length yv z v8 v9 u1 u2 u3 u4 _ la lb g) (Zi (by decide) (Zi l1 (Zi l2 (Zi (Zav cS) (Zi l2 (Zi (Zav hy) (Zi l2 (Zt (Xa (by omega))))))))))).mono fun e' y he=> ?_;obtain⟨rfl,⟨g1,e2⟩,e3⟩:=he;refine⟨px.length,by simp at hr;omega,dx++[tD k x yv z],px,LB.drop (dx.length+1),tC k x yv z,i6' dx.length,uu yv,u1,u2,u3,u4,g1,rfl,by simp at hlen ⊢;omega,Zai wd1 (fun u hu=>by rw[List.mem_singleton.1 hu];exact k1),wd2,by simp,k2,?_,?_,?_⟩
    ·rw[e2,Zv (by omega) (by omega)];simp
    ·rw[e3,Xg,Nat.mul_one,Zej hF]
    ·rw[hbx] at hv;simp only[vN] at hv;rw[zp,List.length_append,List.length_singleton,pw];exact ZuI k3 hv
  ·match e',he with
   | none,he=>exact⟨rfl,he⟩
   | some none,he=>exact he.elim
   | some (some _),he=>exact he.elim
 ·rintro⟨t,h',s'⟩ ⟨_,k,j,v8,v9,u1,u2,u3,u4,g,ht,hk,hkv,hh⟩;simp only at ht hh;subst ht hh;refine (Zb (Zj Zd) (Z0m o M.length c o' c' x k j v8 v9 u1 u2 u3 u4 _ g) (fun x hx=>by cases hx)).mono fun e' y he=> ?_;obtain⟨rfl,⟨g1,e2⟩,e3⟩:=he;have ek:u32.wrap k=tmC M LB x:=by rw[Zha,Int.emod_eq_of_lt hk.1 hk.2,hkv]
  rw[ek] at e2;refine⟨.inr rfl,?_,?_⟩
  ·rw[e2,e3];rfl
  ·rw[e3];rfl
def tmS (S:List Value) (o n:Nat) (L:List Int):List Value:=S.take o++(wU L++S.drop (o+n))
def Zhx (S lb la:List Value) (t t' t'':TypeId) (o n c o' n' c':Nat) (x:Int):Bool:=Nat.beq t tU && Nat.beq t' tR && Nat.beq t'' tR && Z6 t S o n c && Z6 t' lb o' n' c' && Nat.beq n n' && Nat.blt n 1099511627776 && la.all still && decide (0≤x∧x<4294967296)
def Z5f:Zac:=fun vals h s=>
 match vals,h with
 | [.slice (some ⟨2,o,none⟩) n c,.slice (some ⟨1,o',none⟩) n' c',.int .u32 x],⟨3,[(S,t),(lb,t'),(la,t'')]⟩=>some (uu (tmC (Zx S o n) (Zx lb o' n') x),⟨3,[(tmS S o n (tmR (Zx S o n) (Zx lb o' n') x),tU),(lb,tR),(la,tR)]⟩,s,[(Zhx S lb la t t' t'' o n c o' n' c' x,true)])
 | _,_=>none
theorem ZuN:Z8 132 Z5f:=by
 intro vals h s v h' s' lg hg hl m B w E hv;unfold Z5f at hg;split at hg
 ·rename_i o n c o' n' c' x S t lb t' la t'';cases hg;have q:=hl _ Xf;unfold Zhx at q;simp only[Xh,Xi] at q;obtain⟨⟨⟨⟨⟨⟨⟨⟨q1,q2⟩,q3⟩,ra⟩,rb⟩,qn⟩,qN⟩,q5⟩,q6⟩:=q;have q1:=Xj q1;have q2:=Xj q2;have q3:=Xj q3;have qn:=Xj qn;have qN:n<1099511627776:=Zo.1 qN;subst q1 q2 q3 qn;obtain⟨a1,a2,a3,a4,a5,a6,a7⟩:=ZH ra;obtain⟨b1,b2,b3,b4,b5,b6,b7⟩:=ZH rb;have eS:S=S.take o++(wU (Zx S o n)++S.drop (o+n)):=by
   have h1:=a1.cut;rw[a2] at h1;rw[← h1];unfold Zch;rw[← List.drop_drop,List.take_append_drop,List.take_append_drop]
  have hF:(S.take o).length=o:=by
   have:=a1.len;simp;omega
  have r:=ZuM (R:=S.drop (o+n)) (la:=la) (c:=c) (c':=c') hF a1.rng b1 (by rw[a2,b2]) (by rw[a2];exact qN) q6 (by rw[a2];exact a3) a4;rw[a2,← eS] at r;have ht:(Hp.tight ⟨3,[(tmS S o n (tmR (Zx S o n) (Zx lb o' n) x),tU),(lb,tR),(la,tR)]⟩)=true:=by
   unfold Hp.tight tmS;simp only[List.all_cons,List.all_nil,List.all_append,Bool.and_true,Xh];refine⟨⟨?_,Zbo _ _,?_⟩,zx (by omega) (List.all_eq_true.2 b7),zx (by omega) q5⟩
   ·rw[List.all_eq_true];exact fun v hv=>zh (by omega) (a7 v (List.mem_of_mem_take hv))
   ·rw[List.all_eq_true];exact fun v hv=>zh (by omega) (a7 v (List.mem_of_mem_drop hv))
  exact zf (T:=Zk prog Zf Zn true) func132 ZuL (vals:=[sl 2 o n c,sl 1 o' n c',uu x]) (v:=uu (tmC (Zx S o n) (Zx lb o' n) x)) (h:=h3 la lb S) (by rfl) ht r m B w E hv
 ·cases hg
def hcM:Hc:=zP 132 Z5f (zP 112 Zgq hcN)
theorem Zmm:HcOk hcM:=Zz func132 rfl ZuN (Zz func112 rfl ZbW Zag)
def pdP (F:Func):List Code:=[Z3 (sn 0 F),Z3 (sn 1 F),Z3 (sn 2 F),Z3 (sn 3 F)]
def pdL (F:Func):Code:=cIn (cIn (Z0 (Z3 (sn 4 F))))
def pdF (o n c o' n' c' z:Nat) (v7 v8:Value):List Value:=[sl 0 o n c,sl 1 o' n' c',undef,undef,Zp,.nilIface,sl 2 0 z z,v7,v8]
theorem ZuO:f115.body=some (za (pdP f115) (.seq (.seq (Z3 (Z3 (sn 4 f115))) (.block 0 (.loop (pdL f115)))) (Z0 (sn 4 f115)))):=by kernel_rfl
def pZ (n n':Nat):Int:=i64.wrap ((n:Int)+(n':Int))
theorem Z0n (o n c o' n' c':Nat) (la lb:List Value):Zg (evL (Zr prog Zf Zn hcM) 100 (pdP f115) ([sl 0 o n c,sl 1 o' n' c']++List.replicate 57 undef,h2 la lb,[cmp false,cmp false,cmp false,at_]) ⟨[],[],[]⟩) 9 50 none (pdF o n c o' n' c' (pZ n n').toNat undef undef) (h3 la lb (List.replicate (pZ n n').toNat (uu 0))) [(ZI 4 (pZ n n') (pZ n n'),true),(decide (i64.wrap (pZ n n'-1)>8192),false),((n':Int)==0,false),((n:Int)==0,false)]:=by and_intros<;>kernel_rfl
theorem Z8O (o n c o' n' c' z:Nat) (v7 v8:Value) (la lb S:List Value) (g:Nat→Value):ZdU (evC (Zr prog Zf Zn hcM) 100 false (Z3 (Z3 (sn 4 f115))) (pdF o n c o' n' c' z v7 v8++tl 50 g,h3 la lb S,[]) ⟨[],[],[]⟩) 9 22 3 25 none (pdF o n c o' n' c' z v7 v8) [sl 0 o n c,i6' n,i6' 0] (h3 la lb S) []:=by and_intros<;>kernel_rfl
theorem Z0o (o n c o' n' c' z:Nat) (j:Int) (v7 v8:Value) (la lb S:List Value) (g g':Nat→Value):ZdU (evC (Zr prog Zf Zn hcM) 100 false (pdL f115) (ml (pdF o n c o' n' c' z v7 v8) 22 g [sl 0 o n c,i6' n,i6' j] 25 g',h3 la lb S,[cmp false]) ⟨[],[],[]⟩) 9 22 3 25 (some (some 0)) (pdF o n c o' n' c' z v7 v8) [sl 0 o n c,i6' n,i6' j] (h3 la lb S) [(decide (j<n),false)]:=by and_intros<;>kernel_rfl
def pJ (j:Int):Nat:=0+j.toNat*1
def pK (j:Int) (n':Nat):Int:=i64.wrap (j+n')
def pLn (j:Int) (n':Nat):Nat:=(pK j n').toNat-j.toNat
def pS (S lb:List Value) (o' n':Nat) (j x:Int):List Value:=tmS S (pJ j) (pLn j n') (tmR (Zx S (pJ j) (pLn j n')) (Zx lb o' n') x)
def pC (S lb:List Value) (o' n':Nat) (j x:Int):Int:=tmC (Zx S (pJ j) (pLn j n')) (Zx lb o' n') x
theorem Z5g (o n c o' n' c' z:Nat) (j x:Int) (v7 v8:Value) (la lb S:List Value) (g g':Nat→Value):ZdU (evC (Zr prog Zf Zn hcM) 100 false (pdL f115) (ml (pdF o n c o' n' c' z v7 v8) 22 g [sl 0 o n c,i6' n,i6' j] 25 g',h3 la lb S,[cmp true,at_,val (uu x),num 0,at_,at_]) ⟨[],[],[]⟩) 9 22 3 25 none (pdF o n c o' n' c' z (i6' j) (uu x)) [sl 0 o n c,i6' n,i6' (i64.wrap (j+1))]
  (h3 la lb ((pS S lb o' n' j x).set (0+(pK j n').toNat*1) (uu (pC S lb o' n' j x))))
  [(decide (0+(pK j n').toNat*1<(pS S lb o' n' j x).length),true),inR (pK j n') z,(Zhx S lb la tU tR tR (pJ j) (pLn j n') (z-j.toNat) o' n' c' x,true),(ZA z,true),(ZP j (pK j n') z z,true),(decide ((z:Int)=j∧j≠0),false),Zdr la o j x,inR j n,(decide (j<n),true)]:=by and_intros<;>kernel_rfl
theorem Z0p (o n c o' n' c' z:Nat) (v7 v8 u1 u2 u3:Value) (la lb S:List Value) (g g':Nat→Value):Zg (evC (Zr prog Zf Zn hcM) 100 false (Z0 (sn 4 f115)) (ml (pdF o n c o' n' c' z v7 v8) 22 g [u1,u2,u3] 25 g',h3 la lb S,[cmp false]) ⟨[],[],[]⟩) 6 53 (some none) [sl 0 o n c,sl 1 o' n' c',undef,undef,sl 2 0 (Zl (Zx S 0 z)) z,.nilIface] (h3 la lb S) [(decide ((Zl (Zx S 0 z):Int)>8192),false),(Z6 tU S 0 z z,true)]:=by and_intros<;>kernel_rfl
theorem Z5h (p q:Option Addr) (n c n' c':Nat) (h:Hp):Zg (evC (Zr prog Zf Zn hcM) 100 false (Zs f115) ([.slice p n c,.slice q n' c']++List.replicate 57 undef,h,[cmp true]) ⟨[],[],[]⟩) 6 53 (some none) [.slice p n c,.slice q n' c',undef,undef,Zp,.nilIface] h [((n:Int)==0,true)]:=by and_intros<;>kernel_rfl
theorem Z5i (p q:Option Addr) (n c n' c':Nat) (h:Hp):Zg (evC (Zr prog Zf Zn hcM) 100 false (Zs f115) ([.slice p n c,.slice q n' c']++List.replicate 57 undef,h,[cmp false,cmp true]) ⟨[],[],[]⟩) 6 53 (some none) [.slice p n c,.slice q n' c',undef,undef,Zp,.nilIface] h [((n':Int)==0,true),((n:Int)==0,false)]:=by and_intros<;>kernel_rfl
theorem Ziy:f115.body=some (Zs f115):=by kernel_rfl
end Go.Proofs.YtjlponbdflkbjaaGreatDoor.Na
namespace Go.Proofs.YtjlponbdflkbjaaGreatDoor.Na
open Go.Proofs.Tryz
open Go.IntKind
open Go.KRun Go.Nt
set_option maxRecDepth 100000
def hcS:Hc:=zP 117 Z4h (zP 79 Z4l (zP 119 Z4V (zP 112 Zgq hcN)))
theorem Ziz:HcOk hcS:=Zz func117 rfl Zlp (Zz func79 rfl Zhr (Zz func119 rfl Zu1 (Zz func112 rfl ZbW Zag)))
def skI (k:Int):Int:=i64.wrap (k.tdiv 32)
def rmI (k:Int):Int:=k.tmod 32
def zI (n:Nat) (k:Int):Int:=i64.wrap (i64.wrap (skI k+n)+1)
def zN (n:Nat) (k:Int):Nat:=(zI n k).toNat
def oN (k:Int):Nat:=0+(skI k).toNat*1
def pN (n:Nat) (k:Int):Nat:=zN n k-(skI k).toNat
def cpN (n:Nat) (k:Int):Nat:=Nat.min n (pN n k)
def cpL (la:List Value) (o n:Nat) (k:Int):List Value:=(List.replicate (zN n k) (uu 0)).take (oN k)++(la.drop o).take (cpN n k)++(List.replicate (zN n k) (uu 0)).drop (oN k+cpN n k)
def Z5j (la:List Value) (o n:Nat) (k:Int):Bool:= !(Zab tR) && !(ro tU) && Nat.ble (o+cpN n k) la.length && Nat.ble (oN k+cpN n k) (List.replicate (zN n k) (uu 0)).length && ((la.drop o).take (cpN n k)).all one
def upM (la:List Value) (o n:Nat) (k:Int):List Value:=upS (cpL la o n k) (oN k) (pN n k) (rmI k)
def lnI (la:List Value) (o n:Nat):Int:=i64.wrap (262144-Zdz (Zx la o n))
def fS (o n c:Nat) (k:Int) (r e:Value):List Value:=[sl 0 o n c,i6' k,undef,undef,r,e]
theorem Zf9:f80.body=some (Zs f80):=by kernel_rfl
theorem ZuP (o n c:Nat) (k:Int) (la:List Value):Zg (evC (Zr prog Zf Zn hcS) 200 false (Zs f80) ([sl 0 o n c,i6' k]++List.replicate 45 undef,⟨1,[(la,tR)]⟩,[cmp true]) ⟨[],[],[]⟩) 6 41 (some none) (fS o n c k Zp (Zcx 1)) ⟨1,[(la,tR)]⟩ [Zho la o n c,(ZT (Zx la o n),true)]:=by and_intros<;>kernel_rfl
theorem ZuQ (o n c:Nat) (k:Int) (la:List Value):Zg (evC (Zr prog Zf Zn hcS) 200 false (Zs f80) ([sl 0 o n c,i6' k]++List.replicate 45 undef,⟨1,[(la,tR)]⟩,[cmp false,cmp true]) ⟨[],[],[]⟩) 6 41 (some none) (fS o n c k Zp (Zcx 1)) ⟨1,[(la,tR)]⟩ [(decide (k<0),true),Zho la o n c,(ZT (Zx la o n),false)]:=by and_intros<;>kernel_rfl
theorem ZuR (o n c:Nat) (k:Int) (la:List Value):Zg (evC (Zr prog Zf Zn hcS) 200 false (Zs f80) ([sl 0 o n c,i6' k]++List.replicate 45 undef,⟨1,[(la,tR)]⟩,[cmp false,cmp false,cmp true]) ⟨[],[],[]⟩) 6 41 (some none) (fS o n c k Zp .nilIface) ⟨1,[(la,tR)]⟩ [((n:Int)==0,true),(decide (k<0),false),Zho la o n c,(ZT (Zx la o n),false)]:=by and_intros<;>kernel_rfl
theorem Zqg (o n c:Nat) (k:Int) (la:List Value):Zg (evC (Zr prog Zf Zn hcS) 200 false (Zs f80) ([sl 0 o n c,i6' k]++List.replicate 45 undef,⟨1,[(la,tR)]⟩,[cmp false,cmp false,cmp false,cmp true]) ⟨[],[],[]⟩) 6 41 (some none) (fS o n c k Zp (Zcx 2)) ⟨1,[(la,tR)]⟩ [(decide (k>lnI la o n),true),Zho la o n c,((n:Int)==0,false),(decide (k<0),false),Zho la o n c,(ZT (Zx la o n),false)]:=by and_intros<;>kernel_rfl
theorem Zqh (o n c:Nat) (k:Int) (la:List Value):Zg (evC (Zr prog Zf Zn hcS) 200 false (Zs f80) ([sl 0 o n c,i6' k]++List.replicate 45 undef,⟨1,[(la,tR)]⟩,[cmp false,cmp false,cmp false,cmp false,at_,num 0,at_,num 0]) ⟨[],[],[]⟩) 6 41 (some none) (fS o n c k (sl 1 0 (Zl (Zx (upM la o n k) 0 (zN n k))) (zN n k)) .nilIface) (hU (upM la o n k) la)
  [(Z6 tU (upM la o n k) 0 (zN n k) (zN n k),true),(Nat.beq tU tU,true),(Nat.beq tR tR,true),(Z6 tU (cpL la o n k) (oN k) (pN n k) (pN n k),true),(Nat.beq (oN k+pN n k) (cpL la o n k).length,true),(la.all still,true),(decide (0≤rmI k∧rmI k<32),true),
   (ZA (zN n k),true),(ZP (skI k) (zN n k) (zN n k) (zN n k),true),(decide (((zN n k:Nat):Int)=skI k∧skI k≠0),false),(Z5j la o n k,true),(ZA (zN n k),true),(ZP (skI k) (zN n k) (zN n k) (zN n k),true),(decide (((zN n k:Nat):Int)=skI k∧skI k≠0),false),(ZI 4 (zI n k) (zI n k),true),
   (decide (k>lnI la o n),false),Zho la o n c,((n:Int)==0,false),(decide (k<0),false),Zho la o n c,(ZT (Zx la o n),false)]:=by and_intros<;>kernel_rfl
end Go.Proofs.YtjlponbdflkbjaaGreatDoor.Na
namespace Go.Nt
theorem Zmn:∀ (s m:Nat) (V:Int),dg (s+m) (4294967296^s*V)=List.replicate s 0++dg m V
 | 0,m,V=>by simp
 | s+1,m,V=>by
  rw[show s+1+m=(s+m)+1 from by omega];simp only[dg];rw[pw,Int.mul_assoc];generalize hZ:(4294967296:Int)^s*V=Z;have e1:(4294967296*Z) % 4294967296=0:=by omega
  have e2:(4294967296*Z)/4294967296=Z:=by omega
  rw[e1,e2,← hZ,Zmn s m V,List.replicate_succ,List.cons_append]
theorem Zmo (K:Nat):(2:Int)^K=4294967296^(K/32)*2^(K % 32):=by
 have e:(4294967296:Int)=2^32:=rfl;rw[e,← Int.pow_mul,← Int.pow_add,show 32*(K/32)+K % 32=K from by omega]
def Zhb (L:List Int) (K:Nat):List Int:=dg (K/32+(L.length+1)) (vN L*2^K)
theorem ZuS (L:List Int) (K:Nat):Zhb L K=List.replicate (K/32) 0++dg (L.length+1) (vN L*2^(K % 32)):=by
 unfold Zhb;rw[Zmo K,← Int.mul_assoc,Int.mul_comm (vN L),Int.mul_assoc,Zmn]
end Go.Nt
namespace Go.Proofs.YtjlponbdflkbjaaGreatDoor.Na
open Go.Proofs.Tryz
open Go.KRun Go.Nt
set_option maxRecDepth 100000
theorem Zmp {L:List Int}(hL:wds L):0≤Zdz L∧Zdz L≤262144:=by
 unfold Zdz;cases h:(L.length==0 || ZT L) with
 | true=>
  show (0:Int)≤0∧(0:Int)≤262144;omega
 | false=>
  simp only[Bool.or_eq_false_iff] at h;have h8:=Zcz h.2;have h0:L.length≠0:=by simpa using h.1
  have hx:=hL (L.getD (L.length-1) 0) (by
   have hk':L.length-1<L.length:=by omega
   simp [List.getD,List.getElem?_eq_getElem hk'])
  have:=Zee hx.1 hx.2;simp only;omega
theorem Zmq {K:Nat}(h:K≤262144):skI K=((K/32:Nat):Int):=by
 unfold skI;have e:((K:Nat):Int).tdiv 32=((K/32:Nat):Int):=rfl;rw[e,Zv (by omega) (by omega)]
theorem Z0q (K:Nat):rmI K=((K % 32:Nat):Int):=rfl
theorem Z0r {n K:Nat}(h:K≤262144) (hn:n≤8192):zI n K=((K/32+(n+1):Nat):Int):=by
 unfold zI;rw[Zmq h,Zv (n:=((K/32:Nat):Int)+(n:Nat)) (by omega) (by omega),Zv (by omega) (by omega)];omega
theorem Zqi {n K:Nat}(h:K≤262144) (hn:n≤8192):zN n K=K/32+(n+1):=by unfold zN;rw[Z0r h hn,Xg]
theorem Zmr {K:Nat}(h:K≤262144):oN K=K/32:=by unfold oN;rw[Zmq h,Xg];omega
theorem Zqj {n K:Nat}(h:K≤262144) (hn:n≤8192):pN n K=n+1:=by unfold pN;rw[Zmq h,Zqi h hn,Xg];omega
theorem Ztc {n K:Nat}(h:K≤262144) (hn:n≤8192):cpN n K=n:=by unfold cpN;rw[Zqj h hn];simp
theorem Zms {la:List Value}{o K:Nat}{L:List Int}(hR:Row la o L) (h:K≤262144) (hn:L.length≤8192):cpL la o L.length K=wU (List.replicate (K/32) 0++(L++[0])):=by
 unfold cpL;rw[Ztc h hn,Zqi h hn,Zmr h];have e1:(la.drop o).take L.length=wU L:=hR.cut;rw[e1,List.drop_replicate,List.take_replicate,show K/32+(L.length+1)-(K/32+L.length)=1 from by omega,show min (K/32) (K/32+(L.length+1))=K/32 from by omega];unfold wU uu;simp
theorem ZuT {la:List Value}{o K:Nat}{L:List Int}(hR:Row la o L) (h:K≤262144) (hn:L.length≤8192):Z5j la o L.length K=true:=by
 unfold Z5j;rw[Ztc h hn,Zqi h hn,Zmr h];have e1:(la.drop o).take L.length=wU L:=hR.cut;rw[e1,ZbB,ZdZ];have h1:Nat.ble (o+L.length) la.length=true:=Nat.ble_eq_true_of_le hR.len;have h2:Nat.ble (K/32+L.length) (List.replicate (K/32+(L.length+1)) (uu 0)).length=true:=Nat.ble_eq_true_of_le (by rw[List.length_replicate];omega);have h3:((wU L).all one)=true:=by
  unfold wU;rw[List.all_eq_true];intro v hv;obtain⟨x,_,rfl⟩:=List.mem_map.1 hv;rfl
 rw[h1,h2,h3];rfl
theorem Zi0 (A B:List Int):Zx (wU (A++B)) A.length B.length=B:=by
 unfold Zx Zch wU;rw[List.map_append,List.drop_append_of_le_length (by simp),show A.length=(A.map (Value.int .u32)).length from by simp,List.drop_length,List.nil_append,List.take_of_length_le (by simp),List.map_map];exact (List.map_congr_left fun x _=>rfl).trans (List.map_id' _)
theorem Zhy (s:Nat):wds (List.replicate s 0):=fun x hx=>by rw[List.eq_of_mem_replicate hx];omega
theorem ZfA {L:List Int}(h:wds L):wds (L++[0]):=Zai h (fun x hx=>by rw[List.mem_singleton.1 hx];omega)
theorem Z0s {la:List Value}{o K:Nat}{L:List Int}(hR:Row la o L) (h:K≤262144) (hn:L.length≤8192):upM la o L.length K=wU (Zhb L K):=by
 unfold upM upS;rw[Zms hR h hn,Zmr h,Zqj h hn,Z0q,Xg];have e1:=Zi0 (List.replicate (K/32) 0) (L++[0]);rw[List.length_replicate,List.length_append,List.length_singleton] at e1;rw[e1,zp,Int.mul_zero,Int.add_zero,ZuS];unfold wU;rw[List.map_append,List.map_append,List.take_append_of_le_length (by simp),List.take_of_length_le (by simp),List.map_append]
theorem ZuU {la:List Value}{o K:Nat}{L:List Int}(hR:Row la o L) (h:K≤262144) (hn:L.length≤8192):Z6 tU (cpL la o L.length K) (oN K) (pN L.length K) (pN L.length K)=true:=by
 rw[Zms hR h hn,Zmr h,Zqj h hn];unfold Z6;have e1:=Zi0 (List.replicate (K/32) 0) (L++[0]);rw[show Zab tU=false from by kernel_rfl,show Nat.beq (rt tU) tU=true from by kernel_rfl,Nat.ble_eq_true_of_le (show K/32+(L.length+1)≤(wU (List.replicate (K/32) 0++(L++[0]))).length by unfold wU;simp),Nat.ble_eq_true_of_le (Nat.le_refl _),show ZA (L.length+1)=true from Zo.2 (by unfold ZZ;omega),ZbE];have h3:((Zch (wU (List.replicate (K/32) 0++(L++[0]))) (K/32) (L.length+1)).all isU)=true:=by
  rw[List.all_eq_true];intro v hv;unfold Zch wU at hv;obtain⟨x,hx,rfl⟩:=List.mem_map.1 (List.mem_of_mem_drop (List.mem_of_mem_take hv));exact Xa ((Zai (Zhy _) (ZfA hR.rng)) x hx)
 rw[h3];rfl
theorem Zqk {la:List Value}{o n c K:Nat}(ha:Z6 tR la o n c=true) (hb:ZT (Zx la o n)=false) (h0:n≠0) (hK:(K:Int)≤262144-Zdz (Zx la o n)):
  Runs (Zr prog Zf Zn hcS) (Zs f80) ([sl 0 o n c,i6' K]++List.replicate 45 undef,⟨1,[(la,tR)]⟩,[]) fun e y=>(e=none∨e=some none)∧ZV prog f80 y.1 y.2.1=some (.tuple #[sl 1 0 (Zl (Zhb (Zx la o n) K)) (K/32+(n+1)),.nilIface])∧y.2.1.blk? 1=some (wU (Zhb (Zx la o n) K),tU):=by
 obtain⟨a1,a2,a3,a4,a5,a6,a7⟩:=ZH ha;have h8:=Zcz hb;have hl:=Zmp a1.rng;have g0:=Zqh o n c K la;have lI:lnI la o n=262144-Zdz (Zx la o n):=by unfold lnI;rw[Zv (by omega) (by omega)]
 rw[lI] at g0;generalize hL:Zx la o n=L at*;subst a2;have hK2:K≤262144:=by omega
 rw[Z0s a1 hK2 h8] at g0;have ez:=Zqi (n:=L.length) hK2 h8;have esm:ZA (zN L.length K)=true:=Zo.2 (by rw[ez];unfold ZZ;omega);have r1:=ZsN (Za2 (K/32+(L.length+1)) (vN L*2^K)) (c:=zN L.length K) (by rw[ZR,ez];exact Nat.le_refl _) esm;rw[ZR,← ez] at r1;have r2:Z6 tU (wU (Zhb L K)) 0 (zN L.length K) (zN L.length K)=true:=by unfold Zhb;rw[← ez];exact r1.1
 have r3:Zx (wU (Zhb L K)) 0 (zN L.length K)=Zhb L K:=by unfold Zhb;rw[← ez];exact r1.2
 have part:ZP (skI K) (zN L.length K) (zN L.length K) (zN L.length K)=true:=by unfold ZP;rw[Zmq hK2,ez];exact Xa (by omega)
 have part2:decide (((zN L.length K:Nat):Int)=skI K∧skI K≠0)=false:=by rw[Zmq hK2,ez];exact Xb (by omega)
 have mk:ZI 4 (zI L.length K) (zI L.length K)=true:=by unfold ZI;rw[Z0r hK2 h8];exact Xa (by omega)
 have len:Nat.beq (oN K+pN L.length K) (cpL la o L.length K).length=true:=by
  rw[Zms a1 hK2 h8,Zmr hK2,Zqj hK2 h8];unfold wU;simp
 have calm:la.all still=true:=List.all_eq_true.2 a7;have d1:decide (0≤rmI K∧rmI K<32)=true:=by rw[Z0q];exact Xa (by omega)
 have d2:decide ((K:Int)>262144-Zdz L)=false:=Xb (by omega);have d3:((L.length:Int)==0)=false:=by simpa using h0
 have d4:decide ((K:Int)<0)=false:=Xb (by omega);refine (Zb (Zh Zd Ziz) g0 (Zi r2 (Zi (by kernel_rfl) (Zi (by kernel_rfl) (Zi (ZuU a1 hK2 h8) (Zi len (Zi calm (Zi d1
  (Zi esm (Zi part (Zi part2 (Zi (ZuT a1 hK2 h8) (Zi esm (Zi part (Zi part2 (Zi mk (Zi d2 (Zi ha (Zi d3 (Zi d4 (Zi ha (Zt hb)))))))))))))))))))))).mono fun e y he=> ?_
 obtain⟨rfl,⟨g,e2⟩,e3⟩:=he;refine⟨.inr rfl,?_,?_⟩
 ·rw[e2,e3,r3,ez];rfl
 ·rw[e3];rfl
theorem ZfB {la:List Value}{o n c:Nat}{k:Int}{r e:Value}{cs:Log}{s:List Dec}(g0:Zg (evC (Zr prog Zf Zn hcS) 200 false (Zs f80) ([sl 0 o n c,i6' k]++List.replicate 45 undef,⟨1,[(la,tR)]⟩,s) ⟨[],[],[]⟩) 6 41 (some none) (fS o n c k r e) ⟨1,[(la,tR)]⟩ cs) (hcs:Z2 cs)
  (hres:∀ g,ZV prog f80 (fS o n c k r e++tl 41 g) ⟨1,[(la,tR)]⟩=some (.tuple #[r,e])):
  Runs (Zr prog Zf Zn hcS) (Zs f80) ([sl 0 o n c,i6' k]++List.replicate 45 undef,⟨1,[(la,tR)]⟩,[]) fun e' y=>(e'=none∨e'=some none)∧ZV prog f80 y.1 y.2.1=some (.tuple #[r,e]):=by
 refine (Zb (Zh Zd Ziz) g0 hcs).mono fun e' y he=> ?_;obtain⟨rfl,⟨g,e2⟩,e3⟩:=he;refine⟨.inr rfl,?_⟩;rw[e2,e3];exact hres g
def ZuV:Zac:=fun vals h s=>
 match vals with
 | [.slice (some ⟨b,o,none⟩) n c,.int .i64 k]=>
  match h.blk? b,s with
  | some x,.inr (.inr (.inr (.inl true)))::s'=>some (.tuple #[Zp,Zcx 1],h,s',[(Z6 x.2 x.1 o n c,true),(ZT (Zx x.1 o n) || decide (k<0),true)])
  | some x,.inr (.inr (.inr (.inl false))):: .inr (.inr (.inr (.inl true)))::s'=>some (.tuple #[Zp,.nilIface],h,s',[(Z6 x.2 x.1 o n c,true),(ZT (Zx x.1 o n) || decide (k<0),false),(decide (n=0),true)])
  | some x,.inr (.inr (.inr (.inl false))):: .inr (.inr (.inr (.inl false))):: .inr (.inr (.inr (.inl true)))::s'=>some (.tuple #[Zp,Zcx 2],h,s',[(Z6 x.2 x.1 o n c,true),(ZT (Zx x.1 o n) || decide (k<0),false),(decide (n=0),false),(decide (k>262144-Zdz (Zx x.1 o n)),true)])
  | some x,.inr (.inr (.inr (.inl false))):: .inr (.inr (.inr (.inl false))):: .inr (.inr (.inr (.inl false)))::s'=>some (.tuple #[sl h.n 0 (Zl (Zhb (Zx x.1 o n) k.toNat)) (k.toNat/32+(n+1)),.nilIface],h.push (wU (Zhb (Zx x.1 o n) k.toNat)) tU,s',[(Z6 x.2 x.1 o n c,true),(ZT (Zx x.1 o n) || decide (k<0),false),(decide (n=0),false),(decide (k>262144-Zdz (Zx x.1 o n)),false)])
  | _,_=>none
 | _=>none
theorem ZuW:Z8 80 ZuV:=by
 intro vals h s v h' s' lg hg hl m B w E hv;unfold ZuV at hg;split at hg
 ·rename_i b o n c k;have one1:∀ x:List Value×TypeId,h.blk? b=some x→Z6 x.2 x.1 o n c=true→∀ v0:Value,oc (List.range 1) v0=true→rn (fun _=>b) v0=v0→
    Runs (Zr prog Zf Zn hcS) (Zs f80) ([sl 0 o n c,i6' k]++List.replicate 45 undef,⟨1,[(x.1,tR)]⟩,[]) (fun e y=>(e=none∨e=some none)∧ZV prog f80 y.1 y.2.1=some v0)→
    Calls prog 80 (([.slice (some ⟨b,o,none⟩) n c,.int .i64 k]:List Value).map (mv m)).toArray w fun e w'=>∃ m',e= .returned (mv m' v0)∧Came m B h w v0 h m' w':=by
   intro x hx ra v0 ho e0 r;obtain⟨a1,a2,a3,a4,a5,a6,a7⟩:=ZH ra;have hlt:=Hp.blk_lt hx;have:=zj (T:=Zr prog Zf Zn hcS) func80 Zf9 (ZaJ a7) (vals:=[sl 0 o n c,i6' k]) (fun v hv=>by
    simp only[List.mem_cons,List.not_mem_nil,or_false] at hv;rcases hv with rfl | rfl<;>rfl) ho r E (s:=fun _=>b) (fun i _=>hlt) (zQ hx a5 a6 rfl)
   rw[e0] at this;exact this.mono fun e w' he=>⟨m,he.1,he.2⟩
  split at hg
  ·rename_i x s2 hx;cases hg;have ra:=hl _ (Xe);have hd:=hl _ (Xd _ Xf);simp only at hd;refine one1 x hx ra _ (by rfl) (Zd6 (by rfl)) ?_;cases hb:ZT (Zx x.1 o n) with
   | true=>exact ZfB (ZuP o n c k x.1) (Zi (zJ ra) (Zt hb)) (fun _=>rfl)
   | false=>
    rw[hb,Bool.false_or] at hd;exact ZfB (ZuQ o n c k x.1) (Zi hd (Zi (zJ ra) (Zt hb))) (fun _=>rfl)
  ·rename_i x s2 hx;cases hg;have ra:=hl _ (Xe);have hd:=hl _ (Xd _ Xe);have h0:=Xc (hl _ (Xd _ (Xd _ Xf)));simp only[Bool.or_eq_false_iff] at hd;have d3:((n:Int)==0)=true:=by rw[h0];rfl
   exact one1 x hx ra _ (by rfl) (Zd6 (by rfl)) (ZfB (ZuR o n c k x.1) (Zi d3 (Zi hd.2 (Zi (zJ ra) (Zt hd.1)))) (fun _=>rfl))
  ·rename_i x s2 hx;cases hg;have ra:=hl _ (Xe);have hd:=hl _ (Xd _ Xe);have h0:=of_decide_eq_false (hl _ (Xd _ (Xd _ Xe)));have hk:=hl _ (Xd _ (Xd _ (Xd _ Xf)));simp only[Bool.or_eq_false_iff] at hd;have d3:((n:Int)==0)=false:=by simpa using h0
   obtain⟨a1,a2,a3,a4,a5,a6,a7⟩:=ZH ra;have hle:=Zmp a1.rng;have lI:lnI x.1 o n=262144-Zdz (Zx x.1 o n):=by unfold lnI;rw[Zv (by omega) (by omega)]
   have g0:=Zqg o n c k x.1;rw[lI] at g0;exact one1 x hx ra _ (by rfl) (Zd6 (by rfl)) (ZfB g0 (Zi hk (Zi (zJ ra) (Zi d3 (Zi hd.2 (Zi (zJ ra) (Zt hd.1)))))) (fun _=>rfl))
  ·rename_i x s2 hx;cases hg;have ra:=hl _ (Xe);have hd:=hl _ (Xd _ Xe);have h0:=of_decide_eq_false (hl _ (Xd _ (Xd _ Xe)));have hk:=of_decide_eq_false (hl _ (Xd _ (Xd _ (Xd _ Xf))));simp only[Bool.or_eq_false_iff] at hd;have hk0:=of_decide_eq_false hd.2;obtain⟨K,rfl⟩:=Int.eq_ofNat_of_zero_le (show 0≤k by omega);rw[Xg];obtain⟨a1,a2,a3,a4,a5,a6,a7⟩:=ZH ra;have r:=Zqk (K:=K) (zJ ra) hd.1 h0 (by omega);have e1:∀ j M:Nat,rn (fun _=>h.n) (.tuple #[sl 1 0 j M,.nilIface])= .tuple #[sl h.n 0 j M,.nilIface]:=fun j M=>by simp [rn,rn2,rn1,sl]
   have:=ZE (T:=Zr prog Zf Zn hcS) func80 Zf9 (ZaJ a7) (vals:=[sl 0 o n c,i6' K]) (fun v hv=>by
    simp only[List.mem_cons,List.not_mem_nil,or_false] at hv;rcases hv with rfl | rfl<;>rfl) (k:=1) (ZcZ _) ZdZ (r.w.mono fun e y h=>⟨h.1,h.2.1,[],by rw[List.append_nil];exact h.2.2⟩) (by rfl) E (s:=fun _=>b) (zQ hx a5 a6 rfl)
   rw[e1] at this;exact this
  ·cases hg
 ·cases hg
end Go.Proofs.YtjlponbdflkbjaaGreatDoor.Na
namespace Go.Proofs.YtjlponbdflkbjaaGreatDoor.Na
open Go.Proofs.Tryz
open Go.KRun Go.Nt
set_option maxRecDepth 100000
set_option linter.unusedVariables false
def Zhz (L M:List Int):List Int:=dg (L.length+M.length) (vN L*vN M)
theorem z3 {L:List Int}(h:wds L) {o n c:Nat}(hl:o+n≤L.length) (hc:n≤c) (h2:ZA c=true):Z6 tU (wU L) o n c=true:=by
 unfold Z6;have h3:((Zch (wU L) o n).all isU)=true:=by
  rw[List.all_eq_true];intro v hv;unfold Zch wU at hv;obtain⟨x,hx,rfl⟩:=List.mem_map.1 (List.mem_of_mem_drop (List.mem_of_mem_take hv));exact Xa (h x hx)
 rw[show Zab tU=false from by kernel_rfl,show Nat.beq (rt tU) tU=true from by kernel_rfl,Nat.ble_eq_true_of_le (show o+n≤(wU L).length by rw[Zak];exact hl),Nat.ble_eq_true_of_le hc,h2,h3,ZbE];rfl
theorem Zh0 (D M R:List Int):Zx (wU (D++(M++R))) D.length M.length=M:=by
 unfold Zx Zch wU;rw[List.map_append,List.map_append,List.drop_left' (by simp),List.take_left' (by simp),List.map_map];exact (List.map_congr_left fun x _=>rfl).trans (List.map_id' _)
theorem Zh1 (D M R L:List Int):tmS (wU (D++(M++R))) D.length M.length L=wU (D++(L++R)):=by
 have e1:(wU (D++(M++R))).take D.length=wU D:=by
  unfold wU;rw[List.map_append];exact List.take_left' (by simp)
 have e2:(wU (D++(M++R))).drop (D.length+M.length)=wU R:=by
  unfold wU;rw[← List.append_assoc,List.map_append];exact List.drop_left' (by simp)
 unfold tmS;rw[e1,e2];unfold wU;rw[List.map_append,List.map_append]
theorem ZuX (D L:List Int) (z c:Int) (R:List Int):(wU (D++(L++z::R))).set (D.length+L.length) (uu c)=wU (D++((L++[c])++R)):=by
 rw[← List.append_assoc,show D.length+L.length=(D++L).length from by simp,Zil];simp
theorem ZuY {la lb:List Value}{o c o' c':Nat}{LA LB:List Int}(RA:Row la o LA) (RB:Row lb o' LB) (sa:∀ v∈la,still v=true) (hrb:Z6 tR lb o' LB.length c'=true) (ha:0<LA.length) (hb:0<LB.length) (h8:LA.length+LB.length≤8192):
  Runs (Zr prog Zf Zn hcM) (za (pdP f115) (.seq (.seq (Z3 (Z3 (sn 4 f115))) (.block 0 (.loop (pdL f115)))) (Z0 (sn 4 f115)))) ([sl 0 o LA.length c,sl 1 o' LB.length c']++List.replicate 57 undef,h2 la lb,[]) fun e y=>(e=none∨e=some none)∧ZV prog f115 y.1 y.2.1=some (.tuple #[sl 2 0 (Zl (Zhz LA LB)) (LA.length+LB.length),.nilIface])∧y.2.1.blk? 2=some (wU (Zhz LA LB),tU):=by
 have hT:=Zh Zd Zmm;have eZ:pZ LA.length LB.length=((LA.length+LB.length:Nat):Int):=by
  unfold pZ;rw[Zv (by omega) (by omega)];omega
 have g0:=Z0n o LA.length c o' LB.length c' la lb;rw[eZ,Xg] at g0;have esm:∀ q:Nat,q≤8192→ZA q=true:=fun q hq=>Zo.2 (by unfold ZZ;omega);have bA:=RA.rng;have bB:=ZaK LB RB.rng;have erep:List.replicate (LA.length+LB.length) (uu 0)=wU ([]++(List.replicate LB.length 0++List.replicate LA.length 0)):=by
  unfold wU uu;rw[Nat.add_comm];simp [List.replicate_append_replicate]
 rw[erep] at g0;refine Zw hT g0 (Zi (by unfold ZI;exact Xa (by omega)) (Zi (by rw[Zv (by omega) (by omega)];exact Xb (by omega)) (Zi (by simpa using (show LB.length≠0 by omega)) (Zt (by simpa using (show LA.length≠0 by omega)))))) fun g=> ?_;refine Runs.seq (P1:=fun e' y=>e'=none∧∃ (D M:List Int) (v7 v8 u1 u2 u3:Value) (g g':Nat→Value),y.1=ml (pdF o LA.length c o' LB.length c' (LA.length+LB.length) v7 v8) 22 g [u1,u2,u3] 25 g'∧D.length=LA.length∧M.length=LB.length∧wds D∧wds M∧vN D+4294967296^D.length*vN M=vN LA*vN LB∧y.2.1=h3 la lb (wU (D++(M++[])))) ?_ ?_ (fun e y he=>by cases he.1)
 ·refine Runs.seq (P1:=fun e' y=>e'=none∧(∃ g g',y.1=ml (pdF o LA.length c o' LB.length c' (LA.length+LB.length) undef undef) 22 g [sl 0 o LA.length c,i6' LA.length,i6' 0] 25 g')∧y.2.1=h3 la lb (wU ([]++(List.replicate LB.length 0++List.replicate LA.length 0)))) (zC hT (Z8O o LA.length c o' LB.length c' (LA.length+LB.length) undef undef la lb _ g) (fun x hx=>by cases hx)) ?_ (fun e y he=>by cases he.1);rintro⟨t,h',s'⟩ ⟨_,⟨g1,g2,ht⟩,hh⟩;simp only at ht hh;subst ht hh;refine (Runs.forLoop (R:=fun _=>False) (P:=fun y=>∃ (D M:List Int) (v7 v8 u1 u2 u3:Value) (g g':Nat→Value),y.1=ml (pdF o LA.length c o' LB.length c' (LA.length+LB.length) v7 v8) 22 g [u1,u2,u3] 25 g'∧D.length=LA.length∧M.length=LB.length∧wds D∧wds M∧vN D+4294967296^D.length*vN M=vN LA*vN LB∧y.2.1=h3 la lb (wU (D++(M++[]))))
   (fun r y=>∃ (D M:List Int) (v7 v8:Value) (g g':Nat→Value),D.length+r=LA.length∧M.length=LB.length∧wds D∧wds M∧vN D+4294967296^D.length*vN M=vN (LA.take D.length)*vN LB∧y.1=ml (pdF o LA.length c o' LB.length c' (LA.length+LB.length) v7 v8) 22 g [sl 0 o LA.length c,i6' LA.length,i6' D.length] 25 g'∧y.2.1=h3 la lb (wU (D++(M++List.replicate r 0))))
   ?_ (n:=LA.length) ⟨[],List.replicate LB.length 0,undef,undef,g1,g2,by simp,by simp,(fun x hx=>by cases hx),Zhy _,?_,rfl,rfl⟩).mono fun e' y he=> ?_
  ·rintro r ⟨t,h',s'⟩ ⟨D,M,v7,v8,g,g',hr,hM,w1,w2,hv,ht,hh⟩;simp only at ht hh;subst ht hh;cases r with
   | zero=>
    have ek:D.length=LA.length:=by omega
    refine (zC hT (Z0o o LA.length c o' LB.length c' (LA.length+LB.length) D.length v7 v8 la lb _ g g') (Zt (Xb (by omega)))).mono fun e' y he=> ?_;obtain⟨rfl,⟨g1,g2,e2⟩,e3⟩:=he;rw[ek,List.take_length] at hv;rw[← ek] at hv;exact⟨rfl,D,M,v7,v8,_,_,_,g1,g2,e2,ek,hM,w1,w2,hv,e3⟩
   | succ r=>
    have hk:D.length<LA.length:=by omega
    have cA:=RA.cell hk;have hx:=bA (LA.getD D.length 0) (by simp [List.getD,List.getElem?_eq_getElem hk]);have et:=Zax hk;generalize LA.getD D.length 0=x at*;have eJ:pJ D.length=D.length:=by unfold pJ;omega
    have eK:pK D.length LB.length=((D.length+LB.length:Nat):Int):=by unfold pK;rw[Zv (by omega) (by omega)];omega
    have eL:pLn D.length LB.length=M.length:=by unfold pLn;rw[eK];omega
    have ecB:Zx lb o' LB.length=LB:=by
     unfold Zx;rw[RB.cut];unfold wU;rw[List.map_map];exact (List.map_congr_left fun x _=>rfl).trans (List.map_id' _)
    have ecM:Zx (wU (D++(M++List.replicate (r+1) 0))) (pJ D.length) (pLn D.length LB.length)=M:=by rw[eJ,eL];exact Zh0 _ _ _
    have ePS:pS (wU (D++(M++List.replicate (r+1) 0))) lb o' LB.length D.length x=wU (D++(tmR M LB x++List.replicate (r+1) 0)):=by
     unfold pS;rw[ecM,ecB,eJ,eL];exact Zh1 _ _ _ _
    have ePC:pC (wU (D++(M++List.replicate (r+1) 0))) lb o' LB.length D.length x=tmC M LB x:=by
     unfold pC;rw[ecM,ecB]
    have lR:(tmR M LB x).length=M.length:=by unfold tmR;rw[ZR]
    have bM:=ZaK M w2;rw[hM] at bM;have bT:=Z5c bM bB hx;rw[← hM] at bT;obtain⟨y,m,e1,e2,w3,w4,e5⟩:=Zqf bT;have eW:tmR M LB x++[tmC M LB x]=y::m:=e1;have g1:=Z5g o LA.length c o' LB.length c' (LA.length+LB.length) D.length x v7 v8 la lb (wU (D++(M++List.replicate (r+1) 0))) g g';rw[ePS,ePC,eK,eJ,eL,Xg,Xg,Nat.zero_add,Nat.mul_one] at g1;have hall:wds (D++(M++List.replicate (r+1) 0)):=Zai w1 (Zai w2 (Zhy _));have l1:decide (D.length+LB.length<(wU (D++(tmR M LB x++List.replicate (r+1) 0))).length)=true:=Xa (by rw[Zak];simp [lR];omega);have l2:(inR ((D.length+LB.length:Nat):Int) (LA.length+LB.length)).1=(inR ((D.length+LB.length:Nat):Int) (LA.length+LB.length)).2:=Xa (by omega);have l3:Zhx (wU (D++(M++List.replicate (r+1) 0))) lb la tU tR tR D.length M.length (LA.length+LB.length-D.length) o' LB.length c' x=true:=by
     unfold Zhx;rw[z3 hall (by simp) (by omega) (esm _ (by omega)),hrb,List.all_eq_true.2 sa,Zo.2 (show M.length<1099511627776 by omega),Xa hx,hM];simp
    have l5:ZP D.length ((D.length+LB.length:Nat):Int) ((LA.length+LB.length:Nat):Int) ((LA.length+LB.length:Nat):Int)=true:=by unfold ZP;exact Xa (by omega)
    have l6:decide (((LA.length+LB.length:Nat):Int)=(D.length:Int)∧(D.length:Int)≠0)=false:=Xb (by omega);have l7:(inR D.length LA.length).1=(inR D.length LA.length).2:=Xa (by omega);refine (zC hT g1 (Zi l1 (Zi l2 (Zi l3 (Zi (esm _ (by omega)) (Zi l5 (Zi l6 (Zi (Zav cA) (Zi l7 (Zt (Xa (by omega)))))))))))).mono fun e' Y he=> ?_;obtain⟨rfl,⟨g2,g3,f2⟩,f3⟩:=he;refine⟨r,by omega,D++[y],m,i6' D.length,uu x,g2,g3,by simp;omega,by omega,Zai w1 w3,w4,?_,?_,?_⟩
    ·rw[zp,List.length_append,List.length_singleton,pw,et,zp,List.length_take,Nat.min_eq_left (by omega)];exact ZuJ e5 hv
    ·rw[f2,Zv (by omega) (by omega)];simp
    ·rw[f3,List.replicate_succ,← hM,← lR,ZuX,eW];simp
  ·simp only[List.length_nil,List.take_zero];have:vN (List.replicate LB.length 0)=0:=Ztb _;rw[this];simp [vN]
  ·match e',he with
   | none,he=>exact⟨rfl,he⟩
   | some none,he=>exact he.elim
   | some (some _),he=>exact he.elim
 ·rintro⟨t,h',s'⟩ ⟨_,D,M,v7,v8,u1,u2,u3,g,g',ht,hD,hM,w1,w2,hv,hh⟩;simp only at ht hh;subst ht hh;have hw:wds (D++M):=Zai w1 w2;have hl:(D++M).length=LA.length+LB.length:=by simp;omega
  have ew:D++M=Zhz LA LB:=by
   have:=Zfx (D++M) hw;rw[ZsL,hv,hl] at this;exact this.symm
  have hr:=ZsN hw (c:=LA.length+LB.length) (by omega) (esm _ h8);rw[hl] at hr;have htr:=Za4 (D++M);have g1:=Z0p o LA.length c o' LB.length c' (LA.length+LB.length) v7 v8 u1 u2 u3 la lb (wU (D++M)) g g';rw[hr.2] at g1;rw[List.append_nil];refine (Zb hT g1 (Zi (Xb (by omega)) (Zt hr.1))).mono fun e' y he=> ?_;obtain⟨rfl,⟨g1,e2⟩,e3⟩:=he;refine⟨.inr rfl,?_,?_⟩
  ·rw[e2,e3,ew];rfl
  ·rw[e3,ew];rfl
def Z5k:Zac:=fun vals h s=>
 match vals,s with
 | [.slice p n c,.slice q n' c'],.inr (.inr (.inr (.inl true)))::s'=>some (.tuple #[Zp,.nilIface],h,s',[(decide (n=0∨n'=0),true)])
 | [.slice p n c,.slice q n' c'],.inr (.inr (.inr (.inl false)))::s'=>some (.tuple #[sl h.n 0 (Zl (Zhz (Zq h p n) (Zq h q n'))) (n+n'),.nilIface],h.push (wU (Zhz (Zq h p n) (Zq h q n'))) tU,s',[(Zal h p n c,true),(Zal h q n' c',true),(!decide (n=0∨n'=0) && Nat.ble (n+n') 8192,true)])
 | _,_=>none
theorem Zmt:Z8 115 Z5k:=by
 intro vals h s v h' s' lg hg hl m B w E hv;unfold Z5k at hg;split at hg
 ·rename_i p n c q n' c' s2;cases hg;have l1:=Xc (hl _ Xf);by_cases h0:n=0
  ·have r:=Zb (s0:=[]) (Zh Zd Zmm) (Z5h p q n c n' c' h) (Zt (by simp [h0]));exact Zbn (T:=Zr prog Zf Zn hcM) func115 Ziy (vals:=[.slice p n c,.slice q n' c']) (v:= .tuple #[Zp,.nilIface]) (h:=h) (by rfl) (r.mono fun e y he=>by
    obtain⟨rfl,⟨g,e1⟩,e2⟩:=he;exact⟨.inr rfl,by rw[e1,e2];rfl,e2⟩) m B w E hv
  ·have h1:n'=0:=l1.resolve_left h0;have r:=Zb (s0:=[]) (Zh Zd Zmm) (Z5i p q n c n' c' h) (Zi (by simp [h1]) (Zt (by simpa using h0)));exact Zbn (T:=Zr prog Zf Zn hcM) func115 Ziy (vals:=[.slice p n c,.slice q n' c']) (v:= .tuple #[Zp,.nilIface]) (h:=h) (by rfl) (r.mono fun e y he=>by
    obtain⟨rfl,⟨g,e1⟩,e2⟩:=he;exact⟨.inr rfl,by rw[e1,e2];rfl,e2⟩) m B w E hv
 ·rename_i p n c q n' c' s2;cases hg;obtain⟨l1,l2,l3⟩:=Z4k hl;simp only[Xh,Bool.not_eq_true',decide_eq_false_iff_not] at l1 l2 l3;obtain⟨l3,l4⟩:=l3;have l4:=Nat.le_of_ble_eq_true l4;rcases ZL l1 with ⟨_,h0,_⟩ | ⟨b,o,x,rfl,hx,r1,e0⟩
  ·omega
  rcases ZL l2 with ⟨_,h0,_⟩ | ⟨b',o',y,rfl,hy,t1,f0⟩
  ·omega
  rw[e0,f0];obtain⟨a1,a2,a3,a4,a5,a6,a7⟩:=ZH r1;obtain⟨b1,b2,b3,b4,b5,b6,b7⟩:=ZH t1;have r:=ZuY (c:=c) (c':=c') a1 b1 a7 (by rw[b2];exact zJ t1) (by omega) (by omega) (by omega);rw[a2,b2] at r;have e1:∀ k M:Nat,rn (fun _=>h.n) (.tuple #[sl 2 0 k M,.nilIface])= .tuple #[sl h.n 0 k M,.nilIface]:=fun k M=>by simp [rn,rn2,rn1,sl]
  have:=ZE (T:=Zr prog Zf Zn hcM) func115 ZuO (Zhm a7 b7) (vals:=[sl 0 o n c,sl 1 o' n' c']) (fun v hv=>by
   simp only[List.mem_cons,List.not_mem_nil,or_false] at hv;rcases hv with rfl | rfl<;>rfl) (k:=2) (ZcZ _) ZdZ (r.w.mono fun e y h=>⟨h.1,h.2.1,[],by rw[List.append_nil];exact h.2.2⟩) (by rfl) E (s:=ZeT b b') (ZdV hx a5 a6 hy b5 b6)
  rw[e1] at this;exact this
 ·cases hg
end Go.Proofs.YtjlponbdflkbjaaGreatDoor.Na
namespace Go.Proofs.YtjlponbdflkbjaaGreatDoor.Na
open Go.KRun Go.Nt
set_option maxRecDepth 100000
theorem Z0t (V:Nat):wds (db 4294967296 V):=fun x hx=>by
 have:=Zfy (b:=4294967296) (by omega) V x hx;exact⟨this.1,by have:=this.2;omega⟩
end Go.Proofs.YtjlponbdflkbjaaGreatDoor.Na
namespace Go.Proofs.YtjlponbdflkbjaaGreatDoor.Na
open Go.Proofs.Tryz
open Go.IntKind
open Go.KRun Go.Nt
set_option maxRecDepth 100000
def uP (F:Func):List Code:=[Z3 (Zs F),Z3 (Z0 (Zs F))]
def uC2 (F:Func):Code:=Z0 (Z0 (Zs F))
def uR2 (F:Func):Code:=Z3 (Z3 (uC2 F))
def uL1 (F:Func):Code:=cIn (cIn (Z0 (Z3 (uC2 F))))
def uR7 (F:Func):Code:=Z3 (Z3 (Z0 (uC2 F)))
def uL2 (F:Func):Code:=cIn (cIn (Z0 (Z3 (Z0 (uC2 F)))))
def uE (F:Func):Code:=Z0 (Z0 (uC2 F))
theorem Zi1:f111.body=some (za (uP f111) (.seq (.seq (uR2 f111) (.block 0 (.loop (uL1 f111)))) (.seq (.seq (uR7 f111) (.block 2 (.loop (uL2 f111)))) (uE f111)))):=by kernel_rfl
def hW1 (S:List Value):Hp:=⟨1,[(S,tU)]⟩
def u1F (w:Value) (s:ByteArray) (c:Int) (i:Value) (k:Int):List Value:=[w,.string s,undef,undef,Zp,.int .u64 c,i,undef,undef,.string s,.int .i64 s.size,.int .i64 k]
def upC (c b:Int):Int:=u64.wrap (u64.wrap (c*10)+u64.wrap (u8.wrap (b-48)))
theorem Z5l (w:Value) (s:ByteArray) (h:Hp):Zg (evL (Zk prog Zf Zn true) 100 (uP f111) ([w,.string s]++List.replicate 49 undef,h,[]) ⟨[],[],[]⟩) 9 42 none [w,.string s,undef,undef,Zp,.int .u64 0,undef,undef,undef] h []:=by and_intros<;>kernel_rfl
theorem Z8P (w:Value) (s:ByteArray) (h:Hp) (g:Nat→Value):Zg (evC (Zk prog Zf Zn true) 100 false (uR2 f111) ([w,.string s,undef,undef,Zp,.int .u64 0,undef,undef,undef]++tl 42 g,h,[]) ⟨[],[],[]⟩) 12 39 none (u1F w s 0 undef 0) h []:=by and_intros<;>kernel_rfl
theorem Z8Q (w:Value) (s:ByteArray) (c:Int) (i:Value) (k:Int) (h:Hp) (g:Nat→Value):Zg (evC (Zk prog Zf Zn true) 100 false (uL1 f111) (u1F w s c i k++tl 39 g,h,[cmp false]) ⟨[],[],[]⟩) 12 39 (some (some 0)) (u1F w s c i k) h [(decide (k<s.size),false)]:=by and_intros<;>kernel_rfl
theorem Z8R (w:Value) (s:ByteArray) (c:Int) (i:Value) (k:Int) (h:Hp) (g:Nat→Value):Zg (evC (Zk prog Zf Zn true) 100 false (uL1 f111) (u1F w s c i k++tl 39 g,h,[cmp true]) ⟨[],[],[]⟩) 12 39 none (u1F w s (upC c ((s.data.toList.getD k.toNat 0).toNat:Nat)) (.int .i64 k) (i64.wrap (k+1))) h [(decide (0≤k∧k.toNat<s.data.toList.length),true),(decide (k<s.size),true)]:=by and_intros<;>kernel_rfl
def u2A (w:Value) (s:ByteArray) (c:Int) (i v x:Value):List Value:=[w,.string s,undef,undef,Zp,.int .u64 c,i,v,x]
def u2M (w:Value) (n:Nat) (j:Int):List Value:=[w,.int .i64 n,.int .i64 j]
theorem Z8S (n C:Nat) (s:ByteArray) (c:Int) (i:Value) (k:Int) (h:Hp) (g:Nat→Value):ZdU (evC (Zk prog Zf Zn true) 100 false (uR7 f111) (u1F (sl 0 0 n C) s c i k++tl 39 g,h,[]) ⟨[],[],[]⟩) 9 14 3 25 none (u2A (sl 0 0 n C) s c i undef undef) (u2M (sl 0 0 n C) n 0) h []:=by and_intros<;>kernel_rfl
theorem Z8T (n C:Nat) (s:ByteArray) (c:Int) (i v x:Value) (j:Int) (h:Hp) (g g':Nat→Value):ZdU (evC (Zk prog Zf Zn true) 100 false (uL2 f111) (ml (u2A (sl 0 0 n C) s c i v x) 14 g (u2M (sl 0 0 n C) n j) 25 g',h,[cmp false]) ⟨[],[],[]⟩) 9 14 3 25 (some (some 2)) (u2A (sl 0 0 n C) s c i v x) (u2M (sl 0 0 n C) n j) h [(decide (j<n),false)]:=by and_intros<;>kernel_rfl
def ZyU (c x:Int):Int:=u64.wrap (c+u64.wrap (u64.wrap x*1000000000))
theorem Z8U (n C:Nat) (s:ByteArray) (c:Int) (i v x0:Value) (j x:Int) (S:List Value) (g g':Nat→Value):ZdU (evC (Zk prog Zf Zn true) 100 false (uL2 f111) (ml (u2A (sl 0 0 n C) s c i v x0) 14 g (u2M (sl 0 0 n C) n j) 25 g',hW1 S,[cmp true,at_,val (uu x),at_,at_]) ⟨[],[],[]⟩) 9 14 3 25 none (u2A (sl 0 0 n C) s ((ZyU c x).fdiv (2^min (Int.toNat 32) 64)) i (.int .i64 j) (uu x)) (u2M (sl 0 0 n C) n (i64.wrap (j+1))) (hW1 (S.set (0+j.toNat*1) (uu (u32.wrap (ZyU c x))))) [(decide ((32:Int)<0),false),(decide (0+j.toNat*1<S.length),true),inR j n,Zdr S 0 j x,inR j n,(decide (j<n),true)]:=by and_intros<;>kernel_rfl
theorem Z8V (n C:Nat) (s:ByteArray) (c:Int) (i v x:Value) (j:Int) (h:Hp) (g g':Nat→Value):Zg (evC (Zk prog Zf Zn true) 100 false (uE f111) (ml (u2A (sl 0 0 n C) s c i v x) 14 g (u2M (sl 0 0 n C) n j) 25 g',h,[cmp false]) ⟨[],[],[]⟩) 5 46 (some none) [sl 0 0 n C,.string s,undef,undef,sl 0 0 n C] h [(c !=0,false)]:=by and_intros<;>kernel_rfl
theorem Z8W (n C:Nat) (s:ByteArray) (c:Int) (i v x:Value) (j:Int) (S:List Value) (g g':Nat→Value):Zg (evC (Zk prog Zf Zn true) 100 false (uE f111) (ml (u2A (sl 0 0 n C) s c i v x) 14 g (u2M (sl 0 0 n C) n j) 25 g',hW1 S,[cmp true,sam true]) ⟨[],[],[]⟩) 5 46 (some none) [sl 0 0 (n+1) C,.string s,undef,undef,sl 0 0 (n+1) C] ⟨2,[([uu (u32.wrap c)],tU),(S.take n++[uu (u32.wrap c)]++S.drop (n+1),tU)]⟩ [(Zgh tU (S,tU) ([uu (u32.wrap c)],tU) n C 0 1,true),(c !=0,true)]:=by and_intros<;>kernel_rfl
end Go.Proofs.YtjlponbdflkbjaaGreatDoor.Na
