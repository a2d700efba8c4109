/-
  RunA, RunB
-/
import Derived.Orders
import Derived.Scope
import Derived.Below
import Derived.Laws.CopyRow
import Derived.Laws.Rows
import Derived.LoopN
import Derived.KernelRfl
namespace Go
theorem Xa {p:Prop} [Decidable p] (h:p):decide p=true:=decide_eq_true h
theorem Xb {p:Prop} [Decidable p] (h:¬ p):decide p=false:=decide_eq_false h
theorem Xc {p:Prop} [Decidable p] (h:decide p=true):p:=of_decide_eq_true h
theorem Xd {α:Type}(y:α) {a:α}{l:List α}(h:a∈l):a∈y::l:=List.mem_cons_of_mem y h
theorem Xh (a b:Bool):((a && b)=true)=(a=true∧b=true):=Bool.and_eq_true a b
theorem Xi {p:Prop} [Decidable p]:(decide p=true)=p:=decide_eq_true_eq
theorem Xj {n m:Nat}(h:Nat.beq n m=true):n=m:=Nat.eq_of_beq_eq_true h
theorem Xf {α:Type}{a:α}:a∈[a]:=List.mem_singleton.2 rfl
theorem Xg (n:Nat):((n:Int)).toNat=n:=Int.toNat_natCast n
theorem Xe {α:Type}{a:α}{l:List α}:a∈a::l:=List.mem_cons_self
end Go
namespace Go.KRun
open Go.RowKit
def ZV:Nat:=4611686018427387904
abbrev Mp:=Nat→Nat×Nat
def mvA (m:Mp) (a:Addr):Addr:={a with block:=(m a.block).1}
def cap (n c:Nat):Nat:=if Nat.ble ZV c=true then n/(c-ZV) else c
def mv1 (m:Mp):Value→Value
 | .pointer (some a)=> .pointer (some (mvA m a))
 | .slice (some a) l c=> .slice (some (mvA m a)) l (cap (m a.block).2 c)
 | .map (some b)=> .map (some (m b).1)
 | .iface t v=>if Nat.beq t ZV=true then v else .iface t v
 | v=>v
def mv2 (m:Mp):Value→Value
 | .agg cs=> .agg (cs.map (mv1 m))
 | v=>mv1 m v
def mv (m:Mp):Value→Value
 | .tuple vs=> .tuple (vs.map (mv2 m))
 | v=>mv2 m v
def lt1 (n:Nat):Value→Bool
 | .pointer (some a)=>Nat.blt a.block n
 | .slice (some a) _ _=>Nat.blt a.block n
 | .map (some b)=>Nat.blt b n
 | .iface t _=>if Nat.beq t ZV=true then Nat.blt 0 n else true
 | _=>true
def lt2 (n:Nat):Value→Bool
 | .agg cs=>cs.toList.all (lt1 n)
 | v=>lt1 n v
def lt (n:Nat):Value→Bool
 | .tuple vs=>vs.toList.all (lt2 n)
 | v=>lt2 n v
def one:Value→Bool
 | .agg _ | .tuple _=>false
 | .iface t _=> !(Nat.beq t ZV)
 | _=>true
def noT:Value→Bool
 | .tuple _=>false
 | .iface t _=> !(Nat.beq t ZV)
 | _=>true
def ZD:Value→List Value
 | .agg cs=>cs.toList
 | v=>[v]
def Agree (m m':Mp) (n:Nat):Prop:=∀ b,b<n→m' b=m b
theorem Agree.refl (m:Mp) (n:Nat):Agree m m n:=fun _ _=>rfl
theorem Agree.trans {m m' m'':Mp}{n n':Nat}(h:Agree m m' n) (h':Agree m' m'' n') (hn:n≤n'):Agree m m'' n:=
 fun b hb=>(h' b (by omega)).trans (h b hb)
theorem Zk {a b:Nat}:Nat.blt a b=true↔a<b:=by simp [Nat.blt_eq]
theorem ZcZ {m m':Mp}{n:Nat}(h:Agree m m' n) {v:Value}(hv:lt1 n v=true):mv1 m' v=mv1 m v:=by
 unfold mv1;split
 ·simp only[lt1,Zk] at hv;simp [mvA,h _ hv]
 ·simp only[lt1,Zk] at hv;simp [mvA,h _ hv]
 ·simp only[lt1,Zk] at hv;simp [h _ hv]
 ·rfl
 ·rfl
theorem Zfh {m m':Mp}{n:Nat}(h:Agree m m' n) {v:Value}(hv:lt2 n v=true):mv2 m' v=mv2 m v:=by
 unfold mv2;split
 ·rename_i cs;simp only[lt2,List.all_eq_true] at hv;congr 1;exact Array.map_congr_left fun x hx=>ZcZ h (hv x (by simpa using hx))
 ·rename_i hna;refine ZcZ h ?_;unfold lt2 at hv;split at hv
  ·rename_i cs;exact absurd rfl (hna cs)
  ·exact hv
theorem ZmB {m m':Mp}{n:Nat}(h:Agree m m' n) {v:Value}(hv:lt n v=true):mv m' v=mv m v:=by
 unfold mv;split
 ·rename_i vs;simp only[lt,List.all_eq_true] at hv;congr 1;exact Array.map_congr_left fun x hx=>Zfh h (hv x (by simpa using hx))
 ·rename_i hna;refine Zfh h ?_;unfold lt at hv;split at hv
  ·rename_i cs;exact absurd rfl (hna cs)
  ·exact hv
theorem ZX {m:Mp}{v:Value}(hv:lt1 0 v=true):mv1 m v=v:=by
 unfold mv1;split
 ·simp [lt1] at hv
 ·simp [lt1] at hv
 ·simp [lt1] at hv
 ·rename_i t u;split
  ·rename_i h;simp [lt1,h] at hv
  ·rfl
 ·rfl
theorem Zda {m:Mp}{v:Value}(hv:lt2 0 v=true):mv2 m v=v:=by
 unfold mv2;split
 ·rename_i cs;simp only[lt2,List.all_eq_true] at hv;congr 1;have:cs.map (mv1 m)=cs.map id:=Array.map_congr_left fun x hx=>ZX (hv x (by simpa using hx));rw[this,Array.map_id]
 ·rename_i hna;refine ZX ?_;unfold lt2 at hv;split at hv
  ·rename_i cs;exact absurd rfl (hna cs)
  ·exact hv
theorem Z9 {m:Mp}{v:Value}(hv:lt 0 v=true):mv m v=v:=by
 unfold mv;split
 ·rename_i cs;simp only[lt,List.all_eq_true] at hv;congr 1;have:cs.map (mv2 m)=cs.map id:=Array.map_congr_left fun x hx=>Zda (hv x (by simpa using hx));rw[this,Array.map_id]
 ·rename_i hna;refine Zda ?_;unfold lt at hv;split at hv
  ·rename_i cs;exact absurd rfl (hna cs)
  ·exact hv
theorem ZI {n n':Nat}(hn:n≤n') {v:Value}(hv:lt1 n v=true):lt1 n' v=true:=by
 unfold lt1 at*;split at hv
 ·simp only[Zk] at*;omega
 ·simp only[Zk] at*;omega
 ·simp only[Zk] at*;omega
 ·split at hv
  ·rename_i h;simp only[h,if_true,Zk] at*;omega
  ·rename_i h;simp [h]
 ·rfl
theorem Zes {n n':Nat}(hn:n≤n') {v:Value}(hv:lt2 n v=true):lt2 n' v=true:=by
 unfold lt2 at*;split at hv
 ·simp only[List.all_eq_true] at*;exact fun x hx=>ZI hn (hv x hx)
 ·exact ZI hn hv
theorem Zaj {n n':Nat}(hn:n≤n') {v:Value}(hv:lt n v=true):lt n' v=true:=by
 unfold lt at*;split at hv
 ·simp only[List.all_eq_true] at*;exact fun x hx=>Zes hn (hv x hx)
 ·exact Zes hn hv
theorem zO (m:Mp):mv m undef=undef:=by simp [mv,undef]
theorem Zp3 {m:Mp}{v:Value}(h:one v=true):mv m v=mv1 m v:=by
 cases v<;>simp_all [one,mv,mv2]
theorem Zjl {n:Nat}{v:Value}(h:one v=true):lt n v=lt1 n v:=by
 cases v<;>simp_all [one,lt,lt2]
theorem Zjm (f:Value→Value) (cs:Array Value):cs.map f=(cs.toList.map f).toArray:=by
 cases cs;simp
theorem Zet {m:Mp}{v:Value}(h:noT v=true):(mv m v).cells=((ZD v).map (mv1 m)).toArray:=by
 cases v with
 | agg cs=>exact Zjm (mv1 m) cs
 | tuple vs=>simp [noT] at h
 | pointer a=>cases a<;>simp [mv,mv2,mv1,Value.cells,ZD]
 | map a=>cases a<;>simp [mv,mv2,mv1,Value.cells,ZD]
 | slice a l c=>cases a<;>simp [mv,mv2,mv1,Value.cells,ZD]
 | iface t u=>
  simp only[noT,Bool.not_eq_true'] at h;simp [mv,mv2,mv1,Value.cells,ZD,h]
 | _=>simp [mv,mv2,mv1,Value.cells,ZD]
theorem Zeu {n:Nat}{v:Value}(h:noT v=true) (hv:lt n v=true):∀ x∈ZD v,lt1 n x=true:=by
 cases v with
 | agg cs=>simpa only [lt,lt2,ZD,List.all_eq_true] using hv
 | tuple vs=>simp [noT] at h
 | _=>simpa [lt,lt2,ZD] using hv
def still:Value→Bool
 | .pointer (some _)=>false
 | .slice (some _) _ _=>false
 | .map (some _)=>false
 | _=>true
theorem ZmC {m m':Mp}{v:Value}(h:still v=true):mv1 m v=mv1 m' v:=by
 cases v with
 | pointer a=>cases a<;>simp_all [still,mv1]
 | map a=>cases a<;>simp_all [still,mv1]
 | slice a l c=>cases a<;>simp_all [still,mv1]
 | _=>rfl
theorem ZcK {n:Nat}(hn:0<n) {v:Value}(h:still v=true):lt1 n v=true:=by
 cases v with
 | pointer a=>cases a<;>simp_all [still,lt1]
 | map a=>cases a<;>simp_all [still,lt1]
 | slice a l c=>cases a<;>simp_all [still,lt1]
 | iface t u=>
  simp only[lt1];split
  ·exact Zk.2 hn
  ·rfl
 | _=>rfl
theorem Zdb {m m':Mp}{l:List Value}(h:∀ v∈l,still v=true):l.map (mv1 m)=l.map (mv1 m'):=List.map_congr_left fun v hv=>ZmC (h v hv)
structure Hp where
 n:Nat
 l:List (List Value×TypeId)
def Hp.blk? (h:Hp) (b:Nat):Option (List Value×TypeId):=if Nat.blt b h.n=true then h.l[h.n-1-b]? else none
def Hp.push (h:Hp) (cs:List Value) (e:TypeId):Hp:=⟨h.n+1,(cs,e)::h.l⟩
def Hp.put (h:Hp) (b:Nat) (x:List Value×TypeId):Hp:=⟨h.n,h.l.set (h.n-1-b) x⟩
def Hp.cut (h:Hp) (n:Nat):Hp:=⟨n,h.l.drop (h.n-n)⟩
def ro (e:TypeId):Bool:=Nat.ble ZV e
def Zam (e:TypeId):Bool:=Nat.ble (2*ZV) e
theorem zo {e:TypeId}(h:ro e=false):Zam e=false:=by
 unfold Zam ro at*;cases h1:Nat.ble (2*ZV) e
 ·rfl
 ·have h2:=Nat.le_of_ble_eq_true h1;have h3:Nat.ble ZV e=true:=Nat.ble_eq_true_of_le (by omega);rw[h3] at h;cases h
def ab (e:TypeId):Bool:=Nat.ble (3*ZV) e
theorem ZqA {e:TypeId}(h:ro e=false):ab e=false:=by
 unfold ab ro at*;cases h1:Nat.ble (3*ZV) e
 ·rfl
 ·have h2:=Nat.le_of_ble_eq_true h1;have h3:Nat.ble ZV e=true:=Nat.ble_eq_true_of_le (by unfold ZV at*;omega);rw[h3] at h;cases h
def rt (e:TypeId):TypeId:=if Nat.ble ZV e=true then e-ZV else e
theorem ZdM {e:TypeId}(h:ro e=false):rt e=e:=by unfold rt;unfold ro at h;simp [h]
def lie (w:World) (k:Nat×Nat) (cs:List Value) (e:TypeId):Prop:=∃ r,∃ z:TypeId×Nat×Nat,cs.length+r.length=k.2∧w.heap[k.1]? =some (.cells (cs++r).toArray z.1 z.2)∧(ro e=false→z.1=rt e∧z.2=(0,0))
theorem lie.congr {w w':World}{k:Nat×Nat}{cs:List Value}{e:TypeId}(h:w'.heap[k.1]? =w.heap[k.1]?) (hl:lie w k cs e):lie w' k cs e:=by
 obtain⟨r,z,h0,h1,h2⟩:=hl;exact⟨r,z,h0,by rw[h,h1],h2⟩
theorem lie.lt {w:World}{k:Nat×Nat}{cs:List Value}{e:TypeId}(hl:lie w k cs e):k.1<w.heap.size:=by
 obtain⟨r,z,_,h1,_⟩:=hl;exact (Array.getElem?_eq_some_iff.1 h1).1
def ZuA (o:Option Obj):Prop:=∀ c e z,o=some (.cells c e z)→z=(0,0)
theorem Zcm {o:Option Obj}{c:Array Value}{e:TypeId}(h:o=some (.cells c e (0,0))):ZuA o:=by
 intro c' e' z hz;rw[h] at hz;cases hz;rfl
def nbA (e:TypeId):Nat:=(e-3*ZV) % 1048576
def lnA (e:TypeId):Nat:=(e-3*ZV)/1048576
def absR (w:World) (L:List Value) (e:TypeId):Prop:=∃ r t z,w.heap[nbA e]? =some (.cells (L++r).toArray t z)∧(lnA e=0∨L.length+r.length=lnA e)
theorem absR.congr {w w':World}{L:List Value}{e:TypeId}(h:w'.heap[nbA e]? =w.heap[nbA e]?) (hl:absR w L e):absR w' L e:=by
 obtain⟨r,t,z,h1,h2⟩:=hl;exact⟨r,t,z,by rw[h,h1],h2⟩
def mpT:TypeId:=4*ZV
def obT:TypeId:=4*ZV+1
def fmT:TypeId:=4*ZV+2
def spK (e:TypeId):Bool:=Nat.beq e (4*ZV) || Nat.beq e (4*ZV+1) || Nat.beq e (4*ZV+2)
theorem Zdc {e:TypeId}(h:spK e=true):e=mpT∨e=obT∨e=fmT:=by
 unfold spK at h;rw[Bool.or_eq_true,Bool.or_eq_true] at h;rcases h with (h | h) | h
 ·exact .inl (Xj h)
 ·exact .inr (.inl (Xj h))
 ·exact .inr (.inr (Xj h))
def Z2E:TypeId:=0
theorem ZfV {e:TypeId}(h:ro e=false):spK e=false:=by
 cases h1:spK e
 ·rfl
 ·exfalso
  rcases Zdc h1 with rfl | rfl | rfl<;>cases h
theorem Zp4 {e:TypeId}(h:spK e=true):ab e=true:=by
 rcases Zdc h with rfl | rfl | rfl<;>rfl
def Zcn (es:List MapEntry):List Value:=es.flatMap fun e=>[e.key,e.val]
def ZbO (es:Array MapEntry):List Value:= .int .i64 (es.size:Nat)::Zcn es.toList
def mapAt (w:World) (g:Nat) (L:List Value):Prop:=∃ es ck r,w.heap[g]? =some (.map es ck)∧ZbO es=L++r
def Zze (B:Nat) (w:World) (g:Nat) (L:List Value):Prop:=∃ c q,w.heap[g]? =some (.cells (c::q).toArray Z2E (0,0))∧((c= .map none∧∃ r,ZbO #[]=L++r)∨∃ g2,c= .map (some g2)∧B≤g2∧mapAt w g2 L)
def frV:Value→Option (Nat×TypeId×Array Value)
 | .func (.func k) ⟨[.int _ t]⟩ cs=>some (k,t.toNat,cs)
 | _=>none
def Z2F (w:World) (L:List Value):Prop:=∀ v∈L,∀ k t cs,frV v=some (k,t,cs)→w.heap[k]? =some (.cells cs t (0,0))
def Sp (B:Nat) (w:World) (g:Nat) (L:List Value) (e:TypeId):Prop:=(e=mpT→B≤g∧mapAt w g L)∧(e=obT→B≤g∧Zze B w g L)∧(e=fmT→Z2F w L)∧(e≠fmT→g<w.heap.size)
def fpt (g:Nat) (L:List Value) (e:TypeId) (k:Nat):Prop:=(e≠fmT∧k=g)∨(e=fmT∧∃ v∈L,∃ t cs,frV v=some (k,t,cs))
theorem Zjn {g k:Nat}{L r:List Value}{e:TypeId}(h:fpt g L e k):fpt g (L++r) e k:=by
 rcases h with h | ⟨h,v,hv,t,cs,hf⟩
 ·exact .inl h
 ·exact .inr ⟨h,v,List.mem_append_left _ hv,t,cs,hf⟩
theorem mapAt.front {w:World}{g:Nat}{L r:List Value}(h:mapAt w g (L++r)):mapAt w g L:=by
 obtain⟨es,ck,r',h1,h2⟩:=h;exact⟨es,ck,r++r',h1,by rw[h2,List.append_assoc]⟩
theorem mapAt.congr {w w':World}{g:Nat}{L:List Value}(h:w'.heap[g]? =w.heap[g]?) (hl:mapAt w g L):mapAt w' g L:=by
 obtain⟨es,ck,r,h1,h2⟩:=hl;exact⟨es,ck,r,by rw[h,h1],h2⟩
theorem Sp.lt {B:Nat}{w:World}{g k:Nat}{L:List Value}{e:TypeId}(S:Sp B w g L e) (h:fpt g L e k):k<w.heap.size:=by
 obtain⟨_,_,s3,s4⟩:=S;rcases h with ⟨h,rfl⟩ | ⟨h,v,hv,t,cs,hf⟩
 ·exact s4 h
 ·exact (Array.getElem?_eq_some_iff.1 (s3 h v hv k t cs hf)).1
theorem Sp.keep {B:Nat}{w w':World}{g:Nat}{L:List Value}{e:TypeId}(S:Sp B w g L e) (hs:w.heap.size≤w'.heap.size) (h:∀ k,fpt g L e k→w'.heap[k]? =w.heap[k]?) (hm:∀ (g2:Nat) (es:Array MapEntry) (ck:Nat),B≤g2→w.heap[g2]? =some (.map es ck)→w'.heap[g2]? =w.heap[g2]?):Sp B w' g L e:=by
 obtain⟨s1,s2,s3,s4⟩:=S;have nf:∀ q:TypeId,q≠fmT→e=q→fpt g L e g:=fun q hq he=> .inl ⟨by rw[he];exact hq,rfl⟩;refine⟨fun he=>⟨(s1 he).1,(s1 he).2.congr (h _ (nf mpT (by decide) he))⟩,fun he=> ?_,fun he v hv k t cs hf=> ?_,fun he=>Nat.lt_of_lt_of_le (s4 he) hs⟩
 ·obtain⟨b,c,q,h1,h2⟩:=s2 he;refine⟨b,c,q,by rw[h _ (nf obT (by decide) he),h1],?_⟩;rcases h2 with h2 | ⟨g2,a,b,d⟩
  ·exact .inl h2
  ·refine .inr ⟨g2,a,b,?_⟩;obtain⟨es,ck,r,d1,d2⟩:=d;exact⟨es,ck,r,by rw[hm g2 es ck b d1,d1],d2⟩
 ·rw[h k (.inr ⟨he,v,hv,t,cs,hf⟩)];exact s3 he v hv k t cs hf
theorem Sp.heap {B:Nat}{w w':World}{g:Nat}{L:List Value}{e:TypeId}(S:Sp B w g L e) (hs:w.heap.size≤w'.heap.size) (h:∀ k,k<w.heap.size→w'.heap[k]? =w.heap[k]?):Sp B w' g L e:=
 S.keep hs (fun k hk=>h k (S.lt hk)) fun g2 _ _ _ h1=>h g2 (Array.getElem?_eq_some_iff.1 h1).1
theorem Sp.cells {B:Nat}{w w':World}{g k0:Nat}{L:List Value}{e:TypeId}(S:Sp B w g L e) (hs:w.heap.size=w'.heap.size) (hk:¬ fpt g L e k0) {r0:Array Value}{ty:TypeId}{z:Nat×Nat}(hl:w.heap[k0]? =some (.cells r0 ty z)) (h:∀ k,k≠k0→w'.heap[k]? =w.heap[k]?):Sp B w' g L e:=by
 refine S.keep (Nat.le_of_eq hs) (fun k hf=>h k ?_) fun g2 _ _ _ h1=>h g2 ?_
 ·rintro rfl;exact hk hf
 ·rintro rfl;rw[hl] at h1;cases h1
theorem Sp.front {B:Nat}{w:World}{g:Nat}{L r:List Value}{e:TypeId}(S:Sp B w g (L++r) e):Sp B w g L e:=by
 obtain⟨s1,s2,s3,s4⟩:=S;refine⟨fun he=>⟨(s1 he).1,(s1 he).2.front⟩,fun he=> ?_,fun he v hv=>s3 he v (List.mem_append_left _ hv),s4⟩;obtain⟨b,c,q,h1,h2⟩:=s2 he;refine⟨b,c,q,h1,?_⟩;rcases h2 with ⟨a,r',b⟩ | ⟨g2,a,b,d⟩
 ·exact .inl ⟨a,r++r',by rw[b,List.append_assoc]⟩
 ·exact .inr ⟨g2,a,b,d.front⟩
def AbsOk (m:Mp) (B:Nat) (h:Hp) (w:World) (b:Nat) (x:List Value×TypeId):Prop:=
 (spK x.2=false→nbA x.2<B∧absR w (x.1.map (mv1 m)) x.2)∧
 (spK x.2=true→Sp B w (m b).1 (x.1.map (mv1 m)) x.2∧(∀ c y,h.blk? c=some y→ro y.2=false→¬ fpt (m b).1 (x.1.map (mv1 m)) x.2 (m c).1)∧∀ c y,h.blk? c=some y→spK y.2=true→Nat.beq y.2 fmT=Nat.beq x.2 fmT→c=b)
structure Emb (m:Mp) (B:Nat) (h:Hp) (w:World):Prop where
 len:h.l.length=h.n
 lies:∀ b x,h.blk? b=some x→Zam x.2=false→lie w (m b) (x.1.map (mv1 m)) x.2
 low:∀ b x,h.blk? b=some x→ro x.2=false→B≤(m b).1
 ros:∀ b x,h.blk? b=some x→Zam x.2=false→ro x.2=true→(m b).1<B
 inj:∀ b b' x x',h.blk? b=some x→h.blk? b'=some x'→ro x.2=false→ro x'.2=false→(m b).1=(m b').1→b=b'
 wf:∀ b x,h.blk? b=some x→∀ v∈x.1,lt1 h.n v=true
 base:B≤w.heap.size
 ice:∀ k,B≤k→k<w.heap.size→ZuA w.heap[k]?
 abs:∀ b x,h.blk? b=some x→ab x.2=true→AbsOk m B h w b x
theorem Hp.blk_lt {h:Hp}{b:Nat}{x:List Value×TypeId}(hb:h.blk? b=some x):b<h.n:=by
 unfold Hp.blk? at hb;split at hb
 ·rename_i hlt;exact Zk.1 hlt
 ·cases hb
theorem Emb.blk {m:Mp}{B:Nat}{h:Hp}{w:World}(E:Emb m B h w) {b:Nat}(hb:b<h.n):∃ x,h.blk? b=some x:=by
 have hl:h.n-1-b<h.l.length:=by rw[E.len];omega
 exact⟨h.l[h.n-1-b],by unfold Hp.blk?;rw[if_pos (Zk.2 hb),List.getElem?_eq_getElem hl]⟩
theorem Emb.here {m:Mp}{B:Nat}{h:Hp}{w:World}(E:Emb m B h w) {b:Nat}{x:List Value×TypeId}(hb:h.blk? b=some x) (hx:Zam x.2=false):(m b).1<w.heap.size:=(E.lies b x hb hx).lt
theorem Emb.none (w:World):Emb (fun b=>(b,0)) w.heap.size ⟨0,[]⟩ w:=
 ⟨rfl,fun b x hb=>absurd (Hp.blk_lt hb) (Nat.not_lt_zero _),fun b x hb=>absurd (Hp.blk_lt hb) (Nat.not_lt_zero _),fun b x hb=>absurd (Hp.blk_lt hb) (Nat.not_lt_zero _),fun b b' x x' hb=>absurd (Hp.blk_lt hb) (Nat.not_lt_zero _),fun b x hb=>absurd (Hp.blk_lt hb) (Nat.not_lt_zero _),Nat.le_refl _,fun k h1 h2=>by omega,fun b x hb=>absurd (Hp.blk_lt hb) (Nat.not_lt_zero _)⟩
def upd (m:Mp) (n:Nat) (k:Nat×Nat):Mp:=fun b=>if b=n then k else m b
theorem Z7 (m:Mp) (n:Nat) (k:Nat×Nat):Agree m (upd m n k) n:=fun b hb=>by simp [upd,Nat.ne_of_lt hb]
theorem zi {m m':Mp}{n:Nat}(h:Agree m m' n) {l:List Value}(hl:∀ v∈l,lt1 n v=true):l.map (mv1 m')=l.map (mv1 m):=
 List.map_congr_left fun v hv=>ZcZ h (hl v hv)
theorem Hp.blk_push {h:Hp}{cs:List Value}{e:TypeId}{b:Nat}(_hl:h.l.length=h.n):
  (h.push cs e).blk? b=if b=h.n then some (cs,e) else h.blk? b:=by
 unfold Hp.blk? Hp.push;simp only[Zk];by_cases h1:b=h.n
 ·subst h1;simp
 ·by_cases h2:b<h.n
  ·have e1:h.n+1-1-b=(h.n-1-b)+1:=by omega
   rw[if_pos (by omega:b<h.n+1),if_neg h1,if_pos h2,e1,List.getElem?_cons_succ]
  ·rw[if_neg (by omega:¬ b<h.n+1),if_neg h1,if_neg h2]
theorem zW (w:World) (o:Obj):(w.alloc o).heap.size=w.heap.size+1:=by unfold World.alloc;exact Array.size_push _
theorem Zan (w:World) (o:Obj):(w.alloc o).heap[w.heap.size]? =some o:=by unfold World.alloc;exact Array.getElem?_push_size
theorem zP (w:World) (o:Obj) (k:Nat) (h:k≠w.heap.size):(w.alloc o).heap[k]? =w.heap[k]? :=by
 unfold World.alloc;show (w.heap.push o)[k]? =w.heap[k]?;rw[Array.getElem?_push,if_neg h]
theorem AbsOk.heap {m:Mp}{B:Nat}{h:Hp}{w w':World}{b:Nat}{x:List Value×TypeId}(A:AbsOk m B h w b x) (hB:B≤w.heap.size) (hs:w.heap.size≤w'.heap.size) (hk:∀ k,k<w.heap.size→w'.heap[k]? =w.heap[k]?):AbsOk m B h w' b x:=by
 refine⟨fun he=> ?_,fun he=> ?_⟩
 ·obtain⟨k1,k2⟩:=A.1 he;exact⟨k1,k2.congr (hk _ (Nat.lt_of_lt_of_le k1 hB))⟩
 ·obtain⟨k2,k3,k4⟩:=A.2 he;exact⟨k2.heap hs hk,k3,k4⟩
theorem AbsOk.push {m:Mp}{B:Nat}{h:Hp}{w:World}{b:Nat}{x:List Value×TypeId}(A:AbsOk m B h w b x) (hl:h.l.length=h.n) (hb:b<h.n) (hwf:∀ v∈x.1,lt1 h.n v=true) {cs:List Value}{e:TypeId}(he:ro e=false) {q:Nat×Nat}(hq:spK x.2=true→¬ fpt (m b).1 (x.1.map (mv1 m)) x.2 q.1):AbsOk (upd m h.n q) B (h.push cs e) w b x:=by
 have eb:upd m h.n q b=m b:=Z7 m h.n q b hb;have ec:=zi (Z7 m h.n q) hwf;refine⟨fun hs=> ?_,fun hs=> ?_⟩
 ·rw[ec];exact A.1 hs
 ·obtain⟨k2,k3,k4⟩:=A.2 hs;rw[eb,ec];refine⟨k2,fun c y hc hy=> ?_,fun c y hc hy=> ?_⟩
  ·rw[Hp.blk_push hl] at hc;split at hc
   ·rename_i hcn;rw[hcn,show upd m h.n q h.n=q by simp [upd]];exact hq hs
   ·rename_i hcn;rw[show upd m h.n q c=m c by simp [upd,hcn]];exact k3 c y hc hy
  ·rw[Hp.blk_push hl] at hc;split at hc
   ·cases hc;rw[ZfV he] at hy;cases hy
   ·exact k4 c y hc hy
theorem AbsOk.put {m:Mp}{B:Nat}{h:Hp}{w:World}{b:Nat}{x:List Value×TypeId}(A:AbsOk m B h w b x) {k:Nat}{z:List Value×TypeId}(hb:∀ c,(h.put k z).blk? c=if c=k then some z else h.blk? c) (hz:ro z.2=false→∃ y,h.blk? k=some y∧ro y.2=false) (hs:spK z.2=false):AbsOk m B (h.put k z) w b x:=by
 refine⟨A.1,fun he=> ?_⟩;obtain⟨k2,k3,k4⟩:=A.2 he;refine⟨k2,fun c y hc hy=> ?_,fun c y hc hy=> ?_⟩
 ·rw[hb] at hc;split at hc
  ·rename_i hck;cases hc;obtain⟨y',h1,h2⟩:=hz hy;rw[hck];exact k3 _ _ h1 h2
  ·exact k3 c y hc hy
 ·rw[hb] at hc;split at hc
  ·cases hc;rw[hs] at hy;cases hy
  ·exact k4 c y hc hy
theorem AbsOk.cells {m:Mp}{B:Nat}{h:Hp}{w w':World}{b:Nat}{x:List Value×TypeId}(A:AbsOk m B h w b x) {k0:Nat}(hB:B≤k0) (hs:w.heap.size=w'.heap.size) (hk:spK x.2=true→¬ fpt (m b).1 (x.1.map (mv1 m)) x.2 k0) {r0:Array Value}{ty:TypeId}{z:Nat×Nat}(hl:w.heap[k0]? =some (.cells r0 ty z)) (h0:∀ k,k≠k0→w'.heap[k]? =w.heap[k]?):AbsOk m B h w' b x:=by
 refine⟨fun he=> ?_,fun he=> ?_⟩
 ·obtain⟨k1,k2⟩:=A.1 he;exact⟨k1,k2.congr (h0 _ (Nat.ne_of_lt (Nat.lt_of_lt_of_le k1 hB)))⟩
 ·obtain⟨k2,k3,k4⟩:=A.2 he;exact⟨k2.cells hs (hk he) hl h0,k3,k4⟩
theorem AbsOk.ren {m:Mp}{B:Nat}{h h':Hp}{w:World}{b:Nat}{x y:List Value×TypeId}{f:Nat→Nat}(A:AbsOk m B h w (f b) y) {r:List Value}(hy:y.2=x.2) (hc:y.1.map (mv1 m)=x.1.map (mv1 fun i=>m (f i))++r) (hb:∀ c z,h'.blk? c=some z→∃ z',h.blk? (f c)=some z'∧z'.2=z.2) (hi:∀ c z,h'.blk? c=some z→spK z.2=true→spK x.2=true→f c=f b→c=b):AbsOk (fun i=>m (f i)) B h' w b x:=by
 obtain⟨a1,a2⟩:=A;rw[hy,hc] at a1 a2;refine⟨fun hs=> ?_,fun hs=> ?_⟩
 ·obtain⟨e1,r0,t0,z,e2,e3⟩:=a1 hs;exact⟨e1,r++r0,t0,z,by rw[e2,List.append_assoc],by rw[List.length_append];rw[List.length_append] at e3;omega⟩
 ·obtain⟨k2,k3,k4⟩:=a2 hs;refine⟨k2.front,fun c z hz ho hf=> ?_,fun c z hz ho hm=> ?_⟩
  ·obtain⟨z',h1,h2⟩:=hb c z hz;exact k3 _ z' h1 (by rw[h2];exact ho) (Zjn hf)
  ·obtain⟨z',h1,h2⟩:=hb c z hz;exact hi c z hz ho hs (k4 _ z' h1 (by rw[h2];exact ho) (by rw[h2];exact hm))
theorem Emb.push {m:Mp}{B:Nat}{h:Hp}{w:World}(E:Emb m B h w) (cs:List Value) (r:List Value) (e:TypeId) (he:ro e=false) (hcs:∀ v∈cs,lt1 h.n v=true) {k:Nat}(hk:cs.length+r.length=k):
  Emb (upd m h.n (w.heap.size,k)) B (h.push cs e) (w.alloc (.cells (cs.map (mv1 m)++r).toArray e (0,0))) where
 len:=by simp [Hp.push,E.len]
 lies:=by
  intro b x hb hx;rw[Hp.blk_push E.len] at hb;by_cases h1:b=h.n
  ·rw[if_pos h1] at hb;cases hb;subst h1;have e1:upd m h.n (w.heap.size,k) h.n=(w.heap.size,k):=by simp [upd]
   have e2:rt e=e:=by unfold rt;unfold ro at he;simp [he]
   rw[e1,zi (Z7 m h.n (w.heap.size,k)) hcs];exact⟨r,(e,0,0),by simpa using hk,by rw[Zan],fun _=>⟨e2.symm,rfl⟩⟩
  ·rw[if_neg h1] at hb;have h2:=E.lies b x hb hx;have e1:upd m h.n (w.heap.size,k) b=m b:=by simp [upd,h1]
   rw[e1,zi (Z7 m h.n (w.heap.size,k)) (E.wf b x hb)];exact h2.congr (zP _ _ _ (Nat.ne_of_lt h2.lt))
 low:=by
  intro b x hb hx;rw[Hp.blk_push E.len] at hb;unfold upd;split at hb
  ·rename_i h1;rw[if_pos h1];exact E.base
  ·rename_i h1;rw[if_neg h1];exact E.low b x hb hx
 ros:=by
  intro b x hb hx hr;rw[Hp.blk_push E.len] at hb;unfold upd;split at hb
  ·cases hb;rw[he] at hr;cases hr
  ·rename_i h1;rw[if_neg h1];exact E.ros b x hb hx hr
 inj:=by
  intro b b' x x' hb hb' hx hx' heq;rw[Hp.blk_push E.len] at hb hb';unfold upd at heq;split at hb<;>split at hb'
  ·omega
  ·rename_i h1 h2;rw[if_pos h1,if_neg h2] at heq;have:=E.here hb' (zo hx');omega
  ·rename_i h1 h2;rw[if_neg h1,if_pos h2] at heq;have:=E.here hb (zo hx);omega
  ·rename_i h1 h2;rw[if_neg h1,if_neg h2] at heq;exact E.inj b b' x x' hb hb' hx hx' heq
 wf:=by
  intro b x hb v hv;rw[Hp.blk_push E.len] at hb;simp only[Hp.push];by_cases h1:b=h.n
  ·rw[if_pos h1] at hb;cases hb;exact ZI (Nat.le_succ _) (hcs v hv)
  ·rw[if_neg h1] at hb;exact ZI (Nat.le_succ _) (E.wf b x hb v hv)
 base:=by have:=E.base;rw[zW];omega
 ice:=by
  intro k hk hk';rw[zW] at hk';by_cases h1:k=w.heap.size
  ·subst h1;exact Zcm (Zan _ _)
  ·rw[zP _ _ _ h1];exact E.ice k hk (by omega)
 abs:=by
  intro b x hb hx;rw[Hp.blk_push E.len] at hb;split at hb
  ·cases hb;rw[ZqA he] at hx;cases hx
  ·have A:=E.abs b x hb hx;have hk:∀ k,k<w.heap.size→(w.alloc (.cells (cs.map (mv1 m)++r).toArray e (0,0))).heap[k]? =w.heap[k]? :=fun k hk=>zP _ _ _ (Nat.ne_of_lt hk);refine (A.push E.len (Hp.blk_lt hb) (E.wf b x hb) he fun hs=> ?_).heap E.base (by rw[zW];omega) hk;exact fun hf=>Nat.lt_irrefl _ ((A.2 hs).1.lt hf)
theorem zp (w:World) (g k:Nat) (cs:Array Value) (h:g≠k):(w.setRow g cs).heap[k]? =w.heap[k]? :=by
 simp [World.setRow,Array.getElem?_modify,h]
theorem zG (w:World) (g:Nat) (cs:Array Value):(w.setRow g cs).heap.size=w.heap.size:=by simp [World.setRow]
theorem Hp.blk_put {h:Hp}{b c:Nat}{x:List Value×TypeId}(hl:h.l.length=h.n) (hb:b<h.n):
  (h.put b x).blk? c=if c=b then some x else h.blk? c:=by
 unfold Hp.blk? Hp.put;simp only[Zk];by_cases h1:c=b
 ·subst h1;rw[if_pos hb,if_pos rfl,List.getElem?_set];simp;omega
 ·rw[if_neg h1];by_cases h2:c<h.n
  ·rw[if_pos h2,List.getElem?_set_ne (by omega),if_pos h2]
  ·rw[if_neg h2,if_neg h2]
theorem Emb.put {m:Mp}{B:Nat}{h:Hp}{w:World}(E:Emb m B h w) {b:Nat}{x:List Value×TypeId}(hb:h.blk? b=some x) (hx:ro x.2=false) {r0:Array Value}(hl:w.heap[(m b).1]? =some (.cells r0 (rt x.2) (0,0))) (cs r:List Value)
  (hcs:∀ v∈cs,lt1 h.n v=true) (hk:cs.length+r.length=(m b).2):Emb m B (h.put b (cs,x.2)) (w.setRow (m b).1 (cs.map (mv1 m)++r).toArray) where
 len:=by simp [Hp.put,E.len]
 lies:=by
  intro c y hc hy;rw[Hp.blk_put E.len (Hp.blk_lt hb)] at hc;by_cases h1:c=b
  ·rw[if_pos h1] at hc;cases hc;rw[h1];exact⟨r,(rt x.2,0,0),by simpa using hk,setRow_heap w _ _ _ _ _ hl,fun _=>⟨rfl,rfl⟩⟩
  ·rw[if_neg h1] at hc;refine (E.lies c y hc hy).congr (zp _ _ _ _ fun heq=> ?_);cases hr:ro y.2
   ·exact h1 (E.inj _ _ _ _ hc hb hr hx heq.symm)
   ·have k1:=E.ros c y hc hy hr;have k2:=E.low b x hb hx;omega
 low:=by
  intro c y hc hy;rw[Hp.blk_put E.len (Hp.blk_lt hb)] at hc;split at hc
  ·rename_i h1;subst h1;exact E.low _ x hb hx
  ·exact E.low c y hc hy
 ros:=by
  intro c y hc hy hr;rw[Hp.blk_put E.len (Hp.blk_lt hb)] at hc;split at hc
  ·cases hc;rw[hx] at hr;cases hr
  ·exact E.ros c y hc hy hr
 inj:=by
  have Zkj:∀ c y,(h.put b (cs,x.2)).blk? c=some y→ro y.2=false→∃ y',h.blk? c=some y'∧ro y'.2=false:=by
   intro c y hc hy;rw[Hp.blk_put E.len (Hp.blk_lt hb)] at hc;split at hc
   ·rename_i h1;subst h1;exact⟨x,hb,hx⟩
   ·exact⟨y,hc,hy⟩
  intro c c' y y' hc hc' hy hy' heq;obtain⟨z,hz,k⟩:=Zkj c y hc hy;obtain⟨z',hz',k'⟩:=Zkj c' y' hc' hy';exact E.inj c c' z z' hz hz' k k' heq
 wf:=by
  intro c y hc v hv;rw[Hp.blk_put E.len (Hp.blk_lt hb)] at hc;by_cases h1:c=b
  ·rw[if_pos h1] at hc;cases hc;exact hcs v hv
  ·rw[if_neg h1] at hc;exact E.wf c y hc v hv
 base:=by rw[zG];exact E.base
 ice:=by
  intro k hk hk';rw[zG] at hk';by_cases h1:(m b).1=k
  ·subst h1;exact Zcm (setRow_heap w _ _ _ _ _ hl)
  ·rw[zp _ _ _ _ h1];exact E.ice k hk hk'
 abs:=by
  intro c y hc hy;have hbp:=fun c=>Hp.blk_put (x:=(cs,x.2)) (c:=c) E.len (Hp.blk_lt hb);rw[hbp] at hc;split at hc
  ·cases hc;rw[ZqA hx] at hy;cases hy
  ·have A:=E.abs c y hc hy;exact (A.put hbp (fun _=>⟨x,hb,hx⟩) (ZfV hx)).cells (E.low b x hb hx) (zG _ _ _).symm (fun hs=>(A.2 hs).2.1 b x hb hx) hl fun k hk=>zp _ _ _ _ hk.symm
theorem Emb.bury {m:Mp}{B:Nat}{h:Hp}{w:World}(E:Emb m B h w) {b:Nat}(hb:b<h.n):Emb m B (h.put b ([],2*ZV)) w where
 len:=by simp [Hp.put,E.len]
 lies:=by
  intro c y hc hy;rw[Hp.blk_put E.len hb] at hc;split at hc
  ·cases hc;cases hy
  ·exact E.lies c y hc hy
 low:=by
  intro c y hc hy;rw[Hp.blk_put E.len hb] at hc;split at hc
  ·cases hc;cases hy
  ·exact E.low c y hc hy
 ros:=by
  intro c y hc hy hr;rw[Hp.blk_put E.len hb] at hc;split at hc
  ·cases hc;cases hy
  ·exact E.ros c y hc hy hr
 inj:=by
  have Zkj:∀ c y,(h.put b ([],2*ZV)).blk? c=some y→ro y.2=false→h.blk? c=some y:=by
   intro c y hc hy;rw[Hp.blk_put E.len hb] at hc;split at hc
   ·cases hc;cases hy
   ·exact hc
  intro c c' y y' hc hc' hy hy' heq;exact E.inj c c' y y' (Zkj c y hc hy) (Zkj c' y' hc' hy') hy hy' heq
 wf:=by
  intro c y hc v hv;rw[Hp.blk_put E.len hb] at hc;split at hc
  ·cases hc;cases hv
  ·exact E.wf c y hc v hv
 base:=E.base
 ice:=E.ice
 abs:=by
  intro c y hc hy;have hbp:=fun c=>Hp.blk_put (x:=([],2*ZV)) (c:=c) E.len hb;rw[hbp] at hc;split at hc
  ·cases hc;cases hy
  ·exact (E.abs c y hc hy).put hbp (fun h=>by cases h) rfl
theorem Emb.adopt {m:Mp}{B:Nat}{h:Hp}{w:World}(E:Emb m B h w) (cs:List Value) (e:TypeId) (he:ro e=false) (hcs:∀ v∈cs,lt1 h.n v=true) {k:Nat×Nat}(hk:lie w k (cs.map (mv1 m)) e) (hB:B≤k.1)
  (hf:∀ b x,h.blk? b=some x→ro x.2=false→(m b).1≠k.1) (hsp:∀ b x,h.blk? b=some x→spK x.2=true→¬ fpt (m b).1 (x.1.map (mv1 m)) x.2 k.1):Emb (upd m h.n k) B (h.push cs e) w where
 len:=by simp [Hp.push,E.len]
 lies:=by
  intro b x hb hx;rw[Hp.blk_push E.len] at hb;by_cases h1:b=h.n
  ·rw[if_pos h1] at hb;cases hb;subst h1;have e1:upd m h.n k h.n=k:=by simp [upd]
   rw[e1,zi (Z7 m h.n k) hcs];exact hk
  ·rw[if_neg h1] at hb;have e1:upd m h.n k b=m b:=by simp [upd,h1]
   rw[e1,zi (Z7 m h.n k) (E.wf b x hb)];exact E.lies b x hb hx
 low:=by
  intro b x hb hx;rw[Hp.blk_push E.len] at hb;unfold upd;split at hb
  ·rename_i h1;rw[if_pos h1];exact hB
  ·rename_i h1;rw[if_neg h1];exact E.low b x hb hx
 ros:=by
  intro b x hb hx hr;rw[Hp.blk_push E.len] at hb;unfold upd;split at hb
  ·cases hb;rw[he] at hr;cases hr
  ·rename_i h1;rw[if_neg h1];exact E.ros b x hb hx hr
 inj:=by
  intro b b' x x' hb hb' hx hx' heq;rw[Hp.blk_push E.len] at hb hb';unfold upd at heq;split at hb<;>split at hb'
  ·omega
  ·rename_i h1 h2;rw[if_pos h1,if_neg h2] at heq;exact absurd heq.symm (hf b' x' hb' hx')
  ·rename_i h1 h2;rw[if_neg h1,if_pos h2] at heq;exact absurd heq (hf b x hb hx)
  ·rename_i h1 h2;rw[if_neg h1,if_neg h2] at heq;exact E.inj b b' x x' hb hb' hx hx' heq
 wf:=by
  intro b x hb v hv;rw[Hp.blk_push E.len] at hb;simp only[Hp.push];by_cases h1:b=h.n
  ·rw[if_pos h1] at hb;cases hb;exact ZI (Nat.le_succ _) (hcs v hv)
  ·rw[if_neg h1] at hb;exact ZI (Nat.le_succ _) (E.wf b x hb v hv)
 base:=E.base
 ice:=E.ice
 abs:=by
  intro b x hb hx;rw[Hp.blk_push E.len] at hb;split at hb
  ·cases hb;rw[ZqA he] at hx;cases hx
  ·exact (E.abs b x hb hx).push E.len (Hp.blk_lt hb) (E.wf b x hb) he fun hs=>hsp b x hb hs
theorem zK {B:Nat}{a w:World}(h:Below B a w) {g:Nat}(hg:B≤g) (cs:Array Value):Below B a (w.setRow g cs):=
 ⟨h.os,h.tape,h.output,by rw[zG];exact h.size,fun k hk=>by rw[zp _ _ _ _ (by omega)];exact h.block k hk⟩
theorem Hp.blk_cut {h:Hp}{n b:Nat}(hn:n≤h.n) (hb:b<n):(h.cut n).blk? b=h.blk? b:=by
 unfold Hp.blk? Hp.cut;simp only[Zk];rw[if_pos hb,if_pos (by omega),List.getElem?_drop];congr 1;omega
def Hp.tight (h:Hp):Bool:=h.l.all fun x=>x.1.all (lt1 h.n)
theorem Hp.tight_spec {h:Hp}(ht:h.tight=true) {b:Nat}{x:List Value×TypeId}(hb:h.blk? b=some x):∀ v∈x.1,lt1 h.n v=true:=by
 unfold Hp.tight at ht;simp only[List.all_eq_true] at ht;unfold Hp.blk? at hb;split at hb
 ·exact ht x (List.mem_of_getElem? hb)
 ·cases hb
theorem Emb.cut {m m':Mp}{B:Nat}{h:Hp}{w:World}{n:Nat}(E:Emb m' B h w) (hm:Agree m m' n) (hn:n≤h.n) (ht:(h.cut n).tight=true):Emb m B (h.cut n) w where
 len:=by simp [Hp.cut,E.len];omega
 lies:=by
  intro b x hb hx;have hlt:b<n:=Hp.blk_lt hb;have hwf:=Hp.tight_spec ht hb;rw[Hp.blk_cut hn hlt] at hb;rw[← hm b hlt,← zi (m:=m) (m':=m') hm hwf];exact E.lies b x hb hx
 low:=fun b x hb hx=>by
  have hlt:b<n:=Hp.blk_lt hb;rw[Hp.blk_cut hn hlt] at hb;rw[← hm b hlt];exact E.low b x hb hx
 ros:=fun b x hb hx hr=>by
  have hlt:b<n:=Hp.blk_lt hb;rw[Hp.blk_cut hn hlt] at hb;rw[← hm b hlt];exact E.ros b x hb hx hr
 inj:=fun b b' x x' hb hb' hx hx' heq=>by
  have hlt:b<n:=Hp.blk_lt hb;have hlt':b'<n:=Hp.blk_lt hb';rw[Hp.blk_cut hn hlt] at hb;rw[Hp.blk_cut hn hlt'] at hb';rw[← hm b hlt,← hm b' hlt'] at heq;exact E.inj b b' x x' hb hb' hx hx' heq
 wf:=fun b x hb=>Hp.tight_spec ht hb
 base:=E.base
 ice:=E.ice
 abs:=fun b x hb hx=>by
  have hlt:b<n:=Hp.blk_lt hb;have hwf:=Hp.tight_spec ht hb;have hb':=hb;rw[Hp.blk_cut hn hlt] at hb';have A:=E.abs b x hb' hx;have ec:=zi (m:=m) (m':=m') hm hwf;refine⟨fun hs=>by rw[← ec];exact A.1 hs,fun hs=> ?_⟩;obtain⟨k2,k3,k4⟩:=A.2 hs;rw[← ec,← hm b hlt];refine⟨k2,fun c y hc hy=> ?_,fun c y hc hy=> ?_⟩
  ·have hc':=Hp.blk_lt hc;rw[Hp.blk_cut hn hc'] at hc;rw[← hm c hc'];exact k3 c y hc hy
  ·have hc':=Hp.blk_lt hc;rw[Hp.blk_cut hn hc'] at hc;exact k4 c y hc hy
end Go.KRun
namespace Go.KRun
open Go.RowKit
abbrev Log:=List (Bool×Bool)
def Zx (c:Log):Prop:=∀ x∈c,x.1=x.2
abbrev Dec:=Sum Bool (Sum Int (Sum Bool (Sum Bool (Sum Unit Value))))
abbrev tst (d:Bool):Dec:= .inl d
abbrev num (k:Int):Dec:= .inr (.inl k)
abbrev sam (d:Bool):Dec:= .inr (.inr (.inl d))
abbrev cmp (d:Bool):Dec:= .inr (.inr (.inr (.inl d)))
abbrev at_:Dec:= .inr (.inr (.inr (.inr (.inl ()))))
abbrev val (v:Value):Dec:= .inr (.inr (.inr (.inr (.inr v))))
structure Tab where
 P:Program
 fn:Nat→Option Func
 ext:Nat→List Value→Option (Value×Log)
 con:Nat→List Value→List Dec→Option (Value×List Dec×Log)
 sym:Bool
 hc:Nat→List Value→Hp→List Dec→Option (Value×Hp×List Dec×Log):=fun _ _ _ _=>none
def ev (t:List Value):Operand→Value
 | .tmp i=>t.getD i undef
 | .const v=>v
 | .global g=> .pointer (some ⟨g,0,none⟩)
 | .func f=> .func (.func f) #[] #[]
def okX:Operand→Bool
 | .tmp _=>true
 | .const v=>lt 0 v
 | .global _=>false
 | .func _=>true
theorem Zr {m:Mp}{t:List Value}{a:Act}(ha:a.tmps=(t.map (mv m)).toArray) {x:Operand}(hx:okX x=true):a.eval x=mv m (ev t x):=by
 cases x with
 | tmp i=>
  simp only[Act.eval,ev,ha];cases h:t[i]? with
  | none=>simp [List.getD,h,zO]
  | some v=>simp [List.getD,h]
 | const v=>simp only[Act.eval,ev];exact (Z9 hx).symm
 | global g=>simp [okX] at hx
 | func f=>simp [Act.eval,ev,mv,mv2,mv1]
theorem Zak {n:Nat}{t:List Value}(ht:∀ v∈t,lt n v=true) {x:Operand}(hx:okX x=true):lt n (ev t x)=true:=by
 cases x with
 | tmp i=>
  simp only[ev,List.getD];cases h:t[i]? with
  | none=>simp [undef,lt]
  | some v=>exact ht v (List.mem_of_getElem? h)
 | const v=>exact Zaj (Nat.zero_le _) hx
 | global g=>simp [okX] at hx
 | func f=>simp [ev,lt,lt2,lt1]
def ZgH (P:Program) {α:Type}:Sem α→Option α
 | .pure a=>some a
 | .program k=>ZgH P (k P)
 | .mark _ k=>ZgH P k
 | _=>none
theorem ZaL {P:Program}{α:Type}{s:Sem α}{v:α}(h:ZgH P s=some v) (w:World):s.run P w= .ok v w:=by
 induction s with
 | pure a=>simp [ZgH] at h;subst h;rfl
 | program k ih=>simp only[ZgH] at h;exact ih P h
 | mark x k ih=>simp only[ZgH] at h;simp only[Sem.run];exact ih h
 | _=>simp [ZgH] at h
def ZbP (b:Bool):List Dec→Bool×List Dec×Log
 | .inl d::s=>(d,s,[(b,d)])
 | s=>(b,s,[])
theorem ZcL {b:Bool}{s:List Dec}(h:Zx (ZbP b s).2.2):(ZbP b s).1=b:=by
 unfold ZbP at*;split at h
 ·rename_i d s;exact (h (b,d) Xf).symm
 ·rfl
def ZhX (P:Program) (ty:TypeId) (a:Addr) (h:Hp):Option Value:=
 match a.spot with
 | some _=>none
 | none=>
  match h.blk? a.block with
  | none=>none
  | some x=>
   match (if Zam x.2=true then none else P.underlying ty) with
   | none=>none
   | some (.struct _) | some (.array _ _)=>
    match P.info? ty with
    | none=>none
    | some i=>if Nat.beq ((x.1.drop a.off).take i.size).length i.size=true then some (.agg ((x.1.drop a.off).take i.size).toArray) else none
   | some _=>
    match x.1[a.off]? with
    | some v=>if one v=true then some v else none
    | none=>none
theorem Zev {m:Mp}{a:Addr}(h:a.spot=none):mvA m a=⟨(m a.block).1,a.off,none⟩:=by cases a;simp_all [mvA]
theorem Zas {m:Mp}{w:World}{b:Nat}{x:List Value×TypeId}(E:lie w (m b) (x.1.map (mv1 m)) x.2) {o:Nat}{v:Value}(hv:x.1[o]? =some v):
  w.cell? ⟨(m b).1,o,none⟩=some (mv1 m v):=by
 obtain⟨r,z,_,h1,_⟩:=E;have ho:o<x.1.length:=(List.getElem?_eq_some_iff.1 hv).1;have e:(x.1.map (mv1 m)++r)[o]? =some (mv1 m v):=by
  rw[List.getElem?_append_left (by simpa using ho),List.getElem?_map,hv];rfl
 simp only[World.cell?,h1];simpa using e
def Zuu:TypeDesc→Bool
 | .struct _ | .array _ _=>true
 | _=>false
theorem Zdd {P:Program}{ty:TypeId}{d:TypeDesc}(h:P.underlying ty=some d) (w:World):
  (isAgg ty).run P w= .ok (Zuu d) w:=by
 cases d<;>simp [isAgg,underlying,h,Zuu]
theorem Zde {m:Mp}{w:World}{P:Program}{ty:TypeId}{b o:Nat}{x:List Value×TypeId}(E:lie w (m b) (x.1.map (mv1 m)) x.2) {i:TypeInfo}(hi:P.info? ty=some i)
  {d:TypeDesc}(hd:P.underlying ty=some d) (hda:(Zuu d)=true)
  (hn:((x.1.drop o).take i.size).length=i.size):
  (Instr.loadAt ty (.pointer (some ⟨(m b).1,o,none⟩))).run P w= .ok (mv m (.agg ((x.1.drop o).take i.size).toArray)) w:=by
 have hl:=run_loadCells_list (P:=P) w ⟨(m b).1,o,none⟩ (((x.1.drop o).take i.size).map (mv1 m)) (fun j v hj=>by
  have e:(⟨(m b).1,o,none⟩:Addr).add j=⟨(m b).1,o+j,none⟩:=by unfold Addr.add;split<;>simp_all
  rw[e];rw[List.getElem?_map,List.getElem?_take] at hj;split at hj
  ·rw[List.getElem?_drop] at hj;obtain⟨u,hu,rfl⟩:=Option.map_eq_some_iff.1 hj;exact Zas E hu
  ·simp at hj)
 rw[List.length_map,hn] at hl;simp only[Instr.loadAt,Instr.sureAddr,loadVar,Sem.run_bind,Sem.run_pure,Result.andThen_ok,Zdd hd,hda,if_true,sizeOf,typeInfo,run_program,hi];simp [hl,mv,mv2]
theorem ZgI {m:Mp}{h:Hp}{w:World}{P:Program}{ty:TypeId}{a:Addr}{v:Value}(E0:∀ x,h.blk? a.block=some x→Zam x.2=false→lie w (m a.block) (x.1.map (mv1 m)) x.2)
  (W0:∀ x,h.blk? a.block=some x→∀ v∈x.1,lt1 h.n v=true) (hl:ZhX P ty a h=some v):
  (Instr.loadAt ty (.pointer (some (mvA m a)))).run P w= .ok (mv m v) w∧lt h.n v=true:=by
 unfold ZhX at hl;split at hl
 ·cases hl
 ·rename_i hsp;rw[Zev hsp];split at hl
  ·cases hl
  ·rename_i x hx;have wf:=W0 _ hx;cases htb:Zam x.2 with
   | true=>
    rw[htb] at hl;simp at hl
   | false=>
   rw[htb] at hl;simp only[Bool.false_eq_true,if_false] at hl;have E:=E0 _ hx htb;have agg:∀ d,P.underlying ty=some d→(Zuu d)=true→
     (match P.info? ty with
      | none=>none
      | some i=>if Nat.beq ((x.1.drop a.off).take i.size).length i.size=true then some (Value.agg ((x.1.drop a.off).take i.size).toArray) else none)=some v→
     (Instr.loadAt ty (.pointer (some ⟨(m a.block).1,a.off,none⟩))).run P w= .ok (mv m v) w∧lt h.n v=true:=by
    intro d hd hda hq;split at hq
    ·cases hq
    ·rename_i i hi;split at hq
     ·rename_i hbe;cases hq;refine⟨Zde E hi hd hda (Xj hbe),?_⟩;simp only[lt,lt2,List.all_eq_true];intro y hy;exact wf y (List.mem_of_mem_drop (List.mem_of_mem_take (by simpa using hy)))
     ·cases hq
   split at hl
   ·cases hl
   ·rename_i hd;exact agg _ hd rfl hl
   ·rename_i hd;exact agg _ hd rfl hl
   ·rename_i d hns hna hd;split at hl
    ·rename_i y hy;split at hl
     ·rename_i h1;cases hl;have hda:(Zuu d)=false:=by
       cases d<;>first | rfl | (exact absurd rfl (hns _)) | (exact absurd rfl (hna _ _))
      refine⟨?_,by rw[Zjl h1];exact wf _ (List.mem_of_getElem? hy)⟩;simp only[Instr.loadAt,Instr.sureAddr,loadVar,Sem.run_bind,Sem.run_pure,Result.andThen_ok,Zdd hd,hda];simp [Zas E hy,Zp3 h1]
     ·cases hl
    ·cases hl
theorem Zfi {m:Mp}{B:Nat}{h:Hp}{w:World}{P:Program}{ty:TypeId}{a:Addr}{v:Value}(E:Emb m B h w) (hl:ZhX P ty a h=some v):
  (Instr.loadAt ty (.pointer (some (mvA m a)))).run P w= .ok (mv m v) w∧lt h.n v=true:=
 ZgI (fun x hx=>E.lies _ x hx) (fun x hx=>E.wf _ x hx) hl
def Zfj (P:Program) (ty:TypeId) (a:Addr) (v:Value) (h:Hp):Option Hp:=
 match a.spot with
 | some _=>none
 | none=>
  match h.blk? a.block with
  | none=>none
  | some x=>
   match P.info? ty with
   | none=>none
   | some i=>
    if (noT v && Nat.beq (ZD v).length i.size && Nat.ble (a.off+(ZD v).length) x.1.length && (ZD v).all one && !(ro x.2))=true
    then some (h.put a.block (x.1.take a.off++ZD v++x.1.drop (a.off+(ZD v).length),x.2)) else none
theorem Zjo {m:Mp}{v:Value}(h:one v=true):(mv1 m v).oneCell'=true:=by
 cases v with
 | pointer a=>cases a<;>rfl
 | map a=>cases a<;>rfl
 | slice a l c=>cases a<;>rfl
 | agg cs=>simp [one] at h
 | tuple cs=>simp [one] at h
 | iface t u=>
  simp only[one,Bool.not_eq_true'] at h;simp only[mv1,h];rfl
 | _=>rfl
theorem Zco {m:Mp}{B:Nat}{h h':Hp}{w:World}{P:Program}{ty:TypeId}{a:Addr}{v:Value}(E:Emb m B h w) (hv:lt h.n v=true) (hs:Zfj P ty a v h=some h'):
  ∃ w',(Instr.storeAt ty (.pointer (some (mvA m a))) (mv m v)).run P w= .ok () w'∧Emb m B h' w'∧Below B w w'∧h'.n=h.n:=by
 unfold Zfj at hs;split at hs
 ·cases hs
 ·rename_i hsp;split at hs
  ·cases hs
  ·rename_i x hx;split at hs
   ·cases hs
   ·rename_i i hi;split at hs
    ·rename_i hc;cases hs;simp only[Xh,List.all_eq_true,Bool.not_eq_true'] at hc;obtain⟨⟨⟨⟨hT,hsz⟩,hle⟩,hone⟩,hro⟩:=hc;obtain⟨r,z,hl0,hl1,hl2⟩:=E.lies _ _ hx (zo hro);rw[(hl2 hro).1,(hl2 hro).2] at hl1;have hsz:=Xj hsz;have hle:=Nat.le_of_ble_eq_true hle;have hcells:=Zet (m:=m) hT;have hlt:=Zeu hT hv;have wf:=E.wf _ _ hx;rw[Zev hsp];have hst:=run_storeCells_at P (m a.block).1 a.off (rt x.2) ((ZD v).map (mv1 m)) 0 (x.1.map (mv1 m)++r).toArray w hl1 (by simp;omega)
      (fun y hy=>by obtain⟨z,hz,rfl⟩:=List.mem_map.1 hy;exact Zjo (hone z hz))
     have esp:(x.1.map (mv1 m)++r).take a.off++(ZD v).map (mv1 m)++(x.1.map (mv1 m)++r).drop (a.off+(ZD v).length)=(x.1.take a.off++ZD v++x.1.drop (a.off+(ZD v).length)).map (mv1 m)++r:=by
      rw[List.take_append_of_le_length (by simp;omega),List.drop_append_of_le_length (by simpa using hle)];simp
     refine⟨_,?_,E.put hx hro hl1 (x.1.take a.off++ZD v++x.1.drop (a.off+(ZD v).length)) r (fun y hy=> ?_) (by simp at hl0 ⊢;omega),zK (Below.refl _ _) (E.low _ _ hx hro) _,rfl⟩
     ·simp only[Instr.storeAt,Instr.sureAddr,storeVar,Sem.run_bind,Sem.run_pure,Result.andThen_ok,sizeOf,typeInfo,run_program,hi,hcells];simp only[List.size_toArray,List.length_map,hsz,ne_eq,not_true,if_false];rw[hst];simp only[hsz] at esp;simp only[Nat.add_zero,List.length_map,hsz,esp]
     ·simp only[List.mem_append] at hy;rcases hy with (hy | hy) | hy
      ·exact wf y (List.mem_of_mem_take hy)
      ·exact hlt y hy
      ·exact wf y (List.mem_of_mem_drop hy)
    ·cases hs
theorem Zdf (m:Mp) (a:Addr) (k:Nat):mvA m (a.add k)=(mvA m a).add k:=by
 unfold Addr.add mvA;split<;>rfl
theorem Zbc (a:Addr) (k:Nat):(a.add k).block=a.block:=by unfold Addr.add;split<;>rfl
def Zjp (P:Program) (ty:TypeId) (x i:Value):Option Value:=
 match i with
 | .int _ n=>
  match P.underlying ty,x with
  | some (.array len elem),.pointer (some a)=>
   match P.info? elem with
   | some ie=>if 0≤n∧n<(len:Int) then some (.pointer (some (a.add (n.toNat*ie.size)))) else none
   | none=>none
  | some (.slice elem),.slice (some a) len _=>
   match P.info? elem with
   | some ie=>if 0≤n∧n<(len:Int) then some (.pointer (some (a.add (n.toNat*ie.size)))) else none
   | none=>none
  | _,_=>none
 | _=>none
theorem ZdN {m:Mp}{P:Program}{ty:TypeId}{x i v:Value}{n:Nat}(hx:lt n x=true) (hs:Zjp P ty x i=some v) (w:World):
  (Instr.indexAt ty (mv m x) (mv m i)).run P w= .ok (mv m v) w∧lt n v=true:=by
 unfold Zjp at hs;split at hs
 ·rename_i k j;split at hs
  ·rename_i len elem a hu;split at hs
   ·rename_i ie hie;split at hs
    ·rename_i hlt;cases hs;refine⟨?_,?_⟩
     ·simp [Instr.indexAt,mv,mv2,mv1,asIntOf,underlying,hu,Instr.sureAddr,hlt,sizeOf,typeInfo,hie,Zdf]
     ·simpa [lt,lt2,lt1,Zbc] using hx
    ·cases hs
   ·cases hs
  ·rename_i elem a len cap hu;split at hs
   ·rename_i ie hie;split at hs
    ·rename_i hlt;cases hs;refine⟨?_,?_⟩
     ·simp [Instr.indexAt,mv,mv2,mv1,asIntOf,underlying,hu,hlt,sizeOf,typeInfo,hie,Zdf]
     ·simpa [lt,lt2,lt1,Zbc] using hx
    ·cases hs
   ·cases hs
  ·cases hs
 ·cases hs
def Zjq (P:Program) (ty:TypeId) (x:Value) (k:Nat):Option Value:=
 match P.underlying ty,x with
 | some (.struct fs),.pointer (some a)=>
  match fs[k]? with
  | some f=>
   match P.info? f.type with
   | some i=>if Nat.beq i.size 0=true then none else some (.pointer (some (a.add f.offset)))
   | none=>none
  | none=>none
 | _,_=>none
theorem ZdO {m:Mp}{P:Program}{ty:TypeId}{x v:Value}{k n:Nat}(hx:lt n x=true) (hs:Zjq P ty x k=some v) (w:World):
  (Instr.fieldAt ty (mv m x) k).run P w= .ok (mv m v) w∧lt n v=true:=by
 unfold Zjq at hs;split at hs
 ·rename_i fs a hu;split at hs
  ·rename_i f hf;split at hs
   ·rename_i i hi;split at hs
    ·cases hs
    ·rename_i hz;cases hs;have hz':¬ i.size=0:=fun h=>hz (by rw[h];rfl);refine⟨?_,?_⟩
     ·simp [Instr.fieldAt,mv,mv2,mv1,underlying,hu,hf,Instr.sureAddr,fieldPlace,sizeOf,typeInfo,hi,hz',Zdf]
     ·simpa [lt,lt2,lt1,Zbc] using hx
   ·cases hs
  ·cases hs
 ·cases hs
def ZC:Option Value→Value→Bool
 | some (.int k m),.int k' n=>decide (k=k'∧m=n)
 | some (.bool b),.bool b'=>b==b'
 | _,_=>false
theorem ZbD {c:Option Value}{v:Value}(h:ZC c v=true):c=some v∧one v=true:=by
 unfold ZC at h;split at h
 ·simp only[Xi] at h;obtain⟨rfl,rfl⟩:=h;exact⟨rfl,rfl⟩
 ·simp only[beq_iff_eq] at h;subst h;exact⟨rfl,rfl⟩
 ·cases h
def Zjr (P:Program) (ty:TypeId) (x i:Value):Option (Value×Log):=
 match i with
 | .int _ n=>
  match P.underlying ty,x with
  | some (.array len elem),.pointer (some ⟨b,o,none⟩)=>
   match P.info? elem with
   | some ie=>some (.pointer (some ⟨b,o+n.toNat*ie.size,none⟩),[(decide (0≤n∧n<(len:Int)),true)])
   | none=>none
  | some (.slice elem),.slice (some ⟨b,o,none⟩) len _=>
   match P.info? elem with
   | some ie=>some (.pointer (some ⟨b,o+n.toNat*ie.size,none⟩),[(decide (0≤n∧n<(len:Int)),true)])
   | none=>none
  | _,_=>none
 | _=>none
theorem Zae (b o k:Nat):(⟨b,o,none⟩:Addr).add k=⟨b,o+k,none⟩:=by unfold Addr.add;split<;>simp_all
theorem ZdP {m:Mp}{P:Program}{ty:TypeId}{x i v:Value}{lg:Log}{n:Nat}(hx:lt n x=true) (hs:Zjr P ty x i=some (v,lg)) (hlg:Zx lg) (w:World):
  (Instr.indexAt ty (mv m x) (mv m i)).run P w= .ok (mv m v) w∧lt n v=true:=by
 unfold Zjr at hs;split at hs
 ·rename_i k j;split at hs
  ·rename_i len elem b o hu;split at hs
   ·rename_i ie hie;cases hs;have hlt:=hlg _ Xf;simp only[Xi] at hlt;refine⟨?_,?_⟩
    ·simp [Instr.indexAt,mv,mv2,mv1,mvA,asIntOf,underlying,hu,Instr.sureAddr,hlt,sizeOf,typeInfo,hie,Zae]
    ·simpa [lt,lt2,lt1] using hx
   ·cases hs
  ·rename_i elem b o len cap hu;split at hs
   ·rename_i ie hie;cases hs;have hlt:=hlg _ Xf;simp only[Xi] at hlt;refine⟨?_,?_⟩
    ·simp [Instr.indexAt,mv,mv2,mv1,mvA,asIntOf,underlying,hu,hlt,sizeOf,typeInfo,hie,Zae]
    ·simpa [lt,lt2,lt1] using hx
   ·cases hs
  ·cases hs
 ·cases hs
def Zdg:List Value→List Value→Bool
 | [],[]=>true
 | a::l,b::m=>ZC (some a) b && Zdg l m
 | _,_=>false
theorem Zbd:∀ {l m:List Value},Zdg l m=true→l=m
 | [],[],_=>rfl
 | a::l,b::m,h=>by
  simp only[Zdg,Xh] at h;have h1:=(ZbD h.1).1;rw[Option.some.inj h1,Zbd h.2]
 | [],_::_,h=>by cases h
 | _::_,[],h=>by cases h
def ZuB (P:Program) (ty:TypeId) (l:List Value) (v:Value):Option Log:=
 match P.info? ty,v with
 | some i,.agg cs=>some [(Nat.beq cs.toList.length i.size && Zdg (l.take i.size) cs.toList,true)]
 | _,_=>none
def ZmD (P:Program) (ty:TypeId) (a:Addr) (h:Hp) (v:Value):Option Log:=
 match a.spot with
 | some _=>none
 | none=>
  match h.blk? a.block with
  | none=>none
  | some x=>
   match (if Zam x.2=true then none else P.underlying ty) with
   | some d=>if Zuu d=true then ZuB P ty (x.1.drop a.off) v else some [(ZC (x.1[a.off]?) v,true)]
   | none=>none
theorem ZgJ {m:Mp}{h:Hp}{w:World}{P:Program}{ty:TypeId}{a:Addr}{v:Value}{lg:Log}(E0:∀ x,h.blk? a.block=some x→Zam x.2=false→lie w (m a.block) (x.1.map (mv1 m)) x.2)
  (W0:∀ x,h.blk? a.block=some x→∀ v∈x.1,lt1 h.n v=true) (hl:ZmD P ty a h v=some lg) (hlg:Zx lg):
  (Instr.loadAt ty (.pointer (some (mvA m a)))).run P w= .ok (mv m v) w∧lt h.n v=true:=by
 unfold ZmD at hl;split at hl
 ·cases hl
 ·rename_i hsp;rw[Zev hsp];split at hl
  ·cases hl
  ·rename_i x hx;cases htb:Zam x.2 with
   | true=>
    rw[htb] at hl;simp at hl
   | false=>
   rw[htb] at hl;simp only[Bool.false_eq_true,if_false] at hl;split at hl
   ·rename_i d hd;split at hl
    ·rename_i hda;unfold ZuB at hl;split at hl
     ·rename_i i cs hi;cases hl;have h1:=hlg _ Xf;simp only[Xh] at h1;have h2:=Xj h1.1;have h3:=Zbd h1.2;have r:=Zde (P:=P) (o:=a.off) (E0 _ hx htb) hi hd hda (by rw[h3,h2]);rw[h3] at r;refine⟨r,?_⟩;simp only[lt,lt2,List.all_eq_true];intro y hy;rw[← h3] at hy;exact W0 _ hx y (List.mem_of_mem_drop (List.mem_of_mem_take hy))
     ·cases hl
    ·rename_i hda;cases hl;obtain⟨hy,h1⟩:=ZbD (hlg _ Xf);refine⟨?_,by rw[Zjl h1];exact W0 _ hx _ (List.mem_of_getElem? hy)⟩;simp only[Instr.loadAt,Instr.sureAddr,loadVar,Sem.run_bind,Sem.run_pure,Result.andThen_ok,Zdd hd,hda];simp [Zas (E0 _ hx htb) hy,Zp3 h1]
   ·cases hl
def Zp5 (b o n:Nat) (v:Value) (x:List Value×TypeId) (h:Hp):Option (Hp×Log):=
 match v with
 | .agg cs=>if (cs.toList.all one && Nat.beq cs.toList.length n && !(ro x.2))=true then some (h.put b (x.1.take o++cs.toList++x.1.drop (o+cs.toList.length),x.2),[(Nat.ble (o+cs.toList.length) x.1.length,true)]) else none
 | _=>none
def Zjs (P:Program) (ty:TypeId) (a:Addr) (v:Value) (h:Hp):Option (Hp×Log):=
 match a.spot with
 | some _=>none
 | none=>
  match h.blk? a.block with
  | none=>none
  | some x=>
   match P.info? ty with
   | none=>none
   | some i=>if (one v && Nat.beq i.size 1 && !(ro x.2))=true then some (h.put a.block (x.1.set a.off v,x.2),[(decide (a.off<x.1.length),true)]) else Zp5 a.block a.off i.size v x h
theorem ZhY (l:List Value) (o:Nat) (v:Value) (h:o<l.length):l.set o v=l.take o++[v]++l.drop (o+1):=by
 rw[List.set_eq_take_append_cons_drop,if_pos h];simp
theorem ZhZ {m:Mp}{B:Nat}{h h':Hp}{w:World}{P:Program}{ty:TypeId}{a:Addr}{v:Value}{lg:Log}(E:Emb m B h w) (hv:lt h.n v=true) (hs:Zjs P ty a v h=some (h',lg)) (hlg:Zx lg):
  ∃ w',(Instr.storeAt ty (.pointer (some (mvA m a))) (mv m v)).run P w= .ok () w'∧Emb m B h' w'∧Below B w w'∧h'.n=h.n:=by
 unfold Zjs at hs;split at hs
 ·cases hs
 ·rename_i hsp;split at hs
  ·cases hs
  ·rename_i x hx;split at hs
   ·cases hs
   ·rename_i i hi;split at hs
    ·rename_i hc;cases hs;simp only[Xh,Bool.not_eq_true'] at hc;obtain⟨⟨h1,hsz⟩,hro⟩:=hc;have hlt:=hlg _ Xf;simp only[Xi] at hlt;have e1:ZD v=[v]:=by cases v<;>simp_all [one,ZD]
     have e2:noT v=true:=by cases v<;>simp_all [one,noT]
     refine Zco (ty:=ty) E hv ?_;unfold Zfj;rw[hsp];simp only[hx,hi,e1,e2,List.length_singleton];have hsz':=Xj hsz;rw[if_pos (by simp [hsz',h1,hro];exact hlt),ZhY _ _ _ hlt]
    ·unfold Zp5 at hs;split at hs
     ·rename_i cs _;split at hs
      ·rename_i hc;cases hs;simp only[Xh,Bool.not_eq_true'] at hc;obtain⟨⟨h1,hsz⟩,hro⟩:=hc;have hle:=hlg _ Xf;simp only at hle;refine Zco (ty:=ty) E hv ?_;unfold Zfj;rw[hsp];simp only[hx,hi];have e1:noT (.agg cs)=true:=rfl;have e2:ZD (.agg cs)=cs.toList:=rfl;rw[e1,e2,h1,hsz,hle,hro];rfl
      ·cases hs
     ·cases hs
def Zc6:Option Operand→List Value→Bool
 | none,_=>true
 | some x,t=>okX x && lt 0 (ev t x)
theorem ZQ {m:Mp}{t:List Value}{a:Act}(ha:a.tmps=(t.map (mv m)).toArray) {x:Option Operand}(hx:Zc6 x t=true):x.map a.eval=x.map (ev t):=by
 cases x with
 | none=>rfl
 | some x=>
  simp only[Zc6,Xh] at hx;simp [Zr ha hx.1,Z9 hx.2]
def ZW (c:Nat):Bool:=Nat.blt c ZV
theorem ZF {n c:Nat}(h:ZW c=true):cap n c=c:=by
 unfold cap;rw[if_neg];intro h1;have h2:=Nat.le_of_ble_eq_true h1;have h3:=Zk.1 h;omega
def Zjt (P:Program) (ty:TypeId) (x:Value) (lo hi mx:Option Value):Option Value:=
 match P.underlying ty,x with
 | some (.array n elem),.pointer (some a)=>
  match ZgH P (Instr.sliceBounds false n n lo hi mx),P.info? elem with
  | some b,some ie=>if ZW (b.2.2-b.1)=true then some (.slice (some (if b.2.2=b.1 then a else a.add (b.1*ie.size))) (b.2.1-b.1) (b.2.2-b.1)) else none
  | _,_=>none
 | some (.slice elem),.slice (some a) len c=>
  if ZW c=true then
   match ZgH P (Instr.sliceBounds true len c lo hi mx),P.info? elem with
   | some b,some ie=>if ZW (b.2.2-b.1)=true then some (.slice (some (if b.2.2=b.1 then a else a.add (b.1*ie.size))) (b.2.1-b.1) (b.2.2-b.1)) else none
   | _,_=>none
  else none
 | some (.slice elem),.slice none len c=>
  match ZgH P (Instr.sliceBounds true len c lo hi mx),P.info? elem with
  | some b,some _=>some (.slice none (b.2.1-b.1) (b.2.2-b.1))
  | _,_=>none
 | _,_=>none
theorem ZdQ {m:Mp}{P:Program}{ty:TypeId}{x v:Value}{lo hi mx:Option Value}{n:Nat}(hx:lt n x=true) (hs:Zjt P ty x lo hi mx=some v) (w:World):
  (Instr.sliceAt ty (mv m x) lo hi mx).run P w= .ok (mv m v) w∧lt n v=true:=by
 unfold Zjt at hs;split at hs
 ·rename_i len elem a hu;split at hs
  ·rename_i b ie hb hie;split at hs
   ·rename_i hsm;cases hs;have hr:=ZaL hb w;refine⟨?_,?_⟩
    ·simp only[Instr.sliceAt,mv,mv2,mv1,underlying,Sem.run_bind,run_program,Result.andThen_ok,hu,Sem.run_pure,Instr.sureAddr,hr,sizeOf,typeInfo,hie,ZF hsm];split
     ·rename_i h1;simp [h1]
     ·simp [Zdf]
    ·simp only[lt,lt2,lt1] at hx ⊢;split
     ·exact hx
     ·rw[Zbc];exact hx
   ·cases hs
  ·cases hs
 ·rename_i elem a len c hu;split at hs
  ·rename_i hc;split at hs
   ·rename_i b ie hb hie;split at hs
    ·rename_i hsm;cases hs;have hr:=ZaL hb w;refine⟨?_,?_⟩
     ·simp only[Instr.sliceAt,Instr.slice,mv,mv2,mv1,ZF hc,underlying,Sem.run_bind,run_program,Result.andThen_ok,hu,Sem.run_pure,hr,sizeOf,typeInfo,hie,ZF hsm];split
      ·rename_i h1;simp [h1]
      ·simp [Zdf]
     ·simp only[lt,lt2,lt1] at hx ⊢;split
      ·exact hx
      ·rw[Zbc];exact hx
    ·cases hs
   ·cases hs
  ·cases hs
 ·rename_i elem len c hu;split at hs
  ·rename_i b ie hb hie;cases hs;have hr:=ZaL hb w;refine⟨?_,by simp [lt,lt2,lt1]⟩;simp [Instr.sliceAt,Instr.slice,mv,mv2,mv1,underlying,hu,hr,sizeOf,typeInfo,hie]
  ·cases hs
 ·cases hs
end Go.KRun
