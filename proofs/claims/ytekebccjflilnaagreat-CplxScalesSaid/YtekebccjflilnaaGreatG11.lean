/-
  R16, RfC, RunZ, RfD, RfE, RfF
-/
import Derived.Test.YtekebccjflilnaaGreatG10
namespace Go.Proofs.YtekebccjflilnaaGreat
open Go.KRun Go.Nt
set_option maxRecDepth 100000
theorem zI {A k:Nat}(h:A<2^(16*k)):(d16 A).length≤k:=Zdx (by omega) k A (by rw[ZdH];exact h)
theorem z6 {h:Hp}{b A:Nat}{ty:TypeId}(hb:h.blk? b=some (wU (d16 A),ty)):Zu h (some ⟨b,0,none⟩) (d16 A).length=d16 A:=by
 simp only[Zu,hb];exact ZaD _
theorem zq {h:Hp}{b A:Nat}{ty:TypeId}(hb:h.blk? b=some (wU (d16 A),ty)):vO h (some ⟨b,0,none⟩) (d16 A).length=A:=by
 unfold vO;rw[z6 hb];exact Zkw (by omega) A
theorem Zd7 (h:Hp):vO h none 0=0:=rfl
theorem ZE {h:Hp}{b A:Nat}(hb:h.blk? b=some (wU (d16 A),tU)) (hl:(d16 A).length<1073741824):zS h (some ⟨b,0,none⟩) (d16 A).length (d16 A).length=true:=by
 simp only[zS,hb,Xh];refine⟨zY (fun x hx=>⟨(ZaF A x hx).1,by have:=(ZaF A x hx).2;omega⟩) (by omega) ?_,List.all_eq_true.2 (ZP _)⟩;unfold Zd4;simp only[Bool.or_eq_true,Xh];exact .inl ⟨Zk.2 (by unfold ZV;omega),Nat.ble_eq_true_of_le (Nat.le_refl _)⟩
theorem Zaa {h:Hp}{b A:Nat}{ty:TypeId}(hb:h.blk? b=some (wU (d16 A),ty)):dgB (Zu h (some ⟨b,0,none⟩) (d16 A).length)=true:=by
 rw[z6 hb];exact ZaZ (ZaF A)
theorem Zc2 {h:Hp}{b b' A A':Nat}(hb:h.blk? b=some (wU (d16 A),tU)) (hb':h.blk? b'=some (wU (d16 A'),tU)) (hl:(d16 A).length<1073741800) (hl':(d16 A').length<1073741800):Z6 h (some ⟨b,0,none⟩) (some ⟨b',0,none⟩) (d16 A).length (d16 A).length (d16 A').length (d16 A').length=true:=by
 unfold Z6;rw[ZE hb (by omega),ZE hb' (by omega),Zaa hb,Zaa hb'];simp only[Bool.true_and];exact Zk.2 (by omega)
theorem ZlC {h:Hp}{b A:Nat}(hb:h.blk? b=some (wU (d16 A),tU)) (hl:(d16 A).length<1073741800):Z6 h none (some ⟨b,0,none⟩) 0 0 (d16 A).length (d16 A).length=true:=by
 unfold Z6;rw[ZE hb (by omega),Zaa hb];simp only[Bool.and_true];exact Bool.and_eq_true_iff.2 ⟨rfl,Zk.2 (by omega)⟩
theorem ZlD {A:Nat}(h:0<(d16 A).length):A≠0:=by
 rintro rfl;unfold d16 at h;rw[zx] at h;simp at h
end Go.Proofs.YtekebccjflilnaaGreat
namespace Go.Proofs.YtekebccjflilnaaGreat
open Go.KRun Go.Nt Go.Wd
set_option maxRecDepth 100000
theorem zy:(d16 1).length=1:=by
 unfold d16;rw[ZbX (by omega) (by omega),show 1/65536=0 from rfl,zx];rfl
theorem ZaW {A:Nat}(h:¬ 0<(d16 A).length):A=0:=by
 have:d16 A=[]:=List.length_eq_zero_iff.1 (by omega);exact (Zef (by omega)).1 this
end Go.Proofs.YtekebccjflilnaaGreat
namespace Go.KRun
open Go.RowKit
theorem ZoF {k n:Nat}{base l:List (List Value×TypeId)}(hn:n=l.length+k) {i:Nat}(hi:i<k):(⟨n,l++base⟩:Hp).blk? i=(⟨k,base⟩:Hp).blk? i:=by
 unfold Hp.blk?;rw[if_pos (Zk.2 (by show i<n;omega)),if_pos (Zk.2 hi)];show (l++base)[n-1-i]? =base[k-1-i]?;rw[List.getElem?_append_right (by omega)];congr 1;omega
theorem RunsW.pre {T:Tab}{c:Code}{P:Ex→Lf→Prop}{f1 f2:List Value}{u:Value}{n k N:Nat}{extra base:List (List Value×TypeId)}{s s':List Dec}{g:Nat→Value}(h:∀ j g,RunsW T c ((f1++j::f2)++tl n g,⟨k,base⟩,s') P)
  (hk:base.length=k) (hN:N=extra.length+k) (h0:0<k) (hb:∀ x∈base,∀ v∈x.1,lt1 k v=true) (h1:∀ v∈f1,lt k v=true) (h2:∀ v∈f2,lt k v=true):
  RunsW T c ((f1++u::f2)++tl n g,⟨N,extra++base⟩,s) P:=by
 intro m B a w R Q hQ;obtain⟨g',hg'⟩:=Zso (J:=(tl n g).map (fun v=>Value.iface ZV (mv m v))) (n:=n) (by simp [ZkY]);refine h (Value.iface ZV (mv m u)) g' m B a w ?_ Q hQ;have E:=R.emb;have sub:∀ i x,(⟨k,base⟩:Hp).blk? i=some x→(⟨N,extra++base⟩:Hp).blk? i=some x:=fun i x hx=>by
  rw[ZoF hN (Hp.blk_lt hx)];exact hx
 have mem:∀ i x,(⟨k,base⟩:Hp).blk? i=some x→x∈base:=fun i x hx=>by
  unfold Hp.blk? at hx;split at hx
  ·exact List.mem_of_getElem? hx
  ·cases hx
 have ltd:∀ v:Value,lt k (Value.iface ZV v)=true:=fun v=>by simp [lt,lt2,lt1,h0]
 have mvd:∀ v:Value,mv m (Value.iface ZV (mv m v))=mv m v:=fun v=>by simp [mv,mv2,mv1]
 refine⟨?_,R.dfr,⟨hk,fun b x hx ht=>E.lies b x (sub b x hx) ht,fun b x hx hro=>E.low b x (sub b x hx) hro,fun b x hx ht hro=>E.ros b x (sub b x hx) ht hro,fun b b' x x' hx hx' hro hro' he=>E.inj b b' x x' (sub b x hx) (sub b' x' hx') hro hro' he,fun b x hx v hv=>hb x (mem b x hx) v hv,E.base,E.ice,fun b x hx ha=>(E.abs b x (sub b x hx) ha).ren (f:=fun i=>i) (r:=[]) rfl (List.append_nil _).symm (fun c z hz=>⟨z,sub c z hz,rfl⟩) fun c z _ _ _ hc=>hc⟩,?_⟩
 ·rw[R.tmps];simp only[List.map_append,List.map_cons,mvd,← hg',List.map_map];congr 2
 ·intro v hv;rcases List.mem_append.1 hv with hv | hv
  ·rcases List.mem_append.1 hv with hv | hv
   ·exact h1 v hv
   ·rcases List.mem_cons.1 hv with rfl | hv
    ·exact ltd _
    ·exact h2 v hv
  ·rw[← hg'] at hv;obtain⟨y,_,rfl⟩:=List.mem_map.1 hv;exact ltd _
theorem Zb5 {T:Tab}{f:Nat}{F:Func}{c:Code}(hF:T.P.funcs[f]? =some F) (hc:F.body=some c) {h0:Hp}(hr:h0.rows) {vals:List Value}(hvals:∀ v∈vals,lt h0.n v=true) {v:Nat→Value}
  {cs:List Value}{ty:TypeId}(hcs:∀ u∈cs,lt1 0 u=true) (hty:ro ty=false)
  (hrun:RunsW T c (vals++List.replicate (F.ntmps-vals.length) undef,h0,[]) fun e y=>(e=none∨e=some none)∧∃ k,Zau T.P F y.1 y.2.1=some (v k)∧∃ r,y.2.1.blk? k=some (cs++r,ty))
  (hv0:∀ k,oc [k] (v k)=true)
  {m:Mp}{B:Nat}{h:Hp}{w:World}(E:Emb m B h w) {s:Nat→Nat}(hf:h0.fits s h) (hv1:∀ k,rn (fun _=>h.n) (v k)=v h.n):
  Calls T.P f ((vals.map (rn s)).map (mv m)).toArray w fun e w'=>∃ m',e= .returned (mv m' (v h.n))∧Came m B h w (v h.n) (h.push cs ty) m' w':=by
 have E0:=E.small hr hf;have ev:(vals.map (rn s)).map (mv m)=vals.map (mv fun i=>m (s i)):=by
  rw[List.map_map];exact List.map_congr_left fun y _=>ZcD m s y
 rw[ev];refine calls_of_wp hF hc ?_;have R:Rel (fun i=>m (s i)) w.heap.size (vals++List.replicate (F.ntmps-vals.length) undef,h0,[]) {tmps:=(vals.map (mv fun i=>m (s i))).toArray++Array.replicate (F.ntmps-(vals.map (mv fun i=>m (s i))).toArray.size) undef,defers:=[]} w:=by
  refine⟨?_,rfl,E0,?_⟩
  ·simp [zO]
  ·intro y hy;rcases List.mem_append.1 hy with hy | hy
   ·exact hvals y hy
   ·rw[List.eq_of_mem_replicate hy];simp [undef,lt]
 refine hrun _ _ _ w R _ fun e y he m1 a' w' k2 k3=> ?_;obtain⟨hex,k,hres,r,hblk⟩:=he;obtain⟨r1,r2⟩:=ZaO k2.emb k2.wf hres;rw[← k2.tmps] at r1;have td:zg w w':=⟨k3,fun k h1 h2=>k2.emb.ice k h1 h2⟩;obtain⟨E',hb⟩:=Zaf E td;have hlow:w.heap.size≤(m1 k).1:=k2.emb.low k _ hblk hty;have hlie:lie w' (m1 k) (cs.map (mv1 m)) ty:=by
  obtain⟨r',z,l0,l1,l2⟩:=k2.emb.lies k _ hblk (zo hty);have e:cs.map (mv1 m1)=cs.map (mv1 m):=Zbg hcs;simp only[List.map_append] at l0 l1;refine⟨r.map (mv1 m1)++r',z,?_,?_,l2⟩
  ·simp at l0 ⊢;omega
  ·rw[← e,l1,List.append_assoc]
 have Ea:=E'.adopt cs ty hty (fun u hu=>ZI (Nat.zero_le _) (hcs u hu)) hlie (Nat.le_trans E.base hlow) (fun b x hbx hx heq=>by
  have:=E.here hbx (zo hx);omega) (fun b x hbx hx hf=>by
  have:=E.at_ hbx hx hf;omega)
 have e1:mv m1 (v k)=mv (upd m h.n (m1 k)) (v h.n):=by
  rw[← hv1 k,ZcD];refine ZnW (fun b hb=> ?_) (hv0 k);rw[List.mem_singleton.1 hb];simp [upd]
 rw[e1] at r1;have hlt:lt (h.n+1) (v h.n)=true:=by rw[← hv1 k];exact Zh0 (bs:=[k]) (fun b hb=>by show h.n<h.n+1;omega) (hv0 k)
 have post:a'.defers=[]∧∃ v',(results F a'.tmps).run T.P w'= .ok v' w'∧∃ m',Ending.returned v'= .returned (mv m' (v h.n))∧Came m B h w (v h.n) (h.push cs ty) m' w':=
  ⟨k2.dfr,_,r1,upd m h.n (m1 k),rfl,⟨Z7 _ _ _,Ea,hb,Nat.le_succ _,hlt⟩⟩
 rcases hex with rfl | rfl<;>exact post
end Go.KRun
namespace Go.Proofs.YtekebccjflilnaaGreat
open Go.Proofs.Tryz
open Go.IntKind
open Go.KRun Go.Nt Go.Wd
set_option maxRecDepth 100000
set_option linter.unusedVariables false
def tC (F:Func):Nat→Code
 | 0=>Zv F
 | n+1=>Z5 (tC F n)
def tS1 (F:Func):List Code:=[ZB (tC F 0),ZB (tC F 1),ZB (tC F 2),ZB (tC F 3),ZB (tC F 4),ZB (tC F 5)]
def tS2 (F:Func):List Code:=[ZB (tC F 6),ZB (tC F 7),ZB (tC F 8)]
def tS3 (F:Func):Code:=ZB (tC F 9)
def tS4 (F:Func):Code:=ZB (tC F 10)
def tS5 (F:Func):Code:=tC F 11
theorem Zg0:f67.body=some (Zv f67):=by kernel_rfl
theorem ZoG:f67.body=some (Zaz (tS1 f67) (Zaz (tS2 f67) (.seq (tS3 f67) (.seq (tS4 f67) (tS5 f67))))):=by kernel_rfl
abbrev pX9 (neg:Bool) (E N M:Int) (o n c:Nat) (r:List Value):List Value:=vRN neg E (sl 0 o n c):: .int .i64 N:: .int .i64 M:: .pointer (some ⟨1,0,none⟩)::undef::undef::r
def bX (neg:Bool) (E:Int) (o n c:Nat):List Value×TypeId:=bOf neg E (sl 0 o n c)
def hX (neg:Bool) (E:Int) (o n c:Nat) (l:List Value):Hp:=⟨2,[bX neg E o n c,(l,tR)]⟩
def hQ (neg:Bool) (E:Int) (o n c:Nat) (l:List Value) (q:Nat):Hp:=⟨3,[(wU (d16 q),tU),bX neg E o n c,(l,tR)]⟩
def aX (o:Nat):Option Addr:=some ⟨0,o,none⟩
def dif (x y:Int):Int:=i64.wrap (x-y)
def ZM (h:Hp) (p:Option Addr) (n c:Nat) (k:Int):Bool:=zS h p n c && dgB (Zu h p n) && Nat.blt (k.toNat/16+n+3) 1073741824 && decide (0≤k)
def zJ (h:Hp) (p:Option Addr) (n c:Nat):Bool:=zS h p n c && Zff (Zu h p n) && Nat.blt n 1073741824
theorem Zw1 (neg:Bool) (E N M:Int) (o n c:Nat) (l:List Value):Zm (evC (Zp prog Zh Zo hcW) 200 false (Zv f67) ([vRN neg E (sl 0 o n c),.int .i64 N,.int .i64 M]++List.replicate 103 undef,⟨1,[(l,tR)]⟩,[cmp true,cmp true]) ⟨[],[],[]⟩) 8 98 (some none) (pX9 neg E N M o n c [sOf 2 ((vO (hX neg E o n c l) (aX o) n)*2^(dif E N).toNat),.bool false]) (nxt (hX neg E o n c l) ((vO (hX neg E o n c l) (aX o) n)*2^(dif E N).toNat)) [(ZM (hX neg E o n c l) (aX o) n c (dif E N),true),(decide (0<n),true),(decide (E≥N),true)]:=by and_intros<;>kernel_rfl
theorem Zw2 (neg:Bool) (E N M:Int) (o n c:Nat) (l:List Value):Zm (evC (Zp prog Zh Zo hcW) 200 false (Zv f67) ([vRN neg E (sl 0 o n c),.int .i64 N,.int .i64 M]++List.replicate 103 undef,⟨1,[(l,tR)]⟩,[cmp true,cmp false]) ⟨[],[],[]⟩) 8 98 (some none) (pX9 neg E N M o n c [Zn,.bool false]) (hX neg E o n c l) [(zS (hX neg E o n c l) (aX o) n c,true),(decide (0<n),false),(decide (E≥N),true)]:=by and_intros<;>kernel_rfl
theorem Zw3 (neg:Bool) (E N M:Int) (o n c:Nat) (l:List Value):Zm (evC (Zp prog Zh Zo hcW) 200 false (Zv f67) ([vRN neg E (sl 0 o n c),.int .i64 N,.int .i64 M]++List.replicate 103 undef,⟨1,[(l,tR)]⟩,[cmp false,cmp true,cmp false]) ⟨[],[],[]⟩) 8 98 (some none) (pX9 neg E N M o n c [sOf 2 ((vO (hX neg E o n c l) (aX o) n)/2^(dif N E).toNat),.bool false]) (nxt (hX neg E o n c l) ((vO (hX neg E o n c l) (aX o) n)/2^(dif N E).toNat)) [(decide ((vO (hX neg E o n c l) (aX o) n) % 2^(dif N E).toNat≠0),false),(decide ((dif N E).toNat/16<n),true),(ZdI (hX neg E o n c l) (aX o) n c (dif N E),true),(decide (E≥N),false)]:=by and_intros<;>kernel_rfl
theorem Zw4 (neg:Bool) (E N M:Int) (o n c:Nat) (l:List Value):Zm (evC (Zp prog Zh Zo hcW) 200 false (Zv f67) ([vRN neg E (sl 0 o n c),.int .i64 N,.int .i64 M]++List.replicate 103 undef,⟨1,[(l,tR)]⟩,[cmp false,cmp false,cmp false]) ⟨[],[],[]⟩) 8 98 (some none) (pX9 neg E N M o n c [Zn,.bool false]) (hX neg E o n c l) [(decide ((vO (hX neg E o n c l) (aX o) n) % 2^(dif N E).toNat≠0),false),(decide ((dif N E).toNat/16<n),false),(ZdI (hX neg E o n c l) (aX o) n c (dif N E),true),(decide (E≥N),false)]:=by and_intros<;>kernel_rfl
theorem Zw5 (neg d:Bool) (E N M:Int) (o n c:Nat) (l:List Value):Zm (evL (Zp prog Zh Zo hcW) 200 (tS1 f67) ([vRN neg E (sl 0 o n c),.int .i64 N,.int .i64 M]++List.replicate 103 undef,⟨1,[(l,tR)]⟩,[cmp false,cmp true,cmp true,cmp d]) ⟨[],[],[]⟩) 12 94 none (pX9 neg E N M o n c [Zn,.bool false,.int .i64 (dif N E),sOf 2 ((vO (hX neg E o n c l) (aX o) n)/2^(dif N E).toNat),.bool true,.bool d]) (nxt (hX neg E o n c l) ((vO (hX neg E o n c l) (aX o) n)/2^(dif N E).toNat)) [(((vO (nxt (hX neg E o n c l) ((vO (hX neg E o n c l) (aX o) n)/2^(dif N E).toNat)) (aX o) n/2^(dif (dif N E) 1).toNat % 2:Nat):Int)==1,d),(ZsE (nxt (hX neg E o n c l) ((vO (hX neg E o n c l) (aX o) n)/2^(dif N E).toNat)) (aX o) n c,true),(decide (0≤dif (dif N E) 1∧dif (dif N E) 1<4611686018427387904),true),(decide ((vO (hX neg E o n c l) (aX o) n) % 2^(dif N E).toNat≠0),true),(decide ((dif N E).toNat/16<n),true),(ZdI (hX neg E o n c l) (aX o) n c (dif N E),true),(decide (E≥N),false)]:=by and_intros<;>kernel_rfl
theorem Zw6 (neg d:Bool) (E N M:Int) (o n c:Nat) (l:List Value):Zm (evL (Zp prog Zh Zo hcW) 200 (tS1 f67) ([vRN neg E (sl 0 o n c),.int .i64 N,.int .i64 M]++List.replicate 103 undef,⟨1,[(l,tR)]⟩,[cmp false,cmp false,cmp true,cmp d]) ⟨[],[],[]⟩) 12 94 none (pX9 neg E N M o n c [Zn,.bool false,.int .i64 (dif N E),Zn,.bool true,.bool d]) (hX neg E o n c l) [(((vO (hX neg E o n c l) (aX o) n/2^(dif (dif N E) 1).toNat % 2:Nat):Int)==1,d),(ZsE (hX neg E o n c l) (aX o) n c,true),(decide (0≤dif (dif N E) 1∧dif (dif N E) 1<4611686018427387904),true),(decide ((vO (hX neg E o n c l) (aX o) n) % 2^(dif N E).toNat≠0),true),(decide ((dif N E).toNat/16<n),false),(ZdI (hX neg E o n c l) (aX o) n c (dif N E),true),(decide (E≥N),false)]:=by and_intros<;>kernel_rfl
theorem ZsY (neg j:Bool) (E N M b:Int) (o n c q:Nat) (l:List Value) (g:Nat→Value):Zm (evL (Zp prog Zh Zo hcW) 200 (tS2 f67) ((pX9 neg E N M o n c [Zn,.bool false,.int .i64 b,sOf 2 q,.bool true,.bool false])++tl 94 g,(hQ neg E o n c l q),[cmp false]) ⟨[],[],[]⟩) 14 92 none (pX9 neg E N M o n c [Zn,.bool false,.int .i64 b,sOf 2 q,.bool true,.bool false,sl 0 o n c,.bool false]) (hQ neg E o n c l q) [(decide (b≤((bl (vO (hQ neg E o n c l q) (aX o) n):Nat):Int)),false),(zJ (hQ neg E o n c l q) (aX o) n c,true)]:=by and_intros<;>kernel_rfl
theorem ZsZ (neg j:Bool) (E N M b:Int) (o n c q:Nat) (l:List Value) (g:Nat→Value):Zm (evL (Zp prog Zh Zo hcW) 200 (tS2 f67) ((pX9 neg E N M o n c [Zn,.bool false,.int .i64 b,sOf 2 q,.bool true,.bool true])++tl 94 g,(hQ neg E o n c l q),[cmp false,cmp true,cmp j]) ⟨[],[],[]⟩) 14 92 none (pX9 neg E N M o n c [Zn,.bool false,.int .i64 b,sOf 2 q,.bool true,.bool true,sl 0 o n c,.bool j]) (nxt (nxt (hQ neg E o n c l q) 1) (vO (nxt (hQ neg E o n c l q) 1) (some ⟨3,0,none⟩) (d16 1).length*2^(dif b 1).toNat)) [(Zax (vO (nxt (nxt (hQ neg E o n c l q) 1) (vO (nxt (hQ neg E o n c l q) 1) (some ⟨3,0,none⟩) (d16 1).length*2^(dif b 1).toNat)) (aX o) n) (vO (nxt (nxt (hQ neg E o n c l q) 1) (vO (nxt (hQ neg E o n c l q) 1) (some ⟨3,0,none⟩) (d16 1).length*2^(dif b 1).toNat)) (some ⟨4,0,none⟩) (d16 (vO (nxt (hQ neg E o n c l q) 1) (some ⟨3,0,none⟩) (d16 1).length*2^(dif b 1).toNat)).length)==0,j),(Z6 (nxt (nxt (hQ neg E o n c l q) 1) (vO (nxt (hQ neg E o n c l q) 1) (some ⟨3,0,none⟩) (d16 1).length*2^(dif b 1).toNat)) (aX o) (some ⟨4,0,none⟩) n c (d16 (vO (nxt (hQ neg E o n c l q) 1) (some ⟨3,0,none⟩) (d16 1).length*2^(dif b 1).toNat)).length (d16 (vO (nxt (hQ neg E o n c l q) 1) (some ⟨3,0,none⟩) (d16 1).length*2^(dif b 1).toNat)).length,true),(ZM (nxt (hQ neg E o n c l q) 1) (some ⟨3,0,none⟩) (d16 1).length (d16 1).length (dif b 1),true),(decide (0<(d16 1).length),true),Zcd,(decide (b≤((bl (vO (hQ neg E o n c l q) (aX o) n):Nat):Int)),false),(zJ (hQ neg E o n c l q) (aX o) n c,true)]:=by and_intros<;>kernel_rfl
theorem Zta (neg j:Bool) (E N M b:Int) (o n c q:Nat) (l:List Value) (g:Nat→Value):Zm (evL (Zp prog Zh Zo hcW) 200 (tS2 f67) ((pX9 neg E N M o n c [Zn,.bool false,.int .i64 b,sOf 2 q,.bool true,.bool false])++tl 94 g,(hQ neg E o n c l q),[cmp true,cmp true,cmp true]) ⟨[],[],[]⟩) 14 92 none (pX9 neg E N M o n c [Zn,.bool false,.int .i64 b,sOf 2 q,.bool true,.bool false,sOf 4 (vO (nxt (hQ neg E o n c l q) (vO (hQ neg E o n c l q) (some ⟨2,0,none⟩) (d16 q).length*2^b.toNat)) (aX o) n-vO (nxt (hQ neg E o n c l q) (vO (hQ neg E o n c l q) (some ⟨2,0,none⟩) (d16 q).length*2^b.toNat)) (some ⟨3,0,none⟩) (d16 (vO (hQ neg E o n c l q) (some ⟨2,0,none⟩) (d16 q).length*2^b.toNat)).length),.bool false]) (nxt (nxt (hQ neg E o n c l q) (vO (hQ neg E o n c l q) (some ⟨2,0,none⟩) (d16 q).length*2^b.toNat)) (vO (nxt (hQ neg E o n c l q) (vO (hQ neg E o n c l q) (some ⟨2,0,none⟩) (d16 q).length*2^b.toNat)) (aX o) n-vO (nxt (hQ neg E o n c l q) (vO (hQ neg E o n c l q) (some ⟨2,0,none⟩) (d16 q).length*2^b.toNat)) (some ⟨3,0,none⟩) (d16 (vO (hQ neg E o n c l q) (some ⟨2,0,none⟩) (d16 q).length*2^b.toNat)).length)) [(Z6 (nxt (hQ neg E o n c l q) (vO (hQ neg E o n c l q) (some ⟨2,0,none⟩) (d16 q).length*2^b.toNat)) (aX o) (some ⟨3,0,none⟩) n c (d16 (vO (hQ neg E o n c l q) (some ⟨2,0,none⟩) (d16 q).length*2^b.toNat)).length (d16 (vO (hQ neg E o n c l q) (some ⟨2,0,none⟩) (d16 q).length*2^b.toNat)).length && Nat.ble (vO (nxt (hQ neg E o n c l q) (vO (hQ neg E o n c l q) (some ⟨2,0,none⟩) (d16 q).length*2^b.toNat)) (some ⟨3,0,none⟩) (d16 (vO (hQ neg E o n c l q) (some ⟨2,0,none⟩) (d16 q).length*2^b.toNat)).length) (vO (nxt (hQ neg E o n c l q) (vO (hQ neg E o n c l q) (some ⟨2,0,none⟩) (d16 q).length*2^b.toNat)) (aX o) n),true),(decide (0<n),true),(ZM (hQ neg E o n c l q) (some ⟨2,0,none⟩) (d16 q).length (d16 q).length b,true),(decide (0<(d16 q).length),true),(decide (b≤((bl (vO (hQ neg E o n c l q) (aX o) n):Nat):Int)),true),(zJ (hQ neg E o n c l q) (aX o) n c,true)]:=by and_intros<;>kernel_rfl
theorem Ztb (neg j:Bool) (E N M b:Int) (o n c q:Nat) (l:List Value) (g:Nat→Value):Zm (evL (Zp prog Zh Zo hcW) 200 (tS2 f67) ((pX9 neg E N M o n c [Zn,.bool false,.int .i64 b,sOf 2 q,.bool true,.bool true])++tl 94 g,(hQ neg E o n c l q),[cmp true,cmp true,cmp true,cmp true,cmp j]) ⟨[],[],[]⟩) 14 92 none (pX9 neg E N M o n c [Zn,.bool false,.int .i64 b,sOf 2 q,.bool true,.bool true,sOf 4 (vO (nxt (hQ neg E o n c l q) (vO (hQ neg E o n c l q) (some ⟨2,0,none⟩) (d16 q).length*2^b.toNat)) (aX o) n-vO (nxt (hQ neg E o n c l q) (vO (hQ neg E o n c l q) (some ⟨2,0,none⟩) (d16 q).length*2^b.toNat)) (some ⟨3,0,none⟩) (d16 (vO (hQ neg E o n c l q) (some ⟨2,0,none⟩) (d16 q).length*2^b.toNat)).length),.bool j]) (nxt (nxt (nxt (nxt (hQ neg E o n c l q) (vO (hQ neg E o n c l q) (some ⟨2,0,none⟩) (d16 q).length*2^b.toNat)) (vO (nxt (hQ neg E o n c l q) (vO (hQ neg E o n c l q) (some ⟨2,0,none⟩) (d16 q).length*2^b.toNat)) (aX o) n-vO (nxt (hQ neg E o n c l q) (vO (hQ neg E o n c l q) (some ⟨2,0,none⟩) (d16 q).length*2^b.toNat)) (some ⟨3,0,none⟩) (d16 (vO (hQ neg E o n c l q) (some ⟨2,0,none⟩) (d16 q).length*2^b.toNat)).length)) 1) (vO (nxt (nxt (nxt (hQ neg E o n c l q) (vO (hQ neg E o n c l q) (some ⟨2,0,none⟩) (d16 q).length*2^b.toNat)) (vO (nxt (hQ neg E o n c l q) (vO (hQ neg E o n c l q) (some ⟨2,0,none⟩) (d16 q).length*2^b.toNat)) (aX o) n-vO (nxt (hQ neg E o n c l q) (vO (hQ neg E o n c l q) (some ⟨2,0,none⟩) (d16 q).length*2^b.toNat)) (some ⟨3,0,none⟩) (d16 (vO (hQ neg E o n c l q) (some ⟨2,0,none⟩) (d16 q).length*2^b.toNat)).length)) 1) (some ⟨5,0,none⟩) (d16 1).length*2^(dif b 1).toNat)) [(Zax (vO (nxt (nxt (nxt (nxt (hQ neg E o n c l q) (vO (hQ neg E o n c l q) (some ⟨2,0,none⟩) (d16 q).length*2^b.toNat)) (vO (nxt (hQ neg E o n c l q) (vO (hQ neg E o n c l q) (some ⟨2,0,none⟩) (d16 q).length*2^b.toNat)) (aX o) n-vO (nxt (hQ neg E o n c l q) (vO (hQ neg E o n c l q) (some ⟨2,0,none⟩) (d16 q).length*2^b.toNat)) (some ⟨3,0,none⟩) (d16 (vO (hQ neg E o n c l q) (some ⟨2,0,none⟩) (d16 q).length*2^b.toNat)).length)) 1) (vO (nxt (nxt (nxt (hQ neg E o n c l q) (vO (hQ neg E o n c l q) (some ⟨2,0,none⟩) (d16 q).length*2^b.toNat)) (vO (nxt (hQ neg E o n c l q) (vO (hQ neg E o n c l q) (some ⟨2,0,none⟩) (d16 q).length*2^b.toNat)) (aX o) n-vO (nxt (hQ neg E o n c l q) (vO (hQ neg E o n c l q) (some ⟨2,0,none⟩) (d16 q).length*2^b.toNat)) (some ⟨3,0,none⟩) (d16 (vO (hQ neg E o n c l q) (some ⟨2,0,none⟩) (d16 q).length*2^b.toNat)).length)) 1) (some ⟨5,0,none⟩) (d16 1).length*2^(dif b 1).toNat)) (some ⟨4,0,none⟩) (d16 (vO (nxt (hQ neg E o n c l q) (vO (hQ neg E o n c l q) (some ⟨2,0,none⟩) (d16 q).length*2^b.toNat)) (aX o) n-vO (nxt (hQ neg E o n c l q) (vO (hQ neg E o n c l q) (some ⟨2,0,none⟩) (d16 q).length*2^b.toNat)) (some ⟨3,0,none⟩) (d16 (vO (hQ neg E o n c l q) (some ⟨2,0,none⟩) (d16 q).length*2^b.toNat)).length)).length) (vO (nxt (nxt (nxt (nxt (hQ neg E o n c l q) (vO (hQ neg E o n c l q) (some ⟨2,0,none⟩) (d16 q).length*2^b.toNat)) (vO (nxt (hQ neg E o n c l q) (vO (hQ neg E o n c l q) (some ⟨2,0,none⟩) (d16 q).length*2^b.toNat)) (aX o) n-vO (nxt (hQ neg E o n c l q) (vO (hQ neg E o n c l q) (some ⟨2,0,none⟩) (d16 q).length*2^b.toNat)) (some ⟨3,0,none⟩) (d16 (vO (hQ neg E o n c l q) (some ⟨2,0,none⟩) (d16 q).length*2^b.toNat)).length)) 1) (vO (nxt (nxt (nxt (hQ neg E o n c l q) (vO (hQ neg E o n c l q) (some ⟨2,0,none⟩) (d16 q).length*2^b.toNat)) (vO (nxt (hQ neg E o n c l q) (vO (hQ neg E o n c l q) (some ⟨2,0,none⟩) (d16 q).length*2^b.toNat)) (aX o) n-vO (nxt (hQ neg E o n c l q) (vO (hQ neg E o n c l q) (some ⟨2,0,none⟩) (d16 q).length*2^b.toNat)) (some ⟨3,0,none⟩) (d16 (vO (hQ neg E o n c l q) (some ⟨2,0,none⟩) (d16 q).length*2^b.toNat)).length)) 1) (some ⟨5,0,none⟩) (d16 1).length*2^(dif b 1).toNat)) (some ⟨6,0,none⟩) (d16 (vO (nxt (nxt (nxt (hQ neg E o n c l q) (vO (hQ neg E o n c l q) (some ⟨2,0,none⟩) (d16 q).length*2^b.toNat)) (vO (nxt (hQ neg E o n c l q) (vO (hQ neg E o n c l q) (some ⟨2,0,none⟩) (d16 q).length*2^b.toNat)) (aX o) n-vO (nxt (hQ neg E o n c l q) (vO (hQ neg E o n c l q) (some ⟨2,0,none⟩) (d16 q).length*2^b.toNat)) (some ⟨3,0,none⟩) (d16 (vO (hQ neg E o n c l q) (some ⟨2,0,none⟩) (d16 q).length*2^b.toNat)).length)) 1) (some ⟨5,0,none⟩) (d16 1).length*2^(dif b 1).toNat)).length)==0,j),(Z6 (nxt (nxt (nxt (nxt (hQ neg E o n c l q) (vO (hQ neg E o n c l q) (some ⟨2,0,none⟩) (d16 q).length*2^b.toNat)) (vO (nxt (hQ neg E o n c l q) (vO (hQ neg E o n c l q) (some ⟨2,0,none⟩) (d16 q).length*2^b.toNat)) (aX o) n-vO (nxt (hQ neg E o n c l q) (vO (hQ neg E o n c l q) (some ⟨2,0,none⟩) (d16 q).length*2^b.toNat)) (some ⟨3,0,none⟩) (d16 (vO (hQ neg E o n c l q) (some ⟨2,0,none⟩) (d16 q).length*2^b.toNat)).length)) 1) (vO (nxt (nxt (nxt (hQ neg E o n c l q) (vO (hQ neg E o n c l q) (some ⟨2,0,none⟩) (d16 q).length*2^b.toNat)) (vO (nxt (hQ neg E o n c l q) (vO (hQ neg E o n c l q) (some ⟨2,0,none⟩) (d16 q).length*2^b.toNat)) (aX o) n-vO (nxt (hQ neg E o n c l q) (vO (hQ neg E o n c l q) (some ⟨2,0,none⟩) (d16 q).length*2^b.toNat)) (some ⟨3,0,none⟩) (d16 (vO (hQ neg E o n c l q) (some ⟨2,0,none⟩) (d16 q).length*2^b.toNat)).length)) 1) (some ⟨5,0,none⟩) (d16 1).length*2^(dif b 1).toNat)) (some ⟨4,0,none⟩) (some ⟨6,0,none⟩) (d16 (vO (nxt (hQ neg E o n c l q) (vO (hQ neg E o n c l q) (some ⟨2,0,none⟩) (d16 q).length*2^b.toNat)) (aX o) n-vO (nxt (hQ neg E o n c l q) (vO (hQ neg E o n c l q) (some ⟨2,0,none⟩) (d16 q).length*2^b.toNat)) (some ⟨3,0,none⟩) (d16 (vO (hQ neg E o n c l q) (some ⟨2,0,none⟩) (d16 q).length*2^b.toNat)).length)).length (d16 (vO (nxt (hQ neg E o n c l q) (vO (hQ neg E o n c l q) (some ⟨2,0,none⟩) (d16 q).length*2^b.toNat)) (aX o) n-vO (nxt (hQ neg E o n c l q) (vO (hQ neg E o n c l q) (some ⟨2,0,none⟩) (d16 q).length*2^b.toNat)) (some ⟨3,0,none⟩) (d16 (vO (hQ neg E o n c l q) (some ⟨2,0,none⟩) (d16 q).length*2^b.toNat)).length)).length (d16 (vO (nxt (nxt (nxt (hQ neg E o n c l q) (vO (hQ neg E o n c l q) (some ⟨2,0,none⟩) (d16 q).length*2^b.toNat)) (vO (nxt (hQ neg E o n c l q) (vO (hQ neg E o n c l q) (some ⟨2,0,none⟩) (d16 q).length*2^b.toNat)) (aX o) n-vO (nxt (hQ neg E o n c l q) (vO (hQ neg E o n c l q) (some ⟨2,0,none⟩) (d16 q).length*2^b.toNat)) (some ⟨3,0,none⟩) (d16 (vO (hQ neg E o n c l q) (some ⟨2,0,none⟩) (d16 q).length*2^b.toNat)).length)) 1) (some ⟨5,0,none⟩) (d16 1).length*2^(dif b 1).toNat)).length (d16 (vO (nxt (nxt (nxt (hQ neg E o n c l q) (vO (hQ neg E o n c l q) (some ⟨2,0,none⟩) (d16 q).length*2^b.toNat)) (vO (nxt (hQ neg E o n c l q) (vO (hQ neg E o n c l q) (some ⟨2,0,none⟩) (d16 q).length*2^b.toNat)) (aX o) n-vO (nxt (hQ neg E o n c l q) (vO (hQ neg E o n c l q) (some ⟨2,0,none⟩) (d16 q).length*2^b.toNat)) (some ⟨3,0,none⟩) (d16 (vO (hQ neg E o n c l q) (some ⟨2,0,none⟩) (d16 q).length*2^b.toNat)).length)) 1) (some ⟨5,0,none⟩) (d16 1).length*2^(dif b 1).toNat)).length,true),(ZM (nxt (nxt (nxt (hQ neg E o n c l q) (vO (hQ neg E o n c l q) (some ⟨2,0,none⟩) (d16 q).length*2^b.toNat)) (vO (nxt (hQ neg E o n c l q) (vO (hQ neg E o n c l q) (some ⟨2,0,none⟩) (d16 q).length*2^b.toNat)) (aX o) n-vO (nxt (hQ neg E o n c l q) (vO (hQ neg E o n c l q) (some ⟨2,0,none⟩) (d16 q).length*2^b.toNat)) (some ⟨3,0,none⟩) (d16 (vO (hQ neg E o n c l q) (some ⟨2,0,none⟩) (d16 q).length*2^b.toNat)).length)) 1) (some ⟨5,0,none⟩) (d16 1).length (d16 1).length (dif b 1),true),(decide (0<(d16 1).length),true),Zcd,(Z6 (nxt (hQ neg E o n c l q) (vO (hQ neg E o n c l q) (some ⟨2,0,none⟩) (d16 q).length*2^b.toNat)) (aX o) (some ⟨3,0,none⟩) n c (d16 (vO (hQ neg E o n c l q) (some ⟨2,0,none⟩) (d16 q).length*2^b.toNat)).length (d16 (vO (hQ neg E o n c l q) (some ⟨2,0,none⟩) (d16 q).length*2^b.toNat)).length && Nat.ble (vO (nxt (hQ neg E o n c l q) (vO (hQ neg E o n c l q) (some ⟨2,0,none⟩) (d16 q).length*2^b.toNat)) (some ⟨3,0,none⟩) (d16 (vO (hQ neg E o n c l q) (some ⟨2,0,none⟩) (d16 q).length*2^b.toNat)).length) (vO (nxt (hQ neg E o n c l q) (vO (hQ neg E o n c l q) (some ⟨2,0,none⟩) (d16 q).length*2^b.toNat)) (aX o) n),true),(decide (0<n),true),(ZM (hQ neg E o n c l q) (some ⟨2,0,none⟩) (d16 q).length (d16 q).length b,true),(decide (0<(d16 q).length),true),(decide (b≤((bl (vO (hQ neg E o n c l q) (aX o) n):Nat):Int)),true),(zJ (hQ neg E o n c l q) (aX o) n c,true)]:=by and_intros<;>kernel_rfl
theorem Ztc (neg j:Bool) (E N M b:Int) (o n c q:Nat) (l:List Value) (g:Nat→Value):Zm (evL (Zp prog Zh Zo hcW) 200 (tS2 f67) ((pX9 neg E N M o n c [Zn,.bool false,.int .i64 b,sOf 2 q,.bool true,.bool false])++tl 94 g,(hQ neg E o n c l q),[cmp true,cmp false,cmp true]) ⟨[],[],[]⟩) 14 92 none (pX9 neg E N M o n c [Zn,.bool false,.int .i64 b,sOf 2 q,.bool true,.bool false,sOf 3 (vO (hQ neg E o n c l q) (aX o) n-vO (hQ neg E o n c l q) none 0),.bool false]) (nxt (hQ neg E o n c l q) (vO (hQ neg E o n c l q) (aX o) n-vO (hQ neg E o n c l q) none 0)) [(Z6 (hQ neg E o n c l q) (aX o) none n c 0 0 && Nat.ble (vO (hQ neg E o n c l q) none 0) (vO (hQ neg E o n c l q) (aX o) n),true),(decide (0<n),true),(zS (hQ neg E o n c l q) (some ⟨2,0,none⟩) (d16 q).length (d16 q).length,true),(decide (0<(d16 q).length),false),(decide (b≤((bl (vO (hQ neg E o n c l q) (aX o) n):Nat):Int)),true),(zJ (hQ neg E o n c l q) (aX o) n c,true)]:=by and_intros<;>kernel_rfl
theorem Ztd (neg j:Bool) (E N M b:Int) (o n c q:Nat) (l:List Value) (g:Nat→Value):Zm (evL (Zp prog Zh Zo hcW) 200 (tS2 f67) ((pX9 neg E N M o n c [Zn,.bool false,.int .i64 b,sOf 2 q,.bool true,.bool true])++tl 94 g,(hQ neg E o n c l q),[cmp true,cmp false,cmp true,cmp true,cmp j]) ⟨[],[],[]⟩) 14 92 none (pX9 neg E N M o n c [Zn,.bool false,.int .i64 b,sOf 2 q,.bool true,.bool true,sOf 3 (vO (hQ neg E o n c l q) (aX o) n-vO (hQ neg E o n c l q) none 0),.bool j]) (nxt (nxt (nxt (hQ neg E o n c l q) (vO (hQ neg E o n c l q) (aX o) n-vO (hQ neg E o n c l q) none 0)) 1) (vO (nxt (nxt (hQ neg E o n c l q) (vO (hQ neg E o n c l q) (aX o) n-vO (hQ neg E o n c l q) none 0)) 1) (some ⟨4,0,none⟩) (d16 1).length*2^(dif b 1).toNat)) [(Zax (vO (nxt (nxt (nxt (hQ neg E o n c l q) (vO (hQ neg E o n c l q) (aX o) n-vO (hQ neg E o n c l q) none 0)) 1) (vO (nxt (nxt (hQ neg E o n c l q) (vO (hQ neg E o n c l q) (aX o) n-vO (hQ neg E o n c l q) none 0)) 1) (some ⟨4,0,none⟩) (d16 1).length*2^(dif b 1).toNat)) (some ⟨3,0,none⟩) (d16 (vO (hQ neg E o n c l q) (aX o) n-vO (hQ neg E o n c l q) none 0)).length) (vO (nxt (nxt (nxt (hQ neg E o n c l q) (vO (hQ neg E o n c l q) (aX o) n-vO (hQ neg E o n c l q) none 0)) 1) (vO (nxt (nxt (hQ neg E o n c l q) (vO (hQ neg E o n c l q) (aX o) n-vO (hQ neg E o n c l q) none 0)) 1) (some ⟨4,0,none⟩) (d16 1).length*2^(dif b 1).toNat)) (some ⟨5,0,none⟩) (d16 (vO (nxt (nxt (hQ neg E o n c l q) (vO (hQ neg E o n c l q) (aX o) n-vO (hQ neg E o n c l q) none 0)) 1) (some ⟨4,0,none⟩) (d16 1).length*2^(dif b 1).toNat)).length)==0,j),(Z6 (nxt (nxt (nxt (hQ neg E o n c l q) (vO (hQ neg E o n c l q) (aX o) n-vO (hQ neg E o n c l q) none 0)) 1) (vO (nxt (nxt (hQ neg E o n c l q) (vO (hQ neg E o n c l q) (aX o) n-vO (hQ neg E o n c l q) none 0)) 1) (some ⟨4,0,none⟩) (d16 1).length*2^(dif b 1).toNat)) (some ⟨3,0,none⟩) (some ⟨5,0,none⟩) (d16 (vO (hQ neg E o n c l q) (aX o) n-vO (hQ neg E o n c l q) none 0)).length (d16 (vO (hQ neg E o n c l q) (aX o) n-vO (hQ neg E o n c l q) none 0)).length (d16 (vO (nxt (nxt (hQ neg E o n c l q) (vO (hQ neg E o n c l q) (aX o) n-vO (hQ neg E o n c l q) none 0)) 1) (some ⟨4,0,none⟩) (d16 1).length*2^(dif b 1).toNat)).length (d16 (vO (nxt (nxt (hQ neg E o n c l q) (vO (hQ neg E o n c l q) (aX o) n-vO (hQ neg E o n c l q) none 0)) 1) (some ⟨4,0,none⟩) (d16 1).length*2^(dif b 1).toNat)).length,true),(ZM (nxt (nxt (hQ neg E o n c l q) (vO (hQ neg E o n c l q) (aX o) n-vO (hQ neg E o n c l q) none 0)) 1) (some ⟨4,0,none⟩) (d16 1).length (d16 1).length (dif b 1),true),(decide (0<(d16 1).length),true),Zcd,(Z6 (hQ neg E o n c l q) (aX o) none n c 0 0 && Nat.ble (vO (hQ neg E o n c l q) none 0) (vO (hQ neg E o n c l q) (aX o) n),true),(decide (0<n),true),(zS (hQ neg E o n c l q) (some ⟨2,0,none⟩) (d16 q).length (d16 q).length,true),(decide (0<(d16 q).length),false),(decide (b≤((bl (vO (hQ neg E o n c l q) (aX o) n):Nat):Int)),true),(zJ (hQ neg E o n c l q) (aX o) n c,true)]:=by and_intros<;>kernel_rfl
theorem Zte (neg j:Bool) (E N M b:Int) (o n c q:Nat) (l:List Value) (g:Nat→Value):Zm (evL (Zp prog Zh Zo hcW) 200 (tS2 f67) ((pX9 neg E N M o n c [Zn,.bool false,.int .i64 b,Zn,.bool true,.bool false])++tl 94 g,(hX neg E o n c l),[cmp false]) ⟨[],[],[]⟩) 14 92 none (pX9 neg E N M o n c [Zn,.bool false,.int .i64 b,Zn,.bool true,.bool false,sl 0 o n c,.bool false]) (hX neg E o n c l) [(decide (b≤((bl (vO (hX neg E o n c l) (aX o) n):Nat):Int)),false),(zJ (hX neg E o n c l) (aX o) n c,true)]:=by and_intros<;>kernel_rfl
theorem Ztf (neg j:Bool) (E N M b:Int) (o n c q:Nat) (l:List Value) (g:Nat→Value):Zm (evL (Zp prog Zh Zo hcW) 200 (tS2 f67) ((pX9 neg E N M o n c [Zn,.bool false,.int .i64 b,Zn,.bool true,.bool true])++tl 94 g,(hX neg E o n c l),[cmp false,cmp true,cmp j]) ⟨[],[],[]⟩) 14 92 none (pX9 neg E N M o n c [Zn,.bool false,.int .i64 b,Zn,.bool true,.bool true,sl 0 o n c,.bool j]) (nxt (nxt (hX neg E o n c l) 1) (vO (nxt (hX neg E o n c l) 1) (some ⟨2,0,none⟩) (d16 1).length*2^(dif b 1).toNat)) [(Zax (vO (nxt (nxt (hX neg E o n c l) 1) (vO (nxt (hX neg E o n c l) 1) (some ⟨2,0,none⟩) (d16 1).length*2^(dif b 1).toNat)) (aX o) n) (vO (nxt (nxt (hX neg E o n c l) 1) (vO (nxt (hX neg E o n c l) 1) (some ⟨2,0,none⟩) (d16 1).length*2^(dif b 1).toNat)) (some ⟨3,0,none⟩) (d16 (vO (nxt (hX neg E o n c l) 1) (some ⟨2,0,none⟩) (d16 1).length*2^(dif b 1).toNat)).length)==0,j),(Z6 (nxt (nxt (hX neg E o n c l) 1) (vO (nxt (hX neg E o n c l) 1) (some ⟨2,0,none⟩) (d16 1).length*2^(dif b 1).toNat)) (aX o) (some ⟨3,0,none⟩) n c (d16 (vO (nxt (hX neg E o n c l) 1) (some ⟨2,0,none⟩) (d16 1).length*2^(dif b 1).toNat)).length (d16 (vO (nxt (hX neg E o n c l) 1) (some ⟨2,0,none⟩) (d16 1).length*2^(dif b 1).toNat)).length,true),(ZM (nxt (hX neg E o n c l) 1) (some ⟨2,0,none⟩) (d16 1).length (d16 1).length (dif b 1),true),(decide (0<(d16 1).length),true),Zcd,(decide (b≤((bl (vO (hX neg E o n c l) (aX o) n):Nat):Int)),false),(zJ (hX neg E o n c l) (aX o) n c,true)]:=by and_intros<;>kernel_rfl
theorem Ztg (neg j:Bool) (E N M b:Int) (o n c q:Nat) (l:List Value) (g:Nat→Value):Zm (evL (Zp prog Zh Zo hcW) 200 (tS2 f67) ((pX9 neg E N M o n c [Zn,.bool false,.int .i64 b,Zn,.bool true,.bool false])++tl 94 g,(hX neg E o n c l),[cmp true,cmp false,cmp true]) ⟨[],[],[]⟩) 14 92 none (pX9 neg E N M o n c [Zn,.bool false,.int .i64 b,Zn,.bool true,.bool false,sOf 2 (vO (hX neg E o n c l) (aX o) n-vO (hX neg E o n c l) none 0),.bool false]) (nxt (hX neg E o n c l) (vO (hX neg E o n c l) (aX o) n-vO (hX neg E o n c l) none 0)) [(Z6 (hX neg E o n c l) (aX o) none n c 0 0 && Nat.ble (vO (hX neg E o n c l) none 0) (vO (hX neg E o n c l) (aX o) n),true),(decide (0<n),true),(zS (hX neg E o n c l) none 0 0,true),(decide (0<0),false),(decide (b≤((bl (vO (hX neg E o n c l) (aX o) n):Nat):Int)),true),(zJ (hX neg E o n c l) (aX o) n c,true)]:=by and_intros<;>kernel_rfl
theorem Zth (neg j:Bool) (E N M b:Int) (o n c q:Nat) (l:List Value) (g:Nat→Value):Zm (evL (Zp prog Zh Zo hcW) 200 (tS2 f67) ((pX9 neg E N M o n c [Zn,.bool false,.int .i64 b,Zn,.bool true,.bool true])++tl 94 g,(hX neg E o n c l),[cmp true,cmp false,cmp true,cmp true,cmp j]) ⟨[],[],[]⟩) 14 92 none (pX9 neg E N M o n c [Zn,.bool false,.int .i64 b,Zn,.bool true,.bool true,sOf 2 (vO (hX neg E o n c l) (aX o) n-vO (hX neg E o n c l) none 0),.bool j]) (nxt (nxt (nxt (hX neg E o n c l) (vO (hX neg E o n c l) (aX o) n-vO (hX neg E o n c l) none 0)) 1) (vO (nxt (nxt (hX neg E o n c l) (vO (hX neg E o n c l) (aX o) n-vO (hX neg E o n c l) none 0)) 1) (some ⟨3,0,none⟩) (d16 1).length*2^(dif b 1).toNat)) [(Zax (vO (nxt (nxt (nxt (hX neg E o n c l) (vO (hX neg E o n c l) (aX o) n-vO (hX neg E o n c l) none 0)) 1) (vO (nxt (nxt (hX neg E o n c l) (vO (hX neg E o n c l) (aX o) n-vO (hX neg E o n c l) none 0)) 1) (some ⟨3,0,none⟩) (d16 1).length*2^(dif b 1).toNat)) (some ⟨2,0,none⟩) (d16 (vO (hX neg E o n c l) (aX o) n-vO (hX neg E o n c l) none 0)).length) (vO (nxt (nxt (nxt (hX neg E o n c l) (vO (hX neg E o n c l) (aX o) n-vO (hX neg E o n c l) none 0)) 1) (vO (nxt (nxt (hX neg E o n c l) (vO (hX neg E o n c l) (aX o) n-vO (hX neg E o n c l) none 0)) 1) (some ⟨3,0,none⟩) (d16 1).length*2^(dif b 1).toNat)) (some ⟨4,0,none⟩) (d16 (vO (nxt (nxt (hX neg E o n c l) (vO (hX neg E o n c l) (aX o) n-vO (hX neg E o n c l) none 0)) 1) (some ⟨3,0,none⟩) (d16 1).length*2^(dif b 1).toNat)).length)==0,j),(Z6 (nxt (nxt (nxt (hX neg E o n c l) (vO (hX neg E o n c l) (aX o) n-vO (hX neg E o n c l) none 0)) 1) (vO (nxt (nxt (hX neg E o n c l) (vO (hX neg E o n c l) (aX o) n-vO (hX neg E o n c l) none 0)) 1) (some ⟨3,0,none⟩) (d16 1).length*2^(dif b 1).toNat)) (some ⟨2,0,none⟩) (some ⟨4,0,none⟩) (d16 (vO (hX neg E o n c l) (aX o) n-vO (hX neg E o n c l) none 0)).length (d16 (vO (hX neg E o n c l) (aX o) n-vO (hX neg E o n c l) none 0)).length (d16 (vO (nxt (nxt (hX neg E o n c l) (vO (hX neg E o n c l) (aX o) n-vO (hX neg E o n c l) none 0)) 1) (some ⟨3,0,none⟩) (d16 1).length*2^(dif b 1).toNat)).length (d16 (vO (nxt (nxt (hX neg E o n c l) (vO (hX neg E o n c l) (aX o) n-vO (hX neg E o n c l) none 0)) 1) (some ⟨3,0,none⟩) (d16 1).length*2^(dif b 1).toNat)).length,true),(ZM (nxt (nxt (hX neg E o n c l) (vO (hX neg E o n c l) (aX o) n-vO (hX neg E o n c l) none 0)) 1) (some ⟨3,0,none⟩) (d16 1).length (d16 1).length (dif b 1),true),(decide (0<(d16 1).length),true),Zcd,(Z6 (hX neg E o n c l) (aX o) none n c 0 0 && Nat.ble (vO (hX neg E o n c l) none 0) (vO (hX neg E o n c l) (aX o) n),true),(decide (0<n),true),(zS (hX neg E o n c l) none 0 0,true),(decide (0<0),false),(decide (b≤((bl (vO (hX neg E o n c l) (aX o) n):Nat):Int)),true),(zJ (hX neg E o n c l) (aX o) n c,true)]:=by and_intros<;>kernel_rfl
theorem Zw7 (neg d:Bool) (E N M b x:Int) (o n c q:Nat) (l:List Value) (J:Value) (g:Nat→Value):Zm (evC (Zp prog Zh Zo hcW) 200 false (tS3 f67) ((pX9 neg E N M o n c [Zn,.bool false,.int .i64 b,sOf 2 q,.bool true,.bool false,J,.bool false])++tl 92 g,(hQ neg E o n c l q),[]) ⟨[],[],[]⟩) 15 91 none (pX9 neg E N M o n c [Zn,.bool false,.int .i64 b,sOf 2 q,.bool true,.bool false,J,.bool false,.bool false]) (hQ neg E o n c l q) []:=by and_intros<;>kernel_rfl
theorem Zti (neg d:Bool) (E N M b x:Int) (o n c q:Nat) (l:List Value) (J:Value) (g:Nat→Value):Zm (evC (Zp prog Zh Zo hcW) 200 false (tS3 f67) ((pX9 neg E N M o n c [Zn,.bool false,.int .i64 b,sOf 2 q,.bool true,.bool true,J,.bool false])++tl 92 g,(hQ neg E o n c l q),[]) ⟨[],[],[]⟩) 15 91 none (pX9 neg E N M o n c [Zn,.bool false,.int .i64 b,sOf 2 q,.bool true,.bool true,J,.bool false,.bool true]) (hQ neg E o n c l q) []:=by and_intros<;>kernel_rfl
theorem Zw8 (neg d:Bool) (E N M b x:Int) (o n c q:Nat) (l:List Value) (J:Value) (g:Nat→Value):Zm (evC (Zp prog Zh Zo hcW) 200 false (tS3 f67) ((pX9 neg E N M o n c [Zn,.bool false,.int .i64 b,Zn,.bool true,.bool false,J,.bool false])++tl 92 g,(hX neg E o n c l),[]) ⟨[],[],[]⟩) 15 91 none (pX9 neg E N M o n c [Zn,.bool false,.int .i64 b,Zn,.bool true,.bool false,J,.bool false,.bool false]) (hX neg E o n c l) []:=by and_intros<;>kernel_rfl
theorem Ztj (neg d:Bool) (E N M b x:Int) (o n c q:Nat) (l:List Value) (J:Value) (g:Nat→Value):Zm (evC (Zp prog Zh Zo hcW) 200 false (tS3 f67) ((pX9 neg E N M o n c [Zn,.bool false,.int .i64 b,Zn,.bool true,.bool true,J,.bool false])++tl 92 g,(hX neg E o n c l),[]) ⟨[],[],[]⟩) 15 91 none (pX9 neg E N M o n c [Zn,.bool false,.int .i64 b,Zn,.bool true,.bool true,J,.bool false,.bool true]) (hX neg E o n c l) []:=by and_intros<;>kernel_rfl
theorem Ztk (neg d:Bool) (E N M b x:Int) (o n c q:Nat) (l:List Value) (J:Value) (g:Nat→Value):Zm (evC (Zp prog Zh Zo hcW) 200 false (tS3 f67) ((pX9 neg E N M o n c [Zn,.bool false,.int .i64 b,sOf 2 q,.bool true,.bool true,J,.bool true])++tl 92 g,(hQ neg E o n c l q),[cmp true,at_,val (.int .u32 x),cmp true,cmp d]) ⟨[],[],[]⟩) 15 91 none (pX9 neg E N M o n c [Zn,.bool false,.int .i64 b,sOf 2 q,.bool true,.bool true,J,.bool true,.bool d]) (hQ neg E o n c l q) [(x.tmod 2==1,d),(decide ((2:Int)=0),false),(ZC ((wU (d16 q))[0]?) (.int .u32 x),true),(decide ((0:Int)≤0∧(0:Int)<((d16 q).length:Nat)),true),(decide (((d16 q).length:Int)>0),true)]:=by and_intros<;>kernel_rfl
theorem ZoH (neg d:Bool) (E N M b x:Int) (o n c q:Nat) (l:List Value) (J:Value) (g:Nat→Value):Zm (evC (Zp prog Zh Zo hcW) 200 false (tS3 f67) ((pX9 neg E N M o n c [Zn,.bool false,.int .i64 b,sOf 2 q,.bool true,.bool true,J,.bool true])++tl 92 g,(hQ neg E o n c l q),[cmp false]) ⟨[],[],[]⟩) 15 91 none (pX9 neg E N M o n c [Zn,.bool false,.int .i64 b,sOf 2 q,.bool true,.bool true,J,.bool true,.bool false]) (hQ neg E o n c l q) [(decide (((d16 q).length:Int)>0),false)]:=by and_intros<;>kernel_rfl
theorem ZoI (neg d:Bool) (E N M b x:Int) (o n c q:Nat) (l:List Value) (J:Value) (g:Nat→Value):Zm (evC (Zp prog Zh Zo hcW) 200 false (tS3 f67) ((pX9 neg E N M o n c [Zn,.bool false,.int .i64 b,Zn,.bool true,.bool true,J,.bool true])++tl 92 g,(hX neg E o n c l),[cmp false]) ⟨[],[],[]⟩) 15 91 none (pX9 neg E N M o n c [Zn,.bool false,.int .i64 b,Zn,.bool true,.bool true,J,.bool true,.bool false]) (hX neg E o n c l) [(decide (((0:Nat):Int)>0),false)]:=by and_intros<;>kernel_rfl
theorem Zw9 (neg half just up:Bool) (E N M b:Int) (o n c q:Nat) (l:List Value) (J:Value) (g:Nat→Value):Zm (evC (Zp prog Zh Zo hcW) 200 false (tS4 f67) ((pX9 neg E N M o n c [Zn,.bool false,.int .i64 b,sOf 2 q,.bool true,.bool half,J,.bool just,.bool up])++tl 91 g,(hQ neg E o n c l q),[cmp true]) ⟨[],[],[]⟩) 15 91 none (pX9 neg E N M o n c [Zn,.bool false,.int .i64 b,sOf 2 q,.bool true,.bool half,J,.bool just,.bool half]) (hQ neg E o n c l q) [(M==1,true)]:=by and_intros<;>kernel_rfl
theorem ZwA (neg half just up:Bool) (E N M b:Int) (o n c q:Nat) (l:List Value) (J:Value) (g:Nat→Value):Zm (evC (Zp prog Zh Zo hcW) 200 false (tS4 f67) ((pX9 neg E N M o n c [Zn,.bool false,.int .i64 b,sOf 2 q,.bool true,.bool half,J,.bool just,.bool up])++tl 91 g,(hQ neg E o n c l q),[cmp false,cmp true]) ⟨[],[],[]⟩) 15 91 none (pX9 neg E N M o n c [Zn,.bool false,.int .i64 b,sOf 2 q,.bool true,.bool half,J,.bool just,.bool false]) (hQ neg E o n c l q) [(M==2,true),(M==1,false)]:=by and_intros<;>kernel_rfl
theorem ZwB (neg half just up:Bool) (E N M b:Int) (o n c q:Nat) (l:List Value) (J:Value) (g:Nat→Value):Zm (evC (Zp prog Zh Zo hcW) 200 false (tS4 f67) ((pX9 neg E N M o n c [Zn,.bool false,.int .i64 b,sOf 2 q,.bool true,.bool half,J,.bool just,.bool up])++tl 91 g,(hQ neg E o n c l q),[cmp false,cmp false,cmp true]) ⟨[],[],[]⟩) 15 91 none (pX9 neg E N M o n c [Zn,.bool false,.int .i64 b,sOf 2 q,.bool true,.bool half,J,.bool just,.bool (!neg)]) (hQ neg E o n c l q) [(M==3,true),(M==2,false),(M==1,false)]:=by and_intros<;>kernel_rfl
theorem ZwC (neg half just up:Bool) (E N M b:Int) (o n c q:Nat) (l:List Value) (J:Value) (g:Nat→Value):Zm (evC (Zp prog Zh Zo hcW) 200 false (tS4 f67) ((pX9 neg E N M o n c [Zn,.bool false,.int .i64 b,sOf 2 q,.bool true,.bool half,J,.bool just,.bool up])++tl 91 g,(hQ neg E o n c l q),[cmp false,cmp false,cmp false,cmp true]) ⟨[],[],[]⟩) 15 91 none (pX9 neg E N M o n c [Zn,.bool false,.int .i64 b,sOf 2 q,.bool true,.bool half,J,.bool just,.bool neg]) (hQ neg E o n c l q) [(M==4,true),(M==3,false),(M==2,false),(M==1,false)]:=by and_intros<;>kernel_rfl
theorem ZwD (neg half just up:Bool) (E N M b:Int) (o n c q:Nat) (l:List Value) (J:Value) (g:Nat→Value):Zm (evC (Zp prog Zh Zo hcW) 200 false (tS4 f67) ((pX9 neg E N M o n c [Zn,.bool false,.int .i64 b,sOf 2 q,.bool true,.bool half,J,.bool just,.bool up])++tl 91 g,(hQ neg E o n c l q),[cmp false,cmp false,cmp false,cmp false]) ⟨[],[],[]⟩) 15 91 none (pX9 neg E N M o n c [Zn,.bool false,.int .i64 b,sOf 2 q,.bool true,.bool half,J,.bool just,.bool up]) (hQ neg E o n c l q) [(M==4,false),(M==3,false),(M==2,false),(M==1,false)]:=by and_intros<;>kernel_rfl
theorem ZwE (neg half just up:Bool) (E N M b:Int) (o n c q:Nat) (l:List Value) (J:Value) (g:Nat→Value):Zm (evC (Zp prog Zh Zo hcW) 200 false (tS4 f67) ((pX9 neg E N M o n c [Zn,.bool false,.int .i64 b,Zn,.bool true,.bool half,J,.bool just,.bool up])++tl 91 g,(hX neg E o n c l),[cmp true]) ⟨[],[],[]⟩) 15 91 none (pX9 neg E N M o n c [Zn,.bool false,.int .i64 b,Zn,.bool true,.bool half,J,.bool just,.bool half]) (hX neg E o n c l) [(M==1,true)]:=by and_intros<;>kernel_rfl
theorem ZwF (neg half just up:Bool) (E N M b:Int) (o n c q:Nat) (l:List Value) (J:Value) (g:Nat→Value):Zm (evC (Zp prog Zh Zo hcW) 200 false (tS4 f67) ((pX9 neg E N M o n c [Zn,.bool false,.int .i64 b,Zn,.bool true,.bool half,J,.bool just,.bool up])++tl 91 g,(hX neg E o n c l),[cmp false,cmp true]) ⟨[],[],[]⟩) 15 91 none (pX9 neg E N M o n c [Zn,.bool false,.int .i64 b,Zn,.bool true,.bool half,J,.bool just,.bool false]) (hX neg E o n c l) [(M==2,true),(M==1,false)]:=by and_intros<;>kernel_rfl
theorem ZwG (neg half just up:Bool) (E N M b:Int) (o n c q:Nat) (l:List Value) (J:Value) (g:Nat→Value):Zm (evC (Zp prog Zh Zo hcW) 200 false (tS4 f67) ((pX9 neg E N M o n c [Zn,.bool false,.int .i64 b,Zn,.bool true,.bool half,J,.bool just,.bool up])++tl 91 g,(hX neg E o n c l),[cmp false,cmp false,cmp true]) ⟨[],[],[]⟩) 15 91 none (pX9 neg E N M o n c [Zn,.bool false,.int .i64 b,Zn,.bool true,.bool half,J,.bool just,.bool (!neg)]) (hX neg E o n c l) [(M==3,true),(M==2,false),(M==1,false)]:=by and_intros<;>kernel_rfl
theorem ZwH (neg half just up:Bool) (E N M b:Int) (o n c q:Nat) (l:List Value) (J:Value) (g:Nat→Value):Zm (evC (Zp prog Zh Zo hcW) 200 false (tS4 f67) ((pX9 neg E N M o n c [Zn,.bool false,.int .i64 b,Zn,.bool true,.bool half,J,.bool just,.bool up])++tl 91 g,(hX neg E o n c l),[cmp false,cmp false,cmp false,cmp true]) ⟨[],[],[]⟩) 15 91 none (pX9 neg E N M o n c [Zn,.bool false,.int .i64 b,Zn,.bool true,.bool half,J,.bool just,.bool neg]) (hX neg E o n c l) [(M==4,true),(M==3,false),(M==2,false),(M==1,false)]:=by and_intros<;>kernel_rfl
theorem ZwI (neg half just up:Bool) (E N M b:Int) (o n c q:Nat) (l:List Value) (J:Value) (g:Nat→Value):Zm (evC (Zp prog Zh Zo hcW) 200 false (tS4 f67) ((pX9 neg E N M o n c [Zn,.bool false,.int .i64 b,Zn,.bool true,.bool half,J,.bool just,.bool up])++tl 91 g,(hX neg E o n c l),[cmp false,cmp false,cmp false,cmp false]) ⟨[],[],[]⟩) 15 91 none (pX9 neg E N M o n c [Zn,.bool false,.int .i64 b,Zn,.bool true,.bool half,J,.bool just,.bool up]) (hX neg E o n c l) [(M==4,false),(M==3,false),(M==2,false),(M==1,false)]:=by and_intros<;>kernel_rfl
theorem ZwJ (neg half just:Bool) (E N M b:Int) (o n c q:Nat) (l:List Value) (J:Value) (g:Nat→Value):Zm (evC (Zp prog Zh Zo hcW) 200 false (tS5 f67) ((pX9 neg E N M o n c [Zn,.bool false,.int .i64 b,sOf 2 q,.bool true,.bool half,J,.bool just,.bool true])++tl 91 g,(hQ neg E o n c l q),[cmp true]) ⟨[],[],[]⟩) 8 98 (some none) (pX9 neg E N M o n c [sOf 4 (vO (nxt (hQ neg E o n c l q) 1) (some ⟨2,0,none⟩) (d16 q).length+vO (nxt (hQ neg E o n c l q) 1) (some ⟨3,0,none⟩) (d16 1).length),.bool true]) (nxt (nxt (hQ neg E o n c l q) 1) (vO (nxt (hQ neg E o n c l q) 1) (some ⟨2,0,none⟩) (d16 q).length+vO (nxt (hQ neg E o n c l q) 1) (some ⟨3,0,none⟩) (d16 1).length)) [(Z6 (nxt (hQ neg E o n c l q) 1) (some ⟨2,0,none⟩) (some ⟨3,0,none⟩) (d16 q).length (d16 q).length (d16 1).length (d16 1).length,true),(decide (0<(d16 q).length∨0<(d16 1).length),true),Zcd]:=by and_intros<;>kernel_rfl
theorem ZwK (neg half just:Bool) (E N M b:Int) (o n c q:Nat) (l:List Value) (J:Value) (g:Nat→Value):Zm (evC (Zp prog Zh Zo hcW) 200 false (tS5 f67) ((pX9 neg E N M o n c [Zn,.bool false,.int .i64 b,sOf 2 q,.bool true,.bool half,J,.bool just,.bool false])++tl 91 g,(hQ neg E o n c l q),[]) ⟨[],[],[]⟩) 8 98 (some none) (pX9 neg E N M o n c [sOf 2 q,.bool true]) (hQ neg E o n c l q) []:=by and_intros<;>kernel_rfl
theorem ZwL (neg half just:Bool) (E N M b:Int) (o n c q:Nat) (l:List Value) (J:Value) (g:Nat→Value):Zm (evC (Zp prog Zh Zo hcW) 200 false (tS5 f67) ((pX9 neg E N M o n c [Zn,.bool false,.int .i64 b,Zn,.bool true,.bool half,J,.bool just,.bool true])++tl 91 g,(hX neg E o n c l),[cmp true]) ⟨[],[],[]⟩) 8 98 (some none) (pX9 neg E N M o n c [sOf 3 (vO (nxt (hX neg E o n c l) 1) none 0+vO (nxt (hX neg E o n c l) 1) (some ⟨2,0,none⟩) (d16 1).length),.bool true]) (nxt (nxt (hX neg E o n c l) 1) (vO (nxt (hX neg E o n c l) 1) none 0+vO (nxt (hX neg E o n c l) 1) (some ⟨2,0,none⟩) (d16 1).length)) [(Z6 (nxt (hX neg E o n c l) 1) none (some ⟨2,0,none⟩) 0 0 (d16 1).length (d16 1).length,true),(decide (0<0∨0<(d16 1).length),true),Zcd]:=by and_intros<;>kernel_rfl
theorem ZwM (neg half just:Bool) (E N M b:Int) (o n c q:Nat) (l:List Value) (J:Value) (g:Nat→Value):Zm (evC (Zp prog Zh Zo hcW) 200 false (tS5 f67) ((pX9 neg E N M o n c [Zn,.bool false,.int .i64 b,Zn,.bool true,.bool half,J,.bool just,.bool false])++tl 91 g,(hX neg E o n c l),[]) ⟨[],[],[]⟩) 8 98 (some none) (pX9 neg E N M o n c [Zn,.bool true]) (hX neg E o n c l) []:=by and_intros<;>kernel_rfl
end Go.Proofs.YtekebccjflilnaaGreat
namespace Go.Proofs.YtekebccjflilnaaGreat
open Go.Proofs.Tryz
open Go.KRun Go.Nt Go.Wd Go.Rn
set_option maxRecDepth 100000
set_option linter.unusedVariables false
section
variable {l : List Value} {o c : Nat} {A : List Int}
theorem Zba (hF:Fst l o c A) {h:Hp}(hh:h.blk? 0=some (l,tR)):vO h (aX o) A.length=vb 65536 A:=by
 unfold vO aX;rw[(hF h hh).2]
theorem Zay (hF:Fst l o c A) (hC:Zap 65536 A) (hn:A.length<1073741824) {h:Hp}(hh:h.blk? 0=some (l,tR)):zJ h (aX o) A.length c=true:=by
 unfold zJ aX;rw[(hF h hh).1,(hF h hh).2,ZaV hC,Zk.2 hn];rfl
theorem ZaG {h:Hp}{b A:Nat}{k:Int}(hb:h.blk? b=some (wU (d16 A),tU)) (hk:0≤k) (hl:k.toNat/16+(d16 A).length+3<1073741824):ZM h (some ⟨b,0,none⟩) (d16 A).length (d16 A).length k=true:=by
 unfold ZM;rw[ZE hb (by omega),Zaa hb,Zk.2 hl,Xa hk];rfl
theorem Zg1 (hF:Fst l o c A) (hC:Zap 65536 A) (hn:A.length<1073741800) {h:Hp}(hh:h.blk? 0=some (l,tR)) {b V:Nat}(hb:h.blk? b=some (wU (d16 V),tU)) (hl:(d16 V).length<1073741800):Z6 h (aX o) (some ⟨b,0,none⟩) A.length c (d16 V).length (d16 V).length=true:=by
 unfold Z6 aX;rw[(hF h hh).1,(hF h hh).2,ZaZ hC.1,ZE hb (by omega),Zaa hb,Zk.2 (by omega)];rfl
theorem Zh7 (hF:Fst l o c A) (hC:Zap 65536 A) (hn:A.length<1073741800) {h:Hp}(hh:h.blk? 0=some (l,tR)):Z6 h (aX o) none A.length c 0 0=true:=by
 unfold Z6 aX;rw[(hF h hh).1,(hF h hh).2,ZaZ hC.1,Zk.2 (by omega)];rfl
def fT (neg:Bool) (E N M:Int) (o n c:Nat) (b:Int) (Q:Value):List Value:=[vRN neg E (sl 0 o n c),.int .i64 N,.int .i64 M,.pointer (some ⟨1,0,none⟩),undef,undef,Zn,.bool false,.int .i64 b,Q]
def hS (s:Bool) (neg:Bool) (E:Int) (o n c:Nat) (l:List Value) (q:Nat):Hp:=match s with | true=>hQ neg E o n c l q | false=>hX neg E o n c l
def qS (s:Bool) (q:Nat):Value:=match s with | true=>sOf 2 q | false=>Zn
theorem Ztl (s:Bool) {neg:Bool}{E N M:Int}{q:Nat}{half just u:Bool}{b:Int}{J:Value}(hq:(d16 q).length<1073741800) (hq0:s=false→q=0) (g:Nat→Value):
  RunsW (Zp prog Zh Zo hcW) (tS5 f67) (fT neg E N M o A.length c b (qS s q)++[.bool true,.bool half,J,.bool just,.bool u]++tl 91 g,hS s neg E o A.length c l q,[]) fun ex z=>(ex=none∨ex=some none)∧
   ((s=true∨u=true)→∃ k,Zau prog f67 z.1 z.2.1=some (.tuple #[sOf k (q+(if u=true then 1 else 0)),.bool true])∧∃ r,z.2.1.blk? k=some (wU (d16 (q+(if u=true then 1 else 0)))++r,tU))∧
   ((s=false∧u=false)→Zau prog f67 z.1 z.2.1=some (.tuple #[Zn,.bool true])):=by
 cases s with
 | true=>
  cases u with
  | true=>
   have e1:vO (nxt (hQ neg E o A.length c l q) 1) (some ⟨2,0,none⟩) (d16 q).length+vO (nxt (hQ neg E o A.length c l q) 1) (some ⟨3,0,none⟩) (d16 1).length=q+1:=by
    rw[zq (A:=q) (ty:=tU) rfl,zq (A:=1) (ty:=tU) rfl]
   refine (Zc (Zg Zd Z4) (ZwJ neg half just E N M b o A.length c q l J g) (Zt (Zc2 (A:=q) (A':=1) rfl rfl hq (by rw[zy];omega)) (Zt (Xa (.inr (by rw[zy];omega))) (Z2 (by decide))))).mono fun ex z hz=> ?_;rw[e1] at hz;obtain⟨rfl,⟨g',z1⟩,z2⟩:=hz;refine⟨.inr rfl,fun _=>⟨4,?_,[],?_⟩,fun h=>by cases h.1⟩
   ·rw[z1,z2];rfl
   ·rw[z2,List.append_nil];rfl
  | false=>
   refine (Zc (Zg Zd Z4) (ZwK neg half just E N M b o A.length c q l J g) (fun x hx=>by cases hx)).mono fun ex z hz=> ?_;obtain⟨rfl,⟨g',z1⟩,z2⟩:=hz;refine⟨.inr rfl,fun _=>⟨2,?_,[],?_⟩,fun h=>by cases h.1⟩
   ·rw[z1,z2];rfl
   ·rw[z2,List.append_nil];rfl
 | false=>
  have hq1:=hq0 rfl;subst hq1;cases u with
  | true=>
   have e1:vO (nxt (hX neg E o A.length c l) 1) none 0+vO (nxt (hX neg E o A.length c l) 1) (some ⟨2,0,none⟩) (d16 1).length=0+1:=by
    rw[Zd7,zq (A:=1) (ty:=tU) rfl]
   refine (Zc (Zg Zd Z4) (ZwL neg half just E N M b o A.length c 0 l J g) (Zt (ZlC (A:=1) rfl (by rw[zy];omega)) (Zt (Xa (.inr (by rw[zy];omega))) (Z2 (by decide))))).mono fun ex z hz=> ?_;rw[e1] at hz;obtain⟨rfl,⟨g',z1⟩,z2⟩:=hz;refine⟨.inr rfl,fun _=>⟨3,?_,[],?_⟩,fun h=>by cases h.2⟩
   ·rw[z1,z2];rfl
   ·rw[z2,List.append_nil];rfl
  | false=>
   refine (Zc (Zg Zd Z4) (ZwM neg half just E N M b o A.length c 0 l J g) (fun x hx=>by cases hx)).mono fun ex z hz=> ?_;obtain⟨rfl,⟨g',z1⟩,z2⟩:=hz;refine⟨.inr rfl,(fun h=>by rcases h with h | h<;>cases h),fun _=> ?_⟩;rw[z1,z2];rfl
def upM (M:Int) (neg half ev:Bool):Bool:=if M=2 then false else if M=3 then !neg else if M=4 then neg else if M=1 then half else ev
theorem Ztm (s:Bool) {neg:Bool}{E N M:Int}{n q:Nat}{half just u:Bool}{b:Int}{J:Value}(g:Nat→Value):
  RunsW (Zp prog Zh Zo hcW) (tS4 f67) (fT neg E N M o n c b (qS s q)++[.bool true,.bool half,J,.bool just,.bool u]++tl 91 g,hS s neg E o n c l q,[]) fun ex z=>ex=none∧(∃ g,z.1=fT neg E N M o n c b (qS s q)++[.bool true,.bool half,J,.bool just,.bool (upM M neg half u)]++tl 91 g)∧z.2.1=hS s neg E o n c l q:=by
 unfold upM;by_cases h1:M=1
 ·have n2:¬ M=2:=by omega
  have n3:¬ M=3:=by omega
  have n4:¬ M=4:=by omega
  rw[if_neg n2,if_neg n3,if_neg n4,if_pos h1];cases s with
  | true=>exact Zc (Zg Zd Z4) (Zw9 neg half just u E N M b o n c q l J g) (Z2 (by rw[h1];rfl))
  | false=>exact Zc (Zg Zd Z4) (ZwE neg half just u E N M b o n c q l J g) (Z2 (by rw[h1];rfl))
 ·have b1:(M==1)=false:=by simp [h1]
  by_cases h2:M=2
  ·rw[if_pos h2];cases s with
   | true=>exact Zc (Zg Zd Z4) (ZwA neg half just u E N M b o n c q l J g) (Zt (by rw[h2];rfl) (Z2 b1))
   | false=>exact Zc (Zg Zd Z4) (ZwF neg half just u E N M b o n c q l J g) (Zt (by rw[h2];rfl) (Z2 b1))
  ·have b2:(M==2)=false:=by simp [h2]
   rw[if_neg h2];by_cases h3:M=3
   ·rw[if_pos h3];cases s with
    | true=>exact Zc (Zg Zd Z4) (ZwB neg half just u E N M b o n c q l J g) (Zt (by rw[h3];rfl) (Zt b2 (Z2 b1)))
    | false=>exact Zc (Zg Zd Z4) (ZwG neg half just u E N M b o n c q l J g) (Zt (by rw[h3];rfl) (Zt b2 (Z2 b1)))
   ·have b3:(M==3)=false:=by simp [h3]
    rw[if_neg h3];by_cases h4:M=4
    ·rw[if_pos h4];cases s with
     | true=>exact Zc (Zg Zd Z4) (ZwC neg half just u E N M b o n c q l J g) (Zt (by rw[h4];rfl) (Zt b3 (Zt b2 (Z2 b1))))
     | false=>exact Zc (Zg Zd Z4) (ZwH neg half just u E N M b o n c q l J g) (Zt (by rw[h4];rfl) (Zt b3 (Zt b2 (Z2 b1))))
    ·have b4:(M==4)=false:=by simp [h4]
     rw[if_neg h4,if_neg h1];cases s with
     | true=>exact Zc (Zg Zd Z4) (ZwD neg half just u E N M b o n c q l J g) (Zt b4 (Zt b3 (Zt b2 (Z2 b1))))
     | false=>exact Zc (Zg Zd Z4) (ZwI neg half just u E N M b o n c q l J g) (Zt b4 (Zt b3 (Zt b2 (Z2 b1))))
theorem Ztn (s:Bool) {neg:Bool}{E N M:Int}{n q:Nat}{half just:Bool}{b:Int}{J:Value}(hq0:s=false→q=0) (hj:half=false→just=false) (g:Nat→Value):
  RunsW (Zp prog Zh Zo hcW) (tS3 f67) (fT neg E N M o n c b (qS s q)++[.bool true,.bool half,J,.bool just]++tl 92 g,hS s neg E o n c l q,[]) fun ex z=>ex=none∧(∃ g,z.1=fT neg E N M o n c b (qS s q)++[.bool true,.bool half,J,.bool just,.bool (half && (!just || odd q))]++tl 91 g)∧z.2.1=hS s neg E o n c l q:=by
 cases half with
 | false=>
  have:=hj rfl;subst this;cases s with
  | true=>exact Zc (Zg Zd Z4) (Zw7 neg false E N M b 0 o n c q l J g) (fun x hx=>by cases hx)
  | false=>exact Zc (Zg Zd Z4) (Zw8 neg false E N M b 0 o n c q l J g) (fun x hx=>by cases hx)
 | true=>
  cases just with
  | false=>
   cases s with
   | true=>exact Zc (Zg Zd Z4) (Zti neg false E N M b 0 o n c q l J g) (fun x hx=>by cases hx)
   | false=>exact Zc (Zg Zd Z4) (Ztj neg false E N M b 0 o n c q l J g) (fun x hx=>by cases hx)
  | true=>
   simp only[Bool.true_and,Bool.not_true,Bool.false_or];cases s with
   | true=>
    by_cases hl:0<(d16 q).length
    ·have hne:=ZlD hl;have hd:d16 q=((q % 65536:Nat):Int)::db 65536 (q/65536):=ZbX (by omega) hne;have ho:(((q % 65536:Nat):Int).tmod 2==1)=odd q:=by
      unfold odd;rw[Int.tmod_eq_emod_of_nonneg (by omega),Bool.eq_iff_iff];simp only[beq_iff_eq,Xi];omega
     have hcell:ZC ((wU (d16 q))[0]?) (.int .u32 ((q % 65536:Nat):Int))=true:=by
      rw[hd];simp [wU,ZC]
     exact Zc (Zg Zd Z4) (Ztk neg (odd q) E N M b ((q % 65536:Nat):Int) o n c q l J g) (Zt ho (Zt rfl (Zt hcell (Zt (Xa ⟨by omega,by omega⟩) (Z2 (Xa (by omega)))))))
    ·have h0:=ZaW hl;have ho:odd q=false:=by rw[h0];rfl
     rw[ho];exact Zc (Zg Zd Z4) (ZoH neg false E N M b 0 o n c q l J g) (Z2 (Xb (by omega)))
   | false=>
    have ho:odd q=false:=by rw[hq0 rfl];rfl
    rw[ho];exact Zc (Zg Zd Z4) (ZoI neg false E N M b 0 o n c q l J g) (Z2 rfl)
end
section
variable {l : List Value} {o c : Nat} {A : List Int}
def ZlE (s:Bool) (neg:Bool) (E:Int) (o n c:Nat) (l:List Value) (q:Nat):List (List Value×TypeId):=match s with | true=>[(wU (d16 q),tU),bX neg E o n c,(l,tR)] | false=>[bX neg E o n c,(l,tR)]
def kS (s:Bool):Nat:=match s with | true=>3 | false=>2
theorem Zto (s neg:Bool) (E:Int) (n q:Nat):hS s neg E o n c l q=⟨kS s,ZlE s neg E o n c l q⟩:=by cases s<;>rfl
theorem Ztp (s neg:Bool) (E:Int) (n q:Nat) (hl:∀ v∈l,still v=true):∀ x∈ZlE s neg E o n c l q,∀ v∈x.1,lt1 (kS s) v=true:=by
 have hb:∀ k,0<k→∀ v∈(bX neg E o n c).1,lt1 k v=true:=fun k hk v hv=>by
  simp only[bX,bOf,List.mem_cons,List.not_mem_nil,or_false] at hv;rcases hv with rfl | rfl | rfl
  ·rfl
  ·rfl
  ·exact Zk.2 hk
 intro x hx v hv;cases s with
 | true=>
  simp only[ZlE,List.mem_cons,List.not_mem_nil,or_false] at hx;rcases hx with rfl | rfl | rfl
  ·exact ZI (Nat.zero_le _) (Zbs _ v hv)
  ·exact hb 3 (by omega) v hv
  ·exact ZcK (by decide) (hl v hv)
 | false=>
  simp only[ZlE,List.mem_cons,List.not_mem_nil,or_false] at hx;rcases hx with rfl | rfl
  ·exact hb 2 (by omega) v hv
  ·exact ZcK (by decide) (hl v hv)
theorem Z0G (s:Bool) {neg:Bool}{E N M:Int}{n q:Nat}{b:Int}{half:Bool}:∀ v∈fT neg E N M o n c b (qS s q)++[.bool true,.bool half],lt (kS s) v=true:=by
 intro v hv;simp only[fT,List.mem_append,List.mem_cons,List.not_mem_nil,or_false] at hv;rcases hv with (rfl | rfl | rfl | rfl | rfl | rfl | rfl | rfl | rfl | rfl) | rfl | rfl<;>cases s<;>rfl
theorem ZbC (s:Bool) {neg:Bool}{E N M:Int}{n q:Nat}{b:Int}{half just:Bool}{X:Code}{P:Ex→Lf→Prop}(hl:∀ v∈l,still v=true)
  (h:∀ J g,RunsW (Zp prog Zh Zo hcW) X (fT neg E N M o n c b (qS s q)++[.bool true,.bool half,J,.bool just]++tl 92 g,hS s neg E o n c l q,[]) P)
  (u:Value) (g:Nat→Value) (sc:List Dec) {hp:Hp}{extra:List (List Value×TypeId)}(he:hp=⟨extra.length+kS s,extra++ZlE s neg E o n c l q⟩):
  RunsW (Zp prog Zh Zo hcW) X (fT neg E N M o n c b (qS s q)++[.bool true,.bool half,u,.bool just]++tl 92 g,hp,sc) P:=by
 have e1:∀ v:Value,fT neg E N M o n c b (qS s q)++[.bool true,.bool half,v,.bool just]=(fT neg E N M o n c b (qS s q)++[.bool true,.bool half])++v::[.bool just]:=fun v=>by simp
 rw[he,e1];refine RunsW.pre (k:=kS s) (s':=[]) (fun j g=> ?_) (by cases s<;>rfl) rfl (by cases s<;>decide) (Ztp s neg E n q hl) (Z0G s) (fun v hv=>by rw[List.mem_singleton.1 hv];rfl);rw[← e1,← Zto];exact h j g
theorem Zd8 {x y:Nat}:(Zax x y==0)=decide (x=y):=by
 unfold Zax;by_cases h1:x<y
 ·rw[if_pos h1,Xb (by omega)];rfl
 ·rw[if_neg h1];by_cases h2:x=y
  ·rw[if_pos h2,Xa h2];rfl
  ·rw[if_neg h2,Xb h2];rfl
theorem Ztq (s:Bool) (hF:Fst l o c A) (hl:∀ v∈l,still v=true) (hC:Zap 65536 A) (hn:A.length<1000000) {neg:Bool}{E N M:Int}{q k:Nat}(hk:k<1000000) (hq:q=vb 65536 A/2^(k+1)) (hs:s=decide ((k+1)/16<A.length)) (hlost:vb 65536 A % 2^(k+1)≠0) {half:Bool}{X:Code}{P:Ex→Lf→Prop}
  (h:∀ J g,RunsW (Zp prog Zh Zo hcW) X (fT neg E N M o A.length c ((k+1:Nat):Int) (qS s q)++[.bool true,.bool half,J,.bool (half && decide (vb 65536 A % 2^(k+1)=2^k))]++tl 92 g,hS s neg E o A.length c l q,[]) P) (g:Nat→Value):
  RunsW (Zp prog Zh Zo hcW) (Zaz (tS2 f67) X) (fT neg E N M o A.length c ((k+1:Nat):Int) (qS s q)++[.bool true,.bool half]++tl 94 g,hS s neg E o A.length c l q,[]) P:=by
 have hT0:vb 65536 A≠0:=fun h0=>hlost (by rw[h0];exact Nat.zero_mod _);have hn0:0<A.length:=by
  rcases Nat.eq_zero_or_pos A.length with h0 | h0
  ·have:A=[]:=List.length_eq_zero_iff.1 h0;subst this;exact absurd rfl hT0
  ·exact h0
 have hp:0<2^(k+1):=Nat.pow_pos (by omega);have hdm:=Nat.div_add_mod (vb 65536 A) (2^(k+1));rw[← hq] at hdm;have hqle:q≤vb 65536 A:=by rw[hq];exact Nat.div_le_self _ _
 have hTl:vb 65536 A<65536^A.length:=Zcu (by omega) A hC.1;have lenOf:∀ V,V≤vb 65536 A→(d16 V).length≤A.length:=fun V hV=>Zdx (by omega) _ V (by omega);have hql:=lenOf q hqle;have e1:dif ((k+1:Nat):Int) 1=(k:Int):=by unfold dif;rw[ZL (by omega) (by omega)];omega
 have e2:(((k+1:Nat):Int)).toNat=k+1:=by omega
 have hA3:(d16 (1*2^k)).length≤k+1:=Zdx (by omega) _ _ (by
  rw[ZdH];have:=Nat.pow_lt_pow_right (show 1<2 by omega) (show k<16*(k+1) by omega);omega)
 have b1:∀ q',(hS s neg E o A.length c l q').blk? 0=some (l,tR):=fun q'=>by cases s<;>rfl
 have sq0:s=false→q=0:=fun h0=>by
  rw[h0] at hs;have h1:=of_decide_eq_false hs.symm;rw[hq];refine Nat.div_eq_of_lt (Nat.lt_of_lt_of_le hTl ?_);rw[ZdH];exact Nat.pow_le_pow_right (by omega) (by omega)
 have hlen:=Zay hF hC (by omega) (b1 q);have hvT:=Zba hF (b1 q);by_cases hdl:((k+1:Nat):Int)≤((bl (vb 65536 A):Nat):Int)
 ·by_cases hdq:0<(d16 q).length
  ·
   have hq1:=ZlD hdq;cases s with
   | false=>exact absurd (sq0 rfl) hq1
   | true=>
    simp only[hS,qS] at*;have r2:(hQ neg E o A.length c l q).blk? 2=some (wU (d16 q),tU):=rfl;have hsub:vb 65536 A-q*2^(k+1)=vb 65536 A % 2^(k+1):=by rw[Nat.mul_comm];omega
    have hle:q*2^(k+1)≤vb 65536 A:=by rw[Nat.mul_comm];omega
    have eA:vO (hQ neg E o A.length c l q) (some ⟨2,0,none⟩) (d16 q).length*2^(((k+1:Nat):Int)).toNat=q*2^(k+1):=by rw[zq (A:=q) (ty:=tU) rfl,e2]
    have lA:=lenOf _ hle;have lS:=lenOf (vb 65536 A % 2^(k+1)) (Nat.mod_le _ _);have eS:vO (nxt (hQ neg E o A.length c l q) (q*2^(k+1))) (aX o) A.length-vO (nxt (hQ neg E o A.length c l q) (q*2^(k+1))) (some ⟨3,0,none⟩) (d16 (q*2^(k+1))).length=vb 65536 A % 2^(k+1):=by
     rw[Zba hF rfl,zq (A:=q*2^(k+1)) (ty:=tU) rfl,hsub]
    have g1:Zx [(Z6 (nxt (hQ neg E o A.length c l q) (q*2^(k+1))) (aX o) (some ⟨3,0,none⟩) A.length c (d16 (q*2^(k+1))).length (d16 (q*2^(k+1))).length && Nat.ble (vO (nxt (hQ neg E o A.length c l q) (q*2^(k+1))) (some ⟨3,0,none⟩) (d16 (q*2^(k+1))).length) (vO (nxt (hQ neg E o A.length c l q) (q*2^(k+1))) (aX o) A.length),true),(decide (0<A.length),true),(ZM (hQ neg E o A.length c l q) (some ⟨2,0,none⟩) (d16 q).length (d16 q).length ((k+1:Nat):Int),true),(decide (0<(d16 q).length),true),(decide (((k+1:Nat):Int)≤((bl (vO (hQ neg E o A.length c l q) (aX o) A.length):Nat):Int)),true),(zJ (hQ neg E o A.length c l q) (aX o) A.length c,true)]:=by
     have p5:decide (((k+1:Nat):Int)≤((bl (vO (hQ neg E o A.length c l q) (aX o) A.length):Nat):Int))=true:=by rw[hvT];exact Xa hdl
     have p3:ZM (hQ neg E o A.length c l q) (some ⟨2,0,none⟩) (d16 q).length (d16 q).length ((k+1:Nat):Int)=true:=ZaG r2 (by omega) (by omega);have p6:zJ (hQ neg E o A.length c l q) (aX o) A.length c=true:=Zay hF hC (by omega) rfl;have p2:decide (0<A.length)=true:=Xa hn0;have p4:decide (0<(d16 q).length)=true:=Xa hdq;refine Za ?_ (Za p2 (Za p3 (Za p4 (Za p5 (Zz p6)))));rw[Zg1 hF hC (by omega) rfl (V:=q*2^(k+1)) rfl (by omega),Zba hF rfl,zq (A:=q*2^(k+1)) (ty:=tU) rfl,Nat.ble_eq_true_of_le hle];rfl
    cases half with
    | false=>
     refine Z0 (Zg Zd Z4) (Zta neg false E N M _ o A.length c q l g) (by rw[eA];exact g1) fun g'=> ?_;rw[eA,eS];exact ZbC true (q:=q) hl h _ g' _ (extra:=[(wU (d16 (vb 65536 A % 2^(k+1))),tU),(wU (d16 (q*2^(k+1))),tU)]) rfl
    | true=>
     have eP:vO (nxt (nxt (nxt (hQ neg E o A.length c l q) (q*2^(k+1))) (vb 65536 A % 2^(k+1))) 1) (some ⟨5,0,none⟩) (d16 1).length*2^(dif ((k+1:Nat):Int) 1).toNat=1*2^k:=by rw[zq (A:=1) (ty:=tU) rfl,e1,Xg]
     refine Z0 (Zg Zd Z4) (Ztb neg (decide (vb 65536 A % 2^(k+1)=2^k)) E N M _ o A.length c q l g) ?_ fun g'=> ?_
     ·rw[eA,eS,eP];refine Zt ?_ (Zt (Zc2 (A:=vb 65536 A % 2^(k+1)) (A':=1*2^k) rfl rfl (by omega) (by omega)) (Zt (by rw[e1];exact ZaG (A:=1) rfl (by omega) (by rw[zy];omega)) (Zt (Xa (by rw[zy];omega)) (Zt (by decide) g1))));dsimp only;rw[zq (A:=vb 65536 A % 2^(k+1)) (ty:=tU) rfl,zq (A:=1*2^k) (ty:=tU) rfl,Zd8,Nat.one_mul]
     ·rw[eA,eS,eP];exact ZbC true (q:=q) hl h _ g' _ (extra:=[(wU (d16 (1*2^k)),tU),(wU (d16 1),tU),(wU (d16 (vb 65536 A % 2^(k+1))),tU),(wU (d16 (q*2^(k+1))),tU)]) rfl
  ·
   have hq1:q=0:=ZaW hdq;have hTm:vb 65536 A % 2^(k+1)=vb 65536 A:=by rw[hq1,Nat.mul_zero,Nat.zero_add] at hdm;exact hdm
   cases s with
   | true=>
    simp only[hS,qS] at*;have p6:zJ (hQ neg E o A.length c l q) (aX o) A.length c=true:=Zay hF hC (by omega) rfl;have w1:vO (hQ neg E o A.length c l q) (aX o) A.length=vb 65536 A:=Zba hF rfl;have p2:decide (0<A.length)=true:=Xa hn0;have eS:(vO (hQ neg E o A.length c l q) (aX o) A.length-vO (hQ neg E o A.length c l q) none 0)=vb 65536 A % 2^(k+1):=by rw[w1,Zd7,Nat.sub_zero,hTm]
    have p5:decide (((k+1:Nat):Int)≤((bl (vO (hQ neg E o A.length c l q) (aX o) A.length):Nat):Int))=true:=by rw[w1];exact Xa hdl
    have p3:zS (hQ neg E o A.length c l q) (some ⟨2,0,none⟩) (d16 q).length (d16 q).length=true:=ZE (A:=q) rfl (by omega);have p4:decide (0<(d16 q).length)=false:=Xb hdq;have p1:(Z6 (hQ neg E o A.length c l q) (aX o) none A.length c 0 0 && Nat.ble (vO (hQ neg E o A.length c l q) none 0) (vO (hQ neg E o A.length c l q) (aX o) A.length))=true:=by rw[Zh7 hF hC (by omega) rfl,Zd7];rfl
    have lS:=lenOf (vb 65536 A % 2^(k+1)) (Nat.mod_le _ _);cases half with
    | false=>
     refine Z0 (Zg Zd Z4) (Ztc neg false E N M _ o A.length c q l g) (Za p1 (Za p2 (Za p3 (Za p4 (Za p5 (Zz p6)))))) fun g'=> ?_;rw[eS];exact ZbC true (q:=q) hl h _ g' _ (extra:=[(wU (d16 (vb 65536 A % 2^(k+1))),tU)]) rfl
    | true=>
     have eP:vO (nxt (nxt (hQ neg E o A.length c l q) (vb 65536 A % 2^(k+1))) 1) (some ⟨4,0,none⟩) (d16 1).length*2^(dif ((k+1:Nat):Int) 1).toNat=1*2^k:=by rw[zq (A:=1) (ty:=tU) rfl,e1,Xg]
     refine Z0 (Zg Zd Z4) (Ztd neg (decide (vb 65536 A % 2^(k+1)=2^k)) E N M _ o A.length c q l g) ?_ fun g'=> ?_
     ·rw[eS,eP];refine Zt ?_ (Zt (Zc2 (A:=vb 65536 A % 2^(k+1)) (A':=1*2^k) rfl rfl (by omega) (by omega)) (Zt (by rw[e1];exact ZaG (A:=1) rfl (by omega) (by rw[zy];omega)) (Zt (Xa (by rw[zy];omega)) (Zt (by decide) (Za p1 (Za p2 (Za p3 (Za p4 (Za p5 (Zz p6))))))))));dsimp only;rw[zq (A:=vb 65536 A % 2^(k+1)) (ty:=tU) rfl,zq (A:=1*2^k) (ty:=tU) rfl,Zd8,Nat.one_mul]
     ·rw[eS,eP];exact ZbC true (q:=q) hl h _ g' _ (extra:=[(wU (d16 (1*2^k)),tU),(wU (d16 1),tU),(wU (d16 (vb 65536 A % 2^(k+1))),tU)]) rfl
   | false=>
    simp only[hS,qS] at*;have p6:zJ (hX neg E o A.length c l) (aX o) A.length c=true:=Zay hF hC (by omega) rfl;have w1:vO (hX neg E o A.length c l) (aX o) A.length=vb 65536 A:=Zba hF rfl;have p2:decide (0<A.length)=true:=Xa hn0;have eS:(vO (hX neg E o A.length c l) (aX o) A.length-vO (hX neg E o A.length c l) none 0)=vb 65536 A % 2^(k+1):=by rw[w1,Zd7,Nat.sub_zero,hTm]
    have p5:decide (((k+1:Nat):Int)≤((bl (vO (hX neg E o A.length c l) (aX o) A.length):Nat):Int))=true:=by rw[w1];exact Xa hdl
    have p3:zS (hX neg E o A.length c l) none 0 0=true:=rfl;have p4:decide (0<0)=false:=rfl;have p1:(Z6 (hX neg E o A.length c l) (aX o) none A.length c 0 0 && Nat.ble (vO (hX neg E o A.length c l) none 0) (vO (hX neg E o A.length c l) (aX o) A.length))=true:=by rw[Zh7 hF hC (by omega) rfl,Zd7];rfl
    have lS:=lenOf (vb 65536 A % 2^(k+1)) (Nat.mod_le _ _);cases half with
    | false=>
     refine Z0 (Zg Zd Z4) (Ztg neg false E N M _ o A.length c q l g) (Za p1 (Za p2 (Za p3 (Za p4 (Za p5 (Zz p6)))))) fun g'=> ?_;rw[eS];exact ZbC false (q:=q) hl h _ g' _ (extra:=[(wU (d16 (vb 65536 A % 2^(k+1))),tU)]) rfl
    | true=>
     have eP:vO (nxt (nxt (hX neg E o A.length c l) (vb 65536 A % 2^(k+1))) 1) (some ⟨3,0,none⟩) (d16 1).length*2^(dif ((k+1:Nat):Int) 1).toNat=1*2^k:=by rw[zq (A:=1) (ty:=tU) rfl,e1,Xg]
     refine Z0 (Zg Zd Z4) (Zth neg (decide (vb 65536 A % 2^(k+1)=2^k)) E N M _ o A.length c q l g) ?_ fun g'=> ?_
     ·rw[eS,eP];refine Zt ?_ (Zt (Zc2 (A:=vb 65536 A % 2^(k+1)) (A':=1*2^k) rfl rfl (by omega) (by omega)) (Zt (by rw[e1];exact ZaG (A:=1) rfl (by omega) (by rw[zy];omega)) (Zt (Xa (by rw[zy];omega)) (Zt (by decide) (Za p1 (Za p2 (Za p3 (Za p4 (Za p5 (Zz p6))))))))));dsimp only;rw[zq (A:=vb 65536 A % 2^(k+1)) (ty:=tU) rfl,zq (A:=1*2^k) (ty:=tU) rfl,Zd8,Nat.one_mul]
     ·rw[eS,eP];exact ZbC false (q:=q) hl h _ g' _ (extra:=[(wU (d16 (1*2^k)),tU),(wU (d16 1),tU),(wU (d16 (vb 65536 A % 2^(k+1))),tU)]) rfl
 ·
  have hTs:vb 65536 A<2^(k+1):=by
   have h1:=ZrP (vb 65536 A);have h2:=Nat.pow_le_pow_right (show 0<2 by omega) (show bl (vb 65536 A)≤k+1 by omega);omega
  have hTm:vb 65536 A % 2^(k+1)=vb 65536 A:=Nat.mod_eq_of_lt hTs;cases s with
  | true=>
   simp only[hS,qS] at*;have p6:zJ (hQ neg E o A.length c l q) (aX o) A.length c=true:=Zay hF hC (by omega) rfl;have w1:vO (hQ neg E o A.length c l q) (aX o) A.length=vb 65536 A:=Zba hF rfl;have p5:decide (((k+1:Nat):Int)≤((bl (vO (hQ neg E o A.length c l q) (aX o) A.length):Nat):Int))=false:=by rw[w1];exact Xb hdl
   cases half with
   | false=>
    refine Z0 (Zg Zd Z4) (ZsY neg false E N M _ o A.length c q l g) (Za p5 (Zz p6)) fun g'=> ?_;exact ZbC true (q:=q) hl h _ g' _ (extra:=[]) rfl
   | true=>
    have eP:vO (nxt (hQ neg E o A.length c l q) 1) (some ⟨3,0,none⟩) (d16 1).length*2^(dif ((k+1:Nat):Int) 1).toNat=1*2^k:=by rw[zq (A:=1) (ty:=tU) rfl,e1,Xg]
    refine Z0 (Zg Zd Z4) (ZsZ neg (decide (vb 65536 A % 2^(k+1)=2^k)) E N M _ o A.length c q l g) ?_ fun g'=> ?_
    ·rw[eP];have pt:Z6 (nxt (nxt (hQ neg E o A.length c l q) 1) (1*2^k)) (aX o) (some ⟨4,0,none⟩) A.length c (d16 (1*2^k)).length (d16 (1*2^k)).length=true:=Zg1 hF hC (by omega) rfl (V:=1*2^k) rfl (by omega);refine Zt ?_ (Zt (by dsimp only;exact pt) (Zt (by rw[e1];exact ZaG (A:=1) rfl (by omega) (by rw[zy];omega)) (Zt (Xa (by rw[zy];omega)) (Zt (by decide) (Za p5 (Zz p6))))));dsimp only;rw[Zba hF rfl,zq (A:=1*2^k) (ty:=tU) rfl,Zd8,Nat.one_mul,hTm]
    ·rw[eP];exact ZbC true (q:=q) hl h _ g' _ (extra:=[(wU (d16 (1*2^k)),tU),(wU (d16 1),tU)]) rfl
  | false=>
   simp only[hS,qS] at*;have p6:zJ (hX neg E o A.length c l) (aX o) A.length c=true:=Zay hF hC (by omega) rfl;have w1:vO (hX neg E o A.length c l) (aX o) A.length=vb 65536 A:=Zba hF rfl;have p5:decide (((k+1:Nat):Int)≤((bl (vO (hX neg E o A.length c l) (aX o) A.length):Nat):Int))=false:=by rw[w1];exact Xb hdl
   cases half with
   | false=>
    refine Z0 (Zg Zd Z4) (Zte neg false E N M _ o A.length c q l g) (Za p5 (Zz p6)) fun g'=> ?_;exact ZbC false (q:=q) hl h _ g' _ (extra:=[]) rfl
   | true=>
    have eP:vO (nxt (hX neg E o A.length c l) 1) (some ⟨2,0,none⟩) (d16 1).length*2^(dif ((k+1:Nat):Int) 1).toNat=1*2^k:=by rw[zq (A:=1) (ty:=tU) rfl,e1,Xg]
    refine Z0 (Zg Zd Z4) (Ztf neg (decide (vb 65536 A % 2^(k+1)=2^k)) E N M _ o A.length c q l g) ?_ fun g'=> ?_
    ·rw[eP];have pt:Z6 (nxt (nxt (hX neg E o A.length c l) 1) (1*2^k)) (aX o) (some ⟨3,0,none⟩) A.length c (d16 (1*2^k)).length (d16 (1*2^k)).length=true:=Zg1 hF hC (by omega) rfl (V:=1*2^k) rfl (by omega);refine Zt ?_ (Zt (by dsimp only;exact pt) (Zt (by rw[e1];exact ZaG (A:=1) rfl (by omega) (by rw[zy];omega)) (Zt (Xa (by rw[zy];omega)) (Zt (by decide) (Za p5 (Zz p6))))));dsimp only;rw[Zba hF rfl,zq (A:=1*2^k) (ty:=tU) rfl,Zd8,Nat.one_mul,hTm]
    ·rw[eP];exact ZbC false (q:=q) hl h _ g' _ (extra:=[(wU (d16 (1*2^k)),tU),(wU (d16 1),tU)]) rfl
end
end Go.Proofs.YtekebccjflilnaaGreat
