/-
  RunM, RunQ
-/
import Derived.Test.YtekebccjflilnaaGreatG01
import Derived.Laws.Append
import Derived.Laws.AppendOwn
import Derived.Laws.MakeOwn
import Derived.Laws.BytesString
import Derived.Deep.AppendSrc
namespace Go.KRun
open Go.RowKit
abbrev Zdh:=Option (Value×Hp×List Dec×Log)
structure Came (m:Mp) (B:Nat) (h:Hp) (w:World) (v:Value) (h':Hp) (m':Mp) (w':World):Prop where
 agree:Agree m m' h.n
 emb:Emb m' B h' w'
 below:Below B w w'
 grown:h.n≤h'.n
 val:lt h'.n v=true
def Does (P:Program) (m:Mp) (B:Nat) (h:Hp) (w:World) (a:Act) (o:Oper) (v:Value) (h':Hp):Prop:=
 ∃ m' w' nx,(execOp a.eval o).run P w= .ok nx w'∧(nx= .value (mv m' v)∨nx= .skip∧v=undef)∧Came m B h w v h' m' w'
theorem Does.still {P:Program}{m:Mp}{B:Nat}{h:Hp}{w:World}{a:Act}{o:Oper}{v:Value}(E:Emb m B h w)
  (hr:(execOp a.eval o).run P w= .ok (.value (mv m v)) w) (hv:lt h.n v=true):Does P m B h w a o v h:=
 ⟨m,w,_,hr,.inl rfl,⟨Agree.refl _ _,E,Below.refl _ _,Nat.le_refl _,hv⟩⟩
def rdS (h:Hp):Value→Option (List Value)
 | .slice none 0 _=>some []
 | .slice (some ⟨b,o,none⟩) n _=>
  match h.blk? b with
  | some x=>if (!(Zam x.2) && Nat.ble (o+n) x.1.length)=true then some ((x.1.drop o).take n) else none
  | none=>none
 | _=>none
theorem Zew {m:Mp}{B:Nat}{h:Hp}{w:World}{b o n c:Nat}{L:List Value}(E:Emb m B h w) (hr:rdS h (.slice (some ⟨b,o,none⟩) n c)=some L):
  L.length=n∧(∀ v∈L,lt1 h.n v=true)∧(∀ j u,(L.map (mv1 m))[j]? =some u→w.cell? ((⟨(m b).1,o,none⟩:Addr).add j)=some u)∧∃ x,h.blk? b=some x∧Zam x.2=false∧o+n≤x.1.length∧L=(x.1.drop o).take n:=by
 simp only[rdS] at hr;split at hr
 ·rename_i x hx;split at hr
  ·rename_i hc;simp only[Xh,Bool.not_eq_true'] at hc;have hle:=Nat.le_of_ble_eq_true hc.2;cases hr;refine⟨by simp;omega,fun v hv=>E.wf _ _ hx v (List.mem_of_mem_drop (List.mem_of_mem_take hv)),fun j u hj=> ?_,x,hx,hc.1,hle,rfl⟩;rw[Zae];rw[List.getElem?_map,List.getElem?_take] at hj;split at hj
   ·rw[List.getElem?_drop] at hj;obtain⟨u',hu,rfl⟩:=Option.map_eq_some_iff.1 hj;exact Zas (E.lies _ _ hx hc.1) hu
   ·simp at hj
  ·cases hr
 ·cases hr
def ZgK (bytes:Nat) (l c:Int):Prop:=0≤l∧l≤c∧c<1099511627776∧(bytes:Int)*c≤281474976710656
def zf (bytes:Nat) (l c:Int):Bool:=decide (0≤l∧l≤c∧c<1099511627776∧(bytes:Int)*c≤281474976710656)
def ZuC (P:Program) (ty:TypeId) (l c:Value) (h:Hp) (s:List Dec):Zdh:=
 match P.underlying ty,l,c with
 | some (.slice e),.int _ ln,.int _ cp=>
  match P.info? e with
  | some i=>
   match i.zero with
   | some z=>
    if (Nat.beq i.size 1 && one z && lt 0 z && !(ro e))=true then
     match s with
     | .inr (.inr (.inr (.inr (.inl _))))::s'=>some (.slice (some ⟨h.n,0,none⟩) ln.toNat cp.toNat,h.push (List.replicate cp.toNat z) e,s',[(zf i.bytes ln cp,true)])
     | _=>if zf i.bytes ln cp=true then some (.slice (some ⟨h.n,0,none⟩) ln.toNat cp.toNat,h.push (List.replicate cp.toNat z) e,s,[]) else none
    else none
   | none=>none
  | none=>none
 | _,_,_=>none
theorem ZbQ {z:Value}(h:one z=true):z.cells= #[z]:=by cases z<;>simp_all [one,Value.cells]
theorem ZmE (z:Value) (n:Nat):madeCells #[z] n=(List.replicate n z).toArray:=by
 unfold madeCells;apply Array.ext';simp only[Array.toList_map,Array.toList_range];refine List.ext_getElem (by simp) fun j h1 h2=> ?_;simp [Nat.mod_one]
theorem ZgL (z:Value) (n:Nat):Builtin.zeroCells #[z] n=(List.replicate n z).toArray:=by
 unfold Builtin.zeroCells;apply Array.ext';simp only[Array.toList_map,Array.toList_range];refine List.ext_getElem (by simp) fun j h1 h2=> ?_;simp [Nat.mod_one]
theorem Zju {m:Mp}{B:Nat}{P:Program}{ty:TypeId}{kl kc:IntKind}{ln cp:Int}{h:Hp}{w:World}{e:TypeId}{i:TypeInfo}{z:Value}(E:Emb m B h w) (hu:P.underlying ty=some (.slice e)) (hi:P.info? e=some i) (hz:i.zero=some z)
  (h1:i.size=1) (h2:one z=true) (h3:lt 0 z=true) (h4:ro e=false) (hk:ZgK i.bytes ln cp):
  (Instr.makeSlice ty (.int kl ln) (.int kc cp)).run P w= .ok (.slice (some ⟨w.heap.size,0,none⟩) ln.toNat cp.toNat) (w.alloc (.cells (List.replicate cp.toNat z).toArray e (0,0)))∧
   Came m B h w (.slice (some ⟨h.n,0,none⟩) ln.toNat cp.toNat) (h.push (List.replicate cp.toNat z) e) (upd m h.n (w.heap.size,cp.toNat)) (w.alloc (.cells (List.replicate cp.toNat z).toArray e (0,0))):=by
 obtain⟨k1,k2,k3,k4⟩:=hk;have hr:=run_make (P:=P) w ty e i z hu hi hz kl kc ln cp k1 k2 k4 (by omega);rw[h1,Nat.mul_one,ZbQ h2,ZmE] at hr;have z1:lt1 0 z=true:=by rw[← Zjl h2];exact h3
 have hall:∀ v∈List.replicate cp.toNat z,lt1 h.n v=true:=fun v hv=>by rw[List.eq_of_mem_replicate hv];exact ZI (Nat.zero_le _) z1
 have E':=E.push (List.replicate cp.toNat z) [] e h4 hall (k:=cp.toNat) (by simp);have e1:(List.replicate cp.toNat z).map (mv1 m)=List.replicate cp.toNat z:=by rw[List.map_replicate,ZX z1]
 rw[List.append_nil,e1] at E';refine⟨hr,⟨Z7 _ _ _,E',(Below.refl _ _).alloc E.base _,Nat.le_succ _,?_⟩⟩;simp [lt,lt2,lt1,Hp.push]
def grown:Nat:=ZV+1
def Zjv (P:Program) (ty:TypeId) (x y:Value) (h:Hp):Option (Value×Hp):=
 match P.underlying ty with
 | some (.slice e)=>
  match P.info? e with
  | some i=>
   match i.zero with
   | some z=>
    if (Nat.beq i.size 1 && one z && lt 0 z && !(ro e) && Nat.ble i.bytes 64)=true then
     match y with
     | .slice (some ⟨_,_,none⟩) yn _=>
      match rdS h y with
      | some nv=>
       if (Nat.blt 0 yn && nv.all one)=true then
        match x with
        | .slice none 0 0=>if Nat.ble yn 1073741824=true then some (.slice (some ⟨h.n,0,none⟩) yn grown,h.push nv e) else none
        | .slice (some ⟨b,0,none⟩) n c=>
         if Nat.ble (n+yn) 1073741824=true then
          match rdS h x,h.blk? b with
          | some old,some xb=>
           match ZW c with
           | true=>
            match Nat.ble (n+yn) c with
            | true=>if (!(ro xb.2) && Nat.beq xb.2 e && Nat.ble (n+yn) xb.1.length)=true then some (.slice (some ⟨b,0,none⟩) (n+yn) c,h.put b (xb.1.take n++nv++xb.1.drop (n+yn),xb.2)) else none
            | false=>some (.slice (some ⟨h.n,0,none⟩) (n+yn) grown,h.push (old++nv) e)
           | false=>if (!(ro xb.2) && Nat.beq xb.2 e && Nat.beq c grown)=true then some (.slice (some ⟨h.n,0,none⟩) (n+yn) grown,(h.put b ([],2*ZV)).push (old++nv) e) else none
          | _,_=>none
         else none
        | _=>none
       else none
      | none=>none
     | _=>none
    else none
   | none=>none
  | none=>none
 | _=>none
theorem Emb.drew {m:Mp}{B:Nat}{h:Hp}{w:World}(E:Emb m B h w):Emb m B h w.drew:=⟨E.len,E.lies,E.low,E.ros,E.inj,E.wf,E.base,E.ice,E.abs⟩
theorem Emb.wild {m:Mp}{B:Nat}{h:Hp}{w:World}(E:Emb m B h w) {g:Nat}(hB:B≤g) (hf:∀ b x,h.blk? b=some x→ro x.2=false→(m b).1≠g) (hsp:∀ b x,h.blk? b=some x→spK x.2=true→¬ fpt (m b).1 (x.1.map (mv1 m)) x.2 g) {r0:Array Value}{e:TypeId}(hl:w.heap[g]? =some (.cells r0 e (0,0))) (r:Array Value):Emb m B h (w.setRow g r) where
 len:=E.len
 lies:=fun b x hb hx=>(E.lies b x hb hx).congr (zp _ _ _ _ fun heq=>by
  cases hr:ro x.2
  ·exact hf b x hb hr heq.symm
  ·have:=E.ros b x hb hx hr;omega)
 low:=E.low
 ros:=E.ros
 inj:=E.inj
 wf:=E.wf
 base:=by rw[zG];exact E.base
 ice:=fun k hk hk'=>by
  rw[zG] at hk';by_cases h1:g=k
  ·subst h1;exact Zcm (setRow_heap w _ _ _ _ _ hl)
  ·rw[zp _ _ _ _ h1];exact E.ice k hk hk'
 abs:=fun b x hb hx=>(E.abs b x hb hx).cells hB (zG _ _ _).symm (fun hs=>hsp b x hb hs) hl fun k hk=>zp _ _ _ _ hk.symm
theorem Emb.apart {m:Mp}{B:Nat}{h:Hp}{w:World}(E:Emb m B h w) {b c:Nat}{x y:List Value×TypeId}(hb:h.blk? b=some x) (hx:spK x.2=true) (hc:h.blk? c=some y) (hy:ro y.2=false):¬ fpt (m b).1 (x.1.map (mv1 m)) x.2 (m c).1:=
 ((E.abs b x hb (Zp4 hx)).2 hx).2.1 c y hc hy
theorem Emb.at_ {m:Mp}{B:Nat}{h:Hp}{w:World}(E:Emb m B h w) {b k:Nat}{x:List Value×TypeId}(hb:h.blk? b=some x) (hx:spK x.2=true) (hf:fpt (m b).1 (x.1.map (mv1 m)) x.2 k):k<w.heap.size:=
 ((E.abs b x hb (Zp4 hx)).2 hx).1.lt hf
theorem Zex {m:Mp}{L:List Value}(h:(L.all one)=true):∀ u∈L.map (mv1 m),u.oneCell'=true:=fun u hu=>by
 obtain⟨v,hv,rfl⟩:=List.mem_map.1 hu;exact Zjo (List.all_eq_true.1 h v hv)
theorem Zat (n:Nat):cap n grown=n:=by
 unfold cap grown;rw[if_pos (Nat.ble_eq_true_of_le (Nat.le_succ _)),show ZV+1-ZV=1 from by omega,Nat.div_one]
set_option maxHeartbeats 1000000 in
theorem ZgM {m:Mp}{B:Nat}{P:Program}{ty rty:TypeId}{x y v:Value}{h h':Hp}{w:World}(E:Emb m B h w) (hx:lt h.n x=true) (hs:Zjv P ty x y h=some (v,h')):
  ∃ m' w',(Builtin.append_ #[ty,ty] rty #[mv m x,mv m y]).run P w= .ok (mv m' v) w'∧Came m B h w v h' m' w':=by
 unfold Zjv at hs;split at hs
 ·rename_i e hu;split at hs
  ·rename_i i hi;split at hs
   ·rename_i z hz;split at hs
    ·rename_i hc;simp only[Xh,Bool.not_eq_true'] at hc;obtain⟨⟨⟨⟨c1,c2⟩,c3⟩,c4⟩,c5⟩:=hc;have c1:=Xj c1;have c5:=Nat.le_of_ble_eq_true c5;have hzc:=ZbQ c2;split at hs
     ·rename_i yb yo yn yc;split at hs
      ·rename_i nv hnv;obtain⟨n1,n2,n3,_⟩:=Zew E hnv;split at hs
       ·rename_i hone;simp only[Xh,Zk] at hone;obtain⟨hpos,hone⟩:=hone;have hl:(nv.map (mv1 m)).length=yn*i.size:=by simp [n1,c1]
        have my:mv m (.slice (some ⟨yb,yo,none⟩) yn yc)= .slice (some ⟨(m yb).1,yo,none⟩) yn (cap (m yb).2 yc):=rfl;rw[my];split at hs
        ·
         split at hs
         ·rename_i hb;have hb:=Nat.le_of_ble_eq_true hb;cases hs;have hby:yn*i.bytes≤281474976710656:=by
           have:yn*i.bytes≤1073741824*64:=Nat.mul_le_mul hb c5;omega
          have hr:=run_append_nil (P:=P) w ty rty e i z hu hi hz ⟨(m yb).1,yo,none⟩ yn (cap (m yb).2 yc) (nv.map (mv1 m)) hl n3 hpos (by omega) hby;have hge:=grownCap_ge w yn 0 e;have E':=E.drew.push nv (List.replicate (grownCap w yn 0 e-yn) z) e c4 n2 (k:=grownCap w yn 0 e) (by simp [n1];omega);rw[hzc,ZgL] at hr;refine⟨_,_,hr.trans ?_,⟨Z7 _ _ _,E',((Below.refl _ _).drew).alloc E.base _,Nat.le_succ _,?_⟩⟩
          ·have e1:mv (upd m h.n (w.drew.heap.size,grownCap w yn 0 e)) (.slice (some ⟨h.n,0,none⟩) yn grown)= .slice (some ⟨w.heap.size,0,none⟩) yn (grownCap w yn 0 e):=by
            simp only[mv,mv2,mv1,mvA,upd,if_pos,Zat];rfl
           rw[e1];simp only[List.append_toArray]
          ·simp [lt,lt2,lt1,Hp.push]
         ·cases hs
        ·rename_i b n c;split at hs
         ·rename_i hb;have hb:=Nat.le_of_ble_eq_true hb;have hby:(n+yn)*i.bytes≤140737488355328:=by
           have:(n+yn)*i.bytes≤1073741824*64:=Nat.mul_le_mul hb c5;omega
          have mx:mv m (.slice (some ⟨b,0,none⟩) n c)= .slice (some ⟨(m b).1,0,none⟩) n (cap (m b).2 c):=rfl;rw[mx];split at hs
          ·rename_i old xb hold hxb;obtain⟨o1,o2,o3,xb',hxb',otb,o4,o5⟩:=Zew E hold;obtain rfl:xb=xb':=Option.some.inj (hxb.symm.trans hxb');have lo:(old.map (mv1 m)).length=n*i.size:=by simp [o1,c1]
           have grow:∀ (h1:Hp),Emb m B h1 w→h1.n=h.n→cap (m b).2 c<n+yn→∃ m' w',(Builtin.append_ #[ty,ty] rty #[.slice (some ⟨(m b).1,0,none⟩) n (cap (m b).2 c),.slice (some ⟨(m yb).1,yo,none⟩) yn (cap (m yb).2 yc)]).run P w= .ok (mv m' (.slice (some ⟨h.n,0,none⟩) (n+yn) grown)) w'∧Came m B h w (.slice (some ⟨h.n,0,none⟩) (n+yn) grown) (h1.push (old++nv) e) m' w':=by
            intro h1 E1 hn hlt;have hr:=run_append_grow (P:=P) w ty rty e i z hu hi hz ⟨(m b).1,0,none⟩ n (cap (m b).2 c) (old.map (mv1 m)) lo o3 ⟨(m yb).1,yo,none⟩ yn (cap (m yb).2 yc) (nv.map (mv1 m)) hl n3 hlt (by omega) (growslice_fits hlt hby);have hge:=grownCap_ge w (n+yn) (cap (m b).2 c) e;have E':=E1.drew.push (old++nv) (List.replicate (grownCap w (n+yn) (cap (m b).2 c) e-(n+yn)) z) e c4 (fun u hu'=>by
             rw[hn];rcases List.mem_append.1 hu' with hu' | hu'
             ·exact o2 u hu'
             ·exact n2 u hu') (k:=grownCap w (n+yn) (cap (m b).2 c) e) (by simp [n1,o1];omega)
            rw[hzc,ZgL] at hr;rw[hn] at E';refine⟨_,_,hr.trans ?_,⟨Z7 _ _ _,E',((Below.refl _ _).drew).alloc E.base _,by show h.n≤h1.n+1;omega,?_⟩⟩
            ·have e1:mv (upd m h.n (w.drew.heap.size,grownCap w (n+yn) (cap (m b).2 c) e)) (.slice (some ⟨h.n,0,none⟩) (n+yn) grown)= .slice (some ⟨w.heap.size,0,none⟩) (n+yn) (grownCap w (n+yn) (cap (m b).2 c) e):=by
              simp only[mv,mv2,mv1,mvA,upd,if_pos,Zat];rfl
             rw[e1,List.map_append];simp only[List.append_toArray]
            ·simp [lt,lt2,lt1,Hp.push,hn]
           split at hs
           ·rename_i hsm;rw[ZF hsm] at*;split at hs
            ·rename_i hroom;have hroom:=Nat.le_of_ble_eq_true hroom;split at hs
             ·rename_i hq;simp only[Xh,Bool.not_eq_true'] at hq;obtain⟨⟨q1,q2⟩,q3⟩:=hq;have q2:=Xj q2;have q3:=Nat.le_of_ble_eq_true q3;cases hs;obtain⟨r,zz,l0,l1,l2⟩:=E.lies _ _ hxb (zo q1);have ert:rt xb.2=e:=by rw[ZdM q1,q2]
              rw[(l2 q1).1,(l2 q1).2] at l1;have l1':=l1;rw[ert] at l1;have hr:=run_append_room (P:=P) w ty rty e i hu hi (m b).1 n c _ l1 ⟨(m yb).1,yo,none⟩ yn (cap (m yb).2 yc) (nv.map (mv1 m)) hl n3 (Zex hone) hroom (by simp [c1,n1];omega);have esp:(xb.1.map (mv1 m)++r).take n++nv.map (mv1 m)++(xb.1.map (mv1 m)++r).drop (n+yn)=(xb.1.take n++nv++xb.1.drop (n+yn)).map (mv1 m)++r:=by
               rw[List.take_append_of_le_length (by simp;omega),List.drop_append_of_le_length (by simpa using q3)];simp
              have wf:=E.wf _ _ hxb;refine⟨m,_,hr.trans ?_,⟨Agree.refl _ _,E.put hxb q1 l1' (xb.1.take n++nv++xb.1.drop (n+yn)) r (fun u hu'=> ?_) (by simp [n1] at l0 ⊢;omega),zK (Below.refl _ _) (E.low _ _ hxb q1) _,by simp [Hp.put],?_⟩⟩
              ·simp only[c1,Nat.mul_one,List.length_map,n1,esp];congr 1;simp [mv,mv2,mv1,mvA,ZF hsm]
              ·simp only[List.mem_append] at hu';rcases hu' with (hu' | hu') | hu'
               ·exact wf u (List.mem_of_mem_take hu')
               ·exact n2 u hu'
               ·exact wf u (List.mem_of_mem_drop hu')
              ·simpa [lt,lt2,lt1,Hp.put] using hx
             ·cases hs
            ·rename_i hroom;cases hs;have hroom:¬ n+yn≤c:=fun hle=>by rw[Nat.ble_eq_true_of_le hle] at hroom;cases hroom
             exact grow h E rfl (by omega)
           ·split at hs
            ·rename_i hq;simp only[Xh,Bool.not_eq_true'] at hq;obtain⟨⟨q1,q2⟩,q3⟩:=hq;have q2:=Xj q2;have q3:=Xj q3;subst q3;cases hs;have hblt:=Hp.blk_lt hxb;have Eb:=E.bury hblt;by_cases hroom:n+yn≤(m b).2
             ·obtain⟨r,zz,l0,l1,l2⟩:=E.lies _ _ hxb (zo q1);have ert:rt xb.2=e:=by rw[ZdM q1,q2]
              rw[(l2 q1).1,(l2 q1).2,ert] at l1;rw[Zat];have hr:=run_append_room (P:=P) w ty rty e i hu hi (m b).1 n (m b).2 _ l1 ⟨(m yb).1,yo,none⟩ yn (cap (m yb).2 yc) (nv.map (mv1 m)) hl n3 (Zex hone) hroom (by simp [c1,n1] at l0 ⊢;omega);have other:∀ b' x',(h.put b ([],2*ZV)).blk? b'=some x'→ro x'.2=false→(m b').1≠(m b).1:=by
               intro b' x' hb' hx' heq;rw[Hp.blk_put E.len hblt] at hb';split at hb'
               ·cases hb';cases hx'
               ·rename_i hne;exact hne (E.inj _ _ _ _ hb' hxb hx' q1 heq)
              have special:∀ b' x',(h.put b ([],2*ZV)).blk? b'=some x'→spK x'.2=true→¬ fpt (m b').1 (x'.1.map (mv1 m)) x'.2 (m b).1:=by
               intro b' x' hb' hx';rw[Hp.blk_put E.len hblt] at hb';split at hb'
               ·cases hb';cases hx'
               ·exact E.apart hb' hx' hxb q1
              have Ew:=Eb.wild (E.low _ _ hxb q1) other special l1 ((List.take (n*i.size) (xb.1.map (mv1 m)++r).toArray.toList++nv.map (mv1 m)++List.drop (n*i.size+(nv.map (mv1 m)).length) (xb.1.map (mv1 m)++r).toArray.toList).toArray);have e0:(xb.1.map (mv1 m)++r).take n=old.map (mv1 m):=by
               rw[List.take_append_of_le_length (by simp;omega),o5];simp
              have Ea:=Ew.adopt (old++nv) e c4 (fun u hu'=>by
               rcases List.mem_append.1 hu' with hu' | hu'
               ·exact o2 u hu'
               ·exact n2 u hu') (k:=m b) ⟨(xb.1.map (mv1 m)++r).drop (n+yn),(e,0,0),by simp [n1,o1] at l0 ⊢;omega,by
                rw[setRow_heap w _ _ _ _ _ l1];simp [c1,n1,e0],fun _=>⟨(ZdM c4).symm,rfl⟩⟩ (E.low _ _ hxb q1) other special
              have e1:mv (upd m h.n (m b)) (.slice (some ⟨h.n,0,none⟩) (n+yn) grown)= .slice (some ⟨(m b).1,0,none⟩) (n+yn) (m b).2:=by
               simp only[mv,mv2,mv1,mvA,upd,if_pos,Zat]
              refine⟨upd m h.n (m b),_,hr.trans ?_,⟨Z7 _ _ _,Ea,zK (Below.refl _ _) (E.low _ _ hxb q1) _,Nat.le_succ _,?_⟩⟩
              ·rw[e1]
              ·show Nat.blt h.n (h.n+1)=true;exact Zk.2 (Nat.lt_succ_self _)
             ·exact grow _ Eb rfl (by rw[Zat];omega)
            ·cases hs
          ·cases hs
         ·cases hs
        ·cases hs
       ·cases hs
      ·cases hs
     ·cases hs
    ·cases hs
   ·cases hs
  ·cases hs
 ·cases hs
def Zjw:List Value→List (Nat×Value)→Option (List Value)
 | l,[]=>some l
 | l,(i,v)::ps=>if (Nat.blt i l.length && one v)=true then Zjw (l.set i v) ps else none
theorem ZdR:∀ (ps:List (Nat×Value)) (l l':List Value),Zjw l ps=some l'→Instr.fill (fun i=>some (i*1,1)) l.toArray ps=some l'.toArray∧l'.length=l.length
 | [],l,l',h=>by
  simp only[Zjw] at h;cases h;exact⟨rfl,rfl⟩
 | (i,v)::ps,l,l',h=>by
  simp only[Zjw] at h;split at h
  ·rename_i hc;simp only[Xh,Zk] at hc;obtain⟨h1,h2⟩:=ZdR ps _ _ h;refine⟨?_,by rw[h2];simp⟩;have e:v.cells= #[v]:=ZbQ hc.2;simp only[Instr.fill,e];have hi:i+1≤l.length:=by omega
   simp [hi];simpa using h1
  ·cases h
def Zjx (P:Program) (ty:TypeId) (n:Nat) (ps:List (Nat×Value)) (h:Hp):Option (Value×Hp):=
 match P.underlying ty with
 | some (.slice e)=>
  match P.info? e with
  | some i=>
   match i.zero with
   | some z=>
    if (Nat.beq i.size 1 && one z && lt 0 z && !(ro e) && Nat.ble n 1048576 && ps.all fun p=>lt 0 p.2)=true then
     match Zjw (List.replicate n z) ps with
     | some l=>if (l.all (lt1 0))=true then some (.slice (some ⟨h.n,0,none⟩) n n,h.push l e) else none
     | none=>none
    else none
   | none=>none
  | none=>none
 | _=>none
theorem Zia {m:Mp}{B:Nat}{P:Program}{ty:TypeId}{n:Nat}{ps:List (Nat×Value)}{v:Value}{h h':Hp}{w:World}(E:Emb m B h w) (hs:Zjx P ty n ps h=some (v,h')):
  (ps.all fun p=>lt 0 p.2)=true∧∃ m' w',(Instr.buildSlice ty n ps.toArray).run P w= .ok (mv m' v) w'∧Came m B h w v h' m' w':=by
 unfold Zjx at hs;split at hs
 ·rename_i e hu;split at hs
  ·rename_i i hi;split at hs
   ·rename_i z hz;split at hs
    ·rename_i hc;simp only[Xh,Bool.not_eq_true'] at hc;obtain⟨⟨⟨⟨⟨c1,c2⟩,c3⟩,c4⟩,c5⟩,c6⟩:=hc;have c1:=Xj c1;have c5:=Nat.le_of_ble_eq_true c5;split at hs
     ·rename_i l hl;split at hs
      ·rename_i hall;cases hs;refine⟨c6,?_⟩;obtain⟨f1,f2⟩:=ZdR _ _ _ hl;rw[List.length_replicate] at f2;have hall':∀ u∈l,lt1 0 u=true:=List.all_eq_true.1 hall;have e1:l.map (mv1 m)=l:=(List.map_congr_left fun u hu=>ZX (hall' u hu)).trans (List.map_id' _);have hr:(Instr.buildSlice ty n ps.toArray).run P w= .ok (.slice (some ⟨w.heap.size,0,none⟩) n n) (w.alloc (.cells l.toArray e (0,0))):=by
        have hbig:¬ (16777216<n):=by omega
        by_cases hn:n=0
        ·subst hn;have f1':Instr.fill (fun i=>some (i,1)) #[] ps=some l.toArray:=by simpa using f1
         simp [Instr.buildSlice,run_underlying hu,sizeOf,typeInfo,hi,c1,newRow,f1',Array.range_zero']
        ·have f1':Instr.fill (fun i=>some (i,1)) (List.replicate n z).toArray ps=some l.toArray:=by simpa using f1
         have hm':(Array.range n).map (fun x=>([z]:List Value)[x % 1]?.getD default)=(List.replicate n z).toArray:=by
          apply Array.ext';simp only[Array.toList_map,Array.toList_range];refine List.ext_getElem (by simp) fun j h1 h2=> ?_;simp [Nat.mod_one]
         simp [Instr.buildSlice,run_underlying hu,sizeOf,typeInfo,c1,zeroValue,hbig,hn,hi,hz,ZbQ c2,newRow];rw[hm',f1'];simp
       have E':=E.push l [] e c4 (fun u hu=>ZI (Nat.zero_le _) (hall' u hu)) (k:=n) (by simp [f2]);rw[List.append_nil,e1] at E';refine⟨upd m h.n (w.heap.size,n),_,hr.trans ?_,⟨Z7 _ _ _,E',(Below.refl _ _).alloc E.base _,Nat.le_succ _,?_⟩⟩
       ·have hs:ZW n=true:=Zk.2 (by unfold ZV;omega);simp only[mv,mv2,mv1,mvA,upd,if_pos,ZF hs]
       ·show Nat.blt h.n (h.n+1)=true;exact Zk.2 (Nat.lt_succ_self _)
      ·cases hs
     ·cases hs
    ·cases hs
   ·cases hs
  ·cases hs
 ·cases hs
def ZqB (P:Program) (ty:TypeId) (x y:Value) (h:Hp):Option (Value×Hp×Bool):=
 match P.underlying ty,x,y with
 | some (.slice e),.slice (some ⟨b,o,none⟩) dn _,.slice (some ⟨b',o',none⟩) sn _=>
  match (P.info? e).map (fun i=>i.size),h.blk? b,h.blk? b' with
  | some 1,some xb,some yb=>
   some (goInt (Nat.min sn dn),h.put b (xb.1.take o++(yb.1.drop o').take (Nat.min sn dn)++xb.1.drop (o+Nat.min sn dn),xb.2),
    !(Zam yb.2) && !(ro xb.2) && Nat.ble (o'+Nat.min sn dn) yb.1.length && Nat.ble (o+Nat.min sn dn) xb.1.length && ((yb.1.drop o').take (Nat.min sn dn)).all one)
  | _,_,_=>none
 | some (.slice e),.slice (some _) _ _,.slice none 0 0=>
  match P.info? e with
  | some _=>some (goInt 0,h,true)
  | none=>none
 | _,_,_=>none
theorem Zjy {m:Mp}{B:Nat}{P:Program}{ty ty' rty:TypeId}{x y v:Value}{h h':Hp}{w:World}{d:Bool}(E:Emb m B h w) (hs:ZqB P ty x y h=some (v,h',d)) (hd:d=true):
  ∃ w',(Builtin.copy_ #[ty,ty'] rty #[mv m x,mv m y]).run P w= .ok (mv m v) w'∧Came m B h w v h' m w':=by
 subst hd;unfold ZqB at hs;split at hs
 ·rename_i e b o dn dc b' o' sn sc hu;split at hs
  ·rename_i xb yb hi hxb hyb;simp only[Option.some.injEq,Prod.mk.injEq] at hs;obtain⟨rfl,rfl,hd⟩:=hs;simp only[Xh,Bool.not_eq_true'] at hd;obtain⟨⟨⟨⟨d1,d2⟩,d3⟩,d4⟩,d5⟩:=hd;have d3:=Nat.le_of_ble_eq_true d3;have d4:=Nat.le_of_ble_eq_true d4;generalize hk:Nat.min sn dn=k at*;obtain⟨r,zz,l0,l1,l2⟩:=E.lies _ _ hxb (zo d2);rw[(l2 d2).1,(l2 d2).2] at l1;have lc:((yb.1.drop o').take k).length=k:=by simp;omega
   have wy:=E.wf _ _ hyb;have wx:=E.wf _ _ hxb;have hr:=run_copy_row (P:=P) w ty ty' rty e (m b).1 o dn (cap (m b).2 dc) ⟨(m b').1,o',none⟩ sn (cap (m b').2 sc) _ (rt xb.2) (((yb.1.drop o').take k).map (mv1 m)) hu hi l1 (by rw[List.length_map,lc,hk]) (fun j u hj=>by
    rw[Zae];rw[List.getElem?_map,List.getElem?_take] at hj;split at hj
    ·rw[List.getElem?_drop] at hj;obtain⟨u',hu',rfl⟩:=Option.map_eq_some_iff.1 hj;exact Zas (E.lies _ _ hyb d1) hu'
    ·simp at hj) (by simp;omega) (Zex d5)
   have esp:(xb.1.map (mv1 m)++r).take o++((yb.1.drop o').take k).map (mv1 m)++(xb.1.map (mv1 m)++r).drop (o+k)=(xb.1.take o++(yb.1.drop o').take k++xb.1.drop (o+k)).map (mv1 m)++r:=by
    rw[List.take_append_of_le_length (by simp;omega),List.drop_append_of_le_length (by simpa using d4)];simp
   refine⟨_,hr.trans ?_,⟨Agree.refl _ _,E.put hxb d2 l1 (xb.1.take o++(yb.1.drop o').take k++xb.1.drop (o+k)) r (fun u hu'=> ?_) (by simp at l0 ⊢;omega),zK (Below.refl _ _) (E.low _ _ hxb d2) _,Nat.le_refl _,rfl⟩⟩
   ·simp only[List.length_map,lc,esp];rfl
   ·simp only[List.mem_append] at hu';rcases hu' with (hu' | hu') | hu'
    ·exact wx u (List.mem_of_mem_take hu')
    ·exact wy u (List.mem_of_mem_drop (List.mem_of_mem_take hu'))
    ·exact wx u (List.mem_of_mem_drop hu')
  ·cases hs
 ·rename_i e ad dn dc hu;split at hs
  ·rename_i i hi;simp only[Option.some.injEq,Prod.mk.injEq] at hs;obtain⟨rfl,rfl,_⟩:=hs;refine⟨w,?_,⟨Agree.refl _ _,E,Below.refl _ _,Nat.le_refl _,rfl⟩⟩;exact run_copy_nil (P:=P) (w:=w) (dT:=ty) (sT:=ty') (ty:=rty) (elem:=e) (a:=mvA m ad) (dLen:=dn) (dCap:=_) hu (by simp [hi])
  ·cases hs
 ·cases hs
def ZfU:Option Value→Int→Option Int
 | none,d=>some d
 | some (.int _ n),_=>some n
 | some _,_=>none
def Za8 (l h m c:Int):Bool:=decide (0≤l∧l≤h∧h≤m∧m≤c∧c<4611686018427387904)
def Zjz (P:Program) (ty:TypeId) (x:Value) (lo hi mx:Option Value) (h:Hp):Option (Value×Log):=
 match P.underlying ty,x with
 | some (.slice e),.slice (some ⟨b,o,none⟩) n c=>
  match P.info? e,h.blk? b,ZfU lo 0,ZfU hi n,ZW c with
  | some i,some _,some l,some t,true=>
   match ZfU mx c with
   | some k=>if (hi.isSome || !(mx.isSome))=true then some (.slice (some ⟨b,o+l.toNat*i.size,none⟩) (t.toNat-l.toNat) (k.toNat-l.toNat),[(Za8 l t k c,true),(decide (k=l∧l≠0),false)]) else none
   | none=>none
  | some i,some xb,some l,some t,false=>
   if Nat.beq c grown=true then
    match mx with
    | some (.int _ k)=>if hi.isSome=true then some (.slice (some ⟨b,o+l.toNat*i.size,none⟩) (t.toNat-l.toNat) (k.toNat-l.toNat),[(Za8 l t k n,true),(decide (k=l∧l≠0),false),(!(Zam xb.2) && Nat.ble n xb.1.length,true)]) else none
    | none=>if lo.isNone=true then some (.slice (some ⟨b,o,none⟩) t.toNat c,[(Za8 0 t n n,true),(!(Zam xb.2) && Nat.ble n xb.1.length,true)]) else none
    | _=>none
   else none
  | _,_,_,_,_=>none
 | _,_=>none
theorem Zdi {P:Program}{k:IntKind}{n:Int}{y:Nat}{code:BoundsCode}(h0:0≤n) (h1:n≤y) (w:World):(Instr.sliceBound (.int k n) y code).run P w= .ok n.toNat w:=by
 simp [Instr.sliceBound,asIntOf,h0,h1]
theorem Zcp {o:Option Value}{d n:Int}(h:ZfU o d=some n):(o=none∧n=d)∨∃ k,o=some (.int k n):=by
 cases o with
 | none=>simp only[ZfU,Option.some.injEq] at h;exact .inl ⟨rfl,h.symm⟩
 | some v=>
  cases v<;>simp only[ZfU] at h<;>first | (cases h;exact .inr ⟨_,rfl⟩) | cases h
set_option linter.unusedSimpArgs false in
theorem ZdS {P:Program}{len C:Nat}{lo hi mx:Option Value}{l t k:Int}(hl:ZfU lo 0=some l) (ht:ZfU hi len=some t) (hk:ZfU mx C=some k) (hh:(hi.isSome || !(mx.isSome))=true) (h0:0≤l) (h1:l≤t) (h2:t≤k) (h3:k≤C) (w:World):
  (Instr.sliceBounds true len C lo hi mx).run P w= .ok (l.toNat,t.toNat,k.toNat) w:=by
 have g1:∀ (kd:IntKind) (code:BoundsCode),(Instr.sliceBound (.int kd k) C code).run P w= .ok k.toNat w:=fun kd code=>Zdi (by omega) h3 w;have g2:∀ (kd:IntKind) (code:BoundsCode),(Instr.sliceBound (.int kd t) k.toNat code).run P w= .ok t.toNat w:=fun kd code=>Zdi (by omega) (by omega) w;have g3:∀ (kd:IntKind) (code:BoundsCode),(Instr.sliceBound (.int kd l) t.toNat code).run P w= .ok l.toNat w:=fun kd code=>Zdi h0 (by omega) w;rcases Zcp hl with ⟨rfl,rfl⟩ | ⟨kl,rfl⟩<;>rcases Zcp ht with ⟨rfl,rfl⟩ | ⟨kt,rfl⟩<;>rcases Zcp hk with ⟨rfl,rfl⟩ | ⟨kk,rfl⟩<;>first
  | (simp at hh;done)
  | (simp [Instr.sliceBounds,g1,g2,g3];done)
  | (simp only[Xg] at g2 g3;simp [Instr.sliceBounds,g2,g3];done)
  | (simp only[Xg] at g2;simp [Instr.sliceBounds,g2,g3];done)
  | (simp only[Xg] at g3;simp [Instr.sliceBounds,g3];done)
theorem Zj0 {m:Mp}{B:Nat}{P:Program}{ty:TypeId}{x v:Value}{lo hi mx:Option Value}{h:Hp}{w:World}{lg:Log}(E:Emb m B h w) (hx:lt h.n x=true) (hs:Zjz P ty x lo hi mx h=some (v,lg)) (hlg:Zx lg):
  (Instr.sliceAt ty (mv m x) lo hi mx).run P w= .ok (mv m v) w∧lt h.n v=true:=by
 unfold Zjz at hs;split at hs
 ·rename_i e b o n c hu;have key:∀ (i:TypeInfo) (l t k:Int) (C:Nat),P.info? e=some i→ZfU lo 0=some l→ZfU hi n=some t→ZfU mx C=some k→(hi.isSome || !(mx.isSome))=true→0≤l→l≤t→t≤k→k≤C→¬ (k=l∧l≠0)→
    (Instr.sliceAt ty (.slice (some ⟨(m b).1,o,none⟩) n C) lo hi mx).run P w= .ok (.slice (some ⟨(m b).1,o+l.toNat*i.size,none⟩) (t.toNat-l.toNat) (k.toNat-l.toNat)) w:=by
   intro i l t k C hi' h1 h2 h3 h4 h5 h6 h7 h8 h9;have hb:=ZdS (P:=P) h1 h2 h3 h4 h5 h6 h7 h8 w;simp only[Instr.sliceAt,Instr.slice,underlying,Sem.run_bind,run_program,Result.andThen_ok,hu,Sem.run_pure,hb,sizeOf,typeInfo,hi'];by_cases hkl:k.toNat=l.toNat
   ·have:l=0:=by
     rcases Int.lt_or_le 0 l with hh | hh
     ·exact absurd ⟨by omega,by omega⟩ h9
     ·omega
    subst this;simp [hkl]
   ·simp [hkl,Zae]
  split at hs
  ·rename_i i xb l t hi' hxb hl ht hc;split at hs
   ·rename_i k hk;split at hs
    ·rename_i hh;cases hs;have g1:=hlg _ (Xe);have g2:=hlg _ (Xd _ Xf);simp only[Za8,Xi,decide_eq_false_iff_not] at g1 g2;obtain⟨a1,a2,a3,a4,a5⟩:=g1;have hr:=key i l t k c hi' hl ht hk hh a1 a2 a3 a4 g2;have hsm:ZW (k.toNat-l.toNat)=true:=Zk.2 (by unfold ZV;omega);refine⟨?_,by simpa [lt,lt2,lt1] using hx⟩;simp only[mv,mv2,mv1,mvA,ZF hc,ZF hsm];exact hr
    ·cases hs
   ·cases hs
  ·rename_i i xb l t hi' hxb hl ht hc;split at hs
   ·rename_i hg;have hg:=Xj hg;subst hg;have room:(!(Zam xb.2) && Nat.ble n xb.1.length)=true→n≤(m b).2:=fun hq=>by
     simp only[Xh,Bool.not_eq_true'] at hq;obtain⟨r,zz,l0,_,_⟩:=E.lies _ _ hxb hq.1;have:=Nat.le_of_ble_eq_true hq.2;simp at l0;omega
    split at hs
    ·rename_i kk k;split at hs
     ·rename_i hh;cases hs;have g1:=hlg _ (Xe);have g2:=hlg _ (Xd _ Xe);have g3:=hlg _ (Xd _ (Xd _ Xf));simp only[Za8,Xi,decide_eq_false_iff_not] at g1 g2;obtain⟨a1,a2,a3,a4,a5⟩:=g1;have hn:=room g3;have hr:=key i l t k (m b).2 hi' hl ht rfl (by simp [hh]) a1 a2 a3 (by omega) g2;have hsm:ZW (k.toNat-l.toNat)=true:=Zk.2 (by unfold ZV;omega);refine⟨?_,by simpa [lt,lt2,lt1] using hx⟩;simp only[mv,mv2,mv1,mvA,Zat,ZF hsm];exact hr
     ·cases hs
    ·split at hs
     ·rename_i hlo;cases hs;have g1:=hlg _ (Xe);have g3:=hlg _ (Xd _ Xf);simp only[Za8,Xi] at g1;obtain⟨a1,a2,a3,a4,a5⟩:=g1;have hn:=room g3;have hlo':lo=none:=by cases lo<;>simp_all
      subst hlo';simp only[ZfU,Option.some.injEq] at hl;subst hl;have hr:=key i 0 t (m b).2 (m b).2 hi' rfl ht rfl (by simp) (by omega) (by omega) (by omega) (by omega) (by omega);refine⟨?_,by simpa [lt,lt2,lt1] using hx⟩;simp only[mv,mv2,mv1,mvA,Zat];simpa using hr
     ·cases hs
    ·cases hs
   ·cases hs
  ·cases hs
 ·cases hs
def ZqC (P:Program) (ty:TypeId) (x:Value) (lo hi mx:Option Value):Option (Value×Log):=
 match P.underlying ty,x with
 | some (.slice e),.slice (some ⟨b,o,none⟩) n c=>
  match P.info? e,ZfU lo 0,ZfU hi n,ZfU mx c with
  | some i,some l,some t,some k=>
   if (hi.isSome || !(mx.isSome))=true then some (.slice (some ⟨b,o+l.toNat*i.size,none⟩) (t.toNat-l.toNat) (k.toNat-l.toNat),[(ZW c,true),(Za8 l t k c,true),(decide (k=l∧l≠0),false)]) else none
  | _,_,_,_=>none
 | _,_=>none
theorem Zj1 {m:Mp}{P:Program}{ty:TypeId}{x v:Value}{lo hi mx:Option Value}{N:Nat}{w:World}{lg:Log}(hx:lt N x=true) (hs:ZqC P ty x lo hi mx=some (v,lg)) (hlg:Zx lg):
  (Instr.sliceAt ty (mv m x) lo hi mx).run P w= .ok (mv m v) w∧lt N v=true:=by
 unfold ZqC at hs;split at hs
 ·rename_i e b o n c hu;split at hs
  ·rename_i i l t k hi' hl ht hk;split at hs
   ·rename_i hh;cases hs;have g0:=hlg _ (Xe);have g1:=hlg _ (Xd _ Xe);have g2:=hlg _ (Xd _ (Xd _ Xf));simp only[Za8,Xi,decide_eq_false_iff_not] at g1 g2;simp only at g0;obtain⟨a1,a2,a3,a4,a5⟩:=g1;have hb:=ZdS (P:=P) hl ht hk hh a1 a2 a3 a4 w;have hsm:ZW (k.toNat-l.toNat)=true:=Zk.2 (by unfold ZV;omega);refine⟨?_,by simpa [lt,lt2,lt1] using hx⟩;simp only[mv,mv2,mv1,mvA,ZF g0,ZF hsm];simp only[Instr.sliceAt,Instr.slice,underlying,Sem.run_bind,run_program,Result.andThen_ok,hu,Sem.run_pure,hb,sizeOf,typeInfo,hi'];by_cases hkl:k.toNat=l.toNat
    ·have:l=0:=by
      rcases Int.lt_or_le 0 l with hh' | hh'
      ·exact absurd ⟨by omega,by omega⟩ g2
      ·omega
     subst this;simp [hkl]
    ·simp [hkl,Zae]
   ·cases hs
  ·cases hs
 ·cases hs
def ZdT:List Value→Option (List Int)
 | []=>some []
 | .int .u8 n::r=>
  match ZdT r with
  | some l=>some (n::l)
  | none=>none
 | _=>none
theorem Zdj:∀ (l:List Value) (ns:List Int),ZdT l=some ns→l=ns.map (Value.int .u8)
 | [],ns,h=>by simp only[ZdT] at h;cases h;rfl
 | v::r,ns,h=>by
  unfold ZdT at h;split at h
  ·rename_i heq;cases heq
  ·rename_i n r' heq;cases heq;split at h
   ·rename_i l hl;cases h;rw[Zdj _ _ hl];rfl
   ·cases h
  ·cases h
theorem ZmF (ns:List Int):∀ r:ByteArray,ns.foldl (fun r n=>r.push (UInt8.ofNat n.toNat)) r=⟨(r.data.toList++ns.map fun n=>UInt8.ofNat n.toNat).toArray⟩:=by
 induction ns with
 | nil=>intro r;simp
 | cons n ns ih=>
  intro r;rw[List.foldl_cons,ih];simp [ByteArray.push]
def Zj2 (P:Program) (src dst:TypeId) (x:Value) (h:Hp):Option Value:=
 match P.underlying src,P.underlying dst,x with
 | some (.slice e),some .string,.slice (some ⟨_,_,none⟩) _ _=>
  match P.underlying e,rdS h x with
  | some (.int .u8),some l=>
   match ZdT l with
   | some ns=>some (.string ⟨(ns.map fun n=>UInt8.ofNat n.toNat).toArray⟩)
   | none=>none
  | _,_=>none
 | _,_,_=>none
theorem Zfk {m:Mp}{B:Nat}{P:Program}{src dst:TypeId}{x v:Value}{h:Hp}{w:World}(E:Emb m B h w) (hs:Zj2 P src dst x h=some v):(convert src dst (mv m x)).run P w= .ok (mv m v) w∧lt h.n v=true:=by
 unfold Zj2 at hs;split at hs
 ·rename_i e b o n c hu hd;split at hs
  ·rename_i l he hl;split at hs
   ·rename_i ns hns;cases hs;refine⟨?_,rfl⟩;obtain⟨l1,l2,l3,_⟩:=Zew E hl;have e1:=Zdj _ _ hns;subst e1;have e2:(ns.map (Value.int .u8)).map (mv1 m)=ns.map (Value.int .u8):=by rw[List.map_map];rfl
    rw[e2] at l3;have hld:=run_loadCells_list (P:=P) w ⟨(m b).1,o,none⟩ (ns.map (Value.int .u8)) l3;rw[l1] at hld;have hr:=run_bytesToString (P:=P) w ⟨(m b).1,o,none⟩ n (cap (m b).2 c) ns hld;rw[ZmF] at hr;have mx:mv m (.slice (some ⟨b,o,none⟩) n c)= .slice (some ⟨(m b).1,o,none⟩) n (cap (m b).2 c):=rfl;rw[mx];simp only[convert,Sem.run_bind,run_underlying hu,run_underlying hd,run_underlying he,Result.andThen_ok];rw[hr];rfl
   ·cases hs
  ·cases hs
 ·cases hs
def Z2w (P:Program) (ty:TypeId) (x y:Value):Option Value:=
 match y with
 | .slice _ 0 _=>
  match P.underlying ty with
  | some (.slice e)=>
   match P.info? e with
   | some _=>
    match x with
    | .slice p n c=>if (ZW c && Nat.ble n c)=true then some (.slice p n c) else none
    | _=>none
   | none=>none
  | _=>none
 | _=>none
def ZyJ (P:Program) (ty:TypeId) (x y:Value) (h:Hp):Option (Value×Hp):=
 match Z2w P ty x y with
 | some v=>some (v,h)
 | none=>Zjv P ty x y h
theorem Zdk {P:Program}(w:World) (t ty e:TypeId) (i:TypeInfo) (ht:P.underlying t=some (.slice e)) (hi:P.info? e=some i) (base:Option Addr) (sLen sCap:Nat) (hle:sLen≤sCap) (x:Value) (hs:Src P i.size t x 0 [] w):
  (Builtin.append_ #[t,t] ty #[.slice base sLen sCap,x]).run P w= .ok (.slice base sLen sCap) w:=by
 cases base<;>simp [Builtin.append_,run_underlying ht,sizeOf,typeInfo,hi,hs.len,hle,hs.cells,storeCells]
theorem ZmG {m:Mp}{B:Nat}{P:Program}{ty rty:TypeId}{x y v:Value}{h h':Hp}{w:World}(E:Emb m B h w) (hx:lt h.n x=true) (hs:ZyJ P ty x y h=some (v,h')):
  ∃ m' w',(Builtin.append_ #[ty,ty] rty #[mv m x,mv m y]).run P w= .ok (mv m' v) w'∧Came m B h w v h' m' w':=by
 unfold ZyJ at hs;split at hs
 ·rename_i u hu;cases hs;unfold Z2w at hu;split at hu
  ·rename_i yp yc;split at hu
   ·rename_i e he;split at hu
    ·rename_i i hi;split at hu
     ·rename_i p n c;split at hu
      ·rename_i hc;cases hu;simp only[Xh] at hc;have hle:=Nat.le_of_ble_eq_true hc.2;refine⟨m,w,?_,⟨Agree.refl _ _,E,Below.refl _ _,Nat.le_refl _,hx⟩⟩;have src:Src P i.size ty (mv m (.slice yp 0 yc)) 0 [] w:=by
        cases yp with
        | none=>exact Src.ofNil w he yc
        | some a=>exact Src.ofSlice w he _ 0 _ [] (by simp) (fun j u hj=>by simp at hj) (fun u hu=>by cases hu)
       cases p with
       | none=>exact Zdk w ty rty e i he hi none n c hle _ src
       | some a=>
        have e1:mv m (.slice (some a) n c)= .slice (some (mvA m a)) n c:=by simp only[mv,mv2,mv1,ZF hc.1]
        rw[e1];exact Zdk w ty rty e i he hi (some (mvA m a)) n c hle _ src
      ·cases hu
     ·cases hu
    ·cases hu
   ·cases hu
  ·cases hu
 ·exact ZgM E hx hs
def zQ (e:TypeId) (xb yb:List Value×TypeId) (n yo yn:Nat):Bool:=
 Nat.beq n xb.1.length && Nat.ble (n+yn) 1073741824 && !(Zam xb.2) && !(ro xb.2) && Nat.beq xb.2 e && !(Zam yb.2) && Nat.ble (yo+yn) yb.1.length && Nat.blt 0 yn && ((yb.1.drop yo).take yn).all one
def Zp6 (yb:List Value×TypeId) (yo yn:Nat):Bool:=
 !(Zam yb.2) && Nat.ble (yo+yn) yb.1.length && Nat.blt 0 yn && ((yb.1.drop yo).take yn).all one && Nat.ble yn 1073741824
def Zzf (P:Program) (ty:TypeId) (x y:Value) (h:Hp):Option (Value×Hp×Log):=
 match P.underlying ty with
 | some (.slice e)=>
  match P.info? e with
  | some i=>
   match i.zero with
   | some z=>
    if (Nat.beq i.size 1 && one z && lt 0 z && !(ro e) && Nat.ble i.bytes 64)=true then
     match x,y with
     | .slice (some ⟨b,0,none⟩) n c,.slice (some ⟨yb,yo,none⟩) yn _=>
      match h.blk? b,h.blk? yb with
      | some xb,some yb=>if Nat.beq c grown=true then some (.slice (some ⟨h.n,0,none⟩) (n+yn) grown,(h.put b ([],2*ZV)).push (xb.1++(yb.1.drop yo).take yn) e,[(zQ e xb yb n yo yn,true)]) else none
      | _,_=>none
     | .slice none 0 0,.slice (some ⟨yb,yo,none⟩) yn _=>
      match h.blk? yb with
      | some yb=>some (.slice (some ⟨h.n,0,none⟩) yn grown,h.push ((yb.1.drop yo).take yn) e,[(Zp6 yb yo yn,true)])
      | none=>none
     | _,_=>none
    else none
   | none=>none
  | none=>none
 | _=>none
theorem ZuD {P:Program}{ty:TypeId}{x y v:Value}{h h':Hp}{lg:Log}(hs:Zzf P ty x y h=some (v,h',lg)) (hl:Zx lg):Zjv P ty x y h=some (v,h'):=by
 unfold Zzf at hs;split at hs
 ·rename_i e hu;split at hs
  ·rename_i i hi;split at hs
   ·rename_i z hz;split at hs
    ·rename_i hc;split at hs
     ·rename_i b n c yb yo yn yc;split at hs
      ·rename_i xb yb' hxb hyb;split at hs
       ·rename_i hg;cases hs;have h1:=hl _ Xf;simp only[zQ,Xh,Bool.not_eq_true'] at h1;obtain⟨⟨⟨⟨⟨⟨⟨⟨q1,q2⟩,q3⟩,q4⟩,q5⟩,q6⟩,q7⟩,q8⟩,q9⟩:=h1;have q1':=Xj q1;have hg':=Xj hg;have hsm:ZW c=false:=by rw[hg'];rfl
        have r1:rdS h (.slice (some ⟨yb,yo,none⟩) yn yc)=some ((yb'.1.drop yo).take yn):=by
         simp [rdS,hyb,q6,Nat.le_of_ble_eq_true q7]
        have r2:rdS h (.slice (some ⟨b,0,none⟩) n c)=some xb.1:=by
         simp [rdS,hxb,q3,q1']
        unfold Zjv;simp only[hu,hi,hz,hc,if_true,r1,r2,hxb,q8,q9,Bool.and_self,q2,hsm,q4,q5,hg,Bool.not_false]
       ·cases hs
      ·cases hs
     ·rename_i yb yo yn yc;split at hs
      ·rename_i yb' hyb;cases hs;have h1:=hl _ Xf;simp only[Zp6,Xh,Bool.not_eq_true'] at h1;obtain⟨⟨⟨⟨q6,q7⟩,q8⟩,q9⟩,q2⟩:=h1;have r1:rdS h (.slice (some ⟨yb,yo,none⟩) yn yc)=some ((yb'.1.drop yo).take yn):=by
        simp [rdS,hyb,q6,Nat.le_of_ble_eq_true q7]
       unfold Zjv;simp only[hu,hi,hz,hc,if_true,r1,q8,q9,Bool.and_self,q2]
      ·cases hs
     ·cases hs
    ·cases hs
   ·cases hs
  ·cases hs
 ·cases hs
def Zc7 (xb yb:List Value×TypeId) (n c yo yn:Nat):Bool:=
 Nat.beq n xb.1.length && Nat.ble (n+yn) 1073741824 && !(Zam xb.2) && ZW c && !(Nat.ble (n+yn) c) && !(Zam yb.2) && Nat.ble (yo+yn) yb.1.length && Nat.blt 0 yn && ((yb.1.drop yo).take yn).all one
def Zzg (P:Program) (ty:TypeId) (x y:Value) (h:Hp):Option (Value×Hp×Log):=
 match P.underlying ty with
 | some (.slice e)=>
  match P.info? e with
  | some i=>
   match i.zero with
   | some z=>
    if (Nat.beq i.size 1 && one z && lt 0 z && !(ro e) && Nat.ble i.bytes 64)=true then
     match x,y with
     | .slice (some ⟨b,0,none⟩) n c,.slice (some ⟨yb,yo,none⟩) yn _=>
      match h.blk? b,h.blk? yb with
      | some xb,some yb=>some (.slice (some ⟨h.n,0,none⟩) (n+yn) grown,h.push (xb.1++(yb.1.drop yo).take yn) e,[(Zc7 xb yb n c yo yn,true)])
      | _,_=>none
     | _,_=>none
    else none
   | none=>none
  | none=>none
 | _=>none
theorem ZuE {P:Program}{ty:TypeId}{x y v:Value}{h h':Hp}{lg:Log}(hs:Zzg P ty x y h=some (v,h',lg)) (hl:Zx lg):Zjv P ty x y h=some (v,h'):=by
 unfold Zzg at hs;split at hs
 ·rename_i e hu;split at hs
  ·rename_i i hi;split at hs
   ·rename_i z hz;split at hs
    ·rename_i hc;split at hs
     ·rename_i b n c yb yo yn yc;split at hs
      ·rename_i xb yb' hxb hyb;cases hs;have h1:=hl _ Xf;simp only[Zc7,Xh,Bool.not_eq_true'] at h1;obtain⟨⟨⟨⟨⟨⟨⟨⟨q1,q2⟩,q3⟩,q4⟩,q5⟩,q6⟩,q7⟩,q8⟩,q9⟩:=h1;have q1':=Xj q1;have r1:rdS h (.slice (some ⟨yb,yo,none⟩) yn yc)=some ((yb'.1.drop yo).take yn):=by
        simp [rdS,hyb,q6,Nat.le_of_ble_eq_true q7]
       have r2:rdS h (.slice (some ⟨b,0,none⟩) n c)=some xb.1:=by
        simp [rdS,hxb,q3,q1']
       unfold Zjv;simp only[hu,hi,hz,hc,if_true,r1,r2,hxb,q8,q9,Bool.and_self,q2,q4,q5]
      ·cases hs
     ·cases hs
    ·cases hs
   ·cases hs
  ·cases hs
 ·cases hs
def Zp7 (e:TypeId) (xb yb:List Value×TypeId) (n c yo yn:Nat):Bool:=
 Nat.ble (n+yn) xb.1.length && Nat.ble (n+yn) 1073741824 && !(Zam xb.2) && ZW c && Nat.ble (n+yn) c && !(ro xb.2) && Nat.beq xb.2 e && !(Zam yb.2) && Nat.ble (yo+yn) yb.1.length && Nat.blt 0 yn && ((yb.1.drop yo).take yn).all one
def Zzh (P:Program) (ty:TypeId) (x y:Value) (h:Hp):Option (Value×Hp×Log):=
 match P.underlying ty with
 | some (.slice e)=>
  match P.info? e with
  | some i=>
   match i.zero with
   | some z=>
    if (Nat.beq i.size 1 && one z && lt 0 z && !(ro e) && Nat.ble i.bytes 64)=true then
     match x,y with
     | .slice (some ⟨b,0,none⟩) n c,.slice (some ⟨yb,yo,none⟩) yn _=>
      match h.blk? b,h.blk? yb with
      | some xb,some yb=>some (.slice (some ⟨b,0,none⟩) (n+yn) c,h.put b (xb.1.take n++(yb.1.drop yo).take yn++xb.1.drop (n+yn),xb.2),[(Zp7 e xb yb n c yo yn,true)])
      | _,_=>none
     | _,_=>none
    else none
   | none=>none
  | none=>none
 | _=>none
theorem ZuF {P:Program}{ty:TypeId}{x y v:Value}{h h':Hp}{lg:Log}(hs:Zzh P ty x y h=some (v,h',lg)) (hl:Zx lg):Zjv P ty x y h=some (v,h'):=by
 unfold Zzh at hs;split at hs
 ·rename_i e hu;split at hs
  ·rename_i i hi;split at hs
   ·rename_i z hz;split at hs
    ·rename_i hc;split at hs
     ·rename_i b n c yb yo yn yc;split at hs
      ·rename_i xb yb' hxb hyb;cases hs;have h1:=hl _ Xf;simp only[Zp7,Xh,Bool.not_eq_true'] at h1;obtain⟨⟨⟨⟨⟨⟨⟨⟨⟨⟨q0,q2⟩,q3⟩,q4⟩,q5⟩,qr⟩,qe⟩,q6⟩,q7⟩,q8⟩,q9⟩:=h1;have q0':=Nat.le_of_ble_eq_true q0;have r1:rdS h (.slice (some ⟨yb,yo,none⟩) yn yc)=some ((yb'.1.drop yo).take yn):=by
        simp [rdS,hyb,q6,Nat.le_of_ble_eq_true q7]
       have r2:rdS h (.slice (some ⟨b,0,none⟩) n c)=some (xb.1.take n):=by
        simp [rdS,hxb,q3];omega
       unfold Zjv;simp only[hu,hi,hz,hc,if_true,r1,r2,hxb,q8,q9,Bool.and_self,q2,q4,q5,qr,qe,q0,Bool.not_false]
      ·cases hs
     ·cases hs
    ·cases hs
   ·cases hs
  ·cases hs
 ·cases hs
def Zp8 (xb:List Value×TypeId) (o n:Nat) (b:ByteArray):Bool:=
 !(Zam xb.2) && Nat.ble (o+n) xb.1.length && (match ZdT ((xb.1.drop o).take n) with | some ns=>decide (ns.map (fun n=>UInt8.ofNat n.toNat)=b.data.toList) | none=>false)
def ZqD (P:Program) (src dst:TypeId) (x:Value) (h:Hp) (b:ByteArray):Option Log:=
 match P.underlying src,P.underlying dst,x with
 | some (.slice e),some .string,.slice (some ⟨bk,o,none⟩) n _=>
  match P.underlying e,h.blk? bk with
  | some (.int .u8),some xb=>some [(Zp8 xb o n b,true)]
  | _,_=>none
 | _,_,_=>none
theorem ZqE {P:Program}{src dst:TypeId}{x:Value}{h:Hp}{b:ByteArray}{lg:Log}(hs:ZqD P src dst x h b=some lg) (hl:Zx lg):Zj2 P src dst x h=some (.string b):=by
 unfold ZqD at hs;split at hs
 ·rename_i e bk o n c hu hd;split at hs
  ·rename_i xb he hb;cases hs;have h1:=hl _ Xf;simp only[Zp8,Xh,Bool.not_eq_true'] at h1;obtain⟨⟨q1,q2⟩,q3⟩:=h1;have r1:rdS h (.slice (some ⟨bk,o,none⟩) n c)=some ((xb.1.drop o).take n):=by
    simp [rdS,hb,q1,Nat.le_of_ble_eq_true q2]
   unfold Zj2;simp only[hu,hd,he,r1];split at q3
   ·rename_i ns hns;have q3:=Xc q3;rw[q3]
   ·cases q3
  ·cases hs
 ·cases hs
def ZuG:List Dec→Bool
 | .inr (.inr (.inl _))::_=>true
 | _=>false
def ZyK:List Dec→Bool
 | .inr (.inr (.inr (.inr (.inl _))))::_=>true
 | _=>false
def ZqF:List Dec→Bool
 | .inr (.inl _)::_=>true
 | _=>false
def ZqG (P:Program) (t:List Value) (h:Hp) (s:List Dec) (o:Oper):Zdh:=
 match o.op with
 | .makeSlice ty l c=>if (okX l && okX c)=true then ZuC P ty (ev t l) (ev t c) h s else none
 | .buildSlice ty n zb=>
  if (zb.toList.all fun p=>okX p.2)=true then
   match Zjx P ty n (zb.toList.map fun p=>(p.1,ev t p.2)) h with
   | some r=>some (r.1,r.2,s,[])
   | none=>none
  else none
 | .slice ty x lo hi mx=>
  if (okX x && Zc6 lo t && Zc6 hi t && Zc6 mx t)=true then
   match ev t x with
   | .slice (some _) _ c=>
    match ZqF s with
    | true=>
     match ZqC P ty (ev t x) (lo.map (ev t)) (hi.map (ev t)) (mx.map (ev t)) with
     | some r=>some (r.1,h,s.tail,r.2)
     | none=>none
    | false=>
    match ZyK s with
    | true=>
     match Zjz P ty (ev t x) (lo.map (ev t)) (hi.map (ev t)) (mx.map (ev t)) h with
     | some r=>some (r.1,h,s.tail,r.2)
     | none=>none
    | false=>
     match ZW c with
     | true=>none
     | false=>
      match Zjz P ty (ev t x) (lo.map (ev t)) (hi.map (ev t)) (mx.map (ev t)) h with
      | some r=>if (r.2.all fun p=>p.1==p.2)=true then some (r.1,h,s,[]) else none
      | none=>none
   | _=>none
  else none
 | .call c=>
  match c.callee,c.args.toList,c.argTypes.toList with
  | .builtin .append,[x,y],[ty,ty']=>
   if (okX x && okX y && Nat.beq ty ty')=true then
    match ZqF s with
    | true=>
     match Zzg P ty (ev t x) (ev t y) h with
     | some r=>some (r.1,r.2.1,s.tail,r.2.2)
     | none=>none
    | false=>
    match ZuG s with
    | true=>
     match Zzh P ty (ev t x) (ev t y) h with
     | some r=>some (r.1,r.2.1,s.tail,r.2.2)
     | none=>none
    | false=>
    match ZyK s with
    | true=>
     match Zzf P ty (ev t x) (ev t y) h with
     | some r=>some (r.1,r.2.1,s.tail,r.2.2)
     | none=>none
    | false=>
    match ZyJ P ty (ev t x) (ev t y) h with
    | some r=>some (r.1,r.2,s,[])
    | none=>none
   else none
  | .builtin .copy,[x,y],[ty,_]=>
   if (okX x && okX y)=true then
    match ZqB P ty (ev t x) (ev t y) h with
    | some r=>
     match ZyK s with
     | true=>some (r.1,r.2.1,s.tail,[(r.2.2,true)])
     | false=>if r.2.2=true then some (r.1,r.2.1,s,[]) else none
    | none=>none
   else none
  | _,_,_=>none
 | .convert src dst x=>
  if okX x=true then
   match s with
   | .inr (.inr (.inr (.inr (.inr (.string b)))))::s'=>
    match ZqD P src dst (ev t x) h b with
    | some lg=>some (.string b,h,s',lg)
    | none=>none
   | _=>
    match Zj2 P src dst (ev t x) h with
    | some v=>some (v,h,s,[])
    | none=>none
  else none
 | _=>none
theorem ZmH {P:Program}{m:Mp}{B:Nat}{t:List Value}{h h':Hp}{s s':List Dec}{lg:Log}{w:World}{a:Act}{o:Oper}{v:Value}
  (ha:a.tmps=(t.map (mv m)).toArray) (E:Emb m B h w) (ht:∀ v∈t,lt h.n v=true) (hs:ZqG P t h s o=some (v,h',s',lg)) (hlg:Zx lg):Does P m B h w a o v h':=by
 unfold ZqG at hs;split at hs
 ·
  rename_i ty l c ho;split at hs
  ·rename_i hx;simp only[Xh] at hx;unfold ZuC at hs;split at hs
   ·rename_i e kl ln kc cp hu el ec;split at hs
    ·rename_i i hi;split at hs
     ·rename_i z hz;split at hs
      ·rename_i hc;simp only[Xh,Bool.not_eq_true'] at hc;obtain⟨⟨⟨c1,c2⟩,c3⟩,c4⟩:=hc;have c1:=Xj c1;have done:ZgK i.bytes ln cp→Does P m B h w a o (.slice (some ⟨h.n,0,none⟩) ln.toNat cp.toNat) (h.push (List.replicate cp.toNat z) e):=fun hk=>by
        obtain⟨hr,C⟩:=Zju (kl:=kl) (kc:=kc) E hu hi hz c1 c2 c3 c4 hk;refine⟨_,_,_,?_,.inl rfl,C⟩;have hsm:ZW cp.toNat=true:=Zk.2 (by have:=hk.2.2.1;unfold ZV;omega);have e1:mv (upd m h.n (w.heap.size,cp.toNat)) (.slice (some ⟨h.n,0,none⟩) ln.toNat cp.toNat)= .slice (some ⟨w.heap.size,0,none⟩) ln.toNat cp.toNat:=by
         simp only[mv,mv2,mv1,mvA,upd,if_pos,ZF hsm]
        rw[e1];have el':a.eval l= .int kl ln:=by rw[Zr ha hx.1,el];rfl
        have ec':a.eval c= .int kc cp:=by rw[Zr ha hx.2,ec];rfl
        simp only[execOp,ho,el',ec',Sem.run_bind,hr,Result.andThen_ok,Sem.run_pure]
       split at hs
       ·cases hs;have g:=hlg _ Xf;simp only[zf,Xi] at g;exact done g
       ·split at hs
        ·rename_i g;cases hs;simp only[zf,Xi] at g;exact done g
        ·cases hs
      ·cases hs
     ·cases hs
    ·cases hs
   ·cases hs
  ·cases hs
 ·
  rename_i ty n zb ho;split at hs
  ·rename_i hall;simp only[List.all_eq_true] at hall;split at hs
   ·rename_i r hr;cases hs;obtain⟨hz,m',w',h1,h2⟩:=Zia (v:=r.1) (h':=r.2) E hr;refine⟨m',w',_,?_,.inl rfl,h2⟩;have e:(zb.map fun p=>(p.1,a.eval p.2))=(zb.toList.map fun p=>(p.1,ev t p.2)).toArray:=by
     have:(zb.map fun p=>(p.1,a.eval p.2))=(zb.map fun p=>(p.1,ev t p.2)):=Array.map_congr_left fun p hp=>by
      have h3:=List.all_eq_true.1 hz (p.1,ev t p.2) (List.mem_map.2 ⟨p,by simpa using hp,rfl⟩);rw[Zr ha (hall p (by simpa using hp)),Z9 h3]
     rw[this];cases zb;simp
    simp only[execOp,ho,Sem.run_bind,Sem.run_pure];rw[← e] at h1;simp only[h1,Result.andThen_ok]
   ·cases hs
  ·cases hs
 ·
  rename_i ty x lo hi mx ho;split at hs
  ·rename_i hx;simp only[Xh] at hx;obtain⟨⟨⟨hx,hlo⟩,hhi⟩,hmx⟩:=hx;have done:∀ r:Value×Log,Zjz P ty (ev t x) (lo.map (ev t)) (hi.map (ev t)) (mx.map (ev t)) h=some r→Zx r.2→Does P m B h w a o r.1 h:=fun r hr hl=>by
    obtain⟨h1,h2⟩:=Zj0 (v:=r.1) (lg:=r.2) E (Zak ht hx) hr hl;refine⟨m,w,_,?_,.inl rfl,⟨Agree.refl _ _,E,Below.refl _ _,Nat.le_refl _,h2⟩⟩;simp only[execOp,ho,Zr ha hx,ZQ ha hlo,ZQ ha hhi,ZQ ha hmx,Sem.run_bind,h1,Result.andThen_ok,Sem.run_pure]
   split at hs
   ·split at hs
    ·split at hs
     ·rename_i r hr;cases hs;obtain⟨h1,h2⟩:=Zj1 (m:=m) (w:=w) (v:=r.1) (lg:=r.2) (Zak ht hx) hr hlg;refine⟨m,w,_,?_,.inl rfl,⟨Agree.refl _ _,E,Below.refl _ _,Nat.le_refl _,h2⟩⟩;simp only[execOp,ho,Zr ha hx,ZQ ha hlo,ZQ ha hhi,ZQ ha hmx,Sem.run_bind,h1,Result.andThen_ok,Sem.run_pure]
     ·cases hs
    split at hs
    ·split at hs
     ·rename_i r hr;cases hs;exact done r hr hlg
     ·cases hs
    ·split at hs
     ·cases hs
     ·split at hs
      ·rename_i r hr;split at hs
       ·rename_i hall;cases hs;exact done r hr fun p hp=>by simpa using List.all_eq_true.1 hall p hp
       ·cases hs
      ·cases hs
   ·cases hs
  ·cases hs
 ·
  rename_i c ho;split at hs
  ·rename_i x y ty ty' hcal hargs htys;split at hs
   ·rename_i hx;simp only[Xh] at hx;obtain⟨⟨hx,hy⟩,hty⟩:=hx;have hty:=Xj hty;subst hty;have done:∀ r:Value×Hp,Zjv P ty (ev t x) (ev t y) h=some r→Does P m B h w a o r.1 r.2:=fun r hr=>by
     obtain⟨callee,args,tys⟩:=c;obtain⟨args⟩:=args;obtain⟨tys⟩:=tys;simp only at hcal hargs htys;subst hcal hargs htys;obtain⟨m',w',h1,h2⟩:=ZgM (rty:=o.type) (v:=r.1) (h':=r.2) E (Zak ht hx) hr;refine⟨m',w',_,?_,.inl rfl,h2⟩;simp [execOp,ho,resolve,invoke,builtin,Zr ha hx,Zr ha hy,h1]
    have doneT:∀ r:Value×Hp,ZyJ P ty (ev t x) (ev t y) h=some r→Does P m B h w a o r.1 r.2:=fun r hr=>by
     obtain⟨callee,args,tys⟩:=c;obtain⟨args⟩:=args;obtain⟨tys⟩:=tys;simp only at hcal hargs htys;subst hcal hargs htys;obtain⟨m',w',h1,h2⟩:=ZmG (rty:=o.type) (v:=r.1) (h':=r.2) E (Zak ht hx) hr;refine⟨m',w',_,?_,.inl rfl,h2⟩;simp [execOp,ho,resolve,invoke,builtin,Zr ha hx,Zr ha hy,h1]
    split at hs
    ·split at hs
     ·rename_i r hr;cases hs;exact done (r.1,r.2.1) (ZuE (v:=r.1) (h':=r.2.1) (lg:=r.2.2) hr hlg)
     ·cases hs
    split at hs
    ·split at hs
     ·rename_i r hr;cases hs;exact done (r.1,r.2.1) (ZuF (v:=r.1) (h':=r.2.1) (lg:=r.2.2) hr hlg)
     ·cases hs
    split at hs
    ·split at hs
     ·rename_i r hr;cases hs;exact done (r.1,r.2.1) (ZuD (v:=r.1) (h':=r.2.1) (lg:=r.2.2) hr hlg)
     ·cases hs
    ·split at hs
     ·rename_i r hr;cases hs;exact doneT r hr
     ·cases hs
   ·cases hs
  ·rename_i x y ty ty' hcal hargs htys;split at hs
   ·rename_i hx;simp only[Xh] at hx;obtain⟨hx,hy⟩:=hx;split at hs
    ·rename_i r hr;have done:r.2.2=true→Does P m B h w a o r.1 r.2.1:=fun hd=>by
      obtain⟨callee,args,tys⟩:=c;obtain⟨args⟩:=args;obtain⟨tys⟩:=tys;simp only at hcal hargs htys;subst hcal hargs htys;obtain⟨w',h1,h2⟩:=Zjy (rty:=o.type) (ty':=ty') (v:=r.1) (h':=r.2.1) (d:=r.2.2) E hr hd;refine⟨m,w',_,?_,.inl rfl,h2⟩;simp [execOp,ho,resolve,invoke,builtin,Zr ha hx,Zr ha hy,h1]
     split at hs
     ·cases hs;exact done (hlg _ Xf)
     ·split at hs
      ·rename_i hd;cases hs;exact done hd
      ·cases hs
    ·cases hs
   ·cases hs
  ·cases hs
 ·
  rename_i src dst x ho;split at hs
  ·rename_i hx;split at hs
   ·rename_i b s2;split at hs
    ·rename_i lg' hu;cases hs;obtain⟨h1,h2⟩:=Zfk E (ZqE hu hlg);refine⟨m,w,_,?_,.inl rfl,⟨Agree.refl _ _,E,Below.refl _ _,Nat.le_refl _,h2⟩⟩;simp only[execOp,ho,Zr ha hx,Sem.run_bind,h1,Result.andThen_ok,Sem.run_pure]
    ·cases hs
   ·split at hs
    ·rename_i u hu;cases hs;obtain⟨h1,h2⟩:=Zfk E hu;refine⟨m,w,_,?_,.inl rfl,⟨Agree.refl _ _,E,Below.refl _ _,Nat.le_refl _,h2⟩⟩;simp only[execOp,ho,Zr ha hx,Sem.run_bind,h1,Result.andThen_ok,Sem.run_pure]
    ·cases hs
  ·cases hs
 ·cases hs
def elK (P:Program) (e:TypeId):Option (Nat×List Value×Nat):=
 match P.info? e with
 | some i=>
  match i.zero with
  | some z=>if (noT z && Nat.beq (ZD z).length i.size && Nat.blt 1 i.size && (ZD z).all one && (ZD z).all (lt1 0) && !(ro e) && Nat.ble i.bytes 64)=true then some (i.size,ZD z,i.bytes) else none
  | none=>none
 | none=>none
structure ElK (P:Program) (e:TypeId) (k:Nat) (zc:List Value) (by_:Nat) (i:TypeInfo) (z:Value):Prop where
 hi:P.info? e=some i
 hz:i.zero=some z
 size:i.size=k
 bytes:i.bytes=by_
 cells:z.cells=zc.toArray
 len:zc.length=k
 two:1<k
 one:∀ v∈zc,one v=true
 still:∀ v∈zc,lt1 0 v=true
 ro:ro e=false
 b64:by_≤64
theorem ZqH {v:Value}(h:noT v=true):v.cells=(ZD v).toArray:=by
 cases v<;>simp_all [noT,Value.cells,ZD]
theorem Zey {P:Program}{e:TypeId}{k by_:Nat}{zc:List Value}(h:elK P e=some (k,zc,by_)):∃ i z,ElK P e k zc by_ i z:=by
 unfold elK at h;split at h
 ·rename_i i hi;split at h
  ·rename_i z hz;split at h
   ·rename_i hc;cases h;simp only[Xh,List.all_eq_true,Bool.not_eq_true',Zk] at hc;obtain⟨⟨⟨⟨⟨⟨c1,c2⟩,c3⟩,c4⟩,c5⟩,c6⟩,c7⟩:=hc;exact⟨i,z,hi,hz,rfl,rfl,ZqH c1,Xj c2,c3,c4,c5,c6,Nat.le_of_ble_eq_true c7⟩
   ·cases h
  ·cases h
 ·cases h
def ZdD (n:Nat) (zc:List Value):List Value:=(List.replicate n zc).flatten
theorem ZbR (n:Nat) (zc:List Value):(ZdD n zc).length=n*zc.length:=by
 unfold ZdD;rw[List.length_flatten,List.map_replicate,List.sum_replicate_nat]
theorem ZgN (zc:List Value) (h:0<zc.length):∀ (n j:Nat),j<n*zc.length→(ZdD n zc)[j]? =zc[j % zc.length]?
 | 0,j,hj=>by omega
 | n+1,j,hj=>by
  have e:ZdD (n+1) zc=zc++ZdD n zc:=by unfold ZdD;rw[List.replicate_succ,List.flatten_cons]
  rw[e];rw[Nat.succ_mul] at hj;rcases Nat.lt_or_ge j zc.length with c | c
  ·rw[List.getElem?_append_left c,Nat.mod_eq_of_lt c]
  ·rw[List.getElem?_append_right c,ZgN zc h n (j-zc.length) (by omega),Nat.mod_eq_sub_mod c]
theorem Zj3 {zc:List Value}(h:0<zc.length) (n:Nat):madeCells zc.toArray (n*zc.length)=(ZdD n zc).toArray:=by
 unfold madeCells;apply Array.ext';simp only[Array.toList_map,Array.toList_range];refine List.ext_getElem? fun j=> ?_;rcases Nat.lt_or_ge j (n*zc.length) with c | c
 ·rw[ZgN zc h n j c,List.getElem?_map,List.getElem?_range c];have hm:=Nat.mod_lt j h;simp [hm]
 ·rw[List.getElem?_eq_none (by simpa using c),List.getElem?_eq_none (by rw[ZbR];exact c)]
theorem Zp9 {zc:List Value}(h:0<zc.length) (n:Nat):Builtin.zeroCells zc.toArray n=(ZdD n zc).toArray:=by
 have:=Zj3 h n;unfold madeCells at this;unfold Builtin.zeroCells;simpa using this
theorem ZgO {n:Nat}{zc:List Value}{v:Value}(h:v∈ZdD n zc):v∈zc:=by
 unfold ZdD at h;obtain⟨l,h1,h2⟩:=List.mem_flatten.1 h;rw[List.eq_of_mem_replicate h1] at h2;exact h2
theorem ZuH {k n:Nat}(h:0<k):cap (n*k) (ZV+k)=n:=by
 unfold cap;rw[if_pos (Nat.ble_eq_true_of_le (Nat.le_add_right _ _)),Nat.add_sub_cancel_left,Nat.mul_div_cancel _ h]
def ZuI (P:Program) (ty:TypeId) (l c:Value) (h:Hp) (s:List Dec):Zdh:=
 match P.underlying ty,l,c with
 | some (.slice e),.int _ ln,.int _ cp=>
  match elK P e with
  | some r=>
   match s with
   | .inr (.inr (.inr (.inr (.inl _))))::s'=>some (.slice (some ⟨h.n,0,none⟩) ln.toNat cp.toNat,h.push (ZdD cp.toNat r.2.1) e,s',[(zf r.2.2 ln cp,true)])
   | _=>if zf r.2.2 ln cp=true then some (.slice (some ⟨h.n,0,none⟩) ln.toNat cp.toNat,h.push (ZdD cp.toNat r.2.1) e,s,[]) else none
  | none=>none
 | _,_,_=>none
theorem Zj4 {m:Mp}{B:Nat}{P:Program}{ty:TypeId}{kl kc:IntKind}{ln cp:Int}{h:Hp}{w:World}{e:TypeId}{k by_:Nat}{zc:List Value}{i:TypeInfo}{z:Value}(E:Emb m B h w) (hu:P.underlying ty=some (.slice e)) (K:ElK P e k zc by_ i z) (hk:ZgK by_ ln cp):
  ∃ m' w',(Instr.makeSlice ty (.int kl ln) (.int kc cp)).run P w= .ok (mv m' (.slice (some ⟨h.n,0,none⟩) ln.toNat cp.toNat)) w'∧Came m B h w (.slice (some ⟨h.n,0,none⟩) ln.toNat cp.toNat) (h.push (ZdD cp.toNat zc) e) m' w':=by
 obtain⟨k1,k2,k3,k4⟩:=hk;have hr:=run_make (P:=P) w ty e i z hu K.hi K.hz kl kc ln cp k1 k2 (by rw[K.bytes];exact k4) (by omega);have hp:0<zc.length:=by have:=K.two;have:=K.len;omega
 rw[K.cells,K.size,← K.len,Zj3 hp] at hr;have hall:∀ v∈ZdD cp.toNat zc,lt1 h.n v=true:=fun v hv=>ZI (Nat.zero_le _) (K.still v (ZgO hv));have E':=E.push (ZdD cp.toNat zc) [] e K.ro hall (k:=cp.toNat*zc.length) (by rw[ZbR];rfl);have e1:(ZdD cp.toNat zc).map (mv1 m)=ZdD cp.toNat zc:=(List.map_congr_left fun v hv=>ZX (K.still v (ZgO hv))).trans (List.map_id' _);rw[List.append_nil,e1] at E';refine⟨_,_,hr.trans ?_,⟨Z7 _ _ _,E',(Below.refl _ _).alloc E.base _,Nat.le_succ _,by simp [lt,lt2,lt1,Hp.push]⟩⟩;have hsm:ZW cp.toNat=true:=Zk.2 (by unfold ZV;omega);simp only[mv,mv2,mv1,mvA,upd,if_pos,ZF hsm]
def ZqI (n yn:Nat):Bool:=Nat.ble (n+yn) 1073741824 && Nat.blt 0 yn
def ZqJ (yb:List Value×TypeId) (k yo yn:Nat):Bool:= !(Zam yb.2) && Nat.ble (yo+yn*k) yb.1.length && ((yb.1.drop yo).take (yn*k)).all one
def ZmI (md:Nat) (P:Program) (ty:TypeId) (x y:Value) (h:Hp):Option (Value×Hp×Log):=
 match P.underlying ty with
 | some (.slice e)=>
  match elK P e with
  | some r=>
   match x,y with
   | .slice none 0 0,.slice (some ⟨yb,yo,none⟩) yn _=>
    match h.blk? yb with
    | some yb=>some (.slice (some ⟨h.n,0,none⟩) yn (ZV+r.1),h.push ((yb.1.drop yo).take (yn*r.1)) e,[(ZqI 0 yn && ZqJ yb r.1 yo yn,true)])
    | none=>none
   | .slice (some ⟨b,0,none⟩) n c,.slice (some ⟨yb,yo,none⟩) yn _=>
    match h.blk? b,h.blk? yb with
    | some xb,some yb=>
     match md with
     | 0=>if Nat.beq c (ZV+r.1)=true then some (.slice (some ⟨h.n,0,none⟩) (n+yn) (ZV+r.1),(h.put b ([],2*ZV)).push (xb.1++(yb.1.drop yo).take (yn*r.1)) e,[(ZqI n yn && ZqJ yb r.1 yo yn && Nat.beq (n*r.1) xb.1.length && !(ro xb.2) && Nat.beq xb.2 e,true)]) else none
     | 1=>some (.slice (some ⟨h.n,0,none⟩) (n+yn) (ZV+r.1),h.push (xb.1++(yb.1.drop yo).take (yn*r.1)) e,[(ZqI n yn && ZqJ yb r.1 yo yn && Nat.beq (n*r.1) xb.1.length && !(Zam xb.2) && ZW c && Nat.blt c (n+yn),true)])
     | _=>some (.slice (some ⟨b,0,none⟩) (n+yn) c,h.put b (xb.1.take (n*r.1)++(yb.1.drop yo).take (yn*r.1)++xb.1.drop ((n+yn)*r.1),xb.2),[(ZqI n yn && ZqJ yb r.1 yo yn && Nat.ble ((n+yn)*r.1) xb.1.length && !(ro xb.2) && Nat.beq xb.2 e && ZW c && Nat.ble (n+yn) c,true)])
    | _,_=>none
   | _,_=>none
  | none=>none
 | _=>none
theorem ZbS {m:Mp}{B:Nat}{h:Hp}{w:World}(E:Emb m B h w) {b k o n:Nat}{x:List Value×TypeId}(hb:h.blk? b=some x) (hs:ZqJ x k o n=true):
  (((x.1.drop o).take (n*k)).map (mv1 m)).length=n*k∧(∀ v∈(x.1.drop o).take (n*k),lt1 h.n v=true)∧(∀ j u,(((x.1.drop o).take (n*k)).map (mv1 m))[j]? =some u→w.cell? ((⟨(m b).1,o,none⟩:Addr).add j)=some u)∧∀ u∈((x.1.drop o).take (n*k)).map (mv1 m),u.oneCell'=true:=by
 simp only[ZqJ,Xh,Bool.not_eq_true'] at hs;obtain⟨⟨s1,s2⟩,s3⟩:=hs;have s2:=Nat.le_of_ble_eq_true s2;refine⟨by simp;omega,fun v hv=>E.wf _ _ hb v (List.mem_of_mem_drop (List.mem_of_mem_take hv)),fun j u hj=> ?_,Zex s3⟩;rw[Zae];rw[List.getElem?_map,List.getElem?_take] at hj;split at hj
 ·rw[List.getElem?_drop] at hj;obtain⟨u',hu,rfl⟩:=Option.map_eq_some_iff.1 hj;exact Zas (E.lies _ _ hb s1) hu
 ·simp at hj
set_option maxHeartbeats 1000000 in
theorem Zby {md:Nat}{m:Mp}{B:Nat}{P:Program}{ty rty:TypeId}{x y v:Value}{h h':Hp}{w:World}{lg:Log}(E:Emb m B h w) (hx:lt h.n x=true) (hs:ZmI md P ty x y h=some (v,h',lg)) (hlg:Zx lg):
  ∃ m' w',(Builtin.append_ #[ty,ty] rty #[mv m x,mv m y]).run P w= .ok (mv m' v) w'∧Came m B h w v h' m' w':=by
 unfold ZmI at hs;split at hs
 ·rename_i e hu;split at hs
  ·rename_i r hr0;obtain⟨k,zc,by_⟩:=r;obtain⟨i,z,K⟩:=Zey hr0;have hp:0<zc.length:=by have:=K.two;have:=K.len;omega
   have kp:0<k:=by have:=K.two;omega
   simp only at hs;split at hs
   ·
    rename_i yb yo yn yc;split at hs
    ·rename_i ybb hyb;cases hs;have h1:=hlg _ Xf;simp only[ZqI,Xh,Zk] at h1;obtain⟨⟨b1,b2⟩,sk⟩:=h1;have b1:=Nat.le_of_ble_eq_true b1;obtain⟨q1,q2,q3,_⟩:=ZbS E hyb sk;have my:mv m (.slice (some ⟨yb,yo,none⟩) yn yc)= .slice (some ⟨(m yb).1,yo,none⟩) yn (cap (m yb).2 yc):=rfl;rw[my];have hby:yn*i.bytes≤281474976710656:=by
      have:yn*i.bytes≤1073741824*64:=Nat.mul_le_mul (by omega) (by rw[K.bytes];exact K.b64);omega
     have hr:=run_append_nil (P:=P) w ty rty e i z hu K.hi K.hz ⟨(m yb).1,yo,none⟩ yn (cap (m yb).2 yc) (((ybb.1.drop yo).take (yn*k)).map (mv1 m)) (by rw[q1,K.size]) q3 b2 (by omega) hby;have hge:=grownCap_ge w yn 0 e;have E':=E.drew.push ((ybb.1.drop yo).take (yn*k)) (ZdD (grownCap w yn 0 e-yn) zc) e K.ro q2 (k:=grownCap w yn 0 e*k) (by
      rw[ZbR,K.len];have:((ybb.1.drop yo).take (yn*k)).length=yn*k:=(List.length_map _).symm.trans q1;rw[this,← Nat.add_mul];congr 1;omega)
     rw[K.cells,Zp9 hp] at hr;refine⟨_,_,hr.trans ?_,⟨Z7 _ _ _,E',((Below.refl _ _).drew).alloc E.base _,Nat.le_succ _,by simp [lt,lt2,lt1,Hp.push]⟩⟩;have e1:mv (upd m h.n (w.drew.heap.size,grownCap w yn 0 e*k)) (.slice (some ⟨h.n,0,none⟩) yn (ZV+k))= .slice (some ⟨w.heap.size,0,none⟩) yn (grownCap w yn 0 e):=by
      simp only[mv,mv2,mv1,mvA,upd,if_pos,ZuH kp];rfl
     rw[e1];simp only[List.append_toArray]
    ·cases hs
   ·rename_i b n c yb yo yn yc;split at hs
    ·rename_i xb ybb hxb hyb;have my:mv m (.slice (some ⟨yb,yo,none⟩) yn yc)= .slice (some ⟨(m yb).1,yo,none⟩) yn (cap (m yb).2 yc):=rfl;have mx:mv m (.slice (some ⟨b,0,none⟩) n c)= .slice (some ⟨(m b).1,0,none⟩) n (cap (m b).2 c):=rfl;rw[my,mx];have wfx:=E.wf _ _ hxb;have grow:∀ (h1:Hp),Emb m B h1 w→h1.n=h.n→cap (m b).2 c<n+yn→n*k=xb.1.length→Zam xb.2=false→ZqI n yn=true→ZqJ ybb k yo yn=true→∃ m' w',(Builtin.append_ #[ty,ty] rty #[.slice (some ⟨(m b).1,0,none⟩) n (cap (m b).2 c),.slice (some ⟨(m yb).1,yo,none⟩) yn (cap (m yb).2 yc)]).run P w= .ok (mv m' (.slice (some ⟨h.n,0,none⟩) (n+yn) (ZV+k))) w'∧Came m B h w (.slice (some ⟨h.n,0,none⟩) (n+yn) (ZV+k)) (h1.push (xb.1++(ybb.1.drop yo).take (yn*k)) e) m' w':=by
      intro h1 E1 hn hlt hnk htb hbn sk;simp only[ZqI,Xh,Zk] at hbn;have b1:=Nat.le_of_ble_eq_true hbn.1;obtain⟨q1,q2,q3,_⟩:=ZbS E hyb sk;have hby:(n+yn)*i.bytes≤140737488355328:=by
       have:(n+yn)*i.bytes≤1073741824*64:=Nat.mul_le_mul b1 (by rw[K.bytes];exact K.b64);omega
      have hr:=run_append_grow (P:=P) w ty rty e i z hu K.hi K.hz ⟨(m b).1,0,none⟩ n (cap (m b).2 c) (xb.1.map (mv1 m)) (by rw[List.length_map,K.size,hnk]) (fun j u hj=>by
       rw[Zae,Nat.zero_add];rw[List.getElem?_map] at hj;obtain⟨u',hu',rfl⟩:=Option.map_eq_some_iff.1 hj;exact Zas (E.lies _ _ hxb htb) hu') ⟨(m yb).1,yo,none⟩ yn (cap (m yb).2 yc) (((ybb.1.drop yo).take (yn*k)).map (mv1 m)) (by rw[q1,K.size]) q3 hlt (by omega) (growslice_fits hlt hby)
      have hge:=grownCap_ge w (n+yn) (cap (m b).2 c) e;have E':=E1.drew.push (xb.1++(ybb.1.drop yo).take (yn*k)) (ZdD (grownCap w (n+yn) (cap (m b).2 c) e-(n+yn)) zc) e K.ro (fun u hu'=>by
       rw[hn];rcases List.mem_append.1 hu' with hu' | hu'
       ·exact wfx u hu'
       ·exact q2 u hu') (k:=grownCap w (n+yn) (cap (m b).2 c) e*k) (by
       rw[ZbR,K.len,List.length_append,← hnk];have:((ybb.1.drop yo).take (yn*k)).length=yn*k:=(List.length_map _).symm.trans q1;rw[this,← Nat.add_mul,← Nat.add_mul];congr 1;omega)
      rw[K.cells,Zp9 hp] at hr;rw[hn] at E';refine⟨_,_,hr.trans ?_,⟨Z7 _ _ _,E',((Below.refl _ _).drew).alloc E.base _,by show h.n≤h1.n+1;omega,by simp [lt,lt2,lt1,Hp.push,hn]⟩⟩;have e1:mv (upd m h.n (w.drew.heap.size,grownCap w (n+yn) (cap (m b).2 c) e*k)) (.slice (some ⟨h.n,0,none⟩) (n+yn) (ZV+k))= .slice (some ⟨w.heap.size,0,none⟩) (n+yn) (grownCap w (n+yn) (cap (m b).2 c) e):=by
       simp only[mv,mv2,mv1,mvA,upd,if_pos,ZuH kp];rfl
      rw[e1,List.map_append];simp only[List.append_toArray]
     split at hs
     ·
      split at hs
      ·rename_i hcq;have hcq:=Xj hcq;subst hcq;cases hs;have h1:=hlg _ Xf;simp only[Xh,Bool.not_eq_true'] at h1;obtain⟨⟨⟨⟨hbn,sk⟩,hnk⟩,q1⟩,q2⟩:=h1;have hnk:=Xj hnk;have q2:=Xj q2;have hblt:=Hp.blk_lt hxb;have Eb:=E.bury hblt;by_cases hroom:n+yn≤cap (m b).2 (ZV+k)
       ·obtain⟨s1,s2,s3,s4⟩:=ZbS E hyb sk;obtain⟨r,zz,l0,l1,l2⟩:=E.lies _ _ hxb (zo q1);have ert:rt xb.2=e:=by rw[ZdM q1,q2]
        rw[(l2 q1).1,(l2 q1).2,ert] at l1;have hroom2:(n+yn)*k≤(m b).2:=by
         unfold cap at hroom;rw[if_pos (Nat.ble_eq_true_of_le (Nat.le_add_right _ _)),Nat.add_sub_cancel_left] at hroom;exact (Nat.le_div_iff_mul_le kp).1 hroom
        rw[Nat.add_mul] at hroom2;have hr:=run_append_room (P:=P) w ty rty e i hu K.hi (m b).1 n (cap (m b).2 (ZV+k)) _ l1 ⟨(m yb).1,yo,none⟩ yn (cap (m yb).2 yc) (((ybb.1.drop yo).take (yn*k)).map (mv1 m)) (by rw[s1,K.size]) s3 s4 hroom (by
         rw[s1,K.size];have:(xb.1.map (mv1 m)++r).toArray.size=(m b).2:=by rw[List.size_toArray,List.length_append,l0]
         omega)
        have other:∀ b' x',(h.put b ([],2*ZV)).blk? b'=some x'→ro x'.2=false→(m b').1≠(m b).1:=by
         intro b' x' hb' hx' heq;rw[Hp.blk_put E.len hblt] at hb';split at hb'
         ·cases hb';cases hx'
         ·rename_i hne;exact hne (E.inj _ _ _ _ hb' hxb hx' q1 heq)
        have special:∀ b' x',(h.put b ([],2*ZV)).blk? b'=some x'→spK x'.2=true→¬ fpt (m b').1 (x'.1.map (mv1 m)) x'.2 (m b).1:=by
         intro b' x' hb' hx';rw[Hp.blk_put E.len hblt] at hb';split at hb'
         ·cases hb';cases hx'
         ·exact E.apart hb' hx' hxb q1
        have Ew:=Eb.wild (E.low _ _ hxb q1) other special l1 ((List.take (n*i.size) (xb.1.map (mv1 m)++r).toArray.toList++((ybb.1.drop yo).take (yn*k)).map (mv1 m)++List.drop (n*i.size+(((ybb.1.drop yo).take (yn*k)).map (mv1 m)).length) (xb.1.map (mv1 m)++r).toArray.toList).toArray);have e0:(xb.1.map (mv1 m)++r).take (n*k)=xb.1.map (mv1 m):=by
         rw[hnk,List.take_append_of_le_length (by simp),List.take_of_length_le (by simp)]
        have ls:((ybb.1.drop yo).take (yn*k)).length=yn*k:=(List.length_map _).symm.trans s1;have Ea:=Ew.adopt (xb.1++(ybb.1.drop yo).take (yn*k)) e K.ro (fun u hu'=>by
         rcases List.mem_append.1 hu' with hu' | hu'
         ·exact wfx u hu'
         ·exact s2 u hu') (k:=m b) ⟨(xb.1.map (mv1 m)++r).drop (n*k+yn*k),(e,0,0),by
          have hl:(xb.1.map (mv1 m)++r).length=(m b).2:=by rw[List.length_append,l0]
          simp only[List.length_map,List.length_append,ls,List.length_drop] at hl ⊢;omega,by
          rw[setRow_heap w _ _ _ _ _ l1,s1,K.size];simp only[List.map_append,e0],fun _=>⟨(ZdM K.ro).symm,rfl⟩⟩ (E.low _ _ hxb q1) other special
        have e1:mv (upd m h.n (m b)) (.slice (some ⟨h.n,0,none⟩) (n+yn) (ZV+k))= .slice (some ⟨(m b).1,0,none⟩) (n+yn) (cap (m b).2 (ZV+k)):=by
         simp only[mv,mv2,mv1,mvA,upd,if_pos]
        refine⟨upd m h.n (m b),_,hr.trans ?_,⟨Z7 _ _ _,Ea,zK (Below.refl _ _) (E.low _ _ hxb q1) _,Nat.le_succ _,?_⟩⟩
        ·rw[e1]
        ·show Nat.blt h.n (h.n+1)=true;exact Zk.2 (Nat.lt_succ_self _)
       ·exact grow _ Eb rfl (by omega) hnk (zo q1) hbn sk
      ·cases hs
     ·
      cases hs;have h1:=hlg _ Xf;simp only[Xh,Bool.not_eq_true',Zk] at h1;obtain⟨⟨⟨⟨⟨hbn,sk⟩,hnk⟩,q1⟩,q2⟩,q3⟩:=h1;have hnk:=Xj hnk;exact grow h E rfl (by rw[ZF q2];exact q3) hnk q1 hbn sk
     ·
      cases hs;have h1:=hlg _ Xf;simp only[Xh,Bool.not_eq_true'] at h1;obtain⟨⟨⟨⟨⟨⟨hbn,sk⟩,hnk⟩,q1⟩,q2⟩,q3⟩,q4⟩:=h1;have hnk:=Nat.le_of_ble_eq_true hnk;have q2:=Xj q2;have q4:=Nat.le_of_ble_eq_true q4;obtain⟨s1,s2,s3,s4⟩:=ZbS E hyb sk;obtain⟨r,zz,l0,l1,l2⟩:=E.lies _ _ hxb (zo q1);have ert:rt xb.2=e:=by rw[ZdM q1,q2]
      rw[(l2 q1).1,(l2 q1).2] at l1;have l1':=l1;rw[ert] at l1;rw[Nat.add_mul] at hnk;rw[ZF q3];have ls:((ybb.1.drop yo).take (yn*k)).length=yn*k:=(List.length_map _).symm.trans s1;have hr:=run_append_room (P:=P) w ty rty e i hu K.hi (m b).1 n c _ l1 ⟨(m yb).1,yo,none⟩ yn (cap (m yb).2 yc) (((ybb.1.drop yo).take (yn*k)).map (mv1 m)) (by rw[s1,K.size]) s3 s4 q4 (by rw[s1,K.size,List.size_toArray,List.length_append,List.length_map];omega);have esp:(xb.1.map (mv1 m)++r).take (n*k)++((ybb.1.drop yo).take (yn*k)).map (mv1 m)++(xb.1.map (mv1 m)++r).drop (n*k+yn*k)=(xb.1.take (n*k)++(ybb.1.drop yo).take (yn*k)++xb.1.drop ((n+yn)*k)).map (mv1 m)++r:=by
       rw[List.take_append_of_le_length (by simp;omega),List.drop_append_of_le_length (by simp;omega),Nat.add_mul];simp
      refine⟨m,_,hr.trans ?_,⟨Agree.refl _ _,E.put hxb q1 l1' (xb.1.take (n*k)++(ybb.1.drop yo).take (yn*k)++xb.1.drop ((n+yn)*k)) r (fun u hu'=> ?_) (by rw[Nat.add_mul];simp only[List.length_map,List.length_append,List.length_take,List.length_drop] at l0 ls ⊢;omega),zK (Below.refl _ _) (E.low _ _ hxb q1) _,by simp [Hp.put],by simpa [lt,lt2,lt1,Hp.put] using hx⟩⟩
      ·rw[s1,K.size];simp only[esp];congr 1;simp [mv,mv2,mv1,mvA,ZF q3]
      ·simp only[List.mem_append] at hu';rcases hu' with (hu' | hu') | hu'
       ·exact wfx u (List.mem_of_mem_take hu')
       ·exact s2 u hu'
       ·exact wfx u (List.mem_of_mem_drop hu')
    ·cases hs
   ·cases hs
  ·cases hs
 ·cases hs
def Zj5 (P:Program) (ty:TypeId) (n:Nat) (ps:List (Nat×Value)) (h:Hp):Option (Value×Hp):=
 match P.underlying ty with
 | some (.slice e)=>
  match elK P e with
  | some r=>
   match Instr.fill (fun i=>some (i*r.1,r.1)) (ZdD n r.2.1).toArray ps with
   | some a=>if (Nat.ble (n*r.1) 1048576 && (ps.all fun p=>lt 0 p.2) && a.toList.all (lt1 0))=true then some (.slice (some ⟨h.n,0,none⟩) n n,h.push a.toList e) else none
   | none=>none
  | none=>none
 | _=>none
theorem Zib {m:Mp}{B:Nat}{P:Program}{ty:TypeId}{n:Nat}{ps:List (Nat×Value)}{v:Value}{h h':Hp}{w:World}(E:Emb m B h w) (hs:Zj5 P ty n ps h=some (v,h')):
  (ps.all fun p=>lt 0 p.2)=true∧∃ m' w',(Instr.buildSlice ty n ps.toArray).run P w= .ok (mv m' v) w'∧Came m B h w v h' m' w':=by
 unfold Zj5 at hs;split at hs
 ·rename_i e hu;split at hs
  ·rename_i r hr0;obtain⟨k,zc,by_⟩:=r;obtain⟨i,z,K⟩:=Zey hr0;have hp:0<zc.length:=by have:=K.two;have:=K.len;omega
   simp only at hs;split at hs
   ·rename_i a ha;split at hs
    ·rename_i hc;cases hs;simp only[Xh] at hc;obtain⟨⟨c1,c2⟩,c3⟩:=hc;have c1:=Nat.le_of_ble_eq_true c1;refine⟨c2,?_⟩;have hall:∀ u∈a.toList,lt1 0 u=true:=List.all_eq_true.1 c3;have e1:a.toList.map (mv1 m)=a.toList:=(List.map_congr_left fun u hu=>ZX (hall u hu)).trans (List.map_id' _);have hr:(Instr.buildSlice ty n ps.toArray).run P w= .ok (.slice (some ⟨w.heap.size,0,none⟩) n n) (w.alloc (.cells a e (0,0))):=by
      have hbig:¬ (16777216<n*k):=by omega
      have hm:=Zj3 hp n;unfold madeCells at hm;rw[K.len] at hm;by_cases hn:n*k=0
      ·have en:ZdD n zc=[]:=List.length_eq_zero_iff.1 (by rw[ZbR,K.len,hn]);rw[en] at ha;simp [Instr.buildSlice,run_underlying hu,sizeOf,typeInfo,K.hi,K.size,hn,newRow,ha,Array.range_zero']
      ·simp [Instr.buildSlice,run_underlying hu,sizeOf,typeInfo,zeroValue,hbig,hn,K.hi,K.hz,K.size,K.cells,newRow];rw[K.len];rw[List.size_toArray,K.len] at hm;simp only[List.getElem!_toArray,List.getElem!_eq_getElem?_getD] at hm;rw[hm,ha];simp
     have E':=E.push a.toList [] e K.ro (fun u hu=>ZI (Nat.zero_le _) (hall u hu)) (k:=a.toList.length) (by simp);rw[List.append_nil,e1,Array.toArray_toList] at E';refine⟨upd m h.n (w.heap.size,a.toList.length),_,hr.trans ?_,⟨Z7 _ _ _,E',(Below.refl _ _).alloc E.base _,Nat.le_succ _,?_⟩⟩
     ·have hn:n≤n*k:=Nat.le_mul_of_pos_right n (by have:=K.two;omega);have hs:ZW n=true:=Zk.2 (by unfold ZV;omega);simp only[mv,mv2,mv1,mvA,upd,if_pos,ZF hs]
     ·show Nat.blt h.n (h.n+1)=true;exact Zk.2 (Nat.lt_succ_self _)
    ·cases hs
   ·cases hs
  ·cases hs
 ·cases hs
def okB (l:Log):Bool:=l.all fun p=>p.1==p.2
theorem Zj6 {l:Log}(h:okB l=true):Zx l:=fun p hp=>by simpa using List.all_eq_true.1 h p hp
def ZqK (P:Program) (ty:TypeId) (x y:Value) (h:Hp) (s:List Dec):Zdh:=
 match ZqF s with
 | true=>match ZmI 1 P ty x y h with | some r=>some (r.1,r.2.1,s.tail,r.2.2) | none=>none
 | false=>
  match ZuG s with
  | true=>match ZmI 2 P ty x y h with | some r=>some (r.1,r.2.1,s.tail,r.2.2) | none=>none
  | false=>
   match ZyK s with
   | true=>match ZmI 0 P ty x y h with | some r=>some (r.1,r.2.1,s.tail,r.2.2) | none=>none
   | false=>
    match (match x with | .slice none _ _=>true | .slice _ _ c=> !(ZW c) | _=>false) with
    | true=>match ZmI 0 P ty x y h with | some r=>if okB r.2.2=true then some (r.1,r.2.1,s,[]) else none | none=>none
    | false=>
     match (match ZmI 2 P ty x y h with | some r=>okB r.2.2 | none=>false) with
     | true=>match ZmI 2 P ty x y h with | some r=>if okB r.2.2=true then some (r.1,r.2.1,s,[]) else none | none=>none
     | false=>match ZmI 1 P ty x y h with | some r=>if okB r.2.2=true then some (r.1,r.2.1,s,[]) else none | none=>none
theorem Zj7 {m:Mp}{B:Nat}{P:Program}{ty rty:TypeId}{x y v:Value}{h h':Hp}{w:World}{s s':List Dec}{lg:Log}(E:Emb m B h w) (hx:lt h.n x=true) (hs:ZqK P ty x y h s=some (v,h',s',lg)) (hlg:Zx lg):
  ∃ m' w',(Builtin.append_ #[ty,ty] rty #[mv m x,mv m y]).run P w= .ok (mv m' v) w'∧Came m B h w v h' m' w':=by
 unfold ZqK at hs;split at hs
 ·split at hs
  ·rename_i r hr;cases hs;exact Zby (lg:=r.2.2) E hx hr hlg
  ·cases hs
 ·split at hs
  ·split at hs
   ·rename_i r hr;cases hs;exact Zby (lg:=r.2.2) E hx hr hlg
   ·cases hs
  ·split at hs
   ·split at hs
    ·rename_i r hr;cases hs;exact Zby (lg:=r.2.2) E hx hr hlg
    ·cases hs
   ·split at hs
    ·split at hs
     ·rename_i r hr;split at hs
      ·rename_i hk;cases hs;exact Zby (lg:=r.2.2) E hx hr (Zj6 hk)
      ·cases hs
     ·cases hs
    ·split at hs
     ·split at hs
      ·rename_i r hr;split at hs
       ·rename_i hk;cases hs;exact Zby (lg:=r.2.2) E hx hr (Zj6 hk)
       ·cases hs
      ·cases hs
     ·split at hs
      ·rename_i r hr;split at hs
       ·rename_i hk;cases hs;exact Zby (lg:=r.2.2) E hx hr (Zj6 hk)
       ·cases hs
      ·cases hs
def Zzi (P:Program) (t:List Value) (h:Hp) (s:List Dec) (o:Oper):Zdh:=
 match o.op with
 | .makeSlice ty l c=>if (okX l && okX c)=true then ZuI P ty (ev t l) (ev t c) h s else none
 | .buildSlice ty n zb=>
  if (zb.toList.all fun p=>okX p.2)=true then
   match Zj5 P ty n (zb.toList.map fun p=>(p.1,ev t p.2)) h with
   | some r=>some (r.1,r.2,s,[])
   | none=>none
  else none
 | .call c=>
  match c.callee,c.args.toList,c.argTypes.toList with
  | .builtin .append,[x,y],[ty,ty']=>if (okX x && okX y && Nat.beq ty ty')=true then ZqK P ty (ev t x) (ev t y) h s else none
  | _,_,_=>none
 | _=>none
def Zzj (P:Program) (t:List Value) (h:Hp) (s:List Dec) (o:Oper):Zdh:=
 match ZqG P t h s o with
 | some r=>some r
 | none=>Zzi P t h s o
theorem ZqL {P:Program}{m:Mp}{B:Nat}{t:List Value}{h h':Hp}{s s':List Dec}{lg:Log}{w:World}{a:Act}{o:Oper}{v:Value}
  (ha:a.tmps=(t.map (mv m)).toArray) (E:Emb m B h w) (ht:∀ v∈t,lt h.n v=true) (hs:Zzi P t h s o=some (v,h',s',lg)) (hlg:Zx lg):Does P m B h w a o v h':=by
 unfold Zzi at hs;split at hs
 ·rename_i ty l c ho;split at hs
  ·rename_i hx;simp only[Xh] at hx;unfold ZuI at hs;split at hs
   ·rename_i e kl ln kc cp hu el ec;split at hs
    ·rename_i r hr0;obtain⟨k,zc,by_⟩:=r;obtain⟨i,z,K⟩:=Zey hr0;simp only at hs;have el':a.eval l= .int kl ln:=by rw[Zr ha hx.1,el];rfl
     have ec':a.eval c= .int kc cp:=by rw[Zr ha hx.2,ec];rfl
     have done:ZgK by_ ln cp→Does P m B h w a o (.slice (some ⟨h.n,0,none⟩) ln.toNat cp.toNat) (h.push (ZdD cp.toNat zc) e):=fun hk=>by
      obtain⟨m',w',hr,C⟩:=Zj4 (kl:=kl) (kc:=kc) E hu K hk;refine⟨m',w',_,?_,.inl rfl,C⟩;simp only[execOp,ho,el',ec',Sem.run_bind,hr,Result.andThen_ok,Sem.run_pure]
     split at hs
     ·cases hs;have g:=hlg _ Xf;simp only[zf,Xi] at g;exact done g
     ·split at hs
      ·rename_i g;cases hs;simp only[zf,Xi] at g;exact done g
      ·cases hs
    ·cases hs
   ·cases hs
  ·cases hs
 ·rename_i ty n zb ho;split at hs
  ·rename_i hall;simp only[List.all_eq_true] at hall;split at hs
   ·rename_i r hr;cases hs;obtain⟨hst,m',w',h1,C⟩:=Zib (v:=r.1) (h':=r.2) E hr;refine⟨m',w',_,?_,.inl rfl,C⟩;have e:(zb.map fun p=>(p.1,a.eval p.2))=(zb.toList.map fun p=>(p.1,ev t p.2)).toArray:=by
     have:(zb.map fun p=>(p.1,a.eval p.2))=(zb.map fun p=>(p.1,ev t p.2)):=Array.map_congr_left fun p hp=>by
      have h2:=hall p (by simpa using hp);have h3:=List.all_eq_true.1 hst (p.1,ev t p.2) (List.mem_map.2 ⟨p,by simpa using hp,rfl⟩);rw[Zr ha h2,Z9 h3]
     rw[this];cases zb;simp
    simp only[execOp,ho,e,Sem.run_bind,h1,Result.andThen_ok,Sem.run_pure]
   ·cases hs
  ·cases hs
 ·rename_i c ho;split at hs
  ·rename_i x y ty ty' hcal hargs htys;split at hs
   ·rename_i hc;simp only[Xh] at hc;obtain⟨⟨hx,hy⟩,hty⟩:=hc;have hty:=Xj hty;subst hty;obtain⟨callee,args,tys⟩:=c;obtain⟨args⟩:=args;obtain⟨tys⟩:=tys;simp only at hcal hargs htys;subst hcal hargs htys;obtain⟨m',w',h1,C⟩:=Zj7 (rty:=o.type) E (Zak ht hx) hs hlg;refine⟨m',w',_,?_,.inl rfl,C⟩;simp [execOp,ho,resolve,invoke,builtin,Zr ha hx,Zr ha hy,h1]
   ·cases hs
  ·cases hs
 ·cases hs
theorem ZqM {P:Program}{m:Mp}{B:Nat}{t:List Value}{h h':Hp}{s s':List Dec}{lg:Log}{w:World}{a:Act}{o:Oper}{v:Value}
  (ha:a.tmps=(t.map (mv m)).toArray) (E:Emb m B h w) (ht:∀ v∈t,lt h.n v=true) (hs:Zzj P t h s o=some (v,h',s',lg)) (hlg:Zx lg):Does P m B h w a o v h':=by
 unfold Zzj at hs;split at hs
 ·rename_i r hr;cases hs;exact ZmH ha E ht hr hlg
 ·exact ZqL ha E ht hs hlg
end Go.KRun
