/-
  TxL, PwD, ConVI, ConVJ, ConV9, ConVA, NumPa, ConVL
-/
import Derived.Test.YtjlponbdflkbjaaGreatDoorG08
namespace Go.Proofs.YtjlponbdflkbjaaGreatDoor.Na
open Go.Proofs.Tryz
open Go.IntKind
open Go.KRun Go.Nt
set_option maxRecDepth 100000
def psN (s:ByteArray):Nat:=s.size/9+1
def psV (s:ByteArray):Nat:=zC (dgF s) s.size
theorem ZuV {s:ByteArray}(h:s.size≤20000):ZuU s=(psN s:Nat):=by
 have e1:i64.wrap ((s.size:Int)/9)=(s.size:Int)/9:=Zw (by omega) (by omega);unfold ZuU psN;rw[Int.tdiv_eq_ediv_of_nonneg (by omega),e1,Zw (by omega) (by omega)];omega
theorem Z0w {l:List UInt8}(h0:0<l.length) (h:l.length≤20000):enP l=(((l.length-1) % 9+1:Nat):Int):=by
 have e1:i64.wrap ((l.length:Int)-1)=(l.length:Int)-1:=Zw (by omega) (by omega);unfold enP;rw[e1,Int.tmod_eq_emod_of_nonneg (by omega),Zw (by omega) (by omega)];omega
theorem Z0x {a b:Log}(h1:Z3 a) (h2:Z3 b):Z3 (a++b):=fun x hx=>(List.mem_append.1 hx).elim (h1 x) (h2 x)
def ZbI (s:ByteArray) (m e:Nat):ByteArray:=⟨⟨(s.data.toList.drop m).take e⟩⟩
theorem ZjM {s:ByteArray}{m e:Nat}(h:m+e≤s.size):(ZbI s m e).size=e:=by
 show ((s.data.toList.drop m).take e).length=e;have:s.data.toList.length=s.size:=rfl;rw[List.length_take,List.length_drop];omega
theorem Ziw {s:ByteArray}{m e j:Nat}(hj:j<e):byT (ZbI s m e) j=byT s (m+j):=by
 unfold byT ZbI;have:((s.data.toList.drop m).take e).getD j 0=s.data.toList.getD (m+j) 0:=by
  simp only[List.getD,List.getElem?_take,List.getElem?_drop,if_pos hj]
 show ((((s.data.toList.drop m).take e).getD j 0).toNat:Int)=_;rw[this]
def Zqf (s:ByteArray) (r:Nat) (y:Lf):Prop:=∃ (m:Nat) (v:Value) (g:Nat→Value),y.1=qF9 (bS (s.data.toList.drop m)) (sl 0 0 (db 4294967296 (zC (dgF s) m)).length (psN s)) v++tl 34 g∧y.2.1=hW1 (wU (dg (psN s) ((zC (dgF s) m:Nat):Int)))∧m≤s.size∧(m=0∨(s.size-m) % 9=0)∧r=s.size-m
def Z5s (s:ByteArray) (y:Lf):Prop:=∃ (v:Value) (g:Nat→Value),y.1=qF9 (bS []) (sl 0 0 (db 4294967296 (psV s)).length (psN s)) v++tl 34 g∧y.2.1=hW1 (wU (dg (psN s) ((psV s:Nat):Int)))
theorem ZuW {s:ByteArray}(hs:ZoC s) (h2:s.size≤20000) (r:Nat) (y:Lf) (h:Zqf s r y):
  Runs (Zr prog Zf Zei Zml) (qL9 f75) y fun e z=>match e with | none=>∃ r',r'<r∧Zqf s r' z | some none=>False | some (some id')=>id'=0∧Z5s s z:=by
 obtain⟨m,v,g,ht,hh,hm,hm9,hr⟩:=h;obtain⟨t,h',sc⟩:=y;simp only at ht hh;subst ht hh;have hsz:s.data.toList.length=s.size:=rfl;by_cases hc:m<s.size
 ·obtain⟨l,hl⟩:∃ l,l=s.data.toList.drop m:=⟨_,rfl⟩;have ll:l.length=s.size-m:=by rw[hl,List.length_drop,hsz]
  have eE:=Z0w (l:=l) (by omega) (by omega);obtain⟨e,he⟩:∃ e:Nat,e=(l.length-1) % 9+1:=⟨_,rfl⟩;rw[← he] at eE;have e1:m+e≤s.size:=by omega
  have e9:e≤9:=by omega
  have hps:=ZjM e1;have eT:(enP l).toNat=e:=by rw[eE,Xg]
  have hdig:∀ j,j<e→dgF (ZbI s m e) j=dgF s (m+j):=fun j hj=>by unfold dgF;rw[Ziw hj]
  have hall:ZoC (ZbI s m e):=fun j hj=>by
   rw[hps] at hj;rw[Ziw hj];exact hs (m+j) (by omega)
  have eP:zC (dgF (ZbI s m e)) (ZbI s m e).size=zC (fun j=>dgF s (m+j)) e:=by
   rw[hps];exact Zej e hdig
  obtain⟨V,hV⟩:∃ V,V=zC (dgF s) m:=⟨_,rfl⟩;obtain⟨P,hP⟩:∃ P,P=zC (fun j=>dgF s (m+j)) e:=⟨_,rfl⟩;have hadd:=Zgu (f:=dgF s) m e;rw[← hV,← hP] at hadd;have hPlt:P<10^e:=by
   rw[hP];exact ZbV e fun j hj=>(ZeY hs (show m+j<s.size by omega)).2
  have hP9:P<1000000000:=Nat.lt_of_lt_of_le hPlt (Z5o e9);have hVe:V*10^e=V*1000000000:=by
   rcases hm9 with h0 | h9
   ·have:V=0:=by rw[hV,h0];rfl
    rw[this,Nat.zero_mul,Nat.zero_mul]
   ·have:e=9:=by omega
    rw[this]
  rw[hVe] at hadd;have hVlt:V*1000000000+P<4294967296^psN s:=by
   rw[← hadd];have h3:=ZbV (f:=dgF s) (m+e) fun j hj=>(ZeY hs (show j<s.size by omega)).2;exact Nat.lt_of_lt_of_le h3 (Zmo (by unfold psN;omega))
  obtain⟨n1,n2,n3,n4⟩:=Z0v hP9 hVlt;have hC:psN s<10000:=by unfold psN;omega
  have hsm:ZA (psN s)=true:=Zo.2 (by unfold za;omega);have ec:Zx (wU (dg (psN s) (V:Int))) 0 (db 4294967296 V).length=db 4294967296 V:=by rw[Zmi,n1]
  have eV:vN (db 4294967296 V)=(V:Int):=by rw[Zhm (Z0p V),ZbC (by omega)]
  have hpT:ppT (Zx (wU (dg (psN s) (V:Int))) 0 (db 4294967296 V).length) (ZbI s m e)=((V*1000000000+P:Nat):Int):=by
   unfold ppT;rw[ec,eV,eP,← hP];omega
  have hpQ:ppQ (wU (dg (psN s) (V:Int))) (db 4294967296 V).length (ZbI s m e)=((V*1000000000+P:Nat):Int)/4294967296^(db 4294967296 V).length:=by
   unfold ppQ;rw[hpT]
  have hlog:Z3 (ZyT (wU (dg (psN s) (V:Int))) tU (db 4294967296 V).length (psN s) (ZbI s m e)):=by
   refine Za (Nat.beq_refl _) (Za ?_ (Za (Xa ((ZbD _).2 hall)) (Z4 ?_)))
   ·exact z3 (Za2 _ _) (by rw[ZS];omega) n2 hsm
   ·rw[hps,Nat.ble_eq_true_of_le e9,Zo.2 (by omega)];rfl
  have l1:decide (0≤enP l∧enP l≤(l.length:Nat))=true:=Xa ⟨by rw[eE];omega,by rw[eE];omega⟩;have l2:(!(eqN ⟨⟨l⟩⟩))=true:=by
   unfold eqN;rw[Zjz,Xb (by intro hn;rw[hn] at ll;simp at ll;omega)];rfl
  have hdr:l.drop e=s.data.toList.drop (m+e):=by rw[hl,List.drop_drop]
  have htk:(⟨⟨l.take e⟩⟩:ByteArray)=ZbI s m e:=by rw[hl];rfl
  have hstep:∀ z:Lf,(∃ g,z.1=qF9 (bS (l.drop (enP l).toNat)) (sl 0 0 (db 4294967296 (V*1000000000+P)).length (psN s)) (.int .i64 (enP l))++tl 34 g)→z.2.1=hW1 (wU (dg (psN s) ((V*1000000000+P:Nat):Int)))→∃ r',r'<r∧Zqf s r' z:=fun z hz1 hz2=>by
   obtain⟨g',hz1⟩:=hz1;refine⟨s.size-(m+e),by omega,m+e,.int .i64 (enP l),g',?_,?_,e1,.inr (by omega),rfl⟩
   ·rw[hz1,eT,hdr,hadd]
   ·rw[hz2,hadd]
  rw[← hV];rw[← hl];have hG:=fun d=>Z5r l d (db 4294967296 V).length (psN s) v (wU (dg (psN s) (V:Int))) g;rw[eT,htk] at hG;by_cases hq:((V*1000000000+P:Nat):Int)/4294967296^(db 4294967296 V).length=0
  ·obtain⟨q1,q2⟩:=n3 hq;have hG:=hG false;simp only[hpT] at hG;have eM:wU (dg (db 4294967296 V).length ((V*1000000000+P:Nat):Int))++(wU (dg (psN s) (V:Int))).drop (db 4294967296 V).length=wU (dg (psN s) ((V*1000000000+P:Nat):Int)):=by
    rw[← q1];unfold wU;rw[List.map_append,List.map_drop]
   rw[eM] at hG;refine (Zb Zhs hG (Z0x (Za l1 (Za (Xa (hpQ.trans hq)) hlog)) (Za l1 (Z4 l2)))).mono fun e z he=> ?_;obtain⟨rfl,hz1,hz2⟩:=he;refine hstep z ?_ hz2;rw[q2,eT];exact hz1
  ·obtain⟨q0,q1,q2⟩:=n4 hq;have hG:=hG true;simp only[hpT,hpQ] at hG;have eM:wU (dg (db 4294967296 V).length ((V*1000000000+P:Nat):Int))++[uu (((V*1000000000+P:Nat):Int)/4294967296^(db 4294967296 V).length)]++(wU (dg (psN s) (V:Int))).drop ((db 4294967296 V).length+1)=wU (dg (psN s) ((V*1000000000+P:Nat):Int)):=by
    rw[← q1];unfold wU;rw[List.map_append,List.map_append,List.map_drop];rfl
   rw[eM] at hG;have l3:(Nat.blt (db 4294967296 V).length (psN s) && Nat.blt (db 4294967296 V).length (wU (dg (psN s) (V:Int))).length)=true:=by
    rw[Zo.2 q0,Zo.2 (by unfold wU;rw[List.length_map,ZS];exact q0)];rfl
   refine (Zb Zhs hG (Z0x (Za l1 (Za (Xa hq) (Za l3 hlog))) (Za l1 (Z4 l2)))).mono fun e z he=> ?_;obtain⟨rfl,hz1,hz2⟩:=he;refine hstep z ?_ hz2;rw[q2,eT];exact hz1
 ·have hms:m=s.size:=by omega
  have hd:s.data.toList.drop m=[]:=List.drop_eq_nil_of_le (by rw[hsz];omega);rw[hd];refine (Zb Zhs (Z0s _ v _ g) (Z4 rfl)).mono fun e z he=> ?_;obtain⟨rfl,⟨g',hz1⟩,hz2⟩:=he;rw[hms] at hz1 hz2;exact⟨rfl,v,g',hz1,hz2⟩
theorem ZjN {s:ByteArray}(h0:0<s.size) (hs:ZoC s) (h2:s.size≤20000):
  Runs (Zr prog Zf Zei Zml) (ZW (qP9 f75) (.seq (.block 0 (.loop (qL9 f75))) (qE9 f75))) ([.string s]++List.replicate 40 undef,⟨0,[]⟩,[]) fun e z=>(e=none∨e=some none)∧ZV prog f75 z.1 z.2.1=some (.tuple #[sl 0 0 (db 4294967296 (psV s)).length (psN s),.nilIface])∧∃ r,z.2.1.blk? 0=some (wU (dg (psN s) ((psV s:Nat):Int))++r,tU):=by
 have hcp:=ZuV h2;have hC:psN s<10000:=by unfold psN;omega
 have eN:(ZuU s).toNat=psN s:=by rw[hcp,Xg]
 have hix:decide (ixV s≥0)=false:=Xb ((ZbD s).2 hs);have hne:eqN s=false:=by
  show ((⟨⟨s.data.toList⟩⟩:ByteArray)==⟨⟨[]⟩⟩)=false;rw[Zjz];refine Xb fun h=> ?_;have:s.size=0:=by show s.data.toList.length=0;rw[h];rfl
  omega
 have hpre:=Z0r s;rw[eN] at hpre;have lm:ZI 4 0 (ZuU s)=true:=by rw[hcp];unfold ZI;exact Xa ⟨by omega,by omega,by omega,by omega⟩
 refine Zv Zhs hpre (Za lm (Za (Xb (by omega)) (Za hix (Za rfl (Z4 hne))))) fun g=> ?_;have z0:∀ n,wU (dg n 0)=List.replicate n (.int .u32 0):=by
  intro n
  induction n with
  | zero=>rfl
  | succ n ih=>
   rw[List.replicate_succ,← ih];rfl
 refine Runs.seq (P1:=fun e y=>e=none∧Z5s s y) ?_ ?_ (fun e y he=>by cases he.1)
 ·refine (Runs.forLoop (R:=fun _=>False) (P:=Z5s s) (Zqf s) (ZuW hs h2) (n:=s.size) ⟨0,undef,g,?_,?_,by omega,.inl rfl,rfl⟩).mono fun e z hz=> ?_
  ·rw[show zC (dgF s) 0=0 from rfl,zp];rfl
  ·show hW1 _=_;rw[show zC (dgF s) 0=0 from rfl,show (((0:Nat):Nat):Int)=0 from rfl,z0]
  ·match e,hz with
   | none,hz=>exact⟨rfl,hz⟩
 ·rintro⟨t,hh,sc⟩ ⟨_,v,g',e1,e2⟩;simp only at e1 e2;subst e1 e2;have hlt:psV s<4294967296^psN s:=Nat.lt_of_lt_of_le (ZbV (f:=dgF s) s.size fun j hj=>(ZeY hs hj).2) (Zmo (by unfold psN;omega));have hle:=Zck.2 hlt;obtain⟨k,hk⟩:∃ k,psN s=(db 4294967296 (psV s)).length+k:=⟨psN s-(db 4294967296 (psV s)).length,by omega⟩;have ec:Zx (wU (dg (psN s) ((psV s:Nat):Int))) 0 (db 4294967296 (psV s)).length=db 4294967296 (psV s):=by
   rw[Zmi,hk,Zmn];exact Z0u _
  have etr:Zl (Zx (wU (dg (psN s) ((psV s:Nat):Int))) 0 (db 4294967296 (psV s)).length)=(db 4294967296 (psV s)).length:=by
   rw[ec];exact (ZdY (by omega) _).2
  have hsm:ZA (psN s)=true:=Zo.2 (by unfold za;omega);refine (Zb Zhs (Z0t _ v _ _ _ g') (Z4 (z3 (Za2 _ _) (by rw[ZS];omega) hle hsm))).mono fun e z he=> ?_;obtain⟨rfl,⟨g2,z1⟩,z2⟩:=he;rw[etr] at z1;refine⟨.inr rfl,by rw[z1,z2];rfl,[],by rw[z2,List.append_nil];rfl⟩
def okP (s:ByteArray):Bool:=decide (0<s.size) && decide (¬ ixV s≥0)
theorem Zht (s:ByteArray):okP s=true↔0<s.size∧ZoC s:=by
 unfold okP;rw[Xh,Xi,Xi,ZbD]
def gPs:Zad:=fun vals h s=>
 match vals,s with
 | [.string b],.inr (.inr (.inr (.inl false)))::s'=>some (.tuple #[Zp,Zcu 3],h,s',[(okP b,false)])
 | [.string b],.inr (.inr (.inr (.inl true))):: .inr (.inl V)::s'=>some (.tuple #[sl h.n 0 (db 4294967296 V.toNat).length (psN b),.nilIface],h.push (wU (dg (psN b) (V.toNat:Nat))) tU,s',[(decide (psV b=V.toNat),true),(okP b,true),(Nat.ble b.size 20000,true)])
 | _,_=>none
theorem Z5t:(⟨0,[]⟩:Hp).rows:=⟨rfl,fun b x hx=>by have:b<0:=Hp.blk_lt hx;omega⟩
theorem Z0y:Z8 75 gPs:=by
 intro vals h s v h' s' lg hg hl m B w E hv;unfold gPs at hg;split at hg
 ·rename_i b s2;cases hg;have l1:=hl _ Xf;have hw:∀ w,Calls prog 75 #[.string b] w fun r w'=>r= .returned (.tuple #[Zp,Zcu 3])∧Zal w w':=fun w=>by
   by_cases h0:b.data.toList=[]
   ·refine Zc Zhs (Z9a b) (Z4 ?_) (by rfl) (by rfl) w;show ((⟨⟨b.data.toList⟩⟩:ByteArray)==⟨⟨[]⟩⟩)=true;rw[Zjz];exact Xa h0
   ·have hne:eqN b=false:=by
     show ((⟨⟨b.data.toList⟩⟩:ByteArray)==⟨⟨[]⟩⟩)=false;rw[Zjz];exact Xb h0
    have hsz:0<b.size:=List.length_pos_iff.2 h0;have hix:ixV b≥0:=by
     rcases Classical.em (ixV b≥0) with h1 | h1
     ·exact h1
     ·exfalso
      have:okP b=true:=(Zht b).2 ⟨hsz,(ZbD b).1 h1⟩;rw[this] at l1;cases l1
    exact Zc Zhs (Z9b b) (Za (Xa hix) (Za rfl (Z4 hne))) (by rfl) (by rfl) w
  refine (hw w).mono fun r w' hr=> ?_;obtain⟨rfl,hc⟩:=hr;obtain⟨E',hb⟩:=zc E hc;exact⟨m,by rw[ZC (by rfl)],Agree.refl _ _,E',hb,Nat.le_refl _,by rfl⟩
 ·rename_i b V s2;cases hg;obtain⟨l1,q⟩:=ZoD hl;obtain⟨l2,q⟩:=ZoD q;obtain⟨l3,_⟩:=ZoD q;have l1:=Xc l1;obtain⟨h0,hd⟩:=(Zht b).1 l2;have h2:=Nat.le_of_ble_eq_true l3;rw[← l1];have e:rn (fun _=>h.n) (Value.tuple #[sl 0 0 (db 4294967296 (psV b)).length (psN b),.nilIface])= .tuple #[sl h.n 0 (db 4294967296 (psV b)).length (psN b),.nilIface]:=by kernel_rfl
  have:=ZE (T:=Zr prog Zf Zei Zml) func75 ZuT (h0:=⟨0,[]⟩) Z5t (vals:=[.string b]) (fun v hv=>by rw[List.mem_singleton.1 hv];rfl) (k:=0) (cs:=wU (dg (psN b) ((psV b:Nat):Int))) (ty:=tU) (Zbb _) (by kernel_rfl) (ZjN h0 hd h2).w (by rfl) E (s:=fun i=>i) (fun i x hx=>by have:i<0:=Hp.blk_lt hx;omega);rw[e] at this;exact this
 ·cases hg
end Go.Proofs.YtjlponbdflkbjaaGreatDoor.Na
namespace Go.Proofs.YtjlponbdflkbjaaGreatDoor.Na
open Go.Proofs.Tryz
open Go.KRun Go.Nt
set_option maxRecDepth 100000
set_option linter.unusedVariables false
theorem Z5u (u:Int):Z7 (Zm (Zk prog Zf Zn true) 3000 114 [.int .u64 u] [tst false,tst false,tst false,tst false]) (Zfy 0 u) [lt8 u,geq u 256 false,geq u 65536 false,geq u 4294967296 false,nz]:=by and_intros<;>kernel_rfl
theorem Z5v (u:Int):Z7 (Zm (Zk prog Zf Zn true) 3000 114 [.int .u64 u] [tst false,tst false,tst false,tst true]) (Zfy 8 (shd u 8)) [lt8 (shd u 8),nz,geq u 256 true,geq u 65536 false,geq u 4294967296 false,nz]:=by and_intros<;>kernel_rfl
theorem Zmp (u:Int) (h0:0≤u) (h1:u<65536) (w:World):Calls prog 114 #[.int .u64 u] w fun e w'=>e= .returned (.int .i64 (bitLen u.toNat:Nat))∧Zal w w':=by
 obtain⟨U,rfl⟩:=Int.eq_ofNat_of_zero_le h0;rw[Xg];have p8:(2:Nat)^8=256:=rfl;have step:∀ {v:Value}{s:List Dec}{cs:Log},Z7 (Zm (Zk prog Zf Zn true) 3000 114 [.int .u64 (U:Int)] s) v cs→Z3 cs→v= .int .i64 (bitLen U:Nat)→Calls prog 114 #[.int .u64 (U:Int)] w fun e w'=>e= .returned (.int .i64 (bitLen U:Nat))∧Zal w w':=
  fun {v s cs} hf hc hv=>by subst hv;exact Zc (Zj Zd) hf hc (by rfl) (by rfl) w
 by_cases c:U<256
 ·obtain⟨e1,e2⟩:=zV (m:=0) (by omega) (by omega) c;exact step (Z5u U) (Zi e2 (Zi (Zfz (by omega)) (Zi (Zfz (by omega)) (Zi (Zfz (by omega)) (Zt Zbc))))) (by rw[e1];congr 1;omega)
 ·have l:=ZaC U 8 (by omega);obtain⟨e1,e2⟩:=zV (m:=8) (Z:=U/2^8) (by omega) (by omega) (by omega);rw[← Zeb] at e1 e2;exact step (Z5v U) (Zi e2 (Zi Zbc (Zi (Zl8 (by omega)) (Zi (Zfz (by omega)) (Zi (Zfz (by omega)) (Zt Zbc)))))) (by rw[e1];congr 1;omega)
def ZuX:Ans:=fun vals s=>
 match vals with
 | [.int .u64 x]=>some (.int .i64 (bitLen x.toNat:Nat),s,[(decide (0≤x∧x<65536),true)])
 | _=>none
theorem Zqg:ZR 114 ZuX:=by
 intro vals s v s' lg h hl w;unfold ZuX at h;split at h
 ·cases h;have hr:=hl _ Xf;simp only[Xi] at hr;exact Zmp _ hr.1 hr.2 w
 ·cases h
def ZaM:Con:=alt 114 ZuX Zn
theorem Zqh:ConOk ZaM:=Z9 func114 rfl Zqg Zd
def Z4p:Hc:=zS 112 Zgm hcN
theorem ZuY:HcOk Z4p:=Z1 func112 rfl ZbT Zam
theorem ZuZ:f113.body=some (Zs f113):=by kernel_rfl
end Go.Proofs.YtjlponbdflkbjaaGreatDoor.Na
namespace Go.Proofs.YtjlponbdflkbjaaGreatDoor
open Go.Proofs.Tryz
open Go.IntKind
open Go.KRun Go.Nt
set_option maxRecDepth 100000
set_option linter.unusedVariables false
def Z5w (F:Func):List Code:=[Z2 (Zs F),Z2 (Zz (Zs F)),Z2 (Zz (Zz (Zs F)))]
def Z5x (F:Func):Code:=Z2 (Z2 (Zz (Zz (Zz (Zs F)))))
def Zdz (F:Func):Code:=cIn (cIn (Zz (Z2 (Zz (Zz (Zz (Zs F)))))))
def Z5y (F:Func):Code:=Zz (Zz (Zz (Zz (Zs F))))
theorem Zqi:f93.body=some (ZW (Z5w f93) (.seq (.seq (Z5x f93) (.block 0 (.loop (Zdz f93)))) (Z5y f93))):=by kernel_rfl
def sv (A:List Int) (b c i:Int):Int:=u64.wrap (c+u64.wrap (u64.wrap (atN A i)*u64.wrap b))
def ZeZ (x:List Value×TypeId):Hp:=⟨1,[x]⟩
def ZfZ (lo:List Value) (x:List Value×TypeId):Hp:=⟨2,[(lo,tU),x]⟩
def Z4q (w:Nat):List Dec:=match w with | 0=>[cmp true] | _=>[cmp false,cmp true]
def Z0z (w:Nat) (n:Nat) (k i:Int):Log:=match w with | 0=>[(decide (i<n),true)] | _=>[(decide (k>0),true),(decide (i<n),false)]
def rP' (h:Hp) (p:Option Addr) (n c:Nat):Bool×Bool:=(zJ h p n c,true)
theorem Zva (p:Option Addr) (n c:Nat) (b e:Int) (h:Hp):Zg (evL (Zr prog Zf Zn hcV) 100 (Z5w f93) ([.slice p n c,.int .u32 b,.int .u32 e]++List.replicate 38 undef,h,[]) ⟨[],[],[]⟩) 9 32 none [.slice p n c,.int .u32 b,.int .u32 e,undef,undef,undef,Zp,Zp,.int .u64 (u64.wrap e)] h []:=by and_intros<;>kernel_rfl
theorem Z00 (p:Option Addr) (n c:Nat) (b e k:Int) (h:Hp) (g:Nat→Value):Zg (evC (Zr prog Zf Zn hcV) 100 false (Z5x f93) ([.slice p n c,.int .u32 b,.int .u32 e,undef,undef,undef,Zp,Zp,.int .u64 k]++tl 32 g,h,[]) ⟨[],[],[]⟩) 10 31 none [.slice p n c,.int .u32 b,.int .u32 e,undef,undef,undef,Zp,Zp,.int .u64 k,.int .i64 0] h []:=by and_intros<;>kernel_rfl
theorem Zqj (p:Option Addr) (n c:Nat) (b e k i:Int) (x:List Value×TypeId) (g:Nat→Value):Zg (evC (Zr prog Zf Zn hcV) 100 false (Zdz f93) ([.slice p n c,.int .u32 b,.int .u32 e,undef,undef,undef,Zp,Zp,.int .u64 k,.int .i64 i]++tl 31 g,ZeZ x,Z4q 0++[cmp true]) ⟨[],[],[]⟩) 10 31 none [.slice p n c,.int .u32 b,.int .u32 e,undef,undef,undef,Zp,sl 2 0 1 grown,.int .u64 (u64.wrap ((sv (Zq (ZeZ x) p n) b k i).tdiv 65536)),.int .i64 (i64.wrap (i+1))] ⟨3,[([.int .u32 (u32.wrap ((sv (Zq (ZeZ x) p n) b k i).tmod 65536))],tU),([.int .u32 (u32.wrap ((sv (Zq (ZeZ x) p n) b k i).tmod 65536))],tU),x]⟩ ((decide ((65536:Int)=0),false)::rP' (ZeZ x) p n c::Z0z 0 n k i):=by and_intros<;>kernel_rfl
theorem Zqk (p:Option Addr) (n c:Nat) (b e k i:Int) (x:List Value×TypeId) (g:Nat→Value):Zg (evC (Zr prog Zf Zn hcV) 100 false (Zdz f93) ([.slice p n c,.int .u32 b,.int .u32 e,undef,undef,undef,Zp,Zp,.int .u64 k,.int .i64 i]++tl 31 g,ZeZ x,Z4q 1++[cmp true]) ⟨[],[],[]⟩) 10 31 none [.slice p n c,.int .u32 b,.int .u32 e,undef,undef,undef,Zp,sl 2 0 1 grown,.int .u64 (u64.wrap ((sv (Zq (ZeZ x) p n) b k i).tdiv 65536)),.int .i64 (i64.wrap (i+1))] ⟨3,[([.int .u32 (u32.wrap ((sv (Zq (ZeZ x) p n) b k i).tmod 65536))],tU),([.int .u32 (u32.wrap ((sv (Zq (ZeZ x) p n) b k i).tmod 65536))],tU),x]⟩ ((decide ((65536:Int)=0),false)::rP' (ZeZ x) p n c::Z0z 1 n k i):=by and_intros<;>kernel_rfl
theorem Zmq (p:Option Addr) (n c z:Nat) (b e k i:Int) (x:List Value×TypeId) (lo:List Value) (g:Nat→Value):Zg (evC (Zr prog Zf Zn hcV) 100 false (Zdz f93) ([.slice p n c,.int .u32 b,.int .u32 e,undef,undef,undef,Zp,sl 1 0 z grown,.int .u64 k,.int .i64 i]++tl 31 g,ZfZ lo x,Z4q 0++[cmp true,at_]) ⟨[],[],[]⟩) 10 31 none [.slice p n c,.int .u32 b,.int .u32 e,undef,undef,undef,Zp,sl 3 0 (z+1) grown,.int .u64 (u64.wrap ((sv (Zq (ZfZ lo x) p n) b k i).tdiv 65536)),.int .i64 (i64.wrap (i+1))] ⟨4,[(lo++[.int .u32 (u32.wrap ((sv (Zq (ZfZ lo x) p n) b k i).tmod 65536))],tU),([.int .u32 (u32.wrap ((sv (Zq (ZfZ lo x) p n) b k i).tmod 65536))],tU),([],2*za),x]⟩ ((Zab tU (lo,tU) ([.int .u32 (u32.wrap ((sv (Zq (ZfZ lo x) p n) b k i).tmod 65536))],tU) z 0 1,true)::(decide ((65536:Int)=0),false)::rP' (ZfZ lo x) p n c::Z0z 0 n k i):=by and_intros<;>kernel_rfl
theorem Zmr (p:Option Addr) (n c z:Nat) (b e k i:Int) (x:List Value×TypeId) (lo:List Value) (g:Nat→Value):Zg (evC (Zr prog Zf Zn hcV) 100 false (Zdz f93) ([.slice p n c,.int .u32 b,.int .u32 e,undef,undef,undef,Zp,sl 1 0 z grown,.int .u64 k,.int .i64 i]++tl 31 g,ZfZ lo x,Z4q 1++[cmp true,at_]) ⟨[],[],[]⟩) 10 31 none [.slice p n c,.int .u32 b,.int .u32 e,undef,undef,undef,Zp,sl 3 0 (z+1) grown,.int .u64 (u64.wrap ((sv (Zq (ZfZ lo x) p n) b k i).tdiv 65536)),.int .i64 (i64.wrap (i+1))] ⟨4,[(lo++[.int .u32 (u32.wrap ((sv (Zq (ZfZ lo x) p n) b k i).tmod 65536))],tU),([.int .u32 (u32.wrap ((sv (Zq (ZfZ lo x) p n) b k i).tmod 65536))],tU),([],2*za),x]⟩ ((Zab tU (lo,tU) ([.int .u32 (u32.wrap ((sv (Zq (ZfZ lo x) p n) b k i).tmod 65536))],tU) z 0 1,true)::(decide ((65536:Int)=0),false)::rP' (ZfZ lo x) p n c::Z0z 1 n k i):=by and_intros<;>kernel_rfl
theorem Zvb (p:Option Addr) (n c:Nat) (b e k i:Int) (v:Value) (h:Hp) (g:Nat→Value):Zg (evC (Zr prog Zf Zn hcV) 100 false (Zdz f93) ([.slice p n c,.int .u32 b,.int .u32 e,undef,undef,undef,Zp,v,.int .u64 k,.int .i64 i]++tl 31 g,h,[cmp false,cmp false]) ⟨[],[],[]⟩) 10 31 (some (some 0)) [.slice p n c,.int .u32 b,.int .u32 e,undef,undef,undef,Zp,v,.int .u64 k,.int .i64 i] h [(decide (k>0),false),(decide (i<n),false)]:=by and_intros<;>kernel_rfl
theorem Zvc (p:Option Addr) (n c z:Nat) (b e k i:Int) (x:List Value×TypeId) (lo:List Value) (g:Nat→Value):Zg (evC (Zr prog Zf Zn hcV) 100 false (Z5y f93) ([.slice p n c,.int .u32 b,.int .u32 e,undef,undef,undef,Zp,sl 1 0 z grown,.int .u64 k,.int .i64 i]++tl 31 g,ZfZ lo x,[]) ⟨[],[],[]⟩) 7 34 (some none) [.slice p n c,.int .u32 b,.int .u32 e,undef,undef,undef,sl 1 0 (Zl (Zx lo 0 z)) (Zl (Zx lo 0 z))] (ZfZ lo x) [(Zbm tU lo 0 z grown,true)]:=by and_intros<;>kernel_rfl
theorem Zms (p:Option Addr) (n c:Nat) (b e:Int) (h:Hp):Zg (evC (Zr prog Zf Zn hcV) 100 false (Zs f93) ([.slice p n c,.int .u32 b,.int .u32 e]++List.replicate 38 undef,h,[cmp false,cmp false]) ⟨[],[],[]⟩) 7 34 (some none) [.slice p n c,.int .u32 b,.int .u32 e,undef,undef,undef,Zp] h [(decide (u64.wrap e>0),false),(decide ((0:Int)<n),false)]:=by and_intros<;>kernel_rfl
theorem Zcl {n:Int}(h0:0≤n) (h1:n<18446744073709551616):u64.wrap n=n:=by simp [IntKind.wrap,IntKind.bits,IntKind.signed];omega
theorem Z5z {A:List Int}(hA:∀ x∈A,Dg 65536 x) {b k:Nat}(hb:b<4294967296) (hk:k<4294967296) (i:Nat):sv A b k i=((k+dgN A i*b:Nat):Int):=by
 have h1:=(zy hA i).1;have h2:=(zy hA i).2;have hp:dgN A i*b≤65535*4294967295:=Nat.mul_le_mul (by omega) (by omega);have e0:atN A (i:Int)=((dgN A i:Nat):Int):=by
  have:=Zed hA i;rw[Zaq];unfold dgN;have:=this.1;omega
 unfold sv;rw[e0,Zcl (n:=((dgN A i:Nat):Int)) (by omega) (by omega),Zcl (n:=(b:Int)) (by omega) (by omega)];have e1:((dgN A i:Nat):Int)*(b:Int)=((dgN A i*b:Nat):Int):=by simp
 rw[e1,Zcl (n:=((dgN A i*b:Nat):Int)) (by omega) (by omega),Zcl (by omega) (by omega)];omega
theorem ZjO {O:List Int}{A:List Int}{i k b e:Nat}(hO:O.length=i) (h:vb 65536 O+65536^i*k=vb 65536 (A.take i)*b+e):
  vb 65536 (O++[(((k+dgN A i*b) % 65536:Nat):Int)])+65536^(i+1)*((k+dgN A i*b)/65536)=vb 65536 (A.take (i+1))*b+e:=by
 rw[Zda,hO,Xg,Zag,Nat.add_mul];have h2:=Nat.div_add_mod (k+dgN A i*b) 65536;have h3:65536^i*(k+dgN A i*b)=65536^i*(65536*((k+dgN A i*b)/65536))+65536^i*((k+dgN A i*b) % 65536):=by rw[← Nat.mul_add,h2]
 have h4:65536^i*(k+dgN A i*b)=65536^i*k+65536^i*(dgN A i*b):=Nat.mul_add _ _ _;have h5:65536^(i+1)*((k+dgN A i*b)/65536)=65536^i*(65536*((k+dgN A i*b)/65536)):=by rw[Nat.pow_succ,Nat.mul_assoc]
 have h6:65536^i*(A.getD i 0).toNat*b=65536^i*(dgN A i*b):=by rw[Nat.mul_assoc];rfl
 rw[h5,h6];omega
section
variable {x : List Value × TypeId} {p : Option Addr} {n c : Nat} {A : List Int}
theorem Zix (NA:Nu 0 x p n c A) {h:Hp}(h0:h.blk? 0=some x):∀ i z,(⟨1,[x]⟩:Hp).blk? i=some z→h.blk? i=some z∧∀ v∈z.1,still v=true:=fun i z hz=>by
 have hi:i=0:=by have:i<1:=Hp.blk_lt hz;omega
 subst hi;have:z=x:=(Option.some.inj hz).symm;subst this;exact⟨h0,NA.st⟩
def sFr (p:Option Addr) (n c:Nat) (b e:Nat) (out:Value) (k i:Nat):List Value:=[.slice p n c,.int .u32 ((b:Nat):Int),.int .u32 ((e:Nat):Int),undef,undef,undef,Zp,out,.int .u64 ((k:Nat):Int),.int .i64 ((i:Nat):Int)]
def Z50 (x:List Value×TypeId) (p:Option Addr) (n c b e:Nat) (O:List Int) (i k:Nat) (Y:Lf):Prop:=
 (i=0∧(∃ g,Y.1=sFr p n c b e Zp k i++tl 31 g)∧Y.2.1=ZeZ x)∨(0<i∧(∃ g,Y.1=sFr p n c b e (sl 1 0 i grown) k i++tl 31 g)∧Y.2.1=ZfZ (wU O) x)
theorem Zmt (NA:Nu 0 x p n c A) (hA:∀ x∈A,Dg 65536 x) {b e k i:Nat}(hb:b<4294967296) {O:List Int}(hk:k<4294967296) (hi:i<1073741823) (hO:O.length=i) (hgo:i<n∨0<k) {Y:Lf}(hY:Z50 x p n c b e O i k Y):
  RunsW (Zr prog Zf Zn hcV) (Zdz f93) Y fun ex z=>ex=none∧(∃ g,z.1=sFr p n c b e (sl 1 0 (i+1) grown) ((k+dgN A i*b)/65536) (i+1)++tl 31 g)∧z.2.1=ZfZ (wU (O++[(((k+dgN A i*b) % 65536:Nat):Int)])) x:=by
 obtain⟨t,h',s⟩:=Y;have hd1:=(zy hA i).1;have hp:dgN A i*b≤65535*4294967295:=Nat.mul_le_mul (by omega) (by omega);have es:=Z5z hA hb hk i;have e1:u32.wrap ((sv A b k i).tmod 65536)=(((k+dgN A i*b) % 65536:Nat):Int):=by rw[es,Int.tmod_eq_emod_of_nonneg (by omega),zk (by omega) (by omega)];omega
 have e2:u64.wrap ((sv A b k i).tdiv 65536)=(((k+dgN A i*b)/65536:Nat):Int):=by rw[es,Int.tdiv_eq_ediv_of_nonneg (by omega),Zcl (by omega) (by omega)];omega
 have e3:i64.wrap ((i:Int)+1)=((i+1:Nat):Int):=by rw[Zw (by omega) (by omega)];omega
 have hw:∃ w,w≤1∧Z3 (Z0z w n k i):=by
  by_cases ha:i<n
  ·exact⟨0,by omega,Zt (Xa (by omega))⟩
  ·exact⟨1,by omega,okW (Xa (by omega)) (Zt (Xb (by omega)))⟩
 obtain⟨w,hw1,hl⟩:=hw;rcases hY with ⟨h0,⟨g,ht⟩,hh⟩ | ⟨h0,⟨g,ht⟩,hh⟩
 ·simp only at ht hh;subst ht hh;have r0:=NA.row (ZeZ x) rfl;have hO':O=[]:=List.length_eq_zero_iff.1 (by omega);have fin:RunsW (Zr prog Zf Zn hcV) (Zdz f93) (sFr p n c b e Zp k i++tl 31 g,ZeZ x,s) fun ex z=>ex=none∧(∃ g,z.1=[.slice p n c,.int .u32 ((b:Nat):Int),.int .u32 ((e:Nat):Int),undef,undef,undef,Zp,sl 2 0 1 grown,.int .u64 (u64.wrap ((sv A b k i).tdiv 65536)),.int .i64 (i64.wrap ((i:Int)+1))]++tl 31 g)∧z.2.1=⟨3,[([.int .u32 (u32.wrap ((sv A b k i).tmod 65536))],tU),([.int .u32 (u32.wrap ((sv A b k i).tmod 65536))],tU),x]⟩:=by
   match w,hw1,hl with
   | 0,_,hl=>
    have:=Ze (Zh Zd Zu) (s0:=s) (Zqj p n c b e k i x g) (okW rfl (okW r0.1 hl));rw[r0.2] at this;exact this
   | 1,_,hl=>
    have:=Ze (Zh Zd Zu) (s0:=s) (Zqk p n c b e k i x g) (okW rfl (okW r0.1 hl));rw[r0.2] at this;exact this
  rw[e1,e2,e3] at fin;have:=fin.kept (k:=1) (b:=2) (base:=[x]) (y:=([.int .u32 (((k+dgN A i*b) % 65536:Nat):Int)],tU)) (front':=sFr p n c b e (sl 1 0 1 grown) ((k+dgN A i*b)/65536) (i+1)) rfl
   (by simp only[sFr,List.map_cons,List.map_nil,NA.rn (f:=zA 1 2) rfl];kernel_rfl) (Zix NA rfl) rfl (by omega) (fun v hv=>by rw[List.mem_singleton.1 hv];rfl) (fun v hv=>by
    simp only[sFr,List.mem_cons,List.not_mem_nil,or_false] at hv;rcases hv with rfl | rfl | rfl | rfl | rfl | rfl | rfl | rfl | rfl | rfl
    ·exact NA.lt (by omega)
    all_goals rfl)
  refine this.mono fun ex z hz=> ?_;obtain⟨rfl,⟨g',q1⟩,q2⟩:=hz;subst hO' h0;exact⟨rfl,⟨g',q1⟩,q2⟩
 ·simp only at ht hh;subst ht hh;have r0:=NA.row (ZfZ (wU O) x) rfl;have hchk:Zab tU (wU O,tU) ([.int .u32 (u32.wrap ((sv A b k i).tmod 65536))],tU) i 0 1=true:=
   Zba (L:=O) (M:=[u32.wrap ((sv A b k i).tmod 65536)]) hO.symm (show 0<1 by omega) (by show O.length+1≤_;omega)
  have fin:RunsW (Zr prog Zf Zn hcV) (Zdz f93) (sFr p n c b e (sl 1 0 i grown) k i++tl 31 g,ZfZ (wU O) x,s) fun ex z=>ex=none∧(∃ g,z.1=[.slice p n c,.int .u32 ((b:Nat):Int),.int .u32 ((e:Nat):Int),undef,undef,undef,Zp,sl 3 0 (i+1) grown,.int .u64 (u64.wrap ((sv A b k i).tdiv 65536)),.int .i64 (i64.wrap ((i:Int)+1))]++tl 31 g)∧z.2.1=⟨4,[(wU O++[.int .u32 (u32.wrap ((sv A b k i).tmod 65536))],tU),([.int .u32 (u32.wrap ((sv A b k i).tmod 65536))],tU),([],2*za),x]⟩:=by
   match w,hw1,hl with
   | 0,_,hl=>
    have:=Ze (Zh Zd Zu) (s0:=s) (Zmq p n c i b e k i x (wU O) g) (by rw[r0.2];exact okW hchk (okW rfl (okW r0.1 hl)));rw[r0.2] at this;exact this
   | 1,_,hl=>
    have:=Ze (Zh Zd Zu) (s0:=s) (Zmr p n c i b e k i x (wU O) g) (by rw[r0.2];exact okW hchk (okW rfl (okW r0.1 hl)));rw[r0.2] at this;exact this
  rw[e1,e2,e3] at fin;have ew:wU O++[.int .u32 (((k+dgN A i*b) % 65536:Nat):Int)]=wU (O++[(((k+dgN A i*b) % 65536:Nat):Int)]):=by rw[ZX];rfl
  rw[ew] at fin;have:=fin.kept (k:=1) (b:=3) (base:=[x]) (y:=(wU (O++[(((k+dgN A i*b) % 65536:Nat):Int)]),tU)) (front':=sFr p n c b e (sl 1 0 (i+1) grown) ((k+dgN A i*b)/65536) (i+1)) rfl
   (by simp only[sFr,List.map_cons,List.map_nil,NA.rn (f:=zA 1 3) rfl];kernel_rfl) (Zix NA rfl) rfl (by omega) (ZD _) (fun v hv=>by
    simp only[sFr,List.mem_cons,List.not_mem_nil,or_false] at hv;rcases hv with rfl | rfl | rfl | rfl | rfl | rfl | rfl | rfl | rfl | rfl
    ·exact NA.lt (by omega)
    all_goals rfl)
  exact this
def Z51 (x:List Value×TypeId) (p:Option Addr) (n c:Nat) (A:List Int) (b e m:Nat) (Y:Lf):Prop:=
 ∃ (i k:Nat) (O:List Int),O.length=i∧m=n+2-i∧i≤n+2∧k<4294967296∧((i=n+1→k<65536)∧(i=n+2→k=0))∧(∀ x∈O,Dg 65536 x)∧vb 65536 O+65536^i*k=vb 65536 (A.take i)*b+e∧Z50 x p n c b e O i k Y
def Zvd (x:List Value×TypeId) (p:Option Addr) (n c:Nat) (A:List Int) (b e:Nat) (Y:Lf):Prop:=
 ∃ (i:Nat) (O:List Int),O.length=i∧i≤n+2∧(∀ x∈O,Dg 65536 x)∧vb 65536 O=vb 65536 A*b+e∧n≤i∧Z50 x p n c b e O i 0 Y
theorem Zql (NA:Nu 0 x p n c A) (lA:A.length=n) (hA:∀ x∈A,Dg 65536 x) {b e:Nat}(hb:b<4294967296) (he:e<4294967296) (hn:n+3<1073741824) (g:Nat→Value):
  RunsW (Zr prog Zf Zn hcV) (.block 0 (.loop (Zdz f93))) (sFr p n c b e Zp e 0++tl 31 g,ZeZ x,[]) fun ex Y=>match ex with | none=>Zvd x p n c A b e Y | some none=>False | some (some _)=>False:=by
 refine RunsW.forLoop (P:=Zvd x p n c A b e) (R:=fun _=>False) (Z51 x p n c A b e) ?_ (n:=n+2) ⟨0,e,[],rfl,by omega,by omega,he,⟨by omega,by omega⟩,(fun x hx=>by cases hx),by simp [vb],.inl ⟨rfl,⟨g,rfl⟩,rfl⟩⟩;rintro m Y ⟨i,k,O,hO,hm,hi,hk,⟨hk1,hk0⟩,hOd,hval,hY⟩;by_cases hgo:i<n∨0<k
 ·have hmx:i≤n+1:=by
   rcases Nat.lt_or_ge i (n+2) with h | h
   ·omega
   ·have:k=0:=hk0 (by omega);omega
  have r:=Zmt NA hA (e:=e) hb hk (by omega) hO hgo hY;refine r.mono fun ex z hz=> ?_;obtain⟨rfl,z1,z2⟩:=hz;have d1:=(zy hA i).1;have hp:dgN A i*b≤65535*4294967295:=Nat.mul_le_mul (by omega) (by omega);refine⟨n+2-(i+1),by omega,i+1,(k+dgN A i*b)/65536,O++[(((k+dgN A i*b) % 65536:Nat):Int)],by simp [hO],rfl,by omega,by omega,⟨fun he'=> ?_,fun he'=> ?_⟩,fun x hx=> ?_,ZjO hO hval,.inr ⟨by omega,z1,z2⟩⟩
  ·have z1:dgN A i=0:=Zee (by omega);rw[z1];omega
  ·have z1:dgN A i=0:=Zee (by omega);have:=hk1 (by omega);rw[z1];omega
  ·rcases List.mem_append.1 hx with hx | hx
   ·exact hOd x hx
   ·rw[List.mem_singleton.1 hx];exact⟨by omega,by omega⟩
 ·have hk:k=0:=by omega
  subst hk;have ha:n≤i:=by omega
  have out:∀ (v:Value) (h:Hp) (g:Nat→Value) (s:List Dec),RunsW (Zr prog Zf Zn hcV) (Zdz f93) (sFr p n c b e v 0 i++tl 31 g,h,s) fun ex z=>ex=some (some 0)∧(∃ g,z.1=sFr p n c b e v 0 i++tl 31 g)∧z.2.1=h:=fun v h g s=>
   Ze (Zh Zd Zu) (Zvb p n c b e 0 i v h g) (okW rfl (Zt (Xb (by omega))))
  have hv:vb 65536 O=vb 65536 A*b+e:=by
   rw[List.take_of_length_le (by omega)] at hval;omega
  obtain⟨t,h',s⟩:=Y;rcases hY with ⟨h0,⟨g,ht⟩,hh⟩ | ⟨h0,⟨g,ht⟩,hh⟩
  ·simp only at ht hh;subst ht hh;refine (out Zp _ g s).mono fun ex z hz=> ?_;obtain⟨rfl,z1,z2⟩:=hz;exact⟨rfl,i,O,hO,hi,hOd,hv,ha,.inl ⟨h0,z1,z2⟩⟩
  ·simp only at ht hh;subst ht hh;refine (out (sl 1 0 i grown) _ g s).mono fun ex z hz=> ?_;obtain⟨rfl,z1,z2⟩:=hz;exact⟨rfl,i,O,hO,hi,hOd,hv,ha,.inr ⟨h0,z1,z2⟩⟩
theorem Zqm (NA:Nu 0 x p n c A) (lA:A.length=n) (hA:∀ x∈A,Dg 65536 x) {b e:Nat}(hb:b<4294967296) (he:e<4294967296) (hn:n+3<1073741824) (h0:0<n∨0<e) {V:Nat}(hV:V=vb 65536 A*b+e):
  RunsW (Zr prog Zf Zn hcV) (ZW (Z5w f93) (.seq (.seq (Z5x f93) (.block 0 (.loop (Zdz f93)))) (Z5y f93))) ([.slice p n c,.int .u32 ((b:Nat):Int),.int .u32 ((e:Nat):Int)]++List.replicate 38 undef,ZeZ x,[]) fun ex z=>(ex=none∨ex=some none)∧ZV prog f93 z.1 z.2.1=some (sl 1 0 (d16 V).length (d16 V).length)∧∃ r,z.2.1.blk? 1=some (wU (d16 V)++r,tU):=by
 refine Z0 (Zh Zd Zu) (Zva p n c b e (ZeZ x)) (fun x hx=>by cases hx) fun g=> ?_;have ee:u64.wrap ((e:Nat):Int)=((e:Nat):Int):=Zcl (by omega) (by omega);rw[ee];refine Zgs (Ze (Zh Zd Zu) (Z00 p n c b e e (ZeZ x) g) (fun x hx=>by cases hx)) (fun ex y he=>by cases he.1) (P2:=fun ex Y=>match ex with | none=>Zvd x p n c A b e Y | some none=>False | some (some _)=>False) ?_ ?_ ?_
 ·rintro⟨t,h',s⟩ ⟨_,⟨g',ht⟩,hh⟩;simp only at ht hh;subst ht hh;exact RunsW.script (Zql NA lA hA hb he hn g')
 ·intro ex y hy
  match ex,hy with
  | none,hy=>exact hy
  | some id,hy=>exact hy
 ·rintro⟨t,h',s⟩ ⟨i,O,hO,hi,hOd,hv,ha,hY⟩;rcases hY with ⟨e0,_⟩ | ⟨_,⟨g',ht⟩,hh⟩
  ·exfalso
   have hO':O=[]:=List.length_eq_zero_iff.1 (by omega);rw[hO'] at hv;have:vb 65536 []=0:=rfl;omega
  ·simp only at ht hh;subst ht hh;have hrow:Zbm tU (wU O) 0 i grown=true:=by
    rw[← hO];exact Zap (fun x hx=>⟨(hOd x hx).1,by have:=(hOd x hx).2;omega⟩) (by omega) (ZyQ _)
   refine (Ze (Zh Zd Zu) (Zvc p n c i b e 0 i x (wU O) g') (Zt hrow)).mono fun ex z hz=> ?_;obtain⟨rfl,⟨g2,e1⟩,e2⟩:=hz;have et:Zl (Zx (wU O) 0 i)=(d16 V).length:=by
    rw[← hO,ZaO,Zat (by omega) hOd,hv,← hV];rfl
   refine⟨.inr rfl,?_,?_⟩
   ·rw[e1,e2,et];rfl
   ·rw[e2];refine⟨wU (O.drop (Zl O)),?_⟩;have e3:wU (d16 V)++wU (O.drop (Zl O))=wU O:=by
     unfold d16;rw[hV,← hv,← zj (by omega) _ hOd,← ZX,List.take_append_drop]
    rw[e3];rfl
theorem Ziy (NA:Nu 0 x p n c A):(ZeZ x).rows:=by
 refine⟨rfl,fun b z hz=> ?_⟩;have hb:b=0:=by have:b<1:=Hp.blk_lt hz;omega
 subst hb;have:z=x:=(Option.some.inj hz).symm;subst this;exact⟨NA.ros.1,NA.lt0,NA.ros.2⟩
theorem Ziz {h:Hp}{a:Nat}(hx:Zak x.2=false→∃ z r,h.blk? a=some z∧Zak z.2=false∧rt z.2=rt x.2∧z.1=x.1++r):(ZeZ x).fits (fun _=>a) h:=by
 intro i z hz ht;have hb:i=0:=by have:i<1:=Hp.blk_lt hz;omega
 subst hb;have:z=x:=(Option.some.inj hz).symm;subst this;exact hx ht
end
theorem Zmu:f93.body=some (Zs f93):=by kernel_rfl
def ZaV (h:Hp) (p:Option Addr) (n c:Nat) (b e:Int):Bool:=zJ h p n c && dgB (Zq h p n) && Nat.blt (n+3) 1073741824 && decide ((0≤b∧b<4294967296)∧(0≤e∧e<4294967296))
def Z4r:Zad:=fun vals h s=>
 match vals,s with
 | [.slice p n c,.int .u32 b,.int .u32 e],.inr (.inr (.inr (.inl d)))::s'=>
  match d with
  | true=>Zde (vO h p n*b.toNat+e.toNat) h s' [(ZaV h p n c b e,true),(decide (0<n∨0<e),true)]
  | false=>some (Zp,h,s',[(ZaV h p n c b e,true),(decide (0<n∨0<e),false)])
 | _,_=>none
theorem Zhu:Z8 93 Z4r:=by
 intro vals h s v h' s' lg hg hl m B w E hv;unfold Z4r at hg;split at hg
 ·rename_i p n c b e d s2;have key:ZaV h p n c b e=true→∃ b' e':Nat,b=(b':Int)∧e=(e':Int)∧b'<4294967296∧e'<4294967296∧zJ h p n c=true∧(∀ x∈Zq h p n,Dg 65536 x)∧n+3<1073741824:=fun hk=>by
   simp only[ZaV,Xh,Xi] at hk;obtain⟨⟨⟨r1,r2⟩,r3⟩,r4⟩:=hk;exact⟨b.toNat,e.toNat,by omega,by omega,by omega,by omega,r1,Zbw r2,Zo.1 r3⟩
  split at hg
  ·unfold Zde at hg;cases hg;have q1:=hl _ (Xe);have q2:=hl _ (Xd _ Xf);simp only[Xi] at q2;obtain⟨b',e',rfl,rfl,hb,he,r1,r2,r3⟩:=key q1;rw[Xg,Xg];obtain⟨x,p',a,NA,eA,fA⟩:=ZbF 0 r1;have r:=Zqm NA (zK r1) r2 hb he r3 (by omega) rfl;have:=ZE (T:=Zr prog Zf Zn hcV) func93 Zqi (Ziy NA) (vals:=[.slice p' n c,.int .u32 ((b':Nat):Int),.int .u32 ((e':Nat):Int)]) (fun v hv=>by
    simp only[List.mem_cons,List.not_mem_nil,or_false] at hv;rcases hv with rfl | rfl | rfl
    ·exact NA.lt (by show 0<1;omega)
    all_goals rfl) (k:=1) (cs:=wU (d16 (vO h p n*b'+e'))) (ty:=tU) (Zbb _) (by kernel_rfl) r (by rfl) E (s:=fun _=>a) (Ziz fA)
   simp only[List.map_cons,List.map_nil] at this;rw[eA _ rfl] at this;exact this
  ·cases hg;have q1:=hl _ (Xe);have q2:=hl _ (Xd _ Xf);simp only[decide_eq_false_iff_not] at q2;obtain⟨b',e',rfl,rfl,hb,he,r1,r2,r3⟩:=key q1;obtain⟨x,p',a,NA,eA,fA⟩:=ZbF 0 r1;have hr:Runs (Zr prog Zf Zn hcV) (Zs f93) ([.slice p' n c,.int .u32 ((b':Nat):Int),.int .u32 ((e':Nat):Int)]++List.replicate 38 undef,ZeZ x,[]) fun ex z=>(ex=none∨ex=some none)∧ZV prog f93 z.1 z.2.1=some Zp:=by
    refine (Zb (Zh Zd Zu) (Zms p' n c b' e' _) (okW (Xb (by rw[Zcl (by omega) (by omega)];omega)) (Zt (Xb (by omega))))).mono fun ex z he=> ?_;obtain⟨rfl,⟨g,e2⟩,e3⟩:=he;refine⟨.inr rfl,?_⟩;rw[e2,e3];rfl
   have:=ZB (T:=Zr prog Zf Zn hcV) func93 Zmu (Ziy NA) (vals:=[.slice p' n c,.int .u32 ((b':Nat):Int),.int .u32 ((e':Nat):Int)]) (fun v hv=>by
    simp only[List.mem_cons,List.not_mem_nil,or_false] at hv;rcases hv with rfl | rfl | rfl
    ·exact NA.lt (by show 0<1;omega)
    all_goals rfl) (v:=Zp) (by rfl) hr.w E (s:=fun _=>a) (Ziz fA)
   simp only[List.map_cons,List.map_nil] at this;rw[eA _ rfl] at this;exact this
 ·cases hg
end Go.Proofs.YtjlponbdflkbjaaGreatDoor
namespace Go.Proofs.YtjlponbdflkbjaaGreatDoor
open Go.Proofs.Tryz
open Go.IntKind
open Go.KRun Go.Nt
set_option maxRecDepth 100000
def sA (F:Func):Code:=Z2 (Zz (Zs F))
def sR (F:Func):Code:=Zz (Zz (Zs F))
def sR3 (F:Func):Code:=Z2 (sR F)
def sR4 (F:Func):Code:=Z2 (Zz (sR F))
def sR5 (F:Func):Code:=Z2 (Z2 (Zz (Zz (sR F))))
def sL1 (F:Func):Code:=cIn (cIn (Zz (Z2 (Zz (Zz (sR F))))))
def sR9 (F:Func):Code:=Z2 (Zz (Zz (Zz (sR F))))
def sT (F:Func):Code:=Zz (Zz (Zz (Zz (sR F))))
def Z52 (F:Func):Code:=Z2 (Z2 (sT F))
def sL2 (F:Func):Code:=cIn (cIn (Zz (Z2 (sT F))))
def sEn (F:Func):Code:=Zz (sT F)
def sPr (F:Func):List Code:=[Z2 (Zs F),sA F,sR3 F,sR4 F]
theorem Zmv:f55.body=some (ZW (sPr f55) (.seq (.seq (sR5 f55) (.block 0 (.loop (sL1 f55)))) (.seq (sR9 f55) (.seq (.seq (Z52 f55) (.block 2 (.loop (sL2 f55)))) (sEn f55))))):=by kernel_rfl
theorem ZjP:f55.body=some (Zs f55):=by kernel_rfl
def k16 (k:Int):Int:=i64.wrap (k.tdiv 16)
def zz (z:Nat):List Value:=List.replicate z (.int .u32 0)
theorem Zmw (p:Option Addr) (n c:Nat) (k:Value) (h:Hp):Zg (evC (Zr prog Zf Zn hcV) 100 false (Zs f55) ([.slice p n c,k]++List.replicate 48 undef,h,[cmp true]) ⟨[],[],[]⟩) 5 45 (some none) [.slice p n c,k,undef,undef,Zp] h [((n:Int)==0,true)]:=by and_intros<;>kernel_rfl
theorem Zqn (o n c:Nat) (k:Int) (x:List Value×TypeId):Zg (evL (Zr prog Zf Zn hcV) 100 (sPr f55) ([sl 0 o n c,.int .i64 k]++List.replicate 48 undef,⟨1,[x]⟩,[cmp false,at_]) ⟨[],[],[]⟩) 7 43 none [sl 0 o n c,.int .i64 k,undef,undef,Zp,sl 1 0 (k16 k).toNat (k16 k).toNat,.int .u32 1] ⟨2,[(zz (k16 k).toNat,tU),x]⟩ [(ZI 4 (k16 k) (k16 k),true),((n:Int)==0,false)]:=by and_intros<;>kernel_rfl
theorem Zve (a v:Value) (k:Int) (h:Hp) (g:Nat→Value):Zg (evC (Zr prog Zf Zn hcV) 100 false (sR5 f55) ([a,.int .i64 k,undef,undef,Zp,v,.int .u32 1]++tl 43 g,h,[]) ⟨[],[],[]⟩) 8 42 none [a,.int .i64 k,undef,undef,Zp,v,.int .u32 1,.int .i64 0] h []:=by and_intros<;>kernel_rfl
theorem Zvf (a v:Value) (k b i:Int) (h:Hp) (g:Nat→Value):Zg (evC (Zr prog Zf Zn hcV) 100 false (sL1 f55) ([a,.int .i64 k,undef,undef,Zp,v,.int .u32 b,.int .i64 i]++tl 42 g,h,[cmp true,cmp true]) ⟨[],[],[]⟩) 8 42 none [a,.int .i64 k,undef,undef,Zp,v,.int .u32 (u32.wrap (2*b)),.int .i64 (i64.wrap (i+1))] h [(decide (i<k.tmod 16),true),(decide ((16:Int)=0),false)]:=by and_intros<;>kernel_rfl
theorem Zvg (a v:Value) (k b i:Int) (h:Hp) (g:Nat→Value):Zg (evC (Zr prog Zf Zn hcV) 100 false (sL1 f55) ([a,.int .i64 k,undef,undef,Zp,v,.int .u32 b,.int .i64 i]++tl 42 g,h,[cmp true,cmp false]) ⟨[],[],[]⟩) 8 42 (some (some 0)) [a,.int .i64 k,undef,undef,Zp,v,.int .u32 b,.int .i64 i] h [(decide (i<k.tmod 16),false),(decide ((16:Int)=0),false)]:=by and_intros<;>kernel_rfl
theorem Zvh (a v:Value) (k b i:Int) (h:Hp) (g:Nat→Value):Zg (evC (Zr prog Zf Zn hcV) 100 false (sR9 f55) ([a,.int .i64 k,undef,undef,Zp,v,.int .u32 b,.int .i64 i]++tl 42 g,h,[]) ⟨[],[],[]⟩) 9 41 none [a,.int .i64 k,undef,undef,Zp,v,.int .u32 b,.int .i64 i,.int .u32 0] h []:=by and_intros<;>kernel_rfl
theorem Zqo (a v:Value) (k b i:Int) (h:Hp) (g:Nat→Value):Zg (evC (Zr prog Zf Zn hcV) 100 false (Z52 f55) ([a,.int .i64 k,undef,undef,Zp,v,.int .u32 b,.int .i64 i,.int .u32 0]++tl 41 g,h,[]) ⟨[],[],[]⟩) 10 40 none [a,.int .i64 k,undef,undef,Zp,v,.int .u32 b,.int .i64 i,.int .u32 0,.int .i64 0] h []:=by and_intros<;>kernel_rfl
def cy (e x b:Int):Int:=u32.wrap (e+u32.wrap (x*b))
def lAx (l:List Value) (o n:Nat) (i x:Int):Log:=[(decide ((65536:Int)=0),false),(Z5 (l[o+i.toNat*1]?) (.int .u32 x),true),(decide (0≤i∧i<n),true),(decide (i<n),true)]
theorem Zqp (o n c z z':Nat) (b e i x:Int) (l lo:List Value) (j1 j7:Value) (g:Nat→Value):Zg (evC (Zr prog Zf Zn hcV) 100 false (sL2 f55) ([sl 0 o n c,j1,undef,undef,Zp,sl 1 0 z z',.int .u32 b,j7,.int .u32 e,.int .i64 i]++tl 40 g,⟨2,[(lo,tU),(l,tR)]⟩,[cmp true,at_,val (.int .u32 x),cmp true,num 0]) ⟨[],[],[]⟩) 10 40 none [sl 0 o n c,j1,undef,undef,Zp,sl 3 0 (z+1) grown,.int .u32 b,j7,.int .u32 (u32.wrap ((cy e x b).tdiv 65536)),.int .i64 (i64.wrap (i+1))] ⟨4,[(lo++[.int .u32 ((cy e x b).tmod 65536)],tU),([.int .u32 ((cy e x b).tmod 65536)],tU),(lo,tU),(l,tR)]⟩ ((Zdo (lo,tU) ([.int .u32 ((cy e x b).tmod 65536)],tU) z z' 0 1,true)::lAx l o n i x):=by and_intros<;>kernel_rfl
theorem Zqq (o n c z:Nat) (b e i x:Int) (l lo:List Value) (j1 j7:Value) (g:Nat→Value):Zg (evC (Zr prog Zf Zn hcV) 100 false (sL2 f55) ([sl 0 o n c,j1,undef,undef,Zp,sl 1 0 z grown,.int .u32 b,j7,.int .u32 e,.int .i64 i]++tl 40 g,⟨2,[(lo,tU),(l,tR)]⟩,[cmp true,at_,val (.int .u32 x),cmp true,at_]) ⟨[],[],[]⟩) 10 40 none [sl 0 o n c,j1,undef,undef,Zp,sl 3 0 (z+1) grown,.int .u32 b,j7,.int .u32 (u32.wrap ((cy e x b).tdiv 65536)),.int .i64 (i64.wrap (i+1))] ⟨4,[(lo++[.int .u32 ((cy e x b).tmod 65536)],tU),([.int .u32 ((cy e x b).tmod 65536)],tU),([],2*za),(l,tR)]⟩ ((Zab tU (lo,tU) ([.int .u32 ((cy e x b).tmod 65536)],tU) z 0 1,true)::lAx l o n i x):=by and_intros<;>kernel_rfl
theorem Zmx (p:Option Addr) (n c:Nat) (v:Value) (b e i:Int) (h:Hp) (j1 j7:Value) (g:Nat→Value):Zg (evC (Zr prog Zf Zn hcV) 100 false (sL2 f55) ([.slice p n c,j1,undef,undef,Zp,v,.int .u32 b,j7,.int .u32 e,.int .i64 i]++tl 40 g,h,[cmp false]) ⟨[],[],[]⟩) 10 40 (some (some 2)) [.slice p n c,j1,undef,undef,Zp,v,.int .u32 b,j7,.int .u32 e,.int .i64 i] h [(decide (i<n),false)]:=by and_intros<;>kernel_rfl
theorem Zqr (a:Value) (z:Nat) (b e i:Int) (x:List Value×TypeId) (lo:List Value) (j1 j7:Value) (g:Nat→Value):Zg (evC (Zr prog Zf Zn hcV) 100 false (sEn f55) ([a,j1,undef,undef,Zp,sl 1 0 z grown,.int .u32 b,j7,.int .u32 e,.int .i64 i]++tl 40 g,⟨2,[(lo,tU),x]⟩,[at_]) ⟨[],[],[]⟩) 5 45 (some none) [a,j1,undef,undef,sl 3 0 (Zl (Zx (lo++[.int .u32 e]) 0 (z+1))) (Zl (Zx (lo++[.int .u32 e]) 0 (z+1)))] ⟨4,[(lo++[.int .u32 e],tU),([.int .u32 e],tU),([],2*za),x]⟩ [(Zbm tU (lo++[.int .u32 e]) 0 (z+1) grown,true),(Zab tU (lo,tU) ([.int .u32 e],tU) z 0 1,true)]:=by and_intros<;>kernel_rfl
theorem ZjQ (a v:Value) (k:Nat) (h:Hp) (g:Nat→Value):
  Runs (Zr prog Zf Zn hcV) (.block 0 (.loop (sL1 f55))) ([a,.int .i64 (k:Nat),undef,undef,Zp,v,.int .u32 1,.int .i64 0]++tl 42 g,h,[]) fun e Y=>match e with | none=>(∃ g,Y.1=[a,.int .i64 (k:Nat),undef,undef,Zp,v,.int .u32 ((2^(k % 16):Nat):Int),.int .i64 ((k % 16:Nat):Int)]++tl 42 g)∧Y.2.1=h | some none=>False | some (some _)=>False:=by
 have em:(k:Int).tmod 16=((k % 16:Nat):Int):=by rw[Int.tmod_eq_emod_of_nonneg (by omega)];omega
 refine Runs.forLoop (P:=fun Y=>(∃ g,Y.1=[a,.int .i64 (k:Nat),undef,undef,Zp,v,.int .u32 ((2^(k % 16):Nat):Int),.int .i64 ((k % 16:Nat):Int)]++tl 42 g)∧Y.2.1=h) (R:=fun _=>False)
  (fun m Y=>∃ j:Nat,j≤k % 16∧m=k % 16-j∧(∃ g,Y.1=[a,.int .i64 (k:Nat),undef,undef,Zp,v,.int .u32 ((2^j:Nat):Int),.int .i64 (j:Nat)]++tl 42 g)∧Y.2.1=h) ?_ (n:=k % 16) ⟨0,by omega,by omega,⟨g,rfl⟩,rfl⟩
 rintro m ⟨t,h',s⟩ ⟨j,hj,hm,⟨g,ht⟩,hh⟩;simp only at ht hh;subst ht hh;by_cases hlt:j<k % 16
 ·refine (Zb (Zh Zd Zu) (Zvf a v k _ j h' g) (Zi (by rw[em];exact Xa (by omega)) (Zt rfl))).mono fun e z hz=> ?_;obtain⟨rfl,⟨g',z1⟩,z2⟩:=hz;have hp:2^j≤32768:=by
   have:=Nat.pow_le_pow_right (show 0<2 by omega) (show j≤15 by omega);omega
  have e1:u32.wrap (2*((2^j:Nat):Int))=((2^(j+1):Nat):Int):=by
   rw[Nat.pow_succ];generalize 2^j=Q at hp ⊢;rw[zk (by omega) (by omega)];omega
  have e2:i64.wrap ((j:Int)+1)=((j+1:Nat):Int):=by rw[Zw (by omega) (by omega)];omega
  exact⟨k % 16-(j+1),by omega,j+1,by omega,rfl,⟨g',by rw[z1,e1,e2]⟩,z2⟩
 ·have hj':j=k % 16:=by omega
  subst hj';refine (Zb (Zh Zd Zu) (Zvg a v k _ _ h' g) (Zi (by rw[em];exact Xb (by omega)) (Zt rfl))).mono fun e z hz=> ?_;obtain⟨rfl,⟨g',z1⟩,z2⟩:=hz;exact⟨rfl,⟨g',z1⟩,z2⟩
theorem Zgw {L M:List Int}{k c:Nat}(hk:k=L.length) (hc:k=c) (hM:0<M.length) (hb:L.length+M.length≤1073741824):Zdo (wU L,tU) (wU M,tU) k c 0 M.length=true:=by
 subst hc;subst hk;unfold Zdo;simp only[Xh,Bool.not_eq_true',Zah];refine⟨⟨⟨⟨⟨⟨⟨⟨Nat.beq_refl _,Nat.ble_eq_true_of_le hb⟩,by kernel_rfl⟩,Zo.2 (by unfold za;omega)⟩,?_⟩,by kernel_rfl⟩,Nat.ble_eq_true_of_le (by omega)⟩,Zo.2 hM⟩,?_⟩
 ·cases h:Nat.ble (L.length+M.length) L.length
  ·rfl
  ·have:=Nat.le_of_ble_eq_true h;omega
 ·rw[List.drop_zero,← Zah,List.take_length];exact ZsK M
theorem Z01 {e x P:Nat}(he:e<P) (hx:x<65536) (hP:P≤32768):cy e x P=((e+x*P:Nat):Int)∧e+x*P<65536*P:=by
 have h1:x*P≤65535*P:=Nat.mul_le_mul_right P (by omega);have e1:(x:Int)*(P:Int)=((x*P:Nat):Int):=by simp
 unfold cy;rw[e1,zk (n:=((x*P:Nat):Int)) (by omega) (by omega),zk (by omega) (by omega)];omega
theorem Zqs {O:List Int}{z i e x P W:Nat}(hO:O.length=z+i) (h:vb 65536 O+65536^(z+i)*e=65536^z*(P*W)):
  vb 65536 (O++[(((e+x*P) % 65536:Nat):Int)])+65536^(z+(i+1))*((e+x*P)/65536)=65536^z*(P*(W+65536^i*x)):=by
 rw[Zda,Xg,hO,← Nat.add_assoc,Nat.pow_succ,Nat.mul_assoc];have e0:=Nat.mod_add_div (e+x*P) 65536;have e1:65536^(z+i)*((e+x*P) % 65536)+65536^(z+i)*(65536*((e+x*P)/65536))=65536^(z+i)*e+65536^(z+i)*(x*P):=by rw[← Nat.mul_add,e0,Nat.mul_add]
 have e2:65536^z*(P*(W+65536^i*x))=65536^z*(P*W)+65536^(z+i)*(x*P):=by
  rw[Nat.mul_add P,Nat.mul_add (65536^z),Nat.pow_add];congr 1;rw[Nat.mul_assoc (65536^z),Nat.mul_comm x P,Nat.mul_left_comm P]
 omega
section
variable {l : List Value} {o c : Nat} {A : List Int}
def hSt (l:List Value) (o c n z i P e:Nat) (j1 j7:Value) (O:List Int) (Y:Lf):Prop:=
 (i=0∧(∃ g,Y.1=[sl 0 o n c,j1,undef,undef,Zp,sl 1 0 z z,.int .u32 (P:Nat),j7,.int .u32 (e:Nat),.int .i64 (i:Nat)]++tl 40 g)∨(0<i∧∃ g,Y.1=[sl 0 o n c,j1,undef,undef,Zp,sl 1 0 (z+i) grown,.int .u32 (P:Nat),j7,.int .u32 (e:Nat),.int .i64 (i:Nat)]++tl 40 g))∧Y.2.1=⟨2,[(wU O,tU),(l,tR)]⟩
theorem ZjR (hR:Row l o A) (hs:∀ v∈l,still v=true) (hA:∀ x∈A,Dg 65536 x) {z i P e:Nat}{O:List Int}(hO:O.length=z+i) (he:e<P) (hP:P≤32768) (hi:i<A.length) (hz:z+A.length+2<1073741824) {j1 j7:Value}(w1:lt 2 j1=true∧rn (zA 1 3) j1=j1) (w7:lt 2 j7=true∧rn (zA 1 3) j7=j7) {Y:Lf}(hY:hSt l o c A.length z i P e j1 j7 O Y):
  RunsW (Zr prog Zf Zn hcV) (sL2 f55) Y fun ex W=>ex=none∧(∃ g,W.1=[sl 0 o A.length c,j1,undef,undef,Zp,sl 1 0 (z+(i+1)) grown,.int .u32 (P:Nat),j7,.int .u32 (((e+dgN A i*P)/65536:Nat):Int),.int .i64 ((i+1:Nat):Int)]++tl 40 g)∧W.2.1=⟨2,[(wU (O++[(((e+dgN A i*P) % 65536:Nat):Int)]),tU),(l,tR)]⟩:=by
 obtain⟨t,h',s⟩:=Y;have hd:=zy hA i;obtain⟨ec,hlt⟩:=Z01 he hd.1 hP;have e1:(cy e (A.getD i 0) P).tmod 65536=(((e+dgN A i*P) % 65536:Nat):Int):=by rw[← hd.2,ec,Zf0]
 have e2:u32.wrap ((cy e (A.getD i 0) P).tdiv 65536)=(((e+dgN A i*P)/65536:Nat):Int):=by rw[← hd.2,ec,Zf1 (by omega)]
 have e3:i64.wrap ((i:Int)+1)=((i+1:Nat):Int):=by rw[Zw (by omega) (by omega)];omega
 have hlog:Z3 (lAx l o A.length i (A.getD i 0)):=Zi rfl (Zi (by
  show Z5 (l[o+(i:Int).toNat*1]?) _=true;rw[Xg,Nat.mul_one,hR.cell hi];simp [Z5]) (Zi (Xa (by omega)) (Zt (Xa (by omega)))))
 have ew:wU O++[.int .u32 (((e+dgN A i*P) % 65536:Nat):Int)]=wU (O++[(((e+dgN A i*P) % 65536:Nat):Int)]):=by rw[ZX];rfl
 have key:∀ {X:List Value×TypeId},RunsW (Zr prog Zf Zn hcV) (sL2 f55) (t,h',s) (fun ex W=>ex=none∧(∃ g,W.1=[sl 0 o A.length c,j1,undef,undef,Zp,sl 3 0 (z+i+1) grown,.int .u32 (P:Nat),j7,.int .u32 (((e+dgN A i*P)/65536:Nat):Int),.int .i64 ((i+1:Nat):Int)]++tl 40 g)∧W.2.1=⟨4,[(wU (O++[(((e+dgN A i*P) % 65536:Nat):Int)]),tU),([.int .u32 (((e+dgN A i*P) % 65536:Nat):Int)],tU),X,(l,tR)]⟩)→
   RunsW (Zr prog Zf Zn hcV) (sL2 f55) (t,h',s) fun ex W=>ex=none∧(∃ g,W.1=[sl 0 o A.length c,j1,undef,undef,Zp,sl 1 0 (z+(i+1)) grown,.int .u32 (P:Nat),j7,.int .u32 (((e+dgN A i*P)/65536:Nat):Int),.int .i64 ((i+1:Nat):Int)]++tl 40 g)∧W.2.1=⟨2,[(wU (O++[(((e+dgN A i*P) % 65536:Nat):Int)]),tU),(l,tR)]⟩:=fun {X} fin=>
  fin.kept (k:=1) (b:=3) (base:=[(l,tR)]) (y:=(wU (O++[(((e+dgN A i*P) % 65536:Nat):Int)]),tU)) (front':=[sl 0 o A.length c,j1,undef,undef,Zp,sl 1 0 (z+(i+1)) grown,.int .u32 (P:Nat),j7,.int .u32 (((e+dgN A i*P)/65536:Nat):Int),.int .i64 ((i+1:Nat):Int)]) rfl
   (by simp only[List.map_cons,List.map_nil,w1.2,w7.2];kernel_rfl) (fun j x hx=>by
    have hj:j<1:=Hp.blk_lt hx;have hj0:j=0:=by omega
    subst hj0;have hx':x=(l,tR):=(Option.some.inj hx).symm;subst hx';exact⟨rfl,hs⟩) rfl (by omega) (ZD _) (fun v hv=>by
    simp only[List.mem_cons,List.not_mem_nil,or_false] at hv;rcases hv with rfl | rfl | rfl | rfl | rfl | rfl | rfl | rfl | rfl | rfl
    ·rfl
    ·exact w1.1
    ·rfl
    ·rfl
    ·rfl
    ·rfl
    ·rfl
    ·exact w7.1
    ·rfl
    ·rfl)
 obtain⟨hY,hh⟩:=hY;simp only at hY hh;subst hh;rcases hY with ⟨h0,g,ht⟩ | ⟨h0,g,ht⟩
 ·subst ht;have hchk:Zdo (wU O,tU) ([.int .u32 ((cy e (A.getD i 0) P).tmod 65536)],tU) z z 0 1=true:=
   Zgw (L:=O) (M:=[(cy e (A.getD i 0) P).tmod 65536]) (by omega) rfl (show 0<1 by omega) (by show O.length+1≤_;omega)
  have fin:=Ze (Zh Zd Zu) (s0:=s) (Zqp o A.length c z z P e i (A.getD i 0) l (wU O) j1 j7 g) (Zi hchk hlog);rw[e1,e2,e3,ew] at fin;refine key (X:=(wU O,tU)) (fin.mono fun ex W hW=> ?_);subst h0;exact hW
 ·subst ht;have hchk:Zab tU (wU O,tU) ([.int .u32 ((cy e (A.getD i 0) P).tmod 65536)],tU) (z+i) 0 1=true:=
   Zba (L:=O) (M:=[(cy e (A.getD i 0) P).tmod 65536]) hO.symm (show 0<1 by omega) (by show O.length+1≤_;omega)
  have fin:=Ze (Zh Zd Zu) (s0:=s) (Zqq o A.length c (z+i) P e i (A.getD i 0) l (wU O) j1 j7 g) (Zi hchk hlog);rw[e1,e2,e3,ew] at fin;exact key (X:=([],2*za)) fin
def Z9c (l:List Value) (o c z P:Nat) (A:List Int) (j1 j7:Value) (m:Nat) (Y:Lf):Prop:=
 ∃ (i e:Nat) (O:List Int),m=A.length-i∧i≤A.length∧O.length=z+i∧e<P∧(∀ x∈O,Dg 65536 x)∧vb 65536 O+65536^(z+i)*e=65536^z*(P*vb 65536 (A.take i))∧hSt l o c A.length z i P e j1 j7 O Y
def Z53 (l:List Value) (o c z P:Nat) (A:List Int) (j1 j7:Value) (Y:Lf):Prop:=
 ∃ (e:Nat) (O:List Int),O.length=z+A.length∧e<P∧(∀ x∈O,Dg 65536 x)∧vb 65536 O+65536^(z+A.length)*e=65536^z*(P*vb 65536 A)∧hSt l o c A.length z A.length P e j1 j7 O Y
theorem ZjS (hR:Row l o A) (hs:∀ v∈l,still v=true) (hA:∀ x∈A,Dg 65536 x) {z P:Nat}(h0:0<P) (hP:P≤32768) (hz:z+A.length+2<1073741824) {j1 j7:Value}(w1:lt 2 j1=true∧rn (zA 1 3) j1=j1) (w7:lt 2 j7=true∧rn (zA 1 3) j7=j7) (g:Nat→Value):
  RunsW (Zr prog Zf Zn hcV) (.block 2 (.loop (sL2 f55))) ([sl 0 o A.length c,j1,undef,undef,Zp,sl 1 0 z z,.int .u32 (P:Nat),j7,.int .u32 0,.int .i64 0]++tl 40 g,⟨2,[(zz z,tU),(l,tR)]⟩,[]) fun e Y=>match e with | none=>Z53 l o c z P A j1 j7 Y | some none=>False | some (some _)=>False:=by
 have ez:zz z=wU (List.replicate z 0):=by unfold zz wU;rw[List.map_replicate]
 have vz:∀ k,vb 65536 (List.replicate k 0)=0:=fun k=>by
  induction k with
  | zero=>rfl
  | succ k ih=>rw[List.replicate_succ];simp [vb,ih]
 refine RunsW.forLoop (P:=Z53 l o c z P A j1 j7) (R:=fun _=>False) (Z9c l o c z P A j1 j7) ?_ (n:=A.length) ⟨0,0,List.replicate z 0,by omega,by omega,by simp,h0,(fun x hx=>by rw[List.eq_of_mem_replicate hx];exact⟨by omega,by omega⟩),by rw[vz];simp [vb],.inl ⟨rfl,g,rfl⟩,by rw[ez]⟩;rintro m Y ⟨i,e,O,hm,hi,hO,he,hOd,hv,hY⟩;by_cases hlt:i<A.length
 ·have r:=ZjR hR hs hA hO he hP hlt hz w1 w7 hY;refine r.mono fun ex W hW=> ?_;obtain⟨rfl,z1,z2⟩:=hW;have hd:=zy hA i;obtain⟨_,hl2⟩:=Z01 he hd.1 hP;refine⟨A.length-(i+1),by omega,i+1,(e+dgN A i*P)/65536,O++[(((e+dgN A i*P) % 65536:Nat):Int)],rfl,by omega,by rw[List.length_append,hO];rfl,Nat.div_lt_of_lt_mul hl2,fun x hx=> ?_,?_,.inr ⟨by omega,z1⟩,z2⟩
  ·rcases List.mem_append.1 hx with hx | hx
   ·exact hOd x hx
   ·rw[List.mem_singleton.1 hx];exact⟨by omega,by omega⟩
  ·have e1:vb 65536 (A.take (i+1))=vb 65536 (A.take i)+65536^i*dgN A i:=Zag 65536 A i;rw[e1];exact Zqs hO hv
 ·have hil:i=A.length:=by omega
  subst hil;rw[List.take_length] at hv;obtain⟨t,h',s⟩:=Y;obtain⟨hY,hh⟩:=hY;simp only at hY hh;subst hh;rcases hY with ⟨h0,g,ht⟩ | ⟨h0,g,ht⟩
  ·subst ht;refine (Ze (Zh Zd Zu) (Zmx _ _ _ _ _ _ _ _ j1 j7 g) (Zt (Xb (by omega)))).mono fun ex W hW=> ?_;obtain⟨rfl,⟨g',z1⟩,z2⟩:=hW;exact⟨rfl,e,O,hO,he,hOd,hv,.inl ⟨h0,g',z1⟩,z2⟩
  ·subst ht;refine (Ze (Zh Zd Zu) (Zmx _ _ _ _ _ _ _ _ j1 j7 g) (Zt (Xb (by omega)))).mono fun ex W hW=> ?_;obtain⟨rfl,⟨g',z1⟩,z2⟩:=hW;exact⟨rfl,e,O,hO,he,hOd,hv,.inr ⟨h0,g',z1⟩,z2⟩
end
theorem Zmy {l:List Value}{o c:Nat}{A:List Int}(hR:Row l o A) (hs:∀ v∈l,still v=true) (hA:∀ x∈A,Dg 65536 x) (h0:0<A.length) {k:Nat}(hk:k/16+A.length+3<1073741824) {V:Nat}(hV:V=vb 65536 A*2^k):
  RunsW (Zr prog Zf Zn hcV) (ZW (sPr f55) (.seq (.seq (sR5 f55) (.block 0 (.loop (sL1 f55)))) (.seq (sR9 f55) (.seq (.seq (Z52 f55) (.block 2 (.loop (sL2 f55)))) (sEn f55))))) ([sl 0 o A.length c,.int .i64 (k:Nat)]++List.replicate 48 undef,⟨1,[(l,tR)]⟩,[]) fun e z=>(e=none∨e=some none)∧ZV prog f55 z.1 z.2.1=some (sl 3 0 (d16 V).length (d16 V).length)∧∃ r,z.2.1.blk? 3=some (wU (d16 V)++r,tU):=by
 have ek:k16 (k:Int)=((k/16:Nat):Int):=by
  unfold k16;rw[Int.tdiv_eq_ediv_of_nonneg (by omega),Zw (by omega) (by omega)];omega
 have hP:2^(k % 16)≤32768:=by
  have:=Nat.pow_le_pow_right (show 0<2 by omega) (show k % 16≤15 by omega);omega
 have hP0:0<2^(k % 16):=Nat.pow_pos (by omega);have hpk:2^k=65536^(k/16)*2^(k % 16):=by
  rw[Zf4,← Nat.pow_add];congr 1;omega
 refine Z0 (Zh Zd Zu) (Zqn o A.length c k (l,tR)) (Zi (by rw[ek];exact Xa (by omega)) (Zt (beq_eq_false_iff_ne.2 (by omega)))) fun g=> ?_;rw[ek,Xg];refine Zgs (Ze (Zh Zd Zu) (Zve _ _ k _ g) (fun x hx=>by cases hx)) (fun e y he=>by cases he.1) (P2:=fun e Y=>match e with | none=>(∃ g,Y.1=[sl 0 o A.length c,.int .i64 (k:Nat),undef,undef,Zp,sl 1 0 (k/16) (k/16),.int .u32 ((2^(k % 16):Nat):Int),.int .i64 ((k % 16:Nat):Int)]++tl 42 g)∧Y.2.1=⟨2,[(zz (k/16),tU),(l,tR)]⟩ | some none=>False | some (some _)=>False) ?_ ?_ ?_
 ·rintro⟨t,h',s⟩ ⟨_,⟨g',ht⟩,hh⟩;simp only at ht hh;subst ht hh;exact RunsW.script (ZjQ _ _ k _ g').w
 ·intro e y he
  match e,he with
  | none,he=>exact he
  | some id,he=>exact he
 ·rintro⟨t,h',s⟩ ⟨⟨g',ht⟩,hh⟩;simp only at ht hh;subst ht hh;refine RunsW.seq (P1:=fun e Y=>e=none∧(∃ g,Y.1=[sl 0 o A.length c,.int .i64 (k:Nat),undef,undef,Zp,sl 1 0 (k/16) (k/16),.int .u32 ((2^(k % 16):Nat):Int),.int .i64 ((k % 16:Nat):Int),.int .u32 0]++tl 41 g)∧Y.2.1=⟨2,[(zz (k/16),tU),(l,tR)]⟩) (Ze (Zh Zd Zu) (Zvh _ _ k _ _ _ g') (fun x hx=>by cases hx)) ?_ (fun e y he=>by cases he.1);rintro⟨t,h',s⟩ ⟨_,⟨g',ht⟩,hh⟩;simp only at ht hh;subst ht hh;refine Zgs (Ze (Zh Zd Zu) (Zqo _ _ k _ _ _ g') (fun x hx=>by cases hx)) (fun e y he=>by cases he.1) (P2:=fun e Y=>match e with | none=>Z53 l o c (k/16) (2^(k % 16)) A (.int .i64 (k:Nat)) (.int .i64 ((k % 16:Nat):Int)) Y | some none=>False | some (some _)=>False) ?_ ?_ ?_
  ·rintro⟨t,h',s⟩ ⟨_,⟨g',ht⟩,hh⟩;simp only at ht hh;subst ht hh;exact RunsW.script (ZjS hR hs hA hP0 hP (by omega) ⟨rfl,rfl⟩ ⟨rfl,rfl⟩ g')
  ·intro e y he
   match e,he with
   | none,he=>exact he
   | some id,he=>exact he
  ·rintro⟨t,h',s⟩ ⟨e,O,hO,he,hOd,hv,hY,hh⟩;simp only at hY hh;subst hh;rcases hY with ⟨e0,_⟩ | ⟨_,g',ht⟩
   ·omega
   ·subst ht;have hOd':∀ x∈O++[(e:Int)],Dg 65536 x:=fun x hx=>by
     rcases List.mem_append.1 hx with hx | hx
     ·exact hOd x hx
     ·rw[List.mem_singleton.1 hx];exact⟨by omega,by omega⟩
    have hlen:(O++[(e:Int)]).length=k/16+A.length+1:=by rw[List.length_append,hO];rfl
    have ew:wU O++[.int .u32 (e:Int)]=wU (O++[(e:Int)]):=by rw[ZX];rfl
    have hval:vb 65536 (O++[(e:Int)])=V:=by
     rw[Zda,hO,Xg,hv,hV,hpk,Nat.mul_comm (vb 65536 A),Nat.mul_assoc]
    have hrow:Zbm tU (wU (O++[(e:Int)])) 0 (k/16+A.length+1) grown=true:=by
     rw[← hlen];exact Zap (fun x hx=>⟨(hOd' x hx).1,by have:=(hOd' x hx).2;omega⟩) (by omega) (ZyQ _)
    have hchk:Zab tU (wU O,tU) ([.int .u32 (e:Int)],tU) (k/16+A.length) 0 1=true:=
     Zba (L:=O) (M:=[(e:Int)]) hO.symm (show 0<1 by omega) (by show O.length+1≤_;omega)
    refine (Ze (Zh Zd Zu) (Zqr _ (k/16+A.length) _ e _ (l,tR) (wU O) _ _ g') (by rw[ew];exact Zi hrow (Zt hchk))).mono fun ex W hW=> ?_;rw[ew] at hW;obtain⟨rfl,⟨g2,z1⟩,z2⟩:=hW;have et:Zl (Zx (wU (O++[(e:Int)])) 0 (k/16+A.length+1))=(d16 V).length:=by
     rw[← hlen,ZaO,Zat (by omega) hOd',hval];rfl
    refine⟨.inr rfl,?_,?_⟩
    ·rw[z1,z2,et];rfl
    ·rw[z2];refine⟨wU ((O++[(e:Int)]).drop (Zl (O++[(e:Int)]))),?_⟩;have e3:wU (d16 V)++wU ((O++[(e:Int)]).drop (Zl (O++[(e:Int)])))=wU (O++[(e:Int)]):=by
      unfold d16;rw[← hval,← zj (by omega) _ hOd',← ZX,List.take_append_drop]
     rw[e3];rfl
def Zqt:Zad:=fun vals h s=>
 match vals,s with
 | [.slice p n c,.int .i64 k],.inr (.inr (.inr (.inl d)))::s'=>
  match d with
  | true=>Zde (vO h p n*2^k.toNat) h s' [(zJ h p n c && dgB (Zq h p n) && Nat.blt (k.toNat/16+n+3) 1073741824 && decide (0≤k),true),(decide (0<n),true)]
  | false=>some (Zp,h,s',[(zJ h p n c,true),(decide (0<n),false)])
 | _,_=>none
theorem Zf9:Z8 55 Zqt:=by
 intro vals h s v h' s' lg hg hl m B w E hv;unfold Zqt at hg;split at hg
 ·rename_i p n c k d s2;split at hg
  ·unfold Zde at hg;cases hg;have q1:=hl _ (Xe);have q2:=hl _ (Xd _ Xf);simp only[Xh,Xi] at q1 q2;obtain⟨⟨⟨r1,r2⟩,r3⟩,r4⟩:=q1;have r2:=Zbw r2;have r3:=Zo.1 r3;obtain⟨K,rfl⟩:=Int.eq_ofNat_of_zero_le r4;rw[Xg] at r3 ⊢;rcases ZF r1 with ⟨rfl,rfl,rfl,e0⟩ | ⟨b,o,x,rfl,hx,t1,t2,e0⟩
   ·omega
   ·rw[e0] at r2;obtain⟨h1,h2,h3,h4,h5,h6,h7⟩:=zt t1;have ev:vO h (some ⟨b,o,none⟩) n=vb 65536 (Zx x.1 o n):=by unfold vO;rw[e0]
    have r:=Zmy (c:=c) h1 t2 r2 (by rw[h2];exact q2) (k:=K) (by rw[h2];exact r3) rfl;rw[h2] at r;rw[ev];exact ZE (T:=Zr prog Zf Zn hcV) func55 Zmv (ZaK h7) (vals:=[sl 0 o n c,.int .i64 (K:Nat)]) (fun v hv=>by
     simp only[List.mem_cons,List.not_mem_nil,or_false] at hv;rcases hv with rfl | rfl<;>rfl) (k:=3) (cs:=wU (d16 (vb 65536 (Zx x.1 o n)*2^K))) (ty:=tU) (Zbb _) (by kernel_rfl) r (by rfl) E (s:=fun _=>b) (zH hx h5 h6 rfl)
  ·cases hg;have q1:=hl _ (Xe);have q2:=hl _ (Xd _ Xf);simp only[decide_eq_false_iff_not] at q1 q2;have hn:n=0:=by omega
   subst hn;obtain⟨x,p',a,NA,eA,fA⟩:=ZbF 0 q1;have hr:Runs (Zr prog Zf Zn hcV) (Zs f55) ([.slice p' 0 c,.int .i64 k]++List.replicate 48 undef,⟨1,[x]⟩,[]) fun e z=>(e=none∨e=some none)∧ZV prog f55 z.1 z.2.1=some Zp:=by
    refine (Zb (Zh Zd Zu) (Zmw p' 0 c _ _) (Zt rfl)).mono fun e z he=> ?_;obtain⟨rfl,⟨g,e2⟩,e3⟩:=he;refine⟨.inr rfl,?_⟩;rw[e2,e3];rfl
   have b1:∀ {i:Nat}{z:List Value×TypeId},(⟨1,[x]⟩:Hp).blk? i=some z→i=0∧z=x:=fun {i z} hz=>by
    have:i<1:=Hp.blk_lt hz;have hi:i=0:=by omega
    subst hi;exact⟨rfl,(Option.some.inj hz).symm⟩
   have:=ZB (T:=Zr prog Zf Zn hcV) func55 ZjP (h0:=⟨1,[x]⟩) ⟨rfl,fun b z hz=>by obtain⟨_,rfl⟩:=b1 hz;exact⟨NA.ros.1,NA.lt0,NA.ros.2⟩⟩ (vals:=[.slice p' 0 c,.int .i64 k]) (fun v hv=>by
    simp only[List.mem_cons,List.not_mem_nil,or_false] at hv;rcases hv with rfl | rfl
    ·exact NA.lt (by show 0<1;omega)
    ·rfl) (v:=Zp) (by rfl) hr.w E (s:=fun _=>a) (fun i z hz ht=>by obtain⟨_,rfl⟩:=b1 hz;exact fA ht)
   simp only[List.map_cons,List.map_nil] at this;rw[eA _ rfl] at this;exact this
 ·cases hg
end Go.Proofs.YtjlponbdflkbjaaGreatDoor
namespace Go.Nt
set_option maxRecDepth 100000
theorem Zhv:∀ (i V:Nat),((db 65536 V).getD i 0).toNat=V/65536^i % 65536
 | i,V=>by
  by_cases hV:V=0
  ·rw[hV,zp];simp
  ·rw[Zcy (by omega) hV];cases i with
   | zero=>simp;omega
   | succ i=>
    have:=Zhv i (V/65536);rw[List.getD_cons_succ,this,Nat.div_div_eq_div_mul,Nat.pow_succ,Nat.mul_comm (65536^i)]
theorem Z54 {c:Nat}(h:c<4294967296):c/65536 % 65536*65536+c % 65536=c:=by omega
theorem Zvi {v:Nat}(h:v<281474976710656):v/4294967296 % 65536*4294967296+v/65536 % 65536*65536+v % 65536=v:=by
 have h1:v/4294967296<65536:=by omega
 have h2:v/4294967296=v/65536/65536:=by rw[Nat.div_div_eq_div_mul]
 rw[Nat.mod_eq_of_lt h1,h2];omega
theorem Z55 {v:Nat}(h:v<4294967296):v/65536 % 65536*4294967296+v % 65536*65536+0=v*65536:=by omega
def Zqu (V n:Nat):Nat:=(V/65536^n % 65536)*4294967296+(V/65536^(n-1) % 65536)*65536+(if 2≤n then V/65536^(n-2) % 65536 else 0)
def ZoE (B n:Nat):Nat:=(B/65536^(n-1) % 65536)*65536+(if 2≤n then B/65536^(n-2) % 65536 else 0)
theorem Z02 {V B n:Nat}(hn:1≤n) (h0:65536^(n-1)≤B) (h1:B<65536^n) (hV:V<65536*B):0<ZoE B n∧ZoE B n<4294967296∧Zqu V n<281474976710656∧V/B≤Zqu V n/ZoE B n∧V/B<65536:=by
 have hp:0<65536^(n-1):=Nat.pow_pos (by omega);have hB:0<B:=by omega
 have hd:V/B<65536:=by rw[Nat.div_lt_iff_lt_mul hB];exact hV
 have b1:ZoE B n<4294967296:=by
  have:=Nat.mod_lt (B/65536^(n-1)) (show 0<65536 by omega);have:=Nat.mod_lt (B/65536^(n-2)) (show 0<65536 by omega);unfold ZoE;split<;>omega
 have b2:Zqu V n<281474976710656:=by
  have:=Nat.mod_lt (V/65536^n) (show 0<65536 by omega);have:=Nat.mod_lt (V/65536^(n-1)) (show 0<65536 by omega);have:=Nat.mod_lt (V/65536^(n-2)) (show 0<65536 by omega);unfold Zqu;split<;>omega
 by_cases h2:2≤n
 ·obtain⟨k,rfl⟩:∃ k,n=k+2:=⟨n-2,by omega⟩;have e1:k+2-1=k+1:=by omega
  have e2:k+2-2=k:=by omega
  rw[e1] at h0;unfold Zqu ZoE at*;rw[e1,e2,if_pos h2] at*;rw[if_pos h2] at*;have hw:0<65536^k:=Nat.pow_pos (by omega);have dv:∀ x j:Nat,x/65536^(k+j)=x/65536^k/65536^j:=fun x j=>by rw[Nat.pow_add,Nat.div_div_eq_div_mul]
  rw[dv V 2,dv V 1,dv B 1] at*;have p1:(65536:Nat)^1=65536:=rfl;have p2:(65536:Nat)^2=4294967296:=rfl;rw[p1,p2] at*;have hBw:B/65536^k<4294967296:=by
   rw[Nat.div_lt_iff_lt_mul hw];have:65536^(k+2)=4294967296*65536^k:=by rw[Nat.pow_add,p2,Nat.mul_comm]
   omega
  have hBl:65536≤B/65536^k:=by
   rw[Nat.le_div_iff_mul_le hw];have:65536^(k+1)=65536*65536^k:=by rw[Nat.pow_add,p1,Nat.mul_comm]
   omega
  have hVw:V/65536^k<281474976710656:=by
   rw[Nat.div_lt_iff_lt_mul hw];have:65536^(k+2)=4294967296*65536^k:=by rw[Nat.pow_add,p2,Nat.mul_comm]
   omega
  have hm:V/B*(B/65536^k)≤V/65536^k:=by
   rw[Nat.le_div_iff_mul_le hw,Nat.mul_assoc];have h3:B/65536^k*65536^k≤B:=Nat.div_mul_le_self _ _;have h4:=Nat.mul_le_mul_left (V/B) h3;have h5:=Nat.div_mul_le_self V B;omega
  generalize V/65536^k=v at*;generalize B/65536^k=c at*;have ec:=Z54 hBw;have ev:=Zvi hVw;rw[ec,ev];have hc:0<c:=Nat.lt_of_lt_of_le (by decide) hBl;refine⟨hc,hBw,hVw,?_,hd⟩;rw[Nat.le_div_iff_mul_le hc];exact hm
 ·have e:n=1:=by omega
  subst e;unfold Zqu ZoE at*;rw[if_neg h2] at*;rw[if_neg h2] at*;have p1:(65536:Nat)^1=65536:=rfl;have p0:(65536:Nat)^(1-1)=1:=rfl;rw[p1] at*;rw[p0] at*;rw[Nat.div_one] at*;rw[Nat.div_one] at*;have hB1:B<65536:=h1;have hV1:V<4294967296:=Nat.lt_of_lt_of_le hV (Nat.mul_le_mul_left 65536 (Nat.le_of_lt hB1));have eB:B % 65536*65536+0=B*65536:=by rw[Nat.mod_eq_of_lt hB1,Nat.add_zero]
  have eV:=Z55 hV1;rw[eB,eV];rw[eB] at b1;rw[eV] at b2;refine⟨Nat.mul_pos hB (by decide),b1,b2,?_,hd⟩;rw[Nat.mul_div_mul_right _ _ (by decide)];exact Nat.le_refl _
theorem Z03 {L:List Int}(hC:Zbk 65536 L) (h:1≤L.length):65536^(L.length-1)≤vb 65536 L:=by
 rcases Nat.lt_or_ge (vb 65536 L) (65536^(L.length-1)) with h1 | h1
 ·have:=ZaZ (b:=65536) (by omega) _ _ h1;rw[Zls (by omega) hC] at this;omega
 ·exact h1
theorem ZfA {L:List Int}{i:Nat}(h:i<L.length):vb 65536 (L.drop i)=(L.getD i 0).toNat+65536*vb 65536 (L.drop (i+1)):=by
 rw[List.drop_eq_getElem_cons h];simp only[vb];simp [List.getD,List.getElem?_eq_getElem h]
end Go.Nt
namespace Go.Proofs.YtjlponbdflkbjaaGreatDoor
open Go.Proofs.Tryz
open Go.IntKind
open Go.KRun Go.Nt
set_option maxRecDepth 100000
set_option linter.unusedVariables false
def paP (F:Func):List Code:=[Z2 (Zs F),Z2 (Zz (Zs F)),Z2 (Zz (Zz (Zs F))),Z2 (Zz (Zz (Zz (Zs F))))]
def paS (F:Func):Code:=Zz (Zz (Zz (Zz (Zs F))))
def paB (F:Func):Code:=Z2 (paS F)
def paL (F:Func):Code:=cIn (cIn (Zz (paB F)))
def paE (F:Func):Code:=Zz (paS F)
def paH (F:Func):Code:=Z2 (paL F)
def paX (F:Func):Code:=cIn (Z2 (Zz (paL F)))
def paI (F:Func):Code:=Zz (Zz (paL F))
def x7 (F:Func):Code:=Z2 (paX F)
def x8 (F:Func):Code:=Z2 (Zz (paX F))
def x9 (F:Func):Code:=Z2 (Zz (Zz (paX F)))
def x10 (F:Func):Code:=Z2 (Zz (Zz (Zz (paX F))))
def x11 (F:Func):Code:=Z2 (Zz (Zz (Zz (Zz (paX F)))))
def xT (F:Func):Code:=Zz (Zz (Zz (Zz (Zz (paX F)))))
def yL (F:Func):Code:=cIn (cIn (Z2 (xT F)))
def yH (F:Func):Code:=Z2 (yL F)
def yB (F:Func):Code:=cIn (Zz (yL F))
def xE (F:Func):Code:=Zz (xT F)
def hcP:Hc:=zS 93 Z4r (zS 92 ZlT (zS 91 ZpO (zS 94 gAt (zS 88 Zik hcN))))
def pFr (o n c o' n' c' z:Nat) (r:Value) (i:Int) (v10 v11:Value):List Value:=[sl 0 o n c,sl 1 o' n' c',undef,undef,Zp,Zp,r,sl 2 0 z z,.int .i64 n',.int .i64 i,v10,v11]
def hB3 (wq lb la:List Value):Hp:=⟨3,[(wq,tU),(lb,tR),(la,tR)]⟩
def hB4 (wr wq lb la:List Value):Hp:=⟨4,[(wr,tU),(wq,tU),(lb,tR),(la,tR)]⟩
def hB5 (wp wr wq lb la:List Value):Hp:=⟨5,[(wp,tU),(wr,tU),(wq,tU),(lb,tR),(la,tR)]⟩
theorem Z04:HcOk hcP:=Z1 func93 rfl Zhu (Z1 func92 rfl Zf3 (Z1 func91 rfl Zio (Z1 func94 rfl ZsL (Z1 func88 rfl Zgr Zam))))
theorem Zvj:f54.body=some (ZW (paP f54) (.seq (.seq (Z2 (paB f54)) (.block 0 (.loop (paL f54)))) (paE f54))):=by kernel_rfl
theorem Zmz:paL f54= .seq (paH f54) (.seq (.block 1 (paX f54)) (paI f54)):=by kernel_rfl
theorem Z9d:paX f54= .seq (x7 f54) (.seq (x8 f54) (.seq (x9 f54) (.seq (x10 f54) (.seq (x11 f54) (.seq (.block 2 (.loop (yL f54))) (xE f54)))))):=by kernel_rfl
theorem Z9e:yL f54= .seq (yH f54) (.block 3 (yB f54)):=by kernel_rfl
def aP (b o:Nat):Option Addr:=some ⟨b,o,none⟩
def inP (i:Int) (n:Nat):Bool×Bool:=(decide (0≤i∧i<(n:Int)),true)
def ceP (l:List Value) (o:Nat) (i x:Int):Bool×Bool:=(Z5 (l[o+i.toNat*1]?) (.int .u32 x),true)
def tR3 (R:List Int) (n':Nat):Int:=u64.wrap (u64.wrap (u64.wrap (u64.wrap (atN R n')*2^min (Int.toNat 32) 64)+u64.wrap (u64.wrap (atN R (i64.wrap ((n':Int)-1)))*2^min (Int.toNat 16) 64))+u64.wrap (atN R (i64.wrap ((n':Int)-2))))
def tB2 (x:Int) (L:List Int) (n':Nat):Int:=u64.wrap (u64.wrap (u64.wrap x*2^min (Int.toNat 16) 64)+u64.wrap (atN L (i64.wrap ((n':Int)-2))))
def Z56 (q:Int):Int:=if 65535<q then 65535 else q
theorem Z05 (o n c o' n' c':Nat) (la lb:List Value):Zg (evL (Zr prog Zf Zn hcP) 200 (paP f54) ([sl 0 o n c,sl 1 o' n' c']++List.replicate 93 undef,⟨2,[(lb,tR),(la,tR)]⟩,[at_]) ⟨[],[],[]⟩) 12 83 none [sl 0 o n c,sl 1 o' n' c',undef,undef,Zp,Zp,Zp,sl 2 0 (n:Int).toNat (n:Int).toNat,.int .i64 n',undef,undef,undef] (hB3 (List.replicate (n:Int).toNat (.int .u32 0)) lb la) [(ZI 4 (n:Int) (n:Int),true)]:=by and_intros<;>kernel_rfl
theorem Z57 (o n c o' n' c' z:Nat) (r v9 v10 v11:Value) (h:Hp) (g:Nat→Value):Zg (evC (Zr prog Zf Zn hcP) 200 false (Z2 (paB f54)) ([sl 0 o n c,sl 1 o' n' c',undef,undef,Zp,Zp,r,sl 2 0 z z,.int .i64 n',v9,v10,v11]++tl 83 g,h,[]) ⟨[],[],[]⟩) 12 83 none (pFr o n c o' n' c' z r (i64.wrap ((n:Int)-1)) v10 v11) h []:=by and_intros<;>kernel_rfl
theorem Z58 (o n c o' n' c' z:Nat) (r v10 v11:Value) (i:Int) (h:Hp) (g:Nat→Value):Zg (evC (Zr prog Zf Zn hcP) 200 false (paH f54) (pFr o n c o' n' c' z r i v10 v11++tl 83 g,h,[cmp true]) ⟨[],[],[]⟩) 12 83 none (pFr o n c o' n' c' z r i v10 v11) h [(decide (i≥0),true)]:=by and_intros<;>kernel_rfl
theorem Z59 (o n c o' n' c' z:Nat) (r v10 v11:Value) (i:Int) (h:Hp) (g:Nat→Value):Zg (evC (Zr prog Zf Zn hcP) 200 false (paH f54) (pFr o n c o' n' c' z r i v10 v11++tl 83 g,h,[cmp false]) ⟨[],[],[]⟩) 12 83 (some (some 0)) (pFr o n c o' n' c' z r i v10 v11) h [(decide (i≥0),false)]:=by and_intros<;>kernel_rfl
theorem Z5A (o n c o' n' c' z:Nat) (v10 v11:Value) (i d:Int) (wq lb la:List Value) (g:Nat→Value):Zg (evC (Zr prog Zf Zn hcP) 200 false (x7 f54) (pFr o n c o' n' c' z Zp i v10 v11++tl 83 g,hB3 wq lb la,[at_,val (.int .u32 d)]) ⟨[],[],[]⟩) 12 83 none (pFr o n c o' n' c' z (sl 3 0 (Zl (Zx [.int .u32 d] 0 1)) (Zl (Zx [.int .u32 d] 0 1))) i v10 v11) (hB4 [.int .u32 d] wq lb la) [(Zbm tU [.int .u32 d] 0 1 1,true),ceP la o i d,inP i n]:=by and_intros<;>kernel_rfl
theorem Z5B (o n c o' n' c' z:Nat) (v10 v11:Value) (i d:Int) (wr wq lb la:List Value) (g:Nat→Value):Zg (evC (Zr prog Zf Zn hcP) 200 false (x7 f54) (pFr o n c o' n' c' z (sl 3 0 0 0) i v10 v11++tl 83 g,hB4 wr wq lb la,[at_,val (.int .u32 d)]) ⟨[],[],[]⟩) 12 83 none (pFr o n c o' n' c' z (sl 4 0 (Zl (Zx [.int .u32 d] 0 1)) (Zl (Zx [.int .u32 d] 0 1))) i v10 v11) (hB5 [.int .u32 d] wr wq lb la) [(Zbm tU [.int .u32 d] 0 1 1,true),ceP la o i d,inP i n]:=by and_intros<;>kernel_rfl
theorem Z5C (o n c o' n' c' z k:Nat) (v10 v11:Value) (i d:Int) (wr wq lb la:List Value) (g:Nat→Value):Zg (evC (Zr prog Zf Zn hcP) 200 false (x7 f54) (pFr o n c o' n' c' z (sl 3 0 k k) i v10 v11++tl 83 g,hB4 wr wq lb la,[at_,val (.int .u32 d),num 0]) ⟨[],[],[]⟩) 12 83 none (pFr o n c o' n' c' z (sl 5 0 (Zl (Zx ([.int .u32 d]++List.take k (List.drop 0 wr)) 0 (1+k))) (Zl (Zx ([.int .u32 d]++List.take k (List.drop 0 wr)) 0 (1+k)))) i v10 v11) ⟨6,[(([.int .u32 d]++List.take k (List.drop 0 wr)),tU),([.int .u32 d],tU),(wr,tU),(wq,tU),(lb,tR),(la,tR)]⟩ [(Zbm tU ([.int .u32 d]++List.take k (List.drop 0 wr)) 0 (1+k) grown,true),(Zdo ([.int .u32 d],tU) (wr,tU) 1 1 0 k,true),ceP la o i d,inP i n]:=by and_intros<;>kernel_rfl
theorem Z5D (o n c o' n' c' z k:Nat) (v10 v11:Value) (i:Int) (wr wq lb la:List Value) (g:Nat→Value):Zg (evC (Zr prog Zf Zn hcP) 200 false (x8 f54) (pFr o n c o' n' c' z (sl 3 0 k k) i v10 v11++tl 83 g,hB4 wr wq lb la,[cmp true]) ⟨[],[],[]⟩) 12 83 (some (some 1)) (pFr o n c o' n' c' z (sl 3 0 k k) i v10 v11) (hB4 wr wq lb la) [(decide (ZcR (vO (hB4 wr wq lb la) (aP 3 0) k) (vO (hB4 wr wq lb la) (aP 1 o') n')<0),true),(ZT (hB4 wr wq lb la) (aP 3 0) (aP 1 o') k k n' c',true)]:=by and_intros<;>kernel_rfl
theorem Z5E (o n c o' n' c' z k:Nat) (v10 v11:Value) (i:Int) (wr wq lb la:List Value) (g:Nat→Value):Zg (evC (Zr prog Zf Zn hcP) 200 false (x8 f54) (pFr o n c o' n' c' z (sl 3 0 k k) i v10 v11++tl 83 g,hB4 wr wq lb la,[cmp false]) ⟨[],[],[]⟩) 12 83 none (pFr o n c o' n' c' z (sl 3 0 k k) i v10 v11) (hB4 wr wq lb la) [(decide (ZcR (vO (hB4 wr wq lb la) (aP 3 0) k) (vO (hB4 wr wq lb la) (aP 1 o') n')<0),false),(ZT (hB4 wr wq lb la) (aP 3 0) (aP 1 o') k k n' c',true)]:=by and_intros<;>kernel_rfl
theorem Z9f (o n c o' n' c' z:Nat) (r v10 v11:Value) (i:Int) (h:Hp) (g:Nat→Value):Zg (evC (Zr prog Zf Zn hcP) 200 false (paI f54) (pFr o n c o' n' c' z r i v10 v11++tl 83 g,h,[]) ⟨[],[],[]⟩) 12 83 none (pFr o n c o' n' c' z r (i64.wrap (i-1)) v10 v11) h []:=by and_intros<;>kernel_rfl
theorem Z9g (o n c o' n' c' z k:Nat) (v10 v11:Value) (i:Int) (wr wq lb la:List Value) (g:Nat→Value):Zg (evC (Zr prog Zf Zn hcP) 200 false (x9 f54) (pFr o n c o' n' c' z (sl 3 0 k k) i v10 v11++tl 83 g,hB4 wr wq lb la,[]) ⟨[],[],[]⟩) 12 83 none (pFr o n c o' n' c' z (sl 3 0 k k) i (.int .u64 (tR3 (Zq (hB4 wr wq lb la) (aP 3 0) k) n')) v11) (hB4 wr wq lb la) [(zJ (hB4 wr wq lb la) (aP 3 0) k k,true),(decide ((16:Int)<0),false),(zJ (hB4 wr wq lb la) (aP 3 0) k k,true),(decide ((32:Int)<0),false),(zJ (hB4 wr wq lb la) (aP 3 0) k k,true)]:=by and_intros<;>kernel_rfl
theorem Z5F (o n c o' n' c' z k:Nat) (v11:Value) (i t x q:Int) (wr wq lb la:List Value) (g:Nat→Value):Zg (evC (Zr prog Zf Zn hcP) 200 false (x10 f54) (pFr o n c o' n' c' z (sl 3 0 k k) i (.int .u64 t) v11++tl 83 g,hB4 wr wq lb la,[at_,val (.int .u32 x),num q]) ⟨[],[],[]⟩) 12 83 none (pFr o n c o' n' c' z (sl 3 0 k k) i (.int .u64 t) (.int .u64 (Z56 q))) (hB4 wr wq lb la) [(decide ((tB2 x (Zq (hB4 wr wq lb la) (aP 1 o') n') n')=0),false),(decide (u64.wrap (t.tdiv (tB2 x (Zq (hB4 wr wq lb la) (aP 1 o') n') n'))=q),true),(zJ (hB4 wr wq lb la) (aP 1 o') n' c',true),(decide ((16:Int)<0),false),ceP lb o' (i64.wrap ((n':Int)-1)) x,inP (i64.wrap ((n':Int)-1)) n']:=by and_intros<;>kernel_rfl
def pV (h:Hp) (o' n':Nat) (e:Int):Nat:=vO h (aP 1 o') n'*(u32.wrap e).toNat+Int.toNat 0
theorem Z5G (o n c o' n' c' z k:Nat) (v10:Value) (i e:Int) (wr wq lb la:List Value) (g:Nat→Value):Zg (evC (Zr prog Zf Zn hcP) 200 false (x11 f54) (pFr o n c o' n' c' z (sl 3 0 k k) i v10 (.int .u64 e)++tl 83 g,hB4 wr wq lb la,[cmp true]) ⟨[],[],[]⟩) 13 82 none (pFr o n c o' n' c' z (sl 3 0 k k) i v10 (.int .u64 e)++[sl 4 0 (d16 (pV (hB4 wr wq lb la) o' n' e)).length (d16 (pV (hB4 wr wq lb la) o' n' e)).length]) (hB5 (wU (d16 (pV (hB4 wr wq lb la) o' n' e))) wr wq lb la) [(ZaV (hB4 wr wq lb la) (aP 1 o') n' c' (u32.wrap e) 0,true),(decide (0<n'∨(0:Int)<0),true)]:=by and_intros<;>kernel_rfl
theorem Z5H (o n c o' n' c' z k j:Nat) (v10:Value) (i e:Int) (wp wr wq lb la:List Value) (g:Nat→Value):Zg (evC (Zr prog Zf Zn hcP) 200 false (yH f54) (pFr o n c o' n' c' z (sl 3 0 k k) i v10 (.int .u64 e)++[sl 4 0 j j]++tl 82 g,hB5 wp wr wq lb la,[cmp true]) ⟨[],[],[]⟩) 13 82 none (pFr o n c o' n' c' z (sl 3 0 k k) i v10 (.int .u64 e)++[sl 4 0 j j]) (hB5 wp wr wq lb la) [(decide (ZcR (vO (hB5 wp wr wq lb la) (aP 4 0) j) (vO (hB5 wp wr wq lb la) (aP 3 0) k)>0),true),(ZT (hB5 wp wr wq lb la) (aP 4 0) (aP 3 0) j j k k,true)]:=by and_intros<;>kernel_rfl
theorem Z5I (o n c o' n' c' z k j:Nat) (v10:Value) (i e:Int) (wp wr wq lb la:List Value) (g:Nat→Value):Zg (evC (Zr prog Zf Zn hcP) 200 false (yH f54) (pFr o n c o' n' c' z (sl 3 0 k k) i v10 (.int .u64 e)++[sl 4 0 j j]++tl 82 g,hB5 wp wr wq lb la,[cmp false]) ⟨[],[],[]⟩) 13 82 (some (some 2)) (pFr o n c o' n' c' z (sl 3 0 k k) i v10 (.int .u64 e)++[sl 4 0 j j]) (hB5 wp wr wq lb la) [(decide (ZcR (vO (hB5 wp wr wq lb la) (aP 4 0) j) (vO (hB5 wp wr wq lb la) (aP 3 0) k)>0),false),(ZT (hB5 wp wr wq lb la) (aP 4 0) (aP 3 0) j j k k,true)]:=by and_intros<;>kernel_rfl
theorem Z5J (o n c o' n' c' z k j:Nat) (v10:Value) (i e:Int) (wp wr wq lb la:List Value) (g:Nat→Value):Zg (evC (Zr prog Zf Zn hcP) 200 false (yB f54) (pFr o n c o' n' c' z (sl 3 0 k k) i v10 (.int .u64 e)++[sl 4 0 j j]++tl 82 g,hB5 wp wr wq lb la,[cmp true]) ⟨[],[],[]⟩) 13 82 none (pFr o n c o' n' c' z (sl 3 0 k k) i v10 (.int .u64 (u64.wrap (e-1)))++[sl 5 0 (d16 (vO (hB5 wp wr wq lb la) (aP 4 0) j-vO (hB5 wp wr wq lb la) (aP 1 o') n')).length (d16 (vO (hB5 wp wr wq lb la) (aP 4 0) j-vO (hB5 wp wr wq lb la) (aP 1 o') n')).length]) ⟨6,[(wU (d16 (vO (hB5 wp wr wq lb la) (aP 4 0) j-vO (hB5 wp wr wq lb la) (aP 1 o') n')),tU),(wp,tU),(wr,tU),(wq,tU),(lb,tR),(la,tR)]⟩ [(ZT (hB5 wp wr wq lb la) (aP 4 0) (aP 1 o') j j n' c' && Nat.ble (vO (hB5 wp wr wq lb la) (aP 1 o') n') (vO (hB5 wp wr wq lb la) (aP 4 0) j),true),(decide (0<j),true)]:=by and_intros<;>kernel_rfl
theorem Z9h (o n c o' n' c' z k j:Nat) (v10:Value) (i e:Int) (wp wr wq lb la:List Value) (g:Nat→Value):Zg (evC (Zr prog Zf Zn hcP) 200 false (xE f54) (pFr o n c o' n' c' z (sl 3 0 k k) i v10 (.int .u64 e)++[sl 4 0 j j]++tl 82 g,hB5 wp wr wq lb la,[cmp true,at_,at_]) ⟨[],[],[]⟩) 12 83 none (pFr o n c o' n' c' z (sl 5 0 (d16 (vO (hB5 wp wr wq lb la) (aP 3 0) k-vO (hB5 wp wr wq lb la) (aP 4 0) j)).length (d16 (vO (hB5 wp wr wq lb la) (aP 3 0) k-vO (hB5 wp wr wq lb la) (aP 4 0) j)).length) i v10 (.int .u64 e)) ⟨6,[(wU (d16 (vO (hB5 wp wr wq lb la) (aP 3 0) k-vO (hB5 wp wr wq lb la) (aP 4 0) j)),tU),(wp,tU),(wr,tU),(wq.set (0+i.toNat*1) (.int .u32 (u32.wrap e)),tU),(lb,tR),(la,tR)]⟩ [(decide (0+i.toNat*1<wq.length),true),inP i z,(ZT (hB5 wp wr wq lb la) (aP 3 0) (aP 4 0) k k j j && Nat.ble (vO (hB5 wp wr wq lb la) (aP 4 0) j) (vO (hB5 wp wr wq lb la) (aP 3 0) k),true),(decide (0<k),true)]:=by and_intros<;>kernel_rfl
theorem Z06 (o n c o' n' c' z k:Nat) (v9 v10 v11:Value) (wr wq lb la:List Value) (g:Nat→Value):Zg (evC (Zr prog Zf Zn hcP) 200 false (paE f54) ([sl 0 o n c,sl 1 o' n' c',undef,undef,Zp,Zp,sl 3 0 k k,sl 2 0 z z,.int .i64 n',v9,v10,v11]++tl 83 g,hB4 wr wq lb la,[]) ⟨[],[],[]⟩) 6 89 (some none) [sl 0 o n c,sl 1 o' n' c',undef,undef,sl 2 0 (Zl (Zx wq 0 z)) (Zl (Zx wq 0 z)),sl 3 0 k k] (hB4 wr wq lb la) [(Zbm tU wq 0 z z,true)]:=by and_intros<;>kernel_rfl
end Go.Proofs.YtjlponbdflkbjaaGreatDoor
