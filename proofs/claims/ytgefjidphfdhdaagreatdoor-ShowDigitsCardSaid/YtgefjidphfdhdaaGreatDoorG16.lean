/-
  ShK, Con2, Con3, ShN, ShM, ShG, ShO
-/
import Derived.Test.YtgefjidphfdhdaaGreatDoorG15
import Derived.Lib.Walk
import Derived.Lib.ItoaMem
import Derived.BigCall
import Derived.BigGuard
namespace Go.KRun
open Go.IntKind
open Go.RowKit
theorem Znu {T:Tab}(hT:TabOk T) {h0:Hp}{n f:Nat}{vals:List Value}{s:List Dec}{v:Value}{cs:Log}(hF:ZH (ZK T h0 n f vals s) v cs) (hcs:Zu cs) (hvals:(vals.all (lt h0.n))=true) (hv:lt 0 v=true) (hr:h0.rows) {m:Mp}{B:Nat}{h:Hp}{w:World}(E:Emb m B h w) {σ:Nat→Nat}(hf:h0.fits σ h):
  Calls T.P f ((vals.map (rn σ)).map (mv m)).toArray w fun e w'=>∃ m',e= .returned (mv m' v)∧Came m B h w v h m' w':=by
 have ev:(vals.map (rn σ)).map (mv m)=vals.map (mv fun i=>m (σ i)):=by
  rw[List.map_map];exact List.map_congr_left fun y _=>Zce m σ y
 rw[ev];refine (ZcO hT hF hcs hvals hv (E.small hr hf)).mono fun e w' he=> ?_;obtain⟨E',hb⟩:=ZS E he.2;exact⟨m,by rw[he.1,Z7 hv],⟨Agree.refl _ _,E',hb,Nat.le_refl _,z6 (Nat.zero_le _) hv⟩⟩
end Go.KRun
namespace Go.Proofs.YtgefjidphfdhdaaGreatDoor
open Go.Proofs.Tryz
open Go.IntKind
open Go.KRun Go.Nt Go.Rd Go.Wd Go.Pt
set_option maxRecDepth 100000
def Z4H:Hc:=zx 127 Na.ZyV (zx 132 Na.ZfS (zx 79 Na.Zzu (zx 152 Na.Z3T hcN)))
theorem Zwf:HcOk Z4H:=Zt func127 rfl Na.Zhb (Zt func132 rfl Na.Zd8 (Zt func79 rfl Na.Zhe (Zt func152 rfl Na.ZuN zw)))
theorem Z4I:TabOk (Zm prog Zg Zn Z4H):=Zp Ze Zwf
def Z4J (la lb:List Value) (o n c o' n' c':Nat) (x:Int):Hp:=⟨4,[(wU (dg 2 x),tU),([sl 0 o n c,sl 1 o' n' c'],168),(lb,tR),(la,tR)]⟩
def tiT (x:Int) (n:Nat):Nat:=Zc (dg 2 x)+n
def Z4K (la lb:List Value) (o n c o' n' c':Nat) (x:Int) (T:Nat):Hp:=⟨5,[r14 (tiT x n) T,(wU (dg 2 x),tU),([sl 0 o n c,sl 1 o' n' c'],168),(lb,tR),(la,tR)]⟩
def tiV (x:Int) (n n' T:Nat):Nat:=t14 (tiT x n) T-n'+1
def Z4L (H:Hp) (p q:Option Addr) (n c n' c':Nat) (Q R:Nat) (l:Log):Log:=(decide (Go.Nt.vN (Zj H p n)/Go.Nt.vN (Zj H q n')=(Q:Int)∧Go.Nt.vN (Zj H p n) % Go.Nt.vN (Zj H q n')=(R:Int)),true)::(Na.zG H p n c,true)::(Na.zG H q n' c',true)::(!(Na.ZN (Zj H p n) || Na.ZN (Zj H q n')) && decide (0<n'∧¬ ZbP (Zj H p n) (Zj H q n')<0),true)::l
def tiW (w0 w1:Int):Int:=bOr (bOr 0 (u64.wrap (u64.wrap w0*2^0))) (u64.wrap (u64.wrap w1*2^32))
theorem Z6D (la lb:List Value) (o n c o' n' c':Nat) (x:Int) (T V R:Nat) (w0 w1:Int) (d:Bool):ZH (ZK (Zm prog Zg Zn Z4H) (h2 la lb) 200 117 [.agg #[sl 0 o n c,sl 1 o' n' c'],.int .u64 x] [cmp false,cmp false,num T,cmp false,cmp false,cmp false,num V,num R,cmp true,at_,val (.int .u32 w0),cmp true,at_,val (.int .u32 w1),cmp false,cmp d]) (.tuple #[.int .u64 (tiW w0 w1),.bool d])
  ((decide (((t14 (t14 (tiT x n) T+1) R:Nat):Int)>0),d)::(decide ((2:Int)<((t14 (tiV x n n' T) V:Nat):Int)),false)::(false,false)::(Z3 (wU (dg (tiV x n n' T) (V:Int)))[1]? (.int .u32 w1),true)::(decide ((0:Int)≤1∧(1:Int)<((t14 (tiV x n n' T) V:Nat):Int)),true)::(decide ((1:Int)<((t14 (tiV x n n' T) V:Nat):Int)),true)::(false,false)::(Z3 (wU (dg (tiV x n n' T) (V:Int)))[0]? (.int .u32 w0),true)::(decide ((0:Int)≤0∧(0:Int)<((t14 (tiV x n n' T) V:Nat):Int)),true)::(decide ((0:Int)<((t14 (tiV x n n' T) V:Nat):Int)),true)::
   Z4L (Z4K la lb o n c o' n' c' x T) (a14 4) (some ⟨1,o',none⟩) (t14 (tiT x n) T) (tiT x n) n' c' V R (Zwa (Z4J la lb o n c o' n' c' x) (a14 3) (some ⟨0,o,none⟩) (Zc (dg 2 x)) 2 n c T [(decide (0≤x∧x<18446744073709551616),true)])):=by and_intros<;>kernel_rfl
theorem Z0N {ty:TypeId}{l:List Value}{o n c:Nat}(h:ZaB ty l o n c=true):ZaB tR l o n c=true:=by
 unfold ZaB at*;simp only[Xh,Bool.not_eq_true'] at*;obtain⟨⟨⟨⟨⟨⟨h1,h2⟩,h3⟩,h4⟩,h5⟩,h6⟩,h7⟩:=h;exact⟨⟨⟨⟨⟨⟨ZaT,by kernel_rfl⟩,h3⟩,h4⟩,h5⟩,h6⟩,h7⟩
theorem Z0O {h H:Hp}{b i o n c V:Nat}{x:List Value×TypeId}(r:Na.IsR h (some ⟨b,o,none⟩) n c V) (hx:h.blk? b=some x) (hH:H.blk? i=some (x.1,tR)):Na.IsR H (some ⟨i,o,none⟩) n c V:=by
 obtain⟨r1,r2,r3,r4⟩:=r;unfold Na.zG at r1;simp only[hx] at r1;unfold Zaa at r2;simp only[hx,Xh] at r2;refine⟨?_,?_,?_,r4⟩
 ·unfold Na.zG;simp only[hH];exact Na.zi r1
 ·unfold Zaa;simp only[hH,Xh];exact⟨Z0N r2.1,r2.2⟩
 ·rw[← r3];unfold Zj;simp only[hx,hH]
def Zow (H:Hp) (p:Option Addr) (n c V:Nat):Bool:=Na.zG H p n c && Zaa H p n c && decide (Zj H p n=Na.d32 V) && decide (n=(Na.d32 V).length∧n≤300)
theorem Znv {H:Hp}{p:Option Addr}{n c V:Nat}(h:Zow H p n c V=true):Na.IsR H p n c V∧n≤300:=by
 unfold Zow at h;simp only[Xh,Xi] at h;obtain⟨⟨⟨h1,h2⟩,h3⟩,h4,h5⟩:=h;exact⟨⟨h1,h2,h3,h4,by omega⟩,h5⟩
theorem Znw {H:Hp}{p:Option Addr}{n c V:Nat}(h:Na.IsR H p n c V) (h3:n≤300):Zow H p n c V=true:=by
 unfold Zow;simp only[Xh,Xi];exact⟨⟨⟨h.1,h.2.1⟩,h.2.2.1⟩,h.2.2.2.1,h3⟩
theorem Z0P {V:Nat}(h:V<18446744073709551616):tiW ((V:Int) % 4294967296) ((V:Int)/4294967296 % 4294967296)=V:=by
 unfold tiW;have w:∀ z:Int,0≤z→z<18446744073709551616→u64.wrap z=z:=fun z h0 h1=>by
  simp [IntKind.wrap,IntKind.bits,IntKind.signed];omega
 have e1:(2:Int)^0=1:=rfl;have e2:(2:Int)^32=4294967296:=rfl;rw[e1,e2,Int.mul_one,w ((V:Int) % 4294967296) (by omega) (by omega),w _ (by omega) (by omega),w ((V:Int)/4294967296 % 4294967296) (by omega) (by omega),w _ (by omega) (by omega)];have o1:bOr 0 ((V:Int) % 4294967296)=(V:Int) % 4294967296:=by
  have:=or_low (p:=0) (q:=(V:Int) % 4294967296) 0 (z:=(V:Int) % 4294967296) (by omega) (by rw[show (2:Int)^0=1 from rfl];omega) (by omega) (by decide) (by omega);omega
 rw[o1,or_low 32 (z:=(V:Int)/4294967296 % 4294967296) (by omega) (by rw[e2];omega) (by omega) (by rw[e2];omega) (by omega)];omega
def Z4M:Zag:=fun vals h s=>
 match vals,s with
 | [.agg cs,.int .u64 x],.inr (.inl O):: .inr (.inl U):: .inr (.inl V):: .inr (.inr (.inr (.inl d)))::s'=>
  match cs.toList with
  | [.slice (some ⟨b,o,none⟩) n c,.slice (some ⟨b',o',none⟩) n' c']=>some (.tuple #[.int .u64 V,.bool d],h,s',[(Zow h (some ⟨b,o,none⟩) n c O.toNat,true),(Zow h (some ⟨b',o',none⟩) n' c' U.toNat,true),(decide (((x.toNat*O.toNat/U.toNat:Nat):Int)=V),true),(decide (x.toNat*O.toNat % U.toNat≠0),d),(decide (1≤x∧x<18446744073709551616∧O.toNat≠0∧U.toNat≠0∧4294967296≤V∧V<18446744073709551616),true)])
  | _=>none
 | _,_=>none
theorem Zwg:Z8 117 Z4M:=by
 intro vals h s v h' s' lg hg hl m B w E hv;unfold Z4M at hg;split at hg
 ·rename_i cs x O U V d s2;split at hg
  ·rename_i b o n c b' o' n' c' hcs;have ecs:cs= #[sl b o n c,sl b' o' n' c']:=by
    have:=congrArg List.toArray hcs;simpa [sl] using this
   cases hg;have l1:Zow h (some ⟨b,o,none⟩) n c O.toNat=true:=hl _ Xe;have l2:Zow h (some ⟨b',o',none⟩) n' c' U.toNat=true:=hl _ (Xd _ Xe);have l3:=Xc (hl _ (Xd _ (Xd _ Xe)));have l4:decide (x.toNat*O.toNat % U.toNat≠0)=d:=hl _ (Xd _ (Xd _ (Xd _ Xe)));obtain⟨x1,x2,hO,hU,v1,v2⟩:=Xc (hl _ (Xd _ (Xd _ (Xd _ (Xd _ Xf)))));obtain⟨R1,n3⟩:=Znv l1;obtain⟨R2,n4⟩:=Znv l2;obtain⟨X,rfl⟩:∃ X:Nat,x=X:=⟨x.toNat,by omega⟩;obtain⟨O',hO'⟩:∃ O',O'=O.toNat:=⟨_,rfl⟩;obtain⟨U',hU'⟩:∃ U',U'=U.toNat:=⟨_,rfl⟩;obtain⟨V',rfl⟩:∃ V':Nat,V=V':=⟨V.toNat,by omega⟩;rw[Xg,← hO',← hU'] at l3 l4;rw[← hO'] at R1 hO;rw[← hU'] at R2 hU;rcases Na.ZD R1.1 with ⟨c1,_⟩ | ⟨b1,o1,xa,e1,hx,r1,_⟩
   ·cases c1
   cases e1;rcases Na.ZD R2.1 with ⟨c1,_⟩ | ⟨b1,o1,xb,e1,hy,t1,_⟩
   ·cases c1
   cases e1;obtain⟨a1,a2,a3,a4,a5,a6,a7⟩:=ZC r1;obtain⟨d1,d2,d3,d4,d5,d6,d7⟩:=ZC t1;have l3':X*O'/U'=V':=by omega
   have rO:Na.IsR (Z4J xa.1 xb.1 o n c o' n' c' X) (some ⟨0,o,none⟩) n c O':=Z0O R1 hx rfl;obtain⟨rQ,lQ⟩:=Z6e (H:=Z4J xa.1 xb.1 o n c o' n' c' X) (i:=3) (q:=X) (by omega) rfl;obtain⟨T,hT⟩:∃ T,T=X*O':=⟨_,rfl⟩;have X0:X≠0:=by omega
   have T0:T≠0:=by rw[hT];exact Zbe X0 hO
   have nO:=R1.2.2.2.1;have nU:=R2.2.2.2.1;have eQ:=rQ.2.2.2.1;have hTl:T<4294967296^tiT X n:=by
    have:=Z0L (Na.Zbf X) (Na.Zbf O');rw[← hT,← eQ,← nO] at this;exact this
   have hTm:tiT X n≤302:=by unfold tiT;omega
   have rT:Na.IsR (Z4K xa.1 xb.1 o n c o' n' c' X T) (a14 4) (t14 (tiT X n) T) (tiT X n) T:=Na.Zhd rfl hTl (by omega);have rU:Na.IsR (Z4K xa.1 xb.1 o n c o' n' c' X T) (some ⟨1,o',none⟩) n' c' U':=Z0O R2 hy rfl;have eT:=rT.2.2.2.1;rw[← hT] at l3' l4;have hle:U'≤T:=by
    rcases Nat.lt_or_ge T U' with c0 | c0
    ·rw[Nat.div_eq_of_lt c0] at l3';omega
    ·exact c0
   have hsl:=Na.ZzY hle;have hVl:V'<4294967296^tiV X n n' T:=by
    have:=Na.ZzX hU hsl;rw[l3'] at this;unfold tiV;rw[eT,nU];exact this
   have hVm:tiV X n n' T≤400:=by unfold tiV;have:t14 (tiT X n) T≤tiT X n:=by {have:=zm (dg (tiT X n) (T:Int));rw[ZP] at this;exact this};omega
   have eV:=Zns hVl (by omega);have wV:(Na.d32 V').length=2:=by
    have h1:(Na.d32 V').length≤2:=Na.ZdI (by show V'<4294967296^2;omega);have h2:V'<4294967296^(Na.d32 V').length:=Na.Zbf V';rcases (show (Na.d32 V').length=0∨(Na.d32 V').length=1∨(Na.d32 V').length=2 by omega) with c0 | c0 | c0
    ·rw[c0,Nat.pow_zero] at h2;omega
    ·rw[c0,Nat.pow_one] at h2;omega
    ·exact c0
   rw[wV] at eV;have hRl:T % U'<4294967296^(t14 (tiT X n) T+1):=by
    have h2:T % U'<T+1:=Nat.lt_succ_of_le (Nat.mod_le _ _);refine Nat.lt_of_lt_of_le h2 ?_;rw[eT,Nat.pow_succ];have:=Na.Zbf T;show T+1≤_;have e3:(Na.d32 T).length=(Na.d32 T).length:=rfl;omega
   have tl1:t14 (tiT X n) T≤302:=by have:=zm (dg (tiT X n) (T:Int));rw[ZP] at this;unfold t14;omega
   have eR:=Zns hRl (by omega);have hd:decide (((t14 (t14 (tiT X n) T+1) (T % U'):Nat):Int)>0)=d:=by
    rw[eR,← l4];by_cases hz:T % U'=0
    ·have h2:(Na.d32 (T % U')).length=0:=by rw[hz];show (db 4294967296 0).length=0;rw[zj];rfl
     rw[h2,Xb (show ¬ (T % U'≠0) from fun h=>h hz)];rfl
    ·have:=Na.Zb3 hz;rw[Xa hz];exact Xa (by omega)
   obtain⟨kv,hkv⟩:∃ k,tiV X n n' T=k+2:=by
    refine⟨tiV X n n' T-2,?_⟩;have:=zm (dg (tiV X n n' T) (V':Int));rw[ZP] at this;have e4:Zc (dg (tiV X n n' T) (V':Int))=2:=eV;omega
   have c0:Z3 (wU (dg (tiV X n n' T) (V':Int)))[0]? (.int .u32 ((V':Int) % 4294967296))=true:=by
    rw[hkv];show Z3 (some (.int .u32 ((V':Int) % 4294967296))) (.int .u32 ((V':Int) % 4294967296))=true;simp [Z3]
   have c1:Z3 (wU (dg (tiV X n n' T) (V':Int)))[1]? (.int .u32 ((V':Int)/4294967296 % 4294967296))=true:=by
    rw[hkv];show Z3 (some (.int .u32 ((V':Int)/4294967296 % 4294967296))) (.int .u32 ((V':Int)/4294967296 % 4294967296))=true;simp [Z3]
   have f:=Z6D xa.1 xb.1 o n c o' n' c' X T V' (T % U') ((V':Int) % 4294967296) ((V':Int)/4294967296 % 4294967296) d;rw[Z0P (by omega)] at f;have hdv:=Na.Z63 rT rU;rw[l3'] at hdv;have hpd:=ZiF rQ rO X0 hO (l:=[(decide ((0:Int)≤(X:Nat)∧((X:Nat):Int)<18446744073709551616),true)]) (ZB (Xa (by omega)));rw[← hT] at hpd;have pU:=Na.Zb3 hU;have fin:=Znu Z4I f (Za hd (Za (Xb (by rw[eV];decide)) (Za rfl (Za c1 (Za (Xa (by rw[eV];decide)) (Za (Xa (by rw[eV];decide)) (Za rfl (Za c0 (Za (Xa (by rw[eV];decide)) (Za (Xa (by rw[eV];decide)) (Za hdv (Za (Na.rX rT) (Za (Na.rX rU) (Za (Na.rG rT rU (by omega) hle) hpd)))))))))))))) (by rfl) (by rfl) (ZfF a7 d7) E (σ:=Zd1 b b') (ZcL hx a5 a6 hy d5 d6);have evals:List.map (rn (Zd1 b b')) [.agg #[sl 0 o n c,sl 1 o' n' c'],.int .u64 X]=[.agg cs,.int .u64 X]:=by
    rw[ecs];simp [rn,rn2,rn1,sl,Zd1]
   rw[evals] at fin;exact fin
  ·cases hg
 ·cases hg
end Go.Proofs.YtgefjidphfdhdaaGreatDoor
namespace Go.Proofs.YtgefjidphfdhdaaGreatDoor
open Go.KRun Go.Wd
theorem ZsO {p:Bool×Bool}(h:p.1=p.2):Zu [p]:=fun x hx=>by rw[List.mem_singleton.1 hx];exact h
theorem Zbq {p:Bool×Bool}{l:Log}(h:p.1=p.2) (hl:Zu l):Zu (p::l):=fun x hx=>by
 rcases List.mem_cons.1 hx with rfl | hx
 ·exact h
 ·exact hl x hx
end Go.Proofs.YtgefjidphfdhdaaGreatDoor
namespace Go.Proofs.YtgefjidphfdhdaaGreatDoor
open Go.Proofs.Tryz
open Go.IntKind
open Go.KRun Go.Wd
def Za2:List UInt8:=(List.range 256).map fun i=>UInt8.ofNat (bitLen i)
def ZdD (z:Int):Int:=((Za2.getD (u8.wrap z).toNat 0).toNat:Int)
def lt8 (z:Int):Bool×Bool:=(decide (0≤u8.wrap z∧(u8.wrap z).toNat<Za2.length),true)
def sh (z:Int) (k:Nat):Int:=z.fdiv (2^k)
def ge (z k:Int) (d:Bool):Bool×Bool:=(decide (z≥k),d)
def ZeN (m z:Int):Value:= .int .i64 (i64.wrap (m+i64.wrap (ZdD z)))
def nz:Bool×Bool:=(false,false)
theorem Zwh (u:Int):ZH (Zr (Zo prog Zg Zn true) 3000 161 [.int .u64 u] [tst false,tst false,tst false]) (ZeN 0 u) [lt8 u,ge u 256 false,ge u 65536 false,ge u 4294967296 false]:=by and_intros<;>kernel_rfl
theorem Zwi (u:Int):ZH (Zr (Zo prog Zg Zn true) 3000 161 [.int .u64 u] [tst false,tst false,tst true]) (ZeN 8 (sh u 8)) [lt8 (sh u 8),nz,ge u 256 true,ge u 65536 false,ge u 4294967296 false]:=by and_intros<;>kernel_rfl
theorem Zwj (u:Int):ZH (Zr (Zo prog Zg Zn true) 3000 161 [.int .u64 u] [tst false,tst true,tst false]) (ZeN 16 (sh u 16)) [lt8 (sh u 16),ge (sh u 16) 256 false,nz,ge u 65536 true,ge u 4294967296 false]:=by and_intros<;>kernel_rfl
theorem Zwk (u:Int):ZH (Zr (Zo prog Zg Zn true) 3000 161 [.int .u64 u] [tst false,tst true,tst true]) (ZeN 24 (sh (sh u 16) 8)) [lt8 (sh (sh u 16) 8),nz,ge (sh u 16) 256 true,nz,ge u 65536 true,ge u 4294967296 false]:=by and_intros<;>kernel_rfl
theorem Zwl (u:Int):ZH (Zr (Zo prog Zg Zn true) 3000 161 [.int .u64 u] [tst true,tst false,tst false]) (ZeN 32 (sh u 32)) [lt8 (sh u 32),ge (sh u 32) 256 false,ge (sh u 32) 65536 false,nz,ge u 4294967296 true]:=by and_intros<;>kernel_rfl
theorem Zwm (u:Int):ZH (Zr (Zo prog Zg Zn true) 3000 161 [.int .u64 u] [tst true,tst false,tst true]) (ZeN 40 (sh (sh u 32) 8)) [lt8 (sh (sh u 32) 8),nz,ge (sh u 32) 256 true,ge (sh u 32) 65536 false,nz,ge u 4294967296 true]:=by and_intros<;>kernel_rfl
theorem Zwn (u:Int):ZH (Zr (Zo prog Zg Zn true) 3000 161 [.int .u64 u] [tst true,tst true,tst false]) (ZeN 48 (sh (sh u 32) 16)) [lt8 (sh (sh u 32) 16),ge (sh (sh u 32) 16) 256 false,nz,ge (sh u 32) 65536 true,nz,ge u 4294967296 true]:=by and_intros<;>kernel_rfl
theorem Zwo (u:Int):ZH (Zr (Zo prog Zg Zn true) 3000 161 [.int .u64 u] [tst true,tst true,tst true]) (ZeN 56 (sh (sh (sh u 32) 16) 8)) [lt8 (sh (sh (sh u 32) 16) 8),nz,ge (sh (sh u 32) 16) 256 true,nz,ge (sh u 32) 65536 true,nz,ge u 4294967296 true]:=by and_intros<;>kernel_rfl
theorem Zc7:Za2.length=256:=by unfold Za2;rw[List.length_map,List.length_range]
theorem Zc8 (b:Nat) (h:b<256):(Za2.getD b 0).toNat=bitLen b:=by
 have h1:Za2.getD b 0=UInt8.ofNat (bitLen b):=by
  unfold Za2;rw[List.getD,List.getElem?_map,List.getElem?_range h];rfl
 have h2:=bitLen_le8 b h;rw[h1,UInt8.toNat_ofNat'];omega
theorem ZgV {z:Int}(h0:0≤z) (h1:z<256):u8.wrap z=z:=by
 simp [IntKind.wrap,IntKind.bits,IntKind.signed];omega
theorem zQ {m:Int}{Z:Nat}(hm:0≤m) (hm':m≤56) (h1:Z<256):ZeN m (Z:Int)= .int .i64 (m+bitLen Z)∧(lt8 (Z:Int)).1=(lt8 (Z:Int)).2:=by
 have hb:=bitLen_le8 Z h1;have e:=ZgV (z:=(Z:Int)) (by omega) (by omega);refine⟨?_,?_⟩
 ·unfold ZeN ZdD;rw[e,Xg,Zc8 Z h1,Zgj (n:=((bitLen Z:Nat):Int)) (by omega) (by omega),Zgj (by omega) (by omega)]
 ·unfold lt8;rw[e,Xg];rw[Zc7];exact Xa (And.intro (by omega) h1)
theorem Zau (Z k:Nat):sh (Z:Int) k=((Z/2^k:Nat):Int):=by
 unfold sh;rw[Int.fdiv_eq_ediv_of_nonneg _ (Int.le_of_lt (Int.pow_pos (by omega)))];simp
theorem ZjQ {z k:Int}(h:k≤z):(ge z k true).1=(ge z k true).2:=Xa h
theorem ZjR {z k:Int}(h:z<k):(ge z k false).1=(ge z k false).2:=Xb (by omega)
theorem ZaQ:nz.1=nz.2:=rfl
theorem Za3 (x b:Nat) (h:2^b≤x):bitLen x=b+bitLen (x/2^b):=bitLen_shift x b (by
 have:0<x/2^b:=Nat.div_pos h (Nat.two_pow_pos b);omega)
def Znx (u:Int):Value:= .int .i64 (bitLen u.toNat:Nat)
set_option maxRecDepth 100000 in
theorem Zhw (u:Int) (h0:0≤u) (h1:u<18446744073709551616) (w:World):Calls prog 161 #[.int .u64 u] w fun e w'=>e= .returned (Znx u)∧zH w w':=by
 obtain⟨U,rfl⟩:=Int.eq_ofNat_of_zero_le h0;unfold Znx;rw[Xg];have p8:(2:Nat)^8=256:=rfl;have p16:(2:Nat)^16=65536:=rfl;have p32:(2:Nat)^32=4294967296:=rfl;have step:∀ {v:Value}{m:Int}{Z:Nat}{s:List Dec}{cs:Log},ZH (Zr (Zo prog Zg Zn true) 3000 161 [.int .u64 (U:Int)] s) v cs→Zu cs→v= .int .i64 (bitLen U:Nat)→Calls prog 161 #[.int .u64 (U:Int)] w fun e w'=>e= .returned (.int .i64 (bitLen U:Nat))∧zH w w':=
  fun {v m Z s cs} hf hc hv=>by subst hv;exact Zf (Zl Ze) hf hc (by rfl) (by rfl) w
 by_cases a:U<4294967296
 ·by_cases b:U<65536
  ·by_cases c:U<256
   ·obtain⟨e1,e2⟩:=zQ (m:=0) (by omega) (by omega) c;exact step (m:=0) (Z:=0) (Zwh U) (Zbq e2 (Zbq (ZjR (by omega)) (Zbq (ZjR (by omega)) (ZsO (ZjR (by omega)))))) (by rw[e1];congr 1;omega)
   ·have l:=Za3 U 8 (by omega);obtain⟨e1,e2⟩:=zQ (m:=8) (Z:=U/2^8) (by omega) (by omega) (by omega);rw[← Zau] at e1 e2;exact step (m:=0) (Z:=0) (Zwi U) (Zbq e2 (Zbq ZaQ (Zbq (ZjQ (by omega)) (Zbq (ZjR (by omega)) (ZsO (ZjR (by omega))))))) (by rw[e1];congr 1;omega)
  ·have l:=Za3 U 16 (by omega);by_cases c:U/2^16<256
   ·obtain⟨e1,e2⟩:=zQ (m:=16) (Z:=U/2^16) (by omega) (by omega) c;rw[← Zau] at e1 e2;exact step (m:=0) (Z:=0) (Zwj U) (Zbq e2 (Zbq (ZjR (by rw[Zau];omega)) (Zbq ZaQ (Zbq (ZjQ (by omega)) (ZsO (ZjR (by omega))))))) (by rw[e1];congr 1;omega)
   ·have l2:=Za3 (U/2^16) 8 (by omega);obtain⟨e1,e2⟩:=zQ (m:=24) (Z:=U/2^16/2^8) (by omega) (by omega) (by omega);rw[← Zau,← Zau] at e1 e2;exact step (m:=0) (Z:=0) (Zwk U) (Zbq e2 (Zbq ZaQ (Zbq (ZjQ (by rw[Zau];omega)) (Zbq ZaQ (Zbq (ZjQ (by omega)) (ZsO (ZjR (by omega)))))))) (by rw[e1];congr 1;omega)
 ·have l0:=Za3 U 32 (by omega);have q:U/2^32<4294967296:=by omega
  by_cases b:U/2^32<65536
  ·by_cases c:U/2^32<256
   ·obtain⟨e1,e2⟩:=zQ (m:=32) (Z:=U/2^32) (by omega) (by omega) c;rw[← Zau] at e1 e2;exact step (m:=0) (Z:=0) (Zwl U) (Zbq e2 (Zbq (ZjR (by rw[Zau];omega)) (Zbq (ZjR (by rw[Zau];omega)) (Zbq ZaQ (ZsO (ZjQ (by omega))))))) (by rw[e1];congr 1;omega)
   ·have l:=Za3 (U/2^32) 8 (by omega);obtain⟨e1,e2⟩:=zQ (m:=40) (Z:=U/2^32/2^8) (by omega) (by omega) (by omega);rw[← Zau,← Zau] at e1 e2;exact step (m:=0) (Z:=0) (Zwm U) (Zbq e2 (Zbq ZaQ (Zbq (ZjQ (by rw[Zau];omega)) (Zbq (ZjR (by rw[Zau];omega)) (Zbq ZaQ (ZsO (ZjQ (by omega)))))))) (by rw[e1];congr 1;omega)
  ·have l:=Za3 (U/2^32) 16 (by omega);by_cases c:U/2^32/2^16<256
   ·obtain⟨e1,e2⟩:=zQ (m:=48) (Z:=U/2^32/2^16) (by omega) (by omega) c;rw[← Zau,← Zau] at e1 e2;exact step (m:=0) (Z:=0) (Zwn U) (Zbq e2 (Zbq (ZjR (by rw[Zau,Zau];omega)) (Zbq ZaQ (Zbq (ZjQ (by rw[Zau];omega)) (Zbq ZaQ (ZsO (ZjQ (by omega)))))))) (by rw[e1];congr 1;omega)
   ·have l2:=Za3 (U/2^32/2^16) 8 (by omega);obtain⟨e1,e2⟩:=zQ (m:=56) (Z:=U/2^32/2^16/2^8) (by omega) (by omega) (by omega);rw[← Zau,← Zau,← Zau] at e1 e2;exact step (m:=0) (Z:=0) (Zwo U) (Zbq e2 (Zbq ZaQ (Zbq (ZjQ (by rw[Zau,Zau];omega)) (Zbq ZaQ (Zbq (ZjQ (by rw[Zau];omega)) (Zbq ZaQ (ZsO (ZjQ (by omega))))))))) (by rw[e1];congr 1;omega)
def gu (k:Int→Value):Ans:=fun vals s=>
 match vals with
 | [.int .u64 u]=>some (k u,s,[(decide (0≤u∧u<18446744073709551616),true)])
 | _=>none
theorem Z4N {f:Nat}{k:Int→Value}(hk:∀ u,0≤u→u<18446744073709551616→∀ w,Calls prog f #[.int .u64 u] w fun e w'=>e= .returned (k u)∧zH w w'):z8 f (gu k):=by
 intro vals s v s' lg h hl w;unfold gu at h;split at h
 ·cases h;have h1:=hl _ Xf;simp only[Xi] at h1;exact hk _ h1.1 h1.2 w
 ·cases h
def Zg8:Con:=alt 161 (gu Znx) Zn
theorem Zc9:ConOk Zg8:=ZF func161 rfl (Z4N Zhw) Ze
end Go.Proofs.YtgefjidphfdhdaaGreatDoor
namespace Go.Proofs.YtgefjidphfdhdaaGreatDoor
open Go.Proofs.Tryz
open Go.IntKind
open Go.KRun Go.Nt Go.Rd Go.Wd Go.Pt
set_option maxRecDepth 100000
set_option linter.unusedVariables false
theorem Z6E (m:Bool) (c e q:Int):ZH (Zr (Zo prog Zg Zg8 true) 200 115 [vP m c e q] []) (.int .i64 ((i64.wrap (i64.wrap (i64.wrap (e+((Go.bitLen q.toNat:Nat):Int))-1)*78913)).fdiv 262144)) [(false,false),(decide (0≤q∧q<18446744073709551616),true)]:=by and_intros<;>kernel_rfl
def Zny (E q:Int):Bool:=decide (1≤q∧q<9007199254740992∧ -1074≤E∧E≤972)
def Z4O:Ans:=fun vals s=>
 match vals with
 | [v]=>
  match vP4 v with
  | some (_,_,E,q)=>some (.int .i64 (lgS q.toNat E),s,[(Zny E q,true)])
  | none=>none
 | _=>none
theorem Zwp:z8 115 Z4O:=by
 intro vals s v s' lg h hl w;unfold Z4O at h;split at h
 ·split at h
  ·rename_i o m c E q hv;rw[Zcs hv];cases h;obtain⟨h1,h2,h3,h4⟩:=Xc (hl _ Xf);have hb:bitLen q.toNat≤53:=Go.Rn.len_le (k:=53) (show q.toNat<9007199254740992 by omega);have f:=Z6E m c E q;rw[Zw (n:=E+((Go.bitLen q.toNat:Nat):Int)) (by omega) (by omega),Zw (n:=E+((Go.bitLen q.toNat:Nat):Int)-1) (by omega) (by omega),Zw (by omega) (by omega),Int.fdiv_eq_ediv_of_nonneg _ (by omega)] at f;exact Zf (Zl Zc9) f (Za rfl (ZB (Xa (by omega)))) (by rfl) (by rfl) w
  ·cases h
 ·cases h
def Zbn:Con:=alt 115 Z4O Zn
theorem Zrl:ConOk Zbn:=ZF func115 rfl Zwp Ze
def Zfz:Hc:=zx 117 Z4M (zx 76 Na.Zq5 (zx 77 Na.Zq4 hcN))
theorem Zwq:HcOk Zfz:=Zt func117 rfl Zwg (Zt func76 rfl Na.Zit (Zt func77 rfl Na.Zis zw))
theorem ZbI:TabOk (Zm prog Zg Zbn Zfz):=Zp Zrl Zwq
def spT (e q:Int):Int:=i64.wrap (lgS q.toNat e-17)
def spN (e q:Int):Int:=i64.wrap (0-spT e q)
def spW (e:Int):Int:=i64.wrap (e-2)
def ZsP (e q:Int):Nat:=Na.pMi 10 (mx0 (spN e q))
def ZsQ (e q:Int):Nat:=Na.pMi 10 (mx0 (i64.wrap (0-spN e q)))
def Zf0 (e q:Int) (P:Nat):Nat:=Na.sM (t14 (ZsP e q) P) (mx0 (spW e))
def Zgu (e q:Int) (P':Nat):Nat:=Na.sM (t14 (ZsQ e q) P') (mx0 (i64.wrap (0-spW e)))
def vSp (l h a:Int) (d:Bool) (t:Int):Value:= .agg #[.int .u64 l,.int .u64 h,.int .u64 a,.bool d,.int .i64 t]
def bSp (l h a:Int) (d:Bool) (t:Int):List Value×TypeId:=([.int .u64 l,.int .u64 h,.int .u64 a,.bool d,.int .i64 t],102)
def bPa (m:Bool) (c e q:Int):List Value×TypeId:=([.bool m,.int .i64 c,.int .i64 e,.int .u64 q],44)
def bSc (e q:Int) (P P' O U:Nat):List Value×TypeId:=([sl 6 0 (t14 (Zf0 e q P) O) (Zf0 e q P),sl 7 0 (t14 (Zgu e q P') U) (Zgu e q P')],168)
def Z4P (m:Bool) (c e q:Int) (P P':Nat):Hp:=⟨6,[r14 (ZsQ e q) P',r14 (ZsP e q) P,([.slice none 0 0,.slice none 0 0],168),bSp 0 0 0 false (spT e q),bSp 0 0 0 false 0,bPa m c e q]⟩
def Z4Q (m:Bool) (c e q:Int) (P P' O:Nat):Hp:=⟨7,[r14 (Zf0 e q P) O,r14 (ZsQ e q) P',r14 (ZsP e q) P,([.slice none 0 0,.slice none 0 0],168),bSp 0 0 0 false (spT e q),bSp 0 0 0 false 0,bPa m c e q]⟩
def Z0Q (m:Bool) (c e q:Int) (P P' O U:Nat) (l a:Int) (d:Bool):Hp:=⟨9,[bSc e q P P' O U,r14 (Zgu e q P') U,r14 (Zf0 e q P) O,r14 (ZsQ e q) P',r14 (ZsP e q) P,bSc e q P P' O U,bSp l 0 a d (spT e q),bSp 0 0 0 false 0,bPa m c e q]⟩
def lTi (e q:Int) (P P' O U:Nat) (H:Hp) (x:Int) (V:Nat) (d:Bool) (l:Log):Log:=(Zow H (a14 6) (t14 (Zf0 e q P) O) (Zf0 e q P) O,true)::(Zow H (a14 7) (t14 (Zgu e q P') U) (Zgu e q P') U,true)::(decide (((x.toNat*O/U:Nat):Int)=(V:Int)),true)::(decide (x.toNat*O % U≠0),d)::(decide (1≤x∧x<18446744073709551616∧O≠0∧U≠0∧(4294967296:Int)≤(V:Int)∧(V:Int)<18446744073709551616),true)::l
def Z4R (m:Bool) (c e q:Int) (P P' O U:Nat) (cl:Bool) (l:Log):Log:=(q.tmod 2==0,cl)::(decide ((2:Int)=0),false)::Znr (Z4Q m c e q P P' O) (a14 5) (t14 (ZsQ e q) P') (ZsQ e q) (mx0 (i64.wrap (0-spW e))) U (Znr (Z4P m c e q P P') (a14 4) (t14 (ZsP e q) P) (ZsP e q) (mx0 (spW e)) O (ZjG 10 (mx0 (i64.wrap (0-spN e q))) P' (ZjG 10 (mx0 (spN e q)) P ((Zny e q,true)::l))))
def sp4 (q:Int):Int:=u64.wrap (4*q)
def Z4S (q:Int):Int:=u64.wrap (sp4 q+2)
def Zwr (pw:Bool) (q:Int):Int:=if pw=true then u64.wrap (sp4 q-1) else u64.wrap (sp4 q-2)
def lPo (e q:Int) (k:Nat):Log:=match k with | 0=>[(q==4503599627370496,false)] | 1=>[(decide (e> -1074),true),(q==4503599627370496,true)] | _=>[(decide (e> -1074),false),(q==4503599627370496,true)]
def Zbo (m:Bool) (c e q:Int) (P P' O U A L H:Nat) (d0:Bool) (k:Nat) (cl d1 d2:Bool) (L':Int):Log:=lTi e q P P' O U (Z0Q m c e q P P' O U L' A d0) (Z4S q) H d2 (lTi e q P P' O U (Z0Q m c e q P P' O U 0 A d0) (Zwr (Nat.beq k 1) q) L d1 (lTi e q P P' O U (Z0Q m c e q P P' O U 0 0 false) (sp4 q) A d0 (Z4R m c e q P P' O U cl (lPo e q k))))
theorem Znz (m:Bool) (c e q:Int) (P P' O U A L H:Nat) (d0:Bool):ZH (Zr (Zm prog Zg Zbn Zfz) 200 60 [vP m c e q] [cmp false,cmp false,cmp false,num P,cmp false,cmp false,num P',cmp false,cmp false,cmp false,num O,cmp false,cmp false,cmp false,num U,cmp false,cmp true,num O,num U,num A,cmp d0,num O,num U,num L,cmp true,num O,num U,num H,cmp true]) (vSp (u64.wrap (L+1)) (H:Int) A d0 (spT e q)) (Zbo m c e q P P' O U A L H d0 0 true true true (u64.wrap (L+1))):=by and_intros<;>kernel_rfl
theorem Zn0 (m:Bool) (c e q:Int) (P P' O U A L H:Nat) (d0:Bool):ZH (Zr (Zm prog Zg Zbn Zfz) 200 60 [vP m c e q] [cmp false,cmp false,cmp false,num P,cmp false,cmp false,num P',cmp false,cmp false,cmp false,num O,cmp false,cmp false,cmp false,num U,cmp false,cmp true,num O,num U,num A,cmp d0,num O,num U,num L,cmp true,num O,num U,num H,cmp false]) (vSp (u64.wrap (L+1)) (H:Int) A d0 (spT e q)) (Zbo m c e q P P' O U A L H d0 0 true true false (u64.wrap (L+1))):=by and_intros<;>kernel_rfl
theorem Zn1 (m:Bool) (c e q:Int) (P P' O U A L H:Nat) (d0:Bool):ZH (Zr (Zm prog Zg Zbn Zfz) 200 60 [vP m c e q] [cmp false,cmp false,cmp false,num P,cmp false,cmp false,num P',cmp false,cmp false,cmp false,num O,cmp false,cmp false,cmp false,num U,cmp false,cmp true,num O,num U,num A,cmp d0,num O,num U,num L,cmp false,num O,num U,num H,cmp true]) (vSp (L:Int) (H:Int) A d0 (spT e q)) (Zbo m c e q P P' O U A L H d0 0 true false true (L:Int)):=by and_intros<;>kernel_rfl
theorem Zn2 (m:Bool) (c e q:Int) (P P' O U A L H:Nat) (d0:Bool):ZH (Zr (Zm prog Zg Zbn Zfz) 200 60 [vP m c e q] [cmp false,cmp false,cmp false,num P,cmp false,cmp false,num P',cmp false,cmp false,cmp false,num O,cmp false,cmp false,cmp false,num U,cmp false,cmp true,num O,num U,num A,cmp d0,num O,num U,num L,cmp false,num O,num U,num H,cmp false]) (vSp (L:Int) (H:Int) A d0 (spT e q)) (Zbo m c e q P P' O U A L H d0 0 true false false (L:Int)):=by and_intros<;>kernel_rfl
theorem Zn3 (m:Bool) (c e q:Int) (P P' O U A L H:Nat) (d0:Bool):ZH (Zr (Zm prog Zg Zbn Zfz) 200 60 [vP m c e q] [cmp false,cmp false,cmp false,num P,cmp false,cmp false,num P',cmp false,cmp false,cmp false,num O,cmp false,cmp false,cmp false,num U,cmp false,cmp false,num O,num U,num A,cmp d0,num O,num U,num L,cmp true,num O,num U,num H,cmp true]) (vSp (u64.wrap (L+1)) (H:Int) A d0 (spT e q)) (Zbo m c e q P P' O U A L H d0 0 false true true (u64.wrap (L+1))):=by and_intros<;>kernel_rfl
theorem Zn4 (m:Bool) (c e q:Int) (P P' O U A L H:Nat) (d0:Bool):ZH (Zr (Zm prog Zg Zbn Zfz) 200 60 [vP m c e q] [cmp false,cmp false,cmp false,num P,cmp false,cmp false,num P',cmp false,cmp false,cmp false,num O,cmp false,cmp false,cmp false,num U,cmp false,cmp false,num O,num U,num A,cmp d0,num O,num U,num L,cmp true,num O,num U,num H,cmp false]) (vSp (u64.wrap (L+1)) (u64.wrap (H-1)) A d0 (spT e q)) (Zbo m c e q P P' O U A L H d0 0 false true false (u64.wrap (L+1))):=by and_intros<;>kernel_rfl
theorem Zn5 (m:Bool) (c e q:Int) (P P' O U A L H:Nat) (d0:Bool):ZH (Zr (Zm prog Zg Zbn Zfz) 200 60 [vP m c e q] [cmp false,cmp false,cmp false,num P,cmp false,cmp false,num P',cmp false,cmp false,cmp false,num O,cmp false,cmp false,cmp false,num U,cmp false,cmp false,num O,num U,num A,cmp d0,num O,num U,num L,cmp false,num O,num U,num H,cmp true]) (vSp (u64.wrap (L+1)) (H:Int) A d0 (spT e q)) (Zbo m c e q P P' O U A L H d0 0 false false true (u64.wrap (L+1))):=by and_intros<;>kernel_rfl
theorem Zn6 (m:Bool) (c e q:Int) (P P' O U A L H:Nat) (d0:Bool):ZH (Zr (Zm prog Zg Zbn Zfz) 200 60 [vP m c e q] [cmp false,cmp false,cmp false,num P,cmp false,cmp false,num P',cmp false,cmp false,cmp false,num O,cmp false,cmp false,cmp false,num U,cmp false,cmp false,num O,num U,num A,cmp d0,num O,num U,num L,cmp false,num O,num U,num H,cmp false]) (vSp (u64.wrap (L+1)) (u64.wrap (H-1)) A d0 (spT e q)) (Zbo m c e q P P' O U A L H d0 0 false false false (u64.wrap (L+1))):=by and_intros<;>kernel_rfl
theorem Zn7 (m:Bool) (c e q:Int) (P P' O U A L H:Nat) (d0:Bool):ZH (Zr (Zm prog Zg Zbn Zfz) 200 60 [vP m c e q] [cmp true,cmp true,cmp false,cmp false,num P,cmp false,cmp false,num P',cmp false,cmp false,cmp false,num O,cmp false,cmp false,cmp false,num U,cmp false,cmp true,num O,num U,num A,cmp d0,num O,num U,num L,cmp true,num O,num U,num H,cmp true]) (vSp (u64.wrap (L+1)) (H:Int) A d0 (spT e q)) (Zbo m c e q P P' O U A L H d0 1 true true true (u64.wrap (L+1))):=by and_intros<;>kernel_rfl
theorem Zn8 (m:Bool) (c e q:Int) (P P' O U A L H:Nat) (d0:Bool):ZH (Zr (Zm prog Zg Zbn Zfz) 200 60 [vP m c e q] [cmp true,cmp true,cmp false,cmp false,num P,cmp false,cmp false,num P',cmp false,cmp false,cmp false,num O,cmp false,cmp false,cmp false,num U,cmp false,cmp true,num O,num U,num A,cmp d0,num O,num U,num L,cmp true,num O,num U,num H,cmp false]) (vSp (u64.wrap (L+1)) (H:Int) A d0 (spT e q)) (Zbo m c e q P P' O U A L H d0 1 true true false (u64.wrap (L+1))):=by and_intros<;>kernel_rfl
theorem Zn9 (m:Bool) (c e q:Int) (P P' O U A L H:Nat) (d0:Bool):ZH (Zr (Zm prog Zg Zbn Zfz) 200 60 [vP m c e q] [cmp true,cmp true,cmp false,cmp false,num P,cmp false,cmp false,num P',cmp false,cmp false,cmp false,num O,cmp false,cmp false,cmp false,num U,cmp false,cmp true,num O,num U,num A,cmp d0,num O,num U,num L,cmp false,num O,num U,num H,cmp true]) (vSp (L:Int) (H:Int) A d0 (spT e q)) (Zbo m c e q P P' O U A L H d0 1 true false true (L:Int)):=by and_intros<;>kernel_rfl
theorem ZnA (m:Bool) (c e q:Int) (P P' O U A L H:Nat) (d0:Bool):ZH (Zr (Zm prog Zg Zbn Zfz) 200 60 [vP m c e q] [cmp true,cmp true,cmp false,cmp false,num P,cmp false,cmp false,num P',cmp false,cmp false,cmp false,num O,cmp false,cmp false,cmp false,num U,cmp false,cmp true,num O,num U,num A,cmp d0,num O,num U,num L,cmp false,num O,num U,num H,cmp false]) (vSp (L:Int) (H:Int) A d0 (spT e q)) (Zbo m c e q P P' O U A L H d0 1 true false false (L:Int)):=by and_intros<;>kernel_rfl
theorem ZnB (m:Bool) (c e q:Int) (P P' O U A L H:Nat) (d0:Bool):ZH (Zr (Zm prog Zg Zbn Zfz) 200 60 [vP m c e q] [cmp true,cmp false,cmp false,cmp false,num P,cmp false,cmp false,num P',cmp false,cmp false,cmp false,num O,cmp false,cmp false,cmp false,num U,cmp false,cmp true,num O,num U,num A,cmp d0,num O,num U,num L,cmp true,num O,num U,num H,cmp true]) (vSp (u64.wrap (L+1)) (H:Int) A d0 (spT e q)) (Zbo m c e q P P' O U A L H d0 2 true true true (u64.wrap (L+1))):=by and_intros<;>kernel_rfl
theorem ZnC (m:Bool) (c e q:Int) (P P' O U A L H:Nat) (d0:Bool):ZH (Zr (Zm prog Zg Zbn Zfz) 200 60 [vP m c e q] [cmp true,cmp false,cmp false,cmp false,num P,cmp false,cmp false,num P',cmp false,cmp false,cmp false,num O,cmp false,cmp false,cmp false,num U,cmp false,cmp true,num O,num U,num A,cmp d0,num O,num U,num L,cmp true,num O,num U,num H,cmp false]) (vSp (u64.wrap (L+1)) (H:Int) A d0 (spT e q)) (Zbo m c e q P P' O U A L H d0 2 true true false (u64.wrap (L+1))):=by and_intros<;>kernel_rfl
theorem ZnD (m:Bool) (c e q:Int) (P P' O U A L H:Nat) (d0:Bool):ZH (Zr (Zm prog Zg Zbn Zfz) 200 60 [vP m c e q] [cmp true,cmp false,cmp false,cmp false,num P,cmp false,cmp false,num P',cmp false,cmp false,cmp false,num O,cmp false,cmp false,cmp false,num U,cmp false,cmp true,num O,num U,num A,cmp d0,num O,num U,num L,cmp false,num O,num U,num H,cmp true]) (vSp (L:Int) (H:Int) A d0 (spT e q)) (Zbo m c e q P P' O U A L H d0 2 true false true (L:Int)):=by and_intros<;>kernel_rfl
theorem ZnE (m:Bool) (c e q:Int) (P P' O U A L H:Nat) (d0:Bool):ZH (Zr (Zm prog Zg Zbn Zfz) 200 60 [vP m c e q] [cmp true,cmp false,cmp false,cmp false,num P,cmp false,cmp false,num P',cmp false,cmp false,cmp false,num O,cmp false,cmp false,cmp false,num U,cmp false,cmp true,num O,num U,num A,cmp d0,num O,num U,num L,cmp false,num O,num U,num H,cmp false]) (vSp (L:Int) (H:Int) A d0 (spT e q)) (Zbo m c e q P P' O U A L H d0 2 true false false (L:Int)):=by and_intros<;>kernel_rfl
end Go.Proofs.YtgefjidphfdhdaaGreatDoor
namespace Go.Proofs.YtgefjidphfdhdaaGreatDoor
open Go.Proofs.Tryz
open Go.IntKind
open Go.KRun Go.Nt Go.Rd Go.Wd Go.Pt
set_option maxRecDepth 100000
def sAt (S:Nat) (E j:Int):Nat:=Z5 E j (4*S)
def sMo (S:Nat) (E j:Int):Bool:=Zat E j (4*S)
def sLo (S:Nat) (E j:Int):Nat:=Z5 E j (mdL S E)+(if Zat E j (mdL S E)=true∨S % 2=1 then 1 else 0)
def sHi (S:Nat) (E j:Int):Nat:=Z5 E j (mdH S)-(if Zat E j (mdH S)=false∧S % 2=1 then 1 else 0)
theorem ZsR {S:Nat}{E:Int}(h0:S≠0) (hE: -1074≤E) (hE1:E≤972) (hS:S<9007199254740992):(100000000000000000*Za8 E (lgS S E-17)≤4*S*ovN E (lgS S E-17)∧4*S*ovN E (lgS S E-17)<10000000000000000000*Za8 E (lgS S E-17))∧ -400≤lgS S E-17∧lgS S E-17≤300:=by
 obtain⟨bd,h1,h2⟩:=ZsF h0 hE hE1 hS;obtain⟨j,hj⟩:∃ j,j=lgS S E-17:=⟨_,rfl⟩;have hb:=zt E (-j);have hu:=Zfi E j;have a:=ZdL (a:=1) 17 (by rw[Nat.one_mul];exact h1);have b:=Zfe (a:=1) 19 (by rw[Nat.one_mul];exact h2);rw[show -(lgS S E)+((17:Nat):Int)= -j by omega,Nat.one_mul] at a;rw[show -(lgS S E+2)+((19:Nat):Int)= -j by omega,Nat.one_mul] at b;have e17:(10:Nat)^17=100000000000000000:=rfl;have e19:(10:Nat)^19=10000000000000000000:=rfl;rw[e17] at a;rw[e19] at b;have hc:=Zi9 S E j;rw[← hj];refine⟨⟨?_,?_⟩,by omega,by omega⟩
 ·refine Nat.le_of_mul_le_mul_right (c:=pbN E (-j)) ?_ hb;rw[hc];have:=Nat.mul_le_mul_right (Za8 E j) a;have e:100000000000000000*Za8 E j*pbN E (-j)=100000000000000000*pbN E (-j)*Za8 E j:=by ac_rfl
  rw[e];exact this
 ·refine Nat.lt_of_mul_lt_mul_right (a:=pbN E (-j)) ?_;rw[hc];have:=Nat.mul_lt_mul_of_pos_right b hu;have e:10000000000000000000*Za8 E j*pbN E (-j)=10000000000000000000*pbN E (-j)*Za8 E j:=by ac_rfl
  rw[e];exact this
theorem Zws {S:Nat}{E:Int}(h0:S≠0) (hE: -1074≤E) (hE1:E≤972) (hS:S<9007199254740992) {x:Nat}(h1:2*S≤x) (h2:x≤6*S):50000000000000000≤Z5 E (lgS S E-17) x∧Z5 E (lgS S E-17) x<15000000000000000000:=by
 obtain⟨⟨a,b⟩,_⟩:=ZsR h0 hE hE1 hS;obtain⟨j,hj⟩:∃ j,j=lgS S E-17:=⟨_,rfl⟩;rw[← hj] at a b ⊢;have hu:=Zfi E j;unfold Z5;have m1:=Nat.mul_le_mul_right (ovN E j) h1;have m2:=Nat.mul_le_mul_right (ovN E j) h2;obtain⟨X,hX⟩:∃ X,X=S*ovN E j:=⟨_,rfl⟩;have e4:4*S*ovN E j=4*X:=by rw[hX,Nat.mul_assoc]
 have e2:2*S*ovN E j=2*X:=by rw[hX,Nat.mul_assoc]
 have e6:6*S*ovN E j=6*X:=by rw[hX,Nat.mul_assoc]
 rw[e4] at a b;rw[e2] at m1;rw[e6] at m2;obtain⟨Y,hY⟩:∃ Y,Y=x*ovN E j:=⟨_,rfl⟩;obtain⟨u,hu0⟩:∃ u,u=Za8 E j:=⟨_,rfl⟩;rw[← hY] at m1 m2 ⊢;rw[← hu0] at a b hu ⊢;exact⟨(Nat.le_div_iff_mul_le hu).2 (by omega),(Nat.div_lt_iff_lt_mul hu).2 (by omega)⟩
theorem Z0R {e q:Int}{P P' O U:Nat}{H:Hp}{x V:Nat}{d:Bool}(r1:Na.IsR H (a14 6) (t14 (Zf0 e q P) O) (Zf0 e q P) O) (r2:Na.IsR H (a14 7) (t14 (Zgu e q P') U) (Zgu e q P') U) (n1:t14 (Zf0 e q P) O≤300) (n2:t14 (Zgu e q P') U≤300) (hO:O≠0) (hU:U≠0) (hx:1≤x∧x<18446744073709551616) (hV:x*O/U=V) (hb:4294967296≤V∧V<18446744073709551616) (hd:decide (x*O % U≠0)=d) {l:Log}(hl:Zu l):Zu (lTi e q P P' O U H (x:Nat) V d l):=by
 unfold lTi;rw[Xg];exact Za (Znw r1 n1) (Za (Znw r2 n2) (Za (Xa (by rw[hV])) (Za hd (Za (Xa ⟨by omega,by omega,hO,hU,by omega,by omega⟩) hl))))
theorem ZcT {z:Int}(h0:0≤z) (h1:z<18446744073709551616):u64.wrap z=z:=by
 simp [IntKind.wrap,IntKind.bits,IntKind.signed];omega
theorem Zrm (m:Bool) (c E:Int) (S:Nat) (h0:S≠0) (hS:S<9007199254740992) (hE: -1074≤E) (hE1:E≤972) (w:World):Calls prog 60 #[vP m c E S] w fun r w'=>r= .returned (vSp (sLo S E (lgS S E-17)) (sHi S E (lgS S E-17)) (sAt S E (lgS S E-17)) (sMo S E (lgS S E-17)) (lgS S E-17))∧zH w w':=by
 obtain⟨_,j1,j2⟩:=ZsR h0 hE hE1 hS;have bA:=Zws h0 hE hE1 hS (x:=4*S) (by omega) (by omega);have mL:2*S≤mdL S E∧mdL S E≤6*S:=by unfold mdL;split<;>omega
 have mH:2*S≤mdH S∧mdH S≤6*S:=by unfold mdH;omega
 have bL:=Zws h0 hE hE1 hS (x:=mdL S E) mL.1 mL.2;have bH:=Zws h0 hE hE1 hS (x:=mdH S) mH.1 mH.2;obtain⟨j,hj⟩:∃ j,j=lgS S E-17:=⟨_,rfl⟩;rw[← hj] at j1 j2 bA bL bH ⊢;have eT:spT E S=j:=by unfold spT;rw[Xg,← hj,Zw (by omega) (by omega)]
 obtain⟨a,ha⟩:∃ a,a=(-j).toNat:=⟨_,rfl⟩;obtain⟨b,hb⟩:∃ b,b=j.toNat:=⟨_,rfl⟩;obtain⟨k,hk⟩:∃ k,k=(E-2).toNat:=⟨_,rfl⟩;obtain⟨g,hg⟩:∃ g,g=(2-E).toNat:=⟨_,rfl⟩;have eN:mx0 (spN E S)=((a:Nat):Int):=by unfold spN;rw[eT,Zw (by omega) (by omega),ZcE];omega
 have eN':mx0 (i64.wrap (0-spN E S))=((b:Nat):Int):=by unfold spN;rw[eT,Zw (n:=0-j) (by omega) (by omega),Zw (by omega) (by omega),ZcE];omega
 have eW:mx0 (spW E)=((k:Nat):Int):=by unfold spW;rw[Zw (by omega) (by omega),ZcE,hk]
 have eW':mx0 (i64.wrap (0-spW E))=((g:Nat):Int):=by unfold spW;rw[Zw (n:=E-2) (by omega) (by omega),Zw (by omega) (by omega),ZcE];omega
 obtain⟨P,hP⟩:∃ P,P=10^a:=⟨_,rfl⟩;obtain⟨P',hP'⟩:∃ P',P'=10^b:=⟨_,rfl⟩;obtain⟨O,hO⟩:∃ O,O=P*2^k:=⟨_,rfl⟩;obtain⟨U,hU⟩:∃ U,U=P'*2^g:=⟨_,rfl⟩;have eO:ovN E j=O:=by unfold ovN;rw[hO,hP,← ha,← hk,Nat.mul_comm]
 have eU:Za8 E j=U:=by unfold Za8;rw[hU,hP',← hb,← hg,Nat.mul_comm]
 have P0:P≠0:=by rw[hP];exact ZbK a
 have P0':P'≠0:=by rw[hP'];exact ZbK b
 have O0:O≠0:=by rw[hO];exact Zbe P0 (fun c=>by have:=Nat.pow_pos (n:=k) (show 0<2 by omega);omega)
 have U0:U≠0:=by rw[hU];exact Zbe P0' (fun c=>by have:=Nat.pow_pos (n:=g) (show 0<2 by omega);omega)
 have cP:ZsP E S=Na.pMi 10 ((a:Nat):Int):=by unfold ZsP;rw[eN]
 have cQ:ZsQ E S=Na.pMi 10 ((b:Nat):Int):=by unfold ZsQ;rw[eN']
 obtain⟨rP,lP⟩:=Zwc (H:=Z4P m c E S P P') (i:=4) (b:=10) (k:=a) (.inl rfl) (by omega) (by rw[← hP];unfold Z4P;rw[cP];rfl);obtain⟨rQ,lQ⟩:=Zwc (H:=Z4Q m c E S P P' O) (i:=5) (b:=10) (k:=b) (.inl rfl) (by omega) (by rw[← hP'];unfold Z4Q;rw[cQ];rfl);rw[← hP] at rP lP;rw[← hP'] at rQ lQ;have tP:t14 (Na.pMi 10 ((a:Nat):Int)) P=(Na.d32 P).length:=rP.2.2.2.1;have tQ:t14 (Na.pMi 10 ((b:Nat):Int)) P'=(Na.d32 P').length:=rQ.2.2.2.1;have cO:Zf0 E S P=k/32+((Na.d32 P).length+1):=by unfold Zf0;rw[cP,eW,tP,Zx5]
 have cU:Zgu E S P'=g/32+((Na.d32 P').length+1):=by unfold Zgu;rw[cQ,eW',tQ,Zx5]
 have hOl:O<4294967296^Zf0 E S P:=by
  have:=Zwd (k:=k) (Na.Zbf P);rw[Zx5,← hO] at this;rw[cO];exact this
 have hUl:U<4294967296^Zgu E S P':=by
  have:=Zwd (k:=g) (Na.Zbf P');rw[Zx5,← hU] at this;rw[cU];exact this
 have tO:t14 (Zf0 E S P) O≤300:=by
  have:=zm (dg (Zf0 E S P) (O:Int));rw[ZP] at this;unfold t14;omega
 have tU':t14 (Zgu E S P') U≤300:=by
  have:=zm (dg (Zgu E S P') (U:Int));rw[ZP] at this;unfold t14;omega
 have rO:∀ l a d,Na.IsR (Z0Q m c E S P P' O U l a d) (a14 6) (t14 (Zf0 E S P) O) (Zf0 E S P) O:=fun l a d=>Na.Zhd rfl hOl (by omega);have rU:∀ l a d,Na.IsR (Z0Q m c E S P P' O U l a d) (a14 7) (t14 (Zgu E S P') U) (Zgu E S P') U:=fun l a d=>Na.Zhd rfl hUl (by omega);have e4:sp4 S=((4*S:Nat):Int):=by unfold sp4;rw[ZcT (by omega) (by omega)];omega
 have eHi:Z4S S=((mdH S:Nat):Int):=by unfold Z4S mdH;rw[e4,ZcT (by omega) (by omega)];omega
 have okF14':Zny E S=true:=Xa (by omega);have key:∀ (i:Nat) (L':Int),Zu (lPo E S i)→Zwr (Nat.beq i 1) S=((mdL S E:Nat):Int)→Zu (Zbo m c E S P P' O U (Z5 E j (4*S)) (Z5 E j (mdL S E)) (Z5 E j (mdH S)) (sMo S E j) i (decide (S % 2=0)) (Zat E j (mdL S E)) (Zat E j (mdH S)) L'):=by
  intro i L' hi hlo;unfold Zbo;rw[e4,eHi,hlo];have pre:Zu (Z4R m c E S P P' O U (decide (S % 2=0)) (lPo E S i)):=by
   unfold Z4R;refine Za ?_ (Za rfl ?_)
   ·rw[Int.tmod_eq_emod_of_nonneg (by omega)];have:((((S:Nat):Int) % 2==0):Bool)=decide (((S:Nat):Int) % 2=0):=rfl;rw[this];exact decide_eq_decide.2 (by omega)
   ·rw[eW',eW,eN',eN,cP,cQ];have l1:=Zfo (b:=10) (k:=a) (.inl rfl) (by omega) (Za okF14' hi);have l2:=Zfo (b:=10) (k:=b) (.inl rfl) (by omega) l1;rw[← hP,← hP'] at l2;have l3:=Zfp rP P0 (k:=k) (by omega) l2;rw[← hO] at l3;have l4:=Zfp rQ P0' (k:=g) (by omega) l3;rw[← hU] at l4;exact l4
  have mk:∀ (x:Nat) (H:Hp) (l:Log),Na.IsR H (a14 6) (t14 (Zf0 E S P) O) (Zf0 E S P) O→Na.IsR H (a14 7) (t14 (Zgu E S P') U) (Zgu E S P') U→2*S≤x→x≤6*S→50000000000000000≤Z5 E j x∧Z5 E j x<15000000000000000000→Zu l→Zu (lTi E S P P' O U H (x:Nat) (Z5 E j x) (Zat E j x) l):=by
   intro x H l r1 r2 x1 x2 hb hl;refine Z0R r1 r2 tO tU' O0 U0 (by omega) ?_ (by omega) ?_ hl
   ·unfold Z5;rw[eO,eU]
   ·unfold Zat;rw[eO,eU]
  exact mk _ _ _ (rO _ _ _) (rU _ _ _) mH.1 mH.2 bH (mk _ _ _ (rO _ _ _) (rU _ _ _) mL.1 mL.2 bL (mk _ _ _ (rO _ _ _) (rU _ _ _) (by omega) (by omega) bA pre))
 have wL:u64.wrap (((Z5 E j (mdL S E):Nat):Int)+1)=((Z5 E j (mdL S E)+1:Nat):Int):=by rw[ZcT (by omega) (by omega)];omega
 have wH:u64.wrap (((Z5 E j (mdH S):Nat):Int)-1)=((Z5 E j (mdH S)-1:Nat):Int):=by rw[ZcT (by omega) (by omega)];omega
 have lo0:¬ (S=4503599627370496∧ -1074<E)→∀ i,Nat.beq i 1=false→Zwr (Nat.beq i 1) S=((mdL S E:Nat):Int):=by
  intro hn i hi;rw[hi];unfold Zwr mdL;rw[if_neg (by decide),if_neg hn,e4,ZcT (by omega) (by omega)];omega
 unfold sLo sHi sAt;by_cases h52:S=4503599627370496
 ·have hev:S % 2=0:=by omega
  have hp:decide (S % 2=0)=true:=Xa hev;by_cases hEl: -1074<E
  ·have hi:Zu (lPo E S 1):=Za (Xa (by omega)) (ZB (zy (by omega)));have hlo:Zwr (Nat.beq 1 1) S=((mdL S E:Nat):Int):=by
    show Zwr true S=_;unfold Zwr mdL;rw[if_pos rfl,if_pos ⟨h52,hEl⟩,e4,ZcT (by omega) (by omega)];omega
   cases hd1:Zat E j (mdL S E) with
   | true=>
    cases hd2:Zat E j (mdH S) with
    | true=>
     have f:=Zn7 m c E S P P' O U (Z5 E j (4*S)) (Z5 E j (mdL S E)) (Z5 E j (mdH S)) (sMo S E j);have lg:=key 1 (u64.wrap (((Z5 E j (mdL S E):Nat):Int)+1)) hi hlo;rw[hd1,hd2,hp] at lg;rw[wL,eT] at f;rw[wL] at lg;rw[if_pos (.inl rfl),if_neg (fun h=>by cases h.1)];exact Zf ZbI f lg (by rfl) (by rfl) w
    | false=>
     have f:=Zn8 m c E S P P' O U (Z5 E j (4*S)) (Z5 E j (mdL S E)) (Z5 E j (mdH S)) (sMo S E j);have lg:=key 1 (u64.wrap (((Z5 E j (mdL S E):Nat):Int)+1)) hi hlo;rw[hd1,hd2,hp] at lg;rw[wL,eT] at f;rw[wL] at lg;rw[if_pos (.inl rfl),if_neg (fun h=>by omega)];exact Zf ZbI f lg (by rfl) (by rfl) w
   | false=>
    cases hd2:Zat E j (mdH S) with
    | true=>
     have f:=Zn9 m c E S P P' O U (Z5 E j (4*S)) (Z5 E j (mdL S E)) (Z5 E j (mdH S)) (sMo S E j);have lg:=key 1 (((Z5 E j (mdL S E):Nat):Int)) hi hlo;rw[hd1,hd2,hp] at lg;rw[eT] at f;rw[if_neg (fun h=>h.elim (fun h=>by cases h) (fun h=>by omega)),if_neg (fun h=>by cases h.1)];exact Zf ZbI f lg (by rfl) (by rfl) w
    | false=>
     have f:=ZnA m c E S P P' O U (Z5 E j (4*S)) (Z5 E j (mdL S E)) (Z5 E j (mdH S)) (sMo S E j);have lg:=key 1 (((Z5 E j (mdL S E):Nat):Int)) hi hlo;rw[hd1,hd2,hp] at lg;rw[eT] at f;rw[if_neg (fun h=>h.elim (fun h=>by cases h) (fun h=>by omega)),if_neg (fun h=>by omega)];exact Zf ZbI f lg (by rfl) (by rfl) w
  ·have hi:Zu (lPo E S 2):=Za (Xb (by omega)) (ZB (zy (by omega)));have hlo:=lo0 (fun h=>hEl h.2) 2 rfl;cases hd1:Zat E j (mdL S E) with
   | true=>
    cases hd2:Zat E j (mdH S) with
    | true=>
     have f:=ZnB m c E S P P' O U (Z5 E j (4*S)) (Z5 E j (mdL S E)) (Z5 E j (mdH S)) (sMo S E j);have lg:=key 2 (u64.wrap (((Z5 E j (mdL S E):Nat):Int)+1)) hi hlo;rw[hd1,hd2,hp] at lg;rw[wL,eT] at f;rw[wL] at lg;rw[if_pos (.inl rfl),if_neg (fun h=>by cases h.1)];exact Zf ZbI f lg (by rfl) (by rfl) w
    | false=>
     have f:=ZnC m c E S P P' O U (Z5 E j (4*S)) (Z5 E j (mdL S E)) (Z5 E j (mdH S)) (sMo S E j);have lg:=key 2 (u64.wrap (((Z5 E j (mdL S E):Nat):Int)+1)) hi hlo;rw[hd1,hd2,hp] at lg;rw[wL,eT] at f;rw[wL] at lg;rw[if_pos (.inl rfl),if_neg (fun h=>by omega)];exact Zf ZbI f lg (by rfl) (by rfl) w
   | false=>
    cases hd2:Zat E j (mdH S) with
    | true=>
     have f:=ZnD m c E S P P' O U (Z5 E j (4*S)) (Z5 E j (mdL S E)) (Z5 E j (mdH S)) (sMo S E j);have lg:=key 2 (((Z5 E j (mdL S E):Nat):Int)) hi hlo;rw[hd1,hd2,hp] at lg;rw[eT] at f;rw[if_neg (fun h=>h.elim (fun h=>by cases h) (fun h=>by omega)),if_neg (fun h=>by cases h.1)];exact Zf ZbI f lg (by rfl) (by rfl) w
    | false=>
     have f:=ZnE m c E S P P' O U (Z5 E j (4*S)) (Z5 E j (mdL S E)) (Z5 E j (mdH S)) (sMo S E j);have lg:=key 2 (((Z5 E j (mdL S E):Nat):Int)) hi hlo;rw[hd1,hd2,hp] at lg;rw[eT] at f;rw[if_neg (fun h=>h.elim (fun h=>by cases h) (fun h=>by omega)),if_neg (fun h=>by omega)];exact Zf ZbI f lg (by rfl) (by rfl) w
 ·have hi:Zu (lPo E S 0):=ZB (ze (by omega));have hlo:=lo0 (fun h=>h52 h.1) 0 rfl;by_cases hev:S % 2=0
  ·have hp:decide (S % 2=0)=true:=Xa hev;cases hd1:Zat E j (mdL S E) with
   | true=>
    cases hd2:Zat E j (mdH S) with
    | true=>
     have f:=Znz m c E S P P' O U (Z5 E j (4*S)) (Z5 E j (mdL S E)) (Z5 E j (mdH S)) (sMo S E j);have lg:=key 0 (u64.wrap (((Z5 E j (mdL S E):Nat):Int)+1)) hi hlo;rw[hd1,hd2,hp] at lg;rw[wL,eT] at f;rw[wL] at lg;rw[if_pos (.inl rfl),if_neg (fun h=>by cases h.1)];exact Zf ZbI f lg (by rfl) (by rfl) w
    | false=>
     have f:=Zn0 m c E S P P' O U (Z5 E j (4*S)) (Z5 E j (mdL S E)) (Z5 E j (mdH S)) (sMo S E j);have lg:=key 0 (u64.wrap (((Z5 E j (mdL S E):Nat):Int)+1)) hi hlo;rw[hd1,hd2,hp] at lg;rw[wL,eT] at f;rw[wL] at lg;rw[if_pos (.inl rfl),if_neg (fun h=>by omega)];exact Zf ZbI f lg (by rfl) (by rfl) w
   | false=>
    cases hd2:Zat E j (mdH S) with
    | true=>
     have f:=Zn1 m c E S P P' O U (Z5 E j (4*S)) (Z5 E j (mdL S E)) (Z5 E j (mdH S)) (sMo S E j);have lg:=key 0 (((Z5 E j (mdL S E):Nat):Int)) hi hlo;rw[hd1,hd2,hp] at lg;rw[eT] at f;rw[if_neg (fun h=>h.elim (fun h=>by cases h) (fun h=>by omega)),if_neg (fun h=>by cases h.1)];exact Zf ZbI f lg (by rfl) (by rfl) w
    | false=>
     have f:=Zn2 m c E S P P' O U (Z5 E j (4*S)) (Z5 E j (mdL S E)) (Z5 E j (mdH S)) (sMo S E j);have lg:=key 0 (((Z5 E j (mdL S E):Nat):Int)) hi hlo;rw[hd1,hd2,hp] at lg;rw[eT] at f;rw[if_neg (fun h=>h.elim (fun h=>by cases h) (fun h=>by omega)),if_neg (fun h=>by omega)];exact Zf ZbI f lg (by rfl) (by rfl) w
  ·have hp:decide (S % 2=0)=false:=Xb hev;have hodd:S % 2=1:=by omega
   cases hd1:Zat E j (mdL S E) with
   | true=>
    cases hd2:Zat E j (mdH S) with
    | true=>
     have f:=Zn3 m c E S P P' O U (Z5 E j (4*S)) (Z5 E j (mdL S E)) (Z5 E j (mdH S)) (sMo S E j);have lg:=key 0 (u64.wrap (((Z5 E j (mdL S E):Nat):Int)+1)) hi hlo;rw[hd1,hd2,hp] at lg;rw[wL,eT] at f;rw[wL] at lg;rw[if_pos (.inl rfl),if_neg (fun h=>by cases h.1)];exact Zf ZbI f lg (by rfl) (by rfl) w
    | false=>
     have f:=Zn4 m c E S P P' O U (Z5 E j (4*S)) (Z5 E j (mdL S E)) (Z5 E j (mdH S)) (sMo S E j);have lg:=key 0 (u64.wrap (((Z5 E j (mdL S E):Nat):Int)+1)) hi hlo;rw[hd1,hd2,hp] at lg;rw[wL,wH,eT] at f;rw[wL] at lg;rw[if_pos (.inl rfl),if_pos ⟨rfl,hodd⟩];exact Zf ZbI f lg (by rfl) (by rfl) w
   | false=>
    cases hd2:Zat E j (mdH S) with
    | true=>
     have f:=Zn5 m c E S P P' O U (Z5 E j (4*S)) (Z5 E j (mdL S E)) (Z5 E j (mdH S)) (sMo S E j);have lg:=key 0 (u64.wrap (((Z5 E j (mdL S E):Nat):Int)+1)) hi hlo;rw[hd1,hd2,hp] at lg;rw[wL,eT] at f;rw[wL] at lg;rw[if_pos (.inr hodd),if_neg (fun h=>by cases h.1)];exact Zf ZbI f lg (by rfl) (by rfl) w
    | false=>
     have f:=Zn6 m c E S P P' O U (Z5 E j (4*S)) (Z5 E j (mdL S E)) (Z5 E j (mdH S)) (sMo S E j);have lg:=key 0 (u64.wrap (((Z5 E j (mdL S E):Nat):Int)+1)) hi hlo;rw[hd1,hd2,hp] at lg;rw[wL,wH,eT] at f;rw[wL] at lg;rw[if_pos (.inr hodd),if_pos ⟨rfl,hodd⟩];exact Zf ZbI f lg (by rfl) (by rfl) w
def Z4T:Ans:=fun vals s=>
 match vals with
 | [v]=>
  match vP4 v with
  | some (_,_,E,q)=>some (vSp (sLo q.toNat E (lgS q.toNat E-17)) (sHi q.toNat E (lgS q.toNat E-17)) (sAt q.toNat E (lgS q.toNat E-17)) (sMo q.toNat E (lgS q.toNat E-17)) (lgS q.toNat E-17),s,[(Zny E q,true)])
  | none=>none
 | _=>none
theorem Zwt:z8 60 Z4T:=by
 intro vals s v s' lg h hl w;unfold Z4T at h;split at h
 ·split at h
  ·rename_i o m c E q hv;rw[Zcs hv];cases h;obtain⟨h1,h2,h3,h4⟩:=Xc (hl _ Xf);obtain⟨k,rfl⟩:∃ k:Nat,q=k:=⟨q.toNat,by omega⟩;exact Zrm m c E k (by omega) (by omega) h3 h4 w
  ·cases h
 ·cases h
end Go.Proofs.YtgefjidphfdhdaaGreatDoor
namespace Go.Proofs.YtgefjidphfdhdaaGreatDoor
open Go.Proofs.Tryz
open Go.KRun Go.Rd Go.RowKit Go.Sort Go.Lib Go.Shelf
set_option maxRecDepth 100000
theorem Zhx (w:World) (T:TypeId) (nd:Nat) (hs:nd≤24):Holds (fun (b:UInt8)=>Value.int .u8 (b.toNat:Int)) (w.alloc (.cells zeros24 T)) w.heap.size 0 (Array.replicate nd (0:UInt8)):=fun j hj=>by
 have hj':j<nd:=by simpa using hj
 refine⟨?_,World.frozen?_alloc_new _ _ _ _⟩;rw[World.cell?_alloc_new,zeros24_at _ (by omega),getElem!_pos _ j hj];simp
theorem Zrn (w:World) (o:Obj) (dk:Array UInt8) (k:Nat):∃ os,(putRow (fun (b:UInt8)=>Value.int .u8 (b.toNat:Int)) (w.alloc o) w.heap.size 0 dk).drewN k=grow (w.drewN k) os:=by
 rw[alloc_eq_grow];obtain⟨os',_,e⟩:=putRow_grow_new (fun (b:UInt8)=>Value.int .u8 (b.toNat:Int)) w #[o] w.heap.size 0 dk (Nat.le_refl _);exact⟨os',by rw[e];rfl⟩
set_option maxHeartbeats 6400000 in
theorem ZnF (u:Nat) (h100:100≤u) (hu64:u<18446744073709551616) (w:World) (hk:knT w):Calls prog 162 #[.int .u64 u,.int .i64 10] w fun e w'=>e= .returned (.string ⟨(Lib.decDigits u).toArray⟩)∧∃ k os,w'=grow (w.drewN k) os:=by
 have hu1:1≤u:=by omega
 have hnd20:Lib.nDigits u≤20:=by have:=Lib.numDigits_eq u hu1 hu64;split at this<;>omega
 have hal:prog.arrayLen 239=24:=by kernel_rfl
 have hsl1:∀ W,(Instr.sliceAt 239 (.pointer (some ⟨w.heap.size,0,none⟩)) none (some (.int .i64 (Lib.nDigits u:Int))) none).run prog W= .ok (.slice (some ⟨w.heap.size,0,none⟩) (Lib.nDigits u) 24) W:=fun W=>by
  rw[run_sliceAt_array_h W 239 ⟨w.heap.size,0,none⟩ (by kernel_rfl) .i64 (Lib.nDigits u:Int) (by omega) (by rw[hal];omega)];rw[hal];rfl
 have hH0:=Zhx w 239 (Lib.nDigits u) (by omega);have hfmt:Calls prog 180 #[.slice (some ⟨w.heap.size,0,none⟩) (Array.replicate (Lib.nDigits u) (0:UInt8)).size 24,.int .u64 u] (w.alloc (.cells Lib.zeros24 239)) fun e w'=>e= .returned (.tuple #[])∧∃ (n v':Nat) (dk:Array UInt8),w'=(putRow (fun (b:UInt8)=>Value.int .u8 (b.toNat:Int)) (w.alloc (.cells Lib.zeros24 239)) w.heap.size 0 dk).drewN n∧FmtInv (Array.replicate (Lib.nDigits u) (0:UInt8)).size u 0 v' dk:=Any.internal_strconv_formatBase10 {Zfb with} w.heap.size 0 24 u (Array.replicate (Lib.nDigits u) 0) _ hH0 (by rw[Array.size_replicate];exact Lib.lt_pow_nDigits u) hu64 (by rw[Array.size_replicate];omega);rw[Array.size_replicate] at hfmt;have htab:knT (w.alloc (.cells Lib.zeros24 239)):=by
  obtain⟨t,z,h⟩:=hk;refine⟨t,z,?_⟩;rw[ZY _ _ _ (Nat.ne_of_lt (Array.getElem?_eq_some_iff.1 h).1),h]
 have hnum:Calls prog 179 #[.int .u64 u] (w.alloc (.cells Lib.zeros24 239)) fun e w'=>e= .returned (.int .i64 (Lib.nDigits u:Nat))∧w'=w.alloc (.cells Lib.zeros24 239):=Any.internal_strconv_numDigits {Zfb with} u hu1 hu64 _ (ZiA htab (by kernel_rfl));have HH0:=Lib.hid hH0;have hlt:¬ (u:Int)<100:=by omega
 clear hH0 hal
 go_enter func162,ntmps162
 go_wp2_with (go_at_call 179;refine hnum.mono ?_;rintro e w' ⟨rfl,rfl⟩)
 go_at_call 180
 refine hfmt.mono ?_;rintro e w' ⟨rfl,k,v',dk,rfl,hF⟩;have hcv:(convert 142 9 (.slice (some ⟨w.heap.size,0,none⟩) (Lib.nDigits u) 24)).run prog ((putRow (fun (b:UInt8)=>Value.int .u8 (b.toNat:Int)) (w.alloc (.cells Lib.zeros24 239)) w.heap.size 0 dk).drewN k)= .ok (.string ⟨(Lib.decDigits u).toArray⟩) ((putRow (fun (b:UInt8)=>Value.int .u8 (b.toNat:Int)) (w.alloc (.cells Lib.zeros24 239)) w.heap.size 0 dk).drewN k):=by
  have h:=run_convert_bytes_back (P:=prog) ((putRow (fun (b:UInt8)=>Value.int .u8 (b.toNat:Int)) (w.alloc (.cells Lib.zeros24 239)) w.heap.size 0 dk).drewN k) 142 9 5 ⟨w.heap.size,0,none⟩ 24 (Lib.decDigits u) underlying142 underlying5 underlying9 (fun j hj=>by
   rw[Lib.row_is_numeral hF j hj,Lib.add_plain,World.cell?_drewN];exact cell?_putRow (fun (b:UInt8)=>Value.int .u8 (b.toNat:Int)) _ w.heap.size 0 _ dk HH0.out (by rw[hF.size,Array.size_replicate]) j (by rw[hF.size];rw[Lib.decDigits_length] at hj;exact hj))
  rw[Lib.decDigits_length] at h;exact h
 go_wp2
 go_ret
 obtain⟨os,eo⟩:=Zrn w (.cells Lib.zeros24 239) dk k;exact⟨rfl,k,os,eo⟩
set_option maxHeartbeats 6400000 in
theorem Zro (u:Nat) (h100:100≤u) (hu64:u<18446744073709551616) (w:World) (hk:knT w):Calls prog 118 #[.int .u64 u,.int .i64 10] w fun e w'=>e= .returned (bR (dcL u))∧zH w w':=by
 have h:=ZnF u h100 hu64 w hk;rw[Zhp hu64] at h
 go_enter func118,ntmps118
 go_wp2_with (go_at_call 162;refine h.mono ?_;rintro e w' ⟨rfl,k,os,rfl⟩)
 go_ret
 exact⟨rfl,ZcD (ZcS w k os)⟩
def Z4U:Ans:=fun vals s=>
 match vals with
 | [.int .u64 n,.int .i64 b]=>some (bR (dcL n.toNat),s,[(decide (100≤n∧n<18446744073709551616∧b=10),true)])
 | _=>none
theorem Zwu:ZbM 118 Z4U:=by
 intro vals s v s' lg h hl w hk;unfold Z4U at h;split at h
 ·cases h;obtain⟨h1,h2,h3⟩:=Xc (hl _ Xf);rename_i n b;obtain⟨u,rfl⟩:∃ u:Nat,n=u:=⟨n.toNat,by omega⟩;subst h3;exact Zro u (by omega) (by omega) w hk
 ·cases h
end Go.Proofs.YtgefjidphfdhdaaGreatDoor
namespace Go.Proofs.YtgefjidphfdhdaaGreatDoor
open Go.Proofs.Tryz
open Go.IntKind
open Go.KRun Go.Nt Go.Rd Go.Wd Go.Pt
set_option maxRecDepth 100000
set_option linter.unusedVariables false
def Z0S:Value→Option (Int×Int×Int×Bool×Int)
 | .agg cs=>
  match cs.toList with
  | [.int .u64 l,.int .u64 h,.int .u64 a,.bool d,.int .i64 t]=>some (l,h,a,d,t)
  | _=>none
 | _=>none
theorem Zgv {v:Value}{l h a:Int}{d:Bool}{t:Int}(hv:Z0S v=some (l,h,a,d,t)):v=vSp l h a d t:=by
 unfold Z0S at hv;split at hv
 ·rename_i cs;split at hv
  ·rename_i hc;cases hv;obtain⟨l⟩:=cs;simp only at hc;subst hc;rfl
  ·cases hv
 ·cases hv
theorem Z0T (l h a t u q:Int) (d:Bool):ZH (Zr (Zo prog Zg Zn true) 200 61 [vSp l h a d t,.int .u64 u] [num q,cmp false,cmp true]) (.tuple #[.int .u64 (u64.wrap (u64.wrap (q+1)*u)),.int .u64 (u64.wrap (q*u))]) [(decide (a.tmod u>u64.wrap (u.tdiv 2)),true),(decide (u=0),false),(decide (u=0),false),(decide (u64.wrap (a.tdiv u)=q),true)]:=by and_intros<;>kernel_rfl
theorem Z0U (l h a t u q:Int):ZH (Zr (Zo prog Zg Zn true) 200 61 [vSp l h a true t,.int .u64 u] [num q,cmp false,cmp false,cmp true]) (.tuple #[.int .u64 (u64.wrap (u64.wrap (q+1)*u)),.int .u64 (u64.wrap (q*u))]) [(a.tmod u==u64.wrap (u.tdiv 2),true),(decide (a.tmod u>u64.wrap (u.tdiv 2)),false),(decide (u=0),false),(decide (u=0),false),(decide (u64.wrap (a.tdiv u)=q),true)]:=by and_intros<;>kernel_rfl
theorem Z0V (l h a t u q:Int):ZH (Zr (Zo prog Zg Zn true) 200 61 [vSp l h a false t,.int .u64 u] [num q,cmp false,cmp false,cmp true,cmp false,cmp true]) (.tuple #[.int .u64 (u64.wrap (u64.wrap (q+1)*u)),.int .u64 (u64.wrap (q*u))]) [(q.tmod 2==1,true),(decide ((2:Int)=0),false),(a.tmod u==u64.wrap (u.tdiv 2),true),(decide (a.tmod u>u64.wrap (u.tdiv 2)),false),(decide (u=0),false),(decide (u=0),false),(decide (u64.wrap (a.tdiv u)=q),true)]:=by and_intros<;>kernel_rfl
theorem Z0W (l h a t u q:Int):ZH (Zr (Zo prog Zg Zn true) 200 61 [vSp l h a false t,.int .u64 u] [num q,cmp false,cmp false,cmp true,cmp false,cmp false]) (.tuple #[.int .u64 (u64.wrap (q*u)),.int .u64 (u64.wrap (u64.wrap (q+1)*u))]) [(q.tmod 2==1,false),(decide ((2:Int)=0),false),(a.tmod u==u64.wrap (u.tdiv 2),true),(decide (a.tmod u>u64.wrap (u.tdiv 2)),false),(decide (u=0),false),(decide (u=0),false),(decide (u64.wrap (a.tdiv u)=q),true)]:=by and_intros<;>kernel_rfl
theorem Z0X (l h a t u q:Int) (d:Bool):ZH (Zr (Zo prog Zg Zn true) 200 61 [vSp l h a d t,.int .u64 u] [num q,cmp false,cmp false,cmp false]) (.tuple #[.int .u64 (u64.wrap (q*u)),.int .u64 (u64.wrap (u64.wrap (q+1)*u))]) [(a.tmod u==u64.wrap (u.tdiv 2),false),(decide (a.tmod u>u64.wrap (u.tdiv 2)),false),(decide (u=0),false),(decide (u=0),false),(decide (u64.wrap (a.tdiv u)=q),true)]:=by and_intros<;>kernel_rfl
def Zx6 (a u:Nat):Bool:=decide (2≤u∧(a/u+1)*u<18446744073709551616)
def arV (d:Bool) (a u:Nat):Value:=if d=true then .tuple #[.int .u64 (((a/u+1)*u:Nat):Int),.int .u64 ((a/u*u:Nat):Int)] else .tuple #[.int .u64 ((a/u*u:Nat):Int),.int .u64 (((a/u+1)*u:Nat):Int)]
theorem Zrp (l h t:Int) (d:Bool) (a u:Nat) (hk:Zx6 a u=true) (w:World):Calls prog 61 #[vSp l h a d t,.int .u64 u] w fun e w'=>e= .returned (arV (nrU a d u) a u)∧zH w w':=by
 have hT:=Zl Ze;obtain⟨h1,h2⟩:=Xc hk;have hdm:=Nat.div_add_mod a u;have hm:=Nat.mod_lt a (show 0<u by omega);have e1:((a:Nat):Int).tdiv ((u:Nat):Int)=((a/u:Nat):Int):=by rw[Int.tdiv_eq_ediv_of_nonneg (by omega)];exact (Int.natCast_ediv a u).symm
 have e2:((a:Nat):Int).tmod ((u:Nat):Int)=((a % u:Nat):Int):=by rw[Int.tmod_eq_emod_of_nonneg (by omega)];exact (Int.natCast_emod a u).symm
 obtain⟨q,hq⟩:∃ q,q=a/u:=⟨_,rfl⟩;have hqu:(q+1)*u=q*u+u:=by rw[Nat.add_mul,Nat.one_mul]
 rw[← hq] at h2 hdm e1;rw[Nat.mul_comm] at hdm;have q2:q≤q*u:=Nat.le_mul_of_pos_right _ (by omega);have e3:u64.wrap (((u:Nat):Int).tdiv 2)=((u/2:Nat):Int):=by rw[Int.tdiv_eq_ediv_of_nonneg (by omega),ZcT (by omega) (by omega)];omega
 have w1:u64.wrap ((q:Nat):Int)=((q:Nat):Int):=ZcT (by omega) (by omega);have w2:u64.wrap (((q:Nat):Int)*((u:Nat):Int))=((q*u:Nat):Int):=by rw[← Int.natCast_mul,ZcT (by omega) (by omega)]
 have w3:u64.wrap (u64.wrap (((q:Nat):Int)+1)*((u:Nat):Int))=(((q+1)*u:Nat):Int):=by
  rw[ZcT (z:=((q:Nat):Int)+1) (by omega) (by omega),show ((q:Nat):Int)+1=((q+1:Nat):Int) by omega,← Int.natCast_mul,ZcT (by omega) (by omega)]
 have eo:(((q:Nat):Int).tmod 2==1)=decide (q % 2=1):=by
  rw[Int.tmod_eq_emod_of_nonneg (by omega)];have:((((q:Nat):Int) % 2==1):Bool)=decide (((q:Nat):Int) % 2=1):=rfl;rw[this];exact decide_eq_decide.2 (by omega)
 have kb:Zu [(decide (((u:Nat):Int)=0),false),(decide (((u:Nat):Int)=0),false),(decide (u64.wrap (((a:Nat):Int).tdiv ((u:Nat):Int))=((q:Nat):Int)),true)]:=Za (Xb (by omega)) (Za (Xb (by omega)) (ZB (Xa (by rw[e1,w1]))));unfold arV nrU;rw[← hq];have kgt:∀ b,decide (u/2<a % u)=b→decide (((a:Nat):Int).tmod ((u:Nat):Int)>u64.wrap (((u:Nat):Int).tdiv 2))=b:=fun b hb=>by rw[← hb,e2,e3];exact decide_eq_decide.2 (by omega)
 have keq:∀ b,decide (a % u=u/2)=b→(((a:Nat):Int).tmod ((u:Nat):Int)==u64.wrap (((u:Nat):Int).tdiv 2))=b:=fun b hb=>by
  rw[← hb,e2,e3];have:((((a % u:Nat):Int)==((u/2:Nat):Int)):Bool)=decide (((a % u:Nat):Int)=((u/2:Nat):Int)):=rfl;rw[this];exact decide_eq_decide.2 (by omega)
 by_cases c1:u/2<a % u
 ·rw[Xa c1,Bool.true_or,if_pos rfl];have f:=Z0T l h a t u q d;rw[w2,w3] at f;exact Zf hT f (Za (kgt true (Xa c1)) kb) (by rfl) (by rfl) w
 have kb:=Za (kgt false (Xb c1)) kb;rw[Xb c1,Bool.false_or];by_cases c2:a % u=u/2
 ·have kb:=Za (keq true (Xa c2)) kb;rw[Xa c2,Bool.true_and];cases d with
  | true=>
   rw[Bool.true_or,if_pos rfl];have f:=Z0U l h a t u q;rw[w2,w3] at f;exact Zf hT f kb (by rfl) (by rfl) w
  | false=>
   rw[Bool.false_or];by_cases c3:q % 2=1
   ·rw[Xa c3,if_pos rfl];have f:=Z0V l h a t u q;rw[w2,w3] at f;exact Zf hT f (Za (by rw[eo];exact Xa c3) (Za (show decide ((2:Int)=0)=false from rfl) kb)) (by rfl) (by rfl) w
   ·rw[Xb c3,if_neg (by decide)];have f:=Z0W l h a t u q;rw[w2,w3] at f;exact Zf hT f (Za (by rw[eo];exact Xb c3) (Za (show decide ((2:Int)=0)=false from rfl) kb)) (by rfl) (by rfl) w
 ·rw[Xb c2,Bool.false_and,if_neg (by decide)];have f:=Z0X l h a t u q d;rw[w2,w3] at f;exact Zf hT f (Za (keq false (Xb c2)) kb) (by rfl) (by rfl) w
def Z4V:Ans:=fun vals s=>
 match vals,s with
 | [v,.int .u64 u],.inr (.inr (.inr (.inl true)))::s'=>
  match Z0S v with
  | some (_,_,a,d,_)=>some (arV true a.toNat u.toNat,s',[(nrU a.toNat d u.toNat,true),(Zx6 a.toNat u.toNat,true),(decide (0≤a∧0≤u),true)])
  | none=>none
 | [v,.int .u64 u],.inr (.inr (.inr (.inl false)))::s'=>
  match Z0S v with
  | some (_,_,a,d,_)=>some (arV false a.toNat u.toNat,s',[(nrU a.toNat d u.toNat,false),(Zx6 a.toNat u.toNat,true),(decide (0≤a∧0≤u),true)])
  | none=>none
 | _,_=>none
theorem Zwv:z8 61 Z4V:=by
 intro vals s v s' lg h hl w;unfold Z4V at h;split at h
 all_goals
  try
   split at h
   ·rename_i u s2 o l hh a d t hv;rw[Zgv hv];cases h;have l1:=hl _ Xe;have l2:Zx6 a.toNat u.toNat=true:=hl _ (Xd _ Xe);obtain⟨l3,l4⟩:=Xc (hl _ (Xd _ (Xd _ Xf)));obtain⟨A,rfl⟩:∃ A:Nat,a=A:=⟨a.toNat,by omega⟩;obtain⟨K,rfl⟩:∃ K:Nat,u=K:=⟨u.toNat,by omega⟩;have:=Zrp l hh t d A K l2 w;have l1:nrU A d K=_:=l1;rw[l1] at this;exact this
   ·cases h
 cases h
theorem Z0Y (l h a t n:Int) (d d':Bool):ZH (Zr (Zo prog Zg Zn true) 200 62 [vSp l h a d t,.int .u64 n] [cmp true,cmp d']) (.bool d') [(decide (n≤h),d'),(decide (l≤n),true)]:=by and_intros<;>kernel_rfl
theorem Z0Z (l h a t n:Int) (d:Bool):ZH (Zr (Zo prog Zg Zn true) 200 62 [vSp l h a d t,.int .u64 n] [cmp false]) (.bool false) [(decide (l≤n),false)]:=by and_intros<;>kernel_rfl
def Z4W:Ans:=fun vals s=>
 match vals,s with
 | [v,.int .u64 n],.inr (.inr (.inr (.inl b)))::s'=>
  match Z0S v with
  | some (l,h,_,_,_)=>some (.bool b,s',[(decide (l≤n) && decide (n≤h),b)])
  | none=>none
 | _,_=>none
theorem Zww:z8 62 Z4W:=by
 intro vals s v s' lg h hl w;unfold Z4W at h;split at h
 ·split at h
  ·rename_i n b s2 o l hh a d t hv;rw[Zgv hv];cases h;have l1:(decide (l≤n) && decide (n≤hh))=b:=hl _ Xf;rw[← l1];by_cases c:l≤n
   ·rw[Xa c,Bool.true_and];exact Zf (Zl Ze) (Z0Y l hh a t n d _) (Za rfl (ZB (Xa c))) (by rfl) (by rfl) w
   ·rw[Xb c,Bool.false_and];exact Zf (Zl Ze) (Z0Z l hh a t n d) (ZB (Xb c)) (by rfl) (by rfl) w
  ·cases h
 ·cases h
def ZsS:Hc:=zx 118 (gT Z4U) hcN
theorem ZnG:HcOk ZsS:=Zt func118 rfl (Zfm Zwu) zw
def ZnH:Con:=alt 42 Z0y Zn
theorem ZjI:ConOk ZnH:=ZF func42 rfl Zhq Ze
theorem Z6F (n t:Int):ZH (ZK (Zm prog Zg ZnH ZsS) hT0 200 63 [.int .u64 n,.int .i64 t] []) (vDc (trC 48 (dcL n.toNat)) (i64.wrap (i64.wrap (t+(((dcL n.toNat).length:Nat):Int))-1))) [(true,true),(decide ((dcL n.toNat).length≤100000),true),(decide (100≤n∧n<18446744073709551616∧(10:Int)=10),true)]:=by and_intros<;>kernel_rfl
def Z4X:Ans:=fun vals s=>
 match vals with
 | [.int .u64 n,.int .i64 t]=>some (vDc (trR (dcL n.toNat)) (t+(((dcL n.toNat).length:Nat):Int)-1),s,[(decide (100≤n∧n<18446744073709551616∧ -100000≤t∧t≤100000),true)])
 | _=>none
theorem Zgw (n:Nat):(dcL n).length≤20:=Zi3 20 n
theorem Zwx:ZbM 63 Z4X:=by
 intro vals s v s' lg h hl w hk;unfold Z4X at h;split at h
 ·rename_i n t;cases h;obtain⟨h1,h2,h3,h4⟩:=Xc (hl _ Xf);have f:=Z6F n t;have hlen:=Zgw n.toNat;rw[Zw (n:=t+(((dcL n.toNat).length:Nat):Int)) (by omega) (by omega),Zw (by omega) (by omega)] at f;exact ZbZ (Zp ZjI ZnG) f (Za rfl (Za (Xa (by omega)) (ZB (Xa ⟨h1,h2,rfl⟩)))) (by rfl) (by rfl) hk
 ·cases h
def Zb5:Con:=alt 60 Z4T (alt 61 Z4V (alt 62 Z4W Zn))
theorem Zrq:ConOk Zb5:=ZF func60 rfl Zwt (ZF func61 rfl Zwv (ZF func62 rfl Zww Ze))
def Zgx:Hc:=zx 63 (gT Z4X) hcN
theorem Zwy:HcOk Zgx:=Zt func63 rfl (Zfm Zwx) zw
theorem ZdO:TabOk (Zm prog Zg Zb5 Zgx):=Zp Zrq Zwy
def Z2x (F:Func):Code:=cIn (cIn (sP F 3))
def Zx7 (F:Func):Code:=cIn (cIn (sP F 5))
theorem Zwz:f24.body=some (zo [sP f24 0,sP f24 1,sP f24 2] (.seq (.block 0 (.loop (Z2x f24))) (.seq (sP f24 4) (.seq (.block 2 (.loop (Zx7 f24))) (sK f24 6))))):=by kernel_rfl
def zDc:List Value×TypeId:=([bR [],.int .i64 0],49)
def srM (m:Bool) (c e q l h a:Int) (d:Bool) (t:Int):Hp:=⟨4,[bSp l h a d t,zDc,bPa m c e q,(pwV,pwT)]⟩
def srF (m:Bool) (c e q u:Int):List Value:=[vP m c e q,pO 1,pO 2,pO 3,.int .u64 u]
def srG (m:Bool) (c e q u n f:Int):List Value:=[vP m c e q,pO 1,pO 2,pO 3,.int .u64 u,.int .u64 n,.int .u64 f]
theorem Z1a (m:Bool) (c e q:Int):Zh (evL (Zm prog Zg Zb5 Zgx) 200 [sP f24 0,sP f24 1,sP f24 2] ([vP m c e q]++List.replicate 48 undef,hT0,[]) ⟨[],[],[]⟩) 5 44 none (srF m c e q 1) (srM m c e q (sLo q.toNat e (lgS q.toNat e-17)) (sHi q.toNat e (lgS q.toNat e-17)) (sAt q.toNat e (lgS q.toNat e-17)) (sMo q.toNat e (lgS q.toNat e-17)) (lgS q.toNat e-17)) [(Zny e q,true)]:=by and_intros<;>kernel_rfl
theorem Z4Y (m:Bool) (c e q l h a t u:Int) (d:Bool) (g:Nat→Value):Zh (evC (Zm prog Zg Zb5 Zgx) 200 false (Z2x f24) (srF m c e q u++tl 44 g,(srM m c e q l h a d t),[cmp true]) ⟨[],[],[]⟩) 5 44 none (srF m c e q (u64.wrap (u*10))) (srM m c e q l h a d t) [(decide (u≤u64.wrap (a.tdiv 10)),true)]:=by and_intros<;>kernel_rfl
theorem Z4Z (m:Bool) (c e q l h a t u:Int) (d:Bool) (g:Nat→Value):Zh (evC (Zm prog Zg Zb5 Zgx) 200 false (Z2x f24) (srF m c e q u++tl 44 g,(srM m c e q l h a d t),[cmp false]) ⟨[],[],[]⟩) 5 44 (some (some 0)) (srF m c e q u) (srM m c e q l h a d t) [(decide (u≤u64.wrap (a.tdiv 10)),false)]:=by and_intros<;>kernel_rfl
def arN (d:Bool) (a u:Nat):Nat:=if d=true then (a/u+1)*u else a/u*u
def arX (d:Bool) (a u:Nat):Nat:=if d=true then a/u*u else (a/u+1)*u
def lAr (a u:Int) (d b:Bool) (l:Log):Log:=(nrU a.toNat d u.toNat,b)::(Zx6 a.toNat u.toNat,true)::(decide (0≤a∧0≤u),true)::l
theorem Z5a (m:Bool) (c e q l h a t u:Int) (d:Bool) (g:Nat→Value):Zh (evC (Zm prog Zg Zb5 Zgx) 200 false (sP f24 4) (srF m c e q u++tl 44 g,(srM m c e q l h a d t),[cmp true]) ⟨[],[],[]⟩) 7 42 none (srG m c e q u ((arN true a.toNat u.toNat:Nat):Int) ((arX true a.toNat u.toNat:Nat):Int)) (srM m c e q l h a d t) (lAr a u d true []):=by and_intros<;>kernel_rfl
theorem Z5b (m:Bool) (c e q l h a t u:Int) (d:Bool) (g:Nat→Value):Zh (evC (Zm prog Zg Zb5 Zgx) 200 false (sP f24 4) (srF m c e q u++tl 44 g,(srM m c e q l h a d t),[cmp false]) ⟨[],[],[]⟩) 7 42 none (srG m c e q u ((arN false a.toNat u.toNat:Nat):Int) ((arX false a.toNat u.toNat:Nat):Int)) (srM m c e q l h a d t) (lAr a u d false []):=by and_intros<;>kernel_rfl
theorem Z1b (m:Bool) (c e q l h a t u n f:Int) (d:Bool) (g:Nat→Value):Zh (evC (Zm prog Zg Zb5 Zgx) 200 false (Zx7 f24) (srG m c e q u n f++tl 42 g,(srM m c e q l h a d t),[cmp true]) ⟨[],[],[]⟩) 7 42 (some (some 2)) (srG m c e q u n f) (srM m c e q l h a d t) [(decide (l≤n) && decide (n≤h),true)]:=by and_intros<;>kernel_rfl
theorem Z1c (m:Bool) (c e q l h a t u n f:Int) (d:Bool) (g:Nat→Value):Zh (evC (Zm prog Zg Zb5 Zgx) 200 false (Zx7 f24) (srG m c e q u n f++tl 42 g,(srM m c e q l h a d t),[cmp false,cmp true]) ⟨[],[],[]⟩) 7 42 (some (some 2)) (srG m c e q u n f) (srM m c e q l h a d t) [(decide (l≤f) && decide (f≤h),true),(decide (l≤n) && decide (n≤h),false)]:=by and_intros<;>kernel_rfl
theorem Z1d (m:Bool) (c e q l h a t u n f:Int) (d:Bool) (g:Nat→Value):Zh (evC (Zm prog Zg Zb5 Zgx) 200 false (Zx7 f24) (srG m c e q u n f++tl 42 g,(srM m c e q l h a d t),[cmp false,cmp false,cmp true]) ⟨[],[],[]⟩) 7 42 none (srG m c e q (u64.wrap (u.tdiv 10)) ((arN true a.toNat (u64.wrap (u.tdiv 10)).toNat:Nat):Int) ((arX true a.toNat (u64.wrap (u.tdiv 10)).toNat:Nat):Int)) (srM m c e q l h a d t) (lAr a (u64.wrap (u.tdiv 10)) d true [(decide (l≤f) && decide (f≤h),false),(decide (l≤n) && decide (n≤h),false)]):=by and_intros<;>kernel_rfl
theorem Z1e (m:Bool) (c e q l h a t u n f:Int) (d:Bool) (g:Nat→Value):Zh (evC (Zm prog Zg Zb5 Zgx) 200 false (Zx7 f24) (srG m c e q u n f++tl 42 g,(srM m c e q l h a d t),[cmp false,cmp false,cmp false]) ⟨[],[],[]⟩) 7 42 none (srG m c e q (u64.wrap (u.tdiv 10)) ((arN false a.toNat (u64.wrap (u.tdiv 10)).toNat:Nat):Int) ((arX false a.toNat (u64.wrap (u.tdiv 10)).toNat:Nat):Int)) (srM m c e q l h a d t) (lAr a (u64.wrap (u.tdiv 10)) d false [(decide (l≤f) && decide (f≤h),false),(decide (l≤n) && decide (n≤h),false)]):=by and_intros<;>kernel_rfl
theorem Z5c (m:Bool) (c e q l h a t u n f:Int) (d:Bool) (g:Nat→Value):Zh (evC (Zm prog Zg Zb5 Zgx) 200 false (sK f24 6) (srG m c e q u n f++tl 42 g,(srM m c e q l h a d t),[cmp true]) ⟨[],[],[]⟩) 4 45 (some none) [vP m c e q,pO 1,pO 2,pO 3] ⟨4,[bSp l h a d t,([bR (trR (dcL n.toNat)),.int .i64 (t+(((dcL n.toNat).length:Nat):Int)-1)],49),bPa m c e q,(pwV,pwT)]⟩ [(decide (100≤n∧n<18446744073709551616∧ -100000≤t∧t≤100000),true),(decide (l≤n) && decide (n≤h),true)]:=by and_intros<;>kernel_rfl
theorem Z5d (m:Bool) (c e q l h a t u n f:Int) (d:Bool) (g:Nat→Value):Zh (evC (Zm prog Zg Zb5 Zgx) 200 false (sK f24 6) (srG m c e q u n f++tl 42 g,(srM m c e q l h a d t),[cmp false]) ⟨[],[],[]⟩) 4 45 (some none) [vP m c e q,pO 1,pO 2,pO 3] ⟨4,[bSp l h a d t,([bR (trR (dcL f.toNat)),.int .i64 (t+(((dcL f.toNat).length:Nat):Int)-1)],49),bPa m c e q,(pwV,pwT)]⟩ [(decide (100≤f∧f<18446744073709551616∧ -100000≤t∧t≤100000),true),(decide (l≤n) && decide (n≤h),false)]:=by and_intros<;>kernel_rfl
end Go.Proofs.YtgefjidphfdhdaaGreatDoor
