/-
  ShK, Con2, Con3, ShN, ShM, ShG, ShO
-/
import Derived.Test.YtgefjidphfdhdaaGreatDoorG15
import Derived.Lib.Walk
import Derived.Lib.ItoaMem
import Derived.BigCall
import Derived.BigGuard
namespace Go.KRun
open Go.IntKind
open Go.RowKit
theorem Zpg {T:Tab}(hT:TabOk T) {h0:Hp}{n f:Nat}{vals:List Value}{s:List Dec}{v:Value}{cs:Log}(hF:ZB (ZS T h0 n f vals s) v cs) (hcs:Zx cs) (hvals:(vals.all (lt h0.n))=true) (hv:lt 0 v=true) (hr:h0.rows) {m:Mp}{B:Nat}{h:Hp}{w:World}(E:Emb m B h w) {σ:Nat→Nat}(hf:h0.fits σ h):
  Calls T.P f ((vals.map (rn σ)).map (mv m)).toArray w fun e w'=>∃ m',e= .returned (mv m' v)∧Came m B h w v h m' w':=by
 have ev:(vals.map (rn σ)).map (mv m)=vals.map (mv fun i=>m (σ i)):=by
  rw[List.map_map];exact List.map_congr_left fun y _=>ZcF m σ y
 rw[ev];refine (ZdB hT hF hcs hvals hv (E.small hr hf)).mono fun e w' he=> ?_;obtain⟨E',hb⟩:=zc E he.2;exact⟨m,by rw[he.1,ZC hv],⟨Agree.refl _ _,E',hb,Nat.le_refl _,zQ (Nat.zero_le _) hv⟩⟩
end Go.KRun
namespace Go.Proofs.YtgefjidphfdhdaaGreatDoor
open Go.Proofs.Tryz
open Go.IntKind
open Go.KRun Go.Nt Go.Rd Go.Wd Go.Pt
set_option maxRecDepth 100000
def Z9F:Hc:=zd 127 Na.Z21 (zd 132 Na.Zhc (zd 79 Na.Z2Q (zd 152 Na.Z8Q hcN)))
theorem ZyF:HcOk Z9F:=Zt func127 rfl Na.Zip (Zt func132 rfl Na.Zeu (Zt func79 rfl Na.Zit (Zt func152 rfl Na.Zxy zx)))
theorem Z9G:TabOk (Zk prog Zf Zn Z9F):=Zh Zd ZyF
def Z9H (la lb:List Value) (o n c o' n' c':Nat) (x:Int):Hp:=⟨4,[(wU (dg 2 x),tU),([sl 0 o n c,sl 1 o' n' c'],168),(lb,tR),(la,tR)]⟩
def tiT (x:Int) (n:Nat):Nat:=Zi (dg 2 x)+n
def Z9I (la lb:List Value) (o n c o' n' c':Nat) (x:Int) (T:Nat):Hp:=⟨5,[r14 (tiT x n) T,(wU (dg 2 x),tU),([sl 0 o n c,sl 1 o' n' c'],168),(lb,tR),(la,tR)]⟩
def tiV (x:Int) (n n' T:Nat):Nat:=t14 (tiT x n) T-n'+1
def Z9J (H:Hp) (p q:Option Addr) (n c n' c':Nat) (Q R:Nat) (l:Log):Log:=(decide (Go.Nt.vN (Zm H p n)/Go.Nt.vN (Zm H q n')=(Q:Int)∧Go.Nt.vN (Zm H p n) % Go.Nt.vN (Zm H q n')=(R:Int)),true)::(Na.zZ H p n c,true)::(Na.zZ H q n' c',true)::(!(Na.ZU (Zm H p n) || Na.ZU (Zm H q n')) && decide (0<n'∧¬ Zc2 (Zm H p n) (Zm H q n')<0),true)::l
def tiW (w0 w1:Int):Int:=bOr (bOr 0 (u64.wrap (u64.wrap w0*2^0))) (u64.wrap (u64.wrap w1*2^32))
theorem ZCl (la lb:List Value) (o n c o' n' c':Nat) (x:Int) (T V R:Nat) (w0 w1:Int) (d:Bool):ZB (ZS (Zk prog Zf Zn Z9F) (h2 la lb) 200 117 [.agg #[sl 0 o n c,sl 1 o' n' c'],.int .u64 x] [cmp false,cmp false,num T,cmp false,cmp false,cmp false,num V,num R,cmp true,at_,val (.int .u32 w0),cmp true,at_,val (.int .u32 w1),cmp false,cmp d]) (.tuple #[.int .u64 (tiW w0 w1),.bool d])
  ((decide (((t14 (t14 (tiT x n) T+1) R:Nat):Int)>0),d)::(decide ((2:Int)<((t14 (tiV x n n' T) V:Nat):Int)),false)::(false,false)::(Z5 (wU (dg (tiV x n n' T) (V:Int)))[1]? (.int .u32 w1),true)::(decide ((0:Int)≤1∧(1:Int)<((t14 (tiV x n n' T) V:Nat):Int)),true)::(decide ((1:Int)<((t14 (tiV x n n' T) V:Nat):Int)),true)::(false,false)::(Z5 (wU (dg (tiV x n n' T) (V:Int)))[0]? (.int .u32 w0),true)::(decide ((0:Int)≤0∧(0:Int)<((t14 (tiV x n n' T) V:Nat):Int)),true)::(decide ((0:Int)<((t14 (tiV x n n' T) V:Nat):Int)),true)::
   Z9J (Z9I la lb o n c o' n' c' x T) (a14 4) (some ⟨1,o',none⟩) (t14 (tiT x n) T) (tiT x n) n' c' V R (ZyA (Z9H la lb o n c o' n' c' x) (a14 3) (some ⟨0,o,none⟩) (Zi (dg 2 x)) 2 n c T [(decide (0≤x∧x<18446744073709551616),true)])):=by and_intros<;>kernel_rfl
theorem Z45 {ty:TypeId}{l:List Value}{o n c:Nat}(h:ZaW ty l o n c=true):ZaW tR l o n c=true:=by
 unfold ZaW at*;simp only[Xh,Bool.not_eq_true'] at*;obtain⟨⟨⟨⟨⟨⟨h1,h2⟩,h3⟩,h4⟩,h5⟩,h6⟩,h7⟩:=h;exact⟨⟨⟨⟨⟨⟨Zbw,by kernel_rfl⟩,h3⟩,h4⟩,h5⟩,h6⟩,h7⟩
theorem Z46 {h H:Hp}{b i o n c V:Nat}{x:List Value×TypeId}(r:Na.IsR h (some ⟨b,o,none⟩) n c V) (hx:h.blk? b=some x) (hH:H.blk? i=some (x.1,tR)):Na.IsR H (some ⟨i,o,none⟩) n c V:=by
 obtain⟨r1,r2,r3,r4⟩:=r;unfold Na.zZ at r1;simp only[hx] at r1;unfold zC at r2;simp only[hx,Xh] at r2;refine⟨?_,?_,?_,r4⟩
 ·unfold Na.zZ;simp only[hH];exact Na.zv r1
 ·unfold zC;simp only[hH,Xh];exact⟨Z45 r2.1,r2.2⟩
 ·rw[← r3];unfold Zm;simp only[hx,hH]
def Zqx (H:Hp) (p:Option Addr) (n c V:Nat):Bool:=Na.zZ H p n c && zC H p n c && decide (Zm H p n=Na.d32 V) && decide (n=(Na.d32 V).length∧n≤300)
theorem Zph {H:Hp}{p:Option Addr}{n c V:Nat}(h:Zqx H p n c V=true):Na.IsR H p n c V∧n≤300:=by
 unfold Zqx at h;simp only[Xh,Xi] at h;obtain⟨⟨⟨h1,h2⟩,h3⟩,h4,h5⟩:=h;exact⟨⟨h1,h2,h3,h4,by omega⟩,h5⟩
theorem Zpi {H:Hp}{p:Option Addr}{n c V:Nat}(h:Na.IsR H p n c V) (h3:n≤300):Zqx H p n c V=true:=by
 unfold Zqx;simp only[Xh,Xi];exact⟨⟨⟨h.1,h.2.1⟩,h.2.2.1⟩,h.2.2.2.1,h3⟩
theorem Z47 {V:Nat}(h:V<18446744073709551616):tiW ((V:Int) % 4294967296) ((V:Int)/4294967296 % 4294967296)=V:=by
 unfold tiW;have w:∀ z:Int,0≤z→z<18446744073709551616→u64.wrap z=z:=fun z h0 h1=>by
  simp [IntKind.wrap,IntKind.bits,IntKind.signed];omega
 have e1:(2:Int)^0=1:=rfl;have e2:(2:Int)^32=4294967296:=rfl;rw[e1,e2,Int.mul_one,w ((V:Int) % 4294967296) (by omega) (by omega),w _ (by omega) (by omega),w ((V:Int)/4294967296 % 4294967296) (by omega) (by omega),w _ (by omega) (by omega)];have o1:bOr 0 ((V:Int) % 4294967296)=(V:Int) % 4294967296:=by
  have:=or_low (p:=0) (q:=(V:Int) % 4294967296) 0 (z:=(V:Int) % 4294967296) (by omega) (by rw[show (2:Int)^0=1 from rfl];omega) (by omega) (by decide) (by omega);omega
 rw[o1,or_low 32 (z:=(V:Int)/4294967296 % 4294967296) (by omega) (by rw[e2];omega) (by omega) (by rw[e2];omega) (by omega)];omega
def Z9K:Zaf:=fun vals h s=>
 match vals,s with
 | [.agg cs,.int .u64 x],.inr (.inl O):: .inr (.inl U):: .inr (.inl V):: .inr (.inr (.inr (.inl d)))::s'=>
  match cs.toList with
  | [.slice (some ⟨b,o,none⟩) n c,.slice (some ⟨b',o',none⟩) n' c']=>some (.tuple #[.int .u64 V,.bool d],h,s',[(Zqx h (some ⟨b,o,none⟩) n c O.toNat,true),(Zqx h (some ⟨b',o',none⟩) n' c' U.toNat,true),(decide (((x.toNat*O.toNat/U.toNat:Nat):Int)=V),true),(decide (x.toNat*O.toNat % U.toNat≠0),d),(decide (1≤x∧x<18446744073709551616∧O.toNat≠0∧U.toNat≠0∧4294967296≤V∧V<18446744073709551616),true)])
  | _=>none
 | _,_=>none
theorem ZyG:Z8 117 Z9K:=by
 intro vals h s v h' s' lg hg hl m B w E hv;unfold Z9K at hg;split at hg
 ·rename_i cs x O U V d s2;split at hg
  ·rename_i b o n c b' o' n' c' hcs;have ecs:cs= #[sl b o n c,sl b' o' n' c']:=by
    have:=congrArg List.toArray hcs;simpa [sl] using this
   cases hg;have l1:Zqx h (some ⟨b,o,none⟩) n c O.toNat=true:=hl _ Xe;have l2:Zqx h (some ⟨b',o',none⟩) n' c' U.toNat=true:=hl _ (Xd _ Xe);have l3:=Xc (hl _ (Xd _ (Xd _ Xe)));have l4:decide (x.toNat*O.toNat % U.toNat≠0)=d:=hl _ (Xd _ (Xd _ (Xd _ Xe)));obtain⟨x1,x2,hO,hU,v1,v2⟩:=Xc (hl _ (Xd _ (Xd _ (Xd _ (Xd _ Xf)))));obtain⟨R1,n3⟩:=Zph l1;obtain⟨R2,n4⟩:=Zph l2;obtain⟨X,rfl⟩:∃ X:Nat,x=X:=⟨x.toNat,by omega⟩;obtain⟨O',hO'⟩:∃ O',O'=O.toNat:=⟨_,rfl⟩;obtain⟨U',hU'⟩:∃ U',U'=U.toNat:=⟨_,rfl⟩;obtain⟨V',rfl⟩:∃ V':Nat,V=V':=⟨V.toNat,by omega⟩;rw[Xg,← hO',← hU'] at l3 l4;rw[← hO'] at R1 hO;rw[← hU'] at R2 hU;rcases Na.ZH R1.1 with ⟨c1,_⟩ | ⟨b1,o1,xa,e1,hx,r1,_⟩
   ·cases c1
   cases e1;rcases Na.ZH R2.1 with ⟨c1,_⟩ | ⟨b1,o1,xb,e1,hy,t1,_⟩
   ·cases c1
   cases e1;obtain⟨a1,a2,a3,a4,a5,a6,a7⟩:=ZG r1;obtain⟨d1,d2,d3,d4,d5,d6,d7⟩:=ZG t1;have l3':X*O'/U'=V':=by omega
   have rO:Na.IsR (Z9H xa.1 xb.1 o n c o' n' c' X) (some ⟨0,o,none⟩) n c O':=Z46 R1 hx rfl;obtain⟨rQ,lQ⟩:=ZB7 (H:=Z9H xa.1 xb.1 o n c o' n' c' X) (i:=3) (q:=X) (by omega) rfl;obtain⟨T,hT⟩:∃ T,T=X*O':=⟨_,rfl⟩;have X0:X≠0:=by omega
   have T0:T≠0:=by rw[hT];exact Zbd X0 hO
   have nO:=R1.2.2.2.1;have nU:=R2.2.2.2.1;have eQ:=rQ.2.2.2.1;have hTl:T<4294967296^tiT X n:=by
    have:=Z43 (Na.Zb9 X) (Na.Zb9 O');rw[← hT,← eQ,← nO] at this;exact this
   have hTm:tiT X n≤302:=by unfold tiT;omega
   have rT:Na.IsR (Z9I xa.1 xb.1 o n c o' n' c' X T) (a14 4) (t14 (tiT X n) T) (tiT X n) T:=Na.Zis rfl hTl (by omega);have rU:Na.IsR (Z9I xa.1 xb.1 o n c o' n' c' X T) (some ⟨1,o',none⟩) n' c' U':=Z46 R2 hy rfl;have eT:=rT.2.2.2.1;rw[← hT] at l3' l4;have hle:U'≤T:=by
    rcases Nat.lt_or_ge T U' with c0 | c0
    ·rw[Nat.div_eq_of_lt c0] at l3';omega
    ·exact c0
   have hsl:=Na.Z3G hle;have hVl:V'<4294967296^tiV X n n' T:=by
    have:=Na.Z3F hU hsl;rw[l3'] at this;unfold tiV;rw[eT,nU];exact this
   have hVm:tiV X n n' T≤400:=by unfold tiV;have:t14 (tiT X n) T≤tiT X n:=by {have:=z7 (dg (tiT X n) (T:Int));rw[ZW] at this;exact this};omega
   have eV:=Zpe hVl (by omega);have wV:(Na.d32 V').length=2:=by
    have h1:(Na.d32 V').length≤2:=Na.Ze5 (by show V'<4294967296^2;omega);have h2:V'<4294967296^(Na.d32 V').length:=Na.Zb9 V';rcases (show (Na.d32 V').length=0∨(Na.d32 V').length=1∨(Na.d32 V').length=2 by omega) with c0 | c0 | c0
    ·rw[c0,Nat.pow_zero] at h2;omega
    ·rw[c0,Nat.pow_one] at h2;omega
    ·exact c0
   rw[wV] at eV;have hRl:T % U'<4294967296^(t14 (tiT X n) T+1):=by
    have h2:T % U'<T+1:=Nat.lt_succ_of_le (Nat.mod_le _ _);refine Nat.lt_of_lt_of_le h2 ?_;rw[eT,Nat.pow_succ];have:=Na.Zb9 T;show T+1≤_;have e3:(Na.d32 T).length=(Na.d32 T).length:=rfl;omega
   have tl1:t14 (tiT X n) T≤302:=by have:=z7 (dg (tiT X n) (T:Int));rw[ZW] at this;unfold t14;omega
   have eR:=Zpe hRl (by omega);have hd:decide (((t14 (t14 (tiT X n) T+1) (T % U'):Nat):Int)>0)=d:=by
    rw[eR,← l4];by_cases hz:T % U'=0
    ·have h2:(Na.d32 (T % U')).length=0:=by rw[hz];show (db 4294967296 0).length=0;rw[ze];rfl
     rw[h2,Xb (show ¬ (T % U'≠0) from fun h=>h hz)];rfl
    ·have:=Na.Zca hz;rw[Xa hz];exact Xa (by omega)
   obtain⟨kv,hkv⟩:∃ k,tiV X n n' T=k+2:=by
    refine⟨tiV X n n' T-2,?_⟩;have:=z7 (dg (tiV X n n' T) (V':Int));rw[ZW] at this;have e4:Zi (dg (tiV X n n' T) (V':Int))=2:=eV;omega
   have c0:Z5 (wU (dg (tiV X n n' T) (V':Int)))[0]? (.int .u32 ((V':Int) % 4294967296))=true:=by
    rw[hkv];show Z5 (some (.int .u32 ((V':Int) % 4294967296))) (.int .u32 ((V':Int) % 4294967296))=true;simp [Z5]
   have c1:Z5 (wU (dg (tiV X n n' T) (V':Int)))[1]? (.int .u32 ((V':Int)/4294967296 % 4294967296))=true:=by
    rw[hkv];show Z5 (some (.int .u32 ((V':Int)/4294967296 % 4294967296))) (.int .u32 ((V':Int)/4294967296 % 4294967296))=true;simp [Z5]
   have f:=ZCl xa.1 xb.1 o n c o' n' c' X T V' (T % U') ((V':Int) % 4294967296) ((V':Int)/4294967296 % 4294967296) d;rw[Z47 (by omega)] at f;have hdv:=Na.ZCa rT rU;rw[l3'] at hdv;have hpd:=Zkg rQ rO X0 hO (l:=[(decide ((0:Int)≤(X:Nat)∧((X:Nat):Int)<18446744073709551616),true)]) (Z4 (Xa (by omega)));rw[← hT] at hpd;have pU:=Na.Zca hU;have fin:=Zpg Z9G f (Za hd (Za (Xb (by rw[eV];decide)) (Za rfl (Za c1 (Za (Xa (by rw[eV];decide)) (Za (Xa (by rw[eV];decide)) (Za rfl (Za c0 (Za (Xa (by rw[eV];decide)) (Za (Xa (by rw[eV];decide)) (Za hdv (Za (Na.rX rT) (Za (Na.rX rU) (Za (Na.rG rT rU (by omega) hle) hpd)))))))))))))) (by rfl) (by rfl) (ZgQ a7 d7) E (σ:=Zeo b b') (ZdA hx a5 a6 hy d5 d6);have evals:List.map (rn (Zeo b b')) [.agg #[sl 0 o n c,sl 1 o' n' c'],.int .u64 X]=[.agg cs,.int .u64 X]:=by
    rw[ecs];simp [rn,rn2,rn1,sl,Zeo]
   rw[evals] at fin;exact fin
  ·cases hg
 ·cases hg
end Go.Proofs.YtgefjidphfdhdaaGreatDoor
namespace Go.Proofs.YtgefjidphfdhdaaGreatDoor
open Go.KRun Go.Wd
theorem Zvy {p:Bool×Bool}(h:p.1=p.2):Zx [p]:=fun x hx=>by rw[List.mem_singleton.1 hx];exact h
theorem ZbM {p:Bool×Bool}{l:Log}(h:p.1=p.2) (hl:Zx l):Zx (p::l):=fun x hx=>by
 rcases List.mem_cons.1 hx with rfl | hx
 ·exact h
 ·exact hl x hx
end Go.Proofs.YtgefjidphfdhdaaGreatDoor
namespace Go.Proofs.YtgefjidphfdhdaaGreatDoor
open Go.Proofs.Tryz
open Go.IntKind
open Go.KRun Go.Wd
def ZaO:List UInt8:=(List.range 256).map fun i=>UInt8.ofNat (bitLen i)
def Zey (z:Int):Int:=((ZaO.getD (u8.wrap z).toNat 0).toNat:Int)
def lt8 (z:Int):Bool×Bool:=(decide (0≤u8.wrap z∧(u8.wrap z).toNat<ZaO.length),true)
def sh (z:Int) (k:Nat):Int:=z.fdiv (2^k)
def ge (z k:Int) (d:Bool):Bool×Bool:=(decide (z≥k),d)
def ZfQ (m z:Int):Value:= .int .i64 (i64.wrap (m+i64.wrap (Zey z)))
def nz:Bool×Bool:=(false,false)
theorem ZyH (u:Int):ZB (Zr (Zq prog Zf Zn true) 3000 161 [.int .u64 u] [tst false,tst false,tst false]) (ZfQ 0 u) [lt8 u,ge u 256 false,ge u 65536 false,ge u 4294967296 false]:=by and_intros<;>kernel_rfl
theorem ZyI (u:Int):ZB (Zr (Zq prog Zf Zn true) 3000 161 [.int .u64 u] [tst false,tst false,tst true]) (ZfQ 8 (sh u 8)) [lt8 (sh u 8),nz,ge u 256 true,ge u 65536 false,ge u 4294967296 false]:=by and_intros<;>kernel_rfl
theorem ZyJ (u:Int):ZB (Zr (Zq prog Zf Zn true) 3000 161 [.int .u64 u] [tst false,tst true,tst false]) (ZfQ 16 (sh u 16)) [lt8 (sh u 16),ge (sh u 16) 256 false,nz,ge u 65536 true,ge u 4294967296 false]:=by and_intros<;>kernel_rfl
theorem ZyK (u:Int):ZB (Zr (Zq prog Zf Zn true) 3000 161 [.int .u64 u] [tst false,tst true,tst true]) (ZfQ 24 (sh (sh u 16) 8)) [lt8 (sh (sh u 16) 8),nz,ge (sh u 16) 256 true,nz,ge u 65536 true,ge u 4294967296 false]:=by and_intros<;>kernel_rfl
theorem ZyL (u:Int):ZB (Zr (Zq prog Zf Zn true) 3000 161 [.int .u64 u] [tst true,tst false,tst false]) (ZfQ 32 (sh u 32)) [lt8 (sh u 32),ge (sh u 32) 256 false,ge (sh u 32) 65536 false,nz,ge u 4294967296 true]:=by and_intros<;>kernel_rfl
theorem ZyM (u:Int):ZB (Zr (Zq prog Zf Zn true) 3000 161 [.int .u64 u] [tst true,tst false,tst true]) (ZfQ 40 (sh (sh u 32) 8)) [lt8 (sh (sh u 32) 8),nz,ge (sh u 32) 256 true,ge (sh u 32) 65536 false,nz,ge u 4294967296 true]:=by and_intros<;>kernel_rfl
theorem ZyN (u:Int):ZB (Zr (Zq prog Zf Zn true) 3000 161 [.int .u64 u] [tst true,tst true,tst false]) (ZfQ 48 (sh (sh u 32) 16)) [lt8 (sh (sh u 32) 16),ge (sh (sh u 32) 16) 256 false,nz,ge (sh u 32) 65536 true,nz,ge u 4294967296 true]:=by and_intros<;>kernel_rfl
theorem ZyO (u:Int):ZB (Zr (Zq prog Zf Zn true) 3000 161 [.int .u64 u] [tst true,tst true,tst true]) (ZfQ 56 (sh (sh (sh u 32) 16) 8)) [lt8 (sh (sh (sh u 32) 16) 8),nz,ge (sh (sh u 32) 16) 256 true,nz,ge (sh u 32) 65536 true,nz,ge u 4294967296 true]:=by and_intros<;>kernel_rfl
theorem Zdu:ZaO.length=256:=by unfold ZaO;rw[List.length_map,List.length_range]
theorem Zdv (b:Nat) (h:b<256):(ZaO.getD b 0).toNat=bitLen b:=by
 have h1:ZaO.getD b 0=UInt8.ofNat (bitLen b):=by
  unfold ZaO;rw[List.getD,List.getElem?_map,List.getElem?_range h];rfl
 have h2:=bitLen_le8 b h;rw[h1,UInt8.toNat_ofNat'];omega
theorem Zii {z:Int}(h0:0≤z) (h1:z<256):u8.wrap z=z:=by
 simp [IntKind.wrap,IntKind.bits,IntKind.signed];omega
theorem Zah {m:Int}{Z:Nat}(hm:0≤m) (hm':m≤56) (h1:Z<256):ZfQ m (Z:Int)= .int .i64 (m+bitLen Z)∧(lt8 (Z:Int)).1=(lt8 (Z:Int)).2:=by
 have hb:=bitLen_le8 Z h1;have e:=Zii (z:=(Z:Int)) (by omega) (by omega);refine⟨?_,?_⟩
 ·unfold ZfQ Zey;rw[e,Xg,Zdv Z h1,Zhs (n:=((bitLen Z:Nat):Int)) (by omega) (by omega),Zhs (by omega) (by omega)]
 ·unfold lt8;rw[e,Xg];rw[Zdu];exact Xa (And.intro (by omega) h1)
theorem ZaE (Z k:Nat):sh (Z:Int) k=((Z/2^k:Nat):Int):=by
 unfold sh;rw[Int.fdiv_eq_ediv_of_nonneg _ (Int.le_of_lt (Int.pow_pos (by omega)))];simp
theorem Zl9 {z k:Int}(h:k≤z):(ge z k true).1=(ge z k true).2:=Xa h
theorem ZlA {z k:Int}(h:z<k):(ge z k false).1=(ge z k false).2:=Xb (by omega)
theorem Zbp:nz.1=nz.2:=rfl
theorem ZaP (x b:Nat) (h:2^b≤x):bitLen x=b+bitLen (x/2^b):=bitLen_shift x b (by
 have:0<x/2^b:=Nat.div_pos h (Nat.two_pow_pos b);omega)
def Zpj (u:Int):Value:= .int .i64 (bitLen u.toNat:Nat)
set_option maxRecDepth 100000 in
theorem ZiH (u:Int) (h0:0≤u) (h1:u<18446744073709551616) (w:World):Calls prog 161 #[.int .u64 u] w fun e w'=>e= .returned (Zpj u)∧Zak w w':=by
 obtain⟨U,rfl⟩:=Int.eq_ofNat_of_zero_le h0;unfold Zpj;rw[Xg];have p8:(2:Nat)^8=256:=rfl;have p16:(2:Nat)^16=65536:=rfl;have p32:(2:Nat)^32=4294967296:=rfl;have step:∀ {v:Value}{m:Int}{Z:Nat}{s:List Dec}{cs:Log},ZB (Zr (Zq prog Zf Zn true) 3000 161 [.int .u64 (U:Int)] s) v cs→Zx cs→v= .int .i64 (bitLen U:Nat)→Calls prog 161 #[.int .u64 (U:Int)] w fun e w'=>e= .returned (.int .i64 (bitLen U:Nat))∧Zak w w':=
  fun {v m Z s cs} hf hc hv=>by subst hv;exact Ze (Zp Zd) hf hc (by rfl) (by rfl) w
 by_cases a:U<4294967296
 ·by_cases b:U<65536
  ·by_cases c:U<256
   ·obtain⟨e1,e2⟩:=Zah (m:=0) (by omega) (by omega) c;exact step (m:=0) (Z:=0) (ZyH U) (ZbM e2 (ZbM (ZlA (by omega)) (ZbM (ZlA (by omega)) (Zvy (ZlA (by omega)))))) (by rw[e1];congr 1;omega)
   ·have l:=ZaP U 8 (by omega);obtain⟨e1,e2⟩:=Zah (m:=8) (Z:=U/2^8) (by omega) (by omega) (by omega);rw[← ZaE] at e1 e2;exact step (m:=0) (Z:=0) (ZyI U) (ZbM e2 (ZbM Zbp (ZbM (Zl9 (by omega)) (ZbM (ZlA (by omega)) (Zvy (ZlA (by omega))))))) (by rw[e1];congr 1;omega)
  ·have l:=ZaP U 16 (by omega);by_cases c:U/2^16<256
   ·obtain⟨e1,e2⟩:=Zah (m:=16) (Z:=U/2^16) (by omega) (by omega) c;rw[← ZaE] at e1 e2;exact step (m:=0) (Z:=0) (ZyJ U) (ZbM e2 (ZbM (ZlA (by rw[ZaE];omega)) (ZbM Zbp (ZbM (Zl9 (by omega)) (Zvy (ZlA (by omega))))))) (by rw[e1];congr 1;omega)
   ·have l2:=ZaP (U/2^16) 8 (by omega);obtain⟨e1,e2⟩:=Zah (m:=24) (Z:=U/2^16/2^8) (by omega) (by omega) (by omega);rw[← ZaE,← ZaE] at e1 e2;exact step (m:=0) (Z:=0) (ZyK U) (ZbM e2 (ZbM Zbp (ZbM (Zl9 (by rw[ZaE];omega)) (ZbM Zbp (ZbM (Zl9 (by omega)) (Zvy (ZlA (by omega)))))))) (by rw[e1];congr 1;omega)
 ·have l0:=ZaP U 32 (by omega);have q:U/2^32<4294967296:=by omega
  by_cases b:U/2^32<65536
  ·by_cases c:U/2^32<256
   ·obtain⟨e1,e2⟩:=Zah (m:=32) (Z:=U/2^32) (by omega) (by omega) c;rw[← ZaE] at e1 e2;exact step (m:=0) (Z:=0) (ZyL U) (ZbM e2 (ZbM (ZlA (by rw[ZaE];omega)) (ZbM (ZlA (by rw[ZaE];omega)) (ZbM Zbp (Zvy (Zl9 (by omega))))))) (by rw[e1];congr 1;omega)
   ·have l:=ZaP (U/2^32) 8 (by omega);obtain⟨e1,e2⟩:=Zah (m:=40) (Z:=U/2^32/2^8) (by omega) (by omega) (by omega);rw[← ZaE,← ZaE] at e1 e2;exact step (m:=0) (Z:=0) (ZyM U) (ZbM e2 (ZbM Zbp (ZbM (Zl9 (by rw[ZaE];omega)) (ZbM (ZlA (by rw[ZaE];omega)) (ZbM Zbp (Zvy (Zl9 (by omega)))))))) (by rw[e1];congr 1;omega)
  ·have l:=ZaP (U/2^32) 16 (by omega);by_cases c:U/2^32/2^16<256
   ·obtain⟨e1,e2⟩:=Zah (m:=48) (Z:=U/2^32/2^16) (by omega) (by omega) c;rw[← ZaE,← ZaE] at e1 e2;exact step (m:=0) (Z:=0) (ZyN U) (ZbM e2 (ZbM (ZlA (by rw[ZaE,ZaE];omega)) (ZbM Zbp (ZbM (Zl9 (by rw[ZaE];omega)) (ZbM Zbp (Zvy (Zl9 (by omega)))))))) (by rw[e1];congr 1;omega)
   ·have l2:=ZaP (U/2^32/2^16) 8 (by omega);obtain⟨e1,e2⟩:=Zah (m:=56) (Z:=U/2^32/2^16/2^8) (by omega) (by omega) (by omega);rw[← ZaE,← ZaE,← ZaE] at e1 e2;exact step (m:=0) (Z:=0) (ZyO U) (ZbM e2 (ZbM Zbp (ZbM (Zl9 (by rw[ZaE,ZaE];omega)) (ZbM Zbp (ZbM (Zl9 (by rw[ZaE];omega)) (ZbM Zbp (Zvy (Zl9 (by omega))))))))) (by rw[e1];congr 1;omega)
def gu (k:Int→Value):Ans:=fun vals s=>
 match vals with
 | [.int .u64 u]=>some (k u,s,[(decide (0≤u∧u<18446744073709551616),true)])
 | _=>none
theorem Z9L {f:Nat}{k:Int→Value}(hk:∀ u,0≤u→u<18446744073709551616→∀ w,Calls prog f #[.int .u64 u] w fun e w'=>e= .returned (k u)∧Zak w w'):zw f (gu k):=by
 intro vals s v s' lg h hl w;unfold gu at h;split at h
 ·cases h;have h1:=hl _ Xf;simp only[Xi] at h1;exact hk _ h1.1 h1.2 w
 ·cases h
def ZhP:Con:=alt 161 (gu Zpj) Zn
theorem Zdw:ConOk ZhP:=ZE func161 rfl (Z9L ZiH) Zd
end Go.Proofs.YtgefjidphfdhdaaGreatDoor
namespace Go.Proofs.YtgefjidphfdhdaaGreatDoor
open Go.Proofs.Tryz
open Go.IntKind
open Go.KRun Go.Nt Go.Rd Go.Wd Go.Pt
set_option maxRecDepth 100000
set_option linter.unusedVariables false
theorem ZCm (m:Bool) (c e q:Int):ZB (Zr (Zq prog Zf ZhP true) 200 115 [vP m c e q] []) (.int .i64 ((i64.wrap (i64.wrap (i64.wrap (e+((Go.bitLen q.toNat:Nat):Int))-1)*78913)).fdiv 262144)) [(false,false),(decide (0≤q∧q<18446744073709551616),true)]:=by and_intros<;>kernel_rfl
def Zpk (E q:Int):Bool:=decide (1≤q∧q<9007199254740992∧ -1074≤E∧E≤972)
def Z9M:Ans:=fun vals s=>
 match vals with
 | [v]=>
  match vP4 v with
  | some (_,_,E,q)=>some (.int .i64 (lgS q.toNat E),s,[(Zpk E q,true)])
  | none=>none
 | _=>none
theorem ZyP:zw 115 Z9M:=by
 intro vals s v s' lg h hl w;unfold Z9M at h;split at h
 ·split at h
  ·rename_i o m c E q hv;rw[ZcU hv];cases h;obtain⟨h1,h2,h3,h4⟩:=Xc (hl _ Xf);have hb:bitLen q.toNat≤53:=Go.Rn.len_le (k:=53) (show q.toNat<9007199254740992 by omega);have f:=ZCm m c E q;rw[Zw (n:=E+((Go.bitLen q.toNat:Nat):Int)) (by omega) (by omega),Zw (n:=E+((Go.bitLen q.toNat:Nat):Int)-1) (by omega) (by omega),Zw (by omega) (by omega),Int.fdiv_eq_ediv_of_nonneg _ (by omega)] at f;exact Ze (Zp Zdw) f (Za rfl (Z4 (Xa (by omega)))) (by rfl) (by rfl) w
  ·cases h
 ·cases h
def ZbJ:Con:=alt 115 Z9M Zn
theorem Ztj:ConOk ZbJ:=ZE func115 rfl ZyP Zd
def ZgA:Hc:=zd 117 Z9K (zd 76 Na.Zsz (zd 77 Na.Zsy hcN))
theorem ZyQ:HcOk ZgA:=Zt func117 rfl ZyG (Zt func76 rfl Na.ZjE (Zt func77 rfl Na.ZjD zx))
theorem Zct:TabOk (Zk prog Zf ZbJ ZgA):=Zh Ztj ZyQ
def spT (e q:Int):Int:=i64.wrap (lgS q.toNat e-17)
def spN (e q:Int):Int:=i64.wrap (0-spT e q)
def spW (e:Int):Int:=i64.wrap (e-2)
def Zvz (e q:Int):Nat:=Na.pMi 10 (mx0 (spN e q))
def Zv0 (e q:Int):Nat:=Na.pMi 10 (mx0 (i64.wrap (0-spN e q)))
def ZgB (e q:Int) (P:Nat):Nat:=Na.sM (t14 (Zvz e q) P) (mx0 (spW e))
def Zh6 (e q:Int) (P':Nat):Nat:=Na.sM (t14 (Zv0 e q) P') (mx0 (i64.wrap (0-spW e)))
def vSp (l h a:Int) (d:Bool) (t:Int):Value:= .agg #[.int .u64 l,.int .u64 h,.int .u64 a,.bool d,.int .i64 t]
def bSp (l h a:Int) (d:Bool) (t:Int):List Value×TypeId:=([.int .u64 l,.int .u64 h,.int .u64 a,.bool d,.int .i64 t],102)
def bPa (m:Bool) (c e q:Int):List Value×TypeId:=([.bool m,.int .i64 c,.int .i64 e,.int .u64 q],44)
def bSc (e q:Int) (P P' O U:Nat):List Value×TypeId:=([sl 6 0 (t14 (ZgB e q P) O) (ZgB e q P),sl 7 0 (t14 (Zh6 e q P') U) (Zh6 e q P')],168)
def Z9N (m:Bool) (c e q:Int) (P P':Nat):Hp:=⟨6,[r14 (Zv0 e q) P',r14 (Zvz e q) P,([.slice none 0 0,.slice none 0 0],168),bSp 0 0 0 false (spT e q),bSp 0 0 0 false 0,bPa m c e q]⟩
def Z9O (m:Bool) (c e q:Int) (P P' O:Nat):Hp:=⟨7,[r14 (ZgB e q P) O,r14 (Zv0 e q) P',r14 (Zvz e q) P,([.slice none 0 0,.slice none 0 0],168),bSp 0 0 0 false (spT e q),bSp 0 0 0 false 0,bPa m c e q]⟩
def Z48 (m:Bool) (c e q:Int) (P P' O U:Nat) (l a:Int) (d:Bool):Hp:=⟨9,[bSc e q P P' O U,r14 (Zh6 e q P') U,r14 (ZgB e q P) O,r14 (Zv0 e q) P',r14 (Zvz e q) P,bSc e q P P' O U,bSp l 0 a d (spT e q),bSp 0 0 0 false 0,bPa m c e q]⟩
def lTi (e q:Int) (P P' O U:Nat) (H:Hp) (x:Int) (V:Nat) (d:Bool) (l:Log):Log:=(Zqx H (a14 6) (t14 (ZgB e q P) O) (ZgB e q P) O,true)::(Zqx H (a14 7) (t14 (Zh6 e q P') U) (Zh6 e q P') U,true)::(decide (((x.toNat*O/U:Nat):Int)=(V:Int)),true)::(decide (x.toNat*O % U≠0),d)::(decide (1≤x∧x<18446744073709551616∧O≠0∧U≠0∧(4294967296:Int)≤(V:Int)∧(V:Int)<18446744073709551616),true)::l
def Z9P (m:Bool) (c e q:Int) (P P' O U:Nat) (cl:Bool) (l:Log):Log:=(q.tmod 2==0,cl)::(decide ((2:Int)=0),false)::Zpd (Z9O m c e q P P' O) (a14 5) (t14 (Zv0 e q) P') (Zv0 e q) (mx0 (i64.wrap (0-spW e))) U (Zpd (Z9N m c e q P P') (a14 4) (t14 (Zvz e q) P) (Zvz e q) (mx0 (spW e)) O (Zlp 10 (mx0 (i64.wrap (0-spN e q))) P' (Zlp 10 (mx0 (spN e q)) P ((Zpk e q,true)::l))))
def sp4 (q:Int):Int:=u64.wrap (4*q)
def Z9Q (q:Int):Int:=u64.wrap (sp4 q+2)
def ZyR (pw:Bool) (q:Int):Int:=if pw=true then u64.wrap (sp4 q-1) else u64.wrap (sp4 q-2)
def lPo (e q:Int) (k:Nat):Log:=match k with | 0=>[(q==4503599627370496,false)] | 1=>[(decide (e> -1074),true),(q==4503599627370496,true)] | _=>[(decide (e> -1074),false),(q==4503599627370496,true)]
def ZbK (m:Bool) (c e q:Int) (P P' O U A L H:Nat) (d0:Bool) (k:Nat) (cl d1 d2:Bool) (L':Int):Log:=lTi e q P P' O U (Z48 m c e q P P' O U L' A d0) (Z9Q q) H d2 (lTi e q P P' O U (Z48 m c e q P P' O U 0 A d0) (ZyR (Nat.beq k 1) q) L d1 (lTi e q P P' O U (Z48 m c e q P P' O U 0 0 false) (sp4 q) A d0 (Z9P m c e q P P' O U cl (lPo e q k))))
theorem Zpl (m:Bool) (c e q:Int) (P P' O U A L H:Nat) (d0:Bool):ZB (Zr (Zk prog Zf ZbJ ZgA) 200 60 [vP m c e q] [cmp false,cmp false,cmp false,num P,cmp false,cmp false,num P',cmp false,cmp false,cmp false,num O,cmp false,cmp false,cmp false,num U,cmp false,cmp true,num O,num U,num A,cmp d0,num O,num U,num L,cmp true,num O,num U,num H,cmp true]) (vSp (u64.wrap (L+1)) (H:Int) A d0 (spT e q)) (ZbK m c e q P P' O U A L H d0 0 true true true (u64.wrap (L+1))):=by and_intros<;>kernel_rfl
theorem Zpm (m:Bool) (c e q:Int) (P P' O U A L H:Nat) (d0:Bool):ZB (Zr (Zk prog Zf ZbJ ZgA) 200 60 [vP m c e q] [cmp false,cmp false,cmp false,num P,cmp false,cmp false,num P',cmp false,cmp false,cmp false,num O,cmp false,cmp false,cmp false,num U,cmp false,cmp true,num O,num U,num A,cmp d0,num O,num U,num L,cmp true,num O,num U,num H,cmp false]) (vSp (u64.wrap (L+1)) (H:Int) A d0 (spT e q)) (ZbK m c e q P P' O U A L H d0 0 true true false (u64.wrap (L+1))):=by and_intros<;>kernel_rfl
theorem Zpn (m:Bool) (c e q:Int) (P P' O U A L H:Nat) (d0:Bool):ZB (Zr (Zk prog Zf ZbJ ZgA) 200 60 [vP m c e q] [cmp false,cmp false,cmp false,num P,cmp false,cmp false,num P',cmp false,cmp false,cmp false,num O,cmp false,cmp false,cmp false,num U,cmp false,cmp true,num O,num U,num A,cmp d0,num O,num U,num L,cmp false,num O,num U,num H,cmp true]) (vSp (L:Int) (H:Int) A d0 (spT e q)) (ZbK m c e q P P' O U A L H d0 0 true false true (L:Int)):=by and_intros<;>kernel_rfl
theorem Zpo (m:Bool) (c e q:Int) (P P' O U A L H:Nat) (d0:Bool):ZB (Zr (Zk prog Zf ZbJ ZgA) 200 60 [vP m c e q] [cmp false,cmp false,cmp false,num P,cmp false,cmp false,num P',cmp false,cmp false,cmp false,num O,cmp false,cmp false,cmp false,num U,cmp false,cmp true,num O,num U,num A,cmp d0,num O,num U,num L,cmp false,num O,num U,num H,cmp false]) (vSp (L:Int) (H:Int) A d0 (spT e q)) (ZbK m c e q P P' O U A L H d0 0 true false false (L:Int)):=by and_intros<;>kernel_rfl
theorem Zpp (m:Bool) (c e q:Int) (P P' O U A L H:Nat) (d0:Bool):ZB (Zr (Zk prog Zf ZbJ ZgA) 200 60 [vP m c e q] [cmp false,cmp false,cmp false,num P,cmp false,cmp false,num P',cmp false,cmp false,cmp false,num O,cmp false,cmp false,cmp false,num U,cmp false,cmp false,num O,num U,num A,cmp d0,num O,num U,num L,cmp true,num O,num U,num H,cmp true]) (vSp (u64.wrap (L+1)) (H:Int) A d0 (spT e q)) (ZbK m c e q P P' O U A L H d0 0 false true true (u64.wrap (L+1))):=by and_intros<;>kernel_rfl
theorem Zpq (m:Bool) (c e q:Int) (P P' O U A L H:Nat) (d0:Bool):ZB (Zr (Zk prog Zf ZbJ ZgA) 200 60 [vP m c e q] [cmp false,cmp false,cmp false,num P,cmp false,cmp false,num P',cmp false,cmp false,cmp false,num O,cmp false,cmp false,cmp false,num U,cmp false,cmp false,num O,num U,num A,cmp d0,num O,num U,num L,cmp true,num O,num U,num H,cmp false]) (vSp (u64.wrap (L+1)) (u64.wrap (H-1)) A d0 (spT e q)) (ZbK m c e q P P' O U A L H d0 0 false true false (u64.wrap (L+1))):=by and_intros<;>kernel_rfl
theorem Zpr (m:Bool) (c e q:Int) (P P' O U A L H:Nat) (d0:Bool):ZB (Zr (Zk prog Zf ZbJ ZgA) 200 60 [vP m c e q] [cmp false,cmp false,cmp false,num P,cmp false,cmp false,num P',cmp false,cmp false,cmp false,num O,cmp false,cmp false,cmp false,num U,cmp false,cmp false,num O,num U,num A,cmp d0,num O,num U,num L,cmp false,num O,num U,num H,cmp true]) (vSp (u64.wrap (L+1)) (H:Int) A d0 (spT e q)) (ZbK m c e q P P' O U A L H d0 0 false false true (u64.wrap (L+1))):=by and_intros<;>kernel_rfl
theorem Zps (m:Bool) (c e q:Int) (P P' O U A L H:Nat) (d0:Bool):ZB (Zr (Zk prog Zf ZbJ ZgA) 200 60 [vP m c e q] [cmp false,cmp false,cmp false,num P,cmp false,cmp false,num P',cmp false,cmp false,cmp false,num O,cmp false,cmp false,cmp false,num U,cmp false,cmp false,num O,num U,num A,cmp d0,num O,num U,num L,cmp false,num O,num U,num H,cmp false]) (vSp (u64.wrap (L+1)) (u64.wrap (H-1)) A d0 (spT e q)) (ZbK m c e q P P' O U A L H d0 0 false false false (u64.wrap (L+1))):=by and_intros<;>kernel_rfl
theorem Zpt (m:Bool) (c e q:Int) (P P' O U A L H:Nat) (d0:Bool):ZB (Zr (Zk prog Zf ZbJ ZgA) 200 60 [vP m c e q] [cmp true,cmp true,cmp false,cmp false,num P,cmp false,cmp false,num P',cmp false,cmp false,cmp false,num O,cmp false,cmp false,cmp false,num U,cmp false,cmp true,num O,num U,num A,cmp d0,num O,num U,num L,cmp true,num O,num U,num H,cmp true]) (vSp (u64.wrap (L+1)) (H:Int) A d0 (spT e q)) (ZbK m c e q P P' O U A L H d0 1 true true true (u64.wrap (L+1))):=by and_intros<;>kernel_rfl
theorem Zpu (m:Bool) (c e q:Int) (P P' O U A L H:Nat) (d0:Bool):ZB (Zr (Zk prog Zf ZbJ ZgA) 200 60 [vP m c e q] [cmp true,cmp true,cmp false,cmp false,num P,cmp false,cmp false,num P',cmp false,cmp false,cmp false,num O,cmp false,cmp false,cmp false,num U,cmp false,cmp true,num O,num U,num A,cmp d0,num O,num U,num L,cmp true,num O,num U,num H,cmp false]) (vSp (u64.wrap (L+1)) (H:Int) A d0 (spT e q)) (ZbK m c e q P P' O U A L H d0 1 true true false (u64.wrap (L+1))):=by and_intros<;>kernel_rfl
theorem Zpv (m:Bool) (c e q:Int) (P P' O U A L H:Nat) (d0:Bool):ZB (Zr (Zk prog Zf ZbJ ZgA) 200 60 [vP m c e q] [cmp true,cmp true,cmp false,cmp false,num P,cmp false,cmp false,num P',cmp false,cmp false,cmp false,num O,cmp false,cmp false,cmp false,num U,cmp false,cmp true,num O,num U,num A,cmp d0,num O,num U,num L,cmp false,num O,num U,num H,cmp true]) (vSp (L:Int) (H:Int) A d0 (spT e q)) (ZbK m c e q P P' O U A L H d0 1 true false true (L:Int)):=by and_intros<;>kernel_rfl
theorem Zpw (m:Bool) (c e q:Int) (P P' O U A L H:Nat) (d0:Bool):ZB (Zr (Zk prog Zf ZbJ ZgA) 200 60 [vP m c e q] [cmp true,cmp true,cmp false,cmp false,num P,cmp false,cmp false,num P',cmp false,cmp false,cmp false,num O,cmp false,cmp false,cmp false,num U,cmp false,cmp true,num O,num U,num A,cmp d0,num O,num U,num L,cmp false,num O,num U,num H,cmp false]) (vSp (L:Int) (H:Int) A d0 (spT e q)) (ZbK m c e q P P' O U A L H d0 1 true false false (L:Int)):=by and_intros<;>kernel_rfl
theorem Zpx (m:Bool) (c e q:Int) (P P' O U A L H:Nat) (d0:Bool):ZB (Zr (Zk prog Zf ZbJ ZgA) 200 60 [vP m c e q] [cmp true,cmp false,cmp false,cmp false,num P,cmp false,cmp false,num P',cmp false,cmp false,cmp false,num O,cmp false,cmp false,cmp false,num U,cmp false,cmp true,num O,num U,num A,cmp d0,num O,num U,num L,cmp true,num O,num U,num H,cmp true]) (vSp (u64.wrap (L+1)) (H:Int) A d0 (spT e q)) (ZbK m c e q P P' O U A L H d0 2 true true true (u64.wrap (L+1))):=by and_intros<;>kernel_rfl
theorem Zpy (m:Bool) (c e q:Int) (P P' O U A L H:Nat) (d0:Bool):ZB (Zr (Zk prog Zf ZbJ ZgA) 200 60 [vP m c e q] [cmp true,cmp false,cmp false,cmp false,num P,cmp false,cmp false,num P',cmp false,cmp false,cmp false,num O,cmp false,cmp false,cmp false,num U,cmp false,cmp true,num O,num U,num A,cmp d0,num O,num U,num L,cmp true,num O,num U,num H,cmp false]) (vSp (u64.wrap (L+1)) (H:Int) A d0 (spT e q)) (ZbK m c e q P P' O U A L H d0 2 true true false (u64.wrap (L+1))):=by and_intros<;>kernel_rfl
theorem Zpz (m:Bool) (c e q:Int) (P P' O U A L H:Nat) (d0:Bool):ZB (Zr (Zk prog Zf ZbJ ZgA) 200 60 [vP m c e q] [cmp true,cmp false,cmp false,cmp false,num P,cmp false,cmp false,num P',cmp false,cmp false,cmp false,num O,cmp false,cmp false,cmp false,num U,cmp false,cmp true,num O,num U,num A,cmp d0,num O,num U,num L,cmp false,num O,num U,num H,cmp true]) (vSp (L:Int) (H:Int) A d0 (spT e q)) (ZbK m c e q P P' O U A L H d0 2 true false true (L:Int)):=by and_intros<;>kernel_rfl
theorem Zp0 (m:Bool) (c e q:Int) (P P' O U A L H:Nat) (d0:Bool):ZB (Zr (Zk prog Zf ZbJ ZgA) 200 60 [vP m c e q] [cmp true,cmp false,cmp false,cmp false,num P,cmp false,cmp false,num P',cmp false,cmp false,cmp false,num O,cmp false,cmp false,cmp false,num U,cmp false,cmp true,num O,num U,num A,cmp d0,num O,num U,num L,cmp false,num O,num U,num H,cmp false]) (vSp (L:Int) (H:Int) A d0 (spT e q)) (ZbK m c e q P P' O U A L H d0 2 true false false (L:Int)):=by and_intros<;>kernel_rfl
end Go.Proofs.YtgefjidphfdhdaaGreatDoor
namespace Go.Proofs.YtgefjidphfdhdaaGreatDoor
open Go.Proofs.Tryz
open Go.IntKind
open Go.KRun Go.Nt Go.Rd Go.Wd Go.Pt
set_option maxRecDepth 100000
def sAt (S:Nat) (E j:Int):Nat:=ZA E j (4*S)
def sMo (S:Nat) (E j:Int):Bool:=ZaD E j (4*S)
def sLo (S:Nat) (E j:Int):Nat:=ZA E j (mdL S E)+(if ZaD E j (mdL S E)=true∨S % 2=1 then 1 else 0)
def sHi (S:Nat) (E j:Int):Nat:=ZA E j (mdH S)-(if ZaD E j (mdH S)=false∧S % 2=1 then 1 else 0)
theorem Zv1 {S:Nat}{E:Int}(h0:S≠0) (hE: -1074≤E) (hE1:E≤972) (hS:S<9007199254740992):(100000000000000000*ZaY E (lgS S E-17)≤4*S*ovN E (lgS S E-17)∧4*S*ovN E (lgS S E-17)<10000000000000000000*ZaY E (lgS S E-17))∧ -400≤lgS S E-17∧lgS S E-17≤300:=by
 obtain⟨bd,h1,h2⟩:=Zvp h0 hE hE1 hS;obtain⟨j,hj⟩:∃ j,j=lgS S E-17:=⟨_,rfl⟩;have hb:=zJ E (-j);have hu:=Zgm E j;have a:=ZeB (a:=1) 17 (by rw[Nat.one_mul];exact h1);have b:=Zgj (a:=1) 19 (by rw[Nat.one_mul];exact h2);rw[show -(lgS S E)+((17:Nat):Int)= -j by omega,Nat.one_mul] at a;rw[show -(lgS S E+2)+((19:Nat):Int)= -j by omega,Nat.one_mul] at b;have e17:(10:Nat)^17=100000000000000000:=rfl;have e19:(10:Nat)^19=10000000000000000000:=rfl;rw[e17] at a;rw[e19] at b;have hc:=Zka S E j;rw[← hj];refine⟨⟨?_,?_⟩,by omega,by omega⟩
 ·refine Nat.le_of_mul_le_mul_right (c:=pbN E (-j)) ?_ hb;rw[hc];have:=Nat.mul_le_mul_right (ZaY E j) a;have e:100000000000000000*ZaY E j*pbN E (-j)=100000000000000000*pbN E (-j)*ZaY E j:=by ac_rfl
  rw[e];exact this
 ·refine Nat.lt_of_mul_lt_mul_right (a:=pbN E (-j)) ?_;rw[hc];have:=Nat.mul_lt_mul_of_pos_right b hu;have e:10000000000000000000*ZaY E j*pbN E (-j)=10000000000000000000*pbN E (-j)*ZaY E j:=by ac_rfl
  rw[e];exact this
theorem ZyS {S:Nat}{E:Int}(h0:S≠0) (hE: -1074≤E) (hE1:E≤972) (hS:S<9007199254740992) {x:Nat}(h1:2*S≤x) (h2:x≤6*S):50000000000000000≤ZA E (lgS S E-17) x∧ZA E (lgS S E-17) x<15000000000000000000:=by
 obtain⟨⟨a,b⟩,_⟩:=Zv1 h0 hE hE1 hS;obtain⟨j,hj⟩:∃ j,j=lgS S E-17:=⟨_,rfl⟩;rw[← hj] at a b ⊢;have hu:=Zgm E j;unfold ZA;have m1:=Nat.mul_le_mul_right (ovN E j) h1;have m2:=Nat.mul_le_mul_right (ovN E j) h2;obtain⟨X,hX⟩:∃ X,X=S*ovN E j:=⟨_,rfl⟩;have e4:4*S*ovN E j=4*X:=by rw[hX,Nat.mul_assoc]
 have e2:2*S*ovN E j=2*X:=by rw[hX,Nat.mul_assoc]
 have e6:6*S*ovN E j=6*X:=by rw[hX,Nat.mul_assoc]
 rw[e4] at a b;rw[e2] at m1;rw[e6] at m2;obtain⟨Y,hY⟩:∃ Y,Y=x*ovN E j:=⟨_,rfl⟩;obtain⟨u,hu0⟩:∃ u,u=ZaY E j:=⟨_,rfl⟩;rw[← hY] at m1 m2 ⊢;rw[← hu0] at a b hu ⊢;exact⟨(Nat.le_div_iff_mul_le hu).2 (by omega),(Nat.div_lt_iff_lt_mul hu).2 (by omega)⟩
theorem Z49 {e q:Int}{P P' O U:Nat}{H:Hp}{x V:Nat}{d:Bool}(r1:Na.IsR H (a14 6) (t14 (ZgB e q P) O) (ZgB e q P) O) (r2:Na.IsR H (a14 7) (t14 (Zh6 e q P') U) (Zh6 e q P') U) (n1:t14 (ZgB e q P) O≤300) (n2:t14 (Zh6 e q P') U≤300) (hO:O≠0) (hU:U≠0) (hx:1≤x∧x<18446744073709551616) (hV:x*O/U=V) (hb:4294967296≤V∧V<18446744073709551616) (hd:decide (x*O % U≠0)=d) {l:Log}(hl:Zx l):Zx (lTi e q P P' O U H (x:Nat) V d l):=by
 unfold lTi;rw[Xg];exact Za (Zpi r1 n1) (Za (Zpi r2 n2) (Za (Xa (by rw[hV])) (Za hd (Za (Xa ⟨by omega,by omega,hO,hU,by omega,by omega⟩) hl))))
theorem ZdH {z:Int}(h0:0≤z) (h1:z<18446744073709551616):u64.wrap z=z:=by
 simp [IntKind.wrap,IntKind.bits,IntKind.signed];omega
theorem Ztk (m:Bool) (c E:Int) (S:Nat) (h0:S≠0) (hS:S<9007199254740992) (hE: -1074≤E) (hE1:E≤972) (w:World):Calls prog 60 #[vP m c E S] w fun r w'=>r= .returned (vSp (sLo S E (lgS S E-17)) (sHi S E (lgS S E-17)) (sAt S E (lgS S E-17)) (sMo S E (lgS S E-17)) (lgS S E-17))∧Zak w w':=by
 obtain⟨_,j1,j2⟩:=Zv1 h0 hE hE1 hS;have bA:=ZyS h0 hE hE1 hS (x:=4*S) (by omega) (by omega);have mL:2*S≤mdL S E∧mdL S E≤6*S:=by unfold mdL;split<;>omega
 have mH:2*S≤mdH S∧mdH S≤6*S:=by unfold mdH;omega
 have bL:=ZyS h0 hE hE1 hS (x:=mdL S E) mL.1 mL.2;have bH:=ZyS h0 hE hE1 hS (x:=mdH S) mH.1 mH.2;obtain⟨j,hj⟩:∃ j,j=lgS S E-17:=⟨_,rfl⟩;rw[← hj] at j1 j2 bA bL bH ⊢;have eT:spT E S=j:=by unfold spT;rw[Xg,← hj,Zw (by omega) (by omega)]
 obtain⟨a,ha⟩:∃ a,a=(-j).toNat:=⟨_,rfl⟩;obtain⟨b,hb⟩:∃ b,b=j.toNat:=⟨_,rfl⟩;obtain⟨k,hk⟩:∃ k,k=(E-2).toNat:=⟨_,rfl⟩;obtain⟨g,hg⟩:∃ g,g=(2-E).toNat:=⟨_,rfl⟩;have eN:mx0 (spN E S)=((a:Nat):Int):=by unfold spN;rw[eT,Zw (by omega) (by omega),Zd1];omega
 have eN':mx0 (i64.wrap (0-spN E S))=((b:Nat):Int):=by unfold spN;rw[eT,Zw (n:=0-j) (by omega) (by omega),Zw (by omega) (by omega),Zd1];omega
 have eW:mx0 (spW E)=((k:Nat):Int):=by unfold spW;rw[Zw (by omega) (by omega),Zd1,hk]
 have eW':mx0 (i64.wrap (0-spW E))=((g:Nat):Int):=by unfold spW;rw[Zw (n:=E-2) (by omega) (by omega),Zw (by omega) (by omega),Zd1];omega
 obtain⟨P,hP⟩:∃ P,P=10^a:=⟨_,rfl⟩;obtain⟨P',hP'⟩:∃ P',P'=10^b:=⟨_,rfl⟩;obtain⟨O,hO⟩:∃ O,O=P*2^k:=⟨_,rfl⟩;obtain⟨U,hU⟩:∃ U,U=P'*2^g:=⟨_,rfl⟩;have eO:ovN E j=O:=by unfold ovN;rw[hO,hP,← ha,← hk,Nat.mul_comm]
 have eU:ZaY E j=U:=by unfold ZaY;rw[hU,hP',← hb,← hg,Nat.mul_comm]
 have P0:P≠0:=by rw[hP];exact ZaT a
 have P0':P'≠0:=by rw[hP'];exact ZaT b
 have O0:O≠0:=by rw[hO];exact Zbd P0 (fun c=>by have:=Nat.pow_pos (n:=k) (show 0<2 by omega);omega)
 have U0:U≠0:=by rw[hU];exact Zbd P0' (fun c=>by have:=Nat.pow_pos (n:=g) (show 0<2 by omega);omega)
 have cP:Zvz E S=Na.pMi 10 ((a:Nat):Int):=by unfold Zvz;rw[eN]
 have cQ:Zv0 E S=Na.pMi 10 ((b:Nat):Int):=by unfold Zv0;rw[eN']
 obtain⟨rP,lP⟩:=ZyC (H:=Z9N m c E S P P') (i:=4) (b:=10) (k:=a) (.inl rfl) (by omega) (by rw[← hP];unfold Z9N;rw[cP];rfl);obtain⟨rQ,lQ⟩:=ZyC (H:=Z9O m c E S P P' O) (i:=5) (b:=10) (k:=b) (.inl rfl) (by omega) (by rw[← hP'];unfold Z9O;rw[cQ];rfl);rw[← hP] at rP lP;rw[← hP'] at rQ lQ;have tP:t14 (Na.pMi 10 ((a:Nat):Int)) P=(Na.d32 P).length:=rP.2.2.2.1;have tQ:t14 (Na.pMi 10 ((b:Nat):Int)) P'=(Na.d32 P').length:=rQ.2.2.2.1;have cO:ZgB E S P=k/32+((Na.d32 P).length+1):=by unfold ZgB;rw[cP,eW,tP,Z1b]
 have cU:Zh6 E S P'=g/32+((Na.d32 P').length+1):=by unfold Zh6;rw[cQ,eW',tQ,Z1b]
 have hOl:O<4294967296^ZgB E S P:=by
  have:=ZyD (k:=k) (Na.Zb9 P);rw[Z1b,← hO] at this;rw[cO];exact this
 have hUl:U<4294967296^Zh6 E S P':=by
  have:=ZyD (k:=g) (Na.Zb9 P');rw[Z1b,← hU] at this;rw[cU];exact this
 have tO:t14 (ZgB E S P) O≤300:=by
  have:=z7 (dg (ZgB E S P) (O:Int));rw[ZW] at this;unfold t14;omega
 have tU':t14 (Zh6 E S P') U≤300:=by
  have:=z7 (dg (Zh6 E S P') (U:Int));rw[ZW] at this;unfold t14;omega
 have rO:∀ l a d,Na.IsR (Z48 m c E S P P' O U l a d) (a14 6) (t14 (ZgB E S P) O) (ZgB E S P) O:=fun l a d=>Na.Zis rfl hOl (by omega);have rU:∀ l a d,Na.IsR (Z48 m c E S P P' O U l a d) (a14 7) (t14 (Zh6 E S P') U) (Zh6 E S P') U:=fun l a d=>Na.Zis rfl hUl (by omega);have e4:sp4 S=((4*S:Nat):Int):=by unfold sp4;rw[ZdH (by omega) (by omega)];omega
 have eHi:Z9Q S=((mdH S:Nat):Int):=by unfold Z9Q mdH;rw[e4,ZdH (by omega) (by omega)];omega
 have okF14':Zpk E S=true:=Xa (by omega);have key:∀ (i:Nat) (L':Int),Zx (lPo E S i)→ZyR (Nat.beq i 1) S=((mdL S E:Nat):Int)→Zx (ZbK m c E S P P' O U (ZA E j (4*S)) (ZA E j (mdL S E)) (ZA E j (mdH S)) (sMo S E j) i (decide (S % 2=0)) (ZaD E j (mdL S E)) (ZaD E j (mdH S)) L'):=by
  intro i L' hi hlo;unfold ZbK;rw[e4,eHi,hlo];have pre:Zx (Z9P m c E S P P' O U (decide (S % 2=0)) (lPo E S i)):=by
   unfold Z9P;refine Za ?_ (Za rfl ?_)
   ·rw[Int.tmod_eq_emod_of_nonneg (by omega)];have:((((S:Nat):Int) % 2==0):Bool)=decide (((S:Nat):Int) % 2=0):=rfl;rw[this];exact decide_eq_decide.2 (by omega)
   ·rw[eW',eW,eN',eN,cP,cQ];have l1:=Zgt (b:=10) (k:=a) (.inl rfl) (by omega) (Za okF14' hi);have l2:=Zgt (b:=10) (k:=b) (.inl rfl) (by omega) l1;rw[← hP,← hP'] at l2;have l3:=Zgu rP P0 (k:=k) (by omega) l2;rw[← hO] at l3;have l4:=Zgu rQ P0' (k:=g) (by omega) l3;rw[← hU] at l4;exact l4
  have mk:∀ (x:Nat) (H:Hp) (l:Log),Na.IsR H (a14 6) (t14 (ZgB E S P) O) (ZgB E S P) O→Na.IsR H (a14 7) (t14 (Zh6 E S P') U) (Zh6 E S P') U→2*S≤x→x≤6*S→50000000000000000≤ZA E j x∧ZA E j x<15000000000000000000→Zx l→Zx (lTi E S P P' O U H (x:Nat) (ZA E j x) (ZaD E j x) l):=by
   intro x H l r1 r2 x1 x2 hb hl;refine Z49 r1 r2 tO tU' O0 U0 (by omega) ?_ (by omega) ?_ hl
   ·unfold ZA;rw[eO,eU]
   ·unfold ZaD;rw[eO,eU]
  exact mk _ _ _ (rO _ _ _) (rU _ _ _) mH.1 mH.2 bH (mk _ _ _ (rO _ _ _) (rU _ _ _) mL.1 mL.2 bL (mk _ _ _ (rO _ _ _) (rU _ _ _) (by omega) (by omega) bA pre))
 have wL:u64.wrap (((ZA E j (mdL S E):Nat):Int)+1)=((ZA E j (mdL S E)+1:Nat):Int):=by rw[ZdH (by omega) (by omega)];omega
 have wH:u64.wrap (((ZA E j (mdH S):Nat):Int)-1)=((ZA E j (mdH S)-1:Nat):Int):=by rw[ZdH (by omega) (by omega)];omega
 have lo0:¬ (S=4503599627370496∧ -1074<E)→∀ i,Nat.beq i 1=false→ZyR (Nat.beq i 1) S=((mdL S E:Nat):Int):=by
  intro hn i hi;rw[hi];unfold ZyR mdL;rw[if_neg (by decide),if_neg hn,e4,ZdH (by omega) (by omega)];omega
 unfold sLo sHi sAt;by_cases h52:S=4503599627370496
 ·have hev:S % 2=0:=by omega
  have hp:decide (S % 2=0)=true:=Xa hev;by_cases hEl: -1074<E
  ·have hi:Zx (lPo E S 1):=Za (Xa (by omega)) (Z4 (ZQ (by omega)));have hlo:ZyR (Nat.beq 1 1) S=((mdL S E:Nat):Int):=by
    show ZyR true S=_;unfold ZyR mdL;rw[if_pos rfl,if_pos ⟨h52,hEl⟩,e4,ZdH (by omega) (by omega)];omega
   cases hd1:ZaD E j (mdL S E) with
   | true=>
    cases hd2:ZaD E j (mdH S) with
    | true=>
     have f:=Zpt m c E S P P' O U (ZA E j (4*S)) (ZA E j (mdL S E)) (ZA E j (mdH S)) (sMo S E j);have lg:=key 1 (u64.wrap (((ZA E j (mdL S E):Nat):Int)+1)) hi hlo;rw[hd1,hd2,hp] at lg;rw[wL,eT] at f;rw[wL] at lg;rw[if_pos (.inl rfl),if_neg (fun h=>by cases h.1)];exact Ze Zct f lg (by rfl) (by rfl) w
    | false=>
     have f:=Zpu m c E S P P' O U (ZA E j (4*S)) (ZA E j (mdL S E)) (ZA E j (mdH S)) (sMo S E j);have lg:=key 1 (u64.wrap (((ZA E j (mdL S E):Nat):Int)+1)) hi hlo;rw[hd1,hd2,hp] at lg;rw[wL,eT] at f;rw[wL] at lg;rw[if_pos (.inl rfl),if_neg (fun h=>by omega)];exact Ze Zct f lg (by rfl) (by rfl) w
   | false=>
    cases hd2:ZaD E j (mdH S) with
    | true=>
     have f:=Zpv m c E S P P' O U (ZA E j (4*S)) (ZA E j (mdL S E)) (ZA E j (mdH S)) (sMo S E j);have lg:=key 1 (((ZA E j (mdL S E):Nat):Int)) hi hlo;rw[hd1,hd2,hp] at lg;rw[eT] at f;rw[if_neg (fun h=>h.elim (fun h=>by cases h) (fun h=>by omega)),if_neg (fun h=>by cases h.1)];exact Ze Zct f lg (by rfl) (by rfl) w
    | false=>
     have f:=Zpw m c E S P P' O U (ZA E j (4*S)) (ZA E j (mdL S E)) (ZA E j (mdH S)) (sMo S E j);have lg:=key 1 (((ZA E j (mdL S E):Nat):Int)) hi hlo;rw[hd1,hd2,hp] at lg;rw[eT] at f;rw[if_neg (fun h=>h.elim (fun h=>by cases h) (fun h=>by omega)),if_neg (fun h=>by omega)];exact Ze Zct f lg (by rfl) (by rfl) w
  ·have hi:Zx (lPo E S 2):=Za (Xb (by omega)) (Z4 (ZQ (by omega)));have hlo:=lo0 (fun h=>hEl h.2) 2 rfl;cases hd1:ZaD E j (mdL S E) with
   | true=>
    cases hd2:ZaD E j (mdH S) with
    | true=>
     have f:=Zpx m c E S P P' O U (ZA E j (4*S)) (ZA E j (mdL S E)) (ZA E j (mdH S)) (sMo S E j);have lg:=key 2 (u64.wrap (((ZA E j (mdL S E):Nat):Int)+1)) hi hlo;rw[hd1,hd2,hp] at lg;rw[wL,eT] at f;rw[wL] at lg;rw[if_pos (.inl rfl),if_neg (fun h=>by cases h.1)];exact Ze Zct f lg (by rfl) (by rfl) w
    | false=>
     have f:=Zpy m c E S P P' O U (ZA E j (4*S)) (ZA E j (mdL S E)) (ZA E j (mdH S)) (sMo S E j);have lg:=key 2 (u64.wrap (((ZA E j (mdL S E):Nat):Int)+1)) hi hlo;rw[hd1,hd2,hp] at lg;rw[wL,eT] at f;rw[wL] at lg;rw[if_pos (.inl rfl),if_neg (fun h=>by omega)];exact Ze Zct f lg (by rfl) (by rfl) w
   | false=>
    cases hd2:ZaD E j (mdH S) with
    | true=>
     have f:=Zpz m c E S P P' O U (ZA E j (4*S)) (ZA E j (mdL S E)) (ZA E j (mdH S)) (sMo S E j);have lg:=key 2 (((ZA E j (mdL S E):Nat):Int)) hi hlo;rw[hd1,hd2,hp] at lg;rw[eT] at f;rw[if_neg (fun h=>h.elim (fun h=>by cases h) (fun h=>by omega)),if_neg (fun h=>by cases h.1)];exact Ze Zct f lg (by rfl) (by rfl) w
    | false=>
     have f:=Zp0 m c E S P P' O U (ZA E j (4*S)) (ZA E j (mdL S E)) (ZA E j (mdH S)) (sMo S E j);have lg:=key 2 (((ZA E j (mdL S E):Nat):Int)) hi hlo;rw[hd1,hd2,hp] at lg;rw[eT] at f;rw[if_neg (fun h=>h.elim (fun h=>by cases h) (fun h=>by omega)),if_neg (fun h=>by omega)];exact Ze Zct f lg (by rfl) (by rfl) w
 ·have hi:Zx (lPo E S 0):=Z4 (ZI (by omega));have hlo:=lo0 (fun h=>h52 h.1) 0 rfl;by_cases hev:S % 2=0
  ·have hp:decide (S % 2=0)=true:=Xa hev;cases hd1:ZaD E j (mdL S E) with
   | true=>
    cases hd2:ZaD E j (mdH S) with
    | true=>
     have f:=Zpl m c E S P P' O U (ZA E j (4*S)) (ZA E j (mdL S E)) (ZA E j (mdH S)) (sMo S E j);have lg:=key 0 (u64.wrap (((ZA E j (mdL S E):Nat):Int)+1)) hi hlo;rw[hd1,hd2,hp] at lg;rw[wL,eT] at f;rw[wL] at lg;rw[if_pos (.inl rfl),if_neg (fun h=>by cases h.1)];exact Ze Zct f lg (by rfl) (by rfl) w
    | false=>
     have f:=Zpm m c E S P P' O U (ZA E j (4*S)) (ZA E j (mdL S E)) (ZA E j (mdH S)) (sMo S E j);have lg:=key 0 (u64.wrap (((ZA E j (mdL S E):Nat):Int)+1)) hi hlo;rw[hd1,hd2,hp] at lg;rw[wL,eT] at f;rw[wL] at lg;rw[if_pos (.inl rfl),if_neg (fun h=>by omega)];exact Ze Zct f lg (by rfl) (by rfl) w
   | false=>
    cases hd2:ZaD E j (mdH S) with
    | true=>
     have f:=Zpn m c E S P P' O U (ZA E j (4*S)) (ZA E j (mdL S E)) (ZA E j (mdH S)) (sMo S E j);have lg:=key 0 (((ZA E j (mdL S E):Nat):Int)) hi hlo;rw[hd1,hd2,hp] at lg;rw[eT] at f;rw[if_neg (fun h=>h.elim (fun h=>by cases h) (fun h=>by omega)),if_neg (fun h=>by cases h.1)];exact Ze Zct f lg (by rfl) (by rfl) w
    | false=>
     have f:=Zpo m c E S P P' O U (ZA E j (4*S)) (ZA E j (mdL S E)) (ZA E j (mdH S)) (sMo S E j);have lg:=key 0 (((ZA E j (mdL S E):Nat):Int)) hi hlo;rw[hd1,hd2,hp] at lg;rw[eT] at f;rw[if_neg (fun h=>h.elim (fun h=>by cases h) (fun h=>by omega)),if_neg (fun h=>by omega)];exact Ze Zct f lg (by rfl) (by rfl) w
  ·have hp:decide (S % 2=0)=false:=Xb hev;have hodd:S % 2=1:=by omega
   cases hd1:ZaD E j (mdL S E) with
   | true=>
    cases hd2:ZaD E j (mdH S) with
    | true=>
     have f:=Zpp m c E S P P' O U (ZA E j (4*S)) (ZA E j (mdL S E)) (ZA E j (mdH S)) (sMo S E j);have lg:=key 0 (u64.wrap (((ZA E j (mdL S E):Nat):Int)+1)) hi hlo;rw[hd1,hd2,hp] at lg;rw[wL,eT] at f;rw[wL] at lg;rw[if_pos (.inl rfl),if_neg (fun h=>by cases h.1)];exact Ze Zct f lg (by rfl) (by rfl) w
    | false=>
     have f:=Zpq m c E S P P' O U (ZA E j (4*S)) (ZA E j (mdL S E)) (ZA E j (mdH S)) (sMo S E j);have lg:=key 0 (u64.wrap (((ZA E j (mdL S E):Nat):Int)+1)) hi hlo;rw[hd1,hd2,hp] at lg;rw[wL,wH,eT] at f;rw[wL] at lg;rw[if_pos (.inl rfl),if_pos ⟨rfl,hodd⟩];exact Ze Zct f lg (by rfl) (by rfl) w
   | false=>
    cases hd2:ZaD E j (mdH S) with
    | true=>
     have f:=Zpr m c E S P P' O U (ZA E j (4*S)) (ZA E j (mdL S E)) (ZA E j (mdH S)) (sMo S E j);have lg:=key 0 (u64.wrap (((ZA E j (mdL S E):Nat):Int)+1)) hi hlo;rw[hd1,hd2,hp] at lg;rw[wL,eT] at f;rw[wL] at lg;rw[if_pos (.inr hodd),if_neg (fun h=>by cases h.1)];exact Ze Zct f lg (by rfl) (by rfl) w
    | false=>
     have f:=Zps m c E S P P' O U (ZA E j (4*S)) (ZA E j (mdL S E)) (ZA E j (mdH S)) (sMo S E j);have lg:=key 0 (u64.wrap (((ZA E j (mdL S E):Nat):Int)+1)) hi hlo;rw[hd1,hd2,hp] at lg;rw[wL,wH,eT] at f;rw[wL] at lg;rw[if_pos (.inr hodd),if_pos ⟨rfl,hodd⟩];exact Ze Zct f lg (by rfl) (by rfl) w
def Z9R:Ans:=fun vals s=>
 match vals with
 | [v]=>
  match vP4 v with
  | some (_,_,E,q)=>some (vSp (sLo q.toNat E (lgS q.toNat E-17)) (sHi q.toNat E (lgS q.toNat E-17)) (sAt q.toNat E (lgS q.toNat E-17)) (sMo q.toNat E (lgS q.toNat E-17)) (lgS q.toNat E-17),s,[(Zpk E q,true)])
  | none=>none
 | _=>none
theorem ZyT:zw 60 Z9R:=by
 intro vals s v s' lg h hl w;unfold Z9R at h;split at h
 ·split at h
  ·rename_i o m c E q hv;rw[ZcU hv];cases h;obtain⟨h1,h2,h3,h4⟩:=Xc (hl _ Xf);obtain⟨k,rfl⟩:∃ k:Nat,q=k:=⟨q.toNat,by omega⟩;exact Ztk m c E k (by omega) (by omega) h3 h4 w
  ·cases h
 ·cases h
end Go.Proofs.YtgefjidphfdhdaaGreatDoor
namespace Go.Proofs.YtgefjidphfdhdaaGreatDoor
open Go.Proofs.Tryz
open Go.KRun Go.Rd Go.RowKit Go.Sort Go.Lib Go.Shelf
set_option maxRecDepth 100000
theorem ZiI (w:World) (T:TypeId) (nd:Nat) (hs:nd≤24):Holds (fun (b:UInt8)=>Value.int .u8 (b.toNat:Int)) (w.alloc (.cells zeros24 T)) w.heap.size 0 (Array.replicate nd (0:UInt8)):=fun j hj=>by
 have hj':j<nd:=by simpa using hj
 refine⟨?_,World.frozen?_alloc_new _ _ _ _⟩;rw[World.cell?_alloc_new,zeros24_at _ (by omega),getElem!_pos _ j hj];simp
theorem Ztl (w:World) (o:Obj) (dk:Array UInt8) (k:Nat):∃ os,(putRow (fun (b:UInt8)=>Value.int .u8 (b.toNat:Int)) (w.alloc o) w.heap.size 0 dk).drewN k=grow (w.drewN k) os:=by
 rw[alloc_eq_grow];obtain⟨os',_,e⟩:=putRow_grow_new (fun (b:UInt8)=>Value.int .u8 (b.toNat:Int)) w #[o] w.heap.size 0 dk (Nat.le_refl _);exact⟨os',by rw[e];rfl⟩
set_option maxHeartbeats 6400000 in
theorem Zp1 (u:Nat) (h100:100≤u) (hu64:u<18446744073709551616) (w:World) (hk:knT w):Calls prog 162 #[.int .u64 u,.int .i64 10] w fun e w'=>e= .returned (.string ⟨(Lib.decDigits u).toArray⟩)∧∃ k os,w'=grow (w.drewN k) os:=by
 have hu1:1≤u:=by omega
 have hnd20:Lib.nDigits u≤20:=by have:=Lib.numDigits_eq u hu1 hu64;split at this<;>omega
 have hal:prog.arrayLen 239=24:=by kernel_rfl
 have hsl1:∀ W,(Instr.sliceAt 239 (.pointer (some ⟨w.heap.size,0,none⟩)) none (some (.int .i64 (Lib.nDigits u:Int))) none).run prog W= .ok (.slice (some ⟨w.heap.size,0,none⟩) (Lib.nDigits u) 24) W:=fun W=>by
  rw[run_sliceAt_array_h W 239 ⟨w.heap.size,0,none⟩ (by kernel_rfl) .i64 (Lib.nDigits u:Int) (by omega) (by rw[hal];omega)];rw[hal];rfl
 have hH0:=ZiI w 239 (Lib.nDigits u) (by omega);have hfmt:Calls prog 180 #[.slice (some ⟨w.heap.size,0,none⟩) (Array.replicate (Lib.nDigits u) (0:UInt8)).size 24,.int .u64 u] (w.alloc (.cells Lib.zeros24 239)) fun e w'=>e= .returned (.tuple #[])∧∃ (n v':Nat) (dk:Array UInt8),w'=(putRow (fun (b:UInt8)=>Value.int .u8 (b.toNat:Int)) (w.alloc (.cells Lib.zeros24 239)) w.heap.size 0 dk).drewN n∧FmtInv (Array.replicate (Lib.nDigits u) (0:UInt8)).size u 0 v' dk:=Any.internal_strconv_formatBase10 {Zgg with} w.heap.size 0 24 u (Array.replicate (Lib.nDigits u) 0) _ hH0 (by rw[Array.size_replicate];exact Lib.lt_pow_nDigits u) hu64 (by rw[Array.size_replicate];omega);rw[Array.size_replicate] at hfmt;have htab:knT (w.alloc (.cells Lib.zeros24 239)):=by
  obtain⟨t,z,h⟩:=hk;refine⟨t,z,?_⟩;rw[ZaC _ _ _ (Nat.ne_of_lt (Array.getElem?_eq_some_iff.1 h).1),h]
 have hnum:Calls prog 179 #[.int .u64 u] (w.alloc (.cells Lib.zeros24 239)) fun e w'=>e= .returned (.int .i64 (Lib.nDigits u:Nat))∧w'=w.alloc (.cells Lib.zeros24 239):=Any.internal_strconv_numDigits {Zgg with} u hu1 hu64 _ (Zkb htab (by kernel_rfl));have HH0:=Lib.hid hH0;have hlt:¬ (u:Int)<100:=by omega
 clear hH0 hal
 go_enter func162,ntmps162
 go_wp2_with (go_at_call 179;refine hnum.mono ?_;rintro e w' ⟨rfl,rfl⟩)
 go_at_call 180
 refine hfmt.mono ?_;rintro e w' ⟨rfl,k,v',dk,rfl,hF⟩;have hcv:(convert 142 9 (.slice (some ⟨w.heap.size,0,none⟩) (Lib.nDigits u) 24)).run prog ((putRow (fun (b:UInt8)=>Value.int .u8 (b.toNat:Int)) (w.alloc (.cells Lib.zeros24 239)) w.heap.size 0 dk).drewN k)= .ok (.string ⟨(Lib.decDigits u).toArray⟩) ((putRow (fun (b:UInt8)=>Value.int .u8 (b.toNat:Int)) (w.alloc (.cells Lib.zeros24 239)) w.heap.size 0 dk).drewN k):=by
  have h:=run_convert_bytes_back (P:=prog) ((putRow (fun (b:UInt8)=>Value.int .u8 (b.toNat:Int)) (w.alloc (.cells Lib.zeros24 239)) w.heap.size 0 dk).drewN k) 142 9 5 ⟨w.heap.size,0,none⟩ 24 (Lib.decDigits u) underlying142 underlying5 underlying9 (fun j hj=>by
   rw[Lib.row_is_numeral hF j hj,Lib.add_plain,World.cell?_drewN];exact cell?_putRow (fun (b:UInt8)=>Value.int .u8 (b.toNat:Int)) _ w.heap.size 0 _ dk HH0.out (by rw[hF.size,Array.size_replicate]) j (by rw[hF.size];rw[Lib.decDigits_length] at hj;exact hj))
  rw[Lib.decDigits_length] at h;exact h
 go_wp2
 go_ret
 obtain⟨os,eo⟩:=Ztl w (.cells Lib.zeros24 239) dk k;exact⟨rfl,k,os,eo⟩
set_option maxHeartbeats 6400000 in
theorem Ztm (u:Nat) (h100:100≤u) (hu64:u<18446744073709551616) (w:World) (hk:knT w):Calls prog 118 #[.int .u64 u,.int .i64 10] w fun e w'=>e= .returned (bR (dcL u))∧Zak w w':=by
 have h:=Zp1 u h100 hu64 w hk;rw[ZiB hu64] at h
 go_enter func118,ntmps118
 go_wp2_with (go_at_call 162;refine h.mono ?_;rintro e w' ⟨rfl,k,os,rfl⟩)
 go_ret
 exact⟨rfl,Zd0 (ZdF w k os)⟩
def Z9S:Ans:=fun vals s=>
 match vals with
 | [.int .u64 n,.int .i64 b]=>some (bR (dcL n.toNat),s,[(decide (100≤n∧n<18446744073709551616∧b=10),true)])
 | _=>none
theorem ZyU:Zcx 118 Z9S:=by
 intro vals s v s' lg h hl w hk;unfold Z9S at h;split at h
 ·cases h;obtain⟨h1,h2,h3⟩:=Xc (hl _ Xf);rename_i n b;obtain⟨u,rfl⟩:∃ u:Nat,n=u:=⟨n.toNat,by omega⟩;subst h3;exact Ztm u (by omega) (by omega) w hk
 ·cases h
end Go.Proofs.YtgefjidphfdhdaaGreatDoor
namespace Go.Proofs.YtgefjidphfdhdaaGreatDoor
open Go.Proofs.Tryz
open Go.IntKind
open Go.KRun Go.Nt Go.Rd Go.Wd Go.Pt
set_option maxRecDepth 100000
set_option linter.unusedVariables false
def Z4A:Value→Option (Int×Int×Int×Bool×Int)
 | .agg cs=>
  match cs.toList with
  | [.int .u64 l,.int .u64 h,.int .u64 a,.bool d,.int .i64 t]=>some (l,h,a,d,t)
  | _=>none
 | _=>none
theorem Zh7 {v:Value}{l h a:Int}{d:Bool}{t:Int}(hv:Z4A v=some (l,h,a,d,t)):v=vSp l h a d t:=by
 unfold Z4A at hv;split at hv
 ·rename_i cs;split at hv
  ·rename_i hc;cases hv;obtain⟨l⟩:=cs;simp only at hc;subst hc;rfl
  ·cases hv
 ·cases hv
theorem Z4B (l h a t u q:Int) (d:Bool):ZB (Zr (Zq prog Zf Zn true) 200 61 [vSp l h a d t,.int .u64 u] [num q,cmp false,cmp true]) (.tuple #[.int .u64 (u64.wrap (u64.wrap (q+1)*u)),.int .u64 (u64.wrap (q*u))]) [(decide (a.tmod u>u64.wrap (u.tdiv 2)),true),(decide (u=0),false),(decide (u=0),false),(decide (u64.wrap (a.tdiv u)=q),true)]:=by and_intros<;>kernel_rfl
theorem Z4C (l h a t u q:Int):ZB (Zr (Zq prog Zf Zn true) 200 61 [vSp l h a true t,.int .u64 u] [num q,cmp false,cmp false,cmp true]) (.tuple #[.int .u64 (u64.wrap (u64.wrap (q+1)*u)),.int .u64 (u64.wrap (q*u))]) [(a.tmod u==u64.wrap (u.tdiv 2),true),(decide (a.tmod u>u64.wrap (u.tdiv 2)),false),(decide (u=0),false),(decide (u=0),false),(decide (u64.wrap (a.tdiv u)=q),true)]:=by and_intros<;>kernel_rfl
theorem Z4D (l h a t u q:Int):ZB (Zr (Zq prog Zf Zn true) 200 61 [vSp l h a false t,.int .u64 u] [num q,cmp false,cmp false,cmp true,cmp false,cmp true]) (.tuple #[.int .u64 (u64.wrap (u64.wrap (q+1)*u)),.int .u64 (u64.wrap (q*u))]) [(q.tmod 2==1,true),(decide ((2:Int)=0),false),(a.tmod u==u64.wrap (u.tdiv 2),true),(decide (a.tmod u>u64.wrap (u.tdiv 2)),false),(decide (u=0),false),(decide (u=0),false),(decide (u64.wrap (a.tdiv u)=q),true)]:=by and_intros<;>kernel_rfl
theorem Z4E (l h a t u q:Int):ZB (Zr (Zq prog Zf Zn true) 200 61 [vSp l h a false t,.int .u64 u] [num q,cmp false,cmp false,cmp true,cmp false,cmp false]) (.tuple #[.int .u64 (u64.wrap (q*u)),.int .u64 (u64.wrap (u64.wrap (q+1)*u))]) [(q.tmod 2==1,false),(decide ((2:Int)=0),false),(a.tmod u==u64.wrap (u.tdiv 2),true),(decide (a.tmod u>u64.wrap (u.tdiv 2)),false),(decide (u=0),false),(decide (u=0),false),(decide (u64.wrap (a.tdiv u)=q),true)]:=by and_intros<;>kernel_rfl
theorem Z4F (l h a t u q:Int) (d:Bool):ZB (Zr (Zq prog Zf Zn true) 200 61 [vSp l h a d t,.int .u64 u] [num q,cmp false,cmp false,cmp false]) (.tuple #[.int .u64 (u64.wrap (q*u)),.int .u64 (u64.wrap (u64.wrap (q+1)*u))]) [(a.tmod u==u64.wrap (u.tdiv 2),false),(decide (a.tmod u>u64.wrap (u.tdiv 2)),false),(decide (u=0),false),(decide (u=0),false),(decide (u64.wrap (a.tdiv u)=q),true)]:=by and_intros<;>kernel_rfl
def Z1c (a u:Nat):Bool:=decide (2≤u∧(a/u+1)*u<18446744073709551616)
def arV (d:Bool) (a u:Nat):Value:=if d=true then .tuple #[.int .u64 (((a/u+1)*u:Nat):Int),.int .u64 ((a/u*u:Nat):Int)] else .tuple #[.int .u64 ((a/u*u:Nat):Int),.int .u64 (((a/u+1)*u:Nat):Int)]
theorem Ztn (l h t:Int) (d:Bool) (a u:Nat) (hk:Z1c a u=true) (w:World):Calls prog 61 #[vSp l h a d t,.int .u64 u] w fun e w'=>e= .returned (arV (nrU a d u) a u)∧Zak w w':=by
 have hT:=Zp Zd;obtain⟨h1,h2⟩:=Xc hk;have hdm:=Nat.div_add_mod a u;have hm:=Nat.mod_lt a (show 0<u by omega);have e1:((a:Nat):Int).tdiv ((u:Nat):Int)=((a/u:Nat):Int):=by rw[Int.tdiv_eq_ediv_of_nonneg (by omega)];exact (Int.natCast_ediv a u).symm
 have e2:((a:Nat):Int).tmod ((u:Nat):Int)=((a % u:Nat):Int):=by rw[Int.tmod_eq_emod_of_nonneg (by omega)];exact (Int.natCast_emod a u).symm
 obtain⟨q,hq⟩:∃ q,q=a/u:=⟨_,rfl⟩;have hqu:(q+1)*u=q*u+u:=by rw[Nat.add_mul,Nat.one_mul]
 rw[← hq] at h2 hdm e1;rw[Nat.mul_comm] at hdm;have q2:q≤q*u:=Nat.le_mul_of_pos_right _ (by omega);have e3:u64.wrap (((u:Nat):Int).tdiv 2)=((u/2:Nat):Int):=by rw[Int.tdiv_eq_ediv_of_nonneg (by omega),ZdH (by omega) (by omega)];omega
 have w1:u64.wrap ((q:Nat):Int)=((q:Nat):Int):=ZdH (by omega) (by omega);have w2:u64.wrap (((q:Nat):Int)*((u:Nat):Int))=((q*u:Nat):Int):=by rw[← Int.natCast_mul,ZdH (by omega) (by omega)]
 have w3:u64.wrap (u64.wrap (((q:Nat):Int)+1)*((u:Nat):Int))=(((q+1)*u:Nat):Int):=by
  rw[ZdH (z:=((q:Nat):Int)+1) (by omega) (by omega),show ((q:Nat):Int)+1=((q+1:Nat):Int) by omega,← Int.natCast_mul,ZdH (by omega) (by omega)]
 have eo:(((q:Nat):Int).tmod 2==1)=decide (q % 2=1):=by
  rw[Int.tmod_eq_emod_of_nonneg (by omega)];have:((((q:Nat):Int) % 2==1):Bool)=decide (((q:Nat):Int) % 2=1):=rfl;rw[this];exact decide_eq_decide.2 (by omega)
 have kb:Zx [(decide (((u:Nat):Int)=0),false),(decide (((u:Nat):Int)=0),false),(decide (u64.wrap (((a:Nat):Int).tdiv ((u:Nat):Int))=((q:Nat):Int)),true)]:=Za (Xb (by omega)) (Za (Xb (by omega)) (Z4 (Xa (by rw[e1,w1]))));unfold arV nrU;rw[← hq];have kgt:∀ b,decide (u/2<a % u)=b→decide (((a:Nat):Int).tmod ((u:Nat):Int)>u64.wrap (((u:Nat):Int).tdiv 2))=b:=fun b hb=>by rw[← hb,e2,e3];exact decide_eq_decide.2 (by omega)
 have keq:∀ b,decide (a % u=u/2)=b→(((a:Nat):Int).tmod ((u:Nat):Int)==u64.wrap (((u:Nat):Int).tdiv 2))=b:=fun b hb=>by
  rw[← hb,e2,e3];have:((((a % u:Nat):Int)==((u/2:Nat):Int)):Bool)=decide (((a % u:Nat):Int)=((u/2:Nat):Int)):=rfl;rw[this];exact decide_eq_decide.2 (by omega)
 by_cases c1:u/2<a % u
 ·rw[Xa c1,Bool.true_or,if_pos rfl];have f:=Z4B l h a t u q d;rw[w2,w3] at f;exact Ze hT f (Za (kgt true (Xa c1)) kb) (by rfl) (by rfl) w
 have kb:=Za (kgt false (Xb c1)) kb;rw[Xb c1,Bool.false_or];by_cases c2:a % u=u/2
 ·have kb:=Za (keq true (Xa c2)) kb;rw[Xa c2,Bool.true_and];cases d with
  | true=>
   rw[Bool.true_or,if_pos rfl];have f:=Z4C l h a t u q;rw[w2,w3] at f;exact Ze hT f kb (by rfl) (by rfl) w
  | false=>
   rw[Bool.false_or];by_cases c3:q % 2=1
   ·rw[Xa c3,if_pos rfl];have f:=Z4D l h a t u q;rw[w2,w3] at f;exact Ze hT f (Za (by rw[eo];exact Xa c3) (Za (show decide ((2:Int)=0)=false from rfl) kb)) (by rfl) (by rfl) w
   ·rw[Xb c3,if_neg (by decide)];have f:=Z4E l h a t u q;rw[w2,w3] at f;exact Ze hT f (Za (by rw[eo];exact Xb c3) (Za (show decide ((2:Int)=0)=false from rfl) kb)) (by rfl) (by rfl) w
 ·rw[Xb c2,Bool.false_and,if_neg (by decide)];have f:=Z4F l h a t u q d;rw[w2,w3] at f;exact Ze hT f (Za (keq false (Xb c2)) kb) (by rfl) (by rfl) w
def Z9T:Ans:=fun vals s=>
 match vals,s with
 | [v,.int .u64 u],.inr (.inr (.inr (.inl true)))::s'=>
  match Z4A v with
  | some (_,_,a,d,_)=>some (arV true a.toNat u.toNat,s',[(nrU a.toNat d u.toNat,true),(Z1c a.toNat u.toNat,true),(decide (0≤a∧0≤u),true)])
  | none=>none
 | [v,.int .u64 u],.inr (.inr (.inr (.inl false)))::s'=>
  match Z4A v with
  | some (_,_,a,d,_)=>some (arV false a.toNat u.toNat,s',[(nrU a.toNat d u.toNat,false),(Z1c a.toNat u.toNat,true),(decide (0≤a∧0≤u),true)])
  | none=>none
 | _,_=>none
theorem ZyV:zw 61 Z9T:=by
 intro vals s v s' lg h hl w;unfold Z9T at h;split at h
 all_goals
  try
   split at h
   ·rename_i u s2 o l hh a d t hv;rw[Zh7 hv];cases h;have l1:=hl _ Xe;have l2:Z1c a.toNat u.toNat=true:=hl _ (Xd _ Xe);obtain⟨l3,l4⟩:=Xc (hl _ (Xd _ (Xd _ Xf)));obtain⟨A,rfl⟩:∃ A:Nat,a=A:=⟨a.toNat,by omega⟩;obtain⟨K,rfl⟩:∃ K:Nat,u=K:=⟨u.toNat,by omega⟩;have:=Ztn l hh t d A K l2 w;have l1:nrU A d K=_:=l1;rw[l1] at this;exact this
   ·cases h
 cases h
theorem Z4G (l h a t n:Int) (d d':Bool):ZB (Zr (Zq prog Zf Zn true) 200 62 [vSp l h a d t,.int .u64 n] [cmp true,cmp d']) (.bool d') [(decide (n≤h),d'),(decide (l≤n),true)]:=by and_intros<;>kernel_rfl
theorem Z4H (l h a t n:Int) (d:Bool):ZB (Zr (Zq prog Zf Zn true) 200 62 [vSp l h a d t,.int .u64 n] [cmp false]) (.bool false) [(decide (l≤n),false)]:=by and_intros<;>kernel_rfl
def Z9U:Ans:=fun vals s=>
 match vals,s with
 | [v,.int .u64 n],.inr (.inr (.inr (.inl b)))::s'=>
  match Z4A v with
  | some (l,h,_,_,_)=>some (.bool b,s',[(decide (l≤n) && decide (n≤h),b)])
  | none=>none
 | _,_=>none
theorem ZyW:zw 62 Z9U:=by
 intro vals s v s' lg h hl w;unfold Z9U at h;split at h
 ·split at h
  ·rename_i n b s2 o l hh a d t hv;rw[Zh7 hv];cases h;have l1:(decide (l≤n) && decide (n≤hh))=b:=hl _ Xf;rw[← l1];by_cases c:l≤n
   ·rw[Xa c,Bool.true_and];exact Ze (Zp Zd) (Z4G l hh a t n d _) (Za rfl (Z4 (Xa c))) (by rfl) (by rfl) w
   ·rw[Xb c,Bool.false_and];exact Ze (Zp Zd) (Z4H l hh a t n d) (Z4 (Xb c)) (by rfl) (by rfl) w
  ·cases h
 ·cases h
def Zv2:Hc:=zd 118 (gT Z9S) hcN
theorem Zp2:HcOk Zv2:=Zt func118 rfl (Zgq ZyU) zx
def Zp3:Con:=alt 42 Z4g Zn
theorem Zlr:ConOk Zp3:=ZE func42 rfl ZiC Zd
theorem ZCn (n t:Int):ZB (ZS (Zk prog Zf Zp3 Zv2) hT0 200 63 [.int .u64 n,.int .i64 t] []) (vDc (trC 48 (dcL n.toNat)) (i64.wrap (i64.wrap (t+(((dcL n.toNat).length:Nat):Int))-1))) [(true,true),(decide ((dcL n.toNat).length≤100000),true),(decide (100≤n∧n<18446744073709551616∧(10:Int)=10),true)]:=by and_intros<;>kernel_rfl
def Z9V:Ans:=fun vals s=>
 match vals with
 | [.int .u64 n,.int .i64 t]=>some (vDc (trR (dcL n.toNat)) (t+(((dcL n.toNat).length:Nat):Int)-1),s,[(decide (100≤n∧n<18446744073709551616∧ -100000≤t∧t≤100000),true)])
 | _=>none
theorem Zh8 (n:Nat):(dcL n).length≤20:=ZdU 20 n
theorem ZyX:Zcx 63 Z9V:=by
 intro vals s v s' lg h hl w hk;unfold Z9V at h;split at h
 ·rename_i n t;cases h;obtain⟨h1,h2,h3,h4⟩:=Xc (hl _ Xf);have f:=ZCn n t;have hlen:=Zh8 n.toNat;rw[Zw (n:=t+(((dcL n.toNat).length:Nat):Int)) (by omega) (by omega),Zw (by omega) (by omega)] at f;exact Zcs (Zh Zlr Zp2) f (Za rfl (Za (Xa (by omega)) (Z4 (Xa ⟨h1,h2,rfl⟩)))) (by rfl) (by rfl) hk
 ·cases h
def Zcd:Con:=alt 60 Z9R (alt 61 Z9T (alt 62 Z9U Zn))
theorem Zto:ConOk Zcd:=ZE func60 rfl ZyT (ZE func61 rfl ZyV (ZE func62 rfl ZyW Zd))
def Zh9:Hc:=zd 63 (gT Z9V) hcN
theorem ZyY:HcOk Zh9:=Zt func63 rfl (Zgq ZyX) zx
theorem ZeE:TabOk (Zk prog Zf Zcd Zh9):=Zh Zto ZyY
def Z7t (F:Func):Code:=cIn (cIn (sP F 3))
def Z1d (F:Func):Code:=cIn (cIn (sP F 5))
theorem ZyZ:f24.body=some (ZZ [sP f24 0,sP f24 1,sP f24 2] (.seq (.block 0 (.loop (Z7t f24))) (.seq (sP f24 4) (.seq (.block 2 (.loop (Z1d f24))) (sK f24 6))))):=by kernel_rfl
def zDc:List Value×TypeId:=([bR [],.int .i64 0],49)
def srM (m:Bool) (c e q l h a:Int) (d:Bool) (t:Int):Hp:=⟨4,[bSp l h a d t,zDc,bPa m c e q,(pwV,pwT)]⟩
def srF (m:Bool) (c e q u:Int):List Value:=[vP m c e q,pO 1,pO 2,pO 3,.int .u64 u]
def srG (m:Bool) (c e q u n f:Int):List Value:=[vP m c e q,pO 1,pO 2,pO 3,.int .u64 u,.int .u64 n,.int .u64 f]
theorem Z4I (m:Bool) (c e q:Int):Zg (evL (Zk prog Zf Zcd Zh9) 200 [sP f24 0,sP f24 1,sP f24 2] ([vP m c e q]++List.replicate 48 undef,hT0,[]) ⟨[],[],[]⟩) 5 44 none (srF m c e q 1) (srM m c e q (sLo q.toNat e (lgS q.toNat e-17)) (sHi q.toNat e (lgS q.toNat e-17)) (sAt q.toNat e (lgS q.toNat e-17)) (sMo q.toNat e (lgS q.toNat e-17)) (lgS q.toNat e-17)) [(Zpk e q,true)]:=by and_intros<;>kernel_rfl
theorem Z9W (m:Bool) (c e q l h a t u:Int) (d:Bool) (g:Nat→Value):Zg (evC (Zk prog Zf Zcd Zh9) 200 false (Z7t f24) (srF m c e q u++tl 44 g,(srM m c e q l h a d t),[cmp true]) ⟨[],[],[]⟩) 5 44 none (srF m c e q (u64.wrap (u*10))) (srM m c e q l h a d t) [(decide (u≤u64.wrap (a.tdiv 10)),true)]:=by and_intros<;>kernel_rfl
theorem Z9X (m:Bool) (c e q l h a t u:Int) (d:Bool) (g:Nat→Value):Zg (evC (Zk prog Zf Zcd Zh9) 200 false (Z7t f24) (srF m c e q u++tl 44 g,(srM m c e q l h a d t),[cmp false]) ⟨[],[],[]⟩) 5 44 (some (some 0)) (srF m c e q u) (srM m c e q l h a d t) [(decide (u≤u64.wrap (a.tdiv 10)),false)]:=by and_intros<;>kernel_rfl
def arN (d:Bool) (a u:Nat):Nat:=if d=true then (a/u+1)*u else a/u*u
def arX (d:Bool) (a u:Nat):Nat:=if d=true then a/u*u else (a/u+1)*u
def lAr (a u:Int) (d b:Bool) (l:Log):Log:=(nrU a.toNat d u.toNat,b)::(Z1c a.toNat u.toNat,true)::(decide (0≤a∧0≤u),true)::l
theorem Z9Y (m:Bool) (c e q l h a t u:Int) (d:Bool) (g:Nat→Value):Zg (evC (Zk prog Zf Zcd Zh9) 200 false (sP f24 4) (srF m c e q u++tl 44 g,(srM m c e q l h a d t),[cmp true]) ⟨[],[],[]⟩) 7 42 none (srG m c e q u ((arN true a.toNat u.toNat:Nat):Int) ((arX true a.toNat u.toNat:Nat):Int)) (srM m c e q l h a d t) (lAr a u d true []):=by and_intros<;>kernel_rfl
theorem Z9Z (m:Bool) (c e q l h a t u:Int) (d:Bool) (g:Nat→Value):Zg (evC (Zk prog Zf Zcd Zh9) 200 false (sP f24 4) (srF m c e q u++tl 44 g,(srM m c e q l h a d t),[cmp false]) ⟨[],[],[]⟩) 7 42 none (srG m c e q u ((arN false a.toNat u.toNat:Nat):Int) ((arX false a.toNat u.toNat:Nat):Int)) (srM m c e q l h a d t) (lAr a u d false []):=by and_intros<;>kernel_rfl
theorem Z4J (m:Bool) (c e q l h a t u n f:Int) (d:Bool) (g:Nat→Value):Zg (evC (Zk prog Zf Zcd Zh9) 200 false (Z1d f24) (srG m c e q u n f++tl 42 g,(srM m c e q l h a d t),[cmp true]) ⟨[],[],[]⟩) 7 42 (some (some 2)) (srG m c e q u n f) (srM m c e q l h a d t) [(decide (l≤n) && decide (n≤h),true)]:=by and_intros<;>kernel_rfl
theorem Z4K (m:Bool) (c e q l h a t u n f:Int) (d:Bool) (g:Nat→Value):Zg (evC (Zk prog Zf Zcd Zh9) 200 false (Z1d f24) (srG m c e q u n f++tl 42 g,(srM m c e q l h a d t),[cmp false,cmp true]) ⟨[],[],[]⟩) 7 42 (some (some 2)) (srG m c e q u n f) (srM m c e q l h a d t) [(decide (l≤f) && decide (f≤h),true),(decide (l≤n) && decide (n≤h),false)]:=by and_intros<;>kernel_rfl
theorem Z4L (m:Bool) (c e q l h a t u n f:Int) (d:Bool) (g:Nat→Value):Zg (evC (Zk prog Zf Zcd Zh9) 200 false (Z1d f24) (srG m c e q u n f++tl 42 g,(srM m c e q l h a d t),[cmp false,cmp false,cmp true]) ⟨[],[],[]⟩) 7 42 none (srG m c e q (u64.wrap (u.tdiv 10)) ((arN true a.toNat (u64.wrap (u.tdiv 10)).toNat:Nat):Int) ((arX true a.toNat (u64.wrap (u.tdiv 10)).toNat:Nat):Int)) (srM m c e q l h a d t) (lAr a (u64.wrap (u.tdiv 10)) d true [(decide (l≤f) && decide (f≤h),false),(decide (l≤n) && decide (n≤h),false)]):=by and_intros<;>kernel_rfl
theorem Z4M (m:Bool) (c e q l h a t u n f:Int) (d:Bool) (g:Nat→Value):Zg (evC (Zk prog Zf Zcd Zh9) 200 false (Z1d f24) (srG m c e q u n f++tl 42 g,(srM m c e q l h a d t),[cmp false,cmp false,cmp false]) ⟨[],[],[]⟩) 7 42 none (srG m c e q (u64.wrap (u.tdiv 10)) ((arN false a.toNat (u64.wrap (u.tdiv 10)).toNat:Nat):Int) ((arX false a.toNat (u64.wrap (u.tdiv 10)).toNat:Nat):Int)) (srM m c e q l h a d t) (lAr a (u64.wrap (u.tdiv 10)) d false [(decide (l≤f) && decide (f≤h),false),(decide (l≤n) && decide (n≤h),false)]):=by and_intros<;>kernel_rfl
theorem ZAa (m:Bool) (c e q l h a t u n f:Int) (d:Bool) (g:Nat→Value):Zg (evC (Zk prog Zf Zcd Zh9) 200 false (sK f24 6) (srG m c e q u n f++tl 42 g,(srM m c e q l h a d t),[cmp true]) ⟨[],[],[]⟩) 4 45 (some none) [vP m c e q,pO 1,pO 2,pO 3] ⟨4,[bSp l h a d t,([bR (trR (dcL n.toNat)),.int .i64 (t+(((dcL n.toNat).length:Nat):Int)-1)],49),bPa m c e q,(pwV,pwT)]⟩ [(decide (100≤n∧n<18446744073709551616∧ -100000≤t∧t≤100000),true),(decide (l≤n) && decide (n≤h),true)]:=by and_intros<;>kernel_rfl
theorem ZAb (m:Bool) (c e q l h a t u n f:Int) (d:Bool) (g:Nat→Value):Zg (evC (Zk prog Zf Zcd Zh9) 200 false (sK f24 6) (srG m c e q u n f++tl 42 g,(srM m c e q l h a d t),[cmp false]) ⟨[],[],[]⟩) 4 45 (some none) [vP m c e q,pO 1,pO 2,pO 3] ⟨4,[bSp l h a d t,([bR (trR (dcL f.toNat)),.int .i64 (t+(((dcL f.toNat).length:Nat):Int)-1)],49),bPa m c e q,(pwV,pwT)]⟩ [(decide (100≤f∧f<18446744073709551616∧ -100000≤t∧t≤100000),true),(decide (l≤n) && decide (n≤h),false)]:=by and_intros<;>kernel_rfl
end Go.Proofs.YtgefjidphfdhdaaGreatDoor
