/-
  TxD, UuZ, TxV, TxE, NumZ, NumY, NumT, Num, Num2, NumX4, NumR4, NumR5, NumF, NumH, NumQu, NumRd, NumRe, NumRf, NumRg, NumRk, NumRm, RpG
-/
import Derived.Test.YtgefjidphfdhdaaGreatDoorG11
import Derived.Lib.Bytealg
import Derived.Laws.RangeAny
namespace Go.Proofs.YtgefjidphfdhdaaGreatDoor.Na
open Go.Proofs.Tryz
open Go.IntKind
open Go.KRun Go.Nt
set_option maxRecDepth 100000
def dC (F:Func):Nat→Code
 | 0=>Zs F
 | n+1=>Z0 (dC F n)
def dP (F:Func):List Code:=[Z1 (dC F 0),Z1 (dC F 1),Z1 (dC F 2),Z1 (dC F 3),Z1 (dC F 4),Z1 (dC F 5)]
def dL (F:Func):Code:=cIn (cIn (Z1 (dC F 6)))
def dE (F:Func):Code:=dC F 7
theorem ZxM:f80.body=some (ZZ (dP f80) (.seq (.block 0 (.loop (dL f80))) (dE f80))):=by kernel_rfl
def Zb1:Con:=alt 135 Z9j Zn
theorem Zs4:ConOk Zb1:=ZE func135 rfl ZxG Zd
def ZfZ:Hc:=zd 128 Zwg (zd 133 gTp (zd 131 ZgP (zd 134 gRv hcN)))
theorem ZxN:HcOk ZfZ:=Zt func128 rfl Zro (Zt func133 rfl Z3n (Zt func131 rfl Zcg (Zt func134 rfl Z3f zx)))
theorem Zhp:TabOk (Zk prog Zf Zb1 ZfZ):=Zh Zs4 ZxN
def cpD (l:List Value) (o n:Nat):List Value:=List.take (n.min n) (List.drop o l)++List.drop (0+n.min n) (List.replicate n (Value.int .u32 0))
def cpC (l:List Value) (o n:Nat):Bool:= !(Zae tR) && !(ro tU) && (o+n.min n).ble l.length && (0+n.min n).ble (List.replicate n (Value.int .u32 0)).length && (List.take (n.min n) (List.drop o l)).all one
def dF (a rest dig p:Value):List Value:=[a,undef,bS [],.nilIface,.nilIface,rest,dig,p]
theorem Z3o (o n c:Nat) (l:List Value):Zg (evL (Zk prog Zf Zb1 ZfZ) 100 (dP f80) ([sl 0 o n c]++List.replicate 45 undef,h1R l,[cmp false,cmp false,at_,at_]) ⟨[],[],[]⟩) 8 38 none (dF (sl 0 o n c) (sl 1 0 n n) Zo undef) (hX [] (cpD l o n) l) [(cpC l o n,true),(ZO 4 n n,true),((n:Int)==0,false),(zZ (h1R l) (some ⟨0,o,none⟩) n c,true),(ZU (Zm (h1R l) (some ⟨0,o,none⟩) n),false)]:=by and_intros<;>kernel_rfl
theorem Z3p (p:Option Addr) (n c:Nat) (h:Hp):Zg (evC (Zk prog Zf Zb1 ZfZ) 100 false (Zs f80) ([.slice p n c]++List.replicate 45 undef,h,[cmp true]) ⟨[],[],[]⟩) 4 42 (some none) [.slice p n c,undef,bS [],Zdd 1] h [(zZ h p n c,true),(ZU (Zm h p n),true)]:=by and_intros<;>kernel_rfl
theorem Zoc (p:Option Addr) (n c:Nat) (h:Hp):Zg (evC (Zk prog Zf Zb1 ZfZ) 100 false (Zs f80) ([.slice p n c]++List.replicate 45 undef,h,[cmp false,cmp true]) ⟨[],[],[]⟩) 4 42 (some none) [.slice p n c,undef,bS [48],.nilIface] h [((n:Int)==0,true),(zZ h p n c,true),(ZU (Zm h p n),false)]:=by and_intros<;>kernel_rfl
def pNx (p:Int):Nat→Int
 | 0=>p
 | j+1=>u32.wrap ((pNx p j).tdiv 10)
def dgV (p:Int):Value:=ub (u8.wrap (u32.wrap (48+p.tmod 10)))
def apB (S:List Value) (p:Int):Nat→List Value
 | 0=>S
 | j+1=>apB S p j++[dgV (pNx p j)]
def tpP (S:List Value) (n:Nat):Int:=vN (Zz S 0 n) % 1000000000
def apL (S:List Value) (p:Int) (n j:Nat):Bool×Bool:=(zY tBy (apB S p j,tBy) ([dgV (pNx p j)],tBy) n 0 1,true)
def trS (S:List Value) (n:Nat):Nat:=Zi (Zz (tpS S n) 0 n)
theorem Z3q (n c:Nat) (a w:Value) (S la:List Value) (g:Nat→Value):Zg (evC (Zk prog Zf Zb1 ZfZ) 100 false (dL f80) (dF a (sl 1 0 n c) Zo w++tl 38 g,hX [] S la,[cmp true,cmp true,cmp false,cmp true,at_,cmp true,at_,cmp true,at_,cmp true,at_,cmp true,at_,cmp true,at_,cmp true,at_,cmp true,at_,cmp false]) ⟨[],[],[]⟩) 8 38 none (dF a (sl 1 0 (trS S n) c) (.slice (some ⟨19,0,none⟩) 9 grown) (uu (pNx (tpP S n) 9))) ⟨20,[(apB [] (tpP S n) 9,tBy),([dgV (pNx (tpP S n) 8)],tBy),([],2*za),([dgV (pNx (tpP S n) 7)],tBy),([],2*za),([dgV (pNx (tpP S n) 6)],tBy),([],2*za),([dgV (pNx (tpP S n) 5)],tBy),([],2*za),([dgV (pNx (tpP S n) 4)],tBy),([],2*za),([dgV (pNx (tpP S n) 3)],tBy),([],2*za),([dgV (pNx (tpP S n) 2)],tBy),([],2*za),([dgV (pNx (tpP S n) 1)],tBy),([],2*za),([dgV (pNx (tpP S n) 0)],tBy),(tpS S n,tU),(la,tR)]⟩ [(Z7 tU (tpS S n) 0 n c,true),(false,false),apL [] (tpP S n) 8 8,(true,true),apL [] (tpP S n) 7 7,(true,true),apL [] (tpP S n) 6 6,(true,true),apL [] (tpP S n) 5 5,(true,true),apL [] (tpP S n) 4 4,(true,true),apL [] (tpP S n) 3 3,(true,true),apL [] (tpP S n) 2 2,(true,true),apL [] (tpP S n) 1 1,(true,true),(false,false),(true,true),(Nat.beq tU tU,true),(Nat.beq tR tR,true),(Z7 tU S 0 n c,true),(la.all still,true),(([]:List (List Value×TypeId)).all fun x=>x.1.all still,true),(decide ((n:Int)>0),true)]:=by and_intros<;>kernel_rfl
theorem Z3r (n c m:Nat) (a w:Value) (D S la:List Value) (g:Nat→Value):Zg (evC (Zk prog Zf Zb1 ZfZ) 100 false (dL f80) (dF a (sl 1 0 n c) (.slice (some ⟨2,0,none⟩) m grown) w++tl 38 g,hX [(D,tBy)] S la,[cmp true,cmp true,at_,cmp true,at_,cmp true,at_,cmp true,at_,cmp true,at_,cmp true,at_,cmp true,at_,cmp true,at_,cmp true,at_,cmp false]) ⟨[],[],[]⟩) 8 38 none (dF a (sl 1 0 (trS S n) c) (.slice (some ⟨20,0,none⟩) (m+9) grown) (uu (pNx (tpP S n) 9))) ⟨21,[(apB D (tpP S n) 9,tBy),([dgV (pNx (tpP S n) 8)],tBy),([],2*za),([dgV (pNx (tpP S n) 7)],tBy),([],2*za),([dgV (pNx (tpP S n) 6)],tBy),([],2*za),([dgV (pNx (tpP S n) 5)],tBy),([],2*za),([dgV (pNx (tpP S n) 4)],tBy),([],2*za),([dgV (pNx (tpP S n) 3)],tBy),([],2*za),([dgV (pNx (tpP S n) 2)],tBy),([],2*za),([dgV (pNx (tpP S n) 1)],tBy),([],2*za),([dgV (pNx (tpP S n) 0)],tBy),([],2*za),(tpS S n,tU),(la,tR)]⟩ [(Z7 tU (tpS S n) 0 n c,true),(false,false),apL D (tpP S n) (m+8) 8,(true,true),apL D (tpP S n) (m+7) 7,(true,true),apL D (tpP S n) (m+6) 6,(true,true),apL D (tpP S n) (m+5) 5,(true,true),apL D (tpP S n) (m+4) 4,(true,true),apL D (tpP S n) (m+3) 3,(true,true),apL D (tpP S n) (m+2) 2,(true,true),apL D (tpP S n) (m+1) 1,(true,true),apL D (tpP S n) m 0,(true,true),(Nat.beq tU tU,true),(Nat.beq tR tR,true),(Z7 tU S 0 n c,true),(la.all still,true),(([(D,tBy)]:List (List Value×TypeId)).all fun x=>x.1.all still,true),(decide ((n:Int)>0),true)]:=by and_intros<;>kernel_rfl
theorem Z3s (n c:Nat) (a d w:Value) (h:Hp) (g:Nat→Value):Zg (evC (Zk prog Zf Zb1 ZfZ) 100 false (dL f80) (dF a (sl 1 0 n c) d w++tl 38 g,h,[cmp false]) ⟨[],[],[]⟩) 8 38 (some (some 0)) (dF a (sl 1 0 n c) d w) h [(decide ((n:Int)>0),false)]:=by and_intros<;>kernel_rfl
theorem Z3t (m:Nat) (a r w:Value) (b:ByteArray) (D:List Value) (Y:List Value×TypeId) (la:List Value) (g:Nat→Value):Zg (evC (Zk prog Zf Zb1 ZfZ) 100 false (dE f80) (dF a r (.slice (some ⟨2,0,none⟩) m grown) w++tl 38 g,hB2 D Y la,[val (.string b)]) ⟨[],[],[]⟩) 4 42 (some none) [a,undef,bS (trL 48 b.data.toList),.nilIface] (hB2 D.reverse Y la) [(decide ((48:UInt8)=48),true),(ZgG (D.reverse,tBy) 0 m b,true),(Y.1.all still,true),(Nat.beq tBy tBy,true),(Nat.beq tR tR,true),(Nat.beq m D.length,true),(isB D,true),(Nat.beq grown grown,true),(la.all still,true),(Nat.blt m 4611686018427387904,true)]:=by and_intros<;>kernel_rfl
end Go.Proofs.YtgefjidphfdhdaaGreatDoor.Na
namespace Go.Proofs.YtgefjidphfdhdaaGreatDoor
open Go.KRun Go.Nt
set_option maxRecDepth 100000
theorem Ziv (W:List Int) (k:Nat):Zz (wU W) 0 k=W.take k:=by
 unfold Zz ZbL wU;rw[List.drop_zero,← List.map_take,List.map_map];exact (List.map_congr_left fun x _=>rfl).trans (List.map_id' _)
def asc (x:Int):Int:=48+x
def ZuS (V:Nat):List Int:=if V=0 then [0] else (db 10 V).reverse
def Zac (V:Nat):List UInt8:=(ZuS V).map fun x=>UInt8.ofNat (asc x).toNat
end Go.Proofs.YtgefjidphfdhdaaGreatDoor
namespace Go.Proofs.YtgefjidphfdhdaaGreatDoor.Na
open Go.IntKind
open Go.KRun Go.Nt
set_option maxRecDepth 100000
theorem Zod {p:Nat}(hp:p<4294967296):∀ j,pNx (p:Nat) j=((p/10^j:Nat):Int)
 | 0=>by simp [pNx]
 | j+1=>by
  have h1:p/10^j≤p:=Nat.div_le_self _ _;rw[show pNx (p:Nat) (j+1)=u32.wrap ((pNx (p:Nat) j).tdiv 10) from rfl,Zod hp j,Nat.pow_succ,← Nat.div_div_eq_div_mul];generalize p/10^j=q at*;rw[Int.tdiv_eq_ediv_of_nonneg (by omega)];simp [IntKind.wrap,IntKind.bits,IntKind.signed];omega
theorem ZuT {p:Nat}:dgV (p:Nat)=ub (asc ((p % 10:Nat):Int)):=by
 have e:((p:Nat):Int).tmod 10=((p % 10:Nat):Int):=by rw[Int.tmod_eq_emod_of_nonneg (by omega)];omega
 unfold dgV asc;rw[e];congr 1;simp [IntKind.wrap,IntKind.bits,IntKind.signed];omega
theorem Zoe {p:Nat}(hp:p<4294967296) (D:List Int):∀ j,apB (wB (D.map asc)) (p:Nat) j=wB ((D++ld j p).map asc)
 | 0=>by simp [apB,ld]
 | j+1=>by
  rw[show apB (wB (D.map asc)) (p:Nat) (j+1)=apB (wB (D.map asc)) (p:Nat) j++[dgV (pNx (p:Nat) j)] from rfl,Zoe hp D j,Zod hp j,ZuT,Zob];simp [wB]
theorem Zs5 {L:List Int}{x:Int}{k:Nat}(hk:k=L.length) (hb:k<1073741824):zY tBy (wB L,tBy) ([ub x],tBy) k 0 1=true:=by
 subst hk;unfold zY;simp only[Xh,Bool.not_eq_true',Zho];refine⟨⟨⟨⟨⟨⟨⟨⟨Nat.beq_refl _,Nat.ble_eq_true_of_le (by omega)⟩,by kernel_rfl⟩,by kernel_rfl⟩,by kernel_rfl⟩,by kernel_rfl⟩,by rfl⟩,by rfl⟩,by rfl⟩
theorem ZuU {p:Nat}(hp:p<4294967296) (D:List Int) {m j:Nat}(hm:m=D.length+j) (hb:m<1073741824):(apL (wB (D.map asc)) (p:Nat) m j).1=(apL (wB (D.map asc)) (p:Nat) m j).2:=by
 unfold apL;simp only;rw[Zoe hp D j,Zod hp j,ZuT];exact Zs5 (by simp [ZjG,hm]) hb
theorem Zga (L:List Int):(wB L).all still=true:=by
 unfold wB;rw[List.all_eq_true];intro v hv;obtain⟨x,_,rfl⟩:=List.mem_map.1 hv;rfl
theorem Z9n {k V:Nat}(h:10^(9*k)≤V) {e:Nat}(he:e=262144) (hV:V<2^e):k<9040:=by
 have h1:(2:Nat)^(29*k)≤10^(9*k):=by
  rw[Nat.pow_mul,Nat.pow_mul];exact Nat.pow_le_pow_left (by decide) k
 rcases Nat.lt_or_ge k 9040 with h2 | h2
 ·exact h2
 ·exfalso
  have h3:(2:Nat)^e≤2^(29*k):=Nat.pow_le_pow_right (by omega) (by omega);omega
def dX (k:Nat) (D:List Int):List (List Value×TypeId):=if k=0 then [] else [(wB (D.map asc),tBy)]
def dS (k:Nat) (D:List Int):Value:=if k=0 then Zo else .slice (some ⟨2,0,none⟩) D.length grown
def Z7o (a:Value) (la:List Value) (N V:Nat) (r:Nat) (y:Lf):Prop:=∃ (k:Nat) (D W Z:List Int) (w:Value) (g:Nat→Value),y.1=dF a (sl 1 0 W.length N) (dS k D) w++tl 38 g∧y.2.1=hX (dX k D) (wU (W++Z)) la∧D.length=9*k∧(∀ x∈D,Dg 10 x)∧wds (W++Z)∧Zi W=W.length∧(W++Z).length=N∧vb 10 D+10^(9*k)*vb 4294967296 W=V∧r=vb 4294967296 W∧k≤9040
theorem ZjH {W:List Int}(hw:wds W) (ht:Zi W=W.length):0<vb 4294967296 W↔0<W.length:=by
 have hd:db 4294967296 (vb 4294967296 W)=W:=ZgY (by omega) ⟨fun x hx=>⟨(hw x hx).1,by have:=(hw x hx).2;omega⟩,ht⟩;constructor
 ·intro h;rcases Nat.eq_zero_or_pos W.length with h0 | h0
  ·rw[List.length_eq_zero_iff.1 h0] at h;exact absurd h (by decide)
  ·exact h0
 ·intro h;rcases Nat.eq_zero_or_pos (vb 4294967296 W) with h0 | h0
  ·rw[h0,ze] at hd;rw[← hd] at h;exact absurd h (by decide)
  ·exact h0
theorem Z9o {W:List Int}(h:wds W):∀ x∈W,Dg 4294967296 x:=fun x hx=>⟨(h x hx).1,by have:=(h x hx).2;omega⟩
theorem Zs6 {W Z:List Int}(h:wds (W++Z)):tpP (wU (W++Z)) W.length=((vb 4294967296 W % 1000000000:Nat):Int)∧∃ Z',tpS (wU (W++Z)) W.length=wU (db 4294967296 (vb 4294967296 W/1000000000)++Z')∧trS (wU (W++Z)) W.length=(db 4294967296 (vb 4294967296 W/1000000000)).length∧wds (db 4294967296 (vb 4294967296 W/1000000000)++Z')∧(db 4294967296 (vb 4294967296 W/1000000000)++Z').length=(W++Z).length:=by
 have hW:wds W:=fun x hx=>h x (List.mem_append_left _ hx);have hZ:wds Z:=fun x hx=>h x (List.mem_append_right _ hx);have ec:Zz (wU (W++Z)) 0 W.length=W:=by rw[Ziv,List.take_left]
 have ev:=ZkP hW;have e1:vN W/1000000000=((vb 4294967296 W/1000000000:Nat):Int):=by rw[ev];omega
 have lt:vb 4294967296 W<4294967296^W.length:=Zby (by omega) W (Z9o hW);have hq:vb 4294967296 W/1000000000<4294967296^W.length:=Nat.lt_of_le_of_lt (Nat.div_le_self _ _) lt;have hqi:((vb 4294967296 W/1000000000:Nat):Int)<(4294967296:Int)^W.length:=by
  have h1:=Int.ofNat_lt.2 hq;rw[Int.natCast_pow] at h1;exact h1
 have eS:tpS (wU (W++Z)) W.length=wU (dg W.length ((vb 4294967296 W/1000000000:Nat):Int)++Z):=by
  unfold tpS;rw[ec,e1];have:(wU (W++Z)).drop W.length=wU Z:=by unfold wU;rw[List.map_append,List.drop_left' (by simp)]
  rw[this];unfold wU;rw[List.map_append]
 have hdg:wds (dg W.length ((vb 4294967296 W/1000000000:Nat):Int)):=Zba _ _;have htk:=ZmV (m:=W.length) (V:=vb 4294967296 W/1000000000) hqi;have eT:trS (wU (W++Z)) W.length=(db 4294967296 (vb 4294967296 W/1000000000)).length:=by
  unfold trS;rw[eS,Ziv,List.take_left' (ZW _ _),← htk,List.length_take,ZW];have:=z7 (dg W.length ((vb 4294967296 W/1000000000:Nat):Int));rw[ZW] at this;omega
 have eD:dg W.length ((vb 4294967296 W/1000000000:Nat):Int)=db 4294967296 (vb 4294967296 W/1000000000)++(dg W.length ((vb 4294967296 W/1000000000:Nat):Int)).drop (Zi (dg W.length ((vb 4294967296 W/1000000000:Nat):Int))):=by
  conv=>lhs;rw[← List.take_append_drop (Zi (dg W.length ((vb 4294967296 W/1000000000:Nat):Int))) (dg W.length ((vb 4294967296 W/1000000000:Nat):Int))]
  rw[htk]
 refine⟨?_,(dg W.length ((vb 4294967296 W/1000000000:Nat):Int)).drop (Zi (dg W.length ((vb 4294967296 W/1000000000:Nat):Int)))++Z,?_,eT,?_,?_⟩
 ·unfold tpP;rw[ec,ev];omega
 ·rw[eS,← List.append_assoc,← eD]
 ·rw[← List.append_assoc,← eD];exact Zam hdg hZ
 ·rw[← List.append_assoc,← eD];simp [ZW]
end Go.Proofs.YtgefjidphfdhdaaGreatDoor.Na
namespace Go.Rn
def upR (m:Int) (neg odd:Bool) (c:Int):Bool:=
 if c=0 then false else if m=2 then false else if m=3 then !neg else if m=4 then neg else if m=1 then decide (2≤c) else decide (2<c) || (decide (c=2) && odd)
def Zad (r P:Nat):Int:=if r=0 then 0 else if 2*r<P then 1 else if 2*r=P then 2 else 3
def odd (q:Nat):Bool:=decide (q % 2=1)
def rq (m:Int) (neg:Bool) (T k:Nat):Nat:=T/2^k+(if upR m neg (odd (T/2^k)) (Zad (T % 2^k) (2^k))=true then 1 else 0)
def toQ (m:Int) (neg:Bool) (T:Nat) (E e:Int):Nat:=if e≤E then T*2^(E-e).toNat else rq m neg T (e-E).toNat
def toL (T:Nat) (E e:Int):Bool:=if e≤E then false else decide (T % 2^(e-E).toNat≠0)
def lgN (T:Nat) (E:Int):Int:=E+(bitLen T:Nat)-1
def zH (T:Nat) (E:Int):Int:=if lgN T E-52≤ -1074 then -1074 else lgN T E-52
def p0 (m:Int) (neg:Bool) (T:Nat) (E:Int):Int:=(zH T E+1074)*4503599627370496+(toQ m neg T E (zH T E):Nat)
def Ziw (m:Int) (neg:Bool) (T:Nat) (E:Int):Bool:=if lgN T E= -1023 then decide (toQ m neg T E (-1075)<9007199254740992) else decide (lgN T E< -1022)
def bey (m:Int) (neg:Bool):Int:=if upR m neg true 3=true then 9218868437227405312 else 9218868437227405311
def rnP (m:Int) (neg:Bool) (T:Nat) (E:Int):Int:=if T=0 then 0 else if 9218868437227405312≤p0 m neg T E then bey m neg else p0 m neg T E
def rnF (m:Int) (neg:Bool) (T:Nat) (E:Int):Int:=if T=0 then 0 else if 9218868437227405312≤p0 m neg T E then 20 else if toL T E (zH T E)=true then (if Ziw m neg T E=true then 24 else 16) else 0
def swM (m:Int):Int:=if m=3 then 4 else if m=4 then 3 else m
theorem Zof (m:Int) (neg o:Bool) (c:Int):upR (swM m) (!neg) o c=upR m neg o c:=by
 unfold upR swM;by_cases h3:m=3
 ·subst h3;simp
 ·by_cases h4:m=4
  ·subst h4;simp
  ·simp [h3,h4]
theorem Zog (m:Int) (neg:Bool) (T:Nat) (E e:Int):toQ (swM m) (!neg) T E e=toQ m neg T E e:=by
 unfold toQ rq;simp only[Zof]
theorem ZxO (m:Int) (neg:Bool) (T:Nat) (E:Int):rnP (swM m) (!neg) T E=rnP m neg T E:=by
 unfold rnP p0 bey;simp only[Zof,Zog]
theorem ZxP (m:Int) (neg:Bool) (T:Nat) (E:Int):rnF (swM m) (!neg) T E=rnF m neg T E:=by
 unfold rnF p0 Ziw;simp only[Zog]
theorem Zaz {T:Nat}(h:T≠0):1≤bitLen T:=by unfold bitLen;rw[if_neg h];omega
theorem Za2 {T k:Nat}(h0:2^k≤T) (h1:T<2^(k+1)):bitLen T=k+1:=by
 have hp:0<2^k:=Nat.pow_pos (by omega);obtain⟨a1,a2⟩:=bitLen_spec T;have a2:=a2 (by omega);have a3:=Zaz (show T≠0 by omega);rcases Nat.lt_or_ge (bitLen T) (k+1) with h | h
 ·have:=Nat.pow_le_pow_right (show 0<2 by omega) (show bitLen T≤k by omega);omega
 ·rcases Nat.lt_or_ge (k+1) (bitLen T) with h' | h'
  ·have:=Nat.pow_le_pow_right (show 0<2 by omega) (show k+1≤bitLen T-1 by omega);omega
  ·omega
theorem len_le {T k:Nat}(h:T<2^k):bitLen T≤k:=by
 by_cases h0:T=0
 ·subst h0;simp [bitLen]
 ·have a2:=(bitLen_spec T).2 h0;rcases Nat.lt_or_ge k (bitLen T) with h' | h'
  ·have:=Nat.pow_le_pow_right (show 0<2 by omega) (show k≤bitLen T-1 by omega);omega
  ·exact h'
theorem Ze6 {T k:Nat}(h:2^k≤T):k+1≤bitLen T:=by
 have a1:=(bitLen_spec T).1;rcases Nat.lt_or_ge (bitLen T) (k+1) with h' | h'
 ·have:=Nat.pow_le_pow_right (show 0<2 by omega) (show bitLen T≤k by omega);omega
 ·exact h'
theorem ZxQ {T:Nat}(h:T≠0) (j:Nat):bitLen (T*2^j)=bitLen T+j:=by
 have hp:0<2^j:=Nat.pow_pos (by omega);obtain⟨a1,a2⟩:=bitLen_spec T;have a2:=a2 h;have a3:=Zaz h;have e:bitLen T+j=(bitLen T-1+j)+1:=by omega
 rw[e];apply Za2
 ·rw[Nat.pow_add];exact Nat.mul_le_mul_right _ a2
 ·rw[show bitLen T-1+j+1=bitLen T+j by omega,Nat.pow_add];exact Nat.mul_lt_mul_of_pos_right a1 hp
theorem Zs7 {T U:Nat}(h:T≤U):bitLen T≤bitLen U:=len_le (Nat.lt_of_le_of_lt h (bitLen_spec U).1)
theorem Zs8 (m:Int) (neg o:Bool):upR m neg o 0=false:=by simp [upR]
theorem Zle (P:Nat):Zad 0 P=0:=by simp [Zad]
theorem Zs9 (r P:Nat):0≤Zad r P∧Zad r P≤3:=by unfold Zad;split<;>(try split)<;>(try split)<;>omega
theorem Zoh {r P:Nat}:Zad r P=0↔r=0:=by
 unfold Zad;split
 ·simp_all
 ·rename_i h;simp only[h,iff_false];split<;>(try split)<;>omega
theorem Zlf {r s P:Nat}(h:r≤s):Zad r P≤Zad s P:=by
 unfold Zad;by_cases h0:r=0
 ·rw[if_pos h0];split<;>(try split)<;>(try split)<;>omega
 ·rw[if_neg h0,if_neg (show ¬ s=0 by omega)];split<;>(try split)<;>(try split)<;>(try split)<;>omega
theorem Zix (r P j:Nat):Zad (r*2^j) (P*2^j)=Zad r P:=by
 have hp:0<2^j:=Nat.pow_pos (by omega);unfold Zad;have e0:(r*2^j=0)↔r=0:=by rw[Nat.mul_eq_zero];omega
 have e1:(2*(r*2^j)<P*2^j)↔2*r<P:=by rw[← Nat.mul_assoc];exact Nat.mul_lt_mul_right hp
 have e2:(2*(r*2^j)=P*2^j)↔2*r=P:=by rw[← Nat.mul_assoc];exact Nat.mul_left_inj (by omega)
 simp only[e0,e1,e2]
theorem ZsA {m:Int}{neg o:Bool}{c d:Int}(h0:0≤c) (h:c≤d) (hu:upR m neg o c=true):upR m neg o d=true:=by
 unfold upR at*;by_cases hc:c=0
 ·rw[if_pos hc] at hu;cases hu
 ·rw[if_neg hc] at hu;rw[if_neg (show ¬ d=0 by omega)];by_cases h2:m=2
  ·rw[if_pos h2] at hu;cases hu
  ·rw[if_neg h2] at hu ⊢;by_cases h3:m=3
   ·rw[if_pos h3] at hu ⊢;exact hu
   ·rw[if_neg h3] at hu ⊢;by_cases h4:m=4
    ·rw[if_pos h4] at hu ⊢;exact hu
    ·rw[if_neg h4] at hu ⊢;by_cases h1:m=1
     ·rw[if_pos h1] at hu ⊢;simp only[Xi] at*;omega
     ·rw[if_neg h1] at hu ⊢;simp only[Bool.or_eq_true,Xh,Xi] at*;rcases hu with hu | ⟨hu,ho⟩
      ·left;omega
      ·by_cases hd:d=2
       ·right;exact⟨hd,ho⟩
       ·left;omega
theorem ZsB (m:Int) (neg:Bool) (T k:Nat):T/2^k≤rq m neg T k∧rq m neg T k≤T/2^k+1:=by unfold rq;split<;>omega
theorem Zgb {m:Int}{neg:Bool}{T k:Nat}(h:T % 2^k=0):rq m neg T k=T/2^k:=by
 unfold rq;rw[h,Zle,Zs8];simp
theorem ZsC (m:Int) (neg:Bool) (T k j:Nat):rq m neg (T*2^j) (k+j)=rq m neg T k:=by
 have hp:0<2^j:=Nat.pow_pos (by omega);unfold rq;rw[Nat.pow_add,Nat.mul_div_mul_right _ _ hp,Nat.mul_mod_mul_right,Zix]
theorem ZxR {m:Int}{neg:Bool}{T U:Nat}(k:Nat) (h:T≤U):rq m neg T k≤rq m neg U k:=by
 have hp:0<2^k:=Nat.pow_pos (by omega);have hd:T/2^k≤U/2^k:=Nat.div_le_div_right h;have b1:=ZsB m neg T k;have b2:=ZsB m neg U k;by_cases he:T/2^k=U/2^k
 ·have m1:=Nat.div_add_mod T (2^k);have m2:=Nat.div_add_mod U (2^k);have hr:T % 2^k≤U % 2^k:=by rw[he] at m1;omega
  unfold rq;rw[he];by_cases hu:upR m neg (odd (U/2^k)) (Zad (T % 2^k) (2^k))=true
  ·rw[if_pos hu,if_pos (ZsA (Zs9 _ _).1 (Zlf hr) hu)];omega
  ·rw[if_neg hu];split<;>omega
 ·omega
theorem Zhq (m:Int) (neg:Bool) (T j:Nat) (E e:Int):toQ m neg (T*2^j) (E-j) e=toQ m neg T E e:=by
 unfold toQ;by_cases h1:e≤E
 ·rw[if_pos h1];by_cases h2:e≤E-j
  ·rw[if_pos h2,Nat.mul_assoc,← Nat.pow_add];congr 2;omega
  ·rw[if_neg h2];have ej:j=(E-e).toNat+(e-(E-j)).toNat:=by omega
   have e1:T*2^j=T*2^(E-e).toNat*2^(e-(E-j)).toNat:=by rw[Nat.mul_assoc,← Nat.pow_add,← ej]
   have hp:0<2^(e-(E-j)).toNat:=Nat.pow_pos (by omega);rw[e1,Zgb (Nat.mul_mod_left _ _),Nat.mul_div_cancel _ hp]
 ·rw[if_neg h1,if_neg (by omega),show (e-(E-j)).toNat=(e-E).toNat+j by omega,ZsC]
theorem Zoi (T j:Nat) (E e:Int):toL (T*2^j) (E-j) e=toL T E e:=by
 have hp:0<2^j:=Nat.pow_pos (by omega);unfold toL;by_cases h1:e≤E
 ·rw[if_pos h1];by_cases h2:e≤E-j
  ·rw[if_pos h2]
  ·rw[if_neg h2];have ej:j=(E-e).toNat+(e-(E-j)).toNat:=by omega
   have e1:T*2^j=T*2^(E-e).toNat*2^(e-(E-j)).toNat:=by rw[Nat.mul_assoc,← Nat.pow_add,← ej]
   rw[e1,Nat.mul_mod_left];simp
 ·rw[if_neg h1,if_neg (by omega),show (e-(E-j)).toNat=(e-E).toNat+j by omega,Nat.pow_add,Nat.mul_mod_mul_right];congr 1;rw[ne_eq,ne_eq,Nat.mul_eq_zero];simp only[eq_iff_iff];omega
theorem Zhr {T:Nat}(h:T≠0) (j:Nat) (E:Int):lgN (T*2^j) (E-j)=lgN T E:=by
 unfold lgN;rw[ZxQ h];omega
theorem Zfs {T:Nat}(h:T≠0) (j:Nat) (E:Int):zH (T*2^j) (E-j)=zH T E:=by unfold zH;rw[Zhr h]
theorem ZjI {T:Nat}(h:T≠0) (m:Int) (neg:Bool) (j:Nat) (E:Int):p0 m neg (T*2^j) (E-j)=p0 m neg T E:=by unfold p0;rw[Zfs h,Zhq]
theorem Zlg {T:Nat}(h:T≠0) (m:Int) (neg:Bool) (j:Nat) (E:Int):Ziw m neg (T*2^j) (E-j)=Ziw m neg T E:=by unfold Ziw;rw[Zhr h,Zhq]
theorem ZjJ {T:Nat}(j:Nat):(T*2^j=0)=(T=0):=by
 have hp:0<2^j:=Nat.pow_pos (by omega);rw[Nat.mul_eq_zero];simp only[eq_iff_iff];omega
theorem ZbZ (m:Int) (neg:Bool) (T j:Nat) (E:Int):rnP m neg (T*2^j) (E-j)=rnP m neg T E:=by
 unfold rnP;simp only[ZjJ];by_cases h:T=0
 ·rw[if_pos h,if_pos h]
 ·rw[if_neg h,if_neg h,ZjI h]
theorem Ze7 (m:Int) (neg:Bool) (T j:Nat) (E:Int):rnF m neg (T*2^j) (E-j)=rnF m neg T E:=by
 unfold rnF;simp only[ZjJ];by_cases h:T=0
 ·rw[if_pos h,if_pos h]
 ·rw[if_neg h,if_neg h,ZjI h,Zlg h,Zfs h,Zoi]
end Go.Rn
namespace Go.Rn
open Go.Pt
theorem Zoj {m:Int}{neg:Bool}{T:Nat}{E e:Int}{n:Nat}(h:(bitLen T:Int)+(E-e)≤n):toQ m neg T E e≤2^n:=by
 have a1:=(bitLen_spec T).1;unfold toQ;by_cases he:e≤E
 ·rw[if_pos he];have hp:0<2^(E-e).toNat:=Nat.pow_pos (by omega);have:=Nat.mul_le_mul_right (2^(E-e).toNat) (Nat.le_of_lt a1);rw[← Nat.pow_add] at this;have h2:=Nat.pow_le_pow_right (show 0<2 by omega) (show bitLen T+(E-e).toNat≤n by omega);omega
 ·rw[if_neg he];have b:=(ZsB m neg T (e-E).toNat).2;have h2:=Nat.pow_le_pow_right (show 0<2 by omega) (show bitLen T≤n+(e-E).toNat by omega);have h3:T/2^(e-E).toNat<2^n:=by
   apply Nat.div_lt_of_lt_mul;rw[Nat.pow_add,Nat.mul_comm] at h2;omega
  omega
theorem ZuV {m:Int}{neg:Bool}{T:Nat}{E e:Int}{n:Nat}(hT:T≠0) (h:(n:Int)+1≤(bitLen T:Int)+(E-e)):2^n≤toQ m neg T E e:=by
 have a2:=(bitLen_spec T).2 hT;have a3:=Zaz hT;unfold toQ;by_cases he:e≤E
 ·rw[if_pos he];have:=Nat.mul_le_mul_right (2^(E-e).toNat) a2;rw[← Nat.pow_add] at this;have h2:=Nat.pow_le_pow_right (show 0<2 by omega) (show n≤bitLen T-1+(E-e).toNat by omega);omega
 ·rw[if_neg he];have b:=(ZsB m neg T (e-E).toNat).1;have hp:0<2^(e-E).toNat:=Nat.pow_pos (by omega);have h2:=Nat.pow_le_pow_right (show 0<2 by omega) (show n+(e-E).toNat≤bitLen T-1 by omega);have h3:2^n≤T/2^(e-E).toNat:=by
   rw[Nat.le_div_iff_mul_le hp,← Nat.pow_add];omega
  omega
theorem ZjK (m:Int) (neg:Bool) (T:Nat) (E:Int):toQ m neg T E (zH T E)≤9007199254740992:=by
 refine Zoj (n:=53) ?_;unfold zH lgN;split<;>omega
theorem ZjL {m:Int}{neg:Bool}{T:Nat}{E:Int}(hT:T≠0) (h: -1074≤lgN T E-52):4503599627370496≤toQ m neg T E (zH T E):=by
 refine ZuV (n:=52) hT ?_;unfold zH lgN at*;split<;>omega
theorem ZsD {m:Int}{neg:Bool}{T U:Nat}{E:Int}(e:Int) (h:T≤U):toQ m neg T E e≤toQ m neg U E e:=by
 unfold toQ;split
 ·exact Nat.mul_le_mul_right _ h
 ·exact ZxR _ h
theorem ZsE {T U:Nat}(E:Int) (h:T≤U):lgN T E≤lgN U E:=by
 have:=Zs7 h;unfold lgN;omega
theorem ZxS {m:Int}{neg:Bool}{T U:Nat}{E:Int}(hT:T≠0) (h:T≤U):p0 m neg T E≤p0 m neg U E:=by
 have hl:=ZsE E h;unfold p0;by_cases he:zH T E=zH U E
 ·rw[he];have:=ZsD (m:=m) (neg:=neg) (E:=E) (zH U E) h;omega
 ·have h1:=ZjK m neg T E;have h3: -1074≤lgN U E-52∧zH T E+1≤zH U E:=by
   unfold zH at he ⊢;split at he<;>split at he<;>(try split)<;>(try split)<;>omega
  have h2:=ZjL (m:=m) (neg:=neg) (T:=U) (E:=E) (by omega) h3.1;omega
theorem Zgc (T:Nat) (E:Int): -1074≤zH T E:=by unfold zH;split<;>omega
theorem Zok (m:Int) (neg:Bool) (T:Nat) (E:Int):0≤p0 m neg T E:=by
 have:=Zgc T E;unfold p0;omega
theorem ZuW (m:Int) (neg:Bool):bey m neg=9218868437227405312∨bey m neg=9218868437227405311:=by unfold bey;split<;>simp
theorem Z3u (m:Int) (neg:Bool) (T:Nat) (E:Int):0≤rnP m neg T E∧rnP m neg T E≤9218868437227405312:=by
 have h:=Zok m neg T E;have hb:=ZuW m neg;unfold rnP;split
 ·omega
 ·split<;>omega
theorem Za3 {m:Int}{neg:Bool}{T U:Nat}{E:Int}(h:T≤U):rnP m neg T E≤rnP m neg U E:=by
 have hU:=Z3u m neg U E;by_cases hT:T=0
 ·unfold rnP at*;rw[if_pos hT];exact hU.1
 ·have hp:=ZxS (m:=m) (neg:=neg) (E:=E) hT h;have hb:=ZuW m neg;unfold rnP;rw[if_neg hT,if_neg (show ¬ U=0 by omega)];split<;>split<;>omega
end Go.Rn
namespace Go.Rn
open Go.Nt
theorem Zbq (V:Nat):bl V=bitLen V:=by
 by_cases h:V=0
 ·subst h;rw[Zdr];rfl
 ·have h1:=(bitLen_spec V).1;have h2:=(bitLen_spec V).2 h;have h3:=Zaz h;obtain⟨k,hk⟩:∃ k,bitLen V=k+1:=⟨bitLen V-1,by omega⟩;rw[hk] at h1 h2 ⊢;exact ZmP h2 h1
theorem ZsF (T k:Nat):(T/2^k % 2=1)↔2^k≤T % 2^(k+1):=by
 have hp:0<2^k:=Nat.pow_pos (by omega);have e:T % 2^(k+1)=T % 2^k+2^k*(T/2^k % 2):=by rw[Nat.pow_succ,Nat.mod_mul]
 have hl:=Nat.mod_lt T hp;have h2:T/2^k % 2=0∨T/2^k % 2=1:=by omega
 rw[e];clear e;generalize T % 2^k=r at hl;generalize T/2^k % 2=b at h2;generalize 2^k=P at hl hp;rcases h2 with h | h
 ·subst h;simp only[Nat.mul_zero,Nat.add_zero];omega
 ·subst h;rw[Nat.mul_one];exact⟨fun _=>Nat.le_add_left _ _,fun _=>rfl⟩
theorem Z3v {r k:Nat}(hr:r≠0) (M:Int) (neg o:Bool):
  upR M neg o (Zad r (2^(k+1)))=(if M=2 then false else if M=3 then !neg else if M=4 then neg else if M=1 then decide (2^k≤r) else (decide (2^k≤r) && (!decide (r=2^k) || o))):=by
 have hc:¬ Zad r (2^(k+1))=0:=by rw[Zoh];exact hr
 unfold upR;rw[if_neg hc];by_cases h2:M=2
 ·rw[if_pos h2,if_pos h2]
 ·rw[if_neg h2,if_neg h2];by_cases h3:M=3
  ·rw[if_pos h3,if_pos h3]
  ·rw[if_neg h3,if_neg h3];by_cases h4:M=4
   ·rw[if_pos h4,if_pos h4]
   ·rw[if_neg h4,if_neg h4];have e:2^(k+1)=2*2^k:=by rw[Nat.pow_succ,Nat.mul_comm]
    unfold Zad;rw[if_neg hr,e];generalize 2^k=P;by_cases a:2*r<2*P
    ·rw[if_pos a];have:decide (P≤r)=false:=Xb (by omega);rw[this];split<;>simp
    ·rw[if_neg a];by_cases b:2*r=2*P
     ·rw[if_pos b];have h1:decide (P≤r)=true:=Xa (by omega);have h5:decide (r=P)=true:=Xa (by omega);rw[h1,h5];split<;>simp
     ·rw[if_neg b];have h1:decide (P≤r)=true:=Xa (by omega);have h5:decide (r=P)=false:=Xb (by omega);rw[h1,h5];split<;>simp
end Go.Rn
namespace Go.Wd
structure W4 where
 a:Int
 b:Int
 c:Int
 d:Int
end Go.Wd
namespace Go.Wd
open Go.IntKind
theorem Zhs {n:Int}(h0: -9223372036854775808≤n) (h1:n≤9223372036854775807):i64.wrap n=n:=by
 simp [IntKind.wrap,IntKind.bits,IntKind.signed];omega
structure Parts (n q r:Int):Prop where
 q1:1≤q
 r1:1<r
 qr:q*r=18446744073709551616
 eq:q=2^(n % 64).toNat
 er:r=2^(64-n % 64).toNat
structure Cut (a q r hi lo:Int):Prop where
 sum:a=r*hi+lo
 lo0:0≤lo
 lo1:lo<r
 hi0:0≤hi
 hi1:hi<q
structure Cut' (a q r hi lo:Int):Prop where
 sum:a=q*hi+lo
 lo0:0≤lo
 lo1:lo<q
 hi0:0≤hi
 hi1:hi<r
end Go.Wd
namespace Go.Wd
open Go.Rn
theorem cast_pow (k:Nat):((2:Int)^k)=((2^k:Nat):Int):=by simp
end Go.Wd
namespace Go.Rn
open Go.Nt Go.Wd
def mN (m:Int):Int:=if m<0 then 0 else if m>4 then 0 else m
theorem ZuX (m:Int) (neg o:Bool) (c:Int):upR (mN m) neg o c=upR m neg o c:=by
 unfold mN;by_cases h0:m<0
 ·rw[if_pos h0];unfold upR;rw[if_neg (show ¬ m=2 by omega),if_neg (show ¬ m=3 by omega),if_neg (show ¬ m=4 by omega),if_neg (show ¬ m=1 by omega)];simp
 ·rw[if_neg h0];by_cases h4:m>4
  ·rw[if_pos h4];unfold upR;rw[if_neg (show ¬ m=2 by omega),if_neg (show ¬ m=3 by omega),if_neg (show ¬ m=4 by omega),if_neg (show ¬ m=1 by omega)];simp
  ·rw[if_neg h4]
theorem ZuY (m:Int) (neg:Bool) (T:Nat) (E e:Int):toQ (mN m) neg T E e=toQ m neg T E e:=by
 unfold toQ rq;simp only[ZuX]
theorem Z3w (m:Int) (neg:Bool) (T:Nat) (E:Int):rnP (mN m) neg T E=rnP m neg T E:=by
 unfold rnP p0 bey;simp only[ZuY,ZuX]
theorem Z3x (m:Int) (neg:Bool) (T:Nat) (E:Int):rnF (mN m) neg T E=rnF m neg T E:=by
 unfold rnF p0 Ziw;simp only[ZuY]
theorem Z3y {m:Int}{neg:Bool}{T:Nat}{E:Int}(hT:T≠0) (h:1024≤lgN T E):9218868437227405312≤p0 m neg T E:=by
 have hq:=ZjL (m:=m) (neg:=neg) (T:=T) (E:=E) hT (by omega);have hl:zH T E=lgN T E-52:=by unfold zH;rw[if_neg (by omega)]
 unfold p0;rw[hl] at hq ⊢;omega
theorem Zol {m:Int}{neg:Bool}{T:Nat}{E:Int}(hT:T≠0) (h:1024≤lgN T E):rnP m neg T E=bey m neg∧rnF m neg T E=20:=by
 have:=Z3y (m:=m) (neg:=neg) hT h;unfold rnP rnF;rw[if_neg hT,if_neg hT,if_pos this,if_pos this];exact⟨rfl,rfl⟩
theorem ZjM {m:Int}{neg:Bool}{T:Nat}{E:Int}(hT:T≠0) (h:lgN T E≤ -1100):rnP m neg T E=(if upR m neg false 1=true then 1 else 0)∧rnF m neg T E=24:=by
 have hb:=(bitLen_spec T).1;have hl:zH T E= -1074:=by unfold zH;rw[if_pos (by omega)]
 have hE:¬ (-1074:Int)≤E:=by unfold lgN at h;have:=Zaz hT;omega
 have hk:bitLen T+2≤(-1074-E).toNat:=by unfold lgN at h;omega
 have hp:=Nat.pow_le_pow_right (show 0<2 by omega) hk;have e4:2^(bitLen T+2)=4*2^bitLen T:=by rw[Nat.pow_add,Nat.mul_comm]
 have hlt:2*T<2^(-1074-E).toNat:=by omega
 have hd:T/2^(-1074-E).toNat=0:=Nat.div_eq_of_lt (by omega);have hm:T % 2^(-1074-E).toNat=T:=Nat.mod_eq_of_lt (by omega);have hr:Zad T (2^(-1074-E).toNat)=1:=by unfold Zad;rw[if_neg hT,if_pos hlt]
 have hq:toQ m neg T E (-1074)=if upR m neg false 1=true then 1 else 0:=by
  unfold toQ rq;rw[if_neg hE,hd,hm,hr];have ho:odd 0=false:=rfl;rw[ho];simp
 have hL:toL T E (-1074)=true:=by unfold toL;rw[if_neg hE,hm];exact Xa hT
 have hti:Ziw m neg T E=true:=by unfold Ziw;rw[if_neg (by omega)];exact Xa (by omega)
 have hp0:p0 m neg T E=if upR m neg false 1=true then 1 else 0:=by
  unfold p0;rw[hl,hq];split<;>rfl
 unfold rnP rnF;rw[if_neg hT,if_neg hT,hp0,hl,hL,hti];split<;>simp
theorem Z3z {q:Nat}(h0:4503599627370496≤q) (h1:q≤9007199254740992):bitLen q=if q=9007199254740992 then 54 else 53:=by
 split
 ·rename_i h;rw[h];exact Za2 (k:=53) (by decide) (by decide)
 ·exact Za2 (k:=52) h0 (show q<2^53 by have:(2:Nat)^53=9007199254740992:=rfl;omega)
theorem ZsG {m:Int}{neg:Bool}{T:Nat}{E:Int}(hT:T≠0):decide ((bitLen (toQ m neg T E (lgN T E-52)):Int)+(lgN T E+1)-53≤ -1022)=Ziw m neg T E:=by
 have h0:4503599627370496≤toQ m neg T E (lgN T E-52):=ZuV (n:=52) hT (by unfold lgN;omega);have h1:toQ m neg T E (lgN T E-52)≤9007199254740992:=Zoj (n:=53) (by unfold lgN;omega);have hl:=Z3z h0 h1;unfold Ziw;by_cases he:lgN T E= -1023
 ·have e:lgN T E-52= -1075:=by omega
  rw[e] at h0 h1 hl ⊢;rw[if_pos he,hl];congr 1;simp only[eq_iff_iff];split<;>omega
 ·rw[if_neg he,hl];congr 1;simp only[eq_iff_iff];split<;>omega
theorem ZsH {m:Int}{neg:Bool}{T:Nat}{E:Int}(hT:T≠0):decide ((bitLen (toQ m neg T E (zH T E)):Int)+zH T E>1024)=decide (9218868437227405312≤p0 m neg T E):=by
 have h1:=ZjK m neg T E;have hle:=Zgc T E;congr 1;simp only[eq_iff_iff];unfold p0;by_cases hn:zH T E= -1074
 ·have hl:bitLen (toQ m neg T E (zH T E))≤54:=by
   have:toQ m neg T E (zH T E)<2^54:=by have e:(2:Nat)^54=18014398509481984:=rfl;omega
   exact len_le this
  omega
 ·have h0:=ZjL (m:=m) (neg:=neg) (E:=E) hT (by unfold zH at hn;split at hn<;>omega);have hl:=Z3z h0 h1;rw[hl];split<;>omega
def stk (A d:Nat):Nat:=2*(A/2^d)+(if A % 2^d=0 then 0 else 1)
theorem ZxT (A d:Nat):(if A % 2^d=0 then 0 else 1)≤1:=by split<;>omega
theorem Zom (A d j:Nat):stk A d/2^(j+1)=A/2^(d+j):=by
 have e:stk A d/2=A/2^d:=by unfold stk;split<;>omega
 rw[Nat.pow_succ,Nat.mul_comm,← Nat.div_div_eq_div_mul,e,Nat.div_div_eq_div_mul,Nat.pow_add]
theorem Zon (A d j:Nat):stk A d % 2^(j+1)=2*(A/2^d % 2^j)+(if A % 2^d=0 then 0 else 1):=by
 rw[Nat.pow_succ,Nat.mul_comm,Nat.mod_mul];have e:stk A d/2=A/2^d:=by unfold stk;split<;>omega
 rw[e];unfold stk;split<;>omega
theorem Zoo (A d j:Nat):A % 2^(d+j)=A % 2^d+2^d*(A/2^d % 2^j):=by rw[Nat.pow_add,Nat.mod_mul]
theorem ZsI (A d j:Nat):stk A d % 2^(j+1)=0↔A % 2^(d+j)=0:=by
 have hD:0<2^d:=Nat.pow_pos (by omega);rw[Zon,Zoo];generalize A/2^d % 2^j=r;constructor
 ·intro h;have h1:A % 2^d=0:=by
   by_cases h0:A % 2^d=0
   ·exact h0
   ·rw[if_neg h0] at h;omega
  rw[if_pos h1] at h;have:r=0:=by omega
  rw[h1,this];simp
 ·intro h;have h1:A % 2^d=0:=by omega
  rw[if_pos h1];have h2:2^d*r=0:=by omega
  rcases Nat.mul_eq_zero.1 h2 with h3 | h3
  ·omega
  ·rw[h3]
theorem Zop {r r' D Q s:Nat}(hD:r'<D) (hQ:0<Q) (hb:s≤1) (hs:s=0↔r'=0):Zad (2*r+s) (4*Q)=Zad (r'+D*r) (2*(D*Q)):=by
 have hDr:r≤D*r:=Nat.le_mul_of_pos_left r (by omega);unfold Zad;by_cases h0:r'+D*r=0
 ·have:r'=0:=by omega
  have:=hs.2 this;rw[if_pos h0,if_pos (by omega)]
 ·have hz:¬ 2*r+s=0:=by
   intro h;apply h0;have h1:r=0:=by omega
   have h2:=hs.1 (by omega);rw[h1,h2];rfl
  rw[if_neg h0,if_neg hz];rcases Nat.lt_trichotomy r Q with h | h | h
  ·have h1:D*r+D≤D*Q:=by rw[← Nat.mul_succ];exact Nat.mul_le_mul_left D h
   rw[if_pos (by omega),if_pos (by omega)]
  ·subst h;by_cases hs0:s=0
   ·have:=hs.1 hs0;rw[if_neg (by omega),if_pos (by omega),if_neg (by omega),if_pos (by omega)]
   ·have:r'≠0:=fun h=>hs0 (hs.2 h);rw[if_neg (by omega),if_neg (by omega),if_neg (by omega),if_neg (by omega)]
  ·have h1:D*Q+D≤D*r:=by rw[← Nat.mul_succ];exact Nat.mul_le_mul_left D h
   rw[if_neg (by omega),if_neg (by omega),if_neg (by omega),if_neg (by omega)]
theorem ZsJ (A d j:Nat):Zad (stk A d % 2^(j+2)) (2^(j+2))=Zad (A % 2^(d+(j+1))) (2^(d+(j+1))):=by
 have hD:0<2^d:=Nat.pow_pos (by omega);have hQ:0<2^j:=Nat.pow_pos (by omega);have eP:2^(j+1+1)=4*2^j:=by rw[Nat.pow_succ,Nat.pow_succ];omega
 have eP2:2^(d+(j+1))=2*(2^d*2^j):=by rw[Nat.pow_add,Nat.pow_succ,← Nat.mul_assoc];omega
 have e1:=Zon A d (j+1);have e2:=Zoo A d (j+1);rw[show j+2=(j+1)+1 by omega,e1,e2,eP,eP2];exact Zop (Nat.mod_lt A hD) hQ (ZxT A d) (by split<;>omega)
theorem Z30 (m:Int) (neg:Bool) (A d j:Nat):rq m neg (stk A d) (j+2)=rq m neg A (d+(j+1)):=by
 unfold rq;rw[ZsJ,show j+2=(j+1)+1 by omega,Zom]
theorem Zoq (m:Int) (neg:Bool) (A d:Nat) {F e:Int}(h:F+d+1≤e):toQ m neg (stk A d) (F+d-1) e=toQ m neg A F e:=by
 obtain⟨j,hj⟩:∃ j:Nat,e=F+d+1+j:=⟨(e-(F+d+1)).toNat,by omega⟩;unfold toQ;rw[if_neg (by omega),if_neg (by omega),show (e-(F+d-1)).toNat=j+2 by omega,show (e-F).toNat=d+(j+1) by omega,Z30]
theorem ZxU (A d:Nat) {F e:Int}(h:F+d+1≤e):toL (stk A d) (F+d-1) e=toL A F e:=by
 obtain⟨j,hj⟩:∃ j:Nat,e=F+d+1+j:=⟨(e-(F+d+1)).toNat,by omega⟩;unfold toL;rw[if_neg (by omega),if_neg (by omega),show (e-(F+d-1)).toNat=j+1+1 by omega,show (e-F).toNat=d+(j+1) by omega];congr 1;simp only[ne_eq,eq_iff_iff];exact not_congr (ZsI A d (j+1))
theorem Zor {A d:Nat}(h:A/2^d≠0):bitLen (stk A d)=bitLen (A/2^d)+1:=by
 have e:stk A d/2^1=A/2^d:=by
  have:=Zom A d 0;simpa using this
 rw[bitLen_shift (stk A d) 1 (by rw[e];exact h),e];omega
theorem ZxV {A d:Nat}{F:Int}(h:A/2^d≠0):lgN (stk A d) (F+d-1)=lgN A F:=by
 have e:=bitLen_shift A d h;unfold lgN;rw[Zor h];omega
theorem Zos {m:Int}{neg:Bool}{A d:Nat}{F:Int}(h:A % 2^d=0∨54≤bitLen (A/2^d)):rnP m neg (stk A d) (F+d-1)=rnP m neg A F∧rnF m neg (stk A d) (F+d-1)=rnF m neg A F:=by
 by_cases h0:A % 2^d=0
 ·have e1:stk A d=A/2^d*2^1:=by unfold stk;rw[if_pos h0];omega
  have e2:A=A/2^d*2^d:=by
   have:=Nat.div_add_mod A (2^d);rw[h0,Nat.mul_comm] at this;omega
  have p1:=ZbZ m neg (A/2^d) 1 (F+d);have p2:=ZbZ m neg (A/2^d) d (F+d);have f1:=Ze7 m neg (A/2^d) 1 (F+d);have f2:=Ze7 m neg (A/2^d) d (F+d);rw[show F+(d:Int)-((1:Nat):Int)=F+d-1 by omega,← e1] at p1 f1;rw[show F+(d:Int)-(d:Int)=F by omega,← e2] at p2 f2;exact⟨by rw[p1,p2],by rw[f1,f2]⟩
 ·have hb:54≤bitLen (A/2^d):=by exact h.resolve_left h0
  have hq:A/2^d≠0:=fun h=>by rw[h] at hb;simp [bitLen] at hb
  have hA:A≠0:=fun h=>h0 (by rw[h];simp);have hs:stk A d≠0:=by unfold stk;omega
  have hl:=ZxV (F:=F) hq;have hlw:zH (stk A d) (F+d-1)=zH A F:=by unfold zH;rw[hl]
  have hlg:lgN A F=F+d+bitLen (A/2^d)-1:=by rw[← hl];unfold lgN;rw[Zor hq];omega
  have hge:F+d+1≤zH A F:=by unfold zH;split<;>omega
  have hp:p0 m neg (stk A d) (F+d-1)=p0 m neg A F:=by unfold p0;rw[hlw,Zoq m neg A d hge]
  have ht:Ziw m neg (stk A d) (F+d-1)=Ziw m neg A F:=by
   unfold Ziw;rw[hl];by_cases hn:lgN A F= -1023
   ·rw[if_pos hn,if_pos hn,Zoq m neg A d (by omega)]
   ·rw[if_neg hn,if_neg hn]
  unfold rnP rnF;rw[if_neg hs,if_neg hA,if_neg hs,if_neg hA,hp,hlw,ZxU A d hge,ht];exact⟨rfl,rfl⟩
end Go.Rn
namespace Go.Rn
open Go.Nt Go.Wd Go.Pt
theorem xp_bd (p:Int): -1074≤xp p∧xp p≤972:=by
 have:=Zir p;unfold xp;split
 ·omega
 ·split<;>omega
theorem sg_lt (p:Int):0≤sg p∧sg p<9007199254740992:=by
 have:=ZeR p;unfold sg;split
 ·omega
 ·split<;>omega
def dvK (A B k:Nat):Nat:=2*(A*2^k/B)+(if A*2^k % B=0 then 0 else 1)
theorem Zot {A B:Nat}(k:Nat):A*2^k % (B*2^k)=A % B*2^k:=Nat.mul_mod_mul_right (2^k) A B
theorem Zou (A B k j:Nat):dvK A B (k+j)/2^(j+1)=A*2^k/B:=by
 have hp:0<2^j:=Nat.pow_pos (by omega);have e1:A*2^(k+j)/B/2^j=A*2^k/B:=by
  rw[Nat.div_div_eq_div_mul,Nat.pow_add,← Nat.mul_assoc,Nat.mul_div_mul_right _ _ hp]
 have:dvK A B (k+j)/2=A*2^(k+j)/B:=by unfold dvK;split<;>omega
 rw[Nat.pow_succ,Nat.mul_comm (2^j) 2,← Nat.div_div_eq_div_mul,this,e1]
theorem ZxW (A B k j:Nat):stk (dvK A B (k+j)) (j+1)=dvK A B k:=by
 have hp:0<2^j:=Nat.pow_pos (by omega);have e1:A*2^(k+j)/B/2^j=A*2^k/B:=by
  rw[Nat.div_div_eq_div_mul,Nat.pow_add,← Nat.mul_assoc,Nat.mul_div_mul_right _ _ hp]
 have e2:=Zou A B k j;have e3:dvK A B (k+j) % 2^(j+1)=0↔A*2^k % B=0:=by
  have d2:dvK A B (k+j)/2=A*2^(k+j)/B:=by unfold dvK;split<;>omega
  have m2:dvK A B (k+j) % 2=if A*2^(k+j) % B=0 then 0 else 1:=by unfold dvK;split<;>omega
  rw[Nat.pow_succ,Nat.mul_comm (2^j) 2,Nat.mod_mul,d2,m2];have e:A*2^(k+j) % B+B*(A*2^(k+j)/B % 2^j)=A*2^k % B*2^j:=by
   rw[← Nat.mod_mul,← Zot,Nat.mul_assoc,← Nat.pow_add]
  constructor
  ·intro h;have h1:A*2^(k+j) % B=0:=by
    by_cases h0:A*2^(k+j) % B=0
    ·exact h0
    ·rw[if_neg h0] at h;omega
   have h2:A*2^(k+j)/B % 2^j=0:=by omega
   rw[h1,h2,Nat.mul_zero] at e;rcases Nat.mul_eq_zero.1 e.symm with h3 | h3
   ·exact h3
   ·omega
  ·intro h;rw[h,Nat.zero_mul] at e;have h1:A*2^(k+j) % B=0:=by omega
   rw[if_pos h1];rcases Nat.mul_eq_zero.1 (show B*(A*2^(k+j)/B % 2^j)=0 by omega) with h2 | h2
   ·rw[h2,Nat.div_zero,Nat.zero_mod]
   ·rw[h2]
 unfold stk;rw[e2];by_cases h:A*2^k % B=0
 ·rw[if_pos (e3.2 h)];unfold dvK;rw[if_pos h]
 ·rw[if_neg (fun h'=>h (e3.1 h'))];unfold dvK;rw[if_neg h]
end Go.Rn
namespace Go.Rd
def zA (c b:Int):Int:=if 48≤c∧c≤57 then c-48 else if b=16∧97≤c∧c≤102 then c-87 else -1
theorem Ziy (c b:Int): -1≤zA c b∧zA c b<16:=by
 unfold zA;split
 ·omega
 ·split<;>omega
theorem ZsK (c:Int):zA c 10<10:=by
 unfold zA;split
 ·omega
 ·rw[if_neg (by omega)];omega
def lq8 (c:UInt8):Int:=((c.toNat:Nat):Int)
def Zaw (b:Int) (l:List UInt8):Bool:=l.all fun c=>decide (0≤zA (lq8 c) b)
def nmB (b:Int) (l:List UInt8):Nat:=l.foldl (fun a c=>a*b.toNat+(zA (lq8 c) b).toNat) 0
def sc1 (b:Int):Bool→List UInt8→List UInt8×Nat×List UInt8
 | _,[]=>([],0,[])
 | p,c::l=>
  if lq8 c=46∧p=false then sc1 b true l
  else if 0≤zA (lq8 c) b then (c::(sc1 b p l).1,(if p=true then 1 else 0)+(sc1 b p l).2.1,(sc1 b p l).2.2)
  else ([],0,c::l)
def pw1:Nat→List UInt8→Nat×Bool
 | a,[]=>(a,true)
 | a,c::l=>if 0≤zA (lq8 c) 10 then pw1 (min (10*a+(zA (lq8 c) 10).toNat) 2000000) l else (a,false)
def sgT:List UInt8→Bool×List UInt8
 | []=>(false,[])
 | c::r=>if lq8 c=45 then (true,r) else if lq8 c=43 then (false,r) else (false,c::r)
def scE (b:Int):List UInt8→Int×Bool
 | []=>(0,decide (b=10))
 | c::r=>
  if (b=10∧lq8 c≠101)∨(b=16∧lq8 c≠112) then (0,false)
  else if (sgT r).2=[] then (0,false)
  else if (pw1 0 (sgT r).2).2=false then (((pw1 0 (sgT r).2).1:Nat),false)
  else (if (sgT r).1=true then -((pw1 0 (sgT r).2).1:Nat) else ((pw1 0 (sgT r).2).1:Nat),true)
def scA (b:Int) (l:List UInt8):Int×Bool:=if (sc1 b false l).1=[] then (0,false) else scE b (sc1 b false l).2.2
theorem ZcP {l:List UInt8}{i:Nat}(h:i<l.length):l.drop i=l.getD i 0::l.drop (i+1):=by
 rw[List.getD_eq_getElem?_getD,List.getElem?_eq_getElem h,Option.getD_some];exact List.drop_eq_getElem_cons h
theorem Z31 (a:Nat) (l:List UInt8) (h:a≤2000000):(pw1 a l).1≤2000000:=by
 induction l generalizing a with
 | nil=>exact h
 | cons c l ih=>
  unfold pw1;split
  ·exact ih _ (by omega)
  ·exact h
theorem Z32 (b:Int) (r:List UInt8): -2000000≤(scE b r).1∧(scE b r).1≤2000000:=by
 unfold scE;split
 ·exact⟨show (-2000000:Int)≤0 by decide,show (0:Int)≤2000000 by decide⟩
 ·rename_i c r;have:=Z31 0 (sgT r).2 (by omega);split
  ·exact⟨by decide,by decide⟩
  ·split
   ·exact⟨by decide,by decide⟩
   ·split
    ·constructor<;>dsimp only<;>omega
    ·dsimp only;split<;>omega
theorem ZuZ (b:Int) (p:Bool) (l:List UInt8):(sc1 b p l).1.length≤l.length∧(sc1 b p l).2.1≤(sc1 b p l).1.length∧Zaw b (sc1 b p l).1=true:=by
 induction l generalizing p with
 | nil=>exact⟨Nat.le_refl _,Nat.le_refl _,rfl⟩
 | cons c l ih=>
  unfold sc1;split
  ·obtain⟨h1,h2,h3⟩:=ih true;exact⟨by rw[List.length_cons];omega,h2,h3⟩
  ·split
   ·rename_i h;obtain⟨h1,h2,h3⟩:=ih p;refine⟨by dsimp only;rw[List.length_cons,List.length_cons];omega,by dsimp only;rw[List.length_cons];split<;>omega,?_⟩;show Zaw b (c::(sc1 b p l).1)=true;unfold Zaw at h3 ⊢;rw[List.all_cons,Xa h,h3];rfl
   ·exact⟨Nat.zero_le _,Nat.le_refl _,rfl⟩
theorem Zcl (b:Int) (l:List UInt8) (c:UInt8):nmB b (l++[c])=nmB b l*b.toNat+(zA (lq8 c) b).toNat:=by
 unfold nmB;rw[List.foldl_append];rfl
theorem ZsL (b:Int) (l:List UInt8) {i:Nat}(h:i<l.length):nmB b (l.take (i+1))=nmB b (l.take i)*b.toNat+(zA (lq8 (l.getD i 0)) b).toNat:=by
 rw[← Zcl];congr 1;rw[List.getD_eq_getElem?_getD,List.getElem?_eq_getElem h,Option.getD_some];exact (List.take_append_getElem h).symm
theorem Zov {b:Int}(hb:b=10∨b=16) (l:List UInt8):nmB b l<b.toNat^l.length:=by
 have key:∀ (l:List UInt8) (k:Nat),l.length=k→nmB b l<b.toNat^k:=by
  intro l k
  induction k generalizing l with
  | zero=>
   intro h;rw[List.eq_nil_of_length_eq_zero h];exact Nat.one_pos
  | succ k ih=>
   intro h;have hne:l≠[]:=fun h0=>by rw[h0] at h;cases h
   obtain⟨l',c,rfl⟩:∃ l' c,l=l'++[c]:=⟨l.dropLast,l.getLast hne,(List.dropLast_concat_getLast hne).symm⟩;have h1:=ih l' (by simpa using h);rw[Zcl,Nat.pow_succ];have hd:(zA (lq8 c) b).toNat<b.toNat:=by
    rcases hb with rfl | rfl
    ·have:=ZsK (lq8 c);omega
    ·have:=(Ziy (lq8 c) 16).2;omega
   calc nmB b l'*b.toNat+(zA (lq8 c) b).toNat<nmB b l'*b.toNat+b.toNat:=by omega
    _=(nmB b l'+1)*b.toNat:=by rw[Nat.add_mul,Nat.one_mul]
    _≤b.toNat^k*b.toNat:=Nat.mul_le_mul_right _ h1
 exact key l l.length rfl
open Go.Rn
def trZ (l:List UInt8):List UInt8:=l.dropWhile fun c=>lq8 c==48
def upN (A B:Nat):Nat:=((bitLen B:Int)-(bitLen A:Int)+80).toNat
def dnA (b:Int) (l:List UInt8) (k P:Int):Nat×Int:=
 if b=16 then (nmB 16 l,P-4*k)
 else if 320<P-k+(l.length:Nat) then (1,3000)
 else if P-k+(l.length:Nat)< -340 then (1,-3000)
 else if 0≤P-k then (nmB 10 l*10^(P-k).toNat,0)
 else (dvK (nmB 10 l) (10^(k-P).toNat) (upN (nmB 10 l) (10^(k-P).toNat)),-((upN (nmB 10 l) (10^(k-P).toNat):Nat):Int)-1)
theorem ZjN {A B:Nat}(hA:A≠0):2^79*B≤A*2^upN A B:=by
 have h1:=(bitLen_spec A).2 hA;have h2:=(bitLen_spec B).1;have h3:=Zaz hA;have h4:bitLen B+80≤upN A B+bitLen A:=by unfold upN;omega
 refine Nat.le_trans (Nat.mul_le_mul_left _ (Nat.le_of_lt h2)) ?_;rw[← Nat.pow_add];refine Nat.le_trans (Nat.pow_le_pow_right (by omega) (show 79+bitLen B≤(bitLen A-1)+upN A B by omega)) ?_;rw[Nat.pow_add];exact Nat.mul_le_mul_right _ h1
theorem ZdT (j:Nat):(10:Nat)^j<2^(4*j+1):=by
 have h1:(10:Nat)^j≤16^j:=Nat.pow_le_pow_left (by omega) j;have h2:(16:Nat)^j=2^(4*j):=by rw[Nat.pow_mul]
 have h3:(2:Nat)^(4*j)<2^(4*j+1):=Nat.pow_lt_pow_right (by omega) (by omega);omega
theorem Zow {b:Int}(hb:b=10∨b=16) (l:List UInt8):nmB b l<2^(4*l.length):=by
 refine Nat.lt_of_lt_of_le (Zov hb l) ?_;have h1:b.toNat^l.length≤16^l.length:=Nat.pow_le_pow_left (by omega) _;have h2:(16:Nat)^l.length=2^(4*l.length):=by rw[Nat.pow_mul]
 omega
theorem ZjO {b:Int}{l:List UInt8}(h:Zaw b l=true):Zaw b (trZ l)=true:=by
 unfold Zaw at*;rw[List.all_eq_true] at*;exact fun x hx=>h x ((List.dropWhile_sublist _).subset hx)
theorem Zox (l:List UInt8):(trZ l).length≤l.length:=(List.dropWhile_sublist _).length_le
theorem ZcQ {c:UInt8}{l:List UInt8}:trZ (c::l)=if lq8 c=48 then trZ l else c::l:=by
 unfold trZ;rw[List.dropWhile_cons];by_cases h:lq8 c=48<;>simp [h]
theorem Zgd {b:Int}{l r:List UInt8}{c:UInt8}(h:Zaw b l=true) (he:trZ l=c::r):0<zA (lq8 c) b:=by
 have h1:=ZjO h;rw[he] at h1;unfold Zaw at h1;rw[List.all_cons,Xh] at h1;have h2:=Xc h1.1;have h3:lq8 c≠48:=by
  intro h4;clear h h1
  induction l with
  | nil=>cases he
  | cons x l ih=>
   rw[ZcQ] at he;by_cases hx:lq8 x=48
   ·rw[if_pos hx] at he;exact ih he
   ·rw[if_neg hx] at he;cases he;exact hx h4
 unfold zA at*;split
 ·omega
 ·rename_i h5;rw[if_neg h5] at h2;split
  ·omega
  ·rename_i h6;rw[if_neg h6] at h2;omega
theorem Ziz {b:Int}(hb:b=10∨b=16) {c:UInt8}{r:List UInt8}(h:0<zA (lq8 c) b):0<nmB b (c::r):=by
 have key:∀ (r:List UInt8) (a:Nat),0<a→0<r.foldl (fun a c=>a*b.toNat+(zA (lq8 c) b).toNat) a:=by
  intro r
  induction r with
  | nil=>intro a h;exact h
  | cons x r ih=>
   intro a h;refine ih _ ?_;exact Nat.lt_of_lt_of_le (Nat.mul_pos h (by omega)) (Nat.le_add_right _ _)
 unfold nmB;rw[List.foldl_cons];exact key r _ (by rw[Nat.zero_mul];omega)
def rdB (u:List UInt8):Int×List UInt8:=if 1<u.length∧u.take 2=[48,120] then (16,u.drop 2) else (10,u)
def rdQ (m:Int) (n:Bool) (b:Int) (v:List UInt8):Int×Int×Int:=
 if (scA b v).2=false then (0,0,3)
 else if trZ (sc1 b false v).1=[] then (if n=true then 9223372036854775808 else 0,0,0)
 else (if n=true then 9223372036854775808+rnP m n (dnA b (trZ (sc1 b false v).1) ((sc1 b false v).2.1:Nat) (scA b v).1).1 (dnA b (trZ (sc1 b false v).1) ((sc1 b false v).2.1:Nat) (scA b v).1).2 else rnP m n (dnA b (trZ (sc1 b false v).1) ((sc1 b false v).2.1:Nat) (scA b v).1).1 (dnA b (trZ (sc1 b false v).1) ((sc1 b false v).2.1:Nat) (scA b v).1).2,rnF m n (dnA b (trZ (sc1 b false v).1) ((sc1 b false v).2.1:Nat) (scA b v).1).1 (dnA b (trZ (sc1 b false v).1) ((sc1 b false v).2.1:Nat) (scA b v).1).2,0)
def rdP (m:Int) (l:List UInt8):Int×Int×Int:=
 if 65536<l.length then (0,0,2)
 else if (sgT l).2=[110,97,110] then (9221120237041090560,0,0)
 else if (sgT l).2=[105,110,102] then (if (sgT l).1=true then 18442240474082181120 else 9218868437227405312,0,0)
 else rdQ m (sgT l).1 (rdB (sgT l).2).1 (rdB (sgT l).2).2
theorem Z33 (b:Int) (hb:b=10∨b=16) (l:List UInt8) (h:l.length≤10000) (k P:Int) (hk:0≤k∧k≤10000) (hP: -2000000≤P∧P≤2000000):(dnA b l k P).1<2^(16*5625)∧ -4000000≤(dnA b l k P).2∧(dnA b l k P).2≤4000000:=by
 obtain⟨J,hJ⟩:∃ J,J=16*5625:=⟨_,rfl⟩;rw[← hJ];have hn:=Zow hb l;have pb:∀ {j:Nat},j≤J→(2:Nat)^j≤2^J:=fun h=>Nat.pow_le_pow_right (by omega) h;unfold dnA;by_cases h16:b=16
 ·rw[if_pos h16];rw[h16] at hn;exact⟨Nat.lt_of_lt_of_le hn (pb (by omega)),by dsimp only;omega,by dsimp only;omega⟩
 rw[if_neg h16];have h10:b=10:=by omega
 rw[h10] at hn;have one:(1:Nat)<2^J:=Nat.one_lt_two_pow (by omega);split
 ·exact⟨one,by dsimp only;omega,by dsimp only;omega⟩
 split
 ·exact⟨one,by dsimp only;omega,by dsimp only;omega⟩
 rename_i h1 h2;split
 ·have tb:=ZdT (P-k).toNat;refine⟨?_,by dsimp only;omega,by dsimp only;omega⟩;dsimp only;refine Nat.lt_of_lt_of_le (Nat.mul_lt_mul'' hn tb) ?_;rw[← Nat.pow_add];exact pb (by omega)
 ·have tb:=ZdT (k-P).toNat;have bA:=len_le hn;have bB:=len_le tb;have hu:upN (nmB 10 l) (10^(k-P).toNat)≤41600:=by unfold upN;omega
  refine⟨?_,by dsimp only;omega,by dsimp only;omega⟩;dsimp only;unfold dvK;have h3:=Nat.div_le_self (nmB 10 l*2^upN (nmB 10 l) (10^(k-P).toNat)) (10^(k-P).toNat);have h4:nmB 10 l*2^upN (nmB 10 l) (10^(k-P).toNat)<2^(4*l.length+upN (nmB 10 l) (10^(k-P).toNat)):=by
   rw[Nat.pow_add];exact Nat.mul_lt_mul_of_pos_right hn (Nat.pow_pos (by omega))
  have h5:(2:Nat)^(4*l.length+upN (nmB 10 l) (10^(k-P).toNat))*4≤2^J:=by
   rw[show (4:Nat)=2^2 from rfl,← Nat.pow_add];exact pb (by omega)
  refine Nat.lt_of_lt_of_le ?_ h5;split<;>omega
end Go.Rd
namespace Go.Rd
open Go.Rn
theorem ZjP {m E:Int}{n:Bool}{A B k:Nat}(j:Nat) (h:54≤bitLen (A*2^k/B)):rnP m n (dvK A B k) (E+j)=rnP m n (dvK A B (k+j)) E∧rnF m n (dvK A B k) (E+j)=rnF m n (dvK A B (k+j)) E:=by
 have r:=Zos (m:=m) (neg:=n) (A:=dvK A B (k+j)) (d:=j+1) (F:=E) (.inr (by rw[Zou];exact h));rw[ZxW,show E+((j+1:Nat):Int)-1=E+(j:Int) by omega] at r;exact r
theorem ZxX {m:Int}{n:Bool}{A B k j:Nat}(h:54≤bitLen (A*2^k/B)) (h':54≤bitLen (A*2^j/B)):rnP m n (dvK A B k) (-(k:Int)-1)=rnP m n (dvK A B j) (-(j:Int)-1)∧rnF m n (dvK A B k) (-(k:Int)-1)=rnF m n (dvK A B j) (-(j:Int)-1):=by
 rcases Nat.le_total k j with hk | hk
 ·have r:=ZjP (m:=m) (n:=n) (E:= -(j:Int)-1) (j-k) h;rw[show k+(j-k)=j by omega,show -(j:Int)-1+((j-k:Nat):Int)= -(k:Int)-1 by omega] at r;exact r
 ·have r:=ZjP (m:=m) (n:=n) (E:= -(k:Int)-1) (k-j) h';rw[show j+(k-j)=k by omega,show -(k:Int)-1+((k-j:Nat):Int)= -(j:Int)-1 by omega] at r;exact⟨r.1.symm,r.2.symm⟩
theorem Zcm {A B:Nat}(hA:A≠0) (hB:B≠0):80≤bitLen (A*2^upN A B/B):=by
 refine Ze6 (k:=79) ?_;rw[Nat.le_div_iff_mul_le (by omega)];exact ZjN hA
def rqP (m:Int) (n:Bool) (A B:Nat):Int:=rnP m n (dvK A B (upN A B)) (-((upN A B:Nat):Int)-1)
def rqF (m:Int) (n:Bool) (A B:Nat):Int:=rnF m n (dvK A B (upN A B)) (-((upN A B:Nat):Int)-1)
theorem Zoy {m:Int}{n:Bool}{A B k:Nat}(hA:A≠0) (hB:B≠0) (h:54≤bitLen (A*2^k/B)):rnP m n (dvK A B k) (-(k:Int)-1)=rqP m n A B∧rnF m n (dvK A B k) (-(k:Int)-1)=rqF m n A B:=
 ZxX h (Nat.le_trans (by omega) (Zcm hA hB))
theorem Zoz {A B c:Nat}(hc:0<c) (k:Nat):dvK (A*c) (B*c) k=dvK A B k:=by
 unfold dvK;have e:A*c*2^k=A*2^k*c:=by rw[Nat.mul_assoc,Nat.mul_comm c,← Nat.mul_assoc]
 rw[e,Nat.mul_div_mul_right _ _ hc,Nat.mul_mod_mul_right];by_cases h:A*2^k % B=0
 ·rw[if_pos h,if_pos (by rw[h,Nat.zero_mul])]
 ·rw[if_neg h,if_neg (fun h'=>h ((Nat.mul_eq_zero.1 h').resolve_right (by omega)))]
theorem Zo0 {m:Int}{n:Bool}{A B c:Nat}(hA:A≠0) (hB:B≠0) (hc:0<c):rqP m n (A*c) (B*c)=rqP m n A B∧rqF m n (A*c) (B*c)=rqF m n A B:=by
 have hA':A*c≠0:=fun h=>(Nat.mul_eq_zero.1 h).elim hA (by omega);have hB':B*c≠0:=fun h=>(Nat.mul_eq_zero.1 h).elim hB (by omega);have h:=Zcm hA hB;have e:A*c*2^upN A B/(B*c)=A*2^upN A B/B:=by rw[Nat.mul_assoc,Nat.mul_comm c,← Nat.mul_assoc,Nat.mul_div_mul_right _ _ hc]
 obtain⟨r1,r2⟩:=Zoy (m:=m) (n:=n) (k:=upN A B) hA' hB' (by rw[e];omega);rw[Zoz hc] at r1 r2;exact⟨r1.symm,r2.symm⟩
theorem Z34 (m:Int) (n:Bool) (A:Nat):rqP m n A 1=rnP m n A 0∧rqF m n A 1=rnF m n A 0:=by
 have e:dvK A 1 (upN A 1)=A*2^(upN A 1+1):=by
  unfold dvK;rw[Nat.div_one,Nat.mod_one,if_pos rfl,Nat.add_zero,Nat.pow_succ,Nat.mul_comm 2,Nat.mul_assoc]
 have p:=ZbZ m n A (upN A 1+1) 0;have f:=Ze7 m n A (upN A 1+1) 0;rw[show (0:Int)-((upN A 1+1:Nat):Int)= -((upN A 1:Nat):Int)-1 by omega] at p f;unfold rqP rqF;rw[e];exact⟨p,f⟩
theorem Z35 {A B k:Nat}(h:A*2^k/B≠0):lgN (dvK A B k) (-(k:Int)-1)=(bitLen (A*2^k/B):Int)-1-k:=by
 have e:bitLen (dvK A B k)=bitLen (A*2^k/B)+1:=by
  have h1:=(bitLen_spec (A*2^k/B)).1;have h2:=(bitLen_spec (A*2^k/B)).2 h;have h3:=Zaz h;have e1:2^bitLen (A*2^k/B)=2^(bitLen (A*2^k/B)-1)*2:=by rw[← Nat.pow_succ];congr 1;omega
  refine Za2 (k:=bitLen (A*2^k/B)) ?_ ?_
  ·unfold dvK;split<;>omega
  ·rw[Nat.pow_succ];unfold dvK;split<;>omega
 unfold lgN;rw[e];omega
theorem Z36 {m:Int}{n:Bool}{A B J:Nat}(hA:A≠0) (hB:B≠0) (hJ:1024≤J) (h:B*2^J≤A):rqP m n A B=bey m n∧rqF m n A B=20:=by
 have hb:=Zcm hA hB;have hq:A*2^upN A B/B≠0:=fun h0=>by rw[h0] at hb;exact absurd hb (by decide)
 have hT:dvK A B (upN A B)≠0:=fun h0=>by
  unfold dvK at h0;omega
 refine Zol hT ?_;rw[Z35 hq];have h1:2^(J+upN A B)≤A*2^upN A B/B:=by
  rw[Nat.le_div_iff_mul_le (by omega),Nat.pow_add,Nat.mul_comm,← Nat.mul_assoc];exact Nat.mul_le_mul_right _ h
 have:=Ze6 h1;omega
theorem Z37 {m:Int}{n:Bool}{A B J:Nat}(hA:A≠0) (hB:B≠0) (hJ:1099≤J) (h:A*2^J<B):rqP m n A B=rnP m n 1 (-3000)∧rqF m n A B=rnF m n 1 (-3000):=by
 have hb:=Zcm hA hB;have hq:A*2^upN A B/B≠0:=fun h0=>by rw[h0] at hb;exact absurd hb (by decide)
 have hT:dvK A B (upN A B)≠0:=fun h0=>by
  unfold dvK at h0;omega
 have hu:J≤upN A B:=by
  have h1:bitLen A+J≤bitLen B:=by
   have:=Ze6 (T:=B) (k:=bitLen A-1+J) (by
    rw[Nat.pow_add];exact Nat.le_of_lt (Nat.lt_of_le_of_lt (Nat.mul_le_mul_right _ ((bitLen_spec A).2 hA)) h))
   have:=Zaz hA;omega
  unfold upN;omega
 have h1:A*2^upN A B/B<2^(upN A B-J):=by
  rw[Nat.div_lt_iff_lt_mul (by omega)];have e:2^upN A B=2^J*2^(upN A B-J):=by rw[← Nat.pow_add];congr 1;omega
  rw[e,← Nat.mul_assoc,Nat.mul_comm (2^(upN A B-J))];exact Nat.mul_lt_mul_of_pos_right h (Nat.pow_pos (by omega))
 have h2:=len_le h1;have l1:bitLen 1=1:=Za2 (k:=0) (by decide) (by decide);obtain⟨a1,a2⟩:=ZjM (m:=m) (neg:=n) hT (by rw[Z35 hq];omega);obtain⟨b1,b2⟩:=ZjM (m:=m) (neg:=n) (T:=1) (E:= -3000) (by decide) (by unfold lgN;rw[l1];decide);exact⟨a1.trans b1.symm,a2.trans b2.symm⟩
theorem Zi0 {e J i:Nat}(h1:28*i≤e) (h2:J≤93*i):2^J≤10^e:=by
 have h:(2:Nat)^93≤10^28:=by decide
 have h3:((2:Nat)^93)^i≤(10^28)^i:=Nat.pow_le_pow_left h i;rw[← Nat.pow_mul,← Nat.pow_mul] at h3;exact Nat.le_trans (Nat.pow_le_pow_right (by omega) h2) (Nat.le_trans h3 (Nat.pow_le_pow_right (by omega) h1))
def deP (m:Int) (n:Bool) (A:Nat) (j:Int):Int:=rqP m n (A*10^j.toNat) (10^(-j).toNat)
def deF (m:Int) (n:Bool) (A:Nat) (j:Int):Int:=rqF m n (A*10^j.toNat) (10^(-j).toNat)
theorem ZaT (j:Nat):10^j≠0:=fun h=>by have:=Nat.pow_pos (n:=j) (show 0<10 by omega);omega
theorem Zbd {A B:Nat}(hA:A≠0) (hB:B≠0):A*B≠0:=fun h=>(Nat.mul_eq_zero.1 h).elim hA hB
theorem ZcR (m:Int) (n:Bool) {A:Nat}(hA:A≠0) (c:Nat) (j:Int):deP m n (A*10^c) (j-c)=deP m n A j∧deF m n (A*10^c) (j-c)=deF m n A j:=by
 obtain⟨d,hd⟩:∃ d:Nat,(-(j-c)).toNat=(-j).toNat+d∧c+(j-c).toNat=j.toNat+d:=⟨(-(j-c)).toNat-(-j).toNat,by omega,by omega⟩;have e1:A*10^c*10^(j-c).toNat=A*10^j.toNat*10^d:=by rw[Nat.mul_assoc,← Nat.pow_add,hd.2,Nat.pow_add,Nat.mul_assoc]
 unfold deP deF;rw[e1,hd.1,Nat.pow_add];exact Zo0 (Zbd hA (ZaT _)) (ZaT _) (Nat.pow_pos (by omega))
theorem Z38 (m:Int) (n:Bool) {A L:Nat}{j:Int}(h:10^L≤A) (hj:309≤j+(L:Int)):deP m n A j=bey m n∧deF m n A j=20:=by
 have hA:A≠0:=fun h0=>by rw[h0] at h;exact ZaT L (Nat.le_zero.1 h)
 obtain⟨e,he⟩:∃ e:Nat,e+(-j).toNat=L+j.toNat∧309≤e:=⟨L+j.toNat-(-j).toNat,by omega,by omega⟩;obtain⟨J,hJ⟩:∃ J,J=1023:=⟨_,rfl⟩;obtain⟨E,hE⟩:∃ E,E=308:=⟨_,rfl⟩;have h2:2^(J+1)≤10^e:=by
  have h3:=Zi0 (e:=E) (J:=J) (i:=11) (by omega) (by omega);refine Nat.le_trans ?_ (Nat.pow_le_pow_right (by omega) (show E+1≤e by omega));rw[Nat.pow_succ,Nat.pow_succ];omega
 refine Z36 (J:=J+1) (Zbd hA (ZaT _)) (ZaT _) (by omega) ?_;refine Nat.le_trans (Nat.mul_le_mul_left _ h2) ?_;rw[← Nat.pow_add,Nat.add_comm,he.1,Nat.pow_add];exact Nat.mul_le_mul_right _ h
theorem Z39 (m:Int) (n:Bool) {A L:Nat}{j:Int}(hA:A≠0) (h:A<10^L) (hj:j+(L:Int)≤ -336):deP m n A j=rnP m n 1 (-3000)∧deF m n A j=rnF m n 1 (-3000):=by
 obtain⟨e,he⟩:∃ e:Nat,L+e=(-j).toNat∧336≤e:=⟨(-j).toNat-L,by omega,by omega⟩;obtain⟨J,hJ⟩:∃ J,J=1099:=⟨_,rfl⟩;have h2:2^J≤10^e:=Zi0 (i:=12) (by omega) (by omega);have hz:j.toNat=0:=by omega
 unfold deP deF;rw[hz,Nat.pow_zero,Nat.mul_one];refine Z37 (J:=J) hA (ZaT _) (by omega) ?_;rw[← he.1,Nat.pow_add];exact Nat.lt_of_lt_of_le (Nat.mul_lt_mul_of_pos_right h (Nat.pow_pos (by omega))) (Nat.mul_le_mul_left _ h2)
theorem Z3A {b:Int}{c:UInt8}{r:List UInt8}(h:0<zA (lq8 c) b):b.toNat^r.length≤nmB b (c::r):=by
 have key:∀ (r:List UInt8) (a:Nat),a*b.toNat^r.length≤r.foldl (fun a c=>a*b.toNat+(zA (lq8 c) b).toNat) a:=by
  intro r
  induction r with
  | nil=>intro a;simp
  | cons x r ih=>
   intro a;rw[List.length_cons,Nat.pow_succ,Nat.mul_comm (b.toNat^r.length),← Nat.mul_assoc,List.foldl_cons];exact Nat.le_trans (Nat.mul_le_mul_right _ (Nat.le_add_right _ _)) (ih _)
 unfold nmB;rw[List.foldl_cons];refine Nat.le_trans ?_ (key r _);exact Nat.le_mul_of_pos_left _ (by rw[Nat.zero_mul];omega)
theorem Z9p (m:Int) (n:Bool) {c:UInt8}{r:List UInt8}{k P:Int}(h:0<zA (lq8 c) 10):rnP m n (dnA 10 (c::r) k P).1 (dnA 10 (c::r) k P).2=deP m n (nmB 10 (c::r)) (P-k)∧rnF m n (dnA 10 (c::r) k P).1 (dnA 10 (c::r) k P).2=deF m n (nmB 10 (c::r)) (P-k):=by
 have hp:=Ziz (b:=10) (.inl rfl) (r:=r) h;have hg:=Z3A (b:=10) (r:=r) h;have hl:=Zov (b:=10) (.inl rfl) (c::r);have e10:(10:Int).toNat=10:=rfl;rw[e10] at hg hl;have l1:bitLen 1=1:=Za2 (k:=0) (by decide) (by decide);unfold dnA;rw[if_neg (by decide)];split
 ·rename_i h1;rw[List.length_cons] at h1;obtain⟨d1,d2⟩:=Z38 m n (j:=P-k) hg (by omega);obtain⟨b1,b2⟩:=Zol (m:=m) (neg:=n) (T:=1) (E:=3000) (by decide) (by unfold lgN;rw[l1];decide);exact⟨b1.trans d1.symm,b2.trans d2.symm⟩
 split
 ·rename_i h1 h2;obtain⟨d1,d2⟩:=Z39 m n (j:=P-k) (by omega) hl (by omega);exact⟨d1.symm,d2.symm⟩
 split
 ·rename_i h3;have hz:(-(P-k)).toNat=0:=by omega
  obtain⟨q1,q2⟩:=Z34 m n (nmB 10 (c::r)*10^(P-k).toNat);unfold deP deF;rw[hz,Nat.pow_zero];exact⟨q1.symm,q2.symm⟩
 ·rename_i h3;have hz:(P-k).toNat=0:=by omega
  have e:(-(P-k)).toNat=(k-P).toNat:=by omega
  unfold deP deF rqP rqF;rw[hz,e,Nat.pow_zero,Nat.mul_one];exact⟨rfl,rfl⟩
theorem Z3B (m:Int) (n:Bool) (A:Nat) (j:Int):deP (swM m) (!n) A j=deP m n A j∧deF (swM m) (!n) A j=deF m n A j:=by
 unfold deP deF rqP rqF;rw[ZxO,ZxP];exact⟨rfl,rfl⟩
def chD (d:Nat):UInt8:=UInt8.ofNat (48+d)
def ZaU:Nat→Nat→List UInt8
 | 0,_=>[]
 | f+1,n=>if n<10 then [chD n] else ZaU f (n/10)++[chD (n % 10)]
def dcL (n:Nat):List UInt8:=ZaU 20 n
theorem Ze8 {d:Nat}(h:d<10):lq8 (chD d)=((48+d:Nat):Int):=by
 unfold lq8 chD;rw[UInt8.toNat_ofNat'];omega
theorem ZjQ {d:Nat}(h:d<10) (b:Int):zA (lq8 (chD d)) b=(d:Int):=by
 rw[Ze8 h];unfold zA;rw[if_pos (by omega)];omega
theorem Zcn (f n:Nat) (b:Int):Zaw b (ZaU f n)=true:=by
 induction f generalizing n with
 | zero=>rfl
 | succ f ih=>
  unfold ZaU;split
  ·rename_i h;unfold Zaw;rw[List.all_cons,ZjQ h,Xa (by omega)];rfl
  ·unfold Zaw;rw[List.all_append];have:=ih (n/10);unfold Zaw at this;rw[this,List.all_cons,ZjQ (show n % 10<10 by omega),Xa (by omega)];rfl
theorem Zge {f n:Nat}(h:n<10^f):nmB 10 (ZaU f n)=n:=by
 induction f generalizing n with
 | zero=>
  have:n=0:=by simpa using h
  rw[this];rfl
 | succ f ih=>
  unfold ZaU;split
  ·rename_i h1;show (0*(10:Int).toNat+(zA (lq8 (chD n)) 10).toNat)=n;rw[ZjQ h1];omega
  ·rw[Zcl,ih (by rw[Nat.pow_succ] at h;omega),ZjQ (show n % 10<10 by omega),show (10:Int).toNat=10 from rfl];omega
theorem ZdU (f n:Nat):(ZaU f n).length≤f:=by
 induction f generalizing n with
 | zero=>exact Nat.le_refl _
 | succ f ih=>
  unfold ZaU;split
  ·rw[List.length_singleton];omega
  ·rw[List.length_append,List.length_singleton];have:=ih (n/10);omega
theorem ZjR {n:Nat}(h:n<18446744073709551616):n<10^20:=Nat.lt_trans h (by decide)
theorem Zva (n:Nat):dcL n≠[]:=by
 unfold dcL ZaU;split
 ·simp
 ·simp
theorem ZCg (b:Int):zA 46 b= -1:=by
 unfold zA;rw[if_neg (by omega),if_neg (by omega)]
theorem Z3C (b:Int) (r:List UInt8):sc1 b false (46::r)=sc1 b true r:=by
 rw[sc1,if_pos ⟨by rfl,rfl⟩]
theorem ZjS {b:Int}{p:Bool}{c:UInt8}{r:List UInt8}(h:lq8 c≠46) (hd:zA (lq8 c) b<0):sc1 b p (c::r)=([],0,c::r):=by
 rw[sc1,if_neg (fun h'=>h h'.1),if_neg (by omega)]
theorem Zi1 {b:Int}{A:List UInt8}(h:Zaw b A=true) (p:Bool) (r:List UInt8):sc1 b p (A++r)=(A++(sc1 b p r).1,(if p=true then A.length else 0)+(sc1 b p r).2.1,(sc1 b p r).2.2):=by
 induction A with
 | nil=>simp
 | cons c A ih=>
  unfold Zaw at h ih;rw[List.all_cons,Xh] at h;have h1:=Xc h.1;have h46:lq8 c≠46:=fun h'=>by rw[h',ZCg] at h1;omega
  rw[List.cons_append,sc1,if_neg (fun h'=>h46 h'.1),if_pos h1,ih h.2];cases p<;>simp<;>omega
theorem ZxY (a:Nat) (l r:List UInt8) (h:(pw1 a l).2=true):pw1 a (l++r)=pw1 (pw1 a l).1 r:=by
 induction l generalizing a with
 | nil=>rfl
 | cons c l ih=>
  rw[List.cons_append,pw1,pw1];by_cases hc:0≤zA (lq8 c) 10
  ·rw[pw1,if_pos hc] at h;rw[if_pos hc,if_pos hc];exact ih _ h
  ·rw[pw1,if_neg hc] at h;cases h
theorem Z3D {l:List UInt8}(h:Zaw 10 l=true) (hv:nmB 10 l≤2000000):pw1 0 l=(nmB 10 l,true):=by
 have key:∀ (k:Nat) (l:List UInt8),l.length=k→Zaw 10 l=true→nmB 10 l≤2000000→pw1 0 l=(nmB 10 l,true):=by
  intro k
  induction k with
  | zero=>
   intro l hl _ _;rw[List.eq_nil_of_length_eq_zero hl];rfl
  | succ k ih=>
   intro l hl ha hv;have hne:l≠[]:=fun h0=>by rw[h0] at hl;cases hl
   obtain⟨l',c,rfl⟩:∃ l' c,l=l'++[c]:=⟨l.dropLast,l.getLast hne,(List.dropLast_concat_getLast hne).symm⟩;unfold Zaw at ha ih;rw[List.all_append,Xh] at ha;rw[Zcl] at hv;have e10:(10:Int).toNat=10:=rfl;rw[e10] at hv;have h1:=ih l' (by simpa using hl) ha.1 (by omega);have hc:0≤zA (lq8 c) 10:=by
    have:=ha.2;simpa using this
   rw[ZxY _ _ _ (by rw[h1]),h1,Zcl,e10,pw1,if_pos hc,pw1];congr 1;dsimp only;omega
 exact key l.length l rfl h hv
theorem Zi2 (b:Int) (l:List UInt8):nmB b (trZ l)=nmB b l:=by
 induction l with
 | nil=>rfl
 | cons c l ih=>
  rw[ZcQ];by_cases h:lq8 c=48
  ·rw[if_pos h,ih];have:zA (lq8 c) b=0:=by
    rw[h];unfold zA;rw[if_pos (by omega)];rfl
   unfold nmB;rw[List.foldl_cons,this];simp
  ·rw[if_neg h]
theorem Zo1 {b:Int}(hb:b=10∨b=16) {l:List UInt8}(h:Zaw b l=true):trZ l=[]↔nmB b l=0:=by
 constructor
 ·intro h0;rw[← Zi2,h0];rfl
 ·intro h0;cases h1:trZ l with
  | nil=>rfl
  | cons c r=>
   have:=Ziz hb (r:=r) (Zgd h h1);rw[← h1,Zi2] at this;omega
def rdN (m:Int) (n:Bool) (A:Nat) (j:Int):Int×Int×Int:=
 if A=0 then (if n=true then 9223372036854775808 else 0,0,0) else (if n=true then 9223372036854775808+deP m n A j else deP m n A j,deF m n A j,0)
theorem Zo2 {m:Int}{n:Bool}{v:List UInt8}(h:(scA 10 v).2=true):rdQ m n 10 v=rdN m n (nmB 10 (sc1 10 false v).1) ((scA 10 v).1-((sc1 10 false v).2.1:Nat)):=by
 have ha:=(ZuZ 10 false v).2.2;unfold rdQ rdN;rw[if_neg (by rw[h];decide)];by_cases hz:trZ (sc1 10 false v).1=[]
 ·rw[if_pos hz,if_pos ((Zo1 (.inl rfl) ha).1 hz)]
 ·rw[if_neg hz,if_neg (fun h0=>hz ((Zo1 (.inl rfl) ha).2 h0))];cases h1:trZ (sc1 10 false v).1 with
  | nil=>exact absurd h1 hz
  | cons c r=>
   obtain⟨d1,d2⟩:=Z9p m n (r:=r) (k:=((sc1 10 false v).2.1:Nat)) (P:=(scA 10 v).1) (Zgd ha h1);rw[d1,d2,← h1,Zi2]
theorem Zo3 (m:Int) (n:Bool) (A c:Nat) (j:Int):rdN m n (A*10^c) (j-c)=rdN m n A j:=by
 unfold rdN;by_cases h:A=0
 ·rw[h,Nat.zero_mul,if_pos rfl,if_pos rfl]
 ·obtain⟨e1,e2⟩:=ZcR m n h c j;rw[if_neg h,if_neg (Zbd h (ZaT c)),e1,e2]
theorem Zo4 (m:Int) (n:Bool) (A:Nat) (j:Int):(rdN m n A j).2.2=0:=by
 unfold rdN;split<;>rfl
theorem Zbe {c:UInt8}(h:0≤zA (lq8 c) 10):48≤lq8 c∧lq8 c≤57:=by
 unfold zA at h;split at h
 ·assumption
 ·rw[if_neg (by omega)] at h;omega
theorem Zht {c:UInt8}{r:List UInt8}(h:48≤lq8 c∧lq8 c≤57):sgT (c::r)=(false,c::r):=by
 unfold sgT;dsimp only;rw[if_neg (by omega),if_neg (by omega)]
theorem Zhu (r:List UInt8):sgT (45::r)=(true,r):=by
 unfold sgT;dsimp only;rw[if_pos (by rfl)]
theorem ZjT {m:Int}{n:Bool}{l:List UInt8}{c:UInt8}{r:List UInt8}(hl:l.length≤65536) (hs:sgT l=(n,c::r)) (hc:48≤lq8 c∧lq8 c≤57) (hr:∀ d∈r,d≠120):rdP m l=rdQ m n 10 (c::r):=by
 unfold rdP;rw[if_neg (by omega),hs];dsimp only;rw[if_neg (fun h=>by cases h;exact absurd hc.2 (by decide)),if_neg (fun h=>by cases h;exact absurd hc.2 (by decide))];have e:rdB (c::r)=(10,c::r):=by
  unfold rdB;rw[if_neg];rintro⟨h1,h2⟩;cases r with
  | nil=>exact absurd h1 (by simp)
  | cons d t=>
   have:[c,d]=[48,120]:=h2;cases this;exact hr 120 Xe rfl
 rw[e]
def ZaA (x:Int):List UInt8:=if x<0 then 45::dcL x.natAbs else dcL x.natAbs
theorem ZsM (n:Nat):∃ c r,dcL n=c::r∧(48≤lq8 c∧lq8 c≤57):=by
 cases e:dcL n with
 | nil=>exact absurd e (Zva n)
 | cons c r=>
  have ha:=Zcn 20 n 10;unfold dcL at e;rw[e] at ha;unfold Zaw at ha;rw[List.all_cons,Xh] at ha;exact⟨c,r,rfl,Zbe (Xc ha.1)⟩
theorem ZxZ (x:Int):sgT (ZaA x)=(decide (x<0),dcL x.natAbs):=by
 unfold ZaA;by_cases hx:x<0
 ·rw[if_pos hx,Zhu,Xa hx]
 ·obtain⟨c,r,e,hc⟩:=ZsM x.natAbs;rw[if_neg hx,e,Zht hc,Xb hx]
theorem Zo5 {b:Int}(hb:b=10∨b=16) {c:UInt8}(hc:(b=10→lq8 c=101)∧(b=16→lq8 c=112)) {x:Int}(h:x.natAbs≤2000000):scE b (c::ZaA x)=(x,true):=by
 have hp:pw1 0 (dcL x.natAbs)=(x.natAbs,true):=by
  have hn:=Zge (f:=20) (n:=x.natAbs) (ZjR (by omega));have:=Z3D (l:=dcL x.natAbs) (Zcn 20 x.natAbs 10) (by unfold dcL;rw[hn];exact h);rw[this];unfold dcL;rw[hn]
 unfold scE;dsimp only;rw[if_neg (by rcases hb with hb | hb<;>simp [hb,hc.1,hc.2]),ZxZ x];dsimp only;rw[if_neg (Zva _),hp];dsimp only;rw[if_neg (by decide)];by_cases hx:x<0
 ·rw[if_pos (Xa hx)];congr 1;omega
 ·rw[if_neg (by simpa using hx)];congr 1;omega
def trR (l:List UInt8):List UInt8:=(l.reverse.dropWhile fun c=>lq8 c==48).reverse
theorem Zi3:trR []=[]:=rfl
theorem Zb2 (l:List UInt8) (c:UInt8):trR (l++[c])=if lq8 c=48 then trR l else l++[c]:=by
 unfold trR;rw[List.reverse_append,List.reverse_singleton,List.singleton_append,List.dropWhile_cons];by_cases h:lq8 c=48
 ·rw[if_pos (by simpa using h),if_pos h]
 ·rw[if_neg (by simpa using h),if_neg h,List.reverse_cons,List.reverse_reverse]
theorem ZjU {P:List UInt8→Prop}(h0:P []) (h1:∀ l c,P l→P (l++[c])) (l:List UInt8):P l:=by
 have key:∀ k (l:List UInt8),l.length=k→P l:=by
  intro k
  induction k with
  | zero=>intro l hl;rw[List.eq_nil_of_length_eq_zero hl];exact h0
  | succ k ih=>
   intro l hl;have hne:l≠[]:=fun h=>by rw[h] at hl;cases hl
   rw[← List.dropLast_concat_getLast hne];exact h1 _ _ (ih _ (by rw[List.length_dropLast];omega))
 exact key _ l rfl
theorem Zo6 (l:List UInt8):(trR l).length≤l.length:=by
 unfold trR;rw[List.length_reverse];have:=(List.dropWhile_sublist (l:=l.reverse) fun c=>lq8 c==48).length_le;rw[List.length_reverse] at this;exact this
theorem Zya {b:Int}(l:List UInt8):nmB b l=nmB b (trR l)*b.toNat^(l.length-(trR l).length):=by
 refine ZjU (P:=fun l=>nmB b l=nmB b (trR l)*b.toNat^(l.length-(trR l).length)) ?_ ?_ l
 ·rfl
 ·intro l c ih;rw[Zb2];by_cases h:lq8 c=48
  ·have hd:(zA 48 b).toNat=0:=by unfold zA;rw[if_pos (by omega)];rfl
   have:=Zo6 l;rw[if_pos h,Zcl,h,hd,Nat.add_zero,ih,Nat.mul_assoc,← Nat.pow_succ,List.length_append,List.length_singleton];congr 2;omega
  ·rw[if_neg h,Nat.sub_self,Nat.pow_zero,Nat.mul_one]
end Go.Rd
namespace Go.Rd
open Go.Rn Go.Nt
theorem ZcS (k:Nat):(4294967296:Nat)^k=2^(32*k):=by rw[Nat.pow_mul]
end Go.Rd
namespace Go.Proofs.YtgefjidphfdhdaaGreatDoor.Na
open Go.KRun Go.Nt Go.Rd
set_option maxRecDepth 100000
theorem Zb9 (V:Nat):V<4294967296^(d32 V).length:=by
 have:=Zby (b:=4294967296) (by omega) (d32 V) (Zih V);rw[show vb 4294967296 (d32 V)=V from ZbV (by omega) V] at this;exact this
theorem Zyb {V:Nat}(h:0<(d32 V).length):4294967296^((d32 V).length-1)≤V:=by
 rcases Nat.lt_or_ge V (4294967296^((d32 V).length-1)) with h1 | h1
 ·have:(d32 V).length≤(d32 V).length-1:=Zb6 (b:=4294967296) (by omega) _ _ h1;omega
 ·exact h1
theorem Zca {V:Nat}(h:V≠0):0<(d32 V).length:=(Zdt (b:=4294967296) (by omega)).2 (by omega)
theorem Zo7 {V:Nat}(h0:V≠0) (h:(d32 V).length≤8192):ZeL (d32 V)=((bitLen V:Nat):Int):=by
 have hp:=Zca h0;have hc:=ZcO V;obtain⟨L,hL⟩:∃ L,L=d32 V:=⟨_,rfl⟩;have eV:vb 4294967296 L=V:=by rw[hL];exact ZbV (by omega) V
 rw[← hL] at hp hc h ⊢;have hb:ZU L=false:=by
  unfold ZU;rw[Xb (by omega),Bool.false_or];rcases hc.2 with h0 | h0
  ·omega
  ·rw[beq_eq_false_iff_ne.2 h0,Bool.and_false]
 have e1:ZeL L=32*((L.length-1:Nat):Int)+(bitLen (L.getD (L.length-1) 0).toNat:Nat):=by
  unfold ZeL;rw[hb,beq_eq_false_iff_ne.2 (show L.length≠0 by omega)];rfl
 have ht:=Za9 4294967296 L (L.length-1);rw[show L.length-1+1=L.length by omega,List.take_length,eV] at ht;have lo:vb 4294967296 (L.take (L.length-1))<4294967296^(L.length-1):=by
  have h1:=Zby (b:=4294967296) (by omega) (L.take (L.length-1)) (fun x hx=>hc.1 x (List.mem_of_mem_take hx));rw[List.length_take,Nat.min_eq_left (by omega)] at h1;exact h1
 have hpw:0<4294967296^(L.length-1):=Nat.pow_pos (by omega);have htop:(L.getD (L.length-1) 0).toNat≠0:=by
  have hlt:L.length-1<L.length:=by omega
  have hw:=hc.1 (L.getD (L.length-1) 0) (by simp [List.getD,List.getElem?_eq_getElem hlt]);rcases hc.2 with h1 | h1
  ·omega
  ·have:L.getD (L.length-1) 0≠0:=h1;omega
 have hdiv:V/2^(32*(L.length-1))=(L.getD (L.length-1) 0).toNat:=by
  rw[← ZcS,ht,Nat.add_comm,Nat.mul_add_div hpw,Nat.div_eq_of_lt lo,Nat.add_zero]
 have hs:=bitLen_shift V (32*(L.length-1)) (by rw[hdiv];exact htop);rw[hdiv] at hs;rw[e1,hs];omega
section
variable {H : Hp} {p q : Option Addr} {n c n' c' V W : Nat}
theorem ZCh (h:IsR H p n c V) (k:Nat):decide (ZhQ (Zm H p n) ((k:Nat):Int).toNat=dg (sM n (k:Nat)) ((V*2^k:Nat):Int))=true:=by
 refine Xa ?_;unfold ZhQ sM;rw[h.2.2.1,← h.2.2.2.1,Zhm,Xg,Int.natCast_mul,Go.Wd.cast_pow]
theorem Z9q (h:IsR H p n c V) (k:Nat):(ZU (Zm H p n) || decide (((k:Nat):Int)<0))=false:=by
 rw[h.good,Xb (by omega)];rfl
theorem ZCi (h:IsR H p n c V) (h0:V≠0) {k:Nat}(hk:k≤200000):decide (((k:Nat):Int)>262144-ZeL (Zm H p n))=false:=by
 have hn:=h.2.2.2.2;have hl:=h.2.2.2.1;rw[h.2.2.1,Zo7 h0 (by omega)];have:bitLen V≤32*n:=Go.Rn.len_le (by rw[← ZcS];rw[hl];exact Zb9 V);exact Xb (by omega)
theorem rNe (h:IsR H p n c V) (h0:V≠0):decide (n=0)=false:=by
 have:=Zca h0;have:=h.2.2.2.1;exact Xb (by omega)
end
theorem Z3E {V k n:Nat}(h:V<4294967296^n):V*2^k<4294967296^sM n (k:Nat):=by
 unfold sM;rw[Xg,Nat.add_comm (k/32),ZcS];rw[ZcS] at h;have h2:(2:Nat)^k<2^(32*(k/32+1)):=Nat.pow_lt_pow_right (by omega) (by omega);have:=Nat.mul_lt_mul'' h h2;rw[← Nat.pow_add] at this;rw[show 32*(n+1+k/32)=32*n+32*(k/32+1) by omega];exact this
theorem Z3F {S P:Nat}(hP:P≠0) (hS:(d32 P).length≤(d32 S).length):S/P<4294967296^((d32 S).length-(d32 P).length+1):=by
 have h1:=Zb9 S;have h2:=Zyb (Zca hP);have h3:=Zca hP;rw[Nat.div_lt_iff_lt_mul (by omega)];refine Nat.lt_of_lt_of_le h1 ?_;refine Nat.le_trans ?_ (Nat.mul_le_mul_left _ h2);rw[← Nat.pow_add];exact Nat.pow_le_pow_right (by omega) (by omega)
theorem Z3G {S P:Nat}(h:P≤S):(d32 P).length≤(d32 S).length:=Zb6 (b:=4294967296) (by omega) _ _ (Nat.lt_of_le_of_lt h (Zb9 S))
theorem Zyc (k:Nat):(10:Nat)^k<4294967296^(k/9+1):=by
 refine Nat.lt_of_le_of_lt (Nat.pow_le_pow_right (by omega) (show k≤9*(k/9+1) by omega)) ?_;rw[Nat.pow_mul];exact Nat.pow_lt_pow_left (by decide) (by omega)
end Go.Proofs.YtgefjidphfdhdaaGreatDoor.Na
