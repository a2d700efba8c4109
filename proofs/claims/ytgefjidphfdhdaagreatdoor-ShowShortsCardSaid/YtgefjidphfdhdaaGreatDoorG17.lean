/-
  ToS, ShA, ConVC, ConVD, ConVE, ConVF, RfA, RfN, RfB, RfC
-/
import Derived.Test.YtgefjidphfdhdaaGreatDoorG16
namespace Go.Proofs.YtgefjidphfdhdaaGreatDoor
open Go.KRun Go.Nt
set_option maxRecDepth 100000
theorem Zdm {x:Bool×Bool}{l:Log}(h:Zx (x::l)):x.1=x.2∧Zx l:=⟨h _ Xe,fun y hy=>h y (Xd _ hy)⟩
def Zff (h:Hp) (p:Option Addr) (n c:Nat) (k:Int):Bool:=zx h p n c && dgB (Zm h p n) && Nat.blt (k.toNat/16+n+3) 1073741824 && decide (0≤k)
def Zjx:Zae:=fun vals h s=>
 match vals,s with
 | [.slice p n c,.int .i64 k],.inr (.inr (.inr (.inl d)))::s'=>
  match d,s' with
  | true,.inr (.inl V)::s2=>Zda V.toNat h s2 [(decide (vO h p n*2^k.toNat=V.toNat),true),(Zff h p n c k,true),(decide (0<n),true)]
  | false,_=>some (Zn,h,s',[(zx h p n c,true),(decide (0<n),false)])
  | _,_=>none
 | _,_=>none
theorem ZgV:Z6 36 Zjx:=by
 intro vals h s v h' s' lg hg hl;unfold Zjx at hg;split at hg
 ·rename_i p n c k d s2;split at hg
  ·rename_i V s3;unfold Zda at hg;cases hg;obtain⟨l1,l2⟩:=Zdm hl;have l1:=Xc l1;refine Zf1 _ h [cmp true] _ _ [] _ ?_ l2;simp only[Zqy,Zda,l1];rfl
  ·cases hg;exact Zf1 _ h [cmp false] _ _ [] _ rfl hl
  ·cases hg
 ·cases hg
def Zjy:Zae:=fun vals h s=>
 match vals,s with
 | [.slice p n c,.slice q n' c'],.inr (.inl k)::s'=>some (.int .i64 k,h,s',[(decide (zY (vO h p n) (vO h q n')=k),true),(ZL h p q n c n' c',true)])
 | _,_=>none
theorem ZgW:Z6 35 Zjy:=by
 intro vals h s v h' s' lg hg hl;unfold Zjy at hg;split at hg
 ·rename_i p n c q n' c' V s3;cases hg;obtain⟨l1,l2⟩:=Zdm hl;have l1:=Xc l1;refine Zfy _ h [] _ _ [] _ ?_ l2;simp only[ZlS,l1]
 ·cases hg
section
variable {h : Hp} {b b' V W : Nat}
theorem oSh {k:Nat}(hb:h.blk? b=some (wU (d16 V),tU)) (hl:(d16 V).length<100000) (hk:k<100000):Zff h (some ⟨b,0,none⟩) (d16 V).length (d16 V).length (k:Int)=true:=by
 unfold Zff;rw[ZJ hb (by omega),Zaa hb,Zl.2 (by rw[Xg];omega),Xa (by omega)];rfl
theorem Z91 (hb:h.blk? b=some (wU (d16 V),tU)) (hc:h.blk? b'=some (wU (d16 W),tU)) (hl:(d16 V).length<100000) (hm:(d16 W).length<100000):ZL h (some ⟨b,0,none⟩) (some ⟨b',0,none⟩) (d16 V).length (d16 V).length (d16 W).length (d16 W).length=true:=by
 unfold ZL;rw[ZJ hb (by omega),Zaa hb,ZJ hc (by omega),Zaa hc,Zl.2 (by omega)];rfl
end
def Z7 (b:Nat):Option Addr:=some ⟨b,0,none⟩
def w16 (X:Nat):List Value×TypeId:=(wU (d16 X),tU)
section
variable {h : Hp} {b V : Nat}
theorem Zd5 (hb:h.blk? b=some (wU (d16 V),tU)):vO h (Z7 b) (d16 V).length=V:=zE hb
theorem Zey:0<(d16 V).length↔0<V:=by
 unfold d16;rw[List.length_pos_iff,ne_eq,Zcc (by omega)];omega
end
end Go.Proofs.YtgefjidphfdhdaaGreatDoor
namespace Go.Proofs.YtgefjidphfdhdaaGreatDoor
open Go.Proofs.Tryz
open Go.IntKind
open Go.KRun Go.Nt Go.Rd
set_option maxRecDepth 100000
def Z7p:Hc:=ZY 34 Zxe (ZY 32 Z4t hcN)
theorem Zxk:HcOk Z7p:=Zt func34 rfl Zex (Zt func32 rfl Zo2 zp)
def Zo6:Con:=alt 47 (gU vT) Zo
theorem Zsb:ConOk Zo6:=ZM func47 rfl Zt9 Zd
def hD1 (x:Int):Hp:=⟨1,[w16 x.toNat]⟩
theorem Zsc {h:Hp}{b V:Nat}(hb:h.blk? b=some (wU (d16 V),tU)) (hl:(d16 V).length<100000):(zx h (Z7 b) (d16 V).length (d16 V).length && ZcQ (Zm h (Z7 b) (d16 V).length) && Nat.blt (d16 V).length 1073741824)=true:=by
 unfold Z7;rw[ZJ hb (by omega),Zan hb,show ZcQ (d16 V)=true from ZbH (Zc2 (by omega) _),Zl.2 (by omega)];rfl
theorem Z7q (n:Int) (b:List UInt8):ZD (Zr (Zk prog Zf Zo Z7p) 300 49 [.int .i64 n] [cmp true,val (bR b),sam true]) (bR (45::b)) [(decide (1+b.length≤9223372036854775807),true),(zx (hD1 (u64.wrap (i64.wrap (0-n)))) (Z7 0) (d16 (u64.wrap (i64.wrap (0-n))).toNat).length (d16 (u64.wrap (i64.wrap (0-n))).toNat).length && ZcQ (Zm (hD1 (u64.wrap (i64.wrap (0-n)))) (Z7 0) (d16 (u64.wrap (i64.wrap (0-n))).toNat).length) && Nat.blt (d16 (u64.wrap (i64.wrap (0-n))).toNat).length 1073741824,true),(decide (ZaW (vO (hD1 (u64.wrap (i64.wrap (0-n)))) (Z7 0) (d16 (u64.wrap (i64.wrap (0-n))).toNat).length)=b),true),(decide (0≤(u64.wrap (i64.wrap (0-n)))∧(u64.wrap (i64.wrap (0-n)))<18446744073709551616),true),(decide (n<0),true)]:=by and_intros<;>kernel_rfl
theorem Z7r (n:Int) (b:List UInt8):ZD (Zr (Zk prog Zf Zo Z7p) 300 49 [.int .i64 n] [cmp false,val (bR b)]) (bR b) [(zx (hD1 (u64.wrap n)) (Z7 0) (d16 (u64.wrap n).toNat).length (d16 (u64.wrap n).toNat).length && ZcQ (Zm (hD1 (u64.wrap n)) (Z7 0) (d16 (u64.wrap n).toNat).length) && Nat.blt (d16 (u64.wrap n).toNat).length 1073741824,true),(decide (ZaW (vO (hD1 (u64.wrap n)) (Z7 0) (d16 (u64.wrap n).toNat).length)=b),true),(decide (0≤(u64.wrap n)∧(u64.wrap n)<18446744073709551616),true),(decide (n<0),false)]:=by and_intros<;>kernel_rfl
theorem ZfR (n:Int) (hn:n.natAbs≤2000000) (w:World):Calls prog 49 #[.int .i64 n] w fun r w'=>r= .returned (bR (ZaB n))∧Za0 w w':=by
 have T:=Zh Zd Zxk;have lb:=ZhQ n.natAbs;have ls:(d16 n.natAbs).length≤4:=Zco (A:=n.natAbs) (k:=4) (Nat.lt_of_le_of_lt hn (by decide));obtain⟨b,hb0⟩:∃ b,b=dcL n.natAbs:=⟨_,rfl⟩;have hb:ZaW n.natAbs=b:=by rw[hb0];exact ZrB (by omega)
 rw[← hb0] at lb;unfold ZaB;rw[← hb0];by_cases h:n<0
 ·rw[if_pos h];have e:(u64.wrap (i64.wrap (0-n)))=(n.natAbs:Nat):=by
   rw[Zw (n:=0-n) (by omega) (by omega)];simp [IntKind.wrap,IntKind.bits,IntKind.signed];omega
  have hf:=Z7q n b;rw[e,Xg] at hf;exact Ze T hf (Za (Xa (by omega)) (Za (Zsc (h:=hD1 _) (b:=0) rfl (by omega)) (Za (Xa (by rw[Zd5 (V:=_) rfl];exact hb)) (Za (Xa ⟨by omega,by omega⟩) (Z5 (Xa h)))))) (by rfl) (by rfl) w
 ·rw[if_neg h];have e:(u64.wrap n)=(n.natAbs:Nat):=by
   simp [IntKind.wrap,IntKind.bits,IntKind.signed];omega
  have hf:=Z7r n b;rw[e,Xg] at hf;exact Ze T hf (Za (Zsc (h:=hD1 _) (b:=0) rfl (by omega)) (Za (Xa (by rw[Zd5 (V:=_) rfl];exact hb)) (Za (Xa ⟨by omega,by omega⟩) (Z5 (Xb h))))) (by rfl) (by rfl) w
def Z7s:Ans:=fun vals s=>
 match vals with
 | [.int .i64 n]=>some (bR (ZaB n),s,[(decide (n.natAbs≤2000000),true)])
 | _=>none
theorem Zxl:zT 49 Z7s:=by
 intro vals s v s' lg h hl w;unfold Z7s at h;split at h
 ·cases h;exact ZfR _ (Xc (hl _ Xf)) w
 ·cases h
theorem Z7t (p:Int):ZD (Zr (Zq prog Zf Zo6 true) 300 25 [.int .u64 p] [cmp true]) (bR [110,97,110]) [(decide (Go.Pt.cl p>3),true),(decide (Go.Pt.U p),true)]:=by and_intros<;>kernel_rfl
theorem Z7u (p:Int):ZD (Zr (Zq prog Zf Zo6 true) 300 25 [.int .u64 p] [cmp false,cmp true]) (bR [105,110,102]) [(p==9218868437227405312,true),(decide (Go.Pt.cl p>3),false),(decide (Go.Pt.U p),true)]:=by and_intros<;>kernel_rfl
theorem Z7v (p:Int):ZD (Zr (Zq prog Zf Zo6 true) 300 25 [.int .u64 p] [cmp false,cmp false,cmp true]) (bR [45,105,110,102]) [(p==18442240474082181120,true),(p==9218868437227405312,false),(decide (Go.Pt.cl p>3),false),(decide (Go.Pt.U p),true)]:=by and_intros<;>kernel_rfl
theorem Z7w (p:Int):ZD (Zr (Zq prog Zf Zo6 true) 300 25 [.int .u64 p] [cmp false,cmp false,cmp false]) (bR []) [(p==18442240474082181120,false),(p==9218868437227405312,false),(decide (Go.Pt.cl p>3),false),(decide (Go.Pt.U p),true)]:=by and_intros<;>kernel_rfl
def spK (p:Int):Int:=if 3<Go.Pt.cl p then 1 else if p=9218868437227405312 then 2 else if p=18442240474082181120 then 3 else 0
def spL (k:Int):List UInt8:=if k=1 then [110,97,110] else if k=2 then [105,110,102] else if k=3 then [45,105,110,102] else []
theorem ZfS (p:Int) (hp:Go.Pt.U p) (w:World):Calls prog 25 #[.int .u64 p] w fun r w'=>r= .returned (bR (spL (spK p)))∧Za0 w w':=by
 have T:=Zp Zsb;unfold spK;by_cases h0:3<Go.Pt.cl p
 ·rw[if_pos h0];exact Ze T (Z7t p) (Za (Xa (by omega)) (Z5 (Xa hp))) (by rfl) (by rfl) w
 rw[if_neg h0];by_cases h1:p=9218868437227405312
 ·rw[if_pos h1];exact Ze T (Z7u p) (Za (za h1) (Za (Xb (by omega)) (Z5 (Xa hp)))) (by rfl) (by rfl) w
 rw[if_neg h1];by_cases h2:p=18442240474082181120
 ·rw[if_pos h2];exact Ze T (Z7v p) (Za (za h2) (Za (ZR h1) (Za (Xb (by omega)) (Z5 (Xa hp))))) (by rfl) (by rfl) w
 rw[if_neg h2];exact Ze T (Z7w p) (Za (ZR h2) (Za (ZR h1) (Za (Xb (by omega)) (Z5 (Xa hp))))) (by rfl) (by rfl) w
def Z7x:Ans:=fun vals s=>
 match vals,s with
 | [.int .u64 p],.inr (.inl k)::s'=>some (bR (spL k),s',[(decide (spK p=k),true),(decide (Go.Pt.U p),true)])
 | _,_=>none
theorem Zxm:zT 25 Z7x:=by
 intro vals s v s' lg h hl w;unfold Z7x at h;split at h
 ·cases h;rw[ZlD,ZlD] at hl;obtain⟨l1,l2,_⟩:=hl;have l1:=Xc l1;rw[← l1];exact ZfS _ (Xc l2) w
 ·cases h
def Zo7:Con:=alt 49 Z7s Zo
theorem Zsd:ConOk Zo7:=ZM func49 rfl Zxl Zd
theorem Z2u (c:UInt8) (r:List UInt8) (e:Int):ZD (Zr (Zq prog Zf Zo7 true) 300 27 [bR (c::r),.int .i64 e,.bool true] [sam true,cmp true,sam true,sam true,sam true,sam true,sam true,sam true]) (bR (45::((c::46::r)++[101]++ZaB e))) [(decide (1+((c::46::r)++[101]++ZaB e).length≤9223372036854775807),true),(decide (((c::46::r)++[101]).length+(ZaB e).length≤9223372036854775807),true),(decide (e.natAbs≤2000000),true),(decide ((c::46::r).length+1≤9223372036854775807),true),(decide ([c,46].length+r.length≤9223372036854775807),true),(decide ((0:Int)≤1∧(1:Int)≤(((c::r).length:Nat):Int)),true),(decide ([c].length+1≤9223372036854775807),true),(decide ((((c::r).length:Nat):Int)>1),true),(decide ((0:Int)≤1∧(1:Int)≤(((c::r).length:Nat):Int)),true)]:=by and_intros<;>kernel_rfl
theorem Z2v (c:UInt8) (r:List UInt8) (e:Int):ZD (Zr (Zq prog Zf Zo7 true) 300 27 [bR (c::r),.int .i64 e,.bool true] [sam true,cmp false,sam true,sam true,sam true]) (bR (45::([c]++[101]++ZaB e))) [(decide (1+([c]++[101]++ZaB e).length≤9223372036854775807),true),(decide (([c]++[101]).length+(ZaB e).length≤9223372036854775807),true),(decide (e.natAbs≤2000000),true),(decide ([c].length+1≤9223372036854775807),true),(decide ((((c::r).length:Nat):Int)>1),false),(decide ((0:Int)≤1∧(1:Int)≤(((c::r).length:Nat):Int)),true)]:=by and_intros<;>kernel_rfl
theorem Z2w (c:UInt8) (r:List UInt8) (e:Int):ZD (Zr (Zq prog Zf Zo7 true) 300 27 [bR (c::r),.int .i64 e,.bool false] [sam true,cmp true,sam true,sam true,sam true,sam true,sam true]) (bR ((c::46::r)++[101]++ZaB e)) [(decide (((c::46::r)++[101]).length+(ZaB e).length≤9223372036854775807),true),(decide (e.natAbs≤2000000),true),(decide ((c::46::r).length+1≤9223372036854775807),true),(decide ([c,46].length+r.length≤9223372036854775807),true),(decide ((0:Int)≤1∧(1:Int)≤(((c::r).length:Nat):Int)),true),(decide ([c].length+1≤9223372036854775807),true),(decide ((((c::r).length:Nat):Int)>1),true),(decide ((0:Int)≤1∧(1:Int)≤(((c::r).length:Nat):Int)),true)]:=by and_intros<;>kernel_rfl
theorem Z2x (c:UInt8) (r:List UInt8) (e:Int):ZD (Zr (Zq prog Zf Zo7 true) 300 27 [bR (c::r),.int .i64 e,.bool false] [sam true,cmp false,sam true,sam true]) (bR ([c]++[101]++ZaB e)) [(decide (([c]++[101]).length+(ZaB e).length≤9223372036854775807),true),(decide (e.natAbs≤2000000),true),(decide ([c].length+1≤9223372036854775807),true),(decide ((((c::r).length:Nat):Int)>1),false),(decide ((0:Int)≤1∧(1:Int)≤(((c::r).length:Nat):Int)),true)]:=by and_intros<;>kernel_rfl
theorem Zk3 (c:UInt8) (r:List UInt8) (e:Int) (n:Bool) (hr:r.length≤100000) (he:e.natAbs≤2000000) (w:World):Calls prog 27 #[bR (c::r),.int .i64 e,.bool n] w fun x w'=>x= .returned (bR (txL n (c::r) e))∧Za0 w w':=by
 have T:=Zp Zsd;have hx:=ZdF e;cases r with
 | nil=>
  cases n with
  | true=>
   have hv:txL true [c] e=45::([c]++[101]++ZaB e):=by unfold txL;simp
   rw[hv];exact Ze T (Z2v c [] e) (Za (Xa (by simp only[List.length_append,List.length_cons,List.length_nil];omega)) (Za (Xa (by simp only[List.length_append,List.length_cons,List.length_nil];omega)) (Za (Xa he) (Za (Xa (by simp only[List.length_cons,List.length_nil];omega)) (Za (Xb (by simp only[List.length_cons,List.length_nil];omega)) (Z5 (Xa ⟨by omega,by rw[List.length_cons];omega⟩))))))) (by rfl) (by rfl) w
  | false=>
   have hv:txL false [c] e=[c]++[101]++ZaB e:=by unfold txL;simp
   rw[hv];exact Ze T (Z2x c [] e) (Za (Xa (by simp only[List.length_append,List.length_cons,List.length_nil];omega)) (Za (Xa he) (Za (Xa (by simp only[List.length_cons,List.length_nil];omega)) (Za (Xb (by simp only[List.length_cons,List.length_nil];omega)) (Z5 (Xa ⟨by omega,by rw[List.length_cons];omega⟩)))))) (by rfl) (by rfl) w
 | cons d r=>
  rw[List.length_cons] at hr;cases n with
  | true=>
   have hv:txL true (c::d::r) e=45::((c::46::d::r)++[101]++ZaB e):=by unfold txL;simp
   rw[hv];exact Ze T (Z2u c (d::r) e) (Za (Xa (by simp only[List.length_append,List.length_cons,List.length_nil];omega)) (Za (Xa (by simp only[List.length_append,List.length_cons,List.length_nil];omega)) (Za (Xa he) (Za (Xa (by simp only[List.length_cons];omega)) (Za (Xa (by simp only[List.length_cons,List.length_nil];omega)) (Za (Xa ⟨by omega,by rw[List.length_cons];omega⟩) (Za (Xa (by simp only[List.length_cons,List.length_nil];omega)) (Za (Xa (by simp only[List.length_cons];omega)) (Z5 (Xa ⟨by omega,by rw[List.length_cons];omega⟩)))))))))) (by rfl) (by rfl) w
  | false=>
   have hv:txL false (c::d::r) e=(c::46::d::r)++[101]++ZaB e:=by unfold txL;simp
   rw[hv];exact Ze T (Z2w c (d::r) e) (Za (Xa (by simp only[List.length_append,List.length_cons,List.length_nil];omega)) (Za (Xa he) (Za (Xa (by simp only[List.length_cons];omega)) (Za (Xa (by simp only[List.length_cons,List.length_nil];omega)) (Za (Xa ⟨by omega,by rw[List.length_cons];omega⟩) (Za (Xa (by simp only[List.length_cons,List.length_nil];omega)) (Za (Xa (by simp only[List.length_cons];omega)) (Z5 (Xa ⟨by omega,by rw[List.length_cons];omega⟩))))))))) (by rfl) (by rfl) w
def Z7y:Ans:=fun vals s=>
 match vals with
 | [.string ⟨⟨c::r⟩⟩,.int .i64 e,.bool n]=>some (bR (txL n (c::r) e),s,[(decide (r.length≤100000∧e.natAbs≤2000000),true)])
 | _=>none
theorem Zxn:zT 27 Z7y:=by
 intro vals s v s' lg h hl w;unfold Z7y at h;split at h
 ·cases h;obtain⟨h1,h2⟩:=Xc (hl _ Xf);exact Zk3 _ _ _ _ h1 h2 w
 ·cases h
end Go.Proofs.YtgefjidphfdhdaaGreatDoor
namespace Go.Proofs.YtgefjidphfdhdaaGreatDoor
open Go.Proofs.Tryz
open Go.IntKind
open Go.KRun Go.Nt
set_option maxRecDepth 100000
theorem Zo8:f160.body=some (ZW (ZyV f160) (.seq (.seq (wR2 f160) (.block 0 (.loop (wLp f160)))) (wEn f160))):=by kernel_rfl
theorem Zse (p:Option Addr) (n c:Nat) (k:Int) (h:Hp):Zg (evL (Zk prog Zf Zo hcV) 100 (ZyV f160) ([.slice p n c,.int .i64 k]++List.replicate 20 undef,h,[]) ⟨[],[],[]⟩) 6 16 none [.slice p n c,.int .i64 k,undef,undef,.int .i64 0,.int .u32 (atN (Zm h p n) (k16 k))] h [(zx h p n c,true)]:=by and_intros<;>kernel_rfl
theorem Zxo (a:Value) (k x:Int) (h:Hp) (g:Nat→Value):Zg (evC (Zk prog Zf Zo hcV) 100 false (wR2 f160) ([a,.int .i64 k,undef,undef,.int .i64 0,.int .u32 x]++tl 16 g,h,[]) ⟨[],[],[]⟩) 7 15 none [a,.int .i64 k,undef,undef,.int .i64 0,.int .u32 x,.int .i64 0] h []:=by and_intros<;>kernel_rfl
theorem Zxp (a:Value) (k x i:Int) (h:Hp) (g:Nat→Value):Zg (evC (Zk prog Zf Zo hcV) 100 false (wLp f160) ([a,.int .i64 k,undef,undef,.int .i64 0,.int .u32 x,.int .i64 i]++tl 15 g,h,[cmp true,cmp true]) ⟨[],[],[]⟩) 7 15 none [a,.int .i64 k,undef,undef,.int .i64 0,.int .u32 (u32.wrap (x.tdiv 2)),.int .i64 (i64.wrap (i+1))] h [(decide (i<k.tmod 16),true),(decide ((16:Int)=0),false)]:=by and_intros<;>kernel_rfl
theorem Zsf (a:Value) (k x i:Int) (h:Hp) (g:Nat→Value):Zg (evC (Zk prog Zf Zo hcV) 100 false (wLp f160) ([a,.int .i64 k,undef,undef,.int .i64 0,.int .u32 x,.int .i64 i]++tl 15 g,h,[cmp true,cmp false]) ⟨[],[],[]⟩) 7 15 (some (some 0)) [a,.int .i64 k,undef,undef,.int .i64 0,.int .u32 x,.int .i64 i] h [(decide (i<k.tmod 16),false),(decide ((16:Int)=0),false)]:=by and_intros<;>kernel_rfl
theorem Zsg (a:Value) (k x i:Int) (h:Hp) (g:Nat→Value):Zg (evC (Zk prog Zf Zo hcV) 100 false (wEn f160) ([a,.int .i64 k,undef,undef,.int .i64 0,.int .u32 x,.int .i64 i]++tl 15 g,h,[cmp true]) ⟨[],[],[]⟩) 5 17 (some none) [a,.int .i64 k,undef,undef,.int .i64 (i64.wrap (x.tmod 2))] h [(decide ((2:Int)=0),false)]:=by and_intros<;>kernel_rfl
theorem Zo9 (a:Value) (k x:Nat) (hx:x<65536) (h:Hp) (g:Nat→Value):
  Runs (Zk prog Zf Zo hcV) (.block 0 (.loop (wLp f160))) ([a,.int .i64 (k:Nat),undef,undef,.int .i64 0,.int .u32 (x:Nat),.int .i64 0]++tl 15 g,h,[]) fun e Y=>match e with | none=>(∃ g i,Y.1=[a,.int .i64 (k:Nat),undef,undef,.int .i64 0,.int .u32 ((x/2^(k % 16):Nat):Int),.int .i64 i]++tl 15 g)∧Y.2.1=h | some none=>False | some (some _)=>False:=by
 have em:(k:Int).tmod 16=((k % 16:Nat):Int):=by rw[Int.tmod_eq_emod_of_nonneg (by omega)];omega
 refine Runs.forLoop (P:=fun Y=>(∃ g i,Y.1=[a,.int .i64 (k:Nat),undef,undef,.int .i64 0,.int .u32 ((x/2^(k % 16):Nat):Int),.int .i64 i]++tl 15 g)∧Y.2.1=h) (R:=fun _=>False)
  (fun m Y=>∃ j:Nat,j≤k % 16∧m=k % 16-j∧(∃ g,Y.1=[a,.int .i64 (k:Nat),undef,undef,.int .i64 0,.int .u32 ((x/2^j:Nat):Int),.int .i64 (j:Nat)]++tl 15 g)∧Y.2.1=h) ?_ (n:=k % 16) ⟨0,by omega,by omega,⟨g,by simp⟩,rfl⟩
 rintro m ⟨t,h',s⟩ ⟨j,hj,hm,⟨g,ht⟩,hh⟩;simp only at ht hh;subst ht hh;have hle:x/2^j≤x:=Nat.div_le_self _ _;by_cases hlt:j<k % 16
 ·refine (Zc (Zh Zd Zy) (Zxp a k _ j h' g) (Zj (by rw[em];exact Xa (by omega)) (Zu rfl))).mono fun e z hz=> ?_;obtain⟨rfl,⟨g',z1⟩,z2⟩:=hz;have e1:u32.wrap (((x/2^j:Nat):Int).tdiv 2)=((x/2^(j+1):Nat):Int):=by
   rw[Nat.pow_succ,← Nat.div_div_eq_div_mul];generalize x/2^j=y at hle ⊢;rw[Int.tdiv_eq_ediv_of_nonneg (by omega),zt (by omega) (by omega)];rfl
  have e2:i64.wrap ((j:Int)+1)=((j+1:Nat):Int):=by rw[Zw (by omega) (by omega)];omega
  exact⟨k % 16-(j+1),by omega,j+1,by omega,rfl,⟨g',by rw[z1,e1,e2]⟩,z2⟩
 ·have hj':j=k % 16:=by omega
  subst hj';refine (Zc (Zh Zd Zy) (Zsf a k _ _ h' g) (Zj (by rw[em];exact Xb (by omega)) (Zu rfl))).mono fun e z hz=> ?_;obtain⟨rfl,⟨g',z1⟩,z2⟩:=hz;exact⟨rfl,⟨g',_,z1⟩,z2⟩
def Zxq (h:Hp) (p:Option Addr) (n c:Nat):Bool:=zx h p n c && dgB (Zm h p n) && Nat.blt n 1073741824
def Zxr:Zae:=fun vals h s=>
 match vals with
 | [.slice p n c,.int .i64 k]=>some (.int .i64 ((vO h p n/2^k.toNat % 2:Nat):Int),h,s,[(Zxq h p n c,true),(decide (0≤k∧k<4611686018427387904),true)])
 | _=>none
theorem ZtJ (L:List Int) (i:Nat):dgS L i=dgN L i:=rfl
theorem ZgX {x:List Value×TypeId}{i:Nat}{z:List Value×TypeId}(hz:(⟨1,[x]⟩:Hp).blk? i=some z):i=0∧z=x:=by
 have:i<1:=Hp.blk_lt hz;have hi:i=0:=by omega
 subst hi;exact⟨rfl,(Option.some.inj hz).symm⟩
theorem Zsh:Z6 160 Zxr:=by
 intro vals h s v h' s' lg hg hl m B w E hv;unfold Zxr at hg;split at hg
 ·rename_i p n c k;cases hg;have q:=hl _ (Xe);have qk:=Xc (hl _ (Xd _ Xf));simp only[Zxq,Xh] at q;obtain⟨⟨q1,q2⟩,q3⟩:=q;have q2:=Zbu q2;obtain⟨K,rfl⟩:=Int.eq_ofNat_of_zero_le qk.1;obtain⟨x,p',a,NA,eA,fA⟩:=Zb0 0 q1;obtain⟨rp,ro'⟩:=NA.row ⟨1,[x]⟩ rfl;have ek:k16 (K:Int)=((K/16:Nat):Int):=by unfold k16;rw[Int.tdiv_eq_ediv_of_nonneg (by omega),Zw (by omega) (by omega)];omega
  have hd:=zC q2 (K/16);have hr:Runs (Zk prog Zf Zo hcV) (ZW (ZyV f160) (.seq (.seq (wR2 f160) (.block 0 (.loop (wLp f160)))) (wEn f160))) ([.slice p' n c,.int .i64 (K:Nat)]++List.replicate 20 undef,⟨1,[x]⟩,[]) fun e z=>(e=none∨e=some none)∧ZV prog f160 z.1 z.2.1=some (.int .i64 ((vO h p n/2^K % 2:Nat):Int)):=by
   refine Z3 (Zh Zd Zy) (Zse p' n c K _) (Zu rp) fun g=> ?_;rw[ro',ek,Zat,← hd.2];refine Runs.seq (P1:=fun e Y=>match e with | none=>(∃ g i,Y.1=[.slice p' n c,.int .i64 (K:Nat),undef,undef,.int .i64 0,.int .u32 ((dgN (Zm h p n) (K/16)/2^(K % 16):Nat):Int),.int .i64 i]++tl 15 g)∧Y.2.1=⟨1,[x]⟩ | some none=>False | some (some _)=>False) (Runs.seq (P1:=fun e Y=>e=none∧(∃ g,Y.1=[.slice p' n c,.int .i64 (K:Nat),undef,undef,.int .i64 0,.int .u32 ((dgN (Zm h p n) (K/16):Nat):Int),.int .i64 0]++tl 15 g)∧Y.2.1=⟨1,[x]⟩) (Zc (Zh Zd Zy) (Zxo _ K _ _ g) (fun x hx=>by cases hx)) ?_ (fun e y he=>by cases he.1)) ?_ (fun e Y he=>by match e,he with | none,he=>exact he.elim | some id,he=>exact he.elim)
   ·rintro⟨t,h',s⟩ ⟨_,⟨g',ht⟩,hh⟩;simp only at ht hh;subst ht hh;exact Runs.script (Zo9 _ K _ hd.1 _ g')
   ·rintro⟨t,h',s⟩ ⟨⟨g',i,ht⟩,hh⟩;simp only at ht hh;subst ht hh;refine (Zc (Zh Zd Zy) (Zsg _ _ _ _ _ g') (Zu rfl)).mono fun e z hz=> ?_;obtain⟨rfl,⟨g2,z1⟩,z2⟩:=hz;refine⟨.inr rfl,?_⟩;have e1:i64.wrap ((((dgN (Zm h p n) (K/16)/2^(K % 16):Nat):Int)).tmod 2)=((vO h p n/2^K % 2:Nat):Int):=by
     unfold vO;rw[Z0b q2 K,ZtJ];generalize dgN (Zm h p n) (K/16)/2^(K % 16)=y;rw[Int.tmod_eq_emod_of_nonneg (by omega),Zw (by omega) (by omega)];rfl
    rw[z1,z2,e1];rfl
  have:=ZB (T:=Zk prog Zf Zo hcV) func160 Zo8 (h0:=⟨1,[x]⟩) ⟨rfl,fun b z hz=>by obtain⟨_,rfl⟩:=ZgX hz;exact⟨NA.ros.1,NA.lt0,NA.ros.2⟩⟩ (vals:=[.slice p' n c,.int .i64 (K:Nat)]) (fun v hv=>by
   simp only[List.mem_cons,List.not_mem_nil,or_false] at hv;rcases hv with rfl | rfl
   ·exact NA.lt (by show 0<1;omega)
   ·rfl) (by rfl) hr.w E (s:=fun _=>a) (fun i z hz ht=>by obtain⟨_,rfl⟩:=ZgX hz;exact fA ht)
  simp only[List.map_cons,List.map_nil] at this;rw[eA _ rfl] at this;exact this
 ·cases hg
def rB (F:Func):Code:=Z0 (Z0 (Z0 (Z0 (Zs F))))
def rPr (F:Func):List Code:=[Z2 (Zs F),Z2 (Z0 (Zs F)),Z2 (Z0 (Z0 (Zs F))),Z2 (Z0 (Z0 (Z0 (Zs F))))]
def rR5 (F:Func):Code:=Z2 (Z2 (rB F))
def rL1 (F:Func):Code:=cIn (cIn (Z0 (Z2 (rB F))))
def rC (F:Func):Code:=Z0 (rB F)
def rIf (F:Func):Code:=Z2 (rC F)
def Z7z (F:Func):Code:=Z2 (Z0 (rC F))
def rD (F:Func):Code:=Z0 (Z0 (rC F))
def Z70 (F:Func):Code:=Z2 (Z2 (rD F))
def rL2 (F:Func):Code:=cIn (cIn (Z0 (Z2 (rD F))))
def Z4u (F:Func):Code:=Z2 (Z0 (rD F))
def Z71 (F:Func):Code:=Z2 (Z0 (Z0 (rD F)))
def rE (F:Func):Code:=Z0 (Z0 (Z0 (rD F)))
def Z72 (F:Func):Code:=Z2 (Z2 (rE F))
def rL3 (F:Func):Code:=cIn (cIn (Z0 (Z2 (rE F))))
def rEn (F:Func):Code:=Z0 (rE F)
theorem ZoA:f159.body=some (ZW (rPr f159) (.seq (.seq (rR5 f159) (.block 0 (.loop (rL1 f159)))) (.seq (rIf f159) (.seq (Z7z f159) (.seq (.seq (Z70 f159) (.block 2 (.loop (rL2 f159)))) (.seq (Z4u f159) (.seq (Z71 f159) (.seq (.seq (Z72 f159) (.block 4 (.loop (rL3 f159)))) (rEn f159))))))))):=by kernel_rfl
theorem Zk4:f159.body=some (Zs f159):=by kernel_rfl
theorem Zxs (p:Option Addr) (n c:Nat) (k:Int) (h:Hp):Zg (evL (Zk prog Zf Zo hcV) 100 (rPr f159) ([.slice p n c,.int .i64 k]++List.replicate 87 undef,h,[cmp false]) ⟨[],[],[]⟩) 8 81 none [.slice p n c,.int .i64 k,undef,undef,Zn,.bool false,.bool false,.int .i64 (k16 k)] h [(decide (k≤0),false)]:=by and_intros<;>kernel_rfl
theorem Z2y (a:Value) (k b:Int) (h:Hp) (g:Nat→Value):Zg (evC (Zk prog Zf Zo hcV) 100 false (rR5 f159) ([a,.int .i64 k,undef,undef,Zn,.bool false,.bool false,.int .i64 b]++tl 81 g,h,[]) ⟨[],[],[]⟩) 9 80 none [a,.int .i64 k,undef,undef,Zn,.bool false,.bool false,.int .i64 b,.int .i64 0] h []:=by and_intros<;>kernel_rfl
theorem Zxt (p:Option Addr) (n c:Nat) (k b i:Int) (h:Hp) (g:Nat→Value):Zg (evC (Zk prog Zf Zo hcV) 100 false (rL1 f159) ([.slice p n c,.int .i64 k,undef,undef,Zn,.bool false,.bool true,.int .i64 b,.int .i64 i]++tl 80 g,h,[cmp true,cmp true]) ⟨[],[],[]⟩) 9 80 none [.slice p n c,.int .i64 k,undef,undef,Zn,.bool false,.bool true,.int .i64 b,.int .i64 (i64.wrap (i+1))] h [(decide (i<n),true),(decide (i<b),true)]:=by and_intros<;>kernel_rfl
theorem Zxu (o n c:Nat) (k b i x:Int) (l:List Value) (d:Bool) (g:Nat→Value):Zg (evC (Zk prog Zf Zo hcV) 100 false (rL1 f159) ([sl 0 o n c,.int .i64 k,undef,undef,Zn,.bool false,.bool false,.int .i64 b,.int .i64 i]++tl 80 g,⟨1,[(l,tR)]⟩,[cmp true,cmp true,at_,val (.int .u32 x),cmp d]) ⟨[],[],[]⟩) 9 80 none [sl 0 o n c,.int .i64 k,undef,undef,Zn,.bool false,.bool d,.int .i64 b,.int .i64 (i64.wrap (i+1))] ⟨1,[(l,tR)]⟩ [(x !=0,d),(Z4 (l[o+i.toNat*1]?) (.int .u32 x),true),(decide (0≤i∧i<n),true),(decide (i<n),true),(decide (i<b),true)]:=by and_intros<;>kernel_rfl
theorem Zxv (p:Option Addr) (n c:Nat) (k b i:Int) (e:Bool) (h:Hp) (g:Nat→Value):Zg (evC (Zk prog Zf Zo hcV) 100 false (rL1 f159) ([.slice p n c,.int .i64 k,undef,undef,Zn,.bool false,.bool e,.int .i64 b,.int .i64 i]++tl 80 g,h,[cmp false]) ⟨[],[],[]⟩) 9 80 (some (some 0)) [.slice p n c,.int .i64 k,undef,undef,Zn,.bool false,.bool e,.int .i64 b,.int .i64 i] h [(decide (i<b),false)]:=by and_intros<;>kernel_rfl
theorem Zxw (p:Option Addr) (n c:Nat) (k b i:Int) (e:Bool) (h:Hp) (g:Nat→Value):Zg (evC (Zk prog Zf Zo hcV) 100 false (rL1 f159) ([.slice p n c,.int .i64 k,undef,undef,Zn,.bool false,.bool e,.int .i64 b,.int .i64 i]++tl 80 g,h,[cmp true,cmp false]) ⟨[],[],[]⟩) 9 80 (some (some 0)) [.slice p n c,.int .i64 k,undef,undef,Zn,.bool false,.bool e,.int .i64 b,.int .i64 i] h [(decide (i<n),false),(decide (i<b),true)]:=by and_intros<;>kernel_rfl
theorem Zxx (p:Option Addr) (n c:Nat) (k b i:Int) (e:Bool) (h:Hp) (g:Nat→Value):Zg (evC (Zk prog Zf Zo hcV) 100 false (rIf f159) ([.slice p n c,.int .i64 k,undef,undef,Zn,.bool false,.bool e,.int .i64 b,.int .i64 i]++tl 80 g,h,[cmp true]) ⟨[],[],[]⟩) 6 83 (some none) [.slice p n c,.int .i64 k,undef,undef,Zn,.bool e] h [(decide (b≥n),true)]:=by and_intros<;>kernel_rfl
theorem Zxy (p:Option Addr) (n c:Nat) (k b i:Int) (e:Bool) (h:Hp) (g:Nat→Value):Zg (evC (Zk prog Zf Zo hcV) 100 false (rIf f159) ([.slice p n c,.int .i64 k,undef,undef,Zn,.bool false,.bool e,.int .i64 b,.int .i64 i]++tl 80 g,h,[cmp false]) ⟨[],[],[]⟩) 9 80 none [.slice p n c,.int .i64 k,undef,undef,Zn,.bool false,.bool e,.int .i64 b,.int .i64 i] h [(decide (b≥n),false)]:=by and_intros<;>kernel_rfl
theorem Zxz (a:Value) (k b i:Int) (e:Bool) (h:Hp) (g:Nat→Value):Zg (evC (Zk prog Zf Zo hcV) 100 false (Z7z f159) ([a,.int .i64 k,undef,undef,Zn,.bool false,.bool e,.int .i64 b,.int .i64 i]++tl 80 g,h,[]) ⟨[],[],[]⟩) 10 79 none [a,.int .i64 k,undef,undef,Zn,.bool false,.bool e,.int .i64 b,.int .i64 i,.int .u32 1] h []:=by and_intros<;>kernel_rfl
theorem Zx0 (a:Value) (k b i:Int) (e:Bool) (h:Hp) (g:Nat→Value):Zg (evC (Zk prog Zf Zo hcV) 100 false (Z70 f159) ([a,.int .i64 k,undef,undef,Zn,.bool false,.bool e,.int .i64 b,.int .i64 i,.int .u32 1]++tl 79 g,h,[]) ⟨[],[],[]⟩) 11 78 none [a,.int .i64 k,undef,undef,Zn,.bool false,.bool e,.int .i64 b,.int .i64 i,.int .u32 1,.int .i64 0] h []:=by and_intros<;>kernel_rfl
theorem Z2z (a:Value) (k b u i q:Int) (e:Bool) (h:Hp) (g:Nat→Value):Zg (evC (Zk prog Zf Zo hcV) 100 false (rL2 f159) ([a,.int .i64 k,undef,undef,Zn,.bool false,.bool e,.int .i64 b,.int .i64 u,.int .u32 q,.int .i64 i]++tl 78 g,h,[cmp true,cmp true]) ⟨[],[],[]⟩) 11 78 none [a,.int .i64 k,undef,undef,Zn,.bool false,.bool e,.int .i64 b,.int .i64 u,.int .u32 (u32.wrap (2*q)),.int .i64 (i64.wrap (i+1))] h [(decide (i<k.tmod 16),true),(decide ((16:Int)=0),false)]:=by and_intros<;>kernel_rfl
theorem Z20 (a:Value) (k b u i q:Int) (e:Bool) (h:Hp) (g:Nat→Value):Zg (evC (Zk prog Zf Zo hcV) 100 false (rL2 f159) ([a,.int .i64 k,undef,undef,Zn,.bool false,.bool e,.int .i64 b,.int .i64 u,.int .u32 q,.int .i64 i]++tl 78 g,h,[cmp true,cmp false]) ⟨[],[],[]⟩) 11 78 (some (some 2)) [a,.int .i64 k,undef,undef,Zn,.bool false,.bool e,.int .i64 b,.int .i64 u,.int .u32 q,.int .i64 i] h [(decide (i<k.tmod 16),false),(decide ((16:Int)=0),false)]:=by and_intros<;>kernel_rfl
theorem Zx1 (a:Value) (k b u i q:Int) (h:Hp) (g:Nat→Value):Zg (evC (Zk prog Zf Zo hcV) 100 false (Z4u f159) ([a,.int .i64 k,undef,undef,Zn,.bool false,.bool true,.int .i64 b,.int .i64 u,.int .u32 q,.int .i64 i]++tl 78 g,h,[]) ⟨[],[],[]⟩) 11 78 none [a,.int .i64 k,undef,undef,Zn,.bool false,.bool true,.int .i64 b,.int .i64 u,.int .u32 q,.int .i64 i] h []:=by and_intros<;>kernel_rfl
theorem Zx2 (o n c:Nat) (k b u i q x:Int) (l:List Value) (d:Bool) (g:Nat→Value):Zg (evC (Zk prog Zf Zo hcV) 100 false (Z4u f159) ([sl 0 o n c,.int .i64 k,undef,undef,Zn,.bool false,.bool false,.int .i64 b,.int .i64 u,.int .u32 q,.int .i64 i]++tl 78 g,⟨1,[(l,tR)]⟩,[at_,val (.int .u32 x),cmp false,cmp d]) ⟨[],[],[]⟩) 11 78 none [sl 0 o n c,.int .i64 k,undef,undef,Zn,.bool false,.bool d,.int .i64 b,.int .i64 u,.int .u32 q,.int .i64 i] ⟨1,[(l,tR)]⟩ [(x.tmod q !=0,d),(decide (q=0),false),(Z4 (l[o+b.toNat*1]?) (.int .u32 x),true),(decide (0≤b∧b<n),true)]:=by and_intros<;>kernel_rfl
theorem Zx3 (a:Value) (k b u i q:Int) (e:Bool) (h:Hp) (g:Nat→Value):Zg (evC (Zk prog Zf Zo hcV) 100 false (Z71 f159) ([a,.int .i64 k,undef,undef,Zn,.bool false,.bool e,.int .i64 b,.int .i64 u,.int .u32 q,.int .i64 i]++tl 78 g,h,[]) ⟨[],[],[]⟩) 12 77 none [a,.int .i64 k,undef,undef,Zn,.bool false,.bool e,.int .i64 b,.int .i64 u,.int .u32 q,.int .i64 i,Zn] h []:=by and_intros<;>kernel_rfl
theorem Zx4 (a:Value) (k b u i q:Int) (e:Bool) (h:Hp) (g:Nat→Value):Zg (evC (Zk prog Zf Zo hcV) 100 false (Z72 f159) ([a,.int .i64 k,undef,undef,Zn,.bool false,.bool e,.int .i64 b,.int .i64 u,.int .u32 q,.int .i64 i,Zn]++tl 77 g,h,[]) ⟨[],[],[]⟩) 13 76 none [a,.int .i64 k,undef,undef,Zn,.bool false,.bool e,.int .i64 b,.int .i64 u,.int .u32 q,.int .i64 i,Zn,.int .i64 b] h []:=by and_intros<;>kernel_rfl
theorem ZtK (p:Option Addr) (n c:Nat) (v:Value) (k b u u2 i q:Int) (e:Bool) (h:Hp) (g:Nat→Value):Zg (evC (Zk prog Zf Zo hcV) 100 false (rL3 f159) ([.slice p n c,.int .i64 k,undef,undef,Zn,.bool false,.bool e,.int .i64 b,.int .i64 u,.int .u32 q,.int .i64 u2,v,.int .i64 i]++tl 76 g,h,[cmp false]) ⟨[],[],[]⟩) 13 76 (some (some 4)) [.slice p n c,.int .i64 k,undef,undef,Zn,.bool false,.bool e,.int .i64 b,.int .i64 u,.int .u32 q,.int .i64 u2,v,.int .i64 i] h [(decide (i<n),false)]:=by and_intros<;>kernel_rfl
def dwn (h:Hp) (o n:Nat) (i q q1 q2:Int):Int:=u32.wrap (q1+u32.wrap ((atN (Zm h (some ⟨0,o,none⟩) n) (i64.wrap (i+1))).tmod q*q2))
def lDw (h:Hp) (l:List Value) (o n c:Nat) (i q x q1 q2:Int):Log:=[(decide (q=0),false),(zx h (some ⟨0,o,none⟩) n c,true),(decide (q=0),false),(decide (u32.wrap (Int.tdiv 65536 q)=q2),true),(decide (q=0),false),(decide (u32.wrap (x.tdiv q)=q1),true),(Z4 (l[o+i.toNat*1]?) (.int .u32 x),true),(decide (0≤i∧i<n),true),(decide (i<n),true)]
theorem Zx5 (o n c:Nat) (k b u u2 i q x q1 q2:Int) (e:Bool) (l:List Value) (g:Nat→Value):Zg (evC (Zk prog Zf Zo hcV) 100 false (rL3 f159) ([sl 0 o n c,.int .i64 k,undef,undef,Zn,.bool false,.bool e,.int .i64 b,.int .i64 u,.int .u32 q,.int .i64 u2,Zn,.int .i64 i]++tl 76 g,⟨1,[(l,tR)]⟩,[cmp true,at_,val (.int .u32 x),num q1,num q2,cmp false]) ⟨[],[],[]⟩) 13 76 none [sl 0 o n c,.int .i64 k,undef,undef,Zn,.bool false,.bool e,.int .i64 b,.int .i64 u,.int .u32 q,.int .i64 u2,sl 2 0 1 grown,.int .i64 (i64.wrap (i+1))] ⟨3,[([.int .u32 (dwn ⟨1,[(l,tR)]⟩ o n i q q1 q2)],tU),([.int .u32 (dwn ⟨1,[(l,tR)]⟩ o n i q q1 q2)],tU),(l,tR)]⟩ (lDw ⟨1,[(l,tR)]⟩ l o n c i q x q1 q2):=by and_intros<;>kernel_rfl
theorem Zx6 (o n c z:Nat) (k b u u2 i q x q1 q2:Int) (e:Bool) (l lo:List Value) (g:Nat→Value):Zg (evC (Zk prog Zf Zo hcV) 100 false (rL3 f159) ([sl 0 o n c,.int .i64 k,undef,undef,Zn,.bool false,.bool e,.int .i64 b,.int .i64 u,.int .u32 q,.int .i64 u2,sl 1 0 z grown,.int .i64 i]++tl 76 g,⟨2,[(lo,tU),(l,tR)]⟩,[cmp true,at_,val (.int .u32 x),num q1,num q2,cmp false,at_]) ⟨[],[],[]⟩) 13 76 none [sl 0 o n c,.int .i64 k,undef,undef,Zn,.bool false,.bool e,.int .i64 b,.int .i64 u,.int .u32 q,.int .i64 u2,sl 3 0 (z+1) grown,.int .i64 (i64.wrap (i+1))] ⟨4,[(lo++[.int .u32 (dwn ⟨2,[(lo,tU),(l,tR)]⟩ o n i q q1 q2)],tU),([.int .u32 (dwn ⟨2,[(lo,tU),(l,tR)]⟩ o n i q q1 q2)],tU),([],2*zo),(l,tR)]⟩ ((Zag tU (lo,tU) ([.int .u32 (dwn ⟨2,[(lo,tU),(l,tR)]⟩ o n i q q1 q2)],tU) z 0 1,true)::lDw ⟨2,[(lo,tU),(l,tR)]⟩ l o n c i q x q1 q2):=by and_intros<;>kernel_rfl
theorem Zx7 (a:Value) (k b u u2 q u3:Int) (e:Bool) (z:Nat) (x:List Value×TypeId) (lo:List Value) (g:Nat→Value):Zg (evC (Zk prog Zf Zo hcV) 100 false (rEn f159) ([a,.int .i64 k,undef,undef,Zn,.bool false,.bool e,.int .i64 b,.int .i64 u,.int .u32 q,.int .i64 u2,sl 1 0 z grown,.int .i64 u3]++tl 76 g,⟨2,[(lo,tU),x]⟩,[]) ⟨[],[],[]⟩) 6 83 (some none) [a,.int .i64 k,undef,undef,sl 1 0 (Zi (Zz lo 0 z)) (Zi (Zz lo 0 z)),.bool e] ⟨2,[(lo,tU),x]⟩ [(ZaQ tU lo 0 z grown,true)]:=by and_intros<;>kernel_rfl
theorem ZoB (p:Option Addr) (c:Nat) (k:Int) (h:Hp):Zg (evC (Zk prog Zf Zo hcV) 100 false (Zs f159) ([.slice p 0 c,.int .i64 k]++List.replicate 87 undef,h,[cmp false,cmp true,cmp false,cmp true]) ⟨[],[],[]⟩) 6 83 (some none) [.slice p 0 c,.int .i64 k,undef,undef,Zn,.bool false] h [(decide (k16 k≥((0:Nat):Int)),true),(decide ((0:Int)<((0:Nat):Int)),false),(decide (0<k16 k),true),(decide (k≤0),false)]:=by and_intros<;>kernel_rfl
theorem Zk5 (p:Option Addr) (c:Nat) (k:Int) (h:Hp):Zg (evC (Zk prog Zf Zo hcV) 100 false (Zs f159) ([.slice p 0 c,.int .i64 k]++List.replicate 87 undef,h,[cmp false,cmp false,cmp true]) ⟨[],[],[]⟩) 6 83 (some none) [.slice p 0 c,.int .i64 k,undef,undef,Zn,.bool false] h [(decide (k16 k≥((0:Nat):Int)),true),(decide (0<k16 k),false),(decide (k≤0),false)]:=by and_intros<;>kernel_rfl
section
variable {l : List Value} {o c : Nat} {A : List Int}
theorem ZoC (A:List Int) (j:Nat):vb 65536 (A.take (j+1))=vb 65536 (A.take j)+65536^j*dgN A j:=Za5 65536 A j
theorem Zk6 (hR:Row l o A) (hA:∀ x∈A,Dg 65536 x) (hn:A.length<1073741824) (k:Int) {z:Nat}(hz:z<4611686018427387904) (g:Nat→Value):
  Runs (Zk prog Zf Zo hcV) (.block 0 (.loop (rL1 f159))) ([sl 0 o A.length c,.int .i64 k,undef,undef,Zn,.bool false,.bool false,.int .i64 (z:Nat),.int .i64 0]++tl 80 g,⟨1,[(l,tR)]⟩,[]) fun e Y=>match e with | none=>(∃ g u,Y.1=[sl 0 o A.length c,.int .i64 k,undef,undef,Zn,.bool false,.bool (decide (vb 65536 (A.take z)≠0)),.int .i64 (z:Nat),.int .i64 u]++tl 80 g)∧Y.2.1=⟨1,[(l,tR)]⟩ | some none=>False | some (some _)=>False:=by
 refine Runs.forLoop (P:=fun Y=>(∃ g u,Y.1=[sl 0 o A.length c,.int .i64 k,undef,undef,Zn,.bool false,.bool (decide (vb 65536 (A.take z)≠0)),.int .i64 (z:Nat),.int .i64 u]++tl 80 g)∧Y.2.1=⟨1,[(l,tR)]⟩) (R:=fun _=>False)
  (fun m Y=>∃ j:Nat,j≤z∧j≤A.length∧m=A.length-j∧(∃ g,Y.1=[sl 0 o A.length c,.int .i64 k,undef,undef,Zn,.bool false,.bool (decide (vb 65536 (A.take j)≠0)),.int .i64 (z:Nat),.int .i64 (j:Nat)]++tl 80 g)∧Y.2.1=⟨1,[(l,tR)]⟩) ?_ (n:=A.length) ⟨0,by omega,by omega,by omega,⟨g,by simp [vb]⟩,rfl⟩
 rintro m ⟨t,h',s⟩ ⟨j,hj,hj',hm,⟨g,ht⟩,hh⟩;simp only at ht hh;subst ht hh;have e2:i64.wrap ((j:Int)+1)=((j+1:Nat):Int):=by rw[Zw (by omega) (by omega)];omega
 have hs:=ZoC A j;have hp:0<65536^j:=Nat.pow_pos (by omega);by_cases h1:j<z
 ·by_cases h2:j<A.length
  ·have hd:=zC hA j;by_cases h0:vb 65536 (A.take j)=0
   ·have ef:decide (vb 65536 (A.take j)≠0)=false:=Xb (by omega);rw[ef];refine (Zc (Zh Zd Zy) (Zxu o A.length c k z j (A.getD j 0) l (A.getD j 0 !=0) g) (Zj rfl (Zj (by rw[Xg,Nat.mul_one,hR.cell h2];simp [Z4]) (Zj (Xa (by omega)) (Zj (Xa (by omega)) (Zu (Xa (by omega)))))))).mono fun e w hw=> ?_;obtain⟨rfl,⟨g',z1⟩,z2⟩:=hw;have e3:(A.getD j 0 !=0)=decide (vb 65536 (A.take (j+1))≠0):=by
     rw[hs,h0,Nat.zero_add,← hd.2,Bool.eq_iff_iff];simp only[bne_iff_ne,ne_eq,Xi,Nat.mul_eq_zero];omega
    exact⟨A.length-(j+1),by omega,j+1,by omega,by omega,rfl,⟨g',by rw[z1,e2,e3]⟩,z2⟩
   ·have ef:decide (vb 65536 (A.take j)≠0)=true:=Xa h0;rw[ef];refine (Zc (Zh Zd Zy) (Zxt _ A.length c k z j _ g) (Zj (Xa (by omega)) (Zu (Xa (by omega))))).mono fun e w hw=> ?_;obtain⟨rfl,⟨g',z1⟩,z2⟩:=hw;have e3:true=decide (vb 65536 (A.take (j+1))≠0):=(Xa (by rw[hs];omega)).symm;exact⟨A.length-(j+1),by omega,j+1,by omega,by omega,rfl,⟨g',by rw[z1,e2,← e3];rfl⟩,z2⟩
  ·have hjl:A.take j=A.take z:=by rw[List.take_of_length_le (by omega),List.take_of_length_le (by omega)]
   rw[hjl];refine (Zc (Zh Zd Zy) (Zxw _ A.length c k z j _ _ g) (Zj (Xb (by omega)) (Zu (Xa (by omega))))).mono fun e w hw=> ?_;obtain⟨rfl,⟨g',z1⟩,z2⟩:=hw;exact⟨rfl,⟨g',_,z1⟩,z2⟩
 ·have hjz:j=z:=by omega
  subst hjz;refine (Zc (Zh Zd Zy) (Zxv _ A.length c k j j _ _ g) (Zu (Xb (by omega)))).mono fun e w hw=> ?_;obtain⟨rfl,⟨g',z1⟩,z2⟩:=hw;exact⟨rfl,⟨g',_,z1⟩,z2⟩
theorem Zk7 (a:Value) (k:Nat) (b u:Int) (e:Bool) (h:Hp) (g:Nat→Value):
  Runs (Zk prog Zf Zo hcV) (.block 2 (.loop (rL2 f159))) ([a,.int .i64 (k:Nat),undef,undef,Zn,.bool false,.bool e,.int .i64 b,.int .i64 u,.int .u32 1,.int .i64 0]++tl 78 g,h,[]) fun ex Y=>match ex with | none=>(∃ g u2,Y.1=[a,.int .i64 (k:Nat),undef,undef,Zn,.bool false,.bool e,.int .i64 b,.int .i64 u,.int .u32 ((2^(k % 16):Nat):Int),.int .i64 u2]++tl 78 g)∧Y.2.1=h | some none=>False | some (some _)=>False:=by
 have em:(k:Int).tmod 16=((k % 16:Nat):Int):=by rw[Int.tmod_eq_emod_of_nonneg (by omega)];omega
 refine Runs.forLoop (P:=fun Y=>(∃ g u2,Y.1=[a,.int .i64 (k:Nat),undef,undef,Zn,.bool false,.bool e,.int .i64 b,.int .i64 u,.int .u32 ((2^(k % 16):Nat):Int),.int .i64 u2]++tl 78 g)∧Y.2.1=h) (R:=fun _=>False)
  (fun m Y=>∃ j:Nat,j≤k % 16∧m=k % 16-j∧(∃ g,Y.1=[a,.int .i64 (k:Nat),undef,undef,Zn,.bool false,.bool e,.int .i64 b,.int .i64 u,.int .u32 ((2^j:Nat):Int),.int .i64 (j:Nat)]++tl 78 g)∧Y.2.1=h) ?_ (n:=k % 16) ⟨0,by omega,by omega,⟨g,rfl⟩,rfl⟩
 rintro m ⟨t,h',s⟩ ⟨j,hj,hm,⟨g,ht⟩,hh⟩;simp only at ht hh;subst ht hh;by_cases hlt:j<k % 16
 ·refine (Zc (Zh Zd Zy) (Z2z a k b u j _ e h' g) (Zj (by rw[em];exact Xa (by omega)) (Zu rfl))).mono fun ex w hw=> ?_;obtain⟨rfl,⟨g',z1⟩,z2⟩:=hw;have hp:2^j≤32768:=by
   have:=Nat.pow_le_pow_right (show 0<2 by omega) (show j≤15 by omega);omega
  have e1:u32.wrap (2*((2^j:Nat):Int))=((2^(j+1):Nat):Int):=by
   rw[Nat.pow_succ];generalize 2^j=Q at hp ⊢;rw[zt (by omega) (by omega)];omega
  have e2:i64.wrap ((j:Int)+1)=((j+1:Nat):Int):=by rw[Zw (by omega) (by omega)];omega
  exact⟨k % 16-(j+1),by omega,j+1,by omega,rfl,⟨g',by rw[z1,e1,e2]⟩,z2⟩
 ·have hj':j=k % 16:=by omega
  subst hj';refine (Zc (Zh Zd Zy) (Z20 a k b u _ _ e h' g) (Zj (by rw[em];exact Xb (by omega)) (Zu rfl))).mono fun ex w hw=> ?_;obtain⟨rfl,⟨g',z1⟩,z2⟩:=hw;exact⟨rfl,⟨g',_,z1⟩,z2⟩
def Fst (l:List Value) (o c:Nat) (A:List Int):Prop:=∀ h:Hp,h.blk? 0=some (l,tR)→zx h (some ⟨0,o,none⟩) A.length c=true∧Zm h (some ⟨0,o,none⟩) A.length=A
def dwV (A:List Int) (P R i:Nat):Nat:=dgN A i/P+dgN A (i+1) % P*R
def rSt (l:List Value) (o c:Nat) (A:List Int) (k b u u2:Int) (e:Bool) (P j i:Nat) (O:List Int) (Y:Lf):Prop:=
 (j=0∧(∃ g,Y.1=[sl 0 o A.length c,.int .i64 k,undef,undef,Zn,.bool false,.bool e,.int .i64 b,.int .i64 u,.int .u32 (P:Nat),.int .i64 u2,Zn,.int .i64 (i:Nat)]++tl 76 g)∧Y.2.1=⟨1,[(l,tR)]⟩)∨
 (0<j∧(∃ g,Y.1=[sl 0 o A.length c,.int .i64 k,undef,undef,Zn,.bool false,.bool e,.int .i64 b,.int .i64 u,.int .u32 (P:Nat),.int .i64 u2,sl 1 0 j grown,.int .i64 (i:Nat)]++tl 76 g)∧Y.2.1=⟨2,[(wU O,tU),(l,tR)]⟩)
theorem Zk8 (hR:Row l o A) (hF:Fst l o c A) (hs:∀ v∈l,still v=true) (hA:∀ x∈A,Dg 65536 x) (hn:A.length+2<1073741824) {k b u u2:Int}{e:Bool}{P R j i:Nat}{O:List Int}(hP:0<P) (hPR:P*R=65536) (hO:O.length=j) (hj:j≤i) (hi:i<A.length) {Y:Lf}(hY:rSt l o c A k b u u2 e P j i O Y):
  RunsW (Zk prog Zf Zo hcV) (rL3 f159) Y fun ex W=>ex=none∧(∃ g,W.1=[sl 0 o A.length c,.int .i64 k,undef,undef,Zn,.bool false,.bool e,.int .i64 b,.int .i64 u,.int .u32 (P:Nat),.int .i64 u2,sl 1 0 (j+1) grown,.int .i64 ((i+1:Nat):Int)]++tl 76 g)∧W.2.1=⟨2,[(wU (O++[((dwV A P R i:Nat):Int)]),tU),(l,tR)]⟩:=by
 obtain⟨t,h',s⟩:=Y;have hd:=zC hA i;have hd1:=zC hA (i+1);have hPb:P≤65536:=by
  rcases Nat.eq_zero_or_pos R with h0 | h0
  ·rw[h0] at hPR;omega
  ·have:=Nat.mul_le_mul_left P h0;omega
 have hRb:R≤65536:=by
  have:=Nat.mul_le_mul_right R hP;omega
 have e3:i64.wrap ((i:Int)+1)=((i+1:Nat):Int):=by rw[Zw (by omega) (by omega)];omega
 have ne0:decide ((P:Int)=0)=false:=Xb (by omega);have hdiv:dgN A i/P≤dgN A i:=Nat.div_le_self _ _;have eq1:u32.wrap ((A.getD i 0).tdiv (P:Int))=((dgN A i/P:Nat):Int):=by
  rw[← hd.2,Int.tdiv_eq_ediv_of_nonneg (by omega),show ((dgN A i:Nat):Int)/(P:Int)=((dgN A i/P:Nat):Int) from rfl];generalize dgN A i/P=y at hdiv ⊢;exact zt (by omega) (by omega)
 have eq2:u32.wrap (Int.tdiv 65536 (P:Int))=(R:Int):=by
  have:65536/P=R:=by rw[← hPR,Nat.mul_div_cancel_left _ hP]
  rw[Int.tdiv_eq_ediv_of_nonneg (by omega),show (65536:Int)/(P:Int)=((65536/P:Nat):Int) from rfl,this];exact zt (by omega) (by omega)
 have hlt:=Zm7 (x1:=dgN A (i+1)) hP hPR hd.1;have hdw:∀ h:Hp,h.blk? 0=some (l,tR)→dwn h o A.length i P ((dgN A i/P:Nat):Int) R=((dwV A P R i:Nat):Int):=fun h hh=>by
  unfold dwn dwV;rw[(hF h hh).2,e3,Zat,← hd1.2,Int.tmod_eq_emod_of_nonneg (by omega),show ((dgN A (i+1):Nat):Int) % (P:Int)=((dgN A (i+1) % P:Nat):Int) from rfl,show ((dgN A (i+1) % P:Nat):Int)*(R:Int)=((dgN A (i+1) % P*R:Nat):Int) from by simp];generalize dgN A i/P=y1 at hlt ⊢;generalize dgN A (i+1) % P*R=y2 at hlt ⊢;rw[zt (n:=(y2:Int)) (by omega) (by omega),zt (by omega) (by omega)];omega
 have hlog:∀ h:Hp,h.blk? 0=some (l,tR)→Zx (lDw h l o A.length c i P (A.getD i 0) ((dgN A i/P:Nat):Int) R):=fun h hh=>Zj ne0 (Zj (hF h hh).1 (Zj ne0 (Zj (Xa eq2) (Zj ne0 (Zj (Xa eq1) (Zj (by
  show Z4 (l[o+(i:Int).toNat*1]?) _=true;rw[Xg,Nat.mul_one,hR.cell hi];simp [Z4]) (Zj (Xa (by omega)) (Zu (Xa (by omega))))))))))
 have key:∀ {h:Hp}{bb:Nat},1≤bb→h.blk? 0=some (l,tR)→h.blk? bb=some (wU (O++[((dwV A P R i:Nat):Int)]),tU)→RunsW (Zk prog Zf Zo hcV) (rL3 f159) (t,h',s) (fun ex W=>ex=none∧(∃ g,W.1=[sl 0 o A.length c,.int .i64 k,undef,undef,Zn,.bool false,.bool e,.int .i64 b,.int .i64 u,.int .u32 (P:Nat),.int .i64 u2,sl bb 0 (j+1) grown,.int .i64 ((i+1:Nat):Int)]++tl 76 g)∧W.2.1=h)→
   RunsW (Zk prog Zf Zo hcV) (rL3 f159) (t,h',s) fun ex W=>ex=none∧(∃ g,W.1=[sl 0 o A.length c,.int .i64 k,undef,undef,Zn,.bool false,.bool e,.int .i64 b,.int .i64 u,.int .u32 (P:Nat),.int .i64 u2,sl 1 0 (j+1) grown,.int .i64 ((i+1:Nat):Int)]++tl 76 g)∧W.2.1=⟨2,[(wU (O++[((dwV A P R i:Nat):Int)]),tU),(l,tR)]⟩:=fun {h bb} hb h0 hB fin=>
  fin.kept (k:=1) (b:=bb) (base:=[(l,tR)]) (y:=(wU (O++[((dwV A P R i:Nat):Int)]),tU)) (front':=[sl 0 o A.length c,.int .i64 k,undef,undef,Zn,.bool false,.bool e,.int .i64 b,.int .i64 u,.int .u32 (P:Nat),.int .i64 u2,sl 1 0 (j+1) grown,.int .i64 ((i+1:Nat):Int)]) rfl
   (by kernel_rfl) (fun j x hx=>by
    obtain⟨rfl,rfl⟩:=ZgX hx;exact⟨h0,hs⟩) hB hb (ZE _) (fun v hv=>by
    simp only[List.mem_cons,List.not_mem_nil,or_false] at hv;rcases hv with rfl | rfl | rfl | rfl | rfl | rfl | rfl | rfl | rfl | rfl | rfl | rfl | rfl<;>rfl)
 rcases hY with ⟨h0,⟨g,ht⟩,hh⟩ | ⟨h0,⟨g,ht⟩,hh⟩
 ·simp only at ht hh;subst ht hh;have hO0:O=[]:=List.length_eq_zero_iff.1 (by omega);subst hO0;subst h0;have fin:=Zb (Zh Zd Zy) (s0:=s) (Zx5 o A.length c k b u u2 i P (A.getD i 0) ((dgN A i/P:Nat):Int) R e l g) (hlog _ rfl);rw[e3,hdw _ rfl] at fin;exact key (bb:=2) (by omega) rfl rfl fin
 ·simp only at ht hh;subst ht hh;have hchk:Zag tU (wU O,tU) ([.int .u32 ((dwV A P R i:Nat):Int)],tU) j 0 1=true:=
   Zbf (L:=O) (M:=[((dwV A P R i:Nat):Int)]) hO.symm (show 0<1 by omega) (by show O.length+1≤_;omega)
  have ew:wU O++[.int .u32 ((dwV A P R i:Nat):Int)]=wU (O++[((dwV A P R i:Nat):Int)]):=by rw[ZU];rfl
  have fin:=Zb (Zh Zd Zy) (s0:=s) (Zx6 o A.length c j k b u u2 i P (A.getD i 0) ((dgN A i/P:Nat):Int) R e l (wU O) g) (Zj (by rw[hdw _ rfl];exact hchk) (hlog _ rfl));rw[e3,hdw _ rfl,ew] at fin;exact key (bb:=3) (by omega) rfl rfl fin
def Z73 (l:List Value) (o c:Nat) (A:List Int) (k b u u2:Int) (e:Bool) (P z:Nat) (Y:Lf):Prop:=
 ∃ O:List Int,O.length=A.length-z∧(∀ x∈O,Dg 65536 x)∧vb 65536 O*P+dgN A z % P=vb 65536 (A.drop z)∧rSt l o c A k b u u2 e P (A.length-z) A.length O Y
def Z92 (l:List Value) (o c:Nat) (A:List Int) (k b u u2:Int) (e:Bool) (P z:Nat) (m:Nat) (Y:Lf):Prop:=
 ∃ (i:Nat) (O:List Int),m=A.length-i∧z≤i∧i≤A.length∧O.length=i-z∧(∀ x∈O,Dg 65536 x)∧vb 65536 O*P+dgN A z % P=vb 65536 ((A.drop z).take (i-z))+65536^(i-z)*(dgN A i % P)∧rSt l o c A k b u u2 e P (i-z) i O Y
theorem ZoD (A:List Int) (z j:Nat):(A.drop z).getD j 0=A.getD (z+j) 0:=by simp [List.getD,List.getElem?_drop]
theorem Zk9 (hR:Row l o A) (hF:Fst l o c A) (hs:∀ v∈l,still v=true) (hA:∀ x∈A,Dg 65536 x) (hn:A.length+2<1073741824) {k b u u2:Int}{e:Bool}{P R z:Nat}(hP:0<P) (hPR:P*R=65536) (hz:z≤A.length) (g:Nat→Value):
  RunsW (Zk prog Zf Zo hcV) (.block 4 (.loop (rL3 f159))) ([sl 0 o A.length c,.int .i64 k,undef,undef,Zn,.bool false,.bool e,.int .i64 b,.int .i64 u,.int .u32 (P:Nat),.int .i64 u2,Zn,.int .i64 (z:Nat)]++tl 76 g,⟨1,[(l,tR)]⟩,[]) fun ex Y=>match ex with | none=>Z73 l o c A k b u u2 e P z Y | some none=>False | some (some _)=>False:=by
 refine RunsW.forLoop (P:=Z73 l o c A k b u u2 e P z) (R:=fun _=>False) (Z92 l o c A k b u u2 e P z) ?_ (n:=A.length-z) ⟨z,[],rfl,Nat.le_refl _,hz,by simp,(fun x hx=>by cases hx),by simp [vb],.inl ⟨by omega,⟨g,rfl⟩,rfl⟩⟩;rintro m Y ⟨i,O,hm,hzi,hi,hO,hOd,hv,hY⟩;by_cases hlt:i<A.length
 ·refine (Zk8 hR hF hs hA hn hP hPR hO (by omega) hlt hY).mono fun ex W hW=> ?_;obtain⟨rfl,z1,z2⟩:=hW;have hd:=zC hA i;have hl:=Zm7 (x1:=dgN A (i+1)) hP hPR hd.1;have ej:i+1-z=i-z+1:=by omega
  refine⟨A.length-(i+1),by omega,i+1,O++[((dwV A P R i:Nat):Int)],rfl,by omega,by omega,by rw[List.length_append,hO,ej];rfl,fun x hx=> ?_,?_,.inr ⟨by omega,by rw[ej];exact z1,z2⟩⟩
  ·rcases List.mem_append.1 hx with hx | hx
   ·exact hOd x hx
   ·rw[List.mem_singleton.1 hx];unfold dwV;exact⟨Int.natCast_nonneg _,Int.ofNat_lt.2 hl⟩
  ·have h1:=Zm6 (x1:=dgN A (i+1)) hPR hO hv;have h2:vb 65536 ((A.drop z).take (i-z+1))=vb 65536 ((A.drop z).take (i-z))+65536^(i-z)*dgN A i:=by
    rw[Za5,ZoD,show z+(i-z)=i by omega];rfl
   rw[ej,h2];exact h1
 ·have hil:i=A.length:=by omega
  subst hil;have hz0:dgN A A.length=0:=by unfold dgN;simp [List.getD]
  rw[List.take_of_length_le (by simp),hz0] at hv;simp only[Nat.zero_mod,Nat.mul_zero,Nat.add_zero] at hv;obtain⟨t,h',s⟩:=Y;rcases hY with ⟨h0,⟨g,ht⟩,hh⟩ | ⟨h0,⟨g,ht⟩,hh⟩
  ·simp only at ht hh;subst ht hh;refine (Zb (Zh Zd Zy) (ZtK _ _ _ _ _ _ _ _ _ _ _ _ g) (Zu (Xb (by omega)))).mono fun ex W hW=> ?_;obtain⟨rfl,⟨g',z1⟩,z2⟩:=hW;exact⟨rfl,O,hO,hOd,hv,.inl ⟨h0,⟨g',z1⟩,z2⟩⟩
  ·simp only at ht hh;subst ht hh;refine (Zb (Zh Zd Zy) (ZtK _ _ _ _ _ _ _ _ _ _ _ _ g) (Zu (Xb (by omega)))).mono fun ex W hW=> ?_;obtain⟨rfl,⟨g',z1⟩,z2⟩:=hW;exact⟨rfl,O,hO,hOd,hv,.inr ⟨h0,⟨g',z1⟩,z2⟩⟩
end
end Go.Proofs.YtgefjidphfdhdaaGreatDoor
namespace Go.Proofs.YtgefjidphfdhdaaGreatDoor
open Go.Proofs.Tryz
open Go.KRun Go.Nt
set_option maxRecDepth 100000
def Zx8 (F:Func):Code:=ZW (rPr F) (.seq (.seq (rR5 F) (.block 0 (.loop (rL1 F)))) (.seq (rIf F) (.seq (Z7z F) (.seq (.seq (Z70 F) (.block 2 (.loop (rL2 F)))) (.seq (Z4u F) (.seq (Z71 F) (.seq (.seq (Z72 F) (.block 4 (.loop (rL3 F)))) (rEn F))))))))
section
variable {l : List Value} {o c : Nat} {A : List Int}
theorem Zfg (hR:Row l o A) (hA:∀ x∈A,Dg 65536 x) (hn:A.length+2<1073741824) {k:Nat}(hk0:0<k) (hk:k<4611686018427387904) {P:Ex→Lf→Prop}{rest:Code}
  (h:∀ (g:Nat→Value) (u:Int),RunsW (Zk prog Zf Zo hcV) rest ([sl 0 o A.length c,.int .i64 (k:Nat),undef,undef,Zn,.bool false,.bool (decide (vb 65536 (A.take (k/16))≠0)),.int .i64 ((k/16:Nat):Int),.int .i64 u]++tl 80 g,⟨1,[(l,tR)]⟩,[]) P):
  RunsW (Zk prog Zf Zo hcV) (ZW (rPr f159) (.seq (.seq (rR5 f159) (.block 0 (.loop (rL1 f159)))) rest)) ([sl 0 o A.length c,.int .i64 (k:Nat)]++List.replicate 87 undef,⟨1,[(l,tR)]⟩,[]) P:=by
 have ek:k16 (k:Int)=((k/16:Nat):Int):=by unfold k16;rw[Int.tdiv_eq_ediv_of_nonneg (by omega),Zw (by omega) (by omega)];omega
 refine Zv (Zh Zd Zy) (Zxs _ A.length c k _) (Zu (Xb (by omega))) fun g=> ?_;rw[ek];refine Zg2 (Zb (Zh Zd Zy) (Z2y _ k _ _ g) (fun x hx=>by cases hx)) (fun e y he=>by cases he.1) (P2:=fun e Y=>match e with | none=>(∃ g u,Y.1=[sl 0 o A.length c,.int .i64 (k:Nat),undef,undef,Zn,.bool false,.bool (decide (vb 65536 (A.take (k/16))≠0)),.int .i64 ((k/16:Nat):Int),.int .i64 u]++tl 80 g)∧Y.2.1=⟨1,[(l,tR)]⟩ | some none=>False | some (some _)=>False) ?_ (fun e y he=>by match e,he with | none,he=>exact he | some id,he=>exact he) ?_
 ·rintro⟨t,h',s⟩ ⟨_,⟨g',ht⟩,hh⟩;simp only at ht hh;subst ht hh;exact RunsW.script (Zk6 hR hA (by omega) _ (by omega) g').w
 ·rintro⟨t,h',s⟩ ⟨⟨g',u,ht⟩,hh⟩;simp only at ht hh;subst ht hh;exact RunsW.script (h g' u)
theorem ZkA (hR:Row l o A) (hA:∀ x∈A,Dg 65536 x) (hn:A.length+2<1073741824) {k:Nat}(hk0:0<k) (hk:k<4611686018427387904) (hz:A.length≤k/16):
  RunsW (Zk prog Zf Zo hcV) (Zx8 f159) ([sl 0 o A.length c,.int .i64 (k:Nat)]++List.replicate 87 undef,⟨1,[(l,tR)]⟩,[]) fun e z=>(e=none∨e=some none)∧ZV prog f159 z.1 z.2.1=some (.tuple #[Zn,.bool (decide (vb 65536 A % 2^k≠0))]):=by
 have el:decide (vb 65536 (A.take (k/16))≠0)=decide (vb 65536 A % 2^k≠0):=by
  congr 1;have h1:=Go.Nt.lost_iff hA k;have h2:dgS A (k/16)=0:=by unfold dgS;simp [List.getD,List.getElem?_eq_none hz]
  rw[h2,Nat.zero_mod] at h1;simp only[ne_eq,not_true_eq_false,or_false] at h1;simp only[ne_eq,eq_iff_iff];exact h1.symm
 refine Zfg hR hA hn hk0 hk fun g u=> ?_;refine RunsW.seq (P1:=fun e Y=>e=some none∧(∃ g,Y.1=[sl 0 o A.length c,.int .i64 (k:Nat),undef,undef,Zn,.bool (decide (vb 65536 (A.take (k/16))≠0))]++tl 83 g)∧Y.2.1=⟨1,[(l,tR)]⟩) (Zb (Zh Zd Zy) (Zxx _ A.length c k _ u _ _ g) (Zu (Xa (by omega)))) (fun y he=>by cases he.1) (fun e y he=> ?_);obtain⟨he,⟨g',z1⟩,z2⟩:=he;refine⟨.inr he,?_⟩;rw[z1,z2,el];rfl
theorem ZoE (hR:Row l o A) (hF:Fst l o c A) (hs:∀ v∈l,still v=true) (hA:∀ x∈A,Dg 65536 x) (hn:A.length+2<1073741824) {k:Nat}(hk0:0<k) (hk:k<4611686018427387904) (hz:k/16<A.length) {V:Nat}(hV:V=vb 65536 A/2^k):
  RunsW (Zk prog Zf Zo hcV) (Zx8 f159) ([sl 0 o A.length c,.int .i64 (k:Nat)]++List.replicate 87 undef,⟨1,[(l,tR)]⟩,[]) fun e z=>(e=none∨e=some none)∧ZV prog f159 z.1 z.2.1=some (.tuple #[sl 1 0 (d16 V).length (d16 V).length,.bool (decide (vb 65536 A % 2^k≠0))])∧∃ r,z.2.1.blk? 1=some (wU (d16 V)++r,tU):=by
 have hP0:0<2^(k % 16):=Nat.pow_pos (by omega);have hPR:=ZhB (s:=k % 16) (by omega);have hPb:2^(k % 16)≤32768:=by
  have:=Nat.pow_le_pow_right (show 0<2 by omega) (show k % 16≤15 by omega);omega
 have hd:=zC hA (k/16);have hl:=Go.Nt.lost_iff hA k;refine Zfg hR hA hn hk0 hk fun g u=> ?_;refine RunsW.seq (P1:=fun e Y=>e=none∧(∃ g,Y.1=[sl 0 o A.length c,.int .i64 (k:Nat),undef,undef,Zn,.bool false,.bool (decide (vb 65536 (A.take (k/16))≠0)),.int .i64 ((k/16:Nat):Int),.int .i64 u]++tl 80 g)∧Y.2.1=⟨1,[(l,tR)]⟩) (Zb (Zh Zd Zy) (Zxy _ A.length c k _ u _ _ g) (Zu (Xb (by omega)))) ?_ (fun e y he=>by cases he.1);rintro⟨t,h',s⟩ ⟨_,⟨g,ht⟩,hh⟩;simp only at ht hh;subst ht hh;refine RunsW.seq (P1:=fun e Y=>e=none∧(∃ g,Y.1=[sl 0 o A.length c,.int .i64 (k:Nat),undef,undef,Zn,.bool false,.bool (decide (vb 65536 (A.take (k/16))≠0)),.int .i64 ((k/16:Nat):Int),.int .i64 u,.int .u32 1]++tl 79 g)∧Y.2.1=⟨1,[(l,tR)]⟩) (Zb (Zh Zd Zy) (Zxz _ k _ u _ _ g) (fun x hx=>by cases hx)) ?_ (fun e y he=>by cases he.1);rintro⟨t,h',s⟩ ⟨_,⟨g,ht⟩,hh⟩;simp only at ht hh;subst ht hh;refine Zg2 (Zb (Zh Zd Zy) (Zx0 _ k _ u _ _ g) (fun x hx=>by cases hx)) (fun e y he=>by cases he.1) (P2:=fun e Y=>match e with | none=>(∃ g u2,Y.1=[sl 0 o A.length c,.int .i64 (k:Nat),undef,undef,Zn,.bool false,.bool (decide (vb 65536 (A.take (k/16))≠0)),.int .i64 ((k/16:Nat):Int),.int .i64 u,.int .u32 ((2^(k % 16):Nat):Int),.int .i64 u2]++tl 78 g)∧Y.2.1=⟨1,[(l,tR)]⟩ | some none=>False | some (some _)=>False) ?_ (fun e y he=>by match e,he with | none,he=>exact he | some id,he=>exact he) ?_
 ·rintro⟨t,h',s⟩ ⟨_,⟨g',ht⟩,hh⟩;simp only at ht hh;subst ht hh;exact RunsW.script (Zk7 _ k _ u _ _ g').w
 rintro⟨t,h',s⟩ ⟨⟨g,u2,ht⟩,hh⟩;simp only at ht hh;subst ht hh;refine RunsW.seq (P1:=fun e Y=>e=none∧(∃ g,Y.1=[sl 0 o A.length c,.int .i64 (k:Nat),undef,undef,Zn,.bool false,.bool (decide (vb 65536 A % 2^k≠0)),.int .i64 ((k/16:Nat):Int),.int .i64 u,.int .u32 ((2^(k % 16):Nat):Int),.int .i64 u2]++tl 78 g)∧Y.2.1=⟨1,[(l,tR)]⟩) ?_ ?_ (fun e y he=>by cases he.1)
 ·by_cases h0:vb 65536 (A.take (k/16))=0
  ·rw[Xb (show ¬ (vb 65536 (A.take (k/16))≠0) by omega)];have ev:(((A.getD (k/16) 0)).tmod ((2^(k % 16):Nat):Int) !=0)=decide (vb 65536 A % 2^k≠0):=by
    rw[← hd.2,Int.tmod_eq_emod_of_nonneg (by omega),show ((dgN A (k/16):Nat):Int) % ((2^(k % 16):Nat):Int)=((dgN A (k/16) % 2^(k % 16):Nat):Int) from rfl,Bool.eq_iff_iff];rw[h0] at hl;simp only[ne_eq,not_true_eq_false,false_or] at hl;simp only[bne_iff_ne,ne_eq,Xi,hl,ZtJ];omega
   refine (Zb (Zh Zd Zy) (Zx2 o A.length c k ((k/16:Nat):Int) u u2 ((2^(k % 16):Nat):Int) (A.getD (k/16) 0) l (decide (vb 65536 A % 2^k≠0)) g) (Zj ev (Zj (Xb (by omega)) (Zj (by rw[Xg,Nat.mul_one,hR.cell hz];simp [Z4]) (Zu (Xa (by omega))))))).mono fun e w hw=>hw
  ·rw[Xa h0,Xa (hl.2 (.inl h0))];exact Zb (Zh Zd Zy) (Zx1 _ k _ u u2 _ _ g) (fun x hx=>by cases hx)
 rintro⟨t,h',s⟩ ⟨_,⟨g,ht⟩,hh⟩;simp only at ht hh;subst ht hh;refine RunsW.seq (P1:=fun e Y=>e=none∧(∃ g,Y.1=[sl 0 o A.length c,.int .i64 (k:Nat),undef,undef,Zn,.bool false,.bool (decide (vb 65536 A % 2^k≠0)),.int .i64 ((k/16:Nat):Int),.int .i64 u,.int .u32 ((2^(k % 16):Nat):Int),.int .i64 u2,Zn]++tl 77 g)∧Y.2.1=⟨1,[(l,tR)]⟩) (Zb (Zh Zd Zy) (Zx3 _ k _ u u2 _ _ _ g) (fun x hx=>by cases hx)) ?_ (fun e y he=>by cases he.1);rintro⟨t,h',s⟩ ⟨_,⟨g,ht⟩,hh⟩;simp only at ht hh;subst ht hh;refine Zg2 (Zb (Zh Zd Zy) (Zx4 _ k _ u u2 _ _ _ g) (fun x hx=>by cases hx)) (fun e y he=>by cases he.1) (P2:=fun e Y=>match e with | none=>Z73 l o c A k ((k/16:Nat):Int) u u2 (decide (vb 65536 A % 2^k≠0)) (2^(k % 16)) (k/16) Y | some none=>False | some (some _)=>False) ?_ (fun e y he=>by match e,he with | none,he=>exact he | some id,he=>exact he) ?_
 ·rintro⟨t,h',s⟩ ⟨_,⟨g',ht⟩,hh⟩;simp only at ht hh;subst ht hh;exact RunsW.script (Zk9 hR hF hs hA hn hP0 hPR (by omega) g')
 rintro⟨t,h',s⟩ ⟨O,hO,hOd,hv,hY⟩;rcases hY with ⟨e0,_⟩ | ⟨_,⟨g',ht⟩,hh⟩
 ·omega
 ·simp only at ht hh;subst ht hh;have hval:vb 65536 O=V:=by rw[hV];exact ZqG hA hv
  have hrow:ZaQ tU (wU O) 0 (A.length-k/16) grown=true:=by
   rw[← hO];exact Zal (fun x hx=>⟨(hOd x hx).1,by have:=(hOd x hx).2;omega⟩) (by omega) (ZyJ _)
  refine (Zb (Zh Zd Zy) (Zx7 _ k _ u u2 _ _ _ (A.length-k/16) (l,tR) (wU O) g') (Zu hrow)).mono fun e z he=> ?_;obtain⟨rfl,⟨g2,e1⟩,e2⟩:=he;have et:Zi (Zz (wU O) 0 (A.length-k/16))=(d16 V).length:=by
   rw[← hO,ZaV,Zaj (by omega) hOd,hval];rfl
  refine⟨.inr rfl,?_,?_⟩
  ·rw[e1,e2,et];rfl
  ·rw[e2];refine⟨wU (O.drop (Zi O)),?_⟩;have e3:wU (d16 V)++wU (O.drop (Zi O))=wU O:=by
    unfold d16;rw[← hval,← zf (by omega) _ hOd,← ZU,List.take_append_drop]
   rw[e3];rfl
end
theorem Zfh:f159.body=some (Zx8 f159):=ZoA
theorem ZgY {ty:TypeId}{l:List Value}{o n c:Nat}(r:ZaQ ty l o n c=true) (hs:∀ v∈l,still v=true):Fst l o c (Zz l o n):=by
 intro h hb;have hlen:=(zj r).2.1;rw[hlen];constructor
 ·simp only[zx,hb,Xh];refine⟨?_,List.all_eq_true.2 hs⟩;unfold ZaQ at r ⊢;simp only[Xh,Bool.not_eq_true'] at r ⊢;obtain⟨⟨⟨⟨⟨⟨_,_⟩,p3⟩,p4⟩,p5⟩,p6⟩,p7⟩:=r;exact⟨⟨⟨⟨⟨⟨Zbp,by kernel_rfl⟩,p3⟩,p4⟩,p5⟩,p6⟩,p7⟩
 ·simp [Zm,hb]
def Ze7 (h:Hp) (p:Option Addr) (n c:Nat) (k:Int):Bool:=zx h p n c && dgB (Zm h p n) && Nat.blt (n+2) 1073741824 && decide (0<k∧k<4611686018427387904)
def Zx9:Zae:=fun vals h s=>
 match vals,s with
 | [.slice p n c,.int .i64 k],.inr (.inr (.inr (.inl d))):: .inr (.inr (.inr (.inl e)))::s'=>
  match d with
  | true=>some (.tuple #[sl h.n 0 (d16 (vO h p n/2^k.toNat)).length (d16 (vO h p n/2^k.toNat)).length,.bool e],h.push (wU (d16 (vO h p n/2^k.toNat))) tU,s',[(decide (vO h p n % 2^k.toNat≠0),e),(decide (k.toNat/16<n),true),(Ze7 h p n c k,true)])
  | false=>some (.tuple #[Zn,.bool e],h,s',[(decide (vO h p n % 2^k.toNat≠0),e),(decide (k.toNat/16<n),false),(Ze7 h p n c k,true)])
 | _,_=>none
theorem Zsi:Z6 159 Zx9:=by
 intro vals h s v h' s' lg hg hl m B w E hv;unfold Zx9 at hg;split at hg
 ·rename_i p n c k d e s2;split at hg
  ·cases hg;have l1:=hl _ (Xe);have l2:=hl _ (Xd _ (Xe));have l3:=hl _ (Xd _ (Xd _ Xf));simp only at l1 l2 l3;simp only[Ze7,Xh,Xi] at l2 l3;obtain⟨⟨⟨q1,q2⟩,q3⟩,q4⟩:=l3;have q2:=Zbu q2;have q3:=Zl.1 q3;obtain⟨K,rfl⟩:=Int.eq_ofNat_of_zero_le (show 0≤k by omega);rw[Xg] at l1 l2 ⊢;rcases ZC q1 with ⟨rfl,rfl,rfl,e0⟩ | ⟨b,o,x,rfl,hx,r1,rs,e0⟩
   ·omega
   ·rw[e0] at q2;obtain⟨h1,h2,h3,h4,h5,h6,h7⟩:=zj r1;have ev:vO h (some ⟨b,o,none⟩) n=vb 65536 (Zz x.1 o n):=by unfold vO;rw[e0]
    have r:=ZoE h1 (ZgY r1 rs) rs q2 (by rw[h2];exact q3) (k:=K) (by omega) (by omega) (by rw[h2];exact l2) rfl;rw[h2,← ev,l1] at r;have e2:∀ L:Nat,rn (fun _=>h.n) (.tuple #[sl 1 0 L L,.bool e])= .tuple #[sl h.n 0 L L,.bool e]:=fun L=>by simp [rn,rn2,rn1,sl]
    have fin:=ZI (T:=Zk prog Zf Zo hcV) func159 Zfh (ZaH h7) (vals:=[sl 0 o n c,.int .i64 (K:Nat)]) (fun v hv=>by
     simp only[List.mem_cons,List.not_mem_nil,or_false] at hv;rcases hv with rfl | rfl<;>rfl) (k:=1) (cs:=wU (d16 (vO h (some ⟨b,o,none⟩) n/2^K))) (ty:=tU) (ZaX _) (by kernel_rfl) r (by rfl) E (s:=fun _=>b) (zS hx h5 h6 rfl)
    rw[e2] at fin;exact fin
  ·cases hg;have l1:=hl _ (Xe);have l2:=hl _ (Xd _ (Xe));have l3:=hl _ (Xd _ (Xd _ Xf));simp only at l1 l2 l3;simp only[Ze7,Xh,Xi,decide_eq_false_iff_not] at l2 l3;obtain⟨⟨⟨q1,q2⟩,q3⟩,q4⟩:=l3;have q2:=Zbu q2;have q3:=Zl.1 q3;obtain⟨K,rfl⟩:=Int.eq_ofNat_of_zero_le (show 0≤k by omega);rw[Xg] at l1 l2;by_cases hn:n=0
   ·subst hn;have hlen:=z6 q1;have e0:Zm h p 0=[]:=List.length_eq_zero_iff.1 hlen;have ev:vO h p 0=0:=by unfold vO;rw[e0];rfl
    have ee:e=false:=by rw[← l1,ev];simp
    subst ee;obtain⟨x,p',a,NA,eA,fA⟩:=Zb0 0 q1;have ek:k16 (K:Int)=((K/16:Nat):Int):=by unfold k16;rw[Int.tdiv_eq_ediv_of_nonneg (by omega),Zw (by omega) (by omega)];omega
    have hr:Runs (Zk prog Zf Zo hcV) (Zs f159) ([.slice p' 0 c,.int .i64 (K:Nat)]++List.replicate 87 undef,⟨1,[x]⟩,[]) fun e z=>(e=none∨e=some none)∧ZV prog f159 z.1 z.2.1=some (.tuple #[Zn,.bool false]):=by
     by_cases hk:0<K/16
     ·refine (Zc (Zh Zd Zy) (ZoB p' c K _) (Zj (show decide (k16 (K:Int)≥((0:Nat):Int))=true by rw[ek];exact Xa (by omega)) (Zj rfl (Zj (show decide (0<k16 (K:Int))=true by rw[ek];exact Xa (by omega)) (Zu (Xb (by omega))))))).mono fun e z he=> ?_;obtain⟨rfl,⟨g,e2⟩,e3⟩:=he;refine⟨.inr rfl,?_⟩;rw[e2,e3];rfl
     ·refine (Zc (Zh Zd Zy) (Zk5 p' c K _) (Zj (show decide (k16 (K:Int)≥((0:Nat):Int))=true by rw[ek];exact Xa (by omega)) (Zj (show decide (0<k16 (K:Int))=false by rw[ek];exact Xb (by omega)) (Zu (Xb (by omega)))))).mono fun e z he=> ?_;obtain⟨rfl,⟨g,e2⟩,e3⟩:=he;refine⟨.inr rfl,?_⟩;rw[e2,e3];rfl
    have:=ZB (T:=Zk prog Zf Zo hcV) func159 Zk4 (h0:=⟨1,[x]⟩) ⟨rfl,fun b z hz=>by obtain⟨_,rfl⟩:=ZgX hz;exact⟨NA.ros.1,NA.lt0,NA.ros.2⟩⟩ (vals:=[.slice p' 0 c,.int .i64 (K:Nat)]) (fun v hv=>by
     simp only[List.mem_cons,List.not_mem_nil,or_false] at hv;rcases hv with rfl | rfl
     ·exact NA.lt (by show 0<1;omega)
     ·rfl) (by rfl) hr.w E (s:=fun _=>a) (fun i z hz ht=>by obtain⟨_,rfl⟩:=ZgX hz;exact fA ht)
    simp only[List.map_cons,List.map_nil] at this;rw[eA _ rfl] at this;exact this
   ·rcases ZC q1 with ⟨rfl,rfl,rfl,e0⟩ | ⟨b,o,x,rfl,hx,r1,rs,e0⟩
    ·exact absurd rfl hn
    ·rw[e0] at q2;obtain⟨h1,h2,h3,h4,h5,h6,h7⟩:=zj r1;have ev:vO h (some ⟨b,o,none⟩) n=vb 65536 (Zz x.1 o n):=by unfold vO;rw[e0]
     have r:=ZkA (c:=c) h1 q2 (by rw[h2];exact q3) (k:=K) (by omega) (by omega) (by rw[h2];omega);rw[h2,← ev,l1] at r;exact ZB (T:=Zk prog Zf Zo hcV) func159 Zfh (ZaH h7) (vals:=[sl 0 o n c,.int .i64 (K:Nat)]) (fun v hv=>by
      simp only[List.mem_cons,List.not_mem_nil,or_false] at hv;rcases hv with rfl | rfl<;>rfl) (by rfl) r E (s:=fun _=>b) (zS hx h5 h6 rfl)
 ·cases hg
def hcW:Hc:=ZY 34 Zxe (ZY 110 Zxj (ZY 160 Zxr (ZY 159 Zx9 (ZY 36 Zqy (ZY 33 Zqa (ZY 71 Zqf (ZY 35 ZlS (ZY 65 ZlY hcV))))))))
theorem ZN:HcOk hcW:=Zt func34 rfl Zex (Zt func110 rfl Zsa (Zt func160 rfl Zsh (Zt func159 rfl Zsi (Zt func36 rfl Zf1 (Zt func33 rfl Zfx (Zt func71 rfl Zi5 (Zt func35 rfl Zfy (Zt func65 rfl Zf0 Zy))))))))
end Go.Proofs.YtgefjidphfdhdaaGreatDoor
namespace Go.Proofs.YtgefjidphfdhdaaGreatDoor
open Go.KRun Go.Nt
def bOf (m:Bool) (e:Int) (v:Value):List Value×TypeId:=([.bool m,.int .i64 e,v],56)
def sOf (b V:Nat):Value:=sl b 0 (d16 V).length (d16 V).length
def vRN (m:Bool) (e:Int) (v:Value):Value:= .agg #[.bool m,.int .i64 e,v]
end Go.Proofs.YtgefjidphfdhdaaGreatDoor
namespace Go.Proofs.YtgefjidphfdhdaaGreatDoor
open Go.KRun Go.Nt Go.Wd
set_option maxRecDepth 100000
def nxt (h:Hp) (V:Nat):Hp:=h.push (wU (d16 V)) tU
def ZcK:Bool×Bool:=(decide (0≤(1:Int)∧(1:Int)<18446744073709551616),true)
theorem zV:(d16 1).length=1:=by
 unfold d16;rw[ZaU (by omega) (by omega),show 1/65536=0 from rfl,zc];rfl
theorem Zjz {A:Nat}(h:¬ 0<(d16 A).length):A=0:=by
 have:d16 A=[]:=List.length_eq_zero_iff.1 (by omega);exact (Zcc (by omega)).1 this
end Go.Proofs.YtgefjidphfdhdaaGreatDoor
