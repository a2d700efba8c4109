/-
  RfF, RfG, RfR, RfS, RfT, RfU, RfV, ToS, ToD, ToA, PtA, ToC, QuR, ConVN
-/
import Derived.Test.YtekebccjflilnaaGreatG13
namespace Go.Proofs.YtekebccjflilnaaGreat
open Go.Proofs.Tryz
open Go.KRun Go.Nt Go.Wd Go.Rn
set_option maxRecDepth 100000
set_option linter.unusedVariables false
section
variable {l : List Value} {o c : Nat} {A : List Int}
def Zmd (s:Bool) (neg:Bool) (E:Int) (o n c:Nat) (l:List Value) (q:Nat):List (List Value×TypeId):=match s with | true=>[(wU (d16 q),tU),bX neg E o n c,(l,tR)] | false=>[bX neg E o n c,(l,tR)]
def kS (s:Bool):Nat:=match s with | true=>3 | false=>2
theorem ZtJ (s neg:Bool) (E:Int) (n q:Nat):hS s neg E o n c l q=⟨kS s,Zmd s neg E o n c l q⟩:=by cases s<;>rfl
theorem ZtK (s neg:Bool) (E:Int) (n q:Nat) (hl:∀ v∈l,still v=true):∀ x∈Zmd s neg E o n c l q,∀ v∈x.1,lt1 (kS s) v=true:=by
 have hb:∀ k,0<k→∀ v∈(bX neg E o n c).1,lt1 k v=true:=fun k hk v hv=>by
  simp only[bX,bOf,List.mem_cons,List.not_mem_nil,or_false] at hv;rcases hv with rfl | rfl | rfl
  ·rfl
  ·rfl
  ·exact Zk.2 hk
 intro x hx v hv;cases s with
 | true=>
  simp only[Zmd,List.mem_cons,List.not_mem_nil,or_false] at hx;rcases hx with rfl | rfl | rfl
  ·exact ZI (Nat.zero_le _) (Zbu _ v hv)
  ·exact hb 3 (by omega) v hv
  ·exact ZcK (by decide) (hl v hv)
 | false=>
  simp only[Zmd,List.mem_cons,List.not_mem_nil,or_false] at hx;rcases hx with rfl | rfl
  ·exact hb 2 (by omega) v hv
  ·exact ZcK (by decide) (hl v hv)
theorem Z1i (s:Bool) {neg:Bool}{E N M:Int}{n q:Nat}{b:Int}{half:Bool}:∀ v∈fT neg E N M o n c b (qS s q)++[.bool true,.bool half],lt (kS s) v=true:=by
 intro v hv;simp only[fT,List.mem_append,List.mem_cons,List.not_mem_nil,or_false] at hv;rcases hv with (rfl | rfl | rfl | rfl | rfl | rfl | rfl | rfl | rfl | rfl) | rfl | rfl<;>cases s<;>rfl
theorem ZbC (s:Bool) {neg:Bool}{E N M:Int}{n q:Nat}{b:Int}{half just:Bool}{X:Code}{P:Ex→Lf→Prop}(hl:∀ v∈l,still v=true)
  (h:∀ J g,RunsW (Zp prog Zh Zo hcW) X (fT neg E N M o n c b (qS s q)++[.bool true,.bool half,J,.bool just]++tl 92 g,hS s neg E o n c l q,[]) P)
  (u:Value) (g:Nat→Value) (sc:List Dec) {hp:Hp}{extra:List (List Value×TypeId)}(he:hp=⟨extra.length+kS s,extra++Zmd s neg E o n c l q⟩):
  RunsW (Zp prog Zh Zo hcW) X (fT neg E N M o n c b (qS s q)++[.bool true,.bool half,u,.bool just]++tl 92 g,hp,sc) P:=by
 have e1:∀ v:Value,fT neg E N M o n c b (qS s q)++[.bool true,.bool half,v,.bool just]=(fT neg E N M o n c b (qS s q)++[.bool true,.bool half])++v::[.bool just]:=fun v=>by simp
 rw[he,e1];refine RunsW.pre (k:=kS s) (s':=[]) (fun j g=> ?_) (by cases s<;>rfl) rfl (by cases s<;>decide) (ZtK s neg E n q hl) (Z1i s) (fun v hv=>by rw[List.mem_singleton.1 hv];rfl);rw[← e1,← ZtJ];exact h j g
theorem ZdA {x y:Nat}:(Zax x y==0)=decide (x=y):=by
 unfold Zax;by_cases h1:x<y
 ·rw[if_pos h1,Xb (by omega)];rfl
 ·rw[if_neg h1];by_cases h2:x=y
  ·rw[if_pos h2,Xa h2];rfl
  ·rw[if_neg h2,Xb h2];rfl
theorem ZtL (s:Bool) (hF:Fst l o c A) (hl:∀ v∈l,still v=true) (hC:Zap 65536 A) (hn:A.length<1000000) {neg:Bool}{E N M:Int}{q k:Nat}(hk:k<1000000) (hq:q=vb 65536 A/2^(k+1)) (hs:s=decide ((k+1)/16<A.length)) (hlost:vb 65536 A % 2^(k+1)≠0) {half:Bool}{X:Code}{P:Ex→Lf→Prop}
  (h:∀ J g,RunsW (Zp prog Zh Zo hcW) X (fT neg E N M o A.length c ((k+1:Nat):Int) (qS s q)++[.bool true,.bool half,J,.bool (half && decide (vb 65536 A % 2^(k+1)=2^k))]++tl 92 g,hS s neg E o A.length c l q,[]) P) (g:Nat→Value):
  RunsW (Zp prog Zh Zo hcW) (Zaz (tS2 f67) X) (fT neg E N M o A.length c ((k+1:Nat):Int) (qS s q)++[.bool true,.bool half]++tl 94 g,hS s neg E o A.length c l q,[]) P:=by
 have hT0:vb 65536 A≠0:=fun h0=>hlost (by rw[h0];exact Nat.zero_mod _);have hn0:0<A.length:=by
  rcases Nat.eq_zero_or_pos A.length with h0 | h0
  ·have:A=[]:=List.length_eq_zero_iff.1 h0;subst this;exact absurd rfl hT0
  ·exact h0
 have hp:0<2^(k+1):=Nat.pow_pos (by omega);have hdm:=Nat.div_add_mod (vb 65536 A) (2^(k+1));rw[← hq] at hdm;have hqle:q≤vb 65536 A:=by rw[hq];exact Nat.div_le_self _ _
 have hTl:vb 65536 A<65536^A.length:=Zcu (by omega) A hC.1;have lenOf:∀ V,V≤vb 65536 A→(d16 V).length≤A.length:=fun V hV=>Zd0 (by omega) _ V (by omega);have hql:=lenOf q hqle;have e1:dif ((k+1:Nat):Int) 1=(k:Int):=by unfold dif;rw[ZL (by omega) (by omega)];omega
 have e2:(((k+1:Nat):Int)).toNat=k+1:=by omega
 have hA3:(d16 (1*2^k)).length≤k+1:=Zd0 (by omega) _ _ (by
  rw[ZdH];have:=Nat.pow_lt_pow_right (show 1<2 by omega) (show k<16*(k+1) by omega);omega)
 have b1:∀ q',(hS s neg E o A.length c l q').blk? 0=some (l,tR):=fun q'=>by cases s<;>rfl
 have sq0:s=false→q=0:=fun h0=>by
  rw[h0] at hs;have h1:=of_decide_eq_false hs.symm;rw[hq];refine Nat.div_eq_of_lt (Nat.lt_of_lt_of_le hTl ?_);rw[ZdH];exact Nat.pow_le_pow_right (by omega) (by omega)
 have hlen:=Zay hF hC (by omega) (b1 q);have hvT:=Zba hF (b1 q);by_cases hdl:((k+1:Nat):Int)≤((bl (vb 65536 A):Nat):Int)
 ·by_cases hdq:0<(d16 q).length
  ·
   have hq1:=Zmc hdq;cases s with
   | false=>exact absurd (sq0 rfl) hq1
   | true=>
    simp only[hS,qS] at*;have r2:(hQ neg E o A.length c l q).blk? 2=some (wU (d16 q),tU):=rfl;have hsub:vb 65536 A-q*2^(k+1)=vb 65536 A % 2^(k+1):=by rw[Nat.mul_comm];omega
    have hle:q*2^(k+1)≤vb 65536 A:=by rw[Nat.mul_comm];omega
    have eA:vO (hQ neg E o A.length c l q) (some ⟨2,0,none⟩) (d16 q).length*2^(((k+1:Nat):Int)).toNat=q*2^(k+1):=by rw[zq (A:=q) (ty:=tU) rfl,e2]
    have lA:=lenOf _ hle;have lS:=lenOf (vb 65536 A % 2^(k+1)) (Nat.mod_le _ _);have eS:vO (nxt (hQ neg E o A.length c l q) (q*2^(k+1))) (aX o) A.length-vO (nxt (hQ neg E o A.length c l q) (q*2^(k+1))) (some ⟨3,0,none⟩) (d16 (q*2^(k+1))).length=vb 65536 A % 2^(k+1):=by
     rw[Zba hF rfl,zq (A:=q*2^(k+1)) (ty:=tU) rfl,hsub]
    have g1:Zx [(Z6 (nxt (hQ neg E o A.length c l q) (q*2^(k+1))) (aX o) (some ⟨3,0,none⟩) A.length c (d16 (q*2^(k+1))).length (d16 (q*2^(k+1))).length && Nat.ble (vO (nxt (hQ neg E o A.length c l q) (q*2^(k+1))) (some ⟨3,0,none⟩) (d16 (q*2^(k+1))).length) (vO (nxt (hQ neg E o A.length c l q) (q*2^(k+1))) (aX o) A.length),true),(decide (0<A.length),true),(ZM (hQ neg E o A.length c l q) (some ⟨2,0,none⟩) (d16 q).length (d16 q).length ((k+1:Nat):Int),true),(decide (0<(d16 q).length),true),(decide (((k+1:Nat):Int)≤((bl (vO (hQ neg E o A.length c l q) (aX o) A.length):Nat):Int)),true),(zJ (hQ neg E o A.length c l q) (aX o) A.length c,true)]:=by
     have p5:decide (((k+1:Nat):Int)≤((bl (vO (hQ neg E o A.length c l q) (aX o) A.length):Nat):Int))=true:=by rw[hvT];exact Xa hdl
     have p3:ZM (hQ neg E o A.length c l q) (some ⟨2,0,none⟩) (d16 q).length (d16 q).length ((k+1:Nat):Int)=true:=ZaH r2 (by omega) (by omega);have p6:zJ (hQ neg E o A.length c l q) (aX o) A.length c=true:=Zay hF hC (by omega) rfl;have p2:decide (0<A.length)=true:=Xa hn0;have p4:decide (0<(d16 q).length)=true:=Xa hdq;refine Za ?_ (Za p2 (Za p3 (Za p4 (Za p5 (Zz p6)))));rw[Zg3 hF hC (by omega) rfl (V:=q*2^(k+1)) rfl (by omega),Zba hF rfl,zq (A:=q*2^(k+1)) (ty:=tU) rfl,Nat.ble_eq_true_of_le hle];rfl
    cases half with
    | false=>
     refine Z0 (Zg Zd Z4) (Zt5 neg false E N M _ o A.length c q l g) (by rw[eA];exact g1) fun g'=> ?_;rw[eA,eS];exact ZbC true (q:=q) hl h _ g' _ (extra:=[(wU (d16 (vb 65536 A % 2^(k+1))),tU),(wU (d16 (q*2^(k+1))),tU)]) rfl
    | true=>
     have eP:vO (nxt (nxt (nxt (hQ neg E o A.length c l q) (q*2^(k+1))) (vb 65536 A % 2^(k+1))) 1) (some ⟨5,0,none⟩) (d16 1).length*2^(dif ((k+1:Nat):Int) 1).toNat=1*2^k:=by rw[zq (A:=1) (ty:=tU) rfl,e1,Xg]
     refine Z0 (Zg Zd Z4) (Zt6 neg (decide (vb 65536 A % 2^(k+1)=2^k)) E N M _ o A.length c q l g) ?_ fun g'=> ?_
     ·rw[eA,eS,eP];refine Zt ?_ (Zt (Zc2 (A:=vb 65536 A % 2^(k+1)) (A':=1*2^k) rfl rfl (by omega) (by omega)) (Zt (by rw[e1];exact ZaH (A:=1) rfl (by omega) (by rw[zy];omega)) (Zt (Xa (by rw[zy];omega)) (Zt (by decide) g1))));dsimp only;rw[zq (A:=vb 65536 A % 2^(k+1)) (ty:=tU) rfl,zq (A:=1*2^k) (ty:=tU) rfl,ZdA,Nat.one_mul]
     ·rw[eA,eS,eP];exact ZbC true (q:=q) hl h _ g' _ (extra:=[(wU (d16 (1*2^k)),tU),(wU (d16 1),tU),(wU (d16 (vb 65536 A % 2^(k+1))),tU),(wU (d16 (q*2^(k+1))),tU)]) rfl
  ·
   have hq1:q=0:=ZaW hdq;have hTm:vb 65536 A % 2^(k+1)=vb 65536 A:=by rw[hq1,Nat.mul_zero,Nat.zero_add] at hdm;exact hdm
   cases s with
   | true=>
    simp only[hS,qS] at*;have p6:zJ (hQ neg E o A.length c l q) (aX o) A.length c=true:=Zay hF hC (by omega) rfl;have w1:vO (hQ neg E o A.length c l q) (aX o) A.length=vb 65536 A:=Zba hF rfl;have p2:decide (0<A.length)=true:=Xa hn0;have eS:(vO (hQ neg E o A.length c l q) (aX o) A.length-vO (hQ neg E o A.length c l q) none 0)=vb 65536 A % 2^(k+1):=by rw[w1,Zd9,Nat.sub_zero,hTm]
    have p5:decide (((k+1:Nat):Int)≤((bl (vO (hQ neg E o A.length c l q) (aX o) A.length):Nat):Int))=true:=by rw[w1];exact Xa hdl
    have p3:zS (hQ neg E o A.length c l q) (some ⟨2,0,none⟩) (d16 q).length (d16 q).length=true:=ZE (A:=q) rfl (by omega);have p4:decide (0<(d16 q).length)=false:=Xb hdq;have p1:(Z6 (hQ neg E o A.length c l q) (aX o) none A.length c 0 0 && Nat.ble (vO (hQ neg E o A.length c l q) none 0) (vO (hQ neg E o A.length c l q) (aX o) A.length))=true:=by rw[ZhK hF hC (by omega) rfl,Zd9];rfl
    have lS:=lenOf (vb 65536 A % 2^(k+1)) (Nat.mod_le _ _);cases half with
    | false=>
     refine Z0 (Zg Zd Z4) (Zt7 neg false E N M _ o A.length c q l g) (Za p1 (Za p2 (Za p3 (Za p4 (Za p5 (Zz p6)))))) fun g'=> ?_;rw[eS];exact ZbC true (q:=q) hl h _ g' _ (extra:=[(wU (d16 (vb 65536 A % 2^(k+1))),tU)]) rfl
    | true=>
     have eP:vO (nxt (nxt (hQ neg E o A.length c l q) (vb 65536 A % 2^(k+1))) 1) (some ⟨4,0,none⟩) (d16 1).length*2^(dif ((k+1:Nat):Int) 1).toNat=1*2^k:=by rw[zq (A:=1) (ty:=tU) rfl,e1,Xg]
     refine Z0 (Zg Zd Z4) (Zt8 neg (decide (vb 65536 A % 2^(k+1)=2^k)) E N M _ o A.length c q l g) ?_ fun g'=> ?_
     ·rw[eS,eP];refine Zt ?_ (Zt (Zc2 (A:=vb 65536 A % 2^(k+1)) (A':=1*2^k) rfl rfl (by omega) (by omega)) (Zt (by rw[e1];exact ZaH (A:=1) rfl (by omega) (by rw[zy];omega)) (Zt (Xa (by rw[zy];omega)) (Zt (by decide) (Za p1 (Za p2 (Za p3 (Za p4 (Za p5 (Zz p6))))))))));dsimp only;rw[zq (A:=vb 65536 A % 2^(k+1)) (ty:=tU) rfl,zq (A:=1*2^k) (ty:=tU) rfl,ZdA,Nat.one_mul]
     ·rw[eS,eP];exact ZbC true (q:=q) hl h _ g' _ (extra:=[(wU (d16 (1*2^k)),tU),(wU (d16 1),tU),(wU (d16 (vb 65536 A % 2^(k+1))),tU)]) rfl
   | false=>
    simp only[hS,qS] at*;have p6:zJ (hX neg E o A.length c l) (aX o) A.length c=true:=Zay hF hC (by omega) rfl;have w1:vO (hX neg E o A.length c l) (aX o) A.length=vb 65536 A:=Zba hF rfl;have p2:decide (0<A.length)=true:=Xa hn0;have eS:(vO (hX neg E o A.length c l) (aX o) A.length-vO (hX neg E o A.length c l) none 0)=vb 65536 A % 2^(k+1):=by rw[w1,Zd9,Nat.sub_zero,hTm]
    have p5:decide (((k+1:Nat):Int)≤((bl (vO (hX neg E o A.length c l) (aX o) A.length):Nat):Int))=true:=by rw[w1];exact Xa hdl
    have p3:zS (hX neg E o A.length c l) none 0 0=true:=rfl;have p4:decide (0<0)=false:=rfl;have p1:(Z6 (hX neg E o A.length c l) (aX o) none A.length c 0 0 && Nat.ble (vO (hX neg E o A.length c l) none 0) (vO (hX neg E o A.length c l) (aX o) A.length))=true:=by rw[ZhK hF hC (by omega) rfl,Zd9];rfl
    have lS:=lenOf (vb 65536 A % 2^(k+1)) (Nat.mod_le _ _);cases half with
    | false=>
     refine Z0 (Zg Zd Z4) (ZtB neg false E N M _ o A.length c q l g) (Za p1 (Za p2 (Za p3 (Za p4 (Za p5 (Zz p6)))))) fun g'=> ?_;rw[eS];exact ZbC false (q:=q) hl h _ g' _ (extra:=[(wU (d16 (vb 65536 A % 2^(k+1))),tU)]) rfl
    | true=>
     have eP:vO (nxt (nxt (hX neg E o A.length c l) (vb 65536 A % 2^(k+1))) 1) (some ⟨3,0,none⟩) (d16 1).length*2^(dif ((k+1:Nat):Int) 1).toNat=1*2^k:=by rw[zq (A:=1) (ty:=tU) rfl,e1,Xg]
     refine Z0 (Zg Zd Z4) (ZtC neg (decide (vb 65536 A % 2^(k+1)=2^k)) E N M _ o A.length c q l g) ?_ fun g'=> ?_
     ·rw[eS,eP];refine Zt ?_ (Zt (Zc2 (A:=vb 65536 A % 2^(k+1)) (A':=1*2^k) rfl rfl (by omega) (by omega)) (Zt (by rw[e1];exact ZaH (A:=1) rfl (by omega) (by rw[zy];omega)) (Zt (Xa (by rw[zy];omega)) (Zt (by decide) (Za p1 (Za p2 (Za p3 (Za p4 (Za p5 (Zz p6))))))))));dsimp only;rw[zq (A:=vb 65536 A % 2^(k+1)) (ty:=tU) rfl,zq (A:=1*2^k) (ty:=tU) rfl,ZdA,Nat.one_mul]
     ·rw[eS,eP];exact ZbC false (q:=q) hl h _ g' _ (extra:=[(wU (d16 (1*2^k)),tU),(wU (d16 1),tU),(wU (d16 (vb 65536 A % 2^(k+1))),tU)]) rfl
 ·
  have hTs:vb 65536 A<2^(k+1):=by
   have h1:=ZrU (vb 65536 A);have h2:=Nat.pow_le_pow_right (show 0<2 by omega) (show bl (vb 65536 A)≤k+1 by omega);omega
  have hTm:vb 65536 A % 2^(k+1)=vb 65536 A:=Nat.mod_eq_of_lt hTs;cases s with
  | true=>
   simp only[hS,qS] at*;have p6:zJ (hQ neg E o A.length c l q) (aX o) A.length c=true:=Zay hF hC (by omega) rfl;have w1:vO (hQ neg E o A.length c l q) (aX o) A.length=vb 65536 A:=Zba hF rfl;have p5:decide (((k+1:Nat):Int)≤((bl (vO (hQ neg E o A.length c l q) (aX o) A.length):Nat):Int))=false:=by rw[w1];exact Xb hdl
   cases half with
   | false=>
    refine Z0 (Zg Zd Z4) (Zt3 neg false E N M _ o A.length c q l g) (Za p5 (Zz p6)) fun g'=> ?_;exact ZbC true (q:=q) hl h _ g' _ (extra:=[]) rfl
   | true=>
    have eP:vO (nxt (hQ neg E o A.length c l q) 1) (some ⟨3,0,none⟩) (d16 1).length*2^(dif ((k+1:Nat):Int) 1).toNat=1*2^k:=by rw[zq (A:=1) (ty:=tU) rfl,e1,Xg]
    refine Z0 (Zg Zd Z4) (Zt4 neg (decide (vb 65536 A % 2^(k+1)=2^k)) E N M _ o A.length c q l g) ?_ fun g'=> ?_
    ·rw[eP];have pt:Z6 (nxt (nxt (hQ neg E o A.length c l q) 1) (1*2^k)) (aX o) (some ⟨4,0,none⟩) A.length c (d16 (1*2^k)).length (d16 (1*2^k)).length=true:=Zg3 hF hC (by omega) rfl (V:=1*2^k) rfl (by omega);refine Zt ?_ (Zt (by dsimp only;exact pt) (Zt (by rw[e1];exact ZaH (A:=1) rfl (by omega) (by rw[zy];omega)) (Zt (Xa (by rw[zy];omega)) (Zt (by decide) (Za p5 (Zz p6))))));dsimp only;rw[Zba hF rfl,zq (A:=1*2^k) (ty:=tU) rfl,ZdA,Nat.one_mul,hTm]
    ·rw[eP];exact ZbC true (q:=q) hl h _ g' _ (extra:=[(wU (d16 (1*2^k)),tU),(wU (d16 1),tU)]) rfl
  | false=>
   simp only[hS,qS] at*;have p6:zJ (hX neg E o A.length c l) (aX o) A.length c=true:=Zay hF hC (by omega) rfl;have w1:vO (hX neg E o A.length c l) (aX o) A.length=vb 65536 A:=Zba hF rfl;have p5:decide (((k+1:Nat):Int)≤((bl (vO (hX neg E o A.length c l) (aX o) A.length):Nat):Int))=false:=by rw[w1];exact Xb hdl
   cases half with
   | false=>
    refine Z0 (Zg Zd Z4) (Zt9 neg false E N M _ o A.length c q l g) (Za p5 (Zz p6)) fun g'=> ?_;exact ZbC false (q:=q) hl h _ g' _ (extra:=[]) rfl
   | true=>
    have eP:vO (nxt (hX neg E o A.length c l) 1) (some ⟨2,0,none⟩) (d16 1).length*2^(dif ((k+1:Nat):Int) 1).toNat=1*2^k:=by rw[zq (A:=1) (ty:=tU) rfl,e1,Xg]
    refine Z0 (Zg Zd Z4) (ZtA neg (decide (vb 65536 A % 2^(k+1)=2^k)) E N M _ o A.length c q l g) ?_ fun g'=> ?_
    ·rw[eP];have pt:Z6 (nxt (nxt (hX neg E o A.length c l) 1) (1*2^k)) (aX o) (some ⟨3,0,none⟩) A.length c (d16 (1*2^k)).length (d16 (1*2^k)).length=true:=Zg3 hF hC (by omega) rfl (V:=1*2^k) rfl (by omega);refine Zt ?_ (Zt (by dsimp only;exact pt) (Zt (by rw[e1];exact ZaH (A:=1) rfl (by omega) (by rw[zy];omega)) (Zt (Xa (by rw[zy];omega)) (Zt (by decide) (Za p5 (Zz p6))))));dsimp only;rw[Zba hF rfl,zq (A:=1*2^k) (ty:=tU) rfl,ZdA,Nat.one_mul,hTm]
    ·rw[eP];exact ZbC false (q:=q) hl h _ g' _ (extra:=[(wU (d16 (1*2^k)),tU),(wU (d16 1),tU)]) rfl
end
def Zc3 (M:Int) (neg:Bool) (T n:Nat) (E N:Int):Bool:=if N≤E then decide (0<n) else (decide ((N-E).toNat/16<n) || (decide (T % 2^(N-E).toNat≠0) && upR M neg (odd (T/2^(N-E).toNat)) (zt (T % 2^(N-E).toNat) (2^(N-E).toNat))))
def ZtM (F:Func) (rw:Bool) (V:Nat) (oth:Bool) (z:Lf):Prop:=(rw=true→∃ k,Zau prog F z.1 z.2.1=some (.tuple #[sOf k V,.bool oth])∧∃ r,z.2.1.blk? k=some (wU (d16 V)++r,tU))∧(rw=false→Zau prog F z.1 z.2.1=some (.tuple #[Zn,.bool oth]))
section
variable {l : List Value} {o c : Nat} {A : List Int}
theorem Zpf (hF:Fst l o c A) (hC:Zap 65536 A) (hn:A.length<1073741824) {h:Hp}(hh:h.blk? 0=some (l,tR)):Ztj h (aX o) A.length c=true:=by
 unfold Ztj aX;rw[(hF h hh).1,(hF h hh).2,ZaZ hC.1,Zk.2 hn];rfl
theorem ZtN (hF:Fst l o c A) (hl:∀ v∈l,still v=true) (hC:Zap 65536 A) (hn:A.length<1000000) {neg:Bool}{E N M:Int}(hE: -400000≤E∧E≤400000) (hN: -400000≤N∧N≤400000):
  RunsW (Zp prog Zh Zo hcW) (Zv f67) ([vRN neg E (sl 0 o A.length c),.int .i64 N,.int .i64 M]++List.replicate 103 undef,⟨1,[(l,tR)]⟩,[]) fun ex z=>(ex=none∨ex=some none)∧ZtM f67 (Zc3 M neg (vb 65536 A) A.length E N) (toQ M neg (vb 65536 A) E N) (toL (vb 65536 A) E N) z:=by
 have hb0:(hX neg E o A.length c l).blk? 0=some (l,tR):=rfl;have hv:=Zba hF hb0;have hrow:=(hF _ hb0).1;have hrf:=(hF _ hb0).2;by_cases hup:N≤E
 ·have ed:dif E N=((E-N).toNat:Int):=by unfold dif;rw[ZL (by omega) (by omega)];omega
  have ge:decide (E≥N)=true:=Xa hup;unfold Zc3 toQ toL;rw[if_pos hup,if_pos hup,if_pos hup];by_cases h0:0<A.length
  ·rw[Xa h0];have ok:ZM (hX neg E o A.length c l) (aX o) A.length c (dif E N)=true:=by
    unfold ZM aX;rw[hrow,hrf,ZaZ hC.1,ed,Xg,Zk.2 (by omega),Xa (by omega)];rfl
   refine (Zc (Zg Zd Z4) (Zxt neg E N M o A.length c l) (Za ok (Za (Xa h0) (Zz ge)))).mono fun ex z hz=> ?_;rw[hv,ed,Xg] at hz;obtain⟨rfl,⟨g',z1⟩,z2⟩:=hz;refine⟨.inr rfl,fun _=>⟨2,?_,[],?_⟩,fun h=>by cases h⟩
   ·rw[z1,z2];rfl
   ·rw[z2,List.append_nil];rfl
  ·rw[Xb h0];refine (Zc (Zg Zd Z4) (Zxu neg E N M o A.length c l) (Za hrow (Za (Xb h0) (Zz ge)))).mono fun ex z hz=> ?_;obtain⟨rfl,⟨g',z1⟩,z2⟩:=hz;refine⟨.inr rfl,(fun h=>by cases h),fun _=> ?_⟩;rw[z1,z2];rfl
 ·obtain⟨k,hk⟩:∃ k:Nat,N-E=((k+1:Nat):Int):=⟨(N-E).toNat-1,by omega⟩;have ed:dif N E=((k+1:Nat):Int):=by unfold dif;rw[ZL (by omega) (by omega),hk]
  have ekn:(N-E).toNat=k+1:=by omega
  have e2:(((k+1:Nat):Int)).toNat=k+1:=by omega
  have ge:decide (E≥N)=false:=Xb (by omega);have ok:ZdI (hX neg E o A.length c l) (aX o) A.length c (dif N E)=true:=by
   unfold ZdI aX;rw[hrow,hrf,ZaZ hC.1,ed,Zk.2 (by omega),Xa (by omega)];rfl
  have ew:decide ((dif N E).toNat/16<A.length)=decide ((k+1)/16<A.length):=by rw[ed,e2]
  have el:decide (vO (hX neg E o A.length c l) (aX o) A.length % 2^(dif N E).toNat≠0)=decide (vb 65536 A % 2^(k+1)≠0):=by rw[hv,ed,e2]
  unfold Zc3 toQ toL;rw[if_neg hup,if_neg hup,if_neg hup,ekn];by_cases hlost:vb 65536 A % 2^(k+1)=0
  ·have ed0:decide (vb 65536 A % 2^(k+1)≠0)=false:=Xb (by omega);rw[ed0,Ze9 hlost,Bool.false_and,Bool.or_false];rw[ed0] at el;by_cases hw:(k+1)/16<A.length
   ·rw[Xa hw] at ew ⊢;refine (Zc (Zg Zd Z4) (Zxv neg E N M o A.length c l) (Za el (Za ew (Za ok (Zz ge))))).mono fun ex z hz=> ?_;rw[hv,ed,e2] at hz;obtain⟨rfl,⟨g',z1⟩,z2⟩:=hz;refine⟨.inr rfl,fun _=>⟨2,?_,[],?_⟩,fun h=>by cases h⟩
    ·rw[z1,z2];rfl
    ·rw[z2,List.append_nil];rfl
   ·rw[Xb hw] at ew ⊢;refine (Zc (Zg Zd Z4) (Zxw neg E N M o A.length c l) (Za el (Za ew (Za ok (Zz ge))))).mono fun ex z hz=> ?_;obtain⟨rfl,⟨g',z1⟩,z2⟩:=hz;refine⟨.inr rfl,(fun h=>by cases h),fun _=> ?_⟩;rw[z1,z2];rfl
  ·have ed1:decide (vb 65536 A % 2^(k+1)≠0)=true:=Xa hlost;rw[ed1,Bool.true_and];rw[ed1] at el;have ecode:Zv f67=Zaz (tS1 f67) (Zaz (tS2 f67) (.seq (tS3 f67) (.seq (tS4 f67) (tS5 f67)))):=Option.some.inj (Zg2.symm.trans Zpc);rw[ecode];have hTl:vb 65536 A<65536^A.length:=Zcu (by omega) A hC.1;have hql:(d16 (vb 65536 A/2^(k+1))).length≤A.length:=Zd0 (by omega) _ _ (Nat.lt_of_le_of_lt (Nat.div_le_self _ _) hTl);have sq0:decide ((k+1)/16<A.length)=false→vb 65536 A/2^(k+1)=0:=fun h0=>by
    have h1:=of_decide_eq_false h0;refine Nat.div_eq_of_lt (Nat.lt_of_lt_of_le hTl ?_);rw[ZdH];exact Nat.pow_le_pow_right (by omega) (by omega)
   have e1:dif (dif N E) 1=(k:Int):=by rw[ed];unfold dif;rw[ZL (by omega) (by omega)];omega
   have hh:∀ T:Nat,(((T/2^k % 2:Nat):Int)==1)=decide (2^k≤T % 2^(k+1)):=fun T=>by
    rw[Bool.eq_iff_iff];simp only[beq_iff_eq,Xi,← ZnC];omega
   have hu:=Zv1 (r:=vb 65536 A % 2^(k+1)) (k:=k) hlost M neg (odd (vb 65536 A/2^(k+1)));have rest:∀ s,s=decide ((k+1)/16<A.length)→∀ g,RunsW (Zp prog Zh Zo hcW) (Zaz (tS2 f67) (.seq (tS3 f67) (.seq (tS4 f67) (tS5 f67)))) (fT neg E N M o A.length c ((k+1:Nat):Int) (qS s (vb 65536 A/2^(k+1)))++[.bool true,.bool (decide (2^k≤vb 65536 A % 2^(k+1)))]++tl 94 g,hS s neg E o A.length c l (vb 65536 A/2^(k+1)),[])
     fun ex z=>(ex=none∨ex=some none)∧ZtM f67 (s || upR M neg (odd (vb 65536 A/2^(k+1))) (zt (vb 65536 A % 2^(k+1)) (2^(k+1)))) (rq M neg (vb 65536 A) (k+1)) true z:=by
    intro s hs g;refine ZtL s hF hl hC hn (by omega) rfl hs hlost (fun J g=> ?_) g;refine RunsW.seq (ZtI s (fun h0=>sq0 (by rw[← hs];exact h0)) (fun h0=>by rw[h0];rfl) g) ?_ (fun e y he=>by cases he.1);rintro⟨t,h',sc⟩ ⟨_,⟨g,ht⟩,hh'⟩;simp only at ht hh';subst ht hh';refine RunsW.seq (RunsW.script (ZtH s g)) ?_ (fun e y he=>by cases he.1);rintro⟨t,h',sc⟩ ⟨_,⟨g,ht⟩,hh'⟩;simp only at ht hh';subst ht hh';have eu:upM M neg (decide (2^k≤vb 65536 A % 2^(k+1))) (decide (2^k≤vb 65536 A % 2^(k+1)) && (!(decide (2^k≤vb 65536 A % 2^(k+1)) && decide (vb 65536 A % 2^(k+1)=2^k)) || odd (vb 65536 A/2^(k+1))))=upR M neg (odd (vb 65536 A/2^(k+1))) (zt (vb 65536 A % 2^(k+1)) (2^(k+1))):=by
     rw[hu];unfold upM;cases decide (2^k≤vb 65536 A % 2^(k+1))<;>simp
    rw[eu];refine (RunsW.script (ZtG s (by omega) (fun h0=>sq0 (by rw[← hs];exact h0)) g)).mono fun ex z hz=> ?_;obtain⟨z0,z1,z2⟩:=hz;unfold rq;refine⟨z0,fun hr=>z1 (by simpa using hr),fun hr=>z2 (by simpa using hr)⟩
   by_cases hw:(k+1)/16<A.length
   ·rw[Xa hw] at ew ⊢;have rs:=rest true (Xa hw).symm;refine Z0 (Zg Zd Z4) (Zxx neg (decide (2^k≤vb 65536 A % 2^(k+1))) E N M o A.length c l) ?_ fun g=> ?_
    ·have hbn:(nxt (hX neg E o A.length c l) (vO (hX neg E o A.length c l) (aX o) A.length/2^(dif N E).toNat)).blk? 0=some (l,tR):=rfl;refine Za ?_ (Za ?_ (Za ?_ (Za el (Za ew (Za ok (Zz ge))))))
     ·rw[Zba hF hbn,e1,Xg];exact hh _
     ·exact Zpf hF hC (by omega) hbn
     ·rw[e1];exact Xa ⟨by omega,by omega⟩
    ·rw[hv,ed,e2];exact rs g
   ·rw[Xb hw] at ew ⊢;have rs:=rest false (Xb hw).symm;refine Z0 (Zg Zd Z4) (Zxy neg (decide (2^k≤vb 65536 A % 2^(k+1))) E N M o A.length c l) ?_ fun g=> ?_
    ·refine Za ?_ (Za ?_ (Za ?_ (Za el (Za ew (Za ok (Zz ge))))))
     ·rw[hv,e1,Xg];exact hh _
     ·unfold Ztj aX;rw[hrow,hrf,ZaZ hC.1,Zk.2 (by omega)];rfl
     ·rw[e1];exact Xa ⟨by omega,by omega⟩
    ·rw[ed];exact rs g
end
def Zpg (h:Hp) (p:Option Addr) (n c:Nat) (E N:Int):Bool:=zS h p n c && Zfg (Zu h p n) && Nat.blt n 1000000 && decide ((-400000≤E∧E≤400000)∧(-400000≤N∧N≤400000))
def gTo:Zcl:=fun vals h s=>
 match vals,s with
 | [.agg cs,.int .i64 N,.int .i64 M],.inr (.inr (.inr (.inl d))):: .inr (.inr (.inr (.inl e)))::s'=>
  match cs.toList with
  | [.bool neg,.int .i64 E,.slice (some ⟨b,o,none⟩) n c]=>
   match d with
   | true=>some (.tuple #[sOf h.n (toQ M neg (vO h (some ⟨b,o,none⟩) n) E N),.bool e],h.push (wU (d16 (toQ M neg (vO h (some ⟨b,o,none⟩) n) E N))) tU,s',[(toL (vO h (some ⟨b,o,none⟩) n) E N,e),(Zc3 M neg (vO h (some ⟨b,o,none⟩) n) n E N,true),(Zpg h (some ⟨b,o,none⟩) n c E N,true)])
   | false=>some (.tuple #[Zn,.bool e],h,s',[(toL (vO h (some ⟨b,o,none⟩) n) E N,e),(Zc3 M neg (vO h (some ⟨b,o,none⟩) n) n E N,false),(Zpg h (some ⟨b,o,none⟩) n c E N,true)])
  | _=>none
 | _,_=>none
theorem ZxF:za 67 gTo:=by
 intro vals h s v h' s' lg hg hl m B w E0 hv;unfold gTo at hg;split at hg
 ·rename_i cs N M d e s2;split at hg
  ·rename_i neg E b o n c hcs;have ecs:cs= #[.bool neg,.int .i64 E,sl b o n c]:=by
    have:=congrArg List.toArray hcs;simpa [sl] using this
   have key:toL (vO h (some ⟨b,o,none⟩) n) E N=e→Zc3 M neg (vO h (some ⟨b,o,none⟩) n) n E N=d→Zpg h (some ⟨b,o,none⟩) n c E N=true→
     ∃ l,(∀ v∈l,still v=true)∧(⟨1,[(l,tR)]⟩:Hp).fits (fun _=>b) h∧RunsW (Zp prog Zh Zo hcW) (Zv f67) ([vRN neg E (sl 0 o n c),.int .i64 N,.int .i64 M]++List.replicate 103 undef,⟨1,[(l,tR)]⟩,[]) fun ex z=>(ex=none∨ex=some none)∧ZtM f67 d (toQ M neg (vO h (some ⟨b,o,none⟩) n) E N) e z:=by
    intro l1 l2 l3;simp only[Zpg,Xh,Xi] at l3;obtain⟨⟨⟨q1,q2⟩,q3⟩,q4⟩:=l3;have q2:=Zc1 q2;have q3:=Zk.1 q3;rcases Z8 q1 with ⟨h0,_⟩ | ⟨b',o',x,hp,hx,r1,rs,e0⟩
    ·cases h0
    ·cases hp;rw[e0] at q2;obtain⟨h1,h2,h3,h4,h5,h6,h7⟩:=ZU r1;have ev:vO h (some ⟨b,o,none⟩) n=vb 65536 (zu x.1 o n):=by unfold vO;rw[e0]
     have r:=ZtN (Zma r1 rs) h7 q2 (by rw[h2];exact q3) (neg:=neg) (M:=M) q4.1 q4.2;rw[h2,← ev,l1,l2] at r;exact⟨x.1,h7,Zbs hx h5 h6 rfl,r⟩
   have evals:List.map (rn fun _=>b) [vRN neg E (sl 0 o n c),.int .i64 N,.int .i64 M]=[.agg cs,.int .i64 N,.int .i64 M]:=by
    rw[ecs];simp [rn,rn2,rn1,vRN,sl]
   split at hg
   ·cases hg;obtain⟨l,p1,p2,p3⟩:=key (hl _ (Xe)) (hl _ (Xd _ (Xe))) (hl _ (Xd _ (Xd _ Xf)));have fin:=Zb6 (T:=Zp prog Zh Zo hcW) func67 Zg2 (ZcH p1) (vals:=[vRN neg E (sl 0 o n c),.int .i64 N,.int .i64 M]) (fun v hv=>by
     simp only[List.mem_cons,List.not_mem_nil,or_false] at hv;rcases hv with h1 | h1 | h1<;>rw[h1]<;>rfl) (v:=fun k=> .tuple #[sOf k (toQ M neg (vO h (some ⟨b,o,none⟩) n) E N),.bool e]) (Zbu _) (by kernel_rfl) (p3.mono fun ex z hz=>⟨hz.1,hz.2.1 rfl⟩) (fun k=>by simp [oc,oc2,oc1,sOf,sl]) E0 p2 (fun k=>by simp [rn,rn2,rn1,sOf,sl])
    rw[evals] at fin;exact fin
   ·cases hg;obtain⟨l,p1,p2,p3⟩:=key (hl _ (Xe)) (hl _ (Xd _ (Xe))) (hl _ (Xd _ (Xd _ Xf)));have fin:=ZH (T:=Zp prog Zh Zo hcW) func67 Zg2 (ZcH p1) (vals:=[vRN neg E (sl 0 o n c),.int .i64 N,.int .i64 M]) (fun v hv=>by
     simp only[List.mem_cons,List.not_mem_nil,or_false] at hv;rcases hv with h1 | h1 | h1<;>rw[h1]<;>rfl) (v:= .tuple #[Zn,.bool e]) (by rfl) (p3.mono fun ex z hz=>⟨hz.1,hz.2.2 rfl⟩) E0 p2
    rw[evals] at fin;exact fin
  ·cases hg
 ·cases hg
end Go.Proofs.YtekebccjflilnaaGreat
namespace Go.Proofs.YtekebccjflilnaaGreat
open Go.Proofs.Tryz
open Go.IntKind
open Go.KRun Go.Nt Go.Wd Go.Rn
set_option maxRecDepth 100000
set_option linter.unusedVariables false
def gOv:Ans:=fun vals s=>
 match vals with
 | [.bool n,.int .i64 m]=>some (.int .u64 (bey m n),s,[])
 | _=>none
theorem ov2 (n:Bool) (m:Int):Zw (Ze (Zi prog Zh Zo true) 300 66 [.bool n,.int .i64 m] [cmp true]) (.int .u64 9218868437227405311) [(m==2,true)]:=by and_intros<;>kernel_rfl
def ovV (b:Bool):Value:=match b with | true=> .int .u64 9218868437227405311 | false=> .int .u64 9218868437227405312
theorem ov3 (n:Bool) (m:Int):Zw (Ze (Zi prog Zh Zo true) 300 66 [.bool n,.int .i64 m] [cmp false,cmp true,cmp false]) (ovV n) (match n with | true=>[(m==3,true),(m==2,false)] | false=>[(m==4,false),(m==3,true),(m==2,false)]):=by
 cases n<;>exact by and_intros<;>kernel_rfl
theorem ov4 (n:Bool) (m:Int):Zw (Ze (Zi prog Zh Zo true) 300 66 [.bool n,.int .i64 m] [cmp false,cmp false,cmp true]) (ovV (!n)) [(m==4,true),(m==3,false),(m==2,false)]:=by
 cases n<;>exact by and_intros<;>kernel_rfl
theorem ov0 (n:Bool) (m:Int):Zw (Ze (Zi prog Zh Zo true) 300 66 [.bool n,.int .i64 m] [cmp false,cmp false,cmp false]) (.int .u64 9218868437227405312) [(m==4,false),(m==3,false),(m==2,false)]:=by
 cases n<;>exact by and_intros<;>kernel_rfl
theorem ZxG:ZJ 66 gOv:=by
 intro vals s v s' lg h hl w;unfold gOv at h;split at h
 ·rename_i n m;cases h;have hv:([.bool n,.int .i64 m].all (lt 0))=true:=rfl;by_cases h2:m=2
  ·have e:bey m n=9218868437227405311:=by rw[h2];cases n<;>rfl
   rw[e];exact Zb (Zf Zd) (ov2 n m) (Zz (by rw[h2];rfl)) hv (by rfl) w
  ·have b2:(m==2)=false:=by simp [h2]
   by_cases h3:m=3
   ·have e:Value.int .u64 (bey m n)=ovV n:=by rw[h3];cases n<;>rfl
    rw[e];cases n
    ·exact Zb (Zf Zd) (ov3 false m) (Za (by rw[h3];rfl) (Za (by rw[h3];rfl) (Zz b2))) hv (by rfl) w
    ·exact Zb (Zf Zd) (ov3 true m) (Za (by rw[h3];rfl) (Zz b2)) hv (by rfl) w
   ·have b3:(m==3)=false:=by simp [h3]
    by_cases h4:m=4
    ·have e:Value.int .u64 (bey m n)=ovV (!n):=by rw[h4];cases n<;>rfl
     rw[e];exact Zb (Zf Zd) (ov4 n m) (Za (by rw[h4];rfl) (Za b3 (Zz b2))) hv (by cases n<;>rfl) w
    ·have b4:(m==4)=false:=by simp [h4]
     have e:bey m n=9218868437227405312:=by
      unfold bey upR;rw[if_neg h2,if_neg h3,if_neg h4];split<;>first | omega | (simp;done)
     rw[e];exact Zb (Zf Zd) (ov0 n m) (Za b4 (Za b3 (Zz b2))) hv (by rfl) w
 ·cases h
def sgV (n:Bool) (p:Int):Int:=match n with | true=>u64.wrap (p+9223372036854775808) | false=>p
theorem ZtO (n:Bool) (p:Int):Zw (Ze (Zi prog Zh Zo true) 300 64 [.int .u64 p,.bool n] []) (.int .u64 (sgV n p)) []:=by
 cases n<;>exact by and_intros<;>kernel_rfl
def gSg:Ans:=fun vals s=>
 match vals with
 | [.int .u64 p,.bool n]=>some (.int .u64 (sS n p),s,[(decide (0≤p∧p≤9218868437227405312),true)])
 | _=>none
theorem ZxH:ZJ 64 gSg:=by
 intro vals s v s' lg h hl w;unfold gSg at h;split at h
 ·rename_i p n;cases h;have hp:=Xc (hl _ Xf);have e:sS n p=sgV n p:=by
   cases n
   ·rfl
   ·simp only[sS,sgV,if_true];rw[Go.Pt.wrapU' ⟨by omega,by omega⟩];omega
  rw[e];exact Zb (Zf Zd) (ZtO n p) Zka (by rfl) (by rfl) w
 ·cases h
def ZdJ:Con:=alt 66 gOv (alt 64 gSg Zo)
theorem Zab:ConOk ZdJ:=Zy func66 rfl ZxG (Zy func64 rfl ZxH Zd)
def hcQ:Hc:=Zb5 67 gTo hcW
theorem ZaI:HcOk hcQ:=ZA func67 rfl ZxF Z4
theorem Zme:f34.body=some (Zv f34):=by kernel_rfl
def rS1 (F:Func):List Code:=[ZB (tC F 0),ZB (tC F 1)]
def rS2 (F:Func):List Code:=[ZB (tC F 2),ZB (tC F 3),ZB (tC F 4),ZB (tC F 5)]
def rS3 (F:Func):List Code:=[ZB (tC F 6),ZB (tC F 7),ZB (tC F 8),ZB (tC F 9)]
theorem Zph:f34.body=some (Zaz (rS1 f34) (tC f34 2)):=by kernel_rfl
theorem Z1j (neg:Bool) (E M:Int) (o n c:Nat) (l:List Value):Zm (evL (Zp prog Zh ZdJ hcQ) 200 (rS1 f34) ([vRN neg E (sl 0 o n c),.int .i64 M]++List.replicate 107 undef,⟨1,[(l,tR)]⟩,[cmp true]) ⟨[],[],[]⟩) 6 103 none [vRN neg E (sl 0 o n c),.int .i64 0,.pointer (some ⟨1,0,none⟩),undef,.int .u64 0,.int .i64 0] (hX neg E o n c l) [(decide (M<0),true)]:=by and_intros<;>kernel_rfl
theorem Z1k (neg:Bool) (E M:Int) (o n c:Nat) (l:List Value):Zm (evL (Zp prog Zh ZdJ hcQ) 200 (rS1 f34) ([vRN neg E (sl 0 o n c),.int .i64 M]++List.replicate 107 undef,⟨1,[(l,tR)]⟩,[cmp false,cmp true]) ⟨[],[],[]⟩) 6 103 none [vRN neg E (sl 0 o n c),.int .i64 0,.pointer (some ⟨1,0,none⟩),undef,.int .u64 0,.int .i64 0] (hX neg E o n c l) [(decide (M>4),true),(decide (M<0),false)]:=by and_intros<;>kernel_rfl
theorem Z1l (neg:Bool) (E M:Int) (o n c:Nat) (l:List Value):Zm (evL (Zp prog Zh ZdJ hcQ) 200 (rS1 f34) ([vRN neg E (sl 0 o n c),.int .i64 M]++List.replicate 107 undef,⟨1,[(l,tR)]⟩,[cmp false,cmp false]) ⟨[],[],[]⟩) 6 103 none [vRN neg E (sl 0 o n c),.int .i64 M,.pointer (some ⟨1,0,none⟩),undef,.int .u64 0,.int .i64 0] (hX neg E o n c l) [(decide (M>4),false),(decide (M<0),false)]:=by and_intros<;>kernel_rfl
def ZcC (x y:Int):Int:=i64.wrap (x+y)
def okP (p:Int):Bool×Bool:=(decide (0≤p∧p≤9218868437227405312),true)
theorem ZtP (neg:Bool) (E m:Int) (o n c:Nat) (l:List Value) (g:Nat→Value):Zm (evC (Zp prog Zh ZdJ hcQ) 200 false (tC f34 2) ([vRN neg E (sl 0 o n c),.int .i64 m,.pointer (some ⟨1,0,none⟩),undef,.int .u64 0,.int .i64 0]++tl 103 g,(hX neg E o n c l),[cmp true]) ⟨[],[],[]⟩) 6 103 (some none) [vRN neg E (sl 0 o n c),.int .i64 m,.pointer (some ⟨1,0,none⟩),undef,.int .u64 (sS neg 0),.int .i64 0] (hX neg E o n c l) [okP 0,((n:Int)==0,true)]:=by and_intros<;>kernel_rfl
theorem ZxI (neg:Bool) (E m:Int) (o n c:Nat) (l:List Value) (g:Nat→Value):Zm (evC (Zp prog Zh ZdJ hcQ) 200 false (tC f34 2) ([vRN neg E (sl 0 o n c),.int .i64 m,.pointer (some ⟨1,0,none⟩),undef,.int .u64 0,.int .i64 0]++tl 103 g,(hX neg E o n c l),[cmp false,cmp true]) ⟨[],[],[]⟩) 6 103 (some none) [vRN neg E (sl 0 o n c),.int .i64 m,.pointer (some ⟨1,0,none⟩),undef,.int .u64 (sS neg (bey m neg)),.int .i64 20] (hX neg E o n c l) [okP (bey m neg),(decide ((ZcC E ((bl (vO (hX neg E o n c l) (aX o) n):Nat):Int))>1100),true),(zJ (hX neg E o n c l) (aX o) n c,true),((n:Int)==0,false)]:=by and_intros<;>kernel_rfl
theorem ZxJ (neg:Bool) (E m:Int) (o n c:Nat) (l:List Value) (g:Nat→Value):Zm (evL (Zp prog Zh ZdJ hcQ) 200 (rS2 f34) ([vRN neg E (sl 0 o n c),.int .i64 m,.pointer (some ⟨1,0,none⟩),undef,.int .u64 0,.int .i64 0]++tl 103 g,(hX neg E o n c l),[cmp false,cmp false,cmp false]) ⟨[],[],[]⟩) 7 102 none [vRN neg E (sl 0 o n c),.int .i64 m,.pointer (some ⟨1,0,none⟩),undef,.int .u64 0,.int .i64 0,.int .i64 (ZcC E ((bl (vO (hX neg E o n c l) (aX o) n):Nat):Int))] (hX neg E o n c l) [(decide ((ZcC E ((bl (vO (hX neg E o n c l) (aX o) n):Nat):Int))< -1200),false),(decide ((ZcC E ((bl (vO (hX neg E o n c l) (aX o) n):Nat):Int))>1100),false),(zJ (hX neg E o n c l) (aX o) n c,true),((n:Int)==0,false)]:=by and_intros<;>kernel_rfl
def hLo (neg:Bool) (l:List Value):Hp:=⟨3,[(wU (d16 1),tU),bOf neg (-1300) (sOf 2 1),(l,tR)]⟩
theorem ZxK (neg:Bool) (E m:Int) (o n c:Nat) (l:List Value) (g:Nat→Value):Zm (evL (Zp prog Zh ZdJ hcQ) 200 (rS2 f34) ([vRN neg E (sl 0 o n c),.int .i64 m,.pointer (some ⟨1,0,none⟩),undef,.int .u64 0,.int .i64 0]++tl 103 g,(hX neg E o n c l),[cmp false,cmp false,cmp true]) ⟨[],[],[]⟩) 7 102 none [vRN neg E (sl 0 o n c),.int .i64 m,.pointer (some ⟨1,0,none⟩),undef,.int .u64 0,.int .i64 0,.int .i64 (-1299)] (hLo neg l) [Zci,Zci,(decide ((ZcC E ((bl (vO (hX neg E o n c l) (aX o) n):Nat):Int))< -1200),true),(decide ((ZcC E ((bl (vO (hX neg E o n c l) (aX o) n):Nat):Int))>1100),false),(zJ (hX neg E o n c l) (aX o) n c,true),((n:Int)==0,false)]:=by and_intros<;>kernel_rfl
def nOf (t:Int):Int:=if -1074>dif t 53 then -1074 else dif t 53
def sRw (k:Nat) (d:Bool) (V:Nat):Value:=match d with | true=>sOf k V | false=>Zn
def pRw (h:Hp) (d:Bool) (V:Nat):Hp:=match d with | true=>h.push (wU (d16 V)) tU | false=>h
def hB (L:List (List Value×TypeId)) (neg:Bool) (E:Int) (S:Value) (b0:List Value×TypeId):Hp:=⟨2+L.length,L++[bOf neg E S,b0]⟩
def fr7 (x0:Value) (m t:Int):List Value:=[x0,.int .i64 m,.pointer (some ⟨1,0,none⟩),undef,.int .u64 0,.int .i64 0,.int .i64 t]
def fl (y:Bool):Int:=match y with | true=>24 | false=>16
def aB (b o:Nat):Option Addr:=some ⟨b,o,none⟩
def vF (h:Hp) (k:Nat) (d:Bool) (V:Nat):Nat:=match d with | true=>vO h (aB k 0) (d16 V).length | false=>vO h none 0
def okF (h:Hp) (k:Nat) (d:Bool) (V:Nat):Bool:=match d with | true=>zJ h (aB k 0) (d16 V).length (d16 V).length | false=>zJ h none 0 0
def qB (m:Int) (neg:Bool) (h:Hp) (b o n:Nat) (E N:Int):Nat:=toQ m neg (vO h (aB b o) n) E N
theorem Z1m (d:Bool) (L:List (List Value×TypeId)) (hL:L.length≤1) (neg:Bool) (x0:Value) (E m t:Int) (b o n c:Nat) (b0:List Value×TypeId) (g:Nat→Value):
  Zm (evL (Zp prog Zh ZdJ hcQ) 200 (rS3 f34) (fr7 x0 m t++tl 102 g,hB L neg E (sl b o n c) b0,[cmp d,cmp false]) ⟨[],[],[]⟩) 11 98 none
   (fr7 x0 m t++[.int .i64 (nOf t),sRw (hB L neg E (sl b o n c) b0).n d (qB m neg (hB L neg E (sl b o n c) b0) b o n E (nOf t)),.bool false,.int .i64 0])
   (pRw (hB L neg E (sl b o n c) b0) d (qB m neg (hB L neg E (sl b o n c) b0) b o n E (nOf t)))
   [(toL (vO (hB L neg E (sl b o n c) b0) (aB b o) n) E (nOf t),false),(Zc3 m neg (vO (hB L neg E (sl b o n c) b0) (aB b o) n) n E (nOf t),d),(Zpg (hB L neg E (sl b o n c) b0) (aB b o) n c E (nOf t),true)]:=by
 rcases L with _ | ⟨u,_ | ⟨u',L⟩⟩
 ·cases d<;>exact by and_intros<;>kernel_rfl
 ·cases d<;>exact by and_intros<;>kernel_rfl
 ·exact absurd hL (by simp)
theorem Z1n (d d2 y e2:Bool) (L:List (List Value×TypeId)) (hL:L.length≤1) (neg:Bool) (x0:Value) (E m t:Int) (b o n c:Nat) (b0:List Value×TypeId) (g:Nat→Value) (Q Q2:Nat) (hQ:Q=qB m neg (hB L neg E (sl b o n c) b0) b o n E (nOf t)) (hQ2:Q2=qB m neg (pRw (hB L neg E (sl b o n c) b0) d Q) b o n E (dif t 53)):
  Zm (evL (Zp prog Zh ZdJ hcQ) 200 (rS3 f34) (fr7 x0 m t++tl 102 g,hB L neg E (sl b o n c) b0,[cmp d,cmp true,cmp d2,cmp e2,cmp y]) ⟨[],[],[]⟩) 11 98 none
   (fr7 x0 m t++[.int .i64 (nOf t),sRw (hB L neg E (sl b o n c) b0).n d Q,.bool true,.int .i64 (fl y)])
   (pRw (pRw (hB L neg E (sl b o n c) b0) d Q) d2 Q2)
   [(decide (dif (ZcC ((bl (vF (pRw (pRw (hB L neg E (sl b o n c) b0) d Q) d2 Q2) (pRw (hB L neg E (sl b o n c) b0) d Q).n d2 Q2):Nat):Int) t) 53≤ -1022),y),(okF (pRw (pRw (hB L neg E (sl b o n c) b0) d Q) d2 Q2) (pRw (hB L neg E (sl b o n c) b0) d Q).n d2 Q2,true),
    (toL (vO (pRw (hB L neg E (sl b o n c) b0) d Q) (aB b o) n) E (dif t 53),e2),(Zc3 m neg (vO (pRw (hB L neg E (sl b o n c) b0) d Q) (aB b o) n) n E (dif t 53),d2),(Zpg (pRw (hB L neg E (sl b o n c) b0) d Q) (aB b o) n c E (dif t 53),true),
    (toL (vO (hB L neg E (sl b o n c) b0) (aB b o) n) E (nOf t),true),(Zc3 m neg (vO (hB L neg E (sl b o n c) b0) (aB b o) n) n E (nOf t),d),(Zpg (hB L neg E (sl b o n c) b0) (aB b o) n c E (nOf t),true)]:=by
 subst hQ2;subst hQ;rcases L with _ | ⟨u,_ | ⟨u',L⟩⟩
 ·cases d<;>cases d2<;>cases y<;>exact by and_intros<;>kernel_rfl
 ·cases d<;>cases d2<;>cases y<;>exact by and_intros<;>kernel_rfl
 ·exact absurd hL (by simp)
def pk (N s:Int):Int:=u64.wrap (u64.wrap (u64.wrap (u64.wrap (i64.wrap (N+1075))*4503599627370496)+s)-4503599627370496)
def lwR (h:Hp) (p:Option Addr) (n:Nat):Int:=((vO h p n % 18446744073709551616:Nat):Int)
def fr6 (x0:Value) (m r f:Int):List Value:=[x0,.int .i64 m,.pointer (some ⟨1,0,none⟩),undef,.int .u64 r,.int .i64 f]
section
variable (L : List (List Value × TypeId)) (hL : L.length ≤ 3) (neg : Bool) (x0 : Value) (E m t N f : Int) (S : Value) (p : Option Addr) (nq cq : Nat) (e : Bool) (b0 : List Value × TypeId) (g : Nat → Value)
include hL
theorem Z1o:Zm (evC (Zp prog Zh ZdJ hcQ) 200 false (tC f34 10) ((fr7 x0 m t++[.int .i64 N,.slice p nq cq,.bool e,.int .i64 f])++tl 98 g,hB L neg E S b0,[cmp true]) ⟨[],[],[]⟩) 6 103 (some none) (fr6 x0 m (sS neg (bey m neg)) 20) (hB L neg E S b0)
  [okP (bey m neg),(decide (ZcC ((bl (vO (hB L neg E S b0) p nq):Nat):Int) N>1024),true),(zJ (hB L neg E S b0) p nq cq,true)]:=by
 rcases L with _ | ⟨u,_ | ⟨u',_ | ⟨u'',_ | ⟨u3,L⟩⟩⟩⟩
 iterate 4
  ·exact by and_intros<;>kernel_rfl
 ·exact absurd hL (by simp)
theorem Z1p:Zm (evC (Zp prog Zh ZdJ hcQ) 200 false (tC f34 10) ((fr7 x0 m t++[.int .i64 N,.slice p nq cq,.bool e,.int .i64 f])++tl 98 g,hB L neg E S b0,[cmp false,cmp false,cmp false]) ⟨[],[],[]⟩) 6 103 (some none) (fr6 x0 m (sS neg (lwR (hB L neg E S b0) p nq)) f) (hB L neg E S b0)
  [okP (lwR (hB L neg E S b0) p nq),(decide (lwR (hB L neg E S b0) p nq≥4503599627370496),false),(lwR (hB L neg E S b0) p nq==9007199254740992,false),(Ztf (hB L neg E S b0) p nq cq,true),(decide (ZcC ((bl (vO (hB L neg E S b0) p nq):Nat):Int) N>1024),false),(zJ (hB L neg E S b0) p nq cq,true)]:=by
 rcases L with _ | ⟨u,_ | ⟨u',_ | ⟨u'',_ | ⟨u3,L⟩⟩⟩⟩
 iterate 4
  ·exact by and_intros<;>kernel_rfl
 ·exact absurd hL (by simp)
theorem Z1q:Zm (evC (Zp prog Zh ZdJ hcQ) 200 false (tC f34 10) ((fr7 x0 m t++[.int .i64 N,.slice p nq cq,.bool e,.int .i64 f])++tl 98 g,hB L neg E S b0,[cmp false,cmp false,cmp true]) ⟨[],[],[]⟩) 6 103 (some none) (fr6 x0 m (sS neg (pk N (lwR (hB L neg E S b0) p nq))) f) (hB L neg E S b0)
  [okP (pk N (lwR (hB L neg E S b0) p nq)),(decide (lwR (hB L neg E S b0) p nq≥4503599627370496),true),(lwR (hB L neg E S b0) p nq==9007199254740992,false),(Ztf (hB L neg E S b0) p nq cq,true),(decide (ZcC ((bl (vO (hB L neg E S b0) p nq):Nat):Int) N>1024),false),(zJ (hB L neg E S b0) p nq cq,true)]:=by
 rcases L with _ | ⟨u,_ | ⟨u',_ | ⟨u'',_ | ⟨u3,L⟩⟩⟩⟩
 iterate 4
  ·exact by and_intros<;>kernel_rfl
 ·exact absurd hL (by simp)
theorem Z1r:Zm (evC (Zp prog Zh ZdJ hcQ) 200 false (tC f34 10) ((fr7 x0 m t++[.int .i64 N,.slice p nq cq,.bool e,.int .i64 f])++tl 98 g,hB L neg E S b0,[cmp false,cmp true]) ⟨[],[],[]⟩) 6 103 (some none) (fr6 x0 m (sS neg (pk (ZcC N 1) 4503599627370496)) f) (hB L neg E S b0)
  [okP (pk (ZcC N 1) 4503599627370496),(lwR (hB L neg E S b0) p nq==9007199254740992,true),(Ztf (hB L neg E S b0) p nq cq,true),(decide (ZcC ((bl (vO (hB L neg E S b0) p nq):Nat):Int) N>1024),false),(zJ (hB L neg E S b0) p nq cq,true)]:=by
 rcases L with _ | ⟨u,_ | ⟨u',_ | ⟨u'',_ | ⟨u3,L⟩⟩⟩⟩
 iterate 4
  ·exact by and_intros<;>kernel_rfl
 ·exact absurd hL (by simp)
end
theorem ZhL {m:Int}{neg:Bool}{T n:Nat}{E N:Int}(hT:T<65536^n) (h:Zc3 m neg T n E N=false):toQ m neg T E N=0:=by
 unfold Zc3 at h;unfold toQ;split at h
 ·rename_i hu;rw[if_pos hu];have:=of_decide_eq_false h;have e:n=0:=by omega
  rw[e,Nat.pow_zero] at hT;have:T=0:=by omega
  rw[this,Nat.zero_mul]
 ·rename_i hu;rw[if_neg hu];rw[Bool.or_eq_false_iff] at h;have h1:=of_decide_eq_false h.1;have hz:T/2^(N-E).toNat=0:=by
   refine Nat.div_eq_of_lt (Nat.lt_of_lt_of_le hT ?_);rw[ZdH];exact Nat.pow_le_pow_right (by omega) (by omega)
  by_cases hl:T % 2^(N-E).toNat=0
  ·rw[Ze9 hl,hz]
  ·have h2:=h.2;rw[Xa hl,Bool.true_and] at h2;unfold rq;rw[h2,hz];rfl
def QOk (h:Hp) (v:Value) (Q:Nat):Prop:=∃ p nq cq,v= .slice p nq cq∧vO h p nq=Q∧zJ h p nq cq=true∧Ztf h p nq cq=true
theorem Zqz {Q:Nat}(h:Q≤9007199254740992):(d16 Q).length≤4:=zI (k:=4) (by omega)
theorem ZfP {h:Hp}{k Q:Nat}(hb:h.blk? k=some (wU (d16 Q),tU)) (hQ:Q≤9007199254740992):zJ h (some ⟨k,0,none⟩) (d16 Q).length (d16 Q).length=true:=by
 have hl:=Zqz hQ;unfold zJ;rw[ZE hb (by omega),z6 hb,show Zfg (d16 Q)=true from ZaV (ZcB (by omega) Q),Zk.2 (by omega)];rfl
theorem Zq0 {h:Hp}{k Q:Nat}{d:Bool}(h1:d=true→h.blk? k=some (wU (d16 Q),tU)) (h0:d=false→Q=0) (hQ:Q≤9007199254740992):QOk h (sRw k d Q) Q:=by
 cases d
 ·refine⟨none,0,0,rfl,?_,rfl,rfl⟩;rw[h0 rfl];rfl
 ·have hb:=h1 rfl;have hl:=Zqz hQ;refine⟨some ⟨k,0,none⟩,_,_,rfl,zq hb,ZfP hb hQ,?_⟩;unfold Ztf;rw[ZE hb (by omega),Zaa hb,Zk.2 (by omega)];rfl
def Z1s (d:Bool) (Q:Nat):List (List Value×TypeId):=match d with | true=>[(wU (d16 Q),tU)] | false=>[]
theorem ZeX (d:Bool) (Q:Nat):(Z1s d Q).length≤1:=by cases d<;>simp [Z1s]
theorem Zeo (L:List (List Value×TypeId)) (neg:Bool) (E:Int) (S:Value) (b0:List Value×TypeId) (d:Bool) (Q:Nat):pRw (hB L neg E S b0) d Q=hB (Z1s d Q++L) neg E S b0:=by cases d<;>rfl
theorem ZxL (L:List (List Value×TypeId)) (neg:Bool) (E:Int) (S:Value) (b0:List Value×TypeId):(hB L neg E S b0).l.length=(hB L neg E S b0).n:=by
 simp [hB];omega
theorem ZtQ {h:Hp}(hl:h.l.length=h.n) (d:Bool) (Q:Nat):(pRw h d Q).l.length=(pRw h d Q).n:=by
 cases d
 ·exact hl
 ·simp [pRw,Hp.push,hl]
theorem Zmf {h:Hp}(hl:h.l.length=h.n) (d:Bool) (Q:Nat) {b:Nat}{x:List Value×TypeId}(hb:h.blk? b=some x):(pRw h d Q).blk? b=some x:=by
 cases d
 ·exact hb
 ·have:=Hp.blk_lt hb;show (h.push _ _).blk? b=_;rw[Hp.blk_push hl,if_neg (by omega)];exact hb
theorem ZeY {h:Hp}(hl:h.l.length=h.n) (d:Bool) (Q:Nat) (hd:d=true):(pRw h d Q).blk? h.n=some (wU (d16 Q),tU):=by
 subst hd;show (h.push _ _).blk? _=_;rw[Hp.blk_push hl,if_pos rfl]
theorem Zmg (m:Int) (neg:Bool):0≤bey m neg∧bey m neg≤9218868437227405312:=by unfold bey;split<;>omega
theorem ZfQ {p:Int}(h:0≤p∧p≤9218868437227405312):decide (0≤p∧p≤9218868437227405312)=true:=Xa h
theorem ZxM {N s:Int}(h0: -1074≤N) (h1:N≤2000) (h2:4503599627370496≤s) (h3:s≤9007199254740992):pk N s=(N+1074)*4503599627370496+s:=by
 unfold pk;have e1:u64.wrap (N+1075)=N+1075:=Go.Pt.wrapU' ⟨by omega,by omega⟩;have e2:u64.wrap ((N+1075)*4503599627370496)=(N+1075)*4503599627370496:=Go.Pt.wrapU' ⟨by omega,by omega⟩;have e3:u64.wrap ((N+1075)*4503599627370496+s)=(N+1075)*4503599627370496+s:=Go.Pt.wrapU' ⟨by omega,by omega⟩;rw[ZL (by omega) (by omega),e1,e2,e3,Go.Pt.wrapU' ⟨by omega,by omega⟩];omega
def ZeZ (m:Int) (neg:Bool) (T:Nat) (E:Int) (ex:Ex) (z:Lf):Prop:=(ex=none∨ex=some none)∧Zau prog f34 z.1 z.2.1=some (.tuple #[.int .u64 (sS neg (rnP m neg T E)),.int .i64 (rnF m neg T E)])
theorem Zep {x0:Value}{m r f:Int}{neg:Bool}{T:Nat}{E:Int}{h:Hp}(h1:r=sS neg (rnP m neg T E)) (h2:f=rnF m neg T E):∀ ex z,(ex=some none∧(∃ g,z.1=fr6 x0 m r f++tl 103 g)∧z.2.1=h)→ZeZ m neg T E ex z:=by
 rintro ex z ⟨rfl,⟨g,z1⟩,z2⟩;subst h1 h2;refine⟨.inr rfl,?_⟩;rw[z1];rfl
theorem Zmh {L:List (List Value×TypeId)}(hL:L.length≤3) {neg:Bool}{x0:Value}{E' E m t f:Int}{S q:Value}{e:Bool}{b0:List Value×TypeId}{g:Nat→Value}{T:Nat}(hT:T≠0) (hq:QOk (hB L neg E' S b0) q (toQ m neg T E (zr T E))) (hlo:zr T E≤1100) (hf:¬ 9218868437227405312≤p0 m neg T E→f=rnF m neg T E):
  RunsW (Zp prog Zh ZdJ hcQ) (tC f34 10) ((fr7 x0 m t++[.int .i64 (zr T E),q,.bool e,.int .i64 f])++tl 98 g,hB L neg E' S b0,[]) (ZeZ m neg T E):=by
 obtain⟨p,nq,cq,rfl,hv,hok,hrs⟩:=hq;have hge:=ZeA T E;have hhi:=Zf4 m neg T E;have hover:=ZnE (m:=m) (neg:=neg) (E:=E) hT;have hbl:bitLen (toQ m neg T E (zr T E))≤54:=by
  have:toQ m neg T E (zr T E)<2^54:=by have e:(2:Nat)^54=18014398509481984:=rfl;omega
  exact ZaX this
 have hsum:ZcC ((bl (vO (hB L neg E' S b0) p nq):Nat):Int) (zr T E)=(bitLen (toQ m neg T E (zr T E)):Int)+zr T E:=by
  rw[hv,Zd1];unfold ZcC;exact ZL (by omega) (by omega)
 have hlw:lwR (hB L neg E' S b0) p nq=((toQ m neg T E (zr T E):Nat):Int):=by
  unfold lwR;rw[hv,Nat.mod_eq_of_lt (by omega)]
 by_cases ho:9218868437227405312≤p0 m neg T E
 ·refine (Zc (Zg Zab ZaI) (Z1o L hL neg x0 E' m t (zr T E) f S p nq cq e b0 g) (Za (ZfQ (Zmg m neg)) (Za ?_ (Zz hok)))).mono (Zep ?_ ?_)
  ·rw[hsum,hover];exact Xa ho
  ·unfold rnP;rw[if_neg hT,if_pos ho]
  ·unfold rnF;rw[if_neg hT,if_pos ho]
 ·have hno:decide (ZcC ((bl (vO (hB L neg E' S b0) p nq):Nat):Int) (zr T E)>1024)=false:=by
   rw[hsum,hover];exact Xb ho
  have hr:rnP m neg T E=p0 m neg T E:=by
   unfold rnP;rw[if_neg hT,if_neg ho]
  have hp0:p0 m neg T E=(zr T E+1074)*4503599627370496+(toQ m neg T E (zr T E):Nat):=rfl;by_cases h53:toQ m neg T E (zr T E)=9007199254740992
  ·have es:ZcC (zr T E) 1=zr T E+1:=by unfold ZcC;exact ZL (by omega) (by omega)
   have ep:pk (ZcC (zr T E) 1) 4503599627370496=p0 m neg T E:=by
    rw[es,ZxM (by omega) (by omega) (by omega) (by omega),hp0,h53];omega
   refine (Zc (Zg Zab ZaI) (Z1r L hL neg x0 E' m t (zr T E) f S p nq cq e b0 g) (Za (ZfQ ?_) (Za ?_ (Za hrs (Za hno (Zz hok)))))).mono (Zep ?_ (hf ho))
   ·rw[ep];omega
   ·rw[hlw,h53];rfl
   ·rw[ep,hr]
  ·have n53:(lwR (hB L neg E' S b0) p nq==9007199254740992)=false:=by
    rw[hlw];simp only[beq_eq_false_iff_ne,ne_eq];omega
   by_cases h52:4503599627370496≤toQ m neg T E (zr T E)
   ·have ep:pk (zr T E) (lwR (hB L neg E' S b0) p nq)=p0 m neg T E:=by
     rw[hlw,ZxM (by omega) (by omega) (by omega) (by omega),hp0]
    refine (Zc (Zg Zab ZaI) (Z1q L hL neg x0 E' m t (zr T E) f S p nq cq e b0 g) (Za (ZfQ ?_) (Za ?_ (Za n53 (Za hrs (Za hno (Zz hok))))))).mono (Zep ?_ (hf ho))
    ·rw[ep];omega
    ·rw[hlw];exact Xa (by omega)
    ·rw[ep,hr]
   ·have hn:zr T E= -1074:=by
     by_cases hc: -1074≤lgN T E-52
     ·exact absurd (Zkm (m:=m) (neg:=neg) hT hc) h52
     ·unfold zr;rw[if_pos (by omega)]
    have ep:lwR (hB L neg E' S b0) p nq=p0 m neg T E:=by
     rw[hlw,hp0,hn];omega
    refine (Zc (Zg Zab ZaI) (Z1p L hL neg x0 E' m t (zr T E) f S p nq cq e b0 g) (Za (ZfQ ?_) (Za ?_ (Za n53 (Za hrs (Za hno (Zz hok))))))).mono (Zep ?_ (hf ho))
    ·rw[ep];omega
    ·rw[hlw];exact Xb (by omega)
    ·rw[ep,hr]
end Go.Proofs.YtekebccjflilnaaGreat
namespace Go.Proofs.YtekebccjflilnaaGreat
open Go.Proofs.Tryz
open Go.KRun Go.Nt Go.Wd Go.Rn
set_option maxRecDepth 100000
set_option linter.unusedVariables false
theorem Zmi {L:List (List Value×TypeId)}(hL:L.length≤1) {neg:Bool}{E t:Int}{b o n c:Nat}{b0 x:List Value×TypeId}{A:List Int}(hRow:∀ h':Hp,h'.blk? b=some x→zS h' (aB b o) n c=true∧Zu h' (aB b o) n=A) (hb:(hB L neg E (sl b o n c) b0).blk? b=some x) (hC:Zap 65536 A) (hn:A.length=n) (hn2:n<20000) (hE: -400000≤E∧E≤400000) (hT:vb 65536 A≠0) (ht:t=E+(bitLen (vb 65536 A):Nat)) (htr: -1300≤t∧t≤1100) (x0:Value) (m:Int) (g:Nat→Value):
  RunsW (Zp prog Zh ZdJ hcQ) (Zaz (rS3 f34) (tC f34 10)) (fr7 x0 m t++tl 102 g,hB L neg E (sl b o n c) b0,[]) (ZeZ m neg (vb 65536 A) E):=by
 have hlg:lgN (vb 65536 A) E=t-1:=by unfold lgN;omega
 have hd:dif t 53=lgN (vb 65536 A) E-52:=by unfold dif;rw[ZL (by omega) (by omega)];omega
 have hN:nOf t=zr (vb 65536 A) E:=by
  unfold nOf zr;rw[hd];split<;>split<;>omega
 have hge:=ZeA (vb 65536 A) E;have hlo:zr (vb 65536 A) E≤1100:=by unfold zr;split<;>omega
 have hTl:vb 65536 A<65536^n:=by rw[← hn];exact Zcu (by omega) A hC.1
 have hv:∀ h':Hp,h'.blk? b=some x→vO h' (aB b o) n=vb 65536 A:=fun h' hh=>by
  unfold vO;rw[(hRow h' hh).2]
 have hok:∀ (h':Hp) (N:Int),h'.blk? b=some x→(-400000≤N∧N≤400000)→Zpg h' (aB b o) n c E N=true:=fun h' N hh hN=>by
  unfold Zpg;rw[(hRow h' hh).1,(hRow h' hh).2,ZaV hC,Zk.2 (by omega),Xa ⟨hE,hN⟩];rfl
 have hl:=ZxL L neg E (sl b o n c) b0;have hQ53:=Zf4 m neg (vb 65536 A) E;have eQ:toQ m neg (vb 65536 A) E (zr (vb 65536 A) E)=qB m neg (hB L neg E (sl b o n c) b0) b o n E (nOf t):=by
  unfold qB;rw[hv _ hb,hN]
 obtain⟨d,hdd⟩:∃ d,d=Zc3 m neg (vb 65536 A) n E (zr (vb 65536 A) E):=⟨_,rfl⟩;obtain⟨Q,hQ⟩:∃ Q,Q=toQ m neg (vb 65536 A) E (zr (vb 65536 A) E):=⟨_,rfl⟩;have hq0:d=false→Q=0:=fun h0=>by rw[hQ];exact ZhL hTl (hdd.symm.trans h0)
 have hb1:=Zmf hl d Q hb;have hl1:=ZtQ hl d Q;by_cases ho:toL (vb 65536 A) E (zr (vb 65536 A) E)=true
 ·have eQ2:toQ m neg (vb 65536 A) E (lgN (vb 65536 A) E-52)=qB m neg (pRw (hB L neg E (sl b o n c) b0) d Q) b o n E (dif t 53):=by
   unfold qB;rw[hv _ hb1,hd]
  obtain⟨d2,hdd2⟩:∃ d2,d2=Zc3 m neg (vb 65536 A) n E (lgN (vb 65536 A) E-52):=⟨_,rfl⟩;obtain⟨Q2,hQ2⟩:∃ Q2,Q2=toQ m neg (vb 65536 A) E (lgN (vb 65536 A) E-52):=⟨_,rfl⟩;have hq20:d2=false→Q2=0:=fun h0=>by rw[hQ2];exact ZhL hTl (hdd2.symm.trans h0)
  have hQ253:Q2≤9007199254740992:=by rw[hQ2];exact Zhi (n:=53) (by unfold lgN;omega)
  have hvF:vF (pRw (pRw (hB L neg E (sl b o n c) b0) d Q) d2 Q2) (pRw (hB L neg E (sl b o n c) b0) d Q).n d2 Q2=Q2:=by
   cases d2
   ·rw[hq20 rfl];rfl
   ·exact zq (ZeY hl1 true Q2 rfl)
  have hokF:okF (pRw (pRw (hB L neg E (sl b o n c) b0) d Q) d2 Q2) (pRw (hB L neg E (sl b o n c) b0) d Q).n d2 Q2=true:=by
   cases d2
   ·rfl
   ·exact ZfP (ZeY hl1 true Q2 rfl) hQ253
  have hbl:bitLen Q2≤54:=ZaX (by have e:(2:Nat)^54=18014398509481984:=rfl;omega);have hty:=ZnD (m:=m) (neg:=neg) (E:=E) hT;refine Z0 (Zg Zab ZaI) (Z1n d d2 (ZdG m neg (vb 65536 A) E) (toL (vb 65536 A) E (lgN (vb 65536 A) E-52)) L hL neg x0 E m t b o n c b0 g Q Q2 (hQ.trans eQ) (hQ2.trans eQ2)) ?_ fun g'=> ?_
  ·refine Za ?_ (Za hokF (Za ?_ (Za ?_ (Za (hok _ _ hb1 (by omega)) (Za ?_ (Za ?_ (Zz (hok _ _ hb (by omega)))))))))
   ·rw[hvF,Zd1,← hty,← hQ2];have e1:ZcC (bitLen Q2:Nat) t=(bitLen Q2:Nat)+t:=by unfold ZcC;exact ZL (by omega) (by omega)
    have e2:dif ((bitLen Q2:Nat)+t) 53=(bitLen Q2:Nat)+t-53:=by unfold dif;exact ZL (by omega) (by omega)
    rw[e1,e2,hlg];congr 1;simp only[eq_iff_iff];omega
   ·rw[hv _ hb1,hd]
   ·rw[hv _ hb1,hd,hdd2]
   ·rw[hv _ hb,hN,ho]
   ·rw[hv _ hb,hN,hdd]
  ·have hq:QOk (pRw (pRw (hB L neg E (sl b o n c) b0) d Q) d2 Q2) (sRw (hB L neg E (sl b o n c) b0).n d Q) Q:=Zq0 (fun h1=>Zmf hl1 d2 Q2 (ZeY hl d Q h1)) hq0 (by omega);rw[Zeo,Zeo,hQ] at hq;rw[Zeo,Zeo,hN,hQ];refine Zmh ?_ hT hq hlo fun hno=> ?_
   ·have h1:=ZeX d (toQ m neg (vb 65536 A) E (zr (vb 65536 A) E));have h2:=ZeX d2 Q2;simp only[List.length_append];omega
   ·unfold rnF;rw[if_neg hT,if_neg hno,if_pos ho];cases ZdG m neg (vb 65536 A) E<;>rfl
 ·have ho:=(Bool.not_eq_true _).mp ho;refine Z0 (Zg Zab ZaI) (Z1m d L hL neg x0 E m t b o n c b0 g) ?_ fun g'=> ?_
  ·refine Za ?_ (Za ?_ (Zz (hok _ _ hb (by omega))))
   ·rw[hv _ hb,hN,ho]
   ·rw[hv _ hb,hN,hdd]
  ·rw[← eQ,← hQ];have hq:QOk (pRw (hB L neg E (sl b o n c) b0) d Q) (sRw (hB L neg E (sl b o n c) b0).n d Q) Q:=Zq0 (fun h1=>ZeY hl d Q h1) hq0 (by omega);rw[Zeo,hQ] at hq;rw[Zeo,hN,hQ];refine Zmh ?_ hT hq hlo fun hno=> ?_
   ·have h1:=ZeX d (toQ m neg (vb 65536 A) E (zr (vb 65536 A) E));simp only[List.length_append];omega
   ·unfold rnF;rw[if_neg hT,if_neg hno,ho];rfl
theorem Zpi:tC f34 2=Zaz (rS2 f34) (Zaz (rS3 f34) (tC f34 10)):=by kernel_rfl
theorem Zq1 {A:List Int}(hC:Zap 65536 A) (h:A≠[]):vb 65536 A≠0:=fun h0=>by
 have:=Zk7 (by omega) hC;rw[h0] at this;apply h;rw[← this];exact zx _
section
variable {l : List Value} {o c : Nat} {A : List Int}
theorem Zpj (hF:Fst l o c A) (hC:Zap 65536 A) (hn:A.length<20000) {neg:Bool}{E:Int}(hE: -4000000≤E∧E≤4000000) (m:Int) (g:Nat→Value):
  RunsW (Zp prog Zh ZdJ hcQ) (tC f34 2) ([vRN neg E (sl 0 o A.length c),.int .i64 m,.pointer (some ⟨1,0,none⟩),undef,.int .u64 0,.int .i64 0]++tl 103 g,hX neg E o A.length c l,[]) (ZeZ m neg (vb 65536 A) E):=by
 have hb0:(hX neg E o A.length c l).blk? 0=some (l,tR):=rfl;have hv:=Zba hF hb0;by_cases h0:A.length=0
 ·have hz:vb 65536 A=0:=by rw[List.eq_nil_of_length_eq_zero h0];rfl
  refine (Zc (Zg Zab ZaI) (ZtP neg E m o A.length c l g) (Za (by rfl) (Zz ?_))).mono (Zep ?_ ?_)
  ·rw[h0];rfl
  ·rw[hz];rfl
  ·rw[hz];rfl
 ·have hT:=Zq1 hC (fun h=>h0 (by rw[h];rfl));have hTl:vb 65536 A<2^(16*A.length):=by rw[← ZdH];exact Zcu (by omega) A hC.1
  have hbl:=ZaX hTl;have e0:(((A.length:Nat):Int)==0)=false:=by
   simp only[beq_eq_false_iff_ne,ne_eq];omega
  have hok:zJ (hX neg E o A.length c l) (aX o) A.length c=true:=Zay hF hC (by omega) hb0;have es:ZcC E ((bl (vO (hX neg E o A.length c l) (aX o) A.length):Nat):Int)=E+(bitLen (vb 65536 A):Nat):=by
   rw[hv,Zd1];unfold ZcC;exact ZL (by omega) (by omega)
  have hlg:lgN (vb 65536 A) E=E+(bitLen (vb 65536 A):Nat)-1:=rfl;by_cases hbig:E+(bitLen (vb 65536 A):Nat)>1100
  ·have hr:=ZkD (m:=m) (neg:=neg) hT (show 1024≤lgN (vb 65536 A) E by omega);refine (Zc (Zg Zab ZaI) (ZxI neg E m o A.length c l g) (Za (ZfQ (Zmg m neg)) (Za ?_ (Za hok (Zz e0))))).mono (Zep ?_ ?_)
   ·rw[es];exact Xa hbig
   ·rw[hr.1]
   ·rw[hr.2]
  ·have nb:decide (ZcC E ((bl (vO (hX neg E o A.length c l) (aX o) A.length):Nat):Int)>1100)=false:=by
    rw[es];exact Xb hbig
   rw[Zpi];by_cases hlow:E+(bitLen (vb 65536 A):Nat)< -1200
   ·have lb:decide (ZcC E ((bl (vO (hX neg E o A.length c l) (aX o) A.length):Nat):Int)< -1200)=true:=by
     rw[es];exact Xa hlow
    have e1:vb 65536 (d16 1)=1:=Zk6 (by omega) 1;have eb:bitLen 1=1:=ZcR (k:=0) (by decide) (by decide);have r1:=Zho (m:=m) (neg:=neg) hT (show lgN (vb 65536 A) E≤ -1100 by omega);have r2:=Zho (m:=m) (neg:=neg) (T:=1) (E:= -1300) (by decide) (by unfold lgN;rw[eb];decide);refine Z0 (Zg Zab ZaI) (ZxK neg E m o A.length c l g) (Za (by rfl) (Za (by rfl) (Za lb (Za nb (Za hok (Zz e0)))))) fun g'=> ?_;refine (Zmi (L:=[(wU (d16 1),tU)]) (b:=2) (o:=0) (n:=(d16 1).length) (c:=(d16 1).length) (b0:=(l,tR)) (x:=(wU (d16 1),tU)) (A:=d16 1) (E:= -1300) (t:= -1299) (neg:=neg) (by decide) (fun h' hh=>⟨ZE hh (by rw[zy];omega),z6 hh⟩) rfl (ZcB (by omega) 1) rfl (by rw[zy];omega) (by omega) (by rw[e1];omega) (by rw[e1,eb];omega) (by omega) (vRN neg E (sl 0 o A.length c)) m g').mono fun ex z hz=> ?_;unfold ZeZ at hz ⊢;rw[e1,r2.1,r2.2] at hz;rw[r1.1,r1.2];exact hz
   ·have lb:decide (ZcC E ((bl (vO (hX neg E o A.length c l) (aX o) A.length):Nat):Int)< -1200)=false:=by
     rw[es];exact Xb hlow
    refine Z0 (Zg Zab ZaI) (ZxJ neg E m o A.length c l g) (Za lb (Za nb (Za hok (Zz e0)))) fun g'=> ?_;exact Zmi (L:=[]) (b:=0) (b0:=(l,tR)) (x:=(l,tR)) (neg:=neg) (by decide) (fun h' hh=>hF h' hh) rfl hC rfl (by omega) (show -400000≤E∧E≤400000 by omega) hT es (by omega) (vRN neg E (sl 0 o A.length c)) m g'
theorem Zpk (hF:Fst l o c A) (hC:Zap 65536 A) (hn:A.length<20000) {neg:Bool}{E:Int}(hE: -4000000≤E∧E≤4000000) (M:Int):
  RunsW (Zp prog Zh ZdJ hcQ) (Zv f34) ([vRN neg E (sl 0 o A.length c),.int .i64 M]++List.replicate 107 undef,⟨1,[(l,tR)]⟩,[]) (ZeZ M neg (vb 65536 A) E):=by
 have ecode:Zv f34=Zaz (rS1 f34) (tC f34 2):=Option.some.inj (Zme.symm.trans Zph);rw[ecode];have fin:∀ m,m=mN M→∀ g,RunsW (Zp prog Zh ZdJ hcQ) (tC f34 2) ([vRN neg E (sl 0 o A.length c),.int .i64 m,.pointer (some ⟨1,0,none⟩),undef,.int .u64 0,.int .i64 0]++tl 103 g,hX neg E o A.length c l,[]) (ZeZ M neg (vb 65536 A) E):=fun m hm g=>by
  have:=Zpj (neg:=neg) hF hC hn hE m g;unfold ZeZ at this ⊢;rw[hm,Zv2,Zv3] at this;rw[hm];exact this
 by_cases h1:M<0
 ·exact Z0 (Zg Zab ZaI) (Z1j neg E M o A.length c l) (Zz (Xa h1)) fun g=>fin 0 (by unfold mN;rw[if_pos h1]) g
 ·by_cases h2:M>4
  ·exact Z0 (Zg Zab ZaI) (Z1k neg E M o A.length c l) (Za (Xa h2) (Zz (Xb h1))) fun g=>fin 0 (by unfold mN;rw[if_neg h1,if_pos h2]) g
  ·exact Z0 (Zg Zab ZaI) (Z1l neg E M o A.length c l) (Za (Xb h2) (Zz (Xb h1))) fun g=>fin M (by unfold mN;rw[if_neg h1,if_neg h2]) g
theorem ZtR (hF:Fst l o c A) (hC:Zap 65536 A) (hn:A.length<20000) {neg:Bool}{E:Int}(hE: -400000≤E∧E≤400000) (M:Int):
  RunsW (Zp prog Zh ZdJ hcQ) (Zv f34) ([vRN neg E (sl 0 o A.length c),.int .i64 M]++List.replicate 107 undef,⟨1,[(l,tR)]⟩,[]) (ZeZ M neg (vb 65536 A) E):=Zpk hF hC hn ⟨by omega,by omega⟩ M
end
def ZiX (h:Hp) (p:Option Addr) (n c:Nat) (E:Int):Bool:=zS h p n c && Zfg (Zu h p n) && Nat.blt n 20000 && decide (-400000≤E∧E≤400000)
def gRr:Zcl:=fun vals h s=>
 match vals with
 | [.agg cs,.int .i64 M]=>
  match cs.toList with
  | [.bool neg,.int .i64 E,.slice (some ⟨b,o,none⟩) n c]=>some (.tuple #[.int .u64 (sS neg (rnP M neg (vO h (some ⟨b,o,none⟩) n) E)),.int .i64 (rnF M neg (vO h (some ⟨b,o,none⟩) n) E)],h,s,[(ZiX h (some ⟨b,o,none⟩) n c E,true)])
  | _=>none
 | _=>none
theorem Zq2:za 34 gRr:=by
 intro vals h s v h' s' lg hg hl m B w E0 hv;unfold gRr at hg;split at hg
 ·rename_i cs M;split at hg
  ·rename_i neg E b o n c hcs;have ecs:cs= #[.bool neg,.int .i64 E,sl b o n c]:=by
    have:=congrArg List.toArray hcs;simpa [sl] using this
   cases hg;have l3:=hl _ Xf;simp only[ZiX,Xh,Xi] at l3;obtain⟨⟨⟨q1,q2⟩,q3⟩,q4⟩:=l3;have q2:=Zc1 q2;have q3:=Zk.1 q3;rcases Z8 q1 with ⟨h0,_⟩ | ⟨b',o',x,hp,hx,r1,rs,e0⟩
   ·cases h0
   ·cases hp;rw[e0] at q2;obtain⟨h1,h2,h3,h4,h5,h6,h7⟩:=ZU r1;have ev:vO h (some ⟨b,o,none⟩) n=vb 65536 (zu x.1 o n):=by unfold vO;rw[e0]
    have r:=ZtR (Zma r1 rs) q2 (by rw[h2];exact q3) (neg:=neg) q4 M;rw[h2,← ev] at r;have evals:List.map (rn fun _=>b) [vRN neg E (sl 0 o n c),.int .i64 M]=[.agg cs,.int .i64 M]:=by
     rw[ecs];simp [rn,rn2,rn1,vRN,sl]
    have fin:=ZH (T:=Zp prog Zh ZdJ hcQ) func34 Zme (ZcH h7) (vals:=[vRN neg E (sl 0 o n c),.int .i64 M]) (fun v hv=>by
     simp only[List.mem_cons,List.not_mem_nil,or_false] at hv;rcases hv with h1 | h1<;>rw[h1]<;>rfl) (v:= .tuple #[.int .u64 (sS neg (rnP M neg (vO h (some ⟨b,o,none⟩) n) E)),.int .i64 (rnF M neg (vO h (some ⟨b,o,none⟩) n) E)]) (by rfl) r E0 (Zbs hx h5 h6 rfl)
    rw[evals] at fin;exact fin
  ·cases hg
 ·cases hg
end Go.Proofs.YtekebccjflilnaaGreat
namespace Go.Proofs.YtekebccjflilnaaGreat
open Go.KRun Go.Nt
set_option maxRecDepth 100000
theorem Zfa {x:Bool×Bool}{l:Log}(h:Zx (x::l)):x.1=x.2∧Zx l:=⟨h _ Xe,fun y hy=>h y (Xd _ hy)⟩
def Zpl (h:Hp) (p:Option Addr) (n c:Nat) (k:Int):Bool:=zS h p n c && dgB (Zu h p n) && Nat.blt (k.toNat/16+n+3) 1073741824 && decide (0≤k)
def Zmj:Zcl:=fun vals h s=>
 match vals,s with
 | [.slice p n c,.int .i64 k],.inr (.inr (.inr (.inl d)))::s'=>
  match d,s' with
  | true,.inr (.inl V)::s2=>Zei V.toNat h s2 [(decide (vO h p n*2^k.toNat=V.toNat),true),(Zpl h p n c k,true),(decide (0<n),true)]
  | false,_=>some (Zn,h,s',[(zS h p n c,true),(decide (0<n),false)])
  | _,_=>none
 | _,_=>none
theorem Zmk:za 44 Zmj:=by
 intro vals h s v h' s' lg hg hl;unfold Zmj at hg;split at hg
 ·rename_i p n c k d s2;split at hg
  ·rename_i V s3;unfold Zei at hg;cases hg;obtain⟨l1,l2⟩:=Zfa hl;have l1:=Xc l1;refine ZeV _ h [cmp true] _ _ [] _ ?_ l2;simp only[ZoL,Zei,l1];rfl
  ·cases hg;exact ZeV _ h [cmp false] _ _ [] _ rfl hl
  ·cases hg
 ·cases hg
def Zml:Zcl:=fun vals h s=>
 match vals,s with
 | [.slice p n c,.slice q n' c'],.inr (.inl k)::s'=>some (.int .i64 k,h,s',[(decide (Zax (vO h p n) (vO h q n')=k),true),(Z6 h p q n c n' c',true)])
 | _,_=>none
theorem Zmm:za 75 Zml:=by
 intro vals h s v h' s' lg hg hl;unfold Zml at hg;split at hg
 ·rename_i p n c q n' c' V s3;cases hg;obtain⟨l1,l2⟩:=Zfa hl;have l1:=Xc l1;refine ZeU _ h [] _ _ [] _ ?_ l2;simp only[ZlD,l1]
 ·cases hg
section
variable {h : Hp} {b b' V W : Nat}
theorem oSh {k:Nat}(hb:h.blk? b=some (wU (d16 V),tU)) (hl:(d16 V).length<100000) (hk:k<100000):Zpl h (some ⟨b,0,none⟩) (d16 V).length (d16 V).length (k:Int)=true:=by
 unfold Zpl;rw[ZE hb (by omega),Zaa hb,Zk.2 (by rw[Xg];omega),Xa (by omega)];rfl
theorem Z2A (hb:h.blk? b=some (wU (d16 V),tU)) (hc:h.blk? b'=some (wU (d16 W),tU)) (hl:(d16 V).length<100000) (hm:(d16 W).length<100000):Z6 h (some ⟨b,0,none⟩) (some ⟨b',0,none⟩) (d16 V).length (d16 V).length (d16 W).length (d16 W).length=true:=by
 unfold Z6;rw[ZE hb (by omega),Zaa hb,ZE hc (by omega),Zaa hc,Zk.2 (by omega)];rfl
end
def Za7 (b:Nat):Option Addr:=some ⟨b,0,none⟩
def w16 (X:Nat):List Value×TypeId:=(wU (d16 X),tU)
theorem zF (L:List Int):(wU L).all Za2=true:=by
 unfold wU;rw[List.all_eq_true];intro v hv;obtain⟨x,_,rfl⟩:=List.mem_map.1 hv;rfl
section
variable {h : Hp} {b V : Nat}
theorem ZbA (hb:h.blk? b=some (wU (d16 V),tU)):vO h (Za7 b) (d16 V).length=V:=zq hb
theorem Zc4:0<(d16 V).length↔0<V:=by
 unfold d16;rw[List.length_pos_iff,ne_eq,Zef (by omega)];omega
end
def Zmn:Zcl:=fun vals h s=>
 match vals,s with
 | [.slice p n c,.slice q n' c'],.inr (.inr (.inr (.inl d)))::s'=>
  match d,s' with
  | true,.inr (.inl V)::s2=>Zei V.toNat h s2 [(decide (vO h p n+vO h q n'=V.toNat),true),(Z6 h p q n c n' c',true),(decide (0<n∨0<n'),true)]
  | false,_=>some (Zn,h,s',[(Z6 h p q n c n' c',true),(decide (0<n∨0<n'),false)])
  | _,_=>none
 | _,_=>none
theorem Zmo:za 46 Zmn:=by
 intro vals h s v h' s' lg hg hl;unfold Zmn at hg;split at hg
 ·rename_i p n c q n' c' d s2;split at hg
  ·rename_i V s3;unfold Zei at hg;cases hg;obtain⟨l1,l2⟩:=Zfa hl;have l1:=Xc l1;refine ZeT _ h [cmp true] _ _ [] _ ?_ l2;simp only[Zou,Zei,l1]
  ·cases hg;exact ZeT _ h [cmp false] _ _ [] _ rfl hl
  ·cases hg
 ·cases hg
end Go.Proofs.YtekebccjflilnaaGreat
namespace Go.Proofs.YtekebccjflilnaaGreat
open Go.Proofs.Tryz
open Go.KRun Go.Nt
set_option maxRecDepth 100000
def Z1t:Zcl:=fun vals h s=>
 match vals,s with
 | [.agg cs,.int .i64 M],.inr (.inl T)::s'=>
  match cs.toList with
  | [.bool neg,.int .i64 E,.slice (some ⟨b,o,none⟩) n c]=>some (.tuple #[.int .u64 (sS neg (Go.Rn.rnP M neg T.toNat E)),.int .i64 (Go.Rn.rnF M neg T.toNat E)],h,s',[(decide (vO h (some ⟨b,o,none⟩) n=T.toNat),true),(ZiX h (some ⟨b,o,none⟩) n c E,true)])
  | _=>none
 | _,_=>none
theorem ZtS:za 34 Z1t:=by
 intro vals h s v h' s' lg hg hl;unfold Z1t at hg;split at hg
 ·rename_i cs M T s2;split at hg
  ·rename_i neg E b o n c hcs;cases hg;obtain⟨l1,l2⟩:=Zfa hl;have l1:=Xc l1;refine Zq2 _ h [] _ _ [] _ ?_ l2;simp only[gRr,hcs,l1]
  ·cases hg
 ·cases hg
def Z2B:Hc:=Zb5 46 Zmn (Zb5 44 Zmj (Zb5 75 Zml (Zb5 69 ZlO (Zb5 45 Zxp (Zb5 65 ZoE (Zb5 34 Z1t hcN))))))
theorem ZtT:HcOk Z2B:=ZA func46 rfl Zmo (ZA func44 rfl Zmk (ZA func75 rfl Zmm (ZA func69 rfl ZlP (ZA func45 rfl Zg1 (ZA func65 rfl ZhH (ZA func34 rfl ZtS ZfI))))))
end Go.Proofs.YtekebccjflilnaaGreat
namespace Go.Proofs.YtekebccjflilnaaGreat
open Go.Proofs.Tryz
open Go.KRun Go.Nt Go.Wd Go.Rn Go.Pt
set_option maxRecDepth 100000
set_option linter.unusedVariables false
def bPt (p:Int):List Value×TypeId:=([.bool (sgn p),.int .i64 (cl p),.int .i64 (xp p),.int .u64 (sg p)],67)
def Zzb:Hc:=Zb5 45 Zxp hcN
theorem ZtU:HcOk Zzb:=ZA func45 rfl Zg1 ZfI
def ZfR:Con:=alt 41 (gU vT) Zo
theorem Zfb:ConOk ZfR:=Zy func41 rfl ZpY Zd
theorem ZtV:f51.body=some (Zv f51):=by kernel_rfl
theorem Z1u (p:Int):Zm (evC (Zp prog Zh ZfR Zzb) 200 false (Zv f51) ([.int .u64 p]++List.replicate 13 undef,⟨0,[]⟩,[]) ⟨[],[],[]⟩) 3 11 (some none) [.int .u64 p,undef,.pointer (some ⟨0,0,none⟩)] ⟨3,[(wU (d16 (sg p).toNat),tU),([.bool (sgn p),.int .i64 (cl p),.int .i64 (xp p),.int .u64 (sg p)],67),bOf (sgn p) (xp p) (sOf 2 (sg p).toNat)]⟩ [(decide (0≤sg p∧sg p<18446744073709551616),true),(decide (U p),true)]:=by and_intros<;>kernel_rfl
def gPt:Zcl:=fun vals h s=>
 match vals with
 | [.int .u64 p]=>some (vRN (sgn p) (xp p) (sOf h.n (sg p).toNat),h.push (wU (d16 (sg p).toNat)) tU,s,[(decide (U p),true)])
 | _=>none
theorem ZxN:za 51 gPt:=by
 intro vals h s v h' s' lg hg hl m B w E hv;unfold gPt at hg;split at hg
 ·rename_i p;cases hg;have q:=hl _ Xf;have hs:=ZbK p;have hr:RunsW (Zp prog Zh ZfR Zzb) (Zv f51) ([.int .u64 p]++List.replicate 13 undef,⟨0,[]⟩,[]) fun e z=>(e=none∨e=some none)∧∃ k,Zau prog f51 z.1 z.2.1=some (vRN (sgn p) (xp p) (sOf k (sg p).toNat))∧∃ r,z.2.1.blk? k=some (wU (d16 (sg p).toNat)++r,tU):=by
   refine (Zc (Zg Zfb ZtU) (Z1u p) (Za (Xa ⟨hs.1,by omega⟩) (Zz q))).mono fun e z he=> ?_;obtain⟨rfl,⟨g,e1⟩,e2⟩:=he;exact⟨.inr rfl,2,by rw[e1,e2];rfl,[],by rw[e2,List.append_nil];rfl⟩
  have:=Zb6 (T:=Zp prog Zh ZfR Zzb) func51 ZtV (h0:=⟨0,[]⟩) ⟨rfl,fun b x hx=>by have:b<0:=Hp.blk_lt hx;omega⟩ (vals:=[.int .u64 p]) (fun v hv=>by rw[List.mem_singleton.1 hv];rfl) (v:=fun k=>vRN (sgn p) (xp p) (sOf k (sg p).toNat)) (Zbu _) (by kernel_rfl) hr (fun k=>by simp [oc,oc2,oc1,sOf,sl,vRN]) E (s:=fun i=>i) (fun i x hx _=>by have:i<0:=Hp.blk_lt hx;omega) (fun k=>by simp [rn,rn2,rn1,sOf,sl,vRN]);exact this
 ·cases hg
end Go.Proofs.YtekebccjflilnaaGreat
namespace Go.Proofs.YtekebccjflilnaaGreat
open Go.KRun Go.Nt Go.Wd Go.Pt Go.Rn
set_option maxRecDepth 100000
section
variable {h : Hp} {b V : Nat}
theorem oRo {E:Int}(hb:h.blk? b=some (wU (d16 V),tU)) (hl:(d16 V).length<20000) (hE: -400000≤E∧E≤400000):ZiX h (Za7 b) (d16 V).length (d16 V).length E=true:=by
 unfold ZiX Za7;rw[ZE hb (by omega),z6 hb,show Zfg (d16 V)=true from ZaV (ZcB (by omega) V),Zk.2 hl,Xa hE];rfl
end
end Go.Proofs.YtekebccjflilnaaGreat
namespace Go.Proofs.YtekebccjflilnaaGreat
open Go.Proofs.Tryz
open Go.IntKind
open Go.KRun Go.Nt Go.Wd Go.Pt Go.Rn
set_option maxRecDepth 100000
theorem Z1v (p:Int):Zw (Ze (Zi prog Zh Zo true) 300 42 [.int .u64 p,.bool true] []) (.int .u64 (u64.wrap (p+9223372036854775808))) []:=by and_intros<;>kernel_rfl
theorem Z1w (p:Int):Zw (Ze (Zi prog Zh Zo true) 300 42 [.int .u64 p,.bool false] []) (.int .u64 p) []:=by and_intros<;>kernel_rfl
theorem Zmp (p:Int) (n:Bool) (hp:0≤p∧p<9223372036854775808) (w:World):Calls prog 42 #[.int .u64 p,.bool n] w fun r w'=>r= .returned (.int .u64 (sS n p))∧zg w w':=by
 cases n with
 | true=>
  have e1:u64.wrap (p+9223372036854775808)=sS true p:=by
   rw[wrapU' ⟨by omega,by omega⟩];simp only[sS,if_true];omega
  rw[← e1];exact Zb (Zf Zd) (Z1v p) Zne (by rfl) (by rfl) w
 | false=>
  have e0:sS false p=p:=by simp [sS]
  rw[e0];exact Zb (Zf Zd) (Z1w p) Zne (by rfl) (by rfl) w
def Z1x:Ans:=fun vals s=>
 match vals with
 | [.int .u64 p,.bool n]=>some (.int .u64 (sS n p),s,[(decide (0≤p∧p<9223372036854775808),true)])
 | _=>none
theorem ZtW:ZJ 42 Z1x:=by
 intro vals s v s' lg h hl w;unfold Z1x at h;split at h
 ·cases h;exact Zmp _ _ (Xc (hl _ Xf)) w
 ·cases h
def ZbN:Con:=alt 42 Z1x (alt 41 (gU vT) Zo)
theorem ZhM:ConOk ZbN:=Zy func42 rfl ZtW (Zy func41 rfl ZpY Zd)
end Go.Proofs.YtekebccjflilnaaGreat
namespace Go.Proofs.YtekebccjflilnaaGreat
open Go.Proofs.Tryz
open Go.KRun Go.Nt
set_option maxRecDepth 100000
set_option linter.unusedVariables false
section
variable {la lb : List Value} {o c o' c' : Nat} {A L : List Int}
def rIn (V:Nat) (Q:List Int) (la lb:List Value) (r:Value) (h:Hp):Prop:=(V=0∧r=Zn∧h=hB3 (wU Q) lb la)∨(r=sl 3 0 (d16 V).length (d16 V).length∧h=hB4 (wU (d16 V)) (wU Q) lb la)
theorem Zpm (H:Two la lb o o' c' A L) {V:Nat}(hV:V<vb 65536 L) {Q:List Int}{k:Nat}(hk:k<A.length) {v10 v11:Value}(k1:KRun.lt 4 v10=true) (k2:KRun.lt 4 v11=true) (s1:∀ b:Nat,rn (zv 3 b) v10=v10) (s2:∀ b:Nat,rn (zv 3 b) v11=v11) {r:Value}{h:Hp}(hr:rIn V Q la lb r h) (g:Nat→Value) (s:List Dec):
  RunsW (Zp prog Zh Zo hcP) (x7 f43) (pFr o A.length c o' L.length c' A.length r ((k:Nat):Int) v10 v11++tl 83 g,h,s) fun e z=>e=none∧(∃ g,z.1=pFr o A.length c o' L.length c' A.length (sl 3 0 (d16 ((A.getD k 0).toNat+65536*V)).length (d16 ((A.getD k 0).toNat+65536*V)).length) ((k:Nat):Int) v10 v11++tl 83 g)∧z.2.1=hB4 (wU (d16 ((A.getD k 0).toNat+65536*V))) (wU Q) lb la:=by
 have hd:=Zd7 H.dA k;generalize hdd:A.getD k 0=d at*;obtain⟨t1,t2⟩:=ZoO V hd;have b2:=H.bnd.2.1;have hlen:(d16 V).length≤L.length:=Zch (Nat.lt_trans hV b2);have n2:=H.n2;have gc:ZC (la[o+((k:Nat):Int).toNat*1]?) (.int .u32 d)=true:=by rw[Xg,Nat.mul_one,H.ra.cell hk,hdd];simp [ZC]
 have gi:decide (0≤((k:Nat):Int)∧((k:Nat):Int)<((A.length:Nat):Int))=true:=Xa (by omega);have one:ZaK tU [.int .u32 d] 0 1 1=true:=zY (L:=[d]) (Zxg hd) (by show 1<_;omega) (ZyZ (by show 1<_;omega));have c1:zu [.int .u32 d] 0 1=[d]:=ZaE [d];have lt':∀ t:Nat,∀ v∈pFr o A.length c o' L.length c' A.length (sl 3 0 t t) ((k:Nat):Int) v10 v11,KRun.lt 4 v=true:=fun t=>Zqt k1 k2;have front:∀ b t:Nat,3≤b→(pFr o A.length c o' L.length c' A.length (sl 3 0 t t) ((k:Nat):Int) v10 v11).map (rn (zv 3 b))=pFr o A.length c o' L.length c' A.length (sl b 0 t t) ((k:Nat):Int) v10 v11:=fun b t hb=>by
  simp only[pFr,List.map_cons,List.map_nil,s1,s2]
  kernel_rfl
 by_cases h0:V=0
 ·subst h0;have e0:d16 0=[]:=zx _;rw[e0] at t1 t2;rcases hr with ⟨_,rfl,rfl⟩ | ⟨rfl,rfl⟩
  ·have r:=Zc (s0:=s) Zbb (Z0O o A.length c o' L.length c' A.length v10 v11 ((k:Nat):Int) d (wU Q) lb la g) (Zt one (Zt gc (Z2 gi)));rw[c1,t1] at r;exact r.keptP (k:=3) (b:=3) (base:=[(wU Q,tU),(lb,tR),(la,tR)]) (y:=(wU (d16 (d.toNat+65536*0)),tU)) (r:=wU ([d].drop (Z3 [d]))) rfl (front 3 _ (Nat.le_refl _)) (ZoP (ZP Q) H.sb H.sa rfl rfl rfl) (by
    show some ([Value.int .u32 d],tU)=_;rw[← t2];rfl) (Nat.le_refl _) (ZP _) (lt' _)
  ·rw[e0];have r:=Zc (s0:=s) Zbb (Z0P o A.length c o' L.length c' A.length v10 v11 ((k:Nat):Int) d (wU []) (wU Q) lb la g) (Zt one (Zt gc (Z2 gi)));rw[c1,t1] at r;exact r.keptP (k:=3) (b:=4) (base:=[(wU Q,tU),(lb,tR),(la,tR)]) (y:=(wU (d16 (d.toNat+65536*0)),tU)) (r:=wU ([d].drop (Z3 [d]))) rfl (front 4 _ (by omega)) (ZoP (ZP Q) H.sb H.sa rfl rfl rfl) (by
    show some ([Value.int .u32 d],tU)=_;rw[← t2];rfl) (by omega) (ZP _) (lt' _)
 ·rcases hr with ⟨h1,_,_⟩ | ⟨rfl,rfl⟩
  ·exact absurd h1 h0
  ·have hpos:0<(d16 V).length:=by
    rcases Nat.eq_zero_or_pos (d16 V).length with h1 | h1
    ·exact absurd ((Zef (b:=65536) (by omega)).1 (List.eq_nil_of_length_eq_zero h1)) h0
    ·exact h1
   have et:List.take (d16 V).length (List.drop 0 (wU (d16 V)))=wU (d16 V):=by rw[List.drop_zero,← Zbt,List.take_length]
   have e1:[.int .u32 d]++List.take (d16 V).length (List.drop 0 (wU (d16 V)))=wU (d::d16 V):=by rw[et];rfl
   have hD:∀ x∈d::d16 V,0≤x∧x<4294967296:=fun x hx=>by
    rcases List.mem_cons.1 hx with rfl | hx
    ·exact⟨hd.1,by have:=hd.2;omega⟩
    ·exact ZlN V x hx
   have row:ZaK tU (wU (d::d16 V)) 0 (1+(d16 V).length) grown=true:=by
    have:=zY (L:=d::d16 V) hD (by simp only[List.length_cons];omega) (c:=grown) (Zu5 _);rw[List.length_cons,Nat.add_comm] at this;exact this
   have chz:Zc7 ([.int .u32 d],tU) (wU (d16 V),tU) 1 1 0 (d16 V).length=true:=ZfM (L:=[d]) (M:=d16 V) rfl rfl hpos (by simp only[List.length_singleton];omega);have cD:zu (wU (d::d16 V)) 0 (1+(d16 V).length)=d::d16 V:=by
    have:=ZaE (d::d16 V);rw[List.length_cons,Nat.add_comm] at this;exact this
   have q:=Z0Q o A.length c o' L.length c' A.length (d16 V).length v10 v11 ((k:Nat):Int) d (wU (d16 V)) (wU Q) lb la g;rw[e1] at q;have r:=Zc (s0:=s) Zbb q (Zt row (Zt chz (Zt gc (Z2 gi))));rw[cD,t1] at r;exact r.keptP (k:=3) (b:=5) (base:=[(wU Q,tU),(lb,tR),(la,tR)]) (y:=(wU (d16 (d.toNat+65536*V)),tU)) (r:=wU ((d::d16 V).drop (Z3 (d::d16 V)))) rfl (front 5 _ (by omega)) (ZoP (ZP Q) H.sb H.sa rfl rfl rfl) (by
    show some (wU (d::d16 V),tU)=_;rw[← t2]) (by omega) (ZP _) (lt' _)
end
end Go.Proofs.YtekebccjflilnaaGreat
