/-
  FiF, FiG, RnA, RnB, RnC, RnD, RnE, NumTa, TuA, TuB
-/
import Derived.Test.YtdlpffgekmidnabDoorG07
namespace Go.Proofs.YtdlpffgekmidnabDoor
open Go.Proofs.Tryd
open Go.KRun Go.Wd
set_option maxRecDepth 100000
def errF (k:Int):Value:= .iface 42 (.int .i64 k)
theorem qz_fits (a b:W4):Fits (reckon (tabOf prog extY conN true) 300 63 [vW a,vW b] [sam true]) (.tuple #[vW ⟨0,0,0,0⟩,vW ⟨0,0,0,0⟩,errF 5]) [(eqW b ⟨0,0,0,0⟩,true)]:=by and_intros<;>kernel_rfl
def gQZ:Ans:=fun vals s=>
 match vals,s with
 | [x,y],.inr (.inr (.inr (.inl d)))::s'=>
  match w4 x,w4 y,d with
  | some a,some b,true=>some (.tuple #[vW ⟨0,0,0,0⟩,vW ⟨0,0,0,0⟩,errF 5],s',[(decide (b.val=0),true),q2 a b])
  | some a,some b,false=>some (qrV (W4.of (a.val/b.val)) (W4.of (a.val % b.val)),s',[(decide (b.val=0),false),q2 a b])
  | _,_,_=>none
 | _,_=>none
theorem gQZ_ok:AnsOk 63 gQZ:=by
 intro vals s v s' lg h hl w;unfold gQZ at h;split at h
 ·split at h
  ·rename_i a b ha hb;cases h;have h1:=Xc (hl _ Xe);have h2:=hl _ (Xd _ Xf);simp only[q2,Xi] at h2;rw[w4_spec ha,w4_spec hb];have e:b=⟨0,0,0,0⟩:=W4.val_inj h2.2 ⟨z64,z64,z64,z64⟩ (h1.trans (by rfl));exact fits_calls (tabY_ok conN_ok) (qz_fits a b) (okP1 (eqW_iff.2 e)) (by rfl) (by rfl) w
  ·rename_i a b ha hb;cases h;have h1:=of_decide_eq_false (hl _ Xe);have h2:=hl _ (Xd _ Xf);simp only[q2,Xi] at h2;rw[w4_spec ha,w4_spec hb];exact divmod_calls a b h2.1 h2.2 h1 w
  ·cases h
 ·cases h
def conFQ:Con:=alt 63 gQZ conFA
theorem conFQ_ok:ConOk conFQ:=alt_ok func63 rfl gQZ_ok conFA_ok
def nW1 (n:Int):W4:=⟨n,0,0,0⟩
def foA (n:Int):W4:=shlW (nW1 n) 192
def foQ (n d:Int):W4:=W4.of ((foA n).val/(nW1 d).val)
def foR (n d:Int):W4:=W4.of ((foA n).val % (nW1 d).val)
def foL (n d:Int):W4:=W4.of ((shlW (foR n d) 56).val/(nW1 d).val)
def foW (n d:Int):W4:=W4.of ((shlW (foQ n d) 56).val+(foL n d).val)
def zW:W4:=⟨0,0,0,0⟩
def lq1 (n d:Int) (b:Bool):Bool×Bool:=(decide (lenI (foQ n d)>200),b)
theorem fo_zero (n d:Int):Fits (reckon (tabOf prog extY conFQ true) 300 52 [.int .u64 n,.int .u64 d] [cmp true]) (.tuple #[vW zW,errF 5]) [(decide ((nW1 d).val=0),true),q2 (foA n) (nW1 d),qk (nW1 n) 192]:=by and_intros<;>kernel_rfl
theorem fo_long (n d:Int):Fits (reckon (tabOf prog extY conFQ true) 300 52 [.int .u64 n,.int .u64 d] [cmp false,cmp true]) (.tuple #[vW zW,errF 2]) [lq1 n d true,oW (foQ n d),(decide ((nW1 d).val=0),false),q2 (foA n) (nW1 d),qk (nW1 n) 192]:=by and_intros<;>kernel_rfl
theorem fo_in (n d:Int):Fits (reckon (tabOf prog extY conFQ true) 300 52 [.int .u64 n,.int .u64 d] [cmp false,cmp false,cmp false]) (.tuple #[vW (foW n d),.nilIface]) [q2 (shlW (foQ n d) 56) (foL n d),qk (foQ n d) 56,(decide ((nW1 d).val=0),false),q2 (shlW (foR n d) 56) (nW1 d),qk (foR n d) 56,lq1 n d false,oW (foQ n d),(decide ((nW1 d).val=0),false),q2 (foA n) (nW1 d),qk (nW1 n) 192]:=by and_intros<;>kernel_rfl
def foI (n d:Int):Int:=n*452312848583266388373324160190187140051835877600158453279131187530910662656/d
abbrev uu (n d:Int):Prop:=(0≤n∧n<18446744073709551616)∧0≤d∧d<18446744073709551616
theorem nW1_val (n:Int):(nW1 n).val=n:=by unfold nW1 W4.val;dsimp only;omega
theorem shl_ok1 (x:W4) (k:Int) (h:x.ok):(shlW x k).ok:=by
 unfold shlW;split
 ·exact h
 ·split
  ·exact⟨z64,z64,z64,z64⟩
  ·exact W4.ok_of _
theorem fo_num {n d:Int}(h:uu n d) (hd:d≠0):(lenI (foQ n d)>200↔115792089237316195423570985008687907853269984665640564039457584007913129639936≤foI n d)∧(¬ 115792089237316195423570985008687907853269984665640564039457584007913129639936≤foI n d→foW n d=W4.of (foI n d)):=by
 obtain⟨⟨n0,n1⟩,d0,d1⟩:=h;have e192:(2:Int)^(192:Int).toNat=6277101735386680763835789423207666416102355444464034512896:=by rfl
 have e56:(2:Int)^(56:Int).toNat=72057594037927936:=by rfl
 have eA:(foA n).val=n*6277101735386680763835789423207666416102355444464034512896:=by
  unfold foA shlW;rw[if_neg (by decide),if_neg (by decide),W4.val_of,e192,nW1_val];omega
 have hdiv:=Int.mul_ediv_add_emod (n*6277101735386680763835789423207666416102355444464034512896) d;have m0:=Int.emod_nonneg (n*6277101735386680763835789423207666416102355444464034512896) hd;have m1:=Int.emod_lt_of_pos (n*6277101735386680763835789423207666416102355444464034512896) (show 0<d by omega);have q0:0≤n*6277101735386680763835789423207666416102355444464034512896/d:=Int.ediv_nonneg (by omega) d0;have q1:n*6277101735386680763835789423207666416102355444464034512896/d≤n*6277101735386680763835789423207666416102355444464034512896:=Int.ediv_le_self _ (by omega);have eQ:(foQ n d).val=n*6277101735386680763835789423207666416102355444464034512896/d:=by
  unfold foQ;rw[eA,nW1_val,W4.val_of];omega
 have eR:(foR n d).val=n*6277101735386680763835789423207666416102355444464034512896 % d:=by
  unfold foR;rw[eA,nW1_val,W4.val_of];omega
 have eF:foI n d=n*6277101735386680763835789423207666416102355444464034512896/d*72057594037927936+n*6277101735386680763835789423207666416102355444464034512896 % d*72057594037927936/d:=by
  unfold foI;generalize hq:n*6277101735386680763835789423207666416102355444464034512896/d=q at*;generalize hr:n*6277101735386680763835789423207666416102355444464034512896 % d=r at*;have:n*452312848583266388373324160190187140051835877600158453279131187530910662656=q*72057594037927936*d+r*72057594037927936:=by
   have e:n*452312848583266388373324160190187140051835877600158453279131187530910662656=n*6277101735386680763835789423207666416102355444464034512896*72057594037927936:=by omega
   rw[e,← hdiv,Int.add_mul,Int.mul_right_comm q,Int.mul_comm d q]
  rw[this,Int.add_comm,Int.add_mul_ediv_right _ _ hd,Int.add_comm]
 have f0:0≤n*6277101735386680763835789423207666416102355444464034512896 % d*72057594037927936/d:=Int.ediv_nonneg (by omega) d0;have f1:n*6277101735386680763835789423207666416102355444464034512896 % d*72057594037927936/d<72057594037927936:=Int.ediv_lt_of_lt_mul (by omega) (by
  have:=Int.mul_lt_mul_of_pos_right m1 (show (0:Int)<72057594037927936 by decide);rw[Int.mul_comm 72057594037927936];exact this)
 constructor
 ·have g:=lenI_gt (foQ n d) 200;have p:(2:Nat)^200=1606938044258990275541962092341162602522202993782792835301376:=by rfl
  have e:(foQ n d).nat=(n*6277101735386680763835789423207666416102355444464034512896/d).toNat:=by unfold W4.nat;rw[eQ]
  rw[p,e] at g;rw[eF];generalize n*6277101735386680763835789423207666416102355444464034512896/d=q at*;generalize n*6277101735386680763835789423207666416102355444464034512896 % d*72057594037927936/d=f at*;omega
 ·intro hl;have eS:(shlW (foR n d) 56).val=n*6277101735386680763835789423207666416102355444464034512896 % d*72057594037927936:=by
   unfold shlW;rw[if_neg (by decide),if_neg (by decide),W4.val_of,e56,eR];omega
  have eL:(foL n d).val=n*6277101735386680763835789423207666416102355444464034512896 % d*72057594037927936/d:=by
   unfold foL;rw[eS,nW1_val,W4.val_of];omega
  have eT:(shlW (foQ n d) 56).val=n*6277101735386680763835789423207666416102355444464034512896/d*72057594037927936:=by
   unfold shlW;rw[if_neg (by decide),if_neg (by decide),W4.val_of,e56,eQ];rw[eF] at hl;generalize n*6277101735386680763835789423207666416102355444464034512896/d=q at*;generalize n*6277101735386680763835789423207666416102355444464034512896 % d*72057594037927936/d=f at*;omega
  unfold foW;rw[eT,eL,eF]
theorem nW1_ok {n:Int}(h:0≤n∧n<18446744073709551616):(nW1 n).ok:=⟨h,z64,z64,z64⟩
theorem of_zero {n d:Int}(h:uu n d) (hd:d=0) (w:World):Calls prog 52 #[.int .u64 n,.int .u64 d] w fun e w'=>e= .returned (.tuple #[vW zW,errF 5])∧Tidy w w':=by
 have z:decide ((nW1 d).val=0)=true:=Xa (by rw[nW1_val];exact hd);have a1:(q2 (foA n) (nW1 d)).1=(q2 (foA n) (nW1 d)).2:=Xa ⟨shl_ok1 _ _ (nW1_ok h.1),nW1_ok h.2⟩;have a2:(qk (nW1 n) 192).1=(qk (nW1 n) 192).2:=Xa ⟨nW1_ok h.1,by decide,by decide⟩;exact fits_calls (tabY_ok conFQ_ok) (fo_zero n d) (okPC z (okPC a1 (okP1 a2))) (by rfl) (by rfl) w
theorem of_long {n d:Int}(h:uu n d) (hd:d≠0) (hl:115792089237316195423570985008687907853269984665640564039457584007913129639936≤foI n d) (w:World):Calls prog 52 #[.int .u64 n,.int .u64 d] w fun e w'=>e= .returned (.tuple #[vW zW,errF 2])∧Tidy w w':=by
 have z:decide ((nW1 d).val=0)=false:=Xb (by rw[nW1_val];exact hd);have a1:(q2 (foA n) (nW1 d)).1=(q2 (foA n) (nW1 d)).2:=Xa ⟨shl_ok1 _ _ (nW1_ok h.1),nW1_ok h.2⟩;have a2:(qk (nW1 n) 192).1=(qk (nW1 n) 192).2:=Xa ⟨nW1_ok h.1,by decide,by decide⟩;have a3:(oW (foQ n d)).1=(oW (foQ n d)).2:=Xa (W4.ok_of _);have a4:(lq1 n d true).1=(lq1 n d true).2:=Xa ((fo_num h hd).1.2 hl);exact fits_calls (tabY_ok conFQ_ok) (fo_long n d) (okPC a4 (okPC a3 (okPC z (okPC a1 (okP1 a2))))) (by rfl) (by rfl) w
theorem of_in {n d:Int}(h:uu n d) (hd:d≠0) (hl:¬ 115792089237316195423570985008687907853269984665640564039457584007913129639936≤foI n d) (w:World):Calls prog 52 #[.int .u64 n,.int .u64 d] w fun e w'=>e= .returned (.tuple #[vW (W4.of (foI n d)),.nilIface])∧Tidy w w':=by
 have z:decide ((nW1 d).val=0)=false:=Xb (by rw[nW1_val];exact hd);have a1:(q2 (foA n) (nW1 d)).1=(q2 (foA n) (nW1 d)).2:=Xa ⟨shl_ok1 _ _ (nW1_ok h.1),nW1_ok h.2⟩;have a2:(qk (nW1 n) 192).1=(qk (nW1 n) 192).2:=Xa ⟨nW1_ok h.1,by decide,by decide⟩;have a3:(oW (foQ n d)).1=(oW (foQ n d)).2:=Xa (W4.ok_of _);have a4:(lq1 n d false).1=(lq1 n d false).2:=Xb fun hh=>hl ((fo_num h hd).1.1 hh);have a5:(qk (foR n d) 56).1=(qk (foR n d) 56).2:=Xa ⟨W4.ok_of _,by decide,by decide⟩;have a6:(q2 (shlW (foR n d) 56) (nW1 d)).1=(q2 (shlW (foR n d) 56) (nW1 d)).2:=Xa ⟨shl_ok1 _ _ (W4.ok_of _),nW1_ok h.2⟩;have a7:(qk (foQ n d) 56).1=(qk (foQ n d) 56).2:=Xa ⟨W4.ok_of _,by decide,by decide⟩;have a8:(q2 (shlW (foQ n d) 56) (foL n d)).1=(q2 (shlW (foQ n d) 56) (foL n d)).2:=Xa ⟨shl_ok1 _ _ (W4.ok_of _),W4.ok_of _⟩;rw[← (fo_num h hd).2 hl];exact fits_calls (tabY_ok conFQ_ok) (fo_in n d) (okPC a8 (okPC a7 (okPC z (okPC a6 (okPC a5 (okPC a4 (okPC a3 (okPC z (okPC a1 (okP1 a2)))))))))) (by rfl) (by rfl) w
def gFOf:Ans:=fun vals s=>
 match vals,s with
 | [.int .u64 n,.int .u64 d],.inr (.inr (.inr (.inl z)))::s'=>
  match z,s' with
  | true,_=>some (.tuple #[vW zW,errF 5],s',[(decide (d=0),true),(decide (uu n d),true)])
  | false,.inr (.inr (.inr (.inl true)))::s2=>some (.tuple #[vW zW,errF 2],s2,[(decide (115792089237316195423570985008687907853269984665640564039457584007913129639936≤foI n d),true),(decide (d=0),false),(decide (uu n d),true)])
  | false,.inr (.inr (.inr (.inl false)))::s2=>some (.tuple #[vW (W4.of (foI n d)),.nilIface],s2,[(decide (115792089237316195423570985008687907853269984665640564039457584007913129639936≤foI n d),false),(decide (d=0),false),(decide (uu n d),true)])
  | _,_=>none
 | _,_=>none
theorem gFOf_ok:AnsOk 52 gFOf:=by
 intro vals s v s' lg h hl w;unfold gFOf at h;split at h
 ·rename_i n d z s1;split at h
  ·cases h;exact of_zero (Xc (hl _ (Xd _ Xf))) (Xc (hl _ Xe)) w
  ·cases h;exact of_long (Xc (hl _ (Xd _ (Xd _ Xf)))) (of_decide_eq_false (hl _ (Xd _ Xe))) (Xc (hl _ Xe)) w
  ·cases h;exact of_in (Xc (hl _ (Xd _ (Xd _ Xf)))) (of_decide_eq_false (hl _ (Xd _ Xe))) (of_decide_eq_false (hl _ Xe)) w
  ·cases h
 ·cases h
end Go.Proofs.YtdlpffgekmidnabDoor
namespace Go.Proofs.YtdlpffgekmidnabDoor
open Go.KRun Go.Wd
set_option maxRecDepth 100000
def gFMd:Ans:=fun vals s=>
 match vals,s with
 | [x,y],.inr (.inr (.inr (.inl d)))::s'=>
  match w4 x,w4 y with
  | some a,some b=>some (.tuple #[vW (W4.of (fmI a b)),.bool d],s',[(decide (115792089237316195423570985008687907853269984665640564039457584007913129639936≤fmI a b),d),q2 a b])
  | _,_=>none
 | _,_=>none
theorem gFMd_ok:AnsOk 53 gFMd:=by
 intro vals s v s' lg h hl w;unfold gFMd at h;split at h
 ·split at h
  ·rename_i a b ha hb;cases h;have h1:=hl _ Xe;have h2:=Xc (hl _ (Xd _ Xf));simp only at h1;rw[w4_spec ha,w4_spec hb,← h1];exact fm_calls a b h2.1 h2.2 w
  ·cases h
 ·cases h
end Go.Proofs.YtdlpffgekmidnabDoor
namespace Go.Proofs.YtdlpffgekmidnabDoor
open Go.Proofs.Tryd
open Go.IntKind
open Go.KRun Go.Wd Go.Pt Go.Rn
set_option maxRecDepth 100000
theorem u0 (c m:Int) (o n:Bool):Fits (reckon (tabOf prog extY conN true) 300 45 [.int .i64 c,.bool o,.bool n,.int .i64 m] [cmp true]) (Value.bool false) [(c==0,true)]:=by and_intros<;>kernel_rfl
theorem u2 (c m:Int) (o n:Bool):Fits (reckon (tabOf prog extY conN true) 300 45 [.int .i64 c,.bool o,.bool n,.int .i64 m] [cmp false,cmp true]) (Value.bool false) [(m==2,true),(c==0,false)]:=by and_intros<;>kernel_rfl
theorem u3 (c m:Int) (o n:Bool):Fits (reckon (tabOf prog extY conN true) 300 45 [.int .i64 c,.bool o,.bool n,.int .i64 m] [cmp false,cmp false,cmp true]) (Value.bool !n) [(m==3,true),(m==2,false),(c==0,false)]:=by and_intros<;>kernel_rfl
theorem u4 (c m:Int) (o n:Bool):Fits (reckon (tabOf prog extY conN true) 300 45 [.int .i64 c,.bool o,.bool n,.int .i64 m] [cmp false,cmp false,cmp false,cmp true]) (Value.bool n) [(m==4,true),(m==3,false),(m==2,false),(c==0,false)]:=by and_intros<;>kernel_rfl
theorem u1 (c m:Int) (o n:Bool):Fits (reckon (tabOf prog extY conN true) 300 45 [.int .i64 c,.bool o,.bool n,.int .i64 m] [cmp false,cmp false,cmp false,cmp false,cmp true]) (Value.bool (decide (c≥2))) [(m==1,true),(m==4,false),(m==3,false),(m==2,false),(c==0,false)]:=by and_intros<;>kernel_rfl
theorem ua (c m:Int) (o n:Bool):Fits (reckon (tabOf prog extY conN true) 300 45 [.int .i64 c,.bool o,.bool n,.int .i64 m] [cmp false,cmp false,cmp false,cmp false,cmp false,cmp true]) (Value.bool true) [(decide (c>2),true),(m==1,false),(m==4,false),(m==3,false),(m==2,false),(c==0,false)]:=by and_intros<;>kernel_rfl
theorem ub (c m:Int) (o n:Bool):Fits (reckon (tabOf prog extY conN true) 300 45 [.int .i64 c,.bool o,.bool n,.int .i64 m] [cmp false,cmp false,cmp false,cmp false,cmp false,cmp false,cmp true]) (Value.bool o) [(c==2,true),(decide (c>2),false),(m==1,false),(m==4,false),(m==3,false),(m==2,false),(c==0,false)]:=by and_intros<;>kernel_rfl
theorem uc (c m:Int) (o n:Bool):Fits (reckon (tabOf prog extY conN true) 300 45 [.int .i64 c,.bool o,.bool n,.int .i64 m] [cmp false,cmp false,cmp false,cmp false,cmp false,cmp false,cmp false]) (Value.bool false) [(c==2,false),(decide (c>2),false),(m==1,false),(m==4,false),(m==3,false),(m==2,false),(c==0,false)]:=by and_intros<;>kernel_rfl
def gUp:Ans:=fun vals s=>
 match vals with
 | [.int .i64 c,.bool o,.bool n,.int .i64 m]=>some (.bool (upR m n o c),s,[])
 | _=>none
theorem up_calls (c m:Int) (o n:Bool) (w:World):Calls prog 45 #[.int .i64 c,.bool o,.bool n,.int .i64 m] w fun e w'=>e= .returned (.bool (upR m n o c))∧Tidy w w':=by
 unfold upR;by_cases h0:c=0
 ·rw[if_pos h0];exact fits_calls (tabY_ok conN_ok) (u0 c m o n) (by simp [okCs,okNl,h0]) (by rfl) (by rfl) w
 ·rw[if_neg h0];by_cases h2:m=2
  ·rw[if_pos h2];exact fits_calls (tabY_ok conN_ok) (u2 c m o n) (by simp [okCs,okNl,h0,h2]) (by rfl) (by rfl) w
  ·rw[if_neg h2];by_cases h3:m=3
   ·rw[if_pos h3];exact fits_calls (tabY_ok conN_ok) (u3 c m o n) (by simp [okCs,okNl,h0,h3]) (by rfl) (by rfl) w
   ·rw[if_neg h3];by_cases h4:m=4
    ·rw[if_pos h4];exact fits_calls (tabY_ok conN_ok) (u4 c m o n) (by simp [okCs,okNl,h0,h4]) (by rfl) (by rfl) w
    ·rw[if_neg h4];by_cases h1:m=1
     ·rw[if_pos h1];exact fits_calls (tabY_ok conN_ok) (u1 c m o n) (by simp [okCs,okNl,h0,h1]) (by rfl) (by rfl) w
     ·rw[if_neg h1];by_cases ha:2<c
      ·have e:(decide (2<c) || (decide (c=2) && o))=true:=by simp [ha]
       rw[e];exact fits_calls (tabY_ok conN_ok) (ua c m o n) (by simp [okCs,okNl,h0,h1,h2,h3,h4,ha]) (by rfl) (by rfl) w
      ·by_cases hb:c=2
       ·have e:(decide (2<c) || (decide (c=2) && o))=o:=by simp [hb]
        rw[e];exact fits_calls (tabY_ok conN_ok) (ub c m o n) (by simp [okCs,okNl,h1,h2,h3,h4,hb]) (by rfl) (by rfl) w
       ·have e:(decide (2<c) || (decide (c=2) && o))=false:=by simp [ha,hb]
        rw[e];exact fits_calls (tabY_ok conN_ok) (uc c m o n) (by simp [okCs,okNl,h0,h1,h2,h3,h4,hb];omega) (by rfl) (by rfl) w
theorem gUp_ok:AnsOk 45 gUp:=by
 intro vals s v s' lg h hl w;unfold gUp at h;split at h
 ·cases h;exact up_calls _ _ _ _ w
 ·cases h
def conW:Con:=alt 42 (g1n (plain1n shlV4)) (alt 56 (g1n shrB) (alt 46 (g1n (plain1n bitV4)) (alt 41 (g1 lenV4) (alt 57 (g2 (plain2 addV4)) conN))))
theorem conW_ok:ConOk conW:=alt_ok func42 rfl (plain1n_ok shl_calls) (alt_ok func56 rfl shrB_ok (alt_ok func46 rfl (plain1n_ok bit_calls) (alt_ok func41 rfl (g1_ok wlen_calls) (alt_ok func57 rfl (plain2_ok add_calls) conN_ok))))
theorem shlW_nat {x:W4}(hx:x.ok) {n:Int}(hn:0≤n):shlW x n=ofN (x.nat*2^n.toNat):=by
 unfold shlW;by_cases h1:n<1
 ·have:n=0:=by omega
  subst this;rw[if_pos h1];simp [ofN_self hx]
 ·rw[if_neg h1];by_cases h2:256≤n
  ·rw[if_pos h2,ofN_big (by omega)]
  ·rw[if_neg h2,W4.nat_val hx,cast_pow];unfold ofN;congr 1
theorem shrW_nat {x:W4}(hx:x.ok) {n:Int}(hn:0≤n):shrW x n=ofN (x.nat/2^n.toNat):=by
 unfold shrW;by_cases h1:n<1
 ·have:n=0:=by omega
  subst this;rw[if_pos h1];simp [ofN_self hx]
 ·rw[if_neg h1];by_cases h2:256≤n
  ·rw[if_pos h2,small_div (W4.nat_lt hx) (by omega),ofN_zero]
  ·rw[if_neg h2,W4.nat_val hx,cast_pow];unfold ofN;congr 1
theorem shrL_nat {x:W4}(hx:x.ok) {n:Int}(hn:0≤n):shrL x n=decide (x.nat % 2^n.toNat≠0):=by
 unfold shrL;by_cases h1:n<1
 ·have:n=0:=by omega
  subst this;rw[if_pos h1];simp [Nat.mod_one]
 ·rw[if_neg h1];by_cases h2:256≤n
  ·rw[if_pos h2,small_mod (W4.nat_lt hx) (by omega),W4.nat_val hx];congr 1;simp
  ·rw[if_neg h2,W4.nat_val hx,cast_pow];congr 1;have:((x.nat:Int) % ((2^n.toNat:Nat):Int))=((x.nat % 2^n.toNat:Nat):Int):=rfl;rw[this];simp only[ne_eq,eq_iff_iff];omega
theorem bitI_nat {x:W4}(hx:x.ok) {n:Int}(hn:0≤n):bitI x n=((x.nat/2^n.toNat % 2:Nat):Int):=by
 unfold bitI;rw[if_neg (by omega)];by_cases h2:256≤n
 ·rw[if_pos h2,small_div (W4.nat_lt hx) (by omega)];rfl
 ·rw[if_neg h2,W4.nat_val hx,cast_pow];rfl
def hv (x:W4) (b:Bool):W4:=match b with | true=>⟨bOr (shlW x 1).a 1,(shlW x 1).b,(shlW x 1).c,(shlW x 1).d⟩ | false=>shlW x 1
def lOne (x:W4):Bool×Bool:=(decide (x.ok∧(-9223372036854775808:Int)≤1∧(1:Int)≤9223372036854775807),true)
theorem hv_fits (x:W4) (b:Bool):Fits (reckon (tabOf prog extY conW true) 300 43 [vW x,.bool b] []) (vW (hv x b)) [lOne x]:=by
 cases b<;>exact by and_intros<;>kernel_rfl
theorem bOr_comm (x y:Int):bOr x y=bOr y x:=by unfold bOr;rw[BitVec.or_comm]
theorem hv_eq {x:W4}(hx:x.ok) (b:Bool):hv x b=ofN (tw x b):=by
 have e1:=shlW_nat hx (n:=1) (by omega);have e2:x.nat*2^(1:Int).toNat=2*x.nat:=by simp [Nat.mul_comm]
 rw[e2] at e1;cases b
 ·unfold hv tw;simp only[Nat.add_zero];exact e1
 ·unfold hv tw;simp only;rw[e1];have e3:bOr (ofN (2*x.nat)).a 1=(ofN (2*x.nat)).a+1:=by
   have hb:0≤(ofN (2*x.nat)).a∧(ofN (2*x.nat)).a<18446744073709551616:=(ofN_ok _).1;have hev:(ofN (2*x.nat)).a % 2=0:=by unfold ofN W4.of;dsimp only;omega
   rw[bOr_comm,or_low 1 (z:=(ofN (2*x.nat)).a/2) (by omega) (by omega) (by omega) (by decide) (by omega)]
  rw[e3];unfold ofN W4.of;refine W4.ext' ?_ ?_ ?_ ?_<;>dsimp only<;>omega
def gHv:Ans:=fun vals s=>
 match vals with
 | [x,.bool b]=>
  match w4 x with
  | some a=>some (vW (ofN (tw a b)),s,[(decide a.ok,true)])
  | none=>none
 | _=>none
theorem gHv_ok:AnsOk 43 gHv:=by
 intro vals s v s' lg h hl w;unfold gHv at h;split at h
 ·split at h
  ·rename_i a ha;cases h;have h1:a.ok:=Xc (hl _ Xf);rw[w4_spec ha,← hv_eq h1];exact fits_calls (tabY_ok conW_ok) (hv_fits a _) (okL1 (Xa ⟨h1,by omega,by omega⟩)) (by rfl) (by rfl) w
  ·cases h
 ·cases h
def conH:Con:=alt 43 gHv conW
theorem conH_ok:ConOk conH:=alt_ok func43 rfl gHv_ok conW_ok
def vN (n:Bool) (e:Int) (x:W4) (b:Bool):Value:= .agg #[.bool n,.int .i64 e,.int .u64 x.a,.int .u64 x.b,.int .u64 x.c,.int .u64 x.d,.bool b]
def n7:Value→Option (Bool×Int×W4×Bool)
 | .agg cs=>
  match cs.toList with
  | [.bool n,.int .i64 e,.int .u64 a,.int .u64 b,.int .u64 c,.int .u64 d,.bool m]=>some (n,e,⟨a,b,c,d⟩,m)
  | _=>none
 | _=>none
theorem n7_spec {v:Value}{n m:Bool}{e:Int}{x:W4}(h:n7 v=some (n,e,x,m)):v=vN n e x m:=by
 unfold n7 at h;split at h
 ·rename_i cs;split at h
  ·rename_i a b c d hc;cases h;obtain⟨l⟩:=cs;simp only at hc;subst hc;rfl
  ·cases h
 ·cases h
def lok (x:W4) (n:Int):Bool×Bool:=(decide (x.ok∧ -9223372036854775808≤n∧n≤9223372036854775807),true)
def dnI (ex e:Int):Int:=i64.wrap (e-ex)
def dn1 (ex e:Int):Int:=i64.wrap (i64.wrap (e-ex)-1)
def ctV (x:W4) (ex e c:Int):Value:= .tuple #[vW (shrW x (dnI ex e)),.int .i64 c]
theorem ct0 (n:Bool) (x:W4) (ex e:Int):Fits (reckon (tabOf prog extY conH true) 300 44 [vN n ex x false,.int .i64 e] [cmp false]) (ctV x ex e 0) [lok x (dnI ex e),(shrL x (dnI ex e),false)]:=by and_intros<;>kernel_rfl
theorem ct1 (n:Bool) (x:W4) (ex e:Int):Fits (reckon (tabOf prog extY conH true) 300 44 [vN n ex x true,.int .i64 e] [cmp false,cmp true]) (ctV x ex e 2) [(dnI ex e==0,true),lok x (dnI ex e),(shrL x (dnI ex e),false)]:=by and_intros<;>kernel_rfl
theorem ct2 (n:Bool) (x:W4) (ex e:Int) (d:Bool):Fits (reckon (tabOf prog extY conH true) 300 44 [vN n ex x true,.int .i64 e] [cmp false,cmp false,cmp d]) (ctV x ex e (match d with | true=>1 | false=>3)) [(bitI x (dn1 ex e)==0,d),lok x (dn1 ex e),(dnI ex e==0,false),lok x (dnI ex e),(shrL x (dnI ex e),false)]:=by
 cases d<;>exact by and_intros<;>kernel_rfl
theorem ct4 (n b:Bool) (x:W4) (ex e:Int):Fits (reckon (tabOf prog extY conH true) 300 44 [vN n ex x b,.int .i64 e] [cmp true,cmp false,cmp true]) (ctV x ex e 1) [(bitI x (dn1 ex e)==0,true),lok x (dn1 ex e),(dnI ex e==0,false),lok x (dnI ex e),(shrL x (dnI ex e),true)]:=by and_intros<;>kernel_rfl
theorem ct5 (n:Bool) (x:W4) (ex e:Int):Fits (reckon (tabOf prog extY conH true) 300 44 [vN n ex x true,.int .i64 e] [cmp true,cmp false,cmp false]) (ctV x ex e 3) [(bitI x (dn1 ex e)==0,false),lok x (dn1 ex e),(dnI ex e==0,false),lok x (dnI ex e),(shrL x (dnI ex e),true)]:=by and_intros<;>kernel_rfl
def bkW (x:W4) (ex e:Int):W4:=shlW (ofN (tw (shrW x (dnI ex e)) true)) (dn1 ex e)
theorem ct6 (n:Bool) (x:W4) (ex e:Int) (d:Bool):Fits (reckon (tabOf prog extY conH true) 300 44 [vN n ex x false,.int .i64 e] [cmp true,cmp false,cmp false,sam d]) (ctV x ex e (match d with | true=>3 | false=>2)) [(!(eqW x (bkW x ex e)),d),lok (ofN (tw (shrW x (dnI ex e)) true)) (dn1 ex e),(decide (shrW x (dnI ex e)).ok,true),(bitI x (dn1 ex e)==0,false),lok x (dn1 ex e),(dnI ex e==0,false),lok x (dnI ex e),(shrL x (dnI ex e),true)]:=by
 cases d<;>exact by and_intros<;>kernel_rfl
end Go.Proofs.YtdlpffgekmidnabDoor
namespace Go.Proofs.YtdlpffgekmidnabDoor
open Go.Proofs.Tryd
open Go.KRun Go.Wd Go.Pt Go.Rn
set_option maxRecDepth 100000
def cutT (x:W4) (b:Bool) (d:Nat):Value:= .tuple #[vW (ofN (tw x b/2^(d+1))),.int .i64 (restC (tw x b % 2^(d+1)) (2^(d+1)))]
theorem lok_ok {x:W4}{n:Int}(h:x.ok) (h0: -9223372036854775808≤n) (h1:n≤9223372036854775807):decide (x.ok∧ -9223372036854775808≤n∧n≤9223372036854775807)=true:=Xa ⟨h,h0,h1⟩
theorem cut_calls (n b:Bool) (x:W4) (ex e:Int) (hx:x.ok) (h1: -4000≤ex) (h2:ex≤e) (h3:e≤4000) (w:World):Calls prog 44 #[vN n ex x b,.int .i64 e] w fun r w'=>r= .returned (cutT x b (e-ex).toNat)∧Tidy w w':=by
 obtain⟨d,hd⟩:∃ d:Nat,e-ex=(d:Int):=⟨(e-ex).toNat,by omega⟩;have e1:dnI ex e=(d:Int):=by unfold dnI;rw[wrapI' ⟨by omega,by omega⟩,hd]
 have e2:dn1 ex e=(d:Int)-1:=by
  unfold dn1;rw[wrapI' (n:=e-ex) ⟨by omega,by omega⟩,hd,wrapI' ⟨by omega,by omega⟩]
 have eV:∀ c,c=restC (tw x b % 2^(d+1)) (2^(d+1))→ctV x ex e c=cutT x b (e-ex).toNat:=fun c hc=>by
  unfold ctV cutT;rw[e1,shrW_nat hx (by omega),hd,Xg,tw_div,hc]
 have k1:decide (x.ok∧ -9223372036854775808≤dnI ex e∧dnI ex e≤9223372036854775807)=true:=lok_ok hx (by omega) (by omega);have k2:decide (x.ok∧ -9223372036854775808≤dn1 ex e∧dn1 ex e≤9223372036854775807)=true:=lok_ok hx (by omega) (by omega);have kl:shrL x (dnI ex e)=decide (x.nat % 2^d≠0):=by rw[e1,shrL_nat hx (by omega),Xg]
 have hv:([vN n ex x b,.int .i64 e].all (lt 0))=true:=rfl;by_cases hl:x.nat % 2^d=0
 ·have kf:shrL x (dnI ex e)=false:=by rw[kl];simp [hl]
  cases b
  ·rw[← eV 0 (by rw[rc_none hl])];exact fits_calls (tabY_ok conH_ok) (ct0 n x ex e) (okCons k1 (okL1 kf)) hv (by rfl) w
  ·cases d with
   | zero=>
    rw[← eV 2 (by rw[rc_zero])];exact fits_calls (tabY_ok conH_ok) (ct1 n x ex e) (okCons (by rw[e1];rfl) (okCons k1 (okL1 kf))) hv (by rfl) w
   | succ j=>
    have k0:(dnI ex e==0)=false:=by rw[e1];simp;omega
    have e3:dn1 ex e=(j:Int):=by rw[e2];omega
    have kb:bitI x (dn1 ex e)=((x.nat/2^j % 2:Nat):Int):=by rw[e3,bitI_nat hx (by omega),Xg]
    by_cases hb:x.nat/2^j % 2=0
    ·rw[← eV 1 (by rw[rc_below hb (.inr rfl)])];exact fits_calls (tabY_ok conH_ok) (ct2 n x ex e true) (okCons (by rw[kb,hb];rfl) (okCons k2 (okCons k0 (okCons k1 (okL1 kf))))) hv (by rfl) w
    ·have hb':x.nat/2^j % 2=1:=by omega
     rw[← eV 3 (by rw[rc_above hb' (.inr rfl)])];exact fits_calls (tabY_ok conH_ok) (ct2 n x ex e false) (okCons (by rw[kb,hb'];rfl) (okCons k2 (okCons k0 (okCons k1 (okL1 kf))))) hv (by rfl) w
 ·have kf:shrL x (dnI ex e)=true:=by rw[kl];simp [hl]
  cases d with
  | zero=>exact absurd (by simp [Nat.mod_one]) hl
  | succ j=>
   have k0:(dnI ex e==0)=false:=by rw[e1];simp;omega
   have e3:dn1 ex e=(j:Int):=by rw[e2];omega
   have kb:bitI x (dn1 ex e)=((x.nat/2^j % 2:Nat):Int):=by rw[e3,bitI_nat hx (by omega),Xg]
   by_cases hb:x.nat/2^j % 2=0
   ·rw[← eV 1 (by rw[rc_below hb (.inl hl)])];exact fits_calls (tabY_ok conH_ok) (ct4 n b x ex e) (okCons (by rw[kb,hb];rfl) (okCons k2 (okCons k0 (okCons k1 (okL1 kf))))) hv (by rfl) w
   ·have hb':x.nat/2^j % 2=1:=by omega
    cases b
    ·have hs:shrW x (dnI ex e)=ofN (x.nat/2^(j+1)):=by rw[e1,shrW_nat hx (by omega),Xg]
     have hlt:=W4.nat_lt hx;have hle:x.nat/2^(j+1)≤x.nat:=Nat.div_le_self _ _;have hle2:2*(x.nat/2^(j+1))≤x.nat:=by
      have:=Nat.div_mul_le_self x.nat (2^(j+1));have hp:0<2^j:=Nat.pow_pos (by omega);have h9:2*(x.nat/2^(j+1))≤x.nat/2^(j+1)*2^(j+1):=by
       rw[Nat.mul_comm 2,Nat.pow_succ];exact Nat.mul_le_mul_left _ (by omega)
      omega
     have ht:tw (shrW x (dnI ex e)) true=2*(x.nat/2^(j+1))+1:=by
      unfold tw;rw[hs,ofN_nat (by omega)]
     have hk:bkW x ex e=ofN ((2*(x.nat/2^(j+1))+1)*2^j):=by
      unfold bkW;have e256:(2:Nat)^256=115792089237316195423570985008687907853269984665640564039457584007913129639936:=rfl;rw[ht,e3,shlW_nat (ofN_ok _) (by omega),Xg,ofN_nat (by omega)]
     have kq:eqW x (bkW x ex e)=decide (x.nat % 2^j=0):=by rw[hk,back_iff hx hb']
     have kok:decide ((ofN (tw (shrW x (dnI ex e)) true)).ok∧ -9223372036854775808≤dn1 ex e∧dn1 ex e≤9223372036854775807)=true:=lok_ok (ofN_ok _) (by omega) (by omega);have ks:decide (shrW x (dnI ex e)).ok=true:=by rw[hs];exact Xa (ofN_ok _)
     by_cases hz:x.nat % 2^j=0
     ·rw[← eV 2 (by rw[rc_half hb' hz])];exact fits_calls (tabY_ok conH_ok) (ct6 n x ex e false) (okCons (by rw[kq,Xa hz];rfl) (okCons kok (okCons ks (okCons (by rw[kb,hb'];rfl) (okCons k2 (okCons k0 (okCons k1 (okL1 kf)))))))) hv (by rfl) w
     ·rw[← eV 3 (by rw[rc_above hb' (.inl hz)])];exact fits_calls (tabY_ok conH_ok) (ct6 n x ex e true) (okCons (by rw[kq,Xb hz];rfl) (okCons kok (okCons ks (okCons (by rw[kb,hb'];rfl) (okCons k2 (okCons k0 (okCons k1 (okL1 kf)))))))) hv (by rfl) w
    ·rw[← eV 3 (by rw[rc_above hb' (.inr rfl)])];exact fits_calls (tabY_ok conH_ok) (ct5 n x ex e) (okCons (by rw[kb,hb'];rfl) (okCons k2 (okCons k0 (okCons k1 (okL1 kf))))) hv (by rfl) w
def okCut (x:W4) (ex e:Int):Bool:=decide (x.ok∧ -4000≤ex∧ex≤e∧e≤4000)
def gCut:Ans:=fun vals s=>
 match vals with
 | [v,.int .i64 e]=>
  match n7 v with
  | some (_,ex,x,b)=>some (cutT x b (e-ex).toNat,s,[(okCut x ex e,true)])
  | none=>none
 | _=>none
theorem gCut_ok:AnsOk 44 gCut:=by
 intro vals s v s' lg h hl w;unfold gCut at h;split at h
 ·split at h
  ·rename_i n ex x b hn;cases h;have h1:=Xc (hl _ Xf);rw[n7_spec hn];exact cut_calls n b x ex _ h1.1 h1.2.1 h1.2.2.1 h1.2.2.2 w
  ·cases h
 ·cases h
def conC:Con:=alt 45 gUp (alt 44 gCut conH)
theorem conC_ok:ConOk conC:=alt_ok func45 rfl gUp_ok (alt_ok func44 rfl gCut_ok conH_ok)
end Go.Proofs.YtdlpffgekmidnabDoor
namespace Go.Proofs.YtdlpffgekmidnabDoor
open Go.Proofs.Tryd
open Go.IntKind
open Go.KRun Go.Wd Go.Pt Go.Rn
set_option maxRecDepth 100000
def lowW (x:W4) (b:Bool) (ex e:Int):W4:=ofN (tw x b/2^((e-ex).toNat+1))
def rsI (x:W4) (b:Bool) (ex e:Int):Int:=restC (tw x b % 2^((e-ex).toNat+1)) (2^((e-ex).toNat+1))
def upX (m:Int) (n:Bool) (x:W4) (b:Bool) (ex e:Int):Bool:=upR m n (bitI (lowW x b ex e) 0 !=0) (rsI x b ex e)
def up1 (ex e:Int):Int:=i64.wrap (i64.wrap (ex-e)-1)
def w1:W4:=⟨1,0,0,0⟩
def w63:W4:=⟨0,0,0,9223372036854775808⟩
def lAd (x:W4):Bool×Bool:=(decide (x.ok∧w1.ok),true)
def lBt (x:W4):Bool×Bool:=(decide (x.ok∧(-9223372036854775808:Int)≤0∧(0:Int)≤9223372036854775807),true)
def lOv (x:W4) (d:Bool):Bool×Bool:=(decide (115792089237316195423570985008687907853269984665640564039457584007913129639936≤x.val+w1.val),d)
def tmR (n:Bool) (e:Int) (x:W4) (l:Bool):Value:= .tuple #[vN n e x false,.bool l]
theorem tm0 (n b:Bool) (x:W4) (ex e m:Int):Fits (reckon (tabOf prog extY conC true) 300 33 [vN n ex x b,.int .i64 e,.int .i64 m] [cmp true]) (tmR n e (shlW (ofN (tw x b)) (up1 ex e)) false) [lok (ofN (tw x b)) (up1 ex e),(decide x.ok,true),(decide (e<ex),true)]:=by and_intros<;>kernel_rfl
theorem tm1 (n b:Bool) (x:W4) (ex e m:Int):Fits (reckon (tabOf prog extY conC true) 300 33 [vN n ex x b,.int .i64 e,.int .i64 m] [cmp false,tst false,tst false]) (tmR n e (lowW x b ex e) (rsI x b ex e !=0)) [(upX m n x b ex e,false),lBt (lowW x b ex e),(okCut x ex e,true),(false,false),(decide (e<ex),false)]:=by and_intros<;>kernel_rfl
theorem tm2 (n b:Bool) (x:W4) (ex e m:Int):Fits (reckon (tabOf prog extY conC true) 300 33 [vN n ex x b,.int .i64 e,.int .i64 m] [cmp false,tst false,tst true,tst false]) (tmR n e (W4.of ((lowW x b ex e).val+w1.val)) (rsI x b ex e !=0)) [lOv (lowW x b ex e) false,lAd (lowW x b ex e),lAd (lowW x b ex e),lAd (lowW x b ex e),(upX m n x b ex e,true),lBt (lowW x b ex e),(okCut x ex e,true),(false,false),(decide (e<ex),false)]:=by and_intros<;>kernel_rfl
theorem tm3 (n b:Bool) (x:W4) (ex e m:Int):Fits (reckon (tabOf prog extY conC true) 300 33 [vN n ex x b,.int .i64 e,.int .i64 m] [cmp false,tst false,tst true,tst true]) (tmR n (i64.wrap (e+1)) w63 (rsI x b ex e !=0)) [lOv (lowW x b ex e) true,lAd (lowW x b ex e),lAd (lowW x b ex e),lAd (lowW x b ex e),(upX m n x b ex e,true),lBt (lowW x b ex e),(okCut x ex e,true),(false,false),(decide (e<ex),false)]:=by and_intros<;>kernel_rfl
theorem ofN_nat' (n:Nat):(ofN n).nat=n % 2^256:=by
 have e:(2:Nat)^256=115792089237316195423570985008687907853269984665640564039457584007913129639936:=rfl;unfold W4.nat ofN;rw[W4.val_of,e];omega
theorem low_lt {x:W4}(hx:x.ok) (b:Bool) (d:Nat):tw x b/2^(d+1)<2^256:=by
 rw[tw_div];exact Nat.lt_of_le_of_lt (Nat.div_le_self _ _) (W4.nat_lt hx)
theorem upX_eq {m:Int}{n:Bool}{x:W4}{b:Bool}{ex e:Int}(hx:x.ok):upX m n x b ex e=upR m n (odd (tw x b/2^((e-ex).toNat+1))) (rsI x b ex e):=by
 unfold upX lowW;congr 1;rw[bitI_nat (ofN_ok _) (by omega),ofN_nat (low_lt hx _ _)];unfold odd;generalize tw x b/2^((e-ex).toNat+1)=q;have e0:q/2^(0:Int).toNat % 2=q % 2:=by simp
 rw[e0,Bool.eq_iff_iff];simp only[bne_iff_ne,ne_eq,Xi];omega
theorem toQ_down {m:Int}{n:Bool}{T:Nat}{ex e:Int}(h:ex≤e):toQ m n T (ex-1) e=rq m n T ((e-ex).toNat+1):=by
 unfold toQ;rw[if_neg (by omega)];congr 1;omega
theorem toL_down {T:Nat}{ex e:Int}(h:ex≤e):toL T (ex-1) e=decide (T % 2^((e-ex).toNat+1)≠0):=by
 unfold toL;rw[if_neg (by omega),show (e-(ex-1)).toNat=(e-ex).toNat+1 by omega]
theorem rs_ne {x:W4}{b:Bool}{ex e:Int}(h:ex≤e):(rsI x b ex e !=0)=toL (tw x b) (ex-1) e:=by
 rw[toL_down h,Bool.eq_iff_iff];simp only[bne_iff_ne,ne_eq,Xi];unfold rsI;rw[restC_iff]
theorem tm_calls (n b:Bool) (x:W4) (ex e m:Int) (hx:x.ok) (h1: -4000≤ex) (h1':ex≤4000) (h2: -4000≤e) (h3:e≤4000) (hq:toQ m n (tw x b) (ex-1) e<2^256) (w:World):Calls prog 33 #[vN n ex x b,.int .i64 e,.int .i64 m] w fun r w'=>r= .returned (tmR n e (ofN (toQ m n (tw x b) (ex-1) e)) (toL (tw x b) (ex-1) e))∧Tidy w w':=by
 have hv:([vN n ex x b,.int .i64 e,.int .i64 m].all (lt 0))=true:=rfl;by_cases hlt:e<ex
 ·have e1:up1 ex e=ex-e-1:=by unfold up1;rw[wrapI' (n:=ex-e) ⟨by omega,by omega⟩,wrapI' ⟨by omega,by omega⟩]
  have h:=fits_calls (tabY_ok conC_ok) (tm0 n b x ex e m) (okCons (lok_ok (ofN_ok _) (by omega) (by omega)) (okCons (Xa hx) (okL1 (Xa hlt)))) hv (by rfl) w;rw[e1,shlW_nat (ofN_ok _) (by omega),ofN_nat',ofN_mul_mod] at h;unfold toQ toL;rw[if_pos (by omega),if_pos (by omega),show (ex-1-e).toNat=(ex-e-1).toNat by omega];exact h
 ·have hle:ex≤e:=by omega
  have kc:okCut x ex e=true:=Xa ⟨hx,h1,hle,h3⟩;have kb:(decide ((lowW x b ex e).ok∧(-9223372036854775808:Int)≤0∧(0:Int)≤9223372036854775807))=true:=Xa ⟨ofN_ok _,by omega,by omega⟩;have kl:decide (e<ex)=false:=Xb hlt;have ka:decide ((lowW x b ex e).ok∧w1.ok)=true:=Xa ⟨ofN_ok _,W4.ok_of 1⟩;rw[toQ_down hle] at hq ⊢;rw[← rs_ne hle];have hu:=upX_eq (m:=m) (n:=n) (b:=b) (ex:=ex) (e:=e) hx;unfold rq at hq ⊢;by_cases hup:upX m n x b ex e=true
  ·rw[hu] at hup;unfold rsI at hup;rw[if_pos hup] at hq ⊢;have hval:(lowW x b ex e).val=((tw x b/2^((e-ex).toNat+1):Nat):Int):=by
    unfold lowW;rw[W4.nat_val (ofN_ok _),ofN_nat (low_lt hx _ _)]
   have e256:(2:Nat)^256=115792089237316195423570985008687907853269984665640564039457584007913129639936:=rfl;have hw1:w1.val=1:=rfl;have ko:decide (115792089237316195423570985008687907853269984665640564039457584007913129639936≤(lowW x b ex e).val+w1.val)=false:=Xb (by rw[hval,hw1];omega);have h:=fits_calls (tabY_ok conC_ok) (tm2 n b x ex e m) (okCons ko (okCons ka (okCons ka (okCons ka (okCons (by rw[hu];exact hup) (okCons kb (okCons kc (okCons rfl (okL1 kl))))))))) hv (by rfl) w;rw[hval,hw1] at h;exact h
  ·rw[Bool.not_eq_true] at hup;have h:=fits_calls (tabY_ok conC_ok) (tm1 n b x ex e m) (okCons hup (okCons kb (okCons kc (okCons rfl (okL1 kl))))) hv (by rfl) w;rw[hu] at hup;unfold rsI at hup;rw[hup];exact h
theorem tm_over (n b:Bool) (x:W4) (ex e m:Int) (hx:x.ok) (h1: -4000≤ex) (hle:ex≤e) (h3:e≤4000) (hq:¬ toQ m n (tw x b) (ex-1) e<2^256) (w:World):Calls prog 33 #[vN n ex x b,.int .i64 e,.int .i64 m] w fun r w'=>r= .returned (tmR n (e+1) w63 (toL (tw x b) (ex-1) e))∧Tidy w w':=by
 have hv:([vN n ex x b,.int .i64 e,.int .i64 m].all (lt 0))=true:=rfl;have hlt:¬ e<ex:=by omega
 have kc:okCut x ex e=true:=Xa ⟨hx,h1,hle,h3⟩;have kb:(decide ((lowW x b ex e).ok∧(-9223372036854775808:Int)≤0∧(0:Int)≤9223372036854775807))=true:=Xa ⟨ofN_ok _,by omega,by omega⟩;have kl:decide (e<ex)=false:=Xb hlt;have ka:decide ((lowW x b ex e).ok∧w1.ok)=true:=Xa ⟨ofN_ok _,W4.ok_of 1⟩;rw[toQ_down hle] at hq;rw[← rs_ne hle];have hu:=upX_eq (m:=m) (n:=n) (b:=b) (ex:=ex) (e:=e) hx;have hlw:=low_lt hx b (e-ex).toNat;unfold rq at hq;by_cases hup:upX m n x b ex e=true
 ·have hup':=hup;rw[hu] at hup;unfold rsI at hup;rw[if_pos hup] at hq;have hval:(lowW x b ex e).val=((tw x b/2^((e-ex).toNat+1):Nat):Int):=by
   unfold lowW;rw[W4.nat_val (ofN_ok _),ofN_nat (low_lt hx _ _)]
  have e256:(2:Nat)^256=115792089237316195423570985008687907853269984665640564039457584007913129639936:=rfl;have hw1:w1.val=1:=rfl;have ko:decide (115792089237316195423570985008687907853269984665640564039457584007913129639936≤(lowW x b ex e).val+w1.val)=true:=Xa (by rw[hval,hw1];omega);have h:=fits_calls (tabY_ok conC_ok) (tm3 n b x ex e m) (okCons ko (okCons ka (okCons ka (okCons ka (okCons hup' (okCons kb (okCons kc (okCons rfl (okL1 kl))))))))) hv (by rfl) w;rw[wrapI' ⟨by omega,by omega⟩] at h;exact h
 ·rw[hu] at hup;unfold rsI at hup;rw[if_neg hup] at hq;omega
def okTm (x:W4) (ex e:Int):Bool:=decide (x.ok∧ -4000≤ex∧ex≤4000∧ -4000≤e∧e≤4000)
def gTm:Ans:=fun vals s=>
 match vals with
 | [v,.int .i64 e,.int .i64 m]=>
  match n7 v,s with
  | some (n,ex,x,b),.inr (.inr (.inr (.inl true))):: .inr (.inr (.inr (.inl d)))::s'=>some (tmR n e (ofN (toQ m n (tw x b) (ex-1) e)) d,s',[(toL (tw x b) (ex-1) e,d),(decide (toQ m n (tw x b) (ex-1) e<2^256),true),(okTm x ex e,true)])
  | some (n,ex,x,b),[.inr (.inr (.inr (.inl true)))]=>some (tmR n e (ofN (toQ m n (tw x b) (ex-1) e)) (toL (tw x b) (ex-1) e),[],[(decide (toQ m n (tw x b) (ex-1) e<2^256),true),(okTm x ex e,true)])
  | some (n,ex,x,b),.inr (.inr (.inr (.inl false)))::s'=>some (tmR n (e+1) w63 (toL (tw x b) (ex-1) e),s',[(decide (toQ m n (tw x b) (ex-1) e<2^256),false),(decide (ex≤e),true),(okTm x ex e,true)])
  | _,_=>none
 | _=>none
theorem gTm_ok:AnsOk 33 gTm:=by
 intro vals s v s' lg h hl w;unfold gTm at h;split at h
 ·split at h
  ·rename_i n ex x b d s2 hn;cases h;rw[okCs,okCs,okCs] at hl;have h1:=Xc hl.2.2.1;rw[n7_spec hn,← hl.1];exact tm_calls n b x ex _ _ h1.1 h1.2.1 h1.2.2.1 h1.2.2.2.1 h1.2.2.2.2 (Xc hl.2.1) w
  ·rename_i n ex x b hn;cases h;rw[okCs,okCs] at hl;have h1:=Xc hl.2.1;rw[n7_spec hn];exact tm_calls n b x ex _ _ h1.1 h1.2.1 h1.2.2.1 h1.2.2.2.1 h1.2.2.2.2 (Xc hl.1) w
  ·rename_i n ex x b s2 hn;cases h;rw[okCs,okCs,okCs] at hl;have h1:=Xc hl.2.2.1;rw[n7_spec hn];exact tm_over n b x ex _ _ h1.1 h1.2.1 (Xc hl.2.1) h1.2.2.2.2 (of_decide_eq_false hl.1) w
  ·cases h
 ·cases h
def conT:Con:=alt 33 gTm conC
theorem conT_ok:ConOk conT:=alt_ok func33 rfl gTm_ok conC_ok
def clp (e:Int):Int:=if 2000<(if -2000>e then -2000 else e) then 2000 else (if -2000>e then -2000 else e)
theorem clp_bd (e:Int): -2000≤clp e∧clp e≤2000:=by unfold clp;split<;>split<;>omega
theorem nr_fits (n b:Bool) (x:W4) (e:Int):Fits (reckon (tabOf prog extY conN true) 300 31 [vN n e x b] []) (vN n (clp e) x b) []:=by and_intros<;>kernel_rfl
def gNear:Ans:=fun vals s=>
 match vals with
 | [v]=>
  match n7 v with
  | some (n,e,x,b)=>some (vN n (clp e) x b,s,[])
  | none=>none
 | _=>none
theorem gNear_ok:AnsOk 31 gNear:=by
 intro vals s v s' lg h hl w;unfold gNear at h;split at h
 ·split at h
  ·rename_i n e x b hn;cases h;rw[n7_spec hn];exact fits_calls (tabY_ok conN_ok) (nr_fits n b x e) okNl (by rfl) (by rfl) w
  ·cases h
 ·cases h
theorem by_t (n:Bool) (m:Int):Fits (reckon (tabOf prog extY conT true) 300 35 [.bool n,.int .i64 m] [tst true]) (.int .u64 9218868437227405312) [(upR m n true 3,true)]:=by and_intros<;>kernel_rfl
theorem by_f (n:Bool) (m:Int):Fits (reckon (tabOf prog extY conT true) 300 35 [.bool n,.int .i64 m] [tst false]) (.int .u64 9218868437227405311) [(upR m n true 3,false)]:=by and_intros<;>kernel_rfl
def gBey:Ans:=fun vals s=>
 match vals with
 | [.bool n,.int .i64 m]=>some (.int .u64 (bey m n),s,[])
 | _=>none
theorem gBey_ok:AnsOk 35 gBey:=by
 intro vals s v s' lg h hl w;unfold gBey at h;split at h
 ·rename_i n m;cases h;unfold bey;by_cases hu:upR m n true 3=true
  ·rw[if_pos hu];exact fits_calls (tabY_ok conT_ok) (by_t n m) (okL1 hu) (by rfl) (by rfl) w
  ·rw[if_neg hu];exact fits_calls (tabY_ok conT_ok) (by_f n m) (okL1 (by simpa using hu)) (by rfl) (by rfl) w
 ·cases h
def m52 (k:Int):Int:=i64.wrap (k-52)
def tnQ (m:Int) (n:Bool) (x:W4) (b:Bool) (ex k:Int):W4:=ofN (toQ m n (tw x b) (ex-1) (m52 k))
def lgW (e:Int) (x:W4):Int:=i64.wrap (i64.wrap (e+lenI x)-1)
theorem ti0 (n b:Bool) (x:W4) (ex k m:Int):Fits (reckon (tabOf prog extY conT true) 300 36 [vN n ex x b,.int .i64 k,.int .i64 m] [cmp true]) (.bool (decide (k< -1022))) [(k != -1023,true)]:=by and_intros<;>kernel_rfl
theorem ti1 (n b:Bool) (x:W4) (ex k m:Int):Fits (reckon (tabOf prog extY conT true) 300 36 [vN n ex x b,.int .i64 k,.int .i64 m] [cmp false,cmp true]) (.bool (decide (lgW (m52 k) (tnQ m n x b ex k)< -1022))) [(decide (tnQ m n x b ex k).ok,true),(decide (toQ m n (tw x b) (ex-1) (m52 k)<2^256),true),(okTm x ex (m52 k),true),(k != -1023,false)]:=by and_intros<;>kernel_rfl
def tnK (m:Int) (n:Bool) (T:Nat) (E k:Int):Bool:=if k= -1023 then decide (toQ m n T E (-1075)<9007199254740992) else decide (k< -1022)
theorem lenI_nat (x:W4):lenI x=(bitLen x.nat:Nat):=rfl
theorem len_lt53 {q:Nat}:bitLen q<54↔q<9007199254740992:=by
 constructor
 ·intro h;have h1:=(bitLen_spec q).1;have h2:=Nat.pow_le_pow_right (show 0<2 by omega) (show bitLen q≤53 by omega);have e:(2:Nat)^53=9007199254740992:=rfl;omega
 ·intro h;have:=len_le (T:=q) (k:=53) h;omega
theorem tiny_calls (n b:Bool) (x:W4) (ex k m:Int) (h1:x.ok∧ -4000≤ex∧ex≤4000∧ -4000≤(0:Int)∧(0:Int)≤4000) (h2:k= -1023→toQ m n (tw x b) (ex-1) (-1075)<2^256) (w:World):Calls prog 36 #[vN n ex x b,.int .i64 k,.int .i64 m] w fun r w'=>r= .returned (.bool (tnK m n (tw x b) (ex-1) k))∧Tidy w w':=by
 unfold tnK;by_cases hk:k= -1023
 ·rw[if_pos hk];have e0:m52 k= -1075:=by rw[hk];rfl
  have hq:=h2 hk;have hlen:bitLen (toQ m n (tw x b) (ex-1) (-1075))≤256:=len_le hq;have e1:lgW (m52 k) (tnQ m n x b ex k)= -1076+(bitLen (toQ m n (tw x b) (ex-1) (-1075)):Nat):=by
   unfold lgW tnQ;rw[e0,lenI_nat,ofN_nat hq,wrapI' (n:= -1075+((bitLen (toQ m n (tw x b) (ex-1) (-1075)):Nat):Int)) ⟨by omega,by omega⟩,wrapI' ⟨by omega,by omega⟩];omega
  have h:=fits_calls (tabY_ok conT_ok) (ti1 n b x ex k m) (okCons (Xa (ofN_ok _)) (okCons (by rw[e0];exact Xa hq) (okCons (by rw[e0];exact Xa ⟨h1.1,h1.2.1,h1.2.2.1,by omega,by omega⟩) (okL1 (by rw[hk];rfl))))) (by rfl) (by rfl) w;rw[e1] at h;have e2:decide (-1076+((bitLen (toQ m n (tw x b) (ex-1) (-1075)):Nat):Int)< -1022)=decide (toQ m n (tw x b) (ex-1) (-1075)<9007199254740992):=by
   congr 1;rw[← len_lt53];simp only[eq_iff_iff];omega
  rw[e2] at h;exact h
 ·rw[if_neg hk];exact fits_calls (tabY_ok conT_ok) (ti0 n b x ex k m) (okL1 (by simpa using hk)) (by rfl) (by rfl) w
def gTiny:Ans:=fun vals s=>
 match vals with
 | [v,.int .i64 k,.int .i64 m]=>
  match n7 v,s with
  | some (n,ex,x,b),.inr (.inr (.inr (.inl d)))::s'=>some (.bool d,s',[(tnK m n (tw x b) (ex-1) k,d),(decide (k= -1023→toQ m n (tw x b) (ex-1) (-1075)<2^256),true),(okTm x ex 0,true)])
  | _,_=>none
 | _=>none
theorem gTiny_ok:AnsOk 36 gTiny:=by
 intro vals s v s' lg h hl w;unfold gTiny at h;split at h
 ·split at h
  ·rename_i n ex x b d s2 hn;cases h;rw[okCs,okCs,okCs] at hl;rw[n7_spec hn,← hl.1];exact tiny_calls n b x ex _ _ (Xc hl.2.2.1) (Xc hl.2.1) w
  ·cases h
 ·cases h
def conTi:Con:=alt 31 gNear (alt 35 gBey (alt 36 gTiny conT))
theorem conTi_ok:ConOk conTi:=alt_ok func31 rfl gNear_ok (alt_ok func35 rfl gBey_ok (alt_ok func36 rfl gTiny_ok conT_ok))
def lgR (ex:Int) (x:W4):Int:=lgW (clp ex) x
def e0 (ex:Int) (x:W4):Int:=if -1074>m52 (lgR ex x) then -1074 else m52 (lgR ex x)
def qR (m:Int) (n:Bool) (x:W4) (b:Bool) (ex:Int):Nat:=toQ m n (tw x b) (clp ex-1) (e0 ex x)
def oR (x:W4) (b:Bool) (ex:Int):Bool:=toL (tw x b) (clp ex-1) (e0 ex x)
def pR (m:Int) (n:Bool) (x:W4) (b:Bool) (ex:Int):Int:=u64.wrap (u64.wrap (u64.wrap (i64.wrap (e0 ex x - -1074))*2^min (Int.toNat 52) 64)+(ofN (qR m n x b ex)).a)
def sgR (n:Bool) (p:Int):Int:=match n with | true=>bXor p 9223372036854775808 | false=>p
def lTm (m:Int) (n:Bool) (x:W4) (b:Bool) (ex:Int) (o d:Bool):Log:=[(oR x b ex,o),(decide (qR m n x b ex<2^256),true),(okTm x (clp ex) (e0 ex x),true),(decide x.ok,true),(eqW x ⟨0,0,0,0⟩,d)]
def lBig (m:Int) (n:Bool) (x:W4) (b:Bool) (ex:Int) (d:Bool):Bool×Bool:=(decide (pR m n x b ex≥9218868437227405312),d)
def l52:Bool×Bool:=(decide ((52:Int)<0),false)
def rdT (p f:Int):Value:= .tuple #[.int .u64 p,.int .u8 f]
theorem rd_zero (n:Bool) (x:W4) (ex m:Int):Fits (reckon (tabOf prog extY conTi true) 300 27 [vN n ex x false,.int .i64 m] [sam true]) (rdT (sgR n 0) 0) [(eqW x ⟨0,0,0,0⟩,true)]:=by
 cases n<;>exact by and_intros<;>kernel_rfl
theorem rd_big (n b o:Bool) (x:W4) (ex m:Int):Fits (reckon (tabOf prog extY conTi true) 300 27 [vN n ex x b,.int .i64 m] [sam false,cmp true,cmp o,cmp true]) (rdT (sgR n (bey m n)) 20) (lBig m n x b ex true::l52::lTm m n x b ex o false):=by
 cases n<;>cases o<;>exact by and_intros<;>kernel_rfl
theorem rd_big' (n o:Bool) (x:W4) (ex m:Int):Fits (reckon (tabOf prog extY conTi true) 300 27 [vN n ex x true,.int .i64 m] [sam true,cmp true,cmp o,cmp true]) (rdT (sgR n (bey m n)) 20) (lBig m n x true ex true::l52::lTm m n x true ex o true):=by
 cases n<;>cases o<;>exact by and_intros<;>kernel_rfl
theorem rd_just (n b:Bool) (x:W4) (ex m:Int):Fits (reckon (tabOf prog extY conTi true) 300 27 [vN n ex x b,.int .i64 m] [sam false,cmp true,cmp false,cmp false]) (rdT (sgR n (pR m n x b ex)) 0) (lBig m n x b ex false::l52::lTm m n x b ex false false):=by
 cases n<;>exact by and_intros<;>kernel_rfl
theorem rd_just' (n:Bool) (x:W4) (ex m:Int):Fits (reckon (tabOf prog extY conTi true) 300 27 [vN n ex x true,.int .i64 m] [sam true,cmp true,cmp false,cmp false]) (rdT (sgR n (pR m n x true ex)) 0) (lBig m n x true ex false::l52::lTm m n x true ex false true):=by
 cases n<;>exact by and_intros<;>kernel_rfl
def fgT (t:Bool):Int:=match t with | true=>24 | false=>16
def lTn (m:Int) (n:Bool) (x:W4) (b:Bool) (ex:Int) (t:Bool) (l:Log):Log:=(tnK m n (tw x b) (clp ex-1) (lgR ex x),t)::(decide (lgR ex x= -1023→toQ m n (tw x b) (clp ex-1) (-1075)<2^256),true)::(okTm x (clp ex) 0,true)::l
theorem rd_near (n b t:Bool) (x:W4) (ex m:Int):Fits (reckon (tabOf prog extY conTi true) 300 27 [vN n ex x b,.int .i64 m] [sam false,cmp true,cmp true,cmp false,cmp t]) (rdT (sgR n (pR m n x b ex)) (fgT t)) (lTn m n x b ex t (lBig m n x b ex false::l52::lTm m n x b ex true false)):=by
 cases n<;>cases t<;>exact by and_intros<;>kernel_rfl
theorem rd_near' (n t:Bool) (x:W4) (ex m:Int):Fits (reckon (tabOf prog extY conTi true) 300 27 [vN n ex x true,.int .i64 m] [sam true,cmp true,cmp true,cmp false,cmp t]) (rdT (sgR n (pR m n x true ex)) (fgT t)) (lTn m n x true ex t (lBig m n x true ex false::l52::lTm m n x true ex true true)):=by
 cases n<;>cases t<;>exact by and_intros<;>kernel_rfl
theorem tw_len {x:W4}{b:Bool}(h:tw x b≠0):bitLen (tw x b)=bitLen x.nat+1:=by
 have hd:tw x b/2^1=x.nat:=by
  have:=tw_div x b 0;simpa using this
 by_cases h0:x.nat=0
 ·have:tw x b=1:=by
   have e:tw x b/2=x.nat:=by simpa using hd
   omega
  rw[this,h0];rfl
 ·rw[bitLen_shift (tw x b) 1 (by rw[hd];exact h0),hd];omega
theorem len256 {x:W4}(hx:x.ok):bitLen x.nat≤256:=len_le (W4.nat_lt hx)
theorem lgR_eq {x:W4}{b:Bool}{ex:Int}(hx:x.ok) (h:tw x b≠0):lgR ex x=lgN (tw x b) (clp ex-1):=by
 have h1:=clp_bd ex;have h2:=len256 hx;unfold lgR lgW lgN;rw[lenI_nat,tw_len h,wrapI' (n:=clp ex+((bitLen x.nat:Nat):Int)) ⟨by omega,by omega⟩,wrapI' ⟨by omega,by omega⟩];omega
theorem lgN_bd {x:W4}{b:Bool}{ex:Int}(hx:x.ok) (h:tw x b≠0): -2002≤lgN (tw x b) (clp ex-1)∧lgN (tw x b) (clp ex-1)≤2300:=by
 have h1:=clp_bd ex;have h2:=len256 hx;unfold lgN;rw[tw_len h];omega
theorem e0_eq {x:W4}{b:Bool}{ex:Int}(hx:x.ok) (h:tw x b≠0):e0 ex x=lowE (tw x b) (clp ex-1):=by
 have hb:=lgN_bd (ex:=ex) hx h;unfold e0 m52 lowE;rw[lgR_eq hx h,wrapI' ⟨by omega,by omega⟩];split<;>split<;>omega
theorem lowE_bd {x:W4}{b:Bool}{ex:Int}(hx:x.ok) (h:tw x b≠0): -1074≤lowE (tw x b) (clp ex-1)∧lowE (tw x b) (clp ex-1)≤2300:=by
 have hb:=lgN_bd (ex:=ex) hx h;unfold lowE;split<;>omega
theorem ofN_a {q:Nat}(h:q<18446744073709551616):(ofN q).a=(q:Int):=by unfold ofN W4.of;dsimp only;omega
theorem pR_eq {m:Int}{n:Bool}{x:W4}{b:Bool}{ex:Int}(hx:x.ok) (h:tw x b≠0):pR m n x b ex=p0 m n (tw x b) (clp ex-1)∧p0 m n (tw x b) (clp ex-1)<18446744073709551616:=by
 have hb:=lowE_bd (ex:=ex) hx h;have hq:=low_hi m n (tw x b) (clp ex-1);have e1:((2:Int)^min (Int.toNat 52) 64)=4503599627370496:=by rfl
 unfold pR qR p0;rw[e0_eq hx h,ofN_a (by omega),e1,wrapI' ⟨by omega,by omega⟩,wrapU' (n:=lowE (tw x b) (clp ex-1) - -1074) ⟨by omega,by omega⟩,wrapU' (n:=(lowE (tw x b) (clp ex-1) - -1074)*4503599627370496) ⟨by omega,by omega⟩,wrapU' ⟨by omega,by omega⟩];omega
def sS (n:Bool) (p:Int):Int:=if n=true then 9223372036854775808+p else p
theorem sgR_eq {n:Bool}{p:Int}(h0:0≤p) (h1:p≤9218868437227405312):sgR n p=sS n p:=by
 cases n
 ·rfl
 ·simp only[sgR,sS,if_true];rw[bXor_sign ⟨by omega,by omega⟩];omega
theorem tnK_eq (m:Int) (n:Bool) (T:Nat) (E:Int):tnK m n T E (lgN T E)=tiny m n T E:=rfl
def rdV (m:Int) (n:Bool) (T:Nat) (E:Int):Value:=rdT (sS n (rnP m n T E)) (rnF m n T E)
theorem round_calls (n b:Bool) (x:W4) (ex m:Int) (hx:x.ok) (w:World):Calls prog 27 #[vN n ex x b,.int .i64 m] w fun r w'=>r= .returned (rdV m n (tw x b) (clp ex-1))∧Tidy w w':=by
 have hv:([vN n ex x b,.int .i64 m].all (lt 0))=true:=rfl;unfold rdV;by_cases hz:tw x b=0
 ·have h1:=(tw_zero hx).1 hz;rw[Xh] at h1;have hb:b=false:=by simpa using h1.2
  subst hb;have h:=fits_calls (tabY_ok conTi_ok) (rd_zero n x ex m) (okL1 h1.1) hv (by rfl) w;rw[sgR_eq (by omega) (by omega)] at h;unfold rnP rnF;rw[if_pos hz,if_pos hz];exact h
 ·obtain⟨ep,hp⟩:=pR_eq (m:=m) (n:=n) (ex:=ex) hx hz;have hbd:=clp_bd ex;have hel:=lowE_bd (ex:=ex) hx hz;have hq:=low_hi m n (tw x b) (clp ex-1);have ee:=e0_eq (ex:=ex) hx hz;have el:=lgR_eq (ex:=ex) hx hz;have hp0:=p0_nonneg m n (tw x b) (clp ex-1);have e256:(2:Nat)^256=115792089237316195423570985008687907853269984665640564039457584007913129639936:=rfl;have kq:decide (qR m n x b ex<2^256)=true:=Xa (by unfold qR;rw[ee];omega);have kt:okTm x (clp ex) (e0 ex x)=true:=Xa ⟨hx,by omega,by omega,by omega,by omega⟩;have kt0:okTm x (clp ex) 0=true:=Xa ⟨hx,by omega,by omega,by omega,by omega⟩;have kx:decide x.ok=true:=Xa hx;have ko:oR x b ex=toL (tw x b) (clp ex-1) (lowE (tw x b) (clp ex-1)):=by unfold oR;rw[ee]
  have kn:decide (lgR ex x= -1023→toQ m n (tw x b) (clp ex-1) (-1075)<2^256)=true:=Xa fun hl=>by
   rw[el] at hl;have:toQ m n (tw x b) (clp ex-1) (-1075)≤2^53:=toQ_le (by unfold lgN at hl;omega);have e53:(2:Nat)^53=9007199254740992:=rfl;omega
  have key:∃ d,eqW x ⟨0,0,0,0⟩=d∧(d=false∨(d=true∧b=true)):=by
   refine⟨_,rfl,?_⟩;cases he:eqW x ⟨0,0,0,0⟩
   ·exact .inl rfl
   ·right
    refine⟨rfl,?_⟩;cases hb:b
    ·exact absurd ((tw_zero hx).2 (by rw[he,hb];rfl)) hz
    ·rfl
  obtain⟨d,hd,hdb⟩:=key;have lt5:∀ o,oR x b ex=o→okLog (lTm m n x b ex o d):=fun o ho=>okCons ho (okCons kq (okCons kt (okCons kx (okL1 hd))));unfold rnP rnF;rw[if_neg hz,if_neg hz];by_cases hbig:9218868437227405312≤p0 m n (tw x b) (clp ex-1)
  ·rw[if_pos hbig,if_pos hbig];have hb2:=bey_or m n;have hs:sgR n (bey m n)=sS n (bey m n):=sgR_eq (by omega) (by omega);rw[← hs];have lB:decide (pR m n x b ex≥9218868437227405312)=true:=Xa (by rw[ep];exact hbig);rcases hdb with rfl | ⟨rfl,rfl⟩
   ·exact fits_calls (tabY_ok conTi_ok) (rd_big n b (oR x b ex) x ex m) (okCons lB (okCons rfl (lt5 _ rfl))) hv (by rfl) w
   ·exact fits_calls (tabY_ok conTi_ok) (rd_big' n (oR x true ex) x ex m) (okCons lB (okCons rfl (lt5 _ rfl))) hv (by rfl) w
  ·rw[if_neg hbig,if_neg hbig];have hs:sgR n (pR m n x b ex)=sS n (p0 m n (tw x b) (clp ex-1)):=by rw[ep];exact sgR_eq hp0 (by omega)
   rw[← hs];have lB:decide (pR m n x b ex≥9218868437227405312)=false:=Xb (by rw[ep];exact hbig);by_cases hl:toL (tw x b) (clp ex-1) (lowE (tw x b) (clp ex-1))=true
   ·rw[if_pos hl];have ht:tnK m n (tw x b) (clp ex-1) (lgR ex x)=tiny m n (tw x b) (clp ex-1):=by rw[el,tnK_eq]
    have ef:(if tiny m n (tw x b) (clp ex-1)=true then (24:Int) else 16)=fgT (tiny m n (tw x b) (clp ex-1)):=by
     cases tiny m n (tw x b) (clp ex-1)<;>rfl
    rw[ef];rcases hdb with rfl | ⟨rfl,rfl⟩
    ·exact fits_calls (tabY_ok conTi_ok) (rd_near n b (tiny m n (tw x b) (clp ex-1)) x ex m) (okCons ht (okCons kn (okCons kt0 (okCons lB (okCons rfl (lt5 _ (ko.trans hl))))))) hv (by rfl) w
    ·exact fits_calls (tabY_ok conTi_ok) (rd_near' n (tiny m n (tw x true) (clp ex-1)) x ex m) (okCons ht (okCons kn (okCons kt0 (okCons lB (okCons rfl (lt5 _ (ko.trans hl))))))) hv (by rfl) w
   ·rw[if_neg hl];have hl':=ko.trans (by simpa using hl);rcases hdb with rfl | ⟨rfl,rfl⟩
    ·exact fits_calls (tabY_ok conTi_ok) (rd_just n b x ex m) (okCons lB (okCons rfl (lt5 _ hl'))) hv (by rfl) w
    ·exact fits_calls (tabY_ok conTi_ok) (rd_just' n x ex m) (okCons lB (okCons rfl (lt5 _ hl'))) hv (by rfl) w
def gRd:Ans:=fun vals s=>
 match vals with
 | [v,.int .i64 m]=>
  match n7 v with
  | some (n,ex,x,b)=>some (rdV m n (tw x b) (clp ex-1),s,[(decide x.ok,true)])
  | none=>none
 | _=>none
theorem gRd_ok:AnsOk 27 gRd:=by
 intro vals s v s' lg h hl w;unfold gRd at h;split at h
 ·split at h
  ·rename_i n ex x b hn;cases h;rw[n7_spec hn];exact round_calls n b x ex _ (Xc (hl _ Xf)) w
  ·cases h
 ·cases h
end Go.Proofs.YtdlpffgekmidnabDoor
namespace Go.Tu
open Go.Fx
def piP:Nat:=0x03243f6a8885a308d313198a2e03707344a4093822299f31d0082efa98ec4e6c
def angN (k n:Nat):Nat:=2*k*uP/n*piP/uP
def lowC (k n:Nat):Nat:=if 8*k≤n then lo32 (cS uP 29 (angN k n)) else lo32 (sS uP 29 (angN (n/4-k) n))
def foldK (k n:Nat):Nat:=if n/2<k then n-k else k
def foldS (k n:Nat):Bool:=decide (n/4<foldK k n)
def foldQ (k n:Nat):Nat:=if n/4<foldK k n then n/2-foldK k n else foldK k n
def rnd16 (s:Bool) (L:Nat):Int:=(if s=true then 9223372036854775808 else 0)+Go.Rn.rnP 0 s (2*L) (-249)
def patC (k n:Nat):Int:=rnd16 (foldS k n) (lowC (foldQ k n) n)
def cosT (k n:Nat):Int:=patC (4*(k % n)) (4*n)
def sinT (k n:Nat):Int:=patC ((4*(k % n)+3*n) % (4*n)) (4*n)
theorem fold_half {n k:Nat}(h:n % 4=0) (hk:k<n):foldQ ((k+n/2) % n) n=foldQ k n∧(foldQ k n=n/4∨foldS ((k+n/2) % n) n= !foldS k n)∧foldQ k n≤n/4∧(foldQ k n=n/4→foldS k n=false∧foldS ((k+n/2) % n) n=false):=by
 obtain⟨q,rfl⟩:∃ q,n=4*q:=⟨n/4,by omega⟩;have e1:4*q/4=q:=by omega
 have e2:4*q/2=2*q:=by omega
 have key:∀ j,j<4*q→(foldQ j (4*q)=if j≤q then j else if j<2*q then 2*q-j else if j<3*q then j-2*q else 4*q-j)∧(foldS j (4*q)=decide (q<j∧j<3*q)):=by
  intro j hj;unfold foldQ foldS foldK;rw[e1,e2];by_cases g:2*q<j
  ·rw[if_pos g];refine⟨by (repeat' split)<;>omega,decide_eq_decide.2 ⟨fun _=>by omega,fun _=>by omega⟩⟩
  ·rw[if_neg g];refine⟨by (repeat' split)<;>omega,decide_eq_decide.2 ⟨fun _=>by omega,fun _=>by omega⟩⟩
 have hm:(k+2*q) % (4*q)<4*q:=Nat.mod_lt _ (by omega);have hv:(k+2*q) % (4*q)=if k<2*q then k+2*q else k-2*q:=by
  split
  ·exact Nat.mod_eq_of_lt (by omega)
  ·rw[show k+2*q=(k-2*q)+4*q by omega,Nat.add_mod_right,Nat.mod_eq_of_lt (by omega)]
 rw[e1,e2];obtain⟨a1,a2⟩:=key k hk;obtain⟨b1,b2⟩:=key _ hm;rw[hv] at b1 b2;rw[hv,a1,a2,b1,b2];clear a1 a2 b1 b2 key hv hm e1 e2 h;by_cases g1:k<2*q
 ·rw[if_pos g1];by_cases g2:k<q
  ·rw[if_neg (show ¬ k+2*q≤q by omega),if_neg (show ¬ k+2*q<2*q by omega),if_pos (show k+2*q<3*q by omega),if_pos (show k≤q by omega),Xa (show q<k+2*q∧k+2*q<3*q by omega),Xb (show ¬ (q<k∧k<3*q) by omega)];exact⟨by omega,.inr rfl,by omega,by omega⟩
  ·rw[if_neg (show ¬ k+2*q≤q by omega),if_neg (show ¬ k+2*q<2*q by omega),if_neg (show ¬ k+2*q<3*q by omega),Xb (show ¬ (q<k+2*q∧k+2*q<3*q) by omega)];by_cases g3:k=q
   ·rw[if_pos (show k≤q by omega),Xb (show ¬ (q<k∧k<3*q) by omega)];exact⟨by omega,.inl g3,by omega,fun _=>⟨rfl,rfl⟩⟩
   ·rw[if_neg (show ¬ k≤q by omega),if_pos g1,Xa (show q<k∧k<3*q by omega)];exact⟨by omega,.inr rfl,by omega,by omega⟩
 ·rw[if_neg g1,if_neg (show ¬ k≤q by omega),if_neg g1];by_cases g2:k<3*q
  ·rw[if_pos g2,if_pos (show k-2*q≤q by omega),Xb (show ¬ (q<k-2*q∧k-2*q<3*q) by omega),Xa (show q<k∧k<3*q by omega)];exact⟨rfl,.inr rfl,by omega,by omega⟩
  ·rw[if_neg g2,Xb (show ¬ (q<k∧k<3*q) by omega)];by_cases g3:k=3*q
   ·rw[if_pos (show k-2*q≤q by omega),Xb (show ¬ (q<k-2*q∧k-2*q<3*q) by omega)];exact⟨by omega,.inl (by omega),by omega,fun _=>⟨rfl,rfl⟩⟩
   ·rw[if_neg (show ¬ k-2*q≤q by omega),if_pos (show k-2*q<2*q by omega),Xa (show q<k-2*q∧k-2*q<3*q by omega)];exact⟨by omega,.inr rfl,by omega,by omega⟩
theorem piP_bd:3*uP≤piP∧piP≤4*uP:=by decide+kernel
theorem angN_le {k n:Nat}(h:8*k≤n):angN k n≤uP:=by
 have hq:2*k*uP/n≤uP/4:=by
  rcases Nat.eq_zero_or_pos n with h0 | h0
  ·rw[h0,Nat.div_zero];exact Nat.zero_le _
  ·refine Nat.div_le_of_le_mul ?_;have e:uP=4*(uP/4):=by decide+kernel
   have:=Nat.mul_le_mul_right (uP/4) h;rw[e];generalize uP/4=u at*;have e1:2*k*(4*u)=8*k*u:=by rw[← Nat.mul_assoc,Nat.mul_comm (2*k) 4,← Nat.mul_assoc]
   rw[e1];have e2:4*u/4=u:=by omega
   rw[e2];exact this
 unfold angN;refine Nat.div_le_of_le_mul ?_;refine Nat.le_trans (Nat.mul_le_mul hq piP_bd.2) ?_
 decide+kernel
theorem lowC_le {k n:Nat}(hk:k≤n/4):lowC k n≤uP:=by
 unfold lowC;by_cases g:8*k≤n
 ·rw[if_pos g];have:=cS_bd uP_pos (angN_le g) 29;unfold lo32;omega
 ·rw[if_neg g];have h:=angN_le (show 8*(n/4-k)≤n by omega);have:=sS_bd uP_pos h 29;unfold lo32;omega
end Go.Tu
namespace Go.Proofs.YtdlpffgekmidnabDoor
open Go.Proofs.Tryd
open Go.IntKind
open Go.KRun Go.Wd Go.Pt
set_option maxRecDepth 100000
def piT:W4:=⟨0xd0082efa98ec4e6c,0x44a4093822299f31,0xd313198a2e037073,0x03243f6a8885a308⟩
theorem piT_ok:piT.ok:=by decide
theorem piT_nat:piT.nat=Go.Tu.piP:=by rfl
theorem piT_fits:Fits (reckon (tabOf prog extY conN true) 100 54 [] []) (vW piT) []:=by and_intros<;>kernel_rfl
theorem piT_calls (w:World):Calls prog 54 #[] w fun e w'=>e= .returned (vW piT)∧Tidy w w':=fits_calls (tabY_ok conN_ok) piT_fits okNil (by rfl) (by rfl) w
def conTA:Con:=alt 52 gFOf (alt 53 gFMd (alt 54 (g0 (vW piT)) conN))
theorem conTA_ok:ConOk conTA:=alt_ok func52 rfl gFOf_ok (alt_ok func53 rfl gFMd_ok (alt_ok func54 rfl (g0_ok piT_calls) conN_ok))
def tk (k:Int):Int:=u64.wrap (i64.wrap (2*k))
def tn (n:Int):Int:=u64.wrap n
def qT (k n:Int):W4:=W4.of (foI (tk k) (tn n))
theorem ang_fits (k n:Int):Fits (reckon (tabOf prog extY conTA true) 300 38 [.int .i64 k,.int .i64 n] [cmp false,cmp false,cmp false]) (vW (W4.of (fmI (qT k n) piT)))
  [(decide (115792089237316195423570985008687907853269984665640564039457584007913129639936≤fmI (qT k n) piT),false),q2 (qT k n) piT,(decide (115792089237316195423570985008687907853269984665640564039457584007913129639936≤fmI (qT k n) piT),false),q2 (qT k n) piT,(decide (115792089237316195423570985008687907853269984665640564039457584007913129639936≤fmI (qT k n) piT),false),q2 (qT k n) piT,(decide (115792089237316195423570985008687907853269984665640564039457584007913129639936≤foI (tk k) (tn n)),false),(decide (tn n=0),false),(decide (uu (tk k) (tn n)),true)]:=by and_intros<;>kernel_rfl
theorem uP_lit:Go.Fx.uP=452312848583266388373324160190187140051835877600158453279131187530910662656:=by decide+kernel
theorem ofI_lt {z:Int}{q:Nat}(h:z=(q:Int)):W4.of z=ofN q:=by
 rw[h];rfl
theorem foI_is {k n:Nat}:foI k n=((k*Go.Fx.uP/n:Nat):Int):=by
 unfold foI;rw[uP_lit,Int.natCast_ediv,Int.natCast_mul];rfl
abbrev inA (k n:Int):Prop:=0≤k∧8*k≤n∧1≤n∧n≤268435456
def angI (k n:Int):W4:=ofN (Go.Tu.angN k.toNat n.toNat)
theorem angI_nat {k n:Int}(h:inA k n):(angI k n).ok∧(angI k n).nat=Go.Tu.angN k.toNat n.toNat∧Go.Tu.angN k.toNat n.toNat≤Go.Fx.uP:=by
 obtain⟨h1,h2,h3,h4⟩:=h;have hl:Go.Tu.angN k.toNat n.toNat≤Go.Fx.uP:=Go.Tu.angN_le (by omega);refine⟨ofN_ok _,ofN_nat (Nat.lt_of_le_of_lt hl (by decide)),hl⟩
theorem ang_calls {k n:Int}(h:inA k n) (w:World):Calls prog 38 #[.int .i64 k,.int .i64 n] w fun e w'=>e= .returned (vW (angI k n))∧Tidy w w':=by
 have hl:=(angI_nat h).2.2;obtain⟨h1,h2,h3,h4⟩:=h;have ek:tk k=((2*k.toNat:Nat):Int):=by
  unfold tk;rw[wrap_i64' (by omega) (by omega),wrap_u64' (by omega) (by omega)];omega
 have en:tn n=((n.toNat:Nat):Int):=by
  unfold tn;rw[wrap_u64' (by omega) (by omega)];omega
 have eq:foI (tk k) (tn n)=((2*k.toNat*Go.Fx.uP/n.toNat:Nat):Int):=by rw[ek,en];exact foI_is
 have hq:2*k.toNat*Go.Fx.uP/n.toNat≤Go.Fx.uP:=by
  refine Nat.div_le_of_le_mul ?_;exact Nat.mul_le_mul_right _ (by omega)
 have hqM:2*k.toNat*Go.Fx.uP/n.toNat<115792089237316195423570985008687907853269984665640564039457584007913129639936:=by
  rw[uP_lit] at hq ⊢;omega
 have wq:qT k n=ofN (2*k.toNat*Go.Fx.uP/n.toNat):=ofI_lt eq;have nq:(qT k n).nat=2*k.toNat*Go.Fx.uP/n.toNat:=by rw[wq];exact ofN_nat hqM
 have okq:(qT k n).ok:=W4.ok_of _;have em:fmI (qT k n) piT=((Go.Tu.angN k.toNat n.toNat:Nat):Int):=by
  unfold fmI;rw[W4.nat_val okq,W4.nat_val piT_ok,nq,piT_nat];unfold Go.Tu.angN;rw[Int.natCast_ediv,Int.natCast_mul,uP_lit];rfl
 have wm:W4.of (fmI (qT k n) piT)=angI k n:=ofI_lt em;have l1:decide (115792089237316195423570985008687907853269984665640564039457584007913129639936≤fmI (qT k n) piT)=false:=Xb (by rw[em];rw[uP_lit] at hl;omega);have l2:(q2 (qT k n) piT).1=(q2 (qT k n) piT).2:=Xa ⟨okq,piT_ok⟩;have M:=fits_calls (tabY_ok conTA_ok) (ang_fits k n) (okPC l1 (okPC l2 (okPC l1 (okPC l2 (okPC l1 (okPC l2 (okPC (Xb (by rw[eq];omega)) (okPC (Xb (by rw[en];omega)) (okP1 (Xa (by rw[ek,en];unfold uu;omega))))))))))) (by rfl) (by rfl) w;rw[wm] at M;exact M
def gAngl:Ans:=fun vals s=>match vals with | [.int .i64 k,.int .i64 n]=>some (vW (angI k n),s,[(decide (inA k n),true)]) | _=>none
theorem gAngl_ok:AnsOk 38 gAngl:=by
 intro vals s v s' lg h hl w;unfold gAngl at h;split at h
 ·cases h;exact ang_calls (Xc (hl _ Xf)) w
 ·cases h
def conTB:Con:=alt 38 gAngl (alt 39 (gAng sinV) (alt 37 (gAng cosV) conN))
theorem conTB_ok:ConOk conTB:=alt_ok func38 rfl gAngl_ok (alt_ok func39 rfl (gAng_ok sin_calls) (alt_ok func37 rfl (gAng_ok cos_calls) conN_ok))
def k8 (k:Int):Int:=i64.wrap (8*k)
def qk4 (k n:Int):Int:=i64.wrap (i64.wrap (n.tdiv 4)-k)
def uPx (x:W4):Bool×Bool:=(decide (Go.Fx.uP<x.nat),false)
theorem uPx_no {x:W4}(h:¬ Go.Fx.uP<x.nat):(uPx x).1=(uPx x).2:=Xb h
theorem oW_yes {x:W4}(h:x.ok):(oW x).1=(oW x).2:=Xa h
theorem near_c (k n:Int):Fits (reckon (tabOf prog extY conTB true) 300 28 [.int .i64 k,.int .i64 n] [cmp true,cmp false]) (vW (ofN (clN (angI k n)))) [uPx (angI k n),oW (angI k n),(decide (inA k n),true),(decide (k8 k≤n),true)]:=by and_intros<;>kernel_rfl
theorem near_s (k n:Int):Fits (reckon (tabOf prog extY conTB true) 300 28 [.int .i64 k,.int .i64 n] [cmp false,cmp false]) (vW (ofN (slN (angI (qk4 k n) n)))) [uPx (angI (qk4 k n) n),oW (angI (qk4 k n) n),(decide (inA (qk4 k n) n),true),(decide (k8 k≤n),false)]:=by and_intros<;>kernel_rfl
abbrev inQ (k n:Int):Prop:=0≤k∧4*k≤n∧1≤n∧n≤268435456
def lowI (k n:Int):W4:=ofN (Go.Tu.lowC k.toNat n.toNat)
theorem near_calls {k n:Int}(h:inQ k n) (w:World):Calls prog 28 #[.int .i64 k,.int .i64 n] w fun e w'=>e= .returned (vW (lowI k n))∧Tidy w w':=by
 obtain⟨h1,h2,h3,h4⟩:=h;have e8:k8 k=8*k:=by
  unfold k8;rw[wrap_i64' (by omega) (by omega)]
 have e4:qk4 k n=n/4-k:=by
  unfold qk4;rw[Int.tdiv_eq_ediv_of_nonneg (by omega),wrap_i64' (n:=n/4) (by omega) (by omega),wrap_i64' (by omega) (by omega)]
 by_cases c:8*k≤n
 ·have hA:inA k n:=⟨h1,c,h3,h4⟩;obtain⟨a1,a2,a3⟩:=angI_nat hA;have e:ofN (clN (angI k n))=lowI k n:=by
   unfold lowI Go.Tu.lowC clN;rw[if_pos (by omega),a2]
  have M:=fits_calls (tabY_ok conTB_ok) (near_c k n) (okPC (uPx_no (by rw[a2];omega)) (okPC (oW_yes a1) (okPC (Xa hA) (okP1 (Xa (by rw[e8];exact c)))))) (by rfl) (by rfl) w;rw[e] at M;exact M
 ·have hA:inA (qk4 k n) n:=by rw[e4];exact⟨by omega,by omega,h3,h4⟩
  obtain⟨a1,a2,a3⟩:=angI_nat hA;have e:ofN (slN (angI (qk4 k n) n))=lowI k n:=by
   unfold lowI Go.Tu.lowC slN;rw[if_neg (by omega),a2,e4,show (n/4-k).toNat=n.toNat/4-k.toNat by omega]
  have M:=fits_calls (tabY_ok conTB_ok) (near_s k n) (okPC (uPx_no (by rw[a2];omega)) (okPC (oW_yes a1) (okPC (Xa hA) (okP1 (Xb (by rw[e8];exact c)))))) (by rfl) (by rfl) w;rw[e] at M;exact M
def gNrT:Ans:=fun vals s=>match vals with | [.int .i64 k,.int .i64 n]=>some (vW (lowI k n),s,[(decide (inQ k n),true)]) | _=>none
theorem gNrT_ok:AnsOk 28 gNrT:=by
 intro vals s v s' lg h hl w;unfold gNrT at h;split at h
 ·cases h;exact near_calls (Xc (hl _ Xf)) w
 ·cases h
def conTC:Con:=alt 28 gNrT (alt 27 gRd conN)
theorem conTC_ok:ConOk conTC:=alt_ok func28 rfl gNrT_ok (alt_ok func27 rfl gRd_ok conN_ok)
def hfI (n:Int):Int:=i64.wrap (n.tdiv 2)
def qrI (n:Int):Int:=i64.wrap (n.tdiv 4)
def fk (a:Bool) (k n:Int):Int:=match a with | true=>i64.wrap (n-k) | false=>k
def fq (a b:Bool) (k n:Int):Int:=match b with | true=>i64.wrap (hfI n-fk a k n) | false=>fk a k n
def patV (s:Bool) (x:W4):Value:= .int .u64 (sS s (Go.Rn.rnP 0 s (tw x false) (clp (-248)-1)))
theorem cos_ab (a b:Bool) (k n:Int):Fits (reckon (tabOf prog extY conTC true) 300 23 [.int .i64 k,.int .i64 n] [cmp a,cmp b]) (patV b (lowI (fq a b k n) n)) [oW (lowI (fq a b k n) n),(decide (inQ (fq a b k n) n),true),(decide (fk a k n>qrI n),b),(decide (k>hfI n),a)]:=by
 cases a<;>cases b<;>exact by and_intros<;>kernel_rfl
abbrev inT (k n:Int):Prop:=0≤k∧k<n∧n % 4=0∧n≤268435456
theorem cosine_calls {k n:Int}(h:inT k n) (w:World):Calls prog 23 #[.int .i64 k,.int .i64 n] w fun e w'=>e= .returned (.int .u64 (Go.Tu.patC k.toNat n.toNat))∧Tidy w w':=by
 obtain⟨h1,h2,h3,h4⟩:=h;have eh:hfI n=n/2:=by
  unfold hfI;rw[Int.tdiv_eq_ediv_of_nonneg (by omega),wrap_i64' (by omega) (by omega)]
 have eq:qrI n=n/4:=by
  unfold qrI;rw[Int.tdiv_eq_ediv_of_nonneg (by omega),wrap_i64' (by omega) (by omega)]
 obtain⟨a,ha⟩:∃ a,decide (k>hfI n)=a:=⟨_,rfl⟩;obtain⟨b,hb⟩:∃ b,decide (fk a k n>qrI n)=b:=⟨_,rfl⟩;have ek:fk a k n=((Go.Tu.foldK k.toNat n.toNat:Nat):Int):=by
  unfold Go.Tu.foldK;rw[eh] at ha;cases a
  ·have:=of_decide_eq_false ha;rw[if_neg (by omega)];show k=_;omega
  ·have:=Xc ha;rw[if_pos (by omega)];show i64.wrap (n-k)=_;rw[wrap_i64' (by omega) (by omega)];omega
 have fb:Go.Tu.foldK k.toNat n.toNat≤n.toNat/2:=by
  unfold Go.Tu.foldK;split<;>omega
 have es:b=Go.Tu.foldS k.toNat n.toNat:=by
  rw[← hb,ek,eq];unfold Go.Tu.foldS;exact decide_eq_decide.2 ⟨fun _=>by omega,fun _=>by omega⟩
 have eQ:fq a b k n=((Go.Tu.foldQ k.toNat n.toNat:Nat):Int):=by
  unfold Go.Tu.foldQ;rw[ek,eq] at hb;cases b
  ·have:=of_decide_eq_false hb;rw[if_neg (by omega)];exact ek
  ·have:=Xc hb;rw[if_pos (by omega)];show i64.wrap (hfI n-fk a k n)=_;rw[eh,ek,wrap_i64' (by omega) (by omega)];omega
 have q:=(Go.Tu.fold_half (n:=n.toNat) (k:=k.toNat) (by omega) (by omega)).2.2.1;have hQ:inQ (fq a b k n) n:=by rw[eQ];exact⟨by omega,by omega,by omega,h4⟩
 have lb:Go.Tu.lowC (Go.Tu.foldQ k.toNat n.toNat) n.toNat≤Go.Fx.uP:=Go.Tu.lowC_le q;have el:lowI (fq a b k n) n=ofN (Go.Tu.lowC (Go.Tu.foldQ k.toNat n.toNat) n.toNat):=by rw[eQ];rfl
 have nl:(lowI (fq a b k n) n).nat=Go.Tu.lowC (Go.Tu.foldQ k.toNat n.toNat) n.toNat:=by
  rw[el];exact ofN_nat (Nat.lt_of_le_of_lt lb (by decide))
 have ep:patV b (lowI (fq a b k n) n)= .int .u64 (Go.Tu.patC k.toNat n.toNat):=by
  unfold patV Go.Tu.patC Go.Tu.rnd16;rw[← es,show tw (lowI (fq a b k n) n) false=2*(lowI (fq a b k n) n).nat from Nat.add_zero _,nl,show clp (-248)-1= -249 from by decide];unfold sS;cases b
  ·rw[if_neg (by decide),if_neg (by decide),Int.zero_add]
  ·rw[if_pos rfl,if_pos rfl]
 have M:=fits_calls (tabY_ok conTC_ok) (cos_ab a b k n) (okPC (oW_yes (ofN_ok _)) (okPC (Xa hQ) (okPC hb (okP1 ha)))) (by rfl) (by rfl) w;rw[ep] at M;exact M
def gCosi:Ans:=fun vals s=>match vals with | [.int .i64 k,.int .i64 n]=>some (.int .u64 (Go.Tu.patC k.toNat n.toNat),s,[(decide (inT k n),true)]) | _=>none
theorem gCosi_ok:AnsOk 23 gCosi:=by
 intro vals s v s' lg h hl w;unfold gCosi at h;split at h
 ·cases h;exact cosine_calls (Xc (hl _ Xf)) w
 ·cases h
theorem wi_neg (k n:Int):Fits (reckon (tabOf prog extY conN true) 300 16 [.int .i64 k,.int .i64 n] [cmp false,cmp true]) (.int .i64 (i64.wrap (k.tmod n+n))) [(decide (k.tmod n<0),true),(decide (n=0),false)]:=by and_intros<;>kernel_rfl
theorem wi_pos (k n:Int):Fits (reckon (tabOf prog extY conN true) 300 16 [.int .i64 k,.int .i64 n] [cmp false,cmp false]) (.int .i64 (k.tmod n)) [(decide (k.tmod n<0),false),(decide (n=0),false)]:=by and_intros<;>kernel_rfl
theorem within_calls {k n:Int}(h:1≤n∧n≤268435456) (w:World):Calls prog 16 #[.int .i64 k,.int .i64 n] w fun e w'=>e= .returned (.int .i64 (k % n))∧Tidy w w':=by
 have hz:decide (n=0)=false:=Xb (by omega);have b:=Int.emod_nonneg k (show n≠0 by omega);have c:=Int.emod_lt_of_pos k (show 0<n by omega);have e:k.tmod n=if 0≤k∨n ∣ k then k % n else k % n-n:=by
  rw[Int.tmod_eq_emod];split
  ·omega
  ·rw[show ((n.natAbs:Nat):Int)=n by omega]
 by_cases d:k.tmod n<0
 ·have v:i64.wrap (k.tmod n+n)=k % n:=by
   rw[e] at d ⊢;split at d
   ·omega
   ·rename_i g;rw[if_neg g,wrap_i64' (by omega) (by omega)];omega
  have M:=fits_calls (tabY_ok conN_ok) (wi_neg k n) (okPC (Xa d) (okP1 hz)) (by rfl) (by rfl) w;rw[v] at M;exact M
 ·have v:k.tmod n=k % n:=by
   rw[e] at d ⊢;split at d
   ·rename_i g;rw[if_pos g]
   ·omega
  have M:=fits_calls (tabY_ok conN_ok) (wi_pos k n) (okPC (Xb d) (okP1 hz)) (by rfl) (by rfl) w;rw[v] at M;exact M
def gWin:Ans:=fun vals s=>match vals with | [.int .i64 k,.int .i64 n]=>some (.int .i64 (k % n),s,[(decide (1≤n∧n≤268435456),true)]) | _=>none
theorem gWin_ok:AnsOk 16 gWin:=by
 intro vals s v s' lg h hl w;unfold gWin at h;split at h
 ·cases h;exact within_calls (Xc (hl _ Xf)) w
 ·cases h
def conTD:Con:=alt 16 gWin (alt 23 gCosi conN)
theorem conTD_ok:ConOk conTD:=alt_ok func16 rfl gWin_ok (alt_ok func23 rfl gCosi_ok conN_ok)
def paV (k n:Int):Value:= .agg #[.int .i64 k,.int .i64 n]
def n1L (n:Int) (d:Bool):Bool×Bool:=(decide (n<1),d)
def nmL (n:Int) (d:Bool):Bool×Bool:=(decide (n>67108864),d)
def wL (n:Int):Bool×Bool:=(decide (1≤n∧n≤268435456),true)
theorem po_low (k n:Int):Fits (reckon (tabOf prog extY conTD true) 300 10 [.int .i64 k,.int .i64 n] [cmp true]) (.tuple #[paV 0 0,errF 1]) [n1L n true]:=by and_intros<;>kernel_rfl
theorem po_high (k n:Int):Fits (reckon (tabOf prog extY conTD true) 300 10 [.int .i64 k,.int .i64 n] [cmp false,cmp true]) (.tuple #[paV 0 0,errF 1]) [nmL n true,n1L n false]:=by and_intros<;>kernel_rfl
theorem po_in (k n:Int):Fits (reckon (tabOf prog extY conTD true) 300 10 [.int .i64 k,.int .i64 n] [cmp false,cmp false]) (.tuple #[paV (k % n) n,.nilIface]) [wL n,nmL n false,n1L n false]:=by and_intros<;>kernel_rfl
abbrev badP (n:Int):Prop:=n<1∨67108864<n
theorem po_calls (k n:Int) (w:World):Calls prog 10 #[.int .i64 k,.int .i64 n] w fun e w'=>e= .returned (.tuple #[if badP n then paV 0 0 else paV (k % n) n,if badP n then errF 1 else .nilIface])∧Tidy w w':=by
 by_cases h1:n<1
 ·rw[if_pos (.inl h1),if_pos (.inl h1)];exact fits_calls (tabY_ok conTD_ok) (po_low k n) (okP1 (Xa h1)) (by rfl) (by rfl) w
 ·by_cases h2:n>67108864
  ·rw[if_pos (.inr h2),if_pos (.inr h2)];exact fits_calls (tabY_ok conTD_ok) (po_high k n) (okPC (Xa h2) (okP1 (Xb h1))) (by rfl) (by rfl) w
  ·have hb:¬ badP n:=fun h=>h.elim h1 h2;rw[if_neg hb,if_neg hb];exact fits_calls (tabY_ok conTD_ok) (po_in k n) (okPC (Xa (by omega)) (okPC (Xb h2) (okP1 (Xb h1)))) (by rfl) (by rfl) w
def gPo:Ans:=fun vals s=>
 match vals,s with
 | [.int .i64 k,.int .i64 n],.inr (.inr (.inr (.inl d)))::s'=>
  match d with
  | true=>some (.tuple #[paV 0 0,errF 1],s',[(decide (badP n),true)])
  | false=>some (.tuple #[paV (k % n) n,.nilIface],s',[(decide (badP n),false)])
 | _,_=>none
theorem gPo_ok:AnsOk 10 gPo:=by
 intro vals s v s' lg h hl w;unfold gPo at h;split at h
 ·rename_i k n d s2;have M:=po_calls k n w;split at h
  ·cases h;have h1:=Xc (hl _ Xf);rw[if_pos h1,if_pos h1] at M;exact M
  ·cases h;have h1:=of_decide_eq_false (hl _ Xf);rw[if_neg h1,if_neg h1] at M;exact M
 ·cases h
def m4 (k:Int):Int:=i64.wrap (4*k)
def m4n (k n:Int):Int:=i64.wrap (m4 k-n)
def lC (k n:Int):Bool×Bool:=(decide (inT (m4 k) (m4 n)),true)
def lS (k n:Int):Bool×Bool:=(decide (inT (m4n k n % m4 n) (m4 n)),true)
def cV (k n:Int):Int:=Go.Tu.patC (m4 k).toNat (m4 n).toNat
def sV (k n:Int):Int:=Go.Tu.patC (m4n k n % m4 n).toNat (m4 n).toNat
theorem pc_fits (k n:Int):Fits (reckon (tabOf prog extY conTD true) 300 17 [paV k n] []) (.int .u64 (cV k n)) [lC k n]:=by and_intros<;>kernel_rfl
theorem ps_fits (k n:Int):Fits (reckon (tabOf prog extY conTD true) 300 18 [paV k n] []) (.int .u64 (sV k n)) [lS k n,wL (m4 n)]:=by and_intros<;>kernel_rfl
abbrev inK (k n:Int):Prop:=0≤k∧k<n∧n≤67108864
def coI (k n:Int):Int:=Go.Tu.cosT k.toNat n.toNat
def siI (k n:Int):Int:=Go.Tu.sinT k.toNat n.toNat
theorem m4_eq {k:Int}(h: -67108864≤k∧k≤67108864):m4 k=4*k:=by
 unfold m4;rw[wrap_i64' (by omega) (by omega)]
theorem pc_calls {k n:Int}(h:inK k n) (w:World):Calls prog 17 #[paV k n] w fun e w'=>e= .returned (.int .u64 (coI k n))∧Tidy w w':=by
 obtain⟨h1,h2,h3⟩:=h;have ek:=m4_eq (k:=k) ⟨by omega,by omega⟩;have en:=m4_eq (k:=n) ⟨by omega,by omega⟩;have e:cV k n=coI k n:=by
  unfold cV coI Go.Tu.cosT;rw[ek,en,Nat.mod_eq_of_lt (show k.toNat<n.toNat by omega),show (4*k).toNat=4*k.toNat by omega,show (4*n).toNat=4*n.toNat by omega]
 have M:=fits_calls (tabY_ok conTD_ok) (pc_fits k n) (okP1 (Xa (by rw[ek,en];exact⟨by omega,by omega,by omega,by omega⟩))) (by rfl) (by rfl) w;rw[e] at M;exact M
theorem ps_calls {k n:Int}(h:inK k n) (w:World):Calls prog 18 #[paV k n] w fun e w'=>e= .returned (.int .u64 (siI k n))∧Tidy w w':=by
 obtain⟨h1,h2,h3⟩:=h;have ek:=m4_eq (k:=k) ⟨by omega,by omega⟩;have en:=m4_eq (k:=n) ⟨by omega,by omega⟩;have ew:m4n k n=4*k-n:=by
  unfold m4n;rw[ek,wrap_i64' (by omega) (by omega)]
 have er:(4*k-n) % (4*n)=(((4*k.toNat+3*n.toNat) % (4*n.toNat):Nat):Int):=by
  rw[Int.natCast_emod,show (4*k-n)=((4*k.toNat+3*n.toNat:Nat):Int)-4*n by omega,show ((4*n.toNat:Nat):Int)=4*n by omega,Int.sub_emod_right]
 have b:(4*k.toNat+3*n.toNat) % (4*n.toNat)<4*n.toNat:=Nat.mod_lt _ (by omega);have e:sV k n=siI k n:=by
  unfold sV siI Go.Tu.sinT;rw[ew,en,er,Nat.mod_eq_of_lt (show k.toNat<n.toNat by omega),Xg,show (4*n).toNat=4*n.toNat by omega]
 have M:=fits_calls (tabY_ok conTD_ok) (ps_fits k n) (okPC (Xa (by rw[ew,en,er];exact⟨by omega,by omega,by omega,by omega⟩)) (okP1 (Xa (by rw[en];omega)))) (by rfl) (by rfl) w;rw[e] at M;exact M
def gPc (f:Int→Int→Int):Ans:=fun vals s=>match vals with | [.agg ⟨[.int .i64 k,.int .i64 n]⟩]=>some (.int .u64 (f k n),s,[(decide (inK k n),true)]) | _=>none
theorem gPc_ok {f:Nat}{g:Int→Int→Int}(hf:∀ k n:Int,inK k n→∀ w,Calls prog f #[paV k n] w fun e w'=>e= .returned (.int .u64 (g k n))∧Tidy w w'):AnsOk f (gPc g):=by
 intro vals s v s' lg h hl w;unfold gPc at h;split at h
 ·cases h;exact hf _ _ (Xc (hl _ Xf)) w
 ·cases h
def conTE:Con:=alt 10 gPo (alt 17 (gPc coI) (alt 18 (gPc siI) conN))
theorem conTE_ok:ConOk conTE:=alt_ok func10 rfl gPo_ok (alt_ok func17 rfl (gPc_ok fun _ _ h=>pc_calls h) (alt_ok func18 rfl (gPc_ok fun _ _ h=>ps_calls h) conN_ok))
def ptV (c s:Int):Value:= .agg #[.int .u64 c,.int .u64 s]
def kL (k n:Int):Bool×Bool:=(decide (inK k n),true)
def bL (n:Int) (d:Bool):Bool×Bool:=(decide (badP n),d)
theorem pp_fits (k n:Int):Fits (reckon (tabOf prog extY conTE true) 300 11 [paV k n] []) (ptV (coI k n) (siI k n)) [kL k n,kL k n]:=by and_intros<;>kernel_rfl
end Go.Proofs.YtdlpffgekmidnabDoor
