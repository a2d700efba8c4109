/-
  ShI, TxY, ShJ, ShK, Con1, Con2, Con3
-/
import Derived.Test.YtgefjidphfdhdaaGreatDoorG14
import Derived.Test.YtgefjidphfdhdaaGreatDoorG12
namespace Go.Proofs.YtgefjidphfdhdaaGreatDoor
open Go.Proofs.Tryz
open Go.IntKind
open Go.KRun Go.Nt Go.Rd
set_option maxRecDepth 100000
set_option linter.unusedVariables false
def Zg5:Con:=alt 42 Z1o (alt 72 Z3h (alt 125 Z4Y Zn))
theorem ZaM:ConOk Zg5:=Zr func42 rfl Zh7 (Zr func72 rfl Znp (Zr func125 rfl Zw6 Zh))
def mnL (b:Bool):List UInt8:=if b=true then [45] else []
theorem Z1r:Zs (Zf (Ze prog Zi Zg5 true) 100 44 [.bool true] []) (bR [45]) []:=by and_intros<;>kernel_rfl
theorem Z1s:Zs (Zf (Ze prog Zi Zg5 true) 100 44 [.bool false] []) (bR []) []:=by and_intros<;>kernel_rfl
def Z1t:Ans:=fun vals s=>
 match vals with
 | [.bool b]=>some (bR (mnL b),s,[])
 | _=>none
theorem ZhB:ZC 44 Z1t:=by
 intro vals s v s' lg h hl w;unfold Z1t at h;split at h
 ·rename_i b;cases h;cases b with
  | true=>exact Zb (Zd ZaM) Z1r Zbu (by rfl) (by rfl) w
  | false=>exact Zb (Zd ZaM) Z1s Zbu (by rfl) (by rfl) w
 ·cases h
def ptL (l:List UInt8):List UInt8:=match l with | []=>[] | [c]=>[c] | c::r=>c::46::r
theorem Z1u (l:List UInt8):Zs (Zf (Ze prog Zi Zg5 true) 100 45 [bR l] [cmp true]) (bR l) [((((l.length:Nat):Int)==1),true)]:=by and_intros<;>kernel_rfl
theorem Z1v (l:List UInt8):Zs (Zf (Ze prog Zi Zg5 true) 100 45 [bR l] [cmp false,sam true,sam true,sam true,sam true]) (bR ((l.take 1++[46])++l.drop 1)) [(decide ((l.take 1++[46]).length+(l.drop 1).length≤9223372036854775807),true),(decide ((0:Int)≤1∧(1:Int)≤((l.length:Nat):Int)),true),(decide ((l.take 1).length+1≤9223372036854775807),true),(decide ((0:Int)≤1∧(1:Int)≤((l.length:Nat):Int)),true),((((l.length:Nat):Int)==1),false)]:=by and_intros<;>kernel_rfl
def Z3i:Ans:=fun vals s=>
 match vals with
 | [.string b]=>some (bR (ptL b.data.toList),s,[(decide (1≤b.data.toList.length∧b.data.toList.length≤100000),true)])
 | _=>none
theorem Znv:ZC 45 Z3i:=by
 intro vals s v s' lg h hl w;unfold Z3i at h;split at h
 ·rename_i b;cases h;obtain⟨h1,h2⟩:=Xc (hl _ Xf);obtain⟨l,hL⟩:∃ l,l=b.data.toList:=⟨_,rfl⟩;have eb:Value.string b=bR l:=by rw[hL];rfl
  rw[eb,← hL];rw[← hL] at h1 h2
  match l,h1,h2 with
  | [c],_,_=>exact Zb (Zd ZaM) (Z1u [c]) (Zy rfl) (by rfl) (by rfl) w
  | c::d::r,h1,h2=>
   have lr:(c::d::r).length=r.length+2:=rfl;have f:=Z1v (c::d::r);refine Zb (Zd ZaM) f (Za (Xa (by show 2+(r.length+1)≤_;omega)) (Za (Xa ⟨by omega,by omega⟩) (Za (Xa (by show 1+1≤_;omega)) (Za (Xa ⟨by omega,by omega⟩) (Zy (zO (by omega))))))) (by rfl) (by rfl) w
 ·cases h
def Zw9:Con:=alt 44 Z1t Zg5
theorem ZiZ:ConOk Zw9:=Zr func44 rfl ZhB ZaM
def nmL (m:Bool) (c:Int):List UInt8:=if c=3 then mnL m++[105,110,102] else [110,97,110]
theorem Z1w (m:Bool) (c e s:Int):Zs (Zf (Ze prog Zi Zw9 true) 100 22 [vP m c e s] [cmp true,sam true]) (bR (mnL m++[105,110,102])) [(decide ((mnL m).length+3≤9223372036854775807),true),(c==3,true)]:=by and_intros<;>kernel_rfl
theorem Z1x (m:Bool) (c e s:Int):Zs (Zf (Ze prog Zi Zw9 true) 100 22 [vP m c e s] [cmp false]) (bR [110,97,110]) [(c==3,false)]:=by and_intros<;>kernel_rfl
theorem Zf1 (b:Bool):(mnL b).length≤1:=by cases b<;>decide
def vP4:Value→Option (Bool×Int×Int×Int)
 | .agg cs=>
  match cs.toList with
  | [.bool m,.int .i64 c,.int .i64 e,.int .u64 s]=>some (m,c,e,s)
  | _=>none
 | _=>none
theorem Zcq {v:Value}{m:Bool}{c e s:Int}(h:vP4 v=some (m,c,e,s)):v=vP m c e s:=by
 unfold vP4 at h;split at h
 ·rename_i cs;split at h
  ·rename_i hc;cases h;obtain⟨l⟩:=cs;simp only at hc;subst hc;rfl
  ·cases h
 ·cases h
def Z3j:Ans:=fun vals s=>
 match vals with
 | [v]=>
  match vP4 v with
  | some (m,c,_,_)=>some (bR (nmL m c),s,[])
  | none=>none
 | _=>none
theorem Znw:ZC 22 Z3j:=by
 intro vals s v s' lg h hl w;unfold Z3j at h;split at h
 ·split at h
  ·rename_i m c e q hv;rw[Zcq hv];cases h;unfold nmL;have:=Zf1 m;by_cases hc:c=3
   ·rw[if_pos hc];exact Zb (Zd ZiZ) (Z1w m c e q) (Za (Xa (by omega)) (Zy (zH hc))) (by rfl) (by rfl) w
   ·rw[if_neg hc];exact Zb (Zd ZiZ) (Z1x m c e q) (Zy (zO hc)) (by rfl) (by rfl) w
  ·cases h
 ·cases h
theorem Znx {k:Nat}(h:k<128):(Utf8.encode ((k:Nat):Int)).data.toList=[UInt8.ofNat k]:=by
 have hv:Utf8.valid ((k:Nat):Int)=true:=by
  unfold Utf8.valid;simp;omega
 unfold Utf8.encode;simp [hv,h]
def nxK (l:List UInt8):Int:=i64.wrap (((l.length:Nat):Int)-((trC 57 l).length:Nat))
def nxE (l:List UInt8):Int:=i64.wrap (((trC 57 l).length:Int)-1)
def nxC (l:List UInt8):List UInt8:=(Utf8.encode (u8.wrap ((((trC 57 l).getD (nxE l).toNat 0).toNat:Int)+1))).data.toList
theorem Z1y (l:List UInt8):Zs (Zf (Ze prog Zi Zg5 true) 100 74 [bR l] [sam true,sam true]) (bR ([49]++List.replicate (nxK l).toNat 48)) [(decide (1+(List.replicate (nxK l).toNat (48:UInt8)).length≤9223372036854775807),true),Zaa (trC 57 l) [] true,(decide (0≤nxK l∧nxK l≤100000),true),(true,true),(decide (l.length≤100000),true)]:=by and_intros<;>kernel_rfl
theorem Z1z (l:List UInt8):Zs (Zf (Ze prog Zi Zg5 true) 100 74 [bR l] [sam false,sam true,sam true,sam true]) (bR (((trC 57 l).take (nxE l).toNat++nxC l)++List.replicate (nxK l).toNat 48)) [(decide (((trC 57 l).take (nxE l).toNat++nxC l).length+(List.replicate (nxK l).toNat (48:UInt8)).length≤9223372036854775807),true),(decide (((trC 57 l).take (nxE l).toNat).length+(nxC l).length≤9223372036854775807),true),(decide (0≤nxE l∧(nxE l).toNat<(trC 57 l).length),true),(decide (0≤nxE l∧nxE l≤((trC 57 l).length:Int)),true),Zaa (trC 57 l) [] false,(decide (0≤nxK l∧nxK l≤100000),true),(true,true),(decide (l.length≤100000),true)]:=by and_intros<;>kernel_rfl
theorem ZwA {b c:Int}{l:List UInt8}(h:ZF b l=true):ZF b (trC c l)=true:=by
 unfold ZF at*;rw[List.all_eq_true] at*;intro x hx;refine h x ?_;unfold trC at hx;rw[List.mem_reverse] at hx;have:=(List.dropWhile_sublist (l:=l.reverse) fun x=>lq8 x==c).subset hx;simpa using this
theorem Ztj {l:List UInt8}(h:ZF 10 l=true) {i:Nat}(hi:i<l.length):48≤lq8 (l.getD i 0)∧lq8 (l.getD i 0)≤57:=by
 have:0≤zy (lq8 (l.getD i 0)) 10:=by
  unfold ZF at h;refine Xc (List.all_eq_true.1 h _ ?_);rw[List.getD_eq_getElem?_getD,List.getElem?_eq_getElem hi,Option.getD_some];exact List.getElem_mem hi
 exact zG this
theorem Zny (l:List UInt8) (h1:ZF 10 l=true) (h2:l.length≤100000) (w:World):Calls prog 74 #[bR l] w fun e w'=>e= .returned (bR (ZaL l))∧zi w w':=by
 have hlen:=Zfy 57 l;have ek:nxK l=((l.length-(trC 57 l).length:Nat):Int):=by unfold nxK;rw[Zv (by omega) (by omega)];omega
 have kk:decide (0≤nxK l∧nxK l≤100000)=true:=Xa (by omega);have kl:decide (l.length≤100000)=true:=Xa h2;unfold ZaL;by_cases hn:trC 57 l=[]
 ·have f:=Z1y l;rw[ek,Xg] at f;rw[ek] at kk;rw[if_pos hn];exact Zb (Zd ZaM) f (Za (Xa (by rw[List.length_replicate];omega)) (Za (Z9 (Xa hn)) (Za kk (Za rfl (Zy kl))))) (by rfl) (by rfl) w
 ·have hp:0<(trC 57 l).length:=List.length_pos_iff.2 hn;have ee:nxE l=(((trC 57 l).length-1:Nat):Int):=by unfold nxE;rw[Zv (by omega) (by omega)];omega
  obtain⟨b1,b2⟩:=Ztj (ZwA (c:=57) h1) (i:=(trC 57 l).length-1) (by omega);have ec:nxC l=[UInt8.ofNat ((trC 57 l).getD ((trC 57 l).length-1) 0+1).toNat]:=by
   unfold nxC;unfold lq8 at b1 b2;obtain⟨x,hx⟩:∃ x,x=(trC 57 l).getD ((trC 57 l).length-1) 0:=⟨_,rfl⟩;rw[ee,Xg,← hx];rw[← hx] at b1 b2;have e1:u8.wrap (((x.toNat:Nat):Int)+1)=((x.toNat+1:Nat):Int):=by rw[ZiJ (by omega) (by omega)];omega
   have e2:(x+1).toNat=x.toNat+1:=by
    rw[UInt8.toNat_add];have:(1:UInt8).toNat=1:=rfl;omega
   rw[e1,Znx (by omega),e2]
  have f:=Z1z l;rw[ec,ek,ee,Xg,Xg] at f;rw[ek] at kk;rw[if_neg hn];have lt:=List.length_take_le ((trC 57 l).length-1) (trC 57 l);exact Zb (Zd ZaM) f (Za (Xa (by rw[List.length_append,List.length_replicate,List.length_singleton];omega)) (Za (Xa (by rw[List.length_singleton];omega)) (Za (Xa (by omega)) (Za (Xa (by omega)) (Za (Z9 (Xb hn)) (Za kk (Za rfl (Zy kl)))))))) (by rfl) (by rfl) w
def Z5b:Ans:=fun vals s=>
 match vals with
 | [.string b]=>some (bR (ZaL b.data.toList),s,[(ZF 10 b.data.toList,true),(decide (b.data.toList.length≤100000),true)])
 | _=>none
theorem ZwB:ZC 74 Z5b:=by
 intro vals s v s' lg h hl w;unfold Z5b at h;split at h
 ·cases h;exact Zny _ (hl _ Xe) (Xc (hl _ (Xd _ Xf))) w
 ·cases h
def guO (k:List UInt8):Int:=u8.wrap (((k.getD (i64.wrap (((k.length:Nat):Int)-1)).toNat 0).toNat:Int)-48)
theorem Z10 (k r:List UInt8) (mn:Bool) (m:Int):Zs (Zf (Ze prog Zi Zg5 true) 100 73 [bR k,bR r,.bool mn,.int .i64 m] [sam true]) (.bool false) [Zaa (trC 48 r) [] true,(true,true),(decide (r.length≤100000),true)]:=by and_intros<;>kernel_rfl
theorem Z11 (k r:List UInt8) (mn:Bool) (m:Int):Zs (Zf (Ze prog Zi Zg5 true) 100 73 [bR k,bR r,.bool mn,.int .i64 m] [sam false,cmp true]) (.bool false) [(m==2,true),Zaa (trC 48 r) [] false,(true,true),(decide (r.length≤100000),true)]:=by and_intros<;>kernel_rfl
theorem Z12 (k r:List UInt8) (mn:Bool) (m:Int):Zs (Zf (Ze prog Zi Zg5 true) 100 73 [bR k,bR r,.bool mn,.int .i64 m] [sam false,cmp false,cmp true]) (.bool (!mn)) [(m==3,true),(m==2,false),Zaa (trC 48 r) [] false,(true,true),(decide (r.length≤100000),true)]:=by and_intros<;>kernel_rfl
theorem Z13 (k r:List UInt8) (mn:Bool) (m:Int):Zs (Zf (Ze prog Zi Zg5 true) 100 73 [bR k,bR r,.bool mn,.int .i64 m] [sam false,cmp false,cmp false,cmp true]) (.bool mn) [(m==4,true),(m==3,false),(m==2,false),Zaa (trC 48 r) [] false,(true,true),(decide (r.length≤100000),true)]:=by and_intros<;>kernel_rfl
theorem Z14 (k r:List UInt8) (mn:Bool) (m:Int) (d:Bool):Zs (Zf (Ze prog Zi Zg5 true) 100 73 [bR k,bR r,.bool mn,.int .i64 m] [sam false,cmp false,cmp false,cmp false,cmp true,cmp d]) (.bool d) [(decide (cmS (trC 48 r) [53]≥0),d),(m==1,true),(m==4,false),(m==3,false),(m==2,false),Zaa (trC 48 r) [] false,(true,true),(decide (r.length≤100000),true)]:=by and_intros<;>kernel_rfl
theorem ZwC (k r:List UInt8) (mn:Bool) (m:Int) (d:Bool):Zs (Zf (Ze prog Zi Zg5 true) 100 73 [bR k,bR r,.bool mn,.int .i64 m] [sam false,cmp false,cmp false,cmp false,cmp false,cmp false,cmp d,cmp true]) (.bool true) [(decide (cmS (trC 48 r) [53]>0),true),((guO k).tmod 2==1,d),(decide ((2:Int)=0),false),(decide (0≤i64.wrap (((k.length:Nat):Int)-1)∧(i64.wrap (((k.length:Nat):Int)-1)).toNat<k.length),true),(m==1,false),(m==4,false),(m==3,false),(m==2,false),Zaa (trC 48 r) [] false,(true,true),(decide (r.length≤100000),true)]:=by and_intros<;>kernel_rfl
theorem ZwD (k r:List UInt8) (mn:Bool) (m:Int) (d:Bool):Zs (Zf (Ze prog Zi Zg5 true) 100 73 [bR k,bR r,.bool mn,.int .i64 m] [sam false,cmp false,cmp false,cmp false,cmp false,cmp false,cmp d,cmp false,cmp true]) (.bool d) [(cmS (trC 48 r) [53]==0,true),(decide (cmS (trC 48 r) [53]>0),false),((guO k).tmod 2==1,d),(decide ((2:Int)=0),false),(decide (0≤i64.wrap (((k.length:Nat):Int)-1)∧(i64.wrap (((k.length:Nat):Int)-1)).toNat<k.length),true),(m==1,false),(m==4,false),(m==3,false),(m==2,false),Zaa (trC 48 r) [] false,(true,true),(decide (r.length≤100000),true)]:=by and_intros<;>kernel_rfl
theorem ZwE (k r:List UInt8) (mn:Bool) (m:Int) (d:Bool):Zs (Zf (Ze prog Zi Zg5 true) 100 73 [bR k,bR r,.bool mn,.int .i64 m] [sam false,cmp false,cmp false,cmp false,cmp false,cmp false,cmp d,cmp false,cmp false]) (.bool false) [(cmS (trC 48 r) [53]==0,false),(decide (cmS (trC 48 r) [53]>0),false),((guO k).tmod 2==1,d),(decide ((2:Int)=0),false),(decide (0≤i64.wrap (((k.length:Nat):Int)-1)∧(i64.wrap (((k.length:Nat):Int)-1)).toNat<k.length),true),(m==1,false),(m==4,false),(m==3,false),(m==2,false),Zaa (trC 48 r) [] false,(true,true),(decide (r.length≤100000),true)]:=by and_intros<;>kernel_rfl
theorem ZqT (k r:List UInt8) (mn:Bool) (m:Int) (h1:ZF 10 k=true) (h2:1≤k.length∧k.length≤100000) (h3:r.length≤100000) (w:World):Calls prog 73 #[bR k,bR r,.bool mn,.int .i64 m] w fun e w'=>e= .returned (.bool (Zo6 m mn k r))∧zi w w':=by
 have hT:=Zd ZaM;have kr:decide (r.length≤100000)=true:=Xa h3;have er:trC 48 r=trR r:=rfl;unfold Zo6;rw[← er];by_cases hn:trC 48 r=[]
 ·rw[if_pos hn];exact Zb hT (Z10 k r mn m) (Za (Z9 (Xa hn)) (Za rfl (Zy kr))) (by rfl) (by rfl) w
 have kn:Zo [Zaa (trC 48 r) [] false,(true,true),(decide (r.length≤100000),true)]:=Za (Z9 (Xb hn)) (Za rfl (Zy kr));rw[if_neg hn];by_cases m2:m=2
 ·rw[if_pos m2];exact Zb hT (Z11 k r mn m) (Za (zH m2) kn) (by rfl) (by rfl) w
 rw[if_neg m2];have kn:=Za (zO m2) kn;by_cases m3:m=3
 ·rw[if_pos m3];exact Zb hT (Z12 k r mn m) (Za (zH m3) kn) (by rfl) (by rfl) w
 rw[if_neg m3];have kn:=Za (zO m3) kn;by_cases m4:m=4
 ·rw[if_pos m4];exact Zb hT (Z13 k r mn m) (Za (zH m4) kn) (by rfl) (by rfl) w
 rw[if_neg m4];have kn:=Za (zO m4) kn;by_cases m1:m=1
 ·rw[if_pos m1];exact Zb hT (Z14 k r mn m _) (Za rfl (Za (zH m1) kn)) (by rfl) (by rfl) w
 rw[if_neg m1];have kn:=Za (zO m1) kn;have ei:i64.wrap (((k.length:Nat):Int)-1)=((k.length-1:Nat):Int):=by rw[Zv (by omega) (by omega)];omega
 obtain⟨b1,b2⟩:=Ztj h1 (i:=k.length-1) (by omega);have eo:guO k=lq8 (k.getD (k.length-1) 0)-48:=by
  unfold guO;unfold lq8 at b1 b2 ⊢;rw[ei,Xg,ZiJ (by omega) (by omega)]
 obtain⟨d,hd⟩:∃ d,d=decide ((lq8 (k.getD (k.length-1) 0)-48) % 2=1):=⟨_,rfl⟩;have ed:((guO k).tmod 2==1)=d:=by
  rw[hd,eo,Int.tmod_eq_emod_of_nonneg (by omega)];rfl
 have kn:=Za ed (Za (show decide ((2:Int)=0)=false from rfl) (Za (show decide (0≤i64.wrap (((k.length:Nat):Int)-1)∧(i64.wrap (((k.length:Nat):Int)-1)).toNat<k.length)=true from Xa (by rw[ei];omega)) kn));rw[← hd];by_cases c1:0<cmS (trC 48 r) [53]
 ·rw[Xa c1,Bool.true_or];exact Zb hT (ZwC k r mn m d) (Za (Xa c1) kn) (by rfl) (by rfl) w
 rw[Xb c1,Bool.false_or];by_cases c0:cmS (trC 48 r) [53]=0
 ·rw[Xa c0,Bool.true_and];exact Zb hT (ZwD k r mn m d) (Za (zH c0) (Za (Xb c1) kn)) (by rfl) (by rfl) w
 ·rw[Xb c0,Bool.false_and];exact Zb hT (ZwE k r mn m d) (Za (zO c0) (Za (Xb c1) kn)) (by rfl) (by rfl) w
def Z5c:Ans:=fun vals s=>
 match vals,s with
 | [.string k,.string r,.bool mn,.int .i64 m],.inr (.inr (.inr (.inl d)))::s'=>some (.bool d,s',[(Zo6 m mn k.data.toList r.data.toList,d),(ZF 10 k.data.toList,true),(decide ((1≤k.data.toList.length∧k.data.toList.length≤100000)∧r.data.toList.length≤100000),true)])
 | _,_=>none
theorem ZwF:ZC 73 Z5c:=by
 intro vals s v s' lg h hl w;unfold Z5c at h;split at h
 ·rename_i k r mn m d s2;cases h;have l1:Zo6 m mn k.data.toList r.data.toList=d:=hl _ Xe;have l2:ZF 10 k.data.toList=true:=hl _ (Xd _ Xe);obtain⟨l3,l4⟩:=Xc (hl _ (Xd _ (Xd _ Xf)));rw[← l1];exact ZqT _ _ mn m l2 l3 l4 w
 ·cases h
def ZqU:Con:=alt 73 Z5c (alt 74 Z5b Zg5)
theorem ZqV:ConOk ZqU:=Zr func73 rfl ZwF (Zr func74 rfl ZwB ZaM)
def vDc (l:List UInt8) (e:Int):Value:= .agg #[bR l,.int .i64 e]
theorem Z15 (D:List UInt8) (e n m:Int) (mn:Bool):Zs (Zf (Ze prog Zi ZqU true) 100 39 [vDc D e,.int .i64 n,.bool mn,.int .i64 m] [cmp true,sam true]) (vDc (D++List.replicate (i64.wrap (n-((D.length:Nat):Int))).toNat 48) e) [(decide (D.length+(List.replicate (i64.wrap (n-((D.length:Nat):Int))).toNat (48:UInt8)).length≤9223372036854775807),true),(decide (0≤i64.wrap (n-((D.length:Nat):Int))∧i64.wrap (n-((D.length:Nat):Int))≤100000),true),(decide (((D.length:Nat):Int)≤n),true)]:=by and_intros<;>kernel_rfl
def Z3k (D:List UInt8) (e n m:Int) (mn:Bool) (d:Bool):Log:=[(Zo6 m mn (D.take n.toNat) (D.drop n.toNat),d),(ZF 10 (D.take n.toNat),true),(decide ((1≤(D.take n.toNat).length∧(D.take n.toNat).length≤100000)∧(D.drop n.toNat).length≤100000),true),(decide (0≤n∧n≤((D.length:Nat):Int)),true),(decide (0≤n∧n≤((D.length:Nat):Int)),true),(decide (((D.length:Nat):Int)≤n),false)]
theorem Z16 (D:List UInt8) (e n m:Int) (mn:Bool):Zs (Zf (Ze prog Zi ZqU true) 100 39 [vDc D e,.int .i64 n,.bool mn,.int .i64 m] [cmp false,sam true,sam true,cmp true,sam true]) (vDc ((ZaL (D.take n.toNat)).take n.toNat) (i64.wrap (i64.wrap (e+(((ZaL (D.take n.toNat)).length:Nat):Int))-n))) ((decide (0≤n∧n≤(((ZaL (D.take n.toNat)).length:Nat):Int)),true)::(ZF 10 (D.take n.toNat),true)::(decide ((D.take n.toNat).length≤100000),true)::Z3k D e n m mn true):=by and_intros<;>kernel_rfl
theorem Z17 (D:List UInt8) (e n m:Int) (mn:Bool):Zs (Zf (Ze prog Zi ZqU true) 100 39 [vDc D e,.int .i64 n,.bool mn,.int .i64 m] [cmp false,sam true,sam true,cmp false,sam true]) (vDc ((D.take n.toNat).take n.toNat) (i64.wrap (i64.wrap (e+(((D.take n.toNat).length:Nat):Int))-n))) ((decide (0≤n∧n≤(((D.take n.toNat).length:Nat):Int)),true)::Z3k D e n m mn false):=by and_intros<;>kernel_rfl
theorem Znz {l:List UInt8}:l.length≤(ZaL l).length∧(ZaL l).length≤l.length+1:=by
 have h:=Zfy 57 l;unfold ZaL;split
 ·rename_i c;rw[c,List.length_cons,List.length_replicate,List.length_nil];omega
 ·rename_i c;have hp:0<(trC 57 l).length:=List.length_pos_iff.2 c;rw[List.length_append,List.length_append,List.length_take,List.length_replicate,List.length_singleton];omega
theorem Zka (D:List UInt8) (e:Int) (n:Nat) (m:Int) (mn:Bool) (h1:ZF 10 D=true) (h2:1≤D.length∧D.length≤90000) (h3:1≤n∧n≤1000) (h4: -100000≤e∧e≤100000) (w:World):Calls prog 39 #[vDc D e,.int .i64 n,.bool mn,.int .i64 m] w fun r w'=>r= .returned (vDc (rnD D e n mn m).1 (rnD D e n mn m).2)∧zi w w':=by
 have hT:=Zd ZqV;unfold rnD;by_cases hc:D.length≤n
 ·rw[if_pos hc];have f:=Z15 D e n m mn;have ew:i64.wrap ((n:Int)-((D.length:Nat):Int))=((n-D.length:Nat):Int):=by rw[Zv (by omega) (by omega)];omega
  rw[ew,Xg] at f;exact Zb hT f (Za (Xa (by rw[List.length_replicate];omega)) (Za (Xa (by omega)) (Zy (Xa (by omega))))) (by rfl) (by rfl) w
 ·rw[if_neg hc];have lt:(D.take n).length=n:=by rw[List.length_take];omega
  have ld:(D.drop n).length=D.length-n:=List.length_drop;have ha:ZF 10 (D.take n)=true:=by
   unfold ZF at*;rw[List.all_eq_true] at*;exact fun x hx=>h1 x (List.mem_of_mem_take hx)
  have kg:∀ d,Zo6 m mn (D.take n) (D.drop n)=d→Zo (Z3k D e n m mn d):=fun d hd=>by
   unfold Z3k;rw[Xg];exact Za hd (Za ha (Za (Xa (by omega)) (Za (Xa (by omega)) (Za (Xa (by omega)) (Zy (Xb (by omega)))))))
  cases hu:Zo6 m mn (D.take n) (D.drop n) with
  | true=>
   rw[if_pos rfl];obtain⟨n1,n2⟩:=Znz (l:=D.take n);have f:=Z16 D e n m mn;rw[Xg,Zv (n:=e+(((ZaL (D.take n)).length:Nat):Int)) (by omega) (by omega),Zv (by omega) (by omega)] at f;exact Zb hT f (Za (Xa (by omega)) (Za ha (Za (Xa (by omega)) (kg true hu)))) (by rfl) (by rfl) w
  | false=>
   rw[if_neg (by decide)];have f:=Z17 D e n m mn;rw[Xg,Zv (n:=e+(((D.take n).length:Nat):Int)) (by omega) (by omega),Zv (by omega) (by omega)] at f;exact Zb hT f (Za (Xa (by omega)) (kg false hu)) (by rfl) (by rfl) w
def dc2:Value→Option (ByteArray×Int)
 | .agg cs=>
  match cs.toList with
  | [.string D,.int .i64 e]=>some (D,e)
  | _=>none
 | _=>none
theorem Zja {v:Value}{D:ByteArray}{e:Int}(h:dc2 v=some (D,e)):v=vDc D.data.toList e:=by
 unfold dc2 at h;split at h
 ·rename_i cs;split at h
  ·rename_i hc;cases h;obtain⟨l⟩:=cs;simp only at hc;subst hc;rfl
  ·cases h
 ·cases h
def Zn0:Ans:=fun vals s=>
 match vals with
 | [v,.int .i64 n,.bool mn,.int .i64 m]=>
  match dc2 v with
  | some (D,e)=>some (vDc (rnD D.data.toList e n.toNat mn m).1 (rnD D.data.toList e n.toNat mn m).2,s,[(ZF 10 D.data.toList,true),(decide ((1≤D.data.toList.length∧D.data.toList.length≤90000)∧(1≤n∧n≤1000)∧(-100000≤e∧e≤100000)),true)])
  | none=>none
 | _=>none
theorem Zn1:ZC 39 Zn0:=by
 intro vals s v s' lg h hl w;unfold Zn0 at h;split at h
 ·split at h
  ·rename_i v0 n mn m o D e hv;rw[Zja hv];cases h;have l1:ZF 10 D.data.toList=true:=hl _ Xe;obtain⟨l2,l3,l4⟩:=Xc (hl _ (Xd _ Xf));obtain⟨k,rfl⟩:∃ k:Nat,n=k:=⟨n.toNat,by omega⟩;exact Zka _ e k m mn l1 l2 (by omega) l4 w
  ·cases h
 ·cases h
end Go.Proofs.YtgefjidphfdhdaaGreatDoor
namespace Go.Proofs.YtgefjidphfdhdaaGreatDoor
open Go.KRun Go.Nt Go.Rd
set_option maxRecDepth 100000
theorem ZqW {f:Nat}:∀ {V:Nat},V<10^(f+1)→ZaT V=Zbs (f+1) V:=by
 have lt:∀ x:Nat,UInt8.ofNat (asc ((x:Nat):Int)).toNat=chD x:=fun x=>by unfold asc chD;congr 1
 induction f with
 | zero=>
  intro V h;have h10:V<10:=by simpa using h
  unfold Zbs;rw[if_pos h10];unfold ZaT Zyk;by_cases h0:V=0
  ·rw[if_pos h0,h0];rfl
  ·rw[if_neg h0,Zcd (by omega) h0,show V/10=0 by omega,zp,Nat.mod_eq_of_lt h10];show [UInt8.ofNat (asc ((V:Nat):Int)).toNat]=[chD V];rw[lt]
 | succ f ih=>
  intro V h;unfold Zbs;by_cases h10:V<10
  ·rw[if_pos h10];unfold ZaT Zyk;by_cases h0:V=0
   ·rw[if_pos h0,h0];rfl
   ·rw[if_neg h0,Zcd (by omega) h0,show V/10=0 by omega,zp,Nat.mod_eq_of_lt h10];show [UInt8.ofNat (asc ((V:Nat):Int)).toNat]=[chD V];rw[lt]
  ·rw[if_neg h10];have h1:=ih (V:=V/10) (by rw[Nat.pow_succ] at h;omega);rw[← h1];unfold ZaT Zyk;rw[if_neg (by omega),if_neg (by omega),Zcd (b:=10) (V:=V) (by omega) (by omega),List.reverse_cons,List.map_append];show _++[UInt8.ofNat (asc ((V % 10:Nat):Int)).toNat]=_;rw[lt]
end Go.Proofs.YtgefjidphfdhdaaGreatDoor
namespace Go.Proofs.YtgefjidphfdhdaaGreatDoor
open Go.Proofs.Tryz
open Go.IntKind
open Go.KRun Go.Nt Go.Rd Go.Wd
set_option maxRecDepth 100000
def Z5d:Hc:=zJ 76 Na.ZlP (zJ 77 Na.ZlM (zJ 127 Na.Zyj (zJ 132 Na.Zew (zJ 79 Na.ZzH (zJ 80 Na.gDc hcN)))))
theorem ZwG:HcOk Z5d:=Zq func76 rfl Na.ZeX (Zq func77 rfl Na.ZeW (Zq func127 rfl Na.ZeU (Zq func132 rfl Na.Zcg (Zq func79 rfl Na.Zhj (Zq func80 rfl Na.Z0Q zo)))))
theorem Z5e:TabOk (Zx prog Zi Zn Z5d):=Z3 Zh ZwG
def r14 (m V:Nat):List Value×TypeId:=(wU (dg m (V:Int)),tU)
def t14 (m V:Nat):Nat:=Zg (dg m (V:Int))
def a14 (k:Nat):Option Addr:=some ⟨k,0,none⟩
def mx0 (a:Int):Int:=if 0>a then 0 else a
def mn0 (a:Int):Int:=if 0<a then 0 else a
def Zkb (b j:Int) (P:Nat) (l:Log):Log:=(decide (((b.toNat^j.toNat:Nat):Int)=(P:Int)),true)::(Na.Zvf b j,true)::(decide (b=0∧1≤j),false)::l
def Zn2 (H:Hp) (p:Option Addr) (n c:Nat) (k:Int) (S:Nat) (l:Log):Log:=(decide (Zgb (Zm H p n) k.toNat=dg (Na.sM n k) (S:Int)),true)::(Na.zg H p n c,true)::(Na.ZH (Zm H p n) || decide (k<0),false)::(decide (n=0),false)::(decide (k>262144-Na.ZcN (Zm H p n)),false)::l
def ZwH (H:Hp) (p q:Option Addr) (n c n' c' T:Nat) (l:Log):Log:=(decide (Na.ZgK (Zm H p n) (Zm H q n')=dg (n+n') (T:Int)),true)::(Na.zg H p n c,true)::(Na.zg H q n' c',true)::(!decide (n=0∨n'=0) && Nat.ble (n+n') 8192,true)::(Na.zg H p n c,true)::(Na.zg H q n' c',true)::(Na.ZH (Zm H p n) || Na.ZH (Zm H q n'),false)::l
def Z5f (H:Hp) (p:Option Addr) (n c:Nat) (b:List UInt8) (l:Log):Log:=(Na.zg H p n c,true)::(Na.ZH (Zm H p n),false)::(decide (ZaT (Na.Zsn H p n)=b),true)::l
def Z5g (m:Bool) (c e q:Int):List (List Value×TypeId):=[([bR [],.int .i64 0],49),([.bool m,.int .i64 c,.int .i64 e,.int .u64 q],44)]
def Zkm (e:Int):Int:=mx0 (i64.wrap (0-e))
def ZqX (m:Bool) (c e q:Int) (P:Nat):Hp:=⟨3,r14 (Na.pMi 5 (Zkm e)) P::Z5g m c e q⟩
def Zkn (e:Int) (P:Nat):Nat:=Na.sM (t14 (Na.pMi 5 (Zkm e)) P) (mx0 e)
def ZwI (m:Bool) (c e q:Int) (P S:Nat):Hp:=⟨5,(wU (dg 2 q),tU)::r14 (Zkn e P) S::r14 (Na.pMi 5 (Zkm e)) P::Z5g m c e q⟩
def ZqY (e q:Int) (P S:Nat):Nat:=Zg (dg 2 q)+t14 (Zkn e P) S
def Z18 (m:Bool) (c e q:Int) (P S T:Nat):Hp:=⟨6,r14 (ZqY e q P S) T::(wU (dg 2 q),tU)::r14 (Zkn e P) S::r14 (Na.pMi 5 (Zkm e)) P::Z5g m c e q⟩
theorem Z75 (m:Bool) (c e q:Int) (P S T:Nat) (b:List UInt8):Zs (Zf (Zx prog Zi Zn Z5d) 200 40 [vP m c e q] [cmp false,cmp false,num P,cmp false,cmp false,cmp false,num S,cmp false,cmp false,num T,cmp false,val (bR b)]) (vDc b (i64.wrap (i64.wrap (((b.length:Nat):Int)-1)+mn0 e)))
  (Z5f (Z18 m c e q P S T) (a14 5) (t14 (ZqY e q P S) T) (ZqY e q P S) b (ZwH (ZwI m c e q P S) (a14 4) (a14 3) (Zg (dg 2 q)) 2 (t14 (Zkn e P) S) (Zkn e P) T ((decide (0≤q∧q<18446744073709551616),true)::Zn2 (ZqX m c e q P) (a14 2) (t14 (Na.pMi 5 (Zkm e)) P) (Na.pMi 5 (Zkm e)) (mx0 e) S (Zkb 5 (Zkm e) P [])))):=by and_intros<;>kernel_rfl
theorem ZcD {W:Nat}(h:W≠0):1≤(ZaT W).length∧10^((ZaT W).length-1)≤W∧W<10^(ZaT W).length:=by
 have e:(ZaT W).length=(db 10 W).length:=by
  unfold ZaT Zyk;rw[if_neg h,List.length_map,List.length_reverse]
 rw[e];have h1:=(Zc4 (b:=10) (by omega)).2 (show 0<W by omega);refine⟨h1,?_,?_⟩
 ·rcases Nat.lt_or_ge W (10^((db 10 W).length-1)) with c | c
  ·have:=ZcL (b:=10) (by omega) _ _ c;omega
  ·exact c
 ·have:=Zd6 (b:=10) (by omega) (db 10 W) (ZeM (by omega) W);rw[Zbi (by omega) W] at this;exact this
theorem Zg6 {W:Nat}(h:W≠0):ZaT W=Zbs (ZaT W).length W:=by
 obtain⟨h1,_,h3⟩:=ZcD h;have:=ZqW (f:=(ZaT W).length-1) (V:=W) (by rw[show (ZaT W).length-1+1=(ZaT W).length by omega];exact h3);rw[show (ZaT W).length-1+1=(ZaT W).length by omega] at this;exact this
theorem ZcE (a:Int):mx0 a=((a.toNat:Nat):Int):=by unfold mx0;split<;>omega
theorem Ze9 {b:Nat}(hb:b≤10) (k:Nat):b^k<4294967296^(k/9+1):=Nat.lt_of_le_of_lt (Nat.pow_le_pow_left hb k) (Na.Zfo k)
theorem ZwJ {H:Hp}{i b k:Nat}(hb:b=10∨b=5) (hk:k≤2000) (hi:H.blk? i=some (r14 (Na.pMi (b:Nat) (k:Nat)) (b^k))):Na.IsR H (a14 i) (t14 (Na.pMi (b:Nat) (k:Nat)) (b^k)) (Na.pMi (b:Nat) (k:Nat)) (b^k)∧(Na.d32 (b^k)).length≤k/9+1:=by
 have hw:∀ j,j≤k→Na.nw (b^j)≤400:=fun j hj=>by
  have h1:=Ze9 (b:=b) (by omega) j;have:=Na.ZcW h1;omega
 have e:Na.pMi (b:Nat) (k:Nat)=Na.pM b k:=rfl;have h:b^k<4294967296^Na.pM b k∧Na.pM b k≤1000:=by
  by_cases h0:k=0
  ·subst h0;exact⟨by rw[Nat.pow_zero];show 1<4294967296^2;decide,by show 2≤1000;decide⟩
  ·exact Na.Zvd hw (by omega) (Nat.le_refl _) (by omega)
 rw[e] at hi ⊢;exact⟨Na.Zex hi h.1 h.2,Na.ZcW (Ze9 (by omega) k)⟩
theorem Zf2 {b k:Nat}(hb:b=10∨b=5) (hk:k≤2000) {l:Log}(hl:Zo l):Zo (Zkb (b:Nat) (k:Nat) (b^k) l):=by
 refine Za (Xa rfl) (Za ?_ (Za (Xb (by omega)) hl));exact Xa ⟨by omega,by omega,by omega,.inr ⟨by omega,by omega⟩⟩
theorem Zn3 {m V:Nat}(hV:V<4294967296^m) (hm:m≤1000):t14 m V=(Na.d32 V).length:=(Na.Zex (H:=⟨1,[r14 m V]⟩) (b:=0) rfl hV hm).2.2.2.1
theorem Zf3 {H:Hp}{p:Option Addr}{n c V:Nat}(r:Na.IsR H p n c V) (h0:V≠0) {k:Nat}(hk:k≤200000) {l:Log}(hl:Zo l):Zo (Zn2 H p n c (k:Nat) (V*2^k) l):=
 Za (Na.Z6R r k) (Za (Na.rX r) (Za (Na.Z0N r k) (Za (Na.rNe r h0) (Za (Na.Z6S r h0 hk) hl))))
theorem ZwK {V k n:Nat}(h:V<4294967296^n):V*2^k<4294967296^Na.sM n (k:Nat):=Na.ZsK h
theorem Zyo (n k:Nat):Na.sM n (k:Nat)=k/32+(n+1):=by unfold Na.sM;rw[Xg]
theorem Zjb {H:Hp}{p q:Option Addr}{n c n' c' V W:Nat}(r:Na.IsR H p n c V) (g:Na.IsR H q n' c' W) (h0:V≠0) (h1:W≠0) {l:Log}(hl:Zo l):Zo (ZwH H p q n c n' c' (V*W) l):=by
 have p1:=Na.zX h0;have p2:=Na.zX h1;have e1:=r.2.2.2.1;have e2:=g.2.2.2.1;have b1:=r.2.2.2.2;have b2:=g.2.2.2.2;refine Za (Na.Zsw r g) (Za (Na.rX r) (Za (Na.rX g) (Za ?_ (Za (Na.rX r) (Za (Na.rX g) (Za (Na.rOr r g) hl))))));rw[Xb (by omega),Nat.ble_eq_true_of_le (by omega)];rfl
theorem Z19 {V W n n':Nat}(h:V<4294967296^n) (h':W<4294967296^n'):V*W<4294967296^(n+n'):=by rw[Nat.pow_add];exact Nat.mul_lt_mul'' h h'
theorem Z6U {H:Hp}{i q:Nat}(hq:q<18446744073709551616) (hi:H.blk? i=some (wU (dg 2 (q:Int)),tU)):Na.IsR H (a14 i) (Zg (dg 2 (q:Int))) 2 q∧(Na.d32 q).length≤2:=⟨Na.Zex hi (by show q<4294967296^2;omega) (by omega),Na.ZcW (by show q<4294967296^2;omega)⟩
theorem Z1A {H:Hp}{p:Option Addr}{n c V:Nat}(r:Na.IsR H p n c V):Na.Zsn H p n=V:=by
 unfold Na.Zsn;rw[r.2.2.1];exact Zbi (by omega) V
theorem Zn4 {S:Nat}{E:Int}(hS:S<9007199254740992) (hE: -1074≤E∧E≤972) (K:Nat) (hK:K=1074):ZdU S E<10^(16+K):=by
 unfold ZdU;rw[Nat.pow_add];refine Nat.mul_lt_mul_of_lt_of_le (Nat.lt_of_lt_of_le hS (by decide)) ?_ (Nat.pow_pos (by omega));by_cases h:E≤0
 ·rw[show E.toNat=0 by omega,Nat.pow_zero,Nat.mul_one];refine Nat.le_trans (Nat.pow_le_pow_left (show 5≤10 by omega) _) (Nat.pow_le_pow_right (by omega) (by unfold wzN;omega))
 ·rw[show wzN E=0 by unfold wzN;omega,Nat.pow_zero,Nat.one_mul];refine Nat.le_trans (Nat.pow_le_pow_left (show 2≤10 by omega) _) (Nat.pow_le_pow_right (by omega) (by omega))
theorem Zkc (m:Bool) (c E:Int) (q:Nat) (h0:q≠0) (hq:q<9007199254740992) (hE: -1074≤E∧E≤972) (w:World):Calls prog 40 #[vP m c E q] w fun r w'=>r= .returned (vDc (ZaT (ZdU q E)) (((ZaT (ZdU q E)).length:Int)-1-(wzN E:Nat)))∧zi w w':=by
 obtain⟨z,hz⟩:∃ z,z=wzN E:=⟨_,rfl⟩;obtain⟨k,hk⟩:∃ k,k=E.toNat:=⟨_,rfl⟩;have ez:Zkm E=((z:Nat):Int):=by unfold Zkm;rw[Zv (by omega) (by omega),ZcE,hz];unfold wzN;omega
 have ek:mx0 E=((k:Nat):Int):=by rw[ZcE,hk]
 have z1:z≤1074:=by rw[hz];unfold wzN;omega
 have k1:k≤972:=by omega
 obtain⟨P,hP⟩:∃ P,P=5^z:=⟨_,rfl⟩;obtain⟨S,hS⟩:∃ S,S=P*2^k:=⟨_,rfl⟩;obtain⟨W,hW⟩:∃ W,W=ZdU q E:=⟨_,rfl⟩;have eW:W=q*S:=by rw[hW,hS,hP];unfold ZdU;rw[← hz,← hk]
 have hP0:P≠0:=by rw[hP];have:=Zdl z;omega
 have hS0:S≠0:=by rw[hS];exact Zah hP0 (fun c=>by have:=Nat.pow_pos (n:=k) (show 0<2 by omega);omega)
 have hW0:W≠0:=by rw[eW];exact Zah h0 hS0
 obtain⟨K,hK⟩:∃ K,K=1074:=⟨_,rfl⟩;have hWl:=Zn4 hq hE K hK;rw[← hW] at hWl ⊢;rw[← hz];obtain⟨l1,l2,l3⟩:=ZcD hW0;have lb:(ZaT W).length≤16+K:=by
  rcases Nat.lt_or_ge (16+K) (ZaT W).length with c | c
  ·have:=Nat.pow_le_pow_right (n:=10) (by omega) (show 16+K≤(ZaT W).length-1 by omega);omega
  ·exact c
 have f:=Z75 m c E q P S W (ZaT W);have ev:i64.wrap (i64.wrap ((((ZaT W).length:Nat):Int)-1)+mn0 E)=((ZaT W).length:Int)-1-(z:Nat):=by
  have e1:mn0 E= -((z:Nat):Int):=by rw[hz];unfold mn0 wzN;split<;>omega
  rw[e1,Zv (n:=(((ZaT W).length:Nat):Int)-1) (by omega) (by omega),Zv (by omega) (by omega)];omega
 rw[ev] at f;obtain⟨rP,lP⟩:=ZwJ (H:=ZqX m c E q P) (i:=2) (b:=5) (k:=z) (.inr rfl) (by omega) (by rw[← hP];unfold ZqX;rw[ez];rfl);rw[← hP] at rP lP;have eP:t14 (Na.pMi 5 (z:Nat)) P=(Na.d32 P).length:=rP.2.2.2.1;have eSm:Zkn E P=k/32+((Na.d32 P).length+1):=by unfold Zkn;rw[ez,ek,eP,Zyo]
 have hSl:S<4294967296^Zkn E P:=by
  have:=ZwK (k:=k) (Na.Zal P);rw[Zyo,← hS] at this;rw[eSm];exact this
 have hSm:Zkn E P≤200:=by omega
 have eS:=Zn3 hSl (by omega);have sl:(Na.d32 S).length≤Zkn E P:=Na.ZcW hSl;have rS:Na.IsR (ZwI m c E q P S) (a14 3) (t14 (Zkn E P) S) (Zkn E P) S:=Na.Zex rfl hSl (by omega);obtain⟨rQ,lQ⟩:=Z6U (H:=ZwI m c E q P S) (i:=4) (q:=q) (by omega) rfl;have hTl:W<4294967296^ZqY E q P S:=by
  have:=Z19 (Na.Zal q) (Na.Zal S);rw[← eW] at this;unfold ZqY;rw[rQ.2.2.2.1,eS];exact this
 have hTm:ZqY E q P S≤1000:=by unfold ZqY;rw[rQ.2.2.2.1,eS];omega
 have rT:Na.IsR (Z18 m c E q P S W) (a14 5) (t14 (ZqY E q P S) W) (ZqY E q P S) W:=Na.Zex rfl hTl hTm;refine Zb Z5e f (Za (Na.rX rT) (Za rT.good (Za (Xa (by rw[Z1A rT])) ?_))) (by rfl) (by rfl) w;have hd:=Zjb rQ rS h0 hS0 (l:=(decide ((0:Int)≤(q:Nat)∧((q:Nat):Int)<18446744073709551616),true)::Zn2 (ZqX m c E q P) (a14 2) (t14 (Na.pMi 5 (Zkm E)) P) (Na.pMi 5 (Zkm E)) (mx0 E) S (Zkb 5 (Zkm E) P [])) (Za (Xa (by omega)) ?_)
 ·rw[← eW] at hd;exact hd
 ·rw[ez,ek];have hs:=Zf3 rP hP0 (k:=k) (by omega) (l:=Zkb 5 ((z:Nat):Int) P []) ?_
  ·rw[← hS] at hs;exact hs
  ·have:=Zf2 (b:=5) (k:=z) (l:=[]) (.inr rfl) (by omega) Zbu;rw[← hP] at this;exact this
def ZwL:Ans:=fun vals s=>
 match vals with
 | [v]=>
  match vP4 v with
  | some (_,_,E,q)=>some (vDc (ZaT (ZdU q.toNat E)) (((ZaT (ZdU q.toNat E)).length:Int)-1-(wzN E:Nat)),s,[(decide (1≤q∧q<9007199254740992∧ -1074≤E∧E≤972),true)])
  | none=>none
 | _=>none
theorem ZqZ:ZC 40 ZwL:=by
 intro vals s v s' lg h hl w;unfold ZwL at h;split at h
 ·split at h
  ·rename_i o m c E q hv;rw[Zcq hv];cases h;obtain⟨h1,h2,h3,h4⟩:=Xc (hl _ Xf);obtain⟨k,rfl⟩:∃ k:Nat,q=k:=⟨q.toNat,by omega⟩;exact Zkc m c E k (by omega) (by omega) ⟨h3,h4⟩ w
  ·cases h
 ·cases h
end Go.Proofs.YtgefjidphfdhdaaGreatDoor
namespace Go.KRun
open Go.IntKind
open Go.RowKit
theorem Zn5 {T:Tab}(hT:TabOk T) {h0:Hp}{n f:Nat}{vals:List Value}{s:List Dec}{v:Value}{cs:Log}(hF:Zs (ZE T h0 n f vals s) v cs) (hcs:Zo cs) (hvals:(vals.all (lt h0.n))=true) (hv:lt 0 v=true) (hr:h0.rows) {m:Mp}{B:Nat}{h:Hp}{w:World}(E:Emb m B h w) {σ:Nat→Nat}(hf:h0.fits σ h):
  Calls T.P f ((vals.map (rn σ)).map (mv m)).toArray w fun e w'=>∃ m',e= .returned (mv m' v)∧Came m B h w v h m' w':=by
 have ev:(vals.map (rn σ)).map (mv m)=vals.map (mv fun i=>m (σ i)):=by
  rw[List.map_map];exact List.map_congr_left fun y _=>Zcx m σ y
 rw[ev];refine (ZcM hT hF hcs hvals hv (E.small hr hf)).mono fun e w' he=> ?_;obtain⟨E',hb⟩:=ZQ E he.2;exact⟨m,by rw[he.1,Z2 hv],⟨Agree.refl _ _,E',hb,Nat.le_refl _,zh (Nat.zero_le _) hv⟩⟩
end Go.KRun
namespace Go.Proofs.YtgefjidphfdhdaaGreatDoor
open Go.Proofs.Tryz
open Go.IntKind
open Go.KRun Go.Nt Go.Rd Go.Wd Go.Pt
set_option maxRecDepth 100000
def Z5h:Hc:=zJ 127 Na.Zyj (zJ 132 Na.Zew (zJ 79 Na.ZzH (zJ 152 Na.Z3b hcN)))
theorem ZwM:HcOk Z5h:=Zq func127 rfl Na.ZeU (Zq func132 rfl Na.Zcg (Zq func79 rfl Na.Zhj (Zq func152 rfl Na.ZlH zo)))
theorem Z5i:TabOk (Zx prog Zi Zn Z5h):=Z3 Zh ZwM
def Z5j (la lb:List Value) (o n c o' n' c':Nat) (x:Int):Hp:=⟨4,[(wU (dg 2 x),tU),([sl 0 o n c,sl 1 o' n' c'],168),(lb,tR),(la,tR)]⟩
def tiT (x:Int) (n:Nat):Nat:=Zg (dg 2 x)+n
def Z5k (la lb:List Value) (o n c o' n' c':Nat) (x:Int) (T:Nat):Hp:=⟨5,[r14 (tiT x n) T,(wU (dg 2 x),tU),([sl 0 o n c,sl 1 o' n' c'],168),(lb,tR),(la,tR)]⟩
def tiV (x:Int) (n n' T:Nat):Nat:=t14 (tiT x n) T-n'+1
def Z5l (H:Hp) (p q:Option Addr) (n c n' c':Nat) (Q R:Nat) (l:Log):Log:=(decide (Go.Nt.vN (Zm H p n)/Go.Nt.vN (Zm H q n')=(Q:Int)∧Go.Nt.vN (Zm H p n) % Go.Nt.vN (Zm H q n')=(R:Int)),true)::(Na.zg H p n c,true)::(Na.zg H q n' c',true)::(!(Na.ZH (Zm H p n) || Na.ZH (Zm H q n')) && decide (0<n'∧¬ ZbG (Zm H p n) (Zm H q n')<0),true)::l
def tiW (w0 w1:Int):Int:=bOr (bOr 0 (u64.wrap (u64.wrap w0*2^0))) (u64.wrap (u64.wrap w1*2^32))
theorem Z76 (la lb:List Value) (o n c o' n' c':Nat) (x:Int) (T V R:Nat) (w0 w1:Int) (d:Bool):Zs (ZE (Zx prog Zi Zn Z5h) (h2 la lb) 200 117 [.agg #[sl 0 o n c,sl 1 o' n' c'],.int .u64 x] [cmp false,cmp false,num T,cmp false,cmp false,cmp false,num V,num R,cmp true,at_,val (.int .u32 w0),cmp true,at_,val (.int .u32 w1),cmp false,cmp d]) (.tuple #[.int .u64 (tiW w0 w1),.bool d])
  ((decide (((t14 (t14 (tiT x n) T+1) R:Nat):Int)>0),d)::(decide ((2:Int)<((t14 (tiV x n n' T) V:Nat):Int)),false)::(false,false)::(Z6 (wU (dg (tiV x n n' T) (V:Int)))[1]? (.int .u32 w1),true)::(decide ((0:Int)≤1∧(1:Int)<((t14 (tiV x n n' T) V:Nat):Int)),true)::(decide ((1:Int)<((t14 (tiV x n n' T) V:Nat):Int)),true)::(false,false)::(Z6 (wU (dg (tiV x n n' T) (V:Int)))[0]? (.int .u32 w0),true)::(decide ((0:Int)≤0∧(0:Int)<((t14 (tiV x n n' T) V:Nat):Int)),true)::(decide ((0:Int)<((t14 (tiV x n n' T) V:Nat):Int)),true)::
   Z5l (Z5k la lb o n c o' n' c' x T) (a14 4) (some ⟨1,o',none⟩) (t14 (tiT x n) T) (tiT x n) n' c' V R (ZwH (Z5j la lb o n c o' n' c' x) (a14 3) (some ⟨0,o,none⟩) (Zg (dg 2 x)) 2 n c T [(decide (0≤x∧x<18446744073709551616),true)])):=by and_intros<;>kernel_rfl
theorem Z1B {ty:TypeId}{l:List Value}{o n c:Nat}(h:Zpr ty l o n c=true):Zpr tR l o n c=true:=by
 unfold Zpr at*;simp only[Xh,Bool.not_eq_true'] at*;obtain⟨⟨⟨⟨⟨⟨h1,h2⟩,h3⟩,h4⟩,h5⟩,h6⟩,h7⟩:=h;exact⟨⟨⟨⟨⟨⟨Zd0,by kernel_rfl⟩,h3⟩,h4⟩,h5⟩,h6⟩,h7⟩
theorem Z1C {h H:Hp}{b i o n c V:Nat}{x:List Value×TypeId}(r:Na.IsR h (some ⟨b,o,none⟩) n c V) (hx:h.blk? b=some x) (hH:H.blk? i=some (x.1,tR)):Na.IsR H (some ⟨i,o,none⟩) n c V:=by
 obtain⟨r1,r2,r3,r4⟩:=r;unfold Na.zg at r1;simp only[hx] at r1;unfold Zo1 at r2;simp only[hx,Xh] at r2;refine⟨?_,?_,?_,r4⟩
 ·unfold Na.zg;simp only[hH];exact Na.ZW r1
 ·unfold Zo1;simp only[hH,Xh];exact⟨Z1B r2.1,r2.2⟩
 ·rw[← r3];unfold Zm;simp only[hx,hH]
def Zo7 (H:Hp) (p:Option Addr) (n c V:Nat):Bool:=Na.zg H p n c && Zo1 H p n c && decide (Zm H p n=Na.d32 V) && decide (n=(Na.d32 V).length∧n≤300)
theorem Zn6 {H:Hp}{p:Option Addr}{n c V:Nat}(h:Zo7 H p n c V=true):Na.IsR H p n c V∧n≤300:=by
 unfold Zo7 at h;simp only[Xh,Xi] at h;obtain⟨⟨⟨h1,h2⟩,h3⟩,h4,h5⟩:=h;exact⟨⟨h1,h2,h3,h4,by omega⟩,h5⟩
theorem Zn7 {H:Hp}{p:Option Addr}{n c V:Nat}(h:Na.IsR H p n c V) (h3:n≤300):Zo7 H p n c V=true:=by
 unfold Zo7;simp only[Xh,Xi];exact⟨⟨⟨h.1,h.2.1⟩,h.2.2.1⟩,h.2.2.2.1,h3⟩
theorem Z1D {V:Nat}(h:V<18446744073709551616):tiW ((V:Int) % 4294967296) ((V:Int)/4294967296 % 4294967296)=V:=by
 unfold tiW;have w:∀ z:Int,0≤z→z<18446744073709551616→u64.wrap z=z:=fun z h0 h1=>by
  simp [IntKind.wrap,IntKind.bits,IntKind.signed];omega
 have e1:(2:Int)^0=1:=rfl;have e2:(2:Int)^32=4294967296:=rfl;rw[e1,e2,Int.mul_one,w ((V:Int) % 4294967296) (by omega) (by omega),w _ (by omega) (by omega),w ((V:Int)/4294967296 % 4294967296) (by omega) (by omega),w _ (by omega) (by omega)];have o1:bOr 0 ((V:Int) % 4294967296)=(V:Int) % 4294967296:=by
  have:=or_low (p:=0) (q:=(V:Int) % 4294967296) 0 (z:=(V:Int) % 4294967296) (by omega) (by rw[show (2:Int)^0=1 from rfl];omega) (by omega) (by decide) (by omega);omega
 rw[o1,or_low 32 (z:=(V:Int)/4294967296 % 4294967296) (by omega) (by rw[e2];omega) (by omega) (by rw[e2];omega) (by omega)];omega
def Z5m:Zba:=fun vals h s=>
 match vals,s with
 | [.agg cs,.int .u64 x],.inr (.inl O):: .inr (.inl U):: .inr (.inl V):: .inr (.inr (.inr (.inl d)))::s'=>
  match cs.toList with
  | [.slice (some ⟨b,o,none⟩) n c,.slice (some ⟨b',o',none⟩) n' c']=>some (.tuple #[.int .u64 V,.bool d],h,s',[(Zo7 h (some ⟨b,o,none⟩) n c O.toNat,true),(Zo7 h (some ⟨b',o',none⟩) n' c' U.toNat,true),(decide (((x.toNat*O.toNat/U.toNat:Nat):Int)=V),true),(decide (x.toNat*O.toNat % U.toNat≠0),d),(decide (1≤x∧x<18446744073709551616∧O.toNat≠0∧U.toNat≠0∧4294967296≤V∧V<18446744073709551616),true)])
  | _=>none
 | _,_=>none
theorem ZwN:ZJ 117 Z5m:=by
 intro vals h s v h' s' lg hg hl m B w E hv;unfold Z5m at hg;split at hg
 ·rename_i cs x O U V d s2;split at hg
  ·rename_i b o n c b' o' n' c' hcs;have ecs:cs= #[sl b o n c,sl b' o' n' c']:=by
    have:=congrArg List.toArray hcs;simpa [sl] using this
   cases hg;have l1:Zo7 h (some ⟨b,o,none⟩) n c O.toNat=true:=hl _ Xe;have l2:Zo7 h (some ⟨b',o',none⟩) n' c' U.toNat=true:=hl _ (Xd _ Xe);have l3:=Xc (hl _ (Xd _ (Xd _ Xe)));have l4:decide (x.toNat*O.toNat % U.toNat≠0)=d:=hl _ (Xd _ (Xd _ (Xd _ Xe)));obtain⟨x1,x2,hO,hU,v1,v2⟩:=Xc (hl _ (Xd _ (Xd _ (Xd _ (Xd _ Xf)))));obtain⟨R1,n3⟩:=Zn6 l1;obtain⟨R2,n4⟩:=Zn6 l2;obtain⟨X,rfl⟩:∃ X:Nat,x=X:=⟨x.toNat,by omega⟩;obtain⟨O',hO'⟩:∃ O',O'=O.toNat:=⟨_,rfl⟩;obtain⟨U',hU'⟩:∃ U',U'=U.toNat:=⟨_,rfl⟩;obtain⟨V',rfl⟩:∃ V':Nat,V=V':=⟨V.toNat,by omega⟩;rw[Xg,← hO',← hU'] at l3 l4;rw[← hO'] at R1 hO;rw[← hU'] at R2 hU;rcases Na.Z5 R1.1 with ⟨c1,_⟩ | ⟨b1,o1,xa,e1,hx,r1,_⟩
   ·cases c1
   cases e1;rcases Na.Z5 R2.1 with ⟨c1,_⟩ | ⟨b1,o1,xb,e1,hy,t1,_⟩
   ·cases c1
   cases e1;obtain⟨a1,a2,a3,a4,a5,a6,a7⟩:=Z4 r1;obtain⟨d1,d2,d3,d4,d5,d6,d7⟩:=Z4 t1;have l3':X*O'/U'=V':=by omega
   have rO:Na.IsR (Z5j xa.1 xb.1 o n c o' n' c' X) (some ⟨0,o,none⟩) n c O':=Z1C R1 hx rfl;obtain⟨rQ,lQ⟩:=Z6U (H:=Z5j xa.1 xb.1 o n c o' n' c' X) (i:=3) (q:=X) (by omega) rfl;obtain⟨T,hT⟩:∃ T,T=X*O':=⟨_,rfl⟩;have X0:X≠0:=by omega
   have T0:T≠0:=by rw[hT];exact Zah X0 hO
   have nO:=R1.2.2.2.1;have nU:=R2.2.2.2.1;have eQ:=rQ.2.2.2.1;have hTl:T<4294967296^tiT X n:=by
    have:=Z19 (Na.Zal X) (Na.Zal O');rw[← hT,← eQ,← nO] at this;exact this
   have hTm:tiT X n≤302:=by unfold tiT;omega
   have rT:Na.IsR (Z5k xa.1 xb.1 o n c o' n' c' X T) (a14 4) (t14 (tiT X n) T) (tiT X n) T:=Na.Zex rfl hTl (by omega);have rU:Na.IsR (Z5k xa.1 xb.1 o n c o' n' c' X T) (some ⟨1,o',none⟩) n' c' U':=Z1C R2 hy rfl;have eT:=rT.2.2.2.1;rw[← hT] at l3' l4;have hle:U'≤T:=by
    rcases Nat.lt_or_ge T U' with c0 | c0
    ·rw[Nat.div_eq_of_lt c0] at l3';omega
    ·exact c0
   have hsl:=Na.ZsM hle;have hVl:V'<4294967296^tiV X n n' T:=by
    have:=Na.ZsL hU hsl;rw[l3'] at this;unfold tiV;rw[eT,nU];exact this
   have hVm:tiV X n n' T≤400:=by unfold tiV;have:t14 (tiT X n) T≤tiT X n:=by {have:=za (dg (tiT X n) (T:Int));rw[ZB] at this;exact this};omega
   have eV:=Zn3 hVl (by omega);have wV:(Na.d32 V').length=2:=by
    have h1:(Na.d32 V').length≤2:=Na.ZcW (by show V'<4294967296^2;omega);have h2:V'<4294967296^(Na.d32 V').length:=Na.Zal V';rcases (show (Na.d32 V').length=0∨(Na.d32 V').length=1∨(Na.d32 V').length=2 by omega) with c0 | c0 | c0
    ·rw[c0,Nat.pow_zero] at h2;omega
    ·rw[c0,Nat.pow_one] at h2;omega
    ·exact c0
   rw[wV] at eV;have hRl:T % U'<4294967296^(t14 (tiT X n) T+1):=by
    have h2:T % U'<T+1:=Nat.lt_succ_of_le (Nat.mod_le _ _);refine Nat.lt_of_lt_of_le h2 ?_;rw[eT,Nat.pow_succ];have:=Na.Zal T;show T+1≤_;have e3:(Na.d32 T).length=(Na.d32 T).length:=rfl;omega
   have tl1:t14 (tiT X n) T≤302:=by have:=za (dg (tiT X n) (T:Int));rw[ZB] at this;unfold t14;omega
   have eR:=Zn3 hRl (by omega);have hd:decide (((t14 (t14 (tiT X n) T+1) (T % U'):Nat):Int)>0)=d:=by
    rw[eR,← l4];by_cases hz:T % U'=0
    ·have h2:(Na.d32 (T % U')).length=0:=by rw[hz];show (db 4294967296 0).length=0;rw[zp];rfl
     rw[h2,Xb (show ¬ (T % U'≠0) from fun h=>h hz)];rfl
    ·have:=Na.zX hz;rw[Xa hz];exact Xa (by omega)
   obtain⟨kv,hkv⟩:∃ k,tiV X n n' T=k+2:=by
    refine⟨tiV X n n' T-2,?_⟩;have:=za (dg (tiV X n n' T) (V':Int));rw[ZB] at this;have e4:Zg (dg (tiV X n n' T) (V':Int))=2:=eV;omega
   have c0:Z6 (wU (dg (tiV X n n' T) (V':Int)))[0]? (.int .u32 ((V':Int) % 4294967296))=true:=by
    rw[hkv];show Z6 (some (.int .u32 ((V':Int) % 4294967296))) (.int .u32 ((V':Int) % 4294967296))=true;simp [Z6]
   have c1:Z6 (wU (dg (tiV X n n' T) (V':Int)))[1]? (.int .u32 ((V':Int)/4294967296 % 4294967296))=true:=by
    rw[hkv];show Z6 (some (.int .u32 ((V':Int)/4294967296 % 4294967296))) (.int .u32 ((V':Int)/4294967296 % 4294967296))=true;simp [Z6]
   have f:=Z76 xa.1 xb.1 o n c o' n' c' X T V' (T % U') ((V':Int) % 4294967296) ((V':Int)/4294967296 % 4294967296) d;rw[Z1D (by omega)] at f;have hdv:=Na.Z6P rT rU;rw[l3'] at hdv;have hpd:=Zjb rQ rO X0 hO (l:=[(decide ((0:Int)≤(X:Nat)∧((X:Nat):Int)<18446744073709551616),true)]) (Zy (Xa (by omega)));rw[← hT] at hpd;have pU:=Na.zX hU;have fin:=Zn5 Z5i f (Za hd (Za (Xb (by rw[eV];decide)) (Za rfl (Za c1 (Za (Xa (by rw[eV];decide)) (Za (Xa (by rw[eV];decide)) (Za rfl (Za c0 (Za (Xa (by rw[eV];decide)) (Za (Xa (by rw[eV];decide)) (Za hdv (Za (Na.rX rT) (Za (Na.rX rU) (Za (Na.rG rT rU (by omega) hle) hpd)))))))))))))) (by rfl) (by rfl) (Zj1 a7 d7) E (σ:=Zkl b b') (Zet hx a5 a6 hy d5 d6);have evals:List.map (rn (Zkl b b')) [.agg #[sl 0 o n c,sl 1 o' n' c'],.int .u64 X]=[.agg cs,.int .u64 X]:=by
    rw[ecs];simp [rn,rn2,rn1,sl,Zkl]
   rw[evals] at fin;exact fin
  ·cases hg
 ·cases hg
end Go.Proofs.YtgefjidphfdhdaaGreatDoor
namespace Go.Proofs.YtgefjidphfdhdaaGreatDoor
open Go.Proofs.Tryz
open Go.KRun Go.Wd
def vW (x:W4):Value:= .agg #[.int .u64 x.a,.int .u64 x.b,.int .u64 x.c,.int .u64 x.d]
def w4:Value→Option W4
 | .agg cs=>
  match cs.toList with
  | [.int .u64 a,.int .u64 b,.int .u64 c,.int .u64 d]=>some ⟨a,b,c,d⟩
  | _=>none
 | _=>none
theorem ZdN {v:Value}{x:W4}(h:w4 v=some x):v=vW x:=by
 unfold w4 at h;split at h
 ·rename_i cs;split at h
  ·rename_i a b c d hc;cases h;obtain⟨l⟩:=cs;simp only at hc;subst hc;rfl
  ·cases h
 ·cases h
def g2 (k:W4→W4→List Dec→Option (Value×List Dec×Log)):Ans:=fun vals s=>
 match vals with
 | [x,y]=>
  match w4 x,w4 y with
  | some a,some b=>
   match k a b s with
   | some r=>some (r.1,r.2.1,(decide (a.ok∧b.ok),true)::r.2.2)
   | none=>none
  | _,_=>none
 | _=>none
theorem Z5n {f:Nat}{k:W4→W4→List Dec→Option (Value×List Dec×Log)}
  (hk:∀ x y:W4,x.ok→y.ok→∀ s v s' lg,k x y s=some (v,s',lg)→Zo lg→∀ w,Calls prog f #[vW x,vW y] w fun e w'=>e= .returned v∧zi w w'):ZC f (g2 k):=by
 intro vals s v s' lg h hl w;unfold g2 at h;split at h
 ·split at h
  ·rename_i a b ha hb;split at h
   ·rename_i r hr;cases h;have h1:=hl _ (Xe);simp only[Xi] at h1;rw[ZdN ha,ZdN hb];exact hk a b h1.1 h1.2 s r.1 r.2.1 r.2.2 hr (fun p hp=>hl p (Xd _ hp)) w
   ·cases h
  ·cases h
 ·cases h
def Zjc (k:W4→W4→Value):W4→W4→List Dec→Option (Value×List Dec×Log):=fun x y s=>some (k x y,s,[])
theorem Zg7 {f:Nat}{k:W4→W4→Value}(hk:∀ x y:W4,x.ok→y.ok→∀ w,Calls prog f #[vW x,vW y] w fun e w'=>e= .returned (k x y)∧zi w w'):ZC f (g2 (Zjc k)):=
 Z5n fun x y hx hy s v s' lg h _ w=>by
  unfold Zjc at h;cases h;exact hk x y hx hy w
def okA (x y c:Int):Bool×Bool:=(decide (0≤x∧0≤y∧0≤c∧c≤1),true)
theorem Zra (x y:W4):Zs (Zf (Ze prog Zi Zn true) 3000 147 [vW x,vW y] []) (.tuple #[vW (Z46 x y),.bool (Z47 x y !=0)])
  [okA x.d y.d (ca x.c y.c (ca x.b y.b (ca x.a y.a 0))),okA x.c y.c (ca x.b y.b (ca x.a y.a 0)),okA x.b y.b (ca x.a y.a 0),okA x.a y.a 0]:=by and_intros<;>kernel_rfl
def ZwO (x y:W4):Value:= .tuple #[vW (W4.of (x.val+y.val)),.bool (decide (115792089237316195423570985008687907853269984665640564039457584007913129639936≤x.val+y.val))]
theorem Zg8 (x y:W4) (hx:x.ok) (hy:y.ok) (w:World):Calls prog 147 #[vW x,vW y] w fun e w'=>e= .returned (ZwO x y)∧zi w w':=by
 have h:=Zb (Zd Zh) (Zra x y) (by
  obtain⟨h1,h2,h3,h4⟩:=hx;obtain⟨k1,k2,k3,k4⟩:=hy;have b1:0≤ca x.a y.a 0∧ca x.a y.a 0≤1:=by unfold ca;omega
  have b2:0≤ca x.b y.b (ca x.a y.a 0)∧ca x.b y.b (ca x.a y.a 0)≤1:=by generalize ca x.a y.a 0=k at*;unfold ca;omega
  have b3:0≤ca x.c y.c (ca x.b y.b (ca x.a y.a 0))∧ca x.c y.c (ca x.b y.b (ca x.a y.a 0))≤1:=by generalize ca x.b y.b (ca x.a y.a 0)=k at*;unfold ca;omega
  intro p hp;simp only[List.mem_cons,List.not_mem_nil,or_false] at hp;rcases hp with rfl | rfl | rfl | rfl<;>simp only[okA,Xi]<;>omega) (by rfl) (by rfl) w
 rw[Zv5 hx hy,Zv6 hx hy] at h;exact h
end Go.Proofs.YtgefjidphfdhdaaGreatDoor
namespace Go.Proofs.YtgefjidphfdhdaaGreatDoor
open Go.Proofs.Tryz
open Go.IntKind
open Go.KRun Go.Wd
def g1n (k:W4→Int→List Dec→Option (Value×List Dec×Log)):Ans:=fun vals s=>
 match vals with
 | [x,.int .i64 n]=>
  match w4 x with
  | some a=>
   match k a n s with
   | some r=>some (r.1,r.2.1,(decide (a.ok∧ -9223372036854775808≤n∧n≤9223372036854775807),true)::r.2.2)
   | none=>none
  | none=>none
 | _=>none
theorem Ztk {f:Nat}{k:W4→Int→List Dec→Option (Value×List Dec×Log)}
  (hk:∀ (x:W4) (n:Int),x.ok→ -9223372036854775808≤n→n≤9223372036854775807→∀ s v s' lg,k x n s=some (v,s',lg)→Zo lg→∀ w,Calls prog f #[vW x,.int .i64 n] w fun e w'=>e= .returned v∧zi w w'):ZC f (g1n k):=by
 intro vals s v s' lg h hl w;unfold g1n at h;split at h
 ·split at h
  ·rename_i a ha;split at h
   ·rename_i r hr;cases h;have h1:=hl _ (Xe);simp only[Xi] at h1;rw[ZdN ha];exact hk a _ h1.1 h1.2.1 h1.2.2 s r.1 r.2.1 r.2.2 hr (fun p hp=>hl p (Xd _ hp)) w
   ·cases h
  ·cases h
 ·cases h
def ZcF (k:W4→Int→Value):W4→Int→List Dec→Option (Value×List Dec×Log):=fun x n s=>some (k x n,s,[])
theorem ZbA {f:Nat}{k:W4→Int→Value}(hk:∀ (x:W4) (n:Int),x.ok→ -9223372036854775808≤n→n≤9223372036854775807→∀ w,Calls prog f #[vW x,.int .i64 n] w fun e w'=>e= .returned (k x n)∧zi w w'):ZC f (g1n (ZcF k)):=
 Ztk fun x n hx h0 h1 s v s' lg h _ w=>by
  unfold ZcF at h;cases h;exact hk x n hx h0 h1 w
theorem Zed {p:Bool×Bool}(h:p.1=p.2):Zo [p]:=fun x hx=>by rw[List.mem_singleton.1 hx];exact h
theorem ZG {p:Bool×Bool}{l:Log}(h:p.1=p.2) (hl:Zo l):Zo (p::l):=fun x hx=>by
 rcases List.mem_cons.1 hx with rfl | hx
 ·exact h
 ·exact hl x hx
def lu (n:Int):Bool×Bool:=(decide (prt n<0),false)
def ld (n:Int):Bool×Bool:=(decide (rem n<0),false)
def lq (n k:Int):Log:=[(decide ((64:Int)=0),false),(decide (i64.wrap (n.tdiv 64)=k),true),(decide (n≥256),false),(decide (n<1),false)]
theorem ZwP (x:W4) (n:Int):Zs (Zf (Ze prog Zi Zn true) 3000 148 [vW x,.int .i64 n] [tst true]) (vW x) [(decide (n<1),true)]:=by and_intros<;>kernel_rfl
theorem Zrb (x:W4) (n:Int):Zs (Zf (Ze prog Zi Zn true) 3000 148 [vW x,.int .i64 n] [tst false,tst true]) (vW ⟨0,0,0,0⟩) [(decide (n≥256),true),(decide (n<1),false)]:=by and_intros<;>kernel_rfl
theorem Z5o (x:W4) (n:Int):Zs (Zf (Ze prog Zi Zn true) 3000 148 [vW x,.int .i64 n] [tst false,tst false,num 0]) (vW (Z03 x n)) (ld n::lu n::ld n::lu n::ld n::lu n::lu n::lq n 0):=by and_intros<;>kernel_rfl
theorem Z5p (x:W4) (n:Int):Zs (Zf (Ze prog Zi Zn true) 3000 148 [vW x,.int .i64 n] [tst false,tst false,num 1]) (vW (Z04 x n)) (ld n::lu n::ld n::lu n::lu n::lq n 1):=by and_intros<;>kernel_rfl
theorem Z5q (x:W4) (n:Int):Zs (Zf (Ze prog Zi Zn true) 3000 148 [vW x,.int .i64 n] [tst false,tst false,num 2]) (vW (Z05 x n)) (ld n::lu n::lu n::lq n 2):=by and_intros<;>kernel_rfl
theorem Z5r (x:W4) (n:Int):Zs (Zf (Ze prog Zi Zn true) 3000 148 [vW x,.int .i64 n] [tst false,tst false,num 3]) (vW (Z06 x n)) (lu n::lq n 3):=by and_intros<;>kernel_rfl
def Zee (x:W4) (n:Int):W4:=if n<1 then x else if 256≤n then ⟨0,0,0,0⟩ else W4.of (x.val*2^n.toNat)
def Zn8 (x:W4) (n:Int):Value:=vW (Zee x n)
theorem ZwQ {n:Int}(h:0≤n):(lu n).1=(lu n).2:=by
 have:=Zmt h;exact Xb (by omega)
theorem Z1E {n:Int}(h:0≤n):(ld n).1=(ld n).2:=by
 have:=Zs8 h;exact Xb (by omega)
theorem Zg9 {n k:Int}(h1:¬ n<1) (h2:¬ 256≤n) (h3:n/64=k):Zo (lq n k):=by
 refine ZG (by rfl) (ZG (Xa ?_) (ZG (Xb h2) (Zed (Xb h1))));rw[Int.tdiv_eq_ediv_of_nonneg (by omega),Zbo (by omega) (by omega)];exact h3
theorem ZdO (x:W4) (n:Int) (hx:x.ok) (_h0: -9223372036854775808≤n) (_h9:n≤9223372036854775807) (w:World):Calls prog 148 #[vW x,.int .i64 n] w fun e w'=>e= .returned (Zn8 x n)∧zi w w':=by
 unfold Zn8 Zee;by_cases h1:n<1
 ·rw[if_pos h1];exact Zb (Zd Zh) (ZwP x n) (Zed (Xa h1)) (by rfl) (by rfl) w
 ·rw[if_neg h1];by_cases h2:256≤n
  ·rw[if_pos h2];exact Zb (Zd Zh) (Zrb x n) (ZG (Xa h2) (Zed (Xb h1))) (by rfl) (by rfl) w
  ·rw[if_neg h2];have hn:0≤n:=by omega
   have u:=ZwQ hn;have d:=Z1E hn;have hj:n/64=0∨n/64=1∨n/64=2∨n/64=3:=by omega
   rcases hj with hj | hj | hj | hj
   ·rw[← Zv7 hx hn hj];exact Zb (Zd Zh) (Z5o x n) (ZG d (ZG u (ZG d (ZG u (ZG d (ZG u (ZG u (Zg9 h1 h2 hj)))))))) (by rfl) (by rfl) w
   ·rw[← Zv8 hx hn hj];exact Zb (Zd Zh) (Z5p x n) (ZG d (ZG u (ZG d (ZG u (ZG u (Zg9 h1 h2 hj)))))) (by rfl) (by rfl) w
   ·rw[← Zv9 hx hn hj];exact Zb (Zd Zh) (Z5q x n) (ZG d (ZG u (ZG u (Zg9 h1 h2 hj)))) (by rfl) (by rfl) w
   ·rw[← ZvA hx hn hj];exact Zb (Zd Zh) (Z5r x n) (ZG u (Zg9 h1 h2 hj)) (by rfl) (by rfl) w
def ZhC:Con:=alt 148 (g1n (ZcF Zn8)) Zn
theorem ZbB:ConOk ZhC:=Zr func148 rfl (ZbA ZdO) Zh
def lk (x:W4) (n:Int):Bool×Bool:=(decide (x.ok∧ -9223372036854775808≤n∧n≤9223372036854775807),true)
def Z3l (m x:W4) (n:Int):Value:= .tuple #[vW m,.bool (!(eqW (Zee m n) x))]
theorem ZwR (x:W4) (n:Int):Zs (Zf (Ze prog Zi ZhC true) 3000 191 [vW x,.int .i64 n] [tst true]) (.tuple #[vW x,.bool false]) [(decide (n<1),true)]:=by and_intros<;>kernel_rfl
theorem Zrc (x:W4) (n:Int):Zs (Zf (Ze prog Zi ZhC true) 3000 191 [vW x,.int .i64 n] [tst false,tst true]) (.tuple #[vW ⟨0,0,0,0⟩,.bool (!(eqW x ⟨0,0,0,0⟩))]) [(decide (n≥256),true),(decide (n<1),false)]:=by and_intros<;>kernel_rfl
theorem Z5s (x:W4) (n:Int):Zs (Zf (Ze prog Zi ZhC true) 3000 191 [vW x,.int .i64 n] [tst false,tst false,num 0]) (Z3l (ZvB x n) x n) (lk (ZvB x n) n::lu n::ld n::lu n::ld n::lu n::ld n::lu n::lq n 0):=by and_intros<;>kernel_rfl
theorem Z5t (x:W4) (n:Int):Zs (Zf (Ze prog Zi ZhC true) 3000 191 [vW x,.int .i64 n] [tst false,tst false,num 1]) (Z3l (ZvC x n) x n) (lk (ZvC x n) n::lu n::ld n::lu n::ld n::lu n::lq n 1):=by and_intros<;>kernel_rfl
theorem Z5u (x:W4) (n:Int):Zs (Zf (Ze prog Zi ZhC true) 3000 191 [vW x,.int .i64 n] [tst false,tst false,num 2]) (Z3l (ZvD x n) x n) (lk (ZvD x n) n::lu n::ld n::lu n::lq n 2):=by and_intros<;>kernel_rfl
theorem Z5v (x:W4) (n:Int):Zs (Zf (Ze prog Zi ZhC true) 3000 191 [vW x,.int .i64 n] [tst false,tst false,num 3]) (Z3l (ZvE x n) x n) (lk (ZvE x n) n::lu n::lq n 3):=by and_intros<;>kernel_rfl
def Zkd (x:W4) (n:Int):W4:=if n<1 then x else if 256≤n then ⟨0,0,0,0⟩ else W4.of (x.val/2^n.toNat)
def ZgM (x:W4) (n:Int):Bool:=if n<1 then false else if 256≤n then decide (x.val≠0) else decide (x.val % 2^n.toNat≠0)
def Z1F (x:W4) (n:Int):Value:= .tuple #[vW (Zkd x n),.bool (ZgM x n)]
theorem Zrd {x:W4}(hx:x.ok):(!(eqW x ⟨0,0,0,0⟩))=decide (x.val≠0):=by
 rw[Bool.eq_iff_iff];simp only[Bool.not_eq_true',Xi,← Bool.not_eq_true,Zfc];constructor
 ·intro h h0;exact h (W4.val_inj hx ⟨z64,z64,z64,z64⟩ (h0.trans (by rfl)))
 ·intro h h0;exact h (by rw[h0];rfl)
theorem Zre {x:W4}(hx:x.ok) {n:Int}(h1:¬ n<1) (h2:¬ 256≤n):(!(eqW (Zee (W4.of (x.val/2^n.toNat)) n) x))=decide (x.val % 2^n.toNat≠0):=by
 have hp:(0:Int)<2^n.toNat:=Int.pow_pos (by omega);have b:=W4.val_bd hx;have hm:=Int.mul_ediv_add_emod x.val (2^n.toNat);have h3:=Int.emod_nonneg x.val (Int.ne_of_gt hp);have h4:0≤x.val/2^n.toNat:=Int.ediv_nonneg b.1 (by omega);have h5:x.val/2^n.toNat≤x.val:=by
  have:=Zck 1 (2^n.toNat) (x.val/2^n.toNat) h4 (by omega);rw[Int.mul_one,Int.mul_comm] at this;omega
 have e:Zee (W4.of (x.val/2^n.toNat)) n=W4.of (x.val-x.val % 2^n.toNat):=by
  unfold Zee;rw[if_neg h1,if_neg h2,W4.val_of,Int.emod_eq_of_lt h4 (by omega),Int.mul_comm];congr 1;omega
 rw[e,Bool.eq_iff_iff];simp only[Bool.not_eq_true',Xi,← Bool.not_eq_true,Zfc];generalize x.val % 2^n.toNat=l at*;have h6:0≤2^n.toNat*(x.val/2^n.toNat):=Int.mul_nonneg (by omega) h4;constructor
 ·intro h h0;apply h;rw[h0,Int.sub_zero,W4.of_val hx]
 ·intro h h0;have h7:=congrArg W4.val h0;rw[W4.val_of,Int.emod_eq_of_lt (by omega) (by omega)] at h7;omega
theorem Zrf {x:W4}{n:Int}(h:x.ok) (h0: -9223372036854775808≤n) (h9:n≤9223372036854775807):(lk x n).1=(lk x n).2:=by
 unfold lk;exact Xa ⟨h,h0,h9⟩
set_option maxRecDepth 100000 in
theorem Zn9 (x:W4) (n:Int) (hx:x.ok) (h0: -9223372036854775808≤n) (h9:n≤9223372036854775807) (w:World):Calls prog 191 #[vW x,.int .i64 n] w fun e w'=>e= .returned (Z1F x n)∧zi w w':=by
 unfold Z1F Zkd ZgM;by_cases h1:n<1
 ·rw[if_pos h1,if_pos h1];exact Zb (Zd ZbB) (ZwR x n) (Zed (Xa h1)) (by rfl) (by rfl) w
 ·rw[if_neg h1,if_neg h1];by_cases h2:256≤n
  ·rw[if_pos h2,if_pos h2,← Zrd hx];exact Zb (Zd ZbB) (Zrc x n) (ZG (Xa h2) (Zed (Xb h1))) (by rfl) (by rfl) w
  ·rw[if_neg h2,if_neg h2];have hn:0≤n:=by omega
   have u:=ZwQ hn;have d:=Z1E hn;have hl:=Zre hx h1 h2;have hj:n/64=0∨n/64=1∨n/64=2∨n/64=3:=by omega
   rw[← hl];rcases hj with hj | hj | hj | hj
   ·obtain⟨e1,e2⟩:=Zmw hx hn hj;rw[← e1];exact Zb (Zd ZbB) (Z5s x n) (ZG (Zrf e2 h0 h9) (ZG u (ZG d (ZG u (ZG d (ZG u (ZG d (ZG u (Zg9 h1 h2 hj))))))))) (by rfl) (by rfl) w
   ·obtain⟨e1,e2⟩:=Zmx hx hn hj;rw[← e1];exact Zb (Zd ZbB) (Z5t x n) (ZG (Zrf e2 h0 h9) (ZG u (ZG d (ZG u (ZG d (ZG u (Zg9 h1 h2 hj))))))) (by rfl) (by rfl) w
   ·obtain⟨e1,e2⟩:=Zmy hx hn hj;rw[← e1];exact Zb (Zd ZbB) (Z5u x n) (ZG (Zrf e2 h0 h9) (ZG u (ZG d (ZG u (Zg9 h1 h2 hj))))) (by rfl) (by rfl) w
   ·obtain⟨e1,e2⟩:=Zmz hx hn hj;rw[← e1];exact Zb (Zd ZbB) (Z5v x n) (ZG (Zrf e2 h0 h9) (ZG u (Zg9 h1 h2 hj))) (by rfl) (by rfl) w
def Zke (b:Bool):List Dec→Bool×List Dec×Log
 | .inr (.inr (.inr (.inl d)))::s=>(d,s,[(b,d)])
 | s=>(b,s,[])
theorem Zrg {b:Bool}{s:List Dec}(h:Zo (Zke b s).2.2):(Zke b s).1=b:=by
 unfold Zke at*;split at h
 ·rename_i d s;exact (h (b,d) Xf).symm
 ·rfl
def Z5w:W4→Int→List Dec→Option (Value×List Dec×Log):=fun x n s=>some (.tuple #[vW (Zkd x n),.bool (Zke (ZgM x n) s).1],(Zke (ZgM x n) s).2.1,(Zke (ZgM x n) s).2.2)
theorem ZwS:ZC 191 (g1n Z5w):=Ztk fun x n hx h0 h1 s v s' lg h hl w=>by
 unfold Z5w at h;cases h;rw[Zrg hl];exact Zn9 x n hx h0 h1 w
def Zat:List UInt8:=(List.range 256).map fun i=>UInt8.ofNat (bitLen i)
def Zd8 (z:Int):Int:=((Zat.getD (u8.wrap z).toNat 0).toNat:Int)
def lt8 (z:Int):Bool×Bool:=(decide (0≤u8.wrap z∧(u8.wrap z).toNat<Zat.length),true)
def sh (z:Int) (k:Nat):Int:=z.fdiv (2^k)
def ge (z k:Int) (d:Bool):Bool×Bool:=(decide (z≥k),d)
def ZeP (m z:Int):Value:= .int .i64 (i64.wrap (m+i64.wrap (Zd8 z)))
def nz:Bool×Bool:=(false,false)
theorem ZwT (u:Int):Zs (Zf (Ze prog Zi Zn true) 3000 161 [.int .u64 u] [tst false,tst false,tst false]) (ZeP 0 u) [lt8 u,ge u 256 false,ge u 65536 false,ge u 4294967296 false]:=by and_intros<;>kernel_rfl
theorem ZwU (u:Int):Zs (Zf (Ze prog Zi Zn true) 3000 161 [.int .u64 u] [tst false,tst false,tst true]) (ZeP 8 (sh u 8)) [lt8 (sh u 8),nz,ge u 256 true,ge u 65536 false,ge u 4294967296 false]:=by and_intros<;>kernel_rfl
theorem ZwV (u:Int):Zs (Zf (Ze prog Zi Zn true) 3000 161 [.int .u64 u] [tst false,tst true,tst false]) (ZeP 16 (sh u 16)) [lt8 (sh u 16),ge (sh u 16) 256 false,nz,ge u 65536 true,ge u 4294967296 false]:=by and_intros<;>kernel_rfl
theorem ZwW (u:Int):Zs (Zf (Ze prog Zi Zn true) 3000 161 [.int .u64 u] [tst false,tst true,tst true]) (ZeP 24 (sh (sh u 16) 8)) [lt8 (sh (sh u 16) 8),nz,ge (sh u 16) 256 true,nz,ge u 65536 true,ge u 4294967296 false]:=by and_intros<;>kernel_rfl
theorem ZwX (u:Int):Zs (Zf (Ze prog Zi Zn true) 3000 161 [.int .u64 u] [tst true,tst false,tst false]) (ZeP 32 (sh u 32)) [lt8 (sh u 32),ge (sh u 32) 256 false,ge (sh u 32) 65536 false,nz,ge u 4294967296 true]:=by and_intros<;>kernel_rfl
theorem ZwY (u:Int):Zs (Zf (Ze prog Zi Zn true) 3000 161 [.int .u64 u] [tst true,tst false,tst true]) (ZeP 40 (sh (sh u 32) 8)) [lt8 (sh (sh u 32) 8),nz,ge (sh u 32) 256 true,ge (sh u 32) 65536 false,nz,ge u 4294967296 true]:=by and_intros<;>kernel_rfl
theorem ZwZ (u:Int):Zs (Zf (Ze prog Zi Zn true) 3000 161 [.int .u64 u] [tst true,tst true,tst false]) (ZeP 48 (sh (sh u 32) 16)) [lt8 (sh (sh u 32) 16),ge (sh (sh u 32) 16) 256 false,nz,ge (sh u 32) 65536 true,nz,ge u 4294967296 true]:=by and_intros<;>kernel_rfl
theorem Zxa (u:Int):Zs (Zf (Ze prog Zi Zn true) 3000 161 [.int .u64 u] [tst true,tst true,tst true]) (ZeP 56 (sh (sh (sh u 32) 16) 8)) [lt8 (sh (sh (sh u 32) 16) 8),nz,ge (sh (sh u 32) 16) 256 true,nz,ge (sh u 32) 65536 true,nz,ge u 4294967296 true]:=by and_intros<;>kernel_rfl
theorem Zc5:Zat.length=256:=by unfold Zat;rw[List.length_map,List.length_range]
theorem Zc6 (b:Nat) (h:b<256):(Zat.getD b 0).toNat=bitLen b:=by
 have h1:Zat.getD b 0=UInt8.ofNat (bitLen b):=by
  unfold Zat;rw[List.getD,List.getElem?_map,List.getElem?_range h];rfl
 have h2:=bitLen_le8 b h;rw[h1,UInt8.toNat_ofNat'];omega
theorem Zha {z:Int}(h0:0≤z) (h1:z<256):u8.wrap z=z:=by
 simp [IntKind.wrap,IntKind.bits,IntKind.signed];omega
theorem zA {m:Int}{Z:Nat}(hm:0≤m) (hm':m≤56) (h1:Z<256):ZeP m (Z:Int)= .int .i64 (m+bitLen Z)∧(lt8 (Z:Int)).1=(lt8 (Z:Int)).2:=by
 have hb:=bitLen_le8 Z h1;have e:=Zha (z:=(Z:Int)) (by omega) (by omega);refine⟨?_,?_⟩
 ·unfold ZeP Zd8;rw[e,Xg,Zc6 Z h1,Zbo (n:=((bitLen Z:Nat):Int)) (by omega) (by omega),Zbo (by omega) (by omega)]
 ·unfold lt8;rw[e,Xg];rw[Zc5];exact Xa (And.intro (by omega) h1)
theorem Zan (Z k:Nat):sh (Z:Int) k=((Z/2^k:Nat):Int):=by
 unfold sh;rw[Int.fdiv_eq_ediv_of_nonneg _ (Int.le_of_lt (Int.pow_pos (by omega)))];simp
theorem Zko {z k:Int}(h:k≤z):(ge z k true).1=(ge z k true).2:=Xa h
theorem Zkp {z k:Int}(h:z<k):(ge z k false).1=(ge z k false).2:=Xb (by omega)
theorem ZaA:nz.1=nz.2:=rfl
theorem Zau (x b:Nat) (h:2^b≤x):bitLen x=b+bitLen (x/2^b):=bitLen_shift x b (by
 have:0<x/2^b:=Nat.div_pos h (Nat.two_pow_pos b);omega)
def ZnA (u:Int):Value:= .int .i64 (bitLen u.toNat:Nat)
set_option maxRecDepth 100000 in
theorem ZhD (u:Int) (h0:0≤u) (h1:u<18446744073709551616) (w:World):Calls prog 161 #[.int .u64 u] w fun e w'=>e= .returned (ZnA u)∧zi w w':=by
 obtain⟨U,rfl⟩:=Int.eq_ofNat_of_zero_le h0;unfold ZnA;rw[Xg];have p8:(2:Nat)^8=256:=rfl;have p16:(2:Nat)^16=65536:=rfl;have p32:(2:Nat)^32=4294967296:=rfl;have step:∀ {v:Value}{m:Int}{Z:Nat}{s:List Dec}{cs:Log},Zs (Zf (Ze prog Zi Zn true) 3000 161 [.int .u64 (U:Int)] s) v cs→Zo cs→v= .int .i64 (bitLen U:Nat)→Calls prog 161 #[.int .u64 (U:Int)] w fun e w'=>e= .returned (.int .i64 (bitLen U:Nat))∧zi w w':=
  fun {v m Z s cs} hf hc hv=>by subst hv;exact Zb (Zd Zh) hf hc (by rfl) (by rfl) w
 by_cases a:U<4294967296
 ·by_cases b:U<65536
  ·by_cases c:U<256
   ·obtain⟨e1,e2⟩:=zA (m:=0) (by omega) (by omega) c;exact step (m:=0) (Z:=0) (ZwT U) (ZG e2 (ZG (Zkp (by omega)) (ZG (Zkp (by omega)) (Zed (Zkp (by omega)))))) (by rw[e1];congr 1;omega)
   ·have l:=Zau U 8 (by omega);obtain⟨e1,e2⟩:=zA (m:=8) (Z:=U/2^8) (by omega) (by omega) (by omega);rw[← Zan] at e1 e2;exact step (m:=0) (Z:=0) (ZwU U) (ZG e2 (ZG ZaA (ZG (Zko (by omega)) (ZG (Zkp (by omega)) (Zed (Zkp (by omega))))))) (by rw[e1];congr 1;omega)
  ·have l:=Zau U 16 (by omega);by_cases c:U/2^16<256
   ·obtain⟨e1,e2⟩:=zA (m:=16) (Z:=U/2^16) (by omega) (by omega) c;rw[← Zan] at e1 e2;exact step (m:=0) (Z:=0) (ZwV U) (ZG e2 (ZG (Zkp (by rw[Zan];omega)) (ZG ZaA (ZG (Zko (by omega)) (Zed (Zkp (by omega))))))) (by rw[e1];congr 1;omega)
   ·have l2:=Zau (U/2^16) 8 (by omega);obtain⟨e1,e2⟩:=zA (m:=24) (Z:=U/2^16/2^8) (by omega) (by omega) (by omega);rw[← Zan,← Zan] at e1 e2;exact step (m:=0) (Z:=0) (ZwW U) (ZG e2 (ZG ZaA (ZG (Zko (by rw[Zan];omega)) (ZG ZaA (ZG (Zko (by omega)) (Zed (Zkp (by omega)))))))) (by rw[e1];congr 1;omega)
 ·have l0:=Zau U 32 (by omega);have q:U/2^32<4294967296:=by omega
  by_cases b:U/2^32<65536
  ·by_cases c:U/2^32<256
   ·obtain⟨e1,e2⟩:=zA (m:=32) (Z:=U/2^32) (by omega) (by omega) c;rw[← Zan] at e1 e2;exact step (m:=0) (Z:=0) (ZwX U) (ZG e2 (ZG (Zkp (by rw[Zan];omega)) (ZG (Zkp (by rw[Zan];omega)) (ZG ZaA (Zed (Zko (by omega))))))) (by rw[e1];congr 1;omega)
   ·have l:=Zau (U/2^32) 8 (by omega);obtain⟨e1,e2⟩:=zA (m:=40) (Z:=U/2^32/2^8) (by omega) (by omega) (by omega);rw[← Zan,← Zan] at e1 e2;exact step (m:=0) (Z:=0) (ZwY U) (ZG e2 (ZG ZaA (ZG (Zko (by rw[Zan];omega)) (ZG (Zkp (by rw[Zan];omega)) (ZG ZaA (Zed (Zko (by omega)))))))) (by rw[e1];congr 1;omega)
  ·have l:=Zau (U/2^32) 16 (by omega);by_cases c:U/2^32/2^16<256
   ·obtain⟨e1,e2⟩:=zA (m:=48) (Z:=U/2^32/2^16) (by omega) (by omega) c;rw[← Zan,← Zan] at e1 e2;exact step (m:=0) (Z:=0) (ZwZ U) (ZG e2 (ZG (Zkp (by rw[Zan,Zan];omega)) (ZG ZaA (ZG (Zko (by rw[Zan];omega)) (ZG ZaA (Zed (Zko (by omega)))))))) (by rw[e1];congr 1;omega)
   ·have l2:=Zau (U/2^32/2^16) 8 (by omega);obtain⟨e1,e2⟩:=zA (m:=56) (Z:=U/2^32/2^16/2^8) (by omega) (by omega) (by omega);rw[← Zan,← Zan,← Zan] at e1 e2;exact step (m:=0) (Z:=0) (Zxa U) (ZG e2 (ZG ZaA (ZG (Zko (by rw[Zan,Zan];omega)) (ZG ZaA (ZG (Zko (by rw[Zan];omega)) (ZG ZaA (Zed (Zko (by omega))))))))) (by rw[e1];congr 1;omega)
def gu (k:Int→Value):Ans:=fun vals s=>
 match vals with
 | [.int .u64 u]=>some (k u,s,[(decide (0≤u∧u<18446744073709551616),true)])
 | _=>none
theorem Z5x {f:Nat}{k:Int→Value}(hk:∀ u,0≤u→u<18446744073709551616→∀ w,Calls prog f #[.int .u64 u] w fun e w'=>e= .returned (k u)∧zi w w'):ZC f (gu k):=by
 intro vals s v s' lg h hl w;unfold gu at h;split at h
 ·cases h;have h1:=hl _ Xf;simp only[Xi] at h1;exact hk _ h1.1 h1.2 w
 ·cases h
def Zea:Con:=alt 161 (gu ZnA) Zn
theorem Zav:ConOk Zea:=Zr func161 rfl (Z5x ZhD) Zh
def ne0 (a:Int) (d:Bool):Bool×Bool:=(a !=0,d)
def yes:Bool×Bool:=(true,true)
def no:Bool×Bool:=(false,false)
def wd (u:Int):Bool×Bool:=(decide (0≤u∧u<18446744073709551616),true)
def Zyp (m u:Int):Value:= .int .i64 (i64.wrap (m+(bitLen u.toNat:Nat)))
theorem Z1G (x:W4):Zs (Zf (Ze prog Zi Zea true) 3000 153 [vW x] [tst true,tst true]) (Zyp 192 x.d) [wd x.d,ne0 x.d true,yes]:=by and_intros<;>kernel_rfl
theorem Z1H (x:W4):Zs (Zf (Ze prog Zi Zea true) 3000 153 [vW x] [tst true,tst false,tst true,tst true]) (Zyp 128 x.c) [wd x.c,ne0 x.c true,yes,ne0 x.d false,yes]:=by and_intros<;>kernel_rfl
theorem Z1I (x:W4):Zs (Zf (Ze prog Zi Zea true) 3000 153 [vW x] [tst true,tst false,tst true,tst false,tst true,tst true]) (Zyp 64 x.b) [wd x.b,ne0 x.b true,yes,ne0 x.c false,yes,ne0 x.d false,yes]:=by and_intros<;>kernel_rfl
theorem Z1J (x:W4):Zs (Zf (Ze prog Zi Zea true) 3000 153 [vW x] [tst true,tst false,tst true,tst false,tst true,tst false,tst true,tst true]) (Zyp 0 x.a) [wd x.a,ne0 x.a true,yes,ne0 x.b false,yes,ne0 x.c false,yes,ne0 x.d false,yes]:=by and_intros<;>kernel_rfl
theorem Z1K (x:W4):Zs (Zf (Ze prog Zi Zea true) 3000 153 [vW x] [tst true,tst false,tst true,tst false,tst true,tst false,tst true,tst false,tst false]) (.int .i64 0) [no,ne0 x.a false,yes,ne0 x.b false,yes,ne0 x.c false,yes,ne0 x.d false,yes]:=by and_intros<;>kernel_rfl
def Z3m (x:W4):Int:=(bitLen x.val.toNat:Nat)
def Zxb (x:W4):Value:= .int .i64 (Z3m x)
theorem Zf4 {m u:Int}(h0:0≤m) (h1:m≤192) (hu:0≤u∧u<18446744073709551616):Zyp m u= .int .i64 (m+(bitLen u.toNat:Nat)):=by
 have:bitLen u.toNat≤64:=by
  unfold bitLen;split
  ·omega
  ·rename_i h;have:=(Nat.log2_lt h).2 (show u.toNat<2^64 by have:(2:Nat)^64=18446744073709551616:=rfl;omega);omega
 unfold Zyp;rw[Zbo (by omega) (by omega)]
theorem Z3n {a:Int}(h:a≠0):(ne0 a true).1=(ne0 a true).2:=bne_iff_ne.2 h
theorem Zo8 {a:Int}(h:a=0):(ne0 a false).1=(ne0 a false).2:=by subst h;rfl
theorem Zrh {u:Int}(h:0≤u∧u<18446744073709551616):(wd u).1=(wd u).2:=Xa h
theorem Za5:yes.1=yes.2:=rfl
theorem Z5y:no.1=no.2:=rfl
theorem Zf5 {X b U:Nat}(hU:U≠0) (h:X/2^b=U):bitLen X=b+bitLen U:=by
 rw[← h];exact bitLen_shift X b (by omega)
set_option maxRecDepth 100000 in
theorem Zkf (x:W4) (hx:x.ok) (w:World):Calls prog 153 #[vW x] w fun e w'=>e= .returned (Zxb x)∧zi w w':=by
 have hx':=hx;obtain⟨a,b,c,d⟩:=x;obtain⟨h1,h2,h3,h4⟩:=hx;unfold Zxb Z3m W4.val;dsimp only at*;by_cases e4:d=0
 ·by_cases e3:c=0
  ·by_cases e2:b=0
   ·by_cases e1:a=0
    ·subst e1 e2 e3 e4;exact Zb (Zd Zav) (Z1K ⟨0,0,0,0⟩) (ZG Z5y (ZG (Zo8 rfl) (ZG Za5 (ZG (Zo8 rfl) (ZG Za5 (ZG (Zo8 rfl) (ZG Za5 (ZG (Zo8 rfl) (Zed Za5))))))))) (by rfl) (by rfl) w
    ·have h:=Zb (Zd Zav) (Z1J ⟨a,b,c,d⟩) (ZG (Zrh h1) (ZG (Z3n e1) (ZG Za5 (ZG (Zo8 e2) (ZG Za5 (ZG (Zo8 e3) (ZG Za5 (ZG (Zo8 e4) (Zed Za5))))))))) (by rfl) (by rfl) w;rw[Zf4 (by omega) (by omega) h1] at h;subst e2 e3 e4;simp at h ⊢;exact h
   ·have h:=Zb (Zd Zav) (Z1I ⟨a,b,c,d⟩) (ZG (Zrh h2) (ZG (Z3n e2) (ZG Za5 (ZG (Zo8 e3) (ZG Za5 (ZG (Zo8 e4) (Zed Za5))))))) (by rfl) (by rfl) w;rw[Zf4 (by omega) (by omega) h2] at h;have p:(2:Nat)^64=18446744073709551616:=rfl;have l:=Zf5 (X:=(a+18446744073709551616*b+340282366920938463463374607431768211456*c+6277101735386680763835789423207666416102355444464034512896*d).toNat) (b:=64) (U:=b.toNat) (by omega) (by rw[p];omega);rw[l];simp at h ⊢;exact h
  ·have h:=Zb (Zd Zav) (Z1H ⟨a,b,c,d⟩) (ZG (Zrh h3) (ZG (Z3n e3) (ZG Za5 (ZG (Zo8 e4) (Zed Za5))))) (by rfl) (by rfl) w;rw[Zf4 (by omega) (by omega) h3] at h;have p:(2:Nat)^128=340282366920938463463374607431768211456:=rfl;have l:=Zf5 (X:=(a+18446744073709551616*b+340282366920938463463374607431768211456*c+6277101735386680763835789423207666416102355444464034512896*d).toNat) (b:=128) (U:=c.toNat) (by omega) (by rw[p];omega);rw[l];simp at h ⊢;exact h
 ·have h:=Zb (Zd Zav) (Z1G ⟨a,b,c,d⟩) (ZG (Zrh h4) (ZG (Z3n e4) (Zed Za5))) (by rfl) (by rfl) w;rw[Zf4 (by omega) (by omega) h4] at h;have p:(2:Nat)^192=6277101735386680763835789423207666416102355444464034512896:=rfl;have l:=Zf5 (X:=(a+18446744073709551616*b+340282366920938463463374607431768211456*c+6277101735386680763835789423207666416102355444464034512896*d).toNat) (b:=192) (U:=d.toNat) (by omega) (by rw[p];omega);rw[l];simp at h ⊢;exact h
def g1 (k:W4→Value):Ans:=fun vals s=>
 match vals with
 | [x]=>
  match w4 x with
  | some a=>some (k a,s,[(decide a.ok,true)])
  | none=>none
 | _=>none
theorem Z5z {f:Nat}{k:W4→Value}(hk:∀ x:W4,x.ok→∀ w,Calls prog f #[vW x] w fun e w'=>e= .returned (k x)∧zi w w'):ZC f (g1 k):=by
 intro vals s v s' lg h hl w;unfold g1 at h;split at h
 ·split at h
  ·rename_i a ha;cases h;have h1:=hl _ Xf;simp only[Xi] at h1;rw[ZdN ha];exact hk a h1 w
  ·cases h
 ·cases h
def Ztl (z:Int):Int:=u64.wrap ((BitVec.ofInt 64 z &&& BitVec.ofInt 64 1).toNat:Nat)
theorem ZnB {z:Int}(h0:0≤z) (h1:z<18446744073709551616):Ztl z=z % 2:=by
 obtain⟨Z,rfl⟩:=Int.eq_ofNat_of_zero_le h0;unfold Ztl;have e1:(BitVec.ofInt 64 (Z:Int)).toNat=Z:=by simp;omega
 have e2:(BitVec.ofInt 64 1).toNat=1:=rfl;rw[BitVec.toNat_and,e1,e2,Nat.and_one_is_mod,Zb5];omega
def lb (n k:Int):Log:=[(decide ((64:Int)=0),false),(decide (i64.wrap (n.tdiv 64)=k),true),(decide (n≥256),false),(decide (n<0),false)]
theorem Zxc (x:W4) (n:Int):Zs (Zf (Ze prog Zi Zn true) 3000 157 [vW x,.int .i64 n] [cmp true]) (.int .u64 0) [(decide (n<0),true)]:=by and_intros<;>kernel_rfl
theorem Zri (x:W4) (n:Int):Zs (Zf (Ze prog Zi Zn true) 3000 157 [vW x,.int .i64 n] [cmp false,cmp true]) (.int .u64 0) [(decide (n≥256),true),(decide (n<0),false)]:=by and_intros<;>kernel_rfl
theorem Z50 (x:W4) (n:Int):Zs (Zf (Ze prog Zi Zn true) 3000 157 [vW x,.int .i64 n] [cmp false,cmp false,num 0]) (.int .u64 (Ztl (dn' x.a n))) (lu n::lb n 0):=by and_intros<;>kernel_rfl
theorem Z51 (x:W4) (n:Int):Zs (Zf (Ze prog Zi Zn true) 3000 157 [vW x,.int .i64 n] [cmp false,cmp false,num 1]) (.int .u64 (Ztl (dn' x.b n))) (lu n::lb n 1):=by and_intros<;>kernel_rfl
theorem Z52 (x:W4) (n:Int):Zs (Zf (Ze prog Zi Zn true) 3000 157 [vW x,.int .i64 n] [cmp false,cmp false,num 2]) (.int .u64 (Ztl (dn' x.c n))) (lu n::lb n 2):=by and_intros<;>kernel_rfl
theorem Z53 (x:W4) (n:Int):Zs (Zf (Ze prog Zi Zn true) 3000 157 [vW x,.int .i64 n] [cmp false,cmp false,num 3]) (.int .u64 (Ztl (dn' x.d n))) (lu n::lb n 3):=by and_intros<;>kernel_rfl
def ZnC (x:W4) (n:Int):Int:=if n<0 then 0 else if 256≤n then 0 else x.val/2^n.toNat % 2
def Zxd (x:W4) (n:Int):Value:= .int .u64 (ZnC x n)
theorem Zrj {n k:Int}(h1:¬ n<0) (h2:¬ 256≤n) (h3:n/64=k):Zo (lb n k):=by
 refine ZG (by rfl) (ZG (Xa ?_) (ZG (Xb h2) (Zed (Xb h1))));rw[Int.tdiv_eq_ediv_of_nonneg (by omega),Zbo (by omega) (by omega)];exact h3
theorem ZhE {x:W4}{n:Int}{a b:Int}(hn:0≤n) (ha:0≤a∧a<18446744073709551616) (hb:0≤b∧b<18446744073709551616) (h:(W4.of (x.val/2^n.toNat)).a=orr (dn' a n) (up' b n)):
  Ztl (dn' a n)=x.val/2^n.toNat % 2:=by
 obtain⟨l,o,d,s,m,l0,l1,e⟩:=zD hn ha hb;have ev:=Zqp hn hb;rw[ZnB d.1 d.2];rw[o] at h;unfold W4.of at h;dsimp only at h;omega
theorem Zrk {x:W4}{n:Int}{a:Int}(hn:0≤n) (ha:0≤a∧a<18446744073709551616) (h:(W4.of (x.val/2^n.toNat)).a=dn' a n):Ztl (dn' a n)=x.val/2^n.toNat % 2:=by
 obtain⟨l,o,d,s,m,l0,l1,e⟩:=zD hn ha ha;rw[ZnB d.1 d.2];unfold W4.of at h;dsimp only at h;omega
set_option maxRecDepth 100000 in
theorem ZnD (x:W4) (n:Int) (hx:x.ok) (_h0: -9223372036854775808≤n) (_h9:n≤9223372036854775807) (w:World):Calls prog 157 #[vW x,.int .i64 n] w fun e w'=>e= .returned (Zxd x n)∧zi w w':=by
 unfold Zxd ZnC;by_cases h1:n<0
 ·rw[if_pos h1];exact Zb (Zd Zh) (Zxc x n) (Zed (Xa h1)) (by rfl) (by rfl) w
 ·rw[if_neg h1];by_cases h2:256≤n
  ·rw[if_pos h2];exact Zb (Zd Zh) (Zri x n) (ZG (Xa h2) (Zed (Xb h1))) (by rfl) (by rfl) w
  ·rw[if_neg h2];have hn:0≤n:=by omega
   have u:=ZwQ hn;obtain⟨k1,k2,k3,k4⟩:=hx;have hj:n/64=0∨n/64=1∨n/64=2∨n/64=3:=by omega
   rcases hj with hj | hj | hj | hj
   ·obtain⟨e1,_⟩:=Zmw (x:=x) ⟨k1,k2,k3,k4⟩ hn hj;rw[← ZhE hn k1 k2 (by rw[← e1];rfl)];exact Zb (Zd Zh) (Z50 x n) (ZG u (Zrj h1 h2 hj)) (by rfl) (by rfl) w
   ·obtain⟨e1,_⟩:=Zmx (x:=x) ⟨k1,k2,k3,k4⟩ hn hj;rw[← ZhE hn k2 k3 (by rw[← e1];rfl)];exact Zb (Zd Zh) (Z51 x n) (ZG u (Zrj h1 h2 hj)) (by rfl) (by rfl) w
   ·obtain⟨e1,_⟩:=Zmy (x:=x) ⟨k1,k2,k3,k4⟩ hn hj;rw[← ZhE hn k3 k4 (by rw[← e1];rfl)];exact Zb (Zd Zh) (Z52 x n) (ZG u (Zrj h1 h2 hj)) (by rfl) (by rfl) w
   ·obtain⟨e1,_⟩:=Zmz (x:=x) ⟨k1,k2,k3,k4⟩ hn hj;rw[← Zrk hn k4 (by rw[← e1];rfl)];exact Zb (Zd Zh) (Z53 x n) (ZG u (Zrj h1 h2 hj)) (by rfl) (by rfl) w
end Go.Proofs.YtgefjidphfdhdaaGreatDoor
