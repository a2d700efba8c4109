/-
  PROVED HERE: the tied card of tillerlaw13.ReadNear: for every input the law returns true, and each argument reads afterwards as it read before: a text that is just between two patterns, with a digit far behind or not, is rounded as it must be. Its condition: the tables of unicode/utf8 hold what the program's own text lays there (tied, by the given text).
-/
import Derived.Test.YtjlponbdflkbjaaGreatDoorG22
import Derived.Test.YtjlponbdflkbjaaGreatDoorRows
import Derived.Test.YtjlponbdflkbjaaGreatDoorCards
import Derived.Test.YtjlponbdflkbjaaGreatDoorTie
import Derived.Lay
import Derived.ChangeMaps5
import Derived.MakeChecks
import Derived.ChangeSame
import Derived.ChangeVars
import Derived.JoinedOf
import Derived.RowKit
import Derived.LaidLaws
import Derived.LaidHandle
import Derived.Stop.Joined
import Derived.SevenTiedAt
namespace Go.Proofs.YtjlponbdflkbjaaGreatDoor.readNear
open Go.KRun Go.Pt Go.ChangeShapes Go.WideShapes Go.ChangeAt Go.RowKit Go.Rd
set_option linter.unusedVariables false
theorem cells1 {l:List Value}(h:okC [some .i64,some .i64] l):∃ a b,l=[.int .i64 a,.int .i64 b]∧(Lit.int .i64 a).wf=true∧(Lit.int .i64 b).wf=true:=by
 have hl:=Zdm h;obtain⟨v0,v1,rfl⟩:∃ v0 v1,l=[v0,v1]:=by
  match l,hl with
  | [v0,v1],_=>exact⟨v0,v1,rfl⟩
 obtain⟨⟨a,rfl,ka⟩,⟨b,rfl,kb⟩,_⟩:=h;exact⟨a,b,rfl,ka,kb⟩
theorem own:ownKnob Tryz.prog.godebug=none:=by kernel_rfl
set_option maxRecDepth 100000 in
theorem lifted (os:Os) (started:os.Started) (H:Type) (enc:TypeId×Value→H):
  ReturnsInHanded {} Tryz.checked os 4 .any (fun w args=>(Rows.readNearSpec.pre enc Tryz.prog Tryz.f4 [] false w args∧laidMetH Tryz.prog Rows.readNearRow.laid w)∧sizedMet enc Tryz.prog Tryz.f4 (OpenSpec.ofChange Rows.readNearSpec) false w args)
   (Rows.readNearSpec.post enc Tryz.prog Tryz.f4 false true false false):=by
 refine returnsInHanded_of_change_and (C:=Tryz.checked) (X:=fun w _=>laidMetH Tryz.prog Rows.readNearRow.laid w) (fun _ _ _ hh h=>h.of_heap hh) own started (by kernel_rfl) Tryz.func4
  (ChangeSpec.witness_shaped (enc:=enc) (C:=Tryz.checked) (os:=os) (X:=fun w _=>laidMetH Tryz.prog Rows.readNearRow.laid w) false (World.laidAll Tryz.prog os Rows.readNearRow.laid) #[.int .u64 0,.agg #[.int .i64 0,.int .i64 0],.int .i64 0] 8 (World.laidAll_os _ _ _)
   (World.shaped_of_ZipB (by kernel_rfl) (by kernel_rfl)) (by kernel_rfl) (by kernel_rfl) (by kernel_rfl)
   (by rw[MakeChecks.laidMetH_plain _ _ _ (by kernel_rfl)];exact laidMet_laidAll _ (by kernel_rfl) (by kernel_rfl))) ?_
 intro W base args ds gs before hval0 hW _ _ hL _;have hval:∀ (j:Nat) t v,Tryz.f4.params[j]? =some t→args[j]? =some v→Value.okWide Tryz.prog W .any base t v:=hval0;have hW':=hW;obtain⟨p,q,hA0,hV,rfl,hfz,hnd⟩:=hW;have hA:DataW.TrodAll enc Tryz.prog W 0 (fun _=>true) true Tryz.f4.params.toList args.toList ds p:=hA0;rw[Tryz.params4] at hA hval;obtain⟨v0,v1,v2,d0,d1,d2,p0,p1,p2,rfl,rfl,rfl,h0,h1,h2⟩:=trodAll_three hA;obtain⟨rfl,rfl⟩:=trodVars_none hV;obtain⟨x0,rfl,rfl,rfl,w0⟩:=open_int Tryz.underlying23 (hval 0 23 v0 rfl rfl) h0;obtain⟨c1,rfl,r1⟩:=Zo8 (L:=[some .i64,some .i64]) (by kernel_rfl) h1;obtain⟨cs1,rfl⟩:=Zo9 Tryz.underlying34 (hval 1 34 v1 rfl rfl);obtain⟨a,b,hcs1,ka,kb⟩:=cells1 c1;have hcs1':cs1= #[.int .i64 a,.int .i64 b]:=by
  have:=congrArg List.toArray hcs1;simpa [Value.cells] using this
 subst hcs1';obtain⟨x2,rfl,rfl,rfl,w2⟩:=open_int Tryz.underlying3 (hval 2 3 v2 rfl rfl) h2;clear hA0 hval0;simp only[List.append_nil] at hW';refine (Zkr x0 a b x2 (ZjK w0) W).mono fun e W' ⟨he,hg⟩=> ?_;subst he;exact⟨_,rfl,post_of_same (pa:=[]) (pv:=[]) hW' (fun _ _ _=>trodAll_mk1 (shut_bool Tryz.underlying4 _))
  (fun sp _=>trodAll_mk3 (shut_int Tryz.underlying23 w0) (r1 _ _ _ _) (shut_int Tryz.underlying3 w2)) (fun _ _=>rfl) rfl
  (hg.1.frame _) (Zhl hg) (ok_one (by kernel_rfl) rfl (okWide_bool_mk Tryz.underlying4 _))⟩
theorem row_holds:Rows.ReadNearSaid:=
 OpenClaim.holds_of_wide 4 Tryz.f4 rfl rfl rfl rfl rfl rfl rfl ⟨rfl,rfl,rfl,rfl,rfl⟩ rfl rfl rfl rfl rfl (by kernel_rfl) Tryz.func4 (by kernel_rfl)
  (of_decide_eq_true (by kernel_rfl)) (by unfold Func.isWrapper;first | (rw[if_pos (by decide+kernel)];kernel_rfl) | (rw[if_neg (by decide+kernel)];exact⟨rfl,rfl⟩))
  (fun os started H enc _=>lifted os started H enc)
theorem proved:Rows.ReadNearCardSaid:=
 Claim7.holds_tied_plain_at .later [] [.data,.pinned] true (true, "31ac09f26eb46653997bf7b1a25a1b963717dca66fe8b1d69e71ac9434e90ef4") true
  row_holds (fun _ h=>by cases h) (by kernel_rfl) (fun _ h=>by cases h) readNear_row_tie rfl ⟨rfl,rfl⟩ (by kernel_rfl) rfl
  (fun f fn hf hfn=>by
   obtain rfl:f=4:=Option.some.inj ((show Tryz.prog.funcNamed "tiller/tillerlaw13.ReadNear" =some 4 by kernel_rfl).symm.trans hf) |>.symm;obtain rfl:fn=Tryz.f4:=(Option.some.inj (Tryz.func4.symm.trans hfn)).symm;exact⟨by kernel_rfl,fun j t ht=>by
    rw[Tryz.params4] at ht;have hm:t∈[23,34,3]:=by simpa using Array.mem_of_getElem? ht
    have hall:([23,34,3].all fun u=> !Tryz.prog.wantsStandIn u)=true:=by kernel_rfl
    exact (show Tryz.prog.wantsStandIn t=false by simpa using List.all_eq_true.1 hall t hm)⟩)
  (by kernel_rfl)
end Go.Proofs.YtjlponbdflkbjaaGreatDoor.readNear
