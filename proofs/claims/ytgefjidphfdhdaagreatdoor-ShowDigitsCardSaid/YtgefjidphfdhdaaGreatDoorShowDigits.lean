/-
  PROVED HERE: the tied card of tillerlaw14.ShowDigits: for every input the law returns true, and each argument reads afterwards as it read before: any pattern as a text of any number of digits, by any mode, or the error, is the document's. Its condition: the variable errors.errorType and the tables of unicode/utf8, math/bits and internal/strconv hold what the program's own text lays there (tied, by the given text).
-/
import Derived.Test.YtgefjidphfdhdaaGreatDoorG20
import Derived.Test.YtgefjidphfdhdaaGreatDoorRows
import Derived.Test.YtgefjidphfdhdaaGreatDoorCards
import Derived.Test.YtgefjidphfdhdaaGreatDoorTie
import Derived.Lay
import Derived.ChangeMaps5
import Derived.MakeChecks
import Derived.ChangeVars
import Derived.JoinedOf
import Derived.LaidLaws
import Derived.LaidHandle
import Derived.Stop.Joined
import Derived.SevenTiedAt
namespace Go.Proofs.YtgefjidphfdhdaaGreatDoor.showDigits
open Go.KRun Go.Pt Go.ChangeShapes Go.WideShapes Go.ChangeAt Go.RowKit Go.Rd
set_option linter.unusedVariables false
theorem own:ownKnob Tryz.prog.godebug=none:=by kernel_rfl
theorem et:Tryz.prog.globalNamed "errors.errorType" =some 0:=by kernel_rfl
theorem rt:(Tryz.prog.cutTypes.find? (·.1== "internal/reflectlite.rtype")).map (·.2)=some 194:=by kernel_rfl
theorem oneRow:((List.range 297).filter fun t=>Tryz.prog.rowNamed t [101,114,114,111,114])=[27]:=by kernel_rfl
theorem size:Tryz.prog.types.size=297:=by kernel_rfl
def plain:List (String×DataW Unit):=Rows.showDigitsRow.laid.eraseIdx 4
theorem known_of {W:World}(h:laidMetH Tryz.prog Rows.showDigitsRow.laid W):ZdB W:=by
 have h':laidMet Tryz.prog plain W∧handlesMet Tryz.prog [("errors.errorType",Rows.laid_errors_errorType)] W:=h;obtain⟨name,u,ty,e1,e2,e3,e4,e5⟩:=h'.2 _ (List.mem_singleton.2 rfl);have en:name=[101,114,114,111,114]:=(Option.some.inj e1).symm;subst en;obtain rfl:=Option.some.inj (rt.symm.trans e2);have hm:ty∈(List.range 297).filter fun t=>Tryz.prog.rowNamed t [101,114,114,111,114]:=List.mem_filter.2 ⟨List.mem_range.2 (by rw[← size];exact e3),e4⟩;rw[oneRow] at hm;obtain rfl:=List.mem_singleton.1 hm;have hh:typeHandle Tryz.prog 27= .pointer (some ⟨7,27,none⟩):=by kernel_rfl
 rw[hh] at e5;unfold ZdB Zln;simpa using World.var?_cell et e5 0
def laidIn (w:World):World:={w with heap:=w.heap.modify 0 fun
 | .cells _ t frozen=> .cells #[Zln] t frozen
 | o=>o}
theorem plain_met (os:Os) (args:Array Value):laidMet Tryz.prog plain (((laidIn (World.holding Tryz.prog os ⟨#[],#[],[]⟩)).layVars Tryz.prog plain).forCall (fun _ _=>0) ⟨#[],args,[]⟩).memory:=by
 have e1:(plain.filter fun x=>(plain.map (·.1)).contains x.1)=plain:=List.filter_eq_self.2 fun x hx=>List.contains_iff_mem.2 (List.mem_map.2 ⟨x,hx,rfl⟩);have e2:(plain.filter fun x=> !(plain.map (·.1)).contains x.1)=[]:=List.filter_eq_nil_iff.2 fun x hx=>by rw[List.contains_iff_mem.2 (List.mem_map.2 ⟨x,hx,rfl⟩)];simp
 have h:laidMet Tryz.prog plain ((laidIn (World.holding Tryz.prog os ⟨#[],#[],[]⟩)).layVars Tryz.prog plain):=laidMet_layVars (w0:=laidIn (World.holding Tryz.prog os ⟨#[],#[],[]⟩)) (plain.map (·.1)) [] (by rw[e1]) (by rw[e1];kernel_rfl) (by rw[e1];kernel_rfl) (by rw[e2];exact LaidIn.none);exact h.of_heap (by simp [World.memory,World.forCall,Input.heap])
theorem wit_met (os:Os) (args:Array Value):laidMetH Tryz.prog Rows.showDigitsRow.laid (((laidIn (World.holding Tryz.prog os ⟨#[],#[],[]⟩)).layVars Tryz.prog plain).forCall (fun _ _=>0) ⟨#[],args,[]⟩).memory:=
 laidMetH_of_parts (show laidMet Tryz.prog plain _ from plain_met os args) (by kernel_rfl)
theorem kn_of {W:World}(h:laidMetH Tryz.prog Rows.showDigitsRow.laid W):knT W:=by
 have h':laidMet Tryz.prog plain W∧handlesMet Tryz.prog [("errors.errorType",Rows.laid_errors_errorType)] W:=h;exact ZrL h'.1 (List.mem_cons_of_mem _ (List.mem_cons_of_mem _ List.mem_cons_self)) (by kernel_rfl) (by kernel_rfl)
set_option maxRecDepth 100000 in
theorem lifted (os:Os) (started:os.Started) (H:Type) (enc:TypeId×Value→H):
  ReturnsInHanded {} Tryz.checked os 4 .any (fun w args=>(Rows.showDigitsSpec.pre enc Tryz.prog Tryz.f4 [] false w args∧laidMetH Tryz.prog Rows.showDigitsRow.laid w)∧sizedMet enc Tryz.prog Tryz.f4 (OpenSpec.ofChange Rows.showDigitsSpec) false w args)
   (Rows.showDigitsSpec.post enc Tryz.prog Tryz.f4 false true false false):=by
 refine returnsInHanded_of_change_and (C:=Tryz.checked) (X:=fun w _=>laidMetH Tryz.prog Rows.showDigitsRow.laid w) (fun _ _ _ hh h=>h.of_heap hh) own started (by kernel_rfl) Tryz.func4
  (ChangeSpec.witness_shaped (enc:=enc) (C:=Tryz.checked) (os:=os) (X:=fun w _=>laidMetH Tryz.prog Rows.showDigitsRow.laid w) false ((laidIn (World.holding Tryz.prog os ⟨#[],#[],[]⟩)).layVars Tryz.prog plain) #[.int .u64 0,.int .i64 0,.int .i64 0] 8 (World.layVars_os _ _ _)
   (World.shaped_of_ZipB (by kernel_rfl) (by kernel_rfl)) (by kernel_rfl) (by kernel_rfl) (by kernel_rfl)
   (wit_met os _)) ?_
 intro W base args ds gs before hval0 hW _ _ hL _;have hval:∀ (j:Nat) t v,Tryz.f4.params[j]? =some t→args[j]? =some v→Value.okWide Tryz.prog W .any base t v:=hval0;have hW':=hW;obtain⟨p,q,hA0,hV,rfl,hfz,hnd⟩:=hW;have hA:DataW.TrodAll enc Tryz.prog W 0 (fun _=>true) true Tryz.f4.params.toList args.toList ds p:=hA0;rw[Tryz.params4] at hA hval;obtain⟨v0,v1,v2,d0,d1,d2,p0,p1,p2,rfl,rfl,rfl,h0,h1,h2⟩:=trodAll_three hA;obtain⟨rfl,rfl⟩:=trodVars_none hV;obtain⟨x0,rfl,rfl,rfl,w0⟩:=open_int Tryz.underlying22 (hval 0 22 v0 rfl rfl) h0;obtain⟨x1,rfl,rfl,rfl,w1⟩:=open_int Tryz.underlying3 (hval 1 3 v1 rfl rfl) h1;obtain⟨x2,rfl,rfl,rfl,w2⟩:=open_int Tryz.underlying3 (hval 2 3 v2 rfl rfl) h2;clear hA0 hval0;simp only[List.append_nil] at hW';refine (ZjL x0 x1 x2 (Zjp w0) W (known_of hL) (kn_of hL)).mono fun e W' ⟨he,hg⟩=> ?_;subst he;exact⟨_,rfl,Zos hW' (fun _ _ _=>trodAll_mk1 (shut_bool Tryz.underlying4 _))
  (fun sp=>trodAll_mk3 (shut_int Tryz.underlying22 w0) (shut_int Tryz.underlying3 w1) (shut_int Tryz.underlying3 w2)) (fun _=>rfl)
  (hg.1.frame _) (ok_one (by kernel_rfl) rfl (okWide_bool_mk Tryz.underlying4 _))⟩
theorem row_holds:Rows.ShowDigitsSaid:=
 OpenClaim.holds_of_wide 4 Tryz.f4 rfl rfl rfl rfl rfl rfl rfl ⟨rfl,rfl,rfl,rfl,rfl⟩ rfl rfl rfl rfl rfl (by kernel_rfl) Tryz.func4 (by kernel_rfl)
  (of_decide_eq_true (by kernel_rfl)) (by unfold Func.isWrapper;first | (rw[if_pos (by decide+kernel)];kernel_rfl) | (rw[if_neg (by decide+kernel)];exact⟨rfl,rfl⟩))
  (fun os started H enc _=>lifted os started H enc)
theorem proved:Rows.ShowDigitsCardSaid:=
 Claim7.holds_tied_plain_at .later [] [.data,.data,.data,.data,.handle,.pinned] true (true, "b2308db712d87b9f5fbc650312506420aa9c9e793eaee373ee474e84c5fb15fd") true
  row_holds (fun _ h=>by cases h) (by kernel_rfl) (fun _ h=>by cases h) showDigits_row_tie rfl ⟨rfl,rfl⟩ (by kernel_rfl) rfl
  (fun f fn hf hfn=>by
   obtain rfl:f=4:=Option.some.inj ((show Tryz.prog.funcNamed "tiller/tillerlaw14.ShowDigits" =some 4 by kernel_rfl).symm.trans hf) |>.symm;obtain rfl:fn=Tryz.f4:=(Option.some.inj (Tryz.func4.symm.trans hfn)).symm;exact⟨by kernel_rfl,fun j t ht=>by
    rw[Tryz.params4] at ht;have hm:t∈[22,3,3]:=by simpa using Array.mem_of_getElem? ht
    have hall:([22,3,3].all fun u=> !Tryz.prog.wantsStandIn u)=true:=by kernel_rfl
    exact (show Tryz.prog.wantsStandIn t=false by simpa using List.all_eq_true.1 hall t hm)⟩)
  (by kernel_rfl)
end Go.Proofs.YtgefjidphfdhdaaGreatDoor.showDigits
