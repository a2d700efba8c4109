/-
  PROVED HERE: the tied card of tillerlaw13.ReadParses: for every input the law returns true, and each argument reads afterwards as it read before: the pattern of any text, by any mode, and the flags, or the error, are the document's. Its condition: the variable errors.errorType and the tables of unicode/utf8 hold what the program's own text lays there (tied, by the given text).
-/
import Derived.Test.YtjlponbdflkbjaaGreatDoorG22
import Derived.Test.YtjlponbdflkbjaaGreatDoorRows
import Derived.Test.YtjlponbdflkbjaaGreatDoorCards
import Derived.Test.YtjlponbdflkbjaaGreatDoorTie
import Derived.Lay
import Derived.ChangeMaps5
import Derived.MakeChecks
import Derived.ChangeSame
import Derived.ChangeVars
import Derived.JoinedOf
import Derived.RowKit
import Derived.LaidLaws
import Derived.LaidHandle
import Derived.Stop.Joined
import Derived.SevenTiedAt
namespace Go.Proofs.YtjlponbdflkbjaaGreatDoor.readParses
open Go.KRun Go.Pt Go.ChangeShapes Go.WideShapes Go.ChangeAt Go.RowKit Go.Rd
set_option linter.unusedVariables false
theorem own:ownKnob Tryz.prog.godebug=none:=by kernel_rfl
theorem et:Tryz.prog.globalNamed "errors.errorType" =some 0:=by kernel_rfl
theorem rt:(Tryz.prog.cutTypes.find? (·.1== "internal/reflectlite.rtype")).map (·.2)=some 154:=by kernel_rfl
theorem oneRow:((List.range 242).filter fun t=>Tryz.prog.rowNamed t [101,114,114,111,114])=[26]:=by kernel_rfl
theorem size:Tryz.prog.types.size=242:=by kernel_rfl
def plain:List (String×DataW Unit):=[("unicode/utf8.acceptRanges",Rows.laid_unicode_utf8_acceptRanges),("unicode/utf8.first",Rows.laid_unicode_utf8_first)]
theorem known_of {W:World}(h:laidMetH Tryz.prog Rows.readParsesRow.laid W):Ze7 W:=by
 have h':laidMet Tryz.prog plain W∧handlesMet Tryz.prog [("errors.errorType",Rows.laid_errors_errorType)] W:=h;obtain⟨name,u,ty,e1,e2,e3,e4,e5⟩:=h'.2 _ (List.mem_singleton.2 rfl);have en:name=[101,114,114,111,114]:=(Option.some.inj e1).symm;subst en;obtain rfl:=Option.some.inj (rt.symm.trans e2);have hm:ty∈(List.range 242).filter fun t=>Tryz.prog.rowNamed t [101,114,114,111,114]:=List.mem_filter.2 ⟨List.mem_range.2 (by rw[← size];exact e3),e4⟩;rw[oneRow] at hm;obtain rfl:=List.mem_singleton.1 hm;have hh:typeHandle Tryz.prog 26= .pointer (some ⟨4,26,none⟩):=by kernel_rfl
 rw[hh] at e5;unfold Ze7 Zmj;simpa using World.var?_cell et e5 0
def laidIn (w:World):World:={w with heap:=w.heap.modify 0 fun
 | .cells _ t frozen=> .cells #[Zmj] t frozen
 | o=>o}
theorem plain_met (os:Os) (args:Array Value):laidMet Tryz.prog plain (((laidIn (World.holding Tryz.prog os ⟨#[],#[],[]⟩)).layVars Tryz.prog plain).forCall (fun _ _=>0) ⟨#[],args,[]⟩).memory:=by
 have e1:(plain.filter fun x=>(plain.map (·.1)).contains x.1)=plain:=List.filter_eq_self.2 fun x hx=>List.contains_iff_mem.2 (List.mem_map.2 ⟨x,hx,rfl⟩);have e2:(plain.filter fun x=> !(plain.map (·.1)).contains x.1)=[]:=List.filter_eq_nil_iff.2 fun x hx=>by rw[List.contains_iff_mem.2 (List.mem_map.2 ⟨x,hx,rfl⟩)];simp
 have h:laidMet Tryz.prog plain ((laidIn (World.holding Tryz.prog os ⟨#[],#[],[]⟩)).layVars Tryz.prog plain):=laidMet_layVars (w0:=laidIn (World.holding Tryz.prog os ⟨#[],#[],[]⟩)) (plain.map (·.1)) [] (by rw[e1]) (by rw[e1];kernel_rfl) (by rw[e1];kernel_rfl) (by rw[e2];exact LaidIn.none);exact h.of_heap (by simp [World.memory,World.forCall,Input.heap])
theorem wit_met (os:Os) (args:Array Value):laidMetH Tryz.prog Rows.readParsesRow.laid (((laidIn (World.holding Tryz.prog os ⟨#[],#[],[]⟩)).layVars Tryz.prog plain).forCall (fun _ _=>0) ⟨#[],args,[]⟩).memory:=
 laidMetH_of_parts (show laidMet Tryz.prog plain _ from plain_met os args) (by kernel_rfl)
set_option maxRecDepth 100000 in
theorem lifted (os:Os) (started:os.Started) (H:Type) (enc:TypeId×Value→H):
  ReturnsInHanded {} Tryz.checked os 3 .any (fun w args=>(Rows.readParsesSpec.pre enc Tryz.prog Tryz.f3 [] false w args∧laidMetH Tryz.prog Rows.readParsesRow.laid w)∧sizedMet enc Tryz.prog Tryz.f3 (OpenSpec.ofChange Rows.readParsesSpec) false w args)
   (Rows.readParsesSpec.post enc Tryz.prog Tryz.f3 false true false false):=by
 refine returnsInHanded_of_change_and (C:=Tryz.checked) (X:=fun w _=>laidMetH Tryz.prog Rows.readParsesRow.laid w) (fun _ _ _ hh h=>h.of_heap hh) own started (by kernel_rfl) Tryz.func3
  (ChangeSpec.witness_shaped (enc:=enc) (C:=Tryz.checked) (os:=os) (X:=fun w _=>laidMetH Tryz.prog Rows.readParsesRow.laid w) false ((laidIn (World.holding Tryz.prog os ⟨#[],#[],[]⟩)).layVars Tryz.prog plain) #[.string ⟨#[]⟩,.int .i64 0] 8 (World.layVars_os _ _ _)
   (World.shaped_of_ZipB (by kernel_rfl) (by kernel_rfl)) (by kernel_rfl) (by kernel_rfl) (by kernel_rfl)
   (wit_met os _)) ?_
 intro W base args ds gs before hval0 hW _ _ hL _;have hval:∀ (j:Nat) t v,Tryz.f3.params[j]? =some t→args[j]? =some v→Value.okWide Tryz.prog W .any base t v:=hval0;have hW':=hW;obtain⟨p,q,hA0,hV,rfl,hfz,hnd⟩:=hW;have hA:DataW.TrodAll enc Tryz.prog W 0 (fun _=>true) true Tryz.f3.params.toList args.toList ds p:=hA0;rw[Tryz.params3] at hA hval;obtain⟨v0,v1,d0,d1,p0,p1,rfl,rfl,rfl,h0,h1⟩:=trodAll_two hA;obtain⟨rfl,rfl⟩:=trodVars_none hV;obtain⟨s0,rfl,rfl,rfl,z0⟩:=Go.ChangeMaps.open_string Tryz.underlying9 (hval 0 9 v0 rfl rfl) h0;obtain⟨x1,rfl,rfl,rfl,w1⟩:=open_int Tryz.underlying3 (hval 1 3 v1 rfl rfl) h1;clear hA0 hval0;simp only[List.append_nil] at hW';refine (ZgY s0.data.toList x1 W (known_of hL)).mono fun e W' ⟨he,hg⟩=> ?_;subst he;exact⟨_,rfl,post_of_same (pa:=[]) (pv:=[]) hW' (fun _ _ _=>trodAll_mk1 (shut_bool Tryz.underlying4 _))
  (fun sp _=>trodAll_mk2 (Go.ChangeMaps.shut_string Tryz.underlying9 z0) (shut_int Tryz.underlying3 w1)) (fun _ _=>rfl) rfl
  (hg.1.frame _) (Zhv hg) (ok_one (by kernel_rfl) rfl (okWide_bool_mk Tryz.underlying4 _))⟩
theorem row_holds:Rows.ReadParsesSaid:=
 OpenClaim.holds_of_wide 3 Tryz.f3 rfl rfl rfl rfl rfl rfl rfl ⟨rfl,rfl,rfl,rfl,rfl⟩ rfl rfl rfl rfl rfl (by kernel_rfl) Tryz.func3 (by kernel_rfl)
  (of_decide_eq_true (by kernel_rfl)) (by unfold Func.isWrapper;first | (rw[if_pos (by decide+kernel)];kernel_rfl) | (rw[if_neg (by decide+kernel)];exact⟨rfl,rfl⟩))
  (fun os started H enc _=>lifted os started H enc)
theorem proved:Rows.ReadParsesCardSaid:=
 Claim7.holds_tied_plain_at .later [] [.data,.handle,.pinned] true (true, "31ac09f26eb46653997bf7b1a25a1b963717dca66fe8b1d69e71ac9434e90ef4") true
  row_holds (fun _ h=>by cases h) (by kernel_rfl) (fun _ h=>by cases h) readParses_row_tie rfl ⟨rfl,rfl⟩ (by kernel_rfl) rfl
  (fun f fn hf hfn=>by
   obtain rfl:f=3:=Option.some.inj ((show Tryz.prog.funcNamed "tiller/tillerlaw13.ReadParses" =some 3 by kernel_rfl).symm.trans hf) |>.symm;obtain rfl:fn=Tryz.f3:=(Option.some.inj (Tryz.func3.symm.trans hfn)).symm;exact⟨by kernel_rfl,fun j t ht=>by
    rw[Tryz.params3] at ht;have hm:t∈[9,3]:=by simpa using Array.mem_of_getElem? ht
    have hall:([9,3].all fun u=> !Tryz.prog.wantsStandIn u)=true:=by kernel_rfl
    exact (show Tryz.prog.wantsStandIn t=false by simpa using List.all_eq_true.1 hall t hm)⟩)
  (by kernel_rfl)
end Go.Proofs.YtjlponbdflkbjaaGreatDoor.readParses
