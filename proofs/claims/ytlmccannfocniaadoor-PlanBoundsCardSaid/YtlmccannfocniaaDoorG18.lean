/-
  PlQ, RowS, RowQ, RowT
-/
import Derived.Test.YtlmccannfocniaaDoorG17
import Derived.ProofKit
import Derived.OpenShut
import Derived.Laws.IdiomArrays
import Derived.Lib.SmallJoins
import Derived.ChangeSlices
import Derived.SizedLaws
import Derived.ChangeSame
namespace Go.Proofs.YtlmccannfocniaaDoor
open Go.KRun Go.RowKit Go.Pl
set_option maxRecDepth 100000
def ds3 (F : Func) : Code := cSnd (cSnd (cSnd (cBody F)))
def dsA (F : Func) : Code := cThn (cSnd (cFst (ds3 F)))
def dsL (F : Func) : Code := cIn (cIn (cSnd (cFst (dsA F))))
def dsAA (F : Func) : Code := .seq (.seq (cFst (cFst (dsA F))) (.block 0 (.loop (dsL F)))) (cSnd (dsA F))
def dsAll (F : Func) : Code := .seq (cFst (cBody F)) (.seq (cFst (cSnd (cBody F))) (.seq (cFst (cSnd (cSnd (cBody F)))) (.seq (.seq (cFst (cFst (ds3 F))) (.cond (.tmp 12) (dsAA F) .skip)) (cSnd (ds3 F)))))
theorem ds_body : Tryd.f17.body = some (dsAll Tryd.f17) := by kernel_rfl
theorem ds_body0 : Tryd.f17.body = some (cBody Tryd.f17) := by kernel_rfl
theorem ds_f (x : List Value × TypeId) (p : Option Addr) (n c : Nat) (N P : Int) : GoesT (evC (tabH Tryd.prog extY conN hcDb) 100 false (cBody Tryd.f17) ([plnV N p n c P] ++ List.replicate 51 undef, hTR x, [cmp false]) ⟨[], [], []⟩) 4 48 (some none) ([plnV N p n c P, .pointer (some ⟨2, 0, none⟩), .int .i64 0, .int .i64 10]) (hC3 N P p n c x) [(ckB N P (rowO (hC3 N P p n c x) p n), false), (rowIP (hC3 N P p n c x) p n, true)] := ⟨by kernel_rfl, by kernel_rfl, by kernel_rfl⟩
theorem ds_p0 (x : List Value × TypeId) (p : Option Addr) (n c : Nat) (N : Int) : GoesT (evC (tabH Tryd.prog extY conN hcDb) 100 false (cBody Tryd.f17) ([plnV N p n c 1] ++ List.replicate 51 undef, hTR x, [cmp true]) ⟨[], [], []⟩) 4 48 (some none) ([plnV N p n c 1, .pointer (some ⟨2, 0, none⟩), .int .i64 0, .int .i64 0]) (hC3 N 1 p n c x) [(ckB N 1 (rowO (hC3 N 1 p n c x) p n), true), (rowIP (hC3 N 1 p n c x) p n, true)] := ⟨by kernel_rfl, by kernel_rfl, by kernel_rfl⟩
theorem ds_p1 (x : List Value × TypeId) (p : Option Addr) (n c : Nat) (N : Int) : GoesT (evC (tabH Tryd.prog extY conN hcDb) 100 false (cBody Tryd.f17) ([plnV N p n c 2] ++ List.replicate 51 undef, hTR x, [cmp true]) ⟨[], [], []⟩) 4 48 (some none) ([plnV N p n c 2, .pointer (some ⟨2, 0, none⟩), .int .i64 2, .int .i64 0]) (hC3 N 2 p n c x) [(ckB N 2 (rowO (hC3 N 2 p n c x) p n), true), (rowIP (hC3 N 2 p n c x) p n, true)] := ⟨by kernel_rfl, by kernel_rfl, by kernel_rfl⟩
theorem ds_p2 (x : List Value × TypeId) (p : Option Addr) (n c : Nat) (N : Int) : GoesT (evC (tabH Tryd.prog extY conN hcDb) 100 false (cBody Tryd.f17) ([plnV N p n c 4] ++ List.replicate 51 undef, hTR x, [cmp true]) ⟨[], [], []⟩) 4 48 (some none) ([plnV N p n c 4, .pointer (some ⟨2, 0, none⟩), .int .i64 2, .int .i64 0]) (hC3 N 4 p n c x) [(ckB N 4 (rowO (hC3 N 4 p n c x) p n), true), (rowIP (hC3 N 4 p n c x) p n, true)] := ⟨by kernel_rfl, by kernel_rfl, by kernel_rfl⟩
theorem ds_p3 (x : List Value × TypeId) (p : Option Addr) (n c : Nat) (N : Int) : GoesT (evC (tabH Tryd.prog extY conN hcDb) 100 false (cBody Tryd.f17) ([plnV N p n c 8] ++ List.replicate 51 undef, hTR x, [cmp true]) ⟨[], [], []⟩) 4 48 (some none) ([plnV N p n c 8, .pointer (some ⟨2, 0, none⟩), .int .i64 12, .int .i64 0]) (hC3 N 8 p n c x) [(ckB N 8 (rowO (hC3 N 8 p n c x) p n), true), (rowIP (hC3 N 8 p n c x) p n, true)] := ⟨by kernel_rfl, by kernel_rfl, by kernel_rfl⟩
theorem ds_p4 (x : List Value × TypeId) (p : Option Addr) (n c : Nat) (N : Int) : GoesT (evC (tabH Tryd.prog extY conN hcDb) 100 false (cBody Tryd.f17) ([plnV N p n c 16] ++ List.replicate 51 undef, hTR x, [cmp true]) ⟨[], [], []⟩) 4 48 (some none) ([plnV N p n c 16, .pointer (some ⟨2, 0, none⟩), .int .i64 16, .int .i64 0]) (hC3 N 16 p n c x) [(ckB N 16 (rowO (hC3 N 16 p n c x) p n), true), (rowIP (hC3 N 16 p n c x) p n, true)] := ⟨by kernel_rfl, by kernel_rfl, by kernel_rfl⟩
theorem ds_p5 (x : List Value × TypeId) (p : Option Addr) (n c : Nat) (N : Int) : GoesT (evC (tabH Tryd.prog extY conN hcDb) 100 false (cBody Tryd.f17) ([plnV N p n c 32] ++ List.replicate 51 undef, hTR x, [cmp true]) ⟨[], [], []⟩) 4 48 (some none) ([plnV N p n c 32, .pointer (some ⟨2, 0, none⟩), .int .i64 64, .int .i64 0]) (hC3 N 32 p n c x) [(ckB N 32 (rowO (hC3 N 32 p n c x) p n), true), (rowIP (hC3 N 32 p n c x) p n, true)] := ⟨by kernel_rfl, by kernel_rfl, by kernel_rfl⟩
theorem ds_p6 (x : List Value × TypeId) (p : Option Addr) (n c : Nat) (N : Int) : GoesT (evC (tabH Tryd.prog extY conN hcDb) 100 false (cBody Tryd.f17) ([plnV N p n c 64] ++ List.replicate 51 undef, hTR x, [cmp true]) ⟨[], [], []⟩) 4 48 (some none) ([plnV N p n c 64, .pointer (some ⟨2, 0, none⟩), .int .i64 96, .int .i64 0]) (hC3 N 64 p n c x) [(ckB N 64 (rowO (hC3 N 64 p n c x) p n), true), (rowIP (hC3 N 64 p n c x) p n, true)] := ⟨by kernel_rfl, by kernel_rfl, by kernel_rfl⟩
theorem ds_p7 (x : List Value × TypeId) (p : Option Addr) (n c : Nat) (N : Int) : GoesT (evC (tabH Tryd.prog extY conN hcDb) 100 false (cBody Tryd.f17) ([plnV N p n c 128] ++ List.replicate 51 undef, hTR x, [cmp true]) ⟨[], [], []⟩) 4 48 (some none) ([plnV N p n c 128, .pointer (some ⟨2, 0, none⟩), .int .i64 320, .int .i64 0]) (hC3 N 128 p n c x) [(ckB N 128 (rowO (hC3 N 128 p n c x) p n), true), (rowIP (hC3 N 128 p n c x) p n, true)] := ⟨by kernel_rfl, by kernel_rfl, by kernel_rfl⟩
theorem ds_p8 (x : List Value × TypeId) (p : Option Addr) (n c : Nat) (N : Int) : GoesT (evC (tabH Tryd.prog extY conN hcDb) 100 false (cBody Tryd.f17) ([plnV N p n c 256] ++ List.replicate 51 undef, hTR x, [cmp true]) ⟨[], [], []⟩) 4 48 (some none) ([plnV N p n c 256, .pointer (some ⟨2, 0, none⟩), .int .i64 512, .int .i64 0]) (hC3 N 256 p n c x) [(ckB N 256 (rowO (hC3 N 256 p n c x) p n), true), (rowIP (hC3 N 256 p n c x) p n, true)] := ⟨by kernel_rfl, by kernel_rfl, by kernel_rfl⟩
theorem ds_p9 (x : List Value × TypeId) (p : Option Addr) (n c : Nat) (N : Int) : GoesT (evC (tabH Tryd.prog extY conN hcDb) 100 false (cBody Tryd.f17) ([plnV N p n c 512] ++ List.replicate 51 undef, hTR x, [cmp true]) ⟨[], [], []⟩) 4 48 (some none) ([plnV N p n c 512, .pointer (some ⟨2, 0, none⟩), .int .i64 1536, .int .i64 0]) (hC3 N 512 p n c x) [(ckB N 512 (rowO (hC3 N 512 p n c x) p n), true), (rowIP (hC3 N 512 p n c x) p n, true)] := ⟨by kernel_rfl, by kernel_rfl, by kernel_rfl⟩
theorem ds_p10 (x : List Value × TypeId) (p : Option Addr) (n c : Nat) (N : Int) : GoesT (evC (tabH Tryd.prog extY conN hcDb) 100 false (cBody Tryd.f17) ([plnV N p n c 1024] ++ List.replicate 51 undef, hTR x, [cmp true]) ⟨[], [], []⟩) 4 48 (some none) ([plnV N p n c 1024, .pointer (some ⟨2, 0, none⟩), .int .i64 2560, .int .i64 0]) (hC3 N 1024 p n c x) [(ckB N 1024 (rowO (hC3 N 1024 p n c x) p n), true), (rowIP (hC3 N 1024 p n c x) p n, true)] := ⟨by kernel_rfl, by kernel_rfl, by kernel_rfl⟩
theorem ds_p11 (x : List Value × TypeId) (p : Option Addr) (n c : Nat) (N : Int) : GoesT (evC (tabH Tryd.prog extY conN hcDb) 100 false (cBody Tryd.f17) ([plnV N p n c 2048] ++ List.replicate 51 undef, hTR x, [cmp true]) ⟨[], [], []⟩) 4 48 (some none) ([plnV N p n c 2048, .pointer (some ⟨2, 0, none⟩), .int .i64 7168, .int .i64 0]) (hC3 N 2048 p n c x) [(ckB N 2048 (rowO (hC3 N 2048 p n c x) p n), true), (rowIP (hC3 N 2048 p n c x) p n, true)] := ⟨by kernel_rfl, by kernel_rfl, by kernel_rfl⟩
theorem ds_p12 (x : List Value × TypeId) (p : Option Addr) (n c : Nat) (N : Int) : GoesT (evC (tabH Tryd.prog extY conN hcDb) 100 false (cBody Tryd.f17) ([plnV N p n c 4096] ++ List.replicate 51 undef, hTR x, [cmp true]) ⟨[], [], []⟩) 4 48 (some none) ([plnV N p n c 4096, .pointer (some ⟨2, 0, none⟩), .int .i64 12288, .int .i64 0]) (hC3 N 4096 p n c x) [(ckB N 4096 (rowO (hC3 N 4096 p n c x) p n), true), (rowIP (hC3 N 4096 p n c x) p n, true)] := ⟨by kernel_rfl, by kernel_rfl, by kernel_rfl⟩
theorem ds_p13 (x : List Value × TypeId) (p : Option Addr) (n c : Nat) (N : Int) : GoesT (evC (tabH Tryd.prog extY conN hcDb) 100 false (cBody Tryd.f17) ([plnV N p n c 8192] ++ List.replicate 51 undef, hTR x, [cmp true]) ⟨[], [], []⟩) 4 48 (some none) ([plnV N p n c 8192, .pointer (some ⟨2, 0, none⟩), .int .i64 32768, .int .i64 0]) (hC3 N 8192 p n c x) [(ckB N 8192 (rowO (hC3 N 8192 p n c x) p n), true), (rowIP (hC3 N 8192 p n c x) p n, true)] := ⟨by kernel_rfl, by kernel_rfl, by kernel_rfl⟩
theorem ds_p14 (x : List Value × TypeId) (p : Option Addr) (n c : Nat) (N : Int) : GoesT (evC (tabH Tryd.prog extY conN hcDb) 100 false (cBody Tryd.f17) ([plnV N p n c 16384] ++ List.replicate 51 undef, hTR x, [cmp true]) ⟨[], [], []⟩) 4 48 (some none) ([plnV N p n c 16384, .pointer (some ⟨2, 0, none⟩), .int .i64 57344, .int .i64 0]) (hC3 N 16384 p n c x) [(ckB N 16384 (rowO (hC3 N 16384 p n c x) p n), true), (rowIP (hC3 N 16384 p n c x) p n, true)] := ⟨by kernel_rfl, by kernel_rfl, by kernel_rfl⟩
theorem ds_p15 (x : List Value × TypeId) (p : Option Addr) (n c : Nat) (N : Int) : GoesT (evC (tabH Tryd.prog extY conN hcDb) 100 false (cBody Tryd.f17) ([plnV N p n c 32768] ++ List.replicate 51 undef, hTR x, [cmp true]) ⟨[], [], []⟩) 4 48 (some none) ([plnV N p n c 32768, .pointer (some ⟨2, 0, none⟩), .int .i64 147456, .int .i64 0]) (hC3 N 32768 p n c x) [(ckB N 32768 (rowO (hC3 N 32768 p n c x) p n), true), (rowIP (hC3 N 32768 p n c x) p n, true)] := ⟨by kernel_rfl, by kernel_rfl, by kernel_rfl⟩
theorem ds_p16 (x : List Value × TypeId) (p : Option Addr) (n c : Nat) (N : Int) : GoesT (evC (tabH Tryd.prog extY conN hcDb) 100 false (cBody Tryd.f17) ([plnV N p n c 65536] ++ List.replicate 51 undef, hTR x, [cmp true]) ⟨[], [], []⟩) 4 48 (some none) ([plnV N p n c 65536, .pointer (some ⟨2, 0, none⟩), .int .i64 262144, .int .i64 0]) (hC3 N 65536 p n c x) [(ckB N 65536 (rowO (hC3 N 65536 p n c x) p n), true), (rowIP (hC3 N 65536 p n c x) p n, true)] := ⟨by kernel_rfl, by kernel_rfl, by kernel_rfl⟩
theorem ds_p17 (x : List Value × TypeId) (p : Option Addr) (n c : Nat) (N : Int) : GoesT (evC (tabH Tryd.prog extY conN hcDb) 100 false (cBody Tryd.f17) ([plnV N p n c 131072] ++ List.replicate 51 undef, hTR x, [cmp true]) ⟨[], [], []⟩) 4 48 (some none) ([plnV N p n c 131072, .pointer (some ⟨2, 0, none⟩), .int .i64 655360, .int .i64 0]) (hC3 N 131072 p n c x) [(ckB N 131072 (rowO (hC3 N 131072 p n c x) p n), true), (rowIP (hC3 N 131072 p n c x) p n, true)] := ⟨by kernel_rfl, by kernel_rfl, by kernel_rfl⟩
theorem ds_p18 (x : List Value × TypeId) (p : Option Addr) (n c : Nat) (N : Int) : GoesT (evC (tabH Tryd.prog extY conN hcDb) 100 false (cBody Tryd.f17) ([plnV N p n c 262144] ++ List.replicate 51 undef, hTR x, [cmp true]) ⟨[], [], []⟩) 4 48 (some none) ([plnV N p n c 262144, .pointer (some ⟨2, 0, none⟩), .int .i64 1179648, .int .i64 0]) (hC3 N 262144 p n c x) [(ckB N 262144 (rowO (hC3 N 262144 p n c x) p n), true), (rowIP (hC3 N 262144 p n c x) p n, true)] := ⟨by kernel_rfl, by kernel_rfl, by kernel_rfl⟩
theorem ds_p19 (x : List Value × TypeId) (p : Option Addr) (n c : Nat) (N : Int) : GoesT (evC (tabH Tryd.prog extY conN hcDb) 100 false (cBody Tryd.f17) ([plnV N p n c 524288] ++ List.replicate 51 undef, hTR x, [cmp true]) ⟨[], [], []⟩) 4 48 (some none) ([plnV N p n c 524288, .pointer (some ⟨2, 0, none⟩), .int .i64 2883584, .int .i64 0]) (hC3 N 524288 p n c x) [(ckB N 524288 (rowO (hC3 N 524288 p n c x) p n), true), (rowIP (hC3 N 524288 p n c x) p n, true)] := ⟨by kernel_rfl, by kernel_rfl, by kernel_rfl⟩
theorem ds_p20 (x : List Value × TypeId) (p : Option Addr) (n c : Nat) (N : Int) : GoesT (evC (tabH Tryd.prog extY conN hcDb) 100 false (cBody Tryd.f17) ([plnV N p n c 1048576] ++ List.replicate 51 undef, hTR x, [cmp true]) ⟨[], [], []⟩) 4 48 (some none) ([plnV N p n c 1048576, .pointer (some ⟨2, 0, none⟩), .int .i64 5242880, .int .i64 0]) (hC3 N 1048576 p n c x) [(ckB N 1048576 (rowO (hC3 N 1048576 p n c x) p n), true), (rowIP (hC3 N 1048576 p n c x) p n, true)] := ⟨by kernel_rfl, by kernel_rfl, by kernel_rfl⟩
theorem ds_p21 (x : List Value × TypeId) (p : Option Addr) (n c : Nat) (N : Int) : GoesT (evC (tabH Tryd.prog extY conN hcDb) 100 false (cBody Tryd.f17) ([plnV N p n c 2097152] ++ List.replicate 51 undef, hTR x, [cmp true]) ⟨[], [], []⟩) 4 48 (some none) ([plnV N p n c 2097152, .pointer (some ⟨2, 0, none⟩), .int .i64 12582912, .int .i64 0]) (hC3 N 2097152 p n c x) [(ckB N 2097152 (rowO (hC3 N 2097152 p n c x) p n), true), (rowIP (hC3 N 2097152 p n c x) p n, true)] := ⟨by kernel_rfl, by kernel_rfl, by kernel_rfl⟩
theorem ds_p22 (x : List Value × TypeId) (p : Option Addr) (n c : Nat) (N : Int) : GoesT (evC (tabH Tryd.prog extY conN hcDb) 100 false (cBody Tryd.f17) ([plnV N p n c 4194304] ++ List.replicate 51 undef, hTR x, [cmp true]) ⟨[], [], []⟩) 4 48 (some none) ([plnV N p n c 4194304, .pointer (some ⟨2, 0, none⟩), .int .i64 23068672, .int .i64 0]) (hC3 N 4194304 p n c x) [(ckB N 4194304 (rowO (hC3 N 4194304 p n c x) p n), true), (rowIP (hC3 N 4194304 p n c x) p n, true)] := ⟨by kernel_rfl, by kernel_rfl, by kernel_rfl⟩
theorem ds_p23 (x : List Value × TypeId) (p : Option Addr) (n c : Nat) (N : Int) : GoesT (evC (tabH Tryd.prog extY conN hcDb) 100 false (cBody Tryd.f17) ([plnV N p n c 8388608] ++ List.replicate 51 undef, hTR x, [cmp true]) ⟨[], [], []⟩) 4 48 (some none) ([plnV N p n c 8388608, .pointer (some ⟨2, 0, none⟩), .int .i64 54525952, .int .i64 0]) (hC3 N 8388608 p n c x) [(ckB N 8388608 (rowO (hC3 N 8388608 p n c x) p n), true), (rowIP (hC3 N 8388608 p n c x) p n, true)] := ⟨by kernel_rfl, by kernel_rfl, by kernel_rfl⟩
theorem ds_p24 (x : List Value × TypeId) (p : Option Addr) (n c : Nat) (N : Int) : GoesT (evC (tabH Tryd.prog extY conN hcDb) 100 false (cBody Tryd.f17) ([plnV N p n c 16777216] ++ List.replicate 51 undef, hTR x, [cmp true]) ⟨[], [], []⟩) 4 48 (some none) ([plnV N p n c 16777216, .pointer (some ⟨2, 0, none⟩), .int .i64 100663296, .int .i64 0]) (hC3 N 16777216 p n c x) [(ckB N 16777216 (rowO (hC3 N 16777216 p n c x) p n), true), (rowIP (hC3 N 16777216 p n c x) p n, true)] := ⟨by kernel_rfl, by kernel_rfl, by kernel_rfl⟩
theorem ds_p25 (x : List Value × TypeId) (p : Option Addr) (n c : Nat) (N : Int) : GoesT (evC (tabH Tryd.prog extY conN hcDb) 100 false (cBody Tryd.f17) ([plnV N p n c 33554432] ++ List.replicate 51 undef, hTR x, [cmp true]) ⟨[], [], []⟩) 4 48 (some none) ([plnV N p n c 33554432, .pointer (some ⟨2, 0, none⟩), .int .i64 234881024, .int .i64 0]) (hC3 N 33554432 p n c x) [(ckB N 33554432 (rowO (hC3 N 33554432 p n c x) p n), true), (rowIP (hC3 N 33554432 p n c x) p n, true)] := ⟨by kernel_rfl, by kernel_rfl, by kernel_rfl⟩
theorem ds_p26 (x : List Value × TypeId) (p : Option Addr) (n c : Nat) (N : Int) : GoesT (evC (tabH Tryd.prog extY conN hcDb) 100 false (cBody Tryd.f17) ([plnV N p n c 67108864] ++ List.replicate 51 undef, hTR x, [cmp true]) ⟨[], [], []⟩) 4 48 (some none) ([plnV N p n c 67108864, .pointer (some ⟨2, 0, none⟩), .int .i64 436207616, .int .i64 0]) (hC3 N 67108864 p n c x) [(ckB N 67108864 (rowO (hC3 N 67108864 p n c x) p n), true), (rowIP (hC3 N 67108864 p n c x) p n, true)] := ⟨by kernel_rfl, by kernel_rfl, by kernel_rfl⟩
theorem ds_0 (x : List Value × TypeId) (p : Option Addr) (n c : Nat) (N : Int) : GoesT (evC (tabH Tryd.prog extY conN hcDb) 100 false (cFst (cBody Tryd.f17)) ([plnV N p n c 0] ++ List.replicate 51 undef, hTR x, []) ⟨[], [], []⟩) 4 48 none ([plnV N p n c 0, .pointer (some ⟨2, 0, none⟩), .int .i64 0, .int .i64 0]) (hC3 N 0 p n c x) [] := ⟨by kernel_rfl, by kernel_rfl, by kernel_rfl⟩
theorem ds_1 (x : List Value × TypeId) (p : Option Addr) (n c : Nat) (N : Int) (g : Nat → Value) : GoesT (evC (tabH Tryd.prog extY conN hcDb) 100 false (cFst (cSnd (cBody Tryd.f17))) ([plnV N p n c 0, .pointer (some ⟨2, 0, none⟩), .int .i64 0, .int .i64 0] ++ tl 48 g, hC3 N 0 p n c x, [cmp true]) ⟨[], [], []⟩) 4 48 none ([plnV N p n c 0, .pointer (some ⟨2, 0, none⟩), .int .i64 0, .int .i64 0]) (hC3 N 0 p n c x) [(ckB N 0 (rowO (hC3 N 0 p n c x) p n), true), (rowIP (hC3 N 0 p n c x) p n, true)] := ⟨by kernel_rfl, by kernel_rfl, by kernel_rfl⟩
theorem ds_2 (x : List Value × TypeId) (p : Option Addr) (n c : Nat) (N : Int) (g : Nat → Value) : GoesT (evC (tabH Tryd.prog extY conN hcDb) 100 false (cFst (cSnd (cSnd (cBody Tryd.f17)))) ([plnV N p n c 0, .pointer (some ⟨2, 0, none⟩), .int .i64 0, .int .i64 0] ++ tl 48 g, hC3 N 0 p n c x, []) ⟨[], [], []⟩) 5 47 none ([plnV N p n c 0, .pointer (some ⟨2, 0, none⟩), .int .i64 0, .int .i64 0, .int .i64 0]) (hC3 N 0 p n c x) [] := ⟨by kernel_rfl, by kernel_rfl, by kernel_rfl⟩
theorem ds_3 (x : List Value × TypeId) (p : Option Addr) (n c : Nat) (N : Int) (g : Nat → Value) : GoesT (evC (tabH Tryd.prog extY conN hcDb) 100 false (cFst (cFst (ds3 Tryd.f17))) ([plnV N p n c 0, .pointer (some ⟨2, 0, none⟩), .int .i64 0, .int .i64 0, .int .i64 0] ++ tl 47 g, hC3 N 0 p n c x, []) ⟨[], [], []⟩) 13 39 none ([plnV N p n c 0, .pointer (some ⟨2, 0, none⟩), .int .i64 0, .int .i64 0, .int .i64 0] ++ [g 0, g 1, g 2, g 3, g 4, .pointer (some ⟨2, 2, none⟩), .int .i64 0, .bool true]) (hC3 N 0 p n c x) [] := ⟨by kernel_rfl, by kernel_rfl, by kernel_rfl⟩
theorem ds_4 (x : List Value × TypeId) (p : Option Addr) (n c : Nat) (N : Int) (g : Nat → Value) : GoesT (evC (tabH Tryd.prog extY conN hcDb) 100 false (cFst (cFst (dsA Tryd.f17))) ([plnV N p n c 0, .pointer (some ⟨2, 0, none⟩), .int .i64 0, .int .i64 0, .int .i64 0] ++ tl 47 g, hC3 N 0 p n c x, []) ⟨[], [], []⟩) 6 46 none ([plnV N p n c 0, .pointer (some ⟨2, 0, none⟩), .int .i64 0, .int .i64 0, .int .i64 0, .int .i64 0]) (hC3 N 0 p n c x) [] := ⟨by kernel_rfl, by kernel_rfl, by kernel_rfl⟩
theorem ds_go (o n c : Nat) (N k r i q : Int) (l : List Value) (g : Nat → Value) : GoesT (evC (tabH Tryd.prog extY conN hcDb) 100 false (dsL Tryd.f17) ([plnV N (some ⟨1, o, none⟩) n c 0, .pointer (some ⟨2, 0, none⟩), .int .i64 0, .int .i64 0, .int .i64 k, .int .i64 i] ++ tl 46 g, hC3 N 0 (some ⟨1, o, none⟩) n c (l, tIR), [cmp true, at_, val (.int .i64 r), num q]) ⟨[], [], []⟩) 6 46 none ([plnV N (some ⟨1, o, none⟩) n c 0, .pointer (some ⟨2, 0, none⟩), .int .i64 0, .int .i64 0, .int .i64 (IntKind.i64.wrap (k + q)), .int .i64 (IntKind.i64.wrap (i + 1))]) (hC3 N 0 (some ⟨1, o, none⟩) n c (l, tIR)) [(decide (r = 0), false), (decide (IntKind.i64.wrap (N.tdiv r) = q), true), (cellIs (l[o + i.toNat * 1]?) (.int .i64 r), true), (decide (0 ≤ i ∧ i < n), true), (decide (i < n), true)] := ⟨by kernel_rfl, by kernel_rfl, by kernel_rfl⟩
theorem ds_out (x : List Value × TypeId) (p : Option Addr) (n c : Nat) (N k i : Int) (g : Nat → Value) : GoesT (evC (tabH Tryd.prog extY conN hcDb) 100 false (dsL Tryd.f17) ([plnV N p n c 0, .pointer (some ⟨2, 0, none⟩), .int .i64 0, .int .i64 0, .int .i64 k, .int .i64 i] ++ tl 46 g, hC3 N 0 p n c x, [cmp false]) ⟨[], [], []⟩) 6 46 (some (some 0)) ([plnV N p n c 0, .pointer (some ⟨2, 0, none⟩), .int .i64 0, .int .i64 0, .int .i64 k, .int .i64 i]) (hC3 N 0 p n c x) [(decide (i < n), false)] := ⟨by kernel_rfl, by kernel_rfl, by kernel_rfl⟩
theorem ds_e (x : List Value × TypeId) (p : Option Addr) (n c : Nat) (N k i : Int) (g : Nat → Value) : GoesT (evC (tabH Tryd.prog extY conN hcDb) 100 false (cSnd (dsA Tryd.f17)) ([plnV N p n c 0, .pointer (some ⟨2, 0, none⟩), .int .i64 0, .int .i64 0, .int .i64 k, .int .i64 i] ++ tl 46 g, hC3 N 0 p n c x, []) ⟨[], [], []⟩) 4 48 (some none) ([plnV N p n c 0, .pointer (some ⟨2, 0, none⟩), .int .i64 k, .int .i64 0]) (hC3 N 0 p n c x) [] := ⟨by kernel_rfl, by kernel_rfl, by kernel_rfl⟩
def dsY (v : Int) : Lf → Prop := fun y => resS Tryd.prog Tryd.f17 y.1 y.2.1 = some (.tuple #[.int .i64 v, .int .i64 0])
theorem ds_parts {N : Int} (hN : 0 ≤ N ∧ N ≤ 67108864) {x : List Value × TypeId} {p : Option Addr} {n : Nat} {L : List Int} (hR : RowAt 1 x p n L) (hL : ∀ x ∈ L, isR x = true) (hn : n < 1073741824) (c : Nat) (g : Nat → Value) :
    RunsW (tabH Tryd.prog extY conN hcDb) (dsAA Tryd.f17) ([plnV N p n c 0, .pointer (some ⟨2, 0, none⟩), .int .i64 0, .int .i64 0, .int .i64 0] ++ tl 47 g, hC3 N 0 p n c x, []) fun e y => e = some none ∧ dsY (sumF (litF N) L) y := by
  obtain ⟨l, ty⟩ := x
  have hlen := hR.len
  subst hlen
  refine RunsW.seq (P1 := fun e y => e = none ∧ (∃ g, y.1 = [plnV N p L.length c 0, .pointer (some ⟨2, 0, none⟩), .int .i64 0, .int .i64 0, .int .i64 (sumF (litF N) L), .int .i64 (L.length : Nat)] ++ tl 46 g) ∧ y.2.1 = hC3 N 0 p L.length c (l, ty)) (RunsW.goes T9_ok (ds_4 (l, ty) p L.length c N g) ok19 fun g => row_sum (litF N) (fun k i y => (∃ g, y.1 = [plnV N p L.length c 0, .pointer (some ⟨2, 0, none⟩), .int .i64 0, .int .i64 0, .int .i64 k, .int .i64 (i : Nat)] ++ tl 46 g) ∧ y.2.1 = hC3 N 0 p L.length c (l, ty)) ?_ ?_ ⟨⟨g, rfl⟩, rfl⟩) ?_ (fun e y hy => by cases hy.1)
  · rintro i ⟨t, h', s⟩ hi ⟨⟨g, h1⟩, h2⟩
    simp only at h1 h2
    subst h1 h2
    rcases hR.pos with ⟨_, h0⟩ | ⟨o, rfl, hty, hcell⟩
    · omega
    simp only at hty hcell
    subst hty
    have hc := cellIs_of (hcell i hi)
    have hm := lit_bd hN (hL _ (getD_mem hi))
    have hb := sumF_bd (f := litF N) (M := 67108864) (L := L.take i) (mem_take fun x hx => ⟨(lit_bd hN (hL x hx)).1, (lit_bd hN (hL x hx)).2.1⟩)
    have hl2 : ((L.take i).length : Int) ≤ 1073741824 := by rw [List.length_take]; omega
    have hw : IntKind.i64.wrap (sumF (litF N) (L.take i) + litF N (L.getD i 0)) = sumF (litF N) (L.take i) + litF N (L.getD i 0) := wrapI (by omega) (by omega)
    have hwi : IntKind.i64.wrap ((i : Int) + 1) = ((i + 1 : Nat) : Int) := by rw [wrapI (by omega) (by omega)]; omega
    have hG := ds_go o L.length c N (sumF (litF N) (L.take i)) (L.getD i 0) i (litF N (L.getD i 0)) l g
    rw [hw, hwi] at hG
    exact RunsW.ends T9_ok hG (okTwo (decide_eq_false hm.2.2.2) (okTwo (decide_eq_true hm.2.2.1) (okTwo hc (okTwo (decide_eq_true (by omega)) (okOne (decide_eq_true (by omega))))))) fun g s' => ⟨rfl, ⟨g, rfl⟩, rfl⟩
  · rintro ⟨t, h', s⟩ ⟨⟨g, h1⟩, h2⟩
    simp only at h1 h2
    subst h1 h2
    exact RunsW.ends T9_ok (ds_out (l, ty) p L.length c N (sumF (litF N) L) (L.length : Nat) g) (okOne (decide_eq_false (by omega))) fun g s' => ⟨rfl, ⟨g, rfl⟩, rfl⟩
  · rintro ⟨t, h', s⟩ ⟨_, ⟨g, h1⟩, h2⟩
    simp only at h1 h2
    subst h1 h2
    exact RunsW.ends T9_ok (ds_e (l, ty) p L.length c N (sumF (litF N) L) (L.length : Nat) g) ok19 fun g s' => ⟨rfl, rfl⟩
theorem stV_pow (N : Int) (j : Nat) (L : List Int) {v : Int} (h : IntKind.i64.wrap (sumF (litF ((2 ^ j : Nat) : Int)) ((List.replicate (j / 2) 4 ++ List.replicate (j % 2) 2).map fun r => ((r : Nat) : Int)) * 2) = v) : stV N ((2 ^ j : Nat) : Int) L = v := by
  have hp : 0 < 2 ^ j := Nat.two_pow_pos j
  unfold stV
  rw [if_neg (by omega), plI_pow, h]
theorem ds_padded (x : List Value × TypeId) (p : Option Addr) (n c : Nat) (N : Int) {j : Nat} (hj : j ≤ 26) (h1 : ckB N ((2 ^ j : Nat) : Int) (rowO (hC3 N ((2 ^ j : Nat) : Int) p n c x) p n) = true) (h2 : rowIP (hC3 N ((2 ^ j : Nat) : Int) p n c x) p n = true) (L : List Int) :
    RunsW (tabH Tryd.prog extY conN hcDb) (cBody Tryd.f17) ([plnV N p n c ((2 ^ j : Nat) : Int)] ++ List.replicate 51 undef, hTR x, []) fun e y => e = some none ∧ dsY (stV N ((2 ^ j : Nat) : Int) L) y := by
  have hc : j = 0 ∨ j = 1 ∨ j = 2 ∨ j = 3 ∨ j = 4 ∨ j = 5 ∨ j = 6 ∨ j = 7 ∨ j = 8 ∨ j = 9 ∨ j = 10 ∨ j = 11 ∨ j = 12 ∨ j = 13 ∨ j = 14 ∨ j = 15 ∨ j = 16 ∨ j = 17 ∨ j = 18 ∨ j = 19 ∨ j = 20 ∨ j = 21 ∨ j = 22 ∨ j = 23 ∨ j = 24 ∨ j = 25 ∨ j = 26 := by omega
  rcases hc with rfl | rfl | rfl | rfl | rfl | rfl | rfl | rfl | rfl | rfl | rfl | rfl | rfl | rfl | rfl | rfl | rfl | rfl | rfl | rfl | rfl | rfl | rfl | rfl | rfl | rfl | rfl
  · rw [stV_pow N 0 L (v := 0) (by decide)]
    exact RunsW.ends T9_ok (ds_p0 x p n c N) (okTwo h1 (okOne h2)) fun g s' => ⟨rfl, rfl⟩
  · rw [stV_pow N 1 L (v := 2) (by decide)]
    exact RunsW.ends T9_ok (ds_p1 x p n c N) (okTwo h1 (okOne h2)) fun g s' => ⟨rfl, rfl⟩
  · rw [stV_pow N 2 L (v := 2) (by decide)]
    exact RunsW.ends T9_ok (ds_p2 x p n c N) (okTwo h1 (okOne h2)) fun g s' => ⟨rfl, rfl⟩
  · rw [stV_pow N 3 L (v := 12) (by decide)]
    exact RunsW.ends T9_ok (ds_p3 x p n c N) (okTwo h1 (okOne h2)) fun g s' => ⟨rfl, rfl⟩
  · rw [stV_pow N 4 L (v := 16) (by decide)]
    exact RunsW.ends T9_ok (ds_p4 x p n c N) (okTwo h1 (okOne h2)) fun g s' => ⟨rfl, rfl⟩
  · rw [stV_pow N 5 L (v := 64) (by decide)]
    exact RunsW.ends T9_ok (ds_p5 x p n c N) (okTwo h1 (okOne h2)) fun g s' => ⟨rfl, rfl⟩
  · rw [stV_pow N 6 L (v := 96) (by decide)]
    exact RunsW.ends T9_ok (ds_p6 x p n c N) (okTwo h1 (okOne h2)) fun g s' => ⟨rfl, rfl⟩
  · rw [stV_pow N 7 L (v := 320) (by decide)]
    exact RunsW.ends T9_ok (ds_p7 x p n c N) (okTwo h1 (okOne h2)) fun g s' => ⟨rfl, rfl⟩
  · rw [stV_pow N 8 L (v := 512) (by decide)]
    exact RunsW.ends T9_ok (ds_p8 x p n c N) (okTwo h1 (okOne h2)) fun g s' => ⟨rfl, rfl⟩
  · rw [stV_pow N 9 L (v := 1536) (by decide)]
    exact RunsW.ends T9_ok (ds_p9 x p n c N) (okTwo h1 (okOne h2)) fun g s' => ⟨rfl, rfl⟩
  · rw [stV_pow N 10 L (v := 2560) (by decide)]
    exact RunsW.ends T9_ok (ds_p10 x p n c N) (okTwo h1 (okOne h2)) fun g s' => ⟨rfl, rfl⟩
  · rw [stV_pow N 11 L (v := 7168) (by decide)]
    exact RunsW.ends T9_ok (ds_p11 x p n c N) (okTwo h1 (okOne h2)) fun g s' => ⟨rfl, rfl⟩
  · rw [stV_pow N 12 L (v := 12288) (by decide)]
    exact RunsW.ends T9_ok (ds_p12 x p n c N) (okTwo h1 (okOne h2)) fun g s' => ⟨rfl, rfl⟩
  · rw [stV_pow N 13 L (v := 32768) (by decide)]
    exact RunsW.ends T9_ok (ds_p13 x p n c N) (okTwo h1 (okOne h2)) fun g s' => ⟨rfl, rfl⟩
  · rw [stV_pow N 14 L (v := 57344) (by decide)]
    exact RunsW.ends T9_ok (ds_p14 x p n c N) (okTwo h1 (okOne h2)) fun g s' => ⟨rfl, rfl⟩
  · rw [stV_pow N 15 L (v := 147456) (by decide)]
    exact RunsW.ends T9_ok (ds_p15 x p n c N) (okTwo h1 (okOne h2)) fun g s' => ⟨rfl, rfl⟩
  · rw [stV_pow N 16 L (v := 262144) (by decide)]
    exact RunsW.ends T9_ok (ds_p16 x p n c N) (okTwo h1 (okOne h2)) fun g s' => ⟨rfl, rfl⟩
  · rw [stV_pow N 17 L (v := 655360) (by decide)]
    exact RunsW.ends T9_ok (ds_p17 x p n c N) (okTwo h1 (okOne h2)) fun g s' => ⟨rfl, rfl⟩
  · rw [stV_pow N 18 L (v := 1179648) (by decide)]
    exact RunsW.ends T9_ok (ds_p18 x p n c N) (okTwo h1 (okOne h2)) fun g s' => ⟨rfl, rfl⟩
  · rw [stV_pow N 19 L (v := 2883584) (by decide)]
    exact RunsW.ends T9_ok (ds_p19 x p n c N) (okTwo h1 (okOne h2)) fun g s' => ⟨rfl, rfl⟩
  · rw [stV_pow N 20 L (v := 5242880) (by decide)]
    exact RunsW.ends T9_ok (ds_p20 x p n c N) (okTwo h1 (okOne h2)) fun g s' => ⟨rfl, rfl⟩
  · rw [stV_pow N 21 L (v := 12582912) (by decide)]
    exact RunsW.ends T9_ok (ds_p21 x p n c N) (okTwo h1 (okOne h2)) fun g s' => ⟨rfl, rfl⟩
  · rw [stV_pow N 22 L (v := 23068672) (by decide)]
    exact RunsW.ends T9_ok (ds_p22 x p n c N) (okTwo h1 (okOne h2)) fun g s' => ⟨rfl, rfl⟩
  · rw [stV_pow N 23 L (v := 54525952) (by decide)]
    exact RunsW.ends T9_ok (ds_p23 x p n c N) (okTwo h1 (okOne h2)) fun g s' => ⟨rfl, rfl⟩
  · rw [stV_pow N 24 L (v := 100663296) (by decide)]
    exact RunsW.ends T9_ok (ds_p24 x p n c N) (okTwo h1 (okOne h2)) fun g s' => ⟨rfl, rfl⟩
  · rw [stV_pow N 25 L (v := 234881024) (by decide)]
    exact RunsW.ends T9_ok (ds_p25 x p n c N) (okTwo h1 (okOne h2)) fun g s' => ⟨rfl, rfl⟩
  · rw [stV_pow N 26 L (v := 436207616) (by decide)]
    exact RunsW.ends T9_ok (ds_p26 x p n c N) (okTwo h1 (okOne h2)) fun g s' => ⟨rfl, rfl⟩
def gDst : AnsH := fun vals h s => match hasRd h, vals, s with
  | true, [.agg ⟨[.int .i64 N, .slice p n _, .int .i64 P]⟩], .inr (.inr (.inr (.inl true))) :: .inr (.inl v) :: s' => some (.tuple #[.int .i64 v, .int .i64 0], h, s', [(decide (stV N P (rowO h p n) = v), true), (ckB N P (rowO h p n), true), (rowIP h p n, true)])
  | true, [.agg ⟨[.int .i64 N, .slice p n _, .int .i64 P]⟩], .inr (.inr (.inr (.inl false))) :: s' => some (.tuple #[.int .i64 0, .int .i64 10], h, s', [(ckB N P (rowO h p n), false), (rowIP h p n, true)])
  | _, _, _ => none
theorem gDst_ok : AnsHOk 17 gDst := by
  intro vals h s v h' s' lg hg hl m B w E hv
  unfold gDst at hg
  split at hg
  · rename_i N p n c P v0 s2 ht
    cases hg
    have l1 := of_decide_eq_true (show decide (stV N P (rowO h p n) = v0) = true from hl _ (List.mem_cons_self ..))
    have l2 : ckB N P (rowO h p n) = true := hl (ckB N P (rowO h p n), true) (by simp)
    obtain ⟨x, p', f, E0, hR, hf⟩ := row_in E (hl (rowIP h p n, true) (by simp)) ht
    obtain ⟨e1, e2⟩ := rowO_at hR (h := hC3 N P p' n c x) rfl
    subst l1
    have hv := plnV_lt c N P hR
    have hlen := hR.len
    have fin : ∀ {co : Code}, Tryd.f17.body = some co → RunsW (tabH Tryd.prog extY conN hcDb) co ([plnV N p' n c P] ++ List.replicate (Tryd.f17.ntmps - [plnV N p' n c P].length) undef, hTR x, []) (fun e y => (e = none ∨ e = some none) ∧ dsY (stV N P (rowO h p n)) y) → Calls Tryd.prog 17 ([plnV N p n c P].map (mv m)).toArray w fun e w' => ∃ m', e = .returned (mv m' (.tuple #[.int .i64 (stV N P (rowO h p n)), .int .i64 0])) ∧ Came m B h w (.tuple #[.int .i64 (stV N P (rowO h p n)), .int .i64 0]) h m' w' := fun hco hr => by
      have := row_calls0E (T := (tabH Tryd.prog extY conN hcDb)) Tryd.func17 hco (vals := [plnV N p' n c P]) hv (v := .tuple #[.int .i64 (stV N P (rowO h p n)), .int .i64 0]) (by rfl) hr E E0
      simp only [List.map_cons, List.map_nil, plnV_rn (hf c)] at this
      exact this
    obtain ⟨hN, h2⟩ := ckB_of l2
    have k1 : ckB N P (rowO (hC3 N P p' n c x) p' n) = true := by rw [e1]; exact l2
    rcases h2 with ⟨h0, _, h4, h5⟩ | ⟨hL, ⟨j, hj, hj2⟩, _⟩
    · subst h0
      have hval : stV N 0 (rowO h p n) = sumF (litF N) (rowO h p n) := by unfold stV; rw [if_pos rfl]
      refine fin ds_body ?_
      rw [hval]
      refine RunsW.goes T9_ok (ds_0 x p' n c N) ok19 fun g => RunsW.goes T9_ok (ds_1 x p' n c N g) (okTwo k1 (okOne e2)) fun g => RunsW.goes T9_ok (ds_2 x p' n c N g) ok19 fun g => ?_
      refine RunsW.seq (P1 := fun e y => e = some none ∧ dsY (sumF (litF N) (rowO h p n)) y) ?_ (fun y hy => by cases hy.1) (fun e y hy => ⟨.inr hy.1, hy.2⟩)
      refine RunsW.goes T9_ok (ds_3 x p' n c N g) ok19 fun g2 => ?_
      have h3 : RunsW (tabH Tryd.prog extY conN hcDb) (dsAA Tryd.f17) ((([plnV N p' n c 0, .pointer (some ⟨2, 0, none⟩), .int .i64 0, .int .i64 0, .int .i64 0] ++ [g 0, g 1, g 2, g 3, g 4, .pointer (some ⟨2, 2, none⟩), .int .i64 0, .bool true]) ++ tl 39 g2), hC3 N 0 p' n c x, []) fun e y => e = some none ∧ dsY (sumF (litF N) (rowO h p n)) y := by
        rw [List.append_assoc]
        exact RunsW.refold19 (by simp [tl_len]) fun g3 => ds_parts (by omega) hR h4 (by omega) c g3
      exact RunsW.cond true (by rfl) (by rfl) h3
    · subst hj
      exact fin ds_body0 ((ds_padded x p' n c N hj2 k1 e2 (rowO h p n)).mono fun e y he => ⟨.inr he.1, he.2⟩)
  · rename_i N p n c P s2 ht
    cases hg
    have l2 : ckB N P (rowO h p n) = false := hl _ (List.mem_cons_self ..)
    obtain ⟨x, p', f, E0, hR, hf⟩ := row_in E (hl (rowIP h p n, true) (by simp)) ht
    obtain ⟨e1, e2⟩ := rowO_at hR (h := hC3 N P p' n c x) rfl
    have := row_calls0E (T := (tabH Tryd.prog extY conN hcDb)) Tryd.func17 ds_body0 (vals := [plnV N p' n c P]) (plnV_lt c N P hR) (v := .tuple #[.int .i64 0, .int .i64 10]) (by rfl) (RunsW.ends T9_ok (ds_f x p' n c N P) (okTwo (by rw [e1]; exact l2) (okOne e2)) fun g s' => ⟨.inr rfl, rfl⟩) E E0
    simp only [List.map_cons, List.map_nil, plnV_rn (hf c)] at this
    exact this
  · cases hg
end Go.Proofs.YtlmccannfocniaaDoor
namespace Go.KRun
open Go.ChangeShapes Go.WideShapes Go.ChangeAt Go.RowKit Go.Joins
theorem rowAt_le {p : Program} {fits : TypeId → Bool} : ∀ (d : Nat) (e : TypeId) (count off n : Nat), rowAt p fits d e count off n = true → off ≤ count * p.cellsOf e
  | 0, _, _, _, _, h => by simp [rowAt] at h
  | d + 1, e, count, off, n, h => by
    unfold rowAt at h
    simp only at h
    split at h
    · cases h
    · rename_i hs
      have hdm := Nat.div_add_mod off (p.cellsOf e)
      have hml := Nat.mod_lt off (show 0 < p.cellsOf e by omega)
      simp only [Bool.or_eq_true, Bool.and_eq_true, decide_eq_true_eq, beq_iff_eq] at h
      rcases h with h | h
      · obtain ⟨⟨h1, h2⟩, _⟩ := h
        have h3 : off / p.cellsOf e ≤ count := by omega
        have := Nat.mul_le_mul_left (p.cellsOf e) h3
        rw [Nat.mul_comm count]
        omega
      · have h3 : off / p.cellsOf e + 1 ≤ count := h.1
        have := Nat.mul_le_mul_left (p.cellsOf e) h3
        rw [Nat.mul_succ] at this
        rw [Nat.mul_comm count]
        omega
theorem liesAt_le {p : Program} : ∀ (d : Nat) (e : TypeId) (count off : Nat) (u : TypeId) (n : Nat), liesAt p d e count off u n = true → off ≤ count * p.cellsOf e
  | 0, _, _, _, _, _, h => by simp [liesAt] at h
  | d + 1, e, count, off, u, n, h => by
    unfold liesAt at h
    simp only [Bool.or_eq_true] at h
    rcases h with h | h
    · exact rowAt_le _ _ _ _ _ h
    · split at h
      · exact liesAt_le d _ _ _ _ _ h
      · cases h
section
variable {H : Type} {enc : TypeId × Value → H} {P : Program} {w : World}
/-- a row that lies in the memory: from 'off' on 'cap' words -/
structure Lain (w : World) (b off : Nat) (cs : Array Value) (zs : List Int) : Prop where
  heap : ∃ ty z, w.heap[b]? = some (.cells cs ty z)
  room : off + zs.length ≤ cs.size
  cell : ∀ i, i < zs.length → cs[off + i]? = some (.int .u32 (zs.getD i 0))
  wf : ∀ n ∈ zs, (Lit.int .u32 n).wf = true
end
end Go.KRun
namespace Go.KRun
open Go.ChangeShapes Go.WideShapes Go.ChangeAt Go.RowKit Go.Joins Go.Deep
section
variable {H : Type} {enc : TypeId × Value → H} {P : Program} {w : World}
/-- numbers that lie in the memory, one behind the other, from 'off' on -/
structure LainK (w : World) (kd : IntKind) (b off : Nat) (cs : Array Value) (zs : List Int) : Prop where
  heap : ∃ ty z, w.heap[b]? = some (.cells cs ty z)
  room : off + zs.length ≤ cs.size
  cell : ∀ i, i < zs.length → cs[off + i]? = some (.int kd (zs.getD i 0))
  wf : ∀ n ∈ zs, (Lit.int kd n).wf = true
end
/-- a row's cells in a small memory: what is ahead of it is the world's own -/
def rowK (kd : IntKind) (cs : Array Value) (off : Nat) (zs : List Int) : List Value := (cs.toList.take off).map (Value.iface dead) ++ zs.map (Value.int kd)
theorem rowK_still (kd : IntKind) (cs : Array Value) (off : Nat) (zs : List Int) : ∀ v ∈ rowK kd cs off zs, still v = true := fun v hv => by
  unfold rowK at hv
  rcases List.mem_append.1 hv with h | h
  · obtain ⟨x, _, rfl⟩ := List.mem_map.1 h; rfl
  · obtain ⟨x, _, rfl⟩ := List.mem_map.1 h; rfl
theorem rowK_lie {w : World} {kd : IntKind} {b off : Nat} {cs : Array Value} {zs : List Int} (h : LainK w kd b off cs zs) {e : TypeId} (he : ro e = true) (m : Mp) : lie w (b, cs.size) ((rowK kd cs off zs).map (mv1 m)) e := by
  obtain ⟨ty, z, hh⟩ := h.heap
  have hroom := h.room
  have e1 : (rowK kd cs off zs).map (mv1 m) = cs.toList.take (off + zs.length) := by
    apply List.ext_getElem?
    intro i
    unfold rowK
    rw [List.map_append, List.map_map, List.map_map, List.getElem?_take]
    have hlen : ((cs.toList.take off).map (mv1 m ∘ Value.iface dead)).length = off := by simp; omega
    by_cases hi : i < off
    · rw [List.getElem?_append_left (by omega), if_pos (by omega), List.getElem?_map, List.getElem?_take, if_pos hi]
      cases hx : cs.toList[i]? with
      | none => rfl
      | some x => simp [mv1]
    · rw [List.getElem?_append_right (by omega), hlen]
      by_cases hj : i < off + zs.length
      · rw [if_pos hj, List.getElem?_map]
        have hc := h.cell (i - off) (by omega)
        rw [show off + (i - off) = i by omega] at hc
        have hz : zs[i - off]? = some (zs.getD (i - off) 0) := by
          rw [List.getElem?_eq_getElem (by omega)]
          simp [List.getD, List.getElem?_eq_getElem (show i - off < zs.length by omega)]
        rw [hz]
        simp only [Option.map_some, Function.comp, mv1]
        rw [← hc]
        simp
      · rw [if_neg hj, List.getElem?_eq_none (by simp; omega)]
  refine ⟨cs.toList.drop (off + zs.length), (ty, z), ?_, ?_, fun h0 => by rw [he] at h0; cases h0⟩
  · rw [e1]; simp; omega
  · rw [e1, List.take_append_drop]; exact hh
theorem rowK_len {w : World} {kd : IntKind} {b off : Nat} {cs : Array Value} {zs : List Int} (h : LainK w kd b off cs zs) : (rowK kd cs off zs).length = off + zs.length := by
  have := h.room
  unfold rowK
  simp
  omega
theorem rowK_get {w : World} {kd : IntKind} {b off : Nat} {cs : Array Value} {zs : List Int} (h : LainK w kd b off cs zs) {i : Nat} (hi : i < zs.length) : (rowK kd cs off zs)[off + i]? = some (.int kd (zs.getD i 0)) := by
  have := h.room
  have hlen : ((cs.toList.take off).map (Value.iface dead)).length = off := by simp; omega
  unfold rowK
  rw [List.getElem?_append_right (by omega), hlen, Nat.add_sub_cancel_left, List.getElem?_map, List.getElem?_eq_getElem hi]
  simp [List.getD, List.getElem?_eq_getElem hi]
section
variable {H : Type} {enc : TypeId × Value → H} {P : Program} {w : World}
/-- a row of numbers, from its one cell -/
theorem ints_cell {base : Nat} {r : Go.Reach} {t e : TypeId} {kd : IntKind} {c1 : Value} {fuel : Nat} {x : DataW H × List MemPlace} (ht : P.underlying t = some (.slice e)) (he : P.underlying e = some (.int kd)) (hc : P.cellsOf e = 1)
    (hval : Cell.okWide P w r base t c1) (hf : DataW.trod enc P w 0 (fun _ => true) true fuel t [c1] = some x) :
    (c1 = .slice none 0 0 ∧ x = (.nil, [])) ∨ ∃ b off len cs zs, c1 = .slice (some ⟨b, off, none⟩) len zs.length ∧ len ≤ zs.length ∧ zs.length ≤ maxLen ∧ LainK w kd b off cs zs ∧ x = (.slice (lits kd (zs.take len)) (lits kd (zs.drop len)), MemPlace.row ⟨b, off, none⟩ zs.length) := by
  rcases open_ints ht he hc hf with ⟨h1, h2⟩ | ⟨a, len, cap, zs, h1, _, hl, hm, hz, hx, hcell, hw⟩
  · simp only [List.cons.injEq, and_true] at h1
    exact .inl ⟨h1, h2⟩
  · simp only [List.cons.injEq, and_true] at h1
    subst h1
    simp only [if_true] at hz
    have hv : w.has P r base a e cap := by
      simp only [ht, Cell.okWide, Cell.ok] at hval
      exact hval.2.2
    obtain ⟨_, hsp, row, cells, hsh, hli⟩ := hv
    obtain ⟨b, off, spot⟩ := a
    simp only at hsp hsh hli
    subst hsp
    obtain ⟨cs, z, hh, hcs⟩ : ∃ cs z, w.heap[b]? = some (.cells cs row z) ∧ cs.size = cells := by
      unfold World.shape? at hsh
      split at hsh
      · rename_i c el z hh
        simp only [Option.some.injEq, Prod.mk.injEq] at hsh
        exact ⟨c, z, by rw [hh, hsh.1], hsh.2⟩
      · cases hsh
    have cell : ∀ i, i < zs.length → cs[off + i]? = some (.int kd (zs.getD i 0)) := fun i hi => by
      have := hcell i hi
      rw [add_plain] at this
      unfold World.cell? at this
      rw [hh] at this
      simpa using this
    have hoff : off ≤ cs.size := by
      have := liesAt_le _ _ _ _ _ _ hli
      have h2 := Nat.div_mul_le_self cells (P.cellsOf row)
      omega
    have room : off + zs.length ≤ cs.size := by
      rcases Nat.eq_zero_or_pos zs.length with h0 | h0
      · omega
      · have := cell (zs.length - 1) (by omega)
        have := (Array.getElem?_eq_some_iff.1 this).1
        omega
    exact .inr ⟨b, off, len, cs, zs, by rw [hz], by omega, by omega, ⟨⟨_, _, hh⟩, room, cell, hw⟩, hx⟩
/-- a struct of a number, a row of numbers and a number -/
theorem open_nrn {base : Nat} {r : Go.Reach} {t e : TypeId} {f0 f1 f2 : Field} {kd : IntKind} {v : Value} {d : DataW H} {p : List MemPlace} (hs : P.underlying t = some (.struct #[f0, f1, f2])) (hC : P.cellsOf t = 3) (hT : P.cellTypes P.depth t = some [f0.type, f1.type, f2.type])
    (o0 : f0.offset = 0) (o1 : f1.offset = 1) (o2 : f2.offset = 2) (k0 : P.cellsOf f0.type = 1) (k1 : P.cellsOf f1.type = 1) (k2 : P.cellsOf f2.type = 1)
    (h0 : P.underlying f0.type = some (.int kd)) (h1 : P.underlying f1.type = some (.slice e)) (h2 : P.underlying f2.type = some (.int kd)) (he : P.underlying e = some (.int kd)) (hc : P.cellsOf e = 1)
    (hval : Value.okWide P w r base t v) (h : DataW.Trod enc P w 0 (fun _ => true) true t v d p) :
    ∃ N Q c1 d1, v = .agg #[.int kd N, c1, .int kd Q] ∧ d = .agg [.lit (.int kd N), d1, .lit (.int kd Q)] ∧
      ((c1 = .slice none 0 0 ∧ d1 = .nil ∧ p = []) ∨ ∃ b off len cs zs, c1 = .slice (some ⟨b, off, none⟩) len zs.length ∧ len ≤ zs.length ∧ zs.length ≤ maxLen ∧ LainK w kd b off cs zs ∧ d1 = .slice (lits kd (zs.take len)) (lits kd (zs.drop len)) ∧ p = MemPlace.row ⟨b, off, none⟩ zs.length) := by
  simp only [Value.okWide, hs] at hval
  obtain ⟨cs, rfl, hsize, ts, hts, _, hcell⟩ := hval
  rw [hT] at hts
  cases hts
  rw [hC] at hsize
  obtain ⟨fuel, hf⟩ := h
  have hf' : DataW.trod enc P w 0 (fun _ => true) true fuel t cs.toList = some (d, p) := by simpa [Value.cells] using hf
  obtain ⟨c0, c1, c2, hcs⟩ : ∃ c0 c1 c2, cs.toList = [c0, c1, c2] := by
    have hl : cs.toList.length = 3 := by simpa using hsize
    match cs.toList, hl with
    | [c0, c1, c2], _ => exact ⟨c0, c1, c2, rfl⟩
  have ecs : cs = #[c0, c1, c2] := by
    have := congrArg List.toArray hcs
    simpa using this
  subst ecs
  obtain ⟨xs, n, _, hx, _, hlen, hfl⟩ := DataW.trod_struct hs hf'
  have hlen : xs.length = 3 := hlen
  obtain ⟨y0, y1, y2, rfl⟩ : ∃ y0 y1 y2, xs = [y0, y1, y2] := by
    match xs, hlen with
    | [y0, y1, y2], _ => exact ⟨y0, y1, y2, rfl⟩
  have t0 : DataW.trod enc P w 0 (fun _ => true) true n f0.type [c0] = some y0 := by simpa [o0, k0] using hfl 0 f0 rfl
  have t1 : DataW.trod enc P w 0 (fun _ => true) true n f1.type [c1] = some y1 := by simpa [o1, k1] using hfl 1 f1 rfl
  have t2 : DataW.trod enc P w 0 (fun _ => true) true n f2.type [c2] = some y2 := by simpa [o2, k2] using hfl 2 f2 rfl
  obtain ⟨N, e0, r0, _⟩ := DataW.trod_int h0 t0
  obtain ⟨Q, e2, r2, _⟩ := DataW.trod_int h2 t2
  simp only [List.cons.injEq, and_true] at e0 e2
  subst e0 e2
  obtain ⟨u, hu, hok⟩ := hcell 1 c1 rfl
  have hu : u = f1.type := by simpa using hu.symm
  subst hu
  simp only [Prod.mk.injEq] at hx
  obtain ⟨rfl, rfl⟩ := hx
  refine ⟨N, Q, c1, y1.1, rfl, by simp [r0, r2], ?_⟩
  rcases ints_cell h1 he hc hok t1 with ⟨g1, g2⟩ | ⟨b, off, len, cs', zs, g1, g2, g3, g4, g5⟩
  · exact .inl ⟨g1, by rw [g2], by simp [r0, r2, g2]⟩
  · exact .inr ⟨b, off, len, cs', zs, g1, g2, g3, g4, by rw [g5], by simp [r0, r2, g5]⟩
/-- how long a row in a struct may be -/
theorem sized_in {ts : List TypeId} {ds : List (DataW H)} (hsz : (DataW.weightsEach P ts ds).all (· ≤ reachBytes) = true) {j : Nat} {t : TypeId} {fs : Array Field} {parts : List (DataW H)} (ht : ts[j]? = some t) (hd : ds[j]? = some (.agg parts)) (hs : P.underlying t = some (.struct fs)) :
    (DataW.weightsEach P (fs.toList.map (·.type)) parts).all (· ≤ reachBytes) = true := by
  refine List.all_eq_true.2 fun z hz => ?_
  exact List.all_eq_true.1 hsz _ (DataW.weights_mem_each ht hd z (by simpa [DataW.weights, hs] using hz))
end
theorem tidy_cell {w w' : World} (h : Tidy w w') {b off : Nat} (hb : b < w.heap.size) : w'.frozen? ⟨b, off, none⟩ = w.frozen? ⟨b, off, none⟩ := by
  unfold World.frozen?
  rw [h.1.block _ hb]
/-- what a run leaves that keeps all that was there: nothing is asked of what is frozen elsewhere -/
theorem post_kept {H : Type} {enc : TypeId × Value → H} {P : Program} {f : Func} {s : ChangeSpec} {apart fresh handsOn again : Bool} {W W' : World} {args : Array Value} {v : Value} {ds gs : List (DataW H)} {before pa pv : List MemPlace}
    (hW : DataW.Whole enc P f.params.toList s.vars apart W args.toList ds gs before)
    (hres : ∀ (b : Nat) (sp : Nat → Bool) (hd : Bool), DataW.TrodAll enc P W' b sp hd f.resultTypes.toList (v.resultList f.resultTypes.size) (s.fn H (ds ++ gs)).results [])
    (hargs : ∀ sp : Nat → Bool, (∀ p ∈ before, sp p.block = true) → DataW.TrodAll enc P W' 0 sp true f.params.toList args.toList (s.fn H (ds ++ gs)).args pa)
    (hvars : ∀ sp : Nat → Bool, (∀ p ∈ before, sp p.block = true) → DataW.TrodVars enc P W' sp s.vars (s.fn H (ds ++ gs)).vars pv)
    (hps : before = pa ++ pv) (hk : W.keptBut W' (· ∈ before)) (hg : Tidy W W')
    (hok : ∀ (j : Nat) (t : TypeId) (r : Value), f.resultTypes[j]? = some t → (v.resultList f.resultTypes.size)[j]? = some r → Value.okWide P W' .any 0 t r) :
    s.post enc P f apart fresh handsOn again W args v W' := by
  have hlt := hW.lt
  have hold : ∀ p ∈ before, (fun b => decide (b < W.heap.size)) p.block = true := fun p hp => by simpa using hlt p hp
  refine ⟨ds, gs, before, [], pa, pv, hW, hres _ _ _, hargs _ hold, hvars _ hold, World.keptBut_mono (fun p hp => ⟨hp, ?_⟩) hk, fun _ => ?_⟩
  · rw [hps, List.mem_append] at hp
    exact Or.inr hp
  · obtain ⟨_, _, _, _, _, hz, hn⟩ := hW
    refine ⟨hok, _, _, ([] ++ pa) ++ pv, ⟨[] ++ pa, pv, trodAll_append (hargs _ (fun _ _ => rfl)) (hres _ _ _), hvars _ (fun _ _ => rfl), rfl, ?_, ?_⟩, ?_⟩
    · intro b off hp
      have hp' : MemPlace.cell b off ∈ before := by rw [hps]; simpa using hp
      rw [tidy_cell hg (b := b) (off := off) (hlt _ hp')]
      exact hz b off hp'
    · intro ha
      have := hn ha
      rw [hps] at this
      simpa using this
    · intro p hp _
      rw [hps]
      simpa using hp
end Go.KRun
