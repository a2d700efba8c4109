/-
  RdA, RdB
-/
import Derived.Test.YtjlponbdflkbjaaGreatDoorG06
import Derived.Test.YtjlponbdflkbjaaGreatDoorG05
import Derived.Test.YtjlponbdflkbjaaGreatDoorG20
namespace Go.Proofs.YtjlponbdflkbjaaGreatDoor
open Go.KRun Go.Rd
set_option maxRecDepth 100000
theorem Z2H(c:Int):Z7(Zn(Zi Tryz.prog Zf Zo true) 300 44 [.int .u8 c,.int .i64 10] [cmp true,cmp true])(.int .i64 0) [((48:Int)==c,true),(true,true),(true,true)]:=⟨by kernel_rfl,by kernel_rfl,by kernel_rfl,by kernel_rfl⟩
theorem Z2I(c:Int):Z7(Zn(Zi Tryz.prog Zf Zo true) 300 44 [.int .u8 c,.int .i64 10] [cmp true,cmp false,cmp true,cmp true])(.int .i64 1) [((49:Int)==c,true),(true,true),(true,true),((48:Int)==c,false),(true,true),(true,true)]:=⟨by kernel_rfl,by kernel_rfl,by kernel_rfl,by kernel_rfl⟩
theorem Z2J(c:Int):Z7(Zn(Zi Tryz.prog Zf Zo true) 300 44 [.int .u8 c,.int .i64 10] [cmp true,cmp false,cmp true,cmp false,cmp true,cmp true])(.int .i64 2) [((50:Int)==c,true),(true,true),(true,true),((49:Int)==c,false),(true,true),(true,true),((48:Int)==c,false),(true,true),(true,true)]:=⟨by kernel_rfl,by kernel_rfl,by kernel_rfl,by kernel_rfl⟩
theorem Z2K(c:Int):Z7(Zn(Zi Tryz.prog Zf Zo true) 300 44 [.int .u8 c,.int .i64 10] [cmp true,cmp false,cmp true,cmp false,cmp true,cmp false,cmp true,cmp true])(.int .i64 3) [((51:Int)==c,true),(true,true),(true,true),((50:Int)==c,false),(true,true),(true,true),((49:Int)==c,false),(true,true),(true,true),((48:Int)==c,false),(true,true),(true,true)]:=⟨by kernel_rfl,by kernel_rfl,by kernel_rfl,by kernel_rfl⟩
theorem Z2L(c:Int):Z7(Zn(Zi Tryz.prog Zf Zo true) 300 44 [.int .u8 c,.int .i64 10] [cmp true,cmp false,cmp true,cmp false,cmp true,cmp false,cmp true,cmp false,cmp true,cmp true])(.int .i64 4) [((52:Int)==c,true),(true,true),(true,true),((51:Int)==c,false),(true,true),(true,true),((50:Int)==c,false),(true,true),(true,true),((49:Int)==c,false),(true,true),(true,true),((48:Int)==c,false),(true,true),(true,true)]:=⟨by kernel_rfl,by kernel_rfl,by kernel_rfl,by kernel_rfl⟩
theorem Z2M(c:Int):Z7(Zn(Zi Tryz.prog Zf Zo true) 300 44 [.int .u8 c,.int .i64 10] [cmp true,cmp false,cmp true,cmp false,cmp true,cmp false,cmp true,cmp false,cmp true,cmp false,cmp true,cmp true])(.int .i64 5) [((53:Int)==c,true),(true,true),(true,true),((52:Int)==c,false),(true,true),(true,true),((51:Int)==c,false),(true,true),(true,true),((50:Int)==c,false),(true,true),(true,true),((49:Int)==c,false),(true,true),(true,true),((48:Int)==c,false),(true,true),(true,true)]:=⟨by kernel_rfl,by kernel_rfl,by kernel_rfl,by kernel_rfl⟩
theorem Z2N(c:Int):Z7(Zn(Zi Tryz.prog Zf Zo true) 300 44 [.int .u8 c,.int .i64 10] [cmp true,cmp false,cmp true,cmp false,cmp true,cmp false,cmp true,cmp false,cmp true,cmp false,cmp true,cmp false,cmp true,cmp true])(.int .i64 6) [((54:Int)==c,true),(true,true),(true,true),((53:Int)==c,false),(true,true),(true,true),((52:Int)==c,false),(true,true),(true,true),((51:Int)==c,false),(true,true),(true,true),((50:Int)==c,false),(true,true),(true,true),((49:Int)==c,false),(true,true),(true,true),((48:Int)==c,false),(true,true),(true,true)]:=⟨by kernel_rfl,by kernel_rfl,by kernel_rfl,by kernel_rfl⟩
theorem Z2O(c:Int):Z7(Zn(Zi Tryz.prog Zf Zo true) 300 44 [.int .u8 c,.int .i64 10] [cmp true,cmp false,cmp true,cmp false,cmp true,cmp false,cmp true,cmp false,cmp true,cmp false,cmp true,cmp false,cmp true,cmp false,cmp true,cmp true])(.int .i64 7) [((55:Int)==c,true),(true,true),(true,true),((54:Int)==c,false),(true,true),(true,true),((53:Int)==c,false),(true,true),(true,true),((52:Int)==c,false),(true,true),(true,true),((51:Int)==c,false),(true,true),(true,true),((50:Int)==c,false),(true,true),(true,true),((49:Int)==c,false),(true,true),(true,true),((48:Int)==c,false),(true,true),(true,true)]:=⟨by kernel_rfl,by kernel_rfl,by kernel_rfl,by kernel_rfl⟩
theorem Z2P(c:Int):Z7(Zn(Zi Tryz.prog Zf Zo true) 300 44 [.int .u8 c,.int .i64 10] [cmp true,cmp false,cmp true,cmp false,cmp true,cmp false,cmp true,cmp false,cmp true,cmp false,cmp true,cmp false,cmp true,cmp false,cmp true,cmp false,cmp true,cmp true])(.int .i64 8) [((56:Int)==c,true),(true,true),(true,true),((55:Int)==c,false),(true,true),(true,true),((54:Int)==c,false),(true,true),(true,true),((53:Int)==c,false),(true,true),(true,true),((52:Int)==c,false),(true,true),(true,true),((51:Int)==c,false),(true,true),(true,true),((50:Int)==c,false),(true,true),(true,true),((49:Int)==c,false),(true,true),(true,true),((48:Int)==c,false),(true,true),(true,true)]:=⟨by kernel_rfl,by kernel_rfl,by kernel_rfl,by kernel_rfl⟩
theorem Z2Q(c:Int):Z7(Zn(Zi Tryz.prog Zf Zo true) 300 44 [.int .u8 c,.int .i64 10] [cmp true,cmp false,cmp true,cmp false,cmp true,cmp false,cmp true,cmp false,cmp true,cmp false,cmp true,cmp false,cmp true,cmp false,cmp true,cmp false,cmp true,cmp false,cmp true,cmp true])(.int .i64 9) [((57:Int)==c,true),(true,true),(true,true),((56:Int)==c,false),(true,true),(true,true),((55:Int)==c,false),(true,true),(true,true),((54:Int)==c,false),(true,true),(true,true),((53:Int)==c,false),(true,true),(true,true),((52:Int)==c,false),(true,true),(true,true),((51:Int)==c,false),(true,true),(true,true),((50:Int)==c,false),(true,true),(true,true),((49:Int)==c,false),(true,true),(true,true),((48:Int)==c,false),(true,true),(true,true)]:=⟨by kernel_rfl,by kernel_rfl,by kernel_rfl,by kernel_rfl⟩
theorem ZxF(c:Int):Z7(Zn(Zi Tryz.prog Zf Zo true) 300 44 [.int .u8 c,.int .i64 10] [cmp true,cmp false,cmp true,cmp false,cmp true,cmp false,cmp true,cmp false,cmp true,cmp false,cmp true,cmp false,cmp true,cmp false,cmp true,cmp false,cmp true,cmp false,cmp true,cmp false,cmp false])(.int .i64(-1)) [(false,false),((57:Int)==c,false),(true,true),(true,true),((56:Int)==c,false),(true,true),(true,true),((55:Int)==c,false),(true,true),(true,true),((54:Int)==c,false),(true,true),(true,true),((53:Int)==c,false),(true,true),(true,true),((52:Int)==c,false),(true,true),(true,true),((51:Int)==c,false),(true,true),(true,true),((50:Int)==c,false),(true,true),(true,true),((49:Int)==c,false),(true,true),(true,true),((48:Int)==c,false),(true,true),(true,true)]:=⟨by kernel_rfl,by kernel_rfl,by kernel_rfl,by kernel_rfl⟩
theorem Z2R(c:Int):Z7(Zn(Zi Tryz.prog Zf Zo true) 300 44 [.int .u8 c,.int .i64 16] [cmp true,cmp true])(.int .i64 0) [((48:Int)==c,true),(true,true),(true,true)]:=⟨by kernel_rfl,by kernel_rfl,by kernel_rfl,by kernel_rfl⟩
theorem Z2S(c:Int):Z7(Zn(Zi Tryz.prog Zf Zo true) 300 44 [.int .u8 c,.int .i64 16] [cmp true,cmp false,cmp true,cmp true])(.int .i64 1) [((49:Int)==c,true),(true,true),(true,true),((48:Int)==c,false),(true,true),(true,true)]:=⟨by kernel_rfl,by kernel_rfl,by kernel_rfl,by kernel_rfl⟩
theorem Z2T(c:Int):Z7(Zn(Zi Tryz.prog Zf Zo true) 300 44 [.int .u8 c,.int .i64 16] [cmp true,cmp false,cmp true,cmp false,cmp true,cmp true])(.int .i64 2) [((50:Int)==c,true),(true,true),(true,true),((49:Int)==c,false),(true,true),(true,true),((48:Int)==c,false),(true,true),(true,true)]:=⟨by kernel_rfl,by kernel_rfl,by kernel_rfl,by kernel_rfl⟩
theorem Z2U(c:Int):Z7(Zn(Zi Tryz.prog Zf Zo true) 300 44 [.int .u8 c,.int .i64 16] [cmp true,cmp false,cmp true,cmp false,cmp true,cmp false,cmp true,cmp true])(.int .i64 3) [((51:Int)==c,true),(true,true),(true,true),((50:Int)==c,false),(true,true),(true,true),((49:Int)==c,false),(true,true),(true,true),((48:Int)==c,false),(true,true),(true,true)]:=⟨by kernel_rfl,by kernel_rfl,by kernel_rfl,by kernel_rfl⟩
theorem Z2V(c:Int):Z7(Zn(Zi Tryz.prog Zf Zo true) 300 44 [.int .u8 c,.int .i64 16] [cmp true,cmp false,cmp true,cmp false,cmp true,cmp false,cmp true,cmp false,cmp true,cmp true])(.int .i64 4) [((52:Int)==c,true),(true,true),(true,true),((51:Int)==c,false),(true,true),(true,true),((50:Int)==c,false),(true,true),(true,true),((49:Int)==c,false),(true,true),(true,true),((48:Int)==c,false),(true,true),(true,true)]:=⟨by kernel_rfl,by kernel_rfl,by kernel_rfl,by kernel_rfl⟩
theorem Z2W(c:Int):Z7(Zn(Zi Tryz.prog Zf Zo true) 300 44 [.int .u8 c,.int .i64 16] [cmp true,cmp false,cmp true,cmp false,cmp true,cmp false,cmp true,cmp false,cmp true,cmp false,cmp true,cmp true])(.int .i64 5) [((53:Int)==c,true),(true,true),(true,true),((52:Int)==c,false),(true,true),(true,true),((51:Int)==c,false),(true,true),(true,true),((50:Int)==c,false),(true,true),(true,true),((49:Int)==c,false),(true,true),(true,true),((48:Int)==c,false),(true,true),(true,true)]:=⟨by kernel_rfl,by kernel_rfl,by kernel_rfl,by kernel_rfl⟩
theorem Z2X(c:Int):Z7(Zn(Zi Tryz.prog Zf Zo true) 300 44 [.int .u8 c,.int .i64 16] [cmp true,cmp false,cmp true,cmp false,cmp true,cmp false,cmp true,cmp false,cmp true,cmp false,cmp true,cmp false,cmp true,cmp true])(.int .i64 6) [((54:Int)==c,true),(true,true),(true,true),((53:Int)==c,false),(true,true),(true,true),((52:Int)==c,false),(true,true),(true,true),((51:Int)==c,false),(true,true),(true,true),((50:Int)==c,false),(true,true),(true,true),((49:Int)==c,false),(true,true),(true,true),((48:Int)==c,false),(true,true),(true,true)]:=⟨by kernel_rfl,by kernel_rfl,by kernel_rfl,by kernel_rfl⟩
theorem Z2Y(c:Int):Z7(Zn(Zi Tryz.prog Zf Zo true) 300 44 [.int .u8 c,.int .i64 16] [cmp true,cmp false,cmp true,cmp false,cmp true,cmp false,cmp true,cmp false,cmp true,cmp false,cmp true,cmp false,cmp true,cmp false,cmp true,cmp true])(.int .i64 7) [((55:Int)==c,true),(true,true),(true,true),((54:Int)==c,false),(true,true),(true,true),((53:Int)==c,false),(true,true),(true,true),((52:Int)==c,false),(true,true),(true,true),((51:Int)==c,false),(true,true),(true,true),((50:Int)==c,false),(true,true),(true,true),((49:Int)==c,false),(true,true),(true,true),((48:Int)==c,false),(true,true),(true,true)]:=⟨by kernel_rfl,by kernel_rfl,by kernel_rfl,by kernel_rfl⟩
theorem Z2Z(c:Int):Z7(Zn(Zi Tryz.prog Zf Zo true) 300 44 [.int .u8 c,.int .i64 16] [cmp true,cmp false,cmp true,cmp false,cmp true,cmp false,cmp true,cmp false,cmp true,cmp false,cmp true,cmp false,cmp true,cmp false,cmp true,cmp false,cmp true,cmp true])(.int .i64 8) [((56:Int)==c,true),(true,true),(true,true),((55:Int)==c,false),(true,true),(true,true),((54:Int)==c,false),(true,true),(true,true),((53:Int)==c,false),(true,true),(true,true),((52:Int)==c,false),(true,true),(true,true),((51:Int)==c,false),(true,true),(true,true),((50:Int)==c,false),(true,true),(true,true),((49:Int)==c,false),(true,true),(true,true),((48:Int)==c,false),(true,true),(true,true)]:=⟨by kernel_rfl,by kernel_rfl,by kernel_rfl,by kernel_rfl⟩
theorem Z3a(c:Int):Z7(Zn(Zi Tryz.prog Zf Zo true) 300 44 [.int .u8 c,.int .i64 16] [cmp true,cmp false,cmp true,cmp false,cmp true,cmp false,cmp true,cmp false,cmp true,cmp false,cmp true,cmp false,cmp true,cmp false,cmp true,cmp false,cmp true,cmp false,cmp true,cmp true])(.int .i64 9) [((57:Int)==c,true),(true,true),(true,true),((56:Int)==c,false),(true,true),(true,true),((55:Int)==c,false),(true,true),(true,true),((54:Int)==c,false),(true,true),(true,true),((53:Int)==c,false),(true,true),(true,true),((52:Int)==c,false),(true,true),(true,true),((51:Int)==c,false),(true,true),(true,true),((50:Int)==c,false),(true,true),(true,true),((49:Int)==c,false),(true,true),(true,true),((48:Int)==c,false),(true,true),(true,true)]:=⟨by kernel_rfl,by kernel_rfl,by kernel_rfl,by kernel_rfl⟩
theorem ZxG(c:Int):Z7(Zn(Zi Tryz.prog Zf Zo true) 300 44 [.int .u8 c,.int .i64 16] [cmp true,cmp false,cmp true,cmp false,cmp true,cmp false,cmp true,cmp false,cmp true,cmp false,cmp true,cmp false,cmp true,cmp false,cmp true,cmp false,cmp true,cmp false,cmp true,cmp false,cmp true,cmp true])(.int .i64 10) [((97:Int)==c,true),(true,true),(true,true),((57:Int)==c,false),(true,true),(true,true),((56:Int)==c,false),(true,true),(true,true),((55:Int)==c,false),(true,true),(true,true),((54:Int)==c,false),(true,true),(true,true),((53:Int)==c,false),(true,true),(true,true),((52:Int)==c,false),(true,true),(true,true),((51:Int)==c,false),(true,true),(true,true),((50:Int)==c,false),(true,true),(true,true),((49:Int)==c,false),(true,true),(true,true),((48:Int)==c,false),(true,true),(true,true)]:=⟨by kernel_rfl,by kernel_rfl,by kernel_rfl,by kernel_rfl⟩
theorem ZxH(c:Int):Z7(Zn(Zi Tryz.prog Zf Zo true) 300 44 [.int .u8 c,.int .i64 16] [cmp true,cmp false,cmp true,cmp false,cmp true,cmp false,cmp true,cmp false,cmp true,cmp false,cmp true,cmp false,cmp true,cmp false,cmp true,cmp false,cmp true,cmp false,cmp true,cmp false,cmp true,cmp false,cmp true,cmp true])(.int .i64 11) [((98:Int)==c,true),(true,true),(true,true),((97:Int)==c,false),(true,true),(true,true),((57:Int)==c,false),(true,true),(true,true),((56:Int)==c,false),(true,true),(true,true),((55:Int)==c,false),(true,true),(true,true),((54:Int)==c,false),(true,true),(true,true),((53:Int)==c,false),(true,true),(true,true),((52:Int)==c,false),(true,true),(true,true),((51:Int)==c,false),(true,true),(true,true),((50:Int)==c,false),(true,true),(true,true),((49:Int)==c,false),(true,true),(true,true),((48:Int)==c,false),(true,true),(true,true)]:=⟨by kernel_rfl,by kernel_rfl,by kernel_rfl,by kernel_rfl⟩
theorem ZxI(c:Int):Z7(Zn(Zi Tryz.prog Zf Zo true) 300 44 [.int .u8 c,.int .i64 16] [cmp true,cmp false,cmp true,cmp false,cmp true,cmp false,cmp true,cmp false,cmp true,cmp false,cmp true,cmp false,cmp true,cmp false,cmp true,cmp false,cmp true,cmp false,cmp true,cmp false,cmp true,cmp false,cmp true,cmp false,cmp true,cmp true])(.int .i64 12) [((99:Int)==c,true),(true,true),(true,true),((98:Int)==c,false),(true,true),(true,true),((97:Int)==c,false),(true,true),(true,true),((57:Int)==c,false),(true,true),(true,true),((56:Int)==c,false),(true,true),(true,true),((55:Int)==c,false),(true,true),(true,true),((54:Int)==c,false),(true,true),(true,true),((53:Int)==c,false),(true,true),(true,true),((52:Int)==c,false),(true,true),(true,true),((51:Int)==c,false),(true,true),(true,true),((50:Int)==c,false),(true,true),(true,true),((49:Int)==c,false),(true,true),(true,true),((48:Int)==c,false),(true,true),(true,true)]:=⟨by kernel_rfl,by kernel_rfl,by kernel_rfl,by kernel_rfl⟩
theorem ZxJ(c:Int):Z7(Zn(Zi Tryz.prog Zf Zo true) 300 44 [.int .u8 c,.int .i64 16] [cmp true,cmp false,cmp true,cmp false,cmp true,cmp false,cmp true,cmp false,cmp true,cmp false,cmp true,cmp false,cmp true,cmp false,cmp true,cmp false,cmp true,cmp false,cmp true,cmp false,cmp true,cmp false,cmp true,cmp false,cmp true,cmp false,cmp true,cmp true])(.int .i64 13) [((100:Int)==c,true),(true,true),(true,true),((99:Int)==c,false),(true,true),(true,true),((98:Int)==c,false),(true,true),(true,true),((97:Int)==c,false),(true,true),(true,true),((57:Int)==c,false),(true,true),(true,true),((56:Int)==c,false),(true,true),(true,true),((55:Int)==c,false),(true,true),(true,true),((54:Int)==c,false),(true,true),(true,true),((53:Int)==c,false),(true,true),(true,true),((52:Int)==c,false),(true,true),(true,true),((51:Int)==c,false),(true,true),(true,true),((50:Int)==c,false),(true,true),(true,true),((49:Int)==c,false),(true,true),(true,true),((48:Int)==c,false),(true,true),(true,true)]:=⟨by kernel_rfl,by kernel_rfl,by kernel_rfl,by kernel_rfl⟩
theorem ZxK(c:Int):Z7(Zn(Zi Tryz.prog Zf Zo true) 300 44 [.int .u8 c,.int .i64 16] [cmp true,cmp false,cmp true,cmp false,cmp true,cmp false,cmp true,cmp false,cmp true,cmp false,cmp true,cmp false,cmp true,cmp false,cmp true,cmp false,cmp true,cmp false,cmp true,cmp false,cmp true,cmp false,cmp true,cmp false,cmp true,cmp false,cmp true,cmp false,cmp true,cmp true])(.int .i64 14) [((101:Int)==c,true),(true,true),(true,true),((100:Int)==c,false),(true,true),(true,true),((99:Int)==c,false),(true,true),(true,true),((98:Int)==c,false),(true,true),(true,true),((97:Int)==c,false),(true,true),(true,true),((57:Int)==c,false),(true,true),(true,true),((56:Int)==c,false),(true,true),(true,true),((55:Int)==c,false),(true,true),(true,true),((54:Int)==c,false),(true,true),(true,true),((53:Int)==c,false),(true,true),(true,true),((52:Int)==c,false),(true,true),(true,true),((51:Int)==c,false),(true,true),(true,true),((50:Int)==c,false),(true,true),(true,true),((49:Int)==c,false),(true,true),(true,true),((48:Int)==c,false),(true,true),(true,true)]:=⟨by kernel_rfl,by kernel_rfl,by kernel_rfl,by kernel_rfl⟩
theorem ZxL(c:Int):Z7(Zn(Zi Tryz.prog Zf Zo true) 300 44 [.int .u8 c,.int .i64 16] [cmp true,cmp false,cmp true,cmp false,cmp true,cmp false,cmp true,cmp false,cmp true,cmp false,cmp true,cmp false,cmp true,cmp false,cmp true,cmp false,cmp true,cmp false,cmp true,cmp false,cmp true,cmp false,cmp true,cmp false,cmp true,cmp false,cmp true,cmp false,cmp true,cmp false,cmp true,cmp true])(.int .i64 15) [((102:Int)==c,true),(true,true),(true,true),((101:Int)==c,false),(true,true),(true,true),((100:Int)==c,false),(true,true),(true,true),((99:Int)==c,false),(true,true),(true,true),((98:Int)==c,false),(true,true),(true,true),((97:Int)==c,false),(true,true),(true,true),((57:Int)==c,false),(true,true),(true,true),((56:Int)==c,false),(true,true),(true,true),((55:Int)==c,false),(true,true),(true,true),((54:Int)==c,false),(true,true),(true,true),((53:Int)==c,false),(true,true),(true,true),((52:Int)==c,false),(true,true),(true,true),((51:Int)==c,false),(true,true),(true,true),((50:Int)==c,false),(true,true),(true,true),((49:Int)==c,false),(true,true),(true,true),((48:Int)==c,false),(true,true),(true,true)]:=⟨by kernel_rfl,by kernel_rfl,by kernel_rfl,by kernel_rfl⟩
theorem ZxM(c:Int):Z7(Zn(Zi Tryz.prog Zf Zo true) 300 44 [.int .u8 c,.int .i64 16] [cmp true,cmp false,cmp true,cmp false,cmp true,cmp false,cmp true,cmp false,cmp true,cmp false,cmp true,cmp false,cmp true,cmp false,cmp true,cmp false,cmp true,cmp false,cmp true,cmp false,cmp true,cmp false,cmp true,cmp false,cmp true,cmp false,cmp true,cmp false,cmp true,cmp false,cmp true,cmp false,cmp false])(.int .i64(-1)) [(false,false),((102:Int)==c,false),(true,true),(true,true),((101:Int)==c,false),(true,true),(true,true),((100:Int)==c,false),(true,true),(true,true),((99:Int)==c,false),(true,true),(true,true),((98:Int)==c,false),(true,true),(true,true),((97:Int)==c,false),(true,true),(true,true),((57:Int)==c,false),(true,true),(true,true),((56:Int)==c,false),(true,true),(true,true),((55:Int)==c,false),(true,true),(true,true),((54:Int)==c,false),(true,true),(true,true),((53:Int)==c,false),(true,true),(true,true),((52:Int)==c,false),(true,true),(true,true),((51:Int)==c,false),(true,true),(true,true),((50:Int)==c,false),(true,true),(true,true),((49:Int)==c,false),(true,true),(true,true),((48:Int)==c,false),(true,true),(true,true)]:=⟨by kernel_rfl,by kernel_rfl,by kernel_rfl,by kernel_rfl⟩
theorem Zkl(c:Int)(w:World):Calls Tryz.prog 44 #[.int .u8 c,.int .i64 10] w fun r w'=>r= .returned(.int .i64(ZJ c 10))∧Zad w w':=by
 have T:=Zk Zd
 have hv:([.int .u8 c,.int .i64 10].all(lt 0))=true:=rfl
 by_cases h0:c=48
 ·rw[show ZJ c 10=0 by rw[h0];rfl]
  exact Zc T(Z2H c)(Za(ZC h0.symm)(Za rfl(Z3 rfl))) hv(by rfl) w
 by_cases h1:c=49
 ·rw[show ZJ c 10=1 by rw[h1];rfl]
  exact Zc T(Z2I c)(Za(ZC h1.symm)(Za rfl(Za rfl(Za(Zl(Ne.symm h0))(Za rfl(Z3 rfl)))))) hv(by rfl) w
 by_cases h2:c=50
 ·rw[show ZJ c 10=2 by rw[h2];rfl]
  exact Zc T(Z2J c)(Za(ZC h2.symm)(Za rfl(Za rfl(Za(Zl(Ne.symm h1))(Za rfl(Za rfl(Za(Zl(Ne.symm h0))(Za rfl(Z3 rfl))))))))) hv(by rfl) w
 by_cases h3:c=51
 ·rw[show ZJ c 10=3 by rw[h3];rfl]
  exact Zc T(Z2K c)(Za(ZC h3.symm)(Za rfl(Za rfl(Za(Zl(Ne.symm h2))(Za rfl(Za rfl(Za(Zl(Ne.symm h1))(Za rfl(Za rfl(Za(Zl(Ne.symm h0))(Za rfl(Z3 rfl)))))))))))) hv(by rfl) w
 by_cases h4:c=52
 ·rw[show ZJ c 10=4 by rw[h4];rfl]
  exact Zc T(Z2L c)(Za(ZC h4.symm)(Za rfl(Za rfl(Za(Zl(Ne.symm h3))(Za rfl(Za rfl(Za(Zl(Ne.symm h2))(Za rfl(Za rfl(Za(Zl(Ne.symm h1))(Za rfl(Za rfl(Za(Zl(Ne.symm h0))(Za rfl(Z3 rfl))))))))))))))) hv(by rfl) w
 by_cases h5:c=53
 ·rw[show ZJ c 10=5 by rw[h5];rfl]
  exact Zc T(Z2M c)(Za(ZC h5.symm)(Za rfl(Za rfl(Za(Zl(Ne.symm h4))(Za rfl(Za rfl(Za(Zl(Ne.symm h3))(Za rfl(Za rfl(Za(Zl(Ne.symm h2))(Za rfl(Za rfl(Za(Zl(Ne.symm h1))(Za rfl(Za rfl(Za(Zl(Ne.symm h0))(Za rfl(Z3 rfl)))))))))))))))))) hv(by rfl) w
 by_cases h6:c=54
 ·rw[show ZJ c 10=6 by rw[h6];rfl]
  exact Zc T(Z2N c)(Za(ZC h6.symm)(Za rfl(Za rfl(Za(Zl(Ne.symm h5))(Za rfl(Za rfl(Za(Zl(Ne.symm h4))(Za rfl(Za rfl(Za(Zl(Ne.symm h3))(Za rfl(Za rfl(Za(Zl(Ne.symm h2))(Za rfl(Za rfl(Za(Zl(Ne.symm h1))(Za rfl(Za rfl(Za(Zl(Ne.symm h0))(Za rfl(Z3 rfl))))))))))))))))))))) hv(by rfl) w
 by_cases h7:c=55
 ·rw[show ZJ c 10=7 by rw[h7];rfl]
  exact Zc T(Z2O c)(Za(ZC h7.symm)(Za rfl(Za rfl(Za(Zl(Ne.symm h6))(Za rfl(Za rfl(Za(Zl(Ne.symm h5))(Za rfl(Za rfl(Za(Zl(Ne.symm h4))(Za rfl(Za rfl(Za(Zl(Ne.symm h3))(Za rfl(Za rfl(Za(Zl(Ne.symm h2))(Za rfl(Za rfl(Za(Zl(Ne.symm h1))(Za rfl(Za rfl(Za(Zl(Ne.symm h0))(Za rfl(Z3 rfl)))))))))))))))))))))))) hv(by rfl) w
 by_cases h8:c=56
 ·rw[show ZJ c 10=8 by rw[h8];rfl]
  exact Zc T(Z2P c)(Za(ZC h8.symm)(Za rfl(Za rfl(Za(Zl(Ne.symm h7))(Za rfl(Za rfl(Za(Zl(Ne.symm h6))(Za rfl(Za rfl(Za(Zl(Ne.symm h5))(Za rfl(Za rfl(Za(Zl(Ne.symm h4))(Za rfl(Za rfl(Za(Zl(Ne.symm h3))(Za rfl(Za rfl(Za(Zl(Ne.symm h2))(Za rfl(Za rfl(Za(Zl(Ne.symm h1))(Za rfl(Za rfl(Za(Zl(Ne.symm h0))(Za rfl(Z3 rfl))))))))))))))))))))))))))) hv(by rfl) w
 by_cases h9:c=57
 ·rw[show ZJ c 10=9 by rw[h9];rfl]
  exact Zc T(Z2Q c)(Za(ZC h9.symm)(Za rfl(Za rfl(Za(Zl(Ne.symm h8))(Za rfl(Za rfl(Za(Zl(Ne.symm h7))(Za rfl(Za rfl(Za(Zl(Ne.symm h6))(Za rfl(Za rfl(Za(Zl(Ne.symm h5))(Za rfl(Za rfl(Za(Zl(Ne.symm h4))(Za rfl(Za rfl(Za(Zl(Ne.symm h3))(Za rfl(Za rfl(Za(Zl(Ne.symm h2))(Za rfl(Za rfl(Za(Zl(Ne.symm h1))(Za rfl(Za rfl(Za(Zl(Ne.symm h0))(Za rfl(Z3 rfl)))))))))))))))))))))))))))))) hv(by rfl) w
 rw[show ZJ c 10= -1 by unfold ZJ;rw[if_neg(by omega)];rfl]
 exact Zc T(ZxF c)(Za rfl(Za(Zl(Ne.symm h9))(Za rfl(Za rfl(Za(Zl(Ne.symm h8))(Za rfl(Za rfl(Za(Zl(Ne.symm h7))(Za rfl(Za rfl(Za(Zl(Ne.symm h6))(Za rfl(Za rfl(Za(Zl(Ne.symm h5))(Za rfl(Za rfl(Za(Zl(Ne.symm h4))(Za rfl(Za rfl(Za(Zl(Ne.symm h3))(Za rfl(Za rfl(Za(Zl(Ne.symm h2))(Za rfl(Za rfl(Za(Zl(Ne.symm h1))(Za rfl(Za rfl(Za(Zl(Ne.symm h0))(Za rfl(Z3 rfl))))))))))))))))))))))))))))))) hv(by rfl) w
theorem Zkm(c:Int)(w:World):Calls Tryz.prog 44 #[.int .u8 c,.int .i64 16] w fun r w'=>r= .returned(.int .i64(ZJ c 16))∧Zad w w':=by
 have T:=Zk Zd
 have hv:([.int .u8 c,.int .i64 16].all(lt 0))=true:=rfl
 by_cases h0:c=48
 ·rw[show ZJ c 16=0 by rw[h0];rfl]
  exact Zc T(Z2R c)(Za(ZC h0.symm)(Za rfl(Z3 rfl))) hv(by rfl) w
 by_cases h1:c=49
 ·rw[show ZJ c 16=1 by rw[h1];rfl]
  exact Zc T(Z2S c)(Za(ZC h1.symm)(Za rfl(Za rfl(Za(Zl(Ne.symm h0))(Za rfl(Z3 rfl)))))) hv(by rfl) w
 by_cases h2:c=50
 ·rw[show ZJ c 16=2 by rw[h2];rfl]
  exact Zc T(Z2T c)(Za(ZC h2.symm)(Za rfl(Za rfl(Za(Zl(Ne.symm h1))(Za rfl(Za rfl(Za(Zl(Ne.symm h0))(Za rfl(Z3 rfl))))))))) hv(by rfl) w
 by_cases h3:c=51
 ·rw[show ZJ c 16=3 by rw[h3];rfl]
  exact Zc T(Z2U c)(Za(ZC h3.symm)(Za rfl(Za rfl(Za(Zl(Ne.symm h2))(Za rfl(Za rfl(Za(Zl(Ne.symm h1))(Za rfl(Za rfl(Za(Zl(Ne.symm h0))(Za rfl(Z3 rfl)))))))))))) hv(by rfl) w
 by_cases h4:c=52
 ·rw[show ZJ c 16=4 by rw[h4];rfl]
  exact Zc T(Z2V c)(Za(ZC h4.symm)(Za rfl(Za rfl(Za(Zl(Ne.symm h3))(Za rfl(Za rfl(Za(Zl(Ne.symm h2))(Za rfl(Za rfl(Za(Zl(Ne.symm h1))(Za rfl(Za rfl(Za(Zl(Ne.symm h0))(Za rfl(Z3 rfl))))))))))))))) hv(by rfl) w
 by_cases h5:c=53
 ·rw[show ZJ c 16=5 by rw[h5];rfl]
  exact Zc T(Z2W c)(Za(ZC h5.symm)(Za rfl(Za rfl(Za(Zl(Ne.symm h4))(Za rfl(Za rfl(Za(Zl(Ne.symm h3))(Za rfl(Za rfl(Za(Zl(Ne.symm h2))(Za rfl(Za rfl(Za(Zl(Ne.symm h1))(Za rfl(Za rfl(Za(Zl(Ne.symm h0))(Za rfl(Z3 rfl)))))))))))))))))) hv(by rfl) w
 by_cases h6:c=54
 ·rw[show ZJ c 16=6 by rw[h6];rfl]
  exact Zc T(Z2X c)(Za(ZC h6.symm)(Za rfl(Za rfl(Za(Zl(Ne.symm h5))(Za rfl(Za rfl(Za(Zl(Ne.symm h4))(Za rfl(Za rfl(Za(Zl(Ne.symm h3))(Za rfl(Za rfl(Za(Zl(Ne.symm h2))(Za rfl(Za rfl(Za(Zl(Ne.symm h1))(Za rfl(Za rfl(Za(Zl(Ne.symm h0))(Za rfl(Z3 rfl))))))))))))))))))))) hv(by rfl) w
 by_cases h7:c=55
 ·rw[show ZJ c 16=7 by rw[h7];rfl]
  exact Zc T(Z2Y c)(Za(ZC h7.symm)(Za rfl(Za rfl(Za(Zl(Ne.symm h6))(Za rfl(Za rfl(Za(Zl(Ne.symm h5))(Za rfl(Za rfl(Za(Zl(Ne.symm h4))(Za rfl(Za rfl(Za(Zl(Ne.symm h3))(Za rfl(Za rfl(Za(Zl(Ne.symm h2))(Za rfl(Za rfl(Za(Zl(Ne.symm h1))(Za rfl(Za rfl(Za(Zl(Ne.symm h0))(Za rfl(Z3 rfl)))))))))))))))))))))))) hv(by rfl) w
 by_cases h8:c=56
 ·rw[show ZJ c 16=8 by rw[h8];rfl]
  exact Zc T(Z2Z c)(Za(ZC h8.symm)(Za rfl(Za rfl(Za(Zl(Ne.symm h7))(Za rfl(Za rfl(Za(Zl(Ne.symm h6))(Za rfl(Za rfl(Za(Zl(Ne.symm h5))(Za rfl(Za rfl(Za(Zl(Ne.symm h4))(Za rfl(Za rfl(Za(Zl(Ne.symm h3))(Za rfl(Za rfl(Za(Zl(Ne.symm h2))(Za rfl(Za rfl(Za(Zl(Ne.symm h1))(Za rfl(Za rfl(Za(Zl(Ne.symm h0))(Za rfl(Z3 rfl))))))))))))))))))))))))))) hv(by rfl) w
 by_cases h9:c=57
 ·rw[show ZJ c 16=9 by rw[h9];rfl]
  exact Zc T(Z3a c)(Za(ZC h9.symm)(Za rfl(Za rfl(Za(Zl(Ne.symm h8))(Za rfl(Za rfl(Za(Zl(Ne.symm h7))(Za rfl(Za rfl(Za(Zl(Ne.symm h6))(Za rfl(Za rfl(Za(Zl(Ne.symm h5))(Za rfl(Za rfl(Za(Zl(Ne.symm h4))(Za rfl(Za rfl(Za(Zl(Ne.symm h3))(Za rfl(Za rfl(Za(Zl(Ne.symm h2))(Za rfl(Za rfl(Za(Zl(Ne.symm h1))(Za rfl(Za rfl(Za(Zl(Ne.symm h0))(Za rfl(Z3 rfl)))))))))))))))))))))))))))))) hv(by rfl) w
 by_cases h10:c=97
 ·rw[show ZJ c 16=10 by rw[h10];rfl]
  exact Zc T(ZxG c)(Za(ZC h10.symm)(Za rfl(Za rfl(Za(Zl(Ne.symm h9))(Za rfl(Za rfl(Za(Zl(Ne.symm h8))(Za rfl(Za rfl(Za(Zl(Ne.symm h7))(Za rfl(Za rfl(Za(Zl(Ne.symm h6))(Za rfl(Za rfl(Za(Zl(Ne.symm h5))(Za rfl(Za rfl(Za(Zl(Ne.symm h4))(Za rfl(Za rfl(Za(Zl(Ne.symm h3))(Za rfl(Za rfl(Za(Zl(Ne.symm h2))(Za rfl(Za rfl(Za(Zl(Ne.symm h1))(Za rfl(Za rfl(Za(Zl(Ne.symm h0))(Za rfl(Z3 rfl))))))))))))))))))))))))))))))))) hv(by rfl) w
 by_cases h11:c=98
 ·rw[show ZJ c 16=11 by rw[h11];rfl]
  exact Zc T(ZxH c)(Za(ZC h11.symm)(Za rfl(Za rfl(Za(Zl(Ne.symm h10))(Za rfl(Za rfl(Za(Zl(Ne.symm h9))(Za rfl(Za rfl(Za(Zl(Ne.symm h8))(Za rfl(Za rfl(Za(Zl(Ne.symm h7))(Za rfl(Za rfl(Za(Zl(Ne.symm h6))(Za rfl(Za rfl(Za(Zl(Ne.symm h5))(Za rfl(Za rfl(Za(Zl(Ne.symm h4))(Za rfl(Za rfl(Za(Zl(Ne.symm h3))(Za rfl(Za rfl(Za(Zl(Ne.symm h2))(Za rfl(Za rfl(Za(Zl(Ne.symm h1))(Za rfl(Za rfl(Za(Zl(Ne.symm h0))(Za rfl(Z3 rfl)))))))))))))))))))))))))))))))))))) hv(by rfl) w
 by_cases h12:c=99
 ·rw[show ZJ c 16=12 by rw[h12];rfl]
  exact Zc T(ZxI c)(Za(ZC h12.symm)(Za rfl(Za rfl(Za(Zl(Ne.symm h11))(Za rfl(Za rfl(Za(Zl(Ne.symm h10))(Za rfl(Za rfl(Za(Zl(Ne.symm h9))(Za rfl(Za rfl(Za(Zl(Ne.symm h8))(Za rfl(Za rfl(Za(Zl(Ne.symm h7))(Za rfl(Za rfl(Za(Zl(Ne.symm h6))(Za rfl(Za rfl(Za(Zl(Ne.symm h5))(Za rfl(Za rfl(Za(Zl(Ne.symm h4))(Za rfl(Za rfl(Za(Zl(Ne.symm h3))(Za rfl(Za rfl(Za(Zl(Ne.symm h2))(Za rfl(Za rfl(Za(Zl(Ne.symm h1))(Za rfl(Za rfl(Za(Zl(Ne.symm h0))(Za rfl(Z3 rfl))))))))))))))))))))))))))))))))))))))) hv(by rfl) w
 by_cases h13:c=100
 ·rw[show ZJ c 16=13 by rw[h13];rfl]
  exact Zc T(ZxJ c)(Za(ZC h13.symm)(Za rfl(Za rfl(Za(Zl(Ne.symm h12))(Za rfl(Za rfl(Za(Zl(Ne.symm h11))(Za rfl(Za rfl(Za(Zl(Ne.symm h10))(Za rfl(Za rfl(Za(Zl(Ne.symm h9))(Za rfl(Za rfl(Za(Zl(Ne.symm h8))(Za rfl(Za rfl(Za(Zl(Ne.symm h7))(Za rfl(Za rfl(Za(Zl(Ne.symm h6))(Za rfl(Za rfl(Za(Zl(Ne.symm h5))(Za rfl(Za rfl(Za(Zl(Ne.symm h4))(Za rfl(Za rfl(Za(Zl(Ne.symm h3))(Za rfl(Za rfl(Za(Zl(Ne.symm h2))(Za rfl(Za rfl(Za(Zl(Ne.symm h1))(Za rfl(Za rfl(Za(Zl(Ne.symm h0))(Za rfl(Z3 rfl)))))))))))))))))))))))))))))))))))))))))) hv(by rfl) w
 by_cases h14:c=101
 ·rw[show ZJ c 16=14 by rw[h14];rfl]
  exact Zc T(ZxK c)(Za(ZC h14.symm)(Za rfl(Za rfl(Za(Zl(Ne.symm h13))(Za rfl(Za rfl(Za(Zl(Ne.symm h12))(Za rfl(Za rfl(Za(Zl(Ne.symm h11))(Za rfl(Za rfl(Za(Zl(Ne.symm h10))(Za rfl(Za rfl(Za(Zl(Ne.symm h9))(Za rfl(Za rfl(Za(Zl(Ne.symm h8))(Za rfl(Za rfl(Za(Zl(Ne.symm h7))(Za rfl(Za rfl(Za(Zl(Ne.symm h6))(Za rfl(Za rfl(Za(Zl(Ne.symm h5))(Za rfl(Za rfl(Za(Zl(Ne.symm h4))(Za rfl(Za rfl(Za(Zl(Ne.symm h3))(Za rfl(Za rfl(Za(Zl(Ne.symm h2))(Za rfl(Za rfl(Za(Zl(Ne.symm h1))(Za rfl(Za rfl(Za(Zl(Ne.symm h0))(Za rfl(Z3 rfl))))))))))))))))))))))))))))))))))))))))))))) hv(by rfl) w
 by_cases h15:c=102
 ·rw[show ZJ c 16=15 by rw[h15];rfl]
  exact Zc T(ZxL c)(Za(ZC h15.symm)(Za rfl(Za rfl(Za(Zl(Ne.symm h14))(Za rfl(Za rfl(Za(Zl(Ne.symm h13))(Za rfl(Za rfl(Za(Zl(Ne.symm h12))(Za rfl(Za rfl(Za(Zl(Ne.symm h11))(Za rfl(Za rfl(Za(Zl(Ne.symm h10))(Za rfl(Za rfl(Za(Zl(Ne.symm h9))(Za rfl(Za rfl(Za(Zl(Ne.symm h8))(Za rfl(Za rfl(Za(Zl(Ne.symm h7))(Za rfl(Za rfl(Za(Zl(Ne.symm h6))(Za rfl(Za rfl(Za(Zl(Ne.symm h5))(Za rfl(Za rfl(Za(Zl(Ne.symm h4))(Za rfl(Za rfl(Za(Zl(Ne.symm h3))(Za rfl(Za rfl(Za(Zl(Ne.symm h2))(Za rfl(Za rfl(Za(Zl(Ne.symm h1))(Za rfl(Za rfl(Za(Zl(Ne.symm h0))(Za rfl(Z3 rfl)))))))))))))))))))))))))))))))))))))))))))))))) hv(by rfl) w
 rw[show ZJ c 16= -1 by unfold ZJ;rw[if_neg(by omega)];rw[if_neg(by omega)]]
 exact Zc T(ZxM c)(Za rfl(Za(Zl(Ne.symm h15))(Za rfl(Za rfl(Za(Zl(Ne.symm h14))(Za rfl(Za rfl(Za(Zl(Ne.symm h13))(Za rfl(Za rfl(Za(Zl(Ne.symm h12))(Za rfl(Za rfl(Za(Zl(Ne.symm h11))(Za rfl(Za rfl(Za(Zl(Ne.symm h10))(Za rfl(Za rfl(Za(Zl(Ne.symm h9))(Za rfl(Za rfl(Za(Zl(Ne.symm h8))(Za rfl(Za rfl(Za(Zl(Ne.symm h7))(Za rfl(Za rfl(Za(Zl(Ne.symm h6))(Za rfl(Za rfl(Za(Zl(Ne.symm h5))(Za rfl(Za rfl(Za(Zl(Ne.symm h4))(Za rfl(Za rfl(Za(Zl(Ne.symm h3))(Za rfl(Za rfl(Za(Zl(Ne.symm h2))(Za rfl(Za rfl(Za(Zl(Ne.symm h1))(Za rfl(Za rfl(Za(Zl(Ne.symm h0))(Za rfl(Z3 rfl))))))))))))))))))))))))))))))))))))))))))))))))) hv(by rfl) w
def Z8h:Ans:=fun vals s=>
 match vals with
 | [.int .u8 c,.int .i64 b]=>some(.int .i64(ZJ c b),s,[(decide(b=10∨b=16),true)])
 | _=>none
theorem ZxN:ZT 44 Z8h:=by
 intro vals s v s' lg h hl w
 unfold Z8h at h
 split at h
 ·rename_i c b
  cases h
  rcases of_decide_eq_true(hl _(List.mem_singleton.2 rfl)) with h | h
  ·rw[h];exact Zkl c w
  ·rw[h];exact Zkm c w
 ·cases h
def ZI:Con:=alt 44 Z8h Zo
theorem Zcc:ConOk ZI:=ZA Tryz.func44 rfl ZxN Zd
end Go.Proofs.YtjlponbdflkbjaaGreatDoor
namespace Go.Proofs.YtjlponbdflkbjaaGreatDoor
open Go.KRun Go.Nt Go.Rd
set_option maxRecDepth 100000
def rfP(F:Func):List Code:=[Z5(Zt F),Z5(Z0(Zt F))]
def rfI(F:Func):Code:=Z5(Z5(Z0(Z0(Zt F))))
def rfL(F:Func):Code:=cIn(cIn(Z0(Z5(Z0(Z0(Zt F))))))
def rfE(F:Func):Code:=Z0(Z0(Z0(Zt F)))
theorem ZxO:Tryz.f51.body=some(za(rfP Tryz.f51)(.seq(.seq(rfI Tryz.f51)(.block 0(.loop(rfL Tryz.f51))))(rfE Tryz.f51))):=by kernel_rfl
theorem Zkn:TabOk(Zs Tryz.prog Zf ZI Zd0):=Zh Zcc ZnL
def rfF(l:List UInt8)(b:Int)(out:Value)(i:Int):List Value:=[bR l,.int .i64 b,undef,undef,Zq,out,.int .i64 i]
theorem Z3b(l:List UInt8)(b:Int):Zg(evL(Zs Tryz.prog Zf ZI Zd0) 100(rfP Tryz.f51)([bR l,.int .i64 b]++List.replicate 22 undef,⟨0,[]⟩,[])⟨[],[],[]⟩) 6 18 none [bR l,.int .i64 b,undef,undef,Zq,Zq]⟨0,[]⟩ []:=⟨by kernel_rfl,by kernel_rfl,by kernel_rfl⟩
theorem ZAe(l:List UInt8)(b:Int)(h:Hp)(g:Nat→Value):Zg(evC(Zs Tryz.prog Zf ZI Zd0) 100 false(rfI Tryz.f51)([bR l,.int .i64 b,undef,undef,Zq,Zq]++tl 18 g,h,[])⟨[],[],[]⟩) 7 17 none(rfF l b Zq 0) h []:=⟨by kernel_rfl,by kernel_rfl,by kernel_rfl⟩
theorem ZAf(l:List UInt8)(b:Int)(out:Value)(i:Int)(h:Hp)(g:Nat→Value):Zg(evC(Zs Tryz.prog Zf ZI Zd0) 100 false(rfL Tryz.f51)(rfF l b out i++tl 17 g,h,[cmp false])⟨[],[],[]⟩) 7 17(some(some 0))(rfF l b out i) h [(decide(i<(l.length:Nat)),false)]:=⟨by kernel_rfl,by kernel_rfl,by kernel_rfl⟩
theorem Z8i(l:List UInt8)(b i:Int)(W:Nat)(g:Nat→Value):Zg(evC(Zs Tryz.prog Zf ZI Zd0) 100 false(rfL Tryz.f51)(rfF l b Zq i++tl 17 g,⟨0,[]⟩,[cmp true,cmp true,num W])⟨[],[],[]⟩) 7 17 none(rfF l b(sq0 W)(IntKind.i64.wrap(i+1)))(pA W) [(decide(vO⟨0,[]⟩ none 0*(IntKind.u32.wrap b).toNat+(IntKind.u32.wrap(ZJ(byR l i) b)).toNat=W),true),(ZaU⟨0,[]⟩ none 0 0(IntKind.u32.wrap b)(IntKind.u32.wrap(ZJ(byR l i) b)),true),(decide(0<0∨0<(IntKind.u32.wrap(ZJ(byR l i) b))),true),(decide(b=10∨b=16),true),(decide(0≤i∧i.toNat<l.length),true),(decide(i<(l.length:Nat)),true)]:=⟨by kernel_rfl,by kernel_rfl,by kernel_rfl⟩
theorem Z8j(l:List UInt8)(b i:Int)(V W:Nat)(g:Nat→Value):Zg(evC(Zs Tryz.prog Zf ZI Zd0) 100 false(rfL Tryz.f51)(rfF l b(sq0 V) i++tl 17 g,pA V,[cmp true,cmp true,num W])⟨[],[],[]⟩) 7 17 none(rfF l b(sl 1 0(d16 W).length(d16 W).length)(IntKind.i64.wrap(i+1)))⟨2,[wq W,wq V]⟩ [(decide(vO(pA V)(some⟨0,0,none⟩)(d16 V).length*(IntKind.u32.wrap b).toNat+(IntKind.u32.wrap(ZJ(byR l i) b)).toNat=W),true),(ZaU(pA V)(some⟨0,0,none⟩)(d16 V).length(d16 V).length(IntKind.u32.wrap b)(IntKind.u32.wrap(ZJ(byR l i) b)),true),(decide(0<(d16 V).length∨0<(IntKind.u32.wrap(ZJ(byR l i) b))),true),(decide(b=10∨b=16),true),(decide(0≤i∧i.toNat<l.length),true),(decide(i<(l.length:Nat)),true)]:=⟨by kernel_rfl,by kernel_rfl,by kernel_rfl⟩
theorem ZAg(l:List UInt8)(b:Int)(out:Value)(i:Int)(h:Hp)(g:Nat→Value):Zg(evC(Zs Tryz.prog Zf ZI Zd0) 100 false(rfE Tryz.f51)(rfF l b out i++tl 17 g,h,[])⟨[],[],[]⟩) 5 19(some none) [bR l,.int .i64 b,undef,undef,out] h []:=⟨by kernel_rfl,by kernel_rfl,by kernel_rfl⟩
def ZrR(b:Int)(l:List UInt8):Bool:=decide((b=10∨b=16)∧l.length≤20000) && zi b l && decide(0<ZJ(byR l 0) b)
theorem ZrS{b:Int}{l:List UInt8}(h:zi b l=true){i:Nat}(hi:i<l.length):0≤ZJ(byR l(i:Nat)) b:=by
 unfold zi at h
 rw[List.all_eq_true] at h
 have h1:=h(l.getD i 0)(by rw[List.getD_eq_getElem?_getD,List.getElem?_eq_getElem hi,Option.getD_some];exact List.getElem_mem hi)
 unfold byR
 rw[Int.toNat_natCast]
 exact of_decide_eq_true h1
theorem ZlL{b:Int}(hb:b=10∨b=16)(l:List UInt8):(d16(nmB b l)).length≤l.length:=by
 refine Zer(Nat.lt_of_lt_of_le(Zds hb l) ?_)
 have h1:b.toNat^l.length≤16^l.length:=Nat.pow_le_pow_left(by omega) _
 have h2:(16:Nat)^l.length=2^(4*l.length):=by rw[Nat.pow_mul]
 have h3:(2:Nat)^(4*l.length)≤2^(16*l.length):=Nat.pow_le_pow_right(by omega)(by omega)
 omega
def rfS(b:Int)(l:List UInt8)(i:Nat)(y:Lf):Prop:=(i=0∧∃ g,y.1=rfF l b Zq i++tl 17 g∧y.2.1=⟨0,[]⟩)∨(0<i∧0<nmB b(l.take i)∧∃ g,y.1=rfF l b(sq0(nmB b(l.take i))) i++tl 17 g∧y.2.1=pA(nmB b(l.take i)))
theorem ZrT{b:Int}{l:List UInt8}(hb:b=10∨b=16)(h2:l.length≤20000)(hA:zi b l=true)(h0:0<ZJ(byR l 0) b)(r:Nat)(y:Lf)(h:∃ i,i≤l.length∧r=l.length-i∧rfS b l i y):
  RunsW(Zs Tryz.prog Zf ZI Zd0)(rfL Tryz.f51) y fun e z=>match e with | none=>∃ r',r'<r∧∃ i,i≤l.length∧r'=l.length-i∧rfS b l i z | some none=>False | some(some id')=>id'=0∧rfS b l l.length z:=by
 obtain⟨i,hi,hr,hS⟩:=h
 obtain⟨t,h',sc⟩:=y
 by_cases hc:i<l.length
 ·have lA:decide(((i:Nat):Int)<(l.length:Nat))=true:=decide_eq_true(by omega)
  have lI:decide((0:Int)≤(i:Nat)∧((i:Nat):Int).toNat<l.length)=true:=decide_eq_true⟨by omega,by rw[Int.toNat_natCast];exact hc⟩
  have lB:decide(b=10∨b=16)=true:=decide_eq_true hb
  have ew:IntKind.i64.wrap(((i:Nat):Int)+1)=((i+1:Nat):Int):=by rw[Zw(by omega)(by omega)];omega
  have bD:=Zf4(byR l(i:Nat)) b
  have bd0:=ZrS hA hc
  have eD:(IntKind.u32.wrap(ZJ(byR l(i:Nat)) b))=ZJ(byR l(i:Nat)) b:=by
   simp [IntKind.wrap,IntKind.bits,IntKind.signed]
   omega
  have eB:IntKind.u32.wrap b=b:=by
   simp [IntKind.wrap,IntKind.bits,IntKind.signed]
   omega
  have eV:=Zf5 b l hc
  have eC:lq8(l.getD i 0)=byR l(i:Nat):=by unfold lq8 byR;rw[Int.toNat_natCast]
  rw[eC] at eV
  rcases hS with⟨hz,g,ht,hh⟩ | ⟨hz,hp,g,ht,hh⟩
  ·simp only at ht hh
   subst ht hh
   have hg:=Z8i l b(i:Nat)(nmB b(l.take(i+1))) g
   rw[ew,eD,eB] at hg
   have d0:0<ZJ(byR l(i:Nat)) b:=by rw[hz];exact h0
   have e0:nmB b(l.take i)=0:=by rw[hz];rfl
   have k0:ZaU⟨0,[]⟩ none 0 0 b(ZJ(byR l(i:Nat)) b)=true:=by
    unfold ZaU
    rw[decide_eq_true⟨⟨by omega,by omega⟩,by omega,by omega⟩]
    rfl
   refine(Ze(s0:=sc) Zkn hg(Za(decide_eq_true(by rw[eV,e0,show vO⟨0,[]⟩ none 0=0 from rfl]))(Za k0(Za(decide_eq_true(.inr d0))(Za lB(Za lI(Z3 lA))))))).mono fun e z he=> ?_
   obtain⟨rfl,⟨g',z1⟩,z2⟩:=he
   exact⟨l.length-(i+1),by omega,i+1,by omega,rfl,.inr⟨by omega,by rw[eV,e0];omega,g',z1,z2⟩⟩
  ·simp only at ht hh
   subst ht hh
   have lV:=ZlL hb(l.take i)
   have lT:(l.take i).length≤i:=by rw[List.length_take];omega
   obtain⟨V,hV⟩:∃ V,V=nmB b(l.take i):=⟨_,rfl⟩
   rw[← hV] at eV lV hp
   have h1:0<(d16 V).length:=by
    unfold d16
    rw[List.length_pos_iff,ne_eq,Zcw(by omega)]
    omega
   have k1:ZaU(pA V)(some⟨0,0,none⟩)(d16 V).length(d16 V).length b(ZJ(byR l(i:Nat)) b)=true:=by
    unfold ZaU
    rw[ZQ(h:=pA V)(b:=0)(A:=V) rfl(by omega),zY(h:=pA V)(b:=0)(A:=V)(ty:=tU) rfl,Zp.2(by omega),decide_eq_true⟨⟨by omega,by omega⟩,by omega,by omega⟩]
    rfl
   have q1:decide(vO(pA V)(some⟨0,0,none⟩)(d16 V).length*b.toNat+(ZJ(byR l(i:Nat)) b).toNat=nmB b(l.take(i+1)))=true:=decide_eq_true(by rw[z5(h:=pA V)(b:=0)(A:=V)(ty:=tU) rfl,eV])
   have hg:=Z8j l b(i:Nat) V(nmB b(l.take(i+1))) g
   rw[ew,eD,eB] at hg
   rw[← hV]
   have hb0:0<b.toNat:=by omega
   have hW:0<nmB b(l.take(i+1)):=by rw[eV];have:=Nat.mul_pos hp hb0;omega
   refine((Ze(s0:=sc) Zkn hg(Za q1(Za k1(Za(decide_eq_true(.inl h1))(Za lB(Za lI(Z3 lA))))))).kept(k:=0)(b:=1)(base:=[])(y:=wq(nmB b(l.take(i+1))))(front':=rfF l b(sq0(nmB b(l.take(i+1))))((i+1:Nat):Int)) rfl(by kernel_rfl)(fun j x hx=>by have:j<0:=Hp.blk_lt hx;omega) rfl(by omega)(ZF _)(by
    intro v hv
    simp only[rfF,List.mem_cons,List.not_mem_nil,or_false] at hv
    rcases hv with rfl | rfl | rfl | rfl | rfl | rfl | rfl<;>rfl)).mono fun e z he=> ?_
   obtain⟨rfl,⟨g',z1⟩,z2⟩:=he
   exact⟨l.length-(i+1),by omega,i+1,by omega,rfl,.inr⟨by omega,hW,g',z1,z2⟩⟩
 ·have his:i=l.length:=by omega
  have out:∀ (o:Value)(g:Nat→Value),RunsW(Zs Tryz.prog Zf ZI Zd0)(rfL Tryz.f51)(rfF l b o i++tl 17 g,h',sc) fun e z=>e=some(some 0)∧(∃ g,z.1=rfF l b o i++tl 17 g)∧z.2.1=h':=fun o g=>Ze(s0:=sc) Zkn(ZAf l b o(i:Nat) h' g)(Z3(decide_eq_false(by omega)))
  rw[← his]
  rcases hS with⟨hz,g,ht,hh⟩ | ⟨hz,hp,g,ht,hh⟩
  ·simp only at ht hh
   subst ht
   refine(out _ g).mono fun e z he=> ?_
   obtain⟨rfl,⟨g',z1⟩,z2⟩:=he
   exact⟨rfl,.inl⟨hz,g',z1,z2.trans hh⟩⟩
  ·simp only at ht hh
   subst ht
   refine(out _ g).mono fun e z he=> ?_
   obtain⟨rfl,⟨g',z1⟩,z2⟩:=he
   exact⟨rfl,.inr⟨hz,hp,g',z1,z2.trans hh⟩⟩
theorem ZxP{b:Int}{l:List UInt8}(hb:b=10∨b=16)(h2:l.length≤20000)(hA:zi b l=true)(h0:0<ZJ(byR l 0) b):RunsW(Zs Tryz.prog Zf ZI Zd0)(za(rfP Tryz.f51)(.seq(.seq(rfI Tryz.f51)(.block 0(.loop(rfL Tryz.f51))))(rfE Tryz.f51)))([bR l,.int .i64 b]++List.replicate 22 undef,⟨0,[]⟩,[]) fun e z=>(e=none∨e=some none)∧ZZ Tryz.prog Tryz.f51 z.1 z.2.1=some(sl 0 0(d16(nmB b l)).length(d16(nmB b l)).length)∧∃ r,z.2.1.blk? 0=some(wU(d16(nmB b l))++r,tU):=by
 refine Z1 Zkn(Z3b l b) ZaZ fun g=> ?_
 refine RunsW.seq(P1:=fun e y=>match e with | none=>rfS b l l.length y | some none=>False | some(some _)=>False) ?_ ?_ ?_
 ·refine RunsW.seq(Ze Zkn(ZAe l b _ g) ZaZ) ?_(fun e y he=>by cases he.1)
  rintro⟨t,hh,sc⟩⟨_,⟨g',e1⟩,e2⟩
  refine RunsW.forLoop(R:=fun _=>False)(P:=rfS b l l.length)(fun r y=>∃ i,i≤l.length∧r=l.length-i∧rfS b l i y)(ZrT hb h2 hA h0)(n:=l.length)⟨0,by omega,rfl,.inl⟨rfl,g',e1,e2⟩⟩
 ·rintro⟨t,hh,sc⟩ hS
  have et:l.take l.length=l:=List.take_length
  rcases hS with⟨hz,g',e1,e2⟩ | ⟨hz,hp,g',e1,e2⟩
  ·exfalso
   have:l=[]:=List.eq_nil_of_length_eq_zero hz
   rw[this] at h0
   have e:ZJ(byR [] 0) b= -1:=by
    unfold byR ZJ
    rw[if_neg(by decide),if_neg(by intro h;exact absurd h.2.1(by decide))]
   omega
  ·simp only at e1 e2
   subst e1 e2
   rw[et]
   refine(Ze(s0:=sc) Zkn(ZAg l b _ _ _ g') ZaZ).mono fun e z he=> ?_
   obtain⟨rfl,⟨g2,z1⟩,z2⟩:=he
   exact⟨.inr rfl,by rw[z1,z2];rfl,[],by rw[z2,List.append_nil];rfl⟩
 ·rintro e⟨t,hh,sc⟩ hc
  match e,hc with
  | none,hc=>exact hc.elim
  | some _,hc=>exact hc.elim
def Z8k:Zaf:=fun vals h s=>
 match vals,s with
 | [.string⟨⟨l⟩⟩,.int .i64 b],.inr(.inl V)::s'=>Zdh V.toNat h s' [(decide(nmB b l=V.toNat),true),(ZrR b l,true)]
 | _,_=>none
theorem ZxQ:Z9 51 Z8k:=by
 intro vals h s v h' s' lg hg hl m B w E hv
 unfold Z8k at hg
 split at hg
 ·rename_i l b V s2
  unfold Zdh at hg
  cases hg
  rw[ZcQ,ZcQ] at hl
  obtain⟨l0,l1,_⟩:=hl
  have l0:=of_decide_eq_true l0
  rw[← l0]
  unfold ZrR at l1
  simp only[Bool.and_eq_true,decide_eq_true_eq] at l1
  obtain⟨⟨⟨q1,q2⟩,q3⟩,q4⟩:=l1
  have r:=ZxP q1 q2 q3 q4
  have e:rn(fun _=>h.n)(sl 0 0(d16(nmB b l)).length(d16(nmB b l)).length)=sl h.n 0(d16(nmB b l)).length(d16(nmB b l)).length:=by kernel_rfl
  have:=ZG(T:=(Zs Tryz.prog Zf ZI Zd0)) Tryz.func51 ZxO(h0:=⟨0,[]⟩)⟨rfl,fun b x hx=>by have:b<0:=Hp.blk_lt hx;omega⟩(vals:=[bR l,.int .i64 b])(fun v hv=>by
   simp only[List.mem_cons,List.not_mem_nil,or_false] at hv
   rcases hv with h1 | h1<;>rw[h1]<;>rfl)(k:=0)(cs:=wU(d16(nmB b l)))(ty:=tU)(Zbb _)(by kernel_rfl) r(by rfl) E(s:=fun i=>i)(fun i x hx=>by have:i<0:=Hp.blk_lt hx;omega)
  rw[e] at this
  exact this
 ·cases hg
end Go.Proofs.YtjlponbdflkbjaaGreatDoor
