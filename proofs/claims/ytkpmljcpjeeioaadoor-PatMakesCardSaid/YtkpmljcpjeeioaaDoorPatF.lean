/-
  What is known of calls, for the laws of patterns that tell errors by their numbers.
-/
import Derived.Test.YtkpmljcpjeeioaaDoorPatE
import Derived.Test.YtkpmljcpjeeioaaDoorAsNum
import Derived.Test.YtkpmljcpjeeioaaDoorRunK
namespace Go.Proofs.YtkpmljcpjeeioaaDoor
open Go.KRun Go.Pt
set_option maxRecDepth 100000

def conD : Con := alt 6 gRefM conM
theorem conD_ok : ConOk conD := alt_ok Tryd.func6 rfl gRefM_ok conM_ok
def hcD : Hc := altH 7 gNum hcN
theorem hcD_ok : HcOk hcD := altH_ok Tryd.func7 rfl gNum_ok hcN_ok
end Go.Proofs.YtkpmljcpjeeioaaDoor
