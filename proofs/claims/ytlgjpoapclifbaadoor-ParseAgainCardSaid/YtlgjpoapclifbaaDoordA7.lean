/- The functions of layer 29, EF. Conditions: none. -/
import Derived.Test.YtlgjpoapclifbaaDoordA6
namespace Go.Proofs.YtlgjpoapclifbaaDoor
open Go Go.RowKit
set_option linter.unusedVariables false
set_option linter.unusedSimpArgs false
set_option maxRecDepth 20000
def Nm (p0 : Int) : Int := (if p0 = 2 then 15 else (if (decide (p0 = 0) || (decide (p0 = 1) || decide (p0 = 3))) = true then 255 else 0))
def Hl (p0 : Int) : Int := (if (decide (p0 = 4) || decide (p0 = 5)) = true then 7 else (Nm p0))
end Go.Proofs.YtlgjpoapclifbaaDoor
