/-
  The code of a polynomial. Conditions: as each theorem states.
-/
import Derived.Test.YtphgpadpffigjaaD
namespace Go.Proofs.Ytphgpadpffigjaa
open Go.RowKit Go.Sort

def polyC (p d : Int) (ts : List Tm) : Int := if isPolyB p d ts then 0 else 1
end Go.Proofs.Ytphgpadpffigjaa
