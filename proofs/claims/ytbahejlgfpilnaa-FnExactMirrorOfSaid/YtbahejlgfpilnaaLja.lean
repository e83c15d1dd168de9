/-
  LISTS OF LISTS of numbers: how many numbers, from the headers. Conditions: as each theorem states.
-/
import Derived.Test.YtbahejlgfpilnaaLga
import Derived.Test.YtbahejlgfpilnaaLi
namespace Go.Proofs.Ytbahejlgfpilnaa
open Go.RowKit Go.Sort

theorem totL_map : ∀ O : List Row3, totL O = totR (O.map (·.2.1))
  | [] => rfl
  | e :: O => by simp [totL, totR, totL_map O]
end Go.Proofs.Ytbahejlgfpilnaa
