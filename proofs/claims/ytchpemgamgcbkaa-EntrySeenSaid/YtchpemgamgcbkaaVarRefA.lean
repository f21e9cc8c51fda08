/-
  Contracts of the document's own answers for varint (rovingref01's Put and Len): what each returns and what it does to memory. Conditions: those that each theorem names.
-/
import Derived.Test.YtchpemgamgcbkaaVarWalkD
namespace Go.Proofs.Ytchpemgamgcbkaa
open Go.RowKit

end Go.Proofs.Ytchpemgamgcbkaa
