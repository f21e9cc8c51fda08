/-
  The walk over EntryOnly with what opens its arguments. No conditions.
-/
import Derived.Test.YtchpemgamgcbkaaEntOnlyWalk
import Derived.Test.YtchpemgamgcbkaaEntIn
