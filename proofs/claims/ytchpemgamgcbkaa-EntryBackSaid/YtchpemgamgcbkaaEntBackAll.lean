/-
  The walk over EntryBack with what opens its arguments. No conditions.
-/
import Derived.Test.YtchpemgamgcbkaaEntBackWalk
import Derived.Test.YtchpemgamgcbkaaEntIn
