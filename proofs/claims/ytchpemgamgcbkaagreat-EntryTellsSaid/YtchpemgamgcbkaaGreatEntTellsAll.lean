/-
  The walk over EntryTells with what opens its arguments. No conditions.
-/
import Derived.Test.YtchpemgamgcbkaaGreatEntTellsWalk
import Derived.Test.YtchpemgamgcbkaaGreatEntIn

