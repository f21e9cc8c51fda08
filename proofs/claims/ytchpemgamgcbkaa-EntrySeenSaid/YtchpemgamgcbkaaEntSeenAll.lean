/-
  The walk over EntrySeen with what opens its arguments. No conditions.
-/
import Derived.Test.YtchpemgamgcbkaaEntSeenWalk
import Derived.Test.YtchpemgamgcbkaaEntIn
