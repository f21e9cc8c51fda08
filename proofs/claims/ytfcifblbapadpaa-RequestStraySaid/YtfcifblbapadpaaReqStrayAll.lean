/-
  What the proof of RequestStray takes: the walk and the arguments opened. No conditions.
-/
import Derived.Test.YtfcifblbapadpaaReqStrayWalk
import Derived.Test.YtfcifblbapadpaaReqIn

