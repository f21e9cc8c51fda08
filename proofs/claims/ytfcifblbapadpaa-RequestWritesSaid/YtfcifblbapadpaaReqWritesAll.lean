/-
  What the proof of RequestWrites takes: the walk and the arguments opened. No conditions.
-/
import Derived.Test.YtfcifblbapadpaaReqWritesWalk
import Derived.Test.YtfcifblbapadpaaReqIn

