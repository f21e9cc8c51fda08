/-
  The contract of the document's own May of requests. Conditions: those that the theorem names.
-/
import Derived.Test.YtfcifblbapadpaaGreatDoorReqMayRA
import Derived.Test.YtfcifblbapadpaaGreatDoorReqMayRB
import Derived.Test.YtfcifblbapadpaaGreatDoorReqMayRC
import Derived.Test.YtfcifblbapadpaaGreatDoorReqMayRD
namespace Go.Proofs.YtfcifblbapadpaaGreatDoor
open Go.RowKit

theorem ref_qmay_any (x : Rq) (A : Option Addr) (n c B : Nat) (q : Bool) (w : World) (hx : QIn w B x A n c) (hB : B ≤ w.heap.size) (hq : q = true ↔ x.Good) :
    Calls Tryz.prog 18 #[.agg (qvals x A n c)] w fun e w' => e = .returned (.bool q) ∧ Below w.heap.size w w' := by
  obtain ⟨kind, tid, timeout, pid, ep, part, group, off, most, yes, ⟨bp, be, bs, bt, rs⟩⟩ := x
  by_cases h0 : kind = 0
  · subst h0; exact ref_qmay_0 tid timeout pid ep part group off most yes bp be bs bt rs A n c B q w hx hB hq
  by_cases h1 : kind = 1
  · subst h1; exact ref_qmay_1 tid timeout pid ep part group off most yes bp be bs bt rs A n c B q w hx hB hq
  by_cases h2 : kind = 2
  · subst h2; exact ref_qmay_2 tid timeout pid ep part group off most yes bp be bs bt rs A n c B q w hx hB hq
  by_cases h3 : kind = 3
  · subst h3; exact ref_qmay_3 tid timeout pid ep part group off most yes bp be bs bt rs A n c B q w hx hB hq
  by_cases h4 : kind = 4
  · subst h4; exact ref_qmay_4 tid timeout pid ep part group off most yes bp be bs bt rs A n c B q w hx hB hq
  by_cases h5 : kind = 5
  · subst h5; exact ref_qmay_5 tid timeout pid ep part group off most yes bp be bs bt rs A n c B q w hx hB hq
  by_cases h6 : kind = 6
  · subst h6; exact ref_qmay_6 tid timeout pid ep part group off most yes bp be bs bt rs A n c B q w hx hB hq
  by_cases h7 : kind = 7
  · subst h7; exact ref_qmay_7 tid timeout pid ep part group off most yes bp be bs bt rs A n c B q w hx hB hq
  by_cases h8 : kind = 8
  · subst h8; exact ref_qmay_8 tid timeout pid ep part group off most yes bp be bs bt rs A n c B q w hx hB hq
  by_cases h9 : kind = 9
  · subst h9; exact ref_qmay_9 tid timeout pid ep part group off most yes bp be bs bt rs A n c B q w hx hB hq
  exact ref_qmay_other kind tid timeout pid ep part group off most yes bp be bs bt rs A n c B q w (fun j hj h => by omega) hx hB hq
end Go.Proofs.YtfcifblbapadpaaGreatDoor
