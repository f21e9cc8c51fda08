/-
  Contracts of Bytes, First and Size in one form each, frame's and the reference's: what they return is named. Conditions: those that each theorem names.
-/
import Derived.Test.YtcfdfpihmmaalaaFrmWakes
import Derived.Test.YtcfdfpihmmaalaaFrmBytes
import Derived.Test.YtcfdfpihmmaalaaFrmRef
import Derived.Test.YtcfdfpihmmaalaaFrmSame
namespace Go.Proofs.Ytcfdfpihmmaalaa
open Go.RowKit

def bytesS (s : ByteArray) : ByteArray := if s.size ≤ 1024 then str (FP.enc (bytesOf s)) else ByteArray.empty
def bytesE (s : ByteArray) : Int := if s.size ≤ 1024 then 0 else 2
theorem bytes_any (s : ByteArray) (w : World) (hm : s.size ≤ 140737488351232) : Calls Try.prog 8 #[.string s] w fun e w' => e = .returned (.tuple #[.string (bytesS s), .int .i64 (bytesE s)]) ∧ Below w.heap.size w w' := by
  unfold bytesS bytesE
  by_cases h : s.size ≤ 1024
  · rw [if_pos h, if_pos h]; exact bytes_yes s w h
  · rw [if_neg h, if_neg h]; exact (bytes_no s w (by omega) hm).mono fun _ _ ⟨he, hw⟩ => ⟨he, by rw [hw]; exact Below.refl _ _⟩
theorem rbytes_any (s : ByteArray) (w : World) (hm : s.size ≤ 140737488351232) : Calls Try.prog 9 #[.string s] w fun e w' => e = .returned (.tuple #[.string (bytesS s), .int .i64 (bytesE s)]) ∧ Below w.heap.size w w' := by
  unfold bytesS bytesE
  by_cases h : s.size ≤ 1024
  · rw [if_pos h, if_pos h]; exact rbytes_yes s w h
  · rw [if_neg h, if_neg h]; exact (rbytes_no s w (by omega) hm).mono fun _ _ ⟨he, hw⟩ => ⟨he, by rw [hw]; exact Below.refl _ _⟩

def firstS (s : ByteArray) : ByteArray := if FP.fst (bytesOf s) = 0 then ByteArray.empty else str (FP.load (bytesOf s))
def firstN (s : ByteArray) : Int := FP.fst (bytesOf s)
def firstB (s : ByteArray) : Bool := if FP.fst (bytesOf s) = 0 then false else true
theorem firstV_is (s : ByteArray) : firstV s = .tuple #[.string (firstS s), .int .i64 (firstN s), .bool (firstB s)] := by
  unfold firstS firstN firstB
  by_cases h : FP.fst (bytesOf s) = 0
  · rw [firstV_no h, if_pos h, if_pos h, h]; rfl
  · rw [firstV_yes h, if_neg h, if_neg h]
theorem first_any (s : ByteArray) (w : World) (hm : s.size ≤ 140737488351232) : Calls Try.prog 10 #[.string s] w fun e w' => e = .returned (.tuple #[.string (firstS s), .int .i64 (firstN s), .bool (firstB s)]) ∧ Below w.heap.size w w' := by
  rw [← firstV_is]
  by_cases h : FP.fst (bytesOf s) = 0
  · rw [firstV_no h]; exact first_no s w hm h
  · rw [firstV_yes h]; exact first_yes s w hm _ rfl h
theorem rfirst_any' (s : ByteArray) (w : World) (hm : s.size ≤ 140737488351232) : Calls Try.prog 11 #[.string s] w fun e w' => e = .returned (.tuple #[.string (firstS s), .int .i64 (firstN s), .bool (firstB s)]) ∧ Below w.heap.size w w' := by
  rw [← firstV_is]
  exact rfirst_any s w hm

def sizeN (n : Int) : Int := if 0 ≤ n ∧ n ≤ 1024 then n + 4 else 0
theorem size_any (n : Int) (w : World) : Calls Try.prog 15 #[.int .i64 n] w fun e w' => e = .returned (.int .i64 (sizeN n)) ∧ w = w' := by
  unfold sizeN
  by_cases h : 0 ≤ n ∧ n ≤ 1024
  · rw [if_pos h]
    have := size_yes n.toNat w (by omega)
    rw [show (n.toNat : Int) = n by omega, show ((n.toNat + 4 : Nat) : Int) = n + 4 by omega] at this
    exact this
  · rw [if_neg h]
    exact size_no n w (by omega)
theorem rsize_any (n : Int) (w : World) : Calls Try.prog 16 #[.int .i64 n] w fun e w' => e = .returned (.int .i64 (sizeN n)) ∧ w = w' := by
  unfold sizeN
  by_cases h : 0 ≤ n ∧ n ≤ 1024
  · rw [if_pos h]
    have := rsize_yes n.toNat w (by omega)
    rw [show (n.toNat : Int) = n by omega, show ((n.toNat + 4 : Nat) : Int) = n + 4 by omega] at this
    exact this
  · rw [if_neg h]
    exact rsize_no n w (by omega)
end Go.Proofs.Ytcfdfpihmmaalaa
