/-
  What is read of a batch's bytes, of a beginning of them, of them with a byte behind. No conditions.
-/
import Derived.Test.YtfcifblbapadpaaDoorReqG6
namespace Go.Proofs.YtfcifblbapadpaaDoor
open Go.RowKit

theorem bytesOf_append (a b : ByteArray) : bytesOf (a ++ b) = bytesOf a ++ bytesOf b := by
  simp [bytesOf, ByteArray.data_append]
theorem read_same {b : Bt} (h : b.Good) : ReadIs ⟨b.enc.toArray⟩ b 0 := .inl ⟨bytesOf_mk _, h, rfl⟩
theorem read_cut {b : Bt} (h : b.Good) {s : ByteArray} {c : Nat} (hs : bytesOf s = b.enc) (hc : c < b.enc.length) : ReadIs (s.extract 0 c) noBt 70 := by
  refine .inr ⟨fun x hx he => ?_, rfl, rfl⟩
  rw [bytesOf_extract, List.drop_zero, Nat.sub_zero, hs] at he
  have h1 : b.enc = x.enc ++ b.enc.drop c := by rw [← he, List.take_append_drop]
  have h2 := (enc_begins h hx h1).2
  have h3 := congrArg List.length h2
  rw [List.length_drop] at h3
  simp at h3
  omega
theorem read_more {b : Bt} (h : b.Good) {s : ByteArray} (hs : bytesOf s = b.enc) : ReadIs (s ++ ⟨#[0]⟩) noBt 70 := by
  refine .inr ⟨fun x hx he => ?_, rfl, rfl⟩
  rw [bytesOf_append, hs] at he
  have h2 := (enc_begins hx h he.symm).2
  simp [bytesOf] at h2
theorem enc_size (b : Bt) : (⟨b.enc.toArray⟩ : ByteArray).size = b.enc.length := by simp [ByteArray.size]
theorem string_of {s : ByteArray} {l : List UInt8} (h : bytesOf s = l) : s = ⟨l.toArray⟩ := by rw [← h]; exact string_mk s
theorem not_empty {s : ByteArray} (h : 0 < s.size) : (s.toList == ({ data := #[] } : ByteArray).toList) = false := by
  rw [← Bool.not_eq_true, eqS]
  rintro rfl
  simp [ByteArray.size] at h
theorem app_size (a b : ByteArray) : (a ++ b).size = a.size + b.size := by
  have := congrArg List.length (bytesOf_append a b)
  rwa [bytesOf_length, List.length_append, bytesOf_length, bytesOf_length] at this
/-- The offset from which a law takes rows. -/
theorem mask_is (a : Nat) (ha : a < 9223372036854775808) : bits .and .i64 (a : Int) 1099511627775 = ((a % 1099511627776 : Nat) : Int) := by
  have h := and_i64 a 1099511627775 ha (by omega)
  rw [show a &&& 1099511627775 = a % 1099511627776 from Nat.and_two_pow_sub_one_eq_mod a 40] at h
  exact h
theorem mask_of (off : Int) (h : off ≤ 9223372036854775807) : ∃ o : Nat, (0 ≤ off → bits .and .i64 off 1099511627775 = (o : Int)) ∧ (¬ 0 ≤ off → bits .and .i64 0 1099511627775 = (o : Int)) ∧ o ≤ 1099511627776 := by
  by_cases h0 : 0 ≤ off
  · obtain ⟨a, rfl⟩ : ∃ a : Nat, off = a := ⟨off.toNat, by omega⟩
    exact ⟨a % 1099511627776, fun _ => mask_is a (by omega), fun h1 => absurd h0 h1, by omega⟩
  · exact ⟨0, fun h1 => absurd h1 h0, fun _ => mask_is 0 (by omega), by omega⟩
end Go.Proofs.YtfcifblbapadpaaDoor
