/-
  Contracts of frame's and the reference's Bytes: what each returns and what it does to memory. Conditions: those that each theorem names.
-/
import Derived.Test.YtcfdfpihmmaalaaFrmLength
namespace Go.Proofs.Ytcfdfpihmmaalaa
open Go.RowKit

/-- The frame's first four bytes. -/
def lead (n : Nat) : List UInt8 := [UInt8.ofNat (n % 256), UInt8.ofNat (n / 256 % 256), 0, 0]
theorem enc_lead (x : List UInt8) : FP.enc x = lead x.length ++ x := rfl
theorem cells_lead {n : Nat} (h : n ≤ 1024) : cells (lead n) = [.int .u8 ((n : Int) % 256), .int .u8 ((n : Int) / 256), .int .u8 0, .int .u8 0] := by
  have h1 : (UInt8.ofNat (n % 256)).toNat = n % 256 := FP.toNat_ofNat (by omega)
  have h2 : (UInt8.ofNat (n / 256 % 256)).toNat = n / 256 % 256 := FP.toNat_ofNat (by omega)
  simp only [cells, lead, List.map_cons, List.map_nil, h1, h2]
  have h3 : n / 256 % 256 = n / 256 := by omega
  rw [h3]
  rfl
theorem lead_seen {w : World} {g T n : Nat} (h : Var w g T (four ((n : Int) % 256) ((n : Int) / 256) 0 0)) (hn : n ≤ 1024) : Seen w w.heap.size (some ⟨g, 0, none⟩) (cells (lead n)) := fun _ =>
  ⟨g, 0, rfl, h.lt, fun j u hu => by
    rw [Nat.zero_add, cells_lead hn] at *
    exact h.cell j (by rw [← hu]; simp [four])⟩

theorem bytes_no (s : ByteArray) (w : World) (h : 1024 < s.size) (hm : s.size ≤ 140737488351232) : Calls Try.prog 8 #[.string s] w fun e w' => e = .returned (.tuple #[.string ByteArray.empty, .int .i64 2]) ∧ w = w' := by
  go_enter Try.func8, Try.ntmps8
  go_wp2_with fail
  refine (size_no _ _ (.inr (by omega))).mono ?_
  rintro e w1 ⟨rfl, rfl⟩
  go_wp2
  go_ret2
  exact ⟨rfl, rfl⟩

set_option maxRecDepth 100000 in
set_option maxHeartbeats 400000 in
theorem bytes_yes (s : ByteArray) (w : World) (h : s.size ≤ 1024) : Calls Try.prog 8 #[.string s] w fun e w' => e = .returned (.tuple #[.string (str (FP.enc (bytesOf s))), .int .i64 0]) ∧ Below w.heap.size w w' := by
  obtain ⟨n, hn⟩ : ∃ n, n = s.size := ⟨_, rfl⟩
  have hz : n + 4 ≠ 0 := by omega
  go_enter Try.func8, Try.ntmps8
  go_wp2_with fail
  refine (size_yes s.size _ h).mono ?_
  rintro e w1 ⟨rfl, rfl⟩
  go_wp2_with fail
  refine (lengthOf_yes s.size _ h).mono ?_
  rintro e w1 ⟨rfl, hb⟩
  unfold four
  have hv : Var (w1.alloc (.cells (four ((s.size : Int) % 256) ((s.size : Int) / 256) 0 0) 39)) w1.heap.size 39 (four ((s.size : Int) % 256) ((s.size : Int) / 256) 0 0) := Var.new w1 _ _
  have hb2 : Below w.heap.size w (w1.alloc (.cells (four ((s.size : Int) % 256) ((s.size : Int) / 256) 0 0) 39)) := hb.alloc hb.size _
  have hst := run_str (P := Try.prog) (lead_seen hv h) 41 9 5 4 Try.underlying41 Try.underlying5 Try.underlying9
  have hll : (lead s.size).length = 4 := rfl
  rw [hll] at hst
  unfold four at hst
  go_wp2_with fail
  go_ret2
  refine ⟨?_, hb2⟩
  rw [enc_lead, str_append, str_bytesOf, bytesOf_length]
  rfl

theorem rbytes_no (s : ByteArray) (w : World) (h : 1024 < s.size) (hm : s.size ≤ 140737488351232) : Calls Try.prog 9 #[.string s] w fun e w' => e = .returned (.tuple #[.string ByteArray.empty, .int .i64 2]) ∧ w = w' := by
  have hd : decide ((1024 : Int) < s.size) = true := by simp; omega
  go_enter Try.func9, Try.ntmps9
  go_wp2
  go_ret2
  exact ⟨rfl, rfl⟩

theorem low255 (a : Nat) (ha : a < 9223372036854775808) : bits .and .i64 (a : Int) 255 = (a : Int) % 256 := by
  have h := and_i64 a 255 ha (by omega)
  rw [show a &&& 255 = a % 256 from Nat.and_two_pow_sub_one_eq_mod a 8] at h
  rw [show ((255 : Nat) : Int) = 255 from rfl] at h
  rw [h]; omega
set_option maxRecDepth 100000 in
set_option maxHeartbeats 400000 in
theorem rbytes_yes (s : ByteArray) (w : World) (h : s.size ≤ 1024) : Calls Try.prog 9 #[.string s] w fun e w' => e = .returned (.tuple #[.string (str (FP.enc (bytesOf s))), .int .i64 0]) ∧ Below w.heap.size w w' := by
  have hv : Var (w.alloc (.cells (four ((s.size : Int) % 256) ((s.size : Int) / 256) 0 0) 5)) w.heap.size 5 (four ((s.size : Int) % 256) ((s.size : Int) / 256) 0 0) := Var.new w _ _
  have hb2 : Below w.heap.size w (w.alloc (.cells (four ((s.size : Int) % 256) ((s.size : Int) / 256) 0 0) 5)) := (Below.refl _ _).alloc (Nat.le_refl _) _
  have hst := run_str (P := Try.prog) (lead_seen hv h) 41 9 5 4 Try.underlying41 Try.underlying5 Try.underlying9
  have hll : (lead s.size).length = 4 := rfl
  rw [hll] at hst
  unfold four at hst
  have hl := low255 s.size (by omega)
  have hl2 : bits .and .i64 ((s.size : Int) / 256) 255 = (s.size : Int) / 256 := by
    have := low255 (s.size / 256) (by omega)
    rw [show ((s.size / 256 : Nat) : Int) = (s.size : Int) / 256 by omega] at this
    rw [this]; omega
  have hd : decide ((1024 : Int) < s.size) = false := by simp; omega
  go_enter Try.func9, Try.ntmps9
  go_wp2
  go_ret2
  refine ⟨?_, hb2⟩
  rw [enc_lead, str_append, str_bytesOf, bytesOf_length]
  rfl
end Go.Proofs.Ytcfdfpihmmaalaa
