/-
  Contracts of frame's lengthOf and number: what each returns and what it does to memory. Conditions: those that each theorem names.
-/
import Derived.Test.YtcfdfpihmmaalaaFrmSize
namespace Go.Proofs.Ytcfdfpihmmaalaa
open Go.RowKit

/-- The array of four bytes. -/
def four (a b c d : Int) : Array Value := #[.int .u8 a, .int .u8 b, .int .u8 c, .int .u8 d]
/-- .. when k of them are laid. -/
def lenArr (n : Int) : Nat → Array Value
  | 0 => four 0 0 0 0
  | 1 => four (n % 256) 0 0 0
  | _ => four (n % 256) (n / 256) 0 0
theorem four_cells {w : World} {g T : Nat} {a b c d : Int} (h : Var w g T (four a b c d)) :
    (w.cell? ⟨g, 0, none⟩ = some (.int .u8 a) ∧ w.cell? ⟨g, 1, none⟩ = some (.int .u8 b) ∧ w.cell? ⟨g, 2, none⟩ = some (.int .u8 c) ∧ w.cell? ⟨g, 3, none⟩ = some (.int .u8 d)) ∧
    w.frozen? ⟨g, 0, none⟩ = false ∧ w.frozen? ⟨g, 1, none⟩ = false ∧ w.frozen? ⟨g, 2, none⟩ = false ∧ w.frozen? ⟨g, 3, none⟩ = false :=
  ⟨⟨h.cell 0 rfl, h.cell 1 rfl, h.cell 2 rfl, h.cell 3 rfl⟩, h.free 0, h.free 1, h.free 2, h.free 3⟩

set_option maxRecDepth 100000 in
set_option maxHeartbeats 400000 in
theorem lengthOf_yes (n : Nat) (w : World) (hn : n ≤ 1024) :
    Calls Try.prog 19 #[.int .i64 (n : Int)] w fun e w' => e = .returned (.agg (four ((n : Int) % 256) ((n : Int) / 256) 0 0)) ∧ Below w.heap.size w w' := by
  go_enter Try.func19, Try.ntmps19
  go_wp2
  go_loopw [4, 5] (fun i x wr => ∃ k : Nat, k ≤ 4 ∧ x = .int .i64 k ∧ Below w.heap.size w wr ∧ Var wr w.heap.size 39 (four 0 0 0 0) ∧ Var wr (w.heap.size + 1) 39 (lenArr n k)) (fun _ x _ => 4 - (intOf x).toNat)
  case atStart =>
    refine ⟨0, by omega, rfl, ((Below.refl _ _).alloc (Nat.le_refl _) _).alloc (by simp) _, (Var.new w _ _).alloc _, ?_⟩
    have h := Var.new (w.alloc (.cells (four 0 0 0 0) 39)) (four 0 0 0 0) 39
    rw [World.size_alloc] at h
    exact h
  case round =>
    obtain ⟨k, hk, rfl, hb, h0, h1⟩ := hrel
    have hs1 : ∀ u i, Below w.heap.size w (wr.setCell ⟨w.heap.size + 1, i, none⟩ u) := fun u i => hb.setCell (by simp) _
    rcases k with _ | _ | _ | _ | _ | k
    · obtain ⟨⟨c0, c1, c2, c3⟩, f0, f1, f2, f3⟩ := four_cells h1
      go_wp2
      go_roundw
      case rel => exact ⟨1, by omega, rfl, hs1 _ _, h0.other _ _ (by omega), h1.set 0 _⟩
      case measure => simp [intOf]
    · obtain ⟨⟨c0, c1, c2, c3⟩, f0, f1, f2, f3⟩ := four_cells h1
      go_wp2
      go_roundw
      case rel => exact ⟨2, by omega, rfl, hs1 _ _, h0.other _ _ (by omega), h1.set 1 _⟩
      case measure => simp [intOf]
    · obtain ⟨⟨c0, c1, c2, c3⟩, f0, f1, f2, f3⟩ := four_cells h1
      have z2 : (n : Int) / 65536 = 0 := by omega
      go_wp2
      go_roundw
      case rel => exact ⟨3, by omega, rfl, hs1 _ _, h0.other _ _ (by omega), h1.set 2 _⟩
      case measure => simp [intOf]
    · obtain ⟨⟨c0, c1, c2, c3⟩, f0, f1, f2, f3⟩ := four_cells h1
      have z3 : (n : Int) / 16777216 = 0 := by omega
      go_wp2
      go_roundw
      case rel => exact ⟨4, by omega, rfl, hs1 _ _, h0.other _ _ (by omega), h1.set 3 _⟩
      case measure => simp [intOf]
    · obtain ⟨⟨c0, c1, c2, c3⟩, f0, f1, f2, f3⟩ := four_cells h1
      obtain ⟨⟨d0, d1, d2, d3⟩, g0, g1, g2, g3⟩ := four_cells h0
      go_wp2
      exact bodyPost_ret (v := .agg (four ((n : Int) % 256) ((n : Int) / 256) 0 0)) (by simp [results, Try.results19, go_sem, d0, d1, d2, d3, four]) rfl ⟨rfl, (((hb.setCell (by simp) _).setCell (by simp) _).setCell (by simp) _).setCell (by simp) _⟩
    · omega

theorem or_add (x y k : Nat) (hx : x < 2 ^ k) (hy : x + y * 2 ^ k < 9223372036854775808) : bits .or .i64 (x : Int) ((y * 2 ^ k : Nat) : Int) = ((x + y * 2 ^ k : Nat) : Int) := by
  rw [or_i64 _ _ (by omega) (by omega)]
  have h := Nat.two_pow_add_eq_or_of_lt (i := k) (b := x) hx y
  rw [Nat.or_comm, Nat.mul_comm y, ← h, Nat.add_comm]

/-- What the first k bytes say. -/
def part (a b c d : Nat) : Nat → Nat
  | 0 => 0
  | 1 => a
  | 2 => a + b * 256
  | 3 => a + b * 256 + c * 65536
  | _ => a + b * 256 + c * 65536 + d * 16777216

set_option maxRecDepth 100000 in
set_option maxHeartbeats 400000 in
theorem number_any (a b c d : Nat) (w : World) (ha : a < 256) (hb : b < 256) (hc : c < 256) (hd : d < 256) :
    Calls Try.prog 22 #[.agg (four a b c d)] w fun e w' => e = .returned (.int .i64 ((a + b * 256 + c * 65536 + d * 16777216 : Nat) : Int)) ∧ Below w.heap.size w w' := by
  go_enter Try.func22, Try.ntmps22
  go_wp2
  go_loopw [3, 4, 5] (fun n i x wr => ∃ k : Nat, k ≤ 4 ∧ x = .int .i64 k ∧ n = .int .i64 (part a b c d k : Nat) ∧ Below w.heap.size w wr ∧ Var wr w.heap.size 39 (four a b c d)) (fun _ _ x _ => 4 - (intOf x).toNat)
  case atStart => exact ⟨0, by omega, rfl, rfl, (Below.refl _ _).alloc (Nat.le_refl _) _, Var.new w _ _⟩
  case round =>
    obtain ⟨k, hk, rfl, hn, hb, h0⟩ := hrel
    obtain ⟨⟨c0, c1, c2, c3⟩, f0, f1, f2, f3⟩ := four_cells h0
    rcases k with _ | _ | _ | _ | _ | k
    · obtain ⟨m, hm⟩ : ∃ m, m = 0 := ⟨_, rfl⟩
      obtain ⟨m', hm'⟩ : ∃ m', m' = a := ⟨_, rfl⟩
      subst hn
      rw [show part a b c d 0 = m from hm.symm]
      have hor : bits .or .i64 (m : Int) (((a : Nat) : Int)) = (m' : Int) := by
        have h := or_add m a 0 (by omega) (by omega)
        rw [show ((a * 2 ^ 0 : Nat) : Int) = ((a : Nat) : Int) by omega] at h
        rw [h]
        omega
      have HM : Hid (m' = part a b c d 1) := hm'
      clear hm hm'
      go_wp2
      go_roundw
      case rel => exact ⟨1, by omega, rfl, by rw [← HM.out], hb, h0⟩
      case measure => simp [intOf]
    · obtain ⟨m, hm⟩ : ∃ m, m = a := ⟨_, rfl⟩
      obtain ⟨m', hm'⟩ : ∃ m', m' = a + b * 256 := ⟨_, rfl⟩
      subst hn
      rw [show part a b c d 1 = m from hm.symm]
      have hor : bits .or .i64 (m : Int) (((b : Nat) : Int) * 256) = (m' : Int) := by
        have h := or_add m b 8 (by omega) (by omega)
        rw [show ((b * 2 ^ 8 : Nat) : Int) = ((b : Nat) : Int) * 256 by omega] at h
        rw [h]
        omega
      have HM : Hid (m' = part a b c d 2) := hm'
      clear hm hm'
      go_wp2
      go_roundw
      case rel => exact ⟨2, by omega, rfl, by rw [← HM.out], hb, h0⟩
      case measure => simp [intOf]
    · obtain ⟨m, hm⟩ : ∃ m, m = a + b * 256 := ⟨_, rfl⟩
      obtain ⟨m', hm'⟩ : ∃ m', m' = a + b * 256 + c * 65536 := ⟨_, rfl⟩
      subst hn
      rw [show part a b c d 2 = m from hm.symm]
      have hor : bits .or .i64 (m : Int) (((c : Nat) : Int) * 65536) = (m' : Int) := by
        have h := or_add m c 16 (by omega) (by omega)
        rw [show ((c * 2 ^ 16 : Nat) : Int) = ((c : Nat) : Int) * 65536 by omega] at h
        rw [h]
        omega
      have HM : Hid (m' = part a b c d 3) := hm'
      clear hm hm'
      go_wp2
      go_roundw
      case rel => exact ⟨3, by omega, rfl, by rw [← HM.out], hb, h0⟩
      case measure => simp [intOf]
    · obtain ⟨m, hm⟩ : ∃ m, m = a + b * 256 + c * 65536 := ⟨_, rfl⟩
      obtain ⟨m', hm'⟩ : ∃ m', m' = a + b * 256 + c * 65536 + d * 16777216 := ⟨_, rfl⟩
      subst hn
      rw [show part a b c d 3 = m from hm.symm]
      have hor : bits .or .i64 (m : Int) (((d : Nat) : Int) * 16777216) = (m' : Int) := by
        have h := or_add m d 24 (by omega) (by omega)
        rw [show ((d * 2 ^ 24 : Nat) : Int) = ((d : Nat) : Int) * 16777216 by omega] at h
        rw [h]
        omega
      have HM : Hid (m' = part a b c d 4) := hm'
      clear hm hm'
      go_wp2
      go_roundw
      case rel => exact ⟨4, by omega, rfl, by rw [← HM.out], hb, h0⟩
      case measure => simp [intOf]
    · subst hn
      obtain ⟨m, hm⟩ : ∃ m, m = part a b c d 4 := ⟨_, rfl⟩
      rw [show part a b c d 4 = m from hm.symm]
      have HM := Lib.hid hm
      clear hm
      go_wp2
      go_ret
      exact ⟨by rw [HM.out]; rfl, hb⟩
    · omega
end Go.Proofs.Ytcfdfpihmmaalaa
