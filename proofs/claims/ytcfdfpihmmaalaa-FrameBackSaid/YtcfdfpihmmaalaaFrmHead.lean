/-
  Contract of frame's sizeOfFirst: how many bytes the first frame has. Conditions: those that each theorem names.
-/
import Derived.Test.YtcfdfpihmmaalaaFrmLength
import Derived.Lib.SlBuf
import Derived.Laws.CopyRow
import Derived.Laws.CopyOwn
namespace Go.Proofs.Ytcfdfpihmmaalaa
open Go.RowKit

/-- The row behind a copy of as many of the first four bytes as there are. -/
def headRow (l : List UInt8) : Array Value := four ((l.getD 0 0).toNat : Nat) ((l.getD 1 0).toNat : Nat) ((l.getD 2 0).toNat : Nat) ((l.getD 3 0).toNat : Nat)
theorem head_row (l : List UInt8) : (cells (l.take 4) ++ (four 0 0 0 0).toList.drop (min l.length 4)).toArray = headRow l := by
  rcases l with _ | ⟨a, _ | ⟨b, _ | ⟨c, _ | ⟨d, l⟩⟩⟩⟩
  · rfl
  · rfl
  · rfl
  · rfl
  · have : min (l.length + 1 + 1 + 1 + 1) 4 = 4 := by omega
    simp [cells, four, headRow, this]

theorem run_copy_head {P : Program} (w : World) (dT sT ty elem : TypeId) (g : Nat) (s : ByteArray) (t : TypeId)
    (hu : P.underlying dT = some (.slice elem)) (hs : (P.info? elem).map (·.size) = some 1) (hg : Var w g t (four 0 0 0 0)) :
    ∃ w', (Builtin.copy_ #[dT, sT] ty #[.slice (some ⟨g, 0, none⟩) 4 4, .string s]).run P w = .ok (goInt ((min s.size 4 : Nat) : Int)) w' ∧ Var w' g t (headRow (bytesOf s)) ∧ ∀ B, B ≤ g → Below B w w' := by
  obtain ⟨m, hm⟩ : ∃ m, m = min s.size 4 := ⟨_, rfl⟩
  have hlen : (cells ((bytesOf s).take 4)).length = m := by rw [cells_length, List.length_take, bytesOf_length]; omega
  have hst := run_storeCells_at P g 0 t (cells ((bytesOf s).take 4)) 0 (four 0 0 0 0) w hg (by rw [hlen]; simp [four]; omega) (cells_one _)
  have htk : List.take m (List.map (fun b : UInt8 => Value.int IntKind.u8 (b.toNat : Int)) s.data.toList) = cells ((bytesOf s).take 4) := by
    have : (bytesOf s).take 4 = (bytesOf s).take m := by
      rcases Nat.lt_or_ge s.size 4 with h | h
      · rw [List.take_of_length_le (by rw [bytesOf_length]; omega), List.take_of_length_le (by rw [bytesOf_length]; omega)]
      · rw [show m = 4 by omega]
    rw [this, cells, List.map_take]
    rfl
  rw [hlen] at hst
  simp only [Nat.add_zero, Nat.zero_add, List.take_zero, List.nil_append] at hst
  have hrow : (cells ((bytesOf s).take 4) ++ (four 0 0 0 0).toList.drop m).toArray = headRow (bytesOf s) := by
    rw [hm, ← bytesOf_length]; exact head_row _
  rw [hrow] at hst
  refine ⟨w.setRow g (headRow (bytesOf s)), ?_, setRow_heap w g _ _ t (0, 0) hg, fun B hB => below_setRow (Below.refl _ _) hB _⟩
  cases hq : P.info? elem with
  | none => simp [hq] at hs
  | some i =>
    have hmin : Nat.min s.size 4 = m := hm.symm
    simp [Builtin.copy_, run_underlying hu, Builtin.lenOf, Builtin.firstCells, sizeOf, typeInfo, hq, hmin]
    rw [htk, hst]
    simp [Result.andThen]

theorem num_lt (l : List UInt8) : (l.getD 0 0).toNat < 256 ∧ (l.getD 1 0).toNat < 256 ∧ (l.getD 2 0).toNat < 256 ∧ (l.getD 3 0).toNat < 256 :=
  ⟨UInt8.toNat_lt _, UInt8.toNat_lt _, UInt8.toNat_lt _, UInt8.toNat_lt _⟩
theorem u8_size1 : (Try.prog.info? 5).map (·.size) = some 1 := by kernel_rfl

set_option maxRecDepth 100000 in
set_option maxHeartbeats 400000 in
theorem head_any (s : ByteArray) (w : World) (_hm : s.size ≤ 140737488351232) : Calls Try.prog 20 #[.string s] w fun e w' => e = .returned (.int .i64 ((FP.fst (bytesOf s) : Nat) : Int)) ∧ Below w.heap.size w w' := by
  obtain ⟨w2, hcp, hv2, hb2⟩ := run_copy_head (P := Try.prog) (w.alloc (.cells (four 0 0 0 0) 39)) 41 9 3 5 w.heap.size s 39 Try.underlying41 u8_size1 (Var.new w _ _)
  have hb2' : Below w.heap.size w w2 := ((Below.refl _ _).alloc (Nat.le_refl _) _).trans (hb2 _ (Nat.le_refl _))
  obtain ⟨l, hl⟩ : ∃ l, l = bytesOf s := ⟨_, rfl⟩
  obtain ⟨k0, k1, k2, k3⟩ := num_lt l
  rw [← hl] at hv2 ⊢
  obtain ⟨⟨c0, c1, c2, c3⟩, f0, f1, f2, f3⟩ := four_cells hv2
  obtain ⟨a0, ha0⟩ : ∃ a, a = (l.getD 0 0).toNat := ⟨_, rfl⟩
  obtain ⟨a1, ha1⟩ : ∃ a, a = (l.getD 1 0).toNat := ⟨_, rfl⟩
  obtain ⟨a2, ha2⟩ : ∃ a, a = (l.getD 2 0).toNat := ⟨_, rfl⟩
  obtain ⟨a3, ha3⟩ : ∃ a, a = (l.getD 3 0).toNat := ⟨_, rfl⟩
  rw [← ha0] at c0 k0
  rw [← ha1] at c1 k1
  rw [← ha2] at c2 k2
  rw [← ha3] at c3 k3
  have hnum : FP.num l = a0 + a1 * 256 + a2 * 65536 + a3 * 16777216 := by rw [ha0, ha1, ha2, ha3]; rfl
  have hsz : l.length = s.size := by rw [hl, bytesOf_length]
  obtain ⟨n, hn⟩ : ∃ n, n = a0 + a1 * 256 + a2 * 65536 + a3 * 16777216 := ⟨_, rfl⟩
  have HN := Lib.hid hn
  obtain ⟨f, hf⟩ : ∃ f, f = FP.fst l := ⟨_, rfl⟩
  rw [← hf]
  have hff : (n ≤ 1024 ∧ n + 4 ≤ s.size → f = n + 4) ∧ (1024 < n ∨ s.size < n + 4 → f = 0) := by
    rw [hf, ← hsz]
    exact ⟨fun h => by rw [FP.fst_yes (by omega) (by omega)]; omega, fun h => FP.fst_no (by omega)⟩
  have HF := Lib.hid hff
  clear hff hf hn hnum hsz ha0 ha1 ha2 ha3 hl hb2 hv2
  unfold four at hcp
  go_enter Try.func20, Try.ntmps20
  go_wp2_with (with_reducible refine Lib.wpList_copy_run _ rfl _ _ _ _ rfl _ _ rfl rfl hcp ?_)
  go_wp2_with fail
  refine (number_any a0 a1 a2 a3 _ k0 k1 k2 k3).mono ?_
  rintro e w3 ⟨rfl, hb3⟩
  have hb3' : Below w.heap.size w w3 := hb2'.trans (hb3.mono hb2'.size)
  rw [← HN.out]
  by_cases hx : n ≤ 1024
  · go_wp2_with fail
    refine (size_yes n _ hx).mono ?_
    rintro e w4 ⟨rfl, rfl⟩
    by_cases hy : n + 4 ≤ s.size
    · have hd : decide ((s.size : Int) < (n : Int) + 4) = false := by simp; omega
      go_wp2
      go_ret
      exact ⟨by rw [HF.out.1 ⟨hx, hy⟩]; rfl, hb3'⟩
    · have hd : decide ((s.size : Int) < (n : Int) + 4) = true := by simp; omega
      go_wp2
      go_ret
      exact ⟨by rw [HF.out.2 (by omega)]; rfl, hb3'⟩
  · go_wp2_with fail
    refine (size_no n _ (by omega)).mono ?_
    rintro e w4 ⟨rfl, rfl⟩
    go_wp2
    go_ret
    exact ⟨by rw [HF.out.2 (by omega)]; rfl, hb3'⟩

end Go.Proofs.Ytcfdfpihmmaalaa
