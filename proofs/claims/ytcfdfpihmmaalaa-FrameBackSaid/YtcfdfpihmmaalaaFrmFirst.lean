/-
  Contract of frame's First: what it returns and what it does to memory. Conditions: those that each theorem names.
-/
import Derived.Test.YtcfdfpihmmaalaaFrmHead
namespace Go.Proofs.Ytcfdfpihmmaalaa
open Go.RowKit

theorem u8_size : ∀ w, (Go.sizeOf 5).run Try.prog w = .ok 1 w := fun w => by kernel_rfl
/-- 'b[l:h:h]' of bytes. -/
theorem cut_lhm {P : Program} {w : World} {B : Nat} {A : Option Addr} {bs : List UInt8} (hs : Seen w B A (cells bs)) (t e : TypeId) (ht : P.underlying t = some (.slice e)) (hz : ∀ w, (Go.sizeOf e).run P w = .ok 1 w) (lb c l h : Nat) (hlb : lb = bs.length) (hl : l ≤ h) (hh : h ≤ lb) (hc : lb ≤ c) :
    ∃ D, (∀ W, (Instr.slice t (.slice A lb c) (some (.int .i64 (l : Int))) (some (.int .i64 (h : Int))) (some (.int .i64 (h : Int)))).run P W = .ok (.slice D (h - l) (h - l)) W) ∧ Seen w B D (cells ((bs.drop l).take (h - l))) := by
  refine ⟨if h = l then A else A.map (·.add (l * 1)), fun W => ?_, ?_⟩
  · have ht' : P.underlying t = some (.slice (P.elem t)) := by simp [Program.elem, ht]
    have he : P.elem t = e := by simp [Program.elem, ht]
    rw [run_slice_lhm W t _ _ _ ht' .i64 .i64 .i64 _ _ _ (by omega) (by omega) (by omega) (by omega), he, hz]
    simp [Result.andThen, sliced]
  · by_cases hE : h = l
    · rw [hE, Nat.sub_self, List.take_zero]; exact Seen.nil _ _ _
    · have := hs.cut (l := l) (h := h) (c := c) hl (by rw [cells_length]; omega) (by rw [cells_length]; omega)
      rw [if_neg (by omega), ← cells_drop, ← cells_take] at this
      rw [if_neg hE]
      exact this

set_option maxRecDepth 100000 in
theorem first_no (s : ByteArray) (w : World) (hm : s.size ≤ 140737488351232) (h : FP.fst (bytesOf s) = 0) : Calls Try.prog 10 #[.string s] w fun e w' => e = .returned (.tuple #[.string ByteArray.empty, .int .i64 0, .bool false]) ∧ Below w.heap.size w w' := by
  have HH := Lib.hid h
  clear h
  go_enter Try.func10, Try.ntmps10
  go_wp2_with fail
  refine (head_any s _ hm).mono ?_
  rw [HH.out]
  rintro e w1 ⟨rfl, hb⟩
  go_wp2
  refine bodyPost_ret (results_tmp3 rfl _ _ _) rfl ?_
  exact ⟨rfl, hb⟩

set_option maxRecDepth 100000 in
set_option maxHeartbeats 400000 in
theorem first_yes (s : ByteArray) (w : World) (hm : s.size ≤ 140737488351232) (f : Nat) (hf : f = FP.fst (bytesOf s)) (h : FP.fst (bytesOf s) ≠ 0) :
    Calls Try.prog 10 #[.string s] w fun e w' => e = .returned (.tuple #[.string (str (FP.load (bytesOf s))), .int .i64 (f : Int), .bool true]) ∧ Below w.heap.size w w' := by
  have h4 : 4 ≤ f := by rw [hf]; exact FP.fst_four h
  have hle : f ≤ s.size := by rw [hf, ← bytesOf_length]; exact FP.fst_le _
  have hmost : f ≤ 1028 := by rw [hf]; exact FP.fst_most _
  have hL : FP.load (bytesOf s) = ((bytesOf (s.extract 0 f)).drop 4).take (f - 4) := by
    rw [bytesOf_extract, List.drop_zero, Nat.sub_zero, FP.load, ← hf]
    exact (List.take_of_length_le (by rw [List.length_drop, List.length_take]; omega)).symm
  have hne : ((f : Int) == 0) = false := by simp; omega
  have hcv := conv_eq (s.extract 0 f)
  have hsz := extract_size s 0 f (by omega) hle
  rw [Nat.sub_zero] at hsz
  have HSZ : Hid (f = (bytesOf (s.extract 0 f)).length) := by show _ = _; rw [bytesOf_length, hsz]
  rw [hsz] at hcv
  have HF := Lib.hid hf
  have HL := Lib.hid hL
  clear hf hsz h hL
  go_enter Try.func10, Try.ntmps10
  go_wp2_with fail
  refine (head_any s _ hm).mono ?_
  rw [← HF.out]
  rintro e w1 ⟨rfl, hb⟩
  have hsn := conv_seen w1 (s.extract 0 f) 5
  have hbw := conv_below w1 (s.extract 0 f) 5
  have hcap := grownCap_ge w1 f 0 5
  obtain ⟨cp, hcp⟩ : ∃ cp, cp = grownCap w1 f 0 5 := ⟨_, rfl⟩
  have hcv1 := hcv w1
  rw [← hcp] at hcv1 hcap
  obtain ⟨D, hcut, hsD⟩ := cut_lhm (P := Try.prog) hsn 41 5 Try.underlying41 u8_size f cp 4 f HSZ.out h4 (Nat.le_refl _) hcap
  have hcut4 : ∀ W, (Instr.slice 41 (.slice (some ⟨w1.heap.size, 0, none⟩) f cp) (some (.int .i64 4)) (some (.int .i64 (f : Int))) (some (.int .i64 (f : Int)))).run Try.prog W = .ok (.slice D (f - 4) (f - 4)) W := hcut
  have hst := str_now (P := Try.prog) hsD 41 9 5 (f - 4) (f - 4) (by rw [List.length_take, List.length_drop, ← HSZ.out]; omega) Try.underlying41 Try.underlying5 Try.underlying9
  rw [← HL.out] at hst
  clear hcv hcut hsD hsn hcap hcp
  go_wp2
  refine bodyPost_ret (results_tmp3 rfl _ _ _) rfl ?_
  exact ⟨rfl, hb.trans (hbw.mono hb.size)⟩
end Go.Proofs.Ytcfdfpihmmaalaa
