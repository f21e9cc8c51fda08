/-
  Contract of the function over which frame goes (frames): the loads of the frames with which the bytes begin, each with the place where its frame ends. Conditions: those that each theorem names.
-/
import Derived.Test.YtcfdfpihmmaalaaFrmFirst
import Derived.RangeFuncNested
import Derived.RangeFuncBound
import Derived.RangeFuncCalls
import Derived.RangeFuncLeaves
import Derived.RangeFuncBox
import Derived.Shelf.Abstract
import Derived.Shelf.RegionOpen
import Derived.OwnWalkIn
import Derived.TacticsInMore
import Derived.LoopNIn
import Derived.LoopIn
namespace Go.Proofs.Ytcfdfpihmmaalaa
open Go.RowKit Go.Shelf
attribute [local go_sem] Oper.semAt_some

/-- A load, and where its frame ends. -/
abbrev Fr := { x : List UInt8 × Nat // x.2 ≤ 1000000 }
/-- The loads that have come. -/
def loads (pre : List Fr) : List (List UInt8) := pre.map fun x => x.1.1
/-- Where the last one ends. -/
def stop (pre : List Fr) : Nat := (pre.getLast?.map fun x => x.1.2).getD 0
theorem loads_snoc (pre : List Fr) (x : Fr) : loads (pre ++ [x]) = loads pre ++ [x.1.1] := by simp [loads]
theorem loads_length (pre : List Fr) : (loads pre).length = pre.length := by simp [loads]
theorem stop_snoc (pre : List Fr) (x : Fr) : stop (pre ++ [x]) = x.1.2 := by simp [stop]
/-- All have come. -/
def Came (l : List UInt8) (ys : List Fr) : Prop := loads ys = FP.rows l ∧ stop ys + FP.torn l = l.length

set_option maxRecDepth 100000 in
set_option maxHeartbeats 2000000 in
theorem frames1_in (n : Nat) (hn : 1 ≤ n) (l Bn : Nat) (s : ByteArray) (hs : s.size ≤ 1000000) (Kp : World → World → Prop) (J Jx : List Fr → World → Prop)
    (hJ : ∀ pre A B, J pre A → Below A.heap.size A B → J pre B)
    (hKp : ∀ A B, Kp A B → Boxed A Bn 9 (.string s) → Boxed B Bn 9 (.string s))
    (hY : ∀ pre x W, J pre W → pre.length < s.size + 1 → YieldAt Fence.wide (n - 1) Try.prog l #[.string (str x.1.1), .int .i64 (x.1.2 : Int)] W fun e W' =>
      (e = .returned (.bool true) ∧ J (pre ++ [x]) W' ∧ Kp W W') ∨ (e = .returned (.bool false) ∧ Jx (pre ++ [x]) W'))
    (W : World) (hB : Boxed W Bn 9 (.string s)) (h0 : J [] W) :
    CallsIn Fence.wide n Try.prog 23 #[.func (.yield l) #[] #[], .pointer (some ⟨Bn, 0, none⟩)] W fun e W' => (∃ v, e = .returned v) ∧
      ((∃ ys, Came (bytesOf s) ys ∧ J ys W') ∨ (∃ pre, True ∧ Jx pre W')) := by
  refine callsIn_of_wp Try.func23 rfl trivial ?_ rfl
  simp only [Try.ntmps23, List.size_toArray, List.length_cons, List.length_nil, Nat.reduceAdd, Nat.reduceSub, Array.replicate_succ, Array.replicate_zero, List.push_toArray, List.append_toArray, List.nil_append, List.cons_append]
  gi_wp2
  gi_loopw [3] (fun i wr => ∃ (pre : List Fr) (p : Nat), i = .int .i64 (p : Int) ∧ p ≤ s.size ∧ FP.At (bytesOf s) (loads pre) p ∧ stop pre = p ∧ J pre wr ∧ Boxed wr Bn 9 (.string s))
    (fun i _ => s.size - (intOf i).toNat)
  case atStart => exact ⟨[], 0, rfl, by omega, FP.At.start _, rfl, h0, hB⟩
  case round =>
    obtain ⟨pre, p, rfl, hp, hat, hst, hJs, hBx⟩ := hrel
    have hc := hBx.cell
    have hlen : pre.length < s.size + 1 := by
      have := hat.count
      rw [loads_length, bytesOf_length] at this
      omega
    have hx := bytesOf_extract s p s.size
    rw [List.take_of_length_le (by rw [List.length_drop, bytesOf_length]; omega)] at hx
    have hsz := extract_size s p s.size hp (Nat.le_refl _)
    have HX := Lib.hid hx
    have HAT := Lib.hid hat
    have HST := Lib.hid hst
    clear hx hat hst
    by_cases hf : FP.fst ((bytesOf s).drop p) = 0
    · have HF := Lib.hid hf
      clear hf
      gi_wp2_with (refine ⟨trivial, ?_⟩; gi_at_call 10; refine (callsIn_wide.2 (first_no (s.extract p s.size) _ (by omega) (by rw [HX.out]; exact HF.out))).mono ?_; rintro e w1 ⟨rfl, hb1⟩)
      refine ⟨fun _ h => (by cases h), ?_⟩
      gi_wp2
      refine bodyPost_ret (results_none rfl _ _ _) rfl ?_
      refine ⟨⟨_, rfl⟩, .inl ⟨pre, ?_, hJ _ _ _ hJs hb1⟩⟩
      have hd := HAT.out.done HF.out
      refine ⟨hd.1.symm, ?_⟩
      rw [hd.2, HST.out, bytesOf_length]
      omega
    · have HF := Lib.hid hf
      clear hf
      have hle := FP.fst_le ((bytesOf s).drop p)
      rw [List.length_drop, bytesOf_length] at hle
      have h4 := FP.fst_four HF.out
      obtain ⟨f, hff⟩ : ∃ f, f = FP.fst ((bytesOf s).drop p) := ⟨_, rfl⟩
      rw [← hff] at hle h4
      obtain ⟨ld, hld⟩ : ∃ ld, ld = FP.load ((bytesOf s).drop p) := ⟨_, rfl⟩
      have HFF := Lib.hid hff
      have HLD := Lib.hid hld
      clear hff hld
      have hpf : p + f ≤ 1000000 := by omega
      have hfst := fun w => first_yes (s.extract p s.size) w (by omega) f (by rw [HX.out]; exact HFF.out) (by rw [HX.out]; exact HF.out)
      rw [HX.out, ← HLD.out] at hfst
      have HFST := Lib.hid hfst
      clear hfst
      gi_wp2_with fail
      refine ⟨trivial, ?_⟩
      refine (callsIn_wide.2 (HFST.out _)).mono ?_
      rintro e w1 ⟨rfl, hb1⟩
      obtain ⟨fn, tmps, assign, body, hy, hR⟩ := hY pre ⟨(ld, p + f), hpf⟩ w1 (hJ _ _ _ hJs hb1) hlen
      have hpc : ((p + f : Nat) : Int) = (p : Int) + (f : Int) := by omega
      dsimp only at hy
      rw [hpc] at hy
      have HP := Lib.hid hpc
      clear hpc
      have hB1 : Boxed w1 Bn 9 (.string s) := (hb1.block Bn hBx.lt).trans hBx
      gi_wp2
      refine hR.mono ?_
      rintro e W3 (⟨rfl, hJ3, hk3⟩ | ⟨rfl, hJx3⟩)
      · gi_wp2
        go_roundw
        case rel =>
          refine ⟨_, p + f, by rw [HP.out], by omega, ?_, ?_, hJ3, hKp _ _ hk3 hB1⟩
          · rw [loads_snoc]
            have := HAT.out.step HF.out
            rw [← HLD.out, ← HFF.out] at this
            exact this
          · rw [stop_snoc]
        case measure => simp [intOf]; omega
      · gi_wp2
        refine bodyPost_ret (results_none rfl _ _ _) rfl ?_
        exact ⟨⟨_, rfl⟩, .inr ⟨_, trivial, hJx3⟩⟩

/-- frames(b): the bytes are boxed; the function value captures the box. -/
theorem frames_in (n : Nat) (s : ByteArray) (w : World) :
    CallsIn Fence.wide n Try.prog 21 #[.string s] w fun e w' => e = .returned (.func (.func 23) #[] #[.pointer (some ⟨w.heap.size, 0, none⟩)]) ∧ w' = w.alloc (.cells #[.string s] 9) := by
  refine callsIn_of_wp Try.func21 rfl trivial ?_ rfl
  simp only [Try.ntmps21, List.size_toArray, List.length_cons, List.length_nil, Nat.reduceAdd, Nat.reduceSub, Array.replicate_succ, Array.replicate_zero, List.push_toArray, List.append_toArray, List.nil_append, List.cons_append]
  gi_wp2
  go_ret
  exact ⟨rfl, rfl⟩

/-- .. which hands over all frames with which the bytes begin, whatever a round does that keeps the box. -/
theorem frames_stops (n : Nat) (hn : 1 ≤ n) (Bn : Nat) (s : ByteArray) (hs : s.size ≤ 1000000) (Kp : World → World → Prop) (hKp : ∀ A B, Kp A B → Boxed A Bn 9 (.string s) → Boxed B Bn 9 (.string s))
    (w : World) (hB : Boxed w Bn 9 (.string s)) :
    SeqStopsK Fence.wide n Try.prog 23 #[.pointer (some ⟨Bn, 0, none⟩)] (fun x : Fr => #[.string (str x.1.1), .int .i64 (x.1.2 : Int)]) Kp (Came (bytesOf s)) (fun _ => True) (s.size + 1) w := fun l J Jx W hW hJ _ hY h0 =>
  frames1_in n hn l Bn s hs Kp J Jx (fun pre A B hA hAB => hJ pre A B none hA (grown_of_below hAB) (fun r e => by cases e)) hKp hY W ((hW.block Bn hB.lt).trans hB) h0
end Go.Proofs.Ytcfdfpihmmaalaa
