/-
  Contracts of entry's within and named, and of the function over which Known goes (slices.Backward). Conditions: those that each theorem names.
-/
import Derived.Test.YtchpemgamgcbkaaGreatEntG7
import Derived.RangeFuncNested
import Derived.RangeFuncBound
import Derived.RangeFuncCalls
import Derived.RangeFuncLeaves
import Derived.RangeFuncBox
import Derived.RangeFuncFrom
import Derived.Shelf.Abstract
import Derived.Shelf.RegionOpen
import Derived.OwnWalkIn
import Derived.TacticsInMore
import Derived.LoopNIn
import Derived.LoopIn
namespace Go.Proofs.YtchpemgamgcbkaaGreat
open Go.RowKit Go.Shelf

theorem within_any (n a b : Int) (m : Bool) (w : World) (hm : m = true ↔ a ≤ n ∧ n ≤ b) :
    Calls Tryz.prog 43 #[.int .i64 n, .int .i64 a, .int .i64 b] w fun e w' => e = .returned (.bool m) ∧ w' = w := by
  have HM := Lib.hid hm
  clear hm
  by_cases h1 : a ≤ n
  · have t1 : decide (a ≤ n) = true := by simpa using h1
    by_cases h2 : n ≤ b
    · have t2 : decide (n ≤ b) = true := by simpa using h2
      obtain rfl : m = true := HM.out.2 ⟨h1, h2⟩
      go_enter Tryz.func43, Tryz.ntmps43
      go_wp2
      go_ret
      exact ⟨rfl, rfl⟩
    · have t2 : decide (n ≤ b) = false := bool_dec _ h2
      obtain rfl : m = false := by rw [← Bool.not_eq_true]; exact fun h => h2 (HM.out.1 h).2
      go_enter Tryz.func43, Tryz.ntmps43
      go_wp2
      go_ret
      exact ⟨rfl, rfl⟩
  · have t1 : decide (a ≤ n) = false := bool_dec _ h1
    obtain rfl : m = false := by rw [← Bool.not_eq_true]; exact fun h => h1 (HM.out.1 h).1
    go_enter Tryz.func43, Tryz.ntmps43
    go_wp2
    go_ret
    exact ⟨rfl, rfl⟩
theorem named_any (p q : Int) (m : Bool) (w : World) (hm : m = true ↔ Named p q) :
    Calls Tryz.prog 42 #[.int .i64 p, .int .i64 q] w fun e w' => e = .returned (.bool m) ∧ w' = w := by
  have HM := Lib.hid hm
  clear hm
  by_cases h1 : 1 ≤ p ∧ p ≤ 8
  · have H1 := Lib.hid h1
    clear h1
    go_enter Tryz.func42, Tryz.ntmps42
    go_wp2_with fail
    refine (within_any p 1 8 true w ⟨fun _ => H1.out, fun _ => rfl⟩).mono ?_
    rintro e w1 ⟨rfl, rfl⟩
    go_wp2_with fail
    refine (within_any q 0 100 m w1 ⟨fun h => (HM.out.1 h).2, fun h => HM.out.2 ⟨H1.out, h⟩⟩).mono ?_
    rintro e w2 ⟨rfl, rfl⟩
    go_wp2
    go_ret
    exact ⟨rfl, rfl⟩
  · obtain rfl : m = false := by rw [← Bool.not_eq_true]; exact fun h => h1 (HM.out.1 h).1
    have H1 := Lib.hid h1
    clear h1 HM
    go_enter Tryz.func42, Tryz.ntmps42
    go_wp2_with fail
    refine (within_any p 1 8 false w ⟨by simp, fun h => absurd h H1.out⟩).mono ?_
    rintro e w1 ⟨rfl, rfl⟩
    go_wp2
    go_ret
    exact ⟨rfl, rfl⟩

section
attribute [local go_sem] Oper.semAt_some
/-- A batch that was seen, and its place. -/
abbrev Bk := Nat × Sn
def ofBk (l : List Bk) : List Sn := l.map fun x => x.2
theorem ofBk_snoc (l : List Bk) (x : Bk) : ofBk (l ++ [x]) = ofBk l ++ [x.2] := by simp [ofBk]
theorem ofBk_length (l : List Bk) : (ofBk l).length = l.length := by simp [ofBk]
theorem rev_step {l : List Sn} {N j : Nat} {x : Sn} (hl : l.length = N) (h : l[j]? = some x) : l.reverse.take (N - j) = l.reverse.take (N - (j + 1)) ++ [x] := by
  have hj : j < N := by rw [← hl]; exact (List.getElem?_eq_some_iff.1 h).1
  rw [show N - j = N - (j + 1) + 1 by omega, List.take_add_one, List.getElem?_reverse (by omega), show l.length - 1 - (N - (j + 1)) = j by omega, h]
  rfl
def snV (x : Bk) : Array Value := #[.int .i64 (x.1 : Int), .agg #[.int .i64 x.2.sq, .int .i64 x.2.cnt, .int .i64 x.2.bs]]
/-- What is gone over: the box of the slice, and its elements. -/
def Src (Bn BS : Nat) (A : Option Addr) (N c : Nat) (l : List Sn) (W : World) : Prop := Boxed W Bn 28 (.slice A N c) ∧ Seen W BS A (scells l)

set_option maxRecDepth 100000 in
set_option maxHeartbeats 2000000 in
theorem back1_in (n : Nat) (hn : 1 ≤ n) (l Bn BS : Nat) (A : Option Addr) (N c : Nat) (sns : List Sn) (hlen : sns.length = N) (hN : N ≤ 9223372036854775807) (Kp : World → World → Prop) (J Jx : List Bk → World → Prop)
    (hKp : ∀ X Y, Kp X Y → Src Bn BS A N c sns X → Src Bn BS A N c sns Y)
    (hY : ∀ pre x W, J pre W → pre.length < N + 1 → YieldAt Fence.wide (n - 1) Tryz.prog l (snV x) W fun e W' =>
      (e = .returned (.bool true) ∧ J (pre ++ [x]) W' ∧ Kp W W') ∨ (e = .returned (.bool false) ∧ Jx (pre ++ [x]) W'))
    (W : World) (hB : Src Bn BS A N c sns W) (h0 : J [] W) :
    CallsIn Fence.wide n Tryz.prog 77 #[.func (.yield l) #[] #[], .pointer (some ⟨Bn, 0, none⟩)] W fun e W' => (∃ v, e = .returned v) ∧
      ((∃ ys, ofBk ys = sns.reverse ∧ J ys W') ∨ (∃ pre, ofBk pre = sns.reverse.take pre.length ∧ Jx pre W')) := by
  have HL := Lib.hid hlen
  clear hlen
  refine callsIn_of_wp Tryz.func77 rfl trivial ?_ rfl
  simp only [Tryz.ntmps77, List.size_toArray, List.length_cons, List.length_nil, Nat.reduceAdd, Nat.reduceSub, Array.replicate_succ, Array.replicate_zero, List.push_toArray, List.append_toArray, List.nil_append, List.cons_append]
  have hc := hB.1.cell
  gi_wp2
  clear hc
  gi_loopw [3] (fun i wr => ∃ (pre : List Bk) (k : Nat), k ≤ N ∧ i = .int .i64 ((k : Int) - 1) ∧ Hid (ofBk pre = sns.reverse.take (N - k)) ∧ Hid (pre.length = N - k) ∧ J pre wr ∧ Src Bn BS A N c sns wr)
    (fun i _ => (intOf i + 1).toNat)
  case atStart => exact ⟨[], N, Nat.le_refl _, rfl, by show _ = _; simp [ofBk], by show _ = _; simp, h0, hB⟩
  case round =>
    clear hB h0
    obtain ⟨pre, k, hk, hi, HP, HPL, hJs, hS⟩ := hrel
    have hc := hS.1.cell
    rcases k with _ | j
    · rw [show ((0 : Nat) : Int) - 1 = -1 from rfl] at hi
      subst hi
      have t0 : decide ((0 : Int) ≤ -1) = false := rfl
      gi_wp2
      refine bodyPost_end (results_none rfl _ _ _) rfl ?_
      refine ⟨⟨_, rfl⟩, .inl ⟨pre, ?_, hJs⟩⟩
      rw [HP.out, List.take_of_length_le (by rw [List.length_reverse]; have := HL.out; omega)]
    · rw [show ((j + 1 : Nat) : Int) - 1 = (j : Int) by omega] at hi
      subst hi
      have t0 : decide ((0 : Int) ≤ (j : Int)) = true := by simp
      obtain ⟨x, hx⟩ := sn_here HL.out (show j < N by omega)
      have HR := Lib.hid (rev_step HL.out hx)
      obtain ⟨b, off, rfl, hbB, d0, d1, d2⟩ := sn_at hS.2 hx
      clear hx
      obtain ⟨fn, tmps, assign, body, hy, hR⟩ := hY pre (j, x) wr hJs (by have := HPL.out; omega)
      dsimp only [snV] at hy
      gi_wp2
      refine hR.mono ?_
      rintro e W3 (⟨rfl, hJ3, hk3⟩ | ⟨rfl, hJx3⟩)
      · have hS3 := hKp _ _ hk3 hS
        clear hS hc d0 d1 d2 hy
        gi_wp2
        go_roundw
        case rel =>
          refine ⟨pre ++ [(j, x)], j, by omega, rfl, ?_, ?_, hJ3, hS3⟩
          · show _ = _
            rw [ofBk_snoc, HP.out, HR.out]
          · show _ = _
            rw [List.length_append, HPL.out]
            simp
            omega
        case measure => simp [intOf]
      · clear hS hc d0 d1 d2 hy
        gi_wp2
        refine bodyPost_ret (results_none rfl _ _ _) rfl ?_
        refine ⟨⟨_, rfl⟩, .inr ⟨_, ?_, hJx3⟩⟩
        rw [ofBk_snoc, HP.out, List.length_append, HPL.out, ← HR.out]
        congr 1
        simp only [List.length_cons, List.length_nil]
        omega
/-- slices.Backward(l): the slice is boxed; the function value captures the box. -/
theorem back_in (n : Nat) (A : Option Addr) (N c : Nat) (w : World) :
    CallsIn Fence.wide n Tryz.prog 44 #[.slice A N c] w fun e w' => e = .returned (.func (.func 77) #[] #[.pointer (some ⟨w.heap.size, 0, none⟩)]) ∧ w' = w.alloc (.cells #[.slice A N c] 28) := by
  refine callsIn_of_wp Tryz.func44 rfl trivial ?_ rfl
  simp only [Tryz.ntmps44, List.size_toArray, List.length_cons, List.length_nil, Nat.reduceAdd, Nat.reduceSub, Array.replicate_succ, Array.replicate_zero, List.push_toArray, List.append_toArray, List.nil_append, List.cons_append]
  gi_wp2
  go_ret
  exact ⟨rfl, rfl⟩
theorem back_stops (n : Nat) (hn : 1 ≤ n) (Bn BS : Nat) (A : Option Addr) (N c : Nat) (sns : List Sn) (hlen : sns.length = N) (hN : N ≤ 9223372036854775807) (Kp : World → World → Prop) (hKp : ∀ X Y, Kp X Y → Src Bn BS A N c sns X → Src Bn BS A N c sns Y)
    (w : World) (hB : Src Bn BS A N c sns w) (hBS : BS ≤ w.heap.size) :
    SeqStopsK Fence.wide n Tryz.prog 77 #[.pointer (some ⟨Bn, 0, none⟩)] snV Kp (fun ys => ofBk ys = sns.reverse) (fun pre => ofBk pre = sns.reverse.take pre.length) (N + 1) w := fun l J Jx W hW _ _ hY h0 =>
  back1_in n hn l Bn BS A N c sns hlen hN Kp J Jx hKp hY W ⟨(hW.block Bn hB.1.lt).trans hB.1, hB.2.below (hW.mono hBS)⟩ h0
end
end Go.Proofs.YtchpemgamgcbkaaGreat
