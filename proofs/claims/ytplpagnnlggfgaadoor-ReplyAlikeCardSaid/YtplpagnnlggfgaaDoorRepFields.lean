/-
  Contracts of a walk's pid, epoch and offset, whatever the pass. Conditions: those that each theorem names.
-/
import Derived.Test.YtplpagnnlggfgaaDoorRepNum
namespace Go.Proofs.YtplpagnnlggfgaaDoor
open Go.RowKit

/-- The fourteen cells of a walk: what is written, what it got past. -/
def wcells (bv : Value) (wr : Int) (fr : Rp) (Af : Option Addr) (nf cf : Nat) (tt : Rp) (At : Option Addr) (nt ct : Nat) : Array Value :=
  #[bv, .int .i64 wr, .int .i8 fr.kind, .int .i64 fr.e, .int .i64 fr.pid, .int .i64 fr.ep, .int .i64 fr.off, .slice Af nf cf, .int .i8 tt.kind, .int .i64 tt.e, .int .i64 tt.pid, .int .i64 tt.ep, .int .i64 tt.off, .slice At nt ct]
/-- A reply whose numbers and texts a machine can hold. -/
structure RpFit (r : Rp) : Prop where
  kind : -128 ≤ r.kind ∧ r.kind ≤ 127
  e : -9223372036854775808 ≤ r.e ∧ r.e ≤ 9223372036854775807
  pid : -9223372036854775808 ≤ r.pid ∧ r.pid ≤ 9223372036854775807
  ep : -9223372036854775808 ≤ r.ep ∧ r.ep ≤ 9223372036854775807
  off : -9223372036854775808 ≤ r.off ∧ r.off ≤ 9223372036854775807
section
variable {P : Pass} (M : PIn P) (W : Nat) (wr : Int) (fr tt : Rp) (Af At : Option Addr) (nf cf nt ct : Nat) (s : Ws P) (w : World)
set_option maxRecDepth 100000 in
set_option maxHeartbeats 1000000 in
theorem pid_any (h : Wk M w W wr 1 (wcells (.iface M.T M.v) wr fr Af nf cf tt At nt ct) s) (hs : P.sz s.st ≤ 700000) (hn : -9223372036854775808 ≤ fr.pid ∧ fr.pid ≤ 9223372036854775807) :
    Calls Tryd.prog 36 #[.pointer (some ⟨W, 0, none⟩)] w (KRes M W wr 1 (wcells (.iface M.T M.v) wr fr Af nf cf { tt with pid := (wnum s fr.pid 1 8).1 } At nt ct) (wnum s fr.pid 1 8).2 w) := by
  have c : w.cell? ⟨W, 4, none⟩ = some (.int .i64 fr.pid) := h.cell 4 rfl
  have hl := h.lt'
  obtain ⟨y, s2, hy⟩ : ∃ y s2, wnum s fr.pid 1 8 = (y, s2) := ⟨_, _, rfl⟩
  have hC := num_int M W wr _ s ⟨#[80, 105, 100]⟩ fr.pid 1 8 w h hs hn.1 hn.2
  rw [hy] at hC ⊢
  simp only at hC
  have HC := Lib.hid hC
  clear hC hy h hs hn
  go_enter Tryd.func36, Tryd.ntmps36
  go_wp2_with fail
  refine HC.out.mono ?_
  rintro e w1 ⟨rfl, k1, t1⟩
  have c1 := k1.cell 10 rfl
  have f1 := k1.free 10
  have z1 := k1.lt'
  have HK := Lib.hid (k1.put 10 (by omega) (by omega) (.int .i64 y))
  clear c HC k1
  go_wp2
  refine bodyPost_end (results_none rfl _ _ _) rfl ?_
  exact ⟨rfl, HK.out, t1.setCell (.inl (by simp)) _⟩
set_option maxRecDepth 100000 in
set_option maxHeartbeats 1000000 in
theorem epoch_any (h : Wk M w W wr 1 (wcells (.iface M.T M.v) wr fr Af nf cf tt At nt ct) s) (hs : P.sz s.st ≤ 700000) (hn : -9223372036854775808 ≤ fr.ep ∧ fr.ep ≤ 9223372036854775807) :
    Calls Tryd.prog 37 #[.pointer (some ⟨W, 0, none⟩)] w (KRes M W wr 1 (wcells (.iface M.T M.v) wr fr Af nf cf { tt with ep := (wnum s fr.ep 0 100).1 } At nt ct) (wnum s fr.ep 0 100).2 w) := by
  have c : w.cell? ⟨W, 5, none⟩ = some (.int .i64 fr.ep) := h.cell 5 rfl
  have hl := h.lt'
  obtain ⟨y, s2, hy⟩ : ∃ y s2, wnum s fr.ep 0 100 = (y, s2) := ⟨_, _, rfl⟩
  have hC := num_int M W wr _ s ⟨#[69, 112, 111, 99, 104]⟩ fr.ep 0 100 w h hs hn.1 hn.2
  rw [hy] at hC ⊢
  simp only at hC
  have HC := Lib.hid hC
  clear hC hy h hs hn
  go_enter Tryd.func37, Tryd.ntmps37
  go_wp2_with fail
  refine HC.out.mono ?_
  rintro e w1 ⟨rfl, k1, t1⟩
  have c1 := k1.cell 11 rfl
  have f1 := k1.free 11
  have z1 := k1.lt'
  have HK := Lib.hid (k1.put 11 (by omega) (by omega) (.int .i64 y))
  clear c HC k1
  go_wp2
  refine bodyPost_end (results_none rfl _ _ _) rfl ?_
  exact ⟨rfl, HK.out, t1.setCell (.inl (by simp)) _⟩
set_option maxRecDepth 100000 in
set_option maxHeartbeats 1000000 in
theorem offset_any (h : Wk M w W wr 1 (wcells (.iface M.T M.v) wr fr Af nf cf tt At nt ct) s) (hs : P.sz s.st ≤ 700000) (hn : -9223372036854775808 ≤ fr.off ∧ fr.off ≤ 9223372036854775807) :
    Calls Tryd.prog 38 #[.pointer (some ⟨W, 0, none⟩)] w (KRes M W wr 1 (wcells (.iface M.T M.v) wr fr Af nf cf { tt with off := (wplace s fr.off (lst tt.kind)).1 } At nt ct) (wplace s fr.off (lst tt.kind)).2 w) := by
  have c : w.cell? ⟨W, 6, none⟩ = some (.int .i64 fr.off) := h.cell 6 rfl
  have ck : w.cell? ⟨W, 8, none⟩ = some (.int .i8 tt.kind) := h.cell 8 rfl
  have hl := h.lt'
  obtain ⟨y, s2, hy⟩ : ∃ y s2, wplace s fr.off (lst tt.kind) = (y, s2) := ⟨_, _, rfl⟩
  have hC := place_any M W wr _ s fr.off (lst tt.kind) w h hs hn.1 hn.2 (by unfold lst; split <;> simp)
  rw [hy] at hC ⊢
  simp only at hC
  by_cases h5 : tt.kind = 5
  · have y5 : (tt.kind == 5) = true := by rw [beq_iff_eq]; exact h5
    have hlst : lst tt.kind = 0 := by unfold lst; rw [if_pos h5]
    rw [hlst] at hC
    have HC := Lib.hid hC
    clear hC hy h hs hn h5 hlst
    go_enter Tryd.func38, Tryd.ntmps38
    go_wp2_with fail
    refine HC.out.mono ?_
    rintro e w1 ⟨rfl, k1, t1⟩
    have c1 := k1.cell 12 rfl
    have f1 := k1.free 12
    have z1 := k1.lt'
    have HK := Lib.hid (k1.put 12 (by omega) (by omega) (.int .i64 y))
    clear c HC k1
    go_wp2
    refine bodyPost_end (results_none rfl _ _ _) rfl ?_
    exact ⟨rfl, HK.out, t1.setCell (.inl (by simp)) _⟩
  · have y5 : (tt.kind == 5) = false := by rw [beq_eq_false_iff_ne]; exact h5
    have hlst : lst tt.kind = -1 := by unfold lst; rw [if_neg h5]
    rw [hlst] at hC
    have HC := Lib.hid hC
    clear hC hy h hs hn h5 hlst
    go_enter Tryd.func38, Tryd.ntmps38
    go_wp2_with fail
    refine HC.out.mono ?_
    rintro e w1 ⟨rfl, k1, t1⟩
    have c1 := k1.cell 12 rfl
    have f1 := k1.free 12
    have z1 := k1.lt'
    have HK := Lib.hid (k1.put 12 (by omega) (by omega) (.int .i64 y))
    clear c HC k1
    go_wp2
    refine bodyPost_end (results_none rfl _ _ _) rfl ?_
    exact ⟨rfl, HK.out, t1.setCell (.inl (by simp)) _⟩
end
end Go.Proofs.YtplpagnnlggfgaaDoor
