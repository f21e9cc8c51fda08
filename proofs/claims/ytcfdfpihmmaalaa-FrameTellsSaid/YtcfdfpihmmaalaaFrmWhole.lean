/-
  Contract of frame's Whole: what it returns and what it does to memory. Conditions: those that each theorem names.
-/
import Derived.Test.YtcfdfpihmmaalaaFrmIter
namespace Go.Proofs.Ytcfdfpihmmaalaa
open Go.RowKit Go.Shelf
attribute [local go_sem] Oper.semAt_some

/-- Of the blocks below base all but those of S are as they were. -/
structure Stays (base : Nat) (S : List Nat) (a b : World) : Prop where
  os : b.os = a.os
  tape : b.tape = a.tape
  output : b.output = a.output
  size : a.heap.size ≤ b.heap.size
  block : ∀ k, k < base → k ∉ S → b.heap[k]? = a.heap[k]?
section
variable {base n₀ : Nat} {S : List Nat} {a b c : World}
theorem Stays.refl (base : Nat) (S : List Nat) (a : World) : Stays base S a a := ⟨rfl, rfl, rfl, Nat.le_refl _, fun _ _ _ => rfl⟩
theorem Stays.trans (h : Stays base S a b) (k : Stays base S b c) : Stays base S a c :=
  ⟨k.os.trans h.os, k.tape.trans h.tape, k.output.trans h.output, Nat.le_trans h.size k.size, fun i hi hs => (k.block i hi hs).trans (h.block i hi hs)⟩
theorem Stays.of_below (h : Below base a b) : Stays base S a b := ⟨h.os, h.tape, h.output, h.size, fun i hi _ => h.block i hi⟩
theorem Stays.setCell (h : Stays base S a b) {p : Addr} (hp : p.block ∈ S) (u : Value) : Stays base S a (b.setCell p u) :=
  h.trans ⟨rfl, rfl, rfl, by simp [World.setCell], fun k _ hk => Below.heap_setCell _ _ _ _ (fun e => hk (by rw [e]; exact hp))⟩
theorem Stays.grown (h : Stays base S a b) {row : Option Nat} (hb : base ≤ a.heap.size) (hg : b.grownBy c row) (hr : ∀ r, row = some r → base ≤ r) : Stays base S a c :=
  h.trans ⟨hg.os, hg.tape, hg.output, hg.size, fun k hk _ => hg.block k (by have := h.size; omega) (fun e => by have := hr k e.symm; omega)⟩
theorem Stays.below (h : Stays base S a b) (hn : n₀ ≤ base) (hs : ∀ x ∈ S, n₀ ≤ x) : Below n₀ a b :=
  ⟨h.os, h.tape, h.output, h.size, fun k hk => h.block k (by omega) (fun hm => by have := hs k hm; omega)⟩
theorem Stays.boxed (h : Stays base S a b) {B : Nat} {t : TypeId} {v : Value} (hB : Boxed a B t v) (hl : B < base) (hn : B ∉ S) : Boxed b B t v := (h.block B hl hn).trans hB
theorem staysK_t (h : Stays base S a b) (k : Stays base S b c) : Stays base S a c := h.trans k
theorem staysK_b {w : World} (hb : base ≤ w.heap.size) (W : World) (l : Nat) (o o' : Obj) (hl : w.heap.size ≤ l) (h : W.heap[l]? = some o) (_ : o.isCells = false) (_ : o.isWalk = false) : Stays base S W (W.putObj l o') :=
  (Stays.refl base S W).grown (by have := (Array.getElem?_eq_some_iff.1 h).1; omega) (grownBy_putObj' W l o') (fun r e => by cases e; omega)
end

set_option maxRecDepth 100000 in
set_option maxHeartbeats 2000000 in
theorem whole_in (s : ByteArray) (hs : s.size ≤ 1000000) (w : World) :
    CallsIn Fence.wide 7 Try.prog 17 #[.string s] w fun e W' => e = .returned (.bool (decide (FP.torn (bytesOf s) = 0))) ∧ Below w.heap.size w W' := by
  refine callsIn_of_wp_marks Try.func17 rfl trivial ?_ rfl
  simp only [Try.ntmps17, List.size_toArray, List.length_cons, List.length_nil, Nat.reduceAdd, Nat.reduceSub, Array.replicate_succ, Array.replicate_zero, List.push_toArray, List.append_toArray, List.nil_append, List.cons_append]
  gi_wp2
  refine ⟨trivial, ?_⟩
  refine (frames_in 6 _ _).mono ?_
  rintro e w' ⟨rfl, rfl⟩
  gi_wp2
  have bT := Boxed.new w 3 (.int .i64 0)
  have bN := Boxed.new (w.alloc (.cells #[.int .i64 0] 3)) 9 (.string s)
  rw [World.size_alloc] at bN
  obtain ⟨W0, hW0⟩ : ∃ W0, W0 = (w.alloc (.cells #[.int .i64 0] 3)).alloc (.cells #[.string s] 9) := ⟨_, rfl⟩
  have hsz : W0.heap.size = w.heap.size + 2 := by rw [hW0]; simp
  have hB0 : Below w.heap.size w W0 := by rw [hW0]; exact ((Below.refl _ w).alloc (Nat.le_refl _) _).alloc (by simp) _
  have bT0 : Boxed W0 w.heap.size 3 (.int .i64 0) := by rw [hW0]; exact bT.alloc _
  rw [← hW0]
  rw [← hW0] at bN
  clear bT hW0
  refine wpIn_rangeFunc_ownF rfl (by omega) (gf := 23) (lb := #[.pointer (some ⟨w.heap.size + 1, 0, none⟩)]) rfl trivial (enters_of Try.func23 (by kernel_rfl) rfl)
    (frames_stops 6 (by omega) (w.heap.size + 1) s hs (Stays (w.heap.size + 2) [w.heap.size]) (fun A B h hb => h.boxed hb (by omega) (by simp)) _ bN) staysK_t (staysK_b (by omega)) (Below.refl _ _) (fun _ => rfl)
    (fun pre W => Boxed W w.heap.size 3 (.int .i64 (stop pre : Nat)) ∧ Stays (w.heap.size + 2) [w.heap.size] W0 W)
    (fun _ _ _ => False)
    (fun pre A B row hs hg hr => ⟨hs.1.kept hg (fun e => by have := (hr _ e.symm).1; omega), hs.2.grown (by omega) hg (fun r e => by have := (hr r e).1; omega)⟩)
    (fun _ _ _ _ _ hs _ _ => hs)
    ⟨bT0, Stays.refl _ _ _⟩
    (fun x => { tmps := #[.string s, undef, .bool false, .pointer (some ⟨w.heap.size, 0, none⟩), undef, .int .i64 (x.1.2 : Int), .string s, .func (.func 23) #[] #[.pointer (some ⟨w.heap.size + 1, 0, none⟩)], .string (str x.1.1), .int .i64 (x.1.2 : Int), undef, undef, undef, undef, undef], defers := [] }) ?assign ?body ?done ?stop
  case assign =>
    intro l x W K hK
    gi_wp2
    exact hK
  case body =>
    rintro l pre x W ⟨hv, hB⟩ _
    have hc := hv.cell
    have hf := hv.frozen
    gi_wp2
    exact ⟨KeepsOthers.setCell _ _ _, (Stays.refl _ _ _).setCell (by simp) _, ⟨by rw [stop_snoc]; exact hv.set _, hB.setCell (by simp) _⟩⟩
  case done =>
    rintro D ys W hD ⟨hy1, hy2⟩ ⟨hv, hB⟩ hK
    have hc := hv.cell
    have hT : ((stop ys : Int) == (s.size : Int)) = decide (FP.torn (bytesOf s) = 0) := by
      rw [bytesOf_length] at hy2
      rw [Bool.eq_iff_iff]
      simp
      omega
    have HT := Lib.hid hT
    clear hT hy1 hy2
    gi_wp2
    refine ⟨by simp, .inl ⟨_, _, rfl, run_takeDeferred hK, ?_⟩⟩
    exact ⟨_, results_tmp rfl _ _ _, by rw [← HT.out]; rfl, (hB0.trans (hB.below (by omega) (by simp))).trans (belowK_b (w := w) (Nat.le_refl _) W D _ _ (by omega) hK rfl rfl)⟩
  case stop =>
    rintro D c pre W _ _ h _
    exact h.elim

theorem whole_any (s : ByteArray) (hs : s.size ≤ 1000000) (w : World) :
    Calls Try.prog 17 #[.string s] w fun e W' => e = .returned (.bool (decide (FP.torn (bytesOf s) = 0))) ∧ Below w.heap.size w W' := callsIn_wide.1 (whole_in s hs w)
end Go.Proofs.Ytcfdfpihmmaalaa
