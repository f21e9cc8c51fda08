/-
  Contract of frame's All: what it returns and what it does to memory. Conditions: those that each theorem names.
-/
import Derived.Test.YtcfdfpihmmaalaaFrmWhole
import Derived.Maps.AppendAt
namespace Go.Proofs.Ytcfdfpihmmaalaa
open Go.RowKit Go.Shelf
attribute [local go_sem] Oper.semAt_some

/-- What is no cells is not an owned slice's row. -/
theorem own_cells {W : World} {base k g : Nat} {e : TypeId} {v : Value} {xs : List Value} {o : Obj} (h : W.ownsRow base e 1 v k xs) (hg : W.heap[g]? = some o) (ho : o.isCells = false) : some g ≠ v.ownBlock := by
  intro he
  obtain ⟨_, h0⟩ := h
  rcases h0 with ⟨hv, _⟩ | ⟨b, cap, cur, hv, _, hb, _⟩
  · subst hv
    cases he
  · subst hv
    injection he with he
    subst he
    rw [hb] at hg
    injection hg with hg
    subst hg
    cases ho
/-- An owned slice's row stands where only what is no cells is turned. -/
theorem own_turned {W W' : World} {base k : Nat} {e : TypeId} {v : Value} {xs : List Value} {row : Option Nat} (h : W.ownsRow base e 1 v k xs) (hg : W.grownBy W' row) (hr : ∀ r, row = some r → ∃ o : Obj, W.heap[r]? = some o ∧ o.isCells = false) : W'.ownsRow base e 1 v k xs := by
  rcases row with _ | r
  · exact own_below h ⟨hg.os, hg.tape, hg.output, hg.size, fun i hi => hg.block i hi (by simp)⟩
  · obtain ⟨o, ho, hc⟩ := hr r rfl
    exact h.kept hg (.inr (own_cells h ho hc).symm)
/-- Behind an append to a slice whose row lies at or beyond base: whatever lay below base is as it was, and so is whatever is no cells. -/
theorem appended_low {W w1 : World} {base : Nat} {e : TypeId} {v : Value} {k : Nat} {xs : List Value} {tmp : Obj} (hrow : W.ownsRow base e 1 v k xs) (hb : base ≤ W.heap.size) (hgrow : (W.alloc tmp).grownBy w1 v.ownBlock) :
    Below base W w1 ∧ KeepsOthers W w1 := by
  have hz := hgrow.size
  rw [World.size_alloc] at hz
  refine ⟨((Below.refl base W).alloc hb tmp).grown hgrow (by simp; omega) fun j ej => (hrow.lt j ej).1, by omega, fun g o hg ho => ?_⟩
  have hlt := heap_lt hg
  rw [hgrow.block g (by rw [World.size_alloc]; omega) (own_cells hrow hg ho), Below.heap_alloc W tmp g hlt, hg]
theorem own_low {W : World} {base e k B : Nat} {v u : Value} {xs : List Value} (h : W.ownsRow base e 1 v k xs) (hB : B < base) : (W.setCell ⟨B, 0, none⟩ u).ownsRow base e 1 v k xs :=
  h.kept (grownBy_setCell' W B u) (.inr (fun e' => by have := (h.lt B e').1; omega))

set_option maxRecDepth 100000 in
set_option maxHeartbeats 4000000 in
theorem all_in (s : ByteArray) (hs : s.size ≤ 1000000) (w : World) :
    CallsIn Fence.wide 7 Try.prog 12 #[.string s] w fun e W' => ∃ A c, e = .returned (.tuple #[.slice A (FP.rows (bytesOf s)).length c, .int .i64 (FP.torn (bytesOf s) : Nat)]) ∧
      Seen W' W'.heap.size A (strs (FP.rows (bytesOf s))) ∧ (FP.rows (bytesOf s)).length ≤ c ∧ Below w.heap.size w W' := by
  obtain ⟨i0, hi, hz0, hz1, hz2⟩ := info_parts str_info
  refine callsIn_of_wp_marks Try.func12 rfl trivial ?_ rfl
  simp only [Try.ntmps12, List.size_toArray, List.length_cons, List.length_nil, Nat.reduceAdd, Nat.reduceSub, Array.replicate_succ, Array.replicate_zero, List.push_toArray, List.append_toArray, List.nil_append, List.cons_append]
  gi_wp2
  refine ⟨trivial, ?_⟩
  refine (frames_in 6 _ _).mono ?_
  rintro e w' ⟨rfl, rfl⟩
  gi_wp2
  obtain ⟨W0, hW0⟩ : ∃ W0, W0 = (((w.alloc (.cells #[.string s] 9)).alloc (.cells #[.slice none 0 0] 28)).alloc (.cells #[.int .i64 (s.size : Int)] 3)).alloc (.cells #[.string s] 9) := ⟨_, rfl⟩
  have hsz : W0.heap.size = w.heap.size + 1 + 1 + 1 + 1 := by rw [hW0]; simp
  have hB0 : Below w.heap.size w W0 := by rw [hW0]; exact ((((Below.refl _ w).alloc (Nat.le_refl _) _).alloc (by simp) _).alloc (by simp; omega) _).alloc (by simp; omega) _
  have b0 : Boxed W0 w.heap.size 9 (.string s) := by rw [hW0]; exact (((Boxed.new w _ _).alloc _).alloc _).alloc _
  have b1 : Boxed W0 (w.heap.size + 1) 28 (.slice none 0 0) := by
    have h := Boxed.new (w.alloc (.cells #[.string s] 9)) 28 (.slice none 0 0)
    rw [World.size_alloc] at h
    rw [hW0]; exact (h.alloc _).alloc _
  have b2 : Boxed W0 (w.heap.size + 1 + 1) 3 (.int .i64 (s.size : Int)) := by
    have h := Boxed.new ((w.alloc (.cells #[.string s] 9)).alloc (.cells #[.slice none 0 0] 28)) 3 (.int .i64 (s.size : Int))
    rw [World.size_alloc, World.size_alloc] at h
    rw [hW0]; exact h.alloc _
  have b3 : Boxed W0 (w.heap.size + 1 + 1 + 1) 9 (.string s) := by
    have h := Boxed.new (((w.alloc (.cells #[.string s] 9)).alloc (.cells #[.slice none 0 0] 28)).alloc (.cells #[.int .i64 (s.size : Int)] 3)) 9 (.string s)
    rw [World.size_alloc, World.size_alloc, World.size_alloc] at h
    rw [hW0]; exact h
  rw [← hW0]
  clear hW0
  refine wpIn_rangeFunc_ownF rfl (by omega) (gf := 23) (lb := #[.pointer (some ⟨w.heap.size + 1 + 1 + 1, 0, none⟩)]) rfl trivial (enters_of Try.func23 (by kernel_rfl) rfl)
    (frames_stops 6 (by omega) (w.heap.size + 1 + 1 + 1) s hs (Stays W0.heap.size [w.heap.size + 1, w.heap.size + 1 + 1]) (fun A B h hb => h.boxed hb (by omega) (by simp; omega)) _ b3) staysK_t (staysK_b (Nat.le_refl _)) (Below.refl _ _) (fun _ => rfl)
    (fun pre W => (∃ v, Boxed W (w.heap.size + 1) 28 v ∧ W.ownsRow W0.heap.size 9 1 v pre.length (strs (loads pre))) ∧ Boxed W (w.heap.size + 1 + 1) 3 (.int .i64 ((s.size : Int) - (stop pre : Nat))) ∧ Stays W0.heap.size [w.heap.size + 1, w.heap.size + 1 + 1] W0 W)
    (fun _ _ _ => False)
    (fun pre A B row hs hg hr => by
      obtain ⟨⟨v, hv, hrow⟩, ht, hst⟩ := hs
      exact ⟨⟨v, hv.kept hg (fun e => by have := (hr _ e.symm).1; omega), own_turned hrow hg (fun r e => (hr r e).2)⟩, ht.kept hg (fun e => by have := (hr _ e.symm).1; omega), hst.grown (Nat.le_refl _) hg (fun r e => (hr r e).1)⟩)
    (fun _ _ _ _ _ hs _ _ => hs)
    ⟨⟨_, b1, World.ownsRow_nil _ _ _ _⟩, by simpa [stop] using b2, Stays.refl _ _ _⟩
    (fun x => { tmps := #[.string s, .pointer (some ⟨w.heap.size, 0, none⟩), .pointer (some ⟨w.heap.size + 1, 0, none⟩), .pointer (some ⟨w.heap.size + 1 + 1, 0, none⟩), .string (str x.1.1), .int .i64 (x.1.2 : Int), .string s, .int .i64 (s.size : Int), .string s, .func (.func 23) #[] #[.pointer (some ⟨w.heap.size + 1 + 1 + 1, 0, none⟩)], .string (str x.1.1), .int .i64 (x.1.2 : Int), undef, undef, undef, undef, undef, undef, undef, undef, undef, undef], defers := [] }) ?assign ?body ?done ?stop
  case assign =>
    intro l x W K hK
    gi_wp2
    exact hK
  case body =>
    rintro l pre x W ⟨⟨v, hv, hrow⟩, ht, hst⟩ hlt
    have hc := hv.cell
    have hx2 := x.2
    gi_wp2_with (gi_at_builtin; refine wpListIn_append_own _ rfl _ _ 28 rfl W0.heap.size 9 i0 (.string ByteArray.empty) 1 16 Try.underlying28 hi hz0 hz1 hz2 rfl (by decide) _ _ _ rfl (hrow.alloc _) ⟨W.heap.size, 0, none⟩ 1 1 [.string (str x.1.1)] rfl rfl (cell_one_new _ _ _) (by simp [Value.oneCell']) (by unfold maxLen; omega) (by omega) (by have := hst.size; simp; omega) ?_)
    intro v' w1 hown' hgrow _
    obtain ⟨g', cap', rfl⟩ := ownsRow_succ hown'
    have hbW := hst.size
    obtain ⟨hlow, hko⟩ := appended_low hrow hbW hgrow
    have hv1 : Boxed w1 (w.heap.size + 1) 28 v := (hlow.block _ (by omega)).trans hv
    have ht1 : Boxed w1 (w.heap.size + 1 + 1) 3 _ := (hlow.block _ (by omega)).trans ht
    have h01 : Boxed w1 w.heap.size 9 (.string s) := (hlow.block _ (by omega)).trans (hst.boxed b0 (by omega) (by simp; omega))
    have c0 := h01.cell
    have c1 := hv1.cell
    have c2 := ht1.cell
    have f1 := hv1.frozen
    have f2 := ht1.frozen
    clear hc hgrow
    gi_wp2
    have hv2 := hv1.set (.slice (some ⟨g', 0, none⟩) (pre.length + 1) cap')
    have ht2 := ht1.kept (grownBy_setCell' w1 (w.heap.size + 1) (.slice (some ⟨g', 0, none⟩) (pre.length + 1) cap')) (by simp)
    refine ⟨(hko.trans (KeepsOthers.setCell _ _ _)).trans (KeepsOthers.setCell _ _ _), ((Stays.of_below hlow).setCell (by simp) _).setCell (by simp) _, ⟨⟨_, hv2.kept (grownBy_setCell' _ _ _) (by simp), ?_⟩, ?_, (((hst.trans (Stays.of_below hlow)).setCell (by simp) _).setCell (by simp) _)⟩⟩
    · rw [loads_snoc, strs_append, List.length_append]
      rw [← hsz] at hown'
      exact own_low (own_low (show w1.ownsRow W0.heap.size 9 1 _ (pre.length + [x].length) (strs (loads pre) ++ strs [x.1.1]) from hown') (by omega)) (by omega)
    · rw [stop_snoc]
      exact ht2.set _
  case done =>
    rintro D ys W hD ⟨hy1, hy2⟩ ⟨⟨v, hv, hrow⟩, ht, hst⟩ hK
    obtain ⟨A, c, rfl, _, _⟩ := own_form hrow
    have hT : (s.size : Int) - (stop ys : Nat) = (FP.torn (bytesOf s) : Nat) := by rw [bytesOf_length] at hy2; omega
    rw [hT] at ht
    have hyl : ys.length = (FP.rows (bytesOf s)).length := by rw [← hy1, loads_length]
    rw [hy1, hyl] at hrow
    rw [hyl] at hv
    clear hy1 hy2 hT hyl
    obtain ⟨k, hk⟩ : ∃ k, k = (FP.rows (bytesOf s)).length := ⟨_, rfl⟩
    obtain ⟨t, htn⟩ : ∃ t, t = FP.torn (bytesOf s) := ⟨_, rfl⟩
    rw [← hk] at hv hrow
    rw [← htn] at ht
    have HK := Lib.hid hk
    have HT := Lib.hid htn
    clear hk htn
    have c1 := hv.cell
    have c2 := ht.cell
    have f1 := hv.frozen
    have f2 := ht.frozen
    gi_wp2
    gi_region
    all_goals gi_wp2
    have u1 := (hv.set (.slice A k c)).other (B' := w.heap.size + 1 + 1) (by omega) (.int .i64 (t : Int))
    have u2 := (ht.other (B' := w.heap.size + 1) (by omega) (.slice A k c)).set (.int .i64 (t : Int))
    have hr2 := own_low (B := w.heap.size + 1 + 1) (u := .int .i64 (t : Int)) (own_low (B := w.heap.size + 1) (u := .slice A k c) hrow (by omega)) (by omega)
    have hs2 := (hst.setCell (p := ⟨w.heap.size + 1, 0, none⟩) (by simp) (.slice A k c)).setCell (p := ⟨w.heap.size + 1 + 1, 0, none⟩) (by simp) (.int .i64 (t : Int))
    have hK2 := ((KeepsOthers.setCell W ⟨w.heap.size + 1, 0, none⟩ (.slice A k c)).trans (KeepsOthers.setCell _ ⟨w.heap.size + 1 + 1, 0, none⟩ (.int .i64 (t : Int)))).same D _ hK rfl
    obtain ⟨W2, hW2⟩ : ∃ W2, W2 = ((W.setCell ⟨w.heap.size + 1, 0, none⟩ (.slice A k c)).setCell ⟨w.heap.size + 1 + 1, 0, none⟩ (.int .i64 (t : Int))) := ⟨_, rfl⟩
    rw [← hW2] at u1 u2 hr2 hs2 hK2 ⊢
    clear hW2 hv ht hrow hst hK c1 c2 f1 f2
    have hKd : W2.drew.heap[D]? = some (.deferred (some [])) := hK2
    refine ⟨by simp, .inl ⟨_, _, rfl, run_takeDeferred hKd, ?_⟩⟩
    have c1 : (W2.drew.putObj D (.deferred none)).cell? ⟨w.heap.size + 1, 0, none⟩ = some (.slice A k c) := cell_kept (W := W2.drew) u1.cell (grownBy_putObj' _ D (.deferred none)) (fun r e => by cases e; exact ⟨_, hKd, rfl⟩)
    have c2 : (W2.drew.putObj D (.deferred none)).cell? ⟨w.heap.size + 1 + 1, 0, none⟩ = some (.int .i64 (t : Int)) := cell_kept (W := W2.drew) u2.cell (grownBy_putObj' _ D (.deferred none)) (fun r e => by cases e; exact ⟨_, hKd, rfl⟩)
    refine ⟨.tuple #[.slice A k c, .int .i64 (t : Int)], ?_, A, c, by rw [HK.out, HT.out], ?_, ?_, ?_⟩
    · simp [results, Try.f12, go_sem, c1, c2]
    · have hr3 : W2.drew.ownsRow W0.heap.size 9 1 (.slice A k c) k (strs (FP.rows (bytesOf s))) := hr2
      exact Seen.of_own (ownsRow_putObj hr3 _ hKd rfl)
    · obtain ⟨A', c', he, _, hle⟩ := own_form hr2
      injection he with h1 h2 h3
      rw [← HK.out, h3]
      exact hle
    · exact ((hB0.trans (hs2.below (by omega) (by simp; omega))).drew).trans (belowK_b (w := w) (Nat.le_refl _) W2.drew D _ _ (by omega) hKd rfl rfl)
  case stop =>
    rintro D c pre W _ _ h _
    exact h.elim
theorem all_any (s : ByteArray) (hs : s.size ≤ 1000000) (w : World) :
    Calls Try.prog 12 #[.string s] w fun e W' => ∃ A c, e = .returned (.tuple #[.slice A (FP.rows (bytesOf s)).length c, .int .i64 (FP.torn (bytesOf s) : Nat)]) ∧
      Seen W' W'.heap.size A (strs (FP.rows (bytesOf s))) ∧ (FP.rows (bytesOf s)).length ≤ c ∧ Below w.heap.size w W' := callsIn_wide.1 (all_in s hs w)
end Go.Proofs.Ytcfdfpihmmaalaa
