/-
  The walk over RecordReads: it returns true and turns nothing that was there. Condition: what is said of the string that came in.
-/
import Derived.Test.YtiilbcficgpohaaRecWakes
import Derived.Test.YtiilbcficgpohaaRecReadR
import Derived.Test.YtiilbcficgpohaaRecSameR
import Derived.Test.YtiilbcficgpohaaRecCut
namespace Go.Proofs.Ytiilbcficgpohaa
open Go.RowKit

set_option maxRecDepth 100000 in
set_option maxHeartbeats 1000000 in
theorem reads_walk (s : ByteArray) (at_ : Int) (w : World) (hs : s.size ≤ 9223372036854775807) :
    Calls Try.prog 4 #[.string s, .int .i64 at_] w fun e w' => e = .returned (.bool true) ∧ Below w.heap.size w w' := by
  by_cases hgr : 4000 < s.size
  · have t1 : decide ((4000 : Int) < (s.size : Int)) = true := by simp; omega
    go_enter Try.func4, Try.ntmps4
    go_wp2_with fail
    refine (wakes_any _).mono ?_
    rintro e w9 ⟨rfl, hb9⟩
    go_wp2
    go_ret
    exact ⟨rfl, hb9⟩
  · have t1 : decide ((4000 : Int) < (s.size : Int)) = false := bool_dec _ (by omega)
    have hx : s.size ≤ 1000000 := by omega
    obtain ⟨b, er, hrd⟩ := readIs_of s
    have HRD := Lib.hid hrd
    clear hrd
    obtain ⟨c, hc, hcn⟩ := at_is at_ s.size (by omega)
    obtain ⟨y, p', bad', ht⟩ := takeIs_of s c false
    have HT := Lib.hid ht
    clear ht hgr
    have HC := Lib.hid hc
    clear hc
    obtain ⟨nb, hnb⟩ : ∃ nb, nb = b.rs.length := ⟨_, rfl⟩
    obtain ⟨ny, hny⟩ : ∃ ny, ny = y.rs.length := ⟨_, rfl⟩
    obtain ⟨bp, be, bq, bt, brs⟩ := b
    obtain ⟨yp, ye, yq, yt, yrs⟩ := y
    simp only at hnb hny
    have HNB := Lib.hid hnb
    have HNY := Lib.hid hny
    have hnb4 : nb ≤ 4 := by
      rcases HRD.out with ⟨_, h, _⟩ | ⟨_, h, _⟩
      · rw [hnb]; exact h.2.2.1.2
      · injection h with _ _ _ _ h; rw [hnb, h]; simp
    have hny4 : ny ≤ 4 := by
      obtain ⟨x, q, cc, hr, _, hcase⟩ := HT.out
      rcases hcase with ⟨_, hg, he, _⟩ | ⟨_, he, _⟩
      · rw [← he] at hg; rw [hny]; exact hg.2.2.1.2
      · injection he with _ _ _ _ he; rw [hny, he]; simp
    clear hnb hny
    go_enter Try.func4, Try.ntmps4
    go_wp2_with fail
    clear t1
    refine (read_any s _ er w HRD.out hx).mono ?_
    rintro e W1 ⟨A1, c1, rfl, o1, b1⟩
    simp only at o1 ⊢
    rw [← HNB.out] at o1 ⊢
    have s1 := own_seen o1
    clear o1
    go_wp2_with fail
    obtain ⟨x1, hx1⟩ : ∃ x, x = W1.heap.size := ⟨_, rfl⟩
    obtain ⟨W2, hW2⟩ : ∃ W2, W2 = W1.alloc (.cells #[.int .i64 bp, .int .i64 be, .int .i64 bq, .bool bt, .slice A1 nb c1] 24) := ⟨_, rfl⟩
    have v2 : Var W2 x1 24 #[.int .i64 bp, .int .i64 be, .int .i64 bq, .bool bt, .slice A1 nb c1] := by rw [hW2, hx1]; exact Var.new _ _ _
    have s2 : Seen W2 W2.heap.size A1 (rcells brs) := by rw [hW2]; exact (s1.below (below_new _)).up (by simp)
    have b2 : Below w.heap.size w W2 := by rw [hW2]; exact b1.alloc b1.size _
    rw [← hW2, ← hx1]
    clear hW2 hx1 s1 b1
    refine (ref_read_any s _ er W2 HRD.out hx).mono ?_
    rintro e W3 ⟨A3, c3, rfl, o3, b3⟩
    simp only at o3 ⊢
    rw [← HNB.out] at o3 ⊢
    have s3 := own_seen o3
    have v3 := v2.below b3 v2.lt
    have s3' := (s2.below b3).up b3.size
    have b3' := b2.trans (b3.mono b2.size)
    clear o3 v2 s2 b2 b3 HRD
    have HCC := HC.out
    go_wp2_with fail
    clear HCC HC
    obtain ⟨x3, hx3⟩ : ∃ x, x = W3.heap.size := ⟨_, rfl⟩
    obtain ⟨W4, hW4⟩ : ∃ W4, W4 = W3.alloc (.cells #[.int .i64 bp, .int .i64 be, .int .i64 bq, .bool bt, .slice A3 nb c3] 24) := ⟨_, rfl⟩
    have w4 : Var W4 x3 24 #[.int .i64 bp, .int .i64 be, .int .i64 bq, .bool bt, .slice A3 nb c3] := by rw [hW4, hx3]; exact Var.new _ _ _
    have v4 : Var W4 x1 24 #[.int .i64 bp, .int .i64 be, .int .i64 bq, .bool bt, .slice A1 nb c1] := by rw [hW4]; exact v3.alloc _
    have s4 : Seen W4 W4.heap.size A3 (rcells brs) := by rw [hW4]; exact (s3.below (below_new _)).up (by simp)
    have s4' : Seen W4 W4.heap.size A1 (rcells brs) := by rw [hW4]; exact (s3'.below (below_new _)).up (by simp)
    have b4 : Below w.heap.size w W4 := by rw [hW4]; exact b3'.alloc b3'.size _
    rw [← hW4, ← hx3]
    clear hW4 hx3 s3 s3' v3 b3'
    refine (new_any s W4).mono ?_
    rintro e W5 ⟨rfl, r5, b5⟩
    obtain ⟨g1, hg1⟩ : ∃ g, g = W4.heap.size := ⟨_, rfl⟩
    rw [← hg1] at r5 ⊢
    have l5 := Var.lt r5
    have HG1 := Lib.hid hg1
    clear hg1
    go_wp2_with fail
    refine (ref_new s W5).mono ?_
    rintro e W6 ⟨rfl, q6, b6⟩
    obtain ⟨g2, hg2⟩ : ∃ g, g = W5.heap.size := ⟨_, rfl⟩
    rw [← hg2] at q6 ⊢
    have r6 : Rd 43 W6 g1 s 0 false := Var.below r5 b6 (Var.lt r5)
    have hgg : g1 < g2 := by omega
    have b6' : Below W4.heap.size W4 W6 := b5.trans (b6.mono b5.size)
    clear r5 b5 b6 l5 hg2
    obtain ⟨d0, d1, d2⟩ := Rd.cells r6
    obtain ⟨e0, e1, e2⟩ := Rd.cells q6
    have f1 := Var.free r6
    have f2 := Var.free q6
    have l1 := Var.lt r6
    have l2 := Var.lt q6
    go_wp2_with fail
    obtain ⟨W8, hW8⟩ : ∃ W8, W8 = (W6.setCell ⟨g1, 1, none⟩ (.int .i64 (c : Int))).setCell ⟨g2, 1, none⟩ (.int .i64 (c : Int)) := ⟨_, rfl⟩
    have r8 : Rd 43 W8 g1 s c false := by rw [hW8]; exact Var.other (r6.setAt c) _ _ (by omega)
    have q8 : Rd 44 W8 g2 s c false := by rw [hW8]; exact Rd.setAt (Var.other q6 _ _ (by omega)) c
    have hg1 := HG1.out
    have b8 : Below W4.heap.size W4 W8 := by rw [hW8]; exact (b6'.setCell (by simp only; omega) _).setCell (by simp only; omega) _
    have z8 : W4.heap.size ≤ W8.heap.size := b8.size
    rw [← hW8]
    have HG2 : Hid (W4.heap.size ≤ g1 ∧ W4.heap.size ≤ g2) := ⟨by omega, by omega⟩
    clear hW8 r6 q6 b6' d0 d1 d2 e0 e1 e2 f1 f2 l1 l2 hg1 HG1
    refine (take_any g1 s c false _ p' bad' W8 HT.out r8 hx hcn).mono ?_
    rintro e W9 ⟨A9, c9, rfl, r9, o9, k9⟩
    simp only at o9 ⊢
    rw [← HNY.out] at o9 ⊢
    have q9 : Rd 44 W9 g2 s c false := Var.kept q8 k9 (by simp; omega)
    have lg2 := Var.lt q8
    have b9 : Below W4.heap.size W4 W9 := b8.trans (k9.below z8 (by have := HG2.out; simp; omega))
    clear r8 q8 b8 k9
    go_wp2_with fail
    refine (ref_take_any g2 s c false _ p' bad' W9 HT.out q9 hx hcn).mono ?_
    rintro e W10 ⟨A10, c10, rfl, q10, o10, k10⟩
    simp only at o10 ⊢
    rw [← HNY.out] at o10 ⊢
    have r10 : Rd 43 W10 g1 s p' bad' := Var.kept r9 k10 (by simp; omega)
    have o9' := own_kept o9 k10 (by simp; omega)
    have b10 : Below W4.heap.size W4 W10 := b9.trans (k10.below b9.size (by have := HG2.out; simp; omega))
    have sy1 := own_seen o9'
    have sy2 := own_seen o10
    clear r9 q9 o9 o9' o10 b9 k10 z8 lg2
    go_wp2_with fail
    obtain ⟨y1, y2, hb12⟩ := two_new W10 #[.int .i64 yp, .int .i64 ye, .int .i64 yq, .bool yt, .slice A9 ny c9] #[.int .i64 yp, .int .i64 ye, .int .i64 yq, .bool yt, .slice A10 ny c10] 24
    obtain ⟨W12, hW12⟩ : ∃ W12, W12 = (W10.alloc (.cells #[.int .i64 yp, .int .i64 ye, .int .i64 yq, .bool yt, .slice A9 ny c9] 24)).alloc (.cells #[.int .i64 yp, .int .i64 ye, .int .i64 yq, .bool yt, .slice A10 ny c10] 24) := ⟨_, rfl⟩
    rw [← hW12] at y1 y2 hb12 ⊢
    clear hW12
    obtain ⟨x5, hx5⟩ : ∃ x, x = W10.heap.size := ⟨_, rfl⟩
    obtain ⟨x6, hx6⟩ : ∃ x, x = W10.heap.size + 1 := ⟨_, rfl⟩
    rw [← hx6, ← hx5]
    rw [← hx5] at y1
    rw [← hx6] at y2
    have b12 : Below W4.heap.size W4 W12 := b10.trans (hb12.mono b10.size)
    have v1 := v4.below b12 v4.lt
    have v3 := w4.below b12 w4.lt
    have s1 := (s4'.below b12).up b12.size
    have s3 := (s4.below b12).up b12.size
    have t1 := (sy1.below hb12).up hb12.size
    have t2 := (sy2.below hb12).up hb12.size
    have r12 : Rd 43 W12 g1 s p' bad' := Var.below r10 hb12 (Var.lt r10)
    have q12 : Rd 44 W12 g2 s p' bad' := Var.below q10 hb12 (Var.lt q10)
    have bf := b4.trans (b12.mono b4.size)
    clear hx5 hx6 b10 hb12 sy1 sy2 r10 q10 v4 w4 s4 s4' b4 b12 HT HG2
    have n1 := HNB.out.symm
    have n2 := HNY.out.symm
    have N1 := Lib.hid n1
    have N2 := Lib.hid n2
    clear n1 n2 HNB HNY
    have hh1 := fun (x : After W12) => Calls.after (ref_same_any A1 A3 nb nb c1 c3 _ brs brs bp be bq bp be bq bt bt true x.val N1.out N1.out (by simp) (s1.below x.below) (s3.below x.below) x.below.size (by omega) (by omega))
    have hh2 := fun (x : After W12) => Calls.after (ref_same_any A9 A10 ny ny c9 c10 _ yrs yrs yp ye yq yp ye yq yt yt true x.val N2.out N2.out (by simp) (t1.below x.below) (t2.below x.below) x.below.size (by omega) (by omega))
    have HH1 := Lib.hid hh1
    have HH2 := Lib.hid hh2
    clear hh1 hh2
    cases bad'
    all_goals
      have ka0 := fun (x : After W12) => (five_after v1 x).1
      have ka1 := fun (x : After W12) => (five_after v1 x).2.1
      have ka2 := fun (x : After W12) => (five_after v1 x).2.2.1
      have ka3 := fun (x : After W12) => (five_after v1 x).2.2.2.1
      have ka4 := fun (x : After W12) => (five_after v1 x).2.2.2.2
      have kb0 := fun (x : After W12) => (five_after v3 x).1
      have kb1 := fun (x : After W12) => (five_after v3 x).2.1
      have kb2 := fun (x : After W12) => (five_after v3 x).2.2.1
      have kb3 := fun (x : After W12) => (five_after v3 x).2.2.2.1
      have kb4 := fun (x : After W12) => (five_after v3 x).2.2.2.2
      have kc0 := fun (x : After W12) => (five_after y1 x).1
      have kc1 := fun (x : After W12) => (five_after y1 x).2.1
      have kc2 := fun (x : After W12) => (five_after y1 x).2.2.1
      have kc3 := fun (x : After W12) => (five_after y1 x).2.2.2.1
      have kc4 := fun (x : After W12) => (five_after y1 x).2.2.2.2
      have kd0 := fun (x : After W12) => (five_after y2 x).1
      have kd1 := fun (x : After W12) => (five_after y2 x).2.1
      have kd2 := fun (x : After W12) => (five_after y2 x).2.2.1
      have kd3 := fun (x : After W12) => (five_after y2 x).2.2.2.1
      have kd4 := fun (x : After W12) => (five_after y2 x).2.2.2.2
      have ke1 := fun (x : After W12) => (rd_after r12 x).2.1
      have ke2 := fun (x : After W12) => (rd_after r12 x).2.2
      have kf1 := fun (x : After W12) => (rd_after q12 x).2.1
      have kf2 := fun (x : After W12) => (rd_after q12 x).2.2
      have j0 : (er == er) = true := beq_self_eq_true _
      have j1 : ((p' : Int) == (p' : Int)) = true := beq_self_eq_true _
      refine wp_region_after (by kernel_rfl) (by kernel_rfl) ?_
      repeat (go_big_quiet_step ((first
        | (go_at_call 14; first | with_reducible exact HH1.out _ | with_reducible exact HH2.out _)
        | (go_at_call 8; exact Calls.after (wakes_any _)))))
      refine wpQuiet_nil ?_
      rintro _ ⟨x, rfl⟩
      have hfin := bf.trans (x.below.mono bf.size)
      clear ka0 ka1 ka2 ka3 ka4 kb0 kb1 kb2 kb3 kb4 kc0 kc1 kc2 kc3 kc4 kd0 kd1 kd2 kd3 kd4 ke1 ke2 kf1 kf2
      go_wp2
      go_ret
      exact ⟨rfl, hfin⟩
end Go.Proofs.Ytiilbcficgpohaa
