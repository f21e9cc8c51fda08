/-
  The walk over RecordTells: it returns true and turns nothing that was there. Conditions: what is said of the arguments.
-/
import Derived.Test.YtiilbcficgpohaaRecWakes
import Derived.Test.YtiilbcficgpohaaRecBytesR
import Derived.Test.YtiilbcficgpohaaRecRowsR
import Derived.Test.YtiilbcficgpohaaRecRowsS
import Derived.Test.YtiilbcficgpohaaRecSameR
import Derived.Test.YtiilbcficgpohaaRecGreat
import Derived.Test.YtiilbcficgpohaaFldHeads
namespace Go.Proofs.Ytiilbcficgpohaa
open Go.RowKit

set_option maxRecDepth 100000 in
set_option maxHeartbeats 4000000 in
theorem tells_walk (A1 A2 : Option Addr) (n1 c1 n2 c2 : Nat) (r1 r2 : List Rc) (p1 e1 s1 p2 e2 s2 off : Int) (t1 t2 : Bool) (w : World) (ha : BIn w A1 n1 c1 ⟨p1, e1, s1, t1, r1⟩) (hb : BIn w A2 n2 c2 ⟨p2, e2, s2, t2, r2⟩) :
    Calls Try.prog 3 #[.agg #[.int .i64 p1, .int .i64 e1, .int .i64 s1, .bool t1, .slice A1 n1 c1], .agg #[.int .i64 p2, .int .i64 e2, .int .i64 s2, .bool t2, .slice A2 n2 c2], .int .i64 off] w fun e w' => e = .returned (.bool true) ∧ Below w.heap.size w w' := by
  obtain ⟨la, sa, ma, ca, za⟩ := ha
  obtain ⟨lb, sb, mb, cb, zb⟩ := hb
  simp only at la sa za lb sb zb
  have LA := Lib.hid la
  have LB := Lib.hid lb
  have ZA := Lib.hid za
  have ZB := Lib.hid zb
  clear la lb za zb
  obtain ⟨v1, v2, b0⟩ := two_new w #[.int .i64 p1, .int .i64 e1, .int .i64 s1, .bool t1, .slice A1 n1 c1] #[.int .i64 p2, .int .i64 e2, .int .i64 s2, .bool t2, .slice A2 n2 c2] 24
  go_enter Try.func3, Try.ntmps3
  go_wp2_with fail
  obtain ⟨W0, hW0⟩ : ∃ W0, W0 = (w.alloc (.cells #[.int .i64 p1, .int .i64 e1, .int .i64 s1, .bool t1, .slice A1 n1 c1] 24)).alloc (.cells #[.int .i64 p2, .int .i64 e2, .int .i64 s2, .bool t2, .slice A2 n2 c2] 24) := ⟨_, rfl⟩
  rw [← hW0] at v1 v2 b0 ⊢
  clear hW0
  have sa0 := sa.below b0
  have sb0 := sb.below b0
  clear sa sb
  have z0 := b0.size
  refine (great_any A1 n1 c1 _ r1 p1 e1 s1 t1 W0 LA.out sa0 z0 ma ZA.out).mono ?_
  rintro e W1 ⟨g1, rfl, hf1, hb1⟩
  have x1 := v1.below hb1 v1.lt
  have x2 := v2.below hb1 v2.lt
  have b1 := b0.trans (hb1.mono z0)
  have sa1 := sa0.below (hb1.mono z0)
  have sb1 := sb0.below (hb1.mono z0)
  clear v1 v2 b0 sa0 sb0 z0 hb1
  have HF1 := Lib.hid hf1
  clear hf1
  cases g1 with
  | true =>
    clear HF1
    go_wp2_with fail
    refine (wakes_any _).mono ?_
    rintro e w9 ⟨rfl, hb9⟩
    have b9 := b1.trans (hb9.mono b1.size)
    go_wp2
    go_ret
    exact ⟨rfl, b9⟩
  | false =>
    obtain ⟨d0, d1, d2, d3, d4, f1⟩ := x2.cells5
    have l2 := x2.lt
    go_wp2_with fail
    refine (great_any A2 n2 c2 _ r2 p2 e2 s2 t2 W1 LB.out sb1 b1.size mb ZB.out).mono ?_
    rintro e W2 ⟨g2, rfl, hf2, hb2⟩
    have y1 := x1.below hb2 x1.lt
    have y2 := x2.below hb2 x2.lt
    have b2 := b1.trans (hb2.mono b1.size)
    have sa2 := sa1.below (hb2.mono b1.size)
    have sb2 := sb1.below (hb2.mono b1.size)
    clear x1 x2 b1 sa1 sb1 hb2 d0 d1 d2 d3 d4 f1 l2
    have HF2 := Lib.hid hf2
    clear hf2
    cases g2 with
    | true =>
      clear HF1 HF2
      go_wp2_with fail
      refine (wakes_any _).mono ?_
      rintro e w9 ⟨rfl, hb9⟩
      have b9 := b2.trans (hb9.mono b2.size)
      go_wp2
      go_ret
      exact ⟨rfl, b9⟩
    | false =>
      have hn60 : n1 ≤ 60 := by have h := HF1.out; exact (h (by first | rfl | trivial)).1
      clear HF1 HF2
      obtain ⟨bs, er, hbs⟩ := bytesIs_of ⟨p1, e1, s1, t1, r1⟩
      obtain ⟨m, hm⟩ := mayIs_of ⟨p1, e1, s1, t1, r1⟩
      obtain ⟨q, hq⟩ := sameIs_of ⟨p1, e1, s1, t1, r1⟩ ⟨p2, e2, s2, t2, r2⟩
      obtain ⟨bh, hbh⟩ : ∃ bh, bh = wrap64 (s1 + n1) := ⟨_, rfl⟩
      have HBS := Lib.hid hbs
      have HM := Lib.hid hm
      have HQ := Lib.hid hq
      have HBH := Lib.hid hbh
      clear hbs hm hq hbh
      obtain ⟨d0, d1, d2, d3, d4, f1⟩ := y1.cells5
      have l1 := y1.lt
      go_wp2_with fail
      refine (bytes_all A1 n1 c1 _ r1 p1 e1 s1 t1 W2 bs er HBS.out LA.out sa2 b2.size ma ZA.out).mono ?_
      rintro e W3 ⟨rfl, hb3⟩
      have x1 := y1.below hb3 y1.lt
      have x2 := y2.below hb3 y2.lt
      have b3 := b2.trans (hb3.mono b2.size)
      have sa3 := sa2.below (hb3.mono b2.size)
      have sb3 := sb2.below (hb3.mono b2.size)
      clear y1 y2 b2 sa2 sb2 hb3 d0 d1 d2 d3 d4 f1 l1
      obtain ⟨d0, d1, d2, d3, d4, f1⟩ := x1.cells5
      have l1 := x1.lt
      go_wp2_with fail
      refine (ref_bytes_all A1 n1 c1 _ r1 p1 e1 s1 t1 W3 bs er HBS.out LA.out sa3 b3.size ma ZA.out).mono ?_
      rintro e W4 ⟨rfl, hb4⟩
      have y1 := x1.below hb4 x1.lt
      have y2 := x2.below hb4 x2.lt
      have b4 := b3.trans (hb4.mono b3.size)
      have sa4 := sa3.below (hb4.mono b3.size)
      have sb4 := sb3.below (hb4.mono b3.size)
      clear x1 x2 b3 sa3 sb3 hb4 d0 d1 d2 d3 d4 f1 l1
      go_wp2_with fail
      have hv1 := y1.cells5
      have hv2 := y2.cells5
      have z4 : w.heap.size ≤ W4.heap.size := b4.size
      obtain ⟨bx, hbx⟩ : ∃ bx, bx = w.heap.size := ⟨_, rfl⟩
      have kk : ∀ w', Below W4.heap.size W4 w' → (w'.cell? ⟨w.heap.size, 0, none⟩ = some (.int .i64 p1) ∧ w'.cell? ⟨w.heap.size, 1, none⟩ = some (.int .i64 e1) ∧ w'.cell? ⟨w.heap.size, 2, none⟩ = some (.int .i64 s1) ∧ w'.cell? ⟨w.heap.size, 3, none⟩ = some (.bool t1) ∧ w'.cell? ⟨w.heap.size, 4, none⟩ = some (.slice A1 n1 c1)) := fun w' h => by
        obtain ⟨i0, i1, i2, i3, i4, _⟩ := (y1.below h y1.lt).cells5
        exact ⟨i0, i1, i2, i3, i4⟩
      have kl : ∀ w', Below W4.heap.size W4 w' → (w'.cell? ⟨w.heap.size + 1, 0, none⟩ = some (.int .i64 p2) ∧ w'.cell? ⟨w.heap.size + 1, 1, none⟩ = some (.int .i64 e2) ∧ w'.cell? ⟨w.heap.size + 1, 2, none⟩ = some (.int .i64 s2) ∧ w'.cell? ⟨w.heap.size + 1, 3, none⟩ = some (.bool t2) ∧ w'.cell? ⟨w.heap.size + 1, 4, none⟩ = some (.slice A2 n2 c2)) := fun w' h => by
        obtain ⟨i0, i1, i2, i3, i4, _⟩ := (y2.below h y2.lt).cells5
        exact ⟨i0, i1, i2, i3, i4⟩
      have k0 := fun w' h => (kk w' h).1
      have k1 := fun w' h => (kk w' h).2.1
      have k2 := fun w' h => (kk w' h).2.2.1
      have k3 := fun w' h => (kk w' h).2.2.2.1
      have k4 := fun w' h => (kk w' h).2.2.2.2
      have j0 := fun w' h => (kl w' h).1
      have j1 := fun w' h => (kl w' h).2.1
      have j2 := fun w' h => (kl w' h).2.2.1
      have j3 := fun w' h => (kl w' h).2.2.2.1
      have j4 := fun w' h => (kl w' h).2.2.2.2
      have q0 : (m == m) = true := by simp
      have q1 : (bs.toList == bs.toList) = true := by simp
      have q2 : (er == er) = true := by simp
      have q3 : (q == q) = true := by simp
      have q4 : (bh == bh) = true := by simp
      have hr : (rowsOf ⟨p1, e1, s1, t1, r1⟩ off).length = n1 := by rw [rowsOf_length]; exact LA.out
      have HRL := Lib.hid hr
      have h4 : Below W4.heap.size W4 W4.drew := (Below.refl _ _).drew
      clear kk kl hv1 hv2 hbx hr y1 y2 HBS
      refine wp_region_held_drew (S := fun w' => Below W4.heap.size W4 w') (by kernel_rfl) h4 (fun hHeld => ?_)
      have sa4' := sa4.below ((Below.refl w.heap.size W4).drew)
      have sb4' := sb4.below ((Below.refl w.heap.size W4).drew)
      have z4' : w.heap.size ≤ W4.drew.heap.size := z4
      refine fld_takes [0, 2] _ 42 _ _ _ (by kernel_rfl) (fun _ d _ _ _ h => by cases d <;> exact h) (by rfl) (by kernel_rfl) (by assumption) ?_
      refine fld_taken (v := ?_) rfl (by rfl) (fun w' hw' => ?_) ?_
      rotate_left
      · (go_simp <;> with_reducible rfl)
      simp only [Act.put, List.getElem_toArray, List.getElem_cons_zero, List.setIfInBounds_toArray, List.set_cons_zero, List.set_cons_succ]
      refine fld_taken (v := ?_) rfl (by rfl) (fun w' hw' => ?_) ?_
      rotate_left
      · (go_simp <;> with_reducible rfl)
      simp only [Act.put, List.getElem_toArray, List.getElem_cons_succ, List.getElem_cons_zero, List.setIfInBounds_toArray, List.set_cons_zero, List.set_cons_succ]
      refine fld_taken_nil ?_
      refine fld_alone (i := 1) (by kernel_rfl) rfl (by rfl) (fun K hK => ?_)
      go_simp
      refine (may_any A1 n1 c1 _ r1 p1 e1 s1 t1 m _ LA.out HM.out sa4' z4' ma ZA.out).mono ?_
      rintro e W5 ⟨rfl, hx5⟩
      have h5 : Below W4.heap.size W4 W5 := h4.trans (hx5.mono h4.size)
      have sa5 := sa4'.below (hx5.mono z4')
      have sb5 := sb4'.below (hx5.mono z4')
      have z5 := Nat.le_trans z4 hx5.size
      go_wp2_with fail
      refine hK.out _ _ (h5) ?_
      clear hK K
      refine fld_alone (i := 3) (by kernel_rfl) rfl (by rfl) (fun K hK => ?_)
      go_simp
      refine (ref_may_any A1 n1 c1 _ r1 p1 e1 s1 t1 m W5 LA.out HM.out sa5 z5 ma ZA.out).mono ?_
      rintro e W6 ⟨rfl, hx6⟩
      have h6 : Below W4.heap.size W4 W6 := h5.trans (hx6.mono h5.size)
      have sa6 := sa5.below (hx6.mono z5)
      have sb6 := sb5.below (hx6.mono z5)
      have z6 := Nat.le_trans z5 hx6.size
      go_wp2_with fail
      refine hK.out _ _ (h6) ?_
      clear hK K
      refine fld_takes [4, 5, 6, 7, 8, 9, 10, 11, 12, 13, 14, 15, 16, 17, 19, 20] _ 24 _ _ _ (by kernel_rfl) (fun _ d _ _ _ h => by cases d <;> exact h) (by rfl) (by kernel_rfl) (by assumption) ?_
      refine fld_taken (v := ?_) rfl (by rfl) (fun w' hw' => ?_) ?_
      rotate_left
      · (go_simp <;> with_reducible rfl)
      simp only [Act.put, List.getElem_toArray, List.getElem_cons_succ, List.getElem_cons_zero, List.setIfInBounds_toArray, List.set_cons_zero, List.set_cons_succ]
      refine fld_taken (v := ?_) rfl (by rfl) (fun w' hw' => ?_) ?_
      rotate_left
      · (go_simp <;> with_reducible rfl)
      simp only [Act.put, List.getElem_toArray, List.getElem_cons_succ, List.getElem_cons_zero, List.setIfInBounds_toArray, List.set_cons_zero, List.set_cons_succ]
      refine fld_taken (v := ?_) rfl (by rfl) (fun w' hw' => ?_) ?_
      rotate_left
      · (go_simp <;> with_reducible rfl)
      simp only [Act.put, List.getElem_toArray, List.getElem_cons_succ, List.getElem_cons_zero, List.setIfInBounds_toArray, List.set_cons_zero, List.set_cons_succ]
      refine fld_taken (v := ?_) rfl (by rfl) (fun w' hw' => ?_) ?_
      rotate_left
      · (go_simp <;> with_reducible rfl)
      simp only [Act.put, List.getElem_toArray, List.getElem_cons_succ, List.getElem_cons_zero, List.setIfInBounds_toArray, List.set_cons_zero, List.set_cons_succ]
      refine fld_taken (v := ?_) rfl (by rfl) (fun w' hw' => ?_) ?_
      rotate_left
      · (go_simp <;> with_reducible rfl)
      simp only [Act.put, List.getElem_toArray, List.getElem_cons_succ, List.getElem_cons_zero, List.setIfInBounds_toArray, List.set_cons_zero, List.set_cons_succ]
      refine fld_taken (v := ?_) rfl (by rfl) (fun w' hw' => ?_) ?_
      rotate_left
      · (go_simp <;> with_reducible rfl)
      simp only [Act.put, List.getElem_toArray, List.getElem_cons_succ, List.getElem_cons_zero, List.setIfInBounds_toArray, List.set_cons_zero, List.set_cons_succ]
      refine fld_taken (v := ?_) rfl (by rfl) (fun w' hw' => ?_) ?_
      rotate_left
      · (go_simp <;> with_reducible rfl)
      simp only [Act.put, List.getElem_toArray, List.getElem_cons_succ, List.getElem_cons_zero, List.setIfInBounds_toArray, List.set_cons_zero, List.set_cons_succ]
      refine fld_taken (v := ?_) rfl (by rfl) (fun w' hw' => ?_) ?_
      rotate_left
      · (go_simp <;> with_reducible rfl)
      simp only [Act.put, List.getElem_toArray, List.getElem_cons_succ, List.getElem_cons_zero, List.setIfInBounds_toArray, List.set_cons_zero, List.set_cons_succ]
      refine fld_taken (v := ?_) rfl (by rfl) (fun w' hw' => ?_) ?_
      rotate_left
      · (go_simp <;> with_reducible rfl)
      simp only [Act.put, List.getElem_toArray, List.getElem_cons_succ, List.getElem_cons_zero, List.setIfInBounds_toArray, List.set_cons_zero, List.set_cons_succ]
      refine fld_taken (v := ?_) rfl (by rfl) (fun w' hw' => ?_) ?_
      rotate_left
      · (go_simp <;> with_reducible rfl)
      simp only [Act.put, List.getElem_toArray, List.getElem_cons_succ, List.getElem_cons_zero, List.setIfInBounds_toArray, List.set_cons_zero, List.set_cons_succ]
      refine fld_taken (v := ?_) rfl (by rfl) (fun w' hw' => ?_) ?_
      rotate_left
      · (go_simp <;> with_reducible rfl)
      simp only [Act.put, List.getElem_toArray, List.getElem_cons_succ, List.getElem_cons_zero, List.setIfInBounds_toArray, List.set_cons_zero, List.set_cons_succ]
      refine fld_taken (v := ?_) rfl (by rfl) (fun w' hw' => ?_) ?_
      rotate_left
      · (go_simp <;> with_reducible rfl)
      simp only [Act.put, List.getElem_toArray, List.getElem_cons_succ, List.getElem_cons_zero, List.setIfInBounds_toArray, List.set_cons_zero, List.set_cons_succ]
      refine fld_taken (v := ?_) rfl (by rfl) (fun w' hw' => ?_) ?_
      rotate_left
      · (go_simp <;> with_reducible rfl)
      simp only [Act.put, List.getElem_toArray, List.getElem_cons_succ, List.getElem_cons_zero, List.setIfInBounds_toArray, List.set_cons_zero, List.set_cons_succ]
      refine fld_taken (v := ?_) rfl (by rfl) (fun w' hw' => ?_) ?_
      rotate_left
      · (go_simp <;> with_reducible rfl)
      simp only [Act.put, List.getElem_toArray, List.getElem_cons_succ, List.getElem_cons_zero, List.setIfInBounds_toArray, List.set_cons_zero, List.set_cons_succ]
      refine fld_taken (v := ?_) rfl (by rfl) (fun w' hw' => ?_) ?_
      rotate_left
      · (go_simp <;> with_reducible rfl)
      simp only [Act.put, List.getElem_toArray, List.getElem_cons_succ, List.getElem_cons_zero, List.setIfInBounds_toArray, List.set_cons_zero, List.set_cons_succ]
      refine fld_taken (v := ?_) rfl (by rfl) (fun w' hw' => ?_) ?_
      rotate_left
      · (go_simp <;> with_reducible rfl)
      simp only [Act.put, List.getElem_toArray, List.getElem_cons_succ, List.getElem_cons_zero, List.setIfInBounds_toArray, List.set_cons_zero, List.set_cons_succ]
      refine fld_taken_nil ?_
      refine fld_alone (i := 18) (by kernel_rfl) rfl (by rfl) (fun K hK => ?_)
      go_simp
      refine (same_any A1 A2 n1 n2 c1 c2 _ r1 r2 p1 e1 s1 p2 e2 s2 t1 t2 q W6 LA.out LB.out HQ.out sa6 sb6 z6 ma mb).mono ?_
      rintro e W7 ⟨rfl, hx7⟩
      have h7 : Below W4.heap.size W4 W7 := h6.trans (hx7.mono h6.size)
      have sa7 := sa6.below (hx7.mono z6)
      have sb7 := sb6.below (hx7.mono z6)
      have z7 := Nat.le_trans z6 hx7.size
      go_wp2_with fail
      refine hK.out _ _ (h7) ?_
      clear hK K
      refine fld_alone (i := 21) (by kernel_rfl) rfl (by rfl) (fun K hK => ?_)
      go_simp
      refine (ref_same_any A1 A2 n1 n2 c1 c2 _ r1 r2 p1 e1 s1 p2 e2 s2 t1 t2 q W7 LA.out LB.out HQ.out sa7 sb7 z7 ma mb).mono ?_
      rintro e W8 ⟨rfl, hx8⟩
      have h8 : Below W4.heap.size W4 W8 := h7.trans (hx8.mono h7.size)
      have sa8 := sa7.below (hx8.mono z7)
      have sb8 := sb7.below (hx8.mono z7)
      have z8 := Nat.le_trans z7 hx8.size
      go_wp2_with fail
      refine hK.out _ _ (h8) ?_
      clear hK K
      refine fld_takes [22, 23, 24, 25, 27] _ 17 _ _ _ (by kernel_rfl) (fun _ d _ _ _ h => by cases d <;> exact h) (by rfl) (by kernel_rfl) (by assumption) ?_
      refine fld_taken (v := ?_) rfl (by rfl) (fun w' hw' => ?_) ?_
      rotate_left
      · (go_simp <;> with_reducible rfl)
      simp only [Act.put, List.getElem_toArray, List.getElem_cons_succ, List.getElem_cons_zero, List.setIfInBounds_toArray, List.set_cons_zero, List.set_cons_succ]
      refine fld_taken (v := ?_) rfl (by rfl) (fun w' hw' => ?_) ?_
      rotate_left
      · (go_simp <;> with_reducible rfl)
      simp only [Act.put, List.getElem_toArray, List.getElem_cons_succ, List.getElem_cons_zero, List.setIfInBounds_toArray, List.set_cons_zero, List.set_cons_succ]
      refine fld_taken (v := ?_) rfl (by rfl) (fun w' hw' => ?_) ?_
      rotate_left
      · (go_simp <;> with_reducible rfl)
      simp only [Act.put, List.getElem_toArray, List.getElem_cons_succ, List.getElem_cons_zero, List.setIfInBounds_toArray, List.set_cons_zero, List.set_cons_succ]
      refine fld_taken (v := ?_) rfl (by rfl) (fun w' hw' => ?_) ?_
      rotate_left
      · (go_simp <;> with_reducible rfl)
      simp only [Act.put, List.getElem_toArray, List.getElem_cons_succ, List.getElem_cons_zero, List.setIfInBounds_toArray, List.set_cons_zero, List.set_cons_succ]
      refine fld_taken (v := ?_) rfl (by rfl) (fun w' hw' => ?_) ?_
      rotate_left
      · (go_simp <;> with_reducible rfl)
      simp only [Act.put, List.getElem_toArray, List.getElem_cons_succ, List.getElem_cons_zero, List.setIfInBounds_toArray, List.set_cons_zero, List.set_cons_succ]
      refine fld_taken_nil ?_
      refine fld_alone (i := 26) (by kernel_rfl) rfl (by rfl) (fun K hK => ?_)
      go_simp
      refine (behind_any A1 n1 c1 p1 e1 s1 bh t1 W8 HBH.out).mono ?_
      rintro e W9 ⟨rfl, hx9⟩
      have h9 : Below W4.heap.size W4 W9 := h8.trans (hx9.mono h8.size)
      have sa9 := sa8.below (hx9.mono z8)
      have sb9 := sb8.below (hx9.mono z8)
      have z9 := Nat.le_trans z8 hx9.size
      go_wp2_with fail
      refine hK.out _ _ (h9) ?_
      clear hK K
      refine fld_alone (i := 28) (by kernel_rfl) rfl (by rfl) (fun K hK => ?_)
      go_simp
      refine (ref_behind_any A1 n1 c1 p1 e1 s1 bh t1 W9 HBH.out).mono ?_
      rintro e W10 ⟨rfl, hx10⟩
      have h10 : Below W4.heap.size W4 W10 := h9.trans (hx10.mono h9.size)
      have sa10 := sa9.below (hx10.mono z9)
      have sb10 := sb9.below (hx10.mono z9)
      have z10 := Nat.le_trans z9 hx10.size
      go_wp2_with fail
      refine hK.out _ _ (h10) ?_
      clear hK K
      refine fld_takes [29, 30, 31, 32, 33, 35, 36] _ 8 _ _ _ (by kernel_rfl) (fun _ d _ _ _ h => by cases d <;> exact h) (by rfl) (by kernel_rfl) (by assumption) ?_
      refine fld_taken (v := ?_) rfl (by rfl) (fun w' hw' => ?_) ?_
      rotate_left
      · (go_simp <;> with_reducible rfl)
      simp only [Act.put, List.getElem_toArray, List.getElem_cons_succ, List.getElem_cons_zero, List.setIfInBounds_toArray, List.set_cons_zero, List.set_cons_succ]
      refine fld_taken (v := ?_) rfl (by rfl) (fun w' hw' => ?_) ?_
      rotate_left
      · (go_simp <;> with_reducible rfl)
      simp only [Act.put, List.getElem_toArray, List.getElem_cons_succ, List.getElem_cons_zero, List.setIfInBounds_toArray, List.set_cons_zero, List.set_cons_succ]
      refine fld_taken (v := ?_) rfl (by rfl) (fun w' hw' => ?_) ?_
      rotate_left
      · (go_simp <;> with_reducible rfl)
      simp only [Act.put, List.getElem_toArray, List.getElem_cons_succ, List.getElem_cons_zero, List.setIfInBounds_toArray, List.set_cons_zero, List.set_cons_succ]
      refine fld_taken (v := ?_) rfl (by rfl) (fun w' hw' => ?_) ?_
      rotate_left
      · (go_simp <;> with_reducible rfl)
      simp only [Act.put, List.getElem_toArray, List.getElem_cons_succ, List.getElem_cons_zero, List.setIfInBounds_toArray, List.set_cons_zero, List.set_cons_succ]
      refine fld_taken (v := ?_) rfl (by rfl) (fun w' hw' => ?_) ?_
      rotate_left
      · (go_simp <;> with_reducible rfl)
      simp only [Act.put, List.getElem_toArray, List.getElem_cons_succ, List.getElem_cons_zero, List.setIfInBounds_toArray, List.set_cons_zero, List.set_cons_succ]
      refine fld_taken (v := ?_) rfl (by rfl) (fun w' hw' => ?_) ?_
      rotate_left
      · (go_simp <;> with_reducible rfl)
      simp only [Act.put, List.getElem_toArray, List.getElem_cons_succ, List.getElem_cons_zero, List.setIfInBounds_toArray, List.set_cons_zero, List.set_cons_succ]
      refine fld_taken (v := ?_) rfl (by rfl) (fun w' hw' => ?_) ?_
      rotate_left
      · (go_simp <;> with_reducible rfl)
      simp only [Act.put, List.getElem_toArray, List.getElem_cons_succ, List.getElem_cons_zero, List.setIfInBounds_toArray, List.set_cons_zero, List.set_cons_succ]
      refine fld_taken_nil ?_
      refine fld_alone (i := 34) (by kernel_rfl) rfl (by rfl) (fun K hK => ?_)
      go_simp
      refine (rows_any A1 n1 c1 _ r1 p1 e1 s1 off t1 W10 LA.out sa10 z10 hn60 ZA.out).mono ?_
      rintro e W11 ⟨Ar, cr, rfl, hr11, _, hx11⟩
      have h11 : Below W4.heap.size W4 W11 := h10.trans (hx11.mono h10.size)
      have sa11 := sa10.below (hx11.mono z10)
      have sb11 := sb10.below (hx11.mono z10)
      have z11 := Nat.le_trans z10 hx11.size
      go_wp2_with fail
      refine hK.out _ _ (h11) ?_
      clear hK K
      refine fld_alone (i := 37) (by kernel_rfl) rfl (by rfl) (fun K hK => ?_)
      go_simp
      refine (ref_rows_any A1 n1 c1 _ r1 p1 e1 s1 off t1 W11 LA.out sa11 z11 hn60 ZA.out).mono ?_
      rintro e W12 ⟨Aq, cq, rfl, hr12, _, hx12⟩
      have h12 : Below W4.heap.size W4 W12 := h11.trans (hx12.mono h11.size)
      have sa12 := sa11.below (hx12.mono z11)
      have sb12 := sb11.below (hx12.mono z11)
      have z12 := Nat.le_trans z11 hx12.size
      go_wp2_with fail
      refine hK.out _ _ (h12) ?_
      clear hK K
      have hq12 := (hr11.below hx12).up hx12.size
      refine fld_alone (i := 38) (by kernel_rfl) rfl (by rfl) (fun K hK => ?_)
      go_simp
      refine (same_rows_self Ar Aq n1 cr cq _ _ W12 HRL.out hq12 hr12 (Nat.le_refl _) hn60).mono ?_
      rintro e W13 ⟨rfl, hx13⟩
      have h13 : Below W4.heap.size W4 W13 := h12.trans (hx13.mono h12.size)
      have sa13 := sa12.below (hx13.mono z12)
      have sb13 := sb12.below (hx13.mono z12)
      have z13 := Nat.le_trans z12 hx13.size
      go_wp2_with fail
      refine hK.out _ _ (h13) ?_
      clear hK K
      refine fld_takes [39, 40] _ 3 _ _ _ (by kernel_rfl) (fun _ d _ _ _ h => by cases d <;> exact h) (by rfl) (by kernel_rfl) (by assumption) ?_
      refine fld_taken (v := ?_) rfl (by rfl) (fun w' hw' => ?_) ?_
      rotate_left
      · (go_simp <;> with_reducible rfl)
      simp only [Act.put, List.getElem_toArray, List.getElem_cons_succ, List.getElem_cons_zero, List.setIfInBounds_toArray, List.set_cons_zero, List.set_cons_succ]
      refine fld_taken (v := ?_) rfl (by rfl) (fun w' hw' => ?_) ?_
      rotate_left
      · (go_simp <;> with_reducible rfl)
      simp only [Act.put, List.getElem_toArray, List.getElem_cons_succ, List.getElem_cons_zero, List.setIfInBounds_toArray, List.set_cons_zero, List.set_cons_succ]
      refine fld_taken_nil ?_
      refine fld_alone (i := 41) (by kernel_rfl) rfl (by rfl) (fun K hK => ?_)
      go_simp
      refine (wakes_any W13).mono ?_
      rintro e W14 ⟨rfl, hx14⟩
      have h14 : Below W4.heap.size W4 W14 := h13.trans (hx14.mono h13.size)
      have sa14 := sa13.below (hx14.mono z13)
      have sb14 := sb13.below (hx14.mono z13)
      have z14 := Nat.le_trans z13 hx14.size
      go_wp2_with fail
      refine hK.out _ _ (h14) ?_
      clear hK K
      refine fld_takes [42, 43] _ 0 _ _ _ (by kernel_rfl) (fun _ d _ _ _ h => by cases d <;> exact h) (by rfl) (by kernel_rfl) (by assumption) ?_
      refine fld_taken (v := ?_) rfl (by rfl) (fun w' hw' => ?_) ?_
      rotate_left
      · (go_simp <;> with_reducible rfl)
      simp only [Act.put, List.getElem_toArray, List.getElem_cons_succ, List.getElem_cons_zero, List.setIfInBounds_toArray, List.set_cons_zero, List.set_cons_succ]
      refine fld_taken (v := ?_) rfl (by rfl) (fun w' hw' => ?_) ?_
      rotate_left
      · (go_simp <;> with_reducible rfl)
      simp only [Act.put, List.getElem_toArray, List.getElem_cons_succ, List.getElem_cons_zero, List.setIfInBounds_toArray, List.set_cons_zero, List.set_cons_succ]
      refine fld_taken_nil ?_
      refine wpAnyH_done (by kernel_rfl) ?_ _
      have hfin := b4.trans (h14.mono b4.size)
      clear k0 k1 k2 k3 k4 j0 j1 j2 j3 j4
      go_wp2
      go_ret
      exact ⟨rfl, hfin⟩
end Go.Proofs.Ytiilbcficgpohaa
