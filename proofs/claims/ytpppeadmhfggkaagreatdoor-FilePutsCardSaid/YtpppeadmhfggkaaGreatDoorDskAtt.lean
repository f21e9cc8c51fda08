/-
  Contracts of attempt, what is refused: what it returns and what it does to memory. Conditions: those that each theorem names.
-/
import Derived.Test.YtpppeadmhfggkaaGreatDoorDskAsD
namespace Go.Proofs.YtpppeadmhfggkaaGreatDoor
open Go.RowKit DP

section
variable {W : World} {g h T U : Nat} {cs : Array Value} {a b c d o0 o1 o2 o3 : Value}
theorem set4_var (v : Var W g T #[o0, o1, o2, o3]) : Var ((((W.setCell ⟨g, 0, none⟩ a).setCell ⟨g, 1, none⟩ b).setCell ⟨g, 2, none⟩ c).setCell ⟨g, 3, none⟩ d) g T #[a, b, c, d] := by
  simpa using (((v.set 0 a).set 1 b).set 2 c).set 3 d
theorem set4_other (v : Var W h U cs) (hne : h ≠ g) : Var ((((W.setCell ⟨g, 0, none⟩ a).setCell ⟨g, 1, none⟩ b).setCell ⟨g, 2, none⟩ c).setCell ⟨g, 3, none⟩ d) h U cs :=
  (((v.other 0 a hne).other 1 b hne).other 2 c hne).other 3 d hne
theorem set4_below {B : Nat} (hg : B ≤ g) : Below B W ((((W.setCell ⟨g, 0, none⟩ a).setCell ⟨g, 1, none⟩ b).setCell ⟨g, 2, none⟩ c).setCell ⟨g, 3, none⟩ d) :=
  ((((Below.refl _ _).setCell hg _).setCell hg _).setCell hg _).setCell hg _
theorem set4_own {base n e : Nat} {v : Value} {xs : List Value} (hw : W.ownsRow base e 3 v n xs) (hg : g < base) : ((((W.setCell ⟨g, 0, none⟩ a).setCell ⟨g, 1, none⟩ b).setCell ⟨g, 2, none⟩ c).setCell ⟨g, 3, none⟩ d).ownsRow base e 3 v n xs :=
  own_set (own_set (own_set (own_set hw hg _) hg _) hg _) hg _
theorem set3_var (v : Var W g T #[o0, o1, o2]) : Var (((W.setCell ⟨g, 0, none⟩ a).setCell ⟨g, 1, none⟩ b).setCell ⟨g, 2, none⟩ c) g T #[a, b, c] := by
  simpa using ((v.set 0 a).set 1 b).set 2 c
theorem set3_other (v : Var W h U cs) (hne : h ≠ g) : Var (((W.setCell ⟨g, 0, none⟩ a).setCell ⟨g, 1, none⟩ b).setCell ⟨g, 2, none⟩ c) h U cs :=
  ((v.other 0 a hne).other 1 b hne).other 2 c hne
theorem set3_below {B : Nat} (hg : B ≤ g) : Below B W (((W.setCell ⟨g, 0, none⟩ a).setCell ⟨g, 1, none⟩ b).setCell ⟨g, 2, none⟩ c) :=
  (((Below.refl _ _).setCell hg _).setCell hg _).setCell hg _
end

theorem own_drew1 {w : World} {base e n : Nat} {v : Value} {xs : List Value} (h : w.ownsRow base e 3 v n xs) : w.drew.ownsRow base e 3 v n xs := h
/-- No disk, and an error. -/
def AttErr (r : Int) (w : World) (e : Ending) (w' : World) : Prop :=
  e = .returned (.tuple #[.agg #[.slice none 0 0, .int .i64 0, .int .i64 0, .bool false], .iface 34 (.int .i64 r)]) ∧ Below w.heap.size w w'

set_option maxRecDepth 100000 in
set_option maxHeartbeats 400000 in
theorem att_invalid (A : Option Addr) (n c B : Nat) (fs : List Fl) (cap left : Int) (down : Bool) (op : Int) (file b : ByteArray) (k : Int) (w : World) (hn : fs.length = n) (hs : Seen w B A (fcells fs)) (hB : B ≤ w.heap.size) (hsm : Small fs)
    (hc : check ⟨fs, cap, left, down⟩ = false) :
    Calls Tryz.prog 34 #[.agg #[.slice A n c, .int .i64 cap, .int .i64 left, .bool down], .agg #[.int .i8 op, .string file, .string b, .int .i64 k]] w (AttErr 2 w) := by
  have HN := Lib.hid hn
  have HC := Lib.hid hc
  clear hn hc
  go_enter Tryz.func34, Tryz.ntmps34
  go_wp2_with fail
  have hvs := new3 w #[.slice A n c, .int .i64 cap, .int .i64 left, .bool down] #[.int .i8 op, .string file, .string b, .int .i64 k] #[.slice none 0 0, .int .i64 0, .int .i64 0, .bool false] 24 50 24
  have hbs := bel3 w #[.slice A n c, .int .i64 cap, .int .i64 left, .bool down] #[.int .i8 op, .string file, .string b, .int .i64 k] #[.slice none 0 0, .int .i64 0, .int .i64 0, .bool false] 24 50 24
  refine (own_no A n c B fs cap left down _ HN.out HC.out hsm (hs.below (hbs.mono hB)) (by simp; omega)).mono ?_
  rintro e w1 ⟨rfl, hb1⟩
  have v1 := Var.below hvs.1 hb1 (by simp; omega)
  have v3 := Var.below hvs.2.2 hb1 (by simp)
  have hb1' : Below w.heap.size w w1 := hbs.trans (hb1.mono (by simp; omega))
  clear hvs hbs hb1
  obtain ⟨d0, d1, d2, d3, f1⟩ := v1.cells4
  obtain ⟨e0, e1, e2, e3, f3⟩ := v3.cells4
  clear v1 v3
  go_wp2
  refine bodyPost_ret (v := .tuple #[.agg #[.slice none 0 0, .int .i64 0, .int .i64 0, .bool false], .iface 34 (.int .i64 2)]) (by simp [results, Tryz.results34, go_sem, e0, e1, e2, e3]) rfl ⟨rfl, ?_⟩
  repeat (first | with_reducible exact hb1' | refine Below.setCell ?_ (by simp; omega) _ | refine Below.setCell ?_ (by simp) _)

-- GEN

set_option maxRecDepth 100000 in
set_option maxHeartbeats 1000000 in
theorem att_noop (A : Option Addr) (n c B : Nat) (fs : List Fl) (cap left : Int) (down : Bool) (op : Int) (file b : ByteArray) (k : Int) (w : World) (hn : fs.length = n) (hs : Seen w B A (fcells fs)) (hB : B ≤ w.heap.size) (hc : check ⟨fs, cap, left, down⟩ = true) (hf : file.size ≤ 9223372036854775807) (hop : isOp ⟨op, file, b, k⟩ = false) :
    Calls Tryz.prog 34 #[.agg #[.slice A n c, .int .i64 cap, .int .i64 left, .bool down], .agg #[.int .i8 op, .string file, .string b, .int .i64 k]] w (AttErr 2 w) := by
  have HN := Lib.hid hn
  have HC := Lib.hid hc
  have HOP := Lib.hid hop
  have hn64 : n ≤ 64 := by rw [← hn]; exact (check_parts hc).1
  clear hn hc hop
  go_enter Tryz.func34, Tryz.ntmps34
  go_wp2_with fail
  have hvs := new3 w #[.slice A n c, .int .i64 cap, .int .i64 left, .bool down] #[.int .i8 op, .string file, .string b, .int .i64 k] #[.slice none 0 0, .int .i64 0, .int .i64 0, .bool false] 24 50 24
  have hbs := bel3 w #[.slice A n c, .int .i64 cap, .int .i64 left, .bool down] #[.int .i8 op, .string file, .string b, .int .i64 k] #[.slice none 0 0, .int .i64 0, .int .i64 0, .bool false] 24 50 24
  refine (own_yes A n c B fs cap left down _ HN.out HC.out (hs.below (hbs.mono hB)) (by simp; omega)).mono ?_
  rintro e w1 ⟨A1, c1, rfl, hown, hb1⟩
  have v1 := Var.below hvs.1 hb1 (by simp; omega)
  have v2 := Var.below hvs.2.1 hb1 (by simp)
  have v3 := Var.below hvs.2.2 hb1 (by simp)
  have hb1' : Below w.heap.size w w1 := hbs.trans (hb1.mono (by simp; omega))
  have hz1 : w.heap.size + 3 ≤ w1.heap.size := by have := hb1.size; simp at this; omega
  have hown1 := own_mono (base' := w.heap.size + 3) hown (by simp)
  clear hvs hbs hb1 hown
  obtain ⟨d0, d1, d2, d3, f1⟩ := v1.cells4
  obtain ⟨g0, g1, g2, g3, f2⟩ := v2.cells4
  obtain ⟨e0, e1, e2, e3, f3⟩ := v3.cells4
  go_wp2_with fail
  refine (isop_any op file b k false _ hf HOP.out).mono ?_
  rintro e w2 ⟨rfl, hb2⟩
  have hz2 : w1.heap.size ≤ w2.heap.size := by have := hb2.size; simpa using this
  have u1 := Var.below (set4_var v1) hb2 (by simp; omega)
  have u2 := Var.below (set4_other v2 (by omega)) hb2 (by simp; omega)
  have u3 := Var.below (set4_other v3 (by omega)) hb2 (by simp; omega)
  have hown2 := own_below (set4_own hown1 (by omega)) hb2
  have hb2' : Below w.heap.size w w2 := (hb1'.trans (set4_below (Nat.le_refl _))).trans (hb2.mono (by simp; omega))
  clear v1 v2 v3 d0 d1 d2 d3 g0 g1 g2 g3 e0 e1 e2 e3 f1 f2 f3 hown1 hb2 hb1'
  obtain ⟨hs2, hnc⟩ := Seen.of_own3 hown2
  obtain ⟨d0, d1, d2, d3, f1⟩ := u1.cells4
  obtain ⟨g0, g1, g2, g3, f2⟩ := u2.cells4
  obtain ⟨e0, e1, e2, e3, f3⟩ := u3.cells4
  go_wp2
  refine bodyPost_ret (v := .tuple #[.agg #[.slice none 0 0, .int .i64 0, .int .i64 0, .bool false], .iface 34 (.int .i64 2)]) (by simp [results, Tryz.results34, go_sem, e0, e1, e2, e3]) rfl ⟨rfl, ?_⟩
  repeat (first | with_reducible exact hb2' | refine Below.setCell ?_ (by simp; omega) _ | refine Below.setCell ?_ (by simp) _)

set_option maxRecDepth 100000 in
set_option maxHeartbeats 1000000 in
theorem att_down (A : Option Addr) (n c B : Nat) (fs : List Fl) (cap left : Int) (down : Bool) (op : Int) (file b : ByteArray) (k : Int) (w : World) (hn : fs.length = n) (hs : Seen w B A (fcells fs)) (hB : B ≤ w.heap.size) (hc : check ⟨fs, cap, left, down⟩ = true) (hf : file.size ≤ 9223372036854775807) (hop : isOp ⟨op, file, b, k⟩ = true) (hd : down = true) :
    Calls Tryz.prog 34 #[.agg #[.slice A n c, .int .i64 cap, .int .i64 left, .bool down], .agg #[.int .i8 op, .string file, .string b, .int .i64 k]] w (AttErr 30 w) := by
  subst hd
  have HN := Lib.hid hn
  have HC := Lib.hid hc
  have HOP := Lib.hid hop
  have hn64 : n ≤ 64 := by rw [← hn]; exact (check_parts hc).1
  clear hn hc hop
  go_enter Tryz.func34, Tryz.ntmps34
  go_wp2_with fail
  have hvs := new3 w #[.slice A n c, .int .i64 cap, .int .i64 left, .bool true] #[.int .i8 op, .string file, .string b, .int .i64 k] #[.slice none 0 0, .int .i64 0, .int .i64 0, .bool false] 24 50 24
  have hbs := bel3 w #[.slice A n c, .int .i64 cap, .int .i64 left, .bool true] #[.int .i8 op, .string file, .string b, .int .i64 k] #[.slice none 0 0, .int .i64 0, .int .i64 0, .bool false] 24 50 24
  refine (own_yes A n c B fs cap left true _ HN.out HC.out (hs.below (hbs.mono hB)) (by simp; omega)).mono ?_
  rintro e w1 ⟨A1, c1, rfl, hown, hb1⟩
  have v1 := Var.below hvs.1 hb1 (by simp; omega)
  have v2 := Var.below hvs.2.1 hb1 (by simp)
  have v3 := Var.below hvs.2.2 hb1 (by simp)
  have hb1' : Below w.heap.size w w1 := hbs.trans (hb1.mono (by simp; omega))
  have hz1 : w.heap.size + 3 ≤ w1.heap.size := by have := hb1.size; simp at this; omega
  have hown1 := own_mono (base' := w.heap.size + 3) hown (by simp)
  clear hvs hbs hb1 hown
  obtain ⟨d0, d1, d2, d3, f1⟩ := v1.cells4
  obtain ⟨g0, g1, g2, g3, f2⟩ := v2.cells4
  obtain ⟨e0, e1, e2, e3, f3⟩ := v3.cells4
  go_wp2_with fail
  refine (isop_any op file b k true _ hf HOP.out).mono ?_
  rintro e w2 ⟨rfl, hb2⟩
  have hz2 : w1.heap.size ≤ w2.heap.size := by have := hb2.size; simpa using this
  have u1 := Var.below (set4_var v1) hb2 (by simp; omega)
  have u2 := Var.below (set4_other v2 (by omega)) hb2 (by simp; omega)
  have u3 := Var.below (set4_other v3 (by omega)) hb2 (by simp; omega)
  have hown2 := own_below (set4_own hown1 (by omega)) hb2
  have hb2' : Below w.heap.size w w2 := (hb1'.trans (set4_below (Nat.le_refl _))).trans (hb2.mono (by simp; omega))
  clear v1 v2 v3 d0 d1 d2 d3 g0 g1 g2 g3 e0 e1 e2 e3 f1 f2 f3 hown1 hb2 hb1'
  obtain ⟨hs2, hnc⟩ := Seen.of_own3 hown2
  obtain ⟨d0, d1, d2, d3, f1⟩ := u1.cells4
  obtain ⟨g0, g1, g2, g3, f2⟩ := u2.cells4
  obtain ⟨e0, e1, e2, e3, f3⟩ := u3.cells4
  go_wp2
  refine bodyPost_ret (v := .tuple #[.agg #[.slice none 0 0, .int .i64 0, .int .i64 0, .bool false], .iface 34 (.int .i64 30)]) (by simp [results, Tryz.results34, go_sem, e0, e1, e2, e3]) rfl ⟨rfl, ?_⟩
  repeat (first | with_reducible exact hb2' | refine Below.setCell ?_ (by simp; omega) _ | refine Below.setCell ?_ (by simp) _)

/-- The operation at which a disk goes down. -/
def AttFall (n : Nat) (fs : List Fl) (cap : Int) (w : World) (e : Ending) (w' : World) : Prop :=
  ∃ A' c', e = .returned (.tuple #[.agg #[.slice none 0 0, .int .i64 0, .int .i64 0, .bool false], .iface 72 (.agg #[.iface 34 (.int .i64 30), .slice A' n c', .int .i64 cap, .int .i64 0, .bool true])]) ∧
    Seen w' w'.heap.size A' (fcells fs) ∧ n ≤ c' ∧ Below w.heap.size w w'

set_option maxRecDepth 100000 in
set_option maxHeartbeats 1000000 in
theorem att_fall (A : Option Addr) (n c B : Nat) (fs : List Fl) (cap left : Int) (down : Bool) (op : Int) (file b : ByteArray) (k : Int) (w : World) (hn : fs.length = n) (hs : Seen w B A (fcells fs)) (hB : B ≤ w.heap.size) (hc : check ⟨fs, cap, left, down⟩ = true) (hf : file.size ≤ 9223372036854775807) (hop : isOp ⟨op, file, b, k⟩ = true) (hd : down = false) (hl : left = 0) :
    Calls Tryz.prog 34 #[.agg #[.slice A n c, .int .i64 cap, .int .i64 left, .bool down], .agg #[.int .i8 op, .string file, .string b, .int .i64 k]] w (AttFall n fs cap w) := by
  subst hd
  subst hl
  have HN := Lib.hid hn
  have HC := Lib.hid hc
  have HOP := Lib.hid hop
  have hn64 : n ≤ 64 := by rw [← hn]; exact (check_parts hc).1
  clear hn hc hop
  go_enter Tryz.func34, Tryz.ntmps34
  go_wp2_with fail
  have hvs := new3 w #[.slice A n c, .int .i64 cap, .int .i64 0, .bool false] #[.int .i8 op, .string file, .string b, .int .i64 k] #[.slice none 0 0, .int .i64 0, .int .i64 0, .bool false] 24 50 24
  have hbs := bel3 w #[.slice A n c, .int .i64 cap, .int .i64 0, .bool false] #[.int .i8 op, .string file, .string b, .int .i64 k] #[.slice none 0 0, .int .i64 0, .int .i64 0, .bool false] 24 50 24
  refine (own_yes A n c B fs cap 0 false _ HN.out HC.out (hs.below (hbs.mono hB)) (by simp; omega)).mono ?_
  rintro e w1 ⟨A1, c1, rfl, hown, hb1⟩
  have v1 := Var.below hvs.1 hb1 (by simp; omega)
  have v2 := Var.below hvs.2.1 hb1 (by simp)
  have v3 := Var.below hvs.2.2 hb1 (by simp)
  have hb1' : Below w.heap.size w w1 := hbs.trans (hb1.mono (by simp; omega))
  have hz1 : w.heap.size + 3 ≤ w1.heap.size := by have := hb1.size; simp at this; omega
  have hown1 := own_mono (base' := w.heap.size + 3) hown (by simp)
  clear hvs hbs hb1 hown
  obtain ⟨d0, d1, d2, d3, f1⟩ := v1.cells4
  obtain ⟨g0, g1, g2, g3, f2⟩ := v2.cells4
  obtain ⟨e0, e1, e2, e3, f3⟩ := v3.cells4
  go_wp2_with fail
  refine (isop_any op file b k true _ hf HOP.out).mono ?_
  rintro e w2 ⟨rfl, hb2⟩
  have hz2 : w1.heap.size ≤ w2.heap.size := by have := hb2.size; simpa using this
  have u1 := Var.below (set4_var v1) hb2 (by simp; omega)
  have u2 := Var.below (set4_other v2 (by omega)) hb2 (by simp; omega)
  have u3 := Var.below (set4_other v3 (by omega)) hb2 (by simp; omega)
  have hown2 := own_below (set4_own hown1 (by omega)) hb2
  have hb2' : Below w.heap.size w w2 := (hb1'.trans (set4_below (Nat.le_refl _))).trans (hb2.mono (by simp; omega))
  clear v1 v2 v3 d0 d1 d2 d3 g0 g1 g2 g3 e0 e1 e2 e3 f1 f2 f3 hown1 hb2 hb1'
  obtain ⟨hs2, hnc⟩ := Seen.of_own3 hown2
  obtain ⟨d0, d1, d2, d3, f1⟩ := u1.cells4
  obtain ⟨g0, g1, g2, g3, f2⟩ := u2.cells4
  obtain ⟨e0, e1, e2, e3, f3⟩ := u3.cells4
  go_wp2_with fail
  go_region
  all_goals
    go_wp2
    refine bodyPost_ret (v := .tuple #[.agg #[.slice none 0 0, .int .i64 0, .int .i64 0, .bool false], .iface 72 (.agg #[.iface 34 (.int .i64 30), .slice A1 n c1, .int .i64 cap, .int .i64 0, .bool true])]) (by simp [results, Tryz.results34, go_sem, e0, e1, e2, e3]) rfl ⟨A1, c1, rfl, ?_, hnc, ?_⟩
    · refine (Seen.of_own3 (base := w.heap.size + 3) (e := 48) (c := c1) (n := n) ?_).1
      repeat (first | with_reducible exact hown2 | with_reducible refine own_drew1 ?_ | refine own_set ?_ (by simp; omega) _ | refine own_set ?_ (by simp) _)
    · repeat (first | with_reducible exact hb2' | with_reducible refine Below.drew ?_ | refine Below.setCell ?_ (by simp; omega) _ | refine Below.setCell ?_ (by simp) _)

end Go.Proofs.YtpppeadmhfggkaaGreatDoor
