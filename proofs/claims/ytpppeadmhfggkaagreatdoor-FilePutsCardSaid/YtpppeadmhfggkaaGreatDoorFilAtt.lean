/-
  Contracts of file's attempt: what it returns and what it does to memory. Conditions: those that each theorem names.
-/
import Derived.Test.YtpppeadmhfggkaaGreatDoorFilG3
import Derived.Test.YtpppeadmhfggkaaGreatDoorFilErr
import Derived.Test.YtpppeadmhfggkaaGreatDoorDskDo
import Derived.Test.YtpppeadmhfggkaaGreatDoorDskWr
namespace Go.Proofs.YtpppeadmhfggkaaGreatDoor
open Go.RowKit DP

/-- What went wrong, as an error in memory. -/
def FltV (w : World) (ev : Value) : Flt → Prop
  | none => ev = .nilIface
  | some (op, file, e) => ∃ g, ev = fltV g ∧ FltAt w g op file e
theorem FltV.grow {w w' : World} {ev : Value} {x : Flt} (h : FltV w ev x) (hb : Below w.heap.size w w') : FltV w' ev x := by
  cases x with
  | none => exact h
  | some y =>
    obtain ⟨g, h1, h2⟩ := h
    exact ⟨g, h1, Var.below h2 hb h2.lt⟩
/-- A disk and an error, handed back. -/
def FileRes (d : Dk) (x : Flt) (w : World) (e : Ending) (w' : World) : Prop :=
  ∃ A m c ev, e = .returned (.tuple #[.agg #[.slice A m c, .int .i64 d.cap, .int .i64 d.left, .bool d.down], ev]) ∧ d.fs.length = m ∧ Seen w' w'.heap.size A (fcells d.fs) ∧ m ≤ c ∧ FltV w' ev x ∧ Below w.heap.size w w'

set_option maxRecDepth 100000 in
set_option maxHeartbeats 1000000 in
theorem fatt_ok (A : Option Addr) (n c B : Nat) (fs fs' : List Fl) (cap left cap' left' : Int) (down down' : Bool) (op : Int) (file b : ByteArray) (k : Int) (w : World) (hG : Glob w) (hn : fs.length = n) (hs : Seen w B A (fcells fs)) (hB : B ≤ w.heap.size) (hsm : Small fs)
    (hf : file.size ≤ 9223372036854775807) (hbb : b.size ≤ 300000) (hlb : left ≤ 9223372036854775807) (hlb' : -9223372036854775808 ≤ left)
    (hr : does ⟨fs, cap, left, down⟩ ⟨op, file, b, k⟩ = (⟨fs', cap', left', down'⟩, 0)) :
    Calls Tryz.prog 23 #[.agg #[.slice A n c, .int .i64 cap, .int .i64 left, .bool down], .agg #[.int .i8 op, .string file, .string b, .int .i64 k]] w (FileRes ⟨fs', cap', left', down'⟩ none w) := by
  have HN := Lib.hid hn
  have HR := Lib.hid hr
  have HG := Lib.hid hG
  clear hn hr hG
  go_enter Tryz.func23, Tryz.ntmps23
  go_wp2_with fail
  have hvs := new3 w #[.slice A n c, .int .i64 cap, .int .i64 left, .bool down] #[.int .i8 op, .string file, .string b, .int .i64 k] #[.slice none 0 0, .int .i64 0, .int .i64 0, .bool false] 24 50 24
  have hbs := bel3 w #[.slice A n c, .int .i64 cap, .int .i64 left, .bool down] #[.int .i8 op, .string file, .string b, .int .i64 k] #[.slice none 0 0, .int .i64 0, .int .i64 0, .bool false] 24 50 24
  refine (do_any A n c B fs fs' cap left cap' left' down down' op file b k 0 _ (HG.out.next hbs) HN.out (hs.below (hbs.mono hB)) (by simp; omega) hsm hf hbb hlb hlb' HR.out).mono ?_
  rintro e w1 ⟨A1, m1, c1, rfl, hl1, hs1, hnc, hb1⟩
  have HL := Lib.hid hl1
  have v3 := Var.below hvs.2.2 hb1 (by simp)
  have hb1' : Below w.heap.size w w1 := hbs.trans (hb1.mono (by simp; omega))
  have hz1 : w.heap.size + 3 ≤ w1.heap.size := by have := hb1.size; simp at this; omega
  clear hvs hbs hb1 hl1
  have l3 := v3.lt
  have hs1' := seen_apart hs1 v3 disk_noText
  obtain ⟨e0, e1, e2, e3, f3⟩ := v3.cells4
  go_wp2
  refine bodyPost_ret (v := .tuple #[.agg #[.slice A1 m1 c1, .int .i64 cap', .int .i64 left', .bool down'], .nilIface]) (by simp [results, Tryz.results23, go_sem, e0, e1, e2, e3, l3]) rfl ⟨A1, m1, c1, .nilIface, rfl, HL.out, ?_, hnc, rfl, ?_⟩
  · exact (((((hs1.off hs1').off hs1').off hs1').off hs1').below ((Below.refl _ _).alloc (by simp) _)).up (by simp)
  · refine Below.alloc ?_ (by simp; omega) _
    repeat (first | with_reducible exact hb1' | refine Below.setCell ?_ (by simp; omega) _ | refine Below.setCell ?_ (by simp) _)

set_option maxRecDepth 100000 in
set_option maxHeartbeats 2000000 in
theorem fatt_err (A : Option Addr) (n c B : Nat) (fs fs' : List Fl) (cap left cap' left' : Int) (down down' : Bool) (op : Int) (file b : ByteArray) (k r : Int) (w : World) (hG : Glob w) (hn : fs.length = n) (hs : Seen w B A (fcells fs)) (hB : B ≤ w.heap.size) (hsm : Small fs)
    (hf : file.size ≤ 9223372036854775807) (hbb : b.size ≤ 300000) (hlb : left ≤ 9223372036854775807) (hlb' : -9223372036854775808 ≤ left)
    (hr : does ⟨fs, cap, left, down⟩ ⟨op, file, b, k⟩ = (⟨fs', cap', left', down'⟩, r)) (hr0 : (r == 0) = false) :
    Calls Tryz.prog 23 #[.agg #[.slice A n c, .int .i64 cap, .int .i64 left, .bool down], .agg #[.int .i8 op, .string file, .string b, .int .i64 k]] w (FileRes ⟨fs', cap', left', down'⟩ (some (op, file, r)) w) := by
  have HN := Lib.hid hn
  have HR := Lib.hid hr
  have HG := Lib.hid hG
  clear hn hr hG
  go_enter Tryz.func23, Tryz.ntmps23
  go_wp2_with fail
  have hvs := new3 w #[.slice A n c, .int .i64 cap, .int .i64 left, .bool down] #[.int .i8 op, .string file, .string b, .int .i64 k] #[.slice none 0 0, .int .i64 0, .int .i64 0, .bool false] 24 50 24
  have hbs := bel3 w #[.slice A n c, .int .i64 cap, .int .i64 left, .bool down] #[.int .i8 op, .string file, .string b, .int .i64 k] #[.slice none 0 0, .int .i64 0, .int .i64 0, .bool false] 24 50 24
  refine (do_any A n c B fs fs' cap left cap' left' down down' op file b k r _ (HG.out.next hbs) HN.out (hs.below (hbs.mono hB)) (by simp; omega) hsm hf hbb hlb hlb' HR.out).mono ?_
  rintro e w1 ⟨A1, m1, c1, rfl, hl1, hs1, hnc, hb1⟩
  have HL := Lib.hid hl1
  have v3 := Var.below hvs.2.2 hb1 (by simp)
  have v2 := Var.below hvs.2.1 hb1 (by simp)
  have hb1' : Below w.heap.size w w1 := hbs.trans (hb1.mono (by simp; omega))
  have hz1 : w.heap.size + 3 ≤ w1.heap.size := by have := hb1.size; simp at this; omega
  clear hvs hbs hb1 hl1
  go_wp2_with fail
  obtain ⟨w2, hw2⟩ : ∃ w2, w2 = w1.alloc (.cells #[.slice A1 m1 c1, .int .i64 cap', .int .i64 left', .bool down'] 24) := ⟨_, rfl⟩
  have hb2 := bel1 w1 #[.slice A1 m1 c1, .int .i64 cap', .int .i64 left', .bool down'] 24
  have u6 := new1 w1 #[.slice A1 m1 c1, .int .i64 cap', .int .i64 left', .bool down'] 24
  rw [← hw2] at hb2 u6 ⊢
  have v3' := Var.below v3 hb2 (by omega)
  have v2' := Var.below v2 hb2 (by omega)
  have hs2 := hs1.below hb2
  have hz2 := hb2.size
  have hb2' : Below w.heap.size w w2 := hb1'.trans (hb2.mono (by omega))
  have ha2 := seen_apart hs2 v3' disk_noText
  obtain ⟨d0, d1, d2, d3, f1⟩ := u6.cells4
  obtain ⟨e0, e1, e2, e3, f3⟩ := v3'.cells4
  obtain ⟨g0, g1, g2, g3, f2⟩ := v2'.cells4
  have l6 := u6.lt
  have l3 := v3'.lt
  have l2 := v2'.lt
  clear hw2 hb2 u6 v3 v2
  go_wp2_with fail
  go_region
  all_goals
    go_wp2
    refine bodyPost_ret (v := .tuple #[.agg #[.slice A1 m1 c1, .int .i64 cap', .int .i64 left', .bool down'], fltV w2.heap.size]) (by simp [results, Tryz.results23, go_sem, e0, e1, e2, e3, l3]) rfl ⟨A1, m1, c1, _, rfl, HL.out, ?_, hnc, ⟨_, rfl, ?_⟩, ?_⟩
    · exact (((((hs2.off ha2).off ha2).off ha2).off ha2).below ((Below.refl _ _).alloc (by simp; omega) _)).up (by simp; omega)
    · have := Var.new ((((w2.setCell ⟨w.heap.size + 1 + 1, 0, none⟩ (.slice A1 m1 c1)).setCell ⟨w.heap.size + 1 + 1, 1, none⟩ (.int .i64 cap')).setCell ⟨w.heap.size + 1 + 1, 2, none⟩ (.int .i64 left')).setCell ⟨w.heap.size + 1 + 1, 3, none⟩ (.bool down')) #[.int .i8 op, .string file, .int .i64 r] 64
      simp only [World.size_setCell] at this
      exact this
    · refine Below.drew ?_
      refine Below.alloc ?_ (by simp; omega) _
      repeat (first | with_reducible exact hb2' | refine Below.setCell ?_ (by simp; omega) _ | refine Below.setCell ?_ (by simp) _)
end Go.Proofs.YtpppeadmhfggkaaGreatDoor
