/-
  Contracts of Do, out of attempt's: what it returns and what it does to memory. Conditions: those that each theorem names.
-/
import Derived.Test.YtpppeadmhfggkaaGreatDoorDskAttC
namespace Go.Proofs.YtpppeadmhfggkaaGreatDoor
open Go.RowKit DP

/-- A disk and an error number, handed back. -/
def DiskRes (fs : List Fl) (cap left : Int) (down : Bool) (r : Int) (w : World) (e : Ending) (w' : World) : Prop :=
  ∃ A' m c', e = .returned (.tuple #[.agg #[.slice A' m c', .int .i64 cap, .int .i64 left, .bool down], .int .i64 r]) ∧ fs.length = m ∧ Seen w' w'.heap.size A' (fcells fs) ∧ m ≤ c' ∧ Below w.heap.size w w'

set_option maxRecDepth 100000 in
set_option maxHeartbeats 1000000 in
theorem do_err (dA : Option Addr) (n c : Nat) (cap left : Int) (down : Bool) (op : Int) (file b : ByteArray) (k r : Int) (w : World) (hG : Glob w)
    (hatt : ∀ wx, Below w.heap.size w wx → Calls Tryz.prog 34 #[.agg #[.slice dA n c, .int .i64 cap, .int .i64 left, .bool down], .agg #[.int .i8 op, .string file, .string b, .int .i64 k]] wx (AttErr r wx)) :
    Calls Tryz.prog 18 #[.agg #[.slice dA n c, .int .i64 cap, .int .i64 left, .bool down], .agg #[.int .i8 op, .string file, .string b, .int .i64 k]] w (DiskRes [] 0 0 false r w) := by
  have HATT := Lib.hid hatt
  have HG := Lib.hid hG
  clear hatt hG
  go_enter Tryz.func18, Tryz.ntmps18
  go_wp2_with fail
  have hvs := new3 w #[.slice dA n c, .int .i64 cap, .int .i64 left, .bool down] #[.int .i8 op, .string file, .string b, .int .i64 k] #[.slice none 0 0, .int .i64 0, .int .i64 0, .bool false] 24 50 24
  have hbs := bel3 w #[.slice dA n c, .int .i64 cap, .int .i64 left, .bool down] #[.int .i8 op, .string file, .string b, .int .i64 k] #[.slice none 0 0, .int .i64 0, .int .i64 0, .bool false] 24 50 24
  refine (HATT.out _ hbs).mono ?_
  rintro e w1 ⟨rfl, hb1⟩
  have v3 := Var.below hvs.2.2 hb1 (by simp)
  have hb1' : Below w.heap.size w w1 := hbs.trans (hb1.mono (by simp; omega))
  have hz1 : w.heap.size + 3 ≤ w1.heap.size := by have := hb1.size; simp at this; omega
  clear hvs hbs hb1
  go_wp2_with fail
  have hvs := new2 w1 #[.slice none 0 0, .int .i64 0, .int .i64 0, .bool false] #[.nilIface, .slice none 0 0, .int .i64 0, .int .i64 0, .bool false] 24 72
  have hbs := bel2 w1 #[.slice none 0 0, .int .i64 0, .int .i64 0, .bool false] #[.nilIface, .slice none 0 0, .int .i64 0, .int .i64 0, .bool false] 24 72
  have hg1 : Glob w1 := HG.out.next hb1'
  refine (as_errno_miss (w1.heap.size + 1) r _ _ (hg1.next hbs) hvs.2).mono ?_
  rintro e w2 ⟨rfl, q8, hk2⟩
  have q6 := Var.kept hvs.1 hk2 (by simp)
  have q3 := Var.kept (Var.below v3 hbs (by omega)) hk2 (by simp; omega)
  have hb2' : Below w.heap.size w w2 := (hb1'.trans (hbs.mono (by omega))).trans (hk2.below (by simp; omega) (by simp; omega))
  have hz2 : w1.heap.size + 2 ≤ w2.heap.size := by have := hk2.size; simp at this; omega
  have hg2 : Glob w2 := HG.out.next hb2'
  clear hvs hbs hk2 hg1 v3 hb1'
  go_wp2_with fail
  have hvs := new1 w2 #[.int .i64 0] 34
  have hbs := bel1 w2 #[.int .i64 0] 34
  refine (as_errno_hit w2.heap.size r _ _ (hg2.next hbs) hvs).mono ?_
  rintro e w3 ⟨rfl, p9, hk3⟩
  have p6 := Var.kept (Var.below q6 hbs (by omega)) hk3 (by simp; omega)
  have p3 := Var.kept (Var.below q3 hbs (by omega)) hk3 (by simp; omega)
  have hb3' : Below w.heap.size w w3 := (hb2'.trans (hbs.mono (by omega))).trans (hk3.below (by simp; omega) (by simp; omega))
  clear hvs hbs hk3 hg2 q6 q3 q8 hb2'
  obtain ⟨d0, d1, d2, d3, f1⟩ := p6.cells4
  obtain ⟨e0, e1, e2, e3, f3⟩ := p3.cells4
  have g0 := p9.cell 0 rfl
  go_wp2_with fail
  go_region
  all_goals
    go_wp2
    refine bodyPost_ret (v := .tuple #[.agg #[.slice none 0 0, .int .i64 0, .int .i64 0, .bool false], .int .i64 r]) (by simp [results, Tryz.results18, go_sem, e0, e1, e2, e3]) rfl ⟨none, 0, 0, rfl, rfl, Seen.nil _ _ _, Nat.le_refl _, ?_⟩
    repeat (first | with_reducible exact hb3' | with_reducible refine Below.drew ?_ | refine Below.setCell ?_ (by simp; omega) _ | refine Below.setCell ?_ (by simp) _)

set_option maxRecDepth 100000 in
set_option maxHeartbeats 1000000 in
theorem do_fall (dA : Option Addr) (n c : Nat) (fs : List Fl) (cap left : Int) (down : Bool) (op : Int) (file b : ByteArray) (k : Int) (w : World) (hG : Glob w) (hn : fs.length = n)
    (hatt : ∀ wx, Below w.heap.size w wx → Calls Tryz.prog 34 #[.agg #[.slice dA n c, .int .i64 cap, .int .i64 left, .bool down], .agg #[.int .i8 op, .string file, .string b, .int .i64 k]] wx (AttFall n fs cap wx)) :
    Calls Tryz.prog 18 #[.agg #[.slice dA n c, .int .i64 cap, .int .i64 left, .bool down], .agg #[.int .i8 op, .string file, .string b, .int .i64 k]] w (DiskRes fs cap 0 true 30 w) := by
  have HN := Lib.hid hn
  clear hn
  have HATT := Lib.hid hatt
  have HG := Lib.hid hG
  clear hatt hG
  go_enter Tryz.func18, Tryz.ntmps18
  go_wp2_with fail
  have hvs := new3 w #[.slice dA n c, .int .i64 cap, .int .i64 left, .bool down] #[.int .i8 op, .string file, .string b, .int .i64 k] #[.slice none 0 0, .int .i64 0, .int .i64 0, .bool false] 24 50 24
  have hbs := bel3 w #[.slice dA n c, .int .i64 cap, .int .i64 left, .bool down] #[.int .i8 op, .string file, .string b, .int .i64 k] #[.slice none 0 0, .int .i64 0, .int .i64 0, .bool false] 24 50 24
  refine (HATT.out _ hbs).mono ?_
  rintro e w1 ⟨A1, c1, rfl, hs1, hnc, hb1⟩
  have v3 := Var.below hvs.2.2 hb1 (by simp)
  have hb1' : Below w.heap.size w w1 := hbs.trans (hb1.mono (by simp; omega))
  have hz1 : w.heap.size + 3 ≤ w1.heap.size := by have := hb1.size; simp at this; omega
  clear hvs hbs hb1
  go_wp2_with fail
  have hvs := new2 w1 #[.slice none 0 0, .int .i64 0, .int .i64 0, .bool false] #[.nilIface, .slice none 0 0, .int .i64 0, .int .i64 0, .bool false] 24 72
  have hbs := bel2 w1 #[.slice none 0 0, .int .i64 0, .int .i64 0, .bool false] #[.nilIface, .slice none 0 0, .int .i64 0, .int .i64 0, .bool false] 24 72
  have hg1 : Glob w1 := HG.out.next hb1'
  refine (as_fall_hit (w1.heap.size + 1) _ _ _ _ _ _ _ _ _ _ _ (hg1.next hbs) hvs.2 (by simp [Value.oneCell'])).mono ?_
  rintro e w2 ⟨rfl, q8, hk2⟩
  have q6 := Var.kept hvs.1 hk2 (by simp)
  have q3 := Var.kept (Var.below v3 hbs (by omega)) hk2 (by simp; omega)
  have hb12 : Below w1.heap.size w1 w2 := hbs.trans (hk2.below (by simp; omega) (by simp))
  have hb2' : Below w.heap.size w w2 := hb1'.trans (hb12.mono (by omega))
  have hz2 : w1.heap.size + 2 ≤ w2.heap.size := by have := hk2.size; simp at this; omega
  clear hvs hbs hk2 hg1 v3
  obtain ⟨b0, b1, b2, b3, b4, _⟩ := q8.cells5
  obtain ⟨d0, d1, d2, d3, f1⟩ := q6.cells4
  go_wp2_with fail
  have r6 := Var.alloc (set4_var (a := .slice A1 n c1) (b := .int .i64 cap) (c := .int .i64 0) (d := .bool true) q6) (.cells #[.int .i64 0] 34)
  have r3 := Var.alloc (set4_other (a := .slice A1 n c1) (b := .int .i64 cap) (c := .int .i64 0) (d := .bool true) q3 (show w.heap.size + 1 + 1 ≠ w1.heap.size by omega)) (.cells #[.int .i64 0] 34)
  have r9 := Var.new ((((w2.setCell ⟨w1.heap.size, 0, none⟩ (.slice A1 n c1)).setCell ⟨w1.heap.size, 1, none⟩ (.int .i64 cap)).setCell ⟨w1.heap.size, 2, none⟩ (.int .i64 0)).setCell ⟨w1.heap.size, 3, none⟩ (.bool true)) #[.int .i64 0] 34
  have hbs : Below w1.heap.size w2 (((((w2.setCell ⟨w1.heap.size, 0, none⟩ (.slice A1 n c1)).setCell ⟨w1.heap.size, 1, none⟩ (.int .i64 cap)).setCell ⟨w1.heap.size, 2, none⟩ (.int .i64 0)).setCell ⟨w1.heap.size, 3, none⟩ (.bool true)).alloc (.cells #[.int .i64 0] 34)) := (set4_below (Nat.le_refl _)).alloc (by simp; omega) _
  have hb13 := hb12.trans hbs
  have hg3 : Glob w1 := HG.out.next hb1'
  simp only [World.size_setCell] at r9
  refine (as_fall_errno w2.heap.size 30 _ _ _ _ _ _ (hg3.next hb13) r9).mono ?_
  rintro e w3 ⟨rfl, p9, hk3⟩
  have p6 := Var.kept r6 hk3 (by simp; omega)
  have p3 := Var.kept r3 hk3 (by simp; omega)
  have hb14 : Below w1.heap.size w1 w3 := hb13.trans (hk3.below (by simp; omega) (by simp; omega))
  have hb3' : Below w.heap.size w w3 := hb1'.trans (hb14.mono (by omega))
  have hs3 := hs1.below hb14
  have ha3 := seen_apart hs3 p3 disk_noText
  have hz3 := hb14.size
  clear r6 r3 r9 hbs hb13 hk3 q6 q3 q8 hb2' hb12 b0 b1 b2 b3 b4 d0 d1 d2 d3 f1
  obtain ⟨d0, d1, d2, d3, f1⟩ := p6.cells4
  obtain ⟨e0, e1, e2, e3, f3⟩ := p3.cells4
  have g0 := p9.cell 0 rfl
  go_wp2_with fail
  go_region
  all_goals
    go_wp2
    refine bodyPost_ret (v := .tuple #[.agg #[.slice A1 n c1, .int .i64 cap, .int .i64 0, .bool true], .int .i64 30]) (by simp [results, Tryz.results18, go_sem, e0, e1, e2, e3]) rfl ⟨A1, n, c1, rfl, HN.out, ?_, hnc, ?_⟩
    · exact ((((hs3.off ha3).off ha3).off ha3).off ha3).up (by simp; omega)
    · repeat (first | with_reducible exact hb3' | with_reducible refine Below.drew ?_ | refine Below.setCell ?_ (by simp; omega) _ | refine Below.setCell ?_ (by simp) _)

set_option maxRecDepth 100000 in
set_option maxHeartbeats 1000000 in
theorem do_ok (dA : Option Addr) (n c : Nat) (fs : List Fl) (cap left l : Int) (down : Bool) (op : Int) (file b : ByteArray) (k : Int) (w : World)
    (hatt : ∀ wx, Below w.heap.size w wx → Calls Tryz.prog 34 #[.agg #[.slice dA n c, .int .i64 cap, .int .i64 left, .bool down], .agg #[.int .i8 op, .string file, .string b, .int .i64 k]] wx (AttOk fs cap l wx)) :
    Calls Tryz.prog 18 #[.agg #[.slice dA n c, .int .i64 cap, .int .i64 left, .bool down], .agg #[.int .i8 op, .string file, .string b, .int .i64 k]] w (DiskRes fs cap l false 0 w) := by
  have HATT := Lib.hid hatt

  clear hatt
  go_enter Tryz.func18, Tryz.ntmps18
  go_wp2_with fail
  have hvs := new3 w #[.slice dA n c, .int .i64 cap, .int .i64 left, .bool down] #[.int .i8 op, .string file, .string b, .int .i64 k] #[.slice none 0 0, .int .i64 0, .int .i64 0, .bool false] 24 50 24
  have hbs := bel3 w #[.slice dA n c, .int .i64 cap, .int .i64 left, .bool down] #[.int .i8 op, .string file, .string b, .int .i64 k] #[.slice none 0 0, .int .i64 0, .int .i64 0, .bool false] 24 50 24
  refine (HATT.out _ hbs).mono ?_
  rintro e w1 ⟨A1, m1, c1, rfl, hl1, hs1, hnc, hb1⟩
  have HL := Lib.hid hl1
  have v3 := Var.below hvs.2.2 hb1 (by simp)
  have hb1' : Below w.heap.size w w1 := hbs.trans (hb1.mono (by simp; omega))
  have hz1 : w.heap.size + 3 ≤ w1.heap.size := by have := hb1.size; simp at this; omega
  have ha3 := seen_apart hs1 v3 disk_noText
  clear hvs hbs hb1 hl1
  go_wp2_with fail
  refine (as_nil _ _).mono ?_
  rintro e w2 ⟨rfl, rfl⟩
  go_wp2_with fail
  refine (as_nil _ _).mono ?_
  rintro e w2 ⟨rfl, rfl⟩
  have hvs := new3 w1 #[.slice A1 m1 c1, .int .i64 cap, .int .i64 l, .bool false] #[.nilIface, .slice none 0 0, .int .i64 0, .int .i64 0, .bool false] #[.int .i64 0] 24 72 34
  have hbs := bel3 w1 #[.slice A1 m1 c1, .int .i64 cap, .int .i64 l, .bool false] #[.nilIface, .slice none 0 0, .int .i64 0, .int .i64 0, .bool false] #[.int .i64 0] 24 72 34
  obtain ⟨w2, hw2⟩ : ∃ w2, w2 = ((w1.alloc (.cells #[.slice A1 m1 c1, .int .i64 cap, .int .i64 l, .bool false] 24)).alloc (.cells #[.nilIface, .slice none 0 0, .int .i64 0, .int .i64 0, .bool false] 72)).alloc (.cells #[.int .i64 0] 34) := ⟨_, rfl⟩
  rw [← hw2] at hvs hbs ⊢
  have v3' := Var.below v3 hbs (by omega)
  have hs2 := hs1.below hbs
  have hz2 := hbs.size
  have hb2' : Below w.heap.size w w2 := hb1'.trans (hbs.mono (by omega))
  have ha2 := seen_apart hs2 v3' disk_noText
  obtain ⟨d0, d1, d2, d3, f1⟩ := hvs.1.cells4
  obtain ⟨e0, e1, e2, e3, f3⟩ := v3'.cells4
  clear hvs hbs hw2 ha3
  go_wp2
  refine bodyPost_ret (v := .tuple #[.agg #[.slice A1 m1 c1, .int .i64 cap, .int .i64 l, .bool false], .int .i64 0]) (by simp [results, Tryz.results18, go_sem, e0, e1, e2, e3]) rfl ⟨A1, m1, c1, rfl, HL.out, ?_, hnc, ?_⟩
  · exact ((((hs2.off ha2).off ha2).off ha2).off ha2).up (by simp; omega)
  · repeat (first | with_reducible exact hb2' | with_reducible refine Below.drew ?_ | refine Below.setCell ?_ (by simp; omega) _ | refine Below.setCell ?_ (by simp) _)

theorem cat_size (a b : ByteArray) : (a ++ b).size = a.size + b.size := ByteArray.size_append
theorem cut_size (a : ByteArray) (k : Nat) : (a.extract 0 k).size ≤ a.size := by rw [ByteArray.size_extract]; omega
theorem changed_name (f : Fl) (w : Wr) : (changed f w).n = f.n := by
  unfold changed
  repeat (first | rfl | split)
theorem changed_size (f : Fl) (w : Wr) : (changed f w).b.size ≤ f.b.size + w.b.size := by
  unfold changed
  split
  · simp only [cat_size]; omega
  · split
    · simp only; omega
    · split
      · simp only; omega
      · split
        · have := cut_size f.b w.n.toNat; simp only; omega
        · have : none_.size = 0 := rfl
          simp only [this]; omega

/-- Do is what the plain words say. -/
theorem do_any (A : Option Addr) (n c B : Nat) (fs fs' : List Fl) (cap left cap' left' : Int) (down down' : Bool) (op : Int) (file b : ByteArray) (k r : Int) (w : World) (hG : Glob w) (hn : fs.length = n) (hs : Seen w B A (fcells fs)) (hB : B ≤ w.heap.size) (hsm : Small fs)
    (hf : file.size ≤ 9223372036854775807) (hbb : b.size ≤ 300000) (hlb : left ≤ 9223372036854775807) (hlb' : -9223372036854775808 ≤ left)
    (hr : does ⟨fs, cap, left, down⟩ ⟨op, file, b, k⟩ = (⟨fs', cap', left', down'⟩, r)) :
    Calls Tryz.prog 18 #[.agg #[.slice A n c, .int .i64 cap, .int .i64 left, .bool down], .agg #[.int .i8 op, .string file, .string b, .int .i64 k]] w (DiskRes fs' cap' left' down' r w) := by
  have hsx : ∀ wx, Below w.heap.size w wx → Seen wx B A (fcells fs) ∧ B ≤ wx.heap.size := fun wx hb => ⟨hs.below (hb.mono hB), Nat.le_trans hB hb.size⟩
  unfold does at hr
  cases hc : check ⟨fs, cap, left, down⟩
  · rw [if_pos (.inl hc)] at hr
    simp only [noDisk, Prod.mk.injEq, Dk.mk.injEq] at hr
    obtain ⟨⟨rfl, rfl, rfl, rfl⟩, rfl⟩ := hr
    exact do_err A n c cap left down op file b k 2 w hG fun wx hb => att_invalid A n c B fs cap left down op file b k wx hn (hsx wx hb).1 (hsx wx hb).2 hsm hc
  cases hop : isOp ⟨op, file, b, k⟩
  · rw [if_pos (.inr hop)] at hr
    simp only [noDisk, Prod.mk.injEq, Dk.mk.injEq] at hr
    obtain ⟨⟨rfl, rfl, rfl, rfl⟩, rfl⟩ := hr
    exact do_err A n c cap left down op file b k 2 w hG fun wx hb => att_noop A n c B fs cap left down op file b k wx hn (hsx wx hb).1 (hsx wx hb).2 hc hf hop
  rw [if_neg (by rw [hc, hop]; simp)] at hr
  cases down with
  | true =>
    rw [if_pos rfl] at hr
    simp only [noDisk, Prod.mk.injEq, Dk.mk.injEq] at hr
    obtain ⟨⟨rfl, rfl, rfl, rfl⟩, rfl⟩ := hr
    exact do_err A n c cap left true op file b k 30 w hG fun wx hb => att_down A n c B fs cap left true op file b k wx hn (hsx wx hb).1 (hsx wx hb).2 hc hf hop rfl
  | false =>
    rw [if_neg (by simp)] at hr
    by_cases hl : left = 0
    · rw [if_pos hl] at hr
      subst hl
      simp only [Prod.mk.injEq, Dk.mk.injEq] at hr
      obtain ⟨⟨rfl, rfl, rfl, rfl⟩, rfl⟩ := hr
      exact do_fall A n c fs cap 0 false op file b k w hG hn fun wx hb => att_fall A n c B fs cap 0 false op file b k wx hn (hsx wx hb).1 (hsx wx hb).2 hc hf hop rfl rfl
    · rw [if_neg hl] at hr
      unfold done at hr
      obtain ⟨fn, fb, s, th, hg⟩ := getRes_of fs file
      have hgd := hg.getD
      simp only [hgd] at hr
      obtain ⟨hnm, hk0, hways⟩ := isOp_ways hop
      have hfl := okName_le hnm
      have hfb : fb.size ≤ 65536 := by
        rcases hg with ⟨_, h⟩ | ⟨_, _, _, h, _⟩
        · have hm := List.mem_of_find?_eq_some h
          have h1 := used_le hm
          obtain ⟨_, _, h3, h4, _⟩ := check_parts hc
          simp only at h1 h3 h4
          omega
        · rw [h]; decide
      obtain ⟨gn, gb, gs, hch⟩ : ∃ gn gb gs, changed ⟨file, fb, s⟩ ⟨op, file, b, k⟩ = ⟨gn, gb, gs⟩ := ⟨_, _, _, rfl⟩
      have hgn : gn = file := by have := changed_name ⟨file, fb, s⟩ ⟨op, file, b, k⟩; rw [hch] at this; exact this
      have hgb : gb.size ≤ 400000 := by
        have := changed_size ⟨file, fb, s⟩ ⟨op, file, b, k⟩
        rw [hch] at this
        simp only at this
        omega
      rw [hch] at hr
      have hput : (k : Int) ≤ fb.size → (∀ wx, Below w.heap.size w wx → Calls Tryz.prog 34 #[.agg #[.slice A n c, .int .i64 cap, .int .i64 left, .bool false], .agg #[.int .i8 op, .string file, .string b, .int .i64 k]] wx (AttPut (put fs ⟨gn, gb, gs⟩) cap left wx)) →
          (if 64 < (put fs ⟨gn, gb, gs⟩).length then (noDisk, 3) else if cap < (used (put fs ⟨gn, gb, gs⟩) : Int) then (noDisk, 31) else ((⟨put fs ⟨gn, gb, gs⟩, cap, if 0 < left then left - 1 else left, false⟩ : Dk), (0 : Int))) = (⟨fs', cap', left', down'⟩, r) →
          Calls Tryz.prog 18 #[.agg #[.slice A n c, .int .i64 cap, .int .i64 left, .bool false], .agg #[.int .i8 op, .string file, .string b, .int .i64 k]] w (DiskRes fs' cap' left' down' r w) := by
        intro _ hatt hr
        by_cases h64 : 64 < (put fs ⟨gn, gb, gs⟩).length
        · rw [if_pos h64] at hr
          simp only [noDisk, Prod.mk.injEq, Dk.mk.injEq] at hr
          obtain ⟨⟨rfl, rfl, rfl, rfl⟩, rfl⟩ := hr
          refine do_err A n c cap left false op file b k 3 w hG fun wx hb => (hatt wx hb).mono fun e w' h => ?_
          rcases h with ⟨_, h⟩ | ⟨h1, _⟩ | ⟨h1, _⟩
          · exact h
          · omega
          · omega
        · rw [if_neg h64] at hr
          by_cases hfull : cap < (used (put fs ⟨gn, gb, gs⟩) : Int)
          · rw [if_pos hfull] at hr
            simp only [noDisk, Prod.mk.injEq, Dk.mk.injEq] at hr
            obtain ⟨⟨rfl, rfl, rfl, rfl⟩, rfl⟩ := hr
            refine do_err A n c cap left false op file b k 31 w hG fun wx hb => (hatt wx hb).mono fun e w' h => ?_
            rcases h with ⟨h1, _⟩ | ⟨_, _, h⟩ | ⟨_, h1, _⟩
            · omega
            · exact h
            · omega
          · rw [if_neg hfull] at hr
            simp only [Prod.mk.injEq, Dk.mk.injEq] at hr
            obtain ⟨⟨rfl, rfl, rfl, rfl⟩, rfl⟩ := hr
            refine do_ok A n c _ cap left _ false op file b k w fun wx hb => (hatt wx hb).mono fun e w' h => ?_
            rcases h with ⟨h1, _⟩ | ⟨_, h1, _⟩ | ⟨_, _, l, rfl, h⟩
            · omega
            · omega
            · exact h
      rcases hg with ⟨rfl, hget⟩ | ⟨rfl, hget, rfl, rfl, rfl⟩
      · rw [if_neg (by rw [hget]; simp)] at hr
        by_cases hk : (fb.size : Int) < k
        · rw [if_pos hk] at hr
          simp only [noDisk, Prod.mk.injEq, Dk.mk.injEq] at hr
          obtain ⟨⟨rfl, rfl, rfl, rfl⟩, rfl⟩ := hr
          exact do_err A n c cap left false op file b k 2 w hG fun wx hb => att_cut A n c B fs cap left false op file b k wx hn (hsx wx hb).1 (hsx wx hb).2 hc hf fn fb s true hop rfl hl (.inl ⟨rfl, hget⟩) rfl hk
        · rw [if_neg hk] at hr
          exact hput (by omega) (fun wx hb => att_put A n c B fs cap left false op file b k wx hn (hsx wx hb).1 (hsx wx hb).2 hc hf fn fb s true hop rfl hl (.inl ⟨rfl, hget⟩) rfl gn gb gs (by omega) (by omega) (by omega) hgb (by rw [hgn]; omega) hlb hlb' hch) hr
      · by_cases hb0 : b.size = 0
        · rw [if_pos ⟨hget, hb0⟩] at hr
          simp only [noDisk, Prod.mk.injEq, Dk.mk.injEq] at hr
          obtain ⟨⟨rfl, rfl, rfl, rfl⟩, rfl⟩ := hr
          exact do_err A n c cap left false op file b k 32 w hG fun wx hb => att_nofile A n c B fs cap left false op file b k wx hn (hsx wx hb).1 (hsx wx hb).2 hc hf _ _ _ false hop rfl hl (.inr ⟨rfl, hget, rfl, rfl, rfl⟩) rfl hb0
        · have hk00 : k = 0 := by omega
          have hz : (({ data := #[] } : ByteArray).size : Int) = 0 := rfl
          rw [if_neg (fun h => hb0 h.2), if_neg (by rw [hz]; omega)] at hr
          exact hput (by rw [hz]; omega) (fun wx hb => att_made A n c B fs cap left false op file b k wx hn (hsx wx hb).1 (hsx wx hb).2 hc hf _ _ _ false hop rfl hl (.inr ⟨rfl, hget, rfl, rfl, rfl⟩) rfl (by omega) gn gb gs (by rw [hz]; omega) (by omega) (by omega) hgb (by rw [hgn]; omega) hlb hlb' hch) hr

end Go.Proofs.YtpppeadmhfggkaaGreatDoor
