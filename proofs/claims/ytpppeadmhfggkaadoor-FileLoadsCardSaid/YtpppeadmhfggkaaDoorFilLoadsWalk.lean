/-
  The law FileLoads: its walk. Conditions: those that each theorem names.
-/
import Derived.Test.YtpppeadmhfggkaaDoorFilWakes
import Derived.Test.YtpppeadmhfggkaaDoorFilTexts
namespace Go.Proofs.YtpppeadmhfggkaaDoor
open Go.RowKit DP

section
variable (A LA : Option Addr) (n c ln lc : Nat) (fs : List Fl) (cap left : Int) (down : Bool) (name : ByteArray) (ls : List (List UInt8)) (w : World)

set_option maxRecDepth 100000 in
set_option maxHeartbeats 1000000 in
theorem loads_walk (hn : fs.length = n) (hs : Seen w w.heap.size A (fcells fs)) (hmax : n ≤ 9223372036854775807) (hsz : ∀ f ∈ fs, f.b.size ≤ 9223372036854775807 ∧ f.n.size ≤ 9223372036854775807)
    (hl : ln = ls.length) (hls : Seen w w.heap.size LA (strs ls)) (hlm : ln ≤ 9223372036854775807) (hlz : ∀ x ∈ ls, x.length ≤ 9223372036854775807) (hG : Glob w) :
    Calls Tryd.prog 3 #[.agg #[.slice A n c, .int .i64 cap, .int .i64 left, .bool down], .string name, .slice LA ln lc] w fun e w' => e = .returned (.bool true) ∧ Below w.heap.size w w' := by
  have HN := Lib.hid hn
  have HL := Lib.hid hl
  have HG := Lib.hid hG
  have HLZ := Lib.hid hlz
  have HSZ := Lib.hid hsz
  clear hn hl hG hlz hsz
  have hb0 := bel1 w #[.slice A n c, .int .i64 cap, .int .i64 left, .bool down] 24
  have v0 := new1 w #[.slice A n c, .int .i64 cap, .int .i64 left, .bool down] 24
  -- the ways to wakes alone
  cases hgr : great ⟨fs, cap, left, down⟩ with
  | true =>
    have HGR := Lib.hid hgr
    clear hgr v0
    go_enter Tryd.func3, Tryd.ntmps3
    go_wp2_with fail
    refine (great_any A n c w.heap.size fs cap left down true _ HN.out HGR.out (hs.below hb0) (by simp) hmax HSZ.out).mono ?_
    rintro e w1 ⟨rfl, hb1⟩
    have hb1' := hb0.trans (hb1.mono (by simp))
    go_wp2_with fail
    refine (wakes_any _ (HG.out.next hb1')).mono ?_
    rintro e w2 ⟨rfl, hb2⟩
    have hb2' := hb1'.trans (hb2.mono hb1'.size)
    go_wp2
    go_ret
    exact ⟨rfl, hb2'⟩
  | false =>
    have HGR := Lib.hid hgr
    clear hgr
    by_cases h100 : 100 < ln
    · clear v0
      go_enter Tryd.func3, Tryd.ntmps3
      go_wp2_with fail
      refine (great_any A n c w.heap.size fs cap left down false _ HN.out HGR.out (hs.below hb0) (by simp) hmax HSZ.out).mono ?_
      rintro e w1 ⟨rfl, hb1⟩
      have hb1' := hb0.trans (hb1.mono (by simp))
      go_wp2_with fail
      refine (wakes_any _ (HG.out.next hb1')).mono ?_
      rintro e w2 ⟨rfl, hb2⟩
      have hb2' := hb1'.trans (hb2.mono hb1'.size)
      go_wp2
      go_ret
      exact ⟨rfl, hb2'⟩
    · cases hgl : greatL ls with
      | true =>
        have HGL := Lib.hid hgl
        have hd100 : decide ((100 : Int) < (ln : Int)) = false := decide_eq_false (by omega)
        clear hgl v0 h100
        go_enter Tryd.func3, Tryd.ntmps3
        go_wp2_with fail
        refine (great_any A n c w.heap.size fs cap left down false _ HN.out HGR.out (hs.below hb0) (by simp) hmax HSZ.out).mono ?_
        rintro e w1 ⟨rfl, hb1⟩
        have hb1' := hb0.trans (hb1.mono (by simp))
        go_wp2_with fail
        refine (greatL_any LA ln lc w.heap.size ls true _ HL.out HGL.out (hls.below hb1') hlm HLZ.out).mono ?_
        rintro e w1' ⟨rfl, rfl⟩
        go_wp2_with fail
        refine (wakes_any _ (HG.out.next hb1')).mono ?_
        rintro e w2 ⟨rfl, hb2⟩
        have hb2' := hb1'.trans (hb2.mono hb1'.size)
        go_wp2
        go_ret
        exact ⟨rfl, hb2'⟩
      | false =>
        have HGL := Lib.hid hgl
        have hd100 : decide ((100 : Int) < (ln : Int)) = false := decide_eq_false (by omega)
        have h3000 := greatL_no hgl
        have hlz' : ∀ x ∈ ls, x.length ≤ 140737488351232 := fun x hx => by have := h3000 x hx; omega
        have HLZ' := Lib.hid hlz'
        have hsm := great_small HGR.out
        clear hgl hlz' h3000
        go_enter Tryd.func3, Tryd.ntmps3
        go_wp2_with fail
        refine (great_any A n c w.heap.size fs cap left down false _ HN.out HGR.out (hs.below hb0) (by simp) hmax HSZ.out).mono ?_
        rintro e w1 ⟨rfl, hb1⟩
        have hb1' := hb0.trans (hb1.mono (by simp))
        have v1 := Var.below v0 hb1 (by simp)
        obtain ⟨d0, d1, d2, d3, f0⟩ := v1.cells4
        go_wp2_with fail
        refine (greatL_any LA ln lc w.heap.size ls false _ HL.out HGL.out (hls.below hb1') hlm HLZ.out).mono ?_
        rintro e w1' ⟨rfl, rfl⟩
        clear hb1
        go_wp2_with fail
        refine (floads_any A n c w.heap.size fs cap left down name _ HN.out (hs.below hb1') hb1'.size hsm).mono ?_
        rintro e w3 ⟨A3, n3, c3, rfl, hl3, hs3, hc3, hb3⟩
        have hb3' := hb1'.trans (hb3.mono hb1'.size)
        have v3 := Var.below v1 hb3 v1.lt
        clear d0 d1 d2 d3 f0 v1 v0
        obtain ⟨d0, d1, d2, d3, f0⟩ := v3.cells4
        have HL3 := Lib.hid hl3
        clear hl3 hb3
        go_wp2_with fail
        refine (rfloads_any A n c w.heap.size fs cap left down name _ HN.out (hs.below hb3') hb3'.size hsm).mono ?_
        rintro e w4 ⟨A4, n4, c4, rfl, hl4, hs4, hc4, hb4⟩
        have hb4' := hb3'.trans (hb4.mono hb3'.size)
        have hs3' := (hs3.below hb4)
        have HL4 := Lib.hid hl4
        clear hl4 d0 d1 d2 d3 f0
        go_wp2_with fail
        refine (fbytes_any LA ln lc w.heap.size ls _ HL.out.symm (by omega) HLZ'.out (hls.below hb4') hb4'.size).mono ?_
        rintro e w5 ⟨rfl, hb5⟩
        have hb5' := hb4'.trans (hb5.mono hb4'.size)
        go_wp2_with fail
        refine (rfbytes_any LA ln lc w.heap.size ls _ HL.out.symm (by omega) HLZ'.out (hls.below hb5')).mono ?_
        rintro e w6 ⟨rfl, hb6⟩
        have hb6' := hb5'.trans (hb6.mono hb5'.size)
        have hb46 := hb5.trans (hb6.mono hb5.size)
        have hs3'' := (hs3'.below (hb46.mono hb4.size)).up (Nat.le_trans hb4.size hb46.size)
        have hs4'' := (hs4.below hb46).up hb46.size
        have hrm := rows_most (bytesIn ⟨fs, cap, left, down⟩ name) (m := 400000) (get_small hsm name)
        have hn3 : n3 ≤ 140737488351232 := by rw [← HL3.out]; unfold rowsIn; omega
        have hn4 : n4 ≤ 140737488351232 := by rw [← HL4.out]; unfold rowsIn; omega
        clear hs3 hs3' hs4 hb46 hrm hb3' hb4' hb5' hb4 hb5 hb6 hb1'
        go_wp2_with fail
        refine (texts_any A3 A4 c3 c4 n3 n4 _ _ _ HL3.out.symm HL4.out.symm hs3'' hs4'' hn3 hn4).mono ?_
        rintro e w7 ⟨rfl, q, rfl⟩
        have hb7 : Below w.heap.size w (w6.drewN q) := hb6'.drewN' q
        rw [decide_eq_true rfl]
        have e1 : ((flatS ls).toList == (flatS ls).toList) = true := beq_self_eq_true _
        have e2 : ((flatE ls : Int) == flatE ls) = true := beq_self_eq_true _
        have e3 : (((tornIn ⟨fs, cap, left, down⟩ name : Nat) : Int) == (tornIn ⟨fs, cap, left, down⟩ name : Nat)) = true := beq_self_eq_true _
        go_wp2_with fail
        refine (wakes_any _ (HG.out.next hb7)).mono ?_
        rintro e w8 ⟨rfl, hb8⟩
        have hb8' := hb7.trans (hb8.mono hb7.size)
        go_wp2
        go_ret
        exact ⟨rfl, hb8'⟩
theorem loads_all (hn : fs.length = n) (hs : Seen w w.heap.size A (fcells fs)) (hmax : n ≤ 9223372036854775807) (hsz : ∀ f ∈ fs, f.b.size ≤ 9223372036854775807 ∧ f.n.size ≤ 9223372036854775807)
    (hw : ∃ ls : List (List UInt8), ln = ls.length ∧ Seen w w.heap.size LA (strs ls) ∧ (∀ l ∈ ls, l.length ≤ maxLen) ∧ ln ≤ lc ∧ lc ≤ maxLen) (hG : Glob w) :
    Calls Tryd.prog 3 #[.agg #[.slice A n c, .int .i64 cap, .int .i64 left, .bool down], .string name, .slice LA ln lc] w fun e w' => e = .returned (.bool true) ∧ Below w.heap.size w w' := by
  obtain ⟨ls, h1, h2, h3, h4, h5⟩ := hw
  have hml : maxLen ≤ 9223372036854775807 := by decide
  exact loads_walk A LA n c ln lc fs cap left down name ls w hn hs hmax hsz h1 h2 (Nat.le_trans (Nat.le_trans h4 h5) hml) (fun x hx => Nat.le_trans (h3 x hx) hml) hG
end
end Go.Proofs.YtpppeadmhfggkaaDoor
