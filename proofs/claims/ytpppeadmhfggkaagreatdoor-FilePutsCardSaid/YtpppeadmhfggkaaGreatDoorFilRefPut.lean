/-
  Contracts of the reference's Put and Mend: what each returns and what it does to memory. Conditions: those that each theorem names.
-/
import Derived.Test.YtpppeadmhfggkaaGreatDoorFilRefDo
namespace Go.Proofs.YtpppeadmhfggkaaGreatDoor
open Go.RowKit DP

/-- No bytes are put: that is refused, whatever the disk. -/
theorem puts_none {d : Dk} {name : ByteArray} {ls : List (List UInt8)} (h : flatS ls = none_) : puts d name ls = (d, some (0, name, 2)) := by
  unfold puts
  rw [h]
  have hd : does d ⟨0, name, none_, 0⟩ = (noDisk, 2) := by
    unfold does
    refine if_pos (.inr ?_)
    simp [isOp, none_]
    intro _
    rfl
  exact doAll_no hd (by omega) (by omega)

set_option maxRecDepth 100000 in
set_option maxHeartbeats 1000000 in
theorem rfput_any (A LA : Option Addr) (n c B ln lc LB : Nat) (fs : List Fl) (cap left : Int) (down : Bool) (name : ByteArray) (ls : List (List UInt8)) (d' : Dk) (x : Flt) (w : World) (hn : fs.length = n) (hnc : n ≤ c) (hs : Seen w B A (fcells fs)) (hB : B ≤ w.heap.size) (hmild : Mild ⟨fs, cap, left, down⟩)
    (hname : name.size ≤ 9223372036854775807) (hl : ls.length = ln) (hln : ln ≤ 100) (hsz : ∀ x ∈ ls, x.length ≤ 140737488351232) (hls : Seen w LB LA (strs ls)) (hLB : LB ≤ w.heap.size) (hr : puts ⟨fs, cap, left, down⟩ name ls = (d', x)) :
    Calls Tryz.prog 14 #[.agg #[.slice A n c, .int .i64 cap, .int .i64 left, .bool down], .string name, .slice LA ln lc] w (RefRes d' x w) := by
  have HN := Lib.hid hn
  have HNC := Lib.hid hnc
  have HL := Lib.hid hl
  have HR := Lib.hid hr
  have HSZ := Lib.hid hsz
  have hfl : (flatS ls).size ≤ 300000 := by have := flatS_size ls; rw [HL.out] at this; omega
  have HFL := Lib.hid hfl
  have hz : (flatE ls = 2 ∨ ls = []) → (d', x) = (⟨fs, cap, left, down⟩, some (0, name, 2)) := fun h => by
    rw [← HR.out]
    refine puts_none ?_
    rcases h with h | rfl
    · cases hf : fits ls with
      | true => rw [flatE_yes hf] at h; omega
      | false => exact flatS_no hf
    · rfl
  have HZ := Lib.hid hz
  have HM := Lib.hid hmild
  clear hn hl hr hsz hfl hz hmild hnc
  go_enter Tryz.func14, Tryz.ntmps14
  go_wp2_with fail
  have hvs := new2 w #[.slice A n c, .int .i64 cap, .int .i64 left, .bool down] #[.slice none 0 0, .int .i64 0, .int .i64 0, .bool false] 24 24
  have hbs := bel2 w #[.slice A n c, .int .i64 cap, .int .i64 left, .bool down] #[.slice none 0 0, .int .i64 0, .int .i64 0, .bool false] 24 24
  refine (rfbytes_any LA ln lc LB ls _ HL.out hln HSZ.out (hls.below (hbs.mono hLB))).mono ?_
  rintro e w1 ⟨rfl, hb1⟩
  have hb1' : Below w.heap.size w w1 := hbs.trans (hb1.mono (by simp; omega))
  have v3 := Var.below hvs.1 hb1 (by simp; omega)
  have v6 := Var.below hvs.2 hb1 (by simp)
  have l3 := v3.lt
  have l6 := v6.lt
  have hs1 := hs.below (hb1'.mono hB)
  have hz1 := hb1'.size
  obtain ⟨d0, d1, d2, d3, f3⟩ := v3.cells4
  clear hvs hbs hb1
  by_cases hbad : flatE ls = 2 ∨ ls = []
  · have hq := HZ.out hbad
    simp only [Prod.mk.injEq] at hq
    obtain ⟨rfl, rfl⟩ := hq
    have hfin : RefRes ⟨fs, cap, left, down⟩ (some (0, name, 2)) w (.returned (.tuple #[.agg #[.slice A n c, .int .i64 cap, .int .i64 left, .bool down], .int .i8 0, .string name, .int .i64 2])) _ :=
      RefRes.store (d := ⟨fs, cap, left, down⟩) (x := some (0, name, 2)) (g := w.heap.size + 1) HN.out (hs1.up (Nat.le_trans hB hz1)) HNC.out v6 disk_noText (by omega) hb1'
    obtain ⟨e0, e1, e2, e3, f6⟩ := v6.cells4
    have HFIN := Lib.hid hfin
    clear hfin hs1 v3 v6
    by_cases h2 : flatE ls = 2
    · have hd2 : (flatE ls != 0) = true := by rw [h2]; rfl
      clear h2 hbad
      go_wp2
      exact bodyPost_ret (by simp [results, Tryz.results14, go_sem, e0, e1, e2, e3]) rfl HFIN.out
    · have hnil : ls = [] := hbad.resolve_left h2
      subst hnil
      obtain rfl : 0 = ln := HL.out
      have hd2 : (flatE [] != 0) = false := rfl
      clear h2 hbad
      go_wp2
      exact bodyPost_ret (by simp [results, Tryz.results14, go_sem, e0, e1, e2, e3]) rfl HFIN.out
  · have h0 : flatE ls = 0 := by
      cases hf : fits ls with
      | true => exact flatE_yes hf
      | false => exact absurd (.inl (flatE_no hf)) hbad
    have hd2 : (flatE ls != 0) = false := by rw [h0]; rfl
    have hl0 : ln ≠ 0 := fun h => hbad (.inr (List.eq_nil_of_length_eq_zero (by rw [HL.out]; exact h)))
    have hd3 : ((ln : Int) == 0) = false := by simp; omega
    clear hbad h0
    go_wp2_with fail
    have hbo := bel1 w1 #[.int .i8 0, .string name, .string (flatS ls), .int .i64 0, .int .i8 1, .string name, .string { data := #[] }, .int .i64 0] 50
    have hso : Seen (w1.alloc (.cells #[.int .i8 0, .string name, .string (flatS ls), .int .i64 0, .int .i8 1, .string name, .string { data := #[] }, .int .i64 0] 50)) (w1.heap.size + 1) (some ⟨w1.heap.size, 0, none⟩) (wcells [⟨0, name, flatS ls, 0⟩, ⟨1, name, none_, 0⟩]) :=
      Seen.new w1 [.int .i8 0, .string name, .string (flatS ls), .int .i64 0, .int .i8 1, .string name, .string { data := #[] }, .int .i64 0] 50
    refine (rfdo_any A (some ⟨w1.heap.size, 0, none⟩) n c B 2 2 (w1.heap.size + 1) fs cap left down _ d' x _ HN.out HNC.out (hs1.below (hbo.mono (Nat.le_trans hB hz1))) (by simp; omega) HM.out rfl hso (by simp) (by omega) ?_ HR.out).mono ?_
    · intro y hy
      simp only [List.mem_cons, List.not_mem_nil, or_false] at hy
      rcases hy with rfl | rfl
      · exact ⟨HFL.out, hname⟩
      · exact ⟨by simp only; show (0 : Nat) ≤ _; omega, hname⟩
    rintro e w2 ⟨A2, m2, c2, rfl, hl2, hs2, hc2, hb2⟩
    have v6' := Var.below (Var.below v6 hbo (by omega)) hb2 (by simp; omega)
    have hb2' : Below w.heap.size w w2 := (hb1'.trans (hbo.mono hz1)).trans (hb2.mono (by simp; omega))
    have hfin := RefRes.store (x := x) (w := w) hl2 hs2 hc2 v6' disk_noText (by omega) hb2'
    obtain ⟨e0, e1, e2, e3, f6⟩ := v6'.cells4
    have HFIN := Lib.hid hfin
    clear hfin d0 d1 d2 d3 f3 hbo hso hs1 hs2 hb2 hb2' hl2 v3 v6 v6'
    go_wp2
    exact bodyPost_ret (by simp [results, Tryz.results14, go_sem, e0, e1, e2, e3]) rfl HFIN.out

set_option maxRecDepth 100000 in
set_option maxHeartbeats 2000000 in
theorem rfmend_any (A : Option Addr) (n c B : Nat) (fs : List Fl) (cap left : Int) (down : Bool) (name : ByteArray) (d' : Dk) (x : Flt) (w : World) (hn : fs.length = n) (hnc : n ≤ c) (hs : Seen w B A (fcells fs)) (hB : B ≤ w.heap.size) (hmild : Mild ⟨fs, cap, left, down⟩)
    (hname : name.size ≤ 9223372036854775807) (hr : mends ⟨fs, cap, left, down⟩ name = (d', x)) :
    Calls Tryz.prog 16 #[.agg #[.slice A n c, .int .i64 cap, .int .i64 left, .bool down], .string name] w (RefRes d' x w) := by
  obtain ⟨t, ht⟩ : ∃ t, t = tornIn ⟨fs, cap, left, down⟩ name := ⟨_, rfl⟩
  have hfl := fun W h1 h2 => rfloads_any A n c B fs cap left down name W hn h1 h2 hmild.1
  rw [← ht] at hfl
  have htl := torn_size ⟨fs, cap, left, down⟩ name
  have hbz := mild_bytes hmild name
  rw [← ht] at htl
  unfold mends mendOps at hr
  rw [← ht] at hr
  have h100 : n ≤ 100 := by rw [← hn]; exact hmild.1.1
  have HFL := Lib.hid hfl
  have HN := Lib.hid hn
  have HR := Lib.hid hr
  have HT := Lib.hid ht
  have HM := Lib.hid hmild
  have HNC := Lib.hid hnc
  clear hfl hn hr ht hmild hnc
  go_enter Tryz.func16, Tryz.ntmps16
  go_wp2_with fail
  have hvs := new2 w #[.slice A n c, .int .i64 cap, .int .i64 left, .bool down] #[.slice none 0 0, .int .i64 0, .int .i64 0, .bool false] 24 24
  have hbs := bel2 w #[.slice A n c, .int .i64 cap, .int .i64 left, .bool down] #[.slice none 0 0, .int .i64 0, .int .i64 0, .bool false] 24 24
  refine (HFL.out _ (hs.below (hbs.mono hB)) (by simp; omega)).mono ?_
  rintro e w1 ⟨LA, ln, lc, rfl, _, _, _, hb1⟩
  have hb1' : Below w.heap.size w w1 := hbs.trans (hb1.mono (by simp; omega))
  have v2 := Var.below hvs.1 hb1 (by simp; omega)
  have v4 := Var.below hvs.2 hb1 (by simp)
  have l2 := v2.lt
  have l4 := v4.lt
  have hs1 := hs.below (hb1'.mono hB)
  have hz1 := hb1'.size
  obtain ⟨d0, d1, d2, d3, f2⟩ := v2.cells4
  clear hvs hbs hb1
  by_cases h0 : t = 0
  · subst h0
    have hr' := HR.out
    rw [if_pos rfl, doAll_nil] at hr'
    simp only [Prod.mk.injEq] at hr'
    obtain ⟨rfl, rfl⟩ := hr'
    have hfin := RefRes.store (d := ⟨fs, cap, left, down⟩) (x := none) (g := w.heap.size + 1) HN.out (hs1.up (Nat.le_trans hB hz1)) HNC.out v4 disk_noText (by omega) hb1'
    obtain ⟨e0, e1, e2, e3, f6⟩ := v4.cells4
    have HFIN := Lib.hid hfin
    clear hfin hs1 v2 v4
    go_wp2
    exact bodyPost_ret (v := .tuple #[.agg #[.slice A n c, .int .i64 cap, .int .i64 left, .bool down], .int .i8 0, .string { data := #[] }, .int .i64 0]) (by simp [results, Tryz.results16, go_sem, e0, e1, e2, e3]) rfl HFIN.out
  · have hr' := HR.out
    rw [if_neg h0] at hr'
    have ht0 : ((t : Int) == 0) = false := by simp; omega
    obtain ⟨fn, fb, s, th, hg⟩ := getRes_of fs name
    have hfb := bytesIn_res (cap := cap) (left := left) (down := down) hg
    rw [hfb] at hr' htl hbz
    have HR' := Lib.hid hr'
    have HGT := Lib.hid hg
    clear hr' hg hfb h0
    go_wp2_with fail
    refine (ref_get_any A n c B fs cap left down name fn fb s th _ HGT.out HN.out hs1 (by omega) h100).mono ?_
    rintro e w2 ⟨rfl, hb2⟩
    have hb2' : Below w.heap.size w w2 := hb1'.trans (hb2.mono hz1)
    have hz2 := hb2'.size
    have v2' := Var.below v2 hb2 l2
    have v4' := Var.below v4 hb2 l4
    clear d0 d1 d2 d3 f2 v2 v4 l2 l4
    go_upto_region 5 with fail
    obtain ⟨W3, hW3⟩ : ∃ W3, W3 = w2.alloc (.cells #[.string fn, .string fb, .int .i64 s] 48) := ⟨_, rfl⟩
    obtain ⟨g9, hg9⟩ : ∃ g9, g9 = w2.heap.size := ⟨_, rfl⟩
    have hbt := bel1 w2 #[.string fn, .string fb, .int .i64 s] 48
    have y3 := new1 w2 #[.string fn, .string fb, .int .i64 s] 48
    rw [← hW3] at hbt y3 ⊢
    rw [← hg9] at y3 ⊢
    have v2 := Var.below v2' hbt v2'.lt
    have v4 := Var.below v4' hbt v4'.lt
    have hb3 := hb2'.trans (hbt.mono hz2)
    have hz3 := hb3.size
    have hs3 := (hs1.below (hb2.mono (Nat.le_trans hB hz1))).below (hbt.mono (Nat.le_trans hB hz2))
    clear hW3 hg9 hbt v2' v4' hb2 hb2' hs1 hb1'
    have l2 := v2.lt
    have l4 := v4.lt
    have l9 := y3.lt
    obtain ⟨d0, d1, d2, d3, f2⟩ := v2.cells4
    obtain ⟨q0, q1, q2, qf⟩ := y3.cells3
    have hsub : (fb.size : Int) - (t : Int) ≤ 9223372036854775807 := by omega
    have hsub' : -9223372036854775808 ≤ (fb.size : Int) - (t : Int) := by omega
    have hso : Seen (W3.alloc (.cells #[.int .i8 3, .string name, .string { data := #[] }, .int .i64 ((fb.size : Int) - (t : Int))] 50)) (W3.heap.size + 1) (some ⟨W3.heap.size, 0, none⟩) (wcells [⟨3, name, none_, (fb.size : Int) - (t : Int)⟩]) :=
      Seen.new W3 [.int .i8 3, .string name, .string { data := #[] }, .int .i64 ((fb.size : Int) - (t : Int))] 50
    have hbo := bel1 W3 #[.int .i8 3, .string name, .string { data := #[] }, .int .i64 ((fb.size : Int) - (t : Int))] 50
    go_wp2_with fail
    refine (rfdo_any A (some ⟨W3.heap.size, 0, none⟩) n c B 1 1 (W3.heap.size + 1) fs cap left down _ d' x _ HN.out HNC.out (hs3.below (hbo.mono (Nat.le_trans hB hz3))) (by simp; omega) HM.out rfl hso (by simp) (by omega) ?_ HR'.out).mono ?_
    · intro y hy
      rw [List.mem_singleton] at hy
      subst hy
      exact ⟨by simp only; show (0 : Nat) ≤ _; omega, hname⟩
    rintro e w5 ⟨A2, m2, c2, rfl, hl2, hs2, hc2, hb5⟩
    have v6 := Var.below (Var.below v4 hbo l4) hb5 (by simp; omega)
    have hb5' : Below w.heap.size w w5 := (hb3.trans (hbo.mono hz3)).trans (hb5.mono (by simp; omega))
    have hfin := RefRes.store (x := x) (w := w) hl2 hs2 hc2 v6 disk_noText (by omega) hb5'
    obtain ⟨e0, e1, e2, e3, f6⟩ := v6.cells4
    have HFIN := Lib.hid hfin
    clear hfin d0 d1 d2 d3 f2 hs2 hb5 hb5' hl2 v2 v4 v6 q0 q1 q2 qf y3 hbo hso
    go_wp2
    exact bodyPost_ret (by simp [results, Tryz.results16, go_sem, e0, e1, e2, e3]) rfl HFIN.out
end Go.Proofs.YtpppeadmhfggkaaGreatDoor
