/-
  Contracts of file's Put and Mend: what each returns and what it does to memory. Conditions: those that each theorem names.
-/
import Derived.Test.YtpppeadmhfggkaaGreatDoorFilDo
import Derived.Test.YtpppeadmhfggkaaGreatDoorFilBytes
import Derived.Test.YtpppeadmhfggkaaGreatDoorFilLoads
namespace Go.Proofs.YtpppeadmhfggkaaGreatDoor
open Go.RowKit DP

/-- A result's disk stored, an error beside it. -/
theorem FileRes.store {d : Dk} {x : Flt} {w w6 : World} {A : Option Addr} {m c g : Nat} {ev : Value} {o0 o1 o2 o3 : Value} (hl : d.fs.length = m) (hs : Seen w6 w6.heap.size A (fcells d.fs)) (hc : m ≤ c) (hx : FltV w6 ev x) (hv : Var w6 g 24 #[o0, o1, o2, o3])
    (ho : ∀ (i : Nat) (s : ByteArray), (#[o0, o1, o2, o3] : Array Value)[i]? ≠ some (Value.string s)) (hg : w.heap.size ≤ g) (hb : Below w.heap.size w w6) :
    FileRes d x w (.returned (.tuple #[.agg #[.slice A m c, .int .i64 d.cap, .int .i64 d.left, .bool d.down], ev])) ((((w6.setCell ⟨g, 0, none⟩ (.slice A m c)).setCell ⟨g, 1, none⟩ (.int .i64 d.cap)).setCell ⟨g, 2, none⟩ (.int .i64 d.left)).setCell ⟨g, 3, none⟩ (.bool d.down)) :=
  have ha := seen_apart hs hv ho
  ⟨A, m, c, ev, rfl, hl, ((((hs.off ha).off ha).off ha).off ha).up (by simp), hc, hx.off4 hv, hb.trans (set4_below hg)⟩

set_option maxRecDepth 100000 in
set_option maxHeartbeats 1000000 in
theorem fput_any (A LA : Option Addr) (n c B ln lc LB : Nat) (fs : List Fl) (cap left : Int) (down : Bool) (name : ByteArray) (ls : List (List UInt8)) (d' : Dk) (x : Flt) (w : World) (hG : Glob w) (hn : fs.length = n) (hs : Seen w B A (fcells fs)) (hB : B ≤ w.heap.size) (hmild : Mild ⟨fs, cap, left, down⟩)
    (hname : name.size ≤ 9223372036854775807) (hl : ls.length = ln) (hln : ln ≤ 100) (hsz : ∀ x ∈ ls, x.length ≤ 140737488351232) (hls : Seen w LB LA (strs ls)) (hLB : LB ≤ w.heap.size) (hr : puts ⟨fs, cap, left, down⟩ name ls = (d', x)) :
    Calls Tryz.prog 13 #[.agg #[.slice A n c, .int .i64 cap, .int .i64 left, .bool down], .string name, .slice LA ln lc] w (FileRes d' x w) := by
  have HN := Lib.hid hn
  have HL := Lib.hid hl
  have HR := Lib.hid hr
  have HG := Lib.hid hG
  have HSZ := Lib.hid hsz
  clear hn hl hr hG hsz
  have hfl : (flatS ls).size ≤ 300000 := by have := flatS_size ls; rw [HL.out] at this; omega
  go_enter Tryz.func13, Tryz.ntmps13
  go_wp2_with fail
  have hvs := new2 w #[.slice A n c, .int .i64 cap, .int .i64 left, .bool down] #[.slice none 0 0, .int .i64 0, .int .i64 0, .bool false] 24 24
  have hbs := bel2 w #[.slice A n c, .int .i64 cap, .int .i64 left, .bool down] #[.slice none 0 0, .int .i64 0, .int .i64 0, .bool false] 24 24
  refine (fbytes_any LA ln lc LB ls _ HL.out hln HSZ.out (hls.below (hbs.mono hLB)) (by simp; omega)).mono ?_
  rintro e w1 ⟨rfl, hb1⟩
  have hb1' : Below w.heap.size w w1 := hbs.trans (hb1.mono (by simp; omega))
  have v3 := Var.below hvs.1 hb1 (by simp; omega)
  have v6 := Var.below hvs.2 hb1 (by simp)
  have l3 := v3.lt
  have l6 := v6.lt
  have hs1 := hs.below (hb1'.mono hB)
  have HFL := Lib.hid hfl
  obtain ⟨d0, d1, d2, d3, f3⟩ := v3.cells4
  clear hvs hbs hb1 hfl
  go_wp2_with fail
  have hbo := bel1 w1 #[.int .i8 0, .string name, .string (flatS ls), .int .i64 0, .int .i8 1, .string name, .string { data := #[] }, .int .i64 0] 50
  have hso : Seen (w1.alloc (.cells #[.int .i8 0, .string name, .string (flatS ls), .int .i64 0, .int .i8 1, .string name, .string { data := #[] }, .int .i64 0] 50)) (w1.heap.size + 1) (some ⟨w1.heap.size, 0, none⟩) (wcells [⟨0, name, flatS ls, 0⟩, ⟨1, name, none_, 0⟩]) :=
    Seen.new w1 [.int .i8 0, .string name, .string (flatS ls), .int .i64 0, .int .i8 1, .string name, .string { data := #[] }, .int .i64 0] 50
  refine (fdo_any A (some ⟨w1.heap.size, 0, none⟩) n c B 2 2 (w1.heap.size + 1) fs cap left down _ d' x _ (HG.out.next (hb1'.trans (hbo.mono hb1'.size))) HN.out (hs1.below (hbo.mono (Nat.le_trans hB hb1'.size))) (by simp; have := hb1'.size; omega) hmild rfl hso (by simp) (by omega) ?_ HR.out).mono ?_
  · intro y hy
    simp only [List.mem_cons, List.not_mem_nil, or_false] at hy
    rcases hy with rfl | rfl
    · exact ⟨HFL.out, hname⟩
    · exact ⟨by simp only; show (0 : Nat) ≤ _; omega, hname⟩
  rintro e w2 ⟨A2, m2, c2, ev, rfl, hl2, hs2, hc2, hev, hb2⟩
  have v6' := Var.below (Var.below v6 hbo (by omega)) hb2 (by simp; omega)
  have hb2' : Below w.heap.size w w2 := (hb1'.trans (hbo.mono hb1'.size)).trans (hb2.mono (by simp; have := hb1'.size; omega))
  have hfin := FileRes.store (w := w) hl2 hs2 hc2 hev v6' disk_noText (by omega) hb2'
  obtain ⟨e0, e1, e2, e3, f6⟩ := v6'.cells4
  have HFIN := Lib.hid hfin
  clear hfin d0 d1 d2 d3 f3 hbo hso hs1 hs2 hev hb2 hb2' hl2 v3 v6 v6'
  go_wp2
  exact bodyPost_ret (by simp [results, Tryz.results13, go_sem, e0, e1, e2, e3]) rfl HFIN.out

/-! ### an operation appended to no slice -/
theorem write_info : ∃ i z, Tryz.prog.info? 50 = some i ∧ i.zero = some z ∧ i.size = 4 ∧ i.bytes = 48 ∧ z.cells.size = 4 := by
  obtain ⟨i, hi, hz, hs, hb⟩ := info_parts (by kernel_rfl : (Tryz.prog.info? 50).map (fun i => (i.zero, i.size, i.bytes)) = some (some (.agg #[.int .i8 0, .string { data := #[] }, .string { data := #[] }, .int .i64 0]), 4, 48))
  exact ⟨i, _, hi, hz, hs, hb, rfl⟩
theorem append_op (w : World) (ty : TypeId) (a2 : Addr) (x : Wr) (hc2 : ∀ j u, (wcells [x])[j]? = some u → w.cell? (a2.add j) = some u) :
    ∃ A' c' w', (Builtin.append_ #[25, 25] ty #[.slice none 0 0, .slice (some a2) 1 1]).run Tryz.prog w = .ok (.slice A' 1 c') w' ∧ Seen w' w'.heap.size A' (wcells [x]) ∧ Below w.heap.size w w' := by
  obtain ⟨i, z, hi, hz, hsz, hby, hzs⟩ := write_info
  have hrun := run_append_nil (P := Tryz.prog) w 25 ty _ i z Tryz.underlying25 hi hz a2 1 1 (wcells [x]) (by rw [hsz]; rfl) hc2 (by omega) (by decide) (by rw [hby]; omega)
  refine ⟨_, _, _, hrun, fun _ => ⟨w.heap.size, 0, rfl, by simp, fun j u hu => ?_⟩, (Below.refl _ _).drew.alloc (Nat.le_refl _) _⟩
  have hj : j < (wcells [x]).length := (List.getElem?_eq_some_iff.1 hu).1
  have hv := Var.new w.drew ((wcells [x]).toArray ++ Builtin.zeroCells z.cells (grownCap w 1 0 50 - 1)) 50
  rw [Nat.zero_add]
  exact hv.cell j (by rw [Array.getElem?_append_left (by simpa using hj)]; simpa using hu)

set_option maxRecDepth 100000 in
set_option maxHeartbeats 2000000 in
theorem fmend_any (A : Option Addr) (n c B : Nat) (fs : List Fl) (cap left : Int) (down : Bool) (name : ByteArray) (d' : Dk) (x : Flt) (w : World) (hG : Glob w) (hn : fs.length = n) (hs : Seen w B A (fcells fs)) (hB : B ≤ w.heap.size) (hmild : Mild ⟨fs, cap, left, down⟩)
    (hname : name.size ≤ 9223372036854775807) (hr : mends ⟨fs, cap, left, down⟩ name = (d', x)) :
    Calls Tryz.prog 15 #[.agg #[.slice A n c, .int .i64 cap, .int .i64 left, .bool down], .string name] w (FileRes d' x w) := by
  obtain ⟨t, ht⟩ : ∃ t, t = tornIn ⟨fs, cap, left, down⟩ name := ⟨_, rfl⟩
  have hfl := fun W h1 h2 => floads_any A n c B fs cap left down name W hn h1 h2 hmild.1
  rw [← ht] at hfl
  have htl := torn_size ⟨fs, cap, left, down⟩ name
  have hbz := mild_bytes hmild name
  rw [← ht] at htl
  unfold mends mendOps at hr
  rw [← ht] at hr
  have h100 : n ≤ 100 := by rw [← hn]; exact hmild.1.1
  have HFL := Lib.hid hfl
  have HN := Lib.hid hn
  have HR := Lib.hid hr
  have HG := Lib.hid hG
  have HT := Lib.hid ht
  clear hfl hn hr hG ht
  go_enter Tryz.func15, Tryz.ntmps15
  go_wp2_with fail
  have hvs := new2 w #[.slice A n c, .int .i64 cap, .int .i64 left, .bool down] #[.slice none 0 0, .int .i64 0, .int .i64 0, .bool false] 24 24
  have hbs := bel2 w #[.slice A n c, .int .i64 cap, .int .i64 left, .bool down] #[.slice none 0 0, .int .i64 0, .int .i64 0, .bool false] 24 24
  refine (HFL.out _ (hs.below (hbs.mono hB)) (by simp; omega)).mono ?_
  rintro e w1 ⟨LA, ln, lc, rfl, _, _, _, hb1⟩
  have hb1' : Below w.heap.size w w1 := hbs.trans (hb1.mono (by simp; omega))
  have v2 := Var.below hvs.1 hb1 (by simp; omega)
  have v4 := Var.below hvs.2 hb1 (by simp)
  have l2 := v2.lt
  have l4 := v4.lt
  have hs1 := hs.below (hb1'.mono hB)
  have hz1 := hb1'.size
  obtain ⟨d0, d1, d2, d3, f2⟩ := v2.cells4
  clear hvs hbs hb1
  by_cases h0 : t = 0
  · subst h0
    have hr' := HR.out
    rw [if_pos rfl] at hr'
    have HR' := Lib.hid hr'
    clear hr'
    go_wp2_with fail
    refine (fdo_any A none n c B 0 0 0 fs cap left down [] d' x _ (HG.out.next hb1') HN.out hs1 (by omega) hmild rfl (Seen.nil _ _ _) (by omega) (by omega) (by simp) HR'.out).mono ?_
    rintro e w2 ⟨A2, m2, c2, ev, rfl, hl2, hs2, hc2, hev, hb2⟩
    have v4' := Var.below v4 hb2 (by omega)
    have hb2' : Below w.heap.size w w2 := hb1'.trans (hb2.mono hz1)
    have hfin := FileRes.store (w := w) hl2 hs2 hc2 hev v4' disk_noText (by omega) hb2'
    obtain ⟨e0, e1, e2, e3, f6⟩ := v4'.cells4
    have HFIN := Lib.hid hfin
    clear hfin d0 d1 d2 d3 f2 hs1 hs2 hev hb2 hb2' hl2 v2 v4 v4'
    go_wp2
    exact bodyPost_ret (by simp [results, Tryz.results15, go_sem, e0, e1, e2, e3]) rfl HFIN.out
  · have hr' := HR.out
    rw [if_neg h0] at hr'
    have ht0 : 0 < t := by omega
    obtain ⟨fn, fb, s, th, hg⟩ := getRes_of fs name
    have hfb := bytesIn_res (cap := cap) (left := left) (down := down) hg
    rw [hfb] at hr' htl hbz
    have HR' := Lib.hid hr'
    have HGT := Lib.hid hg
    clear hr' hg hfb h0
    go_wp2_with fail
    refine (get_any A n c B fs cap left down name fn fb s th _ HGT.out HN.out hs1 (by omega) h100).mono ?_
    rintro e w2 ⟨rfl, hb2⟩
    have hb2' : Below w.heap.size w w2 := hb1'.trans (hb2.mono hz1)
    have hz2 := hb2'.size
    have v2' := Var.below v2 hb2 l2
    have v4' := Var.below v4 hb2 l4
    have l2' := v2'.lt
    have l4' := v4'.lt
    clear d0 d1 d2 d3 f2 v2 v4 l2 l4
    obtain ⟨w3, hw3⟩ : ∃ w3, w3 = (w2.alloc (.cells #[.string fn, .string fb, .int .i64 s] 48)).alloc (.cells #[.int .i8 3, .string name, .string { data := #[] }, .int .i64 ((fb.size : Int) - (t : Int))] 50) := ⟨_, rfl⟩
    have hsv : Var w3 (w2.heap.size + 1) 50 #[.int .i8 3, .string name, .string { data := #[] }, .int .i64 ((fb.size : Int) - (t : Int))] := by rw [hw3]; exact (new2 w2 _ _ _ _).2
    have hb3 : Below w2.heap.size w2 w3 := by rw [hw3]; exact bel2 w2 _ _ _ _
    obtain ⟨A4, c4, w4, hrun, hs4, hb4⟩ := append_op w3 25 ⟨w2.heap.size + 1, 0, none⟩ ⟨3, name, none_, (fb.size : Int) - (t : Int)⟩ (fun j u hu => by rw [plain_add, Nat.zero_add]; exact hsv.cell j (by rw [← hu]; simp [wcells]; rfl))
    have hb4' : Below w2.heap.size w2 w4 := hb3.trans (hb4.mono hb3.size)
    have hz4 := hb4'.size
    have hbw4 : Below w.heap.size w w4 := hb2'.trans (hb4'.mono hz2)
    have v2'' := Var.below v2' hb4' l2'
    have v4'' := Var.below v4' hb4' l4'
    have l4'' := v4''.lt
    have hs4' := hs1.below ((hb2.mono (Nat.le_trans hB hz1)).trans (hb4'.mono (Nat.le_trans hB hz2)))
    rw [hw3] at hrun
    clear hw3 hsv hb3 hb4
    obtain ⟨d0, d1, d2, d3, f2⟩ := v2''.cells4
    go_wp2_with (at_builtin; refine wpList_append_run rfl (.tmp 25) (.tmp 33) 25 rfl _ _ _ _ rfl rfl hrun ?_)
    refine (fdo_any A A4 n c B 1 c4 w4.heap.size fs cap left down _ d' x _ (HG.out.next hbw4) HN.out hs4' (by omega) hmild rfl hs4 (by omega) (by omega) ?_ HR'.out).mono ?_
    · intro y hy
      rw [List.mem_singleton] at hy
      subst hy
      exact ⟨by simp only; show (0 : Nat) ≤ _; omega, hname⟩
    rintro e w5 ⟨A2, m2, c2, ev, rfl, hl2, hs2, hc2, hev, hb5⟩
    have v6 := Var.below v4'' hb5 (by omega)
    have hb5' : Below w.heap.size w w5 := hbw4.trans (hb5.mono hbw4.size)
    have hfin := FileRes.store (w := w) hl2 hs2 hc2 hev v6 disk_noText (by omega) hb5'
    obtain ⟨e0, e1, e2, e3, f6⟩ := v6.cells4
    have HFIN := Lib.hid hfin
    clear hfin d0 d1 d2 d3 f2 hs1 hs2 hev hb5 hb5' hl2 v2' v4' v2'' v4'' v6 hrun
    go_wp2
    exact bodyPost_ret (by simp [results, Tryz.results15, go_sem, e0, e1, e2, e3]) rfl HFIN.out
end Go.Proofs.YtpppeadmhfggkaaGreatDoor
