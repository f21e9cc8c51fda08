/-
  Contract of file's Do: what it returns and what it does to memory. Conditions: those that each theorem names.
-/
import Derived.Test.YtpppeadmhfggkaaGreatDoorFilAtt
namespace Go.Proofs.YtpppeadmhfggkaaGreatDoor
open Go.RowKit DP

theorem Var.ne {w : World} {a b T T' : Nat} {cs cs' : Array Value} (h : Var w a T cs) (k : Var w b T' cs') (hT : T ≠ T') : a ≠ b := by
  rintro rfl
  unfold Var at h k
  rw [h] at k
  simp at k
  exact hT k.2
theorem FltV.off {w : World} {ev : Value} {x : Flt} {g i : Nat} {cs : Array Value} {u : Value} (h : FltV w ev x) (v : Var w g 24 cs) : FltV (w.setCell ⟨g, i, none⟩ u) ev x := by
  cases x with
  | none => exact h
  | some y =>
    obtain ⟨b, h1, h2⟩ := h
    exact ⟨b, h1, Var.other h2 _ _ (Var.ne h2 v (by decide))⟩
theorem FltV.off4 {w : World} {ev : Value} {x : Flt} {g : Nat} {cs : Array Value} {a b c e : Value} (h : FltV w ev x) (v : Var w g 24 cs) :
    FltV ((((w.setCell ⟨g, 0, none⟩ a).setCell ⟨g, 1, none⟩ b).setCell ⟨g, 2, none⟩ c).setCell ⟨g, 3, none⟩ e) ev x :=
  (((h.off v).off (v.set _ _)).off ((v.set _ _).set _ _)).off (((v.set _ _).set _ _).set _ _)

/-- What Do has at each turn: the operations behind turn k are still to be done on the disk dk. -/
def FdoRel (d : Dk) (l : List Wr) (w wr : World) (k : Nat) : Prop :=
  ∃ (fs : List Fl) (cap left : Int) (down : Bool) (A : Option Addr) (m c : Nat), doAll d l = doAll ⟨fs, cap, left, down⟩ (l.drop k) ∧ Mild ⟨fs, cap, left, down⟩ ∧ fs.length = m ∧ Seen wr wr.heap.size A (fcells fs) ∧ m ≤ c ∧
    Var wr w.heap.size 24 #[.slice A m c, .int .i64 cap, .int .i64 left, .bool down] ∧ Var wr (w.heap.size + 1) 24 #[.slice none 0 0, .int .i64 0, .int .i64 0, .bool false] ∧ Below w.heap.size w wr
theorem FdoRel.alloc {d : Dk} {l : List Wr} {w wr : World} {k : Nat} (h : FdoRel d l w wr k) (o : Obj) : FdoRel d l w (wr.alloc o) k := by
  obtain ⟨fs, cap, left, down, A, m, c, h1, h2, h3, h4, h5, h6, h7, h8⟩ := h
  exact ⟨fs, cap, left, down, A, m, c, h1, h2, h3, (h4.below ((Below.refl _ wr).alloc (Nat.le_refl _) o)).up (by simp), h5, h6.alloc o, h7.alloc o, h8.alloc h8.size o⟩
theorem FdoRel.step {d : Dk} {l : List Wr} {w w6 : World} {k m c : Nat} {fs : List Fl} {cap left : Int} {down : Bool} {A : Option Addr} {o0 o1 o2 o3 : Value} (hd : doAll d l = doAll ⟨fs, cap, left, down⟩ (l.drop k)) (hgood : Mild ⟨fs, cap, left, down⟩) (hl : fs.length = m) (hs : Seen w6 w6.heap.size A (fcells fs)) (hc : m ≤ c)
    (hv : Var w6 w.heap.size 24 #[o0, o1, o2, o3]) (ho : ∀ (i : Nat) (s : ByteArray), (#[o0, o1, o2, o3] : Array Value)[i]? ≠ some (Value.string s)) (hr : Var w6 (w.heap.size + 1) 24 #[.slice none 0 0, .int .i64 0, .int .i64 0, .bool false]) (hb : Below w.heap.size w w6) :
    FdoRel d l w ((((w6.setCell ⟨w.heap.size, 0, none⟩ (.slice A m c)).setCell ⟨w.heap.size, 1, none⟩ (.int .i64 cap)).setCell ⟨w.heap.size, 2, none⟩ (.int .i64 left)).setCell ⟨w.heap.size, 3, none⟩ (.bool down)) k :=
  have ha := seen_apart hs hv ho
  ⟨fs, cap, left, down, A, m, c, hd, hgood, hl, ((((hs.off ha).off ha).off ha).off ha).up (by simp), hc, set4_var hv, set4_other hr (by omega), hb.trans (set4_below (Nat.le_refl _))⟩

/-- What is done at one turn. -/
theorem doAll_turn {d d' : Dk} {l : List Wr} {k : Nat} {x : Wr} {e : Int} (hx : l[k]? = some x) (h : does d x = (d', e)) :
    (e = 0 → doAll d (l.drop k) = doAll d' (l.drop (k + 1))) ∧ (e = 30 → d.down = false → doAll d (l.drop k) = (d', some (x.op, x.file, e))) ∧ (e ≠ 0 → ¬ (e = 30 ∧ d.down = false) → doAll d (l.drop k) = (d, some (x.op, x.file, e))) := by
  obtain ⟨hk, hf⟩ := List.getElem?_eq_some_iff.1 hx
  have e1 : l.drop k = x :: l.drop (k + 1) := by rw [← hf, ← List.drop_eq_getElem_cons hk]
  rw [e1]
  refine ⟨fun h0 => ?_, fun h0 hd => ?_, fun h0 hn => doAll_no h h0 hn⟩
  · subst h0; exact doAll_ok h
  · subst h0; exact doAll_fall h hd

set_option maxRecDepth 100000 in
set_option maxHeartbeats 4000000 in
theorem fdo_any (A WA : Option Addr) (n c B wn wc WB : Nat) (fs : List Fl) (cap left : Int) (down : Bool) (l : List Wr) (d' : Dk) (x : Flt) (w : World) (hG : Glob w) (hn : fs.length = n) (hs : Seen w B A (fcells fs)) (hB : B ≤ w.heap.size) (hgood : Mild ⟨fs, cap, left, down⟩)
    (hl : l.length = wn) (hws : Seen w WB WA (wcells l)) (hWB : WB ≤ w.heap.size) (hwn : wn ≤ 1000) (hsz : ∀ y ∈ l, y.b.size ≤ 300000 ∧ y.file.size ≤ 9223372036854775807) (hr : doAll ⟨fs, cap, left, down⟩ l = (d', x)) :
    Calls Tryz.prog 8 #[.agg #[.slice A n c, .int .i64 cap, .int .i64 left, .bool down], .slice WA wn wc] w (FileRes d' x w) := by
  have HN := Lib.hid hn
  have HL := Lib.hid hl
  have HR := Lib.hid hr
  have HG := Lib.hid hG
  have HSZ := Lib.hid hsz
  have HGD := Lib.hid hgood
  have h100 : n ≤ 100 := by rw [← hn]; exact hgood.1.1
  clear hn hl hr hG hsz hgood
  go_enter Tryz.func8, Tryz.ntmps8
  go_wp2_with fail
  have hvs := new2 w #[.slice A n c, .int .i64 cap, .int .i64 left, .bool down] #[.slice none 0 0, .int .i64 0, .int .i64 0, .bool false] 24 24
  have hbs := bel2 w #[.slice A n c, .int .i64 cap, .int .i64 left, .bool down] #[.slice none 0 0, .int .i64 0, .int .i64 0, .bool false] 24 24
  refine (clone_any A n c B fs _ HN.out (hs.below (hbs.mono hB)) (by simp; omega) h100).mono ?_
  rintro e w1 ⟨A1, c1, rfl, hown, hb1⟩
  have hb1' : Below w.heap.size w w1 := hbs.trans (hb1.mono (by simp; omega))
  have v2 := Var.below hvs.1 hb1 (by simp; omega)
  have v4 := Var.below hvs.2 hb1 (by simp)
  obtain ⟨hs1, hle1⟩ := Seen.of_own3 hown
  have l2 := v2.lt
  have l4 := v4.lt
  have ha1 := seen_apart hs1 v2 disk_noText
  have hrel0 : FdoRel ⟨fs, cap, left, down⟩ l w (w1.setCell ⟨w.heap.size, 0, none⟩ (.slice A1 n c1)) 0 :=
    ⟨fs, cap, left, down, A1, n, c1, by rw [List.drop_zero], HGD.out, HN.out, (hs1.off ha1).up (by simp), hle1, by simpa using v2.set 0 (.slice A1 n c1), v4.other 0 _ (by omega), hb1'.setCell (by simp) _⟩
  obtain ⟨d0, d1, d2, d3, f2⟩ := v2.cells4
  have HREL := Lib.hid hrel0
  clear hvs hbs hb1 hown hrel0 ha1 hs1 hb1' v2 v4 hle1
  go_wp2_with fail
  have hrel0 := HREL.out
  obtain ⟨W1, hW1⟩ : ∃ W1, W1 = w1.setCell ⟨w.heap.size, 0, none⟩ (.slice A1 n c1) := ⟨_, rfl⟩
  rw [← hW1] at hrel0 ⊢
  clear hW1 HREL d0 d1 d2 d3 f2 l2 l4
  go_loopw [16] (fun i wr => ∃ k : Nat, i = .int .i64 (k : Int) ∧ k ≤ wn ∧ FdoRel ⟨fs, cap, left, down⟩ l w wr k)
    (fun i _ => wn - (intOf i).toNat)
  case atStart => exact ⟨0, rfl, by omega, hrel0⟩
  case round =>
    clear hrel0
    obtain ⟨k, rfl, hk, hrel⟩ := hrel
    obtain ⟨fs2, cap2, left2, down2, A2, m2, c2, hd2, hgd2, hl2, hs2, hc2, v2, v4, hb2⟩ := hrel
    have HD2 := Lib.hid hd2
    have HGD2 := Lib.hid hgd2
    have HL2 := Lib.hid hl2
    obtain ⟨d0, d1, d2, d3, f2⟩ := v2.cells4
    have l2 := v2.lt
    have l4 := v4.lt
    clear hd2 hgd2 hl2
    by_cases hlt : k < wn
    · obtain ⟨y, hy⟩ := write_here HL.out hlt
      obtain ⟨hy1, hy2⟩ := HSZ.out y (List.mem_of_getElem? hy)
      have hwr : Seen wr WB WA (wcells l) := hws.below (hb2.mono hWB)
      obtain ⟨bb, off, rfl, hbb, y0, y1, y2, y3⟩ := write_at hwr hy
      obtain ⟨⟨fs3, cap3, left3, down3⟩, e3, hdo⟩ : ∃ d3 e3, does ⟨fs2, cap2, left2, down2⟩ y = (d3, e3) := ⟨_, _, rfl⟩
      have hturn := doAll_turn hy hdo
      rw [← HD2.out] at hturn
      have hG2 := HG.out.next hb2
      have HY := Lib.hid hy
      obtain ⟨yop, yf, yb, yn⟩ := y
      simp only at y0 y1 y2 y3 hy1 hy2 hturn
      have HTURN := Lib.hid hturn
      have HDO := Lib.hid hdo
      clear hturn hdo hy
      have hbt := bel1 wr #[.int .i8 yop, .string yf, .string yb, .int .i64 yn] 50
      have hzt := hbt.size
      have HBT := Lib.hid hbt
      clear hbt hwr hws
      by_cases he0 : e3 = 0
      · subst he0
        go_wp2_with fail
        refine (fatt_ok A2 m2 c2 wr.heap.size fs2 fs3 cap2 left2 cap3 left3 down2 down3 yop yf yb yn _ (hG2.next HBT.out) HL2.out (hs2.below HBT.out) hzt HGD2.out.1 hy2 hy1 HGD2.out.2.2 HGD2.out.2.1 HDO.out).mono ?_
        rintro e w5 ⟨A5, m5, c5, ev, rfl, hl5, hs5, hc5, hev, hb5⟩
        obtain rfl : ev = .nilIface := hev
        have hb5' : Below wr.heap.size wr w5 := HBT.out.trans (hb5.mono hzt)
        have v2' := Var.below v2 hb5' l2
        have v4' := Var.below v4 hb5' l4
        have l2' := v2'.lt
        have hstep := FdoRel.step (k := k + 1) (HTURN.out.1 (by simp)) (fine_mild (mild_does HGD2.out HDO.out).2) hl5 hs5 hc5 v2' disk_noText v4' (hb2.trans (hb5'.mono hb2.size))
        have HSTEP := Lib.hid hstep
        clear d0 d1 d2 d3 f2 hstep hs5 hb5 hl5
        obtain ⟨d0, d1, d2, d3, f2⟩ := v2'.cells4
        go_wp2
        go_roundw
        case rel => exact ⟨k + 1, by go_num, by omega, HSTEP.out.alloc _⟩
        case measure => simp [intOf]; omega
      · by_cases h30 : e3 = 30
        · subst h30
          cases down2 with
          | false =>
            go_wp2_with fail
            refine (fatt_err A2 m2 c2 wr.heap.size fs2 fs3 cap2 left2 cap3 left3 false down3 yop yf yb yn 30 _ (hG2.next HBT.out) HL2.out (hs2.below HBT.out) hzt HGD2.out.1 hy2 hy1 HGD2.out.2.2 HGD2.out.2.1 HDO.out (by simp)).mono ?_
            rintro e w5 ⟨A5, m5, c5, ev, rfl, hl5, hs5, hc5, ⟨g, rfl, hflt⟩, hb5⟩
            have hb5' : Below wr.heap.size wr w5 := HBT.out.trans (hb5.mono hzt)
            have hbt8 := bel1 w5 #[.slice A5 m5 c5, .int .i64 cap3, .int .i64 left3, .bool down3] 24
            have u8 := new1 w5 #[.slice A5 m5 c5, .int .i64 cap3, .int .i64 left3, .bool down3] 24
            have hflt8 : FltAt (w5.alloc (.cells #[.slice A5 m5 c5, .int .i64 cap3, .int .i64 left3, .bool down3] 24)) g yop yf 30 := Var.alloc hflt _
            have HFLT := Lib.hid hflt8
            have HL5 := Lib.hid hl5
            have v2' := Var.below (Var.below v2 hb5' l2) hbt8 (Nat.lt_of_lt_of_le l2 hb5'.size)
            have v4' := Var.below (Var.below v4 hb5' l4) hbt8 (Nat.lt_of_lt_of_le l4 hb5'.size)
            have hs5' := hs5.below hbt8
            have hs2' := (hs2.below hb5').below (hbt8.mono hb5'.size)
            have hb8 : Below w.heap.size w (w5.alloc (.cells #[.slice A5 m5 c5, .int .i64 cap3, .int .i64 left3, .bool down3] 24)) := (hb2.trans (hb5'.mono hb2.size)).trans (hbt8.mono (Nat.le_trans hb2.size hb5'.size))
            clear d0 d1 d2 d3 f2 hb5 hl5 hflt hflt8
            go_wp2_with fail
            obtain ⟨w8, hw8⟩ : ∃ w8, w8 = w5.alloc (.cells #[.slice A5 m5 c5, .int .i64 cap3, .int .i64 left3, .bool down3] 24) := ⟨_, rfl⟩
            have hz8 : w5.heap.size < w8.heap.size := by rw [hw8]; simp
            have hz5 := hb5'.size
            rw [← hw8] at HFLT v2' v4' hs5' hs2' hb8 u8 ⊢
            clear hw8 hbt8
            refine (is_flt g yop yf 30 30 _ HFLT.out).mono ?_
            rintro e w9 ⟨rfl, rfl⟩
            obtain ⟨d0, d1, d2, d3, f2⟩ := v2'.cells4
            obtain ⟨i0, i1, i2, i3, f8⟩ := u8.cells4
            have l2' := v2'.lt
            have l4' := v4'.lt
            have hsA := seen_apart (hs5') v4' disk_noText
            have HFV : Hid (FltV w8 (fltV g) (some (yop, yf, 30))) := ⟨g, rfl, HFLT.out⟩
            have HFX := Lib.hid (HFV.out.off4 v4' (a := .slice A5 m5 c5) (b := .int .i64 cap3) (c := .int .i64 left3) (e := .bool down3))
            have V4 := Lib.hid v4'
            have hend := HTURN.out.2.1 (by simp) (by simp)
            rw [HR.out] at hend
            simp only [Prod.mk.injEq] at hend
            obtain ⟨rfl, rfl⟩ := hend
            obtain ⟨e0', e1', e2', e3', f4⟩ := v4'.cells4
            clear u8 v2' v4'
            go_wp2
            refine bodyPost_ret (v := .tuple #[.agg #[.slice A5 m5 c5, .int .i64 cap3, .int .i64 left3, .bool down3], fltV g]) (by simp [results, Tryz.results8, go_sem, e0', e1', e2', e3']) rfl ⟨A5, m5, c5, fltV g, rfl, HL5.out, ?_, hc5, HFX.out, ?_⟩
            · exact (((((hs5').off hsA).off hsA).off hsA).off hsA).up (by simp; omega)
            · repeat (first | with_reducible exact hb8 | refine Below.setCell ?_ (by simp) _)
          | true =>
            go_wp2_with fail
            refine (fatt_err A2 m2 c2 wr.heap.size fs2 fs3 cap2 left2 cap3 left3 true down3 yop yf yb yn 30 _ (hG2.next HBT.out) HL2.out (hs2.below HBT.out) hzt HGD2.out.1 hy2 hy1 HGD2.out.2.2 HGD2.out.2.1 HDO.out (by simp)).mono ?_
            rintro e w5 ⟨A5, m5, c5, ev, rfl, hl5, hs5, hc5, ⟨g, rfl, hflt⟩, hb5⟩
            have hb5' : Below wr.heap.size wr w5 := HBT.out.trans (hb5.mono hzt)
            have hbt8 := bel1 w5 #[.slice A5 m5 c5, .int .i64 cap3, .int .i64 left3, .bool down3] 24
            have u8 := new1 w5 #[.slice A5 m5 c5, .int .i64 cap3, .int .i64 left3, .bool down3] 24
            have hflt8 : FltAt (w5.alloc (.cells #[.slice A5 m5 c5, .int .i64 cap3, .int .i64 left3, .bool down3] 24)) g yop yf 30 := Var.alloc hflt _
            have HFLT := Lib.hid hflt8
            have HL5 := Lib.hid hl5
            have v2' := Var.below (Var.below v2 hb5' l2) hbt8 (Nat.lt_of_lt_of_le l2 hb5'.size)
            have v4' := Var.below (Var.below v4 hb5' l4) hbt8 (Nat.lt_of_lt_of_le l4 hb5'.size)
            have hs5' := hs5.below hbt8
            have hs2' := (hs2.below hb5').below (hbt8.mono hb5'.size)
            have hb8 : Below w.heap.size w (w5.alloc (.cells #[.slice A5 m5 c5, .int .i64 cap3, .int .i64 left3, .bool down3] 24)) := (hb2.trans (hb5'.mono hb2.size)).trans (hbt8.mono (Nat.le_trans hb2.size hb5'.size))
            clear d0 d1 d2 d3 f2 hb5 hl5 hflt hflt8
            go_wp2_with fail
            obtain ⟨w8, hw8⟩ : ∃ w8, w8 = w5.alloc (.cells #[.slice A5 m5 c5, .int .i64 cap3, .int .i64 left3, .bool down3] 24) := ⟨_, rfl⟩
            have hz8 : w5.heap.size < w8.heap.size := by rw [hw8]; simp
            have hz5 := hb5'.size
            rw [← hw8] at HFLT v2' v4' hs5' hs2' hb8 u8 ⊢
            clear hw8 hbt8
            refine (is_flt g yop yf 30 30 _ HFLT.out).mono ?_
            rintro e w9 ⟨rfl, rfl⟩
            obtain ⟨d0, d1, d2, d3, f2⟩ := v2'.cells4
            obtain ⟨i0, i1, i2, i3, f8⟩ := u8.cells4
            have l2' := v2'.lt
            have l4' := v4'.lt
            have hsA := seen_apart (hs2') v4' disk_noText
            have HFV : Hid (FltV w8 (fltV g) (some (yop, yf, 30))) := ⟨g, rfl, HFLT.out⟩
            have HFX := Lib.hid (HFV.out.off4 v4' (a := .slice A2 m2 c2) (b := .int .i64 cap2) (c := .int .i64 left2) (e := .bool true))
            have V4 := Lib.hid v4'
            have hend := HTURN.out.2.2 (by simp) (by simp)
            rw [HR.out] at hend
            simp only [Prod.mk.injEq] at hend
            obtain ⟨rfl, rfl⟩ := hend
            obtain ⟨e0', e1', e2', e3', f4⟩ := v4'.cells4
            clear u8 v2' v4'
            go_wp2
            refine bodyPost_ret (v := .tuple #[.agg #[.slice A2 m2 c2, .int .i64 cap2, .int .i64 left2, .bool true], fltV g]) (by simp [results, Tryz.results8, go_sem, e0', e1', e2', e3']) rfl ⟨A2, m2, c2, fltV g, rfl, HL2.out, ?_, hc2, HFX.out, ?_⟩
            · exact (((((hs2').off hsA).off hsA).off hsA).off hsA).up (by simp; omega)
            · repeat (first | with_reducible exact hb8 | refine Below.setCell ?_ (by simp) _)
        · have hd30 : decide (e3 = 30) = false := decide_eq_false h30
          go_wp2_with fail
          refine (fatt_err A2 m2 c2 wr.heap.size fs2 fs3 cap2 left2 cap3 left3 down2 down3 yop yf yb yn e3 _ (hG2.next HBT.out) HL2.out (hs2.below HBT.out) hzt HGD2.out.1 hy2 hy1 HGD2.out.2.2 HGD2.out.2.1 HDO.out (by simpa using he0)).mono ?_
          rintro e w5 ⟨A5, m5, c5, ev, rfl, hl5, hs5, hc5, ⟨g, rfl, hflt⟩, hb5⟩
          have hb5' : Below wr.heap.size wr w5 := HBT.out.trans (hb5.mono hzt)
          have hbt8 := bel1 w5 #[.slice A5 m5 c5, .int .i64 cap3, .int .i64 left3, .bool down3] 24
          have u8 := new1 w5 #[.slice A5 m5 c5, .int .i64 cap3, .int .i64 left3, .bool down3] 24
          have hflt8 : FltAt (w5.alloc (.cells #[.slice A5 m5 c5, .int .i64 cap3, .int .i64 left3, .bool down3] 24)) g yop yf e3 := Var.alloc hflt _
          have HFLT := Lib.hid hflt8
          have HL5 := Lib.hid hl5
          have v2' := Var.below (Var.below v2 hb5' l2) hbt8 (Nat.lt_of_lt_of_le l2 hb5'.size)
          have v4' := Var.below (Var.below v4 hb5' l4) hbt8 (Nat.lt_of_lt_of_le l4 hb5'.size)
          have hs5' := hs5.below hbt8
          have hs2' := (hs2.below hb5').below (hbt8.mono hb5'.size)
          have hb8 : Below w.heap.size w (w5.alloc (.cells #[.slice A5 m5 c5, .int .i64 cap3, .int .i64 left3, .bool down3] 24)) := (hb2.trans (hb5'.mono hb2.size)).trans (hbt8.mono (Nat.le_trans hb2.size hb5'.size))
          clear d0 d1 d2 d3 f2 hb5 hl5 hflt hflt8
          go_wp2_with fail
          obtain ⟨w8, hw8⟩ : ∃ w8, w8 = w5.alloc (.cells #[.slice A5 m5 c5, .int .i64 cap3, .int .i64 left3, .bool down3] 24) := ⟨_, rfl⟩
          have hz8 : w5.heap.size < w8.heap.size := by rw [hw8]; simp
          have hz5 := hb5'.size
          rw [← hw8] at HFLT v2' v4' hs5' hs2' hb8 u8 ⊢
          clear hw8 hbt8
          refine (is_flt g yop yf e3 30 _ HFLT.out).mono ?_
          rintro e w9 ⟨rfl, rfl⟩
          obtain ⟨d0, d1, d2, d3, f2⟩ := v2'.cells4
          obtain ⟨i0, i1, i2, i3, f8⟩ := u8.cells4
          have l2' := v2'.lt
          have l4' := v4'.lt
          have hsA := seen_apart (hs2') v4' disk_noText
          have HFV : Hid (FltV w8 (fltV g) (some (yop, yf, e3))) := ⟨g, rfl, HFLT.out⟩
          have HFX := Lib.hid (HFV.out.off4 v4' (a := .slice A2 m2 c2) (b := .int .i64 cap2) (c := .int .i64 left2) (e := .bool down2))
          have V4 := Lib.hid v4'
          have hend := HTURN.out.2.2 he0 (by rintro ⟨h, _⟩; exact h30 h)
          rw [HR.out] at hend
          simp only [Prod.mk.injEq] at hend
          obtain ⟨rfl, rfl⟩ := hend
          obtain ⟨e0', e1', e2', e3', f4⟩ := v4'.cells4
          clear u8 v2' v4'
          go_wp2
          refine bodyPost_ret (v := .tuple #[.agg #[.slice A2 m2 c2, .int .i64 cap2, .int .i64 left2, .bool down2], fltV g]) (by simp [results, Tryz.results8, go_sem, e0', e1', e2', e3']) rfl ⟨A2, m2, c2, fltV g, rfl, HL2.out, ?_, hc2, HFX.out, ?_⟩
          · exact (((((hs2').off hsA).off hsA).off hsA).off hsA).up (by simp; omega)
          · repeat (first | with_reducible exact hb8 | refine Below.setCell ?_ (by simp) _)
    · obtain rfl : k = wn := by omega
      have hend := HR.out
      rw [HD2.out, List.drop_of_length_le (by rw [HL.out]; omega), doAll_nil] at hend
      simp only [Prod.mk.injEq] at hend
      obtain ⟨rfl, rfl⟩ := hend
      have ha2 := seen_apart hs2 v4 disk_noText
      obtain ⟨e0, e1, e2, e3, f4⟩ := v4.cells4
      go_wp2
      refine bodyPost_ret (v := .tuple #[.agg #[.slice A2 m2 c2, .int .i64 cap2, .int .i64 left2, .bool down2], .nilIface]) (by simp [results, Tryz.results8, go_sem, e0, e1, e2, e3]) rfl ⟨A2, m2, c2, .nilIface, rfl, HL2.out, ?_, hc2, rfl, ?_⟩
      · exact ((((hs2.off ha2).off ha2).off ha2).off ha2).up (by simp)
      · repeat (first | with_reducible exact hb2 | refine Below.setCell ?_ (by simp) _)
end Go.Proofs.YtpppeadmhfggkaaGreatDoor
