/-
  Contract of the reference's Do: what it returns and what it does to memory. Conditions: those that each theorem names.
-/
import Derived.Test.YtpppeadmhfggkaaGreatDoorFilFltPlain
import Derived.Test.YtpppeadmhfggkaaGreatDoorFilDo
import Derived.Test.YtpppeadmhfggkaaGreatDoorFilPut
import Derived.Test.YtpppeadmhfggkaaGreatDoorFilWakes
import Derived.Test.YtpppeadmhfggkaaGreatDoorDskRefDo
namespace Go.Proofs.YtpppeadmhfggkaaGreatDoor
open Go.RowKit DP

/-- A disk, and of a fault its operation, its file, its number, handed back. -/
def RefRes (d : Dk) (x : Flt) (w : World) (e : Ending) (w' : World) : Prop :=
  ∃ A m c, e = .returned (.tuple #[.agg #[.slice A m c, .int .i64 d.cap, .int .i64 d.left, .bool d.down], .int .i8 (fltOp x), .string (fltFile x), .int .i64 (fltNum x)]) ∧ d.fs.length = m ∧ Seen w' w'.heap.size A (fcells d.fs) ∧ m ≤ c ∧ Below w.heap.size w w'

/-- A result's disk stored, the fault's three beside it. -/
theorem RefRes.store {d : Dk} {x : Flt} {w w6 : World} {A : Option Addr} {m c g : Nat} {o0 o1 o2 o3 : Value} (hl : d.fs.length = m) (hs : Seen w6 w6.heap.size A (fcells d.fs)) (hc : m ≤ c) (hv : Var w6 g 24 #[o0, o1, o2, o3])
    (ho : ∀ (i : Nat) (s : ByteArray), (#[o0, o1, o2, o3] : Array Value)[i]? ≠ some (Value.string s)) (hg : w.heap.size ≤ g) (hb : Below w.heap.size w w6) :
    RefRes d x w (.returned (.tuple #[.agg #[.slice A m c, .int .i64 d.cap, .int .i64 d.left, .bool d.down], .int .i8 (fltOp x), .string (fltFile x), .int .i64 (fltNum x)])) ((((w6.setCell ⟨g, 0, none⟩ (.slice A m c)).setCell ⟨g, 1, none⟩ (.int .i64 d.cap)).setCell ⟨g, 2, none⟩ (.int .i64 d.left)).setCell ⟨g, 3, none⟩ (.bool d.down)) :=
  have ha := seen_apart hs hv ho
  ⟨A, m, c, rfl, hl, ((((hs.off ha).off ha).off ha).off ha).up (by simp), hc, hb.trans (set4_below hg)⟩

theorem RefRes.drew {d : Dk} {x : Flt} {w w6 : World} {e : Ending} (h : RefRes d x w e w6) : RefRes d x w e w6.drew := by
  obtain ⟨A, m, c, rfl, h1, h2, h3, h4⟩ := h
  exact ⟨A, m, c, rfl, h1, (h2.below (Below.refl _ w6).drew).up (by simp), h3, h4.drew⟩

/-- What the reference's Do has at a turn: the disk, the result's variable. -/
structure Rf (d : Dk) (A : Option Addr) (m c : Nat) (w W : World) : Prop where
  k : DkAt d A m c w.heap.size W
  r : Var W (w.heap.size + 1) 24 #[.slice none 0 0, .int .i64 0, .int .i64 0, .bool false]
  b : Below w.heap.size w W
section
variable {d d' : Dk} {A A' : Option Addr} {m c m' c' g : Nat} {w W W' : World}
theorem Rf.next (h : Rf d A m c w W) (k : Below W.heap.size W W') : Rf d A m c w W' := ⟨h.k.grow k, h.r.below k h.r.lt, h.b.trans (k.mono h.b.size)⟩
/-- Another disk stands there. -/
theorem Rf.put (h : Rf d A m c w W) (k : DkAt d' A' m' c' g W) :
    Rf d' A' m' c' w ((((W.setCell ⟨w.heap.size, 0, none⟩ (.slice A' m' c')).setCell ⟨w.heap.size, 1, none⟩ (.int .i64 d'.cap)).setCell ⟨w.heap.size, 2, none⟩ (.int .i64 d'.left)).setCell ⟨w.heap.size, 3, none⟩ (.bool d'.down)) :=
  ⟨DkAt.step k.1 k.2.1 k.2.2.1 h.k.2.2.2 disk_noText, set4_other h.r (by omega), h.b.trans (set4_below (Nat.le_refl _))⟩
/-- The disk goes down. -/
theorem Rf.fall (h : Rf d A m c w W) : Rf { d with down := true } A m c w (W.setCell ⟨w.heap.size, 3, none⟩ (.bool true)) :=
  ⟨⟨h.k.1, (h.k.2.1.off (seen_apart h.k.2.1 h.k.2.2.2 disk_noText)).up (by simp), h.k.2.2.1, by simpa using h.k.2.2.2.set 3 (.bool true)⟩, h.r.other 3 _ (by omega), h.b.setCell (Nat.le_refl _) _⟩
/-- What is there is handed back. -/
theorem Rf.back {x : Flt} (h : Rf d A m c w W) :
    RefRes d x w (.returned (.tuple #[.agg #[.slice A m c, .int .i64 d.cap, .int .i64 d.left, .bool d.down], .int .i8 (fltOp x), .string (fltFile x), .int .i64 (fltNum x)]))
      ((((W.setCell ⟨w.heap.size + 1, 0, none⟩ (.slice A m c)).setCell ⟨w.heap.size + 1, 1, none⟩ (.int .i64 d.cap)).setCell ⟨w.heap.size + 1, 2, none⟩ (.int .i64 d.left)).setCell ⟨w.heap.size + 1, 3, none⟩ (.bool d.down)) :=
  RefRes.store h.k.1 h.k.2.1 h.k.2.2.1 h.r disk_noText (by omega) h.b
end
/-- The operations behind turn k are still to be done. -/
def RfRel (d : Dk) (l : List Wr) (w W : World) (k : Nat) : Prop :=
  ∃ (fs : List Fl) (cap left : Int) (down : Bool) (A : Option Addr) (m c : Nat), doAll d l = doAll ⟨fs, cap, left, down⟩ (l.drop k) ∧ Mild ⟨fs, cap, left, down⟩ ∧ Rf ⟨fs, cap, left, down⟩ A m c w W

set_option maxRecDepth 100000 in
set_option maxHeartbeats 4000000 in
theorem rfdo_any (A WA : Option Addr) (n c B wn wc WB : Nat) (fs : List Fl) (cap left : Int) (down : Bool) (l : List Wr) (d' : Dk) (x : Flt) (w : World) (hn : fs.length = n) (hnc : n ≤ c) (hs : Seen w B A (fcells fs)) (hB : B ≤ w.heap.size) (hmild : Mild ⟨fs, cap, left, down⟩)
    (hl : l.length = wn) (hws : Seen w WB WA (wcells l)) (hWB : WB ≤ w.heap.size) (hwn : wn ≤ 1000) (hsz : ∀ y ∈ l, y.b.size ≤ 300000 ∧ y.file.size ≤ 9223372036854775807) (hr : doAll ⟨fs, cap, left, down⟩ l = (d', x)) :
    Calls Tryz.prog 9 #[.agg #[.slice A n c, .int .i64 cap, .int .i64 left, .bool down], .slice WA wn wc] w (RefRes d' x w) := by
  have HL := Lib.hid hl
  have HR := Lib.hid hr
  have HSZ := Lib.hid hsz
  have hvs := new2 w #[.slice A n c, .int .i64 cap, .int .i64 left, .bool down] #[.slice none 0 0, .int .i64 0, .int .i64 0, .bool false] 24 24
  have hbs := bel2 w #[.slice A n c, .int .i64 cap, .int .i64 left, .bool down] #[.slice none 0 0, .int .i64 0, .int .i64 0, .bool false] 24 24
  have hrel0 : RfRel ⟨fs, cap, left, down⟩ l w ((w.alloc (.cells #[.slice A n c, .int .i64 cap, .int .i64 left, .bool down] 24)).alloc (.cells #[.slice none 0 0, .int .i64 0, .int .i64 0, .bool false] 24)) 0 :=
    ⟨fs, cap, left, down, A, n, c, by rw [List.drop_zero], hmild, ⟨hn, (hs.below (hbs.mono hB)).up (by simp; omega), hnc, hvs.1⟩, hvs.2, hbs⟩
  have HREL := Lib.hid hrel0
  clear hn hl hr hsz hmild hvs hbs hrel0 hs
  go_enter Tryz.func9, Tryz.ntmps9
  go_wp2
  have hrel0 := HREL.out
  obtain ⟨W1, hW1⟩ : ∃ W1, W1 = (w.alloc (.cells #[.slice A n c, .int .i64 cap, .int .i64 left, .bool down] 24)).alloc (.cells #[.slice none 0 0, .int .i64 0, .int .i64 0, .bool false] 24) := ⟨_, rfl⟩
  rw [← hW1] at hrel0 ⊢
  clear hW1 HREL
  go_loopw [8] (fun i wr => ∃ k : Nat, i = .int .i64 (k : Int) ∧ k ≤ wn ∧ RfRel ⟨fs, cap, left, down⟩ l w wr k)
    (fun i _ => wn - (intOf i).toNat)
  case atStart => exact ⟨0, rfl, by omega, hrel0⟩
  case round =>
    clear hrel0
    obtain ⟨k, rfl, hk, fs2, cap2, left2, down2, A2, m2, c2, hd2, hgd2, h2⟩ := hrel
    have HD2 := Lib.hid hd2
    have HGD2 := Lib.hid hgd2
    have HL2 := Lib.hid h2.k.1
    have hs2 := h2.k.2.1
    have hc2 := h2.k.2.2.1
    obtain ⟨d0, d1, d2, d3, f2⟩ := h2.k.2.2.2.cells4
    have l2 := h2.k.lt
    have l4 := h2.r.lt
    clear hd2 hgd2
    by_cases hlt : k < wn
    · obtain ⟨y, hy⟩ := write_here HL.out hlt
      obtain ⟨hy1, hy2⟩ := HSZ.out y (List.mem_of_getElem? hy)
      obtain ⟨bb, off, rfl, hbb, y0, y1, y2, y3⟩ := write_at (hws.below (h2.b.mono hWB)) hy
      have hbl : bb < wr.heap.size := Nat.lt_of_lt_of_le hbb (Nat.le_trans hWB h2.b.size)
      obtain ⟨⟨fs3, cap3, left3, down3⟩, e3, hdo⟩ : ∃ d3 e3, does ⟨fs2, cap2, left2, down2⟩ y = (d3, e3) := ⟨_, _, rfl⟩
      have hturn := doAll_turn hy hdo
      rw [← HD2.out] at hturn
      have HY := Lib.hid hy
      obtain ⟨yop, yf, yb, yn⟩ := y
      simp only at y0 y1 y2 y3 hy1 hy2 hturn
      have HTURN := Lib.hid hturn
      have HDO := Lib.hid hdo
      clear hturn hdo hy
      go_upto_region 4 with fail
      go_cut [9, 10] (fun s9 s10 wx => ∃ g9 A5 m5 c5, s9 = .pointer (some ⟨g9, 0, none⟩) ∧ s10 = .int .i64 e3 ∧ DkAt ⟨fs3, cap3, left3, down3⟩ A5 m5 c5 g9 wx ∧ Below wr.heap.size wr wx)
      case first =>
        have hblw : ∀ W, Below wr.heap.size wr W → Seen W wr.heap.size A2 (fcells fs2) := fun W hb => hs2.below hb
        go_region_with (go_at_call 24; refine (ref_do_any A2 m2 c2 wr.heap.size fs2 fs3 cap2 left2 cap3 left3 down2 down3 yop yf yb yn e3 _ HL2.out (hblw _ (by repeat (first | exact Below.refl _ _ | refine Below.drew ?_ | refine Below.alloc ?_ (Nat.le_refl _) _))) (by simp) HGD2.out.1 hc2 hy2 hy1 HGD2.out.2.2 HDO.out).mono ?_; rintro e w5 ⟨A5, m5, c5, rfl, hl5, hs5, hc5, hb5⟩; have hb5' : Below wr.heap.size wr w5 := Below.trans (by repeat (first | exact Below.refl _ _ | refine Below.drew ?_ | refine Below.alloc ?_ (Nat.le_refl _) _)) (hb5.mono (by simp)); have HL5 := Lib.hid hl5; clear hl5; first | (have z5 : Var w5 wr.heap.size 24 #[.slice none 0 0, .int .i64 0, .int .i64 0, .bool false] := Var.below (Var.drew (Var.new wr #[.slice none 0 0, .int .i64 0, .int .i64 0, .bool false] 24)) hb5 (by simp); obtain ⟨q0, q1, q2, q3, qf⟩ := z5.cells4; have lz := z5.lt) | skip)
        all_goals
          clear d0 d1 d2 d3 f2
          go_wp2_with fail
          go_meet
          first
            | (have _q := q0; exact ⟨wr.heap.size, A5, m5, c5, rfl, rfl, DkAt.step (d := ⟨fs3, cap3, left3, down3⟩) HL5.out hs5 hc5 z5 disk_noText, hb5'.trans (set4_below (Nat.le_refl _))⟩)
            | exact ⟨w5.heap.size, A5, m5, c5, rfl, rfl, DkAt.new (d := ⟨fs3, cap3, left3, down3⟩) HL5.out hs5 hc5, hb5'.alloc hb5'.size _⟩
      case rest =>
        obtain ⟨g9, A5, m5, c5, rfl, rfl, hd9, hb9⟩ := hcut
        obtain ⟨W9, hW9⟩ : ∃ W9, W9 = wc := ⟨_, rfl⟩
        rw [← hW9] at hd9 hb9 ⊢
        have h9 := h2.next hb9
        clear hW9 d0 d1 d2 d3 f2 l2 l4 hs2 hb9 h2 y0 y1 y2 y3
        by_cases he0 : e3 = 0
        · subst he0
          have hst := h9.put hd9
          obtain ⟨d0, d1, d2, d3, f2⟩ := h9.k.2.2.2.cells4
          obtain ⟨o0, o1, o2, o3, f9⟩ := hd9.2.2.2.cells4
          have l2 := h9.k.lt
          have HST := Lib.hid hst
          clear hst hd9 h9
          go_wp2
          go_roundw
          case rel => exact ⟨k + 1, by go_num, by omega, fs3, cap3, left3, down3, A5, m5, c5, HTURN.out.1 rfl, fine_mild (mild_does HGD2.out HDO.out).2, HST.out⟩
          case measure => simp [intOf]; omega
        · have hne : (e3 != 0) = true := by simp [he0]
          by_cases h30 : e3 = 30 ∧ down2 = false
          · obtain ⟨rfl, rfl⟩ := h30
            have hend := HTURN.out.2.1 rfl rfl
            rw [HR.out, does_fall HDO.out rfl] at hend
            simp only [Prod.mk.injEq] at hend
            obtain ⟨rfl, rfl⟩ := hend
            have hf := h9.fall
            obtain ⟨d0, d1, d2, d3, f2⟩ := h9.k.2.2.2.cells4
            have HF := Lib.hid hf
            clear hf h9 hd9
            go_upto_region 8 with fail
            have h9 := HF.out
            obtain ⟨W8, hW8⟩ : ∃ W8, W8 = W9.setCell ⟨w.heap.size, 3, none⟩ (.bool true) := ⟨_, rfl⟩
            rw [← hW8] at h9 ⊢
            clear hW8 d0 d1 d2 d3 f2 HF
            obtain ⟨bb', off', hA', hbb', y0, y1, y2, y3⟩ := write_at (hws.below (h9.b.mono hWB)) HY.out
            cases hA'
            obtain ⟨d0, d1, d2, d3, f2⟩ := h9.k.2.2.2.cells4
            obtain ⟨r0, r1, r2, r3, f4⟩ := h9.r.cells4
            have l2 := h9.k.lt
            have l4 := h9.r.lt
            have HB := Lib.hid (h9.back (x := some (yop, yf, 30)))
            clear h9
            go_region
            all_goals
              go_wp2
              exact bodyPost_ret (v := .tuple #[.agg #[.slice A2 m2 c2, .int .i64 cap2, .int .i64 left2, .bool true], .int .i8 yop, .string yf, .int .i64 30]) (by simp [results, Tryz.results9, go_sem, r0, r1, r2, r3]) rfl HB.out.drew
          · have hend := HTURN.out.2.2 he0 h30
            rw [HR.out] at hend
            simp only [Prod.mk.injEq] at hend
            obtain ⟨rfl, rfl⟩ := hend
            by_cases h31 : e3 = 30
            · subst h31
              cases down2 with
              | false => exact absurd ⟨rfl, rfl⟩ h30
              | true =>
                obtain ⟨bb', off', hA', hbb', y0, y1, y2, y3⟩ := write_at (hws.below (h9.b.mono hWB)) HY.out
                cases hA'
                obtain ⟨d0, d1, d2, d3, f2⟩ := h9.k.2.2.2.cells4
                obtain ⟨r0, r1, r2, r3, f4⟩ := h9.r.cells4
                have l2 := h9.k.lt
                have l4 := h9.r.lt
                have HB := Lib.hid (h9.back (x := some (yop, yf, 30)))
                clear h9 hd9
                go_upto_region 8 with fail
                go_region
                all_goals
                  go_wp2
                  exact bodyPost_ret (v := .tuple #[.agg #[.slice A2 m2 c2, .int .i64 cap2, .int .i64 left2, .bool true], .int .i8 yop, .string yf, .int .i64 30]) (by simp [results, Tryz.results9, go_sem, r0, r1, r2, r3]) rfl HB.out.drew
            · have hd30 : (e3 == 30) = false := beq_false_of_ne h31
              obtain ⟨bb', off', hA', hbb', y0, y1, y2, y3⟩ := write_at (hws.below (h9.b.mono hWB)) HY.out
              cases hA'
              obtain ⟨d0, d1, d2, d3, f2⟩ := h9.k.2.2.2.cells4
              obtain ⟨r0, r1, r2, r3, f4⟩ := h9.r.cells4
              have l2 := h9.k.lt
              have l4 := h9.r.lt
              have HB := Lib.hid (h9.back (x := some (yop, yf, e3)))
              clear h9 hd9
              go_upto_region 8 with fail
              go_region
              all_goals
                go_wp2
                exact bodyPost_ret (v := .tuple #[.agg #[.slice A2 m2 c2, .int .i64 cap2, .int .i64 left2, .bool down2], .int .i8 yop, .string yf, .int .i64 e3]) (by simp [results, Tryz.results9, go_sem, r0, r1, r2, r3]) rfl HB.out.drew
    · obtain rfl : k = wn := by omega
      have hend := HR.out
      rw [HD2.out, List.drop_of_length_le (by rw [HL.out]; omega), doAll_nil] at hend
      simp only [Prod.mk.injEq] at hend
      obtain ⟨rfl, rfl⟩ := hend
      have HB := Lib.hid (h2.back (x := none))
      obtain ⟨r0, r1, r2, r3, f4⟩ := h2.r.cells4
      clear h2 hs2
      go_wp2
      exact bodyPost_ret (v := .tuple #[.agg #[.slice A2 m2 c2, .int .i64 cap2, .int .i64 left2, .bool down2], .int .i8 0, .string { data := #[] }, .int .i64 0]) (by simp [results, Tryz.results9, go_sem, r0, r1, r2, r3]) rfl HB.out
end Go.Proofs.YtpppeadmhfggkaaGreatDoor
