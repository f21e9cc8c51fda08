/-
  The law DiskPlays: its walk. Conditions: those that each theorem names.
-/
import Derived.Test.YtbglpmjfajmkdaaDoorDskDoes
import Derived.Test.YtbglpmjfajmkdaaDoorDskActsIn
import Derived.Deep.CutBlock
namespace Go.Proofs.YtbglpmjfajmkdaaDoor
open Go.RowKit DP

/-- What the law has between two acts: the program's disk and the reference's, alike; the script. -/
structure Pl (g5 g7 : Nat) (fs : List Fl) (cap left : Int) (down : Bool) (A1 : Option Addr) (m1 c1 : Nat) (A2 : Option Addr) (m2 c2 : Nat) (S : Option Addr) (l : List AcM) (w W : World) : Prop where
  x : Var W g5 24 #[.slice A1 m1 c1, .int .i64 cap, .int .i64 left, .bool down]
  y : Var W g7 24 #[.slice A2 m2 c2, .int .i64 cap, .int .i64 left, .bool down]
  sx : Seen W W.heap.size A1 (fcells fs)
  sy : Seen W W.heap.size A2 (fcells fs)
  sc : Script W w.heap.size S l
  b : Below w.heap.size w W
/-- .. and on the way: the act, the program's disk behind it, what stands for the reference's. -/
structure Pm (g5 g7 g10 g11 g13 : Nat) (X : Array Value) (fs : List Fl) (cap left : Int) (down : Bool) (A1 : Option Addr) (m1 c1 : Nat) (A2 : Option Addr) (m2 c2 : Nat) (fo : List Fl) (capo lefto : Int) (downo : Bool) (A3 : Option Addr) (m3 c3 : Nat)
    (fp : List Fl) (capp leftp : Int) (downp : Bool) (A4 : Option Addr) (m4 c4 : Nat) (S : Option Addr) (l : List AcM) (w W : World) : Prop where
  pl : Pl g5 g7 fs cap left down A1 m1 c1 A2 m2 c2 S l w W
  a : Var W g10 51 X
  o : Var W g11 24 #[.slice A3 m3 c3, .int .i64 capo, .int .i64 lefto, .bool downo]
  p : Var W g13 24 #[.slice A4 m4 c4, .int .i64 capp, .int .i64 leftp, .bool downp]
  so : Seen W W.heap.size A3 (fcells fo)
  sp : Seen W W.heap.size A4 (fcells fp)
section
variable {g5 g7 g10 g11 g13 : Nat} {X : Array Value} {fs : List Fl} {cap left : Int} {down : Bool} {A1 : Option Addr} {m1 c1 : Nat} {A2 : Option Addr} {m2 c2 : Nat} {fo : List Fl} {capo lefto : Int} {downo : Bool} {A3 : Option Addr} {m3 c3 : Nat} {fp : List Fl} {capp leftp : Int} {downp : Bool} {A4 : Option Addr} {m4 c4 : Nat} {S : Option Addr} {l : List AcM} {w W W' : World}
theorem Pl.next (h : Pl g5 g7 fs cap left down A1 m1 c1 A2 m2 c2 S l w W) (k : Below W.heap.size W W') : Pl g5 g7 fs cap left down A1 m1 c1 A2 m2 c2 S l w W' :=
  ⟨h.x.below k h.x.lt, h.y.below k h.y.lt, (h.sx.below k).up k.size, (h.sy.below k).up k.size, h.sc.below (k.mono h.b.size), h.b.trans (k.mono h.b.size)⟩
theorem Pm.next (h : Pm g5 g7 g10 g11 g13 X fs cap left down A1 m1 c1 A2 m2 c2 fo capo lefto downo A3 m3 c3 fp capp leftp downp A4 m4 c4 S l w W) (k : Below W.heap.size W W') : Pm g5 g7 g10 g11 g13 X fs cap left down A1 m1 c1 A2 m2 c2 fo capo lefto downo A3 m3 c3 fp capp leftp downp A4 m4 c4 S l w W' :=
  ⟨h.pl.next k, h.a.below k h.a.lt, h.o.below k h.o.lt, h.p.below k h.p.lt, (h.so.below k).up k.size, (h.sp.below k).up k.size⟩
/-- Another disk stands for the reference's. -/
theorem Pm.setp (h : Pm g5 g7 g10 g11 g13 X fs cap left down A1 m1 c1 A2 m2 c2 fo capo lefto downo A3 m3 c3 fp capp leftp downp A4 m4 c4 S l w W) (n1 : g5 ≠ g13) (n2 : g7 ≠ g13) (n3 : g10 ≠ g13) (n4 : g11 ≠ g13) (hg : w.heap.size ≤ g13)
    {fq : List Fl} {capq leftq : Int} {downq : Bool} {A5 : Option Addr} {m5 c5 : Nat} (hs : Seen W W.heap.size A5 (fcells fq)) :
    Pm g5 g7 g10 g11 g13 X fs cap left down A1 m1 c1 A2 m2 c2 fo capo lefto downo A3 m3 c3 fq capq leftq downq A5 m5 c5 S l w ((((W.setCell ⟨g13, 0, none⟩ (.slice A5 m5 c5)).setCell ⟨g13, 1, none⟩ (.int .i64 capq)).setCell ⟨g13, 2, none⟩ (.int .i64 leftq)).setCell ⟨g13, 3, none⟩ (.bool downq)) :=
  have hb : Below w.heap.size W ((((W.setCell ⟨g13, 0, none⟩ (.slice A5 m5 c5)).setCell ⟨g13, 1, none⟩ (.int .i64 capq)).setCell ⟨g13, 2, none⟩ (.int .i64 leftq)).setCell ⟨g13, 3, none⟩ (.bool downq)) := set4_below hg
  ⟨⟨set4_other h.pl.x n1, set4_other h.pl.y n2, (seen4 h.pl.sx h.p disk_noText).up (by simp), (seen4 h.pl.sy h.p disk_noText).up (by simp), h.pl.sc.below hb, h.pl.b.trans hb⟩,
    set4_other h.a n3, set4_other h.o n4, set4_var h.p, (seen4 h.so h.p disk_noText).up (by simp), (seen4 hs h.p disk_noText).up (by simp)⟩
/-- Both disks are behind the act. -/
theorem Pm.done (h : Pm g5 g7 g10 g11 g13 X fs cap left down A1 m1 c1 A2 m2 c2 fo capo lefto downo A3 m3 c3 fo capo lefto downo A4 m4 c4 S l w W) (n1 : g5 ≠ g7) (h5 : w.heap.size ≤ g5) (h7 : w.heap.size ≤ g7) :
    Pl g5 g7 fo capo lefto downo A3 m3 c3 A4 m4 c4 S l w
      ((((((((W.setCell ⟨g5, 0, none⟩ (.slice A3 m3 c3)).setCell ⟨g5, 1, none⟩ (.int .i64 capo)).setCell ⟨g5, 2, none⟩ (.int .i64 lefto)).setCell ⟨g5, 3, none⟩ (.bool downo)).setCell ⟨g7, 0, none⟩ (.slice A4 m4 c4)).setCell ⟨g7, 1, none⟩ (.int .i64 capo)).setCell ⟨g7, 2, none⟩ (.int .i64 lefto)).setCell ⟨g7, 3, none⟩ (.bool downo)) :=
  have x1 := set4_var (a := .slice A3 m3 c3) (b := .int .i64 capo) (c := .int .i64 lefto) (d := .bool downo) h.pl.x
  have y1 := set4_other (a := .slice A3 m3 c3) (b := .int .i64 capo) (c := .int .i64 lefto) (d := .bool downo) h.pl.y (Ne.symm n1)
  have so1 := seen4 (a := .slice A3 m3 c3) (b := .int .i64 capo) (c := .int .i64 lefto) (d := .bool downo) h.so h.pl.x disk_noText
  have sp1 := seen4 (a := .slice A3 m3 c3) (b := .int .i64 capo) (c := .int .i64 lefto) (d := .bool downo) h.sp h.pl.x disk_noText
  have hb1 : Below w.heap.size W ((((W.setCell ⟨g5, 0, none⟩ (.slice A3 m3 c3)).setCell ⟨g5, 1, none⟩ (.int .i64 capo)).setCell ⟨g5, 2, none⟩ (.int .i64 lefto)).setCell ⟨g5, 3, none⟩ (.bool downo)) := set4_below h5
  have hb2 := hb1.trans (set4_below (a := .slice A4 m4 c4) (b := .int .i64 capo) (c := .int .i64 lefto) (d := .bool downo) h7)
  ⟨set4_other x1 n1, set4_var y1, (seen4 so1 y1 disk_noText).up (by simp), (seen4 sp1 y1 disk_noText).up (by simp), h.pl.sc.below hb2, h.pl.b.trans hb2⟩
end
theorem behind_ways {d : Dk} {x : Ac} {d1 : Dk} {r : Int} (h : acts d x = (d1, r)) : (r = 0 ∧ behind d x = (d1, r)) ∨ (r ≠ 0 ∧ d1.down = false ∧ behind d x = (d, r)) ∨ (r ≠ 0 ∧ d1.down = true ∧ behind d x = (d1, r)) := by
  unfold behind
  rw [h]
  by_cases h0 : r = 0
  · exact .inl ⟨h0, if_neg (fun hh => hh.1 h0)⟩
  · cases hd : d1.down
    · exact .inr (.inl ⟨h0, rfl, if_pos ⟨h0, rfl⟩⟩)
    · exact .inr (.inr ⟨h0, rfl, if_neg (fun hh => by cases hh.2)⟩)

set_option maxRecDepth 100000 in
set_option maxHeartbeats 4000000 in
theorem plays_great (k : Int) (A : Option Addr) (n c : Nat) (l : List AcM) (w : World) (hn : l.length = n) (hs : Script w w.heap.size A l) (hmax : n ≤ 9223372036854775807) (hsz : ∀ x ∈ l, AcFits x) (hG : Glob w) (hgr : greatA l = true) :
    Calls Tryd.prog 4 #[.int .i64 k, .slice A n c] w fun e w' => e = .returned (.bool true) ∧ Below w.heap.size w w' := by
  have HN := Lib.hid hn
  have HGR := Lib.hid hgr
  have HG := Lib.hid hG
  have HS := Lib.hid hs
  clear hn hgr hG hs
  go_enter Tryd.func4, Tryd.ntmps4
  go_wp2_with fail
  refine (greatA_any A n c w.heap.size l true _ HN.out HGR.out HS.out (Nat.le_refl _) hmax hsz).mono ?_
  rintro e W1 ⟨rfl, hb1⟩
  go_wp2_with fail
  refine (wakes_any _ (HG.out.next hb1)).mono ?_
  rintro e W2 ⟨rfl, hx⟩
  have hb2 := hb1.trans (hx.mono hb1.size)
  go_wp2
  go_ret
  exact ⟨rfl, hb2⟩
set_option maxRecDepth 100000 in
set_option maxHeartbeats 8000000 in
theorem plays_main (most : Int) (S : Option Addr) (n c : Nat) (l : List AcM) (w : World) (hn : l.length = n) (hs : Script w w.heap.size S l) (hmax : n ≤ 9223372036854775807) (hsz : ∀ x ∈ l, AcFits x) (hG : Glob w) (hgr : greatA l = false) :
    Calls Tryd.prog 4 #[.int .i64 most, .slice S n c] w fun e w' => e = .returned (.bool true) ∧ Below w.heap.size w w' := by
  have HN := Lib.hid hn
  have HGR := Lib.hid hgr
  have HG := Lib.hid hG
  have HS := Lib.hid hs
  have HSZ := Lib.hid hsz
  obtain ⟨hn100, hparts⟩ := greatA_parts hgr
  rw [hn] at hn100
  have HP := Lib.hid hparts
  obtain ⟨fs0, cap0, left0, down0, r0, hr0⟩ : ∃ fs' cap' left' down' r', new most = (⟨fs', cap', left', down'⟩, r') := ⟨_, _, _, _, _, rfl⟩
  have HR0 := Lib.hid hr0
  have HF0 := Lib.hid (fine_new hr0)
  clear hn hgr hG hs hsz hparts hr0
  go_enter Tryd.func4, Tryd.ntmps4
  go_wp2_with fail
  refine (greatA_any S n c w.heap.size l false _ HN.out HGR.out HS.out (Nat.le_refl _) hmax HSZ.out).mono ?_
  rintro e W1 ⟨rfl, hb1⟩
  go_wp2_with fail
  refine (new_any most cap0 left0 fs0 down0 r0 _ HR0.out).mono ?_
  rintro e W2 ⟨A1, m1, c1, rfl, hl1, hs1, hm1, hx⟩
  have HL1 := Lib.hid hl1
  have hb2 := hb1.trans (hx.mono hb1.size)
  clear hx hb1 hl1
  go_wp2_with fail
  obtain ⟨W3, hW3⟩ : ∃ W3, W3 = W2.alloc (.cells #[.slice A1 m1 c1, .int .i64 cap0, .int .i64 left0, .bool down0] 24) := ⟨_, rfl⟩
  obtain ⟨g5, hg5⟩ : ∃ g5, g5 = W2.heap.size := ⟨_, rfl⟩
  have hbx := bel1 W2 #[.slice A1 m1 c1, .int .i64 cap0, .int .i64 left0, .bool down0] 24
  have x3 := new1 W2 #[.slice A1 m1 c1, .int .i64 cap0, .int .i64 left0, .bool down0] 24
  have sx3 := (hs1.below hbx).up hbx.size
  have hb3 := hb2.trans (hbx.mono hb2.size)
  have hz5 : w.heap.size ≤ g5 := by rw [hg5]; exact hb2.size
  rw [← hW3] at hbx x3 sx3 hb3 ⊢
  rw [← hg5] at x3 ⊢
  clear hW3 hg5 hbx hs1 hb2
  refine (ref_new_any most cap0 left0 fs0 down0 r0 _ HR0.out).mono ?_
  rintro e W4 ⟨A2, m2, c2, rfl, hl2, hs2, hm2, hx⟩
  have HL2 := Lib.hid hl2
  have x4 := x3.below hx x3.lt
  have sx4 := (sx3.below hx).up hx.size
  have hb4 := hb3.trans (hx.mono hb3.size)
  clear hx hb3 x3 sx3 hl2
  obtain ⟨d0, d1, d2, d3, f1⟩ := x4.cells4
  have l1 := x4.lt
  go_upto_region 5 with fail
  obtain ⟨W5, hW5⟩ : ∃ W5, W5 = W4.alloc (.cells #[.slice A2 m2 c2, .int .i64 cap0, .int .i64 left0, .bool down0] 24) := ⟨_, rfl⟩
  obtain ⟨g7, hg7⟩ : ∃ g7, g7 = W4.heap.size := ⟨_, rfl⟩
  have hbx := bel1 W4 #[.slice A2 m2 c2, .int .i64 cap0, .int .i64 left0, .bool down0] 24
  have n57 : g5 ≠ g7 := by rw [hg7]; omega
  have hz7 : w.heap.size ≤ g7 := by rw [hg7]; exact hb4.size
  have h5 : Pl g5 g7 fs0 cap0 left0 down0 A1 m1 c1 A2 m2 c2 S l w W5 := by
    rw [hW5, hg7]
    exact ⟨x4.below hbx x4.lt, new1 W4 _ _, (sx4.below hbx).up hbx.size, (hs2.below hbx).up hbx.size, (HS.out.below hb4).below (hbx.mono hb4.size), hb4.trans (hbx.mono hb4.size)⟩
  rw [← hW5, ← hg7]
  clear hW5 hg7 hbx x4 sx4 hs2 hb4 d0 d1 d2 d3 f1 l1
  have yr : (r0 != r0) = false := by simp
  go_wp2
  clear yr
  go_loopw [33] (fun i wr => ∃ (k : Nat) (fs : List Fl) (cap left : Int) (down : Bool) (A1 : Option Addr) (m1 c1 : Nat) (A2 : Option Addr) (m2 c2 : Nat), k ≤ n ∧ i = .int .i64 k ∧ Fine ⟨fs, cap, left, down⟩ ∧ fs.length = m1 ∧ fs.length = m2 ∧ m1 ≤ c1 ∧ m2 ≤ c2 ∧ Pl g5 g7 fs cap left down A1 m1 c1 A2 m2 c2 S l w wr) (fun i _ => n - (intOf i).toNat)
  case atStart => exact ⟨0, fs0, cap0, left0, down0, A1, m1, c1, A2, m2, c2, by omega, rfl, HF0.out, HL1.out, HL2.out, hm1, hm2, h5⟩
  case round =>
    clear h5 hm1 hm2 HL1 HL2 HR0 HF0
    obtain ⟨k, fs, cap, left, down, A1, m1, c1, A2, m2, c2, hk, rfl, hfine, hl1, hl2, hm1, hm2, h5⟩ := hrel
    have HF := Lib.hid hfine
    have HL1 := Lib.hid hl1
    have HL2 := Lib.hid hl2
    clear hfine hl1 hl2
    by_cases hlt : k < n
    · obtain ⟨x, hx⟩ := act_here HN.out hlt
      obtain ⟨hp1, hp2, hp3⟩ := HP.out x (List.mem_of_getElem? hx)
      obtain ⟨_, _, hkw, hnum⟩ := HSZ.out x (List.mem_of_getElem? hx)
      obtain ⟨bb, off, rfl, hbb, q0, q1, q2, q3, q4, q5, q6⟩ := act_at h5.sc hx
      have HKS : Hid (∀ W, Pl g5 g7 fs cap left down A1 m1 c1 A2 m2 c2 (some ⟨bb, off, none⟩) l w W → Seen W w.heap.size x.K (x.a.keep.map (Value.int .i64))) := fun W h => h.sc.2 x (List.mem_of_getElem? hx)
      have hbr : bb < wr.heap.size := by have := h5.b.size; omega
      clear hx
      obtain ⟨⟨act, ⟨op, file, b, k_⟩, keep, num⟩, K, kc⟩ := x
      simp only at q0 q1 q2 q3 q4 q5 q6 hp1 hp2 hp3 hkw hnum HKS
      obtain ⟨f1_, cap1, left1, down1, r1, h1⟩ : ∃ f1 cap1 left1 down1 r1, acts ⟨fs, cap, left, down⟩ ⟨act, ⟨op, file, b, k_⟩, keep, num⟩ = (⟨f1, cap1, left1, down1⟩, r1) := ⟨_, _, _, _, _, rfl⟩
      obtain ⟨fo, capo, lefto, downo, ro, h2⟩ : ∃ f1 cap1 left1 down1 r1, behind ⟨fs, cap, left, down⟩ ⟨act, ⟨op, file, b, k_⟩, keep, num⟩ = (⟨f1, cap1, left1, down1⟩, r1) := ⟨_, _, _, _, _, rfl⟩
      have hways := behind_ways h1
      have HWAYS := Lib.hid hways
      have HA := Lib.hid h1
      have HB := Lib.hid h2
      have HFZ := Lib.hid (fine_behind HF.out hnum h2)
      have hro : ro = r1 := by
        rcases hways with ⟨_, h⟩ | ⟨_, _, h⟩ | ⟨_, _, h⟩
        all_goals (rw [h2] at h; injection h)
      subst hro
      clear h1 h2 hways
      obtain ⟨d0, d1, d2, d3, f1⟩ := h5.x.cells4
      obtain ⟨e0, e1, e2, e3, f2⟩ := h5.y.cells4
      have l1 := h5.x.lt
      have l2 := h5.y.lt
      go_upto_region 10 with fail
      obtain ⟨W6, hW6⟩ : ∃ W6, W6 = wr.alloc (.cells #[.int .i64 act, .int .i8 op, .string file, .string b, .int .i64 k_, .slice K keep.length kc, .int .i64 num] 51) := ⟨_, rfl⟩
      obtain ⟨g10, hg10⟩ : ∃ g10, g10 = wr.heap.size := ⟨_, rfl⟩
      have hb6 := bel1 wr #[.int .i64 act, .int .i8 op, .string file, .string b, .int .i64 k_, .slice K keep.length kc, .int .i64 num] 51
      have a6 := new1 wr #[.int .i64 act, .int .i8 op, .string file, .string b, .int .i64 k_, .slice K keep.length kc, .int .i64 num] 51
      have h6 := h5.next hb6
      rw [← hW6] at a6 h6 ⊢
      rw [← hg10] at a6 ⊢
      have n510 : g5 < g10 := by rw [hg10]; exact h5.x.lt
      have n710 : g7 < g10 := by rw [hg10]; exact h5.y.lt
      clear hW6 hg10 hb6 h5 q0 q1 q2 q3 q4 q5 q6
      clear d0 d1 d2 d3 f1 e0 e1 e2 e3 f2 l1 l2
      obtain ⟨d0, d1, d2, d3, f1⟩ := h6.x.cells4
      obtain ⟨e0, e1, e2, e3, f2⟩ := h6.y.cells4
      have l1 := h6.x.lt
      have l2 := h6.y.lt
      obtain ⟨i0, i1, i2, i3, i4, i5, i6, f3⟩ := a6.cells7
      have l3 := a6.lt
      go_wp2_with fail
      refine (does_law A1 m1 c1 W6.heap.size fs cap left down act op file b k_ K kc keep num _ HL1.out h6.sx (Nat.le_refl _) hm1 HF.out ((HKS.out _ h6).up h6.b.size) (by omega) hp1 hkw (HG.out.next h6.b) fo capo lefto downo ro HB.out).mono ?_
      rintro e W7 ⟨A3, m3, c3, rfl, hl3, hs3, hm3, hx⟩
      have HL3 := Lib.hid hl3
      have h7 := h6.next hx
      have a7 := a6.below hx a6.lt
      have hz6 := hx.size
      clear hx h6 hl3 a6 i0 i1 i2 i3 i4 i5 i6 f3
      clear d0 d1 d2 d3 f1 e0 e1 e2 e3 f2 l1 l2
      obtain ⟨d0, d1, d2, d3, f1⟩ := h7.x.cells4
      obtain ⟨e0, e1, e2, e3, f2⟩ := h7.y.cells4
      have l1 := h7.x.lt
      have l2 := h7.y.lt
      obtain ⟨i0, i1, i2, i3, i4, i5, i6, f3⟩ := a7.cells7
      go_upto_region 12 with fail
      obtain ⟨W8, hW8⟩ : ∃ W8, W8 = (W7.alloc (.cells #[.slice A3 m3 c3, .int .i64 capo, .int .i64 lefto, .bool downo] 24)).alloc (.cells #[.slice A2 m2 c2, .int .i64 cap, .int .i64 left, .bool down] 24) := ⟨_, rfl⟩
      obtain ⟨g11, hg11⟩ : ∃ g11, g11 = W7.heap.size := ⟨_, rfl⟩
      obtain ⟨g13, hg13⟩ : ∃ g13, g13 = W7.heap.size + 1 := ⟨_, rfl⟩
      have hb8 := bel2 W7 #[.slice A3 m3 c3, .int .i64 capo, .int .i64 lefto, .bool downo] #[.slice A2 m2 c2, .int .i64 cap, .int .i64 left, .bool down] 24 24
      have hv8 := new2 W7 #[.slice A3 m3 c3, .int .i64 capo, .int .i64 lefto, .bool downo] #[.slice A2 m2 c2, .int .i64 cap, .int .i64 left, .bool down] 24 24
      have h8 : Pm g5 g7 g10 g11 g13 #[.int .i64 act, .int .i8 op, .string file, .string b, .int .i64 k_, .slice K keep.length kc, .int .i64 num] fs cap left down A1 m1 c1 A2 m2 c2 fo capo lefto downo A3 m3 c3 fs cap left down A2 m2 c2 (some ⟨bb, off, none⟩) l w W8 := by
        rw [hW8, hg11, hg13]
        exact ⟨h7.next hb8, a7.below hb8 a7.lt, hv8.1, hv8.2, (hs3.below hb8).up hb8.size, (h7.sy.below hb8).up hb8.size⟩
      have n513 : g5 ≠ g13 := by rw [hg13]; have := h7.x.lt; omega
      have n713 : g7 ≠ g13 := by rw [hg13]; have := h7.y.lt; omega
      have n1013 : g10 ≠ g13 := by rw [hg13]; have := a7.lt; omega
      have n1113 : g11 ≠ g13 := by rw [hg13, hg11]; omega
      have n511 : g5 ≠ g11 := by rw [hg11]; have := h7.x.lt; omega
      have n711 : g7 ≠ g11 := by rw [hg11]; have := h7.y.lt; omega
      have hz13 : w.heap.size ≤ g13 := by rw [hg13]; have := h7.b.size; omega
      rw [← hW8, ← hg11]
      rw [show g11 + 1 = g13 by omega]
      clear hW8 hg11 hg13 hb8 hv8 hs3 h7 a7 hz6 i0 i1 i2 i3 i4 i5 i6 f3
      clear d0 d1 d2 d3 f1 e0 e1 e2 e3 f2 l1 l2
      clear l3
      obtain ⟨d0, d1, d2, d3, f1⟩ := h8.pl.x.cells4
      obtain ⟨e0, e1, e2, e3, f2⟩ := h8.pl.y.cells4
      have l1 := h8.pl.x.lt
      have l2 := h8.pl.y.lt
      obtain ⟨i0, i1, i2, i3, i4, i5, i6, f3⟩ := h8.a.cells7
      obtain ⟨o0, o1, o2, o3, f4⟩ := h8.o.cells4
      obtain ⟨p0, p1, p2, p3, f5⟩ := h8.p.cells4
      have l3 := h8.a.lt
      have l4 := h8.o.lt
      have l5 := h8.p.lt
      go_upto_block 2 with fail
      go_cut [14] (fun s14 wx => s14 = .int .i64 ro ∧ ∃ A4 m4 c4, f1_.length = m4 ∧ m4 ≤ c4 ∧ Pm g5 g7 g10 g11 g13 #[.int .i64 act, .int .i8 op, .string file, .string b, .int .i64 k_, .slice K keep.length kc, .int .i64 num] fs cap left down A1 m1 c1 A2 m2 c2 fo capo lefto downo A3 m3 c3 f1_ cap1 left1 down1 A4 m4 c4 (some ⟨bb, off, none⟩) l w wx)
      case first =>
        by_cases a0 : act = 0
        · have h1 := HA.out
          unfold acts at h1
          simp only at h1
          rw [if_pos a0] at h1
          have HR := Lib.hid h1
          subst a0
          clear h1
          go_wp2_with fail
          refine (ref_do_any A2 m2 c2 W8.heap.size fs f1_ cap left cap1 left1 down down1 op file b k_ ro _ HL2.out h8.pl.sy (Nat.le_refl _) HF.out.small hm2 (by omega) (by omega) HF.out.2.2 HR.out).mono ?_
          rintro e W9 ⟨A4, m4, c4, rfl, hl4, hs4, hm4, hx⟩
          have HL4 := Lib.hid hl4
          have h9 := h8.next hx
          clear hx h8 hl4
          clear d0 d1 d2 d3 f1 e0 e1 e2 e3 f2 l1 l2
          clear i0 i1 i2 i3 i4 i5 i6 f3 o0 o1 o2 o3 f4 p0 p1 p2 p3 f5 l3 l4 l5
          obtain ⟨d0, d1, d2, d3, f1⟩ := h9.pl.x.cells4
          obtain ⟨e0, e1, e2, e3, f2⟩ := h9.pl.y.cells4
          have l1 := h9.pl.x.lt
          have l2 := h9.pl.y.lt
          obtain ⟨i0, i1, i2, i3, i4, i5, i6, f3⟩ := h9.a.cells7
          obtain ⟨o0, o1, o2, o3, f4⟩ := h9.o.cells4
          obtain ⟨p0, p1, p2, p3, f5⟩ := h9.p.cells4
          have l3 := h9.a.lt
          have l4 := h9.o.lt
          have l5 := h9.p.lt
          have ha := h9.setp (capq := cap1) (leftq := left1) (downq := down1) (m5 := m4) (c5 := c4) n513 n713 n1013 n1113 hz13 hs4
          go_wp2_with fail
          go_meet
          exact ⟨rfl, A4, m4, c4, HL4.out, hm4, ha⟩
        by_cases a1 : act = 1
        · have h1 := HA.out
          unfold acts at h1
          simp only at h1
          rw [if_neg a0, if_pos a1] at h1
          have HR := Lib.hid h1
          subst a1
          clear h1
          go_wp2_with fail
          refine (ref_crash_any A2 K m2 c2 W8.heap.size keep.length kc fs f1_ keep cap left cap1 left1 down down1 ro _ HL2.out h8.pl.sy (Nat.le_refl _) HF.out.small rfl ((HKS.out _ h8.pl).up h8.pl.b.size) hkw HR.out).mono ?_
          rintro e W9 ⟨A4, m4, c4, rfl, hl4, hs4, hm4, hx⟩
          have HL4 := Lib.hid hl4
          have h9 := h8.next hx
          clear hx h8 hl4
          clear d0 d1 d2 d3 f1 e0 e1 e2 e3 f2 l1 l2
          clear i0 i1 i2 i3 i4 i5 i6 f3 o0 o1 o2 o3 f4 p0 p1 p2 p3 f5 l3 l4 l5
          obtain ⟨d0, d1, d2, d3, f1⟩ := h9.pl.x.cells4
          obtain ⟨e0, e1, e2, e3, f2⟩ := h9.pl.y.cells4
          have l1 := h9.pl.x.lt
          have l2 := h9.pl.y.lt
          obtain ⟨i0, i1, i2, i3, i4, i5, i6, f3⟩ := h9.a.cells7
          obtain ⟨o0, o1, o2, o3, f4⟩ := h9.o.cells4
          obtain ⟨p0, p1, p2, p3, f5⟩ := h9.p.cells4
          have l3 := h9.a.lt
          have l4 := h9.o.lt
          have l5 := h9.p.lt
          have ha := h9.setp (capq := cap1) (leftq := left1) (downq := down1) (m5 := m4) (c5 := c4) n513 n713 n1013 n1113 hz13 hs4
          go_wp2_with fail
          go_meet
          exact ⟨rfl, A4, m4, c4, HL4.out, hm4, ha⟩
        by_cases a2 : act = 2
        · have h1 := HA.out
          unfold acts at h1
          simp only at h1
          rw [if_neg a0, if_neg a1, if_pos a2] at h1
          have HR := Lib.hid h1
          subst a2
          clear h1
          go_wp2_with fail
          refine (ref_arm_any A2 m2 c2 W8.heap.size fs f1_ cap left num cap1 left1 down down1 ro _ HL2.out h8.pl.sy (Nat.le_refl _) HF.out.small hm2 HR.out).mono ?_
          rintro e W9 ⟨A4, m4, c4, rfl, hl4, hs4, hm4, hx⟩
          have HL4 := Lib.hid hl4
          have h9 := h8.next hx
          clear hx h8 hl4
          clear d0 d1 d2 d3 f1 e0 e1 e2 e3 f2 l1 l2
          clear i0 i1 i2 i3 i4 i5 i6 f3 o0 o1 o2 o3 f4 p0 p1 p2 p3 f5 l3 l4 l5
          obtain ⟨d0, d1, d2, d3, f1⟩ := h9.pl.x.cells4
          obtain ⟨e0, e1, e2, e3, f2⟩ := h9.pl.y.cells4
          have l1 := h9.pl.x.lt
          have l2 := h9.pl.y.lt
          obtain ⟨i0, i1, i2, i3, i4, i5, i6, f3⟩ := h9.a.cells7
          obtain ⟨o0, o1, o2, o3, f4⟩ := h9.o.cells4
          obtain ⟨p0, p1, p2, p3, f5⟩ := h9.p.cells4
          have l3 := h9.a.lt
          have l4 := h9.o.lt
          have l5 := h9.p.lt
          have ha := h9.setp (capq := cap1) (leftq := left1) (downq := down1) (m5 := m4) (c5 := c4) n513 n713 n1013 n1113 hz13 hs4
          go_wp2_with fail
          go_meet
          exact ⟨rfl, A4, m4, c4, HL4.out, hm4, ha⟩
        · have h1 := HA.out
          unfold acts at h1
          simp only at h1
          rw [if_neg a0, if_neg a1, if_neg a2] at h1
          simp only [Prod.mk.injEq, Dk.mk.injEq] at h1
          obtain ⟨⟨e1_, e2_, e3_, e4_⟩, e5_⟩ := h1
          have y0 : (act == 0) = false := by rw [beq_eq_false_iff_ne]; exact a0
          have y1 : (act == 1) = false := by rw [beq_eq_false_iff_ne]; exact a1
          have y2 : (act == 2) = false := by rw [beq_eq_false_iff_ne]; exact a2
          have hfin : ∃ A4 m4 c4, f1_.length = m4 ∧ m4 ≤ c4 ∧ Pm g5 g7 g10 g11 g13 #[.int .i64 act, .int .i8 op, .string file, .string b, .int .i64 k_, .slice K keep.length kc, .int .i64 num] fs cap left down A1 m1 c1 A2 m2 c2 fo capo lefto downo A3 m3 c3 f1_ cap1 left1 down1 A4 m4 c4 (some ⟨bb, off, none⟩) l w W8 := by
            subst e1_ e2_ e3_ e4_
            exact ⟨A2, m2, c2, HL2.out, hm2, h8⟩
          have HFIN := Lib.hid hfin
          have HE5 := Lib.hid e5_
          clear a0 a1 a2 e1_ e2_ e3_ e4_ e5_ hfin
          go_wp2_with fail
          go_meet
          exact ⟨by rw [HE5.out], HFIN.out⟩
      case rest =>
        obtain ⟨rfl, A4, m4, c4, hl4, hm4, hb⟩ := hcut
        have HL4 := Lib.hid hl4
        clear hl4 h8
        clear d0 d1 d2 d3 f1 e0 e1 e2 e3 f2 l1 l2
        clear i0 i1 i2 i3 i4 i5 i6 f3 o0 o1 o2 o3 f4 p0 p1 p2 p3 f5 l3 l4 l5
        obtain ⟨d0, d1, d2, d3, f1⟩ := hb.pl.x.cells4
        obtain ⟨e0, e1, e2, e3, f2⟩ := hb.pl.y.cells4
        have l1 := hb.pl.x.lt
        have l2 := hb.pl.y.lt
        obtain ⟨i0, i1, i2, i3, i4, i5, i6, f3⟩ := hb.a.cells7
        obtain ⟨o0, o1, o2, o3, f4⟩ := hb.o.cells4
        obtain ⟨p0, p1, p2, p3, f5⟩ := hb.p.cells4
        have l3 := hb.a.lt
        have l4 := hb.o.lt
        have l5 := hb.p.lt
        have yr : (ro != ro) = false := by simp
        rcases HWAYS.out with ⟨h0, hx⟩ | ⟨h0, hdn, hx⟩ | ⟨h0, hdn, hx⟩
        · rw [HB.out] at hx
          simp only [Prod.mk.injEq, Dk.mk.injEq] at hx
          obtain ⟨⟨rfl, rfl, rfl, rfl⟩, _⟩ := hx
          subst h0
          go_upto_region 23 with fail
          have hd := hb.done n57 hz5 hz7
          go_region
          all_goals
            go_upto_region 24 with fail
            obtain ⟨We, hWe⟩ : ∃ We, We = ((((((((wc.setCell ⟨g5, 0, none⟩ (.slice A3 m3 c3)).setCell ⟨g5, 1, none⟩ (.int .i64 capo)).setCell ⟨g5, 2, none⟩ (.int .i64 lefto)).setCell ⟨g5, 3, none⟩ (.bool downo)).setCell ⟨g7, 0, none⟩ (.slice A4 m4 c4)).setCell ⟨g7, 1, none⟩ (.int .i64 capo)).setCell ⟨g7, 2, none⟩ (.int .i64 lefto)).setCell ⟨g7, 3, none⟩ (.bool downo)).drew := ⟨_, rfl⟩
            have he := hd.next (Below.refl _ _).drew
            rw [← hWe] at he ⊢
            clear hWe hd hb
            clear d0 d1 d2 d3 f1 e0 e1 e2 e3 f2 l1 l2
            clear i0 i1 i2 i3 i4 i5 i6 f3 o0 o1 o2 o3 f4 p0 p1 p2 p3 f5 l3 l4 l5
            obtain ⟨d0, d1, d2, d3, f1⟩ := he.x.cells4
            obtain ⟨e0, e1, e2, e3, f2⟩ := he.y.cells4
            have l1 := he.x.lt
            have l2 := he.y.lt
            go_wp2_with fail
            refine (ref_same_any A3 A4 m3 m4 c3 c4 We.heap.size fo fo capo capo lefto lefto downo downo true _ HL3.out HL4.out he.sx he.sy (Nat.le_refl _) (by rw [← HL3.out]; exact HFZ.out.small.1) (by rw [← HL4.out]; exact HFZ.out.small.1) (same_self_ _)).mono ?_
            rintro e Wf ⟨rfl, hx⟩
            have hf := he.next hx
            clear hx he
            go_wp2
            go_roundw
            case rel => exact ⟨k + 1, fo, capo, lefto, downo, A3, m3, c3, A4, m4, c4, by omega, by go_num, HFZ.out, HL3.out, HL4.out, hm3, hm4, hf⟩
            case measure => simp [intOf]; omega
        · rw [HB.out] at hx
          simp only [Prod.mk.injEq, Dk.mk.injEq] at hx
          obtain ⟨⟨rfl, rfl, rfl, rfl⟩, _⟩ := hx
          obtain rfl : down1 = false := hdn
          have t1 : (ro != 0) = true := by simp [h0]
          have t2 : (ro == 0) = false := by rw [beq_eq_false_iff_ne]; exact h0
          clear h0
          have hb' := hb.setp (capq := capo) (leftq := lefto) (downq := downo) (m5 := m2) (c5 := c2) n513 n713 n1013 n1113 hz13 hb.pl.sy
          go_upto_region 23 with fail
          obtain ⟨Wd, hWd⟩ : ∃ Wd, Wd = (((wc.setCell ⟨g13, 0, none⟩ (.slice A2 m2 c2)).setCell ⟨g13, 1, none⟩ (.int .i64 capo)).setCell ⟨g13, 2, none⟩ (.int .i64 lefto)).setCell ⟨g13, 3, none⟩ (.bool downo) := ⟨_, rfl⟩
          rw [← hWd] at hb' ⊢
          clear hWd hb
          clear d0 d1 d2 d3 f1 e0 e1 e2 e3 f2 l1 l2
          clear i0 i1 i2 i3 i4 i5 i6 f3 o0 o1 o2 o3 f4 p0 p1 p2 p3 f5 l3 l4 l5
          obtain ⟨d0, d1, d2, d3, f1⟩ := hb'.pl.x.cells4
          obtain ⟨e0, e1, e2, e3, f2⟩ := hb'.pl.y.cells4
          have l1 := hb'.pl.x.lt
          have l2 := hb'.pl.y.lt
          obtain ⟨i0, i1, i2, i3, i4, i5, i6, f3⟩ := hb'.a.cells7
          obtain ⟨o0, o1, o2, o3, f4⟩ := hb'.o.cells4
          obtain ⟨p0, p1, p2, p3, f5⟩ := hb'.p.cells4
          have l3 := hb'.a.lt
          have l4 := hb'.o.lt
          have l5 := hb'.p.lt
          have hd := hb'.done n57 hz5 hz7
          go_region
          all_goals
            go_upto_region 24 with fail
            obtain ⟨We, hWe⟩ : ∃ We, We = ((((((((Wd.setCell ⟨g5, 0, none⟩ (.slice A3 m3 c3)).setCell ⟨g5, 1, none⟩ (.int .i64 capo)).setCell ⟨g5, 2, none⟩ (.int .i64 lefto)).setCell ⟨g5, 3, none⟩ (.bool downo)).setCell ⟨g7, 0, none⟩ (.slice A2 m2 c2)).setCell ⟨g7, 1, none⟩ (.int .i64 capo)).setCell ⟨g7, 2, none⟩ (.int .i64 lefto)).setCell ⟨g7, 3, none⟩ (.bool downo)).drew := ⟨_, rfl⟩
            have he := hd.next (Below.refl _ _).drew
            rw [← hWe] at he ⊢
            clear hWe hd hb'
            clear d0 d1 d2 d3 f1 e0 e1 e2 e3 f2 l1 l2
            clear i0 i1 i2 i3 i4 i5 i6 f3 o0 o1 o2 o3 f4 p0 p1 p2 p3 f5 l3 l4 l5
            obtain ⟨d0, d1, d2, d3, f1⟩ := he.x.cells4
            obtain ⟨e0, e1, e2, e3, f2⟩ := he.y.cells4
            have l1 := he.x.lt
            have l2 := he.y.lt
            go_wp2_with fail
            refine (ref_same_any A3 A2 m3 m2 c3 c2 We.heap.size fo fo capo capo lefto lefto downo downo true _ HL3.out HL2.out he.sx he.sy (Nat.le_refl _) (by rw [← HL3.out]; exact HFZ.out.small.1) (by rw [← HL2.out]; exact HFZ.out.small.1) (same_self_ _)).mono ?_
            rintro e Wf ⟨rfl, hx⟩
            have hf := he.next hx
            clear hx he
            go_wp2
            go_roundw
            case rel => exact ⟨k + 1, fo, capo, lefto, downo, A3, m3, c3, A2, m2, c2, by omega, by go_num, HFZ.out, HL3.out, HL2.out, hm3, hm2, hf⟩
            case measure => simp [intOf]; omega
        · rw [HB.out] at hx
          simp only [Prod.mk.injEq, Dk.mk.injEq] at hx
          obtain ⟨⟨rfl, rfl, rfl, rfl⟩, _⟩ := hx
          obtain rfl : downo = true := hdn
          have t1 : (ro != 0) = true := by simp [h0]
          have t2 : (ro == 0) = false := by rw [beq_eq_false_iff_ne]; exact h0
          clear h0
          go_upto_region 23 with fail
          have hd := hb.done n57 hz5 hz7
          go_region
          all_goals
            go_upto_region 24 with fail
            obtain ⟨We, hWe⟩ : ∃ We, We = ((((((((wc.setCell ⟨g5, 0, none⟩ (.slice A3 m3 c3)).setCell ⟨g5, 1, none⟩ (.int .i64 capo)).setCell ⟨g5, 2, none⟩ (.int .i64 lefto)).setCell ⟨g5, 3, none⟩ (.bool true)).setCell ⟨g7, 0, none⟩ (.slice A4 m4 c4)).setCell ⟨g7, 1, none⟩ (.int .i64 capo)).setCell ⟨g7, 2, none⟩ (.int .i64 lefto)).setCell ⟨g7, 3, none⟩ (.bool true)).drew := ⟨_, rfl⟩
            have he := hd.next (Below.refl _ _).drew
            rw [← hWe] at he ⊢
            clear hWe hd hb
            clear d0 d1 d2 d3 f1 e0 e1 e2 e3 f2 l1 l2
            clear i0 i1 i2 i3 i4 i5 i6 f3 o0 o1 o2 o3 f4 p0 p1 p2 p3 f5 l3 l4 l5
            obtain ⟨d0, d1, d2, d3, f1⟩ := he.x.cells4
            obtain ⟨e0, e1, e2, e3, f2⟩ := he.y.cells4
            have l1 := he.x.lt
            have l2 := he.y.lt
            go_wp2_with fail
            refine (ref_same_any A3 A4 m3 m4 c3 c4 We.heap.size fo fo capo capo lefto lefto true true true _ HL3.out HL4.out he.sx he.sy (Nat.le_refl _) (by rw [← HL3.out]; exact HFZ.out.small.1) (by rw [← HL4.out]; exact HFZ.out.small.1) (same_self_ _)).mono ?_
            rintro e Wf ⟨rfl, hx⟩
            have hf := he.next hx
            clear hx he
            go_wp2
            go_roundw
            case rel => exact ⟨k + 1, fo, capo, lefto, true, A3, m3, c3, A4, m4, c4, by omega, by go_num, HFZ.out, HL3.out, HL4.out, hm3, hm4, hf⟩
            case measure => simp [intOf]; omega
    · have hke : k = n := by omega
      subst hke
      go_wp2_with fail
      refine (wakes_any _ (HG.out.next h5.b)).mono ?_
      rintro e WX ⟨rfl, hx⟩
      have hbx := h5.b.trans (hx.mono h5.b.size)
      go_wp2
      go_ret
      exact ⟨rfl, hbx⟩
theorem plays_walk (most : Int) (S : Option Addr) (n c : Nat) (l : List AcM) (w : World) (hn : l.length = n) (hs : Script w w.heap.size S l) (hmax : n ≤ 9223372036854775807) (hsz : ∀ x ∈ l, AcFits x) (hG : Glob w) :
    Calls Tryd.prog 4 #[.int .i64 most, .slice S n c] w fun e w' => e = .returned (.bool true) ∧ Below w.heap.size w w' := by
  cases hgr : greatA l with
  | true => exact plays_great most S n c l w hn hs hmax hsz hG hgr
  | false => exact plays_main most S n c l w hn hs hmax hsz hG hgr
end Go.Proofs.YtbglpmjfajmkdaaDoor
