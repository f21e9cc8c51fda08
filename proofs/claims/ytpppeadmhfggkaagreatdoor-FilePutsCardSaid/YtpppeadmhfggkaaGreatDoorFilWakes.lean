/-
  The law's 'wakes': it returns true; what was there is as it was. Condition: the one package variable of errors holds what the program's text lays (Glob).
-/
import Derived.Test.YtpppeadmhfggkaaGreatDoorFilPut
import Derived.Test.YtpppeadmhfggkaaGreatDoorDskNew
namespace Go.Proofs.YtpppeadmhfggkaaGreatDoor
open Go.RowKit DP

def wkB : ByteArray := { data := #[1, 0, 0, 0, 120] }
def wkC : ByteArray := { data := #[1, 0, 0, 0, 120, 2, 0] }
def wkA : ByteArray := { data := #[97] }
theorem wk_flat : flatS [[120]] = wkB := by
  rw [flatS_yes (by decide)]
  rfl
theorem wk_rows : FP.rows (bytesOf wkC) = [[120]] ∧ FP.torn (bytesOf wkC) = 2 := by
  have e : bytesOf wkC = FP.enc [120] ++ [2, 0] := rfl
  rw [e, FP.rows_enc (by simp), FP.torn_enc (by simp), FP.rows_end (FP.fst_short (by simp)), FP.torn_end (FP.fst_short (by simp))]
  exact ⟨rfl, rfl⟩
theorem wk_rows2 : FP.rows (bytesOf wkB) = [[120]] ∧ FP.torn (bytesOf wkB) = 0 := by
  have e : bytesOf wkB = FP.enc [120] ++ [] := rfl
  rw [e, FP.rows_enc (by simp), FP.torn_enc (by simp), FP.rows_nil, FP.torn_nil]
  exact ⟨rfl, rfl⟩

theorem wk_a : okName wkA = true := by decide
theorem wk_get (b : ByteArray) (s : Int) : DP.get [⟨wkA, b, s⟩] wkA = some ⟨wkA, b, s⟩ := by
  unfold DP.get
  rw [List.find?_cons_of_pos (by exact eqS_self _)]
theorem wk_put (b b' : ByteArray) (s s' : Int) (h : 0 < b'.size) : put [⟨wkA, b, s⟩] ⟨wkA, b', s'⟩ = [⟨wkA, b', s'⟩] := by
  unfold put opt
  rw [if_neg (by simp only; omega), List.filter_cons_of_neg (by simp [ltS_irrefl]), List.filter_cons_of_neg (by simp [ltS_irrefl])]
  rfl
theorem wk_check (b : ByteArray) (s : Int) (h : 0 < b.size) (h' : b.size ≤ 100) (h0 : 0 ≤ s) (h1 : s ≤ b.size) : check ⟨[⟨wkA, b, s⟩], 100, -1, false⟩ = true := by
  apply check_mk
  · simp
  · simp
  · simp
  · simp [used]; omega
  · simp only [rises, Bool.and_true, Bool.and_eq_true]
    exact ⟨okFl_mk wk_a h h0 h1, ltS_none (by decide)⟩
theorem wk_does (b b' : ByteArray) (s s' : Int) (w : Wr) (h : 0 < b.size) (h' : b.size ≤ 100) (h0 : 0 ≤ s) (h1 : s ≤ b.size) (hop : isOp w = true) (hf : w.file = wkA) (hk : w.n ≤ b.size) (hch : changed ⟨wkA, b, s⟩ w = ⟨wkA, b', s'⟩) (hb' : 0 < b'.size) (hb2 : b'.size ≤ 100) :
    does ⟨[⟨wkA, b, s⟩], 100, -1, false⟩ w = (⟨[⟨wkA, b', s'⟩], 100, -1, false⟩, 0) := by
  have hc := wk_check b s h h' h0 h1
  unfold does
  rw [if_neg (by rw [hc, hop]; simp), if_neg (by simp), if_neg (by simp)]
  unfold done
  simp only [hf, wk_get, Option.getD_some]
  rw [if_neg (by simp), if_neg (by omega), hch, wk_put _ _ _ _ hb']
  simp [used]
  omega
theorem wk_does1 : does ⟨[], 100, -1, false⟩ ⟨0, wkA, wkB, 0⟩ = (⟨[⟨wkA, wkB, 0⟩], 100, -1, false⟩, 0) := by
  have hc : check ⟨[], 100, -1, false⟩ = true := by decide
  have hop : isOp ⟨0, wkA, wkB, 0⟩ = true := by decide
  unfold does
  rw [if_neg (by rw [hc, hop]; simp), if_neg (by simp), if_neg (by simp)]
  rfl
/-- Put of "x". -/
theorem wk_puts : puts ⟨[], 100, -1, false⟩ wkA [[120]] = (⟨[⟨wkA, wkB, 5⟩], 100, -1, false⟩, none) := by
  unfold puts
  rw [wk_flat, doAll_ok wk_does1, doAll_ok (wk_does wkB wkB 0 5 ⟨1, wkA, none_, 0⟩ (by decide) (by decide) (by decide) (by decide) (by decide) rfl (by decide) rfl (by decide) (by decide)), doAll_nil]
/-- Two bytes more. -/
theorem wk_more : does ⟨[⟨wkA, wkB, 5⟩], 100, -1, false⟩ ⟨0, wkA, { data := #[2, 0] }, 0⟩ = (⟨[⟨wkA, wkC, 5⟩], 100, -1, false⟩, 0) :=
  wk_does wkB wkC 5 5 ⟨0, wkA, { data := #[2, 0] }, 0⟩ (by decide) (by decide) (by decide) (by decide) (by decide) rfl (by decide) (by rfl) (by decide) (by decide)
theorem wk_bytes (b : ByteArray) (s : Int) : bytesIn ⟨[⟨wkA, b, s⟩], 100, -1, false⟩ wkA = b := by
  unfold bytesIn
  simp only [wk_get, Option.getD_some]
theorem wk_mends : mends ⟨[⟨wkA, wkC, 5⟩], 100, -1, false⟩ wkA = (⟨[⟨wkA, wkB, 5⟩], 100, -1, false⟩, none) := by
  have ht : tornIn ⟨[⟨wkA, wkC, 5⟩], 100, -1, false⟩ wkA = 2 := by unfold tornIn; rw [wk_bytes, wk_rows.2]
  have hd := wk_does wkC wkB 5 5 ⟨3, wkA, none_, 5⟩ (by decide) (by decide) (by decide) (by decide) (by decide) rfl (by decide) (by rfl) (by decide) (by decide)
  unfold mends mendOps
  rw [ht, wk_bytes, if_neg (by omega)]
  exact (doAll_ok (r := []) hd).trans (doAll_nil _)
/-- Put of "x" into a file that no name. -/
theorem wk_bad : puts ⟨[⟨wkA, wkB, 5⟩], 100, -1, false⟩ { data := #[65] } [[120]] = (⟨[⟨wkA, wkB, 5⟩], 100, -1, false⟩, some (0, { data := #[65] }, 2)) := by
  have hd : does ⟨[⟨wkA, wkB, 5⟩], 100, -1, false⟩ ⟨0, { data := #[65] }, wkB, 0⟩ = (noDisk, 2) := by
    unfold does
    rw [if_pos (.inr (by decide))]
  unfold puts
  rw [wk_flat]
  exact doAll_no hd (by decide) (by decide)
theorem wk_mild (b : ByteArray) (h : b.size ≤ 100) : Mild ⟨[⟨wkA, b, 5⟩], 100, -1, false⟩ := by
  refine ⟨⟨by simp, fun f hf => ?_⟩, by simp only; omega, by simp only; omega⟩
  rw [List.mem_singleton] at hf
  subst hf
  exact ⟨by simp only; omega, by show (1 : Nat) ≤ 100; omega⟩
theorem wk_rowsIn (b : ByteArray) (s : Int) : rowsIn ⟨[⟨wkA, b, s⟩], 100, -1, false⟩ wkA = FP.rows (bytesOf b) ∧ tornIn ⟨[⟨wkA, b, s⟩], 100, -1, false⟩ wkA = FP.torn (bytesOf b) := by
  unfold rowsIn tornIn
  rw [wk_bytes]
  exact ⟨rfl, rfl⟩

/-- Block g is a variable that holds the disk d. -/
def DkAt (d : Dk) (A : Option Addr) (m c g : Nat) (wx : World) : Prop :=
  d.fs.length = m ∧ Seen wx wx.heap.size A (fcells d.fs) ∧ m ≤ c ∧ Var wx g 24 #[.slice A m c, .int .i64 d.cap, .int .i64 d.left, .bool d.down]
section
variable {d : Dk} {A : Option Addr} {m c g : Nat} {a b w6 : World}
theorem DkAt.grow (h : DkAt d A m c g a) (hb : Below a.heap.size a b) : DkAt d A m c g b :=
  ⟨h.1, (h.2.1.below hb).up hb.size, h.2.2.1, h.2.2.2.below hb h.2.2.2.lt⟩
theorem DkAt.alloc (h : DkAt d A m c g a) (o : Obj) : DkAt d A m c g (a.alloc o) := h.grow ((Below.refl _ _).alloc (Nat.le_refl _) _)
theorem DkAt.lt (h : DkAt d A m c g a) : g < a.heap.size := h.2.2.2.lt
theorem DkAt.new (hl : d.fs.length = m) (hs : Seen w6 w6.heap.size A (fcells d.fs)) (hc : m ≤ c) :
    DkAt d A m c w6.heap.size (w6.alloc (.cells #[.slice A m c, .int .i64 d.cap, .int .i64 d.left, .bool d.down] 24)) :=
  ⟨hl, (hs.below ((Below.refl _ _).alloc (Nat.le_refl _) _)).up (by simp), hc, new1 w6 _ _⟩
/-- What a call hands back is stored into the variable. -/
theorem DkAt.step {o0 o1 o2 o3 : Value} (hl : d.fs.length = m) (hs : Seen w6 w6.heap.size A (fcells d.fs)) (hc : m ≤ c) (hv : Var w6 g 24 #[o0, o1, o2, o3])
    (ho : ∀ (i : Nat) (s : ByteArray), (#[o0, o1, o2, o3] : Array Value)[i]? ≠ some (Value.string s)) :
    DkAt d A m c g ((((w6.setCell ⟨g, 0, none⟩ (.slice A m c)).setCell ⟨g, 1, none⟩ (.int .i64 d.cap)).setCell ⟨g, 2, none⟩ (.int .i64 d.left)).setCell ⟨g, 3, none⟩ (.bool d.down)) :=
  have ha := seen_apart hs hv ho
  ⟨hl, ((((hs.off ha).off ha).off ha).off ha).up (by simp), hc, set4_var hv⟩
end

set_option maxRecDepth 100000 in
set_option maxHeartbeats 4000000 in
theorem wakes_any (w : World) (hG : Glob w) : Calls Tryz.prog 7 #[] w fun e w' => e = .returned (.bool true) ∧ Below w.heap.size w w' := by
  have HG := Lib.hid hG
  clear hG
  go_enter Tryz.func7, Tryz.ntmps7
  go_wp2_with fail
  refine (new_any 100 100 (-1) [] false 0 _ (by rfl)).mono ?_
  rintro e w1 ⟨A1, m1, c1, rfl, hl1, hs1, hc1, hb1⟩
  have HL1 := Lib.hid hl1
  clear hl1
  have hb1' := hb1
  have hv := new2 w1 #[.slice A1 m1 c1, .int .i64 100, .int .i64 (-1), .bool false] #[.string { data := #[120] }] 24 9
  have hbs := bel2 w1 #[.slice A1 m1 c1, .int .i64 100, .int .i64 (-1), .bool false] #[.string { data := #[120] }] 24 9
  have hsx : Seen ((w1.alloc (.cells #[.slice A1 m1 c1, .int .i64 100, .int .i64 (-1), .bool false] 24)).alloc (.cells #[.string { data := #[120] }] 9)) (w1.heap.size + 1 + 1) (some ⟨w1.heap.size + 1, 0, none⟩) (strs [[120]]) := by
    have := Seen.new (w1.alloc (.cells #[.slice A1 m1 c1, .int .i64 100, .int .i64 (-1), .bool false] 24)) [.string { data := #[120] }] 9
    rw [World.size_alloc] at this
    exact this
  have hz1 := hb1.size
  go_wp2_with fail
  refine (fput_any A1 (some ⟨w1.heap.size + 1, 0, none⟩) m1 c1 w1.heap.size 1 1 (w1.heap.size + 1 + 1) [] 100 (-1) false wkA [[120]] ⟨[⟨wkA, wkB, 5⟩], 100, -1, false⟩ none _ (HG.out.next (hb1.trans (hbs.mono hz1))) HL1.out (hs1.below hbs) (by simp; omega) ⟨⟨by simp, by simp⟩, by decide, by decide⟩ (by decide) rfl (by decide) (by simp) hsx (by simp) wk_puts).mono ?_
  rintro e w2 ⟨A2, m2, c2, ev2, rfl, hl2, hs2, hc2, hev2, hb2⟩
  obtain rfl : ev2 = .nilIface := hev2
  obtain ⟨g, hg⟩ : ∃ g, g = w1.heap.size := ⟨_, rfl⟩
  have v2 := Var.below hv.1 hb2 (by simp; omega)
  have hbw2 : Below w.heap.size w w2 := (hb1.trans (hbs.mono hz1)).trans (hb2.mono (by simp; omega))
  rw [← hg] at v2
  have hg0 : w.heap.size ≤ g := by omega
  have hd3 := DkAt.step hl2 hs2 hc2 v2 disk_noText
  have hbw3 := hbw2.trans (set4_below (a := .slice A2 m2 c2) (b := .int .i64 100) (c := .int .i64 (-1)) (d := .bool false) (W := w2) hg0)
  obtain ⟨d0, d1, d2, d3, f2⟩ := v2.cells4
  have HL2 := Lib.hid hl2
  have HD3 := Lib.hid hd3
  clear hb1 hb1' hs1 hc1 hv hbs hsx hb2 hl2 hs2 hc2 hbw2 hd3 v2
  rw [← hg]
  clear hg hz1
  go_wp2_with fail
  have hd3 := HD3.out
  obtain ⟨W3, hW3⟩ : ∃ W3, W3 = (((w2.setCell ⟨g, 0, none⟩ (.slice A2 m2 c2)).setCell ⟨g, 1, none⟩ (.int .i64 100)).setCell ⟨g, 2, none⟩ (.int .i64 (-1))).setCell ⟨g, 3, none⟩ (.bool false) := ⟨_, rfl⟩
  rw [← hW3] at hd3 hbw3 ⊢
  clear hW3 HD3 d0 d1 d2 d3 f2
  obtain ⟨hl3, hs3, hc3, v3⟩ := hd3
  have HL3 := Lib.hid hl3
  clear hl3
  obtain ⟨d0, d1, d2, d3, f3⟩ := v3.cells4
  -- two bytes more
  refine (do_any A2 m2 c2 W3.heap.size _ _ 100 (-1) 100 (-1) false false 0 wkA { data := #[2, 0] } 0 0 _ (HG.out.next hbw3) HL3.out hs3 (Nat.le_refl _) (wk_mild wkB (by decide)).1 (by decide) (by decide) (by decide) (by decide) wk_more).mono ?_
  rintro e w4 ⟨A4, m4, c4, rfl, hl4, hs4, hc4, hb4⟩
  have v4 := Var.below v3 hb4 v3.lt
  have hbw4 : Below w.heap.size w w4 := hbw3.trans (hb4.mono hbw3.size)
  have hd5 := DkAt.step (d := ⟨[⟨wkA, wkC, 5⟩], 100, -1, false⟩) hl4 hs4 hc4 v4 disk_noText
  have hbw5 := hbw4.trans (set4_below (a := .slice A4 m4 c4) (b := .int .i64 100) (c := .int .i64 (-1)) (d := .bool false) (W := w4) hg0)
  clear d0 d1 d2 d3 f3
  obtain ⟨d0, d1, d2, d3, f4⟩ := v4.cells4
  have HD5 := Lib.hid hd5
  clear hs3 hc3 v3 hb4 hl4 hs4 hc4 hbw3 hbw4 hd5 v4
  go_wp2_with fail
  have hd5 := HD5.out
  obtain ⟨W5, hW5⟩ : ∃ W5, W5 = (((w4.setCell ⟨g, 0, none⟩ (.slice A4 m4 c4)).setCell ⟨g, 1, none⟩ (.int .i64 100)).setCell ⟨g, 2, none⟩ (.int .i64 (-1))).setCell ⟨g, 3, none⟩ (.bool false) := ⟨_, rfl⟩
  rw [← hW5] at hd5 hbw5 ⊢
  clear hW5 HD5 d0 d1 d2 d3 f4
  obtain ⟨hl5, hs5, hc5, v5⟩ := hd5
  have HL5 := Lib.hid hl5
  clear hl5
  obtain ⟨d0, d1, d2, d3, f5⟩ := v5.cells4
  -- its loads
  have hfl := fun W h1 h2 => floads_any A4 m4 c4 W5.heap.size [⟨wkA, wkC, 5⟩] 100 (-1) false wkA W HL5.out h1 h2 (wk_mild wkC (by decide)).1
  rw [(wk_rowsIn wkC 5).1, (wk_rowsIn wkC 5).2, wk_rows.1, wk_rows.2] at hfl
  refine (hfl _ hs5 (Nat.le_refl _)).mono ?_
  rintro e w6 ⟨A6, m6, c6, rfl, hl6, hs6, hc6, hb6⟩
  have hd6 : DkAt ⟨[⟨wkA, wkC, 5⟩], 100, -1, false⟩ A4 m4 c4 g w6 := DkAt.grow ⟨HL5.out, hs5, hc5, v5⟩ hb6
  have hbw6 : Below w.heap.size w w6 := hbw5.trans (hb6.mono hbw5.size)
  have hn6 : c6 = c6 ∧ m6 = 1 := ⟨rfl, hl6.symm⟩
  obtain rfl := hn6.2
  obtain ⟨xb, xo, rfl, hxb, hx6⟩ := seen_at hs6 (i := 0) (by simp)
  have hx6' : w6.cell? ⟨xb, xo, none⟩ = some (.string ⟨#[120]⟩) := hx6
  clear d0 d1 d2 d3 f5 hs5 hc5 v5 hb6 hfl hbw5 hn6 hl6 hx6 hs6
  obtain ⟨hl6, hs6', hc6', v6⟩ := hd6
  have HL6 := Lib.hid hl6
  clear hl6
  obtain ⟨d0, d1, d2, d3, f6⟩ := v6.cells4
  go_wp2_with fail
  -- mended
  refine (fmend_any A4 m4 c4 w6.heap.size [⟨wkA, wkC, 5⟩] 100 (-1) false wkA ⟨[⟨wkA, wkB, 5⟩], 100, -1, false⟩ none _ (HG.out.next hbw6) HL6.out hs6' (Nat.le_refl _) (wk_mild wkC (by decide)) (by decide) wk_mends).mono ?_
  rintro e w7 ⟨A7, m7, c7, ev7, rfl, hl7, hs7, hc7, hev7, hb7⟩
  obtain rfl : ev7 = .nilIface := hev7
  have hbw7 : Below w.heap.size w w7 := hbw6.trans (hb7.mono hbw6.size)
  have hx7 : w7.cell? ⟨xb, xo, none⟩ = some (.string ⟨#[120]⟩) := (hb7.cell (p := ⟨xb, xo, none⟩) hxb).trans hx6'
  have hxb7 : xb < w7.heap.size := Nat.lt_of_lt_of_le hxb hb7.size
  have HL7 := Lib.hid hl7
  clear d0 d1 d2 d3 f6 hs6' hc6' v6 hb7 hbw6 hl7 hx6' hxb
  go_wp2_with fail
  have hbt := bel1 w7 #[.slice A7 m7 c7, .int .i64 100, .int .i64 (-1), .bool false] 24
  have hfl := fun W h1 h2 => floads_any A7 m7 c7 w7.heap.size [⟨wkA, wkB, 5⟩] 100 (-1) false wkA W HL7.out h1 h2 (wk_mild wkB (by decide)).1
  rw [(wk_rowsIn wkB 5).1, (wk_rowsIn wkB 5).2, wk_rows2.1, wk_rows2.2] at hfl
  refine (hfl _ (hs7.below hbt) (by simp)).mono ?_
  rintro e w8 ⟨A8, m8, c8, rfl, hl8, hs8, hc8, hb8⟩
  have hb78 : Below w7.heap.size w7 w8 := hbt.trans (hb8.mono (by simp))
  have v7 := Var.below (new1 w7 #[.slice A7 m7 c7, .int .i64 100, .int .i64 (-1), .bool false] 24) hb8 (by simp)
  have hs78 := hs7.below hb78
  have hbw8 : Below w.heap.size w w8 := hbw7.trans (hb78.mono hbw7.size)
  have hx8 : w8.cell? ⟨xb, xo, none⟩ = some (.string ⟨#[120]⟩) := (hb78.cell (p := ⟨xb, xo, none⟩) hxb7).trans hx7
  have hxb8 : xb < w8.heap.size := Nat.lt_of_lt_of_le hxb7 hb78.size
  have hz78 := hb78.size
  have l7 := v7.lt
  obtain ⟨d0, d1, d2, d3, f7⟩ := v7.cells4
  clear hbt hfl hb8 hs7 hb78 hbw7 hx7 hxb7 hl8 hs8 hc8
  go_wp2_with fail
  -- put where no name is
  have hsx : Seen (w8.alloc (.cells #[.string { data := #[120] }] 9)) (w8.heap.size + 1) (some ⟨w8.heap.size, 0, none⟩) (strs [[120]]) := Seen.new w8 [.string { data := #[120] }] 9
  have hbx := bel1 w8 #[.string { data := #[120] }] 9
  refine (fput_any A7 (some ⟨w8.heap.size, 0, none⟩) m7 c7 w7.heap.size 1 1 (w8.heap.size + 1) [⟨wkA, wkB, 5⟩] 100 (-1) false { data := #[65] } [[120]] ⟨[⟨wkA, wkB, 5⟩], 100, -1, false⟩ (some (0, { data := #[65] }, 2)) _ (HG.out.next (hbw8.trans (hbx.mono hbw8.size))) HL7.out (hs78.below (hbx.mono hz78)) (by simp; omega) (wk_mild wkB (by decide)) (by decide) rfl (by decide) (by simp) hsx (by simp) wk_bad).mono ?_
  rintro e w9 ⟨A9, m9, c9, ev9, rfl, hl9, hs9, hc9, ⟨gf, rfl, hflt⟩, hb9⟩
  have hb89 : Below w8.heap.size w8 w9 := hbx.trans (hb9.mono (by simp))
  have hbw9 : Below w.heap.size w w9 := hbw8.trans (hb89.mono hbw8.size)
  have hx9 : w9.cell? ⟨xb, xo, none⟩ = some (.string ⟨#[120]⟩) := (hb89.cell (p := ⟨xb, xo, none⟩) hxb8).trans hx8
  have hxb9 : xb < w9.heap.size := Nat.lt_of_lt_of_le hxb8 hb89.size
  have HF := Lib.hid hflt
  clear d0 d1 d2 d3 f7 hsx hbx hb9 hb89 hx8 hxb8 hbw8 hs78 hl9 hs9 hc9 v7 l7 hflt
  go_wp2_with fail
  have hbt := bel1 w9 #[.slice A9 m9 c9, .int .i64 100, .int .i64 (-1), .bool false] 24
  have hF : FltAt (w9.alloc (.cells #[.slice A9 m9 c9, .int .i64 100, .int .i64 (-1), .bool false] 24)) gf 0 { data := #[65] } 2 := Var.alloc HF.out _
  have hbw : Below w.heap.size w (w9.alloc (.cells #[.slice A9 m9 c9, .int .i64 100, .int .i64 (-1), .bool false] 24)) := hbw9.trans (hbt.mono hbw9.size)
  have HF9 := Lib.hid hF
  have HBW := Lib.hid hbw
  clear hF hbw hbt
  refine (is_flt gf 0 { data := #[65] } 2 2 _ HF9.out).mono ?_
  rintro e w10 ⟨rfl, rfl⟩
  go_wp2_with fail
  refine (code_flt gf 0 { data := #[65] } 2 _ (HG.out.next HBW.out) HF9.out).mono ?_
  rintro e w11 ⟨rfl, hb11⟩
  have hbw11 := HBW.out.trans (hb11.mono HBW.out.size)
  clear hb11
  go_wp2_with fail
  refine (code_nil _).mono ?_
  rintro e w12 ⟨rfl, rfl⟩
  go_wp2
  go_ret
  exact ⟨rfl, hbw11⟩
end Go.Proofs.YtpppeadmhfggkaaGreatDoor
