/-
  Contracts of number, text and place of a walk, whatever the pass. Conditions: those that each theorem names.
-/
import Derived.Test.YtplpagnnlggfgaaDoorRepHeld
namespace Go.Proofs.YtplpagnnlggfgaaDoor
open Go.RowKit

/-- What is handed back by a walk's method, and what it did. -/
def NRes {P : Pass} (M : PIn P) (W : Nat) (wr : Int) (A : Array Value) (v : Value) (s : Ws P) (w : World) (e : Ending) (w' : World) : Prop := e = .returned v ∧ Wk M w' W wr 1 A s ∧ Tn [M.g, W] w w'
theorem wnum_yes {P : Pass} {s : Ws P} {n lo hi x : Int} {st : P.St} (h : P.num s.st n = (x, true, st)) (h1 : lo ≤ x) (h2 : x ≤ hi) : wnum s n lo hi = (x, ⟨st, s.bad⟩) := by
  unfold wnum
  rw [h, if_pos ⟨rfl, h1, h2⟩]
theorem wnum_no {P : Pass} {s : Ws P} {n lo hi x : Int} {ok : Bool} {st : P.St} (h : P.num s.st n = (x, ok, st)) (hc : ok = false ∨ x < lo ∨ hi < x) : wnum s n lo hi = (0, ⟨st, true⟩) := by
  unfold wnum
  rw [h, if_neg]
  rintro ⟨h1, h2, h3⟩
  rcases hc with hc | hc | hc
  · subst hc; cases h1
  · simp only at h2; omega
  · simp only at h3; omega

set_option maxRecDepth 100000 in
set_option maxHeartbeats 2000000 in
theorem num_int {P : Pass} (M : PIn P) (W : Nat) (wr : Int) (A : Array Value) (s : Ws P) (nm : ByteArray) (n : Int) (lo hi : Int) (w : World) (h : Wk M w W wr 1 A s) (hs : P.sz s.st ≤ 700000) (hn : -9223372036854775808 ≤ n) (hn2 : n ≤ 9223372036854775807) :
    Calls Tryd.prog 42 #[.pointer (some ⟨W, 0, none⟩), .string nm, .int .i64 n, .int .i64 lo, .int .i64 hi] w (NRes M W wr A (.int .i64 (wnum s n lo hi).1) (wnum s n lo hi).2 w) := by
  have c0 := h.cell 0 h.a0
  have hl := h.lt'
  have hm := M.mnum
  have hen := M.enum
  obtain ⟨x, ok, st, hx⟩ : ∃ x ok st, P.num s.st n = (x, ok, st) := ⟨_, _, _, rfl⟩
  have hC := M.num s.st n w h.rep hs (by omega) (by omega)
  have h64 := M.num64 s.st n (by omega) (by omega)
  rw [hx] at hC h64
  simp only at hC h64
  obtain ⟨h641, h642⟩ := h64
  have HX := Lib.hid hx
  have HC := Lib.hid hC
  have HW := Lib.hid h
  clear hx hC h
  go_enter Tryd.func42, Tryd.ntmps42
  go_wp2_with fail
  refine HC.out.mono ?_
  rintro e w1 ⟨rfl, hr1, ht1⟩
  have HK1 := Lib.hid (HW.out.pass hr1 ht1)
  have HT1 := Lib.hid (ht1.mono (S' := [M.g, W]) (by intro x hx; simp at hx; subst hx; simp))
  clear hr1 ht1 c0 hl hm hen HC HW
  have hway : (ok = true ∧ lo ≤ x ∧ x ≤ hi) ∨ (ok = false) ∨ (ok = true ∧ x < lo) ∨ (ok = true ∧ ¬ x < lo ∧ hi < x) := by
    cases ok
    · exact .inr (.inl rfl)
    · by_cases h1 : x < lo
      · exact .inr (.inr (.inl ⟨rfl, h1⟩))
      · by_cases h2 : hi < x
        · exact .inr (.inr (.inr ⟨rfl, h1, h2⟩))
        · exact .inl ⟨rfl, by omega, by omega⟩
  rcases hway with ⟨rfl, h1, h2⟩ | hw
  · have HE := Lib.hid (wnum_yes HX.out h1 h2)
    have y1 : decide (x < lo) = false := by simp; omega
    have y2 : decide (hi < x) = false := by simp; omega
    go_wp2
    go_ret
    refine ⟨?_, ?_, HT1.out⟩
    · rw [HE.out]; rfl
    · rw [HE.out]; exact HK1.out
  · have HE := Lib.hid (wnum_no (lo := lo) (hi := hi) HX.out (by rcases hw with h | ⟨_, h⟩ | ⟨_, _, h⟩; exact .inl h; exact .inr (.inl h); exact .inr (.inr h)))
    rcases hw with rfl | ⟨rfl, h1⟩ | ⟨rfl, h0, h1⟩
    · go_wp2_with fail
      refine (stop_any M W wr A ⟨st, s.bad⟩ nm _ HK1.out).mono ?_
      rintro e w2 ⟨rfl, hk2, ht2⟩
      go_wp2
      go_ret
      refine ⟨?_, ?_, HT1.out.trans ht2⟩
      · rw [HE.out]; rfl
      · rw [HE.out]; exact hk2
    · have y1 : decide (x < lo) = true := by simpa using h1
      go_wp2_with fail
      refine (stop_any M W wr A ⟨st, s.bad⟩ nm _ HK1.out).mono ?_
      rintro e w2 ⟨rfl, hk2, ht2⟩
      go_wp2
      go_ret
      refine ⟨?_, ?_, HT1.out.trans ht2⟩
      · rw [HE.out]; rfl
      · rw [HE.out]; exact hk2
    · have y1 : decide (x < lo) = false := by simp; omega
      have y2 : decide (hi < x) = true := by simpa using h1
      go_wp2_with fail
      refine (stop_any M W wr A ⟨st, s.bad⟩ nm _ HK1.out).mono ?_
      rintro e w2 ⟨rfl, hk2, ht2⟩
      go_wp2
      go_ret
      refine ⟨?_, ?_, HT1.out.trans ht2⟩
      · rw [HE.out]; rfl
      · rw [HE.out]; exact hk2
set_option maxRecDepth 100000 in
set_option maxHeartbeats 2000000 in
theorem num_err {P : Pass} (M : PIn P) (W : Nat) (wr : Int) (A : Array Value) (s : Ws P) (nm : ByteArray) (n : Int) (w : World) (h : Wk M w W wr 1 A s) (hs : P.sz s.st ≤ 700000) (hn : -9223372036854775808 ≤ n) (hn2 : n ≤ 9223372036854775807) :
    Calls Tryd.prog 29 #[.pointer (some ⟨W, 0, none⟩), .string nm, .int .i64 n, .int .i64 0, .int .i64 400] w (NRes M W wr A (.int .i64 (wnum s n 0 400).1) (wnum s n 0 400).2 w) := by
  have c0 := h.cell 0 h.a0
  have hl := h.lt'
  have hm := M.mnum
  have hen := M.enum
  obtain ⟨x, ok, st, hx⟩ : ∃ x ok st, P.num s.st n = (x, ok, st) := ⟨_, _, _, rfl⟩
  have hC := M.num s.st n w h.rep hs (by omega) (by omega)
  have h64 := M.num64 s.st n (by omega) (by omega)
  rw [hx] at hC h64
  simp only at hC h64
  obtain ⟨h641, h642⟩ := h64
  have HX := Lib.hid hx
  have HC := Lib.hid hC
  have HW := Lib.hid h
  clear hx hC h
  go_enter Tryd.func29, Tryd.ntmps29
  go_wp2_with fail
  refine HC.out.mono ?_
  rintro e w1 ⟨rfl, hr1, ht1⟩
  have HK1 := Lib.hid (HW.out.pass hr1 ht1)
  have HT1 := Lib.hid (ht1.mono (S' := [M.g, W]) (by intro x hx; simp at hx; subst hx; simp))
  clear hr1 ht1 c0 hl hm hen HC HW
  have hway : (ok = true ∧ 0 ≤ x ∧ x ≤ 400) ∨ (ok = false) ∨ (ok = true ∧ x < 0) ∨ (ok = true ∧ ¬ x < 0 ∧ 400 < x) := by
    cases ok
    · exact .inr (.inl rfl)
    · by_cases h1 : x < 0
      · exact .inr (.inr (.inl ⟨rfl, h1⟩))
      · by_cases h2 : 400 < x
        · exact .inr (.inr (.inr ⟨rfl, h1, h2⟩))
        · exact .inl ⟨rfl, by omega, by omega⟩
  rcases hway with ⟨rfl, h1, h2⟩ | hw
  · have HE := Lib.hid (wnum_yes HX.out h1 h2)
    have y1 : decide (x < 0) = false := by simp; omega
    have y2 : decide (400 < x) = false := by simp; omega
    go_wp2
    go_ret
    refine ⟨?_, ?_, HT1.out⟩
    · rw [HE.out]; rfl
    · rw [HE.out]; exact HK1.out
  · have HE := Lib.hid (wnum_no (lo := 0) (hi := 400) HX.out (by rcases hw with h | ⟨_, h⟩ | ⟨_, _, h⟩; exact .inl h; exact .inr (.inl h); exact .inr (.inr h)))
    rcases hw with rfl | ⟨rfl, h1⟩ | ⟨rfl, h0, h1⟩
    · go_wp2_with fail
      refine (stop_any M W wr A ⟨st, s.bad⟩ nm _ HK1.out).mono ?_
      rintro e w2 ⟨rfl, hk2, ht2⟩
      go_wp2
      go_ret
      refine ⟨?_, ?_, HT1.out.trans ht2⟩
      · rw [HE.out]; rfl
      · rw [HE.out]; exact hk2
    · have y1 : decide (x < 0) = true := by simpa using h1
      go_wp2_with fail
      refine (stop_any M W wr A ⟨st, s.bad⟩ nm _ HK1.out).mono ?_
      rintro e w2 ⟨rfl, hk2, ht2⟩
      go_wp2
      go_ret
      refine ⟨?_, ?_, HT1.out.trans ht2⟩
      · rw [HE.out]; rfl
      · rw [HE.out]; exact hk2
    · have y1 : decide (x < 0) = false := by simp; omega
      have y2 : decide (400 < x) = true := by simpa using h1
      go_wp2_with fail
      refine (stop_any M W wr A ⟨st, s.bad⟩ nm _ HK1.out).mono ?_
      rintro e w2 ⟨rfl, hk2, ht2⟩
      go_wp2
      go_ret
      refine ⟨?_, ?_, HT1.out.trans ht2⟩
      · rw [HE.out]; rfl
      · rw [HE.out]; exact hk2
set_option maxRecDepth 100000 in
set_option maxHeartbeats 2000000 in
theorem num_i8 {P : Pass} (M : PIn P) (W : Nat) (wr : Int) (A : Array Value) (s : Ws P) (nm : ByteArray) (n : Int) (w : World) (h : Wk M w W wr 1 A s) (hs : P.sz s.st ≤ 700000) (hn : -128 ≤ n) (hn2 : n ≤ 127) :
    Calls Tryd.prog 28 #[.pointer (some ⟨W, 0, none⟩), .string nm, .int .i8 n, .int .i8 0, .int .i8 9] w (NRes M W wr A (.int .i8 (wnum s n 0 9).1) (wnum s n 0 9).2 w) := by
  have c0 := h.cell 0 h.a0
  have hl := h.lt'
  have hm := M.mnum
  have hen := M.enum
  obtain ⟨x, ok, st, hx⟩ : ∃ x ok st, P.num s.st n = (x, ok, st) := ⟨_, _, _, rfl⟩
  have hC := M.num s.st n w h.rep hs (by omega) (by omega)
  have h64 := M.num64 s.st n (by omega) (by omega)
  rw [hx] at hC h64
  simp only at hC h64
  obtain ⟨h641, h642⟩ := h64
  have HX := Lib.hid hx
  have HC := Lib.hid hC
  have HW := Lib.hid h
  clear hx hC h
  go_enter Tryd.func28, Tryd.ntmps28
  go_wp2_with fail
  refine HC.out.mono ?_
  rintro e w1 ⟨rfl, hr1, ht1⟩
  have HK1 := Lib.hid (HW.out.pass hr1 ht1)
  have HT1 := Lib.hid (ht1.mono (S' := [M.g, W]) (by intro x hx; simp at hx; subst hx; simp))
  clear hr1 ht1 c0 hl hm hen HC HW
  have hway : (ok = true ∧ 0 ≤ x ∧ x ≤ 9) ∨ (ok = false) ∨ (ok = true ∧ x < 0) ∨ (ok = true ∧ ¬ x < 0 ∧ 9 < x) := by
    cases ok
    · exact .inr (.inl rfl)
    · by_cases h1 : x < 0
      · exact .inr (.inr (.inl ⟨rfl, h1⟩))
      · by_cases h2 : 9 < x
        · exact .inr (.inr (.inr ⟨rfl, h1, h2⟩))
        · exact .inl ⟨rfl, by omega, by omega⟩
  rcases hway with ⟨rfl, h1, h2⟩ | hw
  · have HE := Lib.hid (wnum_yes HX.out h1 h2)
    have y1 : decide (x < 0) = false := by simp; omega
    have y2 : decide (9 < x) = false := by simp; omega
    go_wp2
    go_ret
    refine ⟨?_, ?_, HT1.out⟩
    · rw [HE.out]; rfl
    · rw [HE.out]; exact HK1.out
  · have HE := Lib.hid (wnum_no (lo := 0) (hi := 9) HX.out (by rcases hw with h | ⟨_, h⟩ | ⟨_, _, h⟩; exact .inl h; exact .inr (.inl h); exact .inr (.inr h)))
    rcases hw with rfl | ⟨rfl, h1⟩ | ⟨rfl, h0, h1⟩
    · go_wp2_with fail
      refine (stop_any M W wr A ⟨st, s.bad⟩ nm _ HK1.out).mono ?_
      rintro e w2 ⟨rfl, hk2, ht2⟩
      go_wp2
      go_ret
      refine ⟨?_, ?_, HT1.out.trans ht2⟩
      · rw [HE.out]; rfl
      · rw [HE.out]; exact hk2
    · have y1 : decide (x < 0) = true := by simpa using h1
      go_wp2_with fail
      refine (stop_any M W wr A ⟨st, s.bad⟩ nm _ HK1.out).mono ?_
      rintro e w2 ⟨rfl, hk2, ht2⟩
      go_wp2
      go_ret
      refine ⟨?_, ?_, HT1.out.trans ht2⟩
      · rw [HE.out]; rfl
      · rw [HE.out]; exact hk2
    · have y1 : decide (x < 0) = false := by simp; omega
      have y2 : decide (9 < x) = true := by simpa using h1
      go_wp2_with fail
      refine (stop_any M W wr A ⟨st, s.bad⟩ nm _ HK1.out).mono ?_
      rintro e w2 ⟨rfl, hk2, ht2⟩
      go_wp2
      go_ret
      refine ⟨?_, ?_, HT1.out.trans ht2⟩
      · rw [HE.out]; rfl
      · rw [HE.out]; exact hk2
theorem wtext_is {P : Pass} {s : Ws P} {t x : ByteArray} {ok : Bool} {st : P.St} (h : P.txt s.st t = (x, ok, st)) : wtext s t = (x, ⟨st, s.bad || !(ok && decide (x.size ≤ 16))⟩) := by
  unfold wtext
  rw [h]
set_option maxRecDepth 100000 in
set_option maxHeartbeats 2000000 in
theorem text_any {P : Pass} (M : PIn P) (W : Nat) (wr : Int) (A : Array Value) (s : Ws P) (nm t : ByteArray) (w : World) (h : Wk M w W wr 1 A s) (hs : P.sz s.st ≤ 700000) (ht : t.size ≤ 9223372036854775807) :
    Calls Tryd.prog 46 #[.pointer (some ⟨W, 0, none⟩), .string nm, .string t] w (NRes M W wr A (.string (wtext s t).1) (wtext s t).2 w) := by
  have c0 := h.cell 0 h.a0
  have hl := h.lt'
  have hm := M.mtxt
  have hen := M.etxt
  obtain ⟨x, ok, st, hx⟩ : ∃ x ok st, P.txt s.st t = (x, ok, st) := ⟨_, _, _, rfl⟩
  have hC := M.txt s.st t w h.rep hs ht
  have h64 := M.txt64 s.st t ht
  rw [hx] at hC h64
  simp only at hC h64
  have HE := Lib.hid (wtext_is hx)
  have HC := Lib.hid hC
  have HW := Lib.hid h
  clear hx hC h
  go_enter Tryd.func46, Tryd.ntmps46
  go_wp2_with fail
  refine HC.out.mono ?_
  rintro e w1 ⟨rfl, hr1, ht1⟩
  have HK1 := Lib.hid (HW.out.pass hr1 ht1)
  have HT1 := Lib.hid (ht1.mono (S' := [M.g, W]) (by intro x hx; simp at hx; subst hx; simp))
  clear hr1 ht1 c0 hl hm hen HC HW
  have hway : (ok = true ∧ x.size ≤ 16) ∨ (ok = false) ∨ (ok = true ∧ 16 < x.size) := by
    cases ok
    · exact .inr (.inl rfl)
    · by_cases h1 : x.size ≤ 16
      · exact .inl ⟨rfl, h1⟩
      · exact .inr (.inr ⟨rfl, by omega⟩)
  rcases hway with ⟨rfl, h1⟩ | rfl | ⟨rfl, h1⟩
  · have HB : Hid ((s.bad || !(true && decide (x.size ≤ 16))) = s.bad) := by show _ = _; simp [h1]
    have y1 : decide ((16 : Int) < (x.size : Int)) = false := by simp; omega
    go_wp2
    go_ret
    refine ⟨?_, ?_, HT1.out⟩
    · rw [HE.out]; rfl
    · rw [HE.out]; simp only; rw [HB.out]; exact HK1.out
  · have HB : Hid ((s.bad || !(false && decide (x.size ≤ 16))) = true) := by show _ = _; simp
    go_wp2_with fail
    refine (stop_any M W wr A ⟨st, s.bad⟩ nm _ HK1.out).mono ?_
    rintro e w2 ⟨rfl, hk2, ht2⟩
    go_wp2
    go_ret
    refine ⟨?_, ?_, HT1.out.trans ht2⟩
    · rw [HE.out]; rfl
    · rw [HE.out]; simp only; rw [HB.out]; exact hk2
  · have HB : Hid ((s.bad || !(true && decide (x.size ≤ 16))) = true) := by show _ = _; simp; omega
    have y1 : decide ((16 : Int) < (x.size : Int)) = true := by simp; omega
    go_wp2_with fail
    refine (stop_any M W wr A ⟨st, s.bad⟩ nm _ HK1.out).mono ?_
    rintro e w2 ⟨rfl, hk2, ht2⟩
    go_wp2
    go_ret
    refine ⟨?_, ?_, HT1.out.trans ht2⟩
    · rw [HE.out]; rfl
    · rw [HE.out]; simp only; rw [HB.out]; exact hk2
theorem wplace_i64 {P : Pass} {s : Ws P} {n least : Int} (hl : least = 0 ∨ least = -1) : -1 ≤ (wplace s n least).1 ∧ (wplace s n least).1 ≤ 1048576 := by
  have := wnum_in (s := s) (n := wrap64 (n - least)) (lo := 0) (hi := 1048576 - least) (by omega) (by omega) (by omega)
  simp only [wplace]
  omega
theorem wrap_i64 (x : Int) : -9223372036854775808 ≤ wrap64 x ∧ wrap64 x ≤ 9223372036854775807 := by unfold wrap64; omega
set_option maxRecDepth 100000 in
set_option maxHeartbeats 2000000 in
theorem place_any {P : Pass} (M : PIn P) (W : Nat) (wr : Int) (A : Array Value) (s : Ws P) (n least : Int) (w : World) (h : Wk M w W wr 1 A s) (hs : P.sz s.st ≤ 700000) (hn : -9223372036854775808 ≤ n) (hn2 : n ≤ 9223372036854775807) (hle : least = 0 ∨ least = -1) :
    Calls Tryd.prog 43 #[.pointer (some ⟨W, 0, none⟩), .int .i64 n, .int .i64 least] w (NRes M W wr A (.int .i64 (wplace s n least).1) (wplace s n least).2 w) := by
  have hb := wrap_i64 (n - least)
  have hin := wnum_in (s := s) (n := wrap64 (n - least)) (lo := 0) (hi := 1048576 - least) (by omega) (by omega) (by omega)
  have hC := num_int M W wr A s ⟨#[79, 102, 102, 115, 101, 116]⟩ (wrap64 (n - least)) 0 (1048576 - least) w h hs hb.1 hb.2
  obtain ⟨y, hy⟩ : ∃ y, y = (wnum s (wrap64 (n - least)) 0 (1048576 - least)).1 := ⟨_, rfl⟩
  have HR : Hid ((wplace s n least).1 = y + least ∧ (wplace s n least).2 = (wnum s (wrap64 (n - least)) 0 (1048576 - least)).2) := ⟨by simp only [wplace, hy], rfl⟩
  rw [← hy] at hC hin
  obtain ⟨hy1, hy2⟩ := hin
  have HC := Lib.hid hC
  clear hC hy hb h
  rcases hle with rfl | rfl
  · simp only [Int.sub_zero] at HC hy2
    have hw : wrap64 n = n := by unfold wrap64; omega
    have HW := Lib.hid hw
    rw [HW.out] at HC
    clear hw
    go_enter Tryd.func43, Tryd.ntmps43
    go_wp2_with fail
    refine HC.out.mono ?_
    rintro e w1 ⟨rfl, hk1, ht1⟩
    go_wp2
    go_ret
    refine ⟨?_, ?_, ht1⟩
    · rw [HR.out.1, Int.add_zero]; rfl
    · rw [HR.out.2, Int.sub_zero, Int.sub_zero, HW.out]; exact hk1
  · go_enter Tryd.func43, Tryd.ntmps43
    go_wp2_with fail
    refine HC.out.mono ?_
    rintro e w1 ⟨rfl, hk1, ht1⟩
    go_wp2
    go_ret
    refine ⟨?_, ?_, ht1⟩
    · rw [HR.out.1]; rfl
    · rw [HR.out.2]; exact hk1
end Go.Proofs.YtplpagnnlggfgaaDoor
