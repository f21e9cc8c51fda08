/-
  Contracts of the document's own answers for fields' readers (rovingref02): what each returns and what it does to memory. Conditions: those that each theorem names.
-/
import Derived.Test.YtiilbcficgpohaaFldFlag
namespace Go.Proofs.Ytiilbcficgpohaa
open Go.RowKit
attribute [local go_sem ↓] Go.wp_at_zero Go.wp_at_succ

/-- What rovingref01.Get answers, in one pair. -/
theorem ref_get_some (A : Option Addr) (c : Nat) (bs : List UInt8) (lb at_ n k bh : Nat) (w : World) (hlb : lb = bs.length) (hs : Seen w w.heap.size A (cells bs)) (hx : lb ≤ 1000000) (hat : at_ ≤ lb) (hd : VP.dec (bs.drop at_) = some (n, k)) (hbh : bh = at_ + k) :
    Calls Try.prog 55 #[.slice A lb c, .int .i64 (at_ : Int)] w fun e w' => e = .returned (.tuple #[.int .i64 (n : Int), .int .i64 (bh : Int), .int .i64 0]) ∧ w = w' := by
  subst hbh
  exact (ref_get A c bs lb at_ w hlb hs hx hat).mono fun _ _ ⟨hw, h1, _⟩ => ⟨h1 n k hd, hw⟩
theorem ref_get_none (A : Option Addr) (c : Nat) (bs : List UInt8) (lb at_ : Nat) (w : World) (hlb : lb = bs.length) (hs : Seen w w.heap.size A (cells bs)) (hx : lb ≤ 1000000) (hat : at_ ≤ lb) (hd : VP.dec (bs.drop at_) = none) :
    Calls Try.prog 55 #[.slice A lb c, .int .i64 (at_ : Int)] w fun e w' => e = .returned (.tuple #[.int .i64 0, .int .i64 0, .int .i64 70]) ∧ w = w' :=
  (ref_get A c bs lb at_ w hlb hs hx hat).mono fun _ _ ⟨hw, _, h1⟩ => ⟨h1 hd, hw⟩

theorem ref_new (s : ByteArray) (w : World) : Calls Try.prog 23 #[.string s] w fun e w' =>
    e = .returned (.pointer (some ⟨w.heap.size, 0, none⟩)) ∧ Rd 44 w' w.heap.size s 0 false ∧ Below w.heap.size w w' := by
  have hr : Rd 44 (w.alloc (.cells #[.string s, .int .i64 0, .bool false] 44)) w.heap.size s 0 false := Var.new _ _ _
  have hb : Below w.heap.size w (w.alloc (.cells #[.string s, .int .i64 0, .bool false] 44)) := (Below.refl _ _).alloc (Nat.le_refl _) _
  go_enter Try.func23, Try.ntmps23
  go_wp2
  go_ret
  exact ⟨rfl, hr, hb⟩

theorem ref_wrong (g : Nat) (s : ByteArray) (p : Nat) (bad : Bool) (w : World) (h : Rd 44 w g s p bad) :
    Calls Try.prog 45 #[.pointer (some ⟨g, 0, none⟩)] w fun e w' => e = .returned (.tuple #[]) ∧ Rd 44 w' g s p true ∧ Kept [g] w w' := by
  obtain ⟨h0, h1, h2⟩ := h.cells
  have hf := Var.free h 2
  have hr := h.setBad true
  have hk : Kept [g] w (w.setCell ⟨g, 2, none⟩ (.bool true)) := (Kept.refl _ _).setCell (.inl (by simp)) _
  go_enter Try.func45, Try.ntmps45
  go_wp2
  go_end0
  exact ⟨rfl, hr, hk⟩

set_option maxRecDepth 100000 in
set_option maxHeartbeats 1000000 in
theorem ref_end (g : Nat) (s : ByteArray) (p : Nat) (bad : Bool) (er : Int) (w : World) (h : EndIs s p bad er) (hr : Rd 44 w g s p bad) :
    Calls Try.prog 36 #[.pointer (some ⟨g, 0, none⟩)] w fun e w' => e = .returned (.int .i64 er) ∧ ∃ n, w' = w.drewN n := by
  obtain ⟨d0, d1, d2⟩ := Rd.cells hr
  rcases h with ⟨rfl, rfl, rfl⟩ | ⟨h, rfl⟩
  · have hself : ((s.size : Int) != (s.size : Int)) = false := by simp
    go_enter Try.func36, Try.ntmps36
    go_wp2
    go_quiet (fail)
    go_wp2
    go_ret
    exact ⟨rfl, _, rfl⟩
  · by_cases hb : bad = true
    · subst hb
      go_enter Try.func36, Try.ntmps36
      go_wp2
      go_quiet (fail)
      go_wp2
      go_ret
      exact ⟨rfl, _, rfl⟩
    · have hbf : bad = false := by simpa using hb
      have hne : ((p : Int) != (s.size : Int)) = true := by
        rcases h with h | h
        · exact absurd h hb
        · simp; omega
      subst hbf
      clear h hb
      go_enter Try.func36, Try.ntmps36
      go_wp2
      go_quiet (fail)
      go_wp2
      go_ret
      exact ⟨rfl, _, rfl⟩

section
variable (g : Nat) (s : ByteArray) (p : Nat) (w : World)

set_option maxRecDepth 100000 in
theorem ref_number_bad (lo hi : Int) (hr : Rd 44 w g s p true) : Calls Try.prog 42 #[.pointer (some ⟨g, 0, none⟩), .int .i64 lo, .int .i64 hi] w fun e w' => e = .returned (.int .i64 0) ∧ w = w' := by
  obtain ⟨d0, d1, d2⟩ := Rd.cells hr
  go_enter Try.func42, Try.ntmps42
  go_wp2
  go_ret
  exact ⟨rfl, rfl⟩

/-- What the document's Number hands back of a reader that is not stopped. -/
def RefNum (lo hi : Int) (e : Ending) (w' : World) : Prop := ∀ v p' bad', NumIs s p false lo hi v p' bad' → e = .returned (.int .i64 v) ∧ Rd 44 w' g s p' bad' ∧ Kept [g] w w'
theorem RefNum.ok {lo hi : Int} {n k bh : Nat} {w' : World} (hd : VP.dec ((bytesOf s).drop p) = some (n, k)) (hbh : bh = p + k) (h1 : lo ≤ n) (h2 : (n : Int) ≤ hi) (hr : Rd 44 w' g s bh false) (hk : Kept [g] w w') : RefNum g s p w lo hi (.returned (.int .i64 (n : Int))) w' := by
  intro v p' bad' h
  rcases h with ⟨_, n', k', hd', _, _, rfl, rfl, rfl⟩ | ⟨h, _, _, _⟩
  · rw [hd] at hd'; injection hd' with hd'; injection hd' with e1 e2; subst e1 e2 hbh; exact ⟨rfl, hr, hk⟩
  · rcases h with h | h | ⟨n', k', hd', h⟩
    · cases h
    · rw [hd] at h; cases h
    · rw [hd] at hd'; injection hd' with hd'; injection hd' with e1 e2; subst e1 e2; omega
theorem RefNum.no {lo hi : Int} {w' : World} (h : VP.dec ((bytesOf s).drop p) = none ∨ ∃ n k : Nat, VP.dec ((bytesOf s).drop p) = some (n, k) ∧ ((n : Int) < lo ∨ hi < n)) (hr : Rd 44 w' g s p true) (hk : Kept [g] w w') : RefNum g s p w lo hi (.returned (.int .i64 0)) w' := by
  intro v p' bad' h'
  rcases h' with ⟨_, n', k', hd', h1, h2, _⟩ | ⟨_, rfl, rfl, rfl⟩
  · rcases h with h | ⟨n, k, hd, h⟩
    · rw [h] at hd'; cases hd'
    · rw [hd] at hd'; injection hd' with hd'; injection hd' with e1 e2; subst e1 e2; omega
  · exact ⟨rfl, hr, hk⟩

set_option maxRecDepth 100000 in
set_option maxHeartbeats 1000000 in
theorem ref_number_some (n k bh : Nat) (lo hi : Int) (hr : Rd 44 w g s p false) (hp : p ≤ s.size) (hx : s.size ≤ 1000000) (hd : VP.dec ((bytesOf s).drop p) = some (n, k)) (hbh : bh = p + k) :
    Calls Try.prog 42 #[.pointer (some ⟨g, 0, none⟩), .int .i64 lo, .int .i64 hi] w (RefNum g s p w lo hi) := by
  obtain ⟨d0, d1, d2⟩ := Rd.cells hr
  obtain ⟨ls, hls⟩ : ∃ ls, ls = s.size := ⟨_, rfl⟩
  have hcv := conv_eq s
  rw [← hls] at hcv hp hx
  have HLS : Hid (ls = (bytesOf s).length) := by show _ = _; rw [bytesOf_length]; exact hls
  have HD := Lib.hid hd
  have hg := Var.lt hr
  have k1 : (Lib.bytesWorld w.drew 5 s).cell? ⟨g, 1, none⟩ = some (.int .i64 (p : Int)) := by rw [Lib.bytesWorld_old _ _ _ _ (by simpa using hg)]; simpa using d1
  have hbw : Below w.heap.size w (Lib.bytesWorld w.drew 5 s) := (Below.refl _ _).drew.trans (conv_below w.drew _ _)
  have HBH := Lib.hid hbh
  clear hd hbh hls
  go_enter Try.func42, Try.ntmps42
  go_wp2_with fail
  go_region_with ((go_at_call 55; refine (ref_get_some _ _ (bytesOf s) ls p n k bh _ HLS.out ?_ (by omega) (by omega) HD.out HBH.out).mono ?_; (exact conv_seen _ _ _); rintro e w2 ⟨rfl, rfl⟩))
  all_goals
    obtain ⟨w1, hw1⟩ : ∃ w1, w1 = Lib.bytesWorld w.drew 5 s := ⟨_, rfl⟩
    rw [← hw1] at hbw k1 ⊢
    have hr1 : Rd 44 w1 g s p false := Var.below hr hbw hg
    have hk1 : Kept [g] w w1 := Kept.of_below hbw
    obtain ⟨f0, f1, f2⟩ := Rd.cells hr1
    have f3 := Var.free hr1 1
    have f4 := Var.free hr1 2
    have hrb := hr1.setBad true
    have hkb := hk1.setCell (p := ⟨g, 2, none⟩) (.inl (by simp)) (.bool true)
    have hra := hr1.setAt bh
    clear hw1 hcv k1 hr1 d0 d1 d2 hbw
    have hka := hk1.setCell (p := ⟨g, 1, none⟩) (.inl (by simp)) (.int .i64 (bh : Int))
    by_cases h1 : (n : Int) < lo
    · go_wp2
      go_ret
      exact RefNum.no g s p w (.inr ⟨n, k, HD.out, .inl h1⟩) hrb hkb
    · have h1' : lo ≤ (n : Int) := by omega
      by_cases h2 : hi < (n : Int)
      · have h2' : decide (hi < (n : Int)) = true := by simpa using h2
        go_wp2
        go_ret
        exact RefNum.no g s p w (.inr ⟨n, k, HD.out, .inr h2⟩) hrb hkb
      · have h2' : (n : Int) ≤ hi := by omega
        go_wp2
        go_ret
        exact RefNum.ok g s p w HD.out HBH.out h1' h2' hra hka

set_option maxRecDepth 100000 in
set_option maxHeartbeats 1000000 in
theorem ref_number_none (lo hi : Int) (hr : Rd 44 w g s p false) (hp : p ≤ s.size) (hx : s.size ≤ 1000000) (hd : VP.dec ((bytesOf s).drop p) = none) :
    Calls Try.prog 42 #[.pointer (some ⟨g, 0, none⟩), .int .i64 lo, .int .i64 hi] w (RefNum g s p w lo hi) := by
  obtain ⟨d0, d1, d2⟩ := Rd.cells hr
  obtain ⟨ls, hls⟩ : ∃ ls, ls = s.size := ⟨_, rfl⟩
  have hcv := conv_eq s
  rw [← hls] at hcv hp hx
  have HLS : Hid (ls = (bytesOf s).length) := by show _ = _; rw [bytesOf_length]; exact hls
  have HD := Lib.hid hd
  have hg := Var.lt hr
  have k1 : (Lib.bytesWorld w.drew 5 s).cell? ⟨g, 1, none⟩ = some (.int .i64 (p : Int)) := by rw [Lib.bytesWorld_old _ _ _ _ (by simpa using hg)]; simpa using d1
  have hbw : Below w.heap.size w (Lib.bytesWorld w.drew 5 s) := (Below.refl _ _).drew.trans (conv_below w.drew _ _)
  clear hd hls
  go_enter Try.func42, Try.ntmps42
  go_wp2_with fail
  go_region_with ((go_at_call 55; refine (ref_get_none _ _ (bytesOf s) ls p _ HLS.out ?_ (by omega) (by omega) HD.out).mono ?_; (exact conv_seen _ _ _); rintro e w2 ⟨rfl, rfl⟩))
  all_goals
    obtain ⟨w1, hw1⟩ : ∃ w1, w1 = Lib.bytesWorld w.drew 5 s := ⟨_, rfl⟩
    rw [← hw1] at hbw k1 ⊢
    have hr1 : Rd 44 w1 g s p false := Var.below hr hbw hg
    have hk1 : Kept [g] w w1 := Kept.of_below hbw
    obtain ⟨f0, f1, f2⟩ := Rd.cells hr1
    have f3 := Var.free hr1 1
    have f4 := Var.free hr1 2
    have hrb := hr1.setBad true
    have hkb := hk1.setCell (p := ⟨g, 2, none⟩) (.inl (by simp)) (.bool true)
    clear hw1 hcv k1 hr1 d0 d1 d2 hbw
    go_wp2
    go_ret
    exact RefNum.no g s p w (.inl HD.out) hrb hkb

theorem ref_number_all (bad : Bool) (lo hi v : Int) (p' : Nat) (bad' : Bool) (h : NumIs s p bad lo hi v p' bad') (hr : Rd 44 w g s p bad) (hx : s.size ≤ 1000000) (hp : p ≤ s.size) :
    Calls Try.prog 42 #[.pointer (some ⟨g, 0, none⟩), .int .i64 lo, .int .i64 hi] w fun e w' => e = .returned (.int .i64 v) ∧ Rd 44 w' g s p' bad' ∧ Kept [g] w w' := by
  cases bad
  · rcases hd : VP.dec ((bytesOf s).drop p) with _ | ⟨n, k⟩
    · exact (ref_number_none g s p w lo hi hr hp hx hd).mono fun _ _ hq => hq v p' bad' h
    · exact (ref_number_some g s p w n k _ lo hi hr hp hx hd rfl).mono fun _ _ hq => hq v p' bad' h
  · rcases h with ⟨h, _⟩ | ⟨_, rfl, rfl, rfl⟩
    · cases h
    · refine (ref_number_bad g s p' w lo hi hr).mono ?_
      rintro e w' ⟨rfl, rfl⟩
      exact ⟨rfl, hr, Kept.refl _ _⟩
end

end Go.Proofs.Ytiilbcficgpohaa
