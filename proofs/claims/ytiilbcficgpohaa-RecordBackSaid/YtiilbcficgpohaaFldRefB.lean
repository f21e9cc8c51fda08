/-
  Contracts of the document's own answers for fields' readers (rovingref02's Text and Flag): what each returns and what it does to memory. Conditions: those that each theorem names.
-/
import Derived.Test.YtiilbcficgpohaaFldRef
namespace Go.Proofs.Ytiilbcficgpohaa
open Go.RowKit
attribute [local go_sem ↓] Go.wp_at_zero Go.wp_at_succ

section
variable (g : Nat) (s : ByteArray) (p : Nat) (w : World)

set_option maxRecDepth 100000 in
theorem ref_text_bad (hi : Int) (hr : Rd 44 w g s p true) : Calls Try.prog 44 #[.pointer (some ⟨g, 0, none⟩), .int .i64 hi] w fun e w' => e = .returned (.string ⟨#[]⟩) ∧ w = w' := by
  obtain ⟨d0, d1, d2⟩ := Rd.cells hr
  go_enter Try.func44, Try.ntmps44
  go_wp2
  go_ret
  exact ⟨rfl, rfl⟩

/-- What the document's Text hands back of a reader that is not stopped. -/
def RefText (hi : Int) (e : Ending) (w' : World) : Prop := ∀ v p' bad', TextIs s p false hi v p' bad' → e = .returned (.string v) ∧ Rd 44 w' g s p' bad' ∧ Kept [g] w w'
theorem RefText.ok {hi : Int} {n k bg bh : Nat} {w' : World} (hd : VP.dec ((bytesOf s).drop p) = some (n, k)) (hbg : bg = p + k) (hbh : bh = p + k + n) (h2 : (n : Int) ≤ hi) (hfit : bh ≤ s.size) (hr : Rd 44 w' g s bh false) (hk : Kept [g] w w') :
    RefText g s p w hi (.returned (.string (s.extract bg bh))) w' := by
  intro v p' bad' h
  rcases h with ⟨_, n', k', hd', _, _, rfl, rfl, rfl⟩ | ⟨h, _, _, _⟩
  · rw [hd] at hd'; injection hd' with hd'; injection hd' with e1 e2; subst e1 e2 hbh hbg; exact ⟨rfl, hr, hk⟩
  · rcases h with h | h | ⟨n', k', hd', h⟩
    · cases h
    · rw [hd] at h; cases h
    · rw [hd] at hd'; injection hd' with hd'; injection hd' with e1 e2; subst e1 e2; omega
theorem RefText.no {hi : Int} {w' : World} (h : VP.dec ((bytesOf s).drop p) = none ∨ ∃ n k : Nat, VP.dec ((bytesOf s).drop p) = some (n, k) ∧ (hi < n ∨ s.size < p + k + n)) (hr : Rd 44 w' g s p true) (hk : Kept [g] w w') :
    RefText g s p w hi (.returned (.string ⟨#[]⟩)) w' := by
  intro v p' bad' h'
  rcases h' with ⟨_, n', k', hd', h1, h2, _⟩ | ⟨_, rfl, rfl, rfl⟩
  · rcases h with h | ⟨n, k, hd, h⟩
    · rw [h] at hd'; cases hd'
    · rw [hd] at hd'; injection hd' with hd'; injection hd' with e1 e2; subst e1 e2; omega
  · exact ⟨rfl, hr, hk⟩

set_option maxRecDepth 100000 in
set_option maxHeartbeats 1000000 in
theorem ref_text_some (n k bg bh : Nat) (hi : Int) (hr : Rd 44 w g s p false) (hp : p ≤ s.size) (hx : s.size ≤ 1000000) (hd : VP.dec ((bytesOf s).drop p) = some (n, k)) (hbg : bg = p + k) (hbh : bh = p + k + n) :
    Calls Try.prog 44 #[.pointer (some ⟨g, 0, none⟩), .int .i64 hi] w (RefText g s p w hi) := by
  have hbgs : bg ≤ s.size := by
    have := (VP.dec_only hd).2.2.1
    rw [List.length_drop, bytesOf_length] at this
    omega
  have hn40 := (VP.dec_only hd).1
  have hxs := hx
  obtain ⟨d0, d1, d2⟩ := Rd.cells hr
  obtain ⟨ls, hls⟩ : ∃ ls, ls = s.size := ⟨_, rfl⟩
  have hcv := conv_eq s
  rw [← hls] at hcv hp hx
  have HLS : Hid (ls = (bytesOf s).length) := by show _ = _; rw [bytesOf_length]; exact hls
  have HD := Lib.hid hd
  have hg := Var.lt hr
  have k1 : (Lib.bytesWorld w.drew 5 s).cell? ⟨g, 1, none⟩ = some (.int .i64 (p : Int)) := by rw [Lib.bytesWorld_old _ _ _ _ (by simpa using hg)]; simpa using d1
  have hbw : Below w.heap.size w (Lib.bytesWorld w.drew 5 s) := (Below.refl _ _).drew.trans (conv_below w.drew _ _)
  have HBG := Lib.hid hbg
  have HBH := Lib.hid hbh
  have hsum : (bg : Int) + (n : Int) = (bh : Int) := by omega
  have HS := Lib.hid hsum
  have hbb : bh = bg + n := by omega
  have HBB := Lib.hid hbb
  have hbgh : bg ≤ bh := by omega
  clear hd hbg hbh hls hsum hbb
  go_enter Try.func44, Try.ntmps44
  go_wp2_with fail
  go_region_with ((go_at_call 55; refine (ref_get_some _ _ (bytesOf s) ls p n k bg _ HLS.out ?_ (by omega) (by omega) HD.out HBG.out).mono ?_; (exact conv_seen _ _ _); rintro e w2 ⟨rfl, rfl⟩))
  all_goals
    obtain ⟨w1, hw1⟩ : ∃ w1, w1 = Lib.bytesWorld w.drew 5 s := ⟨_, rfl⟩
    rw [← hw1] at hbw k1 ⊢
    have hr1 : Rd 44 w1 g s p false := Var.below hr hbw hg
    have hk1 : Kept [g] w w1 := Kept.of_below hbw
    obtain ⟨f0, f1, f2⟩ := Rd.cells hr1
    have f3 := Var.free hr1 1
    have f4 := Var.free hr1 2
    have hrb := hr1.setBad true
    have hkb := hk1.setCell (p := ⟨g, 2, none⟩) (.inl (by simp)) (.bool true)
    have hra := hr1.setAt bh
    obtain ⟨x0, x1, x2⟩ := Rd.cells hra
    have hka := hk1.setCell (p := ⟨g, 1, none⟩) (.inl (by simp)) (.int .i64 (bh : Int))
    clear hw1 hcv k1 hr1 d0 d1 d2 hbw
    by_cases h2 : hi < (n : Int)
    · have h2' : decide (hi < (n : Int)) = true := by simpa using h2
      clear x0 x1 x2
      go_wp2
      go_ret
      exact RefText.no g s p w (.inr ⟨n, k, HD.out, .inl h2⟩) hrb hkb
    · have h2' : (n : Int) ≤ hi := by omega
      by_cases h3 : (s.size : Int) - (bg : Int) < (n : Int)
      · clear x0 x1 x2
        go_wp2
        go_ret
        exact RefText.no g s p w (.inr ⟨n, k, HD.out, .inr (by have := HBG.out; omega)⟩) hrb hkb
      · have h3' : (n : Int) ≤ (s.size : Int) - (bg : Int) := by omega
        have h4 : bh ≤ s.size := by have := HBB.out; omega
        have hsum := HS.out
        have i1 : (0 : Int) ≤ (bg : Int) := by omega
        have i2 : (bg : Int) ≤ (bh : Int) := by omega
        have i3 : (bh : Int) ≤ (s.size : Int) := by omega
        go_wp2_with fail
        go_quiet (fail)
        go_wp2
        go_ret
        exact RefText.ok g s p w HD.out HBG.out HBH.out h2' h4 hra (hka.drewN _)

set_option maxRecDepth 100000 in
set_option maxHeartbeats 1000000 in
theorem ref_text_none (hi : Int) (hr : Rd 44 w g s p false) (hp : p ≤ s.size) (hx : s.size ≤ 1000000) (hd : VP.dec ((bytesOf s).drop p) = none) :
    Calls Try.prog 44 #[.pointer (some ⟨g, 0, none⟩), .int .i64 hi] w (RefText g s p w hi) := by
  obtain ⟨d0, d1, d2⟩ := Rd.cells hr
  obtain ⟨ls, hls⟩ : ∃ ls, ls = s.size := ⟨_, rfl⟩
  have hcv := conv_eq s
  rw [← hls] at hcv hp hx
  have HLS : Hid (ls = (bytesOf s).length) := by show _ = _; rw [bytesOf_length]; exact hls
  have HD := Lib.hid hd
  have hg := Var.lt hr
  have k1 : (Lib.bytesWorld w.drew 5 s).cell? ⟨g, 1, none⟩ = some (.int .i64 (p : Int)) := by rw [Lib.bytesWorld_old _ _ _ _ (by simpa using hg)]; simpa using d1
  have hbw : Below w.heap.size w (Lib.bytesWorld w.drew 5 s) := (Below.refl _ _).drew.trans (conv_below w.drew _ _)
  clear hd hls
  go_enter Try.func44, Try.ntmps44
  go_wp2_with fail
  go_region_with ((go_at_call 55; refine (ref_get_none _ _ (bytesOf s) ls p _ HLS.out ?_ (by omega) (by omega) HD.out).mono ?_; (exact conv_seen _ _ _); rintro e w2 ⟨rfl, rfl⟩))
  all_goals
    obtain ⟨w1, hw1⟩ : ∃ w1, w1 = Lib.bytesWorld w.drew 5 s := ⟨_, rfl⟩
    rw [← hw1] at hbw k1 ⊢
    have hr1 : Rd 44 w1 g s p false := Var.below hr hbw hg
    have hk1 : Kept [g] w w1 := Kept.of_below hbw
    obtain ⟨f0, f1, f2⟩ := Rd.cells hr1
    have f3 := Var.free hr1 1
    have f4 := Var.free hr1 2
    have hrb := hr1.setBad true
    have hkb := hk1.setCell (p := ⟨g, 2, none⟩) (.inl (by simp)) (.bool true)
    clear hw1 hcv k1 hr1 d0 d1 d2 hbw
    go_wp2
    go_ret
    exact RefText.no g s p w (.inl HD.out) hrb hkb

theorem ref_text_all (bad : Bool) (hi : Int) (v : ByteArray) (p' : Nat) (bad' : Bool) (h : TextIs s p bad hi v p' bad') (hr : Rd 44 w g s p bad) (hx : s.size ≤ 1000000) (hp : p ≤ s.size) :
    Calls Try.prog 44 #[.pointer (some ⟨g, 0, none⟩), .int .i64 hi] w fun e w' => e = .returned (.string v) ∧ Rd 44 w' g s p' bad' ∧ Kept [g] w w' := by
  cases bad
  · rcases hd : VP.dec ((bytesOf s).drop p) with _ | ⟨n, k⟩
    · exact (ref_text_none g s p w hi hr hp hx hd).mono fun _ _ hq => hq v p' bad' h
    · exact (ref_text_some g s p w n k _ _ hi hr hp hx hd rfl rfl).mono fun _ _ hq => hq v p' bad' h
  · rcases h with ⟨h, _⟩ | ⟨_, rfl, rfl, rfl⟩
    · cases h
    · refine (ref_text_bad g s p' w hi hr).mono ?_
      rintro e w' ⟨rfl, rfl⟩
      exact ⟨rfl, hr, Kept.refl _ _⟩

set_option maxRecDepth 100000 in
set_option maxHeartbeats 1000000 in
theorem ref_flag_all (bad v : Bool) (p' : Nat) (bad' : Bool) (h : FlagIs s p bad v p' bad') (hr : Rd 44 w g s p bad) (hx : s.size ≤ 1000000) :
    Calls Try.prog 43 #[.pointer (some ⟨g, 0, none⟩)] w fun e w' => e = .returned (.bool v) ∧ Rd 44 w' g s p' bad' ∧ Kept [g] w w' := by
  obtain ⟨d0, d1, d2⟩ := Rd.cells hr
  have f3 := Var.free hr 1
  have f4 := Var.free hr 2
  rcases h with ⟨rfl, hd, rfl, rfl⟩ | ⟨hc, rfl, rfl, rfl⟩
  · obtain ⟨hlt, hc⟩ := byte_of hd
    have hy : s[p].toNat = if v then 1 else 0 := by rw [hc]; cases v <;> rfl
    have i0 : (0 : Int) ≤ (p : Int) := by omega
    have i1 : (p : Int) < (s.size : Int) := by omega
    have i2 : decide (s.size ≤ p) = false := by simp; omega
    obtain ⟨bh, hbh⟩ : ∃ bh, bh = p + 1 := ⟨_, rfl⟩
    have hsum : (p : Int) + 1 = (bh : Int) := by omega
    have hsub : IntKind.i64.wrap ((bh : Int) - 1) = (p : Int) := by rw [IntWalk.i64_in _ (by omega)]; omega
    have hneg : decide ((p : Int) < 0) = false := by simp
    have HR := Lib.hid hr
    have HS := Lib.hid hsum
    have HB := Lib.hid hsub
    have HBH := Lib.hid hbh
    clear hbh hsum hsub hd hc hr
    cases v
    all_goals
      simp only [if_true, if_false, Bool.false_eq_true] at hy
      go_enter Try.func43, Try.ntmps43
      go_wp2_with fail
      go_quiet (fail)
      have hra : Rd 44 ((w.drewN nq).setCell ⟨g, 1, none⟩ (.int .i64 (bh : Int))) g s bh false := Rd.setAt (w := w.drewN nq) HR.out bh
      have hka : Kept [g] w ((w.drewN nq).setCell ⟨g, 1, none⟩ (.int .i64 (bh : Int))) := ((Kept.refl _ _).drewN nq).setCell (p := ⟨g, 1, none⟩) (.inl (by simp)) _
      obtain ⟨x0, x1, x2⟩ := Rd.cells hra
      have hsum := HS.out
      have hsub := HB.out
      go_wp2_with fail
      go_quiet (fail)
      go_wp2
      go_ret
      exact ⟨rfl, by rw [← HBH.out]; exact hra, hka.drewN _⟩
  · have hrb := hr.setBad true
    have hkb : Kept [g] w (w.setCell ⟨g, 2, none⟩ (.bool true)) := (Kept.refl _ _).setCell (p := ⟨g, 2, none⟩) (.inl (by simp)) _
    have hneg : decide ((p' : Int) < 0) = false := by simp
    by_cases hb : bad = true
    · subst hb
      clear hc
      go_enter Try.func43, Try.ntmps43
      go_wp2
      go_ret
      exact ⟨rfl, hr, Kept.refl _ _⟩
    · have hbf : bad = false := by simpa using hb
      subst hbf
      by_cases hp : s.size ≤ p'
      · have i2 : decide (s.size ≤ p') = true := by simpa using hp
        clear hc hb
        go_enter Try.func43, Try.ntmps43
        go_wp2_with fail
        go_quiet (fail)
        have hrb : Rd 44 ((w.drewN nq).setCell ⟨g, 2, none⟩ (.bool true)) g s p' true := Rd.setBad (w := w.drewN nq) hr true
        have hkb : Kept [g] w ((w.drewN nq).setCell ⟨g, 2, none⟩ (.bool true)) := ((Kept.refl _ _).drewN nq).setCell (p := ⟨g, 2, none⟩) (.inl (by simp)) _
        go_wp2
        go_ret
        exact ⟨rfl, hrb, hkb⟩
      · obtain ⟨c, hcb, h1⟩ : ∃ c, (bytesOf s)[p']? = some c ∧ 1 < c.toNat := by
          rcases hc with hc | hc | hc
          · cases hc
          · exact absurd hc hp
          · exact hc
        obtain ⟨hlt, hy⟩ := byte_of hcb
        obtain ⟨y, hyy⟩ : ∃ y, s[p'].toNat = y := ⟨_, rfl⟩
        have hy1 : 1 < y := by rw [← hyy, hy]; exact h1
        have i0 : (0 : Int) ≤ (p' : Int) := by omega
        have i1 : (p' : Int) < (s.size : Int) := by omega
        have i2 : decide (s.size ≤ p') = false := by simp; omega
        have i3 : decide (1 < y) = true := by simpa using hy1
        have i4 : decide ((1 : Int) < (y : Int)) = true := by simp; omega
        clear hc hb hcb hy h1 hp
        go_enter Try.func43, Try.ntmps43
        go_wp2_with fail
        go_quiet (fail)
        have hrb : Rd 44 ((w.drewN nq).setCell ⟨g, 2, none⟩ (.bool true)) g s p' true := Rd.setBad (w := w.drewN nq) hr true
        have hkb : Kept [g] w ((w.drewN nq).setCell ⟨g, 2, none⟩ (.bool true)) := ((Kept.refl _ _).drewN nq).setCell (p := ⟨g, 2, none⟩) (.inl (by simp)) _
        go_wp2
        go_ret
        exact ⟨rfl, hrb, hkb⟩
end

end Go.Proofs.Ytiilbcficgpohaa
