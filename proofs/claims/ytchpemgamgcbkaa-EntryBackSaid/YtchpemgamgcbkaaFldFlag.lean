/-
  Contracts of fields' Flag, the reader's, of End and New: what each returns and what it does to memory. Conditions: those that each theorem names.
-/
import Derived.Test.YtchpemgamgcbkaaFldText
namespace Go.Proofs.Ytchpemgamgcbkaa
open Go.RowKit
attribute [local go_sem ↓] Go.wp_at_zero Go.wp_at_succ

section
variable (br bv g : Nat) (s : ByteArray) (p : Nat) (v0 : Bool) (w : World)
  (hvr : Var w br 59 #[.pointer (some ⟨g, 0, none⟩)]) (hvt : Var w bv 4 #[.bool v0])
  (hr : Rd 81 w g s p false) (hp : p < s.size) (hx : s.size ≤ 1000000) (hgt : g ≠ bv) (hrt : br ≠ bv)
include hvr hvt hr hp hx hgt hrt

set_option maxRecDepth 100000 in
set_option maxHeartbeats 1000000 in
theorem flag1_ok (b : Bool) (bh : Nat) (hy : s[p].toNat = if b then 1 else 0) (hbh : bh = p + 1) :
    Calls Try.prog 70 #[.pointer (some ⟨br, 0, none⟩), .pointer (some ⟨bv, 0, none⟩)] w fun e w' =>
      e = .returned (.int .i64 (bh : Int)) ∧ Rd 81 w' g s p false ∧ Var w' bv 4 #[.bool b] ∧ Kept [bv] w w' := by
  have c1 : w.cell? ⟨br, 0, none⟩ = some (.pointer (some ⟨g, 0, none⟩)) := hvr.cell 0 rfl
  have c2 : w.cell? ⟨bv, 0, none⟩ = some (.bool v0) := hvt.cell 0 rfl
  have c3 := hvt.free 0
  obtain ⟨d0, d1, d2⟩ := Rd.cells hr
  have hr3 : Rd 81 (w.drew.drew.setCell ⟨bv, 0, none⟩ (.bool b)) g s p false := Var.other (w := w.drew.drew) hr 0 _ hgt
  have hv3 : Var (w.drew.drew.setCell ⟨bv, 0, none⟩ (.bool b)) bv 4 #[.bool b] := Var.set (w := w.drew.drew) hvt 0 _
  have hvr3 : Var (w.drew.drew.setCell ⟨bv, 0, none⟩ (.bool b)) br 59 #[.pointer (some ⟨g, 0, none⟩)] := Var.other (w := w.drew.drew) hvr 0 _ hrt
  have hk3 : Kept [bv] w (w.drew.drew.setCell ⟨bv, 0, none⟩ (.bool b)) := (Kept.refl _ _).drew.drew.setCell (.inl (by simp)) _
  have f1 : (w.drew.drew.setCell ⟨bv, 0, none⟩ (.bool b)).cell? ⟨br, 0, none⟩ = some (.pointer (some ⟨g, 0, none⟩)) := hvr3.cell 0 rfl
  have f2 : (w.drew.drew.setCell ⟨bv, 0, none⟩ (.bool b)).cell? ⟨g, 1, none⟩ = some (.int .i64 (p : Int)) := (Rd.cells hr3).2.1
  have hi0 : (0 : Int) ≤ (p : Int) := by omega
  have hi1 : (p : Int) < (s.size : Int) := by omega
  have hsum : (p : Int) + 1 = (bh : Int) := by omega
  have HS := Lib.hid hsum
  clear hsum hvr3 hbh
  cases b
  all_goals
    simp only [if_true, if_false, Bool.false_eq_true] at hy
    go_enter Try.func70, Try.ntmps70
    go_wp2_with fail
    refine wp_region_head 10 (by kernel_rfl) (by kernel_rfl) ?_
    simp only [List.take_succ_cons, List.take_zero, List.drop_succ_cons, List.drop_zero]
    repeat still_step
    refine wpStill_nil ?_
    go_wp2_with fail
    refine (must_yes _).mono ?_
    rintro e w2 ⟨rfl, rfl⟩
    go_wp2_with fail
    refine wp_region_head 10 (by kernel_rfl) (by kernel_rfl) ?_
    simp only [List.take_succ_cons, List.take_zero, List.drop_succ_cons, List.drop_zero]
    repeat still_step
    refine wpStill_nil ?_
    have hsum := HS.out
    go_wp2
    go_ret
    exact ⟨rfl, hr3, hv3, hk3⟩

omit hvt hgt hrt hx in
set_option maxRecDepth 100000 in
set_option maxHeartbeats 1000000 in
theorem flag1_no (y : Nat) (hy : s[p].toNat = y) (h2 : 1 < y) :
    Calls Try.prog 70 #[.pointer (some ⟨br, 0, none⟩), .pointer (some ⟨bv, 0, none⟩)] w fun e w' =>
      e = .panicked [{ v := wrongV, recovered := false }] ∧ Below w.heap.size w w' := by
  have c1 : w.cell? ⟨br, 0, none⟩ = some (.pointer (some ⟨g, 0, none⟩)) := hvr.cell 0 rfl
  obtain ⟨d0, d1, d2⟩ := Rd.cells hr
  have hi0 : (0 : Int) ≤ (p : Int) := by omega
  have hi1 : (p : Int) < (s.size : Int) := by omega
  have hd1 : decide ((y : Int) ≤ 1) = false := by simp; omega
  have hd2 : decide (y ≤ 1) = false := by simp; omega
  have hb0 : Below w.heap.size w w.drew := (Below.refl _ _).drew
  go_enter Try.func70, Try.ntmps70
  go_wp2_with fail
  refine wp_region_head 10 (by kernel_rfl) (by kernel_rfl) ?_
  simp only [List.take_succ_cons, List.take_zero, List.drop_succ_cons, List.drop_zero]
  repeat still_step
  refine wpStill_nil ?_
  go_wp2_with fail
  refine (must_no _).mono ?_
  rintro e w2 ⟨rfl, rfl⟩
  go_wp2
  exact ⟨rfl, rfl, hb0⟩
end

/-- What Flag reads: the flag, the place behind, whether the reader is stopped. -/
def FlagIs (s : ByteArray) (p : Nat) (bad v : Bool) (p' : Nat) (bad' : Bool) : Prop :=
  (bad = false ∧ (bytesOf s)[p]? = some (if v then 1 else 0) ∧ p' = p + 1 ∧ bad' = false) ∨
  ((bad = true ∨ s.size ≤ p ∨ ∃ c, (bytesOf s)[p]? = some c ∧ 1 < c.toNat) ∧ v = false ∧ p' = p ∧ bad' = true)
theorem flagIs_of (s : ByteArray) (p : Nat) (bad : Bool) : ∃ v p' bad', FlagIs s p bad v p' bad' := by
  by_cases hb : bad = true
  · exact ⟨false, p, true, .inr ⟨.inl hb, rfl, rfl, rfl⟩⟩
  · have hbf : bad = false := by simpa using hb
    by_cases hp : s.size ≤ p
    · exact ⟨false, p, true, .inr ⟨.inr (.inl hp), rfl, rfl, rfl⟩⟩
    · have hl : p < (bytesOf s).length := by rw [bytesOf_length]; omega
      have hg := List.getElem?_eq_getElem hl
      by_cases h1 : 1 < (bytesOf s)[p].toNat
      · exact ⟨false, p, true, .inr ⟨.inr (.inr ⟨_, hg, h1⟩), rfl, rfl, rfl⟩⟩
      · by_cases h0 : (bytesOf s)[p].toNat = 0
        · refine ⟨false, p + 1, false, .inl ⟨hbf, ?_, rfl, rfl⟩⟩
          rw [hg]; congr 1; exact UInt8.toNat_inj.1 (by simpa using h0)
        · refine ⟨true, p + 1, false, .inl ⟨hbf, ?_, rfl, rfl⟩⟩
          rw [hg]; congr 1; exact UInt8.toNat_inj.1 (by simp; omega)
theorem FlagIs.le {s : ByteArray} {p : Nat} {bad v : Bool} {p' : Nat} {bad' : Bool} (h : FlagIs s p bad v p' bad') (hp : p ≤ s.size) : p' ≤ s.size := by
  rcases h with ⟨_, hd, rfl, _⟩ | ⟨_, _, rfl, _⟩
  · obtain ⟨hl, _⟩ := List.getElem?_eq_some_iff.1 hd
    rw [bytesOf_length] at hl
    omega
  · exact hp
theorem byte_of {s : ByteArray} {p : Nat} {c : UInt8} (h : (bytesOf s)[p]? = some c) : ∃ hp : p < s.size, s[p] = c := by
  obtain ⟨hl, he⟩ := List.getElem?_eq_some_iff.1 h
  have hp : p < s.size := by rw [← bytesOf_length]; exact hl
  exact ⟨hp, by rw [get_is s p hp]; exact he⟩

/-- The variables that Flag makes. -/
def flagWorld (g : Nat) (w : World) : World := (w.alloc (.cells #[.pointer (some ⟨g, 0, none⟩)] 59)).alloc (.cells #[.bool false] 4)
theorem flagWorld_size (g : Nat) (w : World) : (flagWorld g w).heap.size = w.heap.size + 2 := by simp [flagWorld]
theorem flagWorld_below (g : Nat) (w : World) : Below w.heap.size w (flagWorld g w) := ((Below.refl _ _).alloc (Nat.le_refl _) _).alloc (by simp) _
theorem flagWorld_vars (g : Nat) (w : World) : Var (flagWorld g w) w.heap.size 59 #[.pointer (some ⟨g, 0, none⟩)] ∧ Var (flagWorld g w) (w.heap.size + 1) 4 #[.bool false] := by
  have e1 : (w.alloc (.cells #[.pointer (some ⟨g, 0, none⟩)] 59)).heap.size = w.heap.size + 1 := by simp
  refine ⟨(Var.new _ _ _).alloc _, ?_⟩
  rw [← e1]; exact Var.new _ _ _

set_option maxRecDepth 100000 in
set_option maxHeartbeats 1000000 in
theorem flag_all (g : Nat) (s : ByteArray) (p : Nat) (bad v : Bool) (p' : Nat) (bad' : Bool) (w : World) (h : FlagIs s p bad v p' bad') (hr : Rd 81 w g s p bad) (hx : s.size ≤ 1000000) :
    Calls Try.prog 53 #[.pointer (some ⟨g, 0, none⟩)] w fun e w' => e = .returned (.bool v) ∧ Rd 81 w' g s p' bad' ∧ Kept [g] w w' := by
  have hmf := mk_any
  have hb0 := flagWorld_below g w
  have hr0 : Rd 81 (flagWorld g w) g s p bad := Var.below hr hb0 (Var.lt hr)
  obtain ⟨v1, v4⟩ := flagWorld_vars g w
  have hg := Var.lt hr
  have hcf := enters 70 Try.func70 (by kernel_rfl) rfl #[.pointer (some ⟨w.heap.size, 0, none⟩), .pointer (some ⟨w.heap.size + 1, 0, none⟩)]
  have H := Lib.hid h
  have HCF := Lib.hid hcf
  have hsz := flagWorld_size g w
  have HSZ := Lib.hid hsz
  clear h hcf hsz
  have hall : Calls Try.prog 41 #[.pointer (some ⟨g, 0, none⟩), .func (.func 70) #[] #[.pointer (some ⟨w.heap.size, 0, none⟩), .pointer (some ⟨w.heap.size + 1, 0, none⟩)]] (flagWorld g w)
      fun e w' => e = .returned (.tuple #[]) ∧ Rd 81 w' g s p' bad' ∧ w'.cell? ⟨w.heap.size + 1, 0, none⟩ = some (.bool v) ∧ Kept [g] w w' := by
    have stop : ∀ w', Kept [g] (flagWorld g w) w' → w'.cell? ⟨w.heap.size + 1, 0, none⟩ = some (.bool false) ∧ Kept [g] w w' := fun w' hk =>
      ⟨(v4.kept hk (by simp; omega)).cell 0 rfl, (Kept.of_below hb0).trans hk⟩
    rcases H.out with ⟨rfl, hd, rfl, rfl⟩ | ⟨hc, rfl, rfl, rfl⟩
    · obtain ⟨hlt, hc⟩ := byte_of hd
      refine (read_ok _ _ g s p (p + 1) (w.heap.size + 1) 4 (.bool v) _ hr0 hlt (by omega) (by rw [HSZ.out]; simp) HCF.out ?_).mono ?_
      · intro W hb
        have hl := HSZ.out
        exact flag1_ok _ _ g s p false W (v1.below hb (by omega)) (v4.below hb (by omega)) (Var.below hr0 hb (Var.lt hr0)) hlt hx (by omega) (by omega) v _ (by rw [hc]; cases v <;> rfl) rfl
      · rintro e w' ⟨rfl, h1, h2, h3⟩
        exact ⟨rfl, h1, h2.cell 0 rfl, (Kept.of_below hb0).then h3 (by intro x hx; simp at hx; rcases hx with rfl | rfl; exact .inl (by simp); exact .inr (by omega))⟩
    · by_cases hbad : bad = true
      · subst hbad
        refine (read_bad _ g s p' _ hr0).mono ?_
        rintro e w' ⟨rfl, h1, h2⟩
        exact ⟨rfl, h1, stop w' h2⟩
      · have hbf : bad = false := by simpa using hbad
        subst hbf
        by_cases hlt : p' < s.size
        · refine (read_no _ _ g s p' _ hr0 hlt HCF.out ?_).mono ?_
          · intro W hb
            have hl := HSZ.out
            rcases hc with hc | hc | ⟨c, hc, h1⟩
            · cases hc
            · omega
            · obtain ⟨_, hy⟩ := byte_of hc
              exact flag1_no _ _ g s p' W (v1.below hb (by omega)) (Var.below hr0 hb (Var.lt hr0)) hlt c.toNat (by rw [hy]) h1
          · rintro e w' ⟨rfl, h1, h2⟩
            exact ⟨rfl, h1, stop w' h2⟩
        · refine (read_end _ g s p' _ hr0 (by omega)).mono ?_
          rintro e w' ⟨rfl, h1, h2⟩
          exact ⟨rfl, h1, stop w' h2⟩
  have HALL := Lib.hid hall
  clear hall v1 v4 hr0 hb0
  go_enter Try.func53, Try.ntmps53
  go_wp2_with fail
  refine (show Calls _ _ _ (flagWorld g w) _ from HALL.out).mono ?_
  rintro e w1 ⟨rfl, h1, h2, h3⟩
  go_wp2
  go_ret
  exact ⟨rfl, h1, h3⟩

set_option maxRecDepth 100000 in
theorem flag_nil (w : World) : Calls Try.prog 53 #[.pointer none] w fun e w' => e = .returned (.bool false) ∧ Below w.heap.size w w' := by
  have hmf := mk_any
  go_enter Try.func53, Try.ntmps53
  go_wp2_with fail
  refine (read_nil _ _).mono ?_
  rintro e w1 ⟨rfl, hb⟩
  have hb1 : Below w.heap.size w w1 := (((Below.refl _ _).alloc (Nat.le_refl _) _).alloc (by simp) _).trans (hb.mono (by simp; omega))
  have hc : w1.cell? ⟨w.heap.size + 1, 0, none⟩ = some (.bool false) := by
    rw [hb.cell (p := ⟨w.heap.size + 1, 0, none⟩) (by simp)]
    go_simp
  go_wp2
  go_ret
  exact ⟨rfl, hb1⟩

theorem new_any (s : ByteArray) (w : World) : Calls Try.prog 16 #[.string s] w fun e w' =>
    e = .returned (.pointer (some ⟨w.heap.size, 0, none⟩)) ∧ Rd 81 w' w.heap.size s 0 false ∧ Below w.heap.size w w' := by
  have hr : Rd 81 (w.alloc (.cells #[.string s, .int .i64 0, .bool false] 81)) w.heap.size s 0 false := Var.new _ _ _
  have hb : Below w.heap.size w (w.alloc (.cells #[.string s, .int .i64 0, .bool false] 81)) := (Below.refl _ _).alloc (Nat.le_refl _) _
  go_enter Try.func16, Try.ntmps16
  go_wp2
  go_ret
  exact ⟨rfl, hr, hb⟩

/-- What End says. -/
def EndIs (s : ByteArray) (p : Nat) (bad : Bool) (er : Int) : Prop := (bad = false ∧ p = s.size ∧ er = 0) ∨ ((bad = true ∨ p ≠ s.size) ∧ er = 70)
theorem endIs_of (s : ByteArray) (p : Nat) (bad : Bool) : ∃ er, EndIs s p bad er := by
  by_cases h : bad = false ∧ p = s.size
  · exact ⟨0, .inl ⟨h.1, h.2, rfl⟩⟩
  · refine ⟨70, .inr ⟨?_, rfl⟩⟩
    cases bad
    · exact .inr (fun e => h ⟨rfl, e⟩)
    · exact .inl rfl

set_option maxRecDepth 100000 in
set_option maxHeartbeats 1000000 in
theorem end_all (g : Nat) (s : ByteArray) (p : Nat) (bad : Bool) (er : Int) (w : World) (h : EndIs s p bad er) (hr : Rd 81 w g s p bad) :
    Calls Try.prog 18 #[.pointer (some ⟨g, 0, none⟩)] w fun e w' => e = .returned (.int .i64 er) ∧ ∃ n, w' = w.drewN n := by
  obtain ⟨d0, d1, d2⟩ := Rd.cells hr
  rcases h with ⟨rfl, rfl, rfl⟩ | ⟨h, rfl⟩
  · have hself : ((s.size : Int) != (s.size : Int)) = false := by simp
    go_enter Try.func18, Try.ntmps18
    go_wp2
    go_quiet (fail)
    go_wp2
    go_ret
    exact ⟨rfl, _, rfl⟩
  · by_cases hb : bad = true
    · subst hb
      go_enter Try.func18, Try.ntmps18
      go_wp2
      go_quiet (fail)
      go_wp2
      go_ret
      exact ⟨rfl, _, rfl⟩
    · have hbf : bad = false := by simpa using hb
      have hne : ((p : Int) != (s.size : Int)) = true := by
        rcases h with h | h
        · exact absurd h hb
        · simp; omega
      subst hbf
      clear h hb
      go_enter Try.func18, Try.ntmps18
      go_wp2
      go_quiet (fail)
      go_wp2
      go_ret
      exact ⟨rfl, _, rfl⟩

theorem end_nil (w : World) : Calls Try.prog 18 #[.pointer none] w fun e w' => e = .returned (.int .i64 70) ∧ ∃ n, w' = w.drewN n := by
  go_enter Try.func18, Try.ntmps18
  go_wp2
  go_quiet (fail)
  go_wp2
  go_ret
  exact ⟨rfl, _, rfl⟩

end Go.Proofs.Ytchpemgamgcbkaa
