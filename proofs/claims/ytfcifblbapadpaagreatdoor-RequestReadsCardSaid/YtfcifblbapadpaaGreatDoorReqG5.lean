/-
  Contracts of fields' Flag, the reader's, of End and New: what each returns and what it does to memory. Conditions: those that each theorem names.
  Contracts of the document's own answers for fields' readers (rovingref02): what each returns and what it does to memory. Conditions: those that each theorem names.
  Contracts of the document's own answers for fields' readers (rovingref02's Text and Flag): what each returns and what it does to memory. Conditions: those that each theorem names.
  Contracts of fields' Number, Text, Flag and Size that write, and of the document's own answers: what each returns and what it does to memory. Conditions: those that each theorem names.
-/
import Derived.Test.YtfcifblbapadpaaGreatDoorReqG4
namespace Go.Proofs.YtfcifblbapadpaaGreatDoor
open Go.RowKit
attribute [local go_sem ↓] Go.wp_at_zero Go.wp_at_succ

section
variable (br bv g : Nat) (s : ByteArray) (p : Nat) (v0 : Bool) (w : World)
  (hvr : Var w br 56 #[.pointer (some ⟨g, 0, none⟩)]) (hvt : Var w bv 4 #[.bool v0])
  (hr : Rd 78 w g s p false) (hp : p < s.size) (hx : s.size ≤ 1000000) (hgt : g ≠ bv) (hrt : br ≠ bv)
include hvr hvt hr hp hx hgt hrt

set_option maxRecDepth 100000 in
set_option maxHeartbeats 1000000 in
theorem flag1_ok (b : Bool) (bh : Nat) (hy : s[p].toNat = if b then 1 else 0) (hbh : bh = p + 1) :
    Calls Tryz.prog 74 #[.pointer (some ⟨br, 0, none⟩), .pointer (some ⟨bv, 0, none⟩)] w fun e w' =>
      e = .returned (.int .i64 (bh : Int)) ∧ Rd 78 w' g s p false ∧ Var w' bv 4 #[.bool b] ∧ Kept [bv] w w' := by
  have c1 : w.cell? ⟨br, 0, none⟩ = some (.pointer (some ⟨g, 0, none⟩)) := hvr.cell 0 rfl
  have c2 : w.cell? ⟨bv, 0, none⟩ = some (.bool v0) := hvt.cell 0 rfl
  have c3 := hvt.free 0
  obtain ⟨d0, d1, d2⟩ := Rd.cells hr
  have hr3 : Rd 78 (w.drew.drew.setCell ⟨bv, 0, none⟩ (.bool b)) g s p false := Var.other (w := w.drew.drew) hr 0 _ hgt
  have hv3 : Var (w.drew.drew.setCell ⟨bv, 0, none⟩ (.bool b)) bv 4 #[.bool b] := Var.set (w := w.drew.drew) hvt 0 _
  have hvr3 : Var (w.drew.drew.setCell ⟨bv, 0, none⟩ (.bool b)) br 56 #[.pointer (some ⟨g, 0, none⟩)] := Var.other (w := w.drew.drew) hvr 0 _ hrt
  have hk3 : Kept [bv] w (w.drew.drew.setCell ⟨bv, 0, none⟩ (.bool b)) := (Kept.refl _ _).drew.drew.setCell (.inl (by simp)) _
  have f1 : (w.drew.drew.setCell ⟨bv, 0, none⟩ (.bool b)).cell? ⟨br, 0, none⟩ = some (.pointer (some ⟨g, 0, none⟩)) := hvr3.cell 0 rfl
  have f2 : (w.drew.drew.setCell ⟨bv, 0, none⟩ (.bool b)).cell? ⟨g, 1, none⟩ = some (.int .i64 (p : Int)) := (Rd.cells hr3).2.1
  have hi0 : (0 : Int) ≤ (p : Int) := by omega
  have hi1 : (p : Int) < (s.size : Int) := by omega
  have hsum : (p : Int) + 1 = (bh : Int) := by omega
  have HS := Lib.hid hsum
  clear hsum hvr3 hbh
  cases b
  all_goals
    simp only [if_true, if_false, Bool.false_eq_true] at hy
    go_enter Tryz.func74, Tryz.ntmps74
    go_wp2_with fail
    refine wp_region_head 10 (by kernel_rfl) (by kernel_rfl) ?_
    simp only [List.take_succ_cons, List.take_zero, List.drop_succ_cons, List.drop_zero]
    repeat still_step
    refine wpStill_nil ?_
    go_wp2_with fail
    refine (must_yes _).mono ?_
    rintro e w2 ⟨rfl, rfl⟩
    go_wp2_with fail
    refine wp_region_head 10 (by kernel_rfl) (by kernel_rfl) ?_
    simp only [List.take_succ_cons, List.take_zero, List.drop_succ_cons, List.drop_zero]
    repeat still_step
    refine wpStill_nil ?_
    have hsum := HS.out
    go_wp2
    go_ret
    exact ⟨rfl, hr3, hv3, hk3⟩

omit hvt hgt hrt hx in
set_option maxRecDepth 100000 in
set_option maxHeartbeats 1000000 in
theorem flag1_no (y : Nat) (hy : s[p].toNat = y) (h2 : 1 < y) :
    Calls Tryz.prog 74 #[.pointer (some ⟨br, 0, none⟩), .pointer (some ⟨bv, 0, none⟩)] w fun e w' =>
      e = .panicked [{ v := wrongV, recovered := false }] ∧ Below w.heap.size w w' := by
  have c1 : w.cell? ⟨br, 0, none⟩ = some (.pointer (some ⟨g, 0, none⟩)) := hvr.cell 0 rfl
  obtain ⟨d0, d1, d2⟩ := Rd.cells hr
  have hi0 : (0 : Int) ≤ (p : Int) := by omega
  have hi1 : (p : Int) < (s.size : Int) := by omega
  have hd1 : decide ((y : Int) ≤ 1) = false := by simp; omega
  have hd2 : decide (y ≤ 1) = false := by simp; omega
  have hb0 : Below w.heap.size w w.drew := (Below.refl _ _).drew
  go_enter Tryz.func74, Tryz.ntmps74
  go_wp2_with fail
  refine wp_region_head 10 (by kernel_rfl) (by kernel_rfl) ?_
  simp only [List.take_succ_cons, List.take_zero, List.drop_succ_cons, List.drop_zero]
  repeat still_step
  refine wpStill_nil ?_
  go_wp2_with fail
  refine (must_no _).mono ?_
  rintro e w2 ⟨rfl, rfl⟩
  go_wp2
  exact ⟨rfl, rfl, hb0⟩
end

/-- What Flag reads: the flag, the place behind, whether the reader is stopped. -/
def FlagIs (s : ByteArray) (p : Nat) (bad v : Bool) (p' : Nat) (bad' : Bool) : Prop :=
  (bad = false ∧ (bytesOf s)[p]? = some (if v then 1 else 0) ∧ p' = p + 1 ∧ bad' = false) ∨
  ((bad = true ∨ s.size ≤ p ∨ ∃ c, (bytesOf s)[p]? = some c ∧ 1 < c.toNat) ∧ v = false ∧ p' = p ∧ bad' = true)
theorem flagIs_of (s : ByteArray) (p : Nat) (bad : Bool) : ∃ v p' bad', FlagIs s p bad v p' bad' := by
  by_cases hb : bad = true
  · exact ⟨false, p, true, .inr ⟨.inl hb, rfl, rfl, rfl⟩⟩
  · have hbf : bad = false := by simpa using hb
    by_cases hp : s.size ≤ p
    · exact ⟨false, p, true, .inr ⟨.inr (.inl hp), rfl, rfl, rfl⟩⟩
    · have hl : p < (bytesOf s).length := by rw [bytesOf_length]; omega
      have hg := List.getElem?_eq_getElem hl
      by_cases h1 : 1 < (bytesOf s)[p].toNat
      · exact ⟨false, p, true, .inr ⟨.inr (.inr ⟨_, hg, h1⟩), rfl, rfl, rfl⟩⟩
      · by_cases h0 : (bytesOf s)[p].toNat = 0
        · refine ⟨false, p + 1, false, .inl ⟨hbf, ?_, rfl, rfl⟩⟩
          rw [hg]; congr 1; exact UInt8.toNat_inj.1 (by simpa using h0)
        · refine ⟨true, p + 1, false, .inl ⟨hbf, ?_, rfl, rfl⟩⟩
          rw [hg]; congr 1; exact UInt8.toNat_inj.1 (by simp; omega)
theorem FlagIs.le {s : ByteArray} {p : Nat} {bad v : Bool} {p' : Nat} {bad' : Bool} (h : FlagIs s p bad v p' bad') (hp : p ≤ s.size) : p' ≤ s.size := by
  rcases h with ⟨_, hd, rfl, _⟩ | ⟨_, _, rfl, _⟩
  · obtain ⟨hl, _⟩ := List.getElem?_eq_some_iff.1 hd
    rw [bytesOf_length] at hl
    omega
  · exact hp
theorem byte_of {s : ByteArray} {p : Nat} {c : UInt8} (h : (bytesOf s)[p]? = some c) : ∃ hp : p < s.size, s[p] = c := by
  obtain ⟨hl, he⟩ := List.getElem?_eq_some_iff.1 h
  have hp : p < s.size := by rw [← bytesOf_length]; exact hl
  exact ⟨hp, by rw [get_is s p hp]; exact he⟩

/-- The variables that Flag makes. -/
def flagWorld (g : Nat) (w : World) : World := (w.alloc (.cells #[.pointer (some ⟨g, 0, none⟩)] 56)).alloc (.cells #[.bool false] 4)
theorem flagWorld_size (g : Nat) (w : World) : (flagWorld g w).heap.size = w.heap.size + 2 := by simp [flagWorld]
theorem flagWorld_below (g : Nat) (w : World) : Below w.heap.size w (flagWorld g w) := ((Below.refl _ _).alloc (Nat.le_refl _) _).alloc (by simp) _
theorem flagWorld_vars (g : Nat) (w : World) : Var (flagWorld g w) w.heap.size 56 #[.pointer (some ⟨g, 0, none⟩)] ∧ Var (flagWorld g w) (w.heap.size + 1) 4 #[.bool false] := by
  have e1 : (w.alloc (.cells #[.pointer (some ⟨g, 0, none⟩)] 56)).heap.size = w.heap.size + 1 := by simp
  refine ⟨(Var.new _ _ _).alloc _, ?_⟩
  rw [← e1]; exact Var.new _ _ _

set_option maxRecDepth 100000 in
set_option maxHeartbeats 1000000 in
theorem flag_all (g : Nat) (s : ByteArray) (p : Nat) (bad v : Bool) (p' : Nat) (bad' : Bool) (w : World) (h : FlagIs s p bad v p' bad') (hr : Rd 78 w g s p bad) (hx : s.size ≤ 1000000) :
    Calls Tryz.prog 61 #[.pointer (some ⟨g, 0, none⟩)] w fun e w' => e = .returned (.bool v) ∧ Rd 78 w' g s p' bad' ∧ Kept [g] w w' := by
  have hmf := mk_any
  have hb0 := flagWorld_below g w
  have hr0 : Rd 78 (flagWorld g w) g s p bad := Var.below hr hb0 (Var.lt hr)
  obtain ⟨v1, v4⟩ := flagWorld_vars g w
  have hg := Var.lt hr
  have hcf := enters 74 Tryz.func74 (by kernel_rfl) rfl #[.pointer (some ⟨w.heap.size, 0, none⟩), .pointer (some ⟨w.heap.size + 1, 0, none⟩)]
  have H := Lib.hid h
  have HCF := Lib.hid hcf
  have hsz := flagWorld_size g w
  have HSZ := Lib.hid hsz
  clear h hcf hsz
  have hall : Calls Tryz.prog 68 #[.pointer (some ⟨g, 0, none⟩), .func (.func 74) #[] #[.pointer (some ⟨w.heap.size, 0, none⟩), .pointer (some ⟨w.heap.size + 1, 0, none⟩)]] (flagWorld g w)
      fun e w' => e = .returned (.tuple #[]) ∧ Rd 78 w' g s p' bad' ∧ w'.cell? ⟨w.heap.size + 1, 0, none⟩ = some (.bool v) ∧ Kept [g] w w' := by
    have stop : ∀ w', Kept [g] (flagWorld g w) w' → w'.cell? ⟨w.heap.size + 1, 0, none⟩ = some (.bool false) ∧ Kept [g] w w' := fun w' hk =>
      ⟨(v4.kept hk (by simp; omega)).cell 0 rfl, (Kept.of_below hb0).trans hk⟩
    rcases H.out with ⟨rfl, hd, rfl, rfl⟩ | ⟨hc, rfl, rfl, rfl⟩
    · obtain ⟨hlt, hc⟩ := byte_of hd
      refine (read_ok _ _ g s p (p + 1) (w.heap.size + 1) 4 (.bool v) _ hr0 hlt (by omega) (by rw [HSZ.out]; simp) HCF.out ?_).mono ?_
      · intro W hb
        have hl := HSZ.out
        exact flag1_ok _ _ g s p false W (v1.below hb (by omega)) (v4.below hb (by omega)) (Var.below hr0 hb (Var.lt hr0)) hlt hx (by omega) (by omega) v _ (by rw [hc]; cases v <;> rfl) rfl
      · rintro e w' ⟨rfl, h1, h2, h3⟩
        exact ⟨rfl, h1, h2.cell 0 rfl, (Kept.of_below hb0).then h3 (by intro x hx; simp at hx; rcases hx with rfl | rfl; exact .inl (by simp); exact .inr (by omega))⟩
    · by_cases hbad : bad = true
      · subst hbad
        refine (read_bad _ g s p' _ hr0).mono ?_
        rintro e w' ⟨rfl, h1, h2⟩
        exact ⟨rfl, h1, stop w' h2⟩
      · have hbf : bad = false := by simpa using hbad
        subst hbf
        by_cases hlt : p' < s.size
        · refine (read_no _ _ g s p' _ hr0 hlt HCF.out ?_).mono ?_
          · intro W hb
            have hl := HSZ.out
            rcases hc with hc | hc | ⟨c, hc, h1⟩
            · cases hc
            · omega
            · obtain ⟨_, hy⟩ := byte_of hc
              exact flag1_no _ _ g s p' W (v1.below hb (by omega)) (Var.below hr0 hb (Var.lt hr0)) hlt c.toNat (by rw [hy]) h1
          · rintro e w' ⟨rfl, h1, h2⟩
            exact ⟨rfl, h1, stop w' h2⟩
        · refine (read_end _ g s p' _ hr0 (by omega)).mono ?_
          rintro e w' ⟨rfl, h1, h2⟩
          exact ⟨rfl, h1, stop w' h2⟩
  have HALL := Lib.hid hall
  clear hall v1 v4 hr0 hb0
  go_enter Tryz.func61, Tryz.ntmps61
  go_wp2_with fail
  refine (show Calls _ _ _ (flagWorld g w) _ from HALL.out).mono ?_
  rintro e w1 ⟨rfl, h1, h2, h3⟩
  go_wp2
  go_ret
  exact ⟨rfl, h1, h3⟩

set_option maxRecDepth 100000 in
theorem flag_nil (w : World) : Calls Tryz.prog 61 #[.pointer none] w fun e w' => e = .returned (.bool false) ∧ Below w.heap.size w w' := by
  have hmf := mk_any
  go_enter Tryz.func61, Tryz.ntmps61
  go_wp2_with fail
  refine (read_nil _ _).mono ?_
  rintro e w1 ⟨rfl, hb⟩
  have hb1 : Below w.heap.size w w1 := (((Below.refl _ _).alloc (Nat.le_refl _) _).alloc (by simp) _).trans (hb.mono (by simp; omega))
  have hc : w1.cell? ⟨w.heap.size + 1, 0, none⟩ = some (.bool false) := by
    rw [hb.cell (p := ⟨w.heap.size + 1, 0, none⟩) (by simp)]
    go_simp
  go_wp2
  go_ret
  exact ⟨rfl, hb1⟩

theorem new_any (s : ByteArray) (w : World) : Calls Tryz.prog 22 #[.string s] w fun e w' =>
    e = .returned (.pointer (some ⟨w.heap.size, 0, none⟩)) ∧ Rd 78 w' w.heap.size s 0 false ∧ Below w.heap.size w w' := by
  have hr : Rd 78 (w.alloc (.cells #[.string s, .int .i64 0, .bool false] 78)) w.heap.size s 0 false := Var.new _ _ _
  have hb : Below w.heap.size w (w.alloc (.cells #[.string s, .int .i64 0, .bool false] 78)) := (Below.refl _ _).alloc (Nat.le_refl _) _
  go_enter Tryz.func22, Tryz.ntmps22
  go_wp2
  go_ret
  exact ⟨rfl, hr, hb⟩

/-- What End says. -/
def EndIs (s : ByteArray) (p : Nat) (bad : Bool) (er : Int) : Prop := (bad = false ∧ p = s.size ∧ er = 0) ∨ ((bad = true ∨ p ≠ s.size) ∧ er = 70)
theorem endIs_of (s : ByteArray) (p : Nat) (bad : Bool) : ∃ er, EndIs s p bad er := by
  by_cases h : bad = false ∧ p = s.size
  · exact ⟨0, .inl ⟨h.1, h.2, rfl⟩⟩
  · refine ⟨70, .inr ⟨?_, rfl⟩⟩
    cases bad
    · exact .inr (fun e => h ⟨rfl, e⟩)
    · exact .inl rfl

set_option maxRecDepth 100000 in
set_option maxHeartbeats 1000000 in
theorem end_all (g : Nat) (s : ByteArray) (p : Nat) (bad : Bool) (er : Int) (w : World) (h : EndIs s p bad er) (hr : Rd 78 w g s p bad) :
    Calls Tryz.prog 62 #[.pointer (some ⟨g, 0, none⟩)] w fun e w' => e = .returned (.int .i64 er) ∧ ∃ n, w' = w.drewN n := by
  obtain ⟨d0, d1, d2⟩ := Rd.cells hr
  rcases h with ⟨rfl, rfl, rfl⟩ | ⟨h, rfl⟩
  · have hself : ((s.size : Int) != (s.size : Int)) = false := by simp
    go_enter Tryz.func62, Tryz.ntmps62
    go_wp2
    go_quiet (fail)
    go_wp2
    go_ret
    exact ⟨rfl, _, rfl⟩
  · by_cases hb : bad = true
    · subst hb
      go_enter Tryz.func62, Tryz.ntmps62
      go_wp2
      go_quiet (fail)
      go_wp2
      go_ret
      exact ⟨rfl, _, rfl⟩
    · have hbf : bad = false := by simpa using hb
      have hne : ((p : Int) != (s.size : Int)) = true := by
        rcases h with h | h
        · exact absurd h hb
        · simp; omega
      subst hbf
      clear h hb
      go_enter Tryz.func62, Tryz.ntmps62
      go_wp2
      go_quiet (fail)
      go_wp2
      go_ret
      exact ⟨rfl, _, rfl⟩

theorem end_nil (w : World) : Calls Tryz.prog 62 #[.pointer none] w fun e w' => e = .returned (.int .i64 70) ∧ ∃ n, w' = w.drewN n := by
  go_enter Tryz.func62, Tryz.ntmps62
  go_wp2
  go_quiet (fail)
  go_wp2
  go_ret
  exact ⟨rfl, _, rfl⟩

end Go.Proofs.YtfcifblbapadpaaGreatDoor

namespace Go.Proofs.YtfcifblbapadpaaGreatDoor
open Go.RowKit
attribute [local go_sem ↓] Go.wp_at_zero Go.wp_at_succ

/-- What rovingref01.Get answers, in one pair. -/
theorem ref_get_some (A : Option Addr) (c : Nat) (bs : List UInt8) (lb at_ n k bh : Nat) (w : World) (hlb : lb = bs.length) (hs : Seen w w.heap.size A (cells bs)) (hx : lb ≤ 1000000) (hat : at_ ≤ lb) (hd : VP.dec (bs.drop at_) = some (n, k)) (hbh : bh = at_ + k) :
    Calls Tryz.prog 26 #[.slice A lb c, .int .i64 (at_ : Int)] w fun e w' => e = .returned (.tuple #[.int .i64 (n : Int), .int .i64 (bh : Int), .int .i64 0]) ∧ w = w' := by
  subst hbh
  exact (ref_get A c bs lb at_ w hlb hs hx hat).mono fun _ _ ⟨hw, h1, _⟩ => ⟨h1 n k hd, hw⟩
theorem ref_get_none (A : Option Addr) (c : Nat) (bs : List UInt8) (lb at_ : Nat) (w : World) (hlb : lb = bs.length) (hs : Seen w w.heap.size A (cells bs)) (hx : lb ≤ 1000000) (hat : at_ ≤ lb) (hd : VP.dec (bs.drop at_) = none) :
    Calls Tryz.prog 26 #[.slice A lb c, .int .i64 (at_ : Int)] w fun e w' => e = .returned (.tuple #[.int .i64 0, .int .i64 0, .int .i64 70]) ∧ w = w' :=
  (ref_get A c bs lb at_ w hlb hs hx hat).mono fun _ _ ⟨hw, _, h1⟩ => ⟨h1 hd, hw⟩

theorem ref_new (s : ByteArray) (w : World) : Calls Tryz.prog 12 #[.string s] w fun e w' =>
    e = .returned (.pointer (some ⟨w.heap.size, 0, none⟩)) ∧ Rd 47 w' w.heap.size s 0 false ∧ Below w.heap.size w w' := by
  have hr : Rd 47 (w.alloc (.cells #[.string s, .int .i64 0, .bool false] 47)) w.heap.size s 0 false := Var.new _ _ _
  have hb : Below w.heap.size w (w.alloc (.cells #[.string s, .int .i64 0, .bool false] 47)) := (Below.refl _ _).alloc (Nat.le_refl _) _
  go_enter Tryz.func12, Tryz.ntmps12
  go_wp2
  go_ret
  exact ⟨rfl, hr, hb⟩

theorem ref_wrong (g : Nat) (s : ByteArray) (p : Nat) (bad : Bool) (w : World) (h : Rd 47 w g s p bad) :
    Calls Tryz.prog 50 #[.pointer (some ⟨g, 0, none⟩)] w fun e w' => e = .returned (.tuple #[]) ∧ Rd 47 w' g s p true ∧ Kept [g] w w' := by
  obtain ⟨h0, h1, h2⟩ := h.cells
  have hf := Var.free h 2
  have hr := h.setBad true
  have hk : Kept [g] w (w.setCell ⟨g, 2, none⟩ (.bool true)) := (Kept.refl _ _).setCell (.inl (by simp)) _
  go_enter Tryz.func50, Tryz.ntmps50
  go_wp2
  go_end0
  exact ⟨rfl, hr, hk⟩

set_option maxRecDepth 100000 in
set_option maxHeartbeats 1000000 in
theorem ref_end (g : Nat) (s : ByteArray) (p : Nat) (bad : Bool) (er : Int) (w : World) (h : EndIs s p bad er) (hr : Rd 47 w g s p bad) :
    Calls Tryz.prog 17 #[.pointer (some ⟨g, 0, none⟩)] w fun e w' => e = .returned (.int .i64 er) ∧ ∃ n, w' = w.drewN n := by
  obtain ⟨d0, d1, d2⟩ := Rd.cells hr
  rcases h with ⟨rfl, rfl, rfl⟩ | ⟨h, rfl⟩
  · have hself : ((s.size : Int) != (s.size : Int)) = false := by simp
    go_enter Tryz.func17, Tryz.ntmps17
    go_wp2
    go_quiet (fail)
    go_wp2
    go_ret
    exact ⟨rfl, _, rfl⟩
  · by_cases hb : bad = true
    · subst hb
      go_enter Tryz.func17, Tryz.ntmps17
      go_wp2
      go_quiet (fail)
      go_wp2
      go_ret
      exact ⟨rfl, _, rfl⟩
    · have hbf : bad = false := by simpa using hb
      have hne : ((p : Int) != (s.size : Int)) = true := by
        rcases h with h | h
        · exact absurd h hb
        · simp; omega
      subst hbf
      clear h hb
      go_enter Tryz.func17, Tryz.ntmps17
      go_wp2
      go_quiet (fail)
      go_wp2
      go_ret
      exact ⟨rfl, _, rfl⟩

section
variable (g : Nat) (s : ByteArray) (p : Nat) (w : World)

set_option maxRecDepth 100000 in
theorem ref_number_bad (lo hi : Int) (hr : Rd 47 w g s p true) : Calls Tryz.prog 13 #[.pointer (some ⟨g, 0, none⟩), .int .i64 lo, .int .i64 hi] w fun e w' => e = .returned (.int .i64 0) ∧ w = w' := by
  obtain ⟨d0, d1, d2⟩ := Rd.cells hr
  go_enter Tryz.func13, Tryz.ntmps13
  go_wp2
  go_ret
  exact ⟨rfl, rfl⟩

/-- What the document's Number hands back of a reader that is not stopped. -/
def RefNum (lo hi : Int) (e : Ending) (w' : World) : Prop := ∀ v p' bad', NumIs s p false lo hi v p' bad' → e = .returned (.int .i64 v) ∧ Rd 47 w' g s p' bad' ∧ Kept [g] w w'
theorem RefNum.ok {lo hi : Int} {n k bh : Nat} {w' : World} (hd : VP.dec ((bytesOf s).drop p) = some (n, k)) (hbh : bh = p + k) (h1 : lo ≤ n) (h2 : (n : Int) ≤ hi) (hr : Rd 47 w' g s bh false) (hk : Kept [g] w w') : RefNum g s p w lo hi (.returned (.int .i64 (n : Int))) w' := by
  intro v p' bad' h
  rcases h with ⟨_, n', k', hd', _, _, rfl, rfl, rfl⟩ | ⟨h, _, _, _⟩
  · rw [hd] at hd'; injection hd' with hd'; injection hd' with e1 e2; subst e1 e2 hbh; exact ⟨rfl, hr, hk⟩
  · rcases h with h | h | ⟨n', k', hd', h⟩
    · cases h
    · rw [hd] at h; cases h
    · rw [hd] at hd'; injection hd' with hd'; injection hd' with e1 e2; subst e1 e2; omega
theorem RefNum.no {lo hi : Int} {w' : World} (h : VP.dec ((bytesOf s).drop p) = none ∨ ∃ n k : Nat, VP.dec ((bytesOf s).drop p) = some (n, k) ∧ ((n : Int) < lo ∨ hi < n)) (hr : Rd 47 w' g s p true) (hk : Kept [g] w w') : RefNum g s p w lo hi (.returned (.int .i64 0)) w' := by
  intro v p' bad' h'
  rcases h' with ⟨_, n', k', hd', h1, h2, _⟩ | ⟨_, rfl, rfl, rfl⟩
  · rcases h with h | ⟨n, k, hd, h⟩
    · rw [h] at hd'; cases hd'
    · rw [hd] at hd'; injection hd' with hd'; injection hd' with e1 e2; subst e1 e2; omega
  · exact ⟨rfl, hr, hk⟩

set_option maxRecDepth 100000 in
set_option maxHeartbeats 1000000 in
theorem ref_number_some (n k bh : Nat) (lo hi : Int) (hr : Rd 47 w g s p false) (hp : p ≤ s.size) (hx : s.size ≤ 1000000) (hd : VP.dec ((bytesOf s).drop p) = some (n, k)) (hbh : bh = p + k) :
    Calls Tryz.prog 13 #[.pointer (some ⟨g, 0, none⟩), .int .i64 lo, .int .i64 hi] w (RefNum g s p w lo hi) := by
  obtain ⟨d0, d1, d2⟩ := Rd.cells hr
  obtain ⟨ls, hls⟩ : ∃ ls, ls = s.size := ⟨_, rfl⟩
  have hcv := conv_eq s
  rw [← hls] at hcv hp hx
  have HLS : Hid (ls = (bytesOf s).length) := by show _ = _; rw [bytesOf_length]; exact hls
  have HD := Lib.hid hd
  have hg := Var.lt hr
  have k1 : (Lib.bytesWorld w.drew 5 s).cell? ⟨g, 1, none⟩ = some (.int .i64 (p : Int)) := by rw [Lib.bytesWorld_old _ _ _ _ (by simpa using hg)]; simpa using d1
  have hbw : Below w.heap.size w (Lib.bytesWorld w.drew 5 s) := (Below.refl _ _).drew.trans (conv_below w.drew _ _)
  have HBH := Lib.hid hbh
  clear hd hbh hls
  go_enter Tryz.func13, Tryz.ntmps13
  go_wp2_with fail
  go_region_with ((go_at_call 26; refine (ref_get_some _ _ (bytesOf s) ls p n k bh _ HLS.out ?_ (by omega) (by omega) HD.out HBH.out).mono ?_; (exact conv_seen _ _ _); rintro e w2 ⟨rfl, rfl⟩))
  all_goals
    obtain ⟨w1, hw1⟩ : ∃ w1, w1 = Lib.bytesWorld w.drew 5 s := ⟨_, rfl⟩
    rw [← hw1] at hbw k1 ⊢
    have hr1 : Rd 47 w1 g s p false := Var.below hr hbw hg
    have hk1 : Kept [g] w w1 := Kept.of_below hbw
    obtain ⟨f0, f1, f2⟩ := Rd.cells hr1
    have f3 := Var.free hr1 1
    have f4 := Var.free hr1 2
    have hrb := hr1.setBad true
    have hkb := hk1.setCell (p := ⟨g, 2, none⟩) (.inl (by simp)) (.bool true)
    have hra := hr1.setAt bh
    clear hw1 hcv k1 hr1 d0 d1 d2 hbw
    have hka := hk1.setCell (p := ⟨g, 1, none⟩) (.inl (by simp)) (.int .i64 (bh : Int))
    by_cases h1 : (n : Int) < lo
    · go_wp2
      go_ret
      exact RefNum.no g s p w (.inr ⟨n, k, HD.out, .inl h1⟩) hrb hkb
    · have h1' : lo ≤ (n : Int) := by omega
      by_cases h2 : hi < (n : Int)
      · have h2' : decide (hi < (n : Int)) = true := by simpa using h2
        go_wp2
        go_ret
        exact RefNum.no g s p w (.inr ⟨n, k, HD.out, .inr h2⟩) hrb hkb
      · have h2' : (n : Int) ≤ hi := by omega
        go_wp2
        go_ret
        exact RefNum.ok g s p w HD.out HBH.out h1' h2' hra hka

set_option maxRecDepth 100000 in
set_option maxHeartbeats 1000000 in
theorem ref_number_none (lo hi : Int) (hr : Rd 47 w g s p false) (hp : p ≤ s.size) (hx : s.size ≤ 1000000) (hd : VP.dec ((bytesOf s).drop p) = none) :
    Calls Tryz.prog 13 #[.pointer (some ⟨g, 0, none⟩), .int .i64 lo, .int .i64 hi] w (RefNum g s p w lo hi) := by
  obtain ⟨d0, d1, d2⟩ := Rd.cells hr
  obtain ⟨ls, hls⟩ : ∃ ls, ls = s.size := ⟨_, rfl⟩
  have hcv := conv_eq s
  rw [← hls] at hcv hp hx
  have HLS : Hid (ls = (bytesOf s).length) := by show _ = _; rw [bytesOf_length]; exact hls
  have HD := Lib.hid hd
  have hg := Var.lt hr
  have k1 : (Lib.bytesWorld w.drew 5 s).cell? ⟨g, 1, none⟩ = some (.int .i64 (p : Int)) := by rw [Lib.bytesWorld_old _ _ _ _ (by simpa using hg)]; simpa using d1
  have hbw : Below w.heap.size w (Lib.bytesWorld w.drew 5 s) := (Below.refl _ _).drew.trans (conv_below w.drew _ _)
  clear hd hls
  go_enter Tryz.func13, Tryz.ntmps13
  go_wp2_with fail
  go_region_with ((go_at_call 26; refine (ref_get_none _ _ (bytesOf s) ls p _ HLS.out ?_ (by omega) (by omega) HD.out).mono ?_; (exact conv_seen _ _ _); rintro e w2 ⟨rfl, rfl⟩))
  all_goals
    obtain ⟨w1, hw1⟩ : ∃ w1, w1 = Lib.bytesWorld w.drew 5 s := ⟨_, rfl⟩
    rw [← hw1] at hbw k1 ⊢
    have hr1 : Rd 47 w1 g s p false := Var.below hr hbw hg
    have hk1 : Kept [g] w w1 := Kept.of_below hbw
    obtain ⟨f0, f1, f2⟩ := Rd.cells hr1
    have f3 := Var.free hr1 1
    have f4 := Var.free hr1 2
    have hrb := hr1.setBad true
    have hkb := hk1.setCell (p := ⟨g, 2, none⟩) (.inl (by simp)) (.bool true)
    clear hw1 hcv k1 hr1 d0 d1 d2 hbw
    go_wp2
    go_ret
    exact RefNum.no g s p w (.inl HD.out) hrb hkb

theorem ref_number_all (bad : Bool) (lo hi v : Int) (p' : Nat) (bad' : Bool) (h : NumIs s p bad lo hi v p' bad') (hr : Rd 47 w g s p bad) (hx : s.size ≤ 1000000) (hp : p ≤ s.size) :
    Calls Tryz.prog 13 #[.pointer (some ⟨g, 0, none⟩), .int .i64 lo, .int .i64 hi] w fun e w' => e = .returned (.int .i64 v) ∧ Rd 47 w' g s p' bad' ∧ Kept [g] w w' := by
  cases bad
  · rcases hd : VP.dec ((bytesOf s).drop p) with _ | ⟨n, k⟩
    · exact (ref_number_none g s p w lo hi hr hp hx hd).mono fun _ _ hq => hq v p' bad' h
    · exact (ref_number_some g s p w n k _ lo hi hr hp hx hd rfl).mono fun _ _ hq => hq v p' bad' h
  · rcases h with ⟨h, _⟩ | ⟨_, rfl, rfl, rfl⟩
    · cases h
    · refine (ref_number_bad g s p' w lo hi hr).mono ?_
      rintro e w' ⟨rfl, rfl⟩
      exact ⟨rfl, hr, Kept.refl _ _⟩
end

end Go.Proofs.YtfcifblbapadpaaGreatDoor

namespace Go.Proofs.YtfcifblbapadpaaGreatDoor
open Go.RowKit
attribute [local go_sem ↓] Go.wp_at_zero Go.wp_at_succ

section
variable (g : Nat) (s : ByteArray) (p : Nat) (w : World)

set_option maxRecDepth 100000 in
theorem ref_text_bad (hi : Int) (hr : Rd 47 w g s p true) : Calls Tryz.prog 15 #[.pointer (some ⟨g, 0, none⟩), .int .i64 hi] w fun e w' => e = .returned (.string ⟨#[]⟩) ∧ w = w' := by
  obtain ⟨d0, d1, d2⟩ := Rd.cells hr
  go_enter Tryz.func15, Tryz.ntmps15
  go_wp2
  go_ret
  exact ⟨rfl, rfl⟩

/-- What the document's Text hands back of a reader that is not stopped. -/
def RefText (hi : Int) (e : Ending) (w' : World) : Prop := ∀ v p' bad', TextIs s p false hi v p' bad' → e = .returned (.string v) ∧ Rd 47 w' g s p' bad' ∧ Kept [g] w w'
theorem RefText.ok {hi : Int} {n k bg bh : Nat} {w' : World} (hd : VP.dec ((bytesOf s).drop p) = some (n, k)) (hbg : bg = p + k) (hbh : bh = p + k + n) (h2 : (n : Int) ≤ hi) (hfit : bh ≤ s.size) (hr : Rd 47 w' g s bh false) (hk : Kept [g] w w') :
    RefText g s p w hi (.returned (.string (s.extract bg bh))) w' := by
  intro v p' bad' h
  rcases h with ⟨_, n', k', hd', _, _, rfl, rfl, rfl⟩ | ⟨h, _, _, _⟩
  · rw [hd] at hd'; injection hd' with hd'; injection hd' with e1 e2; subst e1 e2 hbh hbg; exact ⟨rfl, hr, hk⟩
  · rcases h with h | h | ⟨n', k', hd', h⟩
    · cases h
    · rw [hd] at h; cases h
    · rw [hd] at hd'; injection hd' with hd'; injection hd' with e1 e2; subst e1 e2; omega
theorem RefText.no {hi : Int} {w' : World} (h : VP.dec ((bytesOf s).drop p) = none ∨ ∃ n k : Nat, VP.dec ((bytesOf s).drop p) = some (n, k) ∧ (hi < n ∨ s.size < p + k + n)) (hr : Rd 47 w' g s p true) (hk : Kept [g] w w') :
    RefText g s p w hi (.returned (.string ⟨#[]⟩)) w' := by
  intro v p' bad' h'
  rcases h' with ⟨_, n', k', hd', h1, h2, _⟩ | ⟨_, rfl, rfl, rfl⟩
  · rcases h with h | ⟨n, k, hd, h⟩
    · rw [h] at hd'; cases hd'
    · rw [hd] at hd'; injection hd' with hd'; injection hd' with e1 e2; subst e1 e2; omega
  · exact ⟨rfl, hr, hk⟩

set_option maxRecDepth 100000 in
set_option maxHeartbeats 1000000 in
theorem ref_text_some (n k bg bh : Nat) (hi : Int) (hr : Rd 47 w g s p false) (hp : p ≤ s.size) (hx : s.size ≤ 1000000) (hd : VP.dec ((bytesOf s).drop p) = some (n, k)) (hbg : bg = p + k) (hbh : bh = p + k + n) :
    Calls Tryz.prog 15 #[.pointer (some ⟨g, 0, none⟩), .int .i64 hi] w (RefText g s p w hi) := by
  have hbgs : bg ≤ s.size := by
    have := (VP.dec_only hd).2.2.1
    rw [List.length_drop, bytesOf_length] at this
    omega
  have hn40 := (VP.dec_only hd).1
  have hxs := hx
  obtain ⟨d0, d1, d2⟩ := Rd.cells hr
  obtain ⟨ls, hls⟩ : ∃ ls, ls = s.size := ⟨_, rfl⟩
  have hcv := conv_eq s
  rw [← hls] at hcv hp hx
  have HLS : Hid (ls = (bytesOf s).length) := by show _ = _; rw [bytesOf_length]; exact hls
  have HD := Lib.hid hd
  have hg := Var.lt hr
  have k1 : (Lib.bytesWorld w.drew 5 s).cell? ⟨g, 1, none⟩ = some (.int .i64 (p : Int)) := by rw [Lib.bytesWorld_old _ _ _ _ (by simpa using hg)]; simpa using d1
  have hbw : Below w.heap.size w (Lib.bytesWorld w.drew 5 s) := (Below.refl _ _).drew.trans (conv_below w.drew _ _)
  have HBG := Lib.hid hbg
  have HBH := Lib.hid hbh
  have hsum : (bg : Int) + (n : Int) = (bh : Int) := by omega
  have HS := Lib.hid hsum
  have hbb : bh = bg + n := by omega
  have HBB := Lib.hid hbb
  have hbgh : bg ≤ bh := by omega
  clear hd hbg hbh hls hsum hbb
  go_enter Tryz.func15, Tryz.ntmps15
  go_wp2_with fail
  go_region_with ((go_at_call 26; refine (ref_get_some _ _ (bytesOf s) ls p n k bg _ HLS.out ?_ (by omega) (by omega) HD.out HBG.out).mono ?_; (exact conv_seen _ _ _); rintro e w2 ⟨rfl, rfl⟩))
  all_goals
    obtain ⟨w1, hw1⟩ : ∃ w1, w1 = Lib.bytesWorld w.drew 5 s := ⟨_, rfl⟩
    rw [← hw1] at hbw k1 ⊢
    have hr1 : Rd 47 w1 g s p false := Var.below hr hbw hg
    have hk1 : Kept [g] w w1 := Kept.of_below hbw
    obtain ⟨f0, f1, f2⟩ := Rd.cells hr1
    have f3 := Var.free hr1 1
    have f4 := Var.free hr1 2
    have hrb := hr1.setBad true
    have hkb := hk1.setCell (p := ⟨g, 2, none⟩) (.inl (by simp)) (.bool true)
    have hra := hr1.setAt bh
    obtain ⟨x0, x1, x2⟩ := Rd.cells hra
    have hka := hk1.setCell (p := ⟨g, 1, none⟩) (.inl (by simp)) (.int .i64 (bh : Int))
    clear hw1 hcv k1 hr1 d0 d1 d2 hbw
    by_cases h2 : hi < (n : Int)
    · have h2' : decide (hi < (n : Int)) = true := by simpa using h2
      clear x0 x1 x2
      go_wp2
      go_ret
      exact RefText.no g s p w (.inr ⟨n, k, HD.out, .inl h2⟩) hrb hkb
    · have h2' : (n : Int) ≤ hi := by omega
      by_cases h3 : (s.size : Int) - (bg : Int) < (n : Int)
      · clear x0 x1 x2
        go_wp2
        go_ret
        exact RefText.no g s p w (.inr ⟨n, k, HD.out, .inr (by have := HBG.out; omega)⟩) hrb hkb
      · have h3' : (n : Int) ≤ (s.size : Int) - (bg : Int) := by omega
        have h4 : bh ≤ s.size := by have := HBB.out; omega
        have hsum := HS.out
        have i1 : (0 : Int) ≤ (bg : Int) := by omega
        have i2 : (bg : Int) ≤ (bh : Int) := by omega
        have i3 : (bh : Int) ≤ (s.size : Int) := by omega
        go_wp2_with fail
        go_quiet (fail)
        go_wp2
        go_ret
        exact RefText.ok g s p w HD.out HBG.out HBH.out h2' h4 hra (hka.drewN _)

set_option maxRecDepth 100000 in
set_option maxHeartbeats 1000000 in
theorem ref_text_none (hi : Int) (hr : Rd 47 w g s p false) (hp : p ≤ s.size) (hx : s.size ≤ 1000000) (hd : VP.dec ((bytesOf s).drop p) = none) :
    Calls Tryz.prog 15 #[.pointer (some ⟨g, 0, none⟩), .int .i64 hi] w (RefText g s p w hi) := by
  obtain ⟨d0, d1, d2⟩ := Rd.cells hr
  obtain ⟨ls, hls⟩ : ∃ ls, ls = s.size := ⟨_, rfl⟩
  have hcv := conv_eq s
  rw [← hls] at hcv hp hx
  have HLS : Hid (ls = (bytesOf s).length) := by show _ = _; rw [bytesOf_length]; exact hls
  have HD := Lib.hid hd
  have hg := Var.lt hr
  have k1 : (Lib.bytesWorld w.drew 5 s).cell? ⟨g, 1, none⟩ = some (.int .i64 (p : Int)) := by rw [Lib.bytesWorld_old _ _ _ _ (by simpa using hg)]; simpa using d1
  have hbw : Below w.heap.size w (Lib.bytesWorld w.drew 5 s) := (Below.refl _ _).drew.trans (conv_below w.drew _ _)
  clear hd hls
  go_enter Tryz.func15, Tryz.ntmps15
  go_wp2_with fail
  go_region_with ((go_at_call 26; refine (ref_get_none _ _ (bytesOf s) ls p _ HLS.out ?_ (by omega) (by omega) HD.out).mono ?_; (exact conv_seen _ _ _); rintro e w2 ⟨rfl, rfl⟩))
  all_goals
    obtain ⟨w1, hw1⟩ : ∃ w1, w1 = Lib.bytesWorld w.drew 5 s := ⟨_, rfl⟩
    rw [← hw1] at hbw k1 ⊢
    have hr1 : Rd 47 w1 g s p false := Var.below hr hbw hg
    have hk1 : Kept [g] w w1 := Kept.of_below hbw
    obtain ⟨f0, f1, f2⟩ := Rd.cells hr1
    have f3 := Var.free hr1 1
    have f4 := Var.free hr1 2
    have hrb := hr1.setBad true
    have hkb := hk1.setCell (p := ⟨g, 2, none⟩) (.inl (by simp)) (.bool true)
    clear hw1 hcv k1 hr1 d0 d1 d2 hbw
    go_wp2
    go_ret
    exact RefText.no g s p w (.inl HD.out) hrb hkb

theorem ref_text_all (bad : Bool) (hi : Int) (v : ByteArray) (p' : Nat) (bad' : Bool) (h : TextIs s p bad hi v p' bad') (hr : Rd 47 w g s p bad) (hx : s.size ≤ 1000000) (hp : p ≤ s.size) :
    Calls Tryz.prog 15 #[.pointer (some ⟨g, 0, none⟩), .int .i64 hi] w fun e w' => e = .returned (.string v) ∧ Rd 47 w' g s p' bad' ∧ Kept [g] w w' := by
  cases bad
  · rcases hd : VP.dec ((bytesOf s).drop p) with _ | ⟨n, k⟩
    · exact (ref_text_none g s p w hi hr hp hx hd).mono fun _ _ hq => hq v p' bad' h
    · exact (ref_text_some g s p w n k _ _ hi hr hp hx hd rfl rfl).mono fun _ _ hq => hq v p' bad' h
  · rcases h with ⟨h, _⟩ | ⟨_, rfl, rfl, rfl⟩
    · cases h
    · refine (ref_text_bad g s p' w hi hr).mono ?_
      rintro e w' ⟨rfl, rfl⟩
      exact ⟨rfl, hr, Kept.refl _ _⟩

set_option maxRecDepth 100000 in
set_option maxHeartbeats 1000000 in
theorem ref_flag_all (bad v : Bool) (p' : Nat) (bad' : Bool) (h : FlagIs s p bad v p' bad') (hr : Rd 47 w g s p bad) (hx : s.size ≤ 1000000) :
    Calls Tryz.prog 16 #[.pointer (some ⟨g, 0, none⟩)] w fun e w' => e = .returned (.bool v) ∧ Rd 47 w' g s p' bad' ∧ Kept [g] w w' := by
  obtain ⟨d0, d1, d2⟩ := Rd.cells hr
  have f3 := Var.free hr 1
  have f4 := Var.free hr 2
  rcases h with ⟨rfl, hd, rfl, rfl⟩ | ⟨hc, rfl, rfl, rfl⟩
  · obtain ⟨hlt, hc⟩ := byte_of hd
    have hy : s[p].toNat = if v then 1 else 0 := by rw [hc]; cases v <;> rfl
    have i0 : (0 : Int) ≤ (p : Int) := by omega
    have i1 : (p : Int) < (s.size : Int) := by omega
    have i2 : decide (s.size ≤ p) = false := by simp; omega
    obtain ⟨bh, hbh⟩ : ∃ bh, bh = p + 1 := ⟨_, rfl⟩
    have hsum : (p : Int) + 1 = (bh : Int) := by omega
    have hsub : IntKind.i64.wrap ((bh : Int) - 1) = (p : Int) := by rw [IntWalk.i64_in _ (by omega)]; omega
    have hneg : decide ((p : Int) < 0) = false := by simp
    have HR := Lib.hid hr
    have HS := Lib.hid hsum
    have HB := Lib.hid hsub
    have HBH := Lib.hid hbh
    clear hbh hsum hsub hd hc hr
    cases v
    all_goals
      simp only [if_true, if_false, Bool.false_eq_true] at hy
      go_enter Tryz.func16, Tryz.ntmps16
      go_wp2_with fail
      go_quiet (fail)
      have hra : Rd 47 ((w.drewN nq).setCell ⟨g, 1, none⟩ (.int .i64 (bh : Int))) g s bh false := Rd.setAt (w := w.drewN nq) HR.out bh
      have hka : Kept [g] w ((w.drewN nq).setCell ⟨g, 1, none⟩ (.int .i64 (bh : Int))) := ((Kept.refl _ _).drewN nq).setCell (p := ⟨g, 1, none⟩) (.inl (by simp)) _
      obtain ⟨x0, x1, x2⟩ := Rd.cells hra
      have hsum := HS.out
      have hsub := HB.out
      go_wp2_with fail
      go_quiet (fail)
      go_wp2
      go_ret
      exact ⟨rfl, by rw [← HBH.out]; exact hra, hka.drewN _⟩
  · have hrb := hr.setBad true
    have hkb : Kept [g] w (w.setCell ⟨g, 2, none⟩ (.bool true)) := (Kept.refl _ _).setCell (p := ⟨g, 2, none⟩) (.inl (by simp)) _
    have hneg : decide ((p' : Int) < 0) = false := by simp
    by_cases hb : bad = true
    · subst hb
      clear hc
      go_enter Tryz.func16, Tryz.ntmps16
      go_wp2
      go_ret
      exact ⟨rfl, hr, Kept.refl _ _⟩
    · have hbf : bad = false := by simpa using hb
      subst hbf
      by_cases hp : s.size ≤ p'
      · have i2 : decide (s.size ≤ p') = true := by simpa using hp
        clear hc hb
        go_enter Tryz.func16, Tryz.ntmps16
        go_wp2_with fail
        go_quiet (fail)
        have hrb : Rd 47 ((w.drewN nq).setCell ⟨g, 2, none⟩ (.bool true)) g s p' true := Rd.setBad (w := w.drewN nq) hr true
        have hkb : Kept [g] w ((w.drewN nq).setCell ⟨g, 2, none⟩ (.bool true)) := ((Kept.refl _ _).drewN nq).setCell (p := ⟨g, 2, none⟩) (.inl (by simp)) _
        go_wp2
        go_ret
        exact ⟨rfl, hrb, hkb⟩
      · obtain ⟨c, hcb, h1⟩ : ∃ c, (bytesOf s)[p']? = some c ∧ 1 < c.toNat := by
          rcases hc with hc | hc | hc
          · cases hc
          · exact absurd hc hp
          · exact hc
        obtain ⟨hlt, hy⟩ := byte_of hcb
        obtain ⟨y, hyy⟩ : ∃ y, s[p'].toNat = y := ⟨_, rfl⟩
        have hy1 : 1 < y := by rw [← hyy, hy]; exact h1
        have i0 : (0 : Int) ≤ (p' : Int) := by omega
        have i1 : (p' : Int) < (s.size : Int) := by omega
        have i2 : decide (s.size ≤ p') = false := by simp; omega
        have i3 : decide (1 < y) = true := by simpa using hy1
        have i4 : decide ((1 : Int) < (y : Int)) = true := by simp; omega
        clear hc hb hcb hy h1 hp
        go_enter Tryz.func16, Tryz.ntmps16
        go_wp2_with fail
        go_quiet (fail)
        have hrb : Rd 47 ((w.drewN nq).setCell ⟨g, 2, none⟩ (.bool true)) g s p' true := Rd.setBad (w := w.drewN nq) hr true
        have hkb : Kept [g] w ((w.drewN nq).setCell ⟨g, 2, none⟩ (.bool true)) := ((Kept.refl _ _).drewN nq).setCell (p := ⟨g, 2, none⟩) (.inl (by simp)) _
        go_wp2
        go_ret
        exact ⟨rfl, hrb, hkb⟩
end

end Go.Proofs.YtfcifblbapadpaaGreatDoor

namespace Go.Proofs.YtfcifblbapadpaaGreatDoor
open Go.RowKit

section
variable (A : Option Addr) (c : Nat) (bs : List UInt8) (lb : Nat)

theorem num_put (n : Int) (xs : List UInt8) (er : Int) (lx : Nat) (w : World) (hp : PutIs bs n xs er) (hlb : lb = bs.length) (hlx : lx = xs.length) (hs : Seen w w.heap.size A (cells bs)) (hx : lb ≤ 1000000) :
    Calls Tryz.prog 51 #[.slice A lb c, .int .i64 n] w fun e w' => ∃ A' c', e = .returned (.tuple #[.slice A' lx c', .int .i64 er]) ∧ Seen w' w'.heap.size A' (cells xs) ∧ lx ≤ c' ∧ Below w.heap.size w w' := by
  have H := Lib.hid (put_all A c bs lb n xs er lx w hp hlb hlx hs hx)
  clear hp hlb hlx
  go_enter Tryz.func51, Tryz.ntmps51
  go_wp2_with fail
  refine H.out.mono ?_
  rintro e w1 ⟨A', c', rfl, h1, h2, h3⟩
  go_wp2
  go_ret2
  exact ⟨A', c', rfl, h1, h2, h3⟩
/-- What Text of s behind bs is: bytes and an error's number. -/
def TextPut (bs : List UInt8) (s : ByteArray) (xs : List UInt8) (er : Int) : Prop :=
  (s.size ≤ 1024 ∧ xs = bs ++ (VP.enc s.size ++ bytesOf s) ∧ er = 0) ∨ (1024 < s.size ∧ xs = [] ∧ er = 2)
theorem textPut_of (bs : List UInt8) (s : ByteArray) : ∃ xs er, TextPut bs s xs er := by
  by_cases h : s.size ≤ 1024
  · exact ⟨_, 0, .inl ⟨h, rfl, rfl⟩⟩
  · exact ⟨[], 2, .inr ⟨by omega, rfl, rfl⟩⟩
theorem TextPut.le {bs : List UInt8} {s : ByteArray} {xs : List UInt8} {er : Int} (h : TextPut bs s xs er) : xs.length ≤ bs.length + 1030 := by
  rcases h with ⟨h, rfl, _⟩ | ⟨_, rfl, _⟩
  · have := VP.enc_six (n := s.size) (by omega)
    rw [List.length_append, List.length_append, bytesOf_length]
    omega
  · simp

set_option maxRecDepth 100000 in
set_option maxHeartbeats 1000000 in
theorem text_put (s : ByteArray) (xs : List UInt8) (er : Int) (lx : Nat) (w : World) (hp : TextPut bs s xs er) (hlb : lb = bs.length) (hlx : lx = xs.length) (hs : Seen w w.heap.size A (cells bs)) (hx : lb ≤ 1000000) :
    Calls Tryz.prog 53 #[.slice A lb c, .string s] w fun e w' => ∃ A' c', e = .returned (.tuple #[.slice A' lx c', .int .i64 er]) ∧ Seen w' w'.heap.size A' (cells xs) ∧ lx ≤ c' ∧ Below w.heap.size w w' := by
  obtain ⟨i0, hi0, hz0, hz1, hz2⟩ := info_parts u8_info
  rcases hp with ⟨h, hxs, rfl⟩ | ⟨h, rfl, rfl⟩
  · have hput : Calls Tryz.prog 66 #[.slice A lb c, .int .i64 (s.size : Int)] w fun e w' => ∃ v, e = .returned (.tuple #[v, .int .i64 0]) ∧ w'.ownsRow w.heap.size 5 1 v (bs ++ VP.enc s.size).length (cells (bs ++ VP.enc s.size)) ∧ Below w.heap.size w w' := by
      have hx' : bs.length ≤ 1000000 := by omega
      subst hlb
      exact put_yes A c bs s.size w hs hx' (by omega)
    obtain ⟨ms, hms⟩ : ∃ ms, ms = bs ++ VP.enc s.size := ⟨_, rfl⟩
    obtain ⟨lm, hlm⟩ : ∃ lm, lm = ms.length := ⟨_, rfl⟩
    have h6 := VP.enc_six (n := s.size) (by omega)
    have hle : lm ≤ 1000006 := by rw [hlm, hms, List.length_append]; omega
    rw [← hms, ← hlm] at hput
    have H := Lib.hid hput
    have HE : Hid (cells ms ++ Lib.strCells s = cells xs ∧ lm + s.size = lx) := by
      refine ⟨?_, ?_⟩
      · rw [strCells_is, ← cells_append, hxs, hms, List.append_assoc]
      · rw [hlx, hxs, hlm, hms, ← List.append_assoc, List.length_append (bs := bytesOf s), bytesOf_length]
    clear hput hxs hlx hlb h6 hms hlm
    go_enter Tryz.func53, Tryz.ntmps53
    go_wp2_with fail
    refine H.out.mono ?_
    rintro e w1 ⟨v, rfl, hown, hb⟩
    go_wp2_with (at_builtin; refine Lib.wpList_append_own_string _ rfl _ _ 22 9 rfl w.heap.size 5 i0 Tryz.underlying22 Tryz.underlying9 hi0 hz0 hz1 hz2 v _ _ rfl hown s rfl ?c1 ?c2 ?c3 ?_)
    case c1 => unfold maxLen; omega
    case c2 => omega
    case c3 => exact hb.size
    intro v' w2 hown2 hg _
    have hb2 : Below w.heap.size w w2 := hb.grown hg hb.size (fun k hk => (hown.lt k hk).1)
    rw [HE.out.1, HE.out.2] at hown2
    obtain ⟨A', c', rfl, h1, h2⟩ := own_form hown2
    clear hown hown2 hg
    go_wp2
    go_ret2
    exact ⟨A', c', rfl, h1, h2, hb2⟩
  · have h0 : lx = 0 := by simpa using hlx
    subst h0
    clear hlx hlb
    go_enter Tryz.func53, Tryz.ntmps53
    go_wp2
    go_ret2
    exact ⟨none, 0, rfl, Seen.nil _ _ _, Nat.le_refl _, Below.refl _ _⟩

/-- A flag's byte. -/
def flagByte (b : Bool) : UInt8 := if b then 1 else 0

/-- 'b[:len(b):len(b)]'. -/
theorem cut_full {w : World} {B : Nat} (hlb : lb = bs.length) (hs : Seen w B A (cells bs)) (hc : lb ≤ c) :
    ∃ D, (∀ W, (Instr.slice 22 (.slice A lb c) none (some (.int .i64 (lb : Int))) (some (.int .i64 (lb : Int)))).run Tryz.prog W = .ok (.slice D lb lb) W) ∧ Seen w B D (cells bs) ∧ (D = none → lb = 0) := by
  refine ⟨if lb = 0 then A else A.map (·.add (0 * 1)), fun W => ?_, ?_, ?_⟩
  · have ht' : Tryz.prog.underlying 22 = some (.slice (Tryz.prog.elem 22)) := by simp [Program.elem, Tryz.underlying22]
    have he : Tryz.prog.elem 22 = 5 := by simp [Program.elem, Tryz.underlying22]
    rw [run_slice_hm W 22 _ _ _ ht' .i64 .i64 _ _ (by omega) (by omega) (by omega), he, u8_size]
    simp [Result.andThen, sliced]
  · by_cases h0 : lb = 0
    · rw [if_pos h0]; exact hs
    · rw [if_neg h0]
      intro hx
      obtain ⟨b, off, rfl, h1, h2⟩ := hs hx
      exact ⟨b, off, by simp [plain_add], h1, h2⟩
  · intro hn
    by_cases h0 : lb = 0
    · exact h0
    · rw [if_neg h0] at hn
      obtain ⟨b, off, rfl, _, _⟩ := hs (by intro e; have : bs = [] := by simpa [cells] using e
                                           rw [this] at hlb; simp at hlb; exact h0 hlb)
      simp at hn

set_option maxRecDepth 100000 in
set_option maxHeartbeats 1000000 in
theorem flag_put (yes : Bool) (xs : List UInt8) (lx : Nat) (w : World) (hxs : xs = bs ++ [flagByte yes]) (hlb : lb = bs.length) (hlx : lx = lb + 1) (hs : Seen w w.heap.size A (cells bs)) (hx : lb ≤ 1000000) (hc : lb ≤ c) :
    Calls Tryz.prog 54 #[.slice A lb c, .bool yes] w fun e w' => ∃ A' c', e = .returned (.slice A' lx c') ∧ Seen w' w'.heap.size A' (cells xs) ∧ lx ≤ c' ∧ Below w.heap.size w w' := by
  obtain ⟨i0, hi0, hz0, hz1, hz2⟩ := info_parts u8_info
  obtain ⟨D, hcut, hsD, hDn⟩ := cut_full A c bs lb hlb hs hc
  have HB := Lib.hid hlb
  have HX := Lib.hid hxs
  have HLX := Lib.hid hlx
  have HD := Lib.hid hDn
  clear hlb hxs hlx hDn hs
  cases yes
  · have hsD1 : Seen (w.alloc (.cells #[.int .u8 0] 5)) w.heap.size D (cells bs) := hsD.below ((Below.refl _ _).alloc (Nat.le_refl _) _)
    have hbz : Below w.heap.size w (w.alloc (.cells #[.int .u8 0] 5)) := (Below.refl _ _).alloc (Nat.le_refl _) _
    go_enter Tryz.func54, Tryz.ntmps54
    go_wp2_with (at_builtin; refine wpList_append_grows _ rfl _ _ 22 rfl 5 i0 (.int .u8 0) 1 1 Tryz.underlying22 hi0 hz0 hz1 hz2 rfl (by decide) D lb lb (cells bs) rfl ?a1 ?a2 ?a3 ⟨w.heap.size, 0, none⟩ 1 1 [.int .u8 0] rfl rfl ?c1 ?c2 ?c3 ?c4 ?c5 ?_)
    case a1 => exact fun h => ⟨HD.out h, HD.out h⟩
    case a2 => rw [cells_length, ← HB.out, Nat.mul_one]
    case a3 =>
      intro b hb j u hu
      obtain ⟨b', off, he, _, h2⟩ := hsD1 (by intro e; rw [e] at hu; simp at hu)
      rw [hb] at he
      injection he with he
      subst he
      rw [plain_add]
      exact h2 j u hu
    case c1 => exact cell_one_new _ _ _
    case c2 => intro u hu; simp at hu; subst hu; rfl
    case c3 => omega
    case c4 => unfold maxLen; omega
    case c5 => omega
    intro v' w2 hown hg
    have hbw : Below w.heap.size w w2 := hbz.grown hg (by simp) (fun k hk => by cases hk)
    have hxl : cells bs ++ [.int .u8 0] = cells xs := by rw [HX.out, cells_append]; rfl
    rw [hxl, ← HLX.out] at hown
    obtain ⟨A', c', rfl, h1, h2⟩ := own_form hown
    clear hown hg hxl hsD1 hbz
    go_wp2
    go_ret
    exact ⟨A', c', rfl, h1, h2, hbw⟩
  · have hsD1 : Seen (w.alloc (.cells #[.int .u8 1] 5)) w.heap.size D (cells bs) := hsD.below ((Below.refl _ _).alloc (Nat.le_refl _) _)
    have hbz : Below w.heap.size w (w.alloc (.cells #[.int .u8 1] 5)) := (Below.refl _ _).alloc (Nat.le_refl _) _
    go_enter Tryz.func54, Tryz.ntmps54
    go_wp2_with (at_builtin; refine wpList_append_grows _ rfl _ _ 22 rfl 5 i0 (.int .u8 0) 1 1 Tryz.underlying22 hi0 hz0 hz1 hz2 rfl (by decide) D lb lb (cells bs) rfl ?a1 ?a2 ?a3 ⟨w.heap.size, 0, none⟩ 1 1 [.int .u8 1] rfl rfl ?c1 ?c2 ?c3 ?c4 ?c5 ?_)
    case a1 => exact fun h => ⟨HD.out h, HD.out h⟩
    case a2 => rw [cells_length, ← HB.out, Nat.mul_one]
    case a3 =>
      intro b hb j u hu
      obtain ⟨b', off, he, _, h2⟩ := hsD1 (by intro e; rw [e] at hu; simp at hu)
      rw [hb] at he
      injection he with he
      subst he
      rw [plain_add]
      exact h2 j u hu
    case c1 => exact cell_one_new _ _ _
    case c2 => intro u hu; simp at hu; subst hu; rfl
    case c3 => omega
    case c4 => unfold maxLen; omega
    case c5 => omega
    intro v' w2 hown hg
    have hbw : Below w.heap.size w w2 := hbz.grown hg (by simp) (fun k hk => by cases hk)
    have hxl : cells bs ++ [.int .u8 1] = cells xs := by rw [HX.out, cells_append]; rfl
    rw [hxl, ← HLX.out] at hown
    obtain ⟨A', c', rfl, h1, h2⟩ := own_form hown
    clear hown hg hxl hsD1 hbz
    go_wp2
    go_ret
    exact ⟨A', c', rfl, h1, h2, hbw⟩

end

/-- What Size of s is. -/
def SizeIs (s : ByteArray) (l : Nat) : Prop := (s.size ≤ 1024 ∧ l = (VP.enc s.size).length + s.size) ∨ (1024 < s.size ∧ l = 0)
theorem sizeIs_of (s : ByteArray) : ∃ l, SizeIs s l := by
  by_cases h : s.size ≤ 1024
  · exact ⟨_, .inl ⟨h, rfl⟩⟩
  · exact ⟨0, .inr ⟨by omega, rfl⟩⟩

/-- Len, its length under a name of its own. -/
theorem len_named (n : Nat) (xs : List UInt8) (lx : Nat) (hxs : xs = VP.enc n) (hlx : lx = xs.length) (w : World) (hn : n ≤ 1099511627776) :
    Calls Tryz.prog 76 #[.int .i64 (n : Int)] w fun e w' => e = .returned (.int .i64 (lx : Int)) ∧ w = w' := by
  subst hxs hlx
  exact len_yes n w hn

end Go.Proofs.YtfcifblbapadpaaGreatDoor
