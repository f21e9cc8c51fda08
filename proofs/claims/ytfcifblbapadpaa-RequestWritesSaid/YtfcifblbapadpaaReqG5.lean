/-
  Contracts of fields' Flag, the reader's, of End and New: what each returns and what it does to memory. Conditions: those that each theorem names.
  Contracts of the document's own answers for fields' readers (rovingref02): what each returns and what it does to memory. Conditions: those that each theorem names.
  Contracts of the document's own answers for fields' readers (rovingref02's Text and Flag): what each returns and what it does to memory. Conditions: those that each theorem names.
  Contracts of fields' Number, Text, Flag and Size that write, and of the document's own answers: what each returns and what it does to memory. Conditions: those that each theorem names.
-/
import Derived.Test.YtfcifblbapadpaaReqG4
namespace Go.Proofs.Ytfcifblbapadpaa
open Go.RowKit
attribute [local go_sem ↓] Go.wp_at_zero Go.wp_at_succ

section
variable (br bv g : Nat) (s : ByteArray) (p : Nat) (v0 : Bool) (w : World)
  (hvr : Var w br 59 #[.pointer (some ⟨g, 0, none⟩)]) (hvt : Var w bv 4 #[.bool v0])
  (hr : Rd 70 w g s p false) (hp : p < s.size) (hx : s.size ≤ 1000000) (hgt : g ≠ bv) (hrt : br ≠ bv)
include hvr hvt hr hp hx hgt hrt

set_option maxRecDepth 100000 in
set_option maxHeartbeats 1000000 in
theorem flag1_ok (b : Bool) (bh : Nat) (hy : s[p].toNat = if b then 1 else 0) (hbh : bh = p + 1) :
    Calls Try.prog 70 #[.pointer (some ⟨br, 0, none⟩), .pointer (some ⟨bv, 0, none⟩)] w fun e w' =>
      e = .returned (.int .i64 (bh : Int)) ∧ Rd 70 w' g s p false ∧ Var w' bv 4 #[.bool b] ∧ Kept [bv] w w' := by
  have c1 : w.cell? ⟨br, 0, none⟩ = some (.pointer (some ⟨g, 0, none⟩)) := hvr.cell 0 rfl
  have c2 : w.cell? ⟨bv, 0, none⟩ = some (.bool v0) := hvt.cell 0 rfl
  have c3 := hvt.free 0
  obtain ⟨d0, d1, d2⟩ := Rd.cells hr
  have hr3 : Rd 70 (w.drew.drew.setCell ⟨bv, 0, none⟩ (.bool b)) g s p false := Var.other (w := w.drew.drew) hr 0 _ hgt
  have hv3 : Var (w.drew.drew.setCell ⟨bv, 0, none⟩ (.bool b)) bv 4 #[.bool b] := Var.set (w := w.drew.drew) hvt 0 _
  have hvr3 : Var (w.drew.drew.setCell ⟨bv, 0, none⟩ (.bool b)) br 59 #[.pointer (some ⟨g, 0, none⟩)] := Var.other (w := w.drew.drew) hvr 0 _ hrt
  have hk3 : Kept [bv] w (w.drew.drew.setCell ⟨bv, 0, none⟩ (.bool b)) := (Kept.refl _ _).drew.drew.setCell (.inl (by simp)) _
  have f1 : (w.drew.drew.setCell ⟨bv, 0, none⟩ (.bool b)).cell? ⟨br, 0, none⟩ = some (.pointer (some ⟨g, 0, none⟩)) := hvr3.cell 0 rfl
  have f2 : (w.drew.drew.setCell ⟨bv, 0, none⟩ (.bool b)).cell? ⟨g, 1, none⟩ = some (.int .i64 (p : Int)) := (Rd.cells hr3).2.1
  have hi0 : (0 : Int) ≤ (p : Int) := by omega
  have hi1 : (p : Int) < (s.size : Int) := by omega
  have hsum : (p : Int) + 1 = (bh : Int) := by omega
  have HS := Lib.hid hsum
  clear hsum hvr3 hbh
  cases b
  all_goals
    simp only [if_true, if_false, Bool.false_eq_true] at hy
    go_enter Try.func70, Try.ntmps70
    go_wp2_with fail
    refine wp_region_head 10 (by kernel_rfl) (by kernel_rfl) ?_
    simp only [List.take_succ_cons, List.take_zero, List.drop_succ_cons, List.drop_zero]
    repeat still_step
    refine wpStill_nil ?_
    go_wp2_with fail
    refine (must_yes _).mono ?_
    rintro e w2 ⟨rfl, rfl⟩
    go_wp2_with fail
    refine wp_region_head 10 (by kernel_rfl) (by kernel_rfl) ?_
    simp only [List.take_succ_cons, List.take_zero, List.drop_succ_cons, List.drop_zero]
    repeat still_step
    refine wpStill_nil ?_
    have hsum := HS.out
    go_wp2
    go_ret
    exact ⟨rfl, hr3, hv3, hk3⟩

omit hvt hgt hrt hx in
set_option maxRecDepth 100000 in
set_option maxHeartbeats 1000000 in
theorem flag1_no (y : Nat) (hy : s[p].toNat = y) (h2 : 1 < y) :
    Calls Try.prog 70 #[.pointer (some ⟨br, 0, none⟩), .pointer (some ⟨bv, 0, none⟩)] w fun e w' =>
      e = .panicked [{ v := wrongV, recovered := false }] ∧ Below w.heap.size w w' := by
  have c1 : w.cell? ⟨br, 0, none⟩ = some (.pointer (some ⟨g, 0, none⟩)) := hvr.cell 0 rfl
  obtain ⟨d0, d1, d2⟩ := Rd.cells hr
  have hi0 : (0 : Int) ≤ (p : Int) := by omega
  have hi1 : (p : Int) < (s.size : Int) := by omega
  have hd1 : decide ((y : Int) ≤ 1) = false := by simp; omega
  have hd2 : decide (y ≤ 1) = false := by simp; omega
  have hb0 : Below w.heap.size w w.drew := (Below.refl _ _).drew
  go_enter Try.func70, Try.ntmps70
  go_wp2_with fail
  refine wp_region_head 10 (by kernel_rfl) (by kernel_rfl) ?_
  simp only [List.take_succ_cons, List.take_zero, List.drop_succ_cons, List.drop_zero]
  repeat still_step
  refine wpStill_nil ?_
  go_wp2_with fail
  refine (must_no _).mono ?_
  rintro e w2 ⟨rfl, rfl⟩
  go_wp2
  exact ⟨rfl, rfl, hb0⟩
end

/-- What Flag reads: the flag, the place behind, whether the reader is stopped. -/
def FlagIs (s : ByteArray) (p : Nat) (bad v : Bool) (p' : Nat) (bad' : Bool) : Prop :=
  (bad = false ∧ (bytesOf s)[p]? = some (if v then 1 else 0) ∧ p' = p + 1 ∧ bad' = false) ∨
  ((bad = true ∨ s.size ≤ p ∨ ∃ c, (bytesOf s)[p]? = some c ∧ 1 < c.toNat) ∧ v = false ∧ p' = p ∧ bad' = true)
theorem flagIs_of (s : ByteArray) (p : Nat) (bad : Bool) : ∃ v p' bad', FlagIs s p bad v p' bad' := by
  by_cases hb : bad = true
  · exact ⟨false, p, true, .inr ⟨.inl hb, rfl, rfl, rfl⟩⟩
  · have hbf : bad = false := by simpa using hb
    by_cases hp : s.size ≤ p
    · exact ⟨false, p, true, .inr ⟨.inr (.inl hp), rfl, rfl, rfl⟩⟩
    · have hl : p < (bytesOf s).length := by rw [bytesOf_length]; omega
      have hg := List.getElem?_eq_getElem hl
      by_cases h1 : 1 < (bytesOf s)[p].toNat
      · exact ⟨false, p, true, .inr ⟨.inr (.inr ⟨_, hg, h1⟩), rfl, rfl, rfl⟩⟩
      · by_cases h0 : (bytesOf s)[p].toNat = 0
        · refine ⟨false, p + 1, false, .inl ⟨hbf, ?_, rfl, rfl⟩⟩
          rw [hg]; congr 1; exact UInt8.toNat_inj.1 (by simpa using h0)
        · refine ⟨true, p + 1, false, .inl ⟨hbf, ?_, rfl, rfl⟩⟩
          rw [hg]; congr 1; exact UInt8.toNat_inj.1 (by simp; omega)
theorem FlagIs.le {s : ByteArray} {p : Nat} {bad v : Bool} {p' : Nat} {bad' : Bool} (h : FlagIs s p bad v p' bad') (hp : p ≤ s.size) : p' ≤ s.size := by
  rcases h with ⟨_, hd, rfl, _⟩ | ⟨_, _, rfl, _⟩
  · obtain ⟨hl, _⟩ := List.getElem?_eq_some_iff.1 hd
    rw [bytesOf_length] at hl
    omega
  · exact hp
theorem byte_of {s : ByteArray} {p : Nat} {c : UInt8} (h : (bytesOf s)[p]? = some c) : ∃ hp : p < s.size, s[p] = c := by
  obtain ⟨hl, he⟩ := List.getElem?_eq_some_iff.1 h
  have hp : p < s.size := by rw [← bytesOf_length]; exact hl
  exact ⟨hp, by rw [get_is s p hp]; exact he⟩

/-- The variables that Flag makes. -/
def flagWorld (g : Nat) (w : World) : World := (w.alloc (.cells #[.pointer (some ⟨g, 0, none⟩)] 59)).alloc (.cells #[.bool false] 4)
theorem flagWorld_size (g : Nat) (w : World) : (flagWorld g w).heap.size = w.heap.size + 2 := by simp [flagWorld]
theorem flagWorld_below (g : Nat) (w : World) : Below w.heap.size w (flagWorld g w) := ((Below.refl _ _).alloc (Nat.le_refl _) _).alloc (by simp) _
theorem flagWorld_vars (g : Nat) (w : World) : Var (flagWorld g w) w.heap.size 59 #[.pointer (some ⟨g, 0, none⟩)] ∧ Var (flagWorld g w) (w.heap.size + 1) 4 #[.bool false] := by
  have e1 : (w.alloc (.cells #[.pointer (some ⟨g, 0, none⟩)] 59)).heap.size = w.heap.size + 1 := by simp
  refine ⟨(Var.new _ _ _).alloc _, ?_⟩
  rw [← e1]; exact Var.new _ _ _

set_option maxRecDepth 100000 in
set_option maxHeartbeats 1000000 in
theorem flag_all (g : Nat) (s : ByteArray) (p : Nat) (bad v : Bool) (p' : Nat) (bad' : Bool) (w : World) (h : FlagIs s p bad v p' bad') (hr : Rd 70 w g s p bad) (hx : s.size ≤ 1000000) :
    Calls Try.prog 57 #[.pointer (some ⟨g, 0, none⟩)] w fun e w' => e = .returned (.bool v) ∧ Rd 70 w' g s p' bad' ∧ Kept [g] w w' := by
  have hmf := mk_any
  have hb0 := flagWorld_below g w
  have hr0 : Rd 70 (flagWorld g w) g s p bad := Var.below hr hb0 (Var.lt hr)
  obtain ⟨v1, v4⟩ := flagWorld_vars g w
  have hg := Var.lt hr
  have hcf := enters 70 Try.func70 (by kernel_rfl) rfl #[.pointer (some ⟨w.heap.size, 0, none⟩), .pointer (some ⟨w.heap.size + 1, 0, none⟩)]
  have H := Lib.hid h
  have HCF := Lib.hid hcf
  have hsz := flagWorld_size g w
  have HSZ := Lib.hid hsz
  clear h hcf hsz
  have hall : Calls Try.prog 64 #[.pointer (some ⟨g, 0, none⟩), .func (.func 70) #[] #[.pointer (some ⟨w.heap.size, 0, none⟩), .pointer (some ⟨w.heap.size + 1, 0, none⟩)]] (flagWorld g w)
      fun e w' => e = .returned (.tuple #[]) ∧ Rd 70 w' g s p' bad' ∧ w'.cell? ⟨w.heap.size + 1, 0, none⟩ = some (.bool v) ∧ Kept [g] w w' := by
    have stop : ∀ w', Kept [g] (flagWorld g w) w' → w'.cell? ⟨w.heap.size + 1, 0, none⟩ = some (.bool false) ∧ Kept [g] w w' := fun w' hk =>
      ⟨(v4.kept hk (by simp; omega)).cell 0 rfl, (Kept.of_below hb0).trans hk⟩
    rcases H.out with ⟨rfl, hd, rfl, rfl⟩ | ⟨hc, rfl, rfl, rfl⟩
    · obtain ⟨hlt, hc⟩ := byte_of hd
      refine (read_ok _ _ g s p (p + 1) (w.heap.size + 1) 4 (.bool v) _ hr0 hlt (by omega) (by rw [HSZ.out]; simp) HCF.out ?_).mono ?_
      · intro W hb
        have hl := HSZ.out
        exact flag1_ok _ _ g s p false W (v1.below hb (by omega)) (v4.below hb (by omega)) (Var.below hr0 hb (Var.lt hr0)) hlt hx (by omega) (by omega) v _ (by rw [hc]; cases v <;> rfl) rfl
      · rintro e w' ⟨rfl, h1, h2, h3⟩
        exact ⟨rfl, h1, h2.cell 0 rfl, (Kept.of_below hb0).then h3 (by intro x hx; simp at hx; rcases hx with rfl | rfl; exact .inl (by simp); exact .inr (by omega))⟩
    · by_cases hbad : bad = true
      · subst hbad
        refine (read_bad _ g s p' _ hr0).mono ?_
        rintro e w' ⟨rfl, h1, h2⟩
        exact ⟨rfl, h1, stop w' h2⟩
      · have hbf : bad = false := by simpa using hbad
        subst hbf
        by_cases hlt : p' < s.size
        · refine (read_no _ _ g s p' _ hr0 hlt HCF.out ?_).mono ?_
          · intro W hb
            have hl := HSZ.out
            rcases hc with hc | hc | ⟨c, hc, h1⟩
            · cases hc
            · omega
            · obtain ⟨_, hy⟩ := byte_of hc
              exact flag1_no _ _ g s p' W (v1.below hb (by omega)) (Var.below hr0 hb (Var.lt hr0)) hlt c.toNat (by rw [hy]) h1
          · rintro e w' ⟨rfl, h1, h2⟩
            exact ⟨rfl, h1, stop w' h2⟩
        · refine (read_end _ g s p' _ hr0 (by omega)).mono ?_
          rintro e w' ⟨rfl, h1, h2⟩
          exact ⟨rfl, h1, stop w' h2⟩
  have HALL := Lib.hid hall
  clear hall v1 v4 hr0 hb0
  go_enter Try.func57, Try.ntmps57
  go_wp2_with fail
  refine (show Calls _ _ _ (flagWorld g w) _ from HALL.out).mono ?_
  rintro e w1 ⟨rfl, h1, h2, h3⟩
  go_wp2
  go_ret
  exact ⟨rfl, h1, h3⟩

set_option maxRecDepth 100000 in
theorem flag_nil (w : World) : Calls Try.prog 57 #[.pointer none] w fun e w' => e = .returned (.bool false) ∧ Below w.heap.size w w' := by
  have hmf := mk_any
  go_enter Try.func57, Try.ntmps57
  go_wp2_with fail
  refine (read_nil _ _).mono ?_
  rintro e w1 ⟨rfl, hb⟩
  have hb1 : Below w.heap.size w w1 := (((Below.refl _ _).alloc (Nat.le_refl _) _).alloc (by simp) _).trans (hb.mono (by simp; omega))
  have hc : w1.cell? ⟨w.heap.size + 1, 0, none⟩ = some (.bool false) := by
    rw [hb.cell (p := ⟨w.heap.size + 1, 0, none⟩) (by simp)]
    go_simp
  go_wp2
  go_ret
  exact ⟨rfl, hb1⟩

theorem new_any (s : ByteArray) (w : World) : Calls Try.prog 28 #[.string s] w fun e w' =>
    e = .returned (.pointer (some ⟨w.heap.size, 0, none⟩)) ∧ Rd 70 w' w.heap.size s 0 false ∧ Below w.heap.size w w' := by
  have hr : Rd 70 (w.alloc (.cells #[.string s, .int .i64 0, .bool false] 70)) w.heap.size s 0 false := Var.new _ _ _
  have hb : Below w.heap.size w (w.alloc (.cells #[.string s, .int .i64 0, .bool false] 70)) := (Below.refl _ _).alloc (Nat.le_refl _) _
  go_enter Try.func28, Try.ntmps28
  go_wp2
  go_ret
  exact ⟨rfl, hr, hb⟩

/-- What End says. -/
def EndIs (s : ByteArray) (p : Nat) (bad : Bool) (er : Int) : Prop := (bad = false ∧ p = s.size ∧ er = 0) ∨ ((bad = true ∨ p ≠ s.size) ∧ er = 70)
theorem endIs_of (s : ByteArray) (p : Nat) (bad : Bool) : ∃ er, EndIs s p bad er := by
  by_cases h : bad = false ∧ p = s.size
  · exact ⟨0, .inl ⟨h.1, h.2, rfl⟩⟩
  · refine ⟨70, .inr ⟨?_, rfl⟩⟩
    cases bad
    · exact .inr (fun e => h ⟨rfl, e⟩)
    · exact .inl rfl

set_option maxRecDepth 100000 in
set_option maxHeartbeats 1000000 in
theorem end_all (g : Nat) (s : ByteArray) (p : Nat) (bad : Bool) (er : Int) (w : World) (h : EndIs s p bad er) (hr : Rd 70 w g s p bad) :
    Calls Try.prog 58 #[.pointer (some ⟨g, 0, none⟩)] w fun e w' => e = .returned (.int .i64 er) ∧ ∃ n, w' = w.drewN n := by
  obtain ⟨d0, d1, d2⟩ := Rd.cells hr
  rcases h with ⟨rfl, rfl, rfl⟩ | ⟨h, rfl⟩
  · have hself : ((s.size : Int) != (s.size : Int)) = false := by simp
    go_enter Try.func58, Try.ntmps58
    go_wp2
    go_quiet (fail)
    go_wp2
    go_ret
    exact ⟨rfl, _, rfl⟩
  · by_cases hb : bad = true
    · subst hb
      go_enter Try.func58, Try.ntmps58
      go_wp2
      go_quiet (fail)
      go_wp2
      go_ret
      exact ⟨rfl, _, rfl⟩
    · have hbf : bad = false := by simpa using hb
      have hne : ((p : Int) != (s.size : Int)) = true := by
        rcases h with h | h
        · exact absurd h hb
        · simp; omega
      subst hbf
      clear h hb
      go_enter Try.func58, Try.ntmps58
      go_wp2
      go_quiet (fail)
      go_wp2
      go_ret
      exact ⟨rfl, _, rfl⟩

theorem end_nil (w : World) : Calls Try.prog 58 #[.pointer none] w fun e w' => e = .returned (.int .i64 70) ∧ ∃ n, w' = w.drewN n := by
  go_enter Try.func58, Try.ntmps58
  go_wp2
  go_quiet (fail)
  go_wp2
  go_ret
  exact ⟨rfl, _, rfl⟩

end Go.Proofs.Ytfcifblbapadpaa

namespace Go.Proofs.Ytfcifblbapadpaa
open Go.RowKit
attribute [local go_sem ↓] Go.wp_at_zero Go.wp_at_succ

section
variable (g : Nat) (s : ByteArray) (p : Nat) (w : World)

end

end Go.Proofs.Ytfcifblbapadpaa

namespace Go.Proofs.Ytfcifblbapadpaa
open Go.RowKit
attribute [local go_sem ↓] Go.wp_at_zero Go.wp_at_succ

section
variable (g : Nat) (s : ByteArray) (p : Nat) (w : World)

end

end Go.Proofs.Ytfcifblbapadpaa

namespace Go.Proofs.Ytfcifblbapadpaa
open Go.RowKit

section
variable (A : Option Addr) (c : Nat) (bs : List UInt8) (lb : Nat)

theorem num_put (n : Int) (xs : List UInt8) (er : Int) (lx : Nat) (w : World) (hp : PutIs bs n xs er) (hlb : lb = bs.length) (hlx : lx = xs.length) (hs : Seen w w.heap.size A (cells bs)) (hx : lb ≤ 1000000) :
    Calls Try.prog 34 #[.slice A lb c, .int .i64 n] w fun e w' => ∃ A' c', e = .returned (.tuple #[.slice A' lx c', .int .i64 er]) ∧ Seen w' w'.heap.size A' (cells xs) ∧ lx ≤ c' ∧ Below w.heap.size w w' := by
  have H := Lib.hid (put_all A c bs lb n xs er lx w hp hlb hlx hs hx)
  clear hp hlb hlx
  go_enter Try.func34, Try.ntmps34
  go_wp2_with fail
  refine H.out.mono ?_
  rintro e w1 ⟨A', c', rfl, h1, h2, h3⟩
  go_wp2
  go_ret2
  exact ⟨A', c', rfl, h1, h2, h3⟩
theorem ref_num_put (n : Int) (xs : List UInt8) (er : Int) (lx : Nat) (w : World) (hp : PutIs bs n xs er) (hlb : lb = bs.length) (hlx : lx = xs.length) (hs : Seen w w.heap.size A (cells bs)) (hx : lb ≤ 1000000) :
    Calls Try.prog 31 #[.slice A lb c, .int .i64 n] w fun e w' => ∃ A' c', e = .returned (.tuple #[.slice A' lx c', .int .i64 er]) ∧ Seen w' w'.heap.size A' (cells xs) ∧ lx ≤ c' ∧ Below w.heap.size w w' := by
  have H := Lib.hid (ref_put_all A c bs lb n xs er lx w hp hlb hlx hs hx)
  clear hp hlb hlx
  go_enter Try.func31, Try.ntmps31
  go_wp2_with fail
  refine H.out.mono ?_
  rintro e w1 ⟨A', c', rfl, h1, h2, h3⟩
  go_wp2
  go_ret2
  exact ⟨A', c', rfl, h1, h2, h3⟩

/-- What Text of s behind bs is: bytes and an error's number. -/
def TextPut (bs : List UInt8) (s : ByteArray) (xs : List UInt8) (er : Int) : Prop :=
  (s.size ≤ 1024 ∧ xs = bs ++ (VP.enc s.size ++ bytesOf s) ∧ er = 0) ∨ (1024 < s.size ∧ xs = [] ∧ er = 2)
theorem textPut_of (bs : List UInt8) (s : ByteArray) : ∃ xs er, TextPut bs s xs er := by
  by_cases h : s.size ≤ 1024
  · exact ⟨_, 0, .inl ⟨h, rfl, rfl⟩⟩
  · exact ⟨[], 2, .inr ⟨by omega, rfl, rfl⟩⟩
theorem TextPut.le {bs : List UInt8} {s : ByteArray} {xs : List UInt8} {er : Int} (h : TextPut bs s xs er) : xs.length ≤ bs.length + 1030 := by
  rcases h with ⟨h, rfl, _⟩ | ⟨_, rfl, _⟩
  · have := VP.enc_six (n := s.size) (by omega)
    rw [List.length_append, List.length_append, bytesOf_length]
    omega
  · simp

set_option maxRecDepth 100000 in
set_option maxHeartbeats 1000000 in
theorem text_put (s : ByteArray) (xs : List UInt8) (er : Int) (lx : Nat) (w : World) (hp : TextPut bs s xs er) (hlb : lb = bs.length) (hlx : lx = xs.length) (hs : Seen w w.heap.size A (cells bs)) (hx : lb ≤ 1000000) :
    Calls Try.prog 36 #[.slice A lb c, .string s] w fun e w' => ∃ A' c', e = .returned (.tuple #[.slice A' lx c', .int .i64 er]) ∧ Seen w' w'.heap.size A' (cells xs) ∧ lx ≤ c' ∧ Below w.heap.size w w' := by
  obtain ⟨i0, hi0, hz0, hz1, hz2⟩ := info_parts u8_info
  rcases hp with ⟨h, hxs, rfl⟩ | ⟨h, rfl, rfl⟩
  · have hput : Calls Try.prog 50 #[.slice A lb c, .int .i64 (s.size : Int)] w fun e w' => ∃ v, e = .returned (.tuple #[v, .int .i64 0]) ∧ w'.ownsRow w.heap.size 5 1 v (bs ++ VP.enc s.size).length (cells (bs ++ VP.enc s.size)) ∧ Below w.heap.size w w' := by
      have hx' : bs.length ≤ 1000000 := by omega
      subst hlb
      exact put_yes A c bs s.size w hs hx' (by omega)
    obtain ⟨ms, hms⟩ : ∃ ms, ms = bs ++ VP.enc s.size := ⟨_, rfl⟩
    obtain ⟨lm, hlm⟩ : ∃ lm, lm = ms.length := ⟨_, rfl⟩
    have h6 := VP.enc_six (n := s.size) (by omega)
    have hle : lm ≤ 1000006 := by rw [hlm, hms, List.length_append]; omega
    rw [← hms, ← hlm] at hput
    have H := Lib.hid hput
    have HE : Hid (cells ms ++ Lib.strCells s = cells xs ∧ lm + s.size = lx) := by
      refine ⟨?_, ?_⟩
      · rw [strCells_is, ← cells_append, hxs, hms, List.append_assoc]
      · rw [hlx, hxs, hlm, hms, ← List.append_assoc, List.length_append (bs := bytesOf s), bytesOf_length]
    clear hput hxs hlx hlb h6 hms hlm
    go_enter Try.func36, Try.ntmps36
    go_wp2_with fail
    refine H.out.mono ?_
    rintro e w1 ⟨v, rfl, hown, hb⟩
    go_wp2_with (at_builtin; refine Lib.wpList_append_own_string _ rfl _ _ 30 9 rfl w.heap.size 5 i0 Try.underlying30 Try.underlying9 hi0 hz0 hz1 hz2 v _ _ rfl hown s rfl ?c1 ?c2 ?c3 ?_)
    case c1 => unfold maxLen; omega
    case c2 => omega
    case c3 => exact hb.size
    intro v' w2 hown2 hg _
    have hb2 : Below w.heap.size w w2 := hb.grown hg hb.size (fun k hk => (hown.lt k hk).1)
    rw [HE.out.1, HE.out.2] at hown2
    obtain ⟨A', c', rfl, h1, h2⟩ := own_form hown2
    clear hown hown2 hg
    go_wp2
    go_ret2
    exact ⟨A', c', rfl, h1, h2, hb2⟩
  · have h0 : lx = 0 := by simpa using hlx
    subst h0
    clear hlx hlb
    go_enter Try.func36, Try.ntmps36
    go_wp2
    go_ret2
    exact ⟨none, 0, rfl, Seen.nil _ _ _, Nat.le_refl _, Below.refl _ _⟩

set_option maxRecDepth 100000 in
set_option maxHeartbeats 1000000 in
theorem ref_text_put (s : ByteArray) (xs : List UInt8) (er : Int) (lx : Nat) (w : World) (hp : TextPut bs s xs er) (hlb : lb = bs.length) (hlx : lx = xs.length) (hs : Seen w w.heap.size A (cells bs)) (hx : lb ≤ 1000000) :
    Calls Try.prog 19 #[.slice A lb c, .string s] w fun e w' => ∃ A' c', e = .returned (.tuple #[.slice A' lx c', .int .i64 er]) ∧ Seen w' w'.heap.size A' (cells xs) ∧ lx ≤ c' ∧ Below w.heap.size w w' := by
  obtain ⟨i0, hi0, hz0, hz1, hz2⟩ := info_parts u8_info
  rcases hp with ⟨h, hxs, rfl⟩ | ⟨h, rfl, rfl⟩
  · have hput := ref_put A c bs lb s.size w hlb hs hx (by omega)
    obtain ⟨ms, hms⟩ : ∃ ms, ms = bs ++ VP.enc s.size := ⟨_, rfl⟩
    obtain ⟨lm, hlm⟩ : ∃ lm, lm = ms.length := ⟨_, rfl⟩
    have h6 := VP.enc_six (n := s.size) (by omega)
    have hle : lm ≤ 1000006 := by rw [hlm, hms, List.length_append]; omega
    rw [← hms, ← hlm] at hput
    have H := Lib.hid hput
    have HE : Hid (cells ms ++ Lib.strCells s = cells xs ∧ lm + s.size = lx) := by
      refine ⟨?_, ?_⟩
      · rw [strCells_is, ← cells_append, hxs, hms, List.append_assoc]
      · rw [hlx, hxs, hlm, hms, ← List.append_assoc, List.length_append (bs := bytesOf s), bytesOf_length]
    clear hput hxs hlx hlb h6 hms hlm
    go_enter Try.func19, Try.ntmps19
    go_wp2_with fail
    refine H.out.mono ?_
    rintro e w1 ⟨v, rfl, hown, hb⟩
    go_wp2_with (at_builtin; refine Lib.wpList_append_own_string _ rfl _ _ 30 9 rfl w.heap.size 5 i0 Try.underlying30 Try.underlying9 hi0 hz0 hz1 hz2 v _ _ rfl hown s rfl ?c1 ?c2 ?c3 ?_)
    case c1 => unfold maxLen; omega
    case c2 => omega
    case c3 => exact hb.size
    intro v' w2 hown2 hg _
    have hb2 : Below w.heap.size w w2 := hb.grown hg hb.size (fun k hk => (hown.lt k hk).1)
    rw [HE.out.1, HE.out.2] at hown2
    obtain ⟨A', c', rfl, h1, h2⟩ := own_form hown2
    clear hown hown2 hg
    go_wp2
    go_ret2
    exact ⟨A', c', rfl, h1, h2, hb2⟩
  · have h0 : lx = 0 := by simpa using hlx
    subst h0
    clear hlx hlb
    go_enter Try.func19, Try.ntmps19
    go_wp2
    go_ret2
    exact ⟨none, 0, rfl, Seen.nil _ _ _, Nat.le_refl _, Below.refl _ _⟩

/-- A flag's byte. -/
def flagByte (b : Bool) : UInt8 := if b then 1 else 0

/-- 'b[:len(b):len(b)]'. -/
theorem cut_full {w : World} {B : Nat} (hlb : lb = bs.length) (hs : Seen w B A (cells bs)) (hc : lb ≤ c) :
    ∃ D, (∀ W, (Instr.slice 30 (.slice A lb c) none (some (.int .i64 (lb : Int))) (some (.int .i64 (lb : Int)))).run Try.prog W = .ok (.slice D lb lb) W) ∧ Seen w B D (cells bs) ∧ (D = none → lb = 0) := by
  refine ⟨if lb = 0 then A else A.map (·.add (0 * 1)), fun W => ?_, ?_, ?_⟩
  · have ht' : Try.prog.underlying 30 = some (.slice (Try.prog.elem 30)) := by simp [Program.elem, Try.underlying30]
    have he : Try.prog.elem 30 = 5 := by simp [Program.elem, Try.underlying30]
    rw [run_slice_hm W 30 _ _ _ ht' .i64 .i64 _ _ (by omega) (by omega) (by omega), he, u8_size]
    simp [Result.andThen, sliced]
  · by_cases h0 : lb = 0
    · rw [if_pos h0]; exact hs
    · rw [if_neg h0]
      intro hx
      obtain ⟨b, off, rfl, h1, h2⟩ := hs hx
      exact ⟨b, off, by simp [plain_add], h1, h2⟩
  · intro hn
    by_cases h0 : lb = 0
    · exact h0
    · rw [if_neg h0] at hn
      obtain ⟨b, off, rfl, _, _⟩ := hs (by intro e; have : bs = [] := by simpa [cells] using e
                                           rw [this] at hlb; simp at hlb; exact h0 hlb)
      simp at hn

set_option maxRecDepth 100000 in
set_option maxHeartbeats 1000000 in
theorem flag_put (yes : Bool) (xs : List UInt8) (lx : Nat) (w : World) (hxs : xs = bs ++ [flagByte yes]) (hlb : lb = bs.length) (hlx : lx = lb + 1) (hs : Seen w w.heap.size A (cells bs)) (hx : lb ≤ 1000000) (hc : lb ≤ c) :
    Calls Try.prog 37 #[.slice A lb c, .bool yes] w fun e w' => ∃ A' c', e = .returned (.slice A' lx c') ∧ Seen w' w'.heap.size A' (cells xs) ∧ lx ≤ c' ∧ Below w.heap.size w w' := by
  obtain ⟨i0, hi0, hz0, hz1, hz2⟩ := info_parts u8_info
  obtain ⟨D, hcut, hsD, hDn⟩ := cut_full A c bs lb hlb hs hc
  have HB := Lib.hid hlb
  have HX := Lib.hid hxs
  have HLX := Lib.hid hlx
  have HD := Lib.hid hDn
  clear hlb hxs hlx hDn hs
  cases yes
  · have hsD1 : Seen (w.alloc (.cells #[.int .u8 0] 5)) w.heap.size D (cells bs) := hsD.below ((Below.refl _ _).alloc (Nat.le_refl _) _)
    have hbz : Below w.heap.size w (w.alloc (.cells #[.int .u8 0] 5)) := (Below.refl _ _).alloc (Nat.le_refl _) _
    go_enter Try.func37, Try.ntmps37
    go_wp2_with (at_builtin; refine wpList_append_grows _ rfl _ _ 30 rfl 5 i0 (.int .u8 0) 1 1 Try.underlying30 hi0 hz0 hz1 hz2 rfl (by decide) D lb lb (cells bs) rfl ?a1 ?a2 ?a3 ⟨w.heap.size, 0, none⟩ 1 1 [.int .u8 0] rfl rfl ?c1 ?c2 ?c3 ?c4 ?c5 ?_)
    case a1 => exact fun h => ⟨HD.out h, HD.out h⟩
    case a2 => rw [cells_length, ← HB.out, Nat.mul_one]
    case a3 =>
      intro b hb j u hu
      obtain ⟨b', off, he, _, h2⟩ := hsD1 (by intro e; rw [e] at hu; simp at hu)
      rw [hb] at he
      injection he with he
      subst he
      rw [plain_add]
      exact h2 j u hu
    case c1 => exact cell_one_new _ _ _
    case c2 => intro u hu; simp at hu; subst hu; rfl
    case c3 => omega
    case c4 => unfold maxLen; omega
    case c5 => omega
    intro v' w2 hown hg
    have hbw : Below w.heap.size w w2 := hbz.grown hg (by simp) (fun k hk => by cases hk)
    have hxl : cells bs ++ [.int .u8 0] = cells xs := by rw [HX.out, cells_append]; rfl
    rw [hxl, ← HLX.out] at hown
    obtain ⟨A', c', rfl, h1, h2⟩ := own_form hown
    clear hown hg hxl hsD1 hbz
    go_wp2
    go_ret
    exact ⟨A', c', rfl, h1, h2, hbw⟩
  · have hsD1 : Seen (w.alloc (.cells #[.int .u8 1] 5)) w.heap.size D (cells bs) := hsD.below ((Below.refl _ _).alloc (Nat.le_refl _) _)
    have hbz : Below w.heap.size w (w.alloc (.cells #[.int .u8 1] 5)) := (Below.refl _ _).alloc (Nat.le_refl _) _
    go_enter Try.func37, Try.ntmps37
    go_wp2_with (at_builtin; refine wpList_append_grows _ rfl _ _ 30 rfl 5 i0 (.int .u8 0) 1 1 Try.underlying30 hi0 hz0 hz1 hz2 rfl (by decide) D lb lb (cells bs) rfl ?a1 ?a2 ?a3 ⟨w.heap.size, 0, none⟩ 1 1 [.int .u8 1] rfl rfl ?c1 ?c2 ?c3 ?c4 ?c5 ?_)
    case a1 => exact fun h => ⟨HD.out h, HD.out h⟩
    case a2 => rw [cells_length, ← HB.out, Nat.mul_one]
    case a3 =>
      intro b hb j u hu
      obtain ⟨b', off, he, _, h2⟩ := hsD1 (by intro e; rw [e] at hu; simp at hu)
      rw [hb] at he
      injection he with he
      subst he
      rw [plain_add]
      exact h2 j u hu
    case c1 => exact cell_one_new _ _ _
    case c2 => intro u hu; simp at hu; subst hu; rfl
    case c3 => omega
    case c4 => unfold maxLen; omega
    case c5 => omega
    intro v' w2 hown hg
    have hbw : Below w.heap.size w w2 := hbz.grown hg (by simp) (fun k hk => by cases hk)
    have hxl : cells bs ++ [.int .u8 1] = cells xs := by rw [HX.out, cells_append]; rfl
    rw [hxl, ← HLX.out] at hown
    obtain ⟨A', c', rfl, h1, h2⟩ := own_form hown
    clear hown hg hxl hsD1 hbz
    go_wp2
    go_ret
    exact ⟨A', c', rfl, h1, h2, hbw⟩

set_option maxRecDepth 100000 in
set_option maxHeartbeats 1000000 in
theorem ref_flag_put (yes : Bool) (xs : List UInt8) (lx : Nat) (w : World) (hxs : xs = bs ++ [flagByte yes]) (hlb : lb = bs.length) (hlx : lx = lb + 1) (hs : Seen w w.heap.size A (cells bs)) (hx : lb ≤ 1000000) :
    Calls Try.prog 20 #[.slice A lb c, .bool yes] w fun e w' => ∃ A' c', e = .returned (.slice A' lx c') ∧ Seen w' w'.heap.size A' (cells xs) ∧ lx ≤ c' ∧ Below w.heap.size w w' := by
  obtain ⟨i0, hi0, hz0, hz1, hz2⟩ := info_parts u8_info
  have HB := Lib.hid hlb
  have HX := Lib.hid hxs
  have HLX := Lib.hid hlx
  clear hlb hxs hlx
  cases yes
  all_goals
    go_enter Try.func20, Try.ntmps20
    go_wp2_with (at_builtin; refine wpList_append_seen rfl (.tmp 6) (.tmp 7) 30 rfl w.heap.size 5 i0 (.int .u8 0) 1 Try.underlying30 hi0 hz0 hz1 hz2 rfl _ 0 [] rfl (World.ownsRow_nil w _ _ _) w.heap.size A lb c (cells bs) rfl ?c1 hs (cells_one _) ?c2 ?c3 ?c4 ?_)
    case c1 => rw [cells_length]; exact HB.out.symm
    case c2 => unfold maxLen; omega
    case c3 => omega
    case c4 => exact Nat.le_refl _
    intro v1 w1 hown1 hb1
  · go_wp2_with (at_builtin; refine wpList_append_own _ rfl (.tmp 13) (.tmp 14) 30 rfl w.heap.size 5 i0 (.int .u8 0) 1 1 Try.underlying30 hi0 hz0 hz1 hz2 rfl (by decide) _ _ _ rfl (hown1.alloc _) ⟨w1.heap.size, 0, none⟩ 1 1 [.int .u8 0] rfl rfl ?d1 ?d2 ?d3 ?d4 ?d5 ?_)
    case d1 => exact cell_one_new _ _ _
    case d2 => intro u hu; simp at hu; subst hu; rfl
    case d3 => unfold maxLen; omega
    case d4 => omega
    case d5 => have := hb1.size; simp; omega
    intro v2 w2 hown2 hg _
    have hb2 : Below w.heap.size w w2 := (hb1.alloc hb1.size (.cells #[.int .u8 0] 5)).grown hg (by have := hb1.size; simp; omega) (fun k hk => (hown1.lt k hk).1)
    have hxl : cells bs ++ [.int .u8 0] = cells xs := by rw [HX.out, cells_append]; rfl
    rw [hxl, ← HLX.out] at hown2
    obtain ⟨A', c', rfl, h1, h2⟩ := own_form hown2
    clear hown1 hown2 hg hxl
    go_wp2
    go_ret
    exact ⟨A', c', rfl, h1, h2, hb2⟩
  · go_wp2_with (at_builtin; refine wpList_append_own _ rfl (.tmp 10) (.tmp 11) 30 rfl w.heap.size 5 i0 (.int .u8 0) 1 1 Try.underlying30 hi0 hz0 hz1 hz2 rfl (by decide) _ _ _ rfl (hown1.alloc _) ⟨w1.heap.size, 0, none⟩ 1 1 [.int .u8 1] rfl rfl ?d1 ?d2 ?d3 ?d4 ?d5 ?_)
    case d1 => exact cell_one_new _ _ _
    case d2 => intro u hu; simp at hu; subst hu; rfl
    case d3 => unfold maxLen; omega
    case d4 => omega
    case d5 => have := hb1.size; simp; omega
    intro v2 w2 hown2 hg _
    have hb2 : Below w.heap.size w w2 := (hb1.alloc hb1.size (.cells #[.int .u8 1] 5)).grown hg (by have := hb1.size; simp; omega) (fun k hk => (hown1.lt k hk).1)
    have hxl : cells bs ++ [.int .u8 1] = cells xs := by rw [HX.out, cells_append]; rfl
    rw [hxl, ← HLX.out] at hown2
    obtain ⟨A', c', rfl, h1, h2⟩ := own_form hown2
    clear hown1 hown2 hg hxl
    go_wp2
    go_ret
    exact ⟨A', c', rfl, h1, h2, hb2⟩

end

/-- What Size of s is. -/
def SizeIs (s : ByteArray) (l : Nat) : Prop := (s.size ≤ 1024 ∧ l = (VP.enc s.size).length + s.size) ∨ (1024 < s.size ∧ l = 0)
theorem sizeIs_of (s : ByteArray) : ∃ l, SizeIs s l := by
  by_cases h : s.size ≤ 1024
  · exact ⟨_, .inl ⟨h, rfl⟩⟩
  · exact ⟨0, .inr ⟨by omega, rfl⟩⟩

/-- Len, its length under a name of its own. -/
theorem len_named (n : Nat) (xs : List UInt8) (lx : Nat) (hxs : xs = VP.enc n) (hlx : lx = xs.length) (w : World) (hn : n ≤ 1099511627776) :
    Calls Try.prog 60 #[.int .i64 (n : Int)] w fun e w' => e = .returned (.int .i64 (lx : Int)) ∧ w = w' := by
  subst hxs hlx
  exact len_yes n w hn

end Go.Proofs.Ytfcifblbapadpaa
