/-
  Contracts of record's tooLong, of slices.IndexFunc and ContainsFunc over records, of May and Behind, the program's and the document's: what each returns and what it does to memory. Conditions: those that each theorem names.
-/
import Derived.Test.YtfcifblbapadpaaGreatDoorReqG6
namespace Go.Proofs.YtfcifblbapadpaaGreatDoor
open Go.RowKit

theorem below_new {w : World} (o : Obj) : Below w.heap.size w (w.alloc o) := (Below.refl _ _).alloc (Nat.le_refl _) _

set_option maxRecDepth 100000 in
theorem long_any (k v : ByteArray) (b : Bool) (w : World) (hb : b = true ↔ ¬ Rc.Good ⟨k, v⟩) (hk : k.size ≤ 9223372036854775807) (hv : v.size ≤ 9223372036854775807) :
    Calls Tryz.prog 79 #[.agg #[.string k, .string v]] w fun e w' => e = .returned (.bool b) ∧ Below w.heap.size w w' := by
  have HB := Lib.hid hb
  clear hb
  have hbel := below_new (w := w) (.cells #[.string k, .string v] 71)
  by_cases h1 : 16 < k.size
  · obtain rfl : b = true := HB.out.2 fun h => by have := h.1; simp only at this; omega
    have t1 : decide ((16 : Int) < (k.size : Int)) = true := by simp; omega
    go_enter Tryz.func79, Tryz.ntmps79
    go_wp2
    go_ret
    exact ⟨rfl, hbel⟩
  · have t1 : decide ((16 : Int) < (k.size : Int)) = false := bool_dec _ (by omega)
    by_cases h2 : 16 < v.size
    · obtain rfl : b = true := HB.out.2 fun h => by have := h.2; simp only at this; omega
      have t2 : decide ((16 : Int) < (v.size : Int)) = true := by simp; omega
      go_enter Tryz.func79, Tryz.ntmps79
      go_wp2
      go_ret
      exact ⟨rfl, hbel⟩
    · have t2 : decide ((16 : Int) < (v.size : Int)) = false := bool_dec _ (by omega)
      obtain rfl : b = false := by
        rw [← Bool.not_eq_true]
        exact fun h => HB.out.1 h ⟨by simp only; omega, by simp only; omega⟩
      go_enter Tryz.func79, Tryz.ntmps79
      go_wp2
      go_ret
      exact ⟨rfl, hbel⟩

/-- Where the first record stands that is too long, or -1. -/
def IdxIs (rs : List Rc) (r : Int) : Prop := (r = -1 ∧ ∀ x ∈ rs, x.Good) ∨ (0 ≤ r ∧ ∃ x ∈ rs, ¬ x.Good)

set_option maxRecDepth 100000 in
set_option maxHeartbeats 400000 in
theorem index_any (A : Option Addr) (n c B : Nat) (rs : List Rc) (w : World) (hn : rs.length = n) (hs : Seen w B A (rcells rs)) (hB : B ≤ w.heap.size) (hmax : n ≤ 100)
    (hsz : ∀ y ∈ rs, y.k.size ≤ 9223372036854775807 ∧ y.v.size ≤ 9223372036854775807) :
    Calls Tryz.prog 85 #[.slice A n c, .func (.func 79) #[] #[]] w fun e w' => ∃ r, e = .returned (.int .i64 r) ∧ IdxIs rs r ∧ Below w.heap.size w w' := by
  have HN := Lib.hid hn
  clear hn
  go_enter Tryz.func85, Tryz.ntmps85
  go_wp2
  go_loopw [8] (fun i wr => ∃ (k : Nat), k ≤ n ∧ i = .int .i64 k ∧ Hid (∀ x ∈ rs.take k, x.Good) ∧ Below w.heap.size w wr) (fun i _ => n - (intOf i).toNat)
  case atStart => exact ⟨0, by omega, rfl, by intro x hx; simp at hx, Below.refl _ _⟩
  case round =>
    obtain ⟨k, hk, rfl, HG, hbw⟩ := hrel
    by_cases hlt : k < n
    · obtain ⟨r, hr⟩ := rec_here HN.out hlt
      obtain ⟨b, off, rfl, hbB, d0, d1⟩ := rec_at (hs.below (hbw.mono hB)) hr
      obtain ⟨z0, z1⟩ := hsz r (List.mem_of_getElem? hr)
      have hbz := hbw.size
      have HR := Lib.hid hr
      obtain ⟨rk, rv⟩ := r
      simp only at d0 d1 z0 z1
      clear hr
      by_cases hg : Rc.Good ⟨rk, rv⟩
      · go_wp2_with fail
        refine (long_any rk rv false _ ⟨(by simp), fun h => absurd hg h⟩ z0 z1).mono ?_
        rintro e w1 ⟨rfl, hb1⟩
        have hb2 := hbw.trans (hb1.mono hbz)
        go_wp2
        go_roundw
        case rel =>
          refine ⟨k + 1, by omega, by go_num, ?_, hb2⟩
          intro x hx
          rw [List.take_add_one, HR.out] at hx
          rcases List.mem_append.1 hx with hx | hx
          · exact HG.out x hx
          · simp at hx; subst hx; exact hg
        case measure => simp [intOf]; omega
      · go_wp2_with fail
        refine (long_any rk rv true _ ⟨fun _ => hg, fun _ => rfl⟩ z0 z1).mono ?_
        rintro e w1 ⟨rfl, hb1⟩
        have hb2 := hbw.trans (hb1.mono hbz)
        go_wp2
        go_ret
        exact ⟨_, rfl, .inr ⟨by omega, _, List.mem_of_getElem? HR.out, hg⟩, hb2⟩
    · go_wp2
      go_ret
      refine ⟨_, rfl, .inl ⟨rfl, fun x hx => HG.out x ?_⟩, hbw⟩
      rw [List.take_of_length_le (by have := HN.out; omega)]
      exact hx

set_option maxRecDepth 100000 in
theorem contains_any (A : Option Addr) (n c B : Nat) (rs : List Rc) (b : Bool) (w : World) (hn : rs.length = n) (hb : b = true ↔ ∃ x ∈ rs, ¬ x.Good) (hs : Seen w B A (rcells rs)) (hB : B ≤ w.heap.size) (hmax : n ≤ 100)
    (hsz : ∀ y ∈ rs, y.k.size ≤ 9223372036854775807 ∧ y.v.size ≤ 9223372036854775807) :
    Calls Tryz.prog 78 #[.slice A n c, .func (.func 79) #[] #[]] w fun e w' => e = .returned (.bool b) ∧ Below w.heap.size w w' := by
  go_enter Tryz.func78, Tryz.ntmps78
  go_wp2_with fail
  refine (index_any A n c B rs w hn hs hB hmax hsz).mono ?_
  rintro e w1 ⟨r, rfl, hr, hb1⟩
  have HB := Lib.hid hb
  clear hb hn hsz
  rcases hr with ⟨rfl, hg⟩ | ⟨hr, x, hx, hg⟩
  · obtain rfl : b = false := by
      rw [← Bool.not_eq_true]
      intro h
      obtain ⟨x, hx, hh⟩ := HB.out.1 h
      exact hh (hg x hx)
    go_wp2
    go_ret
    exact ⟨rfl, hb1⟩
  · obtain rfl : b = true := HB.out.2 ⟨x, hx, hg⟩
    go_wp2
    go_ret
    exact ⟨rfl, hb1⟩
end Go.Proofs.YtfcifblbapadpaaGreatDoor
