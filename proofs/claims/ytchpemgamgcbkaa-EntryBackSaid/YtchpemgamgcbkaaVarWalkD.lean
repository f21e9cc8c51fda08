/-
  Contracts of varint's Get: what it returns and what it does to memory. Conditions: those that each theorem names.
-/
import Derived.Test.YtchpemgamgcbkaaVarWalkC
namespace Go.Proofs.Ytchpemgamgcbkaa
open Go.RowKit

theorem below_drewN {B : Nat} {a w : World} (h : Below B a w) (n : Nat) : Below B a (w.drewN n) := ⟨h.os, h.tape, h.output, h.size, h.block⟩

theorem Reader.new (w : World) (s : Value) (n : Nat) : Reader (w.alloc (.cells #[s, .int .i64 (n : Int)] 119)) w.heap.size s n := heap_alloc_new w _

set_option maxRecDepth 100000 in
set_option maxHeartbeats 400000 in
theorem get_out (v : Option Addr) (len c : Nat) (at_ : Int) (w : World) (h : at_ < 0 ∨ (len : Int) < at_) :
    Calls Try.prog 62 #[.slice v len c, .int .i64 at_] w fun e w' => e = .returned (.tuple #[.int .i64 0, .int .i64 0, .int .i64 70]) ∧ w = w' := by
  by_cases h0 : at_ < 0
  · go_enter Try.func62, Try.ntmps62
    go_wp2
    go_ret3
    exact ⟨rfl, rfl⟩
  · have h1 : (len : Int) < at_ := by omega
    go_enter Try.func62, Try.ntmps62
    go_wp2
    go_ret3
    exact ⟨rfl, rfl⟩

/-- What is known behind the reading, the world no more written out. -/
theorem after_next {w w2 : World} {s : Value} {at_ n k : Nat} {e : Ending} {r : Option (Nat × Nat)} (hp : NextPost (w.alloc (.cells #[s, .int .i64 (at_ : Int)] 119)) w.heap.size at_ r e w2) (hr : r = some (n, k)) :
    e = .returned (.tuple #[.int .i64 (n : Int), .int .i64 0]) ∧ w2.cell? ⟨w.heap.size, 1, none⟩ = some (.int .i64 ((at_ : Int) + k)) ∧ Below w.heap.size w w2 := by
  obtain ⟨he, q, hw⟩ := hp.1 n k hr
  refine ⟨he, ?_, ?_⟩
  · have h1 := (Reader.new w s at_).cell1
    rw [hw, World.cell?_setCell_same (u := .int .i64 (at_ : Int)) _ _ _ (show ((w.alloc (.cells #[s, .int .i64 (at_ : Int)] 119)).drewN q).cell? _ = _ from h1)]
    simp
  · rw [hw]
    exact (below_drewN ((Below.refl _ _).alloc (Nat.le_refl _) _) q).setCell (Nat.le_refl _) _
theorem after_next_none {w w2 : World} {s : Value} {at_ : Nat} {e : Ending} {r : Option (Nat × Nat)} (hp : NextPost (w.alloc (.cells #[s, .int .i64 (at_ : Int)] 119)) w.heap.size at_ r e w2) (hr : r = none) :
    e = .returned (.tuple #[.int .i64 0, .int .i64 70]) ∧ Below w.heap.size w w2 := by
  obtain ⟨he, q, hw⟩ := hp.2 hr
  refine ⟨he, ?_⟩
  rw [hw]
  exact below_drewN ((Below.refl _ _).alloc (Nat.le_refl _) _) q

set_option maxRecDepth 100000 in
set_option maxHeartbeats 400000 in
theorem get_some (A : Option Addr) (c : Nat) (bs : List UInt8) (at_ n k : Nat) (w : World) (hs : Seen w w.heap.size A (cells bs)) (hx : bs.length ≤ 1000000) (hc : bs.length ≤ c) (hat : at_ ≤ bs.length) (hr : VP.dec (bs.drop at_) = some (n, k)) :
    Calls Try.prog 62 #[.slice A bs.length c, .int .i64 (at_ : Int)] w fun e w' => e = .returned (.tuple #[.int .i64 (n : Int), .int .i64 ((at_ : Int) + k), .int .i64 0]) ∧ Below w.heap.size w w' := by
  have HR := Lib.hid hr
  clear hr
  have hb0 : Below w.heap.size w (w.alloc (.cells #[.slice A bs.length c, .int .i64 (at_ : Int)] 119)) := (Below.refl _ _).alloc (Nat.le_refl _) _
  go_enter Try.func62, Try.ntmps62
  go_wp2_with fail
  refine (next_any w.heap.size w.heap.size A c bs at_ _ (Reader.new w _ at_) (hs.below hb0) hx hc hat).mono ?_
  intro e w2 hp
  obtain ⟨rfl, hcell, hb⟩ := after_next hp HR.out
  clear hp hb0
  go_wp2
  go_quiet (fail)
  go_wp2
  go_ret3
  exact ⟨rfl, below_drewN hb _⟩

set_option maxRecDepth 100000 in
set_option maxHeartbeats 400000 in
theorem get_none (A : Option Addr) (c : Nat) (bs : List UInt8) (at_ : Nat) (w : World) (hs : Seen w w.heap.size A (cells bs)) (hx : bs.length ≤ 1000000) (hc : bs.length ≤ c) (hat : at_ ≤ bs.length) (hr : VP.dec (bs.drop at_) = none) :
    Calls Try.prog 62 #[.slice A bs.length c, .int .i64 (at_ : Int)] w fun e w' => e = .returned (.tuple #[.int .i64 0, .int .i64 0, .int .i64 70]) ∧ Below w.heap.size w w' := by
  have HR := Lib.hid hr
  clear hr
  have hb0 : Below w.heap.size w (w.alloc (.cells #[.slice A bs.length c, .int .i64 (at_ : Int)] 119)) := (Below.refl _ _).alloc (Nat.le_refl _) _
  go_enter Try.func62, Try.ntmps62
  go_wp2_with fail
  refine (next_any w.heap.size w.heap.size A c bs at_ _ (Reader.new w _ at_) (hs.below hb0) hx hc hat).mono ?_
  intro e w2 hp
  obtain ⟨rfl, hb⟩ := after_next_none hp HR.out
  clear hp hb0
  go_wp2
  go_ret3
  exact ⟨rfl, hb⟩

/-- Get, its lengths under names of their own. -/
theorem get_yes (A : Option Addr) (c : Nat) (bs : List UInt8) (lb at_ n bh : Nat) (w : World) (hlb : lb = bs.length) (hs : Seen w w.heap.size A (cells bs)) (hx : lb ≤ 1000000) (hc : lb ≤ c) (hat : at_ ≤ lb) (k : Nat) (hr : VP.dec (bs.drop at_) = some (n, k)) (hbh : bh = at_ + k) :
    Calls Try.prog 62 #[.slice A lb c, .int .i64 (at_ : Int)] w fun e w' => e = .returned (.tuple #[.int .i64 (n : Int), .int .i64 (bh : Int), .int .i64 0]) ∧ Below w.heap.size w w' := by
  subst hlb hbh
  exact get_some A c bs at_ n k w hs hx hc hat hr
/-- Where Get finds no number: the place is none, or no number begins there. -/
theorem get_not (A : Option Addr) (c : Nat) (bs : List UInt8) (lb : Nat) (at_ : Int) (w : World) (hlb : lb = bs.length) (hs : Seen w w.heap.size A (cells bs)) (hx : lb ≤ 1000000) (hc : lb ≤ c)
    (hr : at_ < 0 ∨ (lb : Int) < at_ ∨ VP.dec (bs.drop at_.toNat) = none) :
    Calls Try.prog 62 #[.slice A lb c, .int .i64 at_] w fun e w' => e = .returned (.tuple #[.int .i64 0, .int .i64 0, .int .i64 70]) ∧ Below w.heap.size w w' := by
  by_cases h : at_ < 0 ∨ (lb : Int) < at_
  · exact (get_out A lb c at_ w h).mono fun _ _ ⟨he, hw⟩ => ⟨he, hw ▸ Below.refl _ _⟩
  · obtain ⟨p, rfl⟩ : ∃ p : Nat, at_ = p := ⟨at_.toNat, by omega⟩
    subst hlb
    have hd : VP.dec (bs.drop p) = none := by
      rcases hr with h' | h' | h'
      · omega
      · omega
      · simpa using h'
    exact get_none A c bs p w hs hx hc (by omega) hd

end Go.Proofs.Ytchpemgamgcbkaa
