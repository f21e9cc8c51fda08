/-
  Contracts of varint's reader.next and Get: what each returns and what it does to memory. Conditions: those that each theorem names.
  Contracts of varint's Get: what it returns and what it does to memory. Conditions: those that each theorem names.
  Contracts of the document's own answers for varint (rovingref01's Put and Len): what each returns and what it does to memory. Conditions: those that each theorem names.
  Contracts of the document's own answers for varint (rovingref01's Get): what it returns; it turns nothing. Conditions: those that each theorem names.
  Contracts of varint's Put, Len, Get and of the document's own answers, one for number or error. Conditions: those that each theorem names.
-/
import Derived.Test.YtplpagnnlggfgaaDoorRepG1
import Derived.Deep.DeepCutAuto
namespace Go.Proofs.YtplpagnnlggfgaaDoor
open Go.RowKit

/-- Block g holds a reader: its bytes, its place. -/
def Reader (w : World) (g : Nat) (s : Value) (at_ : Nat) : Prop := w.heap[g]? = some (.cells #[s, .int .i64 (at_ : Int)] 164 (0, 0))

theorem Reader.cell0 {w : World} {g at_ : Nat} {s : Value} (h : Reader w g s at_) : w.cell? ⟨g, 0, none⟩ = some s := cell_of_row w g 0 _ 164 (0, 0) h
theorem Reader.cell1 {w : World} {g at_ : Nat} {s : Value} (h : Reader w g s at_) : w.cell? ⟨g, 1, none⟩ = some (.int .i64 (at_ : Int)) := cell_of_row w g 1 _ 164 (0, 0) h
theorem Reader.free {w : World} {g at_ : Nat} {s : Value} (h : Reader w g s at_) (i : Nat) : w.frozen? ⟨g, i, none⟩ = false := by
  unfold Reader at h
  simp [World.frozen?, h]

theorem byte_here {rs : List UInt8} {n k : Nat} (hlt : k < n) (hnr : n ≤ rs.length) : ∃ x, rs.drop k = x :: rs.drop (k + 1) ∧ (cells (rs.take n))[k]? = some (.int .u8 (x.toNat : Int)) := by
  refine ⟨rs[k], List.drop_eq_getElem_cons (by omega), ?_⟩
  rw [cells, List.getElem?_map, List.getElem?_take_of_lt hlt, List.getElem?_eq_getElem (by omega)]
  rfl
theorem u8_size : ∀ w, (Go.sizeOf 5).run Tryd.prog w = .ok 1 w := fun w => by kernel_rfl

theorem pow_up (k : Nat) : (2 : Nat) ^ (k * 7) = 128 ^ k := by rw [Nat.mul_comm, Nat.pow_mul]

/-- What '|' and '<<' make of a further byte. -/
theorem or_shift {z y k : Nat} (hz : z < 128 ^ k) (hk : k < 6) : bits .or .i64 (z : Int) (wrap64 ((y : Int) % 128 * 2 ^ (k * 7))) = ((z + y % 128 * 128 ^ k : Nat) : Int) := by
  have hpow : (128 : Nat) ^ k ≤ 128 ^ 5 := Nat.pow_le_pow_right (by omega) (by omega)
  have hpow' : (128 : Nat) ^ 5 = 34359738368 := by decide
  have hlt : y % 128 < 128 := Nat.mod_lt _ (by omega)
  have hm : y % 128 * 128 ^ k ≤ 127 * 128 ^ k := Nat.mul_le_mul_right _ (by omega)
  have e1 : (y : Int) % 128 * 2 ^ (k * 7) = ((y % 128 * 128 ^ k : Nat) : Int) := by
    rw [← pow_up]; simp [Int.natCast_mul, Int.natCast_pow]
  rw [e1, IntWalk.wrap64_in _ ⟨by omega, by omega⟩, or_i64 z _ (by omega) (by omega)]
  congr 1
  have := Nat.two_pow_add_eq_or_of_lt (i := k * 7) (b := z) (by rw [pow_up]; exact hz) (y % 128)
  rw [pow_up] at this
  rw [Nat.or_comm, Nat.mul_comm (y % 128), ← this, Nat.add_comm]

theorem high_u8_on {y : Nat} (h : 128 ≤ y) (h' : y < 256) : (bits .and .u8 (y : Int) 128 != 0) = true := by
  have : ∀ y : Fin 256, 128 ≤ y.val → (bits .and .u8 ((y.val : Nat) : Int) 128 != 0) = true := by decide +kernel
  exact this ⟨y, h'⟩ h
theorem high_u8_off {y : Nat} (h : y < 128) : (bits .and .u8 (y : Int) 128 != 0) = false := by
  have : ∀ y : Fin 128, (bits .and .u8 ((y.val : Nat) : Int) 128 != 0) = false := by decide +kernel
  exact this ⟨y, h⟩

/-- What the next reading hands back, and what becomes of the reader. -/
def NextPost (w : World) (g at_ : Nat) (r : Option (Nat × Nat)) (e : Ending) (w' : World) : Prop :=
  (∀ n k, r = some (n, k) → e = .returned (.tuple #[.int .i64 (n : Int), .int .i64 0]) ∧ ∃ q, w' = (w.drewN q).setCell ⟨g, 1, none⟩ (.int .i64 ((at_ + k : Nat) : Int))) ∧
  (r = none → e = .returned (.tuple #[.int .i64 0, .int .i64 70]) ∧ ∃ q, w' = w.drewN q)

theorem NextPost.of_some {w : World} {g at_ n k q : Nat} {r : Option (Nat × Nat)} {a b : Int} (hr : r = some (n, k)) (ha : a = n) (hb : b = ((at_ + k : Nat) : Int)) :
    NextPost w g at_ r (.returned (.tuple #[.int .i64 a, .int .i64 0])) ((w.drewN q).setCell ⟨g, 1, none⟩ (.int .i64 b)) := by
  subst ha hb
  refine ⟨fun n' k' h => ?_, fun h => ?_⟩
  · rw [hr] at h; injection h with h; injection h with h1 h2; subst h1 h2; exact ⟨rfl, _, rfl⟩
  · rw [hr] at h; cases h
theorem NextPost.of_none {w : World} {g at_ q : Nat} {r : Option (Nat × Nat)} (hr : r = none) : NextPost w g at_ r (.returned (.tuple #[.int .i64 0, .int .i64 70])) (w.drewN q) := by
  refine ⟨fun n' k' h => ?_, fun h => ⟨rfl, _, rfl⟩⟩
  rw [hr] at h; cases h

set_option maxRecDepth 100000 in
set_option maxHeartbeats 1000000 in
theorem next_any (g B : Nat) (A : Option Addr) (c : Nat) (bs : List UInt8) (at_ : Nat) (w : World) (hr : Reader w g (.slice A bs.length c) at_) (hs : Seen w B A (cells bs)) (hx : bs.length ≤ 1000000) (hc : bs.length ≤ c)
    (hat : at_ ≤ bs.length) :
    Calls Tryd.prog 99 #[.pointer (some ⟨g, 0, none⟩)] w (NextPost w g at_ (VP.dec (bs.drop at_))) := by
  have h0 := hr.cell0
  have h1 := hr.cell1
  have hf := hr.free 1
  obtain ⟨hi, hhi, HW⟩ : ∃ hi : Nat, (at_ ≤ hi ∧ hi ≤ at_ + 6 ∧ hi ≤ bs.length) ∧ Hid ((at_ + 6 ≤ bs.length → hi = at_ + 6) ∧ (bs.length < at_ + 6 → hi = bs.length)) := by
    by_cases h : at_ + 6 ≤ bs.length
    · exact ⟨at_ + 6, by omega, fun _ => rfl, fun h' => by omega⟩
    · exact ⟨bs.length, by omega, fun h' => by omega, fun _ => rfl⟩
  obtain ⟨hi1, hi2, hi3⟩ := hhi
  obtain ⟨rs, hrs⟩ : ∃ rs, rs = bs.drop at_ := ⟨_, rfl⟩
  rw [← hrs]
  have HRS := Lib.hid hrs
  clear hrs
  go_enter Tryd.func99, Tryd.ntmps99
  go_upto_region 2 with fail
  go_cut [5] (fun s5 wx => s5 = .int .i64 (hi : Int) ∧ ∃ q, wx = w.drewN q)
  case first =>
    go_quiet (fail)
    go_wp2_with fail
    all_goals go_meet
    all_goals (refine ⟨?_, _, rfl⟩; have := HW.out; congr 1; omega)
  case rest =>
    obtain ⟨rfl, q, rfl⟩ := hcut
    have hsl := fun W => run_cut (P := Tryd.prog) W 27 5 Tryd.underlying27 u8_size A bs.length c at_ hi hi1 (by omega)
    have hseen := hs.cut (l := at_) (h := hi) (c := c) hi1 (by rw [cells_length]; exact hi3) (by rw [cells_length]; exact hc)
    rw [← cells_drop, ← cells_take] at hseen
    obtain ⟨D, hD⟩ : ∃ D, D = (if c = at_ then A else A.map (·.add (at_ * 1))) := ⟨_, rfl⟩
    rw [← hD] at hseen
    simp only [← hD] at hsl
    clear hD
    obtain ⟨n, hn⟩ : ∃ n, n = hi - at_ := ⟨_, rfl⟩
    rw [← hn] at hseen
    simp only [← hn] at hsl
    have hn6 : n ≤ 6 := by omega
    have hnr : n ≤ rs.length := by rw [HRS.out]; simp; omega
    have HN : Hid (n = 6 ∨ n = rs.length) := by
      have := HW.out
      show n = 6 ∨ n = rs.length
      rw [HRS.out, List.length_drop]
      omega
    rw [← HRS.out] at hseen
    clear hn HW
    go_wp2
    go_quiet (fail)
    go_wp2
    go_loop [4, 30] (fun a i => ∃ (k z : Nat), k ≤ n ∧ z < 128 ^ k ∧ i = .int .i64 k ∧ a = .int .i64 z ∧ VP.dec rs = VP.decGo k z (rs.drop k)) (fun _ i => n - (intOf i).toNat)
    case atStart => exact ⟨0, 0, by omega, by simp, rfl, rfl, rfl⟩
    case round =>
      obtain ⟨k, z, hk, hz, rfl, rfl, hd⟩ := hrel
      have HD := Lib.hid hd
      clear hd hsl
      by_cases hlt : k < n
      · obtain ⟨x, hdrop, hget⟩ := byte_here hlt hnr
        obtain ⟨b, off, rfl, hbB, hcell⟩ := hseen (by intro e; rw [e] at hget; simp at hget)
        have hcx := hcell k _ hget
        obtain ⟨y, hy⟩ : ∃ y, y = x.toNat := ⟨_, rfl⟩
        have hy255 : y < 256 := by rw [hy]; exact x.toNat_lt
        rw [← hy] at hcx
        have hmask := low_u8 (c := (y : Int)) (by omega) (by omega)
        obtain ⟨v, hv⟩ : ∃ v, v = z + y % 128 * 128 ^ k := ⟨_, rfl⟩
        have hor := or_shift (y := y) hz (by omega : k < 6)
        rw [← hv] at hor
        have HMORE : Hid (128 ≤ y → VP.dec rs = VP.decGo (k + 1) v (rs.drop (k + 1)) ∧ v < 128 ^ (k + 1)) := fun h => by
          refine ⟨?_, ?_⟩
          · rw [HD.out, hdrop, VP.decGo_more (by omega) (by omega), ← hy, ← hv]
          · have hle : y % 128 * 128 ^ k ≤ 127 * 128 ^ k := Nat.mul_le_mul_right _ (by omega)
            rw [hv, Nat.pow_succ]; omega
        have HBAD : Hid (y < 128 → (1099511627776 < v ∨ (y = 0 ∧ 0 < k)) → VP.dec rs = none) := fun h h' => by
          rw [HD.out, hdrop, VP.decGo_bad (by omega) (by omega) (by rw [← hy, ← hv]; exact h')]
        have HLAST : Hid (y < 128 → ¬ (1099511627776 < v ∨ (y = 0 ∧ 0 < k)) → VP.dec rs = some (v, k + 1)) := fun h h' => by
          rw [HD.out, hdrop, VP.decGo_last (by omega) (by omega) (by rw [← hy, ← hv]; exact h'), ← hy, ← hv]
        clear hcell hget hseen hdrop hz HD hy hv
        by_cases hmore : 128 ≤ y
        · have hbit := high_u8_on hmore hy255
          go_wp2
          go_round
          case rel =>
            (repeat apply Exists.intro)
            refine ⟨?_, rfl, rfl, rfl, rfl, rfl, rfl⟩
            exact ⟨k + 1, by omega, v, (HMORE.out hmore).2, by go_num, rfl, (HMORE.out hmore).1⟩
          case measure => simp [intOf]; omega
        · have hbit := high_u8_off (show y < 128 by omega)
          have hy128 : y < 128 := by omega
          by_cases hbig : 1099511627776 < v
          · have hbig' : (1099511627776 : Int) < (v : Int) := by omega
            go_wp2
            go_ret2
            exact NextPost.of_none (HBAD.out hy128 (Or.inl hbig))
          · have hbig' : (v : Int) ≤ (1099511627776 : Int) := by omega
            by_cases hpos : 1 ≤ y
            · go_wp2
              go_ret2
              exact NextPost.of_some (HLAST.out hy128 (by omega)) rfl (by omega)
            · by_cases hk0 : 1 ≤ k
              · go_wp2
                go_ret2
                exact NextPost.of_none (HBAD.out hy128 (Or.inr ⟨by omega, by omega⟩))
              · go_wp2
                go_ret2
                exact NextPost.of_some (HLAST.out hy128 (by omega)) rfl (by omega)
      · obtain rfl : k = n := by omega
        have HEND : Hid (VP.dec rs = none) := by
          show VP.dec rs = none
          rw [HD.out]
          rcases HN.out with h | h
          · exact VP.decGo_far (by omega) _ _
          · rw [List.drop_eq_nil_of_le (by omega)]; exact VP.decGo_nil _ _
        clear HD HN hz
        go_wp2
        go_ret2
        exact NextPost.of_none HEND.out

end Go.Proofs.YtplpagnnlggfgaaDoor

namespace Go.Proofs.YtplpagnnlggfgaaDoor
open Go.RowKit

theorem below_drewN {B : Nat} {a w : World} (h : Below B a w) (n : Nat) : Below B a (w.drewN n) := ⟨h.os, h.tape, h.output, h.size, h.block⟩

theorem Reader.new (w : World) (s : Value) (n : Nat) : Reader (w.alloc (.cells #[s, .int .i64 (n : Int)] 164)) w.heap.size s n := heap_alloc_new w _

set_option maxRecDepth 100000 in
set_option maxHeartbeats 400000 in
theorem get_out (v : Option Addr) (len c : Nat) (at_ : Int) (w : World) (h : at_ < 0 ∨ (len : Int) < at_) :
    Calls Tryd.prog 98 #[.slice v len c, .int .i64 at_] w fun e w' => e = .returned (.tuple #[.int .i64 0, .int .i64 0, .int .i64 70]) ∧ w = w' := by
  by_cases h0 : at_ < 0
  · go_enter Tryd.func98, Tryd.ntmps98
    go_wp2
    go_ret3
    exact ⟨rfl, rfl⟩
  · have h1 : (len : Int) < at_ := by omega
    go_enter Tryd.func98, Tryd.ntmps98
    go_wp2
    go_ret3
    exact ⟨rfl, rfl⟩

/-- What is known behind the reading, the world no more written out. -/
theorem after_next {w w2 : World} {s : Value} {at_ n k : Nat} {e : Ending} {r : Option (Nat × Nat)} (hp : NextPost (w.alloc (.cells #[s, .int .i64 (at_ : Int)] 164)) w.heap.size at_ r e w2) (hr : r = some (n, k)) :
    e = .returned (.tuple #[.int .i64 (n : Int), .int .i64 0]) ∧ w2.cell? ⟨w.heap.size, 1, none⟩ = some (.int .i64 ((at_ : Int) + k)) ∧ Below w.heap.size w w2 := by
  obtain ⟨he, q, hw⟩ := hp.1 n k hr
  refine ⟨he, ?_, ?_⟩
  · have h1 := (Reader.new w s at_).cell1
    rw [hw, World.cell?_setCell_same (u := .int .i64 (at_ : Int)) _ _ _ (show ((w.alloc (.cells #[s, .int .i64 (at_ : Int)] 164)).drewN q).cell? _ = _ from h1)]
    simp
  · rw [hw]
    exact (below_drewN ((Below.refl _ _).alloc (Nat.le_refl _) _) q).setCell (Nat.le_refl _) _
theorem after_next_none {w w2 : World} {s : Value} {at_ : Nat} {e : Ending} {r : Option (Nat × Nat)} (hp : NextPost (w.alloc (.cells #[s, .int .i64 (at_ : Int)] 164)) w.heap.size at_ r e w2) (hr : r = none) :
    e = .returned (.tuple #[.int .i64 0, .int .i64 70]) ∧ Below w.heap.size w w2 := by
  obtain ⟨he, q, hw⟩ := hp.2 hr
  refine ⟨he, ?_⟩
  rw [hw]
  exact below_drewN ((Below.refl _ _).alloc (Nat.le_refl _) _) q

set_option maxRecDepth 100000 in
set_option maxHeartbeats 400000 in
theorem get_some (A : Option Addr) (c : Nat) (bs : List UInt8) (at_ n k : Nat) (w : World) (hs : Seen w w.heap.size A (cells bs)) (hx : bs.length ≤ 1000000) (hc : bs.length ≤ c) (hat : at_ ≤ bs.length) (hr : VP.dec (bs.drop at_) = some (n, k)) :
    Calls Tryd.prog 98 #[.slice A bs.length c, .int .i64 (at_ : Int)] w fun e w' => e = .returned (.tuple #[.int .i64 (n : Int), .int .i64 ((at_ : Int) + k), .int .i64 0]) ∧ Below w.heap.size w w' := by
  have HR := Lib.hid hr
  clear hr
  have hb0 : Below w.heap.size w (w.alloc (.cells #[.slice A bs.length c, .int .i64 (at_ : Int)] 164)) := (Below.refl _ _).alloc (Nat.le_refl _) _
  go_enter Tryd.func98, Tryd.ntmps98
  go_wp2_with fail
  refine (next_any w.heap.size w.heap.size A c bs at_ _ (Reader.new w _ at_) (hs.below hb0) hx hc hat).mono ?_
  intro e w2 hp
  obtain ⟨rfl, hcell, hb⟩ := after_next hp HR.out
  clear hp hb0
  go_wp2
  go_quiet (fail)
  go_wp2
  go_ret3
  exact ⟨rfl, below_drewN hb _⟩

set_option maxRecDepth 100000 in
set_option maxHeartbeats 400000 in
theorem get_none (A : Option Addr) (c : Nat) (bs : List UInt8) (at_ : Nat) (w : World) (hs : Seen w w.heap.size A (cells bs)) (hx : bs.length ≤ 1000000) (hc : bs.length ≤ c) (hat : at_ ≤ bs.length) (hr : VP.dec (bs.drop at_) = none) :
    Calls Tryd.prog 98 #[.slice A bs.length c, .int .i64 (at_ : Int)] w fun e w' => e = .returned (.tuple #[.int .i64 0, .int .i64 0, .int .i64 70]) ∧ Below w.heap.size w w' := by
  have HR := Lib.hid hr
  clear hr
  have hb0 : Below w.heap.size w (w.alloc (.cells #[.slice A bs.length c, .int .i64 (at_ : Int)] 164)) := (Below.refl _ _).alloc (Nat.le_refl _) _
  go_enter Tryd.func98, Tryd.ntmps98
  go_wp2_with fail
  refine (next_any w.heap.size w.heap.size A c bs at_ _ (Reader.new w _ at_) (hs.below hb0) hx hc hat).mono ?_
  intro e w2 hp
  obtain ⟨rfl, hb⟩ := after_next_none hp HR.out
  clear hp hb0
  go_wp2
  go_ret3
  exact ⟨rfl, hb⟩

/-- Get, its lengths under names of their own. -/
theorem get_yes (A : Option Addr) (c : Nat) (bs : List UInt8) (lb at_ n bh : Nat) (w : World) (hlb : lb = bs.length) (hs : Seen w w.heap.size A (cells bs)) (hx : lb ≤ 1000000) (hc : lb ≤ c) (hat : at_ ≤ lb) (k : Nat) (hr : VP.dec (bs.drop at_) = some (n, k)) (hbh : bh = at_ + k) :
    Calls Tryd.prog 98 #[.slice A lb c, .int .i64 (at_ : Int)] w fun e w' => e = .returned (.tuple #[.int .i64 (n : Int), .int .i64 (bh : Int), .int .i64 0]) ∧ Below w.heap.size w w' := by
  subst hlb hbh
  exact get_some A c bs at_ n k w hs hx hc hat hr
/-- Where Get finds no number: the place is none, or no number begins there. -/
theorem get_not (A : Option Addr) (c : Nat) (bs : List UInt8) (lb : Nat) (at_ : Int) (w : World) (hlb : lb = bs.length) (hs : Seen w w.heap.size A (cells bs)) (hx : lb ≤ 1000000) (hc : lb ≤ c)
    (hr : at_ < 0 ∨ (lb : Int) < at_ ∨ VP.dec (bs.drop at_.toNat) = none) :
    Calls Tryd.prog 98 #[.slice A lb c, .int .i64 at_] w fun e w' => e = .returned (.tuple #[.int .i64 0, .int .i64 0, .int .i64 70]) ∧ Below w.heap.size w w' := by
  by_cases h : at_ < 0 ∨ (lb : Int) < at_
  · exact (get_out A lb c at_ w h).mono fun _ _ ⟨he, hw⟩ => ⟨he, hw ▸ Below.refl _ _⟩
  · obtain ⟨p, rfl⟩ : ∃ p : Nat, at_ = p := ⟨at_.toNat, by omega⟩
    subst hlb
    have hd : VP.dec (bs.drop p) = none := by
      rcases hr with h' | h' | h'
      · omega
      · omega
      · simpa using h'
    exact get_none A c bs p w hs hx hc (by omega) hd

end Go.Proofs.YtplpagnnlggfgaaDoor

namespace Go.Proofs.YtplpagnnlggfgaaDoor
open Go.RowKit

end Go.Proofs.YtplpagnnlggfgaaDoor

namespace Go.Proofs.YtplpagnnlggfgaaDoor
open Go.RowKit

/-- What rovingref01.Get hands back. -/
def GetPost (w : World) (at_ : Nat) (r : Option (Nat × Nat)) (e : Ending) (w' : World) : Prop :=
  w = w' ∧ (∀ n k, r = some (n, k) → e = .returned (.tuple #[.int .i64 (n : Int), .int .i64 ((at_ + k : Nat) : Int), .int .i64 0])) ∧
  (r = none → e = .returned (.tuple #[.int .i64 0, .int .i64 0, .int .i64 70]))
theorem GetPost.of_some {w : World} {at_ n k : Nat} {r : Option (Nat × Nat)} {a b : Int} (hr : r = some (n, k)) (ha : a = n) (hb : b = ((at_ + k : Nat) : Int)) : GetPost w at_ r (.returned (.tuple #[.int .i64 a, .int .i64 b, .int .i64 0])) w := by
  subst ha hb
  refine ⟨rfl, fun n' k' h => ?_, fun h => ?_⟩
  · rw [hr] at h; injection h with h; injection h with h1 h2; subst h1 h2; rfl
  · rw [hr] at h; cases h
theorem GetPost.of_none {w : World} {at_ : Nat} {r : Option (Nat × Nat)} (hr : r = none) : GetPost w at_ r (.returned (.tuple #[.int .i64 0, .int .i64 0, .int .i64 70])) w := by
  refine ⟨rfl, fun n' k' h => ?_, fun _ => rfl⟩
  rw [hr] at h; cases h

theorem mul_unit {u y : Nat} (hu : u ≤ 34359738368) : wrap64 ((u : Int) * ((y : Int) % 128)) = ((u * (y % 128) : Nat) : Int) := by
  have hlt : y % 128 < 128 := Nat.mod_lt _ (by omega)
  have hle : u * (y % 128) ≤ u * 127 := Nat.mul_le_mul_left _ (by omega)
  have e1 : (u : Int) * ((y : Int) % 128) = ((u * (y % 128) : Nat) : Int) := by simp [Int.natCast_mul]
  rw [e1]
  exact IntWalk.wrap64_in _ ⟨by omega, by omega⟩

end Go.Proofs.YtplpagnnlggfgaaDoor

namespace Go.Proofs.YtplpagnnlggfgaaDoor
open Go.RowKit

/-- Put behind b, the lengths under names of their own. -/
theorem put_behind (A : Option Addr) (c : Nat) (bs : List UInt8) (lb n : Nat) (xs : List UInt8) (lx : Nat) (hlb : lb = bs.length) (hxs : xs = bs ++ VP.enc n) (hlx : lx = xs.length) (w : World) (hs : Seen w w.heap.size A (cells bs)) (hx : lb ≤ 1000000) (hn : n ≤ 1099511627776) :
    Calls Tryd.prog 83 #[.slice A lb c, .int .i64 (n : Int)] w fun e w' =>
      ∃ A' c', e = .returned (.tuple #[.slice A' lx c', .int .i64 0]) ∧ Seen w' w'.heap.size A' (cells xs) ∧ lx ≤ c' ∧ Below w.heap.size w w' := by
  subst hlb hxs hlx
  refine (put_yes A c bs n w hs hx hn).mono ?_
  rintro e w1 ⟨v1, rfl, hown, hb⟩
  obtain ⟨A', c', rfl, hs', hc'⟩ := own_bytes hown
  exact ⟨A', c', rfl, hs', hc', hb⟩

/-- What Put of n behind bs is: bytes and an error's number. -/
def PutIs (bs : List UInt8) (n : Int) (xs : List UInt8) (er : Int) : Prop :=
  (0 ≤ n ∧ n ≤ 1099511627776 ∧ xs = bs ++ VP.enc n.toNat ∧ er = 0) ∨ ((n < 0 ∨ 1099511627776 < n) ∧ xs = [] ∧ er = 2)
/-- What Len of n is. -/
def LenIs (n : Int) (l : Nat) : Prop := (0 ≤ n ∧ n ≤ 1099511627776 ∧ l = (VP.enc n.toNat).length) ∨ ((n < 0 ∨ 1099511627776 < n) ∧ l = 0)
/-- What Get of bs at a place is: a number, the place behind it, an error's number. -/
def GetIs (bs : List UInt8) (at_ : Int) (n bh er : Int) : Prop :=
  (∃ p m k : Nat, at_ = p ∧ p ≤ bs.length ∧ VP.dec (bs.drop p) = some (m, k) ∧ n = m ∧ bh = ((p + k : Nat) : Int) ∧ er = 0) ∨
  ((at_ < 0 ∨ (bs.length : Int) < at_ ∨ VP.dec (bs.drop at_.toNat) = none) ∧ n = 0 ∧ bh = 0 ∧ er = 70)

theorem putIs_of (bs : List UInt8) (n : Int) : ∃ xs er, PutIs bs n xs er := by
  by_cases h : n < 0 ∨ 1099511627776 < n
  · exact ⟨[], 2, .inr ⟨h, rfl, rfl⟩⟩
  · exact ⟨_, 0, .inl ⟨by omega, by omega, rfl, rfl⟩⟩
theorem lenIs_of (n : Int) : ∃ l, LenIs n l := by
  by_cases h : n < 0 ∨ 1099511627776 < n
  · exact ⟨0, .inr ⟨h, rfl⟩⟩
  · exact ⟨_, .inl ⟨by omega, by omega, rfl⟩⟩
theorem getIs_of (bs : List UInt8) (at_ : Int) : ∃ n bh er, GetIs bs at_ n bh er := by
  by_cases h : at_ < 0 ∨ (bs.length : Int) < at_ ∨ VP.dec (bs.drop at_.toNat) = none
  · exact ⟨0, 0, 70, .inr ⟨h, rfl, rfl, rfl⟩⟩
  · obtain ⟨p, rfl⟩ : ∃ p : Nat, at_ = p := ⟨at_.toNat, by omega⟩
    rw [Int.toNat_natCast] at h
    rcases hd : VP.dec (bs.drop p) with _ | ⟨m, k⟩
    · exact absurd (Or.inr (Or.inr hd)) h
    · exact ⟨m, _, 0, .inl ⟨p, m, k, rfl, by omega, hd, rfl, rfl, rfl⟩⟩

section
variable (A : Option Addr) (c : Nat) (bs : List UInt8) (lb : Nat)
theorem put_all (n : Int) (xs : List UInt8) (er : Int) (lx : Nat) (w : World) (hp : PutIs bs n xs er) (hlb : lb = bs.length) (hlx : lx = xs.length) (hs : Seen w w.heap.size A (cells bs)) (hx : lb ≤ 1000000) :
    Calls Tryd.prog 83 #[.slice A lb c, .int .i64 n] w fun e w' => ∃ A' c', e = .returned (.tuple #[.slice A' lx c', .int .i64 er]) ∧ Seen w' w'.heap.size A' (cells xs) ∧ lx ≤ c' ∧ Below w.heap.size w w' := by
  rcases hp with ⟨h0, h1, rfl, rfl⟩ | ⟨h, rfl, rfl⟩
  · obtain ⟨m, rfl⟩ : ∃ m : Nat, n = m := ⟨n.toNat, by omega⟩
    rw [Int.toNat_natCast] at hlx ⊢
    exact put_behind A c bs lb m _ lx hlb rfl hlx w hs hx (by omega)
  · refine (put_no _ n w h).mono ?_
    rintro e w' ⟨rfl, rfl⟩
    subst hlx
    exact ⟨none, 0, rfl, Seen.nil _ _ _, Nat.le_refl _, Below.refl _ _⟩
theorem len_all (n : Int) (l : Nat) (w : World) (hl : LenIs n l) :
    Calls Tryd.prog 85 #[.int .i64 n] w fun e w' => e = .returned (.int .i64 (l : Int)) ∧ w = w' := by
  rcases hl with ⟨h0, h1, rfl⟩ | ⟨h, rfl⟩
  · obtain ⟨m, rfl⟩ : ∃ m : Nat, n = m := ⟨n.toNat, by omega⟩
    rw [Int.toNat_natCast]
    exact len_yes m w (by omega)
  · exact len_no n w h
theorem get_all (at_ n bh er : Int) (w : World) (hg : GetIs bs at_ n bh er) (hlb : lb = bs.length) (hs : Seen w w.heap.size A (cells bs)) (hx : lb ≤ 1000000) (hc : lb ≤ c) :
    Calls Tryd.prog 98 #[.slice A lb c, .int .i64 at_] w fun e w' => e = .returned (.tuple #[.int .i64 n, .int .i64 bh, .int .i64 er]) ∧ Below w.heap.size w w' := by
  rcases hg with ⟨p, m, k, rfl, hp, hd, rfl, rfl, rfl⟩ | ⟨h, rfl, rfl, rfl⟩
  · exact get_yes A c bs lb p m _ w hlb hs hx hc (by omega) k hd rfl
  · exact get_not A c bs lb at_ w hlb hs hx hc (by rw [hlb]; exact h)
end

end Go.Proofs.YtplpagnnlggfgaaDoor
