/-
  Contracts of varint's reader.next and Get: what each returns and what it does to memory. Conditions: those that each theorem names.
-/
import Derived.Test.YtchpemgamgcbkaaVarWalkB
import Derived.Deep.DeepCutAuto
namespace Go.Proofs.Ytchpemgamgcbkaa
open Go.RowKit

/-- Block g holds a reader: its bytes, its place. -/
def Reader (w : World) (g : Nat) (s : Value) (at_ : Nat) : Prop := w.heap[g]? = some (.cells #[s, .int .i64 (at_ : Int)] 119 (0, 0))

theorem Reader.cell0 {w : World} {g at_ : Nat} {s : Value} (h : Reader w g s at_) : w.cell? ⟨g, 0, none⟩ = some s := cell_of_row w g 0 _ 119 (0, 0) h
theorem Reader.cell1 {w : World} {g at_ : Nat} {s : Value} (h : Reader w g s at_) : w.cell? ⟨g, 1, none⟩ = some (.int .i64 (at_ : Int)) := cell_of_row w g 1 _ 119 (0, 0) h
theorem Reader.free {w : World} {g at_ : Nat} {s : Value} (h : Reader w g s at_) (i : Nat) : w.frozen? ⟨g, i, none⟩ = false := by
  unfold Reader at h
  simp [World.frozen?, h]

theorem byte_here {rs : List UInt8} {n k : Nat} (hlt : k < n) (hnr : n ≤ rs.length) : ∃ x, rs.drop k = x :: rs.drop (k + 1) ∧ (cells (rs.take n))[k]? = some (.int .u8 (x.toNat : Int)) := by
  refine ⟨rs[k], List.drop_eq_getElem_cons (by omega), ?_⟩
  rw [cells, List.getElem?_map, List.getElem?_take_of_lt hlt, List.getElem?_eq_getElem (by omega)]
  rfl
theorem u8_size : ∀ w, (Go.sizeOf 5).run Try.prog w = .ok 1 w := fun w => by kernel_rfl

theorem pow_up (k : Nat) : (2 : Nat) ^ (k * 7) = 128 ^ k := by rw [Nat.mul_comm, Nat.pow_mul]

/-- What '|' and '<<' make of a further byte. -/
theorem or_shift {z y k : Nat} (hz : z < 128 ^ k) (hk : k < 6) : bits .or .i64 (z : Int) (wrap64 ((y : Int) % 128 * 2 ^ (k * 7))) = ((z + y % 128 * 128 ^ k : Nat) : Int) := by
  have hpow : (128 : Nat) ^ k ≤ 128 ^ 5 := Nat.pow_le_pow_right (by omega) (by omega)
  have hpow' : (128 : Nat) ^ 5 = 34359738368 := by decide
  have hlt : y % 128 < 128 := Nat.mod_lt _ (by omega)
  have hm : y % 128 * 128 ^ k ≤ 127 * 128 ^ k := Nat.mul_le_mul_right _ (by omega)
  have e1 : (y : Int) % 128 * 2 ^ (k * 7) = ((y % 128 * 128 ^ k : Nat) : Int) := by
    rw [← pow_up]; simp [Int.natCast_mul, Int.natCast_pow]
  rw [e1, IntWalk.wrap64_in _ ⟨by omega, by omega⟩, or_i64 z _ (by omega) (by omega)]
  congr 1
  have := Nat.two_pow_add_eq_or_of_lt (i := k * 7) (b := z) (by rw [pow_up]; exact hz) (y % 128)
  rw [pow_up] at this
  rw [Nat.or_comm, Nat.mul_comm (y % 128), ← this, Nat.add_comm]

theorem high_u8_on {y : Nat} (h : 128 ≤ y) (h' : y < 256) : (bits .and .u8 (y : Int) 128 != 0) = true := by
  have : ∀ y : Fin 256, 128 ≤ y.val → (bits .and .u8 ((y.val : Nat) : Int) 128 != 0) = true := by decide +kernel
  exact this ⟨y, h'⟩ h
theorem high_u8_off {y : Nat} (h : y < 128) : (bits .and .u8 (y : Int) 128 != 0) = false := by
  have : ∀ y : Fin 128, (bits .and .u8 ((y.val : Nat) : Int) 128 != 0) = false := by decide +kernel
  exact this ⟨y, h⟩

/-- What the next reading hands back, and what becomes of the reader. -/
def NextPost (w : World) (g at_ : Nat) (r : Option (Nat × Nat)) (e : Ending) (w' : World) : Prop :=
  (∀ n k, r = some (n, k) → e = .returned (.tuple #[.int .i64 (n : Int), .int .i64 0]) ∧ ∃ q, w' = (w.drewN q).setCell ⟨g, 1, none⟩ (.int .i64 ((at_ + k : Nat) : Int))) ∧
  (r = none → e = .returned (.tuple #[.int .i64 0, .int .i64 70]) ∧ ∃ q, w' = w.drewN q)

theorem NextPost.of_some {w : World} {g at_ n k q : Nat} {r : Option (Nat × Nat)} {a b : Int} (hr : r = some (n, k)) (ha : a = n) (hb : b = ((at_ + k : Nat) : Int)) :
    NextPost w g at_ r (.returned (.tuple #[.int .i64 a, .int .i64 0])) ((w.drewN q).setCell ⟨g, 1, none⟩ (.int .i64 b)) := by
  subst ha hb
  refine ⟨fun n' k' h => ?_, fun h => ?_⟩
  · rw [hr] at h; injection h with h; injection h with h1 h2; subst h1 h2; exact ⟨rfl, _, rfl⟩
  · rw [hr] at h; cases h
theorem NextPost.of_none {w : World} {g at_ q : Nat} {r : Option (Nat × Nat)} (hr : r = none) : NextPost w g at_ r (.returned (.tuple #[.int .i64 0, .int .i64 70])) (w.drewN q) := by
  refine ⟨fun n' k' h => ?_, fun h => ⟨rfl, _, rfl⟩⟩
  rw [hr] at h; cases h

set_option maxRecDepth 100000 in
set_option maxHeartbeats 1000000 in
theorem next_any (g B : Nat) (A : Option Addr) (c : Nat) (bs : List UInt8) (at_ : Nat) (w : World) (hr : Reader w g (.slice A bs.length c) at_) (hs : Seen w B A (cells bs)) (hx : bs.length ≤ 1000000) (hc : bs.length ≤ c)
    (hat : at_ ≤ bs.length) :
    Calls Try.prog 74 #[.pointer (some ⟨g, 0, none⟩)] w (NextPost w g at_ (VP.dec (bs.drop at_))) := by
  have h0 := hr.cell0
  have h1 := hr.cell1
  have hf := hr.free 1
  obtain ⟨hi, hhi, HW⟩ : ∃ hi : Nat, (at_ ≤ hi ∧ hi ≤ at_ + 6 ∧ hi ≤ bs.length) ∧ Hid ((at_ + 6 ≤ bs.length → hi = at_ + 6) ∧ (bs.length < at_ + 6 → hi = bs.length)) := by
    by_cases h : at_ + 6 ≤ bs.length
    · exact ⟨at_ + 6, by omega, fun _ => rfl, fun h' => by omega⟩
    · exact ⟨bs.length, by omega, fun h' => by omega, fun _ => rfl⟩
  obtain ⟨hi1, hi2, hi3⟩ := hhi
  obtain ⟨rs, hrs⟩ : ∃ rs, rs = bs.drop at_ := ⟨_, rfl⟩
  rw [← hrs]
  have HRS := Lib.hid hrs
  clear hrs
  go_enter Try.func74, Try.ntmps74
  go_upto_region 2 with fail
  go_cut [5] (fun s5 wx => s5 = .int .i64 (hi : Int) ∧ ∃ q, wx = w.drewN q)
  case first =>
    go_quiet (fail)
    go_wp2_with fail
    all_goals go_meet
    all_goals (refine ⟨?_, _, rfl⟩; have := HW.out; congr 1; omega)
  case rest =>
    obtain ⟨rfl, q, rfl⟩ := hcut
    have hsl := fun W => run_cut (P := Try.prog) W 42 5 Try.underlying42 u8_size A bs.length c at_ hi hi1 (by omega)
    have hseen := hs.cut (l := at_) (h := hi) (c := c) hi1 (by rw [cells_length]; exact hi3) (by rw [cells_length]; exact hc)
    rw [← cells_drop, ← cells_take] at hseen
    obtain ⟨D, hD⟩ : ∃ D, D = (if c = at_ then A else A.map (·.add (at_ * 1))) := ⟨_, rfl⟩
    rw [← hD] at hseen
    simp only [← hD] at hsl
    clear hD
    obtain ⟨n, hn⟩ : ∃ n, n = hi - at_ := ⟨_, rfl⟩
    rw [← hn] at hseen
    simp only [← hn] at hsl
    have hn6 : n ≤ 6 := by omega
    have hnr : n ≤ rs.length := by rw [HRS.out]; simp; omega
    have HN : Hid (n = 6 ∨ n = rs.length) := by
      have := HW.out
      show n = 6 ∨ n = rs.length
      rw [HRS.out, List.length_drop]
      omega
    rw [← HRS.out] at hseen
    clear hn HW
    go_wp2
    go_quiet (fail)
    go_wp2
    go_loop [4, 30] (fun a i => ∃ (k z : Nat), k ≤ n ∧ z < 128 ^ k ∧ i = .int .i64 k ∧ a = .int .i64 z ∧ VP.dec rs = VP.decGo k z (rs.drop k)) (fun _ i => n - (intOf i).toNat)
    case atStart => exact ⟨0, 0, by omega, by simp, rfl, rfl, rfl⟩
    case round =>
      obtain ⟨k, z, hk, hz, rfl, rfl, hd⟩ := hrel
      have HD := Lib.hid hd
      clear hd hsl
      by_cases hlt : k < n
      · obtain ⟨x, hdrop, hget⟩ := byte_here hlt hnr
        obtain ⟨b, off, rfl, hbB, hcell⟩ := hseen (by intro e; rw [e] at hget; simp at hget)
        have hcx := hcell k _ hget
        obtain ⟨y, hy⟩ : ∃ y, y = x.toNat := ⟨_, rfl⟩
        have hy255 : y < 256 := by rw [hy]; exact x.toNat_lt
        rw [← hy] at hcx
        have hmask := low_u8 (c := (y : Int)) (by omega) (by omega)
        obtain ⟨v, hv⟩ : ∃ v, v = z + y % 128 * 128 ^ k := ⟨_, rfl⟩
        have hor := or_shift (y := y) hz (by omega : k < 6)
        rw [← hv] at hor
        have HMORE : Hid (128 ≤ y → VP.dec rs = VP.decGo (k + 1) v (rs.drop (k + 1)) ∧ v < 128 ^ (k + 1)) := fun h => by
          refine ⟨?_, ?_⟩
          · rw [HD.out, hdrop, VP.decGo_more (by omega) (by omega), ← hy, ← hv]
          · have hle : y % 128 * 128 ^ k ≤ 127 * 128 ^ k := Nat.mul_le_mul_right _ (by omega)
            rw [hv, Nat.pow_succ]; omega
        have HBAD : Hid (y < 128 → (1099511627776 < v ∨ (y = 0 ∧ 0 < k)) → VP.dec rs = none) := fun h h' => by
          rw [HD.out, hdrop, VP.decGo_bad (by omega) (by omega) (by rw [← hy, ← hv]; exact h')]
        have HLAST : Hid (y < 128 → ¬ (1099511627776 < v ∨ (y = 0 ∧ 0 < k)) → VP.dec rs = some (v, k + 1)) := fun h h' => by
          rw [HD.out, hdrop, VP.decGo_last (by omega) (by omega) (by rw [← hy, ← hv]; exact h'), ← hy, ← hv]
        clear hcell hget hseen hdrop hz HD hy hv
        by_cases hmore : 128 ≤ y
        · have hbit := high_u8_on hmore hy255
          go_wp2
          go_round
          case rel =>
            (repeat apply Exists.intro)
            refine ⟨?_, rfl, rfl, rfl, rfl, rfl, rfl⟩
            exact ⟨k + 1, by omega, v, (HMORE.out hmore).2, by go_num, rfl, (HMORE.out hmore).1⟩
          case measure => simp [intOf]; omega
        · have hbit := high_u8_off (show y < 128 by omega)
          have hy128 : y < 128 := by omega
          by_cases hbig : 1099511627776 < v
          · have hbig' : (1099511627776 : Int) < (v : Int) := by omega
            go_wp2
            go_ret2
            exact NextPost.of_none (HBAD.out hy128 (Or.inl hbig))
          · have hbig' : (v : Int) ≤ (1099511627776 : Int) := by omega
            by_cases hpos : 1 ≤ y
            · go_wp2
              go_ret2
              exact NextPost.of_some (HLAST.out hy128 (by omega)) rfl (by omega)
            · by_cases hk0 : 1 ≤ k
              · go_wp2
                go_ret2
                exact NextPost.of_none (HBAD.out hy128 (Or.inr ⟨by omega, by omega⟩))
              · go_wp2
                go_ret2
                exact NextPost.of_some (HLAST.out hy128 (by omega)) rfl (by omega)
      · obtain rfl : k = n := by omega
        have HEND : Hid (VP.dec rs = none) := by
          show VP.dec rs = none
          rw [HD.out]
          rcases HN.out with h | h
          · exact VP.decGo_far (by omega) _ _
          · rw [List.drop_eq_nil_of_le (by omega)]; exact VP.decGo_nil _ _
        clear HD HN hz
        go_wp2
        go_ret2
        exact NextPost.of_none HEND.out

end Go.Proofs.Ytchpemgamgcbkaa
