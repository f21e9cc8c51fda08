/-
  An operation that came in by value, opened; a slice of numbers that came in, as a list. No conditions.
-/
import Derived.Test.YtbglpmjfajmkdaaDoorDskWr
namespace Go.Proofs.YtbglpmjfajmkdaaDoor
open Go.RowKit DP
section
variable {H : Type} {enc : TypeId × Value → H} {w : World} {base : Nat} {spare : Nat → Bool} {held : Bool} {fuel : Nat} {a : Option Addr} {len cap : Nat} {x : DataW H × List MemPlace}

set_option maxRecDepth 100000 in
theorem write_in {r : Reach} {b0 : Nat} {v : Value} {d : DataW H} {p : List MemPlace} (hv : Value.okWide Tryd.prog w r b0 27 v) (h : DataW.Trod enc Tryd.prog w base spare held 27 v d p) :
    ∃ (op : Int) (file b : ByteArray) (k : Int), v = .agg #[.int .i8 op, .string file, .string b, .int .i64 k] ∧ b.size ≤ 9223372036854775807 ∧ file.size ≤ 9223372036854775807 := by
  have hC : Tryd.prog.cellsOf 27 = 4 := by kernel_rfl
  have hml : maxLen ≤ 9223372036854775807 := by decide
  obtain ⟨v0, v1, v2, v3, y0, y1, y2, y3, n, rfl, _, _, h0, h1, h2, h3⟩ := Go.Joins.open_agg4 Tryd.underlying27 (by kernel_rfl) hC hv h
  obtain ⟨o, e0, _⟩ := DataW.trod_int Tryd.underlying25 h0
  obtain ⟨d, e1, _, hd⟩ := DataW.trod_string Tryd.underlying9 h1
  obtain ⟨p, e2, _, hp⟩ := DataW.trod_string Tryd.underlying9 h2
  obtain ⟨q, e3, _⟩ := DataW.trod_int Tryd.underlying3 h3
  simp only [List.cons.injEq, and_true] at e0 e1 e2 e3
  subst e0 e1 e2 e3
  exact ⟨o, d, p, q, rfl, Nat.le_trans hp hml, Nat.le_trans hd hml⟩

theorem spot1 {w : World} {ad : Addr} {v : Value} (h : w.cell? ((ad.add (0 * 1)).add 0) = some v) : ∃ b off, ad = ⟨b, off, none⟩ ∧ b < w.heap.size := by
  have he : (ad.add (0 * 1)).add 0 = ad := by simp [Addr.add]
  rw [he] at h
  obtain ⟨b, off, spot⟩ := ad
  have hs : spot = none := World.cell?_spot h
  subst hs
  exact ⟨b, off, rfl, World.block_lt_of_cell? w _ h⟩
set_option maxRecDepth 100000 in
theorem numbers_in (h : DataW.trod enc Tryd.prog w base spare held fuel 28 [.slice a len cap] = some x) :
    ∃ l : List Int, l.length = len ∧ Seen w w.heap.size a (l.map (Value.int .i64)) ∧ len ≤ maxLen ∧ ∀ y ∈ l, -9223372036854775808 ≤ y ∧ y ≤ 9223372036854775807 := by
  have hI : Tryd.prog.cellsOf 3 = 1 := by kernel_rfl
  rcases Deep.open_slice Tryd.underlying28 h with ⟨hcs, _⟩ | ⟨ad, l, c, m, n, D, Pl, hcs, _, hlc, hcm, hm, _, hi⟩
  · simp at hcs
    obtain ⟨rfl, rfl, rfl⟩ := hcs
    exact ⟨[], rfl, Seen.nil _ _ _, Nat.zero_le _, by simp⟩
  · simp at hcs
    obtain ⟨rfl, rfl, rfl⟩ := hcs
    have one : ∀ i, i < len → ∃ y : Int, ∃ b off, ad = ⟨b, off, none⟩ ∧ b < w.heap.size ∧ w.cell? ⟨b, off + i, none⟩ = some (.int .i64 y) ∧ -9223372036854775808 ≤ y ∧ y ≤ 9223372036854775807 := by
      intro i hil
      obtain ⟨cs', hc, ht⟩ := hi i (by rw [hm]; split <;> omega)
      rw [hI] at hc
      obtain ⟨_, hl, hat⟩ := World.cells?_some hc
      obtain ⟨c0, h0⟩ := in_some cs' 0 1 hl (by omega)
      obtain rfl : cs' = [c0] := by
        cases cs' with
        | nil => simp at hl
        | cons z r =>
          have : r = [] := List.eq_nil_of_length_eq_zero (by simpa using hl)
          subst this
          simpa using h0
      obtain ⟨q, e0, _, hw⟩ := DataW.trod_int Tryd.underlying3 ht
      simp only [List.cons.injEq, and_true] at e0
      subst e0
      have k0 := hat 0 (by omega)
      obtain ⟨cs0, hc0, _⟩ := hi 0 (by rw [hm]; split <;> omega)
      rw [hI] at hc0
      obtain ⟨_, hl0, hat0⟩ := World.cells?_some hc0
      obtain ⟨z, hz⟩ := in_some cs0 0 1 hl0 (by omega)
      obtain ⟨b, off, rfl, hb⟩ := spot1 ((hat0 0 (by omega)).trans hz)
      simp only [plain_add] at k0
      exact ⟨q, b, off, rfl, hb, by simpa using k0, bounds_i64 hw⟩
    obtain ⟨ns, hlen, hns⟩ := in_choose len one
    refine ⟨ns, hlen, fun hne => ?_, by omega, fun y hy => ?_⟩
    · obtain ⟨y, hy⟩ := in_some ns 0 ns.length rfl (by
        rcases ns with _ | ⟨y, r⟩
        · exact absurd rfl hne
        · simp)
      obtain ⟨b, off, rfl, hb, _⟩ := hns 0 y hy
      refine ⟨b, off, rfl, hb, fun j u hu => ?_⟩
      rw [List.getElem?_map] at hu
      cases hj : ns[j]? with
      | none => rw [hj] at hu; cases hu
      | some q =>
        rw [hj] at hu
        injection hu with hu
        obtain ⟨b', off', he, _, hk, _⟩ := hns j q hj
        injection he with h1 h2
        subst h1 h2
        exact hk.trans (congrArg some hu)
    · obtain ⟨k, hk⟩ := List.mem_iff_getElem?.1 hy
      obtain ⟨_, _, _, _, _, hh⟩ := hns k y hk
      exact hh
end
end Go.Proofs.YtbglpmjfajmkdaaDoor
