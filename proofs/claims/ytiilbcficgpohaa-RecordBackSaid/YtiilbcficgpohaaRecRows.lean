/-
  The contract of record's Rows: what it returns and what it does to memory. Conditions: those that the theorem names.
-/
import Derived.Test.YtiilbcficgpohaaRecMay
namespace Go.Proofs.Ytiilbcficgpohaa
open Go.RowKit

theorem row_info0 : (Try.prog.info? 49).map (fun i => (i.zero, i.size, i.bytes)) = some (some (.agg #[.int .i64 0, .int .i64 0, .int .i64 0, .string { data := #[] }, .string { data := #[] }]), 5, 56) := by kernel_rfl
theorem row_make (n : Nat) (hn : n ≤ 1000) (W : World) : (Instr.makeSlice 33 (.int .i64 (n : Int)) (.int .i64 (n : Int))).run Try.prog W =
    .ok (.slice (some ⟨W.heap.size, 0, none⟩) n n) (W.alloc (.cells (madeCells #[.int .i64 0, .int .i64 0, .int .i64 0, .string { data := #[] }, .string { data := #[] }] (n * 5)) 49)) := by
  obtain ⟨i, hi, hzz⟩ := Option.map_eq_some_iff.1 row_info0
  simp only [Prod.mk.injEq] at hzz
  obtain ⟨hz, hs, hb⟩ := hzz
  have hr := run_make (P := Try.prog) W 33 49 i _ Try.underlying33 hi hz .i64 .i64 n n (by omega) (Int.le_refl _) (by rw [hb]; omega) (by omega)
  simp only [Int.toNat_natCast, hs] at hr
  exact hr

/-- The new rows, so far: the block of them, and what it holds. -/
structure Fill (W2 wr : World) (g n : Nat) (rows : List Rw) (k : Nat) (cs : Array Value) : Prop where
  var : Var wr g 49 cs
  size : cs.size = n * 5
  done : ∀ i, i < k * 5 → cs[i]? = (rwcells rows)[i]?
  below : Below g W2 wr

theorem Fill.cell {W2 wr : World} {g n k j : Nat} {rows : List Rw} {cs : Array Value} (h : Fill W2 wr g n rows k cs) (hj : j < n * 5) : ∃ u, wr.cell? ⟨g, j, none⟩ = some u :=
  ⟨_, h.var.cell j (Array.getElem?_eq_getElem (by rw [h.size]; exact hj))⟩

theorem five_done {cs cs' : Array Value} {rows : List Rw} {k : Nat} {r : Rw} (hd : ∀ i, i < k * 5 → cs[i]? = (rwcells rows)[i]?) (hr : rows[k]? = some r) (h0 : cs'[k * 5]? = some (.int .i64 r.off)) (h1 : cs'[k * 5 + 1]? = some (.int .i64 r.pid)) (h2 : cs'[k * 5 + 2]? = some (.int .i64 r.sq))
    (h3 : cs'[k * 5 + 3]? = some (.string r.k)) (h4 : cs'[k * 5 + 4]? = some (.string r.v)) (hrest : ∀ i, i < k * 5 → cs'[i]? = cs[i]?) : ∀ i, i < (k + 1) * 5 → cs'[i]? = (rwcells rows)[i]? := by
  intro i hi
  have ha : ∀ j, j < 5 → (rwcells rows)[k * 5 + j]? = (rwcell r)[j]? := fun j hj => flat_at rwcell 5 (fun _ => rfl) hr j hj
  by_cases hlt : i < k * 5
  · rw [hrest i hlt, hd i hlt]
  · obtain rfl | rfl | rfl | rfl | rfl : i = k * 5 ∨ i = k * 5 + 1 ∨ i = k * 5 + 2 ∨ i = k * 5 + 3 ∨ i = k * 5 + 4 := by omega
    · rw [h0, ← Nat.add_zero (k * 5), ha 0 (by omega)]; rfl
    · rw [h1, ha 1 (by omega)]; rfl
    · rw [h2, ha 2 (by omega)]; rfl
    · rw [h3, ha 3 (by omega)]; rfl
    · rw [h4, ha 4 (by omega)]; rfl
theorem set_below {W2 wr : World} {g : Nat} (h : Below g W2 wr) {b : Nat} (j : Nat) (u : Value) (hb : g ≤ b) : Below g W2 (wr.setCell ⟨b, j, none⟩ u) := h.setCell hb u
/-- One row more. -/
theorem Fill.step {W2 wr : World} {g n k : Nat} {rows : List Rw} {cs : Array Value} (h : Fill W2 wr g n rows k cs) (hk : k < n) {r : Rw} (hr : rows[k]? = some r) (hg : g = W2.heap.size) (o : Obj) :
    ∃ cs', Fill W2 ((((((wr.setCell ⟨g, k * 5, none⟩ (.int .i64 r.off)).setCell ⟨g, k * 5 + 1, none⟩ (.int .i64 r.pid)).setCell ⟨g, k * 5 + 2, none⟩ (.int .i64 r.sq)).setCell ⟨g, k * 5 + 3, none⟩ (.string r.k)).setCell ⟨g, k * 5 + 4, none⟩ (.string r.v)).alloc o) g n rows (k + 1) cs' := by
  refine ⟨_, (((((h.var.set _ _).set _ _).set _ _).set _ _).set _ _).alloc _, by simp [h.size], ?_, ?_⟩
  · have hz := h.size
    refine five_done h.done hr ?_ ?_ ?_ ?_ ?_ ?_
    · simp only [Array.getElem?_setIfInBounds, Array.size_setIfInBounds]; simp; omega
    · simp only [Array.getElem?_setIfInBounds, Array.size_setIfInBounds]; simp; omega
    · simp only [Array.getElem?_setIfInBounds, Array.size_setIfInBounds]; simp; omega
    · simp only [Array.getElem?_setIfInBounds, Array.size_setIfInBounds]; simp; omega
    · simp only [Array.getElem?_setIfInBounds, Array.size_setIfInBounds]; simp; omega
    · intro i hi
      simp only [Array.getElem?_setIfInBounds, Array.size_setIfInBounds]
      rw [if_neg (by omega), if_neg (by omega), if_neg (by omega), if_neg (by omega), if_neg (by omega)]
  · exact (set_below (set_below (set_below (set_below (set_below h.below _ _ (Nat.le_refl _)) _ _ (Nat.le_refl _)) _ _ (Nat.le_refl _)) _ _ (Nat.le_refl _)) _ _ (Nat.le_refl _)).alloc (by have := h.below.size; simp; omega) _
theorem Fill.step2 {W2 wr : World} {g n k : Nat} {rows : List Rw} {cs : Array Value} (h : Fill W2 wr g n rows k cs) (hk : k < n) {r : Rw} (hr : rows[k]? = some r) (hg : g = W2.heap.size) (o : Obj) (x : Value) :
    ∃ cs', Fill W2 (((((((wr.setCell ⟨g, k * 5, none⟩ x).setCell ⟨g, k * 5 + 1, none⟩ (.int .i64 r.pid)).setCell ⟨g, k * 5 + 2, none⟩ (.int .i64 r.sq)).setCell ⟨g, k * 5 + 3, none⟩ (.string r.k)).setCell ⟨g, k * 5 + 4, none⟩ (.string r.v)).setCell ⟨g, k * 5, none⟩ (.int .i64 r.off)).alloc o) g n rows (k + 1) cs' := by
  refine ⟨_, ((((((h.var.set _ _).set _ _).set _ _).set _ _).set _ _).set _ _).alloc _, by simp [h.size], ?_, ?_⟩
  · have hz := h.size
    refine five_done h.done hr ?_ ?_ ?_ ?_ ?_ ?_
    · simp only [Array.getElem?_setIfInBounds, Array.size_setIfInBounds]; simp; omega
    · simp only [Array.getElem?_setIfInBounds, Array.size_setIfInBounds]; simp; omega
    · simp only [Array.getElem?_setIfInBounds, Array.size_setIfInBounds]; simp; omega
    · simp only [Array.getElem?_setIfInBounds, Array.size_setIfInBounds]; simp; omega
    · simp only [Array.getElem?_setIfInBounds, Array.size_setIfInBounds]; simp; omega
    · intro i hi
      simp only [Array.getElem?_setIfInBounds, Array.size_setIfInBounds]
      rw [if_neg (by omega), if_neg (by omega), if_neg (by omega), if_neg (by omega), if_neg (by omega), if_neg (by omega)]
  · exact (set_below (set_below (set_below (set_below (set_below (set_below h.below _ _ (Nat.le_refl _)) _ _ (Nat.le_refl _)) _ _ (Nat.le_refl _)) _ _ (Nat.le_refl _)) _ _ (Nat.le_refl _)) _ _ (Nat.le_refl _)).alloc (by have := h.below.size; simp; omega) _

set_option maxRecDepth 100000 in
set_option maxHeartbeats 1000000 in
theorem rows_any (A : Option Addr) (n c B : Nat) (rs : List Rc) (pid ep sq off : Int) (tx : Bool) (w : World) (hn : rs.length = n) (hs : Seen w B A (rcells rs)) (hB : B ≤ w.heap.size) (hmax : n ≤ 60)
    (hsz : ∀ y ∈ rs, y.k.size ≤ 9223372036854775807 ∧ y.v.size ≤ 9223372036854775807) :
    Calls Try.prog 18 #[.agg #[.int .i64 pid, .int .i64 ep, .int .i64 sq, .bool tx, .slice A n c], .int .i64 off] w fun e w' => ∃ A' c', e = .returned (.slice A' n c') ∧ Seen w' w'.heap.size A' (rwcells (rowsOf ⟨pid, ep, sq, tx, rs⟩ off)) ∧ n ≤ c' ∧ Below w.heap.size w w' := by
  have HN := Lib.hid hn
  clear hn
  have hmk := row_make n (by omega)
  have hnew := Var.new w #[.int .i64 pid, .int .i64 ep, .int .i64 sq, .bool tx, .slice A n c] 24
  have hbel := below_new (w := w) (.cells #[.int .i64 pid, .int .i64 ep, .int .i64 sq, .bool tx, .slice A n c] 24)
  go_enter Try.func18, Try.ntmps18
  go_wp2
  obtain ⟨W1, hW1⟩ : ∃ W1, W1 = w.alloc (.cells #[.int .i64 pid, .int .i64 ep, .int .i64 sq, .bool tx, .slice A n c] 24) := ⟨_, rfl⟩
  have hz1 : W1.heap.size = w.heap.size + 1 := by rw [hW1]; simp
  rw [← hW1] at hnew hbel
  rw [← hW1]
  clear hmk hW1
  have hB1 : B ≤ W1.heap.size := by omega
  have hs1 := hs.below (hbel.mono hB)
  clear hs
  obtain ⟨g, hg⟩ : ∃ g, g = w.heap.size + 1 := ⟨_, rfl⟩
  have hgw : w.heap.size < g := by omega
  have hg1 : g = W1.heap.size := by omega
  rw [← hg]
  have HG := Lib.hid hg1
  clear hg hg1 hz1
  go_loopw [15] (fun i wr => ∃ (k : Nat) (cs : Array Value), k ≤ n ∧ i = .int .i64 k ∧ Fill W1 wr g n (rowsOf ⟨pid, ep, sq, tx, rs⟩ off) k cs) (fun i _ => n - (intOf i).toNat)
  case atStart => exact ⟨0, _, by omega, rfl, by rw [HG.out]; exact Var.new _ _ _, size_madeCells _ _, by intro i hi; omega, by rw [HG.out]; exact below_new _⟩
  case round =>
    obtain ⟨k, cs, hk, rfl, hfl⟩ := hrel
    obtain ⟨d0, d1, d2, d3, d4, f1⟩ := (hnew.below hfl.below hgw).cells5
    have l1 : w.heap.size < wr.heap.size := Nat.lt_trans hgw hfl.var.lt
    have l2 : g < wr.heap.size := hfl.var.lt
    clear d1 d3
    by_cases hlt : k < n
    · obtain ⟨r, hr⟩ := rec_here HN.out hlt
      obtain ⟨b1, o1, rfl, hb1, p0, p1⟩ := rec_at (hs1.below (hfl.below.mono (by have := HG.out; omega))) hr
      obtain ⟨z0, z1⟩ := hsz r (List.mem_of_getElem? hr)
      have hw1 : b1 < wr.heap.size := by omega
      have HR := Lib.hid hr
      obtain ⟨rk, rv⟩ := r
      simp only at p0 p1 z0 z1
      have hfree := hfl.var.free
      obtain ⟨c0, q0⟩ := hfl.cell (j := k * 5) (by omega)
      obtain ⟨c1, q1⟩ := hfl.cell (j := k * 5 + 1) (by omega)
      obtain ⟨c2, q2⟩ := hfl.cell (j := k * 5 + 2) (by omega)
      obtain ⟨c3, q3⟩ := hfl.cell (j := k * 5 + 3) (by omega)
      obtain ⟨c4, q4⟩ := hfl.cell (j := k * 5 + 4) (by omega)
      clear hr
      have HK : Hid ((rowsOf ⟨pid, ep, sq, tx, rs⟩ off)[k]? = some (rowOf ⟨pid, ep, sq, tx, rs⟩ off k ⟨rk, rv⟩)) := rowsOf_at HR.out
      by_cases ho : off = -1
      · subst ho
        have y0 : ((-1 : Int) != -1) = false := by decide
        go_wp2
        go_roundw
        case rel =>
          obtain ⟨cs', h'⟩ := hfl.step hlt HK.out HG.out (.cells #[.string rk, .string rv] 51)
          exact ⟨k + 1, cs', by omega, by go_num, h'⟩
        case measure => simp [intOf]; omega
      · have y0 : (off != -1) = true := by rw [bne_iff_ne]; exact ho
        have HO : Hid (rowOf ⟨pid, ep, sq, tx, rs⟩ off k ⟨rk, rv⟩ = ⟨wrap64 (off + k), pid, wrap64 (sq + k), rk, rv⟩) := by show _ = _; unfold rowOf; rw [if_neg ho]
        go_wp2
        go_roundw
        case rel =>
          have HK2 := HK.out
          rw [HO.out] at HK2
          obtain ⟨cs', h'⟩ := hfl.step2 hlt HK2 HG.out (.cells #[.string rk, .string rv] 51) (.int .i64 off)
          exact ⟨k + 1, cs', by omega, by go_num, h'⟩
        case measure => simp [intOf]; omega
    · have hkn : k = n := by omega
      have HL : Hid ((rwcells (rowsOf ⟨pid, ep, sq, tx, rs⟩ off)).length = n * 5) := by show _ = _; rw [rwcells_length, rowsOf_length]; simp only; rw [HN.out]
      go_wp2
      go_ret
      refine ⟨_, _, rfl, fun _ => ⟨g, 0, rfl, hfl.var.lt, fun j u hu => ?_⟩, Nat.le_refl _, hbel.trans (hfl.below.mono (by have := HG.out; have := hbel.size; omega))⟩
      have hj := (List.getElem?_eq_some_iff.1 hu).1
      rw [HL.out] at hj
      rw [Nat.zero_add]
      exact hfl.var.cell j ((hfl.done j (by omega)).trans hu)
end Go.Proofs.Ytiilbcficgpohaa
