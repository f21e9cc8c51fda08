/-
  The contract of the document's Rows: what it returns and what it does to memory. Conditions: those that the theorem names.
-/
import Derived.Test.YtiilbcficgpohaaRecApp
import Derived.Test.YtiilbcficgpohaaRecRows
namespace Go.Proofs.Ytiilbcficgpohaa
open Go.RowKit

/-- What the document's Rows has built. -/
structure Grow (W1 wr : World) (g : Nat) (rows : List Rw) (k : Nat) (A : Option Addr) (c : Nat) : Prop where
  own : wr.ownsRow g 49 5 (.slice A k c) k (rwcells (rows.take k))
  below : Below g W1 wr
theorem Grow.next {W1 wr w' : World} {g k c : Nat} {rows : List Rw} {A : Option Addr} (h : Grow W1 wr g rows k A c) (hg : g ≤ W1.heap.size) (hb : Below wr.heap.size wr w') : Grow W1 w' g rows k A c :=
  ⟨own_next h.own hb, h.below.trans (hb.mono (Nat.le_trans hg h.below.size))⟩

theorem seen_row (W : World) (r : Rw) (T : TypeId) (x : Nat) (hx : W.heap.size = x) : Seen (W.alloc (.cells #[.int .i64 r.off, .int .i64 r.pid, .int .i64 r.sq, .string r.k, .string r.v] T)) (x + 1) (some ⟨x, 0, none⟩) (rwcell r) := by
  subst hx
  exact Seen.new W (rwcell r) T

set_option maxRecDepth 100000 in
set_option maxHeartbeats 1000000 in
theorem ref_rows_any (A : Option Addr) (n c B : Nat) (rs : List Rc) (pid ep sq off : Int) (tx : Bool) (w : World) (hn : rs.length = n) (hs : Seen w B A (rcells rs)) (hB : B ≤ w.heap.size) (hmax : n ≤ 60)
    (hsz : ∀ y ∈ rs, y.k.size ≤ 9223372036854775807 ∧ y.v.size ≤ 9223372036854775807) :
    Calls Try.prog 19 #[.agg #[.int .i64 pid, .int .i64 ep, .int .i64 sq, .bool tx, .slice A n c], .int .i64 off] w fun e w' => ∃ A' c', e = .returned (.slice A' n c') ∧ Seen w' w'.heap.size A' (rwcells (rowsOf ⟨pid, ep, sq, tx, rs⟩ off)) ∧ n ≤ c' ∧ Below w.heap.size w w' := by
  have HN := Lib.hid hn
  clear hn
  have hnew := Var.new w #[.int .i64 pid, .int .i64 ep, .int .i64 sq, .bool tx, .slice A n c] 24
  have hbel := below_new (w := w) (.cells #[.int .i64 pid, .int .i64 ep, .int .i64 sq, .bool tx, .slice A n c] 24)
  go_enter Try.func19, Try.ntmps19
  go_wp2
  obtain ⟨W1, hW1⟩ : ∃ W1, W1 = w.alloc (.cells #[.int .i64 pid, .int .i64 ep, .int .i64 sq, .bool tx, .slice A n c] 24) := ⟨_, rfl⟩
  have hz1 : W1.heap.size = w.heap.size + 1 := by rw [hW1]; simp
  rw [← hW1] at hnew hbel
  rw [← hW1]
  clear hW1
  have hB1 : B ≤ W1.heap.size := by omega
  have hs1 := hs.below (hbel.mono hB)
  clear hs
  have hgw : w.heap.size < W1.heap.size := by omega
  have hBg : B ≤ W1.heap.size := hB1
  clear hz1
  go_loopw [5, 6] (fun sv i wr => ∃ (k : Nat) (A1 : Option Addr) (c1 : Nat), k ≤ n ∧ i = .int .i64 k ∧ sv = .slice A1 k c1 ∧ Grow W1 wr W1.heap.size (rowsOf ⟨pid, ep, sq, tx, rs⟩ off) k A1 c1) (fun _ i _ => n - (intOf i).toNat)
  case atStart => exact ⟨0, none, 0, by omega, rfl, rfl, by simpa [rwcells] using World.ownsRow_nil _ _ _ _, Below.refl _ _⟩
  case round =>
    obtain ⟨k, A1, c1, hk, rfl, rfl, hgr⟩ := hrel
    obtain ⟨d0, d1, d2, d3, d4, f1⟩ := (hnew.below hgr.below hgw).cells5
    have l1 : w.heap.size < wr.heap.size := Nat.lt_of_lt_of_le hgw hgr.below.size
    clear d1 d3
    by_cases hlt : k < n
    · obtain ⟨r, hr⟩ := rec_here HN.out hlt
      obtain ⟨b1, o1, rfl, hb1, p0, p1⟩ := rec_at (hs1.below (hgr.below.mono hB1)) hr
      obtain ⟨z0, z1⟩ := hsz r (List.mem_of_getElem? hr)
      have hw1 : b1 < wr.heap.size := by have := hgr.below.size; omega
      have HR := Lib.hid hr
      obtain ⟨rk, rv⟩ := r
      simp only at p0 p1 z0 z1
      clear hr
      have HK : Hid ((rowsOf ⟨pid, ep, sq, tx, rs⟩ off)[k]? = some (rowOf ⟨pid, ep, sq, tx, rs⟩ off k ⟨rk, rv⟩)) := rowsOf_at HR.out
      go_wp2
      go_region
      obtain ⟨W6, hW6⟩ : ∃ W6, W6 = (wr.alloc (.cells #[.int .i64 (wrap64 (off + k)), .int .i64 pid, .int .i64 (wrap64 (sq + k)), .string rk, .string rv] 49)).drew := ⟨_, rfl⟩
      obtain ⟨x, hx⟩ : ∃ x, x = wr.heap.size := ⟨_, rfl⟩
      have v6 : Var W6 x 49 #[.int .i64 (wrap64 (off + k)), .int .i64 pid, .int .i64 (wrap64 (sq + k)), .string rk, .string rv] := by rw [hW6, hx]; exact Var.new _ _ _
      have g6 : Grow W1 W6 W1.heap.size (rowsOf ⟨pid, ep, sq, tx, rs⟩ off) k A1 c1 := by rw [hW6]; exact hgr.next (Nat.le_refl _) (below_new _).drew
      rw [← hW6, ← hx]
      have hlow : (Value.slice A1 k c1).ownBlock ≠ some x := fun he => by have := (hgr.own.lt x he).2; omega
      have hxg : W1.heap.size ≤ x := by have := hgr.below.size; omega
      clear hW6 hx hgr d0 d4 f1 p0 p1 hw1 l1
      by_cases ho : off = -1
      · subst ho
        have y0 : ((-1 : Int) == -1) = true := by decide
        have HO : Hid (rowOf ⟨pid, ep, sq, tx, rs⟩ (-1) k ⟨rk, rv⟩ = ⟨-1, pid, wrap64 (sq + k), rk, rv⟩) := by show _ = _; unfold rowOf; rw [if_pos rfl]
        have v7 := v6.set 0 (.int .i64 (-1))
        have g7 : Grow W1 (W6.setCell ⟨x, 0, none⟩ (.int .i64 (-1))) W1.heap.size (rowsOf ⟨pid, ep, sq, tx, rs⟩ (-1)) k A1 c1 := ⟨ownsRow_setCell_other g6.own hlow _, g6.below.setCell hxg _⟩
        obtain ⟨e0, e1, e2, e3, e4, f6⟩ := v6.cells5
        have hx6 := v6.lt
        have HN7 : Hid (Grow W1 _ W1.heap.size (rowsOf ⟨pid, ep, sq, tx, rs⟩ (-1)) k A1 c1) := g7.next (Nat.le_refl _) (below_new (.cells #[.int .i64 (-1), .int .i64 pid, .int .i64 (wrap64 (sq + k)), .string rk, .string rv] 49))
        go_wp2_with (at_builtin; refine wpList_append_one rfl (.tmp 40) (.tmp 42) rfl Try.underlying33 row_info0 rfl (by omega) (by omega) (base := W1.heap.size) (n := k) (c := 1) (B := W6.heap.size + 1) (v := .slice A1 k c1) (xs := rwcells ((rowsOf ⟨pid, ep, sq, tx, rs⟩ (-1)).take k)) (news := rwcell ⟨-1, pid, wrap64 (sq + k), rk, rv⟩) (A := some ⟨W6.heap.size, 0, none⟩) rfl rfl ?g1 rfl ?g2 ?g3 ?g4 ?g5 ?_)
        case g1 => exact HN7.out.own
        case g2 => exact fun u hu => rwcells_one [_] u (by simpa [rwcells] using hu)
        case g3 => exact seen_row _ ⟨-1, pid, wrap64 (sq + k), rk, rv⟩ _ _ (by simp)
        case g4 => have := HN7.out.below.size; simpa using this
        case g5 => omega
        intro A9 c9 W9 hown hb9
        have hfin : Hid (Grow W1 W9 W1.heap.size (rowsOf ⟨pid, ep, sq, tx, rs⟩ (-1)) (k + 1) A9 c9) := ⟨by
          rw [rowsOf_take HR.out, rwcells_append, HO.out]; simpa [rwcells] using hown, HN7.out.below.trans hb9⟩
        clear hown hb9 e0 e1 e2 e3 e4 f6 v7 g7
        go_wp2
        go_roundw
        case rel => exact ⟨k + 1, A9, c9, by omega, by go_num, rfl, hfin.out⟩
        case measure => simp [intOf]; omega
      · have y0 : (off == -1) = false := by rw [beq_eq_false_iff_ne]; exact ho
        have HO : Hid (rowOf ⟨pid, ep, sq, tx, rs⟩ off k ⟨rk, rv⟩ = ⟨wrap64 (off + k), pid, wrap64 (sq + k), rk, rv⟩) := by show _ = _; unfold rowOf; rw [if_neg ho]
        obtain ⟨e0, e1, e2, e3, e4, f6⟩ := v6.cells5
        have hx6 := v6.lt
        have HN7 : Hid (Grow W1 _ W1.heap.size (rowsOf ⟨pid, ep, sq, tx, rs⟩ off) k A1 c1) := g6.next (Nat.le_refl _) (below_new (.cells #[.int .i64 (wrap64 (off + k)), .int .i64 pid, .int .i64 (wrap64 (sq + k)), .string rk, .string rv] 49))
        go_wp2_with (at_builtin; refine wpList_append_one rfl (.tmp 40) (.tmp 42) rfl Try.underlying33 row_info0 rfl (by omega) (by omega) (base := W1.heap.size) (n := k) (c := 1) (B := W6.heap.size + 1) (v := .slice A1 k c1) (xs := rwcells ((rowsOf ⟨pid, ep, sq, tx, rs⟩ off).take k)) (news := rwcell ⟨wrap64 (off + k), pid, wrap64 (sq + k), rk, rv⟩) (A := some ⟨W6.heap.size, 0, none⟩) rfl rfl ?g1 rfl ?g2 ?g3 ?g4 ?g5 ?_)
        case g1 => exact HN7.out.own
        case g2 => exact fun u hu => rwcells_one [_] u (by simpa [rwcells] using hu)
        case g3 => exact seen_row _ ⟨wrap64 (off + k), pid, wrap64 (sq + k), rk, rv⟩ _ _ rfl
        case g4 => have := HN7.out.below.size; simpa using this
        case g5 => omega
        intro A9 c9 W9 hown hb9
        have hfin : Hid (Grow W1 W9 W1.heap.size (rowsOf ⟨pid, ep, sq, tx, rs⟩ off) (k + 1) A9 c9) := ⟨by
          rw [rowsOf_take HR.out, rwcells_append, HO.out]; simpa [rwcells] using hown, HN7.out.below.trans hb9⟩
        clear hown hb9 e0 e1 e2 e3 e4 f6
        go_wp2
        go_roundw
        case rel => exact ⟨k + 1, A9, c9, by omega, by go_num, rfl, hfin.out⟩
        case measure => simp [intOf]; omega
    · have hkn : k = n := by omega
      subst hkn
      go_wp2
      go_ret
      obtain ⟨A2, c2, he, hs2, hc2⟩ := own_formN hgr.own
      injection he with he1 he2 he3
      subst he1 he3
      rw [List.take_of_length_le (by rw [rowsOf_length]; simp only; rw [HN.out]; exact Nat.le_refl _)] at hs2
      exact ⟨_, _, rfl, hs2, hc2, hbel.trans (hgr.below.mono (by omega))⟩
end Go.Proofs.Ytiilbcficgpohaa
