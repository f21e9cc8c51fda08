/-
  The pass that reads, in memory. Conditions: at most 1000000 bytes.
-/
import Derived.Test.YtplpagnnlggfgaaDoorRepHeld
namespace Go.Proofs.YtplpagnnlggfgaaDoor
open Go.RowKit

def rdRep (g : Nat) (s : ByteArray) (w : World) (x : Nat × Bool) : Prop := Rd 92 w g s x.1 x.2 ∧ x.1 ≤ s.size
theorem rdRep.kq {g : Nat} {s : ByteArray} {w w' : World} {x : Nat × Bool} (h : rdRep g s w x) (hk : Kq g w w') : rdRep g s w' x := ⟨(hk.block g (Var.lt h.1) (.inl rfl)).trans h.1, h.2⟩
set_option maxRecDepth 100000 in
set_option maxHeartbeats 1000000 in
theorem rd_number (g : Nat) (s : ByteArray) (x : Nat × Bool) (n : Int) (w : World) (h : rdRep g s w x) (hx : s.size ≤ 1000000) :
    Calls Tryd.prog 88 #[.agg #[.pointer (some ⟨g, 0, none⟩)], .int .i64 n] w fun e w' => e = .returned (.tuple #[.int .i64 (rnum s x).1, .bool (rnum s x).2.1]) ∧ rdRep g s w' (rnum s x).2.2 ∧ Tn [g] w w' := by
  obtain ⟨hn, hok⟩ := rnum_is s x
  rw [hok]
  obtain ⟨y, p', bad', hy⟩ : ∃ y p' bad', (rnum s x).1 = y ∧ (rnum s x).2.2.1 = p' ∧ (rnum s x).2.2.2 = bad' := ⟨_, _, _, rfl, rfl, rfl⟩
  obtain ⟨h1, h2, h3⟩ := hy
  rw [h1, h2, h3] at hn
  have h22 : (rnum s x).2.2 = (p', bad') := Prod.ext h2 h3
  rw [h1, h3, h22]
  clear h1 h2 h3 hok h22
  obtain ⟨p, bad⟩ := x
  obtain ⟨hr, hp⟩ := h
  simp only at hr hp hn
  have hp' := hn.le hp
  have HN := Lib.hid hn
  obtain ⟨W0, hW0⟩ : ∃ W0, W0 = w.alloc (.cells #[.pointer (some ⟨g, 0, none⟩)] 63) := ⟨_, rfl⟩
  have v0 : Var W0 w.heap.size 63 #[.pointer (some ⟨g, 0, none⟩)] := by rw [hW0]; exact Var.new _ _ _
  have b0 : Below w.heap.size w W0 := by rw [hW0]; exact below_new _
  have r0 : Rd 92 W0 g s p bad := Var.below hr b0 (Var.lt hr)
  have hg := Var.lt hr
  have c0 := v0.cell 0 rfl
  have z0 := v0.lt
  have HW0 := Lib.hid hW0
  clear hW0 hn hr
  go_enter Tryd.func88, Tryd.ntmps88
  go_upto_region 1 with fail
  rw [← HW0.out]
  go_wp2_with fail
  refine (number_all g s p bad 0 1099511627776 y p' bad' W0 HN.out r0 hx hp).mono ?_
  rintro e w1 ⟨rfl, r1, k1⟩
  have v1 := v0.kept k1 (by simp; omega)
  have c1 := v1.cell 0 rfl
  have z1 := v1.lt
  obtain ⟨d0, d1, d2⟩ := Rd.cells r1
  have hz := Var.lt r1
  have t1 : Tn [g] w w1 := (Tn.of_below b0).trans (Tn.of_kept k1)
  clear c0 z0 v0 v1 r0 HN
  go_wp2
  go_quiet (fail)
  go_wp2
  go_ret2
  exact ⟨rfl, ⟨r1, hp'⟩, t1.drewN _⟩
set_option maxRecDepth 100000 in
set_option maxHeartbeats 1000000 in
theorem rd_text (g : Nat) (s : ByteArray) (x : Nat × Bool) (t : ByteArray) (w : World) (h : rdRep g s w x) (hx : s.size ≤ 1000000) :
    Calls Tryd.prog 89 #[.agg #[.pointer (some ⟨g, 0, none⟩)], .string t] w fun e w' => e = .returned (.tuple #[.string (rtxt s x).1, .bool (rtxt s x).2.1]) ∧ rdRep g s w' (rtxt s x).2.2 ∧ Tn [g] w w' := by
  obtain ⟨hn, hok⟩ := rtxt_is s x
  rw [hok]
  obtain ⟨y, p', bad', hy⟩ : ∃ y p' bad', (rtxt s x).1 = y ∧ (rtxt s x).2.2.1 = p' ∧ (rtxt s x).2.2.2 = bad' := ⟨_, _, _, rfl, rfl, rfl⟩
  obtain ⟨h1, h2, h3⟩ := hy
  rw [h1, h2, h3] at hn
  have h22 : (rtxt s x).2.2 = (p', bad') := Prod.ext h2 h3
  rw [h1, h3, h22]
  clear h1 h2 h3 hok h22
  obtain ⟨p, bad⟩ := x
  obtain ⟨hr, hp⟩ := h
  simp only at hr hp hn
  have hp' := hn.le hp
  have HN := Lib.hid hn
  obtain ⟨W0, hW0⟩ : ∃ W0, W0 = w.alloc (.cells #[.pointer (some ⟨g, 0, none⟩)] 63) := ⟨_, rfl⟩
  have v0 : Var W0 w.heap.size 63 #[.pointer (some ⟨g, 0, none⟩)] := by rw [hW0]; exact Var.new _ _ _
  have b0 : Below w.heap.size w W0 := by rw [hW0]; exact below_new _
  have r0 : Rd 92 W0 g s p bad := Var.below hr b0 (Var.lt hr)
  have hg := Var.lt hr
  have c0 := v0.cell 0 rfl
  have z0 := v0.lt
  have HW0 := Lib.hid hW0
  clear hW0 hn hr
  go_enter Tryd.func89, Tryd.ntmps89
  go_upto_region 1 with fail
  rw [← HW0.out]
  go_wp2_with fail
  refine (text_all g s p bad 1024 y p' bad' W0 HN.out r0 hx hp).mono ?_
  rintro e w1 ⟨rfl, r1, k1⟩
  have v1 := v0.kept k1 (by simp; omega)
  have c1 := v1.cell 0 rfl
  have z1 := v1.lt
  obtain ⟨d0, d1, d2⟩ := Rd.cells r1
  have hz := Var.lt r1
  have t1 : Tn [g] w w1 := (Tn.of_below b0).trans (Tn.of_kept k1)
  clear c0 z0 v0 v1 r0 HN
  go_wp2
  go_quiet (fail)
  go_wp2
  go_ret2
  exact ⟨rfl, ⟨r1, hp'⟩, t1.drewN _⟩
theorem rnum_le (s : ByteArray) (x : Nat × Bool) : -9223372036854775808 ≤ (rnum s x).1 ∧ (rnum s x).1 ≤ 9223372036854775807 := by
  obtain ⟨hn, _⟩ := rnum_is s x
  rcases hn with ⟨_, n, k, _, _, h2, h3, _⟩ | ⟨_, h, _⟩
  · rw [h3]; omega
  · rw [h]; omega
theorem rtxt_le (s : ByteArray) (x : Nat × Bool) (_ : s.size ≤ 1000000) : (rtxt s x).1.size ≤ 9223372036854775807 := by
  obtain ⟨hn, _⟩ := rtxt_is s x
  rcases hn with ⟨_, n, k, _, h1, h2, h3, _⟩ | ⟨_, h, _⟩
  · rw [h3, extract_size _ _ _ (by omega) h2]
    omega
  · rw [h]; simp [ByteArray.size]
/-- The pass that reads. -/
def rdIn (g : Nat) (s : ByteArray) (hx : s.size ≤ 1000000) : PIn (prd s) where
  g := g
  T := 63
  v := .agg #[.pointer (some ⟨g, 0, none⟩)]
  nf := 88
  tf := 89
  rep := rdRep g s
  lt h := Var.lt h.1
  kq h k := h.kq k
  mnum w := by kernel_rfl
  mtxt w := by kernel_rfl
  enum args := enters _ Tryd.func88 (by kernel_rfl) rfl args
  etxt args := enters _ Tryd.func89 (by kernel_rfl) rfl args
  num x n w h _ _ _ := rd_number g s x n w h hx
  txt x t w h _ _ := rd_text g s x t w h hx
  num64 x _ _ _ := rnum_le s x
  txt64 x _ _ := rtxt_le s x hx
end Go.Proofs.YtplpagnnlggfgaaDoor
