/-
  Contracts of the methods by which entry's writer writes the fields of each kind. Conditions: those that each theorem names.
-/
import Derived.Test.YtchpemgamgcbkaaGreatEntWr
namespace Go.Proofs.YtchpemgamgcbkaaGreat
open Go.RowKit

/-- What a kind's method keeps: what lies below the writer, and variables other than it. -/
def WK (g : Nat) (w w' : World) : Prop := Below g w w' ∧ ∀ g' T' cs, Var w g' T' cs → g' ≠ g → T' ≠ 5 → Var w' g' T' cs
theorem WK.trans {g : Nat} {a b c : World} (h : WK g a b) (k : WK g b c) : WK g a c := ⟨h.1.trans k.1, fun g' T' cs hv h1 h2 => k.2 g' T' cs (h.2 g' T' cs hv h1 h2) h1 h2⟩
theorem WK.of_kept {g : Nat} {a b : World} (h : Kept [g] a b) (hg : g ≤ a.heap.size) : WK g a b := ⟨h.below hg (by simp), fun _ _ _ hv h1 _ => hv.kept h (by simpa using h1)⟩
theorem WK.of_below {g : Nat} {a b : World} (h : Below a.heap.size a b) (hg : g ≤ a.heap.size) : WK g a b := ⟨h.mono hg, fun _ _ _ hv _ _ => hv.below h hv.lt⟩
def WRes2 (w : World) (g : Nat) (ys : List UInt8) (e : Ending) (w' : World) : Prop := e = .returned (.tuple #[]) ∧ Wt w' g ys ∧ WK g w w'
theorem encN_le : ∀ (l : List Nat), (∀ x ∈ l, x ≤ 1099511627776) → (encN l).length ≤ 6 * l.length
  | [], _ => by simp [encN]
  | x :: l, h => by
    have h1 := VP.enc_six (h x (by simp))
    have h2 := encN_le l fun y hy => h y (by simp [hy])
    simp only [encN, List.flatMap_cons, List.length_append, List.length_cons] at h2 ⊢
    omega
theorem numbers_new (W0 : World) (g : Nat) (ys : List UInt8) (l : List Nat) (n : Nat) (hw : Wt W0 g ys) (hn : l.length = n) (hl : ∀ x ∈ l, x ≤ 1099511627776) (h4 : n ≤ 4) (hy : ys.length ≤ 900) :
    Calls Tryz.prog 27 #[.pointer (some ⟨g, 0, none⟩), .slice (some ⟨W0.heap.size, 0, none⟩) n n] (W0.alloc (.cells (icells l).toArray 3)) (WRes W0 g (ys ++ encN l)) := by
  have hb := below_new (w := W0) (.cells (icells l).toArray 3)
  refine (numbers_any g ys _ n n (W0.heap.size + 1) l _ (hw.below hb) hn (fun _ => ⟨W0.heap.size, 0, rfl, Nat.lt_succ_self _, fun j u hu => ?_⟩) (by rw [World.size_alloc]; exact Nat.le_refl _) (fun b off h => by injection h with h; injection h with h1 _ _; have := hw.lt; omega) hl h4 hy).mono ?_
  · rw [Nat.zero_add]
    exact (Var.new W0 (icells l).toArray 3).cell j (by simpa using hu)
  · rintro e w' ⟨h1, h2, h3⟩
    exact ⟨h1, h2, (Kept.of_below hb).trans h3⟩
theorem texts_new (W0 : World) (g : Nat) (ys : List UInt8) (l : List ByteArray) (n : Nat) (hw : Wt W0 g ys) (hn : l.length = n) (hl : ∀ x ∈ l, x.size ≤ 16) (h4 : n ≤ 4) (hy : ys.length ≤ 900) :
    Calls Tryz.prog 90 #[.pointer (some ⟨g, 0, none⟩), .slice (some ⟨W0.heap.size, 0, none⟩) n n] (W0.alloc (.cells (tcells l).toArray 9)) (WRes W0 g (ys ++ encT l)) := by
  have hb := below_new (w := W0) (.cells (tcells l).toArray 9)
  refine (texts_any g ys _ n n (W0.heap.size + 1) l _ (hw.below hb) hn (fun _ => ⟨W0.heap.size, 0, rfl, Nat.lt_succ_self _, fun j u hu => ?_⟩) (by rw [World.size_alloc]; exact Nat.le_refl _) (fun b off h => by injection h with h; injection h with h1 _ _; have := hw.lt; omega) hl h4 hy).mono ?_
  · rw [Nat.zero_add]
    exact (Var.new W0 (tcells l).toArray 9).cell j (by simpa using hu)
  · rintro e w' ⟨h1, h2, h3⟩
    exact ⟨h1, h2, (Kept.of_below hb).trans h3⟩

set_option maxRecDepth 100000 in
set_option maxHeartbeats 1000000 in
theorem wmark (g : Nat) (ys : List UInt8) (pid ep : Int) (yes : Bool) (A D : Option Addr) (n c m d : Nat) (w : World) (hw : Wt w g ys) (hy : ys.length ≤ 20) (h : Named pid ep) :
    Calls Tryz.prog 60 #[.pointer (some ⟨g, 0, none⟩), .agg (evals (markE pid ep yes) A n c D m d)] w (WRes2 w g (ys ++ (markE pid ep yes).body)) := by
  obtain ⟨⟨h1, h2⟩, h3, h4⟩ := h
  obtain ⟨a, rfl⟩ : ∃ a : Nat, pid = a := ⟨pid.toNat, by omega⟩
  obtain ⟨b, rfl⟩ : ∃ b : Nat, ep = b := ⟨ep.toNat, by omega⟩
  have hl : ∀ x ∈ [a, b], x ≤ 1099511627776 := by simp; omega
  have hle := encN_le [a, b] hl
  simp only [List.length_cons, List.length_nil] at hle
  have HB : Hid (ys ++ encN [a, b] ++ [flagByte yes] = ys ++ (markE a b yes).body) := by show _ = _; simp [En.body, markE, encN]
  simp only [evals, markE, noRw, noPd]
  obtain ⟨W0, hW0⟩ : ∃ W0, W0 = w.alloc (.cells #[.int .i8 1, .int .i64 (a : Int), .int .i64 (b : Int), .int .i64 0, .bool false, .slice A n c, .bool yes, .int .i64 0, .int .i64 0, .int .i64 0, .int .i64 0, .int .i64 0, .string ⟨#[]⟩, .string ⟨#[]⟩, .int .i64 0, .int .i64 0, .int .i64 0, .slice D m d] 32) := ⟨_, rfl⟩
  have v0 : Var W0 w.heap.size 32 #[.int .i8 1, .int .i64 (a : Int), .int .i64 (b : Int), .int .i64 0, .bool false, .slice A n c, .bool yes, .int .i64 0, .int .i64 0, .int .i64 0, .int .i64 0, .int .i64 0, .string ⟨#[]⟩, .string ⟨#[]⟩, .int .i64 0, .int .i64 0, .int .i64 0, .slice D m d] := by rw [hW0]; exact Var.new _ _ _
  have b0 : Below w.heap.size w W0 := by rw [hW0]; exact below_new _
  have hgw := hw.lt
  have hw0 := hw.below b0
  have k0 := WK.of_below b0 (Nat.le_of_lt hgw)
  have HW0 := Lib.hid hW0
  clear hW0 hw
  go_enter Tryz.func60, Tryz.ntmps60
  go_upto_region 1 with fail
  rw [← HW0.out]
  have d0_1 := v0.cell 1 rfl
  have d0_2 := v0.cell 2 rfl
  have z0 := v0.lt
  go_wp2_with fail
  refine (numbers_new W0 g ys [a, b] 2 hw0 rfl hl (by omega) (by omega)).mono ?_
  rintro e W1 ⟨rfl, hw1, q1⟩
  have r1 := WK.of_kept q1 (by have := v0.lt; omega)
  have v1 := r1.2 _ _ _ v0 (by omega) (by decide)
  have k1 := k0.trans r1
  clear d0_1 d0_2 z0 v0 r1 q1 hw0
  have d1_6 := v1.cell 6 rfl
  have z1 := v1.lt
  go_wp2_with fail
  refine (wflag_any g _ yes W1 hw1 (by rw [List.length_append]; omega)).mono ?_
  rintro e W2 ⟨rfl, hw2, q2⟩
  have r2 := WK.of_kept q2 (by have := v1.lt; omega)
  have v2 := r2.2 _ _ _ v1 (by omega) (by decide)
  have k2 := k1.trans r2
  clear d1_6 z1 v1 r2 q2 hw1
  go_wp2
  refine bodyPost_end (results_none rfl _ _ _) rfl ?_
  have hb : ys ++ encN [a, b] ++ [flagByte yes] = _ := HB.out
  exact ⟨rfl, Eq.mp (congrArg (Wt W2 g) hb) hw2, k2⟩

set_option maxRecDepth 100000 in
set_option maxHeartbeats 1000000 in
theorem wcut (g : Nat) (ys : List UInt8) (off : Int) (A D : Option Addr) (n c m d : Nat) (w : World) (hw : Wt w g ys) (hy : ys.length ≤ 20) (h : 0 ≤ off ∧ off ≤ 1048576) :
    Calls Tryz.prog 62 #[.pointer (some ⟨g, 0, none⟩), .agg (evals (cutE off) A n c D m d)] w (WRes2 w g (ys ++ (cutE off).body)) := by
  obtain ⟨h1, h2⟩ := h
  obtain ⟨a, rfl⟩ : ∃ a : Nat, off = a := ⟨off.toNat, by omega⟩
  have hl : ∀ x ∈ [a], x ≤ 1099511627776 := by simp; omega
  have HB : Hid (ys ++ encN [a] = ys ++ (cutE a).body) := by show _ = _; simp [En.body, cutE, encN]
  simp only [evals, cutE, noBt, noRw, noPd]
  obtain ⟨W0, hW0⟩ : ∃ W0, W0 = w.alloc (.cells #[.int .i8 2, .int .i64 0, .int .i64 0, .int .i64 0, .bool false, .slice A n c, .bool false, .int .i64 0, .int .i64 (a : Int), .int .i64 0, .int .i64 0, .int .i64 0, .string ⟨#[]⟩, .string ⟨#[]⟩, .int .i64 0, .int .i64 0, .int .i64 0, .slice D m d] 32) := ⟨_, rfl⟩
  have v0 : Var W0 w.heap.size 32 #[.int .i8 2, .int .i64 0, .int .i64 0, .int .i64 0, .bool false, .slice A n c, .bool false, .int .i64 0, .int .i64 (a : Int), .int .i64 0, .int .i64 0, .int .i64 0, .string ⟨#[]⟩, .string ⟨#[]⟩, .int .i64 0, .int .i64 0, .int .i64 0, .slice D m d] := by rw [hW0]; exact Var.new _ _ _
  have b0 : Below w.heap.size w W0 := by rw [hW0]; exact below_new _
  have hgw := hw.lt
  have hw0 := hw.below b0
  have k0 := WK.of_below b0 (Nat.le_of_lt hgw)
  have HW0 := Lib.hid hW0
  clear hW0 hw
  go_enter Tryz.func62, Tryz.ntmps62
  go_upto_region 1 with fail
  rw [← HW0.out]
  have d0_8 := v0.cell 8 rfl
  have z0 := v0.lt
  go_wp2_with fail
  refine (numbers_new W0 g ys [a] 1 hw0 rfl hl (by omega) (by omega)).mono ?_
  rintro e W1 ⟨rfl, hw1, q1⟩
  have r1 := WK.of_kept q1 (by have := v0.lt; omega)
  have v1 := r1.2 _ _ _ v0 (by omega) (by decide)
  have k1 := k0.trans r1
  clear d0_8 z0 v0 r1 q1 hw0
  go_wp2
  refine bodyPost_end (results_none rfl _ _ _) rfl ?_
  have hb : ys ++ encN [a] = _ := HB.out
  exact ⟨rfl, Eq.mp (congrArg (Wt W1 g) hb) hw1, k1⟩

set_option maxRecDepth 100000 in
set_option maxHeartbeats 1000000 in
theorem wdrop (g : Nat) (ys : List UInt8) (pid ep nx : Int) (A D : Option Addr) (n c m d : Nat) (w : World) (hw : Wt w g ys) (hy : ys.length ≤ 20) (h : Named pid ep) (hn : 0 ≤ nx ∧ nx ≤ 1048576) :
    Calls Tryz.prog 66 #[.pointer (some ⟨g, 0, none⟩), .agg (evals (dropE pid ep nx) A n c D m d)] w (WRes2 w g (ys ++ (dropE pid ep nx).body)) := by
  obtain ⟨⟨h1, h2⟩, h3, h4⟩ := h
  obtain ⟨h5, h6⟩ := hn
  obtain ⟨a, rfl⟩ : ∃ a : Nat, pid = a := ⟨pid.toNat, by omega⟩
  obtain ⟨b, rfl⟩ : ∃ b : Nat, ep = b := ⟨ep.toNat, by omega⟩
  obtain ⟨e, rfl⟩ : ∃ e : Nat, nx = e := ⟨nx.toNat, by omega⟩
  have hl : ∀ x ∈ [a, b, e], x ≤ 1099511627776 := by simp; omega
  have HB : Hid (ys ++ encN [a, b, e] = ys ++ (dropE a b e).body) := by show _ = _; simp [En.body, dropE, encN]
  simp only [evals, dropE, noRw, noPd]
  obtain ⟨W0, hW0⟩ : ∃ W0, W0 = w.alloc (.cells #[.int .i8 4, .int .i64 (a : Int), .int .i64 (b : Int), .int .i64 0, .bool false, .slice A n c, .bool false, .int .i64 (e : Int), .int .i64 0, .int .i64 0, .int .i64 0, .int .i64 0, .string ⟨#[]⟩, .string ⟨#[]⟩, .int .i64 0, .int .i64 0, .int .i64 0, .slice D m d] 32) := ⟨_, rfl⟩
  have v0 : Var W0 w.heap.size 32 #[.int .i8 4, .int .i64 (a : Int), .int .i64 (b : Int), .int .i64 0, .bool false, .slice A n c, .bool false, .int .i64 (e : Int), .int .i64 0, .int .i64 0, .int .i64 0, .int .i64 0, .string ⟨#[]⟩, .string ⟨#[]⟩, .int .i64 0, .int .i64 0, .int .i64 0, .slice D m d] := by rw [hW0]; exact Var.new _ _ _
  have b0 : Below w.heap.size w W0 := by rw [hW0]; exact below_new _
  have hgw := hw.lt
  have hw0 := hw.below b0
  have k0 := WK.of_below b0 (Nat.le_of_lt hgw)
  have HW0 := Lib.hid hW0
  clear hW0 hw
  go_enter Tryz.func66, Tryz.ntmps66
  go_upto_region 1 with fail
  rw [← HW0.out]
  have d0_1 := v0.cell 1 rfl
  have d0_2 := v0.cell 2 rfl
  have d0_7 := v0.cell 7 rfl
  have z0 := v0.lt
  go_wp2_with fail
  refine (numbers_new W0 g ys [a, b, e] 3 hw0 rfl hl (by omega) (by omega)).mono ?_
  rintro e W1 ⟨rfl, hw1, q1⟩
  have r1 := WK.of_kept q1 (by have := v0.lt; omega)
  have v1 := r1.2 _ _ _ v0 (by omega) (by decide)
  have k1 := k0.trans r1
  clear d0_1 d0_2 d0_7 z0 v0 r1 q1 hw0
  go_wp2
  refine bodyPost_end (results_none rfl _ _ _) rfl ?_
  have hb : ys ++ encN [a, b, e] = _ := HB.out
  exact ⟨rfl, Eq.mp (congrArg (Wt W1 g) hb) hw1, k1⟩

set_option maxRecDepth 100000 in
set_option maxHeartbeats 1000000 in
theorem wrow (g : Nat) (ys : List UInt8) (pid sq : Int) (k v : ByteArray) (A D : Option Addr) (n c m d : Nat) (w : World) (hw : Wt w g ys) (hy : ys.length ≤ 20) (h : RowOk pid sq k v) :
    Calls Tryz.prog 68 #[.pointer (some ⟨g, 0, none⟩), .agg (evals (rowE pid sq k v) A n c D m d)] w (WRes2 w g (ys ++ (rowE pid sq k v).body)) := by
  obtain ⟨⟨h1, h2⟩, ⟨h3, h4⟩, h5, h6⟩ := h
  obtain ⟨a, rfl⟩ : ∃ a : Nat, pid = a := ⟨pid.toNat, by omega⟩
  obtain ⟨b, rfl⟩ : ∃ b : Nat, sq = b := ⟨sq.toNat, by omega⟩
  have hl : ∀ x ∈ [a, b], x ≤ 1099511627776 := by simp; omega
  have hl2 : ∀ x ∈ [k, v], x.size ≤ 16 := by simp; omega
  have hle := encN_le [a, b] hl
  simp only [List.length_cons, List.length_nil] at hle
  have HB : Hid (ys ++ encN [a, b] ++ encT [k, v] = ys ++ (rowE a b k v).body) := by show _ = _; simp [En.body, rowE, encRow, encN, encT]
  simp only [evals, rowE, noBt, noPd]
  obtain ⟨W0, hW0⟩ : ∃ W0, W0 = w.alloc (.cells #[.int .i8 5, .int .i64 0, .int .i64 0, .int .i64 0, .bool false, .slice A n c, .bool false, .int .i64 0, .int .i64 0, .int .i64 0, .int .i64 (a : Int), .int .i64 (b : Int), .string k, .string v, .int .i64 0, .int .i64 0, .int .i64 0, .slice D m d] 32) := ⟨_, rfl⟩
  have v0 : Var W0 w.heap.size 32 #[.int .i8 5, .int .i64 0, .int .i64 0, .int .i64 0, .bool false, .slice A n c, .bool false, .int .i64 0, .int .i64 0, .int .i64 0, .int .i64 (a : Int), .int .i64 (b : Int), .string k, .string v, .int .i64 0, .int .i64 0, .int .i64 0, .slice D m d] := by rw [hW0]; exact Var.new _ _ _
  have b0 : Below w.heap.size w W0 := by rw [hW0]; exact below_new _
  have hgw := hw.lt
  have hw0 := hw.below b0
  have k0 := WK.of_below b0 (Nat.le_of_lt hgw)
  have HW0 := Lib.hid hW0
  clear hW0 hw
  go_enter Tryz.func68, Tryz.ntmps68
  go_upto_region 1 with fail
  rw [← HW0.out]
  have d0_10 := v0.cell 10 rfl
  have d0_11 := v0.cell 11 rfl
  have z0 := v0.lt
  go_wp2_with fail
  refine (numbers_new W0 g ys [a, b] 2 hw0 rfl hl (by omega) (by omega)).mono ?_
  rintro e W1 ⟨rfl, hw1, q1⟩
  have r1 := WK.of_kept q1 (by have := v0.lt; omega)
  have v1 := r1.2 _ _ _ v0 (by omega) (by decide)
  have k1 := k0.trans r1
  clear d0_10 d0_11 z0 v0 r1 q1 hw0
  have d1_12 := v1.cell 12 rfl
  have d1_13 := v1.cell 13 rfl
  have z1 := v1.lt
  go_wp2_with fail
  refine (texts_new W1 g _ [k, v] 2 hw1 rfl hl2 (by omega) (by rw [List.length_append]; omega)).mono ?_
  rintro e W2 ⟨rfl, hw2, q2⟩
  have r2 := WK.of_kept q2 (by have := v1.lt; omega)
  have v2 := r2.2 _ _ _ v1 (by omega) (by decide)
  have k2 := k1.trans r2
  clear d1_12 d1_13 z1 v1 r2 q2 hw1
  go_wp2
  refine bodyPost_end (results_none rfl _ _ _) rfl ?_
  have hb : ys ++ encN [a, b] ++ encT [k, v] = _ := HB.out
  exact ⟨rfl, Eq.mp (congrArg (Wt W2 g) hb) hw2, k2⟩

set_option maxRecDepth 100000 in
set_option maxHeartbeats 1000000 in
theorem wdata (g : Nat) (ys : List UInt8) (x : En) (A D : Option Addr) (n c m d B : Nat) (w : World) (hw : Wt w g ys) (hy : ys.length ≤ 20) (hx : EIn w B x A n c D m d) (hB : B ≤ w.heap.size) (h : x.b.Good) :
    Calls Tryz.prog 58 #[.pointer (some ⟨g, 0, none⟩), .agg (evals x A n c D m d)] w (WRes2 w g (ys ++ x.b.enc)) := by
  obtain ⟨i0, hi0, hz0, hz1, hz2⟩ := info_parts u8_info
  obtain ⟨kind, ⟨pid, ep, sq, tx, rs⟩, yes, nx, off, ⟨ro, rp, rq, rk, rv⟩, ⟨pp, pe, pn, sn⟩⟩ := x
  obtain ⟨hlen, hseen, -, hmax, hsz, -, -⟩ := hx
  simp only at hlen hseen hsz h
  have HL := Lib.hid hlen
  have HSZ := Lib.hid hsz
  have hle := Bt.enc_le h
  obtain ⟨s, hs⟩ : ∃ s : ByteArray, s = ⟨(Bt.enc ⟨pid, ep, sq, tx, rs⟩).toArray⟩ := ⟨_, rfl⟩
  have hssz : s.size ≤ 160 := by rw [hs, ← bytesOf_length, bytesOf_mk]; exact hle
  have HB : Hid (bytesOf s = Bt.enc ⟨pid, ep, sq, tx, rs⟩) := by show _ = _; rw [hs, bytesOf_mk]
  have HBI : Hid (BytesIs ⟨pid, ep, sq, tx, rs⟩ s 0) := .inl ⟨h, hs, rfl⟩
  clear hlen hsz hs h hle
  simp only [evals]
  obtain ⟨W0, hW0⟩ : ∃ W0, W0 = w.alloc (.cells #[.int .i8 kind, .int .i64 pid, .int .i64 ep, .int .i64 sq, .bool tx, .slice A n c, .bool yes, .int .i64 nx, .int .i64 off, .int .i64 ro, .int .i64 rp, .int .i64 rq, .string rk, .string rv, .int .i64 pp, .int .i64 pe, .int .i64 pn, .slice D m d] 32) := ⟨_, rfl⟩
  have v0 : Var W0 w.heap.size 32 #[.int .i8 kind, .int .i64 pid, .int .i64 ep, .int .i64 sq, .bool tx, .slice A n c, .bool yes, .int .i64 nx, .int .i64 off, .int .i64 ro, .int .i64 rp, .int .i64 rq, .string rk, .string rv, .int .i64 pp, .int .i64 pe, .int .i64 pn, .slice D m d] := by rw [hW0]; exact Var.new _ _ _
  have b0 : Below w.heap.size w W0 := by rw [hW0]; exact below_new _
  have hgw := hw.lt
  have hw0 := hw.below b0
  have k0 := WK.of_below b0 (Nat.le_of_lt hgw)
  have HW0 := Lib.hid hW0
  have hs0 := hseen.below (b0.mono hB)
  have hB0 := Nat.le_trans hB b0.size
  clear hW0 hw hseen
  go_enter Tryz.func58, Tryz.ntmps58
  go_upto_region 1 with fail
  rw [← HW0.out]
  have d1 := v0.cell 1 rfl
  have d2 := v0.cell 2 rfl
  have d3 := v0.cell 3 rfl
  have d4 := v0.cell 4 rfl
  have d5 := v0.cell 5 rfl
  have z0 := v0.lt
  go_wp2_with fail
  refine (bytes_all A n c B rs pid ep sq tx W0 s 0 HBI.out HL.out hs0 hB0 hmax HSZ.out).mono ?_
  rintro e W1 ⟨rfl, b1⟩
  have k1 := k0.trans (WK.of_below b1 (Nat.le_of_lt hw0.lt))
  have hw1 := hw0.below b1
  clear d1 d2 d3 d4 d5 z0 v0 hs0 HL HSZ HBI
  obtain ⟨A2, c2, ly, hv, hs2, hly, hc2, ho⟩ := hw1.get
  have hgr := hv.lt
  obtain ⟨p0, hf0⟩ : W1.cell? ⟨g, 0, none⟩ = some (.slice A2 ly c2) ∧ W1.frozen? ⟨g, 0, none⟩ = false := ⟨hv.cell 0 rfl, hv.free 0⟩
  have hlyb : ly ≤ 20 := by omega
  have HLY := Lib.hid hly
  clear hly hs2 hw1 b1
  go_wp2_with (at_builtin; refine Lib.wpList_append_own_string _ rfl _ _ 58 9 rfl (g + 1) 5 i0 Tryz.underlying58 Tryz.underlying9 hi0 hz0 hz1 hz2 (.slice A2 ly c2) _ _ rfl ho s rfl ?c1 ?c2 ?c3 ?_)
  case c1 => unfold maxLen; omega
  case c2 => omega
  case c3 => omega
  intro v' w2 ho2 hg2 _
  have bb : Below (g + 1) W1 w2 := (Below.refl _ _).grown hg2 (by omega) (fun k hk => (ho.lt k hk).1)
  have hoth : ∀ g' T' cs, Var W1 g' T' cs → T' ≠ 5 → Var w2 g' T' cs := fun g' T' cs hv' hT => (hg2.block g' hv'.lt (fun e => by
    rcases ho.2 with ⟨h0, _⟩ | ⟨q, cap, cur, hq, _, hq2, _⟩
    · rw [h0] at e; cases e
    · rw [hq] at e
      injection e with e
      subst e
      rw [show W1.heap[_]? = _ from hv'] at hq2
      injection hq2 with hq2
      injection hq2 with _ h2 _
      exact hT h2)).trans hv'
  have hv2 := hoth _ _ _ hv (by decide)
  obtain ⟨A3, c3, rfl, -, -⟩ := own_formN ho2
  have hl2 : ly + s.size = (ys ++ bytesOf s).length := by rw [List.length_append, bytesOf_length, HLY.out]
  have hxl : cells ys ++ Lib.strCells s = cells (ys ++ bytesOf s) := by rw [strCells_is, ← cells_append]
  rw [hxl] at ho2
  have HF : Hid (Wt (w2.setCell ⟨g, 0, none⟩ (.slice A3 (ly + s.size) c3)) g (ys ++ bytesOf s)) := ⟨_, _, by simpa using hv2.set 0 (.slice A3 (ly + s.size) c3), own_set ho2 (Nat.lt_succ_self g) _, hl2⟩
  have HK : Hid (WK g w (w2.setCell ⟨g, 0, none⟩ (.slice A3 (ly + s.size) c3))) := k1.trans ⟨(bb.mono (Nat.le_succ g)).setCell (Nat.le_refl _) _, fun g' T' cs h1 h2 h3 => (hoth _ _ _ h1 h3).other _ _ h2⟩
  have hf2 := hv2.free 0
  have p2 := hv2.cell 0 rfl
  have hg2r := hv2.lt
  clear ho ho2 hg2 hl2 hxl p0 hf0 hoth
  go_wp2
  refine bodyPost_end (results_none rfl _ _ _) rfl ?_
  exact ⟨rfl, by rw [← HB.out]; exact HF.out, HK.out⟩
end Go.Proofs.YtchpemgamgcbkaaGreat
