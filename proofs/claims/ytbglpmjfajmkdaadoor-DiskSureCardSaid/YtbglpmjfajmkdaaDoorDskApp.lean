/-
  Appending files, and cutting slices of files: laws for the walks. No conditions.
-/
import Derived.Test.YtbglpmjfajmkdaaDoorDskMem
namespace Go.Proofs.YtbglpmjfajmkdaaDoor
open Go.RowKit DP

theorem file_info0 : (Tryd.prog.info? 41).map (fun i => (i.zero, i.size, i.bytes)) = some (some (.agg #[.string { data := #[] }, .string { data := #[] }, .int .i64 0]), 3, 40) := by kernel_rfl
theorem file_info : ∃ i z, Tryd.prog.info? 41 = some i ∧ i.zero = some z ∧ i.size = 3 ∧ i.bytes = 40 ∧ z.cells.size = 3 := by
  obtain ⟨i, hi, hz, hs, hb⟩ := info_parts file_info0
  exact ⟨i, _, hi, hz, hs, hb, rfl⟩
theorem file_size : ∀ w, (Go.sizeOf 41).run Tryd.prog w = .ok 3 w := fun w => by kernel_rfl

theorem Seen.of_own3 {w : World} {base n c : Nat} {A : Option Addr} {e : TypeId} {xs : List Value} (h : w.ownsRow base e 3 (.slice A n c) n xs) : Seen w w.heap.size A xs ∧ n ≤ c := by
  rcases h.2 with ⟨he, h0⟩ | ⟨g, cap, cur, hv, _, hg, hnc, _⟩
  · injection he with h1 h2 h3
    subst h1
    exact ⟨fun hx => absurd (List.eq_nil_of_length_eq_zero (by rw [h.1, h0])) hx, by omega⟩
  · injection hv with h1 h2 h3
    subst h1
    subst h3
    refine ⟨fun _ => ⟨g, 0, rfl, heap_lt hg, fun j u hu => ?_⟩, hnc⟩
    have := h.cells (g := g) rfl j u hu
    rwa [plain_add] at this
theorem own_form3 {w : World} {base n : Nat} {e : TypeId} {v : Value} {xs : List Value} (h : w.ownsRow base e 3 v n xs) : ∃ A c, v = .slice A n c ∧ Seen w w.heap.size A xs ∧ n ≤ c := by
  rcases h.2 with ⟨rfl, rfl⟩ | ⟨g, cap, cur, rfl, _, hg, hnc, _⟩
  · exact ⟨none, 0, rfl, (Seen.of_own3 h).1, Nat.le_refl _⟩
  · exact ⟨_, cap, rfl, (Seen.of_own3 h).1, hnc⟩

theorem own_set {w : World} {base e n size : Nat} {v : Value} {xs : List Value} (h : w.ownsRow base e size v n xs) {p : Addr} (hp : p.block < base) (u : Value) : (w.setCell p u).ownsRow base e size v n xs := by
  refine ⟨h.1, ?_⟩
  rcases h.2 with h0 | ⟨g, cap, cur, hv, hb, hg, hr⟩
  · exact .inl h0
  · exact .inr ⟨g, cap, cur, hv, hb, (Below.heap_setCell _ _ _ _ (by omega)).trans hg, hr⟩
theorem own_mono {w : World} {base base' e n size : Nat} {v : Value} {xs : List Value} (h : w.ownsRow base e size v n xs) (hb : base' ≤ base) : w.ownsRow base' e size v n xs := by
  refine ⟨h.1, ?_⟩
  rcases h.2 with h0 | ⟨g, cap, cur, hv, hbg, hr⟩
  · exact .inl h0
  · exact .inr ⟨g, cap, cur, hv, Nat.le_trans hb hbg, hr⟩
theorem own_below {w w' : World} {base e n size : Nat} {v : Value} {xs : List Value} (h : w.ownsRow base e size v n xs) (hb : Below w.heap.size w w') : w'.ownsRow base e size v n xs := by
  refine ⟨h.1, ?_⟩
  rcases h.2 with h0 | ⟨g, cap, cur, hv, hbg, hg, hr⟩
  · exact .inl h0
  · exact .inr ⟨g, cap, cur, hv, hbg, (hb.block g (heap_lt hg)).trans hg, hr⟩
theorem own_drew {w : World} {base e n size k : Nat} {v : Value} {xs : List Value} (h : w.ownsRow base e size v n xs) : (w.drewN k).ownsRow base e size v n xs := h
theorem Seen.set {w : World} {B : Nat} {A : Option Addr} {xs : List Value} (h : Seen w B A xs) {p : Addr} (hp : B ≤ p.block) (u : Value) : Seen (w.setCell p u) B A xs :=
  h.below ((Below.refl _ _).setCell hp u)
theorem grown_below {w w' : World} {row : Option Nat} {B : Nat} (h : w.grownBy w' row) (hB : B ≤ w.heap.size) (hr : ∀ g, row = some g → B ≤ g) : Below B w w' :=
  ⟨h.os, h.tape, h.output, h.size, fun k hk => h.block k (by omega) (fun e => by have := hr k e.symm; omega)⟩

section
variable {w : World} {B B2 : Nat} {A A2 : Option Addr} {n m c : Nat} {xs news : List Value}
theorem seen_some (h : Seen w B A xs) (hx : xs ≠ []) : ∃ a, A = some a ∧ ∀ j u, xs[j]? = some u → w.cell? (a.add j) = some u := by
  obtain ⟨b, off, rfl, _, hc⟩ := h hx
  exact ⟨_, rfl, fun j u hu => by rw [plain_add]; exact hc j u hu⟩
set_option maxRecDepth 100000 in
/-- 'append' onto a slice that has no room. -/
theorem append_full (ty : TypeId) (hn : xs.length = n * 3) (hm : news.length = m * 3) (hs : Seen w B A xs) (hB : B ≤ w.heap.size) (hr : Seen w B2 A2 news) (hA : A = none → n = 0) (hle : n + m ≤ 1000) :
    ∃ A' c' w', (Builtin.append_ #[22, 22] ty #[.slice A n n, .slice A2 m c]).run Tryd.prog w = .ok (.slice A' (n + m) c') w' ∧ Seen w' w'.heap.size A' (xs ++ news) ∧ n + m ≤ c' ∧ Below w.heap.size w w' ∧
      (0 < m → w'.ownsRow w.heap.size 41 3 (.slice A' (n + m) c') (n + m) (xs ++ news)) := by
  obtain ⟨i, z, hi, hz, hsz, hby, hzs⟩ := file_info
  have ht := Tryd.underlying22
  rcases Nat.eq_zero_or_pos m with rfl | hm0
  · obtain rfl : news = [] := List.eq_nil_of_length_eq_zero (by simpa using hm)
    refine ⟨A, n, w, ?_, by simpa using hs.up hB, by simp, Below.refl _ _, fun h => absurd h (by omega)⟩
    cases A with
    | none =>
      obtain rfl := hA rfl
      cases A2 <;> simp [Builtin.append_, run_underlying ht, sizeOf, typeInfo, hi, Builtin.lenOf, Builtin.firstCells, loadCells, loadCellsFrom]
    | some a => cases A2 <;> simp [Builtin.append_, run_underlying ht, sizeOf, typeInfo, hi, Builtin.lenOf, Builtin.firstCells, loadCells, loadCellsFrom, storeCells]
  · have hne : news ≠ [] := fun e => by rw [e] at hm; simp at hm; omega
    obtain ⟨a2, rfl, hc2⟩ := seen_some hr hne
    have hge := grownCap_ge w (n + m) n 41
    have hcm : grownCap w (n + m) n 41 ≤ maxLen := grownCap_le_maxLen w (n + m) n _ (by unfold maxLen; omega)
    have hown : ∀ w' : World, w' = w.drew.alloc (.cells (xs.toArray ++ news.toArray ++ Builtin.zeroCells z.cells (grownCap w (n + m) n 41 - (n + m))) 41) →
        w'.ownsRow w.heap.size 41 3 (.slice (some ⟨w.heap.size, 0, none⟩) (n + m) (grownCap w (n + m) n 41)) (n + m) (xs ++ news) := by
      rintro w' rfl
      have hlen : (xs ++ news).length = (n + m) * 3 := by rw [List.length_append, hn, hm, Nat.add_mul]
      refine ⟨hlen, .inr ⟨w.heap.size, _, _, rfl, Nat.le_refl _, heap_alloc_new w.drew _, hge, hcm, ?_, ?_⟩⟩
      · simp only [Array.size_append, List.size_toArray, size_zeroCells, hzs, hn, hm, ← Nat.add_mul]
        congr 1
        omega
      · simp only [Array.toList_append, List.append_assoc]
        rw [← List.append_assoc, ← hlen]
        exact List.take_left
    have hbel : Below w.heap.size w (w.drew.alloc (.cells (xs.toArray ++ news.toArray ++ Builtin.zeroCells z.cells (grownCap w (n + m) n 41 - (n + m))) 41)) := (Below.refl _ _).drew.alloc (Nat.le_refl _) _
    cases A with
    | none =>
      obtain rfl := hA rfl
      obtain rfl : xs = [] := List.eq_nil_of_length_eq_zero (by simpa using hn)
      have hrun := run_append_nil (P := Tryd.prog) w 22 ty _ i z ht hi hz a2 m c news (by rw [hsz]; exact hm) hc2 hm0 (by omega) (by rw [hby]; omega)
      simp only [Nat.zero_add, List.nil_append, Array.empty_append] at hown hbel ⊢
      exact ⟨_, _, _, hrun, (Seen.of_own3 (hown _ rfl)).1, (Seen.of_own3 (hown _ rfl)).2, hbel, fun _ => hown _ rfl⟩
    | some a =>
      have hc1 : ∀ j u, xs[j]? = some u → w.cell? (a.add j) = some u := by
        intro j u hu
        have hne : xs ≠ [] := by rintro rfl; simp at hu
        obtain ⟨b, off, he, _, hc⟩ := hs hne
        injection he with he
        subst he
        rw [plain_add]
        exact hc j u hu
      have hrun := run_append_grow (P := Tryd.prog) w 22 ty _ i z ht hi hz a n n xs (by rw [hsz]; exact hn) hc1 a2 m c news (by rw [hsz]; exact hm) hc2 (by omega) (by omega) (growslice_fits (by omega) (by rw [hby]; omega))
      exact ⟨_, _, _, hrun, (Seen.of_own3 (hown _ rfl)).1, (Seen.of_own3 (hown _ rfl)).2, hbel, fun _ => hown _ rfl⟩

set_option maxRecDepth 100000 in
/-- 'append' onto a slice of the call's own. -/
theorem append_own (ty : TypeId) {base : Nat} {v : Value} (hown : w.ownsRow base 41 3 v n xs) (hm : news.length = m * 3) (h1 : ∀ u ∈ news, u.oneCell' = true) (hr : Seen w B2 A2 news) (hbase : base ≤ w.heap.size) (hle : n + m ≤ 1000) :
    ∃ v' w', (Builtin.append_ #[22, 22] ty #[v, .slice A2 m c]).run Tryd.prog w = .ok v' w' ∧ w'.ownsRow base 41 3 v' (n + m) (xs ++ news) ∧ Below base w w' := by
  obtain ⟨i, z, hi, hz, hsz, hby, hzs⟩ := file_info
  have ht := Tryd.underlying22
  rcases Nat.eq_zero_or_pos m with rfl | hm0
  · obtain rfl : news = [] := List.eq_nil_of_length_eq_zero (by simpa using hm)
    refine ⟨v, w, ?_, by simpa using hown, Below.refl _ _⟩
    rcases hown.2 with ⟨rfl, h0⟩ | ⟨g, cap, cur, rfl, _, _, hnc, _⟩
    · cases A2 <;> simp [Builtin.append_, run_underlying ht, sizeOf, typeInfo, hi, Builtin.lenOf, Builtin.firstCells, loadCells, loadCellsFrom]
    · cases A2 <;> simp [Builtin.append_, run_underlying ht, sizeOf, typeInfo, hi, Builtin.lenOf, Builtin.firstCells, loadCells, loadCellsFrom, hnc, storeCells]
  · have hne : news ≠ [] := fun e => by rw [e] at hm; simp at hm; omega
    obtain ⟨a2, rfl, hc2⟩ := seen_some hr hne
    obtain ⟨v', w', hrun, h2, h3, _⟩ := run_append_own (P := Tryd.prog) w base 22 ty _ i z 3 40 ht hi hz hsz hby hzs (by omega) v n xs hown a2 m c news hm hc2 h1 (by unfold maxLen; omega) (by omega) hbase
    exact ⟨v', w', hrun, h2, grown_below h3 hbase (fun g hg => (hown.lt g hg).1)⟩
end

section
variable {w : World} {ops : Array Oper} {rest : List Oper} {o : Oper} {a : Act} {Q : Exit → Act → World → Prop}
theorem wpList_append_run {P : Program} (hgd : o.guard = none) (s x : Operand) (t : TypeId)
    (ho : o.op = .call { callee := .builtin .append, args := #[s, x], argTypes := #[t, t] }) (v1 v2 v' : Value) (w' : World) (hs : a.eval s = v1) (hx : a.eval x = v2)
    (hrun : (Builtin.append_ #[t, t] o.type #[v1, v2]).run P w = .ok v' w') (h : wpList P ops Q rest (a.put o.dst v') w') : wpList P ops Q (o :: rest) a w := by
  refine wpList_plain hgd fun K hK => ?_
  unfold Oper.wp execOp
  simp only [ho, resolve, invoke, builtin, Sem.run_bind, Sem.run_pure, Result.andThen_ok, List.map_toArray, List.map_cons, List.map_nil, hs, hx, hrun]
  exact hK _ _ h
theorem wpList_append_full (hgd : o.guard = none) (s x : Operand)
    (ho : o.op = .call { callee := .builtin .append, args := #[s, x], argTypes := #[22, 22] })
    {B B2 : Nat} {A A2 : Option Addr} {n m c : Nat} {xs news : List Value} (hs : a.eval s = .slice A n n) (hx : a.eval x = .slice A2 m c)
    (hn : xs.length = n * 3) (hm : news.length = m * 3) (hs1 : Seen w B A xs) (hB : B ≤ w.heap.size) (hr : Seen w B2 A2 news) (hA : A = none → n = 0) (hle : n + m ≤ 1000)
    (h : ∀ A' c' w', Seen w' w'.heap.size A' (xs ++ news) → n + m ≤ c' → Below w.heap.size w w' → (0 < m → w'.ownsRow w.heap.size 41 3 (.slice A' (n + m) c') (n + m) (xs ++ news)) → wpList Tryd.prog ops Q rest (a.put o.dst (.slice A' (n + m) c')) w') :
    wpList Tryd.prog ops Q (o :: rest) a w := by
  obtain ⟨A', c', w', hrun, k1, k2, k3, k4⟩ := append_full (c := c) o.type hn hm hs1 hB hr hA hle
  exact wpList_append_run hgd s x _ ho _ _ _ _ hs hx hrun (h A' c' w' k1 k2 k3 k4)
theorem wpList_append_own3 (hgd : o.guard = none) (s x : Operand)
    (ho : o.op = .call { callee := .builtin .append, args := #[s, x], argTypes := #[22, 22] })
    {base B2 : Nat} {A2 : Option Addr} {n m c : Nat} {xs news : List Value} {v : Value} (hs : a.eval s = v) (hx : a.eval x = .slice A2 m c)
    (hown : w.ownsRow base 41 3 v n xs) (hm : news.length = m * 3) (h1 : ∀ u ∈ news, u.oneCell' = true) (hr : Seen w B2 A2 news) (hbase : base ≤ w.heap.size) (hle : n + m ≤ 1000)
    (h : ∀ A' c' w', w'.ownsRow base 41 3 (.slice A' (n + m) c') (n + m) (xs ++ news) → Below base w w' → wpList Tryd.prog ops Q rest (a.put o.dst (.slice A' (n + m) c')) w') :
    wpList Tryd.prog ops Q (o :: rest) a w := by
  obtain ⟨v', w', hrun, k1, k2⟩ := append_own (c := c) o.type hown hm h1 hr hbase hle
  obtain ⟨A', c', rfl, _, _⟩ := own_form3 k1
  exact wpList_append_run hgd s x _ ho _ _ _ _ hs hx hrun (h A' c' w' k1 k2)
end

/-! ### cuts -/
section
variable {w : World} {B : Nat} {A : Option Addr} {fs : List Fl}
/-- 's[:h:h]'. -/
theorem cut_front (W : World) (c h : Nat) (n : Nat) (hh : h ≤ c) : (Instr.slice 22 (.slice A n c) none (some (.int .i64 (h : Int))) (some (.int .i64 (h : Int)))).run Tryd.prog W = .ok (.slice A h h) W := by
  have ht' : Tryd.prog.underlying 22 = some (.slice (Tryd.prog.elem 22)) := by simp [Program.elem, Tryd.underlying22]
  have he : Tryd.prog.elem 22 = 41 := by simp [Program.elem, Tryd.underlying22]
  rw [run_slice_hm W _ _ _ _ ht' .i64 .i64 _ _ (by omega) (by omega) (by omega), he, file_size]
  cases A <;> simp [Result.andThen, sliced, Addr.add]
/-- 's[l:]'. -/
theorem cut_back (W : World) (c l : Nat) (n : Nat) (hl : l ≤ n) : (Instr.slice 22 (.slice A n c) (some (.int .i64 (l : Int))) none none).run Tryd.prog W = .ok (.slice (if c = l then A else A.map (·.add (l * 3))) (n - l) (c - l)) W := by
  have ht' : Tryd.prog.underlying 22 = some (.slice (Tryd.prog.elem 22)) := by simp [Program.elem, Tryd.underlying22]
  have he : Tryd.prog.elem 22 = 41 := by simp [Program.elem, Tryd.underlying22]
  rw [run_slice_l W _ _ _ _ ht' .i64 _ (by omega) (by omega), he, file_size]
  simp [Result.andThen, sliced]
theorem Seen.front (h : Seen w B A (fcells fs)) (k : Nat) : Seen w B A (fcells (fs.take k)) := fun hx => by
  obtain ⟨b, off, rfl, hb, hc⟩ := h (by intro e; apply hx; rw [← fcells_take, e]; simp)
  refine ⟨b, off, rfl, hb, fun j u hu => hc j u ?_⟩
  rw [← fcells_take, List.getElem?_take] at hu
  split at hu
  · exact hu
  · cases hu
theorem Seen.back (h : Seen w B A (fcells fs)) {k c : Nat} (hc : fs.length ≤ c) : Seen w B (if c = k then A else A.map (·.add (k * 3))) (fcells (fs.drop k)) := fun hx => by
  have hlt : k < fs.length := by
    rcases Nat.lt_or_ge k fs.length with h' | h'
    · exact h'
    · exact absurd (by rw [List.drop_of_length_le h']; rfl) hx
  obtain ⟨b, off, rfl, hb, hcell⟩ := h (by intro e; have := fcells_length fs; rw [e] at this; simp at this; omega)
  rw [if_neg (by omega)]
  refine ⟨b, off + k * 3, by simp [plain_add], hb, fun j u hu => ?_⟩
  rw [← fcells_drop, List.getElem?_drop] at hu
  rw [Nat.add_assoc]
  exact hcell _ u hu
end
/-- A slice of one file that was just built. -/
theorem Seen.one (w : World) (f : Fl) (e : TypeId) : Seen (w.alloc (.cells #[.string f.n, .string f.b, .int .i64 f.s] e)) (w.heap.size + 1) (some ⟨w.heap.size, 0, none⟩) (fcells [f]) := Seen.new w (fcells [f]) e
end Go.Proofs.YtbglpmjfajmkdaaDoor
