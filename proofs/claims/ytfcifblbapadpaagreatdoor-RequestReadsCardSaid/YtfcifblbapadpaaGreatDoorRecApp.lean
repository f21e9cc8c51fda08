/-
  Appending one element to a slice that is the call's own: laws for the walks. Conditions: those that each names.
-/
import Derived.Test.YtfcifblbapadpaaGreatDoorRecMay
namespace Go.Proofs.YtfcifblbapadpaaGreatDoor
open Go.RowKit

theorem own_formN {w : World} {base n s : Nat} {e : TypeId} {v : Value} {xs : List Value} (h : w.ownsRow base e s v n xs) : ∃ A c, v = .slice A n c ∧ Seen w w.heap.size A xs ∧ n ≤ c := by
  rcases h.2 with ⟨rfl, h0⟩ | ⟨g, cap, cur, rfl, _, hg, hnc, _⟩
  · subst h0
    exact ⟨none, 0, rfl, fun hx => absurd (List.eq_nil_of_length_eq_zero (by rw [h.1]; simp)) hx, Nat.le_refl _⟩
  · refine ⟨_, cap, rfl, fun _ => ⟨g, 0, rfl, heap_lt hg, fun j u hu => ?_⟩, hnc⟩
    have := h.cells (g := g) rfl j u hu
    rwa [plain_add] at this
theorem own_next {w w' : World} {base e n size : Nat} {v : Value} {xs : List Value} (h : w.ownsRow base e size v n xs) (hb : Below w.heap.size w w') : w'.ownsRow base e size v n xs := by
  refine ⟨h.1, ?_⟩
  rcases h.2 with h0 | ⟨g, cap, cur, hv, hbg, hg, hr⟩
  · exact .inl h0
  · exact .inr ⟨g, cap, cur, hv, hbg, (hb.block g (heap_lt hg)).trans hg, hr⟩
theorem own_down {w : World} {base base' e n size : Nat} {v : Value} {xs : List Value} (h : w.ownsRow base e size v n xs) (hb : base' ≤ base) : w.ownsRow base' e size v n xs := by
  refine ⟨h.1, ?_⟩
  rcases h.2 with h0 | ⟨g, cap, cur, hv, hbg, hr⟩
  · exact .inl h0
  · exact .inr ⟨g, cap, cur, hv, Nat.le_trans hb hbg, hr⟩
theorem grown_low {w w' : World} {row : Option Nat} {B : Nat} (h : w.grownBy w' row) (hB : B ≤ w.heap.size) (hr : ∀ g, row = some g → B ≤ g) : Below B w w' :=
  ⟨h.os, h.tape, h.output, h.size, fun k hk => h.block k (by omega) (fun e => by have := hr k e.symm; omega)⟩
theorem info_partsN {P : Program} {e : TypeId} {z : Value} {s b : Nat} (h : (P.info? e).map (fun i => (i.zero, i.size, i.bytes)) = some (some z, s, b)) : ∃ i, P.info? e = some i ∧ i.zero = some z ∧ i.size = s ∧ i.bytes = b := by
  obtain ⟨i, hi, hzz⟩ := Option.map_eq_some_iff.1 h
  simp only [Prod.mk.injEq] at hzz
  exact ⟨i, hi, hzz.1, hzz.2.1, hzz.2.2⟩

/-- 'append(v, x)' of one element that was just built. -/
theorem append_one {P : Program} {w : World} {t e ty : TypeId} {z : Value} {s bytes : Nat} (ht : P.underlying t = some (.slice e)) (hinfo : (P.info? e).map (fun i => (i.zero, i.size, i.bytes)) = some (some z, s, bytes)) (hzs : z.cells.size = s) (hs0 : 0 < s) (hby : bytes ≤ 1000)
    {base n c B : Nat} {v : Value} {xs news : List Value} {A : Option Addr} (hown : w.ownsRow base e s v n xs) (hl : news.length = s) (h1 : ∀ u ∈ news, u.oneCell' = true) (hr : Seen w B A news) (hbase : base ≤ w.heap.size) (hn : n ≤ 1000) :
    ∃ A' c' w', (Builtin.append_ #[t, t] ty #[v, .slice A 1 c]).run P w = .ok (.slice A' (n + 1) c') w' ∧ w'.ownsRow base e s (.slice A' (n + 1) c') (n + 1) (xs ++ news) ∧ Below base w w' := by
  obtain ⟨i, hi, hz, hsz, hbt⟩ := info_partsN hinfo
  obtain ⟨b, off, rfl, _, hc⟩ := hr (by intro e; rw [e] at hl; simp at hl; omega)
  have hbb : (n + 1) * bytes ≤ 1001 * 1000 := Nat.mul_le_mul (by omega) hby
  obtain ⟨v', w', hrun, h2, h3, _⟩ := run_append_own (P := P) w base t ty e i z s bytes ht hi hz hsz hbt hzs hs0 v n xs hown ⟨b, off, none⟩ 1 c news (by rw [hl]; omega) (fun j u hu => by rw [plain_add]; exact hc j u hu) h1 (by unfold maxLen; omega) (by omega) hbase
  obtain ⟨A', c', rfl, _, _⟩ := own_formN h2
  exact ⟨A', c', w', hrun, h2, grown_low h3 hbase (fun g hg => (hown.lt g hg).1)⟩

/-- .. as a law for the walk. -/
theorem wpList_append_one {P : Program} {w : World} {ops : Array Oper} {rest : List Oper} {o : Oper} {a : Act} {Q : Exit → Act → World → Prop} (hgd : o.guard = none) (s' x : Operand) {t e : TypeId}
    (ho : o.op = .call { callee := .builtin .append, args := #[s', x], argTypes := #[t, t] }) {z : Value} {s bytes : Nat} (ht : P.underlying t = some (.slice e)) (hinfo : (P.info? e).map (fun i => (i.zero, i.size, i.bytes)) = some (some z, s, bytes)) (hzs : z.cells.size = s) (hs0 : 0 < s) (hby : bytes ≤ 1000)
    {base n c B : Nat} {v : Value} {xs news : List Value} {A : Option Addr} (hv : a.eval s' = v) (hx : a.eval x = .slice A 1 c) (hown : w.ownsRow base e s v n xs) (hl : news.length = s) (h1 : ∀ u ∈ news, u.oneCell' = true) (hr : Seen w B A news) (hbase : base ≤ w.heap.size) (hn : n ≤ 1000)
    (h : ∀ A' c' w', w'.ownsRow base e s (.slice A' (n + 1) c') (n + 1) (xs ++ news) → Below base w w' → wpList P ops Q rest (a.put o.dst (.slice A' (n + 1) c')) w') : wpList P ops Q (o :: rest) a w := by
  obtain ⟨A', c', w', hrun, k1, k2⟩ := append_one (ty := o.type) (c := c) ht hinfo hzs hs0 hby hown hl h1 hr hbase hn
  refine wpList_plain hgd fun K hK => ?_
  unfold Oper.wp execOp
  simp only [ho, resolve, invoke, builtin, Sem.run_bind, Sem.run_pure, Result.andThen_ok, List.map_toArray, List.map_cons, List.map_nil, hv, hx, hrun]
  exact hK _ _ (h A' c' w' k1 k2)
/-- .. as one step of a region that draws its order. -/
theorem step_append_one {P : Program} {w : World} {ops : Array Oper} {o : Oper} {a : Act} {K : Act → World → Prop} {Q : Exit → Act → World → Prop} {E : Prop} (hgd : o.guard = none) (s' x : Operand) {t e : TypeId}
    (ho : o.op = .call { callee := .builtin .append, args := #[s', x], argTypes := #[t, t] }) {z : Value} {s bytes : Nat} (ht : P.underlying t = some (.slice e)) (hinfo : (P.info? e).map (fun i => (i.zero, i.size, i.bytes)) = some (some z, s, bytes)) (hzs : z.cells.size = s) (hs0 : 0 < s) (hby : bytes ≤ 1000)
    {base n c B : Nat} {v : Value} {xs news : List Value} {A : Option Addr} (hv : a.eval s' = v) (hx : a.eval x = .slice A 1 c) (hown : w.ownsRow base e s v n xs) (hl : news.length = s) (h1 : ∀ u ∈ news, u.oneCell' = true) (hr : Seen w B A news) (hbase : base ≤ w.heap.size) (hn : n ≤ 1000)
    (h : ∀ A' c' w', w'.ownsRow base e s (.slice A' (n + 1) c') (n + 1) (xs ++ news) → Below base w w' → K (a.put o.dst (.slice A' (n + 1) c')) w') : if Region.wanted o (yielded ops a.tmps) = true then Oper.wp P o a w K Q else E := by
  have hw : Region.wanted o (yielded ops a.tmps) = true := by simp [Region.wanted, hgd]
  rw [if_pos hw]
  obtain ⟨A', c', w', hrun, k1, k2⟩ := append_one (ty := o.type) (c := c) ht hinfo hzs hs0 hby hown hl h1 hr hbase hn
  unfold Oper.wp execOp
  simp only [ho, resolve, invoke, builtin, Sem.run_bind, Sem.run_pure, Result.andThen_ok, List.map_toArray, List.map_cons, List.map_nil, hv, hx, hrun]
  exact h A' c' w' k1 k2
theorem seen_rec (W : World) (r : Rc) (T : TypeId) (x : Nat) (hx : W.heap.size = x) : Seen (W.alloc (.cells #[.string r.k, .string r.v] T)) (x + 1) (some ⟨x, 0, none⟩) (rcell r) := by
  subst hx
  exact Seen.new W (rcell r) T
end Go.Proofs.YtfcifblbapadpaaGreatDoor
