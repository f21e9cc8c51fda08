/-
  Rows of entries in memory; what each row is turned into. No conditions.
-/
import Derived.Test.YtchpemgamgcbkaaGreatEntWr
import Derived.Test.YtchpemgamgcbkaaGreatEntRd
import Derived.Test.YtchpemgamgcbkaaGreatRecApp
import Derived.Test.YtchpemgamgcbkaaGreatFldHeads
import Derived.Great.Walk
namespace Go.Proofs.YtchpemgamgcbkaaGreat
open Go.RowKit

/-- An entry with where what lies behind it lies. -/
structure EX where
  x : En
  A : Option Addr
  n : Nat
  c : Nat
  D : Option Addr
  m : Nat
  d : Nat
def EX.vals (e : EX) : Array Value := evals e.x e.A e.n e.c e.D e.m e.d
def EX.In (e : EX) (w : World) (B : Nat) : Prop := EIn w B e.x e.A e.n e.c e.D e.m e.d
def ecell (e : EX) : List Value := e.vals.toList
def ecells (l : List EX) : List Value := l.flatMap ecell
theorem ecell_length (e : EX) : (ecell e).length = 18 := rfl
theorem ecells_length (l : List EX) : (ecells l).length = l.length * 18 := flat_length ecell 18 ecell_length l
theorem ecells_append (a b : List EX) : ecells (a ++ b) = ecells a ++ ecells b := by simp [ecells]
theorem ecells_single (e : EX) : ecells [e] = ecell e := by simp [ecells]
theorem seen_var {w : World} {g T : Nat} {l : List Value} (h : Var w g T l.toArray) : Seen w (g + 1) (some ⟨g, 0, none⟩) l := fun _ => ⟨g, 0, rfl, Nat.lt_succ_self _, fun j u hu => by rw [Nat.zero_add]; exact h.cell j (by simpa using hu)⟩
theorem ecells_one (e : EX) : ∀ u ∈ ecell e, u.oneCell' = true := by
  intro u hu
  simp only [ecell, EX.vals, evals] at hu
  simp at hu
  rcases hu with rfl | rfl | rfl | rfl | rfl | rfl | rfl | rfl | rfl | rfl | rfl | rfl | rfl | rfl | rfl | rfl | rfl | rfl <;> rfl
theorem ecell_all (e : EX) : (ecell e).toArray.all (·.oneCell') = true := all_oneCell_toArray (ecells_one e)
theorem ex_at {w : World} {B : Nat} {A : Option Addr} {l : List EX} {k : Nat} {r : EX} (h : Seen w B A (ecells l)) (hk : l[k]? = some r) :
    ∃ b off, A = some ⟨b, off, none⟩ ∧ b < B ∧ w.rangeAt b (off + k * 18) (ecell r) := by
  have ha : ∀ j, j < 18 → (ecells l)[k * 18 + j]? = (ecell r)[j]? := fun j hj => flat_at ecell 18 ecell_length hk j hj
  obtain ⟨b, off, rfl, hb, hc⟩ := h (by
    intro e
    have := ha 0 (by omega)
    rw [e] at this
    simp [ecell, EX.vals, evals] at this)
  refine ⟨b, off, rfl, hb, fun j v hj => ?_⟩
  have hlt : j < 18 := by rw [← ecell_length r]; exact (List.getElem?_eq_some_iff.1 hj).1
  rw [Nat.add_assoc]
  exact hc _ _ (by rw [ha j hlt]; exact hj)
/-- A row of entries in memory: its cells and what lies behind them, in blocks below B. -/
structure EsIn (w : World) (B : Nat) (l : List EX) (A : Option Addr) (n : Nat) : Prop where
  len : l.length = n
  seen : Seen w B A (ecells l)
  each : ∀ e ∈ l, e.In w B
theorem EsIn.below {w w' : World} {B n : Nat} {l : List EX} {A : Option Addr} (h : EsIn w B l A n) (hb : Below B w w') : EsIn w' B l A n := ⟨h.len, h.seen.below hb, fun e he => EIn.below (h.each e he) hb⟩
theorem EsIn.up {w : World} {B B' n : Nat} {l : List EX} {A : Option Addr} (h : EsIn w B l A n) (hb : B ≤ B') : EsIn w B' l A n := ⟨h.len, h.seen.up hb, fun e he => EIn.up (h.each e he) hb⟩
theorem ex_here {l : List EX} {k n : Nat} (hn : l.length = n) (hk : k < n) : ∃ r, l[k]? = some r := ⟨_, List.getElem?_eq_getElem (by omega)⟩
theorem tx_here {l : List ByteArray} {k n : Nat} (hn : l.length = n) (hk : k < n) : ∃ r, l[k]? = some r := ⟨_, List.getElem?_eq_getElem (by omega)⟩
theorem ent_info0 : (Tryz.prog.info? 32).map (fun i => (i.zero, i.size, i.bytes)) = some (some (.agg #[.int .i8 0, .int .i64 0, .int .i64 0, .int .i64 0, .bool false, .slice none 0 0, .bool false, .int .i64 0, .int .i64 0, .int .i64 0, .int .i64 0, .int .i64 0, .string ⟨#[]⟩, .string ⟨#[]⟩, .int .i64 0, .int .i64 0, .int .i64 0, .slice none 0 0]), 18, 192) := by kernel_rfl
theorem str_info0 : (Tryz.prog.info? 9).map (fun i => (i.zero, i.size, i.bytes)) = some (some (.string ⟨#[]⟩), 1, 16) := by kernel_rfl
theorem exec_load_mid {P : Program} {w : World} {b o ty : Nat} {cs : List Value} {ρ : Operand → Value} {op : Oper} {x : Operand} {d : TypeDesc} (ho : op.op = .load ty x) (hx : ρ x = .pointer (some ⟨b, o, none⟩)) (hv : w.rangeAt b o cs) (hu : P.underlying ty = some d)
    (hd : d.isRow = true) (hi : (P.info? ty).map (·.size) = some cs.length) : (execOp ρ op).run P w = .ok (.value (.agg cs.toArray)) w := by
  unfold execOp
  simp only [ho, hx, Instr.loadAt, Instr.sureAddr, Sem.run_bind, Sem.run_pure, Result.andThen_ok, run_loadVar_mid w b o ty cs d hv hu hd hi]

theorem append_grown {P : Program} {w : World} {t e ty : TypeId} {z : Value} {s bytes : Nat} (ht : P.underlying t = some (.slice e)) (hinfo : (P.info? e).map (fun i => (i.zero, i.size, i.bytes)) = some (some z, s, bytes)) (hzs : z.cells.size = s) (hs0 : 0 < s) (hby : bytes ≤ 1000)
    {base n c B : Nat} {v : Value} {xs news : List Value} {A : Option Addr} (hown : w.ownsRow base e s v n xs) (hl : news.length = s) (h1 : ∀ u ∈ news, u.oneCell' = true) (hr : Seen w B A news) (hbase : base ≤ w.heap.size) (hn : n ≤ 1000) :
    ∃ A' c' w', (Builtin.append_ #[t, t] ty #[v, .slice A 1 c]).run P w = .ok (.slice A' (n + 1) c') w' ∧ w'.ownsRow base e s (.slice A' (n + 1) c') (n + 1) (xs ++ news) ∧ w.grownBy w' v.ownBlock := by
  obtain ⟨i, hi, hz, hsz, hbt⟩ := info_partsN hinfo
  obtain ⟨b, off, rfl, _, hc⟩ := hr (by intro e; rw [e] at hl; simp at hl; omega)
  have hbb : (n + 1) * bytes ≤ 1001 * 1000 := Nat.mul_le_mul (by omega) hby
  obtain ⟨v', w', hrun, h2, h3, _⟩ := run_append_own (P := P) w base t ty e i z s bytes ht hi hz hsz hbt hzs hs0 v n xs hown ⟨b, off, none⟩ 1 c news (by rw [hl]; omega) (fun j u hu => by rw [plain_add]; exact hc j u hu) h1 (by unfold maxLen; omega) (by omega) hbase
  obtain ⟨A', c', rfl, _, _⟩ := own_formN h2
  exact ⟨A', c', w', hrun, h2, h3⟩
theorem wpList_append_grown {P : Program} {w : World} {ops : Array Oper} {rest : List Oper} {o : Oper} {a : Act} {Q : Exit → Act → World → Prop} (hgd : o.guard = none) (s' x : Operand) {t e : TypeId}
    (ho : o.op = .call { callee := .builtin .append, args := #[s', x], argTypes := #[t, t] }) {z : Value} {s bytes : Nat} (ht : P.underlying t = some (.slice e)) (hinfo : (P.info? e).map (fun i => (i.zero, i.size, i.bytes)) = some (some z, s, bytes)) (hzs : z.cells.size = s) (hs0 : 0 < s) (hby : bytes ≤ 1000)
    {base n c B : Nat} {v : Value} {xs news : List Value} {A : Option Addr} (hv : a.eval s' = v) (hx : a.eval x = .slice A 1 c) (hown : w.ownsRow base e s v n xs) (hl : news.length = s) (h1 : ∀ u ∈ news, u.oneCell' = true) (hr : Seen w B A news) (hbase : base ≤ w.heap.size) (hn : n ≤ 1000)
    (h : ∀ A' c' w', w'.ownsRow base e s (.slice A' (n + 1) c') (n + 1) (xs ++ news) → w.grownBy w' v.ownBlock → wpList P ops Q rest (a.put o.dst (.slice A' (n + 1) c')) w') : wpList P ops Q (o :: rest) a w := by
  refine wpList_plain hgd fun K hK => ?_
  obtain ⟨A', c', w', hrun, k1, k2⟩ := append_grown (ty := o.type) (c := c) ht hinfo hzs hs0 hby hown hl h1 hr hbase hn
  unfold Oper.wp execOp
  simp only [ho, resolve, invoke, builtin, Sem.run_bind, Sem.run_pure, Result.andThen_ok, List.map_toArray, List.map_cons, List.map_nil, hv, hx, hrun]
  exact hK _ _ (h A' c' w' k1 k2)
/-- A row that grows turns no row of another type. -/
theorem own_apart {w w' : World} {base base' e e' n n' size size' : Nat} {v v' : Value} {xs xs' : List Value} (h : w.ownsRow base e size v n xs) (hr : w.ownsRow base' e' size' v' n' xs') (hne : e' ≠ e) (hg : w.grownBy w' v'.ownBlock) : w'.ownsRow base e size v n xs := by
  refine ⟨h.1, ?_⟩
  rcases h.2 with h0 | ⟨b, cap, cur, hv, hb, hq, hx⟩
  · exact .inl h0
  · refine .inr ⟨b, cap, cur, hv, hb, (hg.block b (heap_lt hq) fun he => ?_).trans hq, hx⟩
    rcases hr.2 with ⟨rfl, _⟩ | ⟨b', cap', cur', rfl, _, hq', _⟩
    · simp [Value.ownBlock] at he
    · simp only [Value.ownBlock, Option.some.injEq] at he
      subst he
      rw [hq] at hq'
      injection hq' with hq'
      injection hq' with _ h2 _
      exact hne h2.symm
theorem EOwn.grown {base base' n' : Nat} {w w' : World} {x : En} {A D : Option Addr} {n c m d : Nat} {v : Value} {xs : List Value} (h : EOwn base w x A n c D m d) (hr : w.ownsRow base' 32 18 v n' xs) (hg : w.grownBy w' v.ownBlock) : EOwn base w' x A n c D m d :=
  ⟨own_apart h.recs hr (by decide) hg, own_apart h.seen hr (by decide) hg, h.len, h.len2, h.four, h.good, h.small⟩
/-- .. and what lies behind it is the call's own. -/
def EX.Own (e : EX) (w : World) (B : Nat) : Prop := EOwn B w e.x e.A e.n e.c e.D e.m e.d

/-- A slice literal of one element that is a struct. -/
theorem wpList_buildOne {P : Program} {w : World} {ops : Array Oper} {rest : List Oper} {o : Oper} {a : Act} {Q : Exit → Act → World → Prop} (hg : o.guard = none) (t e : TypeId) (x : Operand) (ho : o.op = .buildSlice t 1 #[(0, x)]) (hu : P.underlying t = some (.slice e)) (cs : Array Value) (hx : a.eval x = .agg cs)
    (hf : P.builtSlice e 1 [(0, .agg cs)] = some cs) (h : wpList P ops Q rest (a.put o.dst (.slice (some ⟨w.heap.size, 0, none⟩) 1 1)) (w.alloc (.cells cs e))) : wpList P ops Q (o :: rest) a w := by
  refine Great.wpList_buildSliceTo hg t e 1 #[(0, x)] ho _ rfl _ rfl hu cs ?_ h
  simp only [List.map_toArray, List.map_cons, List.map_nil, hx]
  exact hf
theorem built_one (e : EX) : Tryz.prog.builtSlice 32 1 [(0, .agg e.vals)] = some e.vals := by kernel_rfl

/-- What a row is turned into, element by element, by a function that hands back a value and an error. -/
def EachIs {α β : Type} (f : α → β × Int) (E : Int) (l : List α) (out : List β) (er : Int) : Prop :=
  ((∀ e ∈ l, (f e).2 = 0) ∧ out = l.map (fun e => (f e).1) ∧ er = 0) ∨ ((∃ e ∈ l, (f e).2 ≠ 0) ∧ out = [] ∧ er = E)
theorem eachIs_of {α β : Type} (f : α → β × Int) (E : Int) (l : List α) : ∃ out er, EachIs f E l out er := by
  by_cases h : ∀ e ∈ l, (f e).2 = 0
  · exact ⟨_, _, .inl ⟨h, rfl, rfl⟩⟩
  · refine ⟨_, _, .inr ⟨?_, rfl, rfl⟩⟩
    simpa using h
theorem EachIs.all {α β : Type} {f : α → β × Int} {E : Int} {l : List α} {out : List β} {er : Int} (h : EachIs f E l out er) (k : ∀ e ∈ l, (f e).2 = 0) : out = l.map (fun e => (f e).1) ∧ er = 0 := by
  rcases h with ⟨_, h1, h2⟩ | ⟨⟨e, he, hn⟩, _⟩
  · exact ⟨h1, h2⟩
  · exact absurd (k e he) hn
theorem EachIs.one {α β : Type} {f : α → β × Int} {E : Int} {l : List α} {out : List β} {er : Int} (h : EachIs f E l out er) {e : α} (he : e ∈ l) (hn : (f e).2 ≠ 0) : out = [] ∧ er = E := by
  rcases h with ⟨k, _, _⟩ | ⟨_, h1, h2⟩
  · exact absurd (k e he) hn
  · exact ⟨h1, h2⟩
theorem EachIs.le {α β : Type} {f : α → β × Int} {E : Int} {l : List α} {out : List β} {er : Int} (h : EachIs f E l out er) : out.length ≤ l.length := by
  rcases h with ⟨_, h1, _⟩ | ⟨_, h1, _⟩
  · rw [h1, List.length_map]; exact Nat.le_refl _
  · rw [h1]; exact Nat.zero_le _
theorem ebytes_er {x : En} {s : ByteArray} {er : Int} (h : EBytesIs x s er) : er = 0 ∨ er = 2 := by
  rcases h with ⟨_, _, h⟩ | ⟨_, _, h⟩
  · exact .inl h
  · exact .inr h
theorem eread_er {s : ByteArray} {x : En} {er : Int} (h : EReadIs s x er) : er = 0 ∨ er = 70 := by
  rcases h with ⟨_, _, h⟩ | ⟨_, _, h⟩
  · exact .inl h
  · exact .inr h
theorem seen_own {w : World} {base n c s : Nat} {e : TypeId} {A : Option Addr} {xs : List Value} (h : w.ownsRow base e s (.slice A n c) n xs) : Seen w w.heap.size A xs := by
  obtain ⟨A', c', hv, hs, -⟩ := own_formN h
  injection hv with h1 h2 h3
  subst h1
  exact hs
theorem row_taken {α : Type} {p : α → Prop} {l : List α} {k : Nat} {x : α} (h : l[k]? = some x) (ht : ∀ e ∈ l.take k, p e) (hx : p x) : ∀ e ∈ l.take (k + 1), p e := by
  rw [List.take_add_one, h]
  intro e he
  rcases List.mem_append.1 he with he | he
  · exact ht e he
  · simp at he; subst he; exact hx
theorem take_map {α β : Type} (g : α → β) {l : List α} {k : Nat} {x : α} (h : l[k]? = some x) : (l.take (k + 1)).map g = (l.take k).map g ++ [g x] := by
  rw [List.take_add_one, h]
  simp
end Go.Proofs.YtchpemgamgcbkaaGreat
