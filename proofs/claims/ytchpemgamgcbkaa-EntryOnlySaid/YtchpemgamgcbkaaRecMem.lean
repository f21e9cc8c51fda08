/-
  Records and rows as cells; batches that came in by value, opened to their records; when two records, two rows are the same. No conditions.
-/
import Derived.Test.YtchpemgamgcbkaaRecPlain
import Derived.Deep.Slices
import Derived.ChangeArms
import Derived.Lib.SmallJoins
import Derived.Laws.StructEq
namespace Go.Proofs.Ytchpemgamgcbkaa
open Go.RowKit

/-! ### rows of elements of one width -/
theorem flat_at {α : Type} (f : α → List Value) (m : Nat) (hm : ∀ x, (f x).length = m) {l : List α} {k : Nat} {x : α} (h : l[k]? = some x) (j : Nat) (hj : j < m) : (l.flatMap f)[k * m + j]? = (f x)[j]? := by
  induction l generalizing k with
  | nil => simp at h
  | cons y r ih =>
    rw [List.flatMap_cons]
    rcases k with _ | k
    · simp at h
      subst h
      rw [List.getElem?_append_left (by rw [hm]; omega)]
      congr 1
      omega
    · rw [List.getElem?_append_right (by rw [hm, Nat.add_mul]; omega), hm]
      rw [show (k + 1) * m + j - m = k * m + j by rw [Nat.add_mul]; omega]
      exact ih (by simpa using h)
theorem flat_length {α : Type} (f : α → List Value) (m : Nat) (hm : ∀ x, (f x).length = m) (l : List α) : (l.flatMap f).length = l.length * m := by
  induction l with
  | nil => simp
  | cons y r ih => rw [List.flatMap_cons, List.length_append, hm, ih, List.length_cons, Nat.add_mul]; omega
theorem in_some {α : Type} (l : List α) (i n : Nat) (hl : l.length = n) (hi : i < n) : ∃ x, l[i]? = some x := ⟨_, List.getElem?_eq_getElem (by omega)⟩
/-- All cells of such a row, one by one. -/
theorem flat_all {α : Type} (f : α → List Value) (m : Nat) (hm0 : 0 < m) (hm : ∀ x, (f x).length = m) {p : Nat → Value → Prop} {l : List α} (h : ∀ k x j u, l[k]? = some x → j < m → (f x)[j]? = some u → p (k * m + j) u) : ∀ i u, (l.flatMap f)[i]? = some u → p i u := by
  intro i u hi
  have hlt : i < l.length * m := by rw [← flat_length f m hm]; exact (List.getElem?_eq_some_iff.1 hi).1
  obtain ⟨x, hx⟩ := in_some l (i / m) l.length rfl ((Nat.div_lt_iff_lt_mul hm0).2 hlt)
  have hj := Nat.mod_lt i hm0
  have he : i / m * m + i % m = i := by rw [Nat.mul_comm]; exact Nat.div_add_mod i m
  have := flat_at f m hm hx (i % m) hj
  rw [he, hi] at this
  have h2 := h _ _ _ u hx hj this.symm
  rwa [he] at h2

def rcell (r : Rc) : List Value := [.string r.k, .string r.v]
theorem rcell_get {r : Rc} {j : Nat} {u : Value} (hj : j < 2) (h : (rcell r)[j]? = some u) : (j = 0 ∧ u = .string r.k) ∨ (j = 1 ∧ u = .string r.v) := by
  match j, hj with
  | 0, _ => exact .inl ⟨rfl, by simpa [rcell] using h.symm⟩
  | 1, _ => exact .inr ⟨rfl, by simpa [rcell] using h.symm⟩
def rcells (l : List Rc) : List Value := l.flatMap rcell
theorem rcells_length (l : List Rc) : (rcells l).length = l.length * 2 := flat_length rcell 2 (fun _ => rfl) l
theorem rcells_append (a b : List Rc) : rcells (a ++ b) = rcells a ++ rcells b := by simp [rcells]
theorem rcells_one (l : List Rc) : ∀ u ∈ rcells l, u.oneCell' = true := by
  intro u hu
  simp only [rcells, List.mem_flatMap, rcell] at hu
  obtain ⟨f, _, hu⟩ := hu
  simp at hu
  rcases hu with rfl | rfl <;> rfl
/-- The record in place k, in memory. -/
theorem rec_at {w : World} {B : Nat} {A : Option Addr} {l : List Rc} {k : Nat} {r : Rc} (h : Seen w B A (rcells l)) (hk : l[k]? = some r) :
    ∃ b off, A = some ⟨b, off, none⟩ ∧ b < B ∧ w.cell? ⟨b, off + k * 2, none⟩ = some (.string r.k) ∧ w.cell? ⟨b, off + k * 2 + 1, none⟩ = some (.string r.v) := by
  have ha : ∀ j, j < 2 → (rcells l)[k * 2 + j]? = (rcell r)[j]? := fun j hj => flat_at rcell 2 (fun _ => rfl) hk j hj
  obtain ⟨b, off, rfl, hb, hc⟩ := h (by intro e; have := ha 0 (by omega); rw [e] at this; simp [rcell] at this)
  refine ⟨b, off, rfl, hb, hc _ _ (ha 0 (by omega)), ?_⟩
  rw [Nat.add_assoc]
  exact hc _ _ (ha 1 (by omega))
theorem rec_here {l : List Rc} {k n : Nat} (hn : l.length = n) (hk : k < n) : ∃ r, l[k]? = some r := ⟨_, List.getElem?_eq_getElem (by omega)⟩

/-- A row as cells. -/
structure Rw where
  off : Int
  pid : Int
  sq : Int
  k : ByteArray
  v : ByteArray
def rwcell (r : Rw) : List Value := [.int .i64 r.off, .int .i64 r.pid, .int .i64 r.sq, .string r.k, .string r.v]
def rwcells (l : List Rw) : List Value := l.flatMap rwcell
theorem rwcells_length (l : List Rw) : (rwcells l).length = l.length * 5 := flat_length rwcell 5 (fun _ => rfl) l
theorem rwcells_append (a b : List Rw) : rwcells (a ++ b) = rwcells a ++ rwcells b := by simp [rwcells]
theorem rwcells_one (l : List Rw) : ∀ u ∈ rwcells l, u.oneCell' = true := by
  intro u hu
  simp only [rwcells, List.mem_flatMap, rwcell] at hu
  obtain ⟨f, _, hu⟩ := hu
  simp at hu
  rcases hu with rfl | rfl | rfl | rfl | rfl <;> rfl
theorem row_at {w : World} {B : Nat} {A : Option Addr} {l : List Rw} {k : Nat} {r : Rw} (h : Seen w B A (rwcells l)) (hk : l[k]? = some r) :
    ∃ b off, A = some ⟨b, off, none⟩ ∧ b < B ∧ w.cell? ⟨b, off + k * 5, none⟩ = some (.int .i64 r.off) ∧ w.cell? ⟨b, off + k * 5 + 1, none⟩ = some (.int .i64 r.pid) ∧ w.cell? ⟨b, off + k * 5 + 2, none⟩ = some (.int .i64 r.sq) ∧
      w.cell? ⟨b, off + k * 5 + 3, none⟩ = some (.string r.k) ∧ w.cell? ⟨b, off + k * 5 + 4, none⟩ = some (.string r.v) := by
  have ha : ∀ j, j < 5 → (rwcells l)[k * 5 + j]? = (rwcell r)[j]? := fun j hj => flat_at rwcell 5 (fun _ => rfl) hk j hj
  obtain ⟨b, off, rfl, hb, hc⟩ := h (by intro e; have := ha 0 (by omega); rw [e] at this; simp [rwcell] at this)
  refine ⟨b, off, rfl, hb, hc _ _ (ha 0 (by omega)), ?_, ?_, ?_, ?_⟩ <;> rw [Nat.add_assoc]
  · exact hc _ _ (ha 1 (by omega))
  · exact hc _ _ (ha 2 (by omega))
  · exact hc _ _ (ha 3 (by omega))
  · exact hc _ _ (ha 4 (by omega))
theorem row_here {l : List Rw} {k n : Nat} (hn : l.length = n) (hk : k < n) : ∃ r, l[k]? = some r := ⟨_, List.getElem?_eq_getElem (by omega)⟩

/-- The rows of a batch. -/
def rowOf (b : Bt) (off : Int) (i : Nat) (r : Rc) : Rw := ⟨if off = -1 then -1 else wrap64 (off + i), b.pid, wrap64 (b.sq + i), r.k, r.v⟩
def rowsOf (b : Bt) (off : Int) : List Rw := b.rs.zipIdx.map fun x => rowOf b off x.2 x.1
theorem rowsOf_length (b : Bt) (off : Int) : (rowsOf b off).length = b.rs.length := by simp [rowsOf]
theorem rowsOf_at {b : Bt} {off : Int} {k : Nat} {r : Rc} (h : b.rs[k]? = some r) : (rowsOf b off)[k]? = some (rowOf b off k r) := by
  simp [rowsOf, h]
theorem rowsOf_take {b : Bt} {off : Int} {k : Nat} {r : Rc} (h : b.rs[k]? = some r) : (rowsOf b off).take (k + 1) = (rowsOf b off).take k ++ [rowOf b off k r] := by
  rw [List.take_add_one, rowsOf_at h]; rfl

theorem Var.cells2 {w : World} {g T : Nat} {a b : Value} (h : Var w g T #[a, b]) : w.cell? ⟨g, 0, none⟩ = some a ∧ w.cell? ⟨g, 1, none⟩ = some b ∧ ∀ i, w.frozen? ⟨g, i, none⟩ = false :=
  ⟨h.cell 0 rfl, h.cell 1 rfl, h.free⟩
theorem Var.cells5 {w : World} {g T : Nat} {a b c d e : Value} (h : Var w g T #[a, b, c, d, e]) : w.cell? ⟨g, 0, none⟩ = some a ∧ w.cell? ⟨g, 1, none⟩ = some b ∧ w.cell? ⟨g, 2, none⟩ = some c ∧ w.cell? ⟨g, 3, none⟩ = some d ∧ w.cell? ⟨g, 4, none⟩ = some e ∧ ∀ i, w.frozen? ⟨g, i, none⟩ = false :=
  ⟨h.cell 0 rfl, h.cell 1 rfl, h.cell 2 rfl, h.cell 3 rfl, h.cell 4 rfl, h.free⟩
/-- What a contract's 'Below' says of the old cells, for the walk. -/
theorem bcell {W w1 : World} (hb : Below W.heap.size W w1) : (∀ b o, b < W.heap.size → w1.cell? ⟨b, o, none⟩ = W.cell? ⟨b, o, none⟩) ∧ (∀ b o, b < W.heap.size → w1.frozen? ⟨b, o, none⟩ = W.frozen? ⟨b, o, none⟩) :=
  ⟨fun b o h => hb.cell (p := ⟨b, o, none⟩) h, fun b o h => hb.frozen (p := ⟨b, o, none⟩) h⟩

theorem ret_bool {a b : Bool} (h : a = b) : Ending.returned (.bool a) = .returned (.bool b) := by rw [h]
theorem ret_str {a b : ByteArray} (h : a = b) : Ending.returned (.string a) = .returned (.string b) := by rw [h]

/-! ### when two are the same -/
@[go_sem] theorem rec_eq (a b c d : ByteArray) (w : World) : (Op.equalIn 10000 48 (.agg #[.string a, .string b]) (.agg #[.string c, .string d])).run Try.prog w = .ok (a.toList == c.toList && b.toList == d.toList) w := by
  have u1 := Try.underlying9
  have a1 := Try.isAgg9
  have z1 := Try.sizeOf9
  have hS : Try.prog.underlying 48 = some (.struct (Try.prog.fieldsOf 48)) := by kernel_rfl
  have hp : Try.prog.stoodInHeld 48 = false := by kernel_rfl
  rw [show (10000 : Nat) = 9999 + 1 from rfl, run_equalIn_agg w 9999 48 _ _ hS hp]
  simp only [Program.fieldsOf, Try.underlying48]
  go_simp
  cases h1 : a.toList == c.toList <;> cases h2 : b.toList == d.toList <;> simp_all
@[go_sem] theorem row_eq (x y z x' y' z' : Int) (a b c d : ByteArray) (w : World) : (Op.equalIn 10000 27 (.agg #[.int .i64 x, .int .i64 y, .int .i64 z, .string a, .string b]) (.agg #[.int .i64 x', .int .i64 y', .int .i64 z', .string c, .string d])).run Try.prog w =
    .ok (x == x' && (y == y' && (z == z' && (a.toList == c.toList && b.toList == d.toList)))) w := by
  have u1 := Try.underlying9
  have a1 := Try.isAgg9
  have z1 := Try.sizeOf9
  have u3 := Try.underlying3
  have a3 := Try.isAgg3
  have z3 := Try.sizeOf3
  have hS : Try.prog.underlying 27 = some (.struct (Try.prog.fieldsOf 27)) := by kernel_rfl
  have hp : Try.prog.stoodInHeld 27 = false := by kernel_rfl
  rw [show (10000 : Nat) = 9999 + 1 from rfl, run_equalIn_agg w 9999 27 _ _ hS hp]
  simp only [Program.fieldsOf, Try.underlying27]
  go_simp
  cases h1 : x == x' <;> cases h2 : y == y' <;> cases h3 : z == z' <;> cases h4 : a.toList == c.toList <;> cases h5 : b.toList == d.toList <;> simp_all
theorem toList_is (a : ByteArray) : a.toList = bytesOf a := by
  rw [ByteArray.toList_eq]
  rfl
theorem eqS (a b : ByteArray) : (a.toList == b.toList) = true ↔ a = b := by
  rw [beq_iff_eq, toList_is, toList_is]
  exact ⟨string_ext, fun h => by rw [h]⟩

/-! ### batches that came in -/
section
variable {H : Type} {enc : TypeId × Value → H} {w : World} {base : Nat} {spare : Nat → Bool} {held : Bool} {fuel : Nat} {a : Option Addr} {len cap : Nat} {x : DataW H × List MemPlace}

theorem in_cut {α : Type} (l : List α) (i : Nat) (x : α) (h : l[i]? = some x) : (l.drop i).take 1 = [x] := by
  obtain ⟨hi, he⟩ := List.getElem?_eq_some_iff.1 h
  rw [List.drop_eq_getElem_cons hi, he]
  rfl
theorem in_spot2 {w : World} {ad : Addr} {v : Value} (h : w.cell? ((ad.add (0 * 2)).add 0) = some v) : ∃ b off, ad = ⟨b, off, none⟩ ∧ b < w.heap.size := by
  have he : (ad.add (0 * 2)).add 0 = ad := by simp [Addr.add]
  rw [he] at h
  obtain ⟨b, off, spot⟩ := ad
  have hs : spot = none := World.cell?_spot h
  subst hs
  exact ⟨b, off, rfl, World.block_lt_of_cell? w _ h⟩
theorem in_choose {α : Type} {p : Nat → α → Prop} : ∀ (n : Nat), (∀ i, i < n → ∃ x, p i x) → ∃ xs : List α, xs.length = n ∧ ∀ i x, xs[i]? = some x → p i x := by
  intro n
  induction n with
  | zero => intro _; exact ⟨[], rfl, by simp⟩
  | succ n ih =>
    intro h
    obtain ⟨xs, hl, hx⟩ := ih fun i hi => h i (by omega)
    obtain ⟨x, hp⟩ := h n (by omega)
    refine ⟨xs ++ [x], by simp [hl], fun i y hy => ?_⟩
    by_cases hi : i < n
    · rw [List.getElem?_append_left (by omega)] at hy
      exact hx i y hy
    · rw [List.getElem?_append_right (by omega)] at hy
      have he : i = n := by
        by_cases hk : i - xs.length = 0
        · omega
        · rw [List.getElem?_eq_none (by simp; omega)] at hy
          simp at hy
      subst he
      simp [hl] at hy
      subst hy
      exact hp
theorem recs_in (h : DataW.trod enc Try.prog w base spare held fuel 23 [.slice a len cap] = some x) :
    ∃ l : List Rc, l.length = len ∧ len ≤ cap ∧ Seen w w.heap.size a (rcells l) ∧ cap ≤ maxLen ∧ ∀ y ∈ l, y.k.size ≤ maxLen ∧ y.v.size ≤ maxLen := by
  have hC : Try.prog.cellsOf 48 = 2 := by kernel_rfl
  have hS : Try.prog.cellsOf 9 = 1 := by kernel_rfl
  rcases Deep.open_slice Try.underlying23 h with ⟨hcs, _⟩ | ⟨ad, l, c, m, n, D, Pl, hcs, _, hlc, hcm, hm, _, hi⟩
  · simp at hcs
    obtain ⟨rfl, rfl, rfl⟩ := hcs
    exact ⟨[], rfl, Nat.le_refl _, Seen.nil _ _ _, Nat.zero_le _, by simp⟩
  · simp at hcs
    obtain ⟨rfl, rfl, rfl⟩ := hcs
    have one : ∀ i, i < len → ∃ y : Rc, ∃ b off, ad = ⟨b, off, none⟩ ∧ b < w.heap.size ∧ (w.cell? ⟨b, off + i * 2, none⟩ = some (.string y.k) ∧ w.cell? ⟨b, off + i * 2 + 1, none⟩ = some (.string y.v)) ∧ y.k.size ≤ maxLen ∧ y.v.size ≤ maxLen := by
      intro i hil
      obtain ⟨cs', hc, ht⟩ := hi i (by rw [hm]; split <;> omega)
      rw [hC] at hc
      obtain ⟨_, hl, hat⟩ := World.cells?_some hc
      obtain ⟨xs, n', _, _, _, hxl, hf⟩ := DataW.trod_struct Try.underlying48 ht
      obtain ⟨c0, h0⟩ := in_some cs' 0 2 hl (by omega)
      obtain ⟨c1, h1⟩ := in_some cs' 1 2 hl (by omega)
      obtain ⟨y0, g0⟩ := in_some xs 0 2 hxl (by omega)
      obtain ⟨y1, g1⟩ := in_some xs 1 2 hxl (by omega)
      have f0 : DataW.trod enc Try.prog w base spare held n' 9 ((cs'.drop 0).take (Try.prog.cellsOf 9)) = xs[0]? := hf 0 _ rfl
      have f1 : DataW.trod enc Try.prog w base spare held n' 9 ((cs'.drop 1).take (Try.prog.cellsOf 9)) = xs[1]? := hf 1 _ rfl
      rw [hS, in_cut _ _ _ h0, g0] at f0
      rw [hS, in_cut _ _ _ h1, g1] at f1
      obtain ⟨o, e0, _, ho⟩ := DataW.trod_string Try.underlying9 f0
      obtain ⟨d, e1, _, hd⟩ := DataW.trod_string Try.underlying9 f1
      simp only [List.cons.injEq, and_true] at e0 e1
      subst e0 e1
      have k0 := hat 0 (by omega)
      have k1 := hat 1 (by omega)
      rw [h0] at k0
      rw [h1] at k1
      obtain ⟨i0, hi0⟩ : ∃ i0 : Nat, i0 = 0 := ⟨0, rfl⟩
      obtain ⟨cs0, hc0, _⟩ := hi i0 (by rw [hm]; split <;> omega)
      rw [hC] at hc0
      obtain ⟨_, hl0, hat0⟩ := World.cells?_some hc0
      obtain ⟨z, hz⟩ := in_some cs0 0 2 hl0 (by omega)
      subst hi0
      obtain ⟨b, off, rfl, hb⟩ := in_spot2 ((hat0 0 (by omega)).trans hz)
      simp only [plain_add] at k0 k1
      exact ⟨⟨o, d⟩, b, off, rfl, hb, ⟨by simpa using k0, k1⟩, ho, hd⟩
    obtain ⟨ws, hlen, hws⟩ := in_choose len one
    refine ⟨ws, hlen, by omega, fun hne => ?_, by omega, fun y hy => ?_⟩
    · obtain ⟨y, hy⟩ := in_some ws 0 ws.length rfl (by
        rcases ws with _ | ⟨y, r⟩
        · exact absurd rfl hne
        · simp)
      obtain ⟨b, off, rfl, hb, _, _⟩ := hws 0 y hy
      refine ⟨b, off, rfl, hb, flat_all rcell 2 (by omega) (fun _ => rfl) (p := fun i u => w.cell? ⟨b, off + i, none⟩ = some u) fun k g j u hg hj hu => ?_⟩
      obtain ⟨b', off', he, _, ⟨hk, hk'⟩, _⟩ := hws k g hg
      simp only [Addr.mk.injEq, and_true] at he
      obtain ⟨rfl, rfl⟩ := he
      rcases rcell_get hj hu with ⟨rfl, rfl⟩ | ⟨rfl, rfl⟩
      · exact hk
      · exact hk'
    · obtain ⟨k, hk⟩ := List.mem_iff_getElem?.1 hy
      obtain ⟨_, _, _, _, _, hh⟩ := hws k y hk
      exact hh

theorem list5 {α : Type} {l : List α} {a b c d e : α} (h : l.length = 5) (h0 : l[0]? = some a) (h1 : l[1]? = some b) (h2 : l[2]? = some c) (h3 : l[3]? = some d) (h4 : l[4]? = some e) : l = [a, b, c, d, e] := by
  rcases l with _ | ⟨x0, _ | ⟨x1, _ | ⟨x2, _ | ⟨x3, _ | ⟨x4, _ | ⟨x5, r⟩⟩⟩⟩⟩⟩ <;> simp at h h0 h1 h2 h3 h4
  subst h0 h1 h2 h3 h4
  rfl
set_option maxRecDepth 100000 in
theorem batch_in {r : Reach} {b0 : Nat} {v : Value} {d : DataW H} {p : List MemPlace} (hv : Value.okWide Try.prog w r b0 25 v) (h : DataW.Trod enc Try.prog w base spare held 25 v d p) :
    ∃ (A : Option Addr) (n c : Nat) (rs : List Rc) (pid ep sq : Int) (tx : Bool), v = .agg #[.int .i64 pid, .int .i64 ep, .int .i64 sq, .bool tx, .slice A n c] ∧ rs.length = n ∧ n ≤ c ∧ Seen w w.heap.size A (rcells rs) ∧ c ≤ 9223372036854775807 ∧
      (∀ y ∈ rs, y.k.size ≤ 9223372036854775807 ∧ y.v.size ≤ 9223372036854775807) ∧ (-9223372036854775808 ≤ pid ∧ pid ≤ 9223372036854775807) ∧ (-9223372036854775808 ≤ ep ∧ ep ≤ 9223372036854775807) ∧ (-9223372036854775808 ≤ sq ∧ sq ≤ 9223372036854775807) := by
  have hC : Try.prog.cellsOf 25 = 5 := by kernel_rfl
  have hI : Try.prog.cellsOf 3 = 1 := by kernel_rfl
  have hL : Try.prog.cellsOf 4 = 1 := by kernel_rfl
  have hS : Try.prog.cellsOf 23 = 1 := by kernel_rfl
  obtain ⟨cs, rfl, hsz⟩ := WideShapes.okWide_struct Try.underlying25 hv
  rw [hC] at hsz
  obtain ⟨fuel, ht⟩ := h
  obtain ⟨xs, n', _, _, _, hxl, hf⟩ := DataW.trod_struct Try.underlying25 ht
  obtain ⟨l⟩ := cs
  have hl : l.length = 5 := by simpa using hsz
  obtain ⟨v0, q0⟩ := in_some l 0 5 hl (by omega)
  obtain ⟨v1, q1⟩ := in_some l 1 5 hl (by omega)
  obtain ⟨v2, q2⟩ := in_some l 2 5 hl (by omega)
  obtain ⟨v3, q3⟩ := in_some l 3 5 hl (by omega)
  obtain ⟨v4, q4⟩ := in_some l 4 5 hl (by omega)
  obtain ⟨y0, g0⟩ := in_some xs 0 5 hxl (by omega)
  obtain ⟨y1, g1⟩ := in_some xs 1 5 hxl (by omega)
  obtain ⟨y2, g2⟩ := in_some xs 2 5 hxl (by omega)
  obtain ⟨y3, g3⟩ := in_some xs 3 5 hxl (by omega)
  obtain ⟨y4, g4⟩ := in_some xs 4 5 hxl (by omega)
  have h0 : DataW.trod enc Try.prog w base spare held n' 3 ((l.drop 0).take (Try.prog.cellsOf 3)) = xs[0]? := hf 0 _ rfl
  have h1 : DataW.trod enc Try.prog w base spare held n' 3 ((l.drop 1).take (Try.prog.cellsOf 3)) = xs[1]? := hf 1 _ rfl
  have h2 : DataW.trod enc Try.prog w base spare held n' 3 ((l.drop 2).take (Try.prog.cellsOf 3)) = xs[2]? := hf 2 _ rfl
  have h3 : DataW.trod enc Try.prog w base spare held n' 4 ((l.drop 3).take (Try.prog.cellsOf 4)) = xs[3]? := hf 3 _ rfl
  have h4 : DataW.trod enc Try.prog w base spare held n' 23 ((l.drop 4).take (Try.prog.cellsOf 23)) = xs[4]? := hf 4 _ rfl
  rw [hI, in_cut _ _ _ q0, g0] at h0
  rw [hI, in_cut _ _ _ q1, g1] at h1
  rw [hI, in_cut _ _ _ q2, g2] at h2
  rw [hL, in_cut _ _ _ q3, g3] at h3
  rw [hS, in_cut _ _ _ q4, g4] at h4
  have hv5 : l = [v0, v1, v2, v3, v4] := list5 hl q0 q1 q2 q3 q4
  subst hv5
  obtain ⟨pid, e0, _, w0⟩ := DataW.trod_int Try.underlying3 h0
  obtain ⟨ep, e1, _, w1⟩ := DataW.trod_int Try.underlying3 h1
  obtain ⟨sq, e2, _, w2⟩ := DataW.trod_int Try.underlying3 h2
  obtain ⟨tx, e3, _⟩ := DataW.trod_bool Try.underlying4 h3
  have h4' := h4
  have hml : maxLen ≤ 9223372036854775807 := by decide
  rcases Deep.open_slice Try.underlying23 h4 with ⟨hcs, _⟩ | ⟨ad, l, c, m, n, D, Pl, hcs, _⟩
  · simp only [List.cons.injEq, and_true] at hcs e0 e1 e2 e3
    subst hcs e0 e1 e2 e3
    exact ⟨none, 0, 0, [], pid, ep, sq, tx, rfl, rfl, Nat.le_refl _, Seen.nil _ _ _, Nat.zero_le _, (fun f hf => by cases hf), bounds_i64 w0, bounds_i64 w1, bounds_i64 w2⟩
  · simp only [List.cons.injEq, and_true] at hcs e0 e1 e2 e3
    subst hcs e0 e1 e2 e3
    obtain ⟨rs, hl, hlc, hs, hm, hf⟩ := recs_in h4'
    exact ⟨some ad, l, c, rs, pid, ep, sq, tx, rfl, hl, hlc, hs, Nat.le_trans hm hml, fun f hh => ⟨Nat.le_trans (hf f hh).1 hml, Nat.le_trans (hf f hh).2 hml⟩, bounds_i64 w0, bounds_i64 w1, bounds_i64 w2⟩
end
/-- What a machine can hold of a batch that came in. -/
structure BIn (w : World) (A : Option Addr) (n c : Nat) (b : Bt) : Prop where
  len : b.rs.length = n
  seen : Seen w w.heap.size A (rcells b.rs)
  max : n ≤ 9223372036854775807
  cap : n ≤ c
  sizes : ∀ y ∈ b.rs, y.k.size ≤ 9223372036854775807 ∧ y.v.size ≤ 9223372036854775807

set_option maxRecDepth 100000 in
theorem batch_bin {H : Type} {enc : TypeId × Value → H} {w : World} {base : Nat} {spare : Nat → Bool} {held : Bool} {r : Reach} {b0 : Nat} {v : Value} {d : DataW H} {p : List MemPlace} (hv : Value.okWide Try.prog w r b0 25 v) (h : DataW.Trod enc Try.prog w base spare held 25 v d p) :
    ∃ (A : Option Addr) (n c : Nat) (rs : List Rc) (pid ep sq : Int) (tx : Bool), v = .agg #[.int .i64 pid, .int .i64 ep, .int .i64 sq, .bool tx, .slice A n c] ∧ BIn w A n c ⟨pid, ep, sq, tx, rs⟩ ∧ (-9223372036854775808 ≤ pid ∧ pid ≤ 9223372036854775807) ∧ (-9223372036854775808 ≤ ep ∧ ep ≤ 9223372036854775807) ∧ (-9223372036854775808 ≤ sq ∧ sq ≤ 9223372036854775807) := by
  obtain ⟨A, n, c, rs, pid, ep, sq, tx, hv, hl, hc, hs, hm, hz, h1, h2, h3⟩ := batch_in hv h
  exact ⟨A, n, c, rs, pid, ep, sq, tx, hv, ⟨hl, hs, Nat.le_trans hc hm, hc, hz⟩, h1, h2, h3⟩
end Go.Proofs.Ytchpemgamgcbkaa
