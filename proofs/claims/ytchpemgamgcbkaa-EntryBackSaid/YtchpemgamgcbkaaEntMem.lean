/-
  Entries, producers and batches that were seen as cells; when two batches that were seen are the same. No conditions.
-/
import Derived.Test.YtchpemgamgcbkaaEntPlain
namespace Go.Proofs.Ytchpemgamgcbkaa
open Go.RowKit

def scell (s : Sn) : List Value := [.int .i64 s.sq, .int .i64 s.cnt, .int .i64 s.bs]
def scells (l : List Sn) : List Value := l.flatMap scell
theorem scells_length (l : List Sn) : (scells l).length = l.length * 3 := flat_length scell 3 (fun _ => rfl) l
theorem scells_append (a b : List Sn) : scells (a ++ b) = scells a ++ scells b := by simp [scells]
theorem scells_one (l : List Sn) : ∀ u ∈ scells l, u.oneCell' = true := by
  intro u hu
  simp only [scells, List.mem_flatMap, scell] at hu
  obtain ⟨f, _, hu⟩ := hu
  simp at hu
  rcases hu with rfl | rfl | rfl <;> rfl
theorem sn_at {w : World} {B : Nat} {A : Option Addr} {l : List Sn} {k : Nat} {r : Sn} (h : Seen w B A (scells l)) (hk : l[k]? = some r) :
    ∃ b off, A = some ⟨b, off, none⟩ ∧ b < B ∧ w.cell? ⟨b, off + k * 3, none⟩ = some (.int .i64 r.sq) ∧ w.cell? ⟨b, off + k * 3 + 1, none⟩ = some (.int .i64 r.cnt) ∧ w.cell? ⟨b, off + k * 3 + 2, none⟩ = some (.int .i64 r.bs) := by
  have ha : ∀ j, j < 3 → (scells l)[k * 3 + j]? = (scell r)[j]? := fun j hj => flat_at scell 3 (fun _ => rfl) hk j hj
  obtain ⟨b, off, rfl, hb, hc⟩ := h (by intro e; have := ha 0 (by omega); rw [e] at this; simp [scell] at this)
  refine ⟨b, off, rfl, hb, hc _ _ (ha 0 (by omega)), ?_, ?_⟩ <;> rw [Nat.add_assoc]
  · exact hc _ _ (ha 1 (by omega))
  · exact hc _ _ (ha 2 (by omega))
theorem sn_here {l : List Sn} {k n : Nat} (hn : l.length = n) (hk : k < n) : ∃ r, l[k]? = some r := ⟨_, List.getElem?_eq_getElem (by omega)⟩

theorem Var.cells3 {w : World} {g T : Nat} {a b c : Value} (h : Var w g T #[a, b, c]) : w.cell? ⟨g, 0, none⟩ = some a ∧ w.cell? ⟨g, 1, none⟩ = some b ∧ w.cell? ⟨g, 2, none⟩ = some c ∧ ∀ i, w.frozen? ⟨g, i, none⟩ = false :=
  ⟨h.cell 0 rfl, h.cell 1 rfl, h.cell 2 rfl, h.free⟩
theorem Var.cells4 {w : World} {g T : Nat} {a b c d : Value} (h : Var w g T #[a, b, c, d]) : w.cell? ⟨g, 0, none⟩ = some a ∧ w.cell? ⟨g, 1, none⟩ = some b ∧ w.cell? ⟨g, 2, none⟩ = some c ∧ w.cell? ⟨g, 3, none⟩ = some d ∧ ∀ i, w.frozen? ⟨g, i, none⟩ = false :=
  ⟨h.cell 0 rfl, h.cell 1 rfl, h.cell 2 rfl, h.cell 3 rfl, h.free⟩
/-- A producer's cells; the batches that it has seen lie at A. -/
def pvals (p : Pd) (A : Option Addr) (n c : Nat) : Array Value := #[.int .i64 p.pid, .int .i64 p.ep, .int .i64 p.nx, .slice A n c]
/-- An entry's cells; its records lie at A, the batches that its producer has seen at A2. -/
def evals (x : En) (A : Option Addr) (n c : Nat) (A2 : Option Addr) (n2 c2 : Nat) : Array Value :=
  #[.int .i8 x.kind, .int .i64 x.b.pid, .int .i64 x.b.ep, .int .i64 x.b.sq, .bool x.b.tx, .slice A n c, .bool x.yes, .int .i64 x.nx, .int .i64 x.off,
    .int .i64 x.row.off, .int .i64 x.row.pid, .int .i64 x.row.sq, .string x.row.k, .string x.row.v, .int .i64 x.pd.pid, .int .i64 x.pd.ep, .int .i64 x.pd.nx, .slice A2 n2 c2]
theorem Var.cells18 {w : World} {g T : Nat} {a0 a1 a2 a3 a4 a5 a6 a7 a8 a9 a10 a11 a12 a13 a14 a15 a16 a17 : Value} (h : Var w g T #[a0, a1, a2, a3, a4, a5, a6, a7, a8, a9, a10, a11, a12, a13, a14, a15, a16, a17]) :
    w.cell? ⟨g, 0, none⟩ = some a0 ∧ w.cell? ⟨g, 1, none⟩ = some a1 ∧ w.cell? ⟨g, 2, none⟩ = some a2 ∧ w.cell? ⟨g, 3, none⟩ = some a3 ∧ w.cell? ⟨g, 4, none⟩ = some a4 ∧ w.cell? ⟨g, 5, none⟩ = some a5 ∧ w.cell? ⟨g, 6, none⟩ = some a6 ∧ w.cell? ⟨g, 7, none⟩ = some a7 ∧
    w.cell? ⟨g, 8, none⟩ = some a8 ∧ w.cell? ⟨g, 9, none⟩ = some a9 ∧ w.cell? ⟨g, 10, none⟩ = some a10 ∧ w.cell? ⟨g, 11, none⟩ = some a11 ∧ w.cell? ⟨g, 12, none⟩ = some a12 ∧ w.cell? ⟨g, 13, none⟩ = some a13 ∧ w.cell? ⟨g, 14, none⟩ = some a14 ∧
    w.cell? ⟨g, 15, none⟩ = some a15 ∧ w.cell? ⟨g, 16, none⟩ = some a16 ∧ w.cell? ⟨g, 17, none⟩ = some a17 ∧ ∀ i, w.frozen? ⟨g, i, none⟩ = false :=
  ⟨h.cell 0 rfl, h.cell 1 rfl, h.cell 2 rfl, h.cell 3 rfl, h.cell 4 rfl, h.cell 5 rfl, h.cell 6 rfl, h.cell 7 rfl, h.cell 8 rfl, h.cell 9 rfl, h.cell 10 rfl, h.cell 11 rfl, h.cell 12 rfl, h.cell 13 rfl, h.cell 14 rfl, h.cell 15 rfl, h.cell 16 rfl, h.cell 17 rfl, h.free⟩

/-- A producer in memory: what lies behind its cells, in blocks below B. -/
structure PIn (w : World) (B : Nat) (p : Pd) (A : Option Addr) (n c : Nat) : Prop where
  len : p.sn.length = n
  seen : Seen w B A (scells p.sn)
  cap : n ≤ c
  max : n ≤ 9223372036854775807
/-- An entry in memory: what lies behind its cells, in blocks below B. -/
structure EIn (w : World) (B : Nat) (x : En) (A : Option Addr) (n c : Nat) (A2 : Option Addr) (n2 c2 : Nat) : Prop where
  len : x.b.rs.length = n
  seen : Seen w B A (rcells x.b.rs)
  cap : n ≤ c
  max : n ≤ 9223372036854775807
  sizes : ∀ y ∈ x.b.rs, y.k.size ≤ 9223372036854775807 ∧ y.v.size ≤ 9223372036854775807
  ksize : x.row.k.size ≤ 9223372036854775807 ∧ x.row.v.size ≤ 9223372036854775807
  pd : PIn w B x.pd A2 n2 c2
section
variable {w w' : World} {B B' : Nat} {p : Pd} {x : En} {A A2 : Option Addr} {n c n2 c2 : Nat}
theorem PIn.below (h : PIn w B p A n c) (hb : Below B w w') : PIn w' B p A n c := ⟨h.len, h.seen.below hb, h.cap, h.max⟩
theorem PIn.up (h : PIn w B p A n c) (hb : B ≤ B') : PIn w B' p A n c := ⟨h.len, h.seen.up hb, h.cap, h.max⟩
theorem EIn.below (h : EIn w B x A n c A2 n2 c2) (hb : Below B w w') : EIn w' B x A n c A2 n2 c2 := ⟨h.len, h.seen.below hb, h.cap, h.max, h.sizes, h.ksize, h.pd.below hb⟩
theorem EIn.up (h : EIn w B x A n c A2 n2 c2) (hb : B ≤ B') : EIn w B' x A n c A2 n2 c2 := ⟨h.len, h.seen.up hb, h.cap, h.max, h.sizes, h.ksize, h.pd.up hb⟩
end
theorem noEn_in (w : World) (B : Nat) : EIn w B noEn none 0 0 none 0 0 := ⟨rfl, Seen.nil _ _ _, Nat.le_refl _, by omega, fun y hy => (by cases hy), ⟨by simp [noEn, noRw, ByteArray.size], by simp [noEn, noRw, ByteArray.size]⟩, ⟨rfl, Seen.nil _ _ _, Nat.le_refl _, by omega⟩⟩

@[go_sem] theorem sn_eq (x y z x' y' z' : Int) (w : World) : (Op.equalIn 10000 73 (.agg #[.int .i64 x, .int .i64 y, .int .i64 z]) (.agg #[.int .i64 x', .int .i64 y', .int .i64 z'])).run Try.prog w = .ok (x == x' && (y == y' && z == z')) w := by
  have u3 := Try.underlying3
  have a3 := Try.isAgg3
  have z3 := Try.sizeOf3
  have hS : Try.prog.underlying 73 = some (.struct (Try.prog.fieldsOf 73)) := by kernel_rfl
  have hp : Try.prog.stoodInHeld 73 = false := by kernel_rfl
  rw [show (10000 : Nat) = 9999 + 1 from rfl, run_equalIn_agg w 9999 73 _ _ hS hp]
  simp only [Program.fieldsOf, Try.underlying73]
  go_simp
  cases h1 : x == x' <;> cases h2 : y == y' <;> cases h3 : z == z' <;> simp_all
theorem sn_ne {x y z x' y' z' : Int} (h : (⟨x, y, z⟩ : Sn) ≠ ⟨x', y', z'⟩) : (x == x') = false ∨ (x = x' ∧ (y == y') = false) ∨ (x = x' ∧ y = y' ∧ (z == z') = false) := by
  by_cases h1 : x = x'
  · subst h1
    by_cases h2 : y = y'
    · subst h2
      refine .inr (.inr ⟨rfl, rfl, ?_⟩)
      rw [beq_eq_false_iff_ne]
      exact fun h3 => h (by rw [h3])
    · exact .inr (.inl ⟨rfl, by rw [beq_eq_false_iff_ne]; exact h2⟩)
  · exact .inl (by rw [beq_eq_false_iff_ne]; exact h1)
end Go.Proofs.Ytchpemgamgcbkaa
