/-
  Requests as cells and in memory. No conditions.
-/
import Derived.Test.YtfcifblbapadpaaGreatDoorReqPlain
import Derived.Test.YtfcifblbapadpaaGreatDoorRecOwn
namespace Go.Proofs.YtfcifblbapadpaaGreatDoor
open Go.RowKit

/-- A request's cells; its records lie at A. -/
def qvals (x : Rq) (A : Option Addr) (n c : Nat) : Array Value :=
  #[.int .i8 x.kind, .int .i64 x.tid, .int .i64 x.timeout, .int .i64 x.pid, .int .i64 x.ep, .int .i64 x.part, .int .i64 x.group, .int .i64 x.off, .int .i64 x.most, .bool x.yes,
    .int .i64 x.b.pid, .int .i64 x.b.ep, .int .i64 x.b.sq, .bool x.b.tx, .slice A n c]
def qzero : Array Value := #[.int .i8 0, .int .i64 0, .int .i64 0, .int .i64 0, .int .i64 0, .int .i64 0, .int .i64 0, .int .i64 0, .int .i64 0, .bool false, .int .i64 0, .int .i64 0, .int .i64 0, .bool false, .slice none 0 0]
theorem qvals_one (x : Rq) (A : Option Addr) (n c : Nat) : (qvals x A n c).all (·.oneCell') = true := by simp [qvals, Value.oneCell']
/-- A request in memory: what lies behind its cells, in blocks below B. -/
structure QIn (w : World) (B : Nat) (x : Rq) (A : Option Addr) (n c : Nat) : Prop where
  len : x.b.rs.length = n
  seen : Seen w B A (rcells x.b.rs)
  cap : n ≤ c
  max : n ≤ 9223372036854775807
  sizes : ∀ y ∈ x.b.rs, y.k.size ≤ 9223372036854775807 ∧ y.v.size ≤ 9223372036854775807
/-- A request in memory of the call's own. -/
structure QOwn (base : Nat) (w : World) (x : Rq) (A : Option Addr) (n c : Nat) : Prop where
  recs : w.ownsRow base 71 2 (.slice A n c) n (rcells x.b.rs)
  len : x.b.rs.length = n
  four : n ≤ 4
  good : ∀ r ∈ x.b.rs, r.Good
section
variable {w w' : World} {B B' base g : Nat} {S : List Nat} {x y : Rq} {A : Option Addr} {n c : Nat}
theorem QIn.below (h : QIn w B x A n c) (hb : Below B w w') : QIn w' B x A n c := ⟨h.len, h.seen.below hb, h.cap, h.max, h.sizes⟩
theorem QIn.up (h : QIn w B x A n c) (hb : B ≤ B') : QIn w B' x A n c := ⟨h.len, h.seen.up hb, h.cap, h.max, h.sizes⟩
theorem QIn.alike (h : QIn w B x A n c) (hb : y.b.rs = x.b.rs) : QIn w B y A n c := ⟨by rw [hb]; exact h.len, by rw [hb]; exact h.seen, h.cap, h.max, by rw [hb]; exact h.sizes⟩
theorem QOwn.kept (h : QOwn base w x A n c) (hk : Kept S w w') (hS : ∀ x ∈ S, x < base) : QOwn base w' x A n c := ⟨own_kept h.recs hk hS, h.len, h.four, h.good⟩
theorem QOwn.only (h : QOwn base w x A n c) (k : Only g w w') (hg : g < base) : QOwn base w' x A n c := ⟨Only.own h.recs k hg, h.len, h.four, h.good⟩
theorem QOwn.set (h : QOwn base w x A n c) {p : Addr} (hp : p.block < base) (u : Value) : QOwn base (w.setCell p u) x A n c := ⟨own_set h.recs hp u, h.len, h.four, h.good⟩
theorem QOwn.next (h : QOwn base w x A n c) (hb : Below w.heap.size w w') : QOwn base w' x A n c := ⟨own_next h.recs hb, h.len, h.four, h.good⟩
theorem QOwn.down (h : QOwn base w x A n c) {B : Nat} (hb : B ≤ base) : QOwn B w x A n c := ⟨own_down h.recs hb, h.len, h.four, h.good⟩
theorem QOwn.alike (h : QOwn base w x A n c) (hb : y.b.rs = x.b.rs) : QOwn base w y A n c := ⟨by rw [hb]; exact h.recs, by rw [hb]; exact h.len, h.four, by rw [hb]; exact h.good⟩
theorem QOwn.qin (h : QOwn base w x A n c) : QIn w w.heap.size x A n c := by
  obtain ⟨A1, c1, e1, s1, l1⟩ := own_formN h.recs
  injection e1 with a1 _ a3
  subst a1 a3
  have h4 := h.four
  exact ⟨h.len, s1, l1, by omega, fun y hy => by have := h.good y hy; unfold Rc.Good at this; omega⟩
end
theorem bare_qin (w : World) (B : Nat) {x : Rq} (hb : x.b.rs = []) : QIn w B x none 0 0 := ⟨by rw [hb]; rfl, by rw [hb]; exact Seen.nil _ _ _, Nat.le_refl _, by omega, by rw [hb]; intro y hy; cases hy⟩
theorem bare_qown (w : World) (B : Nat) {x : Rq} (hb : x.b.rs = []) : QOwn B w x none 0 0 := ⟨by rw [hb]; exact World.ownsRow_nil _ _ _ _, by rw [hb]; rfl, by omega, by rw [hb]; intro y hy; cases hy⟩
theorem iff_of' (p : Prop) : ∃ b : Bool, b = true ↔ p := by
  by_cases h : p
  · exact ⟨true, by simp [h]⟩
  · exact ⟨false, by simp [h]⟩
theorem bool_off {a : Bool} {p : Prop} (h : a = true ↔ p) (hn : ¬ p) : a = false := by
  rw [← Bool.not_eq_true]
  exact fun h' => hn (h.1 h')
/-- The cells of a variable of fifteen. -/
theorem Var.cells15 {w : World} {g T : Nat} {a0 a1 a2 a3 a4 a5 a6 a7 a8 a9 a10 a11 a12 a13 a14 : Value} (h : Var w g T #[a0, a1, a2, a3, a4, a5, a6, a7, a8, a9, a10, a11, a12, a13, a14]) :
    w.cell? ⟨g, 0, none⟩ = some a0 ∧ w.cell? ⟨g, 1, none⟩ = some a1 ∧ w.cell? ⟨g, 2, none⟩ = some a2 ∧ w.cell? ⟨g, 3, none⟩ = some a3 ∧ w.cell? ⟨g, 4, none⟩ = some a4 ∧ w.cell? ⟨g, 5, none⟩ = some a5 ∧ w.cell? ⟨g, 6, none⟩ = some a6 ∧ w.cell? ⟨g, 7, none⟩ = some a7 ∧
    w.cell? ⟨g, 8, none⟩ = some a8 ∧ w.cell? ⟨g, 9, none⟩ = some a9 ∧ w.cell? ⟨g, 10, none⟩ = some a10 ∧ w.cell? ⟨g, 11, none⟩ = some a11 ∧ w.cell? ⟨g, 12, none⟩ = some a12 ∧ w.cell? ⟨g, 13, none⟩ = some a13 ∧ w.cell? ⟨g, 14, none⟩ = some a14 :=
  ⟨h.cell 0 rfl, h.cell 1 rfl, h.cell 2 rfl, h.cell 3 rfl, h.cell 4 rfl, h.cell 5 rfl, h.cell 6 rfl, h.cell 7 rfl, h.cell 8 rfl, h.cell 9 rfl, h.cell 10 rfl, h.cell 11 rfl, h.cell 12 rfl, h.cell 13 rfl, h.cell 14 rfl⟩

/-! ### numbers put behind bytes, right or not -/
def put (ys : List UInt8) (n : Int) : List UInt8 := if 0 ≤ n ∧ n ≤ 1099511627776 then ys ++ VP.enc n.toNat else []
theorem put_le (ys : List UInt8) (n : Int) : (put ys n).length ≤ ys.length + 6 := by
  unfold put
  split
  · rename_i h
    have := VP.enc_six (n := n.toNat) (by have := h.2; omega)
    rw [List.length_append]
    omega
  · simp
theorem put_ok {ys : List UInt8} {n : Int} (h : Between 0 1099511627776 n) : put ys n = ys ++ VP.enc n.toNat := by unfold put; rw [if_pos (show 0 ≤ n ∧ n ≤ 1099511627776 from h)]
def puts (ys : List UInt8) (l : List Int) : List UInt8 := l.foldl put ys
theorem puts_step {ys : List UInt8} {l : List Int} {k : Nat} {x : Int} (h : l[k]? = some x) : puts ys (l.take (k + 1)) = put (puts ys (l.take k)) x := by
  rw [List.take_add_one, h]
  simp [puts]
theorem puts_le : ∀ (l : List Int) (ys : List UInt8), (puts ys l).length ≤ ys.length + 6 * l.length
  | [], ys => by simp [puts]
  | x :: l, ys => by
    have h1 := puts_le l (put ys x)
    have h2 := put_le ys x
    simp only [puts, List.foldl_cons, List.length_cons] at h1 ⊢
    omega
theorem num_put_own (A : Option Addr) (c : Nat) (bs : List UInt8) (lb : Nat) (n : Int) (lx : Nat) (w : World) (hlb : lb = bs.length) (hlx : lx = (put bs n).length) (hs : Seen w w.heap.size A (cells bs)) (hx : lb ≤ 1000000) :
    Calls Tryz.prog 51 #[.slice A lb c, .int .i64 n] w fun e w' => ∃ v er, e = .returned (.tuple #[v, .int .i64 er]) ∧ w'.ownsRow w.heap.size 5 1 v lx (cells (put bs n)) ∧ Below w.heap.size w w' := by
  by_cases h : Between 0 1099511627776 n
  · obtain ⟨m, rfl⟩ : ∃ m : Nat, n = m := ⟨n.toNat, by have := h.1; omega⟩
    rw [put_ok h, Int.toNat_natCast] at hlx ⊢
    refine (num_own A c bs lb m lx w hlb hlx hs hx (by have := h.2; omega)).mono ?_
    rintro e w' ⟨v, h1, h2, h3⟩
    exact ⟨v, 0, h1, h2, h3⟩
  · have hp : put bs n = [] := by unfold put; rw [if_neg (show ¬ (0 ≤ n ∧ n ≤ 1099511627776) from h)]
    rw [hp] at hlx ⊢
    subst hlx
    have HN := Lib.hid (show n < 0 ∨ 1099511627776 < n by unfold Between at h; omega)
    clear hs hlb h
    go_enter Tryz.func51, Tryz.ntmps51
    go_wp2_with fail
    refine (put_no (.slice A lb c) n _ HN.out).mono ?_
    rintro e w1 ⟨rfl, rfl⟩
    go_wp2
    go_ret2
    exact ⟨_, 2, rfl, World.ownsRow_nil _ _ _ _, Below.refl _ _⟩
def jcells (l : List Int) : List Value := l.map (Value.int .i64 ·)
theorem jcells_at {w : World} {B : Nat} {A : Option Addr} {l : List Int} {k : Nat} {n : Int} (h : Seen w B A (jcells l)) (hk : l[k]? = some n) : ∃ b off, A = some ⟨b, off, none⟩ ∧ b < B ∧ w.cell? ⟨b, off + k, none⟩ = some (.int .i64 n) := by
  have hi : (jcells l)[k]? = some (.int .i64 n) := by simp [jcells, hk]
  obtain ⟨b, off, rfl, hb, hc⟩ := h (by intro e; rw [e] at hi; simp at hi)
  exact ⟨b, off, rfl, hb, hc k _ hi⟩
end Go.Proofs.YtfcifblbapadpaaGreatDoor
