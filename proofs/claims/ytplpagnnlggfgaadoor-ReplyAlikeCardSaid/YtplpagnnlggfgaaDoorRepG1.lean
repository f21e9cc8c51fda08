/-
  Numbers in few bytes, on lists of bytes alone (no program): 'enc n' are the bytes of the number n, 'dec l' reads the number that begins the bytes l. No conditions.
  Slices as lists: what the walks over this seat's program say of memory ('Seen': a slice that reads as a list of cells; 'cells': bytes as cells), and numbers' bits. No conditions.
  Contracts of varint's isNumber, Len and add: what each returns and what it does to memory. Conditions: those that each theorem names.
  Contracts of varint's add and Put: what each returns and what it does to memory. Conditions: those that each theorem names.
-/
import Init
import Derived.Test.YtplpagnnlggfgaaDoorRows
import Derived.WalkKit
import Derived.WalkSpells
import Derived.WalkLawsBesides
import Derived.OpenShut
import Derived.Lib.Hide
import Derived.BigRegion
import Derived.BigQuiet
import Derived.Deep.QuietTactic
import Derived.Maps.AppendAt
import Derived.Laws.BytesArg
import Derived.Laws.BitsAllLaws
import Derived.Laws.BitsLemmas
namespace Go.Proofs.YtplpagnnlggfgaaDoor.VP

/-- The bytes of a number: seven bits a byte, the lowest first, 128 added to each but the last. -/
def enc (n : Nat) : List UInt8 := if h : n < 128 then [UInt8.ofNat n] else UInt8.ofNat (128 + n % 128) :: enc (n / 128)
termination_by n
decreasing_by omega

theorem enc_small {n : Nat} (h : n < 128) : enc n = [UInt8.ofNat n] := by rw [enc, dif_pos h]
theorem enc_great {n : Nat} (h : ¬ n < 128) : enc n = UInt8.ofNat (128 + n % 128) :: enc (n / 128) := by rw [enc, dif_neg h]

/-- A reading in the midst: place i behind the number's first byte, a: what the bytes before say. -/
def decGo : Nat → Nat → List UInt8 → Option (Nat × Nat)
  | _, _, [] => none
  | i, a, c :: r =>
    if 6 ≤ i then none
    else if 128 ≤ c.toNat then decGo (i + 1) (a + c.toNat % 128 * 128 ^ i) r
    else if 1099511627776 < a + c.toNat % 128 * 128 ^ i ∨ (c.toNat = 0 ∧ 0 < i) then none
    else some (a + c.toNat % 128 * 128 ^ i, i + 1)

/-- The number that begins l, and how many bytes it has. -/
def dec (l : List UInt8) : Option (Nat × Nat) := decGo 0 0 l

theorem decGo_nil (i a : Nat) : decGo i a [] = none := by simp [decGo]
theorem decGo_far {i : Nat} (h : 6 ≤ i) (a : Nat) (l : List UInt8) : decGo i a l = none := by
  cases l with
  | nil => simp [decGo]
  | cons c r => simp [decGo, h]
theorem decGo_more {i a : Nat} {c : UInt8} {r : List UInt8} (hi : i < 6) (hc : 128 ≤ c.toNat) : decGo i a (c :: r) = decGo (i + 1) (a + c.toNat % 128 * 128 ^ i) r := by
  rw [decGo, if_neg (by omega), if_pos hc]
theorem decGo_bad {i a : Nat} {c : UInt8} {r : List UInt8} (hi : i < 6) (hc : c.toNat < 128) (hb : 1099511627776 < a + c.toNat % 128 * 128 ^ i ∨ (c.toNat = 0 ∧ 0 < i)) : decGo i a (c :: r) = none := by
  rw [decGo, if_neg (by omega), if_neg (by omega), if_pos hb]
theorem decGo_last {i a : Nat} {c : UInt8} {r : List UInt8} (hi : i < 6) (hc : c.toNat < 128) (hb : ¬ (1099511627776 < a + c.toNat % 128 * 128 ^ i ∨ (c.toNat = 0 ∧ 0 < i))) :
    decGo i a (c :: r) = some (a + c.toNat % 128 * 128 ^ i, i + 1) := by
  rw [decGo, if_neg (by omega), if_neg (by omega), if_neg hb]

theorem toNat_ofNat {n : Nat} (h : n < 256) : (UInt8.ofNat n).toNat = n := by
  rw [UInt8.toNat_ofNat']; exact Nat.mod_eq_of_lt h

theorem ofNat_toNat (c : UInt8) : UInt8.ofNat c.toNat = c := by simp

theorem enc_pos (n : Nat) : 0 < (enc n).length := by
  by_cases h : n < 128
  · rw [enc_small h]; simp
  · rw [enc_great h]; simp

theorem enc_ne (n : Nat) : enc n ≠ [] := by
  intro h
  have := enc_pos n
  rw [h] at this
  simp at this

/-- How long: n below 128 ^ k has at most k bytes. -/
theorem enc_le : ∀ (k n : Nat), 0 < k → n < 128 ^ k → (enc n).length ≤ k := by
  intro k
  induction k with
  | zero => intro n h; omega
  | succ k ih =>
    intro n _ h
    by_cases hs : n < 128
    · rw [enc_small hs]; simp
    · rw [enc_great hs]
      have hk : 0 < k := by
        rcases Nat.eq_zero_or_pos k with rfl | h'
        · simp at h; omega
        · exact h'
      have := ih (n / 128) hk (by rw [Nat.pow_succ] at h; exact Nat.div_lt_of_lt_mul (by rw [Nat.mul_comm]; exact h))
      simp; omega

theorem enc_six {n : Nat} (h : n ≤ 1099511627776) : (enc n).length ≤ 6 := enc_le 6 n (by omega) (by omega)

theorem enc_mono : ∀ (n m : Nat), n ≤ m → (enc n).length ≤ (enc m).length := by
  intro n
  induction n using Nat.strongRecOn with
  | ind n ih =>
    intro m h
    by_cases hn : n < 128
    · rw [enc_small hn]; have := enc_pos m; simp; omega
    · rw [enc_great hn, enc_great (show ¬ m < 128 by omega)]
      have := ih (n / 128) (by omega) (m / 128) (Nat.div_le_div_right h)
      simp; omega

theorem split128 (n p : Nat) : n % 128 * p + n / 128 * (128 * p) = n * p := by
  have h := Nat.div_add_mod n 128
  have h2 : n * p = (128 * (n / 128) + n % 128) * p := by rw [h]
  rw [h2, Nat.add_mul]
  have h3 : n / 128 * (128 * p) = 128 * (n / 128) * p := by rw [← Nat.mul_assoc, Nat.mul_comm (n / 128) 128]
  rw [h3, Nat.add_comm]

theorem decGo_enc : ∀ (n i a : Nat) (r : List UInt8), i + (enc n).length ≤ 6 → a + n * 128 ^ i ≤ 1099511627776 → (0 < i → 0 < n) →
    decGo i a (enc n ++ r) = some (a + n * 128 ^ i, i + (enc n).length) := by
  intro n
  induction n using Nat.strongRecOn with
  | ind n ih =>
    intro i a r hl hv hp
    by_cases hn : n < 128
    · have ht : (UInt8.ofNat n).toNat = n := toNat_ofNat (by omega)
      have hm : n % 128 = n := Nat.mod_eq_of_lt hn
      rw [enc_small hn] at hl ⊢
      simp only [List.length_cons, List.length_nil, List.cons_append, List.nil_append] at hl ⊢
      rw [decGo_last (by omega) (by omega) (by rw [ht, hm]; intro h; rcases h with h | ⟨h, h'⟩; omega; have := hp h'; omega), ht, hm]
    · have hlt : n % 128 < 128 := Nat.mod_lt _ (by omega)
      have ht : (UInt8.ofNat (128 + n % 128)).toNat = 128 + n % 128 := toNat_ofNat (by omega)
      have hm : (128 + n % 128) % 128 = n % 128 := by omega
      rw [enc_great hn] at hl ⊢
      simp only [List.length_cons, List.cons_append] at hl ⊢
      have hsp := split128 n (128 ^ i)
      have hpw : 128 ^ (i + 1) = 128 * 128 ^ i := by rw [Nat.pow_succ, Nat.mul_comm]
      have hs : a + n % 128 * 128 ^ i + n / 128 * 128 ^ (i + 1) = a + n * 128 ^ i := by rw [hpw]; omega
      rw [decGo_more (by omega) (by omega), ht, hm, ih (n / 128) (by omega) (i + 1) _ r (by omega) (by rw [hs]; exact hv) (fun _ => by omega), hs]
      congr 2
      omega

theorem dec_enc {n : Nat} (h : n ≤ 1099511627776) (r : List UInt8) : dec (enc n ++ r) = some (n, (enc n).length) := by
  have := decGo_enc n 0 0 r (by have := enc_six h; omega) (by omega) (fun h => absurd h (by omega))
  simpa [dec] using this

theorem decGo_only : ∀ (l : List UInt8) (i a n k : Nat), decGo i a l = some (n, k) → a < 128 ^ i →
    n ≤ 1099511627776 ∧ i < k ∧ k ≤ i + l.length ∧ k ≤ 6 ∧ ∃ m, n = a + m * 128 ^ i ∧ enc m = l.take (k - i) ∧ (0 < i → 0 < m) := by
  intro l
  induction l with
  | nil => intro i a n k h; simp [decGo] at h
  | cons c r ih =>
    intro i a n k h ha
    have hpos : 0 < 128 ^ i := Nat.pow_pos (by omega)
    have hc := c.toNat_lt
    by_cases hi : 6 ≤ i
    · rw [decGo_far hi] at h; cases h
    · by_cases hm : 128 ≤ c.toNat
      · rw [decGo_more (by omega) hm] at h
        have hpw : 128 ^ (i + 1) = 128 * 128 ^ i := by rw [Nat.pow_succ, Nat.mul_comm]
        have hlt : c.toNat % 128 < 128 := Nat.mod_lt _ (by omega)
        have hle : c.toNat % 128 * 128 ^ i ≤ 127 * 128 ^ i := Nat.mul_le_mul_right _ (by omega)
        obtain ⟨h1, h2, h3, h4, m, h5, h6, h7⟩ := ih (i + 1) _ n k h (by rw [hpw]; omega)
        have hmp := h7 (by omega)
        refine ⟨h1, by omega, by simp; omega, h4, c.toNat % 128 + 128 * m, ?_, ?_, fun _ => by omega⟩
        · rw [h5, hpw, Nat.add_mul, Nat.add_assoc]
          congr 2
          rw [← Nat.mul_assoc, Nat.mul_comm m 128]
        · have e1 : k - i = (k - (i + 1)) + 1 := by omega
          rw [e1, List.take_succ_cons, enc_great (by omega), ← h6]
          congr 1
          · have : (c.toNat % 128 + 128 * m) % 128 = c.toNat % 128 := by omega
            rw [this]
            have : 128 + c.toNat % 128 = c.toNat := by omega
            rw [this, ofNat_toNat]
          · congr 1; omega
      · by_cases hb : 1099511627776 < a + c.toNat % 128 * 128 ^ i ∨ (c.toNat = 0 ∧ 0 < i)
        · rw [decGo_bad (by omega) (by omega) hb] at h; cases h
        · rw [decGo_last (by omega) (by omega) hb] at h
          have hmod : c.toNat % 128 = c.toNat := Nat.mod_eq_of_lt (by omega)
          injection h with h
          injection h with h1 h2
          rw [hmod] at h1 hb
          have hp : 0 < i → 0 < c.toNat := fun h0 => by
            rcases Nat.eq_zero_or_pos c.toNat with hz | hz
            · exact absurd (Or.inr ⟨hz, h0⟩) hb
            · exact hz
          have hn : ¬ 1099511627776 < a + c.toNat * 128 ^ i := fun hh => hb (Or.inl hh)
          refine ⟨by omega, by omega, by simp; omega, by omega, c.toNat, h1.symm, ?_, hp⟩
          have e1 : k - i = 1 := by omega
          rw [e1, enc_small (by omega)]
          simp

theorem dec_only {l : List UInt8} {n k : Nat} (h : dec l = some (n, k)) : n ≤ 1099511627776 ∧ 0 < k ∧ k ≤ l.length ∧ k ≤ 6 ∧ enc n = l.take k := by
  obtain ⟨h1, h2, h3, h4, m, h5, h6, _⟩ := decGo_only l 0 0 n k h (by simp)
  have : m = n := by rw [h5]; simp
  subst this
  exact ⟨h1, h2, by omega, h4, by simpa using h6⟩

/-- No number's bytes begin another's. -/
theorem enc_apart {n m : Nat} (hn : n ≤ 1099511627776) (hm : m ≤ 1099511627776) (h : enc n = (enc m).take (enc n).length) : n = m := by
  have h1 := dec_enc hn ((enc m).drop (enc n).length)
  have h2 := dec_enc hm []
  have h3 : enc n ++ (enc m).drop (enc n).length = enc m := by
    conv => lhs; lhs; rw [h]
    exact List.take_append_drop _ _
  rw [h3] at h1
  rw [List.append_nil, h1] at h2
  injection h2 with h2
  injection h2

end Go.Proofs.YtplpagnnlggfgaaDoor.VP

namespace Go.Proofs.YtplpagnnlggfgaaDoor
open Go.RowKit

/-- Bytes as cells. -/
def cells (l : List UInt8) : List Value := l.map fun b => .int .u8 (b.toNat : Int)
theorem cells_length (l : List UInt8) : (cells l).length = l.length := by simp [cells]
theorem cells_append (a b : List UInt8) : cells (a ++ b) = cells a ++ cells b := by simp [cells]
theorem cells_one (l : List UInt8) : ∀ u ∈ cells l, u.oneCell' = true := by
  intro u hu
  simp only [cells, List.mem_map] at hu
  obtain ⟨b, _, rfl⟩ := hu
  rfl
theorem cells_get {l : List UInt8} {j : Nat} {u : Value} (h : (cells l)[j]? = some u) : ∃ hj : j < l.length, u = .int .u8 (l[j].toNat : Int) := by
  rw [cells, List.getElem?_map] at h
  rcases Nat.lt_or_ge j l.length with hj | hj
  · refine ⟨hj, ?_⟩
    rw [List.getElem?_eq_getElem hj] at h
    simpa using h.symm
  · rw [List.getElem?_eq_none hj] at h
    simp at h

/-- The slice at A holds the cells xs, below block B. -/
def Seen (w : World) (B : Nat) (A : Option Addr) (xs : List Value) : Prop :=
  xs ≠ [] → ∃ b off, A = some ⟨b, off, none⟩ ∧ b < B ∧ ∀ j u, xs[j]? = some u → w.cell? ⟨b, off + j, none⟩ = some u

section
variable {w w' : World} {B B' : Nat} {A : Option Addr} {xs : List Value}
theorem Seen.nil (w : World) (B : Nat) (A : Option Addr) : Seen w B A [] := fun h => absurd rfl h
theorem Seen.below (h : Seen w B A xs) (hb : Below B w w') : Seen w' B A xs := fun hx => by
  obtain ⟨b, off, rfl, hlt, hc⟩ := h hx
  exact ⟨b, off, rfl, hlt, fun j u hu => (hb.cell (p := ⟨b, off + j, none⟩) hlt).trans (hc j u hu)⟩
theorem Seen.up (h : Seen w B A xs) (hB : B ≤ B') : Seen w B' A xs := fun hx => by
  obtain ⟨b, off, rfl, hlt, hc⟩ := h hx
  exact ⟨b, off, rfl, by omega, hc⟩
theorem plain_add (b off j : Nat) : (⟨b, off, none⟩ : Addr).add j = ⟨b, off + j, none⟩ := by unfold Addr.add; split <;> simp_all
theorem Seen.of_own {base n c : Nat} {e : TypeId} (h : w.ownsRow base e 1 (.slice A n c) n xs) : Seen w w.heap.size A xs := fun hx => by
  rcases h.2 with ⟨he, h0⟩ | ⟨g, cap, cur, hv, _, hg, _⟩
  · injection he with h1 h2 h3
    subst h1
    exact absurd (List.eq_nil_of_length_eq_zero (by rw [h.1, h0])) hx
  · injection hv with h1 h2 h3
    subst h1
    have hlt : g < w.heap.size := by
      rcases Nat.lt_or_ge g w.heap.size with hlt | hge
      · exact hlt
      · rw [Array.getElem?_eq_none hge] at hg; cases hg
    refine ⟨g, 0, rfl, hlt, fun j u hu => ?_⟩
    have := h.cells (g := g) rfl j u hu
    rwa [plain_add] at this
end

theorem Seen.cut {w : World} {B : Nat} {A : Option Addr} {xs : List Value} {l h c : Nat} (hs : Seen w B A xs) (hl : l ≤ h) (hh : h ≤ xs.length) (hc : xs.length ≤ c) :
    Seen w B (if c = l then A else A.map (·.add (l * 1))) ((xs.drop l).take (h - l)) := fun hx => by
  have hlt : l < h := by
    rcases Nat.lt_or_ge l h with h' | h'
    · exact h'
    · exact absurd (by rw [show h - l = 0 by omega]; rfl) hx
  obtain ⟨b, off, rfl, hb, hcell⟩ := hs (by intro e; subst e; simp at hh; omega)
  rw [if_neg (by omega)]
  refine ⟨b, off + l, by simp [plain_add], hb, fun j u hu => ?_⟩
  rw [Nat.add_assoc]
  refine hcell (l + j) u ?_
  rw [List.getElem?_take] at hu
  split at hu
  · rwa [List.getElem?_drop] at hu
  · cases hu
/-- A row that was just made. -/
theorem Seen.new (w : World) (xs : List Value) (e : TypeId) : Seen (w.alloc (.cells xs.toArray e)) (w.heap.size + 1) (some ⟨w.heap.size, 0, none⟩) xs := fun _ =>
  ⟨w.heap.size, 0, rfl, by omega, fun j u hu => by
    rw [Nat.zero_add, cell_of_row _ _ j xs.toArray e (0, 0) (heap_alloc_new w _)]
    simpa using hu⟩
theorem cells_drop (l : List UInt8) (n : Nat) : cells (l.drop n) = (cells l).drop n := by simp [cells, List.map_drop]
theorem cells_take (l : List UInt8) (n : Nat) : cells (l.take n) = (cells l).take n := by simp [cells, List.map_take]
/-- 's[l:h]' of bytes. -/
theorem run_cut {P : Program} (W : World) (t e : TypeId) (ht : P.underlying t = some (.slice e)) (hz : ∀ w, (Go.sizeOf e).run P w = .ok 1 w) (A : Option Addr) (len c l h : Nat) (hl : l ≤ h) (hh : h ≤ c) :
    (Instr.slice t (.slice A len c) (some (.int .i64 (l : Int))) (some (.int .i64 (h : Int))) none).run P W = .ok (.slice (if c = l then A else A.map (·.add (l * 1))) (h - l) (c - l)) W := by
  have ht' : P.underlying t = some (.slice (P.elem t)) := by simp [Program.elem, ht]
  have he : P.elem t = e := by simp [Program.elem, ht]
  rw [run_slice_lh W t _ _ _ ht' .i64 .i64 _ _ (by omega) (by omega) (by omega), he, hz]
  simp [Result.andThen, sliced]

/-- 'b[:h]' of bytes. -/
theorem cut_to {P : Program} {w : World} {B : Nat} {A : Option Addr} {bs : List UInt8} (hs : Seen w B A (cells bs)) (t e : TypeId) (ht : P.underlying t = some (.slice e)) (hz : ∀ w, (Go.sizeOf e).run P w = .ok 1 w) (c h : Nat) (hh : h ≤ bs.length) (hc : bs.length ≤ c) :
    ∃ D, (∀ W, (Instr.slice t (.slice A bs.length c) none (some (.int .i64 (h : Int))) none).run P W = .ok (.slice D h c) W) ∧ Seen w B D (cells (bs.take h)) := by
  have h1 := hs.cut (l := 0) (h := h) (c := c) (by omega) (by rw [cells_length]; exact hh) (by rw [cells_length]; exact hc)
  rw [List.drop_zero, Nat.sub_zero, ← cells_take] at h1
  refine ⟨_, fun W => ?_, h1⟩
  have ht' : P.underlying t = some (.slice (P.elem t)) := by simp [Program.elem, ht]
  have he : P.elem t = e := by simp [Program.elem, ht]
  rw [run_slice_h W t _ _ _ ht' .i64 _ (by omega) (by omega), he, hz]
  simp [Result.andThen, sliced]
/-- 'b[l:h]' of bytes. -/
theorem cut_lh {P : Program} {w : World} {B : Nat} {A : Option Addr} {bs : List UInt8} (hs : Seen w B A (cells bs)) (t e : TypeId) (ht : P.underlying t = some (.slice e)) (hz : ∀ w, (Go.sizeOf e).run P w = .ok 1 w) (c l h : Nat) (hl : l ≤ h) (hh : h ≤ bs.length) (hc : bs.length ≤ c) :
    ∃ D, (∀ W, (Instr.slice t (.slice A bs.length c) (some (.int .i64 (l : Int))) (some (.int .i64 (h : Int))) none).run P W = .ok (.slice D (h - l) (c - l)) W) ∧ Seen w B D (cells ((bs.drop l).take (h - l))) := by
  have h1 := hs.cut (l := l) (h := h) (c := c) hl (by rw [cells_length]; exact hh) (by rw [cells_length]; exact hc)
  rw [← cells_drop, ← cells_take] at h1
  exact ⟨_, fun W => run_cut W t e ht hz A bs.length c l h hl (by omega), h1⟩

/-- The one block that an owned slice's row may be, before and behind an append: among the call's own. -/
theorem run_append_seen {P : Program} (w : World) (base : Nat) (t ty e : TypeId) (i : TypeInfo) (z : Value) (bytes : Nat) (ht : P.underlying t = some (.slice e)) (hi : P.info? e = some i) (hz : i.zero = some z)
    (hsize : i.size = 1) (hby : i.bytes = bytes) (hzs : z.cells.size = 1)
    (v : Value) (n : Nat) (xs : List Value) (hown : w.ownsRow base e 1 v n xs) (B : Nat) (A : Option Addr) (m c : Nat) (news : List Value) (hm : news.length = m) (hr : Seen w B A news) (h1 : ∀ u ∈ news, u.oneCell' = true)
    (h63 : n + m ≤ maxLen) (hbytes : (n + m) * bytes ≤ 140737488355328) (hbase : base ≤ w.heap.size) :
    ∃ v' w', (Builtin.append_ #[t, t] ty #[v, .slice A m c]).run P w = .ok v' w' ∧ w'.ownsRow base e 1 v' (n + m) (xs ++ news) ∧ Below base w w' := by
  have hlt := hown.lt
  by_cases hn : news = []
  · subst hn
    obtain rfl : m = 0 := by simpa using hm.symm
    refine ⟨v, w, ?_, by simpa using hown, Below.refl _ _⟩
    rcases hown.2 with ⟨rfl, h0⟩ | ⟨g, cap, cur, rfl, _, _, hnc, _⟩
    · cases A <;> simp [Builtin.append_, run_underlying ht, sizeOf, typeInfo, hi, Builtin.lenOf, Builtin.firstCells, loadCells, loadCellsFrom]
    · cases A <;> simp [Builtin.append_, run_underlying ht, sizeOf, typeInfo, hi, Builtin.lenOf, Builtin.firstCells, loadCells, loadCellsFrom, hnc, storeCells]
  · obtain ⟨b, off, rfl, _, hc⟩ := hr hn
    obtain ⟨v', w', hrun, h2, h3, _⟩ := run_append_own (P := P) w base t ty e i z 1 bytes ht hi hz hsize hby hzs (by omega) v n xs hown ⟨b, off, none⟩ m c news (by omega) (fun j u hu => by rw [plain_add]; exact hc j u hu) h1 h63 hbytes hbase
    exact ⟨v', w', hrun, h2, (Below.refl _ _).grown h3 hbase (fun k hk => (hlt k hk).1)⟩

/-- 'append(s, x...)' where s is the call's own and x is any slice that is seen. -/
theorem wpList_append_seen {P : Program} {w : World} {ops : Array Oper} {rest : List Oper} {o : Oper} {a : Act} {Q : Exit → Act → World → Prop} (hgd : o.guard = none) (s x : Operand) (t : TypeId)
    (ho : o.op = .call { callee := .builtin .append, args := #[s, x], argTypes := #[t, t] })
    (base : Nat) (e : TypeId) (i : TypeInfo) (z : Value) (bytes : Nat) (ht : P.underlying t = some (.slice e)) (hi : P.info? e = some i) (hz : i.zero = some z)
    (hsize : i.size = 1) (hby : i.bytes = bytes) (hzs : z.cells.size = 1)
    (v : Value) (n : Nat) (xs : List Value) (hs : a.eval s = v) (hown : w.ownsRow base e 1 v n xs)
    (B : Nat) (A : Option Addr) (m c : Nat) (news : List Value) (hx : a.eval x = .slice A m c) (hm : news.length = m) (hr : Seen w B A news) (h1 : ∀ u ∈ news, u.oneCell' = true)
    (h63 : n + m ≤ maxLen) (hbytes : (n + m) * bytes ≤ 140737488355328) (hbase : base ≤ w.heap.size)
    (h : ∀ v' w', w'.ownsRow base e 1 v' (n + m) (xs ++ news) → Below base w w' → wpList P ops Q rest (a.put o.dst v') w') : wpList P ops Q (o :: rest) a w := by
  refine wpList_plain hgd fun K hK => ?_
  obtain ⟨v', w', hrun, h2, h3⟩ := run_append_seen (P := P) w base t o.type e i z bytes ht hi hz hsize hby hzs v n xs hown B A m c news hm hr h1 h63 hbytes hbase
  unfold Oper.wp execOp
  simp only [ho, resolve, invoke, builtin, Sem.run_bind, Sem.run_pure, Result.andThen_ok, List.map_toArray, List.map_cons, List.map_nil, hs, hx, hrun]
  exact hK _ _ (h v' w' h2 h3)

/-- 'string(b)' of bytes that are seen. -/
theorem run_str {P : Program} {w : World} {B : Nat} {A : Option Addr} {l : List UInt8} (h : Seen w B A (cells l)) (src dst e : TypeId) (c : Nat)
    (hs : P.underlying src = some (.slice e)) (he : P.underlying e = some (.int .u8)) (hd : P.underlying dst = some .string) :
    (convert src dst (.slice A l.length c)).run P w = .ok (.string ⟨l.toArray⟩) w := by
  by_cases hl : l = []
  · subst hl
    rw [run_convert_bytes_string w src dst e _ _ c hs he hd]
    cases A with
    | none => simp [Conv.bytesToString]; rfl
    | some a =>
      have := run_bytesToString (P := P) w a 0 c [] (by simp [loadCells, loadCellsFrom])
      exact this
  · obtain ⟨b, off, rfl, _, hc⟩ := h (by intro e; apply hl; simpa [cells] using e)
    have hx := run_convert_bytes_arg (P := P) w src e hs he b off l.length c (l.map fun x => (x.toNat : Int)) (by simp) (fun i hi => by
      rw [hc i _ (by rw [cells, List.getElem?_map, List.getElem?_eq_getElem hi]; rfl)]
      simp [List.getD, List.getElem?_eq_getElem hi]) dst hd
    rw [hx]
    congr 2
    have e1 : (l.map fun x => (x.toNat : Int)).map (fun n => UInt8.ofNat n.toNat) = l := by
      rw [List.map_map]
      conv => rhs; rw [← List.map_id l]
      apply List.map_congr_left
      intro x _
      simp
    unfold strOfNums
    rw [e1]

/-- What an owned slice is. -/
theorem own_form {w : World} {base n : Nat} {e : TypeId} {v : Value} {xs : List Value} (h : w.ownsRow base e 1 v n xs) : ∃ A c, v = .slice A n c ∧ Seen w w.heap.size A xs ∧ n ≤ c := by
  have h' := h
  rcases h'.2 with ⟨rfl, rfl⟩ | ⟨g, cap, cur, rfl, _, _, hnc, _⟩
  · exact ⟨none, 0, rfl, Seen.of_own h, Nat.le_refl _⟩
  · exact ⟨_, cap, rfl, Seen.of_own h, hnc⟩
theorem own_bytes {w : World} {base : Nat} {e : TypeId} {v : Value} {l : List UInt8} (h : w.ownsRow base e 1 v l.length (cells l)) : ∃ A c, v = .slice A l.length c ∧ Seen w w.heap.size A (cells l) ∧ l.length ≤ c := own_form h

/-- A world behind w in which nothing that was there has turned. -/
structure After (w : World) where
  val : World
  below : Below w.heap.size w val
instance (w : World) : Nonempty (After w) := ⟨⟨w, Below.refl _ _⟩⟩
/-- A region that draws its order, whose operations only read what was there and whose callees turn nothing that was there: walked once, in the text's order. -/
theorem wp_region_after {P : Program} {id : Nat} {Q : Exit → Act → World → Prop} {a : Act} {w : World} {l : List Oper} (hm : P.follows .mixedOrders = true) (hB : Region.lexB .any l.toArray = true)
    (h : wpQuiet P l.toArray (fun w' => ∃ x : After w, w' = x.val) (fun a' => ∀ w', (∃ x : After w, w' = x.val) → Q .normal a' w') l a) : (Code.region id l.toArray true).wp P Q a w :=
  wp_region_quiet (C := fun w' => ∃ x : After w, w' = x.val) hm hB ⟨⟨w.drew, (Below.refl _ _).drew⟩, rfl⟩ (by simpa using h)
/-- A callee in such a region. -/
theorem Calls.after {P : Program} {f : FuncId} {args : Array Value} {w : World} {x : After w} {v : Value} (h : Calls P f args x.val fun e w' => e = .returned v ∧ Below x.val.heap.size x.val w') :
    Calls P f args x.val fun e w'' => e = .returned v ∧ ∃ y : After w, w'' = y.val :=
  h.mono fun _ w'' ⟨he, hb⟩ => ⟨he, ⟨w'', x.below.trans (hb.mono x.below.size)⟩, rfl⟩
theorem Calls.after_same {P : Program} {f : FuncId} {args : Array Value} {w : World} {x : After w} {v : Value} (h : Calls P f args x.val fun e w' => e = .returned v ∧ x.val = w') :
    Calls P f args x.val fun e w'' => e = .returned v ∧ ∃ y : After w, w'' = y.val :=
  h.mono fun _ _ ⟨he, hb⟩ => ⟨he, x, hb.symm⟩

/-- .. the length under a name of its own. -/
theorem str_now {P : Program} {w : World} {B : Nat} {A : Option Addr} {l : List UInt8} (h : Seen w B A (cells l)) (src dst e : TypeId) (n c : Nat) (hn : n = l.length)
    (hs : P.underlying src = some (.slice e)) (he : P.underlying e = some (.int .u8)) (hd : P.underlying dst = some .string) :
    (convert src dst (.slice A n c)).run P w = .ok (.string ⟨l.toArray⟩) w := by
  subst hn
  exact run_str h src dst e c hs he hd
/-- 'string(b)' in whatever world behind w. -/
theorem str_after {P : Program} {w : World} {A : Option Addr} {l : List UInt8} (h : Seen w w.heap.size A (cells l)) (src dst e : TypeId) (n c : Nat) (hn : n = l.length)
    (hs : P.underlying src = some (.slice e)) (he : P.underlying e = some (.int .u8)) (hd : P.underlying dst = some .string) :
    ∀ x : After w, (convert src dst (.slice A n c)).run P x.val = .ok (.string ⟨l.toArray⟩) x.val := fun x => by
  subst hn
  exact run_str (h.below x.below) src dst e c hs he hd

/-- What the given shell is told of a slice of integers that came in. -/
def IsRow (k : IntKind) (w : World) (a : Option Addr) (len cap : Nat) (zs : List Int) : Prop :=
  (a = none ∧ len = 0 ∧ cap = 0 ∧ zs = []) ∨
  ∃ x, a = some x ∧ len ≤ cap ∧ cap ≤ maxLen ∧ zs.length = cap ∧ (∀ i, i < zs.length → w.cell? (x.add i) = some (.int k (zs.getD i 0))) ∧ ∀ n ∈ zs, (Lit.int k n).wf = true

/-- .. and what the walks here are told. -/
theorem ints_in {k : IntKind} {w : World} {a : Option Addr} {len cap : Nat} {zs : List Int} (h : IsRow k w a len cap zs) :
    ∃ ns : List Int, len = ns.length ∧ Seen w w.heap.size a (ns.map (Value.int k)) ∧ len ≤ cap ∧ cap ≤ maxLen ∧ ∀ n ∈ ns, (Lit.int k n).wf = true := by
  rcases h with ⟨rfl, rfl, rfl, rfl⟩ | ⟨x, rfl, hl, hm, hz, hcell, hwz⟩
  · exact ⟨[], rfl, Seen.nil _ _ _, Nat.le_refl _, Nat.zero_le _, by simp⟩
  · refine ⟨zs.take len, by simp; omega, fun hx => ?_, hl, hm, fun n hn => hwz n (List.mem_of_mem_take hn)⟩
    have h0 : 0 < len := by
      rcases Nat.eq_zero_or_pos len with rfl | h0
      · exact absurd (by simp) hx
      · exact h0
    obtain ⟨b, off, spot⟩ := x
    have hc := hcell 0 (by omega)
    have hspot : spot = none := by simpa [Addr.add] using World.cell?_spot hc
    subst hspot
    refine ⟨b, off, rfl, ?_, fun j u hu => ?_⟩
    · have hb := World.block_lt_of_cell? w _ hc
      rwa [plain_add] at hb
    · rw [List.getElem?_map] at hu
      rcases Nat.lt_or_ge j len with hj | hj
      · have hjz : j < zs.length := by omega
        rw [List.getElem?_take_of_lt hj, List.getElem?_eq_getElem hjz] at hu
        have := hcell j hjz
        rw [plain_add] at this
        rw [this]
        simp [List.getD, List.getElem?_eq_getElem hjz] at hu ⊢
        exact hu
      · rw [List.getElem?_eq_none (by simp; omega)] at hu
        simp at hu

theorem bytes_in {w : World} {a : Option Addr} {len cap : Nat} {zs : List Int} (h : IsRow .u8 w a len cap zs) :
    ∃ bs : List UInt8, len = bs.length ∧ Seen w w.heap.size a (cells bs) ∧ len ≤ cap ∧ cap ≤ maxLen := by
  obtain ⟨ns, hn, hs, hl, hm, hwf⟩ := ints_in h
  refine ⟨ns.map fun n => UInt8.ofNat n.toNat, by simpa using hn, ?_, hl, hm⟩
  have e : cells (ns.map fun n => UInt8.ofNat n.toNat) = ns.map (Value.int .u8) := by
    rw [cells, List.map_map]
    apply List.map_congr_left
    intro n hn
    have hb := bounds_u8 (hwf n hn)
    simp only [Function.comp]
    rw [VP.toNat_ofNat (by omega)]
    congr 1
    omega
  rw [e]
  exact hs

theorem bool_dec (p : Prop) [Decidable p] (h : ¬ p) : decide p = false := by simpa using h

theorem ofInt_nat64 (a : Nat) (ha : a < 9223372036854775808) : (BitVec.ofInt 64 (a : Int)).toNat = a := by
  rw [BitVec.ofInt_natCast, BitVec.toNat_ofNat]; exact Nat.mod_eq_of_lt (by omega)
theorem and_i64 (a b : Nat) (ha : a < 9223372036854775808) (hb : b < 9223372036854775808) : bits .and .i64 (a : Int) (b : Int) = ((a &&& b : Nat) : Int) := by
  have hx : a &&& b < 2 ^ 63 := Nat.and_lt_two_pow _ (by omega)
  show IntKind.i64.wrap ((BitVec.ofInt 64 (a : Int) &&& BitVec.ofInt 64 (b : Int)).toNat : Int) = _
  rw [BitVec.toNat_and, ofInt_nat64 a ha, ofInt_nat64 b hb, IntKind.wrap_i64]
  omega
theorem or_i64 (a b : Nat) (ha : a < 9223372036854775808) (hb : b < 9223372036854775808) : bits .or .i64 (a : Int) (b : Int) = ((a ||| b : Nat) : Int) := by
  have hx : a ||| b < 2 ^ 63 := Nat.or_lt_two_pow (by omega) (by omega)
  show IntKind.i64.wrap ((BitVec.ofInt 64 (a : Int) ||| BitVec.ofInt 64 (b : Int)).toNat : Int) = _
  rw [BitVec.toNat_or, ofInt_nat64 a ha, ofInt_nat64 b hb, IntKind.wrap_i64]
  omega
theorem low_i64 (a : Nat) (ha : a < 9223372036854775808) : bits .and .i64 (a : Int) 127 = ((a % 128 : Nat) : Int) := by
  have h := and_i64 a 127 ha (by omega)
  rw [show a &&& 127 = a % 128 from Nat.and_two_pow_sub_one_eq_mod a 7] at h
  exact h
theorem high_i64 (a : Nat) (ha : a < 128) : bits .or .i64 (a : Int) 128 = ((128 + a : Nat) : Int) := by
  have h := or_i64 a 128 (by omega) (by omega)
  rw [show a ||| 128 = 128 + a by have := Nat.two_pow_add_eq_or_of_lt (i := 7) (b := a) (by omega) 1; rw [Nat.or_comm]; simpa using this.symm] at h
  exact h
theorem low_u8 {c : Int} (h₀ : 0 ≤ c) (h₁ : c ≤ 255) : bits .and .u8 c 127 = c % 128 := bits_mask .u8 8 (by decide) wraps_u8 7 (by decide) c h₀ (by omega)
end Go.Proofs.YtplpagnnlggfgaaDoor

namespace Go.Proofs.YtplpagnnlggfgaaDoor
open Go.RowKit

theorem isNumber_yes (n : Int) (w : World) (h0 : 0 ≤ n) (h1 : n ≤ 1099511627776) :
    Calls Tryd.prog 84 #[.int .i64 n] w fun e w' => e = .returned (.bool true) ∧ w = w' := by
  go_enter Tryd.func84, Tryd.ntmps84
  go_wp2
  go_ret
  exact ⟨rfl, rfl⟩

theorem isNumber_no (n : Int) (w : World) (h : n < 0 ∨ 1099511627776 < n) :
    Calls Tryd.prog 84 #[.int .i64 n] w fun e w' => e = .returned (.bool false) ∧ w = w' := by
  rcases h with h | h
  · go_enter Tryd.func84, Tryd.ntmps84
    go_wp2
    go_ret
    exact ⟨rfl, rfl⟩
  · have h0 : 0 ≤ n := by omega
    have h1 : decide (n ≤ 1099511627776) = false := bool_dec _ (by omega)
    go_enter Tryd.func84, Tryd.ntmps84
    go_wp2
    go_ret
    exact ⟨rfl, rfl⟩

theorem len_no (n : Int) (w : World) (h : n < 0 ∨ 1099511627776 < n) :
    Calls Tryd.prog 85 #[.int .i64 n] w fun e w' => e = .returned (.int .i64 0) ∧ w = w' := by
  go_enter Tryd.func85, Tryd.ntmps85
  go_wp2_with (go_at_call 84; refine (isNumber_no _ _ h).mono ?_; rintro e w' ⟨rfl, rfl⟩)
  go_ret
  exact ⟨rfl, rfl⟩

theorem ret_i64 {a b : Int} (h : a = b) : Ending.returned (.int .i64 a) = .returned (.int .i64 b) := by rw [h]

theorem enc_len_div (m : Nat) (h : ¬ m < 128) : (VP.enc m).length = 1 + (VP.enc (m / 128)).length := by rw [VP.enc_great h]; simp; omega

/-- How many bytes are still to be counted. -/
def rest (m : Nat) : Nat := if m = 0 then 0 else (VP.enc m).length
theorem rest_zero : rest 0 = 0 := rfl
theorem rest_step (m : Nat) (h : 0 < m) : rest m = 1 + rest (m / 128) := by
  unfold rest
  rw [if_neg (by omega)]
  by_cases hs : m < 128
  · rw [if_pos (by omega), VP.enc_small hs]; rfl
  · rw [if_neg (by omega), enc_len_div m hs]
theorem rest_first (n : Nat) : (VP.enc n).length = 1 + rest (n / 128) := by
  by_cases hs : n < 128
  · rw [VP.enc_small hs, show n / 128 = 0 by omega]; rfl
  · have := rest_step n (by omega)
    unfold rest at this ⊢
    rw [if_neg (by omega)] at this
    exact this

set_option maxHeartbeats 400000 in
theorem len_yes (n : Nat) (w : World) (h1 : n ≤ 1099511627776) :
    Calls Tryd.prog 85 #[.int .i64 (n : Int)] w fun e w' => e = .returned (.int .i64 ((VP.enc n).length : Int)) ∧ w = w' := by
  have H := Lib.hid (rest_first n)
  have hsix := VP.enc_six h1
  go_enter Tryd.func85, Tryd.ntmps85
  go_wp2_with (go_at_call 84; refine (isNumber_yes _ _ (by omega) (by omega)).mono ?_; rintro e w' ⟨rfl, rfl⟩)
  go_loop [0, 3] (fun x s => ∃ (m k : Nat), m ≤ n ∧ x = .int .i64 m ∧ s = .int .i64 k ∧ k + rest m = (VP.enc n).length) (fun x _ => (intOf x).toNat)
  case atStart => exact ⟨n / 128, 1, by omega, by go_num, rfl, by rw [H.out]⟩
  case round =>
    obtain ⟨m, k, hm, rfl, rfl, hk⟩ := hrel
    by_cases hp : 0 < m
    · have HS := Lib.hid (rest_step m hp)
      have HK := Lib.hid hk
      have hk6 : k ≤ 6 := by omega
      clear hk
      go_wp2
      go_round
      case rel => exact ⟨m / 128, k + 1, by omega, by go_num, by go_num, by have := HS.out; have := HK.out; omega⟩
      case measure => simp [intOf]; omega
    · obtain rfl : m = 0 := by omega
      have HK := Lib.hid hk
      clear hk
      go_wp2
      go_ret
      exact ⟨ret_i64 (by have := HK.out; rw [rest_zero] at this; omega), rfl⟩

end Go.Proofs.YtplpagnnlggfgaaDoor

namespace Go.Proofs.YtplpagnnlggfgaaDoor
open Go.RowKit

theorem u8_info : (Tryd.prog.info? 5).map (fun i => (i.zero, i.size, i.bytes)) = some (some (.int .u8 0), 1, 1) := by kernel_rfl

/-- The byte that is not the last. -/
def mid (m : Nat) : UInt8 := UInt8.ofNat (128 + m % 128)
theorem mid_val (m : Nat) : ((mid m).toNat : Int) = 128 + (m : Int) % 128 := by
  unfold mid
  rw [VP.toNat_ofNat (by omega)]
  omega
theorem add_last {w' : World} {base : Nat} {e : TypeId} {v : Value} (ys : List UInt8) (m : Nat) (h : m < 128) (hown : w'.ownsRow base e 1 v (ys.length + 1) (cells ys ++ [.int .u8 (m : Int)])) :
    w'.ownsRow base e 1 v (ys ++ VP.enc m).length (cells (ys ++ VP.enc m)) := by
  rw [VP.enc_small h, cells_append]
  simpa [cells, VP.toNat_ofNat (show m < 256 by omega)] using hown
theorem add_more {w' : World} {base : Nat} {e : TypeId} {v : Value} (ys : List UInt8) (m : Nat) (hown : w'.ownsRow base e 1 v (ys.length + 1) (cells ys ++ [.int .u8 (128 + (m : Int) % 128)])) :
    w'.ownsRow base e 1 v (ys ++ [mid m]).length (cells (ys ++ [mid m])) := by
  rw [cells_append]
  simpa [cells, mid_val] using hown
theorem add_eq {T : List UInt8} (ys : List UInt8) (m : Nat) (h : ¬ m < 128) (he : ys ++ VP.enc m = T) : (ys ++ [mid m]) ++ VP.enc (m / 128) = T := by
  rw [← he, VP.enc_great h]; simp [mid]
theorem add_len {T : List UInt8} (ys : List UInt8) (m : Nat) (h : ¬ m < 128) (he : ys ++ VP.enc m = T) : (ys ++ [mid m]).length ≤ T.length := by
  rw [← add_eq ys m h he, List.length_append (bs := VP.enc _)]; omega

set_option maxRecDepth 100000 in
set_option maxHeartbeats 400000 in
theorem add_any (base : Nat) (v : Value) (xs : List UInt8) (n : Nat) (w : World) (hb : base ≤ w.heap.size)
    (hv : w.ownsRow base 5 1 v xs.length (cells xs)) (hx : xs.length ≤ 1000000) (hn : n ≤ 1099511627776) :
    Calls Tryd.prog 86 #[v, .int .i64 (n : Int)] w fun e w' =>
      ∃ v', e = .returned v' ∧ w'.ownsRow base 5 1 v' (xs ++ VP.enc n).length (cells (xs ++ VP.enc n)) ∧ Below base w w' := by
  obtain ⟨i0, hi0, hz0, hz1, hz2⟩ := info_parts u8_info
  go_enter Tryd.func86, Tryd.ntmps86
  go_wp2
  go_loopw [0, 1] (fun v x wr => ∃ (m : Nat) (ys : List UInt8), m ≤ n ∧ x = .int .i64 m ∧ ys ++ VP.enc m = xs ++ VP.enc n ∧ ys.length ≤ (xs ++ VP.enc n).length ∧ wr.ownsRow base 5 1 v ys.length (cells ys) ∧ Below base w wr) (fun _ x _ => (intOf x).toNat)
  case atStart => exact ⟨n, xs, Nat.le_refl _, rfl, rfl, by simp, hv, Below.refl _ _⟩
  case round =>
    obtain ⟨m, ys, hm, rfl, he, hl, hown, hbw⟩ := hrel
    have HE := Lib.hid he
    clear he
    have HL : Hid ((xs ++ VP.enc n).length ≤ 1000006) := by have := VP.enc_six hn; show (xs ++ VP.enc n).length ≤ 1000006; simp; omega
    have HX := Lib.hid hx
    have HY := Lib.hid hl
    clear hx hl
    by_cases hlt : m < 128
    · have hlt' : (m : Int) < 128 := by omega
      go_wp2_with (at_builtin; refine wpList_append_own _ rfl _ _ 27 rfl base 5 i0 (.int .u8 0) 1 1 Tryd.underlying27 hi0 hz0 hz1 hz2 rfl (by decide) _ _ _ rfl (hown.alloc _) ⟨wr.heap.size, 0, none⟩ 1 1 [.int .u8 (m : Int)] rfl rfl ?c1 ?c2 ?c3 ?c4 ?c5 ?_)
      case c1 => exact cell_one_new _ _ _
      case c2 => intro u hu; simp at hu; subst hu; rfl
      case c3 => have := HL.out; have := HY.out; unfold maxLen; omega
      case c4 => have := HL.out; have := HY.out; omega
      case c5 => have := hbw.size; simp; omega
      intro v' w1 hown' hgrow _
      have hbw1 := (hbw.alloc (by have := hbw.size; omega) (.cells #[.int .u8 (m : Int)] 5)).grown hgrow (by have := hbw.size; simp; omega) (fun k hk => (hown.lt k hk).1)
      go_wp2
      go_ret
      refine ⟨v', rfl, ?_, hbw1⟩
      rw [← HE.out]
      exact add_last ys m hlt hown'
    · have hlow : bits .and .i64 (m : Int) 127 = (m : Int) % 128 := by rw [low_i64 m (by omega)]; omega
      have hhigh : bits .or .i64 ((m : Int) % 128) 128 = 128 + (m : Int) % 128 := by have := high_i64 (m % 128) (by omega); rw [show ((m : Int) % 128) = ((m % 128 : Nat) : Int) by omega, this]; omega
      go_wp2_with (at_builtin; refine wpList_append_own _ rfl _ _ 27 rfl base 5 i0 (.int .u8 0) 1 1 Tryd.underlying27 hi0 hz0 hz1 hz2 rfl (by decide) _ _ _ rfl (hown.alloc _) ⟨wr.heap.size, 0, none⟩ 1 1 [.int .u8 (128 + (m : Int) % 128)] rfl rfl ?c1 ?c2 ?c3 ?c4 ?c5 ?_)
      case c1 => exact cell_one_new _ _ _
      case c2 => intro u hu; simp at hu; subst hu; rfl
      case c3 => have := HL.out; have := HY.out; unfold maxLen; omega
      case c4 => have := HL.out; have := HY.out; omega
      case c5 => have := hbw.size; simp; omega
      intro v' w1 hown' hgrow _
      have hbw1 := (hbw.alloc (by have := hbw.size; omega) (.cells #[.int .u8 (128 + (m : Int) % 128)] 5)).grown hgrow (by have := hbw.size; simp; omega) (fun k hk => (hown.lt k hk).1)
      have hown2 := add_more ys m hown'
      have HE2 := Lib.hid (add_eq ys m hlt HE.out)
      have HL2 := Lib.hid (add_len ys m hlt HE.out)
      clear hlow hhigh hgrow hbw hown hown' HE HX HY
      go_wp2
      go_roundw
      case rel => exact ⟨m / 128, _, by omega, by go_num, HE2.out, HL2.out, hown2, hbw1⟩
      case measure => simp [intOf]; omega

theorem put_no (v : Value) (n : Int) (w : World) (h : n < 0 ∨ 1099511627776 < n) :
    Calls Tryd.prog 83 #[v, .int .i64 n] w fun e w' => e = .returned (.tuple #[.slice none 0 0, .int .i64 2]) ∧ w = w' := by
  go_enter Tryd.func83, Tryd.ntmps83
  go_wp2_with (go_at_call 84; refine (isNumber_no _ _ h).mono ?_; rintro e w' ⟨rfl, rfl⟩)
  go_ret2
  exact ⟨rfl, rfl⟩

theorem below_grown {w w' : World} (h : w.grownBy w' none) : Below w.heap.size w w' := (Below.refl _ _).grown h (Nat.le_refl _) (fun k hk => by cases hk)

set_option maxRecDepth 100000 in
set_option maxHeartbeats 400000 in
theorem put_yes (A : Option Addr) (c : Nat) (xs : List UInt8) (n : Nat) (w : World) (hs : Seen w w.heap.size A (cells xs)) (hx : xs.length ≤ 1000000) (hn : n ≤ 1099511627776) :
    Calls Tryd.prog 83 #[.slice A xs.length c, .int .i64 (n : Int)] w fun e w' =>
      ∃ v, e = .returned (.tuple #[v, .int .i64 0]) ∧ w'.ownsRow w.heap.size 5 1 v (xs ++ VP.enc n).length (cells (xs ++ VP.enc n)) ∧ Below w.heap.size w w' := by
  obtain ⟨i0, hi0, hz0, hz1, hz2⟩ := info_parts u8_info
  have h6 := VP.enc_six hn
  go_enter Tryd.func83, Tryd.ntmps83
  go_wp2_with (first
    | (go_at_call 84; refine (isNumber_yes _ _ (by omega) (by omega)).mono ?_; rintro e w' ⟨rfl, rfl⟩)
    | (go_at_call 85; refine (len_yes n _ hn).mono ?_; rintro e w' ⟨rfl, rfl⟩)
    | (at_make; refine wpList_make_own _ rfl _ _ 27 rfl w.heap.size 5 i0 (.int .u8 0) 1 Tryd.underlying27 hi0 hz0 hz1 _ _ _ (xs.length + (VP.enc n).length) rfl rfl (by omega) ?c1 ?c2 ?c3 ?_))
  case c1 => rw [hz2]; omega
  case c2 => unfold maxLen; omega
  case c3 => exact Nat.le_refl _
  intro w1 hown1 hg1
  have hb1 := below_grown hg1
  go_wp2_with (at_builtin; refine wpList_append_seen rfl _ _ 27 rfl w.heap.size 5 i0 (.int .u8 0) 1 Tryd.underlying27 hi0 hz0 hz1 hz2 rfl _ _ _ rfl hown1 w.heap.size A xs.length c (cells xs) rfl (cells_length _) (hs.below hb1) (cells_one _) ?c4 ?c5 ?c6 ?_)
  case c4 => unfold maxLen; omega
  case c5 => omega
  case c6 => exact hb1.size
  intro v2 w2 hown2 hb2
  have hsz := hb2.size
  have hsz1 := hb1.size
  go_wp2_with (go_at_call 86; refine (add_any w.heap.size _ xs n _ (by omega) hown2 hx hn).mono ?_)
  rintro e w3 ⟨v3, rfl, hown3, hb3⟩
  go_wp2
  go_ret2
  exact ⟨v3, rfl, hown3, (hb1.trans hb2).trans hb3⟩

end Go.Proofs.YtplpagnnlggfgaaDoor
