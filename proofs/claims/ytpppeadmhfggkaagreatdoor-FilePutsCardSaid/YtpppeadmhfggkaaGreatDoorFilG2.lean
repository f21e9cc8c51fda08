/-
  Numbers in few bytes, on lists of bytes alone (no program): 'enc n' are the bytes of the number n, 'dec l' reads the number that begins the bytes l. No conditions.
  Slices as lists: what the walks over this seat's program say of memory ('Seen': a slice that reads as a list of cells; 'cells': bytes as cells), and numbers' bits. No conditions.
  What the walks over disks say of memory: slices of files as lists ('Seen' of 'fcells'), 'Kept S w w'' (all but the blocks of S is as it was), a variable, the one package variable of errors. No conditions.
  Appending files, and cutting slices of files: laws for the walks. No conditions.
-/
import Init
import Derived.Test.YtpppeadmhfggkaaGreatDoorRows
import Derived.WalkKit
import Derived.WalkSpells
import Derived.WalkLawsBesides
import Derived.OpenShut
import Derived.Lib.Hide
import Derived.BigRegion
import Derived.BigQuiet
import Derived.Deep.QuietTactic
import Derived.Maps.AppendAt
import Derived.Laws.BytesArg
import Derived.Laws.BitsAllLaws
import Derived.Laws.BitsLemmas
import Derived.Test.YtpppeadmhfggkaaGreatDoorFilG1
import Derived.Lib.ConvBytes
import Derived.Lib.AppendStr
import Derived.Deep.DrawnRows
import Derived.Deep.DeepCutAuto
import Derived.Deep.RegionHeld3
namespace Go.Proofs.YtpppeadmhfggkaaGreatDoor.VP

/-- The bytes of a number: seven bits a byte, the lowest first, 128 added to each but the last. -/
def enc (n : Nat) : List UInt8 := if h : n < 128 then [UInt8.ofNat n] else UInt8.ofNat (128 + n % 128) :: enc (n / 128)
termination_by n
decreasing_by omega

theorem enc_small {n : Nat} (h : n < 128) : enc n = [UInt8.ofNat n] := by rw [enc, dif_pos h]
theorem enc_great {n : Nat} (h : ¬ n < 128) : enc n = UInt8.ofNat (128 + n % 128) :: enc (n / 128) := by rw [enc, dif_neg h]

/-- A reading in the midst: place i behind the number's first byte, a: what the bytes before say. -/
def decGo : Nat → Nat → List UInt8 → Option (Nat × Nat)
  | _, _, [] => none
  | i, a, c :: r =>
    if 6 ≤ i then none
    else if 128 ≤ c.toNat then decGo (i + 1) (a + c.toNat % 128 * 128 ^ i) r
    else if 1099511627776 < a + c.toNat % 128 * 128 ^ i ∨ (c.toNat = 0 ∧ 0 < i) then none
    else some (a + c.toNat % 128 * 128 ^ i, i + 1)

/-- The number that begins l, and how many bytes it has. -/
def dec (l : List UInt8) : Option (Nat × Nat) := decGo 0 0 l

theorem decGo_nil (i a : Nat) : decGo i a [] = none := by simp [decGo]
theorem decGo_far {i : Nat} (h : 6 ≤ i) (a : Nat) (l : List UInt8) : decGo i a l = none := by
  cases l with
  | nil => simp [decGo]
  | cons c r => simp [decGo, h]
theorem decGo_more {i a : Nat} {c : UInt8} {r : List UInt8} (hi : i < 6) (hc : 128 ≤ c.toNat) : decGo i a (c :: r) = decGo (i + 1) (a + c.toNat % 128 * 128 ^ i) r := by
  rw [decGo, if_neg (by omega), if_pos hc]
theorem decGo_bad {i a : Nat} {c : UInt8} {r : List UInt8} (hi : i < 6) (hc : c.toNat < 128) (hb : 1099511627776 < a + c.toNat % 128 * 128 ^ i ∨ (c.toNat = 0 ∧ 0 < i)) : decGo i a (c :: r) = none := by
  rw [decGo, if_neg (by omega), if_neg (by omega), if_pos hb]
theorem decGo_last {i a : Nat} {c : UInt8} {r : List UInt8} (hi : i < 6) (hc : c.toNat < 128) (hb : ¬ (1099511627776 < a + c.toNat % 128 * 128 ^ i ∨ (c.toNat = 0 ∧ 0 < i))) :
    decGo i a (c :: r) = some (a + c.toNat % 128 * 128 ^ i, i + 1) := by
  rw [decGo, if_neg (by omega), if_neg (by omega), if_neg hb]

theorem toNat_ofNat {n : Nat} (h : n < 256) : (UInt8.ofNat n).toNat = n := by
  rw [UInt8.toNat_ofNat']; exact Nat.mod_eq_of_lt h

theorem ofNat_toNat (c : UInt8) : UInt8.ofNat c.toNat = c := by simp

theorem enc_pos (n : Nat) : 0 < (enc n).length := by
  by_cases h : n < 128
  · rw [enc_small h]; simp
  · rw [enc_great h]; simp

theorem enc_ne (n : Nat) : enc n ≠ [] := by
  intro h
  have := enc_pos n
  rw [h] at this
  simp at this

/-- How long: n below 128 ^ k has at most k bytes. -/
theorem enc_le : ∀ (k n : Nat), 0 < k → n < 128 ^ k → (enc n).length ≤ k := by
  intro k
  induction k with
  | zero => intro n h; omega
  | succ k ih =>
    intro n _ h
    by_cases hs : n < 128
    · rw [enc_small hs]; simp
    · rw [enc_great hs]
      have hk : 0 < k := by
        rcases Nat.eq_zero_or_pos k with rfl | h'
        · simp at h; omega
        · exact h'
      have := ih (n / 128) hk (by rw [Nat.pow_succ] at h; exact Nat.div_lt_of_lt_mul (by rw [Nat.mul_comm]; exact h))
      simp; omega

theorem enc_six {n : Nat} (h : n ≤ 1099511627776) : (enc n).length ≤ 6 := enc_le 6 n (by omega) (by omega)

theorem enc_mono : ∀ (n m : Nat), n ≤ m → (enc n).length ≤ (enc m).length := by
  intro n
  induction n using Nat.strongRecOn with
  | ind n ih =>
    intro m h
    by_cases hn : n < 128
    · rw [enc_small hn]; have := enc_pos m; simp; omega
    · rw [enc_great hn, enc_great (show ¬ m < 128 by omega)]
      have := ih (n / 128) (by omega) (m / 128) (Nat.div_le_div_right h)
      simp; omega

theorem split128 (n p : Nat) : n % 128 * p + n / 128 * (128 * p) = n * p := by
  have h := Nat.div_add_mod n 128
  have h2 : n * p = (128 * (n / 128) + n % 128) * p := by rw [h]
  rw [h2, Nat.add_mul]
  have h3 : n / 128 * (128 * p) = 128 * (n / 128) * p := by rw [← Nat.mul_assoc, Nat.mul_comm (n / 128) 128]
  rw [h3, Nat.add_comm]

theorem decGo_enc : ∀ (n i a : Nat) (r : List UInt8), i + (enc n).length ≤ 6 → a + n * 128 ^ i ≤ 1099511627776 → (0 < i → 0 < n) →
    decGo i a (enc n ++ r) = some (a + n * 128 ^ i, i + (enc n).length) := by
  intro n
  induction n using Nat.strongRecOn with
  | ind n ih =>
    intro i a r hl hv hp
    by_cases hn : n < 128
    · have ht : (UInt8.ofNat n).toNat = n := toNat_ofNat (by omega)
      have hm : n % 128 = n := Nat.mod_eq_of_lt hn
      rw [enc_small hn] at hl ⊢
      simp only [List.length_cons, List.length_nil, List.cons_append, List.nil_append] at hl ⊢
      rw [decGo_last (by omega) (by omega) (by rw [ht, hm]; intro h; rcases h with h | ⟨h, h'⟩; omega; have := hp h'; omega), ht, hm]
    · have hlt : n % 128 < 128 := Nat.mod_lt _ (by omega)
      have ht : (UInt8.ofNat (128 + n % 128)).toNat = 128 + n % 128 := toNat_ofNat (by omega)
      have hm : (128 + n % 128) % 128 = n % 128 := by omega
      rw [enc_great hn] at hl ⊢
      simp only [List.length_cons, List.cons_append] at hl ⊢
      have hsp := split128 n (128 ^ i)
      have hpw : 128 ^ (i + 1) = 128 * 128 ^ i := by rw [Nat.pow_succ, Nat.mul_comm]
      have hs : a + n % 128 * 128 ^ i + n / 128 * 128 ^ (i + 1) = a + n * 128 ^ i := by rw [hpw]; omega
      rw [decGo_more (by omega) (by omega), ht, hm, ih (n / 128) (by omega) (i + 1) _ r (by omega) (by rw [hs]; exact hv) (fun _ => by omega), hs]
      congr 2
      omega

theorem dec_enc {n : Nat} (h : n ≤ 1099511627776) (r : List UInt8) : dec (enc n ++ r) = some (n, (enc n).length) := by
  have := decGo_enc n 0 0 r (by have := enc_six h; omega) (by omega) (fun h => absurd h (by omega))
  simpa [dec] using this

theorem decGo_only : ∀ (l : List UInt8) (i a n k : Nat), decGo i a l = some (n, k) → a < 128 ^ i →
    n ≤ 1099511627776 ∧ i < k ∧ k ≤ i + l.length ∧ k ≤ 6 ∧ ∃ m, n = a + m * 128 ^ i ∧ enc m = l.take (k - i) ∧ (0 < i → 0 < m) := by
  intro l
  induction l with
  | nil => intro i a n k h; simp [decGo] at h
  | cons c r ih =>
    intro i a n k h ha
    have hpos : 0 < 128 ^ i := Nat.pow_pos (by omega)
    have hc := c.toNat_lt
    by_cases hi : 6 ≤ i
    · rw [decGo_far hi] at h; cases h
    · by_cases hm : 128 ≤ c.toNat
      · rw [decGo_more (by omega) hm] at h
        have hpw : 128 ^ (i + 1) = 128 * 128 ^ i := by rw [Nat.pow_succ, Nat.mul_comm]
        have hlt : c.toNat % 128 < 128 := Nat.mod_lt _ (by omega)
        have hle : c.toNat % 128 * 128 ^ i ≤ 127 * 128 ^ i := Nat.mul_le_mul_right _ (by omega)
        obtain ⟨h1, h2, h3, h4, m, h5, h6, h7⟩ := ih (i + 1) _ n k h (by rw [hpw]; omega)
        have hmp := h7 (by omega)
        refine ⟨h1, by omega, by simp; omega, h4, c.toNat % 128 + 128 * m, ?_, ?_, fun _ => by omega⟩
        · rw [h5, hpw, Nat.add_mul, Nat.add_assoc]
          congr 2
          rw [← Nat.mul_assoc, Nat.mul_comm m 128]
        · have e1 : k - i = (k - (i + 1)) + 1 := by omega
          rw [e1, List.take_succ_cons, enc_great (by omega), ← h6]
          congr 1
          · have : (c.toNat % 128 + 128 * m) % 128 = c.toNat % 128 := by omega
            rw [this]
            have : 128 + c.toNat % 128 = c.toNat := by omega
            rw [this, ofNat_toNat]
          · congr 1; omega
      · by_cases hb : 1099511627776 < a + c.toNat % 128 * 128 ^ i ∨ (c.toNat = 0 ∧ 0 < i)
        · rw [decGo_bad (by omega) (by omega) hb] at h; cases h
        · rw [decGo_last (by omega) (by omega) hb] at h
          have hmod : c.toNat % 128 = c.toNat := Nat.mod_eq_of_lt (by omega)
          injection h with h
          injection h with h1 h2
          rw [hmod] at h1 hb
          have hp : 0 < i → 0 < c.toNat := fun h0 => by
            rcases Nat.eq_zero_or_pos c.toNat with hz | hz
            · exact absurd (Or.inr ⟨hz, h0⟩) hb
            · exact hz
          have hn : ¬ 1099511627776 < a + c.toNat * 128 ^ i := fun hh => hb (Or.inl hh)
          refine ⟨by omega, by omega, by simp; omega, by omega, c.toNat, h1.symm, ?_, hp⟩
          have e1 : k - i = 1 := by omega
          rw [e1, enc_small (by omega)]
          simp

theorem dec_only {l : List UInt8} {n k : Nat} (h : dec l = some (n, k)) : n ≤ 1099511627776 ∧ 0 < k ∧ k ≤ l.length ∧ k ≤ 6 ∧ enc n = l.take k := by
  obtain ⟨h1, h2, h3, h4, m, h5, h6, _⟩ := decGo_only l 0 0 n k h (by simp)
  have : m = n := by rw [h5]; simp
  subst this
  exact ⟨h1, h2, by omega, h4, by simpa using h6⟩

/-- No number's bytes begin another's. -/
theorem enc_apart {n m : Nat} (hn : n ≤ 1099511627776) (hm : m ≤ 1099511627776) (h : enc n = (enc m).take (enc n).length) : n = m := by
  have h1 := dec_enc hn ((enc m).drop (enc n).length)
  have h2 := dec_enc hm []
  have h3 : enc n ++ (enc m).drop (enc n).length = enc m := by
    conv => lhs; lhs; rw [h]
    exact List.take_append_drop _ _
  rw [h3] at h1
  rw [List.append_nil, h1] at h2
  injection h2 with h2
  injection h2

end Go.Proofs.YtpppeadmhfggkaaGreatDoor.VP

namespace Go.Proofs.YtpppeadmhfggkaaGreatDoor
open Go.RowKit

/-- Bytes as cells. -/
def cells (l : List UInt8) : List Value := l.map fun b => .int .u8 (b.toNat : Int)
theorem cells_length (l : List UInt8) : (cells l).length = l.length := by simp [cells]
theorem cells_append (a b : List UInt8) : cells (a ++ b) = cells a ++ cells b := by simp [cells]
theorem cells_one (l : List UInt8) : ∀ u ∈ cells l, u.oneCell' = true := by
  intro u hu
  simp only [cells, List.mem_map] at hu
  obtain ⟨b, _, rfl⟩ := hu
  rfl
theorem cells_get {l : List UInt8} {j : Nat} {u : Value} (h : (cells l)[j]? = some u) : ∃ hj : j < l.length, u = .int .u8 (l[j].toNat : Int) := by
  rw [cells, List.getElem?_map] at h
  rcases Nat.lt_or_ge j l.length with hj | hj
  · refine ⟨hj, ?_⟩
    rw [List.getElem?_eq_getElem hj] at h
    simpa using h.symm
  · rw [List.getElem?_eq_none hj] at h
    simp at h

/-- The slice at A holds the cells xs, below block B. -/
def Seen (w : World) (B : Nat) (A : Option Addr) (xs : List Value) : Prop :=
  xs ≠ [] → ∃ b off, A = some ⟨b, off, none⟩ ∧ b < B ∧ ∀ j u, xs[j]? = some u → w.cell? ⟨b, off + j, none⟩ = some u

section
variable {w w' : World} {B B' : Nat} {A : Option Addr} {xs : List Value}
theorem Seen.nil (w : World) (B : Nat) (A : Option Addr) : Seen w B A [] := fun h => absurd rfl h
theorem Seen.below (h : Seen w B A xs) (hb : Below B w w') : Seen w' B A xs := fun hx => by
  obtain ⟨b, off, rfl, hlt, hc⟩ := h hx
  exact ⟨b, off, rfl, hlt, fun j u hu => (hb.cell (p := ⟨b, off + j, none⟩) hlt).trans (hc j u hu)⟩
theorem Seen.up (h : Seen w B A xs) (hB : B ≤ B') : Seen w B' A xs := fun hx => by
  obtain ⟨b, off, rfl, hlt, hc⟩ := h hx
  exact ⟨b, off, rfl, by omega, hc⟩
theorem plain_add (b off j : Nat) : (⟨b, off, none⟩ : Addr).add j = ⟨b, off + j, none⟩ := by unfold Addr.add; split <;> simp_all
theorem Seen.of_own {base n c : Nat} {e : TypeId} (h : w.ownsRow base e 1 (.slice A n c) n xs) : Seen w w.heap.size A xs := fun hx => by
  rcases h.2 with ⟨he, h0⟩ | ⟨g, cap, cur, hv, _, hg, _⟩
  · injection he with h1 h2 h3
    subst h1
    exact absurd (List.eq_nil_of_length_eq_zero (by rw [h.1, h0])) hx
  · injection hv with h1 h2 h3
    subst h1
    have hlt : g < w.heap.size := by
      rcases Nat.lt_or_ge g w.heap.size with hlt | hge
      · exact hlt
      · rw [Array.getElem?_eq_none hge] at hg; cases hg
    refine ⟨g, 0, rfl, hlt, fun j u hu => ?_⟩
    have := h.cells (g := g) rfl j u hu
    rwa [plain_add] at this
end

theorem Seen.cut {w : World} {B : Nat} {A : Option Addr} {xs : List Value} {l h c : Nat} (hs : Seen w B A xs) (hl : l ≤ h) (hh : h ≤ xs.length) (hc : xs.length ≤ c) :
    Seen w B (if c = l then A else A.map (·.add (l * 1))) ((xs.drop l).take (h - l)) := fun hx => by
  have hlt : l < h := by
    rcases Nat.lt_or_ge l h with h' | h'
    · exact h'
    · exact absurd (by rw [show h - l = 0 by omega]; rfl) hx
  obtain ⟨b, off, rfl, hb, hcell⟩ := hs (by intro e; subst e; simp at hh; omega)
  rw [if_neg (by omega)]
  refine ⟨b, off + l, by simp [plain_add], hb, fun j u hu => ?_⟩
  rw [Nat.add_assoc]
  refine hcell (l + j) u ?_
  rw [List.getElem?_take] at hu
  split at hu
  · rwa [List.getElem?_drop] at hu
  · cases hu
/-- A row that was just made. -/
theorem Seen.new (w : World) (xs : List Value) (e : TypeId) : Seen (w.alloc (.cells xs.toArray e)) (w.heap.size + 1) (some ⟨w.heap.size, 0, none⟩) xs := fun _ =>
  ⟨w.heap.size, 0, rfl, by omega, fun j u hu => by
    rw [Nat.zero_add, cell_of_row _ _ j xs.toArray e (0, 0) (heap_alloc_new w _)]
    simpa using hu⟩
theorem cells_drop (l : List UInt8) (n : Nat) : cells (l.drop n) = (cells l).drop n := by simp [cells, List.map_drop]
theorem cells_take (l : List UInt8) (n : Nat) : cells (l.take n) = (cells l).take n := by simp [cells, List.map_take]
/-- 's[l:h]' of bytes. -/
theorem run_cut {P : Program} (W : World) (t e : TypeId) (ht : P.underlying t = some (.slice e)) (hz : ∀ w, (Go.sizeOf e).run P w = .ok 1 w) (A : Option Addr) (len c l h : Nat) (hl : l ≤ h) (hh : h ≤ c) :
    (Instr.slice t (.slice A len c) (some (.int .i64 (l : Int))) (some (.int .i64 (h : Int))) none).run P W = .ok (.slice (if c = l then A else A.map (·.add (l * 1))) (h - l) (c - l)) W := by
  have ht' : P.underlying t = some (.slice (P.elem t)) := by simp [Program.elem, ht]
  have he : P.elem t = e := by simp [Program.elem, ht]
  rw [run_slice_lh W t _ _ _ ht' .i64 .i64 _ _ (by omega) (by omega) (by omega), he, hz]
  simp [Result.andThen, sliced]

/-- 'b[:h]' of bytes. -/
theorem cut_to {P : Program} {w : World} {B : Nat} {A : Option Addr} {bs : List UInt8} (hs : Seen w B A (cells bs)) (t e : TypeId) (ht : P.underlying t = some (.slice e)) (hz : ∀ w, (Go.sizeOf e).run P w = .ok 1 w) (c h : Nat) (hh : h ≤ bs.length) (hc : bs.length ≤ c) :
    ∃ D, (∀ W, (Instr.slice t (.slice A bs.length c) none (some (.int .i64 (h : Int))) none).run P W = .ok (.slice D h c) W) ∧ Seen w B D (cells (bs.take h)) := by
  have h1 := hs.cut (l := 0) (h := h) (c := c) (by omega) (by rw [cells_length]; exact hh) (by rw [cells_length]; exact hc)
  rw [List.drop_zero, Nat.sub_zero, ← cells_take] at h1
  refine ⟨_, fun W => ?_, h1⟩
  have ht' : P.underlying t = some (.slice (P.elem t)) := by simp [Program.elem, ht]
  have he : P.elem t = e := by simp [Program.elem, ht]
  rw [run_slice_h W t _ _ _ ht' .i64 _ (by omega) (by omega), he, hz]
  simp [Result.andThen, sliced]
/-- 'b[l:h]' of bytes. -/
theorem cut_lh {P : Program} {w : World} {B : Nat} {A : Option Addr} {bs : List UInt8} (hs : Seen w B A (cells bs)) (t e : TypeId) (ht : P.underlying t = some (.slice e)) (hz : ∀ w, (Go.sizeOf e).run P w = .ok 1 w) (c l h : Nat) (hl : l ≤ h) (hh : h ≤ bs.length) (hc : bs.length ≤ c) :
    ∃ D, (∀ W, (Instr.slice t (.slice A bs.length c) (some (.int .i64 (l : Int))) (some (.int .i64 (h : Int))) none).run P W = .ok (.slice D (h - l) (c - l)) W) ∧ Seen w B D (cells ((bs.drop l).take (h - l))) := by
  have h1 := hs.cut (l := l) (h := h) (c := c) hl (by rw [cells_length]; exact hh) (by rw [cells_length]; exact hc)
  rw [← cells_drop, ← cells_take] at h1
  exact ⟨_, fun W => run_cut W t e ht hz A bs.length c l h hl (by omega), h1⟩

/-- The one block that an owned slice's row may be, before and behind an append: among the call's own. -/
theorem run_append_seen {P : Program} (w : World) (base : Nat) (t ty e : TypeId) (i : TypeInfo) (z : Value) (bytes : Nat) (ht : P.underlying t = some (.slice e)) (hi : P.info? e = some i) (hz : i.zero = some z)
    (hsize : i.size = 1) (hby : i.bytes = bytes) (hzs : z.cells.size = 1)
    (v : Value) (n : Nat) (xs : List Value) (hown : w.ownsRow base e 1 v n xs) (B : Nat) (A : Option Addr) (m c : Nat) (news : List Value) (hm : news.length = m) (hr : Seen w B A news) (h1 : ∀ u ∈ news, u.oneCell' = true)
    (h63 : n + m ≤ maxLen) (hbytes : (n + m) * bytes ≤ 140737488355328) (hbase : base ≤ w.heap.size) :
    ∃ v' w', (Builtin.append_ #[t, t] ty #[v, .slice A m c]).run P w = .ok v' w' ∧ w'.ownsRow base e 1 v' (n + m) (xs ++ news) ∧ Below base w w' := by
  have hlt := hown.lt
  by_cases hn : news = []
  · subst hn
    obtain rfl : m = 0 := by simpa using hm.symm
    refine ⟨v, w, ?_, by simpa using hown, Below.refl _ _⟩
    rcases hown.2 with ⟨rfl, h0⟩ | ⟨g, cap, cur, rfl, _, _, hnc, _⟩
    · cases A <;> simp [Builtin.append_, run_underlying ht, sizeOf, typeInfo, hi, Builtin.lenOf, Builtin.firstCells, loadCells, loadCellsFrom]
    · cases A <;> simp [Builtin.append_, run_underlying ht, sizeOf, typeInfo, hi, Builtin.lenOf, Builtin.firstCells, loadCells, loadCellsFrom, hnc, storeCells]
  · obtain ⟨b, off, rfl, _, hc⟩ := hr hn
    obtain ⟨v', w', hrun, h2, h3, _⟩ := run_append_own (P := P) w base t ty e i z 1 bytes ht hi hz hsize hby hzs (by omega) v n xs hown ⟨b, off, none⟩ m c news (by omega) (fun j u hu => by rw [plain_add]; exact hc j u hu) h1 h63 hbytes hbase
    exact ⟨v', w', hrun, h2, (Below.refl _ _).grown h3 hbase (fun k hk => (hlt k hk).1)⟩

/-- 'append(s, x...)' where s is the call's own and x is any slice that is seen. -/
theorem wpList_append_seen {P : Program} {w : World} {ops : Array Oper} {rest : List Oper} {o : Oper} {a : Act} {Q : Exit → Act → World → Prop} (hgd : o.guard = none) (s x : Operand) (t : TypeId)
    (ho : o.op = .call { callee := .builtin .append, args := #[s, x], argTypes := #[t, t] })
    (base : Nat) (e : TypeId) (i : TypeInfo) (z : Value) (bytes : Nat) (ht : P.underlying t = some (.slice e)) (hi : P.info? e = some i) (hz : i.zero = some z)
    (hsize : i.size = 1) (hby : i.bytes = bytes) (hzs : z.cells.size = 1)
    (v : Value) (n : Nat) (xs : List Value) (hs : a.eval s = v) (hown : w.ownsRow base e 1 v n xs)
    (B : Nat) (A : Option Addr) (m c : Nat) (news : List Value) (hx : a.eval x = .slice A m c) (hm : news.length = m) (hr : Seen w B A news) (h1 : ∀ u ∈ news, u.oneCell' = true)
    (h63 : n + m ≤ maxLen) (hbytes : (n + m) * bytes ≤ 140737488355328) (hbase : base ≤ w.heap.size)
    (h : ∀ v' w', w'.ownsRow base e 1 v' (n + m) (xs ++ news) → Below base w w' → wpList P ops Q rest (a.put o.dst v') w') : wpList P ops Q (o :: rest) a w := by
  refine wpList_plain hgd fun K hK => ?_
  obtain ⟨v', w', hrun, h2, h3⟩ := run_append_seen (P := P) w base t o.type e i z bytes ht hi hz hsize hby hzs v n xs hown B A m c news hm hr h1 h63 hbytes hbase
  unfold Oper.wp execOp
  simp only [ho, resolve, invoke, builtin, Sem.run_bind, Sem.run_pure, Result.andThen_ok, List.map_toArray, List.map_cons, List.map_nil, hs, hx, hrun]
  exact hK _ _ (h v' w' h2 h3)

/-- 'string(b)' of bytes that are seen. -/
theorem run_str {P : Program} {w : World} {B : Nat} {A : Option Addr} {l : List UInt8} (h : Seen w B A (cells l)) (src dst e : TypeId) (c : Nat)
    (hs : P.underlying src = some (.slice e)) (he : P.underlying e = some (.int .u8)) (hd : P.underlying dst = some .string) :
    (convert src dst (.slice A l.length c)).run P w = .ok (.string ⟨l.toArray⟩) w := by
  by_cases hl : l = []
  · subst hl
    rw [run_convert_bytes_string w src dst e _ _ c hs he hd]
    cases A with
    | none => simp [Conv.bytesToString]; rfl
    | some a =>
      have := run_bytesToString (P := P) w a 0 c [] (by simp [loadCells, loadCellsFrom])
      exact this
  · obtain ⟨b, off, rfl, _, hc⟩ := h (by intro e; apply hl; simpa [cells] using e)
    have hx := run_convert_bytes_arg (P := P) w src e hs he b off l.length c (l.map fun x => (x.toNat : Int)) (by simp) (fun i hi => by
      rw [hc i _ (by rw [cells, List.getElem?_map, List.getElem?_eq_getElem hi]; rfl)]
      simp [List.getD, List.getElem?_eq_getElem hi]) dst hd
    rw [hx]
    congr 2
    have e1 : (l.map fun x => (x.toNat : Int)).map (fun n => UInt8.ofNat n.toNat) = l := by
      rw [List.map_map]
      conv => rhs; rw [← List.map_id l]
      apply List.map_congr_left
      intro x _
      simp
    unfold strOfNums
    rw [e1]

/-- What an owned slice is. -/
theorem own_form {w : World} {base n : Nat} {e : TypeId} {v : Value} {xs : List Value} (h : w.ownsRow base e 1 v n xs) : ∃ A c, v = .slice A n c ∧ Seen w w.heap.size A xs ∧ n ≤ c := by
  have h' := h
  rcases h'.2 with ⟨rfl, rfl⟩ | ⟨g, cap, cur, rfl, _, _, hnc, _⟩
  · exact ⟨none, 0, rfl, Seen.of_own h, Nat.le_refl _⟩
  · exact ⟨_, cap, rfl, Seen.of_own h, hnc⟩
theorem own_bytes {w : World} {base : Nat} {e : TypeId} {v : Value} {l : List UInt8} (h : w.ownsRow base e 1 v l.length (cells l)) : ∃ A c, v = .slice A l.length c ∧ Seen w w.heap.size A (cells l) ∧ l.length ≤ c := own_form h

/-- A world behind w in which nothing that was there has turned. -/
structure After (w : World) where
  val : World
  below : Below w.heap.size w val
instance (w : World) : Nonempty (After w) := ⟨⟨w, Below.refl _ _⟩⟩
/-- A region that draws its order, whose operations only read what was there and whose callees turn nothing that was there: walked once, in the text's order. -/
theorem wp_region_after {P : Program} {id : Nat} {Q : Exit → Act → World → Prop} {a : Act} {w : World} {l : List Oper} (hm : P.follows .mixedOrders = true) (hB : Region.lexB .any l.toArray = true)
    (h : wpQuiet P l.toArray (fun w' => ∃ x : After w, w' = x.val) (fun a' => ∀ w', (∃ x : After w, w' = x.val) → Q .normal a' w') l a) : (Code.region id l.toArray true).wp P Q a w :=
  wp_region_quiet (C := fun w' => ∃ x : After w, w' = x.val) hm hB ⟨⟨w.drew, (Below.refl _ _).drew⟩, rfl⟩ (by simpa using h)
/-- A callee in such a region. -/
theorem Calls.after {P : Program} {f : FuncId} {args : Array Value} {w : World} {x : After w} {v : Value} (h : Calls P f args x.val fun e w' => e = .returned v ∧ Below x.val.heap.size x.val w') :
    Calls P f args x.val fun e w'' => e = .returned v ∧ ∃ y : After w, w'' = y.val :=
  h.mono fun _ w'' ⟨he, hb⟩ => ⟨he, ⟨w'', x.below.trans (hb.mono x.below.size)⟩, rfl⟩
theorem Calls.after_same {P : Program} {f : FuncId} {args : Array Value} {w : World} {x : After w} {v : Value} (h : Calls P f args x.val fun e w' => e = .returned v ∧ x.val = w') :
    Calls P f args x.val fun e w'' => e = .returned v ∧ ∃ y : After w, w'' = y.val :=
  h.mono fun _ _ ⟨he, hb⟩ => ⟨he, x, hb.symm⟩

/-- .. the length under a name of its own. -/
theorem str_now {P : Program} {w : World} {B : Nat} {A : Option Addr} {l : List UInt8} (h : Seen w B A (cells l)) (src dst e : TypeId) (n c : Nat) (hn : n = l.length)
    (hs : P.underlying src = some (.slice e)) (he : P.underlying e = some (.int .u8)) (hd : P.underlying dst = some .string) :
    (convert src dst (.slice A n c)).run P w = .ok (.string ⟨l.toArray⟩) w := by
  subst hn
  exact run_str h src dst e c hs he hd
/-- 'string(b)' in whatever world behind w. -/
theorem str_after {P : Program} {w : World} {A : Option Addr} {l : List UInt8} (h : Seen w w.heap.size A (cells l)) (src dst e : TypeId) (n c : Nat) (hn : n = l.length)
    (hs : P.underlying src = some (.slice e)) (he : P.underlying e = some (.int .u8)) (hd : P.underlying dst = some .string) :
    ∀ x : After w, (convert src dst (.slice A n c)).run P x.val = .ok (.string ⟨l.toArray⟩) x.val := fun x => by
  subst hn
  exact run_str (h.below x.below) src dst e c hs he hd

/-- What the given shell is told of a slice of integers that came in. -/
def IsRow (k : IntKind) (w : World) (a : Option Addr) (len cap : Nat) (zs : List Int) : Prop :=
  (a = none ∧ len = 0 ∧ cap = 0 ∧ zs = []) ∨
  ∃ x, a = some x ∧ len ≤ cap ∧ cap ≤ maxLen ∧ zs.length = cap ∧ (∀ i, i < zs.length → w.cell? (x.add i) = some (.int k (zs.getD i 0))) ∧ ∀ n ∈ zs, (Lit.int k n).wf = true

/-- .. and what the walks here are told. -/
theorem ints_in {k : IntKind} {w : World} {a : Option Addr} {len cap : Nat} {zs : List Int} (h : IsRow k w a len cap zs) :
    ∃ ns : List Int, len = ns.length ∧ Seen w w.heap.size a (ns.map (Value.int k)) ∧ len ≤ cap ∧ cap ≤ maxLen ∧ ∀ n ∈ ns, (Lit.int k n).wf = true := by
  rcases h with ⟨rfl, rfl, rfl, rfl⟩ | ⟨x, rfl, hl, hm, hz, hcell, hwz⟩
  · exact ⟨[], rfl, Seen.nil _ _ _, Nat.le_refl _, Nat.zero_le _, by simp⟩
  · refine ⟨zs.take len, by simp; omega, fun hx => ?_, hl, hm, fun n hn => hwz n (List.mem_of_mem_take hn)⟩
    have h0 : 0 < len := by
      rcases Nat.eq_zero_or_pos len with rfl | h0
      · exact absurd (by simp) hx
      · exact h0
    obtain ⟨b, off, spot⟩ := x
    have hc := hcell 0 (by omega)
    have hspot : spot = none := by simpa [Addr.add] using World.cell?_spot hc
    subst hspot
    refine ⟨b, off, rfl, ?_, fun j u hu => ?_⟩
    · have hb := World.block_lt_of_cell? w _ hc
      rwa [plain_add] at hb
    · rw [List.getElem?_map] at hu
      rcases Nat.lt_or_ge j len with hj | hj
      · have hjz : j < zs.length := by omega
        rw [List.getElem?_take_of_lt hj, List.getElem?_eq_getElem hjz] at hu
        have := hcell j hjz
        rw [plain_add] at this
        rw [this]
        simp [List.getD, List.getElem?_eq_getElem hjz] at hu ⊢
        exact hu
      · rw [List.getElem?_eq_none (by simp; omega)] at hu
        simp at hu

theorem bytes_in {w : World} {a : Option Addr} {len cap : Nat} {zs : List Int} (h : IsRow .u8 w a len cap zs) :
    ∃ bs : List UInt8, len = bs.length ∧ Seen w w.heap.size a (cells bs) ∧ len ≤ cap ∧ cap ≤ maxLen := by
  obtain ⟨ns, hn, hs, hl, hm, hwf⟩ := ints_in h
  refine ⟨ns.map fun n => UInt8.ofNat n.toNat, by simpa using hn, ?_, hl, hm⟩
  have e : cells (ns.map fun n => UInt8.ofNat n.toNat) = ns.map (Value.int .u8) := by
    rw [cells, List.map_map]
    apply List.map_congr_left
    intro n hn
    have hb := bounds_u8 (hwf n hn)
    simp only [Function.comp]
    rw [VP.toNat_ofNat (by omega)]
    congr 1
    omega
  rw [e]
  exact hs

theorem bool_dec (p : Prop) [Decidable p] (h : ¬ p) : decide p = false := by simpa using h

theorem ofInt_nat64 (a : Nat) (ha : a < 9223372036854775808) : (BitVec.ofInt 64 (a : Int)).toNat = a := by
  rw [BitVec.ofInt_natCast, BitVec.toNat_ofNat]; exact Nat.mod_eq_of_lt (by omega)
theorem and_i64 (a b : Nat) (ha : a < 9223372036854775808) (hb : b < 9223372036854775808) : bits .and .i64 (a : Int) (b : Int) = ((a &&& b : Nat) : Int) := by
  have hx : a &&& b < 2 ^ 63 := Nat.and_lt_two_pow _ (by omega)
  show IntKind.i64.wrap ((BitVec.ofInt 64 (a : Int) &&& BitVec.ofInt 64 (b : Int)).toNat : Int) = _
  rw [BitVec.toNat_and, ofInt_nat64 a ha, ofInt_nat64 b hb, IntKind.wrap_i64]
  omega
theorem or_i64 (a b : Nat) (ha : a < 9223372036854775808) (hb : b < 9223372036854775808) : bits .or .i64 (a : Int) (b : Int) = ((a ||| b : Nat) : Int) := by
  have hx : a ||| b < 2 ^ 63 := Nat.or_lt_two_pow (by omega) (by omega)
  show IntKind.i64.wrap ((BitVec.ofInt 64 (a : Int) ||| BitVec.ofInt 64 (b : Int)).toNat : Int) = _
  rw [BitVec.toNat_or, ofInt_nat64 a ha, ofInt_nat64 b hb, IntKind.wrap_i64]
  omega
theorem low_i64 (a : Nat) (ha : a < 9223372036854775808) : bits .and .i64 (a : Int) 127 = ((a % 128 : Nat) : Int) := by
  have h := and_i64 a 127 ha (by omega)
  rw [show a &&& 127 = a % 128 from Nat.and_two_pow_sub_one_eq_mod a 7] at h
  exact h
theorem high_i64 (a : Nat) (ha : a < 128) : bits .or .i64 (a : Int) 128 = ((128 + a : Nat) : Int) := by
  have h := or_i64 a 128 (by omega) (by omega)
  rw [show a ||| 128 = 128 + a by have := Nat.two_pow_add_eq_or_of_lt (i := 7) (b := a) (by omega) 1; rw [Nat.or_comm]; simpa using this.symm] at h
  exact h
theorem low_u8 {c : Int} (h₀ : 0 ≤ c) (h₁ : c ≤ 255) : bits .and .u8 c 127 = c % 128 := bits_mask .u8 8 (by decide) wraps_u8 7 (by decide) c h₀ (by omega)
end Go.Proofs.YtpppeadmhfggkaaGreatDoor

namespace Go.Proofs.YtpppeadmhfggkaaGreatDoor
open Go.RowKit

theorem _root_.Go.RowKit.Below.drewN' {B : Nat} {a w : World} (h : Below B a w) (n : Nat) : Below B a (w.drewN n) := ⟨h.os, h.tape, h.output, h.size, h.block⟩
theorem _root_.Go.RowKit.Below.lower {a w : World} {B B' : Nat} (h : Below B a w) (hB : B' ≤ B) : Below B' a w := h.mono hB

/-- Of what was there all but the blocks of S is as it was. -/
structure Kept (S : List Nat) (w w' : World) : Prop where
  os : w'.os = w.os
  tape : w'.tape = w.tape
  output : w'.output = w.output
  size : w.heap.size ≤ w'.heap.size
  block : ∀ k, k < w.heap.size → k ∉ S → w'.heap[k]? = w.heap[k]?

theorem heap_lt {w : World} {k : Nat} {o : Obj} (hk : w.heap[k]? = some o) : k < w.heap.size := by
  rcases Nat.lt_or_ge k w.heap.size with h | h
  · exact h
  · rw [Array.getElem?_eq_none h] at hk; cases hk
section
variable {S S' : List Nat} {w w' a b c : World}
theorem Kept.refl (S : List Nat) (w : World) : Kept S w w := ⟨rfl, rfl, rfl, Nat.le_refl _, fun _ _ _ => rfl⟩
theorem Kept.trans (h : Kept S a b) (k : Kept S b c) : Kept S a c :=
  ⟨k.os.trans h.os, k.tape.trans h.tape, k.output.trans h.output, Nat.le_trans h.size k.size, fun i hi hs => (k.block i (Nat.lt_of_lt_of_le hi h.size) hs).trans (h.block i hi hs)⟩
/-- The second step may turn blocks, too, that were not there when the first began. -/
theorem Kept.then (h : Kept S a b) (k : Kept S' b c) (hs : ∀ x ∈ S', x ∈ S ∨ a.heap.size ≤ x) : Kept S a c :=
  ⟨k.os.trans h.os, k.tape.trans h.tape, k.output.trans h.output, Nat.le_trans h.size k.size, fun i hi hn => (k.block i (Nat.lt_of_lt_of_le hi h.size) (fun hm => by rcases hs i hm with h1 | h1; exact hn h1; omega)).trans (h.block i hi hn)⟩
theorem Kept.mono (h : Kept S w w') (hs : ∀ x ∈ S, x ∈ S' ∨ w.heap.size ≤ x) : Kept S' w w' := ⟨h.os, h.tape, h.output, h.size, fun i hi hn => h.block i hi (fun hm => by rcases hs i hm with h1 | h1; exact hn h1; omega)⟩
theorem Kept.of_below (h : Below w.heap.size w w') : Kept S w w' := ⟨h.os, h.tape, h.output, h.size, fun i hi _ => h.block i hi⟩
theorem Kept.below (h : Kept S w w') {B : Nat} (hB : B ≤ w.heap.size) (hs : ∀ x ∈ S, B ≤ x) : Below B w w' := ⟨h.os, h.tape, h.output, h.size, fun i hi => h.block i (by omega) (fun hm => by have := hs i hm; omega)⟩
theorem Kept.nil (h : Kept [] w w') : Below w.heap.size w w' := ⟨h.os, h.tape, h.output, h.size, fun i hi => h.block i hi (by simp)⟩
theorem Kept.alloc (h : Kept S a w) (o : Obj) : Kept S a (w.alloc o) := h.trans (Kept.of_below ((Below.refl _ _).alloc (Nat.le_refl _) _))
theorem Kept.setCell (h : Kept S a w) {p : Addr} (hp : p.block ∈ S ∨ a.heap.size ≤ p.block) (u : Value) : Kept S a (w.setCell p u) :=
  h.then (S' := [p.block]) ⟨rfl, rfl, rfl, by simp [World.setCell], fun k _ hk => Below.heap_setCell _ _ _ _ (by simpa using hk)⟩ (by intro x hx; simp at hx; subst hx; exact hp)
theorem Kept.drewN (h : Kept S a w) (n : Nat) : Kept S a (w.drewN n) := ⟨h.os, h.tape, h.output, h.size, h.block⟩
theorem Kept.drew (h : Kept S a w) : Kept S a w.drew := ⟨h.os, h.tape, h.output, h.size, h.block⟩
theorem Kept.heap (h : Kept S w w') {k : Nat} {o : Obj} (hk : w.heap[k]? = some o) (hn : k ∉ S) : w'.heap[k]? = some o := by
  rw [h.block k (heap_lt hk) hn, hk]
end

/-- What a contract's 'Below' says of the old cells, for the walk. -/
theorem bcell {W w1 : World} (hb : Below W.heap.size W w1) : (∀ b o, b < W.heap.size → w1.cell? ⟨b, o, none⟩ = W.cell? ⟨b, o, none⟩) ∧ (∀ b o, b < W.heap.size → w1.frozen? ⟨b, o, none⟩ = W.frozen? ⟨b, o, none⟩) :=
  ⟨fun b o h => hb.cell (p := ⟨b, o, none⟩) h, fun b o h => hb.frozen (p := ⟨b, o, none⟩) h⟩

/-- Block g is one variable (or a struct) of the type T that holds cs. -/
def Var (w : World) (g : Nat) (T : TypeId) (cs : Array Value) : Prop := w.heap[g]? = some (.cells cs T (0, 0))
section
variable {w w' : World} {g T : Nat} {cs : Array Value} {S : List Nat}
theorem Var.cell (h : Var w g T cs) (i : Nat) {u : Value} (hi : cs[i]? = some u) : w.cell? ⟨g, i, none⟩ = some u := by
  rw [cell_of_row w g i _ T (0, 0) h]; exact hi
theorem Var.free (h : Var w g T cs) (i : Nat) : w.frozen? ⟨g, i, none⟩ = false := by unfold Var at h; simp [World.frozen?, h]
theorem Var.lt (h : Var w g T cs) : g < w.heap.size := heap_lt h
theorem Var.kept (h : Var w g T cs) (k : Kept S w w') (hn : g ∉ S) : Var w' g T cs := k.heap h hn
theorem Var.below (h : Var w g T cs) {B : Nat} (k : Below B w w') (hn : g < B) : Var w' g T cs := (k.block g hn).trans h
theorem Var.alloc (h : Var w g T cs) (o : Obj) : Var (w.alloc o) g T cs := (Below.heap_alloc _ _ _ (heap_lt h)).trans h
theorem Var.new (w : World) (cs : Array Value) (T : TypeId) : Var (w.alloc (.cells cs T)) w.heap.size T cs := heap_alloc_new w _
theorem Var.drewN (h : Var w g T cs) (n : Nat) : Var (w.drewN n) g T cs := h
theorem Var.drew (h : Var w g T cs) : Var w.drew g T cs := h
theorem Var.set (h : Var w g T cs) (i : Nat) (u : Value) : Var (w.setCell ⟨g, i, none⟩ u) g T (cs.setIfInBounds i u) := by
  unfold Var at h ⊢
  simp [World.setCell, Array.getElem?_modify, h]
theorem Var.other (h : Var w g T cs) {b : Nat} (i : Nat) (u : Value) (hne : g ≠ b) : Var (w.setCell ⟨b, i, none⟩ u) g T cs :=
  (Below.heap_setCell _ _ _ _ hne).trans h
end

theorem Var.cells3 {w : World} {g T : Nat} {a b c : Value} (h : Var w g T #[a, b, c]) : w.cell? ⟨g, 0, none⟩ = some a ∧ w.cell? ⟨g, 1, none⟩ = some b ∧ w.cell? ⟨g, 2, none⟩ = some c ∧ ∀ i, w.frozen? ⟨g, i, none⟩ = false :=
  ⟨h.cell 0 rfl, h.cell 1 rfl, h.cell 2 rfl, h.free⟩
theorem Var.cells4 {w : World} {g T : Nat} {a b c d : Value} (h : Var w g T #[a, b, c, d]) : w.cell? ⟨g, 0, none⟩ = some a ∧ w.cell? ⟨g, 1, none⟩ = some b ∧ w.cell? ⟨g, 2, none⟩ = some c ∧ w.cell? ⟨g, 3, none⟩ = some d ∧ ∀ i, w.frozen? ⟨g, i, none⟩ = false :=
  ⟨h.cell 0 rfl, h.cell 1 rfl, h.cell 2 rfl, h.cell 3 rfl, h.free⟩
theorem Var.cells5 {w : World} {g T : Nat} {a b c d e : Value} (h : Var w g T #[a, b, c, d, e]) : w.cell? ⟨g, 0, none⟩ = some a ∧ w.cell? ⟨g, 1, none⟩ = some b ∧ w.cell? ⟨g, 2, none⟩ = some c ∧ w.cell? ⟨g, 3, none⟩ = some d ∧ w.cell? ⟨g, 4, none⟩ = some e ∧ ∀ i, w.frozen? ⟨g, i, none⟩ = false :=
  ⟨h.cell 0 rfl, h.cell 1 rfl, h.cell 2 rfl, h.cell 3 rfl, h.cell 4 rfl, h.free⟩

/-- '[]byte(s)', as the walk asks for it. -/
theorem conv_eq (s : ByteArray) (W : World) : (convert 9 99 (.string s)).run Tryz.prog W = .ok (.slice (some ⟨W.heap.size, 0, none⟩) s.size (grownCap W s.size 0 5)) (Lib.bytesWorld W 5 s) :=
  Lib.run_convert_string_bytes W _ _ _ s Tryz.underlying9 Tryz.underlying99 Tryz.underlying5
theorem conv_below (W : World) (s : ByteArray) (e : TypeId) : Below W.heap.size W (Lib.bytesWorld W e s) := ⟨rfl, rfl, rfl, by rw [Lib.bytesWorld_size]; omega, fun k hk => Lib.bytesWorld_at_old W e s k hk⟩

/-! ### files as cells -/
open DP
def fcells (fs : List Fl) : List Value := fs.flatMap fun f => [.string f.n, .string f.b, .int .i64 f.s]
theorem fcells_length (fs : List Fl) : (fcells fs).length = fs.length * 3 := by
  induction fs with
  | nil => rfl
  | cons x r ih => simp only [fcells, List.flatMap_cons, List.length_append, List.length_cons, List.length_nil] at ih ⊢; omega
theorem fcells_append (a b : List Fl) : fcells (a ++ b) = fcells a ++ fcells b := by simp [fcells]
theorem fcells_one (fs : List Fl) : ∀ u ∈ fcells fs, u.oneCell' = true := by
  intro u hu
  simp only [fcells, List.mem_flatMap] at hu
  obtain ⟨f, _, hu⟩ := hu
  simp at hu
  rcases hu with rfl | rfl | rfl <;> rfl
theorem fcells_nil : fcells [] = [] := rfl
theorem fcells_drop (fs : List Fl) (k : Nat) : (fcells fs).drop (k * 3) = fcells (fs.drop k) := by
  induction fs generalizing k with
  | nil => simp [fcells]
  | cons x r ih =>
    rcases k with _ | k
    · simp
    · rw [List.drop_succ_cons, ← ih, Nat.add_mul]
      simp only [fcells, List.flatMap_cons]
      rw [List.drop_append]
      simp
theorem fcells_take (fs : List Fl) (k : Nat) : (fcells fs).take (k * 3) = fcells (fs.take k) := by
  induction fs generalizing k with
  | nil => simp [fcells]
  | cons x r ih =>
    rcases k with _ | k
    · simp [fcells]
    · rw [List.take_succ_cons, Nat.add_mul]
      have e : fcells (x :: r.take k) = [.string x.n, .string x.b, .int .i64 x.s] ++ fcells (r.take k) := by simp [fcells]
      rw [e, ← ih]
      simp only [fcells, List.flatMap_cons]
      rw [List.take_append]
      simp
theorem fcells_at {fs : List Fl} {k : Nat} {f : Fl} (h : fs[k]? = some f) : (fcells fs)[k * 3]? = some (.string f.n) ∧ (fcells fs)[k * 3 + 1]? = some (.string f.b) ∧ (fcells fs)[k * 3 + 2]? = some (.int .i64 f.s) := by
  have e : fcells fs = fcells (fs.take k) ++ ([.string f.n, .string f.b, .int .i64 f.s] ++ fcells (fs.drop (k + 1))) := by
    obtain ⟨hk, hf⟩ := List.getElem?_eq_some_iff.1 h
    have : fs = fs.take k ++ (f :: fs.drop (k + 1)) := by
      rw [← hf, ← List.drop_eq_getElem_cons hk, List.take_append_drop]
    conv => lhs; rw [this]
    rw [fcells_append]
    congr 1
  obtain ⟨hk, _⟩ := List.getElem?_eq_some_iff.1 h
  have hl : (fcells (fs.take k)).length = k * 3 := by rw [fcells_length, List.length_take]; omega
  rw [e]
  refine ⟨?_, ?_, ?_⟩
  · rw [List.getElem?_append_right (by omega), hl, Nat.sub_self]; rfl
  · rw [List.getElem?_append_right (by omega), hl, show k * 3 + 1 - k * 3 = 1 by omega]; rfl
  · rw [List.getElem?_append_right (by omega), hl, show k * 3 + 2 - k * 3 = 2 by omega]; rfl

/-- The file in place k, in memory. -/
theorem file_at {w : World} {B : Nat} {A : Option Addr} {fs : List Fl} {k : Nat} {f : Fl} (h : Seen w B A (fcells fs)) (hk : fs[k]? = some f) :
    ∃ b off, A = some ⟨b, off, none⟩ ∧ b < B ∧ w.cell? ⟨b, off + k * 3, none⟩ = some (.string f.n) ∧ w.cell? ⟨b, off + k * 3 + 1, none⟩ = some (.string f.b) ∧ w.cell? ⟨b, off + k * 3 + 2, none⟩ = some (.int .i64 f.s) := by
  obtain ⟨h0, h1, h2⟩ := fcells_at hk
  obtain ⟨b, off, rfl, hb, hc⟩ := h (by intro e; rw [e] at h0; simp at h0)
  exact ⟨b, off, rfl, hb, hc _ _ h0, hc _ _ h1, hc _ _ h2⟩
theorem file_here {fs : List Fl} {k n : Nat} (hn : fs.length = n) (hk : k < n) : ∃ f, fs[k]? = some f := ⟨_, List.getElem?_eq_getElem (by omega)⟩
theorem used_take {fs : List Fl} {k : Nat} {f : Fl} (h : fs[k]? = some f) : used (fs.take (k + 1)) = used (fs.take k) + f.b.size := by
  obtain ⟨hk, hf⟩ := List.getElem?_eq_some_iff.1 h
  rw [List.take_succ_eq_append_getElem hk, used_append, hf]
  simp [used]
theorem used_bound {fs : List Fl} (h : Small fs) (k : Nat) : used (fs.take k) ≤ 40000000 := by
  have hk : ∀ l : List Fl, (∀ f ∈ l, f.b.size ≤ 400000) → used l ≤ l.length * 400000 := by
    intro l
    induction l with
    | nil => intro _; simp [used]
    | cons x r ih =>
      intro hs
      have := ih fun f hf => hs f (List.mem_cons_of_mem _ hf)
      have := hs x (List.mem_cons_self ..)
      simp only [used, List.length_cons, Nat.add_mul]
      omega
  have h1 := hk (fs.take k) fun f hf => (h.2 f (List.mem_of_mem_take hf)).1
  have h2 : (fs.take k).length ≤ 100 := by rw [List.length_take]; have := h.1; omega
  have : (fs.take k).length * 400000 ≤ 100 * 400000 := Nat.mul_le_mul_right _ h2
  omega
theorem ret_i64 {a b : Int} (h : a = b) : Ending.returned (.int .i64 a) = .returned (.int .i64 b) := by rw [h]
theorem ret_bool {a b : Bool} (h : a = b) : Ending.returned (.bool a) = .returned (.bool b) := by rw [h]

/-- What the one package variable of errors holds. -/
def Glob (w : World) : Prop := w.cell? ⟨0, 0, none⟩ = some (.iface 116 (.agg #[.pointer (some ⟨5, 30, none⟩)]))
theorem Glob.pos {w : World} (h : Glob w) : 0 < w.heap.size := World.block_lt_of_cell? w _ h
theorem Glob.below {w w' : World} {B : Nat} (h : Glob w) (hB : 0 < B) (hb : Below B w w') : Glob w' := (hb.cell (p := ⟨0, 0, none⟩) hB).trans h
theorem Glob.next {w w' : World} (h : Glob w) (hb : Below w.heap.size w w') : Glob w' := h.below h.pos hb
end Go.Proofs.YtpppeadmhfggkaaGreatDoor

namespace Go.Proofs.YtpppeadmhfggkaaGreatDoor
open Go.RowKit DP

theorem file_info0 : (Tryz.prog.info? 48).map (fun i => (i.zero, i.size, i.bytes)) = some (some (.agg #[.string { data := #[] }, .string { data := #[] }, .int .i64 0]), 3, 40) := by kernel_rfl
theorem file_info : ∃ i z, Tryz.prog.info? 48 = some i ∧ i.zero = some z ∧ i.size = 3 ∧ i.bytes = 40 ∧ z.cells.size = 3 := by
  obtain ⟨i, hi, hz, hs, hb⟩ := info_parts file_info0
  exact ⟨i, _, hi, hz, hs, hb, rfl⟩
theorem file_size : ∀ w, (Go.sizeOf 48).run Tryz.prog w = .ok 3 w := fun w => by kernel_rfl

theorem Seen.of_own3 {w : World} {base n c : Nat} {A : Option Addr} {e : TypeId} {xs : List Value} (h : w.ownsRow base e 3 (.slice A n c) n xs) : Seen w w.heap.size A xs ∧ n ≤ c := by
  rcases h.2 with ⟨he, h0⟩ | ⟨g, cap, cur, hv, _, hg, hnc, _⟩
  · injection he with h1 h2 h3
    subst h1
    exact ⟨fun hx => absurd (List.eq_nil_of_length_eq_zero (by rw [h.1, h0])) hx, by omega⟩
  · injection hv with h1 h2 h3
    subst h1
    subst h3
    refine ⟨fun _ => ⟨g, 0, rfl, heap_lt hg, fun j u hu => ?_⟩, hnc⟩
    have := h.cells (g := g) rfl j u hu
    rwa [plain_add] at this
theorem own_form3 {w : World} {base n : Nat} {e : TypeId} {v : Value} {xs : List Value} (h : w.ownsRow base e 3 v n xs) : ∃ A c, v = .slice A n c ∧ Seen w w.heap.size A xs ∧ n ≤ c := by
  rcases h.2 with ⟨rfl, rfl⟩ | ⟨g, cap, cur, rfl, _, hg, hnc, _⟩
  · exact ⟨none, 0, rfl, (Seen.of_own3 h).1, Nat.le_refl _⟩
  · exact ⟨_, cap, rfl, (Seen.of_own3 h).1, hnc⟩

theorem own_set {w : World} {base e n size : Nat} {v : Value} {xs : List Value} (h : w.ownsRow base e size v n xs) {p : Addr} (hp : p.block < base) (u : Value) : (w.setCell p u).ownsRow base e size v n xs := by
  refine ⟨h.1, ?_⟩
  rcases h.2 with h0 | ⟨g, cap, cur, hv, hb, hg, hr⟩
  · exact .inl h0
  · exact .inr ⟨g, cap, cur, hv, hb, (Below.heap_setCell _ _ _ _ (by omega)).trans hg, hr⟩
theorem own_mono {w : World} {base base' e n size : Nat} {v : Value} {xs : List Value} (h : w.ownsRow base e size v n xs) (hb : base' ≤ base) : w.ownsRow base' e size v n xs := by
  refine ⟨h.1, ?_⟩
  rcases h.2 with h0 | ⟨g, cap, cur, hv, hbg, hr⟩
  · exact .inl h0
  · exact .inr ⟨g, cap, cur, hv, Nat.le_trans hb hbg, hr⟩
theorem own_below {w w' : World} {base e n size : Nat} {v : Value} {xs : List Value} (h : w.ownsRow base e size v n xs) (hb : Below w.heap.size w w') : w'.ownsRow base e size v n xs := by
  refine ⟨h.1, ?_⟩
  rcases h.2 with h0 | ⟨g, cap, cur, hv, hbg, hg, hr⟩
  · exact .inl h0
  · exact .inr ⟨g, cap, cur, hv, hbg, (hb.block g (heap_lt hg)).trans hg, hr⟩
theorem own_drew {w : World} {base e n size k : Nat} {v : Value} {xs : List Value} (h : w.ownsRow base e size v n xs) : (w.drewN k).ownsRow base e size v n xs := h
theorem Seen.set {w : World} {B : Nat} {A : Option Addr} {xs : List Value} (h : Seen w B A xs) {p : Addr} (hp : B ≤ p.block) (u : Value) : Seen (w.setCell p u) B A xs :=
  h.below ((Below.refl _ _).setCell hp u)
theorem grown_below {w w' : World} {row : Option Nat} {B : Nat} (h : w.grownBy w' row) (hB : B ≤ w.heap.size) (hr : ∀ g, row = some g → B ≤ g) : Below B w w' :=
  ⟨h.os, h.tape, h.output, h.size, fun k hk => h.block k (by omega) (fun e => by have := hr k e.symm; omega)⟩

section
variable {w : World} {B B2 : Nat} {A A2 : Option Addr} {n m c : Nat} {xs news : List Value}
theorem seen_some (h : Seen w B A xs) (hx : xs ≠ []) : ∃ a, A = some a ∧ ∀ j u, xs[j]? = some u → w.cell? (a.add j) = some u := by
  obtain ⟨b, off, rfl, _, hc⟩ := h hx
  exact ⟨_, rfl, fun j u hu => by rw [plain_add]; exact hc j u hu⟩
set_option maxRecDepth 100000 in
/-- 'append' onto a slice that has no room. -/
theorem append_full (ty : TypeId) (hn : xs.length = n * 3) (hm : news.length = m * 3) (hs : Seen w B A xs) (hB : B ≤ w.heap.size) (hr : Seen w B2 A2 news) (hA : A = none → n = 0) (hle : n + m ≤ 1000) :
    ∃ A' c' w', (Builtin.append_ #[22, 22] ty #[.slice A n n, .slice A2 m c]).run Tryz.prog w = .ok (.slice A' (n + m) c') w' ∧ Seen w' w'.heap.size A' (xs ++ news) ∧ n + m ≤ c' ∧ Below w.heap.size w w' ∧
      (0 < m → w'.ownsRow w.heap.size 48 3 (.slice A' (n + m) c') (n + m) (xs ++ news)) := by
  obtain ⟨i, z, hi, hz, hsz, hby, hzs⟩ := file_info
  have ht := Tryz.underlying22
  rcases Nat.eq_zero_or_pos m with rfl | hm0
  · obtain rfl : news = [] := List.eq_nil_of_length_eq_zero (by simpa using hm)
    refine ⟨A, n, w, ?_, by simpa using hs.up hB, by simp, Below.refl _ _, fun h => absurd h (by omega)⟩
    cases A with
    | none =>
      obtain rfl := hA rfl
      cases A2 <;> simp [Builtin.append_, run_underlying ht, sizeOf, typeInfo, hi, Builtin.lenOf, Builtin.firstCells, loadCells, loadCellsFrom]
    | some a => cases A2 <;> simp [Builtin.append_, run_underlying ht, sizeOf, typeInfo, hi, Builtin.lenOf, Builtin.firstCells, loadCells, loadCellsFrom, storeCells]
  · have hne : news ≠ [] := fun e => by rw [e] at hm; simp at hm; omega
    obtain ⟨a2, rfl, hc2⟩ := seen_some hr hne
    have hge := grownCap_ge w (n + m) n 48
    have hcm : grownCap w (n + m) n 48 ≤ maxLen := grownCap_le_maxLen w (n + m) n _ (by unfold maxLen; omega)
    have hown : ∀ w' : World, w' = w.drew.alloc (.cells (xs.toArray ++ news.toArray ++ Builtin.zeroCells z.cells (grownCap w (n + m) n 48 - (n + m))) 48) →
        w'.ownsRow w.heap.size 48 3 (.slice (some ⟨w.heap.size, 0, none⟩) (n + m) (grownCap w (n + m) n 48)) (n + m) (xs ++ news) := by
      rintro w' rfl
      have hlen : (xs ++ news).length = (n + m) * 3 := by rw [List.length_append, hn, hm, Nat.add_mul]
      refine ⟨hlen, .inr ⟨w.heap.size, _, _, rfl, Nat.le_refl _, heap_alloc_new w.drew _, hge, hcm, ?_, ?_⟩⟩
      · simp only [Array.size_append, List.size_toArray, size_zeroCells, hzs, hn, hm, ← Nat.add_mul]
        congr 1
        omega
      · simp only [Array.toList_append, List.append_assoc]
        rw [← List.append_assoc, ← hlen]
        exact List.take_left
    have hbel : Below w.heap.size w (w.drew.alloc (.cells (xs.toArray ++ news.toArray ++ Builtin.zeroCells z.cells (grownCap w (n + m) n 48 - (n + m))) 48)) := (Below.refl _ _).drew.alloc (Nat.le_refl _) _
    cases A with
    | none =>
      obtain rfl := hA rfl
      obtain rfl : xs = [] := List.eq_nil_of_length_eq_zero (by simpa using hn)
      have hrun := run_append_nil (P := Tryz.prog) w 22 ty _ i z ht hi hz a2 m c news (by rw [hsz]; exact hm) hc2 hm0 (by omega) (by rw [hby]; omega)
      simp only [Nat.zero_add, List.nil_append, Array.empty_append] at hown hbel ⊢
      exact ⟨_, _, _, hrun, (Seen.of_own3 (hown _ rfl)).1, (Seen.of_own3 (hown _ rfl)).2, hbel, fun _ => hown _ rfl⟩
    | some a =>
      have hc1 : ∀ j u, xs[j]? = some u → w.cell? (a.add j) = some u := by
        intro j u hu
        have hne : xs ≠ [] := by rintro rfl; simp at hu
        obtain ⟨b, off, he, _, hc⟩ := hs hne
        injection he with he
        subst he
        rw [plain_add]
        exact hc j u hu
      have hrun := run_append_grow (P := Tryz.prog) w 22 ty _ i z ht hi hz a n n xs (by rw [hsz]; exact hn) hc1 a2 m c news (by rw [hsz]; exact hm) hc2 (by omega) (by omega) (growslice_fits (by omega) (by rw [hby]; omega))
      exact ⟨_, _, _, hrun, (Seen.of_own3 (hown _ rfl)).1, (Seen.of_own3 (hown _ rfl)).2, hbel, fun _ => hown _ rfl⟩

set_option maxRecDepth 100000 in
/-- 'append' onto a slice of the call's own. -/
theorem append_own (ty : TypeId) {base : Nat} {v : Value} (hown : w.ownsRow base 48 3 v n xs) (hm : news.length = m * 3) (h1 : ∀ u ∈ news, u.oneCell' = true) (hr : Seen w B2 A2 news) (hbase : base ≤ w.heap.size) (hle : n + m ≤ 1000) :
    ∃ v' w', (Builtin.append_ #[22, 22] ty #[v, .slice A2 m c]).run Tryz.prog w = .ok v' w' ∧ w'.ownsRow base 48 3 v' (n + m) (xs ++ news) ∧ Below base w w' := by
  obtain ⟨i, z, hi, hz, hsz, hby, hzs⟩ := file_info
  have ht := Tryz.underlying22
  rcases Nat.eq_zero_or_pos m with rfl | hm0
  · obtain rfl : news = [] := List.eq_nil_of_length_eq_zero (by simpa using hm)
    refine ⟨v, w, ?_, by simpa using hown, Below.refl _ _⟩
    rcases hown.2 with ⟨rfl, h0⟩ | ⟨g, cap, cur, rfl, _, _, hnc, _⟩
    · cases A2 <;> simp [Builtin.append_, run_underlying ht, sizeOf, typeInfo, hi, Builtin.lenOf, Builtin.firstCells, loadCells, loadCellsFrom]
    · cases A2 <;> simp [Builtin.append_, run_underlying ht, sizeOf, typeInfo, hi, Builtin.lenOf, Builtin.firstCells, loadCells, loadCellsFrom, hnc, storeCells]
  · have hne : news ≠ [] := fun e => by rw [e] at hm; simp at hm; omega
    obtain ⟨a2, rfl, hc2⟩ := seen_some hr hne
    obtain ⟨v', w', hrun, h2, h3, _⟩ := run_append_own (P := Tryz.prog) w base 22 ty _ i z 3 40 ht hi hz hsz hby hzs (by omega) v n xs hown a2 m c news hm hc2 h1 (by unfold maxLen; omega) (by omega) hbase
    exact ⟨v', w', hrun, h2, grown_below h3 hbase (fun g hg => (hown.lt g hg).1)⟩
end

section
variable {w : World} {ops : Array Oper} {rest : List Oper} {o : Oper} {a : Act} {Q : Exit → Act → World → Prop}
theorem wpList_append_run {P : Program} (hgd : o.guard = none) (s x : Operand) (t : TypeId)
    (ho : o.op = .call { callee := .builtin .append, args := #[s, x], argTypes := #[t, t] }) (v1 v2 v' : Value) (w' : World) (hs : a.eval s = v1) (hx : a.eval x = v2)
    (hrun : (Builtin.append_ #[t, t] o.type #[v1, v2]).run P w = .ok v' w') (h : wpList P ops Q rest (a.put o.dst v') w') : wpList P ops Q (o :: rest) a w := by
  refine wpList_plain hgd fun K hK => ?_
  unfold Oper.wp execOp
  simp only [ho, resolve, invoke, builtin, Sem.run_bind, Sem.run_pure, Result.andThen_ok, List.map_toArray, List.map_cons, List.map_nil, hs, hx, hrun]
  exact hK _ _ h
theorem wpList_append_full (hgd : o.guard = none) (s x : Operand)
    (ho : o.op = .call { callee := .builtin .append, args := #[s, x], argTypes := #[22, 22] })
    {B B2 : Nat} {A A2 : Option Addr} {n m c : Nat} {xs news : List Value} (hs : a.eval s = .slice A n n) (hx : a.eval x = .slice A2 m c)
    (hn : xs.length = n * 3) (hm : news.length = m * 3) (hs1 : Seen w B A xs) (hB : B ≤ w.heap.size) (hr : Seen w B2 A2 news) (hA : A = none → n = 0) (hle : n + m ≤ 1000)
    (h : ∀ A' c' w', Seen w' w'.heap.size A' (xs ++ news) → n + m ≤ c' → Below w.heap.size w w' → (0 < m → w'.ownsRow w.heap.size 48 3 (.slice A' (n + m) c') (n + m) (xs ++ news)) → wpList Tryz.prog ops Q rest (a.put o.dst (.slice A' (n + m) c')) w') :
    wpList Tryz.prog ops Q (o :: rest) a w := by
  obtain ⟨A', c', w', hrun, k1, k2, k3, k4⟩ := append_full (c := c) o.type hn hm hs1 hB hr hA hle
  exact wpList_append_run hgd s x _ ho _ _ _ _ hs hx hrun (h A' c' w' k1 k2 k3 k4)
theorem wpList_append_own3 (hgd : o.guard = none) (s x : Operand)
    (ho : o.op = .call { callee := .builtin .append, args := #[s, x], argTypes := #[22, 22] })
    {base B2 : Nat} {A2 : Option Addr} {n m c : Nat} {xs news : List Value} {v : Value} (hs : a.eval s = v) (hx : a.eval x = .slice A2 m c)
    (hown : w.ownsRow base 48 3 v n xs) (hm : news.length = m * 3) (h1 : ∀ u ∈ news, u.oneCell' = true) (hr : Seen w B2 A2 news) (hbase : base ≤ w.heap.size) (hle : n + m ≤ 1000)
    (h : ∀ A' c' w', w'.ownsRow base 48 3 (.slice A' (n + m) c') (n + m) (xs ++ news) → Below base w w' → wpList Tryz.prog ops Q rest (a.put o.dst (.slice A' (n + m) c')) w') :
    wpList Tryz.prog ops Q (o :: rest) a w := by
  obtain ⟨v', w', hrun, k1, k2⟩ := append_own (c := c) o.type hown hm h1 hr hbase hle
  obtain ⟨A', c', rfl, _, _⟩ := own_form3 k1
  exact wpList_append_run hgd s x _ ho _ _ _ _ hs hx hrun (h A' c' w' k1 k2)
end

/-! ### cuts -/
section
variable {w : World} {B : Nat} {A : Option Addr} {fs : List Fl}
/-- 's[:h:h]'. -/
theorem cut_front (W : World) (c h : Nat) (n : Nat) (hh : h ≤ c) : (Instr.slice 22 (.slice A n c) none (some (.int .i64 (h : Int))) (some (.int .i64 (h : Int)))).run Tryz.prog W = .ok (.slice A h h) W := by
  have ht' : Tryz.prog.underlying 22 = some (.slice (Tryz.prog.elem 22)) := by simp [Program.elem, Tryz.underlying22]
  have he : Tryz.prog.elem 22 = 48 := by simp [Program.elem, Tryz.underlying22]
  rw [run_slice_hm W _ _ _ _ ht' .i64 .i64 _ _ (by omega) (by omega) (by omega), he, file_size]
  cases A <;> simp [Result.andThen, sliced, Addr.add]
/-- 's[l:]'. -/
theorem cut_back (W : World) (c l : Nat) (n : Nat) (hl : l ≤ n) : (Instr.slice 22 (.slice A n c) (some (.int .i64 (l : Int))) none none).run Tryz.prog W = .ok (.slice (if c = l then A else A.map (·.add (l * 3))) (n - l) (c - l)) W := by
  have ht' : Tryz.prog.underlying 22 = some (.slice (Tryz.prog.elem 22)) := by simp [Program.elem, Tryz.underlying22]
  have he : Tryz.prog.elem 22 = 48 := by simp [Program.elem, Tryz.underlying22]
  rw [run_slice_l W _ _ _ _ ht' .i64 _ (by omega) (by omega), he, file_size]
  simp [Result.andThen, sliced]
theorem Seen.front (h : Seen w B A (fcells fs)) (k : Nat) : Seen w B A (fcells (fs.take k)) := fun hx => by
  obtain ⟨b, off, rfl, hb, hc⟩ := h (by intro e; apply hx; rw [← fcells_take, e]; simp)
  refine ⟨b, off, rfl, hb, fun j u hu => hc j u ?_⟩
  rw [← fcells_take, List.getElem?_take] at hu
  split at hu
  · exact hu
  · cases hu
theorem Seen.back (h : Seen w B A (fcells fs)) {k c : Nat} (hc : fs.length ≤ c) : Seen w B (if c = k then A else A.map (·.add (k * 3))) (fcells (fs.drop k)) := fun hx => by
  have hlt : k < fs.length := by
    rcases Nat.lt_or_ge k fs.length with h' | h'
    · exact h'
    · exact absurd (by rw [List.drop_of_length_le h']; rfl) hx
  obtain ⟨b, off, rfl, hb, hcell⟩ := h (by intro e; have := fcells_length fs; rw [e] at this; simp at this; omega)
  rw [if_neg (by omega)]
  refine ⟨b, off + k * 3, by simp [plain_add], hb, fun j u hu => ?_⟩
  rw [← fcells_drop, List.getElem?_drop] at hu
  rw [Nat.add_assoc]
  exact hcell _ u hu
end
/-- A slice of one file that was just built. -/
theorem Seen.one (w : World) (f : Fl) (e : TypeId) : Seen (w.alloc (.cells #[.string f.n, .string f.b, .int .i64 f.s] e)) (w.heap.size + 1) (some ⟨w.heap.size, 0, none⟩) (fcells [f]) := Seen.new w (fcells [f]) e
end Go.Proofs.YtpppeadmhfggkaaGreatDoor
