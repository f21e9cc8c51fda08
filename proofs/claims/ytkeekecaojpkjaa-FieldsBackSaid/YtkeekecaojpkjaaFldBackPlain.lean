/-
  Fields written one behind the other and read again, on bytes alone. No conditions.
-/
import Derived.Test.YtkeekecaojpkjaaFldWrite
namespace Go.Proofs.Ytkeekecaojpkjaa
open Go.RowKit

/-- A field: what it is, a number, a text. -/
structure Fld where
  d : Int
  n : Int
  s : ByteArray

/-- One that may be written. -/
def Fld.Good (f : Fld) : Prop := (f.d = 0 ∧ 0 ≤ f.n ∧ f.n ≤ 1099511627776) ∨ (f.d = 1 ∧ f.s.size ≤ 1024) ∨ (f.d ≠ 0 ∧ f.d ≠ 1)
/-- Its bytes. -/
def Fld.enc (f : Fld) : List UInt8 := if f.d = 0 then VP.enc f.n.toNat else if f.d = 1 then VP.enc f.s.size ++ bytesOf f.s else [flagByte (f.n == 1)]
def encAll : List Fld → List UInt8
  | [] => []
  | f :: r => f.enc ++ encAll r
theorem encAll_snoc : ∀ (l : List Fld) (f : Fld), encAll (l ++ [f]) = encAll l ++ f.enc
  | [], f => by simp [encAll]
  | g :: l, f => by simp [encAll, encAll_snoc l f]
theorem Fld.enc_le {f : Fld} (h : f.Good) : f.enc.length ≤ 1030 := by
  unfold Fld.enc
  rcases h with ⟨h, h1, h2⟩ | ⟨h, h1⟩ | ⟨h, h1⟩
  · rw [if_pos h]
    have := VP.enc_six (n := f.n.toNat) (by omega)
    omega
  · rw [if_neg (by omega), if_pos h, List.length_append, bytesOf_length]
    have := VP.enc_six (n := f.s.size) (by omega)
    omega
  · rw [if_neg h, if_neg h1]; simp
theorem Fld.enc_pos (f : Fld) : 0 < f.enc.length := by
  unfold Fld.enc
  split
  · exact VP.enc_pos _
  · split
    · rw [List.length_append]; have := VP.enc_pos f.s.size; omega
    · simp
theorem encAll_le : ∀ (l : List Fld), (∀ f ∈ l, f.Good) → (encAll l).length ≤ 1030 * l.length
  | [], _ => by simp [encAll]
  | f :: r, h => by
    have h1 := Fld.enc_le (h f (by simp))
    have h2 := encAll_le r (fun g hg => h g (by simp [hg]))
    simp only [encAll, List.length_append, List.length_cons]
    omega

/-- The place behind a field, if it begins at p. -/
def nextFld (s : ByteArray) (p : Nat) (f : Fld) : Option Nat :=
  if f.d = 0 then (match VP.dec ((bytesOf s).drop p) with | some (m, k) => if (m : Int) = f.n then some (p + k) else none | none => none)
  else if f.d = 1 then (match VP.dec ((bytesOf s).drop p) with | some (m, k) => if m ≤ 1024 ∧ p + k + m ≤ s.size ∧ s.extract (p + k) (p + k + m) = f.s then some (p + k + m) else none | none => none)
  else if (bytesOf s)[p]? = some (flagByte (f.n == 1)) then some (p + 1) else none
/-- Are fields just those from p on? -/
def readsB (s : ByteArray) : Nat → List Fld → Bool
  | p, [] => decide (p = s.size)
  | p, f :: r => match nextFld s p f with | some p' => readsB s p' r | none => false

theorem drop_split (l : List UInt8) (p k : Nat) : l.drop p = (l.drop p).take k ++ l.drop (p + k) := by
  rw [← List.drop_drop]; exact (List.take_append_drop k _).symm

theorem nextFld_only {s : ByteArray} {p p' : Nat} {f : Fld} (h : nextFld s p f = some p') : (bytesOf s).drop p = f.enc ++ (bytesOf s).drop p' ∧ p' ≤ s.size := by
  unfold nextFld at h
  unfold Fld.enc
  by_cases h0 : f.d = 0
  · rw [if_pos h0] at h ⊢
    rcases hd : VP.dec ((bytesOf s).drop p) with _ | ⟨m, k⟩
    · rw [hd] at h; cases h
    · rw [hd] at h
      simp only at h
      split at h
      · rename_i he
        injection h with h
        subst h
        obtain ⟨_, hk0, hk, _, henc⟩ := VP.dec_only hd
        rw [show f.n.toNat = m by omega, henc]
        rw [List.length_drop, bytesOf_length] at hk
        exact ⟨drop_split _ _ _, by omega⟩
      · cases h
  · rw [if_neg h0] at h ⊢
    by_cases h1 : f.d = 1
    · rw [if_pos h1] at h ⊢
      rcases hd : VP.dec ((bytesOf s).drop p) with _ | ⟨m, k⟩
      · rw [hd] at h; cases h
      · rw [hd] at h
        simp only at h
        split at h
        · rename_i he
          obtain ⟨_, hfit, hs⟩ := he
          injection h with h
          subst h
          obtain ⟨_, _, _, _, henc⟩ := VP.dec_only hd
          have hsz : f.s.size = m := by rw [← hs, extract_size s _ _ (by omega) hfit]; omega
          rw [hsz, henc, ← hs, bytesOf_extract, show p + k + m - (p + k) = m by omega, List.append_assoc, ← drop_split, ← drop_split]
          exact ⟨rfl, hfit⟩
        · cases h
    · rw [if_neg h1] at h ⊢
      split at h
      · rename_i he
        injection h with h
        subst h
        obtain ⟨hl, hc⟩ := List.getElem?_eq_some_iff.1 he
        rw [List.drop_eq_getElem_cons hl, hc]
        rw [bytesOf_length] at hl
        exact ⟨rfl, by omega⟩
      · cases h

theorem readsB_only {s : ByteArray} : ∀ (l : List Fld) (p : Nat), p ≤ s.size → readsB s p l = true → (bytesOf s).drop p = encAll l
  | [], p, _, h => by
    have : p = s.size := by simpa [readsB] using h
    rw [this, ← bytesOf_length]
    simp [encAll]
  | f :: r, p, _, h => by
    simp only [readsB] at h
    rcases hn : nextFld s p f with _ | p'
    · rw [hn] at h; cases h
    · rw [hn] at h
      obtain ⟨h1, h2⟩ := nextFld_only hn
      rw [h1, readsB_only r p' h2 h]
      rfl

theorem nextFld_full {s : ByteArray} {p : Nat} {f : Fld} {t : List UInt8} (hp : p ≤ s.size) (hg : f.Good) (h : (bytesOf s).drop p = f.enc ++ t) : nextFld s p f = some (p + f.enc.length) ∧ (bytesOf s).drop (p + f.enc.length) = t ∧ p + f.enc.length ≤ s.size := by
  have hlen : s.size - p = f.enc.length + t.length := by
    have := congrArg List.length h
    rw [List.length_drop, bytesOf_length, List.length_append] at this
    exact this
  have hdrop : (bytesOf s).drop (p + f.enc.length) = t := by rw [← List.drop_drop, h, List.drop_left]
  refine ⟨?_, hdrop, by omega⟩
  unfold nextFld
  unfold Fld.enc at h hlen ⊢
  rcases hg with ⟨h0, h1, h2⟩ | ⟨h0, h1⟩ | ⟨h0, h1⟩
  · rw [if_pos h0] at h hlen ⊢
    rw [if_pos h0, h, VP.dec_enc (by omega)]
    simp only
    rw [if_pos (by omega)]
  · have hz : ¬ f.d = 0 := by omega
    rw [if_neg hz, if_pos h0] at h hlen ⊢
    rw [if_neg hz, if_pos h0, h, List.append_assoc, VP.dec_enc (by omega)]
    simp only
    rw [List.length_append, bytesOf_length] at hlen ⊢
    have hex : s.extract (p + (VP.enc f.s.size).length) (p + (VP.enc f.s.size).length + f.s.size) = f.s := by
      rw [extract_is, ← List.drop_drop, h, List.append_assoc, List.drop_left, show p + (VP.enc f.s.size).length + f.s.size - (p + (VP.enc f.s.size).length) = (bytesOf f.s).length by rw [bytesOf_length]; omega, List.take_left]
      exact (string_mk f.s).symm
    rw [if_pos ⟨h1, by omega, hex⟩]
    congr 1
    omega
  · rw [if_neg h0, if_neg h1] at h hlen ⊢
    rw [if_neg h0, if_neg h1]
    have : (bytesOf s)[p]? = some (flagByte (f.n == 1)) := by
      have h2 := congrArg (fun l => l[0]?) h
      simpa using h2
    rw [if_pos this]
    rfl

theorem readsB_full {s : ByteArray} : ∀ (l : List Fld) (p : Nat), p ≤ s.size → (∀ f ∈ l, f.Good) → (bytesOf s).drop p = encAll l → readsB s p l = true
  | [], p, hp, _, h => by
    have := congrArg List.length h
    rw [List.length_drop, bytesOf_length] at this
    simp [encAll] at this
    simp [readsB]
    omega
  | f :: r, p, hp, hg, h => by
    obtain ⟨h1, h2, h3⟩ := nextFld_full hp (hg f (by simp)) h
    simp only [readsB, h1]
    exact readsB_full r _ h3 (fun g hg' => hg g (by simp [hg'])) h2

/-- A shorter beginning is not read. -/
theorem readsB_cut (l : List Fld) (h : Nat) (hh : h < (encAll l).length) : readsB ⟨((encAll l).take h).toArray⟩ 0 l = false := by
  rcases hb : readsB ⟨((encAll l).take h).toArray⟩ 0 l with _ | _
  · rfl
  · have h1 := congrArg List.length (readsB_only l 0 (by omega) hb)
    rw [List.drop_zero, bytesOf_mk, List.length_take] at h1
    omega
theorem readsB_all (l : List Fld) (hg : ∀ f ∈ l, f.Good) : readsB ⟨(encAll l).toArray⟩ 0 l = true := readsB_full l 0 (by omega) hg (by rw [List.drop_zero, bytesOf_mk])

end Go.Proofs.Ytkeekecaojpkjaa
