/-
  Numbers in few bytes, on lists of bytes alone (no program): 'enc n' are the bytes of the number n, 'dec l' reads the number that begins the bytes l. No conditions.
-/
import Init
namespace Go.Proofs.Ytchpemgamgcbkaa.VP

/-- The bytes of a number: seven bits a byte, the lowest first, 128 added to each but the last. -/
def enc (n : Nat) : List UInt8 := if h : n < 128 then [UInt8.ofNat n] else UInt8.ofNat (128 + n % 128) :: enc (n / 128)
termination_by n
decreasing_by omega

theorem enc_small {n : Nat} (h : n < 128) : enc n = [UInt8.ofNat n] := by rw [enc, dif_pos h]
theorem enc_great {n : Nat} (h : ¬ n < 128) : enc n = UInt8.ofNat (128 + n % 128) :: enc (n / 128) := by rw [enc, dif_neg h]

/-- A reading in the midst: place i behind the number's first byte, a: what the bytes before say. -/
def decGo : Nat → Nat → List UInt8 → Option (Nat × Nat)
  | _, _, [] => none
  | i, a, c :: r =>
    if 6 ≤ i then none
    else if 128 ≤ c.toNat then decGo (i + 1) (a + c.toNat % 128 * 128 ^ i) r
    else if 1099511627776 < a + c.toNat % 128 * 128 ^ i ∨ (c.toNat = 0 ∧ 0 < i) then none
    else some (a + c.toNat % 128 * 128 ^ i, i + 1)

/-- The number that begins l, and how many bytes it has. -/
def dec (l : List UInt8) : Option (Nat × Nat) := decGo 0 0 l

theorem decGo_nil (i a : Nat) : decGo i a [] = none := by simp [decGo]
theorem decGo_far {i : Nat} (h : 6 ≤ i) (a : Nat) (l : List UInt8) : decGo i a l = none := by
  cases l with
  | nil => simp [decGo]
  | cons c r => simp [decGo, h]
theorem decGo_more {i a : Nat} {c : UInt8} {r : List UInt8} (hi : i < 6) (hc : 128 ≤ c.toNat) : decGo i a (c :: r) = decGo (i + 1) (a + c.toNat % 128 * 128 ^ i) r := by
  rw [decGo, if_neg (by omega), if_pos hc]
theorem decGo_bad {i a : Nat} {c : UInt8} {r : List UInt8} (hi : i < 6) (hc : c.toNat < 128) (hb : 1099511627776 < a + c.toNat % 128 * 128 ^ i ∨ (c.toNat = 0 ∧ 0 < i)) : decGo i a (c :: r) = none := by
  rw [decGo, if_neg (by omega), if_neg (by omega), if_pos hb]
theorem decGo_last {i a : Nat} {c : UInt8} {r : List UInt8} (hi : i < 6) (hc : c.toNat < 128) (hb : ¬ (1099511627776 < a + c.toNat % 128 * 128 ^ i ∨ (c.toNat = 0 ∧ 0 < i))) :
    decGo i a (c :: r) = some (a + c.toNat % 128 * 128 ^ i, i + 1) := by
  rw [decGo, if_neg (by omega), if_neg (by omega), if_neg hb]

theorem toNat_ofNat {n : Nat} (h : n < 256) : (UInt8.ofNat n).toNat = n := by
  rw [UInt8.toNat_ofNat']; exact Nat.mod_eq_of_lt h

theorem ofNat_toNat (c : UInt8) : UInt8.ofNat c.toNat = c := by simp

theorem enc_pos (n : Nat) : 0 < (enc n).length := by
  by_cases h : n < 128
  · rw [enc_small h]; simp
  · rw [enc_great h]; simp

theorem enc_ne (n : Nat) : enc n ≠ [] := by
  intro h
  have := enc_pos n
  rw [h] at this
  simp at this

/-- How long: n below 128 ^ k has at most k bytes. -/
theorem enc_le : ∀ (k n : Nat), 0 < k → n < 128 ^ k → (enc n).length ≤ k := by
  intro k
  induction k with
  | zero => intro n h; omega
  | succ k ih =>
    intro n _ h
    by_cases hs : n < 128
    · rw [enc_small hs]; simp
    · rw [enc_great hs]
      have hk : 0 < k := by
        rcases Nat.eq_zero_or_pos k with rfl | h'
        · simp at h; omega
        · exact h'
      have := ih (n / 128) hk (by rw [Nat.pow_succ] at h; exact Nat.div_lt_of_lt_mul (by rw [Nat.mul_comm]; exact h))
      simp; omega

theorem enc_six {n : Nat} (h : n ≤ 1099511627776) : (enc n).length ≤ 6 := enc_le 6 n (by omega) (by omega)

theorem enc_mono : ∀ (n m : Nat), n ≤ m → (enc n).length ≤ (enc m).length := by
  intro n
  induction n using Nat.strongRecOn with
  | ind n ih =>
    intro m h
    by_cases hn : n < 128
    · rw [enc_small hn]; have := enc_pos m; simp; omega
    · rw [enc_great hn, enc_great (show ¬ m < 128 by omega)]
      have := ih (n / 128) (by omega) (m / 128) (Nat.div_le_div_right h)
      simp; omega

theorem split128 (n p : Nat) : n % 128 * p + n / 128 * (128 * p) = n * p := by
  have h := Nat.div_add_mod n 128
  have h2 : n * p = (128 * (n / 128) + n % 128) * p := by rw [h]
  rw [h2, Nat.add_mul]
  have h3 : n / 128 * (128 * p) = 128 * (n / 128) * p := by rw [← Nat.mul_assoc, Nat.mul_comm (n / 128) 128]
  rw [h3, Nat.add_comm]

theorem decGo_enc : ∀ (n i a : Nat) (r : List UInt8), i + (enc n).length ≤ 6 → a + n * 128 ^ i ≤ 1099511627776 → (0 < i → 0 < n) →
    decGo i a (enc n ++ r) = some (a + n * 128 ^ i, i + (enc n).length) := by
  intro n
  induction n using Nat.strongRecOn with
  | ind n ih =>
    intro i a r hl hv hp
    by_cases hn : n < 128
    · have ht : (UInt8.ofNat n).toNat = n := toNat_ofNat (by omega)
      have hm : n % 128 = n := Nat.mod_eq_of_lt hn
      rw [enc_small hn] at hl ⊢
      simp only [List.length_cons, List.length_nil, List.cons_append, List.nil_append] at hl ⊢
      rw [decGo_last (by omega) (by omega) (by rw [ht, hm]; intro h; rcases h with h | ⟨h, h'⟩; omega; have := hp h'; omega), ht, hm]
    · have hlt : n % 128 < 128 := Nat.mod_lt _ (by omega)
      have ht : (UInt8.ofNat (128 + n % 128)).toNat = 128 + n % 128 := toNat_ofNat (by omega)
      have hm : (128 + n % 128) % 128 = n % 128 := by omega
      rw [enc_great hn] at hl ⊢
      simp only [List.length_cons, List.cons_append] at hl ⊢
      have hsp := split128 n (128 ^ i)
      have hpw : 128 ^ (i + 1) = 128 * 128 ^ i := by rw [Nat.pow_succ, Nat.mul_comm]
      have hs : a + n % 128 * 128 ^ i + n / 128 * 128 ^ (i + 1) = a + n * 128 ^ i := by rw [hpw]; omega
      rw [decGo_more (by omega) (by omega), ht, hm, ih (n / 128) (by omega) (i + 1) _ r (by omega) (by rw [hs]; exact hv) (fun _ => by omega), hs]
      congr 2
      omega

theorem dec_enc {n : Nat} (h : n ≤ 1099511627776) (r : List UInt8) : dec (enc n ++ r) = some (n, (enc n).length) := by
  have := decGo_enc n 0 0 r (by have := enc_six h; omega) (by omega) (fun h => absurd h (by omega))
  simpa [dec] using this

theorem decGo_only : ∀ (l : List UInt8) (i a n k : Nat), decGo i a l = some (n, k) → a < 128 ^ i →
    n ≤ 1099511627776 ∧ i < k ∧ k ≤ i + l.length ∧ k ≤ 6 ∧ ∃ m, n = a + m * 128 ^ i ∧ enc m = l.take (k - i) ∧ (0 < i → 0 < m) := by
  intro l
  induction l with
  | nil => intro i a n k h; simp [decGo] at h
  | cons c r ih =>
    intro i a n k h ha
    have hpos : 0 < 128 ^ i := Nat.pow_pos (by omega)
    have hc := c.toNat_lt
    by_cases hi : 6 ≤ i
    · rw [decGo_far hi] at h; cases h
    · by_cases hm : 128 ≤ c.toNat
      · rw [decGo_more (by omega) hm] at h
        have hpw : 128 ^ (i + 1) = 128 * 128 ^ i := by rw [Nat.pow_succ, Nat.mul_comm]
        have hlt : c.toNat % 128 < 128 := Nat.mod_lt _ (by omega)
        have hle : c.toNat % 128 * 128 ^ i ≤ 127 * 128 ^ i := Nat.mul_le_mul_right _ (by omega)
        obtain ⟨h1, h2, h3, h4, m, h5, h6, h7⟩ := ih (i + 1) _ n k h (by rw [hpw]; omega)
        have hmp := h7 (by omega)
        refine ⟨h1, by omega, by simp; omega, h4, c.toNat % 128 + 128 * m, ?_, ?_, fun _ => by omega⟩
        · rw [h5, hpw, Nat.add_mul, Nat.add_assoc]
          congr 2
          rw [← Nat.mul_assoc, Nat.mul_comm m 128]
        · have e1 : k - i = (k - (i + 1)) + 1 := by omega
          rw [e1, List.take_succ_cons, enc_great (by omega), ← h6]
          congr 1
          · have : (c.toNat % 128 + 128 * m) % 128 = c.toNat % 128 := by omega
            rw [this]
            have : 128 + c.toNat % 128 = c.toNat := by omega
            rw [this, ofNat_toNat]
          · congr 1; omega
      · by_cases hb : 1099511627776 < a + c.toNat % 128 * 128 ^ i ∨ (c.toNat = 0 ∧ 0 < i)
        · rw [decGo_bad (by omega) (by omega) hb] at h; cases h
        · rw [decGo_last (by omega) (by omega) hb] at h
          have hmod : c.toNat % 128 = c.toNat := Nat.mod_eq_of_lt (by omega)
          injection h with h
          injection h with h1 h2
          rw [hmod] at h1 hb
          have hp : 0 < i → 0 < c.toNat := fun h0 => by
            rcases Nat.eq_zero_or_pos c.toNat with hz | hz
            · exact absurd (Or.inr ⟨hz, h0⟩) hb
            · exact hz
          have hn : ¬ 1099511627776 < a + c.toNat * 128 ^ i := fun hh => hb (Or.inl hh)
          refine ⟨by omega, by omega, by simp; omega, by omega, c.toNat, h1.symm, ?_, hp⟩
          have e1 : k - i = 1 := by omega
          rw [e1, enc_small (by omega)]
          simp

theorem dec_only {l : List UInt8} {n k : Nat} (h : dec l = some (n, k)) : n ≤ 1099511627776 ∧ 0 < k ∧ k ≤ l.length ∧ k ≤ 6 ∧ enc n = l.take k := by
  obtain ⟨h1, h2, h3, h4, m, h5, h6, _⟩ := decGo_only l 0 0 n k h (by simp)
  have : m = n := by rw [h5]; simp
  subst this
  exact ⟨h1, h2, by omega, h4, by simpa using h6⟩

/-- No number's bytes begin another's. -/
theorem enc_apart {n m : Nat} (hn : n ≤ 1099511627776) (hm : m ≤ 1099511627776) (h : enc n = (enc m).take (enc n).length) : n = m := by
  have h1 := dec_enc hn ((enc m).drop (enc n).length)
  have h2 := dec_enc hm []
  have h3 : enc n ++ (enc m).drop (enc n).length = enc m := by
    conv => lhs; lhs; rw [h]
    exact List.take_append_drop _ _
  rw [h3] at h1
  rw [List.append_nil, h1] at h2
  injection h2 with h2
  injection h2

end Go.Proofs.Ytchpemgamgcbkaa.VP
