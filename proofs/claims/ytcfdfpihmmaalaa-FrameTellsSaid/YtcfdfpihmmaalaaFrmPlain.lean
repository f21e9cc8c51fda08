/-
  Loads and their frames, on lists of bytes alone (no program): 'enc x' is the frame of the load x, 'rows l' are the loads of the frames with which l begins, 'torn l' is how many bytes are left behind them. No conditions.
-/
import Init
namespace Go.Proofs.Ytcfdfpihmmaalaa.FP

/-- What the first four bytes say (a byte that is not there counts as 0). -/
def num (l : List UInt8) : Nat := (l.getD 0 0).toNat + (l.getD 1 0).toNat * 256 + (l.getD 2 0).toNat * 65536 + (l.getD 3 0).toNat * 16777216
/-- How many bytes the first frame has; 0: there is none. -/
def fst (l : List UInt8) : Nat := if num l ≤ 1024 ∧ num l + 4 ≤ l.length then num l + 4 else 0
/-- The first frame's load. -/
def load (l : List UInt8) : List UInt8 := (l.take (fst l)).drop 4
/-- The frame of a load. -/
def enc (x : List UInt8) : List UInt8 := UInt8.ofNat (x.length % 256) :: UInt8.ofNat (x.length / 256 % 256) :: 0 :: 0 :: x

theorem fst_yes {l : List UInt8} (h : num l ≤ 1024) (h' : num l + 4 ≤ l.length) : fst l = num l + 4 := by unfold fst; rw [if_pos ⟨h, h'⟩]
theorem fst_no {l : List UInt8} (h : 1024 < num l ∨ l.length < num l + 4) : fst l = 0 := by unfold fst; rw [if_neg (by omega)]
theorem fst_le (l : List UInt8) : fst l ≤ l.length := by
  unfold fst
  split <;> omega
theorem fst_most (l : List UInt8) : fst l ≤ 1028 := by
  unfold fst
  split <;> omega
theorem fst_four {l : List UInt8} (h : fst l ≠ 0) : 4 ≤ fst l := by
  unfold fst at h ⊢
  split at h
  · rename_i hh; rw [if_pos hh]; omega
  · exact absurd rfl h
theorem fst_short {l : List UInt8} (h : l.length < 4) : fst l = 0 := fst_no (by omega)
theorem load_length (l : List UInt8) : (load l).length = fst l - 4 := by
  unfold load
  rw [List.length_drop, List.length_take]
  have := fst_le l
  omega
theorem load_none {l : List UInt8} (h : fst l = 0) : load l = [] := by unfold load; rw [h]; rfl

def rows (l : List UInt8) : List (List UInt8) := if _h : fst l = 0 then [] else load l :: rows (l.drop (fst l))
termination_by l.length
decreasing_by
  have := fst_le l
  simp
  omega
def torn (l : List UInt8) : Nat := if _h : fst l = 0 then l.length else torn (l.drop (fst l))
termination_by l.length
decreasing_by
  have := fst_le l
  simp
  omega

theorem rows_end {l : List UInt8} (h : fst l = 0) : rows l = [] := by rw [rows, dif_pos h]
theorem rows_more {l : List UInt8} (h : fst l ≠ 0) : rows l = load l :: rows (l.drop (fst l)) := by rw [rows, dif_neg h]
theorem torn_end {l : List UInt8} (h : fst l = 0) : torn l = l.length := by rw [torn, dif_pos h]
theorem torn_more {l : List UInt8} (h : fst l ≠ 0) : torn l = torn (l.drop (fst l)) := by rw [torn, dif_neg h]
theorem rows_nil : rows [] = [] := rows_end (fst_short (by simp))
theorem torn_nil : torn [] = 0 := torn_end (fst_short (by simp))

theorem toNat_ofNat {n : Nat} (h : n < 256) : (UInt8.ofNat n).toNat = n := by
  rw [UInt8.toNat_ofNat']; exact Nat.mod_eq_of_lt h

theorem enc_length (x : List UInt8) : (enc x).length = x.length + 4 := by simp [enc]
theorem num_enc {x : List UInt8} (h : x.length ≤ 1024) (t : List UInt8) : num (enc x ++ t) = x.length := by
  have h1 : (UInt8.ofNat (x.length % 256)).toNat = x.length % 256 := toNat_ofNat (by omega)
  have h2 : (UInt8.ofNat (x.length / 256 % 256)).toNat = x.length / 256 % 256 := toNat_ofNat (by omega)
  simp only [num, enc, List.cons_append, List.getD_cons_zero, List.getD_cons_succ]
  rw [h1, h2]
  simp
  omega
theorem fst_enc {x : List UInt8} (h : x.length ≤ 1024) (t : List UInt8) : fst (enc x ++ t) = x.length + 4 := by
  have := num_enc h t
  rw [fst_yes (by omega) (by rw [List.length_append, enc_length]; omega), this]
theorem load_enc {x : List UInt8} (h : x.length ≤ 1024) (t : List UInt8) : load (enc x ++ t) = x := by
  unfold load
  rw [fst_enc h t, ← enc_length, List.take_left]
  rfl
theorem rows_enc {x : List UInt8} (h : x.length ≤ 1024) (t : List UInt8) : rows (enc x ++ t) = x :: rows t := by
  rw [rows_more (by rw [fst_enc h]; omega), load_enc h, fst_enc h, ← enc_length, List.drop_left]
theorem torn_enc {x : List UInt8} (h : x.length ≤ 1024) (t : List UInt8) : torn (enc x ++ t) = torn t := by
  rw [torn_more (by rw [fst_enc h]; omega), fst_enc h, ← enc_length, List.drop_left]

/-- Frames put together. -/
def flat (ls : List (List UInt8)) : List UInt8 := (ls.map enc).flatten
theorem flat_nil : flat [] = [] := rfl
theorem flat_cons (x : List UInt8) (ls : List (List UInt8)) : flat (x :: ls) = enc x ++ flat ls := rfl
theorem flat_append (a b : List (List UInt8)) : flat (a ++ b) = flat a ++ flat b := by simp [flat]
theorem flat_snoc (a : List (List UInt8)) (x : List UInt8) : flat (a ++ [x]) = flat a ++ enc x := by rw [flat_append, flat_cons, flat_nil, List.append_nil]

theorem rows_flat : ∀ (ls : List (List UInt8)) (t : List UInt8), (∀ x ∈ ls, x.length ≤ 1024) → rows (flat ls ++ t) = ls ++ rows t := by
  intro ls
  induction ls with
  | nil => intro t _; rfl
  | cons x ls ih =>
    intro t h
    rw [flat_cons, List.append_assoc, rows_enc (h x (by simp)), ih t (fun y hy => h y (by simp [hy]))]
    rfl
theorem torn_flat : ∀ (ls : List (List UInt8)) (t : List UInt8), (∀ x ∈ ls, x.length ≤ 1024) → torn (flat ls ++ t) = torn t := by
  intro ls
  induction ls with
  | nil => intro t _; rfl
  | cons x ls ih =>
    intro t h
    rw [flat_cons, List.append_assoc, torn_enc (h x (by simp)), ih t (fun y hy => h y (by simp [hy]))]
theorem rows_all {ls : List (List UInt8)} (h : ∀ x ∈ ls, x.length ≤ 1024) : rows (flat ls) = ls := by
  have := rows_flat ls [] h
  rwa [List.append_nil, rows_nil, List.append_nil] at this
theorem torn_all {ls : List (List UInt8)} (h : ∀ x ∈ ls, x.length ≤ 1024) : torn (flat ls) = 0 := by
  have := torn_flat ls [] h
  rwa [List.append_nil, torn_nil] at this

/-- Unlike rows of loads have unlike bytes. -/
theorem flat_inj {a b : List (List UInt8)} (ha : ∀ x ∈ a, x.length ≤ 1024) (hb : ∀ x ∈ b, x.length ≤ 1024) : flat a = flat b ↔ a = b :=
  ⟨fun h => by rw [← rows_all ha, ← rows_all hb, h], fun h => by rw [h]⟩

/-- The loads and what is torn make up all bytes. -/
def sum : List (List UInt8) → Nat
  | [] => 0
  | x :: r => 4 + x.length + sum r
theorem sum_append (a b : List (List UInt8)) : sum (a ++ b) = sum a + sum b := by
  induction a with
  | nil => simp [sum]
  | cons x a ih => simp only [List.cons_append, sum, ih]; omega
theorem sum_snoc {ls : List (List UInt8)} {k : Nat} (h : k < ls.length) : sum (ls.take (k + 1)) = sum (ls.take k) + 4 + ls[k].length := by
  rw [List.take_succ_eq_append_getElem h, sum_append, sum, sum]
  omega
theorem sum_take_le (ls : List (List UInt8)) (k : Nat) : sum (ls.take k) ≤ sum ls := by
  have h := sum_append (ls.take k) (ls.drop k)
  rw [List.take_append_drop] at h
  omega
theorem flat_length (ls : List (List UInt8)) : (flat ls).length = sum ls := by
  induction ls with
  | nil => rfl
  | cons x ls ih => rw [flat_cons, List.length_append, enc_length, ih, sum]; omega
theorem torn_sum (l : List UInt8) : torn l + sum (rows l) = l.length := by
  by_cases h : fst l = 0
  · rw [torn_end h, rows_end h]; rfl
  · have := torn_sum (l.drop (fst l))
    have h4 := fst_four h
    have hle := fst_le l
    rw [torn_more h, rows_more h, sum, load_length]
    rw [List.length_drop] at this
    omega
termination_by l.length
decreasing_by
  have := fst_le l
  simp
  omega
theorem rows_le (l : List UInt8) : 4 * (rows l).length ≤ l.length := by
  have h := torn_sum l
  have : ∀ r : List (List UInt8), 4 * r.length ≤ sum r := by
    intro r
    induction r with
    | nil => simp [sum]
    | cons x r ih => simp only [List.length_cons, sum]; omega
  have := this (rows l)
  omega
theorem torn_le (l : List UInt8) : torn l ≤ l.length := by have := torn_sum l; omega

theorem getD_take {l : List UInt8} {m i : Nat} (h : i < m) : (l.take m).getD i 0 = l.getD i 0 := by
  simp only [List.getD_eq_getElem?_getD]
  rw [List.getElem?_take_of_lt h]
/-- No frame's beginning begins with a frame. -/
theorem fst_cut {x : List UInt8} (h : x.length ≤ 1024) {m : Nat} (hm : m < x.length + 4) : fst ((enc x).take m) = 0 := by
  have hl : ((enc x).take m).length = m := by rw [List.length_take, enc_length]; omega
  rcases Nat.lt_or_ge m 4 with h4 | h4
  · exact fst_short (by omega)
  · refine fst_no (.inr ?_)
    have h0 := num_enc h []
    rw [List.append_nil] at h0
    have : num ((enc x).take m) = num (enc x) := by
      unfold num
      rw [getD_take (by omega), getD_take (by omega), getD_take (by omega), getD_take (by omega)]
    rw [this, h0, hl]
    exact hm

theorem rows_cut {ls : List (List UInt8)} (h : ∀ x ∈ ls, x.length ≤ 1024) {k cut : Nat} (hk : k ≤ ls.length) (h1 : sum (ls.take k) ≤ cut) (h2 : k < ls.length → cut < sum (ls.take (k + 1))) (hc : cut ≤ sum ls) :
    rows ((flat ls).take cut) = ls.take k ∧ torn ((flat ls).take cut) = cut - sum (ls.take k) := by
  have ht : ∀ x ∈ ls.take k, x.length ≤ 1024 := fun x hx => h x (List.mem_of_mem_take hx)
  rcases Nat.lt_or_ge k ls.length with hlt | hge
  · have hcut := h2 hlt
    have hs : ls.take (k + 1) = ls.take k ++ [ls[k]] := by rw [List.take_succ_eq_append_getElem hlt]
    have hx : ls[k].length ≤ 1024 := h _ (List.getElem_mem hlt)
    have hd : ls = ls.take k ++ (ls[k] :: ls.drop (k + 1)) := by rw [← List.drop_eq_getElem_cons hlt, List.take_append_drop]
    have hsum : sum (ls.take (k + 1)) = sum (ls.take k) + (4 + ls[k].length) := by rw [hs, sum_append]; simp [sum]
    have e : (flat ls).take cut = flat (ls.take k) ++ (enc ls[k]).take (cut - sum (ls.take k)) := by
      conv => lhs; rw [hd]
      rw [flat_append, flat_cons, List.take_append, flat_length, List.take_of_length_le (by rw [flat_length]; exact h1), List.take_append_of_le_length (by rw [enc_length]; omega)]
    have hf := fst_cut hx (m := cut - sum (ls.take k)) (by omega)
    rw [e, rows_flat _ _ ht, torn_flat _ _ ht, rows_end hf, torn_end hf, List.length_take, enc_length, List.append_nil]
    exact ⟨rfl, by omega⟩
  · have hk' : k = ls.length := by omega
    subst hk'
    rw [List.take_length] at h1 ⊢
    rw [List.take_of_length_le (by rw [flat_length]; exact h1), rows_all h, torn_all h]
    exact ⟨rfl, by omega⟩

/-- Where a reading stands: pre has come, p is behind it. -/
structure At (l : List UInt8) (pre : List (List UInt8)) (p : Nat) : Prop where
  le : p ≤ l.length
  rows : FP.rows l = pre ++ FP.rows (l.drop p)
  torn : FP.torn l = FP.torn (l.drop p)
theorem At.start (l : List UInt8) : At l [] 0 := ⟨Nat.zero_le _, rfl, rfl⟩
theorem At.step {l : List UInt8} {pre : List (List UInt8)} {p : Nat} (h : At l pre p) (hf : fst (l.drop p) ≠ 0) : At l (pre ++ [load (l.drop p)]) (p + fst (l.drop p)) := by
  have hle := fst_le (l.drop p)
  rw [List.length_drop] at hle
  have hp := h.le
  refine ⟨by omega, ?_, ?_⟩
  · rw [h.rows, rows_more hf, List.drop_drop, List.append_assoc]; rfl
  · rw [h.torn, torn_more hf, List.drop_drop]
theorem At.done {l : List UInt8} {pre : List (List UInt8)} {p : Nat} (h : At l pre p) (hf : fst (l.drop p) = 0) : FP.rows l = pre ∧ FP.torn l = l.length - p := by
  rw [h.rows, h.torn, rows_end hf, torn_end hf, List.append_nil, List.length_drop]
  exact ⟨rfl, rfl⟩
theorem At.count {l : List UInt8} {pre : List (List UInt8)} {p : Nat} (h : At l pre p) : 4 * pre.length ≤ l.length := by
  have := rows_le l
  rw [h.rows, List.length_append] at this
  omega
end Go.Proofs.Ytcfdfpihmmaalaa.FP
