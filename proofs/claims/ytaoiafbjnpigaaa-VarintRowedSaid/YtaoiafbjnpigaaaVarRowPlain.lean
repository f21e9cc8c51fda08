/-
  Rows of numbers, on lists alone (no program): 'encs ns' are the numbers' bytes, 'takes c l' reads c numbers off l, 'readRow b' is the row whose bytes are just b. No conditions but those that each theorem names.
-/
import Derived.Test.YtaoiafbjnpigaaaVarPlain
namespace Go.Proofs.Ytaoiafbjnpigaaa.VP

def encs : List Nat → List UInt8
  | [] => []
  | n :: r => enc n ++ encs r

/-- c numbers off l, and how many bytes they have. -/
def takes : Nat → List UInt8 → Option (List Nat × Nat)
  | 0, _ => some ([], 0)
  | c + 1, l =>
    match dec l with
    | none => none
    | some (n, k) =>
      match takes c (l.drop k) with
      | none => none
      | some (ns, k') => some (n :: ns, k + k')

def readRow (b : List UInt8) : Option (List Nat) :=
  match dec b with
  | none => none
  | some (c, k) =>
    match takes c (b.drop k) with
    | none => none
    | some (ns, k') => if k + k' = b.length then some ns else none

def rowBytes (ns : List Nat) : List UInt8 := enc ns.length ++ encs ns

theorem encs_snoc (ns : List Nat) (n : Nat) : encs (ns ++ [n]) = encs ns ++ enc n := by
  induction ns with
  | nil => simp [encs]
  | cons m r ih => simp [encs, ih]

theorem encs_le {ns : List Nat} (h : ∀ n ∈ ns, n ≤ 1099511627776) : (encs ns).length ≤ 6 * ns.length := by
  induction ns with
  | nil => simp [encs]
  | cons m r ih =>
    have := enc_six (h m (by simp))
    have := ih (fun n hn => h n (by simp [hn]))
    simp [encs]; omega

theorem takes_le : ∀ (c : Nat) (l : List UInt8) (ns : List Nat) (k : Nat), takes c l = some (ns, k) → ns.length = c ∧ c ≤ k ∧ k ≤ l.length ∧ ∀ n ∈ ns, n ≤ 1099511627776 := by
  intro c
  induction c with
  | zero => intro l ns k h; simp [takes] at h; obtain ⟨rfl, rfl⟩ := h; simp
  | succ c ih =>
    intro l ns k h
    rw [takes] at h
    rcases hd : dec l with _ | ⟨n, j⟩
    · rw [hd] at h; cases h
    · rw [hd] at h
      simp only at h
      rcases ht : takes c (l.drop j) with _ | ⟨ms, j'⟩
      · rw [ht] at h; cases h
      · rw [ht] at h
        injection h with h
        injection h with h1 h2
        obtain ⟨hn, hj, hjl, _, _⟩ := dec_only hd
        obtain ⟨h3, h4, h5, h6⟩ := ih _ _ _ ht
        rw [List.length_drop] at h5
        subst h1 h2
        refine ⟨by simp [h3], by omega, by omega, fun x hx => ?_⟩
        rcases List.mem_cons.1 hx with rfl | hx
        · exact hn
        · exact h6 x hx

/-- A further number. -/
theorem takes_more {c : Nat} {l : List UInt8} {n k : Nat} (h : dec l = some (n, k)) : takes (c + 1) l = (takes c (l.drop k)).map fun x => (n :: x.1, k + x.2) := by
  rw [takes, h]
  simp only
  cases takes c (l.drop k) <;> rfl
theorem takes_none {c : Nat} {l : List UInt8} (h : dec l = none) : takes (c + 1) l = none := by
  rw [takes, h]

theorem takes_encs (ns : List Nat) (h : ∀ n ∈ ns, n ≤ 1099511627776) (r : List UInt8) : takes ns.length (encs ns ++ r) = some (ns, (encs ns).length) := by
  induction ns with
  | nil => simp [takes, encs]
  | cons n t ih =>
    have h1 : dec (encs (n :: t) ++ r) = some (n, (enc n).length) := by
      rw [encs, List.append_assoc]
      exact dec_enc (h n (by simp)) _
    rw [List.length_cons, takes_more h1]
    rw [show (encs (n :: t) ++ r).drop (enc n).length = encs t ++ r by rw [encs, List.append_assoc, List.drop_left]]
    rw [ih (fun m hm => h m (by simp [hm]))]
    simp [encs]

theorem dec_cut {n m : Nat} (hn : n ≤ 1099511627776) (h : m < (enc n).length) : dec ((enc n).take m) = none := by
  rcases hd : dec ((enc n).take m) with _ | ⟨x, k⟩
  · rfl
  · obtain ⟨hx, hk, hkl, _, he⟩ := dec_only hd
    rw [List.length_take] at hkl
    have hlen : (enc x).length = k := by rw [he]; simp; omega
    have : enc x = (enc n).take (enc x).length := by
      rw [hlen]
      rw [he, List.take_take]
      congr 1
      omega
    have hxn := enc_apart hx hn this
    subst hxn
    omega

theorem takes_cut (ns : List Nat) (h : ∀ n ∈ ns, n ≤ 1099511627776) : ∀ m, m < (encs ns).length → takes ns.length ((encs ns).take m) = none := by
  induction ns with
  | nil => intro m hm; simp [encs] at hm
  | cons n t ih =>
    intro m hm
    have hn := h n (by simp)
    rw [List.length_cons, encs]
    rw [encs, List.length_append] at hm
    by_cases hc : m < (enc n).length
    · rw [List.take_append_of_le_length (by omega)]
      exact takes_none (dec_cut hn hc)
    · have e1 : (enc n ++ encs t).take m = enc n ++ (encs t).take (m - (enc n).length) := by
        rw [List.take_append, List.take_of_length_le (by omega)]
      have h1 : dec ((enc n ++ encs t).take m) = some (n, (enc n).length) := by rw [e1]; exact dec_enc hn _
      rw [takes_more h1, e1, List.drop_left, ih (fun x hx => h x (by simp [hx])) _ (by omega)]
      rfl

theorem readRow_row (ns : List Nat) (hl : ns.length ≤ 1099511627776) (h : ∀ n ∈ ns, n ≤ 1099511627776) : readRow (rowBytes ns) = some ns := by
  unfold readRow rowBytes
  rw [dec_enc hl]
  simp only [List.drop_left]
  have := takes_encs ns h []
  rw [List.append_nil] at this
  rw [this]
  simp

theorem readRow_more (ns : List Nat) (hl : ns.length ≤ 1099511627776) (h : ∀ n ∈ ns, n ≤ 1099511627776) (x : UInt8) : readRow (rowBytes ns ++ [x]) = none := by
  unfold readRow rowBytes
  rw [List.append_assoc, dec_enc hl]
  simp only [List.drop_left]
  rw [takes_encs ns h [x]]
  simp

theorem readRow_less (ns : List Nat) (hl : ns.length ≤ 1099511627776) (h : ∀ n ∈ ns, n ≤ 1099511627776) (m : Nat) (hm : m < (rowBytes ns).length) : readRow ((rowBytes ns).take m) = none := by
  unfold readRow
  unfold rowBytes at hm ⊢
  rw [List.length_append] at hm
  by_cases hc : m < (enc ns.length).length
  · rw [List.take_append_of_le_length (by omega), dec_cut hl hc]
  · have e1 : (enc ns.length ++ encs ns).take m = enc ns.length ++ (encs ns).take (m - (enc ns.length).length) := by
      rw [List.take_append, List.take_of_length_le (by omega)]
    rw [e1, dec_enc hl]
    simp only [List.drop_left]
    rw [takes_cut ns h _ (by omega)]

theorem rowBytes_pos (ns : List Nat) : 0 < (rowBytes ns).length := by
  have := enc_pos ns.length
  unfold rowBytes; simp; omega
theorem rowBytes_le {ns : List Nat} (hl : ns.length ≤ 300) (h : ∀ n ∈ ns, n ≤ 1099511627776) : (rowBytes ns).length ≤ 1806 := by
  have := enc_six (n := ns.length) (by omega)
  have := encs_le h
  unfold rowBytes; simp; omega

end Go.Proofs.Ytaoiafbjnpigaaa.VP
