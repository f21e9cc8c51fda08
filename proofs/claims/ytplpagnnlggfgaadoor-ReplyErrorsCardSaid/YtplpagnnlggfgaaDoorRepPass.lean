/-
  The two passes, one that writes and one that reads; a reply's bytes are read as it, and what is read has just those bytes. No conditions.
-/
import Derived.Test.YtplpagnnlggfgaaDoorRepPlain
namespace Go.Proofs.YtplpagnnlggfgaaDoor
open Go.RowKit

def pwr : Pass where
  St := List UInt8
  num ys n := (n, decide (0 ≤ n ∧ n ≤ 1099511627776), if 0 ≤ n ∧ n ≤ 1099511627776 then ys ++ VP.enc n.toNat else ys)
  txt ys t := (t, decide (t.size ≤ 1024), if t.size ≤ 1024 then ys ++ (VP.enc t.size ++ bytesOf t) else ys)
  sz := List.length
  live _ := True
  em ys l zs := zs = ys ++ l
  fits n x := n = x
  fitsT t x := t = x
  num_sz ys n := by
    simp only
    split
    · rename_i h
      have := VP.enc_six (n := n.toNat) (by omega)
      rw [List.length_append]
      omega
    · omega
  txt_sz ys t := by
    simp only
    split
    · have := VP.enc_six (n := t.size) (by omega)
      rw [List.length_append, List.length_append, bytesOf_length]
      omega
    · omega
  em_nil ys _ := by simp
  em_live _ := trivial
  em_live' _ := trivial
  em_trans h k := by rw [k, h, List.append_assoc]
  num_sound ys n h _ := by
    simp only [decide_eq_true_eq] at h
    simp only [if_pos h]
  num_comp ys n x l s2 hf hx he := by
    subst hf
    have hc : 0 ≤ (x : Int) ∧ (x : Int) ≤ 1099511627776 := by omega
    refine ⟨rfl, by simpa using hc, ?_⟩
    simp only [if_pos hc, Int.toNat_natCast]
    rw [he, List.append_assoc]
  txt_sound ys t h := by
    simp only [decide_eq_true_eq] at h
    simp only [if_pos h]
  txt_comp ys t x l s2 hf hx he := by
    subst hf
    refine ⟨rfl, by simpa using hx, ?_⟩
    simp only [if_pos hx]
    rw [he]
    simp only [List.append_assoc]

def rnum (s : ByteArray) (x : Nat × Bool) : Int × Bool × (Nat × Bool) :=
  if x.2 = true then (0, false, (x.1, true)) else match VP.dec ((bytesOf s).drop x.1) with
    | none => (0, false, (x.1, true))
    | some (n, k) => (n, true, (x.1 + k, false))
def rtxt (s : ByteArray) (x : Nat × Bool) : ByteArray × Bool × (Nat × Bool) :=
  if x.2 = true then (⟨#[]⟩, false, (x.1, true)) else match VP.dec ((bytesOf s).drop x.1) with
    | none => (⟨#[]⟩, false, (x.1, true))
    | some (n, k) => if n ≤ 1024 ∧ x.1 + k + n ≤ s.size then (s.extract (x.1 + k) (x.1 + k + n), true, (x.1 + k + n, false)) else (⟨#[]⟩, false, (x.1, true))
theorem rnum_is (s : ByteArray) (x : Nat × Bool) : NumIs s x.1 x.2 0 1099511627776 (rnum s x).1 (rnum s x).2.2.1 (rnum s x).2.2.2 ∧ (rnum s x).2.1 = !(rnum s x).2.2.2 := by
  unfold rnum
  split
  · rename_i h
    exact ⟨.inr ⟨.inl h, rfl, rfl, rfl⟩, rfl⟩
  · rename_i h
    split
    · rename_i hd
      exact ⟨.inr ⟨.inr (.inl hd), rfl, rfl, rfl⟩, rfl⟩
    · rename_i n k hd
      have := (VP.dec_only hd).1
      exact ⟨.inl ⟨by simpa using h, n, k, hd, by omega, by omega, rfl, rfl, rfl⟩, rfl⟩
theorem rtxt_is (s : ByteArray) (x : Nat × Bool) : TextIs s x.1 x.2 1024 (rtxt s x).1 (rtxt s x).2.2.1 (rtxt s x).2.2.2 ∧ (rtxt s x).2.1 = !(rtxt s x).2.2.2 := by
  unfold rtxt
  split
  · rename_i h
    exact ⟨.inr ⟨.inl h, rfl, rfl, rfl⟩, rfl⟩
  · rename_i h
    split
    · rename_i hd
      exact ⟨.inr ⟨.inr (.inl hd), rfl, rfl, rfl⟩, rfl⟩
    · rename_i n k hd
      split
      · rename_i hc
        exact ⟨.inl ⟨by simpa using h, n, k, hd, by omega, hc.2, rfl, rfl, rfl⟩, rfl⟩
      · rename_i hc
        exact ⟨.inr ⟨.inr (.inr ⟨n, k, hd, by omega⟩), rfl, rfl, rfl⟩, rfl⟩
theorem dec_split {l : List UInt8} {n k : Nat} (h : VP.dec l = some (n, k)) : l = VP.enc n ++ l.drop k ∧ (VP.enc n).length = k := by
  obtain ⟨_, _, h3, _, h5⟩ := VP.dec_only h
  refine ⟨by rw [h5, List.take_append_drop], by rw [h5, List.length_take]; omega⟩
def prd (s : ByteArray) : Pass where
  St := Nat × Bool
  num x _ := rnum s x
  txt x _ := rtxt s x
  sz _ := 0
  live x := x.2 = false
  em a l b := a.2 = false ∧ b.2 = false ∧ (bytesOf s).drop a.1 = l ++ (bytesOf s).drop b.1 ∧ b.1 = a.1 + l.length
  fits _ _ := True
  fitsT _ _ := True
  num_sz _ _ := by omega
  txt_sz _ _ := by omega
  em_nil x h := ⟨h, h, rfl, rfl⟩
  em_live h := h.2.1
  em_live' h := h.1
  em_trans h k := ⟨h.1, k.2.1, by rw [h.2.2.1, k.2.2.1, List.append_assoc], by rw [k.2.2.2, h.2.2.2, List.length_append]; omega⟩
  num_sound x _ h _ := by
    unfold rnum at h ⊢
    split at h
    · cases h
    · rename_i hb
      rw [if_neg hb]
      split at h
      · cases h
      · rename_i n k hd
        obtain ⟨h1, h2⟩ := dec_split hd
        simp only [Int.toNat_natCast]
        refine ⟨by simpa using hb, trivial, ?_, by rw [h2]⟩
        rw [← List.drop_drop]
        exact h1
  num_comp x _ m l s2 _ hm he := by
    obtain ⟨h1, h2, h3, h4⟩ := he
    rw [List.append_assoc] at h3
    have hd := VP.dec_enc hm (l ++ (bytesOf s).drop s2.1)
    rw [← h3] at hd
    unfold rnum
    rw [if_neg (by rw [h1]; simp)]
    simp only [hd]
    refine ⟨trivial, trivial, trivial, h2, ?_, ?_⟩
    · rw [← List.drop_drop, h3, List.drop_left]
    · simp only [List.length_append] at h4
      omega
  txt_sound x _ h := by
    unfold rtxt at h ⊢
    split at h
    · cases h
    · rename_i hb
      rw [if_neg hb]
      split at h
      · cases h
      · rename_i n k hd
        split at h
        · rename_i hc
          simp only [if_pos hc]
          obtain ⟨h1, h2⟩ := dec_split hd
          have hz : (s.extract (x.1 + k) (x.1 + k + n)).size = n := by rw [extract_size _ _ _ (by omega) hc.2]; omega
          refine ⟨by simpa using hb, trivial, ?_, ?_⟩
          · rw [hz, bytesOf_extract, show x.1 + k + n - (x.1 + k) = n by omega, List.append_assoc]
            rw [← List.drop_drop (i := n), List.take_append_drop, ← List.drop_drop]
            exact h1
          · rw [List.length_append, bytesOf_length, hz, h2]
            omega
        · cases h
  txt_comp x _ m l s2 _ hm he := by
    obtain ⟨h1, h2, h3, h4⟩ := he
    simp only [List.append_assoc] at h3
    have hd := VP.dec_enc (n := m.size) (by omega) (bytesOf m ++ (l ++ (bytesOf s).drop s2.1))
    rw [← h3] at hd
    have hlen : s.size - x.1 = (VP.enc m.size).length + (m.size + (l.length + (s.size - s2.1))) := by
      have := congrArg List.length h3
      simpa only [List.length_append, List.length_drop, bytesOf_length] using this
    have hp := VP.enc_pos m.size
    have hc : m.size ≤ 1024 ∧ x.1 + (VP.enc m.size).length + m.size ≤ s.size := by omega
    have hd2 : (bytesOf s).drop (x.1 + (VP.enc m.size).length) = bytesOf m ++ (l ++ (bytesOf s).drop s2.1) := by rw [← List.drop_drop, h3, List.drop_left]
    unfold rtxt
    rw [if_neg (by rw [h1]; simp)]
    simp only [hd, if_pos hc]
    refine ⟨?_, trivial, trivial, h2, ?_, ?_⟩
    · refine string_ext ?_
      rw [bytesOf_extract, show x.1 + (VP.enc m.size).length + m.size - (x.1 + (VP.enc m.size).length) = (bytesOf m).length by rw [bytesOf_length]; omega, hd2, List.take_left]
    · rw [← List.drop_drop (i := m.size), hd2, ← bytesOf_length, List.drop_left]
    · simp only [List.length_append, bytesOf_length] at h4
      omega

/-! ### what is written, what is read -/
def noRp : Rp := ⟨0, 0, 0, 0, 0, []⟩
/-- What the writing walk got past, and where it was. -/
def wrs (a : Rp) : Rp × Ws pwr := wreply ⟨([] : List UInt8), false⟩ a
def rds (s : ByteArray) : Rp × Ws (prd s) := wreply ⟨((0, false) : Nat × Bool), false⟩ noRp
theorem wrap_small {x : Int} (h0 : -1000000000 ≤ x) (h1 : x ≤ 1000000000) : wrap64 x = x := by unfold wrap64; omega
theorem all2_same {p : Rw → Rw → Prop} : ∀ (l : List Rw), (∀ x ∈ l, p x x) → All2 p l l
  | [], _ => trivial
  | x :: l, h => ⟨h x (by simp), all2_same l fun y hy => h y (by simp [hy])⟩
theorem pad_self (l : List Rw) : pad l.length l = l := by simp [pad]
theorem fits_rw {r : Rw} (h : RwOk r) : FitsRw pwr r r := by
  obtain ⟨h1, _⟩ := h
  exact ⟨wrap_small (by have := h1.1; omega) (by have := h1.2; omega), rfl, rfl, rfl, rfl⟩
theorem RpOk.rows {r : Rp} (h : RpOk r) : r.rows.length ≤ 64 ∧ ∀ x ∈ r.rows, RwOk x := by
  have h3 := h.2.2 3 (by omega)
  split at h3
  · exact h3
  · simp only [FNo] at h3
    rw [h3]
    simp
theorem RpOk.offs {r : Rp} (h : RpOk r) : Between (-1) 1048576 r.off := by
  have h2 := h.2.2 2 (by omega)
  split at h2
  · have h3 := h2.1
    refine ⟨?_, h2.2⟩
    unfold lst at h3
    split at h3 <;> omega
  · simp only [FNo] at h2
    rw [h2]
    exact ⟨by omega, by omega⟩
theorem fits_wr {a : Rp} (h : RpOk a) : FitsRp pwr a a := by
  have ho := h.offs
  have hl : lst a.kind = 0 ∨ lst a.kind = -1 := by unfold lst; split <;> simp
  refine ⟨rfl, rfl, rfl, rfl, wrap_small (by have := ho.1; omega) (by have := ho.2; omega), rfl, ?_⟩
  rw [pad_self]
  exact all2_same _ fun x hx => fits_rw (h.rows.2 x hx)
theorem all2_any {p : Rw → Rw → Prop} (hp : ∀ x y, p x y) : ∀ (l m : List Rw), l.length = m.length → All2 p l m
  | [], [], _ => trivial
  | [], _ :: _, h => by simp at h
  | _ :: _, [], h => by simp at h
  | x :: l, y :: m, h => ⟨hp x y, all2_any hp l m (by simpa using h)⟩
theorem fits_rd (s : ByteArray) (a y : Rp) : FitsRp (prd s) a y :=
  ⟨trivial, trivial, trivial, trivial, trivial, trivial, all2_any (fun _ _ => ⟨trivial, trivial, trivial, trivial, trivial⟩) _ _ (pad_length _ _)⟩
/-- A reply is written if it is valid, and just then. -/
theorem wrs_ok {a : Rp} (h : RpOk a) : (wrs a).1 = a ∧ (wrs a).2.bad = false ∧ (wrs a).2.st = renc a := by
  obtain ⟨h1, h2, h3⟩ := wreply_comp (P := pwr) (s := ⟨([] : List UInt8), false⟩) (s2 := renc a) (fits_wr h) h rfl (by show _ = _; simp)
  refine ⟨h1, h2, ?_⟩
  have h4 : renc a = List.append (α := UInt8) (wrs a).2.st [] := h3
  rw [h4]
  exact (List.append_nil _).symm
theorem wrs_only {a : Rp} (h : (wrs a).2.bad = false) (ha : (wrs a).1 = a) : RpOk a := by
  have := (wreply_fine (P := pwr) (s := ⟨([] : List UInt8), false⟩) (fr := a) h).2.1
  rw [← ha]
  exact this
theorem wrs_iff (a : Rp) : ((wrs a).2.bad = false ∧ (wrs a).1 = a) ↔ RpOk a := ⟨fun h => wrs_only h.1 h.2, fun h => ⟨(wrs_ok h).2.1, (wrs_ok h).1⟩⟩
theorem wrs_sz (a : Rp) : ((wrs a).2.st : List UInt8).length ≤ 600000 := by
  have h1 := wgos_sz (P := pwr) (h := hasF (whead (P := pwr) ⟨([] : List UInt8), false⟩ a).1.kind (whead (P := pwr) ⟨([] : List UInt8), false⟩ a).1.e) (fr := a) (x := whead ⟨([] : List UInt8), false⟩ a) 4
  have h2 := wnum_sz (P := pwr) (s := ⟨([] : List UInt8), false⟩) (n := a.kind) (lo := 0) (hi := 9)
  have h3 := wnum_sz (P := pwr) (s := (wnum (P := pwr) ⟨([] : List UInt8), false⟩ a.kind 0 9).2) (n := a.e) (lo := 0) (hi := 400)
  have h4 : pwr.sz (wrs a).2.st ≤ pwr.sz (whead (P := pwr) ⟨([] : List UInt8), false⟩ a).2.st + 143000 * 4 := h1
  have h5 : pwr.sz (whead (P := pwr) ⟨([] : List UInt8), false⟩ a).2.st ≤ pwr.sz (wnum (P := pwr) ⟨([] : List UInt8), false⟩ a.kind 0 9).2.st + 10 := h3
  have h6 : pwr.sz (⟨([] : List UInt8), false⟩ : Ws pwr).st = 0 := rfl
  show pwr.sz (wrs a).2.st ≤ 600000
  generalize pwr.sz (wrs a).2.st = q1 at *
  generalize pwr.sz (whead (P := pwr) ⟨([] : List UInt8), false⟩ a).2.st = q2 at *
  generalize pwr.sz (wnum (P := pwr) ⟨([] : List UInt8), false⟩ a.kind 0 9).2.st = q3 at *
  omega
/-- What Read tells of a text. -/
def RdIs (s : ByteArray) (y : Rp) (er : Int) : Prop := ((rds s).2.bad = false ∧ (rds s).2.st = (s.size, false) ∧ y = (rds s).1 ∧ er = 0) ∨ (¬ ((rds s).2.bad = false ∧ (rds s).2.st = (s.size, false)) ∧ y = noRp ∧ er = 70)
theorem rdIs_of (s : ByteArray) : ∃ y er, RdIs s y er := by
  by_cases h : (rds s).2.bad = false ∧ (rds s).2.st = (s.size, false)
  · exact ⟨_, _, .inl ⟨h.1, h.2, rfl, rfl⟩⟩
  · exact ⟨_, _, .inr ⟨h, rfl, rfl⟩⟩
theorem RdIs.fine {s : ByteArray} {y : Rp} (h : RdIs s y 0) : RpOk y ∧ bytesOf s = renc y := by
  rcases h with ⟨h1, h2, rfl, _⟩ | ⟨_, _, h⟩
  · obtain ⟨a1, a2, a3⟩ := wreply_fine (P := prd s) (s := ⟨((0, false) : Nat × Bool), false⟩) (fr := noRp) h1
    refine ⟨a2, ?_⟩
    obtain ⟨_, _, b3, _⟩ := a3
    have h2' : (wreply (P := prd s) ⟨((0, false) : Nat × Bool), false⟩ noRp).2.st = ((s.size, false) : Nat × Bool) := h2
    rw [h2'] at b3
    simp only [List.drop_zero] at b3
    rw [b3, List.drop_of_length_le (by rw [bytesOf_length]; exact Nat.le_refl _), List.append_nil]
    rfl
  · cases h
theorem rdIs_ok {y : Rp} (h : RpOk y) {s : ByteArray} (hs : bytesOf s = renc y) : RdIs s y 0 := by
  obtain ⟨a1, a2, a3⟩ := wreply_comp (P := prd s) (s := ⟨((0, false) : Nat × Bool), false⟩) (fr := noRp) (s2 := ((s.size, false) : Nat × Bool)) (fits_rd s _ _) h rfl (by
    refine ⟨rfl, rfl, ?_, ?_⟩
    · simp only [List.drop_zero]
      rw [List.drop_of_length_le (by rw [bytesOf_length]; exact Nat.le_refl _), List.append_nil, hs]
    · simp only [Nat.zero_add]
      rw [← hs, bytesOf_length])
  refine .inl ⟨a2, ?_, a1.symm, rfl⟩
  obtain ⟨b2, _, _, b4⟩ := a3
  simp only [List.length_nil, Nat.add_zero] at b4
  show (wreply (P := prd s) ⟨((0, false) : Nat × Bool), false⟩ noRp).2.st = ((s.size, false) : Nat × Bool)
  exact Prod.ext b4.symm b2
end Go.Proofs.YtplpagnnlggfgaaDoor
