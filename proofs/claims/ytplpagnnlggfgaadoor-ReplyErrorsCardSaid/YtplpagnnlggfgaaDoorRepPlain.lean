/-
  Replies, their bytes, and what a walk through their fields does, whatever is done with each field: plain mathematics. No conditions.
-/
import Derived.Test.YtplpagnnlggfgaaDoorRepG6
import Derived.Test.YtplpagnnlggfgaaDoorRepG4
namespace Go.Proofs.YtplpagnnlggfgaaDoor
open Go.RowKit

def Between (lo hi n : Int) : Prop := lo ≤ n ∧ n ≤ hi
structure Rp where
  kind : Int
  e : Int
  pid : Int
  ep : Int
  off : Int
  rows : List Rw
def noRw : Rw := ⟨0, 0, 0, ⟨#[]⟩, ⟨#[]⟩⟩
/-- What is done with numbers and texts, and what bytes lie between two states. -/
structure Pass where
  St : Type
  num : St → Int → Int × Bool × St
  txt : St → ByteArray → ByteArray × Bool × St
  sz : St → Nat
  live : St → Prop
  em : St → List UInt8 → St → Prop
  fits : Int → Int → Prop
  fitsT : ByteArray → ByteArray → Prop
  num_sz : ∀ s n, sz (num s n).2.2 ≤ sz s + 10
  txt_sz : ∀ s t, sz (txt s t).2.2 ≤ sz s + 1100
  em_nil : ∀ s, live s → em s [] s
  em_live : ∀ {a l b}, em a l b → live b
  em_live' : ∀ {a l b}, em a l b → live a
  em_trans : ∀ {a l b m c}, em a l b → em b m c → em a (l ++ m) c
  num_sound : ∀ s n, (num s n).2.1 = true → 0 ≤ (num s n).1 → em s (VP.enc (num s n).1.toNat) (num s n).2.2
  num_comp : ∀ s n (x : Nat) l s2, fits n x → x ≤ 1099511627776 → em s (VP.enc x ++ l) s2 → (num s n).1 = x ∧ (num s n).2.1 = true ∧ em (num s n).2.2 l s2
  txt_sound : ∀ s t, (txt s t).2.1 = true → em s (VP.enc (txt s t).1.size ++ bytesOf (txt s t).1) (txt s t).2.2
  txt_comp : ∀ s t (x : ByteArray) l s2, fitsT t x → x.size ≤ 1024 → em s ((VP.enc x.size ++ bytesOf x) ++ l) s2 → (txt s t).1 = x ∧ (txt s t).2.1 = true ∧ em (txt s t).2.2 l s2
/-- Where a walk is, whether something was wrong. -/
structure Ws (P : Pass) where
  st : P.St
  bad : Bool

section
variable {P : Pass}
def wnum (s : Ws P) (n lo hi : Int) : Int × Ws P := if (P.num s.st n).2.1 = true ∧ lo ≤ (P.num s.st n).1 ∧ (P.num s.st n).1 ≤ hi then ((P.num s.st n).1, ⟨(P.num s.st n).2.2, s.bad⟩) else (0, ⟨(P.num s.st n).2.2, true⟩)
def wtext (s : Ws P) (t : ByteArray) : ByteArray × Ws P := ((P.txt s.st t).1, ⟨(P.txt s.st t).2.2, s.bad || !((P.txt s.st t).2.1 && decide ((P.txt s.st t).1.size ≤ 16))⟩)
def wplace (s : Ws P) (n least : Int) : Int × Ws P := ((wnum s (wrap64 (n - least)) 0 (1048576 - least)).1 + least, (wnum s (wrap64 (n - least)) 0 (1048576 - least)).2)
def wrow (s : Ws P) (r : Rw) : Rw × Ws P :=
  let a := wplace s r.off (-1)
  let b := wnum a.2 r.pid 1 8
  let c := wnum b.2 r.sq 0 1048575
  let d := wtext c.2 r.k
  let e := wtext d.2 r.v
  (⟨a.1, b.1, c.1, d.1, e.1⟩, e.2)
def wloop (s : Ws P) : List Rw → List Rw × Ws P
  | [] => ([], s)
  | r :: l => if (wrow s r).2.bad = true then ([(wrow s r).1], (wrow s r).2) else ((wrow s r).1 :: (wloop (wrow s r).2 l).1, (wloop (wrow s r).2 l).2)
def pad (n : Nat) (l : List Rw) : List Rw := (l ++ List.replicate n noRw).take n
def wrows (s : Ws P) (fr : List Rw) : List Rw × Ws P := wloop (wnum s fr.length 0 64).2 (pad (wnum s fr.length 0 64).1.toNat fr)
/-- Which fields a reply has, by kind and error. -/
def hasF (kind e : Int) (k : Nat) : Bool := e == 0 && (match k with
  | 0 => kind == 0 || kind == 1
  | 1 => kind == 1
  | 2 => kind == 5 || (kind == 2 || kind == 7)
  | 3 => kind == 5
  | _ => false)
def lst (kind : Int) : Int := if kind = 5 then 0 else -1
def wstep (fr : Rp) (k : Nat) (x : Rp × Ws P) : Rp × Ws P := match k with
  | 0 => ({ x.1 with pid := (wnum x.2 fr.pid 1 8).1 }, (wnum x.2 fr.pid 1 8).2)
  | 1 => ({ x.1 with ep := (wnum x.2 fr.ep 0 100).1 }, (wnum x.2 fr.ep 0 100).2)
  | 2 => ({ x.1 with off := (wplace x.2 fr.off (lst x.1.kind)).1 }, (wplace x.2 fr.off (lst x.1.kind)).2)
  | _ => ({ x.1 with rows := (wrows x.2 fr.rows).1 }, (wrows x.2 fr.rows).2)
def wgo (h : Nat → Bool) (fr : Rp) (k : Nat) (x : Rp × Ws P) : Rp × Ws P := if h k = true ∧ x.2.bad = false then wstep fr k x else x
def whead (s : Ws P) (fr : Rp) : Rp × Ws P := (⟨(wnum s fr.kind 0 9).1, (wnum (wnum s fr.kind 0 9).2 fr.e 0 400).1, 0, 0, 0, []⟩, (wnum (wnum s fr.kind 0 9).2 fr.e 0 400).2)
def wgos (h : Nat → Bool) (fr : Rp) (x : Rp × Ws P) : Nat → Rp × Ws P
  | 0 => x
  | k + 1 => wgo h fr k (wgos h fr x k)
def wreply (s : Ws P) (fr : Rp) : Rp × Ws P := wgos (hasF (whead s fr).1.kind (whead s fr).1.e) fr (whead s fr) 4

/-! ### bytes, and who may be -/
end
def rwenc (r : Rw) : List UInt8 := VP.enc (r.off + 1).toNat ++ (VP.enc r.pid.toNat ++ (VP.enc r.sq.toNat ++ ((VP.enc r.k.size ++ bytesOf r.k) ++ (VP.enc r.v.size ++ bytesOf r.v))))
def rsenc (l : List Rw) : List UInt8 := l.flatMap rwenc
def fenc (r : Rp) (k : Nat) : List UInt8 := match k with
  | 0 => VP.enc r.pid.toNat
  | 1 => VP.enc r.ep.toNat
  | 2 => VP.enc (r.off - lst r.kind).toNat
  | _ => VP.enc r.rows.length ++ rsenc r.rows
def fencs (r : Rp) : Nat → List UInt8
  | 0 => []
  | k + 1 => fencs r k ++ (if hasF r.kind r.e k = true then fenc r k else [])
def renc (r : Rp) : List UInt8 := (VP.enc r.kind.toNat ++ VP.enc r.e.toNat) ++ fencs r 4
def RwOk (r : Rw) : Prop := Between (-1) 1048576 r.off ∧ Between 1 8 r.pid ∧ Between 0 1048575 r.sq ∧ r.k.size ≤ 16 ∧ r.v.size ≤ 16
def FOk (r : Rp) (k : Nat) : Prop := match k with
  | 0 => Between 1 8 r.pid
  | 1 => Between 0 100 r.ep
  | 2 => Between (lst r.kind) 1048576 r.off
  | _ => r.rows.length ≤ 64 ∧ ∀ x ∈ r.rows, RwOk x
def FNo (r : Rp) (k : Nat) : Prop := match k with
  | 0 => r.pid = 0
  | 1 => r.ep = 0
  | 2 => r.off = 0
  | _ => r.rows = []
def RpOk (r : Rp) : Prop := Between 0 9 r.kind ∧ Between 0 400 r.e ∧ ∀ k, k < 4 → if hasF r.kind r.e k = true then FOk r k else FNo r k

/-! ### what was passed without a fault -/
section
variable {P : Pass}
theorem wnum_fine {s : Ws P} {n lo hi : Int} (h : (wnum s n lo hi).2.bad = false) (h0 : 0 ≤ lo) : s.bad = false ∧ lo ≤ (wnum s n lo hi).1 ∧ (wnum s n lo hi).1 ≤ hi ∧ P.em s.st (VP.enc (wnum s n lo hi).1.toNat) (wnum s n lo hi).2.st := by
  unfold wnum at h ⊢
  split at h
  · rename_i hc
    rw [if_pos hc]
    exact ⟨h, hc.2.1, hc.2.2, P.num_sound _ _ hc.1 (by omega)⟩
  · cases h
theorem wnum_bad {s : Ws P} {n lo hi : Int} (h : s.bad = true) : (wnum s n lo hi).2.bad = true := by
  unfold wnum
  split
  · exact h
  · rfl
theorem wnum_zero {s : Ws P} {n lo hi : Int} (hs : s.bad = false) (h : (wnum s n lo hi).2.bad = true) : (wnum s n lo hi).1 = 0 := by
  unfold wnum at h ⊢
  split at h
  · rw [hs] at h; cases h
  · rename_i hc
    rw [if_neg hc]
theorem wnum_in {s : Ws P} {n lo hi : Int} (_ : lo ≤ hi) (hl : lo ≤ 0) (hh : 0 ≤ hi) : lo ≤ (wnum s n lo hi).1 ∧ (wnum s n lo hi).1 ≤ hi := by
  unfold wnum
  split
  · rename_i hc
    exact hc.2
  · exact ⟨hl, hh⟩
theorem wnum_sz {s : Ws P} {n lo hi : Int} : P.sz (wnum s n lo hi).2.st ≤ P.sz s.st + 10 := by
  unfold wnum
  split <;> exact P.num_sz _ _
theorem wtext_fine {s : Ws P} {t : ByteArray} (h : (wtext s t).2.bad = false) : s.bad = false ∧ (wtext s t).1.size ≤ 16 ∧ P.em s.st (VP.enc (wtext s t).1.size ++ bytesOf (wtext s t).1) (wtext s t).2.st := by
  unfold wtext at h ⊢
  simp only [Bool.or_eq_false_iff, Bool.not_eq_false', Bool.and_eq_true, decide_eq_true_eq] at h ⊢
  exact ⟨h.1, h.2.2, P.txt_sound _ _ h.2.1⟩
theorem wtext_bad {s : Ws P} {t : ByteArray} (h : s.bad = true) : (wtext s t).2.bad = true := by simp [wtext, h]
theorem wtext_sz {s : Ws P} {t : ByteArray} : P.sz (wtext s t).2.st ≤ P.sz s.st + 1100 := P.txt_sz _ _
theorem wplace_fine {s : Ws P} {n least : Int} (h : (wplace s n least).2.bad = false) : s.bad = false ∧ Between least 1048576 (wplace s n least).1 ∧ P.em s.st (VP.enc ((wplace s n least).1 - least).toNat) (wplace s n least).2.st := by
  obtain ⟨h1, h2, h3, h4⟩ := wnum_fine (s := s) (n := wrap64 (n - least)) (lo := 0) (hi := 1048576 - least) h (Int.le_refl _)
  refine ⟨h1, ⟨?_, ?_⟩, ?_⟩
  · simp only [wplace]; omega
  · simp only [wplace]; omega
  · simp only [wplace, Int.add_sub_cancel]; exact h4
theorem wrow_fine {s : Ws P} {r : Rw} (h : (wrow s r).2.bad = false) : s.bad = false ∧ RwOk (wrow s r).1 ∧ P.em s.st (rwenc (wrow s r).1) (wrow s r).2.st := by
  simp only [wrow] at h ⊢
  obtain ⟨a5, b5, c5⟩ := wtext_fine h
  obtain ⟨a4, b4, c4⟩ := wtext_fine a5
  obtain ⟨a3, b3, d3, c3⟩ := wnum_fine a4 (by omega)
  obtain ⟨a2, b2, d2, c2⟩ := wnum_fine a3 (by omega)
  obtain ⟨a1, b1, c1⟩ := wplace_fine a2
  rw [Int.sub_neg] at c1
  exact ⟨a1, ⟨b1, ⟨b2, d2⟩, ⟨b3, d3⟩, b4, b5⟩, P.em_trans c1 (P.em_trans c2 (P.em_trans c3 (P.em_trans c4 c5)))⟩
theorem wloop_fine : ∀ (l : List Rw) (s : Ws P), P.live s.st → (wloop s l).2.bad = false → s.bad = false ∧ (wloop s l).1.length = l.length ∧ (∀ x ∈ (wloop s l).1, RwOk x) ∧ P.em s.st (rsenc (wloop s l).1) (wloop s l).2.st
  | [], s, hl, h => ⟨h, rfl, by simp [wloop], P.em_nil _ hl⟩
  | r :: l, s, hl, h => by
    unfold wloop at h ⊢
    split at h
    · rename_i hb
      rw [hb] at h; cases h
    · rename_i hb
      rw [if_neg hb]
      obtain ⟨a1, a2, a3⟩ := wrow_fine (s := s) (r := r) (by simpa using hb)
      obtain ⟨b1, b2, b3, b4⟩ := wloop_fine l _ (P.em_live a3) h
      refine ⟨a1, by simp [b2], ?_, ?_⟩
      · intro x hx
        rcases List.mem_cons.1 hx with rfl | hx
        · exact a2
        · exact b3 x hx
      · simp only [rsenc, List.flatMap_cons] at b4 ⊢
        exact P.em_trans a3 b4
theorem pad_length (n : Nat) (l : List Rw) : (pad n l).length = n := by simp [pad]
theorem wrows_fine {s : Ws P} {fr : List Rw} (h : (wrows s fr).2.bad = false) : s.bad = false ∧ (wrows s fr).1.length ≤ 64 ∧ (∀ x ∈ (wrows s fr).1, RwOk x) ∧ P.em s.st (VP.enc (wrows s fr).1.length ++ rsenc (wrows s fr).1) (wrows s fr).2.st := by
  unfold wrows at h ⊢
  by_cases hb : (wnum s fr.length 0 64).2.bad = true
  · exfalso
    have : ∀ (l : List Rw) (s : Ws P), s.bad = true → (wloop s l).2.bad = true := by
      intro l
      induction l with
      | nil => intro s hs; exact hs
      | cons r l ih =>
        intro s hs
        unfold wloop
        split
        · rename_i hb; exact hb
        · rename_i hb
          exact ih _ (by simp only [wrow]; exact wtext_bad (wtext_bad (wnum_bad (wnum_bad (wnum_bad hs)))))
    rw [this _ _ hb] at h
    cases h
  · obtain ⟨a1, a2, a3, a4⟩ := wnum_fine (s := s) (n := fr.length) (lo := 0) (hi := 64) (by simpa using hb) (by omega)
    obtain ⟨b1, b2, b3, b4⟩ := wloop_fine _ _ (P.em_live a4) h
    rw [pad_length] at b2
    refine ⟨a1, by omega, b3, ?_⟩
    rw [b2]
    exact P.em_trans a4 b4
theorem wstep_fine {fr : Rp} {k : Nat} {x : Rp × Ws P} (h : (wstep fr k x).2.bad = false) : x.2.bad = false ∧ FOk (wstep fr k x).1 k ∧ P.em x.2.st (fenc (wstep fr k x).1 k) (wstep fr k x).2.st := by
  match k with
  | 0 =>
    simp only [wstep] at h ⊢
    obtain ⟨a1, a2, a3, a4⟩ := wnum_fine h (by omega)
    exact ⟨a1, ⟨a2, a3⟩, a4⟩
  | 1 =>
    simp only [wstep] at h ⊢
    obtain ⟨a1, a2, a3, a4⟩ := wnum_fine h (by omega)
    exact ⟨a1, ⟨a2, a3⟩, a4⟩
  | 2 =>
    simp only [wstep] at h ⊢
    obtain ⟨a1, a2, a3⟩ := wplace_fine h
    exact ⟨a1, a2, a3⟩
  | k + 3 =>
    simp only [wstep] at h ⊢
    obtain ⟨a1, a2, a3, a4⟩ := wrows_fine h
    exact ⟨a1, ⟨a2, a3⟩, a4⟩
/-- A walk's step turns its own field alone. -/
theorem wstep_kind (fr : Rp) (k : Nat) (x : Rp × Ws P) : (wstep fr k x).1.kind = x.1.kind ∧ (wstep fr k x).1.e = x.1.e := by
  match k with
  | 0 => exact ⟨rfl, rfl⟩
  | 1 => exact ⟨rfl, rfl⟩
  | 2 => exact ⟨rfl, rfl⟩
  | k + 3 => exact ⟨rfl, rfl⟩
theorem wgo_kind (h : Nat → Bool) (fr : Rp) (k : Nat) (x : Rp × Ws P) : (wgo h fr k x).1.kind = x.1.kind ∧ (wgo h fr k x).1.e = x.1.e := by
  unfold wgo
  split
  · exact wstep_kind fr k x
  · exact ⟨rfl, rfl⟩
theorem wgos_kind (h : Nat → Bool) (fr : Rp) (x : Rp × Ws P) : ∀ k, (wgos h fr x k).1.kind = x.1.kind ∧ (wgos h fr x k).1.e = x.1.e
  | 0 => ⟨rfl, rfl⟩
  | k + 1 => ⟨(wgo_kind h fr k _).1.trans (wgos_kind h fr x k).1, (wgo_kind h fr k _).2.trans (wgos_kind h fr x k).2⟩
/-- The fields of k on are as they were handed in. -/
def Low (k : Nat) (a b : Rp) : Prop := a.kind = b.kind ∧ a.e = b.e ∧ (0 < k → a.pid = b.pid) ∧ (1 < k → a.ep = b.ep) ∧ (2 < k → a.off = b.off) ∧ (3 < k → a.rows = b.rows)
def High (k : Nat) (a b : Rp) : Prop := a.kind = b.kind ∧ a.e = b.e ∧ (k ≤ 0 → a.pid = b.pid) ∧ (k ≤ 1 → a.ep = b.ep) ∧ (k ≤ 2 → a.off = b.off) ∧ (k ≤ 3 → a.rows = b.rows)
theorem wstep_low (fr : Rp) (k : Nat) (x : Rp × Ws P) (hk : k < 4) : Low k (wstep fr k x).1 x.1 ∧ High (k + 1) (wstep fr k x).1 x.1 := by
  match k, hk with
  | 0, _ => exact ⟨⟨rfl, rfl, by omega, by omega, by omega, by omega⟩, ⟨rfl, rfl, by omega, fun _ => rfl, fun _ => rfl, fun _ => rfl⟩⟩
  | 1, _ => exact ⟨⟨rfl, rfl, fun _ => rfl, by omega, by omega, by omega⟩, ⟨rfl, rfl, by omega, by omega, fun _ => rfl, fun _ => rfl⟩⟩
  | 2, _ => exact ⟨⟨rfl, rfl, fun _ => rfl, fun _ => rfl, by omega, by omega⟩, ⟨rfl, rfl, by omega, by omega, by omega, fun _ => rfl⟩⟩
  | 3, _ => exact ⟨⟨rfl, rfl, fun _ => rfl, fun _ => rfl, fun _ => rfl, by omega⟩, ⟨rfl, rfl, by omega, by omega, by omega, by omega⟩⟩
theorem wgo_low (h : Nat → Bool) (fr : Rp) (k : Nat) (x : Rp × Ws P) (hk : k < 4) : Low k (wgo h fr k x).1 x.1 ∧ High (k + 1) (wgo h fr k x).1 x.1 := by
  unfold wgo
  split
  · exact wstep_low fr k x hk
  · exact ⟨⟨rfl, rfl, fun _ => rfl, fun _ => rfl, fun _ => rfl, fun _ => rfl⟩, ⟨rfl, rfl, fun _ => rfl, fun _ => rfl, fun _ => rfl, fun _ => rfl⟩⟩
theorem fenc_low {k j : Nat} {a b : Rp} (h : Low k a b) (hj : j < k) (hk : k ≤ 4) : fenc a j = fenc b j ∧ (FOk a j ↔ FOk b j) ∧ (FNo a j ↔ FNo b j) := by
  obtain ⟨h1, h2, h3, h4, h5, h6⟩ := h
  match j with
  | 0 => simp only [fenc, FOk, FNo, h3 (by omega), and_self]
  | 1 => simp only [fenc, FOk, FNo, h4 (by omega), and_self]
  | 2 => simp only [fenc, FOk, FNo, h5 (by omega), h1, and_self]
  | j + 3 => simp only [fenc, FOk, FNo, h6 (by omega), and_self]
theorem fencs_low {k : Nat} {a b : Rp} (h : Low k a b) (hk : k ≤ 4) : ∀ j, j ≤ k → fencs a j = fencs b j
  | 0, _ => rfl
  | j + 1, hj => by
    simp only [fencs]
    rw [fencs_low h hk j (by omega), (fenc_low h (by omega) hk).1, h.1, h.2.1]
theorem wgos_fine {h : Nat → Bool} {fr : Rp} {x : Rp × Ws P} (hx : High 0 x.1 ⟨x.1.kind, x.1.e, 0, 0, 0, []⟩) (hl : P.live x.2.st) : ∀ k, k ≤ 4 → (∀ j, hasF x.1.kind x.1.e j = h j) → (wgos h fr x k).2.bad = false →
    x.2.bad = false ∧ (∀ j, j < k → if h j = true then FOk (wgos h fr x k).1 j else FNo (wgos h fr x k).1 j) ∧ High k (wgos h fr x k).1 ⟨x.1.kind, x.1.e, 0, 0, 0, []⟩ ∧ P.em x.2.st (fencs (wgos h fr x k).1 k) (wgos h fr x k).2.st
  | 0, _, _, hb => ⟨hb, fun j hj => by omega, hx, P.em_nil _ hl⟩
  | k + 1, hk, hh, hb => by
    have hlo := wgo_low h fr k (wgos h fr x k) (by omega)
    have hk0 := wgos_kind h fr x k
    have hprev : (wgos h fr x k).2.bad = false := by
      simp only [wgos, wgo] at hb
      split at hb
      · rename_i hc; exact hc.2
      · exact hb
    obtain ⟨a1, a2, a3, a4⟩ := wgos_fine hx hl k (by omega) hh hprev
    simp only [wgos] at hb ⊢
    have hlow : ∀ j, j < k → if h j = true then FOk (wgo h fr k (wgos h fr x k)).1 j else FNo (wgo h fr k (wgos h fr x k)).1 j := by
      intro j hj
      have h1 := a2 j hj
      have h2 := fenc_low hlo.1 hj (by omega)
      split at h1
      · rename_i h3
        rw [if_pos h3]; exact h2.2.1.2 h1
      · rename_i h3
        rw [if_neg h3]; exact h2.2.2.2 h1
    have hhi : High (k + 1) (wgo h fr k (wgos h fr x k)).1 ⟨x.1.kind, x.1.e, 0, 0, 0, []⟩ := by
      obtain ⟨b1, b2, b3, b4, b5, b6⟩ := hlo.2
      obtain ⟨c1, c2, c3, c4, c5, c6⟩ := a3
      exact ⟨b1.trans c1, b2.trans c2, fun hz => (b3 hz).trans (c3 (by omega)), fun hz => (b4 hz).trans (c4 (by omega)), fun hz => (b5 hz).trans (c5 (by omega)), fun hz => (b6 hz).trans (c6 (by omega))⟩
    have hkk : hasF (wgo h fr k (wgos h fr x k)).1.kind (wgo h fr k (wgos h fr x k)).1.e k = h k := by
      rw [(wgo_kind h fr k _).1, (wgo_kind h fr k _).2, hk0.1, hk0.2, hh]
    refine ⟨a1, fun j hj => ?_, hhi, ?_⟩
    · by_cases hjk : j < k
      · exact hlow j hjk
      · obtain rfl : j = k := by omega
        by_cases hc : h j = true
        · rw [if_pos hc]
          have he : wgo h fr j (wgos h fr x j) = wstep fr j (wgos h fr x j) := by unfold wgo; rw [if_pos ⟨hc, hprev⟩]
          rw [he] at hb ⊢
          exact (wstep_fine hb).2.1
        · rw [if_neg hc]
          have he : wgo h fr j (wgos h fr x j) = wgos h fr x j := by unfold wgo; rw [if_neg (fun hz => hc hz.1)]
          rw [he]
          obtain ⟨c1, c2, c3, c4, c5, c6⟩ := a3
          match j, hk with
          | 0, _ => exact c3 (by omega)
          | 1, _ => exact c4 (by omega)
          | 2, _ => exact c5 (by omega)
          | 3, _ => exact c6 (by omega)
    · simp only [fencs]
      rw [hkk, fencs_low hlo.1 (by omega) k (Nat.le_refl _)]
      by_cases hc : h k = true
      · rw [if_pos hc]
        have he : wgo h fr k (wgos h fr x k) = wstep fr k (wgos h fr x k) := by unfold wgo; rw [if_pos ⟨hc, hprev⟩]
        rw [he] at hb ⊢
        exact P.em_trans a4 (wstep_fine hb).2.2
      · rw [if_neg hc, List.append_nil]
        have he : wgo h fr k (wgos h fr x k) = wgos h fr x k := by unfold wgo; rw [if_neg (fun hz => hc hz.1)]
        rw [he]
        exact a4
/-- What a walk without a fault got: a valid reply, and its bytes. -/
theorem wreply_fine {s : Ws P} {fr : Rp} (h : (wreply s fr).2.bad = false) : s.bad = false ∧ RpOk (wreply s fr).1 ∧ P.em s.st (renc (wreply s fr).1) (wreply s fr).2.st := by
  have hb : (whead s fr).2.bad = false := by
    have : ∀ k, (wgos (hasF (whead s fr).1.kind (whead s fr).1.e) fr (whead s fr) k).2.bad = false → (whead s fr).2.bad = false := by
      intro k
      induction k with
      | zero => exact id
      | succ k ih =>
        intro hz
        refine ih ?_
        simp only [wgos, wgo] at hz
        split at hz
        · rename_i hc; exact hc.2
        · exact hz
    exact this 4 h
  obtain ⟨b1, b2, b3, b4⟩ := wnum_fine (s := (wnum s fr.kind 0 9).2) (n := fr.e) (lo := 0) (hi := 400) hb (by omega)
  obtain ⟨a1, a2, a3, a4⟩ := wnum_fine (s := s) (n := fr.kind) (lo := 0) (hi := 9) b1 (by omega)
  obtain ⟨c1, c2, c3, c4⟩ := wgos_fine (h := hasF (whead s fr).1.kind (whead s fr).1.e) (fr := fr) (x := whead s fr) ⟨rfl, rfl, fun _ => rfl, fun _ => rfl, fun _ => rfl, fun _ => rfl⟩ (P.em_live b4) 4 (by omega) (fun _ => rfl) h
  have hk := wgos_kind (hasF (whead s fr).1.kind (whead s fr).1.e) fr (whead s fr) 4
  refine ⟨a1, ⟨?_, ?_, fun j hj => ?_⟩, ?_⟩
  · show Between 0 9 (wgos _ fr _ 4).1.kind
    rw [hk.1]; exact ⟨a2, a3⟩
  · show Between 0 400 (wgos _ fr _ 4).1.e
    rw [hk.2]; exact ⟨b2, b3⟩
  · have := c2 j hj
    show if hasF (wgos _ fr _ 4).1.kind (wgos _ fr _ 4).1.e j = true then _ else _
    rw [hk.1, hk.2]
    exact this
  · unfold renc
    show P.em s.st ((VP.enc (wgos _ fr _ 4).1.kind.toNat ++ VP.enc (wgos _ fr _ 4).1.e.toNat) ++ _) _
    rw [hk.1, hk.2]
    exact P.em_trans (P.em_trans a4 b4) c4

/-! ### a valid reply's bytes are passed as it -/
def All2 {α β : Type} (p : α → β → Prop) : List α → List β → Prop
  | [], [] => True
  | a :: l, b :: m => p a b ∧ All2 p l m
  | _, _ => False
def FitsRw (P : Pass) (a b : Rw) : Prop := P.fits (wrap64 (a.off + 1)) (b.off + 1) ∧ P.fits a.pid b.pid ∧ P.fits a.sq b.sq ∧ P.fitsT a.k b.k ∧ P.fitsT a.v b.v
structure FitsRp (P : Pass) (a b : Rp) : Prop where
  kind : P.fits a.kind b.kind
  e : P.fits a.e b.e
  pid : P.fits a.pid b.pid
  ep : P.fits a.ep b.ep
  off : P.fits (wrap64 (a.off - lst b.kind)) (b.off - lst b.kind)
  len : P.fits a.rows.length b.rows.length
  rows : All2 (FitsRw P) (pad b.rows.length a.rows) b.rows
theorem nat_of {x : Int} (h : 0 ≤ x) : ∃ n : Nat, x = n := ⟨x.toNat, by omega⟩
theorem wnum_comp {s : Ws P} {n lo hi x : Int} {l : List UInt8} {s2 : P.St} (hf : P.fits n x) (h0 : 0 ≤ x) (h1 : lo ≤ x) (h2 : x ≤ hi) (h3 : hi ≤ 1099511627776) (he : P.em s.st (VP.enc x.toNat ++ l) s2) : (wnum s n lo hi).1 = x ∧ (wnum s n lo hi).2.bad = s.bad ∧ P.em (wnum s n lo hi).2.st l s2 := by
  obtain ⟨m, rfl⟩ := nat_of h0
  obtain ⟨a1, a2, a3⟩ := P.num_comp s.st n m l s2 hf (by omega) (by simpa using he)
  unfold wnum
  rw [if_pos ⟨a2, by omega, by omega⟩]
  exact ⟨a1, rfl, a3⟩
theorem wtext_comp {s : Ws P} {t x : ByteArray} {l : List UInt8} {s2 : P.St} (hf : P.fitsT t x) (hx : x.size ≤ 16) (he : P.em s.st ((VP.enc x.size ++ bytesOf x) ++ l) s2) : (wtext s t).1 = x ∧ (wtext s t).2.bad = s.bad ∧ P.em (wtext s t).2.st l s2 := by
  obtain ⟨a1, a2, a3⟩ := P.txt_comp s.st t x l s2 hf (by omega) he
  refine ⟨a1, ?_, a3⟩
  unfold wtext
  rw [a1, a2]
  simp [hx]
theorem wplace_comp {s : Ws P} {n least x : Int} {l : List UInt8} {s2 : P.St} (hf : P.fits (wrap64 (n - least)) (x - least)) (hl : least = 0 ∨ least = -1) (h1 : least ≤ x) (h2 : x ≤ 1048576) (he : P.em s.st (VP.enc (x - least).toNat ++ l) s2) : (wplace s n least).1 = x ∧ (wplace s n least).2.bad = s.bad ∧ P.em (wplace s n least).2.st l s2 := by
  obtain ⟨a1, a2, a3⟩ := wnum_comp (s := s) (lo := 0) (hi := 1048576 - least) hf (by omega) (by omega) (by omega) (by omega) he
  exact ⟨by simp only [wplace, a1]; omega, a2, a3⟩
theorem wrow_comp {s : Ws P} {r x : Rw} {l : List UInt8} {s2 : P.St} (hf : FitsRw P r x) (hx : RwOk x) (he : P.em s.st (rwenc x ++ l) s2) : (wrow s r).1 = x ∧ (wrow s r).2.bad = s.bad ∧ P.em (wrow s r).2.st l s2 := by
  obtain ⟨f1, f2, f3, f4, f5⟩ := hf
  obtain ⟨x1, x2, x3, x4, x5⟩ := hx
  simp only [rwenc, List.append_assoc] at he
  simp only [wrow]
  obtain ⟨a1, b1, c1⟩ := wplace_comp (s := s) (n := r.off) (least := -1) (x := x.off) (by rw [Int.sub_neg, Int.sub_neg]; exact f1) (.inr rfl) x1.1 x1.2 (by rw [Int.sub_neg]; exact he)
  obtain ⟨a2, b2, c2⟩ := wnum_comp (lo := 1) (hi := 8) f2 (by have := x2.1; omega) x2.1 x2.2 (by omega) c1
  obtain ⟨a3, b3, c3⟩ := wnum_comp (lo := 0) (hi := 1048575) f3 x3.1 x3.1 x3.2 (by omega) c2
  obtain ⟨a4, b4, c4⟩ := wtext_comp f4 x4 (by rw [List.append_assoc]; exact c3)
  obtain ⟨a5, b5, c5⟩ := wtext_comp f5 x5 (by rw [List.append_assoc]; exact c4)
  refine ⟨?_, by rw [b5, b4, b3, b2, b1], c5⟩
  rw [a1, a2, a3, a4, a5]
theorem wloop_comp : ∀ (rs xs : List Rw) (s : Ws P) (l : List UInt8) (s2 : P.St), All2 (FitsRw P) rs xs → (∀ x ∈ xs, RwOk x) → s.bad = false → P.em s.st (rsenc xs ++ l) s2 → (wloop s rs).1 = xs ∧ (wloop s rs).2.bad = false ∧ P.em (wloop s rs).2.st l s2
  | [], [], s, l, s2, _, _, hb, he => ⟨rfl, hb, he⟩
  | [], _ :: _, _, _, _, h, _, _, _ => h.elim
  | _ :: _, [], _, _, _, h, _, _, _ => h.elim
  | r :: rs, x :: xs, s, l, s2, h, hx, hb, he => by
    simp only [rsenc, List.flatMap_cons, List.append_assoc] at he
    obtain ⟨a1, a2, a3⟩ := wrow_comp (s := s) h.1 (hx x (by simp)) he
    obtain ⟨b1, b2, b3⟩ := wloop_comp rs xs (wrow s r).2 l s2 h.2 (fun y hy => hx y (by simp [hy])) (by rw [a2, hb]) a3
    unfold wloop
    rw [if_neg (by rw [a2, hb]; simp)]
    exact ⟨by rw [a1, b1], b2, b3⟩
theorem wrows_comp {s : Ws P} {rs xs : List Rw} {l : List UInt8} {s2 : P.St} (hb : s.bad = false) (hf : P.fits rs.length xs.length) (hr : All2 (FitsRw P) (pad xs.length rs) xs) (h64 : xs.length ≤ 64) (hx : ∀ x ∈ xs, RwOk x) (he : P.em s.st ((VP.enc xs.length ++ rsenc xs) ++ l) s2) :
    (wrows s rs).1 = xs ∧ (wrows s rs).2.bad = false ∧ P.em (wrows s rs).2.st l s2 := by
  rw [List.append_assoc] at he
  obtain ⟨a1, a2, a3⟩ := wnum_comp (s := s) (lo := 0) (hi := 64) hf (by omega) (by omega) (by omega) (by omega) (by simpa using he)
  unfold wrows
  rw [a1, Int.toNat_natCast]
  exact wloop_comp _ _ _ _ _ hr hx (by rw [a2, hb]) a3
def setF (y : Rp) (k : Nat) (x : Rp) : Rp := match k with
  | 0 => { x with pid := y.pid }
  | 1 => { x with ep := y.ep }
  | 2 => { x with off := y.off }
  | _ => { x with rows := y.rows }
theorem wstep_comp {fr y : Rp} (hf : FitsRp P fr y) {k : Nat} (hk : k < 4) {x : Rp × Ws P} {l : List UInt8} {s2 : P.St} (hx : x.1.kind = y.kind) (hb : x.2.bad = false) (hy : FOk y k) (he : P.em x.2.st (fenc y k ++ l) s2) :
    (wstep fr k x).1 = setF y k x.1 ∧ (wstep fr k x).2.bad = false ∧ P.em (wstep fr k x).2.st l s2 := by
  match k, hk with
  | 0, _ =>
    obtain ⟨a1, a2, a3⟩ := wnum_comp (s := x.2) (lo := 1) (hi := 8) hf.pid (by have := hy.1; omega) hy.1 hy.2 (by omega) he
    exact ⟨by simp only [wstep, setF, a1], by simp only [wstep, a2, hb], a3⟩
  | 1, _ =>
    obtain ⟨a1, a2, a3⟩ := wnum_comp (s := x.2) (lo := 0) (hi := 100) hf.ep hy.1 hy.1 hy.2 (by omega) he
    exact ⟨by simp only [wstep, setF, a1], by simp only [wstep, a2, hb], a3⟩
  | 2, _ =>
    obtain ⟨a1, a2, a3⟩ := wplace_comp (s := x.2) hf.off (by unfold lst; split <;> simp) hy.1 hy.2 he
    rw [← hx] at a1 a2 a3
    exact ⟨by simp only [wstep, setF, a1], by simp only [wstep, a2, hb], a3⟩
  | 3, _ =>
    obtain ⟨a1, a2, a3⟩ := wrows_comp (s := x.2) hb hf.len hf.rows hy.1 hy.2 he
    exact ⟨by simp only [wstep, setF, a1], a2, a3⟩
/-- The fields ahead of k are y's, the others none. -/
def upto (y : Rp) (k : Nat) : Rp := ⟨y.kind, y.e, if 0 < k then y.pid else 0, if 1 < k then y.ep else 0, if 2 < k then y.off else 0, if 3 < k then y.rows else []⟩
def fbehind (r : Rp) : Nat → List UInt8
  | 4 => []
  | 3 => if hasF r.kind r.e 3 = true then fenc r 3 else []
  | 2 => (if hasF r.kind r.e 2 = true then fenc r 2 else []) ++ (if hasF r.kind r.e 3 = true then fenc r 3 else [])
  | 1 => (if hasF r.kind r.e 1 = true then fenc r 1 else []) ++ ((if hasF r.kind r.e 2 = true then fenc r 2 else []) ++ (if hasF r.kind r.e 3 = true then fenc r 3 else []))
  | 0 => (if hasF r.kind r.e 0 = true then fenc r 0 else []) ++ ((if hasF r.kind r.e 1 = true then fenc r 1 else []) ++ ((if hasF r.kind r.e 2 = true then fenc r 2 else []) ++ (if hasF r.kind r.e 3 = true then fenc r 3 else [])))
  | _ => []
theorem fbehind_step (r : Rp) {k : Nat} (hk : k < 4) : fbehind r k = (if hasF r.kind r.e k = true then fenc r k else []) ++ fbehind r (k + 1) := by
  match k, hk with
  | 0, _ => rfl
  | 1, _ => rfl
  | 2, _ => rfl
  | 3, _ => simp [fbehind]
theorem fencs_all (r : Rp) : fencs r 4 = fbehind r 0 := by simp [fencs, fbehind]
theorem wgos_comp {fr y : Rp} (hf : FitsRp P fr y) (hy : RpOk y) {x : Rp × Ws P} {s2 : P.St} (hx : x.1 = upto y 0) (hb : x.2.bad = false) (he : P.em x.2.st (fbehind y 0) s2) : ∀ k, k ≤ 4 →
    (wgos (hasF y.kind y.e) fr x k).1 = upto y k ∧ (wgos (hasF y.kind y.e) fr x k).2.bad = false ∧ P.em (wgos (hasF y.kind y.e) fr x k).2.st (fbehind y k) s2
  | 0, _ => ⟨hx, hb, he⟩
  | k + 1, hk => by
    obtain ⟨a1, a2, a3⟩ := wgos_comp hf hy hx hb he k (by omega)
    have hyk := hy.2.2 k (by omega)
    rw [fbehind_step y (by omega)] at a3
    simp only [wgos]
    by_cases hc : hasF y.kind y.e k = true
    · rw [if_pos hc] at hyk a3
      have hg : wgo (hasF y.kind y.e) fr k (wgos (hasF y.kind y.e) fr x k) = wstep fr k (wgos (hasF y.kind y.e) fr x k) := by unfold wgo; rw [if_pos ⟨hc, a2⟩]
      rw [hg]
      obtain ⟨b1, b2, b3⟩ := wstep_comp hf (k := k) (by omega) (by rw [a1]; rfl) a2 hyk a3
      refine ⟨?_, b2, b3⟩
      rw [b1, a1]
      match k, hk with
      | 0, _ => simp [upto, setF]
      | 1, _ => simp [upto, setF]
      | 2, _ => simp [upto, setF]
      | 3, _ => simp [upto, setF]
    · rw [if_neg hc] at hyk a3
      have hg : wgo (hasF y.kind y.e) fr k (wgos (hasF y.kind y.e) fr x k) = wgos (hasF y.kind y.e) fr x k := by unfold wgo; rw [if_neg (fun hz => hc hz.1)]
      rw [hg]
      refine ⟨?_, a2, a3⟩
      rw [a1]
      match k, hk with
      | 0, _ => simp only [FNo] at hyk; simp [upto, hyk]
      | 1, _ => simp only [FNo] at hyk; simp [upto, hyk]
      | 2, _ => simp only [FNo] at hyk; simp [upto, hyk]
      | 3, _ => simp only [FNo] at hyk; simp [upto, hyk]
theorem wreply_comp {s : Ws P} {fr y : Rp} {s2 : P.St} (hf : FitsRp P fr y) (hy : RpOk y) (hb : s.bad = false) (he : P.em s.st (renc y) s2) : (wreply s fr).1 = y ∧ (wreply s fr).2.bad = false ∧ P.em (wreply s fr).2.st [] s2 := by
  unfold renc at he
  rw [List.append_assoc, fencs_all] at he
  obtain ⟨a1, a2, a3⟩ := wnum_comp (s := s) (lo := 0) (hi := 9) hf.kind hy.1.1 hy.1.1 hy.1.2 (by omega) he
  obtain ⟨b1, b2, b3⟩ := wnum_comp (s := (wnum s fr.kind 0 9).2) (lo := 0) (hi := 400) hf.e hy.2.1.1 hy.2.1.1 hy.2.1.2 (by omega) a3
  have hh : (whead s fr).1 = upto y 0 := by simp only [whead, a1, b1, upto]; rfl
  obtain ⟨c1, c2, c3⟩ := wgos_comp (x := whead s fr) hf hy hh (by simp only [whead]; rw [b2, a2, hb]) b3 4 (by omega)
  have hk : hasF (whead s fr).1.kind (whead s fr).1.e = hasF y.kind y.e := by rw [hh]; rfl
  unfold wreply
  rw [hk]
  exact ⟨by rw [c1]; simp [upto], c2, c3⟩
/-- How much a walk puts behind it. -/
theorem wplace_sz {s : Ws P} {n least : Int} : P.sz (wplace s n least).2.st ≤ P.sz s.st + 10 := wnum_sz
theorem wrow_sz {s : Ws P} {r : Rw} : P.sz (wrow s r).2.st ≤ P.sz s.st + 2230 := by
  have h1 := wplace_sz (s := s) (n := r.off) (least := -1)
  have h2 := wnum_sz (s := (wplace s r.off (-1)).2) (n := r.pid) (lo := 1) (hi := 8)
  have h3 := wnum_sz (s := (wnum (wplace s r.off (-1)).2 r.pid 1 8).2) (n := r.sq) (lo := 0) (hi := 1048575)
  have h4 := wtext_sz (s := (wnum (wnum (wplace s r.off (-1)).2 r.pid 1 8).2 r.sq 0 1048575).2) (t := r.k)
  have h5 := wtext_sz (s := (wtext (wnum (wnum (wplace s r.off (-1)).2 r.pid 1 8).2 r.sq 0 1048575).2 r.k).2) (t := r.v)
  simp only [wrow]
  omega
theorem wloop_sz : ∀ (l : List Rw) (s : Ws P), P.sz (wloop s l).2.st ≤ P.sz s.st + 2230 * l.length
  | [], s => Nat.le_add_right _ _
  | r :: l, s => by
    have h1 := wrow_sz (s := s) (r := r)
    have h2 := wloop_sz l (wrow s r).2
    unfold wloop
    split
    · exact Nat.le_trans h1 (Nat.add_le_add_left (Nat.le_mul_of_pos_right _ (by simp)) _)
    · refine Nat.le_trans h2 ?_
      rw [List.length_cons, Nat.mul_add]
      generalize P.sz (wrow s r).2.st = a at h1
      generalize P.sz s.st = b at h1
      generalize 2230 * l.length = d
      omega
theorem wrows_sz {s : Ws P} {fr : List Rw} : P.sz (wrows s fr).2.st ≤ P.sz s.st + 143000 := by
  have h1 := wnum_sz (s := s) (n := fr.length) (lo := 0) (hi := 64)
  have h2 := wloop_sz (pad (wnum s fr.length 0 64).1.toNat fr) (wnum s fr.length 0 64).2
  have h3 := wnum_in (s := s) (n := fr.length) (lo := 0) (hi := 64) (by omega) (by omega) (by omega)
  rw [pad_length] at h2
  unfold wrows
  omega
theorem wstep_sz {fr : Rp} {k : Nat} {x : Rp × Ws P} : P.sz (wstep fr k x).2.st ≤ P.sz x.2.st + 143000 := by
  match k with
  | 0 => exact Nat.le_trans wnum_sz (by omega)
  | 1 => exact Nat.le_trans wnum_sz (by omega)
  | 2 => exact Nat.le_trans wplace_sz (by omega)
  | k + 3 => exact wrows_sz
theorem wgos_sz {h : Nat → Bool} {fr : Rp} {x : Rp × Ws P} : ∀ k, P.sz (wgos h fr x k).2.st ≤ P.sz x.2.st + 143000 * k
  | 0 => Nat.le_add_right _ _
  | k + 1 => by
    have h1 := wgos_sz (h := h) (fr := fr) (x := x) k
    simp only [wgos, wgo]
    rw [Nat.mul_add]
    split
    · refine Nat.le_trans (wstep_sz (fr := fr) (k := k) (x := wgos h fr x k)) ?_
      generalize P.sz (wgos h fr x k).2.st = a at h1
      generalize P.sz x.2.st = b at h1
      generalize 143000 * k = d at h1
      omega
    · refine Nat.le_trans h1 ?_
      generalize 143000 * k = d
      omega
end
end Go.Proofs.YtplpagnnlggfgaaDoor
