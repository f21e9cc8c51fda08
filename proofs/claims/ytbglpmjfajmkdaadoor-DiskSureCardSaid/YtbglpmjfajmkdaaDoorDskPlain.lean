/-
  A disk in plain words (no program): files, whether a disk is valid, what an operation, arming and a crash make of it. No conditions.
-/
import GoSem.Op.String
import Derived.Sort.Walk0
import Derived.Lib.Strings
namespace Go.Proofs.YtbglpmjfajmkdaaDoor.DP

structure Fl where
  n : ByteArray
  b : ByteArray
  s : Int
structure Dk where
  fs : List Fl
  cap : Int
  left : Int
  down : Bool
structure Wr where
  op : Int
  file : ByteArray
  b : ByteArray
  n : Int

def none_ : ByteArray := { data := #[] }
def noDisk : Dk := ⟨[], 0, 0, false⟩
def noFile : Fl := ⟨none_, none_, 0⟩

def eqS (a b : ByteArray) : Bool := a.toList == b.toList
def ltS (a b : ByteArray) : Bool := Op.bytesLess a.toList b.toList

theorem toList_inj {a b : ByteArray} (h : a.toList = b.toList) : a = b := by
  rw [Lib.toList_data, Lib.toList_data] at h
  cases a; cases b; simp_all
theorem eqS_iff {a b : ByteArray} : eqS a b = true ↔ a = b := by
  unfold eqS
  rw [beq_iff_eq]
  exact ⟨toList_inj, fun h => by rw [h]⟩
theorem eqS_self (a : ByteArray) : eqS a a = true := eqS_iff.2 rfl
theorem eqS_not {a b : ByteArray} : eqS a b = false ↔ a ≠ b := by
  rw [← Bool.not_eq_true, eqS_iff]
theorem ltS_iff {a b : ByteArray} : ltS a b = true ↔ a.toList < b.toList := by
  unfold ltS
  rw [Proofs.bytesLess_eq, decide_eq_true_eq]
theorem ltS_not {a b : ByteArray} : ltS a b = false ↔ ¬ a.toList < b.toList := by
  rw [← Bool.not_eq_true, ltS_iff]
theorem ltS_irrefl (a : ByteArray) : ltS a a = false := ltS_not.2 (List.lt_irrefl _)
theorem ltS_trans {a b c : ByteArray} (h : ltS a b = true) (k : ltS b c = true) : ltS a c = true := by
  rw [ltS_iff] at *
  exact List.lt_trans h k
theorem ltS_total {a b : ByteArray} (h : a ≠ b) : ltS a b = true ∨ ltS b a = true := by
  rw [ltS_iff, ltS_iff]
  rcases Std.lt_trichotomy a.toList b.toList with h1 | h1 | h1
  · exact .inl h1
  · exact absurd (toList_inj h1) h
  · exact .inr h1
theorem ltS_asymm {a b : ByteArray} (h : ltS a b = true) : ltS b a = false := by
  cases hb : ltS b a
  · rfl
  · have := ltS_trans h hb
    rw [ltS_irrefl] at this
    cases this
theorem ltS_ne {a b : ByteArray} (h : ltS a b = true) : a ≠ b := by
  rintro rfl
  rw [ltS_irrefl] at h
  cases h
theorem size_toList (a : ByteArray) : a.toList.length = a.size := by rw [Lib.toList_data]; simp
theorem ltS_none {a : ByteArray} (h : 0 < a.size) : ltS none_ a = true := by
  rw [ltS_iff]
  have : none_.toList = [] := by rw [Lib.toList_data]; rfl
  rw [this]
  have hl := size_toList a
  cases he : a.toList with
  | nil => rw [he] at hl; simp at hl; omega
  | cons x r => exact List.nil_lt_cons _ _
theorem eq_none {a : ByteArray} : a = none_ ↔ a.size = 0 := by
  constructor
  · rintro rfl; rfl
  · intro h
    apply toList_inj
    have hl := size_toList a
    rw [h] at hl
    rw [List.eq_nil_of_length_eq_zero hl, Lib.toList_data]
    rfl

/-- One byte of a name. -/
def okByte (c : Nat) : Bool := decide (97 ≤ c ∧ c ≤ 122) || decide (48 ≤ c ∧ c ≤ 57) || decide (c = 46)
def okName (s : ByteArray) : Bool := decide (1 ≤ s.size ∧ s.size ≤ 8) && s.data.toList.all fun c => okByte c.toNat

def used : List Fl → Nat
  | [] => 0
  | f :: r => f.b.size + used r
theorem used_append (a b : List Fl) : used (a ++ b) = used a + used b := by
  induction a with
  | nil => simp [used]
  | cons x r ih => simp only [List.cons_append, used, ih]; omega

def okFl (f : Fl) : Bool := okName f.n && decide (0 < f.b.size) && decide (0 ≤ f.s ∧ f.s ≤ f.b.size)
def rises : ByteArray → List Fl → Bool
  | _, [] => true
  | p, f :: r => okFl f && ltS p f.n && rises f.n r
def head (d : Dk) : Bool := decide (d.fs.length ≤ 64 ∧ 0 ≤ d.cap ∧ d.cap ≤ 65536 ∧ (used d.fs : Int) ≤ d.cap)
def check (d : Dk) : Bool := head d && rises none_ d.fs

def get (fs : List Fl) (name : ByteArray) : Option Fl := fs.find? fun f => eqS f.n name
def isOp (w : Wr) : Bool :=
  okName w.file && decide (0 ≤ w.n) &&
    (if w.op = 0 ∨ w.op = 2 then decide (0 < w.b.size ∧ w.n = 0) else if w.op = 1 ∨ w.op = 4 then decide (w.b.size = 0 ∧ w.n = 0) else if w.op = 3 then decide (w.b.size = 0) else false)

def changed (f : Fl) (w : Wr) : Fl :=
  if w.op = 0 then { f with b := f.b ++ w.b }
  else if w.op = 1 then { f with s := f.b.size }
  else if w.op = 2 then { f with b := w.b, s := w.b.size }
  else if w.op = 3 then { f with b := f.b.extract 0 w.n.toNat, s := w.n }
  else { f with b := none_, s := 0 }
def opt (f : Fl) : List Fl := if f.b.size = 0 then [] else [f]
def put (fs : List Fl) (f : Fl) : List Fl := fs.filter (fun x => ltS x.n f.n) ++ (opt f ++ fs.filter (fun x => ltS f.n x.n))

/-- What Do makes of a valid, unarmed disk that is up and an operation, the file or none at hand. -/
def done (d : Dk) (w : Wr) : Dk × Int :=
  if get d.fs w.file = none ∧ w.b.size = 0 then (noDisk, 32)
  else
    let f : Fl := { ((get d.fs w.file).getD noFile) with n := w.file }
    if (f.b.size : Int) < w.n then (noDisk, 2)
    else
      let fs := put d.fs (changed f w)
      if 64 < fs.length then (noDisk, 3)
      else if d.cap < (used fs : Int) then (noDisk, 31)
      else ({ d with fs := fs, left := if 0 < d.left then d.left - 1 else d.left }, 0)
def does (d : Dk) (w : Wr) : Dk × Int :=
  if check d = false ∨ isOp w = false then (noDisk, 2)
  else if d.down = true then (noDisk, 30)
  else if d.left = 0 then ({ d with down := true }, 30)
  else done d w

def arm (d : Dk) (n : Int) : Dk × Int := if check d = false then (noDisk, 2) else ({ d with left := max n (-1) }, 0)
/-- What a crash leaves of a file. -/
def left (f : Fl) (k : Option Int) : Fl :=
  let n : Int := f.s + (match k with | none => 0 | some k => min (max k 0) (f.b.size - f.s))
  { f with b := f.b.extract 0 n.toNat, s := n }
def lefts : List Fl → List Int → List Fl
  | [], _ => []
  | f :: r, [] => left f none :: lefts r []
  | f :: r, k :: ks => left f (some k) :: lefts r ks
def crash (d : Dk) (keep : List Int) : Dk × Int :=
  if check d = false then (noDisk, 2) else ({ fs := (lefts d.fs keep).filter (fun f => decide (0 < f.b.size)), cap := d.cap, left := -1, down := false }, 0)
def new (most : Int) : Dk × Int := if most < 0 ∨ 65536 < most then (noDisk, 2) else (⟨[], most, -1, false⟩, 0)
def sameF (f g : Fl) : Bool := eqS f.n g.n && eqS f.b g.b && decide (f.s = g.s)
def sameFs : List Fl → List Fl → Bool
  | [], [] => true
  | f :: r, g :: t => sameF f g && sameFs r t
  | _, _ => false
def same (a b : Dk) : Bool := sameFs a.fs b.fs && decide (a.cap = b.cap) && decide (a.left = b.left) && (a.down == b.down)

def greatF (f : Fl) : Bool := decide (131072 < f.b.size) || decide (100 < f.n.size)
def great (d : Dk) : Bool := decide (100 < d.fs.length) || d.fs.any greatF
/-- Files that are not too great. -/
def Small (fs : List Fl) : Prop := fs.length ≤ 100 ∧ ∀ f ∈ fs, f.b.size ≤ 400000 ∧ f.n.size ≤ 100

/-! ### what follows from a disk's validity -/
theorem check_parts {d : Dk} (h : check d = true) : d.fs.length ≤ 64 ∧ 0 ≤ d.cap ∧ d.cap ≤ 65536 ∧ (used d.fs : Int) ≤ d.cap ∧ rises none_ d.fs = true := by
  unfold check head at h
  rw [Bool.and_eq_true, decide_eq_true_eq] at h
  exact ⟨h.1.1, h.1.2.1, h.1.2.2.1, h.1.2.2.2, h.2⟩
theorem check_mk {d : Dk} (h1 : d.fs.length ≤ 64) (h2 : 0 ≤ d.cap) (h3 : d.cap ≤ 65536) (h4 : (used d.fs : Int) ≤ d.cap) (h5 : rises none_ d.fs = true) : check d = true := by
  unfold check head
  rw [Bool.and_eq_true, decide_eq_true_eq]
  exact ⟨⟨h1, h2, h3, h4⟩, h5⟩
theorem used_le {fs : List Fl} {f : Fl} (h : f ∈ fs) : f.b.size ≤ used fs := by
  induction fs with
  | nil => cases h
  | cons x r ih =>
    unfold used
    rcases List.mem_cons.1 h with rfl | h
    · omega
    · have := ih h; omega
/-- In a strictly rising order, each of them valid. -/
def Sorted (fs : List Fl) : Prop := fs.Pairwise (fun a b => ltS a.n b.n = true) ∧ ∀ f ∈ fs, okFl f = true
theorem rises_iff (p : ByteArray) (fs : List Fl) : rises p fs = true ↔ (∀ f ∈ fs, okFl f = true ∧ ltS p f.n = true) ∧ fs.Pairwise (fun a b => ltS a.n b.n = true) := by
  induction fs generalizing p with
  | nil => simp [rises]
  | cons x r ih =>
    simp only [rises, Bool.and_eq_true, ih, List.mem_cons, List.pairwise_cons]
    constructor
    · rintro ⟨⟨h1, h2⟩, h3, h4⟩
      refine ⟨?_, fun a ha => (h3 a ha).2, h4⟩
      rintro f (rfl | hf)
      · exact ⟨h1, h2⟩
      · exact ⟨(h3 f hf).1, ltS_trans h2 (h3 f hf).2⟩
    · rintro ⟨h1, h2, h3⟩
      exact ⟨h1 x (.inl rfl), fun f hf => ⟨(h1 f (.inr hf)).1, h2 f hf⟩, h3⟩
theorem okName_pos {s : ByteArray} (h : okName s = true) : 0 < s.size := by
  unfold okName at h
  simp only [Bool.and_eq_true, decide_eq_true_eq] at h
  omega
theorem okFl_parts {f : Fl} (h : okFl f = true) : okName f.n = true ∧ 0 < f.b.size ∧ 0 ≤ f.s ∧ f.s ≤ f.b.size := by
  unfold okFl at h
  simp only [Bool.and_eq_true, decide_eq_true_eq] at h
  exact ⟨h.1.1, h.1.2, h.2⟩
theorem okFl_mk {f : Fl} (h1 : okName f.n = true) (h2 : 0 < f.b.size) (h3 : 0 ≤ f.s) (h4 : f.s ≤ f.b.size) : okFl f = true := by
  unfold okFl
  simp only [Bool.and_eq_true, decide_eq_true_eq]
  exact ⟨⟨h1, h2⟩, h3, h4⟩
theorem rises_sorted {fs : List Fl} : rises none_ fs = true ↔ Sorted fs := by
  rw [rises_iff]
  constructor
  · rintro ⟨h1, h2⟩; exact ⟨h2, fun f hf => (h1 f hf).1⟩
  · rintro ⟨h1, h2⟩; exact ⟨fun f hf => ⟨h2 f hf, ltS_none (okName_pos (okFl_parts (h2 f hf)).1)⟩, h1⟩
theorem check_sorted {d : Dk} (h : check d = true) : Sorted d.fs := rises_sorted.1 (check_parts h).2.2.2.2

theorem okName_le {s : ByteArray} (h : okName s = true) : s.size ≤ 8 := by
  unfold okName at h
  simp only [Bool.and_eq_true, decide_eq_true_eq] at h
  omega
theorem check_small {d : Dk} (h : check d = true) : Small d.fs := by
  obtain ⟨h1, _, h3, h4, _⟩ := check_parts h
  exact ⟨by omega, fun f hf => ⟨by have := used_le hf; omega, by have := okName_le (okFl_parts ((check_sorted h).2 f hf)).1; omega⟩⟩

/-! ### the place of a file -/
/-- The index of the first of which p holds, or the length. -/
def place (p : Fl → Bool) : List Fl → Nat
  | [] => 0
  | f :: r => if p f then 0 else place p r + 1
theorem place_le (p : Fl → Bool) (fs : List Fl) : place p fs ≤ fs.length := by
  induction fs with
  | nil => simp [place]
  | cons x r ih => unfold place; split <;> simp; omega

theorem find_place (p : Fl → Bool) (fs : List Fl) : fs.find? p = fs[place p fs]? := by
  induction fs with
  | nil => rfl
  | cons x r ih =>
    unfold place
    cases hx : p x
    · rw [List.find?_cons_of_neg (by simp [hx]), ih, if_neg (by simp), List.getElem?_cons_succ]
    · rw [List.find?_cons_of_pos hx, if_pos rfl]; rfl
theorem place_none {p : Fl → Bool} {fs : List Fl} (h : fs.find? p = none) : place p fs = fs.length := by
  rw [find_place, List.getElem?_eq_none_iff] at h
  have := place_le p fs
  omega
theorem place_some {p : Fl → Bool} {fs : List Fl} {f : Fl} (h : fs.find? p = some f) : place p fs < fs.length ∧ fs[place p fs]? = some f := by
  rw [find_place] at h
  exact ⟨(List.getElem?_eq_some_iff.1 h).1, h⟩
theorem take_place {n : ByteArray} {fs : List Fl} (h : fs.Pairwise (fun a b => ltS a.n b.n = true)) : fs.take (place (fun x => !ltS x.n n) fs) = fs.filter (fun x => ltS x.n n) := by
  induction fs with
  | nil => rfl
  | cons x r ih =>
    rw [List.pairwise_cons] at h
    unfold place
    cases hx : ltS x.n n
    · simp only [Bool.not_false, if_true, List.take_zero]
      symm
      rw [List.filter_eq_nil_iff]
      intro a ha hn
      rcases List.mem_cons.1 ha with rfl | ha
      · rw [hx] at hn; cases hn
      · have := ltS_trans (h.1 a ha) hn
        rw [hx] at this; cases this
    · simp only [Bool.not_true]
      rw [if_neg (by simp), List.take_succ_cons, ih h.2, List.filter_cons_of_pos (by simpa using hx)]
theorem drop_place {n : ByteArray} {fs : List Fl} (h : fs.Pairwise (fun a b => ltS a.n b.n = true)) : fs.drop (place (fun x => ltS n x.n) fs) = fs.filter (fun x => ltS n x.n) := by
  induction fs with
  | nil => rfl
  | cons x r ih =>
    rw [List.pairwise_cons] at h
    unfold place
    cases hx : ltS n x.n
    · rw [if_neg (by simp), List.drop_succ_cons, ih h.2, List.filter_cons_of_neg (by simp [hx])]
    · rw [if_pos rfl, List.drop_zero, List.filter_cons_of_pos (by simpa using hx)]
      congr 1
      symm
      rw [List.filter_eq_self]
      intro a ha
      exact ltS_trans hx (h.1 a ha)
theorem put_place {fs : List Fl} {f : Fl} (h : fs.Pairwise (fun a b => ltS a.n b.n = true)) :
    fs.take (place (fun x => !ltS x.n f.n) fs) ++ (opt f ++ fs.drop (place (fun x => ltS f.n x.n) fs)) = put fs f := by
  rw [take_place h, drop_place h]; rfl

end Go.Proofs.YtbglpmjfajmkdaaDoor.DP
