/-
  A disk in plain words (no program): files, whether a disk is valid, what an operation, arming and a crash make of it. No conditions.
  More on files in plain words (no program): what put leaves small, the files of a valid disk. No conditions.
  What the laws of disks lean on, in plain words (no program): a file put into a valid disk's files. No conditions.
  What an operation makes of a valid disk, in plain words (no program): a valid disk; what is left of the operations. No conditions.
  Two files of different names put into a disk's files, in either order, in plain words (no program). No conditions.
  Two operations on different files, in either order, in plain words (no program). No conditions.
  What the reference's 'with', 'Check' and 'Get' make of a list of files, turn by turn, in plain words (no program). No conditions.
  What a script makes of a disk, in plain words (no program): each act leaves a valid disk. No conditions.
  Loads and their frames, on lists of bytes alone (no program): 'enc x' is the frame of the load x, 'rows l' are the loads of the frames with which l begins, 'torn l' is how many bytes are left behind them. No conditions.
-/
import GoSem.Op.String
import Derived.Sort.Walk0
import Derived.Lib.Strings
import Init
namespace Go.Proofs.YtpppeadmhfggkaaGreatDoor.DP

structure Fl where
  n : ByteArray
  b : ByteArray
  s : Int
structure Dk where
  fs : List Fl
  cap : Int
  left : Int
  down : Bool
structure Wr where
  op : Int
  file : ByteArray
  b : ByteArray
  n : Int

def none_ : ByteArray := { data := #[] }
def noDisk : Dk := ⟨[], 0, 0, false⟩
def noFile : Fl := ⟨none_, none_, 0⟩

def eqS (a b : ByteArray) : Bool := a.toList == b.toList
def ltS (a b : ByteArray) : Bool := Op.bytesLess a.toList b.toList

theorem toList_inj {a b : ByteArray} (h : a.toList = b.toList) : a = b := by
  rw [Lib.toList_data, Lib.toList_data] at h
  cases a; cases b; simp_all
theorem eqS_iff {a b : ByteArray} : eqS a b = true ↔ a = b := by
  unfold eqS
  rw [beq_iff_eq]
  exact ⟨toList_inj, fun h => by rw [h]⟩
theorem eqS_self (a : ByteArray) : eqS a a = true := eqS_iff.2 rfl
theorem eqS_not {a b : ByteArray} : eqS a b = false ↔ a ≠ b := by
  rw [← Bool.not_eq_true, eqS_iff]
theorem ltS_iff {a b : ByteArray} : ltS a b = true ↔ a.toList < b.toList := by
  unfold ltS
  rw [Proofs.bytesLess_eq, decide_eq_true_eq]
theorem ltS_not {a b : ByteArray} : ltS a b = false ↔ ¬ a.toList < b.toList := by
  rw [← Bool.not_eq_true, ltS_iff]
theorem ltS_irrefl (a : ByteArray) : ltS a a = false := ltS_not.2 (List.lt_irrefl _)
theorem ltS_trans {a b c : ByteArray} (h : ltS a b = true) (k : ltS b c = true) : ltS a c = true := by
  rw [ltS_iff] at *
  exact List.lt_trans h k
theorem ltS_total {a b : ByteArray} (h : a ≠ b) : ltS a b = true ∨ ltS b a = true := by
  rw [ltS_iff, ltS_iff]
  rcases Std.lt_trichotomy a.toList b.toList with h1 | h1 | h1
  · exact .inl h1
  · exact absurd (toList_inj h1) h
  · exact .inr h1
theorem ltS_asymm {a b : ByteArray} (h : ltS a b = true) : ltS b a = false := by
  cases hb : ltS b a
  · rfl
  · have := ltS_trans h hb
    rw [ltS_irrefl] at this
    cases this
theorem ltS_ne {a b : ByteArray} (h : ltS a b = true) : a ≠ b := by
  rintro rfl
  rw [ltS_irrefl] at h
  cases h
theorem size_toList (a : ByteArray) : a.toList.length = a.size := by rw [Lib.toList_data]; simp
theorem ltS_none {a : ByteArray} (h : 0 < a.size) : ltS none_ a = true := by
  rw [ltS_iff]
  have : none_.toList = [] := by rw [Lib.toList_data]; rfl
  rw [this]
  have hl := size_toList a
  cases he : a.toList with
  | nil => rw [he] at hl; simp at hl; omega
  | cons x r => exact List.nil_lt_cons _ _
theorem eq_none {a : ByteArray} : a = none_ ↔ a.size = 0 := by
  constructor
  · rintro rfl; rfl
  · intro h
    apply toList_inj
    have hl := size_toList a
    rw [h] at hl
    rw [List.eq_nil_of_length_eq_zero hl, Lib.toList_data]
    rfl

/-- One byte of a name. -/
def okByte (c : Nat) : Bool := decide (97 ≤ c ∧ c ≤ 122) || decide (48 ≤ c ∧ c ≤ 57) || decide (c = 46)
def okName (s : ByteArray) : Bool := decide (1 ≤ s.size ∧ s.size ≤ 8) && s.data.toList.all fun c => okByte c.toNat

def used : List Fl → Nat
  | [] => 0
  | f :: r => f.b.size + used r
theorem used_append (a b : List Fl) : used (a ++ b) = used a + used b := by
  induction a with
  | nil => simp [used]
  | cons x r ih => simp only [List.cons_append, used, ih]; omega

def okFl (f : Fl) : Bool := okName f.n && decide (0 < f.b.size) && decide (0 ≤ f.s ∧ f.s ≤ f.b.size)
def rises : ByteArray → List Fl → Bool
  | _, [] => true
  | p, f :: r => okFl f && ltS p f.n && rises f.n r
def head (d : Dk) : Bool := decide (d.fs.length ≤ 64 ∧ 0 ≤ d.cap ∧ d.cap ≤ 65536 ∧ (used d.fs : Int) ≤ d.cap)
def check (d : Dk) : Bool := head d && rises none_ d.fs

def get (fs : List Fl) (name : ByteArray) : Option Fl := fs.find? fun f => eqS f.n name
def isOp (w : Wr) : Bool :=
  okName w.file && decide (0 ≤ w.n) &&
    (if w.op = 0 ∨ w.op = 2 then decide (0 < w.b.size ∧ w.n = 0) else if w.op = 1 ∨ w.op = 4 then decide (w.b.size = 0 ∧ w.n = 0) else if w.op = 3 then decide (w.b.size = 0) else false)

def changed (f : Fl) (w : Wr) : Fl :=
  if w.op = 0 then { f with b := f.b ++ w.b }
  else if w.op = 1 then { f with s := f.b.size }
  else if w.op = 2 then { f with b := w.b, s := w.b.size }
  else if w.op = 3 then { f with b := f.b.extract 0 w.n.toNat, s := w.n }
  else { f with b := none_, s := 0 }
def opt (f : Fl) : List Fl := if f.b.size = 0 then [] else [f]
def put (fs : List Fl) (f : Fl) : List Fl := fs.filter (fun x => ltS x.n f.n) ++ (opt f ++ fs.filter (fun x => ltS f.n x.n))

/-- What Do makes of a valid, unarmed disk that is up and an operation, the file or none at hand. -/
def done (d : Dk) (w : Wr) : Dk × Int :=
  if get d.fs w.file = none ∧ w.b.size = 0 then (noDisk, 32)
  else
    let f : Fl := { ((get d.fs w.file).getD noFile) with n := w.file }
    if (f.b.size : Int) < w.n then (noDisk, 2)
    else
      let fs := put d.fs (changed f w)
      if 64 < fs.length then (noDisk, 3)
      else if d.cap < (used fs : Int) then (noDisk, 31)
      else ({ d with fs := fs, left := if 0 < d.left then d.left - 1 else d.left }, 0)
def does (d : Dk) (w : Wr) : Dk × Int :=
  if check d = false ∨ isOp w = false then (noDisk, 2)
  else if d.down = true then (noDisk, 30)
  else if d.left = 0 then ({ d with down := true }, 30)
  else done d w

def arm (d : Dk) (n : Int) : Dk × Int := if check d = false then (noDisk, 2) else ({ d with left := max n (-1) }, 0)
/-- What a crash leaves of a file. -/
def left (f : Fl) (k : Option Int) : Fl :=
  let n : Int := f.s + (match k with | none => 0 | some k => min (max k 0) (f.b.size - f.s))
  { f with b := f.b.extract 0 n.toNat, s := n }
def lefts : List Fl → List Int → List Fl
  | [], _ => []
  | f :: r, [] => left f none :: lefts r []
  | f :: r, k :: ks => left f (some k) :: lefts r ks
def crash (d : Dk) (keep : List Int) : Dk × Int :=
  if check d = false then (noDisk, 2) else ({ fs := (lefts d.fs keep).filter (fun f => decide (0 < f.b.size)), cap := d.cap, left := -1, down := false }, 0)
def new (most : Int) : Dk × Int := if most < 0 ∨ 65536 < most then (noDisk, 2) else (⟨[], most, -1, false⟩, 0)
def sameF (f g : Fl) : Bool := eqS f.n g.n && eqS f.b g.b && decide (f.s = g.s)
def sameFs : List Fl → List Fl → Bool
  | [], [] => true
  | f :: r, g :: t => sameF f g && sameFs r t
  | _, _ => false
def same (a b : Dk) : Bool := sameFs a.fs b.fs && decide (a.cap = b.cap) && decide (a.left = b.left) && (a.down == b.down)

def greatF (f : Fl) : Bool := decide (131072 < f.b.size) || decide (100 < f.n.size)
def great (d : Dk) : Bool := decide (100 < d.fs.length) || d.fs.any greatF
/-- Files that are not too great. -/
def Small (fs : List Fl) : Prop := fs.length ≤ 100 ∧ ∀ f ∈ fs, f.b.size ≤ 400000 ∧ f.n.size ≤ 100

/-! ### what follows from a disk's validity -/
theorem check_parts {d : Dk} (h : check d = true) : d.fs.length ≤ 64 ∧ 0 ≤ d.cap ∧ d.cap ≤ 65536 ∧ (used d.fs : Int) ≤ d.cap ∧ rises none_ d.fs = true := by
  unfold check head at h
  rw [Bool.and_eq_true, decide_eq_true_eq] at h
  exact ⟨h.1.1, h.1.2.1, h.1.2.2.1, h.1.2.2.2, h.2⟩
theorem check_mk {d : Dk} (h1 : d.fs.length ≤ 64) (h2 : 0 ≤ d.cap) (h3 : d.cap ≤ 65536) (h4 : (used d.fs : Int) ≤ d.cap) (h5 : rises none_ d.fs = true) : check d = true := by
  unfold check head
  rw [Bool.and_eq_true, decide_eq_true_eq]
  exact ⟨⟨h1, h2, h3, h4⟩, h5⟩
theorem used_le {fs : List Fl} {f : Fl} (h : f ∈ fs) : f.b.size ≤ used fs := by
  induction fs with
  | nil => cases h
  | cons x r ih =>
    unfold used
    rcases List.mem_cons.1 h with rfl | h
    · omega
    · have := ih h; omega
/-- In a strictly rising order, each of them valid. -/
def Sorted (fs : List Fl) : Prop := fs.Pairwise (fun a b => ltS a.n b.n = true) ∧ ∀ f ∈ fs, okFl f = true
theorem rises_iff (p : ByteArray) (fs : List Fl) : rises p fs = true ↔ (∀ f ∈ fs, okFl f = true ∧ ltS p f.n = true) ∧ fs.Pairwise (fun a b => ltS a.n b.n = true) := by
  induction fs generalizing p with
  | nil => simp [rises]
  | cons x r ih =>
    simp only [rises, Bool.and_eq_true, ih, List.mem_cons, List.pairwise_cons]
    constructor
    · rintro ⟨⟨h1, h2⟩, h3, h4⟩
      refine ⟨?_, fun a ha => (h3 a ha).2, h4⟩
      rintro f (rfl | hf)
      · exact ⟨h1, h2⟩
      · exact ⟨(h3 f hf).1, ltS_trans h2 (h3 f hf).2⟩
    · rintro ⟨h1, h2, h3⟩
      exact ⟨h1 x (.inl rfl), fun f hf => ⟨(h1 f (.inr hf)).1, h2 f hf⟩, h3⟩
theorem okName_pos {s : ByteArray} (h : okName s = true) : 0 < s.size := by
  unfold okName at h
  simp only [Bool.and_eq_true, decide_eq_true_eq] at h
  omega
theorem okFl_parts {f : Fl} (h : okFl f = true) : okName f.n = true ∧ 0 < f.b.size ∧ 0 ≤ f.s ∧ f.s ≤ f.b.size := by
  unfold okFl at h
  simp only [Bool.and_eq_true, decide_eq_true_eq] at h
  exact ⟨h.1.1, h.1.2, h.2⟩
theorem okFl_mk {f : Fl} (h1 : okName f.n = true) (h2 : 0 < f.b.size) (h3 : 0 ≤ f.s) (h4 : f.s ≤ f.b.size) : okFl f = true := by
  unfold okFl
  simp only [Bool.and_eq_true, decide_eq_true_eq]
  exact ⟨⟨h1, h2⟩, h3, h4⟩
theorem rises_sorted {fs : List Fl} : rises none_ fs = true ↔ Sorted fs := by
  rw [rises_iff]
  constructor
  · rintro ⟨h1, h2⟩; exact ⟨h2, fun f hf => (h1 f hf).1⟩
  · rintro ⟨h1, h2⟩; exact ⟨fun f hf => ⟨h2 f hf, ltS_none (okName_pos (okFl_parts (h2 f hf)).1)⟩, h1⟩
theorem check_sorted {d : Dk} (h : check d = true) : Sorted d.fs := rises_sorted.1 (check_parts h).2.2.2.2

theorem okName_le {s : ByteArray} (h : okName s = true) : s.size ≤ 8 := by
  unfold okName at h
  simp only [Bool.and_eq_true, decide_eq_true_eq] at h
  omega
theorem check_small {d : Dk} (h : check d = true) : Small d.fs := by
  obtain ⟨h1, _, h3, h4, _⟩ := check_parts h
  exact ⟨by omega, fun f hf => ⟨by have := used_le hf; omega, by have := okName_le (okFl_parts ((check_sorted h).2 f hf)).1; omega⟩⟩

/-! ### the place of a file -/
/-- The index of the first of which p holds, or the length. -/
def place (p : Fl → Bool) : List Fl → Nat
  | [] => 0
  | f :: r => if p f then 0 else place p r + 1
theorem place_le (p : Fl → Bool) (fs : List Fl) : place p fs ≤ fs.length := by
  induction fs with
  | nil => simp [place]
  | cons x r ih => unfold place; split <;> simp; omega

theorem find_place (p : Fl → Bool) (fs : List Fl) : fs.find? p = fs[place p fs]? := by
  induction fs with
  | nil => rfl
  | cons x r ih =>
    unfold place
    cases hx : p x
    · rw [List.find?_cons_of_neg (by simp [hx]), ih, if_neg (by simp), List.getElem?_cons_succ]
    · rw [List.find?_cons_of_pos hx, if_pos rfl]; rfl
theorem place_none {p : Fl → Bool} {fs : List Fl} (h : fs.find? p = none) : place p fs = fs.length := by
  rw [find_place, List.getElem?_eq_none_iff] at h
  have := place_le p fs
  omega
theorem place_some {p : Fl → Bool} {fs : List Fl} {f : Fl} (h : fs.find? p = some f) : place p fs < fs.length ∧ fs[place p fs]? = some f := by
  rw [find_place] at h
  exact ⟨(List.getElem?_eq_some_iff.1 h).1, h⟩
theorem take_place {n : ByteArray} {fs : List Fl} (h : fs.Pairwise (fun a b => ltS a.n b.n = true)) : fs.take (place (fun x => !ltS x.n n) fs) = fs.filter (fun x => ltS x.n n) := by
  induction fs with
  | nil => rfl
  | cons x r ih =>
    rw [List.pairwise_cons] at h
    unfold place
    cases hx : ltS x.n n
    · simp only [Bool.not_false, if_true, List.take_zero]
      symm
      rw [List.filter_eq_nil_iff]
      intro a ha hn
      rcases List.mem_cons.1 ha with rfl | ha
      · rw [hx] at hn; cases hn
      · have := ltS_trans (h.1 a ha) hn
        rw [hx] at this; cases this
    · simp only [Bool.not_true]
      rw [if_neg (by simp), List.take_succ_cons, ih h.2, List.filter_cons_of_pos (by simpa using hx)]
theorem drop_place {n : ByteArray} {fs : List Fl} (h : fs.Pairwise (fun a b => ltS a.n b.n = true)) : fs.drop (place (fun x => ltS n x.n) fs) = fs.filter (fun x => ltS n x.n) := by
  induction fs with
  | nil => rfl
  | cons x r ih =>
    rw [List.pairwise_cons] at h
    unfold place
    cases hx : ltS n x.n
    · rw [if_neg (by simp), List.drop_succ_cons, ih h.2, List.filter_cons_of_neg (by simp [hx])]
    · rw [if_pos rfl, List.drop_zero, List.filter_cons_of_pos (by simpa using hx)]
      congr 1
      symm
      rw [List.filter_eq_self]
      intro a ha
      exact ltS_trans hx (h.1 a ha)
theorem put_place {fs : List Fl} {f : Fl} (h : fs.Pairwise (fun a b => ltS a.n b.n = true)) :
    fs.take (place (fun x => !ltS x.n f.n) fs) ++ (opt f ++ fs.drop (place (fun x => ltS f.n x.n) fs)) = put fs f := by
  rw [take_place h, drop_place h]; rfl

end Go.Proofs.YtpppeadmhfggkaaGreatDoor.DP

namespace Go.Proofs.YtpppeadmhfggkaaGreatDoor.DP

theorem opt_length (f : Fl) : (opt f).length ≤ 1 := by unfold opt; split <;> simp
theorem put_mem {fs : List Fl} {f x : Fl} (h : x ∈ put fs f) : x ∈ fs ∨ x = f := by
  unfold put opt at h
  rcases List.mem_append.1 h with h | h
  · exact .inl (List.mem_filter.1 h).1
  · rcases List.mem_append.1 h with h | h
    · split at h
      · cases h
      · exact .inr (by simpa using h)
    · exact .inl (List.mem_filter.1 h).1
theorem filter_two (fs : List Fl) (n : ByteArray) : (fs.filter (fun x => ltS x.n n)).length + (fs.filter (fun x => ltS n x.n)).length ≤ fs.length := by
  induction fs with
  | nil => simp
  | cons x r ih =>
    cases h1 : ltS x.n n
    · rw [List.filter_cons_of_neg (by simp [h1])]
      cases h2 : ltS n x.n
      · rw [List.filter_cons_of_neg (by simp [h2])]; simp; omega
      · rw [List.filter_cons_of_pos (by simpa using h2)]; simp; omega
    · rw [List.filter_cons_of_pos (by simpa using h1), List.filter_cons_of_neg (by simp [ltS_asymm h1])]; simp; omega
theorem put_length (fs : List Fl) (f : Fl) : (put fs f).length ≤ fs.length + 1 := by
  have h1 := filter_two fs f.n
  have h2 := opt_length f
  unfold put
  rw [List.length_append, List.length_append]
  omega
theorem put_small {fs : List Fl} {f : Fl} (h : Small fs) (hl : fs.length ≤ 99) (hb : f.b.size ≤ 400000) (hn : f.n.size ≤ 100) : Small (put fs f) :=
  ⟨by have := put_length fs f; omega, fun x hx => by
    rcases put_mem hx with hx | rfl
    · exact h.2 x hx
    · exact ⟨hb, hn⟩⟩
end Go.Proofs.YtpppeadmhfggkaaGreatDoor.DP

namespace Go.Proofs.YtpppeadmhfggkaaGreatDoor.DP

theorem sorted_none {fs : List Fl} {n : ByteArray} (h : fs.Pairwise (fun a b => ltS a.n b.n = true)) (hg : DP.get fs n = none) : fs = fs.filter (fun x => ltS x.n n) ++ fs.filter (fun x => ltS n x.n) := by
  induction fs with
  | nil => rfl
  | cons x r ih =>
    rw [List.pairwise_cons] at h
    unfold DP.get at hg ih
    rw [List.find?_cons] at hg
    split at hg
    · cases hg
    · rename_i hx
      have hne : x.n ≠ n := fun e => by rw [e, eqS_self] at hx; cases hx
      rcases ltS_total hne with h1 | h1
      · rw [List.filter_cons_of_pos (by simpa using h1), List.filter_cons_of_neg (by simp [ltS_asymm h1]), List.cons_append, ← ih h.2 hg]
      · have hall : ∀ a ∈ r, ltS n a.n = true := fun a ha => ltS_trans h1 (h.1 a ha)
        rw [List.filter_cons_of_neg (by simp [ltS_asymm h1]), List.filter_cons_of_pos (by simpa using h1)]
        have e1 : r.filter (fun x => ltS x.n n) = [] := by
          rw [List.filter_eq_nil_iff]
          intro a ha hn
          rw [ltS_asymm (hall a ha)] at hn; cases hn
        have e2 : r.filter (fun x => ltS n x.n) = r := by
          rw [List.filter_eq_self]; exact hall
        rw [e1, e2]; rfl
theorem sorted_some {fs : List Fl} {n : ByteArray} {f : Fl} (h : fs.Pairwise (fun a b => ltS a.n b.n = true)) (hg : DP.get fs n = some f) : f.n = n ∧ fs = fs.filter (fun x => ltS x.n n) ++ f :: fs.filter (fun x => ltS n x.n) := by
  induction fs with
  | nil => cases hg
  | cons x r ih =>
    rw [List.pairwise_cons] at h
    unfold DP.get at hg ih
    rw [List.find?_cons] at hg
    split at hg
    · rename_i hx
      injection hg with hg
      subst hg
      have hxn := eqS_iff.1 hx
      refine ⟨hxn, ?_⟩
      have hall : ∀ a ∈ r, ltS n a.n = true := fun a ha => by rw [← hxn]; exact h.1 a ha
      rw [List.filter_cons_of_neg (by rw [hxn, ltS_irrefl]; simp), List.filter_cons_of_neg (by rw [hxn, ltS_irrefl]; simp)]
      have e1 : r.filter (fun x => ltS x.n n) = [] := by
        rw [List.filter_eq_nil_iff]
        intro a ha hn
        rw [ltS_asymm (hall a ha)] at hn; cases hn
      have e2 : r.filter (fun x => ltS n x.n) = r := by
        rw [List.filter_eq_self]; exact hall
      rw [e1, e2]; rfl
    · rename_i hx
      obtain ⟨hf, hr⟩ := ih h.2 hg
      refine ⟨hf, ?_⟩
      have hfm : f ∈ r := List.mem_of_find?_eq_some hg
      have h1 : ltS x.n n = true := by rw [← hf]; exact h.1 f hfm
      rw [List.filter_cons_of_pos (by simpa using h1), List.filter_cons_of_neg (by simp [ltS_asymm h1]), List.cons_append, ← hr]
theorem used_cons (f : Fl) (fs : List Fl) : used (f :: fs) = f.b.size + used fs := rfl
theorem put_none_is {fs : List Fl} {f : Fl} (h : fs.Pairwise (fun a b => ltS a.n b.n = true)) (hg : DP.get fs f.n = none) (hb : 0 < f.b.size) : (put fs f).length = fs.length + 1 ∧ used (put fs f) = used fs + f.b.size := by
  have hs := sorted_none h hg
  have h1 : fs.length = (fs.filter (fun x => ltS x.n f.n)).length + (fs.filter (fun x => ltS f.n x.n)).length := by
    conv => lhs; rw [hs]
    rw [List.length_append]
  have h2 : used fs = used (fs.filter (fun x => ltS x.n f.n)) + used (fs.filter (fun x => ltS f.n x.n)) := by
    conv => lhs; rw [hs]
    rw [used_append]
  unfold put opt
  rw [if_neg (by omega)]
  refine ⟨?_, ?_⟩
  · rw [List.length_append, List.length_append, List.length_singleton]; omega
  · rw [used_append, used_append, used_cons]; simp only [used]; omega
theorem put_some_is {fs : List Fl} {f g : Fl} (h : fs.Pairwise (fun a b => ltS a.n b.n = true)) (hg : DP.get fs f.n = some g) (hb : 0 < f.b.size) : (put fs f).length = fs.length ∧ used (put fs f) + g.b.size = used fs + f.b.size := by
  obtain ⟨_, hs⟩ := sorted_some h hg
  have h1 : fs.length = (fs.filter (fun x => ltS x.n f.n)).length + ((fs.filter (fun x => ltS f.n x.n)).length + 1) := by
    conv => lhs; rw [hs]
    rw [List.length_append, List.length_cons]
  have h2 : used fs = used (fs.filter (fun x => ltS x.n f.n)) + (g.b.size + used (fs.filter (fun x => ltS f.n x.n))) := by
    conv => lhs; rw [hs]
    rw [used_append, used_cons]
  unfold put opt
  rw [if_neg (by omega)]
  refine ⟨?_, ?_⟩
  · rw [List.length_append, List.length_append, List.length_singleton]; omega
  · rw [used_append, used_append, used_cons]; simp only [used]; omega
theorem get_put {fs : List Fl} {f : Fl} (hb : 0 < f.b.size) : DP.get (put fs f) f.n = some f := by
  unfold DP.get put opt
  rw [if_neg (by omega), List.find?_append]
  have e : (fs.filter (fun x => ltS x.n f.n)).find? (fun x => eqS x.n f.n) = none := by
    rw [List.find?_eq_none]
    intro x hx he
    have := (List.mem_filter.1 hx).2
    rw [eqS_iff.1 he, ltS_irrefl] at this
    cases this
  rw [e, Option.none_or, List.singleton_append, List.find?_cons_of_pos (by exact eqS_self _)]

/-- What an append makes of a valid disk that is up and not armed. -/
theorem does_put {fs : List Fl} {cap left : Int} {name b fn fb : ByteArray} {s : Int} (hc : check ⟨fs, cap, left, false⟩ = true) (hl : left < 0) (hn : okName name = true) (hb : 0 < b.size) (hg : (DP.get fs name).getD noFile = ⟨fn, fb, s⟩) :
    ((cap < (used fs : Int) + b.size ∨ (fb.size = 0 ∧ fs.length = 64)) → ∃ r, (r = 31 ∨ r = 3) ∧ does ⟨fs, cap, left, false⟩ ⟨0, name, b, 0⟩ = (noDisk, r)) ∧
    (¬ (cap < (used fs : Int) + b.size ∨ (fb.size = 0 ∧ fs.length = 64)) → does ⟨fs, cap, left, false⟩ ⟨0, name, b, 0⟩ = (⟨put fs ⟨name, fb ++ b, s⟩, cap, left, false⟩, 0) ∧ used (put fs ⟨name, fb ++ b, s⟩) = used fs + b.size ∧ DP.get (put fs ⟨name, fb ++ b, s⟩) name = some ⟨name, fb ++ b, s⟩) := by
  have hop : isOp ⟨0, name, b, 0⟩ = true := by
    unfold isOp
    simp [hn, hb]
  have hsz : (fb ++ b).size = fb.size + b.size := ByteArray.size_append
  have hsort := check_sorted hc
  obtain ⟨hlen, _, _, husd, _⟩ := check_parts hc
  simp only at hlen husd
  have hdo : does ⟨fs, cap, left, false⟩ ⟨0, name, b, 0⟩ = if 64 < (put fs ⟨name, fb ++ b, s⟩).length then (noDisk, 3) else if cap < (used (put fs ⟨name, fb ++ b, s⟩) : Int) then (noDisk, 31) else (⟨put fs ⟨name, fb ++ b, s⟩, cap, left, false⟩, 0) := by
    unfold does
    rw [if_neg (by rw [hc, hop]; simp), if_neg (by simp), if_neg (by simp only; omega)]
    unfold done
    simp only [hg]
    rw [if_neg (fun h => by omega), if_neg (by omega)]
    have hch : changed ⟨name, fb, s⟩ ⟨0, name, b, 0⟩ = ⟨name, fb ++ b, s⟩ := rfl
    rw [hch, if_neg (show ¬ 0 < left by omega)]
  have hput : (put fs ⟨name, fb ++ b, s⟩).length = fs.length + (if fb.size = 0 then 1 else 0) ∧ used (put fs ⟨name, fb ++ b, s⟩) = used fs + b.size := by
    cases hget : DP.get fs name with
    | none =>
      rw [hget] at hg
      simp only [Option.getD_none, noFile, Fl.mk.injEq] at hg
      obtain ⟨_, rfl, _⟩ := hg
      have h0 : none_.size = 0 := rfl
      obtain ⟨p1, p2⟩ := put_none_is (f := ⟨name, none_ ++ b, s⟩) hsort.1 hget (by simp only; omega)
      refine ⟨by rw [p1, if_pos h0], ?_⟩
      rw [p2]; simp only [hsz, h0]; omega
    | some g =>
      rw [hget] at hg
      simp only [Option.getD_some] at hg
      subst hg
      have hgm := List.mem_of_find?_eq_some hget
      obtain ⟨_, hpos, _, _⟩ := okFl_parts (hsort.2 _ hgm)
      simp only at hpos
      obtain ⟨p1, p2⟩ := put_some_is (f := ⟨name, fb ++ b, s⟩) hsort.1 hget (by simp only; omega)
      refine ⟨by rw [p1, if_neg (by omega)]; rfl, ?_⟩
      simp only [hsz] at p2
      omega
  obtain ⟨q1, q2⟩ := hput
  constructor
  · intro hfull
    by_cases h64 : 64 < (put fs ⟨name, fb ++ b, s⟩).length
    · exact ⟨3, .inr rfl, by rw [hdo, if_pos h64]⟩
    · refine ⟨31, .inl rfl, ?_⟩
      rw [hdo, if_neg h64, if_pos]
      rcases hfull with h | ⟨h0, h1⟩
      · rw [q2]; push_cast; omega
      · exfalso; rw [q1, if_pos h0] at h64; omega
  · intro hfit
    refine ⟨?_, q2, get_put (by simp only; omega)⟩
    rw [hdo, if_neg, if_neg]
    · intro h
      apply hfit
      left
      rw [q2] at h
      push_cast at h
      omega
    · intro h
      rw [q1] at h
      split at h
      · rename_i h0
        exact hfit (.inr ⟨h0, by omega⟩)
      · omega
end Go.Proofs.YtpppeadmhfggkaaGreatDoor.DP

namespace Go.Proofs.YtpppeadmhfggkaaGreatDoor.DP

theorem put_sorted {fs : List Fl} {f : Fl} (h : Sorted fs) (hf : f.b.size = 0 ∨ okFl f = true) : Sorted (put fs f) := by
  obtain ⟨hp, hok⟩ := h
  have h1 : (fs.filter (fun x => ltS x.n f.n)).Pairwise (fun a b => ltS a.n b.n = true) := hp.filter _
  have h2 : (fs.filter (fun x => ltS f.n x.n)).Pairwise (fun a b => ltS a.n b.n = true) := hp.filter _
  have k1 : ∀ x ∈ fs.filter (fun x => ltS x.n f.n), ltS x.n f.n = true := fun x hx => (List.mem_filter.1 hx).2
  have k2 : ∀ x ∈ fs.filter (fun x => ltS f.n x.n), ltS f.n x.n = true := fun x hx => (List.mem_filter.1 hx).2
  refine ⟨?_, fun x hx => ?_⟩
  · unfold put
    rw [List.pairwise_append]
    refine ⟨h1, ?_, fun a ha b hb => ?_⟩
    · unfold opt
      split
      · simpa using h2
      · rw [List.singleton_append, List.pairwise_cons]
        exact ⟨k2, h2⟩
    · rw [List.mem_append] at hb
      rcases hb with hb | hb
      · unfold opt at hb
        split at hb
        · cases hb
        · rw [List.mem_singleton] at hb
          subst hb
          exact k1 a ha
      · exact ltS_trans (k1 a ha) (k2 b hb)
  · unfold put at hx
    rw [List.mem_append, List.mem_append] at hx
    rcases hx with hx | hx | hx
    · exact hok x (List.mem_filter.1 hx).1
    · unfold opt at hx
      split at hx
      · cases hx
      · rename_i hne
        rw [List.mem_singleton] at hx
        subst hx
        exact hf.resolve_left hne
    · exact hok x (List.mem_filter.1 hx).1

theorem changed_ok {f : Fl} {w : Wr} (hop : isOp w = true) (hn : f.n = w.file) (hs0 : 0 ≤ f.s) (hs1 : f.s ≤ f.b.size) (hb : 0 < f.b.size ∨ 0 < w.b.size) (hk : w.n ≤ f.b.size) : (changed f w).b.size = 0 ∨ okFl (changed f w) = true := by
  unfold isOp at hop
  rw [Bool.and_eq_true, Bool.and_eq_true, decide_eq_true_eq] at hop
  obtain ⟨⟨hname, hn0⟩, hop⟩ := hop
  have hname' : okName f.n = true := by rw [hn]; exact hname
  unfold changed
  by_cases h0 : w.op = 0
  · rw [if_pos (.inl h0), decide_eq_true_eq] at hop
    rw [if_pos h0]
    right
    exact okFl_mk hname' (by show 0 < (f.b ++ w.b).size; rw [ByteArray.size_append]; omega) hs0 (by show f.s ≤ ((f.b ++ w.b).size : Int); rw [ByteArray.size_append]; omega)
  by_cases h2 : w.op = 2
  · rw [if_pos (.inr h2), decide_eq_true_eq] at hop
    rw [if_neg h0, if_neg (by omega), if_pos h2]
    right
    exact okFl_mk hname' hop.1 (by show (0 : Int) ≤ (w.b.size : Int); omega) (Int.le_refl _)
  rw [if_neg (by omega)] at hop
  by_cases h1 : w.op = 1
  · rw [if_pos (.inl h1), decide_eq_true_eq] at hop
    rw [if_neg h0, if_pos h1]
    right
    exact okFl_mk hname' (by show 0 < f.b.size; omega) (by show (0 : Int) ≤ (f.b.size : Int); omega) (Int.le_refl _)
  by_cases h3 : w.op = 3
  · rw [if_neg h0, if_neg h1, if_neg h2, if_pos h3]
    have hsz : (f.b.extract 0 w.n.toNat).size = w.n.toNat := by rw [ByteArray.size_extract]; omega
    by_cases hz : w.n = 0
    · left
      show (f.b.extract 0 w.n.toNat).size = 0
      rw [hsz]; omega
    · right
      exact okFl_mk hname' (by show 0 < (f.b.extract 0 w.n.toNat).size; rw [hsz]; omega) hn0 (by show w.n ≤ ((f.b.extract 0 w.n.toNat).size : Int); rw [hsz]; omega)
  · rw [if_neg h0, if_neg h1, if_neg h2, if_neg h3]
    left
    rfl

theorem done_ok {d : Dk} {w : Wr} (hc : check d = true) (hop : isOp w = true) :
    (∃ r, (r = 32 ∨ r = 2 ∨ r = 3 ∨ r = 31) ∧ done d w = (noDisk, r)) ∨ (∃ fs, done d w = ({ d with fs := fs, left := if 0 < d.left then d.left - 1 else d.left }, 0) ∧ fs.length ≤ 64 ∧ (used fs : Int) ≤ d.cap ∧ Sorted fs) := by
  unfold done
  by_cases h1 : get d.fs w.file = none ∧ w.b.size = 0
  · rw [if_pos h1]; exact .inl ⟨32, by simp, rfl⟩
  rw [if_neg h1]
  simp only
  obtain ⟨f, hf⟩ : ∃ f : Fl, f = { ((get d.fs w.file).getD noFile) with n := w.file } := ⟨_, rfl⟩
  rw [← hf]
  have hfb : ((get d.fs w.file).getD noFile).b = f.b := by rw [hf]
  rw [hfb]
  by_cases h2 : (f.b.size : Int) < w.n
  · rw [if_pos h2]; exact .inl ⟨2, by simp, rfl⟩
  rw [if_neg h2]
  by_cases h3 : 64 < (put d.fs (changed f w)).length
  · rw [if_pos h3]; exact .inl ⟨3, by simp, rfl⟩
  rw [if_neg h3]
  by_cases h4 : d.cap < (used (put d.fs (changed f w)) : Int)
  · rw [if_pos h4]; exact .inl ⟨31, by simp, rfl⟩
  rw [if_neg h4]
  have hs := check_sorted hc
  refine .inr ⟨_, rfl, by omega, by omega, put_sorted hs ?_⟩
  cases hg : get d.fs w.file with
  | none =>
    rw [hg] at hf h1
    have hb : 0 < w.b.size := by
      rcases Nat.eq_zero_or_pos w.b.size with h | h
      · exact absurd ⟨rfl, h⟩ h1
      · exact h
    subst hf
    exact changed_ok hop rfl (by show (0 : Int) ≤ 0; omega) (by show (0 : Int) ≤ _; omega) (.inr hb) (by omega)
  | some g =>
    rw [hg] at hf
    have hgm := List.mem_of_find?_eq_some hg
    obtain ⟨_, p1, p2, p3⟩ := okFl_parts (hs.2 _ hgm)
    subst hf
    exact changed_ok hop rfl p2 p3 (.inl p1) (by omega)

/-- One operation on a valid disk that goes down after so many operations. -/
theorem left_step {d d' : Dk} {w : Wr} {r : Int} (hc : check d = true) (hl : 0 ≤ d.left) (hd : does d w = (d', r)) :
    (r ≠ 30 ∧ r ≠ 0) ∨ (r = 30 ∧ d.down = true ∧ d'.down = false) ∨ (r = 30 ∧ d.down = false ∧ d.left = 0 ∧ d' = { d with down := true } ∧ check d' = true) ∨ (r = 0 ∧ d.down = false ∧ 0 < d.left ∧ d'.left = d.left - 1 ∧ d'.down = false ∧ check d' = true) := by
  unfold does at hd
  by_cases h1 : check d = false ∨ isOp w = false
  · rw [if_pos h1] at hd
    injection hd with _ h2
    subst h2
    exact .inl (by omega)
  rw [if_neg h1] at hd
  have hop : isOp w = true := by
    cases h : isOp w
    · exact absurd (.inr h) h1
    · rfl
  by_cases h2 : d.down = true
  · rw [if_pos h2] at hd
    injection hd with e1 e2
    subst e1 e2
    exact .inr (.inl ⟨rfl, h2, rfl⟩)
  rw [if_neg h2] at hd
  have hdn : d.down = false := by simpa using h2
  by_cases h3 : d.left = 0
  · rw [if_pos h3] at hd
    injection hd with e1 e2
    subst e1 e2
    refine .inr (.inr (.inl ⟨rfl, hdn, h3, rfl, ?_⟩))
    obtain ⟨p1, p2, p3, p4, p5⟩ := check_parts hc
    exact check_mk p1 p2 p3 p4 p5
  rw [if_neg h3] at hd
  rcases done_ok hc hop with ⟨r', hr, hx⟩ | ⟨fs, hx, q1, q2, q3⟩
  · rw [hx] at hd
    injection hd with e1 e2
    subst e2
    exact .inl (by omega)
  · rw [hx] at hd
    injection hd with e1 e2
    subst e1 e2
    obtain ⟨p1, p2, p3, p4, p5⟩ := check_parts hc
    refine .inr (.inr (.inr ⟨rfl, hdn, by omega, ?_, hdn, check_mk q1 p2 p3 q2 (rises_sorted.2 q3)⟩))
    show (if 0 < d.left then d.left - 1 else d.left) = _
    rw [if_pos (by omega)]
end Go.Proofs.YtpppeadmhfggkaaGreatDoor.DP

namespace Go.Proofs.YtpppeadmhfggkaaGreatDoor.DP

theorem opt_filter_same (f : Fl) (p : Fl → Bool) (h : p f = true) : (opt f).filter p = opt f := by
  unfold opt
  split
  · rfl
  · rw [List.filter_cons_of_pos h]; rfl
theorem opt_filter_none (f : Fl) (p : Fl → Bool) (h : p f = false) : (opt f).filter p = [] := by
  unfold opt
  split
  · rfl
  · rw [List.filter_cons_of_neg (by rw [h]; simp)]; rfl
/-- What lies below one name and above a smaller one. -/
theorem put_lt (fs : List Fl) (f g : Fl) (h : ltS f.n g.n = true) : put (put fs f) g = fs.filter (fun x => ltS x.n f.n) ++ (opt f ++ (fs.filter (fun x => ltS f.n x.n && ltS x.n g.n) ++ (opt g ++ fs.filter (fun x => ltS g.n x.n)))) := by
  have e1 : (fs.filter (fun x => ltS x.n f.n)).filter (fun x => ltS x.n g.n) = fs.filter (fun x => ltS x.n f.n) := by
    rw [List.filter_eq_self]
    intro x hx
    exact ltS_trans (List.mem_filter.1 hx).2 h
  have e2 : (fs.filter (fun x => ltS x.n f.n)).filter (fun x => ltS g.n x.n) = [] := by
    rw [List.filter_eq_nil_iff]
    intro x hx hn
    have := ltS_trans (List.mem_filter.1 hx).2 h
    rw [ltS_asymm this] at hn; cases hn
  have e3 : (fs.filter (fun x => ltS f.n x.n)).filter (fun x => ltS x.n g.n) = fs.filter (fun x => ltS f.n x.n && ltS x.n g.n) := by
    rw [List.filter_filter]
    congr 1
    funext x
    rw [Bool.and_comm]
  have e4 : (fs.filter (fun x => ltS f.n x.n)).filter (fun x => ltS g.n x.n) = fs.filter (fun x => ltS g.n x.n) := by
    rw [List.filter_filter]
    congr 1
    funext x
    cases hg : ltS g.n x.n
    · rfl
    · rw [ltS_trans h hg]; rfl
  unfold put
  rw [List.filter_append, List.filter_append, List.filter_append, List.filter_append, e1, e2, e3, e4, opt_filter_same f _ h, opt_filter_none f _ (ltS_asymm h)]
  simp only [List.append_assoc, List.nil_append]
theorem put_gt (fs : List Fl) (f g : Fl) (h : ltS f.n g.n = true) : put (put fs g) f = fs.filter (fun x => ltS x.n f.n) ++ (opt f ++ (fs.filter (fun x => ltS f.n x.n && ltS x.n g.n) ++ (opt g ++ fs.filter (fun x => ltS g.n x.n)))) := by
  have e1 : (fs.filter (fun x => ltS x.n g.n)).filter (fun x => ltS x.n f.n) = fs.filter (fun x => ltS x.n f.n) := by
    rw [List.filter_filter]
    congr 1
    funext x
    cases hf : ltS x.n f.n
    · rfl
    · rw [ltS_trans hf h]; rfl
  have e2 : (fs.filter (fun x => ltS x.n g.n)).filter (fun x => ltS f.n x.n) = fs.filter (fun x => ltS f.n x.n && ltS x.n g.n) := by
    rw [List.filter_filter]
  have e3 : (fs.filter (fun x => ltS g.n x.n)).filter (fun x => ltS x.n f.n) = [] := by
    rw [List.filter_eq_nil_iff]
    intro x hx hn
    have := ltS_trans h (List.mem_filter.1 hx).2
    rw [ltS_asymm this] at hn; cases hn
  have e4 : (fs.filter (fun x => ltS g.n x.n)).filter (fun x => ltS f.n x.n) = fs.filter (fun x => ltS g.n x.n) := by
    rw [List.filter_eq_self]
    intro x hx
    exact ltS_trans h (List.mem_filter.1 hx).2
  unfold put
  rw [List.filter_append, List.filter_append, List.filter_append, List.filter_append, e1, e2, e3, e4, opt_filter_same g (fun x => ltS f.n x.n) h, opt_filter_none g _ (ltS_asymm h)]
  simp only [List.append_assoc, List.nil_append]
theorem put_comm (fs : List Fl) (f g : Fl) (h : f.n ≠ g.n) : put (put fs f) g = put (put fs g) f := by
  rcases ltS_total h with h | h
  · rw [put_lt fs f g h, put_gt fs f g h]
  · rw [put_lt fs g f h, put_gt fs g f h]
theorem get_filter {fs : List Fl} {n : ByteArray} {p : Fl → Bool} (h : ∀ x, x.n = n → p x = true) : DP.get (fs.filter p) n = DP.get fs n := by
  unfold DP.get
  rw [List.find?_filter]
  congr 1
  funext x
  cases he : eqS x.n n
  · simp
  · simp [h x (eqS_iff.1 he)]
/-- Another file is not touched. -/
theorem get_put_other {fs : List Fl} {f : Fl} {n : ByteArray} (h : f.n ≠ n) : DP.get (put fs f) n = DP.get fs n := by
  have ho : DP.get (opt f) n = none := by
    unfold DP.get opt
    split
    · rfl
    · rw [List.find?_cons_of_neg (by rw [eqS_not.2 h]; simp)]; rfl
  have hn : ∀ (l : List Fl) (p : Fl → Bool), (∀ x, x.n = n → p x = false) → DP.get (l.filter p) n = none := by
    intro l p hp
    unfold DP.get
    rw [List.find?_eq_none]
    intro x hx he
    have := (List.mem_filter.1 hx).2
    rw [hp x (eqS_iff.1 he)] at this
    cases this
  have happ : ∀ a b : List Fl, DP.get (a ++ b) n = (DP.get a n).or (DP.get b n) := fun a b => by unfold DP.get; exact List.find?_append
  unfold put
  rw [happ, happ, ho, Option.none_or]
  rcases ltS_total h with h1 | h1
  · rw [hn fs (fun x => ltS x.n f.n) (fun x hx => by rw [hx]; exact ltS_asymm h1), Option.none_or]
    exact get_filter fun x hx => by rw [hx]; exact h1
  · rw [hn fs (fun x => ltS f.n x.n) (fun x hx => by rw [hx]; exact ltS_asymm h1), Option.or_none]
    exact get_filter fun x hx => by rw [hx]; exact h1
end Go.Proofs.YtpppeadmhfggkaaGreatDoor.DP

namespace Go.Proofs.YtpppeadmhfggkaaGreatDoor.DP

/-- The file that an operation is about, as it is before. -/
def about (fs : List Fl) (w : Wr) : Fl := { ((get fs w.file).getD noFile) with n := w.file }
theorem about_congr {fs gs : List Fl} {w : Wr} (h : get fs w.file = get gs w.file) : about fs w = about gs w := by
  unfold about
  rw [h]
theorem changed_n (f : Fl) (w : Wr) : (changed f w).n = f.n := by
  unfold changed
  split
  · rfl
  split
  · rfl
  split
  · rfl
  split
  · rfl
  · rfl
theorem changed_size (f : Fl) (w : Wr) : (changed f w).b.size ≤ f.b.size + w.b.size := by
  unfold changed
  split
  · show (f.b ++ w.b).size ≤ _
    rw [ByteArray.size_append]; omega
  split
  · show f.b.size ≤ _; omega
  split
  · show w.b.size ≤ _; omega
  split
  · show (f.b.extract 0 w.n.toNat).size ≤ _
    rw [ByteArray.size_extract]; omega
  · show (0 : Nat) ≤ _; omega
theorem used_opt (f : Fl) : used (opt f) = f.b.size := by
  unfold opt
  split
  · rename_i h; rw [h]; rfl
  · rfl
theorem used_put {fs : List Fl} {f : Fl} (h : Sorted fs) : used (put fs f) + ((get fs f.n).getD noFile).b.size = used fs + f.b.size := by
  have e : used (put fs f) = used (fs.filter (fun x => ltS x.n f.n)) + (f.b.size + used (fs.filter (fun x => ltS f.n x.n))) := by
    unfold put
    rw [used_append, used_append, used_opt]
  cases hg : get fs f.n with
  | none =>
    have h2 : used fs = used (fs.filter (fun x => ltS x.n f.n)) + used (fs.filter (fun x => ltS f.n x.n)) := by
      conv => lhs; rw [sorted_none h.1 hg]
      rw [used_append]
    have h0 : ((none : Option Fl).getD noFile).b.size = 0 := rfl
    rw [h0]; omega
  | some g =>
    obtain ⟨_, hs⟩ := sorted_some h.1 hg
    have h2 : used fs = used (fs.filter (fun x => ltS x.n f.n)) + (g.b.size + used (fs.filter (fun x => ltS f.n x.n))) := by
      conv => lhs; rw [hs]
      rw [used_append, used_cons]
    show used (put fs f) + g.b.size = _
    omega
theorem used_done {fs : List Fl} {w : Wr} (h : Sorted fs) : used (put fs (changed (about fs w) w)) ≤ used fs + w.b.size := by
  have hn : (changed (about fs w) w).n = w.file := changed_n _ _
  have hu := used_put (f := changed (about fs w) w) h
  have hs := changed_size (about fs w) w
  rw [hn] at hu
  have hb : (about fs w).b.size = ((get fs w.file).getD noFile).b.size := rfl
  omega

theorem done_is (d : Dk) (w : Wr) : done d w = if get d.fs w.file = none ∧ w.b.size = 0 then (noDisk, 32) else if ((about d.fs w).b.size : Int) < w.n then (noDisk, 2) else
    if 64 < (put d.fs (changed (about d.fs w) w)).length then (noDisk, 3) else if d.cap < (used (put d.fs (changed (about d.fs w) w)) : Int) then (noDisk, 31) else
      ({ d with fs := put d.fs (changed (about d.fs w) w), left := if 0 < d.left then d.left - 1 else d.left }, 0) := rfl
theorem does_ok {d d' : Dk} {w : Wr} (hl : d.left < 0) (h : does d w = (d', 0)) :
    check d = true ∧ isOp w = true ∧ d.down = false ∧ ¬ (get d.fs w.file = none ∧ w.b.size = 0) ∧ ¬ ((about d.fs w).b.size : Int) < w.n ∧ d' = { d with fs := put d.fs (changed (about d.fs w) w) } := by
  unfold does at h
  by_cases h1 : check d = false ∨ isOp w = false
  · rw [if_pos h1] at h; injection h with _ h; cases h
  rw [if_neg h1] at h
  by_cases h2 : d.down = true
  · rw [if_pos h2] at h; injection h with _ h; cases h
  rw [if_neg h2, if_neg (by omega), done_is] at h
  by_cases h3 : get d.fs w.file = none ∧ w.b.size = 0
  · rw [if_pos h3] at h; injection h with _ h; cases h
  rw [if_neg h3] at h
  by_cases h4 : ((about d.fs w).b.size : Int) < w.n
  · rw [if_pos h4] at h; injection h with _ h; cases h
  rw [if_neg h4] at h
  by_cases h5 : 64 < (put d.fs (changed (about d.fs w) w)).length
  · rw [if_pos h5] at h; injection h with _ h; cases h
  rw [if_neg h5] at h
  by_cases h6 : d.cap < (used (put d.fs (changed (about d.fs w) w)) : Int)
  · rw [if_pos h6] at h; injection h with _ h; cases h
  rw [if_neg h6, if_neg (show ¬ 0 < d.left by omega)] at h
  injection h with h _
  refine ⟨?_, ?_, by simpa using h2, h3, h4, h.symm⟩
  · cases hc : check d
    · exact absurd (.inl hc) h1
    · rfl
  · cases hc : isOp w
    · exact absurd (.inr hc) h1
    · rfl
theorem does_mk {d : Dk} {w : Wr} (hc : check d = true) (hop : isOp w = true) (hd : d.down = false) (hl : d.left < 0) (h3 : ¬ (get d.fs w.file = none ∧ w.b.size = 0)) (h4 : ¬ ((about d.fs w).b.size : Int) < w.n)
    (h5 : (put d.fs (changed (about d.fs w) w)).length ≤ 64) (h6 : (used (put d.fs (changed (about d.fs w) w)) : Int) ≤ d.cap) : does d w = ({ d with fs := put d.fs (changed (about d.fs w) w) }, 0) := by
  unfold does
  rw [if_neg (by rw [hc, hop]; simp), if_neg (by rw [hd]; simp), if_neg (by omega), done_is, if_neg h3, if_neg h4, if_neg (by omega), if_neg (by omega), if_neg (show ¬ 0 < d.left by omega)]

theorem about_ok {fs : List Fl} {w : Wr} (hs : Sorted fs) (hop : isOp w = true) (h3 : ¬ (get fs w.file = none ∧ w.b.size = 0)) (h4 : ¬ ((about fs w).b.size : Int) < w.n) : (changed (about fs w) w).b.size = 0 ∨ okFl (changed (about fs w) w) = true := by
  unfold about at h4 ⊢
  cases hg : get fs w.file with
  | none =>
    rw [hg] at h3 h4
    have hb : 0 < w.b.size := by
      rcases Nat.eq_zero_or_pos w.b.size with h | h
      · exact absurd ⟨rfl, h⟩ h3
      · exact h
    exact changed_ok hop rfl (by show (0 : Int) ≤ 0; omega) (by show (0 : Int) ≤ _; omega) (.inr hb) (by omega)
  | some g =>
    rw [hg] at h4
    obtain ⟨_, p1, p2, p3⟩ := okFl_parts (hs.2 _ (List.mem_of_find?_eq_some hg))
    exact changed_ok hop rfl p2 p3 (.inl p1) (by omega)

/-- Either order comes to the same disk. -/
theorem apart {fs : List Fl} {cap left : Int} {v w : Wr} {a b : Dk} (hl : left < 0) (hn : fs.length ≤ 62) (hu : (used fs : Int) + v.b.size + w.b.size ≤ cap) (hvw : v.file ≠ w.file)
    (ha : does ⟨fs, cap, left, false⟩ v = (a, 0)) (hb : does ⟨fs, cap, left, false⟩ w = (b, 0)) :
    ∃ fa fb fx, a = ⟨fa, cap, left, false⟩ ∧ b = ⟨fb, cap, left, false⟩ ∧ does a w = (⟨fx, cap, left, false⟩, 0) ∧ does b v = (⟨fx, cap, left, false⟩, 0) ∧ Small fa ∧ Small fb ∧ fx.length ≤ 100 := by
  obtain ⟨hc, hop1, _, h3, h4, rfl⟩ := does_ok (by exact hl) ha
  obtain ⟨_, hop2, _, k3, k4, rfl⟩ := does_ok (by exact hl) hb
  simp only at h3 h4 k3 k4
  have hs : Sorted fs := check_sorted hc
  have nv : (changed (about fs v) v).n = v.file := changed_n _ _
  have nw : (changed (about fs w) w).n = w.file := changed_n _ _
  have u1 := used_done (w := v) hs
  have u2 := used_done (w := w) hs
  have l1 := put_length fs (changed (about fs v) v)
  have l2 := put_length fs (changed (about fs w) w)
  obtain ⟨_, p2, p3, _, _⟩ := check_parts hc
  simp only at p2 p3
  have okv : (changed (about fs v) v).b.size = 0 ∨ okFl (changed (about fs v) v) = true := about_ok hs hop1 h3 h4
  have okw : (changed (about fs w) w).b.size = 0 ∨ okFl (changed (about fs w) w) = true := about_ok hs hop2 k3 k4
  have s1 := put_sorted hs okv
  have s2 := put_sorted hs okw
  have c1 : check ⟨put fs (changed (about fs v) v), cap, left, false⟩ = true := check_mk (by simp only; omega) p2 p3 (by simp only; omega) (rises_sorted.2 s1)
  have c2 : check ⟨put fs (changed (about fs w) w), cap, left, false⟩ = true := check_mk (by simp only; omega) p2 p3 (by simp only; omega) (rises_sorted.2 s2)
  have g1 : get (put fs (changed (about fs v) v)) w.file = get fs w.file := get_put_other (by rw [nv]; exact hvw)
  have g2 : get (put fs (changed (about fs w) w)) v.file = get fs v.file := get_put_other (by rw [nw]; exact fun e => hvw e.symm)
  have a1 : about (put fs (changed (about fs v) v)) w = about fs w := about_congr g1
  have a2 : about (put fs (changed (about fs w) w)) v = about fs v := about_congr g2
  have v1 := used_done (w := w) s1
  have v2 := used_done (w := v) s2
  have m1 := put_length (put fs (changed (about fs v) v)) (changed (about fs w) w)
  have m2 := put_length (put fs (changed (about fs w) w)) (changed (about fs v) v)
  rw [a1] at v1
  rw [a2] at v2
  refine ⟨_, _, put (put fs (changed (about fs v) v)) (changed (about fs w) w), rfl, rfl, ?_, ?_, check_small c1, check_small c2, by omega⟩
  · have h := does_mk (d := ⟨put fs (changed (about fs v) v), cap, left, false⟩) (w := w) c1 hop2 rfl hl (by simp only [g1]; exact k3) (by simp only [a1]; exact k4) (by simp only [a1]; omega) (by simp only [a1]; omega)
    rw [h]
    simp only [a1]
  · have h := does_mk (d := ⟨put fs (changed (about fs w) w), cap, left, false⟩) (w := v) c2 hop1 rfl hl (by simp only [g2]; exact h3) (by simp only [a2]; exact h4) (by simp only [a2]; omega) (by simp only [a2]; omega)
    rw [h]
    simp only [a2]
    rw [put_comm _ _ _ (by rw [nv, nw]; exact fun e => hvw e.symm)]
end Go.Proofs.YtpppeadmhfggkaaGreatDoor.DP

namespace Go.Proofs.YtpppeadmhfggkaaGreatDoor.DP

/-- One turn of the reference's with: what is out so far, and whether the file has had its place. -/
def wstep (f : Fl) (s : List Fl × Bool) (x : Fl) : List Fl × Bool :=
  ((if !ltS x.n f.n && !s.2 then s.1 ++ opt f else s.1) ++ (if eqS x.n f.n then [] else [x]), s.2 || !ltS x.n f.n)
def wfold (f : Fl) (fs : List Fl) : List Fl × Bool := fs.foldl (wstep f) ([], false)
theorem wfold_step {f : Fl} {fs : List Fl} {k : Nat} {x : Fl} (h : fs[k]? = some x) : wfold f (fs.take (k + 1)) = wstep f (wfold f (fs.take k)) x := by
  obtain ⟨hk, hf⟩ := List.getElem?_eq_some_iff.1 h
  unfold wfold
  rw [List.take_succ_eq_append_getElem hk, List.foldl_append, hf]
  rfl
theorem wfold_done (f : Fl) (o : List Fl) (r : List Fl) (h : ∀ x ∈ r, ltS f.n x.n = true) : r.foldl (wstep f) (o, true) = (o ++ r, true) := by
  induction r generalizing o with
  | nil => simp
  | cons x r ih =>
    have hx := h x (List.mem_cons_self ..)
    have e : wstep f (o, true) x = (o ++ [x], true) := by
      have hne : eqS x.n f.n = false := eqS_not.2 fun e => ltS_ne hx e.symm
      unfold wstep
      simp [hne]
    rw [List.foldl_cons, e, ih _ fun y hy => h y (List.mem_cons_of_mem _ hy)]
    simp
theorem wfold_gen (f : Fl) (o : List Fl) (r : List Fl) (h : r.Pairwise (fun a b => ltS a.n b.n = true)) :
    r.foldl (wstep f) (o, false) = (o ++ (r.filter (fun x => ltS x.n f.n) ++ ((if r.any (fun x => !ltS x.n f.n) then opt f else []) ++ r.filter (fun x => ltS f.n x.n))), r.any (fun x => !ltS x.n f.n)) := by
  induction r generalizing o with
  | nil => simp
  | cons x r ih =>
    rw [List.pairwise_cons] at h
    rw [List.foldl_cons]
    cases hx : ltS x.n f.n
    · have hgt : ∀ y ∈ r, ltS f.n y.n = true := by
        intro y hy
        by_cases he : x.n = f.n
        · rw [← he]; exact h.1 y hy
        · rcases ltS_total he with h1 | h1
          · rw [hx] at h1; cases h1
          · exact ltS_trans h1 (h.1 y hy)
      have f1 : r.filter (fun x => ltS x.n f.n) = [] := by
        rw [List.filter_eq_nil_iff]
        intro y hy hn
        rw [ltS_asymm (hgt y hy)] at hn; cases hn
      have f2 : r.filter (fun x => ltS f.n x.n) = r := by
        rw [List.filter_eq_self]
        exact hgt
      have e : wstep f (o, false) x = ((o ++ opt f) ++ (if eqS x.n f.n then [] else [x]), true) := by
        unfold wstep
        simp [hx]
      rw [e, wfold_done f _ r hgt, List.filter_cons_of_neg (by simp [hx]), f1, List.any_cons, hx]
      cases he : eqS x.n f.n
      · have h1 : ltS f.n x.n = true := by
          rcases ltS_total (eqS_not.1 he) with h1 | h1
          · rw [hx] at h1; cases h1
          · exact h1
        rw [List.filter_cons_of_pos (by simpa using h1), f2]
        simp
      · have h1 : ltS f.n x.n = false := by rw [eqS_iff.1 he]; exact ltS_irrefl _
        rw [List.filter_cons_of_neg (by simp [h1]), f2]
        simp
    · have hne : eqS x.n f.n = false := eqS_not.2 (ltS_ne hx)
      have e : wstep f (o, false) x = (o ++ [x], false) := by
        unfold wstep
        simp [hx, hne]
      rw [e, ih _ h.2, List.filter_cons_of_pos (by simpa using hx), List.filter_cons_of_neg (by simp [ltS_asymm hx]), List.any_cons, hx]
      simp
/-- The reference's with, whole: at files in order it is put. -/
theorem wfold_put {f : Fl} {fs : List Fl} (h : fs.Pairwise (fun a b => ltS a.n b.n = true)) :
    (if (wfold f fs).2 then (wfold f fs).1 else (wfold f fs).1 ++ opt f) = put fs f := by
  unfold wfold
  rw [wfold_gen f [] fs h]
  simp only [List.nil_append]
  cases ha : fs.any (fun x => !ltS x.n f.n)
  · have f2 : fs.filter (fun x => ltS f.n x.n) = [] := by
      rw [List.filter_eq_nil_iff]
      intro y hy hn
      have := List.any_eq_false.1 ha y hy
      rw [ltS_asymm hn] at this
      simp at this
    unfold put
    rw [f2]
    simp
  · unfold put
    simp
theorem wfold_length (f : Fl) (fs : List Fl) (k : Nat) : (wfold f (fs.take k)).1.length ≤ 2 * k := by
  induction k with
  | zero => simp [wfold]
  | succ k ih =>
    by_cases hk : k < fs.length
    · rw [wfold_step (List.getElem?_eq_getElem hk)]
      have h1 := opt_length f
      generalize wfold f (fs.take k) = s at *
      obtain ⟨o, d⟩ := s
      simp only at ih
      have h2 : (if eqS fs[k].n f.n then ([] : List Fl) else [fs[k]]).length ≤ 1 := by split <;> simp
      have h3 : (if !ltS fs[k].n f.n && !d then o ++ opt f else o).length ≤ o.length + 1 := by
        split
        · rw [List.length_append]; omega
        · omega
      unfold wstep
      simp only [List.length_append]
      omega
    · rw [List.take_of_length_le (by omega)]
      rw [List.take_of_length_le (by omega)] at ih
      omega

/-- Check with the file ahead at hand: the first place has none. -/
theorem rises_at (fs : List Fl) (k : Nat) : rises none_ fs = true → ∀ f, fs[k]? = some f → okFl f = true ∧ ∀ g, 0 < k → fs[k - 1]? = some g → ltS g.n f.n = true := by
  intro h f hf
  obtain ⟨h1, h2⟩ := rises_sorted.1 h
  refine ⟨h2 f (List.mem_of_getElem? hf), fun g hk hg => ?_⟩
  obtain ⟨a, ha⟩ := List.getElem?_eq_some_iff.1 hf
  obtain ⟨b, hb⟩ := List.getElem?_eq_some_iff.1 hg
  have := List.pairwise_iff_getElem.1 h1 (k - 1) k b a (by omega)
  rw [ha, hb] at this
  exact this
/-- So far each file is valid and behind the one ahead. -/
def upTo (fs : List Fl) (k : Nat) : Prop := ∀ i f, i < k → fs[i]? = some f → okFl f = true ∧ ∀ g, 0 < i → fs[i - 1]? = some g → ltS g.n f.n = true
theorem upTo_next {fs : List Fl} {k : Nat} {f : Fl} (h : upTo fs k) (hf : fs[k]? = some f) (ho : okFl f = true) (hg : ∀ g, 0 < k → fs[k - 1]? = some g → ltS g.n f.n = true) : upTo fs (k + 1) := by
  intro i x hi hx
  by_cases hik : i < k
  · exact h i x hik hx
  · obtain rfl : i = k := by omega
    rw [hf] at hx
    injection hx with hx
    subst hx
    exact ⟨ho, hg⟩
theorem pw_of_next : ∀ (fs : List Fl), (∀ i (h : i + 1 < fs.length), ltS (fs[i]'(by omega)).n fs[i + 1].n = true) → fs.Pairwise (fun a b => ltS a.n b.n = true)
  | [], _ => List.Pairwise.nil
  | [x], _ => List.pairwise_singleton _ _
  | x :: y :: r, h => by
    have ih := pw_of_next (y :: r) (fun i hi => by
      have := h (i + 1) (by simpa using hi)
      simpa using this)
    have h0 : ltS x.n y.n = true := h 0 (by simp)
    refine List.Pairwise.cons (fun z hz => ?_) ih
    rcases List.mem_cons.1 hz with rfl | hz
    · exact h0
    · exact ltS_trans h0 ((List.pairwise_cons.1 ih).1 z hz)
theorem upTo_all {fs : List Fl} (h : upTo fs fs.length) : rises none_ fs = true := by
  refine rises_sorted.2 ⟨pw_of_next fs fun i hi => ?_, fun f hf => ?_⟩
  · have := (h (i + 1) fs[i + 1] hi (List.getElem?_eq_getElem hi)).2 fs[i] (by omega) (by rw [Nat.add_sub_cancel]; exact List.getElem?_eq_getElem (by omega))
    exact this
  · obtain ⟨i, hi⟩ := List.mem_iff_getElem?.1 hf
    exact (h i f (List.getElem?_eq_some_iff.1 hi).1 hi).1

theorem sameF_self (f : Fl) : sameF f f = true := by
  unfold sameF
  rw [eqS_self, eqS_self]
  simp
theorem sameFs_self (fs : List Fl) : sameFs fs fs = true := by
  induction fs with
  | nil => rfl
  | cons x r ih => unfold sameFs; rw [sameF_self, ih]; rfl
theorem same_self_ (d : Dk) : same d d = true := by
  unfold same
  rw [sameFs_self]
  simp
theorem sameFs_length {a b : List Fl} (h : sameFs a b = true) : a.length = b.length := by
  induction a generalizing b with
  | nil => cases b with
    | nil => rfl
    | cons y t => cases h
  | cons x r ih => cases b with
    | nil => cases h
    | cons y t =>
      unfold sameFs at h
      rw [Bool.and_eq_true] at h
      simp [ih h.2]
theorem sameFs_step {a b : List Fl} {k : Nat} {f g : Fl} (h1 : a[k]? = some f) (h2 : b[k]? = some g) : sameFs (a.drop k) (b.drop k) = (sameF f g && sameFs (a.drop (k + 1)) (b.drop (k + 1))) := by
  obtain ⟨x1, e1⟩ := List.getElem?_eq_some_iff.1 h1
  obtain ⟨x2, e2⟩ := List.getElem?_eq_some_iff.1 h2
  rw [List.drop_eq_getElem_cons x1, List.drop_eq_getElem_cons x2, e1, e2]
  rfl
theorem sameFs_end {a b : List Fl} {k : Nat} (h1 : a.length ≤ k) (h2 : b.length ≤ k) : sameFs (a.drop k) (b.drop k) = true := by
  rw [List.drop_of_length_le h1, List.drop_of_length_le h2]; rfl
theorem sameFs_other {a b : List Fl} (h : a.length ≠ b.length) : sameFs a b = false := by
  cases hs : sameFs a b
  · rfl
  · exact absurd (sameFs_length hs) h
end Go.Proofs.YtpppeadmhfggkaaGreatDoor.DP

namespace Go.Proofs.YtpppeadmhfggkaaGreatDoor.DP

/-- A disk that may be, its Left within a machine's numbers. -/
def Fine (d : Dk) : Prop := check d = true ∧ -9223372036854775808 ≤ d.left ∧ d.left ≤ 9223372036854775807
theorem fine_none : Fine noDisk := ⟨by decide, by decide, by decide⟩
theorem fine_does {d d' : Dk} {w : Wr} {r : Int} (h : Fine d) (hd : does d w = (d', r)) : Fine d' := by
  unfold does at hd
  by_cases h1 : check d = false ∨ isOp w = false
  · rw [if_pos h1] at hd; injection hd with hd _; rw [← hd]; exact fine_none
  rw [if_neg h1] at hd
  have hop : isOp w = true := by
    cases hh : isOp w
    · exact absurd (.inr hh) h1
    · rfl
  by_cases h2 : d.down = true
  · rw [if_pos h2] at hd; injection hd with hd _; rw [← hd]; exact fine_none
  rw [if_neg h2] at hd
  by_cases h3 : d.left = 0
  · rw [if_pos h3] at hd; injection hd with hd _; rw [← hd]; exact h
  rw [if_neg h3, done_is] at hd
  by_cases h4 : get d.fs w.file = none ∧ w.b.size = 0
  · rw [if_pos h4] at hd; injection hd with hd _; rw [← hd]; exact fine_none
  rw [if_neg h4] at hd
  by_cases h5 : ((about d.fs w).b.size : Int) < w.n
  · rw [if_pos h5] at hd; injection hd with hd _; rw [← hd]; exact fine_none
  rw [if_neg h5] at hd
  by_cases h6 : 64 < (put d.fs (changed (about d.fs w) w)).length
  · rw [if_pos h6] at hd; injection hd with hd _; rw [← hd]; exact fine_none
  rw [if_neg h6] at hd
  by_cases h7 : d.cap < (used (put d.fs (changed (about d.fs w) w)) : Int)
  · rw [if_pos h7] at hd; injection hd with hd _; rw [← hd]; exact fine_none
  rw [if_neg h7] at hd
  injection hd with hd _
  obtain ⟨_, p2, p3, _, _⟩ := check_parts h.1
  have hs := check_sorted h.1
  have hsp := put_sorted hs (about_ok hs hop h4 h5)
  have hl := h.2
  rw [← hd]
  refine ⟨check_mk (by simp only; omega) p2 p3 (by simp only; omega) (rises_sorted.2 hsp), ?_, ?_⟩
  · simp only; split <;> omega
  · simp only; split <;> omega
theorem fine_arm {d d' : Dk} {k r : Int} (h : Fine d) (hk : k ≤ 9223372036854775807) (hd : arm d k = (d', r)) : Fine d' := by
  unfold arm at hd
  rw [if_neg (by rw [h.1]; simp)] at hd
  injection hd with hd _
  rw [← hd]
  obtain ⟨p1, p2, p3, p4, p5⟩ := check_parts h.1
  exact ⟨check_mk p1 p2 p3 p4 p5, by simp only; omega, by simp only; omega⟩
theorem left_name (f : Fl) (o : Option Int) : (left f o).n = f.n := rfl
theorem left_fits {f : Fl} (o : Option Int) (h : okFl f = true) : (left f o).b.size ≤ f.b.size ∧ (0 < (left f o).b.size → okFl (left f o) = true) := by
  obtain ⟨h1, _, h3, h4⟩ := okFl_parts h
  obtain ⟨v, hv⟩ : ∃ v : Int, v = f.s + (match o with | none => (0 : Int) | some k => min (max k 0) (f.b.size - f.s)) := ⟨_, rfl⟩
  have e : left f o = { f with b := f.b.extract 0 v.toNat, s := v } := by rw [hv]; rfl
  have hv0 : 0 ≤ v ∧ v ≤ f.b.size := by
    rw [hv]
    cases o with
    | none => simp only; omega
    | some k => simp only; omega
  have hsz : (f.b.extract 0 v.toNat).size = v.toNat := by rw [ByteArray.size_extract]; omega
  rw [e]
  refine ⟨by simp only [hsz]; omega, fun hp => okFl_mk h1 hp hv0.1 ?_⟩
  simp only [hsz]; omega
theorem lefts_ok (fs : List Fl) (ks : List Int) (h : fs.Pairwise (fun a b => ltS a.n b.n = true)) (ho : ∀ f ∈ fs, okFl f = true) :
    (lefts fs ks).Pairwise (fun a b => ltS a.n b.n = true) ∧ (∀ f ∈ lefts fs ks, 0 < f.b.size → okFl f = true) ∧ used (lefts fs ks) ≤ used fs ∧ (∀ f ∈ lefts fs ks, ∃ g ∈ fs, f.n = g.n) ∧ (lefts fs ks).length = fs.length := by
  induction fs generalizing ks with
  | nil => exact ⟨List.Pairwise.nil, (fun f hf => by cases hf), Nat.le_refl _, (fun f hf => by cases hf), rfl⟩
  | cons x r ih =>
    rw [List.pairwise_cons] at h
    have hx := ho x (List.mem_cons_self ..)
    have one : ∀ (o : Option Int) (t : List Int), (left x o :: lefts r t).Pairwise (fun a b => ltS a.n b.n = true) ∧ (∀ f ∈ left x o :: lefts r t, 0 < f.b.size → okFl f = true) ∧ used (left x o :: lefts r t) ≤ used (x :: r) ∧ (∀ f ∈ left x o :: lefts r t, ∃ g ∈ x :: r, f.n = g.n) ∧ (left x o :: lefts r t).length = (x :: r).length := by
      intro o t
      obtain ⟨a1, a2, a3, a4, a5⟩ := ih t h.2 (fun f hf => ho f (List.mem_cons_of_mem _ hf))
      obtain ⟨b1, b2⟩ := left_fits o hx
      refine ⟨List.Pairwise.cons (fun y hy => ?_) a1, fun f hf => ?_, by simp only [used]; omega, fun f hf => ?_, by simp only [List.length_cons, a5]⟩
      · obtain ⟨g, hg, e⟩ := a4 y hy
        rw [left_name, e]
        exact h.1 g hg
      · rcases List.mem_cons.1 hf with rfl | hf
        · exact b2
        · exact a2 f hf
      · rcases List.mem_cons.1 hf with rfl | hf
        · exact ⟨x, List.mem_cons_self .., rfl⟩
        · obtain ⟨g, hg, e⟩ := a4 f hf
          exact ⟨g, List.mem_cons_of_mem _ hg, e⟩
    cases ks with
    | nil => exact one none []
    | cons y t => exact one (some y) t
theorem used_filter (fs : List Fl) (p : Fl → Bool) : used (fs.filter p) ≤ used fs := by
  induction fs with
  | nil => exact Nat.le_refl _
  | cons x r ih =>
    cases h : p x
    · rw [List.filter_cons_of_neg (by simp [h])]; simp only [used]; omega
    · rw [List.filter_cons_of_pos h]; simp only [used]; omega
theorem fine_crash {d d' : Dk} {ks : List Int} {r : Int} (h : Fine d) (hd : crash d ks = (d', r)) : Fine d' := by
  unfold crash at hd
  rw [if_neg (by rw [h.1]; simp)] at hd
  injection hd with hd _
  rw [← hd]
  obtain ⟨p1, p2, p3, p4, p5⟩ := check_parts h.1
  have hs := check_sorted h.1
  obtain ⟨a1, a2, a3, _, a5⟩ := lefts_ok d.fs ks hs.1 hs.2
  have hl := List.length_filter_le (fun f : Fl => decide (0 < f.b.size)) (lefts d.fs ks)
  have hu := used_filter (lefts d.fs ks) (fun f : Fl => decide (0 < f.b.size))
  refine ⟨check_mk (by simp only; omega) p2 p3 (by simp only; omega) (rises_sorted.2 ⟨a1.filter _, fun f hf => ?_⟩), by simp only; omega, by simp only; omega⟩
  obtain ⟨hm, hp⟩ := List.mem_filter.1 hf
  exact a2 f hm (by simpa using hp)
theorem fine_new {k : Int} {d' : Dk} {r : Int} (hd : new k = (d', r)) : Fine d' := by
  unfold new at hd
  by_cases h : k < 0 ∨ 65536 < k
  · rw [if_pos h] at hd; injection hd with hd _; rw [← hd]; exact fine_none
  · rw [if_neg h] at hd; injection hd with hd _; rw [← hd]
    exact ⟨check_mk (by simp) (by simp only; omega) (by simp only; omega) (by simp [used]; omega) rfl, by simp, by simp⟩

/-- One act of a script. -/
structure Ac where
  act : Int
  w : Wr
  keep : List Int
  n : Int
/-- What an act's own function hands back. -/
def acts (d : Dk) (x : Ac) : Dk × Int := if x.act = 0 then does d x.w else if x.act = 1 then crash d x.keep else if x.act = 2 then arm d x.n else (d, 0)
/-- A disk behind an act: as it was, where that may not be. -/
def behind (d : Dk) (x : Ac) : Dk × Int := if (acts d x).2 ≠ 0 ∧ (acts d x).1.down = false then (d, (acts d x).2) else acts d x
theorem fine_acts {d d' : Dk} {x : Ac} {r : Int} (h : Fine d) (hn : x.n ≤ 9223372036854775807) (hd : acts d x = (d', r)) : Fine d' := by
  unfold acts at hd
  split at hd
  · exact fine_does h hd
  split at hd
  · exact fine_crash h hd
  split at hd
  · exact fine_arm h hn hd
  · injection hd with hd _; rw [← hd]; exact h
theorem fine_behind {d d' : Dk} {x : Ac} {r : Int} (h : Fine d) (hn : x.n ≤ 9223372036854775807) (hd : behind d x = (d', r)) : Fine d' := by
  unfold behind at hd
  split at hd
  · injection hd with hd _; rw [← hd]; exact h
  · exact fine_acts h hn hd
theorem Fine.small {d : Dk} (h : Fine d) : Small d.fs := check_small h.1
end Go.Proofs.YtpppeadmhfggkaaGreatDoor.DP

namespace Go.Proofs.YtpppeadmhfggkaaGreatDoor.FP

/-- What the first four bytes say (a byte that is not there counts as 0). -/
def num (l : List UInt8) : Nat := (l.getD 0 0).toNat + (l.getD 1 0).toNat * 256 + (l.getD 2 0).toNat * 65536 + (l.getD 3 0).toNat * 16777216
/-- How many bytes the first frame has; 0: there is none. -/
def fst (l : List UInt8) : Nat := if num l ≤ 1024 ∧ num l + 4 ≤ l.length then num l + 4 else 0
/-- The first frame's load. -/
def load (l : List UInt8) : List UInt8 := (l.take (fst l)).drop 4
/-- The frame of a load. -/
def enc (x : List UInt8) : List UInt8 := UInt8.ofNat (x.length % 256) :: UInt8.ofNat (x.length / 256 % 256) :: 0 :: 0 :: x

theorem fst_yes {l : List UInt8} (h : num l ≤ 1024) (h' : num l + 4 ≤ l.length) : fst l = num l + 4 := by unfold fst; rw [if_pos ⟨h, h'⟩]
theorem fst_no {l : List UInt8} (h : 1024 < num l ∨ l.length < num l + 4) : fst l = 0 := by unfold fst; rw [if_neg (by omega)]
theorem fst_le (l : List UInt8) : fst l ≤ l.length := by
  unfold fst
  split <;> omega
theorem fst_most (l : List UInt8) : fst l ≤ 1028 := by
  unfold fst
  split <;> omega
theorem fst_four {l : List UInt8} (h : fst l ≠ 0) : 4 ≤ fst l := by
  unfold fst at h ⊢
  split at h
  · rename_i hh; rw [if_pos hh]; omega
  · exact absurd rfl h
theorem fst_short {l : List UInt8} (h : l.length < 4) : fst l = 0 := fst_no (by omega)
theorem load_length (l : List UInt8) : (load l).length = fst l - 4 := by
  unfold load
  rw [List.length_drop, List.length_take]
  have := fst_le l
  omega
theorem load_none {l : List UInt8} (h : fst l = 0) : load l = [] := by unfold load; rw [h]; rfl

def rows (l : List UInt8) : List (List UInt8) := if _h : fst l = 0 then [] else load l :: rows (l.drop (fst l))
termination_by l.length
decreasing_by
  have := fst_le l
  simp
  omega
def torn (l : List UInt8) : Nat := if _h : fst l = 0 then l.length else torn (l.drop (fst l))
termination_by l.length
decreasing_by
  have := fst_le l
  simp
  omega

theorem rows_end {l : List UInt8} (h : fst l = 0) : rows l = [] := by rw [rows, dif_pos h]
theorem rows_more {l : List UInt8} (h : fst l ≠ 0) : rows l = load l :: rows (l.drop (fst l)) := by rw [rows, dif_neg h]
theorem torn_end {l : List UInt8} (h : fst l = 0) : torn l = l.length := by rw [torn, dif_pos h]
theorem torn_more {l : List UInt8} (h : fst l ≠ 0) : torn l = torn (l.drop (fst l)) := by rw [torn, dif_neg h]
theorem rows_nil : rows [] = [] := rows_end (fst_short (by simp))
theorem torn_nil : torn [] = 0 := torn_end (fst_short (by simp))

theorem toNat_ofNat {n : Nat} (h : n < 256) : (UInt8.ofNat n).toNat = n := by
  rw [UInt8.toNat_ofNat']; exact Nat.mod_eq_of_lt h

theorem enc_length (x : List UInt8) : (enc x).length = x.length + 4 := by simp [enc]
theorem num_enc {x : List UInt8} (h : x.length ≤ 1024) (t : List UInt8) : num (enc x ++ t) = x.length := by
  have h1 : (UInt8.ofNat (x.length % 256)).toNat = x.length % 256 := toNat_ofNat (by omega)
  have h2 : (UInt8.ofNat (x.length / 256 % 256)).toNat = x.length / 256 % 256 := toNat_ofNat (by omega)
  simp only [num, enc, List.cons_append, List.getD_cons_zero, List.getD_cons_succ]
  rw [h1, h2]
  simp
  omega
theorem fst_enc {x : List UInt8} (h : x.length ≤ 1024) (t : List UInt8) : fst (enc x ++ t) = x.length + 4 := by
  have := num_enc h t
  rw [fst_yes (by omega) (by rw [List.length_append, enc_length]; omega), this]
theorem load_enc {x : List UInt8} (h : x.length ≤ 1024) (t : List UInt8) : load (enc x ++ t) = x := by
  unfold load
  rw [fst_enc h t, ← enc_length, List.take_left]
  rfl
theorem rows_enc {x : List UInt8} (h : x.length ≤ 1024) (t : List UInt8) : rows (enc x ++ t) = x :: rows t := by
  rw [rows_more (by rw [fst_enc h]; omega), load_enc h, fst_enc h, ← enc_length, List.drop_left]
theorem torn_enc {x : List UInt8} (h : x.length ≤ 1024) (t : List UInt8) : torn (enc x ++ t) = torn t := by
  rw [torn_more (by rw [fst_enc h]; omega), fst_enc h, ← enc_length, List.drop_left]

/-- Frames put together. -/
def flat (ls : List (List UInt8)) : List UInt8 := (ls.map enc).flatten
theorem flat_nil : flat [] = [] := rfl
theorem flat_cons (x : List UInt8) (ls : List (List UInt8)) : flat (x :: ls) = enc x ++ flat ls := rfl
theorem flat_append (a b : List (List UInt8)) : flat (a ++ b) = flat a ++ flat b := by simp [flat]
theorem flat_snoc (a : List (List UInt8)) (x : List UInt8) : flat (a ++ [x]) = flat a ++ enc x := by rw [flat_append, flat_cons, flat_nil, List.append_nil]

theorem rows_flat : ∀ (ls : List (List UInt8)) (t : List UInt8), (∀ x ∈ ls, x.length ≤ 1024) → rows (flat ls ++ t) = ls ++ rows t := by
  intro ls
  induction ls with
  | nil => intro t _; rfl
  | cons x ls ih =>
    intro t h
    rw [flat_cons, List.append_assoc, rows_enc (h x (by simp)), ih t (fun y hy => h y (by simp [hy]))]
    rfl
theorem torn_flat : ∀ (ls : List (List UInt8)) (t : List UInt8), (∀ x ∈ ls, x.length ≤ 1024) → torn (flat ls ++ t) = torn t := by
  intro ls
  induction ls with
  | nil => intro t _; rfl
  | cons x ls ih =>
    intro t h
    rw [flat_cons, List.append_assoc, torn_enc (h x (by simp)), ih t (fun y hy => h y (by simp [hy]))]
theorem rows_all {ls : List (List UInt8)} (h : ∀ x ∈ ls, x.length ≤ 1024) : rows (flat ls) = ls := by
  have := rows_flat ls [] h
  rwa [List.append_nil, rows_nil, List.append_nil] at this
theorem torn_all {ls : List (List UInt8)} (h : ∀ x ∈ ls, x.length ≤ 1024) : torn (flat ls) = 0 := by
  have := torn_flat ls [] h
  rwa [List.append_nil, torn_nil] at this

/-- Unlike rows of loads have unlike bytes. -/
theorem flat_inj {a b : List (List UInt8)} (ha : ∀ x ∈ a, x.length ≤ 1024) (hb : ∀ x ∈ b, x.length ≤ 1024) : flat a = flat b ↔ a = b :=
  ⟨fun h => by rw [← rows_all ha, ← rows_all hb, h], fun h => by rw [h]⟩

/-- The loads and what is torn make up all bytes. -/
def sum : List (List UInt8) → Nat
  | [] => 0
  | x :: r => 4 + x.length + sum r
theorem sum_append (a b : List (List UInt8)) : sum (a ++ b) = sum a + sum b := by
  induction a with
  | nil => simp [sum]
  | cons x a ih => simp only [List.cons_append, sum, ih]; omega
theorem sum_snoc {ls : List (List UInt8)} {k : Nat} (h : k < ls.length) : sum (ls.take (k + 1)) = sum (ls.take k) + 4 + ls[k].length := by
  rw [List.take_succ_eq_append_getElem h, sum_append, sum, sum]
  omega
theorem sum_take_le (ls : List (List UInt8)) (k : Nat) : sum (ls.take k) ≤ sum ls := by
  have h := sum_append (ls.take k) (ls.drop k)
  rw [List.take_append_drop] at h
  omega
theorem flat_length (ls : List (List UInt8)) : (flat ls).length = sum ls := by
  induction ls with
  | nil => rfl
  | cons x ls ih => rw [flat_cons, List.length_append, enc_length, ih, sum]; omega
theorem torn_sum (l : List UInt8) : torn l + sum (rows l) = l.length := by
  by_cases h : fst l = 0
  · rw [torn_end h, rows_end h]; rfl
  · have := torn_sum (l.drop (fst l))
    have h4 := fst_four h
    have hle := fst_le l
    rw [torn_more h, rows_more h, sum, load_length]
    rw [List.length_drop] at this
    omega
termination_by l.length
decreasing_by
  have := fst_le l
  simp
  omega
theorem rows_le (l : List UInt8) : 4 * (rows l).length ≤ l.length := by
  have h := torn_sum l
  have : ∀ r : List (List UInt8), 4 * r.length ≤ sum r := by
    intro r
    induction r with
    | nil => simp [sum]
    | cons x r ih => simp only [List.length_cons, sum]; omega
  have := this (rows l)
  omega
theorem torn_le (l : List UInt8) : torn l ≤ l.length := by have := torn_sum l; omega

theorem getD_take {l : List UInt8} {m i : Nat} (h : i < m) : (l.take m).getD i 0 = l.getD i 0 := by
  simp only [List.getD_eq_getElem?_getD]
  rw [List.getElem?_take_of_lt h]
/-- No frame's beginning begins with a frame. -/
theorem fst_cut {x : List UInt8} (h : x.length ≤ 1024) {m : Nat} (hm : m < x.length + 4) : fst ((enc x).take m) = 0 := by
  have hl : ((enc x).take m).length = m := by rw [List.length_take, enc_length]; omega
  rcases Nat.lt_or_ge m 4 with h4 | h4
  · exact fst_short (by omega)
  · refine fst_no (.inr ?_)
    have h0 := num_enc h []
    rw [List.append_nil] at h0
    have : num ((enc x).take m) = num (enc x) := by
      unfold num
      rw [getD_take (by omega), getD_take (by omega), getD_take (by omega), getD_take (by omega)]
    rw [this, h0, hl]
    exact hm

theorem rows_cut {ls : List (List UInt8)} (h : ∀ x ∈ ls, x.length ≤ 1024) {k cut : Nat} (hk : k ≤ ls.length) (h1 : sum (ls.take k) ≤ cut) (h2 : k < ls.length → cut < sum (ls.take (k + 1))) (hc : cut ≤ sum ls) :
    rows ((flat ls).take cut) = ls.take k ∧ torn ((flat ls).take cut) = cut - sum (ls.take k) := by
  have ht : ∀ x ∈ ls.take k, x.length ≤ 1024 := fun x hx => h x (List.mem_of_mem_take hx)
  rcases Nat.lt_or_ge k ls.length with hlt | hge
  · have hcut := h2 hlt
    have hs : ls.take (k + 1) = ls.take k ++ [ls[k]] := by rw [List.take_succ_eq_append_getElem hlt]
    have hx : ls[k].length ≤ 1024 := h _ (List.getElem_mem hlt)
    have hd : ls = ls.take k ++ (ls[k] :: ls.drop (k + 1)) := by rw [← List.drop_eq_getElem_cons hlt, List.take_append_drop]
    have hsum : sum (ls.take (k + 1)) = sum (ls.take k) + (4 + ls[k].length) := by rw [hs, sum_append]; simp [sum]
    have e : (flat ls).take cut = flat (ls.take k) ++ (enc ls[k]).take (cut - sum (ls.take k)) := by
      conv => lhs; rw [hd]
      rw [flat_append, flat_cons, List.take_append, flat_length, List.take_of_length_le (by rw [flat_length]; exact h1), List.take_append_of_le_length (by rw [enc_length]; omega)]
    have hf := fst_cut hx (m := cut - sum (ls.take k)) (by omega)
    rw [e, rows_flat _ _ ht, torn_flat _ _ ht, rows_end hf, torn_end hf, List.length_take, enc_length, List.append_nil]
    exact ⟨rfl, by omega⟩
  · have hk' : k = ls.length := by omega
    subst hk'
    rw [List.take_length] at h1 ⊢
    rw [List.take_of_length_le (by rw [flat_length]; exact h1), rows_all h, torn_all h]
    exact ⟨rfl, by omega⟩

/-- Where a reading stands: pre has come, p is behind it. -/
structure At (l : List UInt8) (pre : List (List UInt8)) (p : Nat) : Prop where
  le : p ≤ l.length
  rows : FP.rows l = pre ++ FP.rows (l.drop p)
  torn : FP.torn l = FP.torn (l.drop p)
theorem At.start (l : List UInt8) : At l [] 0 := ⟨Nat.zero_le _, rfl, rfl⟩
theorem At.step {l : List UInt8} {pre : List (List UInt8)} {p : Nat} (h : At l pre p) (hf : fst (l.drop p) ≠ 0) : At l (pre ++ [load (l.drop p)]) (p + fst (l.drop p)) := by
  have hle := fst_le (l.drop p)
  rw [List.length_drop] at hle
  have hp := h.le
  refine ⟨by omega, ?_, ?_⟩
  · rw [h.rows, rows_more hf, List.drop_drop, List.append_assoc]; rfl
  · rw [h.torn, torn_more hf, List.drop_drop]
theorem At.done {l : List UInt8} {pre : List (List UInt8)} {p : Nat} (h : At l pre p) (hf : fst (l.drop p) = 0) : FP.rows l = pre ∧ FP.torn l = l.length - p := by
  rw [h.rows, h.torn, rows_end hf, torn_end hf, List.append_nil, List.length_drop]
  exact ⟨rfl, rfl⟩
theorem At.count {l : List UInt8} {pre : List (List UInt8)} {p : Nat} (h : At l pre p) : 4 * pre.length ≤ l.length := by
  have := rows_le l
  rw [h.rows, List.length_append] at this
  omega
end Go.Proofs.YtpppeadmhfggkaaGreatDoor.FP
