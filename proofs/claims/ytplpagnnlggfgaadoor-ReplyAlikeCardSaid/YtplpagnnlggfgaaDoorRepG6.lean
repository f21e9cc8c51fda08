/-
  Batches of records, as the document says: which are valid, their bytes, what is read from a place, and that what was written is read. No conditions.
  Records and rows as cells; batches that came in by value, opened to their records; when two records, two rows are the same. No conditions.
  Contracts of record's tooLong, of slices.IndexFunc and ContainsFunc over records, of May and Behind, the program's and the document's: what each returns and what it does to memory. Conditions: those that each theorem names.
-/
import Derived.Test.YtplpagnnlggfgaaDoorRepG5
import Derived.Deep.Slices
import Derived.ChangeArms
import Derived.Lib.SmallJoins
import Derived.Laws.StructEq
namespace Go.Proofs.YtplpagnnlggfgaaDoor
open Go.RowKit

structure Rc where
  k : ByteArray
  v : ByteArray
structure Bt where
  pid : Int
  ep : Int
  sq : Int
  tx : Bool
  rs : List Rc
def Rc.Good (r : Rc) : Prop := r.k.size ≤ 16 ∧ r.v.size ≤ 16
def Bt.Good (b : Bt) : Prop := (1 ≤ b.pid ∧ b.pid ≤ 8) ∧ (0 ≤ b.ep ∧ b.ep ≤ 100) ∧ (1 ≤ b.rs.length ∧ b.rs.length ≤ 4) ∧ (0 ≤ b.sq ∧ b.sq + b.rs.length ≤ 1048576) ∧ ∀ r ∈ b.rs, r.Good
def noBt : Bt := ⟨0, 0, 0, false, []⟩

theorem string_ext {a b : ByteArray} (h : bytesOf a = bytesOf b) : a = b := by rw [string_mk a, string_mk b, h]

def Rc.enc (r : Rc) : List UInt8 := VP.enc r.k.size ++ (bytesOf r.k ++ (VP.enc r.v.size ++ bytesOf r.v))
def encRs : List Rc → List UInt8
  | [] => []
  | r :: l => r.enc ++ encRs l
theorem encRs_snoc : ∀ (l : List Rc) (r : Rc), encRs (l ++ [r]) = encRs l ++ r.enc
  | [], r => by simp [encRs]
  | g :: l, r => by simp [encRs, encRs_snoc l r]
def Bt.enc (b : Bt) : List UInt8 := VP.enc b.pid.toNat ++ (VP.enc b.ep.toNat ++ (VP.enc b.sq.toNat ++ (flagByte b.tx :: (VP.enc b.rs.length ++ encRs b.rs))))
theorem Bt.enc_pos (b : Bt) : 0 < b.enc.length := by
  have := VP.enc_pos b.pid.toNat
  unfold Bt.enc
  rw [List.length_append]
  omega
theorem Rc.enc_le {r : Rc} (h : r.Good) : r.enc.length ≤ 34 := by
  have h1 : (VP.enc r.k.size).length ≤ 1 := VP.enc_le 1 _ (by omega) (by have := h.1; omega)
  have h2 : (VP.enc r.v.size).length ≤ 1 := VP.enc_le 1 _ (by omega) (by have := h.2; omega)
  obtain ⟨h3, h4⟩ := h
  simp only [Rc.enc, List.length_append, bytesOf_length]
  omega
theorem encRs_le : ∀ (l : List Rc), (∀ r ∈ l, r.Good) → (encRs l).length ≤ 34 * l.length
  | [], _ => by simp [encRs]
  | r :: l, h => by
    have h1 := Rc.enc_le (h r (by simp))
    have h2 := encRs_le l fun g hg => h g (by simp [hg])
    simp only [encRs, List.length_append, List.length_cons]
    omega
theorem Bt.enc_le {b : Bt} (h : b.Good) : b.enc.length ≤ 160 := by
  obtain ⟨⟨h1, h2⟩, ⟨h3, h4⟩, ⟨h5, h6⟩, ⟨h7, h8⟩, h9⟩ := h
  have e1 : (VP.enc b.pid.toNat).length ≤ 1 := VP.enc_le 1 _ (by omega) (by omega)
  have e2 : (VP.enc b.ep.toNat).length ≤ 1 := VP.enc_le 1 _ (by omega) (by omega)
  have e3 : (VP.enc b.sq.toNat).length ≤ 3 := VP.enc_le 3 _ (by omega) (by omega)
  have e4 : (VP.enc b.rs.length).length ≤ 1 := VP.enc_le 1 _ (by omega) (by omega)
  have e5 := encRs_le b.rs h9
  simp only [Bt.enc, List.length_append, List.length_cons]
  omega

/-! ### what is read -/
section
variable {s : ByteArray}

theorem NumIs.one {p p1 p2 : Nat} {bad b1 b2 : Bool} {lo hi v1 v2 : Int} (h : NumIs s p bad lo hi v1 p1 b1) (g : NumIs s p bad lo hi v2 p2 b2) : v1 = v2 ∧ p1 = p2 ∧ b1 = b2 := by
  rcases h with ⟨hb, n, k, hd, hlo, hhi, rfl, rfl, rfl⟩ | ⟨hn, rfl, rfl, rfl⟩ <;> rcases g with ⟨gb, m, j, gd, glo, ghi, rfl, rfl, rfl⟩ | ⟨gn, rfl, rfl, rfl⟩
  · rw [hd] at gd; simp at gd; obtain ⟨rfl, rfl⟩ := gd; exact ⟨rfl, rfl, rfl⟩
  · exfalso
    rcases gn with gn | gn | ⟨m, j, gd, gn⟩
    · rw [hb] at gn; cases gn
    · rw [hd] at gn; cases gn
    · rw [hd] at gd; simp at gd; obtain ⟨rfl, rfl⟩ := gd; omega
  · exfalso
    rcases hn with hn | hn | ⟨m, j, hd, hn⟩
    · rw [gb] at hn; cases hn
    · rw [gd] at hn; cases hn
    · rw [gd] at hd; simp at hd; obtain ⟨rfl, rfl⟩ := hd; omega
  · exact ⟨rfl, rfl, rfl⟩
theorem TextIs.one {p p1 p2 : Nat} {bad b1 b2 : Bool} {hi : Int} {v1 v2 : ByteArray} (h : TextIs s p bad hi v1 p1 b1) (g : TextIs s p bad hi v2 p2 b2) : v1 = v2 ∧ p1 = p2 ∧ b1 = b2 := by
  rcases h with ⟨hb, n, k, hd, hhi, hf, rfl, rfl, rfl⟩ | ⟨hn, rfl, rfl, rfl⟩ <;> rcases g with ⟨gb, m, j, gd, ghi, gf, rfl, rfl, rfl⟩ | ⟨gn, rfl, rfl, rfl⟩
  · rw [hd] at gd; simp at gd; obtain ⟨rfl, rfl⟩ := gd; exact ⟨rfl, rfl, rfl⟩
  · exfalso
    rcases gn with gn | gn | ⟨m, j, gd, gn⟩
    · rw [hb] at gn; cases gn
    · rw [hd] at gn; cases gn
    · rw [hd] at gd; simp at gd; obtain ⟨rfl, rfl⟩ := gd; omega
  · exfalso
    rcases hn with hn | hn | ⟨m, j, hd, hn⟩
    · rw [gb] at hn; cases hn
    · rw [gd] at hn; cases hn
    · rw [gd] at hd; simp at hd; obtain ⟨rfl, rfl⟩ := hd; omega
  · exact ⟨rfl, rfl, rfl⟩
theorem FlagIs.one {p p1 p2 : Nat} {bad b1 b2 v1 v2 : Bool} (h : FlagIs s p bad v1 p1 b1) (g : FlagIs s p bad v2 p2 b2) : v1 = v2 ∧ p1 = p2 ∧ b1 = b2 := by
  rcases h with ⟨hb, hd, rfl, rfl⟩ | ⟨hn, rfl, rfl, rfl⟩ <;> rcases g with ⟨gb, gd, rfl, rfl⟩ | ⟨gn, rfl, rfl, rfl⟩
  · refine ⟨?_, rfl, rfl⟩
    rw [hd] at gd
    cases v1 <;> cases v2 <;> simp_all
  · exfalso
    have hlt := (List.getElem?_eq_some_iff.1 hd).1
    rw [bytesOf_length] at hlt
    rcases gn with gn | gn | ⟨c, gd, gn⟩
    · rw [hb] at gn; cases gn
    · omega
    · rw [hd] at gd; simp at gd; subst gd; cases v1 <;> simp at gn
  · exfalso
    have hlt := (List.getElem?_eq_some_iff.1 gd).1
    rw [bytesOf_length] at hlt
    rcases hn with hn | hn | ⟨c, hd, hn⟩
    · rw [gb] at hn; cases hn
    · omega
    · rw [gd] at hd; simp at hd; subst hd; cases v2 <;> simp at hn
  · exact ⟨rfl, rfl, rfl⟩

/-- So many records from a place. -/
def RecsIs (s : ByteArray) : Nat → Nat → Bool → List Rc → Nat → Bool → Prop
  | 0, p, bad, rs, p', bad' => rs = [] ∧ p' = p ∧ bad' = bad
  | n + 1, p, bad, rs, p', bad' => ∃ k p1 b1 v p2 b2 rest, TextIs s p bad 16 k p1 b1 ∧ TextIs s p1 b1 16 v p2 b2 ∧ rs = ⟨k, v⟩ :: rest ∧ RecsIs s n p2 b2 rest p' bad'
theorem recsIs_of (s : ByteArray) : ∀ (n p : Nat) (bad : Bool), ∃ rs p' bad', RecsIs s n p bad rs p' bad'
  | 0, p, bad => ⟨[], p, bad, rfl, rfl, rfl⟩
  | n + 1, p, bad => by
    obtain ⟨k, p1, b1, h1⟩ := textIs_of s p bad 16
    obtain ⟨v, p2, b2, h2⟩ := textIs_of s p1 b1 16
    obtain ⟨rest, p', bad', h3⟩ := recsIs_of s n p2 b2
    exact ⟨_, p', bad', k, p1, b1, v, p2, b2, rest, h1, h2, rfl, h3⟩
theorem RecsIs.one : ∀ (n : Nat) {p : Nat} {bad : Bool} {r1 r2 : List Rc} {p1 p2 : Nat} {b1 b2 : Bool}, RecsIs s n p bad r1 p1 b1 → RecsIs s n p bad r2 p2 b2 → r1 = r2 ∧ p1 = p2 ∧ b1 = b2
  | 0, _, _, _, _, _, _, _, _, ⟨h1, h2, h3⟩, ⟨g1, g2, g3⟩ => ⟨h1.trans g1.symm, h2.trans g2.symm, h3.trans g3.symm⟩
  | n + 1, _, _, _, _, _, _, _, _, ⟨k, q1, c1, v, q2, c2, rest, h1, h2, h3, h4⟩, ⟨k', q1', c1', v', q2', c2', rest', g1, g2, g3, g4⟩ => by
    obtain ⟨rfl, rfl, rfl⟩ := h1.one g1
    obtain ⟨rfl, rfl, rfl⟩ := h2.one g2
    obtain ⟨rfl, rfl, rfl⟩ := RecsIs.one n h4 g4
    subst h3 g3
    exact ⟨rfl, rfl, rfl⟩
theorem RecsIs.length : ∀ (n : Nat) {p : Nat} {bad : Bool} {rs : List Rc} {p' : Nat} {bad' : Bool}, RecsIs s n p bad rs p' bad' → rs.length = n
  | 0, _, _, _, _, _, ⟨h, _, _⟩ => by rw [h]; rfl
  | n + 1, _, _, _, _, _, ⟨_, _, _, _, _, _, rest, _, _, h, h'⟩ => by rw [h, List.length_cons, RecsIs.length n h']
theorem RecsIs.le : ∀ (n : Nat) {p : Nat} {bad : Bool} {rs : List Rc} {p' : Nat} {bad' : Bool}, RecsIs s n p bad rs p' bad' → p ≤ s.size → p' ≤ s.size
  | 0, _, _, _, _, _, ⟨_, h, _⟩, hp => by rw [h]; exact hp
  | n + 1, _, _, _, _, _, ⟨_, _, _, _, _, _, _, h1, h2, _, h4⟩, hp => RecsIs.le n h4 (h2.le (h1.le hp))
theorem TextIs.small {p p' : Nat} {bad bad' : Bool} {v : ByteArray} (h : TextIs s p bad 16 v p' bad') : v.size ≤ 16 := by
  rcases h with ⟨_, n, k, _, hhi, hf, rfl, _, _⟩ | ⟨_, rfl, _, _⟩
  · rw [extract_size s _ _ (by omega) hf]; omega
  · simp [ByteArray.size]
theorem RecsIs.good : ∀ (n : Nat) {p : Nat} {bad : Bool} {rs : List Rc} {p' : Nat} {bad' : Bool}, RecsIs s n p bad rs p' bad' → ∀ r ∈ rs, r.Good
  | 0, _, _, _, _, _, ⟨h, _, _⟩, r, hr => by rw [h] at hr; cases hr
  | n + 1, _, _, _, _, _, ⟨_, _, _, _, _, _, _, h1, h2, h3, h4⟩, r, hr => by
    rw [h3] at hr
    rcases List.mem_cons.1 hr with rfl | hr
    · exact ⟨h1.small, h2.small⟩
    · exact RecsIs.good n h4 r hr
/-- Once stopped, stopped. -/
theorem NumIs.ok {p p' : Nat} {bad : Bool} {lo hi v : Int} (h : NumIs s p bad lo hi v p' false) : bad = false ∧ ∃ n k : Nat, VP.dec ((bytesOf s).drop p) = some (n, k) ∧ lo ≤ n ∧ (n : Int) ≤ hi ∧ v = n ∧ p' = p + k := by
  rcases h with ⟨h1, n, k, h2, h3, h4, h5, h6, _⟩ | ⟨_, _, _, h⟩
  · exact ⟨h1, n, k, h2, h3, h4, h5, h6⟩
  · cases h
theorem TextIs.ok {p p' : Nat} {bad : Bool} {hi : Int} {v : ByteArray} (h : TextIs s p bad hi v p' false) : bad = false ∧ ∃ n k : Nat, VP.dec ((bytesOf s).drop p) = some (n, k) ∧ (n : Int) ≤ hi ∧ p + k + n ≤ s.size ∧ v = s.extract (p + k) (p + k + n) ∧ p' = p + k + n := by
  rcases h with ⟨h1, n, k, h2, h3, h4, h5, h6, _⟩ | ⟨_, _, _, h⟩
  · exact ⟨h1, n, k, h2, h3, h4, h5, h6⟩
  · cases h
theorem FlagIs.ok {p p' : Nat} {bad v : Bool} (h : FlagIs s p bad v p' false) : bad = false ∧ (bytesOf s)[p]? = some (flagByte v) ∧ p' = p + 1 := by
  rcases h with ⟨h1, h2, h3, _⟩ | ⟨_, _, _, h⟩
  · exact ⟨h1, h2, h3⟩
  · cases h

/-- A number that was read has its bytes there. -/
theorem NumIs.bytes {p p' : Nat} {bad : Bool} {lo hi v : Int} (h : NumIs s p bad lo hi v p' false) : bad = false ∧ lo ≤ v ∧ v ≤ hi ∧ 0 ≤ v ∧ (bytesOf s).drop p = VP.enc v.toNat ++ (bytesOf s).drop p' := by
  obtain ⟨hb, n, k, hd, h1, h2, rfl, rfl⟩ := h.ok
  obtain ⟨_, _, _, _, he⟩ := VP.dec_only hd
  refine ⟨hb, h1, h2, by omega, ?_⟩
  rw [Int.toNat_natCast, he, ← List.drop_drop]
  exact (List.take_append_drop _ _).symm
theorem TextIs.bytes {p p' : Nat} {bad : Bool} {hi : Int} {v : ByteArray} (h : TextIs s p bad hi v p' false) : bad = false ∧ (bytesOf s).drop p = VP.enc v.size ++ (bytesOf v ++ (bytesOf s).drop p') := by
  obtain ⟨hb, n, k, hd, h1, h2, rfl, rfl⟩ := h.ok
  obtain ⟨_, _, _, _, he⟩ := VP.dec_only hd
  refine ⟨hb, ?_⟩
  have e1 : (s.extract (p + k) (p + k + n)).size = n := by rw [extract_size _ _ _ (by omega) h2]; omega
  have e2 : (bytesOf s).drop (p + k + n) = ((bytesOf s).drop (p + k)).drop n := by rw [List.drop_drop]
  have e3 : (bytesOf s).drop (p + k) = ((bytesOf s).drop p).drop k := by rw [List.drop_drop]
  rw [e1, he, bytesOf_extract, show p + k + n - (p + k) = n by omega, e2, List.take_append_drop, e3]
  exact (List.take_append_drop _ _).symm
theorem FlagIs.bytes {p p' : Nat} {bad v : Bool} (h : FlagIs s p bad v p' false) : bad = false ∧ (bytesOf s).drop p = flagByte v :: (bytesOf s).drop p' := by
  obtain ⟨hb, hd, rfl⟩ := h.ok
  obtain ⟨hlt, he⟩ := List.getElem?_eq_some_iff.1 hd
  exact ⟨hb, by rw [List.drop_eq_getElem_cons hlt, he]⟩
theorem RecsIs.bytes : ∀ (n : Nat) {p : Nat} {bad : Bool} {rs : List Rc} {p' : Nat}, RecsIs s n p bad rs p' false → bad = false ∧ (bytesOf s).drop p = encRs rs ++ (bytesOf s).drop p'
  | 0, _, _, _, _, ⟨h1, h2, h3⟩ => by subst h1 h2; exact ⟨h3.symm, by simp [encRs]⟩
  | n + 1, _, _, _, _, ⟨k, p1, b1, v, p2, b2, rest, h1, h2, h3, h4⟩ => by
    obtain ⟨rfl, e4⟩ := RecsIs.bytes n h4
    obtain ⟨rfl, e2⟩ := h2.bytes
    obtain ⟨hb, e1⟩ := h1.bytes
    subst h3
    refine ⟨hb, ?_⟩
    rw [e1, e2, e4]
    simp [encRs, Rc.enc]

/-- The fields of a batch from a place, valid or not. -/
def RawIs (s : ByteArray) (p : Nat) (bad : Bool) (b : Bt) (p' : Nat) (bad' : Bool) : Prop :=
  ∃ p1 b1 p2 b2 p3 b3 p4 b4 n p5 b5, NumIs s p bad 1 8 b.pid p1 b1 ∧ NumIs s p1 b1 0 100 b.ep p2 b2 ∧ NumIs s p2 b2 0 1048576 b.sq p3 b3 ∧ FlagIs s p3 b3 b.tx p4 b4 ∧ NumIs s p4 b4 1 4 n p5 b5 ∧ RecsIs s n.toNat p5 b5 b.rs p' bad'
theorem rawIs_of (s : ByteArray) (p : Nat) (bad : Bool) : ∃ b p' bad', RawIs s p bad b p' bad' := by
  obtain ⟨pid, p1, b1, h1⟩ := numIs_of s p bad 1 8
  obtain ⟨ep, p2, b2, h2⟩ := numIs_of s p1 b1 0 100
  obtain ⟨sq, p3, b3, h3⟩ := numIs_of s p2 b2 0 1048576
  obtain ⟨tx, p4, b4, h4⟩ := flagIs_of s p3 b3
  obtain ⟨n, p5, b5, h5⟩ := numIs_of s p4 b4 1 4
  obtain ⟨rs, p', bad', h6⟩ := recsIs_of s n.toNat p5 b5
  exact ⟨⟨pid, ep, sq, tx, rs⟩, p', bad', p1, b1, p2, b2, p3, b3, p4, b4, n, p5, b5, h1, h2, h3, h4, h5, h6⟩
theorem RawIs.one {p : Nat} {bad : Bool} {x y : Bt} {p1 p2 : Nat} {b1 b2 : Bool} (h : RawIs s p bad x p1 b1) (g : RawIs s p bad y p2 b2) : x = y ∧ p1 = p2 ∧ b1 = b2 := by
  obtain ⟨q1, c1, q2, c2, q3, c3, q4, c4, n, q5, c5, h1, h2, h3, h4, h5, h6⟩ := h
  obtain ⟨q1', c1', q2', c2', q3', c3', q4', c4', n', q5', c5', g1, g2, g3, g4, g5, g6⟩ := g
  obtain ⟨e1, rfl, rfl⟩ := h1.one g1
  obtain ⟨e2, rfl, rfl⟩ := h2.one g2
  obtain ⟨e3, rfl, rfl⟩ := h3.one g3
  obtain ⟨e4, rfl, rfl⟩ := h4.one g4
  obtain ⟨rfl, rfl, rfl⟩ := h5.one g5
  obtain ⟨e6, rfl, rfl⟩ := RecsIs.one _ h6 g6
  obtain ⟨a1, a2, a3, a4, a5⟩ := x
  obtain ⟨d1, d2, d3, d4, d5⟩ := y
  simp only at e1 e2 e3 e4 e6
  subst e1 e2 e3 e4 e6
  exact ⟨rfl, rfl, rfl⟩
theorem RawIs.le {p : Nat} {bad : Bool} {x : Bt} {p' : Nat} {bad' : Bool} (h : RawIs s p bad x p' bad') (hp : p ≤ s.size) : p' ≤ s.size := by
  obtain ⟨q1, c1, q2, c2, q3, c3, q4, c4, n, q5, c5, h1, h2, h3, h4, h5, h6⟩ := h
  exact RecsIs.le _ h6 (h5.le (h4.le (h3.le (h2.le (h1.le hp)))))
theorem NumIs.in {p p' : Nat} {bad bad' : Bool} {lo hi v : Int} (h : NumIs s p bad lo hi v p' bad') (hhi : 0 ≤ hi) : 0 ≤ v ∧ v ≤ hi := by
  rcases h with ⟨_, n, k, _, h1, h2, rfl, _, _⟩ | ⟨_, rfl, _, _⟩ <;> omega
/-- How great what was read may be. -/
theorem RawIs.small {p : Nat} {bad : Bool} {x : Bt} {p' : Nat} {bad' : Bool} (h : RawIs s p bad x p' bad') : (0 ≤ x.pid ∧ x.pid ≤ 8) ∧ (0 ≤ x.ep ∧ x.ep ≤ 100) ∧ (0 ≤ x.sq ∧ x.sq ≤ 1048576) ∧ x.rs.length ≤ 4 ∧ ∀ r ∈ x.rs, r.Good := by
  obtain ⟨q1, c1, q2, c2, q3, c3, q4, c4, n, q5, c5, h1, h2, h3, h4, h5, h6⟩ := h
  have hl := RecsIs.length _ h6
  have hn := h5.in (by omega)
  exact ⟨h1.in (by omega), h2.in (by omega), h3.in (by omega), by omega, RecsIs.good _ h6⟩
theorem RawIs.bytes {p : Nat} {bad : Bool} {x : Bt} {p' : Nat} (h : RawIs s p bad x p' false) : bad = false ∧ (bytesOf s).drop p = x.enc ++ (bytesOf s).drop p' := by
  obtain ⟨q1, c1, q2, c2, q3, c3, q4, c4, n, q5, c5, h1, h2, h3, h4, h5, h6⟩ := h
  have hl := RecsIs.length _ h6
  obtain ⟨rfl, e6⟩ := RecsIs.bytes _ h6
  obtain ⟨rfl, _, _, hn0, e5⟩ := h5.bytes
  obtain ⟨rfl, e4⟩ := h4.bytes
  obtain ⟨rfl, _, _, _, e3⟩ := h3.bytes
  obtain ⟨rfl, _, _, _, e2⟩ := h2.bytes
  obtain ⟨hb, _, _, _, e1⟩ := h1.bytes
  refine ⟨hb, ?_⟩
  rw [e1, e2, e3, e4, e5, e6, ← hl]
  simp [Bt.enc]

/-! ### what was written is read -/
theorem NumIs.full {p n : Nat} {lo hi : Int} {t : List UInt8} (hn : n ≤ 1099511627776) (h1 : lo ≤ n) (h2 : (n : Int) ≤ hi) (h : (bytesOf s).drop p = VP.enc n ++ t) : NumIs s p false lo hi n (p + (VP.enc n).length) false ∧ (bytesOf s).drop (p + (VP.enc n).length) = t :=
  ⟨.inl ⟨rfl, n, _, by rw [h]; exact VP.dec_enc hn t, h1, h2, rfl, rfl, rfl⟩, by rw [← List.drop_drop, h, List.drop_left]⟩
theorem TextIs.full {p : Nat} {v : ByteArray} {t : List UInt8} (hv : v.size ≤ 16) (h : (bytesOf s).drop p = VP.enc v.size ++ (bytesOf v ++ t)) :
    TextIs s p false 16 v (p + (VP.enc v.size).length + v.size) false ∧ (bytesOf s).drop (p + (VP.enc v.size).length + v.size) = t := by
  have h1 : (bytesOf s).drop (p + (VP.enc v.size).length) = bytesOf v ++ t := by rw [← List.drop_drop, h, List.drop_left]
  have hl := congrArg List.length h1
  rw [List.length_drop, List.length_append, bytesOf_length, bytesOf_length] at hl
  have hpos := VP.enc_pos v.size
  have hl2 := congrArg List.length h
  rw [List.length_drop, List.length_append, bytesOf_length] at hl2
  refine ⟨.inl ⟨rfl, v.size, _, by rw [h]; exact VP.dec_enc (by omega) _, by omega, by omega, ?_, rfl, rfl⟩, ?_⟩
  · refine string_ext ?_
    rw [bytesOf_extract, h1, show p + (VP.enc v.size).length + v.size - (p + (VP.enc v.size).length) = v.size by omega, ← bytesOf_length v, List.take_left]
  · rw [← List.drop_drop, h1, ← bytesOf_length v, List.drop_left]
theorem FlagIs.full {p : Nat} {v : Bool} {t : List UInt8} (h : (bytesOf s).drop p = flagByte v :: t) : FlagIs s p false v (p + 1) false ∧ (bytesOf s).drop (p + 1) = t := by
  have h0 : (bytesOf s)[p]? = some (flagByte v) := by rw [← Nat.add_zero p, ← List.getElem?_drop, h]; rfl
  exact ⟨.inl ⟨rfl, h0, rfl, rfl⟩, by rw [← List.drop_drop, h]; rfl⟩
theorem RecsIs.full : ∀ (l : List Rc) {p : Nat} {t : List UInt8}, (∀ r ∈ l, r.Good) → (bytesOf s).drop p = encRs l ++ t → RecsIs s l.length p false l (p + (encRs l).length) false ∧ (bytesOf s).drop (p + (encRs l).length) = t
  | [], p, t, _, h => ⟨⟨rfl, by simp [encRs], rfl⟩, by simpa [encRs] using h⟩
  | r :: l, p, t, hg, h => by
    obtain ⟨g1, g2⟩ := hg r (by simp)
    have h' : (bytesOf s).drop p = VP.enc r.k.size ++ (bytesOf r.k ++ (VP.enc r.v.size ++ (bytesOf r.v ++ (encRs l ++ t)))) := by rw [h]; simp [encRs, Rc.enc]
    obtain ⟨t1, d1⟩ := TextIs.full g1 h'
    obtain ⟨t2, d2⟩ := TextIs.full g2 d1
    obtain ⟨t3, d3⟩ := RecsIs.full l (fun g hx => hg g (by simp [hx])) d2
    have he : p + (VP.enc r.k.size).length + r.k.size + (VP.enc r.v.size).length + r.v.size + (encRs l).length = p + (encRs (r :: l)).length := by
      simp only [encRs, Rc.enc, List.length_append, bytesOf_length]; omega
    rw [he] at t3 d3
    exact ⟨⟨_, _, _, _, _, _, _, t1, t2, rfl, t3⟩, d3⟩
theorem RawIs.full {p : Nat} {b : Bt} {t : List UInt8} (hb : b.Good) (h : (bytesOf s).drop p = b.enc ++ t) : RawIs s p false b (p + b.enc.length) false ∧ (bytesOf s).drop (p + b.enc.length) = t := by
  obtain ⟨pid, ep, sq, tx, rs⟩ := b
  obtain ⟨⟨h1, h2⟩, ⟨h3, h4⟩, ⟨h5, h6⟩, ⟨h7, h8⟩, h9⟩ := hb
  simp only at h1 h2 h3 h4 h5 h6 h7 h8 h9
  obtain ⟨n1, rfl⟩ : ∃ n1 : Nat, pid = n1 := ⟨pid.toNat, by omega⟩
  obtain ⟨n2, rfl⟩ : ∃ n2 : Nat, ep = n2 := ⟨ep.toNat, by omega⟩
  obtain ⟨n3, rfl⟩ : ∃ n3 : Nat, sq = n3 := ⟨sq.toNat, by omega⟩
  have h' : (bytesOf s).drop p = VP.enc n1 ++ (VP.enc n2 ++ (VP.enc n3 ++ (flagByte tx :: (VP.enc rs.length ++ (encRs rs ++ t))))) := by rw [h]; simp [Bt.enc]
  obtain ⟨r1, d1⟩ := NumIs.full (lo := 1) (hi := 8) (by omega) h1 h2 h'
  obtain ⟨r2, d2⟩ := NumIs.full (lo := 0) (hi := 100) (by omega) h3 h4 d1
  obtain ⟨r3, d3⟩ := NumIs.full (lo := 0) (hi := 1048576) (by omega) h7 (by omega) d2
  obtain ⟨r4, d4⟩ := FlagIs.full d3
  obtain ⟨r5, d5⟩ := NumIs.full (lo := 1) (hi := 4) (by omega) (by omega) (by omega) d4
  obtain ⟨r6, d6⟩ := RecsIs.full rs h9 d5
  have he : p + (VP.enc n1).length + (VP.enc n2).length + (VP.enc n3).length + 1 + (VP.enc rs.length).length + (encRs rs).length = p + (Bt.enc ⟨n1, n2, n3, tx, rs⟩).length := by
    simp only [Bt.enc, List.length_append, List.length_cons, Int.toNat_natCast]; omega
  rw [he] at r6 d6
  exact ⟨⟨_, _, _, _, _, _, _, _, _, _, _, r1, r2, r3, r4, r5, by rw [Int.toNat_natCast]; exact r6⟩, d6⟩

/-- The valid batch from a place, or the empty one and the reader is stopped. -/
def TakeIs (s : ByteArray) (p : Nat) (bad : Bool) (b : Bt) (p' : Nat) (bad' : Bool) : Prop :=
  ∃ x q c, RawIs s p bad x q c ∧ p' = q ∧ ((c = false ∧ x.Good ∧ b = x ∧ bad' = false) ∨ ((c = true ∨ ¬ x.Good) ∧ b = noBt ∧ bad' = true))
theorem takeIs_of (s : ByteArray) (p : Nat) (bad : Bool) : ∃ b p' bad', TakeIs s p bad b p' bad' := by
  obtain ⟨x, q, c, h⟩ := rawIs_of s p bad
  cases c with
  | true => exact ⟨noBt, q, true, x, q, true, h, rfl, .inr ⟨.inl rfl, rfl, rfl⟩⟩
  | false =>
    by_cases hg : x.Good
    · exact ⟨x, q, false, x, q, false, h, rfl, .inl ⟨rfl, hg, rfl, rfl⟩⟩
    · exact ⟨noBt, q, true, x, q, false, h, rfl, .inr ⟨.inr hg, rfl, rfl⟩⟩
theorem TakeIs.le {p : Nat} {bad : Bool} {b : Bt} {p' : Nat} {bad' : Bool} (h : TakeIs s p bad b p' bad') (hp : p ≤ s.size) : p' ≤ s.size := by
  obtain ⟨x, q, c, h, rfl, _⟩ := h
  exact h.le hp
/-- The batch whose bytes are these, or none. -/
def ReadIs (s : ByteArray) (b : Bt) (er : Int) : Prop := (bytesOf s = b.enc ∧ b.Good ∧ er = 0) ∨ ((∀ x : Bt, x.Good → bytesOf s ≠ x.enc) ∧ b = noBt ∧ er = 70)
theorem readIs_of (s : ByteArray) : ∃ b er, ReadIs s b er := by
  by_cases h : ∃ x : Bt, x.Good ∧ bytesOf s = x.enc
  · obtain ⟨x, h1, h2⟩ := h
    exact ⟨x, 0, .inl ⟨h2, h1, rfl⟩⟩
  · exact ⟨noBt, 70, .inr ⟨fun x hx he => h ⟨x, hx, he⟩, rfl, rfl⟩⟩
end
/-- None begins another's bytes. -/
theorem enc_begins {a b : Bt} {t : List UInt8} (ha : a.Good) (hb : b.Good) (h : a.enc = b.enc ++ t) : a = b ∧ t = [] := by
  have h1 := (RawIs.full (s := ⟨a.enc.toArray⟩) (p := 0) (t := []) ha (by rw [bytesOf_mk]; simp)).1
  have h2 := (RawIs.full (s := ⟨a.enc.toArray⟩) (p := 0) (t := t) hb (by rw [bytesOf_mk]; simpa using h)).1
  obtain ⟨rfl, _, _⟩ := h1.one h2
  refine ⟨rfl, ?_⟩
  have := congrArg List.length h
  rw [List.length_append] at this
  exact List.length_eq_zero_iff.1 (by omega)
theorem enc_inj {a b : Bt} (ha : a.Good) (hb : b.Good) (h : a.enc = b.enc) : a = b := (enc_begins (t := []) ha hb (by simpa using h)).1
/-- What Read's reader has, whatever it takes. -/
theorem ReadIs.of_take {s : ByteArray} {b : Bt} {er : Int} {x : Bt} {p : Nat} {bad : Bool} (h : ReadIs s b er) (ht : TakeIs s 0 false x p bad) : (bad = false ∧ p = s.size ∧ er = 0 ∧ b = x) ∨ ((bad = true ∨ p ≠ s.size) ∧ er = 70 ∧ b = noBt) := by
  obtain ⟨y, q, c, hr, rfl, hc⟩ := ht
  rcases h with ⟨h1, h2, rfl⟩ | ⟨h1, rfl, rfl⟩
  · obtain ⟨f1, f2⟩ := RawIs.full (s := s) (p := 0) (t := []) h2 (by rw [h1]; simp)
    obtain ⟨rfl, rfl, rfl⟩ := f1.one hr
    rcases hc with ⟨_, _, rfl, rfl⟩ | ⟨hc | hc, _, _⟩
    · refine .inl ⟨rfl, ?_, rfl, rfl⟩
      rw [Nat.zero_add, ← h1, bytesOf_length]
    · cases hc
    · exact absurd h2 hc
  · refine .inr ⟨?_, rfl, rfl⟩
    rcases hc with ⟨rfl, hg, rfl, rfl⟩ | ⟨_, _, rfl⟩
    · refine .inr fun hp => h1 _ hg ?_
      have := hr.bytes.2
      rw [hp, List.drop_of_length_le (l := bytesOf s) (i := s.size) (by rw [bytesOf_length]; omega)] at this
      simpa using this
    · exact .inl rfl
theorem mayIs_of (b : Bt) : ∃ m : Bool, m = true ↔ b.Good := by
  by_cases h : b.Good
  · exact ⟨true, fun _ => h, fun _ => rfl⟩
  · exact ⟨false, by simp, fun h' => absurd h' h⟩
theorem sameIs_of (a b : Bt) : ∃ m : Bool, m = true ↔ a = b := by
  by_cases h : a = b
  · exact ⟨true, fun _ => h, fun _ => rfl⟩
  · exact ⟨false, by simp, fun h' => absurd h' h⟩
end Go.Proofs.YtplpagnnlggfgaaDoor

namespace Go.Proofs.YtplpagnnlggfgaaDoor
open Go.RowKit

/-! ### rows of elements of one width -/
theorem flat_at {α : Type} (f : α → List Value) (m : Nat) (hm : ∀ x, (f x).length = m) {l : List α} {k : Nat} {x : α} (h : l[k]? = some x) (j : Nat) (hj : j < m) : (l.flatMap f)[k * m + j]? = (f x)[j]? := by
  induction l generalizing k with
  | nil => simp at h
  | cons y r ih =>
    rw [List.flatMap_cons]
    rcases k with _ | k
    · simp at h
      subst h
      rw [List.getElem?_append_left (by rw [hm]; omega)]
      congr 1
      omega
    · rw [List.getElem?_append_right (by rw [hm, Nat.add_mul]; omega), hm]
      rw [show (k + 1) * m + j - m = k * m + j by rw [Nat.add_mul]; omega]
      exact ih (by simpa using h)
theorem flat_length {α : Type} (f : α → List Value) (m : Nat) (hm : ∀ x, (f x).length = m) (l : List α) : (l.flatMap f).length = l.length * m := by
  induction l with
  | nil => simp
  | cons y r ih => rw [List.flatMap_cons, List.length_append, hm, ih, List.length_cons, Nat.add_mul]; omega
theorem in_some {α : Type} (l : List α) (i n : Nat) (hl : l.length = n) (hi : i < n) : ∃ x, l[i]? = some x := ⟨_, List.getElem?_eq_getElem (by omega)⟩
/-- All cells of such a row, one by one. -/
theorem flat_all {α : Type} (f : α → List Value) (m : Nat) (hm0 : 0 < m) (hm : ∀ x, (f x).length = m) {p : Nat → Value → Prop} {l : List α} (h : ∀ k x j u, l[k]? = some x → j < m → (f x)[j]? = some u → p (k * m + j) u) : ∀ i u, (l.flatMap f)[i]? = some u → p i u := by
  intro i u hi
  have hlt : i < l.length * m := by rw [← flat_length f m hm]; exact (List.getElem?_eq_some_iff.1 hi).1
  obtain ⟨x, hx⟩ := in_some l (i / m) l.length rfl ((Nat.div_lt_iff_lt_mul hm0).2 hlt)
  have hj := Nat.mod_lt i hm0
  have he : i / m * m + i % m = i := by rw [Nat.mul_comm]; exact Nat.div_add_mod i m
  have := flat_at f m hm hx (i % m) hj
  rw [he, hi] at this
  have h2 := h _ _ _ u hx hj this.symm
  rwa [he] at h2

def rcell (r : Rc) : List Value := [.string r.k, .string r.v]
theorem rcell_get {r : Rc} {j : Nat} {u : Value} (hj : j < 2) (h : (rcell r)[j]? = some u) : (j = 0 ∧ u = .string r.k) ∨ (j = 1 ∧ u = .string r.v) := by
  match j, hj with
  | 0, _ => exact .inl ⟨rfl, by simpa [rcell] using h.symm⟩
  | 1, _ => exact .inr ⟨rfl, by simpa [rcell] using h.symm⟩
def rcells (l : List Rc) : List Value := l.flatMap rcell
theorem rcells_length (l : List Rc) : (rcells l).length = l.length * 2 := flat_length rcell 2 (fun _ => rfl) l
theorem rcells_append (a b : List Rc) : rcells (a ++ b) = rcells a ++ rcells b := by simp [rcells]
theorem rcells_one (l : List Rc) : ∀ u ∈ rcells l, u.oneCell' = true := by
  intro u hu
  simp only [rcells, List.mem_flatMap, rcell] at hu
  obtain ⟨f, _, hu⟩ := hu
  simp at hu
  rcases hu with rfl | rfl <;> rfl
/-- The record in place k, in memory. -/
theorem rec_at {w : World} {B : Nat} {A : Option Addr} {l : List Rc} {k : Nat} {r : Rc} (h : Seen w B A (rcells l)) (hk : l[k]? = some r) :
    ∃ b off, A = some ⟨b, off, none⟩ ∧ b < B ∧ w.cell? ⟨b, off + k * 2, none⟩ = some (.string r.k) ∧ w.cell? ⟨b, off + k * 2 + 1, none⟩ = some (.string r.v) := by
  have ha : ∀ j, j < 2 → (rcells l)[k * 2 + j]? = (rcell r)[j]? := fun j hj => flat_at rcell 2 (fun _ => rfl) hk j hj
  obtain ⟨b, off, rfl, hb, hc⟩ := h (by intro e; have := ha 0 (by omega); rw [e] at this; simp [rcell] at this)
  refine ⟨b, off, rfl, hb, hc _ _ (ha 0 (by omega)), ?_⟩
  rw [Nat.add_assoc]
  exact hc _ _ (ha 1 (by omega))
theorem rec_here {l : List Rc} {k n : Nat} (hn : l.length = n) (hk : k < n) : ∃ r, l[k]? = some r := ⟨_, List.getElem?_eq_getElem (by omega)⟩

/-- A row as cells. -/
structure Rw where
  off : Int
  pid : Int
  sq : Int
  k : ByteArray
  v : ByteArray
def rwcell (r : Rw) : List Value := [.int .i64 r.off, .int .i64 r.pid, .int .i64 r.sq, .string r.k, .string r.v]
def rwcells (l : List Rw) : List Value := l.flatMap rwcell
theorem rwcells_length (l : List Rw) : (rwcells l).length = l.length * 5 := flat_length rwcell 5 (fun _ => rfl) l
theorem rwcells_append (a b : List Rw) : rwcells (a ++ b) = rwcells a ++ rwcells b := by simp [rwcells]
theorem rwcells_one (l : List Rw) : ∀ u ∈ rwcells l, u.oneCell' = true := by
  intro u hu
  simp only [rwcells, List.mem_flatMap, rwcell] at hu
  obtain ⟨f, _, hu⟩ := hu
  simp at hu
  rcases hu with rfl | rfl | rfl | rfl | rfl <;> rfl
theorem row_at {w : World} {B : Nat} {A : Option Addr} {l : List Rw} {k : Nat} {r : Rw} (h : Seen w B A (rwcells l)) (hk : l[k]? = some r) :
    ∃ b off, A = some ⟨b, off, none⟩ ∧ b < B ∧ w.cell? ⟨b, off + k * 5, none⟩ = some (.int .i64 r.off) ∧ w.cell? ⟨b, off + k * 5 + 1, none⟩ = some (.int .i64 r.pid) ∧ w.cell? ⟨b, off + k * 5 + 2, none⟩ = some (.int .i64 r.sq) ∧
      w.cell? ⟨b, off + k * 5 + 3, none⟩ = some (.string r.k) ∧ w.cell? ⟨b, off + k * 5 + 4, none⟩ = some (.string r.v) := by
  have ha : ∀ j, j < 5 → (rwcells l)[k * 5 + j]? = (rwcell r)[j]? := fun j hj => flat_at rwcell 5 (fun _ => rfl) hk j hj
  obtain ⟨b, off, rfl, hb, hc⟩ := h (by intro e; have := ha 0 (by omega); rw [e] at this; simp [rwcell] at this)
  refine ⟨b, off, rfl, hb, hc _ _ (ha 0 (by omega)), ?_, ?_, ?_, ?_⟩ <;> rw [Nat.add_assoc]
  · exact hc _ _ (ha 1 (by omega))
  · exact hc _ _ (ha 2 (by omega))
  · exact hc _ _ (ha 3 (by omega))
  · exact hc _ _ (ha 4 (by omega))
theorem row_here {l : List Rw} {k n : Nat} (hn : l.length = n) (hk : k < n) : ∃ r, l[k]? = some r := ⟨_, List.getElem?_eq_getElem (by omega)⟩

/-- The rows of a batch. -/
def rowOf (b : Bt) (off : Int) (i : Nat) (r : Rc) : Rw := ⟨if off = -1 then -1 else wrap64 (off + i), b.pid, wrap64 (b.sq + i), r.k, r.v⟩
def rowsOf (b : Bt) (off : Int) : List Rw := b.rs.zipIdx.map fun x => rowOf b off x.2 x.1
theorem rowsOf_length (b : Bt) (off : Int) : (rowsOf b off).length = b.rs.length := by simp [rowsOf]
theorem rowsOf_at {b : Bt} {off : Int} {k : Nat} {r : Rc} (h : b.rs[k]? = some r) : (rowsOf b off)[k]? = some (rowOf b off k r) := by
  simp [rowsOf, h]
theorem rowsOf_take {b : Bt} {off : Int} {k : Nat} {r : Rc} (h : b.rs[k]? = some r) : (rowsOf b off).take (k + 1) = (rowsOf b off).take k ++ [rowOf b off k r] := by
  rw [List.take_add_one, rowsOf_at h]; rfl

theorem Var.cells2 {w : World} {g T : Nat} {a b : Value} (h : Var w g T #[a, b]) : w.cell? ⟨g, 0, none⟩ = some a ∧ w.cell? ⟨g, 1, none⟩ = some b ∧ ∀ i, w.frozen? ⟨g, i, none⟩ = false :=
  ⟨h.cell 0 rfl, h.cell 1 rfl, h.free⟩
theorem Var.cells5 {w : World} {g T : Nat} {a b c d e : Value} (h : Var w g T #[a, b, c, d, e]) : w.cell? ⟨g, 0, none⟩ = some a ∧ w.cell? ⟨g, 1, none⟩ = some b ∧ w.cell? ⟨g, 2, none⟩ = some c ∧ w.cell? ⟨g, 3, none⟩ = some d ∧ w.cell? ⟨g, 4, none⟩ = some e ∧ ∀ i, w.frozen? ⟨g, i, none⟩ = false :=
  ⟨h.cell 0 rfl, h.cell 1 rfl, h.cell 2 rfl, h.cell 3 rfl, h.cell 4 rfl, h.free⟩
/-- What a contract's 'Below' says of the old cells, for the walk. -/
theorem bcell {W w1 : World} (hb : Below W.heap.size W w1) : (∀ b o, b < W.heap.size → w1.cell? ⟨b, o, none⟩ = W.cell? ⟨b, o, none⟩) ∧ (∀ b o, b < W.heap.size → w1.frozen? ⟨b, o, none⟩ = W.frozen? ⟨b, o, none⟩) :=
  ⟨fun b o h => hb.cell (p := ⟨b, o, none⟩) h, fun b o h => hb.frozen (p := ⟨b, o, none⟩) h⟩

theorem ret_bool {a b : Bool} (h : a = b) : Ending.returned (.bool a) = .returned (.bool b) := by rw [h]
theorem ret_str {a b : ByteArray} (h : a = b) : Ending.returned (.string a) = .returned (.string b) := by rw [h]

/-! ### when two are the same -/
@[go_sem] theorem row_eq (x y z x' y' z' : Int) (a b c d : ByteArray) (w : World) : (Op.equalIn 10000 37 (.agg #[.int .i64 x, .int .i64 y, .int .i64 z, .string a, .string b]) (.agg #[.int .i64 x', .int .i64 y', .int .i64 z', .string c, .string d])).run Tryd.prog w =
    .ok (x == x' && (y == y' && (z == z' && (a.toList == c.toList && b.toList == d.toList)))) w := by
  have u1 := Tryd.underlying9
  have a1 := Tryd.isAgg9
  have z1 := Tryd.sizeOf9
  have u3 := Tryd.underlying3
  have a3 := Tryd.isAgg3
  have z3 := Tryd.sizeOf3
  have hS : Tryd.prog.underlying 37 = some (.struct (Tryd.prog.fieldsOf 37)) := by kernel_rfl
  have hp : Tryd.prog.stoodInHeld 37 = false := by kernel_rfl
  rw [show (10000 : Nat) = 9999 + 1 from rfl, run_equalIn_agg w 9999 37 _ _ hS hp]
  simp only [Program.fieldsOf, Tryd.underlying37]
  go_simp
  cases h1 : x == x' <;> cases h2 : y == y' <;> cases h3 : z == z' <;> cases h4 : a.toList == c.toList <;> cases h5 : b.toList == d.toList <;> simp_all
theorem toList_is (a : ByteArray) : a.toList = bytesOf a := by
  rw [ByteArray.toList_eq]
  rfl
theorem eqS (a b : ByteArray) : (a.toList == b.toList) = true ↔ a = b := by
  rw [beq_iff_eq, toList_is, toList_is]
  exact ⟨string_ext, fun h => by rw [h]⟩

/-! ### batches that came in -/
section
variable {H : Type} {enc : TypeId × Value → H} {w : World} {base : Nat} {spare : Nat → Bool} {held : Bool} {fuel : Nat} {a : Option Addr} {len cap : Nat} {x : DataW H × List MemPlace}

theorem in_cut {α : Type} (l : List α) (i : Nat) (x : α) (h : l[i]? = some x) : (l.drop i).take 1 = [x] := by
  obtain ⟨hi, he⟩ := List.getElem?_eq_some_iff.1 h
  rw [List.drop_eq_getElem_cons hi, he]
  rfl
theorem in_spot2 {w : World} {ad : Addr} {v : Value} (h : w.cell? ((ad.add (0 * 2)).add 0) = some v) : ∃ b off, ad = ⟨b, off, none⟩ ∧ b < w.heap.size := by
  have he : (ad.add (0 * 2)).add 0 = ad := by simp [Addr.add]
  rw [he] at h
  obtain ⟨b, off, spot⟩ := ad
  have hs : spot = none := World.cell?_spot h
  subst hs
  exact ⟨b, off, rfl, World.block_lt_of_cell? w _ h⟩
theorem in_choose {α : Type} {p : Nat → α → Prop} : ∀ (n : Nat), (∀ i, i < n → ∃ x, p i x) → ∃ xs : List α, xs.length = n ∧ ∀ i x, xs[i]? = some x → p i x := by
  intro n
  induction n with
  | zero => intro _; exact ⟨[], rfl, by simp⟩
  | succ n ih =>
    intro h
    obtain ⟨xs, hl, hx⟩ := ih fun i hi => h i (by omega)
    obtain ⟨x, hp⟩ := h n (by omega)
    refine ⟨xs ++ [x], by simp [hl], fun i y hy => ?_⟩
    by_cases hi : i < n
    · rw [List.getElem?_append_left (by omega)] at hy
      exact hx i y hy
    · rw [List.getElem?_append_right (by omega)] at hy
      have he : i = n := by
        by_cases hk : i - xs.length = 0
        · omega
        · rw [List.getElem?_eq_none (by simp; omega)] at hy
          simp at hy
      subst he
      simp [hl] at hy
      subst hy
      exact hp
theorem list5 {α : Type} {l : List α} {a b c d e : α} (h : l.length = 5) (h0 : l[0]? = some a) (h1 : l[1]? = some b) (h2 : l[2]? = some c) (h3 : l[3]? = some d) (h4 : l[4]? = some e) : l = [a, b, c, d, e] := by
  rcases l with _ | ⟨x0, _ | ⟨x1, _ | ⟨x2, _ | ⟨x3, _ | ⟨x4, _ | ⟨x5, r⟩⟩⟩⟩⟩⟩ <;> simp at h h0 h1 h2 h3 h4
  subst h0 h1 h2 h3 h4
  rfl
end
/-- What a machine can hold of a batch that came in. -/
structure BIn (w : World) (A : Option Addr) (n c : Nat) (b : Bt) : Prop where
  len : b.rs.length = n
  seen : Seen w w.heap.size A (rcells b.rs)
  max : n ≤ 9223372036854775807
  cap : n ≤ c
  sizes : ∀ y ∈ b.rs, y.k.size ≤ 9223372036854775807 ∧ y.v.size ≤ 9223372036854775807

end Go.Proofs.YtplpagnnlggfgaaDoor

namespace Go.Proofs.YtplpagnnlggfgaaDoor
open Go.RowKit

theorem below_new {w : World} (o : Obj) : Below w.heap.size w (w.alloc o) := (Below.refl _ _).alloc (Nat.le_refl _) _

/-- Where the first record stands that is too long, or -1. -/
def IdxIs (rs : List Rc) (r : Int) : Prop := (r = -1 ∧ ∀ x ∈ rs, x.Good) ∨ (0 ≤ r ∧ ∃ x ∈ rs, ¬ x.Good)

end Go.Proofs.YtplpagnnlggfgaaDoor
