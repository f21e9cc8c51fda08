/-
  Entries and producers, as the document says: which are valid, their bytes, what is read from a place, and that what was written is read. No conditions.
  Entries, producers and batches that were seen as cells; when two batches that were seen are the same. No conditions.
-/
import Derived.Test.YtchpemgamgcbkaaGreatEntG6
namespace Go.Proofs.YtchpemgamgcbkaaGreat
open Go.RowKit

structure Sn where
  sq : Int
  cnt : Int
  bs : Int
structure Pd where
  pid : Int
  ep : Int
  nx : Int
  sn : List Sn
structure En where
  kind : Int
  b : Bt
  yes : Bool
  nx : Int
  off : Int
  row : Rw
  pd : Pd
/-- What a batch is held against. -/
def behind (nx : Int) : List Sn → Int
  | [] => nx
  | s :: _ => s.sq
def Sn.Ok (s : Sn) : Prop := (1 ≤ s.cnt ∧ s.cnt ≤ 4) ∧ (-1 ≤ s.bs ∧ s.bs ≤ 1048576)
def SnOk (nx : Int) : List Sn → Prop
  | [] => True
  | s :: l => s.Ok ∧ 0 ≤ s.sq ∧ s.sq + s.cnt ≤ behind nx l ∧ SnOk nx l
def Named (pid ep : Int) : Prop := (1 ≤ pid ∧ pid ≤ 8) ∧ (0 ≤ ep ∧ ep ≤ 100)
def Pd.Good (p : Pd) : Prop := Named p.pid p.ep ∧ (0 ≤ p.nx ∧ p.nx ≤ 1048576) ∧ p.sn.length ≤ 3 ∧ SnOk p.nx p.sn
def RowOk (pid sq : Int) (k v : ByteArray) : Prop := (1 ≤ pid ∧ pid ≤ 8) ∧ (0 ≤ sq ∧ sq ≤ 1048575) ∧ k.size ≤ 16 ∧ v.size ≤ 16
theorem SnOk.behind_le {nx : Int} : ∀ {l : List Sn}, SnOk nx l → behind nx l ≤ nx
  | [], _ => Int.le_refl _
  | s :: l, ⟨h1, _, h3, h4⟩ => by
    have := SnOk.behind_le h4
    have := h1.1.1
    show s.sq ≤ nx
    omega
theorem SnOk.behind_pos {nx : Int} (hn : 0 ≤ nx) : ∀ {l : List Sn}, SnOk nx l → 0 ≤ behind nx l
  | [], _ => hn
  | _ :: _, ⟨_, h, _, _⟩ => h
theorem SnOk.in {nx : Int} : ∀ {l : List Sn}, SnOk nx l → ∀ s ∈ l, s.Ok ∧ 0 ≤ s.sq ∧ s.sq ≤ nx
  | [], _, s, hs => by cases hs
  | a :: l, ⟨h1, h2, h3, h4⟩, s, hs => by
    rcases List.mem_cons.1 hs with rfl | hs
    · have := SnOk.behind_le h4
      have := h1.1.1
      exact ⟨h1, h2, by omega⟩
    · exact SnOk.in h4 s hs
theorem SnOk.drop {nx : Int} : ∀ (n : Nat) {l : List Sn}, SnOk nx l → SnOk nx (l.drop n)
  | 0, _, h => h
  | _ + 1, [], _ => trivial
  | n + 1, _ :: l, ⟨_, _, _, h⟩ => SnOk.drop n (l := l) h
theorem SnOk.greater {nx nx' : Int} (hn : nx ≤ nx') : ∀ {l : List Sn}, SnOk nx l → SnOk nx' l
  | [], _ => trivial
  | [_], ⟨h1, h2, h3, _⟩ => ⟨h1, h2, Int.le_trans h3 hn, trivial⟩
  | _ :: b :: l, ⟨h1, h2, h3, h4⟩ => ⟨h1, h2, h3, SnOk.greater hn (l := b :: l) h4⟩

def noRw : Rw := ⟨0, 0, 0, ⟨#[]⟩, ⟨#[]⟩⟩
def noPd : Pd := ⟨0, 0, 0, []⟩
def noEn : En := ⟨0, noBt, false, 0, 0, noRw, noPd⟩
def dataE (b : Bt) : En := ⟨0, b, false, 0, 0, noRw, noPd⟩
def markE (pid ep : Int) (yes : Bool) : En := ⟨1, ⟨pid, ep, 0, false, []⟩, yes, 0, 0, noRw, noPd⟩
def cutE (off : Int) : En := ⟨2, noBt, false, 0, off, noRw, noPd⟩
def copyE (b : Bt) (yes : Bool) (nx : Int) : En := ⟨3, b, yes, nx, 0, noRw, noPd⟩
def dropE (pid ep nx : Int) : En := ⟨4, ⟨pid, ep, 0, false, []⟩, false, nx, 0, noRw, noPd⟩
def rowE (pid sq : Int) (k v : ByteArray) : En := ⟨5, noBt, false, 0, 0, ⟨0, pid, sq, k, v⟩, noPd⟩
def stateE (p : Pd) : En := ⟨6, noBt, false, 0, 0, noRw, p⟩
/-- The valid ones. -/
inductive En.Good : En → Prop
  | data (b : Bt) : b.Good → En.Good (dataE b)
  | mark (pid ep : Int) (yes : Bool) : Named pid ep → En.Good (markE pid ep yes)
  | cut (off : Int) : 0 ≤ off ∧ off ≤ 1048576 → En.Good (cutE off)
  | copy (b : Bt) (yes : Bool) (nx : Int) : b.Good → b.tx = true → 0 ≤ nx ∧ nx ≤ 1048576 → (yes = false → nx = 0) → En.Good (copyE b yes nx)
  | drop (pid ep nx : Int) : Named pid ep → 0 ≤ nx ∧ nx ≤ 1048576 → En.Good (dropE pid ep nx)
  | row (pid sq : Int) (k v : ByteArray) : RowOk pid sq k v → En.Good (rowE pid sq k v)
  | state (p : Pd) : p.Good → En.Good (stateE p)

/-- What its kind has is right. -/
def En.Right (x : En) : Prop :=
  (x.kind = 0 ∧ x.b.Good) ∨ (x.kind = 1 ∧ Named x.b.pid x.b.ep) ∨ (x.kind = 2 ∧ 0 ≤ x.off ∧ x.off ≤ 1048576) ∨ (x.kind = 3 ∧ x.b.tx = true ∧ (0 ≤ x.nx ∧ x.nx ≤ 1048576) ∧ x.b.Good) ∨
  (x.kind = 4 ∧ (0 ≤ x.nx ∧ x.nx ≤ 1048576) ∧ Named x.b.pid x.b.ep) ∨ (x.kind = 5 ∧ RowOk x.row.pid x.row.sq x.row.k x.row.v) ∨ (x.kind = 6 ∧ x.pd.Good)
/-- What is left without that. -/
def En.rest (x : En) : En :=
  if x.kind = 0 then ⟨0, noBt, x.yes, x.nx, x.off, x.row, x.pd⟩
  else if x.kind = 1 then ⟨0, ⟨0, 0, x.b.sq, x.b.tx, x.b.rs⟩, false, x.nx, x.off, x.row, x.pd⟩
  else if x.kind = 2 then ⟨0, x.b, x.yes, x.nx, 0, x.row, x.pd⟩
  else if x.kind = 3 then ⟨0, noBt, false, if x.yes then 0 else x.nx, x.off, x.row, x.pd⟩
  else if x.kind = 4 then ⟨0, ⟨0, 0, x.b.sq, x.b.tx, x.b.rs⟩, x.yes, 0, x.off, x.row, x.pd⟩
  else if x.kind = 5 then ⟨0, x.b, x.yes, x.nx, x.off, ⟨x.row.off, 0, 0, ⟨#[]⟩, ⟨#[]⟩⟩, x.pd⟩
  else if x.kind = 6 then ⟨0, x.b, x.yes, x.nx, x.off, x.row, noPd⟩
  else ⟨0, x.b, x.yes, x.nx, x.off, x.row, x.pd⟩
/-- With the fields of its kind alone. -/
def En.bare (x : En) : En :=
  if x.kind = 0 then dataE x.b
  else if x.kind = 1 then markE x.b.pid x.b.ep x.yes
  else if x.kind = 2 then cutE x.off
  else if x.kind = 3 then copyE x.b x.yes (if x.yes then x.nx else 0)
  else if x.kind = 4 then dropE x.b.pid x.b.ep x.nx
  else if x.kind = 5 then rowE x.row.pid x.row.sq x.row.k x.row.v
  else if x.kind = 6 then stateE x.pd
  else ⟨x.kind, noBt, false, 0, 0, noRw, noPd⟩
theorem good_right {x : En} : x.Good ↔ x.Right ∧ x.rest = noEn := by
  constructor
  · intro h
    cases h with
    | data b hb => exact ⟨.inl ⟨rfl, hb⟩, rfl⟩
    | mark pid ep yes h => exact ⟨.inr (.inl ⟨rfl, h⟩), rfl⟩
    | cut off h => exact ⟨.inr (.inr (.inl ⟨rfl, h⟩)), rfl⟩
    | copy b yes nx hb ht hn hy =>
      refine ⟨.inr (.inr (.inr (.inl ⟨rfl, ht, hn, hb⟩))), ?_⟩
      cases yes with
      | true => rfl
      | false => rw [hy rfl]; rfl
    | drop pid ep nx h hn => exact ⟨.inr (.inr (.inr (.inr (.inl ⟨rfl, hn, h⟩)))), rfl⟩
    | row pid sq k v h => exact ⟨.inr (.inr (.inr (.inr (.inr (.inl ⟨rfl, h⟩))))), rfl⟩
    | state p h => exact ⟨.inr (.inr (.inr (.inr (.inr (.inr ⟨rfl, h⟩))))), rfl⟩
  · rintro ⟨h, hr⟩
    obtain ⟨kind, ⟨pid, ep, sq, tx, rs⟩, yes, nx, off, ⟨ro, rp, rq, rk, rv⟩, ⟨pp, pe, pn, sn⟩⟩ := x
    rcases h with ⟨hk, h⟩ | ⟨hk, h⟩ | ⟨hk, h⟩ | ⟨hk, h1, h2, h3⟩ | ⟨hk, h1, h2⟩ | ⟨hk, h⟩ | ⟨hk, h⟩ <;> simp only at hk <;> subst hk <;> simp [En.rest, noEn, noBt, noRw, noPd] at hr
    · obtain ⟨rfl, rfl, rfl, ⟨rfl, rfl, rfl, rfl, rfl⟩, rfl, rfl, rfl, rfl⟩ := hr
      exact .data _ h
    · obtain ⟨⟨rfl, rfl, rfl⟩, rfl, rfl, ⟨rfl, rfl, rfl, rfl, rfl⟩, rfl, rfl, rfl, rfl⟩ := hr
      exact .mark _ _ _ h
    · obtain ⟨⟨rfl, rfl, rfl, rfl, rfl⟩, rfl, rfl, ⟨rfl, rfl, rfl, rfl, rfl⟩, rfl, rfl, rfl, rfl⟩ := hr
      exact .cut _ h
    · obtain ⟨hy, rfl, ⟨rfl, rfl, rfl, rfl, rfl⟩, rfl, rfl, rfl, rfl⟩ := hr
      exact .copy _ _ _ h3 h1 h2 hy
    · obtain ⟨⟨rfl, rfl, rfl⟩, rfl, rfl, ⟨rfl, rfl, rfl, rfl, rfl⟩, rfl, rfl, rfl, rfl⟩ := hr
      exact .drop _ _ _ h2 h1
    · obtain ⟨⟨rfl, rfl, rfl, rfl, rfl⟩, rfl, rfl, rfl, rfl, rfl, rfl, rfl, rfl⟩ := hr
      exact .row _ _ _ _ h
    · obtain ⟨⟨rfl, rfl, rfl, rfl, rfl⟩, rfl, rfl, rfl, rfl, rfl, rfl, rfl, rfl⟩ := hr
      exact .state _ h
theorem good_bare {x : En} : x.Good ↔ x = x.bare ∧ x.Right := by
  constructor
  · intro h
    refine ⟨?_, (good_right.1 h).1⟩
    cases h with
    | copy b yes nx hb ht hn hy =>
      cases yes with
      | true => rfl
      | false => rw [hy rfl]; rfl
    | _ => rfl
  · rintro ⟨hb, h⟩
    rcases h with ⟨hk, h⟩ | ⟨hk, h⟩ | ⟨hk, h⟩ | ⟨hk, h1, h2, h3⟩ | ⟨hk, h1, h2⟩ | ⟨hk, h⟩ | ⟨hk, h⟩ <;> rw [hb] <;> simp only [En.bare, hk, if_true, Int.reduceEq, if_false]
    · exact .data _ h
    · exact .mark _ _ _ h
    · exact .cut _ h
    · by_cases hy : x.yes = true
      · rw [if_pos hy]
        exact .copy _ _ _ h3 h1 h2 fun h => by rw [hy] at h; cases h
      · rw [if_neg hy]
        exact .copy _ _ _ h3 h1 (by omega) fun _ => rfl
    · exact .drop _ _ _ h2 h1
    · exact .row _ _ _ _ h
    · exact .state _ h

/-! ### the bytes -/
def Sn.enc (s : Sn) : List UInt8 := VP.enc s.sq.toNat ++ (VP.enc s.cnt.toNat ++ VP.enc (s.bs + 1).toNat)
def encSn : List Sn → List UInt8
  | [] => []
  | s :: l => s.enc ++ encSn l
theorem encSn_snoc : ∀ (l : List Sn) (s : Sn), encSn (l ++ [s]) = encSn l ++ s.enc
  | [], s => by simp [encSn]
  | g :: l, s => by simp [encSn, encSn_snoc l s]
def Pd.enc (p : Pd) : List UInt8 := VP.enc p.pid.toNat ++ (VP.enc p.ep.toNat ++ (VP.enc p.nx.toNat ++ (VP.enc p.sn.length ++ encSn p.sn)))
def encRow (pid sq : Int) (k v : ByteArray) : List UInt8 := VP.enc pid.toNat ++ (VP.enc sq.toNat ++ (VP.enc k.size ++ (bytesOf k ++ (VP.enc v.size ++ bytesOf v))))
def En.body (x : En) : List UInt8 :=
  if x.kind = 0 then x.b.enc
  else if x.kind = 1 then VP.enc x.b.pid.toNat ++ (VP.enc x.b.ep.toNat ++ [flagByte x.yes])
  else if x.kind = 2 then VP.enc x.off.toNat
  else if x.kind = 3 then x.b.enc ++ (flagByte x.yes :: if x.yes then VP.enc x.nx.toNat else [])
  else if x.kind = 4 then VP.enc x.b.pid.toNat ++ (VP.enc x.b.ep.toNat ++ VP.enc x.nx.toNat)
  else if x.kind = 5 then encRow x.row.pid x.row.sq x.row.k x.row.v
  else if x.kind = 6 then x.pd.enc
  else []
def En.enc (x : En) : List UInt8 := VP.enc x.kind.toNat ++ x.body
theorem enc1 (n : Int) (h : n ≤ 127) : (VP.enc n.toNat).length ≤ 1 := VP.enc_le 1 _ (by omega) (by omega)
theorem enc3 (n : Int) (h : n ≤ 1048577) : (VP.enc n.toNat).length ≤ 3 := VP.enc_le 3 _ (by omega) (by omega)
theorem encSn_le {nx : Int} (hn : nx ≤ 1048576) : ∀ {l : List Sn}, SnOk nx l → (encSn l).length ≤ 7 * l.length
  | [], _ => by simp [encSn]
  | s :: l, h => by
    obtain ⟨⟨⟨c1, c2⟩, d1, d2⟩, a1, a2⟩ := h.in s (by simp)
    have e1 := enc3 s.sq (by omega)
    have e2 := enc1 s.cnt (by omega)
    have e3 := enc3 (s.bs + 1) (by omega)
    have e4 := encSn_le hn h.2.2.2
    simp only [encSn, Sn.enc, List.length_append, List.length_cons]
    omega
theorem Pd.enc_le {p : Pd} (h : p.Good) : p.enc.length ≤ 30 := by
  obtain ⟨⟨⟨h1, h2⟩, h3, h4⟩, ⟨h5, h6⟩, h7, h8⟩ := h
  have e1 := enc1 p.pid (by omega)
  have e2 := enc1 p.ep (by omega)
  have e3 := enc3 p.nx (by omega)
  have e4 := enc1 p.sn.length (by omega)
  have e5 := encSn_le h6 h8
  rw [Int.toNat_natCast] at e4
  simp only [Pd.enc, List.length_append]
  omega
theorem encRow_le {pid sq : Int} {k v : ByteArray} (h : RowOk pid sq k v) : (encRow pid sq k v).length ≤ 40 := by
  obtain ⟨⟨h1, h2⟩, ⟨h3, h4⟩, h5, h6⟩ := h
  have e1 := enc1 pid (by omega)
  have e2 := enc3 sq (by omega)
  have e3 := enc1 k.size (by omega)
  have e4 := enc1 v.size (by omega)
  rw [Int.toNat_natCast] at e3 e4
  simp only [encRow, List.length_append, bytesOf_length]
  omega
theorem En.body_le {x : En} (h : x.Good) : x.body.length ≤ 170 := by
  cases h with
  | data b hb =>
    have := Bt.enc_le hb
    simp only [En.body, dataE, if_true]
    omega
  | mark pid ep yes h =>
    have e1 := enc1 pid (by have := h.1.2; omega)
    have e2 := enc1 ep (by have := h.2.2; omega)
    simp only [En.body, markE, if_true, Int.reduceEq, if_false, List.length_append, List.length_cons, List.length_nil]
    omega
  | cut off h =>
    have e1 := enc3 off (by omega)
    simp only [En.body, cutE, if_true, Int.reduceEq, if_false]
    omega
  | copy b yes nx hb ht hn hy =>
    have e1 := enc3 nx (by omega)
    have := Bt.enc_le hb
    simp only [En.body, copyE, if_true, Int.reduceEq, if_false, List.length_append, List.length_cons]
    cases yes
    · simp; omega
    · simp; omega
  | drop pid ep nx h hn =>
    have e1 := enc1 pid (by have := h.1.2; omega)
    have e2 := enc1 ep (by have := h.2.2; omega)
    have e3 := enc3 nx (by omega)
    simp only [En.body, dropE, if_true, Int.reduceEq, if_false, List.length_append]
    omega
  | row pid sq k v h =>
    have := encRow_le h
    simp only [En.body, rowE, if_true, Int.reduceEq, if_false]
    omega
  | state p h =>
    have := Pd.enc_le h
    simp only [En.body, stateE, if_true, Int.reduceEq, if_false]
    omega
theorem En.Good.kind {x : En} (h : x.Good) : 0 ≤ x.kind ∧ x.kind ≤ 6 := by cases h <;> simp [dataE, markE, cutE, copyE, dropE, rowE, stateE]
theorem En.enc_le {x : En} (h : x.Good) : x.enc.length ≤ 171 := by
  have h1 := En.body_le h
  have h2 := enc1 x.kind (by have := h.kind; omega)
  simp only [En.enc, List.length_append]
  omega
theorem En.enc_pos (x : En) : 0 < x.enc.length := by
  have := VP.enc_pos x.kind.toNat
  simp only [En.enc, List.length_append]
  omega

/-! ### what is read -/
structure Lim where
  P : Int
  E : Int
  S : Int
  C : Int
  B : Int
structure Lim.Ok (L : Lim) : Prop where
  P : 8 ≤ L.P ∧ L.P ≤ 1099511627776
  E : 100 ≤ L.E ∧ L.E ≤ 1099511627776
  S : 1048576 ≤ L.S ∧ L.S ≤ 1099511627776
  C : 4 ≤ L.C ∧ L.C ≤ 1099511627776
  B : 1048577 ≤ L.B ∧ L.B ≤ 1099511627776
section
variable {s : ByteArray} {L : Lim}
theorem TakeIs.ok {p : Nat} {bad : Bool} {b : Bt} {p' : Nat} (h : TakeIs s p bad b p' false) : RawIs s p bad b p' false ∧ b.Good := by
  obtain ⟨x, q, c, h1, rfl, ⟨rfl, h2, rfl, _⟩ | ⟨_, _, h3⟩⟩ := h
  · exact ⟨h1, h2⟩
  · cases h3
theorem TakeIs.full {p : Nat} {b : Bt} {t : List UInt8} (hb : b.Good) (h : (bytesOf s).drop p = b.enc ++ t) : TakeIs s p false b (p + b.enc.length) false ∧ (bytesOf s).drop (p + b.enc.length) = t := by
  obtain ⟨h1, h2⟩ := RawIs.full hb h
  exact ⟨⟨b, _, false, h1, rfl, .inl ⟨rfl, hb, rfl, rfl⟩⟩, h2⟩
theorem TakeIs.small {p : Nat} {bad : Bool} {b : Bt} {p' : Nat} {bad' : Bool} (h : TakeIs s p bad b p' bad') : b.rs.length ≤ 4 ∧ ∀ r ∈ b.rs, r.Good := by
  obtain ⟨x, q, c, h1, rfl, ⟨_, h2, rfl, _⟩ | ⟨_, rfl, h3⟩⟩ := h
  · exact ⟨h1.small.2.2.2.1, h1.small.2.2.2.2⟩
  · exact ⟨by simp [noBt], fun r hr => by simp [noBt] at hr⟩
theorem NumIs.full' {p : Nat} {n lo hi : Int} {t : List UInt8} (h0 : 0 ≤ n) (hn : n ≤ 1099511627776) (h1 : lo ≤ n) (h2 : n ≤ hi) (h : (bytesOf s).drop p = VP.enc n.toNat ++ t) : NumIs s p false lo hi n (p + (VP.enc n.toNat).length) false ∧ (bytesOf s).drop (p + (VP.enc n.toNat).length) = t := by
  obtain ⟨m, rfl⟩ : ∃ m : Nat, n = m := ⟨n.toNat, by omega⟩
  rw [Int.toNat_natCast] at h ⊢
  exact NumIs.full (by omega) h1 h2 h

/-- So many batches that were seen, from a place. -/
def SnsIs (L : Lim) (s : ByteArray) : Nat → Nat → Bool → List Sn → Nat → Bool → Prop
  | 0, p, bad, l, p', bad' => l = [] ∧ p' = p ∧ bad' = bad
  | n + 1, p, bad, l, p', bad' => ∃ sq p1 b1 cnt p2 b2 o p3 b3 rest, NumIs s p bad 0 L.S sq p1 b1 ∧ NumIs s p1 b1 0 L.C cnt p2 b2 ∧ NumIs s p2 b2 0 L.B o p3 b3 ∧ l = ⟨sq, cnt, o - 1⟩ :: rest ∧ SnsIs L s n p3 b3 rest p' bad'
theorem snsIs_of (L : Lim) (s : ByteArray) : ∀ (n p : Nat) (bad : Bool), ∃ l p' bad', SnsIs L s n p bad l p' bad'
  | 0, p, bad => ⟨[], p, bad, rfl, rfl, rfl⟩
  | n + 1, p, bad => by
    obtain ⟨sq, p1, b1, h1⟩ := numIs_of s p bad 0 L.S
    obtain ⟨cnt, p2, b2, h2⟩ := numIs_of s p1 b1 0 L.C
    obtain ⟨o, p3, b3, h3⟩ := numIs_of s p2 b2 0 L.B
    obtain ⟨rest, p', bad', h4⟩ := snsIs_of L s n p3 b3
    exact ⟨_, p', bad', sq, p1, b1, cnt, p2, b2, o, p3, b3, rest, h1, h2, h3, rfl, h4⟩
theorem SnsIs.length : ∀ (n : Nat) {p : Nat} {bad : Bool} {l : List Sn} {p' : Nat} {bad' : Bool}, SnsIs L s n p bad l p' bad' → l.length = n
  | 0, _, _, _, _, _, ⟨h, _, _⟩ => by rw [h]; rfl
  | n + 1, _, _, _, _, _, ⟨_, _, _, _, _, _, _, _, _, rest, _, _, _, h, h'⟩ => by rw [h, List.length_cons, SnsIs.length n h']
theorem SnsIs.le : ∀ (n : Nat) {p : Nat} {bad : Bool} {l : List Sn} {p' : Nat} {bad' : Bool}, SnsIs L s n p bad l p' bad' → p ≤ s.size → p' ≤ s.size
  | 0, _, _, _, _, _, ⟨_, h, _⟩, hp => by rw [h]; exact hp
  | n + 1, _, _, _, _, _, ⟨_, _, _, _, _, _, _, _, _, _, h1, h2, h3, _, h4⟩, hp => SnsIs.le n h4 (h3.le (h2.le (h1.le hp)))
theorem SnsIs.bytes : ∀ (n : Nat) {p : Nat} {bad : Bool} {l : List Sn} {p' : Nat}, SnsIs L s n p bad l p' false → bad = false ∧ (bytesOf s).drop p = encSn l ++ (bytesOf s).drop p'
  | 0, _, _, _, _, ⟨h1, h2, h3⟩ => by subst h1 h2; exact ⟨h3.symm, by simp [encSn]⟩
  | n + 1, _, _, _, _, ⟨sq, p1, b1, cnt, p2, b2, o, p3, b3, rest, h1, h2, h3, h, h4⟩ => by
    obtain ⟨rfl, e4⟩ := SnsIs.bytes n h4
    obtain ⟨rfl, _, _, _, e3⟩ := h3.bytes
    obtain ⟨rfl, _, _, _, e2⟩ := h2.bytes
    obtain ⟨hb, _, _, _, e1⟩ := h1.bytes
    subst h
    refine ⟨hb, ?_⟩
    rw [e1, e2, e3, e4]
    simp [encSn, Sn.enc]
theorem SnsIs.full (hL : L.Ok) {nx : Int} (hn : nx ≤ 1048576) : ∀ (l : List Sn) {p : Nat} {t : List UInt8}, SnOk nx l → (bytesOf s).drop p = encSn l ++ t → SnsIs L s l.length p false l (p + (encSn l).length) false ∧ (bytesOf s).drop (p + (encSn l).length) = t
  | [], p, t, _, h => ⟨⟨rfl, by simp [encSn], rfl⟩, by simpa [encSn] using h⟩
  | ⟨sq, cnt, bs⟩ :: l, p, t, hg, h => by
    obtain ⟨⟨⟨c1, c2⟩, d1, d2⟩, a1, a2⟩ := hg.in _ (List.mem_cons_self ..)
    simp only at c1 c2 d1 d2 a1 a2
    have l1 := hL.S
    have l2 := hL.C
    have l3 := hL.B
    have h' : (bytesOf s).drop p = VP.enc sq.toNat ++ (VP.enc cnt.toNat ++ (VP.enc (bs + 1).toNat ++ (encSn l ++ t))) := by rw [h]; simp [encSn, Sn.enc]
    obtain ⟨t1, e1⟩ := NumIs.full' (lo := 0) (hi := L.S) a1 (by omega) a1 (by omega) h'
    obtain ⟨t2, e2⟩ := NumIs.full' (lo := 0) (hi := L.C) (by omega) (by omega) (by omega) (by omega) e1
    obtain ⟨t3, e3⟩ := NumIs.full' (lo := 0) (hi := L.B) (by omega) (by omega) (by omega) (by omega) e2
    obtain ⟨t4, e4⟩ := SnsIs.full hL hn l hg.2.2.2 e3
    have he : p + (VP.enc sq.toNat).length + (VP.enc cnt.toNat).length + (VP.enc (bs + 1).toNat).length + (encSn l).length = p + (encSn (⟨sq, cnt, bs⟩ :: l)).length := by
      simp only [encSn, Sn.enc, List.length_append]; omega
    rw [he] at t4 e4
    exact ⟨⟨_, _, _, _, _, _, _, _, _, _, t1, t2, t3, by rw [Int.add_sub_cancel], t4⟩, e4⟩

/-- The fields of a kind, from a place. -/
def BodyIs (L : Lim) (s : ByteArray) (k p : Nat) (bad : Bool) (x : En) (p' : Nat) (bad' : Bool) : Prop :=
  match k with
  | 0 => ∃ b, TakeIs s p bad b p' bad' ∧ x = dataE b
  | 1 => ∃ pid p1 b1 ep p2 b2 yes, NumIs s p bad 0 L.P pid p1 b1 ∧ NumIs s p1 b1 0 L.E ep p2 b2 ∧ FlagIs s p2 b2 yes p' bad' ∧ x = markE pid ep yes
  | 2 => ∃ off, NumIs s p bad 0 L.S off p' bad' ∧ x = cutE off
  | 3 => ∃ b p1 b1 yes p2 b2, TakeIs s p bad b p1 b1 ∧ FlagIs s p1 b1 yes p2 b2 ∧ ((yes = true ∧ ∃ nx, NumIs s p2 b2 0 L.S nx p' bad' ∧ x = copyE b true nx) ∨ (yes = false ∧ p' = p2 ∧ bad' = b2 ∧ x = copyE b false 0))
  | 4 => ∃ pid p1 b1 ep p2 b2 nx, NumIs s p bad 0 L.P pid p1 b1 ∧ NumIs s p1 b1 0 L.E ep p2 b2 ∧ NumIs s p2 b2 0 L.S nx p' bad' ∧ x = dropE pid ep nx
  | 5 => ∃ pid p1 b1 sq p2 b2 k p3 b3 v, NumIs s p bad 0 L.P pid p1 b1 ∧ NumIs s p1 b1 0 L.S sq p2 b2 ∧ TextIs s p2 b2 16 k p3 b3 ∧ TextIs s p3 b3 16 v p' bad' ∧ x = rowE pid sq k v
  | 6 => ∃ pid p1 b1 ep p2 b2 nx p3 b3 n p4 b4 l, NumIs s p bad 0 L.P pid p1 b1 ∧ NumIs s p1 b1 0 L.E ep p2 b2 ∧ NumIs s p2 b2 0 L.S nx p3 b3 ∧ NumIs s p3 b3 0 3 n p4 b4 ∧ SnsIs L s n.toNat p4 b4 l p' bad' ∧ x = stateE ⟨pid, ep, nx, l⟩
  | k => x = ⟨k, noBt, false, 0, 0, noRw, noPd⟩ ∧ p' = p ∧ bad' = bad
theorem bodyIs_of (L : Lim) (s : ByteArray) (k p : Nat) (bad : Bool) : ∃ x p' bad', BodyIs L s k p bad x p' bad' := by
  match k with
  | 0 =>
    obtain ⟨b, p', bad', h⟩ := takeIs_of s p bad
    exact ⟨_, p', bad', b, h, rfl⟩
  | 1 =>
    obtain ⟨pid, p1, b1, h1⟩ := numIs_of s p bad 0 L.P
    obtain ⟨ep, p2, b2, h2⟩ := numIs_of s p1 b1 0 L.E
    obtain ⟨yes, p3, b3, h3⟩ := flagIs_of s p2 b2
    exact ⟨_, p3, b3, pid, p1, b1, ep, p2, b2, yes, h1, h2, h3, rfl⟩
  | 2 =>
    obtain ⟨off, p1, b1, h1⟩ := numIs_of s p bad 0 L.S
    exact ⟨_, p1, b1, off, h1, rfl⟩
  | 3 =>
    obtain ⟨b, p1, b1, h1⟩ := takeIs_of s p bad
    obtain ⟨yes, p2, b2, h2⟩ := flagIs_of s p1 b1
    obtain ⟨nx, p3, b3, h3⟩ := numIs_of s p2 b2 0 L.S
    cases yes with
    | true => exact ⟨_, p3, b3, b, p1, b1, true, p2, b2, h1, h2, .inl ⟨rfl, nx, h3, rfl⟩⟩
    | false => exact ⟨_, p2, b2, b, p1, b1, false, p2, b2, h1, h2, .inr ⟨rfl, rfl, rfl, rfl⟩⟩
  | 4 =>
    obtain ⟨pid, p1, b1, h1⟩ := numIs_of s p bad 0 L.P
    obtain ⟨ep, p2, b2, h2⟩ := numIs_of s p1 b1 0 L.E
    obtain ⟨nx, p3, b3, h3⟩ := numIs_of s p2 b2 0 L.S
    exact ⟨_, p3, b3, pid, p1, b1, ep, p2, b2, nx, h1, h2, h3, rfl⟩
  | 5 =>
    obtain ⟨pid, p1, b1, h1⟩ := numIs_of s p bad 0 L.P
    obtain ⟨sq, p2, b2, h2⟩ := numIs_of s p1 b1 0 L.S
    obtain ⟨k, p3, b3, h3⟩ := textIs_of s p2 b2 16
    obtain ⟨v, p4, b4, h4⟩ := textIs_of s p3 b3 16
    exact ⟨_, p4, b4, pid, p1, b1, sq, p2, b2, k, p3, b3, v, h1, h2, h3, h4, rfl⟩
  | 6 =>
    obtain ⟨pid, p1, b1, h1⟩ := numIs_of s p bad 0 L.P
    obtain ⟨ep, p2, b2, h2⟩ := numIs_of s p1 b1 0 L.E
    obtain ⟨nx, p3, b3, h3⟩ := numIs_of s p2 b2 0 L.S
    obtain ⟨n, p4, b4, h4⟩ := numIs_of s p3 b3 0 3
    obtain ⟨l, p5, b5, h5⟩ := snsIs_of L s n.toNat p4 b4
    exact ⟨_, p5, b5, pid, p1, b1, ep, p2, b2, nx, p3, b3, n, p4, b4, l, h1, h2, h3, h4, h5, rfl⟩
  | k + 7 => exact ⟨_, p, bad, rfl, rfl, rfl⟩
theorem BodyIs.kind {k p : Nat} {bad : Bool} {x : En} {p' : Nat} {bad' : Bool} (h : BodyIs L s k p bad x p' bad') : x.kind = k := by
  match k with
  | 0 => obtain ⟨_, _, rfl⟩ := h; rfl
  | 1 => obtain ⟨_, _, _, _, _, _, _, _, _, _, rfl⟩ := h; rfl
  | 2 => obtain ⟨_, _, rfl⟩ := h; rfl
  | 3 => obtain ⟨_, _, _, _, _, _, _, _, ⟨_, _, _, rfl⟩ | ⟨_, _, _, rfl⟩⟩ := h <;> rfl
  | 4 => obtain ⟨_, _, _, _, _, _, _, _, _, _, rfl⟩ := h; rfl
  | 5 => obtain ⟨_, _, _, _, _, _, _, _, _, _, _, _, _, _, rfl⟩ := h; rfl
  | 6 => obtain ⟨_, _, _, _, _, _, _, _, _, _, _, _, _, _, _, _, _, _, rfl⟩ := h; rfl
  | k + 7 => obtain ⟨rfl, _, _⟩ := h; rfl
theorem BodyIs.le {k p : Nat} {bad : Bool} {x : En} {p' : Nat} {bad' : Bool} (h : BodyIs L s k p bad x p' bad') (hp : p ≤ s.size) : p' ≤ s.size := by
  match k with
  | 0 => obtain ⟨_, h, _⟩ := h; exact h.le hp
  | 1 => obtain ⟨_, _, _, _, _, _, _, h1, h2, h3, _⟩ := h; exact h3.le (h2.le (h1.le hp))
  | 2 => obtain ⟨_, h, _⟩ := h; exact h.le hp
  | 3 =>
    obtain ⟨_, _, _, _, _, _, h1, h2, ⟨_, _, h3, _⟩ | ⟨_, rfl, _, _⟩⟩ := h
    · exact h3.le (h2.le (h1.le hp))
    · exact h2.le (h1.le hp)
  | 4 => obtain ⟨_, _, _, _, _, _, _, h1, h2, h3, _⟩ := h; exact h3.le (h2.le (h1.le hp))
  | 5 => obtain ⟨_, _, _, _, _, _, _, _, _, _, h1, h2, h3, h4, _⟩ := h; exact h4.le (h3.le (h2.le (h1.le hp)))
  | 6 => obtain ⟨_, _, _, _, _, _, _, _, _, _, _, _, _, h1, h2, h3, h4, h5, _⟩ := h; exact SnsIs.le _ h5 (h4.le (h3.le (h2.le (h1.le hp))))
  | k + 7 => obtain ⟨_, rfl, _⟩ := h; exact hp
theorem BodyIs.bytes {k p : Nat} {bad : Bool} {x : En} {p' : Nat} (h : BodyIs L s k p bad x p' false) : bad = false ∧ (bytesOf s).drop p = x.body ++ (bytesOf s).drop p' := by
  match k with
  | 0 =>
    obtain ⟨b, h, rfl⟩ := h
    obtain ⟨hb, e⟩ := h.ok.1.bytes
    exact ⟨hb, by simpa [En.body, dataE] using e⟩
  | 1 =>
    obtain ⟨pid, p1, b1, ep, p2, b2, yes, h1, h2, h3, rfl⟩ := h
    obtain ⟨rfl, e3⟩ := h3.bytes
    obtain ⟨rfl, _, _, _, e2⟩ := h2.bytes
    obtain ⟨hb, _, _, _, e1⟩ := h1.bytes
    exact ⟨hb, by rw [e1, e2, e3]; simp [En.body, markE]⟩
  | 2 =>
    obtain ⟨off, h1, rfl⟩ := h
    obtain ⟨hb, _, _, _, e1⟩ := h1.bytes
    exact ⟨hb, by rw [e1]; simp [En.body, cutE]⟩
  | 3 =>
    obtain ⟨b, p1, b1, yes, p2, b2, h1, h2, ⟨rfl, nx, h3, rfl⟩ | ⟨rfl, rfl, hb2, rfl⟩⟩ := h
    · obtain ⟨rfl, _, _, _, e3⟩ := h3.bytes
      obtain ⟨rfl, e2⟩ := h2.bytes
      obtain ⟨hb, e1⟩ := h1.ok.1.bytes
      exact ⟨hb, by rw [e1, e2, e3]; simp [En.body, copyE]⟩
    · subst hb2
      obtain ⟨rfl, e2⟩ := h2.bytes
      obtain ⟨hb, e1⟩ := h1.ok.1.bytes
      exact ⟨hb, by rw [e1, e2]; simp [En.body, copyE]⟩
  | 4 =>
    obtain ⟨pid, p1, b1, ep, p2, b2, nx, h1, h2, h3, rfl⟩ := h
    obtain ⟨rfl, _, _, _, e3⟩ := h3.bytes
    obtain ⟨rfl, _, _, _, e2⟩ := h2.bytes
    obtain ⟨hb, _, _, _, e1⟩ := h1.bytes
    exact ⟨hb, by rw [e1, e2, e3]; simp [En.body, dropE]⟩
  | 5 =>
    obtain ⟨pid, p1, b1, sq, p2, b2, k, p3, b3, v, h1, h2, h3, h4, rfl⟩ := h
    obtain ⟨rfl, e4⟩ := h4.bytes
    obtain ⟨rfl, e3⟩ := h3.bytes
    obtain ⟨rfl, _, _, _, e2⟩ := h2.bytes
    obtain ⟨hb, _, _, _, e1⟩ := h1.bytes
    exact ⟨hb, by rw [e1, e2, e3, e4]; simp [En.body, rowE, encRow]⟩
  | 6 =>
    obtain ⟨pid, p1, b1, ep, p2, b2, nx, p3, b3, n, p4, b4, l, h1, h2, h3, h4, h5, rfl⟩ := h
    have hl := SnsIs.length _ h5
    obtain ⟨rfl, e5⟩ := SnsIs.bytes _ h5
    obtain ⟨rfl, _, _, _, e4⟩ := h4.bytes
    obtain ⟨rfl, _, _, _, e3⟩ := h3.bytes
    obtain ⟨rfl, _, _, _, e2⟩ := h2.bytes
    obtain ⟨hb, _, _, _, e1⟩ := h1.bytes
    exact ⟨hb, by rw [e1, e2, e3, e4, e5, ← hl]; simp [En.body, stateE, Pd.enc]⟩
  | k + 7 =>
    obtain ⟨rfl, rfl, hb⟩ := h
    refine ⟨hb.symm, ?_⟩
    have h0 : ∀ j : Int, j < 7 → ¬ (((k + 7 : Nat) : Int) = j) := by omega
    simp only [En.body, h0 0 (by omega), h0 1 (by omega), h0 2 (by omega), h0 3 (by omega), h0 4 (by omega), h0 5 (by omega), h0 6 (by omega), if_false, List.nil_append]
theorem BodyIs.full (hL : L.Ok) {x : En} {p : Nat} {t : List UInt8} (hx : x.Good) (h : (bytesOf s).drop p = x.body ++ t) : ∃ p', BodyIs L s x.kind.toNat p false x p' false ∧ (bytesOf s).drop p' = t := by
  have lP := hL.P
  have lE := hL.E
  have lS := hL.S
  cases hx with
  | data b hb =>
    have h' : (bytesOf s).drop p = b.enc ++ t := by rw [h]; simp [En.body, dataE]
    obtain ⟨h1, h2⟩ := TakeIs.full hb h'
    exact ⟨_, ⟨b, h1, rfl⟩, h2⟩
  | mark pid ep yes hn =>
    obtain ⟨⟨n1, n2⟩, n3, n4⟩ := hn
    have h' : (bytesOf s).drop p = VP.enc pid.toNat ++ (VP.enc ep.toNat ++ (flagByte yes :: t)) := by rw [h]; simp [En.body, markE]
    obtain ⟨t1, e1⟩ := NumIs.full' (lo := 0) (hi := L.P) (by omega) (by omega) (by omega) (by omega) h'
    obtain ⟨t2, e2⟩ := NumIs.full' (lo := 0) (hi := L.E) (by omega) (by omega) (by omega) (by omega) e1
    obtain ⟨t3, e3⟩ := FlagIs.full e2
    exact ⟨_, ⟨_, _, _, _, _, _, _, t1, t2, t3, rfl⟩, e3⟩
  | cut off hn =>
    have h' : (bytesOf s).drop p = VP.enc off.toNat ++ t := by rw [h]; simp [En.body, cutE]
    obtain ⟨t1, e1⟩ := NumIs.full' (lo := 0) (hi := L.S) (by omega) (by omega) (by omega) (by omega) h'
    exact ⟨_, ⟨_, t1, rfl⟩, e1⟩
  | copy b yes nx hb ht hn hy =>
    cases yes with
    | true =>
      have h' : (bytesOf s).drop p = b.enc ++ (flagByte true :: (VP.enc nx.toNat ++ t)) := by rw [h]; simp [En.body, copyE]
      obtain ⟨t1, e1⟩ := TakeIs.full hb h'
      obtain ⟨t2, e2⟩ := FlagIs.full e1
      obtain ⟨t3, e3⟩ := NumIs.full' (lo := 0) (hi := L.S) (by omega) (by omega) (by omega) (by omega) e2
      exact ⟨_, ⟨_, _, _, _, _, _, t1, t2, .inl ⟨rfl, _, t3, rfl⟩⟩, e3⟩
    | false =>
      have h' : (bytesOf s).drop p = b.enc ++ (flagByte false :: t) := by rw [h]; simp [En.body, copyE]
      obtain ⟨t1, e1⟩ := TakeIs.full hb h'
      obtain ⟨t2, e2⟩ := FlagIs.full e1
      exact ⟨_, ⟨_, _, _, _, _, _, t1, t2, .inr ⟨rfl, rfl, rfl, by rw [hy rfl]⟩⟩, e2⟩
  | drop pid ep nx hn hx =>
    obtain ⟨⟨n1, n2⟩, n3, n4⟩ := hn
    have h' : (bytesOf s).drop p = VP.enc pid.toNat ++ (VP.enc ep.toNat ++ (VP.enc nx.toNat ++ t)) := by rw [h]; simp [En.body, dropE]
    obtain ⟨t1, e1⟩ := NumIs.full' (lo := 0) (hi := L.P) (by omega) (by omega) (by omega) (by omega) h'
    obtain ⟨t2, e2⟩ := NumIs.full' (lo := 0) (hi := L.E) (by omega) (by omega) (by omega) (by omega) e1
    obtain ⟨t3, e3⟩ := NumIs.full' (lo := 0) (hi := L.S) (by omega) (by omega) (by omega) (by omega) e2
    exact ⟨_, ⟨_, _, _, _, _, _, _, t1, t2, t3, rfl⟩, e3⟩
  | row pid sq k v hn =>
    obtain ⟨⟨n1, n2⟩, ⟨n3, n4⟩, n5, n6⟩ := hn
    have h' : (bytesOf s).drop p = VP.enc pid.toNat ++ (VP.enc sq.toNat ++ (VP.enc k.size ++ (bytesOf k ++ (VP.enc v.size ++ (bytesOf v ++ t))))) := by rw [h]; simp [En.body, rowE, encRow]
    obtain ⟨t1, e1⟩ := NumIs.full' (lo := 0) (hi := L.P) (by omega) (by omega) (by omega) (by omega) h'
    obtain ⟨t2, e2⟩ := NumIs.full' (lo := 0) (hi := L.S) (by omega) (by omega) (by omega) (by omega) e1
    obtain ⟨t3, e3⟩ := TextIs.full n5 e2
    obtain ⟨t4, e4⟩ := TextIs.full n6 e3
    exact ⟨_, ⟨_, _, _, _, _, _, _, _, _, _, t1, t2, t3, t4, rfl⟩, e4⟩
  | state q hq =>
    obtain ⟨pid, ep, nx, l⟩ := q
    obtain ⟨⟨⟨n1, n2⟩, n3, n4⟩, ⟨n5, n6⟩, n7, n8⟩ := hq
    simp only at n1 n2 n3 n4 n5 n6 n7 n8
    have h' : (bytesOf s).drop p = VP.enc pid.toNat ++ (VP.enc ep.toNat ++ (VP.enc nx.toNat ++ (VP.enc l.length ++ (encSn l ++ t)))) := by rw [h]; simp [En.body, stateE, Pd.enc]
    obtain ⟨t1, e1⟩ := NumIs.full' (lo := 0) (hi := L.P) (by omega) (by omega) (by omega) (by omega) h'
    obtain ⟨t2, e2⟩ := NumIs.full' (lo := 0) (hi := L.E) (by omega) (by omega) (by omega) (by omega) e1
    obtain ⟨t3, e3⟩ := NumIs.full' (lo := 0) (hi := L.S) (by omega) (by omega) (by omega) (by omega) e2
    obtain ⟨t4, e4⟩ := NumIs.full (lo := 0) (hi := 3) (n := l.length) (by omega) (by omega) (by omega) e3
    obtain ⟨t5, e5⟩ := SnsIs.full hL n6 l n8 e4
    exact ⟨_, ⟨_, _, _, _, _, _, _, _, _, _, _, _, _, t1, t2, t3, t4, by rw [Int.toNat_natCast]; exact t5, rfl⟩, e5⟩

/-- The entry whose bytes are these, or none. -/
def EReadIs (s : ByteArray) (x : En) (er : Int) : Prop := (bytesOf s = x.enc ∧ x.Good ∧ er = 0) ∨ ((∀ y : En, y.Good → bytesOf s ≠ y.enc) ∧ x = noEn ∧ er = 70)
theorem eReadIs_of (s : ByteArray) : ∃ x er, EReadIs s x er := by
  by_cases h : ∃ x : En, x.Good ∧ bytesOf s = x.enc
  · obtain ⟨x, h1, h2⟩ := h
    exact ⟨x, 0, .inl ⟨h2, h1, rfl⟩⟩
  · exact ⟨noEn, 70, .inr ⟨fun x hx he => h ⟨x, hx, he⟩, rfl, rfl⟩⟩
/-- What a reading is told, whatever it reads. -/
def Told (s : ByteArray) (x : En) (er : Int) (y : En) (p : Nat) (bad : Bool) : Prop :=
  (bad = false ∧ p = s.size ∧ y.Good ∧ er = 0 ∧ x = y) ∨ ((bad = true ∨ p ≠ s.size ∨ ¬ y.Good) ∧ er = 70 ∧ x = noEn)
theorem EReadIs.raw {x : En} {er K : Int} (h : EReadIs s x er) (hL : L.Ok) (hK : 6 ≤ K) : ∃ (k : Nat) (p0 : Nat) (b0 : Bool) (y : En) (p : Nat) (bad : Bool), (k : Int) ≤ K ∧ NumIs s 0 false 0 K k p0 b0 ∧ BodyIs L s k p0 b0 y p bad ∧ Told s x er y p bad := by
  rcases h with ⟨h1, h2, rfl⟩ | ⟨h1, rfl, rfl⟩
  · have hk := h2.kind
    obtain ⟨t1, e1⟩ := NumIs.full' (s := s) (p := 0) (lo := 0) (hi := K) (n := x.kind) (t := x.body) (by omega) (by omega) (by omega) (by omega) (by rw [h1]; rfl)
    obtain ⟨p', t2, e2⟩ := BodyIs.full (t := []) hL h2 (by rw [e1]; simp)
    have hp := t2.le (t1.le (Nat.zero_le _))
    have hl := congrArg List.length e2
    rw [List.length_drop, bytesOf_length] at hl
    simp only [List.length_nil] at hl
    have e : ((x.kind.toNat : Nat) : Int) = x.kind := by omega
    exact ⟨x.kind.toNat, _, _, x, p', false, by omega, by rw [e]; exact t1, t2, .inl ⟨rfl, by omega, h2, rfl, rfl⟩⟩
  · obtain ⟨k, p0, b0, t1⟩ := numIs_of s 0 false 0 K
    have hk := t1.in (by omega)
    obtain ⟨y, p, bad, t2⟩ := bodyIs_of L s k.toNat p0 b0
    have e : ((k.toNat : Nat) : Int) = k := by omega
    refine ⟨k.toNat, p0, b0, y, p, bad, by omega, by rw [e]; exact t1, t2, .inr ⟨?_, rfl, rfl⟩⟩
    by_cases hb : bad = true
    · exact .inl hb
    · by_cases hp : p = s.size
      · refine .inr (.inr fun hg => h1 y hg ?_)
        obtain rfl : bad = false := by simpa using hb
        have hyk := t2.kind
        obtain ⟨rfl, e2⟩ := t2.bytes
        obtain ⟨_, _, _, _, e1⟩ := t1.bytes
        rw [List.drop_zero, e2, hp, List.drop_of_length_le (l := bytesOf s) (i := s.size) (by rw [bytesOf_length]; omega), List.append_nil] at e1
        rw [e1, En.enc, hyk, e]
      · exact .inr (.inl hp)
end
def progLim : Lim := ⟨1099511627776, 1099511627776, 1099511627776, 1099511627776, 1099511627776⟩
theorem progLim_ok : progLim.Ok := ⟨by decide, by decide, by decide, by decide, by decide⟩
def refLim : Lim := ⟨8, 100, 1048576, 4, 1048577⟩
theorem refLim_ok : refLim.Ok := ⟨by decide, by decide, by decide, by decide, by decide⟩
def EBytesIs (x : En) (s : ByteArray) (er : Int) : Prop := (x.Good ∧ s = ⟨x.enc.toArray⟩ ∧ er = 0) ∨ (¬ x.Good ∧ s = ⟨#[]⟩ ∧ er = 2)
theorem eBytesIs_of (x : En) : ∃ s er, EBytesIs x s er := by
  by_cases h : x.Good
  · exact ⟨_, _, .inl ⟨h, rfl, rfl⟩⟩
  · exact ⟨_, _, .inr ⟨h, rfl, rfl⟩⟩
theorem iff_of (p : Prop) : ∃ m : Bool, m = true ↔ p := by
  by_cases h : p
  · exact ⟨true, fun _ => h, fun _ => rfl⟩
  · exact ⟨false, by simp, fun h' => absurd h' h⟩
end Go.Proofs.YtchpemgamgcbkaaGreat

namespace Go.Proofs.YtchpemgamgcbkaaGreat
open Go.RowKit

def scell (s : Sn) : List Value := [.int .i64 s.sq, .int .i64 s.cnt, .int .i64 s.bs]
def scells (l : List Sn) : List Value := l.flatMap scell
theorem scells_length (l : List Sn) : (scells l).length = l.length * 3 := flat_length scell 3 (fun _ => rfl) l
theorem scells_append (a b : List Sn) : scells (a ++ b) = scells a ++ scells b := by simp [scells]
theorem scells_one (l : List Sn) : ∀ u ∈ scells l, u.oneCell' = true := by
  intro u hu
  simp only [scells, List.mem_flatMap, scell] at hu
  obtain ⟨f, _, hu⟩ := hu
  simp at hu
  rcases hu with rfl | rfl | rfl <;> rfl
theorem sn_at {w : World} {B : Nat} {A : Option Addr} {l : List Sn} {k : Nat} {r : Sn} (h : Seen w B A (scells l)) (hk : l[k]? = some r) :
    ∃ b off, A = some ⟨b, off, none⟩ ∧ b < B ∧ w.cell? ⟨b, off + k * 3, none⟩ = some (.int .i64 r.sq) ∧ w.cell? ⟨b, off + k * 3 + 1, none⟩ = some (.int .i64 r.cnt) ∧ w.cell? ⟨b, off + k * 3 + 2, none⟩ = some (.int .i64 r.bs) := by
  have ha : ∀ j, j < 3 → (scells l)[k * 3 + j]? = (scell r)[j]? := fun j hj => flat_at scell 3 (fun _ => rfl) hk j hj
  obtain ⟨b, off, rfl, hb, hc⟩ := h (by intro e; have := ha 0 (by omega); rw [e] at this; simp [scell] at this)
  refine ⟨b, off, rfl, hb, hc _ _ (ha 0 (by omega)), ?_, ?_⟩ <;> rw [Nat.add_assoc]
  · exact hc _ _ (ha 1 (by omega))
  · exact hc _ _ (ha 2 (by omega))
theorem sn_here {l : List Sn} {k n : Nat} (hn : l.length = n) (hk : k < n) : ∃ r, l[k]? = some r := ⟨_, List.getElem?_eq_getElem (by omega)⟩

theorem Var.cells3 {w : World} {g T : Nat} {a b c : Value} (h : Var w g T #[a, b, c]) : w.cell? ⟨g, 0, none⟩ = some a ∧ w.cell? ⟨g, 1, none⟩ = some b ∧ w.cell? ⟨g, 2, none⟩ = some c ∧ ∀ i, w.frozen? ⟨g, i, none⟩ = false :=
  ⟨h.cell 0 rfl, h.cell 1 rfl, h.cell 2 rfl, h.free⟩
theorem Var.cells4 {w : World} {g T : Nat} {a b c d : Value} (h : Var w g T #[a, b, c, d]) : w.cell? ⟨g, 0, none⟩ = some a ∧ w.cell? ⟨g, 1, none⟩ = some b ∧ w.cell? ⟨g, 2, none⟩ = some c ∧ w.cell? ⟨g, 3, none⟩ = some d ∧ ∀ i, w.frozen? ⟨g, i, none⟩ = false :=
  ⟨h.cell 0 rfl, h.cell 1 rfl, h.cell 2 rfl, h.cell 3 rfl, h.free⟩
/-- A producer's cells; the batches that it has seen lie at A. -/
def pvals (p : Pd) (A : Option Addr) (n c : Nat) : Array Value := #[.int .i64 p.pid, .int .i64 p.ep, .int .i64 p.nx, .slice A n c]
/-- An entry's cells; its records lie at A, the batches that its producer has seen at A2. -/
def evals (x : En) (A : Option Addr) (n c : Nat) (A2 : Option Addr) (n2 c2 : Nat) : Array Value :=
  #[.int .i8 x.kind, .int .i64 x.b.pid, .int .i64 x.b.ep, .int .i64 x.b.sq, .bool x.b.tx, .slice A n c, .bool x.yes, .int .i64 x.nx, .int .i64 x.off,
    .int .i64 x.row.off, .int .i64 x.row.pid, .int .i64 x.row.sq, .string x.row.k, .string x.row.v, .int .i64 x.pd.pid, .int .i64 x.pd.ep, .int .i64 x.pd.nx, .slice A2 n2 c2]
theorem Var.cells18 {w : World} {g T : Nat} {a0 a1 a2 a3 a4 a5 a6 a7 a8 a9 a10 a11 a12 a13 a14 a15 a16 a17 : Value} (h : Var w g T #[a0, a1, a2, a3, a4, a5, a6, a7, a8, a9, a10, a11, a12, a13, a14, a15, a16, a17]) :
    w.cell? ⟨g, 0, none⟩ = some a0 ∧ w.cell? ⟨g, 1, none⟩ = some a1 ∧ w.cell? ⟨g, 2, none⟩ = some a2 ∧ w.cell? ⟨g, 3, none⟩ = some a3 ∧ w.cell? ⟨g, 4, none⟩ = some a4 ∧ w.cell? ⟨g, 5, none⟩ = some a5 ∧ w.cell? ⟨g, 6, none⟩ = some a6 ∧ w.cell? ⟨g, 7, none⟩ = some a7 ∧
    w.cell? ⟨g, 8, none⟩ = some a8 ∧ w.cell? ⟨g, 9, none⟩ = some a9 ∧ w.cell? ⟨g, 10, none⟩ = some a10 ∧ w.cell? ⟨g, 11, none⟩ = some a11 ∧ w.cell? ⟨g, 12, none⟩ = some a12 ∧ w.cell? ⟨g, 13, none⟩ = some a13 ∧ w.cell? ⟨g, 14, none⟩ = some a14 ∧
    w.cell? ⟨g, 15, none⟩ = some a15 ∧ w.cell? ⟨g, 16, none⟩ = some a16 ∧ w.cell? ⟨g, 17, none⟩ = some a17 ∧ ∀ i, w.frozen? ⟨g, i, none⟩ = false :=
  ⟨h.cell 0 rfl, h.cell 1 rfl, h.cell 2 rfl, h.cell 3 rfl, h.cell 4 rfl, h.cell 5 rfl, h.cell 6 rfl, h.cell 7 rfl, h.cell 8 rfl, h.cell 9 rfl, h.cell 10 rfl, h.cell 11 rfl, h.cell 12 rfl, h.cell 13 rfl, h.cell 14 rfl, h.cell 15 rfl, h.cell 16 rfl, h.cell 17 rfl, h.free⟩

/-- A producer in memory: what lies behind its cells, in blocks below B. -/
structure PIn (w : World) (B : Nat) (p : Pd) (A : Option Addr) (n c : Nat) : Prop where
  len : p.sn.length = n
  seen : Seen w B A (scells p.sn)
  cap : n ≤ c
  max : n ≤ 9223372036854775807
/-- An entry in memory: what lies behind its cells, in blocks below B. -/
structure EIn (w : World) (B : Nat) (x : En) (A : Option Addr) (n c : Nat) (A2 : Option Addr) (n2 c2 : Nat) : Prop where
  len : x.b.rs.length = n
  seen : Seen w B A (rcells x.b.rs)
  cap : n ≤ c
  max : n ≤ 9223372036854775807
  sizes : ∀ y ∈ x.b.rs, y.k.size ≤ 9223372036854775807 ∧ y.v.size ≤ 9223372036854775807
  ksize : x.row.k.size ≤ 9223372036854775807 ∧ x.row.v.size ≤ 9223372036854775807
  pd : PIn w B x.pd A2 n2 c2
section
variable {w w' : World} {B B' : Nat} {p : Pd} {x : En} {A A2 : Option Addr} {n c n2 c2 : Nat}
theorem PIn.below (h : PIn w B p A n c) (hb : Below B w w') : PIn w' B p A n c := ⟨h.len, h.seen.below hb, h.cap, h.max⟩
theorem PIn.up (h : PIn w B p A n c) (hb : B ≤ B') : PIn w B' p A n c := ⟨h.len, h.seen.up hb, h.cap, h.max⟩
theorem EIn.below (h : EIn w B x A n c A2 n2 c2) (hb : Below B w w') : EIn w' B x A n c A2 n2 c2 := ⟨h.len, h.seen.below hb, h.cap, h.max, h.sizes, h.ksize, h.pd.below hb⟩
theorem EIn.up (h : EIn w B x A n c A2 n2 c2) (hb : B ≤ B') : EIn w B' x A n c A2 n2 c2 := ⟨h.len, h.seen.up hb, h.cap, h.max, h.sizes, h.ksize, h.pd.up hb⟩
end
theorem noEn_in (w : World) (B : Nat) : EIn w B noEn none 0 0 none 0 0 := ⟨rfl, Seen.nil _ _ _, Nat.le_refl _, by omega, fun y hy => (by cases hy), ⟨by simp [noEn, noRw, ByteArray.size], by simp [noEn, noRw, ByteArray.size]⟩, ⟨rfl, Seen.nil _ _ _, Nat.le_refl _, by omega⟩⟩

@[go_sem] theorem sn_eq (x y z x' y' z' : Int) (w : World) : (Op.equalIn 10000 75 (.agg #[.int .i64 x, .int .i64 y, .int .i64 z]) (.agg #[.int .i64 x', .int .i64 y', .int .i64 z'])).run Tryz.prog w = .ok (x == x' && (y == y' && z == z')) w := by
  have u3 := Tryz.underlying3
  have a3 := Tryz.isAgg3
  have z3 := Tryz.sizeOf3
  have hS : Tryz.prog.underlying 75 = some (.struct (Tryz.prog.fieldsOf 75)) := by kernel_rfl
  have hp : Tryz.prog.stoodInHeld 75 = false := by kernel_rfl
  rw [show (10000 : Nat) = 9999 + 1 from rfl, run_equalIn_agg w 9999 75 _ _ hS hp]
  simp only [Program.fieldsOf, Tryz.underlying75]
  go_simp
  cases h1 : x == x' <;> cases h2 : y == y' <;> cases h3 : z == z' <;> simp_all
theorem sn_ne {x y z x' y' z' : Int} (h : (⟨x, y, z⟩ : Sn) ≠ ⟨x', y', z'⟩) : (x == x') = false ∨ (x = x' ∧ (y == y') = false) ∨ (x = x' ∧ y = y' ∧ (z == z') = false) := by
  by_cases h1 : x = x'
  · subst h1
    by_cases h2 : y = y'
    · subst h2
      refine .inr (.inr ⟨rfl, rfl, ?_⟩)
      rw [beq_eq_false_iff_ne]
      exact fun h3 => h (by rw [h3])
    · exact .inr (.inl ⟨rfl, by rw [beq_eq_false_iff_ne]; exact h2⟩)
  · exact .inl (by rw [beq_eq_false_iff_ne]; exact h1)
end Go.Proofs.YtchpemgamgcbkaaGreat
