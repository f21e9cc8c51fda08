/-
  Requests as the document says: which are valid, their bytes, what is read field by field, and that what was written is read. No conditions.
-/
import Derived.Test.YtfcifblbapadpaaGreatDoorReqG6
namespace Go.Proofs.YtfcifblbapadpaaGreatDoor
open Go.RowKit

structure Rq where
  kind : Int
  tid : Int
  timeout : Int
  pid : Int
  ep : Int
  part : Int
  group : Int
  off : Int
  most : Int
  yes : Bool
  b : Bt
/-- A request's fields, and the end behind them. -/
inductive Fd : Type
  | tid | timeout | pid | ep | part | group | off | most | yes | batch | fin
/-- A request of a kind alone. -/
def Rq.of (k : Int) : Rq := ⟨k, 0, 0, 0, 0, 0, 0, 0, 0, false, noBt⟩
def noRq : Rq := Rq.of 0
def fdsOf (k : Int) : List Fd :=
  if k = 1 then [.tid, .timeout] else if k = 2 then [.part, .batch] else if k = 3 then [.pid, .ep, .group, .part, .off] else if k = 4 then [.pid, .ep, .yes] else if k = 5 then [.part, .off, .most, .yes]
  else if k = 6 then [.group, .part, .off] else if k = 7 then [.group, .part] else if k = 8 then [.part, .off] else []
def Fd.lo : Bool → Fd → Int
  | true, .timeout | true, .pid | true, .most => 1
  | _, _ => 0
def Fd.hi : Bool → Fd → Int
  | true, .tid => 2
  | true, .timeout => 20
  | true, .pid => 8
  | true, .ep => 100
  | true, .part => 2
  | true, .group => 1
  | true, .off => 1048576
  | true, .most => 64
  | _, _ => 1099511627776
/-- x with y's field. -/
def Rq.copy (y x : Rq) : Fd → Rq
  | .tid => { x with tid := y.tid }
  | .timeout => { x with timeout := y.timeout }
  | .pid => { x with pid := y.pid }
  | .ep => { x with ep := y.ep }
  | .part => { x with part := y.part }
  | .group => { x with group := y.group }
  | .off => { x with off := y.off }
  | .most => { x with most := y.most }
  | .yes => { x with yes := y.yes }
  | .batch => { x with b := y.b }
  | .fin => x
/-- The same in a field. -/
def SameAt (x y : Rq) : Fd → Prop
  | .tid => x.tid = y.tid
  | .timeout => x.timeout = y.timeout
  | .pid => x.pid = y.pid
  | .ep => x.ep = y.ep
  | .part => x.part = y.part
  | .group => x.group = y.group
  | .off => x.off = y.off
  | .most => x.most = y.most
  | .yes => x.yes = y.yes
  | .batch => x.b = y.b
  | .fin => True
def Between (lo hi n : Int) : Prop := lo ≤ n ∧ n ≤ hi
def Rq.Ok (L : Bool) (y : Rq) : Fd → Prop
  | .tid => Between (Fd.lo L .tid) (Fd.hi L .tid) y.tid
  | .timeout => Between (Fd.lo L .timeout) (Fd.hi L .timeout) y.timeout
  | .pid => Between (Fd.lo L .pid) (Fd.hi L .pid) y.pid
  | .ep => Between (Fd.lo L .ep) (Fd.hi L .ep) y.ep
  | .part => Between (Fd.lo L .part) (Fd.hi L .part) y.part
  | .group => Between (Fd.lo L .group) (Fd.hi L .group) y.group
  | .off => Between (Fd.lo L .off) (Fd.hi L .off) y.off
  | .most => Between (Fd.lo L .most) (Fd.hi L .most) y.most
  | .yes => True
  | .batch => y.b.Good
  | .fin => True
/-- With its kind's fields alone. -/
def Rq.bare (y : Rq) : Rq := (fdsOf y.kind).foldl (fun x f => y.copy x f) (Rq.of y.kind)
/-- Valid. -/
def Rq.Good (y : Rq) : Prop := Between 0 9 y.kind ∧ (∀ f ∈ fdsOf y.kind, y.Ok true f) ∧ y = y.bare
def Rq.encF (y : Rq) : Fd → List UInt8
  | .tid => VP.enc y.tid.toNat
  | .timeout => VP.enc y.timeout.toNat
  | .pid => VP.enc y.pid.toNat
  | .ep => VP.enc y.ep.toNat
  | .part => VP.enc y.part.toNat
  | .group => VP.enc y.group.toNat
  | .off => VP.enc y.off.toNat
  | .most => VP.enc y.most.toNat
  | .yes => [flagByte y.yes]
  | .batch => VP.enc y.b.enc.length ++ y.b.enc
  | .fin => []
def encFs (y : Rq) (fs : List Fd) : List UInt8 := fs.flatMap y.encF
def Rq.enc (y : Rq) : List UInt8 := VP.enc y.kind.toNat ++ encFs y (fdsOf y.kind)

/-- What is read from a place by one of the reader's methods: into x; whether that is wrong. L: held to the field's own range. -/
def FxIs (L : Bool) (s : ByteArray) (p : Nat) (bad : Bool) (x : Rq) (f : Fd) (x' : Rq) (p' : Nat) (bad' : Bool) : Prop :=
  match f with
  | .tid => ∃ v, NumIs s p bad (Fd.lo L .tid) (Fd.hi L .tid) v p' bad' ∧ x' = { x with tid := v }
  | .timeout => ∃ v, NumIs s p bad (Fd.lo L .timeout) (Fd.hi L .timeout) v p' bad' ∧ x' = { x with timeout := v }
  | .pid => ∃ v, NumIs s p bad (Fd.lo L .pid) (Fd.hi L .pid) v p' bad' ∧ x' = { x with pid := v }
  | .ep => ∃ v, NumIs s p bad (Fd.lo L .ep) (Fd.hi L .ep) v p' bad' ∧ x' = { x with ep := v }
  | .part => ∃ v, NumIs s p bad (Fd.lo L .part) (Fd.hi L .part) v p' bad' ∧ x' = { x with part := v }
  | .group => ∃ v, NumIs s p bad (Fd.lo L .group) (Fd.hi L .group) v p' bad' ∧ x' = { x with group := v }
  | .off => ∃ v, NumIs s p bad (Fd.lo L .off) (Fd.hi L .off) v p' bad' ∧ x' = { x with off := v }
  | .most => ∃ v, NumIs s p bad (Fd.lo L .most) (Fd.hi L .most) v p' bad' ∧ x' = { x with most := v }
  | .yes => ∃ v, FlagIs s p bad v p' bad' ∧ x' = { x with yes := v }
  | .batch => ∃ t b1 bt er, TextIs s p bad 1024 t p' b1 ∧ ReadIs t bt er ∧ x' = { x with b := bt } ∧ ((er = 0 ∧ bad' = false) ∨ (er = 70 ∧ bad' = true))
  | .fin => x' = x ∧ p' = p ∧ ((bad = false ∧ p = s.size ∧ bad' = false) ∨ ((bad = true ∨ p ≠ s.size) ∧ bad' = true))

section
variable {L : Bool} {s : ByteArray} {p p' : Nat} {bad bad' : Bool} {x x' y : Rq} {f g : Fd}
theorem ReadIs.one {t : ByteArray} {b c : Bt} {e d : Int} (h : ReadIs t b e) (k : ReadIs t c d) : b = c ∧ e = d := by
  rcases h with ⟨h1, h2, rfl⟩ | ⟨h1, rfl, rfl⟩ <;> rcases k with ⟨k1, k2, rfl⟩ | ⟨k1, rfl, rfl⟩
  · exact ⟨enc_inj h2 k2 (h1.symm.trans k1), rfl⟩
  · exact absurd h1 (k1 _ h2)
  · exact absurd k1 (h1 _ k2)
  · exact ⟨rfl, rfl⟩
theorem fx_of (L : Bool) (s : ByteArray) (p : Nat) (bad : Bool) (x : Rq) (f : Fd) : ∃ x' p' bad', FxIs L s p bad x f x' p' bad' := by
  have hn : ∀ lo hi, ∃ v p' bad', NumIs s p bad lo hi v p' bad' := numIs_of s p bad
  cases f
  case yes => obtain ⟨v, p', b', h⟩ := flagIs_of s p bad; exact ⟨_, p', b', v, h, rfl⟩
  case batch =>
    obtain ⟨t, p', b1, h⟩ := textIs_of s p bad 1024
    obtain ⟨bt, er, h2⟩ := readIs_of t
    rcases h2 with h2 | h2
    · exact ⟨_, p', false, t, b1, bt, er, h, .inl h2, rfl, .inl ⟨h2.2.2, rfl⟩⟩
    · exact ⟨_, p', true, t, b1, bt, er, h, .inr h2, rfl, .inr ⟨h2.2.2, rfl⟩⟩
  case fin =>
    by_cases h : bad = false ∧ p = s.size
    · exact ⟨x, p, false, rfl, rfl, .inl ⟨h.1, h.2, rfl⟩⟩
    · refine ⟨x, p, true, rfl, rfl, .inr ⟨?_, rfl⟩⟩
      cases bad
      · exact .inr fun h' => h ⟨rfl, h'⟩
      · exact .inl rfl
  all_goals
    obtain ⟨v, p', b', h⟩ := hn _ _
    exact ⟨_, p', b', v, h, rfl⟩
theorem FxIs.one {x1 x2 : Rq} {p1 p2 : Nat} {b1 b2 : Bool} (h : FxIs L s p bad x f x1 p1 b1) (k : FxIs L s p bad x f x2 p2 b2) : x1 = x2 ∧ p1 = p2 ∧ b1 = b2 := by
  cases f
  case yes =>
    obtain ⟨v, h, rfl⟩ := h
    obtain ⟨u, k, rfl⟩ := k
    obtain ⟨rfl, h2, h3⟩ := h.one k
    exact ⟨rfl, h2, h3⟩
  case batch =>
    obtain ⟨t, c1, bt, er, h, hr, rfl, ho⟩ := h
    obtain ⟨t', c2, bt', er', k, kr, rfl, ko⟩ := k
    obtain ⟨rfl, h2, h3⟩ := h.one k
    obtain ⟨rfl, rfl⟩ := hr.one kr
    refine ⟨rfl, h2, ?_⟩
    rcases ho with ⟨h1, rfl⟩ | ⟨h1, rfl⟩ <;> rcases ko with ⟨k1, rfl⟩ | ⟨k1, rfl⟩ <;> first | rfl | (rw [h1] at k1; cases k1)
  case fin =>
    obtain ⟨rfl, rfl, ho⟩ := h
    obtain ⟨rfl, rfl, ko⟩ := k
    refine ⟨rfl, rfl, ?_⟩
    rcases ho with ⟨h1, h2, rfl⟩ | ⟨h1, rfl⟩ <;> rcases ko with ⟨k1, k2, rfl⟩ | ⟨k1, rfl⟩
    · rfl
    · rcases k1 with k1 | k1
      · rw [h1] at k1; cases k1
      · exact absurd h2 k1
    · rcases h1 with h1 | h1
      · rw [k1] at h1; cases h1
      · exact absurd k2 h1
    · rfl
  all_goals
    obtain ⟨v, h, rfl⟩ := h
    obtain ⟨u, k, rfl⟩ := k
    obtain ⟨rfl, h2, h3⟩ := h.one k
    exact ⟨rfl, h2, h3⟩
theorem FxIs.le (h : FxIs L s p bad x f x' p' bad') (hp : p ≤ s.size) : p' ≤ s.size := by
  cases f
  case yes => obtain ⟨v, h, rfl⟩ := h; exact h.le hp
  case batch => obtain ⟨t, c1, bt, er, h, -⟩ := h; exact h.le hp
  case fin => obtain ⟨-, rfl, -⟩ := h; exact hp
  all_goals obtain ⟨v, h, rfl⟩ := h; exact h.le hp
/-- Only that field is read, into its place. -/
theorem FxIs.self (h : FxIs L s p bad x f x' p' bad') : x' = x'.copy x f ∧ x'.kind = x.kind ∧ ∀ g, g ≠ f → SameAt x x' g := by
  cases f
  case batch =>
    obtain ⟨t, c1, bt, er, -, -, rfl, -⟩ := h
    exact ⟨rfl, rfl, fun g hg => by cases g <;> first | exact absurd rfl hg | rfl | trivial⟩
  case fin =>
    obtain ⟨rfl, -, -⟩ := h
    exact ⟨rfl, rfl, fun g hg => by cases g <;> first | exact absurd rfl hg | rfl | trivial⟩
  all_goals
    obtain ⟨v, -, rfl⟩ := h
    exact ⟨rfl, rfl, fun g hg => by cases g <;> first | exact absurd rfl hg | rfl | trivial⟩
theorem SameAt.trans {a b c : Rq} (h : SameAt a b f) (k : SameAt b c f) : SameAt a c f := by
  cases f <;> first | exact Eq.trans h k | trivial
theorem SameAt.enc (h : SameAt x y f) : x.encF f = y.encF f := by
  cases f <;> first | (simp only [SameAt] at h; simp only [Rq.encF, h]) | rfl
theorem SameAt.ok (h : SameAt x y f) (k : x.Ok L f) : y.Ok L f := by
  cases f <;> first | (simp only [SameAt] at h; simp only [Rq.Ok, h] at k ⊢; exact k) | trivial
theorem SameAt.copy {z : Rq} (h : SameAt x y f) : x.copy z f = y.copy z f := by
  cases f <;> first | (simp only [SameAt] at h; simp only [Rq.copy, h]) | rfl
theorem copy_same (x y : Rq) (f : Fd) : SameAt (y.copy x f) y f := by cases f <;> first | rfl | trivial
theorem copy_other (x y : Rq) {f g : Fd} (h : g ≠ f) : SameAt (y.copy x f) x g := by cases f <;> cases g <;> first | exact absurd rfl h | rfl | trivial
theorem copy_kind (x y : Rq) (f : Fd) : (y.copy x f).kind = x.kind := by cases f <;> rfl
theorem Rq.Ok.wide (h : y.Ok true f) : y.Ok false f := by
  cases f <;> first | trivial | exact h | (simp only [Rq.Ok, Between, Fd.lo, Fd.hi] at h ⊢; omega)
theorem text_full {p : Nat} {v : ByteArray} {t : List UInt8} {hi : Int} (hv : v.size ≤ 1000000) (hh : (v.size : Int) ≤ hi) (h : (bytesOf s).drop p = VP.enc v.size ++ (bytesOf v ++ t)) :
    TextIs s p false hi v (p + (VP.enc v.size).length + v.size) false ∧ (bytesOf s).drop (p + (VP.enc v.size).length + v.size) = t := by
  have h1 : (bytesOf s).drop (p + (VP.enc v.size).length) = bytesOf v ++ t := by rw [← List.drop_drop, h, List.drop_left]
  have hl := congrArg List.length h1
  rw [List.length_drop, List.length_append, bytesOf_length, bytesOf_length] at hl
  have hpos := VP.enc_pos v.size
  have hl2 := congrArg List.length h
  rw [List.length_drop, List.length_append, bytesOf_length] at hl2
  refine ⟨.inl ⟨rfl, v.size, _, by rw [h]; exact VP.dec_enc (by omega) _, hh, by omega, ?_, rfl, rfl⟩, ?_⟩
  · refine string_ext ?_
    rw [bytesOf_extract, h1, show p + (VP.enc v.size).length + v.size - (p + (VP.enc v.size).length) = v.size by omega, ← bytesOf_length v, List.take_left]
  · rw [← List.drop_drop, h1, ← bytesOf_length v, List.drop_left]
theorem num_full {p : Nat} {n lo hi : Int} {t : List UInt8} (h0 : 0 ≤ n) (hn : n ≤ 1099511627776) (h12 : Between lo hi n) (h : (bytesOf s).drop p = VP.enc n.toNat ++ t) : ∃ p', NumIs s p false lo hi n p' false ∧ (bytesOf s).drop p' = t := by
  obtain ⟨m, rfl⟩ : ∃ m : Nat, n = m := ⟨n.toNat, by omega⟩
  rw [Int.toNat_natCast] at h
  exact ⟨_, NumIs.full (by omega) h12.1 h12.2 h⟩
/-- What is right where it stands is read. -/
theorem FxIs.full {t : List UInt8} (hf : f ≠ .fin) (hk : y.Ok L f) (h : (bytesOf s).drop p = y.encF f ++ t) : ∃ p', FxIs L s p false x f (y.copy x f) p' false ∧ (bytesOf s).drop p' = t := by
  have hl : ∀ f : Fd, 0 ≤ Fd.lo L f ∧ Fd.hi L f ≤ 1099511627776 := fun f => by cases L <;> cases f <;> simp [Fd.lo, Fd.hi]
  cases f
  case yes => exact ⟨_, ⟨_, (FlagIs.full h).1, rfl⟩, (FlagIs.full h).2⟩
  case batch =>
    have hle := Bt.enc_le hk
    have hz : (⟨y.b.enc.toArray⟩ : ByteArray).size = y.b.enc.length := by rw [← bytesOf_length, bytesOf_mk]
    have h' : (bytesOf s).drop p = VP.enc (⟨y.b.enc.toArray⟩ : ByteArray).size ++ (bytesOf ⟨y.b.enc.toArray⟩ ++ t) := by rw [h, hz, bytesOf_mk]; simp [Rq.encF]
    obtain ⟨h1, h2⟩ := text_full (hi := 1024) (by omega) (by omega) h'
    exact ⟨_, ⟨_, false, y.b, 0, h1, .inl ⟨bytesOf_mk _, hk, rfl⟩, rfl, .inl ⟨rfl, rfl⟩⟩, h2⟩
  case fin => exact absurd rfl hf
  all_goals
    obtain ⟨p', h1, h2⟩ := num_full (Int.le_trans (hl _).1 hk.1) (Int.le_trans hk.2 (hl _).2) hk h
    exact ⟨p', ⟨_, h1, rfl⟩, h2⟩
theorem num_bytes {lo hi v : Int} (h : NumIs s p bad lo hi v p' false) : bad = false ∧ Between lo hi v ∧ (bytesOf s).drop p = VP.enc v.toNat ++ (bytesOf s).drop p' := by
  obtain ⟨h1, h2, h3, _, h5⟩ := h.bytes
  exact ⟨h1, ⟨h2, h3⟩, h5⟩
theorem text_bad {hi : Int} {v : ByteArray} (h : TextIs s p bad hi v p' true) : v = ⟨#[]⟩ := by
  rcases h with ⟨_, _, _, _, _, _, _, _, h⟩ | ⟨_, h, _⟩
  · cases h
  · exact h
/-- What was read has stood there. -/
theorem FxIs.bytes (h : FxIs L s p bad x f x' p' false) : bad = false ∧ x'.Ok L f ∧ (bytesOf s).drop p = x'.encF f ++ (bytesOf s).drop p' := by
  cases f
  case yes => obtain ⟨v, h, rfl⟩ := h; exact ⟨h.bytes.1, trivial, h.bytes.2⟩
  case batch =>
    obtain ⟨t, c1, bt, er, h, hr, rfl, ho⟩ := h
    rcases ho with ⟨rfl, -⟩ | ⟨-, h9⟩
    · rcases hr with ⟨hb, hg, -⟩ | ⟨-, -, h9⟩
      · cases c1
        · obtain ⟨h1, h2⟩ := h.bytes
          refine ⟨h1, hg, ?_⟩
          have hz : t.size = bt.enc.length := by rw [← bytesOf_length, hb]
          rw [h2, hb, hz]
          simp [Rq.encF]
        · have := text_bad h
          subst this
          have := congrArg List.length hb
          have hp := Bt.enc_pos bt
          rw [bytesOf_length] at this
          rw [← this] at hp
          simp [ByteArray.size] at hp
      · cases h9
    · cases h9
  case fin =>
    obtain ⟨rfl, rfl, ho⟩ := h
    rcases ho with ⟨h1, h2, -⟩ | ⟨-, h9⟩
    · exact ⟨h1, trivial, rfl⟩
    · cases h9
  all_goals
    obtain ⟨v, h, rfl⟩ := h
    exact num_bytes h

/-! ### all of them, one behind the other -/
/-- Read till one is wrong. -/
def RunIs (s : ByteArray) : List Fd → Nat → Rq → Option (Rq × Nat) → Prop
  | [], p, x, r => r = some (x, p)
  | f :: fs, p, x, r => ∃ x' p' bad, FxIs true s p false x f x' p' bad ∧ ((bad = true ∧ r = none) ∨ (bad = false ∧ RunIs s fs p' x' r))
theorem runIs_of (s : ByteArray) : ∀ (fs : List Fd) (p : Nat) (x : Rq), ∃ r, RunIs s fs p x r
  | [], p, x => ⟨_, rfl⟩
  | f :: fs, p, x => by
    obtain ⟨x', p', bad, h⟩ := fx_of true s p false x f
    cases bad
    · obtain ⟨r, hr⟩ := runIs_of s fs p' x'
      exact ⟨r, x', p', false, h, .inr ⟨rfl, hr⟩⟩
    · exact ⟨none, x', p', true, h, .inl ⟨rfl, rfl⟩⟩
/-- Read all the same, whatever is wrong. -/
def ChainIs (s : ByteArray) : List Fd → Nat → Bool → Rq → Rq → Nat → Bool → Prop
  | [], p, bad, x, x', p', bad' => x' = x ∧ p' = p ∧ bad' = bad
  | f :: fs, p, bad, x, x', p', bad' => ∃ x1 p1 b1, FxIs false s p bad x f x1 p1 b1 ∧ ChainIs s fs p1 b1 x1 x' p' bad'
theorem chainIs_of (s : ByteArray) : ∀ (fs : List Fd) (p : Nat) (bad : Bool) (x : Rq), ∃ x' p' bad', ChainIs s fs p bad x x' p' bad'
  | [], p, bad, x => ⟨x, p, bad, rfl, rfl, rfl⟩
  | f :: fs, p, bad, x => by
    obtain ⟨x1, p1, b1, h⟩ := fx_of false s p bad x f
    obtain ⟨x', p', bad', hr⟩ := chainIs_of s fs p1 b1 x1
    exact ⟨x', p', bad', x1, p1, b1, h, hr⟩
theorem encFs_cons (y : Rq) (f : Fd) (fs : List Fd) : encFs y (f :: fs) = y.encF f ++ encFs y fs := by simp [encFs]
theorem RunIs.sound : ∀ (fs : List Fd) {p q : Nat} {x z : Rq}, fs.Nodup → RunIs s fs p x (some (z, q)) →
    (∀ g, g ∉ fs → SameAt x z g) ∧ (∀ f ∈ fs, z.Ok true f) ∧ (bytesOf s).drop p = encFs z fs ++ (bytesOf s).drop q ∧ z = fs.foldl (fun x f => z.copy x f) x ∧ z.kind = x.kind
  | [], p, q, x, z, _, h => by
    injection h with h
    injection h with h1 h2
    subst h1 h2
    exact ⟨fun g _ => by cases g <;> first | rfl | trivial, fun f hf => (by cases hf), by simp [encFs], rfl, rfl⟩
  | f :: fs, p, q, x, z, hn, ⟨x', p', bad, h, ho⟩ => by
    rcases ho with ⟨_, h9⟩ | ⟨rfl, hr⟩
    · cases h9
    · obtain ⟨hnf, hn'⟩ := List.nodup_cons.1 hn
      obtain ⟨a1, a2, a3, a4, a5⟩ := RunIs.sound fs hn' hr
      obtain ⟨-, b1, b2⟩ := h.bytes
      obtain ⟨c1, c2, c3⟩ := h.self
      have d := a1 f hnf
      refine ⟨fun g hg => ?_, fun g hg => ?_, ?_, ?_, a5.trans c2⟩
      · rw [List.mem_cons, not_or] at hg
        exact (c3 g hg.1).trans (a1 g hg.2)
      · rcases List.mem_cons.1 hg with rfl | hg
        · exact d.ok b1
        · exact a2 g hg
      · rw [encFs_cons, b2, a3, d.enc, List.append_assoc]
      · rw [List.foldl_cons, ← d.copy, ← c1]
        exact a4
theorem RunIs.full : ∀ (fs : List Fd) {p : Nat} {x y : Rq} {t : List UInt8} {r : Option (Rq × Nat)}, (∀ f ∈ fs, f ≠ .fin ∧ y.Ok true f) → (bytesOf s).drop p = encFs y fs ++ t → RunIs s fs p x r → ∃ q, r = some (fs.foldl (fun x f => y.copy x f) x, q) ∧ (bytesOf s).drop q = t
  | [], p, x, y, t, r, _, h, hr => ⟨p, hr, by simpa [encFs] using h⟩
  | f :: fs, p, x, y, t, r, hf, h, ⟨x', p', bad, hx, ho⟩ => by
    obtain ⟨h1, h2⟩ := hf f (by simp)
    rw [encFs_cons, List.append_assoc] at h
    obtain ⟨p1, k1, k2⟩ := FxIs.full (x := x) h1 h2 h
    obtain ⟨rfl, rfl, rfl⟩ := hx.one k1
    rcases ho with ⟨h9, _⟩ | ⟨_, hr⟩
    · cases h9
    · exact RunIs.full fs (fun f hf' => hf f (by simp [hf'])) k2 hr
theorem ChainIs.sound : ∀ (fs : List Fd) {p q : Nat} {bad : Bool} {x z : Rq}, fs.Nodup → ChainIs s fs p bad x z q false →
    bad = false ∧ (∀ g, g ∉ fs → SameAt x z g) ∧ (bytesOf s).drop p = encFs z fs ++ (bytesOf s).drop q ∧ z = fs.foldl (fun x f => z.copy x f) x ∧ z.kind = x.kind
  | [], p, q, bad, x, z, _, h => by
    obtain ⟨rfl, rfl, rfl⟩ := h
    exact ⟨rfl, fun g _ => by cases g <;> first | rfl | trivial, by simp [encFs], rfl, rfl⟩
  | f :: fs, p, q, bad, x, z, hn, ⟨x', p', b1, h, hr⟩ => by
    obtain ⟨hnf, hn'⟩ := List.nodup_cons.1 hn
    obtain ⟨rfl, a1, a3, a4, a5⟩ := ChainIs.sound fs hn' hr
    obtain ⟨b0, -, b2⟩ := h.bytes
    obtain ⟨c1, c2, c3⟩ := h.self
    have d := a1 f hnf
    refine ⟨b0, fun g hg => ?_, ?_, ?_, a5.trans c2⟩
    · rw [List.mem_cons, not_or] at hg
      exact (c3 g hg.1).trans (a1 g hg.2)
    · rw [encFs_cons, b2, a3, d.enc, List.append_assoc]
    · rw [List.foldl_cons, ← d.copy, ← c1]
      exact a4
theorem ChainIs.full : ∀ (fs : List Fd) {p q : Nat} {x y z : Rq} {bad' : Bool} {t : List UInt8}, (∀ f ∈ fs, f ≠ .fin ∧ y.Ok true f) → (bytesOf s).drop p = encFs y fs ++ t → ChainIs s fs p false x z q bad' → bad' = false ∧ z = fs.foldl (fun x f => y.copy x f) x ∧ (bytesOf s).drop q = t
  | [], p, q, x, y, z, bad', t, _, h, hr => by
    obtain ⟨rfl, rfl, rfl⟩ := hr
    exact ⟨rfl, rfl, by simpa [encFs] using h⟩
  | f :: fs, p, q, x, y, z, bad', t, hf, h, ⟨x', p', bad, hx, hr⟩ => by
    obtain ⟨h1, h2⟩ := hf f (by simp)
    rw [encFs_cons, List.append_assoc] at h
    obtain ⟨p1, k1, k2⟩ := FxIs.full (x := x) h1 h2.wide h
    obtain ⟨rfl, rfl, rfl⟩ := hx.one k1
    exact ChainIs.full fs (fun f hf' => hf f (by simp [hf'])) k2 hr
theorem ChainIs.le : ∀ (fs : List Fd) {p q : Nat} {bad bad' : Bool} {x z : Rq}, ChainIs s fs p bad x z q bad' → p ≤ s.size → q ≤ s.size
  | [], _, _, _, _, _, _, ⟨_, h, _⟩, hp => by rw [h]; exact hp
  | _ :: fs, _, _, _, _, _, _, ⟨_, _, _, h, hr⟩, hp => ChainIs.le fs hr (h.le hp)
end
theorem fds_five (k : Int) : (fdsOf k).length ≤ 5 := by
  unfold fdsOf
  (repeat' split) <;> simp
theorem fds_nodup (k : Int) : (fdsOf k).Nodup := by
  unfold fdsOf
  (repeat' split) <;> simp
theorem fds_fin (k : Int) : ∀ f ∈ fdsOf k, f ≠ .fin := by
  intro f hf h
  subst h
  unfold fdsOf at hf
  revert hf
  (repeat' split) <;> simp

/-! ### a request's bytes -/
theorem Rq.enc_pos (y : Rq) : 0 < y.enc.length := by
  have := VP.enc_pos y.kind.toNat
  simp only [Rq.enc, List.length_append]
  omega
/-- The valid request whose bytes are these, or none. -/
def QIs (s : ByteArray) (x : Rq) (er : Int) : Prop := (bytesOf s = x.enc ∧ x.Good ∧ er = 0) ∨ ((∀ y : Rq, y.Good → bytesOf s ≠ y.enc) ∧ x = noRq ∧ er = 70)
theorem qIs_of (s : ByteArray) : ∃ x er, QIs s x er := by
  by_cases h : ∃ x : Rq, x.Good ∧ bytesOf s = x.enc
  · obtain ⟨x, h1, h2⟩ := h
    exact ⟨x, 0, .inl ⟨h2, h1, rfl⟩⟩
  · exact ⟨noRq, 70, .inr ⟨fun x hx he => h ⟨x, hx, he⟩, rfl, rfl⟩⟩
theorem kind_full {s : ByteArray} {y : Rq} {t : List UInt8} (hy : y.Good) (h : bytesOf s = y.enc ++ t) : ∃ p, NumIs s 0 false 0 9 y.kind p false ∧ (bytesOf s).drop p = encFs y (fdsOf y.kind) ++ t :=
  num_full hy.1.1 (by have := hy.1.2; omega) hy.1 (by rw [List.drop_zero, h, Rq.enc, List.append_assoc])
/-- None begins another's bytes. -/
theorem rq_begins {a b : Rq} {t : List UInt8} (ha : a.Good) (hb : b.Good) (h : a.enc = b.enc ++ t) : a = b ∧ t = [] := by
  obtain ⟨p1, h1, d1⟩ := kind_full (s := ⟨a.enc.toArray⟩) (t := []) ha (by rw [bytesOf_mk]; simp)
  obtain ⟨p2, h2, d2⟩ := kind_full (s := ⟨a.enc.toArray⟩) (t := t) hb (by rw [bytesOf_mk]; exact h)
  obtain ⟨hk, rfl, -⟩ := h1.one h2
  obtain ⟨r, hr⟩ := runIs_of ⟨a.enc.toArray⟩ (fdsOf a.kind) p1 (Rq.of a.kind)
  obtain ⟨q1, e1, c1⟩ := RunIs.full _ (fun f hf => ⟨fds_fin _ f hf, ha.2.1 f hf⟩) d1 hr
  obtain ⟨q2, e2, c2⟩ := RunIs.full (y := b) _ (fun f hf => ⟨fds_fin _ f hf, hb.2.1 f (by rw [← hk]; exact hf)⟩) (by rw [d2, hk]) hr
  rw [e1] at e2
  injection e2 with e2
  injection e2 with e3 e4
  refine ⟨?_, by rw [← c2, ← e4, c1]⟩
  rw [ha.2.2, hb.2.2]
  show (fdsOf a.kind).foldl _ _ = (fdsOf b.kind).foldl _ _
  rw [e3, hk]
theorem rq_inj {a b : Rq} (ha : a.Good) (hb : b.Good) (h : a.enc = b.enc) : a = b := (rq_begins (t := []) ha hb (by simpa using h)).1
theorem QIs.one {s : ByteArray} {a b : Rq} {e d : Int} (h : QIs s a e) (k : QIs s b d) : a = b ∧ e = d := by
  rcases h with ⟨h1, h2, rfl⟩ | ⟨h1, rfl, rfl⟩ <;> rcases k with ⟨k1, k2, rfl⟩ | ⟨k1, rfl, rfl⟩
  · exact ⟨rq_inj h2 k2 (h1.symm.trans k1), rfl⟩
  · exact absurd h1 (k1 _ h2)
  · exact absurd k1 (h1 _ k2)
  · exact ⟨rfl, rfl⟩
theorem drop_end {s : ByteArray} {q : Nat} (hq : q ≤ s.size) (h : (bytesOf s).drop q = []) : q = s.size := by
  have := congrArg List.length h
  rw [List.length_drop, bytesOf_length] at this
  simp at this
  omega
theorem kind_wrong {s : ByteArray} {k : Int} {p : Nat} (h : NumIs s 0 false 0 9 k p true) : QIs s noRq 70 :=
  .inr ⟨fun y hy he => (by
    obtain ⟨p', h1, -⟩ := kind_full (t := []) hy (by rw [he]; simp)
    have := (h.one h1).2.2
    cases this), rfl, rfl⟩
/-- What the program reads: the kind, its fields till one is wrong, the end. -/
theorem RunIs.qis {s : ByteArray} {k : Int} {p : Nat} {r : Option (Rq × Nat)} (h : NumIs s 0 false 0 9 k p false) (hr : RunIs s (fdsOf k) p (Rq.of k) r)
    (hq : ∀ z q', r = some (z, q') → q' ≤ s.size) : (∃ z q, r = some (z, q) ∧ q = s.size ∧ QIs s z 0) ∨ ((r = none ∨ ∃ z q, r = some (z, q) ∧ q ≠ s.size) ∧ QIs s noRq 70) := by
  obtain ⟨-, hk, hb⟩ := num_bytes h
  have hno : ∀ y : Rq, y.Good → bytesOf s = y.enc → ∃ z q', r = some (z, q') ∧ q' = s.size := by
    intro y hy he
    obtain ⟨p', h1, d1⟩ := kind_full (t := []) hy (by rw [he]; simp)
    obtain ⟨rfl, rfl, -⟩ := h.one h1
    obtain ⟨q', e1, c1⟩ := RunIs.full _ (fun f hf => ⟨fds_fin _ f hf, hy.2.1 f hf⟩) d1 hr
    exact ⟨_, q', e1, drop_end (hq _ _ e1) c1⟩
  rcases r with _ | ⟨z, q'⟩
  · exact .inr ⟨.inl rfl, .inr ⟨fun y hy he => (by obtain ⟨z, q', e, -⟩ := hno y hy he; cases e), rfl, rfl⟩⟩
  · by_cases he : q' = s.size
    · obtain ⟨a1, a2, a3, a4, a5⟩ := RunIs.sound _ (fds_nodup k) hr
      have hz : z.kind = k := a5
      refine .inl ⟨z, q', rfl, he, .inl ⟨?_, ⟨by rw [hz]; exact hk, by rw [hz]; exact a2, ?_⟩, rfl⟩⟩
      · rw [List.drop_zero] at hb
        rw [hb, a3, Rq.enc, hz, he, ← bytesOf_length, List.drop_length, List.append_nil]
      · unfold Rq.bare
        rw [hz]
        exact a4
    · refine .inr ⟨.inr ⟨z, q', rfl, he⟩, .inr ⟨fun y hy hh => ?_, rfl, rfl⟩⟩
      obtain ⟨z', q2, e, h2⟩ := hno y hy hh
      injection e with e
      injection e with _ e
      exact he (e.trans h2)
/-- What the document's own reads: all fields, then the end, then whether it is valid. -/
theorem ChainIs.qis {s : ByteArray} {k : Int} {p q : Nat} {z : Rq} {bad : Bool} (h : NumIs s 0 false 0 9 k p false) (hr : ChainIs s (fdsOf k) p false (Rq.of k) z q bad) (hq : q ≤ s.size) :
    (bad = false ∧ q = s.size ∧ z.Good ∧ QIs s z 0) ∨ ((bad = true ∨ q ≠ s.size ∨ ¬ z.Good) ∧ QIs s noRq 70) := by
  obtain ⟨-, hk, hb⟩ := num_bytes h
  have hno : ∀ y : Rq, y.Good → bytesOf s = y.enc → bad = false ∧ q = s.size ∧ z = y := by
    intro y hy he
    obtain ⟨p', h1, d1⟩ := kind_full (t := []) hy (by rw [he]; simp)
    obtain ⟨rfl, rfl, -⟩ := h.one h1
    obtain ⟨e0, e1, c1⟩ := ChainIs.full _ (fun f hf => ⟨fds_fin _ f hf, hy.2.1 f hf⟩) d1 hr
    exact ⟨e0, drop_end hq c1, e1.trans hy.2.2.symm⟩
  by_cases hg : bad = false ∧ q = s.size ∧ z.Good
  · obtain ⟨rfl, he, hz⟩ := hg
    refine .inl ⟨rfl, he, hz, .inl ⟨?_, hz, rfl⟩⟩
    obtain ⟨-, a1, a3, a4, a5⟩ := ChainIs.sound _ (fds_nodup k) hr
    have hzk : z.kind = k := a5
    rw [List.drop_zero] at hb
    rw [hb, a3, Rq.enc, hzk, he, ← bytesOf_length, List.drop_length, List.append_nil]
  · refine .inr ⟨?_, .inr ⟨fun y hy hh => ?_, rfl, rfl⟩⟩
    · cases bad
      · by_cases he : q = s.size
        · exact .inr (.inr fun hz => hg ⟨rfl, he, hz⟩)
        · exact .inr (.inl he)
      · exact .inl rfl
    · obtain ⟨e0, e1, rfl⟩ := hno y hy hh
      exact hg ⟨e0, e1, hy⟩
end Go.Proofs.YtfcifblbapadpaaGreatDoor
