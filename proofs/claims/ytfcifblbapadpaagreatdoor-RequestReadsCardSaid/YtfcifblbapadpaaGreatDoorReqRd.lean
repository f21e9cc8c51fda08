/-
  Contracts of the methods by which request's reader reads a field. Conditions: those that each theorem names.
-/
import Derived.Test.YtfcifblbapadpaaGreatDoorReqMem
import Derived.Test.YtfcifblbapadpaaGreatDoorRecReadB
namespace Go.Proofs.YtfcifblbapadpaaGreatDoor
open Go.RowKit

/-- An error, if there is one: it wraps the number 70. -/
def ErrIs (bad : Bool) (B : Nat) (e : Ending) (w' : World) : Prop :=
  (bad = false ∧ e = .returned .nilIface) ∨ (bad = true ∧ ∃ (h : Nat) (fld : ByteArray), e = .returned (.iface 118 (.pointer (some ⟨h, 0, none⟩))) ∧ B ≤ h ∧ Var w' h 120 #[.string fld, .int .i64 70])
theorem Kept.frozen {S : List Nat} {w w' : World} (h : Kept S w w') {p : Addr} (hp : p.block < w.heap.size) (hn : p.block ∉ S) : w'.frozen? p = w.frozen? p := by simp only [World.frozen?, h.block p.block hp hn]

theorem check_any (fld : ByteArray) (er : Int) (bad : Bool) (w : World) (h : (er = 0 ∧ bad = false) ∨ (er = 70 ∧ bad = true)) :
    Calls Tryz.prog 57 #[.string fld, .int .i64 er] w fun e w' => ErrIs bad w.heap.size e w' ∧ Below w.heap.size w w' := by
  rcases h with ⟨rfl, rfl⟩ | ⟨rfl, rfl⟩
  · go_enter Tryz.func57, Tryz.ntmps57
    go_wp2
    go_ret
    exact ⟨.inl ⟨rfl, rfl⟩, Below.refl _ _⟩
  · have v := Var.new w #[.string fld, .int .i64 70] 120
    have b := below_new (w := w) (.cells #[.string fld, .int .i64 70] 120)
    go_enter Tryz.func57, Tryz.ntmps57
    go_wp2
    go_ret
    exact ⟨.inr ⟨rfl, _, fld, rfl, Nat.le_refl _, v⟩, b⟩
theorem er_of (bad : Bool) : ∃ er : Int, (er = 0 ∧ bad = false) ∨ (er = 70 ∧ bad = true) := by cases bad; exact ⟨0, .inl ⟨rfl, rfl⟩⟩; exact ⟨70, .inr ⟨rfl, rfl⟩⟩
theorem stopped_any (R g : Nat) (s : ByteArray) (p : Nat) (bad : Bool) (er : Int) (w : World) (he : (er = 0 ∧ bad = false) ∨ (er = 70 ∧ bad = true)) (hR : w.cell? ⟨R, 0, none⟩ = some (.pointer (some ⟨g, 0, none⟩))) (hr : Rd 78 w g s p bad) :
    Calls Tryz.prog 58 #[.pointer (some ⟨R, 0, none⟩)] w fun e w' => e = .returned (.int .i64 er) ∧ w = w' := by
  obtain ⟨h0, h1, h2⟩ := hr.cells
  rcases he with ⟨rfl, rfl⟩ | ⟨rfl, rfl⟩
  · go_enter Tryz.func58, Tryz.ntmps58
    go_wp2
    go_ret
    exact ⟨rfl, rfl⟩
  · go_enter Tryz.func58, Tryz.ntmps58
    go_wp2
    go_ret
    exact ⟨rfl, rfl⟩

set_option maxRecDepth 100000 in
set_option maxHeartbeats 1000000 in
theorem rnum_any (R g b i : Nat) (s : ByteArray) (p : Nat) (lo hi v o : Int) (p' : Nat) (bad' : Bool) (nm : ByteArray) (w : World) (h : NumIs s p false lo hi v p' bad') (hR : w.cell? ⟨R, 0, none⟩ = some (.pointer (some ⟨g, 0, none⟩))) (hRg : R ≠ g) (hr : Rd 78 w g s p false)
    (hx : s.size ≤ 1000000) (hp : p ≤ s.size) (hb : b ≠ g) (hbi : b ≠ R ∨ i ≠ 0) (hc : w.cell? ⟨b, i, none⟩ = some (.int .i64 o)) (hz : w.frozen? ⟨b, i, none⟩ = false) :
    Calls Tryz.prog 34 #[.pointer (some ⟨R, 0, none⟩), .string nm, .pointer (some ⟨b, i, none⟩), .int .i64 lo, .int .i64 hi] w fun e w' =>
      ∃ w1, Rd 78 w1 g s p' bad' ∧ Kept [g] w w1 ∧ ErrIs bad' w1.heap.size e w' ∧ Below w1.heap.size (w1.setCell ⟨b, i, none⟩ (.int .i64 v)) w' := by
  have hRl := World.block_lt_of_cell? w _ hR
  have hbl := World.block_lt_of_cell? w _ hc
  simp only at hRl hbl
  have H := Lib.hid h
  clear h
  go_enter Tryz.func34, Tryz.ntmps34
  go_wp2_with fail
  refine (number_all g s p false lo hi v p' bad' w H.out hr hx hp).mono ?_
  rintro e w1 ⟨rfl, hr1, hk1⟩
  have c1 : w1.cell? ⟨b, i, none⟩ = some (.int .i64 o) := (hk1.cell (p := ⟨b, i, none⟩) hbl (by simpa using hb)).trans hc
  have z1 : w1.frozen? ⟨b, i, none⟩ = false := (hk1.frozen (p := ⟨b, i, none⟩) hbl (by simpa using hb)).trans hz
  have r1 : w1.cell? ⟨R, 0, none⟩ = some (.pointer (some ⟨g, 0, none⟩)) := (hk1.cell (p := ⟨R, 0, none⟩) hRl (by simpa using hRg)).trans hR
  have r2 : (w1.setCell ⟨b, i, none⟩ (.int .i64 v)).cell? ⟨R, 0, none⟩ = some (.pointer (some ⟨g, 0, none⟩)) := (World.cell?_setCell_other w1 ⟨b, i, none⟩ ⟨R, 0, none⟩ (.int .i64 v) (by intro he; injection he with h1 h2; rcases hbi with h3 | h3; exact h3 h1; exact h3 h2)).trans r1
  have hr2 : Rd 78 (w1.setCell ⟨b, i, none⟩ (.int .i64 v)) g s p' bad' := Var.other hr1 _ _ (Ne.symm hb)
  clear hR hr hc hz
  go_wp2_with fail
  obtain ⟨er, her⟩ := er_of bad'
  have HER := Lib.hid her
  clear her
  refine (stopped_any R g s p' bad' er _ HER.out r2 hr2).mono ?_
  rintro e w2 ⟨rfl, rfl⟩
  go_wp2_with fail
  refine (check_any nm er bad' _ HER.out).mono ?_
  rintro e w3 ⟨he, hb3⟩
  have hs3 : (w1.setCell ⟨b, i, none⟩ (.int .i64 v)).heap.size = w1.heap.size := by simp [World.setCell]
  rw [hs3] at he hb3
  have HE := Lib.hid he
  rcases he with ⟨rfl, rfl⟩ | ⟨rfl, hh, fld, rfl, -⟩
  · clear r1 r2 c1 z1
    go_wp2
    go_ret
    exact ⟨w1, hr1, hk1, HE.out, hb3⟩
  · clear r1 r2 c1 z1
    go_wp2
    go_ret
    exact ⟨w1, hr1, hk1, HE.out, hb3⟩

/-- The cells of request's reader. -/
def rqvals (g : Nat) (x : Rq) (A : Option Addr) (n c : Nat) : Array Value :=
  #[.pointer (some ⟨g, 0, none⟩), .int .i8 x.kind, .int .i64 x.tid, .int .i64 x.timeout, .int .i64 x.pid, .int .i64 x.ep, .int .i64 x.part, .int .i64 x.group, .int .i64 x.off, .int .i64 x.most, .bool x.yes,
    .int .i64 x.b.pid, .int .i64 x.b.ep, .int .i64 x.b.sq, .bool x.b.tx, .slice A n c]
/-- Request's reader in block R, fields' reader in g, what has been read so far. -/
structure RqAt (w : World) (R g : Nat) (s : ByteArray) (p : Nat) (x : Rq) (A : Option Addr) (n c : Nat) : Prop where
  v : Var w R 59 (rqvals g x A n c)
  rd : Rd 78 w g s p false
  own : QOwn (R + 1) w x A n c
  lt : g < R
/-- What a method hands back. -/
def MRes (R g : Nat) (s : ByteArray) (x' : Rq) (p' : Nat) (bad' : Bool) (w : World) (e : Ending) (w' : World) : Prop :=
  ErrIs bad' w.heap.size e w' ∧ Kept [R, g] w w' ∧ (bad' = false → ∃ A n c, RqAt w' R g s p' x' A n c)
section
variable {w w1 w' : World} {R g : Nat} {s : ByteArray} {p p' : Nat} {x x' : Rq} {A A' : Option Addr} {n c n' c' : Nat} {bad' : Bool}
theorem ErrIs.low {B B' : Nat} {e : Ending} (h : ErrIs bad' B e w') (hB : B' ≤ B) : ErrIs bad' B' e w' := by
  rcases h with h | ⟨h1, h, fld, h2, h3, h4⟩
  · exact .inl h
  · exact .inr ⟨h1, h, fld, h2, Nat.le_trans hB h3, h4⟩
/-- A cell of the reader's stored into. -/
theorem RqAt.put (h : RqAt w R g s p x A n c) (hk : Kept [g] w w1) (hr : Rd 78 w1 g s p' bad') {i : Nat} {u : Value} (hb : Below w1.heap.size (w1.setCell ⟨R, i, none⟩ u) w') (hset : (rqvals g x A n c).setIfInBounds i u = rqvals g x' A n c) (hrs : x'.b.rs = x.b.rs) {e : Ending} (he : ErrIs bad' w1.heap.size e w') :
    MRes R g s x' p' bad' w e w' := by
  have hv := h.v.kept hk (by simp; have := h.lt; omega)
  have hl := h.lt
  have h1 := hv.set i u
  rw [hset] at h1
  have hs : (w1.setCell ⟨R, i, none⟩ u).heap.size = w1.heap.size := by simp [World.setCell]
  have k2 : Kept [R, g] w (w1.setCell ⟨R, i, none⟩ u) := (hk.mono (by intro x hx; simp at hx; subst hx; exact .inl (by simp))).setCell (.inl (by simp)) _
  refine ⟨he.low hk.size, k2.trans (Kept.of_below (by rw [hs]; exact hb)), fun hbad => ?_⟩
  subst hbad
  refine ⟨A, n, c, h1.below hb hv.lt, Var.below (Var.other hr i u (by omega)) hb (Var.lt hr), ?_, hl⟩
  refine QOwn.next (QOwn.alike ((h.own.kept hk (by intro x hx; simp at hx; subst hx; omega)).set (p := ⟨R, i, none⟩) (Nat.lt_succ_self R) u) hrs) ?_
  rw [hs]
  exact hb
end

set_option maxRecDepth 100000 in
set_option maxHeartbeats 1000000 in
theorem m_tid (R g : Nat) (s : ByteArray) (p : Nat) (x x' : Rq) (p' : Nat) (bad' : Bool) (A : Option Addr) (n c : Nat) (w : World) (h : FxIs true s p false x .tid x' p' bad') (hr : RqAt w R g s p x A n c) (hx : s.size ≤ 1000000) (hp : p ≤ s.size) :
    Calls Tryz.prog 35 #[.pointer (some ⟨R, 0, none⟩)] w (MRes R g s x' p' bad' w) := by
  obtain ⟨v, hn, rfl⟩ := h
  have HN := Lib.hid hn
  have HR := Lib.hid hr
  have hl := hr.lt
  have hz := hr.v.lt
  obtain ⟨kind, tid, timeout, pid, ep, part, group, off, most, yes, b⟩ := x
  have hv : Var w R 59 #[.pointer (some ⟨g, 0, none⟩), .int .i8 kind, .int .i64 tid, .int .i64 timeout, .int .i64 pid, .int .i64 ep, .int .i64 part, .int .i64 group, .int .i64 off, .int .i64 most, .bool yes, .int .i64 b.pid, .int .i64 b.ep, .int .i64 b.sq, .bool b.tx, .slice A n c] := hr.v
  have c0 := hv.cell 0 rfl
  clear hn
  go_enter Tryz.func35, Tryz.ntmps35
  go_wp2_with fail
  refine (rnum_any R g R 2 s p 0 2 v tid p' bad' _ w HN.out c0 (by omega) hr.rd hx hp (by omega) (.inr (by omega)) (hv.cell 2 rfl) (hv.free 2)).mono ?_
  rintro e w1 ⟨w2, hr2, hk2, he, hb2⟩
  have HM := Lib.hid (HR.out.put (x' := ⟨kind, v, timeout, pid, ep, part, group, off, most, yes, b⟩) hk2 hr2 hb2 rfl rfl he)
  rcases he with ⟨rfl, rfl⟩ | ⟨rfl, hh, fld, rfl, -⟩
  · clear hr hv c0 HN HR
    go_wp2
    go_ret
    exact HM.out
  · clear hr hv c0 HN HR
    go_wp2
    go_ret
    exact HM.out

set_option maxRecDepth 100000 in
set_option maxHeartbeats 1000000 in
theorem m_timeout (R g : Nat) (s : ByteArray) (p : Nat) (x x' : Rq) (p' : Nat) (bad' : Bool) (A : Option Addr) (n c : Nat) (w : World) (h : FxIs true s p false x .timeout x' p' bad') (hr : RqAt w R g s p x A n c) (hx : s.size ≤ 1000000) (hp : p ≤ s.size) :
    Calls Tryz.prog 36 #[.pointer (some ⟨R, 0, none⟩)] w (MRes R g s x' p' bad' w) := by
  obtain ⟨v, hn, rfl⟩ := h
  have HN := Lib.hid hn
  have HR := Lib.hid hr
  have hl := hr.lt
  have hz := hr.v.lt
  obtain ⟨kind, tid, timeout, pid, ep, part, group, off, most, yes, b⟩ := x
  have hv : Var w R 59 #[.pointer (some ⟨g, 0, none⟩), .int .i8 kind, .int .i64 tid, .int .i64 timeout, .int .i64 pid, .int .i64 ep, .int .i64 part, .int .i64 group, .int .i64 off, .int .i64 most, .bool yes, .int .i64 b.pid, .int .i64 b.ep, .int .i64 b.sq, .bool b.tx, .slice A n c] := hr.v
  have c0 := hv.cell 0 rfl
  clear hn
  go_enter Tryz.func36, Tryz.ntmps36
  go_wp2_with fail
  refine (rnum_any R g R 3 s p 1 20 v timeout p' bad' _ w HN.out c0 (by omega) hr.rd hx hp (by omega) (.inr (by omega)) (hv.cell 3 rfl) (hv.free 3)).mono ?_
  rintro e w1 ⟨w2, hr2, hk2, he, hb2⟩
  have HM := Lib.hid (HR.out.put (x' := ⟨kind, tid, v, pid, ep, part, group, off, most, yes, b⟩) hk2 hr2 hb2 rfl rfl he)
  rcases he with ⟨rfl, rfl⟩ | ⟨rfl, hh, fld, rfl, -⟩
  · clear hr hv c0 HN HR
    go_wp2
    go_ret
    exact HM.out
  · clear hr hv c0 HN HR
    go_wp2
    go_ret
    exact HM.out

set_option maxRecDepth 100000 in
set_option maxHeartbeats 1000000 in
theorem m_pid (R g : Nat) (s : ByteArray) (p : Nat) (x x' : Rq) (p' : Nat) (bad' : Bool) (A : Option Addr) (n c : Nat) (w : World) (h : FxIs true s p false x .pid x' p' bad') (hr : RqAt w R g s p x A n c) (hx : s.size ≤ 1000000) (hp : p ≤ s.size) :
    Calls Tryz.prog 39 #[.pointer (some ⟨R, 0, none⟩)] w (MRes R g s x' p' bad' w) := by
  obtain ⟨v, hn, rfl⟩ := h
  have HN := Lib.hid hn
  have HR := Lib.hid hr
  have hl := hr.lt
  have hz := hr.v.lt
  obtain ⟨kind, tid, timeout, pid, ep, part, group, off, most, yes, b⟩ := x
  have hv : Var w R 59 #[.pointer (some ⟨g, 0, none⟩), .int .i8 kind, .int .i64 tid, .int .i64 timeout, .int .i64 pid, .int .i64 ep, .int .i64 part, .int .i64 group, .int .i64 off, .int .i64 most, .bool yes, .int .i64 b.pid, .int .i64 b.ep, .int .i64 b.sq, .bool b.tx, .slice A n c] := hr.v
  have c0 := hv.cell 0 rfl
  clear hn
  go_enter Tryz.func39, Tryz.ntmps39
  go_wp2_with fail
  refine (rnum_any R g R 4 s p 1 8 v pid p' bad' _ w HN.out c0 (by omega) hr.rd hx hp (by omega) (.inr (by omega)) (hv.cell 4 rfl) (hv.free 4)).mono ?_
  rintro e w1 ⟨w2, hr2, hk2, he, hb2⟩
  have HM := Lib.hid (HR.out.put (x' := ⟨kind, tid, timeout, v, ep, part, group, off, most, yes, b⟩) hk2 hr2 hb2 rfl rfl he)
  rcases he with ⟨rfl, rfl⟩ | ⟨rfl, hh, fld, rfl, -⟩
  · clear hr hv c0 HN HR
    go_wp2
    go_ret
    exact HM.out
  · clear hr hv c0 HN HR
    go_wp2
    go_ret
    exact HM.out

set_option maxRecDepth 100000 in
set_option maxHeartbeats 1000000 in
theorem m_ep (R g : Nat) (s : ByteArray) (p : Nat) (x x' : Rq) (p' : Nat) (bad' : Bool) (A : Option Addr) (n c : Nat) (w : World) (h : FxIs true s p false x .ep x' p' bad') (hr : RqAt w R g s p x A n c) (hx : s.size ≤ 1000000) (hp : p ≤ s.size) :
    Calls Tryz.prog 40 #[.pointer (some ⟨R, 0, none⟩)] w (MRes R g s x' p' bad' w) := by
  obtain ⟨v, hn, rfl⟩ := h
  have HN := Lib.hid hn
  have HR := Lib.hid hr
  have hl := hr.lt
  have hz := hr.v.lt
  obtain ⟨kind, tid, timeout, pid, ep, part, group, off, most, yes, b⟩ := x
  have hv : Var w R 59 #[.pointer (some ⟨g, 0, none⟩), .int .i8 kind, .int .i64 tid, .int .i64 timeout, .int .i64 pid, .int .i64 ep, .int .i64 part, .int .i64 group, .int .i64 off, .int .i64 most, .bool yes, .int .i64 b.pid, .int .i64 b.ep, .int .i64 b.sq, .bool b.tx, .slice A n c] := hr.v
  have c0 := hv.cell 0 rfl
  clear hn
  go_enter Tryz.func40, Tryz.ntmps40
  go_wp2_with fail
  refine (rnum_any R g R 5 s p 0 100 v ep p' bad' _ w HN.out c0 (by omega) hr.rd hx hp (by omega) (.inr (by omega)) (hv.cell 5 rfl) (hv.free 5)).mono ?_
  rintro e w1 ⟨w2, hr2, hk2, he, hb2⟩
  have HM := Lib.hid (HR.out.put (x' := ⟨kind, tid, timeout, pid, v, part, group, off, most, yes, b⟩) hk2 hr2 hb2 rfl rfl he)
  rcases he with ⟨rfl, rfl⟩ | ⟨rfl, hh, fld, rfl, -⟩
  · clear hr hv c0 HN HR
    go_wp2
    go_ret
    exact HM.out
  · clear hr hv c0 HN HR
    go_wp2
    go_ret
    exact HM.out

set_option maxRecDepth 100000 in
set_option maxHeartbeats 1000000 in
theorem m_part (R g : Nat) (s : ByteArray) (p : Nat) (x x' : Rq) (p' : Nat) (bad' : Bool) (A : Option Addr) (n c : Nat) (w : World) (h : FxIs true s p false x .part x' p' bad') (hr : RqAt w R g s p x A n c) (hx : s.size ≤ 1000000) (hp : p ≤ s.size) :
    Calls Tryz.prog 37 #[.pointer (some ⟨R, 0, none⟩)] w (MRes R g s x' p' bad' w) := by
  obtain ⟨v, hn, rfl⟩ := h
  have HN := Lib.hid hn
  have HR := Lib.hid hr
  have hl := hr.lt
  have hz := hr.v.lt
  obtain ⟨kind, tid, timeout, pid, ep, part, group, off, most, yes, b⟩ := x
  have hv : Var w R 59 #[.pointer (some ⟨g, 0, none⟩), .int .i8 kind, .int .i64 tid, .int .i64 timeout, .int .i64 pid, .int .i64 ep, .int .i64 part, .int .i64 group, .int .i64 off, .int .i64 most, .bool yes, .int .i64 b.pid, .int .i64 b.ep, .int .i64 b.sq, .bool b.tx, .slice A n c] := hr.v
  have c0 := hv.cell 0 rfl
  clear hn
  go_enter Tryz.func37, Tryz.ntmps37
  go_wp2_with fail
  refine (rnum_any R g R 6 s p 0 2 v part p' bad' _ w HN.out c0 (by omega) hr.rd hx hp (by omega) (.inr (by omega)) (hv.cell 6 rfl) (hv.free 6)).mono ?_
  rintro e w1 ⟨w2, hr2, hk2, he, hb2⟩
  have HM := Lib.hid (HR.out.put (x' := ⟨kind, tid, timeout, pid, ep, v, group, off, most, yes, b⟩) hk2 hr2 hb2 rfl rfl he)
  rcases he with ⟨rfl, rfl⟩ | ⟨rfl, hh, fld, rfl, -⟩
  · clear hr hv c0 HN HR
    go_wp2
    go_ret
    exact HM.out
  · clear hr hv c0 HN HR
    go_wp2
    go_ret
    exact HM.out

set_option maxRecDepth 100000 in
set_option maxHeartbeats 1000000 in
theorem m_group (R g : Nat) (s : ByteArray) (p : Nat) (x x' : Rq) (p' : Nat) (bad' : Bool) (A : Option Addr) (n c : Nat) (w : World) (h : FxIs true s p false x .group x' p' bad') (hr : RqAt w R g s p x A n c) (hx : s.size ≤ 1000000) (hp : p ≤ s.size) :
    Calls Tryz.prog 41 #[.pointer (some ⟨R, 0, none⟩)] w (MRes R g s x' p' bad' w) := by
  obtain ⟨v, hn, rfl⟩ := h
  have HN := Lib.hid hn
  have HR := Lib.hid hr
  have hl := hr.lt
  have hz := hr.v.lt
  obtain ⟨kind, tid, timeout, pid, ep, part, group, off, most, yes, b⟩ := x
  have hv : Var w R 59 #[.pointer (some ⟨g, 0, none⟩), .int .i8 kind, .int .i64 tid, .int .i64 timeout, .int .i64 pid, .int .i64 ep, .int .i64 part, .int .i64 group, .int .i64 off, .int .i64 most, .bool yes, .int .i64 b.pid, .int .i64 b.ep, .int .i64 b.sq, .bool b.tx, .slice A n c] := hr.v
  have c0 := hv.cell 0 rfl
  clear hn
  go_enter Tryz.func41, Tryz.ntmps41
  go_wp2_with fail
  refine (rnum_any R g R 7 s p 0 1 v group p' bad' _ w HN.out c0 (by omega) hr.rd hx hp (by omega) (.inr (by omega)) (hv.cell 7 rfl) (hv.free 7)).mono ?_
  rintro e w1 ⟨w2, hr2, hk2, he, hb2⟩
  have HM := Lib.hid (HR.out.put (x' := ⟨kind, tid, timeout, pid, ep, part, v, off, most, yes, b⟩) hk2 hr2 hb2 rfl rfl he)
  rcases he with ⟨rfl, rfl⟩ | ⟨rfl, hh, fld, rfl, -⟩
  · clear hr hv c0 HN HR
    go_wp2
    go_ret
    exact HM.out
  · clear hr hv c0 HN HR
    go_wp2
    go_ret
    exact HM.out

set_option maxRecDepth 100000 in
set_option maxHeartbeats 1000000 in
theorem m_off (R g : Nat) (s : ByteArray) (p : Nat) (x x' : Rq) (p' : Nat) (bad' : Bool) (A : Option Addr) (n c : Nat) (w : World) (h : FxIs true s p false x .off x' p' bad') (hr : RqAt w R g s p x A n c) (hx : s.size ≤ 1000000) (hp : p ≤ s.size) :
    Calls Tryz.prog 42 #[.pointer (some ⟨R, 0, none⟩)] w (MRes R g s x' p' bad' w) := by
  obtain ⟨v, hn, rfl⟩ := h
  have HN := Lib.hid hn
  have HR := Lib.hid hr
  have hl := hr.lt
  have hz := hr.v.lt
  obtain ⟨kind, tid, timeout, pid, ep, part, group, off, most, yes, b⟩ := x
  have hv : Var w R 59 #[.pointer (some ⟨g, 0, none⟩), .int .i8 kind, .int .i64 tid, .int .i64 timeout, .int .i64 pid, .int .i64 ep, .int .i64 part, .int .i64 group, .int .i64 off, .int .i64 most, .bool yes, .int .i64 b.pid, .int .i64 b.ep, .int .i64 b.sq, .bool b.tx, .slice A n c] := hr.v
  have c0 := hv.cell 0 rfl
  clear hn
  go_enter Tryz.func42, Tryz.ntmps42
  go_wp2_with fail
  refine (rnum_any R g R 8 s p 0 1048576 v off p' bad' _ w HN.out c0 (by omega) hr.rd hx hp (by omega) (.inr (by omega)) (hv.cell 8 rfl) (hv.free 8)).mono ?_
  rintro e w1 ⟨w2, hr2, hk2, he, hb2⟩
  have HM := Lib.hid (HR.out.put (x' := ⟨kind, tid, timeout, pid, ep, part, group, v, most, yes, b⟩) hk2 hr2 hb2 rfl rfl he)
  rcases he with ⟨rfl, rfl⟩ | ⟨rfl, hh, fld, rfl, -⟩
  · clear hr hv c0 HN HR
    go_wp2
    go_ret
    exact HM.out
  · clear hr hv c0 HN HR
    go_wp2
    go_ret
    exact HM.out

set_option maxRecDepth 100000 in
set_option maxHeartbeats 1000000 in
theorem m_most (R g : Nat) (s : ByteArray) (p : Nat) (x x' : Rq) (p' : Nat) (bad' : Bool) (A : Option Addr) (n c : Nat) (w : World) (h : FxIs true s p false x .most x' p' bad') (hr : RqAt w R g s p x A n c) (hx : s.size ≤ 1000000) (hp : p ≤ s.size) :
    Calls Tryz.prog 44 #[.pointer (some ⟨R, 0, none⟩)] w (MRes R g s x' p' bad' w) := by
  obtain ⟨v, hn, rfl⟩ := h
  have HN := Lib.hid hn
  have HR := Lib.hid hr
  have hl := hr.lt
  have hz := hr.v.lt
  obtain ⟨kind, tid, timeout, pid, ep, part, group, off, most, yes, b⟩ := x
  have hv : Var w R 59 #[.pointer (some ⟨g, 0, none⟩), .int .i8 kind, .int .i64 tid, .int .i64 timeout, .int .i64 pid, .int .i64 ep, .int .i64 part, .int .i64 group, .int .i64 off, .int .i64 most, .bool yes, .int .i64 b.pid, .int .i64 b.ep, .int .i64 b.sq, .bool b.tx, .slice A n c] := hr.v
  have c0 := hv.cell 0 rfl
  clear hn
  go_enter Tryz.func44, Tryz.ntmps44
  go_wp2_with fail
  refine (rnum_any R g R 9 s p 1 64 v most p' bad' _ w HN.out c0 (by omega) hr.rd hx hp (by omega) (.inr (by omega)) (hv.cell 9 rfl) (hv.free 9)).mono ?_
  rintro e w1 ⟨w2, hr2, hk2, he, hb2⟩
  have HM := Lib.hid (HR.out.put (x' := ⟨kind, tid, timeout, pid, ep, part, group, off, v, yes, b⟩) hk2 hr2 hb2 rfl rfl he)
  rcases he with ⟨rfl, rfl⟩ | ⟨rfl, hh, fld, rfl, -⟩
  · clear hr hv c0 HN HR
    go_wp2
    go_ret
    exact HM.out
  · clear hr hv c0 HN HR
    go_wp2
    go_ret
    exact HM.out

set_option maxRecDepth 100000 in
set_option maxHeartbeats 1000000 in
theorem m_yes (R g : Nat) (s : ByteArray) (p : Nat) (x x' : Rq) (p' : Nat) (bad' : Bool) (A : Option Addr) (n c : Nat) (w : World) (h : FxIs true s p false x .yes x' p' bad') (hr : RqAt w R g s p x A n c) (hx : s.size ≤ 1000000) :
    Calls Tryz.prog 43 #[.pointer (some ⟨R, 0, none⟩)] w (MRes R g s x' p' bad' w) := by
  obtain ⟨v, hn, rfl⟩ := h
  have HN := Lib.hid hn
  have HR := Lib.hid hr
  have hl := hr.lt
  have hz := hr.v.lt
  obtain ⟨kind, tid, timeout, pid, ep, part, group, off, most, yes, b⟩ := x
  have hv : Var w R 59 #[.pointer (some ⟨g, 0, none⟩), .int .i8 kind, .int .i64 tid, .int .i64 timeout, .int .i64 pid, .int .i64 ep, .int .i64 part, .int .i64 group, .int .i64 off, .int .i64 most, .bool yes, .int .i64 b.pid, .int .i64 b.ep, .int .i64 b.sq, .bool b.tx, .slice A n c] := hr.v
  have c0 := hv.cell 0 rfl
  clear hn
  go_enter Tryz.func43, Tryz.ntmps43
  go_wp2_with fail
  refine (flag_all g s p false v p' bad' w HN.out hr.rd hx).mono ?_
  rintro e w1 ⟨rfl, hr1, hk1⟩
  have v1 := hv.kept hk1 (by simp; omega)
  have c1 := v1.cell 10 rfl
  have f1 := v1.free 10
  have z1 := v1.lt
  have r2 : (w1.setCell ⟨R, 10, none⟩ (.bool v)).cell? ⟨R, 0, none⟩ = some (.pointer (some ⟨g, 0, none⟩)) := (v1.set 10 (.bool v)).cell 0 rfl
  have hr2 : Rd 78 (w1.setCell ⟨R, 10, none⟩ (.bool v)) g s p' bad' := Var.other hr1 _ _ (by omega)
  clear c0 hv hr
  go_wp2_with fail
  obtain ⟨er, her⟩ := er_of bad'
  have HER := Lib.hid her
  clear her
  refine (stopped_any R g s p' bad' er _ HER.out r2 hr2).mono ?_
  rintro e w2 ⟨rfl, rfl⟩
  go_wp2_with fail
  refine (check_any _ er bad' _ HER.out).mono ?_
  rintro e w3 ⟨he, hb3⟩
  have hs3 : (w1.setCell ⟨R, 10, none⟩ (.bool v)).heap.size = w1.heap.size := by simp [World.setCell]
  rw [hs3] at he hb3
  have HM := Lib.hid (HR.out.put (x' := ⟨kind, tid, timeout, pid, ep, part, group, off, most, v, b⟩) hk1 hr1 hb3 rfl rfl he)
  rcases he with ⟨rfl, rfl⟩ | ⟨rfl, hh, fld, rfl, -⟩
  · clear v1 c1 f1 z1 r2 hr2 HN HR
    go_wp2
    go_ret
    exact HM.out
  · clear v1 c1 f1 z1 r2 hr2 HN HR
    go_wp2
    go_ret
    exact HM.out

set_option maxRecDepth 100000 in
set_option maxHeartbeats 1000000 in
theorem m_fin (R g : Nat) (s : ByteArray) (p : Nat) (x x' : Rq) (p' : Nat) (bad' : Bool) (A : Option Addr) (n c : Nat) (w : World) (h : FxIs true s p false x .fin x' p' bad') (hr : RqAt w R g s p x A n c) :
    Calls Tryz.prog 45 #[.pointer (some ⟨R, 0, none⟩)] w (MRes R g s x' p' bad' w) := by
  obtain ⟨rfl, rfl, hcase⟩ := h
  have HR := Lib.hid hr
  have hl := hr.lt
  have c0 : w.cell? ⟨R, 0, none⟩ = some (.pointer (some ⟨g, 0, none⟩)) := hr.v.cell 0 rfl
  obtain ⟨er, hE, hco⟩ : ∃ er, EndIs s p' false er ∧ ((er = 0 ∧ bad' = false) ∨ (er = 70 ∧ bad' = true)) := by
    rcases hcase with ⟨-, h1, rfl⟩ | ⟨h1, rfl⟩
    · exact ⟨0, .inl ⟨rfl, h1, rfl⟩, .inl ⟨rfl, rfl⟩⟩
    · exact ⟨70, .inr ⟨.inr (h1.resolve_left (by simp)), rfl⟩, .inr ⟨rfl, rfl⟩⟩
  have HE := Lib.hid hE
  have HC := Lib.hid hco
  clear hE hco hcase
  go_enter Tryz.func45, Tryz.ntmps45
  go_wp2_with fail
  refine (end_all g s p' false er w HE.out hr.rd).mono ?_
  rintro e w1 ⟨rfl, n1, rfl⟩
  go_wp2_with fail
  refine (check_any _ er bad' _ HC.out).mono ?_
  rintro e w3 ⟨he, hb3⟩
  have hb4 : Below w.heap.size w w3 := (show Below w.heap.size w (w.drewN n1) from ⟨rfl, rfl, rfl, Nat.le_refl _, fun _ _ => rfl⟩).trans hb3
  have HM : Hid (MRes R g s x' p' bad' w e w3) := ⟨he, Kept.of_below hb4, fun _ => ⟨A, n, c, HR.out.v.below hb4 HR.out.v.lt, Var.below HR.out.rd hb4 (Var.lt HR.out.rd), HR.out.own.next hb4, hl⟩⟩
  rcases he with ⟨rfl, rfl⟩ | ⟨rfl, hh, fld, rfl, -⟩
  · clear hr c0 HE HC HR
    go_wp2
    go_ret
    exact HM.out
  · clear hr c0 HE HC HR
    go_wp2
    go_ret
    exact HM.out

end Go.Proofs.YtfcifblbapadpaaGreatDoor
