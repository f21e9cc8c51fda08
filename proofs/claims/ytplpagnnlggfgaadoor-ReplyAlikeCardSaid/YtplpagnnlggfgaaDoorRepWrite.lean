/-
  Contracts of reply's write, Bytes and May. Conditions: those that each theorem names; Bytes: the one package variable of errors holds what the program's text lays (Glob).
-/
import Derived.Test.YtplpagnnlggfgaaDoorRepReply
import Derived.Test.YtplpagnnlggfgaaDoorRepWr
import Derived.Test.YtplpagnnlggfgaaDoorRepSame
import Derived.Test.YtplpagnnlggfgaaDoorRepLens
namespace Go.Proofs.YtplpagnnlggfgaaDoor
open Go.RowKit

/-- Whether a reply is written. -/
def WrOk (a : Rp) (ok : Bool) : Prop := ok = true ↔ RpOk a
theorem wrOk_of (a : Rp) : ∃ ok, WrOk a ok := iff_of' _
/-- What write hands back: the bytes and no error, or an error that wraps ErrArg. -/
def WtRes (a : Rp) (ok : Bool) (w : World) (e : Ending) (w' : World) : Prop :=
  Below w.heap.size w w' ∧ ((ok = true ∧ ∃ A c l, e = .returned (.tuple #[.slice A l c, .nilIface]) ∧ l = (renc a).length ∧ Seen w' w'.heap.size A (cells (renc a)) ∧ l ≤ c) ∨ (ok = false ∧ ∃ lo er, e = .returned (.tuple #[.slice none 0 0, er]) ∧ Chain w' lo 2 2 er))
theorem RIn.fit {w : World} {B : Nat} {x : Rp} {A : Option Addr} {n c : Nat} (h : RIn w B x A n c) (hr : ∀ r ∈ x.rows, (-9223372036854775808 ≤ r.off ∧ r.off ≤ 9223372036854775807) ∧ (-9223372036854775808 ≤ r.pid ∧ r.pid ≤ 9223372036854775807) ∧ (-9223372036854775808 ≤ r.sq ∧ r.sq ≤ 9223372036854775807)) : ∀ r ∈ x.rows, RwFit r :=
  fun r hm => ⟨(hr r hm).1, (hr r hm).2.1, (hr r hm).2.2, (h.sizes r hm).1, (h.sizes r hm).2⟩

set_option maxRecDepth 100000 in
set_option maxHeartbeats 1000000 in
theorem stop2_any {P : Pass} (M : PIn P) (W : Nat) (wr : Int) (A : Array Value) (s : Ws P) (nm : ByteArray) (w : World) (h : Wk M w W wr 2 A s) :
    Calls Tryd.prog 20 #[.pointer (some ⟨W, 0, none⟩), .string nm] w (KRes M W wr 2 A ⟨s.st, true⟩ w) := by
  obtain ⟨er, hc, he⟩ := h.errc
  have c1 := h.cell 1 h.a1
  have f14 := h.free 14
  have hl := h.lt'
  rcases he with ⟨hb, rfl⟩ | ⟨hb, hch⟩
  · have hv := Var.new (w.setCell ⟨W, 14, none⟩ (fltV w.heap.size)) #[.string nm, .iface 23 (.int .i64 wr)] 80
    have hz : (w.setCell ⟨W, 14, none⟩ (fltV w.heap.size)).heap.size = w.heap.size := by simp [World.setCell]
    rw [hz] at hv
    have hk := h.stop2 (m' := 2) (bad := true) (er := fltV w.heap.size) (.cells #[.string nm, .iface 23 (.int .i64 wr)] 80) (.inr ⟨rfl, _, nm, _, rfl, hl, hv, .inl rfl⟩)
    have hK : KRes M W wr 2 A ⟨s.st, true⟩ w (.returned (.tuple #[])) ((w.setCell ⟨W, 14, none⟩ (fltV w.heap.size)).alloc (.cells #[.string nm, .iface 23 (.int .i64 wr)] 80)) := ⟨rfl, hk, ((Tn.refl _ _).setCell (.inl (by simp)) _).alloc _⟩
    have HK := Lib.hid hK
    clear hz
    clear hk hK hv h hb
    go_enter Tryd.func20, Tryd.ntmps20
    go_wp2
    refine bodyPost_end (results_none rfl _ _ _) rfl ?_
    exact HK.out
  · have hs : s = ⟨s.st, true⟩ := by cases s; simp only at hb; rw [hb]
    have hK : KRes M W wr 2 A ⟨s.st, true⟩ w (.returned (.tuple #[])) w := ⟨rfl, hs ▸ h, Tn.refl _ _⟩
    have HK := Lib.hid hK
    obtain ⟨i, fld, u, rfl, _, _, _⟩ := hch
    clear hK h hb hs
    go_enter Tryd.func20, Tryd.ntmps20
    go_wp2
    refine bodyPost_end (results_none rfl _ _ _) rfl ?_
    exact HK.out
/-- The rows that a walk got past, as a reply in memory. -/
theorem own_rin {w : World} {base n c : Nat} {x : Rp} {A : Option Addr} (h : w.ownsRow base 37 5 (.slice A n c) n (rwcells x.rows)) (hl : x.rows.length = n) (hn : n ≤ 9223372036854775807) (hz : ∀ y ∈ x.rows, y.k.size ≤ 9223372036854775807 ∧ y.v.size ≤ 9223372036854775807) : RIn w w.heap.size x A n c := by
  obtain ⟨A1, c1, e1, s1, l1⟩ := own_formN h
  injection e1 with a1 _ a3
  subst a1 a3
  exact ⟨hl, s1, l1, hn, hz⟩
set_option maxRecDepth 100000 in
set_option maxHeartbeats 4000000 in
theorem write_any (a : Rp) (A : Option Addr) (n c B : Nat) (ok : Bool) (w : World) (hx : RIn w B a A n c) (hB : B ≤ w.heap.size) (hfit : RpFit a) (hrows : ∀ r ∈ a.rows, RwFit r) (hok : WrOk a ok) :
    Calls Tryd.prog 13 #[.agg (rpvals a A n c)] w (WtRes a ok w) := by
  obtain ⟨W0, hW0⟩ : ∃ W0, W0 = w.alloc (.cells (rpvals a A n c) 26) := ⟨_, rfl⟩
  have v0 : Var W0 w.heap.size 26 (rpvals a A n c) := by rw [hW0]; exact Var.new _ _ _
  have b0 : Below w.heap.size w W0 := by rw [hW0]; exact below_new _
  have x0 := hx.below (b0.mono hB)
  have HW0 := Lib.hid hW0
  have HOK := Lib.hid hok
  clear hW0 hok hx
  simp only [rpvals] at v0 HW0 ⊢
  go_enter Tryd.func13, Tryd.ntmps13
  go_upto_region 1 with fail
  rw [← HW0.out]
  obtain ⟨g, hg⟩ : ∃ g, g = W0.heap.size := ⟨_, rfl⟩
  obtain ⟨W1, hW1⟩ : ∃ W1, W1 = W0.alloc (.cells #[.slice none 0 0] 51) := ⟨_, rfl⟩
  have b1 : Below W0.heap.size W0 W1 := by rw [hW1]; exact below_new _
  have p1 : wrRep g W1 [] := by rw [hW1, hg]; exact ⟨_, 0, Var.new _ _ _, World.ownsRow_nil _ _ _ _, rfl⟩
  have v1 := v0.below b1 v0.lt
  have x1 := x0.below (b1.mono (Nat.le_trans hB b0.size))
  have hgz : w.heap.size < g := by rw [hg]; exact v0.lt
  have z0 := v1.lt
  go_upto_region 2 with fail
  rw [← hW1, ← hg]
  obtain ⟨W, hW⟩ : ∃ W, W = W1.heap.size := ⟨_, rfl⟩
  have hgW : g < W := by rw [hW, hW1, World.size_alloc, hg]; omega
  obtain ⟨c0, c1, c2, c3, c4, c5⟩ := v1.cells6
  have BB := Lib.hid (b0.trans (b1.mono b0.size))
  clear hW1 hg b1 v0 x0 HW0
  go_upto_region 3 with fail
  obtain ⟨W2, hW2⟩ : ∃ W2, W2 = W1.alloc (.cells #[.iface 49 (.pointer (some ⟨g, 0, none⟩)), .int .i64 2, .int .i8 a.kind, .int .i64 a.e, .int .i64 a.pid, .int .i64 a.ep, .int .i64 a.off, .slice A n c, .int .i8 0, .int .i64 0, .int .i64 0, .int .i64 0, .int .i64 0, .slice none 0 0, .nilIface] 56) := ⟨_, rfl⟩
  have b2 : Below W1.heap.size W1 W2 := by rw [hW2]; exact below_new _
  have k2 : Wk (wrIn g) W2 W 2 1 (wcells (.iface (wrIn g).T (wrIn g).v) 2 a A n c noRp none 0 0) ⟨([] : List UInt8), false⟩ := by
    refine ⟨⟨.nilIface, ?_, .inl ⟨rfl, rfl⟩⟩, ?_, hgW, rfl, rfl, rfl⟩
    · rw [hW2, hW]; exact Var.new _ _ _
    · exact (p1.kq (Kq.of_below b2) : wrRep g W2 [])
  have v2 := v1.below b2 v1.lt
  have x2 := x1.below (b2.mono (by omega))
  have bb2 := BB.out.trans (b2.mono BB.out.size)
  rw [← hW2, ← hW]
  have hlen2 : a.rows.length = n := x2.len
  have hcall := reply_any (wrIn g) W 2 a A n c ⟨([] : List UInt8), false⟩ W2 k2 (by show ([] : List UInt8).length ≤ 1000; simp) hfit hlen2 (x2.seen.up (show B ≤ g by omega)) x2.max hrows
  obtain ⟨hz1, hz2⟩ := wreply_small (wrIn g) (s := ⟨([] : List UInt8), false⟩) (fr := a) x2.sizes
  have hiff := wrs_iff a
  have hokk := fun h => wrs_ok (a := a) h
  have hsz := wrs_sz a
  unfold wrs at hiff hokk hsz
  obtain ⟨X, hX⟩ : ∃ X, X = wreply (P := pwr) ⟨([] : List UInt8), false⟩ a := ⟨_, rfl⟩
  rw [← hX] at hcall hz1 hz2 hiff hokk hsz
  have HC := Lib.hid hcall
  have HIFF := Lib.hid hiff
  have HOKK := Lib.hid hokk
  have HWW := Lib.hid hW
  clear hX hcall hW2 hiff hokk hW k2 c0 c1 c2 c3 c4 c5 b2 v1 x1 p1 z0
  go_wp2_with fail
  refine HC.out.mono ?_
  rintro e w3 ⟨rfl, At, nt, ct, k3, o3, l3, t3'⟩
  have t3 : Tn [g, W] W2 w3 := t3'
  have v3 := v2.tn t3 (by simp; omega) (by decide)
  have x3 := x2.below (t3.below (B := B) (by have := bb2.size; omega) (by intro y hy; simp at hy; rcases hy with h | h <;> omega))
  have bb3 := bb2.trans (t3.below (B := w.heap.size) bb2.size (by intro y hy; simp at hy; rcases hy with h | h <;> omega))
  have y3 := own_rin o3 l3 (by omega) hz2
  have hB3 : B ≤ w3.heap.size := Nat.le_trans hB bb3.size
  clear HC v2 x2 bb2 t3 t3' hlen2
  obtain ⟨m, hm⟩ := iff_of' (X.1 = a)
  have hS := psame_any X.1 a At A nt n ct c w3.drew.heap.size m w3.drew (y3.below (Below.refl _ _).drew) ((x3.below (Below.refl _ _).drew).up hB3) (Nat.le_refl _) hm
  simp only [rpvals] at hS
  have HS := Lib.hid hS
  have HM := Lib.hid hm
  obtain ⟨d0, d1, d2, d3, d4, d5⟩ := v3.cells6
  have e0 : w3.cell? ⟨W, 8, none⟩ = some (.int .i8 X.1.kind) := k3.cell 8 rfl
  have e1 : w3.cell? ⟨W, 9, none⟩ = some (.int .i64 X.1.e) := k3.cell 9 rfl
  have e2 : w3.cell? ⟨W, 10, none⟩ = some (.int .i64 X.1.pid) := k3.cell 10 rfl
  have e3 : w3.cell? ⟨W, 11, none⟩ = some (.int .i64 X.1.ep) := k3.cell 11 rfl
  have e4 : w3.cell? ⟨W, 12, none⟩ = some (.int .i64 X.1.off) := k3.cell 12 rfl
  have e5 : w3.cell? ⟨W, 13, none⟩ = some (.slice At nt ct) := k3.cell 13 rfl
  have z1 := k3.lt'
  have z2 := v3.lt
  clear hm hS
  go_upto_region 4 with fail
  go_region_with (first | (go_at_call 10; refine HS.out.mono ?_; rintro e4 w4 ⟨rfl, b4⟩))
  all_goals
    have b34 : Below w3.heap.size w3 w4 := (Below.refl _ _).drew.trans b4
    have k4 := k3.below b34
    have bb4 := bb3.trans (b34.mono bb3.size)
    clear HS b4 b34 k3 o3 l3 v3 x3 bb3 y3 hB3 d0 d1 d2 d3 d4 d5 e0 e1 e2 e3 e4 e5 z1 z2
    have z4 := k4.lt'
    obtain ⟨er, ce, he⟩ := k4.errc
    rcases hmm : m with _ | _
    · subst hmm
      have hno : ¬ RpOk a := fun h => by have := HM.out.2 (HOKK.out h).1; cases this
      have HST := Lib.hid (stop2_any (wrIn g) W 2 _ X.2 ⟨#[114, 101, 115, 116]⟩ w4 k4)
      have HNO : Hid (ok = false) := by
        show _ = _
        rcases ok with _ | _
        · rfl
        · exact absurd (HOK.out.1 rfl) hno
      clear hno k4 ce he
      go_wp2_with fail
      refine HST.out.mono ?_
      rintro e5 w5 ⟨rfl, k5, t5⟩
      have t5' : Tn [g, W] w4 w5 := t5
      have bb5 := bb4.trans (t5'.below (B := w.heap.size) bb4.size (by intro y hy; simp at hy; rcases hy with h | h <;> omega))
      obtain ⟨er5, c5, he5⟩ := k5.errc
      have z5 := k5.lt'
      rcases he5 with ⟨h, _⟩ | ⟨_, hch⟩
      · cases h
      obtain ⟨i5, f5, u5, rfl, hr⟩ := id hch
      have HCH := Lib.hid hch
      clear hch hr t5 t5' k5 HST z4
      go_wp2
      go_quiet (fail)
      go_wp2
      go_ret2
      exact ⟨bb5.drewN' _, .inr ⟨HNO.out, W, fltV i5, rfl, HCH.out.turn (fun _ _ _ _ _ h => h)⟩⟩
    · subst hmm
      have hXa := HM.out.1 rfl
      rcases hbb : X.2.bad with _ | _
      · have hyes := HIFF.out.1 ⟨hbb, hXa⟩
        obtain ⟨-, -, hst⟩ := HOKK.out hyes
        have HYES : Hid (ok = true) := HOK.out.2 hyes
        obtain rfl : er = .nilIface := by
          rcases he with ⟨_, h⟩ | ⟨h, _⟩
          · exact h
          · rw [hbb] at h; cases h
        have hrep : wrRep g w4 X.2.st := k4.rep
        rw [hst] at hrep hsz
        obtain ⟨v, ly, hv, ho, hly⟩ := hrep
        obtain ⟨A9, c9, rfl, hs9, hc9⟩ := own_form ho
        have cv := hv.cell 0 rfl
        have zg := hv.lt
        have HLY := Lib.hid hly
        clear hyes hst he k4 hly hv ho hbb hXa
        go_wp2
        go_ret2
        exact ⟨bb4, .inl ⟨HYES.out, A9, c9, ly, rfl, HLY.out, hs9, hc9⟩⟩
      · have hno : ¬ RpOk a := fun h => by have := (HOKK.out h).2.1; rw [hbb] at this; cases this
        have HNO : Hid (ok = false) := by
          show _ = _
          rcases ok with _ | _
          · rfl
          · exact absurd (HOK.out.1 rfl) hno
        rcases he with ⟨h, _⟩ | ⟨_, hch⟩
        · rw [hbb] at h; cases h
        obtain ⟨i5, f5, u5, rfl, hr⟩ := id hch
        have HCH := Lib.hid hch
        clear hch hr hno k4 hbb hXa
        go_wp2
        go_quiet (fail)
        go_wp2
        go_ret2
        exact ⟨bb4.drewN' _, .inr ⟨HNO.out, W, fltV i5, rfl, HCH.out.turn (fun _ _ _ _ _ h => h)⟩⟩
end Go.Proofs.YtplpagnnlggfgaaDoor
