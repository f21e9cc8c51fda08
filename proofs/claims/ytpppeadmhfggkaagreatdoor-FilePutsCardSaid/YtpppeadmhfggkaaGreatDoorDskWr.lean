/-
  Operations as cells; a list of them that came in; the reference's GreatWrites. No conditions.
-/
import Derived.Test.YtpppeadmhfggkaaGreatDoorDskIn
import Derived.Test.YtpppeadmhfggkaaGreatDoorDskNew
namespace Go.Proofs.YtpppeadmhfggkaaGreatDoor
open Go.RowKit DP

def wcells (l : List Wr) : List Value := l.flatMap fun x => [.int .i8 x.op, .string x.file, .string x.b, .int .i64 x.n]
theorem wcells_length (l : List Wr) : (wcells l).length = l.length * 4 := by
  induction l with
  | nil => rfl
  | cons x r ih => simp only [wcells, List.flatMap_cons, List.length_append, List.length_cons, List.length_nil] at ih ⊢; omega
theorem wcells_append (a b : List Wr) : wcells (a ++ b) = wcells a ++ wcells b := by simp [wcells]
theorem wcells_at {l : List Wr} {k : Nat} {x : Wr} (h : l[k]? = some x) : (wcells l)[k * 4]? = some (.int .i8 x.op) ∧ (wcells l)[k * 4 + 1]? = some (.string x.file) ∧ (wcells l)[k * 4 + 2]? = some (.string x.b) ∧ (wcells l)[k * 4 + 3]? = some (.int .i64 x.n) := by
  have e : wcells l = wcells (l.take k) ++ ([.int .i8 x.op, .string x.file, .string x.b, .int .i64 x.n] ++ wcells (l.drop (k + 1))) := by
    obtain ⟨hk, hf⟩ := List.getElem?_eq_some_iff.1 h
    have : l = l.take k ++ (x :: l.drop (k + 1)) := by
      rw [← hf, ← List.drop_eq_getElem_cons hk, List.take_append_drop]
    conv => lhs; rw [this]
    rw [wcells_append]
    congr 1
  obtain ⟨hk, _⟩ := List.getElem?_eq_some_iff.1 h
  have hl : (wcells (l.take k)).length = k * 4 := by rw [wcells_length, List.length_take]; omega
  rw [e]
  refine ⟨?_, ?_, ?_, ?_⟩
  · rw [List.getElem?_append_right (by omega)]; simp [hl]
  · rw [List.getElem?_append_right (by omega), hl, show k * 4 + 1 - k * 4 = 1 by omega]; rfl
  · rw [List.getElem?_append_right (by omega), hl, show k * 4 + 2 - k * 4 = 2 by omega]; rfl
  · rw [List.getElem?_append_right (by omega), hl, show k * 4 + 3 - k * 4 = 3 by omega]; rfl
theorem write_at {w : World} {B : Nat} {A : Option Addr} {l : List Wr} {k : Nat} {x : Wr} (h : Seen w B A (wcells l)) (hk : l[k]? = some x) :
    ∃ b off, A = some ⟨b, off, none⟩ ∧ b < B ∧ w.cell? ⟨b, off + k * 4, none⟩ = some (.int .i8 x.op) ∧ w.cell? ⟨b, off + k * 4 + 1, none⟩ = some (.string x.file) ∧ w.cell? ⟨b, off + k * 4 + 2, none⟩ = some (.string x.b) ∧ w.cell? ⟨b, off + k * 4 + 3, none⟩ = some (.int .i64 x.n) := by
  obtain ⟨h0, h1, h2, h3⟩ := wcells_at hk
  obtain ⟨b, off, rfl, hb, hc⟩ := h (by intro e; rw [e] at h0; simp at h0)
  exact ⟨b, off, rfl, hb, hc _ _ h0, hc _ _ h1, hc _ _ h2, hc _ _ h3⟩
theorem write_here {l : List Wr} {k n : Nat} (hn : l.length = n) (hk : k < n) : ∃ x, l[k]? = some x := ⟨_, List.getElem?_eq_getElem (by omega)⟩
theorem wcells_all {w : World} {b off : Nat} {l : List Wr} (h : ∀ k x, l[k]? = some x → w.cell? ⟨b, off + k * 4, none⟩ = some (.int .i8 x.op) ∧ w.cell? ⟨b, off + k * 4 + 1, none⟩ = some (.string x.file) ∧ w.cell? ⟨b, off + k * 4 + 2, none⟩ = some (.string x.b) ∧ w.cell? ⟨b, off + k * 4 + 3, none⟩ = some (.int .i64 x.n)) :
    ∀ j u, (wcells l)[j]? = some u → w.cell? ⟨b, off + j, none⟩ = some u := by
  intro j u hj
  have hlt : j < l.length * 4 := by
    rw [← wcells_length]
    exact (List.getElem?_eq_some_iff.1 hj).1
  obtain ⟨x, hx⟩ := in_some l (j / 4) l.length rfl (by omega)
  obtain ⟨e0, e1, e2, e3⟩ := wcells_at hx
  obtain ⟨h0, h1, h2, h3⟩ := h _ _ hx
  have hr : j % 4 = 0 ∨ j % 4 = 1 ∨ j % 4 = 2 ∨ j % 4 = 3 := by omega
  rcases hr with hr | hr | hr | hr
  · have e : j / 4 * 4 = j := by omega
    rw [e] at e0 h0
    exact h0.trans (e0.symm.trans hj)
  · have e : j / 4 * 4 + 1 = j := by omega
    have e' : off + j / 4 * 4 + 1 = off + j := by omega
    rw [e] at e1
    rw [e'] at h1
    exact h1.trans (e1.symm.trans hj)
  · have e : j / 4 * 4 + 2 = j := by omega
    have e' : off + j / 4 * 4 + 2 = off + j := by omega
    rw [e] at e2
    rw [e'] at h2
    exact h2.trans (e2.symm.trans hj)
  · have e : j / 4 * 4 + 3 = j := by omega
    have e' : off + j / 4 * 4 + 3 = off + j := by omega
    rw [e] at e3
    rw [e'] at h3
    exact h3.trans (e3.symm.trans hj)

section
variable {H : Type} {enc : TypeId × Value → H} {w : World} {base : Nat} {spare : Nat → Bool} {held : Bool} {fuel : Nat} {a : Option Addr} {len cap : Nat} {x : DataW H × List MemPlace}

theorem spot4 {w : World} {ad : Addr} {v : Value} (h : w.cell? ((ad.add (0 * 4)).add 0) = some v) : ∃ b off, ad = ⟨b, off, none⟩ ∧ b < w.heap.size := by
  have he : (ad.add (0 * 4)).add 0 = ad := by simp [Addr.add]
  rw [he] at h
  obtain ⟨b, off, spot⟩ := ad
  have hs : spot = none := World.cell?_spot h
  subst hs
  exact ⟨b, off, rfl, World.block_lt_of_cell? w _ h⟩
theorem writes_in (h : DataW.trod enc Tryz.prog w base spare held fuel 25 [.slice a len cap] = some x) :
    ∃ l : List Wr, l.length = len ∧ Seen w w.heap.size a (wcells l) ∧ len ≤ maxLen ∧ ∀ y ∈ l, y.b.size ≤ maxLen ∧ y.file.size ≤ maxLen := by
  have hC : Tryz.prog.cellsOf 50 = 4 := by kernel_rfl
  have hS : Tryz.prog.cellsOf 9 = 1 := by kernel_rfl
  have hI : Tryz.prog.cellsOf 3 = 1 := by kernel_rfl
  have hB : Tryz.prog.cellsOf 33 = 1 := by kernel_rfl
  rcases Deep.open_slice Tryz.underlying25 h with ⟨hcs, _⟩ | ⟨ad, l, c, m, n, D, Pl, hcs, _, hlc, hcm, hm, _, hi⟩
  · simp at hcs
    obtain ⟨rfl, rfl, rfl⟩ := hcs
    exact ⟨[], rfl, Seen.nil _ _ _, Nat.zero_le _, by simp⟩
  · simp at hcs
    obtain ⟨rfl, rfl, rfl⟩ := hcs
    have one : ∀ i, i < len → ∃ y : Wr, ∃ b off, ad = ⟨b, off, none⟩ ∧ b < w.heap.size ∧ (w.cell? ⟨b, off + i * 4, none⟩ = some (.int .i8 y.op) ∧ w.cell? ⟨b, off + i * 4 + 1, none⟩ = some (.string y.file) ∧ w.cell? ⟨b, off + i * 4 + 2, none⟩ = some (.string y.b) ∧ w.cell? ⟨b, off + i * 4 + 3, none⟩ = some (.int .i64 y.n)) ∧ y.b.size ≤ maxLen ∧ y.file.size ≤ maxLen := by
      intro i hil
      obtain ⟨cs', hc, ht⟩ := hi i (by rw [hm]; split <;> omega)
      rw [hC] at hc
      obtain ⟨_, hl, hat⟩ := World.cells?_some hc
      obtain ⟨xs, n', _, _, _, hxl, hf⟩ := DataW.trod_struct Tryz.underlying50 ht
      obtain ⟨c0, h0⟩ := in_some cs' 0 4 hl (by omega)
      obtain ⟨c1, h1⟩ := in_some cs' 1 4 hl (by omega)
      obtain ⟨c2, h2⟩ := in_some cs' 2 4 hl (by omega)
      obtain ⟨c3, h3⟩ := in_some cs' 3 4 hl (by omega)
      obtain ⟨y0, g0⟩ := in_some xs 0 4 hxl (by omega)
      obtain ⟨y1, g1⟩ := in_some xs 1 4 hxl (by omega)
      obtain ⟨y2, g2⟩ := in_some xs 2 4 hxl (by omega)
      obtain ⟨y3, g3⟩ := in_some xs 3 4 hxl (by omega)
      have f0 : DataW.trod enc Tryz.prog w base spare held n' 33 ((cs'.drop 0).take (Tryz.prog.cellsOf 33)) = xs[0]? := hf 0 _ rfl
      have f1 : DataW.trod enc Tryz.prog w base spare held n' 9 ((cs'.drop 1).take (Tryz.prog.cellsOf 9)) = xs[1]? := hf 1 _ rfl
      have f2 : DataW.trod enc Tryz.prog w base spare held n' 9 ((cs'.drop 2).take (Tryz.prog.cellsOf 9)) = xs[2]? := hf 2 _ rfl
      have f3 : DataW.trod enc Tryz.prog w base spare held n' 3 ((cs'.drop 3).take (Tryz.prog.cellsOf 3)) = xs[3]? := hf 3 _ rfl
      rw [hB, in_cut _ _ _ h0, g0] at f0
      rw [hS, in_cut _ _ _ h1, g1] at f1
      rw [hS, in_cut _ _ _ h2, g2] at f2
      rw [hI, in_cut _ _ _ h3, g3] at f3
      obtain ⟨o, e0, _⟩ := DataW.trod_int Tryz.underlying33 f0
      obtain ⟨d, e1, _, hd⟩ := DataW.trod_string Tryz.underlying9 f1
      obtain ⟨p, e2, _, hp⟩ := DataW.trod_string Tryz.underlying9 f2
      obtain ⟨q, e3, _⟩ := DataW.trod_int Tryz.underlying3 f3
      simp only [List.cons.injEq, and_true] at e0 e1 e2 e3
      subst e0 e1 e2 e3
      have k0 := hat 0 (by omega)
      have k1 := hat 1 (by omega)
      have k2 := hat 2 (by omega)
      have k3 := hat 3 (by omega)
      rw [h0] at k0
      rw [h1] at k1
      rw [h2] at k2
      rw [h3] at k3
      obtain ⟨i0, hi0⟩ : ∃ i0 : Nat, i0 = 0 := ⟨0, rfl⟩
      obtain ⟨cs0, hc0, _⟩ := hi i0 (by rw [hm]; split <;> omega)
      rw [hC] at hc0
      obtain ⟨_, hl0, hat0⟩ := World.cells?_some hc0
      obtain ⟨z, hz⟩ := in_some cs0 0 4 hl0 (by omega)
      subst hi0
      obtain ⟨b, off, rfl, hb⟩ := spot4 ((hat0 0 (by omega)).trans hz)
      simp only [plain_add] at k0 k1 k2 k3
      exact ⟨⟨o, d, p, q⟩, b, off, rfl, hb, ⟨by simpa using k0, k1, k2, k3⟩, hp, hd⟩
    obtain ⟨ws, hlen, hws⟩ := in_choose len one
    refine ⟨ws, hlen, fun hne => ?_, by omega, fun y hy => ?_⟩
    · obtain ⟨y, hy⟩ := in_some ws 0 ws.length rfl (by
        rcases ws with _ | ⟨y, r⟩
        · exact absurd rfl hne
        · simp)
      obtain ⟨b, off, rfl, hb, _, _⟩ := hws 0 y hy
      refine ⟨b, off, rfl, hb, wcells_all fun k g hg => ?_⟩
      obtain ⟨b', off', he, _, hk, _⟩ := hws k g hg
      injection he with h1 h2
      subst h1 h2
      exact hk
    · obtain ⟨k, hk⟩ := List.mem_iff_getElem?.1 hy
      obtain ⟨_, _, _, _, _, hh⟩ := hws k y hk
      exact hh
end

def greatW1 (x : Wr) : Bool := decide (4096 < x.b.size) || decide (100 < x.file.size)
def greatW (l : List Wr) : Bool := decide (100 < l.length) || l.any greatW1

set_option maxRecDepth 100000 in
set_option maxHeartbeats 400000 in
theorem greatW_any (A : Option Addr) (n c B : Nat) (l : List Wr) (b : Bool) (w : World) (hn : l.length = n) (hb : greatW l = b) (hs : Seen w B A (wcells l)) (hB : B ≤ w.heap.size) (hmax : n ≤ 9223372036854775807)
    (hsz : ∀ x ∈ l, x.b.size ≤ 9223372036854775807 ∧ x.file.size ≤ 9223372036854775807) :
    Calls Tryz.prog 6 #[.slice A n c] w fun e w' => e = .returned (.bool b) ∧ Below w.heap.size w w' := by
  have HN := Lib.hid hn
  have HB : Hid ((decide (100 < n) || l.any greatW1) = b) := by show _ = _; rw [← hb, ← hn]; rfl
  clear hn hb
  by_cases h100 : 100 < n
  · obtain rfl : true = b := by rw [← HB.out, decide_eq_true h100, Bool.true_or]
    go_enter Tryz.func6, Tryz.ntmps6
    go_wp2
    go_ret
    exact ⟨rfl, Below.refl _ _⟩
  · have h100' : n ≤ 100 := by omega
    have HA : Hid (l.any greatW1 = b) := by show _ = _; rw [← HB.out, decide_eq_false h100, Bool.false_or]
    clear HB h100
    go_enter Tryz.func6, Tryz.ntmps6
    go_wp2
    go_loop [3] (fun i => ∃ k : Nat, k ≤ n ∧ i = .int .i64 k ∧ (l.take k).any greatW1 = false) (fun i => n - (intOf i).toNat)
    case atStart => exact ⟨0, by omega, rfl, by simp⟩
    case round =>
      obtain ⟨k, hk, rfl, hall⟩ := hrel
      have HL := Lib.hid hall
      clear hall
      by_cases hlt : k < n
      · obtain ⟨f, hf⟩ := write_here HN.out hlt
        obtain ⟨hs1, hs2⟩ := hsz f (List.mem_of_getElem? hf)
        obtain ⟨bb, off, rfl, hbb, d0, d1, d2, d3⟩ := write_at hs hf
        have hbw : bb < w.heap.size := by omega
        have HS := Lib.hid (any_step l k f hf greatW1)
        have HBAD : Hid (greatW1 f = true → true = b) := fun h => by rw [← HA.out]; symm; rw [List.any_eq_true]; exact ⟨f, List.mem_of_getElem? hf, h⟩
        obtain ⟨fo, fn, fb, s⟩ := f
        simp only at hs1 hs2 d0 d1 d2 d3
        clear hf
        by_cases hb1 : 4096 < fb.size
        · obtain rfl := HBAD.out (by unfold greatW1; rw [decide_eq_true hb1, Bool.true_or])
          clear HBAD HS
          go_wp2
          go_ret
          exact ⟨rfl, Below.refl _ _⟩
        · by_cases hb2 : 100 < fn.size
          · obtain rfl := HBAD.out (by unfold greatW1; rw [decide_eq_true hb2, Bool.or_true])
            have t1 : decide ((4096 : Int) < (fb.size : Int)) = false := bool_dec _ (by omega)
            clear HBAD HS
            go_wp2
            go_ret
            exact ⟨rfl, Below.refl _ _⟩
          · have HM : Hid ((l.take (k + 1)).any greatW1 = false) := by
              show _ = _
              rw [HS.out, HL.out, Bool.false_or]
              unfold greatW1
              rw [decide_eq_false hb1, decide_eq_false hb2]; rfl
            have t1 : decide ((4096 : Int) < (fb.size : Int)) = false := bool_dec _ (by omega)
            have t2 : decide ((100 : Int) < (fn.size : Int)) = false := bool_dec _ (by omega)
            clear HBAD HS
            go_wp2
            go_round
            case rel => exact ⟨k + 1, by omega, by go_num, HM.out⟩
            case measure => simp [intOf]; omega
      · obtain rfl : false = b := by rw [← HA.out, ← HL.out, List.take_of_length_le (by have := HN.out; omega)]
        clear HL
        go_wp2
        go_ret
        exact ⟨rfl, Below.refl _ _⟩
end Go.Proofs.YtpppeadmhfggkaaGreatDoor
