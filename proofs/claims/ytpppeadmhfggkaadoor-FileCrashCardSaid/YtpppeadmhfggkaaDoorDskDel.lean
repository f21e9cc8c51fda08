/-
  Contracts of slices.IndexFunc and slices.DeleteFunc at files without bytes: what each returns and what it does to memory. Conditions: those that each theorem names.
-/
import Derived.Test.YtpppeadmhfggkaaDoorDskPlace
namespace Go.Proofs.YtpppeadmhfggkaaDoor
open Go.RowKit DP

/-- A file that has no bytes. -/
def bare (f : Fl) : Bool := decide (f.b.size = 0)

set_option maxRecDepth 100000 in
set_option maxHeartbeats 400000 in
theorem index_any (A : Option Addr) (n c B r : Nat) (out : Int) (fs : List Fl) (w : World) (hr : place bare fs = r) (hn : fs.length = n) (hs : Seen w B A (fcells fs)) (hB : B ≤ w.heap.size) (h100 : n ≤ 100) (ho : out = if r < n then (r : Int) else -1) :
    Calls Tryd.prog 59 #[.slice A n c, .func (.func 38) #[] #[]] w fun e w' => e = .returned (.int .i64 out) ∧ Below w.heap.size w w' := by
  have HN := Lib.hid hn
  have HR := Lib.hid hr
  have HO := Lib.hid ho
  clear hn hr ho
  go_enter Tryd.func59, Tryd.ntmps59
  go_wp2
  go_loopw [8] (fun i wr => ∃ (k : Nat), k ≤ n ∧ i = .int .i64 k ∧ place bare fs = k + place bare (fs.drop k) ∧ Below w.heap.size w wr) (fun i _ => n - (intOf i).toNat)
  case atStart => exact ⟨0, by omega, rfl, by simp, Below.refl _ _⟩
  case round =>
    obtain ⟨k, hk, rfl, hp, hbw⟩ := hrel
    have HP := Lib.hid hp
    clear hp
    have hbz := hbw.size
    by_cases hlt : k < n
    · obtain ⟨f, hf⟩ := file_here HN.out hlt
      obtain ⟨b, off, rfl, hb, d0, d1, d2⟩ := file_at (hs.below (hbw.mono hB)) hf
      have HF := Lib.hid (place_step hf bare)
      clear hf
      cases hpf : bare f
      · have HPF := Lib.hid hpf
        clear hpf
        go_wp2_with fail
        refine (crash1_any f false _ HPF.out).mono ?_
        rintro e w3 ⟨rfl, hb3⟩
        have hb4 : Below w.heap.size w w3 := hbw.trans (hb3.mono hbz)
        go_wp2
        go_roundw
        case rel => exact ⟨k + 1, by omega, by go_num, by rw [HP.out, HF.out, HPF.out, if_neg (by decide)]; omega, hb4⟩
        case measure => simp [intOf]; omega
      · have HPF := Lib.hid hpf
        clear hpf
        go_wp2_with fail
        refine (crash1_any f true _ HPF.out).mono ?_
        rintro e w3 ⟨rfl, hb3⟩
        have hb4 : Below w.heap.size w w3 := hbw.trans (hb3.mono hbz)
        go_wp2
        go_ret
        exact ⟨ret_i64 (by have := HP.out; rw [HF.out, HPF.out, if_pos rfl, HR.out] at this; rw [HO.out, if_pos (by omega)]; omega), hb4⟩
    · have HE : Hid (k = r) := by
        show k = r
        have := HP.out
        rw [HR.out, List.drop_of_length_le (by have := HN.out; omega)] at this
        simpa [place] using this.symm
      clear HP
      go_wp2
      go_ret
      exact ⟨ret_i64 (by have := HE.out; rw [HO.out, if_neg (by omega)]), hbw⟩

/-! ### a row of files that is written in place -/
theorem fcells_set {fs : List Fl} {i : Nat} (hi : i < fs.length) (f : Fl) : (((fcells fs).set (i * 3) (.string f.n)).set (i * 3 + 1) (.string f.b)).set (i * 3 + 2) (.int .i64 f.s) = fcells (fs.set i f) := by
  induction fs generalizing i with
  | nil => simp at hi
  | cons x r ih =>
    rcases i with _ | i
    · simp [fcells]
    · have h := ih (i := i) (by simpa using hi)
      simp only [fcells, List.flatMap_cons, List.set_cons_succ, Nat.add_mul] at h ⊢
      simp only [List.cons_append, List.nil_append, Nat.one_mul, show i * 3 + 3 = (i * 3) + 1 + 1 + 1 by omega, show i * 3 + 1 + 1 + 1 + 1 = (i * 3 + 1) + 1 + 1 + 1 by omega, show i * 3 + 1 + 1 + 1 + 2 = (i * 3 + 2) + 1 + 1 + 1 by omega, List.set_cons_succ]
      rw [h]
section
variable {w : World} {base g n c i : Nat} {fs : List Fl}
theorem row_put (h : w.ownsRow base 54 3 (.slice (some ⟨g, 0, none⟩) n c) n (fcells fs)) (hn : fs.length = n) (hi : i < n) (f : Fl) :
    (((w.setCell ⟨g, i * 3, none⟩ (.string f.n)).setCell ⟨g, i * 3 + 1, none⟩ (.string f.b)).setCell ⟨g, i * 3 + 2, none⟩ (.int .i64 f.s)).ownsRow base 54 3 (.slice (some ⟨g, 0, none⟩) n c) n (fcells (fs.set i f)) := by
  rw [← fcells_set (by omega) f]
  exact (((h.stored (i * 3) _).1.stored (i * 3 + 1) _).1.stored (i * 3 + 2) _).1
theorem row_cells (h : w.ownsRow base 54 3 (.slice (some ⟨g, 0, none⟩) n c) n (fcells fs)) (hn : fs.length = n) {f : Fl} (hf : fs[i]? = some f) :
    w.cell? ⟨g, i * 3, none⟩ = some (.string f.n) ∧ w.cell? ⟨g, i * 3 + 1, none⟩ = some (.string f.b) ∧ w.cell? ⟨g, i * 3 + 2, none⟩ = some (.int .i64 f.s) ∧ ∀ j, w.frozen? ⟨g, j, none⟩ = false := by
  obtain ⟨h0, h1, h2⟩ := fcells_at hf
  have hi : i < n := by rw [← hn]; exact (List.getElem?_eq_some_iff.1 hf).1
  exact ⟨(h.cellAt _ (by omega)).trans h0, (h.cellAt _ (by omega)).trans h1, (h.cellAt _ (by omega)).trans h2, fun j => h.frozenAt j⟩
theorem row_base (h : w.ownsRow base 54 3 (.slice (some ⟨g, 0, none⟩) n c) n (fcells fs)) : base ≤ g ∧ g < w.heap.size := h.lt g rfl
/-- 's[:h]'. -/
theorem cut_len (W : World) (A : Option Addr) (h : Nat) (hh : h ≤ c) : (Instr.slice 22 (.slice A n c) none (some (.int .i64 (h : Int))) none).run Tryd.prog W = .ok (.slice A h c) W := by
  have ht' : Tryd.prog.underlying 22 = some (.slice (Tryd.prog.elem 22)) := by simp [Program.elem, Tryd.underlying22]
  have he : Tryd.prog.elem 22 = 54 := by simp [Program.elem, Tryd.underlying22]
  rw [run_slice_h W _ _ _ _ ht' .i64 _ (by omega) (by omega), he, file_size]
  cases A <;> simp [Result.andThen, sliced, Addr.add]
/-- 'clear(s[i:])' of such a row: what stands ahead of it stays. -/
theorem row_clear (ty : TypeId) (h : w.ownsRow base 54 3 (.slice (some ⟨g, 0, none⟩) n c) n (fcells fs)) (hn : fs.length = n) (hi : i < n) (c' : Nat) :
    ∃ w', (Builtin.clear_ #[22] ty #[.slice (some ⟨g, i * 3, none⟩) (n - i) c']).run Tryd.prog w = .ok (.tuple #[]) w' ∧ w'.ownsRow base 54 3 (.slice (some ⟨g, 0, none⟩) i c) i (fcells (fs.take i)) ∧ Below base w w' ∧ w'.heap.size = w.heap.size := by
  rcases h.2 with ⟨h', _⟩ | ⟨g', cap', cur, h', hb, hg, hnc, hcm, hcs, htake⟩
  · simp at h'
  · simp only [Value.slice.injEq, Option.some.injEq, Addr.mk.injEq, and_true, true_and] at h'
    obtain ⟨rfl, rfl⟩ := h'
    obtain ⟨m, hm⟩ : ∃ m, n - i = m + 1 := ⟨n - i - 1, by omega⟩
    have hvs : (Builtin.zeroCells #[.string { data := #[] }, .string { data := #[] }, .int .i64 0] (n - i)).toList.length = (n - i) * 3 := by
      rw [Array.length_toList, size_zeroCells]; rfl
    have hst := run_storeCells_at Tryd.prog g (i * 3) 54 (Builtin.zeroCells #[.string { data := #[] }, .string { data := #[] }, .int .i64 0] (n - i)).toList 0 cur w hg (by rw [hvs]; omega) (by
      intro u hu
      simp only [Builtin.zeroCells, Array.toList_map, List.mem_map] at hu
      obtain ⟨q, _, rfl⟩ := hu
      have hq : q % 3 = 0 ∨ q % 3 = 1 ∨ q % 3 = 2 := by omega
      have hs3 : (#[Value.string { data := #[] }, Value.string { data := #[] }, Value.int IntKind.i64 0] : Array Value).size = 3 := rfl
      rw [hs3]
      rcases hq with hq | hq | hq <;> rw [hq] <;> rfl)
    obtain ⟨ds, hds⟩ : ∃ ds, ds = (cur.toList.take (i * 3 + 0) ++ (Builtin.zeroCells #[Value.string { data := #[] }, .string { data := #[] }, .int .i64 0] (n - i)).toList ++ cur.toList.drop (i * 3 + 0 + (Builtin.zeroCells #[Value.string { data := #[] }, .string { data := #[] }, .int .i64 0] (n - i)).toList.length)).toArray := ⟨_, rfl⟩
    rw [← hds] at hst
    have p1 : ds.size = c * 3 := by
      rw [hds]
      simp only [List.size_toArray, List.length_append, List.length_take, List.length_drop, Array.length_toList, hvs]
      omega
    have p2 : ds.toList.take (i * 3) = fcells (fs.take i) := by
      rw [hds]
      simp only [Nat.add_zero]
      have ha : (List.take (i * 3) cur.toList).length = i * 3 := by rw [List.length_take, Array.length_toList, hcs]; omega
      rw [List.append_assoc, List.take_append_of_le_length (by rw [ha]; exact Nat.le_refl _), List.take_of_length_le (by rw [ha]; exact Nat.le_refl _), ← fcells_take, ← htake, List.take_take, Nat.min_eq_left (by omega)]
    refine ⟨w.setRow g ds, ?_, ⟨?_, Or.inr ⟨g, c, ds, rfl, hb, setRow_heap w g cur ds _ (0, 0) hg, by omega, hcm, p1, p2⟩⟩, ?_, ?_⟩
    · rw [hm] at hst
      rw [hm]
      simp only [Builtin.clear_]
      simp [run_underlying Tryd.underlying22, Value.cells, hst]
    · rw [fcells_length, List.length_take, hn]; congr 1; omega
    · exact ⟨rfl, rfl, rfl, by simp [World.setRow], fun k hk => setRow_other _ _ _ _ (by omega)⟩
    · simp [World.setRow]
end

def DelPost (fs : List Fl) (base : Nat) (w : World) (e : Ending) (w' : World) : Prop :=
  ∃ A' m c', e = .returned (.slice A' m c') ∧ fs.length = m ∧ w'.ownsRow base 54 3 (.slice A' m c') m (fcells fs) ∧ Below base w w'

theorem place_all {fs : List Fl} (h : place bare fs = fs.length) : fs.filter (fun f => !bare f) = fs := by
  rw [List.filter_eq_self]
  intro f hf
  cases hb : bare f
  · rfl
  · exfalso
    have : place bare fs < fs.length := by
      clear h
      induction fs with
      | nil => cases hf
      | cons x r ih =>
        unfold place
        rcases List.mem_cons.1 hf with rfl | hf
        · rw [if_pos hb]; simp
        · split
          · simp
          · have := ih hf; simp; omega
    omega
theorem place_front {fs : List Fl} {r : Nat} (h : place bare fs = r) (hr : r < fs.length) : (fs.take (r + 1)).filter (fun f => !bare f) = fs.take r := by
  subst h
  induction fs with
  | nil => simp at hr
  | cons x r ih =>
    unfold place at hr ⊢
    cases hx : bare x
    · rw [hx, if_neg (by simp)] at hr
      rw [if_neg (by simp), List.take_succ_cons, List.take_succ_cons, List.filter_cons_of_pos (by simp [hx]), ih (by simpa using hr)]
    · rw [if_pos rfl, List.take_succ_cons, List.take_zero, List.filter_cons_of_neg (by simp [hx])]; rfl

/-- How far DeleteFunc has come: i files are kept of the first j. -/
def Kpt (fs R : List Fl) (i j : Nat) : Prop := R.length = fs.length ∧ i < j ∧ j ≤ fs.length ∧ R.take i = (fs.take j).filter (fun f => !bare f) ∧ R.drop j = fs.drop j
theorem Kpt.at_ {fs R : List Fl} {i j : Nat} (h : Kpt fs R i j) {f : Fl} (hf : fs[j]? = some f) : R[j]? = some f := by
  have h1 : (R.drop j)[0]? = (fs.drop j)[0]? := by rw [h.2.2.2.2]
  simpa [List.getElem?_drop, hf] using h1
theorem Kpt.skip {fs R : List Fl} {i j : Nat} (h : Kpt fs R i j) {f : Fl} (hf : fs[j]? = some f) (hb : bare f = true) : Kpt fs R i (j + 1) := by
  obtain ⟨hj, he⟩ := List.getElem?_eq_some_iff.1 hf
  refine ⟨h.1, by have := h.2.1; omega, by omega, ?_, ?_⟩
  · rw [h.2.2.2.1, List.take_succ_eq_append_getElem hj, List.filter_append, he]; simp [hb]
  · have := congrArg (List.drop 1) h.2.2.2.2
    simpa [List.drop_drop] using this
theorem Kpt.keep {fs R : List Fl} {i j : Nat} (h : Kpt fs R i j) {f : Fl} (hf : fs[j]? = some f) (hb : bare f = false) : Kpt fs (R.set i f) (i + 1) (j + 1) := by
  obtain ⟨hj, he⟩ := List.getElem?_eq_some_iff.1 hf
  have hi : i < R.length := by have := h.1; have := h.2.1; omega
  refine ⟨by rw [List.length_set]; exact h.1, by have := h.2.1; omega, by omega, ?_, ?_⟩
  · rw [List.take_succ_eq_append_getElem (by rw [List.length_set]; exact hi), List.take_set_of_le (Nat.le_refl _), h.2.2.2.1, List.take_succ_eq_append_getElem hj, List.filter_append, he]
    simp [hb]
  · rw [List.drop_set_of_lt (by have := h.2.1; omega)]
    have := congrArg (List.drop 1) h.2.2.2.2
    simpa [List.drop_drop] using this

set_option maxRecDepth 100000 in
set_option maxHeartbeats 1000000 in
theorem del_any (g n c base : Nat) (fs : List Fl) (w : World) (hn : fs.length = n) (hown : w.ownsRow base 54 3 (.slice (some ⟨g, 0, none⟩) n c) n (fcells fs)) (h100 : n ≤ 100) :
    Calls Tryd.prog 37 #[.slice (some ⟨g, 0, none⟩) n c, .func (.func 38) #[] #[]] w (DelPost (fs.filter (fun f => !bare f)) base w) := by
  obtain ⟨r, hr⟩ : ∃ r, place bare fs = r := ⟨_, rfl⟩
  have hrn : r ≤ n := by rw [← hr, ← hn]; exact place_le _ _
  obtain ⟨hs0, hnc⟩ := Seen.of_own3 hown
  obtain ⟨hbg, hgl⟩ := row_base hown
  have HN := Lib.hid hn
  have HR := Lib.hid hr
  by_cases hfull : r = n
  · have hall := place_all (hr.trans (hfull.trans hn.symm))
    have HALL := Lib.hid hall
    clear hn hr hall
    subst hfull
    go_enter Tryd.func37, Tryd.ntmps37
    go_wp2_with fail
    refine (index_any _ r c w.heap.size r (-1) fs _ HR.out HN.out hs0 (Nat.le_refl _) h100 (by rw [if_neg (by omega)])).mono ?_
    rintro e w1 ⟨rfl, hb1⟩
    have hown1 := own_below hown hb1
    go_wp2
    go_ret
    exact ⟨_, r, c, rfl, by rw [HALL.out]; exact HN.out, by rw [HALL.out]; exact hown1, hb1.mono (by omega)⟩
  · have hlt : r < n := by omega
    have hk0 : Kpt fs fs r (r + 1) := ⟨rfl, by omega, by omega, (place_front hr (by omega)).symm, rfl⟩
    have HK0 := Lib.hid hk0
    clear hn hr hk0
    have hne : ((r : Int) == -1) = false := by rw [beq_eq_false_iff_ne]; omega
    go_enter Tryd.func37, Tryd.ntmps37
    go_wp2_with fail
    refine (index_any _ n c w.heap.size r (r : Int) fs _ HR.out HN.out hs0 (Nat.le_refl _) h100 (by rw [if_pos hlt])).mono ?_
    rintro e w1 ⟨rfl, hb1⟩
    have hown1 := own_below hown hb1
    have hb1' : Below base w w1 := hb1.mono (by omega)
    clear hb1
    go_wp2
    clear hne
    go_loopw [5, 6] (fun a b wr => ∃ (i j : Nat) (R : List Fl), a = .int .i64 i ∧ b = .int .i64 j ∧ Kpt fs R i j ∧ wr.ownsRow base 54 3 (.slice (some ⟨g, 0, none⟩) n c) n (fcells R) ∧ Below base w wr) (fun _ b _ => n - (intOf b).toNat)
    case atStart => exact ⟨r, r + 1, fs, rfl, by go_num, HK0.out, hown1, hb1'⟩
    case round =>
      obtain ⟨i, j, R, rfl, rfl, hk, hownr, hbr⟩ := hrel
      have HK := Lib.hid hk
      have hij : i < j := hk.2.1
      have hjn : j ≤ n := by rw [← HN.out]; exact hk.2.2.1
      have hRn : R.length = n := by rw [← HN.out]; exact hk.1
      have HRN := Lib.hid hRn
      clear hk hRn hown1 hb1' hown hs0
      obtain ⟨_, hglr⟩ := row_base hownr
      have hbz : base ≤ wr.heap.size := by omega
      by_cases hlt : j < n
      · obtain ⟨f, hf⟩ := file_here HN.out hlt
        have hfR := HK.out.at_ hf
        obtain ⟨d0, d1, d2, df⟩ := row_cells hownr HRN.out hfR
        cases hbf : bare f
        · have HKK := Lib.hid (HK.out.keep hf hbf)
          have HBF := Lib.hid hbf
          clear hf hfR hbf
          go_wp2_with fail
          refine (crash1_any f false _ HBF.out).mono ?_
          rintro e w3 ⟨rfl, hb3⟩
          have hown3 := own_below (hownr.alloc (.cells #[.string f.n, .string f.b, .int .i64 f.s] 54)) hb3
          have v7 := Var.below (new1 wr #[.string f.n, .string f.b, .int .i64 f.s] 54) hb3 (by simp)
          have hb3' : Below base w w3 := (hbr.alloc hbz _).trans (hb3.mono (by simp; omega))
          obtain ⟨fi, hfi⟩ := file_here HRN.out (show i < n by omega)
          obtain ⟨i0, i1, i2, if_⟩ := row_cells hown3 HRN.out hfi
          have hput := row_put hown3 HRN.out (show i < n by omega) f
          obtain ⟨x0, x1, x2, xf⟩ := v7.cells3
          clear d0 d1 d2 df hfi hb3 hown3
          go_wp2
          go_roundw
          case rel => exact ⟨i + 1, j + 1, _, by go_num, by go_num, HKK.out, hput, ((hb3'.setCell hbg _).setCell hbg _).setCell hbg _⟩
          case measure => simp [intOf]; omega
        · have HKK := Lib.hid (HK.out.skip hf hbf)
          have HBF := Lib.hid hbf
          clear hf hfR hbf
          go_wp2_with fail
          refine (crash1_any f true _ HBF.out).mono ?_
          rintro e w3 ⟨rfl, hb3⟩
          have hown3 := own_below (hownr.alloc (.cells #[.string f.n, .string f.b, .int .i64 f.s] 54)) hb3
          have hb3' : Below base w w3 := (hbr.alloc hbz _).trans (hb3.mono (by simp; omega))
          go_wp2
          go_roundw
          case rel => exact ⟨i, j + 1, R, rfl, by go_num, HKK.out, hown3, hb3'⟩
          case measure => simp [intOf]; omega
      · obtain rfl : j = n := by omega
        have hin : i < j := hij
        obtain ⟨w5, hcl, hown5, hb5, hz5⟩ := row_clear (w := wr) 0 hownr HRN.out hin (c - i)
        have hcb := cut_back (A := some ⟨g, 0, none⟩) wr c i j (by omega)
        rw [if_neg (by omega)] at hcb
        simp only [Option.map_some, plain_add, Nat.zero_add] at hcb
        have hcf := cut_len (n := j) (c := c) w5 (some ⟨g, 0, none⟩) i (by omega)
        have HT : Hid (R.take i = fs.filter (fun f => !bare f)) := by
          show _ = _
          rw [HK.out.2.2.2.1, List.take_of_length_le (by have := HN.out; omega)]
        have hl5 : (R.take i).length = i := by rw [List.length_take, HRN.out]; omega
        have HL5 := Lib.hid hl5
        clear hl5
        go_wp2
        go_ret
        exact ⟨_, i, c, rfl, by rw [← HT.out]; exact HL5.out, by rw [← HT.out]; exact hown5, hbr.trans hb5⟩

end Go.Proofs.YtpppeadmhfggkaaDoor
