/-
  Acts of a script as cells; the contract of the law's great. Conditions: those that each theorem names.
-/
import Derived.Test.YtbglpmjfajmkdaaDoorDskWr
import Derived.Test.YtbglpmjfajmkdaaDoorDskPlaysPlain
import Derived.Test.YtbglpmjfajmkdaaDoorDskLeft
import Derived.Test.YtbglpmjfajmkdaaDoorDskOnes
namespace Go.Proofs.YtbglpmjfajmkdaaDoor
open Go.RowKit DP

/-! ### rows of elements of one width -/
theorem flat_at {α : Type} (f : α → List Value) (m : Nat) (hm : ∀ x, (f x).length = m) {l : List α} {k : Nat} {x : α} (h : l[k]? = some x) (j : Nat) (hj : j < m) : (l.flatMap f)[k * m + j]? = (f x)[j]? := by
  induction l generalizing k with
  | nil => simp at h
  | cons y r ih =>
    rw [List.flatMap_cons]
    rcases k with _ | k
    · simp at h
      subst h
      rw [List.getElem?_append_left (by rw [hm]; omega)]
      congr 1
      omega
    · rw [List.getElem?_append_right (by rw [hm, Nat.add_mul]; omega), hm]
      rw [show (k + 1) * m + j - m = k * m + j by rw [Nat.add_mul]; omega]
      exact ih (by simpa using h)
theorem flat_length {α : Type} (f : α → List Value) (m : Nat) (hm : ∀ x, (f x).length = m) (l : List α) : (l.flatMap f).length = l.length * m := by
  induction l with
  | nil => simp
  | cons y r ih => rw [List.flatMap_cons, List.length_append, hm, ih, List.length_cons, Nat.add_mul]; omega

/-- An act, and where its keep lies. -/
structure AcM where
  a : Ac
  K : Option Addr
  kc : Nat
def acell (x : AcM) : List Value := [.int .i64 x.a.act, .int .i8 x.a.w.op, .string x.a.w.file, .string x.a.w.b, .int .i64 x.a.w.n, .slice x.K x.a.keep.length x.kc, .int .i64 x.a.n]
def acells (l : List AcM) : List Value := l.flatMap acell
/-- A script in memory. -/
def Script (w : World) (B : Nat) (A : Option Addr) (l : List AcM) : Prop := Seen w B A (acells l) ∧ ∀ x ∈ l, Seen w B x.K (x.a.keep.map (Value.int .i64))
theorem Script.below {w w' : World} {B : Nat} {A : Option Addr} {l : List AcM} (h : Script w B A l) (k : Below B w w') : Script w' B A l := ⟨h.1.below k, fun x hx => (h.2 x hx).below k⟩
/-- What a machine can hold of an act. -/
def AcFits (x : AcM) : Prop := (x.a.w.b.size ≤ 9223372036854775807 ∧ x.a.w.file.size ≤ 9223372036854775807) ∧ x.a.keep.length ≤ 9223372036854775807 ∧ (∀ y ∈ x.a.keep, -9223372036854775808 ≤ y ∧ y ≤ 9223372036854775807) ∧ x.a.n ≤ 9223372036854775807
theorem act_at {w : World} {B : Nat} {A : Option Addr} {l : List AcM} {k : Nat} {x : AcM} (h : Script w B A l) (hk : l[k]? = some x) :
    ∃ b off, A = some ⟨b, off, none⟩ ∧ b < B ∧ w.cell? ⟨b, off + k * 7, none⟩ = some (.int .i64 x.a.act) ∧ w.cell? ⟨b, off + k * 7 + 1, none⟩ = some (.int .i8 x.a.w.op) ∧ w.cell? ⟨b, off + k * 7 + 2, none⟩ = some (.string x.a.w.file) ∧ w.cell? ⟨b, off + k * 7 + 3, none⟩ = some (.string x.a.w.b) ∧
      w.cell? ⟨b, off + k * 7 + 4, none⟩ = some (.int .i64 x.a.w.n) ∧ w.cell? ⟨b, off + k * 7 + 5, none⟩ = some (.slice x.K x.a.keep.length x.kc) ∧ w.cell? ⟨b, off + k * 7 + 6, none⟩ = some (.int .i64 x.a.n) := by
  have ha : ∀ j, j < 7 → (acells l)[k * 7 + j]? = (acell x)[j]? := fun j hj => flat_at acell 7 (fun _ => rfl) hk j hj
  obtain ⟨b, off, rfl, hb, hc⟩ := h.1 (by intro e; have := ha 0 (by omega); rw [e] at this; simp [acell] at this)
  have hcc : ∀ j u, j < 7 → (acell x)[j]? = some u → w.cell? ⟨b, off + k * 7 + j, none⟩ = some u := fun j u hj hu => by
    rw [Nat.add_assoc]
    exact hc _ _ ((ha j hj).trans hu)
  exact ⟨b, off, rfl, hb, hcc 0 _ (by omega) rfl, hcc 1 _ (by omega) rfl, hcc 2 _ (by omega) rfl, hcc 3 _ (by omega) rfl, hcc 4 _ (by omega) rfl, hcc 5 _ (by omega) rfl, hcc 6 _ (by omega) rfl⟩
theorem act_here {l : List AcM} {k n : Nat} (hn : l.length = n) (hk : k < n) : ∃ x, l[k]? = some x := ⟨_, List.getElem?_eq_getElem (by omega)⟩
theorem Var.cells7 {w : World} {g T : Nat} {a b c d e f i : Value} (h : Var w g T #[a, b, c, d, e, f, i]) : w.cell? ⟨g, 0, none⟩ = some a ∧ w.cell? ⟨g, 1, none⟩ = some b ∧ w.cell? ⟨g, 2, none⟩ = some c ∧ w.cell? ⟨g, 3, none⟩ = some d ∧ w.cell? ⟨g, 4, none⟩ = some e ∧ w.cell? ⟨g, 5, none⟩ = some f ∧ w.cell? ⟨g, 6, none⟩ = some i ∧ ∀ i, w.frozen? ⟨g, i, none⟩ = false :=
  ⟨h.cell 0 rfl, h.cell 1 rfl, h.cell 2 rfl, h.cell 3 rfl, h.cell 4 rfl, h.cell 5 rfl, h.cell 6 rfl, h.free⟩

def greatA1 (x : AcM) : Bool := greatW [x.a.w] || decide (200 < x.a.keep.length)
def greatA (l : List AcM) : Bool := decide (100 < l.length) || l.any greatA1
theorem greatA_parts {l : List AcM} (h : greatA l = false) : l.length ≤ 100 ∧ ∀ x ∈ l, x.a.w.b.size ≤ 4096 ∧ x.a.w.file.size ≤ 100 ∧ x.a.keep.length ≤ 200 := by
  unfold greatA at h
  rw [Bool.or_eq_false_iff] at h
  have h1 := of_decide_eq_false h.1
  refine ⟨by omega, fun x hx => ?_⟩
  have h2 := List.any_eq_false.1 h.2 x hx
  unfold greatA1 at h2
  simp only [Bool.or_eq_true, not_or, decide_eq_true_eq] at h2
  have h3 := (greatW_parts (by simpa using h2.1 : greatW [x.a.w] = false)).2 _ (List.mem_singleton.2 rfl)
  exact ⟨h3.1, h3.2, by omega⟩

set_option maxRecDepth 100000 in
set_option maxHeartbeats 4000000 in
theorem greatA_any (A : Option Addr) (n c B : Nat) (l : List AcM) (b : Bool) (w : World) (hn : l.length = n) (hb : greatA l = b) (hs : Script w B A l) (hB : B ≤ w.heap.size) (hmax : n ≤ 9223372036854775807) (hsz : ∀ x ∈ l, AcFits x) :
    Calls Tryd.prog 30 #[.slice A n c] w fun e w' => e = .returned (.bool b) ∧ Below w.heap.size w w' := by
  have HN := Lib.hid hn
  have HB : Hid ((decide (100 < n) || l.any greatA1) = b) := by show _ = _; rw [← hb, ← hn]; rfl
  have HSZ := Lib.hid hsz
  clear hn hb hsz
  by_cases h100 : 100 < n
  · obtain rfl : true = b := by rw [← HB.out, decide_eq_true h100, Bool.true_or]
    go_enter Tryd.func30, Tryd.ntmps30
    go_wp2
    go_ret
    exact ⟨rfl, Below.refl _ _⟩
  · have h100' : n ≤ 100 := by omega
    have HA : Hid (l.any greatA1 = b) := by show _ = _; rw [← HB.out, decide_eq_false h100, Bool.false_or]
    have HS := Lib.hid hs
    clear HB h100 hs
    go_enter Tryd.func30, Tryd.ntmps30
    go_wp2
    go_loopw [10] (fun i wr => ∃ k : Nat, k ≤ n ∧ i = .int .i64 k ∧ (l.take k).any greatA1 = false ∧ Below w.heap.size w wr) (fun i _ => n - (intOf i).toNat)
    case atStart => exact ⟨0, by omega, rfl, by simp, Below.refl _ _⟩
    case round =>
      obtain ⟨k, hk, rfl, hall, hbw⟩ := hrel
      have HL := Lib.hid hall
      clear hall
      have hbz := hbw.size
      by_cases hlt : k < n
      · obtain ⟨x, hx⟩ := act_here HN.out hlt
        have hsw := HS.out.below (hbw.mono hB)
        obtain ⟨bb, off, rfl, hbb, q0, q1, q2, q3, q4, q5, q6⟩ := act_at hsw hx
        have hbr : bb < wr.heap.size := by omega
        have HST := Lib.hid (any_step l k x hx greatA1)
        have HBAD : Hid (greatA1 x = true → true = b) := fun h => by rw [← HA.out]; symm; rw [List.any_eq_true]; exact ⟨x, List.mem_of_getElem? hx, h⟩
        obtain ⟨⟨hz1, hz2⟩, hz3, _, _⟩ := HSZ.out x (List.mem_of_getElem? hx)
        clear hx hsw
        obtain ⟨⟨act, ⟨op, file, bs, wn⟩, keep, num⟩, K, kc⟩ := x
        simp only at q0 q1 q2 q3 q4 q5 q6 hz1 hz2 hz3
        obtain ⟨b1, hb1⟩ : ∃ b1, greatW [⟨op, file, bs, wn⟩] = b1 := ⟨_, rfl⟩
        have HG1 := Lib.hid hb1
        have HGA : Hid (greatA1 ⟨⟨act, ⟨op, file, bs, wn⟩, keep, num⟩, K, kc⟩ = (b1 || decide (200 < keep.length))) := by show _ = _; unfold greatA1; simp only [hb1]
        clear hb1
        go_wp2_with fail
        refine (greatW_any (some ⟨wr.heap.size + 1, 0, none⟩) 1 1 (wr.heap.size + 1 + 1) [⟨op, file, bs, wn⟩] b1 _ rfl HG1.out ?h1 (by simp) (by omega) ?h2).mono ?_
        case h1 =>
          have h := one_cells op file bs wn (wr.alloc (.cells #[.int .i64 act, .int .i8 op, .string file, .string bs, .int .i64 wn, .slice K keep.length kc, .int .i64 num] 51)) 27
          simpa only [World.size_alloc] using h
        case h2 =>
          intro x hx
          obtain rfl := List.mem_singleton.1 hx
          exact ⟨hz1, hz2⟩
        rintro e W3 ⟨rfl, hx3⟩
        have hb2 := bel2 wr #[.int .i64 act, .int .i8 op, .string file, .string bs, .int .i64 wn, .slice K keep.length kc, .int .i64 num] #[.int .i8 op, .string file, .string bs, .int .i64 wn] 51 27
        have v1 := Var.below (new2 wr #[.int .i64 act, .int .i8 op, .string file, .string bs, .int .i64 wn, .slice K keep.length kc, .int .i64 num] #[.int .i8 op, .string file, .string bs, .int .i64 wn] 51 27).1 hx3 (by simp; omega)
        have hb3 : Below w.heap.size w W3 := (hbw.trans (hb2.mono hbz)).trans (hx3.mono (by simp; omega))
        obtain ⟨d0, d1, d2, d3, d4, d5, d6, f1⟩ := v1.cells7
        have l1 := v1.lt
        clear hx3 hb2 v1 q0 q1 q2 q3 q4 q5 q6
        cases b1
        · by_cases hkl : 200 < keep.length
          · obtain rfl := HBAD.out (by rw [HGA.out, decide_eq_true hkl]; rfl)
            have t2 : decide ((200 : Int) < (keep.length : Int)) = true := decide_eq_true (by omega)
            clear HBAD HST HGA
            go_wp2
            go_ret
            exact ⟨rfl, hb3⟩
          · have HM : Hid ((l.take (k + 1)).any greatA1 = false) := by
              show _ = _
              rw [HST.out, HL.out, HGA.out, decide_eq_false hkl]; rfl
            have t2 : decide ((200 : Int) < (keep.length : Int)) = false := bool_dec _ (by omega)
            clear HBAD HST HGA
            go_wp2
            go_round
            case rel => exact ⟨k + 1, by omega, by go_num, HM.out, hb3⟩
            case measure => simp [intOf]; omega
        · obtain rfl := HBAD.out (by rw [HGA.out]; rfl)
          clear HBAD HST HGA
          go_wp2
          go_ret
          exact ⟨rfl, hb3⟩
      · obtain rfl : false = b := by rw [← HA.out, ← HL.out, List.take_of_length_le (by have := HN.out; omega)]
        clear HL
        go_wp2
        go_ret
        exact ⟨rfl, hbw⟩
end Go.Proofs.YtbglpmjfajmkdaaDoor
