/-
  Contracts of attempt, behind its first checks: what it returns and what it does to memory. Conditions: those that each theorem names.
-/
import Derived.Test.YtpppeadmhfggkaaGreatDoorDskAtt
import Derived.Test.YtpppeadmhfggkaaGreatDoorFilG1
namespace Go.Proofs.YtpppeadmhfggkaaGreatDoor
open Go.RowKit DP

/-- What Get finds, in fields. -/
def GetRes (fs : List Fl) (name : ByteArray) (fn fb : ByteArray) (s : Int) (th : Bool) : Prop :=
  (th = true ∧ get fs name = some ⟨fn, fb, s⟩) ∨ (th = false ∧ get fs name = none ∧ fn = { data := #[] } ∧ fb = { data := #[] } ∧ s = 0)
theorem getRes_of (fs : List Fl) (name : ByteArray) : ∃ fn fb s th, GetRes fs name fn fb s th := by
  cases h : get fs name with
  | none => exact ⟨_, _, _, false, .inr ⟨rfl, h, rfl, rfl, rfl⟩⟩
  | some f => exact ⟨f.n, f.b, f.s, true, .inl ⟨rfl, h⟩⟩
theorem GetRes.getD {fs : List Fl} {name fn fb : ByteArray} {s : Int} {th : Bool} (h : GetRes fs name fn fb s th) : (get fs name).getD noFile = ⟨fn, fb, s⟩ := by
  rcases h with ⟨_, h⟩ | ⟨_, h, rfl, rfl, rfl⟩
  · rw [h]; rfl
  · rw [h]; rfl
theorem get_any (A : Option Addr) (n c B : Nat) (fs : List Fl) (cap left : Int) (down : Bool) (name fn fb : ByteArray) (s : Int) (th : Bool) (w : World) (hg : GetRes fs name fn fb s th) (hn : fs.length = n) (hs : Seen w B A (fcells fs)) (hB : B ≤ w.heap.size) (h100 : n ≤ 100) :
    Calls Tryz.prog 31 #[.agg #[.slice A n c, .int .i64 cap, .int .i64 left, .bool down], .string name] w fun e w' => e = .returned (.tuple #[.agg #[.string fn, .string fb, .int .i64 s], .bool th]) ∧ Below w.heap.size w w' := by
  rcases hg with ⟨rfl, h⟩ | ⟨rfl, h, rfl, rfl, rfl⟩
  · exact get_some A n c B fs cap left down name w ⟨fn, fb, s⟩ h hn hs hB h100
  · exact get_none A n c B fs cap left down name w h hn hs hB h100

theorem isOp_ways {op : Int} {file b : ByteArray} {k : Int} (h : isOp ⟨op, file, b, k⟩ = true) :
    okName file = true ∧ 0 ≤ k ∧ ((op = 0 ∧ 0 < b.size ∧ k = 0) ∨ (op = 1 ∧ b.size = 0 ∧ k = 0) ∨ (op = 2 ∧ 0 < b.size ∧ k = 0) ∨ (op = 3 ∧ b.size = 0) ∨ (op = 4 ∧ b.size = 0 ∧ k = 0)) := by
  unfold isOp at h
  simp only [Bool.and_eq_true, decide_eq_true_eq] at h
  obtain ⟨⟨h1, h2⟩, h3⟩ := h
  refine ⟨h1, h2, ?_⟩
  split at h3
  · rename_i ho
    have := of_decide_eq_true h3
    rcases ho with ho | ho
    · exact .inl ⟨ho, this⟩
    · exact .inr (.inr (.inl ⟨ho, this⟩))
  · split at h3
    · rename_i _ ho
      have := of_decide_eq_true h3
      rcases ho with ho | ho
      · exact .inr (.inl ⟨ho, this⟩)
      · exact .inr (.inr (.inr (.inr ⟨ho, this⟩)))
    · split at h3
      · rename_i _ _ ho
        exact .inr (.inr (.inr (.inl ⟨ho, of_decide_eq_true h3⟩)))
      · cases h3

/-- What attempt has behind its work on the files. -/
def PutRel (fs : List Fl) (cap left : Int) (w wx : World) : Prop :=
  ∃ A6 m6 c6, fs.length = m6 ∧ Seen wx wx.heap.size A6 (fcells fs) ∧ m6 ≤ c6 ∧ Var wx w.heap.size 24 #[.slice A6 m6 c6, .int .i64 cap, .int .i64 left, .bool false] ∧
    Var wx (w.heap.size + 1 + 1) 24 #[.slice none 0 0, .int .i64 0, .int .i64 0, .bool false] ∧ Below w.heap.size w wx

def AttOk (fs : List Fl) (cap left : Int) (w : World) (e : Ending) (w' : World) : Prop :=
  ∃ A' m c', e = .returned (.tuple #[.agg #[.slice A' m c', .int .i64 cap, .int .i64 left, .bool false], .nilIface]) ∧ fs.length = m ∧ Seen w' w'.heap.size A' (fcells fs) ∧ m ≤ c' ∧ Below w.heap.size w w'
def AttPut (fs : List Fl) (cap left : Int) (w : World) (e : Ending) (w' : World) : Prop :=
  (64 < fs.length ∧ AttErr 3 w e w') ∨ (fs.length ≤ 64 ∧ cap < (used fs : Int) ∧ AttErr 31 w e w') ∨ (fs.length ≤ 64 ∧ (used fs : Int) ≤ cap ∧ ∃ l : Int, l = (if 0 < left then left - 1 else left) ∧ AttOk fs cap l w e w')

theorem Seen.off {w : World} {B g i : Nat} {A : Option Addr} {xs : List Value} {u : Value} (h : Seen w B A xs) (hne : xs ≠ [] → ∀ b off, A = some ⟨b, off, none⟩ → b ≠ g) : Seen (w.setCell ⟨g, i, none⟩ u) B A xs := fun hx => by
  obtain ⟨b, off, hA, hb, hc⟩ := h hx
  refine ⟨b, off, hA, hb, fun j v hv => ?_⟩
  rw [World.cell?_setCell_other w _ _ _ (fun e => by injection e with e1 _ _; exact hne hx b off hA e1.symm)]
  exact hc j v hv
/-- Files do not lie in a variable that holds no text. -/
theorem seen_apart {w : World} {B g T : Nat} {A : Option Addr} {fs : List Fl} {cs : Array Value} (h : Seen w B A (fcells fs)) (v : Var w g T cs) (hcs : ∀ (i : Nat) (s : ByteArray), cs[i]? ≠ some (Value.string s)) : fcells fs ≠ [] → ∀ b off, A = some ⟨b, off, none⟩ → b ≠ g := by
  intro hx b off hA hbg
  subst hbg
  cases fs with
  | nil => exact hx rfl
  | cons f r =>
    obtain ⟨b', off', hA', _, hc⟩ := h hx
    rw [hA] at hA'
    injection hA' with hA'
    injection hA' with e1 e2 _
    subst e1 e2
    have h0 := hc 0 (.string f.n) (by simp [fcells])
    rw [cell_of_row w b _ cs T (0, 0) v] at h0
    exact hcs _ _ h0
theorem disk_noText {a b : Nat} {A : Option Addr} {x y : Int} {z : Bool} : ∀ (i : Nat) (s : ByteArray), (#[Value.slice A a b, .int .i64 x, .int .i64 y, .bool z] : Array Value)[i]? ≠ some (.string s) := by
  intro i s h
  rcases i with _ | _ | _ | _ | i <;> simp at h

/-- What is seen stays seen, whatever the call's own blocks. -/
theorem After.seen {w : World} (x : After w) {B : Nat} {A : Option Addr} {xs : List Value} (h : Seen w B A xs) (hB : B ≤ w.heap.size) : Seen x.val B A xs := h.below (x.below.mono hB)

/-- changed, at an operation. -/
theorem changed_any (fn fb gn gb : ByteArray) (s gs : Int) (op : Int) (file b : ByteArray) (k : Int) (w : World) (hop : isOp ⟨op, file, b, k⟩ = true) (hk : k ≤ fb.size) (h1 : fb.size ≤ 1000000) (h2 : b.size ≤ 1000000) (hg : changed ⟨fn, fb, s⟩ ⟨op, file, b, k⟩ = ⟨gn, gb, gs⟩) :
    Calls Tryz.prog 59 #[.agg #[.string fn, .string fb, .int .i64 s], .agg #[.int .i8 op, .string file, .string b, .int .i64 k]] w fun e w' => e = .returned (.agg #[.string gn, .string gb, .int .i64 gs]) ∧ Below w.heap.size w w' := by
  obtain ⟨_, hk0, hw⟩ := isOp_ways hop
  unfold changed at hg
  simp only at hg
  rcases hw with ⟨rfl, _, rfl⟩ | ⟨rfl, hb, rfl⟩ | ⟨rfl, _, rfl⟩ | ⟨rfl, hb⟩ | ⟨rfl, hb, rfl⟩
  · rw [if_pos rfl] at hg
    injection hg with e1 e2 e3; subst e1 e2 e3
    exact changed0 fn fb file b s 0 w h1 h2
  · rw [if_neg (by decide), if_pos rfl] at hg
    injection hg with e1 e2 e3; subst e1 e2 e3
    rw [none_of hb]
    exact changed1 fn fb file s 0 w h1
  · rw [if_neg (by decide), if_neg (by decide), if_pos rfl] at hg
    injection hg with e1 e2 e3; subst e1 e2 e3
    exact changed2 fn fb file b s w h2
  · rw [if_neg (by decide), if_neg (by decide), if_neg (by decide), if_pos rfl] at hg
    injection hg with e1 e2 e3; subst e1 e2
    obtain ⟨m, rfl⟩ : ∃ m : Nat, k = m := ⟨k.toNat, by omega⟩
    subst e3
    rw [none_of hb, Int.toNat_natCast]
    exact changed3 fn fb file s m w h1 (by omega)
  · rw [if_neg (by decide), if_neg (by decide), if_neg (by decide), if_neg (by decide)] at hg
    injection hg with e1 e2 e3; subst e1 e2 e3
    rw [none_of hb]
    exact changed4 fn fb file s w

set_option maxRecDepth 100000 in
set_option maxHeartbeats 1000000 in
theorem att_nofile (A : Option Addr) (n c B : Nat) (fs : List Fl) (cap left : Int) (down : Bool) (op : Int) (file b : ByteArray) (k : Int) (w : World) (hn : fs.length = n) (hs : Seen w B A (fcells fs)) (hB : B ≤ w.heap.size) (hc : check ⟨fs, cap, left, down⟩ = true) (hf : file.size ≤ 9223372036854775807) (fn fb : ByteArray) (s : Int) (th : Bool) (hop : isOp ⟨op, file, b, k⟩ = true) (hd : down = false) (hl : left ≠ 0) (hg : GetRes fs file fn fb s th) (ht : th = false) (hb0 : b.size = 0) :
    Calls Tryz.prog 34 #[.agg #[.slice A n c, .int .i64 cap, .int .i64 left, .bool down], .agg #[.int .i8 op, .string file, .string b, .int .i64 k]] w (AttErr 32 w) := by
  subst ht
  obtain rfl := none_of hb0
  have z1 := bare_toList
  unfold none_ at z1
  subst hd
  have HG := Lib.hid hg
  have y0 : (left == 0) = false := by rw [beq_eq_false_iff_ne]; exact hl
  clear hg hl
  have HN := Lib.hid hn
  have HC := Lib.hid hc
  have HOP := Lib.hid hop
  have hn64 : n ≤ 64 := by rw [← hn]; exact (check_parts hc).1
  clear hn hc hop
  go_enter Tryz.func34, Tryz.ntmps34
  go_wp2_with fail
  have hvs := new3 w #[.slice A n c, .int .i64 cap, .int .i64 left, .bool false] #[.int .i8 op, .string file, .string { data := #[] }, .int .i64 k] #[.slice none 0 0, .int .i64 0, .int .i64 0, .bool false] 24 50 24
  have hbs := bel3 w #[.slice A n c, .int .i64 cap, .int .i64 left, .bool false] #[.int .i8 op, .string file, .string { data := #[] }, .int .i64 k] #[.slice none 0 0, .int .i64 0, .int .i64 0, .bool false] 24 50 24
  refine (own_yes A n c B fs cap left false _ HN.out HC.out (hs.below (hbs.mono hB)) (by simp; omega)).mono ?_
  rintro e w1 ⟨A1, c1, rfl, hown, hb1⟩
  have v1 := Var.below hvs.1 hb1 (by simp; omega)
  have v2 := Var.below hvs.2.1 hb1 (by simp)
  have v3 := Var.below hvs.2.2 hb1 (by simp)
  have hb1' : Below w.heap.size w w1 := hbs.trans (hb1.mono (by simp; omega))
  have hz1 : w.heap.size + 3 ≤ w1.heap.size := by have := hb1.size; simp at this; omega
  have hown1 := own_mono (base' := w.heap.size + 3) hown (by simp)
  clear hvs hbs hb1 hown
  obtain ⟨d0, d1, d2, d3, f1⟩ := v1.cells4
  obtain ⟨g0, g1, g2, g3, f2⟩ := v2.cells4
  obtain ⟨e0, e1, e2, e3, f3⟩ := v3.cells4
  go_wp2_with fail
  refine (isop_any op file { data := #[] } k true _ hf HOP.out).mono ?_
  rintro e w2 ⟨rfl, hb2⟩
  have hz2 : w1.heap.size ≤ w2.heap.size := by have := hb2.size; simpa using this
  have u1 := Var.below (set4_var v1) hb2 (by simp; omega)
  have u2 := Var.below (set4_other v2 (by omega)) hb2 (by simp; omega)
  have u3 := Var.below (set4_other v3 (by omega)) hb2 (by simp; omega)
  have hown2 := own_below (set4_own hown1 (by omega)) hb2
  have hb2' : Below w.heap.size w w2 := (hb1'.trans (set4_below (Nat.le_refl _))).trans (hb2.mono (by simp; omega))
  clear v1 v2 v3 d0 d1 d2 d3 g0 g1 g2 g3 e0 e1 e2 e3 f1 f2 f3 hown1 hb2 hb1'
  obtain ⟨hs2, hnc⟩ := Seen.of_own3 hown2
  obtain ⟨d0, d1, d2, d3, f1⟩ := u1.cells4
  obtain ⟨g0, g1, g2, g3, f2⟩ := u2.cells4
  obtain ⟨e0, e1, e2, e3, f3⟩ := u3.cells4
  go_wp2_with fail
  refine (get_any A1 n c1 w2.heap.size fs cap left false file fn fb s false _ HG.out HN.out hs2 (Nat.le_refl _) (by omega)).mono ?_
  rintro e w3 ⟨rfl, hb3⟩
  have hz3 := hb3.size
  have v1 := Var.below u1 hb3 u1.lt
  have v2 := Var.below u2 hb3 u2.lt
  have v3 := Var.below u3 hb3 u3.lt
  have hown3 := own_below hown2 hb3
  have hb3' : Below w.heap.size w w3 := hb2'.trans (hb3.mono (by omega))
  clear u1 u2 u3 d0 d1 d2 d3 g0 g1 g2 g3 e0 e1 e2 e3 f1 f2 f3 hown2 hb3 hb2' hs2
  obtain ⟨hs3, _⟩ := Seen.of_own3 hown3
  have l1 : w.heap.size < w3.heap.size := by omega
  have l2 : w.heap.size + 1 < w3.heap.size := by omega
  have l3 : w.heap.size + 1 + 1 < w3.heap.size := by omega
  obtain ⟨d0, d1, d2, d3, f1⟩ := v1.cells4
  obtain ⟨g0, g1, g2, g3, f2⟩ := v2.cells4
  obtain ⟨e0, e1, e2, e3, f3⟩ := v3.cells4
  go_wp2
  refine bodyPost_ret (v := .tuple #[.agg #[.slice none 0 0, .int .i64 0, .int .i64 0, .bool false], .iface 34 (.int .i64 32)]) (by simp [results, Tryz.results34, go_sem, l3, e0, e1, e2, e3]) rfl ⟨rfl, ?_⟩
  repeat (first | with_reducible exact hb3' | refine Below.alloc ?_ (by simp; omega) _ | refine Below.setCell ?_ (by simp; omega) _ | refine Below.setCell ?_ (by simp) _)

set_option maxRecDepth 100000 in
set_option maxHeartbeats 1000000 in
theorem att_cut (A : Option Addr) (n c B : Nat) (fs : List Fl) (cap left : Int) (down : Bool) (op : Int) (file b : ByteArray) (k : Int) (w : World) (hn : fs.length = n) (hs : Seen w B A (fcells fs)) (hB : B ≤ w.heap.size) (hc : check ⟨fs, cap, left, down⟩ = true) (hf : file.size ≤ 9223372036854775807) (fn fb : ByteArray) (s : Int) (th : Bool) (hop : isOp ⟨op, file, b, k⟩ = true) (hd : down = false) (hl : left ≠ 0) (hg : GetRes fs file fn fb s th) (ht : th = true) (hk : (fb.size : Int) < k) :
    Calls Tryz.prog 34 #[.agg #[.slice A n c, .int .i64 cap, .int .i64 left, .bool down], .agg #[.int .i8 op, .string file, .string b, .int .i64 k]] w (AttErr 2 w) := by
  subst ht
  subst hd
  have HG := Lib.hid hg
  have y0 : (left == 0) = false := by rw [beq_eq_false_iff_ne]; exact hl
  clear hg hl
  have HN := Lib.hid hn
  have HC := Lib.hid hc
  have HOP := Lib.hid hop
  have hn64 : n ≤ 64 := by rw [← hn]; exact (check_parts hc).1
  clear hn hc hop
  go_enter Tryz.func34, Tryz.ntmps34
  go_wp2_with fail
  have hvs := new3 w #[.slice A n c, .int .i64 cap, .int .i64 left, .bool false] #[.int .i8 op, .string file, .string b, .int .i64 k] #[.slice none 0 0, .int .i64 0, .int .i64 0, .bool false] 24 50 24
  have hbs := bel3 w #[.slice A n c, .int .i64 cap, .int .i64 left, .bool false] #[.int .i8 op, .string file, .string b, .int .i64 k] #[.slice none 0 0, .int .i64 0, .int .i64 0, .bool false] 24 50 24
  refine (own_yes A n c B fs cap left false _ HN.out HC.out (hs.below (hbs.mono hB)) (by simp; omega)).mono ?_
  rintro e w1 ⟨A1, c1, rfl, hown, hb1⟩
  have v1 := Var.below hvs.1 hb1 (by simp; omega)
  have v2 := Var.below hvs.2.1 hb1 (by simp)
  have v3 := Var.below hvs.2.2 hb1 (by simp)
  have hb1' : Below w.heap.size w w1 := hbs.trans (hb1.mono (by simp; omega))
  have hz1 : w.heap.size + 3 ≤ w1.heap.size := by have := hb1.size; simp at this; omega
  have hown1 := own_mono (base' := w.heap.size + 3) hown (by simp)
  clear hvs hbs hb1 hown
  obtain ⟨d0, d1, d2, d3, f1⟩ := v1.cells4
  obtain ⟨g0, g1, g2, g3, f2⟩ := v2.cells4
  obtain ⟨e0, e1, e2, e3, f3⟩ := v3.cells4
  go_wp2_with fail
  refine (isop_any op file b k true _ hf HOP.out).mono ?_
  rintro e w2 ⟨rfl, hb2⟩
  have hz2 : w1.heap.size ≤ w2.heap.size := by have := hb2.size; simpa using this
  have u1 := Var.below (set4_var v1) hb2 (by simp; omega)
  have u2 := Var.below (set4_other v2 (by omega)) hb2 (by simp; omega)
  have u3 := Var.below (set4_other v3 (by omega)) hb2 (by simp; omega)
  have hown2 := own_below (set4_own hown1 (by omega)) hb2
  have hb2' : Below w.heap.size w w2 := (hb1'.trans (set4_below (Nat.le_refl _))).trans (hb2.mono (by simp; omega))
  clear v1 v2 v3 d0 d1 d2 d3 g0 g1 g2 g3 e0 e1 e2 e3 f1 f2 f3 hown1 hb2 hb1'
  obtain ⟨hs2, hnc⟩ := Seen.of_own3 hown2
  obtain ⟨d0, d1, d2, d3, f1⟩ := u1.cells4
  obtain ⟨g0, g1, g2, g3, f2⟩ := u2.cells4
  obtain ⟨e0, e1, e2, e3, f3⟩ := u3.cells4
  go_wp2_with fail
  refine (get_any A1 n c1 w2.heap.size fs cap left false file fn fb s true _ HG.out HN.out hs2 (Nat.le_refl _) (by omega)).mono ?_
  rintro e w3 ⟨rfl, hb3⟩
  have hz3 := hb3.size
  have v1 := Var.below u1 hb3 u1.lt
  have v2 := Var.below u2 hb3 u2.lt
  have v3 := Var.below u3 hb3 u3.lt
  have hown3 := own_below hown2 hb3
  have hb3' : Below w.heap.size w w3 := hb2'.trans (hb3.mono (by omega))
  clear u1 u2 u3 d0 d1 d2 d3 g0 g1 g2 g3 e0 e1 e2 e3 f1 f2 f3 hown2 hb3 hb2' hs2
  obtain ⟨hs3, _⟩ := Seen.of_own3 hown3
  have l1 : w.heap.size < w3.heap.size := by omega
  have l2 : w.heap.size + 1 < w3.heap.size := by omega
  have l3 : w.heap.size + 1 + 1 < w3.heap.size := by omega
  obtain ⟨d0, d1, d2, d3, f1⟩ := v1.cells4
  obtain ⟨g0, g1, g2, g3, f2⟩ := v2.cells4
  obtain ⟨e0, e1, e2, e3, f3⟩ := v3.cells4
  go_wp2
  refine bodyPost_ret (v := .tuple #[.agg #[.slice none 0 0, .int .i64 0, .int .i64 0, .bool false], .iface 34 (.int .i64 2)]) (by simp [results, Tryz.results34, go_sem, l3, e0, e1, e2, e3]) rfl ⟨rfl, ?_⟩
  repeat (first | with_reducible exact hb3' | refine Below.alloc ?_ (by simp; omega) _ | refine Below.setCell ?_ (by simp; omega) _ | refine Below.setCell ?_ (by simp) _)

set_option maxRecDepth 100000 in
set_option maxHeartbeats 1000000 in
theorem att_put (A : Option Addr) (n c B : Nat) (fs : List Fl) (cap left : Int) (down : Bool) (op : Int) (file b : ByteArray) (k : Int) (w : World) (hn : fs.length = n) (hs : Seen w B A (fcells fs)) (hB : B ≤ w.heap.size) (hc : check ⟨fs, cap, left, down⟩ = true) (hf : file.size ≤ 9223372036854775807) (fn fb : ByteArray) (s : Int) (th : Bool) (hop : isOp ⟨op, file, b, k⟩ = true) (hd : down = false) (hl : left ≠ 0) (hg : GetRes fs file fn fb s th) (ht : th = true) (gn gb : ByteArray) (gs : Int) (hk : k ≤ fb.size) (hfb : fb.size ≤ 1000000) (hbb : b.size ≤ 1000000) (hgb : gb.size ≤ 400000) (hgn : gn.size ≤ 100) (hlb : left ≤ 9223372036854775807) (hlb' : -9223372036854775808 ≤ left) (hch : changed ⟨file, fb, s⟩ ⟨op, file, b, k⟩ = ⟨gn, gb, gs⟩) :
    Calls Tryz.prog 34 #[.agg #[.slice A n c, .int .i64 cap, .int .i64 left, .bool down], .agg #[.int .i8 op, .string file, .string b, .int .i64 k]] w (AttPut (put fs ⟨gn, gb, gs⟩) cap left w) := by
  subst ht
  subst hd
  have HG := Lib.hid hg
  have y0 : (left == 0) = false := by rw [beq_eq_false_iff_ne]; exact hl
  have HCH := Lib.hid hch
  have HSM := Lib.hid (put_small (f := ⟨gn, gb, gs⟩) (check_small hc) (Nat.le_trans (check_parts hc).1 (by decide)) hgb hgn)
  have hpw := (check_sorted hc).1
  have HPW := Lib.hid hpw
  clear hg hl hch hpw
  have HN := Lib.hid hn
  have HC := Lib.hid hc
  have HOP := Lib.hid hop
  have hn64 : n ≤ 64 := by rw [← hn]; exact (check_parts hc).1
  clear hn hc hop
  go_enter Tryz.func34, Tryz.ntmps34
  go_wp2_with fail
  have hvs := new3 w #[.slice A n c, .int .i64 cap, .int .i64 left, .bool false] #[.int .i8 op, .string file, .string b, .int .i64 k] #[.slice none 0 0, .int .i64 0, .int .i64 0, .bool false] 24 50 24
  have hbs := bel3 w #[.slice A n c, .int .i64 cap, .int .i64 left, .bool false] #[.int .i8 op, .string file, .string b, .int .i64 k] #[.slice none 0 0, .int .i64 0, .int .i64 0, .bool false] 24 50 24
  refine (own_yes A n c B fs cap left false _ HN.out HC.out (hs.below (hbs.mono hB)) (by simp; omega)).mono ?_
  rintro e w1 ⟨A1, c1, rfl, hown, hb1⟩
  have v1 := Var.below hvs.1 hb1 (by simp; omega)
  have v2 := Var.below hvs.2.1 hb1 (by simp)
  have v3 := Var.below hvs.2.2 hb1 (by simp)
  have hb1' : Below w.heap.size w w1 := hbs.trans (hb1.mono (by simp; omega))
  have hz1 : w.heap.size + 3 ≤ w1.heap.size := by have := hb1.size; simp at this; omega
  have hown1 := own_mono (base' := w.heap.size + 3) hown (by simp)
  clear hvs hbs hb1 hown
  obtain ⟨d0, d1, d2, d3, f1⟩ := v1.cells4
  obtain ⟨g0, g1, g2, g3, f2⟩ := v2.cells4
  obtain ⟨e0, e1, e2, e3, f3⟩ := v3.cells4
  go_wp2_with fail
  refine (isop_any op file b k true _ hf HOP.out).mono ?_
  rintro e w2 ⟨rfl, hb2⟩
  have hz2 : w1.heap.size ≤ w2.heap.size := by have := hb2.size; simpa using this
  have u1 := Var.below (set4_var v1) hb2 (by simp; omega)
  have u2 := Var.below (set4_other v2 (by omega)) hb2 (by simp; omega)
  have u3 := Var.below (set4_other v3 (by omega)) hb2 (by simp; omega)
  have hown2 := own_below (set4_own hown1 (by omega)) hb2
  have hb2' : Below w.heap.size w w2 := (hb1'.trans (set4_below (Nat.le_refl _))).trans (hb2.mono (by simp; omega))
  clear v1 v2 v3 d0 d1 d2 d3 g0 g1 g2 g3 e0 e1 e2 e3 f1 f2 f3 hown1 hb2 hb1'
  obtain ⟨hs2, hnc⟩ := Seen.of_own3 hown2
  obtain ⟨d0, d1, d2, d3, f1⟩ := u1.cells4
  obtain ⟨g0, g1, g2, g3, f2⟩ := u2.cells4
  obtain ⟨e0, e1, e2, e3, f3⟩ := u3.cells4
  go_wp2_with fail
  refine (get_any A1 n c1 w2.heap.size fs cap left false file fn fb s true _ HG.out HN.out hs2 (Nat.le_refl _) (by omega)).mono ?_
  rintro e w3 ⟨rfl, hb3⟩
  have hz3 := hb3.size
  have v1 := Var.below u1 hb3 u1.lt
  have v2 := Var.below u2 hb3 u2.lt
  have v3 := Var.below u3 hb3 u3.lt
  have hown3 := own_below hown2 hb3
  have hb3' : Below w.heap.size w w3 := hb2'.trans (hb3.mono (by omega))
  clear u1 u2 u3 d0 d1 d2 d3 g0 g1 g2 g3 e0 e1 e2 e3 f1 f2 f3 hown2 hb3 hb2' hs2
  obtain ⟨hs3, _⟩ := Seen.of_own3 hown3
  have l1 : w.heap.size < w3.heap.size := by omega
  have l2 : w.heap.size + 1 < w3.heap.size := by omega
  have l3 : w.heap.size + 1 + 1 < w3.heap.size := by omega
  obtain ⟨d0, d1, d2, d3, f1⟩ := v1.cells4
  obtain ⟨g0, g1, g2, g3, f2⟩ := v2.cells4
  obtain ⟨e0, e1, e2, e3, f3⟩ := v3.cells4
  go_wp2_with fail
  obtain ⟨w4, hw4⟩ : ∃ w4, w4 = w3.alloc (.cells #[.string file, .string fb, .int .i64 s] 48) := ⟨_, rfl⟩
  have v4 : Var w4 w3.heap.size 48 #[.string file, .string fb, .int .i64 s] := by rw [hw4]; exact new1 w3 _ _
  have q1 : Var w4 w.heap.size 24 #[.slice A1 n c1, .int .i64 cap, .int .i64 left, .bool false] := by rw [hw4]; exact v1.alloc _
  have q2 : Var w4 (w.heap.size + 1) 50 #[.int .i8 op, .string file, .string b, .int .i64 k] := by rw [hw4]; exact v2.alloc _
  have q3 : Var w4 (w.heap.size + 1 + 1) 24 #[.slice none 0 0, .int .i64 0, .int .i64 0, .bool false] := by rw [hw4]; exact v3.alloc _
  have hb4 : Below w.heap.size w w4 := by rw [hw4]; exact hb3'.alloc (by omega) _
  have hs4 : Seen w4 w4.heap.size A1 (fcells fs) := by rw [hw4]; exact (hs3.below ((Below.refl _ _).alloc (Nat.le_refl _) _)).up (by simp)
  have hz4 : w3.heap.size + 1 = w4.heap.size := by rw [hw4]; simp
  rw [← hw4]
  clear hw4 v1 v2 v3 d0 d1 d2 d3 g0 g1 g2 g3 e0 e1 e2 e3 f1 f2 f3 hown3 hs3 hb3'
  obtain ⟨d0, d1, d2, d3, f1⟩ := q1.cells4
  obtain ⟨g0, g1, g2, g3, f2⟩ := q2.cells4
  obtain ⟨i0, i1, i2, f4⟩ := v4.cells3
  have hkk : ∀ w5, Below w4.drew.heap.size w4.drew w5 → Below w4.heap.size w4 w5 ∧ Seen w5 w4.heap.size A1 (fcells fs) ∧ w5.cell? ⟨w.heap.size, 0, none⟩ = some (.slice A1 n c1) ∧ w5.cell? ⟨w3.heap.size, 0, none⟩ = some (.string file) ∧ w5.cell? ⟨w3.heap.size, 1, none⟩ = some (.string fb) ∧ w5.cell? ⟨w3.heap.size, 2, none⟩ = some (.int .i64 s) ∧ w5.cell? ⟨w.heap.size + 1, 0, none⟩ = some (.int .i8 op) ∧ w5.cell? ⟨w.heap.size + 1, 1, none⟩ = some (.string file) ∧ w5.cell? ⟨w.heap.size + 1, 2, none⟩ = some (.string b) ∧ w5.cell? ⟨w.heap.size + 1, 3, none⟩ = some (.int .i64 k) := fun w5 hb =>
    have hb' : Below w4.heap.size w4 w5 := (Below.refl _ w4).drew.trans hb
    ⟨hb', hs4.below hb', (q1.below hb' q1.lt).cell 0 rfl, (v4.below hb' v4.lt).cell 0 rfl, (v4.below hb' v4.lt).cell 1 rfl, (v4.below hb' v4.lt).cell 2 rfl, (q2.below hb' q2.lt).cell 0 rfl, (q2.below hb' q2.lt).cell 1 rfl, (q2.below hb' q2.lt).cell 2 rfl, (q2.below hb' q2.lt).cell 3 rfl⟩
  have HKK := Lib.hid hkk
  clear hkk
  have hHZ := Lib.hid hz4
  clear hz4
  go_upto_region 15 with fail
  go_cut [] (fun wx => PutRel (put fs ⟨gn, gb, gs⟩) cap left w wx)
  case first =>
    go_region_with (first
      | (go_at_call 59; refine (changed_any file fb gn gb s gs op file b k _ HOP.out hk hfb hbb HCH.out).mono ?_; rintro e w5 ⟨rfl, hb5⟩; obtain ⟨hb5', hs5, j0, j1, j2, j3, j4, j5, j6, j7⟩ := HKK.out w5 hb5)
      | (go_at_call 58; refine (with_any A1 n c1 w4.heap.size fs gn gb gs _ HN.out hs5 hb5'.size (by omega) hnc HPW.out).mono ?_; rintro e w6 ⟨A6, m6, c6, rfl, hlen6, hs6, hmc6, hb6⟩; have HLEN6 := Lib.hid hlen6; clear hlen6; have q6 : Var w6 w.heap.size 24 #[.slice A1 n c1, .int .i64 cap, .int .i64 left, .bool false] := Var.below (Var.below q1 hb5' q1.lt) hb6 (Nat.lt_of_lt_of_le q1.lt hb5'.size); obtain ⟨p0, p1, p2, p3, pf⟩ := q6.cells4))
    all_goals
      go_wp2_with fail
      go_meet
      refine ⟨A6, m6, c6, HLEN6.out, ?_, hmc6, ?_, ?_, ?_⟩
      · exact (hs6.off (seen_apart hs6 q6 disk_noText)).up (by simp)
      · simpa using q6.set 0 (.slice A6 m6 c6)
      · exact (Var.below (Var.below q3 hb5' q3.lt) hb6 (Nat.lt_of_lt_of_le q3.lt hb5'.size)).other 0 _ (by omega)
      · exact ((hb4.trans (hb5'.mono hb4.size)).trans (hb6.mono (Nat.le_trans hb4.size hb5'.size))).setCell (Nat.le_refl _) _
  case rest =>
    obtain ⟨A6, m6, c6, hl6, hs6, hmc6, q6, q7, hb6⟩ := hcut
    have HL6 := Lib.hid hl6
    have hm65 : m6 ≤ 65 := by have := put_length fs ⟨gn, gb, gs⟩; have := HN.out; omega
    clear hl6 HKK hHZ i0 i1 i2 f4 d0 d1 d2 d3 f1 g0 g1 g2 g3 f2 hb4 hs4 q1 q2 q3 v4
    obtain ⟨d0, d1, d2, d3, f1⟩ := q6.cells4
    obtain ⟨e0, e1, e2, e3, f3⟩ := q7.cells4
    have hgl := q6.lt
    have hgl2 := q7.lt
    by_cases h64 : 64 < m6
    · have hlen : 64 < (put fs ⟨gn, gb, gs⟩).length := by rw [HL6.out]; exact h64
      have HLEN := Lib.hid hlen
      clear hlen
      go_wp2_with fail
      refine bodyPost_ret (v := .tuple #[.agg #[.slice none 0 0, .int .i64 0, .int .i64 0, .bool false], .iface 34 (.int .i64 3)]) (by simp [results, Tryz.results34, go_sem, e0, e1, e2, e3]) rfl (.inl ⟨HLEN.out, rfl, ?_⟩)
      repeat (first | with_reducible exact hb6 | refine Below.setCell ?_ (by simp; omega) _ | refine Below.setCell ?_ (by simp) _)
    · have hlen : (put fs ⟨gn, gb, gs⟩).length ≤ 64 := by rw [HL6.out]; omega
      have HLEN := Lib.hid hlen
      have t0 : decide ((64 : Int) < (m6 : Int)) = false := bool_dec _ (by omega)
      obtain ⟨u, hu⟩ : ∃ u, used (put fs ⟨gn, gb, gs⟩) = u := ⟨_, rfl⟩
      have HU := Lib.hid hu
      clear hlen hu
      go_wp2_with fail
      refine wp_region_after (by kernel_rfl) (by kernel_rfl) ?_
      have hx : ∀ x : After wc, x.val.cell? ⟨w.heap.size, 0, none⟩ = some (.slice A6 m6 c6) ∧ x.val.cell? ⟨w.heap.size, 1, none⟩ = some (.int .i64 cap) ∧ x.val.cell? ⟨w.heap.size, 2, none⟩ = some (.int .i64 left) ∧ x.val.cell? ⟨w.heap.size, 3, none⟩ = some (.bool false) := fun x => by
        obtain ⟨a0, a1, a2, a3, _⟩ := (q6.below x.below q6.lt).cells4
        exact ⟨a0, a1, a2, a3⟩
      have hx0 := fun x => (hx x).1
      have hx1 := fun x => (hx x).2.1
      have hx2 := fun x => (hx x).2.2.1
      have hx3 := fun x => (hx x).2.2.2
      clear hx
      repeat (go_big_quiet_step ((go_at_call 60; exact Calls.after (used_any A6 m6 c6 wc.heap.size (put fs ⟨gn, gb, gs⟩) cap left false u _ HL6.out HU.out (hs6.below (After.below _)) ((After.below _).size) HSM.out))))
      refine wpQuiet_nil ?_
      rintro _ ⟨x, rfl⟩
      obtain ⟨w7, hw7⟩ : ∃ w7, w7 = x.val := ⟨_, rfl⟩
      have hb7 : Below w.heap.size w w7 := by rw [hw7]; exact hb6.trans (x.below.mono hb6.size)
      have r6 : Var w7 w.heap.size 24 #[.slice A6 m6 c6, .int .i64 cap, .int .i64 left, .bool false] := by rw [hw7]; exact q6.below x.below q6.lt
      have r7 : Var w7 (w.heap.size + 1 + 1) 24 #[.slice none 0 0, .int .i64 0, .int .i64 0, .bool false] := by rw [hw7]; exact q7.below x.below q7.lt
      have hs7 : Seen w7 wc.heap.size A6 (fcells (put fs ⟨gn, gb, gs⟩)) := by rw [hw7]; exact hs6.below x.below
      have HZ7 : wc.heap.size ≤ w7.heap.size := by rw [hw7]; exact x.below.size
      rw [← hw7]
      clear hw7 hx0 hx1 hx2 hx3 d0 d1 d2 d3 f1 e0 e1 e2 e3 f3
      obtain ⟨d0, d1, d2, d3, f1⟩ := r6.cells4
      obtain ⟨e0, e1, e2, e3, f3⟩ := r7.cells4
      have hgl' := r6.lt
      have hgl2' := r7.lt
      have hz7 := hs7.up HZ7
      by_cases hful : cap < (u : Int)
      · go_wp2_with fail
        refine bodyPost_ret (v := .tuple #[.agg #[.slice none 0 0, .int .i64 0, .int .i64 0, .bool false], .iface 34 (.int .i64 31)]) (by simp [results, Tryz.results34, go_sem, e0, e1, e2, e3]) rfl (.inr (.inl ⟨HLEN.out, by rw [HU.out]; exact hful, rfl, ?_⟩))
        repeat (first | with_reducible exact hb7 | refine Below.setCell ?_ (by simp; omega) _ | refine Below.setCell ?_ (by simp) _)
      · have hcap : (u : Int) ≤ cap := by omega
        by_cases hpos : 0 < left
        · have y1 : left - 1 < 9223372036854775807 := by omega
          have ha2 := seen_apart hz7 r7 disk_noText
          have ha1 := seen_apart hz7 r6 disk_noText
          have HPOS := Lib.hid (if_pos (c := 0 < left) hpos : (if 0 < left then left - 1 else left) = left - 1)
          go_wp2_with fail
          refine bodyPost_ret (v := .tuple #[.agg #[.slice A6 m6 c6, .int .i64 cap, .int .i64 (left - 1), .bool false], .nilIface]) (by simp [results, Tryz.results34, go_sem, e0, e1, e2, e3]) rfl (.inr (.inr ⟨HLEN.out, by rw [HU.out]; exact hcap, _, HPOS.out.symm, A6, m6, c6, rfl, HL6.out, ?_, hmc6, ?_⟩))
          · exact (((((hz7.off ha1).off ha2).off ha2).off ha2).off ha2).up (by simp)
          · repeat (first | with_reducible exact hb7 | refine Below.setCell ?_ (by simp; omega) _ | refine Below.setCell ?_ (by simp) _)
        · have ha2 := seen_apart hz7 r7 disk_noText
          have HPOS := Lib.hid (if_neg (c := 0 < left) hpos : (if 0 < left then left - 1 else left) = left)
          go_wp2_with fail
          refine bodyPost_ret (v := .tuple #[.agg #[.slice A6 m6 c6, .int .i64 cap, .int .i64 left, .bool false], .nilIface]) (by simp [results, Tryz.results34, go_sem, e0, e1, e2, e3]) rfl (.inr (.inr ⟨HLEN.out, by rw [HU.out]; exact hcap, _, HPOS.out.symm, A6, m6, c6, rfl, HL6.out, ?_, hmc6, ?_⟩))
          · exact ((((hz7.off ha2).off ha2).off ha2).off ha2).up (by simp)
          · repeat (first | with_reducible exact hb7 | refine Below.setCell ?_ (by simp; omega) _ | refine Below.setCell ?_ (by simp) _)

end Go.Proofs.YtpppeadmhfggkaaGreatDoor
