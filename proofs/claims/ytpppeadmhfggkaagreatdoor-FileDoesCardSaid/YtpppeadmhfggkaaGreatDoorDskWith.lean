/-
  Contracts of with: what it returns and what it does to memory. Conditions: those that each theorem names.
-/
import Derived.Test.YtpppeadmhfggkaaGreatDoorDskOps
namespace Go.Proofs.YtpppeadmhfggkaaGreatDoor
open Go.RowKit DP

def FilesPost (fs : List Fl) (w : World) (e : Ending) (w' : World) : Prop :=
  ∃ A' m c', e = .returned (.slice A' m c') ∧ fs.length = m ∧ Seen w' w'.heap.size A' (fcells fs) ∧ m ≤ c' ∧ Below w.heap.size w w'

theorem seen_nil {w : World} {B : Nat} {fs : List Fl} (h : Seen w B none (fcells fs)) : fs = [] := by
  cases fs with
  | nil => rfl
  | cons x r =>
    obtain ⟨b, off, he, _⟩ := h (by simp [fcells])
    cases he

set_option maxRecDepth 100000 in
set_option maxHeartbeats 1000000 in
theorem with_full (A : Option Addr) (n c B : Nat) (fs : List Fl) (fn fb : ByteArray) (s : Int) (w : World) (hn : fs.length = n) (hs : Seen w B A (fcells fs)) (hB : B ≤ w.heap.size) (h100 : n ≤ 100) (hc : n ≤ c) (hpw : fs.Pairwise (fun a b => ltS a.n b.n = true)) (hb : 0 < fb.size) :
    Calls Tryz.prog 58 #[.slice A n c, .agg #[.string fn, .string fb, .int .i64 s]] w (FilesPost (put fs ⟨fn, fb, s⟩) w) := by
  obtain ⟨a, ha⟩ : ∃ a, place (fun x => !ltS x.n fn) fs = a := ⟨_, rfl⟩
  obtain ⟨d, hd⟩ : ∃ d, place (fun x => ltS fn x.n) fs = d := ⟨_, rfl⟩
  have hal : a ≤ n := by rw [← ha, ← hn]; exact place_le _ _
  have hdl : d ≤ n := by rw [← hd, ← hn]; exact place_le _ _
  have hput : put fs ⟨fn, fb, s⟩ = fs.take a ++ ([⟨fn, fb, s⟩] ++ fs.drop d) := by
    rw [← put_place hpw]
    simp only [ha, hd, opt]
    rw [if_neg (by omega)]
  have HP := Lib.hid hput
  have HA := Lib.hid ha
  have HD := Lib.hid hd
  have HN := Lib.hid hn
  have hnil : A = none → n = 0 := fun h => by subst h; rw [← hn, seen_nil hs]; rfl
  have HNIL := Lib.hid hnil
  have hmf : ∀ (fn : Fn) (first cap : Array Value) (w : World), (Instr.makeFunc fn first cap).run Tryz.prog w = .ok (.func fn first cap) w := fun _ _ _ _ => rfl
  have hcf := fun W => cut_front (A := A) W c a n (by omega)
  have hcb := fun W => cut_back (A := A) W c d n hdl
  obtain ⟨D, hD⟩ : ∃ D, D = (if c = d then A else A.map (·.add (d * 3))) := ⟨_, rfl⟩
  simp only [← hD] at hcb
  obtain ⟨k, hk⟩ : ∃ k, k = n - d := ⟨_, rfl⟩
  obtain ⟨c2, hc2⟩ : ∃ c2, c2 = c - d := ⟨_, rfl⟩
  simp only [← hk, ← hc2] at hcb
  have hback : ∀ wx, Seen wx B A (fcells fs) → Seen wx B D (fcells (fs.drop d)) := fun wx h => by rw [hD]; exact h.back (by omega)
  have HB := Lib.hid hback
  have hkl : (fcells (fs.drop d)).length = k * 3 := by rw [fcells_length, List.length_drop, hn, hk]
  have hfl : (fcells (fs.take a)).length = a * 3 := by rw [fcells_length, List.length_take, hn]; congr 1; omega
  have HK := Lib.hid hkl
  have HF := Lib.hid hfl
  have hone := fcells_one (fs.drop d)
  have hk100 : k ≤ 100 := by omega
  obtain ⟨z1, z2⟩ := full_ways hb
  clear hD hk hc2 hback hkl hfl ha hd hput hn hnil hpw
  go_enter Tryz.func58, Tryz.ntmps58
  go_wp2_with fail
  have hv0 := new1 w #[.string fn, .string fb, .int .i64 s] 48
  have hb0 := bel1 w #[.string fn, .string fb, .int .i64 s] 48
  refine (place_any 73 w.heap.size 48 _ (fun x => !ltS x.n fn) A n c B a fs _ HA.out HN.out (hs.below (hb0.mono hB)) (by simp; omega) h100 hv0 enter_with1 (fun f b wx hv hb => with1_any _ ⟨fn, fb, s⟩ f b wx hv hb)).mono ?_
  rintro e w1 ⟨rfl, hb1⟩
  have hv1 := Var.below hv0 hb1 (by simp)
  have hb1' : Below w.heap.size w w1 := hb0.trans (hb1.mono (by simp))
  have hz1 : w.heap.size + 1 ≤ w1.heap.size := by have := hb1.size; simpa using this
  clear hb0 hv0 hb1
  go_wp2_with fail
  refine (place_any 74 w.heap.size 48 _ (fun x => ltS fn x.n) A n c B d fs _ HD.out HN.out (hs.below (hb1'.mono hB)) (by omega) h100 hv1 enter_with2 (fun f b wx hv hb => with2_any _ ⟨fn, fb, s⟩ f b wx hv hb)).mono ?_
  rintro e w2 ⟨rfl, hb2⟩
  have hv2 := Var.below hv1 hb2 (by omega)
  have hb2' : Below w.heap.size w w2 := hb1'.trans (hb2.mono (by omega))
  have hz2 := hb2.size
  clear hb2 hv1 hb1'
  obtain ⟨d0, d1, d2, f1⟩ := hv2.cells3
  have hs2 := hs.below (hb2'.mono hB)
  go_wp2_with (at_builtin; refine wpList_append_full rfl (.tmp 21) (.tmp 23) rfl (B := B) (B2 := w2.heap.size + 1) (A := A) (A2 := some ⟨w2.heap.size, 0, none⟩) (n := a) (m := 1) (c := 1) (xs := fcells (fs.take a)) (news := fcells [⟨fn, fb, s⟩]) rfl rfl HF.out rfl ?d1 ?d2 ?d3 ?d4 ?d5 ?_)
  case d1 => exact (hs2.front a).below ((Below.refl _ _).alloc (by omega) _)
  case d2 => simp; omega
  case d3 => exact Seen.one w2 ⟨fn, fb, s⟩ _
  case d4 => intro h; have := HNIL.out h; omega
  case d5 => omega
  intro A1 c1 w3 hseen1 hcc1 hb3 hown
  have hb3' : Below w.heap.size w w3 := (hb2'.alloc (by omega) _).trans (hb3.mono (by omega))
  have hz3 := hb3.size
  simp at hz3
  have hs3 := HB.out w3 (hs.below (hb3'.mono hB))
  clear hseen1 hb3 hcf
  go_wp2_with (at_builtin; refine wpList_append_own3 rfl (.tmp 25) (.tmp 28) rfl (base := w2.heap.size + 1) (B2 := B) (A2 := D) (n := a + 1) (m := k) (c := c2) (xs := fcells (fs.take a) ++ fcells [⟨fn, fb, s⟩]) (news := fcells (fs.drop d)) (v := .slice A1 (a + 1) c1) rfl rfl ?g1 HK.out hone hs3 ?g2 ?g3 ?_)
  case g1 => exact hown
  case g2 => omega
  case g3 => omega
  intro A2 c3 w4 hown4 hb4
  have hb4' : Below w.heap.size w w4 := hb3'.trans (hb4.mono (by omega))
  obtain ⟨hseen4, hcc4⟩ := Seen.of_own3 hown4
  have hlen : (put fs ⟨fn, fb, s⟩).length = a + 1 + k := by
    have h1 := HF.out
    have h2 := HK.out
    rw [fcells_length] at h1 h2
    rw [HP.out, List.length_append, List.length_append, List.length_singleton]
    omega
  have hcells : fcells (put fs ⟨fn, fb, s⟩) = fcells (fs.take a) ++ (fcells [⟨fn, fb, s⟩] ++ fcells (fs.drop d)) := by rw [HP.out, fcells_append, fcells_append]
  have HL := Lib.hid hlen
  have HC := Lib.hid hcells
  clear hlen hcells
  go_wp2
  go_ret
  exact ⟨A2, _, c3, rfl, HL.out, by rw [HC.out]; exact hseen4, hcc4, hb4'⟩

set_option maxRecDepth 100000 in
set_option maxHeartbeats 1000000 in
theorem with_none (A : Option Addr) (n c B : Nat) (fs : List Fl) (fn : ByteArray) (s : Int) (w : World) (hn : fs.length = n) (hs : Seen w B A (fcells fs)) (hB : B ≤ w.heap.size) (h100 : n ≤ 100) (hc : n ≤ c) (hpw : fs.Pairwise (fun a b => ltS a.n b.n = true)) :
    Calls Tryz.prog 58 #[.slice A n c, .agg #[.string fn, .string { data := #[] }, .int .i64 s]] w (FilesPost (put fs ⟨fn, { data := #[] }, s⟩) w) := by
  obtain ⟨a, ha⟩ : ∃ a, place (fun x => !ltS x.n fn) fs = a := ⟨_, rfl⟩
  obtain ⟨d, hd⟩ : ∃ d, place (fun x => ltS fn x.n) fs = d := ⟨_, rfl⟩
  have hal : a ≤ n := by rw [← ha, ← hn]; exact place_le _ _
  have hdl : d ≤ n := by rw [← hd, ← hn]; exact place_le _ _
  have hput : put fs ⟨fn, { data := #[] }, s⟩ = fs.take a ++ fs.drop d := by
    rw [← put_place hpw]
    simp only [ha, hd, opt]
    rw [if_pos (by rfl), List.nil_append]
  have HP := Lib.hid hput
  have HA := Lib.hid ha
  have HD := Lib.hid hd
  have HN := Lib.hid hn
  have hnil : A = none → n = 0 := fun h => by subst h; rw [← hn, seen_nil hs]; rfl
  have HNIL := Lib.hid hnil
  have hmf : ∀ (fn : Fn) (first cap : Array Value) (w : World), (Instr.makeFunc fn first cap).run Tryz.prog w = .ok (.func fn first cap) w := fun _ _ _ _ => rfl
  have hcf := fun W => cut_front (A := A) W c a n (by omega)
  have hcb := fun W => cut_back (A := A) W c d n hdl
  obtain ⟨D, hD⟩ : ∃ D, D = (if c = d then A else A.map (·.add (d * 3))) := ⟨_, rfl⟩
  simp only [← hD] at hcb
  obtain ⟨k, hk⟩ : ∃ k, k = n - d := ⟨_, rfl⟩
  obtain ⟨c2, hc2⟩ : ∃ c2, c2 = c - d := ⟨_, rfl⟩
  simp only [← hk, ← hc2] at hcb
  have hback : ∀ wx, Seen wx B A (fcells fs) → Seen wx B D (fcells (fs.drop d)) := fun wx h => by rw [hD]; exact h.back (by omega)
  have HB := Lib.hid hback
  have hkl : (fcells (fs.drop d)).length = k * 3 := by rw [fcells_length, List.length_drop, hn, hk]
  have hfl : (fcells (fs.take a)).length = a * 3 := by rw [fcells_length, List.length_take, hn]; congr 1; omega
  have HK := Lib.hid hkl
  have HF := Lib.hid hfl
  have hk100 : k ≤ 100 := by omega
  have z1 := bare_toList
  unfold none_ at z1
  clear hD hk hc2 hback hkl hfl ha hd hput hn hnil hpw
  go_enter Tryz.func58, Tryz.ntmps58
  go_wp2_with fail
  have hv0 := new1 w #[.string fn, .string { data := #[] }, .int .i64 s] 48
  have hb0 := bel1 w #[.string fn, .string { data := #[] }, .int .i64 s] 48
  refine (place_any 73 w.heap.size 48 _ (fun x => !ltS x.n fn) A n c B a fs _ HA.out HN.out (hs.below (hb0.mono hB)) (by simp; omega) h100 hv0 enter_with1 (fun f b wx hv hb => with1_any _ ⟨fn, { data := #[] }, s⟩ f b wx hv hb)).mono ?_
  rintro e w1 ⟨rfl, hb1⟩
  have hv1 := Var.below hv0 hb1 (by simp)
  have hb1' : Below w.heap.size w w1 := hb0.trans (hb1.mono (by simp))
  have hz1 : w.heap.size + 1 ≤ w1.heap.size := by have := hb1.size; simpa using this
  clear hb0 hv0 hb1
  go_wp2_with fail
  refine (place_any 74 w.heap.size 48 _ (fun x => ltS fn x.n) A n c B d fs _ HD.out HN.out (hs.below (hb1'.mono hB)) (by omega) h100 hv1 enter_with2 (fun f b wx hv hb => with2_any _ ⟨fn, { data := #[] }, s⟩ f b wx hv hb)).mono ?_
  rintro e w2 ⟨rfl, hb2⟩
  have hv2 := Var.below hv1 hb2 (by omega)
  have hb2' : Below w.heap.size w w2 := hb1'.trans (hb2.mono (by omega))
  have hz2 := hb2.size
  clear hb2 hv1 hb1'
  obtain ⟨d0, d1, d2, f1⟩ := hv2.cells3
  have hs2 := hs.below (hb2'.mono hB)
  have hs3 := HB.out w2 hs2
  go_wp2_with (at_builtin; refine wpList_append_full rfl (.tmp 25) (.tmp 28) rfl (B := B) (B2 := B) (A := A) (A2 := D) (n := a) (m := k) (c := c2) (xs := fcells (fs.take a)) (news := fcells (fs.drop d)) rfl rfl HF.out HK.out ?d1 ?d2 ?d3 ?d4 ?d5 ?_)
  case d1 => exact hs2.front a
  case d2 => omega
  case d3 => exact hs3
  case d4 => intro h; have := HNIL.out h; omega
  case d5 => omega
  intro A2 c3 w4 hseen4 hcc4 hb4 _
  have hb4' : Below w.heap.size w w4 := hb2'.trans (hb4.mono (by omega))
  have hlen : (put fs ⟨fn, { data := #[] }, s⟩).length = a + k := by
    have h1 := HF.out
    have h2 := HK.out
    rw [fcells_length] at h1 h2
    rw [HP.out, List.length_append]
    omega
  have hcells : fcells (put fs ⟨fn, { data := #[] }, s⟩) = fcells (fs.take a) ++ fcells (fs.drop d) := by rw [HP.out, fcells_append]
  have HL := Lib.hid hlen
  have HC := Lib.hid hcells
  clear hlen hcells
  go_wp2
  go_ret
  exact ⟨A2, _, c3, rfl, HL.out, by rw [HC.out]; exact hseen4, hcc4, hb4'⟩

theorem with_any (A : Option Addr) (n c B : Nat) (fs : List Fl) (fn fb : ByteArray) (s : Int) (w : World) (hn : fs.length = n) (hs : Seen w B A (fcells fs)) (hB : B ≤ w.heap.size) (h100 : n ≤ 100) (hc : n ≤ c) (hpw : fs.Pairwise (fun a b => ltS a.n b.n = true)) :
    Calls Tryz.prog 58 #[.slice A n c, .agg #[.string fn, .string fb, .int .i64 s]] w (FilesPost (put fs ⟨fn, fb, s⟩) w) := by
  by_cases hb : fb.size = 0
  · rw [none_of hb]
    exact with_none A n c B fs fn s w hn hs hB h100 hc hpw
  · exact with_full A n c B fs fn fb s w hn hs hB h100 hc hpw (by omega)

end Go.Proofs.YtpppeadmhfggkaaGreatDoor
