/-
  The contract of the law's 'reads': it tells whether fields are just those of some bytes. Conditions: those that each theorem names.
-/
import Derived.Test.YtkeekecaojpkjaaFldBackPlain
import Derived.Test.YtkeekecaojpkjaaFldWakes
import Derived.Test.YtkeekecaojpkjaaFldRows
import Derived.Test.YtkeekecaojpkjaaFldHeads
namespace Go.Proofs.Ytkeekecaojpkjaa
open Go.RowKit

/-- Row i of a slice of fields. -/
def FldRow (w : World) (a : Option Addr) (i : Nat) (f : Fld) : Prop := ∃ b off, a = some ⟨b, off, none⟩ ∧ b < w.heap.size ∧ w.cell? ⟨b, off + i * 3, none⟩ = some (.int .i64 f.d) ∧ w.cell? ⟨b, off + i * 3 + 1, none⟩ = some (.int .i64 f.n) ∧ w.cell? ⟨b, off + i * 3 + 2, none⟩ = some (.string f.s)
theorem FldRow.below {w w' : World} {a : Option Addr} {i : Nat} {f : Fld} (h : FldRow w a i f) (hb : Below w.heap.size w w') : FldRow w' a i f := by
  obtain ⟨b, off, rfl, h0, h1, h2, h3⟩ := h
  exact ⟨b, off, rfl, Nat.lt_of_lt_of_le h0 hb.size, (hb.cell (p := ⟨b, off + i * 3, none⟩) h0).trans h1, (hb.cell (p := ⟨b, off + i * 3 + 1, none⟩) h0).trans h2, (hb.cell (p := ⟨b, off + i * 3 + 2, none⟩) h0).trans h3⟩

theorem list_of {α : Type} {P : Nat → α → Prop} : ∀ n, (∀ i, i < n → ∃ f, P i f) → ∃ l : List α, l.length = n ∧ ∀ i f, l[i]? = some f → P i f
  | 0, _ => ⟨[], rfl, by simp⟩
  | n + 1, h => by
    obtain ⟨l, hl, hp⟩ := list_of n (fun i hi => h i (by omega))
    obtain ⟨f, hf⟩ := h n (by omega)
    refine ⟨l ++ [f], by simp [hl], fun i g hg => ?_⟩
    rcases Nat.lt_or_ge i n with hi | hi
    · rw [List.getElem?_append_left (by omega)] at hg; exact hp i g hg
    · have hin : i = n := by
        have := (List.getElem?_eq_some_iff.1 hg).1
        simp [hl] at this
        omega
      subst hin
      rw [List.getElem?_append_right (by omega), hl, Nat.sub_self] at hg
      simp at hg
      subst hg
      exact hf

theorem toList_ne {a b : ByteArray} (h : a ≠ b) : (a.toList == b.toList) = false := by
  rw [beq_eq_false_iff_ne]
  intro e
  rw [ByteArray.toList_eq, ByteArray.toList_eq] at e
  exact h (by cases a; cases b; simpa using e)

section
variable {s : ByteArray} {p p' : Nat} {bad' : Bool} {f : Fld}
theorem next_num {v : Int} (h0 : f.d = 0) (h : NumIs s p false 0 1099511627776 v p' bad') : (v = f.n → bad' = false → nextFld s p f = some p') ∧ ((v ≠ f.n ∨ bad' = true) → nextFld s p f = none) := by
  unfold nextFld
  rw [if_pos h0]
  rcases h with ⟨_, m, k, hd, _, _, rfl, rfl, rfl⟩ | ⟨h, rfl, rfl, rfl⟩
  · rw [hd]
    refine ⟨fun e _ => by simp only; rw [if_pos e], fun e => ?_⟩
    simp only
    rw [if_neg (by rcases e with e | e; exact e; cases e)]
  · refine ⟨(fun _ e => by cases e), fun _ => ?_⟩
    rcases h with h | h | ⟨m, k, hd, h⟩
    · cases h
    · rw [h]
    · have := (VP.dec_only hd).1
      omega
theorem next_text {v : ByteArray} (h1 : f.d = 1) (h : TextIs s p false 1024 v p' bad') : (v = f.s → bad' = false → nextFld s p f = some p') ∧ ((v ≠ f.s ∨ bad' = true) → nextFld s p f = none) := by
  unfold nextFld
  rw [if_neg (by omega), if_pos h1]
  rcases h with ⟨_, m, k, hd, h2, h3, rfl, rfl, rfl⟩ | ⟨h, rfl, rfl, rfl⟩
  · rw [hd]
    refine ⟨fun e _ => by simp only; rw [if_pos ⟨by omega, h3, e⟩], fun e => ?_⟩
    simp only
    rw [if_neg (by rintro ⟨_, _, e'⟩; rcases e with e | e; exact e e'; cases e)]
  · refine ⟨(fun _ e => by cases e), fun _ => ?_⟩
    rcases h with h | h | ⟨m, k, hd, h⟩
    · cases h
    · rw [h]
    · rw [hd]
      simp only
      rw [if_neg (by rintro ⟨h4, h5, _⟩; omega)]
theorem next_flag {v : Bool} (h0 : f.d ≠ 0) (h1 : f.d ≠ 1) (h : FlagIs s p false v p' bad') : (v = (f.n == 1) → bad' = false → nextFld s p f = some p') ∧ ((v ≠ (f.n == 1) ∨ bad' = true) → nextFld s p f = none) := by
  unfold nextFld
  rw [if_neg h0, if_neg h1]
  rcases h with ⟨_, hd, rfl, rfl⟩ | ⟨h, rfl, rfl, rfl⟩
  · rw [hd]
    refine ⟨fun e _ => by rw [if_pos (by rw [← e]; rfl)], fun e => ?_⟩
    rw [if_neg]
    intro e'
    rcases e with e | e
    · injection e' with e'
      apply e
      rcases hb : (f.n == 1) with _ | _ <;> rw [hb] at e' <;> cases v <;> simp_all [flagByte]
    · cases e
  · refine ⟨(fun _ e => by cases e), fun _ => ?_⟩
    rcases h with h | h | ⟨c, hc, h⟩
    · cases h
    · rw [List.getElem?_eq_none (by rw [bytesOf_length]; exact h), if_neg (by simp)]
    · rw [hc, if_neg]
      intro e
      injection e with e
      subst e
      unfold flagByte at h
      split at h <;> simp at h
end

theorem readsB_at {s : ByteArray} {p : Nat} {l : List Fld} {k : Nat} {f : Fld} (hf : l[k]? = some f) : (∀ p', nextFld s p f = some p' → readsB s p (l.drop k) = readsB s p' (l.drop (k + 1))) ∧ (nextFld s p f = none → readsB s p (l.drop k) = false) := by
  obtain ⟨hk, he⟩ := List.getElem?_eq_some_iff.1 hf
  rw [List.drop_eq_getElem_cons hk, he]
  exact ⟨fun p' h => by simp only [readsB, h], fun h => by simp only [readsB, h]⟩

set_option maxRecDepth 100000 in
set_option maxHeartbeats 8000000 in
theorem reads_any (s : ByteArray) (a : Option Addr) (len cap : Nat) (l : List Fld) (rb : Bool) (w : World) (hs : s.size ≤ 1000000) (hlen : len = l.length) (hl : len ≤ 60) (hrb : rb = readsB s 0 l) (hrows : ∀ i f, l[i]? = some f → FldRow w a i f) :
    Calls Try.prog 27 #[.string s, .slice a len cap] w fun e w' => e = .returned (.bool rb) ∧ Below w.heap.size w w' := by
  have HROWS := Lib.hid hrows
  have HLEN := Lib.hid hlen
  have HRB := Lib.hid hrb
  clear hrows hlen hrb
  go_enter Try.func27, Try.ntmps27
  go_wp2_with fail
  refine (new_any s _).mono ?_
  rintro e w1 ⟨rfl, hr1, hb1⟩
  go_wp2_with fail
  go_loopw [6] (fun i wr => ∃ (k p : Nat), k ≤ len ∧ i = .int .i64 k ∧ p ≤ s.size ∧ Rd 42 wr w.heap.size s p false ∧ Below w.heap.size w wr ∧ Hid (rb = readsB s p (l.drop k))) (fun i _ => len - (intOf i).toNat)
  case atStart => exact ⟨0, 0, by omega, rfl, by omega, hr1, hb1, by show rb = _; rw [List.drop_zero]; exact HRB.out⟩
  case round =>
    obtain ⟨k, p, hk, rfl, hp, hr, hbw, HR⟩ := hrel
    clear hr1 hb1
    by_cases hlt : k < len
    · obtain ⟨f, hf⟩ : ∃ f, l[k]? = some f := ⟨_, List.getElem?_eq_getElem (by have := HLEN.out; omega)⟩
      obtain ⟨b, off, rfl, hbB, c0, c1, c2⟩ := HROWS.out k f hf
      have HN := Lib.hid (readsB_at (s := s) (p := p) hf)
      clear hf
      obtain ⟨d, n, q⟩ := f
      have d0 : wr.cell? ⟨b, off + k * 3, none⟩ = some (.int .i64 d) := (hbw.cell (p := ⟨b, off + k * 3, none⟩) hbB).trans c0
      have d1 : wr.cell? ⟨b, off + k * 3 + 1, none⟩ = some (.int .i64 n) := (hbw.cell (p := ⟨b, off + k * 3 + 1, none⟩) hbB).trans c1
      have d2 : wr.cell? ⟨b, off + k * 3 + 2, none⟩ = some (.string q) := (hbw.cell (p := ⟨b, off + k * 3 + 2, none⟩) hbB).trans c2
      clear c0 c1 c2
      have i0 : (0 : Int) ≤ (k : Int) := by omega
      have i1 : (k : Int) < (len : Int) := by omega
      have hg1 := Var.lt hr
      have hrA : Rd 42 (wr.alloc (.cells #[.int .i64 d, .int .i64 n, .string q] 47)) w.heap.size s p false := Var.alloc hr _
      have hkA : ∀ w5, Kept [w.heap.size] (wr.alloc (.cells #[.int .i64 d, .int .i64 n, .string q] 47)).drew w5 → w5.cell? ⟨wr.heap.size, 1, none⟩ = some (.int .i64 n) ∧ w5.cell? ⟨wr.heap.size, 2, none⟩ = some (.string q) ∧ Below w.heap.size w w5 := fun w5 hk => by
        have hv : Var w5 wr.heap.size 47 #[.int .i64 d, .int .i64 n, .string q] := Var.kept (show Var (wr.alloc (.cells #[.int .i64 d, .int .i64 n, .string q] 47)).drew wr.heap.size _ _ from Var.new wr _ _) hk (by simp; omega)
        have hz := hbw.size
        exact ⟨hv.cell 1 rfl, hv.cell 2 rfl, ((hbw.alloc hz _).drew).trans (hk.below (by simp; omega) (by intro z hz; simp at hz; omega))⟩
      have HK := Lib.hid hkA
      clear hkA
      by_cases hd0 : d = 0
      · subst hd0
        obtain ⟨v, p', bad', hn⟩ := numIs_of s p false 0 1099511627776
        have hp' := hn.le hp
        have hnx := next_num (f := ⟨0, n, q⟩) rfl hn
        have HV := Lib.hid hn
        have HX := Lib.hid hnx
        clear hn hnx
        by_cases hv : v = n
        · obtain rfl : n = v := hv.symm
          cases bad'
          · have HR2 : Hid (rb = readsB s p' (l.drop (k + 1))) := HR.out.trans (HN.out.1 p' (HX.out.1 rfl rfl))
            clear HX HN HR
            have hx0 : (wr.alloc (.cells #[.int .i64 0, .int .i64 n, .string q] 47)).drew.cell? ⟨wr.heap.size, 1, none⟩ = some (.int .i64 n) := Var.cell (show Var (wr.alloc (.cells #[.int .i64 0, .int .i64 n, .string q] 47)).drew wr.heap.size _ _ from Var.new wr _ _) 1 rfl
            go_wp2_with fail
            refine wp_region_held_drew (S := fun w' => w'.cell? ⟨wr.heap.size, 1, none⟩ = some (.int .i64 n)) (by kernel_rfl) hx0 (fun hHeld => ?_)
            refine fld_takes [0, 2, 3] _ 8 _ _ _ (by kernel_rfl) (fun _ d _ _ _ h => by cases d <;> exact h) (by rfl) (by kernel_rfl) (by assumption) ?_
            refine fld_taken (v := ?_) rfl (by rfl) (fun w' hw' => ?_) ?_
            rotate_left
            · (go_simp <;> with_reducible rfl)
            simp only [Act.put, List.getElem_toArray, List.getElem_cons_zero, List.setIfInBounds_toArray, List.set_cons_zero, List.set_cons_succ]
            refine fld_taken (v := ?_) rfl (by rfl) (fun w' hw' => ?_) ?_
            rotate_left
            · (go_simp <;> with_reducible rfl)
            simp only [Act.put, List.getElem_toArray, List.getElem_cons_succ, List.getElem_cons_zero, List.setIfInBounds_toArray, List.set_cons_zero, List.set_cons_succ]
            refine fld_taken (v := ?_) rfl (by rfl) (fun w' hw' => ?_) ?_
            rotate_left
            · (go_simp <;> with_reducible rfl)
            simp only [Act.put, List.getElem_toArray, List.getElem_cons_succ, List.getElem_cons_zero, List.setIfInBounds_toArray, List.set_cons_zero, List.set_cons_succ]
            refine fld_taken_nil ?_
            refine fld_alone (i := 1) (by kernel_rfl) rfl (by rfl) (fun K hK => ?_)
            go_simp
            refine (number_all w.heap.size s p false 0 1099511627776 _ p' _ _ HV.out ?_ hs hp).mono ?_
            · exact hrA
            rintro e w5 ⟨rfl, hr5, hk5⟩
            obtain ⟨y2, y3, hb5⟩ := HK.out w5 hk5
            have y4 := (Rd.cells hr5).2.2
            go_wp2_with fail
            refine hK.out _ _ y2 ?_
            clear hK K hHeld hx0
            refine fld_turn (S' := fun w' => w'.cell? ⟨w.heap.size, 2, none⟩ = some (.bool false) ∧ w'.cell? ⟨wr.heap.size, 1, none⟩ = some (.int .i64 n)) (fun w' h => h.2) _ _ _ _ ?_
            have hHeld5 := And.intro y4 y2
            refine fld_takes [4, 5, 6, 7, 8, 9, 10] _ 0 _ _ _ (by kernel_rfl) (fun _ d _ _ _ h => by cases d <;> exact h) (by rfl) (by kernel_rfl) (by assumption) ?_
            refine fld_taken (v := ?_) rfl (by rfl) (fun w' hw' => ?_) ?_
            rotate_left
            · (go_simp <;> with_reducible rfl)
            simp only [Act.put, List.getElem_toArray, List.getElem_cons_succ, List.getElem_cons_zero, List.setIfInBounds_toArray, List.set_cons_zero, List.set_cons_succ]
            refine fld_taken (v := ?_) rfl (by rfl) (fun w' hw' => ?_) ?_
            rotate_left
            · (go_simp <;> with_reducible rfl)
            simp only [Act.put, List.getElem_toArray, List.getElem_cons_succ, List.getElem_cons_zero, List.setIfInBounds_toArray, List.set_cons_zero, List.set_cons_succ]
            refine fld_taken (v := ?_) rfl (by rfl) (fun w' hw' => ?_) ?_
            rotate_left
            · (go_simp <;> with_reducible rfl)
            simp only [Act.put, List.getElem_toArray, List.getElem_cons_succ, List.getElem_cons_zero, List.setIfInBounds_toArray, List.set_cons_zero, List.set_cons_succ]
            refine fld_taken (v := ?_) rfl (by rfl) (fun w' hw' => ?_) ?_
            rotate_left
            · (go_simp <;> with_reducible rfl)
            simp only [Act.put, List.getElem_toArray, List.getElem_cons_succ, List.getElem_cons_zero, List.setIfInBounds_toArray, List.set_cons_zero, List.set_cons_succ]
            refine fld_taken (v := ?_) rfl (by rfl) (fun w' hw' => ?_) ?_
            rotate_left
            · (go_simp <;> with_reducible rfl)
            simp only [Act.put, List.getElem_toArray, List.getElem_cons_succ, List.getElem_cons_zero, List.setIfInBounds_toArray, List.set_cons_zero, List.set_cons_succ]
            refine fld_taken (v := ?_) rfl (by rfl) (fun w' hw' => ?_) ?_
            rotate_left
            · (go_simp <;> with_reducible rfl)
            simp only [Act.put, List.getElem_toArray, List.getElem_cons_succ, List.getElem_cons_zero, List.setIfInBounds_toArray, List.set_cons_zero, List.set_cons_succ]
            refine fld_taken (v := ?_) rfl (by rfl) (fun w' hw' => ?_) ?_
            rotate_left
            · (go_simp <;> with_reducible rfl)
            simp only [Act.put, List.getElem_toArray, List.getElem_cons_succ, List.getElem_cons_zero, List.setIfInBounds_toArray, List.set_cons_zero, List.set_cons_succ]
            refine fld_taken_nil ?_
            refine wpAnyH_done (by kernel_rfl) ?_ _
            clear y2 y3 y4 hHeld5
            go_wp2
            go_roundw
            case rel => exact ⟨k + 1, p', by omega, by go_num, hp', hr5, hb5, HR2⟩
            case measure => simp [intOf]; omega
          · have hrf : rb = false := HR.out.trans (HN.out.2 (HX.out.2 (.inr rfl)))
            subst hrf
            clear HX HN HR
            have hx0 : (wr.alloc (.cells #[.int .i64 0, .int .i64 n, .string q] 47)).drew.cell? ⟨wr.heap.size, 1, none⟩ = some (.int .i64 n) := Var.cell (show Var (wr.alloc (.cells #[.int .i64 0, .int .i64 n, .string q] 47)).drew wr.heap.size _ _ from Var.new wr _ _) 1 rfl
            go_wp2_with fail
            refine wp_region_held_drew (S := fun w' => w'.cell? ⟨wr.heap.size, 1, none⟩ = some (.int .i64 n)) (by kernel_rfl) hx0 (fun hHeld => ?_)
            refine fld_takes [0, 2, 3] _ 8 _ _ _ (by kernel_rfl) (fun _ d _ _ _ h => by cases d <;> exact h) (by rfl) (by kernel_rfl) (by assumption) ?_
            refine fld_taken (v := ?_) rfl (by rfl) (fun w' hw' => ?_) ?_
            rotate_left
            · (go_simp <;> with_reducible rfl)
            simp only [Act.put, List.getElem_toArray, List.getElem_cons_zero, List.setIfInBounds_toArray, List.set_cons_zero, List.set_cons_succ]
            refine fld_taken (v := ?_) rfl (by rfl) (fun w' hw' => ?_) ?_
            rotate_left
            · (go_simp <;> with_reducible rfl)
            simp only [Act.put, List.getElem_toArray, List.getElem_cons_succ, List.getElem_cons_zero, List.setIfInBounds_toArray, List.set_cons_zero, List.set_cons_succ]
            refine fld_taken (v := ?_) rfl (by rfl) (fun w' hw' => ?_) ?_
            rotate_left
            · (go_simp <;> with_reducible rfl)
            simp only [Act.put, List.getElem_toArray, List.getElem_cons_succ, List.getElem_cons_zero, List.setIfInBounds_toArray, List.set_cons_zero, List.set_cons_succ]
            refine fld_taken_nil ?_
            refine fld_alone (i := 1) (by kernel_rfl) rfl (by rfl) (fun K hK => ?_)
            go_simp
            refine (number_all w.heap.size s p false 0 1099511627776 _ p' _ _ HV.out ?_ hs hp).mono ?_
            · exact hrA
            rintro e w5 ⟨rfl, hr5, hk5⟩
            obtain ⟨y2, y3, hb5⟩ := HK.out w5 hk5
            have y4 := (Rd.cells hr5).2.2
            go_wp2_with fail
            refine hK.out _ _ y2 ?_
            clear hK K hHeld hx0
            refine fld_turn (S' := fun w' => w'.cell? ⟨w.heap.size, 2, none⟩ = some (.bool true) ∧ w'.cell? ⟨wr.heap.size, 1, none⟩ = some (.int .i64 n)) (fun w' h => h.2) _ _ _ _ ?_
            have hHeld5 := And.intro y4 y2
            refine fld_takes [4, 5, 6, 7, 8, 9, 10] _ 0 _ _ _ (by kernel_rfl) (fun _ d _ _ _ h => by cases d <;> exact h) (by rfl) (by kernel_rfl) (by assumption) ?_
            refine fld_taken (v := ?_) rfl (by rfl) (fun w' hw' => ?_) ?_
            rotate_left
            · (go_simp <;> with_reducible rfl)
            simp only [Act.put, List.getElem_toArray, List.getElem_cons_succ, List.getElem_cons_zero, List.setIfInBounds_toArray, List.set_cons_zero, List.set_cons_succ]
            refine fld_taken (v := ?_) rfl (by rfl) (fun w' hw' => ?_) ?_
            rotate_left
            · (go_simp <;> with_reducible rfl)
            simp only [Act.put, List.getElem_toArray, List.getElem_cons_succ, List.getElem_cons_zero, List.setIfInBounds_toArray, List.set_cons_zero, List.set_cons_succ]
            refine fld_taken (v := ?_) rfl (by rfl) (fun w' hw' => ?_) ?_
            rotate_left
            · (go_simp <;> with_reducible rfl)
            simp only [Act.put, List.getElem_toArray, List.getElem_cons_succ, List.getElem_cons_zero, List.setIfInBounds_toArray, List.set_cons_zero, List.set_cons_succ]
            refine fld_taken (v := ?_) rfl (by rfl) (fun w' hw' => ?_) ?_
            rotate_left
            · (go_simp <;> with_reducible rfl)
            simp only [Act.put, List.getElem_toArray, List.getElem_cons_succ, List.getElem_cons_zero, List.setIfInBounds_toArray, List.set_cons_zero, List.set_cons_succ]
            refine fld_taken (v := ?_) rfl (by rfl) (fun w' hw' => ?_) ?_
            rotate_left
            · (go_simp <;> with_reducible rfl)
            simp only [Act.put, List.getElem_toArray, List.getElem_cons_succ, List.getElem_cons_zero, List.setIfInBounds_toArray, List.set_cons_zero, List.set_cons_succ]
            refine fld_taken (v := ?_) rfl (by rfl) (fun w' hw' => ?_) ?_
            rotate_left
            · (go_simp <;> with_reducible rfl)
            simp only [Act.put, List.getElem_toArray, List.getElem_cons_succ, List.getElem_cons_zero, List.setIfInBounds_toArray, List.set_cons_zero, List.set_cons_succ]
            refine fld_taken (v := ?_) rfl (by rfl) (fun w' hw' => ?_) ?_
            rotate_left
            · (go_simp <;> with_reducible rfl)
            simp only [Act.put, List.getElem_toArray, List.getElem_cons_succ, List.getElem_cons_zero, List.setIfInBounds_toArray, List.set_cons_zero, List.set_cons_succ]
            refine fld_taken_nil ?_
            refine wpAnyH_done (by kernel_rfl) ?_ _
            clear y2 y3 y4 hHeld5
            go_wp2
            go_ret
            exact ⟨rfl, hb5⟩
        · have hrf : rb = false := HR.out.trans (HN.out.2 (HX.out.2 (.inl hv)))
          have hne : (v != n) = true := by simpa using hv
          subst hrf
          clear HX HN HR
          have hx0 : (wr.alloc (.cells #[.int .i64 0, .int .i64 n, .string q] 47)).drew.cell? ⟨wr.heap.size, 1, none⟩ = some (.int .i64 n) := Var.cell (show Var (wr.alloc (.cells #[.int .i64 0, .int .i64 n, .string q] 47)).drew wr.heap.size _ _ from Var.new wr _ _) 1 rfl
          go_wp2_with fail
          refine wp_region_held_drew (S := fun w' => w'.cell? ⟨wr.heap.size, 1, none⟩ = some (.int .i64 n)) (by kernel_rfl) hx0 (fun hHeld => ?_)
          refine fld_takes [0, 2, 3] _ 8 _ _ _ (by kernel_rfl) (fun _ d _ _ _ h => by cases d <;> exact h) (by rfl) (by kernel_rfl) (by assumption) ?_
          refine fld_taken (v := ?_) rfl (by rfl) (fun w' hw' => ?_) ?_
          rotate_left
          · (go_simp <;> with_reducible rfl)
          simp only [Act.put, List.getElem_toArray, List.getElem_cons_zero, List.setIfInBounds_toArray, List.set_cons_zero, List.set_cons_succ]
          refine fld_taken (v := ?_) rfl (by rfl) (fun w' hw' => ?_) ?_
          rotate_left
          · (go_simp <;> with_reducible rfl)
          simp only [Act.put, List.getElem_toArray, List.getElem_cons_succ, List.getElem_cons_zero, List.setIfInBounds_toArray, List.set_cons_zero, List.set_cons_succ]
          refine fld_taken (v := ?_) rfl (by rfl) (fun w' hw' => ?_) ?_
          rotate_left
          · (go_simp <;> with_reducible rfl)
          simp only [Act.put, List.getElem_toArray, List.getElem_cons_succ, List.getElem_cons_zero, List.setIfInBounds_toArray, List.set_cons_zero, List.set_cons_succ]
          refine fld_taken_nil ?_
          refine fld_alone (i := 1) (by kernel_rfl) rfl (by rfl) (fun K hK => ?_)
          go_simp
          refine (number_all w.heap.size s p false 0 1099511627776 _ p' _ _ HV.out ?_ hs hp).mono ?_
          · exact hrA
          rintro e w5 ⟨rfl, hr5, hk5⟩
          obtain ⟨y2, y3, hb5⟩ := HK.out w5 hk5
          have y4 := (Rd.cells hr5).2.2
          go_wp2_with fail
          refine hK.out _ _ y2 ?_
          clear hK K hHeld hx0
          have hHeld5 := y2
          refine fld_takes [4, 5, 6, 7, 8, 9, 10] _ 0 _ _ _ (by kernel_rfl) (fun _ d _ _ _ h => by cases d <;> exact h) (by rfl) (by kernel_rfl) (by assumption) ?_
          refine fld_taken (v := ?_) rfl (by rfl) (fun w' hw' => ?_) ?_
          rotate_left
          · (go_simp <;> with_reducible rfl)
          simp only [Act.put, List.getElem_toArray, List.getElem_cons_succ, List.getElem_cons_zero, List.setIfInBounds_toArray, List.set_cons_zero, List.set_cons_succ]
          refine fld_taken (v := ?_) rfl (by rfl) (fun w' hw' => ?_) ?_
          rotate_left
          · (go_simp <;> with_reducible rfl)
          simp only [Act.put, List.getElem_toArray, List.getElem_cons_succ, List.getElem_cons_zero, List.setIfInBounds_toArray, List.set_cons_zero, List.set_cons_succ]
          refine fld_skipped rfl (by rfl) ?_
          simp only [Act.put, List.getElem_toArray, List.getElem_cons_succ, List.getElem_cons_zero, List.setIfInBounds_toArray, List.set_cons_zero, List.set_cons_succ]
          refine fld_skipped rfl (by rfl) ?_
          simp only [Act.put, List.getElem_toArray, List.getElem_cons_succ, List.getElem_cons_zero, List.setIfInBounds_toArray, List.set_cons_zero, List.set_cons_succ]
          refine fld_skipped rfl (by rfl) ?_
          simp only [Act.put, List.getElem_toArray, List.getElem_cons_succ, List.getElem_cons_zero, List.setIfInBounds_toArray, List.set_cons_zero, List.set_cons_succ]
          refine fld_skipped rfl (by rfl) ?_
          simp only [Act.put, List.getElem_toArray, List.getElem_cons_succ, List.getElem_cons_zero, List.setIfInBounds_toArray, List.set_cons_zero, List.set_cons_succ]
          refine fld_taken (v := ?_) rfl (by rfl) (fun w' hw' => ?_) ?_
          rotate_left
          · (go_simp <;> with_reducible rfl)
          simp only [Act.put, List.getElem_toArray, List.getElem_cons_succ, List.getElem_cons_zero, List.setIfInBounds_toArray, List.set_cons_zero, List.set_cons_succ]
          refine fld_taken_nil ?_
          refine wpAnyH_done (by kernel_rfl) ?_ _
          clear y2 y3 y4 hHeld5
          go_wp2
          go_ret
          exact ⟨rfl, hb5⟩
      · by_cases hd1 : d = 1
        · subst hd1
          obtain ⟨v, p', bad', hn⟩ := textIs_of s p false 1024
          have hp' := hn.le hp
          have hnx := next_text (f := ⟨1, n, q⟩) rfl hn
          have HV := Lib.hid hn
          have HX := Lib.hid hnx
          clear hn hnx
          by_cases hv : v = q
          · obtain rfl : q = v := hv.symm
            cases bad'
            · have HR2 : Hid (rb = readsB s p' (l.drop (k + 1))) := HR.out.trans (HN.out.1 p' (HX.out.1 rfl rfl))
              clear HX HN HR
              have hx0 : (wr.alloc (.cells #[.int .i64 1, .int .i64 n, .string q] 47)).drew.cell? ⟨wr.heap.size, 2, none⟩ = some (.string q) := Var.cell (show Var (wr.alloc (.cells #[.int .i64 1, .int .i64 n, .string q] 47)).drew wr.heap.size _ _ from Var.new wr _ _) 2 rfl
              go_wp2_with fail
              refine wp_region_held_drew (S := fun w' => w'.cell? ⟨wr.heap.size, 2, none⟩ = some (.string q)) (by kernel_rfl) hx0 (fun hHeld => ?_)
              refine fld_takes [0, 2, 3] _ 8 _ _ _ (by kernel_rfl) (fun _ d _ _ _ h => by cases d <;> exact h) (by rfl) (by kernel_rfl) (by assumption) ?_
              refine fld_taken (v := ?_) rfl (by rfl) (fun w' hw' => ?_) ?_
              rotate_left
              · (go_simp <;> with_reducible rfl)
              simp only [Act.put, List.getElem_toArray, List.getElem_cons_zero, List.setIfInBounds_toArray, List.set_cons_zero, List.set_cons_succ]
              refine fld_taken (v := ?_) rfl (by rfl) (fun w' hw' => ?_) ?_
              rotate_left
              · (go_simp <;> with_reducible rfl)
              simp only [Act.put, List.getElem_toArray, List.getElem_cons_succ, List.getElem_cons_zero, List.setIfInBounds_toArray, List.set_cons_zero, List.set_cons_succ]
              refine fld_taken (v := ?_) rfl (by rfl) (fun w' hw' => ?_) ?_
              rotate_left
              · (go_simp <;> with_reducible rfl)
              simp only [Act.put, List.getElem_toArray, List.getElem_cons_succ, List.getElem_cons_zero, List.setIfInBounds_toArray, List.set_cons_zero, List.set_cons_succ]
              refine fld_taken_nil ?_
              refine fld_alone (i := 1) (by kernel_rfl) rfl (by rfl) (fun K hK => ?_)
              go_simp
              refine (text_all w.heap.size s p false 1024 _ p' _ _ HV.out ?_ hs hp).mono ?_
              · exact hrA
              rintro e w5 ⟨rfl, hr5, hk5⟩
              obtain ⟨y2, y3, hb5⟩ := HK.out w5 hk5
              have y4 := (Rd.cells hr5).2.2
              go_wp2_with fail
              refine hK.out _ _ y3 ?_
              clear hK K hHeld hx0
              refine fld_turn (S' := fun w' => w'.cell? ⟨w.heap.size, 2, none⟩ = some (.bool false) ∧ w'.cell? ⟨wr.heap.size, 2, none⟩ = some (.string q)) (fun w' h => h.2) _ _ _ _ ?_
              have hHeld5 := And.intro y4 y3
              refine fld_takes [4, 5, 6, 7, 8, 9, 10] _ 0 _ _ _ (by kernel_rfl) (fun _ d _ _ _ h => by cases d <;> exact h) (by rfl) (by kernel_rfl) (by assumption) ?_
              refine fld_taken (v := ?_) rfl (by rfl) (fun w' hw' => ?_) ?_
              rotate_left
              · (go_simp <;> with_reducible rfl)
              simp only [Act.put, List.getElem_toArray, List.getElem_cons_succ, List.getElem_cons_zero, List.setIfInBounds_toArray, List.set_cons_zero, List.set_cons_succ]
              refine fld_taken (v := ?_) rfl (by rfl) (fun w' hw' => ?_) ?_
              rotate_left
              · (go_simp <;> with_reducible rfl)
              simp only [Act.put, List.getElem_toArray, List.getElem_cons_succ, List.getElem_cons_zero, List.setIfInBounds_toArray, List.set_cons_zero, List.set_cons_succ]
              refine fld_taken (v := ?_) rfl (by rfl) (fun w' hw' => ?_) ?_
              rotate_left
              · (go_simp <;> with_reducible rfl)
              simp only [Act.put, List.getElem_toArray, List.getElem_cons_succ, List.getElem_cons_zero, List.setIfInBounds_toArray, List.set_cons_zero, List.set_cons_succ]
              refine fld_taken (v := ?_) rfl (by rfl) (fun w' hw' => ?_) ?_
              rotate_left
              · (go_simp <;> with_reducible rfl)
              simp only [Act.put, List.getElem_toArray, List.getElem_cons_succ, List.getElem_cons_zero, List.setIfInBounds_toArray, List.set_cons_zero, List.set_cons_succ]
              refine fld_taken (v := ?_) rfl (by rfl) (fun w' hw' => ?_) ?_
              rotate_left
              · (go_simp <;> with_reducible rfl)
              simp only [Act.put, List.getElem_toArray, List.getElem_cons_succ, List.getElem_cons_zero, List.setIfInBounds_toArray, List.set_cons_zero, List.set_cons_succ]
              refine fld_taken (v := ?_) rfl (by rfl) (fun w' hw' => ?_) ?_
              rotate_left
              · (go_simp <;> with_reducible rfl)
              simp only [Act.put, List.getElem_toArray, List.getElem_cons_succ, List.getElem_cons_zero, List.setIfInBounds_toArray, List.set_cons_zero, List.set_cons_succ]
              refine fld_taken (v := ?_) rfl (by rfl) (fun w' hw' => ?_) ?_
              rotate_left
              · (go_simp <;> with_reducible rfl)
              simp only [Act.put, List.getElem_toArray, List.getElem_cons_succ, List.getElem_cons_zero, List.setIfInBounds_toArray, List.set_cons_zero, List.set_cons_succ]
              refine fld_taken_nil ?_
              refine wpAnyH_done (by kernel_rfl) ?_ _
              clear y2 y3 y4 hHeld5
              go_wp2
              go_roundw
              case rel => exact ⟨k + 1, p', by omega, by go_num, hp', hr5, hb5, HR2⟩
              case measure => simp [intOf]; omega
            · have hrf : rb = false := HR.out.trans (HN.out.2 (HX.out.2 (.inr rfl)))
              subst hrf
              clear HX HN HR
              have hx0 : (wr.alloc (.cells #[.int .i64 1, .int .i64 n, .string q] 47)).drew.cell? ⟨wr.heap.size, 2, none⟩ = some (.string q) := Var.cell (show Var (wr.alloc (.cells #[.int .i64 1, .int .i64 n, .string q] 47)).drew wr.heap.size _ _ from Var.new wr _ _) 2 rfl
              go_wp2_with fail
              refine wp_region_held_drew (S := fun w' => w'.cell? ⟨wr.heap.size, 2, none⟩ = some (.string q)) (by kernel_rfl) hx0 (fun hHeld => ?_)
              refine fld_takes [0, 2, 3] _ 8 _ _ _ (by kernel_rfl) (fun _ d _ _ _ h => by cases d <;> exact h) (by rfl) (by kernel_rfl) (by assumption) ?_
              refine fld_taken (v := ?_) rfl (by rfl) (fun w' hw' => ?_) ?_
              rotate_left
              · (go_simp <;> with_reducible rfl)
              simp only [Act.put, List.getElem_toArray, List.getElem_cons_zero, List.setIfInBounds_toArray, List.set_cons_zero, List.set_cons_succ]
              refine fld_taken (v := ?_) rfl (by rfl) (fun w' hw' => ?_) ?_
              rotate_left
              · (go_simp <;> with_reducible rfl)
              simp only [Act.put, List.getElem_toArray, List.getElem_cons_succ, List.getElem_cons_zero, List.setIfInBounds_toArray, List.set_cons_zero, List.set_cons_succ]
              refine fld_taken (v := ?_) rfl (by rfl) (fun w' hw' => ?_) ?_
              rotate_left
              · (go_simp <;> with_reducible rfl)
              simp only [Act.put, List.getElem_toArray, List.getElem_cons_succ, List.getElem_cons_zero, List.setIfInBounds_toArray, List.set_cons_zero, List.set_cons_succ]
              refine fld_taken_nil ?_
              refine fld_alone (i := 1) (by kernel_rfl) rfl (by rfl) (fun K hK => ?_)
              go_simp
              refine (text_all w.heap.size s p false 1024 _ p' _ _ HV.out ?_ hs hp).mono ?_
              · exact hrA
              rintro e w5 ⟨rfl, hr5, hk5⟩
              obtain ⟨y2, y3, hb5⟩ := HK.out w5 hk5
              have y4 := (Rd.cells hr5).2.2
              go_wp2_with fail
              refine hK.out _ _ y3 ?_
              clear hK K hHeld hx0
              refine fld_turn (S' := fun w' => w'.cell? ⟨w.heap.size, 2, none⟩ = some (.bool true) ∧ w'.cell? ⟨wr.heap.size, 2, none⟩ = some (.string q)) (fun w' h => h.2) _ _ _ _ ?_
              have hHeld5 := And.intro y4 y3
              refine fld_takes [4, 5, 6, 7, 8, 9, 10] _ 0 _ _ _ (by kernel_rfl) (fun _ d _ _ _ h => by cases d <;> exact h) (by rfl) (by kernel_rfl) (by assumption) ?_
              refine fld_taken (v := ?_) rfl (by rfl) (fun w' hw' => ?_) ?_
              rotate_left
              · (go_simp <;> with_reducible rfl)
              simp only [Act.put, List.getElem_toArray, List.getElem_cons_succ, List.getElem_cons_zero, List.setIfInBounds_toArray, List.set_cons_zero, List.set_cons_succ]
              refine fld_taken (v := ?_) rfl (by rfl) (fun w' hw' => ?_) ?_
              rotate_left
              · (go_simp <;> with_reducible rfl)
              simp only [Act.put, List.getElem_toArray, List.getElem_cons_succ, List.getElem_cons_zero, List.setIfInBounds_toArray, List.set_cons_zero, List.set_cons_succ]
              refine fld_taken (v := ?_) rfl (by rfl) (fun w' hw' => ?_) ?_
              rotate_left
              · (go_simp <;> with_reducible rfl)
              simp only [Act.put, List.getElem_toArray, List.getElem_cons_succ, List.getElem_cons_zero, List.setIfInBounds_toArray, List.set_cons_zero, List.set_cons_succ]
              refine fld_taken (v := ?_) rfl (by rfl) (fun w' hw' => ?_) ?_
              rotate_left
              · (go_simp <;> with_reducible rfl)
              simp only [Act.put, List.getElem_toArray, List.getElem_cons_succ, List.getElem_cons_zero, List.setIfInBounds_toArray, List.set_cons_zero, List.set_cons_succ]
              refine fld_taken (v := ?_) rfl (by rfl) (fun w' hw' => ?_) ?_
              rotate_left
              · (go_simp <;> with_reducible rfl)
              simp only [Act.put, List.getElem_toArray, List.getElem_cons_succ, List.getElem_cons_zero, List.setIfInBounds_toArray, List.set_cons_zero, List.set_cons_succ]
              refine fld_taken (v := ?_) rfl (by rfl) (fun w' hw' => ?_) ?_
              rotate_left
              · (go_simp <;> with_reducible rfl)
              simp only [Act.put, List.getElem_toArray, List.getElem_cons_succ, List.getElem_cons_zero, List.setIfInBounds_toArray, List.set_cons_zero, List.set_cons_succ]
              refine fld_taken (v := ?_) rfl (by rfl) (fun w' hw' => ?_) ?_
              rotate_left
              · (go_simp <;> with_reducible rfl)
              simp only [Act.put, List.getElem_toArray, List.getElem_cons_succ, List.getElem_cons_zero, List.setIfInBounds_toArray, List.set_cons_zero, List.set_cons_succ]
              refine fld_taken_nil ?_
              refine wpAnyH_done (by kernel_rfl) ?_ _
              clear y2 y3 y4 hHeld5
              go_wp2
              go_ret
              exact ⟨rfl, hb5⟩
          · have hrf : rb = false := HR.out.trans (HN.out.2 (HX.out.2 (.inl hv)))
            have hne := toList_ne hv
            subst hrf
            clear HX HN HR
            have hx0 : (wr.alloc (.cells #[.int .i64 1, .int .i64 n, .string q] 47)).drew.cell? ⟨wr.heap.size, 2, none⟩ = some (.string q) := Var.cell (show Var (wr.alloc (.cells #[.int .i64 1, .int .i64 n, .string q] 47)).drew wr.heap.size _ _ from Var.new wr _ _) 2 rfl
            go_wp2_with fail
            refine wp_region_held_drew (S := fun w' => w'.cell? ⟨wr.heap.size, 2, none⟩ = some (.string q)) (by kernel_rfl) hx0 (fun hHeld => ?_)
            refine fld_takes [0, 2, 3] _ 8 _ _ _ (by kernel_rfl) (fun _ d _ _ _ h => by cases d <;> exact h) (by rfl) (by kernel_rfl) (by assumption) ?_
            refine fld_taken (v := ?_) rfl (by rfl) (fun w' hw' => ?_) ?_
            rotate_left
            · (go_simp <;> with_reducible rfl)
            simp only [Act.put, List.getElem_toArray, List.getElem_cons_zero, List.setIfInBounds_toArray, List.set_cons_zero, List.set_cons_succ]
            refine fld_taken (v := ?_) rfl (by rfl) (fun w' hw' => ?_) ?_
            rotate_left
            · (go_simp <;> with_reducible rfl)
            simp only [Act.put, List.getElem_toArray, List.getElem_cons_succ, List.getElem_cons_zero, List.setIfInBounds_toArray, List.set_cons_zero, List.set_cons_succ]
            refine fld_taken (v := ?_) rfl (by rfl) (fun w' hw' => ?_) ?_
            rotate_left
            · (go_simp <;> with_reducible rfl)
            simp only [Act.put, List.getElem_toArray, List.getElem_cons_succ, List.getElem_cons_zero, List.setIfInBounds_toArray, List.set_cons_zero, List.set_cons_succ]
            refine fld_taken_nil ?_
            refine fld_alone (i := 1) (by kernel_rfl) rfl (by rfl) (fun K hK => ?_)
            go_simp
            refine (text_all w.heap.size s p false 1024 _ p' _ _ HV.out ?_ hs hp).mono ?_
            · exact hrA
            rintro e w5 ⟨rfl, hr5, hk5⟩
            obtain ⟨y2, y3, hb5⟩ := HK.out w5 hk5
            have y4 := (Rd.cells hr5).2.2
            go_wp2_with fail
            refine hK.out _ _ y3 ?_
            clear hK K hHeld hx0
            have hHeld5 := y3
            refine fld_takes [4, 5, 6, 7, 8, 9, 10] _ 0 _ _ _ (by kernel_rfl) (fun _ d _ _ _ h => by cases d <;> exact h) (by rfl) (by kernel_rfl) (by assumption) ?_
            refine fld_taken (v := ?_) rfl (by rfl) (fun w' hw' => ?_) ?_
            rotate_left
            · (go_simp <;> with_reducible rfl)
            simp only [Act.put, List.getElem_toArray, List.getElem_cons_succ, List.getElem_cons_zero, List.setIfInBounds_toArray, List.set_cons_zero, List.set_cons_succ]
            refine fld_taken (v := ?_) rfl (by rfl) (fun w' hw' => ?_) ?_
            rotate_left
            · (go_simp <;> with_reducible rfl)
            simp only [Act.put, List.getElem_toArray, List.getElem_cons_succ, List.getElem_cons_zero, List.setIfInBounds_toArray, List.set_cons_zero, List.set_cons_succ]
            refine fld_skipped rfl (by rfl) ?_
            simp only [Act.put, List.getElem_toArray, List.getElem_cons_succ, List.getElem_cons_zero, List.setIfInBounds_toArray, List.set_cons_zero, List.set_cons_succ]
            refine fld_skipped rfl (by rfl) ?_
            simp only [Act.put, List.getElem_toArray, List.getElem_cons_succ, List.getElem_cons_zero, List.setIfInBounds_toArray, List.set_cons_zero, List.set_cons_succ]
            refine fld_skipped rfl (by rfl) ?_
            simp only [Act.put, List.getElem_toArray, List.getElem_cons_succ, List.getElem_cons_zero, List.setIfInBounds_toArray, List.set_cons_zero, List.set_cons_succ]
            refine fld_skipped rfl (by rfl) ?_
            simp only [Act.put, List.getElem_toArray, List.getElem_cons_succ, List.getElem_cons_zero, List.setIfInBounds_toArray, List.set_cons_zero, List.set_cons_succ]
            refine fld_taken (v := ?_) rfl (by rfl) (fun w' hw' => ?_) ?_
            rotate_left
            · (go_simp <;> with_reducible rfl)
            simp only [Act.put, List.getElem_toArray, List.getElem_cons_succ, List.getElem_cons_zero, List.setIfInBounds_toArray, List.set_cons_zero, List.set_cons_succ]
            refine fld_taken_nil ?_
            refine wpAnyH_done (by kernel_rfl) ?_ _
            clear y2 y3 y4 hHeld5
            go_wp2
            go_ret
            exact ⟨rfl, hb5⟩
        · have z0 : (d == 0) = false := by simpa using hd0
          have z1 : (d == 1) = false := by simpa using hd1
          obtain ⟨v, p', bad', hn⟩ := flagIs_of s p false
          have hp' := hn.le hp
          have hnx := next_flag (f := ⟨d, n, q⟩) hd0 hd1 hn
          have HV := Lib.hid hn
          have HX := Lib.hid hnx
          clear hn hnx
          obtain ⟨b1, hb1⟩ : ∃ b1, (n == 1) = b1 := ⟨_, rfl⟩
          by_cases hv : v = b1
          · subst hv
            cases bad'
            · have HR2 : Hid (rb = readsB s p' (l.drop (k + 1))) := HR.out.trans (HN.out.1 p' (HX.out.1 hb1.symm rfl))
              clear HX HN HR
              have hx0 : (wr.alloc (.cells #[.int .i64 d, .int .i64 n, .string q] 47)).drew.cell? ⟨wr.heap.size, 1, none⟩ = some (.int .i64 n) := Var.cell (show Var (wr.alloc (.cells #[.int .i64 d, .int .i64 n, .string q] 47)).drew wr.heap.size _ _ from Var.new wr _ _) 1 rfl
              go_wp2_with fail
              refine wp_region_held_drew (S := fun w' => w'.cell? ⟨wr.heap.size, 1, none⟩ = some (.int .i64 n)) (by kernel_rfl) hx0 (fun hHeld => ?_)
              refine fld_takes [0, 2, 3, 4] _ 8 _ _ _ (by kernel_rfl) (fun _ d _ _ _ h => by cases d <;> exact h) (by rfl) (by kernel_rfl) (by assumption) ?_
              refine fld_taken (v := ?_) rfl (by rfl) (fun w' hw' => ?_) ?_
              rotate_left
              · (go_simp <;> with_reducible rfl)
              simp only [Act.put, List.getElem_toArray, List.getElem_cons_zero, List.setIfInBounds_toArray, List.set_cons_zero, List.set_cons_succ]
              refine fld_taken (v := ?_) rfl (by rfl) (fun w' hw' => ?_) ?_
              rotate_left
              · (go_simp <;> with_reducible rfl)
              simp only [Act.put, List.getElem_toArray, List.getElem_cons_succ, List.getElem_cons_zero, List.setIfInBounds_toArray, List.set_cons_zero, List.set_cons_succ]
              refine fld_taken (v := ?_) rfl (by rfl) (fun w' hw' => ?_) ?_
              rotate_left
              · (go_simp <;> with_reducible rfl)
              simp only [Act.put, List.getElem_toArray, List.getElem_cons_succ, List.getElem_cons_zero, List.setIfInBounds_toArray, List.set_cons_zero, List.set_cons_succ]
              refine fld_taken (v := ?_) rfl (by rfl) (fun w' hw' => ?_) ?_
              rotate_left
              · (go_simp <;> with_reducible rfl)
              simp only [Act.put, List.getElem_toArray, List.getElem_cons_succ, List.getElem_cons_zero, List.setIfInBounds_toArray, List.set_cons_zero, List.set_cons_succ]
              refine fld_taken_nil ?_
              refine fld_alone (i := 1) (by kernel_rfl) rfl (by rfl) (fun K hK => ?_)
              go_simp
              refine (flag_all w.heap.size s p false _ p' _ _ HV.out ?_ hs).mono ?_
              · exact hrA
              rintro e w5 ⟨rfl, hr5, hk5⟩
              obtain ⟨y2, y3, hb5⟩ := HK.out w5 hk5
              have y4 := (Rd.cells hr5).2.2
              go_wp2_with fail
              refine hK.out _ _ y2 ?_
              clear hK K hHeld hx0
              refine fld_turn (S' := fun w' => w'.cell? ⟨w.heap.size, 2, none⟩ = some (.bool false) ∧ w'.cell? ⟨wr.heap.size, 1, none⟩ = some (.int .i64 n)) (fun w' h => h.2) _ _ _ _ ?_
              have hHeld5 := And.intro y4 y2
              refine fld_takes [5, 6, 7, 8, 9, 10, 11] _ 0 _ _ _ (by kernel_rfl) (fun _ d _ _ _ h => by cases d <;> exact h) (by rfl) (by kernel_rfl) (by assumption) ?_
              refine fld_taken (v := ?_) rfl (by rfl) (fun w' hw' => ?_) ?_
              rotate_left
              · (go_simp <;> with_reducible rfl)
              simp only [Act.put, List.getElem_toArray, List.getElem_cons_succ, List.getElem_cons_zero, List.setIfInBounds_toArray, List.set_cons_zero, List.set_cons_succ]
              refine fld_taken (v := ?_) rfl (by rfl) (fun w' hw' => ?_) ?_
              rotate_left
              · (go_simp <;> with_reducible rfl)
              simp only [Act.put, List.getElem_toArray, List.getElem_cons_succ, List.getElem_cons_zero, List.setIfInBounds_toArray, List.set_cons_zero, List.set_cons_succ]
              refine fld_taken (v := ?_) rfl (by rfl) (fun w' hw' => ?_) ?_
              rotate_left
              · (go_simp <;> with_reducible rfl)
              simp only [Act.put, List.getElem_toArray, List.getElem_cons_succ, List.getElem_cons_zero, List.setIfInBounds_toArray, List.set_cons_zero, List.set_cons_succ]
              refine fld_taken (v := ?_) rfl (by rfl) (fun w' hw' => ?_) ?_
              rotate_left
              · (go_simp <;> with_reducible rfl)
              simp only [Act.put, List.getElem_toArray, List.getElem_cons_succ, List.getElem_cons_zero, List.setIfInBounds_toArray, List.set_cons_zero, List.set_cons_succ]
              refine fld_taken (v := ?_) rfl (by rfl) (fun w' hw' => ?_) ?_
              rotate_left
              · (go_simp <;> with_reducible rfl)
              simp only [Act.put, List.getElem_toArray, List.getElem_cons_succ, List.getElem_cons_zero, List.setIfInBounds_toArray, List.set_cons_zero, List.set_cons_succ]
              refine fld_taken (v := ?_) rfl (by rfl) (fun w' hw' => ?_) ?_
              rotate_left
              · (go_simp <;> with_reducible rfl)
              simp only [Act.put, List.getElem_toArray, List.getElem_cons_succ, List.getElem_cons_zero, List.setIfInBounds_toArray, List.set_cons_zero, List.set_cons_succ]
              refine fld_taken (v := ?_) rfl (by rfl) (fun w' hw' => ?_) ?_
              rotate_left
              · (go_simp <;> with_reducible rfl)
              simp only [Act.put, List.getElem_toArray, List.getElem_cons_succ, List.getElem_cons_zero, List.setIfInBounds_toArray, List.set_cons_zero, List.set_cons_succ]
              refine fld_taken_nil ?_
              refine wpAnyH_done (by kernel_rfl) ?_ _
              clear y2 y3 y4 hHeld5
              go_wp2
              go_roundw
              case rel => exact ⟨k + 1, p', by omega, by go_num, hp', hr5, hb5, HR2⟩
              case measure => simp [intOf]; omega
            · have hrf : rb = false := HR.out.trans (HN.out.2 (HX.out.2 (.inr rfl)))
              subst hrf
              clear HX HN HR
              have hx0 : (wr.alloc (.cells #[.int .i64 d, .int .i64 n, .string q] 47)).drew.cell? ⟨wr.heap.size, 1, none⟩ = some (.int .i64 n) := Var.cell (show Var (wr.alloc (.cells #[.int .i64 d, .int .i64 n, .string q] 47)).drew wr.heap.size _ _ from Var.new wr _ _) 1 rfl
              go_wp2_with fail
              refine wp_region_held_drew (S := fun w' => w'.cell? ⟨wr.heap.size, 1, none⟩ = some (.int .i64 n)) (by kernel_rfl) hx0 (fun hHeld => ?_)
              refine fld_takes [0, 2, 3, 4] _ 8 _ _ _ (by kernel_rfl) (fun _ d _ _ _ h => by cases d <;> exact h) (by rfl) (by kernel_rfl) (by assumption) ?_
              refine fld_taken (v := ?_) rfl (by rfl) (fun w' hw' => ?_) ?_
              rotate_left
              · (go_simp <;> with_reducible rfl)
              simp only [Act.put, List.getElem_toArray, List.getElem_cons_zero, List.setIfInBounds_toArray, List.set_cons_zero, List.set_cons_succ]
              refine fld_taken (v := ?_) rfl (by rfl) (fun w' hw' => ?_) ?_
              rotate_left
              · (go_simp <;> with_reducible rfl)
              simp only [Act.put, List.getElem_toArray, List.getElem_cons_succ, List.getElem_cons_zero, List.setIfInBounds_toArray, List.set_cons_zero, List.set_cons_succ]
              refine fld_taken (v := ?_) rfl (by rfl) (fun w' hw' => ?_) ?_
              rotate_left
              · (go_simp <;> with_reducible rfl)
              simp only [Act.put, List.getElem_toArray, List.getElem_cons_succ, List.getElem_cons_zero, List.setIfInBounds_toArray, List.set_cons_zero, List.set_cons_succ]
              refine fld_taken (v := ?_) rfl (by rfl) (fun w' hw' => ?_) ?_
              rotate_left
              · (go_simp <;> with_reducible rfl)
              simp only [Act.put, List.getElem_toArray, List.getElem_cons_succ, List.getElem_cons_zero, List.setIfInBounds_toArray, List.set_cons_zero, List.set_cons_succ]
              refine fld_taken_nil ?_
              refine fld_alone (i := 1) (by kernel_rfl) rfl (by rfl) (fun K hK => ?_)
              go_simp
              refine (flag_all w.heap.size s p false _ p' _ _ HV.out ?_ hs).mono ?_
              · exact hrA
              rintro e w5 ⟨rfl, hr5, hk5⟩
              obtain ⟨y2, y3, hb5⟩ := HK.out w5 hk5
              have y4 := (Rd.cells hr5).2.2
              go_wp2_with fail
              refine hK.out _ _ y2 ?_
              clear hK K hHeld hx0
              refine fld_turn (S' := fun w' => w'.cell? ⟨w.heap.size, 2, none⟩ = some (.bool true) ∧ w'.cell? ⟨wr.heap.size, 1, none⟩ = some (.int .i64 n)) (fun w' h => h.2) _ _ _ _ ?_
              have hHeld5 := And.intro y4 y2
              refine fld_takes [5, 6, 7, 8, 9, 10, 11] _ 0 _ _ _ (by kernel_rfl) (fun _ d _ _ _ h => by cases d <;> exact h) (by rfl) (by kernel_rfl) (by assumption) ?_
              refine fld_taken (v := ?_) rfl (by rfl) (fun w' hw' => ?_) ?_
              rotate_left
              · (go_simp <;> with_reducible rfl)
              simp only [Act.put, List.getElem_toArray, List.getElem_cons_succ, List.getElem_cons_zero, List.setIfInBounds_toArray, List.set_cons_zero, List.set_cons_succ]
              refine fld_taken (v := ?_) rfl (by rfl) (fun w' hw' => ?_) ?_
              rotate_left
              · (go_simp <;> with_reducible rfl)
              simp only [Act.put, List.getElem_toArray, List.getElem_cons_succ, List.getElem_cons_zero, List.setIfInBounds_toArray, List.set_cons_zero, List.set_cons_succ]
              refine fld_taken (v := ?_) rfl (by rfl) (fun w' hw' => ?_) ?_
              rotate_left
              · (go_simp <;> with_reducible rfl)
              simp only [Act.put, List.getElem_toArray, List.getElem_cons_succ, List.getElem_cons_zero, List.setIfInBounds_toArray, List.set_cons_zero, List.set_cons_succ]
              refine fld_taken (v := ?_) rfl (by rfl) (fun w' hw' => ?_) ?_
              rotate_left
              · (go_simp <;> with_reducible rfl)
              simp only [Act.put, List.getElem_toArray, List.getElem_cons_succ, List.getElem_cons_zero, List.setIfInBounds_toArray, List.set_cons_zero, List.set_cons_succ]
              refine fld_taken (v := ?_) rfl (by rfl) (fun w' hw' => ?_) ?_
              rotate_left
              · (go_simp <;> with_reducible rfl)
              simp only [Act.put, List.getElem_toArray, List.getElem_cons_succ, List.getElem_cons_zero, List.setIfInBounds_toArray, List.set_cons_zero, List.set_cons_succ]
              refine fld_taken (v := ?_) rfl (by rfl) (fun w' hw' => ?_) ?_
              rotate_left
              · (go_simp <;> with_reducible rfl)
              simp only [Act.put, List.getElem_toArray, List.getElem_cons_succ, List.getElem_cons_zero, List.setIfInBounds_toArray, List.set_cons_zero, List.set_cons_succ]
              refine fld_taken (v := ?_) rfl (by rfl) (fun w' hw' => ?_) ?_
              rotate_left
              · (go_simp <;> with_reducible rfl)
              simp only [Act.put, List.getElem_toArray, List.getElem_cons_succ, List.getElem_cons_zero, List.setIfInBounds_toArray, List.set_cons_zero, List.set_cons_succ]
              refine fld_taken_nil ?_
              refine wpAnyH_done (by kernel_rfl) ?_ _
              clear y2 y3 y4 hHeld5
              go_wp2
              go_ret
              exact ⟨rfl, hb5⟩
          · have hrf : rb = false := HR.out.trans (HN.out.2 (HX.out.2 (.inl (by rw [hb1]; exact hv))))
            have hne : (v == b1) = false := by simpa using hv
            have hne2 : (v != b1) = true := by simpa using hv
            subst hrf
            clear HX HN HR
            have hx0 : (wr.alloc (.cells #[.int .i64 d, .int .i64 n, .string q] 47)).drew.cell? ⟨wr.heap.size, 1, none⟩ = some (.int .i64 n) := Var.cell (show Var (wr.alloc (.cells #[.int .i64 d, .int .i64 n, .string q] 47)).drew wr.heap.size _ _ from Var.new wr _ _) 1 rfl
            go_wp2_with fail
            refine wp_region_held_drew (S := fun w' => w'.cell? ⟨wr.heap.size, 1, none⟩ = some (.int .i64 n)) (by kernel_rfl) hx0 (fun hHeld => ?_)
            refine fld_takes [0, 2, 3, 4] _ 8 _ _ _ (by kernel_rfl) (fun _ d _ _ _ h => by cases d <;> exact h) (by rfl) (by kernel_rfl) (by assumption) ?_
            refine fld_taken (v := ?_) rfl (by rfl) (fun w' hw' => ?_) ?_
            rotate_left
            · (go_simp <;> with_reducible rfl)
            simp only [Act.put, List.getElem_toArray, List.getElem_cons_zero, List.setIfInBounds_toArray, List.set_cons_zero, List.set_cons_succ]
            refine fld_taken (v := ?_) rfl (by rfl) (fun w' hw' => ?_) ?_
            rotate_left
            · (go_simp <;> with_reducible rfl)
            simp only [Act.put, List.getElem_toArray, List.getElem_cons_succ, List.getElem_cons_zero, List.setIfInBounds_toArray, List.set_cons_zero, List.set_cons_succ]
            refine fld_taken (v := ?_) rfl (by rfl) (fun w' hw' => ?_) ?_
            rotate_left
            · (go_simp <;> with_reducible rfl)
            simp only [Act.put, List.getElem_toArray, List.getElem_cons_succ, List.getElem_cons_zero, List.setIfInBounds_toArray, List.set_cons_zero, List.set_cons_succ]
            refine fld_taken (v := ?_) rfl (by rfl) (fun w' hw' => ?_) ?_
            rotate_left
            · (go_simp <;> with_reducible rfl)
            simp only [Act.put, List.getElem_toArray, List.getElem_cons_succ, List.getElem_cons_zero, List.setIfInBounds_toArray, List.set_cons_zero, List.set_cons_succ]
            refine fld_taken_nil ?_
            refine fld_alone (i := 1) (by kernel_rfl) rfl (by rfl) (fun K hK => ?_)
            go_simp
            refine (flag_all w.heap.size s p false _ p' _ _ HV.out ?_ hs).mono ?_
            · exact hrA
            rintro e w5 ⟨rfl, hr5, hk5⟩
            obtain ⟨y2, y3, hb5⟩ := HK.out w5 hk5
            have y4 := (Rd.cells hr5).2.2
            go_wp2_with fail
            refine hK.out _ _ y2 ?_
            clear hK K hHeld hx0
            have hHeld5 := y2
            refine fld_takes [5, 6, 7, 8, 9, 10, 11] _ 0 _ _ _ (by kernel_rfl) (fun _ d _ _ _ h => by cases d <;> exact h) (by rfl) (by kernel_rfl) (by assumption) ?_
            refine fld_taken (v := ?_) rfl (by rfl) (fun w' hw' => ?_) ?_
            rotate_left
            · (go_simp <;> with_reducible rfl)
            simp only [Act.put, List.getElem_toArray, List.getElem_cons_succ, List.getElem_cons_zero, List.setIfInBounds_toArray, List.set_cons_zero, List.set_cons_succ]
            refine fld_taken (v := ?_) rfl (by rfl) (fun w' hw' => ?_) ?_
            rotate_left
            · (go_simp <;> with_reducible rfl)
            simp only [Act.put, List.getElem_toArray, List.getElem_cons_succ, List.getElem_cons_zero, List.setIfInBounds_toArray, List.set_cons_zero, List.set_cons_succ]
            refine fld_skipped rfl (by rfl) ?_
            simp only [Act.put, List.getElem_toArray, List.getElem_cons_succ, List.getElem_cons_zero, List.setIfInBounds_toArray, List.set_cons_zero, List.set_cons_succ]
            refine fld_skipped rfl (by rfl) ?_
            simp only [Act.put, List.getElem_toArray, List.getElem_cons_succ, List.getElem_cons_zero, List.setIfInBounds_toArray, List.set_cons_zero, List.set_cons_succ]
            refine fld_skipped rfl (by rfl) ?_
            simp only [Act.put, List.getElem_toArray, List.getElem_cons_succ, List.getElem_cons_zero, List.setIfInBounds_toArray, List.set_cons_zero, List.set_cons_succ]
            refine fld_skipped rfl (by rfl) ?_
            simp only [Act.put, List.getElem_toArray, List.getElem_cons_succ, List.getElem_cons_zero, List.setIfInBounds_toArray, List.set_cons_zero, List.set_cons_succ]
            refine fld_taken (v := ?_) rfl (by rfl) (fun w' hw' => ?_) ?_
            rotate_left
            · (go_simp <;> with_reducible rfl)
            simp only [Act.put, List.getElem_toArray, List.getElem_cons_succ, List.getElem_cons_zero, List.setIfInBounds_toArray, List.set_cons_zero, List.set_cons_succ]
            refine fld_taken_nil ?_
            refine wpAnyH_done (by kernel_rfl) ?_ _
            clear y2 y3 y4 hHeld5
            go_wp2
            go_ret
            exact ⟨rfl, hb5⟩
    · have hke : k = len := by omega
      have hdr : l.drop k = [] := List.drop_eq_nil_of_le (by have := HLEN.out; omega)
      obtain ⟨er, he⟩ := endIs_of s p false
      have HE := Lib.hid he
      have HF : Hid ((er == 0) = rb) := by
        show _ = rb
        rw [HR.out, hdr]
        rcases he with ⟨_, h1, rfl⟩ | ⟨h1, rfl⟩
        · simp [readsB, h1]
        · rcases h1 with h1 | h1
          · cases h1
          · simp [readsB, h1]
      clear hlt hdr he HR HRB
      go_wp2_with fail
      refine (end_all w.heap.size s p false er _ HE.out hr).mono ?_
      rintro e w5 ⟨rfl, qn, rfl⟩
      have hf := HF.out
      go_wp2
      go_ret
      exact ⟨rfl, hbw.drewN' _⟩

end Go.Proofs.Ytkeekecaojpkjaa
