/-
  The contract of the document's Great: what it says of a batch. Conditions: those that the theorem names.
-/
import Derived.Test.YtfcifblbapadpaaRecMay
namespace Go.Proofs.Ytfcifblbapadpaa
open Go.RowKit

def grt (r : Rc) : Nat := min r.k.size 5000 + min r.v.size 5000
def grts (l : List Rc) : Nat := (l.map grt).sum
theorem grts_step {l : List Rc} {k : Nat} {r : Rc} (h : l[k]? = some r) : grts (l.take (k + 1)) = grts (l.take k) + grt r := by
  rw [List.take_add_one, h]
  simp [grts]
theorem grts_mem {l : List Rc} {r : Rc} (h : r ∈ l) : grt r ≤ grts l := by
  induction l with
  | nil => cases h
  | cons a l ih =>
    have e : grts (a :: l) = grt a + grts l := by simp [grts]
    rcases List.mem_cons.1 h with rfl | h
    · omega
    · have := ih h; omega
/-- What 'not too great' says. -/
def Fits (n : Nat) (rs : List Rc) : Prop := n ≤ 60 ∧ ∀ r ∈ rs, r.k.size ≤ 4000 ∧ r.v.size ≤ 4000
theorem fits_of {rs : List Rc} {n : Nat} (hn : n ≤ 60) (h : grts rs ≤ 4000) : Fits n rs :=
  ⟨hn, fun r hr => by have := grts_mem hr; unfold grt at this; omega⟩

set_option maxRecDepth 100000 in
set_option maxHeartbeats 400000 in
theorem great_any (A : Option Addr) (n c B : Nat) (rs : List Rc) (pid ep sq : Int) (tx : Bool) (w : World) (hn : rs.length = n) (hs : Seen w B A (rcells rs)) (hB : B ≤ w.heap.size) (hmax : n ≤ 9223372036854775807)
    (hsz : ∀ y ∈ rs, y.k.size ≤ 9223372036854775807 ∧ y.v.size ≤ 9223372036854775807) :
    Calls Try.prog 5 #[.agg #[.int .i64 pid, .int .i64 ep, .int .i64 sq, .bool tx, .slice A n c]] w fun e w' => ∃ b : Bool, e = .returned (.bool b) ∧ (b = false → Fits n rs) ∧ Below w.heap.size w w' := by
  have HN := Lib.hid hn
  clear hn
  have hnew := Var.new w #[.int .i64 pid, .int .i64 ep, .int .i64 sq, .bool tx, .slice A n c] 25
  have hbel := below_new (w := w) (.cells #[.int .i64 pid, .int .i64 ep, .int .i64 sq, .bool tx, .slice A n c] 25)
  go_enter Try.func5, Try.ntmps5
  go_wp2
  obtain ⟨W2, hW2⟩ : ∃ W2, W2 = w.alloc (.cells #[.int .i64 pid, .int .i64 ep, .int .i64 sq, .bool tx, .slice A n c] 25) := ⟨_, rfl⟩
  rw [← hW2] at hnew hbel
  rw [← hW2]
  clear hW2
  have hz := hbel.size
  have hsa := hs.below (hbel.mono hB)
  go_loopw [3, 4] (fun z i wr => ∃ (k v : Nat), k ≤ n ∧ k ≤ 61 ∧ v ≤ 10000 * k ∧ i = .int .i64 k ∧ z = .int .i64 v ∧ Hid (v = grts (rs.take k)) ∧ Below W2.heap.size W2 wr) (fun _ i _ => n - (intOf i).toNat)
  case atStart => exact ⟨0, 0, by omega, by omega, by omega, rfl, rfl, (by show _ = _; simp [grts]), Below.refl _ _⟩
  case round =>
    obtain ⟨k, v, hk, hk61, hv, rfl, rfl, HV, hbw⟩ := hrel
    have hbf := hbel.trans (hbw.mono hz)
    obtain ⟨d0, d1, d2, d3, d4, f1⟩ := (hnew.below hbw hnew.lt).cells5
    have l1 : w.heap.size < wr.heap.size := Nat.lt_of_lt_of_le hnew.lt hbw.size
    clear d0 d1 d2 d3
    by_cases hgo : k < n ∧ k ≤ 60
    · obtain ⟨hlt, hk60⟩ := hgo
      obtain ⟨r, hr⟩ := rec_here HN.out hlt
      obtain ⟨b1, o1, rfl, hb1, p0, p1⟩ := rec_at (hsa.below (hbw.mono (Nat.le_trans hB hz))) hr
      obtain ⟨z0, z1⟩ := hsz r (List.mem_of_getElem? hr)
      have hw1 : b1 < wr.heap.size := by omega
      have HS := Lib.hid (grts_step hr)
      obtain ⟨rk, rv⟩ := r
      simp only at p0 p1 z0 z1
      clear hr
      have HZ : Hid (v + min rk.size 5000 + min rv.size 5000 = grts (rs.take (k + 1))) := by show _ = _; rw [HS.out, ← HV.out]; unfold grt; simp only; omega
      clear HS HV
      by_cases s1 : rk.size ≤ 5000 <;> by_cases s2 : rv.size ≤ 5000
      all_goals
        go_wp2
        go_quiet (fail)
        go_wp2
        refine ⟨⟨k + 1, v + min rk.size 5000 + min rv.size 5000, by omega, by omega, by omega, by go_num, by congr 1; omega, HZ, hbw.drewN' nq⟩, by simp [intOf]; omega⟩
    · have hguard : k < n → 61 ≤ k := fun h => by
        rcases Nat.lt_or_ge k 61 with h' | h'
        · exact absurd ⟨h, by omega⟩ hgo
        · exact h'
      by_cases hbig : 60 < n
      · have y1 : decide ((60 : Int) < (n : Int)) = true := by simp; omega
        by_cases hkl : k < n
        · have hk60 : decide ((k : Int) ≤ 60) = false := bool_dec _ (by have := hguard hkl; omega)
          clear hgo hguard
          go_wp2
          go_ret
          exact ⟨true, rfl, by simp, hbf⟩
        · clear hgo hguard
          go_wp2
          go_ret
          exact ⟨true, rfl, by simp, hbf⟩
      · have y1 : decide ((60 : Int) < (n : Int)) = false := bool_dec _ (by omega)
        have hkl : k = n := by
          rcases Nat.lt_or_ge k n with h' | h'
          · have := hguard h'; omega
          · omega
        have hnk : ¬ k < n := by omega
        by_cases hmany : 4000 < v
        · have y2 : decide ((4000 : Int) < (v : Int)) = true := by simp; omega
          clear hgo hguard hkl
          go_wp2
          go_ret
          exact ⟨true, rfl, by simp, hbf⟩
        · have y2 : decide ((4000 : Int) < (v : Int)) = false := bool_dec _ (by omega)
          have HF : Hid (Fits n rs) := fits_of (by omega) (by
            have h1 := HV.out
            have h2 := HN.out
            rw [List.take_of_length_le (by omega)] at h1
            omega)
          clear hgo hguard hkl
          go_wp2
          go_ret
          exact ⟨false, rfl, fun _ => HF.out, hbf⟩
end Go.Proofs.Ytfcifblbapadpaa
