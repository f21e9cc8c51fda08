/-
  The contract of the document's Great over replies. Conditions: those that the theorem names.
-/
import Derived.Test.YtplpagnnlggfgaaDoorRepMem
namespace Go.Proofs.YtplpagnnlggfgaaDoor
open Go.RowKit

/-- Rows that the statements go through. -/
def Mild (x : Rp) : Prop := x.rows.length ≤ 200 ∧ ∀ r ∈ x.rows, r.k.size ≤ 200 ∧ r.v.size ≤ 200
set_option maxRecDepth 100000 in
set_option maxHeartbeats 2000000 in
theorem pgreat_any (x : Rp) (A : Option Addr) (n c B : Nat) (g : Bool) (w : World) (hx : RIn w B x A n c) (hB : B ≤ w.heap.size) (hg : g = false ↔ Mild x) :
    Calls Tryd.prog 6 #[.agg (rpvals x A n c)] w fun e w' => e = .returned (.bool g) ∧ Below w.heap.size w w' := by
  obtain ⟨kind, e, pid, ep, off, l⟩ := x
  obtain ⟨hlen, hseen, hcap, hmax, hz⟩ := hx
  simp only at hlen hseen hz
  simp only [rpvals]
  have hyes : ¬ Mild ⟨kind, e, pid, ep, off, l⟩ → g = true := fun h => by
    rcases g with _ | _
    · exact absurd (hg.1 rfl) h
    · rfl
  obtain ⟨W0, hW0⟩ : ∃ W0, W0 = w.alloc (.cells #[.int .i8 kind, .int .i64 e, .int .i64 pid, .int .i64 ep, .int .i64 off, .slice A n c] 26) := ⟨_, rfl⟩
  have v0 : Var W0 w.heap.size 26 #[.int .i8 kind, .int .i64 e, .int .i64 pid, .int .i64 ep, .int .i64 off, .slice A n c] := by rw [hW0]; exact Var.new _ _ _
  have b0 : Below w.heap.size w W0 := by rw [hW0]; exact below_new _
  have hs0 := hseen.below (b0.mono hB)
  have c5 := v0.cell 5 rfl
  have z0 := v0.lt
  have HW0 := Lib.hid hW0
  have HLEN := Lib.hid hlen
  have HG := Lib.hid hg
  clear hW0 hlen hseen hg
  by_cases hn : 200 < n
  · obtain rfl : g = true := hyes fun h => by have := h.1; have := HLEN.out; simp only at *; omega
    have y : decide ((200 : Int) < (n : Int)) = true := by simp; omega
    go_enter Tryd.func6, Tryd.ntmps6
    go_upto_region 1 with fail
    rw [← HW0.out]
    go_wp2
    go_ret
    exact ⟨rfl, b0⟩
  · have y : decide ((200 : Int) < (n : Int)) = false := by simp; omega
    go_enter Tryd.func6, Tryd.ntmps6
    go_upto_region 1 with fail
    rw [← HW0.out]
    go_wp2
    go_loop [3] (fun i => ∃ k : Nat, k ≤ n ∧ i = .int .i64 k ∧ Hid (∀ r ∈ l.take k, r.k.size ≤ 200 ∧ r.v.size ≤ 200)) (fun i => n - (intOf i).toNat)
    case atStart => exact ⟨0, Nat.zero_le _, rfl, fun r hr => by simp at hr⟩
    case round =>
      obtain ⟨k, hk, rfl, HP⟩ := hrel
      by_cases hlt : k < n
      · obtain ⟨r, hr⟩ := row_here HLEN.out hlt
        obtain ⟨b1, o1, rfl, hb1, p0, p1, p2, p3, p4⟩ := row_at hs0 hr
        have hzr := hz r (List.mem_of_getElem? hr)
        have hbz := b0.size
        have hw1 : b1 < W0.heap.size := by omega
        have hnxt : (r.k.size ≤ 200 ∧ r.v.size ≤ 200) → ∀ q ∈ l.take (k + 1), q.k.size ≤ 200 ∧ q.v.size ≤ 200 := fun h q hq => by
          rw [List.take_add_one, hr] at hq
          rcases List.mem_append.1 hq with hq | hq
          · exact HP.out q hq
          · simp at hq
            rw [hq]
            exact h
        have hout : ¬ (r.k.size ≤ 200 ∧ r.v.size ≤ 200) → g = true := fun h => hyes fun hm => h (hm.2 r (List.mem_of_getElem? hr))
        have HNXT := Lib.hid hnxt
        obtain ⟨hz1, hz2⟩ := hzr
        clear hr hnxt p0 p1 p2
        obtain ⟨ra, rp, rs, rk, rv⟩ := r
        simp only at p3 p4 hz1 hz2 hout
        by_cases h1 : 200 < rk.size
        · obtain rfl : g = true := hout (by omega)
          have y1 : decide ((200 : Int) < (rk.size : Int)) = true := by simp; omega
          clear hout hyes
          go_wp2
          go_ret
          exact ⟨rfl, b0⟩
        · have y1 : decide ((200 : Int) < (rk.size : Int)) = false := by simp; omega
          by_cases h2 : 200 < rv.size
          · obtain rfl : g = true := hout (by omega)
            have y2 : decide ((200 : Int) < (rv.size : Int)) = true := by simp; omega
            clear hout hyes
            go_wp2
            go_ret
            exact ⟨rfl, b0⟩
          · have y2 : decide ((200 : Int) < (rv.size : Int)) = false := by simp; omega
            have HN2 := Lib.hid (HNXT.out ⟨by simp only; omega, by simp only; omega⟩)
            clear hout hyes HNXT
            go_wp2
            go_round
            case rel => exact ⟨k + 1, by omega, by go_num, HN2⟩
            case measure => simp [intOf]; omega
      · have hkn : k = n := by omega
        obtain rfl : g = false := HG.out.2 ⟨by have := HLEN.out; simp only; omega, fun r hr => HP.out r (by rw [List.take_of_length_le (by have := HLEN.out; omega)]; exact hr)⟩
        go_wp2
        go_ret
        exact ⟨rfl, b0⟩
end Go.Proofs.YtplpagnnlggfgaaDoor
