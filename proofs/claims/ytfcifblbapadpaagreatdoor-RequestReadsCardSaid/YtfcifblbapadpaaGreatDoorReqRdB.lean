/-
  The contract of the method by which request's reader reads a batch. Conditions: those that the theorem names.
-/
import Derived.Test.YtfcifblbapadpaaGreatDoorReqRd
namespace Go.Proofs.YtfcifblbapadpaaGreatDoor
open Go.RowKit

/-- A struct stored into a part of a block. -/
theorem wpList_store_part {P : Program} {w : World} {g T ty o : Nat} {cs cells : Array Value} {ops : Array Oper} {l : List Oper} {op : Oper} {a : Act} {Q : Exit → Act → World → Prop} (hgd : op.guard = none) (x y : Operand) (ho : op.op = .store ty x y) (pre rest : List Value)
    (hx : a.eval x = .pointer (some ⟨g, o, none⟩)) (hy : a.eval y = .agg cells) (hv : Var w g T cs) (hcs : cs = (pre ++ rest).toArray) (hpre : pre.length = o) (hs : rest.length = cells.size) (hi : (P.info? ty).map (·.size) = some cells.size) (h1 : cells.all (·.oneCell') = true)
    (h : ∀ w', Var w' g T (pre ++ cells.toList).toArray → Only g w w' → wpList P ops Q l (a.put op.dst undef) w') : wpList P ops Q (op :: l) a w := by
  subst hcs
  refine wpList_store_mid hgd ty x y ho g o cells hx hy (fun j hj => ?_) hi h1 (h _ (setCells_var cells.toList o pre rest w hpre (by simpa using hs) hv) (setCells_only _ _ _))
  have hlt : o + j < (pre ++ rest).toArray.size := by simp; omega
  exact ⟨by rw [hv.cell (o + j) (Array.getElem?_eq_getElem hlt)]; rfl, hv.free _⟩
theorem text_size {s : ByteArray} {p p' : Nat} {bad b1 : Bool} {hi : Int} {v : ByteArray} (h : TextIs s p bad hi v p' b1) (h0 : 0 ≤ hi) : (v.size : Int) ≤ hi := by
  rcases h with ⟨_, n, k, _, h1, h2, rfl, _⟩ | ⟨_, rfl, _⟩
  · rw [extract_size _ _ _ (by omega) h2]
    omega
  · simpa [ByteArray.size] using h0
theorem read_small {t : ByteArray} {b : Bt} {er : Int} (h : ReadIs t b er) : b.rs.length ≤ 4 ∧ ∀ r ∈ b.rs, r.Good := by
  rcases h with ⟨-, hg, -⟩ | ⟨-, rfl, -⟩
  · exact ⟨hg.2.2.1.2, hg.2.2.2.2⟩
  · exact ⟨by simp [noBt], fun r hr => by cases hr⟩
set_option maxRecDepth 100000 in
set_option maxHeartbeats 2000000 in
theorem m_batch (R g : Nat) (s : ByteArray) (p : Nat) (x x' : Rq) (p' : Nat) (bad' : Bool) (A : Option Addr) (n c : Nat) (w : World) (h : FxIs true s p false x .batch x' p' bad') (hr : RqAt w R g s p x A n c) (hx : s.size ≤ 1000000) (hp : p ≤ s.size) :
    Calls Tryz.prog 38 #[.pointer (some ⟨R, 0, none⟩)] w (MRes R g s x' p' bad' w) := by
  obtain ⟨t, b1, bt, er, ht, hrd, rfl, hco⟩ := h
  have HR := Lib.hid hr
  have hl := hr.lt
  have hz := hr.v.lt
  have hts := text_size ht (by omega)
  obtain ⟨hl4, hgood⟩ := read_small hrd
  have HT := Lib.hid ht
  have HRD := Lib.hid hrd
  have HC := Lib.hid hco
  have HB1 : Hid (bad' = false → b1 = false) := by
    intro hb
    subst hb
    rcases hco with ⟨rfl, -⟩ | ⟨-, h9⟩
    · cases b1
      · rfl
      · have := text_bad ht
        subst this
        rcases hrd with ⟨hb, -, -⟩ | ⟨-, -, h9⟩
        · have := congrArg List.length hb
          have hp := Bt.enc_pos bt
          rw [bytesOf_length] at this
          rw [← this] at hp
          simp [ByteArray.size] at hp
        · cases h9
    · cases h9
  have HG := Lib.hid hgood
  have HL4 := Lib.hid hl4
  obtain ⟨kind, tid, timeout, pid, ep, part, group, off, most, yes, ⟨bp, be, bs, btx, brs⟩⟩ := x
  obtain ⟨ap, ae, aq, atx, ars⟩ := bt
  have hv : Var w R 59 #[.pointer (some ⟨g, 0, none⟩), .int .i8 kind, .int .i64 tid, .int .i64 timeout, .int .i64 pid, .int .i64 ep, .int .i64 part, .int .i64 group, .int .i64 off, .int .i64 most, .bool yes, .int .i64 bp, .int .i64 be, .int .i64 bs, .bool btx, .slice A n c] := hr.v
  have c0 := hv.cell 0 rfl
  clear ht hrd hco hgood hl4
  go_enter Tryz.func38, Tryz.ntmps38
  go_wp2_with fail
  refine (text_all g s p false 1024 t p' b1 w HT.out hr.rd hx hp).mono ?_
  rintro e w1 ⟨rfl, hr1, hk1⟩
  have v1 := hv.kept hk1 (by simp; omega)
  clear c0 hv hr
  go_wp2_with fail
  refine (read_any t ⟨ap, ae, aq, atx, ars⟩ er w1 HRD.out (by omega)).mono ?_
  rintro e w2 ⟨A2, c2, rfl, ho2, hb2⟩
  simp only at ho2 ⊢
  obtain ⟨m, hm⟩ : ∃ m, m = ars.length := ⟨_, rfl⟩
  rw [← hm] at ho2 ⊢
  have HMM := Lib.hid hm
  clear hm
  have v2 := v1.below hb2 v1.lt
  have hr2 : Rd 78 w2 g s p' b1 := Var.below hr1 hb2 (Var.lt hr1)
  have k2 : Kept [g] w w2 := hk1.trans (Kept.of_below hb2)
  obtain ⟨W3, hW3⟩ : ∃ W3, W3 = w2.alloc (.cells #[.int .i64 ap, .int .i64 ae, .int .i64 aq, .bool atx, .slice A2 m c2] 27) := ⟨_, rfl⟩
  have v3 : Var W3 w2.heap.size 27 #[.int .i64 ap, .int .i64 ae, .int .i64 aq, .bool atx, .slice A2 m c2] := by rw [hW3]; exact Var.new _ _ _
  have hb3 : Below w2.heap.size w2 W3 := by rw [hW3]; exact below_new _
  have hgw1 : g < w1.heap.size := Var.lt hr1
  have hz1 : w.heap.size ≤ w1.heap.size := hk1.size
  have hz2 := hb2.size
  have hR2 := v2.lt
  have v3R := v2.below hb3 hR2
  have HW3 := Lib.hid hW3
  have hgR : g < W3.heap.size := by have := hb3.size; omega
  have hv3 : Var W3 R 59 #[.pointer (some ⟨g, 0, none⟩), .int .i8 kind, .int .i64 tid, .int .i64 timeout, .int .i64 pid, .int .i64 ep, .int .i64 part, .int .i64 group, .int .i64 off, .int .i64 most, .bool yes, .int .i64 bp, .int .i64 be, .int .i64 bs, .bool btx, .slice A n c] := v3R
  have r3 : Rd 78 W3 g s p' b1 := Var.below hr2 hb3 (Var.lt hr2)
  have kk3 : Kept [R, g] w W3 := (k2.mono (by intro x hx; simp at hx; subst hx; exact .inl (by simp))).trans (Kept.of_below hb3)
  have q3 : QOwn (R + 1) W3 ⟨kind, tid, timeout, pid, ep, part, group, off, most, yes, ⟨ap, ae, aq, atx, ars⟩⟩ A2 m c2 := QOwn.next ⟨own_down ho2 (by have := hz1; omega), HMM.out.symm, by have := HL4.out; have := HMM.out; omega, HG.out⟩ hb3
  obtain ⟨b0, b1', b2, b3, b4⟩ : W3.cell? ⟨w2.heap.size, 0, none⟩ = some (.int .i64 ap) ∧ W3.cell? ⟨w2.heap.size, 1, none⟩ = some (.int .i64 ae) ∧ W3.cell? ⟨w2.heap.size, 2, none⟩ = some (.int .i64 aq) ∧ W3.cell? ⟨w2.heap.size, 3, none⟩ = some (.bool atx) ∧ W3.cell? ⟨w2.heap.size, 4, none⟩ = some (.slice A2 m c2) := ⟨v3.cell 0 rfl, v3.cell 1 rfl, v3.cell 2 rfl, v3.cell 3 rfl, v3.cell 4 rfl⟩
  clear hW3 v3 hb3 v3R ho2 v2 hr2 k2 v1 hr1 hk1
  go_upto_region 2 with fail
  rw [← HW3.out]
  go_wp2_with (refine wpList_store_part rfl _ _ rfl [.pointer (some ⟨g, 0, none⟩), .int .i8 kind, .int .i64 tid, .int .i64 timeout, .int .i64 pid, .int .i64 ep, .int .i64 part, .int .i64 group, .int .i64 off, .int .i64 most, .bool yes] [.int .i64 bp, .int .i64 be, .int .i64 bs, .bool btx, .slice A n c] rfl rfl hv3 rfl rfl rfl (by kernel_rfl) (by simp [Value.oneCell']) ?_; intro W4 v4 o4)
  have hr4 : Rd 78 W4 g s p' b1 := o4.var r3 (by omega)
  have k4 : Kept [R, g] w W4 := o4.kept kk3 (.inl (by simp))
  have q4 := QOwn.only (g := R) q3 o4 (Nat.lt_succ_self R)
  refine (check_any _ er bad' W4 HC.out).mono ?_
  rintro e w5 ⟨he, hb5⟩
  have HM : Hid (MRes R g s ⟨kind, tid, timeout, pid, ep, part, group, off, most, yes, ⟨ap, ae, aq, atx, ars⟩⟩ p' bad' w e w5) := by
    refine ⟨he.low k4.size, k4.trans (Kept.of_below hb5), fun hb => ⟨A2, m, c2, v4.below hb5 v4.lt, ?_, q4.next hb5, hl⟩⟩
    rw [HB1.out hb] at hr4
    exact Var.below hr4 hb5 (Var.lt hr4)
  rcases he with ⟨rfl, rfl⟩ | ⟨rfl, hh, fld, rfl, -⟩
  · clear v4 hr4 q4 HT HRD HR HW3 hv3 r3 q3
    go_wp2
    go_ret
    exact HM.out
  · clear v4 hr4 q4 HT HRD HR HW3 hv3 r3 q3
    go_wp2
    go_ret
    exact HM.out
end Go.Proofs.YtfcifblbapadpaaGreatDoor
