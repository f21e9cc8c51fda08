/-
  The contract of request's written: what a request's bytes are put together of. Conditions: those that each theorem names.
-/
import Derived.Test.YtfcifblbapadpaaGreatDoorReqWr
namespace Go.Proofs.YtfcifblbapadpaaGreatDoor
open Go.RowKit

/-- One field more; t is the batch as a text. -/
def wrF (x : Rq) (t : ByteArray) (ys : List UInt8) : Fd → List UInt8
  | .tid => put ys x.tid
  | .timeout => put ys x.timeout
  | .pid => put ys x.pid
  | .ep => put ys x.ep
  | .part => put ys x.part
  | .group => put ys x.group
  | .off => put ys x.off
  | .most => put ys x.most
  | .yes => ys ++ [flagByte x.yes]
  | .batch => ys ++ (VP.enc t.size ++ bytesOf t)
  | .fin => ys
def wrAll (x : Rq) (t : ByteArray) : List UInt8 := (fdsOf x.kind).foldl (wrF x t) (put [] x.kind)
theorem bytes_size {b : Bt} {t : ByteArray} {er : Int} (ht : BytesIs b t er) : t.size ≤ 160 := by
  rcases ht with ⟨hg, rfl, -⟩ | ⟨-, rfl, -⟩
  · have := Bt.enc_le hg
    rw [← bytesOf_length, bytesOf_mk]
    omega
  · simp [ByteArray.size]
theorem wrF_le {x : Rq} {t : ByteArray} (ht : t.size ≤ 160) (ys : List UInt8) (f : Fd) : (wrF x t ys f).length ≤ ys.length + 166 := by
  have h := fun n => put_le ys n
  cases f
  case yes => simp [wrF]
  case batch =>
    have := VP.enc_six (n := t.size) (by omega)
    simp only [wrF, List.length_append, bytesOf_length]
    omega
  case fin => simp [wrF]
  all_goals exact Nat.le_trans (h _) (by omega)
theorem wrFs_le {x : Rq} {t : ByteArray} (ht : t.size ≤ 160) : ∀ (fs : List Fd) (ys : List UInt8), (fs.foldl (wrF x t) ys).length ≤ ys.length + 166 * fs.length
  | [], ys => by simp
  | f :: fs, ys => by
    have h1 := wrFs_le (x := x) ht fs (wrF x t ys f)
    have h2 := wrF_le (x := x) ht ys f
    simp only [List.foldl_cons, List.length_cons] at h1 ⊢
    omega
theorem wrAll_le {x : Rq} {t : ByteArray} {er : Int} (ht : BytesIs x.b t er) : (wrAll x t).length ≤ 836 := by
  have h1 := wrFs_le (x := x) (bytes_size ht) (fdsOf x.kind) (put [] x.kind)
  have h2 := put_le [] x.kind
  have h3 := fds_five x.kind
  simp only [List.length_nil] at h2
  unfold wrAll
  omega
theorem wrFs_enc {x : Rq} {t : ByteArray} {er : Int} (ht : BytesIs x.b t er) : ∀ (fs : List Fd) (ys : List UInt8), (∀ f ∈ fs, x.Ok true f) → fs.foldl (wrF x t) ys = ys ++ encFs x fs
  | [], ys, _ => by simp [encFs]
  | f :: fs, ys, h => by
    have hf := h f (by simp)
    have he : wrF x t ys f = ys ++ x.encF f := by
      cases f
      case batch =>
        rcases ht with ⟨hg, rfl, -⟩ | ⟨hg, -⟩
        · simp only [wrF, Rq.encF, bytesOf_mk, ← bytesOf_length]
        · exact absurd hf hg
      case yes => rfl
      case fin => simp [wrF, Rq.encF]
      all_goals exact put_ok ⟨by have := hf.1; simp only [Fd.lo] at this; omega, by have := hf.2; simp only [Fd.hi] at this; omega⟩
    rw [List.foldl_cons, wrFs_enc ht fs _ (fun f hf' => h f (by simp [hf'])), he, encFs_cons, List.append_assoc]
/-- A valid one's are its bytes. -/
theorem wrAll_enc {x : Rq} {t : ByteArray} {er : Int} (ht : BytesIs x.b t er) (hx : x.Good) : wrAll x t = x.enc := by
  unfold wrAll Rq.enc
  rw [wrFs_enc ht _ _ hx.2.1, put_ok ⟨hx.1.1, by have := hx.1.2; omega⟩, List.nil_append]
theorem wq_new {w : World} : Wq (w.alloc (.cells #[.slice none 0 0] 74)) w.heap.size [] := ⟨_, 0, Var.new _ _ _, World.ownsRow_nil _ _ _ _, rfl⟩
/-- What written hands back. -/
def WrRes (w : World) (ys : List UInt8) (e : Ending) (w' : World) : Prop := ∃ A c l, e = .returned (.slice A l c) ∧ l = ys.length ∧ Seen w' w'.heap.size A (cells ys) ∧ l ≤ c ∧ Below w.heap.size w w'

set_option maxRecDepth 100000 in
set_option maxHeartbeats 1000000 in
theorem written_1 (tid timeout pid ep part group off most bp be bs : Int) (yes bt : Bool) (rs : List Rc) (A : Option Addr) (n c B : Nat) (t : ByteArray) (er : Int) (w : World) (hx : QIn w B (⟨1, tid, timeout, pid, ep, part, group, off, most, yes, ⟨bp, be, bs, bt, rs⟩⟩ : Rq) A n c) (hB : B ≤ w.heap.size) (ht : BytesIs ⟨bp, be, bs, bt, rs⟩ t er) :
    Calls Tryz.prog 20 #[.agg #[.int .i8 1, .int .i64 tid, .int .i64 timeout, .int .i64 pid, .int .i64 ep, .int .i64 part, .int .i64 group, .int .i64 off, .int .i64 most, .bool yes, .int .i64 bp, .int .i64 be, .int .i64 bs, .bool bt, .slice A n c]] w (WrRes w (wrAll (⟨1, tid, timeout, pid, ep, part, group, off, most, yes, ⟨bp, be, bs, bt, rs⟩⟩ : Rq) t)) := by
  obtain ⟨W0, hW0⟩ : ∃ W0, W0 = w.alloc (.cells #[.int .i8 1, .int .i64 tid, .int .i64 timeout, .int .i64 pid, .int .i64 ep, .int .i64 part, .int .i64 group, .int .i64 off, .int .i64 most, .bool yes, .int .i64 bp, .int .i64 be, .int .i64 bs, .bool bt, .slice A n c] 29) := ⟨_, rfl⟩
  have v0 : Var W0 w.heap.size 29 #[.int .i8 1, .int .i64 tid, .int .i64 timeout, .int .i64 pid, .int .i64 ep, .int .i64 part, .int .i64 group, .int .i64 off, .int .i64 most, .bool yes, .int .i64 bp, .int .i64 be, .int .i64 bs, .bool bt, .slice A n c] := by rw [hW0]; exact Var.new _ _ _
  have b0 : Below w.heap.size w W0 := by rw [hW0]; exact below_new _
  have hx0 := hx.below (b0.mono hB)
  have hB0 := Nat.le_trans hB b0.size
  have HTL := Lib.hid (bytes_size ht)
  have HT := Lib.hid ht
  have HX := Lib.hid hx0
  have HW0 := Lib.hid hW0
  clear hW0 hx ht hx0
  go_enter Tryz.func20, Tryz.ntmps20
  go_upto_region 1 with fail
  rw [← HW0.out]
  obtain ⟨g, hg⟩ : ∃ g, g = W0.heap.size := ⟨_, rfl⟩
  obtain ⟨W1, hW1⟩ : ∃ W1, W1 = W0.alloc (.cells #[.slice none 0 0] 74) := ⟨_, rfl⟩
  have hw1 : Wq W1 g [] := by rw [hW1, hg]; exact wq_new
  have hbn : Below W0.heap.size W0 W1 := by rw [hW1]; exact below_new _
  have v1 := v0.below hbn v0.lt
  have k1 : Kept [g] W0 W1 := Kept.of_below hbn
  have hgb : B ≤ g := by omega
  have hgz : w.heap.size < g := by have := v0.lt; omega
  have c0_0 := v0.cell 0 rfl
  have z0 := v0.lt
  go_wp2_with fail
  have hz1 : W0.heap.size + 1 = W1.heap.size := by rw [hW1, World.size_alloc]
  rw [← hW1, hz1, ← hg]
  have HG := Lib.hid hg
  clear hW1 hg hbn hz1 c0_0 z0
  refine (qnumbers_new W1 g [] [1] 1 hw1 rfl (by omega) (by simp)).mono ?_
  rintro e W2 ⟨rfl, hw2, q2⟩
  have v2 := v1.kept q2 (by simp; omega)
  have k2 := k1.trans q2
  have HL2 : Hid ((puts [] [1]).length ≤ 6) := by
    have h1 := puts_le [1] []
    simp only [List.length_cons, List.length_nil] at h1
    show _ ≤ _
    omega
  clear  v1 q2 hw1
  have c2_0 := v2.cell 0 rfl
  have c2_1 := v2.cell 1 rfl
  have c2_2 := v2.cell 2 rfl
  have z2 := v2.lt
  go_wp2_with fail
  refine (qnumbers_new W2 g _ [tid, timeout] 2 hw2 rfl (by omega) (by have := HL2.out; omega)).mono ?_
  rintro e W3 ⟨rfl, hw3, q3⟩
  have v3 := v2.kept q3 (by simp; omega)
  have k3 := k2.trans q3
  have HL3 : Hid ((puts (puts [] [1]) [tid, timeout]).length ≤ 18) := by
    have h1 := puts_le [tid, timeout] (puts [] [1])
    simp only [List.length_cons, List.length_nil] at h1
    have h2 := HL2.out
    show _ ≤ _
    omega
  clear c2_0 c2_1 c2_2 z2 v2 q3 hw2
  obtain ⟨A2, c2, ly, hv, hs2, hly, hc2, -⟩ := hw3.get
  obtain ⟨p0, hf0⟩ : W3.cell? ⟨g, 0, none⟩ = some (.slice A2 ly c2) ∧ W3.frozen? ⟨g, 0, none⟩ = false := ⟨hv.cell 0 rfl, hv.free 0⟩
  have z3 := v3.lt
  have zz := hv.lt
  have bz := b0.trans ((k3.below (Nat.le_refl _) (by simp; exact Nat.le_of_eq HG.out.symm)).mono b0.size)
  have HEND : Hid ((puts (puts [] [1]) [tid, timeout]) = wrAll (⟨1, tid, timeout, pid, ep, part, group, off, most, yes, ⟨bp, be, bs, bt, rs⟩⟩ : Rq) t) := by show _ = _; simp only [wrAll, fdsOf, puts, wrF, List.foldl_cons, List.foldl_nil, if_true]
  rw [HEND.out] at hs2 hly
  have HLY := Lib.hid hly
  have HS2 := Lib.hid hs2
  clear hly hs2
  go_wp2
  go_ret
  exact ⟨A2, c2, ly, rfl, HLY.out, HS2.out, hc2, bz⟩

set_option maxRecDepth 100000 in
set_option maxHeartbeats 1000000 in
theorem written_2 (tid timeout pid ep part group off most bp be bs : Int) (yes bt : Bool) (rs : List Rc) (A : Option Addr) (n c B : Nat) (t : ByteArray) (er : Int) (w : World) (hx : QIn w B (⟨2, tid, timeout, pid, ep, part, group, off, most, yes, ⟨bp, be, bs, bt, rs⟩⟩ : Rq) A n c) (hB : B ≤ w.heap.size) (ht : BytesIs ⟨bp, be, bs, bt, rs⟩ t er) :
    Calls Tryz.prog 20 #[.agg #[.int .i8 2, .int .i64 tid, .int .i64 timeout, .int .i64 pid, .int .i64 ep, .int .i64 part, .int .i64 group, .int .i64 off, .int .i64 most, .bool yes, .int .i64 bp, .int .i64 be, .int .i64 bs, .bool bt, .slice A n c]] w (WrRes w (wrAll (⟨2, tid, timeout, pid, ep, part, group, off, most, yes, ⟨bp, be, bs, bt, rs⟩⟩ : Rq) t)) := by
  obtain ⟨W0, hW0⟩ : ∃ W0, W0 = w.alloc (.cells #[.int .i8 2, .int .i64 tid, .int .i64 timeout, .int .i64 pid, .int .i64 ep, .int .i64 part, .int .i64 group, .int .i64 off, .int .i64 most, .bool yes, .int .i64 bp, .int .i64 be, .int .i64 bs, .bool bt, .slice A n c] 29) := ⟨_, rfl⟩
  have v0 : Var W0 w.heap.size 29 #[.int .i8 2, .int .i64 tid, .int .i64 timeout, .int .i64 pid, .int .i64 ep, .int .i64 part, .int .i64 group, .int .i64 off, .int .i64 most, .bool yes, .int .i64 bp, .int .i64 be, .int .i64 bs, .bool bt, .slice A n c] := by rw [hW0]; exact Var.new _ _ _
  have b0 : Below w.heap.size w W0 := by rw [hW0]; exact below_new _
  have hx0 := hx.below (b0.mono hB)
  have hB0 := Nat.le_trans hB b0.size
  have HTL := Lib.hid (bytes_size ht)
  have HT := Lib.hid ht
  have HX := Lib.hid hx0
  have HW0 := Lib.hid hW0
  clear hW0 hx ht hx0
  go_enter Tryz.func20, Tryz.ntmps20
  go_upto_region 1 with fail
  rw [← HW0.out]
  obtain ⟨g, hg⟩ : ∃ g, g = W0.heap.size := ⟨_, rfl⟩
  obtain ⟨W1, hW1⟩ : ∃ W1, W1 = W0.alloc (.cells #[.slice none 0 0] 74) := ⟨_, rfl⟩
  have hw1 : Wq W1 g [] := by rw [hW1, hg]; exact wq_new
  have hbn : Below W0.heap.size W0 W1 := by rw [hW1]; exact below_new _
  have v1 := v0.below hbn v0.lt
  have k1 : Kept [g] W0 W1 := Kept.of_below hbn
  have hgb : B ≤ g := by omega
  have hgz : w.heap.size < g := by have := v0.lt; omega
  have c0_0 := v0.cell 0 rfl
  have z0 := v0.lt
  go_wp2_with fail
  have hz1 : W0.heap.size + 1 = W1.heap.size := by rw [hW1, World.size_alloc]
  rw [← hW1, hz1, ← hg]
  have HG := Lib.hid hg
  clear hW1 hg hbn hz1 c0_0 z0
  refine (qnumbers_new W1 g [] [2] 1 hw1 rfl (by omega) (by simp)).mono ?_
  rintro e W2 ⟨rfl, hw2, q2⟩
  have v2 := v1.kept q2 (by simp; omega)
  have k2 := k1.trans q2
  have HL2 : Hid ((puts [] [2]).length ≤ 6) := by
    have h1 := puts_le [2] []
    simp only [List.length_cons, List.length_nil] at h1
    show _ ≤ _
    omega
  clear  v1 q2 hw1
  have c2_0 := v2.cell 0 rfl
  have c2_5 := v2.cell 5 rfl
  have z2 := v2.lt
  go_wp2_with fail
  refine (qnumbers_new W2 g _ [part] 1 hw2 rfl (by omega) (by have := HL2.out; omega)).mono ?_
  rintro e W3 ⟨rfl, hw3, q3⟩
  have v3 := v2.kept q3 (by simp; omega)
  have k3 := k2.trans q3
  have HL3 : Hid ((puts (puts [] [2]) [part]).length ≤ 12) := by
    have h1 := puts_le [part] (puts [] [2])
    simp only [List.length_cons, List.length_nil] at h1
    have h2 := HL2.out
    show _ ≤ _
    omega
  clear c2_0 c2_5 z2 v2 q3 hw2
  have c3_10 := v3.cell 10 rfl
  have c3_11 := v3.cell 11 rfl
  have c3_12 := v3.cell 12 rfl
  have c3_13 := v3.cell 13 rfl
  have c3_14 := v3.cell 14 rfl
  have z3 := v3.lt
  go_wp2_with fail
  have hx3 := HX.out.below (k3.below hB0 (by simp; exact hgb))
  refine (qbatch_any g _ ⟨bp, be, bs, bt, rs⟩ t er A n c B W3 hw3 (by have := HL3.out; omega) HT.out hx3.len hx3.seen (Nat.le_trans hB0 k3.size) hx3.max hx3.sizes).mono ?_
  rintro e W4 ⟨rfl, hw4, q4⟩
  have v4 := v3.kept q4 (by simp; omega)
  have k4 := k3.trans q4
  have HL4 : Hid ((putB (puts (puts [] [2]) [part]) ⟨bp, be, bs, bt, rs⟩ t).length ≤ 178) := by
    have h2 := HL3.out
    show _ ≤ _
    have h3 := HTL.out
    have h4 := VP.enc_six (n := t.size) (by omega)
    simp only [putB, List.length_append, bytesOf_length]
    omega
  clear c3_10 c3_11 c3_12 c3_13 c3_14 z3 v3 q4 hw3
  obtain ⟨A2, c2, ly, hv, hs2, hly, hc2, -⟩ := hw4.get
  obtain ⟨p0, hf0⟩ : W4.cell? ⟨g, 0, none⟩ = some (.slice A2 ly c2) ∧ W4.frozen? ⟨g, 0, none⟩ = false := ⟨hv.cell 0 rfl, hv.free 0⟩
  have z4 := v4.lt
  have zz := hv.lt
  have bz := b0.trans ((k4.below (Nat.le_refl _) (by simp; exact Nat.le_of_eq HG.out.symm)).mono b0.size)
  have HEND : Hid ((putB (puts (puts [] [2]) [part]) ⟨bp, be, bs, bt, rs⟩ t) = wrAll (⟨2, tid, timeout, pid, ep, part, group, off, most, yes, ⟨bp, be, bs, bt, rs⟩⟩ : Rq) t) := by show _ = _; simp only [wrAll, fdsOf, puts, putB, wrF, List.foldl_cons, List.foldl_nil, if_true, if_false, Int.reduceEq]
  rw [HEND.out] at hs2 hly
  have HLY := Lib.hid hly
  have HS2 := Lib.hid hs2
  clear hly hs2
  go_wp2
  go_ret
  exact ⟨A2, c2, ly, rfl, HLY.out, HS2.out, hc2, bz⟩

set_option maxRecDepth 100000 in
set_option maxHeartbeats 1000000 in
theorem written_3 (tid timeout pid ep part group off most bp be bs : Int) (yes bt : Bool) (rs : List Rc) (A : Option Addr) (n c B : Nat) (t : ByteArray) (er : Int) (w : World) (hx : QIn w B (⟨3, tid, timeout, pid, ep, part, group, off, most, yes, ⟨bp, be, bs, bt, rs⟩⟩ : Rq) A n c) (hB : B ≤ w.heap.size) (ht : BytesIs ⟨bp, be, bs, bt, rs⟩ t er) :
    Calls Tryz.prog 20 #[.agg #[.int .i8 3, .int .i64 tid, .int .i64 timeout, .int .i64 pid, .int .i64 ep, .int .i64 part, .int .i64 group, .int .i64 off, .int .i64 most, .bool yes, .int .i64 bp, .int .i64 be, .int .i64 bs, .bool bt, .slice A n c]] w (WrRes w (wrAll (⟨3, tid, timeout, pid, ep, part, group, off, most, yes, ⟨bp, be, bs, bt, rs⟩⟩ : Rq) t)) := by
  obtain ⟨W0, hW0⟩ : ∃ W0, W0 = w.alloc (.cells #[.int .i8 3, .int .i64 tid, .int .i64 timeout, .int .i64 pid, .int .i64 ep, .int .i64 part, .int .i64 group, .int .i64 off, .int .i64 most, .bool yes, .int .i64 bp, .int .i64 be, .int .i64 bs, .bool bt, .slice A n c] 29) := ⟨_, rfl⟩
  have v0 : Var W0 w.heap.size 29 #[.int .i8 3, .int .i64 tid, .int .i64 timeout, .int .i64 pid, .int .i64 ep, .int .i64 part, .int .i64 group, .int .i64 off, .int .i64 most, .bool yes, .int .i64 bp, .int .i64 be, .int .i64 bs, .bool bt, .slice A n c] := by rw [hW0]; exact Var.new _ _ _
  have b0 : Below w.heap.size w W0 := by rw [hW0]; exact below_new _
  have hx0 := hx.below (b0.mono hB)
  have hB0 := Nat.le_trans hB b0.size
  have HTL := Lib.hid (bytes_size ht)
  have HT := Lib.hid ht
  have HX := Lib.hid hx0
  have HW0 := Lib.hid hW0
  clear hW0 hx ht hx0
  go_enter Tryz.func20, Tryz.ntmps20
  go_upto_region 1 with fail
  rw [← HW0.out]
  obtain ⟨g, hg⟩ : ∃ g, g = W0.heap.size := ⟨_, rfl⟩
  obtain ⟨W1, hW1⟩ : ∃ W1, W1 = W0.alloc (.cells #[.slice none 0 0] 74) := ⟨_, rfl⟩
  have hw1 : Wq W1 g [] := by rw [hW1, hg]; exact wq_new
  have hbn : Below W0.heap.size W0 W1 := by rw [hW1]; exact below_new _
  have v1 := v0.below hbn v0.lt
  have k1 : Kept [g] W0 W1 := Kept.of_below hbn
  have hgb : B ≤ g := by omega
  have hgz : w.heap.size < g := by have := v0.lt; omega
  have c0_0 := v0.cell 0 rfl
  have z0 := v0.lt
  go_wp2_with fail
  have hz1 : W0.heap.size + 1 = W1.heap.size := by rw [hW1, World.size_alloc]
  rw [← hW1, hz1, ← hg]
  have HG := Lib.hid hg
  clear hW1 hg hbn hz1 c0_0 z0
  refine (qnumbers_new W1 g [] [3] 1 hw1 rfl (by omega) (by simp)).mono ?_
  rintro e W2 ⟨rfl, hw2, q2⟩
  have v2 := v1.kept q2 (by simp; omega)
  have k2 := k1.trans q2
  have HL2 : Hid ((puts [] [3]).length ≤ 6) := by
    have h1 := puts_le [3] []
    simp only [List.length_cons, List.length_nil] at h1
    show _ ≤ _
    omega
  clear  v1 q2 hw1
  have c2_0 := v2.cell 0 rfl
  have c2_3 := v2.cell 3 rfl
  have c2_4 := v2.cell 4 rfl
  have z2 := v2.lt
  go_wp2_with fail
  refine (qnumbers_new W2 g _ [pid, ep] 2 hw2 rfl (by omega) (by have := HL2.out; omega)).mono ?_
  rintro e W3 ⟨rfl, hw3, q3⟩
  have v3 := v2.kept q3 (by simp; omega)
  have k3 := k2.trans q3
  have HL3 : Hid ((puts (puts [] [3]) [pid, ep]).length ≤ 18) := by
    have h1 := puts_le [pid, ep] (puts [] [3])
    simp only [List.length_cons, List.length_nil] at h1
    have h2 := HL2.out
    show _ ≤ _
    omega
  clear c2_0 c2_3 c2_4 z2 v2 q3 hw2
  have c3_6 := v3.cell 6 rfl
  have z3 := v3.lt
  go_wp2_with fail
  refine (qnumbers_new W3 g _ [group] 1 hw3 rfl (by omega) (by have := HL3.out; omega)).mono ?_
  rintro e W4 ⟨rfl, hw4, q4⟩
  have v4 := v3.kept q4 (by simp; omega)
  have k4 := k3.trans q4
  have HL4 : Hid ((puts (puts (puts [] [3]) [pid, ep]) [group]).length ≤ 24) := by
    have h1 := puts_le [group] (puts (puts [] [3]) [pid, ep])
    simp only [List.length_cons, List.length_nil] at h1
    have h2 := HL3.out
    show _ ≤ _
    omega
  clear c3_6 z3 v3 q4 hw3
  have c4_5 := v4.cell 5 rfl
  have c4_7 := v4.cell 7 rfl
  have z4 := v4.lt
  go_wp2_with fail
  refine (qnumbers_new W4 g _ [part, off] 2 hw4 rfl (by omega) (by have := HL4.out; omega)).mono ?_
  rintro e W5 ⟨rfl, hw5, q5⟩
  have v5 := v4.kept q5 (by simp; omega)
  have k5 := k4.trans q5
  have HL5 : Hid ((puts (puts (puts (puts [] [3]) [pid, ep]) [group]) [part, off]).length ≤ 36) := by
    have h1 := puts_le [part, off] (puts (puts (puts [] [3]) [pid, ep]) [group])
    simp only [List.length_cons, List.length_nil] at h1
    have h2 := HL4.out
    show _ ≤ _
    omega
  clear c4_5 c4_7 z4 v4 q5 hw4
  obtain ⟨A2, c2, ly, hv, hs2, hly, hc2, -⟩ := hw5.get
  obtain ⟨p0, hf0⟩ : W5.cell? ⟨g, 0, none⟩ = some (.slice A2 ly c2) ∧ W5.frozen? ⟨g, 0, none⟩ = false := ⟨hv.cell 0 rfl, hv.free 0⟩
  have z5 := v5.lt
  have zz := hv.lt
  have bz := b0.trans ((k5.below (Nat.le_refl _) (by simp; exact Nat.le_of_eq HG.out.symm)).mono b0.size)
  have HEND : Hid ((puts (puts (puts (puts [] [3]) [pid, ep]) [group]) [part, off]) = wrAll (⟨3, tid, timeout, pid, ep, part, group, off, most, yes, ⟨bp, be, bs, bt, rs⟩⟩ : Rq) t) := by show _ = _; simp only [wrAll, fdsOf, puts, wrF, List.foldl_cons, List.foldl_nil, if_true, if_false, Int.reduceEq]
  rw [HEND.out] at hs2 hly
  have HLY := Lib.hid hly
  have HS2 := Lib.hid hs2
  clear hly hs2
  go_wp2
  go_ret
  exact ⟨A2, c2, ly, rfl, HLY.out, HS2.out, hc2, bz⟩

set_option maxRecDepth 100000 in
set_option maxHeartbeats 1000000 in
theorem written_4 (tid timeout pid ep part group off most bp be bs : Int) (yes bt : Bool) (rs : List Rc) (A : Option Addr) (n c B : Nat) (t : ByteArray) (er : Int) (w : World) (hx : QIn w B (⟨4, tid, timeout, pid, ep, part, group, off, most, yes, ⟨bp, be, bs, bt, rs⟩⟩ : Rq) A n c) (hB : B ≤ w.heap.size) (ht : BytesIs ⟨bp, be, bs, bt, rs⟩ t er) :
    Calls Tryz.prog 20 #[.agg #[.int .i8 4, .int .i64 tid, .int .i64 timeout, .int .i64 pid, .int .i64 ep, .int .i64 part, .int .i64 group, .int .i64 off, .int .i64 most, .bool yes, .int .i64 bp, .int .i64 be, .int .i64 bs, .bool bt, .slice A n c]] w (WrRes w (wrAll (⟨4, tid, timeout, pid, ep, part, group, off, most, yes, ⟨bp, be, bs, bt, rs⟩⟩ : Rq) t)) := by
  obtain ⟨W0, hW0⟩ : ∃ W0, W0 = w.alloc (.cells #[.int .i8 4, .int .i64 tid, .int .i64 timeout, .int .i64 pid, .int .i64 ep, .int .i64 part, .int .i64 group, .int .i64 off, .int .i64 most, .bool yes, .int .i64 bp, .int .i64 be, .int .i64 bs, .bool bt, .slice A n c] 29) := ⟨_, rfl⟩
  have v0 : Var W0 w.heap.size 29 #[.int .i8 4, .int .i64 tid, .int .i64 timeout, .int .i64 pid, .int .i64 ep, .int .i64 part, .int .i64 group, .int .i64 off, .int .i64 most, .bool yes, .int .i64 bp, .int .i64 be, .int .i64 bs, .bool bt, .slice A n c] := by rw [hW0]; exact Var.new _ _ _
  have b0 : Below w.heap.size w W0 := by rw [hW0]; exact below_new _
  have hx0 := hx.below (b0.mono hB)
  have hB0 := Nat.le_trans hB b0.size
  have HTL := Lib.hid (bytes_size ht)
  have HT := Lib.hid ht
  have HX := Lib.hid hx0
  have HW0 := Lib.hid hW0
  clear hW0 hx ht hx0
  go_enter Tryz.func20, Tryz.ntmps20
  go_upto_region 1 with fail
  rw [← HW0.out]
  obtain ⟨g, hg⟩ : ∃ g, g = W0.heap.size := ⟨_, rfl⟩
  obtain ⟨W1, hW1⟩ : ∃ W1, W1 = W0.alloc (.cells #[.slice none 0 0] 74) := ⟨_, rfl⟩
  have hw1 : Wq W1 g [] := by rw [hW1, hg]; exact wq_new
  have hbn : Below W0.heap.size W0 W1 := by rw [hW1]; exact below_new _
  have v1 := v0.below hbn v0.lt
  have k1 : Kept [g] W0 W1 := Kept.of_below hbn
  have hgb : B ≤ g := by omega
  have hgz : w.heap.size < g := by have := v0.lt; omega
  have c0_0 := v0.cell 0 rfl
  have z0 := v0.lt
  go_wp2_with fail
  have hz1 : W0.heap.size + 1 = W1.heap.size := by rw [hW1, World.size_alloc]
  rw [← hW1, hz1, ← hg]
  have HG := Lib.hid hg
  clear hW1 hg hbn hz1 c0_0 z0
  refine (qnumbers_new W1 g [] [4] 1 hw1 rfl (by omega) (by simp)).mono ?_
  rintro e W2 ⟨rfl, hw2, q2⟩
  have v2 := v1.kept q2 (by simp; omega)
  have k2 := k1.trans q2
  have HL2 : Hid ((puts [] [4]).length ≤ 6) := by
    have h1 := puts_le [4] []
    simp only [List.length_cons, List.length_nil] at h1
    show _ ≤ _
    omega
  clear  v1 q2 hw1
  have c2_0 := v2.cell 0 rfl
  have c2_3 := v2.cell 3 rfl
  have c2_4 := v2.cell 4 rfl
  have z2 := v2.lt
  go_wp2_with fail
  refine (qnumbers_new W2 g _ [pid, ep] 2 hw2 rfl (by omega) (by have := HL2.out; omega)).mono ?_
  rintro e W3 ⟨rfl, hw3, q3⟩
  have v3 := v2.kept q3 (by simp; omega)
  have k3 := k2.trans q3
  have HL3 : Hid ((puts (puts [] [4]) [pid, ep]).length ≤ 18) := by
    have h1 := puts_le [pid, ep] (puts [] [4])
    simp only [List.length_cons, List.length_nil] at h1
    have h2 := HL2.out
    show _ ≤ _
    omega
  clear c2_0 c2_3 c2_4 z2 v2 q3 hw2
  have c3_9 := v3.cell 9 rfl
  have z3 := v3.lt
  go_wp2_with fail
  refine (qflag_any g _ yes W3 hw3 (by have := HL3.out; omega)).mono ?_
  rintro e W4 ⟨rfl, hw4, q4⟩
  have v4 := v3.kept q4 (by simp; omega)
  have k4 := k3.trans q4
  have HL4 : Hid (((puts (puts [] [4]) [pid, ep]) ++ [flagByte yes]).length ≤ 19) := by
    have h2 := HL3.out
    show _ ≤ _
    rw [List.length_append]
    simp only [List.length_cons, List.length_nil]
    omega
  clear c3_9 z3 v3 q4 hw3
  obtain ⟨A2, c2, ly, hv, hs2, hly, hc2, -⟩ := hw4.get
  obtain ⟨p0, hf0⟩ : W4.cell? ⟨g, 0, none⟩ = some (.slice A2 ly c2) ∧ W4.frozen? ⟨g, 0, none⟩ = false := ⟨hv.cell 0 rfl, hv.free 0⟩
  have z4 := v4.lt
  have zz := hv.lt
  have bz := b0.trans ((k4.below (Nat.le_refl _) (by simp; exact Nat.le_of_eq HG.out.symm)).mono b0.size)
  have HEND : Hid (((puts (puts [] [4]) [pid, ep]) ++ [flagByte yes]) = wrAll (⟨4, tid, timeout, pid, ep, part, group, off, most, yes, ⟨bp, be, bs, bt, rs⟩⟩ : Rq) t) := by show _ = _; simp only [wrAll, fdsOf, puts, wrF, List.foldl_cons, List.foldl_nil, if_true, if_false, Int.reduceEq]
  rw [HEND.out] at hs2 hly
  have HLY := Lib.hid hly
  have HS2 := Lib.hid hs2
  clear hly hs2
  go_wp2
  go_ret
  exact ⟨A2, c2, ly, rfl, HLY.out, HS2.out, hc2, bz⟩

set_option maxRecDepth 100000 in
set_option maxHeartbeats 1000000 in
theorem written_5 (tid timeout pid ep part group off most bp be bs : Int) (yes bt : Bool) (rs : List Rc) (A : Option Addr) (n c B : Nat) (t : ByteArray) (er : Int) (w : World) (hx : QIn w B (⟨5, tid, timeout, pid, ep, part, group, off, most, yes, ⟨bp, be, bs, bt, rs⟩⟩ : Rq) A n c) (hB : B ≤ w.heap.size) (ht : BytesIs ⟨bp, be, bs, bt, rs⟩ t er) :
    Calls Tryz.prog 20 #[.agg #[.int .i8 5, .int .i64 tid, .int .i64 timeout, .int .i64 pid, .int .i64 ep, .int .i64 part, .int .i64 group, .int .i64 off, .int .i64 most, .bool yes, .int .i64 bp, .int .i64 be, .int .i64 bs, .bool bt, .slice A n c]] w (WrRes w (wrAll (⟨5, tid, timeout, pid, ep, part, group, off, most, yes, ⟨bp, be, bs, bt, rs⟩⟩ : Rq) t)) := by
  obtain ⟨W0, hW0⟩ : ∃ W0, W0 = w.alloc (.cells #[.int .i8 5, .int .i64 tid, .int .i64 timeout, .int .i64 pid, .int .i64 ep, .int .i64 part, .int .i64 group, .int .i64 off, .int .i64 most, .bool yes, .int .i64 bp, .int .i64 be, .int .i64 bs, .bool bt, .slice A n c] 29) := ⟨_, rfl⟩
  have v0 : Var W0 w.heap.size 29 #[.int .i8 5, .int .i64 tid, .int .i64 timeout, .int .i64 pid, .int .i64 ep, .int .i64 part, .int .i64 group, .int .i64 off, .int .i64 most, .bool yes, .int .i64 bp, .int .i64 be, .int .i64 bs, .bool bt, .slice A n c] := by rw [hW0]; exact Var.new _ _ _
  have b0 : Below w.heap.size w W0 := by rw [hW0]; exact below_new _
  have hx0 := hx.below (b0.mono hB)
  have hB0 := Nat.le_trans hB b0.size
  have HTL := Lib.hid (bytes_size ht)
  have HT := Lib.hid ht
  have HX := Lib.hid hx0
  have HW0 := Lib.hid hW0
  clear hW0 hx ht hx0
  go_enter Tryz.func20, Tryz.ntmps20
  go_upto_region 1 with fail
  rw [← HW0.out]
  obtain ⟨g, hg⟩ : ∃ g, g = W0.heap.size := ⟨_, rfl⟩
  obtain ⟨W1, hW1⟩ : ∃ W1, W1 = W0.alloc (.cells #[.slice none 0 0] 74) := ⟨_, rfl⟩
  have hw1 : Wq W1 g [] := by rw [hW1, hg]; exact wq_new
  have hbn : Below W0.heap.size W0 W1 := by rw [hW1]; exact below_new _
  have v1 := v0.below hbn v0.lt
  have k1 : Kept [g] W0 W1 := Kept.of_below hbn
  have hgb : B ≤ g := by omega
  have hgz : w.heap.size < g := by have := v0.lt; omega
  have c0_0 := v0.cell 0 rfl
  have z0 := v0.lt
  go_wp2_with fail
  have hz1 : W0.heap.size + 1 = W1.heap.size := by rw [hW1, World.size_alloc]
  rw [← hW1, hz1, ← hg]
  have HG := Lib.hid hg
  clear hW1 hg hbn hz1 c0_0 z0
  refine (qnumbers_new W1 g [] [5] 1 hw1 rfl (by omega) (by simp)).mono ?_
  rintro e W2 ⟨rfl, hw2, q2⟩
  have v2 := v1.kept q2 (by simp; omega)
  have k2 := k1.trans q2
  have HL2 : Hid ((puts [] [5]).length ≤ 6) := by
    have h1 := puts_le [5] []
    simp only [List.length_cons, List.length_nil] at h1
    show _ ≤ _
    omega
  clear  v1 q2 hw1
  have c2_0 := v2.cell 0 rfl
  have c2_5 := v2.cell 5 rfl
  have c2_7 := v2.cell 7 rfl
  have c2_8 := v2.cell 8 rfl
  have z2 := v2.lt
  go_wp2_with fail
  refine (qnumbers_new W2 g _ [part, off, most] 3 hw2 rfl (by omega) (by have := HL2.out; omega)).mono ?_
  rintro e W3 ⟨rfl, hw3, q3⟩
  have v3 := v2.kept q3 (by simp; omega)
  have k3 := k2.trans q3
  have HL3 : Hid ((puts (puts [] [5]) [part, off, most]).length ≤ 24) := by
    have h1 := puts_le [part, off, most] (puts [] [5])
    simp only [List.length_cons, List.length_nil] at h1
    have h2 := HL2.out
    show _ ≤ _
    omega
  clear c2_0 c2_5 c2_7 c2_8 z2 v2 q3 hw2
  have c3_9 := v3.cell 9 rfl
  have z3 := v3.lt
  go_wp2_with fail
  refine (qflag_any g _ yes W3 hw3 (by have := HL3.out; omega)).mono ?_
  rintro e W4 ⟨rfl, hw4, q4⟩
  have v4 := v3.kept q4 (by simp; omega)
  have k4 := k3.trans q4
  have HL4 : Hid (((puts (puts [] [5]) [part, off, most]) ++ [flagByte yes]).length ≤ 25) := by
    have h2 := HL3.out
    show _ ≤ _
    rw [List.length_append]
    simp only [List.length_cons, List.length_nil]
    omega
  clear c3_9 z3 v3 q4 hw3
  obtain ⟨A2, c2, ly, hv, hs2, hly, hc2, -⟩ := hw4.get
  obtain ⟨p0, hf0⟩ : W4.cell? ⟨g, 0, none⟩ = some (.slice A2 ly c2) ∧ W4.frozen? ⟨g, 0, none⟩ = false := ⟨hv.cell 0 rfl, hv.free 0⟩
  have z4 := v4.lt
  have zz := hv.lt
  have bz := b0.trans ((k4.below (Nat.le_refl _) (by simp; exact Nat.le_of_eq HG.out.symm)).mono b0.size)
  have HEND : Hid (((puts (puts [] [5]) [part, off, most]) ++ [flagByte yes]) = wrAll (⟨5, tid, timeout, pid, ep, part, group, off, most, yes, ⟨bp, be, bs, bt, rs⟩⟩ : Rq) t) := by show _ = _; simp only [wrAll, fdsOf, puts, wrF, List.foldl_cons, List.foldl_nil, if_true, if_false, Int.reduceEq]
  rw [HEND.out] at hs2 hly
  have HLY := Lib.hid hly
  have HS2 := Lib.hid hs2
  clear hly hs2
  go_wp2
  go_ret
  exact ⟨A2, c2, ly, rfl, HLY.out, HS2.out, hc2, bz⟩

set_option maxRecDepth 100000 in
set_option maxHeartbeats 1000000 in
theorem written_6 (tid timeout pid ep part group off most bp be bs : Int) (yes bt : Bool) (rs : List Rc) (A : Option Addr) (n c B : Nat) (t : ByteArray) (er : Int) (w : World) (hx : QIn w B (⟨6, tid, timeout, pid, ep, part, group, off, most, yes, ⟨bp, be, bs, bt, rs⟩⟩ : Rq) A n c) (hB : B ≤ w.heap.size) (ht : BytesIs ⟨bp, be, bs, bt, rs⟩ t er) :
    Calls Tryz.prog 20 #[.agg #[.int .i8 6, .int .i64 tid, .int .i64 timeout, .int .i64 pid, .int .i64 ep, .int .i64 part, .int .i64 group, .int .i64 off, .int .i64 most, .bool yes, .int .i64 bp, .int .i64 be, .int .i64 bs, .bool bt, .slice A n c]] w (WrRes w (wrAll (⟨6, tid, timeout, pid, ep, part, group, off, most, yes, ⟨bp, be, bs, bt, rs⟩⟩ : Rq) t)) := by
  obtain ⟨W0, hW0⟩ : ∃ W0, W0 = w.alloc (.cells #[.int .i8 6, .int .i64 tid, .int .i64 timeout, .int .i64 pid, .int .i64 ep, .int .i64 part, .int .i64 group, .int .i64 off, .int .i64 most, .bool yes, .int .i64 bp, .int .i64 be, .int .i64 bs, .bool bt, .slice A n c] 29) := ⟨_, rfl⟩
  have v0 : Var W0 w.heap.size 29 #[.int .i8 6, .int .i64 tid, .int .i64 timeout, .int .i64 pid, .int .i64 ep, .int .i64 part, .int .i64 group, .int .i64 off, .int .i64 most, .bool yes, .int .i64 bp, .int .i64 be, .int .i64 bs, .bool bt, .slice A n c] := by rw [hW0]; exact Var.new _ _ _
  have b0 : Below w.heap.size w W0 := by rw [hW0]; exact below_new _
  have hx0 := hx.below (b0.mono hB)
  have hB0 := Nat.le_trans hB b0.size
  have HTL := Lib.hid (bytes_size ht)
  have HT := Lib.hid ht
  have HX := Lib.hid hx0
  have HW0 := Lib.hid hW0
  clear hW0 hx ht hx0
  go_enter Tryz.func20, Tryz.ntmps20
  go_upto_region 1 with fail
  rw [← HW0.out]
  obtain ⟨g, hg⟩ : ∃ g, g = W0.heap.size := ⟨_, rfl⟩
  obtain ⟨W1, hW1⟩ : ∃ W1, W1 = W0.alloc (.cells #[.slice none 0 0] 74) := ⟨_, rfl⟩
  have hw1 : Wq W1 g [] := by rw [hW1, hg]; exact wq_new
  have hbn : Below W0.heap.size W0 W1 := by rw [hW1]; exact below_new _
  have v1 := v0.below hbn v0.lt
  have k1 : Kept [g] W0 W1 := Kept.of_below hbn
  have hgb : B ≤ g := by omega
  have hgz : w.heap.size < g := by have := v0.lt; omega
  have c0_0 := v0.cell 0 rfl
  have z0 := v0.lt
  go_wp2_with fail
  have hz1 : W0.heap.size + 1 = W1.heap.size := by rw [hW1, World.size_alloc]
  rw [← hW1, hz1, ← hg]
  have HG := Lib.hid hg
  clear hW1 hg hbn hz1 c0_0 z0
  refine (qnumbers_new W1 g [] [6] 1 hw1 rfl (by omega) (by simp)).mono ?_
  rintro e W2 ⟨rfl, hw2, q2⟩
  have v2 := v1.kept q2 (by simp; omega)
  have k2 := k1.trans q2
  have HL2 : Hid ((puts [] [6]).length ≤ 6) := by
    have h1 := puts_le [6] []
    simp only [List.length_cons, List.length_nil] at h1
    show _ ≤ _
    omega
  clear  v1 q2 hw1
  have c2_0 := v2.cell 0 rfl
  have c2_6 := v2.cell 6 rfl
  have z2 := v2.lt
  go_wp2_with fail
  refine (qnumbers_new W2 g _ [group] 1 hw2 rfl (by omega) (by have := HL2.out; omega)).mono ?_
  rintro e W3 ⟨rfl, hw3, q3⟩
  have v3 := v2.kept q3 (by simp; omega)
  have k3 := k2.trans q3
  have HL3 : Hid ((puts (puts [] [6]) [group]).length ≤ 12) := by
    have h1 := puts_le [group] (puts [] [6])
    simp only [List.length_cons, List.length_nil] at h1
    have h2 := HL2.out
    show _ ≤ _
    omega
  clear c2_0 c2_6 z2 v2 q3 hw2
  have c3_5 := v3.cell 5 rfl
  have c3_7 := v3.cell 7 rfl
  have z3 := v3.lt
  go_wp2_with fail
  refine (qnumbers_new W3 g _ [part, off] 2 hw3 rfl (by omega) (by have := HL3.out; omega)).mono ?_
  rintro e W4 ⟨rfl, hw4, q4⟩
  have v4 := v3.kept q4 (by simp; omega)
  have k4 := k3.trans q4
  have HL4 : Hid ((puts (puts (puts [] [6]) [group]) [part, off]).length ≤ 24) := by
    have h1 := puts_le [part, off] (puts (puts [] [6]) [group])
    simp only [List.length_cons, List.length_nil] at h1
    have h2 := HL3.out
    show _ ≤ _
    omega
  clear c3_5 c3_7 z3 v3 q4 hw3
  obtain ⟨A2, c2, ly, hv, hs2, hly, hc2, -⟩ := hw4.get
  obtain ⟨p0, hf0⟩ : W4.cell? ⟨g, 0, none⟩ = some (.slice A2 ly c2) ∧ W4.frozen? ⟨g, 0, none⟩ = false := ⟨hv.cell 0 rfl, hv.free 0⟩
  have z4 := v4.lt
  have zz := hv.lt
  have bz := b0.trans ((k4.below (Nat.le_refl _) (by simp; exact Nat.le_of_eq HG.out.symm)).mono b0.size)
  have HEND : Hid ((puts (puts (puts [] [6]) [group]) [part, off]) = wrAll (⟨6, tid, timeout, pid, ep, part, group, off, most, yes, ⟨bp, be, bs, bt, rs⟩⟩ : Rq) t) := by show _ = _; simp only [wrAll, fdsOf, puts, wrF, List.foldl_cons, List.foldl_nil, if_true, if_false, Int.reduceEq]
  rw [HEND.out] at hs2 hly
  have HLY := Lib.hid hly
  have HS2 := Lib.hid hs2
  clear hly hs2
  go_wp2
  go_ret
  exact ⟨A2, c2, ly, rfl, HLY.out, HS2.out, hc2, bz⟩

set_option maxRecDepth 100000 in
set_option maxHeartbeats 1000000 in
theorem written_7 (tid timeout pid ep part group off most bp be bs : Int) (yes bt : Bool) (rs : List Rc) (A : Option Addr) (n c B : Nat) (t : ByteArray) (er : Int) (w : World) (hx : QIn w B (⟨7, tid, timeout, pid, ep, part, group, off, most, yes, ⟨bp, be, bs, bt, rs⟩⟩ : Rq) A n c) (hB : B ≤ w.heap.size) (ht : BytesIs ⟨bp, be, bs, bt, rs⟩ t er) :
    Calls Tryz.prog 20 #[.agg #[.int .i8 7, .int .i64 tid, .int .i64 timeout, .int .i64 pid, .int .i64 ep, .int .i64 part, .int .i64 group, .int .i64 off, .int .i64 most, .bool yes, .int .i64 bp, .int .i64 be, .int .i64 bs, .bool bt, .slice A n c]] w (WrRes w (wrAll (⟨7, tid, timeout, pid, ep, part, group, off, most, yes, ⟨bp, be, bs, bt, rs⟩⟩ : Rq) t)) := by
  obtain ⟨W0, hW0⟩ : ∃ W0, W0 = w.alloc (.cells #[.int .i8 7, .int .i64 tid, .int .i64 timeout, .int .i64 pid, .int .i64 ep, .int .i64 part, .int .i64 group, .int .i64 off, .int .i64 most, .bool yes, .int .i64 bp, .int .i64 be, .int .i64 bs, .bool bt, .slice A n c] 29) := ⟨_, rfl⟩
  have v0 : Var W0 w.heap.size 29 #[.int .i8 7, .int .i64 tid, .int .i64 timeout, .int .i64 pid, .int .i64 ep, .int .i64 part, .int .i64 group, .int .i64 off, .int .i64 most, .bool yes, .int .i64 bp, .int .i64 be, .int .i64 bs, .bool bt, .slice A n c] := by rw [hW0]; exact Var.new _ _ _
  have b0 : Below w.heap.size w W0 := by rw [hW0]; exact below_new _
  have hx0 := hx.below (b0.mono hB)
  have hB0 := Nat.le_trans hB b0.size
  have HTL := Lib.hid (bytes_size ht)
  have HT := Lib.hid ht
  have HX := Lib.hid hx0
  have HW0 := Lib.hid hW0
  clear hW0 hx ht hx0
  go_enter Tryz.func20, Tryz.ntmps20
  go_upto_region 1 with fail
  rw [← HW0.out]
  obtain ⟨g, hg⟩ : ∃ g, g = W0.heap.size := ⟨_, rfl⟩
  obtain ⟨W1, hW1⟩ : ∃ W1, W1 = W0.alloc (.cells #[.slice none 0 0] 74) := ⟨_, rfl⟩
  have hw1 : Wq W1 g [] := by rw [hW1, hg]; exact wq_new
  have hbn : Below W0.heap.size W0 W1 := by rw [hW1]; exact below_new _
  have v1 := v0.below hbn v0.lt
  have k1 : Kept [g] W0 W1 := Kept.of_below hbn
  have hgb : B ≤ g := by omega
  have hgz : w.heap.size < g := by have := v0.lt; omega
  have c0_0 := v0.cell 0 rfl
  have z0 := v0.lt
  go_wp2_with fail
  have hz1 : W0.heap.size + 1 = W1.heap.size := by rw [hW1, World.size_alloc]
  rw [← hW1, hz1, ← hg]
  have HG := Lib.hid hg
  clear hW1 hg hbn hz1 c0_0 z0
  refine (qnumbers_new W1 g [] [7] 1 hw1 rfl (by omega) (by simp)).mono ?_
  rintro e W2 ⟨rfl, hw2, q2⟩
  have v2 := v1.kept q2 (by simp; omega)
  have k2 := k1.trans q2
  have HL2 : Hid ((puts [] [7]).length ≤ 6) := by
    have h1 := puts_le [7] []
    simp only [List.length_cons, List.length_nil] at h1
    show _ ≤ _
    omega
  clear  v1 q2 hw1
  have c2_0 := v2.cell 0 rfl
  have c2_6 := v2.cell 6 rfl
  have c2_5 := v2.cell 5 rfl
  have z2 := v2.lt
  go_wp2_with fail
  refine (qnumbers_new W2 g _ [group, part] 2 hw2 rfl (by omega) (by have := HL2.out; omega)).mono ?_
  rintro e W3 ⟨rfl, hw3, q3⟩
  have v3 := v2.kept q3 (by simp; omega)
  have k3 := k2.trans q3
  have HL3 : Hid ((puts (puts [] [7]) [group, part]).length ≤ 18) := by
    have h1 := puts_le [group, part] (puts [] [7])
    simp only [List.length_cons, List.length_nil] at h1
    have h2 := HL2.out
    show _ ≤ _
    omega
  clear c2_0 c2_6 c2_5 z2 v2 q3 hw2
  obtain ⟨A2, c2, ly, hv, hs2, hly, hc2, -⟩ := hw3.get
  obtain ⟨p0, hf0⟩ : W3.cell? ⟨g, 0, none⟩ = some (.slice A2 ly c2) ∧ W3.frozen? ⟨g, 0, none⟩ = false := ⟨hv.cell 0 rfl, hv.free 0⟩
  have z3 := v3.lt
  have zz := hv.lt
  have bz := b0.trans ((k3.below (Nat.le_refl _) (by simp; exact Nat.le_of_eq HG.out.symm)).mono b0.size)
  have HEND : Hid ((puts (puts [] [7]) [group, part]) = wrAll (⟨7, tid, timeout, pid, ep, part, group, off, most, yes, ⟨bp, be, bs, bt, rs⟩⟩ : Rq) t) := by show _ = _; simp only [wrAll, fdsOf, puts, wrF, List.foldl_cons, List.foldl_nil, if_true, if_false, Int.reduceEq]
  rw [HEND.out] at hs2 hly
  have HLY := Lib.hid hly
  have HS2 := Lib.hid hs2
  clear hly hs2
  go_wp2
  go_ret
  exact ⟨A2, c2, ly, rfl, HLY.out, HS2.out, hc2, bz⟩

set_option maxRecDepth 100000 in
set_option maxHeartbeats 1000000 in
theorem written_8 (tid timeout pid ep part group off most bp be bs : Int) (yes bt : Bool) (rs : List Rc) (A : Option Addr) (n c B : Nat) (t : ByteArray) (er : Int) (w : World) (hx : QIn w B (⟨8, tid, timeout, pid, ep, part, group, off, most, yes, ⟨bp, be, bs, bt, rs⟩⟩ : Rq) A n c) (hB : B ≤ w.heap.size) (ht : BytesIs ⟨bp, be, bs, bt, rs⟩ t er) :
    Calls Tryz.prog 20 #[.agg #[.int .i8 8, .int .i64 tid, .int .i64 timeout, .int .i64 pid, .int .i64 ep, .int .i64 part, .int .i64 group, .int .i64 off, .int .i64 most, .bool yes, .int .i64 bp, .int .i64 be, .int .i64 bs, .bool bt, .slice A n c]] w (WrRes w (wrAll (⟨8, tid, timeout, pid, ep, part, group, off, most, yes, ⟨bp, be, bs, bt, rs⟩⟩ : Rq) t)) := by
  obtain ⟨W0, hW0⟩ : ∃ W0, W0 = w.alloc (.cells #[.int .i8 8, .int .i64 tid, .int .i64 timeout, .int .i64 pid, .int .i64 ep, .int .i64 part, .int .i64 group, .int .i64 off, .int .i64 most, .bool yes, .int .i64 bp, .int .i64 be, .int .i64 bs, .bool bt, .slice A n c] 29) := ⟨_, rfl⟩
  have v0 : Var W0 w.heap.size 29 #[.int .i8 8, .int .i64 tid, .int .i64 timeout, .int .i64 pid, .int .i64 ep, .int .i64 part, .int .i64 group, .int .i64 off, .int .i64 most, .bool yes, .int .i64 bp, .int .i64 be, .int .i64 bs, .bool bt, .slice A n c] := by rw [hW0]; exact Var.new _ _ _
  have b0 : Below w.heap.size w W0 := by rw [hW0]; exact below_new _
  have hx0 := hx.below (b0.mono hB)
  have hB0 := Nat.le_trans hB b0.size
  have HTL := Lib.hid (bytes_size ht)
  have HT := Lib.hid ht
  have HX := Lib.hid hx0
  have HW0 := Lib.hid hW0
  clear hW0 hx ht hx0
  go_enter Tryz.func20, Tryz.ntmps20
  go_upto_region 1 with fail
  rw [← HW0.out]
  obtain ⟨g, hg⟩ : ∃ g, g = W0.heap.size := ⟨_, rfl⟩
  obtain ⟨W1, hW1⟩ : ∃ W1, W1 = W0.alloc (.cells #[.slice none 0 0] 74) := ⟨_, rfl⟩
  have hw1 : Wq W1 g [] := by rw [hW1, hg]; exact wq_new
  have hbn : Below W0.heap.size W0 W1 := by rw [hW1]; exact below_new _
  have v1 := v0.below hbn v0.lt
  have k1 : Kept [g] W0 W1 := Kept.of_below hbn
  have hgb : B ≤ g := by omega
  have hgz : w.heap.size < g := by have := v0.lt; omega
  have c0_0 := v0.cell 0 rfl
  have z0 := v0.lt
  go_wp2_with fail
  have hz1 : W0.heap.size + 1 = W1.heap.size := by rw [hW1, World.size_alloc]
  rw [← hW1, hz1, ← hg]
  have HG := Lib.hid hg
  clear hW1 hg hbn hz1 c0_0 z0
  refine (qnumbers_new W1 g [] [8] 1 hw1 rfl (by omega) (by simp)).mono ?_
  rintro e W2 ⟨rfl, hw2, q2⟩
  have v2 := v1.kept q2 (by simp; omega)
  have k2 := k1.trans q2
  have HL2 : Hid ((puts [] [8]).length ≤ 6) := by
    have h1 := puts_le [8] []
    simp only [List.length_cons, List.length_nil] at h1
    show _ ≤ _
    omega
  clear  v1 q2 hw1
  have c2_0 := v2.cell 0 rfl
  have c2_5 := v2.cell 5 rfl
  have c2_7 := v2.cell 7 rfl
  have z2 := v2.lt
  go_wp2_with fail
  refine (qnumbers_new W2 g _ [part, off] 2 hw2 rfl (by omega) (by have := HL2.out; omega)).mono ?_
  rintro e W3 ⟨rfl, hw3, q3⟩
  have v3 := v2.kept q3 (by simp; omega)
  have k3 := k2.trans q3
  have HL3 : Hid ((puts (puts [] [8]) [part, off]).length ≤ 18) := by
    have h1 := puts_le [part, off] (puts [] [8])
    simp only [List.length_cons, List.length_nil] at h1
    have h2 := HL2.out
    show _ ≤ _
    omega
  clear c2_0 c2_5 c2_7 z2 v2 q3 hw2
  obtain ⟨A2, c2, ly, hv, hs2, hly, hc2, -⟩ := hw3.get
  obtain ⟨p0, hf0⟩ : W3.cell? ⟨g, 0, none⟩ = some (.slice A2 ly c2) ∧ W3.frozen? ⟨g, 0, none⟩ = false := ⟨hv.cell 0 rfl, hv.free 0⟩
  have z3 := v3.lt
  have zz := hv.lt
  have bz := b0.trans ((k3.below (Nat.le_refl _) (by simp; exact Nat.le_of_eq HG.out.symm)).mono b0.size)
  have HEND : Hid ((puts (puts [] [8]) [part, off]) = wrAll (⟨8, tid, timeout, pid, ep, part, group, off, most, yes, ⟨bp, be, bs, bt, rs⟩⟩ : Rq) t) := by show _ = _; simp only [wrAll, fdsOf, puts, wrF, List.foldl_cons, List.foldl_nil, if_true, if_false, Int.reduceEq]
  rw [HEND.out] at hs2 hly
  have HLY := Lib.hid hly
  have HS2 := Lib.hid hs2
  clear hly hs2
  go_wp2
  go_ret
  exact ⟨A2, c2, ly, rfl, HLY.out, HS2.out, hc2, bz⟩

set_option maxRecDepth 100000 in
set_option maxHeartbeats 1000000 in
theorem written_other (kind tid timeout pid ep part group off most bp be bs : Int) (yes bt : Bool) (rs : List Rc) (A : Option Addr) (n c B : Nat) (t : ByteArray) (er : Int) (w : World) (hx : QIn w B (⟨kind, tid, timeout, pid, ep, part, group, off, most, yes, ⟨bp, be, bs, bt, rs⟩⟩ : Rq) A n c) (hB : B ≤ w.heap.size) (ht : BytesIs ⟨bp, be, bs, bt, rs⟩ t er) (hr : -128 ≤ kind ∧ kind ≤ 127) (h1 : kind ≠ 1) (h2 : kind ≠ 2) (h3 : kind ≠ 3) (h4 : kind ≠ 4) (h5 : kind ≠ 5) (h6 : kind ≠ 6) (h7 : kind ≠ 7) (h8 : kind ≠ 8) :
    Calls Tryz.prog 20 #[.agg #[.int .i8 kind, .int .i64 tid, .int .i64 timeout, .int .i64 pid, .int .i64 ep, .int .i64 part, .int .i64 group, .int .i64 off, .int .i64 most, .bool yes, .int .i64 bp, .int .i64 be, .int .i64 bs, .bool bt, .slice A n c]] w (WrRes w (wrAll (⟨kind, tid, timeout, pid, ep, part, group, off, most, yes, ⟨bp, be, bs, bt, rs⟩⟩ : Rq) t)) := by
  have hfds : fdsOf kind = [] := by simp [fdsOf, h1, h2, h3, h4, h5, h6, h7, h8]
  have hik : Tryz.prog.intKind 3 = .i64 := by kernel_rfl
  have hcv : ∀ W, (convert 24 3 (.int .i8 kind)).run Tryz.prog W = .ok (.int .i64 kind) W := fun W => by
    rw [run_convert_int W _ _ .i8 kind (by kernel_rfl) (by kernel_rfl), hik, IntKind.wrap_i64, show (kind + 9223372036854775808) % 18446744073709551616 - 9223372036854775808 = kind by omega]
  clear hik
  have y1 : (kind == (1 : Int)) = false := by simp [h1]
  have y2 : (kind == (2 : Int)) = false := by simp [h2]
  have y3 : (kind == (3 : Int)) = false := by simp [h3]
  have y4 : (kind == (4 : Int)) = false := by simp [h4]
  have y5 : (kind == (5 : Int)) = false := by simp [h5]
  have y6 : (kind == (6 : Int)) = false := by simp [h6]
  have y7 : (kind == (7 : Int)) = false := by simp [h7]
  have y8 : (kind == (8 : Int)) = false := by simp [h8]
  have HFD := Lib.hid hfds
  clear hfds h1 h2 h3 h4 h5 h6 h7 h8
  obtain ⟨W0, hW0⟩ : ∃ W0, W0 = w.alloc (.cells #[.int .i8 kind, .int .i64 tid, .int .i64 timeout, .int .i64 pid, .int .i64 ep, .int .i64 part, .int .i64 group, .int .i64 off, .int .i64 most, .bool yes, .int .i64 bp, .int .i64 be, .int .i64 bs, .bool bt, .slice A n c] 29) := ⟨_, rfl⟩
  have v0 : Var W0 w.heap.size 29 #[.int .i8 kind, .int .i64 tid, .int .i64 timeout, .int .i64 pid, .int .i64 ep, .int .i64 part, .int .i64 group, .int .i64 off, .int .i64 most, .bool yes, .int .i64 bp, .int .i64 be, .int .i64 bs, .bool bt, .slice A n c] := by rw [hW0]; exact Var.new _ _ _
  have b0 : Below w.heap.size w W0 := by rw [hW0]; exact below_new _
  have hx0 := hx.below (b0.mono hB)
  have hB0 := Nat.le_trans hB b0.size
  have HTL := Lib.hid (bytes_size ht)
  have HT := Lib.hid ht
  have HX := Lib.hid hx0
  have HW0 := Lib.hid hW0
  clear hW0 hx ht hx0
  go_enter Tryz.func20, Tryz.ntmps20
  go_upto_region 1 with fail
  rw [← HW0.out]
  obtain ⟨g, hg⟩ : ∃ g, g = W0.heap.size := ⟨_, rfl⟩
  obtain ⟨W1, hW1⟩ : ∃ W1, W1 = W0.alloc (.cells #[.slice none 0 0] 74) := ⟨_, rfl⟩
  have hw1 : Wq W1 g [] := by rw [hW1, hg]; exact wq_new
  have hbn : Below W0.heap.size W0 W1 := by rw [hW1]; exact below_new _
  have v1 := v0.below hbn v0.lt
  have k1 : Kept [g] W0 W1 := Kept.of_below hbn
  have hgb : B ≤ g := by omega
  have hgz : w.heap.size < g := by have := v0.lt; omega
  have c0_0 := v0.cell 0 rfl
  have z0 := v0.lt
  go_wp2_with fail
  have hz1 : W0.heap.size + 1 = W1.heap.size := by rw [hW1, World.size_alloc]
  rw [← hW1, hz1, ← hg]
  have HG := Lib.hid hg
  clear hW1 hg hbn hz1 c0_0 z0
  refine (qnumbers_new W1 g [] [kind] 1 hw1 rfl (by omega) (by simp)).mono ?_
  rintro e W2 ⟨rfl, hw2, q2⟩
  have v2 := v1.kept q2 (by simp; omega)
  have k2 := k1.trans q2
  have HL2 : Hid ((puts [] [kind]).length ≤ 6) := by
    have h1 := puts_le [kind] []
    simp only [List.length_cons, List.length_nil] at h1
    show _ ≤ _
    omega
  clear  v1 q2 hw1
  have c2_0 := v2.cell 0 rfl
  obtain ⟨A2, c2, ly, hv, hs2, hly, hc2, -⟩ := hw2.get
  obtain ⟨p0, hf0⟩ : W2.cell? ⟨g, 0, none⟩ = some (.slice A2 ly c2) ∧ W2.frozen? ⟨g, 0, none⟩ = false := ⟨hv.cell 0 rfl, hv.free 0⟩
  have z2 := v2.lt
  have zz := hv.lt
  have bz := b0.trans ((k2.below (Nat.le_refl _) (by simp; exact Nat.le_of_eq HG.out.symm)).mono b0.size)
  have HEND : Hid ((puts [] [kind]) = wrAll (⟨kind, tid, timeout, pid, ep, part, group, off, most, yes, ⟨bp, be, bs, bt, rs⟩⟩ : Rq) t) := by show _ = _; simp only [wrAll, HFD.out, puts, List.foldl_cons, List.foldl_nil]
  rw [HEND.out] at hs2 hly
  have HLY := Lib.hid hly
  have HS2 := Lib.hid hs2
  clear hly hs2
  go_wp2
  go_ret
  exact ⟨A2, c2, ly, rfl, HLY.out, HS2.out, hc2, bz⟩

theorem written_any (x : Rq) (A : Option Addr) (n c B : Nat) (t : ByteArray) (er : Int) (w : World) (hx : QIn w B x A n c) (hB : B ≤ w.heap.size) (ht : BytesIs x.b t er) (hr : -128 ≤ x.kind ∧ x.kind ≤ 127) :
    Calls Tryz.prog 20 #[.agg (qvals x A n c)] w (WrRes w (wrAll x t)) := by
  obtain ⟨kind, tid, timeout, pid, ep, part, group, off, most, yes, ⟨bp, be, bs, bt, rs⟩⟩ := x
  by_cases h1 : kind = 1
  · subst h1; exact written_1 tid timeout pid ep part group off most bp be bs yes bt rs A n c B t er w hx hB ht
  by_cases h2 : kind = 2
  · subst h2; exact written_2 tid timeout pid ep part group off most bp be bs yes bt rs A n c B t er w hx hB ht
  by_cases h3 : kind = 3
  · subst h3; exact written_3 tid timeout pid ep part group off most bp be bs yes bt rs A n c B t er w hx hB ht
  by_cases h4 : kind = 4
  · subst h4; exact written_4 tid timeout pid ep part group off most bp be bs yes bt rs A n c B t er w hx hB ht
  by_cases h5 : kind = 5
  · subst h5; exact written_5 tid timeout pid ep part group off most bp be bs yes bt rs A n c B t er w hx hB ht
  by_cases h6 : kind = 6
  · subst h6; exact written_6 tid timeout pid ep part group off most bp be bs yes bt rs A n c B t er w hx hB ht
  by_cases h7 : kind = 7
  · subst h7; exact written_7 tid timeout pid ep part group off most bp be bs yes bt rs A n c B t er w hx hB ht
  by_cases h8 : kind = 8
  · subst h8; exact written_8 tid timeout pid ep part group off most bp be bs yes bt rs A n c B t er w hx hB ht
  exact written_other kind tid timeout pid ep part group off most bp be bs yes bt rs A n c B t er w hx hB ht hr h1 h2 h3 h4 h5 h6 h7 h8
end Go.Proofs.YtfcifblbapadpaaGreatDoor
