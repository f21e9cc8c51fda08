/-
  The walk over RequestStray: it returns true and turns nothing that was there. Conditions: what is said of the arguments.
-/
import Derived.Test.YtfcifblbapadpaaReqWakes
import Derived.Test.YtfcifblbapadpaaRecGreat
import Derived.Test.YtfcifblbapadpaaFldHeads
import Derived.Deep.Cut
import Derived.Deep.DeepCutAuto
import Derived.Deep.CutBlock
namespace Go.Proofs.Ytfcifblbapadpaa
open Go.RowKit

/-- A variable, and what was there. -/
structure On (w wr : World) (g T : Nat) (cs : Array Value) : Prop where
  v : Var wr g T cs
  below : Below w.heap.size w wr
theorem On.next {w wr w' : World} {g T : Nat} {cs : Array Value} (h : On w wr g T cs) (hb : Below wr.heap.size wr w') : On w w' g T cs := ⟨h.v.below hb h.v.lt, h.below.trans (hb.mono h.below.size)⟩
/-- What a kind has not is zero in a valid one. -/
theorem stray_no {x y : Rq} (hk : y.kind = x.kind) (f : Fd) (hf : f ∉ fdsOf x.kind) (hd : ¬ SameAt (Rq.of x.kind) y f) : ¬ y.Good := fun h => by
  refine hd ?_
  have hb := h.2.2
  have : ∀ (fs : List Fd) (z : Rq), f ∉ fs → SameAt z (fs.foldl (fun x f => y.copy x f) z) f := fun fs => by
    induction fs with
    | nil => intro z _; cases f <;> first | rfl | trivial
    | cons g fs ih =>
      intro z hz
      rw [List.mem_cons, not_or] at hz
      rw [List.foldl_cons]
      have h1 := ih (y.copy z g) hz.2
      have h2 := copy_other z y hz.1
      exact SameAt.trans (by cases f <;> cases g <;> first | exact Eq.symm h2 | exact absurd rfl hz.1 | trivial) h1
  have h3 := this (fdsOf y.kind) (Rq.of y.kind) (by rw [hk]; exact hf)
  rw [← hk]
  rw [hb]
  exact h3
theorem not_timeout {k : Int} (h : k ≠ 1) : Fd.timeout ∉ fdsOf k := by
  unfold fdsOf
  (repeat' split) <;> simp_all
theorem not_most {k : Int} (h : k ≠ 5) : Fd.most ∉ fdsOf k := by
  unfold fdsOf
  (repeat' split) <;> simp_all
theorem not_pid {k : Int} (h : k ≠ 3) (h' : k ≠ 4) : Fd.pid ∉ fdsOf k := by
  unfold fdsOf
  (repeat' split) <;> simp_all
theorem not_batch {k : Int} (h : k ≠ 2) : Fd.batch ∉ fdsOf k := by
  unfold fdsOf
  (repeat' split) <;> simp_all

set_option maxRecDepth 100000 in
set_option maxHeartbeats 4000000 in
theorem stray_walk (x : Rq) (A : Option Addr) (n c : Nat) (fi m : Int) (w : World) (hx : QIn w w.heap.size x A n c) (hr : -128 ≤ x.kind ∧ x.kind ≤ 127) :
    Calls Try.prog 4 #[.agg (qvals x A n c), .int .i64 fi, .int .i64 m] w fun e w' => e = .returned (.bool true) ∧ Below w.heap.size w w' := by
  obtain ⟨kind, tid, timeout, pid, ep, part, group, off, most, yes, ⟨bp, be, bs, bt, rs⟩⟩ := x
  obtain ⟨W0, hW0⟩ : ∃ W0, W0 = w.alloc (.cells #[.int .i8 kind, .int .i64 tid, .int .i64 timeout, .int .i64 pid, .int .i64 ep, .int .i64 part, .int .i64 group, .int .i64 off, .int .i64 most, .bool yes, .int .i64 bp, .int .i64 be, .int .i64 bs, .bool bt, .slice A n c] 27) := ⟨_, rfl⟩
  have v0 : Var W0 w.heap.size 27 #[.int .i8 kind, .int .i64 tid, .int .i64 timeout, .int .i64 pid, .int .i64 ep, .int .i64 part, .int .i64 group, .int .i64 off, .int .i64 most, .bool yes, .int .i64 bp, .int .i64 be, .int .i64 bs, .bool bt, .slice A n c] := by rw [hW0]; exact Var.new _ _ _
  have b0 : Below w.heap.size w W0 := by rw [hW0]; exact below_new _
  have HX := Lib.hid (hx.below b0)
  have HW0 := Lib.hid hW0
  simp only at hr
  simp only [qvals]
  have c10 := v0.cell 10 rfl
  have c11 := v0.cell 11 rfl
  have c12 := v0.cell 12 rfl
  have c13 := v0.cell 13 rfl
  have c14 := v0.cell 14 rfl
  have z0 := v0.lt
  clear hW0 hx
  go_enter Try.func4, Try.ntmps4
  go_upto_region 1 with fail
  rw [← HW0.out]
  go_wp2_with fail
  refine (great_any A n c w.heap.size rs bp be bs bt W0 HX.out.len HX.out.seen b0.size HX.out.max HX.out.sizes).mono ?_
  rintro e W1 ⟨g1, rfl, -, hb1⟩
  have v1 := v0.below hb1 v0.lt
  have x1 := HX.out.below (hb1.mono b0.size)
  have b1 := b0.trans (hb1.mono b0.size)
  clear v0 hb1 c10 c11 c12 c13 c14 z0
  cases g1 with
  | true =>
    go_wp2_with fail
    refine (qwakes_any _).mono ?_
    rintro e w9 ⟨rfl, hb⟩
    have b9 := b1.trans (hb.mono b1.size)
    go_wp2
    go_ret
    exact ⟨rfl, b9⟩
  | false =>
    obtain ⟨q, hq⟩ := iff_of' (Rq.Good (⟨kind, tid, timeout, pid, ep, part, group, off, most, yes, ⟨bp, be, bs, bt, rs⟩⟩ : Rq))
    have HQ := Lib.hid hq
    clear hq
    go_wp2_with (refine wpList_load_want (by rfl) _ rfl Try.underlying27 rfl rfl v1 (by kernel_rfl) ?_)
    refine (qmay_any (⟨kind, tid, timeout, pid, ep, part, group, off, most, yes, ⟨bp, be, bs, bt, rs⟩⟩ : Rq) A n c w.heap.size q W1 x1 b1.size hr HQ.out).mono ?_
    rintro e W2 ⟨rfl, hb2⟩
    have v2 := v1.below hb2 v1.lt
    have x2 := x1.below (hb2.mono b1.size)
    have b2 := b1.trans (hb2.mono b1.size)
    clear v1 x1 hb2 HX
    cases q with
    | false =>
      go_wp2_with fail
      refine (qwakes_any _).mono ?_
      rintro e w9 ⟨rfl, hb⟩
      have b9 := b2.trans (hb.mono b2.size)
      go_wp2
      go_ret
      exact ⟨rfl, b9⟩
    | true =>
      have hgood := HQ.out.1 (by first | rfl | trivial)
      have hk09 : 0 ≤ kind ∧ kind ≤ 9 := hgood.1
      have hnob : rs = [] ∨ True := .inr trivial
      clear hnob HQ hgood
      obtain ⟨m', hm0, hmc⟩ : ∃ m' : Int, m' ≠ 0 ∧ ((m = 0 ∧ m' = 1) ∨ (m ≠ 0 ∧ m' = m)) := by
        by_cases h : m = 0
        · exact ⟨1, by omega, .inl ⟨h, rfl⟩⟩
        · exact ⟨m, h, .inr ⟨h, rfl⟩⟩
      go_upto_if 21 with fail
      go_cut [2] (fun s2 wx => s2 = .int .i64 m' ∧ wx = W2)
      case first =>
        rcases hmc with ⟨h1, h2⟩ | ⟨h1, h2⟩
        · have y0 : (m == 0) = true := by simp [h1]
          clear h1
          go_wp2
          go_meet
          exact ⟨by rw [h2], rfl⟩
        · have y0 : (m == 0) = false := by simp [h1]
          clear h1
          go_wp2
          go_meet
          exact ⟨by rw [h2], rfl⟩
      case rest =>
        obtain ⟨h2, hw⟩ := hcut
        subst h2 hw
        clear hmc
        obtain ⟨q5, hq5⟩ : ∃ q, q = wc.heap.size := ⟨_, rfl⟩
        go_upto_block 0 with (first | refine wpList_load_var rfl _ rfl Try.underlying27 rfl rfl v2 (by kernel_rfl) ?_ | (refine wpList_store_var rfl _ _ rfl rfl rfl (Var.new wc #[.int .i8 0, .int .i64 0, .int .i64 0, .int .i64 0, .int .i64 0, .int .i64 0, .int .i64 0, .int .i64 0, .int .i64 0, .bool false, .int .i64 0, .int .i64 0, .int .i64 0, .bool false, .slice none 0 0] 27) rfl (by kernel_rfl) (by simp [Value.oneCell']) ?_; intro W5 v5 o5; have hv20 := (v2.alloc (.cells #[.int .i8 0, .int .i64 0, .int .i64 0, .int .i64 0, .int .i64 0, .int .i64 0, .int .i64 0, .int .i64 0, .int .i64 0, .bool false, .int .i64 0, .int .i64 0, .int .i64 0, .bool false, .slice none 0 0] 27)); have v25 := o5.var hv20 (by have := v2.lt; omega); have b25 := Only.below (below_new _) o5 (Nat.le_refl wc.heap.size)))
        have hk0 := x2
        have x5 : QIn W5 w.heap.size (⟨kind, tid, timeout, pid, ep, part, group, off, most, yes, ⟨bp, be, bs, bt, rs⟩⟩ : Rq) A n c := x2.below (b25.mono b2.size)
        have b5 := b2.trans (b25.mono b2.size)
        have hlt5 : w.heap.size < wc.heap.size := v2.lt
        rw [← hq5] at v5 o5 hlt5 ⊢
        have hz5 : q5 < W5.heap.size := v5.lt
        clear hk0 hv20 b25 v2 x2 b2 hq5 o5
        obtain ⟨d, hd⟩ : ∃ d, d = bits BinOp.and IntKind.i64 fi 3 := ⟨_, rfl⟩
        rw [← hd]
        clear hd
        go_cut [8] (fun s8 wx => ∃ (y : Rq) (A' : Option Addr) (n' c' : Nat) (hs : Bool), s8 = .bool hs ∧ Var wx q5 27 (qvals y A' n' c') ∧ QIn wx wx.heap.size y A' n' c' ∧ (-128 ≤ y.kind ∧ y.kind ≤ 127) ∧ (hs = false → ¬ y.Good) ∧ Var wx w.heap.size 27 #[.int .i8 kind, .int .i64 tid, .int .i64 timeout, .int .i64 pid, .int .i64 ep, .int .i64 part, .int .i64 group, .int .i64 off, .int .i64 most, .bool yes, .int .i64 bp, .int .i64 be, .int .i64 bs, .bool bt, .slice A n c] ∧ Below w.heap.size w wx)
        case first =>
          have c50 := v25.cell 0 rfl
          have c52 := v5.cell 2 rfl
          have c53 := v5.cell 3 rfl
          have c58 := v5.cell 8 rfl
          have f52 := v5.free 2
          have f53 := v5.free 3
          have f58 := v5.free 8
          have hset : ∀ i, Only q5 W5 (W5.setCell ⟨q5, i, none⟩ (.int .i64 m')) := fun i => Only.setCell _ _ _ _
          have V5 := Lib.hid v5
          have V25 := Lib.hid v25
          have X5 := Lib.hid x5
          have B5 := Lib.hid b5
          have SET := Lib.hid hset
          have hsetx : ∀ i, QIn (W5.setCell ⟨q5, i, none⟩ (.int .i64 m')) (W5.setCell ⟨q5, i, none⟩ (.int .i64 m')).heap.size (⟨kind, tid, timeout, pid, ep, part, group, off, most, yes, ⟨bp, be, bs, bt, rs⟩⟩ : Rq) A n c := fun i => ((x5.below (Only.below (Below.refl _ _) (hset i) (by omega)))).up (by rw [(hset i).size]; omega)
          have SETX := Lib.hid hsetx
          clear v25 x5 b5 hset hsetx
          by_cases h0 : d = 0
          · have y0 : (d == 0) = true := by simp [h0]
            clear h0 c53 c58 f53 f58 v5
            go_wp2
            go_meet
            refine ⟨(⟨kind, tid, m', pid, ep, part, group, off, most, yes, ⟨bp, be, bs, bt, rs⟩⟩ : Rq), A, n, c, (kind == 1), rfl, ?_, (SETX.out 2).alike rfl, hr, fun h => ?_, (SET.out 2).var V25.out (by omega), Only.below B5.out (SET.out 2) (by omega)⟩
            · have h9 := V5.out.set 2 (.int .i64 m')
              exact h9
            · exact stray_no (x := (⟨kind, tid, timeout, pid, ep, part, group, off, most, yes, ⟨bp, be, bs, bt, rs⟩⟩ : Rq)) (y := (⟨kind, tid, m', pid, ep, part, group, off, most, yes, ⟨bp, be, bs, bt, rs⟩⟩ : Rq)) rfl .timeout (not_timeout (by simpa using h)) (fun h => hm0 (Eq.symm h))
          · have y0 : (d == 0) = false := by simp [h0]
            by_cases h1 : d = 1
            · have y1 : (d == 1) = true := by simp [h1]
              clear h0 h1 c52 c53 f52 f53 v5
              go_wp2
              go_meet
              refine ⟨(⟨kind, tid, timeout, pid, ep, part, group, off, m', yes, ⟨bp, be, bs, bt, rs⟩⟩ : Rq), A, n, c, (kind == 5), rfl, ?_, (SETX.out 8).alike rfl, hr, fun h => ?_, (SET.out 8).var V25.out (by omega), Only.below B5.out (SET.out 8) (by omega)⟩
              · have h9 := V5.out.set 8 (.int .i64 m')
                exact h9
              · exact stray_no (x := (⟨kind, tid, timeout, pid, ep, part, group, off, most, yes, ⟨bp, be, bs, bt, rs⟩⟩ : Rq)) (y := (⟨kind, tid, timeout, pid, ep, part, group, off, m', yes, ⟨bp, be, bs, bt, rs⟩⟩ : Rq)) rfl .most (not_most (by simpa using h)) (fun h => hm0 (Eq.symm h))
            · have y1 : (d == 1) = false := by simp [h1]
              by_cases h2 : d = 2
              · have y2 : (d == 2) = true := by simp [h2]
                clear h0 h1 h2 c52 c58 f52 f58 v5
                have h9 := V5.out.set 3 (.int .i64 m')
                by_cases k3 : kind = 3
                · have e3 : (kind == 3) = true := by simp [k3]
                  clear k3
                  go_wp2
                  go_meet
                  exact ⟨(⟨kind, tid, timeout, m', ep, part, group, off, most, yes, ⟨bp, be, bs, bt, rs⟩⟩ : Rq), A, n, c, true, rfl, h9, (SETX.out 3).alike rfl, hr, fun h => (by cases h), (SET.out 3).var V25.out (by omega), Only.below B5.out (SET.out 3) (by omega)⟩
                · have e3 : (kind == 3) = false := by simp [k3]
                  have K3 := Lib.hid k3
                  clear k3
                  go_wp2
                  go_meet
                  refine ⟨(⟨kind, tid, timeout, m', ep, part, group, off, most, yes, ⟨bp, be, bs, bt, rs⟩⟩ : Rq), A, n, c, (kind == 4), rfl, h9, (SETX.out 3).alike rfl, hr, fun h => ?_, (SET.out 3).var V25.out (by omega), Only.below B5.out (SET.out 3) (by omega)⟩
                  exact stray_no (x := (⟨kind, tid, timeout, pid, ep, part, group, off, most, yes, ⟨bp, be, bs, bt, rs⟩⟩ : Rq)) (y := (⟨kind, tid, timeout, m', ep, part, group, off, most, yes, ⟨bp, be, bs, bt, rs⟩⟩ : Rq)) rfl .pid (not_pid K3.out (by simpa using h)) (fun h => hm0 (Eq.symm h))
              · have y2 : (d == 2) = false := by simp [h2]
                clear h0 h1 h2 c52 c53 c58 f52 f53 f58
                go_wp2_with (refine wpList_store_part rfl _ _ rfl [.int .i8 kind, .int .i64 tid, .int .i64 timeout, .int .i64 pid, .int .i64 ep, .int .i64 part, .int .i64 group, .int .i64 off, .int .i64 most, .bool yes] [.int .i64 bp, .int .i64 be, .int .i64 bs, .bool bt, .slice A n c] rfl rfl (v5.alloc _) rfl rfl rfl (by kernel_rfl) (by simp [Value.oneCell']) ?_; intro W6 v6 o6; have c60 := (o6.var (V25.out.alloc (.cells #[.string ⟨#[107]⟩, .string ⟨#[]⟩] 38)) (by omega)).cell 0 rfl)
                go_meet
                have hb6 : Below W5.heap.size W5 (W5.alloc (.cells #[.string ⟨#[107]⟩, .string ⟨#[]⟩] 38)) := below_new _
                have hs6 := seen_rec W5 ⟨⟨#[107]⟩, ⟨#[]⟩⟩ 38 W5.heap.size rfl
                have hbq : Below q5 W5 W6 := Only.below (hb6.mono (by omega)) o6 (Nat.le_refl _)
                have hseen : Seen W6 W6.heap.size (some ⟨W5.heap.size, 0, none⟩) (rcell ⟨⟨#[107]⟩, ⟨#[]⟩⟩) := fun hne => by
                  obtain ⟨b, o, e1, h1, h2⟩ := hs6 hne
                  injection e1 with e1
                  injection e1 with e1 e2
                  subst e1 e2
                  exact ⟨_, _, rfl, by rw [o6.size, World.size_alloc]; omega, fun j u hu => by
                    have := h2 j u hu
                    simp only [World.cell?] at this ⊢
                    rw [o6.block _ (by omega)]
                    exact this⟩
                refine ⟨(⟨kind, tid, timeout, pid, ep, part, group, off, most, yes, ⟨1, 0, 0, false, [⟨⟨#[107]⟩, ⟨#[]⟩⟩]⟩⟩ : Rq), some ⟨W5.heap.size, 0, none⟩, 1, 1, (kind == 2), rfl, v6, ⟨rfl, ?_, Nat.le_refl _, by omega, fun y hy => ?_⟩, hr, fun h => ?_, o6.var (V25.out.alloc _) (by omega), Only.below (B5.out.alloc B5.out.size _) o6 (by omega)⟩
                · simpa [rcells] using hseen
                · simp only [List.mem_cons, List.not_mem_nil, or_false] at hy
                  subst hy
                  simp [ByteArray.size]
                · exact stray_no (x := (⟨kind, tid, timeout, pid, ep, part, group, off, most, yes, ⟨bp, be, bs, bt, rs⟩⟩ : Rq)) (y := (⟨kind, tid, timeout, pid, ep, part, group, off, most, yes, ⟨1, 0, 0, false, [⟨⟨#[107]⟩, ⟨#[]⟩⟩]⟩⟩ : Rq)) rfl .batch (not_batch (by simpa using h)) (fun h => by have := congrArg Bt.pid h; simp [Rq.of, noBt] at this)
        case rest =>
          obtain ⟨y, A', n', c', hs, rfl, v6, x6, hr6, hno, v26, b6⟩ := hcut
          have on6 : On w wc w.heap.size 27 #[.int .i8 kind, .int .i64 tid, .int .i64 timeout, .int .i64 pid, .int .i64 ep, .int .i64 part, .int .i64 group, .int .i64 off, .int .i64 most, .bool yes, .int .i64 bp, .int .i64 be, .int .i64 bs, .bool bt, .slice A n c] := ⟨v26, b6⟩
          obtain ⟨ys, er, hy⟩ := yIs_of y
          have HY := Lib.hid hy
          have HNO := Lib.hid hno
          clear v26 b6 hy hno
          go_wp2_with (refine wpList_load_var rfl _ rfl Try.underlying27 rfl rfl v6 (by kernel_rfl) ?_)
          refine (qbytes_any y A' n' c' wc.heap.size ys er wc x6 (Nat.le_refl _) hr6 HY.out).mono ?_
          rintro e W7 ⟨hb7, A7, c7, l7, rfl, hl7, -, -⟩
          have on7 := on6.next hb7
          have v67 := v6.below hb7 v6.lt
          have x7 := x6.below hb7
          have hz7 := hb7.size
          have HL7 := Lib.hid hl7
          clear on6 v6 x6 hb7 hl7
          go_upto_region 20 with fail
          go_cut [77] (fun s77 wx => s77 = .bool false ∧ On w wx w.heap.size 27 #[.int .i8 kind, .int .i64 tid, .int .i64 timeout, .int .i64 pid, .int .i64 ep, .int .i64 part, .int .i64 group, .int .i64 off, .int .i64 most, .bool yes, .int .i64 bp, .int .i64 be, .int .i64 bs, .bool bt, .slice A n c])
          case first =>
            cases hs with
            | true =>
              clear v67 HY HNO HL7
              go_wp2
              go_meet
              exact ⟨rfl, on7⟩
            | false =>
              obtain ⟨rfl, rfl⟩ := HY.out.one (.inr ⟨HNO.out (by first | rfl | trivial), rfl, rfl⟩)
              have hl0 : l7 = 0 := HL7.out
              subst hl0
              go_wp2_with (refine wpList_load_want (by rfl) _ rfl Try.underlying27 rfl rfl v67 (by kernel_rfl) ?_)
              refine (qmay_any y A' n' c' wc.heap.size false W7 x7 hz7 hr6 ⟨by simp, fun h => absurd h (HNO.out (by first | rfl | trivial))⟩).mono ?_
              rintro e W8 ⟨rfl, hb8⟩
              have on8 := on7.next hb8
              clear v67 HY HNO HL7 on7 x7 hb8
              go_wp2
              go_meet
              exact ⟨rfl, on8⟩
          case rest =>
            obtain ⟨rfl, on8⟩ := hcut
            clear on7 v67 x7 HY HNO HL7 hr6 hz7
            obtain ⟨W9, hW9⟩ : ∃ W, W = wc := ⟨_, rfl⟩
            rw [← hW9] at on8
            go_upto_region 22 with fail
            have h4 : On w W9.drew w.heap.size 27 #[.int .i8 kind, .int .i64 tid, .int .i64 timeout, .int .i64 pid, .int .i64 ep, .int .i64 part, .int .i64 group, .int .i64 off, .int .i64 most, .bool yes, .int .i64 bp, .int .i64 be, .int .i64 bs, .bool bt, .slice A n c] := on8.next ((Below.refl _ _).drew)
            clear on8
            rw [← hW9]
            clear hW9
            obtain ⟨bb, hbb⟩ := iff_of' (¬ Asks kind)
            by_cases k5 : kind = 5
            · have e5 : (kind != 5) = false := by simp [k5]
              obtain rfl : bb = false := bool_off hbb (by unfold Asks; omega)
              have HBB := Lib.hid hbb
              clear k5 hbb
              refine wp_region_held_drew (S := fun w' => On w w' w.heap.size 27 #[.int .i8 kind, .int .i64 tid, .int .i64 timeout, .int .i64 pid, .int .i64 ep, .int .i64 part, .int .i64 group, .int .i64 off, .int .i64 most, .bool yes, .int .i64 bp, .int .i64 be, .int .i64 bs, .bool bt, .slice A n c]) (by kernel_rfl) h4 (fun hHeld => ?_)
              generalize W9.drew = V5 at h4 hHeld ⊢
              clear hHeld
              refine fld_takes [0, 1, 3, 4, 5] _ 11 _ _ _ (by kernel_rfl) (fun _ d _ _ _ h => by cases d <;> exact h) (by rfl) (by kernel_rfl) (by assumption) ?_
              refine fld_taken (v := ?_) rfl (by rfl) (fun w' hw' => ?_) ?_
              rotate_left
              · (go_simp <;> with_reducible rfl)
              simp only [Act.put, List.getElem_toArray, List.getElem_cons_zero, List.setIfInBounds_toArray, List.set_cons_zero, List.set_cons_succ]
              refine fld_taken (v := ?_) rfl (by rfl) (fun w' hw' => ?_) ?_
              rotate_left
              · have c0 := hw'.v.cell 0 rfl; (go_simp <;> with_reducible rfl)
              simp only [Act.put, List.getElem_toArray, List.getElem_cons_succ, List.getElem_cons_zero, List.setIfInBounds_toArray, List.set_cons_zero, List.set_cons_succ]
              refine fld_taken (v := ?_) rfl (by rfl) (fun w' hw' => ?_) ?_
              rotate_left
              · (go_simp <;> with_reducible rfl)
              simp only [Act.put, List.getElem_toArray, List.getElem_cons_succ, List.getElem_cons_zero, List.setIfInBounds_toArray, List.set_cons_zero, List.set_cons_succ]
              refine fld_taken (v := ?_) rfl (by rfl) (fun w' hw' => ?_) ?_
              rotate_left
              · have c0 := hw'.v.cell 0 rfl; (go_simp <;> with_reducible rfl)
              simp only [Act.put, List.getElem_toArray, List.getElem_cons_succ, List.getElem_cons_zero, List.setIfInBounds_toArray, List.set_cons_zero, List.set_cons_succ]
              refine fld_taken (v := ?_) rfl (by rfl) (fun w' hw' => ?_) ?_
              rotate_left
              · (go_simp <;> with_reducible rfl)
              simp only [Act.put, List.getElem_toArray, List.getElem_cons_succ, List.getElem_cons_zero, List.setIfInBounds_toArray, List.set_cons_zero, List.set_cons_succ]
              refine fld_taken_nil ?_
              refine fld_alone (i := 2) (by kernel_rfl) rfl (by rfl) (fun K hK => ?_)
              go_simp
              refine (changes_any kind _ V5 HBB.out).mono ?_
              rintro e V6 ⟨rfl, rfl⟩
              go_wp2_with fail
              refine hK.out _ _ h4 ?_
              clear hK K
              refine fld_takes [6, 7, 8, 9, 10, 11, 12] _ 3 _ _ _ (by kernel_rfl) (fun _ d _ _ _ h => by cases d <;> exact h) (by rfl) (by kernel_rfl) (by assumption) ?_
              refine fld_taken (v := ?_) rfl (by rfl) (fun w' hw' => ?_) ?_
              rotate_left
              · (go_simp <;> with_reducible rfl)
              simp only [Act.put, List.getElem_toArray, List.getElem_cons_succ, List.getElem_cons_zero, List.setIfInBounds_toArray, List.set_cons_zero, List.set_cons_succ]
              refine fld_skipped rfl (by rfl) ?_
              simp only [Act.put, List.getElem_toArray, List.getElem_cons_succ, List.getElem_cons_zero, List.setIfInBounds_toArray, List.set_cons_zero, List.set_cons_succ]
              refine fld_skipped rfl (by rfl) ?_
              simp only [Act.put, List.getElem_toArray, List.getElem_cons_succ, List.getElem_cons_zero, List.setIfInBounds_toArray, List.set_cons_zero, List.set_cons_succ]
              refine fld_skipped rfl (by rfl) ?_
              simp only [Act.put, List.getElem_toArray, List.getElem_cons_succ, List.getElem_cons_zero, List.setIfInBounds_toArray, List.set_cons_zero, List.set_cons_succ]
              refine fld_taken (v := ?_) rfl (by rfl) (fun w' hw' => ?_) ?_
              rotate_left
              · (go_simp <;> with_reducible rfl)
              simp only [Act.put, List.getElem_toArray, List.getElem_cons_succ, List.getElem_cons_zero, List.setIfInBounds_toArray, List.set_cons_zero, List.set_cons_succ]
              refine fld_taken (v := ?_) rfl (by rfl) (fun w' hw' => ?_) ?_
              rotate_left
              · (go_simp <;> with_reducible rfl)
              simp only [Act.put, List.getElem_toArray, List.getElem_cons_succ, List.getElem_cons_zero, List.setIfInBounds_toArray, List.set_cons_zero, List.set_cons_succ]
              refine fld_taken (v := ?_) rfl (by rfl) (fun w' hw' => ?_) ?_
              rotate_left
              · (go_simp <;> with_reducible rfl)
              simp only [Act.put, List.getElem_toArray, List.getElem_cons_succ, List.getElem_cons_zero, List.setIfInBounds_toArray, List.set_cons_zero, List.set_cons_succ]
              refine fld_taken_nil ?_
              refine fld_alone (i := 13) (by kernel_rfl) rfl (by rfl) (fun K hK => ?_)
              go_simp
              refine (qwakes_any V5).mono ?_
              rintro e V7 ⟨rfl, hb⟩
              have h6 := h4.next hb
              clear hb
              go_wp2_with fail
              refine hK.out _ _ h6 ?_
              clear hK K
              refine fld_takes [14, 15] _ 0 _ _ _ (by kernel_rfl) (fun _ d _ _ _ h => by cases d <;> exact h) (by rfl) (by kernel_rfl) (by assumption) ?_
              refine fld_taken (v := ?_) rfl (by rfl) (fun w' hw' => ?_) ?_
              rotate_left
              · (go_simp <;> with_reducible rfl)
              simp only [Act.put, List.getElem_toArray, List.getElem_cons_succ, List.getElem_cons_zero, List.setIfInBounds_toArray, List.set_cons_zero, List.set_cons_succ]
              refine fld_taken (v := ?_) rfl (by rfl) (fun w' hw' => ?_) ?_
              rotate_left
              · (go_simp <;> with_reducible rfl)
              simp only [Act.put, List.getElem_toArray, List.getElem_cons_succ, List.getElem_cons_zero, List.setIfInBounds_toArray, List.set_cons_zero, List.set_cons_succ]
              refine fld_taken_nil ?_
              refine wpAnyH_done (by kernel_rfl) ?_ _
              have hfin := h6.below
              go_wp2
              go_ret
              exact ⟨rfl, hfin⟩
            · have e5 : (kind != 5) = true := by simp [k5]
              by_cases k7 : kind = 7
              · have e7 : (kind != 7) = false := by simp [k7]
                obtain rfl : bb = false := bool_off hbb (by unfold Asks; omega)
                have HBB := Lib.hid hbb
                clear k5 k7 hbb
                refine wp_region_held_drew (S := fun w' => On w w' w.heap.size 27 #[.int .i8 kind, .int .i64 tid, .int .i64 timeout, .int .i64 pid, .int .i64 ep, .int .i64 part, .int .i64 group, .int .i64 off, .int .i64 most, .bool yes, .int .i64 bp, .int .i64 be, .int .i64 bs, .bool bt, .slice A n c]) (by kernel_rfl) h4 (fun hHeld => ?_)
                generalize W9.drew = V5 at h4 hHeld ⊢
                clear hHeld
                refine fld_takes [0, 1, 3, 4, 5] _ 11 _ _ _ (by kernel_rfl) (fun _ d _ _ _ h => by cases d <;> exact h) (by rfl) (by kernel_rfl) (by assumption) ?_
                refine fld_taken (v := ?_) rfl (by rfl) (fun w' hw' => ?_) ?_
                rotate_left
                · (go_simp <;> with_reducible rfl)
                simp only [Act.put, List.getElem_toArray, List.getElem_cons_zero, List.setIfInBounds_toArray, List.set_cons_zero, List.set_cons_succ]
                refine fld_taken (v := ?_) rfl (by rfl) (fun w' hw' => ?_) ?_
                rotate_left
                · have c0 := hw'.v.cell 0 rfl; (go_simp <;> with_reducible rfl)
                simp only [Act.put, List.getElem_toArray, List.getElem_cons_succ, List.getElem_cons_zero, List.setIfInBounds_toArray, List.set_cons_zero, List.set_cons_succ]
                refine fld_taken (v := ?_) rfl (by rfl) (fun w' hw' => ?_) ?_
                rotate_left
                · (go_simp <;> with_reducible rfl)
                simp only [Act.put, List.getElem_toArray, List.getElem_cons_succ, List.getElem_cons_zero, List.setIfInBounds_toArray, List.set_cons_zero, List.set_cons_succ]
                refine fld_taken (v := ?_) rfl (by rfl) (fun w' hw' => ?_) ?_
                rotate_left
                · have c0 := hw'.v.cell 0 rfl; (go_simp <;> with_reducible rfl)
                simp only [Act.put, List.getElem_toArray, List.getElem_cons_succ, List.getElem_cons_zero, List.setIfInBounds_toArray, List.set_cons_zero, List.set_cons_succ]
                refine fld_taken (v := ?_) rfl (by rfl) (fun w' hw' => ?_) ?_
                rotate_left
                · (go_simp <;> with_reducible rfl)
                simp only [Act.put, List.getElem_toArray, List.getElem_cons_succ, List.getElem_cons_zero, List.setIfInBounds_toArray, List.set_cons_zero, List.set_cons_succ]
                refine fld_taken_nil ?_
                refine fld_alone (i := 2) (by kernel_rfl) rfl (by rfl) (fun K hK => ?_)
                go_simp
                refine (changes_any kind _ V5 HBB.out).mono ?_
                rintro e V6 ⟨rfl, rfl⟩
                go_wp2_with fail
                refine hK.out _ _ h4 ?_
                clear hK K
                refine fld_takes [6, 7, 8, 9, 10, 11, 12] _ 3 _ _ _ (by kernel_rfl) (fun _ d _ _ _ h => by cases d <;> exact h) (by rfl) (by kernel_rfl) (by assumption) ?_
                refine fld_taken (v := ?_) rfl (by rfl) (fun w' hw' => ?_) ?_
                rotate_left
                · (go_simp <;> with_reducible rfl)
                simp only [Act.put, List.getElem_toArray, List.getElem_cons_succ, List.getElem_cons_zero, List.setIfInBounds_toArray, List.set_cons_zero, List.set_cons_succ]
                refine fld_taken (v := ?_) rfl (by rfl) (fun w' hw' => ?_) ?_
                rotate_left
                · (go_simp <;> with_reducible rfl)
                simp only [Act.put, List.getElem_toArray, List.getElem_cons_succ, List.getElem_cons_zero, List.setIfInBounds_toArray, List.set_cons_zero, List.set_cons_succ]
                refine fld_taken (v := ?_) rfl (by rfl) (fun w' hw' => ?_) ?_
                rotate_left
                · have c0 := hw'.v.cell 0 rfl; (go_simp <;> with_reducible rfl)
                simp only [Act.put, List.getElem_toArray, List.getElem_cons_succ, List.getElem_cons_zero, List.setIfInBounds_toArray, List.set_cons_zero, List.set_cons_succ]
                refine fld_taken (v := ?_) rfl (by rfl) (fun w' hw' => ?_) ?_
                rotate_left
                · (go_simp <;> with_reducible rfl)
                simp only [Act.put, List.getElem_toArray, List.getElem_cons_succ, List.getElem_cons_zero, List.setIfInBounds_toArray, List.set_cons_zero, List.set_cons_succ]
                refine fld_taken (v := ?_) rfl (by rfl) (fun w' hw' => ?_) ?_
                rotate_left
                · (go_simp <;> with_reducible rfl)
                simp only [Act.put, List.getElem_toArray, List.getElem_cons_succ, List.getElem_cons_zero, List.setIfInBounds_toArray, List.set_cons_zero, List.set_cons_succ]
                refine fld_taken (v := ?_) rfl (by rfl) (fun w' hw' => ?_) ?_
                rotate_left
                · (go_simp <;> with_reducible rfl)
                simp only [Act.put, List.getElem_toArray, List.getElem_cons_succ, List.getElem_cons_zero, List.setIfInBounds_toArray, List.set_cons_zero, List.set_cons_succ]
                refine fld_taken (v := ?_) rfl (by rfl) (fun w' hw' => ?_) ?_
                rotate_left
                · (go_simp <;> with_reducible rfl)
                simp only [Act.put, List.getElem_toArray, List.getElem_cons_succ, List.getElem_cons_zero, List.setIfInBounds_toArray, List.set_cons_zero, List.set_cons_succ]
                refine fld_taken_nil ?_
                refine fld_alone (i := 13) (by kernel_rfl) rfl (by rfl) (fun K hK => ?_)
                go_simp
                refine (qwakes_any V5).mono ?_
                rintro e V7 ⟨rfl, hb⟩
                have h6 := h4.next hb
                clear hb
                go_wp2_with fail
                refine hK.out _ _ h6 ?_
                clear hK K
                refine fld_takes [14, 15] _ 0 _ _ _ (by kernel_rfl) (fun _ d _ _ _ h => by cases d <;> exact h) (by rfl) (by kernel_rfl) (by assumption) ?_
                refine fld_taken (v := ?_) rfl (by rfl) (fun w' hw' => ?_) ?_
                rotate_left
                · (go_simp <;> with_reducible rfl)
                simp only [Act.put, List.getElem_toArray, List.getElem_cons_succ, List.getElem_cons_zero, List.setIfInBounds_toArray, List.set_cons_zero, List.set_cons_succ]
                refine fld_taken (v := ?_) rfl (by rfl) (fun w' hw' => ?_) ?_
                rotate_left
                · (go_simp <;> with_reducible rfl)
                simp only [Act.put, List.getElem_toArray, List.getElem_cons_succ, List.getElem_cons_zero, List.setIfInBounds_toArray, List.set_cons_zero, List.set_cons_succ]
                refine fld_taken_nil ?_
                refine wpAnyH_done (by kernel_rfl) ?_ _
                have hfin := h6.below
                go_wp2
                go_ret
                exact ⟨rfl, hfin⟩
              · have e7 : (kind != 7) = true := by simp [k7]
                obtain rfl : bb = true := hbb.2 (by unfold Asks; omega)
                have HBB := Lib.hid hbb
                clear k5 k7 hbb
                refine wp_region_held_drew (S := fun w' => On w w' w.heap.size 27 #[.int .i8 kind, .int .i64 tid, .int .i64 timeout, .int .i64 pid, .int .i64 ep, .int .i64 part, .int .i64 group, .int .i64 off, .int .i64 most, .bool yes, .int .i64 bp, .int .i64 be, .int .i64 bs, .bool bt, .slice A n c]) (by kernel_rfl) h4 (fun hHeld => ?_)
                generalize W9.drew = V5 at h4 hHeld ⊢
                clear hHeld
                refine fld_takes [0, 1, 3, 4, 5] _ 11 _ _ _ (by kernel_rfl) (fun _ d _ _ _ h => by cases d <;> exact h) (by rfl) (by kernel_rfl) (by assumption) ?_
                refine fld_taken (v := ?_) rfl (by rfl) (fun w' hw' => ?_) ?_
                rotate_left
                · (go_simp <;> with_reducible rfl)
                simp only [Act.put, List.getElem_toArray, List.getElem_cons_zero, List.setIfInBounds_toArray, List.set_cons_zero, List.set_cons_succ]
                refine fld_taken (v := ?_) rfl (by rfl) (fun w' hw' => ?_) ?_
                rotate_left
                · have c0 := hw'.v.cell 0 rfl; (go_simp <;> with_reducible rfl)
                simp only [Act.put, List.getElem_toArray, List.getElem_cons_succ, List.getElem_cons_zero, List.setIfInBounds_toArray, List.set_cons_zero, List.set_cons_succ]
                refine fld_taken (v := ?_) rfl (by rfl) (fun w' hw' => ?_) ?_
                rotate_left
                · (go_simp <;> with_reducible rfl)
                simp only [Act.put, List.getElem_toArray, List.getElem_cons_succ, List.getElem_cons_zero, List.setIfInBounds_toArray, List.set_cons_zero, List.set_cons_succ]
                refine fld_taken (v := ?_) rfl (by rfl) (fun w' hw' => ?_) ?_
                rotate_left
                · have c0 := hw'.v.cell 0 rfl; (go_simp <;> with_reducible rfl)
                simp only [Act.put, List.getElem_toArray, List.getElem_cons_succ, List.getElem_cons_zero, List.setIfInBounds_toArray, List.set_cons_zero, List.set_cons_succ]
                refine fld_taken (v := ?_) rfl (by rfl) (fun w' hw' => ?_) ?_
                rotate_left
                · (go_simp <;> with_reducible rfl)
                simp only [Act.put, List.getElem_toArray, List.getElem_cons_succ, List.getElem_cons_zero, List.setIfInBounds_toArray, List.set_cons_zero, List.set_cons_succ]
                refine fld_taken_nil ?_
                refine fld_alone (i := 2) (by kernel_rfl) rfl (by rfl) (fun K hK => ?_)
                go_simp
                refine (changes_any kind _ V5 HBB.out).mono ?_
                rintro e V6 ⟨rfl, rfl⟩
                go_wp2_with fail
                refine hK.out _ _ h4 ?_
                clear hK K
                refine fld_takes [6, 7, 8, 9, 10, 11, 12] _ 3 _ _ _ (by kernel_rfl) (fun _ d _ _ _ h => by cases d <;> exact h) (by rfl) (by kernel_rfl) (by assumption) ?_
                refine fld_taken (v := ?_) rfl (by rfl) (fun w' hw' => ?_) ?_
                rotate_left
                · (go_simp <;> with_reducible rfl)
                simp only [Act.put, List.getElem_toArray, List.getElem_cons_succ, List.getElem_cons_zero, List.setIfInBounds_toArray, List.set_cons_zero, List.set_cons_succ]
                refine fld_taken (v := ?_) rfl (by rfl) (fun w' hw' => ?_) ?_
                rotate_left
                · (go_simp <;> with_reducible rfl)
                simp only [Act.put, List.getElem_toArray, List.getElem_cons_succ, List.getElem_cons_zero, List.setIfInBounds_toArray, List.set_cons_zero, List.set_cons_succ]
                refine fld_taken (v := ?_) rfl (by rfl) (fun w' hw' => ?_) ?_
                rotate_left
                · have c0 := hw'.v.cell 0 rfl; (go_simp <;> with_reducible rfl)
                simp only [Act.put, List.getElem_toArray, List.getElem_cons_succ, List.getElem_cons_zero, List.setIfInBounds_toArray, List.set_cons_zero, List.set_cons_succ]
                refine fld_taken (v := ?_) rfl (by rfl) (fun w' hw' => ?_) ?_
                rotate_left
                · (go_simp <;> with_reducible rfl)
                simp only [Act.put, List.getElem_toArray, List.getElem_cons_succ, List.getElem_cons_zero, List.setIfInBounds_toArray, List.set_cons_zero, List.set_cons_succ]
                refine fld_taken (v := ?_) rfl (by rfl) (fun w' hw' => ?_) ?_
                rotate_left
                · (go_simp <;> with_reducible rfl)
                simp only [Act.put, List.getElem_toArray, List.getElem_cons_succ, List.getElem_cons_zero, List.setIfInBounds_toArray, List.set_cons_zero, List.set_cons_succ]
                refine fld_taken (v := ?_) rfl (by rfl) (fun w' hw' => ?_) ?_
                rotate_left
                · (go_simp <;> with_reducible rfl)
                simp only [Act.put, List.getElem_toArray, List.getElem_cons_succ, List.getElem_cons_zero, List.setIfInBounds_toArray, List.set_cons_zero, List.set_cons_succ]
                refine fld_taken (v := ?_) rfl (by rfl) (fun w' hw' => ?_) ?_
                rotate_left
                · (go_simp <;> with_reducible rfl)
                simp only [Act.put, List.getElem_toArray, List.getElem_cons_succ, List.getElem_cons_zero, List.setIfInBounds_toArray, List.set_cons_zero, List.set_cons_succ]
                refine fld_taken_nil ?_
                refine fld_alone (i := 13) (by kernel_rfl) rfl (by rfl) (fun K hK => ?_)
                go_simp
                refine (qwakes_any V5).mono ?_
                rintro e V7 ⟨rfl, hb⟩
                have h6 := h4.next hb
                clear hb
                go_wp2_with fail
                refine hK.out _ _ h6 ?_
                clear hK K
                refine fld_takes [14, 15] _ 0 _ _ _ (by kernel_rfl) (fun _ d _ _ _ h => by cases d <;> exact h) (by rfl) (by kernel_rfl) (by assumption) ?_
                refine fld_taken (v := ?_) rfl (by rfl) (fun w' hw' => ?_) ?_
                rotate_left
                · (go_simp <;> with_reducible rfl)
                simp only [Act.put, List.getElem_toArray, List.getElem_cons_succ, List.getElem_cons_zero, List.setIfInBounds_toArray, List.set_cons_zero, List.set_cons_succ]
                refine fld_taken (v := ?_) rfl (by rfl) (fun w' hw' => ?_) ?_
                rotate_left
                · (go_simp <;> with_reducible rfl)
                simp only [Act.put, List.getElem_toArray, List.getElem_cons_succ, List.getElem_cons_zero, List.setIfInBounds_toArray, List.set_cons_zero, List.set_cons_succ]
                refine fld_taken_nil ?_
                refine wpAnyH_done (by kernel_rfl) ?_ _
                have hfin := h6.below
                go_wp2
                go_ret
                exact ⟨rfl, hfin⟩
end Go.Proofs.Ytfcifblbapadpaa
