/-
  The walk over RequestFirst: it returns true and turns nothing that was there. Conditions: what is said of the argument; the one package variable of errors holds what the program's text lays (Glob).
-/
import Derived.Test.YtfcifblbapadpaaDoorReqByteWalk
import Derived.Test.YtfcifblbapadpaaDoorReqIn
import Derived.Test.YtfcifblbapadpaaDoorRecGreat
import Derived.Test.YtfcifblbapadpaaDoorRecBackPlain
namespace Go.Proofs.YtfcifblbapadpaaDoor
open Go.RowKit

theorem exec_load_m {P : Program} {w : World} {b o ty : Nat} {cs : List Value} {ρ : Operand → Value} {op : Oper} {x : Operand} {d : TypeDesc} (ho : op.op = .load ty x) (hx : ρ x = .pointer (some ⟨b, o, none⟩)) (hv : w.rangeAt b o cs) (hu : P.underlying ty = some d)
    (hd : d.isRow = true) (hi : (P.info? ty).map (·.size) = some cs.length) : (execOp ρ op).run P w = .ok (.value (.agg cs.toArray)) w := by
  unfold execOp
  simp only [ho, hx, Instr.loadAt, Instr.sureAddr, Sem.run_bind, Sem.run_pure, Result.andThen_ok, run_loadVar_mid w b o ty cs d hv hu hd hi]
theorem wpList_load_midw {P : Program} {ops : Array Oper} {rest : List Oper} {op : Oper} {a : Act} {w : World} {Q : Exit → Act → World → Prop} (hw : Region.wanted op (yielded ops a.tmps) = true) (ty : TypeId) (x : Operand) (ho : op.op = .load ty x)
    (b o : Nat) (hx : a.eval x = .pointer (some ⟨b, o, none⟩)) (cs : List Value) (d : TypeDesc) (hc : w.rangeAt b o cs) (hu : P.underlying ty = some d) (hd : d.isRow = true) (hi : (P.info? ty).map (·.size) = some cs.length)
    (h : wpList P ops Q rest (a.put op.dst (.agg cs.toArray)) w) : wpList P ops Q (op :: rest) a w :=
  BigFrame.wpList_want hw fun _ hK => wp_load_mid ty x ho b o hx cs d hc hu hd hi (hK _ _ h)

/-! ### the bytes of requests, one behind the other -/
def flat (l : List QX) : List UInt8 := l.flatMap fun e => e.x.enc
theorem flat_step {l : List QX} {j : Nat} {r : QX} (h : l[j]? = some r) : flat (l.take (j + 1)) = flat (l.take j) ++ r.x.enc := by
  rw [List.take_add_one, h]
  simp [flat]
theorem flat_drop {l : List QX} {j : Nat} {r : QX} (h : l[j]? = some r) : flat (l.drop j) = r.x.enc ++ flat (l.drop (j + 1)) := by
  obtain ⟨h1, h2⟩ := List.getElem?_eq_some_iff.1 h
  rw [List.drop_eq_getElem_cons h1, h2]
  simp [flat]
theorem encF_le {y : Rq} {f : Fd} (h : y.Ok true f) (hf : f ≠ .batch) : (y.encF f).length ≤ 6 := by
  have key : ∀ n : Int, n ≤ 1099511627776 → (VP.enc n.toNat).length ≤ 6 := fun n hn => VP.enc_six (by omega)
  cases f
  case batch => exact absurd rfl hf
  case yes => simp [Rq.encF]
  case fin => simp [Rq.encF]
  all_goals exact key _ (by have := h.2; simp only [Fd.hi] at this; omega)
theorem encB_le {y : Rq} (h : y.Ok true .batch) : (y.encF .batch).length ≤ 166 := by
  have h1 := Bt.enc_le h
  have h2 := VP.enc_six (n := y.b.enc.length) (by omega)
  simp only [Rq.encF, List.length_append]
  omega
theorem rq_enc_le {y : Rq} (h : y.Good) : y.enc.length ≤ 190 := by
  have hk := VP.enc_six (n := y.kind.toNat) (by have := h.1.2; omega)
  have key : ∀ fs : List Fd, (∀ f ∈ fs, y.Ok true f) → Fd.batch ∉ fs → (encFs y fs).length ≤ 6 * fs.length := fun fs => by
    induction fs with
    | nil => intro _ _; simp [encFs]
    | cons f fs ih =>
      intro h1 h2
      rw [List.mem_cons, not_or] at h2
      have e1 := encF_le (h1 f (by simp)) (Ne.symm h2.1)
      have e2 := ih (fun g hg => h1 g (by simp [hg])) h2.2
      rw [encFs_cons, List.length_append, List.length_cons]
      omega
  have h5 := fds_five y.kind
  unfold Rq.enc
  rw [List.length_append]
  by_cases h2 : y.kind = 2
  · have hf : fdsOf y.kind = [.part, .batch] := by rw [h2]; simp [fdsOf]
    have g := h.2.1
    rw [hf] at g ⊢
    have e1 := encF_le (g .part (by simp)) (by simp)
    have e2 := encB_le (g .batch (by simp))
    rw [encFs_cons, encFs_cons, List.length_append, List.length_append]
    simp only [encFs, List.flatMap_nil, List.length_nil]
    omega
  · have hb : Fd.batch ∉ fdsOf y.kind := by
      unfold fdsOf
      (repeat' split) <;> simp_all
    have := key _ h.2.1 hb
    omega
theorem flat_le : ∀ (l : List QX), (∀ e ∈ l, e.x.Good) → (flat l).length ≤ 190 * l.length
  | [], _ => by simp [flat]
  | e :: l, h => by
    have h1 := rq_enc_le (h e (by simp))
    have h2 := flat_le l fun f hf => h f (by simp [hf])
    simp only [flat, List.flatMap_cons, List.length_append, List.length_cons] at h2 ⊢
    omega
/-- Of the beginnings the first one's bytes alone are a request. -/
theorem first_is {s : ByteArray} {r z : Rq} {rest : List UInt8} {k : Nat} {e : Int} (hr : r.Good) (hT : bytesOf s = r.enc ++ rest) (hk : k ≤ s.size) (hq : QIs (s.extract 0 k) z e) : (e = 0 ∧ k = r.enc.length ∧ z = r) ∨ (e = 70 ∧ k ≠ r.enc.length) := by
  have hb : bytesOf (s.extract 0 k) = (r.enc ++ rest).take k := by rw [bytesOf_extract, hT, List.drop_zero, Nat.sub_zero]
  by_cases hkr : k = r.enc.length
  · have h9 : QIs (s.extract 0 k) r 0 := .inl ⟨by rw [hb, hkr, List.take_left], hr, rfl⟩
    obtain ⟨h1, h2⟩ := hq.one h9
    exact .inl ⟨h2, hkr, h1⟩
  · rcases hq with ⟨h1, h2, _⟩ | ⟨_, _, h⟩
    · exfalso
      rw [hb] at h1
      have hl := congrArg List.length hT
      rw [bytesOf_length, List.length_append] at hl
      rcases Nat.lt_or_ge k r.enc.length with hlt | hge
      · rw [List.take_append_of_le_length (by omega)] at h1
        have h3 : r.enc = z.enc ++ r.enc.drop k := by rw [← h1, List.take_append_drop]
        have h4 := (rq_begins hr h2 h3).2
        have := congrArg List.length h4
        rw [List.length_drop, List.length_nil] at this
        omega
      · rw [List.take_append, List.take_of_length_le hge] at h1
        have h4 := (rq_begins h2 hr h1.symm).2
        have := congrArg List.length h4
        rw [List.length_take, List.length_nil] at this
        omega
    · exact .inr ⟨h, hkr⟩

set_option maxRecDepth 100000 in
set_option maxHeartbeats 4000000 in
theorem first_walk (A : Option Addr) (n cap : Nat) (l : List QX) (w : World) (hG : Glob w) (hl : QsIn w w.heap.size l A n) :
    Calls Tryd.prog 3 #[.slice A n cap] w fun e w' => e = .returned (.bool true) ∧ Below w.heap.size w w' := by
  by_cases h1 : 6 < n
  · have t1 : decide ((6 : Int) < (n : Int)) = true := by simp; omega
    clear hl hG
    go_enter Tryd.func3, Tryd.ntmps3
    go_wp2_with fail
    refine (qwakes_any w).mono ?_
    rintro e W1 ⟨rfl, b1⟩
    go_wp2
    go_ret
    exact ⟨rfl, b1⟩
  have t1 : decide ((6 : Int) < (n : Int)) = false := by simp; omega
  have HL := Lib.hid hl
  clear hl
  go_enter Tryd.func3, Tryd.ntmps3
  go_wp2
  go_loopw [3, 4] (fun s3 s4 wr => ∃ (j : Nat) (S : ByteArray), j ≤ n ∧ s4 = .int .i64 j ∧ s3 = .string S ∧ Below w.heap.size w wr ∧ Hid (bytesOf S = flat (l.take j)) ∧ Hid (∀ e ∈ l.take j, e.x.Good)) (fun _ i _ => n - (intOf i).toNat)
  case atStart => exact ⟨0, ⟨#[]⟩, by omega, rfl, rfl, Below.refl _ _, rfl, fun e he => (by simp at he)⟩
  case round =>
    obtain ⟨j, S, hj, rfl, rfl, hb, HS, HGD⟩ := hrel
    by_cases hlt : j < n
    · obtain ⟨r, hr⟩ : ∃ r, l[j]? = some r := ⟨_, List.getElem?_eq_getElem (by have := HL.out.len; omega)⟩
      obtain ⟨b, off, rfl, hbb, hcell⟩ := qx_at (HL.out.seen.below hb) hr
      obtain ⟨hin0, hrange⟩ := HL.out.each r (List.mem_of_getElem? hr)
      have hin := hin0.below hb
      have hbw : b < wr.heap.size := by have := hb.size; omega
      obtain ⟨ys, er, hy⟩ := yIs_of r.x
      have HR := Lib.hid hr
      have HY := Lib.hid hy
      have c10 : wr.cell? ⟨b, off + j * 15 + 10, none⟩ = some (.int .i64 r.x.b.pid) := hcell 10 _ rfl
      have c11 : wr.cell? ⟨b, off + j * 15 + 11, none⟩ = some (.int .i64 r.x.b.ep) := hcell 11 _ rfl
      have c12 : wr.cell? ⟨b, off + j * 15 + 12, none⟩ = some (.int .i64 r.x.b.sq) := hcell 12 _ rfl
      have c13 : wr.cell? ⟨b, off + j * 15 + 13, none⟩ = some (.bool r.x.b.tx) := hcell 13 _ rfl
      have c14 : wr.cell? ⟨b, off + j * 15 + 14, none⟩ = some (.slice r.A r.n r.c) := hcell 14 _ rfl
      clear hr hy hin0
      go_wp2_with fail
      refine (great_any r.A r.n r.c w.heap.size r.x.b.rs r.x.b.pid r.x.b.ep r.x.b.sq r.x.b.tx wr hin.len hin.seen hb.size hin.max hin.sizes).mono ?_
      rintro e W1 ⟨g1, rfl, -, hb1⟩
      have b1 := hb.trans (hb1.mono hb.size)
      have hin1 := hin.below (hb1.mono hb.size)
      have hcell1 : W1.rangeAt b (off + j * 15) (qcell r) := fun i v hv => (hb1.cell (p := ⟨b, off + j * 15 + i, none⟩) hbw).trans (hcell i v hv)
      have hbw1 : b < W1.heap.size := by have := hb1.size; omega
      clear c10 c11 c12 c13 c14 hcell hin hb hb1
      cases g1 with
      | true =>
        go_wp2_with fail
        refine (qwakes_any _).mono ?_
        rintro e w9 ⟨rfl, hb⟩
        have b9 := b1.trans (hb.mono b1.size)
        go_wp2
        go_ret
        exact ⟨rfl, b9⟩
      | false =>
        go_wp2_with (refine wpList_load_mid rfl _ _ rfl b (off + j * 15) rfl (qcell r) _ hcell1 Tryd.underlying30 rfl (by kernel_rfl) ?_)
        refine (show Calls _ _ #[.agg (qcell r).toArray] _ _ from qbytes_any r.x r.A r.n r.c w.heap.size ys er W1 hin1 b1.size hrange HY.out).mono ?_
        rintro e W2 ⟨hb2, A2, c2, l2, rfl, hl2, hs2, -⟩
        have b2 := b1.trans (hb2.mono b1.size)
        have hin2 := hin1.below (hb2.mono b1.size)
        have hcell2 : W2.rangeAt b (off + j * 15) (qcell r) := fun i v hv => (hb2.cell (p := ⟨b, off + j * 15 + i, none⟩) hbw1).trans (hcell1 i v hv)
        clear hcell1 hin1 b1 hb2
        rcases HY.out with ⟨hg, rfl, rfl⟩ | ⟨hg, rfl, rfl⟩
        · have st := str_now hs2 31 9 5 l2 c2 hl2 Tryd.underlying31 Tryd.underlying5 Tryd.underlying9
          obtain ⟨T2, hT2⟩ : ∃ T : ByteArray, T = ⟨r.x.enc.toArray⟩ := ⟨_, rfl⟩
          rw [← hT2] at st
          have HS2 : Hid (bytesOf (S ++ T2) = flat (l.take (j + 1))) := by
            exact (bytesOf_append S T2).trans (by rw [HS.out, hT2, bytesOf_mk, flat_step HR.out])
          have HG2 : Hid (∀ e ∈ l.take (j + 1), e.x.Good) := by
            intro e he
            rw [List.take_add_one, HR.out] at he
            rcases List.mem_append.1 he with h | h
            · exact HGD.out e h
            · simp at h
              rw [h]
              exact hg
          have hs9 : S.size + T2.size ≤ 1400 := by
            have h9 := flat_le (l.take j) HGD.out
            rw [← HS.out, bytesOf_length, List.length_take] at h9
            have h8 := rq_enc_le hg
            have h7 : T2.size = r.x.enc.length := by rw [hT2, ← bytesOf_length, bytesOf_mk]
            have : 190 * (min j l.length) ≤ 190 * 6 := Nat.mul_le_mul_left _ (by omega)
            omega
          clear hT2 hs2 hl2 hcell2 hin2 HY
          go_wp2
          go_roundw
          case rel => exact ⟨j + 1, S ++ T2, by omega, by go_num, rfl, b2, HS2, HG2⟩
          case measure => simp [intOf]; omega
        · have hl0 : l2 = 0 := hl2
          clear hl2 hs2 HY
          subst hl0
          go_wp2_with (refine wpList_load_midw (by rfl) _ _ rfl b (off + j * 15) rfl (qcell r) _ hcell2 Tryd.underlying30 rfl (by kernel_rfl) ?_)
          refine (show Calls _ _ #[.agg (qcell r).toArray] _ _ from qmay_any r.x r.A r.n r.c w.heap.size false W2 hin2 b2.size hrange ⟨by simp, fun h => absurd h hg⟩).mono ?_
          rintro e W3 ⟨rfl, hb3⟩
          have b3 := b2.trans (hb3.mono b2.size)
          clear hcell2 hin2 b2 hb3
          go_wp2_with fail
          refine (qwakes_any _).mono ?_
          rintro e w9 ⟨rfl, hb⟩
          have b9 := b3.trans (hb.mono b3.size)
          go_wp2
          go_ret
          exact ⟨rfl, b9⟩
    · have hjn : j = n := by omega
      subst hjn
      have htk : l.take j = l := List.take_of_length_le (by rw [HL.out.len]; exact Nat.le_refl _)
      have hS := HS.out
      have hGD := HGD.out
      rw [htk] at hS hGD
      have HS0 := Lib.hid hS
      have HG := Lib.hid hGD
      clear HS HGD hS hGD htk
      go_wp2
      go_loopw [3, 7] (fun s3 s7 wr => ∃ (i : Nat) (S : ByteArray), i ≤ j ∧ s7 = .int .i64 i ∧ s3 = .string S ∧ Below w.heap.size w wr ∧ Hid (bytesOf S = flat (l.drop i))) (fun _ i _ => j - (intOf i).toNat)
      case atStart => exact ⟨0, S, by omega, rfl, rfl, hb, (by show _ = _; rw [List.drop_zero]; exact HS0.out)⟩
      case round =>
        obtain ⟨i, S, hi, rfl, rfl, hb, HS⟩ := hrel
        by_cases hlt : i < j
        · obtain ⟨r, hr⟩ : ∃ r, l[i]? = some r := ⟨_, List.getElem?_eq_getElem (by have := HL.out.len; omega)⟩
          have hgr := HG.out r (List.mem_of_getElem? hr)
          have hS := HS.out
          have hST := hS.trans (flat_drop hr)
          obtain ⟨L0, hL0⟩ : ∃ L, L = r.x.enc.length := ⟨_, rfl⟩
          have h250 : L0 ≤ 190 := by rw [hL0]; exact rq_enc_le hgr
          have hpos : 0 < L0 := by rw [hL0]; exact Rq.enc_pos _
          have hSz : S.size = L0 + (flat (l.drop (i + 1))).length := by rw [← bytesOf_length, hST, List.length_append, hL0]
          have hS6 : S.size ≤ 1140 := by
            have h9 := flat_le (l.drop i) fun e he => HG.out e (List.mem_of_mem_drop he)
            rw [← hS, bytesOf_length, List.length_drop, HL.out.len] at h9
            have : 190 * (j - i) ≤ 190 * 6 := Nat.mul_le_mul_left _ (by omega)
            omega
          have HST := Lib.hid hST
          have HL0 := Lib.hid hL0
          have HR := Lib.hid hr
          have HSZ := Lib.hid hSz
          clear hr hS hST hL0 hSz HS
          go_wp2
          go_loopw [8, 9] (fun s8 s9 wr => ∃ (k m : Nat), k ≤ 251 ∧ k ≤ S.size + 1 ∧ s9 = .int .i64 k ∧ s8 = .int .i64 m ∧ ((k ≤ L0 ∧ m = 0) ∨ (L0 < k ∧ m = L0)) ∧ Below w.heap.size w wr) (fun _ i _ => 300 - (intOf i).toNat)
          case atStart => exact ⟨0, 0, by omega, by omega, rfl, rfl, .inl ⟨by omega, rfl⟩, hb⟩
          case round =>
            obtain ⟨k, m, hk1, hk2, rfl, rfl, hkm, hbq⟩ := hrel
            by_cases hk3 : k ≤ S.size ∧ k ≤ 250
            · have d1 : decide ((k : Int) ≤ (S.size : Int)) = true := by simp; omega
              have d2 : decide ((k : Int) ≤ (250 : Int)) = true := by simp; omega
              have hkS := hk3.1
              have hk250 := hk3.2
              obtain ⟨C, hC⟩ : ∃ C, C = S.extract 0 k := ⟨_, rfl⟩
              obtain ⟨z, er, hz⟩ := qIs_of C
              have hwh : (er = 0 ∧ k = L0 ∧ z = r.x) ∨ (er = 70 ∧ k ≠ L0) := by
                rw [HL0.out]
                rw [hC] at hz
                exact first_is hgr HST.out hkS hz
              have hCs : C.size = k := by rw [hC, extract_size _ _ _ (by omega) hkS]; omega
              have hz' : QIs ⟨(bytesOf C).toArray⟩ z er := by rw [← string_mk]; exact hz
              have HZ := Lib.hid hz'
              have HC := Lib.hid hC
              have HCS := Lib.hid hCs
              have hcs := conv_seen wr C 5
              have hcb := conv_below wr C 5
              obtain ⟨WB, hWB⟩ : ∃ W, W = Lib.bytesWorld wr 5 C := ⟨_, rfl⟩
              obtain ⟨cB, hcB⟩ : ∃ c, c = grownCap wr C.size 0 5 := ⟨_, rfl⟩
              have hcv : (convert 9 31 (.string (S.extract 0 k))).run Tryd.prog wr = .ok (.slice (some ⟨wr.heap.size, 0, none⟩) k cB) WB := by
                rw [← hC, conv_eq C wr, hcB, hWB, hCs]
              rw [← hWB] at hcs hcb
              have bB := hbq.trans (hcb.mono hbq.size)
              clear hz hz' hC hCs hk3 hWB hcB hcb hbq
              go_wp2_with fail
              refine (rget_any (some ⟨wr.heap.size, 0, none⟩) k cB WB.heap.size (bytesOf C) z er WB (hG.next bB) HZ.out hcs (Nat.le_refl _) (by rw [bytesOf_length, HCS.out]) (by omega)).mono ?_
              rintro e W1 ⟨hb1, A1, n1, c1, rfl, o1⟩
              have b1 := bB.trans (hb1.mono bB.size)
              have i1 := o1.qin
              clear hcv hcs bB hb1 o1
              obtain ⟨q1, hq1⟩ : ∃ q, q = W1.heap.size := ⟨_, rfl⟩
              go_upto_region 21 with (refine wpList_store_var rfl _ _ rfl rfl rfl (Var.new W1 #[.int .i8 0, .int .i64 0, .int .i64 0, .int .i64 0, .int .i64 0, .int .i64 0, .int .i64 0, .int .i64 0, .int .i64 0, .bool false, .int .i64 0, .int .i64 0, .int .i64 0, .bool false, .slice none 0 0] 30) rfl (by simp only [qvals]; kernel_rfl) (qvals_one z A1 n1 c1) ?_; intro W2 v2 o2; have b12 : Below W1.heap.size W1 W2 := Only.below (below_new _) o2 (Nat.le_refl _))
              have b2 := b1.trans (b12.mono b1.size)
              have i2 := (i1.below b12).up b12.size
              rw [← hq1] at v2 ⊢
              clear o2 b12 i1 b1 hq1
              obtain ⟨b, off, rfl, hbb, hcell⟩ := qx_at (HL.out.seen) HR.out
              obtain ⟨hin0, hrange⟩ := HL.out.each r (List.mem_of_getElem? HR.out)
              have h0 : Below W2.heap.size W2 W2.drew := (Below.refl _ _).drew
              refine wp_region_held_drew (S := fun w' => Below W2.heap.size W2 w') (by kernel_rfl) h0 (fun hHeld => ?_)
              generalize W2.drew = V8 at h0 hHeld ⊢
              clear hHeld
              have y00 : ((0 : Int) != 0) = false := by decide
              have y70 : ((70 : Int) != 0) = true := by decide
              have y77 : ((70 : Int) != 70) = false := by decide
              have hmz : k = L0 → m = 0 := fun h => by rcases hkm with ⟨_, h⟩ | ⟨h1, _⟩; exact h; omega
              rcases hwh with ⟨rfl, hkL, rfl⟩ | ⟨rfl, hkL⟩
              · obtain rfl := hmz hkL
                clear hmz
                refine fld_takes [0, 1, 2, 3, 4, 5, 6, 7, 8, 9, 10, 11, 12, 13, 14, 15, 16, 17] _ 5 _ _ _ (by kernel_rfl) (fun _ d _ _ _ h => by cases d <;> exact h) (by rfl) (by kernel_rfl) (by assumption) ?_
                refine fld_taken (v := ?_) rfl (by rfl) (fun w' hw' => ?_) ?_
                rotate_left
                · (go_simp <;> with_reducible rfl)
                simp only [Act.put, List.getElem_toArray, List.getElem_cons_zero, List.setIfInBounds_toArray, List.set_cons_zero, List.set_cons_succ]
                refine fld_taken (v := ?_) rfl (by rfl) (fun w' hw' => ?_) ?_
                rotate_left
                · (go_simp <;> with_reducible rfl)
                simp only [Act.put, List.getElem_toArray, List.getElem_cons_succ, List.getElem_cons_zero, List.setIfInBounds_toArray, List.set_cons_zero, List.set_cons_succ]
                refine fld_taken (v := ?_) rfl (by rfl) (fun w' hw' => ?_) ?_
                rotate_left
                · (go_simp <;> with_reducible rfl)
                simp only [Act.put, List.getElem_toArray, List.getElem_cons_succ, List.getElem_cons_zero, List.setIfInBounds_toArray, List.set_cons_zero, List.set_cons_succ]
                refine fld_skipped rfl (by rfl) ?_
                simp only [Act.put, List.getElem_toArray, List.getElem_cons_succ, List.getElem_cons_zero, List.setIfInBounds_toArray, List.set_cons_zero, List.set_cons_succ]
                refine fld_skipped rfl (by rfl) ?_
                simp only [Act.put, List.getElem_toArray, List.getElem_cons_succ, List.getElem_cons_zero, List.setIfInBounds_toArray, List.set_cons_zero, List.set_cons_succ]
                refine fld_taken (v := ?_) rfl (by rfl) (fun w' hw' => ?_) ?_
                rotate_left
                · (go_simp <;> with_reducible rfl)
                simp only [Act.put, List.getElem_toArray, List.getElem_cons_succ, List.getElem_cons_zero, List.setIfInBounds_toArray, List.set_cons_zero, List.set_cons_succ]
                refine fld_taken (v := ?_) rfl (by rfl) (fun w' hw' => ?_) ?_
                rotate_left
                · (go_simp <;> with_reducible rfl)
                simp only [Act.put, List.getElem_toArray, List.getElem_cons_succ, List.getElem_cons_zero, List.setIfInBounds_toArray, List.set_cons_zero, List.set_cons_succ]
                refine fld_taken (v := ?_) rfl (by rfl) (fun w' hw' => ?_) ?_
                rotate_left
                · (go_simp <;> with_reducible rfl)
                simp only [Act.put, List.getElem_toArray, List.getElem_cons_succ, List.getElem_cons_zero, List.setIfInBounds_toArray, List.set_cons_zero, List.set_cons_succ]
                refine fld_taken (v := ?_) rfl (by rfl) (fun w' hw' => ?_) ?_
                rotate_left
                · (go_simp <;> with_reducible rfl)
                simp only [Act.put, List.getElem_toArray, List.getElem_cons_succ, List.getElem_cons_zero, List.setIfInBounds_toArray, List.set_cons_zero, List.set_cons_succ]
                refine fld_taken (v := ?_) rfl (by rfl) (fun w' hw' => ?_) ?_
                rotate_left
                · (go_simp <;> with_reducible rfl)
                simp only [Act.put, List.getElem_toArray, List.getElem_cons_succ, List.getElem_cons_zero, List.setIfInBounds_toArray, List.set_cons_zero, List.set_cons_succ]
                refine fld_taken (v := ?_) rfl (by rfl) (fun w' hw' => ?_) ?_
                rotate_left
                · (go_simp <;> with_reducible rfl)
                simp only [Act.put, List.getElem_toArray, List.getElem_cons_succ, List.getElem_cons_zero, List.setIfInBounds_toArray, List.set_cons_zero, List.set_cons_succ]
                refine fld_taken (v := ?_) rfl (by rfl) (fun w' hw' => ?_) ?_
                rotate_left
                · (go_simp <;> with_reducible rfl)
                simp only [Act.put, List.getElem_toArray, List.getElem_cons_succ, List.getElem_cons_zero, List.setIfInBounds_toArray, List.set_cons_zero, List.set_cons_succ]
                refine fld_taken (v := ?_) rfl (by rfl) (fun w' hw' => ?_) ?_
                rotate_left
                · (go_simp <;> with_reducible rfl)
                simp only [Act.put, List.getElem_toArray, List.getElem_cons_succ, List.getElem_cons_zero, List.setIfInBounds_toArray, List.set_cons_zero, List.set_cons_succ]
                refine fld_taken (v := ?_) rfl (by rfl) (fun w' hw' => ?_) ?_
                rotate_left
                · refine exec_load_v (x := .tmp 10) ?_ ?_ (v2.below hw' v2.lt) Tryd.underlying30 rfl (by simp only [qvals]; kernel_rfl) <;> rfl
                simp only [Act.put, List.getElem_toArray, List.getElem_cons_succ, List.getElem_cons_zero, List.setIfInBounds_toArray, List.set_cons_zero, List.set_cons_succ]
                refine fld_taken (v := ?_) rfl (by rfl) (fun w' hw' => ?_) ?_
                rotate_left
                · (go_simp <;> with_reducible rfl)
                simp only [Act.put, List.getElem_toArray, List.getElem_cons_succ, List.getElem_cons_zero, List.setIfInBounds_toArray, List.set_cons_zero, List.set_cons_succ]
                refine fld_taken (v := ?_) rfl (by rfl) (fun w' hw' => ?_) ?_
                rotate_left
                · (go_simp <;> with_reducible rfl)
                simp only [Act.put, List.getElem_toArray, List.getElem_cons_succ, List.getElem_cons_zero, List.setIfInBounds_toArray, List.set_cons_zero, List.set_cons_succ]
                refine fld_taken (v := ?_) rfl (by rfl) (fun w' hw' => ?_) ?_
                rotate_left
                · (go_simp <;> with_reducible rfl)
                simp only [Act.put, List.getElem_toArray, List.getElem_cons_succ, List.getElem_cons_zero, List.setIfInBounds_toArray, List.set_cons_zero, List.set_cons_succ]
                refine fld_taken (v := ?_) rfl (by rfl) (fun w' hw' => ?_) ?_
                rotate_left
                · refine exec_load_m (b := b) (o := off + i * 15) (cs := qcell r) (x := .tmp 97) ?_ ?_ (fun a v hv => ((b2.trans (hw'.mono b2.size)).cell (p := ⟨b, off + i * 15 + a, none⟩) hbb).trans (hcell a v hv)) Tryd.underlying30 rfl (by kernel_rfl) <;> rfl
                simp only [Act.put, List.getElem_toArray, List.getElem_cons_succ, List.getElem_cons_zero, List.setIfInBounds_toArray, List.set_cons_zero, List.set_cons_succ]
                refine fld_taken_nil ?_
                refine fld_alone (i := 18) (by kernel_rfl) rfl (by rfl) (fun K hK => ?_)
                go_simp
                refine (show Calls _ _ #[_, .agg (qcell r).toArray] _ _ from qsame_any r.x r.x A1 r.A n1 r.n c1 r.c W2.heap.size true V8 (i2.below h0) (((hin0.below b2).up b2.size).below h0) h0.size ⟨fun _ => rfl, fun _ => rfl⟩).mono ?_
                rintro e V9 ⟨rfl, hb⟩
                have h9 := h0.trans (hb.mono h0.size)
                clear hb
                go_wp2_with fail
                refine hK.out _ _ h9 ?_
                clear hK K
                refine fld_takes [19, 20, 21, 22] _ 0 _ _ _ (by kernel_rfl) (fun _ d _ _ _ h => by cases d <;> exact h) (by rfl) (by kernel_rfl) (by assumption) ?_
                refine fld_taken (v := ?_) rfl (by rfl) (fun w' hw' => ?_) ?_
                rotate_left
                · (go_simp <;> with_reducible rfl)
                simp only [Act.put, List.getElem_toArray, List.getElem_cons_succ, List.getElem_cons_zero, List.setIfInBounds_toArray, List.set_cons_zero, List.set_cons_succ]
                refine fld_taken (v := ?_) rfl (by rfl) (fun w' hw' => ?_) ?_
                rotate_left
                · (go_simp <;> with_reducible rfl)
                simp only [Act.put, List.getElem_toArray, List.getElem_cons_succ, List.getElem_cons_zero, List.setIfInBounds_toArray, List.set_cons_zero, List.set_cons_succ]
                refine fld_taken (v := ?_) rfl (by rfl) (fun w' hw' => ?_) ?_
                rotate_left
                · (go_simp <;> with_reducible rfl)
                simp only [Act.put, List.getElem_toArray, List.getElem_cons_succ, List.getElem_cons_zero, List.setIfInBounds_toArray, List.set_cons_zero, List.set_cons_succ]
                refine fld_taken (v := ?_) rfl (by rfl) (fun w' hw' => ?_) ?_
                rotate_left
                · (go_simp <;> with_reducible rfl)
                simp only [Act.put, List.getElem_toArray, List.getElem_cons_succ, List.getElem_cons_zero, List.setIfInBounds_toArray, List.set_cons_zero, List.set_cons_succ]
                refine fld_taken_nil ?_
                refine wpAnyH_done (by kernel_rfl) ?_ _
                have hfin := b2.trans (h9.mono b2.size)
                clear h9 h0 i2 v2 hcell hin0 b2
                go_wp2
                go_roundw
                case rel => exact ⟨k + 1, L0, by omega, by omega, by go_num, rfl, .inr ⟨by omega, rfl⟩, hfin⟩
                case measure => simp [intOf]; omega
              · clear hmz
                refine fld_takes [0, 1, 2, 3, 4, 5, 6, 7, 8, 9, 10, 11, 12, 13, 14, 15, 16, 17, 18, 19, 20, 21, 22] _ 0 _ _ _ (by kernel_rfl) (fun _ d _ _ _ h => by cases d <;> exact h) (by rfl) (by kernel_rfl) (by assumption) ?_
                refine fld_taken (v := ?_) rfl (by rfl) (fun w' hw' => ?_) ?_
                rotate_left
                · (go_simp <;> with_reducible rfl)
                simp only [Act.put, List.getElem_toArray, List.getElem_cons_zero, List.setIfInBounds_toArray, List.set_cons_zero, List.set_cons_succ]
                refine fld_taken (v := ?_) rfl (by rfl) (fun w' hw' => ?_) ?_
                rotate_left
                · (go_simp <;> with_reducible rfl)
                simp only [Act.put, List.getElem_toArray, List.getElem_cons_succ, List.getElem_cons_zero, List.setIfInBounds_toArray, List.set_cons_zero, List.set_cons_succ]
                refine fld_taken (v := ?_) rfl (by rfl) (fun w' hw' => ?_) ?_
                rotate_left
                · (go_simp <;> with_reducible rfl)
                simp only [Act.put, List.getElem_toArray, List.getElem_cons_succ, List.getElem_cons_zero, List.setIfInBounds_toArray, List.set_cons_zero, List.set_cons_succ]
                refine fld_taken (v := ?_) rfl (by rfl) (fun w' hw' => ?_) ?_
                rotate_left
                · (go_simp <;> with_reducible rfl)
                simp only [Act.put, List.getElem_toArray, List.getElem_cons_succ, List.getElem_cons_zero, List.setIfInBounds_toArray, List.set_cons_zero, List.set_cons_succ]
                refine fld_taken (v := ?_) rfl (by rfl) (fun w' hw' => ?_) ?_
                rotate_left
                · (go_simp <;> with_reducible rfl)
                simp only [Act.put, List.getElem_toArray, List.getElem_cons_succ, List.getElem_cons_zero, List.setIfInBounds_toArray, List.set_cons_zero, List.set_cons_succ]
                refine fld_taken (v := ?_) rfl (by rfl) (fun w' hw' => ?_) ?_
                rotate_left
                · (go_simp <;> with_reducible rfl)
                simp only [Act.put, List.getElem_toArray, List.getElem_cons_succ, List.getElem_cons_zero, List.setIfInBounds_toArray, List.set_cons_zero, List.set_cons_succ]
                refine fld_taken (v := ?_) rfl (by rfl) (fun w' hw' => ?_) ?_
                rotate_left
                · (go_simp <;> with_reducible rfl)
                simp only [Act.put, List.getElem_toArray, List.getElem_cons_succ, List.getElem_cons_zero, List.setIfInBounds_toArray, List.set_cons_zero, List.set_cons_succ]
                refine fld_taken (v := ?_) rfl (by rfl) (fun w' hw' => ?_) ?_
                rotate_left
                · (go_simp <;> with_reducible rfl)
                simp only [Act.put, List.getElem_toArray, List.getElem_cons_succ, List.getElem_cons_zero, List.setIfInBounds_toArray, List.set_cons_zero, List.set_cons_succ]
                refine fld_taken (v := ?_) rfl (by rfl) (fun w' hw' => ?_) ?_
                rotate_left
                · (go_simp <;> with_reducible rfl)
                simp only [Act.put, List.getElem_toArray, List.getElem_cons_succ, List.getElem_cons_zero, List.setIfInBounds_toArray, List.set_cons_zero, List.set_cons_succ]
                refine fld_taken (v := ?_) rfl (by rfl) (fun w' hw' => ?_) ?_
                rotate_left
                · (go_simp <;> with_reducible rfl)
                simp only [Act.put, List.getElem_toArray, List.getElem_cons_succ, List.getElem_cons_zero, List.setIfInBounds_toArray, List.set_cons_zero, List.set_cons_succ]
                refine fld_skipped rfl (by rfl) ?_
                simp only [Act.put, List.getElem_toArray, List.getElem_cons_succ, List.getElem_cons_zero, List.setIfInBounds_toArray, List.set_cons_zero, List.set_cons_succ]
                refine fld_skipped rfl (by rfl) ?_
                simp only [Act.put, List.getElem_toArray, List.getElem_cons_succ, List.getElem_cons_zero, List.setIfInBounds_toArray, List.set_cons_zero, List.set_cons_succ]
                refine fld_skipped rfl (by rfl) ?_
                simp only [Act.put, List.getElem_toArray, List.getElem_cons_succ, List.getElem_cons_zero, List.setIfInBounds_toArray, List.set_cons_zero, List.set_cons_succ]
                refine fld_skipped rfl (by rfl) ?_
                simp only [Act.put, List.getElem_toArray, List.getElem_cons_succ, List.getElem_cons_zero, List.setIfInBounds_toArray, List.set_cons_zero, List.set_cons_succ]
                refine fld_skipped rfl (by rfl) ?_
                simp only [Act.put, List.getElem_toArray, List.getElem_cons_succ, List.getElem_cons_zero, List.setIfInBounds_toArray, List.set_cons_zero, List.set_cons_succ]
                refine fld_skipped rfl (by rfl) ?_
                simp only [Act.put, List.getElem_toArray, List.getElem_cons_succ, List.getElem_cons_zero, List.setIfInBounds_toArray, List.set_cons_zero, List.set_cons_succ]
                refine fld_skipped rfl (by rfl) ?_
                simp only [Act.put, List.getElem_toArray, List.getElem_cons_succ, List.getElem_cons_zero, List.setIfInBounds_toArray, List.set_cons_zero, List.set_cons_succ]
                refine fld_skipped rfl (by rfl) ?_
                simp only [Act.put, List.getElem_toArray, List.getElem_cons_succ, List.getElem_cons_zero, List.setIfInBounds_toArray, List.set_cons_zero, List.set_cons_succ]
                refine fld_skipped rfl (by rfl) ?_
                simp only [Act.put, List.getElem_toArray, List.getElem_cons_succ, List.getElem_cons_zero, List.setIfInBounds_toArray, List.set_cons_zero, List.set_cons_succ]
                refine fld_skipped rfl (by rfl) ?_
                simp only [Act.put, List.getElem_toArray, List.getElem_cons_succ, List.getElem_cons_zero, List.setIfInBounds_toArray, List.set_cons_zero, List.set_cons_succ]
                refine fld_skipped rfl (by rfl) ?_
                simp only [Act.put, List.getElem_toArray, List.getElem_cons_succ, List.getElem_cons_zero, List.setIfInBounds_toArray, List.set_cons_zero, List.set_cons_succ]
                refine fld_taken (v := ?_) rfl (by rfl) (fun w' hw' => ?_) ?_
                rotate_left
                · (go_simp <;> with_reducible rfl)
                simp only [Act.put, List.getElem_toArray, List.getElem_cons_succ, List.getElem_cons_zero, List.setIfInBounds_toArray, List.set_cons_zero, List.set_cons_succ]
                refine fld_taken (v := ?_) rfl (by rfl) (fun w' hw' => ?_) ?_
                rotate_left
                · (go_simp <;> with_reducible rfl)
                simp only [Act.put, List.getElem_toArray, List.getElem_cons_succ, List.getElem_cons_zero, List.setIfInBounds_toArray, List.set_cons_zero, List.set_cons_succ]
                refine fld_taken_nil ?_
                refine wpAnyH_done (by kernel_rfl) ?_ _
                have hfin := b2.trans (h0.mono b2.size)
                clear h0 i2 v2 hcell hin0 b2
                go_wp2
                go_roundw
                case rel => exact ⟨k + 1, m, by omega, by omega, by go_num, rfl, by omega, hfin⟩
                case measure => simp [intOf]; omega
            · have hm : m = L0 := by
                have := HSZ.out
                rcases hkm with ⟨h, _⟩ | ⟨_, h⟩
                · exact absurd ⟨by omega, by omega⟩ hk3
                · exact h
              have hmS : m ≤ S.size := by have := HSZ.out; omega
              have hm0 : ((m : Int) == 0) = false := by rw [beq_eq_false_iff_ne]; omega
              have HS2 : Hid (bytesOf (S.extract m S.size) = flat (l.drop (i + 1))) := by
                show _ = _
                rw [bytesOf_extract, HST.out, hm, HL0.out, List.drop_left, List.take_of_length_le]
                have := HSZ.out
                rw [← HL0.out]
                omega
              clear hm hkm
              by_cases hk4 : k ≤ S.size
              · have d1 : decide ((k : Int) ≤ (S.size : Int)) = true := by simp; omega
                have d2 : decide ((k : Int) ≤ (250 : Int)) = false := decide_eq_false (by omega)
                have hk6 : 250 < k := by omega
                clear hk3
                go_wp2
                go_roundw
                case rel => exact ⟨i + 1, S.extract m S.size, by omega, by go_num, rfl, hbq, HS2⟩
                case measure => simp [intOf]; omega
              · have d1 : decide ((k : Int) ≤ (S.size : Int)) = false := decide_eq_false (by omega)
                have hk5 : S.size < k := by omega
                clear hk3 hk4
                go_wp2
                go_roundw
                case rel => exact ⟨i + 1, S.extract m S.size, by omega, by go_num, rfl, hbq, HS2⟩
                case measure => simp [intOf]; omega
        · have hij : i = j := by omega
          subst hij
          have hS := HS.out
          rw [List.drop_of_length_le (by rw [HL.out.len]; exact Nat.le_refl _)] at hS
          obtain rfl := string_of (l := []) hS
          clear hS HS
          go_wp2_with fail
          refine (qwakes_any _).mono ?_
          rintro e w9 ⟨rfl, hb9⟩
          have b9 := hb.trans (hb9.mono hb.size)
          go_wp2
          go_ret
          exact ⟨rfl, b9⟩
end Go.Proofs.YtfcifblbapadpaaDoor
