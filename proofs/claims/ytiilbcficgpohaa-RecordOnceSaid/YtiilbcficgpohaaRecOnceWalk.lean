/-
  The walk over RecordOnce: it returns true and turns nothing that was there. Conditions: what is said of the arguments.
-/
import Derived.Test.YtiilbcficgpohaaRecWakes
import Derived.Test.YtiilbcficgpohaaRecMayB
import Derived.Test.YtiilbcficgpohaaRecSameR
import Derived.Test.YtiilbcficgpohaaRecGreat
import Derived.Test.YtiilbcficgpohaaRecCut
import Derived.Test.YtiilbcficgpohaaRecBackPlain
namespace Go.Proofs.Ytiilbcficgpohaa
open Go.RowKit

theorem rec_size : ∀ w, (Go.sizeOf 51).run Try.prog w = .ok 2 w := fun w => by kernel_rfl
/-- 'l[i:i+1]' of records. -/
theorem cut_one (W : World) (A : Option Addr) (n c i : Nat) (hi : i < n) (hc : n ≤ c) : (Instr.slice 22 (.slice A n c) (some (.int .i64 (i : Int))) (some (.int .i64 ((i : Int) + 1))) none).run Try.prog W = .ok (.slice (if c = i then A else A.map (·.add (i * 2))) 1 (c - i)) W := by
  have ht' : Try.prog.underlying 22 = some (.slice (Try.prog.elem 22)) := by simp [Program.elem, Try.underlying22]
  have he : Try.prog.elem 22 = 51 := by simp [Program.elem, Try.underlying22]
  rw [run_slice_lh W 22 _ _ _ ht' .i64 .i64 _ _ (by omega) (by omega) (by omega), he, rec_size]
  simp [Result.andThen, sliced]
theorem seen_one {w : World} {B : Nat} {b off n c i : Nat} {rs : List Rc} {r : Rc} (h : Seen w B (some ⟨b, off, none⟩) (rcells rs)) (hr : rs[i]? = some r) (hi : i < n) (hc : n ≤ c) : Seen w B (if c = i then some ⟨b, off, none⟩ else (some (⟨b, off, none⟩ : Addr)).map (·.add (i * 2))) (rcells [r]) := by
  obtain ⟨b', off', he, hb, h0, h1⟩ := rec_at h hr
  simp only [Option.some.injEq, Addr.mk.injEq, and_true] at he
  obtain ⟨rfl, rfl⟩ := he
  rw [if_neg (by omega)]
  refine fun _ => ⟨b, off + i * 2, by simp [plain_add], hb, fun j u hu => ?_⟩
  have hj : j < 2 := by have := (List.getElem?_eq_some_iff.1 hu).1; simpa [rcells, rcell] using this
  rcases rcell_get hj (by simpa [rcells] using hu) with ⟨rfl, rfl⟩ | ⟨rfl, rfl⟩
  · exact h0
  · exact h1
theorem enc_eq {a b : Bt} (ha : a.Good) (hb : b.Good) {q : Bool} (hq : q = true ↔ a = b) {x y : ByteArray} (hx : x = ⟨a.enc.toArray⟩) (hy : y = ⟨b.enc.toArray⟩) : (x.toList == y.toList) = q := by
  cases q with
  | true => rw [eqS, hx, hy, hq.1 rfl]
  | false =>
    rw [← Bool.not_eq_true, eqS]
    intro h
    have h1 : bytesOf x = bytesOf y := by rw [h]
    rw [hx, hy, bytesOf_mk, bytesOf_mk] at h1
    have := hq.2 (enc_inj ha hb h1)
    cases this

set_option maxRecDepth 100000 in
set_option maxHeartbeats 1000000 in
theorem once_walk (A1 A2 : Option Addr) (n1 c1 n2 c2 : Nat) (r1 r2 : List Rc) (p1 e1 s1 p2 e2 s2 : Int) (t1 t2 : Bool) (w : World) (ha : BIn w A1 n1 c1 ⟨p1, e1, s1, t1, r1⟩) (hb : BIn w A2 n2 c2 ⟨p2, e2, s2, t2, r2⟩) :
    Calls Try.prog 6 #[.agg #[.int .i64 p1, .int .i64 e1, .int .i64 s1, .bool t1, .slice A1 n1 c1], .agg #[.int .i64 p2, .int .i64 e2, .int .i64 s2, .bool t2, .slice A2 n2 c2]] w fun e w' => e = .returned (.bool true) ∧ Below w.heap.size w w' := by
  obtain ⟨la, sa, ma, ca, za⟩ := ha
  obtain ⟨lb, sb, mb, cb, zb⟩ := hb
  simp only at la sa za lb sb zb
  have LA := Lib.hid la
  have LB := Lib.hid lb
  have ZA := Lib.hid za
  have ZB := Lib.hid zb
  clear la lb za zb
  obtain ⟨v1, v2, b0⟩ := two_new w #[.int .i64 p1, .int .i64 e1, .int .i64 s1, .bool t1, .slice A1 n1 c1] #[.int .i64 p2, .int .i64 e2, .int .i64 s2, .bool t2, .slice A2 n2 c2] 24
  go_enter Try.func6, Try.ntmps6
  go_wp2_with fail
  obtain ⟨W0, hW0⟩ : ∃ W0, W0 = (w.alloc (.cells #[.int .i64 p1, .int .i64 e1, .int .i64 s1, .bool t1, .slice A1 n1 c1] 24)).alloc (.cells #[.int .i64 p2, .int .i64 e2, .int .i64 s2, .bool t2, .slice A2 n2 c2] 24) := ⟨_, rfl⟩
  rw [← hW0] at v1 v2 b0 ⊢
  clear hW0
  have sa0 := sa.below b0
  have sb0 := sb.below b0
  clear sa sb
  have z0 := b0.size
  refine (great_any A1 n1 c1 _ r1 p1 e1 s1 t1 W0 LA.out sa0 z0 ma ZA.out).mono ?_
  rintro e W1 ⟨g1, rfl, hf1, hb1⟩
  have x1 := v1.below hb1 v1.lt
  have x2 := v2.below hb1 v2.lt
  have b1 := b0.trans (hb1.mono z0)
  have sa1 := sa0.below (hb1.mono z0)
  have sb1 := sb0.below (hb1.mono z0)
  clear v1 v2 b0 sa0 sb0 z0 hb1 hf1
  cases g1 with
  | true =>
    go_wp2_with fail
    refine (wakes_any _).mono ?_
    rintro e w9 ⟨rfl, hb9⟩
    have b9 := b1.trans (hb9.mono b1.size)
    go_wp2
    go_ret
    exact ⟨rfl, b9⟩
  | false =>
    obtain ⟨d0, d1, d2, d3, d4, f1⟩ := x2.cells5
    have l2 := x2.lt
    go_wp2_with fail
    refine (great_any A2 n2 c2 _ r2 p2 e2 s2 t2 W1 LB.out sb1 b1.size mb ZB.out).mono ?_
    rintro e W2 ⟨g2, rfl, hf2, hb2⟩
    have y1 := x1.below hb2 x1.lt
    have y2 := x2.below hb2 x2.lt
    have b2 := b1.trans (hb2.mono b1.size)
    have sa2 := sa1.below (hb2.mono b1.size)
    have sb2 := sb1.below (hb2.mono b1.size)
    clear x1 x2 b1 sa1 sb1 hb2 d0 d1 d2 d3 d4 f1 l2 hf2
    cases g2 with
    | true =>
      go_wp2_with fail
      refine (wakes_any _).mono ?_
      rintro e w9 ⟨rfl, hb9⟩
      have b9 := b2.trans (hb9.mono b2.size)
      go_wp2
      go_ret
      exact ⟨rfl, b9⟩
    | false =>
      obtain ⟨xs, er, hbs⟩ := bytesIs_of ⟨p1, e1, s1, t1, r1⟩
      obtain ⟨ys, fr, hbt⟩ := bytesIs_of ⟨p2, e2, s2, t2, r2⟩
      obtain ⟨q, hq⟩ := sameIs_of ⟨p1, e1, s1, t1, r1⟩ ⟨p2, e2, s2, t2, r2⟩
      have HBS := Lib.hid hbs
      have HBT := Lib.hid hbt
      have HQ := Lib.hid hq
      clear hbs hbt hq
      obtain ⟨d0, d1, d2, d3, d4, f1⟩ := y1.cells5
      have l1 := y1.lt
      go_wp2_with fail
      refine (bytes_all A1 n1 c1 _ r1 p1 e1 s1 t1 W2 xs er HBS.out LA.out sa2 b2.size ma ZA.out).mono ?_
      rintro e W3 ⟨rfl, hb3⟩
      have x1 := y1.below hb3 y1.lt
      have x2 := y2.below hb3 y2.lt
      have b3 := b2.trans (hb3.mono b2.size)
      have sa3 := sa2.below (hb3.mono b2.size)
      have sb3 := sb2.below (hb3.mono b2.size)
      clear y1 y2 b2 sa2 sb2 hb3 d0 d1 d2 d3 d4 f1 l1
      obtain ⟨d0, d1, d2, d3, d4, f1⟩ := x2.cells5
      have l2 := x2.lt
      go_wp2_with fail
      refine (bytes_all A2 n2 c2 _ r2 p2 e2 s2 t2 W3 ys fr HBT.out LB.out sb3 b3.size mb ZB.out).mono ?_
      rintro e W4 ⟨rfl, hb4⟩
      have y1 := x1.below hb4 x1.lt
      have y2 := x2.below hb4 x2.lt
      have b4 := b3.trans (hb4.mono b3.size)
      have sa4 := sa3.below (hb4.mono b3.size)
      have sb4 := sb3.below (hb4.mono b3.size)
      clear x1 x2 b3 sa3 sb3 hb4 d0 d1 d2 d3 d4 f1 l2
      by_cases hga : Bt.Good ⟨p1, e1, s1, t1, r1⟩
      · by_cases hgb : Bt.Good ⟨p2, e2, s2, t2, r2⟩
        · obtain ⟨HXA, rfl⟩ : Hid (xs = ⟨(Bt.enc ⟨p1, e1, s1, t1, r1⟩).toArray⟩) ∧ 0 = er := by
            rcases HBS.out with ⟨_, h, h'⟩ | ⟨h, _⟩
            · exact ⟨h, h'.symm⟩
            · exact absurd hga h
          obtain ⟨HXB, rfl⟩ : Hid (ys = ⟨(Bt.enc ⟨p2, e2, s2, t2, r2⟩).toArray⟩) ∧ 0 = fr := by
            rcases HBT.out with ⟨_, h, h'⟩ | ⟨h, _⟩
            · exact ⟨h, h'.symm⟩
            · exact absurd hgb h
          have HE : Hid ((xs.toList == ys.toList) = q) := enc_eq hga hgb HQ.out HXA.out HXB.out
          have HGA := Lib.hid hga
          clear hgb hga HBS HBT HXA HXB
          have y0 : ((0 : Int) != 0) = false := by decide
          have z4 := b4.size
          go_wp2_with fail
          go_loopw [9] (fun i wr => ∃ (k : Nat), k ≤ n1 ∧ i = .int .i64 k ∧ Below W4.heap.size W4 wr) (fun i _ => n1 - (intOf i).toNat)
          case atStart => exact ⟨0, by omega, rfl, Below.refl _ _⟩
          case round =>
            obtain ⟨k, hk, rfl, hbw⟩ := hrel
            have x1 := y1.below hbw y1.lt
            obtain ⟨d0, d1, d2, d3, d4, f1⟩ := x1.cells5
            have l1 := x1.lt
            have hbz := hbw.size
            by_cases hlt : k < n1
            · obtain ⟨r, hr⟩ := rec_here LA.out hlt
              have hgr := HGA.out.2.2.2.2 r (List.mem_of_getElem? hr)
              obtain ⟨a, b, d, rfl, rfl, rfl⟩ := good_nat HGA.out
              obtain ⟨⟨h1, h2⟩, ⟨h3, h4⟩, ⟨h5, h6⟩, ⟨h7, h8⟩, _⟩ := HGA.out
              simp only [LA.out] at h1 h2 h3 h4 h5 h6 h7 h8
              have hgc : Hid (Bt.Good ⟨a, b, (d : Int) + (k : Int), t1, [r]⟩) := ⟨⟨h1, h2⟩, ⟨h3, h4⟩, ⟨by simp, by simp⟩, ⟨by simp only; omega, by simp only [List.length_cons, List.length_nil]; omega⟩, fun x hx => by simp at hx; subst hx; exact hgr⟩
              have hzc : Hid (∀ y ∈ [r], y.k.size ≤ 9223372036854775807 ∧ y.v.size ≤ 9223372036854775807) := fun y hy => by simp at hy; subst hy; unfold Rc.Good at hgr; omega
              obtain ⟨bb, oo, rfl, _, _, _⟩ := rec_at sa4 hr
              have sc := seen_one (sa4.below (hbw.mono z4)) hr hlt ca
              have hcut := fun W => cut_one W (some ⟨bb, oo, none⟩) n1 c1 k hlt ca
              obtain ⟨Ac, hAc⟩ : ∃ Ac, Ac = (if c1 = k then some ⟨bb, oo, none⟩ else (some (⟨bb, oo, none⟩ : Addr)).map (·.add (k * 2))) := ⟨_, rfl⟩
              rw [← hAc] at sc
              simp only [← hAc] at hcut
              obtain ⟨cc, hcc⟩ : ∃ cc, cc = c1 - k := ⟨_, rfl⟩
              simp only [← hcc] at hcut
              have hd20 : d ≤ 1048576 := by omega
              have hk4 : k ≤ 4 := by omega
              have i1 : (k : Int) < (n1 : Int) := by omega
              clear hr hgr h1 h2 h3 h4 h5 h6 h7 h8 hAc hcc
              go_wp2_with fail
              obtain ⟨x, hx⟩ : ∃ x, x = wr.heap.size := ⟨_, rfl⟩
              obtain ⟨W6, hW6⟩ : ∃ W6, W6 = wr.alloc (.cells #[.int .i64 a, .int .i64 b, .int .i64 ((d : Int) + (k : Int)), .bool t1, .slice Ac 1 cc] 24) := ⟨_, rfl⟩
              have c6 : Var W6 x 24 #[.int .i64 a, .int .i64 b, .int .i64 ((d : Int) + (k : Int)), .bool t1, .slice Ac 1 cc] := by rw [hW6, hx]; exact Var.new _ _ _
              have b6 : Below W4.heap.size W4 W6 := by rw [hW6]; exact hbw.alloc hbz _
              have sc6 : Seen W6 w.heap.size Ac (rcells [r]) := by rw [hW6]; exact sc.below ((Below.refl w.heap.size wr).alloc (by omega) _)
              have z6 : w.heap.size ≤ W6.heap.size := Nat.le_trans z4 b6.size
              rw [← hW6, ← hx]
              clear hW6 hx hcut sc d0 d1 d2 d3 d4 f1 l1 x1
              have HH1 : Hid (∀ x : After W6, Calls Try.prog 11 #[.agg #[.int .i64 a, .int .i64 b, .int .i64 ((d : Int) + (k : Int)), .bool t1, .slice Ac 1 cc]] x.val fun e w' => e = .returned (.bool true) ∧ ∃ y : After W6, w' = y.val) :=
                fun x => Calls.after (may_any Ac 1 cc _ [r] a b _ t1 true x.val rfl ⟨fun _ => hgc.out, fun _ => rfl⟩ (sc6.below (x.below.mono z6)) (Nat.le_trans z6 x.below.size) (by omega) hzc.out)
              have HH2 : Hid (∀ x : After W6, Calls Try.prog 15 #[.agg #[.int .i64 a, .int .i64 b, .int .i64 ((d : Int) + (k : Int)), .bool t1, .slice Ac 1 cc]] x.val fun e w' => e = .returned (.int .i64 ((d : Int) + (k : Int) + 1)) ∧ ∃ y : After W6, w' = y.val) :=
                fun x => Calls.after (behind_any Ac 1 cc a b _ _ t1 x.val (by unfold wrap64; omega))
              have ka0 := fun (x : After W6) => (five_after c6 x).1
              have ka1 := fun (x : After W6) => (five_after c6 x).2.1
              have ka2 := fun (x : After W6) => (five_after c6 x).2.2.1
              have ka3 := fun (x : After W6) => (five_after c6 x).2.2.2.1
              have ka4 := fun (x : After W6) => (five_after c6 x).2.2.2.2
              have j0 : (((d : Int) + (k : Int) + 1) != ((d : Int) + (k : Int) + 1)) = false := by simp
              refine wp_region_after (by kernel_rfl) (by kernel_rfl) ?_
              repeat (go_big_quiet_step ((first
                | (go_at_call 11; with_reducible exact HH1.out _)
                | (go_at_call 15; with_reducible exact HH2.out _))))
              refine wpQuiet_nil ?_
              rintro _ ⟨y, rfl⟩
              have hfin := b6.trans (y.below.mono b6.size)
              clear ka0 ka1 ka2 ka3 ka4 HH1 HH2 b6 c6 sc6
              go_wp2
              go_roundw
              case rel => exact ⟨k + 1, by omega, by go_num, hfin⟩
              case measure => simp [intOf]; omega
            · have x2 := y2.below hbw y2.lt
              have bf := b4.trans (hbw.mono b4.size)
              have sa5 := sa4.below (hbw.mono z4)
              have sb5 := sb4.below (hbw.mono z4)
              have z5 := Nat.le_trans z4 hbz
              obtain ⟨i0, i1, i2, i3, i4, f2⟩ := x2.cells5
              have l2 := x2.lt
              have j0 := HE.out
              have j1 : (q == q) = true := beq_self_eq_true _
              go_wp2_with fail
              refine (ref_same_any A1 A2 n1 n2 c1 c2 _ r1 r2 p1 e1 s1 p2 e2 s2 t1 t2 q wr LA.out LB.out HQ.out sa5 sb5 z5 ma mb).mono ?_
              rintro e w8 ⟨rfl, hb8⟩
              have b8 := bf.trans (hb8.mono bf.size)
              clear d0 d1 d2 d3 d4 f1 i0 i1 i2 i3 i4 f2 l1 l2
              go_wp2_with fail
              refine (wakes_any _).mono ?_
              rintro e w9 ⟨rfl, hb9⟩
              have b9 := b8.trans (hb9.mono b8.size)
              go_wp2
              go_ret
              exact ⟨rfl, b9⟩
        · obtain rfl : 2 = fr := by
            rcases HBT.out with ⟨h, _⟩ | ⟨_, _, h⟩
            · exact absurd h hgb
            · exact h.symm
          obtain rfl : 0 = er := by
            rcases HBS.out with ⟨_, _, h'⟩ | ⟨h, _⟩
            · exact h'.symm
            · exact absurd hga h
          have y0 : ((0 : Int) != 0) = false := by decide
          have y1' : ((2 : Int) != 0) = true := by decide
          go_wp2_with fail
          refine (wakes_any _).mono ?_
          rintro e w9 ⟨rfl, hb9⟩
          have b9 := b4.trans (hb9.mono b4.size)
          go_wp2
          go_ret
          exact ⟨rfl, b9⟩
      · obtain rfl : 2 = er := by
          rcases HBS.out with ⟨h, _⟩ | ⟨_, _, h⟩
          · exact absurd h hga
          · exact h.symm
        have y1' : ((2 : Int) != 0) = true := by decide
        go_wp2_with fail
        refine (wakes_any _).mono ?_
        rintro e w9 ⟨rfl, hb9⟩
        have b9 := b4.trans (hb9.mono b4.size)
        go_wp2
        go_ret
        exact ⟨rfl, b9⟩
end Go.Proofs.Ytiilbcficgpohaa
