/-
  The walk over FieldsBack: it returns true and turns nothing that was there. Condition: what is said of the slice that came in.
-/
import Derived.Test.YtkeekecaojpkjaaFldReads
namespace Go.Proofs.Ytkeekecaojpkjaa
open Go.RowKit

/-- How long the first k texts are together, none counted above 5000. -/
def sumTo : Nat → List Fld → Nat
  | 0, _ => 0
  | _, [] => 0
  | k + 1, f :: r => min f.s.size 5000 + sumTo k r
theorem sumTo_zero (l : List Fld) : sumTo 0 l = 0 := by cases l <;> rfl
theorem sumTo_succ : ∀ (k : Nat) (l : List Fld) (f : Fld), l[k]? = some f → sumTo (k + 1) l = sumTo k l + min f.s.size 5000
  | 0, l, f, h => by
    cases l with
    | nil => simp at h
    | cons g r => simp at h; subst h; simp [sumTo]
  | k + 1, l, f, h => by
    cases l with
    | nil => simp at h
    | cons g r =>
      have := sumTo_succ k r f (by simpa using h)
      simp only [sumTo] at this ⊢
      omega

/-- What is built behind k fields. -/
structure Built (w wr : World) (l : List Fld) (k : Nat) (A : Option Addr) (c lb : Nat) (es : List UInt8) : Prop where
  hes : es = encAll (l.take k)
  hlb : lb = es.length
  seen : Seen wr wr.heap.size A (cells es)
  hcap : lb ≤ c
  le : lb ≤ 1030 * k
  below : Below w.heap.size w wr
  good : ∀ f ∈ l.take k, f.Good
theorem Built.start (w : World) (l : List Fld) : Built w w l 0 none 0 0 [] := ⟨by simp [encAll], rfl, Seen.nil _ _ _, Nat.le_refl _, by omega, Below.refl _ _, by simp⟩
theorem Built.step {w wr w' : World} {l : List Fld} {k : Nat} {A A' : Option Addr} {c lb c' lx : Nat} {es xs : List UInt8} {f : Fld} (h : Built w wr l k A c lb es) (hf : l[k]? = some f) (hg : f.Good) (hxs : xs = es ++ f.enc) (hlx : lx = xs.length)
    (hs : Seen w' w'.heap.size A' (cells xs)) (hc : lx ≤ c') (hb : Below wr.heap.size wr w') : Built w w' l (k + 1) A' c' lx xs := by
  obtain ⟨hk, he⟩ := List.getElem?_eq_some_iff.1 hf
  have ht : l.take (k + 1) = l.take k ++ [f] := by rw [List.take_add_one, hf]; rfl
  refine ⟨?_, hlx, hs, hc, ?_, h.below.trans (hb.mono h.below.size), ?_⟩
  · rw [hxs, h.hes, ht, encAll_snoc]
  · have h1 := Fld.enc_le hg
    have h2 := h.le
    have h3 := h.hlb
    rw [hlx, hxs, List.length_append]
    omega
  · intro g hg'
    rw [ht] at hg'
    rcases List.mem_append.1 hg' with hg' | hg'
    · exact h.good g hg'
    · simp at hg'; subst hg'; exact hg

set_option maxRecDepth 100000 in
set_option maxHeartbeats 8000000 in
theorem back_in (a : Option Addr) (len cap : Nat) (l : List Fld) (cut : Int) (w : World) (hlen : len = l.length) (hlm : len ≤ 9223372036854775807) (hrows : ∀ i f, l[i]? = some f → FldRow w a i f) :
    Calls Try.prog 5 #[.slice a len cap, .int .i64 cut] w fun e w' => e = .returned (.bool true) ∧ Below w.heap.size w w' := by
  have HROWS := Lib.hid hrows
  have HLEN := Lib.hid hlen
  clear hrows hlen
  go_enter Try.func5, Try.ntmps5
  go_wp2_with fail
  go_loop [5, 6] (fun n i => ∃ (k z : Nat), k ≤ len ∧ k ≤ 61 ∧ z ≤ 5000 * k ∧ i = .int .i64 k ∧ n = .int .i64 z ∧ Hid (z = sumTo k l)) (fun _ i => len - (intOf i).toNat)
  case atStart => exact ⟨0, 0, by omega, by omega, by omega, rfl, rfl, (sumTo_zero l).symm⟩
  case round =>
    obtain ⟨k, z, hk, hk61, hz5, rfl, rfl, HZ⟩ := hrel
    by_cases hgo : k < len ∧ k ≤ 60
    · obtain ⟨hlt, hk60⟩ := hgo
      obtain ⟨f, hf⟩ : ∃ f, l[k]? = some f := ⟨_, List.getElem?_eq_getElem (by have := HLEN.out; omega)⟩
      obtain ⟨b, off, rfl, hbB, c0, c1, c2⟩ := HROWS.out k f hf
      have HS := Lib.hid (sumTo_succ k l f hf)
      clear hf c0 c1
      have i0 : (0 : Int) ≤ (k : Int) := by omega
      have i1 : (k : Int) < (len : Int) := by omega
      obtain ⟨m, hm⟩ : ∃ m, m = min f.s.size 5000 := ⟨_, rfl⟩
      have hm5 : m ≤ 5000 := by omega
      have HZ2 : Hid (z + m = sumTo (k + 1) l) := by show z + m = _; rw [HS.out, hm, HZ.out]
      have HM := Lib.hid hm
      clear hm HS
      by_cases h5 : f.s.size ≤ 5000
      · have hmf : m = f.s.size := by have := HM.out; omega
        go_wp2
        go_round
        case rel => exact ⟨k + 1, z + m, by omega, by omega, by omega, by go_num, by rw [show ((z + m : Nat) : Int) = (z : Int) + (f.s.size : Int) by omega], HZ2⟩
        case measure => simp [intOf]; omega
      · have hmf : m = 5000 := by have := HM.out; omega
        go_wp2
        go_round
        case rel => exact ⟨k + 1, z + m, by omega, by omega, by omega, by go_num, by rw [show ((z + m : Nat) : Int) = (z : Int) + 5000 by omega], HZ2⟩
        case measure => simp [intOf]; omega
    · have hguard : k < len → 61 ≤ k := fun h => by
        rcases Nat.lt_or_ge k 61 with h' | h'
        · exact absurd ⟨h, by omega⟩ hgo
        · exact h'
      by_cases hbig : 60 < len
      · by_cases hkl : k < len
        · have hk60 : ¬ (k : Int) ≤ 60 := by have := hguard hkl; omega
          clear hgo hguard
          go_wp2_with fail
          refine (wakes_any _).mono ?_
          rintro e w9 ⟨rfl, hb9⟩
          go_wp2
          go_ret
          exact ⟨rfl, hb9⟩
        · clear hgo hguard
          go_wp2_with fail
          refine (wakes_any _).mono ?_
          rintro e w9 ⟨rfl, hb9⟩
          go_wp2
          go_ret
          exact ⟨rfl, hb9⟩
      · have hkl : k = len := by
          rcases Nat.lt_or_ge k len with h' | h'
          · have := hguard h'; omega
          · omega
        have hl60 : len ≤ 60 := by omega
        clear hgo hguard hbig
        by_cases hmany : 4000 < z
        · go_wp2_with fail
          refine (wakes_any _).mono ?_
          rintro e w9 ⟨rfl, hb9⟩
          go_wp2
          go_ret
          exact ⟨rfl, hb9⟩
        · have hz4 : z ≤ 4000 := by omega
          clear hmany HZ hk61 hz5
          go_wp2_with fail
          go_loopw [7, 8] (fun bv i wr => ∃ (j : Nat) (A : Option Addr) (c lb : Nat) (es : List UInt8), j ≤ len ∧ i = .int .i64 j ∧ bv = .slice A lb c ∧ Hid (Built w wr l j A c lb es)) (fun _ i _ => len - (intOf i).toNat)
          case atStart => exact ⟨0, none, 0, 0, [], by omega, rfl, rfl, Built.start w l⟩
          case round =>
            obtain ⟨j, A, c, lb, es, hj, rfl, rfl, HB⟩ := hrel
            clear hk hz4 hkl
            by_cases hlt : j < len
            · obtain ⟨f, hf⟩ : ∃ f, l[j]? = some f := ⟨_, List.getElem?_eq_getElem (by have := HLEN.out; omega)⟩
              obtain ⟨b, off, rfl, hbB, c0, c1, c2⟩ := HROWS.out j f hf
              have hbw := HB.out.below
              have d0 : wr.cell? ⟨b, off + j * 3, none⟩ = some (.int .i64 f.d) := (hbw.cell (p := ⟨b, off + j * 3, none⟩) hbB).trans c0
              have d1 : wr.cell? ⟨b, off + j * 3 + 1, none⟩ = some (.int .i64 f.n) := (hbw.cell (p := ⟨b, off + j * 3 + 1, none⟩) hbB).trans c1
              have d2 : wr.cell? ⟨b, off + j * 3 + 2, none⟩ = some (.string f.s) := (hbw.cell (p := ⟨b, off + j * 3 + 2, none⟩) hbB).trans c2
              have HF := Lib.hid hf
              obtain ⟨d, n, q⟩ := f
              have i0 : (0 : Int) ≤ (j : Int) := by omega
              have i1 : (j : Int) < (len : Int) := by omega
              have hlb : lb ≤ 61800 := by have := HB.out.le; omega
              have hcl := HB.out.hcap
              have hbA : Below wr.heap.size wr (wr.alloc (.cells #[.int .i64 d, .int .i64 n, .string q] 47)) := (Below.refl _ _).alloc (Nat.le_refl _) _
              have hsA : Seen (wr.alloc (.cells #[.int .i64 d, .int .i64 n, .string q] 47)) (wr.alloc (.cells #[.int .i64 d, .int .i64 n, .string q] 47)).heap.size A (cells es) := (HB.out.seen.below hbA).up hbA.size
              have hzw := hbw.size
              clear hf c0 c1 c2
              by_cases hd0 : d = 0
              · subst hd0
                by_cases hn : n < 0 ∨ 1099511627776 < n
                · by_cases hn0 : n < 0
                  · go_wp2_with fail
                    refine (wakes_any _).mono ?_
                    rintro e w9 ⟨rfl, hb9⟩
                    go_wp2
                    go_ret
                    exact ⟨rfl, (hbw.trans (hbA.mono hzw)).trans (hb9.mono (by simp; omega))⟩
                  · have hn1 : 0 ≤ n := by omega
                    have hn2 : 1099511627776 < n := by omega
                    go_wp2_with fail
                    refine (wakes_any _).mono ?_
                    rintro e w9 ⟨rfl, hb9⟩
                    go_wp2
                    go_ret
                    exact ⟨rfl, (hbw.trans (hbA.mono hzw)).trans (hb9.mono (by simp; omega))⟩
                · have hn1 : 0 ≤ n := by omega
                  have hn2 : n ≤ 1099511627776 := by omega
                  obtain ⟨xs, hxs⟩ : ∃ xs, xs = es ++ VP.enc n.toNat := ⟨_, rfl⟩
                  obtain ⟨lx, hlx⟩ : ∃ lx, lx = xs.length := ⟨_, rfl⟩
                  have HP : Hid (PutIs es n xs 0) := .inl ⟨hn1, hn2, hxs, rfl⟩
                  have HX := Lib.hid hxs
                  have HLX := Lib.hid hlx
                  clear hxs hlx hn
                  go_wp2_with fail
                  refine (num_put A c es lb n xs 0 lx _ HP.out HB.out.hlb HLX.out hsA (by omega)).mono ?_
                  rintro e w5 ⟨A5, c5, rfl, hs5, hc5, hb5⟩
                  have HB2 : Hid (Built w w5 l (j + 1) A5 c5 lx xs) := HB.out.step HF.out (.inl ⟨rfl, hn1, hn2⟩) (by rw [HX.out]; rfl) HLX.out hs5 hc5 (hbA.trans (hb5.mono hbA.size))
                  clear HB HF hsA hbA hbw d0 d1 d2 hs5 hb5
                  go_wp2
                  go_roundw
                  case rel => exact ⟨j + 1, A5, c5, lx, xs, by omega, by go_num, rfl, HB2⟩
                  case measure => simp [intOf]; omega
              · by_cases hd1 : d = 1
                · subst hd1
                  by_cases hn : 1024 < q.size
                  · go_wp2_with fail
                    refine (wakes_any _).mono ?_
                    rintro e w9 ⟨rfl, hb9⟩
                    go_wp2
                    go_ret
                    exact ⟨rfl, (hbw.trans (hbA.mono hzw)).trans (hb9.mono (by simp; omega))⟩
                  · have hn1 : q.size ≤ 1024 := by omega
                    obtain ⟨xs, hxs⟩ : ∃ xs, xs = es ++ (VP.enc q.size ++ bytesOf q) := ⟨_, rfl⟩
                    obtain ⟨lx, hlx⟩ : ∃ lx, lx = xs.length := ⟨_, rfl⟩
                    have HP : Hid (TextPut es q xs 0) := .inl ⟨hn1, hxs, rfl⟩
                    have HX := Lib.hid hxs
                    have HLX := Lib.hid hlx
                    clear hxs hlx hn
                    go_wp2_with fail
                    refine (text_put A c es lb q xs 0 lx _ HP.out HB.out.hlb HLX.out hsA (by omega)).mono ?_
                    rintro e w5 ⟨A5, c5, rfl, hs5, hc5, hb5⟩
                    have HB2 : Hid (Built w w5 l (j + 1) A5 c5 lx xs) := HB.out.step HF.out (.inr (.inl ⟨rfl, hn1⟩)) (by rw [HX.out]; rfl) HLX.out hs5 hc5 (hbA.trans (hb5.mono hbA.size))
                    clear HB HF hsA hbA hbw d0 d1 d2 hs5 hb5
                    go_wp2
                    go_roundw
                    case rel => exact ⟨j + 1, A5, c5, lx, xs, by omega, by go_num, rfl, HB2⟩
                    case measure => simp [intOf]; omega
                · have z0 : (d == 0) = false := by simpa using hd0
                  have z1 : (d == 1) = false := by simpa using hd1
                  obtain ⟨xs, hxs⟩ : ∃ xs, xs = es ++ [flagByte (n == 1)] := ⟨_, rfl⟩
                  obtain ⟨lx, hlx⟩ : ∃ lx, lx = lb + 1 := ⟨_, rfl⟩
                  have hlxx : lx = xs.length := by rw [hxs, List.length_append, ← HB.out.hlb]; exact hlx
                  have HX := Lib.hid hxs
                  have HLX := Lib.hid hlx
                  have HLXX := Lib.hid hlxx
                  have HG : Hid (Fld.Good ⟨d, n, q⟩) := .inr (.inr ⟨hd0, hd1⟩)
                  have HE : Hid (xs = es ++ (Fld.mk d n q).enc) := by
                    show xs = es ++ (Fld.mk d n q).enc
                    unfold Fld.enc
                    rw [if_neg hd0, if_neg hd1]; exact hxs
                  clear hxs hlx hlxx hd0 hd1
                  go_wp2_with fail
                  refine (flag_put A c es lb (n == 1) xs lx _ HX.out HB.out.hlb HLX.out hsA (by omega) hcl).mono ?_
                  rintro e w5 ⟨A5, c5, rfl, hs5, hc5, hb5⟩
                  have HB2 : Hid (Built w w5 l (j + 1) A5 c5 lx xs) := HB.out.step HF.out HG.out HE.out HLXX.out hs5 hc5 (hbA.trans (hb5.mono hbA.size))
                  clear HB HF hsA hbA hbw d0 d1 d2 hs5 hb5
                  go_wp2
                  go_roundw
                  case rel => exact ⟨j + 1, A5, c5, lx, xs, by omega, by go_num, rfl, HB2⟩
                  case measure => simp [intOf]; omega
            · have hjl : j = len := by omega
              have htk : l.take j = l := List.take_of_length_le (by have := HLEN.out; omega)
              have hbw := HB.out.below
              have hes : es = encAll l := by have := HB.out.hes; rwa [htk] at this
              have hgood : ∀ f ∈ l, f.Good := by have := HB.out.good; rwa [htk] at this
              have hlb : lb ≤ 61800 := by have := HB.out.le; omega
              have hse := HB.out.seen
              have hcl := HB.out.hcap
              have HES := Lib.hid hes
              have HG := Lib.hid hgood
              have HLB := Lib.hid HB.out.hlb
              have hsz : (⟨es.toArray⟩ : ByteArray).size ≤ 1000000 := by
                have : (⟨es.toArray⟩ : ByteArray).size = es.length := by rw [← bytesOf_length, bytesOf_mk]
                have := HLB.out
                omega
              have HSZ := Lib.hid hsz
              have hst := str_now (P := Try.prog) hse 22 9 5 lb c HLB.out Try.underlying22 Try.underlying5 Try.underlying9
              have hall : true = readsB ⟨es.toArray⟩ 0 l := by rw [HES.out]; exact (readsB_all l HG.out).symm
              have HALL := Lib.hid hall
              have HRW : Hid (∀ W, Below w.heap.size w W → ∀ i f, l[i]? = some f → FldRow W a i f) := fun W hb i f hf => (HROWS.out i f hf).below hb
              have HLE := Lib.hid hlt
              clear hlt htk hes hgood hsz hall HB hjl
              go_wp2_with fail
              refine (reads_any ⟨es.toArray⟩ a len cap l true _ HSZ.out HLEN.out hl60 HALL.out (HRW.out _ hbw)).mono ?_
              rintro e w5 ⟨rfl, hb5⟩
              have hzw := hbw.size
              have hbw5 := hbw.trans (hb5.mono hzw)
              by_cases hl0 : len = 0
              · have hlb0 : lb = 0 := by
                  have h1 := HLB.out
                  have h2 := HLEN.out
                  rw [HES.out, List.eq_nil_of_length_eq_zero (show l.length = 0 by omega)] at h1
                  simpa [encAll] using h1
                subst hl0 hlb0
                clear hst
                go_wp2_with fail
                refine (wakes_any _).mono ?_
                rintro e w9 ⟨rfl, hb9⟩
                go_wp2
                go_ret
                exact ⟨rfl, hbw5.trans (hb9.mono hbw5.size)⟩
              · have hlbp : 0 < lb := by
                  have h1 := HLB.out
                  have h2 := HLEN.out
                  rw [HES.out] at h1
                  cases hl : l with
                  | nil => rw [hl] at h2; simp at h2; omega
                  | cons f r => rw [hl] at h1; simp only [encAll, List.length_append] at h1; have := Fld.enc_pos f; omega
                have hlp : 0 < len := by omega
                obtain ⟨m, hm⟩ : ∃ m, m = cut.tmod (lb : Int) := ⟨_, rfl⟩
                have hm2 : m < lb := by rw [hm]; exact Int.tmod_lt_of_pos _ (by omega)
                have hm1 : -(lb : Int) < m := by
                  rw [hm]
                  have h1 := Int.lt_tmod_of_pos cut (show (0 : Int) < (lb : Int) by omega)
                  omega
                obtain ⟨h, hh⟩ : ∃ h : Nat, (h : Int) = (m + (lb : Int)) % (lb : Int) := ⟨((m + (lb : Int)) % (lb : Int)).toNat, by have := Int.emod_nonneg (m + (lb : Int)) (show (lb : Int) ≠ 0 by omega); omega⟩
                have hhl : h < lb := by have := Int.emod_lt_of_pos (m + (lb : Int)) (show (0 : Int) < (lb : Int) by omega); omega
                have hr3 : (m + (lb : Int)).tmod (lb : Int) = (h : Int) := by rw [hh]; exact Int.tmod_eq_emod_of_nonneg (by omega)
                obtain ⟨D, hcut, hsd⟩ := cut_to (P := Try.prog) hse 22 5 Try.underlying22 u8_size c h (by have := HLB.out; omega) (by have := HLB.out; omega)
                rw [← HLB.out] at hcut
                have hcl2 : (es.take h).length = h := by rw [List.length_take]; have := HLB.out; omega
                have hst2 := str_now (P := Try.prog) ((hsd.below hb5).up hb5.size) 22 9 5 h c hcl2.symm Try.underlying22 Try.underlying5 Try.underlying9
                have HSZ2 : Hid ((⟨(es.take h).toArray⟩ : ByteArray).size ≤ 1000000) := by
                  show _ ≤ _
                  rw [← bytesOf_length, bytesOf_mk, hcl2]; omega
                have HNO : Hid (false = readsB ⟨(es.take h).toArray⟩ 0 l) := by
                  show _ = _
                  rw [HES.out]
                  exact (readsB_cut l h (by rw [← HES.out, ← HLB.out]; exact hhl)).symm
                have hr1 : cut.tmod (lb : Int) = m := hm.symm
                have hr2 : (m + (lb : Int)) % (lb : Int) = (h : Int) := hh.symm
                have hne : ((lb : Int) == 0) = false := by simp; omega
                have hnz : ¬ (lb : Int) = 0 := by omega
                have H1 := Lib.hid hr1
                have H2 := Lib.hid hr2
                have H3 := Lib.hid hr3
                clear hm hh hr1 hr2 hr3 hst hse hsd hcl2
                have hr1 := H1.out
                have hr2 := H2.out
                have hr3 := H3.out
                go_wp2_with fail
                refine (reads_any ⟨(es.take h).toArray⟩ a len cap l false _ HSZ2.out HLEN.out hl60 HNO.out (HRW.out _ hbw5)).mono ?_
                rintro e w6 ⟨rfl, hb6⟩
                have hbw6 := hbw5.trans (hb6.mono hbw5.size)
                clear hr1 hr2 hr3 hst2 hcut
                go_wp2_with fail
                refine (wakes_any _).mono ?_
                rintro e w9 ⟨rfl, hb9⟩
                go_wp2
                go_ret
                exact ⟨rfl, hbw6.trans (hb9.mono hbw6.size)⟩

end Go.Proofs.Ytkeekecaojpkjaa
