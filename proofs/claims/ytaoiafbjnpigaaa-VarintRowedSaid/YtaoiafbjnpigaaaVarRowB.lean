/-
  Contracts of varint's collect and ReadRow: what each returns and what it does to memory. Conditions: those that each theorem names.
-/
import Derived.Test.YtaoiafbjnpigaaaVarRowA
namespace Go.Proofs.Ytaoiafbjnpigaaa
open Go.RowKit

/-- Numbers as cells. -/
def ints (ns : List Nat) : List Value := ns.map fun n : Nat => .int .i64 (n : Int)
theorem ints_length (ns : List Nat) : (ints ns).length = ns.length := by simp [ints]
theorem ints_snoc (ns : List Nat) (n : Nat) : ints (ns ++ [n]) = ints ns ++ [.int .i64 (n : Int)] := by simp [ints]

theorem int_info : (Try.prog.info? 3).map (fun i => (i.zero, i.size, i.bytes)) = some (some (.int .i64 0), 1, 8) := by kernel_rfl

section
variable {w w' w0 : World} {g at_ : Nat} {s : Value}
theorem Seen.grown {B : Nat} {A : Option Addr} {xs : List Value} (h : Seen w B A xs) (hg : w.grownBy w' (some g)) (hB : B ≤ g) (hlt : B ≤ w.heap.size) : Seen w' B A xs := fun hx => by
  obtain ⟨b, off, rfl, hb, hc⟩ := h hx
  exact ⟨b, off, rfl, hb, fun j u hu => (World.cell?_of_block (a := ⟨b, off + j, none⟩) (hg.block b (by omega) (fun e => by injection e; omega))).trans (hc j u hu)⟩
theorem Reader.moved (h : Reader w g s at_) (q p : Nat) : Reader ((w.drewN q).setCell ⟨g, 1, none⟩ (.int .i64 (p : Int))) g s p := by
  unfold Reader at h ⊢
  have h' : (w.drewN q).heap[g]? = some (.cells #[s, .int .i64 (at_ : Int)] 44 (0, 0)) := h
  simp [World.setCell, Array.getElem?_modify, h]
theorem grown_moved (w : World) (g q : Nat) (u : Value) : w.grownBy ((w.drewN q).setCell ⟨g, 1, none⟩ u) (some g) :=
  ⟨rfl, rfl, rfl, by simp [World.setCell], fun k _ hne => (Below.heap_setCell (w.drewN q) ⟨g, 1, none⟩ u k (fun e => hne (by rw [e])))⟩
theorem grown_drewN (w : World) (g q : Nat) : w.grownBy (w.drewN q) (some g) := ⟨rfl, rfl, rfl, Nat.le_refl _, fun _ _ _ => rfl⟩
theorem grown_trans (h : w0.grownBy w (some g)) (k : w.grownBy w' (some g)) : w0.grownBy w' (some g) :=
  ⟨k.os.trans h.os, k.tape.trans h.tape, k.output.trans h.output, Nat.le_trans h.size k.size, fun i hi hne => (k.block i (Nat.lt_of_lt_of_le hi h.size) hne).trans (h.block i hi hne)⟩
theorem grown_below (h : w0.grownBy w (some g)) (k : Below w0.heap.size w w') : w0.grownBy w' (some g) :=
  ⟨k.os.trans h.os, k.tape.trans h.tape, k.output.trans h.output, Nat.le_trans h.size k.size, fun i hi hne => (k.block i hi).trans (h.block i hi hne)⟩
theorem Reader.below {B : Nat} (h : Reader w g s at_) (k : Below B w w') (hg : g < B) : Reader w' g s at_ := (k.block g hg).trans h
theorem own_kept {base n : Nat} {e : TypeId} {v : Value} {xs : List Value} (h : w.ownsRow base e 1 v n xs) (hg : w.grownBy w' (some g)) (hb : g < base) : w'.ownsRow base e 1 v n xs :=
  h.kept hg (by
    rcases ho : v.ownBlock with _ | b
    · exact .inl rfl
    · exact .inr (fun e => by injection e with e; have := (h.lt b ho).1; omega))
theorem below_of_grown (h : w.grownBy w' (some g)) {B : Nat} (hB : B ≤ g) (hlt : B ≤ w.heap.size) : Below B w w' :=
  ⟨h.os, h.tape, h.output, h.size, fun i hi => h.block i (by omega) (fun e => by injection e; omega)⟩
end

/-- What collect hands back. -/
def CollectPost (w : World) (g : Nat) (s : Value) (at_ cnt : Nat) (r : Option (List Nat × Nat)) (e : Ending) (w' : World) : Prop :=
  w.grownBy w' (some g) ∧
  (∀ ns k, r = some (ns, k) → ∃ A c, e = .returned (.tuple #[.slice A cnt c, .int .i64 0]) ∧ Seen w' w'.heap.size A (ints ns) ∧ cnt ≤ c ∧ Reader w' g s (at_ + k)) ∧
  (r = none → e = .returned (.tuple #[.slice none 0 0, .int .i64 70]))

theorem CollectPost.of_none {w w' : World} {g at_ cnt : Nat} {s : Value} {r : Option (List Nat × Nat)} (hr : r = none) (hg : w.grownBy w' (some g)) : CollectPost w g s at_ cnt r (.returned (.tuple #[.slice none 0 0, .int .i64 70])) w' := by
  refine ⟨hg, fun ns k h => ?_, fun _ => rfl⟩
  rw [hr] at h; cases h
theorem CollectPost.of_some {w w' : World} {g at_ cnt k : Nat} {s : Value} {r : Option (List Nat × Nat)} {ns : List Nat} {A : Option Addr} {c : Nat} (hr : r = some (ns, k)) (hg : w.grownBy w' (some g)) (hs : Seen w' w'.heap.size A (ints ns)) (hc : cnt ≤ c) (hrd : Reader w' g s (at_ + k)) :
    CollectPost w g s at_ cnt r (.returned (.tuple #[.slice A cnt c, .int .i64 0])) w' := by
  refine ⟨hg, fun ns' k' h => ?_, fun h => ?_⟩
  · rw [hr] at h; injection h with h; injection h with h1 h2; subst h1 h2; exact ⟨A, c, rfl, hs, hc, hrd⟩
  · rw [hr] at h; cases h

/-- What is still to be read. -/
def Toread (bs : List UInt8) (at_ cnt i k : Nat) (ns : List Nat) (r : Option (List Nat × Nat)) : Prop :=
  ns.length = i ∧ r = (VP.takes (cnt - i) (bs.drop (at_ + k))).map fun x => (ns ++ x.1, k + x.2)
theorem Toread.start (bs : List UInt8) (at_ cnt : Nat) : Toread bs at_ cnt 0 0 [] (VP.takes cnt (bs.drop at_)) := by
  refine ⟨rfl, ?_⟩
  rw [Nat.sub_zero, Nat.add_zero]
  cases VP.takes cnt (bs.drop at_) <;> simp
theorem Toread.none_ {bs : List UInt8} {at_ cnt i k : Nat} {ns : List Nat} {r : Option (List Nat × Nat)} (h : Toread bs at_ cnt i k ns r) (hi : i < cnt) (hd : VP.dec (bs.drop (at_ + k)) = none) : r = none := by
  rw [h.2, show cnt - i = (cnt - i - 1) + 1 by omega, VP.takes_none hd]; rfl
theorem Toread.step {bs : List UInt8} {at_ cnt i k n j : Nat} {ns : List Nat} {r : Option (List Nat × Nat)} (h : Toread bs at_ cnt i k ns r) (hi : i < cnt) (hd : VP.dec (bs.drop (at_ + k)) = some (n, j)) : Toread bs at_ cnt (i + 1) (k + j) (ns ++ [n]) r := by
  refine ⟨by simp [h.1], ?_⟩
  rw [h.2, show cnt - i = (cnt - (i + 1)) + 1 by omega, VP.takes_more hd, List.drop_drop, show at_ + k + j = at_ + (k + j) by omega]
  cases VP.takes (cnt - (i + 1)) (bs.drop (at_ + (k + j))) with
  | none => rfl
  | some x => simp; omega
theorem Toread.last {bs : List UInt8} {at_ cnt k : Nat} {ns : List Nat} {r : Option (List Nat × Nat)} (h : Toread bs at_ cnt cnt k ns r) : r = some (ns, k) := by
  rw [h.2, Nat.sub_self]; simp [VP.takes]

theorem next_lb (g B : Nat) (A : Option Addr) (c : Nat) (bs : List UInt8) (lb at_ : Nat) (w : World) (hlb : lb = bs.length) (hr : Reader w g (.slice A lb c) at_) (hs : Seen w B A (cells bs)) (hx : lb ≤ 1000000) (hc : lb ≤ c) (hat : at_ ≤ lb) :
    Calls Try.prog 23 #[.pointer (some ⟨g, 0, none⟩)] w (NextPost w g at_ (VP.dec (bs.drop at_))) := by
  subst hlb
  exact next_any g B A c bs at_ w hr hs hx hc hat

set_option maxRecDepth 100000 in
set_option maxHeartbeats 1000000 in
theorem collect_any (g B : Nat) (A : Option Addr) (c : Nat) (bs : List UInt8) (lb at_ cnt : Nat) (r : Option (List Nat × Nat)) (w : World) (hlb : lb = bs.length) (hr : r = VP.takes cnt (bs.drop at_)) (hrd : Reader w g (.slice A lb c) at_) (hs : Seen w B A (cells bs))
    (hB : B ≤ g) (hg : g < w.heap.size) (hx : lb ≤ 1000000) (hc : lb ≤ c) (hat : at_ ≤ lb) (hcnt : cnt ≤ 1000000) :
    Calls Try.prog 25 #[.int .i64 (cnt : Int), .func (.func 23) #[.pointer (some ⟨g, 0, none⟩)] #[]] w (CollectPost w g (.slice A lb c) at_ cnt r) := by
  obtain ⟨i0, hi0, hz0, hz1, hz2⟩ := info_parts int_info
  have htr := Toread.start bs at_ cnt
  rw [← hr] at htr
  have HT := Lib.hid htr
  have HB := Lib.hid hlb
  clear hr hlb htr
  go_enter Try.func25, Try.ntmps25
  go_wp2_with (at_make; refine wpList_make_own _ rfl _ _ 31 rfl w.heap.size 3 i0 (.int .i64 0) 1 Try.underlying31 hi0 hz0 hz1 _ _ _ cnt rfl rfl rfl ?c1 ?c2 ?c3 ?_)
  case c1 => rw [hz2]; omega
  case c2 => unfold maxLen; omega
  case c3 => exact Nat.le_refl _
  intro w1 hown1 hg1
  have hb1 := below_grown hg1
  have hgr1 := grown_below (World.grownBy.refl w (some g)) hb1
  have hrd1 := hrd.below hb1 hg
  clear hg1 hb1
  go_wp2
  go_loopw [12, 6] (fun i v wr => ∃ (k j : Nat) (ns : List Nat), k ≤ cnt ∧ i = .int .i64 k ∧ wr.ownsRow w.heap.size 3 1 v k (ints ns) ∧ Reader wr g (.slice A lb c) (at_ + j) ∧ w.grownBy wr (some g) ∧ at_ + j ≤ lb ∧ Toread bs at_ cnt k j ns r) (fun i _ _ => cnt - (intOf i).toNat)
  case atStart => exact ⟨0, 0, [], by omega, rfl, hown1, hrd1, hgr1, hat, HT.out⟩
  case round =>
    obtain ⟨k, j, ns, hk, rfl, hown, hrdr, hgr, hatj, htr⟩ := hrel
    have HTR := Lib.hid htr
    have hsz := hgr.size
    have hsr := hs.grown hgr hB (by omega)
    clear htr hown1 hrd1 hgr1
    by_cases hlt : k < cnt
    · rcases hd : VP.dec (bs.drop (at_ + j)) with _ | ⟨n, j2⟩
      · have HN := Lib.hid (HTR.out.none_ hlt hd)
        have HD := Lib.hid hd
        clear hd hown
        go_wp2_with fail
        refine (next_lb g B A c bs lb (at_ + j) _ HB.out hrdr hsr hx hc hatj).mono ?_
        intro e w2 hp
        obtain ⟨rfl, q, rfl⟩ := hp.2 HD.out
        clear hp
        go_wp2
        go_ret2
        exact CollectPost.of_none HN.out (grown_trans hgr (grown_drewN _ _ _))
      · have htr2 := HTR.out.step hlt hd
        have hj2 := (VP.dec_only hd).2.2.1
        rw [List.length_drop, ← HB.out] at hj2
        have HT2 := Lib.hid htr2
        have HD := Lib.hid hd
        clear hd htr2
        go_wp2_with fail
        refine (next_lb g B A c bs lb (at_ + j) _ HB.out hrdr hsr hx hc hatj).mono ?_
        intro e w2 hp
        obtain ⟨rfl, q, hw⟩ := hp.1 n j2 HD.out
        have hrd2 := hrdr.moved q (at_ + j + j2)
        have hg2 := grown_moved wr g q (.int .i64 ((at_ + j + j2 : Nat) : Int))
        rw [← hw] at hrd2 hg2
        have hown2 := own_kept hown hg2 hg
        have hgr2 := grown_trans hgr hg2
        have hsz2 := hgr2.size
        clear hw hp hrdr hgr hown hsr hg2
        go_wp2_with (at_builtin; refine wpList_append_own _ rfl _ _ 31 rfl w.heap.size 3 i0 (.int .i64 0) 1 8 Try.underlying31 hi0 hz0 hz1 hz2 rfl (by decide) _ _ _ rfl (hown2.alloc _) ⟨w2.heap.size, 0, none⟩ 1 1 [.int .i64 (n : Int)] rfl rfl ?c1 ?c2 ?c3 ?c4 ?c5 ?_)
        case c1 => exact cell_one_new _ _ _
        case c2 => intro u hu; simp at hu; subst hu; rfl
        case c3 => unfold maxLen; omega
        case c4 => omega
        case c5 => simp; omega
        intro v' w3 hown3 hgrow _
        rw [← ints_snoc] at hown3
        have hb3 : Below w.heap.size w2 w3 := ((Below.refl _ _).alloc hsz2 _).grown hgrow (by simp; omega) (fun k hk => (hown2.lt k hk).1)
        have hrd3 := hrd2.below hb3 hg
        have hgr3 := grown_below hgr2 hb3
        clear hgrow hb3 hown2 hrd2 hgr2
        rw [Nat.add_assoc] at hrd3
        go_wp2
        go_roundw
        case rel => exact ⟨k + 1, j + j2, ns ++ [n], by omega, by go_num, hown3, hrd3, hgr3, by omega, HT2.out⟩
        case measure => simp [intOf]; omega
    · obtain rfl : k = cnt := by omega
      have HN := Lib.hid HTR.out.last
      obtain ⟨A', c', rfl, hs', hc'⟩ := own_form hown
      clear hown hs hsr
      go_wp2
      go_ret2
      exact CollectPost.of_some HN.out hgr hs' hc' hrdr

/-- What ReadRow of bs is: numbers, an error's number. -/
def ReadIs (bs : List UInt8) (ns : List Nat) (er : Int) : Prop := (VP.readRow bs = some ns ∧ er = 0) ∨ (VP.readRow bs = none ∧ ns = [] ∧ er = 70)

/-- The reading's three ways out without a row, and the one with. -/
theorem readRow_first {bs : List UInt8} (h : VP.dec bs = none) : VP.readRow bs = none := by unfold VP.readRow; rw [h]
theorem readRow_many {bs : List UInt8} {cnt k : Nat} (h : VP.dec bs = some (cnt, k)) (hc : bs.length < k + cnt) : VP.readRow bs = none := by
  unfold VP.readRow
  rw [h]
  simp only
  rcases ht : VP.takes cnt (bs.drop k) with _ | ⟨ns, k'⟩
  · rfl
  · obtain ⟨h1, h2, h3, _⟩ := VP.takes_le _ _ _ _ ht
    have := (VP.dec_only h).2.2.1
    rw [List.length_drop] at h3
    omega
theorem readRow_stops {bs : List UInt8} {cnt k : Nat} (h : VP.dec bs = some (cnt, k)) (ht : VP.takes cnt (bs.drop k) = none) : VP.readRow bs = none := by
  unfold VP.readRow; rw [h]; simp only; rw [ht]
theorem readRow_end {bs : List UInt8} {cnt k k' : Nat} {ns : List Nat} (h : VP.dec bs = some (cnt, k)) (ht : VP.takes cnt (bs.drop k) = some (ns, k')) : VP.readRow bs = if k + k' = bs.length then some ns else none := by
  unfold VP.readRow; rw [h]; simp only; rw [ht]

theorem ReadIs.none_ {bs : List UInt8} {ns : List Nat} {er : Int} (h : ReadIs bs ns er) (hr : VP.readRow bs = none) : ns = [] ∧ er = 70 := by
  rcases h with ⟨h, _⟩ | ⟨_, h1, h2⟩
  · rw [h] at hr; cases hr
  · exact ⟨h1, h2⟩
theorem ReadIs.some_ {bs : List UInt8} {ns ms : List Nat} {er : Int} (h : ReadIs bs ns er) (hr : VP.readRow bs = some ms) : ns = ms ∧ er = 0 := by
  rcases h with ⟨h, h2⟩ | ⟨h, _⟩
  · rw [h] at hr; injection hr with hr; exact ⟨hr, h2⟩
  · rw [h] at hr; cases hr

set_option maxRecDepth 100000 in
set_option maxHeartbeats 1000000 in
theorem readrow_all (A : Option Addr) (c : Nat) (bs : List UInt8) (lb : Nat) (ns : List Nat) (er : Int) (ln : Nat) (w : World) (hr : ReadIs bs ns er) (hlb : lb = bs.length) (hln : ln = ns.length) (hs : Seen w w.heap.size A (cells bs)) (hx : lb ≤ 1000000) (hc : lb ≤ c) :
    Calls Try.prog 18 #[.slice A lb c] w fun e w' => ∃ A' c', e = .returned (.tuple #[.slice A' ln c', .int .i64 er]) ∧ Seen w' w'.heap.size A' (ints ns) ∧ ln ≤ c' ∧ Below w.heap.size w w' := by
  have hmf : ∀ (fn : Fn) (first cap : Array Value) (w : World), (Instr.makeFunc fn first cap).run Try.prog w = .ok (.func fn first cap) w := fun _ _ _ _ => rfl
  have hb0 : Below w.heap.size w (w.alloc (.cells #[.slice A lb c, .int .i64 ((0 : Nat) : Int)] 44)) := (Below.refl _ _).alloc (Nat.le_refl _) _
  have hrd0 := Reader.new w (.slice A lb c) 0
  have hgr0 : w.grownBy (w.alloc (.cells #[.slice A lb c, .int .i64 ((0 : Nat) : Int)] 44)) (some w.heap.size) := grown_below (World.grownBy.refl w _) hb0
  have hs0 := hs.below hb0
  have HB := Lib.hid hlb
  have HN := Lib.hid hln
  have HR := Lib.hid hr
  clear hlb hln hr hb0
  rcases hd : VP.dec (bs.drop 0) with _ | ⟨cnt, k⟩
  · obtain ⟨h1, h2⟩ := HR.out.none_ (readRow_first (by simpa using hd))
    have hl0 : ln = 0 := by rw [HN.out, h1]; rfl
    subst h1 h2 hl0
    have HD := Lib.hid hd
    clear hd
    go_enter Try.func18, Try.ntmps18
    go_wp2_with fail
    refine (next_lb w.heap.size w.heap.size A c bs lb 0 _ HB.out hrd0 hs0 hx hc (by omega)).mono ?_
    intro e w2 hp
    obtain ⟨rfl, q, hw⟩ := hp.2 HD.out
    have hb2 : Below w.heap.size w w2 := by rw [hw]; exact below_of_grown (grown_trans hgr0 (grown_drewN _ _ _)) (Nat.le_refl _) (Nat.le_refl _)
    clear hp hw
    go_wp2
    go_ret2
    exact ⟨none, 0, rfl, Seen.nil _ _ _, Nat.le_refl _, hb2⟩
  · have hdb : VP.dec bs = some (cnt, k) := by simpa using hd
    obtain ⟨_, hk0, hkl, hk6, _⟩ := VP.dec_only hdb
    rw [← HB.out] at hkl
    have HD := Lib.hid hd
    have HDB := Lib.hid hdb
    clear hd hdb
    by_cases hmany : lb < k + cnt
    · obtain ⟨h1, h2⟩ := HR.out.none_ (readRow_many HDB.out (by rw [← HB.out]; exact hmany))
      have hl0 : ln = 0 := by rw [HN.out, h1]; rfl
      subst h1 h2 hl0
      have hm1 : (lb : Int) - (k : Int) < (cnt : Int) := by omega
      go_enter Try.func18, Try.ntmps18
      go_wp2_with fail
      refine (next_lb w.heap.size w.heap.size A c bs lb 0 _ HB.out hrd0 hs0 hx hc (by omega)).mono ?_
      intro e w2 hp
      obtain ⟨rfl, q, hw⟩ := hp.1 cnt k HD.out
      have hrd2 := hrd0.moved q (0 + k)
      have hb2 : Below w.heap.size w w2 := by rw [hw]; exact below_of_grown (grown_trans hgr0 (grown_moved _ _ _ _)) (Nat.le_refl _) (Nat.le_refl _)
      rw [← hw, Nat.zero_add] at hrd2
      have hc1 := hrd2.cell1
      clear hp hw hgr0 hrd0 hs0 hs hrd2
      go_wp2
      go_ret2
      exact ⟨none, 0, rfl, Seen.nil _ _ _, Nat.le_refl _, hb2⟩
    · have hm1 : (cnt : Int) ≤ (lb : Int) - (k : Int) := by omega
      obtain ⟨r, hrt⟩ : ∃ r, r = VP.takes cnt (bs.drop k) := ⟨_, rfl⟩
      have HT := Lib.hid hrt
      have hsw := hs
      clear hrt
      have hcnt : cnt ≤ 1000000 := by omega
      go_enter Try.func18, Try.ntmps18
      go_wp2_with fail
      refine (next_lb w.heap.size w.heap.size A c bs lb 0 _ HB.out hrd0 hs0 hx hc (by omega)).mono ?_
      intro e w2 hp
      obtain ⟨rfl, q, hw⟩ := hp.1 cnt k HD.out
      have hrd2 := hrd0.moved q (0 + k)
      have hgr2 : w.grownBy w2 (some w.heap.size) := by rw [hw]; exact grown_trans hgr0 (grown_moved _ _ _ _)
      have hlt2 : w.heap.size < w2.heap.size := by rw [hw]; simp [World.setCell]
      rw [← hw, Nat.zero_add] at hrd2
      have hs2 := hsw.grown hgr2 (Nat.le_refl _) (Nat.le_refl _)
      have hc1 := hrd2.cell1
      clear hp hw hgr0 hrd0 hs0 hs hsw
      go_wp2_with fail
      refine (collect_any w.heap.size w.heap.size A c bs lb k cnt r _ HB.out HT.out hrd2 hs2 (Nat.le_refl _) hlt2 hx hc (by omega) hcnt).mono ?_
      intro e w3 hp
      have hgr3 := grown_trans hgr2 hp.1
      have hb3 : Below w.heap.size w w3 := below_of_grown hgr3 (Nat.le_refl _) (Nat.le_refl _)
      clear hc1 hrd2 hs2 hgr2 hlt2 hgr3
      rcases hrv : r with _ | ⟨ms, k'⟩
      · obtain ⟨h1, h2⟩ := HR.out.none_ (readRow_stops HDB.out (by rw [← HT.out]; exact hrv))
        have hl0 : ln = 0 := by rw [HN.out, h1]; rfl
        subst h1 h2 hl0
        have he := hp.2.2 hrv
        subst he
        clear hp hrv
        go_wp2
        go_ret2
        exact ⟨none, 0, rfl, Seen.nil _ _ _, Nat.le_refl _, hb3⟩
      · obtain ⟨A', c', he, hs', hc', hrd3⟩ := hp.2.1 ms k' hrv
        have hend := readRow_end HDB.out (by rw [← HT.out]; exact hrv)
        obtain ⟨hml, _, hk'l, _⟩ := VP.takes_le _ _ _ _ (show VP.takes cnt (bs.drop k) = some (ms, k') by rw [← HT.out]; exact hrv)
        subst he
        have hc1 := hrd3.cell1
        clear hp hrv hrd3
        by_cases hall : k + k' = lb
        · rw [if_pos (by rw [← HB.out]; exact hall)] at hend
          obtain ⟨h1, h2⟩ := HR.out.some_ hend
          subst h1 h2
          have hlc : ln = cnt := by rw [HN.out]; exact hml
          subst hlc
          rw [hall] at hc1
          have hself : ((lb : Int) != (lb : Int)) = false := by simp
          clear hend hall hml hk'l
          go_wp2
          go_ret2
          exact ⟨A', c', rfl, hs', hc', hb3⟩
        · rw [if_neg (by rw [← HB.out]; exact hall)] at hend
          obtain ⟨h1, h2⟩ := HR.out.none_ hend
          have hl0 : ln = 0 := by rw [HN.out, h1]; rfl
          subst h1 h2 hl0
          obtain ⟨p, hp⟩ : ∃ p, p = k + k' := ⟨_, rfl⟩
          rw [← hp] at hc1 hall
          have hne : ((p : Int) != (lb : Int)) = true := by simp; omega
          clear hend hp hml hk'l hs'
          go_wp2
          go_ret2
          exact ⟨none, 0, rfl, Seen.nil _ _ _, Nat.le_refl _, hb3⟩

end Go.Proofs.Ytaoiafbjnpigaaa
