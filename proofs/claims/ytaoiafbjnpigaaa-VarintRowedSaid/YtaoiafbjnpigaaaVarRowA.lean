/-
  Contracts of varint's Row and of the closure in it: what each returns and what it does to memory. Conditions: those that each theorem names.
-/
import Derived.Test.YtaoiafbjnpigaaaVarTellsWalk
import Derived.Test.YtaoiafbjnpigaaaVarRowPlain
namespace Go.Proofs.Ytaoiafbjnpigaaa
open Go.RowKit

/-- The closure's two variables: the row so far (block br), the error (block be). -/
structure RowVars (w : World) (base br be : Nat) (er : Int) (xs : List UInt8) (v : Value) : Prop where
  row : w.heap[br]? = some (.cells #[v] 22 (0, 0))
  err : w.heap[be]? = some (.cells #[.int .i64 er] 24 (0, 0))
  own : w.ownsRow base 5 1 v xs.length (cells xs)
  lo : br < base
  le : be < base
  size : base ≤ w.heap.size
  ne : br ≠ be

section
variable {w w' : World} {base br be : Nat} {er : Int} {xs : List UInt8} {v : Value}
theorem RowVars.cellRow (h : RowVars w base br be er xs v) : w.cell? ⟨br, 0, none⟩ = some v := cell_of_row w br 0 _ _ (0, 0) h.row
theorem RowVars.cellErr (h : RowVars w base br be er xs v) : w.cell? ⟨be, 0, none⟩ = some (.int .i64 er) := cell_of_row w be 0 _ _ (0, 0) h.err
theorem free_of_block {w : World} {g i : Nat} {cs : Array Value} {t : TypeId} (h : w.heap[g]? = some (.cells cs t (0, 0))) : w.frozen? ⟨g, i, none⟩ = false := by
  simp [World.frozen?, h]
theorem block_set {w : World} {g : Nat} {t : TypeId} {a u : Value} (h : w.heap[g]? = some (.cells #[a] t (0, 0))) : (w.setCell ⟨g, 0, none⟩ u).heap[g]? = some (.cells #[u] t (0, 0)) := by
  simp [World.setCell, Array.getElem?_modify, h]
theorem RowVars.setErr (h : RowVars w base br be er xs v) (e : Int) : RowVars (w.setCell ⟨be, 0, none⟩ (.int .i64 e)) base br be e xs v :=
  ⟨(Below.heap_setCell w ⟨be, 0, none⟩ _ br (by have := h.ne; simpa using this)).trans h.row, block_set h.err, ownsRow_setCell_below h.own (by simpa using h.le) _, h.lo, h.le, by simpa [World.setCell] using h.size, h.ne⟩
theorem RowVars.setRow (h : RowVars w base br be er xs v) {w1 : World} {v1 : Value} {ys : List UInt8} (hb : Below base w w1) (hown : w1.ownsRow base 5 1 v1 ys.length (cells ys)) :
    RowVars (w1.setCell ⟨br, 0, none⟩ v1) base br be er ys v1 := by
  have h1 : w1.heap[br]? = some (.cells #[v] 22 (0, 0)) := (hb.block br h.lo).trans h.row
  have h2 : w1.heap[be]? = some (.cells #[.int .i64 er] 24 (0, 0)) := (hb.block be h.le).trans h.err
  exact ⟨block_set h1, (Below.heap_setCell w1 ⟨br, 0, none⟩ _ be (by have := h.ne; simpa using Ne.symm this)).trans h2, ownsRow_setCell_below hown (by simpa using h.lo) _, h.lo, h.le, Nat.le_trans h.size (by simpa [World.setCell] using hb.size), h.ne⟩
end

/-- What the closure makes of the variables: the error's number, the bytes. -/
def PutsIs (n er : Int) (xs : List UInt8) (er' : Int) (xs' : List UInt8) : Prop :=
  (0 ≤ n ∧ n ≤ 1099511627776 ∧ er' = er ∧ xs' = xs ++ VP.enc n.toNat) ∨ ((n < 0 ∨ 1099511627776 < n) ∧ er' = 2 ∧ xs' = xs)

set_option maxRecDepth 100000 in
set_option maxHeartbeats 400000 in
theorem puts_any (base br be B : Nat) (n er er' : Int) (xs xs' : List UInt8) (v : Value) (w : World) (h : RowVars w base br be er xs v) (hp : PutsIs n er xs er' xs') (hx : xs.length ≤ 1000000) (hB1 : B ≤ br) (hB2 : B ≤ be) :
    Calls Try.prog 24 #[.int .i64 n, .pointer (some ⟨be, 0, none⟩), .pointer (some ⟨br, 0, none⟩)] w fun e w' => e = .returned (.tuple #[]) ∧ ∃ v', RowVars w' base br be er' xs' v' ∧ Below B w w' := by
  have hcr := h.cellRow
  have hce := h.cellErr
  have hfe : w.frozen? ⟨be, 0, none⟩ = false := free_of_block h.err
  rcases hp with ⟨h0, h1, rfl, rfl⟩ | ⟨hn, rfl, rfl⟩
  · obtain ⟨m, rfl⟩ : ∃ m : Nat, n = m := ⟨n.toNat, by omega⟩
    rw [Int.toNat_natCast]
    go_enter Try.func24, Try.ntmps24
    go_wp2_with fail
    refine (isNumber_yes _ _ h0 h1).mono ?_
    rintro e w1 ⟨rfl, rfl⟩
    go_wp2_with fail
    refine (add_any base v xs m _ h.size h.own hx (by omega)).mono ?_
    rintro e w1 ⟨v1, rfl, hown1, hb1⟩
    have hn1 := h.setRow hb1 hown1
    obtain ⟨l2, A1, c1, rfl⟩ : ∃ l2 A1 c1, v1 = .slice A1 l2 c1 := by
      obtain ⟨A1, c1, hv, _⟩ := own_bytes hown1
      exact ⟨_, A1, c1, hv⟩
    have hcr1 : w1.cell? ⟨br, 0, none⟩ = some v := (hb1.cell (p := ⟨br, 0, none⟩) h.lo).trans hcr
    have hfr1 : w1.frozen? ⟨br, 0, none⟩ = false := (hb1.frozen (p := ⟨br, 0, none⟩) h.lo).trans (free_of_block h.row)
    have hbl : B ≤ base := by have := h.lo; omega
    clear hown1 hcr hce hfe
    go_wp2
    go_end0
    exact ⟨rfl, _, hn1, (hb1.mono hbl).setCell (by simpa using hB1) _⟩
  · have hn2 := h.setErr 2
    go_enter Try.func24, Try.ntmps24
    go_wp2_with fail
    refine (isNumber_no _ _ hn).mono ?_
    rintro e w1 ⟨rfl, rfl⟩
    go_wp2
    refine bodyPost_ret (results_none rfl _ _ _) rfl ?_
    exact ⟨rfl, v, hn2, (Below.refl _ _).setCell (by simpa using hB2) _⟩


/-- What Row of ns is: bytes, an error's number. -/
def RowIs (ns : List Int) (xs : List UInt8) (er : Int) : Prop :=
  (∃ ms : List Nat, ns = ms.map (fun m : Nat => (m : Int)) ∧ (∀ m ∈ ms, m ≤ 1099511627776) ∧ xs = VP.rowBytes ms ∧ er = 0) ∨ ((∃ n ∈ ns, n < 0 ∨ 1099511627776 < n) ∧ xs = [] ∧ er = 2)
/-- .. behind k of its numbers. -/
def RowState (ns : List Int) (k : Nat) (er : Int) (xs : List UInt8) : Prop :=
  xs.length ≤ 6 * (k + 1) ∧ ((er = 0 ∧ ∃ ms : List Nat, ns.take k = ms.map (fun m : Nat => (m : Int)) ∧ (∀ m ∈ ms, m ≤ 1099511627776) ∧ xs = VP.enc ns.length ++ VP.encs ms) ∨ (er = 2 ∧ ∃ n ∈ ns, n < 0 ∨ 1099511627776 < n))

theorem RowState.start (ns : List Int) (h : ns.length ≤ 300) : PutsIs (ns.length : Int) 0 [] 0 (VP.enc ns.length) ∧ RowState ns 0 0 (VP.enc ns.length) := by
  refine ⟨.inl ⟨by omega, by omega, rfl, by simp⟩, ?_, .inl ⟨rfl, [], by simp, by simp, by simp [VP.encs]⟩⟩
  have := VP.enc_six (n := ns.length) (by omega)
  omega

theorem RowState.step {ns : List Int} {k : Nat} {er : Int} {xs : List UInt8} {n : Int} (h : RowState ns k er xs) (hk : ns[k]? = some n) : ∃ er' xs', PutsIs n er xs er' xs' ∧ RowState ns (k + 1) er' xs' := by
  have hmem : n ∈ ns := List.mem_of_getElem? hk
  obtain ⟨hl, hs⟩ := h
  by_cases hb : n < 0 ∨ 1099511627776 < n
  · exact ⟨2, xs, .inr ⟨hb, rfl, rfl⟩, by omega, .inr ⟨rfl, n, hmem, hb⟩⟩
  · have h6 := VP.enc_six (n := n.toNat) (by omega)
    refine ⟨er, xs ++ VP.enc n.toNat, .inl ⟨by omega, by omega, rfl, rfl⟩, by simp; omega, ?_⟩
    rcases hs with ⟨he, ms, h1, h2, h3⟩ | ⟨he, hbad⟩
    · refine .inl ⟨he, ms ++ [n.toNat], ?_, ?_, ?_⟩
      · rw [List.take_add_one, h1, hk]
        simp
        omega
      · intro m hm
        rcases List.mem_append.1 hm with hm | hm
        · exact h2 m hm
        · simp at hm; subst hm; omega
      · rw [h3, VP.encs_snoc, List.append_assoc]
    · exact .inr ⟨he, hbad⟩

theorem cast_inj : ∀ a b : List Nat, a.map (fun m : Nat => (m : Int)) = b.map (fun m : Nat => (m : Int)) → a = b := by
  intro a
  induction a with
  | nil => intro b h; cases b with
    | nil => rfl
    | cons y t => simp at h
  | cons x t ih => intro b h; cases b with
    | nil => simp at h
    | cons y u =>
      simp only [List.map_cons, List.cons.injEq] at h
      rw [ih u h.2, show x = y by omega]

theorem RowState.last {ns : List Int} {er er' : Int} {xs xs' : List UInt8} (h : RowState ns ns.length er xs) (hr : RowIs ns xs' er') : (er = 0 ∧ er' = 0 ∧ xs' = xs) ∨ (er = 2 ∧ er' = 2 ∧ xs' = []) := by
  obtain ⟨_, hs⟩ := h
  rw [List.take_length] at hs
  rcases hr with ⟨ms, h1, h2, h3, h4⟩ | ⟨⟨n, hn, hb⟩, h3, h4⟩
  · rcases hs with ⟨he, ms', h1', _, h3'⟩ | ⟨_, n, hn, hb⟩
    · have : ms = ms' := by
        have hh : ms.map (fun m : Nat => (m : Int)) = ms'.map (fun m : Nat => (m : Int)) := h1.symm.trans h1'
        exact cast_inj ms ms' hh
      subst this
      refine .inl ⟨he, h4, ?_⟩
      rw [h3, h3', h1]
      simp [VP.rowBytes]
    · rw [h1, List.mem_map] at hn
      obtain ⟨m, hm, rfl⟩ := hn
      have := h2 m hm
      omega
  · rcases hs with ⟨_, ms', h1', h2', _⟩ | ⟨he, _⟩
    · rw [h1', List.mem_map] at hn
      obtain ⟨m, hm, rfl⟩ := hn
      have := h2' m hm
      omega
    · exact .inr ⟨he, h4, h3⟩

theorem RowVars.start (w : World) : RowVars ((w.alloc (.cells #[.slice none 0 0] 22)).alloc (.cells #[.int .i64 0] 24)) (w.heap.size + 2) w.heap.size (w.heap.size + 1) 0 [] (.slice none 0 0) :=
  ⟨(Below.heap_alloc _ _ _ (by simp)).trans (heap_alloc_new w _), by have := heap_alloc_new (w.alloc (.cells #[.slice none 0 0] 22)) (.cells #[.int .i64 0] 24); simpa using this, World.ownsRow_nil _ _ _ _, by omega, by omega, by simp, by omega⟩

set_option maxRecDepth 100000 in
set_option maxHeartbeats 1000000 in
theorem row_all (A : Option Addr) (c : Nat) (ns : List Int) (ln : Nat) (xs : List UInt8) (er : Int) (lx : Nat) (w : World) (hr : RowIs ns xs er) (hln : ln = ns.length) (hlx : lx = xs.length) (hs : Seen w w.heap.size A (ns.map (Value.int .i64))) (hx : ln ≤ 300) :
    Calls Try.prog 16 #[.slice A ln c] w fun e w' => ∃ A' c', e = .returned (.tuple #[.slice A' lx c', .int .i64 er]) ∧ Seen w' w'.heap.size A' (cells xs) ∧ lx ≤ c' ∧ Below w.heap.size w w' := by
  have hmf : ∀ (fn : Fn) (first cap : Array Value) (w : World), (Instr.makeFunc fn first cap).run Try.prog w = .ok (.func fn first cap) w := fun _ _ _ _ => rfl
  have h300 : ns.length ≤ 300 := by omega
  obtain ⟨hp0, hst0⟩ := RowState.start ns h300
  rw [← hln] at hp0 hst0
  have hv0 := RowVars.start w
  have hb0 : Below w.heap.size w ((w.alloc (.cells #[.slice none 0 0] 22)).alloc (.cells #[.int .i64 0] 24)) := ((Below.refl _ _).alloc (Nat.le_refl _) _).alloc (by simp) _
  have HN := Lib.hid hln
  have HR := Lib.hid hr
  have HX := Lib.hid hlx
  have HP := Lib.hid hp0
  have HS := Lib.hid hst0
  clear hln hr hlx hp0 hst0 h300
  go_enter Try.func16, Try.ntmps16
  go_wp2_with fail
  refine (puts_any (w.heap.size + 2) w.heap.size (w.heap.size + 1) w.heap.size (ln : Int) 0 0 [] _ _ _ hv0 HP.out (by simp) (by omega) (by omega)).mono ?_
  rintro e w1 ⟨rfl, v1, hv1, hb1⟩
  have hbw1 := hb0.trans hb1
  clear hv0 hb0 hb1
  go_wp2_with fail
  go_loopw [16] (fun i wr => ∃ (k : Nat) (er1 : Int) (ys : List UInt8) (v : Value), k ≤ ln ∧ i = .int .i64 k ∧ RowVars wr (w.heap.size + 2) w.heap.size (w.heap.size + 1) er1 ys v ∧ Below w.heap.size w wr ∧ RowState ns k er1 ys) (fun i _ => ln - (intOf i).toNat)
  case atStart => exact ⟨0, 0, _, v1, by omega, rfl, hv1, hbw1, HS.out⟩
  case round =>
    obtain ⟨k, er1, ys, v, hk, rfl, hv, hbw, hst⟩ := hrel
    have HST := Lib.hid hst
    clear hst hv1 hbw1
    by_cases hlt : k < ln
    · have hk' : k < ns.length := by have := HN.out; omega
      obtain ⟨n, hn⟩ : ∃ n, ns[k]? = some n := ⟨_, List.getElem?_eq_getElem hk'⟩
      obtain ⟨er2, ys2, hP2, hst2⟩ := RowState.step HST.out hn
      obtain ⟨b, off, rfl, hbB, hcell⟩ := hs (by intro e; simp at e; subst e; simp at hk')
      have hcx : wr.cell? ⟨b, off + k, none⟩ = some (.int .i64 n) := (hbw.cell (p := ⟨b, off + k, none⟩) hbB).trans (hcell k _ (by rw [List.getElem?_map, hn]; rfl))
      have HP2 := Lib.hid hP2
      have HST2 := Lib.hid hst2
      have hyl : ys.length ≤ 1806 := by have := HST.out.1; omega
      have HYL := Lib.hid hyl
      clear hP2 hst2 hyl hn hk' hcell hs HST
      go_wp2_with fail
      refine (puts_any (w.heap.size + 2) w.heap.size (w.heap.size + 1) w.heap.size n er1 er2 ys ys2 v _ hv HP2.out (by have := HYL.out; omega) (by omega) (by omega)).mono ?_
      rintro e w2 ⟨rfl, v2, hv2, hb2⟩
      have hbw2 := hbw.trans hb2
      clear hv hbw hb2 hcx
      go_wp2
      go_roundw
      case rel => exact ⟨k + 1, er2, ys2, v2, by omega, by go_num, hv2, hbw2, HST2.out⟩
      case measure => simp [intOf]; omega
    · obtain rfl : k = ln := by omega
      have hst := HST.out
      rw [HN.out] at hst
      have hce := hv.cellErr
      have hcr := hv.cellRow
      rcases hst.last HR.out with ⟨rfl, rfl, hxy⟩ | ⟨rfl, rfl, hxe⟩
      · subst hxy
        have hown := hv.own
        rw [← HX.out] at hown
        obtain ⟨A', c', rfl, hs', hc'⟩ := own_form hown
        clear hown hst hv hs
        go_wp2
        go_ret2
        exact ⟨A', c', rfl, hs', hc', hbw⟩
      · have hx0 : lx = 0 := by rw [HX.out, hxe]; rfl
        subst hx0 hxe
        clear hst hv hs hcr
        go_wp2
        go_quiet (fail)
        go_wp2
        go_ret2
        exact ⟨none, 0, rfl, Seen.nil _ _ _, Nat.le_refl _, below_drewN hbw _⟩

end Go.Proofs.Ytaoiafbjnpigaaa
