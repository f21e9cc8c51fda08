/-
  strings.Builder: what WriteString and String return and what they do to memory (WriteString walked; String out of the library's law, at this program's numbers). Conditions: those that each theorem names.
-/
import Derived.Test.YtpppeadmhfggkaaGreatDoorFilG3
import Derived.Shelf.Strings.BuilderK
namespace Go.Proofs.YtpppeadmhfggkaaGreatDoor
open Go.RowKit Go.Shelf

/-! ### the library's law of String, at this program's numbers -/
def renString : Go.Shelf.Ren := ⟨fun | 169 => 51 | n => n, fun | 70 => 98 | 9 => 9 | 0 => 0 | 72 => 101 | 37 => 99 | 127 => 133 | 3 => 3 | 5 => 5 | n => n, fun | n => n⟩
theorem laysString : Go.Proofs.Lays.n169 Tryz.prog renString := {
  mixed := by kernel_rfl
  f169 := Tryz.func51.trans (congrArg some (by kernel_rfl))
  t0 := Tryz.underlying0
  a0 := Tryz.isAgg0
  z0 := Tryz.sizeOf0
  v0 := Tryz.zeroValue0
  t3 := Tryz.underlying3
  a3 := Tryz.isAgg3
  z3 := Tryz.sizeOf3
  v3 := Tryz.zeroValue3
  t9 := Tryz.underlying9
  a9 := Tryz.isAgg9
  z9 := Tryz.sizeOf9
  v9 := Tryz.zeroValue9
  t37 := Tryz.underlying99
  a37 := Tryz.isAgg99
  z37 := Tryz.sizeOf99
  v37 := Tryz.zeroValue99
  t70 := Tryz.underlying98
  a70 := Tryz.isAgg98
  z70 := Tryz.sizeOf98
  v70 := Tryz.zeroValue98
  t72 := Tryz.underlying101
  a72 := Tryz.isAgg101
  z72 := Tryz.sizeOf101
  v72 := Tryz.zeroValue101
  t127 := Tryz.underlying133
  a127 := Tryz.isAgg133
  z127 := Tryz.sizeOf133
  v127 := Tryz.zeroValue133 }
theorem moreString : Go.Proofs.Builder.Extra Tryz.prog renString := {
  sizeBuilder := by kernel_rfl
  liesBuilder := by kernel_rfl
  t5 := Tryz.underlying5
  a5 := Tryz.isAgg5
  z5 := Tryz.sizeOf5
  v5 := Tryz.zeroValue5
  infoByte := by kernel_rfl
  cellsByte := by kernel_rfl
  sizeByte := by kernel_rfl
  neB5 := by decide }

/-- A Builder in block b, its bytes in memory from base on. -/
def Bld (base b : Nat) (l : List UInt8) (w : World) : Prop :=
  ∃ p v, Var w b 101 #[p, v] ∧ (p = .pointer none ∨ p = .pointer (some ⟨b, 0, none⟩)) ∧ w.ownsRow base 5 1 v l.length (cells l)

theorem byteCells_is (l : List UInt8) : Lib.byteCells l = cells l := rfl
theorem strCells_is (s : ByteArray) : Lib.strCells s = cells (bytesOf s) := rfl

theorem Bld.fresh {w : World} (base : Nat) : Bld base w.heap.size [] (w.alloc (.cells #[.pointer none, .slice none 0 0] 101)) :=
  ⟨_, _, Var.new w _ _, .inl rfl, World.ownsRow_nil _ _ _ _⟩

theorem others_walk {e : TypeId} {b : Nat} {w w' : World} (h : Lib.OthersKept e (some b) w w') {D : Nat} {x : Option (List Deferred)} (hD : w.heap[D]? = some (.deferred x)) (hne : D ≠ b) : w'.heap[D]? = some (.deferred x) :=
  h D _ hD (fun e => hne (Option.some.inj e)) (fun c fz hc => by cases hc)

/-! ### WriteString -/
theorem grown_set (W : World) (b i : Nat) (v : Value) : W.grownBy (W.setCell ⟨b, i, none⟩ v) (some b) :=
  ⟨rfl, rfl, rfl, by simp [World.setCell], fun k _ hk => Below.heap_setCell _ _ _ k (fun e => hk (by rw [e]))⟩
theorem bld_size : ∃ j, Tryz.prog.info? 101 = some j ∧ j.size = 2 := Option.map_eq_some_iff.1 (by kernel_rfl : (Tryz.prog.info? 101).map (·.size) = some 2)
theorem u8_info : (Tryz.prog.info? 5).map (fun i => (i.zero, i.size, i.bytes)) = some (some (.int .u8 0), 1, 1) := by kernel_rfl
theorem Var.shape {w : World} {g T : Nat} {cs : Array Value} (h : Var w g T cs) : w.shape? g = some (T, cs.size) := by unfold Var at h; simp [World.shape?, h]

theorem seen_check (b : Nat) (v : Value) (w : World) (h : Var w b 101 #[.pointer (some ⟨b, 0, none⟩), v]) :
    Calls Tryz.prog 69 #[.pointer (some ⟨b, 0, none⟩)] w fun e w' => e = .returned (.tuple #[]) ∧ w = w' := by
  obtain ⟨j, hj, _⟩ := bld_size
  have c0 := h.cell 0 rfl
  have k1 := fun W : World => Lib.run_neq_ptr_same (P := Tryz.prog) W ⟨b, 0, none⟩ Tryz.underlying98 hj
  go_enter Tryz.func69, Tryz.ntmps69
  go_wp2
  go_end0
  exact ⟨rfl, rfl⟩
theorem new_check (b : Nat) (v : Value) (w : World) (h : Var w b 101 #[.pointer none, v]) :
    Calls Tryz.prog 69 #[.pointer (some ⟨b, 0, none⟩)] w fun e w' => e = .returned (.tuple #[]) ∧ w.setCell ⟨b, 0, none⟩ (.pointer (some ⟨b, 0, none⟩)) = w' := by
  obtain ⟨j, hj, hjs⟩ := bld_size
  have c0 := h.cell 0 rfl
  have f0 := h.free 0
  have x1 := @run_callFunc_extern Tryz.prog 81 _ Extern.AbiNoEscape.same Tryz.func81 (by kernel_rfl) (by kernel_rfl) (by kernel_rfl) (by kernel_rfl)
  have x2 := fun W : World => Lib.run_noEscape (P := Tryz.prog) W (.pointer (some ⟨b, 0, none⟩))
  have k1 := Lib.run_to_unsafe (P := Tryz.prog) w ⟨b, 0, none⟩ Tryz.underlying98 Tryz.underlying84 hj (by rw [hjs]; decide) h.shape (Nat.zero_lt_succ 1)
  have k2 := Lib.run_from_unsafe (P := Tryz.prog) w ⟨b, 0, none⟩ Tryz.underlying84 Tryz.underlying98 hj h.shape (by kernel_rfl)
  go_enter Tryz.func69, Tryz.ntmps69
  go_wp2
  go_end0
  exact ⟨rfl, rfl⟩

/-- Behind copyCheck: the Builder knows where it lies. -/
theorem any_check {base b : Nat} {l : List UInt8} {w : World} (h : Bld base b l w) (hb : b < base) :
    Calls Tryz.prog 69 #[.pointer (some ⟨b, 0, none⟩)] w fun e w' => e = .returned (.tuple #[]) ∧
      (∃ v, Var w' b 101 #[.pointer (some ⟨b, 0, none⟩), v] ∧ w'.ownsRow base 5 1 v l.length (cells l)) ∧ Stays base [b] w w' ∧ KeepsOthers w w' := by
  obtain ⟨p, v, hv, hp, hown⟩ := h
  rcases hp with rfl | rfl
  · refine (new_check b v w hv).mono ?_
    rintro e w' ⟨he, rfl⟩
    exact ⟨he, ⟨v, by simpa using hv.set 0 (.pointer (some ⟨b, 0, none⟩)), own_low hown hb⟩, (Stays.refl _ _ _).setCell (by simp) _, KeepsOthers.setCell _ _ _⟩
  · refine (seen_check b v w hv).mono ?_
    rintro e w' ⟨he, rfl⟩
    exact ⟨he, ⟨v, hv, hown⟩, Stays.refl _ _ _, KeepsOthers.refl _⟩

set_option maxRecDepth 100000 in
set_option maxHeartbeats 1000000 in
theorem bld_write (base b : Nat) (l : List UInt8) (s : ByteArray) (w : World) (h : Bld base b l w) (hb : b < base) (hbase : base ≤ w.heap.size) (hl : l.length + s.size ≤ 1000000) :
    Calls Tryz.prog 50 #[.pointer (some ⟨b, 0, none⟩), .string s] w fun e w' => e = .returned (.tuple #[.int .i64 (s.size : Int), .nilIface]) ∧
      Bld base b (l ++ bytesOf s) w' ∧ Stays base [b] w w' ∧ KeepsOthers w w' := by
  obtain ⟨i0, hi, hz0, hz1, hz2⟩ := info_parts u8_info
  go_enter Tryz.func50, Tryz.ntmps50
  go_wp2_with fail
  refine (any_check h hb).mono ?_
  rintro e w1 ⟨rfl, ⟨v, hv, hown⟩, hst, hko⟩
  have hbase1 : base ≤ w1.heap.size := Nat.le_trans hbase hst.size
  have c0 := hv.cell 0 rfl
  have c1 := hv.cell 1 rfl
  have HST := Lib.hid hst
  have HKO := Lib.hid hko
  clear hst hko h
  go_wp2_with (at_builtin; refine Lib.wpList_append_own_string _ rfl _ _ 99 9 rfl base 5 i0 Tryz.underlying99 Tryz.underlying9 hi hz0 hz1 hz2 _ _ _ rfl hown s rfl ?c3 ?c4 ?c5 ?_)
  case c3 => unfold maxLen; omega
  case c4 => omega
  case c5 => exact hbase1
  intro v' w2 hown' hgrow _
  have hlow : ∀ r, v.ownBlock = some r → base ≤ r := fun r e => (hown.lt r e).1
  have hv2 : Var w2 b 101 #[.pointer (some ⟨b, 0, none⟩), v] := (hgrow.block b hv.lt (fun e => by have := hlow b e.symm; omega)).trans hv
  have hst2 : Stays base [b] w w2 := HST.out.trans ((Stays.refl base [b] w1).grown hbase1 hgrow hlow)
  have hko2 : KeepsOthers w w2 := HKO.out.trans ⟨hgrow.size, fun g o hg ho => by rw [hgrow.block g (heap_lt hg) (own_cells hown hg ho), hg]⟩
  have d0 := hv2.cell 0 rfl
  have d1 := hv2.cell 1 rfl
  have f1 := hv2.free 1
  obtain ⟨ao, n', cap, rfl⟩ : ∃ ao n' cap, v' = .slice ao n' cap := by
    rcases hown'.2 with ⟨hv, _⟩ | ⟨g, cap, cur, hv, _⟩
    · exact ⟨_, _, _, hv⟩
    · exact ⟨_, _, _, hv⟩
  clear c0 c1 hgrow
  go_wp2
  go_ret2
  refine ⟨rfl, ⟨_, _, by simpa using hv2.set 1 (.slice ao n' cap), .inr rfl, ?_⟩, hst2.setCell (by simp) _, hko2.trans (KeepsOthers.setCell _ _ _)⟩
  rw [List.length_append, bytesOf_length, cells_append]
  rw [strCells_is] at hown'
  refine hown'.kept (grown_set w2 b 1 _) (.inr (fun e' => by have := (hown'.lt b e').1; omega))

theorem bld_string (base b : Nat) (l : List UInt8) (w : World) (h : Bld base b l w) (hb : b < base) (hbase : base ≤ w.heap.size) :
    Calls Tryz.prog 51 #[.pointer (some ⟨b, 0, none⟩)] w fun e w' => e = .returned (.string (str l)) ∧ Below b w w' ∧ Lib.OthersKept 5 (some b) w w' := by
  obtain ⟨p, v, hv, hp, hown⟩ := h
  have hown' : w.ownsRow b 5 1 v l.length (cells l) := own_mono hown (by omega)
  have hne : v.ownBlock ≠ some b := fun e => by have := (hown.lt b e).1; omega
  have hB : Lib.IsBuilder 101 5 b b (Lib.byteCells l) w := by
    have hx : ∃ v, w.heap[b]? = some (.cells #[p, v] 101 (0, 0)) ∧ w.ownsRow b 5 1 v (Lib.byteCells l).length (Lib.byteCells l) ∧ v.ownBlock ≠ some b := ⟨v, hv, by rw [Lib.byteCells_length]; exact hown', hne⟩
    rcases hp with rfl | rfl
    · exact .inl ⟨Nat.le_refl _, hx⟩
    · exact .inr ⟨Nat.le_refl _, hx⟩
  exact (Go.Proofs.Any.Builder_String_any_k laysString moreString b b l w (Lib.IsBuilderF.of hB) (by omega)).mono fun _ _ ⟨he, _, h1, h2⟩ => ⟨he, h1, h2⟩
end Go.Proofs.YtpppeadmhfggkaaGreatDoor
