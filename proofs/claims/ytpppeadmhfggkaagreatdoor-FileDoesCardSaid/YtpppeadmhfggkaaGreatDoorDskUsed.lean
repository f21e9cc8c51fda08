/-
  Contracts of Used and Name, the program's and the document's: what each returns and what it does to memory. Conditions: those that each theorem names.
-/
import Derived.Test.YtpppeadmhfggkaaGreatDoorFilG2
namespace Go.Proofs.YtpppeadmhfggkaaGreatDoor
open Go.RowKit DP

set_option maxRecDepth 100000 in
set_option maxHeartbeats 400000 in
theorem used_any (A : Option Addr) (n c B : Nat) (fs : List Fl) (cap left : Int) (down : Bool) (u : Nat) (w : World) (hn : fs.length = n) (hu : used fs = u) (hs : Seen w B A (fcells fs)) (hB : B ≤ w.heap.size) (hsm : Small fs) :
    Calls Tryz.prog 60 #[.agg #[.slice A n c, .int .i64 cap, .int .i64 left, .bool down]] w fun e w' => e = .returned (.int .i64 (u : Int)) ∧ Below w.heap.size w w' := by
  have hn100 : n ≤ 100 := by have := hsm.1; omega
  have HN := Lib.hid hn
  have HU := Lib.hid hu
  have hub : u ≤ 40000000 := by have := used_bound hsm fs.length; rw [List.take_length] at this; omega
  clear hn hu
  go_enter Tryz.func60, Tryz.ntmps60
  go_wp2
  go_loopw [3, 9] (fun x i wr => ∃ (k v : Nat), k ≤ n ∧ i = .int .i64 k ∧ x = .int .i64 v ∧ v = used (fs.take k) ∧ Below w.heap.size w wr) (fun _ i _ => n - (intOf i).toNat)
  case atStart => exact ⟨0, 0, by omega, rfl, rfl, by simp [used], (Below.refl _ _).alloc (Nat.le_refl _) _⟩
  case round =>
    obtain ⟨k, v, hk, rfl, rfl, hv, hbw⟩ := hrel
    have hvb : v ≤ 40000000 := by rw [hv]; exact used_bound hsm k
    have HV := Lib.hid hv
    clear hv
    have hbz := hbw.size
    by_cases hlt : k < n
    · obtain ⟨f, hf⟩ := file_here HN.out hlt
      obtain ⟨b, off, rfl, hb, d0, d1, d2⟩ := file_at (hs.below (hbw.mono hB)) hf
      have hlen : f.b.size ≤ 400000 := (hsm.2 f (List.mem_of_getElem? hf)).1
      have HF := Lib.hid (used_take hf)
      clear hf
      go_wp2
      go_roundw
      case rel => exact ⟨k + 1, v + f.b.size, by omega, by go_num, by go_num, by rw [HF.out, HV.out], hbw.alloc hbz _⟩
      case measure => simp [intOf]; omega
    · go_wp2
      go_ret
      refine ⟨ret_i64 ?_, hbw⟩
      have := HN.out
      rw [HV.out, List.take_of_length_le (by omega), HU.out]

set_option maxRecDepth 100000 in
set_option maxHeartbeats 400000 in
theorem ref_used_any (A : Option Addr) (n c B : Nat) (fs : List Fl) (cap left : Int) (down : Bool) (u : Nat) (w : World) (hn : fs.length = n) (hu : used fs = u) (hs : Seen w B A (fcells fs)) (hB : B ≤ w.heap.size) (hsm : Small fs) :
    Calls Tryz.prog 41 #[.agg #[.slice A n c, .int .i64 cap, .int .i64 left, .bool down]] w fun e w' => e = .returned (.int .i64 (u : Int)) ∧ Below w.heap.size w w' := by
  have hn100 : n ≤ 100 := by have := hsm.1; omega
  have HN := Lib.hid hn
  have HU := Lib.hid hu
  have hub : u ≤ 40000000 := by have := used_bound hsm fs.length; rw [List.take_length] at this; omega
  clear hn hu
  go_enter Tryz.func41, Tryz.ntmps41
  go_wp2
  go_loopw [3, 4] (fun x i wr => ∃ (k v : Nat), k ≤ n ∧ i = .int .i64 k ∧ x = .int .i64 v ∧ v = used (fs.take k) ∧ wr = w.alloc (.cells #[.slice A n c, .int .i64 cap, .int .i64 left, .bool down] 24)) (fun _ i _ => n - (intOf i).toNat)
  case atStart => exact ⟨0, 0, by omega, rfl, rfl, by simp [used], rfl⟩
  case round =>
    obtain ⟨k, v, hk, rfl, rfl, hv, rfl⟩ := hrel
    have hvb : v ≤ 40000000 := by rw [hv]; exact used_bound hsm k
    have HV := Lib.hid hv
    clear hv
    by_cases hlt : k < n
    · obtain ⟨f, hf⟩ := file_here HN.out hlt
      obtain ⟨b, off, rfl, hb, d0, d1, d2⟩ := file_at hs hf
      have hlen : f.b.size ≤ 400000 := (hsm.2 f (List.mem_of_getElem? hf)).1
      have HF := Lib.hid (used_take hf)
      have hbw : b < w.heap.size := by omega
      clear hf
      go_wp2
      go_roundw
      case rel => exact ⟨k + 1, v + f.b.size, by omega, by go_num, by go_num, by rw [HF.out, HV.out], trivial⟩
      case measure => simp [intOf]; omega
    · go_wp2
      go_ret
      refine ⟨ret_i64 ?_, (Below.refl _ _).alloc (Nat.le_refl _) _⟩
      have := HN.out
      rw [HV.out, List.take_of_length_le (by omega), HU.out]

/-! ### names -/
theorem okByte_iff (c : Nat) : okByte c = true ↔ (97 ≤ c ∧ c ≤ 122) ∨ (48 ≤ c ∧ c ≤ 57) ∨ c = 46 := by
  unfold okByte; simp [or_assoc]
theorem okName_long (s : ByteArray) (h : s.size = 0 ∨ 8 < s.size) : okName s = false := by
  unfold okName
  rw [decide_eq_false (by omega), Bool.false_and]
theorem okName_is (s : ByteArray) (h0 : 0 < s.size) (h1 : s.size ≤ 8) : okName s = s.data.toList.all (fun c => okByte c.toNat) := by
  unfold okName
  rw [decide_eq_true (by omega), Bool.true_and]
theorem all_snoc (l : List UInt8) (k : Nat) (hk : k < l.length) (p : UInt8 → Bool) : (l.take (k + 1)).all p = ((l.take k).all p && p l[k]) := by
  rw [List.take_succ_eq_append_getElem hk, List.all_append]; simp
theorem byte_get (s : ByteArray) (k : Nat) (h : k < s.size) : s[k] = s.data.toList[k]'(by simpa using h) := by cases s; rfl
theorem all_not {l : List UInt8} {k : Nat} (hk : k < l.length) {p : UInt8 → Bool} (h : p l[k] = false) : l.all p = false := by
  rw [List.all_eq_false]
  exact ⟨l[k], List.getElem_mem hk, by simp [h]⟩
theorem bytes_cell (W : World) (s : ByteArray) (e : TypeId) (k : Nat) (hk : k < s.size) : (Lib.bytesWorld W e s).cell? ⟨W.heap.size, k, none⟩ = some (.int .u8 (s[k].toNat : Int)) := by
  rw [Lib.bytesWorld_cell W e s k hk]
  simp [List.getD, hk, byte_get]

theorem empty_size (s : ByteArray) : (s.toList == ({ data := #[] } : ByteArray).toList) = decide (s.size = 0) := by
  have h := eq_none (a := s)
  rw [Bool.eq_iff_iff, decide_eq_true_eq, ← h, beq_iff_eq]
  exact ⟨toList_inj, fun h => by rw [h]; rfl⟩

set_option maxRecDepth 100000 in
set_option maxHeartbeats 400000 in
theorem name_any (s : ByteArray) (b : Bool) (w : World) (hb : okName s = b) (hs : s.size ≤ 9223372036854775807) :
    Calls Tryz.prog 72 #[.string s] w fun e w' => e = .returned (.bool b) ∧ Below w.heap.size w w' := by
  have HB := Lib.hid hb
  clear hb
  by_cases h0 : s.size = 0
  · obtain rfl := eq_none.2 h0
    unfold none_ at *
    obtain rfl : false = b := (okName_long _ (.inl h0)).symm.trans HB.out
    clear HB hs h0
    go_enter Tryz.func72, Tryz.ntmps72
    go_wp2
    go_ret
    exact ⟨rfl, Below.refl _ _⟩
  · have he : s.toList = [] → False := fun h => by have := size_toList s; rw [h] at this; simp at this; omega
    have he1 : (s.toList == []) = false := by
      rw [← Bool.not_eq_true, beq_iff_eq]; exact he
    have he2 : s.toList.isEmpty = false := by
      cases hh : s.toList with
      | nil => exact absurd hh he
      | cons x r => rfl
    by_cases h8 : 8 < s.size
    · obtain rfl : false = b := (okName_long _ (.inr h8)).symm.trans HB.out
      clear HB h0 he
      go_enter Tryz.func72, Tryz.ntmps72
      go_wp2
      go_ret
      exact ⟨rfl, Below.refl _ _⟩
    · have hpos : 0 < s.size := by omega
      have h8' : s.size ≤ 8 := by omega
      have HO : Hid (s.data.toList.all (fun c => okByte c.toNat) = b) := by show _ = _; rw [← okName_is s hpos h8']; exact HB.out
      have hcv := conv_eq s
      obtain ⟨n, hn⟩ : ∃ n, n = s.size := ⟨_, rfl⟩
      have HN := Lib.hid hn
      rw [← hn] at hcv hpos h8'
      clear HB h0 he h8 hn hs
      have hs8 : s.size ≤ 8 := by rw [← HN.out]; exact h8'
      go_enter Tryz.func72, Tryz.ntmps72
      go_wp2
      clear hcv
      go_loop [15] (fun i => ∃ k : Nat, k ≤ n ∧ i = .int .i64 k ∧ (s.data.toList.take k).all (fun c => okByte c.toNat) = true) (fun i => n - (intOf i).toNat)
      case atStart => exact ⟨0, by omega, rfl, by simp⟩
      case round =>
        obtain ⟨k, hk, rfl, hall⟩ := hrel
        have HA := Lib.hid hall
        clear hall
        by_cases hlt : k < n
        · have hks : k < s.size := by rw [← HN.out]; exact hlt
          have hcell := bytes_cell w s 5 k hks
          have hkl : k < s.data.toList.length := by simpa using hks
          have HS := Lib.hid (all_snoc s.data.toList k hkl (fun c => okByte c.toNat))
          have hbg := byte_get s k hks
          obtain ⟨y, hy⟩ : ∃ y, y = s[k].toNat := ⟨_, rfl⟩
          have hy256 : y < 256 := by rw [hy]; exact s[k].toNat_lt
          rw [← hy] at hcell
          have HY : Hid ((s.data.toList[k]).toNat = y) := by show _ = _; rw [hy, hbg]
          clear hbg hy
          by_cases hok : okByte y = true
          · have HM : Hid ((s.data.toList.take (k + 1)).all (fun c => okByte c.toNat) = true) := by show _ = _; rw [HS.out, HA.out, HY.out, hok]; rfl
            have hcase := (okByte_iff y).1 hok
            clear hok HS HA
            rcases hcase with ⟨h1, h2⟩ | ⟨h1, h2⟩ | h1
            · go_wp2
              go_round
              case rel => exact ⟨k + 1, by omega, by go_num, HM.out⟩
              case measure => simp [intOf]; omega
            · go_wp2
              go_round
              case rel => exact ⟨k + 1, by omega, by go_num, HM.out⟩
              case measure => simp [intOf]; omega
            · subst h1
              go_wp2
              go_round
              case rel => exact ⟨k + 1, by omega, by go_num, HM.out⟩
              case measure => simp [intOf]; omega
          · have hno : okByte y = false := by simpa using hok
            obtain rfl : false = b := (all_not hkl (p := fun c => okByte c.toNat) (by show okByte _ = false; rw [HY.out]; exact hno)).symm.trans HO.out
            have hcase : ¬ ((97 ≤ y ∧ y ≤ 122) ∨ (48 ≤ y ∧ y ≤ 57) ∨ y = 46) := fun h => hok ((okByte_iff y).2 h)
            have hdot : ((y : Int) == 46) = false := by rw [beq_eq_false_iff_ne]; omega
            have hdot' : ((y : Int) != 46) = true := by simp at hdot ⊢; omega
            have hrange : y < 48 ∨ (57 < y ∧ y < 97) ∨ 122 < y := by omega
            clear hok hno HS HA hcase
            rcases hrange with h | ⟨h, h'⟩ | h
            all_goals
              go_wp2
              go_ret
              exact ⟨rfl, conv_below _ _ _⟩
        · obtain rfl : true = b := by
            rw [← HO.out, ← HA.out, List.take_of_length_le (by have := HN.out; simp; omega)]
          go_wp2
          go_ret
          exact ⟨rfl, conv_below _ _ _⟩

set_option maxRecDepth 100000 in
set_option maxHeartbeats 400000 in
theorem ref_name_any (s : ByteArray) (b : Bool) (w : World) (hb : okName s = b) (hs : s.size ≤ 9223372036854775807) :
    Calls Tryz.prog 62 #[.string s] w fun e w' => e = .returned (.bool b) ∧ w' = w := by
  have HB := Lib.hid hb
  clear hb
  obtain ⟨n, hn⟩ : ∃ n, n = s.size := ⟨_, rfl⟩
  have HN := Lib.hid hn
  go_enter Tryz.func62, Tryz.ntmps62
  go_wp2
  go_loop [3] (fun i => ∃ k : Nat, k ≤ s.size ∧ i = .int .i64 k ∧ (s.data.toList.take k).all (fun c => okByte c.toNat) = true) (fun i => s.size - (intOf i).toNat)
  case atStart => exact ⟨0, by omega, rfl, by simp⟩
  case round =>
    obtain ⟨k, hk, rfl, hall⟩ := hrel
    have HA := Lib.hid hall
    clear hall hn
    by_cases hlt : k < s.size
    · have hkl : k < s.data.toList.length := by simpa using hlt
      have HS := Lib.hid (all_snoc s.data.toList k hkl (fun c => okByte c.toNat))
      have hbg := byte_get s k hlt
      obtain ⟨y, hy⟩ : ∃ y, y = s[k].toNat := ⟨_, rfl⟩
      have hy256 : y < 256 := by rw [hy]; exact s[k].toNat_lt
      have HY : Hid ((s.data.toList[k]).toNat = y) := by show _ = _; rw [hy, hbg]
      have hidx : s[k].toNat = y := hy.symm
      clear hbg hy
      by_cases hok : okByte y = true
      · have HM : Hid ((s.data.toList.take (k + 1)).all (fun c => okByte c.toNat) = true) := by show _ = _; rw [HS.out, HA.out, HY.out, hok]; rfl
        have hcase := (okByte_iff y).1 hok
        clear hok HS HA
        rcases hcase with ⟨h1, h2⟩ | ⟨h1, h2⟩ | h1
        · go_wp2
          go_round
          case rel => exact ⟨k + 1, by omega, by go_num, HM.out⟩
          case measure => simp [intOf]; omega
        · go_wp2
          go_round
          case rel => exact ⟨k + 1, by omega, by go_num, HM.out⟩
          case measure => simp [intOf]; omega
        · subst h1
          go_wp2
          go_round
          case rel => exact ⟨k + 1, by omega, by go_num, HM.out⟩
          case measure => simp [intOf]; omega
      · have hno : okByte y = false := by simpa using hok
        have HF : Hid (okName s = false) := by
          show _ = _
          unfold okName
          rw [all_not hkl (p := fun c => okByte c.toNat) (by show okByte _ = false; rw [HY.out]; exact hno), Bool.and_false]
        obtain rfl : false = b := HF.out.symm.trans HB.out
        have hcase : ¬ ((97 ≤ y ∧ y ≤ 122) ∨ (48 ≤ y ∧ y ≤ 57) ∨ y = 46) := fun h => hok ((okByte_iff y).2 h)
        have hdot : ((y : Int) == 46) = false := by rw [beq_eq_false_iff_ne]; omega
        have hrange : y < 48 ∨ (57 < y ∧ y < 97) ∨ 122 < y := by omega
        clear hok hno HS HA hcase
        rcases hrange with h | ⟨h, h'⟩ | h
        · go_wp2
          go_ret
          exact ⟨rfl, rfl⟩
        · have g1 : decide ((y : Int) ≤ 57) = false := bool_dec _ (by omega)
          go_wp2
          go_ret
          exact ⟨rfl, rfl⟩
        · have g1 : decide ((y : Int) ≤ 57) = false := bool_dec _ (by omega)
          have g2 : decide ((y : Int) ≤ 122) = false := bool_dec _ (by omega)
          go_wp2
          go_ret
          exact ⟨rfl, rfl⟩
    · have HO : Hid (okName s = decide (1 ≤ s.size ∧ s.size ≤ 8)) := by
        show _ = _
        unfold okName
        rw [← List.take_of_length_le (i := k) (l := s.data.toList) (by simp; omega), HA.out, Bool.and_true]
      by_cases h1 : 1 ≤ s.size
      · by_cases h8 : s.size ≤ 8
        · obtain rfl : true = b := by rw [← HB.out, HO.out, decide_eq_true ⟨h1, h8⟩]
          have h8' : decide ((s.size : Int) ≤ 8) = true := by simp; omega
          clear HA
          go_wp2
          go_ret
          exact ⟨rfl, rfl⟩
        · obtain rfl : false = b := by rw [← HB.out, HO.out, decide_eq_false (fun h => h8 h.2)]
          have h8' : decide ((s.size : Int) ≤ 8) = false := by simp; omega
          clear HA
          go_wp2
          go_ret
          exact ⟨rfl, rfl⟩
      · obtain rfl : false = b := by rw [← HB.out, HO.out, decide_eq_false (fun h => h1 h.1)]
        have h8' : decide (1 ≤ (s.size : Int)) = false := by simp; omega
        clear HA
        go_wp2
        go_ret
        exact ⟨rfl, rfl⟩

end Go.Proofs.YtpppeadmhfggkaaGreatDoor
