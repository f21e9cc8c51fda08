/-
  The pass that writes, in memory. Conditions: those that each theorem names.
-/
import Derived.Test.YtplpagnnlggfgaaDoorRepHeld
namespace Go.Proofs.YtplpagnnlggfgaaDoor
open Go.RowKit

def wrRep (g : Nat) (w : World) (ys : List UInt8) : Prop := ∃ v ly, Var w g 51 #[v] ∧ w.ownsRow (g + 1) 5 1 v ly (cells ys) ∧ ly = ys.length
theorem wrRep.kq {g : Nat} {w w' : World} {ys : List UInt8} (h : wrRep g w ys) (hk : Kq g w w') : wrRep g w' ys := by
  obtain ⟨v, ly, hv, ho, hl⟩ := h
  exact ⟨v, ly, (hk.block g hv.lt (.inl rfl)).trans hv, own_kq ho hk, hl⟩
theorem fnum_yes (n lx : Nat) (w : World) (hlx : lx = (VP.enc n).length) (hn : n ≤ 1099511627776) :
    Calls Tryd.prog 81 #[.slice none 0 0, .int .i64 (n : Int)] w fun e w' => ∃ v, e = .returned (.tuple #[v, .int .i64 0]) ∧ w'.ownsRow w.heap.size 5 1 v lx (cells (VP.enc n)) ∧ Below w.heap.size w w' := by
  subst hlx
  have H := Lib.hid (put_yes none 0 [] n w (Seen.nil _ _ _) (by simp) hn)
  simp only [List.nil_append, List.length_nil] at H
  go_enter Tryd.func81, Tryd.ntmps81
  go_wp2_with fail
  refine H.out.mono ?_
  rintro e w1 ⟨v, rfl, ho, hb⟩
  go_wp2
  go_ret2
  exact ⟨v, rfl, ho, hb⟩
theorem fnum_no (n : Int) (w : World) (hn : n < 0 ∨ 1099511627776 < n) :
    Calls Tryd.prog 81 #[.slice none 0 0, .int .i64 n] w fun e w' => e = .returned (.tuple #[.slice none 0 0, .int .i64 2]) ∧ w = w' := by
  have HN := Lib.hid hn
  clear hn
  go_enter Tryd.func81, Tryd.ntmps81
  go_wp2_with fail
  refine (put_no (.slice none 0 0) n _ HN.out).mono ?_
  rintro e w1 ⟨rfl, rfl⟩
  go_wp2
  go_ret2
  exact ⟨rfl, rfl⟩
set_option maxRecDepth 100000 in
set_option maxHeartbeats 1000000 in
theorem ftext_yes (s : ByteArray) (xs : List UInt8) (lx : Nat) (w : World) (h : s.size ≤ 1024) (hxs : xs = VP.enc s.size ++ bytesOf s) (hlx : lx = xs.length) :
    Calls Tryd.prog 82 #[.slice none 0 0, .string s] w fun e w' => ∃ v, e = .returned (.tuple #[v, .int .i64 0]) ∧ w'.ownsRow w.heap.size 5 1 v lx (cells xs) ∧ Below w.heap.size w w' := by
  obtain ⟨i0, hi0, hz0, hz1, hz2⟩ := info_parts u8_info
  have hput := put_yes none 0 [] s.size w (Seen.nil _ _ _) (by simp) (by omega)
  simp only [List.nil_append, List.length_nil] at hput
  obtain ⟨ms, hms⟩ : ∃ ms, ms = VP.enc s.size := ⟨_, rfl⟩
  obtain ⟨lm, hlm⟩ : ∃ lm, lm = ms.length := ⟨_, rfl⟩
  have h6 := VP.enc_six (n := s.size) (by omega)
  have hle : lm ≤ 6 := by rw [hlm, hms]; exact h6
  rw [← hms, ← hlm] at hput
  have H := Lib.hid hput
  have HE : Hid (cells ms ++ Lib.strCells s = cells xs ∧ lm + s.size = lx) := by
    refine ⟨?_, ?_⟩
    · rw [strCells_is, ← cells_append, hxs, hms]
    · rw [hlx, hxs, hlm, hms, List.length_append (bs := bytesOf s), bytesOf_length]
  clear hput hxs hlx h6 hms hlm
  go_enter Tryd.func82, Tryd.ntmps82
  go_wp2_with fail
  refine H.out.mono ?_
  rintro e w1 ⟨v, rfl, hown, hb⟩
  go_wp2_with (at_builtin; refine Lib.wpList_append_own_string _ rfl _ _ 27 9 rfl w.heap.size 5 i0 Tryd.underlying27 Tryd.underlying9 hi0 hz0 hz1 hz2 v _ _ rfl hown s rfl ?c1 ?c2 ?c3 ?_)
  case c1 => unfold maxLen; omega
  case c2 => omega
  case c3 => exact hb.size
  intro v' w2 hown2 hg _
  have hb2 : Below w.heap.size w w2 := hb.grown hg hb.size (fun k hk => (hown.lt k hk).1)
  rw [HE.out.1, HE.out.2] at hown2
  clear hown hg
  go_wp2
  go_ret2
  exact ⟨v', rfl, hown2, hb2⟩
set_option maxRecDepth 100000 in
theorem ftext_no (s : ByteArray) (w : World) (h : 1024 < s.size) :
    Calls Tryd.prog 82 #[.slice none 0 0, .string s] w fun e w' => e = .returned (.tuple #[.slice none 0 0, .int .i64 2]) ∧ w = w' := by
  have y : decide ((1024 : Int) < (s.size : Int)) = true := by simp; omega
  go_enter Tryd.func82, Tryd.ntmps82
  go_wp2
  go_ret2
  exact ⟨rfl, rfl⟩
/-- 'append(v, x...)' of bytes, v the writer's own. -/
theorem wpList_append_bytes {P : Program} {w : World} {ops : Array Oper} {rest : List Oper} {o : Oper} {a : Act} {Q : Exit → Act → World → Prop} (hgd : o.guard = none) (s x : Operand) (t : TypeId)
    (ho : o.op = .call { callee := .builtin .append, args := #[s, x], argTypes := #[t, t] })
    (base : Nat) (e : TypeId) (i : TypeInfo) (z : Value) (ht : P.underlying t = some (.slice e)) (hi : P.info? e = some i) (hz : i.zero = some z)
    (hsize : i.size = 1) (hby : i.bytes = 1) (hzs : z.cells.size = 1)
    (v : Value) (n : Nat) (xs : List Value) (hs : a.eval s = v) (hown : w.ownsRow base e 1 v n xs)
    (B : Nat) (A : Option Addr) (m c : Nat) (news : List Value) (hx : a.eval x = .slice A m c) (hm : news.length = m) (hr : Seen w B A news) (h1 : ∀ u ∈ news, u.oneCell' = true)
    (h63 : n + m ≤ 2000000) (hbase : base ≤ w.heap.size)
    (h : ∀ v' w', w'.ownsRow base e 1 v' (n + m) (xs ++ news) → w.grownBy w' v.ownBlock → wpList P ops Q rest (a.put o.dst v') w') : wpList P ops Q (o :: rest) a w := by
  refine wpList_plain hgd fun K hK => ?_
  obtain ⟨v', w', hrun, h2, h3⟩ : ∃ v' w', (Builtin.append_ #[t, t] o.type #[v, .slice A m c]).run P w = .ok v' w' ∧ w'.ownsRow base e 1 v' (n + m) (xs ++ news) ∧ w.grownBy w' v.ownBlock := by
    by_cases hn : news = []
    · subst hn
      obtain rfl : m = 0 := by simpa using hm.symm
      refine ⟨v, w, ?_, by simpa using hown, ⟨rfl, rfl, rfl, Nat.le_refl _, fun _ _ _ => rfl⟩⟩
      rcases hown.2 with ⟨rfl, h0⟩ | ⟨g, cap, cur, rfl, _, _, hnc, _⟩
      · cases A <;> simp [Builtin.append_, run_underlying ht, sizeOf, typeInfo, hi, Builtin.lenOf, Builtin.firstCells, loadCells, loadCellsFrom]
      · cases A <;> simp [Builtin.append_, run_underlying ht, sizeOf, typeInfo, hi, Builtin.lenOf, Builtin.firstCells, loadCells, loadCellsFrom, hnc, storeCells]
    · obtain ⟨b, off, rfl, _, hc⟩ := hr hn
      obtain ⟨v', w', hrun, h2, h3, _⟩ := run_append_own (P := P) w base t o.type e i z 1 1 ht hi hz hsize hby hzs (by omega) v n xs hown ⟨b, off, none⟩ m c news (by omega) (fun j u hu => by rw [plain_add]; exact hc j u hu) h1 (by unfold maxLen; omega) (by omega) hbase
      exact ⟨v', w', hrun, h2, h3⟩
  unfold Oper.wp execOp
  simp only [ho, resolve, invoke, builtin, Sem.run_bind, Sem.run_pure, Result.andThen_ok, List.map_toArray, List.map_cons, List.map_nil, hs, hx, hrun]
  exact hK _ _ (h v' w' h2 h3)
set_option maxRecDepth 100000 in
set_option maxHeartbeats 1000000 in
theorem wadd_any (g : Nat) (ys l : List UInt8) (A : Option Addr) (n c : Nat) (er : Int) (ok : Bool) (w : World) (h : wrRep g w ys) (hs : Seen w w.heap.size A (cells l)) (hn : n = l.length) (hy : ys.length ≤ 800000) (hl : n ≤ 2000) (he : ok = true ∧ er = 0 ∨ ok = false ∧ er = 2) :
    Calls Tryd.prog 80 #[.pointer (some ⟨g, 0, none⟩), .slice A n c, .int .i64 er] w fun e w' => e = .returned (.bool ok) ∧ wrRep g w' (ys ++ l) ∧ Tn [g] w w' := by
  obtain ⟨v, ly, hv, ho, hly⟩ := h
  obtain ⟨i0, hi0, hz0, hz1, hz2⟩ := info_parts u8_info
  have hg := hv.lt
  have c0 := hv.cell 0 rfl
  have HLY := Lib.hid hly
  have HN : Hid ((cells l).length = n) := by show _ = _; rw [cells_length, hn]
  have HN2 := Lib.hid hn
  have hlyb : ly ≤ 800000 := by omega
  clear hly hn
  go_enter Tryd.func80, Tryd.ntmps80
  go_wp2_with (at_builtin; refine wpList_append_bytes rfl _ _ 27 rfl (g + 1) 5 i0 (.int .u8 0) Tryd.underlying27 hi0 hz0 hz1 hz2 rfl v ly (cells ys) rfl ho w.heap.size A n c (cells l) rfl HN.out hs (cells_one l) (by omega) hg ?_)
  intro v' w1 ho1 hgr
  have t1 := tn_grown ho hgr
  have v1 := hv.below (B := g + 1) (grown_low hgr hg (fun k hk => (ho.lt k hk).1)) (Nat.lt_succ_self g)
  have c1 := v1.cell 0 rfl
  have f1 := v1.free 0
  have z1 := v1.lt
  rw [← cells_append] at ho1
  obtain ⟨A', c', rfl, -, -⟩ := own_form ho1
  have hrep : wrRep g (w1.setCell ⟨g, 0, none⟩ (.slice A' (ly + n) c')) (ys ++ l) := ⟨.slice A' (ly + n) c', ly + n, by have := v1.set 0 (.slice A' (ly + n) c'); simpa using this, own_set ho1 (Nat.lt_succ_self g) _, by rw [List.length_append, HLY.out, HN2.out]⟩
  have HREP := Lib.hid hrep
  clear hrep ho1 hgr ho hv c0 hs
  rcases he with ⟨rfl, rfl⟩ | ⟨rfl, rfl⟩
  · have y : ((0 : Int) == 0) = true := by decide
    go_wp2
    go_ret
    exact ⟨rfl, HREP.out, t1.setCell (.inl (by simp)) _⟩
  · have y : ((2 : Int) == 0) = false := by decide
    go_wp2
    go_ret
    exact ⟨rfl, HREP.out, t1.setCell (.inl (by simp)) _⟩
set_option maxRecDepth 100000 in
set_option maxHeartbeats 1000000 in
theorem wr_number (g : Nat) (ys : List UInt8) (n : Int) (w : World) (h : wrRep g w ys) (hy : ys.length ≤ 700000) :
    Calls Tryd.prog 78 #[.pointer (some ⟨g, 0, none⟩), .int .i64 n] w fun e w' => e = .returned (.tuple #[.int .i64 n, .bool (decide (0 ≤ n ∧ n ≤ 1099511627776))]) ∧ wrRep g w' (if 0 ≤ n ∧ n ≤ 1099511627776 then ys ++ VP.enc n.toNat else ys) ∧ Tn [g] w w' := by
  by_cases hn : 0 ≤ n ∧ n ≤ 1099511627776
  · rw [if_pos hn]
    have hd : decide (0 ≤ n ∧ n ≤ 1099511627776) = true := by simpa using hn
    rw [hd]
    obtain ⟨m, rfl⟩ := nat_of hn.1
    rw [Int.toNat_natCast]
    obtain ⟨lx, hlx⟩ : ∃ lx, lx = (VP.enc m).length := ⟨_, rfl⟩
    have h6 := VP.enc_six (n := m) (by omega)
    have hl6 : lx ≤ 6 := by omega
    have H := Lib.hid (fnum_yes m lx w hlx (by omega))
    have HLX := Lib.hid hlx
    clear hd hlx h6 hn
    go_enter Tryd.func78, Tryd.ntmps78
    go_wp2_with fail
    refine H.out.mono ?_
    rintro e w1 ⟨v, rfl, ho, hb⟩
    obtain ⟨A, c, rfl, hs, -⟩ := own_form ho
    go_wp2_with fail
    refine (wadd_any g ys (VP.enc m) A lx c 0 true w1 (h.kq (Kq.of_below hb)) hs HLX.out (by omega) (by omega) (.inl ⟨rfl, rfl⟩)).mono ?_
    rintro e w2 ⟨rfl, h2, t2⟩
    have t0 := (Tn.of_below (S := [g]) hb).trans t2
    clear ho hs
    go_wp2
    go_ret2
    exact ⟨rfl, h2, t0⟩
  · rw [if_neg hn]
    have hd : decide (0 ≤ n ∧ n ≤ 1099511627776) = false := by simpa using hn
    rw [hd]
    have H := Lib.hid (fnum_no n w (by omega))
    clear hd hn
    go_enter Tryd.func78, Tryd.ntmps78
    go_wp2_with fail
    refine H.out.mono ?_
    rintro e w1 ⟨rfl, rfl⟩
    go_wp2_with fail
    refine (wadd_any g ys [] none 0 0 2 false _ h (Seen.nil _ _ _) rfl (by omega) (by omega) (.inr ⟨rfl, rfl⟩)).mono ?_
    rintro e w2 ⟨rfl, h2, t2⟩
    rw [List.append_nil] at h2
    go_wp2
    go_ret2
    exact ⟨rfl, h2, t2⟩
set_option maxRecDepth 100000 in
set_option maxHeartbeats 1000000 in
theorem wr_text (g : Nat) (ys : List UInt8) (t : ByteArray) (w : World) (h : wrRep g w ys) (hy : ys.length ≤ 700000) (ht : t.size ≤ 9223372036854775807) :
    Calls Tryd.prog 79 #[.pointer (some ⟨g, 0, none⟩), .string t] w fun e w' => e = .returned (.tuple #[.string t, .bool (decide (t.size ≤ 1024))]) ∧ wrRep g w' (if t.size ≤ 1024 then ys ++ (VP.enc t.size ++ bytesOf t) else ys) ∧ Tn [g] w w' := by
  by_cases hn : t.size ≤ 1024
  · rw [if_pos hn]
    have hd : decide (t.size ≤ 1024) = true := by simpa using hn
    rw [hd]
    obtain ⟨xs, hxs⟩ : ∃ xs, xs = VP.enc t.size ++ bytesOf t := ⟨_, rfl⟩
    obtain ⟨lx, hlx⟩ : ∃ lx, lx = xs.length := ⟨_, rfl⟩
    have h6 := VP.enc_six (n := t.size) (by omega)
    have hl6 : lx ≤ 1030 := by rw [hlx, hxs, List.length_append, bytesOf_length]; omega
    have H := Lib.hid (ftext_yes t xs lx w hn hxs hlx)
    rw [← hxs]
    have HLX := Lib.hid hlx
    clear hd hlx h6 hxs
    go_enter Tryd.func79, Tryd.ntmps79
    go_wp2_with fail
    refine H.out.mono ?_
    rintro e w1 ⟨v, rfl, ho, hb⟩
    obtain ⟨A, c, rfl, hs, -⟩ := own_form ho
    go_wp2_with fail
    refine (wadd_any g ys xs A lx c 0 true w1 (h.kq (Kq.of_below hb)) hs HLX.out (by omega) (by omega) (.inl ⟨rfl, rfl⟩)).mono ?_
    rintro e w2 ⟨rfl, h2, t2⟩
    have t0 := (Tn.of_below (S := [g]) hb).trans t2
    clear ho hs
    go_wp2
    go_ret2
    exact ⟨rfl, h2, t0⟩
  · rw [if_neg hn]
    have hd : decide (t.size ≤ 1024) = false := by simpa using hn
    rw [hd]
    have H := Lib.hid (ftext_no t w (by omega))
    clear hd hn
    go_enter Tryd.func79, Tryd.ntmps79
    go_wp2_with fail
    refine H.out.mono ?_
    rintro e w1 ⟨rfl, rfl⟩
    go_wp2_with fail
    refine (wadd_any g ys [] none 0 0 2 false _ h (Seen.nil _ _ _) rfl (by omega) (by omega) (.inr ⟨rfl, rfl⟩)).mono ?_
    rintro e w2 ⟨rfl, h2, t2⟩
    rw [List.append_nil] at h2
    go_wp2
    go_ret2
    exact ⟨rfl, h2, t2⟩
/-- The pass that writes. -/
def wrIn (g : Nat) : PIn pwr where
  g := g
  T := 49
  v := .pointer (some ⟨g, 0, none⟩)
  nf := 78
  tf := 79
  rep := wrRep g
  lt h := by obtain ⟨_, _, hv, _⟩ := h; exact hv.lt
  kq h k := h.kq k
  mnum w := by kernel_rfl
  mtxt w := by kernel_rfl
  enum args := enters _ Tryd.func78 (by kernel_rfl) rfl args
  etxt args := enters _ Tryd.func79 (by kernel_rfl) rfl args
  num ys n w h hs _ _ := wr_number g ys n w h hs
  txt ys t w h hs ht := wr_text g ys t w h hs ht
  num64 _ _ h1 h2 := ⟨h1, h2⟩
  txt64 _ _ h := h
end Go.Proofs.YtplpagnnlggfgaaDoor
