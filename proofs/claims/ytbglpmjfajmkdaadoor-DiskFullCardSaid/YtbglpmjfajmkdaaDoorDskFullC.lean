/-
  The law DiskFull: its walk. Condition: the one package variable of errors holds what the program's text lays (Glob).
-/
import Derived.Test.YtbglpmjfajmkdaaDoorDskFullB1
import Derived.Test.YtbglpmjfajmkdaaDoorDskFullB2
import Derived.Test.YtbglpmjfajmkdaaDoorDskFullB3
import Derived.Test.YtbglpmjfajmkdaaDoorDskFullB4
namespace Go.Proofs.YtbglpmjfajmkdaaDoor
open Go.RowKit DP

theorem getRes_small {fs : List Fl} {name fn fb : ByteArray} {s : Int} {th : Bool} (h : GetRes fs name fn fb s th) (hu : used fs ≤ 65536) : fb.size ≤ 65536 := by
  rcases h with ⟨_, h⟩ | ⟨_, _, _, rfl, _⟩
  · have hm := List.mem_of_find?_eq_some h
    have := used_le hm
    simp only at this
    omega
  · exact Nat.zero_le _
theorem okName_size {n : ByteArray} (h : okName n = true) : n.size ≤ 8 := by
  unfold okName at h
  rw [Bool.and_eq_true, decide_eq_true_eq] at h
  exact h.1.2

theorem full_walk (A : Option Addr) (n c : Nat) (fs : List Fl) (cap left : Int) (down : Bool) (name b : ByteArray) (w : World) (hn : fs.length = n) (hs : Seen w w.heap.size A (fcells fs)) (hmax : n ≤ 9223372036854775807) (hsz : ∀ f ∈ fs, f.b.size ≤ 9223372036854775807 ∧ f.n.size ≤ 9223372036854775807) (hlb : -9223372036854775808 ≤ left) (hnm : name.size ≤ 9223372036854775807) (hbm : b.size ≤ 9223372036854775807) (hG : Glob w) :
    Calls Tryd.prog 8 #[.agg #[.slice A n c, .int .i64 cap, .int .i64 left, .bool down], .string name, .string b] w fun e w' => e = .returned (.bool true) ∧ Below w.heap.size w w' := by
  cases hgr : great ⟨fs, cap, left, down⟩ with
  | true => exact full_great A n c fs cap left down name b w hn hs hmax hsz hnm hbm hG hgr
  | false =>
  cases hc : check ⟨fs, cap, left, down⟩ with
  | false => exact full_invalid A n c fs cap left down name b w hn hs hmax hsz hnm hbm hG hgr hc
  | true =>
  cases down with
  | true => exact full_down A n c fs cap left true name b w hn hs hmax hsz hnm hbm hG hgr hc rfl
  | false =>
  by_cases hl : 0 ≤ left
  · exact full_armed A n c fs cap left false name b w hn hs hmax hsz hnm hbm hG hgr hc rfl hl
  have hl' : left < 0 := by omega
  cases hok : okName name with
  | false => exact full_name A n c fs cap left false name b w hn hs hmax hsz hnm hbm hG hgr hc rfl hl' hok
  | true =>
  by_cases hb0 : b.size = 0
  · exact full_empty A n c fs cap left false name b w hn hs hmax hsz hnm hbm hG hgr hc rfl hl' hok hb0
  by_cases hb1 : 131072 < b.size
  · exact full_long A n c fs cap left false name b w hn hs hmax hsz hnm hbm hG hgr hc rfl hl' hok hb1
  have hb0' : 0 < b.size := by omega
  have hb1' : b.size ≤ 131072 := by omega
  obtain ⟨fn, fb, s, th, hg⟩ := getRes_of fs name
  obtain ⟨hlen, hc0, hc1, husd, _⟩ := check_parts hc
  simp only at hlen hc0 hc1 husd
  have hu : used fs ≤ 65536 := by omega
  have hfb := getRes_small hg hu
  obtain ⟨hfull, hfit⟩ := does_put hc hl' hok hb0' hg.getD
  by_cases h1 : cap < (used fs : Int) + b.size
  · obtain ⟨r, hr, hd⟩ := hfull (.inl h1)
    exact full_room A n c fs cap left false name b w hn hs hmax hsz hnm hbm hG hgr hc rfl hl' hlb hok hb0' hb1' fn fb s th hg [] 0 0 r hd hr h1 rfl
  have h1' : (used fs : Int) + b.size ≤ cap := by omega
  by_cases h2 : fb.size = 0 ∧ fs.length = 64
  · obtain ⟨r, hr, hd⟩ := hfull (.inr h2)
    exact full_count A n c fs cap left false name b w hn hs hmax hsz hnm hbm hG hgr hc rfl hl' hlb hok hb0' hb1' fn fb s th hg [] 0 0 r hd hr ⟨h1', h2.1, h2.2⟩ rfl
  obtain ⟨hd, hu2, hg2⟩ := hfit (fun h => h.elim h1 h2)
  have hsm' : Small (put fs ⟨name, fb ++ b, s⟩) := put_small (great_small hgr) (by omega) (by
    show (fb ++ b).size ≤ 400000
    rw [ByteArray.size_append]; omega) (by
    have := okName_size hok
    show name.size ≤ 100
    omega)
  by_cases h3 : fb.size = 0
  · exact full_makes A n c fs cap left false name b w hn hs hmax hsz hnm hbm hG hgr hc rfl hl' hlb hok hb0' hb1' fn fb s th hg _ cap left 0 hd rfl h1' hu2 hg2 hsm' hfb h3 (fun h => h2 ⟨h3, h⟩)
  · exact full_fits A n c fs cap left false name b w hn hs hmax hsz hnm hbm hG hgr hc rfl hl' hlb hok hb0' hb1' fn fb s th hg _ cap left 0 hd rfl h1' hu2 hg2 hsm' hfb (by omega)
end Go.Proofs.YtbglpmjfajmkdaaDoor
