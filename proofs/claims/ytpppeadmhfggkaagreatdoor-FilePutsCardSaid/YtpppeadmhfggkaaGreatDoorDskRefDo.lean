/-
  The contract of the reference's Do: whole. Conditions: those that each theorem names.
-/
import Derived.Test.YtpppeadmhfggkaaGreatDoorDskRefDo3
import Derived.Test.YtpppeadmhfggkaaGreatDoorDskRefDo31
import Derived.Test.YtpppeadmhfggkaaGreatDoorDskRefDoN
import Derived.Test.YtpppeadmhfggkaaGreatDoorDskRefDoP
namespace Go.Proofs.YtpppeadmhfggkaaGreatDoor
open Go.RowKit DP

theorem rdo_ends_0t (A : Option Addr) (n c B : Nat) (fs : List Fl) (cap left : Int) (file b : ByteArray)  (w : World) (hn : fs.length = n) (hs : Seen w B A (fcells fs)) (hB : B ≤ w.heap.size) (hsm : Small fs) (hnc : n ≤ c) (hf : file.size ≤ 9223372036854775807) (fs' : List Fl) (cap' left' r : Int) (down' : Bool) (hc : check ⟨fs, cap, left, false⟩ = true) (hop : isOp ⟨0, file, b, 0⟩ = true) (hl : left ≠ 0) (hlb : left ≤ 9223372036854775807) (fn fb : ByteArray) (s : Int) (hg : GetRes fs file fn fb s true) (hfb : fb.size ≤ 65536) (hb0 : 0 < b.size) (hbb : b.size ≤ 300000)
    (hr : (if 64 < (put fs ⟨file, (fb ++ b), s⟩).length then (noDisk, 3) else if cap < (used (put fs ⟨file, (fb ++ b), s⟩) : Int) then (noDisk, 31) else ((⟨(put fs ⟨file, (fb ++ b), s⟩), cap, if 0 < left then left - 1 else left, false⟩ : Dk), (0 : Int))) = (⟨fs', cap', left', down'⟩, r)) :
    Calls Tryz.prog 24 #[.agg #[.slice A n c, .int .i64 cap, .int .i64 left, .bool false], .agg #[.int .i8 0, .string file, .string b, .int .i64 0]] w (DiskRes fs' cap' left' down' r w) := by
  by_cases h64 : 64 < (put fs ⟨file, (fb ++ b), s⟩).length
  · rw [if_pos h64] at hr
    simp only [noDisk, Prod.mk.injEq, Dk.mk.injEq] at hr
    obtain ⟨⟨rfl, rfl, rfl, rfl⟩, rfl⟩ := hr
    exact rdo_3_0t A n c B fs cap left false file b w hn hs hB hsm hnc hf hc hop rfl hl fn fb s hg hfb hb0 hbb h64
  rw [if_neg h64] at hr
  by_cases hu : cap < (used (put fs ⟨file, (fb ++ b), s⟩) : Int)
  · rw [if_pos hu] at hr
    simp only [noDisk, Prod.mk.injEq, Dk.mk.injEq] at hr
    obtain ⟨⟨rfl, rfl, rfl, rfl⟩, rfl⟩ := hr
    exact rdo_31_0t A n c B fs cap left false file b w hn hs hB hsm hnc hf hc hop rfl hl fn fb s hg hfb hb0 hbb (by omega) hu
  rw [if_neg hu] at hr
  by_cases h0 : 0 < left
  · rw [if_pos h0] at hr
    simp only [Prod.mk.injEq, Dk.mk.injEq] at hr
    obtain ⟨⟨rfl, rfl, rfl, rfl⟩, rfl⟩ := hr
    exact rdo_P_0t A n c B fs cap left false file b w hn hs hB hsm hnc hf hc hop rfl hl fn fb s hg hfb hb0 hbb (by omega) (by omega) h0 hlb
  · rw [if_neg h0] at hr
    simp only [Prod.mk.injEq, Dk.mk.injEq] at hr
    obtain ⟨⟨rfl, rfl, rfl, rfl⟩, rfl⟩ := hr
    exact rdo_N_0t A n c B fs cap left false file b w hn hs hB hsm hnc hf hc hop rfl hl fn fb s hg hfb hb0 hbb (by omega) (by omega) (by omega)
theorem rdo_ends_0f (A : Option Addr) (n c B : Nat) (fs : List Fl) (cap left : Int) (file b : ByteArray)  (w : World) (hn : fs.length = n) (hs : Seen w B A (fcells fs)) (hB : B ≤ w.heap.size) (hsm : Small fs) (hnc : n ≤ c) (hf : file.size ≤ 9223372036854775807) (fs' : List Fl) (cap' left' r : Int) (down' : Bool) (hc : check ⟨fs, cap, left, false⟩ = true) (hop : isOp ⟨0, file, b, 0⟩ = true) (hl : left ≠ 0) (hlb : left ≤ 9223372036854775807) (fn fb : ByteArray) (s : Int) (hg : GetRes fs file fn fb s false) (hfb : fb.size ≤ 65536) (hb0 : 0 < b.size) (hbb : b.size ≤ 300000)
    (hr : (if 64 < (put fs ⟨file, (fb ++ b), s⟩).length then (noDisk, 3) else if cap < (used (put fs ⟨file, (fb ++ b), s⟩) : Int) then (noDisk, 31) else ((⟨(put fs ⟨file, (fb ++ b), s⟩), cap, if 0 < left then left - 1 else left, false⟩ : Dk), (0 : Int))) = (⟨fs', cap', left', down'⟩, r)) :
    Calls Tryz.prog 24 #[.agg #[.slice A n c, .int .i64 cap, .int .i64 left, .bool false], .agg #[.int .i8 0, .string file, .string b, .int .i64 0]] w (DiskRes fs' cap' left' down' r w) := by
  by_cases h64 : 64 < (put fs ⟨file, (fb ++ b), s⟩).length
  · rw [if_pos h64] at hr
    simp only [noDisk, Prod.mk.injEq, Dk.mk.injEq] at hr
    obtain ⟨⟨rfl, rfl, rfl, rfl⟩, rfl⟩ := hr
    exact rdo_3_0f A n c B fs cap left false file b w hn hs hB hsm hnc hf hc hop rfl hl fn fb s hg hfb hb0 hbb h64
  rw [if_neg h64] at hr
  by_cases hu : cap < (used (put fs ⟨file, (fb ++ b), s⟩) : Int)
  · rw [if_pos hu] at hr
    simp only [noDisk, Prod.mk.injEq, Dk.mk.injEq] at hr
    obtain ⟨⟨rfl, rfl, rfl, rfl⟩, rfl⟩ := hr
    exact rdo_31_0f A n c B fs cap left false file b w hn hs hB hsm hnc hf hc hop rfl hl fn fb s hg hfb hb0 hbb (by omega) hu
  rw [if_neg hu] at hr
  by_cases h0 : 0 < left
  · rw [if_pos h0] at hr
    simp only [Prod.mk.injEq, Dk.mk.injEq] at hr
    obtain ⟨⟨rfl, rfl, rfl, rfl⟩, rfl⟩ := hr
    exact rdo_P_0f A n c B fs cap left false file b w hn hs hB hsm hnc hf hc hop rfl hl fn fb s hg hfb hb0 hbb (by omega) (by omega) h0 hlb
  · rw [if_neg h0] at hr
    simp only [Prod.mk.injEq, Dk.mk.injEq] at hr
    obtain ⟨⟨rfl, rfl, rfl, rfl⟩, rfl⟩ := hr
    exact rdo_N_0f A n c B fs cap left false file b w hn hs hB hsm hnc hf hc hop rfl hl fn fb s hg hfb hb0 hbb (by omega) (by omega) (by omega)
theorem rdo_ends_1 (A : Option Addr) (n c B : Nat) (fs : List Fl) (cap left : Int) (file : ByteArray)  (w : World) (hn : fs.length = n) (hs : Seen w B A (fcells fs)) (hB : B ≤ w.heap.size) (hsm : Small fs) (hnc : n ≤ c) (hf : file.size ≤ 9223372036854775807) (fs' : List Fl) (cap' left' r : Int) (down' : Bool) (hc : check ⟨fs, cap, left, false⟩ = true) (hop : isOp ⟨1, file, { data := #[] }, 0⟩ = true) (hl : left ≠ 0) (hlb : left ≤ 9223372036854775807) (fn fb : ByteArray) (s : Int) (hg : GetRes fs file fn fb s true) (hfb : fb.size ≤ 65536)
    (hr : (if 64 < (put fs ⟨file, fb, (fb.size : Int)⟩).length then (noDisk, 3) else if cap < (used (put fs ⟨file, fb, (fb.size : Int)⟩) : Int) then (noDisk, 31) else ((⟨(put fs ⟨file, fb, (fb.size : Int)⟩), cap, if 0 < left then left - 1 else left, false⟩ : Dk), (0 : Int))) = (⟨fs', cap', left', down'⟩, r)) :
    Calls Tryz.prog 24 #[.agg #[.slice A n c, .int .i64 cap, .int .i64 left, .bool false], .agg #[.int .i8 1, .string file, .string { data := #[] }, .int .i64 0]] w (DiskRes fs' cap' left' down' r w) := by
  by_cases h64 : 64 < (put fs ⟨file, fb, (fb.size : Int)⟩).length
  · rw [if_pos h64] at hr
    simp only [noDisk, Prod.mk.injEq, Dk.mk.injEq] at hr
    obtain ⟨⟨rfl, rfl, rfl, rfl⟩, rfl⟩ := hr
    exact rdo_3_1 A n c B fs cap left false file w hn hs hB hsm hnc hf hc hop rfl hl fn fb s hg hfb h64
  rw [if_neg h64] at hr
  by_cases hu : cap < (used (put fs ⟨file, fb, (fb.size : Int)⟩) : Int)
  · rw [if_pos hu] at hr
    simp only [noDisk, Prod.mk.injEq, Dk.mk.injEq] at hr
    obtain ⟨⟨rfl, rfl, rfl, rfl⟩, rfl⟩ := hr
    exact rdo_31_1 A n c B fs cap left false file w hn hs hB hsm hnc hf hc hop rfl hl fn fb s hg hfb (by omega) hu
  rw [if_neg hu] at hr
  by_cases h0 : 0 < left
  · rw [if_pos h0] at hr
    simp only [Prod.mk.injEq, Dk.mk.injEq] at hr
    obtain ⟨⟨rfl, rfl, rfl, rfl⟩, rfl⟩ := hr
    exact rdo_P_1 A n c B fs cap left false file w hn hs hB hsm hnc hf hc hop rfl hl fn fb s hg hfb (by omega) (by omega) h0 hlb
  · rw [if_neg h0] at hr
    simp only [Prod.mk.injEq, Dk.mk.injEq] at hr
    obtain ⟨⟨rfl, rfl, rfl, rfl⟩, rfl⟩ := hr
    exact rdo_N_1 A n c B fs cap left false file w hn hs hB hsm hnc hf hc hop rfl hl fn fb s hg hfb (by omega) (by omega) (by omega)
theorem rdo_ends_2t (A : Option Addr) (n c B : Nat) (fs : List Fl) (cap left : Int) (file b : ByteArray)  (w : World) (hn : fs.length = n) (hs : Seen w B A (fcells fs)) (hB : B ≤ w.heap.size) (hsm : Small fs) (hnc : n ≤ c) (hf : file.size ≤ 9223372036854775807) (fs' : List Fl) (cap' left' r : Int) (down' : Bool) (hc : check ⟨fs, cap, left, false⟩ = true) (hop : isOp ⟨2, file, b, 0⟩ = true) (hl : left ≠ 0) (hlb : left ≤ 9223372036854775807) (fn fb : ByteArray) (s : Int) (hg : GetRes fs file fn fb s true) (hfb : fb.size ≤ 65536) (hb0 : 0 < b.size) (hbb : b.size ≤ 300000)
    (hr : (if 64 < (put fs ⟨file, b, (b.size : Int)⟩).length then (noDisk, 3) else if cap < (used (put fs ⟨file, b, (b.size : Int)⟩) : Int) then (noDisk, 31) else ((⟨(put fs ⟨file, b, (b.size : Int)⟩), cap, if 0 < left then left - 1 else left, false⟩ : Dk), (0 : Int))) = (⟨fs', cap', left', down'⟩, r)) :
    Calls Tryz.prog 24 #[.agg #[.slice A n c, .int .i64 cap, .int .i64 left, .bool false], .agg #[.int .i8 2, .string file, .string b, .int .i64 0]] w (DiskRes fs' cap' left' down' r w) := by
  by_cases h64 : 64 < (put fs ⟨file, b, (b.size : Int)⟩).length
  · rw [if_pos h64] at hr
    simp only [noDisk, Prod.mk.injEq, Dk.mk.injEq] at hr
    obtain ⟨⟨rfl, rfl, rfl, rfl⟩, rfl⟩ := hr
    exact rdo_3_2t A n c B fs cap left false file b w hn hs hB hsm hnc hf hc hop rfl hl fn fb s hg hfb hb0 hbb h64
  rw [if_neg h64] at hr
  by_cases hu : cap < (used (put fs ⟨file, b, (b.size : Int)⟩) : Int)
  · rw [if_pos hu] at hr
    simp only [noDisk, Prod.mk.injEq, Dk.mk.injEq] at hr
    obtain ⟨⟨rfl, rfl, rfl, rfl⟩, rfl⟩ := hr
    exact rdo_31_2t A n c B fs cap left false file b w hn hs hB hsm hnc hf hc hop rfl hl fn fb s hg hfb hb0 hbb (by omega) hu
  rw [if_neg hu] at hr
  by_cases h0 : 0 < left
  · rw [if_pos h0] at hr
    simp only [Prod.mk.injEq, Dk.mk.injEq] at hr
    obtain ⟨⟨rfl, rfl, rfl, rfl⟩, rfl⟩ := hr
    exact rdo_P_2t A n c B fs cap left false file b w hn hs hB hsm hnc hf hc hop rfl hl fn fb s hg hfb hb0 hbb (by omega) (by omega) h0 hlb
  · rw [if_neg h0] at hr
    simp only [Prod.mk.injEq, Dk.mk.injEq] at hr
    obtain ⟨⟨rfl, rfl, rfl, rfl⟩, rfl⟩ := hr
    exact rdo_N_2t A n c B fs cap left false file b w hn hs hB hsm hnc hf hc hop rfl hl fn fb s hg hfb hb0 hbb (by omega) (by omega) (by omega)
theorem rdo_ends_2f (A : Option Addr) (n c B : Nat) (fs : List Fl) (cap left : Int) (file b : ByteArray)  (w : World) (hn : fs.length = n) (hs : Seen w B A (fcells fs)) (hB : B ≤ w.heap.size) (hsm : Small fs) (hnc : n ≤ c) (hf : file.size ≤ 9223372036854775807) (fs' : List Fl) (cap' left' r : Int) (down' : Bool) (hc : check ⟨fs, cap, left, false⟩ = true) (hop : isOp ⟨2, file, b, 0⟩ = true) (hl : left ≠ 0) (hlb : left ≤ 9223372036854775807) (fn fb : ByteArray) (s : Int) (hg : GetRes fs file fn fb s false) (hfb : fb.size ≤ 65536) (hb0 : 0 < b.size) (hbb : b.size ≤ 300000)
    (hr : (if 64 < (put fs ⟨file, b, (b.size : Int)⟩).length then (noDisk, 3) else if cap < (used (put fs ⟨file, b, (b.size : Int)⟩) : Int) then (noDisk, 31) else ((⟨(put fs ⟨file, b, (b.size : Int)⟩), cap, if 0 < left then left - 1 else left, false⟩ : Dk), (0 : Int))) = (⟨fs', cap', left', down'⟩, r)) :
    Calls Tryz.prog 24 #[.agg #[.slice A n c, .int .i64 cap, .int .i64 left, .bool false], .agg #[.int .i8 2, .string file, .string b, .int .i64 0]] w (DiskRes fs' cap' left' down' r w) := by
  by_cases h64 : 64 < (put fs ⟨file, b, (b.size : Int)⟩).length
  · rw [if_pos h64] at hr
    simp only [noDisk, Prod.mk.injEq, Dk.mk.injEq] at hr
    obtain ⟨⟨rfl, rfl, rfl, rfl⟩, rfl⟩ := hr
    exact rdo_3_2f A n c B fs cap left false file b w hn hs hB hsm hnc hf hc hop rfl hl fn fb s hg hfb hb0 hbb h64
  rw [if_neg h64] at hr
  by_cases hu : cap < (used (put fs ⟨file, b, (b.size : Int)⟩) : Int)
  · rw [if_pos hu] at hr
    simp only [noDisk, Prod.mk.injEq, Dk.mk.injEq] at hr
    obtain ⟨⟨rfl, rfl, rfl, rfl⟩, rfl⟩ := hr
    exact rdo_31_2f A n c B fs cap left false file b w hn hs hB hsm hnc hf hc hop rfl hl fn fb s hg hfb hb0 hbb (by omega) hu
  rw [if_neg hu] at hr
  by_cases h0 : 0 < left
  · rw [if_pos h0] at hr
    simp only [Prod.mk.injEq, Dk.mk.injEq] at hr
    obtain ⟨⟨rfl, rfl, rfl, rfl⟩, rfl⟩ := hr
    exact rdo_P_2f A n c B fs cap left false file b w hn hs hB hsm hnc hf hc hop rfl hl fn fb s hg hfb hb0 hbb (by omega) (by omega) h0 hlb
  · rw [if_neg h0] at hr
    simp only [Prod.mk.injEq, Dk.mk.injEq] at hr
    obtain ⟨⟨rfl, rfl, rfl, rfl⟩, rfl⟩ := hr
    exact rdo_N_2f A n c B fs cap left false file b w hn hs hB hsm hnc hf hc hop rfl hl fn fb s hg hfb hb0 hbb (by omega) (by omega) (by omega)
theorem rdo_ends_3 (A : Option Addr) (n c B : Nat) (fs : List Fl) (cap left : Int) (file : ByteArray) (j : Nat) (w : World) (hn : fs.length = n) (hs : Seen w B A (fcells fs)) (hB : B ≤ w.heap.size) (hsm : Small fs) (hnc : n ≤ c) (hf : file.size ≤ 9223372036854775807) (fs' : List Fl) (cap' left' r : Int) (down' : Bool) (hc : check ⟨fs, cap, left, false⟩ = true) (hop : isOp ⟨3, file, { data := #[] }, (j : Int)⟩ = true) (hl : left ≠ 0) (hlb : left ≤ 9223372036854775807) (fn fb : ByteArray) (s : Int) (hg : GetRes fs file fn fb s true) (hfb : fb.size ≤ 65536) (hj : j ≤ fb.size)
    (hr : (if 64 < (put fs ⟨file, (fb.extract 0 j), (j : Int)⟩).length then (noDisk, 3) else if cap < (used (put fs ⟨file, (fb.extract 0 j), (j : Int)⟩) : Int) then (noDisk, 31) else ((⟨(put fs ⟨file, (fb.extract 0 j), (j : Int)⟩), cap, if 0 < left then left - 1 else left, false⟩ : Dk), (0 : Int))) = (⟨fs', cap', left', down'⟩, r)) :
    Calls Tryz.prog 24 #[.agg #[.slice A n c, .int .i64 cap, .int .i64 left, .bool false], .agg #[.int .i8 3, .string file, .string { data := #[] }, .int .i64 (j : Int)]] w (DiskRes fs' cap' left' down' r w) := by
  by_cases h64 : 64 < (put fs ⟨file, (fb.extract 0 j), (j : Int)⟩).length
  · rw [if_pos h64] at hr
    simp only [noDisk, Prod.mk.injEq, Dk.mk.injEq] at hr
    obtain ⟨⟨rfl, rfl, rfl, rfl⟩, rfl⟩ := hr
    exact rdo_3_3 A n c B fs cap left false file j w hn hs hB hsm hnc hf hc hop rfl hl fn fb s hg hfb hj h64
  rw [if_neg h64] at hr
  by_cases hu : cap < (used (put fs ⟨file, (fb.extract 0 j), (j : Int)⟩) : Int)
  · rw [if_pos hu] at hr
    simp only [noDisk, Prod.mk.injEq, Dk.mk.injEq] at hr
    obtain ⟨⟨rfl, rfl, rfl, rfl⟩, rfl⟩ := hr
    exact rdo_31_3 A n c B fs cap left false file j w hn hs hB hsm hnc hf hc hop rfl hl fn fb s hg hfb hj (by omega) hu
  rw [if_neg hu] at hr
  by_cases h0 : 0 < left
  · rw [if_pos h0] at hr
    simp only [Prod.mk.injEq, Dk.mk.injEq] at hr
    obtain ⟨⟨rfl, rfl, rfl, rfl⟩, rfl⟩ := hr
    exact rdo_P_3 A n c B fs cap left false file j w hn hs hB hsm hnc hf hc hop rfl hl fn fb s hg hfb hj (by omega) (by omega) h0 hlb
  · rw [if_neg h0] at hr
    simp only [Prod.mk.injEq, Dk.mk.injEq] at hr
    obtain ⟨⟨rfl, rfl, rfl, rfl⟩, rfl⟩ := hr
    exact rdo_N_3 A n c B fs cap left false file j w hn hs hB hsm hnc hf hc hop rfl hl fn fb s hg hfb hj (by omega) (by omega) (by omega)
theorem rdo_ends_4 (A : Option Addr) (n c B : Nat) (fs : List Fl) (cap left : Int) (file : ByteArray)  (w : World) (hn : fs.length = n) (hs : Seen w B A (fcells fs)) (hB : B ≤ w.heap.size) (hsm : Small fs) (hnc : n ≤ c) (hf : file.size ≤ 9223372036854775807) (fs' : List Fl) (cap' left' r : Int) (down' : Bool) (hc : check ⟨fs, cap, left, false⟩ = true) (hop : isOp ⟨4, file, { data := #[] }, 0⟩ = true) (hl : left ≠ 0) (hlb : left ≤ 9223372036854775807) (fn fb : ByteArray) (s : Int) (hg : GetRes fs file fn fb s true) (hfb : fb.size ≤ 65536)
    (hr : (if 64 < (put fs ⟨file, { data := #[] }, 0⟩).length then (noDisk, 3) else if cap < (used (put fs ⟨file, { data := #[] }, 0⟩) : Int) then (noDisk, 31) else ((⟨(put fs ⟨file, { data := #[] }, 0⟩), cap, if 0 < left then left - 1 else left, false⟩ : Dk), (0 : Int))) = (⟨fs', cap', left', down'⟩, r)) :
    Calls Tryz.prog 24 #[.agg #[.slice A n c, .int .i64 cap, .int .i64 left, .bool false], .agg #[.int .i8 4, .string file, .string { data := #[] }, .int .i64 0]] w (DiskRes fs' cap' left' down' r w) := by
  by_cases h64 : 64 < (put fs ⟨file, { data := #[] }, 0⟩).length
  · rw [if_pos h64] at hr
    simp only [noDisk, Prod.mk.injEq, Dk.mk.injEq] at hr
    obtain ⟨⟨rfl, rfl, rfl, rfl⟩, rfl⟩ := hr
    exact rdo_3_4 A n c B fs cap left false file w hn hs hB hsm hnc hf hc hop rfl hl fn fb s hg hfb h64
  rw [if_neg h64] at hr
  by_cases hu : cap < (used (put fs ⟨file, { data := #[] }, 0⟩) : Int)
  · rw [if_pos hu] at hr
    simp only [noDisk, Prod.mk.injEq, Dk.mk.injEq] at hr
    obtain ⟨⟨rfl, rfl, rfl, rfl⟩, rfl⟩ := hr
    exact rdo_31_4 A n c B fs cap left false file w hn hs hB hsm hnc hf hc hop rfl hl fn fb s hg hfb (by omega) hu
  rw [if_neg hu] at hr
  by_cases h0 : 0 < left
  · rw [if_pos h0] at hr
    simp only [Prod.mk.injEq, Dk.mk.injEq] at hr
    obtain ⟨⟨rfl, rfl, rfl, rfl⟩, rfl⟩ := hr
    exact rdo_P_4 A n c B fs cap left false file w hn hs hB hsm hnc hf hc hop rfl hl fn fb s hg hfb (by omega) (by omega) h0 hlb
  · rw [if_neg h0] at hr
    simp only [Prod.mk.injEq, Dk.mk.injEq] at hr
    obtain ⟨⟨rfl, rfl, rfl, rfl⟩, rfl⟩ := hr
    exact rdo_N_4 A n c B fs cap left false file w hn hs hB hsm hnc hf hc hop rfl hl fn fb s hg hfb (by omega) (by omega) (by omega)

/-- The reference's Do is what the plain words say. -/
theorem ref_do_any (A : Option Addr) (n c B : Nat) (fs fs' : List Fl) (cap left cap' left' : Int) (down down' : Bool) (op : Int) (file b : ByteArray) (k r : Int) (w : World) (hn : fs.length = n) (hs : Seen w B A (fcells fs)) (hB : B ≤ w.heap.size) (hsm : Small fs) (hnc : n ≤ c)
    (hf : file.size ≤ 9223372036854775807) (hbb : b.size ≤ 300000) (hlb : left ≤ 9223372036854775807)
    (hr : does ⟨fs, cap, left, down⟩ ⟨op, file, b, k⟩ = (⟨fs', cap', left', down'⟩, r)) :
    Calls Tryz.prog 24 #[.agg #[.slice A n c, .int .i64 cap, .int .i64 left, .bool down], .agg #[.int .i8 op, .string file, .string b, .int .i64 k]] w (DiskRes fs' cap' left' down' r w) := by
  unfold does at hr
  cases hc : check ⟨fs, cap, left, down⟩
  · rw [if_pos (.inl hc)] at hr
    simp only [noDisk, Prod.mk.injEq, Dk.mk.injEq] at hr
    obtain ⟨⟨rfl, rfl, rfl, rfl⟩, rfl⟩ := hr
    exact rdo_bad A n c B fs cap left down op file b k w hn hs hB hsm hnc hf hc
  cases hop : isOp ⟨op, file, b, k⟩
  · rw [if_pos (.inr hop)] at hr
    simp only [noDisk, Prod.mk.injEq, Dk.mk.injEq] at hr
    obtain ⟨⟨rfl, rfl, rfl, rfl⟩, rfl⟩ := hr
    exact rdo_noop A n c B fs cap left down op file b k w hn hs hB hsm hnc hf hc hop
  rw [if_neg (by rw [hc, hop]; simp)] at hr
  cases down with
  | true =>
    rw [if_pos rfl] at hr
    simp only [noDisk, Prod.mk.injEq, Dk.mk.injEq] at hr
    obtain ⟨⟨rfl, rfl, rfl, rfl⟩, rfl⟩ := hr
    exact rdo_down A n c B fs cap left true op file b k w hn hs hB hsm hnc hf hc hop rfl
  | false =>
    rw [if_neg (by simp)] at hr
    by_cases hl : left = 0
    · rw [if_pos hl] at hr
      subst hl
      simp only [Prod.mk.injEq, Dk.mk.injEq] at hr
      obtain ⟨⟨rfl, rfl, rfl, rfl⟩, rfl⟩ := hr
      exact rdo_fall A n c B fs cap 0 false op file b k w hn hs hB hsm hnc hf hc hop rfl rfl
    · rw [if_neg hl] at hr
      unfold done at hr
      obtain ⟨fn, fb, s, th, hg⟩ := getRes_of fs file
      have hgd := hg.getD
      simp only [hgd] at hr
      obtain ⟨hnm, hk0, hways⟩ := isOp_ways hop
      have hfb : fb.size ≤ 65536 := by
        rcases hg with ⟨_, h⟩ | ⟨_, _, _, h, _⟩
        · have hm := List.mem_of_find?_eq_some h
          have h1 := used_le hm
          obtain ⟨_, _, h3, h4, _⟩ := check_parts hc
          simp only at h1 h3 h4
          omega
        · rw [h]; decide
      have hz : (({ data := #[] } : ByteArray).size : Int) = 0 := rfl
      have hzn : ({ data := #[] } : ByteArray).size = 0 := rfl
      rcases hways with ⟨rfl, hb0, rfl⟩ | ⟨rfl, hb0, rfl⟩ | ⟨rfl, hb0, rfl⟩ | ⟨rfl, hb0⟩ | ⟨rfl, hb0, rfl⟩
      · have hch : changed ⟨file, fb, s⟩ ⟨0, file, b, 0⟩ = ⟨file, fb ++ b, s⟩ := rfl
        rw [hch] at hr
        rcases hg with ⟨rfl, hget⟩ | ⟨rfl, hget, rfl, rfl, rfl⟩
        · rw [if_neg (fun h => by omega), if_neg (by omega)] at hr
          exact rdo_ends_0t A n c B fs cap left file b w hn hs hB hsm hnc hf fs' cap' left' r down' hc hop hl hlb fn fb s (.inl ⟨rfl, hget⟩) hfb hb0 hbb hr
        · rw [if_neg (fun h => by omega), if_neg (by rw [hz]; omega)] at hr
          exact rdo_ends_0f A n c B fs cap left file b w hn hs hB hsm hnc hf fs' cap' left' r down' hc hop hl hlb _ _ _ (.inr ⟨rfl, hget, rfl, rfl, rfl⟩) hfb hb0 hbb hr
      · obtain rfl := none_of hb0
        have hch : changed ⟨file, fb, s⟩ ⟨1, file, { data := #[] }, 0⟩ = ⟨file, fb, (fb.size : Int)⟩ := rfl
        rw [hch] at hr
        rcases hg with ⟨rfl, hget⟩ | ⟨rfl, hget, rfl, rfl, rfl⟩
        · rw [if_neg (fun h => by rw [hget] at h; exact absurd h.1 (by simp))] at hr
          rw [if_neg (by omega)] at hr
          exact rdo_ends_1 A n c B fs cap left file w hn hs hB hsm hnc hf fs' cap' left' r down' hc hop hl hlb fn fb s (.inl ⟨rfl, hget⟩) hfb hr
        · rw [if_pos ⟨hget, hzn⟩] at hr
          simp only [noDisk, Prod.mk.injEq, Dk.mk.injEq] at hr
          obtain ⟨⟨rfl, rfl, rfl, rfl⟩, rfl⟩ := hr
          exact rdo_nofile1 A n c B fs cap left false file w hn hs hB hsm hnc hf hc hop rfl hl (.inr ⟨rfl, hget, rfl, rfl, rfl⟩)
      · have hch : changed ⟨file, fb, s⟩ ⟨2, file, b, 0⟩ = ⟨file, b, (b.size : Int)⟩ := rfl
        rw [hch] at hr
        rcases hg with ⟨rfl, hget⟩ | ⟨rfl, hget, rfl, rfl, rfl⟩
        · rw [if_neg (fun h => by omega), if_neg (by omega)] at hr
          exact rdo_ends_2t A n c B fs cap left file b w hn hs hB hsm hnc hf fs' cap' left' r down' hc hop hl hlb fn fb s (.inl ⟨rfl, hget⟩) hfb hb0 hbb hr
        · rw [if_neg (fun h => by omega), if_neg (by rw [hz]; omega)] at hr
          exact rdo_ends_2f A n c B fs cap left file b w hn hs hB hsm hnc hf fs' cap' left' r down' hc hop hl hlb _ _ _ (.inr ⟨rfl, hget, rfl, rfl, rfl⟩) hfb hb0 hbb hr
      · obtain rfl := none_of hb0
        obtain ⟨j, rfl⟩ : ∃ j : Nat, k = j := ⟨k.toNat, by omega⟩
        have hch : changed ⟨file, fb, s⟩ ⟨3, file, { data := #[] }, (j : Int)⟩ = ⟨file, fb.extract 0 j, (j : Int)⟩ := rfl
        rw [hch] at hr
        rcases hg with ⟨rfl, hget⟩ | ⟨rfl, hget, rfl, rfl, rfl⟩
        · rw [if_neg (fun h => by rw [hget] at h; exact absurd h.1 (by simp))] at hr
          by_cases hk : (fb.size : Int) < j
          · rw [if_pos hk] at hr
            simp only [noDisk, Prod.mk.injEq, Dk.mk.injEq] at hr
            obtain ⟨⟨rfl, rfl, rfl, rfl⟩, rfl⟩ := hr
            exact rdo_cut A n c B fs cap left false file j w hn hs hB hsm hnc hf hc hop rfl hl fn fb s (.inl ⟨rfl, hget⟩) hk
          · rw [if_neg hk] at hr
            exact rdo_ends_3 A n c B fs cap left file j w hn hs hB hsm hnc hf fs' cap' left' r down' hc hop hl hlb fn fb s (.inl ⟨rfl, hget⟩) hfb (by omega) hr
        · rw [if_pos ⟨hget, hzn⟩] at hr
          simp only [noDisk, Prod.mk.injEq, Dk.mk.injEq] at hr
          obtain ⟨⟨rfl, rfl, rfl, rfl⟩, rfl⟩ := hr
          exact rdo_nofile3 A n c B fs cap left false file j w hn hs hB hsm hnc hf hc hop rfl hl (.inr ⟨rfl, hget, rfl, rfl, rfl⟩)
      · obtain rfl := none_of hb0
        have hch : changed ⟨file, fb, s⟩ ⟨4, file, { data := #[] }, 0⟩ = ⟨file, { data := #[] }, 0⟩ := rfl
        rw [hch] at hr
        rcases hg with ⟨rfl, hget⟩ | ⟨rfl, hget, rfl, rfl, rfl⟩
        · rw [if_neg (fun h => by rw [hget] at h; exact absurd h.1 (by simp))] at hr
          rw [if_neg (by omega)] at hr
          exact rdo_ends_4 A n c B fs cap left file w hn hs hB hsm hnc hf fs' cap' left' r down' hc hop hl hlb fn fb s (.inl ⟨rfl, hget⟩) hfb hr
        · rw [if_pos ⟨hget, hzn⟩] at hr
          simp only [noDisk, Prod.mk.injEq, Dk.mk.injEq] at hr
          obtain ⟨⟨rfl, rfl, rfl, rfl⟩, rfl⟩ := hr
          exact rdo_nofile4 A n c B fs cap left false file w hn hs hB hsm hnc hf hc hop rfl hl (.inr ⟨rfl, hget, rfl, rfl, rfl⟩)
end Go.Proofs.YtpppeadmhfggkaaGreatDoor
