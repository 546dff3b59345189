/- The exact laws of chapter 10 over given contracts of the program. Written by gen106.py. -/
import Derived.Test.YtgcfgegbbfbaaaaWrdR
import Derived.Test.YtgcfgegbbfbaaaaRndY
import Derived.Test.YtgcfgegbbfbaaaaToInts
namespace Go.Proofs.Ytgcfgegbbfbaaaa
open Go.RowKit Go.Shelf
set_option linter.unusedVariables false
def AnyWordEnd : Prop := ∀ (n : Int) (lv : Value) (xs : List Int) (s : ByteArray) (b : Nat) (W : World), xs.length ≤ 2000000 → s.size ≤ 1048576 → IsInts W b lv xs → Calls Try.prog 11 #[.int .i64 n, lv, .string s] W (fun e w' => e = .returned (.tuple #[.int .i64 (((endO n xs s).getD 0 : Nat) : Int), .bool (endO n xs s).isSome]) ∧ Below W.heap.size W w')
theorem lawE_WordEnd (n : Int) (s : ByteArray) (W : World) (B len cap : Nat) (A : Option Addr) (z : Nat → Int) (hC : Came W B A len z) (hB : B ≤ W.heap.size) (hlc : len ≤ cap) (hcap : cap ≤ 9223372036854775807) (hY : AnyWordEnd) :
    Calls Try.prog 3 #[.int .i64 n, .slice A len cap, .string s] W fun e w' => e = .returned (.bool true) ∧ Below W.heap.size W w' := by
  by_cases hl_len : (1048576 : Int) < (len : Int)
  · go_enter Try.func3, Try.ntmps3
    go_wp2
    go_ret
    exact ⟨rfl, Below.refl _ _⟩
  by_cases hl_s_size : (1048576 : Int) < (s.size : Int)
  · go_enter Try.func3, Try.ntmps3
    go_wp2
    go_ret
    exact ⟨rfl, Below.refl _ _⟩
  have hl : len ≤ 1048576 := by omega
  have HT := Lib.hid (fun w (h : Below W.heap.size W w) => toInts_any W w B len cap A z (hC.below (h.mono hB)) (Nat.le_trans hB h.size) hl)
  have HS := Lib.hid (fun sv W b (hI : IsInts W b sv (tabI len z)) => specWordEnd_any n sv (tabI len z) s b W (by rw [tabI_len]; omega) hI)
  have HI := Lib.hid (fun sv W b (hI : IsInts W b sv (tabI len z)) => hY n sv (tabI len z) s b W (by rw [tabI_len]; omega) (by omega) hI)
  have HB := Lib.hid (Below.refl W.heap.size W)
  have HE := Lib.hid (fun s1 s2 b1 b2 W h1 h2 => eqInts_any s1 s2 (tabI len z) b1 b2 W h1 h2)
  clear hC hY
  generalize tabI len z = xs at *
  have hV : ∃ V : Int, (((endO n xs s).getD 0 : Nat) : Int) = V := ⟨_, rfl⟩
  obtain ⟨V, hV⟩ := hV
  rw [hV] at HS HI
  clear hV
  generalize (endO n xs s).isSome = q at *
  cases q
  all_goals
    go_enter Try.func3, Try.ntmps3
    go_wp2_with fail
    refine (HT.out _ HB.out).mono ?_
    rintro e w1 ⟨s1, rfl, hb1, hI1⟩
    have HB1 := Lib.hid (HB.out.trans (hb1.mono HB.out.size))
    have HI1 := Lib.hid hI1
    clear hb1 hI1
    go_wp2_with fail
    refine (HS.out _ _ _ HI1.out).mono ?_
    rintro e w2 ⟨rfl, hb2⟩
    have HB2 := Lib.hid (HB1.out.trans (hb2.mono HB1.out.size))
    clear hb2
    go_wp2_with fail
    refine (HT.out _ HB2.out).mono ?_
    rintro e w3 ⟨s2, rfl, hb3, hI3⟩
    have HB3 := Lib.hid (HB2.out.trans (hb3.mono HB2.out.size))
    have HI3 := Lib.hid hI3
    clear hb3 hI3
    go_wp2_with fail
    refine (HI.out _ _ _ HI3.out).mono ?_
    rintro e w4 ⟨rfl, hb4⟩
    have HB4 := Lib.hid (HB3.out.trans (hb4.mono HB3.out.size))
    have HI4 := Lib.hid (HI3.out.belowAll hb4)
    clear hb4
    go_wp2_with fail
    refine (HT.out _ HB4.out).mono ?_
    rintro e w5 ⟨s3, rfl, hb5, hI5⟩
    have HB5 := Lib.hid (HB4.out.trans (hb5.mono HB4.out.size))
    have HI5 := Lib.hid hI5
    have HI6 := Lib.hid (HI4.out.belowAll hb5)
    clear hb5 hI5
    go_wp2_with fail
    refine (HE.out _ _ _ _ _ HI6.out HI5.out).mono ?_
    rintro e w6 ⟨rfl, hb6⟩
    have HB6 := Lib.hid (HB5.out.trans (hb6.mono HB5.out.size))
    clear hb6
    go_wp2
    go_ret
    exact ⟨rfl, HB6.out⟩
def AnyWordTidy : Prop := ∀ (n : Int) (lv : Value) (xs : List Int) (s : ByteArray) (b : Nat) (W : World), xs.length ≤ 2000000 → s.size ≤ 1048576 → IsInts W b lv xs → Calls Try.prog 14 #[.int .i64 n, lv, .string s] W (fun e w' => e = .returned (.tuple #[.string ((tidyO n xs s).getD ⟨#[]⟩), .bool (tidyO n xs s).isSome]) ∧ Below W.heap.size W w')
theorem lawE_WordTidy (n : Int) (s : ByteArray) (W : World) (B len cap : Nat) (A : Option Addr) (z : Nat → Int) (hC : Came W B A len z) (hB : B ≤ W.heap.size) (hlc : len ≤ cap) (hcap : cap ≤ 9223372036854775807) (hY : AnyWordTidy) :
    Calls Try.prog 4 #[.int .i64 n, .slice A len cap, .string s] W fun e w' => e = .returned (.bool true) ∧ Below W.heap.size W w' := by
  by_cases hl_len : (1048576 : Int) < (len : Int)
  · go_enter Try.func4, Try.ntmps4
    go_wp2
    go_ret
    exact ⟨rfl, Below.refl _ _⟩
  by_cases hl_s_size : (1048576 : Int) < (s.size : Int)
  · go_enter Try.func4, Try.ntmps4
    go_wp2
    go_ret
    exact ⟨rfl, Below.refl _ _⟩
  have hl : len ≤ 1048576 := by omega
  have HT := Lib.hid (fun w (h : Below W.heap.size W w) => toInts_any W w B len cap A z (hC.below (h.mono hB)) (Nat.le_trans hB h.size) hl)
  have HS := Lib.hid (fun sv W b (hI : IsInts W b sv (tabI len z)) => specWordTidy_any n sv (tabI len z) s b W (by rw [tabI_len]; omega) hI)
  have HI := Lib.hid (fun sv W b (hI : IsInts W b sv (tabI len z)) => hY n sv (tabI len z) s b W (by rw [tabI_len]; omega) (by omega) hI)
  have HB := Lib.hid (Below.refl W.heap.size W)
  have HE := Lib.hid (fun s1 s2 b1 b2 W h1 h2 => eqInts_any s1 s2 (tabI len z) b1 b2 W h1 h2)
  clear hC hY
  generalize tabI len z = xs at *
  generalize (tidyO n xs s).getD ⟨#[]⟩ = V at *
  generalize (tidyO n xs s).isSome = q at *
  cases q
  all_goals
    go_enter Try.func4, Try.ntmps4
    go_wp2_with fail
    refine (HT.out _ HB.out).mono ?_
    rintro e w1 ⟨s1, rfl, hb1, hI1⟩
    have HB1 := Lib.hid (HB.out.trans (hb1.mono HB.out.size))
    have HI1 := Lib.hid hI1
    clear hb1 hI1
    go_wp2_with fail
    refine (HS.out _ _ _ HI1.out).mono ?_
    rintro e w2 ⟨rfl, hb2⟩
    have HB2 := Lib.hid (HB1.out.trans (hb2.mono HB1.out.size))
    clear hb2
    go_wp2_with fail
    refine (HT.out _ HB2.out).mono ?_
    rintro e w3 ⟨s2, rfl, hb3, hI3⟩
    have HB3 := Lib.hid (HB2.out.trans (hb3.mono HB2.out.size))
    have HI3 := Lib.hid hI3
    clear hb3 hI3
    go_wp2_with fail
    refine (HI.out _ _ _ HI3.out).mono ?_
    rintro e w4 ⟨rfl, hb4⟩
    have HB4 := Lib.hid (HB3.out.trans (hb4.mono HB3.out.size))
    have HI4 := Lib.hid (HI3.out.belowAll hb4)
    clear hb4
    go_wp2_with fail
    refine (HT.out _ HB4.out).mono ?_
    rintro e w5 ⟨s3, rfl, hb5, hI5⟩
    have HB5 := Lib.hid (HB4.out.trans (hb5.mono HB4.out.size))
    have HI5 := Lib.hid hI5
    have HI6 := Lib.hid (HI4.out.belowAll hb5)
    clear hb5 hI5
    go_wp2_with fail
    refine (HE.out _ _ _ _ _ HI6.out HI5.out).mono ?_
    rintro e w6 ⟨rfl, hb6⟩
    have HB6 := Lib.hid (HB5.out.trans (hb6.mono HB5.out.size))
    clear hb6
    go_wp2
    go_ret
    exact ⟨rfl, HB6.out⟩
def AnyWordShort : Prop := ∀ (n : Int) (lv : Value) (xs : List Int) (v : Int) (b : Nat) (W : World), xs.length ≤ 2000000 → IsInts W b lv xs → Calls Try.prog 16 #[.int .i64 n, lv, .int .i64 v] W (fun e w' => e = .returned (.tuple #[.string ((shortO n xs v).getD ⟨#[]⟩), .bool (shortO n xs v).isSome]) ∧ Below W.heap.size W w')
theorem lawE_WordShort (n : Int) (v : Int) (W : World) (B len cap : Nat) (A : Option Addr) (z : Nat → Int) (hC : Came W B A len z) (hB : B ≤ W.heap.size) (hlc : len ≤ cap) (hcap : cap ≤ 9223372036854775807) (hY : AnyWordShort) :
    Calls Try.prog 5 #[.int .i64 n, .slice A len cap, .int .i64 v] W fun e w' => e = .returned (.bool true) ∧ Below W.heap.size W w' := by
  by_cases hl_len : (1048576 : Int) < (len : Int)
  · go_enter Try.func5, Try.ntmps5
    go_wp2
    go_ret
    exact ⟨rfl, Below.refl _ _⟩
  have hl : len ≤ 1048576 := by omega
  have HT := Lib.hid (fun w (h : Below W.heap.size W w) => toInts_any W w B len cap A z (hC.below (h.mono hB)) (Nat.le_trans hB h.size) hl)
  have HS := Lib.hid (fun sv W b (hI : IsInts W b sv (tabI len z)) => specWordShort_any n sv (tabI len z) v b W (by rw [tabI_len]; omega) hI)
  have HI := Lib.hid (fun sv W b (hI : IsInts W b sv (tabI len z)) => hY n sv (tabI len z) v b W (by rw [tabI_len]; omega) hI)
  have HB := Lib.hid (Below.refl W.heap.size W)
  have HE := Lib.hid (fun s1 s2 b1 b2 W h1 h2 => eqInts_any s1 s2 (tabI len z) b1 b2 W h1 h2)
  clear hC hY
  generalize tabI len z = xs at *
  generalize (shortO n xs v).getD ⟨#[]⟩ = V at *
  generalize (shortO n xs v).isSome = q at *
  cases q
  all_goals
    go_enter Try.func5, Try.ntmps5
    go_wp2_with fail
    refine (HT.out _ HB.out).mono ?_
    rintro e w1 ⟨s1, rfl, hb1, hI1⟩
    have HB1 := Lib.hid (HB.out.trans (hb1.mono HB.out.size))
    have HI1 := Lib.hid hI1
    clear hb1 hI1
    go_wp2_with fail
    refine (HS.out _ _ _ HI1.out).mono ?_
    rintro e w2 ⟨rfl, hb2⟩
    have HB2 := Lib.hid (HB1.out.trans (hb2.mono HB1.out.size))
    clear hb2
    go_wp2_with fail
    refine (HT.out _ HB2.out).mono ?_
    rintro e w3 ⟨s2, rfl, hb3, hI3⟩
    have HB3 := Lib.hid (HB2.out.trans (hb3.mono HB2.out.size))
    have HI3 := Lib.hid hI3
    clear hb3 hI3
    go_wp2_with fail
    refine (HI.out _ _ _ HI3.out).mono ?_
    rintro e w4 ⟨rfl, hb4⟩
    have HB4 := Lib.hid (HB3.out.trans (hb4.mono HB3.out.size))
    have HI4 := Lib.hid (HI3.out.belowAll hb4)
    clear hb4
    go_wp2_with fail
    refine (HT.out _ HB4.out).mono ?_
    rintro e w5 ⟨s3, rfl, hb5, hI5⟩
    have HB5 := Lib.hid (HB4.out.trans (hb5.mono HB4.out.size))
    have HI5 := Lib.hid hI5
    have HI6 := Lib.hid (HI4.out.belowAll hb5)
    clear hb5 hI5
    go_wp2_with fail
    refine (HE.out _ _ _ _ _ HI6.out HI5.out).mono ?_
    rintro e w6 ⟨rfl, hb6⟩
    have HB6 := Lib.hid (HB5.out.trans (hb6.mono HB5.out.size))
    clear hb6
    go_wp2
    go_ret
    exact ⟨rfl, HB6.out⟩
def AnyWordSame : Prop := ∀ (n : Int) (lv : Value) (xs : List Int) (s t : ByteArray) (b : Nat) (W : World), xs.length ≤ 2000000 → s.size ≤ 1048576 → t.size ≤ 1048576 → IsInts W b lv xs → Calls Try.prog 18 #[.int .i64 n, lv, .string s, .string t] W (fun e w' => e = .returned (.bool (sameO n xs s t)) ∧ Below W.heap.size W w')
theorem lawE_WordSame (n : Int) (s t : ByteArray) (W : World) (B len cap : Nat) (A : Option Addr) (z : Nat → Int) (hC : Came W B A len z) (hB : B ≤ W.heap.size) (hlc : len ≤ cap) (hcap : cap ≤ 9223372036854775807) (hY : AnyWordSame) :
    Calls Try.prog 6 #[.int .i64 n, .slice A len cap, .string s, .string t] W fun e w' => e = .returned (.bool true) ∧ Below W.heap.size W w' := by
  by_cases hl_len : (1048576 : Int) < (len : Int)
  · go_enter Try.func6, Try.ntmps6
    go_wp2
    go_ret
    exact ⟨rfl, Below.refl _ _⟩
  by_cases hl_s_size : (1048576 : Int) < (s.size : Int)
  · go_enter Try.func6, Try.ntmps6
    go_wp2
    go_ret
    exact ⟨rfl, Below.refl _ _⟩
  by_cases hl_t_size : (1048576 : Int) < (t.size : Int)
  · go_enter Try.func6, Try.ntmps6
    go_wp2
    go_ret
    exact ⟨rfl, Below.refl _ _⟩
  have hl : len ≤ 1048576 := by omega
  have HT := Lib.hid (fun w (h : Below W.heap.size W w) => toInts_any W w B len cap A z (hC.below (h.mono hB)) (Nat.le_trans hB h.size) hl)
  have HS := Lib.hid (fun sv W b (hI : IsInts W b sv (tabI len z)) => specWordSame_any n sv (tabI len z) s t b W (by rw [tabI_len]; omega) hI)
  have HI := Lib.hid (fun sv W b (hI : IsInts W b sv (tabI len z)) => hY n sv (tabI len z) s t b W (by rw [tabI_len]; omega) (by omega) (by omega) hI)
  have HB := Lib.hid (Below.refl W.heap.size W)
  have HE := Lib.hid (fun s1 s2 b1 b2 W h1 h2 => eqInts_any s1 s2 (tabI len z) b1 b2 W h1 h2)
  clear hC hY
  generalize tabI len z = xs at *
  generalize sameO n xs s t = q at *
  cases q
  all_goals
    go_enter Try.func6, Try.ntmps6
    go_wp2_with fail
    refine (HT.out _ HB.out).mono ?_
    rintro e w1 ⟨s1, rfl, hb1, hI1⟩
    have HB1 := Lib.hid (HB.out.trans (hb1.mono HB.out.size))
    have HI1 := Lib.hid hI1
    clear hb1 hI1
    go_wp2_with fail
    refine (HS.out _ _ _ HI1.out).mono ?_
    rintro e w2 ⟨rfl, hb2⟩
    have HB2 := Lib.hid (HB1.out.trans (hb2.mono HB1.out.size))
    clear hb2
    go_wp2_with fail
    refine (HT.out _ HB2.out).mono ?_
    rintro e w3 ⟨s2, rfl, hb3, hI3⟩
    have HB3 := Lib.hid (HB2.out.trans (hb3.mono HB2.out.size))
    have HI3 := Lib.hid hI3
    clear hb3 hI3
    go_wp2_with fail
    refine (HI.out _ _ _ HI3.out).mono ?_
    rintro e w4 ⟨rfl, hb4⟩
    have HB4 := Lib.hid (HB3.out.trans (hb4.mono HB3.out.size))
    have HI4 := Lib.hid (HI3.out.belowAll hb4)
    clear hb4
    go_wp2_with fail
    refine (HT.out _ HB4.out).mono ?_
    rintro e w5 ⟨s3, rfl, hb5, hI5⟩
    have HB5 := Lib.hid (HB4.out.trans (hb5.mono HB4.out.size))
    have HI5 := Lib.hid hI5
    have HI6 := Lib.hid (HI4.out.belowAll hb5)
    clear hb5 hI5
    go_wp2_with fail
    refine (HE.out _ _ _ _ _ HI6.out HI5.out).mono ?_
    rintro e w6 ⟨rfl, hb6⟩
    have HB6 := Lib.hid (HB5.out.trans (hb6.mono HB5.out.size))
    clear hb6
    go_wp2
    go_ret
    exact ⟨rfl, HB6.out⟩
end Go.Proofs.Ytgcfgegbbfbaaaa
