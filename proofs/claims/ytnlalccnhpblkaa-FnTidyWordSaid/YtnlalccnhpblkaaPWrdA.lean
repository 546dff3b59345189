/- Promises of chapter 10 over given contracts: ends and tidy texts. Written by gen118.py. -/
import Derived.Test.YtnlalccnhpblkaaDrawO
import Derived.Test.YtnlalccnhpblkaaWrdX
namespace Go.Proofs.Ytnlalccnhpblkaa
open Go.RowKit Go.Shelf
set_option linter.unusedVariables false
theorem drawWordEnd_any (W : World) (B len cap : Nat) (A : Option Addr) (f : Nat → Nat) (hC : Code W B A len f) (hB : B ≤ W.heap.size) (hlc : len ≤ cap) (hcap : cap ≤ 9223372036854775807) :
    Calls Try.prog 8 #[.slice A len cap] W (WordDrawnT W) := by
  have HO := Lib.hid (l92Word_any W B len cap A f hC hB hlc hcap)
  clear hC
  go_enter Try.func8, Try.ntmps8
  go_wp2_with fail
  refine HO.out.mono ?_
  rintro e w1 ⟨n, lv, xs, s, rfl, h⟩
  obtain ⟨A2, cap2, rfl⟩ := ints_slice h.2.2.2.2.2.2
  have H := Lib.hid h
  clear h
  go_wp2
  refine bodyPost_ret (v := .tuple #[.int .i64 (n : Int), .slice A2 xs.length cap2, .string s]) (by simp [results, Try.results8, go_sem]) rfl ?_
  exact ⟨n, _, xs, s, rfl, H.out⟩
set_option maxHeartbeats 2000000 in
theorem lawP_FnEnd (W : World) (B len cap : Nat) (A : Option Addr) (f : Nat → Nat) (hC : Code W B A len f) (hB : B ≤ W.heap.size) (hlc : len ≤ cap) (hcap : cap ≤ 9223372036854775807)
    (hE : AnyWordEnd) :
    Calls Try.prog 3 #[.slice A len cap] W fun e w' => e = .returned (.bool true) ∧ Below W.heap.size W w' := by
  have HC := Lib.hid (drawWordEnd_any W B len cap A f hC hB hlc hcap)
  clear hC
  by_cases hlen : (1048576 : Int) < (len : Int)
  · go_enter Try.func3, Try.ntmps3
    go_wp2
    go_ret
    exact ⟨rfl, Below.refl _ _⟩
  go_enter Try.func3, Try.ntmps3
  go_wp2_with fail
  refine HC.out.mono ?_
  rintro e w1 ⟨n, lv, xs, s, rfl, hn1, hn2, hx1, hx3, hs, hbl, hI0⟩
  have HB := Lib.hid hbl
  have HV := Lib.hid hI0
  obtain ⟨A2, cap2, rfl⟩ := ints_slice hI0
  have hxl : xs.length ≤ 2000000 := by omega
  have HI := Lib.hid (fun W1 b h => hE (n : Int) (.slice A2 xs.length cap2) xs s b W1 hxl (by omega) h)
  have HD := Lib.hid (fun W1 b h => hE (n : Int) (.slice A2 xs.length cap2) xs (s ++ s) b W1 hxl (by rw [size_append]; omega) h)
  have HS := Lib.hid (fun W1 b h => specWordEnd_any (n : Int) (.slice A2 xs.length cap2) xs s b W1 hxl h)
  have hP := fun e h => p_wordEnd (n : Int) xs s e h (by omega)
  have hcat : s.size + s.size ≤ 9223372036854775807 := by omega
  have h30 : ¬ (30 : Int) < (s.size : Int) := by omega
  have h30b : ¬ (s.size : Int) > 30 := by omega
  clear hbl hI0 hB hlc hcap HC hE hxl hs hx1 hx3
  cases he : endO (n : Int) xs s with
  | none =>
    rw [he] at HI HS
    clear hP HD he
    go_wp2_with fail
    refine (HI.out _ _ HV.out).mono ?_
    rintro e w2 ⟨rfl, hbw2⟩
    have HV := Lib.hid (HV.out.belowAll hbw2)
    have HB := Lib.hid (HB.out.trans (hbw2.mono HB.out.size))
    clear hbw2
    go_wp2_with fail
    refine (HS.out _ _ HV.out).mono ?_
    rintro e w3 ⟨rfl, hbw3⟩
    have HV := Lib.hid (HV.out.belowAll hbw3)
    have HB := Lib.hid (HB.out.trans (hbw3.mono HB.out.size))
    clear hbw3
    go_wp2
    go_ret
    exact ⟨rfl, HB.out⟩
  | some E =>
    have hD2 := hP E he
    have hEn : E < n := by
      obtain ⟨_, _, _, h9⟩ := endO_some (n : Int) xs s E he
      rw [h9, Int.toNat_natCast]
      exact rest_lt n _ (by omega)
    rw [he] at HI HS
    rw [hD2] at HD
    clear hP hD2 he
    rw [Int.toNat_natCast] at HD
    have f1 : IntKind.i64.wrap (2 * (E : Int)) = ((2 * E : Nat) : Int) := by rw [IntWalk.i64_in _ ⟨by omega, by omega⟩]; omega
    have HF := Lib.hid f1
    clear f1
    have t1 : ((2 * E : Nat) : Int).tmod (n : Int) = ((2 * E % n : Nat) : Int) := by rw [Int.tmod_eq_emod_of_nonneg (by omega)]; exact (Int.natCast_emod _ _).symm
    have hn0 : ¬ (n : Int) = 0 := by omega
    have hle : 2 * E % n < n := Nat.mod_lt _ (by omega)
    generalize 2 * E % n = V at *
    have f1 := HF.out
    generalize 2 * E = E2 at *
    simp only [Option.getD_some, Option.isSome_some] at HI HS HD
    go_wp2_with fail
    refine (HI.out _ _ HV.out).mono ?_
    rintro e w2 ⟨rfl, hbw2⟩
    have HV := Lib.hid (HV.out.belowAll hbw2)
    have HB := Lib.hid (HB.out.trans (hbw2.mono HB.out.size))
    clear hbw2
    go_wp2_with fail
    refine (HS.out _ _ HV.out).mono ?_
    rintro e w3 ⟨rfl, hbw3⟩
    have HV := Lib.hid (HV.out.belowAll hbw3)
    have HB := Lib.hid (HB.out.trans (hbw3.mono HB.out.size))
    clear hbw3
    go_wp2_with fail
    refine (HD.out _ _ HV.out).mono ?_
    rintro e w4 ⟨rfl, hbw4⟩
    have HV := Lib.hid (HV.out.belowAll hbw4)
    have HB := Lib.hid (HB.out.trans (hbw4.mono HB.out.size))
    clear hbw4
    go_wp2
    go_ret
    exact ⟨rfl, HB.out⟩
theorem drawWordTidy_any (W : World) (B len cap : Nat) (A : Option Addr) (f : Nat → Nat) (hC : Code W B A len f) (hB : B ≤ W.heap.size) (hlc : len ≤ cap) (hcap : cap ≤ 9223372036854775807) :
    Calls Try.prog 11 #[.slice A len cap] W (WordDrawnT W) := by
  have HO := Lib.hid (l92Word_any W B len cap A f hC hB hlc hcap)
  clear hC
  go_enter Try.func11, Try.ntmps11
  go_wp2_with fail
  refine HO.out.mono ?_
  rintro e w1 ⟨n, lv, xs, s, rfl, h⟩
  obtain ⟨A2, cap2, rfl⟩ := ints_slice h.2.2.2.2.2.2
  have H := Lib.hid h
  clear h
  go_wp2
  refine bodyPost_ret (v := .tuple #[.int .i64 (n : Int), .slice A2 xs.length cap2, .string s]) (by simp [results, Try.results11, go_sem]) rfl ?_
  exact ⟨n, _, xs, s, rfl, H.out⟩
set_option maxHeartbeats 2000000 in
theorem lawP_FnTidyWord (W : World) (B len cap : Nat) (A : Option Addr) (f : Nat → Nat) (hC : Code W B A len f) (hB : B ≤ W.heap.size) (hlc : len ≤ cap) (hcap : cap ≤ 9223372036854775807)
    (hT : AnyWordTidy) (hE : AnyWordEnd) :
    Calls Try.prog 4 #[.slice A len cap] W fun e w' => e = .returned (.bool true) ∧ Below W.heap.size W w' := by
  have HC := Lib.hid (drawWordTidy_any W B len cap A f hC hB hlc hcap)
  clear hC
  by_cases hlen : (1048576 : Int) < (len : Int)
  · go_enter Try.func4, Try.ntmps4
    go_wp2
    go_ret
    exact ⟨rfl, Below.refl _ _⟩
  go_enter Try.func4, Try.ntmps4
  go_wp2_with fail
  refine HC.out.mono ?_
  rintro e w1 ⟨n, lv, xs, s, rfl, hn1, hn2, hx1, hx3, hs, hbl, hI0⟩
  have HB := Lib.hid hbl
  have HV := Lib.hid hI0
  obtain ⟨A2, cap2, rfl⟩ := ints_slice hI0
  have hxl : xs.length ≤ 2000000 := by omega
  have HI := Lib.hid (fun W1 b h => hT (n : Int) (.slice A2 xs.length cap2) xs s b W1 hxl (by omega) h)
  have HS := Lib.hid (fun W1 b h => specWordTidy_any (n : Int) (.slice A2 xs.length cap2) xs s b W1 hxl h)
  have HE1 := Lib.hid (fun W1 b h => hE (n : Int) (.slice A2 xs.length cap2) xs s b W1 hxl (by omega) h)
  have HE2 := Lib.hid (fun (out : ByteArray) (ho : out.size ≤ 1048576) W1 b h => hE (n : Int) (.slice A2 xs.length cap2) xs out b W1 hxl ho h)
  have HT2 := Lib.hid (fun (out : ByteArray) (ho : out.size ≤ 1048576) W1 b h => hT (n : Int) (.slice A2 xs.length cap2) xs out b W1 hxl ho h)
  have hP := fun out h => p_wordTidy (n : Int) xs s out h
  clear hbl hI0 hB hlc hcap HC hE hT hxl hx1 hx3
  cases he : tidyO (n : Int) xs s with
  | none =>
    rw [he] at HI HS
    clear hP HE1 HE2 HT2 he hs
    simp only [Option.getD_none, Option.isSome_none] at HI HS
    go_wp2_with fail
    refine (HI.out _ _ HV.out).mono ?_
    rintro e w2 ⟨rfl, hbw2⟩
    have HV := Lib.hid (HV.out.belowAll hbw2)
    have HB := Lib.hid (HB.out.trans (hbw2.mono HB.out.size))
    clear hbw2
    go_wp2_with fail
    refine (HS.out _ _ HV.out).mono ?_
    rintro e w3 ⟨rfl, hbw3⟩
    have HV := Lib.hid (HV.out.belowAll hbw3)
    have HB := Lib.hid (HB.out.trans (hbw3.mono HB.out.size))
    clear hbw3
    go_wp2
    go_ret
    exact ⟨rfl, HB.out⟩
  | some out =>
    obtain ⟨E, p1, p2, p3, p4⟩ := hP out he
    have HA := Lib.hid (fun W1 b h => HE2.out out (by omega) W1 b h)
    have HX := Lib.hid (fun W1 b h => HT2.out out (by omega) W1 b h)
    rw [he] at HI HS
    rw [p1] at HE1
    rw [p2] at HA
    rw [p3] at HX
    have hle : (out.size : Int) ≤ (s.size : Int) := by omega
    clear hP HE2 HT2 he p1 p2 p3 p4 hs
    simp only [Option.getD_some, Option.isSome_some] at HI HS HE1 HA HX
    go_wp2_with fail
    refine (HI.out _ _ HV.out).mono ?_
    rintro e w2 ⟨rfl, hbw2⟩
    have HV := Lib.hid (HV.out.belowAll hbw2)
    have HB := Lib.hid (HB.out.trans (hbw2.mono HB.out.size))
    clear hbw2
    go_wp2_with fail
    refine (HS.out _ _ HV.out).mono ?_
    rintro e w3 ⟨rfl, hbw3⟩
    have HV := Lib.hid (HV.out.belowAll hbw3)
    have HB := Lib.hid (HB.out.trans (hbw3.mono HB.out.size))
    clear hbw3
    go_wp2_with fail
    refine (HE1.out _ _ HV.out).mono ?_
    rintro e w4 ⟨rfl, hbw4⟩
    have HV := Lib.hid (HV.out.belowAll hbw4)
    have HB := Lib.hid (HB.out.trans (hbw4.mono HB.out.size))
    clear hbw4
    go_wp2_with fail
    refine (HA.out _ _ HV.out).mono ?_
    rintro e w5 ⟨rfl, hbw5⟩
    have HV := Lib.hid (HV.out.belowAll hbw5)
    have HB := Lib.hid (HB.out.trans (hbw5.mono HB.out.size))
    clear hbw5
    go_wp2_with fail
    refine (HX.out _ _ HV.out).mono ?_
    rintro e w6 ⟨rfl, hbw6⟩
    have HV := Lib.hid (HV.out.belowAll hbw6)
    have HB := Lib.hid (HB.out.trans (hbw6.mono HB.out.size))
    clear hbw6
    go_wp2
    go_ret
    exact ⟨rfl, HB.out⟩
end Go.Proofs.Ytnlalccnhpblkaa
