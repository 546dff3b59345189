/- Promises of chapter 10 over given contracts: same texts. Written by gen119.py. -/
import Derived.Test.YtnlalccnhpblkaaDrawO
import Derived.Test.YtnlalccnhpblkaaWrdX
namespace Go.Proofs.Ytnlalccnhpblkaa
open Go.RowKit Go.Shelf
set_option linter.unusedVariables false
theorem short_size (n : Nat) (ls : List Nat) (v : Nat) (cs : List Int) (h : shortC n ls v = some cs) : (toB (textC 0 cs)).size ≤ n := by
  rw [toB_size, text_len]
  exact (short_some n ls v cs h).2.2.1
/-- A ring, letters and two texts. -/
def TwoTexts (W : World) (e : Ending) (w' : World) : Prop :=
  ∃ (n : Nat) (lv : Value) (xs : List Int) (s t : ByteArray), e = .returned (.tuple #[.int .i64 (n : Int), lv, .string s, .string t]) ∧ 2 ≤ n ∧ n ≤ 12 ∧ 1 ≤ xs.length ∧ xs.length ≤ 3 ∧ s.size ≤ 12 ∧ t.size ≤ 12 ∧ Below W.heap.size W w' ∧ IsInts w' W.heap.size lv xs
set_option maxHeartbeats 2000000 in
theorem drawWordSame_any (W : World) (B len cap : Nat) (A : Option Addr) (f : Nat → Nat) (hC : Code W B A len f) (hB : B ≤ W.heap.size) (hlc : len ≤ cap) (hcap : cap ≤ 9223372036854775807) :
    Calls Try.prog 14 #[.slice A len cap] W (TwoTexts W) := by
  have HO := Lib.hid (open_any W B len cap A f hC hB hlc hcap)
  clear hC
  go_enter Try.func14, Try.ntmps14
  go_wp2_with fail
  refine HO.out.mono ?_
  rintro e w1 ⟨R, A', len', cap', rfl, hR, hl, hRd, hCd, hb1⟩
  have hWR : W.heap.size ≤ R := hR
  have HL := Lib.hid (l92Letters_any W w1 B R 0 hWR hb1 ⟨⟨A', len', cap', f, hRd, hCd, hl⟩, by omega⟩ (by omega))
  clear hRd hCd hb1 hl HO
  go_wp2_with fail
  refine HL.out.mono ?_
  rintro e w2 ⟨n, lv, xs, q, rfl, hn1, hn2, hx1, hx3, hq, hR2, hB2, hI2, hE2⟩
  obtain ⟨A2, cap2, rfl⟩ := ints_slice hI2
  have HT := Lib.hid (l92Text_any w2 B R q xs.length hR2 (by omega) hx1 hx3)
  have HB2 := Lib.hid hB2
  have HI2 := Lib.hid hI2
  clear hR2 hB2 hI2 hE2 HL
  go_wp2_with fail
  refine HT.out.mono ?_
  rintro e w3 ⟨s, q3, rfl, hs, hq3, hR3, hA3⟩
  have HB3 := Lib.hid (HB2.out.trans (hA3.below (m := W.heap.size) hWR HB2.out.size))
  have HI3 := Lib.hid (aside_ints HI2.out hA3 (Nat.lt_succ_self R))
  have HR3 := Lib.hid hR3
  clear hR3 hA3 HB2 HI2 HT
  have HS := Lib.hid (specWordEnd_any (n : Int) (.slice A2 xs.length cap2) xs s (R + 1) w3 (by omega) HI3.out)
  cases he : endO (n : Int) xs s with
  | none =>
    rw [he] at HS
    simp only [Option.getD_none, Option.isSome_none] at HS
    go_wp2_with fail
    refine HS.out.mono ?_
    rintro e w4 ⟨rfl, hb4⟩
    have HRX := Lib.hid (HR3.out.under hb4 HR3.out.lt)
    have HIX := Lib.hid (HI3.out.belowAll hb4)
    have HBX := Lib.hid (HB3.out.trans (hb4.mono HB3.out.size))
    clear hb4 he HS HR3 HI3 HB3
    have HT9 := Lib.hid (l92Text_any w4 B R (q3) xs.length HRX.out (by omega) hx1 hx3)
    go_wp2_with fail
    refine HT9.out.mono ?_
    rintro e w9 ⟨t, q9, rfl, ht, hq9, hR9, hA9⟩
    have HB9 := Lib.hid (HBX.out.trans (hA9.below (m := W.heap.size) hWR HBX.out.size))
    have HI9 := Lib.hid ((aside_ints HIX.out hA9 (Nat.lt_succ_self R)).base (b' := W.heap.size) (by omega))
    clear hR9 hA9
    go_wp2
    refine bodyPost_ret (v := .tuple #[.int .i64 (n : Int), .slice A2 xs.length cap2, .string s, .string t]) (by simp [results, Try.results14, go_sem]) rfl ?_
    exact ⟨n, _, xs, s, t, rfl, hn1, hn2, hx1, hx3, by omega, by omega, HB9.out, HI9.out⟩
  | some E =>
    obtain ⟨hLet, _, _, hE9⟩ := endO_some (n : Int) xs s E he
    have hEn : E < n := by
      rw [hE9, Int.toNat_natCast]
      exact rest_lt n _ (by omega)
    clear hE9
    rw [he] at HS
    simp only [Option.getD_some, Option.isSome_some] at HS
    go_wp2_with fail
    refine HS.out.mono ?_
    rintro e w4 ⟨rfl, hb4⟩
    have HR4 := Lib.hid (HR3.out.under hb4 HR3.out.lt)
    have HI4 := Lib.hid (HI3.out.belowAll hb4)
    have HB4 := Lib.hid (HB3.out.trans (hb4.mono HB3.out.size))
    clear hb4 he HS HR3 HI3 HB3
    go_wp2_with fail
    refine (draw_any w4 B R q3 3 HR4.out (by omega) (by omega) (by omega)).mono ?_
    rintro e w5 ⟨c, rfl, hc, hR5, hA5⟩
    have HRX := Lib.hid hR5
    have HIX := Lib.hid (aside_ints HI4.out hA5 (Nat.lt_succ_self R))
    have HBX := Lib.hid (HB4.out.trans (hA5.below (m := W.heap.size) hWR HB4.out.size))
    clear hR5 hA5 hc HR4 HI4 HB4
    by_cases hc0 : c = 0
    · have k0 : ¬ (0 : Int) < (c : Int) := by omega
      clear hc0
      have HT9 := Lib.hid (l92Text_any w5 B R (q3 + 1) xs.length HRX.out (by omega) hx1 hx3)
      go_wp2_with fail
      refine HT9.out.mono ?_
      rintro e w9 ⟨t, q9, rfl, ht, hq9, hR9, hA9⟩
      have HB9 := Lib.hid (HBX.out.trans (hA9.below (m := W.heap.size) hWR HBX.out.size))
      have HI9 := Lib.hid ((aside_ints HIX.out hA9 (Nat.lt_succ_self R)).base (b' := W.heap.size) (by omega))
      clear hR9 hA9
      go_wp2
      refine bodyPost_ret (v := .tuple #[.int .i64 (n : Int), .slice A2 xs.length cap2, .string s, .string t]) (by simp [results, Try.results14, go_sem]) rfl ?_
      exact ⟨n, _, xs, s, t, rfl, hn1, hn2, hx1, hx3, by omega, by omega, HB9.out, HI9.out⟩
    · have k0 : (0 : Int) < (c : Int) := by omega
      clear hc0
      have HSh := Lib.hid (l10Short_any n (.slice A2 xs.length cap2) xs (R + 1) E w5 hLet HIX.out (by omega))
      go_wp2_with fail
      refine HSh.out.mono ?_
      rintro e w6 ⟨hres, hb6⟩
      have HR6 := Lib.hid (HRX.out.under hb6 HRX.out.lt)
      have HI6 := Lib.hid (HIX.out.belowAll hb6)
      have HB6 := Lib.hid (HBX.out.trans (hb6.mono HBX.out.size))
      clear hb6 HRX HIX HBX HSh
      rcases hres with ⟨cs, hcs, rfl⟩ | ⟨hcs, rfl⟩
      · have ht := short_size n (letL xs) E cs hcs
        have HI9 := Lib.hid (HI6.out.base (b' := W.heap.size) (by omega))
        clear hcs
        generalize toB (textC 0 cs) = t at *
        go_wp2
        refine bodyPost_ret (v := .tuple #[.int .i64 (n : Int), .slice A2 xs.length cap2, .string s, .string t]) (by simp [results, Try.results14, go_sem]) rfl ?_
        exact ⟨n, _, xs, s, t, rfl, hn1, hn2, hx1, hx3, by omega, by omega, HB6.out, HI9.out⟩
      · clear hcs
        have HRX := Lib.hid HR6.out
        have HIX := Lib.hid HI6.out
        have HBX := Lib.hid HB6.out
        clear HR6 HI6 HB6
        have HT9 := Lib.hid (l92Text_any w6 B R (q3 + 1) xs.length HRX.out (by omega) hx1 hx3)
        go_wp2_with fail
        refine HT9.out.mono ?_
        rintro e w9 ⟨t, q9, rfl, ht, hq9, hR9, hA9⟩
        have HB9 := Lib.hid (HBX.out.trans (hA9.below (m := W.heap.size) hWR HBX.out.size))
        have HI9 := Lib.hid ((aside_ints HIX.out hA9 (Nat.lt_succ_self R)).base (b' := W.heap.size) (by omega))
        clear hR9 hA9
        go_wp2
        refine bodyPost_ret (v := .tuple #[.int .i64 (n : Int), .slice A2 xs.length cap2, .string s, .string t]) (by simp [results, Try.results14, go_sem]) rfl ?_
        exact ⟨n, _, xs, s, t, rfl, hn1, hn2, hx1, hx3, by omega, by omega, HB9.out, HI9.out⟩
set_option maxHeartbeats 2000000 in
theorem lawP_FnSameWord (W : World) (B len cap : Nat) (A : Option Addr) (f : Nat → Nat) (hC : Code W B A len f) (hB : B ≤ W.heap.size) (hlc : len ≤ cap) (hcap : cap ≤ 9223372036854775807)
    (hS : AnyWordSame) :
    Calls Try.prog 5 #[.slice A len cap] W fun e w' => e = .returned (.bool true) ∧ Below W.heap.size W w' := by
  have HC := Lib.hid (drawWordSame_any W B len cap A f hC hB hlc hcap)
  clear hC
  by_cases hlen : (1048576 : Int) < (len : Int)
  · go_enter Try.func5, Try.ntmps5
    go_wp2
    go_ret
    exact ⟨rfl, Below.refl _ _⟩
  go_enter Try.func5, Try.ntmps5
  go_wp2_with fail
  refine HC.out.mono ?_
  rintro e w1 ⟨n, lv, xs, s, t, rfl, hn1, hn2, hx1, hx3, hs, ht, hbl, hI0⟩
  have HB := Lib.hid hbl
  have HV := Lib.hid hI0
  obtain ⟨A2, cap2, rfl⟩ := ints_slice hI0
  have hxl : xs.length ≤ 2000000 := by omega
  have hsz1 : (s ++ ⟨#[97]⟩).size = s.size + 1 := size_append s ⟨#[97]⟩
  have htz1 : (t ++ ⟨#[97]⟩).size = t.size + 1 := size_append t ⟨#[97]⟩
  have HI := Lib.hid (fun W1 b h => hS (n : Int) (.slice A2 xs.length cap2) xs s t b W1 hxl (by omega) (by omega) h)
  have HM := Lib.hid (fun W1 b h => specWordSame_any (n : Int) (.slice A2 xs.length cap2) xs s t b W1 hxl h)
  have HT := Lib.hid (fun W1 b h => hS (n : Int) (.slice A2 xs.length cap2) xs t s b W1 hxl (by omega) (by omega) h)
  have HA := Lib.hid (fun W1 b h => hS (n : Int) (.slice A2 xs.length cap2) xs (s ++ ⟨#[97]⟩) (t ++ ⟨#[97]⟩) b W1 hxl (by omega) (by omega) h)
  have hcat : s.size + 1 ≤ 9223372036854775807 := by omega
  have hcatt : t.size + 1 ≤ 9223372036854775807 := by omega
  have h59 : ¬ (59 : Int) < (s.size : Int) := by omega
  have h59t : ¬ (59 : Int) < (t.size : Int) := by omega
  have hP := p_wordSame (n : Int) xs s t
  have HS59 : Hid (s.size ≤ 59 ∧ t.size ≤ 59) := Lib.hid ⟨by omega, by omega⟩
  clear hbl hI0 hB hlc hcap HC hS hxl hs ht hx1 hx3 hsz1 htz1
  cases he : sameO (n : Int) xs s t with
  | false =>
    rw [he] at HI HM
    clear hP HT HA he
    go_wp2_with fail
    refine (HI.out _ _ HV.out).mono ?_
    rintro e w2 ⟨rfl, hbw2⟩
    have HV := Lib.hid (HV.out.belowAll hbw2)
    have HB := Lib.hid (HB.out.trans (hbw2.mono HB.out.size))
    clear hbw2
    go_wp2_with fail
    refine (HM.out _ _ HV.out).mono ?_
    rintro e w3 ⟨rfl, hbw3⟩
    have HV := Lib.hid (HV.out.belowAll hbw3)
    have HB := Lib.hid (HB.out.trans (hbw3.mono HB.out.size))
    clear hbw3
    go_wp2
    go_ret
    exact ⟨rfl, HB.out⟩
  | true =>
    obtain ⟨p1, p2⟩ := hP he
    have p3 := p2 HS59.out.1 HS59.out.2
    rw [he] at HI HM
    rw [p1] at HT
    rw [p3] at HA
    clear hP p1 p2 p3 he HS59
    go_wp2_with fail
    refine (HI.out _ _ HV.out).mono ?_
    rintro e w2 ⟨rfl, hbw2⟩
    have HV := Lib.hid (HV.out.belowAll hbw2)
    have HB := Lib.hid (HB.out.trans (hbw2.mono HB.out.size))
    clear hbw2
    go_wp2_with fail
    refine (HM.out _ _ HV.out).mono ?_
    rintro e w3 ⟨rfl, hbw3⟩
    have HV := Lib.hid (HV.out.belowAll hbw3)
    have HB := Lib.hid (HB.out.trans (hbw3.mono HB.out.size))
    clear hbw3
    go_wp2_with fail
    refine (HT.out _ _ HV.out).mono ?_
    rintro e w4 ⟨rfl, hbw4⟩
    have HV := Lib.hid (HV.out.belowAll hbw4)
    have HB := Lib.hid (HB.out.trans (hbw4.mono HB.out.size))
    clear hbw4
    go_wp2_with fail
    refine (HA.out _ _ HV.out).mono ?_
    rintro e w5 ⟨rfl, hbw5⟩
    have HV := Lib.hid (HV.out.belowAll hbw5)
    have HB := Lib.hid (HB.out.trans (hbw5.mono HB.out.size))
    clear hbw5
    go_wp2
    go_ret
    exact ⟨rfl, HB.out⟩
end Go.Proofs.Ytnlalccnhpblkaa
