/- Drawing for chapter 11: a ring and two terms. Written by gen146.py. -/
import Derived.Test.YtecjhkpldcmlaaaDoorDrwD
import Derived.Test.YtecjhkpldcmlaaaDoorTrwB
import Derived.Test.YtecjhkpldcmlaaaDoorTrpK
namespace Go.Proofs.YtecjhkpldcmlaaaDoor
open Go.RowKit Go.Shelf
set_option linter.unusedVariables false
attribute [local go_sem] Oper.semAt_some
theorem setO_some {n : Int} {s : ByteArray} {S : Nat} (h : setO n s = some S) : ∃ (m : Nat) (t : Tm), n = (m : Int) ∧ 1 ≤ m ∧ m ≤ 12 ∧ S < 4096 ∧ S = setT m t ∧ termO n s.toList = some t ∧ ((tidyX n s).getD ⟨#[]⟩).size ≤ s.size := by
  cases ht : termO n s.toList with
  | none => rw [setO_no ht] at h; cases h
  | some t =>
    obtain ⟨m, rfl, h1, h2, ho, hl, e⟩ := termO_ok ht
    rw [setO_yes ht, Int.toNat_natCast] at h
    have hlt := set_lt m t h1 ho
    have hp := pow_le m h2
    have hS : S = setT m t := (Option.some.inj h).symm
    refine ⟨m, t, rfl, h1, h2, by omega, hS, rfl, ?_⟩
    rw [tidyX_yes ht, Option.getD_some, toB_size, Int.toNat_natCast, ← bytes_len s, e]
    exact len_tidy m t
/-- A ring and two texts. -/
def TermTwo (W : World) (e : Ending) (w' : World) : Prop :=
  ∃ (n : Nat) (s t : ByteArray), e = .returned (.tuple #[.int .i64 (n : Int), .string s, .string t]) ∧ 1 ≤ n ∧ n ≤ 12 ∧ s.size ≤ 40 ∧ t.size ≤ 49 ∧ Below W.heap.size W w'
set_option maxRecDepth 20000 in
set_option maxHeartbeats 4000000 in
theorem drawTermSame_any (W : World) (B len cap : Nat) (A : Option Addr) (f : Nat → Nat) (hC : Code W B A len f) (hB : B ≤ W.heap.size) (hlc : len ≤ cap) (hcap : cap ≤ 9223372036854775807) :
    Calls Tryd.prog 20 #[.slice A len cap] W (TermTwo W) := by
  have HO := Lib.hid (open_any W B len cap A f hC hB hlc hcap)
  clear hC
  go_enter Tryd.func20, Tryd.ntmps20
  go_wp2_with fail
  refine HO.out.mono ?_
  rintro e w1 ⟨R, A', len', cap', rfl, hR, hl, hRd, hCd, hb1⟩
  have HL := Lib.hid (l92Given_any w1 B R 0 ⟨⟨A', len', cap', f, hRd, hCd, hl⟩, by omega⟩ (by omega))
  have HB1 := Lib.hid hb1
  clear hRd hCd hb1 hl HO
  go_wp2_with fail
  refine HL.out.mono ?_
  rintro e w2 ⟨n, s, q, rfl, hn1, hn2, hs, hq, hR2, hA2⟩
  have HR2 := Lib.hid hR2
  have HA2 := Lib.hid hA2
  have HS := Lib.hid (⟨hs, hq, hn1, hn2⟩ : s.size ≤ 40 ∧ q ≤ 0 + 100 ∧ 1 ≤ n ∧ n ≤ 12)
  have HSt := Lib.hid (specTermSet_any (n : Int) s w2 (by omega))
  have HTd := Lib.hid (fun W => specTermTidy_any (n : Int) s W (by omega))
  clear hR2 hA2 HL hs hq hn1 hn2
  cases ho : setO (n : Int) s with
  | none =>
    rw [ho] at HSt
    clear ho HTd
    simp only [Option.isSome_none, Option.getD_none] at HSt
    go_wp2_with fail
    refine HSt.out.mono ?_
    rintro e w3 ⟨rfl, hb3⟩
    have HR3 := Lib.hid (underD HR2.out hb3 HR2.out.lt)
    have HA3 := Lib.hid (HA2.out.trans (Aside.belowAllD hb3))
    clear hb3 HR2 HA2 HSt
    go_wp2_with fail
    refine (draw_any w3 B R (q) 4 HR3.out (by have := HS.out; omega) (by omega) (by omega)).mono ?_
    rintro e w7 ⟨j, rfl, hj', hR7, hA7⟩
    have hj := hj' (by omega)
    have HR7 := Lib.hid hR7
    have HA7 := Lib.hid (HA3.out.trans hA7)
    have HJ : Hid (1 ≤ j + 1 ∧ j + 1 ≤ 4) := Lib.hid ⟨by omega, by omega⟩
    obtain ⟨f3, f4⟩ := oneD j (by omega)
    clear hj' hj hR7 hA7
    generalize j + 1 = m at *
    go_wp2_with fail
    refine (l92Term_any m w7 B R (q + 1) n HR7.out (by have := HS.out; have := HJ.out; omega) HS.out.2.2.1 HS.out.2.2.2 HJ.out.1).mono ?_
    rintro e w8 ⟨Z, q1, rfl, hz, hq1, hR8, hA8⟩
    have HA8 := Lib.hid (HA7.out.trans hA8)
    have HZ : Hid (Z.size ≤ 40) := Lib.hid (by have := HJ.out; omega)
    clear hz hq1 hR8 hA8 f3 f4
    go_wp2
    refine bodyPost_ret (v := .tuple #[.int .i64 (n : Int), .string s, .string Z]) (by simp [results, Tryd.results20, go_sem]) rfl ?_
    exact ⟨n, s, Z, rfl, HS.out.2.2.1, HS.out.2.2.2, HS.out.1, by have := HZ.out; omega, HB1.out.trans (HA8.out.below (m := W.heap.size) hR HB1.out.size)⟩
  | some S =>
    obtain ⟨m0, t0, eA, eD, eE, hS4, eB, eC, hTs⟩ := setO_some ho
    rw [ho] at HSt
    have HTs := Lib.hid hTs
    have HWr := Lib.hid (fun W => l11Write_any S hS4 W)
    have HWz := Lib.hid (show (toB (showT (setS S))).size ≤ 49 from by rw [toB_size]; exact setS_len S)
    clear ho hS4 hTs eA eB eC eD eE
    generalize toB (showT (setS S)) = X at *
    generalize (tidyX (n : Int) s).getD ⟨#[]⟩ = Y at *
    generalize (tidyX (n : Int) s).isSome = b at *
    simp only [Option.isSome_some, Option.getD_some] at HSt
    go_wp2_with fail
    refine HSt.out.mono ?_
    rintro e w3 ⟨rfl, hb3⟩
    have HR3 := Lib.hid (underD HR2.out hb3 HR2.out.lt)
    have HA3 := Lib.hid (HA2.out.trans (Aside.belowAllD hb3))
    clear hb3 HR2 HA2 HSt
    go_wp2_with fail
    refine (draw_any w3 B R q 3 HR3.out (by have := HS.out; omega) (by omega) (by omega)).mono ?_
    rintro e w4 ⟨c, rfl, hc', hR4, hA4⟩
    have HR4 := Lib.hid hR4
    have HA4 := Lib.hid (HA3.out.trans hA4)
    clear hc' hR4 hA4 HR3 HA3
    by_cases hc0 : c = 0
    · have k0 : ¬ (0 : Int) < (c : Int) := by omega
      clear hc0
      go_wp2_with fail
      refine (draw_any w4 B R (q + 1) 4 HR4.out (by have := HS.out; omega) (by omega) (by omega)).mono ?_
      rintro e w7 ⟨j, rfl, hj', hR7, hA7⟩
      have hj := hj' (by omega)
      have HR7 := Lib.hid hR7
      have HA7 := Lib.hid (HA4.out.trans hA7)
      have HJ : Hid (1 ≤ j + 1 ∧ j + 1 ≤ 4) := Lib.hid ⟨by omega, by omega⟩
      obtain ⟨f3, f4⟩ := oneD j (by omega)
      clear hj' hj hR7 hA7
      generalize j + 1 = m at *
      go_wp2_with fail
      refine (l92Term_any m w7 B R (q + 1 + 1) n HR7.out (by have := HS.out; have := HJ.out; omega) HS.out.2.2.1 HS.out.2.2.2 HJ.out.1).mono ?_
      rintro e w8 ⟨Z, q1, rfl, hz, hq1, hR8, hA8⟩
      have HA8 := Lib.hid (HA7.out.trans hA8)
      have HZ : Hid (Z.size ≤ 40) := Lib.hid (by have := HJ.out; omega)
      clear hz hq1 hR8 hA8 f3 f4
      go_wp2
      refine bodyPost_ret (v := .tuple #[.int .i64 (n : Int), .string s, .string Z]) (by simp [results, Tryd.results20, go_sem]) rfl ?_
      exact ⟨n, s, Z, rfl, HS.out.2.2.1, HS.out.2.2.2, HS.out.1, by have := HZ.out; omega, HB1.out.trans (HA8.out.below (m := W.heap.size) hR HB1.out.size)⟩
    · have k0 : (0 : Int) < (c : Int) := by omega
      clear hc0
      go_wp2_with fail
      refine (draw_any w4 B R (q + 1) 2 HR4.out (by have := HS.out; omega) (by omega) (by omega)).mono ?_
      rintro e w5 ⟨d, rfl, hd', hR5, hA5⟩
      have HA5 := Lib.hid (HA4.out.trans hA5)
      clear hd' hR5 hA5 HR4 HA4
      have hdd : ((d : Int) == 0) = true ∨ ((d : Int) == 0) = false := by cases h : ((d : Int) == 0) <;> simp
      rcases hdd with d0 | d0
      · go_wp2_with fail
        refine (HTd.out _).mono ?_
        rintro e w6 ⟨rfl, hb6⟩
        have HA6 := Lib.hid (HA5.out.trans (Aside.belowAllD hb6))
        clear hb6
        go_wp2
        refine bodyPost_ret (v := .tuple #[.int .i64 (n : Int), .string s, .string Y]) (by simp [results, Tryd.results20, go_sem]) rfl ?_
        exact ⟨n, s, Y, rfl, HS.out.2.2.1, HS.out.2.2.2, HS.out.1, by have := HS.out; have := HTs.out; omega, HB1.out.trans (HA6.out.below (m := W.heap.size) hR HB1.out.size)⟩
      · go_wp2_with fail
        refine (HWr.out _).mono ?_
        rintro e w6 ⟨rfl, hb6⟩
        have HA6 := Lib.hid (HA5.out.trans (Aside.belowAllD hb6))
        clear hb6
        go_wp2
        refine bodyPost_ret (v := .tuple #[.int .i64 (n : Int), .string s, .string X]) (by simp [results, Tryd.results20, go_sem]) rfl ?_
        exact ⟨n, s, X, rfl, HS.out.2.2.1, HS.out.2.2.2, HS.out.1, HWz.out, HB1.out.trans (HA6.out.below (m := W.heap.size) hR HB1.out.size)⟩
end Go.Proofs.YtecjhkpldcmlaaaDoor
