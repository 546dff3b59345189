/- Drawing for chapter 11: a ring and a term. Written by gen144.py. -/
import Derived.Test.YtecjhkpldcmlaaaDoorDrwC
namespace Go.Proofs.YtecjhkpldcmlaaaDoor
open Go.RowKit Go.Shelf
set_option linter.unusedVariables false
attribute [local go_sem] Oper.semAt_some
/-- A ring and a text, by a reader. -/
def GivenDrawn (W : World) (B R p : Nat) (e : Ending) (w' : World) : Prop :=
  ∃ (n : Nat) (s : ByteArray) (q : Nat), e = .returned (.tuple #[.int .i64 (n : Int), .string s]) ∧ 1 ≤ n ∧ n ≤ 12 ∧ s.size ≤ 40 ∧ q ≤ p + 100 ∧ Reader w' B R q ∧ Aside R W w'
set_option maxHeartbeats 4000000 in
theorem l92Given_any (W : World) (B R p : Nat) (hRd : Reader W B R p) (hp : p ≤ 100) :
    Calls Tryd.prog 44 #[.pointer (some ⟨R, 0, none⟩)] W (GivenDrawn W B R p) := by
  have HRd := Lib.hid hRd
  have HM := Lib.hid hp
  clear hRd hp
  go_enter Tryd.func44, Tryd.ntmps44
  go_wp2_with fail
  refine (draw_any W B R p 12 HRd.out (by have := HM.out; omega) (by omega) (by omega)).mono ?_
  rintro e w1 ⟨v, rfl, hv', hR1, hA1⟩
  have hv := hv' (by omega)
  have HR1 := Lib.hid hR1
  have HA1 := Lib.hid hA1
  have HN : Hid (1 ≤ v + 1 ∧ v + 1 ≤ 12) := Lib.hid ⟨by omega, by omega⟩
  obtain ⟨f1, f2⟩ := oneD v (by omega)
  clear hv' hv hR1 hA1
  generalize v + 1 = n at *
  go_wp2_with fail
  refine (draw_any w1 B R (p + 1) 5 HR1.out (by have := HM.out; omega) (by omega) (by omega)).mono ?_
  rintro e w2 ⟨j, rfl, hj', hR2, hA2⟩
  have hj := hj' (by omega)
  have HR2 := Lib.hid hR2
  have HA2 := Lib.hid (HA1.out.trans hA2)
  have HJ : Hid (1 ≤ j + 1 ∧ j + 1 ≤ 5) := Lib.hid ⟨by omega, by omega⟩
  obtain ⟨f3, f4⟩ := oneD j (by omega)
  clear hj' hj hR2 hA2 f1 f2
  generalize j + 1 = m at *
  go_wp2_with fail
  refine (l92Term_any m w2 B R (p + 1 + 1) n HR2.out (by have := HM.out; have := HJ.out; omega) HN.out.1 HN.out.2 HJ.out.1).mono ?_
  rintro e w3 ⟨S, q1, rfl, hs1, hq1, hR3, hA3⟩
  have HR3 := Lib.hid hR3
  have HA3 := Lib.hid (HA2.out.trans hA3)
  have HS : Hid (S.size ≤ 35) := Lib.hid (by have := HJ.out; omega)
  have HQ : Hid (q1 ≤ p + 60 ∧ p ≤ 100) := Lib.hid (by have := HJ.out; have := HM.out; omega)
  clear hs1 hq1 hR3 hA3 f3 f4 HJ HM
  go_wp2_with fail
  refine (draw_any w3 B R q1 24 HR3.out (by have := HQ.out; omega) (by omega) (by omega)).mono ?_
  rintro e w4 ⟨c, rfl, hc', hR4, hA4⟩
  have HR4 := Lib.hid hR4
  have HA4 := Lib.hid (HA3.out.trans hA4)
  clear hc' hR4 hA4
  have hcc : ((c : Int) == 0) = true ∨ (((c : Int) == 0) = false ∧ ((c : Int) == 1) = true) ∨ (((c : Int) == 0) = false ∧ ((c : Int) == 1) = false) := by
    cases h0 : ((c : Int) == 0) <;> cases h1 : ((c : Int) == 1) <;> simp
  rcases hcc with c0 | ⟨c0, c1⟩ | ⟨c0, c1⟩
  · have HO := Lib.hid (of_fresh w4 B R (q1 + 1) 4 2 [⟨#[41]⟩, ⟨#[48]⟩, ⟨#[43, 49]⟩, ⟨#[33]⟩] HR4.out (by have := HQ.out; omega) (by decide) (by decide) (by decide))
    go_wp2_with fail
    refine HO.out.mono ?_
    rintro e w8 ⟨x, rfl, hx, hR8, hA8⟩
    have HR8 := Lib.hid hR8
    have HA8 := Lib.hid (HA4.out.trans hA8)
    have hcat : ¬ 9223372036854775807 < S.size + x.size := by have := HS.out; omega
    have HXx := Lib.hid hx
    clear hR8 hA8 hx
    go_wp2
    go_ret2
    exact ⟨n, _, _, rfl, HN.out.1, HN.out.2, by have := HS.out; have := HXx.out; rw [sizeD]; omega, by have := HQ.out; omega, HR8.out, HA8.out⟩
  · have HO := Lib.hid (of_fresh w4 B R (q1 + 1) 7 7 [⟨#[]⟩, ⟨#[122]⟩, ⟨#[40, 48, 41]⟩, ⟨#[40, 48, 43, 49]⟩, ⟨#[33]⟩, ⟨#[121]⟩, ⟨#[40, 48, 46, 48, 46, 48, 41]⟩] HR4.out (by have := HQ.out; omega) (by decide) (by decide) (by decide))
    go_wp2_with fail
    refine HO.out.mono ?_
    rintro e w8 ⟨x, rfl, hx, hR8, hA8⟩
    have HR8 := Lib.hid hR8
    have HA8 := Lib.hid (HA4.out.trans hA8)
    have HXx := Lib.hid hx
    clear hR8 hA8 hx
    go_wp2
    go_ret2
    exact ⟨n, x, _, rfl, HN.out.1, HN.out.2, by have := HXx.out; omega, by have := HQ.out; omega, HR8.out, HA8.out⟩
  · go_wp2
    go_ret2
    exact ⟨n, S, _, rfl, HN.out.1, HN.out.2, by have := HS.out; omega, by have := HQ.out; omega, HR4.out, HA4.out⟩
/-- A ring and a text. -/
def TermAt (W : World) (e : Ending) (w' : World) : Prop :=
  ∃ (n : Nat) (s : ByteArray), e = .returned (.tuple #[.int .i64 (n : Int), .string s]) ∧ 1 ≤ n ∧ n ≤ 12 ∧ s.size ≤ 40 ∧ Below W.heap.size W w'
theorem l92Term1_any (W : World) (B len cap : Nat) (A : Option Addr) (f : Nat → Nat) (hC : Code W B A len f) (hB : B ≤ W.heap.size) (hlc : len ≤ cap) (hcap : cap ≤ 9223372036854775807) :
    Calls Tryd.prog 36 #[.slice A len cap] W (TermAt W) := by
  have HO := Lib.hid (open_any W B len cap A f hC hB hlc hcap)
  clear hC
  go_enter Tryd.func36, Tryd.ntmps36
  go_wp2_with fail
  refine HO.out.mono ?_
  rintro e w1 ⟨R, A', len', cap', rfl, hR, hl, hRd, hCd, hb1⟩
  have HL := Lib.hid (l92Given_any w1 B R 0 ⟨⟨A', len', cap', f, hRd, hCd, hl⟩, by omega⟩ (by omega))
  have HB1 := Lib.hid hb1
  clear hRd hCd hb1 hl HO
  go_wp2_with fail
  refine HL.out.mono ?_
  rintro e w2 ⟨n, s, q, rfl, hn1, hn2, hs, hq, hR2, hA2⟩
  have HA2 := Lib.hid hA2
  clear hR2 hA2 HL
  go_wp2
  go_ret2
  exact ⟨n, s, rfl, hn1, hn2, hs, HB1.out.trans (HA2.out.below (m := W.heap.size) hR HB1.out.size)⟩
theorem DrawTermIn_any (W : World) (B len cap : Nat) (A : Option Addr) (f : Nat → Nat) (hC : Code W B A len f) (hB : B ≤ W.heap.size) (hlc : len ≤ cap) (hcap : cap ≤ 9223372036854775807) :
    Calls Tryd.prog 12 #[.slice A len cap] W (TermAt W) := by
  have HO := Lib.hid (l92Term1_any W B len cap A f hC hB hlc hcap)
  clear hC
  go_enter Tryd.func12, Tryd.ntmps12
  go_wp2_with fail
  refine HO.out.mono ?_
  rintro e w1 ⟨n, s, rfl, hn1, hn2, hs, hb⟩
  go_wp2
  go_ret2
  exact ⟨n, s, rfl, hn1, hn2, hs, hb⟩
theorem DrawTermSet_any (W : World) (B len cap : Nat) (A : Option Addr) (f : Nat → Nat) (hC : Code W B A len f) (hB : B ≤ W.heap.size) (hlc : len ≤ cap) (hcap : cap ≤ 9223372036854775807) :
    Calls Tryd.prog 15 #[.slice A len cap] W (TermAt W) := by
  have HO := Lib.hid (l92Term1_any W B len cap A f hC hB hlc hcap)
  clear hC
  go_enter Tryd.func15, Tryd.ntmps15
  go_wp2_with fail
  refine HO.out.mono ?_
  rintro e w1 ⟨n, s, rfl, hn1, hn2, hs, hb⟩
  go_wp2
  go_ret2
  exact ⟨n, s, rfl, hn1, hn2, hs, hb⟩
theorem DrawTermTidy_any (W : World) (B len cap : Nat) (A : Option Addr) (f : Nat → Nat) (hC : Code W B A len f) (hB : B ≤ W.heap.size) (hlc : len ≤ cap) (hcap : cap ≤ 9223372036854775807) :
    Calls Tryd.prog 27 #[.slice A len cap] W (TermAt W) := by
  have HO := Lib.hid (l92Term1_any W B len cap A f hC hB hlc hcap)
  clear hC
  go_enter Tryd.func27, Tryd.ntmps27
  go_wp2_with fail
  refine HO.out.mono ?_
  rintro e w1 ⟨n, s, rfl, hn1, hn2, hs, hb⟩
  go_wp2
  go_ret2
  exact ⟨n, s, rfl, hn1, hn2, hs, hb⟩
theorem DrawTermTurned_any (W : World) (B len cap : Nat) (A : Option Addr) (f : Nat → Nat) (hC : Code W B A len f) (hB : B ≤ W.heap.size) (hlc : len ≤ cap) (hcap : cap ≤ 9223372036854775807) :
    Calls Tryd.prog 33 #[.slice A len cap] W (TermAt W) := by
  have HO := Lib.hid (l92Term1_any W B len cap A f hC hB hlc hcap)
  clear hC
  go_enter Tryd.func33, Tryd.ntmps33
  go_wp2_with fail
  refine HO.out.mono ?_
  rintro e w1 ⟨n, s, rfl, hn1, hn2, hs, hb⟩
  go_wp2
  go_ret2
  exact ⟨n, s, rfl, hn1, hn2, hs, hb⟩
end Go.Proofs.YtecjhkpldcmlaaaDoor
