/- Drawing for chapter 11: a term of one leaf. Written by gen144.py. -/
import Derived.Test.YtecjhkpldcmlaaaDoorDrwA
namespace Go.Proofs.YtecjhkpldcmlaaaDoor
open Go.RowKit Go.Shelf
set_option linter.unusedVariables false
attribute [local go_sem] Oper.semAt_some
set_option maxHeartbeats 4000000 in
theorem l92Term_one (W : World) (B R p n : Nat) (hRd : Reader W B R p) (hp : p ≤ 500) (hn1 : 1 ≤ n) (hn : n ≤ 12) :
    Calls Tryd.prog 47 #[.pointer (some ⟨R, 0, none⟩), .int .i64 (n : Int), .int .i64 1] W (TermDrawn W B R p 1) := by
  have HM : Hid (p ≤ 500) := Lib.hid hp
  have HRd := Lib.hid hRd
  clear hRd
  go_enter Tryd.func47, Tryd.ntmps47
  go_wp2_with fail
  refine (draw_any W B R p (n : Int) HRd.out (by omega) (by omega) (by omega)).mono ?_
  rintro e w1 ⟨v, rfl, hv', hR1, hA1⟩
  have hv := hv' (by omega)
  clear hv'
  have HR1 := Lib.hid hR1
  have HA1 := Lib.hid hA1
  clear hR1 hA1
  have HS := Lib.hid (fun w => l11Sign_any v (by omega) w)
  have hb := byteT (signB v)
  generalize (signB v).toNat = x at *
  have hX : (toB [signB v]).size ≤ 1 := Nat.le_refl _
  generalize toB [signB v] = X at *
  clear hv
  go_wp2_with fail
  refine (HS.out _).mono ?_
  rintro e w9 ⟨rfl, rfl⟩
  have hb1 := hb w1
  go_wp2_with fail
  have HR2 := Lib.hid (underD HR1.out ((Below.refl _ w1).alloc (Nat.le_refl _) (.cells #[.int .u8 (x : Int)] 5)) HR1.out.lt)
  have HA2 := Lib.hid (HA1.out.trans (Aside.belowAllD ((Below.refl _ w1).alloc (Nat.le_refl _) (.cells #[.int .u8 (x : Int)] 5))))
  obtain ⟨w2, hw2⟩ : ∃ w2, w1.alloc (.cells #[.int .u8 (x : Int)] 5) = w2 := ⟨_, rfl⟩
  rw [hw2] at HR2 HA2 ⊢
  clear hw2 hb hb1 HS HR1 HA1
  refine (draw_any w2 B R (p + 1) 8 HR2.out (by omega) (by omega) (by omega)).mono ?_
  rintro e w3 ⟨d, rfl, hd', hR3, hA3⟩
  have HR3 := Lib.hid hR3
  have HA3 := Lib.hid (HA2.out.trans hA3)
  clear hd' hR3 hA3 HR2 HA2
  have HX := Lib.hid hX
  clear hX
  have k0 : ((d : Int) == 0) = true ∨ ((d : Int) == 0) = false := by cases h : ((d : Int) == 0) <;> simp
  have HZ1 : Hid ((⟨#[101]⟩ : ByteArray).size ≤ 1) := Lib.hid (Nat.le_refl _)
  rcases k0 with k0 | k0
  · go_wp2_with fail
    refine (draw_any w3 B R (p + 1 + 1) 8 HR3.out (by have := HM.out; omega) (by omega) (by omega)).mono ?_
    rintro e w4 ⟨c, rfl, hc', hR4, hA4⟩
    have HR := Lib.hid hR4
    have HA := Lib.hid (HA3.out.trans hA4)
    clear hc' hR4 hA4
    generalize (⟨#[101]⟩ : ByteArray) = S at *
    have HZ := HZ1
    have hcc : ((c : Int) == 0) = true ∨ (((c : Int) == 0) = false ∧ ((c : Int) == 1) = true) ∨ (((c : Int) == 0) = false ∧ ((c : Int) == 1) = false ∧ ((c : Int) == 2) = true) ∨ (((c : Int) == 0) = false ∧ ((c : Int) == 1) = false ∧ ((c : Int) == 2) = false) := by
      cases h0 : ((c : Int) == 0) <;> cases h1 : ((c : Int) == 1) <;> cases h2 : ((c : Int) == 2) <;> simp
    have hcat : ¬ 9223372036854775807 < 1 + S.size := by have := HZ.out; have := HM.out; omega
    rcases hcc with c0 | ⟨c0, c1⟩ | ⟨c0, c1, c2⟩ | ⟨c0, c1, c2⟩
    · go_wp2
      go_ret
      exact ⟨_, _, rfl, by have := HZ.out; have := HM.out; rw [sizeD]; show 1 + S.size + 5 ≤ _; omega, by have := HM.out; omega, HR.out, HA.out⟩
    · go_wp2
      go_ret
      exact ⟨_, _, rfl, by have := HZ.out; have := HM.out; rw [sizeD]; show 1 + S.size + 5 ≤ _; omega, by have := HM.out; omega, HR.out, HA.out⟩
    · go_wp2_with fail
      refine (draw_any w4 B R (p + 1 + 1 + 1) 3 HR.out (by have := HM.out; omega) (by omega) (by omega)).mono ?_
      rintro e w7 ⟨g, rfl, hg, hR7, hA7⟩
      have HR7 := Lib.hid hR7
      have HA7 := Lib.hid (HA.out.trans hA7)
      clear hg hR7 hA7 hcat
      have hgg : ((g : Int) == 0) = true ∨ ((g : Int) == 0) = false := by cases h : ((g : Int) == 0) <;> simp
      rcases hgg with g0 | g0
      · have HO := Lib.hid (of_fresh w7 B R (p + 1 + 1 + 1 + 1) 3 2 [⟨#[33, 33]⟩, ⟨#[45, 45]⟩, ⟨#[45, 33]⟩] HR7.out (by have := HM.out; omega) (by decide) (by decide) (by decide))
        go_wp2_with fail
        refine HO.out.mono ?_
        rintro e w8 ⟨x, rfl, hx, hR8, hA8⟩
        have HR8 := Lib.hid hR8
        have HA8 := Lib.hid (HA7.out.trans hA8)
        have hcat : ¬ 9223372036854775807 < x.size + S.size := by have := HZ.out; have := HM.out; omega
        have HXx := Lib.hid hx
        clear hR8 hA8 hx
        go_wp2
        go_ret
        exact ⟨_, _, rfl, by have := HZ.out; have := HXx.out; have := HM.out; rw [sizeD]; omega, by have := HM.out; omega, HR8.out, HA8.out⟩
      · go_wp2
        go_ret
        exact ⟨S, _, rfl, by have := HZ.out; have := HM.out; omega, by have := HM.out; omega, HR7.out, HA7.out⟩
    · go_wp2
      go_ret
      exact ⟨S, _, rfl, by have := HZ.out; have := HM.out; omega, by have := HM.out; omega, HR.out, HA.out⟩
  · go_wp2_with fail
    refine (draw_any w3 B R (p + 1 + 1) 8 HR3.out (by have := HM.out; omega) (by omega) (by omega)).mono ?_
    rintro e w4 ⟨c, rfl, hc', hR4, hA4⟩
    have HR := Lib.hid hR4
    have HA := Lib.hid (HA3.out.trans hA4)
    clear hc' hR4 hA4
    have HZ := HX
    have hcc : ((c : Int) == 0) = true ∨ (((c : Int) == 0) = false ∧ ((c : Int) == 1) = true) ∨ (((c : Int) == 0) = false ∧ ((c : Int) == 1) = false ∧ ((c : Int) == 2) = true) ∨ (((c : Int) == 0) = false ∧ ((c : Int) == 1) = false ∧ ((c : Int) == 2) = false) := by
      cases h0 : ((c : Int) == 0) <;> cases h1 : ((c : Int) == 1) <;> cases h2 : ((c : Int) == 2) <;> simp
    have hcat : ¬ 9223372036854775807 < 1 + X.size := by have := HZ.out; have := HM.out; omega
    rcases hcc with c0 | ⟨c0, c1⟩ | ⟨c0, c1, c2⟩ | ⟨c0, c1, c2⟩
    · go_wp2
      go_ret
      exact ⟨_, _, rfl, by have := HZ.out; have := HM.out; rw [sizeD]; show 1 + X.size + 5 ≤ _; omega, by have := HM.out; omega, HR.out, HA.out⟩
    · go_wp2
      go_ret
      exact ⟨_, _, rfl, by have := HZ.out; have := HM.out; rw [sizeD]; show 1 + X.size + 5 ≤ _; omega, by have := HM.out; omega, HR.out, HA.out⟩
    · go_wp2_with fail
      refine (draw_any w4 B R (p + 1 + 1 + 1) 3 HR.out (by have := HM.out; omega) (by omega) (by omega)).mono ?_
      rintro e w7 ⟨g, rfl, hg, hR7, hA7⟩
      have HR7 := Lib.hid hR7
      have HA7 := Lib.hid (HA.out.trans hA7)
      clear hg hR7 hA7 hcat
      have hgg : ((g : Int) == 0) = true ∨ ((g : Int) == 0) = false := by cases h : ((g : Int) == 0) <;> simp
      rcases hgg with g0 | g0
      · have HO := Lib.hid (of_fresh w7 B R (p + 1 + 1 + 1 + 1) 3 2 [⟨#[33, 33]⟩, ⟨#[45, 45]⟩, ⟨#[45, 33]⟩] HR7.out (by have := HM.out; omega) (by decide) (by decide) (by decide))
        go_wp2_with fail
        refine HO.out.mono ?_
        rintro e w8 ⟨x, rfl, hx, hR8, hA8⟩
        have HR8 := Lib.hid hR8
        have HA8 := Lib.hid (HA7.out.trans hA8)
        have hcat : ¬ 9223372036854775807 < x.size + X.size := by have := HZ.out; have := HM.out; omega
        have HXx := Lib.hid hx
        clear hR8 hA8 hx
        go_wp2
        go_ret
        exact ⟨_, _, rfl, by have := HZ.out; have := HXx.out; have := HM.out; rw [sizeD]; omega, by have := HM.out; omega, HR8.out, HA8.out⟩
      · go_wp2
        go_ret
        exact ⟨X, _, rfl, by have := HZ.out; have := HM.out; omega, by have := HM.out; omega, HR7.out, HA7.out⟩
    · go_wp2
      go_ret
      exact ⟨X, _, rfl, by have := HZ.out; have := HM.out; omega, by have := HM.out; omega, HR.out, HA.out⟩
end Go.Proofs.YtecjhkpldcmlaaaDoor
