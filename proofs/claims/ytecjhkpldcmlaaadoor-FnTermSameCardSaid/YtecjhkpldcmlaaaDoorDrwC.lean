/- Drawing for chapter 11: a term of any number of leaves. Written by gen144.py. -/
import Derived.Test.YtecjhkpldcmlaaaDoorDrwB
namespace Go.Proofs.YtecjhkpldcmlaaaDoor
open Go.RowKit Go.Shelf
set_option linter.unusedVariables false
attribute [local go_sem] Oper.semAt_some
theorem subD (m k : Nat) (h : m ≤ 1000) (hk : k ≤ m) : IntKind.i64.wrap ((m : Int) - (k : Int)) = ((m - k : Nat) : Int) ∧ wrap64 ((m : Int) - (k : Int)) = ((m - k : Nat) : Int) := ⟨by rw [IntWalk.i64_in _ (by omega)]; omega, by rw [IntWalk.wrap64_in _ (by omega)]; omega⟩
set_option maxHeartbeats 4000000 in
theorem l92Term_any (m : Nat) : ∀ (W : World) (B R p n : Nat), Reader W B R p → p + 12 * m ≤ 500 → 1 ≤ n → n ≤ 12 → 1 ≤ m →
    Calls Tryd.prog 47 #[.pointer (some ⟨R, 0, none⟩), .int .i64 (n : Int), .int .i64 (m : Int)] W (TermDrawn W B R p m) := by
  induction m using Nat.strongRecOn with
  | _ m ih =>
  intro W B R p n hRd hp hn1 hn hm1
  by_cases h1 : m = 1
  · subst h1
    exact l92Term_one W B R p n hRd (by omega) hn1 hn
  have hmx : Tryd.prog.follows .mixedOrders = true := by kernel_rfl
  have HM : Hid (p + 12 * m ≤ 500 ∧ 2 ≤ m) := Lib.hid ⟨hp, by omega⟩
  have IH := Lib.hid ih
  clear ih
  have hm2 : (1 : Int) < (m : Int) := by omega
  have HRd := Lib.hid hRd
  clear hRd
  go_enter Tryd.func47, Tryd.ntmps47
  go_wp2_with fail
  refine (draw_any W B R p (n : Int) HRd.out (by omega) (by omega) (by omega)).mono ?_
  rintro e w1 ⟨v, rfl, hv', hR1, hA1⟩
  have hv := hv' (by omega)
  clear hv'
  have HR1 := Lib.hid hR1
  have HA1 := Lib.hid hA1
  clear hR1 hA1
  have HS := Lib.hid (fun w => l11Sign_any v (by omega) w)
  have hb := byteT (signB v)
  generalize (signB v).toNat = x at *
  have hX : (toB [signB v]).size ≤ 1 := Nat.le_refl _
  generalize toB [signB v] = X at *
  clear hv
  go_wp2_with fail
  refine (HS.out _).mono ?_
  rintro e w9 ⟨rfl, rfl⟩
  have hb1 := hb w1
  go_wp2_with fail
  have HR2 := Lib.hid (underD HR1.out ((Below.refl _ w1).alloc (Nat.le_refl _) (.cells #[.int .u8 (x : Int)] 5)) HR1.out.lt)
  have HA2 := Lib.hid (HA1.out.trans (Aside.belowAllD ((Below.refl _ w1).alloc (Nat.le_refl _) (.cells #[.int .u8 (x : Int)] 5))))
  obtain ⟨w2, hw2⟩ : ∃ w2, w1.alloc (.cells #[.int .u8 (x : Int)] 5) = w2 := ⟨_, rfl⟩
  rw [hw2] at HR2 HA2 ⊢
  clear hw2 hb hb1 HS HR1 HA1
  refine (draw_any w2 B R (p + 1) 8 HR2.out (by omega) (by omega) (by omega)).mono ?_
  rintro e w3 ⟨d, rfl, hd', hR3, hA3⟩
  have HR3 := Lib.hid hR3
  have HA3 := Lib.hid (HA2.out.trans hA3)
  clear hd' hR3 hA3 HR2 HA2
  have HX := Lib.hid hX
  clear hX
  have k0 : ((d : Int) == 0) = true ∨ ((d : Int) == 0) = false := by cases h : ((d : Int) == 0) <;> simp
  have HN : Hid (1 ≤ n ∧ n ≤ 12) := Lib.hid ⟨hn1, hn⟩
  have HU : Hid (IntKind.i64.wrap ((m : Int) - 1) = (m : Int) - 1 ∧ wrap64 ((m : Int) - 1) = (m : Int) - 1) := Lib.hid ⟨IntWalk.i64_in _ ⟨by omega, by omega⟩, IntWalk.wrap64_in _ (by omega)⟩
  clear hp hn1 hn h1 hm1
  rcases k0 with k0 | k0
  all_goals
    have u1 := HU.out.1
    go_wp2_with fail
    refine (draw_any w3 B R (p + 1 + 1) ((m : Int) - 1) HR3.out (by have := HM.out; omega) (by have := HM.out; omega) (by have := HM.out; omega)).mono ?_
    rintro e w4 ⟨j, rfl, hj', hR4, hA4⟩
    have hj := hj' (by omega)
    have HR4 := Lib.hid hR4
    have HA4 := Lib.hid (HA3.out.trans hA4)
    have HK : Hid (1 ≤ j + 1 ∧ j + 1 < m) := Lib.hid ⟨by omega, by omega⟩
    have HF := Lib.hid (oneD j (by have := HM.out; omega))
    clear hj' hR4 hA4 hj u1
    have f1 := HF.out.1
    have f2 := HF.out.2
    clear HF
    generalize j + 1 = k at *
    go_wp2_with fail
    refine (IH.out k HK.out.2 w4 B R (p + 1 + 1 + 1) n HR4.out (by have := HM.out; have := HK.out; omega) HN.out.1 HN.out.2 HK.out.1).mono ?_
    rintro e w5 ⟨s1, q1, rfl, hs1, hq1, hR5, hA5⟩
    have HR5 := Lib.hid hR5
    have HA5 := Lib.hid (HA4.out.trans hA5)
    have HS1 := Lib.hid hs1
    have HQ1 := Lib.hid hq1
    clear hR5 hA5 hs1 hq1 f1 f2 HR4 HA4 HR3 HA3
    have e0 : ¬ 9223372036854775807 < 1 + s1.size := by have := HM.out; have := HK.out; have := HS1.out; omega
    go_wp2_with fail
    refine (of_fresh w5 B R q1 4 1 [⟨#[43]⟩, ⟨#[43]⟩, ⟨#[38]⟩, ⟨#[46]⟩] HR5.out (by have := HM.out; have := HK.out; have := HQ1.out; omega) (by decide) (by decide) (by decide)).mono ?_
    rintro e w6 ⟨x1, rfl, hx1, hR6, hA6⟩
    have HR6 := Lib.hid hR6
    have HA6 := Lib.hid (HA5.out.trans hA6)
    have HX1 := Lib.hid hx1
    have HV := Lib.hid (subD m k (by have := HM.out; omega) (by have := HK.out; omega))
    have HL : Hid (1 ≤ m - k ∧ m - k < m ∧ k + (m - k) = m) := Lib.hid (by have := HK.out; omega)
    clear hR6 hA6 hx1 HR5 HA5
    have v1 := HV.out.1
    have c1 : ¬ 9223372036854775807 < 1 + s1.size + x1.size := by have := HM.out; have := HK.out; have := HS1.out; have := HX1.out; omega
    generalize m - k = k2 at *
    go_wp2_with fail
    refine (IH.out k2 HL.out.2.1 w6 B R (q1 + 1) n HR6.out (by have := HM.out; have := HL.out; have := HQ1.out; omega) HN.out.1 HN.out.2 HL.out.1).mono ?_
    rintro e w7 ⟨s2, q2, rfl, hs2, hq2, hR7, hA7⟩
    have HR7 := Lib.hid hR7
    have HA7 := Lib.hid (HA6.out.trans hA7)
    have c2 : ¬ 9223372036854775807 < 1 + s1.size + x1.size + s2.size := by have := HM.out; have := HK.out; have := HS1.out; have := HX1.out; have := HL.out; omega
    have c3 : ¬ 9223372036854775807 < 1 + s1.size + x1.size + s2.size + 1 := by have := HM.out; have := HK.out; have := HS1.out; have := HX1.out; have := HL.out; omega
    have HZ0 : Hid ((((((⟨#[40]⟩ : ByteArray) ++ s1) ++ x1) ++ s2) ++ ⟨#[41]⟩).size + 7 ≤ 8 * m) := Lib.hid (by
      rw [sizeD, sizeD, sizeD, sizeD]
      show 1 + s1.size + x1.size + s2.size + 1 + 7 ≤ 8 * m
      have := HS1.out; have := HX1.out; have := HL.out; omega)
    have HM2 : Hid (p + 12 * m ≤ 500 ∧ 2 ≤ m ∧ q2 + 10 ≤ p + 12 * m) := Lib.hid (by have := HM.out; have := HQ1.out; have := HL.out; omega)
    clear hs2 hq2 hR7 hA7 HR6 HA6 HS1 HX1 HQ1 HL HV v1 HK HM hm2 IH
    go_wp2_with fail
    clear c1 c2 c3
    generalize ((((⟨#[40]⟩ : ByteArray) ++ s1) ++ x1) ++ s2) ++ ⟨#[41]⟩ = S at *
    refine (draw_any w7 B R q2 8 HR7.out (by have := HM2.out; omega) (by omega) (by omega)).mono ?_
    rintro e w4 ⟨c, rfl, hc', hR4, hA4⟩
    have HR := Lib.hid hR4
    have HA := Lib.hid (HA7.out.trans hA4)
    have HM := HM2
    have HZ := HZ0
    clear hc' hR4 hA4 HM2 HZ0 HR7 HA7
    have hcc : ((c : Int) == 0) = true ∨ (((c : Int) == 0) = false ∧ ((c : Int) == 1) = true) ∨ (((c : Int) == 0) = false ∧ ((c : Int) == 1) = false ∧ ((c : Int) == 2) = true) ∨ (((c : Int) == 0) = false ∧ ((c : Int) == 1) = false ∧ ((c : Int) == 2) = false) := by
      cases h0 : ((c : Int) == 0) <;> cases h1 : ((c : Int) == 1) <;> cases h2 : ((c : Int) == 2) <;> simp
    have hcat : ¬ 9223372036854775807 < 1 + S.size := by have := HZ.out; have := HM.out; omega
    rcases hcc with c0 | ⟨c0, c1⟩ | ⟨c0, c1, c2⟩ | ⟨c0, c1, c2⟩
    · go_wp2
      go_ret
      exact ⟨_, _, rfl, by have := HZ.out; have := HM.out; rw [sizeD]; show 1 + S.size + 5 ≤ _; omega, by have := HM.out; omega, HR.out, HA.out⟩
    · go_wp2
      go_ret
      exact ⟨_, _, rfl, by have := HZ.out; have := HM.out; rw [sizeD]; show 1 + S.size + 5 ≤ _; omega, by have := HM.out; omega, HR.out, HA.out⟩
    · go_wp2_with fail
      refine (draw_any w4 B R (q2 + 1) 3 HR.out (by have := HM.out; omega) (by omega) (by omega)).mono ?_
      rintro e w7 ⟨g, rfl, hg, hR7, hA7⟩
      have HR7 := Lib.hid hR7
      have HA7 := Lib.hid (HA.out.trans hA7)
      clear hg hR7 hA7 hcat
      have hgg : ((g : Int) == 0) = true ∨ ((g : Int) == 0) = false := by cases h : ((g : Int) == 0) <;> simp
      rcases hgg with g0 | g0
      · have HO := Lib.hid (of_fresh w7 B R (q2 + 1 + 1) 3 2 [⟨#[33, 33]⟩, ⟨#[45, 45]⟩, ⟨#[45, 33]⟩] HR7.out (by have := HM.out; omega) (by decide) (by decide) (by decide))
        go_wp2_with fail
        refine HO.out.mono ?_
        rintro e w8 ⟨x, rfl, hx, hR8, hA8⟩
        have HR8 := Lib.hid hR8
        have HA8 := Lib.hid (HA7.out.trans hA8)
        have hcat : ¬ 9223372036854775807 < x.size + S.size := by have := HZ.out; have := HM.out; omega
        have HXx := Lib.hid hx
        clear hR8 hA8 hx
        go_wp2
        go_ret
        exact ⟨_, _, rfl, by have := HZ.out; have := HXx.out; have := HM.out; rw [sizeD]; omega, by have := HM.out; omega, HR8.out, HA8.out⟩
      · go_wp2
        go_ret
        exact ⟨S, _, rfl, by have := HZ.out; have := HM.out; omega, by have := HM.out; omega, HR7.out, HA7.out⟩
    · go_wp2
      go_ret
      exact ⟨S, _, rfl, by have := HZ.out; have := HM.out; omega, by have := HM.out; omega, HR.out, HA.out⟩
end Go.Proofs.YtecjhkpldcmlaaaDoor
