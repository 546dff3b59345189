/- The law FnCauchy: sums have places of both less one, but for what holds them (Kneser, on rings of at most 12 places). -/
import Derived.Test.YthccchelemnnfaaKneser
import Derived.Test.YthccchelemnnfaaPSum
namespace Go.Proofs.Ythccchelemnnfaa
open Go.RowKit Go.Shelf
set_option linter.unusedVariables false
theorem law_Cauchy (W : World) (B len cap : Nat) (A : Option Addr) (f : Nat → Nat) (hC : Code W B A len f) (hB : B ≤ W.heap.size) (hlc : len ≤ cap) (hcap : cap ≤ 9223372036854775807) :
    Calls Try.prog 3 #[.slice A len cap] W fun e w' => e = .returned (.bool true) ∧ Below W.heap.size W w' := by
  have HC := Lib.hid (drawSum_any W B len cap A f hC hB hlc hcap)
  clear hC
  by_cases hlen : (1048576 : Int) < (len : Int)
  · go_enter Try.func3, Try.ntmps3
    go_wp2
    go_ret
    exact ⟨rfl, Below.refl _ _⟩
  · go_enter Try.func3, Try.ntmps3
    go_wp2_with fail
    refine HC.out.mono ?_
    rintro e w1 ⟨n, s, t, rfl, hn1, hn2, hs, ht, hb1⟩
    have HB := Lib.hid hb1
    clear hb1 hB hlc hcap
    by_cases hno : NotIn (n : Int) (s : Int) ∨ NotIn (n : Int) (t : Int)
    · have HN := Lib.hid hno
      clear hno
      go_wp2_with fail
      refine (implSum_no n s t _ HN.out).mono ?_
      rintro e w2 ⟨rfl, hb2⟩
      have HB := Lib.hid (HB.out.trans (hb2.mono HB.out.size))
      clear hb2
      go_wp2_with fail
      refine (specSum_no n s t _ HN.out).mono ?_
      rintro e w3 ⟨rfl, rfl⟩
      go_wp2
      go_ret
      exact ⟨rfl, HB.out⟩
    · obtain ⟨m, s', hm, hs', h1, h2, h3⟩ := not_notIn (fun hh => hno (.inl hh))
      obtain ⟨m', t', hm', ht', _, _, h4⟩ := not_notIn (fun hh => hno (.inr hh))
      obtain rfl : n = m := by omega
      obtain rfl : n = m' := by omega
      obtain rfl : s = s' := by omega
      obtain rfl : t = t' := by omega
      clear hno hm hm' hs' ht' hn2 hs ht
      have hsp := fun W => specSum_yes n s t W h1 h2 h3 h4
      rw [sum_comm n t s h1 h4 h3] at hsp
      have him := fun W => implSum_yes n s t W h1 h2 h3 h4
      have HIm := Lib.hid him
      have HSp := Lib.hid hsp
      clear him hsp
      by_cases hs0 : s = 0
      · subst hs0
        generalize sumN n 0 t = o at *
        go_wp2_with fail
        refine (HIm.out _).mono ?_
        rintro e w2 ⟨rfl, hb2⟩
        have HB := Lib.hid (HB.out.trans (hb2.mono HB.out.size))
        clear hb2
        go_wp2_with fail
        refine (HSp.out _).mono ?_
        rintro e w3 ⟨rfl, rfl⟩
        go_wp2
        go_ret
        exact ⟨rfl, HB.out⟩
      · have hsz : ((s : Int) == 0) = false := by simp; omega
        by_cases ht0 : t = 0
        · subst ht0
          generalize sumN n s 0 = o at *
          go_wp2_with fail
          refine (HIm.out _).mono ?_
          rintro e w2 ⟨rfl, hb2⟩
          have HB := Lib.hid (HB.out.trans (hb2.mono HB.out.size))
          clear hb2
          go_wp2_with fail
          refine (HSp.out _).mono ?_
          rintro e w3 ⟨rfl, rfl⟩
          go_wp2
          go_ret
          exact ⟨rfl, HB.out⟩
        · have htz : ((t : Int) == 0) = false := by simp; omega
          have hpw := pow_le n h2
          have hk := kneser n s t h1 h2 h3 h4 hs0 ht0
          unfold Kne at hk
          have hol := sumN_lt n s t
          have hhl := holdsN_lt n (sumN n s t)
          have HHo := Lib.hid (fun W => implHolds_yes n (sumN n s t) W h1 h2 hol)
          have HX := Lib.hid (fun W => implSum_yes n s (holdsN n (sumN n s t)) W h1 h2 h3 hhl)
          have HY := Lib.hid (fun W => implSum_yes n t (holdsN n (sumN n s t)) W h1 h2 h4 hhl)
          have hxl := sumN_lt n s (holdsN n (sumN n s t))
          have hyl := sumN_lt n t (holdsN n (sumN n s t))
          have b1 := size_le n _ h2 hol
          have b2 := size_le n _ h2 hhl
          have b3 := size_le n _ h2 hxl
          have b4 := size_le n _ h2 hyl
          have H1 := Lib.hid (fun W => size_any (sumN n s t) W (by omega))
          have H2 := Lib.hid (fun W => size_any (holdsN n (sumN n s t)) W (by omega))
          have H3 := Lib.hid (fun W => size_any (sumN n s (holdsN n (sumN n s t))) W (by omega))
          have H4 := Lib.hid (fun W => size_any (sumN n t (holdsN n (sumN n s t))) W (by omega))
          generalize sumN n s (holdsN n (sumN n s t)) = x at *
          generalize sumN n t (holdsN n (sumN n s t)) = y at *
          generalize holdsN n (sumN n s t) = h at *
          generalize sumN n s t = o at *
          generalize sizeN o = zo at *
          generalize sizeN h = zh at *
          generalize sizeN x = zx at *
          generalize sizeN y = zy at *
          have e1 : IntKind.i64.wrap ((zx : Int) + (zy : Int)) = (zx : Int) + (zy : Int) := IntWalk.i64_in _ (by omega)
          have e2 : IntKind.i64.wrap ((zx : Int) + (zy : Int) - (zh : Int)) = (zx : Int) + (zy : Int) - (zh : Int) := IntWalk.i64_in _ (by omega)
          have hk' : (zx : Int) + (zy : Int) - (zh : Int) ≤ (zo : Int) := by omega
          clear hk
          go_wp2_with fail
          refine (HIm.out _).mono ?_
          rintro e w2 ⟨rfl, hb2⟩
          have HB := Lib.hid (HB.out.trans (hb2.mono HB.out.size))
          clear hb2
          go_wp2_with fail
          refine (HSp.out _).mono ?_
          rintro e w3 ⟨rfl, rfl⟩
          go_wp2_with fail
          refine (HHo.out _).mono ?_
          rintro e w4 ⟨rfl, hb4⟩
          have HB := Lib.hid (HB.out.trans (hb4.mono HB.out.size))
          clear hb4
          go_wp2_with fail
          refine (HX.out _).mono ?_
          rintro e w5 ⟨rfl, hb5⟩
          have HB := Lib.hid (HB.out.trans (hb5.mono HB.out.size))
          clear hb5
          go_wp2_with fail
          refine (HY.out _).mono ?_
          rintro e w6 ⟨rfl, hb6⟩
          have HB := Lib.hid (HB.out.trans (hb6.mono HB.out.size))
          clear hb6
          go_wp2_with (first | (go_at_call 15; (first | (with_reducible refine (H1.out _).mono ?_) | (with_reducible refine (H3.out _).mono ?_) | (with_reducible refine (H4.out _).mono ?_) | (with_reducible refine (H2.out _).mono ?_)); rintro e w7 ⟨rfl, rfl⟩))
          go_ret
          exact ⟨rfl, HB.out⟩
end Go.Proofs.Ythccchelemnnfaa
