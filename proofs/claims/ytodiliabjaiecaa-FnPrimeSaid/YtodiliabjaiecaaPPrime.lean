/- The law FnPrime: where n is prime, the sum of two sets that aren't empty is every place, or has at least the places of both, less one. -/
import Derived.Test.YtodiliabjaiecaaPSum
import Derived.Test.YtodiliabjaiecaaDavenport
namespace Go.Proofs.Ytodiliabjaiecaa
open Go.RowKit Go.Shelf
set_option linter.unusedVariables false
theorem law_Prime (W : World) (B len cap : Nat) (A : Option Addr) (f : Nat → Nat) (hC : Code W B A len f) (hB : B ≤ W.heap.size) (hlc : len ≤ cap) (hcap : cap ≤ 9223372036854775807) :
    Calls Try.prog 16 #[.slice A len cap] W fun e w' => e = .returned (.bool true) ∧ Below W.heap.size W w' := by
  have HC := Lib.hid (drawSum_any W B len cap A f hC hB hlc hcap)
  clear hC
  by_cases hlen : (1048576 : Int) < (len : Int)
  · go_enter Try.func16, Try.ntmps16
    go_wp2
    go_ret
    exact ⟨rfl, Below.refl _ _⟩
  · go_enter Try.func16, Try.ntmps16
    go_wp2_with fail
    refine HC.out.mono ?_
    rintro e w1 ⟨n, s, t, rfl, hn1, hn2, hs, ht, hb1⟩
    have z1 := hb1.size
    by_cases hno : NotIn (n : Int) (s : Int) ∨ NotIn (n : Int) (t : Int)
    · have HN := Lib.hid hno
      clear hno
      go_wp2_with fail
      refine (implSum_no n s t _ HN.out).mono ?_
      rintro e w2 ⟨rfl, hb2⟩
      go_wp2_with fail
      refine (specSum_no n s t _ HN.out).mono ?_
      rintro e w3 ⟨rfl, rfl⟩
      go_wp2
      go_ret
      exact ⟨rfl, hb1.trans (hb2.mono z1)⟩
    · obtain ⟨m, s', hm, hs', h1, h2, h3⟩ := not_notIn (fun hh => hno (.inl hh))
      obtain ⟨m', t', hm', ht', _, _, h4⟩ := not_notIn (fun hh => hno (.inr hh))
      obtain rfl : n = m := by omega
      obtain rfl : n = m' := by omega
      obtain rfl : s = s' := by omega
      obtain rfl : t = t' := by omega
      clear hno hm hm' hs' ht' hn2
      have hsp := fun W => specSum_yes n s t W h1 h2 h3 h4
      have him := fun W => implSum_yes n s t W h1 h2 h3 h4
      have hcm := sum_comm n s t h1 h3 h4
      rw [← hcm] at hsp
      have hso := sumN_lt n s t
      have hpw := pow_le n h2
      have HD := Lib.hid (fun hP (e1 : s ≠ 0) (e2 : t ≠ 0) => davenport n h1 h2 hP 40 s t h3 h4 e1 e2 (popF_le 40 t))
      clear hcm
      have k1 := size_any (sumN n s t)
      have k2 := size_any s
      have k3 := size_any t
      have l1 := popF_le 40 s
      have l2 := popF_le 40 t
      have l3 := popF_le 40 (sumN n s t)
      change sizeN s ≤ 40 at l1
      change sizeN t ≤ 40 at l2
      change sizeN (sumN n s t) ≤ 40 at l3
      have HSp := Lib.hid hsp
      have HIm := Lib.hid him
      clear hsp him
      generalize sumN n s t = o at *
      have K1 := Lib.hid (fun W => k1 W (by omega))
      have K2 := Lib.hid (fun W => k2 W (by omega))
      have K3 := Lib.hid (fun W => k3 W (by omega))
      clear k1 k2 k3
      generalize sizeN s = a at *
      generalize sizeN t = b at *
      generalize sizeN o = c at *
      go_wp2_with fail
      refine (HIm.out _).mono ?_
      rintro e w2 ⟨rfl, hb2⟩
      have z2 := hb2.size
      go_wp2_with fail
      refine (HSp.out _).mono ?_
      rintro e w3 ⟨rfl, rfl⟩
      go_wp2
      go_loop [10] (fun u => ∃ d : Nat, 2 ≤ d ∧ d ≤ n + 2 ∧ u = .int .i64 (d : Int) ∧ Hid (∀ e, 2 ≤ e → e < d → n % e ≠ 0)) (fun u => n + 2 - (intOf u).toNat)
      case atStart => exact ⟨2, Nat.le_refl _, by omega, rfl, Lib.hid (fun e g1 g2 => by omega)⟩
      case round =>
        obtain ⟨d, hd, hdn, rfl, HP⟩ := hrel
        by_cases hlt : d < n
        · have hq1 : ((d : Int) == 0) = false := by simp; omega
          have hq2 : ((d : Int) != 0) = true := by simp; omega
          have hq3 : ((d : Int) = 0) = False := by simp; omega
          have hr1 : ((n : Int) % (d : Int)) = ((n % d : Nat) : Int) := by simp
          have hr2 : Int.tmod (n : Int) (d : Int) = ((n % d : Nat) : Int) := by rw [Int.tmod_eq_emod_of_nonneg (by omega)]; exact hr1
          have hlr : n % d < d := Nat.mod_lt _ (by omega)
          by_cases hdv : n % d = 0
          · rw [hdv] at hr1 hr2
            clear hdv hlr
            go_wp2
            go_ret
            exact ⟨rfl, hb1.trans (hb2.mono z1)⟩
          · have HP2 : Hid (∀ e, 2 ≤ e → e < d + 1 → n % e ≠ 0) := Lib.hid (fun e g1 g2 => by
              by_cases g3 : e = d
              · rw [g3]; exact hdv
              · exact HP.out e g1 (by omega))
            obtain ⟨r, hr⟩ : ∃ r, n % d = r := ⟨_, rfl⟩
            rw [hr] at hr1 hr2 hlr hdv
            clear hr
            have hdq : ((r : Int) == 0) = false := by simp; omega
            go_wp2
            go_round
            case rel => exact ⟨d + 1, by omega, by omega, by go_num, HP2⟩
            case measure => simp [intOf]; omega
        · have hP : Prim n := fun e g1 g2 => HP.out e g2 (by omega)
          have HD2 := fun e1 e2 => HD.out hP e1 e2
          clear HD
          by_cases e1 : s = 0
          · subst e1
            clear HD2
            go_wp2
            go_ret
            exact ⟨rfl, hb1.trans (hb2.mono z1)⟩
          · have hsq : ((s : Int) == 0) = false := by simp; omega
            by_cases e2 : t = 0
            · subst e2
              clear HD2
              go_wp2
              go_ret
              exact ⟨rfl, hb1.trans (hb2.mono z1)⟩
            · have htq : ((t : Int) == 0) = false := by simp; omega
              have hD := HD2 e1 e2
              clear HD2
              by_cases hcn : c = n
              · subst hcn
                clear hD
                go_wp2_with fail
                refine (K1.out _).mono ?_
                rintro e w5 ⟨rfl, rfl⟩
                go_wp2
                go_ret
                exact ⟨rfl, hb1.trans (hb2.mono z1)⟩
              · have hcq : ((c : Int) == (n : Int)) = false := by simp; omega
                have hge : (a : Int) + (b : Int) - 1 ≤ (c : Int) := by omega
                clear hD
                go_wp2_with fail
                refine (K1.out _).mono ?_
                rintro e w5 ⟨rfl, rfl⟩
                go_wp2_with fail
                refine (K1.out _).mono ?_
                rintro e w6 ⟨rfl, rfl⟩
                go_wp2_with fail
                refine (K2.out _).mono ?_
                rintro e w7 ⟨rfl, rfl⟩
                go_wp2_with fail
                refine (K3.out _).mono ?_
                rintro e w8 ⟨rfl, rfl⟩
                go_wp2
                go_ret
                exact ⟨rfl, hb1.trans (hb2.mono z1)⟩
end Go.Proofs.Ytodiliabjaiecaa
