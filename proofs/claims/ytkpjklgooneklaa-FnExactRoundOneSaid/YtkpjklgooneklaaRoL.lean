/- The exact laws of chapter 5 that reach no goroutine. -/
import Derived.Test.YtkpjklgooneklaaRoB
import Derived.Test.YtkpjklgooneklaaRoF
import Derived.Test.YtkpjklgooneklaaRndX
import Derived.Test.YtkpjklgooneklaaRndY
namespace Go.Proofs.Ytkpjklgooneklaa
open Go.RowKit Go.Shelf
set_option linter.unusedVariables false
theorem same_below {F : Nat} {xs : Array Value} {w : World} {v : Ending} (h : Calls Try.prog F xs w fun e w' => e = v ∧ w = w') : Calls Try.prog F xs w fun e w' => e = v ∧ Below w.heap.size w w' :=
  h.mono fun e w' ⟨he, hw⟩ => ⟨he, hw ▸ Below.refl _ _⟩
theorem law_RoundIs (a0 a1 : Int) (W : World) (B len cap : Nat) (A : Option Addr) (z : Nat → Int) (hC : Came W B A len z) (hB : B ≤ W.heap.size) (hlc : len ≤ cap) (hcap : cap ≤ 9223372036854775807) :
    Calls Try.prog 3 #[.int .i64 a0, .int .i64 a1, .slice A len cap] W fun e w' => e = .returned (.bool true) ∧ Below W.heap.size W w' := by
  by_cases h : NoStep a0 a1
  · exact lawL_RoundIs a0 a1 W B len cap A z hC hB hlc hcap false (fun sv W b _ => same_below (specRoundIs_no a0 a1 sv W h)) (fun sv W b _ => implRoundIs_no a0 a1 sv W h)
  · obtain ⟨m, t, rfl, rfl, h1, h2, h3, h4⟩ := not_noStep h
    exact lawL_RoundIs m t W B len cap A z hC hB hlc hcap (isRndB m t (tabI len z)) (fun sv W b hI => specRoundIs_yes m t sv _ b W h1 h2 h3 h4 hI) (fun sv W b hI => implRoundIs_yes m t sv _ b W h1 h2 h3 h4 hI)
theorem law_RoundWord (a0 : Int) (W : World) (B len cap : Nat) (A : Option Addr) (z : Nat → Int) (hC : Came W B A len z) (hB : B ≤ W.heap.size) (hlc : len ≤ cap) (hcap : cap ≤ 9223372036854775807) :
    Calls Try.prog 6 #[.int .i64 a0, .slice A len cap] W fun e w' => e = .returned (.bool true) ∧ Below W.heap.size W w' := by
  by_cases h : 1 ≤ a0 ∧ a0 ≤ 12
  · obtain ⟨m, rfl⟩ : ∃ m : Nat, a0 = (m : Int) := ⟨a0.toNat, by omega⟩
    refine lawL_RoundWord m W B len cap A z hC hB hlc hcap (if isRndB m (butN m) (tabI len z) then rwordN m (tabI len z) m else []) (isRndB m (butN m) (tabI len z)) ?_
      (fun sv W b hI => specRoundWord_any m sv _ b W (by omega) (by omega) hI) (fun sv W b hI => implRoundWord_any m sv _ b W (by omega) (by omega) hI)
    split
    · rw [rword_len]; omega
    · simp
  · exact lawL_RoundWord a0 W B len cap A z hC hB hlc hcap [] false (by simp) (fun sv W b _ => specRoundWord_no a0 sv W h) (fun sv W b _ => implRoundWord_no a0 sv W h)
theorem law_RoundBy (a0 : Int) (W : World) (B len cap : Nat) (A : Option Addr) (z : Nat → Int) (hC : Came W B A len z) (hB : B ≤ W.heap.size) (hlc : len ≤ cap) (hcap : cap ≤ 9223372036854775807) :
    Calls Try.prog 7 #[.int .i64 a0, .slice A len cap] W fun e w' => e = .returned (.bool true) ∧ Below W.heap.size W w' := by
  by_cases h : 1 ≤ a0 ∧ a0 ≤ 12
  · obtain ⟨m, rfl⟩ : ∃ m : Nat, a0 = (m : Int) := ⟨a0.toNat, by omega⟩
    refine lawL_RoundBy m W B len cap A z hC hB hlc hcap (byRes m (tabI len z)) (okByB m (tabI len z)) ?_
      (fun sv W b hI => specRoundBy_any m sv _ b W (by omega) (by omega) hI) (fun sv W b hI => implRoundBy_any m sv _ b W (by omega) (by omega) hI)
    unfold byRes
    split
    · rw [by_len]; omega
    · simp
  · exact lawL_RoundBy a0 W B len cap A z hC hB hlc hcap [] false (by simp) (fun sv W b _ => specRoundBy_no a0 sv W h) (fun sv W b _ => implRoundBy_no a0 sv W h)
theorem law_RoundTwo (n a b : Int) (w : World) :
    Calls Try.prog 4 #[.int .i64 n, .int .i64 a, .int .i64 b] w fun e w' => e = .returned (.bool true) ∧ Below w.heap.size w w' := by
  by_cases h : NoTwo n a b
  · have HI := Lib.hid (fun W => implRoundTwo_no n a b W h)
    have HS := Lib.hid (fun W => specRoundTwo_no n a b W h)
    clear h
    go_enter Try.func4, Try.ntmps4
    go_wp2_with fail
    refine (HS.out _).mono ?_
    rintro e w1 ⟨rfl, rfl⟩
    go_wp2_with fail
    refine (HI.out _).mono ?_
    rintro e w1 ⟨rfl, hb⟩
    go_wp2
    go_ret
    exact ⟨rfl, hb⟩
  · obtain ⟨m, x, y, rfl, rfl, rfl, h1, h2, h3, h4, h5, h6, h7⟩ := not_noTwo h
    have hs := fun W => specRoundTwo_yes m x y W h1 h2 h3 h4 h5 h6 h7
    have hi := fun W => implRoundTwo_yes m x y W h1 h2 h3 h4 h5 h6 h7
    generalize twoN m x y = q at hs hi
    have HS := Lib.hid hs
    have HI := Lib.hid hi
    clear h hs hi
    cases q <;>
    · go_enter Try.func4, Try.ntmps4
      go_wp2_with fail
      refine (HS.out _).mono ?_
      rintro e w1 ⟨rfl, hb1⟩
      go_wp2_with fail
      refine (HI.out _).mono ?_
      rintro e w2 ⟨rfl, hb⟩
      go_wp2
      go_ret
      exact ⟨rfl, hb1.trans (hb.mono hb1.size)⟩
theorem law_RoundOne (n k : Int) (w : World) :
    Calls Try.prog 5 #[.int .i64 n, .int .i64 k] w fun e w' => e = .returned (.bool true) ∧ Below w.heap.size w w' := by
  by_cases h : NoOne n k
  · have HI := Lib.hid (fun W => implRoundOne_no n k W h)
    have HS := Lib.hid (fun W => specRoundOne_no n k W h)
    clear h
    go_enter Try.func5, Try.ntmps5
    go_wp2_with fail
    refine (HS.out _).mono ?_
    rintro e w1 ⟨rfl, rfl⟩
    go_wp2_with fail
    refine (HI.out _).mono ?_
    rintro e w1 ⟨rfl, hb⟩
    go_wp2
    go_ret
    exact ⟨rfl, hb⟩
  · have hy : 1 ≤ n ∧ n ≤ 12 ∧ 1 ≤ k ∧ k ≤ n - 1 := Decidable.byContradiction h
    obtain ⟨m, rfl⟩ : ∃ m : Nat, n = (m : Int) := ⟨n.toNat, by omega⟩
    obtain ⟨j, rfl⟩ : ∃ j : Nat, k = (j : Int) := ⟨k.toNat, by omega⟩
    have HS := Lib.hid (fun W => specRoundOne_yes m j W (by omega) (by omega) (by omega) (by omega))
    have HI := Lib.hid (fun W => implRoundOne_yes m j W (by omega) (by omega) (by omega) (by omega))
    generalize m / Nat.gcd m j = q at *
    clear h hy
    go_enter Try.func5, Try.ntmps5
    go_wp2_with fail
    refine (HS.out _).mono ?_
    rintro e w1 ⟨rfl, rfl⟩
    go_wp2_with fail
    refine (HI.out _).mono ?_
    rintro e w2 ⟨rfl, hb⟩
    go_wp2
    go_ret
    exact ⟨rfl, hb⟩
end Go.Proofs.Ytkpjklgooneklaa
