/- The law FnTurn: turns by units keep sizes, and others no more. -/
import Derived.Test.YtodiliabjaiecaaPShift
import Derived.Test.YtodiliabjaiecaaTurnM
namespace Go.Proofs.Ytodiliabjaiecaa
open Go.RowKit Go.Shelf
set_option linter.unusedVariables false
theorem drawTurn_any (W : World) (B len cap : Nat) (A : Option Addr) (f : Nat → Nat) (hC : Code W B A len f) (hB : B ≤ W.heap.size) (hlc : len ≤ cap) (hcap : cap ≤ 9223372036854775807) :
    Calls Try.prog 25 #[.slice A len cap] W (MovePost W) := by
  have HC := Lib.hid (drawShift_any W B len cap A f hC hB hlc hcap)
  clear hC
  go_enter Try.func25, Try.ntmps25
  go_wp2_with fail
  refine HC.out.mono ?_
  rintro e w1 ⟨n, s, k, rfl, hn1, hn2, hs, hk1, hk2, hb⟩
  go_wp2
  go_ret3
  exact ⟨n, s, k, rfl, hn1, hn2, hs, hk1, hk2, hb⟩
theorem divisor_any (a b : Nat) (w : World) (ha : a < 2 ^ 40) (hb : b < 2 ^ 40) :
    Calls Try.prog 28 #[.int .i64 (a:Int), .int .i64 (b:Int)] w fun e w' => e = .returned (.int .i64 ((Nat.gcd a b : Nat) : Int)) ∧ w = w' := by
  go_enter Try.func28, Try.ntmps28
  go_wp2
  go_loop [0, 1] (fun u v => ∃ x y : Nat, x < 2 ^ 40 ∧ y < 2 ^ 40 ∧ Hid (Nat.gcd x y = Nat.gcd a b) ∧ u = .int .i64 (x : Int) ∧ v = .int .i64 (y : Int)) (fun _ v => (intOf v).toNat)
  case atStart => exact ⟨a, b, ha, hb, rfl, rfl, rfl⟩
  case round =>
    obtain ⟨x, y, hx, hy, hg, rfl, rfl⟩ := hrel
    by_cases h0 : y = 0
    · subst h0
      go_wp2
      go_ret
      exact ⟨ret_int (by rw [← hg.out, Nat.gcd_zero_right]), rfl⟩
    · have hp : 0 < y := by omega
      have hlt : x % y < y := Nat.mod_lt _ hp
      have hne : ((y : Int) == 0) = false := by simp; omega
      have hne2 : ((y : Int) != 0) = true := by simp; omega
      have hz : ((y:Int) = 0) = False := by simp; omega
      have hS := Lib.hid (gcd_step x y h0)
      clear h0
      go_wp2
      go_round
      case rel => exact ⟨y, x % y, hy, by omega, Lib.hid (by rw [hS.out, hg.out]), rfl, by simp⟩
      case measure => simp [intOf]; omega
theorem law_Turn (W : World) (B len cap : Nat) (A : Option Addr) (f : Nat → Nat) (hC : Code W B A len f) (hB : B ≤ W.heap.size) (hlc : len ≤ cap) (hcap : cap ≤ 9223372036854775807) :
    Calls Try.prog 5 #[.slice A len cap] W fun e w' => e = .returned (.bool true) ∧ Below W.heap.size W w' := by
  have HC := Lib.hid (drawTurn_any W B len cap A f hC hB hlc hcap)
  clear hC
  by_cases hlen : (1048576 : Int) < (len : Int)
  · go_enter Try.func5, Try.ntmps5
    go_wp2
    go_ret
    exact ⟨rfl, Below.refl _ _⟩
  · go_enter Try.func5, Try.ntmps5
    go_wp2_with fail
    refine HC.out.mono ?_
    rintro e w1 ⟨n, s, k, rfl, hn1, hn2, hs, hk1, hk2, hb1⟩
    have z1 := hb1.size
    by_cases hno : NotIn (n : Int) (s : Int)
    · have HN := Lib.hid hno
      clear hno
      go_wp2_with fail
      refine (implTurn_no n s k _ HN.out).mono ?_
      rintro e w2 ⟨rfl, hb2⟩
      go_wp2_with fail
      refine (specTurn_no n s k _ HN.out).mono ?_
      rintro e w3 ⟨rfl, rfl⟩
      go_wp2
      go_ret
      exact ⟨rfl, hb1.trans (hb2.mono z1)⟩
    · obtain ⟨m, s', hm, hs', h1, h2, h3⟩ := not_notIn hno
      obtain rfl : n = m := by omega
      obtain rfl : s = s' := by omega
      clear hno hm hs' hn2
      have hpw := pow_le n h2
      by_cases hk : -100 ≤ k ∧ k ≤ 100
      · have hso := turnN_lt n s k h1
        have him := fun W => implTurn_yes n s k W h1 h2 h3 hk.1 hk.2
        have hsp := fun W => specTurn_yes n s k W h1 h2 h3 hk.1 hk.2
        have k1 := size_any (turnN n s k)
        have k2 := size_any s
        have hle := size_turn_le n s k h1 h2 h3
        have hfew := turn_few n s k h1 h2 h3
        have l1 := popF_le 40 s
        change sizeN s ≤ 40 at l1
        obtain ⟨a, ha, hak⟩ : ∃ a : Nat, a ≤ 100 ∧ (k = (a : Int) ∨ (0 < a ∧ k = -(a : Int))) := ⟨k.natAbs, by omega, by omega⟩
        have hun : Nat.gcd a n = 1 → sizeN (turnN n s k) = sizeN s := fun hg => turn_unit n s k h1 h2 h3 (by
          have g := gcd_rest n a h1 h2 ha hg
          rcases hak with rfl | ⟨_, rfl⟩
          · exact g.1
          · exact g.2)
        have hdv := fun W => divisor_any a n W (by omega) (by omega)
        have HIm := Lib.hid him
        have HSp := Lib.hid hsp
        have HDv := Lib.hid hdv
        have K1 := Lib.hid (fun W => k1 W (by omega))
        have K2 := Lib.hid (fun W => k2 W (by omega))
        clear him hsp k1 k2 hdv hk
        generalize turnN n s k = o at *
        generalize sizeN o = c at *
        generalize sizeN s = b at *
        generalize Nat.gcd a n = g at *
        have HF := Lib.hid hfew
        have HU := Lib.hid hun
        clear hfew hun
        rcases hak with rfl | ⟨ha0, rfl⟩
        all_goals
          go_wp2_with fail
          refine (HIm.out _).mono ?_
          rintro e w2 ⟨rfl, hb2⟩
          have z2 := hb2.size
          go_wp2_with fail
          refine (HSp.out _).mono ?_
          rintro e w3 ⟨rfl, rfl⟩
          go_wp2_with fail
          refine (HDv.out _).mono ?_
          rintro e w4 ⟨rfl, rfl⟩
          by_cases hg : g = 1
          · have hcb := HU.out hg
            subst hg
            subst hcb
            go_wp2_with fail
            refine (K1.out _).mono ?_
            rintro e w5 ⟨rfl, rfl⟩
            go_wp2_with fail
            refine (K2.out _).mono ?_
            rintro e w6 ⟨rfl, rfl⟩
            go_wp2_with fail
            refine (K1.out _).mono ?_
            rintro e w7 ⟨rfl, rfl⟩
            go_wp2_with fail
            refine (K2.out _).mono ?_
            rintro e w8 ⟨rfl, rfl⟩
            go_wp2
            go_ret
            exact ⟨rfl, hb1.trans (hb2.mono z1)⟩
          · have hgq : ((g : Int) == 1) = false := by simp; omega
            by_cases hb : 1 < b
            · go_wp2_with fail
              refine (K1.out _).mono ?_
              rintro e w5 ⟨rfl, rfl⟩
              go_wp2_with fail
              refine (K2.out _).mono ?_
              rintro e w6 ⟨rfl, rfl⟩
              go_wp2_with fail
              refine (K2.out _).mono ?_
              rintro e w7 ⟨rfl, rfl⟩
              go_wp2
              go_ret
              exact ⟨rfl, hb1.trans (hb2.mono z1)⟩
            · have hcb := HF.out (by omega)
              subst hcb
              go_wp2_with fail
              refine (K1.out _).mono ?_
              rintro e w5 ⟨rfl, rfl⟩
              go_wp2_with fail
              refine (K2.out _).mono ?_
              rintro e w6 ⟨rfl, rfl⟩
              go_wp2_with fail
              refine (K2.out _).mono ?_
              rintro e w7 ⟨rfl, rfl⟩
              go_wp2_with fail
              refine (K1.out _).mono ?_
              rintro e w8 ⟨rfl, rfl⟩
              go_wp2_with fail
              refine (K2.out _).mono ?_
              rintro e w9 ⟨rfl, rfl⟩
              go_wp2
              go_ret
              exact ⟨rfl, hb1.trans (hb2.mono z1)⟩
      · have HK := Lib.hid hk
        clear hk
        go_wp2_with fail
        refine (implTurn_move n s k _ h1 h2 h3 HK.out).mono ?_
        rintro e w2 ⟨rfl, hb2⟩
        go_wp2_with fail
        refine (specTurn_move n s k _ h1 h2 h3 HK.out).mono ?_
        rintro e w3 ⟨rfl, rfl⟩
        go_wp2
        go_ret
        exact ⟨rfl, hb1.trans (hb2.mono z1)⟩
end Go.Proofs.Ytodiliabjaiecaa
