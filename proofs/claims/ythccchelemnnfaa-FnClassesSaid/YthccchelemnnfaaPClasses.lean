/- The law FnClasses: classes are first sets. -/
import Derived.Test.YthccchelemnnfaaPUnits
import Derived.Test.YthccchelemnnfaaClasses
namespace Go.Proofs.Ythccchelemnnfaa
open Go.RowKit Go.Shelf
set_option linter.unusedVariables false
theorem drawClasses_any (W : World) (B len cap : Nat) (A : Option Addr) (f : Nat → Nat) (hC : Code W B A len f) (hB : B ≤ W.heap.size) (hlc : len ≤ cap) (hcap : cap ≤ 9223372036854775807) :
    Calls Try.prog 38 #[.slice A len cap] W (NumPost W 14) := by
  have HC := Lib.hid (open_any W B len cap A f hC hB hlc hcap)
  clear hC
  go_enter Try.func38, Try.ntmps38
  go_wp2_with fail
  refine HC.out.mono ?_
  rintro e w1 ⟨R, A', len', cap', rfl, hR, hl, hRd, hCd, hb1⟩
  have z1 := hb1.size
  have HRd : Hid (Reader w1 B R 0) := Lib.hid ⟨⟨A', len', cap', f, hRd, hCd, hl⟩, by omega⟩
  clear hRd hCd
  go_wp2_with fail
  refine (draw_any w1 B R 0 9 HRd.out (by omega) (by omega) (by omega)).mono ?_
  rintro e w2 ⟨d, rfl, hd, hR2, hA2⟩
  have hd2 := hd (by omega)
  have HR2 := Lib.hid hR2
  have HB2 := Lib.hid (hb1.trans (hA2.below (m := W.heap.size) hR z1))
  have z2 := HB2.out.size
  clear hR2 hA2 hd
  go_wp2_with fail
  refine (draw_any w2 B R (0 + 1) 24 HR2.out (by omega) (by omega) (by omega)).mono ?_
  rintro e w3 ⟨c, rfl, hc, hR3, hA3⟩
  have hc3 := hc (by omega)
  have HB3 := Lib.hid (HB2.out.trans (hA3.below (m := W.heap.size) hR z2))
  clear hR3 hA3 hc
  by_cases hc23 : c = 23
  · subst hc23
    go_wp2
    go_ret
    exact ⟨d + 5, by go_num, by omega, HB3.out⟩
  · have hq3 : (c : Int) / 23 = 0 := by omega
    have hq4 : Int.tdiv (c : Int) 23 = 0 := by rw [Int.tdiv_eq_ediv_of_nonneg (by omega)]; exact hq3
    go_wp2
    go_ret
    exact ⟨d, by go_num, by omega, HB3.out⟩
theorem cntF_pos (n k : Nat) (h1 : 1 ≤ n) (hk : 1 ≤ k) : 1 ≤ cntF n k := by
  obtain ⟨d, rfl⟩ : ∃ d, k = 1 + d := ⟨k - 1, by omega⟩
  clear hk
  induction d with
  | zero =>
    have h := first_self_le n 0 h1 (Nat.two_pow_pos n)
    have h0 : firstN n 0 = 0 := by omega
    show 1 ≤ cntF n (0 + 1)
    rw [cntF_yes n 0 h0]
    omega
  | succ d ih =>
    by_cases h : firstN n (1 + d) = 1 + d
    · rw [← Nat.add_assoc, cntF_yes n _ h]; omega
    · rw [← Nat.add_assoc, cntF_no n _ h]; exact ih
theorem law_Classes (W : World) (B len cap : Nat) (A : Option Addr) (f : Nat → Nat) (hC : Code W B A len f) (hB : B ≤ W.heap.size) (hlc : len ≤ cap) (hcap : cap ≤ 9223372036854775807) :
    Calls Try.prog 10 #[.slice A len cap] W fun e w' => e = .returned (.bool true) ∧ Below W.heap.size W w' := by
  have HC := Lib.hid (drawClasses_any W B len cap A f hC hB hlc hcap)
  clear hC
  by_cases hlen : (1048576 : Int) < (len : Int)
  · go_enter Try.func10, Try.ntmps10
    go_wp2
    go_ret
    exact ⟨rfl, Below.refl _ _⟩
  · go_enter Try.func10, Try.ntmps10
    go_wp2_with fail
    refine HC.out.mono ?_
    rintro e w1 ⟨n, rfl, hn, hb1⟩
    have z1 := hb1.size
    by_cases hno : 1 ≤ (n : Int) ∧ (n : Int) ≤ 12
    · have h1 : 1 ≤ n := by omega
      have h2 : n ≤ 12 := by omega
      have hpw := pow_le n h2
      have hp1 := Nat.two_pow_pos n
      have hcp := cntF_pos n (2 ^ n) h1 hp1
      have hcl := cntF_le n (2 ^ n)
      have HIm := Lib.hid (fun W => implClasses_yes n W h1 h2)
      have HSp := Lib.hid (fun W => specClasses_yes n W h1 h2)
      have HF : Hid (∀ s : Nat, s < 2 ^ n → ∀ W, Calls Try.prog 36 #[.int .i64 (n:Int), .int .i64 (s:Int)] W fun e w' => e = .returned (.tuple #[.int .i64 ((firstN n s : Nat) : Int), .bool true]) ∧ Below W.heap.size W w') :=
        Lib.hid (fun s hs W => implFirst_yes n s W h1 h2 hs)
      have hw := wrap_pow n (by omega)
      clear hno
      generalize hN : 2 ^ n = N at *
      have HN := Lib.hid hN
      clear hN
      obtain ⟨o, ho⟩ : ∃ o, cntF n N = o := ⟨_, rfl⟩
      have HO := Lib.hid ho
      rw [ho] at hcp hcl HIm HSp
      clear ho
      go_wp2_with fail
      refine (HIm.out _).mono ?_
      rintro e w2 ⟨rfl, hb2⟩
      have HB2 := Lib.hid (hb1.trans (hb2.mono z1))
      clear hb1 hb2
      go_wp2_with fail
      refine (HSp.out _).mono ?_
      rintro e w3 ⟨rfl, hb3⟩
      have HB2 := Lib.hid (HB2.out.trans (hb3.mono HB2.out.size))
      clear hb3
      by_cases h8 : (8 : Int) < (n : Int)
      · have hop : 0 < o := hcp
        go_wp2
        go_ret
        exact ⟨rfl, HB2.out⟩
      · go_wp2
        go_loopw [8, 9, 10, 11] (fun u v x y wr => ∃ k : Nat, k ≤ N ∧ u = .int .i64 ((cntF n k : Nat) : Int) ∧ v = .int .i64 (k : Int) ∧ Below W.heap.size W wr) (fun _ v _ _ _ => N - (intOf v).toNat)
        case atStart => exact ⟨0, Nat.zero_le _, rfl, rfl, HB2.out⟩
        case round =>
          obtain ⟨k, hk, rfl, rfl, hB3⟩ := hrel
          have HB3 := Lib.hid hB3
          have z3 := hB3.size
          clear hB3
          by_cases hlt : k < N
          · have hT := HF.out k hlt
            have hck := cntF_le n k
            have hcy := cntF_yes n k
            have hcn := cntF_no n k
            by_cases hf : firstN n k = k
            · have HU := Lib.hid (hcy hf)
              rw [hf] at hT
              have HT := Lib.hid hT
              clear hcy hcn hT hf
              generalize cntF n k = c at *
              go_wp2_with fail
              refine (HT.out _).mono ?_
              rintro e w4 ⟨rfl, hb4⟩
              have HB4 := Lib.hid (HB3.out.trans (hb4.mono z3))
              clear hb4
              go_wp2
              go_roundw
              case rel => exact ⟨k + 1, by omega, by rw [HU.out]; go_num, by go_num, HB4.out⟩
              case measure => simp [intOf]; omega
            · have HU := Lib.hid (hcn hf)
              generalize firstN n k = q at *
              have hqz : ((q : Int) == (k : Int)) = false := by simp; omega
              have HT := Lib.hid hT
              clear hcy hcn hT
              generalize cntF n k = c at *
              go_wp2_with fail
              refine (HT.out _).mono ?_
              rintro e w4 ⟨rfl, hb4⟩
              have HB4 := Lib.hid (HB3.out.trans (hb4.mono z3))
              clear hb4
              go_wp2
              go_roundw
              case rel => exact ⟨k + 1, by omega, by rw [HU.out], by go_num, HB4.out⟩
              case measure => simp [intOf]; omega
          · have e : k = N := by omega
            subst e
            rw [HO.out]
            go_wp2
            go_ret
            exact ⟨rfl, HB3.out⟩
    · have HN := Lib.hid hno
      clear hno
      go_wp2_with fail
      refine (implClasses_no n _ HN.out).mono ?_
      rintro e w2 ⟨rfl, hb2⟩
      go_wp2_with fail
      refine (specClasses_no n _ HN.out).mono ?_
      rintro e w3 ⟨rfl, rfl⟩
      go_wp2
      go_ret
      exact ⟨rfl, hb1.trans (hb2.mono z1)⟩
end Go.Proofs.Ythccchelemnnfaa
