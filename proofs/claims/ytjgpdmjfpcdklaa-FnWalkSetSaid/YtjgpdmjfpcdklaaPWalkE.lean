/- The law FnWalkSet: sets of walks are sums. -/
import Derived.Test.YtjgpdmjfpcdklaaDrawV
import Derived.Test.YtjgpdmjfpcdklaaArrG
import Derived.Test.YtjgpdmjfpcdklaaWalkC
import Derived.Test.YtjgpdmjfpcdklaaWalkH
import Derived.Test.YtjgpdmjfpcdklaaGB
namespace Go.Proofs.Ytjgpdmjfpcdklaa
open Go.RowKit Go.Shelf
set_option linter.unusedVariables false
set_option maxRecDepth 20000 in
set_option maxHeartbeats 2000000 in
theorem law_PWalkSet (W : World) (B len cap : Nat) (A : Option Addr) (f : Nat → Nat) (hC : Code W B A len f) (hB : B ≤ W.heap.size) (hlc : len ≤ cap) (hcap : cap ≤ 9223372036854775807) :
    Calls Try.prog 7 #[.slice A len cap] W fun e w' => e = .returned (.bool true) ∧ Below W.heap.size W w' := by
  have HC := Lib.hid (drawWalkSet_any W B len cap A f hC hB hlc hcap)
  clear hC
  by_cases hlen : (1048576 : Int) < (len : Int)
  · go_enter Try.func7, Try.ntmps7
    go_wp2
    go_ret
    exact ⟨rfl, Below.refl _ _⟩
  go_enter Try.func7, Try.ntmps7
  go_wp2_with fail
  refine HC.out.mono ?_
  rintro e w1 ⟨n, s, k, rfl, h1, h2, h3, hk1, hk2, hb1⟩
  have HB := Lib.hid hb1
  clear hb1 hB hlc hcap
  by_cases hbad : NoStep (n : Int) (s : Int) ∨ ¬ (0 ≤ k ∧ k ≤ 100)
  · have HI := Lib.hid (fun W => implWalkSet_bad' n s k W hbad)
    have key : ∀ W, Calls Try.prog 30 #[.int .i64 (n:Int), .int .i64 (s:Int), .int .i64 k] W fun e w' => e = .returned (.tuple #[.int .i64 0, .bool false]) ∧ W = w' := fun W => by
      by_cases hno : NoStep (n : Int) (s : Int)
      · exact specWalkSet_no n s k W hno
      · have h4 : s.testBit 0 = false := by
          obtain ⟨n', s', hn', hs', _, _, _, h4⟩ := not_noStep hno
          obtain rfl : s = s' := by omega
          exact h4
        exact specWalkSet_out n s k W h1 h2 h3 h4 (hbad.resolve_left hno)
    have HS := Lib.hid key
    clear key hbad
    go_wp2_with fail
    refine (HI.out _).mono ?_
    rintro e w2 ⟨rfl, hb2⟩
    have HB := Lib.hid (HB.out.trans (hb2.mono HB.out.size))
    clear hb2
    go_wp2_with fail
    refine (HS.out _).mono ?_
    rintro e w3 ⟨rfl, rfl⟩
    go_wp2
    go_ret
    exact ⟨rfl, HB.out⟩
  have hno : ¬ NoStep (n : Int) (s : Int) := fun h => hbad (.inl h)
  have hk3 : 0 ≤ k ∧ k ≤ 100 := Decidable.byContradiction fun h => hbad (.inr h)
  have h4 : s.testBit 0 = false := by
    obtain ⟨n', s', hn', hs', _, _, _, h4⟩ := not_noStep hno
    obtain rfl : s = s' := by omega
    exact h4
  obtain ⟨k, rfl⟩ : ∃ m : Nat, k = (m : Int) := ⟨k.toNat, by omega⟩
  have hkM : k ≤ 100 := by omega
  have HI := Lib.hid (fun W => implWalkSet_yes n s k W h1 h2 h3 h4 hkM)
  have HS := Lib.hid (fun W => specWalkSet_yes n s k W h1 h2 h3 h4 hkM)
  by_cases hk0 : k = 0
  · subst hk0
    have e : wsetN n s 0 = 1 := rfl
    rw [e] at HI HS
    clear hbad hno hk1 hk2 hk3 h3 h4 e
    go_wp2_with fail
    refine (HI.out _).mono ?_
    rintro e w2 ⟨rfl, hb2⟩
    have HB := Lib.hid (HB.out.trans (hb2.mono HB.out.size))
    clear hb2
    go_wp2_with fail
    refine (HS.out _).mono ?_
    rintro e w3 ⟨rfl, rfl⟩
    go_wp2
    go_ret
    exact ⟨rfl, HB.out⟩
  obtain ⟨j, rfl⟩ : ∃ j, k = j + 1 := ⟨k - 1, by omega⟩
  have HX := Lib.hid (fun W => implWalkSet_yes n s j W h1 h2 h3 h4 (by omega))
  have hy := fun W => implSum_yes n (wsetN n s j) s W h1 h2 (wset_lt n s j h1) h3
  rw [sum_comm n _ s h1 (wset_lt n s j h1) h3] at hy
  have HY : Hid (∀ W, Calls Try.prog 31 #[.int .i64 (n:Int), .int .i64 ((wsetN n s j : Nat) : Int), .int .i64 (s:Int)] W fun e w' => e = .returned (.tuple #[.int .i64 ((wsetN n s (j + 1) : Nat) : Int), .bool true]) ∧ Below W.heap.size W w') := Lib.hid hy
  have hw : ∀ W, Calls Try.prog 19 #[.int .i64 (n:Int), .int .i64 (s:Int), .int .i64 ((j + 1 : Nat) : Int)] W fun e w' => ∃ sv b, e = .returned (.tuple #[sv, .bool b]) ∧ Below W.heap.size W w' ∧ (b = true → ∃ g c, sv = .slice (some ⟨g, 0, none⟩) n c ∧ IsInts w' W.heap.size sv (tabW n (wlkN n s (j + 1)))) := by
    intro W
    by_cases hj : j + 1 ≤ 10
    · exact (implWalkCounts_yes n s (j + 1) W h1 h2 h3 h4 hj).mono fun e w' ⟨g, c, he, hb, hI⟩ => ⟨_, true, he, hb, fun _ => ⟨g, c, rfl, hI⟩⟩
    · exact (implWalkCounts_bad' n s ((j + 1 : Nat) : Int) W (.inr (by omega))).mono fun e w' ⟨he, hb⟩ => ⟨_, false, he, hb, fun h => by cases h⟩
  have HW := Lib.hid hw
  have HPos := Lib.hid (fun x hx => wlk_set n s (j + 1) x h1 h3 hx)
  have hlw := tabW_len n (wlkN n s (j + 1))
  have hSl := wset_lt n s (j + 1) h1
  have hS40 : wsetN n s (j + 1) < 2 ^ 40 := Nat.lt_of_lt_of_le hSl (Nat.pow_le_pow_right (by omega) (by omega))
  have HBit1 := Lib.hid (fun v (h : (wsetN n s (j + 1)).testBit v = true) => bit_one hS40 h)
  have HBit0 := Lib.hid (fun v (h : (wsetN n s (j + 1)).testBit v = false) => bit_none hS40 h)
  have hJ1 : IntKind.i64.wrap (((j + 1 : Nat) : Int) - 1) = (j : Int) := by rw [show (((j + 1 : Nat) : Int) - 1) = (j : Int) by omega]; exact IntWalk.i64_in _ ⟨by omega, by omega⟩
  have hJ2 : wrap64 (((j + 1 : Nat) : Int) - 1) = (j : Int) := by rw [show (((j + 1 : Nat) : Int) - 1) = (j : Int) by omega]; exact IntWalk.wrap64_in _ ⟨by omega, by omega⟩
  clear hy hw hbad hno hk1 hk2 hk3 h3 h4
  obtain ⟨K, hK⟩ : ∃ K, j + 1 = K := ⟨_, rfl⟩
  rw [hK] at HI HS HY HW HPos hlw hSl hS40 HBit1 HBit0 hJ1 hJ2 ⊢
  have hK0 : ¬ (K : Int) = 0 := by omega
  have hKb : ((K : Int) == 0) = false := by simp; omega
  have hJ3 : (K : Int) - 1 = (j : Int) := by omega
  obtain ⟨S, hS⟩ : ∃ S, wsetN n s K = S := ⟨_, rfl⟩
  rw [hS] at HI HS HY HPos hSl hS40 HBit1 HBit0
  generalize wsetN n s j = X at *
  have HSe := Lib.hid hS
  have HKe := Lib.hid hK
  clear hS hK hk0 hSl hS40
  go_wp2_with fail
  refine (HI.out _).mono ?_
  rintro e w2 ⟨rfl, hb2⟩
  have HB := Lib.hid (HB.out.trans (hb2.mono HB.out.size))
  clear hb2
  go_wp2_with fail
  refine (HS.out _).mono ?_
  rintro e w3 ⟨rfl, rfl⟩
  go_wp2_with fail
  refine (HX.out _).mono ?_
  rintro e w4 ⟨rfl, hb4⟩
  have HB := Lib.hid (HB.out.trans (hb4.mono HB.out.size))
  clear hb4
  go_wp2_with fail
  refine (HY.out _).mono ?_
  rintro e w5 ⟨rfl, hb5⟩
  have HB := Lib.hid (HB.out.trans (hb5.mono HB.out.size))
  clear hb5
  go_wp2_with fail
  refine (HW.out _).mono ?_
  rintro e w6 ⟨sv, b, rfl, hb6, hI6⟩
  have HB := Lib.hid (HB.out.trans (hb6.mono HB.out.size))
  clear hb6
  cases b
  · clear hI6
    go_wp2
    go_loopw [16] (fun u wr => u = .int .i64 0 ∧ Below W.heap.size W wr) (fun _ _ => 0)
    case atStart => exact ⟨rfl, HB.out⟩
    case round =>
      obtain ⟨rfl, hB⟩ := hrel
      clear HB
      have HB := Lib.hid hB
      clear hB
      go_wp2
      go_ret
      exact ⟨rfl, HB.out⟩
  · obtain ⟨g, c, rfl, hI⟩ := hI6 rfl
    have HIw := Lib.hid hI
    clear hI hI6
    go_wp2
    go_loopw [16] (fun u wr => ∃ v : Nat, v ≤ n ∧ u = .int .i64 (v : Int) ∧ Below w6.heap.size w6 wr) (fun u _ => n - (intOf u).toNat)
    case atStart => exact ⟨0, Nat.zero_le _, rfl, Below.refl _ _⟩
    case round =>
      obtain ⟨v, hv, rfl, hB⟩ := hrel
      have HBv := Lib.hid hB
      have HIv := Lib.hid (HIw.out.belowAll hB)
      have HB9 := Lib.hid (HB.out.trans (hB.mono HB.out.size))
      clear hB
      by_cases hlv : v < n
      · have c1 := HIv.out.cell (i := v) (by rw [hlw]; exact hlv)
        rw [tabW_get n _ v hlv] at c1
        have hp := HPos.out v hlv
        have i1 : (0 : Int) ≤ (v : Int) := by omega
        have i2 : (v : Int) < (n : Int) := by omega
        have i3 : decide ((v : Int) < (n : Int)) = true := decide_eq_true i2
        generalize wlkN n s K v = q at *
        by_cases hq : 0 < q
        · have hbt := HBit1.out v (hp.1 hq)
          have q1 : (0 : Int) < (q : Int) := by omega
          have q2 : decide ((0 : Int) < (q : Int)) = true := decide_eq_true q1
          have q3 : decide (0 < q) = true := decide_eq_true hq
          clear hp
          go_wp2
          go_quiet (fail)
          go_wp2
          go_roundw
          case rel => exact ⟨v + 1, by omega, by go_num, below_drewN HBv.out _⟩
          case measure => simp [intOf]; omega
        · have hb0 : S.testBit v = false := by
            cases hb : S.testBit v
            · rfl
            · exact absurd (hp.2 hb) hq
          have hbt := HBit0.out v hb0
          have q1 : ¬ (0 : Int) < (q : Int) := by omega
          have q2 : decide ((0 : Int) < (q : Int)) = false := decide_eq_false q1
          clear hp hq hb0
          go_wp2
          go_quiet (fail)
          go_wp2
          go_roundw
          case rel => exact ⟨v + 1, by omega, by go_num, below_drewN HBv.out _⟩
          case measure => simp [intOf]; omega
      · obtain rfl : v = n := by omega
        have i2 : ¬ (v : Int) < (v : Int) := by omega
        have i3 : decide ((v : Int) < (v : Int)) = false := decide_eq_false i2
        clear hlv
        go_wp2
        go_ret
        exact ⟨rfl, HB9.out⟩
end Go.Proofs.Ytjgpdmjfpcdklaa
