/- The law FnWalkClosed: walks back are those of turned steps. -/
import Derived.Test.YtjgpdmjfpcdklaaDrawV
import Derived.Test.YtjgpdmjfpcdklaaArrG
import Derived.Test.YtjgpdmjfpcdklaaWalkC
import Derived.Test.YtjgpdmjfpcdklaaWalkI
import Derived.Test.YtjgpdmjfpcdklaaDivisor
import Derived.Test.YtjgpdmjfpcdklaaGB
namespace Go.Proofs.Ytjgpdmjfpcdklaa
open Go.RowKit Go.Shelf
set_option linter.unusedVariables false
theorem wclosed_zero (n s : Nat) : wlkN n s 0 0 = 1 := rfl
theorem wclosed_one (n s : Nat) (h1 : 1 ≤ n) (h2 : n ≤ 12) (h0 : s.testBit 0 = false) : wlkN n s 1 0 = 0 := by
  rw [wlk_one n s 0 h1 h2 (by omega), h0]
  rfl
set_option maxRecDepth 20000 in
set_option maxHeartbeats 2000000 in
theorem law_PWalkClosed (W : World) (B len cap : Nat) (A : Option Addr) (f : Nat → Nat) (hC : Code W B A len f) (hB : B ≤ W.heap.size) (hlc : len ≤ cap) (hcap : cap ≤ 9223372036854775807) :
    Calls Try.prog 6 #[.slice A len cap] W fun e w' => e = .returned (.bool true) ∧ Below W.heap.size W w' := by
  have HC := Lib.hid (drawWalkClosed_any W B len cap A f hC hB hlc hcap)
  clear hC
  by_cases hlen : (1048576 : Int) < (len : Int)
  · go_enter Try.func6, Try.ntmps6
    go_wp2
    go_ret
    exact ⟨rfl, Below.refl _ _⟩
  go_enter Try.func6, Try.ntmps6
  go_wp2_with fail
  refine HC.out.mono ?_
  rintro e w1 ⟨n, s, k, rfl, h1, h2, h3, hk1, hk2, hb1⟩
  have HB := Lib.hid hb1
  clear hb1 hB hlc hcap
  by_cases hbad : NoStep (n : Int) (s : Int) ∨ ¬ (0 ≤ k ∧ k ≤ 10)
  · have HI := Lib.hid (fun W => implWalkClosed_bad' n s k W hbad)
    have key : ∀ W, Calls Try.prog 25 #[.int .i64 (n:Int), .int .i64 (s:Int), .int .i64 k] W fun e w' => e = .returned (.tuple #[.int .i64 0, .bool false]) ∧ W = w' := fun W => by
      by_cases hno : NoStep (n : Int) (s : Int)
      · exact specWalkClosed_no n s k W hno
      · have h4 : s.testBit 0 = false := by
          obtain ⟨n', s', hn', hs', _, _, _, h4⟩ := not_noStep hno
          obtain rfl : s = s' := by omega
          exact h4
        exact specWalkClosed_out n s k W h1 h2 h3 h4 (hbad.resolve_left hno)
    have HS := Lib.hid key
    clear key hbad
    go_wp2_with fail
    refine (HI.out _).mono ?_
    rintro e w2 ⟨rfl, hb2⟩
    have HB := Lib.hid (HB.out.trans (hb2.mono HB.out.size))
    clear hb2
    go_wp2_with fail
    refine (HS.out _).mono ?_
    rintro e w3 ⟨rfl, rfl⟩
    go_wp2
    go_ret
    exact ⟨rfl, HB.out⟩
  have hno : ¬ NoStep (n : Int) (s : Int) := fun h => hbad (.inl h)
  have hk3 : 0 ≤ k ∧ k ≤ 10 := Decidable.byContradiction fun h => hbad (.inr h)
  have h4 : s.testBit 0 = false := by
    obtain ⟨n', s', hn', hs', _, _, _, h4⟩ := not_noStep hno
    obtain rfl : s = s' := by omega
    exact h4
  obtain ⟨k, rfl⟩ : ∃ m : Nat, k = (m : Int) := ⟨k.toNat, by omega⟩
  have hkM : k ≤ 10 := by omega
  have HI := Lib.hid (fun W => implWalkClosed_yes n s k W h1 h2 h3 h4 hkM)
  have HS := Lib.hid (fun W => specWalkClosed_yes n s k W h1 h2 h3 h4 hkM)
  have HT := Lib.hid (fun m (hm : m < n) W => implTurn_yes n s (m : Int) W h1 h2 h3 (by omega) (by omega))
  have hw : ∀ m, m < n → Nat.gcd m n = 1 → ∀ W, Calls Try.prog 13 #[.int .i64 (n:Int), .int .i64 ((turnN n s (m : Int) : Nat) : Int), .int .i64 (k:Int)] W fun e w' => e = .returned (.tuple #[.int .i64 ((wlkN n s k 0 : Nat) : Int), .bool true]) ∧ Below W.heap.size W w' := by
    intro m hm hg W
    have h := implWalkClosed_yes n (turnN n s (m : Int)) k W h1 h2 (turnN_lt n s _ h1) (turn_zero n s m h1 h2 hm hg h4) hkM
    rw [wlk_turned n s m k h1 h2 hm hg] at h
    exact h
  have HW := Lib.hid hw
  have HG := Lib.hid (fun m (hm : m < n) W => divisor_any m n W (by omega) (by omega))
  have HK0 : Hid (k = 0 → wlkN n s k 0 = 1) := Lib.hid (fun h => by subst h; rfl)
  have HK1 : Hid (k = 1 → wlkN n s k 0 = 0) := Lib.hid (fun h => by subst h; exact wclosed_one n s h1 h2 h4)
  obtain ⟨q, hq⟩ : ∃ q, wlkN n s k 0 = q := ⟨_, rfl⟩
  have hq0 : q ≤ 25937424601 := by
    rw [← hq]
    exact Nat.le_trans (wlk_le n s k 0 h1 h2 h4 (by omega)) (eleven k hkM)
  rw [hq] at HI HS HW HK0 HK1
  clear hq hw hbad hno hk1 hk2 hk3 h3 h4
  go_wp2_with fail
  refine (HI.out _).mono ?_
  rintro e w2 ⟨rfl, hb2⟩
  have HB := Lib.hid (HB.out.trans (hb2.mono HB.out.size))
  clear hb2
  go_wp2_with fail
  refine (HS.out _).mono ?_
  rintro e w3 ⟨rfl, hb3⟩
  have HB := Lib.hid (HB.out.trans (hb3.mono HB.out.size))
  clear hb3
  go_wp2
  go_loopw [10] (fun u wr => ∃ m : Nat, m ≤ n ∧ u = .int .i64 (m : Int) ∧ Below W.heap.size W wr) (fun u _ => n - (intOf u).toNat)
  case atStart => exact ⟨0, Nat.zero_le _, rfl, HB.out⟩
  case round =>
    obtain ⟨m, hm, rfl, hB⟩ := hrel
    clear HB
    have HB := Lib.hid hB
    clear hB
    by_cases hlt : m < n
    · have HGm := Lib.hid (fun W => HG.out m hlt W)
      by_cases hg : Nat.gcd m n = 1
      · have HTm := Lib.hid (fun W => HT.out m hlt W)
        have HWm := Lib.hid (fun W => HW.out m hlt hg W)
        rw [hg] at HGm
        generalize turnN n s (m : Int) = t at *
        clear hg
        go_wp2_with fail
        refine (HGm.out _).mono ?_
        rintro e w4 ⟨rfl, rfl⟩
        go_wp2_with fail
        refine (HTm.out _).mono ?_
        rintro e w5 ⟨rfl, hb5⟩
        have HB := Lib.hid (HB.out.trans (hb5.mono HB.out.size))
        clear hb5
        go_wp2_with fail
        refine (HWm.out _).mono ?_
        rintro e w6 ⟨rfl, hb6⟩
        have HB := Lib.hid (HB.out.trans (hb6.mono HB.out.size))
        clear hb6
        go_wp2
        go_roundw
        case rel => exact ⟨m + 1, by omega, by go_num, HB.out⟩
        case measure => simp [intOf]; omega
      · have hne : (((Nat.gcd m n : Nat) : Int) == 1) = false := by simp; omega
        have hne2 : (((Nat.gcd m n : Nat) : Int) != 1) = true := by simp; omega
        generalize Nat.gcd m n = g at *
        clear hg
        go_wp2_with fail
        refine (HGm.out _).mono ?_
        rintro e w4 ⟨rfl, rfl⟩
        go_wp2
        go_roundw
        case rel => exact ⟨m + 1, by omega, by go_num, HB.out⟩
        case measure => simp [intOf]; omega
    · obtain rfl : m = n := by omega
      clear hlt hm
      by_cases hk0 : k = 0
      · have e := HK0.out hk0
        subst hk0
        subst e
        go_wp2
        go_ret
        exact ⟨rfl, HB.out⟩
      · by_cases hk1 : k = 1
        · have e := HK1.out hk1
          subst hk1
          subst e
          go_wp2
          go_ret
          exact ⟨rfl, HB.out⟩
        · have e1 : ((k : Int) != 0) = true := by simp; omega
          have e2 : ((k : Int) != 1) = true := by simp; omega
          have e3 : ((k : Int) == 0) = false := by simp; omega
          have e4 : ((k : Int) == 1) = false := by simp; omega
          go_wp2
          go_ret
          exact ⟨rfl, HB.out⟩
end Go.Proofs.Ytjgpdmjfpcdklaa
