/- Plays of a ring: the model's list of all plays. Written by gen64.py. -/
import Derived.Test.YtaklmepioeoohaaPlyC
import Derived.Test.YtaklmepioeoohaaDifC
import Derived.Test.YtaklmepioeoohaaGG
namespace Go.Proofs.Ytaklmepioeoohaa
open Go.RowKit Go.Shelf
set_option linter.unusedVariables false
/-- The plays among the first j even numbers. -/
def playL (n : Nat) : Nat → List Int
  | 0 => []
  | j + 1 => if playB n (2 * j) then playL n j ++ [((2 * j : Nat) : Int)] else playL n j
theorem playL_len (n j : Nat) : (playL n j).length ≤ j := by
  induction j with
  | zero => exact Nat.le_refl _
  | succ j ih =>
    show (if playB n (2 * j) then playL n j ++ [((2 * j : Nat) : Int)] else playL n j).length ≤ j + 1
    split
    · rw [List.length_append]; simp; omega
    · omega
theorem specPlayIn_any (n s : Nat) (w : World) (h2 : n ≤ 12) (hs : s < 2 ^ n) :
    Calls Try.prog 13 #[.int .i64 (n:Int), .int .i64 (s:Int)] w fun e w' => e = .returned (.bool (playB n s)) ∧ w = w' := by
  cases hb : playB n s
  · refine specPlayIn_no (n : Int) (s : Int) w ?_
    rintro ⟨m, t, e1, e2, e3, e4, e5⟩
    have q1 := Int.ofNat_inj.1 e1
    have q2 := Int.ofNat_inj.1 e2
    subst q1
    subst q2
    rw [hb] at e5
    cases e5
  · exact specPlayIn_yes n s w h2 hs hb
set_option maxHeartbeats 1000000 in
theorem l8All_any (n : Nat) (w : World) (h1 : 1 ≤ n) (h2 : n ≤ 12) :
    Calls Try.prog 55 #[.int .i64 (n:Int)] w fun e w' => ∃ sv, e = .returned sv ∧ Below w.heap.size w w' ∧ IsInts w' w.heap.size sv (playL n (2 ^ (n - 1))) := by
  have hp := pow_le n h2
  have hp2 := half_pow n h1
  have HIn := Lib.hid (fun x (hx : x < 2 ^ n) W => specPlayIn_any n x W h2 hx)
  have hwp := wrap_pow n (by omega)
  have HNx : Hid (∀ j, playL n (j + 1) = if playB n (2 * j) then playL n j ++ [((2 * j : Nat) : Int)] else playL n j) := Lib.hid (fun _ => rfl)
  have HLn := Lib.hid (fun j => playL_len n j)
  have HZ : Hid (playL n 0 = []) := Lib.hid rfl
  generalize 2 ^ (n - 1) = H at *
  obtain ⟨N, hN⟩ : ∃ N, 2 ^ n = N := ⟨_, rfl⟩
  rw [hN] at hp hp2 HIn hwp
  have hpe : Hid (N = 2 * H) := hp2
  clear hp2
  have hwi : IntKind.i64.wrap (2 ^ n) = (N : Int) := by rw [IntWalk.i64_left]; exact hwp
  clear hN
  go_enter Try.func55, Try.ntmps55
  go_wp2
  go_loopw [3, 4] (fun u v wr => ∃ (ov : Value) (j i : Nat), u = ov ∧ j ≤ H ∧ Hid (i = 2 * j) ∧ v = .int .i64 (i : Int) ∧ Hid (Below w.heap.size w wr) ∧ Hid (IsInts wr w.heap.size ov (playL n j))) (fun _ v _ => N + 2 - (intOf v).toNat)
  case atStart => exact ⟨_, 0, 0, rfl, Nat.zero_le _, Lib.hid rfl, rfl, Lib.hid ((Below.refl _ _).alloc (Nat.le_refl _) _), Lib.hid (by rw [HZ.out]; exact nil_made w _ (Nat.le_refl _))⟩
  case round =>
    obtain ⟨ov, j, i, rfl, hj, HIJ, rfl, HB, HO⟩ := hrel
    by_cases hlt : i < N
    · have k0 : (i : Int) < (N : Int) := by omega
      have hin := HIn.out i hlt
      have hnx := HNx.out j
      rw [← HIJ.out] at hnx
      obtain ⟨a1, a2⟩ := two_wraps ((i : Int) + 2) (i + 2) (by omega) (by omega)
      have HJ : Hid (j + 1 ≤ H ∧ i + 2 = 2 * (j + 1)) := Lib.hid (by have a := HIJ.out; have b := hpe.out; omega)
      have HLl : Hid ((playL n j).length ≤ 4096) := Lib.hid (by have a := HLn.out j; have b := hpe.out; omega)
      cases hb : playB n i
      · rw [hb] at hin hnx
        have HI1 := Lib.hid hin
        have HT : Hid (playL n (j + 1) = playL n j) := Lib.hid hnx
        clear hin hnx hb
        go_wp2_with (go_at_call 13; refine (HI1.out _).mono ?_; rintro e w' ⟨rfl, rfl⟩)
        go_roundw
        case rel => exact ⟨_, j + 1, i + 2, rfl, HJ.out.1, Lib.hid HJ.out.2, by go_num, HB, Lib.hid (by rw [HT.out]; exact HO.out)⟩
        case measure => simp [intOf]; omega
      · rw [hb] at hin hnx
        have HI1 := Lib.hid hin
        have HT : Hid (playL n (j + 1) = playL n j ++ [(i : Int)]) := Lib.hid hnx
        clear hin hnx hb
        go_wp2_with (first
          | (go_at_call 13; refine (HI1.out _).mono ?_; rintro e w' ⟨rfl, rfl⟩)
          | (at_builtin; refine wpList_append_ints rfl (.tmp 15) (.tmp 17) rfl _ (playL n j) (i : Int) wr w.heap.size rfl rfl HO.out (Nat.le_trans HLl.out (by omega)) HB.out.size (fun v' W6 hv6 hk6 hb6 => ?_)))
        go_roundw
        case rel => exact ⟨_, j + 1, i + 2, rfl, HJ.out.1, Lib.hid HJ.out.2, by go_num, Lib.hid (hb6 _ _ (Nat.le_refl _) HB.out), Lib.hid (by rw [HT.out]; exact hv6)⟩
        case measure => simp [intOf]; omega
    · have k0 : ¬ (i : Int) < (N : Int) := by omega
      have hj2 : j = H := by have a := HIJ.out; have b := hpe.out; omega
      subst hj2
      go_wp2
      go_ret
      exact ⟨_, rfl, HB.out, HO.out⟩
/-- A ring of which all plays can be told. -/
def AllIn (n : Int) : Prop := ∃ m : Nat, n = (m : Int) ∧ 3 ≤ m ∧ m ≤ 11 ∧ m % 2 = 1
theorem allIn_cases {n : Int} (h : ¬ AllIn n) : n < 3 ∨ 11 < n ∨ ∃ m : Nat, n = (m : Int) ∧ 3 ≤ m ∧ m ≤ 11 ∧ m % 2 = 0 := by
  by_cases h1 : n < 3
  · exact .inl h1
  · by_cases h2 : 11 < n
    · exact .inr (.inl h2)
    · obtain ⟨m, rfl⟩ : ∃ m : Nat, n = (m : Int) := ⟨n.toNat, by omega⟩
      refine .inr (.inr ⟨m, rfl, by omega, by omega, ?_⟩)
      have : ¬ m % 2 = 1 := fun e => h ⟨m, rfl, by omega, by omega, e⟩
      omega
theorem specPlayAll_yes (n : Nat) (w : World) (h1 : 3 ≤ n) (h2 : n ≤ 11) (h3 : n % 2 = 1) :
    Calls Try.prog 19 #[.int .i64 (n:Int)] w (ListRes w (playL n (2 ^ (n - 1))) true) := by
  have HL := Lib.hid (fun W => l8All_any n W (by omega) (by omega))
  have e3 := odd_mod n
  rw [h3] at e3
  have HI := Lib.hid (fun W => l6In_yes (n : Int) 3 11 W (by omega) (by omega))
  have k1 : (3 : Int) ≤ (n : Int) := by omega
  have k2 : (n : Int) ≤ 11 := by omega
  go_enter Try.func19, Try.ntmps19
  go_wp2_with (first
    | (go_at_call 54; refine (HI.out _).mono ?_; rintro e w' ⟨rfl, rfl⟩)
    | (go_at_call 55; refine (HL.out _).mono ?_; rintro e w2 ⟨sv, rfl, hb2, hI2⟩; have HB2 := Lib.hid hb2; have HI2 := Lib.hid hI2; clear hb2 hI2))
  go_ret2
  exact ⟨_, rfl, HB2.out, HI2.out⟩
theorem specPlayAll_no (n : Int) (w : World) (h : ¬ AllIn n) :
    Calls Try.prog 19 #[.int .i64 n] w (ListRes w [] false) := by
  rcases Decidable.em (3 ≤ n ∧ n ≤ 11) with hr | hr
  · rcases allIn_cases h with h | h | ⟨m, rfl, a, b, c⟩
    · omega
    · omega
    · have HI := Lib.hid (fun W => l6In_yes (m : Int) 3 11 W (by omega) (by omega))
      have e3 := odd_mod m
      rw [c] at e3
      clear h hr
      go_enter Try.func19, Try.ntmps19
      go_wp2_with (go_at_call 54; refine (HI.out _).mono ?_; rintro e w' ⟨rfl, rfl⟩)
      go_ret2
      exact ⟨_, rfl, (Below.refl _ _).alloc (Nat.le_refl _) _, nil_made w _ (Nat.le_refl _)⟩
  · have HI := Lib.hid (fun W => l6In_no n 3 11 W hr)
    clear h hr
    go_enter Try.func19, Try.ntmps19
    go_wp2_with (go_at_call 54; refine (HI.out _).mono ?_; rintro e w' ⟨rfl, rfl⟩)
    go_ret2
    exact ⟨_, rfl, (Below.refl _ _).alloc (Nat.le_refl _) _, nil_made w _ (Nat.le_refl _)⟩
end Go.Proofs.Ytaklmepioeoohaa
