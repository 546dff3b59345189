/- Promise law of chapter 6 over given contracts of the program: FnNeat. -/
import Derived.Test.YtmombdahabimbaaPFreA
import Derived.Test.YtmombdahabimbaaFreM
import Derived.Test.YtmombdahabimbaaDrawR
import Derived.Test.YtmombdahabimbaaGB
import Derived.Test.YtmombdahabimbaaFreI
import Derived.Test.YtmombdahabimbaaSame
import Derived.Test.YtmombdahabimbaaDrawP
import Derived.Test.YtmombdahabimbaaStepWA
import Derived.Test.YtmombdahabimbaaStepWB
import Derived.Test.YtmombdahabimbaaGM
namespace Go.Proofs.Ytmombdahabimbaa
open Go.RowKit Go.Shelf
set_option linter.unusedVariables false
theorem minus_fit (N M : Nat) (h : N - 1 = M) (h1 : 0 < N) (h2 : N ≤ 4096) : IntKind.i64.wrap ((N : Int) - 1) = (M : Int) ∧ wrap64 ((N : Int) - 1) = (M : Int) := wraps_big _ _ (by omega) (by omega)
theorem plus_fit (z q : Nat) (h : z + 1 = q) (h2 : z ≤ 12) : IntKind.i64.wrap ((z : Int) + 1) = (q : Int) ∧ wrap64 ((z : Int) + 1) = (q : Int) := wraps_big _ _ (by omega) (by omega)
theorem prod_fit (o q n : Nat) (h : o * q = n) (h2 : n ≤ 12) : IntKind.i64.wrap ((o : Int) * (q : Int)) = (n : Int) ∧ wrap64 ((o : Int) * (q : Int)) = (n : Int) := by
  have e : (o : Int) * (q : Int) = (n : Int) := by rw [← h]; exact (Int.natCast_mul o q).symm
  rw [e]
  clear e h
  exact wraps_big _ _ rfl (by omega)
def memB (xs : List Int) (y : Int) : Nat → Bool
  | 0 => false
  | k + 1 => memB xs y k || (xs.getD k 0 == y)
theorem memB_up (xs : List Int) (y : Int) (i : Nat) (h : (xs.getD i 0 == y) = true) : ∀ k, i < k → memB xs y k = true := by
  intro k hk
  induction k with
  | zero => omega
  | succ k ih =>
    show (memB xs y k || (xs.getD k 0 == y)) = true
    by_cases c : i < k
    · rw [ih c, Bool.true_or]
    · obtain rfl : i = k := by omega
      rw [h, Bool.or_true]
theorem memB_of (xs : List Int) (y : Int) (h : y ∈ xs) : memB xs y xs.length = true := by
  obtain ⟨i, hi, he⟩ := List.getElem_of_mem h
  refine memB_up xs y i ?_ _ hi
  rw [List.getD_eq_getElem?_getD, List.getElem?_eq_getElem hi, Option.getD_some, he]
  simp
set_option maxHeartbeats 1000000 in
set_option maxRecDepth 4000 in
theorem lawP_FnNeat (W : World) (B len cap : Nat) (A : Option Addr) (f : Nat → Nat) (hC : Code W B A len f) (hB : B ≤ W.heap.size) (hlc : len ≤ cap) (hcap : cap ≤ 9223372036854775807)
    (hNN : NoFreeNeat) (hNY : YesFreeNeat) (hWY : YesFreeWatch) :
    Calls Try.prog 4 #[.slice A len cap] W fun e w' => e = .returned (.bool true) ∧ Below W.heap.size W w' := by
  have HC := Lib.hid (drawFreeNeat_any W B len cap A f hC hB hlc hcap)
  clear hC
  by_cases hlen : (1048576 : Int) < (len : Int)
  · go_enter Try.func4, Try.ntmps4
    go_wp2
    go_ret
    exact ⟨rfl, Below.refl _ _⟩
  go_enter Try.func4, Try.ntmps4
  go_wp2_with fail
  refine HC.out.mono ?_
  rintro e w1 ⟨n, s, rfl, hn1, hn2, hs, hbl⟩
  have HB := Lib.hid hbl
  clear hbl hB hlc hcap
  by_cases hno : NoStep (n : Int) (s : Int)
  · have HI := Lib.hid (fun W => hNN n s W hno)
    have HS := Lib.hid (fun W => specFreeNeat_no n s W hno)
    clear hno hNN hNY hWY
    go_wp2_with fail
    refine (HI.out _).mono ?_
    rintro e w2 ⟨sa, rfl, hb2, hI2⟩
    have HI2 := Lib.hid hI2
    have HB := Lib.hid (HB.out.trans (hb2.mono HB.out.size))
    clear hb2 hI2
    go_wp2_with fail
    refine (HS.out _).mono ?_
    rintro e w3 ⟨sb, rfl, hb3, hI3⟩
    have HI3 := Lib.hid hI3
    have HI2 := Lib.hid (HI2.out.belowAll hb3)
    have HB := Lib.hid (HB.out.trans (hb3.mono HB.out.size))
    clear hb3 hI3
    go_wp2_with fail
    refine (sameInts_any _ _ [] _ _ _ HI2.out HI3.out).mono ?_
    rintro e w4 ⟨rfl, hb4⟩
    have HI2 := Lib.hid (HI2.out.belowAll hb4)
    have HI3 := Lib.hid (HI3.out.belowAll hb4)
    have HB := Lib.hid (HB.out.trans (hb4.mono HB.out.size))
    clear hb4
    go_wp2_with fail
    refine (sameInts_any _ _ [] _ _ _ HI2.out HI3.out).mono ?_
    rintro e w5 ⟨rfl, hb5⟩
    have HB := Lib.hid (HB.out.trans (hb5.mono HB.out.size))
    clear hb5
    go_wp2
    go_ret
    exact ⟨rfl, HB.out⟩
  have h4 : s.testBit 0 = false := by
    obtain ⟨n', s', hn', hs', _, _, _, h4⟩ := not_noStep hno
    obtain rfl : s = s' := by omega
    exact h4
  have hp := pow_le n hn2
  have hp1 := Nat.two_pow_pos n
  have HI := Lib.hid (fun W => hNY n s W hn1 hn2 hs h4)
  have HS := Lib.hid (fun W => specFreeNeat_yes n s W hn1 hn2 hs h4)
  have HWa := Lib.hid (fun W => hWY n s W hn1 hn2 hs h4)
  have HSs := Lib.hid (fun W => size_any s W (by omega))
  have ho := or_one_nat s (by omega)
  have hol := or_one_lt n s hn1 hs
  have hll := neat_len n s (2 ^ n)
  have hwl : watchF n s ≤ n := low_le _ _ _
  have hzl := sizeN_le n s hn2 hs
  have hwp := wrap_pow n (by omega)
  have HGet : Hid (∀ i, i < (neatL n s (2 ^ n)).length → ∃ x y : Nat, (neatL n s (2 ^ n)).getD i 0 = (x : Int) ∧ memB (neatL n s (2 ^ n)) (y : Int) (neatL n s (2 ^ n)).length = true ∧ watchF n s * (sizeN s + 1) = n ∧
      (∀ W, Calls Try.prog 15 #[.int .i64 (n:Int), .int .i64 (x:Int), .int .i64 ((s ||| 1 : Nat):Int)] W fun e w' => e = .returned (.tuple #[.int .i64 ((2 ^ n - 1 : Nat) : Int), .bool true]) ∧ Below W.heap.size W w') ∧
      (∀ W, Calls Try.prog 16 #[.int .i64 (n:Int), .int .i64 (x:Int), .int .i64 1] W fun e w' => e = .returned (.tuple #[.int .i64 (y : Int), .bool true]) ∧ Below W.heap.size W w') ∧
      (∀ W, Calls Try.prog 10 #[.int .i64 (x:Int)] W fun e w' => e = .returned (.int .i64 ((watchF n s : Nat) : Int)) ∧ W = w')) := Lib.hid (fun i hi => by
    obtain ⟨x, e1, e2, e3⟩ := neat_get n s (2 ^ n) i hi
    obtain ⟨a1, a2, a3, a4⟩ := p_neat n s x hn1 hn2 hs h4 e2 e3
    refine ⟨x, shiftN n x 1, e1, ?_, ?_, ?_, ?_, ?_⟩
    · exact memB_of _ _ ((neat_mem n s (2 ^ n) _).mpr ⟨shiftN_lt n x 1, a4⟩)
    · rw [← a3]; exact a1
    · intro W
      have c := implSum_yes n x (s ||| 1) W hn1 hn2 e2 hol
      rw [sum_comm n x (s ||| 1) hn1 e2 hol, a2] at c
      exact c
    · intro W
      exact implShift_yes n x 1 W hn1 hn2 e2 (by omega) (by omega)
    · intro W
      have c := size_any x W (by omega)
      rw [a3] at c
      exact c)
  generalize watchF n s = o at *
  generalize sizeN s = z at *
  generalize neatL n s (2 ^ n) = xs at *
  obtain ⟨N, hN⟩ : ∃ N, 2 ^ n = N := ⟨_, rfl⟩
  rw [hN] at hp hp1 hwp hll HGet hol
  have hwi : IntKind.i64.wrap (2 ^ n) = (N : Int) := by rw [IntWalk.i64_left]; exact hwp
  obtain ⟨M, hM⟩ : ∃ M, N - 1 = M := ⟨_, rfl⟩
  rw [hM] at HGet
  obtain ⟨m1, m2⟩ := minus_fit N M hM hp1 hp
  have HF := Lib.hid (And.intro ho (And.intro hwp (And.intro hwi (And.intro m1 m2))))
  obtain ⟨q, hq⟩ : ∃ q, z + 1 = q := ⟨_, rfl⟩
  rw [hq] at HGet
  obtain ⟨m3, m4⟩ := plus_fit z q hq (Nat.le_trans hzl hn2)
  have HQ : Hid (∀ h : o * q = n, wrap64 ((z : Int) + 1) = (q : Int) ∧ IntKind.i64.wrap ((z : Int) + 1) = (q : Int) ∧ wrap64 ((o : Int) * (q : Int)) = (n : Int) ∧ IntKind.i64.wrap ((o : Int) * (q : Int)) = (n : Int)) := Lib.hid (fun h => by
    obtain ⟨a, b⟩ := prod_fit o q n h hn2
    exact ⟨m4, m3, b, a⟩)
  have hxl : xs.length ≤ 4096 := Nat.le_trans hll hp
  have HMin : Hid (min n 64 = n) := Lib.hid (Nat.min_eq_left (by omega))
  clear hN hno hNN hNY hWY ho hwp hwi m1 m2 m3 m4 hq hM hll hp hp1 hol
  go_wp2_with fail
  refine (HI.out _).mono ?_
  rintro e w2 ⟨sa, rfl, hb2, hI2⟩
  have HI2 := Lib.hid hI2
  have HB := Lib.hid (HB.out.trans (hb2.mono HB.out.size))
  clear hb2 hI2
  go_wp2_with fail
  refine (HS.out _).mono ?_
  rintro e w3 ⟨sb, rfl, hb3, hI3⟩
  have HI3 := Lib.hid hI3
  have HI2 := Lib.hid (HI2.out.belowAll hb3)
  have HB := Lib.hid (HB.out.trans (hb3.mono HB.out.size))
  clear hb3 hI3
  go_wp2_with fail
  refine (sameInts_any _ _ xs _ _ _ HI2.out HI3.out).mono ?_
  rintro e w4 ⟨rfl, hb4⟩
  have HI2 := Lib.hid (HI2.out.belowAll hb4)
  have HB := Lib.hid (HB.out.trans (hb4.mono HB.out.size))
  clear hb4 HI3
  go_wp2_with fail
  refine (HWa.out _).mono ?_
  rintro e w5 ⟨rfl, hb5⟩
  have HI2 := Lib.hid (HI2.out.belowAll hb5)
  have HB := Lib.hid (HB.out.trans (hb5.mono HB.out.size))
  clear hb5 HI HS HWa
  obtain ⟨A', cap', rfl, hsh⟩ : ∃ A' cap', sa = .slice A' xs.length cap' ∧ (xs.length = 0 ∨ ∃ g, A' = some ⟨g, 0, none⟩) := by
    rcases HI2.out.shape with ⟨e1, e2⟩ | ⟨g, c, e1, _, _, _⟩
    · exact ⟨none, 0, by rw [e1, e2]; rfl, .inl (by rw [e2]; rfl)⟩
    · exact ⟨_, c, e1, .inr ⟨g, rfl⟩⟩
  have HSh := Lib.hid hsh
  clear hsh
  go_wp2
  go_loopw [11] (fun u wr => ∃ i : Nat, i ≤ xs.length ∧ u = .int .i64 (i : Int) ∧ Below w5.heap.size w5 wr) (fun u _ => xs.length - (intOf u).toNat)
  case atStart => exact ⟨0, Nat.zero_le _, rfl, Below.refl _ _⟩
  case round =>
    obtain ⟨i, hi, rfl, hBk⟩ := hrel
    have HBk := Lib.hid hBk
    have HL := Lib.hid (HI2.out.belowAll hBk)
    clear hBk
    by_cases hlt : i < xs.length
    · obtain ⟨x, y, hx, hm, hoz, hSu, hSh, hSx⟩ := HGet.out i hlt
      obtain ⟨g, rfl⟩ := HSh.out.resolve_left (by omega)
      have c1 := HL.out.cell (i := i) hlt
      rw [hx] at c1
      have HX := Lib.hid hx
      have HSu := Lib.hid hSu
      have HTu := Lib.hid hSh
      have HSx := Lib.hid hSx
      have HM := Lib.hid hm
      have HOz := Lib.hid hoz
      clear hx hm hoz hSu hSh hSx HGet
      have i1 : (0 : Int) ≤ (i : Int) := by omega
      have i2 : (i : Int) < (xs.length : Int) := by omega
      have ho := HF.out.1
      go_wp2_with fail
      clear ho c1
      refine (HSu.out _).mono ?_
      rintro e w6 ⟨rfl, hb6⟩
      have HL := Lib.hid (HL.out.belowAll hb6)
      have HBk := Lib.hid (HBk.out.trans (hb6.mono HBk.out.size))
      clear hb6 HSu
      have c1 := HL.out.cell (i := i) hlt
      rw [HX.out] at c1
      go_wp2_with fail
      clear c1
      refine (HTu.out _).mono ?_
      rintro e w7 ⟨rfl, hb7⟩
      have HL := Lib.hid (HL.out.belowAll hb7)
      have HBk := Lib.hid (HBk.out.trans (hb7.mono HBk.out.size))
      clear hb7 HTu
      go_wp2
      go_loopw [16, 17] (fun a u wr => ∃ k : Nat, k ≤ xs.length ∧ a = .bool (memB xs (y : Int) k) ∧ u = .int .i64 (k : Int) ∧ Below w7.heap.size w7 wr) (fun _ u _ => xs.length - (intOf u).toNat)
      case atStart => exact ⟨0, Nat.zero_le _, rfl, rfl, Below.refl _ _⟩
      case round =>
        obtain ⟨k, hk, rfl, rfl, hBi⟩ := hrel
        have HBi := Lib.hid hBi
        have HLi := Lib.hid (HL.out.belowAll hBi)
        clear hBi
        by_cases hkt : k < xs.length
        · have hst : Hid (memB xs (y : Int) (k + 1) = (memB xs (y : Int) k || (xs.getD k 0 == (y : Int)))) := Lib.hid rfl
          have c1 := HLi.out.cell (i := k) hkt
          have k1 : (0 : Int) ≤ (k : Int) := by omega
          have k2 : (k : Int) < (xs.length : Int) := by omega
          generalize xs.getD k 0 = t at *
          cases hmb : memB xs (y : Int) k
          · rw [hmb] at hst
            clear hmb
            go_wp2
            go_roundw
            case rel => exact ⟨k + 1, hkt, by rw [hst.out, Bool.false_or], by go_num, HBi.out⟩
            case measure => simp [intOf]; omega
          · rw [hmb] at hst
            clear hmb c1
            go_wp2
            go_roundw
            case rel => exact ⟨k + 1, hkt, by rw [hst.out, Bool.true_or], by go_num, HBi.out⟩
            case measure => simp [intOf]; omega
        · obtain rfl : k = xs.length := by omega
          rw [HM.out]
          have c1 := HLi.out.cell (i := i) hlt
          rw [HX.out] at c1
          have HB8 := Lib.hid (HBk.out.trans (HBi.out.mono HBk.out.size))
          have HQ := Lib.hid (HQ.out HOz.out)
          clear hkt HOz hk
          have f2 := HF.out.2.1
          have f3 := HF.out.2.2.1
          have f4 := HF.out.2.2.2.1
          have f5 := HF.out.2.2.2.2
          have f6 := HMin.out
          go_wp2_with fail
          clear f2 f3 f4 f5 f6
          refine (HSx.out _).mono ?_
          rintro e w8 ⟨rfl, rfl⟩
          go_wp2_with fail
          refine (HSs.out _).mono ?_
          rintro e w9 ⟨rfl, rfl⟩
          have q1 := HQ.out.1
          have q2 := HQ.out.2.1
          have q3 := HQ.out.2.2.1
          have q4 := HQ.out.2.2.2
          go_wp2_with fail
          clear q1 q2 q3 q4
          refine (HSx.out _).mono ?_
          rintro e w10 ⟨rfl, rfl⟩
          clear c1
          go_wp2
          go_roundw
          case rel => exact ⟨i + 1, hlt, by go_num, HB8.out⟩
          case measure => simp [intOf]; omega
    · obtain rfl : i = xs.length := by omega
      have HB9 := Lib.hid (HB.out.trans (HBk.out.mono HB.out.size))
      go_wp2
      go_ret
      exact ⟨rfl, HB9.out⟩
end Go.Proofs.Ytmombdahabimbaa
