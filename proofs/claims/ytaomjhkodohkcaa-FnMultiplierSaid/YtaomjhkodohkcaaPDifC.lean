/- Promises of chapter 7 over given contracts: units that carry, multipliers. Written by gen60.py. -/
import Derived.Test.YtaomjhkodohkcaaPDifB
import Derived.Test.YtaomjhkodohkcaaDivisor
namespace Go.Proofs.Ytaomjhkodohkcaa
open Go.RowKit Go.Shelf
set_option linter.unusedVariables false
theorem popF_sub (f x y : Nat) (h : ∀ i, x.testBit i = true → y.testBit i = true) : popF f x ≤ popF f y := popF_mono f x y h
theorem dif_size (n s d : Nat) (h2 : n ≤ 12) (hs : s < 2 ^ n) : difN n s d ≤ sizeN s := by
  unfold difN
  rw [sizeN_of n _ h2 (and_lt _ hs), sizeN_of n s h2 hs]
  exact popF_mono n _ _ fun i h => by
    rw [Nat.testBit_and, Bool.and_eq_true] at h
    exact h.1
/-- Whether none of the numbers from 2 on below d divides q. -/
def prTo (q : Nat) : Nat → Bool
  | 0 => true
  | d + 1 => prTo q d && (Nat.blt d 2 || !Nat.beq (q % d) 0)
theorem prTo_all (q k : Nat) : prTo q k = (List.range k).all fun d => Nat.blt d 2 || !Nat.beq (q % d) 0 := by
  induction k with
  | zero => rfl
  | succ k ih =>
    rw [List.range_succ, List.all_append, ← ih]
    show (prTo q k && (Nat.blt k 2 || !Nat.beq (q % k) 0)) = (prTo q k && ((Nat.blt k 2 || !Nat.beq (q % k) 0) && true))
    rw [Bool.and_true]
theorem prTo_two (q : Nat) : prTo q 2 = true := rfl
theorem prTo_step (q d : Nat) (hd : 2 ≤ d) : prTo q (d + 1) = (prTo q d && !Nat.beq (q % d) 0) := by
  show (prTo q d && (Nat.blt d 2 || !Nat.beq (q % d) 0)) = _
  have : Nat.blt d 2 = false := by
    cases hb : Nat.blt d 2
    · rfl
    · have := (blt_iff _ _).1 hb; omega
  rw [this, Bool.false_or]
theorem mulQ_of (n r l q : Nat) (h1 : 2 ≤ q) (h2 : l < q) (h3 : 0 < r) (h4 : r % q = 0) (h5 : Nat.gcd q n = 1) (h6 : prTo q q = true) : mulQ n r l q = true := by
  unfold mulQ
  rw [← prTo_all, h6, Nat.ble_eq_true_of_le h1, (blt_iff _ _).2 h2, (blt_iff _ _).2 h3, h4, h5]
  rfl
theorem mod_casts (a b : Nat) : Int.tmod (a : Int) (b : Int) = ((a % b : Nat) : Int) ∧ ((a : Int) % (b : Int)) = ((a % b : Nat) : Int) := ⟨(Int.ofNat_tmod a b).symm, by simp⟩
set_option maxHeartbeats 1000000 in
set_option maxRecDepth 4000 in
theorem lawP_FnCarries (W : World) (B len cap : Nat) (A : Option Addr) (f : Nat → Nat) (hC : Code W B A len f) (hB : B ≤ W.heap.size) (hlc : len ≤ cap) (hcap : cap ≤ 9223372036854775807)
    (hN : NoDiffCarries) (hY : YesDiffCarries) :
    Calls Try.prog 9 #[.slice A len cap] W fun e w' => e = .returned (.bool true) ∧ Below W.heap.size W w' := by
  have HC := Lib.hid (drawDiffCarries_any W B len cap A f hC hB hlc hcap)
  clear hC
  by_cases hlen : (1048576 : Int) < (len : Int)
  · go_enter Try.func9, Try.ntmps9
    go_wp2
    go_ret
    exact ⟨rfl, Below.refl _ _⟩
  go_enter Try.func9, Try.ntmps9
  go_wp2_with fail
  refine HC.out.mono ?_
  rintro e w1 ⟨n, s, rfl, hn1, hn13, hs13, hbl⟩
  have HB := Lib.hid hbl
  clear hbl hB hlc hcap
  by_cases hno : NotIn (n : Int) (s : Int)
  · have HI := Lib.hid (fun W => hN n s W hno)
    have HS := Lib.hid (fun W => specDiffCarries_no n s W hno)
    clear hno
    go_wp2_with fail
    refine (HI.out _).mono ?_
    rintro e w2 ⟨rfl, hb2⟩
    have HB := Lib.hid (HB.out.trans (hb2.mono HB.out.size))
    clear hb2
    go_wp2_with fail
    refine (HS.out _).mono ?_
    rintro e w3 ⟨rfl, rfl⟩
    go_wp2
    go_ret
    exact ⟨rfl, HB.out⟩
  obtain ⟨n', s', hn', hs', _, h12', hs3'⟩ := not_notIn hno
  obtain rfl : n = n' := by omega
  obtain rfl : s = s' := by omega
  clear hn' hs' hno hs13 hn13
  have hp := pow_le n h12'
  have HI := Lib.hid (fun W => hY n s W hn1 h12' hs3')
  have HS := Lib.hid (fun W => specDiffCarries_yes n s W hn1 h12' hs3')
  have hC := fun W => hY n (2 ^ n - 1 - s) W hn1 h12' (comp_lt n s)
  rw [car_comp n s hn1 h12' hs3'] at hC
  have hOl : carN n s < 2 ^ n := car_lt n s n (Nat.le_refl n)
  have HT : Hid (∀ m : Nat, m < n → (carN n s).testBit m = true → ∀ W, Calls Try.prog 27 #[.int .i64 (n:Int), .int .i64 ((carN n s : Nat):Int), .int .i64 (m:Int)] W fun e w' => e = .returned (.tuple #[.int .i64 ((carN n s : Nat) : Int), .bool true]) ∧ Below W.heap.size W w') := Lib.hid (fun m hm hb W => by
    have c := implTurn_yes n (carN n s) (m : Int) W hn1 h12' hOl (by omega) (by omega)
    rw [car_turn n s m hn1 h12' hs3' hb] at c
    exact c)
  have HOne := Lib.hid (car_one n s hn1 hs3')
  generalize carN n s = O at *
  have HBit := Lib.hid (fun m => has_nat0 O m (by omega))
  have HBit1 := Lib.hid (fun m => has_nat O m (by omega))
  have HPw2 := Lib.hid (pow_fits n (2 ^ n) h12' rfl)
  obtain ⟨N, hNN⟩ : ∃ N, 2 ^ n = N := ⟨_, rfl⟩
  rw [hNN] at hC hp hs3' hOl
  have HPw : Hid ((IntKind.i64.wrap (2 ^ n) = (N : Int) ∧ wrap64 (2 ^ n) = (N : Int)) ∧ (IntKind.i64.wrap ((N : Int) - 1) = ((N - 1 : Nat) : Int) ∧ wrap64 ((N : Int) - 1) = ((N - 1 : Nat) : Int))) := Lib.hid (pow_fits n N h12' hNN)
  have HSub := Lib.hid (sub_fits (N - 1) s (N - 1 - s) rfl (by omega) (by omega))
  have HC2 := Lib.hid hC
  clear hC HPw2 hNN
  generalize N - 1 - s = c at *
  generalize N - 1 = M at *
  have HM := Lib.hid (mod_casts 1 n)
  have hr : 1 % n < n := Nat.mod_lt _ hn1
  generalize 1 % n = r at *
  clear hN hY hp hs3' hOl
  go_wp2_with fail
  refine (HI.out _).mono ?_
  rintro e w2 ⟨rfl, hb2⟩
  have HB := Lib.hid (HB.out.trans (hb2.mono HB.out.size))
  clear hb2
  go_wp2_with fail
  refine (HS.out _).mono ?_
  rintro e w3 ⟨rfl, rfl⟩
  obtain ⟨⟨q1, q2⟩, q3, q4⟩ := HPw.out
  obtain ⟨q5, q6⟩ := HSub.out
  go_wp2_with fail
  refine (HC2.out _).mono ?_
  rintro e w4 ⟨rfl, hb4⟩
  have HB := Lib.hid (HB.out.trans (hb4.mono HB.out.size))
  clear hb4
  clear q1 q2 q3 q4 q5 q6
  have z4 := HB.out.size
  obtain ⟨wo, hwo⟩ : ∃ wo, wo = w4 := ⟨_, rfl⟩
  rw [← hwo] at HB ⊢
  clear hwo
  go_wp2
  go_loopw [11] (fun u wr => ∃ m : Nat, m ≤ n ∧ u = .int .i64 (m : Int) ∧ Hid (Below W.heap.size W wr)) (fun u _ => n - (intOf u).toNat)
  case atStart => exact ⟨0, Nat.zero_le _, rfl, HB⟩
  case round =>
    obtain ⟨m, hm, rfl, HBr⟩ := hrel
    by_cases hlt : m < n
    · have hb0 := HBit.out m
      cases hb : O.testBit m
      · rw [hb] at hb0
        clear hb
        go_wp2
        go_roundw
        case rel => exact ⟨m + 1, by omega, by go_num, HBr⟩
        case measure => simp [intOf]; omega
      · have HT1 := Lib.hid (HT.out m hlt hb)
        rw [hb] at hb0
        clear hb
        go_wp2_with fail
        refine (HT1.out _).mono ?_
        rintro e w5 ⟨rfl, hb5⟩
        have HB5 := Lib.hid (HBr.out.trans (hb5.mono HBr.out.size))
        clear hb5 hb0
        go_wp2
        go_roundw
        case rel => exact ⟨m + 1, by omega, by go_num, HB5⟩
        case measure => simp [intOf]; omega
    · obtain rfl : m = n := by omega
      obtain ⟨t1, t2⟩ := HM.out
      have hb1 := HBit1.out r
      rw [HOne.out] at hb1
      have i1 : (0 : Int) ≤ (r : Int) := Int.natCast_nonneg r
      have t3 : Int.tmod 1 (m : Int) = (r : Int) := t1
      have t4 : (1 : Int) % (m : Int) = (r : Int) := t2
      clear t1 t2
      go_wp2
      go_ret
      exact ⟨rfl, HBr.out⟩
set_option maxHeartbeats 1000000 in
set_option maxRecDepth 4000 in
theorem lawP_FnMultiplier (W : World) (B len cap : Nat) (A : Option Addr) (f : Nat → Nat) (hC : Code W B A len f) (hB : B ≤ W.heap.size) (hlc : len ≤ cap) (hcap : cap ≤ 9223372036854775807)
    (hN : NoDiffEven) (hY : AnyDiffEven) (hK : YesDiffCarries) :
    Calls Try.prog 10 #[.slice A len cap] W fun e w' => e = .returned (.bool true) ∧ Below W.heap.size W w' := by
  have HC := Lib.hid (drawDiffEven_any W B len cap A f hC hB hlc hcap)
  clear hC
  by_cases hlen : (1048576 : Int) < (len : Int)
  · go_enter Try.func10, Try.ntmps10
    go_wp2
    go_ret
    exact ⟨rfl, Below.refl _ _⟩
  go_enter Try.func10, Try.ntmps10
  go_wp2_with fail
  refine HC.out.mono ?_
  rintro e w1 ⟨n, s, rfl, hn1, hn13, hs13, hbl⟩
  have HB := Lib.hid hbl
  clear hbl hB hlc hcap
  by_cases hno : NotIn (n : Int) (s : Int) ∨ (n : Int) < 2
  · have HI := Lib.hid (fun W => hN n s W hno)
    have HS := Lib.hid (fun W => specDiffEven_no n s W hno)
    clear hno
    go_wp2_with fail
    refine (HI.out _).mono ?_
    rintro e w2 ⟨rfl, hb2⟩
    have HB := Lib.hid (HB.out.trans (hb2.mono HB.out.size))
    clear hb2
    go_wp2_with fail
    refine (HS.out _).mono ?_
    rintro e w3 ⟨rfl, rfl⟩
    go_wp2
    go_ret
    exact ⟨rfl, HB.out⟩
  obtain ⟨n', s', hn', hs', _, h12', hs3'⟩ := not_notIn (fun c => hno (.inl c))
  have h2n : 2 ≤ n := by have : ¬ (n : Int) < 2 := fun c => hno (.inr c); omega
  obtain rfl : n = n' := by omega
  obtain rfl : s = s' := by omega
  have hI := fun W => hY n s W h2n h12' hs3'
  have hS := fun W => specDiffEven_any n s W h2n h12' hs3'
  have hz := sizeN_le n s h12' hs3'
  clear hn' hs' hno hs13 hn13 hn1
  cases he : evenB n s
  · unfold evZ at hI hS
    rw [he] at hI hS
    have HI := Lib.hid hI
    have HS := Lib.hid hS
    clear hI hS he hN hY
    go_wp2_with fail
    refine (HI.out _).mono ?_
    rintro e w2 ⟨rfl, hb2⟩
    have HB := Lib.hid (HB.out.trans (hb2.mono HB.out.size))
    clear hb2
    go_wp2_with fail
    refine (HS.out _).mono ?_
    rintro e w3 ⟨rfl, hb3⟩
    have HB := Lib.hid (HB.out.trans (hb3.mono HB.out.size))
    clear hb3
    go_wp2
    go_ret
    exact ⟨rfl, HB.out⟩
  · have HCar := Lib.hid (fun W => hK n s W (by omega) h12' hs3')
    have HMu := Lib.hid (fun q hq hm => p_mult n s q h2n h12' hs3' he hq hm)
    have hl := dif_size n s 1 h12' hs3'
    have hCl : carN n s < 2 ^ n := car_lt n s n (Nat.le_refl n)
    have hp := pow_le n h12'
    unfold evZ at hI hS
    rw [he, if_pos rfl] at hI hS
    have HI := Lib.hid hI
    have HS := Lib.hid hS
    have HSz := Lib.hid (fun W => size_any s W (Nat.lt_of_lt_of_le hs3' (Nat.pow_le_pow_right (by omega) (by omega))))
    clear hI hS he hN hY hK
    generalize difN n s 1 = l at *
    generalize carN n s = O at *
    generalize sizeN s = k at *
    have HBit := Lib.hid (fun m => has_nat0 O m (by omega))
    have HSub := Lib.hid (sub_fits k l (k - l) rfl hl (by omega))
    generalize k - l = r at *
    have HGc := Lib.hid (fun q (hq : q < n) W => divisor_any q n W (by omega) (by omega))
    clear hp hs3' hz hl hCl
    go_wp2_with fail
    refine (HI.out _).mono ?_
    rintro e w2 ⟨rfl, hb2⟩
    have HB := Lib.hid (HB.out.trans (hb2.mono HB.out.size))
    clear hb2
    go_wp2_with fail
    refine (HS.out _).mono ?_
    rintro e w3 ⟨rfl, hb3⟩
    have HB := Lib.hid (HB.out.trans (hb3.mono HB.out.size))
    clear hb3
    go_wp2_with fail
    refine (HCar.out _).mono ?_
    rintro e w4 ⟨rfl, hb4⟩
    have HB := Lib.hid (HB.out.trans (hb4.mono HB.out.size))
    clear hb4
    obtain ⟨q5, q6⟩ := HSub.out
    go_wp2_with fail
    refine (HSz.out _).mono ?_
    rintro e w5 ⟨rfl, rfl⟩
    go_wp2
    clear q5 q6
    go_loop [12] (fun u => ∃ q : Nat, 2 ≤ q ∧ q ≤ n ∧ u = .int .i64 (q : Int)) (fun u => n - (intOf u).toNat)
    case atStart => exact ⟨2, Nat.le_refl _, h2n, rfl⟩
    case round =>
      obtain ⟨q, hq2, hq, rfl⟩ := hrel
      by_cases hlt : q < n
      · go_wp2
        go_loop [13, 14] (fun u v => ∃ d : Nat, 2 ≤ d ∧ d ≤ q ∧ u = .bool (prTo q d) ∧ v = .int .i64 (d : Int)) (fun _ v => q - (intOf v).toNat)
        case atStart => exact ⟨2, Nat.le_refl _, hq2, by rw [prTo_two], rfl⟩
        case round =>
          obtain ⟨d, hd2, hd, rfl, rfl⟩ := hrel
          by_cases hdl : d < q
          · have HSt := Lib.hid (prTo_step q d hd2)
            obtain ⟨t1, t2⟩ := mod_casts q d
            have hne : ((d : Int) == 0) = false := by simp; omega
            have hne3 : ((d : Int) = 0) = False := by simp; omega
            generalize q % d = x at *
            cases hpr : prTo q d
            · rw [hpr] at HSt
              have HT : Hid (prTo q (d + 1) = false) := HSt
              clear hpr HSt t1 t2
              go_wp2
              go_round
              case rel => exact ⟨d + 1, by omega, by omega, by rw [HT.out], by go_num⟩
              case measure => simp [intOf]; omega
            · rw [hpr, Bool.true_and] at HSt
              by_cases hx : x = 0
              · subst hx
                have HT : Hid (prTo q (d + 1) = false) := HSt
                clear hpr HSt
                go_wp2
                go_round
                case rel => exact ⟨d + 1, by omega, by omega, by rw [HT.out], by go_num⟩
                case measure => simp [intOf]; omega
              · have HT : Hid (prTo q (d + 1) = true) := Lib.hid (by
                  rw [HSt.out]
                  cases hb : Nat.beq x 0
                  · rfl
                  · exact absurd (Nat.eq_of_beq_eq_true hb) hx)
                have e1 : ((x : Int) == 0) = false := by simp; omega
                have e2 : ((x : Int) != 0) = true := by simp; omega
                clear hpr HSt hx
                go_wp2
                go_round
                case rel => exact ⟨d + 1, by omega, by omega, by rw [HT.out], by go_num⟩
                case measure => simp [intOf]; omega
          · obtain rfl : d = q := by omega
            have HMu1 := Lib.hid (fun h3 h4 h5 h2 h6 => HMu.out d hlt (mulQ_of n r l d hd2 h2 h3 h4 h5 h6))
            have HGc1 := Lib.hid (HGc.out d hlt)
            have HB1 := Lib.hid (HBit.out d)
            have hdz : ((d : Int) == 0) = false := by simp; omega
            have hdz3 : ((d : Int) = 0) = False := by simp; omega
            cases hpr : prTo d d
            · clear hpr HMu1
              go_wp2_with (go_at_call 37; refine (HGc1.out _).mono ?_; rintro e w9 ⟨rfl, rfl⟩)
              go_round
              case rel => exact ⟨d + 1, by omega, by omega, by go_num⟩
              case measure => simp [intOf]; omega
            · by_cases hr0 : 0 < r
              · have k1 : (0 : Int) < (r : Int) := by omega
                obtain ⟨t1, t2⟩ := mod_casts r d
                by_cases hm0 : r % d = 0
                · rw [hm0] at t1 t2
                  by_cases hld : l < d
                  · have k2 : (l : Int) < (d : Int) := by omega
                    by_cases hg1 : Nat.gcd d n = 1
                    · have hb := HMu1.out hr0 hm0 hg1 hld hpr
                      have hb1 := HB1.out
                      rw [hb] at hb1
                      rw [hg1] at HGc1
                      clear hb hg1 hpr hm0 hr0 hld HMu1
                      go_wp2_with (go_at_call 37; refine (HGc1.out _).mono ?_; rintro e w9 ⟨rfl, rfl⟩)
                      go_round
                      case rel => exact ⟨d + 1, by omega, by omega, by go_num⟩
                      case measure => simp [intOf]; omega
                    · have e3 : (((Nat.gcd d n : Nat) : Int) == 1) = false := by simp; omega
                      generalize Nat.gcd d n = gg at *
                      clear hg1 hpr hm0 hr0 hld HMu1
                      go_wp2_with (go_at_call 37; refine (HGc1.out _).mono ?_; rintro e w9 ⟨rfl, rfl⟩)
                      go_round
                      case rel => exact ⟨d + 1, by omega, by omega, by go_num⟩
                      case measure => simp [intOf]; omega
                  · have k2 : ¬ (l : Int) < (d : Int) := by omega
                    clear hpr hm0 hr0 hld HMu1
                    go_wp2_with (go_at_call 37; refine (HGc1.out _).mono ?_; rintro e w9 ⟨rfl, rfl⟩)
                    go_round
                    case rel => exact ⟨d + 1, by omega, by omega, by go_num⟩
                    case measure => simp [intOf]; omega
                · have e3 : (((r % d : Nat) : Int) == 0) = false := by simp; omega
                  generalize r % d = y at *
                  clear hpr hm0 hr0 HMu1
                  go_wp2_with (go_at_call 37; refine (HGc1.out _).mono ?_; rintro e w9 ⟨rfl, rfl⟩)
                  go_round
                  case rel => exact ⟨d + 1, by omega, by omega, by go_num⟩
                  case measure => simp [intOf]; omega
              · have k1 : ¬ (0 : Int) < (r : Int) := by omega
                clear hpr hr0 HMu1
                go_wp2_with (go_at_call 37; refine (HGc1.out _).mono ?_; rintro e w9 ⟨rfl, rfl⟩)
                go_round
                case rel => exact ⟨d + 1, by omega, by omega, by go_num⟩
                case measure => simp [intOf]; omega
      · obtain rfl : q = n := by omega
        go_wp2
        go_ret
        exact ⟨rfl, HB.out⟩
end Go.Proofs.Ytaomjhkodohkcaa
