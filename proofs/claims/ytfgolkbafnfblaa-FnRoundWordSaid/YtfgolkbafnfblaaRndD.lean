/- Rounds: the model's functions of numbers. -/
import Derived.Test.YtfgolkbafnfblaaRndC
import Derived.Test.YtfgolkbafnfblaaGB
namespace Go.Proofs.Ytfgolkbafnfblaa
open Go.RowKit
set_option linter.unusedVariables false
theorem specRoundIs_no (n s : Int) (sv : Value) (w : World) (h : NoStep n s) :
    Calls Try.prog 10 #[.int .i64 n, .int .i64 s, sv] w fun e w' => e = .returned (.bool false) ∧ w = w' := by
  have HI := Lib.hid (specStep_no n s w h)
  clear h
  go_enter Try.func10, Try.ntmps10
  go_wp2_with (go_at_call 35; refine HI.out.mono ?_; rintro e w' ⟨rfl, rfl⟩)
  go_ret
  exact ⟨rfl, rfl⟩
theorem specRoundIs_yes (n s : Nat) (sv : Value) (xs : List Int) (b : Nat) (w : World) (h1 : 1 ≤ n) (h2 : n ≤ 12) (hs : s < 2 ^ n) (h0 : s.testBit 0 = false) (hI : IsInts w b sv xs) :
    Calls Try.prog 10 #[.int .i64 (n:Int), .int .i64 (s:Int), sv] w fun e w' => e = .returned (.bool (isRndB n s xs)) ∧ Below w.heap.size w w' := by
  have HI := Lib.hid (specStep_yes n s w h1 h2 hs h0)
  have HL := Lib.hid (l5Is_any n s sv xs b w h1 h2 hs hI)
  clear hI
  go_enter Try.func10, Try.ntmps10
  go_wp2_with fail
  refine HI.out.mono ?_
  rintro e w' ⟨rfl, rfl⟩
  go_wp2_with fail
  refine HL.out.mono ?_
  rintro e w' ⟨rfl, hb⟩
  go_wp2
  go_ret
  exact ⟨rfl, hb⟩
def anyN (f : Nat → Bool) : Nat → Bool
  | 0 => false
  | i + 1 => anyN f i || f i
def twoD (n a b : Nat) : Nat := Nat.gcd n (rest n ((b : Int) - (a : Int)))
def twoF (n a b d i : Nat) : Bool := Nat.beq (Nat.gcd n ((i * a + (d - i) * b) % n)) d
/-- Whether there is a round of two steps, told by numbers. -/
def twoN (n a b : Nat) : Bool := Nat.beq (Nat.gcd (Nat.gcd n a) b) 1 && anyN (twoF n a b (twoD n a b)) (twoD n a b + 1)
/-- Two steps that are none, or no two. -/
def NoTwo (n a b : Int) : Prop := ¬ (2 ≤ n ∧ n ≤ 12 ∧ 1 ≤ a ∧ a ≤ n - 1 ∧ 1 ≤ b ∧ b ≤ n - 1 ∧ a ≠ b)
theorem not_noTwo {n a b : Int} (h : ¬ NoTwo n a b) : ∃ m x y : Nat, n = (m : Int) ∧ a = (x : Int) ∧ b = (y : Int) ∧ 2 ≤ m ∧ m ≤ 12 ∧ 1 ≤ x ∧ x < m ∧ 1 ≤ y ∧ y < m ∧ x ≠ y := by
  have h' := Decidable.byContradiction h
  obtain ⟨a1, a2, a3, a4, a5, a6, a7⟩ := h'
  exact ⟨n.toNat, a.toNat, b.toNat, by omega, by omega, by omega, by omega, by omega, by omega, by omega, by omega, by omega, by omega⟩
theorem specRoundTwo_no (n a b : Int) (w : World) (h : NoTwo n a b) :
    Calls Try.prog 15 #[.int .i64 n, .int .i64 a, .int .i64 b] w fun e w' => e = .returned (.bool false) ∧ w = w' := by
  have HN := Lib.hid (l6In_any n 2 12 w)
  by_cases hn : 2 ≤ n ∧ n ≤ 12
  · rw [decide_eq_true hn] at HN
    have E := IntWalk.i64_in (n - 1) ⟨by omega, by omega⟩
    have HA := Lib.hid (l6In_any a 1 (n - 1) w)
    by_cases ha : 1 ≤ a ∧ a ≤ n - 1
    · rw [decide_eq_true ha] at HA
      have HBb := Lib.hid (l6In_any b 1 (n - 1) w)
      by_cases hb : 1 ≤ b ∧ b ≤ n - 1
      · rw [decide_eq_true hb] at HBb
        have e : a = b := Decidable.byContradiction fun c => h ⟨hn.1, hn.2, ha.1, ha.2, hb.1, hb.2, c⟩
        subst e
        clear h hn ha hb
        go_enter Try.func15, Try.ntmps15
        go_wp2_with fail
        refine HN.out.mono ?_
        rintro e w' ⟨rfl, rfl⟩
        go_wp2_with fail
        refine HA.out.mono ?_
        rintro e w' ⟨rfl, rfl⟩
        go_wp2_with fail
        refine HBb.out.mono ?_
        rintro e w' ⟨rfl, rfl⟩
        go_wp2
        go_ret
        exact ⟨rfl, rfl⟩
      · rw [decide_eq_false hb] at HBb
        clear h hn ha hb
        go_enter Try.func15, Try.ntmps15
        go_wp2_with fail
        refine HN.out.mono ?_
        rintro e w' ⟨rfl, rfl⟩
        go_wp2_with fail
        refine HA.out.mono ?_
        rintro e w' ⟨rfl, rfl⟩
        go_wp2_with fail
        refine HBb.out.mono ?_
        rintro e w' ⟨rfl, rfl⟩
        go_wp2
        go_ret
        exact ⟨rfl, rfl⟩
    · rw [decide_eq_false ha] at HA
      clear h hn ha
      go_enter Try.func15, Try.ntmps15
      go_wp2_with fail
      refine HN.out.mono ?_
      rintro e w' ⟨rfl, rfl⟩
      go_wp2_with fail
      refine HA.out.mono ?_
      rintro e w' ⟨rfl, rfl⟩
      go_wp2
      go_ret
      exact ⟨rfl, rfl⟩
  · rw [decide_eq_false hn] at HN
    clear h hn
    go_enter Try.func15, Try.ntmps15
    go_wp2_with fail
    refine HN.out.mono ?_
    rintro e w' ⟨rfl, rfl⟩
    go_wp2
    go_ret
    exact ⟨rfl, rfl⟩
theorem rest_of_nat (n x : Nat) : rest n (x : Int) = x % n := by
  unfold rest
  rw [← Int.natCast_emod]
  exact Int.toNat_natCast _
theorem anyN_false (f : Nat → Bool) (j : Nat) (h : ∀ i, i < j → f i = false) : anyN f j = false := by
  induction j with
  | zero => rfl
  | succ j ih =>
    show (anyN f j || f j) = false
    rw [ih fun i hi => h i (by omega), h j (by omega)]
    rfl
theorem anyN_true (f : Nat → Bool) (j i : Nat) (hi : i < j) (h : f i = true) : anyN f j = true := by
  induction j with
  | zero => omega
  | succ j ih =>
    show (anyN f j || f j) = true
    by_cases e : i = j
    · subst e; rw [h, Bool.or_true]
    · rw [ih (by omega), Bool.true_or]
theorem wraps_at (x : Int) (q : Nat) (h : x = (q : Int)) (hq : q ≤ 1000000) : IntKind.i64.wrap x = (q : Int) ∧ wrap64 x = (q : Int) := by
  subst h
  exact ⟨IntWalk.i64_in _ ⟨by omega, by omega⟩, IntWalk.wrap64_in _ ⟨by omega, by omega⟩⟩
theorem prod_in (a b c : Nat) (hb : a ≤ 12) (hc : b ≤ 12) : a * b ≤ 144 := Nat.mul_le_mul hb hc
/-- What is added up of both steps, in bounds. -/
theorem two_arith (a b d i : Nat) (ha : a ≤ 12) (hb : b ≤ 12) (hd : d ≤ 12) (hi : i ≤ d) : ∃ Q P1 P2 X : Nat, i * a + (d - i) * b = X ∧ X ≤ 1000 ∧
    IntKind.i64.wrap ((d : Int) - (i : Int)) = (Q : Int) ∧ wrap64 ((d : Int) - (i : Int)) = (Q : Int) ∧ IntKind.i64.wrap ((i : Int) * (a : Int)) = (P1 : Int) ∧ wrap64 ((i : Int) * (a : Int)) = (P1 : Int) ∧
    IntKind.i64.wrap ((Q : Int) * (b : Int)) = (P2 : Int) ∧ wrap64 ((Q : Int) * (b : Int)) = (P2 : Int) ∧ IntKind.i64.wrap ((P1 : Int) + (P2 : Int)) = (X : Int) ∧ wrap64 ((P1 : Int) + (P2 : Int)) = (X : Int) := by
  have hi12 : i ≤ 12 := Nat.le_trans hi hd
  have hq12 : d - i ≤ 12 := Nat.le_trans (Nat.sub_le d i) hd
  have hp1 := prod_in i a 0 hi12 ha
  have hp2 := prod_in (d - i) b 0 hq12 hb
  have hx := Nat.add_le_add hp1 hp2
  obtain ⟨w1, w2⟩ := wraps_at _ _ (Int.ofNat_sub hi).symm (Nat.le_trans hq12 (by decide))
  obtain ⟨w3, w4⟩ := wraps_at _ _ (Int.natCast_mul i a).symm (Nat.le_trans hp1 (by decide))
  obtain ⟨w5, w6⟩ := wraps_at _ _ (Int.natCast_mul (d - i) b).symm (Nat.le_trans hp2 (by decide))
  obtain ⟨w7, w8⟩ := wraps_at _ _ (Int.natCast_add (i * a) ((d - i) * b)).symm (Nat.le_trans hx (by decide))
  exact ⟨d - i, i * a, (d - i) * b, _, rfl, Nat.le_trans hx (by decide), w1, w2, w3, w4, w5, w6, w7, w8⟩
set_option maxHeartbeats 1000000 in
theorem specRoundTwo_yes (n a b : Nat) (w : World) (h2 : 2 ≤ n) (h12 : n ≤ 12) (ha1 : 1 ≤ a) (ha : a < n) (hb1 : 1 ≤ b) (hb : b < n) (hab : a ≠ b) :
    Calls Try.prog 15 #[.int .i64 (n:Int), .int .i64 (a:Int), .int .i64 (b:Int)] w fun e w' => e = .returned (.bool (twoN n a b)) ∧ Below w.heap.size w w' := by
  have HN := Lib.hid (fun W => l6In_yes (n : Int) 2 12 W (by omega) (by omega))
  have E := IntWalk.i64_in ((n:Int) - 1) ⟨by omega, by omega⟩
  have HA := Lib.hid (fun W => l6In_yes (a : Int) 1 ((n:Int) - 1) W (by omega) (by omega))
  have HBb := Lib.hid (fun W => l6In_yes (b : Int) 1 ((n:Int) - 1) W (by omega) (by omega))
  have n1 : ((a : Int) == (b : Int)) = false := by simp; omega
  have HG1 := Lib.hid (fun W => l1Gcd_any n a W (by omega) (by omega))
  have hg1 : Nat.gcd n a ≤ n := Nat.gcd_le_left a (by omega)
  have HG2 := Lib.hid (fun W => l1Gcd_any (Nat.gcd n a) b W (by omega) (by omega))
  have hba1 : IntKind.i64.wrap ((b : Int) - (a : Int)) = (b : Int) - (a : Int) := IntWalk.i64_in _ ⟨by omega, by omega⟩
  have hba2 : wrap64 ((b : Int) - (a : Int)) = (b : Int) - (a : Int) := IntWalk.wrap64_in _ ⟨by omega, by omega⟩
  have HR1 := Lib.hid (fun W => l1Rest_all n ((b : Int) - (a : Int)) W (by omega) h12 ⟨by omega, by omega⟩)
  have hrl := rest_lt n ((b : Int) - (a : Int)) (by omega)
  have HG3 := Lib.hid (fun W => l1Gcd_any n (rest n ((b : Int) - (a : Int))) W (by omega) (by omega))
  have HTw : Hid (twoN n a b = (Nat.beq (Nat.gcd (Nat.gcd n a) b) 1 && anyN (twoF n a b (twoD n a b)) (twoD n a b + 1))) := Lib.hid rfl
  have hdl : twoD n a b ≤ n := Nat.gcd_le_left _ (by omega)
  have hgd : Nat.gcd n (rest n ((b : Int) - (a : Int))) = twoD n a b := rfl
  rw [hgd] at HG3
  have hgp : 1 ≤ Nat.gcd (Nat.gcd n a) b := Nat.gcd_pos_of_pos_right _ (by omega)
  have hg9 : Nat.gcd (Nat.gcd n a) b ≤ b := Nat.gcd_le_right _ (by omega)
  generalize rest n ((b : Int) - (a : Int)) = r at *
  have HSt := Lib.hid (fun (x : Nat) W (hx : x ≤ 1000) => l1Rest_all n (x : Int) W (by omega) h12 ⟨by omega, by omega⟩)
  have HGs := Lib.hid (fun (x : Nat) W (hx : x ≤ 12) => l1Gcd_any n x W (by omega) (by omega))
  have HM := Lib.hid (fun (x : Nat) => Nat.mod_lt x (show n > 0 by omega))
  have HFd : Hid (∀ i, twoF n a b (twoD n a b) i = Nat.beq (Nat.gcd n ((i * a + (twoD n a b - i) * b) % n)) (twoD n a b)) := Lib.hid (fun i => rfl)
  clear hgd hab
  generalize twoD n a b = d at *
  generalize Nat.gcd (Nat.gcd n a) b = g2 at *
  generalize Nat.gcd n a = g1 at *
  by_cases hc : g2 = 1
  · subst hc
    have HT2 : Hid (twoN n a b = anyN (twoF n a b d) (d + 1)) := Lib.hid (by rw [HTw.out]; rfl)
    clear HTw
    go_enter Try.func15, Try.ntmps15
    go_wp2_with fail
    refine (HN.out _).mono ?_
    rintro e w' ⟨rfl, rfl⟩
    go_wp2_with fail
    refine (HA.out _).mono ?_
    rintro e w' ⟨rfl, rfl⟩
    go_wp2_with fail
    refine (HBb.out _).mono ?_
    rintro e w' ⟨rfl, rfl⟩
    go_wp2_with fail
    refine (HG1.out _).mono ?_
    rintro e w' ⟨rfl, rfl⟩
    go_wp2_with fail
    refine (HG2.out _).mono ?_
    rintro e w' ⟨rfl, rfl⟩
    go_wp2_with fail
    refine (HR1.out _).mono ?_
    rintro e w' ⟨rfl, rfl⟩
    go_wp2_with fail
    refine (HG3.out _).mono ?_
    rintro e w' ⟨rfl, rfl⟩
    go_wp2
    go_loop [8] (fun u => ∃ i : Nat, i ≤ d + 1 ∧ Hid (∀ j, j < i → twoF n a b d j = false) ∧ u = .int .i64 (i : Int)) (fun u => d + 1 - (intOf u).toNat)
    case atStart => exact ⟨0, Nat.zero_le _, Lib.hid (fun j hj => absurd hj (by omega)), rfl⟩
    case round =>
      obtain ⟨i, hi, HNo, rfl⟩ := hrel
      by_cases hle : i ≤ d
      · have hF := HFd.out i
        obtain ⟨Q, P1, P2, X, hX, hX1, w1, w2, w3, w4, w5, w6, w7, w8⟩ := two_arith a b d i (by omega) (by omega) (by omega) hle
        rw [hX] at hF
        have HSx := Lib.hid (fun W => HSt.out X W hX1)
        rw [rest_of_nat] at HSx
        have hml := HM.out X
        generalize X % n = Y at *
        have HGx := Lib.hid (fun W => HGs.out Y W (Nat.le_trans (Nat.le_of_lt hml) h12))
        generalize Nat.gcd n Y = z at *
        have i1 : (i : Int) ≤ (d : Int) := by omega
        have i2 : decide ((i : Int) ≤ (d : Int)) = true := decide_eq_true i1
        clear hX hml
        by_cases hz : z = d
        · have HF2 : Hid (twoF n a b d i = true) := Lib.hid (by rw [hF, hz]; exact Nat.beq_refl d)
          have e1 : ((z : Int) == (d : Int)) = true := by simp [hz]
          clear hF hz
          go_wp2_with fail
          refine (HSx.out _).mono ?_
          rintro e w' ⟨rfl, rfl⟩
          go_wp2_with fail
          refine (HGx.out _).mono ?_
          rintro e w' ⟨rfl, rfl⟩
          go_wp2
          go_ret
          exact ⟨ret_bool (by rw [HT2.out, anyN_true _ _ i (by omega) HF2.out]), Below.refl _ _⟩
        · have hz2 : Nat.beq z d = false := by
            cases hb : Nat.beq z d
            · rfl
            · exact absurd (Nat.eq_of_beq_eq_true hb) hz
          have HF2 : Hid (∀ j, j < i + 1 → twoF n a b d j = false) := Lib.hid (fun j hj => by
            by_cases e : j = i
            · subst e; rw [hF]; exact hz2
            · exact HNo.out j (by omega))
          have e1 : ((z : Int) == (d : Int)) = false := by simp; omega
          clear hF hz hz2
          go_wp2_with fail
          refine (HSx.out _).mono ?_
          rintro e w' ⟨rfl, rfl⟩
          go_wp2_with fail
          refine (HGx.out _).mono ?_
          rintro e w' ⟨rfl, rfl⟩
          go_wp2
          go_round
          case rel => exact ⟨i + 1, by omega, HF2.out, by go_num⟩
          case measure => simp [intOf]; omega
      · obtain rfl : i = d + 1 := by omega
        have i1 : ¬ ((d + 1 : Nat) : Int) ≤ (d : Int) := by omega
        have i2 : decide (((d + 1 : Nat) : Int) ≤ (d : Int)) = false := decide_eq_false i1
        clear hle hi
        go_wp2
        go_ret
        exact ⟨ret_bool (by rw [HT2.out, anyN_false _ _ HNo.out]), Below.refl _ _⟩
  · have HT2 : Hid (twoN n a b = false) := Lib.hid (by
      rw [HTw.out]
      cases hb : Nat.beq g2 1
      · rfl
      · exact absurd (Nat.eq_of_beq_eq_true hb) hc)
    have i1 : (1 : Int) < (g2 : Int) := by omega
    have i2 : decide ((1 : Int) < (g2 : Int)) = true := decide_eq_true i1
    clear HTw hc
    go_enter Try.func15, Try.ntmps15
    go_wp2_with fail
    refine (HN.out _).mono ?_
    rintro e w' ⟨rfl, rfl⟩
    go_wp2_with fail
    refine (HA.out _).mono ?_
    rintro e w' ⟨rfl, rfl⟩
    go_wp2_with fail
    refine (HBb.out _).mono ?_
    rintro e w' ⟨rfl, rfl⟩
    go_wp2_with fail
    refine (HG1.out _).mono ?_
    rintro e w' ⟨rfl, rfl⟩
    go_wp2_with fail
    refine (HG2.out _).mono ?_
    rintro e w' ⟨rfl, rfl⟩
    go_wp2
    go_ret
    exact ⟨ret_bool HT2.out.symm, Below.refl _ _⟩
end Go.Proofs.Ytfgolkbafnfblaa
