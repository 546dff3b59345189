/- Differences of sets: units that carry a set (promises 64 and 65). -/
import Derived.Test.YtaklmepioeoohaaDifP
import Derived.Test.YtaklmepioeoohaaGL
namespace Go.Proofs.Ytaklmepioeoohaa
set_option linter.unusedVariables false
/-- The units that carry a set. -/
def carS (n s m x : Nat) : Nat := if leastN n (mapN n s (m : Int) 0 n) = leastN n s then x ||| 2 ^ m else x
def carN (n s : Nat) : Nat := overSet (unitsN n) (carS n s) n 0
def carTo (n s k : Nat) : Nat := overSet (unitsN n) (carS n s) k 0
theorem car_step (n s k : Nat) : carTo n s (k + 1) = if (unitsN n).testBit k then carS n s k (carTo n s k) else carTo n s k := rfl
theorem car_lt (n s k : Nat) (hk : k ≤ n) : carTo n s k < 2 ^ n :=
  overSet_lt (carS n s) n (2 ^ n) 0 (unitsN n) k (Nat.two_pow_pos n) hk fun v x hv hx => by
    unfold carS; split
    · exact or_pow_lt n x v hx hv
    · exact hx
theorem car_bit (n s m k : Nat) : (carTo n s k).testBit m = true ↔ m < k ∧ (unitsN n).testBit m = true ∧ leastN n (act n s (m : Int) 0) = leastN n s := by
  induction k with
  | zero => exact ⟨fun h => by simp [carTo, overSet, upto] at h, fun h => by omega⟩
  | succ k ih =>
    rw [car_step]
    cases hu : (unitsN n).testBit k
    · rw [show (if false = true then carS n s k (carTo n s k) else carTo n s k) = carTo n s k from rfl, ih]
      constructor
      · rintro ⟨a, b, c⟩; exact ⟨by omega, b, c⟩
      · rintro ⟨a, b, c⟩
        refine ⟨?_, b, c⟩
        have : m ≠ k := fun e => by subst e; rw [hu] at b; cases b
        omega
    · rw [if_pos rfl]
      unfold carS
      by_cases hl : leastN n (mapN n s (k : Int) 0 n) = leastN n s
      · rw [if_pos hl, Nat.testBit_or, Bool.or_eq_true, ih, Nat.testBit_two_pow, decide_eq_true_iff]
        constructor
        · rintro (⟨a, b, c⟩ | e)
          · exact ⟨by omega, b, c⟩
          · subst e; exact ⟨by omega, hu, hl⟩
        · rintro ⟨a, b, c⟩
          by_cases e : k = m
          · exact .inr e
          · exact .inl ⟨by omega, b, c⟩
      · rw [if_neg hl, ih]
        constructor
        · rintro ⟨a, b, c⟩; exact ⟨by omega, b, c⟩
        · rintro ⟨a, b, c⟩
          refine ⟨?_, b, c⟩
          have : m ≠ k := fun e => by subst e; exact hl c
          omega
theorem rest_mod2 (n : Nat) (k : Int) (h1 : 1 ≤ n) : ((rest n k : Nat) : Int) % (n : Int) = k % (n : Int) := by
  rw [rest_cast n k h1, Int.emod_emod]
theorem sh_norm (n s : Nat) (k : Int) (h1 : 1 ≤ n) (hs : s < 2 ^ n) : shiftN n s k = shiftN n s ((rest n k : Nat) : Int) := by
  rw [← act_one n s k h1 hs, ← act_one n s _ h1 hs]
  exact act_congr n s 1 1 k _ rfl (rest_mod2 n k h1).symm
theorem sh_sh (n s : Nat) (a b : Int) (h1 : 1 ≤ n) (hs : s < 2 ^ n) : shiftN n (shiftN n s a) b = shiftN n s (a + b) := by
  rw [← act_one n _ b h1 (shiftN_lt n s a), ← act_one n s a h1 hs, ← act_one n s (a + b) h1 hs, act_act n s 1 a 1 b h1]
  simp
theorem le_sh (n s : Nat) (k : Int) (h1 : 1 ≤ n) (hs : s < 2 ^ n) : leastN n s ≤ shiftN n s k := by
  rw [sh_norm n s k h1 hs]
  exact (least_spec n s h1 hs).1 _ (rest_lt n k h1)
theorem least_sh (n s : Nat) (a : Int) (h1 : 1 ≤ n) (hs : s < 2 ^ n) : leastN n (shiftN n s a) = leastN n s := by
  obtain ⟨k, hk, e⟩ := (least_spec n s h1 hs).2
  obtain ⟨k', hk', e'⟩ := (least_spec n (shiftN n s a) h1 (shiftN_lt n s a)).2
  refine Nat.le_antisymm ?_ ?_
  · have h := le_sh n (shiftN n s a) ((k : Int) - a) h1 (shiftN_lt n s a)
    rw [sh_sh n s a _ h1 hs, show a + ((k : Int) - a) = (k : Int) by omega, ← e] at h
    exact h
  · rw [e', sh_sh n s a _ h1 hs]
    exact le_sh n s _ h1 hs
/-- A set that is turned is shifted. -/
theorem least_iff (n s x : Nat) (h1 : 1 ≤ n) (hs : s < 2 ^ n) (hx : x < 2 ^ n) : leastN n x = leastN n s ↔ ∃ k : Int, x = act n s 1 k := by
  constructor
  · intro h
    obtain ⟨j, hj, e⟩ := (least_spec n x h1 hx).2
    obtain ⟨k, hk, e'⟩ := (least_spec n s h1 hs).2
    refine ⟨(k : Int) - (j : Int), ?_⟩
    rw [act_one n s _ h1 hs]
    have h2 : shiftN n (shiftN n x (j : Int)) (-(j : Int)) = shiftN n (shiftN n s (k : Int)) (-(j : Int)) := by rw [← e, ← e', h]
    rw [sh_sh n x _ _ h1 hx, sh_sh n s _ _ h1 hs, show (j : Int) + -(j : Int) = 0 by omega, shift_zero n x h1 hx] at h2
    rw [h2]
    congr 1
  · rintro ⟨k, e⟩
    rw [e, act_one n s k h1 hs]
    exact least_sh n s k h1 hs
theorem car_iff (n s m : Nat) (h1 : 1 ≤ n) (hs : s < 2 ^ n) : (carN n s).testBit m = true ↔ m < n ∧ Nat.gcd m n = 1 ∧ ∃ k : Int, act n s (m : Int) 0 = act n s 1 k := by
  rw [show carN n s = carTo n s n from rfl, car_bit, unitsN_bit, least_iff n s _ h1 hs (act_lt n s (m : Int) 0 h1)]
  constructor
  · rintro ⟨a, ⟨_, b⟩, c⟩; exact ⟨a, b, c⟩
  · rintro ⟨a, b, c⟩; exact ⟨a, ⟨a, b⟩, c⟩
theorem car_mul (n s u m : Nat) (h1 : 1 ≤ n) (h2 : n ≤ 12) (hs : s < 2 ^ n) (hu : (carN n s).testBit u = true) (hm : (carN n s).testBit m = true) : (carN n s).testBit (rest n ((m : Int) * (u : Int))) = true := by
  obtain ⟨u1, u2, k, hk⟩ := (car_iff n s u h1 hs).1 hu
  obtain ⟨m1, m2, l, hl⟩ := (car_iff n s m h1 hs).1 hm
  refine (car_iff n s _ h1 hs).2 ⟨rest_lt n _ h1, ?_, l + (m : Int) * k, ?_⟩
  · rw [rest_mul]
    exact unit_mul n (by omega) m m1 u u1 m2 u2
  · have a : act n (act n s (u : Int) 0) (m : Int) 0 = act n s ((m : Int) * (u : Int)) 0 := by
      rw [act_act n s _ _ _ _ h1]; simp
    have b : act n (act n s 1 k) (m : Int) 0 = act n s (m : Int) ((m : Int) * k) := by
      rw [act_act n s _ _ _ _ h1]; simp
    have c : act n (act n s (m : Int) 0) 1 ((m : Int) * k) = act n s (m : Int) ((m : Int) * k) := by
      rw [act_act n s _ _ _ _ h1]; simp
    have d : act n (act n s 1 l) 1 ((m : Int) * k) = act n s 1 (l + (m : Int) * k) := by
      rw [act_act n s _ _ _ _ h1]; simp
    rw [act_congr n s ((rest n ((m : Int) * (u : Int)) : Nat) : Int) ((m : Int) * (u : Int)) 0 0 (rest_mod2 n _ h1) rfl, ← a, hk, b, ← c, hl, d]
theorem car_turn (n s m : Nat) (h1 : 1 ≤ n) (h2 : n ≤ 12) (hs : s < 2 ^ n) (hm : (carN n s).testBit m = true) : turnN n (carN n s) (m : Int) = carN n s := by
  obtain ⟨m1, m2, _⟩ := (car_iff n s m h1 hs).1 hm
  have hc : carN n s < 2 ^ n := car_lt n s n (Nat.le_refl n)
  have ht := turnN_lt n (carN n s) (m : Int) h1
  have hz := turn_unit n (carN n s) (m : Int) h1 h2 hc (by rw [rest_self n m m1]; exact m2)
  refine popF_same n _ _ ht hc (fun i hi => ?_) (by rw [← sizeN_of n _ h2 hc, ← sizeN_of n _ h2 ht, hz]; exact Nat.le_refl _)
  rw [turn_act, act_bit] at hi
  obtain ⟨v, hv, hb, e⟩ := hi
  rw [← e, Int.add_zero]
  exact car_mul n s v m h1 h2 hs hb hm
theorem car_one (n s : Nat) (h1 : 1 ≤ n) (hs : s < 2 ^ n) : (carN n s).testBit (1 % n) = true := by
  refine (car_iff n s _ h1 hs).2 ⟨Nat.mod_lt _ h1, ?_, 0, ?_⟩
  · by_cases h : n = 1
    · subst h; rfl
    · rw [Nat.mod_eq_of_lt (by omega), Nat.gcd_one_left]
  · refine act_congr n s _ 1 0 0 ?_ rfl
    rw [Int.natCast_emod]
    simp
def turnHit : Bool := (List.range 13).all fun n => (List.range n).all fun m => !Nat.beq (Nat.gcd m n) 1 || (List.range n).all fun i => (List.range n).any fun v => Nat.beq (m * v % n) i && (List.range n).all fun w => !Nat.beq (m * w % n) i || Nat.beq w v
theorem turn_hits : turnHit = true := by decide +kernel
theorem turn_hit (n : Nat) (hn : n < 13) (m : Nat) (hm : m < n) (hg : Nat.gcd m n = 1) (i : Nat) (hi : i < n) : ∃ v : Nat, v < n ∧ m * v % n = i ∧ ∀ w : Nat, w < n → m * w % n = i → w = v := by
  have a := List.all_eq_true.1 (List.all_eq_true.1 turn_hits n (List.mem_range.2 hn)) m (List.mem_range.2 hm)
  rw [hg] at a
  obtain ⟨v, hv, e⟩ := List.any_eq_true.1 (List.all_eq_true.1 (show ((List.range n).all fun i => (List.range n).any fun v => Nat.beq (m * v % n) i && (List.range n).all fun w => !Nat.beq (m * w % n) i || Nat.beq w v) = true from a) i (List.mem_range.2 hi))
  rw [Bool.and_eq_true] at e
  refine ⟨v, List.mem_range.1 hv, Nat.eq_of_beq_eq_true e.1, fun w hw hwi => ?_⟩
  have b := List.all_eq_true.1 e.2 w (List.mem_range.2 hw)
  rcases (Bool.or_eq_true _ _).mp b with c | c
  · rw [hwi, Nat.beq_refl] at c; cases c
  · exact Nat.eq_of_beq_eq_true c
theorem comp_turn (n s m : Nat) (h1 : 1 ≤ n) (h2 : n ≤ 12) (hs : s < 2 ^ n) (hm : m < n) (hg : Nat.gcd m n = 1) : act n (2 ^ n - 1 - s) (m : Int) 0 = 2 ^ n - 1 - act n s (m : Int) 0 := by
  refine ext_bits (act_lt n _ _ _ h1) (comp_lt n _) fun i hi => ?_
  obtain ⟨v, hv, e, hu⟩ := turn_hit n (by omega) m hm hg i hi
  have key : ∀ x, (act n x (m : Int) 0).testBit i = x.testBit v := fun x => by
    rw [Bool.eq_iff_iff, act_bit]
    constructor
    · rintro ⟨w, hw, hb, e2⟩
      rw [Int.add_zero, rest_mul] at e2
      rw [← hu w hw e2]; exact hb
    · intro hb
      exact ⟨v, hv, hb, by rw [Int.add_zero, rest_mul]; exact e⟩
  rw [key, comp_bit n s v hs, comp_bit n _ i (act_lt n s _ _ h1), key, decide_eq_true hv, decide_eq_true hi]
theorem comp_shift (n s : Nat) (k : Int) (h1 : 1 ≤ n) (hs : s < 2 ^ n) : act n (2 ^ n - 1 - s) 1 k = 2 ^ n - 1 - act n s 1 k := by
  rw [act_one n _ k h1 (comp_lt n s), act_one n s k h1 hs]
  refine ext_bits (shiftN_lt n _ _) (comp_lt n _) fun i hi => ?_
  have hr := rest_lt n ((i : Int) - k) h1
  rw [shift_mem n _ k h1 (comp_lt n s) i hi, comp_bit n s _ hs, comp_bit n _ i (shiftN_lt n s k), shift_mem n s k h1 hs i hi, decide_eq_true hi, decide_eq_true hr]
theorem comp_comp {n a b : Nat} (ha : a < 2 ^ n) (hb : b < 2 ^ n) (h : 2 ^ n - 1 - a = 2 ^ n - 1 - b) : a = b := by omega
theorem car_comp (n s : Nat) (h1 : 1 ≤ n) (h2 : n ≤ 12) (hs : s < 2 ^ n) : carN n (2 ^ n - 1 - s) = carN n s := by
  refine ext_bits (car_lt n _ n (Nat.le_refl n)) (car_lt n s n (Nat.le_refl n)) fun m hm => ?_
  rw [Bool.eq_iff_iff, car_iff n _ m h1 (comp_lt n s), car_iff n s m h1 hs]
  constructor
  · rintro ⟨a, b, k, e⟩
    rw [comp_turn n s m h1 h2 hs a b, comp_shift n s k h1 hs] at e
    exact ⟨a, b, k, comp_comp (act_lt n s _ _ h1) (act_lt n s _ _ h1) e⟩
  · rintro ⟨a, b, k, e⟩
    exact ⟨a, b, k, by rw [comp_turn n s m h1 h2 hs a b, comp_shift n s k h1 hs, e]⟩
/-- Multipliers: even sets of every ring, gone through one by one. -/
def rtD (n s d : Nat) : Nat := (s <<< d ||| s >>> (n - d)) &&& (2 ^ n - 1)
theorem rtD_shift (n s d : Nat) (hd : d < n) : rtD n s d = shiftN n s (d : Int) := by
  unfold rtD shiftN
  rw [rest_self n d hd]
  rfl
def dK (n s d : Nat) : Nat := popF n (s &&& rtD n s d)
theorem dK_dif (n s d : Nat) (h2 : n ≤ 12) (hs : s < 2 ^ n) (hd : d < n) : dK n s d = difN n s d := by
  unfold dK difN
  rw [rtD_shift n s d hd, sizeN_of n _ h2 (and_lt _ hs)]
def evK (n s l : Nat) : Nat → Bool
  | 0 => true
  | v + 1 => (Nat.ble v 1 || Nat.beq (dK n s v) l) && evK n s l v
theorem evK_ev (n s k : Nat) (h1 : 2 ≤ n) (h2 : n ≤ 12) (hs : s < 2 ^ n) (hk : k ≤ n) : evK n s (dK n s 1) k = evN n s k := by
  induction k with
  | zero => rfl
  | succ k ih =>
    show ((Nat.ble k 1 || Nat.beq (dK n s k) (dK n s 1)) && evK n s (dK n s 1) k) = ((Nat.ble k 1 || Nat.beq (difN n s k) (difN n s 1)) && evN n s k)
    rw [ih (by omega), dK_dif n s k h2 hs (by omega), dK_dif n s 1 h2 hs (by omega)]
/-- Whether q is a prime that divides a number, is greater than another one and is a unit. -/
def mulQ (n r l q : Nat) : Bool := Nat.ble 2 q && (Nat.blt l q && (Nat.blt 0 r && (Nat.beq (r % q) 0 && (Nat.beq (Nat.gcd q n) 1 && (List.range q).all fun d => Nat.blt d 2 || !Nat.beq (q % d) 0))))
def carK (n s q : Nat) : Bool := (List.range n).any fun k => Nat.beq (mapN n s (q : Int) 0 n) (rtD n s k)
def multB (n s l : Nat) : Bool := !evK n s l n || (List.range n).all fun q => !mulQ n (popF n s - l) l q || carK n s q
def multA (n s : Nat) : Bool := match dK n s 1 with
  | 0 => multB n s 0
  | l + 1 => multB n s (l + 1)
theorem multA_eq (n s : Nat) : multA n s = multB n s (dK n s 1) := by
  unfold multA
  cases dK n s 1 <;> rfl
def multAll (n : Nat) : Bool := (List.range 64).all fun i => (List.range 64).all fun j => Nat.ble (2 ^ n) (i * 64 + j) || multA n (i * 64 + j)
theorem mult_all : ((List.range 13).all fun n => Nat.blt n 2 || multAll n) = true := by decide +kernel
theorem p_mult (n s q : Nat) (h1 : 2 ≤ n) (h2 : n ≤ 12) (hs : s < 2 ^ n) (he : evenB n s = true) (hq : q < n) (hm : mulQ n (sizeN s - difN n s 1) (difN n s 1) q = true) : (carN n s).testBit q = true := by
  have ha := List.all_eq_true.1 mult_all n (List.mem_range.2 (by omega))
  have hb : multAll n = true := by
    rcases (Bool.or_eq_true _ _).mp ha with c | c
    · have := (blt_iff _ _).1 c; omega
    · exact c
  have hlt : s < 4096 := Nat.lt_of_lt_of_le hs (Nat.pow_le_pow_right (n := 2) (by omega) h2)
  have hc := List.all_eq_true.1 (List.all_eq_true.1 hb (s / 64) (List.mem_range.2 (by omega))) (s % 64) (List.mem_range.2 (Nat.mod_lt _ (by omega)))
  rw [show s / 64 * 64 + s % 64 = s by omega] at hc
  have hd : multB n s (dK n s 1) = true := by
    rcases (Bool.or_eq_true _ _).mp hc with c | c
    · have := Nat.le_of_ble_eq_true c; omega
    · rw [← multA_eq]; exact c
  unfold multB at hd
  rw [evK_ev n s n h1 h2 hs (Nat.le_refl n), show evN n s n = true from he, dK_dif n s 1 h2 hs (by omega), ← sizeN_of n s h2 hs] at hd
  have hf := List.all_eq_true.1 (show ((List.range n).all fun q => !mulQ n (sizeN s - difN n s 1) (difN n s 1) q || carK n s q) = true from hd) q (List.mem_range.2 hq)
  rw [hm] at hf
  obtain ⟨k, hk, e⟩ := List.any_eq_true.1 (show carK n s q = true from hf)
  rw [List.mem_range] at hk
  have hgq : Nat.gcd q n = 1 := by
    unfold mulQ at hm
    simp only [Bool.and_eq_true] at hm
    exact Nat.eq_of_beq_eq_true hm.2.2.2.2.1
  refine (car_iff n s q (by omega) hs).2 ⟨hq, hgq, (k : Int), ?_⟩
  rw [act_one n s _ (by omega) hs, ← rtD_shift n s k hk]
  exact Nat.eq_of_beq_eq_true e
end Go.Proofs.Ytaklmepioeoohaa
