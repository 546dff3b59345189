/- Cauchy and Davenport: sums on rings of prime size have many places. -/
import Derived.Test.YthccchelemnnfaaSize
namespace Go.Proofs.Ythccchelemnnfaa
open Go.RowKit
set_option linter.unusedVariables false
theorem popF_both (f x y : Nat) : popF f (x ||| y) + popF f (x &&& y) = popF f x + popF f y := by
  induction f generalizing x y with
  | zero => simp [popF]
  | succ f ih =>
    have h1 : (x ||| y) % 2 + (x &&& y) % 2 = x % 2 + y % 2 := by
      rw [bit_zero, bit_zero (x &&& y), bit_zero x, bit_zero y, Nat.testBit_or, Nat.testBit_and]
      cases x.testBit 0 <;> cases y.testBit 0 <;> simp
    have h2 : (x ||| y) / 2 = x / 2 ||| y / 2 := Nat.eq_of_testBit_eq fun i => by
      rw [Nat.testBit_div_two, Nat.testBit_or, Nat.testBit_or, Nat.testBit_div_two, Nat.testBit_div_two]
    have h3 : (x &&& y) / 2 = x / 2 &&& y / 2 := Nat.eq_of_testBit_eq fun i => by
      rw [Nat.testBit_div_two, Nat.testBit_and, Nat.testBit_and, Nat.testBit_div_two, Nat.testBit_div_two]
    have h4 := ih (x / 2) (y / 2)
    show (x ||| y) % 2 + popF f ((x ||| y) / 2) + ((x &&& y) % 2 + popF f ((x &&& y) / 2)) = x % 2 + popF f (x / 2) + (y % 2 + popF f (y / 2))
    rw [h2, h3]
    omega
theorem popF_same (f x y : Nat) (hx : x < 2 ^ f) (hy : y < 2 ^ f) (h : ∀ i, x.testBit i = true → y.testBit i = true) (he : popF f y ≤ popF f x) : x = y := by
  induction f generalizing x y with
  | zero => simp at hx hy; omega
  | succ f ih =>
    have hs : ∀ i, (x / 2).testBit i = true → (y / 2).testBit i = true := fun i hi => by
      rw [Nat.testBit_div_two] at hi ⊢
      exact h _ hi
    have h1 : x % 2 ≤ y % 2 := by
      rw [bit_zero, bit_zero]
      have := h 0
      by_cases hx : x.testBit 0 = true
      · rw [if_pos hx, if_pos (this hx)]; exact Nat.le_refl _
      · rw [if_neg hx]; exact Nat.zero_le _
    have h2 := popF_mono f (x / 2) (y / 2) hs
    have he' : y % 2 + popF f (y / 2) ≤ x % 2 + popF f (x / 2) := he
    have := ih (x / 2) (y / 2) (by rw [Nat.pow_succ] at hx; omega) (by rw [Nat.pow_succ] at hy; omega) hs (by omega)
    omega
theorem shift_mem (n s : Nat) (k : Int) (h1 : 1 ≤ n) (hs : s < 2 ^ n) (i : Nat) (hi : i < n) : (shiftN n s k).testBit i = s.testBit (rest n ((i : Int) - k)) := by
  rw [Bool.eq_iff_iff, shiftN_bit n s k h1 hs]
  have key : ∀ v : Nat, v < n → (rest n ((v : Int) + k) = i ↔ rest n ((i : Int) - k) = v) := by
    intro v hv
    have e1 := rest_cast n ((v : Int) + k) h1
    have e2 := rest_cast n ((i : Int) - k) h1
    constructor
    · intro h
      rw [h] at e1
      have : ((i : Int) - k) % (n : Int) = (v : Int) := by
        rw [e1, Int.sub_emod, Int.emod_emod, ← Int.sub_emod, Int.add_sub_cancel]
        exact Int.emod_eq_of_lt (by omega) (by omega)
      omega
    · intro h
      rw [h] at e2
      have : ((v : Int) + k) % (n : Int) = (i : Int) := by
        rw [e2, Int.emod_add_emod, Int.sub_add_cancel]
        exact Int.emod_eq_of_lt (by omega) (by omega)
      omega
  constructor
  · rintro ⟨v, hv, h2, h3⟩
    rw [(key v hv).1 h3]; exact h2
  · intro h
    exact ⟨_, rest_lt n _ h1, h, (key _ (rest_lt n _ h1)).2 rfl⟩
theorem rest_congr' (n : Nat) (a b : Int) (h : a % (n : Int) = b % (n : Int)) : rest n a = rest n b := by unfold rest; rw [h]
theorem rest_rest (n : Nat) (a b : Int) (h1 : 1 ≤ n) : rest n (((rest n a : Nat) : Int) + b) = rest n (a + b) := by
  refine rest_congr' n _ _ ?_
  rw [rest_cast n a h1, Int.emod_add_emod]
theorem rest_both (n : Nat) (a b : Int) (h1 : 1 ≤ n) : rest n (((rest n a : Nat) : Int) + ((rest n b : Nat) : Int)) = rest n (a + b) := by
  rw [rest_rest n a _ h1, Int.add_comm, rest_rest n b _ h1, Int.add_comm]
def Prim (n : Nat) : Prop := ∀ e : Nat, e < n → 2 ≤ e → n % e ≠ 0
def primB (n : Nat) : Bool := (List.range n).all fun e => decide (e < 2) || n % e != 0
def reachB (n : Nat) : Bool := (List.range n).all fun d => d == 0 || (List.range n).all fun v => (List.range n).all fun i => (List.range n).any fun k => (v + k * d) % n == i
theorem reach_all : ((List.range 13).all fun n => !primB n || reachB n) = true := by decide +kernel
theorem reach (n : Nat) (hn : n < 13) (hP : Prim n) (d : Nat) (hd : d < n) (hd0 : 0 < d) (v : Nat) (hv : v < n) (i : Nat) (hi : i < n) : ∃ k : Nat, k < n ∧ (v + k * d) % n = i := by
  have h := List.all_eq_true.1 reach_all n (by simpa using hn)
  have hp : primB n = true := List.all_eq_true.2 fun e he => by
    have he' : e < n := by simpa using he
    by_cases h2 : e < 2
    · simp [h2]
    · have := hP e he' (by omega)
      simp [this]
  rw [hp] at h
  have h3 := List.all_eq_true.1 (show reachB n = true from by simpa using h) d (by simpa using hd)
  have h4 : ((List.range n).all fun v => (List.range n).all fun i => (List.range n).any fun k => (v + k * d) % n == i) = true := by
    have : (d == 0) = false := by simp; omega
    rw [this] at h3
    simpa using h3
  have h5 := List.all_eq_true.1 h4 v (by simpa using hv)
  have h6 := List.all_eq_true.1 h5 i (by simpa using hi)
  obtain ⟨k, hk, e⟩ := List.any_eq_true.1 h6
  exact ⟨k, by simpa using hk, eq_of_beq e⟩
theorem some_bit (s : Nat) (h : s ≠ 0) : ∃ v, s.testBit v = true := by
  refine Classical.byContradiction fun hn => h (Nat.eq_of_testBit_eq fun i => ?_)
  rw [Nat.zero_testBit]
  cases hb : s.testBit i
  · rfl
  · exact absurd ⟨i, hb⟩ hn
theorem bit_ne {s v : Nat} (h : s.testBit v = true) : s ≠ 0 := fun e => by
  rw [e, Nat.zero_testBit] at h; cases h
theorem size_le (n s : Nat) (h2 : n ≤ 12) (hs : s < 2 ^ n) : sizeN s ≤ n := by
  rw [sizeN_of n s h2 hs]
  have : ∀ f x, popF f x ≤ f := by
    intro f
    induction f with
    | zero => exact fun _ => Nat.le_refl _
    | succ f ih =>
      intro x
      have a := ih (x / 2)
      have b : x % 2 < 2 := Nat.mod_lt _ (by omega)
      show x % 2 + popF f (x / 2) ≤ f + 1
      omega
  exact this n s
theorem full_of_closed (n a d : Nat) (h2 : n ≤ 12) (hP : Prim n) (ha : a < 2 ^ n) (hne : a ≠ 0) (hd : d < n) (hd0 : 0 < d) (hc : ∀ v, v < n → a.testBit v = true → a.testBit ((v + d) % n) = true) : sizeN a = n := by
  obtain ⟨v, hv⟩ := some_bit a hne
  have hvn := lt_of_bits n a ha v hv
  have step : ∀ k, a.testBit ((v + k * d) % n) = true := by
    intro k
    induction k with
    | zero => rw [Nat.zero_mul, Nat.add_zero, Nat.mod_eq_of_lt hvn]; exact hv
    | succ k ih =>
      have h := hc _ (Nat.mod_lt _ (by omega)) ih
      rw [Nat.mod_add_mod] at h
      rw [Nat.succ_mul, ← Nat.add_assoc]
      exact h
  have all : ∀ i, i < n → a.testBit i = true := by
    intro i hi
    obtain ⟨k, _, e⟩ := reach n (by omega) hP d hd hd0 v hvn i hi
    rw [← e]; exact step k
  rw [sizeN_of n a h2 ha, popF_cnt]
  have : ∀ j, j ≤ n → cntB a j = j := by
    intro j
    induction j with
    | zero => intro _; rfl
    | succ j ih =>
      intro hj
      show cntB a j + (if a.testBit j then 1 else 0) = j + 1
      rw [all j (by omega), ih (by omega)]
      rfl
  exact this n (Nat.le_refl n)
theorem one_size : ∀ b : Nat, b < 12 → sizeN (2 ^ b) = 1 := by decide +kernel
theorem sum_mem (n a b i : Nat) (h1 : 1 ≤ n) (ha : a < 2 ^ n) (hb : b < 2 ^ n) (v w : Nat) (hv : b.testBit v = true) (hw : a.testBit w = true) (e : rest n ((v : Int) + (w : Int)) = i) : (sumN n a b).testBit i = true := by
  rw [sumN_bit n a b i h1 ha]
  refine ⟨v, w, lt_of_bits n b hb v hv, hv, lt_of_bits n a ha w hw, hw, ?_⟩
  rw [← e]
  have hj : rest n (w : Int) = w % n := by
    have := rest_add n w 0 h1
    simpa [rest] using this
  rw [rest_add n v _ h1, hj, Nat.add_mod_mod]
theorem rest_self (n v : Nat) (hv : v < n) : rest n (v : Int) = v := by
  unfold rest
  rw [Int.emod_eq_of_lt (by omega) (by omega)]
  exact Int.toNat_natCast v
set_option maxHeartbeats 1000000 in
theorem davenport (n : Nat) (h1 : 1 ≤ n) (h2 : n ≤ 12) (hP : Prim n) : ∀ m a b : Nat, a < 2 ^ n → b < 2 ^ n → a ≠ 0 → b ≠ 0 → sizeN b ≤ m → sizeN (sumN n a b) = n ∨ sizeN a + sizeN b ≤ sizeN (sumN n a b) + 1 := by
  intro m
  induction m with
  | zero =>
    intro a b ha hb hna hnb hm
    have hp := pow_le n h2
    have := size_pos b (by omega) hnb
    omega
  | succ m ih =>
    intro a b ha hb hna hnb hm
    have hp := pow_le n h2
    have hsl := size_le n (sumN n a b) h2 (sumN_lt n a b)
    by_cases hx : ∃ u v : Nat, a.testBit u = true ∧ b.testBit v = true ∧ (b &&& shiftN n a ((v : Int) - (u : Int))) ≠ b
    · obtain ⟨u, v, hu, hv, hne⟩ := hx
      have hun := lt_of_bits n a ha u hu
      have hvn := lt_of_bits n b hb v hv
      have hA' : a ||| shiftN n b ((u : Int) - (v : Int)) < 2 ^ n := Nat.or_lt_two_pow ha (shiftN_lt n b _)
      have hB' : b &&& shiftN n a ((v : Int) - (u : Int)) < 2 ^ n := Nat.lt_of_le_of_lt Nat.and_le_left hb
      have hvB : (b &&& shiftN n a ((v : Int) - (u : Int))).testBit v = true := by
        rw [Nat.testBit_and, hv, shift_mem n a _ h1 ha v hvn]
        rw [show (v : Int) - ((v : Int) - (u : Int)) = (u : Int) by omega, rest_self n u hun, hu]
        rfl
      have hA0 : a ||| shiftN n b ((u : Int) - (v : Int)) ≠ 0 := bit_ne (v := u) (by rw [Nat.testBit_or, hu]; rfl)
      have hlt : sizeN (b &&& shiftN n a ((v : Int) - (u : Int))) < sizeN b := by
        refine Classical.byContradiction fun hge => hne ?_
        exact popF_same 40 _ b (by omega) (by omega) (fun i hi => by
          rw [Nat.testBit_and] at hi
          simp at hi; exact hi.1) (by unfold sizeN at hge; omega)
      have key : shiftN n (b &&& shiftN n a ((v : Int) - (u : Int))) ((u : Int) - (v : Int)) = a &&& shiftN n b ((u : Int) - (v : Int)) := by
        refine Nat.eq_of_testBit_eq fun i => ?_
        by_cases hi : i < n
        · have hr := rest_lt n ((i : Int) - ((u : Int) - (v : Int))) h1
          rw [shift_mem n _ _ h1 hB' i hi, Nat.testBit_and, Nat.testBit_and, shift_mem n b _ h1 hb i hi, shift_mem n a _ h1 ha _ hr]
          rw [show ((rest n ((i : Int) - ((u : Int) - (v : Int))) : Nat) : Int) - ((v : Int) - (u : Int)) = ((rest n ((i : Int) - ((u : Int) - (v : Int))) : Nat) : Int) + ((u : Int) - (v : Int)) by omega]
          rw [rest_rest n _ _ h1, show (i : Int) - ((u : Int) - (v : Int)) + ((u : Int) - (v : Int)) = (i : Int) by omega, rest_self n i hi, Bool.and_comm]
        · have z1 : ∀ x, x < 2 ^ n → x.testBit i = false := fun x hx => Nat.testBit_lt_two_pow (Nat.lt_of_lt_of_le hx (Nat.pow_le_pow_right (by omega) (by omega)))
          rw [z1 _ (shiftN_lt n _ _), Nat.testBit_and, z1 a ha]
          rfl
      have s1 := size_shift n (b &&& shiftN n a ((v : Int) - (u : Int))) ((u : Int) - (v : Int)) h1 h2 hB'
      rw [key] at s1
      have s2 : sizeN (a ||| shiftN n b ((u : Int) - (v : Int))) + sizeN (a &&& shiftN n b ((u : Int) - (v : Int))) = sizeN a + sizeN (shiftN n b ((u : Int) - (v : Int))) := popF_both 40 a (shiftN n b ((u : Int) - (v : Int)))
      have s3 := size_shift n b ((u : Int) - (v : Int)) h1 h2 hb
      have hih := ih _ _ hA' hB' hA0 (bit_ne hvB) (by omega)
      have hsub : sizeN (sumN n (a ||| shiftN n b ((u : Int) - (v : Int))) (b &&& shiftN n a ((v : Int) - (u : Int)))) ≤ sizeN (sumN n a b) := by
        refine popF_mono 40 _ _ fun i hi => ?_
        rw [sumN_bit n _ _ i h1 hA'] at hi
        obtain ⟨p, q, hp', hpb, hq, hqa, e⟩ := hi
        rw [Nat.testBit_and] at hpb
        have hpb1 : b.testBit p = true := by simp at hpb; exact hpb.1
        have hpb2 : (shiftN n a ((v : Int) - (u : Int))).testBit p = true := by simp at hpb; exact hpb.2
        rw [Nat.testBit_or] at hqa
        have hpq : rest n ((p : Int) + (q : Int)) = i := by
          have hj : rest n (q : Int) = q % n := by
            have := rest_add n q 0 h1
            simpa [rest] using this
          rw [rest_add n p _ h1, hj, Nat.add_mod_mod]; exact e
        by_cases hqa1 : a.testBit q = true
        · exact sum_mem n a b i h1 ha hb p q hpb1 hqa1 hpq
        · have hqs : (shiftN n b ((u : Int) - (v : Int))).testBit q = true := by
            cases h : a.testBit q
            · rw [h] at hqa; simpa using hqa
            · exact absurd h hqa1
          rw [shift_mem n b _ h1 hb q hq] at hqs
          rw [shift_mem n a _ h1 ha p hp'] at hpb2
          refine sum_mem n a b i h1 ha hb _ _ hqs hpb2 ?_
          rw [rest_both n _ _ h1, ← hpq]
          exact rest_congr' n _ _ (by rw [show (q : Int) - ((u : Int) - (v : Int)) + ((p : Int) - ((v : Int) - (u : Int))) = (p : Int) + (q : Int) from by omega])
      clear key hlt hvB hA0 hA' hB' hp
      omega
    · have hcl : ∀ u v c : Nat, a.testBit u = true → b.testBit v = true → b.testBit c = true → a.testBit (rest n ((c : Int) - (v : Int) + (u : Int))) = true := by
        intro u v c hu hv hc
        have e : (b &&& shiftN n a ((v : Int) - (u : Int))) = b := Classical.byContradiction fun h => hx ⟨u, v, hu, hv, h⟩
        have hcn := lt_of_bits n b hb c hc
        have h3 : (b &&& shiftN n a ((v : Int) - (u : Int))).testBit c = true := by rw [e]; exact hc
        rw [Nat.testBit_and, hc, Bool.true_and, shift_mem n a _ h1 ha c hcn] at h3
        rw [show (c : Int) - (v : Int) + (u : Int) = (c : Int) - ((v : Int) - (u : Int)) by omega]
        exact h3
      have hge := size_sum_ge n a b h1 h2 ha hb hnb
      by_cases hy : ∃ v c : Nat, b.testBit v = true ∧ b.testBit c = true ∧ v ≠ c
      · obtain ⟨v, c, hv, hc, hvc⟩ := hy
        have hvn := lt_of_bits n b hb v hv
        have hcn := lt_of_bits n b hb c hc
        have hd := rest_lt n ((c : Int) - (v : Int)) h1
        have hd0 : 0 < rest n ((c : Int) - (v : Int)) := by
          refine Classical.byContradiction fun h => hvc ?_
          have h0 : rest n ((c : Int) - (v : Int)) = 0 := by omega
          have e := rest_rest n ((c : Int) - (v : Int)) (v : Int) h1
          rw [h0, show (c : Int) - (v : Int) + (v : Int) = (c : Int) by omega, rest_self n c hcn] at e
          rw [show ((0 : Nat) : Int) + (v : Int) = (v : Int) by omega, rest_self n v hvn] at e
          exact e
        have := full_of_closed n a _ h2 hP ha hna hd hd0 (fun w hw hb' => by
          have h := hcl w v c hb' hv hc
          rw [← rest_rest n _ _ h1, Int.add_comm, rest_add n w _ h1] at h
          rw [rest_self n _ hd] at h
          exact h)
        left; omega
      · obtain ⟨v, hv⟩ := some_bit b hnb
        have hvn := lt_of_bits n b hb v hv
        have hs1 : sizeN b ≤ 1 := by
          rw [← one_size v (by omega)]
          refine popF_mono 40 _ _ fun i hi => ?_
          rw [Nat.testBit_two_pow]
          have : v = i := Classical.byContradiction fun h => hy ⟨v, i, hv, hi, h⟩
          simpa using this
        right; omega
end Go.Proofs.Ythccchelemnnfaa
