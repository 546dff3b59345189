/- Numbers of walks: joined, turned back, turned by units, and the sets that they reach. -/
import Derived.Test.YtnlalccnhpblkaaGN
import Derived.Test.YtnlalccnhpblkaaGC
namespace Go.Proofs.Ytnlalccnhpblkaa
set_option linter.unusedVariables false
/-- Back from x by the step d. -/
def sbN (n x d : Nat) : Nat := (x + n - d) % n
theorem twelve {n : Nat} (h1 : 1 ≤ n) (h2 : n ≤ 12) : n = 1 ∨ n = 2 ∨ n = 3 ∨ n = 4 ∨ n = 5 ∨ n = 6 ∨ n = 7 ∨ n = 8 ∨ n = 9 ∨ n = 10 ∨ n = 11 ∨ n = 12 := by omega
theorem sb_lt (n x d : Nat) (h1 : 1 ≤ n) : sbN n x d < n := Nat.mod_lt _ (by omega)
theorem sb_iff (n x d u : Nat) (h1 : 1 ≤ n) (h2 : n ≤ 12) (hx : x < n) (hd : d < n) (hu : u < n) : (u + d) % n = x ↔ u = sbN n x d := by
  unfold sbN
  rcases twelve h1 h2 with rfl | rfl | rfl | rfl | rfl | rfl | rfl | rfl | rfl | rfl | rfl | rfl <;> omega
theorem sb_swap (n x d v : Nat) (h1 : 1 ≤ n) (h2 : n ≤ 12) (hx : x < n) (hd : d < n) (hv : v < n) : sbN n (sbN n x d) v = sbN n (sbN n x v) d := by
  unfold sbN
  rcases twelve h1 h2 with rfl | rfl | rfl | rfl | rfl | rfl | rfl | rfl | rfl | rfl | rfl | rfl <;> omega
theorem sb_self (n x v : Nat) (h1 : 1 ≤ n) (h2 : n ≤ 12) (hx : x < n) (hv : v < n) : sbN n x v = 0 ↔ v = x := by
  unfold sbN
  rcases twelve h1 h2 with rfl | rfl | rfl | rfl | rfl | rfl | rfl | rfl | rfl | rfl | rfl | rfl <;> omega
theorem sb_neg (n x : Nat) (h1 : 1 ≤ n) (h2 : n ≤ 12) (hx : x < n) : sbN n 0 (sbN n 0 x) = x := by
  unfold sbN
  rcases twelve h1 h2 with rfl | rfl | rfl | rfl | rfl | rfl | rfl | rfl | rfl | rfl | rfl | rfl <;> omega
theorem sb_both (n x d : Nat) (h1 : 1 ≤ n) (h2 : n ≤ 12) (hx : x < n) (hd : d < n) : sbN n (sbN n 0 x) (sbN n 0 d) = sbN n 0 (sbN n x d) := by
  unfold sbN
  rcases twelve h1 h2 with rfl | rfl | rfl | rfl | rfl | rfl | rfl | rfl | rfl | rfl | rfl | rfl <;> omega
theorem sumTo_pick (q c : Nat) (F : Nat → Nat) (m : Nat) (h : q < m) : sumTo (fun u => if u = q then F u else 0) m = F q := by
  have e : sumTo (fun u => if u = q then F u else 0) m = sumTo (fun x => if q = x then F q else 0) m := sumTo_congr _ _ m fun u hu => by
    by_cases a : u = q
    · subst a; rfl
    · rw [if_neg a, if_neg (fun e => a e.symm)]
  rw [e, sumTo_hit, if_pos h]
/-- A sum in another order. -/
theorem sumTo_perm (F : Nat → Nat) (n : Nat) (p p' : Nat → Nat) (hp : ∀ d, d < n → p d < n) (hp' : ∀ d, d < n → p' d < n) (hi : ∀ d e, d < n → e < n → (p d = e ↔ d = p' e)) : sumTo (fun d => F (p d)) n = sumTo F n := by
  have e1 : sumTo (fun d => F (p d)) n = sumTo (fun d => sumTo (fun e => if p d = e then F e else 0) n) n := sumTo_congr _ _ n fun d hd => by
    have h := sumTo_pick (p d) 0 F n (hp d hd)
    rw [← h]
    exact sumTo_congr _ _ n fun e he => by
      by_cases a : e = p d
      · rw [if_pos a, if_pos a.symm]
      · rw [if_neg a, if_neg (fun x => a x.symm)]
  rw [e1, sumTo_swap]
  refine sumTo_congr _ _ n fun e he => ?_
  refine Eq.trans ?_ (sumTo_pick (p' e) 0 (fun _ => F e) n (hp' e he))
  exact sumTo_congr _ _ n fun d hd => by
    show (if p d = e then F e else 0) = (if d = p' e then F e else 0)
    by_cases a : d = p' e
    · rw [if_pos ((hi d e hd he).2 a), if_pos a]
    · rw [if_neg (fun x => a ((hi d e hd he).1 x)), if_neg a]
/-- Walks by their last arc. -/
theorem wlk_back (n s k x : Nat) (h1 : 1 ≤ n) (h2 : n ≤ 12) (hx : x < n) : wlkN n s (k + 1) x = sumTo (fun d => wlkN n s k (sbN n x d) * b2n (s.testBit d)) n := by
  show sumTo (fun u => sumTo (fun d => arcW n s (wlkN n s k) u d x) n) n = _
  rw [sumTo_swap]
  refine sumTo_congr _ _ n fun d hd => ?_
  have h := sumTo_pick (sbN n x d) 0 (fun u => wlkN n s k u * b2n (s.testBit d)) n (sb_lt n x d h1)
  rw [← h]
  refine sumTo_congr _ _ n fun u hu => ?_
  unfold arcW
  by_cases a : (u + d) % n = x
  · rw [if_pos a, if_pos ((sb_iff n x d u h1 h2 hx hd hu).1 a)]
  · rw [if_neg a, if_neg (fun e => a ((sb_iff n x d u h1 h2 hx hd hu).2 e))]
theorem sumTo_mulr (c : Nat) (f : Nat → Nat) (k : Nat) : sumTo (fun v => f v * c) k = sumTo f k * c := by
  rw [sumTo_congr _ (fun v => c * f v) k (fun v _ => Nat.mul_comm _ _), sumTo_mul, Nat.mul_comm]
/-- Walks joined. -/
theorem wlk_join (n s a b x : Nat) (h1 : 1 ≤ n) (h2 : n ≤ 12) (hx : x < n) : wlkN n s (a + b) x = sumTo (fun v => wlkN n s a v * wlkN n s b (sbN n x v)) n := by
  induction b generalizing x with
  | zero =>
    have h := sumTo_pick x 0 (fun v => wlkN n s a v) n hx
    rw [Nat.add_zero, ← h]
    refine sumTo_congr _ _ n fun v hv => ?_
    show _ = wlkN n s a v * (if sbN n x v = 0 then 1 else 0)
    by_cases e : v = x
    · rw [if_pos e, if_pos ((sb_self n x v h1 h2 hx hv).2 e), Nat.mul_one]
    · rw [if_neg e, if_neg (fun h => e ((sb_self n x v h1 h2 hx hv).1 h)), Nat.mul_zero]
  | succ b ih =>
    rw [show a + (b + 1) = (a + b) + 1 by omega, wlk_back n s (a + b) x h1 h2 hx]
    rw [sumTo_congr _ (fun d => sumTo (fun v => wlkN n s a v * wlkN n s b (sbN n (sbN n x v) d) * b2n (s.testBit d)) n) n (fun d hd => by
      rw [ih (sbN n x d) (sb_lt n x d h1), ← sumTo_mulr]
      exact sumTo_congr _ _ n fun v hv => by rw [sb_swap n x d v h1 h2 hx hd hv])]
    rw [sumTo_swap]
    refine sumTo_congr _ _ n fun v hv => ?_
    rw [wlk_back n s b (sbN n x v) h1 h2 (sb_lt n x v h1), ← sumTo_mul]
    exact sumTo_congr _ _ n fun d hd => Nat.mul_assoc _ _ _
/-- Walks meet halfway. -/
theorem wlk_meet (n s k : Nat) (h1 : 1 ≤ n) (h2 : n ≤ 12) : wlkN n s (2 * k) 0 = sumTo (fun v => wlkN n s k v * wlkN n s k ((n - v) % n)) n := by
  rw [show 2 * k = k + k by omega, wlk_join n s k k 0 h1 h2 (by omega)]
  refine sumTo_congr _ _ n fun v hv => ?_
  unfold sbN
  rw [Nat.zero_add]
/-- By even steps as many walks lead back. -/
theorem wlk_even (n s k x : Nat) (h1 : 1 ≤ n) (h2 : n ≤ 12) (he : ∀ d, d < n → s.testBit (sbN n 0 d) = s.testBit d) (hx : x < n) : wlkN n s k (sbN n 0 x) = wlkN n s k x := by
  induction k generalizing x with
  | zero =>
    show (if sbN n 0 x = 0 then 1 else 0) = (if x = 0 then 1 else 0)
    have := sb_self n 0 x h1 h2 (by omega) hx
    by_cases e : x = 0
    · rw [if_pos e, if_pos (this.2 e)]
    · rw [if_neg e, if_neg (fun h => e (this.1 h))]
  | succ k ih =>
    rw [wlk_back n s k _ h1 h2 (sb_lt n 0 x h1), wlk_back n s k x h1 h2 hx]
    rw [← sumTo_perm (fun d => wlkN n s k (sbN n (sbN n 0 x) d) * b2n (s.testBit d)) n (sbN n 0) (sbN n 0) (fun d _ => sb_lt n 0 d h1) (fun d _ => sb_lt n 0 d h1) (fun d e hd he => ⟨fun h => by rw [← h, sb_neg n d h1 h2 hd], fun h => by rw [h, sb_neg n e h1 h2 he]⟩)]
    refine sumTo_congr _ _ n fun d hd => ?_
    show wlkN n s k (sbN n (sbN n 0 x) (sbN n 0 d)) * b2n (s.testBit (sbN n 0 d)) = _
    rw [sb_both n x d h1 h2 hx hd, ih (sbN n x d) (sb_lt n x d h1), he d hd]
/-- Squares are walks there and back. -/
theorem wlk_square (n s k : Nat) (h1 : 1 ≤ n) (h2 : n ≤ 12) (he : ∀ d, d < n → s.testBit (sbN n 0 d) = s.testBit d) : wlkN n s (2 * k) 0 = sqN n s k n := by
  rw [show 2 * k = k + k by omega, wlk_join n s k k 0 h1 h2 (by omega)]
  exact sumTo_congr _ _ n fun v hv => by rw [wlk_even n s k v h1 h2 he hv]
theorem sumTo_pos (F : Nat → Nat) (n : Nat) : 0 < sumTo F n ↔ ∃ u, u < n ∧ 0 < F u := by
  induction n with
  | zero => exact ⟨fun h => absurd h (Nat.lt_irrefl 0), fun ⟨u, hu, _⟩ => by omega⟩
  | succ n ih =>
    have e : sumTo F (n + 1) = sumTo F n + F n := rfl
    rw [e]
    constructor
    · intro h
      rcases Nat.eq_zero_or_pos (F n) with c | c
      · obtain ⟨u, hu, hp⟩ := ih.1 (by omega)
        exact ⟨u, by omega, hp⟩
      · exact ⟨n, by omega, c⟩
    · rintro ⟨u, hu, hp⟩
      by_cases c : u = n
      · subst c; omega
      · have := ih.2 ⟨u, by omega, hp⟩
        omega
/-- The places that walks reach. -/
theorem wlk_set (n s k x : Nat) (h1 : 1 ≤ n) (hs : s < 2 ^ n) (hx : x < n) : 0 < wlkN n s k x ↔ (wsetN n s k).testBit x = true := by
  induction k generalizing x with
  | zero =>
    show 0 < (if x = 0 then 1 else 0) ↔ (1 : Nat).testBit x = true
    by_cases e : x = 0
    · subst e; simp
    · rw [if_neg e, Nat.testBit_lt_two_pow (Nat.one_lt_two_pow e)]; simp
  | succ k ih =>
    show 0 < sumTo (fun u => sumTo (fun d => arcW n s (wlkN n s k) u d x) n) n ↔ (sumN n s (wsetN n s k)).testBit x = true
    rw [sumTo_pos, sumN_bit n s _ x h1 hs]
    constructor
    · rintro ⟨u, hu, h⟩
      obtain ⟨d, hd, h⟩ := (sumTo_pos _ _).1 h
      unfold arcW at h
      by_cases c : (u + d) % n = x
      · rw [if_pos c] at h
        have hf : 0 < wlkN n s k u := Nat.pos_of_ne_zero fun e => by rw [e, Nat.zero_mul] at h; omega
        have hb : s.testBit d = true := by
          cases hb : s.testBit d
          · rw [hb] at h; simp [b2n] at h
          · rfl
        exact ⟨u, d, hu, (ih u hu).1 hf, hd, hb, c⟩
      · rw [if_neg c] at h; omega
    · rintro ⟨u, d, hu, hub, hd, hdb, e⟩
      refine ⟨u, hu, (sumTo_pos _ _).2 ⟨d, hd, ?_⟩⟩
      unfold arcW
      rw [if_pos e, hdb]
      have := (ih u hu).2 hub
      simpa [b2n] using this
/-- Walks of one arc are steps. -/
theorem wlk_one (n s x : Nat) (h1 : 1 ≤ n) (h2 : n ≤ 12) (hx : x < n) : wlkN n s 1 x = b2n (s.testBit x) := by
  rw [wlk_back n s 0 x h1 h2 hx]
  have h := sumTo_pick x 0 (fun d => b2n (s.testBit d)) n hx
  rw [← h]
  refine sumTo_congr _ _ n fun d hd => ?_
  show (if sbN n x d = 0 then 1 else 0) * b2n (s.testBit d) = _
  by_cases e : d = x
  · rw [if_pos e, if_pos ((sb_self n x d h1 h2 hx hd).2 e), Nat.one_mul]
  · rw [if_neg e, if_neg (fun h => e ((sb_self n x d h1 h2 hx hd).1 h)), Nat.zero_mul]
end Go.Proofs.Ytnlalccnhpblkaa
