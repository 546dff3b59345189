/- Walks by turned steps. -/
import Derived.Test.YtjgpdmjfpcdklaaWalkH
import Derived.Test.YtjgpdmjfpcdklaaFarP
namespace Go.Proofs.Ytjgpdmjfpcdklaa
set_option linter.unusedVariables false
theorem unit_back : ∀ n, n < 13 → ∀ m, m < n → Nat.gcd m n = 1 → ∃ m', m' < n ∧ m * m' % n = 1 % n := by decide +kernel
theorem back_back (n m m' x : Nat) (h : m * m' % n = 1 % n) (hx : x < n) : m * (m' * x % n) % n = x := by
  rw [Nat.mul_mod_mod, ← Nat.mul_assoc, Nat.mul_mod, h, ← Nat.mul_mod, Nat.one_mul, Nat.mod_eq_of_lt hx]
theorem turn_iff (n m m' d e : Nat) (h : m * m' % n = 1 % n) (hd : d < n) (he : e < n) : m * d % n = e ↔ d = m' * e % n := by
  constructor
  · intro hx
    rw [← hx]
    exact (back_back n m' m d (by rw [Nat.mul_comm]; exact h) hd).symm
  · intro hx
    rw [hx]
    exact back_back n m m' e h he
theorem wlk_turn (n s m k v : Nat) (h1 : 1 ≤ n) (h2 : n ≤ 12) (hm : m < n) (hg : Nat.gcd m n = 1) (hv : v < n) : wlkN n (turnN n s (m : Int)) k (m * v % n) = wlkN n s k v := by
  obtain ⟨m', hm', hmm⟩ := unit_back n (by omega) m hm hg
  induction k generalizing v with
  | zero =>
    show (if m * v % n = 0 then 1 else 0) = (if v = 0 then 1 else 0)
    have hi := turn_iff n m m' v 0 hmm hv (by omega)
    rw [Nat.mul_zero, Nat.zero_mod] at hi
    by_cases e : v = 0
    · rw [if_pos e, if_pos (hi.2 e)]
    · rw [if_neg e, if_neg (fun h => e (hi.1 h))]
  | succ k ih =>
    rw [wlk_back n _ k _ h1 h2 (Nat.mod_lt _ (by omega)), wlk_back n s k v h1 h2 hv]
    rw [← sumTo_perm (fun d => wlkN n (turnN n s (m : Int)) k (sbN n (m * v % n) d) * b2n ((turnN n s (m : Int)).testBit d)) n (fun d => m * d % n) (fun d => m' * d % n) (fun d _ => Nat.mod_lt _ (by omega)) (fun d _ => Nat.mod_lt _ (by omega)) (fun d e hd he => turn_iff n m m' d e hmm hd he)]
    refine sumTo_congr _ _ n fun d hd => ?_
    show wlkN n (turnN n s (m : Int)) k (sbN n (m * v % n) (m * d % n)) * b2n ((turnN n s (m : Int)).testBit (m * d % n)) = _
    have hsb := sb_lt n v d h1
    have e : sbN n (m * v % n) (m * d % n) = m * sbN n v d % n := by
      refine ((sb_iff n (m * v % n) (m * d % n) (m * sbN n v d % n) h1 h2 (Nat.mod_lt _ (by omega)) (Nat.mod_lt _ (by omega)) (Nat.mod_lt _ (by omega))).1 ?_).symm
      rw [mul_add_mod', (sb_iff n v d (sbN n v d) h1 h2 hv hd hsb).2 rfl]
    rw [e, ih (sbN n v d) hsb, turn_at n s m d h2 hm hg hd]
/-- Walks back are those of turned steps. -/
theorem wlk_turned (n s m k : Nat) (h1 : 1 ≤ n) (h2 : n ≤ 12) (hm : m < n) (hg : Nat.gcd m n = 1) : wlkN n (turnN n s (m : Int)) k 0 = wlkN n s k 0 := by
  have h := wlk_turn n s m k 0 h1 h2 hm hg (by omega)
  rw [Nat.mul_zero, Nat.zero_mod] at h
  exact h
end Go.Proofs.Ytjgpdmjfpcdklaa
