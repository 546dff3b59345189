/- Ways of least length are walks of as many arcs. -/
import Derived.Test.YtookciehnjnmnaaWalkH
import Derived.Test.YtookciehnjnmnaaFarMath
namespace Go.Proofs.Ytookciehnjnmnaa
set_option linter.unusedVariables false
theorem rest_sb (n v k : Nat) (h1 : 1 ≤ n) (h2 : n ≤ 12) (hv : v < n) (hk : k < n) : rest n ((v : Int) - (k : Int)) = sbN n v k := by
  unfold rest sbN
  rcases twelve h1 h2 with rfl | rfl | rfl | rfl | rfl | rfl | rfl | rfl | rfl | rfl | rfl | rfl <;> omega
theorem wset_iter (n s k x : Nat) (h1 : 1 ≤ n) (hs : s < 2 ^ n) (h : (wsetN n s k).testBit x = true) : (iterN n s k).testBit x = true := by
  induction k generalizing x with
  | zero => exact h
  | succ k ih =>
    rw [iter_up, Nat.testBit_or, Bool.or_eq_true]
    exact .inr (sum_mono n s s _ _ h1 hs hs (fun i hi => hi) (fun i hi => ih i hi) x h)
/-- A place that a walk of d arcs reaches is at most d arcs away. -/
theorem wlk_near (n s d x : Nat) (h1 : 1 ≤ n) (h2 : n ≤ 12) (hs : s < 2 ^ n) (hx : x < n) (hdn : d ≤ n) (h : 0 < wlkN n s d x) : 0 ≤ distN n s x ∧ distN n s x ≤ (d : Int) := by
  have hi := wset_iter n s d x h1 hs ((wlk_set n s d x h1 hs hx).1 h)
  have hp : (partN n s).testBit x = true := by
    rw [← iter_part n s h1 h2 hs]
    exact iter_mono_le n s x d n hdn hi
  rw [dist_of_part n s x hp]
  refine ⟨by omega, ?_⟩
  have hl := far_lt n s x h1 h2 hs hp
  rcases Nat.lt_or_ge d n with c | c
  · have := (far_iff n s x d c).1 hi
    omega
  · omega
theorem way_walk (n s d v : Nat) (h1 : 1 ≤ n) (h2 : n ≤ 12) (hs : s < 2 ^ n) (h0 : s.testBit 0 = false) (hv : v < n) (hd : distN n s v = (d : Int)) :
    wayN n s d v = wlkN n s d v ∧ 0 < wlkN n s d v := by
  induction d generalizing v with
  | zero =>
    obtain rfl := dist_none n s v h1 hd
    exact ⟨rfl, Nat.one_pos⟩
  | succ d ih =>
    constructor
    · show sumTo (wayT n s v d (wayN n s d)) n = _
      rw [wlk_back n s d v h1 h2 hv]
      refine sumTo_congr _ _ n fun k hk => ?_
      unfold wayT
      rw [rest_sb n v k h1 h2 hv hk]
      have hz := sb_lt n v k h1
      have hb := (sb_iff n v k (sbN n v k) h1 h2 hv hk hz).2 rfl
      generalize sbN n v k = z at *
      cases hkb : s.testBit k
      · rw [if_neg (fun h => by cases h.1)]; simp [b2n]
      · by_cases c : distN n s z = (d : Int)
        · rw [if_pos ⟨rfl, c⟩, (ih z hz c).1]; simp [b2n]
        · rw [if_neg (fun h => c h.2)]
          have hzero : wlkN n s d z = 0 := by
            rcases Nat.eq_zero_or_pos (wlkN n s d z) with e | e
            · exact e
            · exfalso
              obtain ⟨a, b⟩ := wlk_near n s d z h1 h2 hs hz (by have := distN_range n s v; omega) e
              have hk1 := (dist_is_one n s k h1 hs h0 hk).2 hkb
              have ht := dist_add n s z k h1 h2 hs hz hk a (by omega)
              rw [hb, hd, hk1] at ht
              omega
          rw [hzero, Nat.zero_mul]
    · obtain ⟨k, hk1, hk, hkb, hdk⟩ := near_ex n s v d h1 h2 hs h0 hd
      rw [rest_sb n v k h1 h2 hv hk] at hdk
      rw [wlk_back n s d v h1 h2 hv]
      refine (sumTo_pos _ _).2 ⟨k, hk, ?_⟩
      have := (ih (sbN n v k) (sb_lt n v k h1) hdk).2
      rw [hkb]
      simpa [b2n] using this
/-- What FnWays says of a place. -/
theorem got_walk (n s v : Nat) (h1 : 1 ≤ n) (h2 : n ≤ 12) (hs : s < 2 ^ n) (h0 : s.testBit 0 = false) (hv : v < n) :
    (gotN n s n v = 0 ↔ distN n s v < 0) ∧ ∀ d : Nat, distN n s v = (d : Int) → gotN n s n v = wlkN n s d v := by
  have hr := distN_range n s v
  by_cases c : 0 ≤ distN n s v
  · obtain ⟨d, hd⟩ : ∃ d : Nat, distN n s v = (d : Int) := ⟨(distN n s v).toNat, by omega⟩
    have hw := way_walk n s d v h1 h2 hs h0 hv hd
    have e : gotN n s n v = wayN n s d v := by
      unfold gotN
      rw [if_pos ⟨c, by omega⟩, hd, Int.toNat_natCast]
    refine ⟨?_, fun d' hd' => ?_⟩
    · rw [e, hw.1]
      constructor
      · intro h; omega
      · intro h; omega
    · obtain rfl : d' = d := by omega
      rw [e, hw.1]
  · have e : gotN n s n v = 0 := by
      unfold gotN
      rw [if_neg (fun h => c h.1)]
    exact ⟨⟨fun _ => by omega, fun _ => e⟩, fun d hd => absurd hd (by omega)⟩
end Go.Proofs.Ytookciehnjnmnaa
