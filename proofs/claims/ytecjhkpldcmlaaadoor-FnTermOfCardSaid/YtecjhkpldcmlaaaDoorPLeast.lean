/- The laws FnLeast and FnFirst: least shifts are those of shifts; first sets are their own. -/
import Derived.Test.YtecjhkpldcmlaaaDoorGL
import Derived.Test.YtecjhkpldcmlaaaDoorAlike
import Derived.Test.YtecjhkpldcmlaaaDoorGM
import Derived.Test.YtecjhkpldcmlaaaDoorGB
namespace Go.Proofs.YtecjhkpldcmlaaaDoor
open Go.RowKit Go.Shelf
set_option linter.unusedVariables false
def OnePost (W : World) (e : Ending) (w' : World) : Prop :=
  ∃ n s : Nat, e = .returned (.tuple #[.int .i64 (n : Int), .int .i64 (s : Int)]) ∧ 1 ≤ n ∧ n ≤ 13 ∧ s < 2 ^ 13 ∧ Below W.heap.size W w'
theorem one_any (W : World) (B len cap : Nat) (A : Option Addr) (f : Nat → Nat) (hC : Code W B A len f) (hB : B ≤ W.heap.size) (hlc : len ≤ cap) (hcap : cap ≤ 9223372036854775807) :
    Calls Tryd.prog 55 #[.slice A len cap] W (OnePost W) := by
  have HC := Lib.hid (open_any W B len cap A f hC hB hlc hcap)
  clear hC
  go_enter Tryd.func55, Tryd.ntmps55
  go_wp2_with fail
  refine HC.out.mono ?_
  rintro e w1 ⟨R, A', len', cap', rfl, hR, hl, hRd, hCd, hb1⟩
  have z1 := hb1.size
  have HRd : Hid (Reader w1 B R 0) := Lib.hid ⟨⟨A', len', cap', f, hRd, hCd, hl⟩, by omega⟩
  clear hRd hCd
  go_wp2_with fail
  refine (set_any w1 B R 0 HRd.out (by omega)).mono ?_
  rintro e w2 ⟨n, s, q, rfl, hn1, hn2, hs, hq, hR2, hA2⟩
  have HB2 := Lib.hid (hb1.trans (hA2.below (m := W.heap.size) hR z1))
  clear hR2 hA2
  go_wp2
  go_ret2
  exact ⟨n, s, rfl, hn1, hn2, hs, HB2.out⟩
theorem rest_mod (n : Nat) (k : Int) (h1 : 1 ≤ n) : ((rest n k : Nat) : Int) % (n : Int) = k % (n : Int) := by
  rw [rest_cast n k h1, Int.emod_emod]
theorem shift_norm (n s : Nat) (k : Int) (h1 : 1 ≤ n) (hs : s < 2 ^ n) : shiftN n s k = shiftN n s ((rest n k : Nat) : Int) := by
  rw [← act_one n s k h1 hs, ← act_one n s _ h1 hs]
  exact act_congr n s 1 1 k _ rfl (rest_mod n k h1).symm
theorem shift_shift (n s : Nat) (a b : Int) (h1 : 1 ≤ n) (hs : s < 2 ^ n) : shiftN n (shiftN n s a) b = shiftN n s (a + b) := by
  rw [← act_one n _ b h1 (shiftN_lt n s a), ← act_one n s a h1 hs, ← act_one n s (a + b) h1 hs, act_act n s 1 a 1 b h1]
  simp
theorem least_le (n s : Nat) (k : Int) (h1 : 1 ≤ n) (hs : s < 2 ^ n) : leastN n s ≤ shiftN n s k := by
  rw [shift_norm n s k h1 hs]
  exact (least_spec n s h1 hs).1 _ (rest_lt n k h1)
theorem least_shift (n s : Nat) (a : Int) (h1 : 1 ≤ n) (hs : s < 2 ^ n) : leastN n (shiftN n s a) = leastN n s := by
  obtain ⟨k, hk, e⟩ := (least_spec n s h1 hs).2
  obtain ⟨k', hk', e'⟩ := (least_spec n (shiftN n s a) h1 (shiftN_lt n s a)).2
  refine Nat.le_antisymm ?_ ?_
  · have h := least_le n (shiftN n s a) ((k : Int) - a) h1 (shiftN_lt n s a)
    rw [shift_shift n s a _ h1 hs, show a + ((k : Int) - a) = (k : Int) by omega, ← e] at h
    exact h
  · rw [e', shift_shift n s a _ h1 hs]
    exact least_le n s _ h1 hs
theorem least_self (n s : Nat) (h1 : 1 ≤ n) (hs : s < 2 ^ n) : leastN n s ≤ s := by
  have h := least_le n s 0 h1 hs
  rw [shift_zero n s h1 hs] at h
  exact h
theorem act_unit (n s : Nat) (k : Nat) (h1 : 1 ≤ n) (hs : s < 2 ^ n) : ∃ e : Nat, e < n ∧ Nat.gcd e n = 1 ∧ shiftN n s (k : Int) = act n s e k := by
  obtain ⟨e, he, hg, hm⟩ := unit_one n h1
  refine ⟨e, he, hg, ?_⟩
  rw [← act_one n s k h1 hs]
  exact act_congr n s 1 e k k hm.symm rfl
theorem first_least (n s : Nat) (h1 : 1 ≤ n) (h2 : n ≤ 12) (hs : s < 2 ^ n) : firstN n (leastN n s) = firstN n s := by
  obtain ⟨k, hk, e⟩ := (least_spec n s h1 hs).2
  obtain ⟨u, hu, hg, ha⟩ := act_unit n s k h1 hs
  rw [e, ha]
  exact first_act n s u k h1 h2 hs hu hg hk
theorem first_le_least (n s : Nat) (h1 : 1 ≤ n) (hs : s < 2 ^ n) : firstN n s ≤ leastN n s := by
  obtain ⟨k, hk, e⟩ := (least_spec n s h1 hs).2
  obtain ⟨u, hu, hg, ha⟩ := act_unit n s k h1 hs
  rw [e, ha]
  exact first_le n s u k h1 hs hu hg hk
end Go.Proofs.YtecjhkpldcmlaaaDoor
