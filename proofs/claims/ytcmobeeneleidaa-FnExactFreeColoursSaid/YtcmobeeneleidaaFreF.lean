/- Fair colours: the model's FreeColours. -/
import Derived.Test.YtcmobeeneleidaaFreE
namespace Go.Proofs.Ytcmobeeneleidaa
open Go.RowKit Go.Shelf
set_option linter.unusedVariables false
theorem l6fCan_any (m n s k b g cap used : Nat) (xs : List Int) (w : World) (h1 : 1 ≤ n) (h2 : n ≤ 8) (hs : s < 2 ^ n) (hk : k ≤ 1000) (hu : used ≤ 1000) (hl : xs.length + m = n)
    (hI : IsInts w b (.slice (some ⟨g, 0, none⟩) xs.length cap) xs) :
    Calls Try.prog 42 #[.int .i64 (n:Int), .int .i64 (s:Int), .int .i64 (k:Int), .slice (some ⟨g, 0, none⟩) xs.length cap, .int .i64 (used:Int)] w fun e w' => e = .returned (.bool (canN (bothN n s) k m xs used)) ∧ Below w.heap.size w w' := by
  induction m generalizing xs b g cap w used with
  | zero => exact l6fCan_zero n s k b g cap used xs w (by omega)
  | succ m ih =>
    have IH := fun (v b' g' cap' : Nat) (W : World) (hv : v < k) (hu' : v ≤ used) hX => ih b' g' cap' (max used (v + 1)) (xs ++ [(v : Int)]) W (by omega) (by rw [List.length_append, List.length_singleton]; omega) hX
    by_cases hmk : used + 1 < k
    · exact l6fCan_lo m n s k b g cap used xs w h1 h2 hs hk hu hl hmk hI IH
    · exact l6fCan_hi m n s k b g cap used xs w h1 h2 hs hk hu hl hmk hI IH
/-- The least number from k on that p lets by, f ones being tried. -/
def leastK (p : Nat → Bool) : Nat → Nat → Nat
  | 0, k => k
  | f + 1, k => if p k then k else leastK p f (k + 1)
theorem leastK_eq (p : Nat → Bool) (f k m : Nat) (h1 : k ≤ m) (h2 : m ≤ k + f) (h3 : p m = true) (h4 : ∀ j, k ≤ j → j < m → p j = false) : leastK p f k = m := by
  induction f generalizing k with
  | zero =>
    show k = m
    omega
  | succ f ih =>
    show (if p k then k else leastK p f (k + 1)) = m
    by_cases e : k = m
    · subst e; rw [if_pos h3]
    · rw [h4 k (Nat.le_refl _) (by omega)]
      exact ih (k + 1) (by omega) (by omega) fun j hj hm => h4 j (by omega) hm
theorem ok_fresh (q : Nat) (xs : List Int) (c j : Nat) (hj : j ≤ xs.length) (h : ∀ i, i < xs.length → xs.getD i 0 < (c : Int)) : okTo q xs c j = true := by
  induction j with
  | zero => rfl
  | succ j ih =>
    show (okTo q xs c j && (!q.testBit (xs.length - j) || !decide (xs.getD j 0 = (c : Int)))) = true
    rw [ih (by omega), decide_eq_false (by have := h j (by omega); omega)]
    simp
/-- With as many colours as are open there are fair ones. -/
theorem can_fresh (q k m : Nat) (xs : List Int) (used : Nat) (hu : used + m ≤ k) (h : ∀ i, i < xs.length → xs.getD i 0 < (used : Int)) : canN q k m xs used = true := by
  induction m generalizing xs used with
  | zero => rfl
  | succ m ih =>
    show anyN (fun c => okTo q xs c xs.length && canN q k m (xs ++ [(c : Int)]) (max used (c + 1))) (min k (used + 1)) = true
    refine anyN_true _ _ used (by omega) ?_
    have hm : max used (used + 1) = used + 1 := by omega
    show (okTo q xs used xs.length && canN q k m (xs ++ [(used : Int)]) (max used (used + 1))) = true
    rw [ok_fresh q xs used xs.length (Nat.le_refl _) h, hm, Bool.true_and]
    refine ih _ _ (by omega) fun i hi => ?_
    rw [List.length_append, List.length_singleton] at hi
    by_cases e : i < xs.length
    · have := h i e
      rw [List.getD_eq_getElem?_getD, List.getElem?_append_left e, ← List.getD_eq_getElem?_getD]
      omega
    · obtain rfl : i = xs.length := by omega
      rw [List.getD_eq_getElem?_getD, List.getElem?_append_right (Nat.le_refl _), Nat.sub_self]
      show (used : Int) < ((used + 1 : Nat) : Int)
      omega
def canF (n s k : Nat) : Bool := canN (bothN n s) k n [] 0
def colF (n s : Nat) : Nat := leastK (canF n s) 8 1
theorem canF_n (n s : Nat) : canF n s n = true := can_fresh _ n n [] 0 (by omega) (fun i hi => by simp at hi)
theorem colF_eq (n s k : Nat) (h1 : 1 ≤ k) (h2 : k ≤ 9) (h3 : canF n s k = true) (h4 : ∀ j, 1 ≤ j → j < k → canF n s j = false) : colF n s = k := leastK_eq _ 8 1 k h1 (by omega) h3 h4
/-- Where FreeColours tells nothing. -/
def NoCol (n s : Int) : Prop := NoStep n s ∨ ¬ n ≤ 8
theorem specFreeColours_yes (n s : Nat) (w : World) (h1 : 1 ≤ n) (h2 : n ≤ 8) (hs : s < 2 ^ n) (h0 : s.testBit 0 = false) :
    Calls Try.prog 19 #[.int .i64 (n:Int), .int .i64 (s:Int)] w fun e w' => e = .returned (.tuple #[.int .i64 ((colF n s : Nat) : Int), .bool true]) ∧ Below w.heap.size w w' := by
  have HI := Lib.hid (fun W => specStep_yes n s W h1 (by omega) hs h0)
  have HC := Lib.hid (fun k (hk : k ≤ n) W => l6fCan_any n n s k W.heap.size W.heap.size 0 0 [] (W.alloc (.cells #[] 3)) h1 h2 hs (by omega) (by omega) (by simp) (nil_made W W.heap.size (Nat.le_refl _)))
  have HF : Hid (∀ k, canN (bothN n s) k n [] 0 = canF n s k) := Lib.hid (fun k => rfl)
  have HN := Lib.hid (canF_n n s)
  have HE := Lib.hid (fun k h1 h2 h3 h4 => colF_eq n s k h1 h2 h3 h4)
  have k1 : ¬ (8 : Int) < (n : Int) := by omega
  have k2 : decide ((8 : Int) < (n : Int)) = false := decide_eq_false k1
  clear h0
  go_enter Try.func19, Try.ntmps19
  go_wp2_with (go_at_call 30; refine (HI.out _).mono ?_; rintro e w' ⟨rfl, rfl⟩)
  go_loopw [6] (fun u wr => ∃ k : Nat, 1 ≤ k ∧ k ≤ n ∧ u = .int .i64 (k : Int) ∧ Below w.heap.size w wr ∧ Hid (∀ j, 1 ≤ j → j < k → canF n s j = false)) (fun u _ => n + 1 - (intOf u).toNat)
  case atStart => exact ⟨1, Nat.le_refl _, h1, rfl, Below.refl _ _, Lib.hid (fun j a b => absurd b (by omega))⟩
  case round =>
    obtain ⟨k, hk1, hk, rfl, hB, HNo⟩ := hrel
    have HB := Lib.hid hB
    have HBa := Lib.hid (hB.alloc hB.size (.cells #[] 3))
    have HC1 := Lib.hid (HC.out k hk)
    rw [HF.out] at HC1
    clear hB
    cases hc : canF n s k
    · rw [hc] at HC1
      have hne : k ≠ n := fun e => by
        subst e
        rw [HN.out] at hc
        cases hc
      have HN2 : Hid (∀ j, 1 ≤ j → j < k + 1 → canF n s j = false) := Lib.hid (fun j h1 h2 => by
        by_cases e : j = k
        · subst e; exact hc
        · exact HNo.out j h1 (by omega))
      clear hc
      go_wp2_with fail
      refine (HC1.out _).mono ?_
      rintro e w2 ⟨rfl, hb2⟩
      have HB2 := Lib.hid (HBa.out.trans (hb2.mono HBa.out.size))
      clear hb2
      go_wp2
      go_roundw
      case rel => exact ⟨k + 1, by omega, by omega, by go_num, HB2.out, HN2⟩
      case measure => simp [intOf]; omega
    · rw [hc] at HC1
      have HF2 := Lib.hid (HE.out k hk1 (by omega) hc HNo.out)
      clear hc
      go_wp2_with fail
      refine (HC1.out _).mono ?_
      rintro e w2 ⟨rfl, hb2⟩
      have HB2 := Lib.hid (HBa.out.trans (hb2.mono HBa.out.size))
      clear hb2
      go_wp2
      go_ret2
      exact ⟨by rw [HF2.out]; rfl, HB2.out⟩
theorem specFreeColours_no (n s : Int) (w : World) (h : NoCol n s) :
    Calls Try.prog 19 #[.int .i64 n, .int .i64 s] w fun e w' => e = .returned (.tuple #[.int .i64 0, .bool false]) ∧ w = w' := by
  by_cases hn : NoStep n s
  · have HI := Lib.hid (specStep_no n s w hn)
    clear h hn
    go_enter Try.func19, Try.ntmps19
    go_wp2_with (go_at_call 30; refine HI.out.mono ?_; rintro e w' ⟨rfl, rfl⟩)
    go_ret2
    exact ⟨rfl, rfl⟩
  · obtain ⟨m, t, rfl, rfl, h1, h2, h3, h4⟩ := not_noStep hn
    have HI := Lib.hid (specStep_yes m t w h1 h2 h3 h4)
    have h8 := h.resolve_left hn
    have k1 : (8 : Int) < (m : Int) := by omega
    have k2 : decide ((8 : Int) < (m : Int)) = true := decide_eq_true k1
    clear h hn h8
    go_enter Try.func19, Try.ntmps19
    go_wp2_with (go_at_call 30; refine HI.out.mono ?_; rintro e w' ⟨rfl, rfl⟩)
    go_ret2
    exact ⟨rfl, rfl⟩
end Go.Proofs.Ytcmobeeneleidaa
