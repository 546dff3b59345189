/- Texts of mine, laid together: FarW FarX FarY FarZ. -/
import Derived.Test.YtjgpdmjfpcdklaaGD
/- Ways of least length: how many words of steps lead to each place, level by level. -/
namespace Go.Proofs.Ytjgpdmjfpcdklaa
open Go.RowKit
set_option linter.unusedVariables false
/-- The ways to v by way of the step k, where F holds the ways of places of the distance d. -/
def wayT (n s v d : Nat) (F : Nat → Nat) (k : Nat) : Nat := if s.testBit k = true ∧ distN n s (rest n ((v : Int) - (k : Int))) = (d : Int) then F (rest n ((v : Int) - (k : Int))) else 0
/-- The ways to v, if its distance is d. -/
def wayN (n s : Nat) : Nat → Nat → Nat
  | 0, v => b2n (v == 0)
  | d + 1, v => sumTo (wayT n s v d (wayN n s d)) n
/-- The row of ways after the distance d. -/
def gotN (n s d x : Nat) : Nat := if 0 ≤ distN n s x ∧ distN n s x ≤ (d : Int) then wayN n s (distN n s x).toNat x else 0
/-- .. when the places below v have been asked for the distance d + 1. -/
def midN (n s d v x : Nat) : Nat := if distN n s x = ((d + 1 : Nat) : Int) then (if x < v then wayN n s (d + 1) x else 0) else gotN n s d x
/-- .. and of v itself the steps below k. -/
def rowN (n s d v k x : Nat) : Nat := if x = v then sumTo (wayT n s v d (wayN n s d)) k else midN n s d v x
theorem sumTo_le (f : Nat → Nat) (b k : Nat) (h : ∀ v, f v ≤ b) : sumTo f k ≤ b * k := by
  induction k with
  | zero => exact Nat.zero_le _
  | succ k ih =>
    show sumTo f k + f k ≤ b * (k + 1)
    have := h k
    rw [Nat.mul_succ]
    omega
theorem way_le (n s : Nat) (h2 : n ≤ 12) (d v : Nat) : wayN n s d v ≤ 12 ^ d := by
  induction d generalizing v with
  | zero => show b2n (v == 0) ≤ 1; unfold b2n; split <;> omega
  | succ d ih =>
    show sumTo (wayT n s v d (wayN n s d)) n ≤ 12 ^ (d + 1)
    have h := sumTo_le (wayT n s v d (wayN n s d)) (12 ^ d) n (fun k => by unfold wayT; split; exact ih _; exact Nat.zero_le _)
    have h' : 12 ^ d * n ≤ 12 ^ d * 12 := Nat.mul_le_mul_left _ h2
    rw [Nat.pow_succ]
    omega
theorem pow12 (d : Nat) (h : d ≤ 13) : 12 ^ d ≤ 106993205379072 := by
  have : (12 : Nat) ^ d ≤ 12 ^ 13 := Nat.pow_le_pow_right (by omega) h
  have e : (12 : Nat) ^ 13 = 106993205379072 := by decide
  omega
theorem ways_le (n s v d k : Nat) (h2 : n ≤ 12) (hk : k ≤ n) (hd : d ≤ 12) : sumTo (wayT n s v d (wayN n s d)) k ≤ 106993205379072 := by
  have h := sumTo_le (wayT n s v d (wayN n s d)) (12 ^ d) k (fun k => by unfold wayT; split; exact way_le n s h2 d _; exact Nat.zero_le _)
  have h' : 12 ^ d * k ≤ 12 ^ d * 12 := Nat.mul_le_mul_left _ (by omega)
  have h3 := pow12 (d + 1) (by omega)
  rw [Nat.pow_succ] at h3
  omega
theorem dist_zero (n s : Nat) (h1 : 1 ≤ n) (h2 : n ≤ 12) (hs : s < 2 ^ n) : distN n s 0 = 0 := by
  have hb : (iterN n s 0).testBit 0 = true := by
    show Nat.testBit 1 0 = true
    rfl
  have hp : (partN n s).testBit 0 = true := by
    rw [← iter_part n s h1 h2 hs]
    exact iter_mono_le n s 0 0 n (Nat.zero_le _) hb
  have hf := (far_iff n s 0 0 (by omega)).1 hb
  unfold distN
  rw [if_pos hp]
  omega
theorem got_zero (n s x : Nat) (h1 : 1 ≤ n) (h2 : n ≤ 12) (hs : s < 2 ^ n) : gotN n s 0 x = if x = 0 then 1 else 0 := by
  unfold gotN
  by_cases e : x = 0
  · subst e
    rw [dist_zero n s h1 h2 hs]
    rfl
  · rw [if_neg e]
    split
    · rename_i h
      have h0 : (distN n s x).toNat = 0 := by omega
      rw [h0]
      show b2n (x == 0) = 0
      simp [b2n, e]
    · rfl
theorem mid_zero (n s d x : Nat) : midN n s d 0 x = gotN n s d x := by
  unfold midN gotN
  split
  · rename_i h
    rw [if_neg (by omega), if_neg (by omega)]
  · rfl
theorem mid_end (n s d x : Nat) (hx : x < n) : midN n s d n x = gotN n s (d + 1) x := by
  unfold midN gotN
  by_cases h : distN n s x = ((d + 1 : Nat) : Int)
  · rw [if_pos h, if_pos hx, if_pos (by omega), h]
    simp
  · rw [if_neg h]
    by_cases h' : 0 ≤ distN n s x ∧ distN n s x ≤ (d : Int)
    · rw [if_pos h', if_pos (by omega)]
    · rw [if_neg h', if_neg (by omega)]
theorem mid_skip (n s d v x : Nat) (h : ¬ distN n s v = ((d + 1 : Nat) : Int)) : midN n s d (v + 1) x = midN n s d v x := by
  unfold midN
  by_cases e : x = v
  · subst e
    rw [if_neg h, if_neg h]
  · by_cases a : x < v
    · simp only [if_pos a, if_pos (show x < v + 1 by omega)]
    · simp only [if_neg a, if_neg (show ¬ x < v + 1 by omega)]
theorem row_start (n s d v x : Nat) (h0 : s.testBit 0 = false) (h : distN n s v = ((d + 1 : Nat) : Int)) : rowN n s d v 1 x = midN n s d v x := by
  unfold rowN
  by_cases e : x = v
  · subst e
    rw [if_pos rfl]
    unfold midN
    rw [if_pos h, if_neg (by omega)]
    show 0 + wayT n s x d (wayN n s d) 0 = 0
    unfold wayT
    rw [if_neg (by rw [h0]; simp)]
  · rw [if_neg e]
theorem row_end (n s d v x : Nat) (h : distN n s v = ((d + 1 : Nat) : Int)) : rowN n s d v n x = midN n s d (v + 1) x := by
  unfold rowN
  by_cases e : x = v
  · subst e
    rw [if_pos rfl]
    unfold midN
    rw [if_pos h, if_pos (by omega)]
    rfl
  · rw [if_neg e]
    unfold midN
    by_cases a : x < v
    · simp only [if_pos a, if_pos (show x < v + 1 by omega)]
    · simp only [if_neg a, if_neg (show ¬ x < v + 1 by omega)]
theorem row_skip (n s d v k x : Nat) (h : ¬ (s.testBit k = true ∧ distN n s (rest n ((v : Int) - (k : Int))) = (d : Int))) : rowN n s d v (k + 1) x = rowN n s d v k x := by
  unfold rowN
  show (if x = v then sumTo (wayT n s v d (wayN n s d)) k + wayT n s v d (wayN n s d) k else midN n s d v x) = _
  have e : wayT n s v d (wayN n s d) k = 0 := by unfold wayT; rw [if_neg h]
  rw [e]
  rfl
theorem row_other (n s d v k z : Nat) (hv : distN n s v = ((d + 1 : Nat) : Int)) (hz : distN n s z = (d : Int)) : rowN n s d v k z = wayN n s d z := by
  unfold rowN
  rw [if_neg (fun e => by rw [e, hv] at hz; omega)]
  unfold midN
  rw [if_neg (by omega)]
  unfold gotN
  rw [if_pos (by omega), hz]
  simp
theorem row_step (n s d v k z : Nat) (hz : rest n ((v : Int) - (k : Int)) = z) (hk : s.testBit k = true) (hv : distN n s v = ((d + 1 : Nat) : Int)) (hd : distN n s z = (d : Int)) (x : Nat) :
    ((rowN n s d v (k + 1) x : Nat) : Int) = if x = v then ((rowN n s d v k v : Nat) : Int) + ((rowN n s d v k z : Nat) : Int) else ((rowN n s d v k x : Nat) : Int) := by
  rw [row_other n s d v k z hv hd]
  unfold rowN
  by_cases e : x = v
  · subst e
    rw [if_pos rfl, if_pos rfl, if_pos rfl]
    show ((sumTo (wayT n s x d (wayN n s d)) k + wayT n s x d (wayN n s d) k : Nat) : Int) = _
    have e : wayT n s x d (wayN n s d) k = wayN n s d z := by unfold wayT; rw [hz, if_pos ⟨hk, hd⟩]
    rw [e]
    simp
  · rw [if_neg e, if_neg e, if_neg e]
theorem row_le (n s d v k : Nat) (h2 : n ≤ 12) (hk : k ≤ n) (hd : d ≤ 12) : rowN n s d v k v ≤ 106993205379072 := by
  unfold rowN
  rw [if_pos rfl]
  exact ways_le n s v d k h2 hk hd
theorem other_le (n s d v k z : Nat) (h2 : n ≤ 12) (hd' : d ≤ 12) (hv : distN n s v = ((d + 1 : Nat) : Int)) (hz : distN n s z = (d : Int)) : rowN n s d v k z ≤ 106993205379072 := by
  rw [row_other n s d v k z hv hz]
  have := way_le n s h2 d z
  have := pow12 d (by omega)
  omega
end Go.Proofs.Ytjgpdmjfpcdklaa

/- The model's ways of least length. -/
namespace Go.Proofs.Ytjgpdmjfpcdklaa
open Go.RowKit
set_option linter.unusedVariables false
/-- A row of natural numbers, as a list of integers. -/
def tabW (n : Nat) (F : Nat → Nat) : List Int := tabI n (fun x => ((F x : Nat) : Int))
theorem tabW_len (n : Nat) (F : Nat → Nat) : (tabW n F).length = n := tabI_len n _
theorem tabW_get (n : Nat) (F : Nat → Nat) (i : Nat) (hi : i < n) : (tabW n F).getD i 0 = ((F i : Nat) : Int) := tabI_get n _ i hi
theorem tabW_congr (n : Nat) (F G : Nat → Nat) (h : ∀ x, x < n → F x = G x) : tabW n F = tabW n G := tabI_congr n _ _ fun x hx => by rw [h x hx]
theorem specFarWays_no (n s : Int) (w : World) (h : NoStep n s) :
    Calls Try.prog 16 #[.int .i64 n, .int .i64 s] w (NonePost w) := by
  have HI := Lib.hid (specStep_no n s w h)
  clear h
  go_enter Try.func16, Try.ntmps16
  go_wp2_with (go_at_call 35; refine HI.out.mono ?_; rintro e w' ⟨rfl, rfl⟩)
  go_ret2
  exact ⟨_, rfl, (Below.refl _ _).alloc (Nat.le_refl _) _, World.ownsRow_lit w #[] 0 (Nat.le_refl _) (by simp [maxLen]) rfl⟩
set_option maxRecDepth 100000 in
set_option maxHeartbeats 4000000 in
theorem specFarWays_yes (n s : Nat) (w : World) (h1 : 1 ≤ n) (h2 : n ≤ 12) (hs : s < 2 ^ n) (h0 : s.testBit 0 = false) :
    Calls Try.prog 16 #[.int .i64 (n:Int), .int .i64 (s:Int)] w (ListsPost w n (tabW n (gotN n s n))) := by
  have hp := pow_le n h2
  have HI := Lib.hid (specStep_yes n s w h1 h2 hs h0)
  have HL := Lib.hid (l3List_any n s w h1 h2 hs)
  have HG0 : Hid ((tabI n (fun _ => 0)).set 0 1 = tabW n (gotN n s 0)) := Lib.hid (by
    rw [tabI_set]
    exact tabI_congr n _ _ fun x hx => by
      show (if x = 0 then (1 : Int) else 0) = ((gotN n s 0 x : Nat) : Int)
      rw [got_zero n s x h1 h2 hs]
      split <;> rfl)
  have HS0 := Lib.hid (fun (d v : Nat) (hv : distN n s v = ((d + 1 : Nat) : Int)) => tabW_congr n (midN n s d v) (rowN n s d v 1) fun x _ => (row_start n s d v x h0 hv).symm)
  have HH := Lib.hid h0
  have hmk := make_ints n (by omega)
  have HMk := Lib.hid (made_ints n (by omega))
  clear h0
  go_enter Try.func16, Try.ntmps16
  go_wp2_with fail
  refine HI.out.mono ?_
  rintro e w' ⟨rfl, rfl⟩
  go_wp2_with fail
  refine HL.out.mono ?_
  rintro e w1 ⟨g, cap, rfl, hb1, hI1⟩
  have HI1 := Lib.hid hI1
  have HB1 := Lib.hid hb1
  have z1 := hb1.size
  have hgl := (World.ownsRow.lt hI1 g rfl).2
  have hgb := (World.ownsRow.lt hI1 g rfl).1
  have hMk := hmk w1
  have HMk1 := Lib.hid (HMk.out w1)
  have hlen := tabI_len n (distN n s)
  have hlz := tabI_len n (fun _ => (0 : Int))
  clear hb1 hmk hI1
  have HL2 : Hid (IsInts (w1.alloc (.cells (madeCells #[.int .i64 0] n) 3)) w.heap.size (.slice (some ⟨g, 0, none⟩) n cap) (tabI n (distN n s))) := Lib.hid (World.ownsRow.alloc HI1.out _)
  have hO2 : IsInts (w1.alloc (.cells (madeCells #[.int .i64 0] n) 3)) w1.heap.size (.slice (some ⟨w1.heap.size, 0, none⟩) (tabI n (fun _ => (0 : Int))).length n) (tabI n (fun _ => (0 : Int))) := by
    have h := HMk1.out
    rw [zeros_tab] at h
    rw [hlz]
    exact h
  have HB2 : Hid (Below w.heap.size w (w1.alloc (.cells (madeCells #[.int .i64 0] n) 3))) := Lib.hid (HB1.out.alloc z1 _)
  have hc0 := hO2.cell (i := 0) (by rw [hlz]; exact h1)
  have hf0 := hO2.frozen 0
  have h3 := hO2.set 0 1
  rw [HG0.out, tabW_len] at h3
  have HO3 := Lib.hid h3
  have HB3 := Lib.hid (HB2.out.setCell (p := ⟨w1.heap.size, 0, none⟩) (by simp; omega) (.int .i64 1))
  have HL3 := Lib.hid (HL2.out.aside (g' := w1.heap.size) (by omega) 0 (.int .i64 1))
  rw [tabI_get n _ 0 h1] at hc0
  clear h3 hO2 HMk HMk1 HG0 HB2 HL2 hlz
  have i01 : (0 : Int) < (n : Int) := by omega
  obtain ⟨W0, hW0⟩ : ∃ W0, w1.alloc (.cells (madeCells #[.int .i64 0] n) 3) = W0 := ⟨_, rfl⟩
  rw [hW0] at HL3 HO3 HB3 hc0 hf0 hMk
  go_wp2
  go_loopw [8] (fun u wr => ∃ d : Nat, d ≤ n ∧ u = .int .i64 ((d + 1 : Nat) : Int) ∧ IsInts wr w.heap.size (.slice (some ⟨g, 0, none⟩) n cap) (tabI n (distN n s)) ∧ IsInts wr w1.heap.size (.slice (some ⟨w1.heap.size, 0, none⟩) n n) (tabW n (gotN n s d)) ∧ Below w.heap.size w wr) (fun u _ => n + 1 - (intOf u).toNat)
  case atStart => exact ⟨0, Nat.zero_le _, rfl, HL3.out, HO3.out, HB3.out⟩
  case round =>
    obtain ⟨d, hd, rfl, hl, ho, hB⟩ := hrel
    have HLr := Lib.hid hl
    have HBr := Lib.hid hB
    have hM0 := tabW_congr n (gotN n s d) (midN n s d 0) fun x _ => (mid_zero n s d x).symm
    rw [hM0] at ho
    have HOr := Lib.hid ho
    clear hl ho hB hM0 hc0 hf0 hMk HO3 HB3 HL3
    by_cases hlt : d < n
    · have HEnd := Lib.hid (tabW_congr n (midN n s d n) (gotN n s (d + 1)) fun x hx => mid_end n s d x hx)
      obtain ⟨D, hD⟩ : ∃ D, d + 1 = D := ⟨_, rfl⟩
      have hDn : D ≤ n := by omega
      have HD := Lib.hid hD
      rw [hD]
      clear hD hlt
      go_wp2
      obtain ⟨wo, rfl⟩ : ∃ wo : World, wo = wr := ⟨_, rfl⟩
      go_loopw [9] (fun u wr => ∃ v : Nat, v ≤ n ∧ u = .int .i64 (v : Int) ∧ IsInts wr w.heap.size (.slice (some ⟨g, 0, none⟩) n cap) (tabI n (distN n s)) ∧ IsInts wr w1.heap.size (.slice (some ⟨w1.heap.size, 0, none⟩) n n) (tabW n (midN n s d v)) ∧ Below w.heap.size w wr) (fun u _ => n - (intOf u).toNat)
      case atStart => exact ⟨0, Nat.zero_le _, rfl, HLr.out, HOr.out, HBr.out⟩
      case round =>
        obtain ⟨v, hv, rfl, hl, ho, hB⟩ := hrel
        have HLv := Lib.hid hl
        have HOv := Lib.hid ho
        have HBv := Lib.hid hB
        clear hl ho hB HLr HOr HBr
        by_cases hlv : v < n
        · by_cases hdD : distN n s v = (D : Int)
          · have hdv : distN n s v = ((d + 1 : Nat) : Int) := by rw [HD.out]; exact hdD
            have HDD := Lib.hid hdD
            have HDv := Lib.hid hdv
            have HE1 : Hid ((D : Int) - 1 = (d : Int)) := Lib.hid (by have h := HD.out; omega)
            clear hdD
            have HRs := Lib.hid (HS0.out d v hdv)
            have HRe := Lib.hid (tabW_congr n (rowN n s d v n) (midN n s d (v + 1)) fun x _ => row_end n s d v x hdv)
            clear hdv
            go_wp2
            obtain ⟨wp, rfl⟩ : ∃ wp : World, wp = wr := ⟨_, rfl⟩
            go_loopw [10] (fun u wr => ∃ k : Nat, 1 ≤ k ∧ k ≤ n ∧ u = .int .i64 (k : Int) ∧ IsInts wr w.heap.size (.slice (some ⟨g, 0, none⟩) n cap) (tabI n (distN n s)) ∧ IsInts wr w1.heap.size (.slice (some ⟨w1.heap.size, 0, none⟩) n n) (tabW n (rowN n s d v k)) ∧ Below w.heap.size w wr) (fun u _ => n - (intOf u).toNat)
            case atStart => exact ⟨1, Nat.le_refl _, h1, rfl, HLv.out, by rw [← HRs.out]; exact HOv.out, HBv.out⟩
            case round =>
              obtain ⟨k, hk1, hk, rfl, hl, ho, hB⟩ := hrel
              have HLk := Lib.hid hl
              have HOk := Lib.hid ho
              have HBk := Lib.hid hB
              clear hl ho hB HLv HOv HBv
              have c1 := HLk.out.cell (i := v) (by rw [hlen]; exact hlv)
              rw [tabI_get n _ v hlv, HDD.out] at c1
              have i1 : (0 : Int) ≤ (v : Int) := by omega
              have i2 : (v : Int) < (n : Int) := by omega
              by_cases hlk : k < n
              · have HR := Lib.hid (fun W => l1Rest_any n ((v : Int) - (k : Int)) W h1 h2 ⟨by omega, by omega⟩)
                have hvk : IntKind.i64.wrap ((v : Int) - (k : Int)) = (v : Int) - (k : Int) := IntWalk.i64_in _ ⟨by omega, by omega⟩
                have hrl := rest_lt n ((v : Int) - (k : Int)) h1
                have HSk := Lib.hid (fun x h => row_skip n s d v k x h)
                have HSt := Lib.hid (fun z (hz : rest n ((v : Int) - (k : Int)) = z) hk hd => row_step n s d v k z hz hk HDv.out hd)
                have HOl := Lib.hid (fun z hz => other_le n s d v k z h2 (by omega) HDv.out hz)
                have HVl := Lib.hid (row_le n s d v k h2 hk (by omega))
                have hbt := has_nat s k (by omega)
                have hE1 := HE1.out
                have hE2 : IntKind.i64.wrap ((D : Int) - 1) = (d : Int) := by rw [hE1]; exact IntWalk.i64_in _ ⟨by omega, by omega⟩
                obtain ⟨z, hz⟩ : ∃ z, rest n ((v : Int) - (k : Int)) = z := ⟨_, rfl⟩
                rw [hz] at HR hrl HSk
                have HZ := Lib.hid hz
                clear hz
                have i3 : (0 : Int) ≤ (z : Int) := by omega
                have i4 : (z : Int) < (n : Int) := by omega
                have c2 := HLk.out.cell (i := z) (by rw [hlen]; exact hrl)
                rw [tabI_get n _ z hrl] at c2
                by_cases hb : s.testBit k = true
                · rw [hb] at hbt
                  by_cases hdz : distN n s z = (d : Int)
                  · rw [hdz] at c2
                    have hE : Hid (tabI n (fun x => if x = v then ((rowN n s d v k v : Nat) : Int) + ((rowN n s d v k z : Nat) : Int) else ((rowN n s d v k x : Nat) : Int)) = tabW n (rowN n s d v (k + 1))) := Lib.hid (tabI_congr n _ _ fun x hx => (HSt.out z HZ.out hb hdz x).symm)
                    have l1 := HOl.out z hdz
                    have l2 := HVl.out
                    have hlen2 := tabW_len n (rowN n s d v k)
                    have cv := HOk.out.cell (i := v) (by rw [hlen2]; exact hlv)
                    have cz := HOk.out.cell (i := z) (by rw [hlen2]; exact hrl)
                    rw [tabW_get n _ v hlv] at cv
                    rw [tabW_get n _ z hrl] at cz
                    have hI3 : IsInts wr w1.heap.size (.slice (some ⟨w1.heap.size, 0, none⟩) (tabW n (rowN n s d v k)).length n) (tabW n (rowN n s d v k)) := by rw [hlen2]; exact HOk.out
                    have fv := hI3.frozen v
                    have h3 := hI3.set v (((rowN n s d v k v : Nat) : Int) + ((rowN n s d v k z : Nat) : Int))
                    unfold tabW at h3
                    rw [tabI_set, tabI_len, hE.out] at h3
                    have HI3 := Lib.hid h3
                    have hsz : w1.heap.size < wr.heap.size := World.block_lt_of_cell? wr _ cv
                    have HBn : Hid (Below w.heap.size w (wr.setCell ⟨w1.heap.size, v, none⟩ (.int .i64 (((rowN n s d v k v : Nat) : Int) + ((rowN n s d v k z : Nat) : Int))))) := Lib.hid (HBk.out.setCell (p := ⟨w1.heap.size, v, none⟩) (by simp; omega) _)
                    have HLn : Hid (IsInts (wr.setCell ⟨w1.heap.size, v, none⟩ (.int .i64 (((rowN n s d v k v : Nat) : Int) + ((rowN n s d v k z : Nat) : Int)))) w.heap.size (.slice (some ⟨g, 0, none⟩) n cap) (tabI n (distN n s))) := Lib.hid (HLk.out.aside (by omega) v _)
                    generalize rowN n s d v k v = a at *
                    generalize rowN n s d v k z = b at *
                    have hw : IntKind.i64.wrap ((a : Int) + (b : Int)) = (a : Int) + (b : Int) := IntWalk.i64_in _ ⟨by omega, by omega⟩
                    clear h3 hI3 hlen2 hE HSt HOl HVl HSk
                    go_wp2_with (go_at_call 43; refine (HR.out _).mono ?_; rintro e w' ⟨rfl, rfl⟩)
                    go_region
                    go_wp2
                    go_roundw
                    case rel => exact ⟨k + 1, by omega, by omega, by go_num, HLn.out, HI3.out, HBn.out.drew⟩
                    case measure => simp [intOf]; omega
                  · have HSs := Lib.hid (tabW_congr n (rowN n s d v (k + 1)) (rowN n s d v k) fun x _ => HSk.out x (fun h => hdz h.2))
                    clear HSt HOl HVl HSk
                    generalize distN n s z = y at *
                    have hyd : (y == (d : Int)) = false := by simpa using hdz
                    go_wp2_with (go_at_call 43; refine (HR.out _).mono ?_; rintro e w' ⟨rfl, rfl⟩)
                    go_roundw
                    case rel => exact ⟨k + 1, by omega, by omega, by go_num, HLk.out, by rw [HSs.out]; exact HOk.out, HBk.out⟩
                    case measure => simp [intOf]; omega
                · have hb' : s.testBit k = false := by simpa using hb
                  rw [hb'] at hbt
                  have HSs := Lib.hid (tabW_congr n (rowN n s d v (k + 1)) (rowN n s d v k) fun x _ => HSk.out x (fun h => hb h.1))
                  clear HSt HOl HVl HSk hb
                  go_wp2_with (go_at_call 43; refine (HR.out _).mono ?_; rintro e w' ⟨rfl, rfl⟩)
                  go_roundw
                  case rel => exact ⟨k + 1, by omega, by omega, by go_num, HLk.out, by rw [HSs.out]; exact HOk.out, HBk.out⟩
                  case measure => simp [intOf]; omega
              · have e : k = n := by omega
                subst e
                go_wp2
                go_roundw
                case rel => exact ⟨v + 1, by omega, by go_num, HLk.out, by rw [← HRe.out]; exact HOk.out, HBk.out⟩
                case measure => simp [intOf]; omega
          · have HRe := Lib.hid (tabW_congr n (midN n s d (v + 1)) (midN n s d v) fun x _ => mid_skip n s d v x (by rw [HD.out]; exact hdD))
            have c1 := HLv.out.cell (i := v) (by rw [hlen]; exact hlv)
            rw [tabI_get n _ v hlv] at c1
            have i1 : (0 : Int) ≤ (v : Int) := by omega
            have i2 : (v : Int) < (n : Int) := by omega
            generalize distN n s v = y at *
            have HY := Lib.hid (show (y == (D : Int)) = false by simpa using hdD)
            clear hdD
            go_wp2
            go_loopw [10] (fun u wr' => u = .int .i64 1 ∧ wr' = wr) (fun _ _ => 0)
            case atStart => exact ⟨rfl, rfl⟩
            case round =>
              obtain ⟨rfl, rfl⟩ := hrel
              have hy := HY.out
              by_cases hn1 : 1 < n
              · go_wp2
                go_roundw
                case rel => exact ⟨v + 1, by omega, by go_num, HLv.out, by rw [HRe.out]; exact HOv.out, HBv.out⟩
                case measure => simp [intOf]; omega
              · go_wp2
                go_roundw
                case rel => exact ⟨v + 1, by omega, by go_num, HLv.out, by rw [HRe.out]; exact HOv.out, HBv.out⟩
                case measure => simp [intOf]; omega
        · have e : v = n := by omega
          subst e
          go_wp2
          go_roundw
          case rel => exact ⟨d + 1, by have h := HD.out; omega, by rw [← HD.out]; go_num, HLv.out, by rw [← HEnd.out]; exact HOv.out, HBv.out⟩
          case measure => have h := HD.out; simp [intOf]; omega
    · have e : d = n := by omega
      subst e
      have hM1 := tabW_congr d (gotN d s d) (midN d s d 0) fun x _ => (mid_zero d s d x).symm
      have HM1 := Lib.hid hM1
      clear hM1
      go_wp2
      go_ret2
      exact ⟨_, _, rfl, HBr.out, by have h := HOr.out.base z1; rw [HM1.out]; exact h⟩
end Go.Proofs.Ytjgpdmjfpcdklaa

/- A nearest way from a place: the least step that leads one nearer, and the word of such steps. -/
namespace Go.Proofs.Ytjgpdmjfpcdklaa
open Go.RowKit
set_option linter.unusedVariables false
theorem rest_back (n u k v : Nat) (h1 : 1 ≤ n) (hu : u < n) (hk : k < n) (h : (u + k) % n = v) : rest n ((v : Int) - (k : Int)) = u := by
  by_cases c : u + k < n
  · rw [Nat.mod_eq_of_lt c] at h
    rw [show ((v : Int) - (k : Int)) = (u : Int) by omega]
    exact rest_self n u hu
  · have e : (u + k) % n = u + k - n := by
      rw [Nat.mod_eq_sub_mod (by omega), Nat.mod_eq_of_lt (by omega)]
    have hn : ((v : Int) - (k : Int)) = (u : Int) - (n : Int) := by omega
    rw [hn, rest_congr' n ((u : Int) - (n : Int)) (u : Int) (by simp)]
    exact rest_self n u hu
theorem iter_up (n s d : Nat) : iterN n s (d + 1) = iterN n s d ||| sumN n s (iterN n s d) := rfl
theorem near_ex (n s v d : Nat) (h1 : 1 ≤ n) (h2 : n ≤ 12) (hs : s < 2 ^ n) (h0 : s.testBit 0 = false) (hd : distN n s v = ((d + 1 : Nat) : Int)) :
    ∃ k, 1 ≤ k ∧ k < n ∧ s.testBit k = true ∧ distN n s (rest n ((v : Int) - (k : Int))) = (d : Int) := by
  unfold distN at hd
  by_cases hp : (partN n s).testBit v = true
  · rw [if_pos hp] at hd
    have hf : farN n s v = d + 1 := by omega
    have hle := far_le n s v
    have hdn : d < n := by omega
    have hno : ¬ (iterN n s d).testBit v = true := fun h => by
      have := (far_iff n s v d hdn).1 h
      omega
    have hyes : (iterN n s (d + 1)).testBit v = true := by
      by_cases c : d + 1 < n
      · exact (far_iff n s v (d + 1) c).2 (by omega)
      · have e : d + 1 = n := by omega
        rw [e, iter_part n s h1 h2 hs]
        exact hp
    rw [iter_up, Nat.testBit_or, Bool.or_eq_true] at hyes
    have hsum := hyes.resolve_left hno
    obtain ⟨u, k, hu, hub, hk, hkb, huk⟩ := (sumN_bit n s (iterN n s d) v h1 hs).1 hsum
    have hk0 : 1 ≤ k := by
      rcases Nat.eq_zero_or_pos k with e | e
      · subst e
        rw [h0] at hkb
        cases hkb
      · exact e
    refine ⟨k, hk0, hk, hkb, ?_⟩
    rw [rest_back n u k v h1 hu hk huk]
    have hup : (partN n s).testBit u = true := by
      rw [← iter_part n s h1 h2 hs]
      exact iter_mono_le n s u d n (by omega) hub
    unfold distN
    rw [if_pos hup]
    have a := (far_iff n s u d hdn).1 hub
    rcases Nat.lt_or_ge (farN n s u) d with c | c
    · exfalso
      obtain ⟨e, rfl⟩ : ∃ e, d = e + 1 := ⟨d - 1, by omega⟩
      have hb := (far_iff n s u e (by omega)).2 (by omega)
      have hs' := (sumN_bit n s (iterN n s e) v h1 hs).2 ⟨u, k, hu, hb, hk, hkb, huk⟩
      apply hno
      rw [iter_up, Nat.testBit_or, hs']
      simp
    · omega
  · rw [if_neg hp] at hd
    omega
/-- The first number from k on, of at most so many, that suits p. -/
def seekN (p : Nat → Bool) : Nat → Nat → Nat
  | 0, k => k
  | f + 1, k => if p k = true then k else seekN p f (k + 1)
theorem seek_yes (p : Nat → Bool) (f k : Nat) (h : p k = true) : seekN p f k = k := by
  cases f with
  | zero => rfl
  | succ f => show (if p k = true then k else seekN p f (k + 1)) = k; rw [if_pos h]
theorem seek_no (p : Nat → Bool) (f k : Nat) (h : p k = false) : seekN p (f + 1) k = seekN p f (k + 1) := by
  show (if p k = true then k else seekN p f (k + 1)) = _
  rw [if_neg (by rw [h]; simp)]
theorem seek_suits (p : Nat → Bool) (f k j : Nat) (hj : k ≤ j) (hf : j < k + f) (h : p j = true) : p (seekN p f k) = true ∧ k ≤ seekN p f k ∧ seekN p f k < k + f := by
  induction f generalizing k with
  | zero => omega
  | succ f ih =>
    by_cases c : p k = true
    · rw [seek_yes p _ k c]
      exact ⟨c, Nat.le_refl _, by omega⟩
    · have c' : p k = false := by simpa using c
      rw [seek_no p f k c']
      have hne : j ≠ k := fun e => by rw [e] at h; rw [h] at c'; cases c'
      have := ih (k + 1) (by omega) (by omega)
      exact ⟨this.1, by omega, by omega⟩
/-- Does the step k lead from v to a place of the distance d? -/
def leadP (n s d v k : Nat) : Bool := s.testBit k && (distN n s (rest n ((v : Int) - (k : Int))) == (d : Int))
/-- The least step that leads nearer from v, of the distance d + 1. -/
def nearK (n s d v : Nat) : Nat := seekN (leadP n s d v) (n - 1) 1
/-- The word of v, of the distance d. -/
def wordN (n s : Nat) : Nat → Nat → List Int
  | 0, _ => []
  | d + 1, v => (nearK n s d v : Int) :: wordN n s d (rest n ((v : Int) - (nearK n s d v : Int)))
theorem word_len (n s d v : Nat) : (wordN n s d v).length = d := by
  induction d generalizing v with
  | zero => rfl
  | succ d ih => show (wordN n s d _).length + 1 = d + 1; rw [ih]
theorem near_suits (n s v d : Nat) (h1 : 1 ≤ n) (h2 : n ≤ 12) (hs : s < 2 ^ n) (h0 : s.testBit 0 = false) (hd : distN n s v = ((d + 1 : Nat) : Int)) :
    leadP n s d v (nearK n s d v) = true ∧ 1 ≤ nearK n s d v ∧ nearK n s d v < n := by
  obtain ⟨k, hk1, hk2, hb, hdk⟩ := near_ex n s v d h1 h2 hs h0 hd
  have h := seek_suits (leadP n s d v) (n - 1) 1 k hk1 (by omega) (by unfold leadP; rw [hb, hdk]; simp)
  exact ⟨h.1, h.2.1, by have := h.2.2; unfold nearK; omega⟩
theorem dist_none (n s v : Nat) (h1 : 1 ≤ n) (hd : distN n s v = 0) : v = 0 := by
  unfold distN at hd
  by_cases hp : (partN n s).testBit v = true
  · rw [if_pos hp] at hd
    have hb := (far_iff n s v 0 (by omega)).2 (by omega)
    by_cases e : v = 0
    · exact e
    · have : (iterN n s 0).testBit v = false := Nat.testBit_lt_two_pow (Nat.one_lt_two_pow e)
      rw [hb] at this
      cases this
  · rw [if_neg hp] at hd
    omega
end Go.Proofs.Ytjgpdmjfpcdklaa

/- The model's nearest words. -/
namespace Go.Proofs.Ytjgpdmjfpcdklaa
open Go.RowKit
set_option linter.unusedVariables false
def WordPost (w : World) (xs : List Int) (e : Ending) (w' : World) : Prop :=
  ∃ sv, e = .returned (.tuple #[sv, .bool true]) ∧ Below w.heap.size w w' ∧ IsInts w' w.heap.size sv xs
end Go.Proofs.Ytjgpdmjfpcdklaa
