/- Differences, the program's side: even, thin and whole sets. Written by gen77.py. -/
import Derived.Test.YtaklmepioeoohaaDfpA
namespace Go.Proofs.Ytaklmepioeoohaa
open Go.RowKit Go.Shelf
set_option linter.unusedVariables false
attribute [local go_sem] Oper.semAt_some
theorem same1_any (x z : Int) (T g m : Nat) (hm : 1 ≤ m) (w : World) (hT : Boxed w T 93 (.slice (some ⟨g, 1, none⟩) m m)) (hc : w.cell? ⟨g, 1, none⟩ = some (.int .i64 z)) :
    Calls Try.prog 99 #[.int .i64 x, .pointer (some ⟨T, 0, none⟩)] w fun e w' => e = .returned (.bool (x == z)) ∧ w = w' := by
  have c0 := hT.cell
  have i1 : (0 : Int) < (m : Int) := by omega
  have i2 : 0 < m := hm
  go_enter Try.func99, Try.ntmps99
  go_wp2
  go_ret
  exact ⟨rfl, rfl⟩
set_option maxHeartbeats 1000000 in
theorem each1_same (p : Int → Bool) (g m : Nat) (xs : List Int) (w : World) (T : Nat) (hl : xs.length = m) (hm : 1 ≤ m) (hm2 : m ≤ 12) (hX : Tail w g xs)
    (hF : ∀ (x : Int) (W : World), Below w.heap.size w W → Calls Try.prog 99 #[.int .i64 x, .pointer (some ⟨T, 0, none⟩)] W fun e w' => e = .returned (.bool (p x)) ∧ W = w') :
    Calls Try.prog 98 #[.slice (some ⟨g, 1, none⟩) m m, .func (.func 99) #[] #[.pointer (some ⟨T, 0, none⟩)]] w fun e w' => e = .returned (.bool (eachB p xs)) ∧ Below w.heap.size w w' := by
  have HF := Lib.hid hF
  have HX := Lib.hid hX
  have HL := Lib.hid hl
  have HY := Lib.hid (each_yes p xs)
  have HN := Lib.hid (each_no p xs)
  have HG := Lib.hid hX.1
  clear hF hX
  go_enter Try.func98, Try.ntmps98
  go_wp2
  go_loopw [9] (fun u wr => ∃ i : Nat, i ≤ m ∧ u = .int .i64 (i : Int) ∧ Hid (∀ j, j < i → p (xs.getD j 0) = true) ∧ Below w.heap.size w wr) (fun u _ => m - (intOf u).toNat)
  case atStart => exact ⟨0, Nat.zero_le _, rfl, Lib.hid (fun j hj => absurd hj (by omega)), Below.refl _ _⟩
  case round =>
    obtain ⟨i, hi, rfl, HE, hB⟩ := hrel
    by_cases hlt : i < m
    · have c1 := (HX.out.below HG.out hB).2 i (by rw [HL.out]; exact hlt)
      have i1 : (i : Int) < (m : Int) := by omega
      have i2 : (0 : Int) ≤ (i : Int) := by omega
      have hwk : IntKind.i64.wrap ((i : Int) + 1) = ((i + 1 : Nat) : Int) := by rw [IntWalk.i64_in _ ⟨by omega, by omega⟩]; rfl
      have HFi := Lib.hid (fun (W : World) (hb : Below w.heap.size w W) => HF.out (xs.getD i 0) W hb)
      have HNi := Lib.hid (fun h => HN.out i (by rw [HL.out]; exact hlt) h)
      have HEs : Hid (p (xs.getD i 0) = true → ∀ j, j < i + 1 → p (xs.getD j 0) = true) := Lib.hid (fun h j hj => by
        by_cases e : j = i
        · subst e; exact h
        · exact HE.out j (by omega))
      generalize xs.getD i 0 = z at *
      cases hp : p z
      · rw [hp] at HFi
        have HV := Lib.hid (HNi.out hp)
        clear HEs HNi hlt
        go_wp2_with (go_at_call 99; refine (HFi.out _ hB).mono ?_; rintro e w2 ⟨rfl, rfl⟩)
        go_ret
        exact ⟨ret_bool HV.out.symm, hB⟩
      · rw [hp] at HFi
        have HEn := Lib.hid (HEs.out hp)
        clear HEs HNi
        go_wp2_with (go_at_call 99; refine (HFi.out _ hB).mono ?_; rintro e w2 ⟨rfl, rfl⟩)
        go_roundw
        case rel => exact ⟨i + 1, by omega, by go_num, HEn, hB⟩
        case measure => simp [intOf]; omega
    · have i1 : ¬ ((i : Int) < (m : Int)) := by omega
      have HV := Lib.hid (HY.out (fun j hj => HE.out j (by rw [HL.out] at hj; omega)))
      clear hlt hi
      go_wp2
      go_ret
      exact ⟨ret_bool HV.out.symm, hB⟩
theorem same_none (A : Option Addr) (w : World) :
    Calls Try.prog 87 #[.slice A 0 0] w fun e w' => e = .returned (.tuple #[.int .i64 0, .bool false]) ∧ Below w.heap.size w w' := by
  go_enter Try.func87, Try.ntmps87
  go_wp2
  go_ret2
  exact ⟨rfl, (Below.refl _ _).alloc (Nat.le_refl _) _⟩
theorem same_any (g m : Nat) (xs : List Int) (w : World) (hl : xs.length = m) (hm : 1 ≤ m) (hm2 : m ≤ 12) (hX : Tail w g xs) :
    Calls Try.prog 87 #[.slice (some ⟨g, 1, none⟩) m m] w fun e w' => e = .returned (.tuple #[.int .i64 (if sameB xs then xs.getD 0 0 else 0), .bool (sameB xs)]) ∧ Below w.heap.size w w' := by
  have hs : sameB xs = eachB (fun x => x == xs.getD 0 0) xs := by
    unfold sameB
    rw [hl]
    have : Nat.beq m 0 = false := by
      cases hc : Nat.beq m 0
      · rfl
      · have := Nat.eq_of_beq_eq_true hc; omega
    rw [this]; rfl
  rw [hs]
  clear hs
  have hc := hX.2 0 (by omega)
  have hx1 : Tail (w.alloc (.cells #[.slice (some ⟨g, 1, none⟩) m m] 93)) g xs := hX.below hX.1 ((Below.refl _ _).alloc (Nat.le_refl _) _)
  have hT := Boxed.new w 93 (.slice (some ⟨g, 1, none⟩) m m)
  have hg := hX.1
  obtain ⟨z, hz⟩ : ∃ z, xs.getD 0 0 = z := ⟨_, rfl⟩
  rw [hz] at hc ⊢
  have HE := Lib.hid (fun W (h1 : Tail W g xs) (h2 : Boxed W w.heap.size 93 (.slice (some ⟨g, 1, none⟩) m m)) => each1_same (fun x => x == z) g m xs W w.heap.size hl hm hm2 h1 (fun x W' hb => same1_any x z w.heap.size g m hm W' (boxed_below h2 h2.lt hb) ((h1.below h1.1 hb).2 0 (by omega) ▸ by rw [hz])))
  have i1 : (m : Int) ≠ 0 := by omega
  have i2 : ((m : Int) == 0) = false := by simp; omega
  have i3 : (0 : Int) < (m : Int) := by omega
  have i4 : 0 < m := hm
  clear hX
  cases hv : eachB (fun x => x == z) xs
  · rw [hv] at HE
    go_enter Try.func87, Try.ntmps87
    go_wp2_with (go_at_call 98; refine (HE.out _ hx1 hT).mono ?_; rintro e w2 ⟨rfl, hb2⟩)
    go_ret2
    exact ⟨rfl, ((Below.refl _ _).alloc (Nat.le_refl _) _).trans (hb2.mono (by simp))⟩
  · rw [hv] at HE
    go_enter Try.func87, Try.ntmps87
    go_wp2_with (go_at_call 98; refine (HE.out _ hx1 hT).mono ?_; rintro e w2 ⟨rfl, hb2⟩; have hT2 := (boxed_below hT hT.lt hb2).cell; have hc2 := (hx1.below hx1.1 hb2).2 0 (by omega); rw [hz] at hc2)
    go_ret2
    exact ⟨rfl, ((Below.refl _ _).alloc (Nat.le_refl _) _).trans (hb2.mono (by simp))⟩
theorem evenWays_any (n s : Nat) (w : World) (h1 : 1 ≤ n) (h2 : n ≤ 12) (hs : s < 2 ^ n) :
    Calls Try.prog 65 #[.agg #[.int .i64 (n:Int)], .int .i64 (s:Int)] w fun e w' => e = .returned (.tuple #[.int .i64 ((evY n s : Nat) : Int), .bool (evQ n s)]) ∧ Below w.heap.size w w' := by
  have B0 : Below w.heap.size w (w.alloc (.cells #[.int .i64 (n:Int)] 42)) := (Below.refl _ _).alloc (Nat.le_refl _) _
  have hz0 : w.heap.size ≤ (w.alloc (.cells #[.int .i64 (n:Int)] 42)).heap.size := by simp
  have HD := Lib.hid (fun W => differences_any n s W h1 h2 hs)
  by_cases hn : n = 1
  · subst hn
    have e1 : evY 1 s = 0 := rfl
    have e2 : evQ 1 s = false := rfl
    rw [e1, e2]
    clear e1 e2
    clear h1 h2 hs
    go_enter Try.func65, Try.ntmps65
    go_wp2_with fail
    refine (HD.out _).mono ?_
    rintro e w1 ⟨g, rfl, hb1, hI1⟩
    have B1 := B0.trans (hb1.mono hz0)
    clear hb1 hI1 HD
    go_wp2_with fail
    refine (behind_one g _).mono ?_
    rintro e w2 ⟨⟨A, rfl⟩, rfl⟩
    have z1 := B1.size
    go_wp2_with fail
    refine (same_none A _).mono ?_
    rintro e w3 ⟨rfl, hb3⟩
    have B3 := B1.trans (hb3.mono z1)
    go_wp2
    go_ret2
    exact ⟨rfl, B3⟩
  · have hn2 : 2 ≤ n := by omega
    have hm := difT_len n s
    have hv := same_even n s h1
    have hz : (if sameB (difT n s) then (difT n s).getD 0 0 else 0) = ((evY n s : Nat) : Int) := by
      rw [hv]
      unfold evY
      cases evQ n s
      · rfl
      · exact difT_get n s 0 (by omega)
    have HS := Lib.hid (fun (g : Nat) (W : World) (h : Tail W g (difT n s)) => (show Calls Try.prog 87 #[.slice (some ⟨g, 1, none⟩) (n - 1) (n - 1)] W fun e w' => e = .returned (.tuple #[.int .i64 ((evY n s : Nat) : Int), .bool (evQ n s)]) ∧ Below W.heap.size W w' from by
      have a := same_any g (n - 1) (difT n s) W hm (by omega) (by omega) h
      rw [hz, hv] at a
      exact a))
    clear hz hv hm
    clear hs hn
    go_enter Try.func65, Try.ntmps65
    go_wp2_with fail
    refine (HD.out _).mono ?_
    rintro e w1 ⟨g, rfl, hb1, hI1⟩
    have B1 := B0.trans (hb1.mono hz0)
    have HT := Lib.hid (tail_of hI1 (difL_len n s) h1)
    clear hb1 hI1 HD
    go_wp2_with fail
    refine (behind_any g n _ hn2 h2).mono ?_
    rintro e w2 ⟨rfl, rfl⟩
    have z1 := B1.size
    go_wp2_with fail
    refine (HS.out g _ HT.out).mono ?_
    rintro e w3 ⟨rfl, hb3⟩
    have B3 := B1.trans (hb3.mono z1)
    go_wp2
    go_ret2
    exact ⟨rfl, B3⟩
set_option maxHeartbeats 1000000 in
theorem each0_any (A : Option Addr) (f : Value) (w : World) :
    Calls Try.prog 98 #[.slice A 0 0, f] w fun e w' => e = .returned (.bool true) ∧ w = w' := by
  go_enter Try.func98, Try.ntmps98
  go_wp2
  go_loopw [9] (fun u wr => u = .int .i64 0 ∧ w = wr) (fun _ _ => 0)
  case atStart => exact ⟨rfl, rfl⟩
  case round =>
    obtain ⟨rfl, rfl⟩ := hrel
    go_wp2
    go_ret
    exact ⟨rfl, rfl⟩
end Go.Proofs.Ytaklmepioeoohaa
