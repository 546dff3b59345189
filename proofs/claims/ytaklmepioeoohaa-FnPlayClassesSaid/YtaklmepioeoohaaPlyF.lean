/- Plays of a ring: the model's classes of plays. Written by gen69.py. -/
import Derived.Test.YtaklmepioeoohaaPlyE
import Derived.Test.YtaklmepioeoohaaClasses
namespace Go.Proofs.Ytaklmepioeoohaa
open Go.RowKit Go.Shelf
set_option linter.unusedVariables false
/-- What is marked once a play's turns by units below m are. -/
def unitP (n x : Nat) (f : Nat → Bool) (m : Nat) : Nat → Bool := overSet (unitsN n) (fun m f => fun y => f y || y == act n x (m : Int) 0) m f
def atN (xs : List Int) (i : Nat) : Nat := (xs.getD i 0).toNat
/-- What is marked once the first i plays have been gone through. -/
def clsF (n : Nat) (xs : List Int) : Nat → Nat → Bool
  | 0 => fun _ => false
  | i + 1 => if clsF n xs i (atN xs i) then clsF n xs i else unitP n (atN xs i) (clsF n xs i) n
def clsN (n : Nat) (xs : List Int) : Nat → Nat
  | 0 => 0
  | i + 1 => if clsF n xs i (atN xs i) then clsN n xs i else clsN n xs i + 1
theorem clsN_le (n : Nat) (xs : List Int) (i : Nat) : clsN n xs i ≤ i := by
  induction i with
  | zero => exact Nat.le_refl _
  | succ i ih =>
    show (if clsF n xs i (atN xs i) then clsN n xs i else clsN n xs i + 1) ≤ i + 1
    split <;> omega
theorem unitP_one (n x : Nat) (f : Nat → Bool) (h1 : 2 ≤ n) : unitP n x f 1 = f := by
  have h0 : (unitsN n).testBit 0 = false := by
    cases hb : (unitsN n).testBit 0
    · rfl
    · have := ((unitsN_bit n 0).1 hb).2
      rw [Nat.gcd_zero_left] at this
      omega
  simp [unitP, overSet, upto, h0]
theorem IsTab.belowAll {W W' : World} {b g N : Nat} {f : Nat → Bool} (h : IsTab W b g N f) (hb : Below W.heap.size W W') : IsTab W' b g N f := by
  have hl := fun k hk => (World.ownsRow.lt h k hk).2
  refine ⟨h.1, ?_⟩
  rcases h.2 with hn | ⟨k, cap, cur, e, h1, hgg, rest⟩
  · exact .inl hn
  · exact .inr ⟨k, cap, cur, e, h1, (hb.block k (hl k (by rw [e]; rfl))).trans hgg, rest⟩
theorem ints_tab {W : World} {b b2 g N : Nat} {f : Nat → Bool} {v : Value} {xs : List Int} (h : IsInts W b v xs) (ht : IsTab W b2 g N f) (hg : g < b) (i : Nat) : IsInts (W.setCell ⟨g, i, none⟩ (.bool true)) b v xs := by
  refine World.ownsRow.kept h (World.ownsRow.stored ht i (.bool true)).2 (.inr fun e => ?_)
  have := (World.ownsRow.lt h g e).1
  omega
set_option maxHeartbeats 1000000 in
theorem specPlayClasses_yes (n : Nat) (w : World) (h1 : 3 ≤ n) (h2 : n ≤ 11) (h3 : n % 2 = 1) :
    Calls Try.prog 34 #[.int .i64 (n:Int)] w fun e w' => e = .returned (.tuple #[.int .i64 ((clsN n (playL n (2 ^ (n - 1))) (playL n (2 ^ (n - 1))).length : Nat) : Int), .bool true]) ∧ Below w.heap.size w w' := by
  have hp := pow_le n (by omega)
  have hw := wrap_pow n (by omega)
  have e3 := odd_mod n
  rw [h3] at e3
  have HI := Lib.hid (fun W => l6In_yes (n : Int) 3 11 W (by omega) (by omega))
  have HL := Lib.hid (fun W => l8All_any n W (by omega) (by omega))
  have HUn := Lib.hid (fun W => l1Units_any n W (by omega) (by omega))
  have HGt : Hid (∀ i, i < (playL n (2 ^ (n - 1))).length → (playL n (2 ^ (n - 1))).getD i 0 = ((atN (playL n (2 ^ (n - 1))) i : Nat) : Int) ∧ atN (playL n (2 ^ (n - 1))) i < 2 ^ n) := Lib.hid (fun i hi => by
    obtain ⟨x, a1, a2, a3, a4⟩ := playL_get n _ i hi
    rw [← half_pow n (by omega)] at a2
    have e : atN (playL n (2 ^ (n - 1))) i = x := by unfold atN; rw [a1]; rfl
    rw [e]
    exact ⟨a1, a2⟩)
  have HMp : Hid (∀ x : Nat, x < 2 ^ n → ∀ (m : Nat) (W : World), m ≤ 12 → Calls Try.prog 44 #[.int .i64 (n:Int), .int .i64 (x:Int), .int .i64 (m:Int), .int .i64 0] W fun e w' => e = .returned (.int .i64 ((act n x (m : Int) 0 : Nat) : Int)) ∧ W = w') := Lib.hid (fun x hx m W hm => l1Map_any n x (m : Int) 0 W (by omega) (by omega) (pow_mono (by omega) hx) (by omega) (by omega) (by omega) (by omega))
  have HAl := Lib.hid (fun (x m : Nat) => act_lt n x (m : Int) 0 (by omega))
  have hxl : (playL n (2 ^ (n - 1))).length ≤ 4096 := Nat.le_trans (playL_len n (2 ^ (n - 1))) (Nat.le_trans (pow_le (n - 1) (by omega)) (by omega))
  generalize playL n (2 ^ (n - 1)) = xs at *
  generalize hN : 2 ^ n = N at *
  have hwi : IntKind.i64.wrap (2 ^ n) = (N : Int) := by rw [IntWalk.i64_left]; exact hw
  have hmk := make_tab N hp w
  have HM := Lib.hid (made_tab N hp w)
  have HM0 := Lib.hid (tab_congr N (fun _ => false) (clsF n xs 0) (fun x _ => rfl))
  have HUo := Lib.hid (fun x f => unitP_one n x f (by omega))
  have HCl := Lib.hid (fun i => clsN_le n xs i)
  have HUl : Hid (unitsN n < 2 ^ 40) := Lib.hid (Nat.lt_of_lt_of_le (unitsN_lt n) (Nat.pow_le_pow_right (by omega) (by omega)))
  clear hN h3
  go_enter Try.func34, Try.ntmps34
  go_wp2_with (go_at_call 54; refine (HI.out _).mono ?_; rintro e w' ⟨rfl, rfl⟩)
  have hB0 : Below w.heap.size w (w.alloc (.cells (madeCells #[.bool false] N) 4)) := (Below.refl _ _).alloc (Nat.le_refl _) _
  obtain ⟨W0, hW0⟩ : ∃ W0, w.alloc (.cells (madeCells #[.bool false] N) 4) = W0 := ⟨_, rfl⟩
  rw [hW0] at hB0 HM ⊢
  have hW0s : W0.heap.size = w.heap.size + 1 := by rw [← hW0]; simp
  clear hW0 hmk hw hwi e3
  refine (HL.out _).mono ?_
  rintro e w1 ⟨sv, rfl, hb1, hI1⟩
  have HI1 := Lib.hid hI1
  have HB1 := Lib.hid (hB0.trans (hb1.mono hB0.size))
  have HT1 : Hid (IsTab w1 w.heap.size w.heap.size N (clsF n xs 0)) := Lib.hid (by
    have h := HM.out
    unfold IsTab at h ⊢
    rw [← HM0.out]
    exact IsTab.belowAll h hb1)
  obtain ⟨A', cap, rfl, hsh⟩ : ∃ A' cap, sv = .slice A' xs.length cap ∧ (xs.length = 0 ∨ ∃ g, A' = some ⟨g, 0, none⟩ ∧ W0.heap.size ≤ g) := by
    rcases HI1.out.shape with ⟨e1, e2⟩ | ⟨g, c, e1, e2, _, _⟩
    · exact ⟨none, 0, by rw [e1, e2]; rfl, .inl (by rw [e2]; rfl)⟩
    · exact ⟨_, c, e1, .inr ⟨g, rfl, e2⟩⟩
  have HSh := Lib.hid hsh
  clear hsh
  go_wp2
  go_loopw [5, 7] (fun u v wr => ∃ i : Nat, i ≤ xs.length ∧ u = .int .i64 ((clsN n xs i : Nat) : Int) ∧ v = .int .i64 (i : Int) ∧ Hid (IsTab wr w.heap.size w.heap.size N (clsF n xs i)) ∧ Hid (IsInts wr W0.heap.size (.slice A' xs.length cap) xs) ∧ Hid (Below w.heap.size w wr)) (fun _ v _ => xs.length - (intOf v).toNat)
  case atStart => exact ⟨0, Nat.zero_le _, rfl, rfl, HT1, HI1, HB1⟩
  case round =>
    obtain ⟨i, hi, rfl, rfl, HT, HI2, HB⟩ := hrel
    have hcl := HCl.out i
    by_cases hlt : i < xs.length
    · obtain ⟨hx, hxN⟩ := HGt.out i hlt
      have HFs : Hid ((clsF n xs i (atN xs i) = true → clsF n xs (i + 1) = clsF n xs i ∧ clsN n xs (i + 1) = clsN n xs i) ∧ (clsF n xs i (atN xs i) = false → clsF n xs (i + 1) = unitP n (atN xs i) (clsF n xs i) n ∧ clsN n xs (i + 1) = clsN n xs i + 1)) := Lib.hid ⟨fun h => by
        constructor
        · show (if clsF n xs i (atN xs i) then clsF n xs i else unitP n (atN xs i) (clsF n xs i) n) = _
          rw [if_pos h]
        · show (if clsF n xs i (atN xs i) then clsN n xs i else clsN n xs i + 1) = _
          rw [if_pos h], fun h => by
        constructor
        · show (if clsF n xs i (atN xs i) then clsF n xs i else unitP n (atN xs i) (clsF n xs i) n) = _
          rw [h]; rfl
        · show (if clsF n xs i (atN xs i) then clsN n xs i else clsN n xs i + 1) = _
          rw [h]; rfl⟩
      obtain ⟨g, rfl, hg1⟩ := HSh.out.resolve_left (by omega)
      have c1 := HI2.out.cell hlt
      rw [hx] at c1
      have i1 : (0 : Int) ≤ (i : Int) := by omega
      have i2 : (i : Int) < (xs.length : Int) := by omega
      have hc2 := HT.out.cell hxN
      have HMx := Lib.hid (HMp.out (atN xs i) hxN)
      have HAx := Lib.hid (HAl.out (atN xs i))
      have HUx := Lib.hid (HUo.out (atN xs i) (clsF n xs i))
      generalize atN xs i = x at *
      have i3 : (0 : Int) ≤ (x : Int) := by omega
      have i4 : (x : Int) < (N : Int) := by omega
      have HX := Lib.hid hx
      clear hx
      generalize clsN n xs i = c at *
      obtain ⟨a1, a2⟩ := two_wraps ((c : Int) + 1) (c + 1) (by omega) (by omega)
      cases hm : clsF n xs i x
      · rw [hm] at hc2
        obtain ⟨hF, hC⟩ := HFs.out.2 hm
        have HF := Lib.hid hF
        have HC := Lib.hid hC
        clear hm hF hC HFs
        have HTu : Hid (IsTab wr w.heap.size w.heap.size N (unitP n x (clsF n xs i) 1)) := Lib.hid (by rw [HUx.out]; exact HT.out)
        have HSt : Hid (∀ m, unitP n x (clsF n xs i) (m + 1) = if (unitsN n).testBit m then (fun y => unitP n x (clsF n xs i) m y || y == act n x (m : Int) 0) else unitP n x (clsF n xs i) m) := Lib.hid (fun m => rfl)
        go_wp2
        obtain ⟨wo, rfl⟩ : ∃ wo : World, wo = wr := ⟨_, rfl⟩
        go_loopw [8] (fun u wr => ∃ m : Nat, 1 ≤ m ∧ m ≤ n ∧ u = .int .i64 (m : Int) ∧ Hid (IsTab wr w.heap.size w.heap.size N (unitP n x (clsF n xs i) m)) ∧ Hid (IsInts wr W0.heap.size (.slice (some ⟨g, 0, none⟩) xs.length cap) xs) ∧ Hid (Below w.heap.size w wr)) (fun u _ => n - (intOf u).toNat)
        case atStart => exact ⟨1, Nat.le_refl _, by omega, rfl, HTu, HI2, HB⟩
        case round =>
          obtain ⟨m, hm1, hm, rfl, HT3, HI3, HB3⟩ := hrel
          clear c1 hc2 a1 a2
          by_cases hlm : m < n
          · have hul := HUl.out
            have hb := has_nat (unitsN n) m hul
            have hst := HSt.out m
            cases hbit : (unitsN n).testBit m
            · rw [hbit] at hb hst
              have HS2 : Hid (unitP n x (clsF n xs i) (m + 1) = unitP n x (clsF n xs i) m) := Lib.hid hst
              clear hst hbit hul
              go_wp2_with (go_at_call 67; refine (HUn.out _).mono ?_; rintro e w' ⟨rfl, rfl⟩)
              go_roundw
              case rel => exact ⟨m + 1, by omega, by omega, by go_num, Lib.hid (by rw [HS2.out]; exact HT3.out), HI3, HB3⟩
              case measure => simp [intOf]; omega
            · rw [hbit] at hb hst
              have HS2 : Hid (unitP n x (clsF n xs i) (m + 1) = fun y => unitP n x (clsF n xs i) m y || y == act n x (m : Int) 0) := Lib.hid hst
              have HC3 := Lib.hid (fun W => HMx.out m W (by omega))
              have hal := HAx.out m
              clear hst hbit hul
              generalize act n x (m : Int) 0 = q at *
              have c1 := HI3.out.cell hlt
              rw [HX.out] at c1
              have c3 := HT3.out.cell hal
              have f3 := HT3.out.frozen q
              have j1 : (0 : Int) ≤ (q : Int) := by omega
              have j2 : (q : Int) < (N : Int) := by omega
              generalize unitP n x (clsF n xs i) m q = bq at c3
              go_wp2_with (first
                | (go_at_call 67; refine (HUn.out _).mono ?_; rintro e w' ⟨rfl, rfl⟩)
                | (go_at_call 44; refine (HC3.out _).mono ?_; rintro e w' ⟨rfl, rfl⟩))
              go_roundw
              case rel => exact ⟨m + 1, by omega, by omega, by go_num, Lib.hid (by rw [HS2.out]; exact HT3.out.set q), Lib.hid (ints_tab HI3.out HT3.out (by omega) q), Lib.hid (HB3.out.setCell (p := ⟨w.heap.size, q, none⟩) (Nat.le_refl _) _)⟩
              case measure => simp [intOf]; omega
          · obtain rfl : m = n := by omega
            go_wp2
            go_roundw
            case rel => exact ⟨i + 1, by omega, by rw [HC.out]; go_num, by go_num, Lib.hid (by rw [HF.out]; exact HT3.out), HI3, HB3⟩
            case measure => simp [intOf]; omega
      · rw [hm] at hc2
        obtain ⟨hF, hC⟩ := HFs.out.1 hm
        have HF := Lib.hid hF
        have HC := Lib.hid hC
        clear hm hF hC HFs
        go_wp2
        go_roundw
        case rel => exact ⟨i + 1, by omega, by rw [HC.out], by go_num, Lib.hid (by rw [HF.out]; exact HT.out), HI2, HB⟩
        case measure => simp [intOf]; omega
    · obtain rfl : i = xs.length := by omega
      go_wp2
      go_ret2
      exact ⟨rfl, HB.out⟩
theorem specPlayClasses_no (n : Int) (w : World) (h : ¬ AllIn n) :
    Calls Try.prog 34 #[.int .i64 n] w fun e w' => e = .returned (.tuple #[.int .i64 0, .bool false]) ∧ w = w' := by
  rcases Decidable.em (3 ≤ n ∧ n ≤ 11) with hr | hr
  · rcases allIn_cases h with h | h | ⟨m, rfl, a, b, c⟩
    · omega
    · omega
    · have HI := Lib.hid (fun W => l6In_yes (m : Int) 3 11 W (by omega) (by omega))
      have e3 := odd_mod m
      rw [c] at e3
      clear h hr
      go_enter Try.func34, Try.ntmps34
      go_wp2_with (go_at_call 54; refine (HI.out _).mono ?_; rintro e w' ⟨rfl, rfl⟩)
      go_ret2
      exact ⟨rfl, rfl⟩
  · have HI := Lib.hid (fun W => l6In_no n 3 11 W hr)
    clear h hr
    go_enter Try.func34, Try.ntmps34
    go_wp2_with (go_at_call 54; refine (HI.out _).mono ?_; rintro e w' ⟨rfl, rfl⟩)
    go_ret2
    exact ⟨rfl, rfl⟩
/-- The number of classes of all plays. -/
def clsAll (n : Nat) : Nat := clsN n (playL n (2 ^ (n - 1))) (playL n (2 ^ (n - 1))).length
end Go.Proofs.Ytaklmepioeoohaa
