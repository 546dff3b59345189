/- Rows of places: the parts of the model. Written by gen85.py. -/
import Derived.Test.YtkdgbnjpjkhopaaZerS
import Derived.Test.YtkdgbnjpjkhopaaGY
namespace Go.Proofs.Ytkdgbnjpjkhopaa
open Go.RowKit Go.Shelf
set_option linter.unusedVariables false
theorem one_less (c : Nat) (h : 0 < c) (h2 : c ≤ 100000) : IntKind.i64.wrap ((c : Int) - 1) = ((c - 1 : Nat) : Int) ∧ wrap64 ((c : Int) - 1) = ((c - 1 : Nat) : Int) := ⟨by rw [IntWalk.i64_in _ (by omega)]; omega, by rw [IntWalk.wrap64_in _ (by omega)]; omega⟩
theorem one_more (v : Nat) (h : v ≤ 100000) : IntKind.i64.wrap (1 + (v : Int)) = ((1 + v : Nat) : Int) ∧ wrap64 (1 + (v : Int)) = ((1 + v : Nat) : Int) := ⟨by rw [IntWalk.i64_in _ (by omega)]; rfl, by rw [IntWalk.wrap64_in _ (by omega)]; rfl⟩
/-- The lowest position, as the model finds it. -/
def lowAll : Bool := (List.range 256).all fun x => bits .and .i64 (x : Int) (-(x : Int)) == ((lowB x : Nat) : Int)
theorem low_all : lowAll = true := by decide +kernel
theorem low_bits (x : Nat) (h : x < 256) : bits .and .i64 (x : Int) (-(x : Int)) = ((lowB x : Nat) : Int) := eq_of_beq (List.all_eq_true.1 low_all x (List.mem_range.2 h))
set_option maxHeartbeats 2000000 in
theorem l9Parts_any (n : Nat) (sv : Value) (xs : List Int) (b : Nat) (h : RowIn (n : Int) xs) (f : Nat) : ∀ (left : Nat) (w : World), left ≤ f → left < 256 → IsInts w b sv xs →
    Calls Try.prog 27 #[.int .i64 (n:Int), sv, .int .i64 (left:Int)] w fun e w' => e = .returned (.int .i64 ((bestF n (rowZ xs) xs.length f left : Nat) : Int)) ∧ Below w.heap.size w w' := by
  have HSum := Lib.hid (fun c (hc : c < 2 ^ 40) W (hI : IsInts W b sv xs) => l9Sum_any n sv xs b c W h hc hI)
  clear h
  generalize xs.length = L at *
  induction f with
  | zero =>
    intro left w hf h8 hI
    obtain rfl : left = 0 := by omega
    have HE : Hid (bestF n (rowZ xs) L 0 0 = 0) := Lib.hid rfl
    generalize bestF n (rowZ xs) L 0 0 = F at *
    clear hI
    go_enter Try.func27, Try.ntmps27
    go_wp2
    go_ret
    exact ⟨by rw [HE.out]; rfl, Below.refl _ _⟩
  | succ f ih =>
    intro left w hf h8 hI
    have HB0 := Lib.hid (bestF_le n (rowZ xs) L (f + 1) left)
    by_cases hz : left = 0
    · subst hz
      have HE : Hid (bestF n (rowZ xs) L (f + 1) 0 = 0) := Lib.hid rfl
      generalize bestF n (rowZ xs) L (f + 1) 0 = F at *
      clear hI
      go_enter Try.func27, Try.ntmps27
      go_wp2
      go_ret
      exact ⟨by rw [HE.out]; rfl, Below.refl _ _⟩
    · have HE : Hid (bestF n (rowZ xs) L (f + 1) left = bestG n (rowZ xs) L (bestF n (rowZ xs) L f) left left) := Lib.hid (by
        show (if left = 0 then 0 else _) = _
        rw [if_neg hz])
      have HStart : Hid (bestG n (rowZ xs) L (bestF n (rowZ xs) L f) left (left - left) = bestF n (rowZ xs) L f (lessN left (lowB left))) := Lib.hid (by rw [Nat.sub_self]; rfl)
      have HI := Lib.hid hI
      have HIH := Lib.hid ih
      have HGl := Lib.hid (fun j => bestG_le n (rowZ xs) L f left j)
      have HFl := Lib.hid (fun x => bestF_le n (rowZ xs) L f x)
      have HNx := Lib.hid (fun c hc h0 hle => best_next n (rowZ xs) L (bestF n (rowZ xs) L f) left c hc h0 hle)
      have HPart := Lib.hid (fun c => partP_iff n (rowZ xs) L left c)
      have HSub := Lib.hid (fun c => sub_iff c left)
      have HSm := Lib.hid (fun c hc hs => less_small left c hc hs)
      have HLw := Lib.hid (HSm.out (lowB left) (low_ne left hz) (low_sub left))
      have HLow := Lib.hid (low_bits left h8)
      have hls := (low_sub left).le
      have hand := Nat.and_self left
      have hne : ((left : Int) == 0) = false := by simp; omega
      have HM1 := Lib.hid (show IntKind.i64.wrap (-(left : Int)) = -(left : Int) from IntWalk.i64_in _ (by omega))
      have HM2 := Lib.hid (show wrap64 (-(left : Int)) = -(left : Int) from IntWalk.wrap64_in _ (by omega))
      generalize lowB left = low at *
      have hlow62 : low < 2 ^ 40 := by omega
      have HLn := Lib.hid (less_nat left low (by omega) (by omega))
      have HIH1 := Lib.hid (HIH.out (lessN left low) w (by have := HLw.out; omega) (by have := HLw.out; omega) HI.out)
      generalize lessN left low = ll at *
      clear hI ih HB0
      have hlow := HLow.out
      have hm1 := HM1.out
      have hm2 := HM2.out
      have hln := HLn.out
      go_enter Try.func27, Try.ntmps27
      go_wp2_with fail
      refine HIH1.out.mono ?_
      rintro e w1 ⟨rfl, hb1⟩
      have HB1 := Lib.hid hb1
      have HG0 := Lib.hid HStart.out.symm
      generalize bestF n (rowZ xs) L f ll = q0 at *
      clear hb1 hln hlow hm1 hm2 HStart
      go_wp2
      go_loopw [8, 9] (fun a u wr => ∃ c q : Nat, c ≤ left ∧ Hid (c &&& left = c) ∧ a = .int .i64 (q : Int) ∧ Hid (q = bestG n (rowZ xs) L (bestF n (rowZ xs) L f) left (left - c)) ∧ u = .int .i64 (c : Int) ∧ Hid (Below w.heap.size w wr)) (fun _ u _ => (intOf u).toNat)
      case atStart => exact ⟨left, q0, Nat.le_refl _, Lib.hid hand, rfl, HG0, rfl, HB1⟩
      case round =>
        obtain ⟨c, q, hcl, HC, rfl, HQ, rfl, HB⟩ := hrel
        by_cases h0 : c = 0
        · subst h0
          have HQ2 : Hid (q = bestF n (rowZ xs) L (f + 1) left) := Lib.hid (by
            rw [HE.out]
            have h9 := HQ.out
            rwa [Nat.sub_zero] at h9)
          clear HQ
          go_wp2
          go_ret
          exact ⟨by rw [← HQ2.out]; rfl, HB.out⟩
        · have hc0 : 0 < c := by omega
          have k1 : (c : Int) > 0 := by omega
          have k2 : (0 : Int) < (c : Int) := by omega
          have HNx1 := Lib.hid (HNx.out c HC.out hc0 hcl)
          have HPart1 := Lib.hid (HPart.out c)
          have HSubc := Lib.hid ((HSub.out c).2 HC.out)
          have hq : q ≤ 256 := by
            have := HGl.out (left - c)
            rw [← HQ.out] at this
            omega
          have HW1 := Lib.hid (one_less c hc0 (by omega))
          have HAnd := Lib.hid (and_nat (c - 1) left (by omega) (by omega))
          have hnle : (c - 1) &&& left ≤ c - 1 := Nat.and_le_left
          have HCn : Hid (((c - 1) &&& left) &&& left = (c - 1) &&& left) := Lib.hid (by rw [Nat.and_assoc, Nat.and_self])
          have HAl := Lib.hid (and_nat c low (by omega) (by omega))
          rw [← HQ.out] at HNx1
          have hcc : (c - 1) &&& left < c := by omega
          have hcl' : (c - 1) &&& left ≤ left := by omega
          generalize (c - 1) &&& left = c' at *
          generalize c - 1 = c1 at *
          have HS1 := Lib.hid (HSum.out c (by omega) wr (HI.out.belowAll' HB.out))
          by_cases hcond : c &&& low ≠ 0 ∧ zsum n (rowZ xs) L c = 0
          · obtain ⟨ha0, hz0⟩ := hcond
            have hp : partP n (rowZ xs) L left c = true := HPart1.out.2 ⟨HSubc.out, ha0, hz0⟩
            rw [hp, if_pos rfl] at HNx1
            rw [hz0] at HS1
            have HSmc := HSm.out c (by omega) HSubc.out
            have HLn2 := Lib.hid (less_nat left c (by omega) (by omega))
            have hfl := HFl.out (lessN left c)
            have HIH2 := Lib.hid (fun W hI => HIH.out (lessN left c) W (by omega) (by omega) hI)
            generalize lessN left c = lc at *
            generalize bestF n (rowZ xs) L f lc = v at *
            generalize c &&& low = a at *
            have e1 : ((a : Int) == 0) = false := by simp; omega
            have e2 : ((a : Int) != 0) = true := by simp; omega
            have HWv := Lib.hid (one_more v (by omega))
            generalize hy : 1 + v = y at *
            clear hp ha0 hz0 HPart1 hy
            by_cases hmax : q < y
            · have HQn : Hid (y = bestG n (rowZ xs) L (bestF n (rowZ xs) L f) left (left - c')) := Lib.hid (by rw [HNx1.out, Nat.max_eq_right (by omega)])
              have k3 : (q : Int) < (y : Int) := by omega
              clear HNx1 hfl
              have hw1 := HW1.out.1
              have hw2 := HW1.out.2
              have hnx := HAnd.out
              have hal := HAl.out
              clear hnle
              have hln2 := HLn2.out
              have w1' := HWv.out.1
              have w2' := HWv.out.2
              go_wp2_with fail
              refine HS1.out.mono ?_
              rintro e w2 ⟨rfl, hb2⟩
              have HB2 := Lib.hid (HB.out.trans (hb2.mono HB.out.size))
              clear hb2
              go_wp2_with fail
              refine (HIH2.out _ (HI.out.belowAll' HB2.out)).mono ?_
              rintro e w3 ⟨rfl, hb3⟩
              have HB3 := Lib.hid (HB2.out.trans (hb3.mono HB2.out.size))
              clear hb3
              go_wp2
              go_roundw
              case rel => exact ⟨c', y, hcl', HCn, rfl, HQn, rfl, HB3⟩
              case measure => simp [intOf]; omega
            · have HQn : Hid (q = bestG n (rowZ xs) L (bestF n (rowZ xs) L f) left (left - c')) := Lib.hid (by rw [HNx1.out, Nat.max_eq_left (by omega)])
              have k3 : ¬ (q : Int) < (y : Int) := by omega
              clear HNx1 hfl
              have hw1 := HW1.out.1
              have hw2 := HW1.out.2
              have hnx := HAnd.out
              have hal := HAl.out
              clear hnle
              have hln2 := HLn2.out
              have w1' := HWv.out.1
              have w2' := HWv.out.2
              go_wp2_with fail
              refine HS1.out.mono ?_
              rintro e w2 ⟨rfl, hb2⟩
              have HB2 := Lib.hid (HB.out.trans (hb2.mono HB.out.size))
              clear hb2
              go_wp2_with fail
              refine (HIH2.out _ (HI.out.belowAll' HB2.out)).mono ?_
              rintro e w3 ⟨rfl, hb3⟩
              have HB3 := Lib.hid (HB2.out.trans (hb3.mono HB2.out.size))
              clear hb3
              go_wp2
              go_roundw
              case rel => exact ⟨c', q, hcl', HCn, rfl, HQn, rfl, HB3⟩
              case measure => simp [intOf]; omega
          · have hp : partP n (rowZ xs) L left c = false := by
              cases hc : partP n (rowZ xs) L left c
              · rfl
              · exact absurd (HPart1.out.1 hc).2 hcond
            rw [hp, if_neg (by simp)] at HNx1
            by_cases ha0 : c &&& low = 0
            · generalize c &&& low = a at *
              have e1 : ((a : Int) == 0) = true := by simp; omega
              have e2 : ((a : Int) != 0) = false := by simp; omega
              clear hp hcond HPart1 HS1 ha0
              have hw1 := HW1.out.1
              have hw2 := HW1.out.2
              have hnx := HAnd.out
              have hal := HAl.out
              clear hnle
              go_wp2
              go_roundw
              case rel => exact ⟨c', q, hcl', HCn, rfl, Lib.hid HNx1.out.symm, rfl, HB⟩
              case measure => simp [intOf]; omega
            · have hz0 : zsum n (rowZ xs) L c ≠ 0 := fun e => hcond ⟨ha0, e⟩
              generalize c &&& low = a at *
              generalize zsum n (rowZ xs) L c = z at *
              have e1 : ((a : Int) == 0) = false := by simp; omega
              have e2 : ((a : Int) != 0) = true := by simp; omega
              have e3 : ((z : Int) == 0) = false := by simp; omega
              clear hp hcond HPart1 ha0 hz0
              have hw1 := HW1.out.1
              have hw2 := HW1.out.2
              have hnx := HAnd.out
              have hal := HAl.out
              clear hnle
              go_wp2_with fail
              refine HS1.out.mono ?_
              rintro e w2 ⟨rfl, hb2⟩
              have HB2 := Lib.hid (HB.out.trans (hb2.mono HB.out.size))
              clear hb2
              go_wp2
              go_roundw
              case rel => exact ⟨c', q, hcl', HCn, rfl, Lib.hid HNx1.out.symm, rfl, HB2⟩
              case measure => simp [intOf]; omega
theorem specZeroParts_yes (n : Nat) (sv : Value) (xs : List Int) (b : Nat) (w : World) (h : RowIn (n : Int) xs) (h8 : xs.length ≤ 8) (hI : IsInts w b sv xs) :
    Calls Try.prog 15 #[.int .i64 (n:Int), sv] w fun e w' => e = .returned (.tuple #[.int .i64 ((partsZ n (rowZ xs) xs.length : Nat) : Int), .bool true]) ∧ Below w.heap.size w w' := by
  have HG := Lib.hid (given_yes n sv xs b w h hI)
  have hp8 : 2 ^ xs.length ≤ 2 ^ 8 := Nat.pow_le_pow_right (by omega) h8
  have HP := Lib.hid (l9Parts_any n sv xs b h (2 ^ xs.length) (2 ^ xs.length - 1) w (Nat.sub_le _ _) (Nat.lt_of_lt_of_le (Nat.sub_lt (Nat.two_pow_pos _) (by omega)) hp8) hI)
  have HE : Hid (bestF n (rowZ xs) xs.length (2 ^ xs.length) (2 ^ xs.length - 1) = partsZ n (rowZ xs) xs.length) := Lib.hid rfl
  rw [HE.out] at HP
  obtain ⟨N, hN, hN1, hN2, hw1, hw2, hw3, hw4⟩ := pow12L h.2.1
  rw [hN] at HP
  obtain ⟨A, cap, hsv⟩ := hI.slice
  generalize partsZ n (rowZ xs) xs.length = V at *
  generalize N - 1 = M at *
  clear hp8 hN HE
  generalize xs.length = L at *
  subst hsv
  have k1 : ¬ (L : Int) > 8 := by omega
  have k2 : ¬ (8 : Int) < (L : Int) := by omega
  have k3 : decide ((L : Int) > 8) = false := decide_eq_false k1
  clear hI h
  go_enter Try.func15, Try.ntmps15
  go_wp2_with fail
  refine HG.out.mono ?_
  rintro e w1 ⟨rfl, rfl⟩
  go_wp2_with fail
  refine HP.out.mono ?_
  rintro e w2 ⟨rfl, hb2⟩
  go_wp2
  go_ret2
  exact ⟨rfl, hb2⟩
theorem specZeroParts_no (n : Int) (sv : Value) (xs : List Int) (b : Nat) (w : World) (h : ¬ (RowIn n xs ∧ xs.length ≤ 8)) (hl : xs.length ≤ 2000000) (hI : IsInts w b sv xs) :
    Calls Try.prog 15 #[.int .i64 n, sv] w fun e w' => e = .returned (.tuple #[.int .i64 0, .bool false]) ∧ w = w' := by
  by_cases hr : RowIn n xs
  · have h8 : ¬ xs.length ≤ 8 := fun c => h ⟨hr, c⟩
    have h12 := hr.2.1
    obtain ⟨m, rfl, _, _⟩ := row_nat hr
    have HG := Lib.hid (given_yes m sv xs b w hr hI)
    obtain ⟨A, cap, hsv⟩ := hI.slice
    clear hI h hr
    generalize xs.length = L at *
    subst hsv
    have k1 : (L : Int) > 8 := by omega
    have k2 : (8 : Int) < (L : Int) := by omega
    have k3 : decide ((L : Int) > 8) = true := decide_eq_true k1
    go_enter Try.func15, Try.ntmps15
    go_wp2_with fail
    refine HG.out.mono ?_
    rintro e w1 ⟨rfl, rfl⟩
    go_wp2
    go_ret2
    exact ⟨rfl, rfl⟩
  · have HG := Lib.hid (given_none n sv xs b w hr hl hI)
    clear h hI hr
    go_enter Try.func15, Try.ntmps15
    go_wp2_with fail
    refine HG.out.mono ?_
    rintro e w1 ⟨rfl, rfl⟩
    go_wp2
    go_ret2
    exact ⟨rfl, rfl⟩
end Go.Proofs.Ytkdgbnjpjkhopaa
