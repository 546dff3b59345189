/- The model's orders of plays. Written by gen74.py. -/
import Derived.Test.YtaklmepioeoohaaPlyP
import Derived.Test.YtaklmepioeoohaaGG
namespace Go.Proofs.Ytaklmepioeoohaa
open Go.RowKit Go.Shelf
set_option linter.unusedVariables false
attribute [local go_sem] Oper.semAt_some
/-- What the search tells. -/
def OrdPost (n s m : Nat) (a : Option Nat) (met b : Nat) (xs : List Int) (w : World) (e : Ending) (w' : World) : Prop :=
  ∃ sv, e = .returned (.tuple #[sv, .bool (ordN n s m a met).isSome]) ∧ Below w.heap.size w w' ∧ IsInts w' b sv (putF xs (ordN n s m a met))
/-- What one place brings. -/
def brO (n s m : Nat) (a : Option Nat) (met v : Nat) : Option (List Int) := if mayO n s a met v then (ordN n s m (some v) (met ||| 2 ^ v)).map (fun l => (v : Int) :: l) else none
theorem ord_succ (n s m : Nat) (a : Option Nat) (met : Nat) : ordN n s (m + 1) a met = fstTo (brO n s m a met) n := rfl
theorem fst_up (f : Nat → Option (List Int)) (v : Nat) (h : fstTo f v = none) : fstTo f (v + 1) = f v := by
  show (match fstTo f v with | some l => some l | none => f v) = _
  rw [h]
theorem fst_stays (f : Nat → Option (List Int)) (v n : Nat) (h : v ≤ n) (l : List Int) (hs : fstTo f v = some l) : fstTo f n = some l := by
  induction n with
  | zero =>
    obtain rfl : v = 0 := by omega
    exact hs
  | succ n ih =>
    by_cases c : v = n + 1
    · subst c; exact hs
    · show (match fstTo f n with | some l => some l | none => f n) = _
      rw [ih (by omega)]
theorem brO_no (n s m : Nat) (a : Option Nat) (met v : Nat) (h : mayO n s a met v = false) : brO n s m a met v = none := by
  unfold brO
  rw [h]
  rfl
theorem brO_put (n s m : Nat) (a : Option Nat) (met v : Nat) (xs : List Int) (h : mayO n s a met v = true) : putF xs (brO n s m a met v) = putF (xs ++ [(v : Int)]) (ordN n s m (some v) (met ||| 2 ^ v)) ∧ (brO n s m a met v).isSome = (ordN n s m (some v) (met ||| 2 ^ v)).isSome := by
  unfold brO
  rw [if_pos h]
  cases ordN n s m (some v) (met ||| 2 ^ v) with
  | none => exact ⟨rfl, rfl⟩
  | some l => exact ⟨by show xs ++ ((v : Int) :: l) = (xs ++ [(v : Int)]) ++ l; simp, rfl⟩
theorem ord_put (n s m : Nat) (a : Option Nat) (met v : Nat) (xs : List Int) (hm : mayO n s a met v = true) (hv : v < n) (hf : fstTo (brO n s m a met) v = none) :
    (ordN n s m (some v) (met ||| 2 ^ v) = none → brO n s m a met v = none) ∧ ∀ l, ordN n s m (some v) (met ||| 2 ^ v) = some l → (fstTo (brO n s m a met) n).isSome = true ∧ putF xs (fstTo (brO n s m a met) n) = putF (xs ++ [(v : Int)]) (some l) := by
  have e : brO n s m a met v = (ordN n s m (some v) (met ||| 2 ^ v)).map (fun l => (v : Int) :: l) := by unfold brO; rw [if_pos hm]
  refine ⟨fun h => by rw [e, h]; rfl, fun l h => ?_⟩
  rw [h] at e
  have e2 : fstTo (brO n s m a met) (v + 1) = some ((v : Int) :: l) := (fst_up _ v hf).trans e
  rw [fst_stays _ (v + 1) n hv _ e2]
  exact ⟨rfl, by show xs ++ ((v : Int) :: l) = (xs ++ [(v : Int)]) ++ l; simp⟩
theorem l8Order_zero (n s met b g cap : Nat) (a : Option Nat) (xs : List Int) (w : World) (hl : xs.length = n) (hI : IsInts w b (.slice (some ⟨g, 0, none⟩) xs.length cap) xs) :
    Calls Try.prog 70 #[.int .i64 (n:Int), .int .i64 (s:Int), .slice (some ⟨g, 0, none⟩) xs.length cap, .int .i64 (met:Int)] w (OrdPost n s 0 a met b xs w) := by
  have e1 : ((xs.length : Int) == (n : Int)) = true := by simp [hl]
  have HI := Lib.hid hI
  clear hI
  go_enter Try.func70, Try.ntmps70
  go_wp2
  go_ret2
  refine ⟨_, rfl, Below.refl _ _, ?_⟩
  show IsInts _ _ _ (xs ++ [])
  rw [List.append_nil]
  exact HI.out
set_option maxHeartbeats 4000000 in
theorem l8Order_succ (m n s met b g cap : Nat) (a : Option Nat) (xs : List Int) (w : World) (h1 : 3 ≤ n) (h2 : n ≤ 9) (hs : s < 2 ^ n) (hl : xs.length + (m + 1) = n)
    (ha : (a = none ∧ xs = []) ∨ ∃ u, a = some u ∧ u < n ∧ 1 ≤ xs.length ∧ xs.getD (xs.length - 1) 0 = (u : Int)) (hmt : met < 2 ^ n)
    (hI : IsInts w b (.slice (some ⟨g, 0, none⟩) xs.length cap) xs) (hb : b ≤ w.heap.size)
    (IH : ∀ (v met' b' g' cap' : Nat) (W : World), v < n → met' < 2 ^ n → IsInts W b' (.slice (some ⟨g', 0, none⟩) (xs ++ [(v : Int)]).length cap') (xs ++ [(v : Int)]) → b' ≤ W.heap.size →
      Calls Try.prog 70 #[.int .i64 (n:Int), .int .i64 (s:Int), .slice (some ⟨g', 0, none⟩) (xs ++ [(v : Int)]).length cap', .int .i64 (met':Int)] W (OrdPost n s m (some v) met' b' (xs ++ [(v : Int)]) W)) :
    Calls Try.prog 70 #[.int .i64 (n:Int), .int .i64 (s:Int), .slice (some ⟨g, 0, none⟩) xs.length cap, .int .i64 (met:Int)] w (OrdPost n s (m + 1) a met b xs w) := by
  have hmx : Try.prog.follows .mixedOrders = true := by kernel_rfl
  have hpw := pow_le n (by omega)
  have HI := Lib.hid hI
  have HIH := Lib.hid IH
  have hgl := (World.ownsRow.lt hI g rfl).2
  have HA := Lib.hid ha
  have e1 : ((xs.length : Int) == (n : Int)) = false := by simp; omega
  have HE : Hid (ordN n s (m + 1) a met = fstTo (brO n s m a met) n) := Lib.hid rfl
  have HUp := Lib.hid (fun v => fst_up (brO n s m a met) v)
  have HNo := Lib.hid (fun v => brO_no n s m a met v)
  have HMs := Lib.hid (fun v => has_nat met v (by omega))
  have HLs : Hid (([] : List Int).length + xs.length ≤ 1000) := Lib.hid (by simp; omega)
  have HLs2 : Hid (∀ v : Nat, xs.length + [(v : Int)].length ≤ 1000) := Lib.hid (fun v => by simp; omega)
  obtain ⟨L, hL⟩ : ∃ L, xs.length = L := ⟨_, rfl⟩
  rw [hL] at HI e1 hl ⊢
  have HL := Lib.hid hL
  have hL8 : L ≤ 8 := by omega
  clear hI ha IH hL
  go_enter Try.func70, Try.ntmps70
  go_wp2
  go_loopw [10] (fun vs wr => ∃ v : Nat, v ≤ n ∧ vs = .int .i64 (v : Int) ∧ Hid (fstTo (brO n s m a met) v = none) ∧ Hid (IsInts wr b (.slice (some ⟨g, 0, none⟩) L cap) xs) ∧ Hid (Below w.heap.size w wr)) (fun vs _ => n - (intOf vs).toNat)
  case atStart => exact ⟨0, Nat.zero_le _, rfl, Lib.hid rfl, HI, Lib.hid (Below.refl _ _)⟩
  case round =>
    obtain ⟨v, hv, rfl, HF, HIb, HB⟩ := hrel
    by_cases hlt : v < n
    · have hmb := HMs.out v
      cases hmv : met.testBit v
      · rw [hmv] at hmb
        rcases HA.out with ⟨ha, hx⟩ | ⟨u, ha, hu, hx1, hx2⟩
        · have hmy : mayO n s a met v = true := by unfold mayO; rw [hmv, ha]; rfl
          have l1 : ¬ (0 : Int) < (L : Int) := by have := HL.out; rw [hx] at this; simp at this; omega
          have l2 := decide_eq_false l1
          have l3 : ¬ 0 < L := by omega
          have l4 := decide_eq_false l3
          clear hmv ha hx
          have hwi := with_nat met v (by omega) (by omega)
          have hwj : bits .or .i64 (met : Int) (IntKind.i64.wrap (2 ^ v)) = ((met ||| 2 ^ v : Nat) : Int) := by rw [IntWalk.i64_left]; exact hwi
          have HPut : Hid ((∀ h : ordN n s m (some v) (met ||| 2 ^ v) = none, brO n s m a met v = none) ∧ ∀ l, ordN n s m (some v) (met ||| 2 ^ v) = some l → (fstTo (brO n s m a met) n).isSome = true ∧ putF xs (fstTo (brO n s m a met) n) = putF (xs ++ [(v : Int)]) (some l)) := Lib.hid (ord_put n s m a met v xs hmy hlt HF.out)
          have hIHv := fun (b' g' cap' : Nat) (W : World) => HIH.out v (met ||| 2 ^ v) b' g' cap' W hlt (Nat.or_lt_two_pow hmt (Nat.pow_lt_pow_right (by omega) hlt))
          unfold OrdPost at hIHv
          obtain ⟨L2, hL2⟩ : ∃ L2, (xs ++ [(v : Int)]).length = L2 := ⟨_, rfl⟩
          rw [hL2] at hIHv
          have HL2 := Lib.hid hL2
          obtain ⟨mt, hmt2⟩ : ∃ mt, met ||| 2 ^ v = mt := ⟨_, rfl⟩
          rw [hmt2] at hIHv hwi hwj HPut
          have HIHv := Lib.hid hIHv
          have hsz := HB.out.size
          clear hL2 hIHv hmt2 hmy
          go_wp2
          have HB := Lib.hid HB.out.drew
          have HIb := Lib.hid (HIb.out.belowAll (Below.refl _ wr).drew)
          obtain ⟨N0, hN0⟩ : ∃ N0, wr.heap.size = N0 := ⟨_, rfl⟩
          have hz0 : w.heap.size ≤ N0 := by rw [← hN0]; exact hsz
          have hbN : b ≤ N0 := Nat.le_trans hb hz0
          have hgN : g < N0 := Nat.lt_of_lt_of_le hgl hz0
          have hzW : N0 ≤ wr.drew.heap.size := Nat.le_of_eq hN0.symm
          refine wp_region_held_drew (S := fun _ => True) hmx trivial (fun _ => ?_)
          generalize wr.drew = W3 at *
          clear hN0 hsz
          refine take1 0 (v := ?_) rfl (by kernel_rfl) (by kernel_rfl) (by kernel_rfl) (fun _ _ _ h => h) (by rfl) ?_ trivial ?_
          rotate_left
          · intro W9 hA
            clear hA
            go_simp
            try with_reducible rfl
          try simp only [Act.put, List.setIfInBounds_toArray, List.set_cons_zero, List.set_cons_succ]
          refine take1 1 (v := ?_) rfl (by kernel_rfl) (by kernel_rfl) (by kernel_rfl) (fun _ _ _ h => h) (by rfl) ?_ trivial ?_
          rotate_left
          · intro W9 hA
            clear hA
            go_simp
            try with_reducible rfl
          try simp only [Act.put, List.setIfInBounds_toArray, List.set_cons_zero, List.set_cons_succ]
          refine take1 3 (v := ?_) rfl (by kernel_rfl) (by kernel_rfl) (by kernel_rfl) (fun _ _ _ h => h) (by rfl) ?_ trivial ?_
          rotate_left
          · intro W9 hA
            clear hA
            go_simp
            try with_reducible rfl
          try simp only [Act.put, List.setIfInBounds_toArray, List.set_cons_zero, List.set_cons_succ]
          refine take1 5 (v := ?_) rfl (by kernel_rfl) (by kernel_rfl) (by kernel_rfl) (fun _ _ _ h => h) (by rfl) ?_ trivial ?_
          rotate_left
          · intro W9 hA
            clear hA
            go_simp
            try with_reducible rfl
          try simp only [Act.put, List.setIfInBounds_toArray, List.set_cons_zero, List.set_cons_succ]
          refine take1 8 (v := ?_) rfl (by kernel_rfl) (by kernel_rfl) (by kernel_rfl) (fun _ _ _ h => h) (by rfl) ?_ trivial ?_
          rotate_left
          · intro W9 hA
            clear hA
            go_simp
            try with_reducible rfl
          try simp only [Act.put, List.setIfInBounds_toArray, List.set_cons_zero, List.set_cons_succ]
          refine take1 9 (v := ?_) rfl (by kernel_rfl) (by kernel_rfl) (by kernel_rfl) (fun _ _ _ h => h) (by rfl) ?_ trivial ?_
          rotate_left
          · intro W9 hA
            clear hA
            go_simp
            try with_reducible rfl
          try simp only [Act.put, List.setIfInBounds_toArray, List.set_cons_zero, List.set_cons_succ]
          refine take1 10 (v := ?_) rfl (by kernel_rfl) (by kernel_rfl) (by kernel_rfl) (fun _ _ _ h => h) (by rfl) ?_ trivial ?_
          rotate_left
          · intro W9 hA
            clear hA
            go_simp
            try with_reducible rfl
          try simp only [Act.put, List.setIfInBounds_toArray, List.set_cons_zero, List.set_cons_succ]
          refine take1 11 (v := ?_) rfl (by kernel_rfl) (by kernel_rfl) (by kernel_rfl) (fun _ _ _ h => h) (by rfl) ?_ trivial ?_
          rotate_left
          · intro W9 hA
            clear hA
            go_simp
            try with_reducible rfl
          try simp only [Act.put, List.setIfInBounds_toArray, List.set_cons_zero, List.set_cons_succ]
          refine step2 2 6 (by kernel_rfl) rfl rfl (fun K hK => ?_) (fun K hK => ?_)
          · go_simp
            obtain ⟨h1, hh1⟩ : ∃ h1, W3.heap.size = h1 := ⟨_, rfl⟩
            have hNh1 : N0 ≤ h1 := by omega
            have HX1 := Lib.hid (nil_made W3 N0 hzW)
            rw [hh1] at HX1
            have HB := Lib.hid (HB.out.alloc (Nat.le_trans hz0 hzW) (.cells #[] 3))
            have HIb := Lib.hid (show IsInts (W3.alloc (.cells #[] 3)) b (.slice (some ⟨g, 0, none⟩) L cap) xs from World.ownsRow.alloc HIb.out _)
            have hsz9 : (W3.alloc (.cells #[] 3)).heap.size = W3.heap.size + 1 := by simp
            obtain ⟨W4, hW4⟩ : ∃ W4, W3.alloc (.cells #[] 3) = W4 := ⟨_, rfl⟩
            rw [hW4] at HB HIb hsz9 HX1 ⊢
            clear hW4
            rw [hh1] at hsz9 ⊢
            have hzW : N0 ≤ W4.heap.size := by omega
            clear hh1 hsz9
            refine hK.out _ _ trivial ?_
            clear hK K
            try simp only [Act.put, List.setIfInBounds_toArray, List.set_cons_zero, List.set_cons_succ]
            refine step2 4 6 (by kernel_rfl) rfl rfl (fun K hK => ?_) (fun K hK => ?_)
            · rw [if_pos (by rfl)]
              refine wp_append_any (.tmp 49) (.tmp 50) rfl (.slice (some ⟨h1, 0, none⟩) 0 0) [] xs W4 N0 g cap b rfl (by rw [HL.out]; rfl) HX1.out (by rw [HL.out]; exact HIb.out) HLs.out hzW (fun v2 W5 hX2 hkeep hbelow hgrows => ?_)
              have HX2 := Lib.hid hX2
              rw [List.nil_append] at HX2
              have HIb := Lib.hid (hkeep _ _ _ HIb.out (apart_gh (Nat.ne_of_lt (Nat.lt_of_lt_of_le hgN hNh1))))
              have HB := Lib.hid (hbelow _ _ hz0 HB.out)
              have hzW := Nat.le_trans hzW hgrows
              clear hX2 hkeep hbelow hgrows HX1
              refine hK.out _ _ trivial ?_
              clear hK K
              try simp only [Act.put, List.setIfInBounds_toArray, List.set_cons_zero, List.set_cons_succ]
              refine step1 6 (by kernel_rfl) rfl (fun K hK => ?_)
              go_simp
              obtain ⟨h6, hh6⟩ : ∃ h6, W5.heap.size = h6 := ⟨_, rfl⟩
              have hNh6 : N0 ≤ h6 := by omega
              have HXv := Lib.hid (lit_one W5 N0 (v : Int) hzW)
              rw [hh6] at HXv
              have HB := Lib.hid (HB.out.alloc (Nat.le_trans hz0 hzW) (.cells #[.int .i64 (v : Int)] 3))
              have HIb := Lib.hid (show IsInts (W5.alloc (.cells #[.int .i64 (v : Int)] 3)) b (.slice (some ⟨g, 0, none⟩) L cap) xs from World.ownsRow.alloc HIb.out _)
              have HX2 := Lib.hid (show IsInts (W5.alloc (.cells #[.int .i64 (v : Int)] 3)) N0 v2 xs from World.ownsRow.alloc HX2.out _)
              have hsz9 : (W5.alloc (.cells #[.int .i64 (v : Int)] 3)).heap.size = W5.heap.size + 1 := by simp
              obtain ⟨W6, hW6⟩ : ∃ W6, W5.alloc (.cells #[.int .i64 (v : Int)] 3) = W6 := ⟨_, rfl⟩
              rw [hW6] at HB HIb hsz9 HX2 HXv ⊢
              clear hW6
              rw [hh6] at hsz9 ⊢
              have hzW : N0 ≤ W6.heap.size := by omega
              clear hh6 hsz9
              refine hK.out _ _ trivial ?_
              clear hK K
              try simp only [Act.put, List.setIfInBounds_toArray, List.set_cons_zero, List.set_cons_succ]
              refine step1 7 (by kernel_rfl) rfl (fun K hK => ?_)
              rw [if_pos (by rfl)]
              refine wp_append_any (.tmp 51) (.tmp 53) rfl v2 xs [(v : Int)] W6 N0 h6 1 N0 rfl rfl HX2.out HXv.out (HLs2.out v) hzW (fun v3 W7 hX3 hkeep hbelow hgrows => ?_)
              have HX3 := Lib.hid hX3
              have HIb := Lib.hid (hkeep _ _ _ HIb.out (far_block2 (N := N0) (far_g hgN) (fun k hk => (World.ownsRow.lt HX2.out k hk).1)))
              have HB := Lib.hid (hbelow _ _ hz0 HB.out)
              have hzW := Nat.le_trans hzW hgrows
              clear hX3 hkeep hbelow hgrows HX2 HXv
              refine hK.out _ _ trivial ?_
              clear hK K
              try simp only [Act.put, List.setIfInBounds_toArray, List.set_cons_zero, List.set_cons_succ]
              rcases HX3.out.shape with ⟨_, e⟩ | ⟨g3, cap3, hv3, hg31, hg32, hg33⟩
              · exact absurd e (by simp)
              rw [HL2.out] at hv3
              subst hv3
              refine step1 12 (by kernel_rfl) rfl (fun K hK => ?_)
              go_simp
              refine (HIHv.out N0 g3 cap3 _ HX3.out hzW).mono ?_
              rintro e W9 ⟨sv, rfl, hb9, hI9⟩
              have HSv := Lib.hid hI9
              have HIb := Lib.hid (HIb.out.belowAll hb9)
              have HB := Lib.hid (HB.out.trans (hb9.mono HB.out.size))
              clear hb9 hI9 hg33 HX3
              go_wp2_with fail
              refine hK.out _ _ trivial ?_
              clear hK K
              try simp only [Act.put, List.setIfInBounds_toArray, List.set_cons_zero, List.set_cons_succ]
              refine take1 13 (v := ?_) rfl (by kernel_rfl) (by kernel_rfl) (by kernel_rfl) (fun _ _ _ h => h) (by rfl) ?_ trivial ?_
              rotate_left
              · intro W9 hA
                clear hA
                go_simp
                try with_reducible rfl
              try simp only [Act.put, List.setIfInBounds_toArray, List.set_cons_zero, List.set_cons_succ]
              refine take1 14 (v := ?_) rfl (by kernel_rfl) (by kernel_rfl) (by kernel_rfl) (fun _ _ _ h => h) (by rfl) ?_ trivial ?_
              rotate_left
              · intro W9 hA
                clear hA
                go_simp
                try with_reducible rfl
              try simp only [Act.put, List.setIfInBounds_toArray, List.set_cons_zero, List.set_cons_succ]
              refine take1 15 (v := ?_) rfl (by kernel_rfl) (by kernel_rfl) (by kernel_rfl) (fun _ _ _ h => h) (by rfl) ?_ trivial ?_
              rotate_left
              · intro W9 hA
                clear hA
                go_simp
                try with_reducible rfl
              try simp only [Act.put, List.setIfInBounds_toArray, List.set_cons_zero, List.set_cons_succ]
              refine take1 16 (v := ?_) rfl (by kernel_rfl) (by kernel_rfl) (by kernel_rfl) (fun _ _ _ h => h) (by rfl) ?_ trivial ?_
              rotate_left
              · intro W9 hA
                clear hA
                go_simp
                try with_reducible rfl
              try simp only [Act.put, List.setIfInBounds_toArray, List.set_cons_zero, List.set_cons_succ]
              refine take1 17 (v := ?_) rfl (by kernel_rfl) (by kernel_rfl) (by kernel_rfl) (fun _ _ _ h => h) (by rfl) ?_ trivial ?_
              rotate_left
              · intro W9 hA
                clear hA
                go_simp
                try with_reducible rfl
              try simp only [Act.put, List.setIfInBounds_toArray, List.set_cons_zero, List.set_cons_succ]
              refine stop1 (by kernel_rfl) ?_
              cases ho : ordN n s m (some v) mt
              · rw [ho] at HPut HSv
                simp only [Option.isSome_none]
                have HF2 := Lib.hid ((HUp.out v HF.out).trans (HPut.out.1 rfl))
                clear ho
                go_wp2
                go_roundw
                case rel => exact ⟨v + 1, by omega, by go_num, HF2, HIb, HB⟩
                case measure => simp [intOf]; omega
              · rw [ho] at HPut HSv
                simp only [Option.isSome_some]
                have HF2 := Lib.hid (HPut.out.2 _ rfl)
                clear ho
                go_wp2
                go_ret2
                refine ⟨_, by rw [HE.out, HF2.out.1]; rfl, HB.out, ?_⟩
                rw [HE.out, HF2.out.2]
                exact HSv.out.base hbN
            · go_simp
              obtain ⟨h6, hh6⟩ : ∃ h6, W4.heap.size = h6 := ⟨_, rfl⟩
              have hNh6 : N0 ≤ h6 := by omega
              have HXv := Lib.hid (lit_one W4 N0 (v : Int) hzW)
              rw [hh6] at HXv
              have hne16 : h1 ≠ h6 := by have := (World.ownsRow.lt HX1.out h1 rfl).2; omega
              have HB := Lib.hid (HB.out.alloc (Nat.le_trans hz0 hzW) (.cells #[.int .i64 (v : Int)] 3))
              have HIb := Lib.hid (show IsInts (W4.alloc (.cells #[.int .i64 (v : Int)] 3)) b (.slice (some ⟨g, 0, none⟩) L cap) xs from World.ownsRow.alloc HIb.out _)
              have HX1 := Lib.hid (show IsInts (W4.alloc (.cells #[.int .i64 (v : Int)] 3)) N0 (.slice (some ⟨h1, 0, none⟩) 0 0) [] from World.ownsRow.alloc HX1.out _)
              have hsz9 : (W4.alloc (.cells #[.int .i64 (v : Int)] 3)).heap.size = W4.heap.size + 1 := by simp
              obtain ⟨W5, hW5⟩ : ∃ W5, W4.alloc (.cells #[.int .i64 (v : Int)] 3) = W5 := ⟨_, rfl⟩
              rw [hW5] at HB HIb hsz9 HX1 HXv ⊢
              clear hW5
              rw [hh6] at hsz9 ⊢
              have hzW : N0 ≤ W5.heap.size := by omega
              clear hh6 hsz9
              refine hK.out _ _ trivial ?_
              clear hK K
              try simp only [Act.put, List.setIfInBounds_toArray, List.set_cons_zero, List.set_cons_succ]
              refine step1 4 (by kernel_rfl) rfl (fun K hK => ?_)
              rw [if_pos (by rfl)]
              refine wp_append_any (.tmp 49) (.tmp 50) rfl (.slice (some ⟨h1, 0, none⟩) 0 0) [] xs W5 N0 g cap b rfl (by rw [HL.out]; rfl) HX1.out (by rw [HL.out]; exact HIb.out) HLs.out hzW (fun v2 W6 hX2 hkeep hbelow hgrows => ?_)
              have HX2 := Lib.hid hX2
              rw [List.nil_append] at HX2
              have HIb := Lib.hid (hkeep _ _ _ HIb.out (apart_gh (Nat.ne_of_lt (Nat.lt_of_lt_of_le hgN hNh1))))
              have HXv := Lib.hid (hkeep _ _ _ HXv.out (apart_gh (fun e => hne16 e.symm)))
              have HB := Lib.hid (hbelow _ _ hz0 HB.out)
              have hzW := Nat.le_trans hzW hgrows
              clear hX2 hkeep hbelow hgrows HX1
              refine hK.out _ _ trivial ?_
              clear hK K
              try simp only [Act.put, List.setIfInBounds_toArray, List.set_cons_zero, List.set_cons_succ]
              refine step1 7 (by kernel_rfl) rfl (fun K hK => ?_)
              rw [if_pos (by rfl)]
              refine wp_append_any (.tmp 51) (.tmp 53) rfl v2 xs [(v : Int)] W6 N0 h6 1 N0 rfl rfl HX2.out HXv.out (HLs2.out v) hzW (fun v3 W7 hX3 hkeep hbelow hgrows => ?_)
              have HX3 := Lib.hid hX3
              have HIb := Lib.hid (hkeep _ _ _ HIb.out (far_block2 (N := N0) (far_g hgN) (fun k hk => (World.ownsRow.lt HX2.out k hk).1)))
              have HB := Lib.hid (hbelow _ _ hz0 HB.out)
              have hzW := Nat.le_trans hzW hgrows
              clear hX3 hkeep hbelow hgrows HX2 HXv
              refine hK.out _ _ trivial ?_
              clear hK K
              try simp only [Act.put, List.setIfInBounds_toArray, List.set_cons_zero, List.set_cons_succ]
              rcases HX3.out.shape with ⟨_, e⟩ | ⟨g3, cap3, hv3, hg31, hg32, hg33⟩
              · exact absurd e (by simp)
              rw [HL2.out] at hv3
              subst hv3
              refine step1 12 (by kernel_rfl) rfl (fun K hK => ?_)
              go_simp
              refine (HIHv.out N0 g3 cap3 _ HX3.out hzW).mono ?_
              rintro e W9 ⟨sv, rfl, hb9, hI9⟩
              have HSv := Lib.hid hI9
              have HIb := Lib.hid (HIb.out.belowAll hb9)
              have HB := Lib.hid (HB.out.trans (hb9.mono HB.out.size))
              clear hb9 hI9 hg33 HX3
              go_wp2_with fail
              refine hK.out _ _ trivial ?_
              clear hK K
              try simp only [Act.put, List.setIfInBounds_toArray, List.set_cons_zero, List.set_cons_succ]
              refine take1 13 (v := ?_) rfl (by kernel_rfl) (by kernel_rfl) (by kernel_rfl) (fun _ _ _ h => h) (by rfl) ?_ trivial ?_
              rotate_left
              · intro W9 hA
                clear hA
                go_simp
                try with_reducible rfl
              try simp only [Act.put, List.setIfInBounds_toArray, List.set_cons_zero, List.set_cons_succ]
              refine take1 14 (v := ?_) rfl (by kernel_rfl) (by kernel_rfl) (by kernel_rfl) (fun _ _ _ h => h) (by rfl) ?_ trivial ?_
              rotate_left
              · intro W9 hA
                clear hA
                go_simp
                try with_reducible rfl
              try simp only [Act.put, List.setIfInBounds_toArray, List.set_cons_zero, List.set_cons_succ]
              refine take1 15 (v := ?_) rfl (by kernel_rfl) (by kernel_rfl) (by kernel_rfl) (fun _ _ _ h => h) (by rfl) ?_ trivial ?_
              rotate_left
              · intro W9 hA
                clear hA
                go_simp
                try with_reducible rfl
              try simp only [Act.put, List.setIfInBounds_toArray, List.set_cons_zero, List.set_cons_succ]
              refine take1 16 (v := ?_) rfl (by kernel_rfl) (by kernel_rfl) (by kernel_rfl) (fun _ _ _ h => h) (by rfl) ?_ trivial ?_
              rotate_left
              · intro W9 hA
                clear hA
                go_simp
                try with_reducible rfl
              try simp only [Act.put, List.setIfInBounds_toArray, List.set_cons_zero, List.set_cons_succ]
              refine take1 17 (v := ?_) rfl (by kernel_rfl) (by kernel_rfl) (by kernel_rfl) (fun _ _ _ h => h) (by rfl) ?_ trivial ?_
              rotate_left
              · intro W9 hA
                clear hA
                go_simp
                try with_reducible rfl
              try simp only [Act.put, List.setIfInBounds_toArray, List.set_cons_zero, List.set_cons_succ]
              refine stop1 (by kernel_rfl) ?_
              cases ho : ordN n s m (some v) mt
              · rw [ho] at HPut HSv
                simp only [Option.isSome_none]
                have HF2 := Lib.hid ((HUp.out v HF.out).trans (HPut.out.1 rfl))
                clear ho
                go_wp2
                go_roundw
                case rel => exact ⟨v + 1, by omega, by go_num, HF2, HIb, HB⟩
                case measure => simp [intOf]; omega
              · rw [ho] at HPut HSv
                simp only [Option.isSome_some]
                have HF2 := Lib.hid (HPut.out.2 _ rfl)
                clear ho
                go_wp2
                go_ret2
                refine ⟨_, by rw [HE.out, HF2.out.1]; rfl, HB.out, ?_⟩
                rw [HE.out, HF2.out.2]
                exact HSv.out.base hbN
          · go_simp
            obtain ⟨h6, hh6⟩ : ∃ h6, W3.heap.size = h6 := ⟨_, rfl⟩
            have hNh6 : N0 ≤ h6 := by omega
            have HXv := Lib.hid (lit_one W3 N0 (v : Int) hzW)
            rw [hh6] at HXv
            have HB := Lib.hid (HB.out.alloc (Nat.le_trans hz0 hzW) (.cells #[.int .i64 (v : Int)] 3))
            have HIb := Lib.hid (show IsInts (W3.alloc (.cells #[.int .i64 (v : Int)] 3)) b (.slice (some ⟨g, 0, none⟩) L cap) xs from World.ownsRow.alloc HIb.out _)
            have hsz9 : (W3.alloc (.cells #[.int .i64 (v : Int)] 3)).heap.size = W3.heap.size + 1 := by simp
            obtain ⟨W4, hW4⟩ : ∃ W4, W3.alloc (.cells #[.int .i64 (v : Int)] 3) = W4 := ⟨_, rfl⟩
            rw [hW4] at HB HIb hsz9 HXv ⊢
            clear hW4
            rw [hh6] at hsz9 ⊢
            have hzW : N0 ≤ W4.heap.size := by omega
            clear hh6 hsz9
            refine hK.out _ _ trivial ?_
            clear hK K
            try simp only [Act.put, List.setIfInBounds_toArray, List.set_cons_zero, List.set_cons_succ]
            refine step1 2 (by kernel_rfl) rfl (fun K hK => ?_)
            go_simp
            obtain ⟨h1, hh1⟩ : ∃ h1, W4.heap.size = h1 := ⟨_, rfl⟩
            have hNh1 : N0 ≤ h1 := by omega
            have HX1 := Lib.hid (nil_made W4 N0 hzW)
            rw [hh1] at HX1
            have hne16 : h1 ≠ h6 := by have := (World.ownsRow.lt HXv.out h6 rfl).2; omega
            have HB := Lib.hid (HB.out.alloc (Nat.le_trans hz0 hzW) (.cells #[] 3))
            have HIb := Lib.hid (show IsInts (W4.alloc (.cells #[] 3)) b (.slice (some ⟨g, 0, none⟩) L cap) xs from World.ownsRow.alloc HIb.out _)
            have HXv := Lib.hid (show IsInts (W4.alloc (.cells #[] 3)) N0 (.slice (some ⟨h6, 0, none⟩) 1 1) [(v : Int)] from World.ownsRow.alloc HXv.out _)
            have hsz9 : (W4.alloc (.cells #[] 3)).heap.size = W4.heap.size + 1 := by simp
            obtain ⟨W5, hW5⟩ : ∃ W5, W4.alloc (.cells #[] 3) = W5 := ⟨_, rfl⟩
            rw [hW5] at HB HIb hsz9 HXv HX1 ⊢
            clear hW5
            rw [hh1] at hsz9 ⊢
            have hzW : N0 ≤ W5.heap.size := by omega
            clear hh1 hsz9
            refine hK.out _ _ trivial ?_
            clear hK K
            try simp only [Act.put, List.setIfInBounds_toArray, List.set_cons_zero, List.set_cons_succ]
            refine step1 4 (by kernel_rfl) rfl (fun K hK => ?_)
            rw [if_pos (by rfl)]
            refine wp_append_any (.tmp 49) (.tmp 50) rfl (.slice (some ⟨h1, 0, none⟩) 0 0) [] xs W5 N0 g cap b rfl (by rw [HL.out]; rfl) HX1.out (by rw [HL.out]; exact HIb.out) HLs.out hzW (fun v2 W6 hX2 hkeep hbelow hgrows => ?_)
            have HX2 := Lib.hid hX2
            rw [List.nil_append] at HX2
            have HIb := Lib.hid (hkeep _ _ _ HIb.out (apart_gh (Nat.ne_of_lt (Nat.lt_of_lt_of_le hgN hNh1))))
            have HXv := Lib.hid (hkeep _ _ _ HXv.out (apart_gh (fun e => hne16 e.symm)))
            have HB := Lib.hid (hbelow _ _ hz0 HB.out)
            have hzW := Nat.le_trans hzW hgrows
            clear hX2 hkeep hbelow hgrows HX1
            refine hK.out _ _ trivial ?_
            clear hK K
            try simp only [Act.put, List.setIfInBounds_toArray, List.set_cons_zero, List.set_cons_succ]
            refine step1 7 (by kernel_rfl) rfl (fun K hK => ?_)
            rw [if_pos (by rfl)]
            refine wp_append_any (.tmp 51) (.tmp 53) rfl v2 xs [(v : Int)] W6 N0 h6 1 N0 rfl rfl HX2.out HXv.out (HLs2.out v) hzW (fun v3 W7 hX3 hkeep hbelow hgrows => ?_)
            have HX3 := Lib.hid hX3
            have HIb := Lib.hid (hkeep _ _ _ HIb.out (far_block2 (N := N0) (far_g hgN) (fun k hk => (World.ownsRow.lt HX2.out k hk).1)))
            have HB := Lib.hid (hbelow _ _ hz0 HB.out)
            have hzW := Nat.le_trans hzW hgrows
            clear hX3 hkeep hbelow hgrows HX2 HXv
            refine hK.out _ _ trivial ?_
            clear hK K
            try simp only [Act.put, List.setIfInBounds_toArray, List.set_cons_zero, List.set_cons_succ]
            rcases HX3.out.shape with ⟨_, e⟩ | ⟨g3, cap3, hv3, hg31, hg32, hg33⟩
            · exact absurd e (by simp)
            rw [HL2.out] at hv3
            subst hv3
            refine step1 12 (by kernel_rfl) rfl (fun K hK => ?_)
            go_simp
            refine (HIHv.out N0 g3 cap3 _ HX3.out hzW).mono ?_
            rintro e W9 ⟨sv, rfl, hb9, hI9⟩
            have HSv := Lib.hid hI9
            have HIb := Lib.hid (HIb.out.belowAll hb9)
            have HB := Lib.hid (HB.out.trans (hb9.mono HB.out.size))
            clear hb9 hI9 hg33 HX3
            go_wp2_with fail
            refine hK.out _ _ trivial ?_
            clear hK K
            try simp only [Act.put, List.setIfInBounds_toArray, List.set_cons_zero, List.set_cons_succ]
            refine take1 13 (v := ?_) rfl (by kernel_rfl) (by kernel_rfl) (by kernel_rfl) (fun _ _ _ h => h) (by rfl) ?_ trivial ?_
            rotate_left
            · intro W9 hA
              clear hA
              go_simp
              try with_reducible rfl
            try simp only [Act.put, List.setIfInBounds_toArray, List.set_cons_zero, List.set_cons_succ]
            refine take1 14 (v := ?_) rfl (by kernel_rfl) (by kernel_rfl) (by kernel_rfl) (fun _ _ _ h => h) (by rfl) ?_ trivial ?_
            rotate_left
            · intro W9 hA
              clear hA
              go_simp
              try with_reducible rfl
            try simp only [Act.put, List.setIfInBounds_toArray, List.set_cons_zero, List.set_cons_succ]
            refine take1 15 (v := ?_) rfl (by kernel_rfl) (by kernel_rfl) (by kernel_rfl) (fun _ _ _ h => h) (by rfl) ?_ trivial ?_
            rotate_left
            · intro W9 hA
              clear hA
              go_simp
              try with_reducible rfl
            try simp only [Act.put, List.setIfInBounds_toArray, List.set_cons_zero, List.set_cons_succ]
            refine take1 16 (v := ?_) rfl (by kernel_rfl) (by kernel_rfl) (by kernel_rfl) (fun _ _ _ h => h) (by rfl) ?_ trivial ?_
            rotate_left
            · intro W9 hA
              clear hA
              go_simp
              try with_reducible rfl
            try simp only [Act.put, List.setIfInBounds_toArray, List.set_cons_zero, List.set_cons_succ]
            refine take1 17 (v := ?_) rfl (by kernel_rfl) (by kernel_rfl) (by kernel_rfl) (fun _ _ _ h => h) (by rfl) ?_ trivial ?_
            rotate_left
            · intro W9 hA
              clear hA
              go_simp
              try with_reducible rfl
            try simp only [Act.put, List.setIfInBounds_toArray, List.set_cons_zero, List.set_cons_succ]
            refine stop1 (by kernel_rfl) ?_
            cases ho : ordN n s m (some v) mt
            · rw [ho] at HPut HSv
              simp only [Option.isSome_none]
              have HF2 := Lib.hid ((HUp.out v HF.out).trans (HPut.out.1 rfl))
              clear ho
              go_wp2
              go_roundw
              case rel => exact ⟨v + 1, by omega, by go_num, HF2, HIb, HB⟩
              case measure => simp [intOf]; omega
            · rw [ho] at HPut HSv
              simp only [Option.isSome_some]
              have HF2 := Lib.hid (HPut.out.2 _ rfl)
              clear ho
              go_wp2
              go_ret2
              refine ⟨_, by rw [HE.out, HF2.out.1]; rfl, HB.out, ?_⟩
              rw [HE.out, HF2.out.2]
              exact HSv.out.base hbN
        · have c0 := HIb.out.cell (i := xs.length - 1) (by omega)
          rw [hx2] at c0
          have HBt := Lib.hid (fun W => l8Beats_any n s u v W (by omega) (by omega) hs (by omega) (by omega))
          have hmm : mayO n s a met v = beatB n s u v := by unfold mayO; rw [hmv, ha]; rfl
          rw [HL.out] at c0 hx1
          obtain ⟨J, hJe⟩ : ∃ J, L - 1 = J := ⟨_, rfl⟩
          rw [hJe] at c0
          obtain ⟨j1, j2⟩ := two_wraps ((L : Int) - 1) J (by omega) (by omega)
          have i1 : (0 : Int) ≤ (J : Int) := by omega
          have i2 : (J : Int) < (L : Int) := by omega
          have l1 : (0 : Int) < (L : Int) := by omega
          have l2 := decide_eq_true l1
          have l4 := decide_eq_true (show 0 < L from hx1)
          clear hmv ha hx2 hJe
          cases hbt : beatB n s u v
          · rw [hbt] at HBt hmm
            have HF2 := Lib.hid ((HUp.out v HF.out).trans (HNo.out v hmm))
            clear hbt hmm
            go_wp2_with (go_at_call 57; refine (HBt.out _).mono ?_; rintro e w' ⟨rfl, rfl⟩)
            go_roundw
            case rel => exact ⟨v + 1, by omega, by go_num, HF2, HIb, HB⟩
            case measure => simp [intOf]; omega
          · rw [hbt] at HBt hmm
            have hmy := hmm
            clear hbt hmm
            have hwi := with_nat met v (by omega) (by omega)
            have hwj : bits .or .i64 (met : Int) (IntKind.i64.wrap (2 ^ v)) = ((met ||| 2 ^ v : Nat) : Int) := by rw [IntWalk.i64_left]; exact hwi
            have HPut : Hid ((∀ h : ordN n s m (some v) (met ||| 2 ^ v) = none, brO n s m a met v = none) ∧ ∀ l, ordN n s m (some v) (met ||| 2 ^ v) = some l → (fstTo (brO n s m a met) n).isSome = true ∧ putF xs (fstTo (brO n s m a met) n) = putF (xs ++ [(v : Int)]) (some l)) := Lib.hid (ord_put n s m a met v xs hmy hlt HF.out)
            have hIHv := fun (b' g' cap' : Nat) (W : World) => HIH.out v (met ||| 2 ^ v) b' g' cap' W hlt (Nat.or_lt_two_pow hmt (Nat.pow_lt_pow_right (by omega) hlt))
            unfold OrdPost at hIHv
            obtain ⟨L2, hL2⟩ : ∃ L2, (xs ++ [(v : Int)]).length = L2 := ⟨_, rfl⟩
            rw [hL2] at hIHv
            have HL2 := Lib.hid hL2
            obtain ⟨mt, hmt2⟩ : ∃ mt, met ||| 2 ^ v = mt := ⟨_, rfl⟩
            rw [hmt2] at hIHv hwi hwj HPut
            have HIHv := Lib.hid hIHv
            have hsz := HB.out.size
            clear hL2 hIHv hmt2 hmy
            go_wp2_with (go_at_call 57; refine (HBt.out _).mono ?_; rintro e w' ⟨rfl, rfl⟩)
            have HB := Lib.hid HB.out.drew
            have HIb := Lib.hid (HIb.out.belowAll (Below.refl _ wr).drew)
            obtain ⟨N0, hN0⟩ : ∃ N0, wr.heap.size = N0 := ⟨_, rfl⟩
            have hz0 : w.heap.size ≤ N0 := by rw [← hN0]; exact hsz
            have hbN : b ≤ N0 := Nat.le_trans hb hz0
            have hgN : g < N0 := Nat.lt_of_lt_of_le hgl hz0
            have hzW : N0 ≤ wr.drew.heap.size := Nat.le_of_eq hN0.symm
            refine wp_region_held_drew (S := fun _ => True) hmx trivial (fun _ => ?_)
            generalize wr.drew = W3 at *
            clear hN0 hsz
            refine take1 0 (v := ?_) rfl (by kernel_rfl) (by kernel_rfl) (by kernel_rfl) (fun _ _ _ h => h) (by rfl) ?_ trivial ?_
            rotate_left
            · intro W9 hA
              clear hA
              go_simp
              try with_reducible rfl
            try simp only [Act.put, List.setIfInBounds_toArray, List.set_cons_zero, List.set_cons_succ]
            refine take1 1 (v := ?_) rfl (by kernel_rfl) (by kernel_rfl) (by kernel_rfl) (fun _ _ _ h => h) (by rfl) ?_ trivial ?_
            rotate_left
            · intro W9 hA
              clear hA
              go_simp
              try with_reducible rfl
            try simp only [Act.put, List.setIfInBounds_toArray, List.set_cons_zero, List.set_cons_succ]
            refine take1 3 (v := ?_) rfl (by kernel_rfl) (by kernel_rfl) (by kernel_rfl) (fun _ _ _ h => h) (by rfl) ?_ trivial ?_
            rotate_left
            · intro W9 hA
              clear hA
              go_simp
              try with_reducible rfl
            try simp only [Act.put, List.setIfInBounds_toArray, List.set_cons_zero, List.set_cons_succ]
            refine take1 5 (v := ?_) rfl (by kernel_rfl) (by kernel_rfl) (by kernel_rfl) (fun _ _ _ h => h) (by rfl) ?_ trivial ?_
            rotate_left
            · intro W9 hA
              clear hA
              go_simp
              try with_reducible rfl
            try simp only [Act.put, List.setIfInBounds_toArray, List.set_cons_zero, List.set_cons_succ]
            refine take1 8 (v := ?_) rfl (by kernel_rfl) (by kernel_rfl) (by kernel_rfl) (fun _ _ _ h => h) (by rfl) ?_ trivial ?_
            rotate_left
            · intro W9 hA
              clear hA
              go_simp
              try with_reducible rfl
            try simp only [Act.put, List.setIfInBounds_toArray, List.set_cons_zero, List.set_cons_succ]
            refine take1 9 (v := ?_) rfl (by kernel_rfl) (by kernel_rfl) (by kernel_rfl) (fun _ _ _ h => h) (by rfl) ?_ trivial ?_
            rotate_left
            · intro W9 hA
              clear hA
              go_simp
              try with_reducible rfl
            try simp only [Act.put, List.setIfInBounds_toArray, List.set_cons_zero, List.set_cons_succ]
            refine take1 10 (v := ?_) rfl (by kernel_rfl) (by kernel_rfl) (by kernel_rfl) (fun _ _ _ h => h) (by rfl) ?_ trivial ?_
            rotate_left
            · intro W9 hA
              clear hA
              go_simp
              try with_reducible rfl
            try simp only [Act.put, List.setIfInBounds_toArray, List.set_cons_zero, List.set_cons_succ]
            refine take1 11 (v := ?_) rfl (by kernel_rfl) (by kernel_rfl) (by kernel_rfl) (fun _ _ _ h => h) (by rfl) ?_ trivial ?_
            rotate_left
            · intro W9 hA
              clear hA
              go_simp
              try with_reducible rfl
            try simp only [Act.put, List.setIfInBounds_toArray, List.set_cons_zero, List.set_cons_succ]
            refine step2 2 6 (by kernel_rfl) rfl rfl (fun K hK => ?_) (fun K hK => ?_)
            · go_simp
              obtain ⟨h1, hh1⟩ : ∃ h1, W3.heap.size = h1 := ⟨_, rfl⟩
              have hNh1 : N0 ≤ h1 := by omega
              have HX1 := Lib.hid (nil_made W3 N0 hzW)
              rw [hh1] at HX1
              have HB := Lib.hid (HB.out.alloc (Nat.le_trans hz0 hzW) (.cells #[] 3))
              have HIb := Lib.hid (show IsInts (W3.alloc (.cells #[] 3)) b (.slice (some ⟨g, 0, none⟩) L cap) xs from World.ownsRow.alloc HIb.out _)
              have hsz9 : (W3.alloc (.cells #[] 3)).heap.size = W3.heap.size + 1 := by simp
              obtain ⟨W4, hW4⟩ : ∃ W4, W3.alloc (.cells #[] 3) = W4 := ⟨_, rfl⟩
              rw [hW4] at HB HIb hsz9 HX1 ⊢
              clear hW4
              rw [hh1] at hsz9 ⊢
              have hzW : N0 ≤ W4.heap.size := by omega
              clear hh1 hsz9
              refine hK.out _ _ trivial ?_
              clear hK K
              try simp only [Act.put, List.setIfInBounds_toArray, List.set_cons_zero, List.set_cons_succ]
              refine step2 4 6 (by kernel_rfl) rfl rfl (fun K hK => ?_) (fun K hK => ?_)
              · rw [if_pos (by rfl)]
                refine wp_append_any (.tmp 49) (.tmp 50) rfl (.slice (some ⟨h1, 0, none⟩) 0 0) [] xs W4 N0 g cap b rfl (by rw [HL.out]; rfl) HX1.out (by rw [HL.out]; exact HIb.out) HLs.out hzW (fun v2 W5 hX2 hkeep hbelow hgrows => ?_)
                have HX2 := Lib.hid hX2
                rw [List.nil_append] at HX2
                have HIb := Lib.hid (hkeep _ _ _ HIb.out (apart_gh (Nat.ne_of_lt (Nat.lt_of_lt_of_le hgN hNh1))))
                have HB := Lib.hid (hbelow _ _ hz0 HB.out)
                have hzW := Nat.le_trans hzW hgrows
                clear hX2 hkeep hbelow hgrows HX1
                refine hK.out _ _ trivial ?_
                clear hK K
                try simp only [Act.put, List.setIfInBounds_toArray, List.set_cons_zero, List.set_cons_succ]
                refine step1 6 (by kernel_rfl) rfl (fun K hK => ?_)
                go_simp
                obtain ⟨h6, hh6⟩ : ∃ h6, W5.heap.size = h6 := ⟨_, rfl⟩
                have hNh6 : N0 ≤ h6 := by omega
                have HXv := Lib.hid (lit_one W5 N0 (v : Int) hzW)
                rw [hh6] at HXv
                have HB := Lib.hid (HB.out.alloc (Nat.le_trans hz0 hzW) (.cells #[.int .i64 (v : Int)] 3))
                have HIb := Lib.hid (show IsInts (W5.alloc (.cells #[.int .i64 (v : Int)] 3)) b (.slice (some ⟨g, 0, none⟩) L cap) xs from World.ownsRow.alloc HIb.out _)
                have HX2 := Lib.hid (show IsInts (W5.alloc (.cells #[.int .i64 (v : Int)] 3)) N0 v2 xs from World.ownsRow.alloc HX2.out _)
                have hsz9 : (W5.alloc (.cells #[.int .i64 (v : Int)] 3)).heap.size = W5.heap.size + 1 := by simp
                obtain ⟨W6, hW6⟩ : ∃ W6, W5.alloc (.cells #[.int .i64 (v : Int)] 3) = W6 := ⟨_, rfl⟩
                rw [hW6] at HB HIb hsz9 HX2 HXv ⊢
                clear hW6
                rw [hh6] at hsz9 ⊢
                have hzW : N0 ≤ W6.heap.size := by omega
                clear hh6 hsz9
                refine hK.out _ _ trivial ?_
                clear hK K
                try simp only [Act.put, List.setIfInBounds_toArray, List.set_cons_zero, List.set_cons_succ]
                refine step1 7 (by kernel_rfl) rfl (fun K hK => ?_)
                rw [if_pos (by rfl)]
                refine wp_append_any (.tmp 51) (.tmp 53) rfl v2 xs [(v : Int)] W6 N0 h6 1 N0 rfl rfl HX2.out HXv.out (HLs2.out v) hzW (fun v3 W7 hX3 hkeep hbelow hgrows => ?_)
                have HX3 := Lib.hid hX3
                have HIb := Lib.hid (hkeep _ _ _ HIb.out (far_block2 (N := N0) (far_g hgN) (fun k hk => (World.ownsRow.lt HX2.out k hk).1)))
                have HB := Lib.hid (hbelow _ _ hz0 HB.out)
                have hzW := Nat.le_trans hzW hgrows
                clear hX3 hkeep hbelow hgrows HX2 HXv
                refine hK.out _ _ trivial ?_
                clear hK K
                try simp only [Act.put, List.setIfInBounds_toArray, List.set_cons_zero, List.set_cons_succ]
                rcases HX3.out.shape with ⟨_, e⟩ | ⟨g3, cap3, hv3, hg31, hg32, hg33⟩
                · exact absurd e (by simp)
                rw [HL2.out] at hv3
                subst hv3
                refine step1 12 (by kernel_rfl) rfl (fun K hK => ?_)
                go_simp
                refine (HIHv.out N0 g3 cap3 _ HX3.out hzW).mono ?_
                rintro e W9 ⟨sv, rfl, hb9, hI9⟩
                have HSv := Lib.hid hI9
                have HIb := Lib.hid (HIb.out.belowAll hb9)
                have HB := Lib.hid (HB.out.trans (hb9.mono HB.out.size))
                clear hb9 hI9 hg33 HX3
                go_wp2_with fail
                refine hK.out _ _ trivial ?_
                clear hK K
                try simp only [Act.put, List.setIfInBounds_toArray, List.set_cons_zero, List.set_cons_succ]
                refine take1 13 (v := ?_) rfl (by kernel_rfl) (by kernel_rfl) (by kernel_rfl) (fun _ _ _ h => h) (by rfl) ?_ trivial ?_
                rotate_left
                · intro W9 hA
                  clear hA
                  go_simp
                  try with_reducible rfl
                try simp only [Act.put, List.setIfInBounds_toArray, List.set_cons_zero, List.set_cons_succ]
                refine take1 14 (v := ?_) rfl (by kernel_rfl) (by kernel_rfl) (by kernel_rfl) (fun _ _ _ h => h) (by rfl) ?_ trivial ?_
                rotate_left
                · intro W9 hA
                  clear hA
                  go_simp
                  try with_reducible rfl
                try simp only [Act.put, List.setIfInBounds_toArray, List.set_cons_zero, List.set_cons_succ]
                refine take1 15 (v := ?_) rfl (by kernel_rfl) (by kernel_rfl) (by kernel_rfl) (fun _ _ _ h => h) (by rfl) ?_ trivial ?_
                rotate_left
                · intro W9 hA
                  clear hA
                  go_simp
                  try with_reducible rfl
                try simp only [Act.put, List.setIfInBounds_toArray, List.set_cons_zero, List.set_cons_succ]
                refine take1 16 (v := ?_) rfl (by kernel_rfl) (by kernel_rfl) (by kernel_rfl) (fun _ _ _ h => h) (by rfl) ?_ trivial ?_
                rotate_left
                · intro W9 hA
                  clear hA
                  go_simp
                  try with_reducible rfl
                try simp only [Act.put, List.setIfInBounds_toArray, List.set_cons_zero, List.set_cons_succ]
                refine take1 17 (v := ?_) rfl (by kernel_rfl) (by kernel_rfl) (by kernel_rfl) (fun _ _ _ h => h) (by rfl) ?_ trivial ?_
                rotate_left
                · intro W9 hA
                  clear hA
                  go_simp
                  try with_reducible rfl
                try simp only [Act.put, List.setIfInBounds_toArray, List.set_cons_zero, List.set_cons_succ]
                refine stop1 (by kernel_rfl) ?_
                cases ho : ordN n s m (some v) mt
                · rw [ho] at HPut HSv
                  simp only [Option.isSome_none]
                  have HF2 := Lib.hid ((HUp.out v HF.out).trans (HPut.out.1 rfl))
                  clear ho
                  go_wp2
                  go_roundw
                  case rel => exact ⟨v + 1, by omega, by go_num, HF2, HIb, HB⟩
                  case measure => simp [intOf]; omega
                · rw [ho] at HPut HSv
                  simp only [Option.isSome_some]
                  have HF2 := Lib.hid (HPut.out.2 _ rfl)
                  clear ho
                  go_wp2
                  go_ret2
                  refine ⟨_, by rw [HE.out, HF2.out.1]; rfl, HB.out, ?_⟩
                  rw [HE.out, HF2.out.2]
                  exact HSv.out.base hbN
              · go_simp
                obtain ⟨h6, hh6⟩ : ∃ h6, W4.heap.size = h6 := ⟨_, rfl⟩
                have hNh6 : N0 ≤ h6 := by omega
                have HXv := Lib.hid (lit_one W4 N0 (v : Int) hzW)
                rw [hh6] at HXv
                have hne16 : h1 ≠ h6 := by have := (World.ownsRow.lt HX1.out h1 rfl).2; omega
                have HB := Lib.hid (HB.out.alloc (Nat.le_trans hz0 hzW) (.cells #[.int .i64 (v : Int)] 3))
                have HIb := Lib.hid (show IsInts (W4.alloc (.cells #[.int .i64 (v : Int)] 3)) b (.slice (some ⟨g, 0, none⟩) L cap) xs from World.ownsRow.alloc HIb.out _)
                have HX1 := Lib.hid (show IsInts (W4.alloc (.cells #[.int .i64 (v : Int)] 3)) N0 (.slice (some ⟨h1, 0, none⟩) 0 0) [] from World.ownsRow.alloc HX1.out _)
                have hsz9 : (W4.alloc (.cells #[.int .i64 (v : Int)] 3)).heap.size = W4.heap.size + 1 := by simp
                obtain ⟨W5, hW5⟩ : ∃ W5, W4.alloc (.cells #[.int .i64 (v : Int)] 3) = W5 := ⟨_, rfl⟩
                rw [hW5] at HB HIb hsz9 HX1 HXv ⊢
                clear hW5
                rw [hh6] at hsz9 ⊢
                have hzW : N0 ≤ W5.heap.size := by omega
                clear hh6 hsz9
                refine hK.out _ _ trivial ?_
                clear hK K
                try simp only [Act.put, List.setIfInBounds_toArray, List.set_cons_zero, List.set_cons_succ]
                refine step1 4 (by kernel_rfl) rfl (fun K hK => ?_)
                rw [if_pos (by rfl)]
                refine wp_append_any (.tmp 49) (.tmp 50) rfl (.slice (some ⟨h1, 0, none⟩) 0 0) [] xs W5 N0 g cap b rfl (by rw [HL.out]; rfl) HX1.out (by rw [HL.out]; exact HIb.out) HLs.out hzW (fun v2 W6 hX2 hkeep hbelow hgrows => ?_)
                have HX2 := Lib.hid hX2
                rw [List.nil_append] at HX2
                have HIb := Lib.hid (hkeep _ _ _ HIb.out (apart_gh (Nat.ne_of_lt (Nat.lt_of_lt_of_le hgN hNh1))))
                have HXv := Lib.hid (hkeep _ _ _ HXv.out (apart_gh (fun e => hne16 e.symm)))
                have HB := Lib.hid (hbelow _ _ hz0 HB.out)
                have hzW := Nat.le_trans hzW hgrows
                clear hX2 hkeep hbelow hgrows HX1
                refine hK.out _ _ trivial ?_
                clear hK K
                try simp only [Act.put, List.setIfInBounds_toArray, List.set_cons_zero, List.set_cons_succ]
                refine step1 7 (by kernel_rfl) rfl (fun K hK => ?_)
                rw [if_pos (by rfl)]
                refine wp_append_any (.tmp 51) (.tmp 53) rfl v2 xs [(v : Int)] W6 N0 h6 1 N0 rfl rfl HX2.out HXv.out (HLs2.out v) hzW (fun v3 W7 hX3 hkeep hbelow hgrows => ?_)
                have HX3 := Lib.hid hX3
                have HIb := Lib.hid (hkeep _ _ _ HIb.out (far_block2 (N := N0) (far_g hgN) (fun k hk => (World.ownsRow.lt HX2.out k hk).1)))
                have HB := Lib.hid (hbelow _ _ hz0 HB.out)
                have hzW := Nat.le_trans hzW hgrows
                clear hX3 hkeep hbelow hgrows HX2 HXv
                refine hK.out _ _ trivial ?_
                clear hK K
                try simp only [Act.put, List.setIfInBounds_toArray, List.set_cons_zero, List.set_cons_succ]
                rcases HX3.out.shape with ⟨_, e⟩ | ⟨g3, cap3, hv3, hg31, hg32, hg33⟩
                · exact absurd e (by simp)
                rw [HL2.out] at hv3
                subst hv3
                refine step1 12 (by kernel_rfl) rfl (fun K hK => ?_)
                go_simp
                refine (HIHv.out N0 g3 cap3 _ HX3.out hzW).mono ?_
                rintro e W9 ⟨sv, rfl, hb9, hI9⟩
                have HSv := Lib.hid hI9
                have HIb := Lib.hid (HIb.out.belowAll hb9)
                have HB := Lib.hid (HB.out.trans (hb9.mono HB.out.size))
                clear hb9 hI9 hg33 HX3
                go_wp2_with fail
                refine hK.out _ _ trivial ?_
                clear hK K
                try simp only [Act.put, List.setIfInBounds_toArray, List.set_cons_zero, List.set_cons_succ]
                refine take1 13 (v := ?_) rfl (by kernel_rfl) (by kernel_rfl) (by kernel_rfl) (fun _ _ _ h => h) (by rfl) ?_ trivial ?_
                rotate_left
                · intro W9 hA
                  clear hA
                  go_simp
                  try with_reducible rfl
                try simp only [Act.put, List.setIfInBounds_toArray, List.set_cons_zero, List.set_cons_succ]
                refine take1 14 (v := ?_) rfl (by kernel_rfl) (by kernel_rfl) (by kernel_rfl) (fun _ _ _ h => h) (by rfl) ?_ trivial ?_
                rotate_left
                · intro W9 hA
                  clear hA
                  go_simp
                  try with_reducible rfl
                try simp only [Act.put, List.setIfInBounds_toArray, List.set_cons_zero, List.set_cons_succ]
                refine take1 15 (v := ?_) rfl (by kernel_rfl) (by kernel_rfl) (by kernel_rfl) (fun _ _ _ h => h) (by rfl) ?_ trivial ?_
                rotate_left
                · intro W9 hA
                  clear hA
                  go_simp
                  try with_reducible rfl
                try simp only [Act.put, List.setIfInBounds_toArray, List.set_cons_zero, List.set_cons_succ]
                refine take1 16 (v := ?_) rfl (by kernel_rfl) (by kernel_rfl) (by kernel_rfl) (fun _ _ _ h => h) (by rfl) ?_ trivial ?_
                rotate_left
                · intro W9 hA
                  clear hA
                  go_simp
                  try with_reducible rfl
                try simp only [Act.put, List.setIfInBounds_toArray, List.set_cons_zero, List.set_cons_succ]
                refine take1 17 (v := ?_) rfl (by kernel_rfl) (by kernel_rfl) (by kernel_rfl) (fun _ _ _ h => h) (by rfl) ?_ trivial ?_
                rotate_left
                · intro W9 hA
                  clear hA
                  go_simp
                  try with_reducible rfl
                try simp only [Act.put, List.setIfInBounds_toArray, List.set_cons_zero, List.set_cons_succ]
                refine stop1 (by kernel_rfl) ?_
                cases ho : ordN n s m (some v) mt
                · rw [ho] at HPut HSv
                  simp only [Option.isSome_none]
                  have HF2 := Lib.hid ((HUp.out v HF.out).trans (HPut.out.1 rfl))
                  clear ho
                  go_wp2
                  go_roundw
                  case rel => exact ⟨v + 1, by omega, by go_num, HF2, HIb, HB⟩
                  case measure => simp [intOf]; omega
                · rw [ho] at HPut HSv
                  simp only [Option.isSome_some]
                  have HF2 := Lib.hid (HPut.out.2 _ rfl)
                  clear ho
                  go_wp2
                  go_ret2
                  refine ⟨_, by rw [HE.out, HF2.out.1]; rfl, HB.out, ?_⟩
                  rw [HE.out, HF2.out.2]
                  exact HSv.out.base hbN
            · go_simp
              obtain ⟨h6, hh6⟩ : ∃ h6, W3.heap.size = h6 := ⟨_, rfl⟩
              have hNh6 : N0 ≤ h6 := by omega
              have HXv := Lib.hid (lit_one W3 N0 (v : Int) hzW)
              rw [hh6] at HXv
              have HB := Lib.hid (HB.out.alloc (Nat.le_trans hz0 hzW) (.cells #[.int .i64 (v : Int)] 3))
              have HIb := Lib.hid (show IsInts (W3.alloc (.cells #[.int .i64 (v : Int)] 3)) b (.slice (some ⟨g, 0, none⟩) L cap) xs from World.ownsRow.alloc HIb.out _)
              have hsz9 : (W3.alloc (.cells #[.int .i64 (v : Int)] 3)).heap.size = W3.heap.size + 1 := by simp
              obtain ⟨W4, hW4⟩ : ∃ W4, W3.alloc (.cells #[.int .i64 (v : Int)] 3) = W4 := ⟨_, rfl⟩
              rw [hW4] at HB HIb hsz9 HXv ⊢
              clear hW4
              rw [hh6] at hsz9 ⊢
              have hzW : N0 ≤ W4.heap.size := by omega
              clear hh6 hsz9
              refine hK.out _ _ trivial ?_
              clear hK K
              try simp only [Act.put, List.setIfInBounds_toArray, List.set_cons_zero, List.set_cons_succ]
              refine step1 2 (by kernel_rfl) rfl (fun K hK => ?_)
              go_simp
              obtain ⟨h1, hh1⟩ : ∃ h1, W4.heap.size = h1 := ⟨_, rfl⟩
              have hNh1 : N0 ≤ h1 := by omega
              have HX1 := Lib.hid (nil_made W4 N0 hzW)
              rw [hh1] at HX1
              have hne16 : h1 ≠ h6 := by have := (World.ownsRow.lt HXv.out h6 rfl).2; omega
              have HB := Lib.hid (HB.out.alloc (Nat.le_trans hz0 hzW) (.cells #[] 3))
              have HIb := Lib.hid (show IsInts (W4.alloc (.cells #[] 3)) b (.slice (some ⟨g, 0, none⟩) L cap) xs from World.ownsRow.alloc HIb.out _)
              have HXv := Lib.hid (show IsInts (W4.alloc (.cells #[] 3)) N0 (.slice (some ⟨h6, 0, none⟩) 1 1) [(v : Int)] from World.ownsRow.alloc HXv.out _)
              have hsz9 : (W4.alloc (.cells #[] 3)).heap.size = W4.heap.size + 1 := by simp
              obtain ⟨W5, hW5⟩ : ∃ W5, W4.alloc (.cells #[] 3) = W5 := ⟨_, rfl⟩
              rw [hW5] at HB HIb hsz9 HXv HX1 ⊢
              clear hW5
              rw [hh1] at hsz9 ⊢
              have hzW : N0 ≤ W5.heap.size := by omega
              clear hh1 hsz9
              refine hK.out _ _ trivial ?_
              clear hK K
              try simp only [Act.put, List.setIfInBounds_toArray, List.set_cons_zero, List.set_cons_succ]
              refine step1 4 (by kernel_rfl) rfl (fun K hK => ?_)
              rw [if_pos (by rfl)]
              refine wp_append_any (.tmp 49) (.tmp 50) rfl (.slice (some ⟨h1, 0, none⟩) 0 0) [] xs W5 N0 g cap b rfl (by rw [HL.out]; rfl) HX1.out (by rw [HL.out]; exact HIb.out) HLs.out hzW (fun v2 W6 hX2 hkeep hbelow hgrows => ?_)
              have HX2 := Lib.hid hX2
              rw [List.nil_append] at HX2
              have HIb := Lib.hid (hkeep _ _ _ HIb.out (apart_gh (Nat.ne_of_lt (Nat.lt_of_lt_of_le hgN hNh1))))
              have HXv := Lib.hid (hkeep _ _ _ HXv.out (apart_gh (fun e => hne16 e.symm)))
              have HB := Lib.hid (hbelow _ _ hz0 HB.out)
              have hzW := Nat.le_trans hzW hgrows
              clear hX2 hkeep hbelow hgrows HX1
              refine hK.out _ _ trivial ?_
              clear hK K
              try simp only [Act.put, List.setIfInBounds_toArray, List.set_cons_zero, List.set_cons_succ]
              refine step1 7 (by kernel_rfl) rfl (fun K hK => ?_)
              rw [if_pos (by rfl)]
              refine wp_append_any (.tmp 51) (.tmp 53) rfl v2 xs [(v : Int)] W6 N0 h6 1 N0 rfl rfl HX2.out HXv.out (HLs2.out v) hzW (fun v3 W7 hX3 hkeep hbelow hgrows => ?_)
              have HX3 := Lib.hid hX3
              have HIb := Lib.hid (hkeep _ _ _ HIb.out (far_block2 (N := N0) (far_g hgN) (fun k hk => (World.ownsRow.lt HX2.out k hk).1)))
              have HB := Lib.hid (hbelow _ _ hz0 HB.out)
              have hzW := Nat.le_trans hzW hgrows
              clear hX3 hkeep hbelow hgrows HX2 HXv
              refine hK.out _ _ trivial ?_
              clear hK K
              try simp only [Act.put, List.setIfInBounds_toArray, List.set_cons_zero, List.set_cons_succ]
              rcases HX3.out.shape with ⟨_, e⟩ | ⟨g3, cap3, hv3, hg31, hg32, hg33⟩
              · exact absurd e (by simp)
              rw [HL2.out] at hv3
              subst hv3
              refine step1 12 (by kernel_rfl) rfl (fun K hK => ?_)
              go_simp
              refine (HIHv.out N0 g3 cap3 _ HX3.out hzW).mono ?_
              rintro e W9 ⟨sv, rfl, hb9, hI9⟩
              have HSv := Lib.hid hI9
              have HIb := Lib.hid (HIb.out.belowAll hb9)
              have HB := Lib.hid (HB.out.trans (hb9.mono HB.out.size))
              clear hb9 hI9 hg33 HX3
              go_wp2_with fail
              refine hK.out _ _ trivial ?_
              clear hK K
              try simp only [Act.put, List.setIfInBounds_toArray, List.set_cons_zero, List.set_cons_succ]
              refine take1 13 (v := ?_) rfl (by kernel_rfl) (by kernel_rfl) (by kernel_rfl) (fun _ _ _ h => h) (by rfl) ?_ trivial ?_
              rotate_left
              · intro W9 hA
                clear hA
                go_simp
                try with_reducible rfl
              try simp only [Act.put, List.setIfInBounds_toArray, List.set_cons_zero, List.set_cons_succ]
              refine take1 14 (v := ?_) rfl (by kernel_rfl) (by kernel_rfl) (by kernel_rfl) (fun _ _ _ h => h) (by rfl) ?_ trivial ?_
              rotate_left
              · intro W9 hA
                clear hA
                go_simp
                try with_reducible rfl
              try simp only [Act.put, List.setIfInBounds_toArray, List.set_cons_zero, List.set_cons_succ]
              refine take1 15 (v := ?_) rfl (by kernel_rfl) (by kernel_rfl) (by kernel_rfl) (fun _ _ _ h => h) (by rfl) ?_ trivial ?_
              rotate_left
              · intro W9 hA
                clear hA
                go_simp
                try with_reducible rfl
              try simp only [Act.put, List.setIfInBounds_toArray, List.set_cons_zero, List.set_cons_succ]
              refine take1 16 (v := ?_) rfl (by kernel_rfl) (by kernel_rfl) (by kernel_rfl) (fun _ _ _ h => h) (by rfl) ?_ trivial ?_
              rotate_left
              · intro W9 hA
                clear hA
                go_simp
                try with_reducible rfl
              try simp only [Act.put, List.setIfInBounds_toArray, List.set_cons_zero, List.set_cons_succ]
              refine take1 17 (v := ?_) rfl (by kernel_rfl) (by kernel_rfl) (by kernel_rfl) (fun _ _ _ h => h) (by rfl) ?_ trivial ?_
              rotate_left
              · intro W9 hA
                clear hA
                go_simp
                try with_reducible rfl
              try simp only [Act.put, List.setIfInBounds_toArray, List.set_cons_zero, List.set_cons_succ]
              refine stop1 (by kernel_rfl) ?_
              cases ho : ordN n s m (some v) mt
              · rw [ho] at HPut HSv
                simp only [Option.isSome_none]
                have HF2 := Lib.hid ((HUp.out v HF.out).trans (HPut.out.1 rfl))
                clear ho
                go_wp2
                go_roundw
                case rel => exact ⟨v + 1, by omega, by go_num, HF2, HIb, HB⟩
                case measure => simp [intOf]; omega
              · rw [ho] at HPut HSv
                simp only [Option.isSome_some]
                have HF2 := Lib.hid (HPut.out.2 _ rfl)
                clear ho
                go_wp2
                go_ret2
                refine ⟨_, by rw [HE.out, HF2.out.1]; rfl, HB.out, ?_⟩
                rw [HE.out, HF2.out.2]
                exact HSv.out.base hbN
      · rw [hmv] at hmb
        have hmy : mayO n s a met v = false := by unfold mayO; rw [hmv]; rfl
        have HF2 := Lib.hid ((HUp.out v HF.out).trans (HNo.out v hmy))
        clear hmv hmy
        go_wp2
        go_roundw
        case rel => exact ⟨v + 1, by omega, by go_num, HF2, HIb, HB⟩
        case measure => simp [intOf]; omega
    · obtain rfl : v = n := by omega
      have HE2 := Lib.hid (HE.out.trans HF.out)
      go_wp2
      go_ret2
      refine ⟨_, by rw [HE2.out]; rfl, HB.out.alloc HB.out.size _, ?_⟩
      rw [HE2.out]
      exact (nil_made wr _ (Nat.le_refl _)).base (Nat.le_trans hb HB.out.size)
end Go.Proofs.Ytaklmepioeoohaa
