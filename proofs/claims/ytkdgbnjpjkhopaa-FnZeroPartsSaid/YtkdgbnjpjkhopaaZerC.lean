/- Rows of places: the model's counts and least choices. Written by gen86.py. -/
import Derived.Test.YtkdgbnjpjkhopaaZerS
import Derived.Test.YtkdgbnjpjkhopaaZerD
import Derived.Test.YtkdgbnjpjkhopaaGG
namespace Go.Proofs.Ytkdgbnjpjkhopaa
open Go.RowKit Go.Shelf
set_option linter.unusedVariables false
theorem block_ge {W : World} {b : Nat} {v : Value} {xs : List Int} (h : IsInts W b v xs) (k : Nat) (hk : v.ownBlock = some k) : b ≤ k ∧ k < W.heap.size := World.ownsRow.lt h k hk
theorem own_apart {v a : Value} {m : Nat} (hv : ∀ k, v.ownBlock = some k → k < m) (ha : ∀ k, a.ownBlock = some k → m ≤ k) : v.ownBlock = none ∨ v.ownBlock ≠ a.ownBlock := by
  cases e : v.ownBlock with
  | none => exact .inl rfl
  | some k =>
    refine .inr fun e2 => ?_
    have h1 := hv k e
    have h2 := ha k e2.symm
    omega
/-- A copy of a list of one's own is appended to an empty one. -/
theorem wpList_copy {ops : Array Oper} {rest : List Oper} {o : Oper} {act : Act} {Q : Exit → Act → World → Prop} (hgd : o.guard = none) (s x : Operand) (ho : o.op = .call { callee := .builtin .append, args := #[s, x], argTypes := #[23, 23] })
    (xs : List Int) (W : World) (g cap b : Nat) (hs : act.eval s = .slice (some ⟨W.heap.size, 0, none⟩) 0 0) (hx : act.eval x = .slice (some ⟨g, 0, none⟩) xs.length cap) (hX : IsInts W b (.slice (some ⟨g, 0, none⟩) xs.length cap) xs) (hl : xs.length ≤ 1000)
    (h : ∀ (v' : Value) (w1 : World), IsInts w1 W.heap.size v' xs → Below W.heap.size W w1 → wpList Try.prog ops Q rest (act.put o.dst v') w1) : wpList Try.prog ops Q (o :: rest) act (W.alloc (.cells #[] 3)) := by
  have hg := (World.ownsRow.lt hX g rfl).2
  have hX' : IsInts (W.alloc (.cells #[] 3)) b (.slice (some ⟨g, 0, none⟩) xs.length cap) xs := World.ownsRow.alloc hX _
  refine wpList_plain hgd fun K hK => wp_append_any s x ho (.slice (some ⟨W.heap.size, 0, none⟩) 0 0) [] xs (W.alloc (.cells #[] 3)) W.heap.size g cap b hs hx (nil_made W W.heap.size (Nat.le_refl _)) hX' (by simp; exact hl) (by simp) fun v' w1 h1 h2 h3 h4 => hK _ _ (h v' w1 h1 (h3 _ _ (Nat.le_refl _) ((Below.refl _ _).alloc (Nat.le_refl _) _)))
theorem specZeroLeast_no (n : Int) (sv : Value) (xs : List Int) (b : Nat) (w : World) (h : ¬ (RowIn n xs ∧ xs.length ≤ 8)) (hl : xs.length ≤ 2000000) (hI : IsInts w b sv xs) :
    Calls Try.prog 9 #[.int .i64 n, sv] w (ListRes w [] false) := by
  have HB : Hid (Below w.heap.size w (w.alloc (.cells #[] 3))) := Lib.hid ((Below.refl _ _).alloc (Nat.le_refl _) _)
  have hI1 : IsInts (w.alloc (.cells #[] 3)) b sv xs := World.ownsRow.alloc hI _
  by_cases hr : RowIn n xs
  · have h8 : ¬ xs.length ≤ 8 := fun c => h ⟨hr, c⟩
    have h12 := hr.2.1
    obtain ⟨m, rfl, _, _⟩ := row_nat hr
    have HG := Lib.hid (given_yes m sv xs b (w.alloc (.cells #[] 3)) hr hI1)
    obtain ⟨A, cap, hsv⟩ := hI.slice
    clear hI h hr hI1
    generalize xs.length = L at *
    subst hsv
    have k1 : (L : Int) > 8 := by omega
    have k2 : (8 : Int) < (L : Int) := by omega
    have k3 : decide ((L : Int) > 8) = true := decide_eq_true k1
    go_enter Try.func9, Try.ntmps9
    go_wp2_with fail
    refine HG.out.mono ?_
    rintro e w1 ⟨rfl, rfl⟩
    go_wp2
    go_ret2
    exact ⟨_, rfl, HB.out, nil_made _ _ (Nat.le_refl _)⟩
  · have HG := Lib.hid (given_none n sv xs b (w.alloc (.cells #[] 3)) hr hl hI1)
    clear h hI hr hI1
    go_enter Try.func9, Try.ntmps9
    go_wp2_with fail
    refine HG.out.mono ?_
    rintro e w1 ⟨rfl, rfl⟩
    go_wp2
    go_ret2
    exact ⟨_, rfl, HB.out, nil_made _ _ (Nat.le_refl _)⟩
set_option maxHeartbeats 2000000 in
set_option maxRecDepth 4000 in
theorem specZeroLeast_yes (n : Nat) (sv : Value) (xs : List Int) (b : Nat) (w : World) (h : RowIn (n : Int) xs) (h8 : xs.length ≤ 8) (hI : IsInts w b sv xs) :
    Calls Try.prog 9 #[.int .i64 (n:Int), sv] w (ListRes w (leastL n (rowZ xs) xs.length) true) := by
  have h12 := h.2.1
  have hI1 : IsInts (w.alloc (.cells #[] 3)) b sv xs := World.ownsRow.alloc hI _
  have HG := Lib.hid (given_yes n sv xs b (w.alloc (.cells #[] 3)) h hI1)
  have HSum := Lib.hid (fun c (hc : c < 2 ^ 40) W (hI : IsInts W b sv xs) => l9Sum_any n sv xs b c W h hc hI)
  have HI := Lib.hid hI
  have hbl : ∀ k, sv.ownBlock = some k → k < w.heap.size := fun k hk => (World.ownsRow.lt hI k hk).2
  have HIl := Lib.hid hbl
  have HStart := Lib.hid (fun c hc => acc_start n (rowZ xs) xs.length c hc)
  have HStep := Lib.hid (fun c p hp h0 hlt => acc_step n (rowZ xs) xs.length c p hp h0 hlt)
  have HEnd := Lib.hid (fun c hc => acc_end n (rowZ xs) xs.length c hc)
  have HZ := Lib.hid (fun c => zeroP_iff n (rowZ xs) xs.length c)
  have HOne := Lib.hid (pick_one n (rowZ xs) xs.length)
  have HPk := Lib.hid (fun c => pick_len (leastC n (rowZ xs) xs.length) c)
  have HP1 : Hid (∀ c, leastC n (rowZ xs) xs.length c = true → pickL (leastC n (rowZ xs) xs.length) (c + 1) = pickL (leastC n (rowZ xs) xs.length) c ++ [(c : Int)]) := Lib.hid (fun c hc => by
    show (if leastC n (rowZ xs) xs.length c then _ else _) = _
    rw [hc, if_pos rfl])
  have HP0 : Hid (∀ c, leastC n (rowZ xs) xs.length c = false → pickL (leastC n (rowZ xs) xs.length) (c + 1) = pickL (leastC n (rowZ xs) xs.length) c) := Lib.hid (fun c hc => by
    show (if leastC n (rowZ xs) xs.length c then _ else _) = _
    rw [hc, if_neg (by simp)])
  obtain ⟨N, hN, hN1, hN2, hw1, hw2, _, _⟩ := pow12L h12
  have HFn : Hid (leastL n (rowZ xs) xs.length = pickL (leastC n (rowZ xs) xs.length) N) := Lib.hid (by rw [← hN]; rfl)
  obtain ⟨A, cap, hsv⟩ := hI.slice
  obtain ⟨L, hL⟩ : ∃ L, xs.length = L := ⟨_, rfl⟩
  have HL := Lib.hid hL
  have HW := Lib.hid (show wrap64 (2 ^ L) = (N : Int) ∧ IntKind.i64.wrap (2 ^ L) = (N : Int) from by rw [← hL]; exact ⟨hw1, hw2⟩)
  have HR : Hid (∀ e w', ListRes w (pickL (leastC n (rowZ xs) L) N) true e w' → ListRes w (leastL n (rowZ xs) xs.length) true e w') := Lib.hid (fun e w' hh => by rw [HFn.out, hL]; exact hh)
  refine Calls.mono ?_ HR.out
  rw [hL] at hsv h8 HSum HStart HStep HEnd HZ HOne HPk HP1 HP0
  subst hsv
  have k1 : ¬ (L : Int) > 8 := by omega
  have k2 : ¬ (8 : Int) < (L : Int) := by omega
  have k3 : decide ((L : Int) > 8) = false := decide_eq_false k1
  have HB0 : Hid (Below w.heap.size w (w.alloc (.cells #[] 3))) := Lib.hid ((Below.refl _ _).alloc (Nat.le_refl _) _)
  have HO0 : Hid (IsInts (w.alloc (.cells #[] 3)) w.heap.size (.slice (some ⟨w.heap.size, 0, none⟩) 0 0) (pickL (leastC n (rowZ xs) L) 1)) := Lib.hid (by rw [HOne.out]; exact nil_made _ _ (Nat.le_refl _))
  clear hI hI1 h hN hL h12 hw1 hw2 hbl HR HFn
  go_enter Try.func9, Try.ntmps9
  go_wp2_with fail
  refine HG.out.mono ?_
  rintro e w1 ⟨rfl, rfl⟩
  go_wp2
  obtain ⟨W0, hW0⟩ : ∃ W0, w.alloc (.cells #[] 3) = W0 := ⟨_, rfl⟩
  rw [hW0] at HB0 HO0 ⊢
  clear hW0
  go_loopw [6, 7] (fun a u wr => ∃ (a' : Value) (c : Nat), a' = a ∧ 1 ≤ c ∧ c ≤ N ∧ u = .int .i64 (c : Int) ∧ Hid (IsInts wr w.heap.size a' (pickL (leastC n (rowZ xs) L) c)) ∧ Hid (Below w.heap.size w wr)) (fun _ u _ => N - (intOf u).toNat)
  case atStart => exact ⟨_, 1, rfl, Nat.le_refl _, hN1, rfl, HO0, HB0⟩
  case round =>
    obtain ⟨a', c, rfl, hc1, hcN, rfl, HO, HB⟩ := hrel
    have hw1 := HW.out.1
    have hw2 := HW.out.2
    by_cases hlt : c < N
    · have k4 : (c : Int) < (N : Int) := by omega
      have HIr : Hid (∀ W, Below w.heap.size w W → IsInts W b (.slice A L cap) xs) := Lib.hid (fun W hb => HI.out.below HIl.out hb)
      have HS1 := Lib.hid (HSum.out c (by omega) wr (HIr.out _ HB.out))
      have HSt := Lib.hid (HStart.out c hc1)
      have HEn := Lib.hid (HEnd.out c hc1)
      have HZc := Lib.hid (HZ.out c)
      have HCm := Lib.hid (one_less c hc1 (by omega))
      have HAn := Lib.hid (and_nat (c - 1) c (by omega) (by omega))
      have hple : (c - 1) &&& c ≤ c - 1 := Nat.and_le_left
      have HPp : Hid (((c - 1) &&& c) &&& c = (c - 1) &&& c) := Lib.hid (by rw [Nat.and_assoc, Nat.and_self])
      have hplt : (c - 1) &&& c < c := by omega
      obtain ⟨q0, hq0⟩ : ∃ q0, zeroP n (rowZ xs) L c = q0 := ⟨_, rfl⟩
      have HQ0 : Hid (accB n (rowZ xs) L c ((c - 1) &&& c) = q0) := Lib.hid (HSt.out.trans hq0)
      have HE0 : Hid ((((zsum n (rowZ xs) L c : Nat) : Int) == 0) = q0) := Lib.hid (by
        rw [← hq0]
        by_cases hz : zsum n (rowZ xs) L c = 0
        · rw [HZc.out.2 hz, hz]; rfl
        · have : zeroP n (rowZ xs) L c = false := by
            cases hc : zeroP n (rowZ xs) L c
            · rfl
            · exact absurd (HZc.out.1 hc) hz
          rw [this]; simp; omega)
      generalize zsum n (rowZ xs) L c = z at *
      generalize (c - 1) &&& c = p0 at *
      generalize c - 1 = c1 at *
      have e0 := HE0.out
      have hcm1 := HCm.out.1
      have hcm2 := HCm.out.2
      have han := HAn.out
      clear HSt HZc hple hq0
      go_wp2_with fail
      refine HS1.out.mono ?_
      rintro e w2 ⟨rfl, hb2⟩
      have HB2 := Lib.hid (HB.out.trans (hb2.mono HB.out.size))
      have HO2 := Lib.hid (HO.out.belowAll hb2)
      clear hb2
      go_wp2
      clear e0 han
      go_loopw [8, 9] (fun a u wi => ∃ (q : Bool) (p : Nat), a = .bool q ∧ p < c ∧ Hid (p &&& c = p) ∧ Hid (accB n (rowZ xs) L c p = q) ∧ u = .int .i64 (p : Int) ∧ Hid (IsInts wi w.heap.size a' (pickL (leastC n (rowZ xs) L) c)) ∧ Hid (Below w.heap.size w wi)) (fun _ u _ => (intOf u).toNat)
      case atStart => exact ⟨q0, p0, rfl, hplt, HPp, HQ0, rfl, HO2, HB2⟩
      case round =>
        obtain ⟨q, p, rfl, hpc, HP, HQ, rfl, HOi, HBi⟩ := hrel
        by_cases hp0 : p = 0
        · subst hp0
          have HLe := Lib.hid (HEn.out.symm.trans HQ.out)
          cases q
          · have HPn := Lib.hid (HP0.out c HLe.out)
            go_wp2
            go_roundw
            case rel => exact ⟨_, c + 1, rfl, by omega, by omega, by go_num, Lib.hid (by rw [HPn.out]; exact HOi.out), HBi⟩
            case measure => simp [intOf]; omega
          · have HPn := Lib.hid (HP1.out c HLe.out)
            have HPl : Hid ((pickL (leastC n (rowZ xs) L) c).length ≤ 100000) := Lib.hid (Nat.le_trans (HPk.out c) (by omega))
            have hzb := HBi.out.size
            go_wp2_with (at_builtin; refine wpList_append_ints rfl _ _ rfl a' (pickL (leastC n (rowZ xs) L) c) (c : Int) wr w.heap.size rfl rfl HOi.out HPl.out hzb (fun v' w6 hO6 hkeep hbelow => ?_); have HO6 := Lib.hid hO6; have HB6 := Lib.hid (hbelow _ _ (Nat.le_refl _) HBi.out); clear hO6 hkeep hbelow)
            go_roundw
            case rel => exact ⟨_, c + 1, rfl, by omega, by omega, by go_num, Lib.hid (by rw [HPn.out]; exact HO6.out), HB6⟩
            case measure => simp [intOf]; omega
        · have hpp : 0 < p := by omega
          have k5 : (p : Int) > 0 := by omega
          have k6 : (0 : Int) < (p : Int) := by omega
          have HSt1 := Lib.hid (HStep.out c p HP.out hpp hpc)
          rw [HQ.out] at HSt1
          have HWp := Lib.hid (one_less p hpp (by omega))
          have HAp := Lib.hid (and_nat (p - 1) c (by omega) (by omega))
          have hple : (p - 1) &&& c ≤ p - 1 := Nat.and_le_left
          have hnc : (p - 1) &&& c < c := by omega
          have hnp : (p - 1) &&& c < p := by omega
          have HPn : Hid (((p - 1) &&& c) &&& c = (p - 1) &&& c) := Lib.hid (by rw [Nat.and_assoc, Nat.and_self])
          generalize (p - 1) &&& c = p' at *
          generalize p - 1 = p1 at *
          cases q
          · have HQn : Hid (accB n (rowZ xs) L c p' = false) := Lib.hid (by rw [HSt1.out]; rfl)
            have h1 := HWp.out.1
            have h2 := HWp.out.2
            have h3 := HAp.out
            clear hple HSt1
            go_wp2
            go_roundw
            case rel => exact ⟨false, p', rfl, hnc, HPn, HQn, rfl, HOi, HBi⟩
            case measure => simp [intOf]; omega
          · have HSp := Lib.hid (HSum.out p (by omega) wr (HIr.out _ HBi.out))
            have HZp := Lib.hid (HZ.out p)
            obtain ⟨q1, hq1⟩ : ∃ q1, zeroP n (rowZ xs) L p = q1 := ⟨_, rfl⟩
            rw [hq1] at HSt1
            have HQn : Hid (accB n (rowZ xs) L c p' = !q1) := Lib.hid (by rw [HSt1.out]; rfl)
            have HEp : Hid ((((zsum n (rowZ xs) L p : Nat) : Int) == 0) = q1 ∧ (((zsum n (rowZ xs) L p : Nat) : Int) != 0) = !q1) := Lib.hid (by
              rw [← hq1]
              by_cases hz : zsum n (rowZ xs) L p = 0
              · rw [HZp.out.2 hz, hz]; exact ⟨rfl, rfl⟩
              · have : zeroP n (rowZ xs) L p = false := by
                  cases hc : zeroP n (rowZ xs) L p
                  · rfl
                  · exact absurd (HZp.out.1 hc) hz
                rw [this]
                have e9 : (((zsum n (rowZ xs) L p : Nat) : Int) == 0) = false := by simp; omega
                exact ⟨e9, by unfold bne; rw [e9]⟩)
            generalize zsum n (rowZ xs) L p = zp at *
            have h1 := HWp.out.1
            have h2 := HWp.out.2
            have h3 := HAp.out
            have h4 := HEp.out.1
            have h5 := HEp.out.2
            clear hple HSt1 HZp hq1 HEp
            go_wp2_with fail
            refine HSp.out.mono ?_
            rintro e w5 ⟨rfl, hb5⟩
            have HB5 := Lib.hid (HBi.out.trans (hb5.mono HBi.out.size))
            have HO5 := Lib.hid (HOi.out.belowAll hb5)
            clear hb5
            go_wp2
            go_roundw
            case rel => exact ⟨!q1, p', rfl, hnc, HPn, HQn, rfl, HO5, HB5⟩
            case measure => simp [intOf]; omega
    · obtain rfl : c = N := by omega
      go_wp2
      go_ret2
      exact ⟨_, rfl, HB.out, HO.out⟩
end Go.Proofs.Ytkdgbnjpjkhopaa
