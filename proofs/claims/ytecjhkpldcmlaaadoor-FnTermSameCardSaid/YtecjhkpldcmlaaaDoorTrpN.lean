/- Terms: TermHas, by the model and by the program. -/
import Derived.Test.YtecjhkpldcmlaaaDoorTrpM
namespace Go.Proofs.YtecjhkpldcmlaaaDoor
open Go.RowKit Go.Shelf
set_option linter.unusedVariables false
attribute [local go_sem] Oper.semAt_some
/-- How many signs . a text has. -/
def ptsB (s : ByteArray) : Nat := s.toList.count 46
def ptsTo (s : ByteArray) (k : Nat) : Nat := (s.toList.take k).count 46
theorem pts_step (s : ByteArray) (k : Nat) (hk : k < s.size) (c : UInt8) (hd : s.toList.drop k = c :: s.toList.drop (k + 1)) : ptsTo s (k + 1) = ptsTo s k + if c = 46 then 1 else 0 := by
  have h : k < s.toList.length := by rw [bytes_len]; exact hk
  have e : s.toList[k] = c := by
    have := List.drop_eq_getElem_cons h
    rw [hd] at this
    injection this with this
    exact this.symm
  unfold ptsTo
  rw [List.take_add_one, List.getElem?_eq_getElem h, e, List.count_append]
  show _ + List.count 46 [c] = _
  by_cases hc : c = 46
  · subst hc; rfl
  · rw [if_neg hc]
    simp [hc]
theorem pts_end (s : ByteArray) : ptsTo s s.size = ptsB s := by
  unfold ptsTo ptsB
  rw [← bytes_len, List.take_length]
theorem pts_le (s : ByteArray) (k : Nat) : ptsTo s k ≤ s.size := by
  unfold ptsTo
  have h1 : (s.toList.take k).count 46 ≤ (s.toList.take k).length := List.count_le_length
  have h2 : (s.toList.take k).length ≤ s.toList.length := by rw [List.length_take]; omega
  rw [bytes_len] at h2
  omega
theorem mil_up (k : Nat) (h : k ≤ 1048576) : IntKind.i64.wrap ((k : Int) + 1) = (k : Int) + 1 ∧ wrap64 ((k : Int) + 1) = (k : Int) + 1 := ⟨IntWalk.i64_in _ ⟨by omega, by omega⟩, IntWalk.wrap64_in _ ⟨by omega, by omega⟩⟩
set_option maxHeartbeats 1000000 in
theorem l11Points_any (s : ByteArray) (w : World) (hsz : s.size ≤ 1048576) : Calls Tryd.prog 52 #[.string s] w fun e w' => e = .returned (.int .i64 ((ptsB s : Nat) : Int)) ∧ w = w' := by
  obtain ⟨N, hN⟩ : ∃ N, s.size = N := ⟨_, rfl⟩
  have HN := Lib.hid hN
  have HSt := Lib.hid (fun k hk c hd => pts_step s k hk c hd)
  have HLe := Lib.hid (fun k => pts_le s k)
  have HE := Lib.hid (pts_end s)
  have HSz : Hid (N ≤ 1048576) := Lib.hid (by omega)
  clear hsz
  go_enter Tryd.func52, Tryd.ntmps52
  go_wp2
  go_loopw [3, 4] (fun u v wr => ∃ k : Nat, k ≤ N ∧ u = .int .i64 ((ptsTo s k : Nat) : Int) ∧ v = .int .i64 (k : Int) ∧ w = wr) (fun _ v _ => N - (intOf v).toNat)
  case atStart => exact ⟨0, Nat.zero_le _, rfl, rfl, rfl⟩
  case round =>
    obtain ⟨k, hk, rfl, rfl, hw⟩ := hrel
    subst hw
    by_cases hlt : k < N
    · obtain ⟨c, hd, hidx⟩ := index_str s k (by rw [hN]; exact hlt)
      have hst := HSt.out k (by rw [hN]; exact hlt) c hd
      have hle := HLe.out k
      have hsz := HSz.out
      have HStep := Lib.hid hst
      have i1 : (k : Int) < (N : Int) := by omega
      obtain ⟨m1, m2⟩ := mil_up k (by omega)
      have u : c = 46 ↔ c.toNat = 46 := by
        constructor
        · rintro rfl; rfl
        · intro e; exact (show c = UInt8.ofNat 46 from by rw [← e, UInt8.ofNat_toNat])
      by_cases hc : c = 46
      · have hx := u.1 hc
        rw [if_pos hc] at HStep
        rw [hx] at hidx
        have HW := Lib.hid (mil_up (ptsTo s k) (by omega))
        clear hd hst hle hsz u hc hx
        generalize ptsTo s k = P at *
        generalize hQ : ptsTo s (k + 1) = Q at *
        have HQ := Lib.hid hQ
        clear hQ
        obtain ⟨u1, u2⟩ := HW.out
        go_wp2
        go_roundw
        case rel => clear m1 m2 u1 u2; exact ⟨k + 1, by omega, by rw [HQ.out, HStep.out]; rfl, by go_num, by first | rfl | trivial⟩
        case measure => simp [intOf]; omega
      · have hx : ¬ c.toNat = 46 := fun e => hc (u.2 e)
        rw [if_neg hc, Nat.add_zero] at HStep
        clear hd hst hle hsz u hc
        generalize c.toNat = x at *
        have d1 : ((x : Int) == 46) = false := by simp; omega
        clear hx
        generalize ptsTo s k = P at *
        generalize hQ : ptsTo s (k + 1) = Q at *
        have HQ := Lib.hid hQ
        clear hQ
        go_wp2
        go_roundw
        case rel => clear m1 m2; exact ⟨k + 1, by omega, by rw [HQ.out, HStep.out]; rfl, by go_num, by first | rfl | trivial⟩
        case measure => simp [intOf]; omega
    · obtain rfl : k = N := by omega
      have hE : ptsTo s k = ptsB s := by rw [← HN.out]; exact HE.out
      rw [hE]
      clear hlt hk hE
      go_wp2
      go_ret
      exact ⟨rfl, rfl⟩
/-- Whether a term has a place. -/
def hasO (n : Int) (s : ByteArray) (v : Int) : Bool := match termO n s.toList with
  | some t => decide (0 ≤ v ∧ v < n) && (decide (ptsB s ≤ 4) && hasT n.toNat t v.toNat)
  | none => false
theorem countB (s : ByteArray) (W : World) : Calls Tryd.prog 50 #[.string s, .string ⟨#[46]⟩] W fun e w' => e = .returned (.int .i64 ((ptsB s : Nat) : Int)) ∧ w' = W := by
  have h := Tryd.strings_Count_one s 46 W
  have e : Lib.countByte s.data.toList 46 = ((ptsB s : Nat) : Int) := by
    unfold ptsB
    rw [ByteArray.toList_eq]
    rfl
  rw [e] at h
  exact h
theorem hasO_no {n v : Int} {s : ByteArray} (h : termO n s.toList = none) : hasO n s v = false := by unfold hasO; rw [h]
theorem hasO_yes {n v : Int} {s : ByteArray} {t : Tm} (h : termO n s.toList = some t) : hasO n s v = (decide (0 ≤ v ∧ v < n) && (decide (ptsB s ≤ 4) && hasT n.toNat t v.toNat)) := by unfold hasO; rw [h]
theorem down_wraps (m : Nat) (h1 : 1 ≤ m) (h2 : m ≤ 12) : IntKind.i64.wrap ((m : Int) - 1) = (m : Int) - 1 ∧ wrap64 ((m : Int) - 1) = (m : Int) - 1 := ⟨IntWalk.i64_in _ ⟨by omega, by omega⟩, IntWalk.wrap64_in _ ⟨by omega, by omega⟩⟩
set_option maxHeartbeats 1000000 in
theorem specTermHas_any (n v : Int) (s : ByteArray) (w : World) (hsz : s.size ≤ 1048576) : Calls Tryd.prog 26 #[.int .i64 n, .string s, .int .i64 v] w fun e w' => e = .returned (.bool (hasO n s v)) ∧ Below w.heap.size w w' := by
  have HO := Lib.hid (l11Of_any n s w hsz)
  go_enter Tryd.func26, Tryd.ntmps26
  go_wp2_with fail
  refine HO.out.mono ?_
  rintro e w1 ⟨hb, ⟨hno, z, A, l, c, rfl⟩ | ⟨t, x, hyes, rfl, hI⟩⟩
  · have HV := Lib.hid (hasO_no (v := v) hno)
    clear hno
    go_wp2
    go_ret
    exact ⟨by rw [HV.out]; rfl, hb.alloc hb.size _⟩
  · have HV := Lib.hid (hasO_yes (v := v) hyes)
    obtain ⟨A, l, c, rfl⟩ := hI.agg
    obtain ⟨m, rfl, h1, h2, ho, _⟩ := termO_ok hyes
    obtain ⟨d1, d2⟩ := down_wraps m h1 h2
    have hB1 := hb.alloc hb.size (.cells #[.int .u8 ((signT t).toNat : Int), .slice A l c] 50)
    have hI1 := hI.below ((Below.refl _ w1).alloc (Nat.le_refl _) (.cells #[.int .u8 ((signT t).toNat : Int), .slice A l c] 50))
    have HIn := Lib.hid (fun W => l6In_any v 0 ((m : Int) - 1) W)
    rw [Int.toNat_natCast] at HV
    by_cases hv : 0 ≤ v ∧ v < (m : Int)
    · have hv2 : 0 ≤ v ∧ v ≤ (m : Int) - 1 := by omega
      rw [decide_eq_true hv2] at HIn
      rw [decide_eq_true hv, Bool.true_and] at HV
      have HP := Lib.hid (fun W => l11Points_any s W hsz)
      obtain ⟨y, rfl⟩ : ∃ y : Nat, v = (y : Int) := ⟨v.toNat, by omega⟩
      rw [Int.toNat_natCast] at HV
      have HH := Lib.hid (l11Has_any m h1 h2 t ho y (by omega) _ _ hI1)
      by_cases h4 : ptsB s ≤ 4
      · rw [decide_eq_true h4, Bool.true_and] at HV
        have g1 : decide (((ptsB s : Nat) : Int) ≤ 4) = true := decide_eq_true (by omega)
        have g2 : ((ptsB s : Nat) : Int) ≤ 4 := by omega
        have g3 : ptsB s ≤ 4 := h4
        clear hyes hI hI1 ho hv hv2 h4 hsz
        generalize (signT t).toNat = z at *
        generalize ptsB s = P at *
        generalize hasT m t y = r at *
        go_wp2_with fail
        refine (HIn.out _).mono ?_
        rintro e w2 ⟨rfl, rfl⟩
        go_wp2_with fail
        refine (HP.out _).mono ?_
        rintro e w2 ⟨rfl, rfl⟩
        go_wp2_with fail
        refine HH.out.mono ?_
        rintro e w3 ⟨rfl, hb3⟩
        go_wp2
        go_ret
        exact ⟨by rw [HV.out]; rfl, hB1.trans (hb3.mono hB1.size)⟩
      · rw [decide_eq_false h4, Bool.false_and] at HV
        have g1 : decide (((ptsB s : Nat) : Int) ≤ 4) = false := decide_eq_false (by omega)
        have g2 : ¬ ((ptsB s : Nat) : Int) ≤ 4 := by omega
        have g3 : ¬ ptsB s ≤ 4 := h4
        clear hyes hI hI1 ho hv hv2 h4 hsz HH
        generalize (signT t).toNat = z at *
        generalize ptsB s = P at *
        go_wp2_with fail
        refine (HIn.out _).mono ?_
        rintro e w2 ⟨rfl, rfl⟩
        go_wp2_with fail
        refine (HP.out _).mono ?_
        rintro e w2 ⟨rfl, rfl⟩
        go_wp2
        go_ret
        exact ⟨by rw [HV.out]; rfl, hB1⟩
    · have hv2 : ¬ (0 ≤ v ∧ v ≤ (m : Int) - 1) := by omega
      rw [decide_eq_false hv2] at HIn
      rw [decide_eq_false hv, Bool.false_and] at HV
      clear hyes hI hI1 ho hv hv2 hsz
      generalize (signT t).toNat = z at *
      go_wp2_with fail
      refine (HIn.out _).mono ?_
      rintro e w2 ⟨rfl, rfl⟩
      go_wp2
      go_ret
      exact ⟨by rw [HV.out]; rfl, hB1⟩
set_option maxHeartbeats 1000000 in
theorem implTermHas_any (n v : Int) (s : ByteArray) (w : World) (hE : ErrVar w) (hsz : s.size ≤ 1048576) : Calls Tryd.prog 25 #[.int .i64 n, .string s, .int .i64 v] w fun e w' => e = .returned (.bool (hasO n s v)) ∧ Below w.heap.size w w' := by
  have HO := Lib.hid (termOf_any n s w hE hsz)
  clear hE
  go_enter Tryd.func25, Tryd.ntmps25
  go_wp2_with fail
  refine HO.out.mono ?_
  rintro e w1 ⟨hb, ⟨hno, r, rfl⟩ | ⟨t, hyes, rfl⟩⟩
  · have HV := Lib.hid (hasO_no (v := v) hno)
    clear hno
    go_wp2
    go_ret
    exact ⟨by rw [HV.out]; rfl, hb.alloc hb.size _⟩
  · have HV := Lib.hid (hasO_yes (v := v) hyes)
    obtain ⟨m, rfl, h1, h2, ho, _⟩ := termO_ok hyes
    obtain ⟨T, p, k, hT, hp, hm, hcf, hX⟩ := ask_face m t (asks_any m h1 h2 t ho)
    rw [Int.toNat_natCast] at HV
    rw [hT, hp]
    have hB1 := hb.alloc hb.size (.cells #[.int .i64 (m : Int)] 43)
    have c1 := (Boxed.new w1 43 (.int .i64 (m : Int)))
    have HIs := Lib.hid (fun W => isPlace_any m v W)
    by_cases hv : 0 ≤ v ∧ v < (m : Int)
    · rw [decide_eq_true hv] at HIs
      rw [decide_eq_true hv, Bool.true_and] at HV
      obtain ⟨y, rfl⟩ : ∃ y : Nat, v = (y : Int) := ⟨v.toNat, by omega⟩
      rw [Int.toNat_natCast] at HV
      have HX := Lib.hid (hX y (by omega))
      have HC := Lib.hid (fun W => countB s W)
      by_cases h4 : ptsB s ≤ 4
      · rw [decide_eq_true h4, Bool.true_and] at HV
        have g1 : decide ((4 : Int) < ((ptsB s : Nat) : Int)) = false := decide_eq_false (by omega)
        have g2 : ¬ (4 : Int) < ((ptsB s : Nat) : Int) := by omega
        have g3 : ¬ 4 < ptsB s := by omega
        clear hyes hT hp hX ho hv h4 hsz
        generalize ptsB s = P at *
        generalize hasT m t y = r at *
        go_wp2_with fail
        refine (HIs.out _).mono ?_
        rintro e w2 ⟨rfl, hb2⟩
        have hB2 := hB1.trans (hb2.mono hB1.size)
        have c2 := (box_bel c1 c1.lt hb2).cell
        go_wp2_with fail
        refine (HC.out _).mono ?_
        rintro e w3 ⟨rfl, rfl⟩
        go_wp2_with fail
        refine (HX.out _).mono ?_
        rintro e w4 ⟨rfl, hb4⟩
        go_wp2
        go_ret
        exact ⟨by rw [HV.out]; rfl, hB2.trans (hb4.mono hB2.size)⟩
      · rw [decide_eq_false h4, Bool.false_and] at HV
        have g1 : decide ((4 : Int) < ((ptsB s : Nat) : Int)) = true := decide_eq_true (by omega)
        have g2 : (4 : Int) < ((ptsB s : Nat) : Int) := by omega
        have g3 : 4 < ptsB s := by omega
        clear hyes hT hp hX ho hv h4 hsz HX
        generalize ptsB s = P at *
        go_wp2_with fail
        refine (HIs.out _).mono ?_
        rintro e w2 ⟨rfl, hb2⟩
        have hB2 := hB1.trans (hb2.mono hB1.size)
        go_wp2_with fail
        refine (HC.out _).mono ?_
        rintro e w3 ⟨rfl, rfl⟩
        go_wp2
        go_ret
        exact ⟨by rw [HV.out]; rfl, hB2⟩
    · rw [decide_eq_false hv] at HIs
      rw [decide_eq_false hv, Bool.false_and] at HV
      clear hyes hT hp hX ho hv hsz
      go_wp2_with fail
      refine (HIs.out _).mono ?_
      rintro e w2 ⟨rfl, hb2⟩
      have hB2 := hB1.trans (hb2.mono hB1.size)
      go_wp2
      go_ret
      exact ⟨by rw [HV.out]; rfl, hB2⟩
end Go.Proofs.YtecjhkpldcmlaaaDoor
