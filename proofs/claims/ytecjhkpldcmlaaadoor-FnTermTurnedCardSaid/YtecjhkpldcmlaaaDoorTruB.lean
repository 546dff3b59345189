/- Terms: TermTurned by the model. -/
import Derived.Test.YtecjhkpldcmlaaaDoorTruA
namespace Go.Proofs.YtecjhkpldcmlaaaDoor
open Go.RowKit Go.Shelf
set_option linter.unusedVariables false
attribute [local go_sem] Oper.semAt_some
/-- A text turned letter by letter. -/
def turnX (n : Int) (s : ByteArray) : Option ByteArray := (termO n s.toList).map fun _ => toB (s.toList.map (turnB n.toNat))
theorem turnX_no {n : Int} {s : ByteArray} (h : termO n s.toList = none) : turnX n s = none := by unfold turnX; rw [h]; rfl
theorem turnX_yes {n : Int} {s : ByteArray} {t : Tm} (h : termO n s.toList = some t) : turnX n s = some (toB (s.toList.map (turnB n.toNat))) := by unfold turnX; rw [h]; rfl
def turnedTo (m : Nat) (s : ByteArray) (i : Nat) : List UInt8 := (s.toList.take i).map (turnB m)
theorem turnedTo_len (m : Nat) (s : ByteArray) (i : Nat) (h : i ≤ s.size) : (turnedTo m s i).length = i := by
  unfold turnedTo
  rw [List.length_map, List.length_take, bytes_len]; omega
theorem turnedTo_step (m : Nat) (s : ByteArray) (i : Nat) (c : UInt8) (h : s.toList.drop i = c :: s.toList.drop (i + 1)) : turnedTo m s (i + 1) = turnedTo m s i ++ [turnB m c] := by
  unfold turnedTo
  have hi : i < s.toList.length := by
    by_cases h' : i < s.toList.length
    · exact h'
    · rw [List.drop_eq_nil_of_le (by omega)] at h; cases h
  have hc : s.toList[i] = c := by
    have := List.drop_eq_getElem_cons hi
    rw [this] at h
    injection h
  rw [List.take_succ_eq_append_getElem hi, List.map_append, hc]
  rfl
theorem turnedTo_end (m : Nat) (s : ByteArray) : turnedTo m s s.size = s.toList.map (turnB m) := by
  unfold turnedTo
  rw [← bytes_len, List.take_length]
theorem place_fit (c : UInt8) (h : 0 ≤ placeB c) : ∃ p : Nat, placeB c = (p : Int) ∧ p < 12 := ⟨(placeB c).toNat, by omega, by have := (place_sign c h).1; omega⟩
theorem turn_is (m : Nat) (c : UInt8) (p : Nat) (h : placeB c = (p : Int)) : turnB m c = signB (neg m p) := by
  unfold turnB
  rw [h, if_pos (by omega), Int.toNat_natCast]
theorem turn_not (m : Nat) (c : UInt8) (h : ¬ 0 ≤ placeB c) : turnB m c = c := by
  unfold turnB
  rw [if_neg h]
set_option maxHeartbeats 2000000 in
theorem specTermTurned_any (n : Int) (s : ByteArray) (w : World) (hsz : s.size ≤ 1048576) : Calls Tryd.prog 35 #[.int .i64 n, .string s] w fun e w' => e = .returned (.tuple #[.string ((turnX n s).getD ⟨#[]⟩), .bool (turnX n s).isSome]) ∧ Below w.heap.size w w' := by
  have HO := Lib.hid (specTermIn_any n s w hsz)
  cases ht : termO n s.toList with
  | none =>
    rw [ht] at HO
    have HV := Lib.hid (turnX_no ht)
    clear ht
    simp only [Option.isSome_none] at HO
    go_enter Tryd.func35, Tryd.ntmps35
    go_wp2_with fail
    refine HO.out.mono ?_
    rintro e w1 ⟨rfl, hb⟩
    go_wp2
    go_ret2
    exact ⟨by rw [HV.out]; rfl, hb⟩
  | some t =>
    rw [ht] at HO
    have HV := Lib.hid (turnX_yes ht)
    obtain ⟨m, rfl, h1, h2, ho, hl, e⟩ := termO_ok ht
    rw [Int.toNat_natCast] at HV
    obtain ⟨N, hN⟩ : ∃ N, s.size = N := ⟨_, rfl⟩
    have hN60 : N ≤ 60 := by rw [← hN, ← bytes_len, e]; exact hl
    have HN := Lib.hid hN
    have HM : Hid (1 ≤ m ∧ m ≤ 12 ∧ N ≤ 60) := Lib.hid ⟨h1, h2, hN60⟩
    have HSt := Lib.hid (fun i c h => turnedTo_step m s i c h)
    have HLn := Lib.hid (fun i h => turnedTo_len m s i h)
    have HEn := Lib.hid (turnedTo_end m s)
    clear ht e ho hl hsz hN60 h1 h2
    simp only [Option.isSome_some] at HO
    go_enter Tryd.func35, Tryd.ntmps35
    go_wp2_with fail
    refine HO.out.mono ?_
    rintro e w1 ⟨rfl, hb⟩
    have HA1 := Lib.hid (nil_byts w1 w.heap.size hb.size)
    have HB1 := Lib.hid (hb.alloc hb.size (.cells #[] 5))
    have hz1 : w.heap.size ≤ w1.heap.size := hb.size
    clear hb HO
    go_wp2
    go_loopw [6, 7, 8] (fun a u v8 wr => ∃ i : Nat, i ≤ N ∧ u = .int .i64 (i : Int) ∧ Hid (IsByts wr w.heap.size a (turnedTo m s i)) ∧ Hid (Below w.heap.size w wr)) (fun _ u _ _ => N - (intOf u).toNat)
    case atStart => exact ⟨0, Nat.zero_le _, rfl, HA1, HB1⟩
    case round =>
      obtain ⟨i, hi, rfl, HA, HB⟩ := hrel
      by_cases hlt : i < N
      · obtain ⟨c, hd, hidx⟩ := index_str s i (by rw [HN.out]; exact hlt)
        have hst := HSt.out i c hd
        have hln := HLn.out i (by rw [HN.out]; omega)
        have hwz := HB.out.size
        obtain ⟨m1, m2⟩ := mil_up i (by have := HM.out; omega)
        have i1 : (i : Int) < (N : Int) := by omega
        have HP := Lib.hid (fun W => l11Place_any c W)
        obtain ⟨g, cc, hA⟩ := HA.out.1
        rw [hln] at hA
        subst hA
        have hl5 : (turnedTo m s i).length ≤ 100000 := by have := HM.out; omega
        clear hd
        by_cases hp : 0 ≤ placeB c
        · obtain ⟨p, hpe, hp12⟩ := place_fit c hp
          rw [turn_is m c p hpe] at hst
          rw [hpe] at HP
          have HR' := fun W => l1Rest_any m (-(p : Int)) W HM.out.1 HM.out.2.1 (by omega)
          rw [show rest m (-(p : Int)) = neg m p from rfl] at HR'
          have HR := Lib.hid HR'
          have HS := Lib.hid (fun W => l11Sign_any (neg m p) (by have := neg_lt m p HM.out.1; have := HM.out; omega) W)
          have HW := Lib.hid (neg_wraps' p (by omega))
          obtain ⟨u1, u2⟩ := HW.out
          have q0 : (0 : Int) ≤ (p : Int) := by omega
          have HSt2 := Lib.hid hst
          have HL5 := Lib.hid hl5
          have HWz := Lib.hid hwz
          clear HR' hp hpe hst hln hl5 hwz
          generalize signB (neg m p) = r at *
          generalize neg m p = k at *
          generalize c.toNat = x at *
          go_wp2_with (first | (go_at_call 60; refine (HP.out _).mono ?_; rintro e w2 ⟨rfl, rfl⟩) | (go_at_call 62; refine (HR.out _).mono ?_; rintro e w2 ⟨rfl, rfl⟩) | (go_at_call 61; refine (HS.out _).mono ?_; rintro e w2 ⟨rfl, rfl⟩) | (at_builtin; go_loud (refine wpList_plain rfl (fun K hK => ?_); refine wp_append_byte _ _ rfl (.slice (some ⟨g, 0, none⟩) i cc) (turnedTo m s i) r _ w.heap.size rfl rfl HA.out HL5.out HWz.out (fun A3 w6 hO6 hb6 => ?_); have HA6 := Lib.hid hO6; have HB6 := Lib.hid (hb6 _ _ (Nat.le_refl _) HB.out); clear hO6 hb6; refine hK _ _ ?_; clear hK)))
          rw [← HSt2.out] at HA6
          go_roundw
          case rel => exact ⟨i + 1, by omega, by go_num, HA6, HB6⟩
          case measure => simp [intOf]; omega
        · rw [turn_not m c hp] at hst
          have q0 : decide (0 ≤ placeB c) = false := decide_eq_false hp
          have HSt2 := Lib.hid hst
          have HL5 := Lib.hid hl5
          have HWz := Lib.hid hwz
          clear hst hln hl5 hwz
          generalize placeB c = p at *
          go_wp2_with (first | (go_at_call 60; refine (HP.out _).mono ?_; rintro e w2 ⟨rfl, rfl⟩) | (at_builtin; go_loud (refine wpList_plain rfl (fun K hK => ?_); refine wp_append_byte _ _ rfl (.slice (some ⟨g, 0, none⟩) i cc) (turnedTo m s i) c _ w.heap.size rfl rfl HA.out HL5.out HWz.out (fun A3 w6 hO6 hb6 => ?_); have HA6 := Lib.hid hO6; have HB6 := Lib.hid (hb6 _ _ (Nat.le_refl _) HB.out); clear hO6 hb6; refine hK _ _ ?_; clear hK)))
          rw [← HSt2.out] at HA6
          go_roundw
          case rel => exact ⟨i + 1, by omega, by go_num, HA6, HB6⟩
          case measure => simp [intOf]; omega
      · obtain rfl : i = N := by omega
        obtain ⟨g, cc, hA⟩ := HA.out.1
        have hln := HLn.out i (by rw [HN.out]; omega)
        rw [hln] at hA
        subst hA
        have hcv := byts_text wr w.heap.size g cc i _ hln HA.out
        have HEq : Hid (turnedTo m s i = s.toList.map (turnB m)) := Lib.hid (by rw [← HEn.out, HN.out])
        rw [HEq.out] at hcv
        have HBx := Lib.hid HB.out
        generalize toB (s.toList.map (turnB m)) = X at *
        clear hln hlt
        go_wp2
        go_ret2
        exact ⟨by rw [HV.out]; rfl, HBx.out⟩
end Go.Proofs.YtecjhkpldcmlaaaDoor
