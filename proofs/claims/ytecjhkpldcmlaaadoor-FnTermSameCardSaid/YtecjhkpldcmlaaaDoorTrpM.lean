/- Terms: TermSet, TermSame, TermHas, by the model and by the program. -/
import Derived.Test.YtecjhkpldcmlaaaDoorTrpL
import Derived.Test.YtecjhkpldcmlaaaDoorTrmF
import Derived.Test.YtecjhkpldcmlaaaDoorTrpG
namespace Go.Proofs.YtecjhkpldcmlaaaDoor
open Go.RowKit Go.Shelf
set_option linter.unusedVariables false
attribute [local go_sem] Oper.semAt_some
theorem termO_ok {n : Int} {xs : List UInt8} {t : Tm} (h : termO n xs = some t) : ∃ m : Nat, n = (m : Int) ∧ 1 ≤ m ∧ m ≤ 12 ∧ okT m t = true ∧ (showT t).length ≤ 60 ∧ xs = showT t := by
  obtain ⟨hn, hl, e, ho⟩ := (term_iff n xs t).1 h
  exact ⟨n.toNat, by omega, by omega, by omega, ho, by rw [← e]; exact hl, e⟩
/-- The set of a text as a number, 0 if it is none. -/
def setV (n : Int) (s : ByteArray) : Nat := (setO n s).getD 0
theorem setO_no {n : Int} {s : ByteArray} (h : termO n s.toList = none) : setO n s = none := by unfold setO; rw [h]; rfl
theorem setO_yes {n : Int} {s : ByteArray} {t : Tm} (h : termO n s.toList = some t) : setO n s = some (setT n.toNat t) := by unfold setO; rw [h]; rfl
set_option maxHeartbeats 1000000 in
theorem specTermSet_any (n : Int) (s : ByteArray) (w : World) (hsz : s.size ≤ 1048576) : Calls Tryd.prog 17 #[.int .i64 n, .string s] w fun e w' => e = .returned (.tuple #[.int .i64 (((setO n s).getD 0 : Nat) : Int), .bool (setO n s).isSome]) ∧ Below w.heap.size w w' := by
  have HO := Lib.hid (l11Of_any n s w hsz)
  go_enter Tryd.func17, Tryd.ntmps17
  go_wp2_with fail
  refine HO.out.mono ?_
  rintro e w1 ⟨hb, ⟨hno, z, A, l, c, rfl⟩ | ⟨t, v, hyes, rfl, hI⟩⟩
  · have HV := Lib.hid (setO_no hno)
    clear hno
    go_wp2
    go_ret2
    exact ⟨by rw [HV.out]; rfl, hb.alloc hb.size _⟩
  · have HV := Lib.hid (setO_yes hyes)
    obtain ⟨A, l, c, rfl⟩ := hI.agg
    obtain ⟨m, rfl, h1, h2, ho, _⟩ := termO_ok hyes
    have hB1 := hb.alloc hb.size (.cells #[.int .u8 ((signT t).toNat : Int), .slice A l c] 50)
    have HS := Lib.hid (l11Set_any m h1 h2 t ho _ _ (hI.below ((Below.refl _ w1).alloc (Nat.le_refl _) (.cells #[.int .u8 ((signT t).toNat : Int), .slice A l c] 50))))
    rw [Int.toNat_natCast] at HV
    clear hyes hI ho
    generalize (signT t).toNat = z at *
    generalize setT m t = S at *
    go_wp2_with fail
    refine HS.out.mono ?_
    rintro e w2 ⟨rfl, hb2⟩
    go_wp2
    go_ret2
    exact ⟨by rw [HV.out]; rfl, hB1.trans (hb2.mono hB1.size)⟩
set_option maxHeartbeats 1000000 in
theorem implTermSet_any (n : Int) (s : ByteArray) (w : World) (hE : ErrVar w) (hsz : s.size ≤ 1048576) : Calls Tryd.prog 16 #[.int .i64 n, .string s] w fun e w' => e = .returned (.tuple #[.int .i64 (((setO n s).getD 0 : Nat) : Int), .bool (setO n s).isSome]) ∧ Below w.heap.size w w' := by
  have HO := Lib.hid (termOf_any n s w hE hsz)
  clear hE
  go_enter Tryd.func16, Tryd.ntmps16
  go_wp2_with fail
  refine HO.out.mono ?_
  rintro e w1 ⟨hb, ⟨hno, r, rfl⟩ | ⟨t, hyes, rfl⟩⟩
  · have HV := Lib.hid (setO_no hno)
    clear hno
    go_wp2
    go_ret2
    exact ⟨by rw [HV.out]; rfl, hb.alloc hb.size _⟩
  · have HV := Lib.hid (setO_yes hyes)
    obtain ⟨m, rfl, h1, h2, ho, _⟩ := termO_ok hyes
    obtain ⟨T, p, k, hT, hp, hm, hcf, hX⟩ := set_face m t (sets_any m h1 h2 t ho)
    have HX := Lib.hid hX
    rw [hT, hp]
    rw [Int.toNat_natCast] at HV
    have hB1 := hb.alloc hb.size (.cells #[.int .i64 (m : Int)] 43)
    clear hyes hT hp hX ho
    generalize setT m t = S at *
    go_wp2_with fail
    refine (HX.out _).mono ?_
    rintro e w2 ⟨rfl, hb2⟩
    go_wp2
    go_ret2
    exact ⟨by rw [HV.out]; rfl, hB1.trans (hb2.mono hB1.size)⟩
/-- Whether two texts tell the same set. -/
def sameT (n : Int) (s t : ByteArray) : Bool := (setO n s).isSome && ((setO n t).isSome && decide ((setO n s).getD 0 = (setO n t).getD 0))
theorem nat_eql (a b : Nat) : ((a : Int) == (b : Int)) = decide (a = b) := by
  by_cases h : a = b
  · subst h; simp
  · have : ¬ (a : Int) = (b : Int) := by omega
    simp [h, this]
theorem specTermSame_any (n : Int) (s t : ByteArray) (w : World) (hs : s.size ≤ 1048576) (ht : t.size ≤ 1048576) : Calls Tryd.prog 22 #[.int .i64 n, .string s, .string t] w fun e w' => e = .returned (.bool (sameT n s t)) ∧ Below w.heap.size w w' := by
  have HA := Lib.hid (specTermSet_any n s w hs)
  have HB := Lib.hid (fun W => specTermSet_any n t W ht)
  have HV : Hid (sameT n s t = ((setO n s).isSome && ((setO n t).isSome && decide ((setO n s).getD 0 = (setO n t).getD 0)))) := Lib.hid rfl
  rw [HV.out]
  have e9 := nat_eql ((setO n s).getD 0) ((setO n t).getD 0)
  clear HV hs ht
  generalize (setO n s).isSome = r at *
  generalize (setO n t).isSome = r2 at *
  generalize (setO n s).getD 0 = S at *
  generalize (setO n t).getD 0 = S2 at *
  generalize decide (S = S2) = d at *
  cases r <;> cases r2
  all_goals
    go_enter Tryd.func22, Tryd.ntmps22
    go_wp2_with fail
    refine HA.out.mono ?_
    rintro e w1 ⟨rfl, hb1⟩
    go_wp2_with fail
    refine (HB.out _).mono ?_
    rintro e w2 ⟨rfl, hb2⟩
    go_wp2
    go_ret
    exact ⟨by first | rfl | (cases d <;> rfl), hb1.trans (hb2.mono hb1.size)⟩
theorem implTermSame_any (n : Int) (s t : ByteArray) (w : World) (hE : ErrVar w) (hs : s.size ≤ 1048576) (ht : t.size ≤ 1048576) : Calls Tryd.prog 21 #[.int .i64 n, .string s, .string t] w fun e w' => e = .returned (.bool (sameT n s t)) ∧ Below w.heap.size w w' := by
  have HA := Lib.hid (implTermSet_any n s w hE hs)
  have HB := Lib.hid (fun W (h : ErrVar W) => implTermSet_any n t W h ht)
  have HE := Lib.hid hE
  have HV : Hid (sameT n s t = ((setO n s).isSome && ((setO n t).isSome && decide ((setO n s).getD 0 = (setO n t).getD 0)))) := Lib.hid rfl
  rw [HV.out]
  have e9 := nat_eql ((setO n s).getD 0) ((setO n t).getD 0)
  clear HV hs ht hE
  generalize (setO n s).isSome = r at *
  generalize (setO n t).isSome = r2 at *
  generalize (setO n s).getD 0 = S at *
  generalize (setO n t).getD 0 = S2 at *
  generalize decide (S = S2) = d at *
  cases r
  · go_enter Tryd.func21, Tryd.ntmps21
    go_wp2_with fail
    refine HA.out.mono ?_
    rintro e w1 ⟨rfl, hb1⟩
    go_wp2
    go_ret
    exact ⟨rfl, hb1⟩
  · cases r2
    all_goals
      go_enter Tryd.func21, Tryd.ntmps21
      go_wp2_with fail
      refine HA.out.mono ?_
      rintro e w1 ⟨rfl, hb1⟩
      go_wp2_with fail
      refine (HB.out _ (HE.out.below (Nat.le_refl _) hb1)).mono ?_
      rintro e w2 ⟨rfl, hb2⟩
      go_wp2
      go_ret
      exact ⟨by first | rfl | (cases d <;> rfl), hb1.trans (hb2.mono hb1.size)⟩
end Go.Proofs.YtecjhkpldcmlaaaDoor
