/- Terms: the program's term of a set; TermOf by the model and by the program; its law. -/
import Derived.Test.YtecjhkpldcmlaaaDoorTrwC
import Derived.Test.YtecjhkpldcmlaaaDoorTrwB
import Derived.Test.YtecjhkpldcmlaaaDoorTrpH
import Derived.Test.YtecjhkpldcmlaaaDoorGA
namespace Go.Proofs.YtecjhkpldcmlaaaDoor
open Go.RowKit Go.Shelf
set_option linter.unusedVariables false
attribute [local go_sem] Oper.semAt_some
theorem TabVar.below {W W' : World} {N : Nat} (h : TabVar W) (hb : Below N W W') (hN : W.heap.size ≤ N) : TabVar W' := by
  unfold TabVar Lib.TabIs World.var? at h ⊢
  rw [deb_glob] at h ⊢
  simp only [Option.bind_some] at h ⊢
  have hlt : 3 < W.heap.size := by
    rcases Nat.lt_or_ge 3 W.heap.size with h' | h'
    · exact h'
    · simp [Array.getElem?_eq_none h'] at h
  rw [hb.block _ (Nat.lt_of_lt_of_le hlt hN)]
  exact h
theorem tz_any (x : Nat) (h : x < 4096) (h0 : x ≠ 0) (w : World) (hT : TabVar w) : Calls Tryd.prog 79 #[.int .u64 (x : Int)] w fun e w' => e = .returned (.int .i64 ((tzN x : Nat) : Int)) ∧ w = w' := by
  have H := Lib.hid (tz64_any x h h0 w hT)
  clear hT h h0
  generalize tzN x = v at *
  go_enter Tryd.func79, Tryd.ntmps79
  go_wp2_with fail
  refine H.out.mono ?_
  rintro e w1 ⟨rfl, rfl⟩
  go_wp2
  go_ret
  exact ⟨rfl, rfl⟩
theorem u64_fit (v : Nat) (h : v < 4096) : IntKind.u64.wrap (v : Int) = (v : Int) := by
  show ((v : Int) % (2 ^ 64 : Int)) = _
  omega
theorem face_place (v : Nat) (h : v < 12) : tyT (.leaf (signB v)) = 109 ∧ payT (.leaf (signB v)) = .int .i64 (v : Int) := by
  obtain ⟨a, b⟩ := sign_place v h
  exact ⟨if_neg b, by show (if signB v = 101 then _ else _) = _; rw [if_neg b, a]⟩
set_option maxHeartbeats 2000000 in
theorem termThat_any (s : Nat) (h : s < 4096) : ∀ w : World, TabVar w → Calls Tryd.prog 56 #[.int .i64 (s : Int)] w fun e w' => e = .returned (.iface (tyT (setS s)) (payT (setS s))) ∧ Below w.heap.size w w' := by
  induction s using Nat.strongRecOn with
  | _ s ih =>
  intro w hTab
  by_cases h0 : s = 0
  · subst h0
    rw [setS_zero]
    show Calls Tryd.prog 56 #[.int .i64 0] w fun e w' => e = .returned (.iface 106 (.agg #[])) ∧ Below w.heap.size w w'
    clear hTab ih
    go_enter Tryd.func56, Tryd.ntmps56
    go_wp2
    go_ret
    exact ⟨rfl, Below.refl _ _⟩
  obtain ⟨hv, hb1, hb2, hpl, hlt, hif⟩ := tz_facts s h h0
  have HT := Lib.hid (tz_any s h h0 w hTab)
  have HIH := Lib.hid (fun (hl : lessN s (2 ^ tzN s) ≠ 0) => ih (lessN s (2 ^ tzN s)) hlt (by omega) w hTab)
  have HU := Lib.hid (u64_fit s h)
  have HAn := Lib.hid (less_nat s (2 ^ tzN s) (by omega) (by have := two_pow_lt (tzN s) (by omega); omega))
  have HW := Lib.hid (pow_wraps (tzN s) (by omega))
  have hL : Hid (tzN s < 12) := Lib.hid hv
  have HFp := Lib.hid (face_place (tzN s) hv)
  have HV1 := Lib.hid (show lessN s (2 ^ tzN s) = 0 → tyT (setS s) = 109 ∧ payT (setS s) = .int .i64 ((tzN s : Nat) : Int) from fun hl => by rw [setS_one s h h0 hl]; exact face_place (tzN s) hv)
  have HV2 := Lib.hid (show lessN s (2 ^ tzN s) ≠ 0 → tyT (setS s) = 111 ∧ payT (setS s) = .agg #[.int .u8 43, .iface 109 (.int .i64 ((tzN s : Nat) : Int)), .iface (tyT (setS (lessN s (2 ^ tzN s)))) (payT (setS (lessN s (2 ^ tzN s))))] from fun hl => by
    rw [setS_more s h h0 hl]
    obtain ⟨a, b⟩ := face_place (tzN s) hv
    refine ⟨rfl, ?_⟩
    rw [← a, ← b]
    rfl)
  have hs0 : ((s : Int) == 0) = false := by rw [beq_eq_false_iff_ne]; omega
  clear ih hb1 hb2 hif hlt hv h0 h hpl hTab HFp
  generalize tyT (setS s) = T1 at *
  generalize payT (setS s) = p1 at *
  generalize tyT (setS (lessN s (2 ^ tzN s))) = T2 at *
  generalize payT (setS (lessN s (2 ^ tzN s))) = p2 at *
  generalize lessN s (2 ^ tzN s) = L at *
  generalize tzN s = z at *
  have q0 : (0 : Int) ≤ (z : Int) := by omega
  have q1 : z < 64 := by have := hL.out; omega
  obtain ⟨y1, y2⟩ := HW.out
  have han := HAn.out
  rw [cast_pow] at han
  have hu := HU.out
  by_cases hz : L = 0
  · obtain ⟨a, b⟩ := HV1.out hz
    subst a b hz
    clear HV1 HV2 HIH HAn
    go_enter Tryd.func56, Tryd.ntmps56
    go_wp2_with fail
    refine HT.out.mono ?_
    rintro e w1 ⟨rfl, rfl⟩
    go_wp2
    go_ret
    exact ⟨rfl, Below.refl _ _⟩
  · obtain ⟨a, b⟩ := HV2.out hz
    have HI2 := Lib.hid (HIH.out hz)
    have hL0 : ((L : Int) == 0) = false := by rw [beq_eq_false_iff_ne]; omega
    subst a b
    clear HV1 HV2 HIH HAn hz
    go_enter Tryd.func56, Tryd.ntmps56
    go_wp2_with fail
    refine HT.out.mono ?_
    rintro e w1 ⟨rfl, rfl⟩
    go_wp2_with fail
    refine HI2.out.mono ?_
    rintro e w2 ⟨rfl, hb2⟩
    go_wp2
    go_ret
    exact ⟨rfl, hb2⟩
/-- The text of a set of a ring. -/
theorem ok_setS (n s : Nat) (h2 : n ≤ 12) (hs : s < 2 ^ n) : okT n (setS s) = true := by
  rw [← writeT_is n s h2 hs]
  exact ok_places n _ h2 (fun v hv => (places_lt n s v hv).1)
theorem specTermOf_no (n s : Int) (w : World) (h : NotIn n s) : Calls Tryd.prog 32 #[.int .i64 n, .int .i64 s] w fun e w' => e = .returned (.tuple #[.string ⟨#[]⟩, .bool false]) ∧ Below w.heap.size w w' := by
  have H := Lib.hid h
  clear h
  go_enter Tryd.func32, Tryd.ntmps32
  go_wp2_with fail
  refine (specIn_no n s w H.out).mono ?_
  rintro e w1 ⟨rfl, rfl⟩
  go_wp2
  go_ret2
  exact ⟨rfl, Below.refl _ _⟩
theorem specTermOf_yes (n s : Nat) (w : World) (h1 : 1 ≤ n) (h2 : n ≤ 12) (hs : s < 2 ^ n) : Calls Tryd.prog 32 #[.int .i64 (n : Int), .int .i64 (s : Int)] w fun e w' => e = .returned (.tuple #[.string (toB (showT (setS s))), .bool true]) ∧ Below w.heap.size w w' := by
  have HI := Lib.hid (specIn_yes n s w h1 h2 hs)
  have hp := pow_le n h2
  have HW := Lib.hid (fun W => l11Write_any s (by omega) W)
  clear hs hp
  generalize toB (showT (setS s)) = X at *
  go_enter Tryd.func32, Tryd.ntmps32
  go_wp2_with fail
  refine HI.out.mono ?_
  rintro e w1 ⟨rfl, rfl⟩
  go_wp2_with fail
  refine (HW.out _).mono ?_
  rintro e w2 ⟨rfl, hb⟩
  go_wp2
  go_ret2
  exact ⟨rfl, hb⟩
theorem implTermOf_no (n s : Int) (w : World) (h : NotIn n s) : Calls Tryd.prog 31 #[.int .i64 n, .int .i64 s] w fun e w' => e = .returned (.tuple #[.string ⟨#[]⟩, .bool false]) ∧ Below w.heap.size w w' := by
  have H := Lib.hid h
  clear h
  go_enter Tryd.func31, Tryd.ntmps31
  go_wp2_with fail
  refine (implIn_no n s _ H.out).mono ?_
  rintro e w1 ⟨rfl, hb⟩
  go_wp2
  go_ret2
  exact ⟨rfl, hb⟩
theorem implTermOf_yes (n s : Nat) (w : World) (hT : TabVar w) (h1 : 1 ≤ n) (h2 : n ≤ 12) (hs : s < 2 ^ n) : Calls Tryd.prog 31 #[.int .i64 (n : Int), .int .i64 (s : Int)] w fun e w' => e = .returned (.tuple #[.string (toB (showT (setS s))), .bool true]) ∧ Below w.heap.size w w' := by
  have HI := Lib.hid (implIn_yes n s w h1 h2 hs)
  have hp := pow_le n h2
  have HW := Lib.hid (fun W (h : TabVar W) => termThat_any s (by omega) W h)
  have HT := Lib.hid hT
  obtain ⟨T2, p2, k2, hT2, hp2, hm2, hcf2, hX2⟩ := text_face (setS s) (texts_any n h2 (setS s) (ok_setS n s h2 hs) (by have := setS_len s; omega))
  rw [hT2, hp2] at HW
  have HX2 := Lib.hid hX2
  clear hs hp hT hT2 hp2 hX2
  generalize toB (showT (setS s)) = X at *
  go_enter Tryd.func31, Tryd.ntmps31
  go_wp2_with fail
  refine HI.out.mono ?_
  rintro e w1 ⟨rfl, hb1⟩
  go_wp2_with fail
  refine (HW.out _ (HT.out.below hb1 (Nat.le_refl _))).mono ?_
  rintro e w2 ⟨rfl, hb2⟩
  have hB2 := hb1.trans (hb2.mono hb1.size)
  go_wp2_with fail
  refine (HX2.out _).mono ?_
  rintro e w3 ⟨rfl, hb3⟩
  go_wp2
  go_ret2
  exact ⟨rfl, hB2.trans (hb3.mono hB2.size)⟩
end Go.Proofs.YtecjhkpldcmlaaaDoor
