/- Terms, the program's side: the reader. -/
import Derived.Test.YtecjhkpldcmlaaaDoorTrpA
namespace Go.Proofs.YtecjhkpldcmlaaaDoor
open Go.RowKit Go.Shelf
set_option linter.unusedVariables false
attribute [local go_sem] Oper.semAt_some
/-- What reading from place k on tells. -/
def ReadsTo (n B : Nat) (s : ByteArray) (k : Nat) (w : World) (e : Ending) (w' : World) : Prop :=
  Aside B w w' ∧ ((readL n (s.toList.drop k) = none ∧ ∃ j, e = .returned (.tuple #[.nilIface, .iface 85 (.agg #[.int .i64 j])])) ∨
    ∃ t j, readL n (s.toList.drop k) = some (t, s.toList.drop j) ∧ k < j ∧ j ≤ s.size ∧ e = .returned (.tuple #[.iface (tyT t) (payT t), .nilIface]) ∧ Rdr w' B n s (j : Int))
def Reads (n B : Nat) (s : ByteArray) (k : Nat) : Prop := ∀ w, Rdr w B n s (k : Int) → Calls Tryd.prog 81 #[.pointer (some ⟨B, 0, none⟩)] w (ReadsTo n B s k w)
theorem err_some (v : Value) (W : World) : (binOp .neq 81 (.iface 85 v) .nilIface).run Tryd.prog W = .ok (.bool true) W := by kernel_rfl
theorem err_none (W : World) : (binOp .neq 81 .nilIface .nilIface).run Tryd.prog W = .ok (.bool false) W := by kernel_rfl
set_option maxHeartbeats 2000000 in
/-- Behind a sign in front. -/
theorem readBehind_any (n B k : Nat) (s : ByteArray) (c : UInt8) (w : World) (hf : isFront c = true) (hR : Rdr w B n s (k : Int)) (ih : Reads n B s k) :
    Calls Tryd.prog 93 #[.pointer (some ⟨B, 0, none⟩), .int .u8 (c.toNat : Int)] w fun e w' =>
      Aside B w w' ∧ ((readL n (s.toList.drop k) = none ∧ ∃ j, e = .returned (.tuple #[.nilIface, .iface 85 (.agg #[.int .i64 j])])) ∨
        ∃ t j, readL n (s.toList.drop k) = some (t, s.toList.drop j) ∧ k < j ∧ j ≤ s.size ∧ e = .returned (.tuple #[.iface (tyT (.one c t)) (payT (.one c t)), .nilIface]) ∧ Rdr w' B n s (j : Int)) := by
  have es := err_some
  have en := err_none
  have HX := Lib.hid (ih w hR)
  clear ih hR
  unfold isFront at hf
  rw [Bool.or_eq_true, beq_iff_eq, beq_iff_eq] at hf
  rcases hf with rfl | rfl
  · have hc : (((33 : UInt8).toNat : Nat) : Int) = 33 := rfl
    rw [hc]
    have HE : Hid (∀ t T p, tyT t = T → payT t = p → Ending.returned (.tuple #[.iface 152 (.agg #[.iface T p]), .nilIface]) = .returned (.tuple #[.iface (tyT (.one 33 t)) (payT (.one 33 t)), .nilIface])) := Lib.hid (fun t T p h1 h2 => by subst h1 h2; rfl)
    clear hc
    go_enter Tryd.func93, Tryd.ntmps93
    go_wp2_with fail
    refine HX.out.mono ?_
    rintro e w1 ⟨hA, ⟨hno, j, rfl⟩ | ⟨t, j, hyes, hj1, hj2, rfl, hR1⟩⟩
    · go_wp2
      go_ret2
      exact ⟨hA, .inl ⟨hno, j, rfl⟩⟩
    · have HY := Lib.hid (And.intro hyes (And.intro hj1 hj2))
      clear hyes hj1 hj2
      obtain ⟨T, hT⟩ : ∃ T, tyT t = T := ⟨_, rfl⟩
      obtain ⟨p, hp⟩ : ∃ p, payT t = p := ⟨_, rfl⟩
      have HE2 := Lib.hid (HE.out t T p hT hp)
      rw [hT, hp]
      clear hT hp HE
      go_wp2
      go_ret2
      exact ⟨hA, .inr ⟨t, j, HY.out.1, HY.out.2.1, HY.out.2.2, HE2.out, hR1⟩⟩
  · have hc : (((45 : UInt8).toNat : Nat) : Int) = 45 := rfl
    rw [hc]
    have HE : Hid (∀ t T p, tyT t = T → payT t = p → Ending.returned (.tuple #[.iface 153 (.agg #[.iface T p]), .nilIface]) = .returned (.tuple #[.iface (tyT (.one 45 t)) (payT (.one 45 t)), .nilIface])) := Lib.hid (fun t T p h1 h2 => by subst h1 h2; rfl)
    clear hc
    go_enter Tryd.func93, Tryd.ntmps93
    go_wp2_with fail
    refine HX.out.mono ?_
    rintro e w1 ⟨hA, ⟨hno, j, rfl⟩ | ⟨t, j, hyes, hj1, hj2, rfl, hR1⟩⟩
    · go_wp2
      go_ret2
      exact ⟨hA, .inl ⟨hno, j, rfl⟩⟩
    · have HY := Lib.hid (And.intro hyes (And.intro hj1 hj2))
      clear hyes hj1 hj2
      obtain ⟨T, hT⟩ : ∃ T, tyT t = T := ⟨_, rfl⟩
      obtain ⟨p, hp⟩ : ∃ p, payT t = p := ⟨_, rfl⟩
      have HE2 := Lib.hid (HE.out t T p hT hp)
      rw [hT, hp]
      clear hT hp HE
      go_wp2
      go_ret2
      exact ⟨hA, .inr ⟨t, j, HY.out.1, HY.out.2.1, HY.out.2.2, HE2.out, hR1⟩⟩
set_option maxHeartbeats 4000000 in
/-- A pair behind its bracket. -/
theorem readPair_any (n B k : Nat) (s : ByteArray) (w : World) (h1 : 1 ≤ n) (h2 : n ≤ 12) (h60 : s.size ≤ 60) (hR : Rdr w B n s (k : Int)) (ih : ∀ j, k ≤ j → j ≤ s.size → Reads n B s j) (hk : k ≤ s.size) :
    Calls Tryd.prog 94 #[.pointer (some ⟨B, 0, none⟩)] w fun e w' =>
      Aside B w w' ∧ ((readL n (40 :: s.toList.drop k) = none ∧ ∃ j, e = .returned (.tuple #[.nilIface, .iface 85 (.agg #[.int .i64 j])])) ∨
        ∃ t j, readL n (40 :: s.toList.drop k) = some (t, s.toList.drop j) ∧ k < j ∧ j ≤ s.size ∧ e = .returned (.tuple #[.iface (tyT t) (payT t), .nilIface]) ∧ Rdr w' B n s (j : Int)) := by
  have es := err_some
  have en := err_none
  have HX := Lib.hid (ih k (Nat.le_refl _) hk w hR)
  have HIH := Lib.hid ih
  have H60 := Lib.hid h60
  have HSz : Hid (s.size = s.size) := Lib.hid rfl
  have HN := Lib.hid (fun W (h : Rdr W B n s (s.size : Int)) => sign_no n B s W h60 h)
  have HWr := Lib.hid (fun (i : Int) W (h : Rdr W B n s i) => wrong_any n B i s W h)
  have HMid := Lib.hid (fun (c : UInt8) W => (show Calls Tryd.prog 58 #[.string ⟨#[43, 38, 46]⟩, .int .u8 (c.toNat : Int)] W fun e w' => e = .returned (.int .i64 (Lib.indexByte [43, 38, 46] c)) ∧ w' = W from by
    have h := Tryd.strings_IndexByte ⟨#[43, 38, 46]⟩ (c.toNat : Int) W
    rw [byte_u8] at h
    exact h))
  clear ih hR hk h60
  go_enter Tryd.func94, Tryd.ntmps94
  go_wp2_with fail
  refine HX.out.mono ?_
  rintro e w1 ⟨hA1, ⟨hno, j, rfl⟩ | ⟨t, j, hyes, hj1, hj2, rfl, hR1⟩⟩
  · have HV := Lib.hid (readL_open_none n _ hno)
    clear hno
    go_wp2
    go_ret2
    exact ⟨hA1, .inl ⟨HV.out, j, rfl⟩⟩
  · obtain ⟨T, hT⟩ : ∃ T, tyT t = T := ⟨_, rfl⟩
    obtain ⟨p, hp⟩ : ∃ p, payT t = p := ⟨_, rfl⟩
    rw [hT, hp]
    have HTp := Lib.hid (And.intro hT hp)
    clear hT hp
    by_cases hjN : j = s.size
    · have HV := Lib.hid (show readL n (40 :: s.toList.drop k) = none by rw [bytes_end s j (by omega)] at hyes; exact readL_open_end n _ t hyes)
      have hR2 : Rdr w1 B n s (s.size : Int) := by rw [← hjN]; exact hR1
      clear hyes hj1 hj2 hR1 hjN
      go_wp2_with fail
      refine (HN.out _ hR2).mono ?_
      rintro e w2 ⟨rfl, hA2, hR3⟩
      go_wp2_with fail
      refine (HMid.out 0 _).mono ?_
      rintro e w3 ⟨rfl, rfl⟩
      have hm : Lib.indexByte [43, 38, 46] 0 = -1 := rfl
      rw [hm]
      go_wp2_with fail
      refine (HWr.out _ _ hR3).mono ?_
      rintro e w3 ⟨⟨i, rfl⟩, rfl⟩
      go_wp2
      go_ret2
      exact ⟨aside_trans hA1 hA2, .inl ⟨HV.out, i, rfl⟩⟩
    · obtain ⟨m, hd, hidx⟩ := index_str s j (by omega)
      rw [hd] at hyes
      have HS1 := Lib.hid (sign_yes n B j s w1 (by omega) H60.out m hidx hR1)
      have HMm := Lib.hid (fun W => HMid.out m W)
      have HYes := Lib.hid hyes
      have HJ : Hid (k < j ∧ j < s.size) := Lib.hid (by omega)
      clear hyes hj1 hj2 hR1 hjN hd hidx HMid
      cases hm : isMid m
      · have HV := Lib.hid (readL_open_mid n _ t m _ HYes.out hm)
        have hin : Lib.indexByte [43, 38, 46] m = -1 := by
          unfold isMid at hm
          rw [Bool.or_eq_false_iff, Bool.or_eq_false_iff, beq_eq_false_iff_ne, beq_eq_false_iff_ne, beq_eq_false_iff_ne] at hm
          simp [Lib.indexByte, Ne.symm hm.1.1, Ne.symm hm.1.2, Ne.symm hm.2]
        rw [hin] at HMm
        clear hm hin HYes
        generalize m.toNat = y at *
        go_wp2_with fail
        refine HS1.out.mono ?_
        rintro e w2 ⟨rfl, hA2, hR3⟩
        go_wp2_with fail
        refine (HMm.out _).mono ?_
        rintro e w3 ⟨rfl, rfl⟩
        go_wp2_with fail
        refine (HWr.out _ _ hR3).mono ?_
        rintro e w3 ⟨⟨i, rfl⟩, rfl⟩
        go_wp2
        go_ret2
        exact ⟨aside_trans hA1 hA2, .inl ⟨HV.out, i, rfl⟩⟩
      · have HTwo := Lib.hid (readL_open_two n _ t m _ HYes.out hm)
        have hin : ∃ z : Nat, Lib.indexByte [43, 38, 46] m = (z : Int) := by
          unfold isMid at hm
          rw [Bool.or_eq_true, Bool.or_eq_true, beq_iff_eq, beq_iff_eq, beq_iff_eq] at hm
          rcases hm with (rfl | rfl) | rfl
          · exact ⟨0, rfl⟩
          · exact ⟨1, rfl⟩
          · exact ⟨2, rfl⟩
        obtain ⟨z, hz⟩ := hin
        rw [hz] at HMm
        have g1 : decide ((z : Int) < 0) = false := decide_eq_false (by omega)
        have g2 : ¬ (z : Int) < 0 := by omega
        have HE : Hid (∀ t5 T5 p5, tyT t5 = T5 → payT t5 = p5 → Ending.returned (.tuple #[.iface 111 (.agg #[.int .u8 (m.toNat : Int), .iface T p, .iface T5 p5]), .nilIface]) = .returned (.tuple #[.iface (tyT (.two m t t5)) (payT (.two m t t5)), .nilIface])) := Lib.hid (fun t5 T5 p5 e1 e2 => by
          obtain ⟨e3, e4⟩ := HTp.out
          subst e1 e2 e3 e4
          rfl)
        clear hm hz HYes
        generalize m.toNat = y at *
        go_wp2_with fail
        refine HS1.out.mono ?_
        rintro e w2 ⟨rfl, hA2, hR3⟩
        have hA12 := aside_trans hA1 hA2
        go_wp2_with fail
        refine (HMm.out _).mono ?_
        rintro e w3 ⟨rfl, rfl⟩
        go_wp2_with fail
        refine (HIH.out (j + 1) (by have := HJ.out; omega) (by have := HJ.out; omega) _ hR3).mono ?_
        rintro e w4 ⟨hA4, ⟨hno, i, rfl⟩ | ⟨t5, i, hyes5, hi1, hi2, rfl, hR4⟩⟩
        · have HV : Hid (readL n (40 :: s.toList.drop k) = none) := Lib.hid (by rw [HTwo.out, hno])
          clear hno HTwo
          go_wp2
          go_ret2
          exact ⟨aside_trans hA12 hA4, .inl ⟨HV.out, i, rfl⟩⟩
        · have hA14 := aside_trans hA12 hA4
          obtain ⟨T5, hT5⟩ : ∃ T, tyT t5 = T := ⟨_, rfl⟩
          obtain ⟨p5, hp5⟩ : ∃ p, payT t5 = p := ⟨_, rfl⟩
          have HE2 := Lib.hid (HE.out t5 T5 p5 hT5 hp5)
          rw [hT5, hp5]
          clear hT5 hp5 HE
          by_cases hiN : i = s.size
          · have HV : Hid (readL n (40 :: s.toList.drop k) = none) := Lib.hid (by rw [HTwo.out]; rw [bytes_end s i (by omega)] at hyes5; rw [hyes5])
            have hR5 : Rdr w4 B n s (s.size : Int) := by rw [← hiN]; exact hR4
            clear hyes5 hi1 hi2 hR4 hiN HTwo
            go_wp2_with fail
            refine (HN.out _ hR5).mono ?_
            rintro e w5 ⟨rfl, hA5, hR6⟩
            go_wp2_with fail
            refine (HWr.out _ _ hR6).mono ?_
            rintro e w6 ⟨⟨o, rfl⟩, rfl⟩
            go_wp2
            go_ret2
            exact ⟨aside_trans hA14 hA5, .inl ⟨HV.out, o, rfl⟩⟩
          · obtain ⟨q, hdq, hiqx⟩ := index_str s i (by omega)
            rw [hdq] at hyes5
            have HS2 := Lib.hid (sign_yes n B i s w4 (by omega) H60.out q hiqx hR4)
            have HI2 : Hid (j + 1 < i ∧ i < s.size) := Lib.hid (by omega)
            clear hi1 hi2 hR4 hiN hdq hiqx
            by_cases hq : q = 41
            · subst hq
              have HV : Hid (readL n (40 :: s.toList.drop k) = some (.two m t t5, s.toList.drop (i + 1))) := Lib.hid (by rw [HTwo.out, hyes5]; exact if_pos rfl)
              have hq' : (((41 : UInt8).toNat : Nat) : Int) = 41 := rfl
              rw [hq'] at HS2
              clear hyes5 HTwo hq'
              go_wp2_with fail
              refine HS2.out.mono ?_
              rintro e w5 ⟨rfl, hA5, hR6⟩
              go_wp2
              go_ret2
              exact ⟨aside_trans hA14 hA5, .inr ⟨_, i + 1, HV.out, by have := HI2.out; have := HJ.out; omega, by have := HI2.out; omega, HE2.out, hR6⟩⟩
            · have HV : Hid (readL n (40 :: s.toList.drop k) = none) := Lib.hid (by rw [HTwo.out, hyes5]; exact if_neg hq)
              have hq2 : q.toNat ≠ 41 := fun e => hq ((show q = UInt8.ofNat 41 from by rw [← e, UInt8.ofNat_toNat]))
              clear hyes5 HTwo hq
              generalize q.toNat = o at *
              have d1 : ((o : Int) != 41) = true := by simp; omega
              have d2 : ((o : Int) == 41) = false := by simp; omega
              clear hq2
              go_wp2_with fail
              refine HS2.out.mono ?_
              rintro e w5 ⟨rfl, hA5, hR6⟩
              go_wp2_with fail
              refine (HWr.out _ _ hR6).mono ?_
              rintro e w6 ⟨⟨x, rfl⟩, rfl⟩
              go_wp2
              go_ret2
              exact ⟨aside_trans hA14 hA5, .inl ⟨HV.out, x, rfl⟩⟩
end Go.Proofs.YtecjhkpldcmlaaaDoor
