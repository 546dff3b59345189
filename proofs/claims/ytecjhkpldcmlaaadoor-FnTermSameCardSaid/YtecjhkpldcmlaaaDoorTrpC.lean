/- Terms, the program's side: whole texts are read. -/
import Derived.Test.YtecjhkpldcmlaaaDoorTrpB
import Derived.Test.YtecjhkpldcmlaaaDoorErrB
namespace Go.Proofs.YtecjhkpldcmlaaaDoor
open Go.RowKit Go.Shelf
set_option linter.unusedVariables false
attribute [local go_sem] Oper.semAt_some
theorem tyT_place (c : UInt8) (h : c ≠ 101) : tyT (.leaf c) = 109 := if_neg h
theorem payT_place (c : UInt8) (h : c ≠ 101) : payT (.leaf c) = .int .i64 (placeB c) := if_neg h
set_option maxHeartbeats 2000000 in
theorem reads_end (n B : Nat) (s : ByteArray) (h1 : 1 ≤ n) (h2 : n ≤ 12) (h60 : s.size ≤ 60) : Reads n B s s.size := by
  intro w hR
  have HV := Lib.hid (show readL n (s.toList.drop s.size) = none by rw [bytes_end s s.size (Nat.le_refl _)]; rfl)
  have HN := Lib.hid (sign_no n B s w h60 hR)
  have HP := Lib.hid (fun W (h : Rdr W B n s ((s.size : Int) + 1)) => readPlace_any n B _ s 0 W h1 h2 h)
  have hp0 : ¬ (0 ≤ placeB 0 ∧ placeB 0 < (n : Int)) := fun h => absurd h.1 (by decide)
  simp only [if_neg hp0] at HP
  have hc : (((0 : UInt8).toNat : Nat) : Int) = 0 := rfl
  rw [hc] at HP
  clear hR hp0 hc h60
  go_enter Tryd.func81, Tryd.ntmps81
  go_wp2_with fail
  refine HN.out.mono ?_
  rintro e w1 ⟨rfl, hA1, hR1⟩
  go_wp2_with fail
  refine (HP.out _ hR1).mono ?_
  rintro e w2 ⟨⟨j, rfl⟩, rfl⟩
  go_wp2
  go_ret2
  exact ⟨hA1, .inl ⟨HV.out, j, rfl⟩⟩
set_option maxHeartbeats 4000000 in
theorem reads_step (n B k : Nat) (s : ByteArray) (h1 : 1 ≤ n) (h2 : n ≤ 12) (h60 : s.size ≤ 60) (hk : k < s.size) (ih : ∀ j, k < j → j ≤ s.size → Reads n B s j) : Reads n B s k := by
  intro w hR
  obtain ⟨c, hd, hidx⟩ := index_str s k hk
  have HS := Lib.hid (sign_yes n B k s w hk h60 c hidx hR)
  clear hidx hR
  have u : ∀ m : Nat, m < 256 → (c = UInt8.ofNat m ↔ c.toNat = m) := fun m hm => by
    constructor
    · rintro rfl; rw [UInt8.toNat_ofNat']; omega
    · intro e; rw [← e, UInt8.ofNat_toNat]
  by_cases he : c = 101
  · subst he
    have HV := Lib.hid (show readL n (s.toList.drop k) = some (.leaf 101, s.toList.drop (k + 1)) by rw [hd]; exact readL_leaf n 101 _ rfl)
    have hc : (((101 : UInt8).toNat : Nat) : Int) = 101 := rfl
    rw [hc] at HS
    have HK := Lib.hid hk
    clear hc hd hk h60 u
    go_enter Tryd.func81, Tryd.ntmps81
    go_wp2_with fail
    refine HS.out.mono ?_
    rintro e w1 ⟨rfl, hA1, hR1⟩
    go_wp2
    go_ret2
    exact ⟨hA1, .inr ⟨.leaf 101, k + 1, HV.out, by omega, by have := HK.out; omega, rfl, hR1⟩⟩
  · have e0 : c.toNat ≠ 101 := fun e => he ((u 101 (by omega)).2 e)
    by_cases hf : isFront c = true
    · have HV := Lib.hid (show readL n (s.toList.drop k) = (readL n (s.toList.drop (k + 1))).map fun p => (.one c p.1, p.2) by rw [hd]; exact readL_front n c _ hf)
      have HB := Lib.hid (fun W (h : Rdr W B n s ((k : Int) + 1)) => readBehind_any n B (k + 1) s c W hf h (ih (k + 1) (by omega) (by omega)))
      have hx : c.toNat = 33 ∨ c.toNat = 45 := by
        have hf' := hf
        unfold isFront at hf'
        rw [Bool.or_eq_true, beq_iff_eq, beq_iff_eq] at hf'
        rcases hf' with rfl | rfl
        · exact .inl rfl
        · exact .inr rfl
      clear hf hd hk h60 u ih he
      generalize c.toNat = x at *
      have d0 : ((x : Int) == 101) = false := by simp; omega
      rcases hx with rfl | rfl
      all_goals
        clear e0
        go_enter Tryd.func81, Tryd.ntmps81
        go_wp2_with fail
        refine HS.out.mono ?_
        rintro e w1 ⟨rfl, hA1, hR1⟩
        go_wp2_with fail
        refine (HB.out _ hR1).mono ?_
        rintro e w2 ⟨hA2, ⟨hno, j, rfl⟩ | ⟨t, j, hyes, hj1, hj2, rfl, hR2⟩⟩
        · have HV2 : Hid (readL n (s.toList.drop k) = none) := Lib.hid (by rw [HV.out, hno]; rfl)
          clear hno HV
          go_wp2
          go_ret2
          exact ⟨aside_trans hA1 hA2, .inl ⟨HV2.out, j, rfl⟩⟩
        · have HV2 : Hid (readL n (s.toList.drop k) = some (.one c t, s.toList.drop j)) := Lib.hid (by rw [HV.out, hyes]; rfl)
          have HJ : Hid (k < j ∧ j ≤ s.size) := Lib.hid ⟨by omega, hj2⟩
          clear hyes hj1 hj2 HV
          obtain ⟨T, hT⟩ : ∃ T, tyT (.one c t) = T := ⟨_, rfl⟩
          obtain ⟨p, hp⟩ : ∃ p, payT (.one c t) = p := ⟨_, rfl⟩
          have HTp := Lib.hid (And.intro hT hp)
          rw [hT, hp]
          clear hT hp
          go_wp2
          go_ret2
          exact ⟨aside_trans hA1 hA2, .inr ⟨.one c t, j, HV2.out, HJ.out.1, HJ.out.2, by rw [HTp.out.1, HTp.out.2]; rfl, hR2⟩⟩
    · have hf' : isFront c = false := by simpa using hf
      have e1 : c.toNat ≠ 33 := fun e => by rw [(u 33 (by omega)).2 e] at hf'; exact absurd hf' (by decide)
      have e2 : c.toNat ≠ 45 := fun e => by rw [(u 45 (by omega)).2 e] at hf'; exact absurd hf' (by decide)
      by_cases h40 : c = 40
      · subst h40
        have HB := Lib.hid (fun W (h : Rdr W B n s ((k : Int) + 1)) => readPair_any n B (k + 1) s W h1 h2 h60 h (fun j hj hj2 => ih j (by omega) hj2) (by omega))
        rw [← hd] at HB
        have hc : (((40 : UInt8).toNat : Nat) : Int) = 40 := rfl
        rw [hc] at HS
        clear hc hf hf' hd hk h60 u ih he e0 e1 e2
        go_enter Tryd.func81, Tryd.ntmps81
        go_wp2_with fail
        refine HS.out.mono ?_
        rintro e w1 ⟨rfl, hA1, hR1⟩
        go_wp2_with fail
        refine (HB.out _ hR1).mono ?_
        rintro e w2 ⟨hA2, ⟨hno, j, rfl⟩ | ⟨t, j, hyes, hj1, hj2, rfl, hR2⟩⟩
        · have HV2 := Lib.hid hno
          clear hno
          go_wp2
          go_ret2
          exact ⟨aside_trans hA1 hA2, .inl ⟨HV2.out, j, rfl⟩⟩
        · have HV2 := Lib.hid hyes
          have HJ : Hid (k < j ∧ j ≤ s.size) := Lib.hid ⟨by omega, hj2⟩
          clear hyes hj1 hj2
          obtain ⟨T, hT⟩ : ∃ T, tyT t = T := ⟨_, rfl⟩
          obtain ⟨p, hp⟩ : ∃ p, payT t = p := ⟨_, rfl⟩
          have HTp := Lib.hid (And.intro hT hp)
          rw [hT, hp]
          clear hT hp
          go_wp2
          go_ret2
          exact ⟨aside_trans hA1 hA2, .inr ⟨t, j, HV2.out, HJ.out.1, HJ.out.2, by rw [HTp.out.1, HTp.out.2]; rfl, hR2⟩⟩
      · have e3 : c.toNat ≠ 40 := fun e => h40 ((u 40 (by omega)).2 e)
        have HP := Lib.hid (fun W (h : Rdr W B n s ((k : Int) + 1)) => readPlace_any n B _ s c W h1 h2 h)
        have HK := Lib.hid hk
        by_cases hp : 0 ≤ placeB c ∧ placeB c < (n : Int)
        · have hlf : isLeaf n c = true := by
            unfold isLeaf
            rw [decide_eq_true hp.1, decide_eq_true hp.2, Bool.and_true, Bool.or_true]
          have HV := Lib.hid (show readL n (s.toList.drop k) = some (.leaf c, s.toList.drop (k + 1)) by rw [hd]; exact readL_leaf n c _ hlf)
          simp only [if_pos hp] at HP
          have HE : Hid (Ending.returned (.tuple #[.iface 109 (.int .i64 (placeB c)), .nilIface]) = .returned (.tuple #[.iface (tyT (.leaf c)) (payT (.leaf c)), .nilIface])) := Lib.hid (by
            rw [tyT_place c he, payT_place c he])
          generalize placeB c = pl at *
          clear hp hlf hf hf' hd hk h60 u ih he h40
          generalize c.toNat = x at *
          have d0 : ((x : Int) == 101) = false := by simp; omega
          have d1 : ((x : Int) == 33) = false := by simp; omega
          have d2 : ((x : Int) == 45) = false := by simp; omega
          have d3 : ((x : Int) == 40) = false := by simp; omega
          clear e0 e1 e2 e3
          go_enter Tryd.func81, Tryd.ntmps81
          go_wp2_with fail
          refine HS.out.mono ?_
          rintro e w1 ⟨rfl, hA1, hR1⟩
          go_wp2_with fail
          refine (HP.out _ hR1).mono ?_
          rintro e w2 ⟨rfl, rfl⟩
          go_wp2
          go_ret2
          exact ⟨hA1, .inr ⟨.leaf c, k + 1, HV.out, by omega, by have := HK.out; omega, HE.out, hR1⟩⟩
        · have hlf : isLeaf n c = false := by
            cases h : isLeaf n c
            · rfl
            · unfold isLeaf at h
              rw [Bool.or_eq_true, Bool.and_eq_true, beq_iff_eq, decide_eq_true_eq, decide_eq_true_eq] at h
              exact absurd (h.resolve_left he) hp
          have HV := Lib.hid (show readL n (s.toList.drop k) = none by rw [hd]; exact readL_other n c _ hlf hf' h40)
          simp only [if_neg hp] at HP
          clear hp hlf hf hf' hd hk h60 u ih he h40
          generalize c.toNat = x at *
          have d0 : ((x : Int) == 101) = false := by simp; omega
          have d1 : ((x : Int) == 33) = false := by simp; omega
          have d2 : ((x : Int) == 45) = false := by simp; omega
          have d3 : ((x : Int) == 40) = false := by simp; omega
          clear e0 e1 e2 e3
          go_enter Tryd.func81, Tryd.ntmps81
          go_wp2_with fail
          refine HS.out.mono ?_
          rintro e w1 ⟨rfl, hA1, hR1⟩
          go_wp2_with fail
          refine (HP.out _ hR1).mono ?_
          rintro e w2 ⟨⟨j, rfl⟩, rfl⟩
          go_wp2
          go_ret2
          exact ⟨hA1, .inl ⟨HV.out, j, rfl⟩⟩
theorem reads_any (n B : Nat) (s : ByteArray) (h1 : 1 ≤ n) (h2 : n ≤ 12) (h60 : s.size ≤ 60) (d : Nat) : ∀ k, k ≤ s.size → s.size - k ≤ d → Reads n B s k := by
  induction d with
  | zero => intro k hk hd; obtain rfl : k = s.size := by omega
            exact reads_end n B s h1 h2 h60
  | succ d ih =>
    intro k hk hd
    by_cases hlt : k < s.size
    · exact reads_step n B k s h1 h2 h60 hlt (fun j h3 h4 => ih j h4 (by omega))
    · obtain rfl : k = s.size := by omega
      exact reads_end n B s h1 h2 h60
theorem whole_read (n : Nat) (s : ByteArray) (h1 : 1 ≤ n) (h2 : n ≤ 12) (h60 : s.size ≤ 60) : termO (n : Int) s.toList = match readL n s.toList with | some (t, []) => some t | _ => none := by
  unfold termO
  rw [if_pos ⟨⟨by omega, by omega⟩, by rw [bytes_len]; exact h60⟩, Int.toNat_natCast]
  rfl
theorem whole_out (n : Int) (s : ByteArray) (h : ¬ ((1 ≤ n ∧ n ≤ 12) ∧ s.size ≤ 60)) : termO n s.toList = none := by
  unfold termO
  rw [if_neg (by rw [bytes_len]; exact h)]
theorem Rdr.new (w : World) (n : Nat) (s : ByteArray) (k : Int) : Rdr (w.alloc (.cells #[.int .i64 (n : Int), .string s, .int .i64 k] 113)) w.heap.size n s k := World.alloc_heap_new w _
set_option maxHeartbeats 2000000 in
/-- A whole text is read. -/
theorem wholeTerm_any (n : Nat) (s : ByteArray) (w : World) (h1 : 1 ≤ n) (h2 : n ≤ 12) (hsz : s.size ≤ 1048576) :
    Calls Tryd.prog 63 #[.agg #[.int .i64 (n : Int)], .string s] w fun e w' => Below w.heap.size w w' ∧
      ((termO (n : Int) s.toList = none ∧ ∃ j, e = .returned (.tuple #[.nilIface, .iface 85 (.agg #[.int .i64 j])])) ∨
        ∃ t, termO (n : Int) s.toList = some t ∧ e = .returned (.tuple #[.iface (tyT t) (payT t), .nilIface])) := by
  have es := err_some
  have en := err_none
  obtain ⟨N, hN⟩ : ∃ N, s.size = N := ⟨_, rfl⟩
  have HN := Lib.hid hN
  have hB0 : Below w.heap.size w (w.alloc (.cells #[.int .i64 (n : Int)] 43)) := (Below.refl _ _).alloc (Nat.le_refl _) _
  have c0 := (Boxed.new w 43 (.int .i64 (n : Int))).cell
  by_cases h60 : N ≤ 60
  · have g60 : decide (60 < (N : Int)) = false := decide_eq_false (by omega)
    have g0 : ¬ (60 < (N : Int)) := by omega
    have g61 : ¬ (60 < N) := by omega
    have HT := Lib.hid (whole_read n s h1 h2 (by omega))
    have hR0 := Rdr.new (w.alloc (.cells #[.int .i64 (n : Int)] 43)) n s 0
    have hB1 := hB0.alloc hB0.size (.cells #[.int .i64 (n : Int), .string s, .int .i64 0] 113)
    have HX := Lib.hid (reads_any n (w.alloc (.cells #[.int .i64 (n : Int)] 43)).heap.size s h1 h2 (by omega) N 0 (by omega) (by omega) _ hR0)
    simp only [World.size_alloc] at HX
    clear hsz h60 hR0
    go_enter Tryd.func63, Tryd.ntmps63
    go_wp2_with fail
    refine HX.out.mono ?_
    rintro e w1 ⟨hA, hr⟩
    have hB2 : Below w.heap.size w w1 := hB1.trans (hA.below (Nat.le_succ _) hB1.size)
    rcases hr with ⟨hno, j, rfl⟩ | ⟨t, j, hyes, hj1, hj2, rfl, hR1⟩
    · have HV : Hid (termO (n : Int) s.toList = none) := Lib.hid (by rw [List.drop_zero] at hno; rw [HT.out, hno])
      clear hno HT hA
      go_wp2
      go_ret2
      exact ⟨hB2, .inl ⟨HV.out, j, rfl⟩⟩
    · have c2 := hR1.c2
      rw [List.drop_zero] at hyes
      obtain ⟨T, hT⟩ : ∃ T, tyT t = T := ⟨_, rfl⟩
      obtain ⟨p, hp⟩ : ∃ p, payT t = p := ⟨_, rfl⟩
      have HTp := Lib.hid (And.intro hT hp)
      rw [hT, hp]
      clear hT hp hA
      by_cases hjN : j = N
      · have HV : Hid (termO (n : Int) s.toList = some t) := Lib.hid (by rw [HT.out, hyes, bytes_end s j (by omega)])
        subst hjN
        clear hyes HT hj1 hj2 hR1
        go_wp2
        go_ret2
        exact ⟨hB2, .inr ⟨t, HV.out, by rw [HTp.out.1, HTp.out.2]; rfl⟩⟩
      · have HV : Hid (termO (n : Int) s.toList = none) := Lib.hid (by
          obtain ⟨c, hc, _⟩ := index_str s j (by omega)
          rw [HT.out, hyes, hc])
        have j1 : decide ((j : Int) < (N : Int)) = true := decide_eq_true (by omega)
        have j2 : (j : Int) < (N : Int) := by omega
        have j3 : j < N := by omega
        clear hyes HT hj1 hj2 hR1 hjN
        go_wp2
        go_region
        go_wp2
        go_ret2
        exact ⟨hB2.drew, .inl ⟨HV.out, _, rfl⟩⟩
  · have HV := Lib.hid (whole_out (n : Int) s (by omega))
    have g60 : decide (60 < (N : Int)) = true := decide_eq_true (by omega)
    have g0 : (60 < (N : Int)) := by omega
    have g61 : 60 < N := by omega
    clear hsz h60
    go_enter Tryd.func63, Tryd.ntmps63
    go_wp2
    go_ret2
    exact ⟨hB0, .inl ⟨HV.out, _, rfl⟩⟩
end Go.Proofs.YtecjhkpldcmlaaaDoor
