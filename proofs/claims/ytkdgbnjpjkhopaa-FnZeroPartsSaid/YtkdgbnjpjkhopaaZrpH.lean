/- Rows, the program's side: the most parts, and the functions that others call. Written by gen114.py. -/
import Derived.Test.YtkdgbnjpjkhopaaZrpG
import Derived.Test.YtkdgbnjpjkhopaaZerX
namespace Go.Proofs.Ytkdgbnjpjkhopaa
open Go.RowKit Go.Shelf
set_option linter.unusedVariables false
theorem Try.zsAlso : Try.prog.underlying 43 = some (.slice (Try.prog.elem 43)) ∧ Try.prog.elem 43 = 45 := ⟨by kernel_rfl, by kernel_rfl⟩
theorem drop_at (zs : List Int) (k : Nat) (h : k < zs.length) : zs.drop k = zs.getD k 0 :: zs.drop (k + 1) := by
  rw [List.drop_eq_getElem_cons h, List.getD_eq_getElem?_getD, List.getElem?_eq_getElem h]; rfl
theorem getD_drop (zs : List Int) (k i : Nat) : (zs.drop k).getD i 0 = zs.getD (k + i) 0 := by
  rw [List.getD_eq_getElem?_getD, List.getElem?_drop, List.getD_eq_getElem?_getD]
theorem mA_step (zs : List Int) (t k m : Nat) (hk : k < zs.length) (h : Nat.max m (mA (zs.drop k) t) = mA zs t) :
    Nat.max (Nat.max m (if Nat.beq ((zs.getD k 0).toNat &&& t) 0 then 1 + mA (zs.drop (k + 1)) (t ||| (zs.getD k 0).toNat) else 0)) (mA (zs.drop (k + 1)) t) = mA zs t := by
  rw [← h, drop_at zs k hk]
  show _ = Nat.max m (Nat.max _ _)
  exact Nat.max_assoc _ _ _
set_option maxHeartbeats 4000000 in
theorem mostApart_any (L : Nat) : ∀ (zs : List Int) (A : Option Addr) (cap t : Nat) (w : World), zs.length = L → L ≤ cap → L ≤ 5000 → t < 4096 → (0 < L → ∃ g off, A = some ⟨g, off, none⟩ ∧ ∀ i, i < L → w.cell? ⟨g, off + i, none⟩ = some (.int .i64 (zs.getD i 0))) → (∀ i, i < L → ∃ d : Nat, zs.getD i 0 = (d : Int) ∧ d < 4096) →
    Calls Try.prog 38 #[.slice A L cap, .int .i64 ((t : Nat) : Int)] w fun e w' => e = .returned (.int .i64 ((mA zs t : Nat) : Int)) ∧ w = w' := by
  induction L using Nat.strongRecOn with
  | ind L ih =>
  intro zs A cap t w hL hlc hl5 ht hA hz
  have HR : Hid (∀ (k d : Nat) (A' : Option Addr), k < L → d < 4096 → (0 < L - (k + 1) → ∃ g off, A' = some ⟨g, off, none⟩ ∧ ∀ i, i < L - (k + 1) → w.cell? ⟨g, off + i, none⟩ = some (.int .i64 ((zs.drop (k + 1)).getD i 0))) →
      Calls Try.prog 38 #[.slice A' (L - (k + 1)) (cap - (k + 1)), .int .i64 ((t ||| d : Nat) : Int)] w fun e w' => e = .returned (.int .i64 ((mA (zs.drop (k + 1)) (t ||| d) : Nat) : Int)) ∧ w = w') := Lib.hid (fun k d A' hk hd hA' =>
    ih (L - (k + 1)) (by omega) (zs.drop (k + 1)) A' (cap - (k + 1)) (t ||| d) w (by rw [List.length_drop]; omega) (by omega) (by omega) (Nat.or_lt_two_pow (n := 12) ht hd) hA' (fun i hi => by rw [getD_drop]; exact hz _ (by omega)))
  have HA := Lib.hid hA
  have HZ := Lib.hid hz
  have HL := Lib.hid hL
  have HSt := Lib.hid (fun k m hk h => mA_step zs t k m hk h)
  have HLe := Lib.hid (fun k u => mA_le (zs.drop k) u)
  have HEnd : Hid (∀ m, Nat.max m (mA (zs.drop L) t) = mA zs t → m = mA zs t) := Lib.hid (fun m h => by
    rw [List.drop_of_length_le (by omega)] at h
    exact (Nat.max_eq_left (Nat.zero_le m)).symm.trans h)
  have H0 : Hid (Nat.max 0 (mA (zs.drop 0) t) = mA zs t) := Lib.hid (Nat.max_eq_right (Nat.zero_le _))
  have HLt : Hid (mA zs t ≤ L) := Lib.hid (by rw [← hL]; exact mA_le zs t)
  clear hA hz hL ih
  obtain ⟨V, hV⟩ : ∃ V, mA zs t = V := ⟨_, rfl⟩
  rw [hV] at HSt HEnd H0 HLt ⊢
  clear hV
  go_enter Try.func38, Try.ntmps38
  go_wp2
  go_loopw [5, 6, 7, 10] (fun u v6 v7 v wr => ∃ k m : Nat, k ≤ L ∧ v = .int .i64 (k : Int) ∧ u = .int .i64 (m : Int) ∧ m ≤ 5000 ∧ w = wr ∧ Hid (Nat.max m (mA (zs.drop k) t) = V)) (fun _ _ _ v _ => L - (intOf v).toNat)
  case atStart => exact ⟨0, 0, Nat.zero_le _, rfl, rfl, Nat.zero_le _, rfl, H0⟩
  case round =>
    obtain ⟨k, m, hk, rfl, rfl, hm, hw, HM⟩ := hrel
    subst hw
    by_cases hlt : k < L
    · obtain ⟨g, off, rfl, hcell⟩ := HA.out (by omega)
      have c1 := hcell k hlt
      obtain ⟨d, hd, hd2⟩ := HZ.out k hlt
      have HSk := HSt.out k m (by rw [HL.out]; exact hlt) HM.out
      rw [hd] at c1 HSk
      have i1 : (0 : Int) ≤ (k : Int) := by omega
      have i2 : (k : Int) < (L : Int) := by omega
      have i3 : (k : Int) + 1 ≤ (L : Int) := by omega
      have i4 : (0 : Int) ≤ (k : Int) + 1 := by omega
      have hwk : IntKind.i64.wrap ((k : Int) + 1) = ((k + 1 : Nat) : Int) := by rw [IntWalk.i64_in _ ⟨by omega, by omega⟩]; rfl
      have han := and_nat d t (by omega) (by omega)
      have hor := or_nat t d (by omega) (by omega)
      have hto : ((d : Nat) : Int).toNat = d := Int.toNat_natCast d
      rw [hto] at HSk
      cases hb : Nat.beq (d &&& t) 0
      · rw [hb, if_neg (by simp)] at HSk
        have HM2 : Hid (Nat.max m (mA (zs.drop (k + 1)) t) = V) := Lib.hid (by rw [← HSk]; exact (congrArg (fun x => Nat.max x _) (Nat.max_eq_left (Nat.zero_le m)).symm))
        have e1 : (((d &&& t : Nat) : Int) == 0) = false := by
          have hne : d &&& t ≠ 0 := fun h => by rw [h] at hb; cases hb
          rw [beq_eq_false_iff_ne]; omega
        clear HSk hb hd hcell hto HSt
        generalize d &&& t = x at *
        go_wp2
        go_roundw
        case rel => exact ⟨k + 1, m, by omega, by go_num, rfl, hm, by first | rfl | trivial, HM2⟩
        case measure => simp [intOf]; omega
      · rw [hb, if_pos rfl] at HSk
        have e1 : (((d &&& t : Nat) : Int) == 0) = true := by
          have hne : d &&& t = 0 := Nat.eq_of_beq_eq_true hb
          rw [hne]; rfl
        have hle := HLe.out (k + 1) (t ||| d)
        have hle2 : mA (zs.drop (k + 1)) (t ||| d) ≤ 5000 := by
          have hdl : (zs.drop (k + 1)).length ≤ 5000 := by rw [List.length_drop, HL.out]; omega
          omega
        have hmo : Nat.max m (1 + mA (zs.drop (k + 1)) (t ||| d)) ≤ 5000 := Nat.max_le.2 ⟨hm, by
          have hdl : (zs.drop (k + 1)).length ≤ 4999 := by rw [List.length_drop, HL.out]; omega
          omega⟩
        have HM2 : Hid (Nat.max (Nat.max m (1 + mA (zs.drop (k + 1)) (t ||| d))) (mA (zs.drop (k + 1)) t) = V) := Lib.hid HSk
        have HA' : Hid (0 < L - (k + 1) → ∃ g9 off9, (some ⟨g, off + (k + 1), none⟩ : Option Addr) = some ⟨g9, off9, none⟩ ∧ ∀ i, i < L - (k + 1) → w.cell? ⟨g9, off9 + i, none⟩ = some (.int .i64 ((zs.drop (k + 1)).getD i 0))) :=
          Lib.hid (fun _ => ⟨g, off + (k + 1), rfl, fun i hi => by rw [getD_drop, Nat.add_assoc]; exact hcell (k + 1 + i) (by omega)⟩)
        have HRa := Lib.hid (HR.out k d (some ⟨g, off + (k + 1), none⟩) hlt hd2 HA'.out)
        have HRb : Hid (cap = k + 1 → Calls Try.prog 38 #[.slice (some ⟨g, off, none⟩) (L - (k + 1)) (cap - (k + 1)), .int .i64 ((t ||| d : Nat) : Int)] w fun e w' => e = .returned (.int .i64 ((mA (zs.drop (k + 1)) (t ||| d) : Nat) : Int)) ∧ w = w') := Lib.hid (fun hck => HR.out k d (some ⟨g, off, none⟩) hlt hd2 (fun hp => by omega))
        clear HSk hb hd hcell hto HSt hle hle2 HR HA' HA
        generalize mA (zs.drop (k + 1)) (t ||| d) = r at *
        generalize d &&& t = x at *
        have hr5 : r ≤ 5000 := Nat.le_trans (Nat.le_trans (Nat.le_add_left r 1) (Nat.le_max_right m (1 + r))) hmo
        have hwr : IntKind.i64.wrap (1 + (r : Int)) = ((1 + r : Nat) : Int) := by rw [IntWalk.i64_in _ ⟨by omega, by omega⟩]; omega
        by_cases hgt : m < 1 + r
        · have g1 : ((1 + r : Nat) : Int) > (m : Int) := by omega
          have g2 : (m : Int) < ((1 + r : Nat) : Int) := by omega
          have hmax : Nat.max m (1 + r) = 1 + r := Nat.max_eq_right (by omega)
          rw [hmax] at HM2 hmo
          clear hmax hgt
          have HQ : Hid (1 + r ≤ 5000) := Lib.hid hmo
          obtain ⟨r1, hr1⟩ : ∃ r1, 1 + r = r1 := ⟨_, rfl⟩
          rw [hr1] at hwr g1 g2 HM2 HQ
          clear hr1 hmo
          by_cases hck : cap = k + 1
          · have HX := Lib.hid (HRb.out hck)
            have hce : (cap = k + 1) = True := eq_true hck
            clear HRa HRb hck
            go_wp2_with (go_at_call 38; refine HX.out.mono ?_; rintro e w2 ⟨rfl, rfl⟩)
            go_roundw
            case rel => exact ⟨k + 1, r1, by omega, by go_num, rfl, HQ.out, by first | rfl | trivial, HM2⟩
            case measure => simp [intOf]; omega
          · clear HRb
            go_wp2_with (go_at_call 38; refine HRa.out.mono ?_; rintro e w2 ⟨rfl, rfl⟩)
            go_roundw
            case rel => exact ⟨k + 1, r1, by omega, by go_num, rfl, HQ.out, by first | rfl | trivial, HM2⟩
            case measure => simp [intOf]; omega
        · have g1 : ¬ ((1 + r : Nat) : Int) > (m : Int) := by omega
          have g2 : ¬ (m : Int) < ((1 + r : Nat) : Int) := by omega
          have hmax : Nat.max m (1 + r) = m := Nat.max_eq_left (by omega)
          rw [hmax] at HM2
          clear hmax hgt hmo
          obtain ⟨r1, hr1⟩ : ∃ r1, 1 + r = r1 := ⟨_, rfl⟩
          rw [hr1] at hwr g1 g2
          clear hr1
          by_cases hck : cap = k + 1
          · have HX := Lib.hid (HRb.out hck)
            have hce : (cap = k + 1) = True := eq_true hck
            clear HRa HRb hck
            go_wp2_with (go_at_call 38; refine HX.out.mono ?_; rintro e w2 ⟨rfl, rfl⟩)
            go_roundw
            case rel => exact ⟨k + 1, m, by omega, by go_num, rfl, hm, by first | rfl | trivial, HM2⟩
            case measure => simp [intOf]; omega
          · clear HRb
            go_wp2_with (go_at_call 38; refine HRa.out.mono ?_; rintro e w2 ⟨rfl, rfl⟩)
            go_roundw
            case rel => exact ⟨k + 1, m, by omega, by go_num, rfl, hm, by first | rfl | trivial, HM2⟩
            case measure => simp [intOf]; omega
    · obtain rfl : k = L := by omega
      have HE := Lib.hid (HEnd.out m HM.out)
      have k1 : ¬ ((k : Int) < (k : Int)) := by omega
      clear hlt
      go_wp2
      go_ret
      exact ⟨ret_int (congrArg Nat.cast HE.out), by first | rfl | trivial⟩
set_option maxHeartbeats 1000000 in
theorem mostZeros_any (n g L cap : Nat) (xs : List Int) (w : World) (h1 : 1 ≤ n) (h2 : n ≤ 12) (hL : L ≤ 12) (hlc : L ≤ cap) (hx : ∀ i, i < xs.length → 0 ≤ xs.getD i 0 ∧ xs.getD i 0 < (n:Int)) (hS : Shows w g L xs) :
    Calls Try.prog 26 #[.agg #[.int .i64 (n:Int), .slice (some ⟨g, 0, none⟩) L cap]] w fun e w' => e = .returned (.int .i64 ((partsZ n (rowZ xs) xs.length : Nat) : Int)) ∧ Below w.heap.size w w' := by
  have hp := pow_le L hL
  have hxl := hS.size
  have hD := Duo.new w 40 (.int .i64 (n:Int)) (.slice (some ⟨g, 0, none⟩) L cap)
  have q0 := hD.cell0
  have q1 := hD.cell1
  have hB0 := (Below.refl _ w).alloc (Nat.le_refl _) (.cells #[.int .i64 (n:Int), .slice (some ⟨g, 0, none⟩) L cap] 40)
  have HB1 := Lib.hid hB0
  have HC := Lib.hid (leastZeros_any n g L cap xs (w.alloc (.cells #[.int .i64 (n:Int), .slice (some ⟨g, 0, none⟩) L cap] 40)) h1 h2 hL hlc hx (hS.belowAll hB0))
  have HE := Lib.hid (mA_least n (rowZ xs) xs.length)
  have HM : Hid (∀ i, i < (leastL n (rowZ xs) xs.length).length → ∃ d : Nat, (leastL n (rowZ xs) xs.length).getD i 0 = (d : Int) ∧ d < 4096) := Lib.hid (fun i hi => by
    obtain ⟨x, e, hx1, _⟩ := pick_at _ _ i hi
    exact ⟨x, e, Nat.lt_of_lt_of_le hx1 (by rw [hxl]; exact hp)⟩)
  have HLe : Hid ((leastL n (rowZ xs) xs.length).length ≤ 4096) := Lib.hid (Nat.le_trans (pick_len _ _) (by rw [hxl]; exact hp))
  clear hD hB0 hx hS
  generalize partsZ n (rowZ xs) xs.length = V at *
  generalize leastL n (rowZ xs) xs.length = zs at *
  go_enter Try.func26, Try.ntmps26
  go_wp2_with fail
  refine HC.out.mono ?_
  rintro e w2 ⟨v, rfl, hb2, hI2⟩
  have HB2 := Lib.hid (HB1.out.trans (hb2.mono HB1.out.size))
  obtain ⟨A, cp, rfl, hA2⟩ := hI2.slice
  have hcp : zs.length ≤ cp := by
    rcases hI2.2 with ⟨hv, h0⟩ | ⟨g9, cap9, cur, hv, _, _, hle, _⟩
    · omega
    · cases hv; exact hle
  have HP := Lib.hid (mostApart_any zs.length zs A cp 0 w2 rfl hcp (Nat.le_trans HLe.out (by omega)) (by omega) (fun hp9 => by
    obtain ⟨g9, rfl, hcell⟩ := hA2 hp9
    exact ⟨g9, 0, rfl, fun i hi => by rw [Nat.zero_add]; exact hcell i hi⟩) HM.out)
  clear hb2 hI2 hA2 hcp
  go_wp2_with fail
  refine HP.out.mono ?_
  rintro e w3 ⟨rfl, rfl⟩
  go_wp2
  go_ret
  exact ⟨ret_int (congrArg Nat.cast HE.out), HB2.out⟩
theorem ints_lies {W : World} {b : Nat} {v : Value} {xs : List Int} (h : IsInts W b v xs) : ∃ A cap, v = .slice A xs.length cap ∧ (0 < xs.length → ∃ g, A = some ⟨g, 0, none⟩ ∧ Shows W g xs.length xs) := by
  rcases h.shape with ⟨rfl, rfl⟩ | ⟨g, cap, rfl, _, _, _⟩
  · exact ⟨none, 0, rfl, fun hp => absurd hp (Nat.lt_irrefl _)⟩
  · exact ⟨_, cap, rfl, fun _ => ⟨g, rfl, shows_of h⟩⟩
theorem no_ZeroPlain : NoZeroPlain := by
  intro n sv xs b W h hl hI
  have HO := Lib.hid (rowOf_no n 12 sv xs b W (fun hh => h hh) hl (by omega) hI)
  clear h hI
  go_enter Try.func12, Try.ntmps12
  go_wp2_with fail
  refine HO.out.mono ?_
  rintro e w1 ⟨rfl, hb1⟩
  have HB := Lib.hid (hb1.alloc hb1.size (.cells #[.int .i64 0, .slice none 0 0] 40))
  clear hb1
  go_wp2
  go_ret
  exact ⟨rfl, HB.out⟩
theorem no_ZeroParts : NoZeroParts := by
  intro n sv xs b W h hl hI
  have HO := Lib.hid (rowOf_no n 8 sv xs b W (fun hh => h ⟨⟨hh.1, by omega, hh.2.2⟩, hh.2.1⟩) hl (by omega) hI)
  clear h hI
  go_enter Try.func14, Try.ntmps14
  go_wp2_with fail
  refine HO.out.mono ?_
  rintro e w1 ⟨rfl, hb1⟩
  have HB := Lib.hid (hb1.alloc hb1.size (.cells #[.int .i64 0, .slice none 0 0] 40))
  clear hb1
  go_wp2
  go_ret2
  exact ⟨rfl, HB.out⟩
theorem no_ZeroLeast : NoZeroLeast := by
  intro n sv xs b W h hl hI
  have HO := Lib.hid (rowOf_no n 8 sv xs b W (fun hh => h ⟨⟨hh.1, by omega, hh.2.2⟩, hh.2.1⟩) hl (by omega) hI)
  clear h hI
  go_enter Try.func8, Try.ntmps8
  go_wp2_with fail
  refine HO.out.mono ?_
  rintro e w1 ⟨rfl, hb1⟩
  have HB := Lib.hid (hb1.alloc hb1.size (.cells #[.int .i64 0, .slice none 0 0] 40))
  clear hb1
  go_wp2
  go_ret2
  exact ⟨_, rfl, HB.out, isInts_nil _ _⟩
set_option maxHeartbeats 1000000 in
theorem yes_ZeroPlain : YesZeroPlain := by
  intro n sv xs b W h hI
  obtain ⟨hn, hl, hx⟩ := h
  have h1 : 1 ≤ n := by omega
  have h2 : n ≤ 12 := by omega
  obtain ⟨A, cap, rfl, hA⟩ := ints_lies hI
  have HO := Lib.hid (rowOf_yes n 12 xs.length cap A xs W h1 h2 rfl hl (by omega) hx hA)
  clear hA hI
  have HE : Hid ((!decide (firstP (zq n xs) (2 ^ xs.length) ≠ 0)) = plainB n (rowZ xs) xs.length) := Lib.hid (by
    rw [first_zq]
    unfold plainB
    cases hb : Nat.beq (zfirst n (rowZ xs) xs.length) 0
    · have h9 : zfirst n (rowZ xs) xs.length ≠ 0 := fun h => by rw [h] at hb; cases hb
      rw [decide_eq_true h9]; rfl
    · have h9 : zfirst n (rowZ xs) xs.length = 0 := Nat.eq_of_beq_eq_true hb
      rw [decide_eq_false (fun h => h h9)]; rfl)
  obtain ⟨V, hV⟩ : ∃ V, plainB n (rowZ xs) xs.length = V := ⟨_, rfl⟩
  rw [hV] at HE ⊢
  clear hV
  go_enter Try.func12, Try.ntmps12
  go_wp2_with fail
  refine HO.out.mono ?_
  rintro e w1 ⟨g, rfl, hb1, hI1⟩
  have hD := Duo.new w1 40 (.int .i64 (n:Int)) (.slice (some ⟨g, 0, none⟩) xs.length xs.length)
  have q0 := hD.cell0
  have q1 := hD.cell1
  have HB1 := Lib.hid (hb1.alloc hb1.size (.cells #[.int .i64 (n:Int), .slice (some ⟨g, 0, none⟩) xs.length xs.length] 40))
  have HC := Lib.hid (isPlain_any n g xs.length xs.length xs (w1.alloc (.cells #[.int .i64 (n:Int), .slice (some ⟨g, 0, none⟩) xs.length xs.length] 40)) h1 h2 hl (Nat.le_refl _) hx ((shows_of hI1).belowAll ((Below.refl _ _).alloc (Nat.le_refl _) _)))
  clear hD hb1 hI1 hx
  rw [HE.out] at HC
  go_wp2_with fail
  refine HC.out.mono ?_
  rintro e w2 ⟨rfl, hb2⟩
  have HB2 := Lib.hid (HB1.out.trans (hb2.mono HB1.out.size))
  clear hb2
  go_wp2
  go_ret
  exact ⟨rfl, HB2.out⟩
set_option maxHeartbeats 1000000 in
theorem yes_ZeroParts : YesZeroParts := by
  intro n sv xs b W h hl8 hI
  obtain ⟨hn, hl, hx⟩ := h
  have h1 : 1 ≤ n := by omega
  have h2 : n ≤ 12 := by omega
  obtain ⟨A, cap, rfl, hA⟩ := ints_lies hI
  have HO := Lib.hid (rowOf_yes n 8 xs.length cap A xs W h1 h2 rfl hl8 (by omega) hx hA)
  clear hA hI
  go_enter Try.func14, Try.ntmps14
  go_wp2_with fail
  refine HO.out.mono ?_
  rintro e w1 ⟨g, rfl, hb1, hI1⟩
  have hD := Duo.new w1 40 (.int .i64 (n:Int)) (.slice (some ⟨g, 0, none⟩) xs.length xs.length)
  have q0 := hD.cell0
  have q1 := hD.cell1
  have HB1 := Lib.hid (hb1.alloc hb1.size (.cells #[.int .i64 (n:Int), .slice (some ⟨g, 0, none⟩) xs.length xs.length] 40))
  have HC := Lib.hid (mostZeros_any n g xs.length xs.length xs (w1.alloc (.cells #[.int .i64 (n:Int), .slice (some ⟨g, 0, none⟩) xs.length xs.length] 40)) h1 h2 hl (Nat.le_refl _) hx ((shows_of hI1).belowAll ((Below.refl _ _).alloc (Nat.le_refl _) _)))
  clear hD hb1 hI1 hx
  go_wp2_with fail
  refine HC.out.mono ?_
  rintro e w2 ⟨rfl, hb2⟩
  have HB2 := Lib.hid (HB1.out.trans (hb2.mono HB1.out.size))
  clear hb2
  go_wp2
  go_ret2
  exact ⟨rfl, HB2.out⟩
theorem take_next9 (xs : List Int) (i : Nat) (h : i < xs.length) : xs.take (i + 1) = xs.take i ++ [xs.getD i 0] := by
  rw [List.take_add_one, List.getElem?_eq_getElem h, List.getD_eq_getElem?_getD, List.getElem?_eq_getElem h]; rfl
set_option maxHeartbeats 1000000 in
theorem yes_ZeroLeast : YesZeroLeast := by
  intro n sv xs b W h hl8 hI
  obtain ⟨hn, hl, hx⟩ := h
  have h1 : 1 ≤ n := by omega
  have h2 : n ≤ 12 := by omega
  obtain ⟨A, cap, rfl, hA⟩ := ints_lies hI
  have HO := Lib.hid (rowOf_yes n 8 xs.length cap A xs W h1 h2 rfl hl8 (by omega) hx hA)
  clear hA hI
  have hp := pow_le xs.length (by omega)
  have hxl : (leastL n (rowZ xs) xs.length).length ≤ 4096 := Nat.le_trans (pick_len _ _) hp
  go_enter Try.func8, Try.ntmps8
  go_wp2_with fail
  refine HO.out.mono ?_
  rintro e w1 ⟨g, rfl, hb1, hI1⟩
  have hD := Duo.new w1 40 (.int .i64 (n:Int)) (.slice (some ⟨g, 0, none⟩) xs.length xs.length)
  have q0 := hD.cell0
  have q1 := hD.cell1
  have HB1 := Lib.hid (hb1.alloc hb1.size (.cells #[.int .i64 (n:Int), .slice (some ⟨g, 0, none⟩) xs.length xs.length] 40))
  have HC := Lib.hid (leastZeros_any n g xs.length xs.length xs (w1.alloc (.cells #[.int .i64 (n:Int), .slice (some ⟨g, 0, none⟩) xs.length xs.length] 40)) h1 h2 hl (Nat.le_refl _) hx ((shows_of hI1).belowAll ((Below.refl _ _).alloc (Nat.le_refl _) _)))
  clear hD hb1 hI1 hx
  generalize leastL n (rowZ xs) xs.length = zs at *
  have HTk := Lib.hid (fun i hi => take_next9 zs i hi)
  have HTe : Hid (zs.take zs.length = zs) := Lib.hid List.take_length
  have HTl : Hid (∀ i, (zs.take i).length ≤ 4096) := Lib.hid (fun i => by rw [List.length_take]; omega)
  go_wp2_with fail
  refine HC.out.mono ?_
  rintro e w2 ⟨sv, rfl, hb2, hI2⟩
  have HB2 := Lib.hid (HB1.out.trans (hb2.mono HB1.out.size))
  have HI2 := Lib.hid (hI2.base (b' := W.heap.size) HB1.out.size)
  obtain ⟨A, cp, rfl, hA2⟩ := hI2.slice
  have HA2 := Lib.hid hA2
  clear hb2 hI2 hA2 q0 q1
  go_wp2
  go_loopw [8, 10, 22] (fun u v10 v wr => ∃ i : Nat, i ≤ zs.length ∧ v = .int .i64 (i : Int) ∧ Hid (Below W.heap.size W wr) ∧ Hid (IsInts wr w2.heap.size u (zs.take i)) ∧ Hid (Below w2.heap.size w2 wr)) (fun _ _ v _ => zs.length - (intOf v).toNat)
  case atStart => exact ⟨0, Nat.zero_le _, rfl, HB2, Lib.hid (isInts_nil _ _), Lib.hid (Below.refl _ _)⟩
  case round =>
    obtain ⟨i, hi, rfl, HB, HO9, HX⟩ := hrel
    by_cases hlt : i < zs.length
    · obtain ⟨g9, rfl, hcell⟩ := HA2.out (by omega)
      have hc2 := hcell i hlt
      have c0 : wr.cell? ⟨g9, i, none⟩ = some (.int .i64 (zs.getD i 0)) := (World.cell?_of_block (a := ⟨g9, i, none⟩) (HX.out.block g9 (World.block_lt_of_cell? _ _ hc2))).trans hc2
      have i1 : (0 : Int) ≤ (i : Int) := by omega
      have i2 : (i : Int) < (zs.length : Int) := by omega
      have hwk : IntKind.i64.wrap ((i : Int) + 1) = ((i + 1 : Nat) : Int) := by rw [IntWalk.i64_in _ ⟨by omega, by omega⟩]; rfl
      have HT1 := Lib.hid (HTk.out i hlt)
      have HL1 := Lib.hid (HTl.out i)
      have HZ3 := Lib.hid HX.out.size
      clear hcell hc2
      generalize zs.getD i 0 = z at *
      go_wp2_with (first | (at_builtin; go_loud (refine wpList_append_ints rfl (.tmp 26) (.tmp 28) rfl u8 (zs.take i) z wr w2.heap.size rfl (by first | rfl | (simp; rfl)) HO9.out (Nat.le_trans HL1.out (by omega)) HZ3.out (fun v' W6 hv6 hk6 hb6 => ?_); have HI6 := Lib.hid hv6; have HB6 := Lib.hid hb6; clear hk6 hb6 hv6)))
      have hB6 := HB6.out w2.heap.size w2 (Nat.le_refl _) HX.out
      go_roundw
      case rel => exact ⟨i + 1, by omega, by go_num, Lib.hid (HB6.out _ _ HB2.out.size HB.out), Lib.hid (by rw [HT1.out]; exact HI6.out), Lib.hid hB6⟩
      case measure => simp [intOf]; omega
    · obtain rfl : i = zs.length := by omega
      have HO2 : Hid (IsInts wr w2.heap.size u8 zs) := Lib.hid (by have h := HO9.out; rw [HTe.out] at h; exact h)
      clear hlt
      go_wp2
      go_ret2
      exact ⟨_, rfl, HB.out, IsInts.base (b := w2.heap.size) HO2.out HB2.out.size⟩
end Go.Proofs.Ytkdgbnjpjkhopaa
