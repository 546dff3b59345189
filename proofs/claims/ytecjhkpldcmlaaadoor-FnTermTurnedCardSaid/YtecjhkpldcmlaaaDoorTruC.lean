/- Terms: a text's bytes in a block, changed in place; TermTurned by the program. -/
import Derived.Test.YtecjhkpldcmlaaaDoorTruB
import Derived.Test.YtecjhkpldcmlaaaDoorTrpG
import Derived.Lib.ConvBytes
namespace Go.Proofs.YtecjhkpldcmlaaaDoor
open Go.RowKit Go.Shelf
set_option linter.unusedVariables false
attribute [local go_sem] Oper.semAt_some
/-- Bytes in a block, ahead of a mark. -/
def Bts (W : World) (g : Nat) (l : List UInt8) : Prop :=
  ∃ (cs : Array Value) (lo hi : Nat), W.heap[g]? = some (.cells cs 5 (lo, hi)) ∧ l.length ≤ lo ∧ ∀ j, j < l.length → cs[j]? = some (byteV (l.getD j 0))
theorem Bts.cell {W : World} {g : Nat} {l : List UInt8} (h : Bts W g l) (j : Nat) (hj : j < l.length) : W.cell? ⟨g, j, none⟩ = some (byteV (l.getD j 0)) := by
  obtain ⟨cs, lo, hi, h1, h2, h3⟩ := h
  simp [World.cell?, h1, h3 j hj]
theorem Bts.frozen {W : World} {g : Nat} {l : List UInt8} (h : Bts W g l) (j : Nat) (hj : j < l.length) : W.frozen? ⟨g, j, none⟩ = false := by
  obtain ⟨cs, lo, hi, h1, h2, h3⟩ := h
  simp [World.frozen?, h1]
  omega
theorem Bts.below {W W' : World} {g N : Nat} {l : List UInt8} (h : Bts W g l) (hb : Below N W W') (hN : g < N) : Bts W' g l := by
  obtain ⟨cs, lo, hi, h1, h2, h3⟩ := h
  exact ⟨cs, lo, hi, (hb.block g hN).trans h1, h2, h3⟩
theorem Bts.lt {W : World} {g : Nat} {l : List UInt8} (h : Bts W g l) : g < W.heap.size := by
  obtain ⟨cs, lo, hi, h1, h2, h3⟩ := h
  exact (Array.getElem?_eq_some_iff.1 h1).1
theorem Bts.set {W : World} {g : Nat} {l : List UInt8} (h : Bts W g l) (i : Nat) (hi : i < l.length) (c : UInt8) : Bts (W.setCell ⟨g, i, none⟩ (.int .u8 (c.toNat : Int))) g (l.set i c) := by
  obtain ⟨cs, lo, hi', h1, h2, h3⟩ := h
  refine ⟨cs.setIfInBounds i (byteV c), lo, hi', ?_, by rw [List.length_set]; exact h2, fun j hj => ?_⟩
  · simp [World.setCell, Array.getElem?_modify, h1, byteV]
  · rw [List.length_set] at hj
    by_cases e : i = j
    · subst e
      have hc : i < cs.size := by
        have := h3 i hi
        exact (Array.getElem?_eq_some_iff.1 this).1
      rw [Array.getElem?_setIfInBounds_self_of_lt hc, List.getD_eq_getElem?_getD, List.getElem?_set_self hi]; rfl
    · rw [Array.getElem?_setIfInBounds_ne e, h3 j hj, List.getD_eq_getElem?_getD, List.getD_eq_getElem?_getD, List.getElem?_set_ne e]
theorem Bts.new (w : World) (s : ByteArray) : Bts (Lib.bytesWorld w 5 s) w.heap.size s.toList := by
  refine ⟨_, _, _, Lib.bytesWorld_at_new w 5 s, ?_, fun j hj => ?_⟩
  · rw [bytes_len]
    simp [Lib.bytesCells]
  · rw [bytes_len] at hj
    have h := Lib.bytesWorld_cell w 5 s j hj
    simp [World.cell?, Lib.bytesWorld_at_new] at h
    rw [h, ByteArray.toList_eq]
    unfold byteV
    simp [List.getD_eq_getElem?_getD]
theorem bytes_below (w : World) (s : ByteArray) : Below w.heap.size w (Lib.bytesWorld w 5 s) := by
  have h := ((Below.refl w.heap.size w).drew).alloc (Nat.le_refl _) (.cells (Lib.bytesCells w 5 s) 5)
  refine ⟨?_, ?_, ?_, by rw [Lib.bytesWorld_size]; omega, fun k hk => Lib.bytesWorld_at_old w _ s k hk⟩
  · unfold Lib.bytesWorld World.freeze; split <;> exact h.os
  · unfold Lib.bytesWorld World.freeze; split <;> exact h.tape
  · unfold Lib.bytesWorld World.freeze; split <;> exact h.output
/-- Bytes as a text. -/
theorem bts_text (W : World) (g c k : Nat) (l : List UInt8) (hk : l.length = k) (h : Bts W g l) :
    (convert 22 9 (.slice (some ⟨g, 0, none⟩) k c)).run Tryd.prog W = .ok (.string (toB l)) W := by
  subst hk
  rw [run_convert_bytes_string _ _ _ 5 _ _ _ Tryd.underlying22 Tryd.underlying5 Tryd.underlying9]
  rw [run_bytesToString _ _ _ _ (l.map fun c => (c.toNat : Int)) ?_]
  · congr 2
    suffices H : ∀ (l : List UInt8) (a : ByteArray), List.foldl (fun (r : ByteArray) (n : Int) => r.push (UInt8.ofNat n.toNat)) a (l.map fun c => (c.toNat : Int)) = a ++ toB l by
      rw [H]
      apply ByteArray.ext
      simp [toB]
    intro l
    induction l with
    | nil => intro a; apply ByteArray.ext; simp [toB]
    | cons x l ih =>
      intro a
      rw [List.map_cons, List.foldl_cons, ih, Int.toNat_natCast, UInt8.ofNat_toNat]
      apply ByteArray.ext
      simp [toB]
  · have h3 := run_loadCells_list (P := Tryd.prog) (w := W) ⟨g, 0, none⟩ (l.map byteV) (fun j v hj => by
      rw [List.getElem?_map] at hj
      by_cases hl : j < l.length
      · have hc := h.cell j hl
        rw [List.getElem?_eq_getElem hl] at hj
        rw [List.getD_eq_getElem?_getD, List.getElem?_eq_getElem hl] at hc
        have e : v = byteV l[j] := by injection hj with hj; exact hj.symm
        have hadd : (⟨g, 0, none⟩ : Addr).add j = ⟨g, j, none⟩ := by unfold Addr.add; split <;> simp_all
        rw [hadd, hc, e]
        rfl
      · rw [List.getElem?_eq_none (by omega)] at hj; cases hj)
    rw [List.length_map] at h3
    rw [h3, List.map_map]
    rfl
def mixed (m : Nat) (s : ByteArray) (i : Nat) : List UInt8 := turnedTo m s i ++ s.toList.drop i
theorem mixed_len (m : Nat) (s : ByteArray) (i : Nat) (h : i ≤ s.size) : (mixed m s i).length = s.size := by
  unfold mixed
  rw [List.length_append, turnedTo_len m s i h, List.length_drop, bytes_len]; omega
theorem mixed_at (m : Nat) (s : ByteArray) (i : Nat) (c : UInt8) (hi : i < s.size) (h : s.toList.drop i = c :: s.toList.drop (i + 1)) : (mixed m s i).getD i 0 = c := by
  unfold mixed
  rw [List.getD_eq_getElem?_getD, List.getElem?_append_right (by rw [turnedTo_len m s i (by omega)]; omega), turnedTo_len m s i (by omega), Nat.sub_self, h]
  rfl
theorem mixed_step (m : Nat) (s : ByteArray) (i : Nat) (c : UInt8) (hi : i < s.size) (h : s.toList.drop i = c :: s.toList.drop (i + 1)) : mixed m s (i + 1) = (mixed m s i).set i (turnB m c) := by
  unfold mixed
  rw [turnedTo_step m s i c h, h, List.set_append_right _ _ (by rw [turnedTo_len m s i (by omega)]; omega), turnedTo_len m s i (by omega), Nat.sub_self]
  simp
theorem mixed_same (m : Nat) (s : ByteArray) (i : Nat) (c : UInt8) (h : s.toList.drop i = c :: s.toList.drop (i + 1)) (hc : turnB m c = c) : mixed m s (i + 1) = mixed m s i := by
  unfold mixed
  rw [turnedTo_step m s i c h, h, hc]
  simp
theorem mixed_end (m : Nat) (s : ByteArray) : mixed m s s.size = s.toList.map (turnB m) := by
  unfold mixed
  rw [turnedTo_end, List.drop_eq_nil_of_le (by rw [bytes_len]; omega), List.append_nil]
theorem sign_at (k : Nat) (hk : k < 12) (W : World) : (Instr.index 9 (.string ⟨#[48, 49, 50, 51, 52, 53, 54, 55, 56, 57, 120, 121]⟩) (.int .i64 (k : Int))).run Tryd.prog W = .ok (.int .u8 ((signB k).toNat : Int)) W := by
  obtain rfl | rfl | rfl | rfl | rfl | rfl | rfl | rfl | rfl | rfl | rfl | rfl : k = 0 ∨ k = 1 ∨ k = 2 ∨ k = 3 ∨ k = 4 ∨ k = 5 ∨ k = 6 ∨ k = 7 ∨ k = 8 ∨ k = 9 ∨ k = 10 ∨ k = 11 := by omega
  all_goals kernel_rfl
theorem index_signs (c : UInt8) (W : World) : Calls Tryd.prog 58 #[.string ⟨#[48, 49, 50, 51, 52, 53, 54, 55, 56, 57, 120, 121]⟩, .int .u8 (c.toNat : Int)] W fun e w' => e = .returned (.int .i64 (placeB c)) ∧ w' = W := by
  have h := Tryd.strings_IndexByte (toB (signL.take 12)) (c.toNat : Int) W
  rw [byte_u8, show (toB (signL.take 12)).data.toList = signL.take 12 from by simp [toB], place_at 12 c (Nat.le_refl _)] at h
  have e : (if 0 ≤ placeB c ∧ placeB c < ((12 : Nat) : Int) then placeB c else -1) = placeB c := by
    by_cases h0 : 0 ≤ placeB c
    · have := (place_sign c h0).1
      rw [if_pos ⟨h0, by omega⟩]
    · rw [if_neg (fun h => h0 h.1)]
      unfold placeB at h0 ⊢
      split at h0
      · omega
      · split at h0
        · omega
        · split at h0
          · omega
          · rename_i a b cc
            rw [if_neg a, if_neg b, if_neg cc]
  rw [e] at h
  exact h
set_option maxHeartbeats 2000000 in
theorem implTermTurned_any (n : Int) (s : ByteArray) (w : World) (hE : ErrVar w) (hsz : s.size ≤ 1048576) : Calls Tryd.prog 34 #[.int .i64 n, .string s] w fun e w' => e = .returned (.tuple #[.string ((turnX n s).getD ⟨#[]⟩), .bool (turnX n s).isSome]) ∧ Below w.heap.size w w' := by
  have HO := Lib.hid (termOf_any n s w hE hsz)
  clear hE
  go_enter Tryd.func34, Tryd.ntmps34
  go_wp2_with fail
  refine HO.out.mono ?_
  rintro e w1 ⟨hb, ⟨hno, r, rfl⟩ | ⟨t, hyes, rfl⟩⟩
  · have HV := Lib.hid (turnX_no hno)
    clear hno
    go_wp2
    go_ret2
    exact ⟨by rw [HV.out]; rfl, hb.alloc hb.size _⟩
  · have HV := Lib.hid (turnX_yes hyes)
    obtain ⟨m, rfl, h1, h2, ho, hl, e⟩ := termO_ok hyes
    rw [Int.toNat_natCast] at HV
    obtain ⟨N, hN⟩ : ∃ N, s.size = N := ⟨_, rfl⟩
    have hN60 : N ≤ 60 := by rw [← hN, ← bytes_len, e]; exact hl
    have HN := Lib.hid hN
    have HM : Hid (1 ≤ m ∧ m ≤ 12 ∧ N ≤ 60) := Lib.hid ⟨h1, h2, hN60⟩
    have hcv := fun W => Lib.run_convert_string_bytes (P := Tryd.prog) W 9 22 5 s Tryd.underlying9 Tryd.underlying22 Tryd.underlying5
    have hB1 := hb.alloc hb.size (.cells #[.int .i64 (m : Int)] 43)
    have HB1 := Lib.hid hB1
    clear hyes ho hl e hsz hN60 h1 h2 HO hB1 hb
    generalize tyT t = T at *
    generalize payT t = p at *
    go_wp2_with fail
    obtain ⟨W0, hW0⟩ : ∃ W0, w1.alloc (.cells #[.int .i64 (m : Int)] 43) = W0 := ⟨_, rfl⟩
    have hsz0 : W0.heap.size = w1.heap.size + 1 := by rw [← hW0]; simp
    have hr0 : W0.cell? ⟨w1.heap.size, 0, none⟩ = some (.int .i64 (m : Int)) := by rw [← hW0]; simp
    rw [hW0] at HB1 ⊢
    clear hW0 hcv
    have hG := Bts.new W0 s
    have hBW := bytes_below W0 s
    rw [hsz0] at hG hBW
    have hr1 := (hBW.cell (p := ⟨w1.heap.size, 0, none⟩) (Nat.lt_succ_self _)).trans hr0
    have HBW := Lib.hid (HB1.out.trans (hBW.mono (by have := HB1.out.size; omega)))
    have HRG : Hid (w1.heap.size < w1.heap.size + 1 ∧ w.heap.size ≤ w1.heap.size + 1) := Lib.hid ⟨Nat.lt_succ_self _, by have := HB1.out.size; omega⟩
    generalize Lib.bytesWorld W0 5 s = W4 at *
    generalize grownCap W0 N 0 5 = cap at *
    generalize w1.heap.size + 1 = G at *
    generalize w1.heap.size = R at *
    have HG0 : Hid (Bts W4 G (mixed m s 0)) := Lib.hid hG
    have HR1 := Lib.hid hr1
    clear hG hBW hr1 hr0 hsz0 HB1
    go_loopw [10, 11, 12, 26] (fun a b c u wr => ∃ i : Nat, i ≤ N ∧ u = .int .i64 (i : Int) ∧ Hid (Bts wr G (mixed m s i)) ∧ Hid (Below G W4 wr)) (fun _ _ _ u _ => N - (intOf u).toNat)
    case atStart => exact ⟨0, Nat.zero_le _, rfl, HG0, Lib.hid (Below.refl _ _)⟩
    case round =>
      obtain ⟨i, hi, rfl, HG, HB⟩ := hrel
      by_cases hlt : i < N
      · obtain ⟨c, hd, hidx⟩ := index_str s i (by rw [HN.out]; exact hlt)
        have hcl := HG.out.cell i (by rw [mixed_len m s i (by rw [HN.out]; omega), HN.out]; exact hlt)
        have hfz := HG.out.frozen i (by rw [mixed_len m s i (by rw [HN.out]; omega), HN.out]; exact hlt)
        rw [mixed_at m s i c (by rw [HN.out]; exact hlt) hd] at hcl
        have HCl := Lib.hid hcl
        have HFz := Lib.hid hfz
        have hcl2 : wr.cell? ⟨G, i, none⟩ = some (.int .u8 (c.toNat : Int)) := hcl
        have hrc := (HB.out.cell (p := ⟨R, 0, none⟩) HRG.out.1).trans HR1.out
        have HSt := Lib.hid (mixed_step m s i c (by rw [HN.out]; exact hlt) hd)
        have HSa := Lib.hid (fun h => mixed_same m s i c hd h)
        obtain ⟨m1, m2⟩ := mil_up i (by have := HM.out; omega)
        have i0 : (0 : Int) ≤ (i : Int) := by omega
        have i1 : (i : Int) < (N : Int) := by omega
        have HI := Lib.hid (fun W => index_signs c W)
        clear hd hidx hcl hfz
        by_cases hp : 0 ≤ placeB c
        · obtain ⟨p2, hpe, hp12⟩ := place_fit c hp
          rw [turn_is m c p2 hpe] at HSt
          rw [hpe] at HI
          have HR' := fun W => rest_any m (-(p2 : Int)) W HM.out.1 HM.out.2.1 (by omega)
          rw [show rest m (-(p2 : Int)) = neg m p2 from rfl] at HR'
          have HRs := Lib.hid HR'
          have hsg := fun W => sign_at (neg m p2) (by have := neg_lt m p2 HM.out.1; have := HM.out; omega) W
          have HW := Lib.hid (neg_wraps' p2 (by omega))
          obtain ⟨u1, u2⟩ := HW.out
          have q0 : (0 : Int) ≤ (p2 : Int) := by omega
          clear HR' hp hpe HSa
          generalize signB (neg m p2) = r at *
          generalize neg m p2 = k at *
          generalize c.toNat = x at *
          go_wp2_with fail
          refine (HI.out _).mono ?_
          rintro e w2 ⟨rfl, rfl⟩
          go_wp2_with fail
          refine (HRs.out _).mono ?_
          rintro e w3 ⟨rfl, hb3⟩
          have hil : i < (mixed m s i).length := by rw [mixed_len m s i (by rw [HN.out]; omega), HN.out]; exact hlt
          have hG3 := HG.out.below hb3 HG.out.lt
          have hB3 := HB.out.trans (hb3.mono (Nat.le_of_lt HG.out.lt))
          have hfz := hG3.frozen i hil
          have hc3 := hG3.cell i hil
          unfold byteV at hc3
          have HG4 := Lib.hid (hG3.set i hil r)
          have HB4 := Lib.hid (hB3.setCell (p := ⟨G, i, none⟩) (Nat.le_refl G) (.int .u8 (r.toNat : Int)))
          clear hG3 hB3 hb3 hil hrc hcl2
          rw [← HSt.out] at HG4
          generalize r.toNat = y at *
          go_wp2
          go_roundw
          case rel => exact ⟨i + 1, by omega, by go_num, HG4, HB4⟩
          case measure => simp [intOf]; omega
        · rw [turn_not m c hp] at HSt
          have HSa2 := Lib.hid (HSa.out (turn_not m c hp))
          have q0 : decide (0 ≤ placeB c) = false := decide_eq_false hp
          clear HSt HSa hp
          generalize placeB c = p2 at *
          generalize c.toNat = x at *
          go_wp2_with fail
          refine (HI.out _).mono ?_
          rintro e w2 ⟨rfl, rfl⟩
          go_wp2
          go_roundw
          case rel => exact ⟨i + 1, by omega, by go_num, by rw [HSa2.out]; exact HG, HB⟩
          case measure => simp [intOf]; omega
      · obtain rfl : i = N := by omega
        have hEq : mixed m s i = s.toList.map (turnB m) := by rw [← mixed_end, HN.out]
        have hcv := bts_text wr G cap i _ (by rw [mixed_len m s i (by rw [HN.out]; omega), HN.out]) HG.out
        rw [hEq] at hcv
        have HBx := Lib.hid (HBW.out.trans (HB.out.mono HRG.out.2))
        generalize toB (s.toList.map (turnB m)) = X at *
        clear hEq hlt
        go_wp2
        go_ret2
        exact ⟨by rw [HV.out]; rfl, HBx.out⟩
end Go.Proofs.YtecjhkpldcmlaaaDoor
