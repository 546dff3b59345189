/- Terms: the model puts signs in front of tidy texts. -/
import Derived.Test.YtecjhkpldcmlaaaDoorTrmA
namespace Go.Proofs.YtecjhkpldcmlaaaDoor
open Go.RowKit Go.Shelf
set_option linter.unusedVariables false
attribute [local go_sem] Oper.semAt_some
/-- A byte as a text. -/
theorem byteT (c : UInt8) (W : World) :
    (convert 22 9 (.slice (some ⟨W.heap.size, 0, none⟩) 1 1)).run Tryd.prog (W.alloc (.cells #[.int .u8 (c.toNat : Int)] 5)) = .ok (.string (toB [c])) (W.alloc (.cells #[.int .u8 (c.toNat : Int)] 5)) := by
  rw [run_convert_bytes_string _ _ _ 5 _ _ _ Tryd.underlying22 Tryd.underlying5 Tryd.underlying9]
  rw [run_bytesToString _ _ _ _ [(c.toNat : Int)] ?_]
  · simp [toB]
    rfl
  · have hc : (W.alloc (.cells #[.int .u8 (c.toNat : Int)] 5)).cell? ⟨W.heap.size, 0, none⟩ = some (.int .u8 (c.toNat : Int)) := by simp
    simp [loadCells, loadCellsFrom, go_sem, hc, Addr.add]
/-- The first byte of a text, and what is behind it. -/
theorem headX (c : UInt8) (l : List UInt8) (W : World) : (Instr.index 9 (.string (toB (c :: l))) (.int .i64 0)).run Tryd.prog W = .ok (.int .u8 (c.toNat : Int)) W := by
  rw [run_index_string W 9 _ .i64 0 Tryd.underlying9, dif_pos ⟨by omega, by rw [toB_size]; simp⟩]
  rfl
theorem tailX (c : UInt8) (l : List UInt8) (W : World) : (Instr.sliceAt 9 (.string (toB (c :: l))) (some (.int .i64 1)) none none).run Tryd.prog W = .ok (.string (toB l)) W := by
  rw [run_sliceAt_string W 9 _ _ _ _ Tryd.underlying9, run_slice_string_l W 9 _ Tryd.underlying9 .i64 1 (by omega) (by rw [toB_size]; simp; omega)]
  congr 2
  apply ByteArray.ext
  simp [toB, ByteArray.size]
theorem leaf_signs' {n : Nat} {c : UInt8} (hc : c ≠ 101) (h : okT n (.leaf c) = true) : ∃ p : Nat, placeB c = (p : Int) ∧ p < n ∧ c.toNat ≠ 101 ∧ c.toNat ≠ 33 ∧ c.toNat ≠ 45 ∧ True := by
  rcases leaf_is n c h with rfl | ⟨_, p0, p1⟩
  · exact absurd rfl hc
  · refine ⟨(placeB c).toNat, by omega, by omega, ?_⟩
    have hpp : 0 ≤ placeX c.toNat := by rw [← place_x]; exact p0
    refine ⟨fun e => ?_, fun e => ?_, fun e => ?_, trivial⟩ <;> (rw [e] at hpp; exact absurd hpp (by decide))
theorem neg_wraps' (k : Nat) (h : k < 4096) : IntKind.i64.wrap (-(k : Int)) = -(k : Int) ∧ wrap64 (-(k : Int)) = -(k : Int) := ⟨IntWalk.i64_in _ ⟨by omega, by omega⟩, IntWalk.wrap64_in _ ⟨by omega, by omega⟩⟩
set_option maxHeartbeats 1000000 in
/-- '!' in front. -/
theorem front33_any (n : Nat) (a : Tm) (w : World) (ho : okT n a = true) (hl : (showT a).length ≤ 1000) :
    Calls Tryd.prog 77 #[.int .i64 (n:Int), .int .u8 33, .string (toB (showT a))] w fun e w' => e = .returned (.string (toB (showT (front33 a)))) ∧ Below w.heap.size w w' := by
  have HV := Lib.hid (show_front33 n a ho)
  rw [HV.out, show_head a]
  have hh := headX (headT a) (tailT a)
  have ht := tailX (headT a) (tailT a)
  have hb : ∀ W : World, (convert 22 9 (.slice (some ⟨W.heap.size, 0, none⟩) 1 1)).run Tryd.prog (W.alloc (.cells #[.int .u8 33] 5)) = .ok (.string (toB [33])) (W.alloc (.cells #[.int .u8 33] 5)) := fun W => byteT 33 W
  have happ : toB [33] ++ toB (headT a :: tailT a) = toB (33 :: headT a :: tailT a) := toB_append _ _
  have hsz : (toB [33]).size + (toB (headT a :: tailT a)).size ≤ 9223372036854775807 := by rw [toB_size, toB_size, ← show_head]; simp; omega
  generalize tailT a = tl at *
  by_cases h : headT a = 33
  · rw [h] at hh ht ⊢
    rw [if_pos rfl]
    have hc : (((33 : UInt8).toNat : Nat) : Int) = 33 := rfl
    rw [hc] at hh
    clear happ hsz hb h
    generalize toB (33 :: tl) = X at *
    go_enter Tryd.func77, Tryd.ntmps77
    go_wp2
    go_ret
    exact ⟨rfl, Below.refl _ _⟩
  · rw [if_neg h]
    have hx : ((headT a).toNat : Nat) ≠ 33 := fun e => h ((u8_eq (headT a) 33 (by omega)).2 e)
    clear ht h
    generalize headT a = c at *
    generalize hT : toB (33 :: c :: tl) = R at *
    generalize toB (c :: tl) = X at *
    generalize c.toNat = x at *
    have d0 : ((x : Int) == 33) = false := by simp; omega
    clear hx
    go_enter Tryd.func77, Tryd.ntmps77
    go_wp2
    go_ret
    exact ⟨by first | rfl | rw [happ], (Below.refl _ _).alloc (Nat.le_refl _) _⟩
theorem headS (t : Tm) (W : World) : (Instr.index 9 (.string (toB (showT t))) (.int .i64 0)).run Tryd.prog W = .ok (.int .u8 ((headT t).toNat : Int)) W := by rw [show_head]; exact headX _ _ W
theorem tailS (t : Tm) (W : World) : (Instr.sliceAt 9 (.string (toB (showT t))) (some (.int .i64 1)) none none).run Tryd.prog W = .ok (.string (toB (tailT t))) W := by rw [show_head]; exact tailX _ _ W
theorem eqS (a b : List UInt8) : ((toB a).toList == b) = decide (a = b) := by
  rw [toB_list]
  by_cases h : a = b
  · subst h; simp
  · simp [h]
set_option maxHeartbeats 2000000 in
/-- '-' in front. -/
theorem front45_any (n : Nat) (h1 : 1 ≤ n) (h2 : n ≤ 12) (a : Tm) (ho : okT n a = true) (hl : (showT a).length ≤ 1000) (w : World) :
    Calls Tryd.prog 77 #[.int .i64 (n:Int), .int .u8 45, .string (toB (showT a))] w fun e w' => e = .returned (.string (toB (showT (front45 n a)))) ∧ Below w.heap.size w w' := by
  induction a generalizing w with
  | leaf c =>
    by_cases he : c = 101
    · subst he
      have hh := headX 101 []
      have hc : (((101 : UInt8).toNat : Nat) : Int) = 101 := rfl
      rw [hc] at hh
      show Calls Tryd.prog 77 #[.int .i64 (n:Int), .int .u8 45, .string (toB [101])] w fun e w' => e = .returned (.string (toB [101])) ∧ Below w.heap.size w w'
      have hq : toB [101] = ⟨#[101]⟩ := rfl
      rw [hq] at hh ⊢
      go_enter Tryd.func77, Tryd.ntmps77
      go_wp2
      go_ret
      exact ⟨rfl, Below.refl _ _⟩
    · obtain ⟨p, hp, p1, k0, k1, k2, _⟩ := leaf_signs' he ho
      have hh := headX c []
      have HP := Lib.hid (fun W => l11Place_any c W)
      rw [hp] at HP
      have HR' := fun W => l1Rest_any n (-(p : Int)) W h1 h2 (by omega)
      rw [show rest n (-(p : Int)) = neg n p from rfl] at HR'
      have HR := Lib.hid HR'
      have HS := Lib.hid (fun W => l11Sign_any (neg n p) (by have := neg_lt n p h1; omega) W)
      have HV : Hid (showT (front45 n (.leaf c)) = [signB (neg n p)]) := Lib.hid (by
        show [turnB n c] = _
        unfold turnB
        rw [hp, if_pos (by omega), Int.toNat_natCast])
      have HB := Lib.hid (fun W => byteT (signB (neg n p)) W)
      have h101 : ((toB [c]).toList == [101]) = false := by rw [eqS]; exact decide_eq_false (fun e => he (by injection e))
      have hs1 : (toB [c]).size = 1 := rfl
      have hx : ((neg n p : Nat) : Int) = ((neg n p : Nat) : Int) := rfl
      rw [HV.out]
      show Calls Tryd.prog 77 #[.int .i64 (n:Int), .int .u8 45, .string (toB [c])] w _
      clear HV hx HR' hp ho hl he
      generalize signB (neg n p) = g at *
      generalize neg n p = m at *
      generalize toB [c] = X at *
      generalize c.toNat = x at *
      have HW := Lib.hid (neg_wraps' p (by omega))
      have hB := HB.out
      generalize g.toNat = y at *
      have d0 : ((x : Int) == 45) = false := by simp; omega
      have d1 : ((x : Int) == 33) = false := by simp; omega
      obtain ⟨u1, u2⟩ := HW.out
      clear k0 k1 k2
      go_enter Tryd.func77, Tryd.ntmps77
      go_wp2_with fail
      refine (HP.out _).mono ?_
      rintro e w1 ⟨rfl, rfl⟩
      go_wp2_with fail
      refine (HR.out _).mono ?_
      rintro e w1 ⟨rfl, rfl⟩
      go_wp2_with fail
      refine (HS.out _).mono ?_
      rintro e w1 ⟨rfl, rfl⟩
      go_wp2
      go_ret
      exact ⟨rfl, (Below.refl _ _).alloc (Nat.le_refl _) _⟩
  | two c x y _ _ =>
    have HV : Hid (showT (front45 n (.two c x y)) = 45 :: showT (.two c x y)) := Lib.hid rfl
    have hh := headS (.two c x y)
    have hc : ((headT (.two c x y)).toNat : Int) = 40 := rfl
    rw [hc] at hh
    have hb : ∀ W : World, (convert 22 9 (.slice (some ⟨W.heap.size, 0, none⟩) 1 1)).run Tryd.prog (W.alloc (.cells #[.int .u8 45] 5)) = .ok (.string (toB [45])) (W.alloc (.cells #[.int .u8 45] 5)) := fun W => byteT 45 W
    have happ : toB [45] ++ toB (showT (.two c x y)) = toB (45 :: showT (.two c x y)) := toB_append _ _
    have hsz : (toB [45]).size + (toB (showT (.two c x y))).size ≤ 9223372036854775807 := by rw [toB_size, toB_size]; simp; omega
    have h101 : ((toB (showT (.two c x y))).toList == [101]) = false := by rw [eqS]; exact decide_eq_false (fun e => by have := congrArg List.length e; rw [len_two] at this; simp at this)
    have hs1 : (((toB (showT (.two c x y))).size : Int) == 1) = false := by rw [toB_size, len_two]; simp; omega
    rw [HV.out]
    generalize toB (45 :: showT (.two c x y)) = R at *
    generalize toB (showT (.two c x y)) = X at *
    clear hc HV ho hl
    go_enter Tryd.func77, Tryd.ntmps77
    go_wp2
    go_ret
    exact ⟨by first | rfl | rw [happ], (Below.refl _ _).alloc (Nat.le_refl _) _⟩
  | one c b ih =>
    have h' : (isFront c && okT n b) = true := ho
    rw [Bool.and_eq_true] at h'
    have hl' : (showT b).length + 1 ≤ 1000 := hl
    have hh := headS (.one c b)
    have ht := tailS (.one c b)
    rw [show tailT (.one c b) = showT b from rfl] at ht
    rw [show headT (.one c b) = c from rfl] at hh
    have hfr := h'.1
    unfold isFront at hfr
    rw [Bool.or_eq_true, beq_iff_eq, beq_iff_eq] at hfr
    rcases hfr with rfl | rfl
    · have HI := Lib.hid (ih h'.2 (by omega) w)
      have ho2 := ok_front45 n b h1 h2 h'.2
      have HF := Lib.hid (fun W => front33_any n (front45 n b) W ho2 (by have := len_front45 n b; omega))
      have HV : Hid (showT (front45 n (.one 33 b)) = showT (front33 (front45 n b))) := Lib.hid rfl
      have hc : (((33 : UInt8).toNat : Nat) : Int) = 33 := rfl
      rw [hc] at hh
      have h101 : ((toB (showT (.one 33 b))).toList == [101]) = false := by
        rw [eqS]
        exact decide_eq_false (fun e => by injection e with e; exact absurd e (by decide))
      rw [HV.out]
      generalize toB (showT (front33 (front45 n b))) = R at *
      generalize toB (showT (front45 n b)) = Y at *
      generalize toB (showT (.one 33 b)) = X at *
      generalize toB (showT b) = Z at *
      clear hc HV ho hl h' hl' ih ho2
      go_enter Tryd.func77, Tryd.ntmps77
      go_wp2_with fail
      refine HI.out.mono ?_
      rintro e w1 ⟨rfl, hb1⟩
      go_wp2_with fail
      refine (HF.out _).mono ?_
      rintro e w2 ⟨rfl, hb2⟩
      go_wp2
      go_ret
      exact ⟨rfl, hb1.trans (hb2.mono hb1.size)⟩
    · have HV : Hid (showT (front45 n (.one 45 b)) = showT b) := Lib.hid rfl
      have hc : (((45 : UInt8).toNat : Nat) : Int) = 45 := rfl
      rw [hc] at hh
      rw [HV.out]
      generalize toB (showT (.one 45 b)) = X at *
      generalize toB (showT b) = Z at *
      clear hc HV ho hl h' hl' ih
      go_enter Tryd.func77, Tryd.ntmps77
      go_wp2
      go_ret
      exact ⟨rfl, Below.refl _ _⟩
end Go.Proofs.YtecjhkpldcmlaaaDoor
