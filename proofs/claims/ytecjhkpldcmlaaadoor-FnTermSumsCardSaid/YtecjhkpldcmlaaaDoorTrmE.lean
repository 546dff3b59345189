/- Terms: the model's sets of terms. Written by gen134.py. -/
import Derived.Test.YtecjhkpldcmlaaaDoorTrmA
namespace Go.Proofs.YtecjhkpldcmlaaaDoor
open Go.RowKit Go.Shelf
set_option linter.unusedVariables false
attribute [local go_sem] Oper.semAt_some
/-- The model tells the set of a term. -/
def SetSays (n : Nat) (t : Tm) : Prop := ∀ (v : Value) (w : World), IsTm w t v → Calls Tryd.prog 39 #[.int .i64 (n:Int), v] w fun e w' => e = .returned (.int .i64 ((setT n t : Nat) : Int)) ∧ Below w.heap.size w w'
theorem pow_wraps (p : Nat) (hp : p < 40) : IntKind.i64.wrap (2 ^ p) = ((2 ^ p : Nat) : Int) ∧ wrap64 (2 ^ p) = ((2 ^ p : Nat) : Int) := ⟨by rw [IntWalk.i64_left]; exact wrap_pow p hp, wrap_pow p hp⟩
theorem full_wraps (n : Nat) (hn : n ≤ 12) : IntKind.i64.wrap (((2 ^ n : Nat) : Int) - 1) = ((2 ^ n - 1 : Nat) : Int) ∧ wrap64 (((2 ^ n : Nat) : Int) - 1) = ((2 ^ n - 1 : Nat) : Int) := by
  have h := pow_le n hn
  have h1 := Nat.two_pow_pos n
  generalize 2 ^ n = N at *
  have e : ((N : Nat) : Int) - 1 = ((N - 1 : Nat) : Int) := by omega
  rw [e]
  exact ⟨IntWalk.i64_in _ ⟨by omega, by omega⟩, IntWalk.wrap64_in _ ⟨by omega, by omega⟩⟩
set_option maxHeartbeats 1000000 in
theorem set_leaf (n : Nat) (c : UInt8) (h1 : 1 ≤ n) (h2 : n ≤ 12) (ho : okT n (.leaf c) = true) : SetSays n (.leaf c) := by
  intro v w hI
  obtain ⟨A, cap, rfl⟩ := hI
  rcases leaf_is n c ho with rfl | ⟨hc, p0, p1⟩
  · go_enter Tryd.func39, Tryd.ntmps39
    go_wp2
    go_ret
    exact ⟨rfl, (Below.refl _ _).alloc (Nat.le_refl _) _⟩
  · have HP := Lib.hid (fun W => l11Place_any c W)
    have HV : Hid (setT n (.leaf c) = 2 ^ (placeB c).toNat) := Lib.hid (by show (if c = 101 then 0 else 2 ^ (placeB c).toNat) = _; rw [if_neg hc])
    obtain ⟨p, hp⟩ : ∃ p : Nat, placeB c = (p : Int) := ⟨(placeB c).toNat, by omega⟩
    have hpx := place_x c
    rw [hp] at HP HV hpx p1
    have HW := Lib.hid (pow_wraps p (by omega))
    have hpp : 0 ≤ placeX c.toNat := by rw [← hpx]; omega
    have k0 : ¬ c.toNat = 101 := fun e => by rw [e] at hpp; exact absurd hpp (by decide)
    have k1 : ¬ c.toNat = 33 := fun e => by rw [e] at hpp; exact absurd hpp (by decide)
    have k2 : ¬ c.toNat = 45 := fun e => by rw [e] at hpp; exact absurd hpp (by decide)
    have k3 : ¬ c.toNat = 43 := fun e => by rw [e] at hpp; exact absurd hpp (by decide)
    have k4 : ¬ c.toNat = 38 := fun e => by rw [e] at hpp; exact absurd hpp (by decide)
    have k5 : ¬ c.toNat = 46 := fun e => by rw [e] at hpp; exact absurd hpp (by decide)
    clear hpx hpp
    generalize c.toNat = x at *
    have d0 : ((x : Int) == 101) = false := by simp; omega
    have d1 : ((x : Int) == 33) = false := by simp; omega
    have d2 : ((x : Int) == 45) = false := by simp; omega
    have d3 : ((x : Int) == 43) = false := by simp; omega
    have d4 : ((x : Int) == 38) = false := by simp; omega
    have d5 : ((x : Int) == 46) = false := by simp; omega
    have q0 : (0 : Int) ≤ (p : Int) := by omega
    have q1 : ¬ ((p : Int) < 0) := by omega
    have q2 : p < 64 := by omega
    have q3 : min p 64 = p := by omega
    clear k0 k1 k2 k3 k4 k5 p0 p1 hp
    obtain ⟨e1, e2⟩ := HW.out
    rw [HV.out]
    go_enter Tryd.func39, Tryd.ntmps39
    go_wp2_with (go_at_call 60; refine (HP.out _).mono ?_; rintro e w2 ⟨rfl, rfl⟩)
    go_ret
    exact ⟨by first | rfl | simp [HW.out.2] | exact ret_int HW.out.2, (Below.refl _ _).alloc (Nat.le_refl _) _⟩
set_option maxHeartbeats 2000000 in
theorem set_not (n : Nat) (a : Tm) (h1 : 1 ≤ n) (h2 : n ≤ 12) (ho : okT n a = true) (ih : SetSays n a) : SetSays n (.one 33 a) := by
  have hmx : Tryd.prog.follows .mixedOrders = true := by kernel_rfl
  intro v w hI
  obtain ⟨b, z, A, l, q, rfl, hb, c0, c1, hK⟩ := hI.openOne
  have hc' : (((33 : UInt8).toNat : Nat) : Int) = 33 := rfl
  rw [hc']
  have HX := Lib.hid (fun W hb => ih _ W (hK.below hb a))
  clear ih hK hI
  have hs := set_lt n a h1 ho
  have hp := pow_le n h2
  have HV : Hid (setT n (.one 33 a) = lessN (2 ^ n - 1) (setT n a)) := Lib.hid rfl
  have HL := Lib.hid (less_nat (2 ^ n - 1) (setT n a) (by omega) (by omega))
  obtain ⟨u1, u2⟩ := pow_wraps n (by omega)
  obtain ⟨u3, u4⟩ := full_wraps n h2
  have HW := Lib.hid (And.intro (And.intro u1 u2) (And.intro u3 u4))
  have q0 : (0 : Int) ≤ (n : Int) := by omega
  have q1 : ¬ ((n : Int) < 0) := by omega
  have q2 : n < 64 := by omega
  have q3 : min n 64 = n := by omega
  have HQ : Hid (bits .andNot .i64 (IntKind.i64.wrap (2 ^ n - 1)) (setT n a : Int) = ((lessN (2 ^ n - 1) (setT n a) : Nat) : Int)) := Lib.hid (by
    rw [show (2 : Int) ^ n = ((2 ^ n : Nat) : Int) from (Int.natCast_pow 2 n).symm, u3]
    exact HL.out)
  rw [HV.out]
  clear u1 u2 u3 u4 hs hp HV
  generalize lessN (2 ^ n - 1) (setT n a) = R at *
  generalize setT n a = S at *
  go_enter Tryd.func39, Tryd.ntmps39
  go_wp2_with fail
  obtain ⟨W0, hW0⟩ : ∃ W0, w.alloc (.cells #[.int .u8 33, .slice (some ⟨b, 0, none⟩) 1 1] 50) = W0 := ⟨_, rfl⟩
  have HF : Hid (∀ W, Below W0.heap.size W0 W → W.cell? ⟨w.heap.size, 1, none⟩ = some (.slice (some ⟨b, 0, none⟩) 1 1) ∧ W.cell? ⟨b, 0, none⟩ = some (.int .u8 z) ∧ W.cell? ⟨b, 1, none⟩ = some (.slice A l q) ∧ Below w.heap.size w W) := Lib.hid (fun W h => by
    obtain ⟨_, f1, f2⟩ := box_facts w W0 _ _ _ hW0 W h
    exact ⟨f1, kid_cell f2 hb c0, kid_cell f2 hb c1, f2⟩)
  rw [hW0]
  clear hW0 c0 c1
  have hA0 : Below W0.heap.size W0 W0.drew := (Below.refl _ _).drew
  refine wp_region_held_drew (S := fun V => Below W0.heap.size W0 V) hmx hA0 (fun _ => ?_)
  generalize W0.drew = V0 at *
  refine take1 0 (v := ?_) rfl (by kernel_rfl) (by kernel_rfl) (by kernel_rfl) (fun _ _ _ h => h) (by rfl) ?_ hA0 ?_
  rotate_left
  · intro V9 hA
    obtain ⟨f1, f2, f3, f4⟩ := HF.out _ hA
    clear hA
    go_simp
    try with_reducible rfl
  try simp only [Act.put, List.setIfInBounds_toArray, List.set_cons_zero, List.set_cons_succ]
  refine take1 1 (v := ?_) rfl (by kernel_rfl) (by kernel_rfl) (by kernel_rfl) (fun _ _ _ h => h) (by rfl) ?_ hA0 ?_
  rotate_left
  · intro V9 hA
    obtain ⟨f1, f2, f3, f4⟩ := HF.out _ hA
    obtain ⟨⟨u1, u2⟩, u3, u4⟩ := HW.out
    have u5 := HL.out
    clear hA
    go_simp
    try with_reducible rfl
  try simp only [Act.put, List.setIfInBounds_toArray, List.set_cons_zero, List.set_cons_succ]
  refine take1 2 (v := ?_) rfl (by kernel_rfl) (by kernel_rfl) (by kernel_rfl) (fun _ _ _ h => h) (by rfl) ?_ hA0 ?_
  rotate_left
  · intro V9 hA
    obtain ⟨f1, f2, f3, f4⟩ := HF.out _ hA
    obtain ⟨⟨u1, u2⟩, u3, u4⟩ := HW.out
    have u5 := HL.out
    clear hA
    go_simp
    try with_reducible rfl
  try simp only [Act.put, List.setIfInBounds_toArray, List.set_cons_zero, List.set_cons_succ]
  refine take1 3 (v := ?_) rfl (by kernel_rfl) (by kernel_rfl) (by kernel_rfl) (fun _ _ _ h => h) (by rfl) ?_ hA0 ?_
  rotate_left
  · intro V9 hA
    obtain ⟨f1, f2, f3, f4⟩ := HF.out _ hA
    clear hA
    go_simp
    try with_reducible rfl
  try simp only [Act.put, List.setIfInBounds_toArray, List.set_cons_zero, List.set_cons_succ]
  refine take1 4 (v := ?_) rfl (by kernel_rfl) (by kernel_rfl) (by kernel_rfl) (fun _ _ _ h => h) (by rfl) ?_ hA0 ?_
  rotate_left
  · intro V9 hA
    obtain ⟨f1, f2, f3, f4⟩ := HF.out _ hA
    clear hA
    go_simp
    try with_reducible rfl
  try simp only [Act.put, List.setIfInBounds_toArray, List.set_cons_zero, List.set_cons_succ]
  refine take1 5 (v := ?_) rfl (by kernel_rfl) (by kernel_rfl) (by kernel_rfl) (fun _ _ _ h => h) (by rfl) ?_ hA0 ?_
  rotate_left
  · intro V9 hA
    obtain ⟨f1, f2, f3, f4⟩ := HF.out _ hA
    clear hA
    go_simp
    try with_reducible rfl
  try simp only [Act.put, List.setIfInBounds_toArray, List.set_cons_zero, List.set_cons_succ]
  refine take1 6 (v := ?_) rfl (by kernel_rfl) (by kernel_rfl) (by kernel_rfl) (fun _ _ _ h => h) (by rfl) ?_ hA0 ?_
  rotate_left
  · intro V9 hA
    obtain ⟨f1, f2, f3, f4⟩ := HF.out _ hA
    clear hA
    go_simp
    try with_reducible rfl
  try simp only [Act.put, List.setIfInBounds_toArray, List.set_cons_zero, List.set_cons_succ]
  refine take1 7 (v := ?_) rfl (by kernel_rfl) (by kernel_rfl) (by kernel_rfl) (fun _ _ _ h => h) (by rfl) ?_ hA0 ?_
  rotate_left
  · intro V9 hA
    obtain ⟨f1, f2, f3, f4⟩ := HF.out _ hA
    clear hA
    go_simp
    try with_reducible rfl
  try simp only [Act.put, List.setIfInBounds_toArray, List.set_cons_zero, List.set_cons_succ]
  refine step1 8 (by kernel_rfl) rfl (fun K hK => ?_)
  go_simp
  refine (HX.out _ (HF.out _ hA0).2.2.2).mono ?_
  rintro e V1 ⟨rfl, hb1⟩
  go_wp2_with fail
  have hA1 := hA0.trans (hb1.mono hA0.size)
  refine hK.out _ _ hA1 ?_
  clear hK K
  try simp only [Act.put, List.setIfInBounds_toArray, List.set_cons_zero, List.set_cons_succ]
  refine take1 9 (v := ?_) rfl (by kernel_rfl) (by kernel_rfl) (by kernel_rfl) (fun _ _ _ h => h) (by rfl) ?_ hA1 ?_
  rotate_left
  · intro V9 hA
    obtain ⟨f1, f2, f3, f4⟩ := HF.out _ hA
    obtain ⟨⟨u1, u2⟩, u3, u4⟩ := HW.out
    have u5 := HL.out
    clear hA
    go_simp
    try with_reducible rfl
  try simp only [Act.put, List.setIfInBounds_toArray, List.set_cons_zero, List.set_cons_succ]
  refine take1 10 (v := ?_) rfl (by kernel_rfl) (by kernel_rfl) (by kernel_rfl) (fun _ _ _ h => h) (by rfl) ?_ hA1 ?_
  rotate_left
  · intro V9 hA
    obtain ⟨f1, f2, f3, f4⟩ := HF.out _ hA
    clear hA
    go_simp
    try with_reducible rfl
  try simp only [Act.put, List.setIfInBounds_toArray, List.set_cons_zero, List.set_cons_succ]
  refine stop1 (by kernel_rfl) ?_
  have hE := (HF.out _ hA1).2.2.2
  go_wp2
  go_ret
  exact ⟨ret_int HQ.out, hE⟩
set_option maxHeartbeats 2000000 in
theorem set_minus (n : Nat) (a : Tm) (h1 : 1 ≤ n) (h2 : n ≤ 12) (ho : okT n a = true) (ih : SetSays n a) : SetSays n (.one 45 a) := by
  intro v w hI
  obtain ⟨b, z, A, l, q, rfl, hb, c0, c1, hK⟩ := hI.openOne
  have hc' : (((45 : UInt8).toNat : Nat) : Int) = 45 := rfl
  rw [hc']
  have HX := Lib.hid (fun W hb => ih _ W (hK.below hb a))
  clear ih hK hI
  have hs := set_lt n a h1 ho
  have HT := Lib.hid (fun W => l1Turn_any n (setT n a) (-1) W h1 h2 hs (by omega) (by omega))
  have HV : Hid (setT n (.one 45 a) = turnN n (setT n a) (-1)) := Lib.hid rfl
  rw [HV.out]
  clear hs HV
  generalize turnN n (setT n a) (-1) = R at *
  generalize setT n a = S at *
  have hB0 : Below w.heap.size w (w.alloc (.cells #[.int .u8 45, .slice (some ⟨b, 0, none⟩) 1 1] 50)) := (Below.refl _ _).alloc (Nat.le_refl _) _
  have g0 := kid_cell hB0 hb c0
  have g1 := kid_cell hB0 hb c1
  go_enter Tryd.func39, Tryd.ntmps39
  go_wp2_with fail
  refine (HX.out _ hB0).mono ?_
  rintro e w2 ⟨rfl, hb2⟩
  go_wp2_with fail
  refine (HT.out _).mono ?_
  rintro e w3 ⟨rfl, rfl⟩
  go_wp2
  go_ret
  exact ⟨rfl, hB0.trans (hb2.mono hB0.size)⟩
set_option maxHeartbeats 2000000 in
theorem set_or (n : Nat) (a d : Tm) (h1 : 1 ≤ n) (h2 : n ≤ 12) (hoa : okT n a = true) (hod : okT n d = true) (iha : SetSays n a) (ihd : SetSays n d) : SetSays n (.two 43 a d) := by
  have hmx : Tryd.prog.follows .mixedOrders = true := by kernel_rfl
  intro v w hI
  obtain ⟨b, z, A, l, q, z2, A2, l2, q2, rfl, hb, c0, c1, c2, c3, hK, hK2⟩ := hI.openTwo
  have hc' : (((43 : UInt8).toNat : Nat) : Int) = 43 := rfl
  rw [hc']
  have HX := Lib.hid (fun W hb => iha _ W (hK.below hb a))
  have HY := Lib.hid (fun W hb => ihd _ W (hK2.below hb d))
  clear iha ihd hK hK2 hI
  have hs := set_lt n a h1 hoa
  have hs2 := set_lt n d h1 hod
  have hp := pow_le n h2
  have HV : Hid (setT n (.two 43 a d) = setT n a ||| setT n d) := Lib.hid rfl
  have HL := Lib.hid (or_nat (setT n a) (setT n d) (by omega) (by omega))
  rw [HV.out]
  clear hs hs2 hp HV
  generalize setT n a ||| setT n d = R at *
  generalize setT n a = S at *
  generalize setT n d = T at *
  go_enter Tryd.func39, Tryd.ntmps39
  go_wp2_with fail
  obtain ⟨W0, hW0⟩ : ∃ W0, w.alloc (.cells #[.int .u8 (43), .slice (some ⟨b, 0, none⟩) 2 2] 50) = W0 := ⟨_, rfl⟩
  have HF : Hid (∀ W, Below W0.heap.size W0 W → W.cell? ⟨w.heap.size, 1, none⟩ = some (.slice (some ⟨b, 0, none⟩) 2 2) ∧ W.cell? ⟨b, 0, none⟩ = some (.int .u8 z) ∧ W.cell? ⟨b, 1, none⟩ = some (.slice A l q) ∧ W.cell? ⟨b, 2, none⟩ = some (.int .u8 z2) ∧ W.cell? ⟨b, 3, none⟩ = some (.slice A2 l2 q2) ∧ Below w.heap.size w W) := Lib.hid (fun W h => by
    obtain ⟨_, f1, f2⟩ := box_facts w W0 _ _ _ hW0 W h
    exact ⟨f1, kid_cell f2 hb c0, kid_cell f2 hb c1, kid_cell f2 hb c2, kid_cell f2 hb c3, f2⟩)
  rw [hW0]
  clear hW0 c0 c1 c2 c3
  have hA0 : Below W0.heap.size W0 W0.drew := (Below.refl _ _).drew
  refine wp_region_held_drew (S := fun V => Below W0.heap.size W0 V) hmx hA0 (fun _ => ?_)
  generalize W0.drew = V0 at *
  refine take1 0 (v := ?_) rfl (by kernel_rfl) (by kernel_rfl) (by kernel_rfl) (fun _ _ _ h => h) (by rfl) ?_ hA0 ?_
  rotate_left
  · intro V9 hA
    obtain ⟨f1, f2, f3, f4, f5, f6⟩ := HF.out _ hA
    clear hA
    go_simp
    try with_reducible rfl
  try simp only [Act.put, List.setIfInBounds_toArray, List.set_cons_zero, List.set_cons_succ]
  refine take1 1 (v := ?_) rfl (by kernel_rfl) (by kernel_rfl) (by kernel_rfl) (fun _ _ _ h => h) (by rfl) ?_ hA0 ?_
  rotate_left
  · intro V9 hA
    obtain ⟨f1, f2, f3, f4, f5, f6⟩ := HF.out _ hA
    clear hA
    go_simp
    try with_reducible rfl
  try simp only [Act.put, List.setIfInBounds_toArray, List.set_cons_zero, List.set_cons_succ]
  refine take1 2 (v := ?_) rfl (by kernel_rfl) (by kernel_rfl) (by kernel_rfl) (fun _ _ _ h => h) (by rfl) ?_ hA0 ?_
  rotate_left
  · intro V9 hA
    obtain ⟨f1, f2, f3, f4, f5, f6⟩ := HF.out _ hA
    clear hA
    go_simp
    try with_reducible rfl
  try simp only [Act.put, List.setIfInBounds_toArray, List.set_cons_zero, List.set_cons_succ]
  refine take1 3 (v := ?_) rfl (by kernel_rfl) (by kernel_rfl) (by kernel_rfl) (fun _ _ _ h => h) (by rfl) ?_ hA0 ?_
  rotate_left
  · intro V9 hA
    obtain ⟨f1, f2, f3, f4, f5, f6⟩ := HF.out _ hA
    clear hA
    go_simp
    try with_reducible rfl
  try simp only [Act.put, List.setIfInBounds_toArray, List.set_cons_zero, List.set_cons_succ]
  refine take1 4 (v := ?_) rfl (by kernel_rfl) (by kernel_rfl) (by kernel_rfl) (fun _ _ _ h => h) (by rfl) ?_ hA0 ?_
  rotate_left
  · intro V9 hA
    obtain ⟨f1, f2, f3, f4, f5, f6⟩ := HF.out _ hA
    clear hA
    go_simp
    try with_reducible rfl
  try simp only [Act.put, List.setIfInBounds_toArray, List.set_cons_zero, List.set_cons_succ]
  refine take1 6 (v := ?_) rfl (by kernel_rfl) (by kernel_rfl) (by kernel_rfl) (fun _ _ _ h => h) (by rfl) ?_ hA0 ?_
  rotate_left
  · intro V9 hA
    obtain ⟨f1, f2, f3, f4, f5, f6⟩ := HF.out _ hA
    clear hA
    go_simp
    try with_reducible rfl
  try simp only [Act.put, List.setIfInBounds_toArray, List.set_cons_zero, List.set_cons_succ]
  refine take1 7 (v := ?_) rfl (by kernel_rfl) (by kernel_rfl) (by kernel_rfl) (fun _ _ _ h => h) (by rfl) ?_ hA0 ?_
  rotate_left
  · intro V9 hA
    obtain ⟨f1, f2, f3, f4, f5, f6⟩ := HF.out _ hA
    clear hA
    go_simp
    try with_reducible rfl
  try simp only [Act.put, List.setIfInBounds_toArray, List.set_cons_zero, List.set_cons_succ]
  refine take1 8 (v := ?_) rfl (by kernel_rfl) (by kernel_rfl) (by kernel_rfl) (fun _ _ _ h => h) (by rfl) ?_ hA0 ?_
  rotate_left
  · intro V9 hA
    obtain ⟨f1, f2, f3, f4, f5, f6⟩ := HF.out _ hA
    clear hA
    go_simp
    try with_reducible rfl
  try simp only [Act.put, List.setIfInBounds_toArray, List.set_cons_zero, List.set_cons_succ]
  refine take1 9 (v := ?_) rfl (by kernel_rfl) (by kernel_rfl) (by kernel_rfl) (fun _ _ _ h => h) (by rfl) ?_ hA0 ?_
  rotate_left
  · intro V9 hA
    obtain ⟨f1, f2, f3, f4, f5, f6⟩ := HF.out _ hA
    clear hA
    go_simp
    try with_reducible rfl
  try simp only [Act.put, List.setIfInBounds_toArray, List.set_cons_zero, List.set_cons_succ]
  refine take1 10 (v := ?_) rfl (by kernel_rfl) (by kernel_rfl) (by kernel_rfl) (fun _ _ _ h => h) (by rfl) ?_ hA0 ?_
  rotate_left
  · intro V9 hA
    obtain ⟨f1, f2, f3, f4, f5, f6⟩ := HF.out _ hA
    clear hA
    go_simp
    try with_reducible rfl
  try simp only [Act.put, List.setIfInBounds_toArray, List.set_cons_zero, List.set_cons_succ]
  refine step1 5 (by kernel_rfl) rfl (fun K hK => ?_)
  go_simp
  refine (HX.out _ (HF.out _ hA0).2.2.2.2.2).mono ?_
  rintro e V1 ⟨rfl, hb1⟩
  go_wp2_with fail
  have hA1 := hA0.trans (hb1.mono hA0.size)
  refine hK.out _ _ hA1 ?_
  clear hK K
  try simp only [Act.put, List.setIfInBounds_toArray, List.set_cons_zero, List.set_cons_succ]
  refine step1 11 (by kernel_rfl) rfl (fun K hK => ?_)
  go_simp
  refine (HY.out _ (HF.out _ hA1).2.2.2.2.2).mono ?_
  rintro e V2 ⟨rfl, hb2⟩
  go_wp2_with fail
  have hA2 := hA1.trans (hb2.mono hA1.size)
  refine hK.out _ _ hA2 ?_
  clear hK K
  try simp only [Act.put, List.setIfInBounds_toArray, List.set_cons_zero, List.set_cons_succ]
  refine take1 12 (v := ?_) rfl (by kernel_rfl) (by kernel_rfl) (by kernel_rfl) (fun _ _ _ h => h) (by rfl) ?_ hA2 ?_
  rotate_left
  · intro V9 hA
    obtain ⟨f1, f2, f3, f4, f5, f6⟩ := HF.out _ hA
    have u5 := HL.out
    clear hA
    go_simp
    try with_reducible rfl
  try simp only [Act.put, List.setIfInBounds_toArray, List.set_cons_zero, List.set_cons_succ]
  refine take1 13 (v := ?_) rfl (by kernel_rfl) (by kernel_rfl) (by kernel_rfl) (fun _ _ _ h => h) (by rfl) ?_ hA2 ?_
  rotate_left
  · intro V9 hA
    obtain ⟨f1, f2, f3, f4, f5, f6⟩ := HF.out _ hA
    clear hA
    go_simp
    try with_reducible rfl
  try simp only [Act.put, List.setIfInBounds_toArray, List.set_cons_zero, List.set_cons_succ]
  refine stop1 (by kernel_rfl) ?_
  have hE := (HF.out _ hA2).2.2.2.2.2
  go_wp2
  go_ret
  exact ⟨rfl, hE⟩
set_option maxHeartbeats 2000000 in
theorem set_and (n : Nat) (a d : Tm) (h1 : 1 ≤ n) (h2 : n ≤ 12) (hoa : okT n a = true) (hod : okT n d = true) (iha : SetSays n a) (ihd : SetSays n d) : SetSays n (.two 38 a d) := by
  have hmx : Tryd.prog.follows .mixedOrders = true := by kernel_rfl
  intro v w hI
  obtain ⟨b, z, A, l, q, z2, A2, l2, q2, rfl, hb, c0, c1, c2, c3, hK, hK2⟩ := hI.openTwo
  have hc' : (((38 : UInt8).toNat : Nat) : Int) = 38 := rfl
  rw [hc']
  have HX := Lib.hid (fun W hb => iha _ W (hK.below hb a))
  have HY := Lib.hid (fun W hb => ihd _ W (hK2.below hb d))
  clear iha ihd hK hK2 hI
  have hs := set_lt n a h1 hoa
  have hs2 := set_lt n d h1 hod
  have hp := pow_le n h2
  have HV : Hid (setT n (.two 38 a d) = setT n a &&& setT n d) := Lib.hid rfl
  have HL := Lib.hid (and_nat (setT n a) (setT n d) (by omega) (by omega))
  rw [HV.out]
  clear hs hs2 hp HV
  generalize setT n a &&& setT n d = R at *
  generalize setT n a = S at *
  generalize setT n d = T at *
  go_enter Tryd.func39, Tryd.ntmps39
  go_wp2_with fail
  obtain ⟨W0, hW0⟩ : ∃ W0, w.alloc (.cells #[.int .u8 (38), .slice (some ⟨b, 0, none⟩) 2 2] 50) = W0 := ⟨_, rfl⟩
  have HF : Hid (∀ W, Below W0.heap.size W0 W → W.cell? ⟨w.heap.size, 1, none⟩ = some (.slice (some ⟨b, 0, none⟩) 2 2) ∧ W.cell? ⟨b, 0, none⟩ = some (.int .u8 z) ∧ W.cell? ⟨b, 1, none⟩ = some (.slice A l q) ∧ W.cell? ⟨b, 2, none⟩ = some (.int .u8 z2) ∧ W.cell? ⟨b, 3, none⟩ = some (.slice A2 l2 q2) ∧ Below w.heap.size w W) := Lib.hid (fun W h => by
    obtain ⟨_, f1, f2⟩ := box_facts w W0 _ _ _ hW0 W h
    exact ⟨f1, kid_cell f2 hb c0, kid_cell f2 hb c1, kid_cell f2 hb c2, kid_cell f2 hb c3, f2⟩)
  rw [hW0]
  clear hW0 c0 c1 c2 c3
  have hA0 : Below W0.heap.size W0 W0.drew := (Below.refl _ _).drew
  refine wp_region_held_drew (S := fun V => Below W0.heap.size W0 V) hmx hA0 (fun _ => ?_)
  generalize W0.drew = V0 at *
  refine take1 0 (v := ?_) rfl (by kernel_rfl) (by kernel_rfl) (by kernel_rfl) (fun _ _ _ h => h) (by rfl) ?_ hA0 ?_
  rotate_left
  · intro V9 hA
    obtain ⟨f1, f2, f3, f4, f5, f6⟩ := HF.out _ hA
    clear hA
    go_simp
    try with_reducible rfl
  try simp only [Act.put, List.setIfInBounds_toArray, List.set_cons_zero, List.set_cons_succ]
  refine take1 1 (v := ?_) rfl (by kernel_rfl) (by kernel_rfl) (by kernel_rfl) (fun _ _ _ h => h) (by rfl) ?_ hA0 ?_
  rotate_left
  · intro V9 hA
    obtain ⟨f1, f2, f3, f4, f5, f6⟩ := HF.out _ hA
    clear hA
    go_simp
    try with_reducible rfl
  try simp only [Act.put, List.setIfInBounds_toArray, List.set_cons_zero, List.set_cons_succ]
  refine take1 2 (v := ?_) rfl (by kernel_rfl) (by kernel_rfl) (by kernel_rfl) (fun _ _ _ h => h) (by rfl) ?_ hA0 ?_
  rotate_left
  · intro V9 hA
    obtain ⟨f1, f2, f3, f4, f5, f6⟩ := HF.out _ hA
    clear hA
    go_simp
    try with_reducible rfl
  try simp only [Act.put, List.setIfInBounds_toArray, List.set_cons_zero, List.set_cons_succ]
  refine take1 3 (v := ?_) rfl (by kernel_rfl) (by kernel_rfl) (by kernel_rfl) (fun _ _ _ h => h) (by rfl) ?_ hA0 ?_
  rotate_left
  · intro V9 hA
    obtain ⟨f1, f2, f3, f4, f5, f6⟩ := HF.out _ hA
    clear hA
    go_simp
    try with_reducible rfl
  try simp only [Act.put, List.setIfInBounds_toArray, List.set_cons_zero, List.set_cons_succ]
  refine take1 4 (v := ?_) rfl (by kernel_rfl) (by kernel_rfl) (by kernel_rfl) (fun _ _ _ h => h) (by rfl) ?_ hA0 ?_
  rotate_left
  · intro V9 hA
    obtain ⟨f1, f2, f3, f4, f5, f6⟩ := HF.out _ hA
    clear hA
    go_simp
    try with_reducible rfl
  try simp only [Act.put, List.setIfInBounds_toArray, List.set_cons_zero, List.set_cons_succ]
  refine take1 6 (v := ?_) rfl (by kernel_rfl) (by kernel_rfl) (by kernel_rfl) (fun _ _ _ h => h) (by rfl) ?_ hA0 ?_
  rotate_left
  · intro V9 hA
    obtain ⟨f1, f2, f3, f4, f5, f6⟩ := HF.out _ hA
    clear hA
    go_simp
    try with_reducible rfl
  try simp only [Act.put, List.setIfInBounds_toArray, List.set_cons_zero, List.set_cons_succ]
  refine take1 7 (v := ?_) rfl (by kernel_rfl) (by kernel_rfl) (by kernel_rfl) (fun _ _ _ h => h) (by rfl) ?_ hA0 ?_
  rotate_left
  · intro V9 hA
    obtain ⟨f1, f2, f3, f4, f5, f6⟩ := HF.out _ hA
    clear hA
    go_simp
    try with_reducible rfl
  try simp only [Act.put, List.setIfInBounds_toArray, List.set_cons_zero, List.set_cons_succ]
  refine take1 8 (v := ?_) rfl (by kernel_rfl) (by kernel_rfl) (by kernel_rfl) (fun _ _ _ h => h) (by rfl) ?_ hA0 ?_
  rotate_left
  · intro V9 hA
    obtain ⟨f1, f2, f3, f4, f5, f6⟩ := HF.out _ hA
    clear hA
    go_simp
    try with_reducible rfl
  try simp only [Act.put, List.setIfInBounds_toArray, List.set_cons_zero, List.set_cons_succ]
  refine take1 9 (v := ?_) rfl (by kernel_rfl) (by kernel_rfl) (by kernel_rfl) (fun _ _ _ h => h) (by rfl) ?_ hA0 ?_
  rotate_left
  · intro V9 hA
    obtain ⟨f1, f2, f3, f4, f5, f6⟩ := HF.out _ hA
    clear hA
    go_simp
    try with_reducible rfl
  try simp only [Act.put, List.setIfInBounds_toArray, List.set_cons_zero, List.set_cons_succ]
  refine take1 10 (v := ?_) rfl (by kernel_rfl) (by kernel_rfl) (by kernel_rfl) (fun _ _ _ h => h) (by rfl) ?_ hA0 ?_
  rotate_left
  · intro V9 hA
    obtain ⟨f1, f2, f3, f4, f5, f6⟩ := HF.out _ hA
    clear hA
    go_simp
    try with_reducible rfl
  try simp only [Act.put, List.setIfInBounds_toArray, List.set_cons_zero, List.set_cons_succ]
  refine step1 5 (by kernel_rfl) rfl (fun K hK => ?_)
  go_simp
  refine (HX.out _ (HF.out _ hA0).2.2.2.2.2).mono ?_
  rintro e V1 ⟨rfl, hb1⟩
  go_wp2_with fail
  have hA1 := hA0.trans (hb1.mono hA0.size)
  refine hK.out _ _ hA1 ?_
  clear hK K
  try simp only [Act.put, List.setIfInBounds_toArray, List.set_cons_zero, List.set_cons_succ]
  refine step1 11 (by kernel_rfl) rfl (fun K hK => ?_)
  go_simp
  refine (HY.out _ (HF.out _ hA1).2.2.2.2.2).mono ?_
  rintro e V2 ⟨rfl, hb2⟩
  go_wp2_with fail
  have hA2 := hA1.trans (hb2.mono hA1.size)
  refine hK.out _ _ hA2 ?_
  clear hK K
  try simp only [Act.put, List.setIfInBounds_toArray, List.set_cons_zero, List.set_cons_succ]
  refine take1 12 (v := ?_) rfl (by kernel_rfl) (by kernel_rfl) (by kernel_rfl) (fun _ _ _ h => h) (by rfl) ?_ hA2 ?_
  rotate_left
  · intro V9 hA
    obtain ⟨f1, f2, f3, f4, f5, f6⟩ := HF.out _ hA
    have u5 := HL.out
    clear hA
    go_simp
    try with_reducible rfl
  try simp only [Act.put, List.setIfInBounds_toArray, List.set_cons_zero, List.set_cons_succ]
  refine take1 13 (v := ?_) rfl (by kernel_rfl) (by kernel_rfl) (by kernel_rfl) (fun _ _ _ h => h) (by rfl) ?_ hA2 ?_
  rotate_left
  · intro V9 hA
    obtain ⟨f1, f2, f3, f4, f5, f6⟩ := HF.out _ hA
    clear hA
    go_simp
    try with_reducible rfl
  try simp only [Act.put, List.setIfInBounds_toArray, List.set_cons_zero, List.set_cons_succ]
  refine stop1 (by kernel_rfl) ?_
  have hE := (HF.out _ hA2).2.2.2.2.2
  go_wp2
  go_ret
  exact ⟨rfl, hE⟩
set_option maxHeartbeats 2000000 in
theorem set_point (n : Nat) (a d : Tm) (h1 : 1 ≤ n) (h2 : n ≤ 12) (hoa : okT n a = true) (hod : okT n d = true) (iha : SetSays n a) (ihd : SetSays n d) : SetSays n (.two 46 a d) := by
  have hmx : Tryd.prog.follows .mixedOrders = true := by kernel_rfl
  intro v w hI
  obtain ⟨b, z, A, l, q, z2, A2, l2, q2, rfl, hb, c0, c1, c2, c3, hK, hK2⟩ := hI.openTwo
  have hc' : (((46 : UInt8).toNat : Nat) : Int) = 46 := rfl
  rw [hc']
  have HX := Lib.hid (fun W hb => iha _ W (hK.below hb a))
  have HY := Lib.hid (fun W hb => ihd _ W (hK2.below hb d))
  clear iha ihd hK hK2 hI
  have hs := set_lt n a h1 hoa
  have hs2 := set_lt n d h1 hod
  have HZ' := fun W => l1Sum_any n (setT n a) (setT n d) W h1 h2 hs hs2
  rw [sum_comm n (setT n d) (setT n a) h1 hs2 hs] at HZ'
  have HZ := Lib.hid HZ'
  clear HZ'
  have HV : Hid (setT n (.two 46 a d) = sumN n (setT n a) (setT n d)) := Lib.hid rfl
  rw [HV.out]
  clear hs hs2 HV
  generalize sumN n (setT n a) (setT n d) = R at *
  generalize setT n a = S at *
  generalize setT n d = T at *
  go_enter Tryd.func39, Tryd.ntmps39
  go_wp2_with fail
  obtain ⟨W0, hW0⟩ : ∃ W0, w.alloc (.cells #[.int .u8 (46), .slice (some ⟨b, 0, none⟩) 2 2] 50) = W0 := ⟨_, rfl⟩
  have HF : Hid (∀ W, Below W0.heap.size W0 W → W.cell? ⟨w.heap.size, 1, none⟩ = some (.slice (some ⟨b, 0, none⟩) 2 2) ∧ W.cell? ⟨b, 0, none⟩ = some (.int .u8 z) ∧ W.cell? ⟨b, 1, none⟩ = some (.slice A l q) ∧ W.cell? ⟨b, 2, none⟩ = some (.int .u8 z2) ∧ W.cell? ⟨b, 3, none⟩ = some (.slice A2 l2 q2) ∧ Below w.heap.size w W) := Lib.hid (fun W h => by
    obtain ⟨_, f1, f2⟩ := box_facts w W0 _ _ _ hW0 W h
    exact ⟨f1, kid_cell f2 hb c0, kid_cell f2 hb c1, kid_cell f2 hb c2, kid_cell f2 hb c3, f2⟩)
  rw [hW0]
  clear hW0 c0 c1 c2 c3
  have hA0 : Below W0.heap.size W0 W0.drew := (Below.refl _ _).drew
  refine wp_region_held_drew (S := fun V => Below W0.heap.size W0 V) hmx hA0 (fun _ => ?_)
  generalize W0.drew = V0 at *
  refine take1 0 (v := ?_) rfl (by kernel_rfl) (by kernel_rfl) (by kernel_rfl) (fun _ _ _ h => h) (by rfl) ?_ hA0 ?_
  rotate_left
  · intro V9 hA
    obtain ⟨f1, f2, f3, f4, f5, f6⟩ := HF.out _ hA
    clear hA
    go_simp
    try with_reducible rfl
  try simp only [Act.put, List.setIfInBounds_toArray, List.set_cons_zero, List.set_cons_succ]
  refine take1 1 (v := ?_) rfl (by kernel_rfl) (by kernel_rfl) (by kernel_rfl) (fun _ _ _ h => h) (by rfl) ?_ hA0 ?_
  rotate_left
  · intro V9 hA
    obtain ⟨f1, f2, f3, f4, f5, f6⟩ := HF.out _ hA
    clear hA
    go_simp
    try with_reducible rfl
  try simp only [Act.put, List.setIfInBounds_toArray, List.set_cons_zero, List.set_cons_succ]
  refine take1 2 (v := ?_) rfl (by kernel_rfl) (by kernel_rfl) (by kernel_rfl) (fun _ _ _ h => h) (by rfl) ?_ hA0 ?_
  rotate_left
  · intro V9 hA
    obtain ⟨f1, f2, f3, f4, f5, f6⟩ := HF.out _ hA
    clear hA
    go_simp
    try with_reducible rfl
  try simp only [Act.put, List.setIfInBounds_toArray, List.set_cons_zero, List.set_cons_succ]
  refine take1 3 (v := ?_) rfl (by kernel_rfl) (by kernel_rfl) (by kernel_rfl) (fun _ _ _ h => h) (by rfl) ?_ hA0 ?_
  rotate_left
  · intro V9 hA
    obtain ⟨f1, f2, f3, f4, f5, f6⟩ := HF.out _ hA
    clear hA
    go_simp
    try with_reducible rfl
  try simp only [Act.put, List.setIfInBounds_toArray, List.set_cons_zero, List.set_cons_succ]
  refine take1 4 (v := ?_) rfl (by kernel_rfl) (by kernel_rfl) (by kernel_rfl) (fun _ _ _ h => h) (by rfl) ?_ hA0 ?_
  rotate_left
  · intro V9 hA
    obtain ⟨f1, f2, f3, f4, f5, f6⟩ := HF.out _ hA
    clear hA
    go_simp
    try with_reducible rfl
  try simp only [Act.put, List.setIfInBounds_toArray, List.set_cons_zero, List.set_cons_succ]
  refine take1 5 (v := ?_) rfl (by kernel_rfl) (by kernel_rfl) (by kernel_rfl) (fun _ _ _ h => h) (by rfl) ?_ hA0 ?_
  rotate_left
  · intro V9 hA
    obtain ⟨f1, f2, f3, f4, f5, f6⟩ := HF.out _ hA
    clear hA
    go_simp
    try with_reducible rfl
  try simp only [Act.put, List.setIfInBounds_toArray, List.set_cons_zero, List.set_cons_succ]
  refine take1 7 (v := ?_) rfl (by kernel_rfl) (by kernel_rfl) (by kernel_rfl) (fun _ _ _ h => h) (by rfl) ?_ hA0 ?_
  rotate_left
  · intro V9 hA
    obtain ⟨f1, f2, f3, f4, f5, f6⟩ := HF.out _ hA
    clear hA
    go_simp
    try with_reducible rfl
  try simp only [Act.put, List.setIfInBounds_toArray, List.set_cons_zero, List.set_cons_succ]
  refine take1 8 (v := ?_) rfl (by kernel_rfl) (by kernel_rfl) (by kernel_rfl) (fun _ _ _ h => h) (by rfl) ?_ hA0 ?_
  rotate_left
  · intro V9 hA
    obtain ⟨f1, f2, f3, f4, f5, f6⟩ := HF.out _ hA
    clear hA
    go_simp
    try with_reducible rfl
  try simp only [Act.put, List.setIfInBounds_toArray, List.set_cons_zero, List.set_cons_succ]
  refine take1 9 (v := ?_) rfl (by kernel_rfl) (by kernel_rfl) (by kernel_rfl) (fun _ _ _ h => h) (by rfl) ?_ hA0 ?_
  rotate_left
  · intro V9 hA
    obtain ⟨f1, f2, f3, f4, f5, f6⟩ := HF.out _ hA
    clear hA
    go_simp
    try with_reducible rfl
  try simp only [Act.put, List.setIfInBounds_toArray, List.set_cons_zero, List.set_cons_succ]
  refine take1 10 (v := ?_) rfl (by kernel_rfl) (by kernel_rfl) (by kernel_rfl) (fun _ _ _ h => h) (by rfl) ?_ hA0 ?_
  rotate_left
  · intro V9 hA
    obtain ⟨f1, f2, f3, f4, f5, f6⟩ := HF.out _ hA
    clear hA
    go_simp
    try with_reducible rfl
  try simp only [Act.put, List.setIfInBounds_toArray, List.set_cons_zero, List.set_cons_succ]
  refine take1 11 (v := ?_) rfl (by kernel_rfl) (by kernel_rfl) (by kernel_rfl) (fun _ _ _ h => h) (by rfl) ?_ hA0 ?_
  rotate_left
  · intro V9 hA
    obtain ⟨f1, f2, f3, f4, f5, f6⟩ := HF.out _ hA
    clear hA
    go_simp
    try with_reducible rfl
  try simp only [Act.put, List.setIfInBounds_toArray, List.set_cons_zero, List.set_cons_succ]
  refine step1 6 (by kernel_rfl) rfl (fun K hK => ?_)
  go_simp
  refine (HX.out _ (HF.out _ hA0).2.2.2.2.2).mono ?_
  rintro e V1 ⟨rfl, hb1⟩
  go_wp2_with fail
  have hA1 := hA0.trans (hb1.mono hA0.size)
  refine hK.out _ _ hA1 ?_
  clear hK K
  try simp only [Act.put, List.setIfInBounds_toArray, List.set_cons_zero, List.set_cons_succ]
  refine step1 12 (by kernel_rfl) rfl (fun K hK => ?_)
  go_simp
  refine (HY.out _ (HF.out _ hA1).2.2.2.2.2).mono ?_
  rintro e V2 ⟨rfl, hb2⟩
  go_wp2_with fail
  have hA2 := hA1.trans (hb2.mono hA1.size)
  refine hK.out _ _ hA2 ?_
  clear hK K
  try simp only [Act.put, List.setIfInBounds_toArray, List.set_cons_zero, List.set_cons_succ]
  refine step1 13 (by kernel_rfl) rfl (fun K hK => ?_)
  go_simp
  refine (HZ.out _).mono ?_
  rintro e V9 ⟨rfl, rfl⟩
  go_wp2_with fail
  refine hK.out _ _ hA2 ?_
  clear hK K
  try simp only [Act.put, List.setIfInBounds_toArray, List.set_cons_zero, List.set_cons_succ]
  refine take1 14 (v := ?_) rfl (by kernel_rfl) (by kernel_rfl) (by kernel_rfl) (fun _ _ _ h => h) (by rfl) ?_ hA2 ?_
  rotate_left
  · intro V9 hA
    obtain ⟨f1, f2, f3, f4, f5, f6⟩ := HF.out _ hA
    clear hA
    go_simp
    try with_reducible rfl
  try simp only [Act.put, List.setIfInBounds_toArray, List.set_cons_zero, List.set_cons_succ]
  refine stop1 (by kernel_rfl) ?_
  have hE := (HF.out _ hA2).2.2.2.2.2
  go_wp2
  go_ret
  exact ⟨rfl, hE⟩
/-- The model tells the set of any term. -/
theorem l11Set_any (n : Nat) (h1 : 1 ≤ n) (h2 : n ≤ 12) (t : Tm) (ho : okT n t = true) : SetSays n t := by
  induction t with
  | leaf c => exact set_leaf n c h1 h2 ho
  | one c a ih =>
    have h' : (isFront c && okT n a) = true := ho
    rw [Bool.and_eq_true] at h'
    have hc := h'.1
    unfold isFront at hc
    rw [Bool.or_eq_true, beq_iff_eq, beq_iff_eq] at hc
    rcases hc with rfl | rfl
    · exact set_not n a h1 h2 h'.2 (ih h'.2)
    · exact set_minus n a h1 h2 h'.2 (ih h'.2)
  | two c a d iha ihd =>
    have h' : (isMid c && okT n a && okT n d) = true := ho
    rw [Bool.and_eq_true, Bool.and_eq_true] at h'
    have hc := h'.1.1
    unfold isMid at hc
    rw [Bool.or_eq_true, Bool.or_eq_true, beq_iff_eq, beq_iff_eq, beq_iff_eq] at hc
    rcases hc with (rfl | rfl) | rfl
    · exact set_or n a d h1 h2 h'.1.2 h'.2 (iha h'.1.2) (ihd h'.2)
    · exact set_and n a d h1 h2 h'.1.2 h'.2 (iha h'.1.2) (ihd h'.2)
    · exact set_point n a d h1 h2 h'.1.2 h'.2 (iha h'.1.2) (ihd h'.2)
end Go.Proofs.YtecjhkpldcmlaaaDoor
