/- Free sets, the program's side: neat sets. Written by gen45.py. -/
import Derived.Test.YtcmobeeneleidaaFrpA
namespace Go.Proofs.Ytcmobeeneleidaa
open Go.RowKit Go.Shelf
set_option linter.unusedVariables false
theorem take0 {P : Program} {md : Region.Mode} {Q : Exit → Act → World → Prop} {S : World → Prop} {L : List Oper} (i : Nat) {oi : Oper} {fuel : Nat} {listed : Array Bool} {a : Act} {w : World} (hi : L[i]? = some oi)
    (hs : Region.noSelect L.toArray = true) (hf : Region.free md L.toArray listed i = true) (hr : (Region.ready md L.toArray listed).contains i = true)
    (hQ : ∀ c a w, Q (.panic c) (a.put oi.dst undef) w → Q (.panic c) a w) (hw : Region.wanted oi (yielded L.toArray a.tmps) = false) (hS : S w)
    (h : wpAnyH P md L.toArray Q S fuel (listed.setIfInBounds i true) (a.put oi.dst undef) w) : wpAnyH P md L.toArray Q S (fuel + 1) listed a w :=
  wpAnyH_take (by simpa using hi) hs hf hr hQ (.inr ⟨by simpa using hw, rfl⟩) hS h
theorem isNeat_any (n s x : Nat) (w : World) (h1 : 1 ≤ n) (h2 : n ≤ 12) (hs : s < 2 ^ n) (hx : x < 2 ^ n) :
    Calls Try.prog 60 #[.agg #[.int .i64 (n:Int), .int .i64 (s:Int)], .int .i64 (x:Int)] w fun e w' => e = .returned (.bool (neatN n s x)) ∧ Below w.heap.size w w' := by
  have hmx : Try.prog.follows .mixedOrders = true := by kernel_rfl
  have hp := pow_le n h2
  have ho := or_one_lt n s h1 hs
  have HX := Lib.hid (fun W => placesSize_any x W (pow_mono h2 hx))
  have HO := Lib.hid (fun W => placesSize_any (s ||| 1) W (pow_mono h2 ho))
  have HW := Lib.hid (fun W => watched_any n s W h1 h2 hs)
  have HN := Lib.hid (fun W => watches_any n s x W h1 h2 hs hx)
  have hz1 := sizeN_le n x h2 hx
  have hz2 := sizeN_le n (s ||| 1) h2 ho
  have hm : sizeN x * sizeN (s ||| 1) ≤ 144 := Nat.mul_le_mul (Nat.le_trans hz1 h2) (Nat.le_trans hz2 h2)
  have HE : Hid (neatN n s x = (Nat.beq (sizeN x * sizeN (s ||| 1)) n && wideN n s x)) := Lib.hid rfl
  generalize neatN n s x = b at *
  generalize wideN n s x = c at *
  have hwi : IntKind.i64.wrap (((sizeN x : Nat) : Int) * ((sizeN (s ||| 1) : Nat) : Int)) = ((sizeN x * sizeN (s ||| 1) : Nat) : Int) := by
    rw [show ((sizeN x : Nat) : Int) * ((sizeN (s ||| 1) : Nat) : Int) = ((sizeN x * sizeN (s ||| 1) : Nat) : Int) from (Int.natCast_mul _ _).symm]
    exact IntWalk.i64_in _ ⟨by omega, by omega⟩
  have hwj : wrap64 (((sizeN x : Nat) : Int) * ((sizeN (s ||| 1) : Nat) : Int)) = ((sizeN x * sizeN (s ||| 1) : Nat) : Int) := by
    rw [show ((sizeN x : Nat) : Int) * ((sizeN (s ||| 1) : Nat) : Int) = ((sizeN x * sizeN (s ||| 1) : Nat) : Int) from (Int.natCast_mul _ _).symm]
    exact IntWalk.wrap64_in _ (by omega)
  generalize sizeN x * sizeN (s ||| 1) = u at *
  generalize sizeN x = z1 at *
  generalize sizeN (s ||| 1) = z2 at *
  generalize s ||| 1 = o at *
  clear hm hz1 hz2 ho
  by_cases hu : n = u
  · subst hu
    rw [Nat.beq_refl, Bool.true_and] at HE
    go_enter Try.func60, Try.ntmps60
    go_wp2_with fail
    have hA0 := Duo.new w 39 (.int .i64 (n:Int)) (.int .i64 (s:Int))
    have hB0 : Below w.heap.size w (w.alloc (.cells #[.int .i64 (n:Int), .int .i64 (s:Int)] 39)) := (Below.refl _ _).alloc (Nat.le_refl _) _
    obtain ⟨W0, hW0⟩ : ∃ W0, w.alloc (.cells #[.int .i64 (n:Int), .int .i64 (s:Int)] 39) = W0 := ⟨_, rfl⟩
    rw [hW0] at hA0 hB0 ⊢
    clear hW0
    have hA0 : Duo W0.drew w.heap.size 39 (.int .i64 (n:Int)) (.int .i64 (s:Int)) := hA0
    have hB0 : Below w.heap.size w W0.drew := hB0.drew
    refine wp_region_held_drew (S := fun W => Duo W w.heap.size 39 (.int .i64 (n:Int)) (.int .i64 (s:Int))) hmx hA0 (fun _ => ?_)
    generalize W0.drew = W4 at *
    refine take1 0 (v := ?_) rfl (by kernel_rfl) (by kernel_rfl) (by kernel_rfl) (fun _ _ _ h => h) (by rfl) ?_ hA0 ?_
    rotate_left
    · intro W9 hA
      have c0 := hA.cell0
      have c1 := hA.cell1
      clear hA
      go_simp
      try with_reducible rfl
    try simp only [Act.put, List.setIfInBounds_toArray, List.set_cons_zero, List.set_cons_succ]
    refine take1 2 (v := ?_) rfl (by kernel_rfl) (by kernel_rfl) (by kernel_rfl) (fun _ _ _ h => h) (by rfl) ?_ hA0 ?_
    rotate_left
    · intro W9 hA
      have c0 := hA.cell0
      have c1 := hA.cell1
      clear hA
      go_simp
      try with_reducible rfl
    try simp only [Act.put, List.setIfInBounds_toArray, List.set_cons_zero, List.set_cons_succ]
    refine take1 6 (v := ?_) rfl (by kernel_rfl) (by kernel_rfl) (by kernel_rfl) (fun _ _ _ h => h) (by rfl) ?_ hA0 ?_
    rotate_left
    · intro W9 hA
      have c0 := hA.cell0
      have c1 := hA.cell1
      clear hA
      go_simp
      try with_reducible rfl
    try simp only [Act.put, List.setIfInBounds_toArray, List.set_cons_zero, List.set_cons_succ]
    refine take1 7 (v := ?_) rfl (by kernel_rfl) (by kernel_rfl) (by kernel_rfl) (fun _ _ _ h => h) (by rfl) ?_ hA0 ?_
    rotate_left
    · intro W9 hA
      have c0 := hA.cell0
      have c1 := hA.cell1
      clear hA
      go_simp
      try with_reducible rfl
    try simp only [Act.put, List.setIfInBounds_toArray, List.set_cons_zero, List.set_cons_succ]
    refine take1 8 (v := ?_) rfl (by kernel_rfl) (by kernel_rfl) (by kernel_rfl) (fun _ _ _ h => h) (by rfl) ?_ hA0 ?_
    rotate_left
    · intro W9 hA
      have c0 := hA.cell0
      have c1 := hA.cell1
      clear hA
      go_simp
      try with_reducible rfl
    try simp only [Act.put, List.setIfInBounds_toArray, List.set_cons_zero, List.set_cons_succ]
    refine step1 1 (by kernel_rfl) rfl (fun K hK => ?_)
    go_simp
    refine (HX.out _).mono ?_
    rintro e W1 ⟨rfl, hb1⟩
    go_wp2_with fail
    have hA1 := duo_below hA0 hA0.lt hb1
    have hB1 := hB0.trans (hb1.mono hB0.size)
    refine hK.out _ _ hA1 ?_
    clear hK K
    try simp only [Act.put, List.setIfInBounds_toArray, List.set_cons_zero, List.set_cons_succ]
    refine step1 3 (by kernel_rfl) rfl (fun K hK => ?_)
    go_simp
    refine (HW.out _).mono ?_
    rintro e W2 ⟨rfl, hb2⟩
    go_wp2_with fail
    have hA2 := duo_below hA1 hA1.lt hb2
    have hB2 := hB1.trans (hb2.mono hB1.size)
    refine hK.out _ _ hA2 ?_
    clear hK K
    try simp only [Act.put, List.setIfInBounds_toArray, List.set_cons_zero, List.set_cons_succ]
    refine step1 4 (by kernel_rfl) rfl (fun K hK => ?_)
    go_simp
    refine (HO.out _).mono ?_
    rintro e W3 ⟨rfl, hb3⟩
    go_wp2_with fail
    have hA3 := duo_below hA2 hA2.lt hb3
    have hB3 := hB2.trans (hb3.mono hB2.size)
    refine hK.out _ _ hA3 ?_
    clear hK K
    try simp only [Act.put, List.setIfInBounds_toArray, List.set_cons_zero, List.set_cons_succ]
    refine take1 5 (v := ?_) rfl (by kernel_rfl) (by kernel_rfl) (by kernel_rfl) (fun _ _ _ h => h) (by rfl) ?_ hA3 ?_
    rotate_left
    · intro W9 hA
      have c0 := hA.cell0
      have c1 := hA.cell1
      clear hA
      go_simp
      try with_reducible rfl
    try simp only [Act.put, List.setIfInBounds_toArray, List.set_cons_zero, List.set_cons_succ]
    refine take1 9 (v := ?_) rfl (by kernel_rfl) (by kernel_rfl) (by kernel_rfl) (fun _ _ _ h => h) (by rfl) ?_ hA3 ?_
    rotate_left
    · intro W9 hA
      have c0 := hA.cell0
      have c1 := hA.cell1
      clear hA
      go_simp
      try with_reducible rfl
    try simp only [Act.put, List.setIfInBounds_toArray, List.set_cons_zero, List.set_cons_succ]
    refine take1 10 (v := ?_) rfl (by kernel_rfl) (by kernel_rfl) (by kernel_rfl) (fun _ _ _ h => h) (by rfl) ?_ hA3 ?_
    rotate_left
    · intro W9 hA
      have c0 := hA.cell0
      have c1 := hA.cell1
      clear hA
      go_simp
      try with_reducible rfl
    try simp only [Act.put, List.setIfInBounds_toArray, List.set_cons_zero, List.set_cons_succ]
    refine take1 11 (v := ?_) rfl (by kernel_rfl) (by kernel_rfl) (by kernel_rfl) (fun _ _ _ h => h) (by rfl) ?_ hA3 ?_
    rotate_left
    · intro W9 hA
      have c0 := hA.cell0
      have c1 := hA.cell1
      clear hA
      go_simp
      try with_reducible rfl
    try simp only [Act.put, List.setIfInBounds_toArray, List.set_cons_zero, List.set_cons_succ]
    refine take1 12 (v := ?_) rfl (by kernel_rfl) (by kernel_rfl) (by kernel_rfl) (fun _ _ _ h => h) (by rfl) ?_ hA3 ?_
    rotate_left
    · intro W9 hA
      have c0 := hA.cell0
      have c1 := hA.cell1
      clear hA
      go_simp
      try with_reducible rfl
    try simp only [Act.put, List.setIfInBounds_toArray, List.set_cons_zero, List.set_cons_succ]
    refine step1 13 (by kernel_rfl) rfl (fun K hK => ?_)
    go_simp
    refine (HN.out _).mono ?_
    rintro e W4 ⟨rfl, hb4⟩
    go_wp2_with fail
    have hA4 := duo_below hA3 hA3.lt hb4
    have hB4 := hB3.trans (hb4.mono hB3.size)
    refine hK.out _ _ hA4 ?_
    clear hK K
    try simp only [Act.put, List.setIfInBounds_toArray, List.set_cons_zero, List.set_cons_succ]
    refine take1 14 (v := ?_) rfl (by kernel_rfl) (by kernel_rfl) (by kernel_rfl) (fun _ _ _ h => h) (by rfl) ?_ hA4 ?_
    rotate_left
    · intro W9 hA
      have c0 := hA.cell0
      have c1 := hA.cell1
      clear hA
      go_simp
      try with_reducible rfl
    try simp only [Act.put, List.setIfInBounds_toArray, List.set_cons_zero, List.set_cons_succ]
    refine take1 15 (v := ?_) rfl (by kernel_rfl) (by kernel_rfl) (by kernel_rfl) (fun _ _ _ h => h) (by rfl) ?_ hA4 ?_
    rotate_left
    · intro W9 hA
      have c0 := hA.cell0
      have c1 := hA.cell1
      clear hA
      go_simp
      try with_reducible rfl
    try simp only [Act.put, List.setIfInBounds_toArray, List.set_cons_zero, List.set_cons_succ]
    refine stop1 (by kernel_rfl) ?_
    go_wp2
    go_ret
    exact ⟨ret_bool (by first | exact HE.out.symm | simpa using HE.out.symm), hB4⟩
  · have e1 : ((u : Int) == (n : Int)) = false := beq_cast_ne (fun h => hu h.symm)
    have e3 : Nat.beq u n = false := by
      cases hb : Nat.beq u n
      · rfl
      · exact absurd (Nat.eq_of_beq_eq_true hb) (fun h => hu h.symm)
    rw [e3, Bool.false_and] at HE
    clear hu e3
    go_enter Try.func60, Try.ntmps60
    go_wp2_with fail
    have hA0 := Duo.new w 39 (.int .i64 (n:Int)) (.int .i64 (s:Int))
    have hB0 : Below w.heap.size w (w.alloc (.cells #[.int .i64 (n:Int), .int .i64 (s:Int)] 39)) := (Below.refl _ _).alloc (Nat.le_refl _) _
    obtain ⟨W0, hW0⟩ : ∃ W0, w.alloc (.cells #[.int .i64 (n:Int), .int .i64 (s:Int)] 39) = W0 := ⟨_, rfl⟩
    rw [hW0] at hA0 hB0 ⊢
    clear hW0
    have hA0 : Duo W0.drew w.heap.size 39 (.int .i64 (n:Int)) (.int .i64 (s:Int)) := hA0
    have hB0 : Below w.heap.size w W0.drew := hB0.drew
    refine wp_region_held_drew (S := fun W => Duo W w.heap.size 39 (.int .i64 (n:Int)) (.int .i64 (s:Int))) hmx hA0 (fun _ => ?_)
    generalize W0.drew = W4 at *
    refine take1 0 (v := ?_) rfl (by kernel_rfl) (by kernel_rfl) (by kernel_rfl) (fun _ _ _ h => h) (by rfl) ?_ hA0 ?_
    rotate_left
    · intro W9 hA
      have c0 := hA.cell0
      have c1 := hA.cell1
      clear hA
      go_simp
      try with_reducible rfl
    try simp only [Act.put, List.setIfInBounds_toArray, List.set_cons_zero, List.set_cons_succ]
    refine take1 2 (v := ?_) rfl (by kernel_rfl) (by kernel_rfl) (by kernel_rfl) (fun _ _ _ h => h) (by rfl) ?_ hA0 ?_
    rotate_left
    · intro W9 hA
      have c0 := hA.cell0
      have c1 := hA.cell1
      clear hA
      go_simp
      try with_reducible rfl
    try simp only [Act.put, List.setIfInBounds_toArray, List.set_cons_zero, List.set_cons_succ]
    refine take1 6 (v := ?_) rfl (by kernel_rfl) (by kernel_rfl) (by kernel_rfl) (fun _ _ _ h => h) (by rfl) ?_ hA0 ?_
    rotate_left
    · intro W9 hA
      have c0 := hA.cell0
      have c1 := hA.cell1
      clear hA
      go_simp
      try with_reducible rfl
    try simp only [Act.put, List.setIfInBounds_toArray, List.set_cons_zero, List.set_cons_succ]
    refine take1 7 (v := ?_) rfl (by kernel_rfl) (by kernel_rfl) (by kernel_rfl) (fun _ _ _ h => h) (by rfl) ?_ hA0 ?_
    rotate_left
    · intro W9 hA
      have c0 := hA.cell0
      have c1 := hA.cell1
      clear hA
      go_simp
      try with_reducible rfl
    try simp only [Act.put, List.setIfInBounds_toArray, List.set_cons_zero, List.set_cons_succ]
    refine take1 8 (v := ?_) rfl (by kernel_rfl) (by kernel_rfl) (by kernel_rfl) (fun _ _ _ h => h) (by rfl) ?_ hA0 ?_
    rotate_left
    · intro W9 hA
      have c0 := hA.cell0
      have c1 := hA.cell1
      clear hA
      go_simp
      try with_reducible rfl
    try simp only [Act.put, List.setIfInBounds_toArray, List.set_cons_zero, List.set_cons_succ]
    refine step1 1 (by kernel_rfl) rfl (fun K hK => ?_)
    go_simp
    refine (HX.out _).mono ?_
    rintro e W1 ⟨rfl, hb1⟩
    go_wp2_with fail
    have hA1 := duo_below hA0 hA0.lt hb1
    have hB1 := hB0.trans (hb1.mono hB0.size)
    refine hK.out _ _ hA1 ?_
    clear hK K
    try simp only [Act.put, List.setIfInBounds_toArray, List.set_cons_zero, List.set_cons_succ]
    refine step1 3 (by kernel_rfl) rfl (fun K hK => ?_)
    go_simp
    refine (HW.out _).mono ?_
    rintro e W2 ⟨rfl, hb2⟩
    go_wp2_with fail
    have hA2 := duo_below hA1 hA1.lt hb2
    have hB2 := hB1.trans (hb2.mono hB1.size)
    refine hK.out _ _ hA2 ?_
    clear hK K
    try simp only [Act.put, List.setIfInBounds_toArray, List.set_cons_zero, List.set_cons_succ]
    refine step1 4 (by kernel_rfl) rfl (fun K hK => ?_)
    go_simp
    refine (HO.out _).mono ?_
    rintro e W3 ⟨rfl, hb3⟩
    go_wp2_with fail
    have hA3 := duo_below hA2 hA2.lt hb3
    have hB3 := hB2.trans (hb3.mono hB2.size)
    refine hK.out _ _ hA3 ?_
    clear hK K
    try simp only [Act.put, List.setIfInBounds_toArray, List.set_cons_zero, List.set_cons_succ]
    refine take1 5 (v := ?_) rfl (by kernel_rfl) (by kernel_rfl) (by kernel_rfl) (fun _ _ _ h => h) (by rfl) ?_ hA3 ?_
    rotate_left
    · intro W9 hA
      have c0 := hA.cell0
      have c1 := hA.cell1
      clear hA
      go_simp
      try with_reducible rfl
    try simp only [Act.put, List.setIfInBounds_toArray, List.set_cons_zero, List.set_cons_succ]
    refine take1 9 (v := ?_) rfl (by kernel_rfl) (by kernel_rfl) (by kernel_rfl) (fun _ _ _ h => h) (by rfl) ?_ hA3 ?_
    rotate_left
    · intro W9 hA
      have c0 := hA.cell0
      have c1 := hA.cell1
      clear hA
      go_simp
      try with_reducible rfl
    try simp only [Act.put, List.setIfInBounds_toArray, List.set_cons_zero, List.set_cons_succ]
    refine take1 10 (v := ?_) rfl (by kernel_rfl) (by kernel_rfl) (by kernel_rfl) (fun _ _ _ h => h) (by rfl) ?_ hA3 ?_
    rotate_left
    · intro W9 hA
      have c0 := hA.cell0
      have c1 := hA.cell1
      clear hA
      go_simp
      try with_reducible rfl
    try simp only [Act.put, List.setIfInBounds_toArray, List.set_cons_zero, List.set_cons_succ]
    refine take0 11 rfl (by kernel_rfl) (by kernel_rfl) (by kernel_rfl) (fun _ _ _ h => h) (by rfl) hA3 ?_
    try simp only [Act.put, List.setIfInBounds_toArray, List.set_cons_zero, List.set_cons_succ]
    refine take0 12 rfl (by kernel_rfl) (by kernel_rfl) (by kernel_rfl) (fun _ _ _ h => h) (by rfl) hA3 ?_
    try simp only [Act.put, List.setIfInBounds_toArray, List.set_cons_zero, List.set_cons_succ]
    refine take0 13 rfl (by kernel_rfl) (by kernel_rfl) (by kernel_rfl) (fun _ _ _ h => h) (by rfl) hA3 ?_
    try simp only [Act.put, List.setIfInBounds_toArray, List.set_cons_zero, List.set_cons_succ]
    refine take1 14 (v := ?_) rfl (by kernel_rfl) (by kernel_rfl) (by kernel_rfl) (fun _ _ _ h => h) (by rfl) ?_ hA3 ?_
    rotate_left
    · intro W9 hA
      have c0 := hA.cell0
      have c1 := hA.cell1
      clear hA
      go_simp
      try with_reducible rfl
    try simp only [Act.put, List.setIfInBounds_toArray, List.set_cons_zero, List.set_cons_succ]
    refine take1 15 (v := ?_) rfl (by kernel_rfl) (by kernel_rfl) (by kernel_rfl) (fun _ _ _ h => h) (by rfl) ?_ hA3 ?_
    rotate_left
    · intro W9 hA
      have c0 := hA.cell0
      have c1 := hA.cell1
      clear hA
      go_simp
      try with_reducible rfl
    try simp only [Act.put, List.setIfInBounds_toArray, List.set_cons_zero, List.set_cons_succ]
    refine stop1 (by kernel_rfl) ?_
    go_wp2
    go_ret
    exact ⟨ret_bool (by first | exact HE.out.symm | simpa using HE.out.symm), hB3⟩
end Go.Proofs.Ytcmobeeneleidaa
