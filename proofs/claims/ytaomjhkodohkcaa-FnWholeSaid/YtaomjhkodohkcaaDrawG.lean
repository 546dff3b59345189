/- The draws of chapter 7. Written by gen56.py. -/
import Derived.Test.YtaomjhkodohkcaaGM
import Derived.Test.YtaomjhkodohkcaaGB
import Derived.Test.YtaomjhkodohkcaaGC
namespace Go.Proofs.Ytaomjhkodohkcaa
open Go.RowKit Go.Shelf
set_option linter.unusedVariables false
theorem Aside.kept_duo {T : Nat} {W W' : World} (h : Aside T W W') {B : Nat} {t : TypeId} {u v : Value} (hB : Duo W B t u v) (hn : B ≠ T) : Duo W' B t u v := (h.block B hB.lt hn).trans hB
theorem Aside.kept_cell {T : Nat} {W W' : World} (h : Aside T W W') {a : Addr} {v : Value} (hc : W.cell? a = some v) (hn : a.block ≠ T) : W'.cell? a = some v :=
  (World.cell?_of_block (h.block a.block (World.block_lt_of_cell? W a hc) hn)).trans hc
/-- Nine rows of a ring and a set. -/
def Tab9 (W : World) (g R : Nat) : Prop := ∀ k : Nat, k < 9 → ∃ gk n s : Nat, gk ≠ R ∧ W.cell? ⟨g, k, none⟩ = some (.slice (some ⟨gk, 0, none⟩) 2 2) ∧ Duo W gk 3 (.int .i64 (n : Int)) (.int .i64 (s : Int)) ∧ 1 ≤ n ∧ n ≤ 12 ∧ s < 2 ^ n
theorem Reader.adrew {W : World} {B R p : Nat} (h : Reader W B R p) : Reader W.drew B R p := by
  obtain ⟨⟨A, len, cap, f, h1, h2, h3⟩, hB⟩ := h
  exact ⟨⟨A, len, cap, f, h1, ⟨h2.byte, h2.cell⟩, h3⟩, hB⟩
theorem Reader.beneath {W W' : World} {B R p h : Nat} (k : Reader W B R p) (hb : Below h W W') (hR : R < h) : Reader W' B R p := by
  obtain ⟨⟨A, len, cap, f, h1, h2, h3⟩, hB⟩ := k
  exact ⟨⟨A, len, cap, f, (hb.block R hR).trans h1, h2.below (hb.mono (by omega)), h3⟩, hB⟩
set_option maxHeartbeats 2000000 in
theorem named_any (W : World) (B R p g : Nat) (h : Reader W B R p) (hp : p ≤ 900) (hT : Tab9 W g R) (hg : g ≠ R) :
    Calls Try.prog 64 #[.pointer (some ⟨R, 0, none⟩), .slice (some ⟨g, 0, none⟩) 9 9] W (SetPost W B R p) := by
  have hmx : Try.prog.follows .mixedOrders = true := by kernel_rfl
  have HR := Lib.hid h
  have HT := Lib.hid hT
  have HG := Lib.hid hg
  clear h hT hg
  go_enter Try.func64, Try.ntmps64
  go_wp2_with fail
  refine (draw_any W B R p 9 HR.out (by omega) (by omega) (by omega)).mono ?_
  rintro e w1 ⟨k, rfl, hk0, hR1, hA1⟩
  have hk : k < 9 := by have := hk0 (by omega); omega
  obtain ⟨gk, n, s, hgk, ck, hD, h1, h2, hs⟩ := HT.out k hk
  have ck1 := hA1.kept_cell ck HG.out
  have HD1 := Lib.hid (hA1.kept_duo hD hgk)
  have hc0 := HD1.out.cell0
  have hc1 := HD1.out.cell1
  have HR1 := Lib.hid hR1
  have HA1 := Lib.hid hA1
  have HGk := Lib.hid hgk
  clear hR1 hA1 hk0 ck hD hgk
  have i1 : (0 : Int) ≤ (k : Int) := by omega
  have i2 : (k : Int) < 9 := by omega
  go_wp2_with fail
  refine (draw_any w1 B R (p + 1) (n : Int) HR1.out (by omega) (by omega) (by omega)).mono ?_
  rintro e w2 ⟨m, rfl, hm0, hR2, hA2⟩
  have hm : m < n := by have := hm0 (by omega); omega
  have ck2 := hA2.kept_cell ck1 HG.out
  have HD2 := Lib.hid (hA2.kept_duo HD1.out HGk.out)
  have HR2 := Lib.hid hR2
  have HA2 := Lib.hid (HA1.out.trans hA2)
  clear hR2 hA2 hm0 hc0 hc1 ck1
  have hd0 := HD2.out.cell0
  have hd1 := HD2.out.cell1
  have HU := Lib.hid (fun W => l1Units_any n W h1 h2)
  have hu := unitsN_lt n
  have hpn := pow_le n h2
  have hbt := has_nat0 (unitsN n) m (by omega)
  generalize unitsN n = U at *
  have HMp := Lib.hid (fun (m j : Nat) (hm : m < 13) (hj : j < 13) W => l1Map_any n s (m : Int) (j : Int) W h1 h2 (pow_mono h2 hs) (by omega) (by omega) (by omega) (by omega))
  have HMl := Lib.hid (fun (m j : Nat) => Nat.lt_of_lt_of_le (mapN_lt n s (m : Int) (j : Int) n h1) (Nat.pow_le_pow_right (n := 2) (by omega) (show n ≤ 13 by omega)))
  cases hb : U.testBit m
  · rw [hb] at hbt
    clear hb
    go_wp2_with (go_at_call 61; refine (HU.out _).mono ?_; rintro e w3 ⟨rfl, rfl⟩)
    have hS0 : w2.drew.cell? ⟨g, k, none⟩ = some (.slice (some ⟨gk, 0, none⟩) 2 2) ∧ w2.drew.cell? ⟨gk, 0, none⟩ = some (.int .i64 (n : Int)) ∧ w2.drew.cell? ⟨gk, 1, none⟩ = some (.int .i64 (s : Int)) := ⟨ck2, hd0, hd1⟩
    have HR4 : Hid (Reader w2.drew B R (p + 1 + 1)) := Lib.hid HR2.out.adrew
    have HA4 : Hid (Aside R W w2.drew) := Lib.hid ⟨HA2.out.os, HA2.out.tape, HA2.out.output, HA2.out.size, HA2.out.block⟩
    have HD4 : Hid (Duo w2.drew gk 3 (.int .i64 (n : Int)) (.int .i64 (s : Int))) := HD2
    clear ck2 hd0 hd1
    refine wp_region_held_drew (S := fun W => W.cell? ⟨g, k, none⟩ = some (.slice (some ⟨gk, 0, none⟩) 2 2) ∧ W.cell? ⟨gk, 0, none⟩ = some (.int .i64 (n : Int)) ∧ W.cell? ⟨gk, 1, none⟩ = some (.int .i64 (s : Int))) hmx hS0 (fun _ => ?_)
    generalize w2.drew = W4 at *
    refine take1 0 (v := ?_) rfl (by kernel_rfl) (by kernel_rfl) (by kernel_rfl) (fun _ _ _ h => h) (by rfl) ?_ hS0 ?_
    rotate_left
    · intro W9 hA
      obtain ⟨q1, q2, q3⟩ := hA
      go_simp
      try with_reducible rfl
    try simp only [Act.put, List.setIfInBounds_toArray, List.set_cons_zero, List.set_cons_succ]
    refine take1 1 (v := ?_) rfl (by kernel_rfl) (by kernel_rfl) (by kernel_rfl) (fun _ _ _ h => h) (by rfl) ?_ hS0 ?_
    rotate_left
    · intro W9 hA
      obtain ⟨q1, q2, q3⟩ := hA
      go_simp
      try with_reducible rfl
    try simp only [Act.put, List.setIfInBounds_toArray, List.set_cons_zero, List.set_cons_succ]
    refine take1 2 (v := ?_) rfl (by kernel_rfl) (by kernel_rfl) (by kernel_rfl) (fun _ _ _ h => h) (by rfl) ?_ hS0 ?_
    rotate_left
    · intro W9 hA
      obtain ⟨q1, q2, q3⟩ := hA
      go_simp
      try with_reducible rfl
    try simp only [Act.put, List.setIfInBounds_toArray, List.set_cons_zero, List.set_cons_succ]
    refine take1 3 (v := ?_) rfl (by kernel_rfl) (by kernel_rfl) (by kernel_rfl) (fun _ _ _ h => h) (by rfl) ?_ hS0 ?_
    rotate_left
    · intro W9 hA
      obtain ⟨q1, q2, q3⟩ := hA
      go_simp
      try with_reducible rfl
    try simp only [Act.put, List.setIfInBounds_toArray, List.set_cons_zero, List.set_cons_succ]
    refine take1 4 (v := ?_) rfl (by kernel_rfl) (by kernel_rfl) (by kernel_rfl) (fun _ _ _ h => h) (by rfl) ?_ hS0 ?_
    rotate_left
    · intro W9 hA
      obtain ⟨q1, q2, q3⟩ := hA
      go_simp
      try with_reducible rfl
    try simp only [Act.put, List.setIfInBounds_toArray, List.set_cons_zero, List.set_cons_succ]
    refine take1 5 (v := ?_) rfl (by kernel_rfl) (by kernel_rfl) (by kernel_rfl) (fun _ _ _ h => h) (by rfl) ?_ hS0 ?_
    rotate_left
    · intro W9 hA
      obtain ⟨q1, q2, q3⟩ := hA
      go_simp
      try with_reducible rfl
    try simp only [Act.put, List.setIfInBounds_toArray, List.set_cons_zero, List.set_cons_succ]
    refine take1 6 (v := ?_) rfl (by kernel_rfl) (by kernel_rfl) (by kernel_rfl) (fun _ _ _ h => h) (by rfl) ?_ hS0 ?_
    rotate_left
    · intro W9 hA
      obtain ⟨q1, q2, q3⟩ := hA
      go_simp
      try with_reducible rfl
    try simp only [Act.put, List.setIfInBounds_toArray, List.set_cons_zero, List.set_cons_succ]
    refine take1 7 (v := ?_) rfl (by kernel_rfl) (by kernel_rfl) (by kernel_rfl) (fun _ _ _ h => h) (by rfl) ?_ hS0 ?_
    rotate_left
    · intro W9 hA
      obtain ⟨q1, q2, q3⟩ := hA
      go_simp
      try with_reducible rfl
    try simp only [Act.put, List.setIfInBounds_toArray, List.set_cons_zero, List.set_cons_succ]
    refine take1 8 (v := ?_) rfl (by kernel_rfl) (by kernel_rfl) (by kernel_rfl) (fun _ _ _ h => h) (by rfl) ?_ hS0 ?_
    rotate_left
    · intro W9 hA
      obtain ⟨q1, q2, q3⟩ := hA
      go_simp
      try with_reducible rfl
    try simp only [Act.put, List.setIfInBounds_toArray, List.set_cons_zero, List.set_cons_succ]
    refine take1 9 (v := ?_) rfl (by kernel_rfl) (by kernel_rfl) (by kernel_rfl) (fun _ _ _ h => h) (by rfl) ?_ hS0 ?_
    rotate_left
    · intro W9 hA
      obtain ⟨q1, q2, q3⟩ := hA
      go_simp
      try with_reducible rfl
    try simp only [Act.put, List.setIfInBounds_toArray, List.set_cons_zero, List.set_cons_succ]
    refine take1 10 (v := ?_) rfl (by kernel_rfl) (by kernel_rfl) (by kernel_rfl) (fun _ _ _ h => h) (by rfl) ?_ hS0 ?_
    rotate_left
    · intro W9 hA
      obtain ⟨q1, q2, q3⟩ := hA
      go_simp
      try with_reducible rfl
    try simp only [Act.put, List.setIfInBounds_toArray, List.set_cons_zero, List.set_cons_succ]
    refine step1 11 (by kernel_rfl) rfl (fun K hK => ?_)
    go_simp
    refine (draw_any W4 B R (p + 1 + 1) (n : Int) HR4.out (by omega) (by omega) (by omega)).mono ?_
    rintro e W5 ⟨j, rfl, hj0, hR5, hA5⟩
    have hj : j < n := by have := hj0 (by omega); omega
    have hS5 : W5.cell? ⟨g, k, none⟩ = some (.slice (some ⟨gk, 0, none⟩) 2 2) ∧ W5.cell? ⟨gk, 0, none⟩ = some (.int .i64 (n : Int)) ∧ W5.cell? ⟨gk, 1, none⟩ = some (.int .i64 (s : Int)) := ⟨hA5.kept_cell hS0.1 HG.out, (hA5.kept_duo HD4.out HGk.out).cell0, (hA5.kept_duo HD4.out HGk.out).cell1⟩
    have HR5 := Lib.hid hR5
    have HA5 := Lib.hid (HA4.out.trans hA5)
    clear hR5 hA5 hj0
    go_wp2_with fail
    refine hK.out _ _ hS5 ?_
    clear hK K
    try simp only [Act.put, List.setIfInBounds_toArray, List.set_cons_zero, List.set_cons_succ]
    refine step1 12 (by kernel_rfl) rfl (fun K hK => ?_)
    go_simp
    refine (HMp.out 1 j (by omega) (by omega) _).mono ?_
    rintro e W6 ⟨rfl, rfl⟩
    go_wp2_with fail
    refine hK.out _ _ hS5 ?_
    clear hK K
    try simp only [Act.put, List.setIfInBounds_toArray, List.set_cons_zero, List.set_cons_succ]
    refine take1 13 (v := ?_) rfl (by kernel_rfl) (by kernel_rfl) (by kernel_rfl) (fun _ _ _ h => h) (by rfl) ?_ hS5 ?_
    rotate_left
    · intro W9 hA
      obtain ⟨q1, q2, q3⟩ := hA
      go_simp
      try with_reducible rfl
    try simp only [Act.put, List.setIfInBounds_toArray, List.set_cons_zero, List.set_cons_succ]
    refine take1 14 (v := ?_) rfl (by kernel_rfl) (by kernel_rfl) (by kernel_rfl) (fun _ _ _ h => h) (by rfl) ?_ hS5 ?_
    rotate_left
    · intro W9 hA
      obtain ⟨q1, q2, q3⟩ := hA
      go_simp
      try with_reducible rfl
    try simp only [Act.put, List.setIfInBounds_toArray, List.set_cons_zero, List.set_cons_succ]
    refine stop1 (by kernel_rfl) ?_
    go_wp2
    go_ret2
    exact ⟨n, mapN n s ((1 : Nat) : Int) (j : Int) n, p + 1 + 1 + 1, rfl, h1, by omega, HMl.out 1 j, by omega, HR5.out, HA5.out⟩
  · rw [hb] at hbt
    clear hb
    go_wp2_with (go_at_call 61; refine (HU.out _).mono ?_; rintro e w3 ⟨rfl, rfl⟩)
    have hS0 : w2.drew.cell? ⟨g, k, none⟩ = some (.slice (some ⟨gk, 0, none⟩) 2 2) ∧ w2.drew.cell? ⟨gk, 0, none⟩ = some (.int .i64 (n : Int)) ∧ w2.drew.cell? ⟨gk, 1, none⟩ = some (.int .i64 (s : Int)) := ⟨ck2, hd0, hd1⟩
    have HR4 : Hid (Reader w2.drew B R (p + 1 + 1)) := Lib.hid HR2.out.adrew
    have HA4 : Hid (Aside R W w2.drew) := Lib.hid ⟨HA2.out.os, HA2.out.tape, HA2.out.output, HA2.out.size, HA2.out.block⟩
    have HD4 : Hid (Duo w2.drew gk 3 (.int .i64 (n : Int)) (.int .i64 (s : Int))) := HD2
    clear ck2 hd0 hd1
    refine wp_region_held_drew (S := fun W => W.cell? ⟨g, k, none⟩ = some (.slice (some ⟨gk, 0, none⟩) 2 2) ∧ W.cell? ⟨gk, 0, none⟩ = some (.int .i64 (n : Int)) ∧ W.cell? ⟨gk, 1, none⟩ = some (.int .i64 (s : Int))) hmx hS0 (fun _ => ?_)
    generalize w2.drew = W4 at *
    refine take1 0 (v := ?_) rfl (by kernel_rfl) (by kernel_rfl) (by kernel_rfl) (fun _ _ _ h => h) (by rfl) ?_ hS0 ?_
    rotate_left
    · intro W9 hA
      obtain ⟨q1, q2, q3⟩ := hA
      go_simp
      try with_reducible rfl
    try simp only [Act.put, List.setIfInBounds_toArray, List.set_cons_zero, List.set_cons_succ]
    refine take1 1 (v := ?_) rfl (by kernel_rfl) (by kernel_rfl) (by kernel_rfl) (fun _ _ _ h => h) (by rfl) ?_ hS0 ?_
    rotate_left
    · intro W9 hA
      obtain ⟨q1, q2, q3⟩ := hA
      go_simp
      try with_reducible rfl
    try simp only [Act.put, List.setIfInBounds_toArray, List.set_cons_zero, List.set_cons_succ]
    refine take1 2 (v := ?_) rfl (by kernel_rfl) (by kernel_rfl) (by kernel_rfl) (fun _ _ _ h => h) (by rfl) ?_ hS0 ?_
    rotate_left
    · intro W9 hA
      obtain ⟨q1, q2, q3⟩ := hA
      go_simp
      try with_reducible rfl
    try simp only [Act.put, List.setIfInBounds_toArray, List.set_cons_zero, List.set_cons_succ]
    refine take1 3 (v := ?_) rfl (by kernel_rfl) (by kernel_rfl) (by kernel_rfl) (fun _ _ _ h => h) (by rfl) ?_ hS0 ?_
    rotate_left
    · intro W9 hA
      obtain ⟨q1, q2, q3⟩ := hA
      go_simp
      try with_reducible rfl
    try simp only [Act.put, List.setIfInBounds_toArray, List.set_cons_zero, List.set_cons_succ]
    refine take1 4 (v := ?_) rfl (by kernel_rfl) (by kernel_rfl) (by kernel_rfl) (fun _ _ _ h => h) (by rfl) ?_ hS0 ?_
    rotate_left
    · intro W9 hA
      obtain ⟨q1, q2, q3⟩ := hA
      go_simp
      try with_reducible rfl
    try simp only [Act.put, List.setIfInBounds_toArray, List.set_cons_zero, List.set_cons_succ]
    refine take1 5 (v := ?_) rfl (by kernel_rfl) (by kernel_rfl) (by kernel_rfl) (fun _ _ _ h => h) (by rfl) ?_ hS0 ?_
    rotate_left
    · intro W9 hA
      obtain ⟨q1, q2, q3⟩ := hA
      go_simp
      try with_reducible rfl
    try simp only [Act.put, List.setIfInBounds_toArray, List.set_cons_zero, List.set_cons_succ]
    refine take1 6 (v := ?_) rfl (by kernel_rfl) (by kernel_rfl) (by kernel_rfl) (fun _ _ _ h => h) (by rfl) ?_ hS0 ?_
    rotate_left
    · intro W9 hA
      obtain ⟨q1, q2, q3⟩ := hA
      go_simp
      try with_reducible rfl
    try simp only [Act.put, List.setIfInBounds_toArray, List.set_cons_zero, List.set_cons_succ]
    refine take1 7 (v := ?_) rfl (by kernel_rfl) (by kernel_rfl) (by kernel_rfl) (fun _ _ _ h => h) (by rfl) ?_ hS0 ?_
    rotate_left
    · intro W9 hA
      obtain ⟨q1, q2, q3⟩ := hA
      go_simp
      try with_reducible rfl
    try simp only [Act.put, List.setIfInBounds_toArray, List.set_cons_zero, List.set_cons_succ]
    refine take1 8 (v := ?_) rfl (by kernel_rfl) (by kernel_rfl) (by kernel_rfl) (fun _ _ _ h => h) (by rfl) ?_ hS0 ?_
    rotate_left
    · intro W9 hA
      obtain ⟨q1, q2, q3⟩ := hA
      go_simp
      try with_reducible rfl
    try simp only [Act.put, List.setIfInBounds_toArray, List.set_cons_zero, List.set_cons_succ]
    refine take1 9 (v := ?_) rfl (by kernel_rfl) (by kernel_rfl) (by kernel_rfl) (fun _ _ _ h => h) (by rfl) ?_ hS0 ?_
    rotate_left
    · intro W9 hA
      obtain ⟨q1, q2, q3⟩ := hA
      go_simp
      try with_reducible rfl
    try simp only [Act.put, List.setIfInBounds_toArray, List.set_cons_zero, List.set_cons_succ]
    refine take1 10 (v := ?_) rfl (by kernel_rfl) (by kernel_rfl) (by kernel_rfl) (fun _ _ _ h => h) (by rfl) ?_ hS0 ?_
    rotate_left
    · intro W9 hA
      obtain ⟨q1, q2, q3⟩ := hA
      go_simp
      try with_reducible rfl
    try simp only [Act.put, List.setIfInBounds_toArray, List.set_cons_zero, List.set_cons_succ]
    refine step1 11 (by kernel_rfl) rfl (fun K hK => ?_)
    go_simp
    refine (draw_any W4 B R (p + 1 + 1) (n : Int) HR4.out (by omega) (by omega) (by omega)).mono ?_
    rintro e W5 ⟨j, rfl, hj0, hR5, hA5⟩
    have hj : j < n := by have := hj0 (by omega); omega
    have hS5 : W5.cell? ⟨g, k, none⟩ = some (.slice (some ⟨gk, 0, none⟩) 2 2) ∧ W5.cell? ⟨gk, 0, none⟩ = some (.int .i64 (n : Int)) ∧ W5.cell? ⟨gk, 1, none⟩ = some (.int .i64 (s : Int)) := ⟨hA5.kept_cell hS0.1 HG.out, (hA5.kept_duo HD4.out HGk.out).cell0, (hA5.kept_duo HD4.out HGk.out).cell1⟩
    have HR5 := Lib.hid hR5
    have HA5 := Lib.hid (HA4.out.trans hA5)
    clear hR5 hA5 hj0
    go_wp2_with fail
    refine hK.out _ _ hS5 ?_
    clear hK K
    try simp only [Act.put, List.setIfInBounds_toArray, List.set_cons_zero, List.set_cons_succ]
    refine step1 12 (by kernel_rfl) rfl (fun K hK => ?_)
    go_simp
    refine (HMp.out m j (by omega) (by omega) _).mono ?_
    rintro e W6 ⟨rfl, rfl⟩
    go_wp2_with fail
    refine hK.out _ _ hS5 ?_
    clear hK K
    try simp only [Act.put, List.setIfInBounds_toArray, List.set_cons_zero, List.set_cons_succ]
    refine take1 13 (v := ?_) rfl (by kernel_rfl) (by kernel_rfl) (by kernel_rfl) (fun _ _ _ h => h) (by rfl) ?_ hS5 ?_
    rotate_left
    · intro W9 hA
      obtain ⟨q1, q2, q3⟩ := hA
      go_simp
      try with_reducible rfl
    try simp only [Act.put, List.setIfInBounds_toArray, List.set_cons_zero, List.set_cons_succ]
    refine take1 14 (v := ?_) rfl (by kernel_rfl) (by kernel_rfl) (by kernel_rfl) (fun _ _ _ h => h) (by rfl) ?_ hS5 ?_
    rotate_left
    · intro W9 hA
      obtain ⟨q1, q2, q3⟩ := hA
      go_simp
      try with_reducible rfl
    try simp only [Act.put, List.setIfInBounds_toArray, List.set_cons_zero, List.set_cons_succ]
    refine stop1 (by kernel_rfl) ?_
    go_wp2
    go_ret2
    exact ⟨n, mapN n s ((m : Nat) : Int) (j : Int) n, p + 1 + 1 + 1, rfl, h1, by omega, HMl.out m j, by omega, HR5.out, HA5.out⟩
/-- The nine rows, as they are laid. -/
theorem tab9_new (W : World) (R : Nat) (hR : R < W.heap.size) : Tab9 ((((((((((W.alloc (.cells #[.int .i64 7, .int .i64 11] 3)).alloc (.cells #[.int .i64 7, .int .i64 22] 3)).alloc (.cells #[.int .i64 11, .int .i64 570] 3)).alloc (.cells #[.int .i64 3, .int .i64 2] 3)).alloc (.cells #[.int .i64 5, .int .i64 30] 3)).alloc (.cells #[.int .i64 4, .int .i64 14] 3)).alloc (.cells #[.int .i64 12, .int .i64 19] 3)).alloc (.cells #[.int .i64 6, .int .i64 11] 3)).alloc (.cells #[.int .i64 2, .int .i64 1] 3)).alloc (.cells #[.slice (some ⟨W.heap.size, 0, none⟩) 2 2, .slice (some ⟨W.heap.size + 1, 0, none⟩) 2 2, .slice (some ⟨W.heap.size + 1 + 1, 0, none⟩) 2 2, .slice (some ⟨W.heap.size + 1 + 1 + 1, 0, none⟩) 2 2, .slice (some ⟨W.heap.size + 1 + 1 + 1 + 1, 0, none⟩) 2 2, .slice (some ⟨W.heap.size + 1 + 1 + 1 + 1 + 1, 0, none⟩) 2 2, .slice (some ⟨W.heap.size + 1 + 1 + 1 + 1 + 1 + 1, 0, none⟩) 2 2, .slice (some ⟨W.heap.size + 1 + 1 + 1 + 1 + 1 + 1 + 1, 0, none⟩) 2 2, .slice (some ⟨W.heap.size + 1 + 1 + 1 + 1 + 1 + 1 + 1 + 1, 0, none⟩) 2 2] 25)) (W.heap.size + 1 + 1 + 1 + 1 + 1 + 1 + 1 + 1 + 1) R := by
  have r0 := (((((((((Duo.new W 3 (.int .i64 7) (.int .i64 11)).alloc (.cells #[.int .i64 7, .int .i64 22] 3)).alloc (.cells #[.int .i64 11, .int .i64 570] 3)).alloc (.cells #[.int .i64 3, .int .i64 2] 3)).alloc (.cells #[.int .i64 5, .int .i64 30] 3)).alloc (.cells #[.int .i64 4, .int .i64 14] 3)).alloc (.cells #[.int .i64 12, .int .i64 19] 3)).alloc (.cells #[.int .i64 6, .int .i64 11] 3)).alloc (.cells #[.int .i64 2, .int .i64 1] 3)).alloc (.cells #[.slice (some ⟨W.heap.size, 0, none⟩) 2 2, .slice (some ⟨W.heap.size + 1, 0, none⟩) 2 2, .slice (some ⟨W.heap.size + 1 + 1, 0, none⟩) 2 2, .slice (some ⟨W.heap.size + 1 + 1 + 1, 0, none⟩) 2 2, .slice (some ⟨W.heap.size + 1 + 1 + 1 + 1, 0, none⟩) 2 2, .slice (some ⟨W.heap.size + 1 + 1 + 1 + 1 + 1, 0, none⟩) 2 2, .slice (some ⟨W.heap.size + 1 + 1 + 1 + 1 + 1 + 1, 0, none⟩) 2 2, .slice (some ⟨W.heap.size + 1 + 1 + 1 + 1 + 1 + 1 + 1, 0, none⟩) 2 2, .slice (some ⟨W.heap.size + 1 + 1 + 1 + 1 + 1 + 1 + 1 + 1, 0, none⟩) 2 2] 25)
  have r1 := ((((((((Duo.new (W.alloc (.cells #[.int .i64 7, .int .i64 11] 3)) 3 (.int .i64 7) (.int .i64 22)).alloc (.cells #[.int .i64 11, .int .i64 570] 3)).alloc (.cells #[.int .i64 3, .int .i64 2] 3)).alloc (.cells #[.int .i64 5, .int .i64 30] 3)).alloc (.cells #[.int .i64 4, .int .i64 14] 3)).alloc (.cells #[.int .i64 12, .int .i64 19] 3)).alloc (.cells #[.int .i64 6, .int .i64 11] 3)).alloc (.cells #[.int .i64 2, .int .i64 1] 3)).alloc (.cells #[.slice (some ⟨W.heap.size, 0, none⟩) 2 2, .slice (some ⟨W.heap.size + 1, 0, none⟩) 2 2, .slice (some ⟨W.heap.size + 1 + 1, 0, none⟩) 2 2, .slice (some ⟨W.heap.size + 1 + 1 + 1, 0, none⟩) 2 2, .slice (some ⟨W.heap.size + 1 + 1 + 1 + 1, 0, none⟩) 2 2, .slice (some ⟨W.heap.size + 1 + 1 + 1 + 1 + 1, 0, none⟩) 2 2, .slice (some ⟨W.heap.size + 1 + 1 + 1 + 1 + 1 + 1, 0, none⟩) 2 2, .slice (some ⟨W.heap.size + 1 + 1 + 1 + 1 + 1 + 1 + 1, 0, none⟩) 2 2, .slice (some ⟨W.heap.size + 1 + 1 + 1 + 1 + 1 + 1 + 1 + 1, 0, none⟩) 2 2] 25)
  have r2 := (((((((Duo.new ((W.alloc (.cells #[.int .i64 7, .int .i64 11] 3)).alloc (.cells #[.int .i64 7, .int .i64 22] 3)) 3 (.int .i64 11) (.int .i64 570)).alloc (.cells #[.int .i64 3, .int .i64 2] 3)).alloc (.cells #[.int .i64 5, .int .i64 30] 3)).alloc (.cells #[.int .i64 4, .int .i64 14] 3)).alloc (.cells #[.int .i64 12, .int .i64 19] 3)).alloc (.cells #[.int .i64 6, .int .i64 11] 3)).alloc (.cells #[.int .i64 2, .int .i64 1] 3)).alloc (.cells #[.slice (some ⟨W.heap.size, 0, none⟩) 2 2, .slice (some ⟨W.heap.size + 1, 0, none⟩) 2 2, .slice (some ⟨W.heap.size + 1 + 1, 0, none⟩) 2 2, .slice (some ⟨W.heap.size + 1 + 1 + 1, 0, none⟩) 2 2, .slice (some ⟨W.heap.size + 1 + 1 + 1 + 1, 0, none⟩) 2 2, .slice (some ⟨W.heap.size + 1 + 1 + 1 + 1 + 1, 0, none⟩) 2 2, .slice (some ⟨W.heap.size + 1 + 1 + 1 + 1 + 1 + 1, 0, none⟩) 2 2, .slice (some ⟨W.heap.size + 1 + 1 + 1 + 1 + 1 + 1 + 1, 0, none⟩) 2 2, .slice (some ⟨W.heap.size + 1 + 1 + 1 + 1 + 1 + 1 + 1 + 1, 0, none⟩) 2 2] 25)
  have r3 := ((((((Duo.new (((W.alloc (.cells #[.int .i64 7, .int .i64 11] 3)).alloc (.cells #[.int .i64 7, .int .i64 22] 3)).alloc (.cells #[.int .i64 11, .int .i64 570] 3)) 3 (.int .i64 3) (.int .i64 2)).alloc (.cells #[.int .i64 5, .int .i64 30] 3)).alloc (.cells #[.int .i64 4, .int .i64 14] 3)).alloc (.cells #[.int .i64 12, .int .i64 19] 3)).alloc (.cells #[.int .i64 6, .int .i64 11] 3)).alloc (.cells #[.int .i64 2, .int .i64 1] 3)).alloc (.cells #[.slice (some ⟨W.heap.size, 0, none⟩) 2 2, .slice (some ⟨W.heap.size + 1, 0, none⟩) 2 2, .slice (some ⟨W.heap.size + 1 + 1, 0, none⟩) 2 2, .slice (some ⟨W.heap.size + 1 + 1 + 1, 0, none⟩) 2 2, .slice (some ⟨W.heap.size + 1 + 1 + 1 + 1, 0, none⟩) 2 2, .slice (some ⟨W.heap.size + 1 + 1 + 1 + 1 + 1, 0, none⟩) 2 2, .slice (some ⟨W.heap.size + 1 + 1 + 1 + 1 + 1 + 1, 0, none⟩) 2 2, .slice (some ⟨W.heap.size + 1 + 1 + 1 + 1 + 1 + 1 + 1, 0, none⟩) 2 2, .slice (some ⟨W.heap.size + 1 + 1 + 1 + 1 + 1 + 1 + 1 + 1, 0, none⟩) 2 2] 25)
  have r4 := (((((Duo.new ((((W.alloc (.cells #[.int .i64 7, .int .i64 11] 3)).alloc (.cells #[.int .i64 7, .int .i64 22] 3)).alloc (.cells #[.int .i64 11, .int .i64 570] 3)).alloc (.cells #[.int .i64 3, .int .i64 2] 3)) 3 (.int .i64 5) (.int .i64 30)).alloc (.cells #[.int .i64 4, .int .i64 14] 3)).alloc (.cells #[.int .i64 12, .int .i64 19] 3)).alloc (.cells #[.int .i64 6, .int .i64 11] 3)).alloc (.cells #[.int .i64 2, .int .i64 1] 3)).alloc (.cells #[.slice (some ⟨W.heap.size, 0, none⟩) 2 2, .slice (some ⟨W.heap.size + 1, 0, none⟩) 2 2, .slice (some ⟨W.heap.size + 1 + 1, 0, none⟩) 2 2, .slice (some ⟨W.heap.size + 1 + 1 + 1, 0, none⟩) 2 2, .slice (some ⟨W.heap.size + 1 + 1 + 1 + 1, 0, none⟩) 2 2, .slice (some ⟨W.heap.size + 1 + 1 + 1 + 1 + 1, 0, none⟩) 2 2, .slice (some ⟨W.heap.size + 1 + 1 + 1 + 1 + 1 + 1, 0, none⟩) 2 2, .slice (some ⟨W.heap.size + 1 + 1 + 1 + 1 + 1 + 1 + 1, 0, none⟩) 2 2, .slice (some ⟨W.heap.size + 1 + 1 + 1 + 1 + 1 + 1 + 1 + 1, 0, none⟩) 2 2] 25)
  have r5 := ((((Duo.new (((((W.alloc (.cells #[.int .i64 7, .int .i64 11] 3)).alloc (.cells #[.int .i64 7, .int .i64 22] 3)).alloc (.cells #[.int .i64 11, .int .i64 570] 3)).alloc (.cells #[.int .i64 3, .int .i64 2] 3)).alloc (.cells #[.int .i64 5, .int .i64 30] 3)) 3 (.int .i64 4) (.int .i64 14)).alloc (.cells #[.int .i64 12, .int .i64 19] 3)).alloc (.cells #[.int .i64 6, .int .i64 11] 3)).alloc (.cells #[.int .i64 2, .int .i64 1] 3)).alloc (.cells #[.slice (some ⟨W.heap.size, 0, none⟩) 2 2, .slice (some ⟨W.heap.size + 1, 0, none⟩) 2 2, .slice (some ⟨W.heap.size + 1 + 1, 0, none⟩) 2 2, .slice (some ⟨W.heap.size + 1 + 1 + 1, 0, none⟩) 2 2, .slice (some ⟨W.heap.size + 1 + 1 + 1 + 1, 0, none⟩) 2 2, .slice (some ⟨W.heap.size + 1 + 1 + 1 + 1 + 1, 0, none⟩) 2 2, .slice (some ⟨W.heap.size + 1 + 1 + 1 + 1 + 1 + 1, 0, none⟩) 2 2, .slice (some ⟨W.heap.size + 1 + 1 + 1 + 1 + 1 + 1 + 1, 0, none⟩) 2 2, .slice (some ⟨W.heap.size + 1 + 1 + 1 + 1 + 1 + 1 + 1 + 1, 0, none⟩) 2 2] 25)
  have r6 := (((Duo.new ((((((W.alloc (.cells #[.int .i64 7, .int .i64 11] 3)).alloc (.cells #[.int .i64 7, .int .i64 22] 3)).alloc (.cells #[.int .i64 11, .int .i64 570] 3)).alloc (.cells #[.int .i64 3, .int .i64 2] 3)).alloc (.cells #[.int .i64 5, .int .i64 30] 3)).alloc (.cells #[.int .i64 4, .int .i64 14] 3)) 3 (.int .i64 12) (.int .i64 19)).alloc (.cells #[.int .i64 6, .int .i64 11] 3)).alloc (.cells #[.int .i64 2, .int .i64 1] 3)).alloc (.cells #[.slice (some ⟨W.heap.size, 0, none⟩) 2 2, .slice (some ⟨W.heap.size + 1, 0, none⟩) 2 2, .slice (some ⟨W.heap.size + 1 + 1, 0, none⟩) 2 2, .slice (some ⟨W.heap.size + 1 + 1 + 1, 0, none⟩) 2 2, .slice (some ⟨W.heap.size + 1 + 1 + 1 + 1, 0, none⟩) 2 2, .slice (some ⟨W.heap.size + 1 + 1 + 1 + 1 + 1, 0, none⟩) 2 2, .slice (some ⟨W.heap.size + 1 + 1 + 1 + 1 + 1 + 1, 0, none⟩) 2 2, .slice (some ⟨W.heap.size + 1 + 1 + 1 + 1 + 1 + 1 + 1, 0, none⟩) 2 2, .slice (some ⟨W.heap.size + 1 + 1 + 1 + 1 + 1 + 1 + 1 + 1, 0, none⟩) 2 2] 25)
  have r7 := ((Duo.new (((((((W.alloc (.cells #[.int .i64 7, .int .i64 11] 3)).alloc (.cells #[.int .i64 7, .int .i64 22] 3)).alloc (.cells #[.int .i64 11, .int .i64 570] 3)).alloc (.cells #[.int .i64 3, .int .i64 2] 3)).alloc (.cells #[.int .i64 5, .int .i64 30] 3)).alloc (.cells #[.int .i64 4, .int .i64 14] 3)).alloc (.cells #[.int .i64 12, .int .i64 19] 3)) 3 (.int .i64 6) (.int .i64 11)).alloc (.cells #[.int .i64 2, .int .i64 1] 3)).alloc (.cells #[.slice (some ⟨W.heap.size, 0, none⟩) 2 2, .slice (some ⟨W.heap.size + 1, 0, none⟩) 2 2, .slice (some ⟨W.heap.size + 1 + 1, 0, none⟩) 2 2, .slice (some ⟨W.heap.size + 1 + 1 + 1, 0, none⟩) 2 2, .slice (some ⟨W.heap.size + 1 + 1 + 1 + 1, 0, none⟩) 2 2, .slice (some ⟨W.heap.size + 1 + 1 + 1 + 1 + 1, 0, none⟩) 2 2, .slice (some ⟨W.heap.size + 1 + 1 + 1 + 1 + 1 + 1, 0, none⟩) 2 2, .slice (some ⟨W.heap.size + 1 + 1 + 1 + 1 + 1 + 1 + 1, 0, none⟩) 2 2, .slice (some ⟨W.heap.size + 1 + 1 + 1 + 1 + 1 + 1 + 1 + 1, 0, none⟩) 2 2] 25)
  have r8 := (Duo.new ((((((((W.alloc (.cells #[.int .i64 7, .int .i64 11] 3)).alloc (.cells #[.int .i64 7, .int .i64 22] 3)).alloc (.cells #[.int .i64 11, .int .i64 570] 3)).alloc (.cells #[.int .i64 3, .int .i64 2] 3)).alloc (.cells #[.int .i64 5, .int .i64 30] 3)).alloc (.cells #[.int .i64 4, .int .i64 14] 3)).alloc (.cells #[.int .i64 12, .int .i64 19] 3)).alloc (.cells #[.int .i64 6, .int .i64 11] 3)) 3 (.int .i64 2) (.int .i64 1)).alloc (.cells #[.slice (some ⟨W.heap.size, 0, none⟩) 2 2, .slice (some ⟨W.heap.size + 1, 0, none⟩) 2 2, .slice (some ⟨W.heap.size + 1 + 1, 0, none⟩) 2 2, .slice (some ⟨W.heap.size + 1 + 1 + 1, 0, none⟩) 2 2, .slice (some ⟨W.heap.size + 1 + 1 + 1 + 1, 0, none⟩) 2 2, .slice (some ⟨W.heap.size + 1 + 1 + 1 + 1 + 1, 0, none⟩) 2 2, .slice (some ⟨W.heap.size + 1 + 1 + 1 + 1 + 1 + 1, 0, none⟩) 2 2, .slice (some ⟨W.heap.size + 1 + 1 + 1 + 1 + 1 + 1 + 1, 0, none⟩) 2 2, .slice (some ⟨W.heap.size + 1 + 1 + 1 + 1 + 1 + 1 + 1 + 1, 0, none⟩) 2 2] 25)
  have hh := World.alloc_heap_new (((((((((W.alloc (.cells #[.int .i64 7, .int .i64 11] 3)).alloc (.cells #[.int .i64 7, .int .i64 22] 3)).alloc (.cells #[.int .i64 11, .int .i64 570] 3)).alloc (.cells #[.int .i64 3, .int .i64 2] 3)).alloc (.cells #[.int .i64 5, .int .i64 30] 3)).alloc (.cells #[.int .i64 4, .int .i64 14] 3)).alloc (.cells #[.int .i64 12, .int .i64 19] 3)).alloc (.cells #[.int .i64 6, .int .i64 11] 3)).alloc (.cells #[.int .i64 2, .int .i64 1] 3)) (.cells #[.slice (some ⟨W.heap.size, 0, none⟩) 2 2, .slice (some ⟨W.heap.size + 1, 0, none⟩) 2 2, .slice (some ⟨W.heap.size + 1 + 1, 0, none⟩) 2 2, .slice (some ⟨W.heap.size + 1 + 1 + 1, 0, none⟩) 2 2, .slice (some ⟨W.heap.size + 1 + 1 + 1 + 1, 0, none⟩) 2 2, .slice (some ⟨W.heap.size + 1 + 1 + 1 + 1 + 1, 0, none⟩) 2 2, .slice (some ⟨W.heap.size + 1 + 1 + 1 + 1 + 1 + 1, 0, none⟩) 2 2, .slice (some ⟨W.heap.size + 1 + 1 + 1 + 1 + 1 + 1 + 1, 0, none⟩) 2 2, .slice (some ⟨W.heap.size + 1 + 1 + 1 + 1 + 1 + 1 + 1 + 1, 0, none⟩) 2 2] 25)
  simp only [World.size_alloc] at r0 r1 r2 r3 r4 r5 r6 r7 r8 hh
  obtain ⟨V, hV⟩ : ∃ V, (((((((((W.alloc (.cells #[.int .i64 7, .int .i64 11] 3)).alloc (.cells #[.int .i64 7, .int .i64 22] 3)).alloc (.cells #[.int .i64 11, .int .i64 570] 3)).alloc (.cells #[.int .i64 3, .int .i64 2] 3)).alloc (.cells #[.int .i64 5, .int .i64 30] 3)).alloc (.cells #[.int .i64 4, .int .i64 14] 3)).alloc (.cells #[.int .i64 12, .int .i64 19] 3)).alloc (.cells #[.int .i64 6, .int .i64 11] 3)).alloc (.cells #[.int .i64 2, .int .i64 1] 3)).alloc (.cells #[.slice (some ⟨W.heap.size, 0, none⟩) 2 2, .slice (some ⟨W.heap.size + 1, 0, none⟩) 2 2, .slice (some ⟨W.heap.size + 1 + 1, 0, none⟩) 2 2, .slice (some ⟨W.heap.size + 1 + 1 + 1, 0, none⟩) 2 2, .slice (some ⟨W.heap.size + 1 + 1 + 1 + 1, 0, none⟩) 2 2, .slice (some ⟨W.heap.size + 1 + 1 + 1 + 1 + 1, 0, none⟩) 2 2, .slice (some ⟨W.heap.size + 1 + 1 + 1 + 1 + 1 + 1, 0, none⟩) 2 2, .slice (some ⟨W.heap.size + 1 + 1 + 1 + 1 + 1 + 1 + 1, 0, none⟩) 2 2, .slice (some ⟨W.heap.size + 1 + 1 + 1 + 1 + 1 + 1 + 1 + 1, 0, none⟩) 2 2] 25) = V := ⟨_, rfl⟩
  rw [hV] at r0 r1 r2 r3 r4 r5 r6 r7 r8 hh ⊢
  clear hV
  intro k hk
  have hk9 : k = 0 ∨ k = 1 ∨ k = 2 ∨ k = 3 ∨ k = 4 ∨ k = 5 ∨ k = 6 ∨ k = 7 ∨ k = 8 := by omega
  rcases hk9 with rfl | rfl | rfl | rfl | rfl | rfl | rfl | rfl | rfl
  · exact ⟨W.heap.size, 7, 11, by omega, by simp [World.cell?, hh], r0, by omega, by omega, by decide⟩
  · exact ⟨W.heap.size + 1, 7, 22, by omega, by simp [World.cell?, hh], r1, by omega, by omega, by decide⟩
  · exact ⟨W.heap.size + 1 + 1, 11, 570, by omega, by simp [World.cell?, hh], r2, by omega, by omega, by decide⟩
  · exact ⟨W.heap.size + 1 + 1 + 1, 3, 2, by omega, by simp [World.cell?, hh], r3, by omega, by omega, by decide⟩
  · exact ⟨W.heap.size + 1 + 1 + 1 + 1, 5, 30, by omega, by simp [World.cell?, hh], r4, by omega, by omega, by decide⟩
  · exact ⟨W.heap.size + 1 + 1 + 1 + 1 + 1, 4, 14, by omega, by simp [World.cell?, hh], r5, by omega, by omega, by decide⟩
  · exact ⟨W.heap.size + 1 + 1 + 1 + 1 + 1 + 1, 12, 19, by omega, by simp [World.cell?, hh], r6, by omega, by omega, by decide⟩
  · exact ⟨W.heap.size + 1 + 1 + 1 + 1 + 1 + 1 + 1, 6, 11, by omega, by simp [World.cell?, hh], r7, by omega, by omega, by decide⟩
  · exact ⟨W.heap.size + 1 + 1 + 1 + 1 + 1 + 1 + 1 + 1, 2, 1, by omega, by simp [World.cell?, hh], r8, by omega, by omega, by decide⟩
def DifPost (W : World) (e : Ending) (w' : World) : Prop :=
  ∃ n s : Nat, e = .returned (.tuple #[.int .i64 (n : Int), .int .i64 (s : Int)]) ∧ 1 ≤ n ∧ n ≤ 13 ∧ s < 2 ^ 13 ∧ Below W.heap.size W w'
set_option maxHeartbeats 1000000 in
theorem l92Diff_any (W : World) (B len cap : Nat) (A : Option Addr) (f : Nat → Nat) (hC : Code W B A len f) (hB : B ≤ W.heap.size) (hlc : len ≤ cap) (hcap : cap ≤ 9223372036854775807) :
    Calls Try.prog 38 #[.slice A len cap] W (DifPost W) := by
  have HC := Lib.hid (open_any W B len cap A f hC hB hlc hcap)
  clear hC
  go_enter Try.func38, Try.ntmps38
  go_wp2_with fail
  refine HC.out.mono ?_
  rintro e w1 ⟨R, A', len', cap', rfl, hR, hl, hRd, hCd, hb1⟩
  have z1 := hb1.size
  have HRd : Hid (Reader w1 B R 0) := Lib.hid ⟨⟨A', len', cap', f, hRd, hCd, hl⟩, by omega⟩
  clear hRd hCd
  go_wp2_with fail
  refine (draw_any w1 B R 0 2 HRd.out (by omega) (by omega) (by omega)).mono ?_
  rintro e w2 ⟨v, rfl, hv0, hR2, hA2⟩
  have HR2 := Lib.hid hR2
  have HB2 := Lib.hid (hb1.trans (hA2.below (m := W.heap.size) hR z1))
  have z2 := hA2.size
  have hlt : R < w2.heap.size := hR2.lt
  clear hR2 hA2 hv0
  by_cases hz : v = 0
  · subst hz
    have HT := Lib.hid (tab9_new w2 R hlt)
    have HR9 : Hid (Reader ((((((((((w2.alloc (.cells #[.int .i64 7, .int .i64 11] 3)).alloc (.cells #[.int .i64 7, .int .i64 22] 3)).alloc (.cells #[.int .i64 11, .int .i64 570] 3)).alloc (.cells #[.int .i64 3, .int .i64 2] 3)).alloc (.cells #[.int .i64 5, .int .i64 30] 3)).alloc (.cells #[.int .i64 4, .int .i64 14] 3)).alloc (.cells #[.int .i64 12, .int .i64 19] 3)).alloc (.cells #[.int .i64 6, .int .i64 11] 3)).alloc (.cells #[.int .i64 2, .int .i64 1] 3)).alloc (.cells #[.slice (some ⟨w2.heap.size, 0, none⟩) 2 2, .slice (some ⟨w2.heap.size + 1, 0, none⟩) 2 2, .slice (some ⟨w2.heap.size + 1 + 1, 0, none⟩) 2 2, .slice (some ⟨w2.heap.size + 1 + 1 + 1, 0, none⟩) 2 2, .slice (some ⟨w2.heap.size + 1 + 1 + 1 + 1, 0, none⟩) 2 2, .slice (some ⟨w2.heap.size + 1 + 1 + 1 + 1 + 1, 0, none⟩) 2 2, .slice (some ⟨w2.heap.size + 1 + 1 + 1 + 1 + 1 + 1, 0, none⟩) 2 2, .slice (some ⟨w2.heap.size + 1 + 1 + 1 + 1 + 1 + 1 + 1, 0, none⟩) 2 2, .slice (some ⟨w2.heap.size + 1 + 1 + 1 + 1 + 1 + 1 + 1 + 1, 0, none⟩) 2 2] 25)) B R (0 + 1)) := Lib.hid (HR2.out.beneath (((((((((((((Below.refl w2.heap.size w2).alloc (by simp; try omega) _).alloc (by simp; try omega) _).alloc (by simp; try omega) _).alloc (by simp; try omega) _).alloc (by simp; try omega) _).alloc (by simp; try omega) _).alloc (by simp; try omega) _).alloc (by simp; try omega) _).alloc (by simp; try omega) _).alloc (by simp; try omega) _))) hlt)
    have HB9 : Hid (Below W.heap.size W ((((((((((w2.alloc (.cells #[.int .i64 7, .int .i64 11] 3)).alloc (.cells #[.int .i64 7, .int .i64 22] 3)).alloc (.cells #[.int .i64 11, .int .i64 570] 3)).alloc (.cells #[.int .i64 3, .int .i64 2] 3)).alloc (.cells #[.int .i64 5, .int .i64 30] 3)).alloc (.cells #[.int .i64 4, .int .i64 14] 3)).alloc (.cells #[.int .i64 12, .int .i64 19] 3)).alloc (.cells #[.int .i64 6, .int .i64 11] 3)).alloc (.cells #[.int .i64 2, .int .i64 1] 3)).alloc (.cells #[.slice (some ⟨w2.heap.size, 0, none⟩) 2 2, .slice (some ⟨w2.heap.size + 1, 0, none⟩) 2 2, .slice (some ⟨w2.heap.size + 1 + 1, 0, none⟩) 2 2, .slice (some ⟨w2.heap.size + 1 + 1 + 1, 0, none⟩) 2 2, .slice (some ⟨w2.heap.size + 1 + 1 + 1 + 1, 0, none⟩) 2 2, .slice (some ⟨w2.heap.size + 1 + 1 + 1 + 1 + 1, 0, none⟩) 2 2, .slice (some ⟨w2.heap.size + 1 + 1 + 1 + 1 + 1 + 1, 0, none⟩) 2 2, .slice (some ⟨w2.heap.size + 1 + 1 + 1 + 1 + 1 + 1 + 1, 0, none⟩) 2 2, .slice (some ⟨w2.heap.size + 1 + 1 + 1 + 1 + 1 + 1 + 1 + 1, 0, none⟩) 2 2] 25))) := Lib.hid (HB2.out.trans (((((((((((((Below.refl w2.heap.size w2).alloc (by simp; try omega) _).alloc (by simp; try omega) _).alloc (by simp; try omega) _).alloc (by simp; try omega) _).alloc (by simp; try omega) _).alloc (by simp; try omega) _).alloc (by simp; try omega) _).alloc (by simp; try omega) _).alloc (by simp; try omega) _).alloc (by simp; try omega) _)).mono (Nat.le_trans z1 z2)))
    have hgR : w2.heap.size + 1 + 1 + 1 + 1 + 1 + 1 + 1 + 1 + 1 ≠ R := by omega
    have zz : W.heap.size ≤ ((((((((((w2.alloc (.cells #[.int .i64 7, .int .i64 11] 3)).alloc (.cells #[.int .i64 7, .int .i64 22] 3)).alloc (.cells #[.int .i64 11, .int .i64 570] 3)).alloc (.cells #[.int .i64 3, .int .i64 2] 3)).alloc (.cells #[.int .i64 5, .int .i64 30] 3)).alloc (.cells #[.int .i64 4, .int .i64 14] 3)).alloc (.cells #[.int .i64 12, .int .i64 19] 3)).alloc (.cells #[.int .i64 6, .int .i64 11] 3)).alloc (.cells #[.int .i64 2, .int .i64 1] 3)).alloc (.cells #[.slice (some ⟨w2.heap.size, 0, none⟩) 2 2, .slice (some ⟨w2.heap.size + 1, 0, none⟩) 2 2, .slice (some ⟨w2.heap.size + 1 + 1, 0, none⟩) 2 2, .slice (some ⟨w2.heap.size + 1 + 1 + 1, 0, none⟩) 2 2, .slice (some ⟨w2.heap.size + 1 + 1 + 1 + 1, 0, none⟩) 2 2, .slice (some ⟨w2.heap.size + 1 + 1 + 1 + 1 + 1, 0, none⟩) 2 2, .slice (some ⟨w2.heap.size + 1 + 1 + 1 + 1 + 1 + 1, 0, none⟩) 2 2, .slice (some ⟨w2.heap.size + 1 + 1 + 1 + 1 + 1 + 1 + 1, 0, none⟩) 2 2, .slice (some ⟨w2.heap.size + 1 + 1 + 1 + 1 + 1 + 1 + 1 + 1, 0, none⟩) 2 2] 25)).heap.size := HB9.out.size
    go_wp2_with fail
    obtain ⟨V, hV⟩ : ∃ V, ((((((((((w2.alloc (.cells #[.int .i64 7, .int .i64 11] 3)).alloc (.cells #[.int .i64 7, .int .i64 22] 3)).alloc (.cells #[.int .i64 11, .int .i64 570] 3)).alloc (.cells #[.int .i64 3, .int .i64 2] 3)).alloc (.cells #[.int .i64 5, .int .i64 30] 3)).alloc (.cells #[.int .i64 4, .int .i64 14] 3)).alloc (.cells #[.int .i64 12, .int .i64 19] 3)).alloc (.cells #[.int .i64 6, .int .i64 11] 3)).alloc (.cells #[.int .i64 2, .int .i64 1] 3)).alloc (.cells #[.slice (some ⟨w2.heap.size, 0, none⟩) 2 2, .slice (some ⟨w2.heap.size + 1, 0, none⟩) 2 2, .slice (some ⟨w2.heap.size + 1 + 1, 0, none⟩) 2 2, .slice (some ⟨w2.heap.size + 1 + 1 + 1, 0, none⟩) 2 2, .slice (some ⟨w2.heap.size + 1 + 1 + 1 + 1, 0, none⟩) 2 2, .slice (some ⟨w2.heap.size + 1 + 1 + 1 + 1 + 1, 0, none⟩) 2 2, .slice (some ⟨w2.heap.size + 1 + 1 + 1 + 1 + 1 + 1, 0, none⟩) 2 2, .slice (some ⟨w2.heap.size + 1 + 1 + 1 + 1 + 1 + 1 + 1, 0, none⟩) 2 2, .slice (some ⟨w2.heap.size + 1 + 1 + 1 + 1 + 1 + 1 + 1 + 1, 0, none⟩) 2 2] 25)) = V := ⟨_, rfl⟩
    rw [hV] at HT HR9 HB9 zz
    simp only [hV]
    clear hV
    refine (named_any V B R (0 + 1) _ HR9.out (by omega) HT.out hgR).mono ?_
    rintro e w3 ⟨n, s, q, rfl, hn1, hn2, hs, hq, hR3, hA3⟩
    have HB3 := Lib.hid (HB9.out.trans (hA3.below (m := W.heap.size) hR zz))
    clear hR3 hA3
    go_wp2
    go_ret2
    exact ⟨n, s, rfl, hn1, hn2, hs, HB3.out⟩
  · have e1 : ((v : Int) == 0) = false := by simp; omega
    clear hz
    go_wp2_with fail
    refine (set_any w2 B R (0 + 1) HR2.out (by omega)).mono ?_
    rintro e w3 ⟨n, s, q, rfl, hn1, hn2, hs, hq, hR3, hA3⟩
    have HB3 := Lib.hid (HB2.out.trans (hA3.below (m := W.heap.size) hR (by omega)))
    clear hR3 hA3
    go_wp2
    go_ret2
    exact ⟨n, s, rfl, hn1, hn2, hs, HB3.out⟩
theorem drawDiffTable_any (W : World) (B len cap : Nat) (A : Option Addr) (f : Nat → Nat) (hC : Code W B A len f) (hB : B ≤ W.heap.size) (hlc : len ≤ cap) (hcap : cap ≤ 9223372036854775807) :
    Calls Try.prog 11 #[.slice A len cap] W (DifPost W) := by
  have HC := Lib.hid (l92Diff_any W B len cap A f hC hB hlc hcap)
  clear hC
  go_enter Try.func11, Try.ntmps11
  go_wp2_with fail
  refine HC.out.mono ?_
  rintro e w1 ⟨n, s, rfl, hn1, hn2, hs, hb⟩
  go_wp2
  go_ret2
  exact ⟨n, s, rfl, hn1, hn2, hs, hb⟩
theorem drawDiffEven_any (W : World) (B len cap : Nat) (A : Option Addr) (f : Nat → Nat) (hC : Code W B A len f) (hB : B ≤ W.heap.size) (hlc : len ≤ cap) (hcap : cap ≤ 9223372036854775807) :
    Calls Try.prog 18 #[.slice A len cap] W (DifPost W) := by
  have HC := Lib.hid (l92Diff_any W B len cap A f hC hB hlc hcap)
  clear hC
  go_enter Try.func18, Try.ntmps18
  go_wp2_with fail
  refine HC.out.mono ?_
  rintro e w1 ⟨n, s, rfl, hn1, hn2, hs, hb⟩
  go_wp2
  go_ret2
  exact ⟨n, s, rfl, hn1, hn2, hs, hb⟩
theorem drawDiffThin_any (W : World) (B len cap : Nat) (A : Option Addr) (f : Nat → Nat) (hC : Code W B A len f) (hB : B ≤ W.heap.size) (hlc : len ≤ cap) (hcap : cap ≤ 9223372036854775807) :
    Calls Try.prog 24 #[.slice A len cap] W (DifPost W) := by
  have HC := Lib.hid (l92Diff_any W B len cap A f hC hB hlc hcap)
  clear hC
  go_enter Try.func24, Try.ntmps24
  go_wp2_with fail
  refine HC.out.mono ?_
  rintro e w1 ⟨n, s, rfl, hn1, hn2, hs, hb⟩
  go_wp2
  go_ret2
  exact ⟨n, s, rfl, hn1, hn2, hs, hb⟩
theorem drawDiffCarries_any (W : World) (B len cap : Nat) (A : Option Addr) (f : Nat → Nat) (hC : Code W B A len f) (hB : B ≤ W.heap.size) (hlc : len ≤ cap) (hcap : cap ≤ 9223372036854775807) :
    Calls Try.prog 34 #[.slice A len cap] W (DifPost W) := by
  have HC := Lib.hid (l92Diff_any W B len cap A f hC hB hlc hcap)
  clear hC
  go_enter Try.func34, Try.ntmps34
  go_wp2_with fail
  refine HC.out.mono ?_
  rintro e w1 ⟨n, s, rfl, hn1, hn2, hs, hb⟩
  go_wp2
  go_ret2
  exact ⟨n, s, rfl, hn1, hn2, hs, hb⟩
end Go.Proofs.Ytaomjhkodohkcaa
