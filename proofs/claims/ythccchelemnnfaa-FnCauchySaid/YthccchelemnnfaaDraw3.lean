/- Drawing a ring and one set, or two. -/
import Derived.Test.YthccchelemnnfaaDraw2
namespace Go.Proofs.Ythccchelemnnfaa
open Go.RowKit Go.Shelf
set_option linter.unusedVariables false
theorem Aside.trans {T : Nat} {A B C : World} (h : Aside T A B) (k : Aside T B C) : Aside T A C :=
  ⟨k.os.trans h.os, k.tape.trans h.tape, k.output.trans h.output, Nat.le_trans h.size k.size, fun i hi hn => (k.block i (Nat.lt_of_lt_of_le hi h.size) hn).trans (h.block i hi hn)⟩
/-- A reader that stands at p. -/
structure Reader (W : World) (B R : Nat) (p : Nat) : Prop where
  it : ∃ A len cap f, RdAt W R A len cap p ∧ Code W B A len f ∧ len ≤ 2000
  le : B ≤ R
theorem Reader.lt {W : World} {B R p : Nat} (h : Reader W B R p) : R < W.heap.size := by
  obtain ⟨A, len, cap, f, h1, _⟩ := h.it
  exact h1.lt
theorem Reader.drewN {W : World} {B R p : Nat} (h : Reader W B R p) (k : Nat) : Reader (W.drewN k) B R p := by
  obtain ⟨⟨A, len, cap, f, h1, h2, h3⟩, hB⟩ := h
  exact ⟨⟨A, len, cap, f, h1, ⟨h2.byte, h2.cell⟩, h3⟩, hB⟩
def DrawPost (W : World) (B R p : Nat) (n : Int) (e : Ending) (w' : World) : Prop :=
  ∃ v : Nat, e = .returned (.int .i64 (v : Int)) ∧ (1 ≤ n → (v : Int) < n) ∧ Reader w' B R (p + 1) ∧ Aside R W w'
theorem draw_any (W : World) (B R p : Nat) (n : Int) (h : Reader W B R p) (hp : p ≤ 1000) (hn : n ≤ 1000000) (hn0 : -1000000 ≤ n) :
    Calls Try.prog 50 #[.pointer (some ⟨R, 0, none⟩), .int .i64 n] W (DrawPost W B R p n) := by
  have hlt := h.lt
  obtain ⟨⟨A, len, cap, f, h1, h2, h3⟩, hB⟩ := h
  exact (pick_any W R B len cap p A f n h1 h2 hB h3 hp hn hn0).mono fun e w' ⟨v, e1, e2, e3, e4, e5⟩ =>
    ⟨v, e1, e2, ⟨⟨A, len, cap, f, e4, h2.aside e5 hB (by omega), h3⟩, hB⟩, e5⟩
def SetPost (W : World) (B R p : Nat) (e : Ending) (w' : World) : Prop :=
  ∃ n s q : Nat, e = .returned (.tuple #[.int .i64 (n : Int), .int .i64 (s : Int)]) ∧ 1 ≤ n ∧ n ≤ 13 ∧ s < 2 ^ 13 ∧ q ≤ p + 20 ∧ Reader w' B R q ∧ Aside R W w'
set_option maxHeartbeats 1000000 in
theorem set_any (W : World) (B R p : Nat) (h : Reader W B R p) (hp : p ≤ 900) :
    Calls Try.prog 49 #[.pointer (some ⟨R, 0, none⟩)] W (SetPost W B R p) := by
  have HR := Lib.hid h
  clear h
  go_enter Try.func49, Try.ntmps49
  go_wp2_with fail
  refine (draw_any W B R p 12 HR.out (by omega) (by omega) (by omega)).mono ?_
  rintro e w1 ⟨n0, rfl, hn0, hR1, hA1⟩
  have hn1 := hn0 (by omega)
  have HR1 := Lib.hid hR1
  have HA1 := Lib.hid hA1
  clear hR1 hA1 hn0
  obtain ⟨n, hn⟩ : ∃ n : Nat, n = 1 + n0 := ⟨_, rfl⟩
  have hnI : ((1 : Int) + (n0 : Int)) = (n : Int) := by omega
  have hnb : n ≤ 12 := by omega
  have hnb1 : 1 ≤ n := by omega
  clear hn hn1
  go_wp2_with fail
  refine (draw_any w1 B R (p + 1) 3 HR1.out (by omega) (by omega) (by omega)).mono ?_
  rintro e w2 ⟨kind, rfl, hk, hR2, hA2⟩
  have hk3 := hk (by omega)
  have HR2 := Lib.hid hR2
  have HA2 := Lib.hid (HA1.out.trans hA2)
  clear hR2 hA2 hk hnI
  by_cases hk0 : kind = 0
  · subst hk0
    go_wp2
    go_loopw [5, 7] (fun u v wr => ∃ k s q : Nat, k ≤ n ∧ s < 2 ^ 13 ∧ q ≤ p + 2 + k ∧ u = .int .i64 (s : Int) ∧ v = .int .i64 (k : Int) ∧ Reader wr B R q ∧ Aside R W wr) (fun _ v _ => n - (intOf v).toNat)
    case atStart => exact ⟨0, 0, p + 1 + 1, Nat.zero_le _, by omega, by omega, rfl, rfl, HR2.out, HA2.out⟩
    case round =>
      obtain ⟨k, s, q, hk, hs, hq, rfl, rfl, hR3, hA3⟩ := hrel
      have HR3 := Lib.hid hR3
      have HA3 := Lib.hid hA3
      clear hR3 hA3
      by_cases hlt : k < n
      · go_wp2_with fail
        refine (draw_any wr B R q 4 HR3.out (by omega) (by omega) (by omega)).mono ?_
        rintro e w3 ⟨d, rfl, hd, hR4, hA4⟩
        have HR4 := Lib.hid hR4
        have HA4 := Lib.hid (HA3.out.trans hA4)
        clear hR4 hA4 hd
        by_cases hd0 : d = 0
        · subst hd0
          have hw := with_nat s k (by omega) (by omega)
          have hl := or_pow_lt 13 s k hs (by omega)
          go_wp2
          go_roundw
          case rel => exact ⟨k + 1, s ||| 2 ^ k, q + 1, by omega, hl, by omega, rfl, by go_num, HR4.out, HA4.out⟩
          case measure => simp [intOf]; omega
        · have hdz : ((d : Int) == 0) = false := by simp; omega
          go_wp2
          go_roundw
          case rel => exact ⟨k + 1, s, q + 1, by omega, hs, by omega, rfl, by go_num, HR4.out, HA4.out⟩
          case measure => simp [intOf]; omega
      · have e : k = n := by omega
        subst e
        go_wp2_with fail
        refine (draw_any wr B R q 60 HR3.out (by omega) (by omega) (by omega)).mono ?_
        rintro e w3 ⟨d, rfl, hd, hR4, hA4⟩
        have HR4 := Lib.hid hR4
        have HA4 := Lib.hid (HA3.out.trans hA4)
        clear hR4 hA4 hd
        by_cases hd0 : d = 0
        · subst hd0
          go_wp2
          go_ret2
          exact ⟨13, s, q + 1, rfl, by omega, by omega, hs, by omega, HR4.out, HA4.out⟩
        · have hdz : ((d : Int) == 0) = false := by simp; omega
          by_cases hd1 : d = 1
          · subst hd1
            have hpw := pow_le k (by omega)
            have hwk := Lib.hid (wrap_pow k (by omega))
            go_wp2
            go_quiet (fail)
            go_wp2
            go_ret2
            exact ⟨k, 2 ^ k, q + 1, by rw [← hwk.out]; rfl, by omega, by omega, by omega, by omega, HR4.out.drewN _, ⟨HA4.out.os, HA4.out.tape, HA4.out.output, HA4.out.size, HA4.out.block⟩⟩
          · have hdz1 : ((d : Int) == 1) = false := by simp; omega
            go_wp2
            go_ret2
            exact ⟨k, s, q + 1, rfl, by omega, by omega, hs, by omega, HR4.out, HA4.out⟩
  · have hkz : ((kind : Int) == 0) = false := by simp; omega
    have hkp : (0 : Int) < (kind : Int) := by omega
    clear hk0
    go_wp2
    go_loopw [5, 7] (fun u v wr => ∃ k s q : Nat, k ≤ n ∧ s < 2 ^ 13 ∧ q ≤ p + 2 + k ∧ u = .int .i64 (s : Int) ∧ v = .int .i64 (k : Int) ∧ Reader wr B R q ∧ Aside R W wr) (fun _ v _ => n - (intOf v).toNat)
    case atStart => exact ⟨0, 0, p + 1 + 1, Nat.zero_le _, by omega, by omega, rfl, rfl, HR2.out, HA2.out⟩
    case round =>
      obtain ⟨k, s, q, hk, hs, hq, rfl, rfl, hR3, hA3⟩ := hrel
      have HR3 := Lib.hid hR3
      have HA3 := Lib.hid hA3
      clear hR3 hA3
      by_cases hlt : k < n
      · go_wp2_with fail
        refine (draw_any wr B R q 2 HR3.out (by omega) (by omega) (by omega)).mono ?_
        rintro e w3 ⟨d, rfl, hd, hR4, hA4⟩
        have HR4 := Lib.hid hR4
        have HA4 := Lib.hid (HA3.out.trans hA4)
        clear hR4 hA4 hd
        by_cases hd0 : d = 0
        · subst hd0
          have hw := with_nat s k (by omega) (by omega)
          have hl := or_pow_lt 13 s k hs (by omega)
          go_wp2
          go_roundw
          case rel => exact ⟨k + 1, s ||| 2 ^ k, q + 1, by omega, hl, by omega, rfl, by go_num, HR4.out, HA4.out⟩
          case measure => simp [intOf]; omega
        · have hdz : ((d : Int) == 0) = false := by simp; omega
          go_wp2
          go_roundw
          case rel => exact ⟨k + 1, s, q + 1, by omega, hs, by omega, rfl, by go_num, HR4.out, HA4.out⟩
          case measure => simp [intOf]; omega
      · have e : k = n := by omega
        subst e
        go_wp2_with fail
        refine (draw_any wr B R q 60 HR3.out (by omega) (by omega) (by omega)).mono ?_
        rintro e w3 ⟨d, rfl, hd, hR4, hA4⟩
        have HR4 := Lib.hid hR4
        have HA4 := Lib.hid (HA3.out.trans hA4)
        clear hR4 hA4 hd
        by_cases hd0 : d = 0
        · subst hd0
          go_wp2
          go_ret2
          exact ⟨13, s, q + 1, rfl, by omega, by omega, hs, by omega, HR4.out, HA4.out⟩
        · have hdz : ((d : Int) == 0) = false := by simp; omega
          by_cases hd1 : d = 1
          · subst hd1
            have hpw := pow_le k (by omega)
            have hwk := Lib.hid (wrap_pow k (by omega))
            go_wp2
            go_quiet (fail)
            go_wp2
            go_ret2
            exact ⟨k, 2 ^ k, q + 1, by rw [← hwk.out]; rfl, by omega, by omega, by omega, by omega, HR4.out.drewN _, ⟨HA4.out.os, HA4.out.tape, HA4.out.output, HA4.out.size, HA4.out.block⟩⟩
          · have hdz1 : ((d : Int) == 1) = false := by simp; omega
            go_wp2
            go_ret2
            exact ⟨k, s, q + 1, rfl, by omega, by omega, hs, by omega, HR4.out, HA4.out⟩
def TwoPost (W : World) (e : Ending) (w' : World) : Prop :=
  ∃ n s t : Nat, e = .returned (.tuple #[.int .i64 (n : Int), .int .i64 (s : Int), .int .i64 (t : Int)]) ∧ 1 ≤ n ∧ n ≤ 13 ∧ s < 2 ^ 13 ∧ t < 2 ^ 13 ∧ Below W.heap.size W w'
set_option maxHeartbeats 600000 in
theorem two_any (W : World) (B len cap : Nat) (A : Option Addr) (f : Nat → Nat) (hC : Code W B A len f) (hB : B ≤ W.heap.size) (hlc : len ≤ cap) (hcap : cap ≤ 9223372036854775807) :
    Calls Try.prog 41 #[.slice A len cap] W (TwoPost W) := by
  have HC := Lib.hid (open_any W B len cap A f hC hB hlc hcap)
  clear hC
  go_enter Try.func41, Try.ntmps41
  go_wp2_with fail
  refine HC.out.mono ?_
  rintro e w1 ⟨R, A', len', cap', rfl, hR, hl, hRd, hCd, hb1⟩
  have z1 := hb1.size
  have HRd : Hid (Reader w1 B R 0) := Lib.hid ⟨⟨A', len', cap', f, hRd, hCd, hl⟩, by omega⟩
  clear hRd hCd
  go_wp2_with fail
  refine (set_any w1 B R 0 HRd.out (by omega)).mono ?_
  rintro e w2 ⟨n, s, q, rfl, hn1, hn2, hs, hq, hR2, hA2⟩
  have HR2 := Lib.hid hR2
  have HB2 := Lib.hid (hb1.trans (hA2.below (m := W.heap.size) hR z1))
  clear hR2 hA2
  go_wp2
  go_loopw [8, 9] (fun u v wr => ∃ k t q : Nat, k ≤ n ∧ t < 2 ^ 13 ∧ q ≤ 20 + k ∧ u = .int .i64 (t : Int) ∧ v = .int .i64 (k : Int) ∧ Reader wr B R q ∧ Below W.heap.size W wr) (fun _ v _ => n - (intOf v).toNat)
  case atStart => exact ⟨0, 0, q, Nat.zero_le _, by omega, by omega, rfl, rfl, HR2.out, HB2.out⟩
  case round =>
    obtain ⟨k, t, q, hk, ht, hq, rfl, rfl, hR3, hB3⟩ := hrel
    have HR3 := Lib.hid hR3
    have HB3 := Lib.hid hB3
    have z3 := hB3.size
    clear hR3 hB3
    by_cases hlt : k < n
    · go_wp2_with fail
      refine (draw_any wr B R q 3 HR3.out (by omega) (by omega) (by omega)).mono ?_
      rintro e w3 ⟨d, rfl, hd, hR4, hA4⟩
      have HR4 := Lib.hid hR4
      have HB4 := Lib.hid (HB3.out.trans (hA4.below (m := W.heap.size) hR z3))
      clear hR4 hA4 hd
      by_cases hd0 : d = 0
      · subst hd0
        have hw := with_nat t k (by omega) (by omega)
        have hl := or_pow_lt 13 t k ht (by omega)
        go_wp2
        go_roundw
        case rel => exact ⟨k + 1, t ||| 2 ^ k, q + 1, by omega, hl, by omega, rfl, by go_num, HR4.out, HB4.out⟩
        case measure => simp [intOf]; omega
      · have hdz : ((d : Int) == 0) = false := by simp; omega
        go_wp2
        go_roundw
        case rel => exact ⟨k + 1, t, q + 1, by omega, ht, by omega, rfl, by go_num, HR4.out, HB4.out⟩
        case measure => simp [intOf]; omega
    · have e : k = n := by omega
      subst e
      go_wp2
      go_ret3
      exact ⟨k, s, t, rfl, hn1, hn2, hs, ht, HB3.out⟩
theorem drawSum_any (W : World) (B len cap : Nat) (A : Option Addr) (f : Nat → Nat) (hC : Code W B A len f) (hB : B ≤ W.heap.size) (hlc : len ≤ cap) (hcap : cap ≤ 9223372036854775807) :
    Calls Try.prog 11 #[.slice A len cap] W (TwoPost W) := by
  have HC := Lib.hid (two_any W B len cap A f hC hB hlc hcap)
  clear hC
  go_enter Try.func11, Try.ntmps11
  go_wp2_with fail
  refine HC.out.mono ?_
  rintro e w1 ⟨n, s, t, rfl, hn1, hn2, hs, ht, hb⟩
  go_wp2
  go_ret3
  exact ⟨n, s, t, rfl, hn1, hn2, hs, ht, hb⟩
end Go.Proofs.Ythccchelemnnfaa
