/- Determinants: the program. -/
import Derived.Test.YtookciehnjnmnaaGrid
import Derived.Test.YtookciehnjnmnaaTreeQ
import Derived.BigRegion
namespace Go.Proofs.Ytookciehnjnmnaa
open Go.RowKit
set_option linter.unusedVariables false
/-- What one place becomes in a round. -/
def elimN (M : Nat → Nat → Int) (k : Nat) (last : Int) (a b : Nat) : Int := Int.tdiv (M a b * M k k - M k b * M a k) last
/-- The rows of which i - k - 1 have been turned, and of row i the places before j. -/
def stJ (M : Nat → Nat → Int) (k : Nat) (last : Int) (i j a b : Nat) : Int := if (k < a ∧ a < i ∧ k < b) ∨ (a = i ∧ k < b ∧ b < j) then elimN M k last a b else M a b
theorem stJ_start (M : Nat → Nat → Int) (k : Nat) (last : Int) (m a b : Nat) (ha : a < m) : M a b = stJ M k last (k + 1) (k + 1) a b := by
  unfold stJ
  rw [if_neg (by omega)]
theorem stJ_end (M : Nat → Nat → Int) (k : Nat) (last : Int) (i m a b : Nat) (hi : k < i) (hb : b < m) : stJ M k last i m a b = stJ M k last (i + 1) (k + 1) a b := by
  unfold stJ
  by_cases c : (k < a ∧ a < i ∧ k < b) ∨ (a = i ∧ k < b ∧ b < m)
  · rw [if_pos c, if_pos (by omega)]
  · rw [if_neg c, if_neg (by omega)]
theorem stJ_put (M : Nat → Nat → Int) (k : Nat) (last : Int) (i j a b : Nat) (hi : k < i) (hj : k < j) (Q : Int) (hQ : Q = elimN M k last i j) : (if a = i ∧ b = j then Q else stJ M k last i j a b) = stJ M k last i (j + 1) a b := by
  unfold stJ
  by_cases e : a = i ∧ b = j
  · obtain ⟨rfl, rfl⟩ := e
    rw [if_pos ⟨rfl, rfl⟩, if_pos (by omega), hQ]
  · rw [if_neg e]
    by_cases c : (k < a ∧ a < i ∧ k < b) ∨ (a = i ∧ k < b ∧ b < j)
    · rw [if_pos c, if_pos (by omega)]
    · rw [if_neg c, if_neg (by omega)]
theorem stJ_old (M : Nat → Nat → Int) (k : Nat) (last : Int) (i j a b : Nat) (h : ¬ ((k < a ∧ a < i ∧ k < b) ∨ (a = i ∧ k < b ∧ b < j))) : stJ M k last i j a b = M a b := by
  unfold stJ
  rw [if_neg h]
set_option maxRecDepth 100000 in
set_option maxHeartbeats 4000000 in
theorem determinant_any (m g cp N : Nat) (G C : Nat → Nat) (M : Nat → Nat → Int) (R : List (List Int)) (w : World) (hm : m ≤ 10) (hG : Grid w N g m m m G C M) (hS : Sub m 0 M R) (ho : okG m 1 R = true) :
    Calls Try.prog 70 #[.slice (some ⟨g, 0, none⟩) m cp] w fun e w' => e = .returned (.int .i64 (detG m 1 R)) ∧ Below N w w' := by
  have HG := Lib.hid hG
  have HS := Lib.hid hS
  have HO := Lib.hid ho
  have HT : Hid (∃ T, detG m 1 R = T) := Lib.hid ⟨_, rfl⟩
  obtain ⟨T, hT⟩ := HT.out
  have HTe := Lib.hid hT
  clear hG hS ho hT HT
  go_enter Try.func70, Try.ntmps70
  go_wp2
  go_loopw [3, 10] (fun a u wr => ∃ (k : Nat) (last : Int) (M : Nat → Nat → Int) (R : List (List Int)), k ≤ m ∧ Hid (Sub m k M R) ∧ Hid (okG (m - k) last R = true) ∧ Hid (detG (m - k) last R = T) ∧ last ≠ 0 ∧ a = .int .i64 last ∧ u = .int .i64 (k : Int) ∧ Grid wr N g m m m G C M ∧ Below N w wr) (fun _ u _ => m - (intOf u).toNat)
  case atStart => exact ⟨0, 1, M, R, Nat.zero_le _, HS, HO, HTe, by omega, rfl, rfl, HG.out, Below.refl _ _⟩
  case round =>
    obtain ⟨k, last, M, R, hk, HS, HO, HT, hl0, rfl, rfl, hG, hB⟩ := hrel
    clear HG
    have HG := Lib.hid hG
    have HB := Lib.hid hB
    clear hG hB
    by_cases hlt : k < m
    · obtain ⟨hok, hp0, R', hs', hd', ho'⟩ := detG_step (M' := stJ M k last m (k + 1)) HS.out hlt HO.out (fun i j a b c d => by unfold stJ; rw [if_pos (by omega)]; rfl)
      have HS' := Lib.hid hs'
      have HO' := Lib.hid ho'
      have HT' : Hid (detG (m - (k + 1)) (M k k) R' = T) := Lib.hid (hd'.symm.trans HT.out)
      obtain ⟨_, hbd⟩ := ok_get HS.out hok
      have HBd := Lib.hid hbd
      clear hs' ho' hd' hok hbd
      have co := HG.out.outer k hlt
      have ci := HG.out.inner k k hlt hlt
      have i1 : (0 : Int) ≤ (k : Int) := by omega
      have i2 : (k : Int) < (m : Int) := by omega
      have HP : Hid (∃ p, M k k = p) := Lib.hid ⟨_, rfl⟩
      obtain ⟨p, hp⟩ := HP.out
      rw [hp] at ci hp0 HT' HO'
      have HPe := Lib.hid hp
      clear hp HP
      obtain ⟨K1, hK1⟩ : ∃ K1, K1 = k + 1 := ⟨_, rfl⟩
      have eK : (k : Int) + 1 = (K1 : Int) := by omega
      have eW : wrap64 ((k : Int) + 1) = (K1 : Int) := by rw [eK]; exact IntWalk.wrap64_in _ ⟨by omega, by omega⟩
      have eV : IntKind.i64.wrap ((k : Int) + 1) = (K1 : Int) := by rw [eK]; exact IntWalk.i64_in _ ⟨by omega, by omega⟩
      have HK := Lib.hid hK1
      clear hK1
      go_wp2
      go_loopw [6] (fun u wr => ∃ i : Nat, k < i ∧ i ≤ m ∧ u = .int .i64 (i : Int) ∧ Grid wr N g m m m G C (stJ M k last i (k + 1)) ∧ Below N w wr) (fun u _ => m - (intOf u).toNat)
      case atStart => exact ⟨k + 1, by omega, hlt, by rw [← HK.out], HG.out.congr (fun a b ha _ => stJ_start M k last m a b ha), HB.out⟩
      case round =>
        obtain ⟨i, hki, him, rfl, hG, hB⟩ := hrel
        clear HG HB co ci
        have HG := Lib.hid hG
        have HB := Lib.hid hB
        clear hG hB
        by_cases hli : i < m
        · go_wp2
          go_loopw [7] (fun u wr => ∃ j : Nat, k < j ∧ j ≤ m ∧ u = .int .i64 (j : Int) ∧ Grid wr N g m m m G C (stJ M k last i j) ∧ Below N w wr) (fun u _ => m - (intOf u).toNat)
          case atStart => exact ⟨k + 1, by omega, hlt, by rw [← HK.out], HG.out, HB.out⟩
          case round =>
            obtain ⟨j, hkj, hjm, rfl, hG, hB⟩ := hrel
            clear HG HB
            have HG := Lib.hid hG
            have HB := Lib.hid hB
            clear hG hB
            by_cases hlj : j < m
            · have hbd := HBd.out (by omega)
              have hp := HPe.out
              have by1 := hbd i j (by omega) hli (by omega) hlj
              have bp1 := hbd k k (Nat.le_refl _) hlt (Nat.le_refl _) hlt
              have bz1 := hbd k j (Nat.le_refl _) hlt (by omega) hlj
              have ba1 := hbd i k (by omega) hli (Nat.le_refl _) hlt
              rw [hp] at bp1
              have co1 := HG.out.outer i hli
              have co2 := HG.out.outer k hlt
              have c1 := HG.out.inner i j hli hlj
              have c2 := HG.out.inner i k hli hlt
              have c3 := HG.out.inner k j hlt hlj
              have fz := HG.out.froz i j hli hlj
              rw [stJ_old M k last i j i j (by omega)] at c1
              rw [stJ_old M k last i j i k (by omega)] at c2
              rw [stJ_old M k last i j k j (by omega)] at c3
              have HEl : Hid (elimN M k last i j = Int.tdiv (M i j * M k k - M k j * M i k) last) := Lib.hid rfl
              have HEl2 := Lib.hid (HEl.out.trans (by rw [hp]) : elimN M k last i j = Int.tdiv (M i j * p - M k j * M i k) last)
              have hput := fun Q hQ => (HG.out.put i j Q hli hlj).congr (M' := stJ M k last i (j + 1)) (fun a b _ _ => stJ_put M k last i j a b hki hkj Q hQ)
              have HPut := Lib.hid hput
              have hgi := HG.out.baseG i hli
              have HB2 : Hid (∀ v, Below N w (wr.setCell ⟨G i, j, none⟩ v)) := Lib.hid (fun v => HB.out.setCell (p := ⟨G i, j, none⟩) hgi v)
              obtain ⟨P1, P2, D, Q, HQ, w1, w2, w3, w4, w5, w6, w7, w8, w9, w10⟩ := elim_in (M i j) p (M k j) (M i k) last by1 bp1 bz1 ba1
              have HQe : Hid (Q = elimN M k last i j) := Lib.hid (by
                obtain ⟨q1, q2, q3, q4, q5⟩ := HQ.out
                rw [HEl2.out, q1, q3, q4, q5])
              have HP2 := Lib.hid (HPut.out Q HQe.out)
              have i3 : (0 : Int) ≤ (i : Int) := by omega
              have i4 : (i : Int) < (m : Int) := by omega
              have i5 : (0 : Int) ≤ (j : Int) := by omega
              have i6 : (j : Int) < (m : Int) := by omega
              clear hput HPut HEl HEl2 hbd hp by1 bp1 bz1 ba1 HQ HQe hgi
              generalize M i j = y at *
              generalize M k j = z at *
              generalize M i k = a at *
              generalize G i = gi at *
              go_wp2
              go_region
              go_wp2
              go_roundw
              case rel => exact ⟨j + 1, by omega, by omega, by go_num, HP2.out.drew, (HB2.out _).drew⟩
              case measure => simp [intOf]; omega
            · obtain rfl : j = m := by omega
              have HG2 := Lib.hid (HG.out.congr (fun a b _ hb => stJ_end M k last i j a b hki hb))
              go_wp2
              go_roundw
              case rel => exact ⟨i + 1, by omega, by omega, by go_num, HG2.out, HB.out⟩
              case measure => simp [intOf]; omega
        · obtain rfl : i = m := by omega
          go_wp2
          go_roundw
          case rel => exact ⟨K1, p, _, R', by have := HK.out; omega, by rw [HK.out]; exact HS', by rw [HK.out]; exact HO', by rw [HK.out]; exact HT', hp0, rfl, rfl, HG.out, HB.out⟩
          case measure => have := HK.out; simp [intOf]; omega
    · obtain rfl : k = m := by omega
      have HE : Hid (last = T) := Lib.hid (by
        have h := HT.out
        rw [Nat.sub_self] at h
        exact h)
      go_wp2
      go_ret
      exact ⟨ret_int (by rw [HE.out, HTe.out]), HB.out⟩
end Go.Proofs.Ytookciehnjnmnaa
