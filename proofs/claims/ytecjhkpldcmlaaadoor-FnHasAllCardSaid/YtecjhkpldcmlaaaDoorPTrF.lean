/- Promises of chapter 11: all places are asked. Written by gen146.py. -/
import Derived.Test.YtecjhkpldcmlaaaDoorDrwD
import Derived.Test.YtecjhkpldcmlaaaDoorPTrA
import Derived.Test.YtecjhkpldcmlaaaDoorTrpN
namespace Go.Proofs.YtecjhkpldcmlaaaDoor
open Go.RowKit Go.Shelf
set_option linter.unusedVariables false
attribute [local go_sem] Oper.semAt_some
theorem all_has (n : Int) (s : ByteArray) (t : Tm) (h : termO n s.toList = some t) :
    ∃ S : Nat, S < 4096 ∧ setO n s = some S ∧ ∀ v : Nat, (v : Int) < n → ptsB s ≤ 4 → hasO n s (v : Int) = S.testBit v := by
  obtain ⟨m, rfl, h1, h2, ho, hl, e⟩ := termO_ok h
  have hlt := set_lt m t h1 ho
  have hp := pow_le m h2
  refine ⟨setT m t, by omega, by rw [setO_yes h, Int.toNat_natCast], fun v hv hpt => ?_⟩
  rw [hasO_yes h, Int.toNat_natCast, Int.toNat_natCast, ← has_set m t h1 ho v (by omega), decide_eq_true hpt, decide_eq_true (⟨by omega, hv⟩ : (0 : Int) ≤ (v : Int) ∧ (v : Int) < (m : Int))]
  simp
set_option maxRecDepth 20000 in
set_option maxHeartbeats 2000000 in
theorem law_PHasAll (W : World) (B len cap : Nat) (A : Option Addr) (f : Nat → Nat) (hC : Code W B A len f) (hB : B ≤ W.heap.size) (hlc : len ≤ cap) (hcap : cap ≤ 9223372036854775807) (hE : ErrVar W) :
    Calls Tryd.prog 7 #[.slice A len cap] W fun e w' => e = .returned (.bool true) ∧ Below W.heap.size W w' := by
  have HC := Lib.hid (DrawTermSet_any W B len cap A f hC hB hlc hcap)
  have HE := Lib.hid hE
  clear hC hE hB hlc hcap
  by_cases hlen : (1048576 : Int) < (len : Int)
  · go_enter Tryd.func7, Tryd.ntmps7
    go_wp2
    go_ret
    exact ⟨rfl, Below.refl _ _⟩
  go_enter Tryd.func7, Tryd.ntmps7
  go_wp2_with fail
  refine HC.out.mono ?_
  rintro e w1 ⟨n, s, rfl, hn1, hn2, hs, hb1⟩
  have HB := Lib.hid hb1
  have HI := Lib.hid (fun W1 h => implTermSet_any (n : Int) s W1 h (by omega))
  have HS := Lib.hid (fun W1 => specTermSet_any (n : Int) s W1 (by omega))
  have HH := Lib.hid (fun (v : Nat) W1 h => implTermHas_any (n : Int) (v : Int) s W1 h (by omega))
  have hmx : Tryd.prog.follows .mixedOrders = true := by kernel_rfl
  clear hb1 HC
  cases ht : termO (n : Int) s.toList with
  | none =>
    rw [setO_no ht] at HI HS
    clear HH ht
    simp only [Option.isSome_none, Option.getD_none] at HI HS
    go_wp2_with fail
    refine (HI.out _ (HE.out.below (Nat.le_refl _) HB.out)).mono ?_
    rintro e w9 ⟨rfl, hbw⟩
    have HB := Lib.hid (HB.out.trans (hbw.mono HB.out.size))
    clear hbw
    go_wp2_with fail
    refine (HS.out _).mono ?_
    rintro e w9 ⟨rfl, hbw⟩
    have HB := Lib.hid (HB.out.trans (hbw.mono HB.out.size))
    clear hbw
    go_wp2
    go_ret
    exact ⟨rfl, HB.out⟩
  | some t =>
    obtain ⟨S, hS, hx1, hall⟩ := all_has _ s t ht
    rw [hx1] at HI HS
    have HAll := Lib.hid hall
    have HBit := Lib.hid (fun v => has_nat S v (by omega))
    obtain ⟨N, hN⟩ : ∃ N, s.size = N := ⟨_, rfl⟩
    have HN := Lib.hid hN
    have HSz : Hid (N ≤ 40) := Lib.hid (by omega)
    have HNn : Hid (n ≤ 12) := Lib.hid hn2
    have HN1 : Hid (1 ≤ n) := Lib.hid hn1
    have HSt := Lib.hid (fun k hk c hd => pts_step s k hk c hd)
    have HLe := Lib.hid (fun k => pts_le s k)
    have HEn := Lib.hid (pts_end s)
    clear ht hx1 hall hS hs hn1
    simp only [Option.isSome_some, Option.getD_some] at HI HS
    go_wp2_with fail
    refine (HI.out _ (HE.out.below (Nat.le_refl _) HB.out)).mono ?_
    rintro e w9 ⟨rfl, hbw⟩
    have HB := Lib.hid (HB.out.trans (hbw.mono HB.out.size))
    clear hbw
    go_wp2_with fail
    refine (HS.out _).mono ?_
    rintro e w9 ⟨rfl, hbw⟩
    have HB := Lib.hid (HB.out.trans (hbw.mono HB.out.size))
    clear hbw
    go_wp2
    go_loopw [9, 10] (fun u v wr => ∃ k : Nat, k ≤ N ∧ u = .int .i64 ((ptsTo s k : Nat) : Int) ∧ v = .int .i64 (k : Int) ∧ Hid (Below W.heap.size W wr)) (fun _ v _ => N - (intOf v).toNat)
    case atStart => exact ⟨0, Nat.zero_le _, rfl, rfl, HB⟩
    case round =>
      obtain ⟨k, hk, rfl, rfl, HBr⟩ := hrel
      by_cases hlt : k < N
      · obtain ⟨c, hd, hidx⟩ := index_str s k (by rw [HN.out]; exact hlt)
        have hst := HSt.out k (by rw [HN.out]; exact hlt) c hd
        have hle := HLe.out k
        have hsz := HSz.out
        have HStep := Lib.hid hst
        have i1 : (k : Int) < (N : Int) := by omega
        obtain ⟨m1, m2⟩ := mil_up k (by omega)
        have u : c = 46 ↔ c.toNat = 46 := by
          constructor
          · rintro rfl; rfl
          · intro e; exact (show c = UInt8.ofNat 46 from by rw [← e, UInt8.ofNat_toNat])
        by_cases hc : c = 46
        · have hx := u.1 hc
          rw [if_pos hc] at HStep
          rw [hx] at hidx
          have HW := Lib.hid (mil_up (ptsTo s k) (by rw [HN.out] at hle; omega))
          clear hd hst hle hsz u hc hx
          generalize ptsTo s k = P at *
          generalize hQ : ptsTo s (k + 1) = Q at *
          have HQ := Lib.hid hQ
          clear hQ
          obtain ⟨u1, u2⟩ := HW.out
          go_wp2
          go_roundw
          case rel => clear m1 m2 u1 u2; exact ⟨k + 1, by omega, by rw [HQ.out, HStep.out]; rfl, by go_num, HBr⟩
          case measure => simp [intOf]; omega
        · have hx : ¬ c.toNat = 46 := fun e => hc (u.2 e)
          rw [if_neg hc, Nat.add_zero] at HStep
          clear hd hst hle hsz u hc
          generalize c.toNat = x at *
          have d1 : ((x : Int) == 46) = false := by simp; omega
          clear hx
          generalize ptsTo s k = P at *
          go_wp2
          go_roundw
          case rel => clear m1 m2; exact ⟨k + 1, by omega, by rw [HStep.out]; rfl, by go_num, HBr⟩
          case measure => simp [intOf]; omega
      · obtain rfl : k = N := by omega
        have hpe : ptsTo s k = ptsB s := by rw [← HEn.out, HN.out]
        rw [hpe]
        clear hpe hlt hk
        generalize ptsB s = P at *
        by_cases hp4 : P ≤ 4
        · have hp5 : (P : Int) ≤ 4 := by omega
          have hp6 : decide ((P : Int) ≤ 4) = true := decide_eq_true hp5
          clear hp4
          go_wp2
          go_loopw [11] (fun u wr => ∃ v : Nat, v ≤ n ∧ u = .int .i64 (v : Int) ∧ Hid (Below W.heap.size W wr)) (fun u _ => n - (intOf u).toNat)
          case atStart => exact ⟨0, Nat.zero_le _, rfl, HBr⟩
          case round =>
            obtain ⟨v, hv, rfl, HBv⟩ := hrel
            by_cases hlt : v < n
            · have hh := HAll.out v (by omega) (by omega)
              have hbt := HBit.out v
              obtain ⟨m1, m2⟩ := mil_up v (by have := HNn.out; omega)
              have q0 : (0 : Int) ≤ (v : Int) := by omega
              have q1 : v < 64 := by have := HNn.out; omega
              have i1 : (v : Int) < (n : Int) := by omega
              have HHv := Lib.hid (fun W1 h => HH.out v W1 h)
              rw [hh] at HHv
              clear hh
              generalize S.testBit v = b at *
              go_wp2_with fail
              have hA0 : Below W.heap.size W wr.drew := HBv.out.drew
              refine wp_region_held_drew (S := fun V => Below W.heap.size W V) hmx hA0 (fun _ => ?_)
              generalize wr.drew = V0 at *
              refine take1 0 (v := ?_) rfl (by kernel_rfl) (by kernel_rfl) (by kernel_rfl) (fun _ _ _ h => h) (by rfl) ?_ hA0 ?_
              rotate_left
              · intro V9 hA
                clear hA
                go_simp
                try with_reducible rfl
              try simp only [Act.put, List.setIfInBounds_toArray, List.set_cons_zero, List.set_cons_succ]
              refine take1 1 (v := ?_) rfl (by kernel_rfl) (by kernel_rfl) (by kernel_rfl) (fun _ _ _ h => h) (by rfl) ?_ hA0 ?_
              rotate_left
              · intro V9 hA
                clear hA
                go_simp
                try with_reducible rfl
              try simp only [Act.put, List.setIfInBounds_toArray, List.set_cons_zero, List.set_cons_succ]
              refine take1 2 (v := ?_) rfl (by kernel_rfl) (by kernel_rfl) (by kernel_rfl) (fun _ _ _ h => h) (by rfl) ?_ hA0 ?_
              rotate_left
              · intro V9 hA
                clear hA
                go_simp
                try with_reducible rfl
              try simp only [Act.put, List.setIfInBounds_toArray, List.set_cons_zero, List.set_cons_succ]
              refine take1 4 (v := ?_) rfl (by kernel_rfl) (by kernel_rfl) (by kernel_rfl) (fun _ _ _ h => h) (by rfl) ?_ hA0 ?_
              rotate_left
              · intro V9 hA
                clear hA
                go_simp
                try with_reducible rfl
              try simp only [Act.put, List.setIfInBounds_toArray, List.set_cons_zero, List.set_cons_succ]
              refine take1 5 (v := ?_) rfl (by kernel_rfl) (by kernel_rfl) (by kernel_rfl) (fun _ _ _ h => h) (by rfl) ?_ hA0 ?_
              rotate_left
              · intro V9 hA
                clear hA
                go_simp
                try with_reducible rfl
              try simp only [Act.put, List.setIfInBounds_toArray, List.set_cons_zero, List.set_cons_succ]
              refine take1 6 (v := ?_) rfl (by kernel_rfl) (by kernel_rfl) (by kernel_rfl) (fun _ _ _ h => h) (by rfl) ?_ hA0 ?_
              rotate_left
              · intro V9 hA
                clear hA
                go_simp
                try with_reducible rfl
              try simp only [Act.put, List.setIfInBounds_toArray, List.set_cons_zero, List.set_cons_succ]
              refine take1 7 (v := ?_) rfl (by kernel_rfl) (by kernel_rfl) (by kernel_rfl) (fun _ _ _ h => h) (by rfl) ?_ hA0 ?_
              rotate_left
              · intro V9 hA
                clear hA
                go_simp
                try with_reducible rfl
              try simp only [Act.put, List.setIfInBounds_toArray, List.set_cons_zero, List.set_cons_succ]
              refine take1 8 (v := ?_) rfl (by kernel_rfl) (by kernel_rfl) (by kernel_rfl) (fun _ _ _ h => h) (by rfl) ?_ hA0 ?_
              rotate_left
              · intro V9 hA
                clear hA
                go_simp
                try with_reducible rfl
              try simp only [Act.put, List.setIfInBounds_toArray, List.set_cons_zero, List.set_cons_succ]
              refine step1 3 (by kernel_rfl) rfl (fun K hK => ?_)
              go_simp
              refine (HHv.out _ (HE.out.below (Nat.le_refl _) hA0)).mono ?_
              rintro e V1 ⟨rfl, hb1⟩
              go_wp2_with fail
              have hA1 := hA0.trans (hb1.mono hA0.size)
              refine hK.out _ _ hA1 ?_
              clear hK K
              try simp only [Act.put, List.setIfInBounds_toArray, List.set_cons_zero, List.set_cons_succ]
              refine take1 9 (v := ?_) rfl (by kernel_rfl) (by kernel_rfl) (by kernel_rfl) (fun _ _ _ h => h) (by rfl) ?_ hA1 ?_
              rotate_left
              · intro V9 hA
                clear hA
                go_simp
                try with_reducible rfl
              try simp only [Act.put, List.setIfInBounds_toArray, List.set_cons_zero, List.set_cons_succ]
              refine stop1 (by kernel_rfl) ?_
              have HB1 := Lib.hid hA1
              clear hb1
              go_wp2
              go_roundw
              case rel => exact ⟨v + 1, by omega, by go_num, HB1⟩
              case measure => simp [intOf]; omega
            · obtain rfl : v = n := by omega
              clear hlt
              go_wp2
              go_ret
              exact ⟨rfl, HBv.out⟩
        · have hp5 : ¬ (P : Int) ≤ 4 := by omega
          have hp6 : decide ((P : Int) ≤ 4) = false := decide_eq_false hp5
          have i0 : 0 < n := HN1.out
          have i1 : (0 : Int) < (n : Int) := by have := HN1.out; omega
          clear hp4
          go_wp2
          go_loopw [11] (fun u wr => u = .int .i64 0 ∧ Hid (Below W.heap.size W wr)) (fun u _ => 0)
          case atStart => exact ⟨rfl, HBr⟩
          case round =>
            obtain ⟨rfl, HBv⟩ := hrel
            go_wp2
            go_ret
            exact ⟨rfl, HBv.out⟩
end Go.Proofs.YtecjhkpldcmlaaaDoor
