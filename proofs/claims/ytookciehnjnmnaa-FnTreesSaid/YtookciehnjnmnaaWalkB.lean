/- The model's numbers of walks. -/
import Derived.Test.YtookciehnjnmnaaWalkA
import Derived.Test.YtookciehnjnmnaaGE
namespace Go.Proofs.Ytookciehnjnmnaa
open Go.RowKit
set_option linter.unusedVariables false
/-- The call has made a list of its own: the numbers of walks. -/
def WalksPost (w : World) (n : Nat) (xs : List Int) (e : Ending) (w' : World) : Prop :=
  ∃ g, e = .returned (.slice (some ⟨g, 0, none⟩) n n) ∧ Below w.heap.size w w' ∧ IsInts w' w.heap.size (.slice (some ⟨g, 0, none⟩) n n) xs
theorem wlk_first (n s : Nat) : (tabI n (fun _ => 0)).set 0 1 = tabW n (wlkN n s 0) := by
  rw [tabI_set]
  exact tabI_congr n _ _ fun x hx => by
    show (if x = 0 then (1 : Int) else 0) = ((if x = 0 then 1 else 0 : Nat) : Int)
    split <;> rfl
theorem half_set (n s : Nat) (f : Nat → Nat) (v d q : Nat) (hq : (v + d) % n = q) (z : Nat) (hz : z = halfW n s f v d q + f v * b2n (s.testBit d)) :
    (tabW n (halfW n s f v d)).set q ((z : Nat) : Int) = tabW n (halfW n s f v (d + 1)) := by
  unfold tabW
  rw [tabI_set]
  refine tabI_congr n _ _ fun x hx => ?_
  rw [half_step]
  unfold arcW
  by_cases e : x = q
  · subst e
    rw [if_pos rfl, if_pos hq, hz]
  · have e' : ¬ (v + d) % n = x := fun h => e (h.symm.trans hq)
    rw [if_neg e, if_neg e', Nat.add_zero]
set_option maxRecDepth 100000 in
set_option maxHeartbeats 4000000 in
theorem l4Counts_any (n s k : Nat) (w : World) (h1 : 1 ≤ n) (h2 : n ≤ 12) (hs : s < 2 ^ n) (h0 : s.testBit 0 = false) (hk : k ≤ 10) :
    Calls Try.prog 52 #[.int .i64 (n:Int), .int .i64 (s:Int), .int .i64 (k:Int)] w (WalksPost w n (tabW n (wlkN n s k))) := by
  have h40 : s < 2 ^ 40 := Nat.lt_of_lt_of_le hs (Nat.pow_le_pow_right (by omega) (by omega))
  have HF0 := Lib.hid (wlk_first n s)
  have HLe := Lib.hid (fun i x (hx : x < n) (hi : i ≤ 10) => Nat.le_trans (wlk_le n s i x h1 h2 h0 hx) (eleven i hi))
  have HHalf := Lib.hid (fun i v j x (hv : v < n) (hj : j ≤ n) => half_le n s (wlkN n s i) v j x hv hj)
  have HUp := Lib.hid (fun i x => wlk_up n s i x)
  have HSt := Lib.hid (fun f v => tabW_congr n (midW n s f v) (halfW n s f v 1) fun x _ => (half_start n s f v x h0).symm)
  have HSet := Lib.hid (fun f v d q hq z hz => half_set n s f v d q hq z hz)
  have HZ : Hid (∀ f, tabI n (fun _ => (0 : Int)) = tabW n (midW n s f 0)) := Lib.hid (fun f => tabI_congr n _ _ fun x _ => rfl)
  have hmk := make_ints n (by omega)
  have HMk := Lib.hid (made_ints n (by omega))
  have hlz := tabI_len n (fun _ => (0 : Int))
  have hMk := hmk w
  have hO2 : IsInts (w.alloc (.cells (madeCells #[.int .i64 0] n) 3)) w.heap.size (.slice (some ⟨w.heap.size, 0, none⟩) (tabI n (fun _ => (0 : Int))).length n) (tabI n (fun _ => (0 : Int))) := by
    have h := HMk.out w
    rw [zeros_tab] at h
    rw [hlz]
    exact h
  have HB2 : Hid (Below w.heap.size w (w.alloc (.cells (madeCells #[.int .i64 0] n) 3))) := Lib.hid ((Below.refl _ _).alloc (Nat.le_refl _) _)
  have hc0 := hO2.cell (i := 0) (by rw [hlz]; exact h1)
  have hf0 := hO2.frozen 0
  have h3 := hO2.set 0 1
  rw [HF0.out, tabW_len] at h3
  have HO3 := Lib.hid h3
  have HB3 := Lib.hid (HB2.out.setCell (p := ⟨w.heap.size, 0, none⟩) (by simp) (.int .i64 1))
  rw [tabI_get n _ 0 h1] at hc0
  have HMK := Lib.hid hmk
  clear h3 hO2 HF0 HB2 hlz hmk h0
  have i01 : (0 : Int) < (n : Int) := by omega
  obtain ⟨W0, hW0⟩ : ∃ W0, w.alloc (.cells (madeCells #[.int .i64 0] n) 3) = W0 := ⟨_, rfl⟩
  rw [hW0] at HO3 HB3 hc0 hf0 hMk
  go_enter Try.func52, Try.ntmps52
  go_wp2
  go_loopw [7, 8] (fun o u wr => ∃ i g : Nat, i ≤ k ∧ o = .slice (some ⟨g, 0, none⟩) n n ∧ u = .int .i64 (i : Int) ∧ IsInts wr w.heap.size (.slice (some ⟨g, 0, none⟩) n n) (tabW n (wlkN n s i)) ∧ Below w.heap.size w wr) (fun _ u _ => k - (intOf u).toNat)
  case atStart => exact ⟨0, _, Nat.zero_le _, rfl, rfl, HO3.out, HB3.out⟩
  case round =>
    obtain ⟨i, g, hi, rfl, rfl, hI, hB⟩ := hrel
    have HI := Lib.hid hI
    have HBr := Lib.hid hB
    clear hI hB hc0 hf0 hMk HO3 HB3
    by_cases hlt : i < k
    · have hmk := HMK.out wr
      have hO := HMk.out wr
      rw [zeros_tab, HZ.out (wlkN n s i)] at hO
      have hgl := (World.ownsRow.lt HI.out g rfl).2
      have hgb := (World.ownsRow.lt HI.out g rfl).1
      have hwb := HBr.out.size
      have HIa : Hid (IsInts (wr.alloc (.cells (madeCells #[.int .i64 0] n) 3)) w.heap.size (.slice (some ⟨g, 0, none⟩) n n) (tabW n (wlkN n s i))) := Lib.hid (World.ownsRow.alloc HI.out _)
      have HOa := Lib.hid (hO.base hwb)
      have HBa : Hid (Below w.heap.size w (wr.alloc (.cells (madeCells #[.int .i64 0] n) 3))) := Lib.hid (HBr.out.alloc hwb _)
      obtain ⟨G, hG⟩ : ∃ G, wr.heap.size = G := ⟨_, rfl⟩
      rw [hG] at HOa hmk hgl hwb
      obtain ⟨W1, hW1⟩ : ∃ W1, wr.alloc (.cells (madeCells #[.int .i64 0] n) 3) = W1 := ⟨_, rfl⟩
      rw [hW1] at HIa HOa HBa hmk
      have HGG := Lib.hid hG
      have HWW := Lib.hid hW1
      clear hG hW1 hO HI HBr
      go_wp2
      obtain ⟨wo, rfl⟩ : ∃ wo : World, wo = wr := ⟨_, rfl⟩
      go_loopw [10] (fun u wr => ∃ v : Nat, v ≤ n ∧ u = .int .i64 (v : Int) ∧ IsInts wr w.heap.size (.slice (some ⟨g, 0, none⟩) n n) (tabW n (wlkN n s i)) ∧ IsInts wr w.heap.size (.slice (some ⟨G, 0, none⟩) n n) (tabW n (midW n s (wlkN n s i) v)) ∧ Below w.heap.size w wr) (fun u _ => n - (intOf u).toNat)
      case atStart => exact ⟨0, Nat.zero_le _, rfl, HIa.out, HOa.out, HBa.out⟩
      case round =>
        obtain ⟨v, hv, rfl, hl, ho, hB⟩ := hrel
        have HIv := Lib.hid hl
        have HBv := Lib.hid hB
        clear hl hB HIa HOa HBa hmk
        by_cases hlv : v < n
        · rw [HSt.out] at ho
          have HOv := Lib.hid ho
          clear ho
          go_wp2
          obtain ⟨wp, rfl⟩ : ∃ wp : World, wp = wr := ⟨_, rfl⟩
          go_loopw [11] (fun u wr => ∃ d : Nat, 1 ≤ d ∧ d ≤ n ∧ u = .int .i64 (d : Int) ∧ IsInts wr w.heap.size (.slice (some ⟨g, 0, none⟩) n n) (tabW n (wlkN n s i)) ∧ IsInts wr w.heap.size (.slice (some ⟨G, 0, none⟩) n n) (tabW n (halfW n s (wlkN n s i) v d)) ∧ Below w.heap.size w wr) (fun u _ => n - (intOf u).toNat)
          case atStart => exact ⟨1, Nat.le_refl _, h1, rfl, HIv.out, HOv.out, HBv.out⟩
          case round =>
            obtain ⟨d, hd1, hd, rfl, hl, ho, hB⟩ := hrel
            have HIk := Lib.hid hl
            have HOk := Lib.hid ho
            have HBk := Lib.hid hB
            clear hl ho hB HIv HOv HBv
            by_cases hld : d < n
            · have hul := Nat.mod_lt (v + d) (show 0 < n by omega)
              have hm2 : ((v : Int) + (d : Int)) % (n : Int) = (((v + d) % n : Nat) : Int) := by simp
              have hm1 : Int.tmod ((v : Int) + (d : Int)) (n : Int) = (((v + d) % n : Nat) : Int) := by rw [Int.tmod_eq_emod_of_nonneg (by omega)]; exact hm2
              have HSk := Lib.hid (fun q hq z hz => HSet.out (wlkN n s i) v d q hq z hz)
              obtain ⟨q, hq⟩ : ∃ q, (v + d) % n = q := ⟨_, rfl⟩
              rw [hq] at hul hm2 hm1
              have HQ := Lib.hid hq
              clear hq
              have hlen1 := tabW_len n (wlkN n s i)
              have hlen2 := tabW_len n (halfW n s (wlkN n s i) v d)
              have cv := HIk.out.cell (i := v) (by rw [hlen1]; exact hlv)
              have cq := HOk.out.cell (i := q) (by rw [hlen2]; exact hul)
              rw [tabW_get n _ v hlv] at cv
              rw [tabW_get n _ q hul] at cq
              have la := HLe.out i v hlv (by omega)
              have lb : halfW n s (wlkN n s i) v d q ≤ 25937424601 := by
                have a := HHalf.out i v d q hlv hd
                have b := HLe.out (i + 1) q hul (by omega)
                rw [HUp.out] at b
                exact Nat.le_trans a b
              have hI3 : IsInts wr w.heap.size (.slice (some ⟨G, 0, none⟩) (tabW n (halfW n s (wlkN n s i) v d)).length n) (tabW n (halfW n s (wlkN n s i) v d)) := by rw [hlen2]; exact HOk.out
              have fv := hI3.frozen q
              have HI3 := Lib.hid hI3
              have i1 : (0 : Int) ≤ (v : Int) := by omega
              have i2 : (v : Int) < (n : Int) := by omega
              have i3 : (0 : Int) ≤ (q : Int) := by omega
              have i4 : (q : Int) < (n : Int) := by omega
              have n0 : ¬ (n : Int) = 0 := by omega
              have hz2 : ∀ z : Nat, z = halfW n s (wlkN n s i) v d q + wlkN n s i v * b2n (s.testBit d) → Hid (IsInts (wr.setCell ⟨G, q, none⟩ (.int .i64 (z : Int))) w.heap.size (.slice (some ⟨G, 0, none⟩) n n) (tabW n (halfW n s (wlkN n s i) v (d + 1)))) := fun z hz => Lib.hid (by
                have h := HI3.out.set q ((z : Nat) : Int)
                rw [HSk.out q HQ.out z hz, tabW_len] at h
                exact h)
              have hz3 : ∀ z : Nat, Hid (IsInts (wr.setCell ⟨G, q, none⟩ (.int .i64 (z : Int))) w.heap.size (.slice (some ⟨g, 0, none⟩) n n) (tabW n (wlkN n s i))) := fun z => Lib.hid (HIk.out.aside (by omega) q _)
              have hz4 : ∀ z : Nat, Hid (Below w.heap.size w (wr.setCell ⟨G, q, none⟩ (.int .i64 (z : Int)))) := fun z => Lib.hid (HBk.out.setCell (p := ⟨G, q, none⟩) (by simp; omega) _)
              cases hb : s.testBit d
              · have hbt := bit_none h40 hb
                rw [hb] at hz2
                have H2 := hz2 (halfW n s (wlkN n s i) v d q) rfl
                have H3 := hz3 (halfW n s (wlkN n s i) v d q)
                have H4 := hz4 (halfW n s (wlkN n s i) v d q)
                clear hz2 hz3 hz4 hI3 hlen1 hlen2 hb HSk HI3
                generalize halfW n s (wlkN n s i) v d q = z at *
                generalize wlkN n s i v = a at *
                go_wp2
                go_region
                go_wp2
                go_roundw
                case rel => exact ⟨d + 1, by omega, by omega, by go_num, H3.out, H2.out, H4.out.drew⟩
                case measure => simp [intOf]; omega
              · have hbt := bit_one h40 hb
                rw [hb] at hz2
                have H2 := hz2 (halfW n s (wlkN n s i) v d q + wlkN n s i v) (by simp [b2n])
                have H3 := hz3 (halfW n s (wlkN n s i) v d q + wlkN n s i v)
                have H4 := hz4 (halfW n s (wlkN n s i) v d q + wlkN n s i v)
                rw [Int.natCast_add] at H2 H3 H4
                clear hz2 hz3 hz4 hI3 hlen1 hlen2 hb HSk HI3
                generalize halfW n s (wlkN n s i) v d q = z at *
                generalize wlkN n s i v = a at *
                go_wp2
                go_region
                go_wp2
                go_roundw
                case rel => exact ⟨d + 1, by omega, by omega, by go_num, H3.out, H2.out, H4.out.drew⟩
                case measure => simp [intOf]; omega
            · obtain rfl : d = n := by omega
              go_wp2
              go_roundw
              case rel => exact ⟨v + 1, by omega, by go_num, HIk.out, HOk.out, HBk.out⟩
              case measure => simp [intOf]; omega
        · obtain rfl : v = n := by omega
          have HOv := Lib.hid ho
          clear ho
          go_wp2
          go_roundw
          case rel => exact ⟨i + 1, G, by omega, rfl, by go_num, HOv.out, HBv.out⟩
          case measure => simp [intOf]; omega
    · obtain rfl : i = k := by omega
      go_wp2
      go_ret
      exact ⟨g, rfl, HBr.out, HI.out⟩
end Go.Proofs.Ytookciehnjnmnaa
