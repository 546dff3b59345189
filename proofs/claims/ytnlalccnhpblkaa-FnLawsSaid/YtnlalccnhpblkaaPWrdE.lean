/- Promises of chapter 10 over given contracts: laws. Written by gen122.py. -/
import Derived.Test.YtnlalccnhpblkaaDrawO
import Derived.Test.YtnlalccnhpblkaaWrdV
namespace Go.Proofs.Ytnlalccnhpblkaa
open Go.RowKit Go.Shelf
set_option linter.unusedVariables false
theorem sameTexts_any (sa sb : Value) (xs : List ByteArray) (w : World) (ba bb : Nat) (ha : IsStrs w ba sa xs) (hb : IsStrs w bb sb xs) :
    Calls Try.prog 20 #[sa, sb] w fun e w' => e = .returned (.bool true) ∧ Below w.heap.size w w' := by
  by_cases hx : xs = []
  · subst hx
    rcases strs_shape ha with ⟨rfl, _⟩ | ⟨g, cap, rfl, hg1, hg2, hg3⟩ <;> rcases strs_shape hb with ⟨rfl, _⟩ | ⟨g', cap', rfl, hg1', hg2', hg3'⟩
    all_goals
      clear ha hb
      (try simp only [List.length_nil])
      go_enter Try.func20, Try.ntmps20
      go_wp2
      go_loopw [5] (fun u wr => u = .int .i64 0 ∧ wr = w) (fun _ _ => 0)
      case atStart => exact ⟨rfl, rfl⟩
      case round =>
        obtain ⟨rfl, rfl⟩ := hrel
        go_wp2
        go_ret
        exact ⟨rfl, Below.refl _ _⟩
  · rcases strs_shape ha with ⟨rfl, h0⟩ | ⟨g, cap, rfl, hg1, hg2, hg3⟩
    · exact absurd h0 hx
    · rcases strs_shape hb with ⟨rfl, h0⟩ | ⟨g', cap', rfl, hg1', hg2', hg3'⟩
      · exact absurd h0 hx
      · unfold maxLen at hg3
        have HA := Lib.hid ha
        have HB := Lib.hid hb
        clear ha hb hg3' hx
        go_enter Try.func20, Try.ntmps20
        go_wp2
        go_loopw [5] (fun u wr => ∃ k : Nat, k ≤ xs.length ∧ u = .int .i64 (k : Int) ∧ Below w.heap.size w wr) (fun u _ => xs.length - (intOf u).toNat)
        case atStart => exact ⟨0, Nat.zero_le _, rfl, Below.refl _ _⟩
        case round =>
          obtain ⟨k, hk, rfl, hB⟩ := hrel
          by_cases hlt : k < xs.length
          · have c1 := (hB.cell (p := ⟨g, k, none⟩) hg2).trans (strs_cell HA.out hlt)
            have c2 := (hB.cell (p := ⟨g', k, none⟩) hg2').trans (strs_cell HB.out hlt)
            have i1 : (0 : Int) ≤ (k : Int) := by omega
            have i2 : (k : Int) < (xs.length : Int) := by omega
            generalize xs.getD k ⟨#[]⟩ = z at c1 c2
            go_wp2
            go_quiet (fail)
            go_wp2
            go_roundw
            case rel => exact ⟨k + 1, by omega, by go_num, below_drewN hB _⟩
            case measure => simp [intOf]; omega
          · have e : k = xs.length := by omega
            subst e
            go_wp2
            go_ret
            exact ⟨rfl, hB⟩
/-- What the laws of some letters are. -/
theorem laws_facts (n : Nat) (xs : List Int) (k : Nat) (hL : LetIn (n : Int) xs) (hk : k ≤ 6) (i : Nat) (hi : i < (lawsO n xs k).length) :
    endO (n : Int) xs ((lawsO n xs k).getD i ⟨#[]⟩) = some 0 ∧ tidyO (n : Int) xs ((lawsO n xs k).getD i ⟨#[]⟩) = some ((lawsO n xs k).getD i ⟨#[]⟩) ∧ 1 ≤ ((lawsO n xs k).getD i ⟨#[]⟩).size ∧ ((lawsO n xs k).getD i ⟨#[]⟩).size ≤ k := by
  have hi2 : i < (lawsN n (letL xs) k).length := by unfold lawsO at hi; rw [List.length_map] at hi; exact hi
  have hg : (lawsO n xs k).getD i ⟨#[]⟩ = toB (textC 0 ((lawsN n (letL xs) k)[i])) := by
    unfold lawsO
    rw [List.getD_eq_getElem?_getD, List.getElem?_map, List.getElem?_eq_getElem hi2]
    rfl
  obtain ⟨a, b, c, d⟩ := (laws_mem n (letL xs) k _).1 (List.getElem_mem hi2)
  rw [hg]
  generalize (lawsN n (letL xs) k)[i] = cs at *
  have hz := ((min_iff _ _ _ _).1 d).1
  unfold zeroC at hz
  rw [Bool.and_eq_true] at hz
  have he : endW n (letL xs) cs = 0 := by simpa using hz.1
  rw [let_len] at a
  have hc2 : cntT xs.length (toB (textC 0 cs)).toList = some cs := by
    rw [toB_list]
    exact cntT_text xs.length hL.2.2.1 cs a (by omega)
  have e2 := endO_yes n xs (toB (textC 0 cs)) cs hL hc2
  rw [he] at e2
  exact ⟨e2.1, e2.2, by rw [toB_size, text_len]; exact b, by rw [toB_size, text_len]; exact c⟩
theorem laws_few (n : Nat) (xs : List Int) (k : Nat) (h : xs.length ≤ 1) : (lawsO n xs k).length ≤ 1 := by
  unfold lawsO
  rw [List.length_map]
  exact laws_one n (letL xs) k (by rw [let_len]; exact h)
theorem one_fitL (p : Nat) (h : p ≤ 100) : IntKind.i64.wrap (1 + (p : Int)) = ((p + 1 : Nat) : Int) ∧ wrap64 (1 + (p : Int)) = ((p + 1 : Nat) : Int) := ⟨by rw [IntWalk.i64_in _ ⟨by omega, by omega⟩]; omega, by rw [IntWalk.wrap64_in _ ⟨by omega, by omega⟩]; omega⟩
theorem six_fitL (x : Nat) (h : x ≤ 1) : IntKind.i64.wrap ((x : Int) * 6) = ((x * 6 : Nat) : Int) ∧ wrap64 ((x : Int) * 6) = ((x * 6 : Nat) : Int) := ⟨by rw [IntWalk.i64_in _ ⟨by omega, by omega⟩]; omega, by rw [IntWalk.wrap64_in _ ⟨by omega, by omega⟩]; omega⟩
theorem add_fitL (a y : Nat) (h : a ≤ 100) (hy : y ≤ 100) : IntKind.i64.wrap ((a : Int) + (y : Int)) = ((a + y : Nat) : Int) ∧ wrap64 ((a : Int) + (y : Int)) = ((a + y : Nat) : Int) := ⟨by rw [IntWalk.i64_in _ ⟨by omega, by omega⟩]; omega, by rw [IntWalk.wrap64_in _ ⟨by omega, by omega⟩]; omega⟩
theorem sub_fitL (b u : Nat) (h : b ≤ 12) (hu : u ≤ 1) : ∃ v : Int, IntKind.i64.wrap ((b : Int) - (u : Int)) = v ∧ wrap64 ((b : Int) - (u : Int)) = v := ⟨(b : Int) - (u : Int), IntWalk.i64_in _ ⟨by omega, by omega⟩, IntWalk.wrap64_in _ ⟨by omega, by omega⟩⟩
theorem drawn_quo (d : Nat) (h : d ≤ 23) : ∃ x : Nat, x ≤ 1 ∧ (d : Int) / 23 = (x : Int) ∧ Int.tdiv (d : Int) 23 = (x : Int) ∧ wrap64 (x : Int) = (x : Int) ∧ IntKind.i64.wrap (x : Int) = (x : Int) := ⟨d / 23, by omega, by omega, by rw [Int.tdiv_eq_ediv_of_nonneg (by omega)]; omega, IntWalk.wrap64_in _ ⟨by omega, by omega⟩, IntWalk.i64_in _ ⟨by omega, by omega⟩⟩
/-- A ring, letters and a number. -/
def LetNumber (W : World) (e : Ending) (w' : World) : Prop :=
  ∃ (n : Nat) (lv : Value) (xs : List Int) (v : Int), e = .returned (.tuple #[.int .i64 (n : Int), lv, .int .i64 v]) ∧ 2 ≤ n ∧ n ≤ 12 ∧ 1 ≤ xs.length ∧ xs.length ≤ 3 ∧ Below W.heap.size W w' ∧ IsInts w' W.heap.size lv xs
set_option maxHeartbeats 2000000 in
theorem drawWordLaws_any (W : World) (B len cap : Nat) (A : Option Addr) (f : Nat → Nat) (hC : Code W B A len f) (hB : B ≤ W.heap.size) (hlc : len ≤ cap) (hcap : cap ≤ 9223372036854775807) :
    Calls Try.prog 17 #[.slice A len cap] W (LetNumber W) := by
  have HO := Lib.hid (open_any W B len cap A f hC hB hlc hcap)
  clear hC
  go_enter Try.func17, Try.ntmps17
  go_wp2_with fail
  refine HO.out.mono ?_
  rintro e w1 ⟨R, A', len', cap', rfl, hR, hl, hRd, hCd, hb1⟩
  have hWR : W.heap.size ≤ R := hR
  have HL := Lib.hid (l92Letters_any W w1 B R 0 hWR hb1 ⟨⟨A', len', cap', f, hRd, hCd, hl⟩, by omega⟩ (by omega))
  clear hRd hCd hb1 hl HO
  go_wp2_with fail
  refine HL.out.mono ?_
  rintro e w2 ⟨n, lv, xs, q, rfl, hn1, hn2, hx1, hx3, hq, hR2, hB2, hI2, hE2⟩
  obtain ⟨A2, cap2, rfl⟩ := ints_slice hI2
  have HR2 := Lib.hid hR2
  have HB2 := Lib.hid hB2
  have HI2 := Lib.hid hI2
  clear hR2 hB2 hI2 hE2 HL
  go_wp2_with fail
  refine (draw_any w2 B R q 6 HR2.out (by omega) (by omega) (by omega)).mono ?_
  rintro e w3 ⟨p, rfl, hp, hR3, hA3⟩
  have hp3 := hp (by omega)
  have HR3 := Lib.hid hR3
  have HB3 := Lib.hid (HB2.out.trans (hA3.below (m := W.heap.size) hWR HB2.out.size))
  have HI3 := Lib.hid (aside_ints HI2.out hA3 (Nat.lt_succ_self R))
  clear hR3 hA3 hp HR2 HB2 HI2
  have HF := Lib.hid (one_fitL p (by omega))
  have ha : p + 1 ≤ 6 := by omega
  clear hp3
  generalize p + 1 = a at *
  have f1 := HF.out.1
  have f2 := HF.out.2
  go_wp2_with fail
  clear f1 f2 HF
  refine (draw_any w3 B R (q + 1) 24 HR3.out (by omega) (by omega) (by omega)).mono ?_
  rintro e w4 ⟨d, rfl, hd, hR4, hA4⟩
  have hd4 := hd (by omega)
  have HR4 := Lib.hid hR4
  have HB4 := Lib.hid (HB3.out.trans (hA4.below (m := W.heap.size) hWR HB3.out.size))
  have HI4 := Lib.hid (aside_ints HI3.out hA4 (Nat.lt_succ_self R))
  clear hR4 hA4 hd HR3 HB3 HI3
  obtain ⟨x, hx6, hxd⟩ := drawn_quo d (by omega)
  have HXD := Lib.hid hxd
  clear hxd hd4
  have HG := Lib.hid (six_fitL x hx6)
  have hy : x * 6 ≤ 6 := by omega
  generalize x * 6 = y at *
  have HH := Lib.hid (add_fitL a y (by omega) (by omega))
  have hb : a + y ≤ 12 := by omega
  generalize a + y = b at *
  clear hx6
  have g1 := HG.out.1
  have g2 := HG.out.2
  have h1 := HH.out.1
  have h2 := HH.out.2
  have hxd := HXD.out.1
  have hxq := HXD.out.2.1
  have hxw := HXD.out.2.2.1
  have hxv := HXD.out.2.2.2
  go_wp2_with fail
  clear g1 g2 h1 h2 hxd hxq hxw hxv HG HH HXD
  refine (draw_any w4 B R (q + 1 + 1) 24 HR4.out (by omega) (by omega) (by omega)).mono ?_
  rintro e w5 ⟨c, rfl, hc, hR5, hA5⟩
  have hc5 := hc (by omega)
  have HB5 := Lib.hid (HB4.out.trans (hA5.below (m := W.heap.size) hWR HB4.out.size))
  have HI5 := Lib.hid ((aside_ints HI4.out hA5 (Nat.lt_succ_self R)).base (b' := W.heap.size) (by omega))
  clear hR5 hA5 hc
  obtain ⟨u, hu1, hud⟩ := drawn_quo c (by omega)
  have HUD := Lib.hid hud
  clear hud hc5
  obtain ⟨v, hv1, hv2⟩ := sub_fitL b u hb hu1
  have hud := HUD.out.1
  have huq := HUD.out.2.1
  have huw := HUD.out.2.2.1
  have huv := HUD.out.2.2.2
  clear hu1 hb HUD
  go_wp2
  refine bodyPost_ret (v := .tuple #[.int .i64 (n : Int), .slice A2 xs.length cap2, .int .i64 v]) (by simp [results, Try.results17, go_sem]) rfl ?_
  exact ⟨n, _, xs, _, rfl, hn1, hn2, hx1, hx3, HB5.out, HI5.out⟩
set_option maxRecDepth 20000 in
set_option maxHeartbeats 4000000 in
theorem lawP_FnLaws (W : World) (B len cap : Nat) (A : Option Addr) (f : Nat → Nat) (hC : Code W B A len f) (hB : B ≤ W.heap.size) (hlc : len ≤ cap) (hcap : cap ≤ 9223372036854775807)
    (hN : NoWordLaws) (hY : YesWordLaws) (hE : AnyWordEnd) (hT : AnyWordTidy) :
    Calls Try.prog 6 #[.slice A len cap] W fun e w' => e = .returned (.bool true) ∧ Below W.heap.size W w' := by
  have HC := Lib.hid (drawWordLaws_any W B len cap A f hC hB hlc hcap)
  clear hC
  by_cases hlen : (1048576 : Int) < (len : Int)
  · go_enter Try.func6, Try.ntmps6
    go_wp2
    go_ret
    exact ⟨rfl, Below.refl _ _⟩
  go_enter Try.func6, Try.ntmps6
  go_wp2_with fail
  refine HC.out.mono ?_
  rintro e w1 ⟨n, lv, xs, v, rfl, hn1, hn2, hx1, hx3, hbl, hI0⟩
  have HB := Lib.hid hbl
  have HV := Lib.hid hI0
  obtain ⟨A2, cap2, rfl⟩ := ints_slice hI0
  have hxl : xs.length ≤ 2000000 := by omega
  clear hbl hI0 hB hlc hcap HC
  by_cases hno : ¬ (LetIn (n : Int) xs ∧ 1 ≤ v ∧ v ≤ 6)
  · have HI := Lib.hid (fun W1 b h => hN (n : Int) (.slice A2 xs.length cap2) xs v b W1 hno hxl h)
    have HS := Lib.hid (fun W1 b h => specWordLaws_no (n : Int) (.slice A2 xs.length cap2) xs v b W1 hxl h hno)
    clear hN hY hE hT hno hx1 hx3 hxl
    go_wp2_with fail
    refine (HI.out _ _ HV.out).mono ?_
    rintro e w2 ⟨sa, rfl, hb2, hI2⟩
    have HI2 := Lib.hid hI2
    have HV := Lib.hid (HV.out.belowAll hb2)
    have HB := Lib.hid (HB.out.trans (hb2.mono HB.out.size))
    clear hb2 hI2
    go_wp2_with fail
    refine (HS.out _ _ HV.out).mono ?_
    rintro e w3 ⟨sb, rfl, hb3, hI3⟩
    have HI3 := Lib.hid hI3
    have HI2 := Lib.hid (strs_belowAll HI2.out hb3)
    have HV := Lib.hid (HV.out.belowAll hb3)
    have HB := Lib.hid (HB.out.trans (hb3.mono HB.out.size))
    clear hb3 hI3
    go_wp2_with fail
    refine (sameTexts_any _ _ [] _ _ _ HI2.out HI3.out).mono ?_
    rintro e w4 ⟨rfl, hb4⟩
    have HI2 := Lib.hid (strs_belowAll HI2.out hb4)
    have HI3 := Lib.hid (strs_belowAll HI3.out hb4)
    have HV := Lib.hid (HV.out.belowAll hb4)
    have HB := Lib.hid (HB.out.trans (hb4.mono HB.out.size))
    clear hb4
    go_wp2_with fail
    refine (sameTexts_any _ _ [] _ _ _ HI2.out HI3.out).mono ?_
    rintro e w5 ⟨rfl, hb5⟩
    have HB := Lib.hid (HB.out.trans (hb5.mono HB.out.size))
    clear hb5
    go_wp2
    go_ret
    exact ⟨rfl, HB.out⟩
  have hyes : LetIn (n : Int) xs ∧ 1 ≤ v ∧ v ≤ 6 := Classical.byContradiction hno
  clear hno
  obtain ⟨hL, hv1, hv6⟩ := hyes
  obtain ⟨k, rfl⟩ : ∃ k : Nat, v = (k : Int) := ⟨v.toNat, by omega⟩
  have HI := Lib.hid (fun W1 b h => hY n k (.slice A2 xs.length cap2) xs b W1 hL (by omega) (by omega) h)
  have HS := Lib.hid (fun W1 b h => show Calls Try.prog 19 #[.int .i64 (n:Int), .slice A2 xs.length cap2, .int .i64 (k:Int)] W1 (StrsRes W1 (lawsO n xs k) true) from specWordLaws_yes n k (.slice A2 xs.length cap2) xs b W1 h hL (by omega) (by omega))
  have HE := Lib.hid (fun (s : ByteArray) (hs : s.size ≤ 1048576) W1 b h => hE (n : Int) (.slice A2 xs.length cap2) xs s b W1 hxl hs h)
  have HT := Lib.hid (fun (s : ByteArray) (hs : s.size ≤ 1048576) W1 b h => hT (n : Int) (.slice A2 xs.length cap2) xs s b W1 hxl hs h)
  have HFa := Lib.hid (laws_facts n xs k hL (by omega))
  have HOne := Lib.hid (laws_few n xs k)
  have hll := lawsO_len n xs k hx3 (by omega)
  have hk6 : k ≤ 6 := by omega
  clear hN hY hE hT hL hxl hv1 hv6
  generalize lawsO n xs k = ys at *
  obtain ⟨L, hLL⟩ : ∃ L, ys.length = L := ⟨_, rfl⟩
  have HLen := Lib.hid hLL
  rw [hLL] at HOne hll
  clear hLL
  go_wp2_with fail
  refine (HI.out _ _ HV.out).mono ?_
  rintro e w2 ⟨sa, rfl, hb2, hI2⟩
  have HI2 := Lib.hid hI2
  have HV := Lib.hid (HV.out.belowAll hb2)
  have HB := Lib.hid (HB.out.trans (hb2.mono HB.out.size))
  clear hb2 hI2
  go_wp2_with fail
  refine (HS.out _ _ HV.out).mono ?_
  rintro e w3 ⟨sb, rfl, hb3, hI3⟩
  have HI3 := Lib.hid hI3
  have HI2 := Lib.hid (strs_belowAll HI2.out hb3)
  have HV := Lib.hid (HV.out.belowAll hb3)
  have HB := Lib.hid (HB.out.trans (hb3.mono HB.out.size))
  clear hb3 hI3
  go_wp2_with fail
  refine (sameTexts_any _ _ ys _ _ _ HI2.out HI3.out).mono ?_
  rintro e w4 ⟨rfl, hb4⟩
  have HI2 := Lib.hid (strs_belowAll HI2.out hb4)
  have HI3 := Lib.hid (strs_belowAll HI3.out hb4)
  have HV := Lib.hid (HV.out.belowAll hb4)
  have HB := Lib.hid (HB.out.trans (hb4.mono HB.out.size))
  clear hb4
  rcases strs_shape HI2.out with ⟨rfl, h0⟩ | ⟨g, cp, rfl, hg1, hg2, hg3⟩
  · have hL0 : L = 0 := by
      have := HLen.out
      rw [h0] at this
      exact this.symm
    subst hL0
    clear HI HS HE HT HFa HI3 h0
    go_wp2
    go_loopw [10] (fun u wr => u = .int .i64 0 ∧ wr = w4) (fun _ _ => 0)
    case atStart => exact ⟨rfl, rfl⟩
    case round =>
      obtain ⟨rfl, rfl⟩ := hrel
      by_cases hxo : xs.length ≤ 1
      · have j2 : ¬ (1 : Int) < (xs.length : Int) := by omega
        clear hxo
        go_wp2
        go_ret
        exact ⟨rfl, HB.out⟩
      · have j2 : (1 : Int) < (xs.length : Int) := by omega
        clear hxo
        go_wp2
        go_ret
        exact ⟨rfl, HB.out⟩
  · rw [HLen.out] at HI2 ⊢
    clear HI HS HI3 hg1 hg2 hg3
    go_wp2
    go_loopw [10] (fun u wr => ∃ i : Nat, i ≤ L ∧ u = .int .i64 (i : Int) ∧ Hid (Below w4.heap.size w4 wr)) (fun u _ => L - (intOf u).toNat)
    case atStart => exact ⟨0, Nat.zero_le _, rfl, Lib.hid (Below.refl _ _)⟩
    case round =>
      obtain ⟨i, hi, rfl, HBi⟩ := hrel
      have HIi := Lib.hid (strs_belowAll HI2.out HBi.out)
      have HVi := Lib.hid (HV.out.belowAll HBi.out)
      have HBB := Lib.hid (HB.out.trans (HBi.out.mono HB.out.size))
      by_cases hlt : i < L
      · obtain ⟨p1, p2, p3, p4⟩ := HFa.out i (by rw [HLen.out]; exact hlt)
        have c1 := strs_cell HIi.out (i := i) (by rw [HLen.out]; exact hlt)
        have HC1 := Lib.hid c1
        generalize ys.getD i ⟨#[]⟩ = s at *
        have HA := Lib.hid (fun W1 b h => HE.out s (by omega) W1 b h)
        have HX := Lib.hid (fun W1 b h => HT.out s (by omega) W1 b h)
        rw [p1] at HA
        rw [p2] at HX
        simp only [Option.getD_some, Option.isSome_some] at HA HX
        have i1 : (0 : Int) ≤ (i : Int) := by omega
        have i2 : (i : Int) < (L : Int) := by omega
        clear p1 p2 hlt
        go_wp2_with fail
        refine (HA.out _ _ HVi.out).mono ?_
        rintro e w5 ⟨rfl, hb5⟩
        have HVi := Lib.hid (HVi.out.belowAll hb5)
        have c2 := hb5.cell (p := ⟨g, i, none⟩) ((World.ownsRow.lt HIi.out g rfl).2)
        rw [HC1.out] at c2
        have HIi := Lib.hid (strs_belowAll HIi.out hb5)
        have HBi := Lib.hid (HBi.out.trans (hb5.mono HBi.out.size))
        have HC2 := Lib.hid c2
        clear hb5 c1
        go_wp2_with fail
        refine (HX.out _ _ HVi.out).mono ?_
        rintro e w6 ⟨rfl, hb6⟩
        have c3 := hb6.cell (p := ⟨g, i, none⟩) ((World.ownsRow.lt HIi.out g rfl).2)
        rw [HC2.out] at c3
        have HBi := Lib.hid (HBi.out.trans (hb6.mono HBi.out.size))
        clear hb6 c2 HC1 HC2 HA HX
        have d1 : ¬ (k : Int) < (s.size : Int) := by omega
        have d2 : decide ((k : Int) < (s.size : Int)) = false := decide_eq_false d1
        have d3 : ((s.size : Int) == 0) = false := by rw [beq_eq_false_iff_ne]; omega
        clear p3 p4
        go_wp2
        try go_quiet (fail)
        try go_wp2
        go_roundw
        case rel => exact ⟨i + 1, by omega, by go_num, by first | exact HBi | exact Lib.hid (below_drewN HBi.out _)⟩
        case measure => simp [intOf]; omega
      · obtain rfl : i = L := by omega
        clear hlt hi
        by_cases hxo : xs.length ≤ 1
        · have j1 := HOne.out hxo
          have j2 : ¬ (1 : Int) < (xs.length : Int) := by omega
          have j3 : (i : Int) ≤ 1 := by omega
          clear hxo
          go_wp2
          go_ret
          exact ⟨rfl, HBB.out⟩
        · have j2 : (1 : Int) < (xs.length : Int) := by omega
          clear hxo
          go_wp2
          go_ret
          exact ⟨rfl, HBB.out⟩
end Go.Proofs.Ytnlalccnhpblkaa
