/- Words, the program's side: WordLaws. Written by gen133.py. -/
import Derived.Test.YtnlalccnhpblkaaWrpT
import Derived.Test.YtnlalccnhpblkaaWrpN
import Derived.Test.YtnlalccnhpblkaaWrdV
import Derived.Test.YtnlalccnhpblkaaWrdZ
namespace Go.Proofs.Ytnlalccnhpblkaa
open Go.RowKit Go.Shelf
set_option linter.unusedVariables false
attribute [local go_sem] Oper.semAt_some
theorem strs_base {W : World} {b b' : Nat} {v : Value} {ss : List ByteArray} (h : IsStrs W b v ss) (hb : b' ≤ b) : IsStrs W b' v ss := by
  refine ⟨h.1, ?_⟩
  rcases h.2 with hn | ⟨g, cap, cur, rfl, h1, rest⟩
  · exact .inl hn
  · exact .inr ⟨g, cap, cur, rfl, by omega, rest⟩
theorem nil_none (w : World) (b : Nat) : IsStrs w b (.slice none 0 0) [] := World.ownsRow_nil _ _ _ _
set_option maxRecDepth 100000 in
set_option maxHeartbeats 2000000 in
theorem no_WordLaws : NoWordLaws := by
  intro n lv xs k b w hno hxl hI
  have HA := Lib.hid (alphabetOf_any n lv xs b w hI)
  clear hI hxl
  by_cases hk : 1 ≤ k ∧ k ≤ 6
  · have HN := Lib.hid (show ¬ LetIn n xs from fun h => hno ⟨h, hk⟩)
    clear hk hno
    go_enter Try.func18, Try.ntmps18
    go_wp2_with fail
    refine HA.out.mono ?_
    rintro e W1 ⟨⟨hL, p, rfl, hLt⟩ | ⟨hno, rfl⟩, hb1⟩
    · exact absurd hL HN.out
    · have HB1 : Hid (Below w.heap.size w (W1.alloc (.cells #[.int .i64 0, .pointer none] 50))) := Lib.hid (hb1.alloc hb1.size _)
      clear hno hb1
      go_wp2
      exact bodyPost_ret (v := .tuple #[.slice none 0 0, .bool false]) (by simp [results, Try.results18, go_sem]) rfl ⟨_, rfl, HB1.out, nil_none _ _⟩
  · clear hno
    go_enter Try.func18, Try.ntmps18
    go_wp2_with fail
    refine HA.out.mono ?_
    rintro e W1 ⟨⟨hL, p, rfl, hLt⟩ | ⟨hno, rfl⟩, hb1⟩
    · obtain ⟨q, rfl⟩ := hLt.ptr
      have HB1 : Hid (Below w.heap.size w (W1.alloc (.cells #[.int .i64 n, .pointer q] 50))) := Lib.hid (hb1.alloc hb1.size _)
      clear hL hLt hb1
      by_cases h1 : k < 1
      · have e1 : decide (k < 1) = true := decide_eq_true h1
        clear hk h1
        go_wp2
        exact bodyPost_ret (v := .tuple #[.slice none 0 0, .bool false]) (by simp [results, Try.results18, go_sem]) rfl ⟨_, rfl, HB1.out, nil_none _ _⟩
      · have e1 : decide (k < 1) = false := decide_eq_false h1
        have h6 : 6 < k := by omega
        have e2 : decide (6 < k) = true := decide_eq_true h6
        have e3 : decide (k > 6) = true := decide_eq_true h6
        clear hk h1 h6
        go_wp2
        exact bodyPost_ret (v := .tuple #[.slice none 0 0, .bool false]) (by simp [results, Try.results18, go_sem]) rfl ⟨_, rfl, HB1.out, nil_none _ _⟩
    · have HB1 : Hid (Below w.heap.size w (W1.alloc (.cells #[.int .i64 0, .pointer none] 50))) := Lib.hid (hb1.alloc hb1.size _)
      clear hno hb1 hk
      go_wp2
      exact bodyPost_ret (v := .tuple #[.slice none 0 0, .bool false]) (by simp [results, Try.results18, go_sem]) rfl ⟨_, rfl, HB1.out, nil_none _ _⟩
set_option maxRecDepth 100000 in
set_option maxHeartbeats 8000000 in
theorem yes_WordLaws : YesWordLaws := by
  intro n k lv xs b w hLI hk1 hk6 hI
  have HA := Lib.hid (alphabetOf_any (n:Int) lv xs b w hI)
  have HLI := Lib.hid hLI
  have d1 : decide ((k:Int) < 1) = false := decide_eq_false (by omega)
  have d2 : decide ((6:Int) < (k:Int)) = false := decide_eq_false (by omega)
  have d3 : decide ((k:Int) > 6) = false := decide_eq_false (by omega)
  have d4 : decide (k < 1) = false := decide_eq_false (by omega)
  have d5 : decide (6 < k) = false := decide_eq_false (by omega)
  have HK := Lib.hid (⟨hk1, hk6⟩ : 1 ≤ k ∧ k ≤ 6)
  clear hI hLI hk1 hk6
  go_enter Try.func18, Try.ntmps18
  go_wp2_with fail
  refine HA.out.mono ?_
  rintro e W1 ⟨⟨hL, p, rfl, hLt⟩ | ⟨hno, rfl⟩, hb1⟩
  · obtain ⟨q, rfl⟩ := hLt.ptr
    have hll : (letL xs).length = xs.length := by simp [letL]
    have hB2 : Below w.heap.size w (W1.alloc (.cells #[.int .i64 (n:Int), .pointer q] 50)) := hb1.alloc hb1.size _
    have hL2 : Lets (W1.alloc (.cells #[.int .i64 (n:Int), .pointer q] 50)) (.pointer q) 0 (letL xs) := hLt.below ((Below.refl _ _).alloc (Nat.le_refl _) _)
    have hD2 := Duo.new W1 50 (.int .i64 (n:Int)) (.pointer q)
    have HLw := Lib.hid (laws_any n k q (letL xs) (W1.alloc (.cells #[.int .i64 (n:Int), .pointer q] 50)) (by have := hL.1; omega) (by have := hL.1; omega) (by rw [hll]; exact hL.2.2.1) HK.out.2 (let_ltn n xs hL) hL2)
    have HLen : Hid ((lawsN n (letL xs) k).length ≤ 100000) := Lib.hid (by have h := lawsO_len n xs k hL.2.2.1 HK.out.2; unfold lawsO at h; rwa [List.length_map] at h)
    have HMem : Hid (∀ cs ∈ lawsN n (letL xs) k, cs.length = (letL xs).length ∧ absL cs ≤ 60) := Lib.hid (fun cs hcs => by have h := (laws_mem n (letL xs) k cs).1 hcs; have := HK.out; exact ⟨h.1, by omega⟩)
    have H3 := Lib.hid (show (letL xs).length ≤ 3 by rw [hll]; exact hL.2.2.1)
    have HG2 := Lib.hid (⟨hB2, hL2, hD2⟩ : _ ∧ _ ∧ _)
    have c0 := hD2.cell0
    have c1 := hD2.cell1
    have HV : Hid (lawsO n xs k = (lawsN n (letL xs) k).map fun cs => toB (textC 0 cs)) := Lib.hid rfl
    clear hL hLt hb1 hB2 hL2 hD2 hll
    go_wp2_with fail
    refine HLw.out.mono ?_
    rintro e W3 ⟨v3, rfl, hw3, hb3⟩
    generalize lawsN n (letL xs) k = LN at *
    generalize letL xs = ls at *
    obtain ⟨A3, k3, rfl, hA⟩ : ∃ A3 k3, v3 = .slice A3 LN.length k3 ∧ (0 < LN.length → ∃ g, A3 = some ⟨g, 0, none⟩ ∧ g < W3.heap.size ∧ ∀ i, i < LN.length → (W3.cell? ⟨g, i * 3, none⟩ = some (.int .i64 (cO (LN.getD i []) 0)) ∧ W3.cell? ⟨g, i * 3 + 1, none⟩ = some (.int .i64 (cO (LN.getD i []) 1)) ∧ W3.cell? ⟨g, i * 3 + 2, none⟩ = some (.int .i64 (cO (LN.getD i []) 2)))) := by
      rcases hw3.shape with ⟨rfl, e⟩ | ⟨g, c, rfl, _, hg⟩
      · exact ⟨none, 0, by rw [e]; rfl, fun h => by rw [e] at h; simp at h⟩
      · exact ⟨_, c, rfl, fun _ => ⟨g, rfl, hg, fun i hi => ⟨hw3.cells hi 0 (by omega), hw3.cells hi 1 (by omega), hw3.cells hi 2 (by omega)⟩⟩⟩
    have HA3 := Lib.hid hA
    have HD3 := Lib.hid (HG2.out.2.2.bel HG2.out.2.2.lt hb3)
    have HL3 := Lib.hid (HG2.out.2.1.below hb3)
    have HB3 := Lib.hid (HG2.out.1.trans (hb3.mono HG2.out.1.size))
    have HR3 := Lib.hid (Below.refl W3.heap.size W3)
    have HO3 := Lib.hid (nil_none W3 W3.heap.size)
    have HWr := Lib.hid (fun cs X hc hX => write_any n (.pointer q) ls cs X (HMem.out cs hc).1 H3.out (HMem.out cs hc).2 hX)
    clear hw3 hb3 hA c0 c1 HG2 HLw HA HLI HK HMem H3
    obtain ⟨M, hM⟩ : ∃ M, LN.length = M := ⟨_, rfl⟩
    have HM := Lib.hid hM
    rw [hM] at HA3 HLen ⊢
    clear hM
    go_wp2
    go_loopw [10, 12, 33] (fun a u12 u wr => ∃ (A : Value) (j : Nat), A = a ∧ j ≤ M ∧ u = .int .i64 (j : Int) ∧ Hid (IsStrs wr W3.heap.size A ((LN.take j).map fun cs => toB (textC 0 cs))) ∧ Hid (Below W3.heap.size W3 wr)) (fun _ _ u _ => M - (intOf u).toNat)
    case atStart => exact ⟨_, 0, rfl, Nat.zero_le _, rfl, HO3, HR3⟩
    case round =>
      obtain ⟨A, j, rfl, hj, rfl, HS, HB⟩ := hrel
      by_cases hlt : j < M
      · obtain ⟨g, rfl, hgl, hcell⟩ := HA3.out (by omega)
        obtain ⟨x0, x1, x2⟩ := hcell j hlt
        have k0 := (HB.out.cell (p := ⟨g, j * 3, none⟩) hgl).trans x0
        have k1 := (HB.out.cell (p := ⟨g, j * 3 + 1, none⟩) hgl).trans x1
        have k2 := (HB.out.cell (p := ⟨g, j * 3 + 2, none⟩) hgl).trans x2
        have i1 : (0 : Int) ≤ (j : Int) := by omega
        have i2 : (j : Int) < (M : Int) := by omega
        have hwk : IntKind.i64.wrap ((j : Int) + 1) = ((j + 1 : Nat) : Int) := by rw [IntWalk.i64_in _ ⟨by omega, by have := HLen.out; omega⟩]; rfl
        have hw2 : wrap64 ((j : Int) + 1) = ((j + 1 : Nat) : Int) := by rw [IntWalk.wrap64_in _ ⟨by omega, by have := HLen.out; omega⟩]; rfl
        have hjl : j < LN.length := by rw [HM.out]; exact hlt
        have hTk : (LN.take (j + 1)).map (fun cs => toB (textC 0 cs)) = (LN.take j).map (fun cs => toB (textC 0 cs)) ++ [toB (textC 0 (LN.getD j []))] := by
          rw [List.take_add_one, List.getElem?_eq_getElem hjl, List.map_append, List.getD_eq_getElem?_getD, List.getElem?_eq_getElem hjl]
          rfl
        have hmem : LN.getD j [] ∈ LN := getD_mem' LN j hjl
        have hWc := fun X hX => HWr.out (LN.getD j []) X hmem hX
        have hSl : ((LN.take j).map (fun cs => toB (textC 0 cs))).length ≤ 100000 := by rw [List.length_map, List.length_take]; have := HLen.out; omega
        have HTk := Lib.hid hTk
        generalize (LN.take j).map (fun cs => toB (textC 0 cs)) = SJ at *
        obtain ⟨c, hc⟩ : ∃ c, LN.getD j [] = c := ⟨_, rfl⟩
        rw [hc] at k0 k1 k2 hWc HTk
        have hsz := HB.out.size
        have hBX := HB.out.alloc hsz (.cells #[.int .i64 (cO c 0), .int .i64 (cO c 1), .int .i64 (cO c 2)] 52)
        have hTX := Ter.new wr 52 (.int .i64 (cO c 0)) (.int .i64 (cO c 1)) (.int .i64 (cO c 2))
        have hDX := HD3.out.bel HD3.out.lt hBX
        have y0 := hDX.cell0
        have y1 := hDX.cell1
        have z0 := hTX.cell0
        have z1 := hTX.cell1
        have z2 := hTX.cell2
        have HWX := Lib.hid (hWc _ (HL3.out.below hBX))
        have HBX := Lib.hid hBX
        have HSX := Lib.hid (show IsStrs (wr.alloc (.cells #[.int .i64 (cO c 0), .int .i64 (cO c 1), .int .i64 (cO c 2)] 52)) W3.heap.size A SJ from World.ownsRow.alloc HS.out _)
        have HSl := Lib.hid hSl
        unfold wV at HWX
        obtain ⟨T, hT⟩ : ∃ T, toB (textC 0 c) = T := ⟨_, rfl⟩
        rw [hT] at HWX HTk
        have HI := Lib.hid hlt
        clear hj hlt hjl hTk hmem hWc hSl hc hsz hBX hTX hDX x0 x1 x2 hcell hT
        go_wp2_with (first
          | (go_at_call 32; refine HWX.out.mono ?_; rintro e w5 ⟨rfl, hb5⟩; have HS5 := Lib.hid (strs_belowAll HSX.out hb5); have HB5 := Lib.hid (HBX.out.trans (hb5.mono HBX.out.size)); have hz5 := HB5.out.size; clear hb5)
          | (at_builtin; refine wpList_plain rfl (fun K hK => ?_); refine wp_append_text _ _ rfl A SJ T w5 W3.heap.size rfl rfl HS5.out HSl.out hz5 (fun A3 w6 hO6 hkeep hb6 => ?_); have HS6 := Lib.hid hO6; have HB6 := Lib.hid (hb6 _ _ (Nat.le_refl _) HB5.out); clear hO6 hkeep hb6; refine hK _ _ ?_; clear hK))
        go_roundw
        case rel => exact ⟨_, j + 1, rfl, HI.out, by go_num, by rw [HTk.out]; exact HS6, HB6⟩
        case measure => simp [intOf]; have := HI.out; omega
      · obtain rfl : j = M := by omega
        have hz1 : ¬ ((j : Int) < (j : Int)) := by omega
        have hz2 : ¬ (j < j) := by omega
        have hS := HS.out
        rw [← HM.out, List.take_length] at hS
        rw [← HV.out] at hS
        rcases strs_shape hS with ⟨rfl, e9⟩ | ⟨g, c, rfl, _⟩
        · clear e9
          have HS9 := Lib.hid hS
          clear hS hj
          go_wp2
          exact bodyPost_ret (v := .tuple #[.slice none 0 0, .bool true]) (by simp [results, Try.results18, go_sem]) rfl ⟨_, rfl, HB3.out.trans (HB.out.mono HB3.out.size), strs_base HS9.out HB3.out.size⟩
        · have HS9 := Lib.hid hS
          clear hS hj
          generalize (lawsO n xs k).length = l9 at *
          go_wp2
          exact bodyPost_ret (v := .tuple #[.slice (some ⟨g, 0, none⟩) l9 c, .bool true]) (by simp [results, Try.results18, go_sem]) rfl ⟨_, rfl, HB3.out.trans (HB.out.mono HB3.out.size), strs_base HS9.out HB3.out.size⟩
  · exact absurd HLI.out hno
end Go.Proofs.Ytnlalccnhpblkaa
