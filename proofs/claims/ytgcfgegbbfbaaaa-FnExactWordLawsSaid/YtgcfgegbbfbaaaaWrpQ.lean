/- Words, the program's side: the search for a part among words. Written by gen129.py. -/
import Derived.Test.YtgcfgegbbfbaaaaWrpP
namespace Go.Proofs.Ytgcfgegbbfbaaaa
open Go.RowKit Go.Shelf
set_option linter.unusedVariables false
attribute [local go_sem] Oper.semAt_some
def partD (d c : List Int) : Bool := decide (cO d 0 ≤ cO c 0) && decide (cO d 1 ≤ cO c 1) && decide (cO d 2 ≤ cO c 2)
theorem part_tri (d c : List Int) (h : d.length = c.length) (h3 : d.length ≤ 3) : partC d c = partD d c := by
  unfold partD cO
  match d, c, h, h3 with
  | [], [], _, _ => rfl
  | [a], [x], _, _ => rw [Bool.eq_iff_iff]; simp [partC]
  | [a, b], [x, y], _, _ => rw [Bool.eq_iff_iff]; simp [partC]
  | [a, b, e], [x, y, z], _, _ => rw [Bool.eq_iff_iff]; simp [partC]; omega
set_option maxRecDepth 100000 in
/-- Whether a word is a part of the one in a box. -/
theorem inItW_any (d c : List Int) (Pz Bz : Nat) (w : World) (bp : Boxed w Pz 89 (.func (.func 63) #[] #[])) (bz : Ter w Bz 50 (.int .i64 (cO c 0)) (.int .i64 (cO c 1)) (.int .i64 (cO c 2))) :
    Calls Try.prog 81 #[.agg #[.int .i64 (cO d 0), .int .i64 (cO d 1), .int .i64 (cO d 2)], .pointer (some ⟨Pz, 0, none⟩), .pointer (some ⟨Bz, 0, none⟩)] w fun e w' => e = .returned (.bool (partD d c)) ∧ Below w.heap.size w w' := by
  have hB0 := (Below.refl w.heap.size w).alloc (Nat.le_refl _) (.cells #[.int .i64 (cO d 0), .int .i64 (cO d 1), .int .i64 (cO d 2)] 50)
  have hn := Ter.new w 50 (.int .i64 (cO d 0)) (.int .i64 (cO d 1)) (.int .i64 (cO d 2))
  have hp := bp.alloc (.cells #[.int .i64 (cO d 0), .int .i64 (cO d 1), .int .i64 (cO d 2)] 50)
  have hz := bz.alloc (.cells #[.int .i64 (cO d 0), .int .i64 (cO d 1), .int .i64 (cO d 2)] 50)
  have p0 := hp.cell
  have n0 := hn.cell0
  have n1 := hn.cell1
  have n2 := hn.cell2
  have z0 := hz.cell0
  have z1 := hz.cell1
  have z2 := hz.cell2
  have HP := Lib.hid (fun X => isPart_any X (cO d 0) (cO d 1) (cO d 2) (cO c 0) (cO c 1) (cO c 2))
  have HB := Lib.hid hB0
  have HV : Hid ((decide (cO d 0 ≤ cO c 0) && decide (cO d 1 ≤ cO c 1) && decide (cO d 2 ≤ cO c 2)) = partD d c) := Lib.hid rfl
  rw [HV.out] at HP
  clear hB0 hn hp hz bp bz HV
  generalize partD d c = b at *
  go_enter Try.func81, Try.ntmps81
  go_wp2_with (go_at_call 63; refine (HP.out _).mono ?_; rintro e w2 ⟨rfl, hb2⟩)
  go_ret
  exact ⟨rfl, HB.out.trans (hb2.mono HB.out.size)⟩
/-- The first part of a word among some, or -1. -/
theorem indexFuncW_any (F : List (List Int)) (A : Option Addr) (cap : Nat) (c : List Int) (Pz Bz L : Nat) (w : World) (q : Bool) (hq : F.any (fun d => partD d c) = q) (hL : F.length = L) (hl : L ≤ 100000) (bp : Boxed w Pz 89 (.func (.func 63) #[] #[])) (bz : Ter w Bz 50 (.int .i64 (cO c 0)) (.int .i64 (cO c 1)) (.int .i64 (cO c 2)))
    (hA : 0 < L → ∃ g, A = some ⟨g, 0, none⟩ ∧ g < w.heap.size ∧ ∀ i, i < L → (w.cell? ⟨g, i * 3, none⟩ = some (.int .i64 (cO (F.getD i []) 0)) ∧ w.cell? ⟨g, i * 3 + 1, none⟩ = some (.int .i64 (cO (F.getD i []) 1)) ∧ w.cell? ⟨g, i * 3 + 2, none⟩ = some (.int .i64 (cO (F.getD i []) 2)))) :
    Calls Try.prog 95 #[.slice A L cap, .func (.func 81) #[] #[.pointer (some ⟨Pz, 0, none⟩), .pointer (some ⟨Bz, 0, none⟩)]] w fun e w' => ∃ i : Int, e = .returned (.int .i64 i) ∧ Below w.heap.size w w' ∧ ((0 ≤ i ∧ q = true) ∨ (i = -1 ∧ q = false)) := by
  have HA := Lib.hid hA
  have HP := Lib.hid (fun d X (hb : Below w.heap.size w X) => inItW_any d c Pz Bz X (boxed_below bp bp.lt hb) (bz.below bz.lt hb))
  have HL := Lib.hid hL
  have HQ := Lib.hid hq
  clear hA hL bz bp hq
  go_enter Try.func95, Try.ntmps95
  go_wp2
  go_loopw [4, 5, 8] (fun u4 u5 u wr => ∃ k : Nat, k ≤ L ∧ u = .int .i64 (k : Int) ∧ u4 = .int .i64 0 ∧ Hid (Below w.heap.size w wr) ∧ Hid (∀ j, j < k → partD (F.getD j []) c = false)) (fun _ _ u _ => L - (intOf u).toNat)
  case atStart => exact ⟨0, Nat.zero_le _, rfl, rfl, Lib.hid (Below.refl _ _), Lib.hid (fun j hj => absurd hj (by omega))⟩
  case round =>
    obtain ⟨k, hk, rfl, rfl, HW, HE⟩ := hrel
    by_cases hlt : k < L
    · obtain ⟨g, rfl, hgl, hcell⟩ := HA.out (by omega)
      obtain ⟨c0, c1, c2⟩ := hcell k hlt
      have k0 := (HW.out.cell (p := ⟨g, k * 3, none⟩) hgl).trans c0
      have k1 := (HW.out.cell (p := ⟨g, k * 3 + 1, none⟩) hgl).trans c1
      have k2 := (HW.out.cell (p := ⟨g, k * 3 + 2, none⟩) hgl).trans c2
      have i1 : (0 : Int) ≤ (k : Int) := by omega
      have i2 : (k : Int) < (L : Int) := by omega
      have hwk : IntKind.i64.wrap ((k : Int) + 1) = ((k + 1 : Nat) : Int) := by rw [IntWalk.i64_in _ ⟨by omega, by omega⟩]; rfl
      have HPd := HP.out (F.getD k []) wr HW.out
      obtain ⟨d, hd⟩ : ∃ d, F.getD k [] = d := ⟨_, rfl⟩
      rw [hd] at k0 k1 k2 HPd
      clear c0 c1 c2 hcell
      cases hb : partD d c
      · have HEn : Hid (∀ j, j < k + 1 → partD (F.getD j []) c = false) := Lib.hid (fun j hj => by
          by_cases e : j = k
          · subst e; rw [hd]; exact hb
          · exact HE.out j (by omega))
        rw [hb] at HPd
        have HPz := Lib.hid HPd
        clear HPd hb hd
        go_wp2_with (go_at_call 81; refine HPz.out.mono ?_; rintro e w2 ⟨rfl, hb2⟩; have HW2 := Lib.hid (HW.out.trans (hb2.mono HW.out.size)))
        go_roundw
        case rel => exact ⟨k + 1, by omega, by go_num, rfl, HW2, HEn⟩
        case measure => simp [intOf]; omega
      · have HV : Hid (q = true) := Lib.hid (by
          rw [← HQ.out]
          refine List.any_eq_true.2 ⟨F.getD k [], ?_, by rw [hd]; exact hb⟩
          rw [List.getD_eq_getElem?_getD, List.getElem?_eq_getElem (by rw [HL.out]; exact hlt)]
          exact List.getElem_mem _)
        rw [hb] at HPd
        have HPz := Lib.hid HPd
        clear HPd hb hd
        go_wp2_with (go_at_call 81; refine HPz.out.mono ?_; rintro e w2 ⟨rfl, hb2⟩; have HW2 := Lib.hid (HW.out.trans (hb2.mono HW.out.size)))
        go_ret
        exact ⟨_, rfl, HW2.out, .inl ⟨i1, HV.out⟩⟩
    · have HV : Hid (q = false) := Lib.hid (by
        rw [← HQ.out]
        refine List.any_eq_false.2 fun z hz => ?_
        obtain ⟨j, hj, rfl⟩ := List.getElem_of_mem hz
        have h9 := HE.out j (by rw [HL.out] at hj; omega)
        rw [List.getD_eq_getElem?_getD, List.getElem?_eq_getElem hj] at h9
        rw [show (some F[j]).getD [] = F[j] from rfl] at h9
        rw [h9]; simp)
      have i2 : ¬ ((k : Int) < (L : Int)) := by omega
      clear hlt hk
      go_wp2
      go_ret
      exact ⟨_, rfl, HW.out, .inr ⟨rfl, HV.out⟩⟩
theorem containsFuncW_any (F : List (List Int)) (A : Option Addr) (cap : Nat) (c : List Int) (Pz Bz L : Nat) (w : World) (q : Bool) (hq : F.any (fun d => partD d c) = q) (hL : F.length = L) (hl : L ≤ 100000) (bp : Boxed w Pz 89 (.func (.func 63) #[] #[])) (bz : Ter w Bz 50 (.int .i64 (cO c 0)) (.int .i64 (cO c 1)) (.int .i64 (cO c 2)))
    (hA : 0 < L → ∃ g, A = some ⟨g, 0, none⟩ ∧ g < w.heap.size ∧ ∀ i, i < L → (w.cell? ⟨g, i * 3, none⟩ = some (.int .i64 (cO (F.getD i []) 0)) ∧ w.cell? ⟨g, i * 3 + 1, none⟩ = some (.int .i64 (cO (F.getD i []) 1)) ∧ w.cell? ⟨g, i * 3 + 2, none⟩ = some (.int .i64 (cO (F.getD i []) 2)))) :
    Calls Try.prog 82 #[.slice A L cap, .func (.func 81) #[] #[.pointer (some ⟨Pz, 0, none⟩), .pointer (some ⟨Bz, 0, none⟩)]] w fun e w' => e = .returned (.bool q) ∧ Below w.heap.size w w' := by
  have HX := Lib.hid (indexFuncW_any F A cap c Pz Bz L w q hq hL hl bp bz hA)
  clear hA bz bp hq hL
  go_enter Try.func82, Try.ntmps82
  go_wp2_with fail
  refine HX.out.mono ?_
  rintro e w1 ⟨i, rfl, hb1, ⟨hi, rfl⟩ | ⟨rfl, rfl⟩⟩
  · have d1 : decide (i ≥ 0) = true := decide_eq_true hi
    have d2 : decide (0 ≤ i) = true := decide_eq_true hi
    have HB1 := Lib.hid hb1
    clear hb1
    go_wp2
    go_ret
    exact ⟨ret_bool (by first | exact d1 | exact d2 | rfl), HB1.out⟩
  · have HB1 := Lib.hid hb1
    clear hb1
    go_wp2
    go_ret
    exact ⟨ret_bool (by first | rfl | decide), HB1.out⟩
end Go.Proofs.Ytgcfgegbbfbaaaa
