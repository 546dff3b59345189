/- Words: the laws' marks of lists of texts. Written by gen116.py. -/
import Derived.Test.YtgcfgegbbfbaaaaWrdZ
import Derived.Test.YtgcfgegbbfbaaaaGV
import Derived.Test.YtgcfgegbbfbaaaaGD
import Derived.Test.YtgcfgegbbfbaaaaWrdN
import Derived.Test.YtgcfgegbbfbaaaaGG
namespace Go.Proofs.Ytgcfgegbbfbaaaa
open Go.RowKit Go.Shelf
set_option linter.unusedVariables false
/-- The digits of a number, put ahead of a text. -/
def digB : Nat → Nat → ByteArray → ByteArray
  | 0, _, acc => acc
  | f + 1, k, acc => if k = 0 then acc else digB f (k / 10) (repY (UInt8.ofNat (48 + k % 10)) 1 ++ acc)
/-- The mark of a number. -/
def markB (k : Int) : ByteArray := if k ≤ 0 then ⟨#[109, 48]⟩ else (⟨#[109]⟩ : ByteArray) ++ digB k.toNat k.toNat ⟨#[]⟩
theorem digB_end (f : Nat) (acc : ByteArray) : digB f 0 acc = acc := by
  cases f <;> rfl
set_option maxHeartbeats 2000000 in
theorem markText_any (k : Int) (w : World) (hk : k ≤ 4000000) :
    Calls Try.prog 43 #[.int .i64 k] w fun e w' => e = .returned (.string (markB k)) ∧ Below w.heap.size w w' := by
  have hmx : Try.prog.follows .mixedOrders = true := by kernel_rfl
  by_cases h0 : k ≤ 0
  · have HE : Hid (markB k = ⟨#[109, 48]⟩) := Lib.hid (by unfold markB; rw [if_pos h0])
    go_enter Try.func43, Try.ntmps43
    go_wp2
    go_ret
    exact ⟨by rw [HE.out]; rfl, Below.refl _ _⟩
  · obtain ⟨n, rfl⟩ : ∃ n : Nat, k = (n : Int) := ⟨k.toNat, by omega⟩
    have HE : Hid (markB (n : Int) = (⟨#[109]⟩ : ByteArray) ++ digB n n ⟨#[]⟩) := Lib.hid (by unfold markB; rw [if_neg h0]; rfl)
    obtain ⟨V, hV⟩ : ∃ V, digB n n ⟨#[]⟩ = V := ⟨_, rfl⟩
    rw [hV] at HE
    have HV := Lib.hid hV
    clear hV
    have hn4 : n ≤ 4000000 := by omega
    go_enter Try.func43, Try.ntmps43
    go_wp2
    go_loopw [0, 3] (fun u v wr => ∃ (q f : Nat) (X : ByteArray), u = .int .i64 (q : Int) ∧ v = .string X ∧ q ≤ f ∧ X.size + f ≤ n ∧ Hid (digB f q X = V) ∧ Below w.heap.size w wr) (fun u _ _ => (intOf u).toNat)
    case atStart => exact ⟨n, n, ⟨#[]⟩, rfl, rfl, Nat.le_refl _, by show 0 + n ≤ n; omega, HV, Below.refl _ _⟩
    case round =>
      obtain ⟨q, f, X, rfl, rfl, hqf, hX, HD, hB⟩ := hrel
      by_cases hq : 0 < q
      · obtain ⟨f, rfl⟩ : ∃ f', f = f' + 1 := ⟨f - 1, by omega⟩
        have k1 : (q : Int) > 0 := by omega
        have k2 : (0 : Int) < (q : Int) := by omega
        have hr10 : q % 10 < 10 := Nat.mod_lt _ (by omega)
        have t1 : (q : Int).tmod 10 = ((q % 10 : Nat) : Int) := by rw [Int.tmod_eq_emod_of_nonneg (by omega)]; omega
        have t2 : (q : Int).tdiv 10 = ((q / 10 : Nat) : Int) := by rw [Int.tdiv_eq_ediv_of_nonneg (by omega)]; omega
        have HD2 : Hid (digB f (q / 10) (repY (UInt8.ofNat (48 + q % 10)) 1 ++ X) = V) := Lib.hid (by
          have h9 := HD.out
          have e : digB (f + 1) q X = if q = 0 then X else digB f (q / 10) (repY (UInt8.ofNat (48 + q % 10)) 1 ++ X) := rfl
          rw [e, if_neg (by omega)] at h9
          exact h9)
        have hle : q / 10 ≤ f := by omega
        have hlt2 : q / 10 < q := by omega
        obtain ⟨Z, hZ⟩ : ∃ Z : Nat, 48 + q % 10 = Z := ⟨_, rfl⟩
        rw [hZ] at HD2
        have hZ8 : Z < 256 := by omega
        have w1 : IntKind.i64.wrap (48 + ((q % 10 : Nat) : Int)) = (Z : Int) := by rw [IntWalk.i64_in _ ⟨by omega, by omega⟩]; omega
        have w2 : wrap64 (48 + ((q % 10 : Nat) : Int)) = (Z : Int) := by rw [IntWalk.wrap64_in _ (by omega)]; omega
        have w3 := u8_val Z hZ8
        have hbt := byte_text Z wr
        have hs2 : (repY (UInt8.ofNat Z) 1).size + X.size ≤ 9223372036854775807 := by rw [rep_size]; omega
        have hs3 : (repY (UInt8.ofNat Z) 1 ++ X).size + f ≤ n := by rw [size_append, rep_size]; omega
        have w4 : IntKind.i64.wrap ((q / 10 : Nat) : Int) = ((q / 10 : Nat) : Int) := by rw [IntWalk.i64_in _ ⟨by omega, by omega⟩]
        have HL := Lib.hid (⟨hle, hs3, hlt2⟩ : q / 10 ≤ f ∧ (repY (UInt8.ofNat Z) 1 ++ X).size + f ≤ n ∧ q / 10 < q)
        clear hZ hZ8 hr10 HD hle hs3 hlt2 hqf hX
        generalize q % 10 = r at *
        generalize q / 10 = p at *
        generalize hQ : repY (UInt8.ofNat Z) 1 = Q at *
        clear hQ
        go_wp2
        go_roundw
        case rel => exact ⟨p, f, Q ++ X, by first | rfl | go_num, rfl, HL.out.1, HL.out.2.1, HD2, hB.alloc hB.size _⟩
        case measure => have := HL.out.2.2; simp [intOf]; omega
      · obtain rfl : q = 0 := by omega
        have h9 := HD.out
        rw [digB_end] at h9
        subst h9
        have hs2 : (⟨#[109]⟩ : ByteArray).size + X.size ≤ 9223372036854775807 := by show 1 + X.size ≤ _; omega
        clear hq hqf hX HD
        go_wp2
        go_ret
        exact ⟨by rw [HE.out]; rfl, hB⟩
/-- Marks of a list of texts. -/
def marksB (k : Int) (n : Nat) : List ByteArray := (List.range n).map fun (i : Nat) => markB (k + (i : Int))
theorem marksB_len (k : Int) (n : Nat) : (marksB k n).length = n := by simp [marksB]
theorem marksB_get (k : Int) (n i : Nat) (hi : i < n) : (marksB k n).getD i ⟨#[]⟩ = markB (k + (i : Int)) := by
  simp [marksB, List.getD_eq_getElem?_getD, hi]
/-- A list of which the first j have been marked. -/
def markedB (k : Int) (xs : List ByteArray) (j : Nat) : List ByteArray := marksB k j ++ xs.drop j
theorem markedB_len (k : Int) (xs : List ByteArray) (j : Nat) (hj : j ≤ xs.length) : (markedB k xs j).length = xs.length := by simp [markedB, marksB]; omega
theorem markedB_set (k : Int) (xs : List ByteArray) (j : Nat) (hj : j < xs.length) : (markedB k xs j).set j (markB (k + (j : Int))) = markedB k xs (j + 1) := by
  unfold markedB
  have hl := marksB_len k j
  rw [List.set_append_right _ _ (by omega), hl, Nat.sub_self, List.drop_eq_getElem_cons hj, List.set_cons_zero]
  simp [marksB, List.range_succ]
theorem markedB_end (k : Int) (xs : List ByteArray) : markedB k xs xs.length = marksB k xs.length := by simp [markedB]
theorem strs_set {W : World} {b g cap : Nat} {xs : List ByteArray} (h : IsStrs W b (.slice (some ⟨g, 0, none⟩) xs.length cap) xs) (i : Nat) (z : ByteArray) :
    IsStrs (W.setCell ⟨g, i, none⟩ (.string z)) b (.slice (some ⟨g, 0, none⟩) (xs.set i z).length cap) (xs.set i z) := by
  have := (World.ownsRow.stored h i (.string z)).1
  unfold IsStrs
  rw [List.length_set, List.map_set]
  exact this
/-- What marking leaves. -/
def MarkSPost (w : World) (b : Nat) (sa : Value) (k : Int) (n : Nat) (e : Ending) (w' : World) : Prop :=
  e = .returned (.int .i64 (k + (n : Int))) ∧ IsStrs w' b sa (marksB k n) ∧ w.grownBy w' sa.ownBlock
theorem markStrs_any (sa : Value) (xs : List ByteArray) (w : World) (b : Nat) (k : Int) (ha : IsStrs w b sa xs) (hk0 : 0 ≤ k) (hk1 : k ≤ 2000000) (hl : xs.length ≤ 2000000) :
    Calls Try.prog 23 #[sa, .int .i64 k] w (MarkSPost w b sa k xs.length) := by
  by_cases hx : xs = []
  · subst hx
    have HM : Hid (marksB k 0 = []) := Lib.hid rfl
    have HA := Lib.hid ha
    rcases strs_shape ha with ⟨rfl, _⟩ | ⟨g, cap, rfl, hg1, hg2, hg3⟩
    all_goals
      clear ha
      (try simp only [List.length_nil] at *)
      go_enter Try.func23, Try.ntmps23
      go_wp2
      go_loopw [5, 1] (fun u v wr => u = .int .i64 0 ∧ v = .int .i64 k ∧ wr = w) (fun _ _ _ => 0)
      case atStart => exact ⟨rfl, rfl, rfl⟩
      case round =>
        obtain ⟨rfl, rfl, rfl⟩ := hrel
        go_wp2
        go_ret
        exact ⟨ret_int (by simp), by rw [HM.out]; exact HA.out, ⟨rfl, rfl, rfl, Nat.le_refl _, fun _ _ _ => rfl⟩⟩
  · rcases strs_shape ha with ⟨rfl, h0⟩ | ⟨g, cap, rfl, hg1, hg2, hg3⟩
    · exact absurd h0 hx
    · have HA := Lib.hid ha
      clear ha hg3 hx
      have HL := Lib.hid (fun (j : Nat) (hj : j ≤ xs.length) => markedB_len k xs j hj)
      go_enter Try.func23, Try.ntmps23
      go_wp2
      go_loopw [5, 1] (fun u v wr => ∃ j : Nat, j ≤ xs.length ∧ u = .int .i64 (j : Int) ∧ v = .int .i64 (k + (j : Int)) ∧ IsStrs wr b (.slice (some ⟨g, 0, none⟩) xs.length cap) (markedB k xs j) ∧ w.grownBy wr (some g)) (fun u _ _ => xs.length - (intOf u).toNat)
      case atStart => exact ⟨0, Nat.zero_le _, rfl, by go_num, by simpa [markedB, marksB] using HA.out, ⟨rfl, rfl, rfl, Nat.le_refl _, fun _ _ _ => rfl⟩⟩
      case round =>
        obtain ⟨j, hj, rfl, rfl, hI, hG⟩ := hrel
        by_cases hlt : j < xs.length
        · have hI' : IsStrs wr b (.slice (some ⟨g, 0, none⟩) (markedB k xs j).length cap) (markedB k xs j) := by rw [HL.out j hj]; exact hI
          have HT := Lib.hid (markText_any (k + (j : Int)) wr (by omega))
          have i1 : (0 : Int) ≤ (j : Int) := by omega
          have i2 : (j : Int) < (xs.length : Int) := by omega
          have HSet := Lib.hid (markedB_set k xs j hlt)
          have HI := Lib.hid hI'
          have HGr := Lib.hid hG
          clear hI hI' hG
          generalize hmk : markB (k + (j : Int)) = M at *
          have HMk := Lib.hid hmk
          clear hmk
          go_wp2_with fail
          refine HT.out.mono ?_
          rintro e w2 ⟨rfl, hb2⟩
          have hI2 := strs_belowAll HI.out hb2
          have c1 := strs_cell hI2 (i := j) (by rw [HL.out j hj]; exact hlt)
          have f1 : w2.frozen? ⟨g, j, none⟩ = false := World.ownsRow.frozenAt hI2 j
          have HI3 := Lib.hid (strs_set hI2 j M)
          have HG3 := Lib.hid (World.ownsRow.stored hI2 j (.string M)).2
          have HB2 := Lib.hid hb2
          clear hI2 hb2
          generalize (markedB k xs j).getD j ⟨#[]⟩ = z at c1
          go_wp2
          go_roundw
          case rel =>
            refine ⟨j + 1, by omega, by go_num, by go_num, ?_, ?_⟩
            · have h3 := HI3.out
              rw [HSet.out, HL.out (j + 1) (by omega)] at h3
              exact h3
            · have h4 := HG3.out
              have h5 := HB2.out
              have h6 := HGr.out
              exact ⟨h4.os.trans (h5.os.trans h6.os), h4.tape.trans (h5.tape.trans h6.tape), h4.output.trans (h5.output.trans h6.output), Nat.le_trans h6.size (Nat.le_trans h5.size h4.size), fun q hq hne => (h4.block q (Nat.lt_of_lt_of_le hq (Nat.le_trans h6.size h5.size)) hne).trans ((h5.block q (Nat.lt_of_lt_of_le hq h6.size)).trans (h6.block q hq hne))⟩
          case measure => simp [intOf]; omega
        · have e : j = xs.length := by omega
          subst e
          have HI := Lib.hid hI
          clear hI
          go_wp2
          go_ret
          refine ⟨rfl, ?_, hG⟩
          have h3 := HI.out
          rw [markedB_end] at h3
          exact h3
theorem heldStrs_any (sa : Value) (n : Nat) (w : World) (b : Nat) (k : Int) (ha : IsStrs w b sa (marksB k n)) (hk0 : 0 ≤ k) (hk1 : k ≤ 2000000) (hl : n ≤ 2000000) :
    Calls Try.prog 24 #[sa, .int .i64 k] w fun e w' => e = .returned (.int .i64 (k + (n : Int))) ∧ Below w.heap.size w w' := by
  have hmx : Try.prog.follows .mixedOrders = true := by kernel_rfl
  have HL := Lib.hid (marksB_len k n)
  rcases strs_shape ha with ⟨rfl, h0⟩ | ⟨g, cap, rfl, hg1, hg2, hg3⟩
  · have hn : n = 0 := by have := HL.out; rw [h0] at this; simpa using this.symm
    subst hn
    clear ha h0
    go_enter Try.func24, Try.ntmps24
    go_wp2
    go_loopw [5, 1] (fun u v wr => u = .int .i64 0 ∧ v = .int .i64 k ∧ wr = w) (fun _ _ _ => 0)
    case atStart => exact ⟨rfl, rfl, rfl⟩
    case round =>
      obtain ⟨rfl, rfl, rfl⟩ := hrel
      go_wp2
      go_ret
      exact ⟨ret_int (by simp), Below.refl _ _⟩
  · have HA := Lib.hid ha
    clear ha hg3
    rw [HL.out]
    go_enter Try.func24, Try.ntmps24
    go_wp2
    go_loopw [4, 5, 1] (fun u4 u v wr => ∃ j : Nat, j ≤ n ∧ u = .int .i64 (j : Int) ∧ v = .int .i64 (k + (j : Int)) ∧ Below w.heap.size w wr) (fun _ u _ _ => n - (intOf u).toNat)
    case atStart => exact ⟨0, Nat.zero_le _, rfl, by go_num, Below.refl _ _⟩
    case round =>
      obtain ⟨j, hj, rfl, rfl, hB⟩ := hrel
      by_cases hlt : j < n
      · have c1 := strs_cell HA.out (i := j) (by rw [HL.out]; exact hlt)
        rw [marksB_get k n j hlt] at c1
        have c2 := (hB.cell (p := ⟨g, j, none⟩) hg2).trans c1
        have i1 : (0 : Int) ≤ (j : Int) := by omega
        have i2 : (j : Int) < (n : Int) := by omega
        have i3 : j < n := hlt
        have HT := Lib.hid (fun V => markText_any (k + (j : Int)) V (by omega))
        clear c1
        generalize markB (k + (j : Int)) = M at *
        go_wp2
        have hA0 : wr.drew.cell? ⟨g, j, none⟩ = some (.string M) := c2
        have hB0 : Below w.heap.size w wr.drew := hB.drew
        refine wp_region_held_drew (S := fun V => V.cell? ⟨g, j, none⟩ = some (.string M)) hmx hA0 (fun _ => ?_)
        clear c2 hB
        generalize wr.drew = W4 at *
        refine take1 0 (v := ?_) rfl (by kernel_rfl) (by kernel_rfl) (by kernel_rfl) (fun _ _ _ h => h) (by rfl) ?_ hA0 ?_
        rotate_left
        · intro W9 hA
          have c0 := hA
          clear hA
          go_simp
          try with_reducible rfl
        try simp only [Act.put, List.setIfInBounds_toArray, List.set_cons_zero, List.set_cons_succ]
        refine take1 1 (v := ?_) rfl (by kernel_rfl) (by kernel_rfl) (by kernel_rfl) (fun _ _ _ h => h) (by rfl) ?_ hA0 ?_
        rotate_left
        · intro W9 hA
          have c0 := hA
          clear hA
          go_simp
          try with_reducible rfl
        try simp only [Act.put, List.setIfInBounds_toArray, List.set_cons_zero, List.set_cons_succ]
        refine take1 2 (v := ?_) rfl (by kernel_rfl) (by kernel_rfl) (by kernel_rfl) (fun _ _ _ h => h) (by rfl) ?_ hA0 ?_
        rotate_left
        · intro W9 hA
          have c0 := hA
          clear hA
          go_simp
          try with_reducible rfl
        try simp only [Act.put, List.setIfInBounds_toArray, List.set_cons_zero, List.set_cons_succ]
        refine take1 3 (v := ?_) rfl (by kernel_rfl) (by kernel_rfl) (by kernel_rfl) (fun _ _ _ h => h) (by rfl) ?_ hA0 ?_
        rotate_left
        · intro W9 hA
          have c0 := hA
          clear hA
          go_simp
          try with_reducible rfl
        try simp only [Act.put, List.setIfInBounds_toArray, List.set_cons_zero, List.set_cons_succ]
        refine take1 4 (v := ?_) rfl (by kernel_rfl) (by kernel_rfl) (by kernel_rfl) (fun _ _ _ h => h) (by rfl) ?_ hA0 ?_
        rotate_left
        · intro W9 hA
          have c0 := hA
          clear hA
          go_simp
          try with_reducible rfl
        try simp only [Act.put, List.setIfInBounds_toArray, List.set_cons_zero, List.set_cons_succ]
        refine step1 5 (by kernel_rfl) rfl (fun K hK => ?_)
        go_simp
        refine (HT.out W4).mono ?_
        rintro e W5 ⟨rfl, hb5⟩
        have hA5 : W5.cell? ⟨g, j, none⟩ = some (.string M) := (hb5.cell (p := ⟨g, j, none⟩) (World.block_lt_of_cell? _ _ hA0)).trans hA0
        have hB5 := hB0.trans (hb5.mono hB0.size)
        go_wp2_with fail
        refine hK.out _ _ hA5 ?_
        clear hK K hA0 hB0 hb5
        try simp only [Act.put, List.setIfInBounds_toArray, List.set_cons_zero, List.set_cons_succ]
        refine take1 6 (v := ?_) rfl (by kernel_rfl) (by kernel_rfl) (by kernel_rfl) (fun _ _ _ h => h) (by rfl) ?_ hA5 ?_
        rotate_left
        · intro W9 hA
          have c0 := hA
          clear hA
          go_simp
          try with_reducible rfl
        try simp only [Act.put, List.setIfInBounds_toArray, List.set_cons_zero, List.set_cons_succ]
        refine stop1 (by kernel_rfl) ?_
        have HB5 := Lib.hid hB5
        clear hB5 hA5
        go_wp2
        go_roundw
        case rel => exact ⟨j + 1, by omega, by go_num, by go_num, HB5.out⟩
        case measure => simp [intOf]; omega
      · have e : j = n := by omega
        subst e
        go_wp2
        go_ret
        exact ⟨rfl, hB⟩
end Go.Proofs.Ytgcfgegbbfbaaaa
