/- Rounds: the model's rounds of words. -/
import Derived.Test.YtfgolkbafnfblaaRndF
namespace Go.Proofs.Ytfgolkbafnfblaa
open Go.RowKit Go.Shelf
set_option linter.unusedVariables false
attribute [local go_sem] Oper.semAt_some
theorem wpList_append_ints {ops : Array Oper} {rest : List Oper} {o : Oper} {act : Act} {Q : Exit → Act → World → Prop} (hgd : o.guard = none) (s x : Operand) (ho : o.op = .call { callee := .builtin .append, args := #[s, x], argTypes := #[23, 23] })
    (a : Value) (xs : List Int) (r : Int) (W : World) (N : Nat) (hs : act.eval s = a) (hx : act.eval x = .slice (some ⟨W.heap.size, 0, none⟩) 1 1) (hO : IsInts W N a xs) (hl : xs.length ≤ 1000) (hN : N ≤ W.heap.size)
    (h : ∀ (v' : Value) (w1 : World), IsInts w1 N v' (xs ++ [r]) → (∀ (g len c : Nat) (ys : List Int) (N' : Nat), IsInts W N' (.slice (some ⟨g, 0, none⟩) len c) ys → g < N → IsInts w1 N' (.slice (some ⟨g, 0, none⟩) len c) ys) →
      (∀ (B : Nat) (w0 : World), B ≤ N → Below B w0 W → Below B w0 w1) → wpList Try.prog ops Q rest (act.put o.dst v') w1) : wpList Try.prog ops Q (o :: rest) act (W.alloc (.cells #[.int .i64 r] 3)) :=
  wpList_plain hgd fun _ hK => wp_append_ints s x ho a xs r W N hs hx hO hl hN fun v' w1 h1 h2 h3 => hK _ _ (h v' w1 h1 h2 h3)
/-- Where the word leads. -/
def ratN (n : Nat) (xs : List Int) : Nat → Nat
  | 0 => 0
  | i + 1 => rest n ((ratN n xs i : Int) + xs.getD i 0)
theorem ratN_lt (n : Nat) (xs : List Int) (i : Nat) (h1 : 1 ≤ n) : ratN n xs i < n := by
  cases i with
  | zero => exact h1
  | succ i => exact rest_lt n _ h1
def byN (n : Nat) (xs : List Int) (j : Nat) : List Int := tabI j (fun i => ((ratN n xs i : Nat) : Int))
theorem by_snoc (n : Nat) (xs : List Int) (j : Nat) : byN n xs (j + 1) = byN n xs j ++ [((ratN n xs j : Nat) : Int)] := tab_snoc' j _
theorem by_len (n : Nat) (xs : List Int) (j : Nat) : (byN n xs j).length = j := by simp [byN, tabI]
/-- A word of a round. -/
structure OkBy (n : Nat) (xs : List Int) : Prop where
  len : xs.length = n
  inn : ∀ i, i < n → 1 ≤ xs.getD i 0 ∧ xs.getD i 0 ≤ (n : Int) - 1
  back : ratN n xs n = 0
  rnd : IsRnd n (butN n) (byN n xs n)
noncomputable def okByB (n : Nat) (xs : List Int) : Bool := @decide (OkBy n xs) (Classical.propDecidable _)
theorem okBy_yes {n : Nat} {xs : List Int} (h : OkBy n xs) : okByB n xs = true := by
  unfold okByB
  exact @decide_eq_true _ (Classical.propDecidable _) h
theorem okBy_no {n : Nat} {xs : List Int} (h : ¬ OkBy n xs) : okByB n xs = false := by
  unfold okByB
  exact @decide_eq_false _ (Classical.propDecidable _) h
theorem okBy_iff {n : Nat} {xs : List Int} : okByB n xs = true ↔ OkBy n xs :=
  ⟨fun h => Classical.byContradiction fun c => (by rw [okBy_no c] at h; cases h), okBy_yes⟩
/-- What spec.RoundBy answers. -/
noncomputable def byRes (n : Nat) (xs : List Int) : List Int := if okByB n xs then byN n xs n else []
theorem byRes_no {n : Nat} {xs : List Int} (h : ¬ OkBy n xs) : byRes n xs = [] := by unfold byRes; rw [okBy_no h]; rfl
theorem byRes_yes {n : Nat} {xs : List Int} (h : OkBy n xs) : byRes n xs = byN n xs n := by unfold byRes; rw [okBy_yes h]; rfl
theorem nil_made (w : World) (N : Nat) (h : N ≤ w.heap.size) : IsInts (w.alloc (.cells #[] 3)) N (.slice (some ⟨w.heap.size, 0, none⟩) 0 0) [] := World.ownsRow_made w #[] 0 h (by simp [maxLen]) rfl
theorem specRoundBy_no (n : Int) (sv : Value) (w : World) (h : ¬ (1 ≤ n ∧ n ≤ 12)) :
    Calls Try.prog 28 #[.int .i64 n, sv] w (ListRes w [] false) := by
  have HR := Lib.hid (fun W => specIn_no n 0 W (fun hh => h ⟨hh.1, hh.2.1⟩))
  clear h
  go_enter Try.func28, Try.ntmps28
  go_wp2_with fail
  refine (HR.out _).mono ?_
  rintro e w' ⟨rfl, rfl⟩
  go_wp2
  go_ret2
  exact ⟨_, rfl, (Below.refl _ _).alloc (Nat.le_refl _) _, nil_made w _ (Nat.le_refl _)⟩
set_option maxHeartbeats 1000000 in
theorem specRoundBy_any (n : Nat) (sv : Value) (xs : List Int) (b : Nat) (w : World) (h1 : 1 ≤ n) (h2 : n ≤ 12) (hI : IsInts w b sv xs) :
    Calls Try.prog 28 #[.int .i64 (n:Int), sv] w (ListRes w (byRes n xs) (okByB n xs)) := by
  have hmx : Try.prog.follows .mixedOrders = true := by kernel_rfl
  have HR := Lib.hid (fun W => specIn_yes n 0 W h1 h2 (Nat.two_pow_pos n))
  by_cases hlen : xs.length = n
  · rcases hI.shape with ⟨_, rfl⟩ | ⟨g, cap, rfl, hg1, hg2, hg3⟩
    · simp at hlen; omega
    rw [hlen] at hI hg3 ⊢
    have HI := Lib.hid hI
    have HLen := Lib.hid hlen
    have HIn := Lib.hid (fun z W => l6In_any z 1 ((n : Int) - 1) W)
    have E := IntWalk.i64_in ((n:Int) - 1) ⟨by omega, by omega⟩
    have HRe := Lib.hid (fun x W hx => l1Rest_all n x W h1 h2 hx)
    have hwp := wrap_pow n (by omega)
    have hp2 : 2 ≤ 2 ^ n := by have := Nat.pow_le_pow_right (n := 2) (by omega) h1; simpa using this
    have hpw := pow_le n h2
    have hbl := but_lt n h1
    have e : ((2 ^ n : Nat) : Int) - 2 = ((butN n : Nat) : Int) := by unfold butN; omega
    have hw1 : IntKind.i64.wrap (((2 ^ n : Nat) : Int) - 2) = ((butN n : Nat) : Int) := by rw [e]; exact IntWalk.i64_in _ ⟨by omega, by omega⟩
    have hw2 : wrap64 (((2 ^ n : Nat) : Int) - 2) = ((butN n : Nat) : Int) := by rw [e]; exact IntWalk.wrap64_in _ ⟨by omega, by omega⟩
    have HL := Lib.hid (fun (sv : Value) (W : World) (N : Nat) (hI : IsInts W N sv (byN n xs n)) => l5Is_any n (butN n) sv (byN n xs n) N W h1 h2 hbl hI)
    have HBn : Hid (∃ B, butN n = B) := Lib.hid ⟨_, rfl⟩
    clear hI hlen e hp2 hpw hbl
    go_enter Try.func28, Try.ntmps28
    go_wp2_with fail
    refine (HR.out _).mono ?_
    rintro e w' ⟨rfl, rfl⟩
    go_wp2
    have HI2 := Lib.hid (HI.out.belowAll ((Below.refl w.heap.size w).alloc (Nat.le_refl _) (.cells #[] 3)))
    have HO2 := Lib.hid (nil_made w w.heap.size (Nat.le_refl _))
    have HB2 := Lib.hid ((Below.refl w.heap.size w).alloc (Nat.le_refl _) (.cells #[] 3))
    have HN0 : Hid (∀ j, j < 0 → 1 ≤ xs.getD j 0 ∧ xs.getD j 0 ≤ (n : Int) - 1) := Lib.hid (fun j hj => absurd hj (by omega))
    go_loopw [6, 7, 8] (fun a c u wr => ∃ (a' : Value) (i : Nat), a' = a ∧ i ≤ n ∧ u = .int .i64 (i : Int) ∧ c = .int .i64 ((ratN n xs i : Nat) : Int) ∧ Hid (∀ j, j < i → 1 ≤ xs.getD j 0 ∧ xs.getD j 0 ≤ (n : Int) - 1) ∧ IsInts wr w.heap.size a' (byN n xs i) ∧ IsInts wr b (.slice (some ⟨g, 0, none⟩) n cap) xs ∧ Below w.heap.size w wr) (fun _ _ u _ => n - (intOf u).toNat)
    case atStart => exact ⟨_, 0, rfl, Nat.zero_le _, rfl, rfl, HN0, HO2.out, HI2.out, HB2.out⟩
    case round =>
      obtain ⟨a, i, rfl, hi, rfl, rfl, HN, hO, hI3, hB⟩ := hrel
      have HO3 := Lib.hid hO
      have HI3 := Lib.hid hI3
      have HB3 := Lib.hid hB
      clear hO hI3 hB HO2 HI2 HB2 HN0
      have hz := HB3.out.size
      have hal := ratN_lt n xs i h1
      by_cases hlt : i < n
      · have ci := HI3.out.cell (i := i) (by rw [HLen.out]; exact hlt)
        have HNs : Hid (1 ≤ xs.getD i 0 ∧ xs.getD i 0 ≤ (n : Int) - 1 → ∀ j, j < i + 1 → 1 ≤ xs.getD j 0 ∧ xs.getD j 0 ≤ (n : Int) - 1) := Lib.hid (fun hh j hj => by
          by_cases e : j = i
          · subst e; exact hh
          · exact HN.out j (by omega))
        have HOut : Hid (¬ (1 ≤ xs.getD i 0 ∧ xs.getD i 0 ≤ (n : Int) - 1) → ¬ OkBy n xs) := Lib.hid (fun h hr => h (hr.inn i hlt))
        have HAt : Hid (rest n ((ratN n xs i : Int) + xs.getD i 0) = ratN n xs (i + 1)) := Lib.hid rfl
        have HSn := Lib.hid (by_snoc n xs i)
        obtain ⟨z, hzi⟩ : ∃ z, xs.getD i 0 = z := ⟨_, rfl⟩
        rw [hzi] at ci HNs HOut HAt
        have HZi := Lib.hid hzi
        clear hzi
        generalize ratN n xs i = p at *
        have i1 : (0 : Int) ≤ (i : Int) := by omega
        have i2 : (i : Int) < (n : Int) := by omega
        have HIz := Lib.hid (HIn.out z)
        by_cases hzn : 1 ≤ z ∧ z ≤ (n : Int) - 1
        · rw [decide_eq_true hzn] at HIz
          have HN2 := Lib.hid (HNs.out hzn)
          have d1 : IntKind.i64.wrap ((p : Int) + z) = (p : Int) + z := IntWalk.i64_in _ ⟨by omega, by omega⟩
          have d2 : wrap64 ((p : Int) + z) = (p : Int) + z := IntWalk.wrap64_in _ ⟨by omega, by omega⟩
          have HRr := Lib.hid (fun W => HRe.out ((p : Int) + z) W ⟨by omega, by omega⟩)
          rw [HAt.out] at HRr
          have hlc : (byN n xs i).length ≤ 1000 := Nat.le_trans (Nat.le_of_eq (by_len n xs i)) (Nat.le_trans (Nat.le_of_lt hlt) (Nat.le_trans h2 (by decide)))
          have HLc := Lib.hid hlc
          clear HNs HOut hzn hlc
          go_wp2_with (first | (go_at_call 43; refine (HIz.out _).mono ?_; rintro e w' ⟨rfl, rfl⟩) | (at_builtin; refine wpList_append_ints rfl _ _ rfl a (byN n xs i) (p : Int) wr w.heap.size rfl rfl HO3.out HLc.out hz (fun v' w1 hO5 hkeep hbelow => ?_); have HI5 := Lib.hid (hkeep g n cap xs b HI3.out hg2); have ci2 := HI5.out.cell (i := i) (by rw [HLen.out]; exact hlt); rw [HZi.out] at ci2; have HO5 := Lib.hid hO5; have HB5 := Lib.hid (hbelow _ _ (Nat.le_refl _) HB3.out); clear hkeep hbelow hO5 ci))
          rw [← HSn.out] at HO5
          go_wp2_with (go_at_call 45; refine (HRr.out _).mono ?_; rintro e w' ⟨rfl, rfl⟩)
          go_roundw
          case rel => exact ⟨_, i + 1, rfl, by omega, by go_num, rfl, HN2.out, HO5.out, HI5.out, HB5.out⟩
          case measure => simp [intOf]; omega
        · rw [decide_eq_false hzn] at HIz
          have hno := HOut.out hzn
          have HF := Lib.hid (okBy_no hno)
          have HE := Lib.hid (byRes_no hno)
          clear HNs HOut hzn hno
          go_wp2_with (go_at_call 43; refine (HIz.out _).mono ?_; rintro e w' ⟨rfl, rfl⟩)
          go_ret2
          exact ⟨_, by rw [HF.out]; rfl, HB3.out.alloc hz _, by rw [HE.out]; exact nil_made wr _ hz⟩
      · obtain rfl : i = n := by omega
        have hbk : OkBy i xs ↔ ratN i xs i = 0 ∧ IsRnd i (butN i) (byN i xs i) := ⟨fun h => ⟨h.back, h.rnd⟩, fun h => ⟨HLen.out, HN.out, h.1, h.2⟩⟩
        by_cases hp : ratN i xs i = 0
        · have HLr := Lib.hid (HL.out _ _ _ HO3.out)
          rw [hp]
          by_cases hr : IsRnd i (butN i) (byN i xs i)
          · rw [isRnd_yes hr] at HLr
            have hok := hbk.2 ⟨hp, hr⟩
            have HF := Lib.hid (okBy_yes hok)
            have HE := Lib.hid (byRes_yes hok)
            clear hbk hp hr hok
            generalize butN i = B at *
            generalize 2 ^ i = N2 at *
            go_wp2_with fail
            refine HLr.out.mono ?_
            rintro e w2 ⟨rfl, hb2⟩
            have HO4 := Lib.hid (HO3.out.belowAll hb2)
            have HB4 := Lib.hid (HB3.out.trans (hb2.mono hz))
            clear hb2
            go_wp2
            go_ret2
            exact ⟨_, by rw [HF.out]; rfl, HB4.out, by rw [HE.out]; exact HO4.out⟩
          · rw [isRnd_no hr] at HLr
            have hno : ¬ OkBy i xs := fun h => hr (hbk.1 h).2
            have HF := Lib.hid (okBy_no hno)
            have HE := Lib.hid (byRes_no hno)
            clear hbk hp hr hno
            generalize butN i = B at *
            generalize 2 ^ i = N2 at *
            go_wp2_with fail
            refine HLr.out.mono ?_
            rintro e w2 ⟨rfl, hb2⟩
            have HB4 := Lib.hid (HB3.out.trans (hb2.mono hz))
            clear hb2
            go_wp2
            go_ret2
            exact ⟨_, by rw [HF.out]; rfl, HB4.out.alloc HB4.out.size _, by rw [HE.out]; exact nil_made w2 _ HB4.out.size⟩
        · have hno : ¬ OkBy i xs := fun h => hp (hbk.1 h).1
          have HF := Lib.hid (okBy_no hno)
          have HE := Lib.hid (byRes_no hno)
          generalize ratN i xs i = p at *
          have e1 : ((p : Int) == 0) = false := by simp; omega
          have e2 : ((p : Int) != 0) = true := by simp; omega
          clear hbk hp hno
          go_wp2
          go_ret2
          exact ⟨_, by rw [HF.out]; rfl, HB3.out.alloc hz _, by rw [HE.out]; exact nil_made wr _ hz⟩
  · have hno : ¬ OkBy n xs := fun h => hlen h.len
    rw [okBy_no hno, byRes_no hno]
    rcases hI.shape with ⟨rfl, rfl⟩ | ⟨g, cap, rfl, hg1, hg2, hg3⟩
    · have e1 : ((0 : Int) == (n : Int)) = false := by simp; omega
      have e2 : ((0 : Int) != (n : Int)) = true := by simp; omega
      clear hno hI hlen
      go_enter Try.func28, Try.ntmps28
      go_wp2_with fail
      refine (HR.out _).mono ?_
      rintro e w' ⟨rfl, rfl⟩
      go_wp2
      go_ret2
      exact ⟨_, rfl, (Below.refl _ _).alloc (Nat.le_refl _) _, nil_made w _ (Nat.le_refl _)⟩
    · generalize xs.length = L at *
      have e1 : ((L : Int) == (n : Int)) = false := by simp; omega
      have e2 : ((L : Int) != (n : Int)) = true := by simp; omega
      clear hno hI hlen
      go_enter Try.func28, Try.ntmps28
      go_wp2_with fail
      refine (HR.out _).mono ?_
      rintro e w' ⟨rfl, rfl⟩
      go_wp2
      go_ret2
      exact ⟨_, rfl, (Below.refl _ _).alloc (Nat.le_refl _) _, nil_made w _ (Nat.le_refl _)⟩
end Go.Proofs.Ytfgolkbafnfblaa
