/- RingClasses: the program and the model. -/
import Derived.Test.YthccchelemnnfaaOrbit
import Derived.Test.YthccchelemnnfaaWrapB
import Derived.Test.YthccchelemnnfaaSpecB
import Derived.Test.YthccchelemnnfaaHeld
import Derived.Test.YthccchelemnnfaaLaw1
import Derived.Laws.OwnMore
import Derived.Laws.MakeOwn
namespace Go.Proofs.Ythccchelemnnfaa
open Go.RowKit Go.Shelf
set_option linter.unusedVariables false
/-- How many sets below k are the first ones of their classes. -/
def cntF (n k : Nat) : Nat := upto (fun s c => if firstN n s = s then c + 1 else c) k 0
theorem cntF_yes (n k : Nat) (h : firstN n k = k) : cntF n (k + 1) = cntF n k + 1 := by simp [cntF, upto, h]
theorem cntF_no (n k : Nat) (h : ¬ firstN n k = k) : cntF n (k + 1) = cntF n k := by simp [cntF, upto, h]
theorem cntF_le (n k : Nat) : cntF n k ≤ k := by
  induction k with
  | zero => exact Nat.le_refl _
  | succ k ih =>
    by_cases h : firstN n k = k
    · rw [cntF_yes n k h]; omega
    · rw [cntF_no n k h]; omega
set_option maxHeartbeats 600000 in
theorem implClasses_yes (n : Nat) (w : World) (h1 : 1 ≤ n) (h2 : n ≤ 12) :
    Calls Try.prog 39 #[.int .i64 (n:Int)] w fun e w' => e = .returned (.tuple #[.int .i64 ((cntF n (2 ^ n) : Nat) : Int), .bool true]) ∧ Below w.heap.size w w' := by
  have hp := pow_le n h2
  have hp1 := Nat.two_pow_pos n
  have HO := Lib.hid (ringOf_nil n w h1 h2)
  have HA := Lib.hid (fun W => all_any n W h2)
  generalize hN : 2 ^ n = N at *
  have HN := Lib.hid hN
  clear hN
  go_enter Try.func39, Try.ntmps39
  go_wp2_with fail
  refine HO.out.mono ?_
  rintro e w1 ⟨rfl, hb1⟩
  have z1 := hb1.size
  go_wp2
  have hB0 : Below w.heap.size w (w1.alloc (.cells #[.int .i64 (n:Int)] 42)) := hb1.alloc (by omega) _
  have bR := Boxed.new w1 42 (.int .i64 (n:Int))
  obtain ⟨W0, hW0⟩ : ∃ W0, w1.alloc (.cells #[.int .i64 (n:Int)] 42) = W0 := ⟨_, rfl⟩
  rw [hW0] at hB0 bR ⊢
  clear hW0
  go_loopw [6, 7] (fun u v wr => ∃ k : Nat, k ≤ N ∧ u = .int .i64 ((cntF n k : Nat) : Int) ∧ v = .int .i64 (k : Int) ∧ Boxed wr w1.heap.size 42 (.int .i64 (n:Int)) ∧ Below w.heap.size w wr) (fun _ v _ => N - (intOf v).toNat)
  case atStart => exact ⟨0, Nat.zero_le _, rfl, rfl, bR, hB0⟩
  case round =>
    obtain ⟨k, hk, rfl, rfl, hbx, hB⟩ := hrel
    have c1 := hbx.cell
    have lR := hbx.lt
    have hle := cntF_le n k
    by_cases hlt : k < N
    · have HF := Lib.hid (fun W => first_any n k W h1 h2 (by rw [HN.out]; exact hlt))
      have hq : ((k : Int) ≤ ((N - 1 : Nat) : Int)) := by omega
      by_cases hf : firstN n k = k
      · have HS := Lib.hid (cntF_yes n k hf)
        have hF2 := HF.out
        rw [hf] at hF2
        have HF3 := Lib.hid hF2
        clear hF2 hf HF
        generalize cntF n k = c at *
        go_wp2_with fail
        refine (HA.out _).mono ?_
        rintro e w2 ⟨rfl, hb2⟩
        have c2 := (boxed_below hbx lR hb2).cell
        go_wp2_with fail
        refine (HF3.out _).mono ?_
        rintro e w3 ⟨rfl, hb3⟩
        have z2 := hb2.size
        have b3 := boxed_below (boxed_below hbx lR hb2) (by omega) hb3
        go_wp2
        go_roundw
        case rel => exact ⟨k + 1, by omega, by rw [HS.out]; go_num, by go_num, b3, hB.trans ((hb2.mono hB.size).trans (hb3.mono (by have := hB.size; omega)))⟩
        case measure => simp [intOf]; omega
      · have HS := Lib.hid (cntF_no n k hf)
        have hF2 := HF.out
        generalize firstN n k = g at hF2 hf
        have hq2 : ((g : Int) == (k : Int)) = false := by simp; omega
        have HF3 := Lib.hid hF2
        clear hF2 HF
        generalize cntF n k = c at *
        go_wp2_with fail
        refine (HA.out _).mono ?_
        rintro e w2 ⟨rfl, hb2⟩
        have c2 := (boxed_below hbx lR hb2).cell
        go_wp2_with fail
        refine (HF3.out _).mono ?_
        rintro e w3 ⟨rfl, hb3⟩
        have z2 := hb2.size
        have b3 := boxed_below (boxed_below hbx lR hb2) (by omega) hb3
        go_wp2
        go_roundw
        case rel => exact ⟨k + 1, by omega, by rw [HS.out], by go_num, b3, hB.trans ((hb2.mono hB.size).trans (hb3.mono (by have := hB.size; omega)))⟩
        case measure => simp [intOf]; omega
    · have e : k = N := by omega
      subst e
      have hq : ¬ ((k : Int) ≤ ((k - 1 : Nat) : Int)) := by omega
      go_wp2_with fail
      refine (HA.out _).mono ?_
      rintro e w2 ⟨rfl, hb2⟩
      go_wp2
      go_ret2
      exact ⟨rfl, hB.trans (hb2.mono hB.size)⟩
theorem implClasses_no (n : Int) (w : World) (h : ¬ (1 ≤ n ∧ n ≤ 12)) :
    Calls Try.prog 39 #[.int .i64 n] w fun e w' => e = .returned (.tuple #[.int .i64 0, .bool false]) ∧ Below w.heap.size w w' := by
  have HO := Lib.hid (nil_no n w h)
  clear h
  go_enter Try.func39, Try.ntmps39
  go_wp2_with fail
  refine HO.out.mono ?_
  rintro e w1 ⟨rfl, hb1⟩
  go_wp2
  go_ret2
  exact ⟨rfl, by
    have := hb1.size
    first
    | exact hb1
    | exact hb1.alloc (by omega) _⟩
theorem specClasses_no (n : Int) (w : World) (h : ¬ (1 ≤ n ∧ n ≤ 12)) :
    Calls Try.prog 40 #[.int .i64 n] w fun e w' => e = .returned (.tuple #[.int .i64 0, .bool false]) ∧ w = w' := by
  have HI := Lib.hid (specIn_no n 0 w (fun hh => h ⟨hh.1, hh.2.1⟩))
  clear h
  go_enter Try.func40, Try.ntmps40
  go_wp2_with (go_at_call 44; refine HI.out.mono ?_; rintro e w' ⟨rfl, rfl⟩)
  go_ret2
  exact ⟨rfl, rfl⟩
/-- The sets that are marked when those below s have been asked. -/
def metF (n s : Nat) : Nat → Bool := fun x => decide (firstN n x < s)
def oneF (n s m k : Nat) (f : Nat → Bool) : Nat → Bool := fun x => f x || x == act n s (m : Int) (k : Int)
def rowF (n s m : Nat) (f : Nat → Bool) (k : Nat) : Nat → Bool := upto (oneF n s m) k f
def unitF (n s : Nat) (f : Nat → Bool) (m : Nat) : Nat → Bool := overSet (unitsN n) (fun m f => rowF n s m f n) m f
theorem rowF_iff (n s m : Nat) (f : Nat → Bool) (k x : Nat) : rowF n s m f k x = true ↔ f x = true ∨ ∃ l, l < k ∧ x = act n s (m : Int) (l : Int) := by
  induction k with
  | zero => simp [rowF, upto]
  | succ k ih =>
    have e : rowF n s m f (k + 1) x = (rowF n s m f k x || x == act n s (m : Int) (k : Int)) := rfl
    rw [e, Bool.or_eq_true, ih]
    constructor
    · rintro ((h | ⟨l, hl, h⟩) | h)
      · exact .inl h
      · exact .inr ⟨l, by omega, h⟩
      · exact .inr ⟨k, by omega, eq_of_beq h⟩
    · rintro (h | ⟨l, hl, h⟩)
      · exact .inl (.inl h)
      · by_cases e : l = k
        · subst e; exact .inr (by simpa using h)
        · exact .inl (.inr ⟨l, by omega, h⟩)
theorem unitF_iff (n s : Nat) (f : Nat → Bool) (m x : Nat) : unitF n s f m x = true ↔ f x = true ∨ ∃ u l, u < m ∧ (unitsN n).testBit u = true ∧ l < n ∧ x = act n s (u : Int) (l : Int) := by
  induction m with
  | zero => simp [unitF, overSet, upto]
  | succ m ih =>
    have e : unitF n s f (m + 1) = if (unitsN n).testBit m then rowF n s m (unitF n s f m) n else unitF n s f m := rfl
    rw [e]
    by_cases hb : (unitsN n).testBit m = true
    · rw [if_pos hb, rowF_iff, ih]
      constructor
      · rintro ((h | ⟨u, l, h1, h2, h3, h4⟩) | ⟨l, hl, h⟩)
        · exact .inl h
        · exact .inr ⟨u, l, by omega, h2, h3, h4⟩
        · exact .inr ⟨m, l, by omega, hb, hl, h⟩
      · rintro (h | ⟨u, l, h1, h2, h3, h4⟩)
        · exact .inl (.inl h)
        · by_cases e : u = m
          · subst e; exact .inr ⟨l, h3, h4⟩
          · exact .inl (.inr ⟨u, l, by omega, h2, h3, h4⟩)
    · rw [if_neg hb, ih]
      constructor
      · rintro (h | ⟨u, l, h1, h2, h3, h4⟩)
        · exact .inl h
        · exact .inr ⟨u, l, by omega, h2, h3, h4⟩
      · rintro (h | ⟨u, l, h1, h2, h3, h4⟩)
        · exact .inl h
        · by_cases e : u = m
          · subst e; exact absurd h2 hb
          · exact .inr ⟨u, l, by omega, h2, h3, h4⟩
theorem met_step (n s : Nat) (h1 : 1 ≤ n) (h2 : n ≤ 12) (hs : s < 2 ^ n) (hf : firstN n s = s) (x : Nat) (hx : x < 2 ^ n) : unitF n s (metF n s) n x = metF n (s + 1) x := by
  rw [Bool.eq_iff_iff, unitF_iff]
  unfold metF
  simp only [decide_eq_true_eq]
  have ho := orbit_iff n s x h1 h2 hs hx hf
  constructor
  · rintro (h | ⟨u, l, h3, h4, h5, h6⟩)
    · omega
    · have := ho.2 ⟨u, l, h3, ((unitsN_bit n u).1 h4).2, h5, h6.symm⟩
      omega
  · intro h
    by_cases e : firstN n x = s
    · obtain ⟨u, l, h3, h4, h5, h6⟩ := ho.1 e
      exact .inr ⟨u, l, h3, (unitsN_bit n u).2 ⟨h3, h4⟩, h5, h6.symm⟩
    · exact .inl (by omega)
theorem met_skip (n s : Nat) (h1 : 1 ≤ n) (h2 : n ≤ 12) (hs : s < 2 ^ n) (hf : ¬ firstN n s = s) (x : Nat) (hx : x < 2 ^ n) : metF n s x = metF n (s + 1) x := by
  unfold metF
  rw [Bool.eq_iff_iff]
  simp only [decide_eq_true_eq]
  constructor
  · intro h; omega
  · intro h
    by_cases e : firstN n x = s
    · exact absurd (by rw [← e]; exact first_first n x h1 h2 hx) hf
    · omega
theorem met_self (n s : Nat) (h1 : 1 ≤ n) (hs : s < 2 ^ n) : metF n s s = !decide (firstN n s = s) := by
  have := first_self_le n s h1 hs
  unfold metF
  rw [Bool.eq_iff_iff]
  simp
  omega
/-- A table of bools. -/
def tab (N : Nat) (f : Nat → Bool) : List Value := (List.range N).map (fun x => Value.bool (f x))
theorem tab_len (N : Nat) (f : Nat → Bool) : (tab N f).length = N := by simp [tab]
theorem tab_get (N : Nat) (f : Nat → Bool) (i : Nat) (hi : i < N) : (tab N f)[i]? = some (.bool (f i)) := by simp [tab, hi]
theorem tab_set (N : Nat) (f : Nat → Bool) (i : Nat) : (tab N f).set i (.bool true) = tab N (fun x => f x || x == i) := by
  refine List.ext_getElem? fun j => ?_
  rw [List.getElem?_set]
  by_cases e : i = j
  · subst e
    by_cases h : i < N
    · simp [tab, h]
    · simp [tab, h]
  · rw [if_neg e]
    by_cases h : j < N
    · rw [tab_get N f j h, tab_get N _ j h]
      have : (j == i) = false := by simp; omega
      simp [this]
    · simp [tab, h]
theorem tab_congr (N : Nat) (f g : Nat → Bool) (h : ∀ x, x < N → f x = g x) : tab N f = tab N g := by
  refine List.ext_getElem? fun j => ?_
  by_cases hj : j < N
  · rw [tab_get N f j hj, tab_get N g j hj, h j hj]
  · simp [tab, hj]
def IsTab (W : World) (b : Nat) (g N : Nat) (f : Nat → Bool) : Prop := W.ownsRow b 4 1 (.slice (some ⟨g, 0, none⟩) N N) N (tab N f)
theorem IsTab.cell {W : World} {b g N : Nat} {f : Nat → Bool} (h : IsTab W b g N f) {i : Nat} (hi : i < N) : W.cell? ⟨g, i, none⟩ = some (.bool (f i)) := by
  have h2 := World.ownsRow.cells h (g := g) rfl i _ (tab_get N f i hi)
  have hadd : (⟨g, 0, none⟩ : Addr).add i = ⟨g, i, none⟩ := by unfold Addr.add; split <;> simp_all
  rw [hadd] at h2
  exact h2
theorem IsTab.frozen {W : World} {b g N : Nat} {f : Nat → Bool} (h : IsTab W b g N f) (i : Nat) : W.frozen? ⟨g, i, none⟩ = false := World.ownsRow.frozenAt h i
theorem IsTab.set {W : World} {b g N : Nat} {f : Nat → Bool} (h : IsTab W b g N f) (i : Nat) : IsTab (W.setCell ⟨g, i, none⟩ (.bool true)) b g N (fun x => f x || x == i) := by
  have h3 := (World.ownsRow.stored h i (.bool true)).1
  rw [tab_set] at h3
  exact h3
theorem IsTab.congr {W : World} {b g N : Nat} {f h : Nat → Bool} (ht : IsTab W b g N f) (e : ∀ x, x < N → f x = h x) : IsTab W b g N h := by
  unfold IsTab at *
  rw [← tab_congr N f h e]
  exact ht
theorem Try.infoBool : (Try.prog.info? 4).map (fun i => (i.zero, i.size, i.bytes)) = some (some (.bool false), 1, 1) := by kernel_rfl
theorem make_tab (N : Nat) (hn : N ≤ 4096) (w : World) :
    (Instr.makeSlice 60 (.int .i64 (N:Int)) (.int .i64 (N:Int))).run Try.prog w = .ok (.slice (some ⟨w.heap.size, 0, none⟩) N N) (w.alloc (.cells (madeCells #[.bool false] N) 4)) := by
  obtain ⟨i0, hi, hz0, hz1, hz2⟩ := info_parts Try.infoBool
  have h := run_make (P := Try.prog) w 60 4 i0 _ Try.underlying60 hi hz0 .i64 .i64 (N:Int) (N:Int) (by omega) (Int.le_refl _) (by rw [hz2]; omega) (by omega)
  simp only [hz1, Nat.mul_one, Int.toNat_natCast] at h
  exact h
theorem made_tab (N : Nat) (hn : N ≤ 4096) (w : World) : IsTab (w.alloc (.cells (madeCells #[.bool false] N) 4)) w.heap.size w.heap.size N (fun _ => false) := by
  have h := World.ownsRow_lit (base := w.heap.size) (e := 4) (size := 1) w (madeCells #[.bool false] N) N (Nat.le_refl _) (by unfold maxLen; omega) (by simpa using size_madeCells #[Value.bool false] N)
  have e : tab N (fun _ => false) = (madeCells #[Value.bool false] N).toList := by
    rw [toList_madeCells_one]
    refine List.ext_getElem? fun j => ?_
    by_cases hj : j < N
    · rw [tab_get N _ j hj]; simp [hj]
    · simp [tab, hj]
  unfold IsTab
  rw [e]
  exact h
set_option maxHeartbeats 1000000 in
theorem specClasses_yes (n : Nat) (w : World) (h1 : 1 ≤ n) (h2 : n ≤ 12) :
    Calls Try.prog 40 #[.int .i64 (n:Int)] w fun e w' => e = .returned (.tuple #[.int .i64 ((cntF n (2 ^ n) : Nat) : Int), .bool true]) ∧ Below w.heap.size w w' := by
  have hp := pow_le n h2
  have hp1 := Nat.two_pow_pos n
  have hw := wrap_pow n (by omega)
  have HI := Lib.hid (specIn_yes n 0 w h1 h2 hp1)
  have HUn := Lib.hid (fun W => l1Units_any n W h1 h2)
  generalize hN : 2 ^ n = N at *
  have HN := Lib.hid hN
  have hmk := make_tab N hp w
  have HM := Lib.hid (made_tab N hp w)
  have HM0 := Lib.hid (tab_congr N (fun _ => false) (metF n 0) (fun x _ => by simp [metF]))
  clear hN
  go_enter Try.func40, Try.ntmps40
  go_wp2_with (go_at_call 44; refine HI.out.mono ?_; rintro e w' ⟨rfl, rfl⟩)
  have hB0 : Below w.heap.size w (w.alloc (.cells (madeCells #[.bool false] N) 4)) := (Below.refl _ _).alloc (Nat.le_refl _) _
  obtain ⟨W0, hW0⟩ : ∃ W0, w.alloc (.cells (madeCells #[.bool false] N) 4) = W0 := ⟨_, rfl⟩
  rw [hW0] at hB0 HM ⊢
  clear hW0 hmk hw
  go_loopw [5, 6] (fun u v wr => ∃ k : Nat, k ≤ N ∧ u = .int .i64 ((cntF n k : Nat) : Int) ∧ v = .int .i64 (k : Int) ∧ IsTab wr w.heap.size w.heap.size N (metF n k) ∧ Below w.heap.size w wr) (fun _ v _ => N - (intOf v).toNat)
  case atStart => exact ⟨0, Nat.zero_le _, rfl, rfl, (by
    have h := HM.out
    unfold IsTab at h ⊢
    rw [← HM0.out]
    exact h), hB0⟩
  case round =>
    obtain ⟨k, hk, rfl, rfl, hT, hB⟩ := hrel
    have HT := Lib.hid hT
    clear hT HM hB0
    have hcl := cntF_le n k
    by_cases hlt : k < N
    · have c1 := HT.out.cell hlt
      have hkn : k < 2 ^ n := by rw [HN.out]; exact hlt
      rw [met_self n k h1 hkn] at c1
      have i1 : (0 : Int) ≤ (k : Int) := by omega
      have i2 : (k : Int) < (N : Int) := by omega
      by_cases hf : firstN n k = k
      · rw [decide_eq_true hf] at c1
        simp only [Bool.not_true] at c1
        have HC := Lib.hid (cntF_yes n k hf)
        have HST := Lib.hid (fun x (hx : x < N) => met_step n k h1 h2 hkn hf x (by rw [HN.out]; exact hx))
        have HF := Lib.hid hf
        clear hf
        generalize cntF n k = c at *
        go_wp2
        obtain ⟨wo, rfl⟩ : ∃ wo : World, wo = wr := ⟨_, rfl⟩
        go_loopw [7] (fun u wr => ∃ m : Nat, m ≤ n ∧ u = .int .i64 (m : Int) ∧ IsTab wr w.heap.size w.heap.size N (unitF n k (metF n k) m) ∧ Below w.heap.size w wr) (fun u _ => n - (intOf u).toNat)
        case atStart => exact ⟨0, Nat.zero_le _, rfl, HT.out, hB⟩
        case round =>
          obtain ⟨m, hm, rfl, hT2, hB2⟩ := hrel
          have HT2 := Lib.hid hT2
          clear hT2
          by_cases hlm : m < n
          · have hul := unitsN_lt n
            rw [HN.out] at hul
            by_cases hbit : (unitsN n).testBit m = true
            · have hb0 := has_nat0 (unitsN n) m (by omega)
              rw [hbit] at hb0
              have HUF := Lib.hid (show unitF n k (metF n k) (m + 1) = rowF n k m (unitF n k (metF n k) m) n from by simp [unitF, overSet, upto, hbit])
              clear hbit
              simp only [Bool.not_true] at hb0
              go_wp2_with (go_at_call 54; refine (HUn.out _).mono ?_; rintro e w' ⟨rfl, rfl⟩)
              obtain ⟨wp, rfl⟩ : ∃ wp : World, wp = wr := ⟨_, rfl⟩
              go_loopw [8] (fun u wr => ∃ l : Nat, l ≤ n ∧ u = .int .i64 (l : Int) ∧ IsTab wr w.heap.size w.heap.size N (rowF n k m (unitF n k (metF n k) m) l) ∧ Below w.heap.size w wr) (fun u _ => n - (intOf u).toNat)
              case atStart => exact ⟨0, Nat.zero_le _, rfl, HT2.out, hB2⟩
              case round =>
                obtain ⟨l, hl, rfl, hT3, hB3⟩ := hrel
                have HT3 := Lib.hid hT3
                clear hT3
                by_cases hll : l < n
                · have hal := act_lt n k (m : Int) (l : Int) h1
                  rw [HN.out] at hal
                  have hc := l1Map_any n k (m : Int) (l : Int) wr h1 h2 (pow_mono h2 hkn) (by omega) (by omega) (by omega) (by omega)
                  have HR := Lib.hid (show rowF n k m (unitF n k (metF n k) m) (l + 1) = fun x => rowF n k m (unitF n k (metF n k) m) l x || x == act n k (m : Int) (l : Int) from rfl)
                  have hc' : Calls Try.prog 52 #[.int .i64 (n:Int), .int .i64 (k:Int), .int .i64 (m:Int), .int .i64 (l:Int)] wr fun e w' => e = .returned (.int .i64 ((act n k (m : Int) (l : Int) : Nat) : Int)) ∧ wr = w' := hc
                  clear hc
                  generalize act n k (m : Int) (l : Int) = q at *
                  have c3 := HT3.out.cell hal
                  have f3 := HT3.out.frozen q
                  have j1 : (0 : Int) ≤ (q : Int) := by omega
                  have j2 : (q : Int) < (N : Int) := by omega
                  have HC3 := Lib.hid hc'
                  clear hc'
                  generalize rowF n k m (unitF n k (metF n k) m) l q = bq at c3
                  go_wp2_with (go_at_call 52; refine HC3.out.mono ?_; rintro e w' ⟨rfl, rfl⟩)
                  go_roundw
                  case rel => exact ⟨l + 1, by omega, by go_num, by rw [HR.out]; exact HT3.out.set q, hB3.setCell (p := ⟨w.heap.size, q, none⟩) (Nat.le_refl _) _⟩
                  case measure => simp [intOf]; omega
                · have e : l = n := by omega
                  subst e
                  go_wp2
                  go_roundw
                  case rel => exact ⟨m + 1, by omega, by go_num, by rw [HUF.out]; exact HT3.out, hB3⟩
                  case measure => simp [intOf]; omega
            · have hbit' : (unitsN n).testBit m = false := by simpa using hbit
              have hb0 := has_nat0 (unitsN n) m (by omega)
              rw [hbit'] at hb0
              have HUF := Lib.hid (show unitF n k (metF n k) (m + 1) = unitF n k (metF n k) m from by simp [unitF, overSet, upto, hbit'])
              clear hbit hbit'
              simp only [Bool.not_false] at hb0
              go_wp2_with (go_at_call 54; refine (HUn.out _).mono ?_; rintro e w' ⟨rfl, rfl⟩)
              go_roundw
              case rel => exact ⟨m + 1, by omega, by go_num, by rw [HUF.out]; exact HT2.out, hB2⟩
              case measure => simp [intOf]; omega
          · have e : m = n := by omega
            subst e
            go_wp2
            go_roundw
            case rel => exact ⟨k + 1, by omega, by rw [HC.out]; go_num, by go_num, HT2.out.congr HST.out, hB2⟩
            case measure => simp [intOf]; omega
      · rw [decide_eq_false hf] at c1
        simp only [Bool.not_false] at c1
        have HC := Lib.hid (cntF_no n k hf)
        have HST := Lib.hid (fun x (hx : x < N) => met_skip n k h1 h2 hkn hf x (by rw [HN.out]; exact hx))
        clear hf
        generalize cntF n k = c at *
        go_wp2
        go_roundw
        case rel => exact ⟨k + 1, by omega, by rw [HC.out], by go_num, HT.out.congr HST.out, hB⟩
        case measure => simp [intOf]; omega
    · have e : k = N := by omega
      subst e
      go_wp2
      go_ret2
      exact ⟨rfl, hB⟩
end Go.Proofs.Ythccchelemnnfaa
