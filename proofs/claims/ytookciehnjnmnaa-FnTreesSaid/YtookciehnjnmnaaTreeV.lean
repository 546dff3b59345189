/- Trees: the model. -/
import Derived.Test.YtookciehnjnmnaaTreeT
import Derived.Test.YtookciehnjnmnaaTreeU
import Derived.Laws.AppendOwn
namespace Go.Proofs.Ytookciehnjnmnaa
open Go.RowKit Go.Shelf
set_option linter.unusedVariables false
attribute [local go_sem] Oper.semAt_some
/-- A list of lists of integers that a call has made. -/
structure Rws (W : World) (N : Nat) (u : Value) (k m : Nat) (G C : Nat → Nat) (M : Nat → Nat → Int) : Prop where
  own : W.ownsRow N 32 1 u k ((List.range k).map (fun i => Value.slice (some ⟨G i, 0, none⟩) m (C i)))
  there : u ≠ .slice none 0 0
  row : ∀ i, i < k → IsInts W N (.slice (some ⟨G i, 0, none⟩) m (C i)) (tabI m (M i))
  inj : ∀ i j, i < k → j < k → G i = G j → i = j
theorem rows_apart {W : World} {N N' k g len c : Nat} {u : Value} {xs : List Value} {ys : List Int} (h : W.ownsRow N 32 1 u k xs) (h2 : IsInts W N' (.slice (some ⟨g, 0, none⟩) len c) ys) : u.ownBlock ≠ some g := by
  intro e
  rcases h.2 with ⟨rfl, _⟩ | ⟨g1, cap, cur, rfl, _, hg, _⟩
  · cases e
  · have e1 : g1 = g := by injection e
    subst e1
    rcases h2.2 with ⟨h3, _⟩ | ⟨g2, cap2, cur2, h3, _, hg2, _⟩
    · cases h3
    · injection h3 with h3 _ _
      injection h3 with h3
      injection h3 with h3 _ _
      subst h3
      rw [hg] at hg2
      injection hg2 with hg2
      injection hg2 with _ h5 _
      exact absurd h5 (by decide)
namespace Rws
variable {W W' : World} {N k m : Nat} {u : Value} {G C : Nat → Nat} {M M' : Nat → Nat → Int}
theorem lt (h : Rws W N u k m G C M) (i : Nat) (hi : i < k) : G i < W.heap.size := (World.ownsRow.lt (h.row i hi) (G i) rfl).2
theorem below (h : Rws W N u k m G C M) (hb : Below W.heap.size W W') : Rws W' N u k m G C M := by
  refine ⟨⟨h.own.1, ?_⟩, h.there, fun i hi => (h.row i hi).belowAll hb, h.inj⟩
  rcases h.own.2 with hn | ⟨g, cap, cur, rfl, h1, hgg, rest⟩
  · exact .inl hn
  · exact .inr ⟨g, cap, cur, rfl, h1, (hb.block g (World.ownsRow.lt h.own g rfl).2).trans hgg, rest⟩
theorem grew (h : Rws W N u k m G C M) {B : Nat} {row : Option Nat} (hg : W.grownBy W' row) (ho : ∀ g, u.ownBlock = some g → g < B) (hr : ∀ i, i < k → G i < B) (hB : ∀ g, row = some g → B ≤ g) : Rws W' N u k m G C M := by
  refine ⟨World.ownsRow.kept h.own hg ?_, h.there, fun i hi => World.ownsRow.kept (h.row i hi) hg (.inr fun e => ?_), h.inj⟩
  · cases hu : u.ownBlock with
    | none => exact .inl rfl
    | some g =>
      refine .inr fun e => ?_
      have a := ho g hu
      have b := hB g (by rw [← e])
      omega
  · have a := hr i hi
    have b := hB (G i) (by rw [← e]; rfl)
    omega
theorem snoc (h : Rws W N u k m G C M) {b c : Nat} {f : Nat → Int} (hb : IsInts W N (.slice (some ⟨b, 0, none⟩) m c) (tabI m f)) (hne : ∀ i, i < k → G i ≠ b) {u' : Value}
    (hown : W'.ownsRow N 32 1 u' (k + 1) ((List.range k).map (fun i => Value.slice (some ⟨G i, 0, none⟩) m (C i)) ++ [.slice (some ⟨b, 0, none⟩) m c])) (hg : W.grownBy W' u.ownBlock) (hu : u' ≠ .slice none 0 0)
    (hM : ∀ i j, i < k + 1 → j < m → M' i j = if i = k then f j else M i j) :
    Rws W' N u' (k + 1) m (fun i => if i = k then b else G i) (fun i => if i = k then c else C i) M' := by
  have apart : ∀ g len cc ys, IsInts W N (.slice (some ⟨g, 0, none⟩) len cc) ys → IsInts W' N (.slice (some ⟨g, 0, none⟩) len cc) ys := fun g len cc ys hy =>
    World.ownsRow.kept hy hg (.inr (fun e => rows_apart h.own hy e.symm))
  refine ⟨?_, hu, fun i hi => ?_, fun i j hi hj e => ?_⟩
  · have e : (List.range (k + 1)).map (fun i => Value.slice (some ⟨if i = k then b else G i, 0, none⟩) m (if i = k then c else C i)) = (List.range k).map (fun i => Value.slice (some ⟨G i, 0, none⟩) m (C i)) ++ [.slice (some ⟨b, 0, none⟩) m c] := by
      rw [List.range_succ, List.map_append]
      congr 1
      · refine List.map_congr_left fun x hx => ?_
        have hx' := List.mem_range.1 hx
        rw [if_neg (by omega), if_neg (by omega)]
      · simp
    rw [e]
    exact hown
  · by_cases e : i = k
    · simp only [if_pos e]
      rw [tabI_congr m (M' i) f (fun j hj => by rw [hM i j hi hj, if_pos e])]
      exact apart _ _ _ _ hb
    · simp only [if_neg e]
      rw [tabI_congr m (M' i) (M i) (fun j hj => by rw [hM i j hi hj, if_neg e])]
      exact apart _ _ _ _ (h.row i (by omega))
  · by_cases e1 : i = k <;> by_cases e2 : j = k
    · omega
    · simp only [if_pos e1, if_neg e2] at e
      exact absurd e.symm (hne j (by omega))
    · simp only [if_neg e1, if_pos e2] at e
      exact absurd e (hne i (by omega))
    · simp only [if_neg e1, if_neg e2] at e
      exact h.inj i j (by omega) (by omega) e
theorem grid {g c : Nat} (h : Rws W N (.slice (some ⟨g, 0, none⟩) k c) k m G C M) : Grid W N g k m k G C M := by
  have oc : ∀ i, i < k → W.cell? ⟨g, i, none⟩ = some (.slice (some ⟨G i, 0, none⟩) m (C i)) := fun i hi => by
    have h2 := World.ownsRow.cells h.own (g := g) rfl i (.slice (some ⟨G i, 0, none⟩) m (C i)) (by simp [hi])
    have hadd : (⟨g, 0, none⟩ : Addr).add i = ⟨g, i, none⟩ := by unfold Addr.add; split <;> simp_all
    rw [hadd] at h2
    exact h2
  refine ⟨fun i hi => ⟨by rw [oc i hi]; rfl, World.ownsRow.frozenAt h.own i⟩, Nat.le_refl _, oc, fun i j hi hj => ?_, fun i j hi hj => ?_, (World.ownsRow.lt h.own g rfl).1, fun i hi => (World.ownsRow.lt (h.row i hi) (G i) rfl).1, fun i hi e => ?_, h.inj⟩
  · have h2 := (h.row i hi).cell (i := j) (by rw [tabI_len]; exact hj)
    rw [tabI_get m _ j hj] at h2
    exact h2
  · exact World.ownsRow.frozenAt (tab_own (h.row i hi)) j
  · exact rows_apart h.own (h.row i hi) (by rw [e]; rfl)
theorem shape (h : Rws W N u k m G C M) : ∃ g c, u = .slice (some ⟨g, 0, none⟩) k c := by
  rcases h.own.2 with ⟨e, _⟩ | ⟨g, cap, cur, e, _⟩
  · exact absurd e h.there
  · exact ⟨g, cap, e⟩
end Rws
/-- A determinant of fewer rows than rounds. -/
theorem putRow_len (x : List Int) (l : List (List Int)) : (putRow x l).length = l.length := by
  induction l with
  | nil => rfl
  | cons r l ih =>
    unfold putRow
    split
    · simp [ih]
    · split
      · simp [ih]
      · simp
theorem detF_fuel (k : Nat) (last sign : Int) (R : List (List Int)) (h : R.length ≤ k) : detF (k + 1) last sign R = detF k last sign R := by
  induction k generalizing last sign R with
  | zero =>
    cases R with
    | nil => rfl
    | cons r l => simp at h
  | succ k ih =>
    cases R with
    | nil => rfl
    | cons r l =>
      have hl : l.length ≤ k := by simpa using h
      show (match lastRow l with
        | some q => detF (k + 1) (headI q) (0 - sign) (restRows (headI q) last q.tail (putRow r l))
        | none => if headI r = 0 then 0 else detF (k + 1) (headI r) sign (restRows (headI r) last r.tail l)) = (match lastRow l with
        | some q => detF k (headI q) (0 - sign) (restRows (headI q) last q.tail (putRow r l))
        | none => if headI r = 0 then 0 else detF k (headI r) sign (restRows (headI r) last r.tail l))
      cases lastRow l with
      | none =>
        simp only []
        rw [ih _ _ _ (by rw [rest_len]; exact hl)]
      | some q =>
        simp only []
        rw [ih _ _ _ (by rw [rest_len, putRow_len]; exact hl)]
theorem tree_fuel (n b : Nat) (h1 : 1 ≤ n) (h2 : n ≤ 12) (hb : b < 2 ^ n) : detF (n - 1) 1 1 (rowsT n b ((sizeN b : Nat) : Int) 1 (n - 1)) = treeN n b := by
  unfold treeN
  rw [count_size n b h2 hb]
  have h := detF_fuel (n - 1) 1 1 (rowsT n b ((sizeN b : Nat) : Int) 1 (n - 1)) (by rw [rowsT_len]; omega)
  rw [show n - 1 + 1 = n by omega] at h
  exact h.symm
theorem specWalkTrees_no (n s : Int) (w : World) (h : NoStep n s) :
    Calls Try.prog 17 #[.int .i64 n, .int .i64 s] w fun e w' => e = .returned (.tuple #[.int .i64 0, .bool false]) ∧ w = w' := by
  have HI := Lib.hid (specStep_no n s w h)
  clear h
  go_enter Try.func17, Try.ntmps17
  go_wp2_with (go_at_call 34; refine HI.out.mono ?_; rintro e w' ⟨rfl, rfl⟩)
  go_ret2
  exact ⟨rfl, rfl⟩
theorem specWalkTrees_out (n s : Nat) (w : World) (h1 : 1 ≤ n) (h2 : n ≤ 12) (hs : s < 2 ^ n) (h0 : s.testBit 0 = false) (hn : ¬ n ≤ 11) :
    Calls Try.prog 17 #[.int .i64 (n:Int), .int .i64 (s:Int)] w fun e w' => e = .returned (.tuple #[.int .i64 0, .bool false]) ∧ w = w' := by
  have HI := Lib.hid (specStep_yes n s w h1 h2 hs h0)
  have k1 : (11 : Int) < (n : Int) := by omega
  have k2 : decide ((11 : Int) < (n : Int)) = true := decide_eq_true k1
  have k3 : decide (11 < n) = true := decide_eq_true (by omega)
  clear hn
  go_enter Try.func17, Try.ntmps17
  go_wp2_with (go_at_call 34; refine HI.out.mono ?_; rintro e w' ⟨rfl, rfl⟩)
  go_ret2
  exact ⟨rfl, rfl⟩
/-- What one place of a row is made of. -/
theorem ent_asked (n b v x : Nat) (deg : Int) (h1 : 1 ≤ n) (h2 : n ≤ 12) (hb : b < 2 ^ 40) (hv : v < n) (hx : x < n) : entT n b v deg x = if x = v then deg else 0 - bits .and .i64 ((b : Int) / 2 ^ rest n ((x : Int) - (v : Int))) 1 := by
  unfold entT
  have hr : rest n ((x : Int) - (v : Int)) = (x + n - v) % n := by
    have := rest_diff n x v hx hv
    rw [this]
    congr 1
    omega
  rw [hr]
  split
  · rfl
  · have h3 := has_nat b ((x + n - v) % n) hb
    have h4 := has_nat0 b ((x + n - v) % n) hb
    cases hbt : b.testBit ((x + n - v) % n)
    · rw [hbt] at h4
      have : bits .and .i64 ((b : Int) / 2 ^ ((x + n - v) % n)) 1 = 0 := by simpa using h4
      rw [this]; rfl
    · rw [hbt] at h3
      have : bits .and .i64 ((b : Int) / 2 ^ ((x + n - v) % n)) 1 = 1 := by simpa using h3
      rw [this]; rfl
theorem ent_in (n b v x : Nat) (q : Nat) (hq : q ≤ 12) : -1 ≤ entT n b v (q : Int) x ∧ entT n b v (q : Int) x ≤ 12 := by
  unfold entT
  split
  · omega
  · split <;> omega
set_option maxRecDepth 100000 in
set_option maxHeartbeats 8000000 in
theorem specWalkTrees_yes (n s : Nat) (w : World) (h1 : 1 ≤ n) (h2 : n ≤ 11) (hs : s < 2 ^ n) (h0 : s.testBit 0 = false) :
    Calls Try.prog 17 #[.int .i64 (n:Int), .int .i64 (s:Int)] w fun e w' => e = .returned (.tuple #[.int .i64 (treeN n (bothN n s)), .bool true]) ∧ Below w.heap.size w w' := by
  have hmx : Try.prog.follows .mixedOrders = true := by kernel_rfl
  have HI := Lib.hid (specStep_yes n s w h1 (by omega) hs h0)
  have HBo := Lib.hid (fun W => l2Both_any n s W h1 (by omega) hs)
  have hbl := bothN_lt n s h1 hs
  have hp12 := pow_le n (by omega : n ≤ 12)
  obtain ⟨f1, _, _, f4⟩ := tree_both n s h1 h2 hs h0
  have hT := tree_fuel n (bothN n s) h1 (by omega) hbl
  have hS := sub_start n (bothN n s) ((sizeN (bothN n s) : Nat) : Int)
  have hqs := sizeN_le n (bothN n s) (by omega) hbl
  obtain ⟨b, hb⟩ : ∃ b, bothN n s = b := ⟨_, rfl⟩
  rw [hb] at hbl HBo f1 f4 hT hS hqs ⊢
  have HSi := Lib.hid (fun W => l1Size_any b W (by omega))
  rw [f4] at f1
  have HEn := Lib.hid (fun v x hv hx => ent_asked n b v x ((sizeN b : Nat) : Int) h1 (by omega) (by omega) hv hx)
  have HEi := Lib.hid (fun v x => ent_in n b v x (sizeN b) (by omega))
  have HV := Lib.hid (fun g cp G C W (hG : Grid W w.heap.size g (n - 1) (n - 1) (n - 1) G C (fun i j => entT n b (1 + i) ((sizeN b : Nat) : Int) (1 + j))) (hW : w.heap.size ≤ W.heap.size) => l4Value_any (n - 1) g cp w.heap.size G C _ _ W (by omega) hW hG hS f1)
  rw [hT] at HV
  obtain ⟨q, hq⟩ : ∃ q, sizeN b = q := ⟨_, rfl⟩
  rw [hq] at HSi HEn HEi HV
  have HRe := Lib.hid (fun x W hx => l1Rest_any n x W h1 (by omega) hx)
  obtain ⟨i0, hi, hz0, hz1, hz2⟩ := info_parts Try.infoI
  obtain ⟨i1, gi, gz0, gz1, gz2⟩ := info_parts Try.infoRows
  clear f1 f4 hT hS hq hb h0 hs
  generalize treeN n b = T at *
  go_enter Try.func17, Try.ntmps17
  go_wp2_with fail
  refine HI.out.mono ?_
  rintro e w' ⟨rfl, rfl⟩
  go_wp2_with fail
  refine (HBo.out _).mono ?_
  rintro e w' ⟨rfl, rfl⟩
  go_wp2
  go_loopw [7, 8] (fun a u wr => ∃ (A : Value) (v : Nat) (G C : Nat → Nat), A = a ∧ 1 ≤ v ∧ v ≤ n ∧ u = .int .i64 (v : Int) ∧ Rws wr w.heap.size A (v - 1) (n - 1) G C (fun i j => entT n b (1 + i) (q : Int) (1 + j)) ∧ Below w.heap.size w wr) (fun _ u _ => n - (intOf u).toNat)
  case atStart => exact ⟨_, 1, fun _ => 0, fun _ => 0, rfl, Nat.le_refl _, h1, rfl, ⟨World.ownsRow_made w #[] 0 (Nat.le_refl _) (by simp [maxLen]) rfl, (by intro e; cases e), fun i hi => absurd hi (by omega), fun i j hi => absurd hi (by omega)⟩, (Below.refl _ _).alloc (Nat.le_refl _) _⟩
  case round =>
    obtain ⟨A, v, G, C, rfl, hv1, hvn, rfl, hR, hB⟩ := hrel
    have HR := Lib.hid hR
    have HB := Lib.hid hB
    clear hR hB
    by_cases hlt : v < n
    · have z0 := HB.out.size
      have HR1 := Lib.hid (HR.out.below ((Below.refl wr.heap.size wr).alloc (Nat.le_refl _) (.cells #[] 3)))
      have HB1 := Lib.hid (HB.out.alloc z0 (.cells #[] 3))
      have HI1 : Hid (IsInts (wr.alloc (.cells #[] 3)) wr.heap.size (.slice (some ⟨wr.heap.size, 0, none⟩) 0 0) (tabI (1 - 1) (fun j => entT n b v (q : Int) (1 + j)))) := Lib.hid (own_tab (World.ownsRow_made wr #[] 0 (Nat.le_refl _) (by simp [maxLen]) rfl))
      have HLt := Lib.hid (fun i hi => HR.out.lt i hi)
      have HAp := Lib.hid (fun g hg => (World.ownsRow.lt HR.out.own g hg).2)
      go_wp2
      obtain ⟨h, hh⟩ : ∃ h, wr.heap.size = h := ⟨_, rfl⟩
      obtain ⟨W1, hW1⟩ : ∃ W1, wr.alloc (.cells #[] 3) = W1 := ⟨_, rfl⟩
      have zW : W1.heap.size = h + 1 := by rw [← hW1, ← hh]; simp
      rw [hh] at HI1 HLt HAp z0
      rw [hW1] at HI1 HR1 HB1
      rw [hW1, hh]
      clear hW1 hh HR HB
      go_loopw [9, 10] (fun a u wr => ∃ (a' : Value) (x : Nat), a' = a ∧ 1 ≤ x ∧ x ≤ n ∧ u = .int .i64 (x : Int) ∧ IsInts wr h a' (tabI (x - 1) (fun j => entT n b v (q : Int) (1 + j))) ∧ a' ≠ .slice none 0 0 ∧ Rws wr w.heap.size A (v - 1) (n - 1) G C (fun i j => entT n b (1 + i) (q : Int) (1 + j)) ∧ Below w.heap.size w wr ∧ h ≤ wr.heap.size) (fun _ u _ => n - (intOf u).toNat)
      case atStart => exact ⟨_, 1, rfl, Nat.le_refl _, h1, rfl, HI1.out, (by intro e; cases e), HR1.out, HB1.out, by omega⟩
      case round =>
        obtain ⟨a, x, rfl, hx1, hxn, rfl, hI, hth, hR, hB, hsz⟩ := hrel
        clear HI1 HR1 HB1 zW
        have HI2 := Lib.hid hI
        have HTh2 := Lib.hid hth
        have HR2 := Lib.hid hR
        have HB2 := Lib.hid hB
        clear hI hR hB hth
        by_cases hlx : x < n
        · have hE := HEn.out v x hlt hlx
          by_cases hxv : x = v
          · rw [if_pos hxv] at hE
            have HE := Lib.hid hE
            have n1 : ((x : Int) == (v : Int)) = true := by simp [hxv]
            have n2 : ((x : Int) != (v : Int)) = false := by simp [hxv]
            clear hE hxv
            go_wp2_with fail
            refine (HSi.out _).mono ?_
            rintro e w2 ⟨rfl, rfl⟩
            go_wp2_with (first | (at_builtin; refine wpList_append_own _ rfl _ _ 32 rfl h 3 i0 (.int .i64 0) 1 8 Try.underlying32 hi hz0 hz1 hz2 rfl (by decide) _ _ _ rfl ((tab_own HI2.out).alloc _) ⟨wr.heap.size, 0, none⟩ 1 1 [.int .i64 (q : Int)] rfl rfl ?c1 ?c2 ?c3 ?c4 ?c5 ?_))
            case c1 =>
              intro j u hj
              cases j with
              | zero => simp at hj; subst hj; simp [Addr.add]
              | succ j => simp at hj
            case c2 => intro u hu; simp at hu; subst hu; rfl
            case c3 => unfold maxLen; omega
            case c4 => omega
            case c5 => simp; omega
            · intro v' w1 hown' hgrow hiff
              have HO : Hid (IsInts w1 h v' (tabI (x + 1 - 1) (fun j => entT n b v (q : Int) (1 + j)))) := Lib.hid (by
                refine own_tab ?_
                have e := ints_snoc (x - 1) (fun j => entT n b v (q : Int) (1 + j))
                have e1 : entT n b v (q : Int) (1 + (x - 1)) = (q : Int) := by rw [show 1 + (x - 1) = x by omega]; exact HE.out
                rw [e1, show x - 1 + 1 = x by omega] at e
                rw [show x + 1 - 1 = x by omega, ← e]
                exact hown')
              have HBw := Lib.hid ((HB2.out.alloc HB2.out.size (.cells #[.int .i64 (q : Int)] 3)).grown hgrow (by have := HB2.out.size; simp; omega) (fun y eq => by have := ((tab_own HI2.out).lt y eq).1; omega))
              have HRw : Hid (Rws w1 w.heap.size A (v - 1) (n - 1) G C (fun i j => entT n b (1 + i) (q : Int) (1 + j))) := Lib.hid ((HR2.out.below ((Below.refl wr.heap.size wr).alloc (Nat.le_refl _) (.cells #[.int .i64 (q : Int)] 3))).grew hgrow (fun g hg => HAp.out g hg) (fun i hi => HLt.out i hi) (fun g hg => (World.ownsRow.lt (tab_own HI2.out) g hg).1))
              have HTh : Hid (v' ≠ .slice none 0 0) := Lib.hid hiff
              have HSz : Hid (h ≤ w1.heap.size) := Lib.hid (by have := hgrow.size; simp at this; omega)
              clear hown' hgrow hiff
              go_wp2
              go_roundw
              case rel => exact ⟨_, x + 1, rfl, by omega, by omega, by go_num, HO.out, HTh.out, HRw.out, HBw.out, HSz.out⟩
              case measure => simp [intOf]; omega
          · rw [if_neg hxv] at hE
            have n1 : ((x : Int) == (v : Int)) = false := by simp; omega
            have n2 : ((x : Int) != (v : Int)) = true := by simp; omega
            have hdx : IntKind.i64.wrap ((x : Int) - (v : Int)) = (x : Int) - (v : Int) := IntWalk.i64_in _ ⟨by omega, by omega⟩
            have hdy : wrap64 ((x : Int) - (v : Int)) = (x : Int) - (v : Int) := IntWalk.wrap64_in _ ⟨by omega, by omega⟩
            have HRr := Lib.hid (fun W => HRe.out ((x : Int) - (v : Int)) W ⟨by omega, by omega⟩)
            have hei := HEi.out v x
            have hrl := rest_lt n ((x : Int) - (v : Int)) h1
            obtain ⟨r, hr⟩ : ∃ r, rest n ((x : Int) - (v : Int)) = r := ⟨_, rfl⟩
            rw [hr] at hE HRr hrl
            have hr64 : min r 64 = r := by omega
            obtain ⟨Y, hY⟩ : ∃ Y, bits .and .i64 ((b : Int) / 2 ^ r) 1 = Y := ⟨_, rfl⟩
            rw [hY] at hE
            have y1 : IntKind.i64.wrap (0 - Y) = 0 - Y := IntWalk.i64_in _ ⟨by omega, by omega⟩
            have y2 : wrap64 (0 - Y) = 0 - Y := IntWalk.wrap64_in _ ⟨by omega, by omega⟩
            obtain ⟨Z, hZ⟩ : ∃ Z, 0 - Y = Z := ⟨_, rfl⟩
            have hZ' : -Y = Z := by omega
            rw [hZ] at y1 y2 hE
            have y3 := y1
            have y4 := y2
            rw [← hZ, show (0 : Int) - Y = -Y by omega, hZ'] at y3 y4
            rw [← hZ] at y1 y2
            rw [hZ] at y1 y2
            have HE := Lib.hid hE
            clear hE hxv hr hei
            go_wp2_with fail
            refine (HSi.out _).mono ?_
            rintro e w2 ⟨rfl, rfl⟩
            go_wp2_with fail
            refine (HRr.out _).mono ?_
            rintro e w2 ⟨rfl, rfl⟩
            go_wp2_with (first | (at_builtin; refine wpList_append_own _ rfl _ _ 32 rfl h 3 i0 (.int .i64 0) 1 8 Try.underlying32 hi hz0 hz1 hz2 rfl (by decide) _ _ _ rfl ((tab_own HI2.out).alloc _) ⟨wr.heap.size, 0, none⟩ 1 1 [.int .i64 Z] rfl rfl ?c1 ?c2 ?c3 ?c4 ?c5 ?_))
            case c1 =>
              intro j u hj
              cases j with
              | zero => simp at hj; subst hj; simp [Addr.add]
              | succ j => simp at hj
            case c2 => intro u hu; simp at hu; subst hu; rfl
            case c3 => unfold maxLen; omega
            case c4 => omega
            case c5 => simp; omega
            · intro v' w1 hown' hgrow hiff
              have HO : Hid (IsInts w1 h v' (tabI (x + 1 - 1) (fun j => entT n b v (q : Int) (1 + j)))) := Lib.hid (by
                refine own_tab ?_
                have e := ints_snoc (x - 1) (fun j => entT n b v (q : Int) (1 + j))
                have e1 : entT n b v (q : Int) (1 + (x - 1)) = Z := by rw [show 1 + (x - 1) = x by omega]; exact HE.out
                rw [e1, show x - 1 + 1 = x by omega] at e
                rw [show x + 1 - 1 = x by omega, ← e]
                exact hown')
              have HBw := Lib.hid ((HB2.out.alloc HB2.out.size (.cells #[.int .i64 Z] 3)).grown hgrow (by have := HB2.out.size; simp; omega) (fun y eq => by have := ((tab_own HI2.out).lt y eq).1; omega))
              have HRw : Hid (Rws w1 w.heap.size A (v - 1) (n - 1) G C (fun i j => entT n b (1 + i) (q : Int) (1 + j))) := Lib.hid ((HR2.out.below ((Below.refl wr.heap.size wr).alloc (Nat.le_refl _) (.cells #[.int .i64 Z] 3))).grew hgrow (fun g hg => HAp.out g hg) (fun i hi => HLt.out i hi) (fun g hg => (World.ownsRow.lt (tab_own HI2.out) g hg).1))
              have HTh : Hid (v' ≠ .slice none 0 0) := Lib.hid hiff
              have HSz : Hid (h ≤ w1.heap.size) := Lib.hid (by have := hgrow.size; simp at this; omega)
              clear hown' hgrow hiff
              go_wp2
              go_roundw
              case rel => exact ⟨_, x + 1, rfl, by omega, by omega, by go_num, HO.out, HTh.out, HRw.out, HBw.out, HSz.out⟩
              case measure => simp [intOf]; omega
        · obtain rfl : x = n := by omega
          rcases HI2.out.shape with ⟨e, _⟩ | ⟨g, cap, ha, hg1, hg2, hg3⟩
          · exact absurd e HTh2.out
          rw [tabI_len] at ha
          subst ha
          have HIa := Lib.hid (IsInts.base (show IsInts (wr.alloc (.cells #[.slice (some ⟨g, 0, none⟩) (x - 1) cap] 32)) h (.slice (some ⟨g, 0, none⟩) (x - 1) cap) (tabI (x - 1) (fun j => entT x b v (q : Int) (1 + j))) from World.ownsRow.alloc HI2.out _) (show w.heap.size ≤ h from z0))
          have HRa := Lib.hid (HR2.out.below ((Below.refl wr.heap.size wr).alloc (Nat.le_refl _) (.cells #[.slice (some ⟨g, 0, none⟩) (x - 1) cap] 32)))
          go_wp2_with (first | (at_builtin; refine wpList_append_own _ rfl _ _ 51 rfl w.heap.size 32 i1 (.slice none 0 0) 1 24 Try.underlying51 gi gz0 gz1 gz2 rfl (by decide) _ _ _ rfl HRa.out.own ⟨wr.heap.size, 0, none⟩ 1 1 [.slice (some ⟨g, 0, none⟩) (x - 1) cap] rfl rfl ?c1 ?c2 ?c3 ?c4 ?c5 ?_))
          case c1 =>
            intro j u hj
            cases j with
            | zero => simp at hj; subst hj; simp [Addr.add]
            | succ j => simp at hj
          case c2 => intro u hu; simp at hu; subst hu; rfl
          case c3 => unfold maxLen; omega
          case c4 => omega
          case c5 => simp; omega
          · intro v' w1 hown' hgrow hiff
            have HRw := Lib.hid (HRa.out.snoc HIa.out (fun i hi => by have := HLt.out i hi; omega) (by rw [show v - 1 + 1 = v by omega]; exact hown') hgrow hiff (M' := fun i j => entT x b (1 + i) (q : Int) (1 + j)) (fun i j hi hj => by
              by_cases e : i = v - 1
              · rw [if_pos e, e, show 1 + (v - 1) = v by omega]
              · rw [if_neg e]))
            have HBw := Lib.hid ((HB2.out.alloc HB2.out.size (.cells #[.slice (some ⟨g, 0, none⟩) (x - 1) cap] 32)).grown hgrow (by have := HB2.out.size; simp; omega) (fun y eq => (World.ownsRow.lt HRa.out.own y eq).1))
            clear hown' hgrow hiff
            go_wp2
            go_roundw
            case rel => exact ⟨_, v + 1, _, _, rfl, by omega, by omega, by go_num, by rw [show v + 1 - 1 = (v - 1) + 1 by omega]; exact HRw.out, HBw.out⟩
            case measure => simp [intOf]; omega
    · obtain rfl : v = n := by omega
      obtain ⟨g, c, rfl⟩ := HR.out.shape
      have HG := Lib.hid HR.out.grid
      have z0 := HB.out.size
      go_wp2_with fail
      refine (HV.out g c G C _ HG.out z0).mono ?_
      rintro e w2 ⟨rfl, hb2⟩
      have HB2 := Lib.hid (HB.out.trans hb2)
      clear hb2
      go_wp2
      go_ret2
      exact ⟨rfl, HB2.out⟩
end Go.Proofs.Ytookciehnjnmnaa
