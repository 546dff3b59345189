/- Terms: the model's trees in memory; places and signs. -/
import Derived.Test.YtecjhkpldcmlaaaDoorTrmO
import Derived.Test.YtecjhkpldcmlaaaDoorTrmB
import Derived.Test.YtecjhkpldcmlaaaDoorByt
import Derived.Test.YtecjhkpldcmlaaaDoorGC
import Derived.Test.YtecjhkpldcmlaaaDoorTake0
namespace Go.Proofs.YtecjhkpldcmlaaaDoor
open Go.RowKit Go.Shelf
set_option linter.unusedVariables false
attribute [local go_sem] Oper.semAt_some
/-- v is the tree t, its parts in memory. -/
def IsTm (W : World) : Tm → Value → Prop
  | .leaf c, v => ∃ A cap, v = .agg #[.int .u8 (c.toNat : Int), .slice A 0 cap]
  | .one c a, v => ∃ b x y, v = .agg #[.int .u8 (c.toNat : Int), .slice (some ⟨b, 0, none⟩) 1 1] ∧ W.cell? ⟨b, 0, none⟩ = some x ∧ W.cell? ⟨b, 1, none⟩ = some y ∧ IsTm W a (.agg #[x, y])
  | .two c a d, v => ∃ b x y z u, v = .agg #[.int .u8 (c.toNat : Int), .slice (some ⟨b, 0, none⟩) 2 2] ∧ W.cell? ⟨b, 0, none⟩ = some x ∧ W.cell? ⟨b, 1, none⟩ = some y ∧ W.cell? ⟨b, 2, none⟩ = some z ∧ W.cell? ⟨b, 3, none⟩ = some u ∧ IsTm W a (.agg #[x, y]) ∧ IsTm W d (.agg #[z, u])
def signT : Tm → UInt8
  | .leaf c => c
  | .one c _ => c
  | .two c _ _ => c
theorem IsTm.agg {W : World} {t : Tm} {v : Value} (h : IsTm W t v) : ∃ A l cap, v = .agg #[.int .u8 ((signT t).toNat : Int), .slice A l cap] := by
  cases t with
  | leaf c => obtain ⟨A, cap, e⟩ := h; exact ⟨A, 0, cap, e⟩
  | one c a => obtain ⟨b, x, y, e, _⟩ := h; exact ⟨_, 1, 1, e⟩
  | two c a d => obtain ⟨b, x, y, z, u, e, _⟩ := h; exact ⟨_, 2, 2, e⟩
theorem IsTm.below {W W' : World} (hb : Below W.heap.size W W') (t : Tm) : ∀ {v : Value}, IsTm W t v → IsTm W' t v := by
  have hc : ∀ {b i : Nat} {x : Value}, W.cell? ⟨b, i, none⟩ = some x → W'.cell? ⟨b, i, none⟩ = some x := fun {b i x} h =>
    (hb.cell (p := ⟨b, i, none⟩) (World.block_lt_of_cell? W _ h)).trans h
  induction t with
  | leaf c => intro v h; exact h
  | one c a ih =>
    rintro v ⟨b, x, y, e, h0, h1, h2⟩
    exact ⟨b, x, y, e, hc h0, hc h1, ih h2⟩
  | two c a d iha ihd =>
    rintro v ⟨b, x, y, z, u, e, h0, h1, h2, h3, h4, h5⟩
    exact ⟨b, x, y, z, u, e, hc h0, hc h1, hc h2, hc h3, iha h4, ihd h5⟩
theorem agg2 {x y p q : Value} (h : Value.agg #[x, y] = .agg #[p, q]) : x = p ∧ y = q := by
  injection h with h
  injection h with h
  injection h with h1 h
  injection h with h2 _
  exact ⟨h1, h2⟩
theorem IsTm.openOne {W : World} {c : UInt8} {a : Tm} {v : Value} (h : IsTm W (.one c a) v) : ∃ b z A l q, v = .agg #[.int .u8 (c.toNat : Int), .slice (some ⟨b, 0, none⟩) 1 1] ∧ b < W.heap.size ∧ W.cell? ⟨b, 0, none⟩ = some (.int .u8 z) ∧ W.cell? ⟨b, 1, none⟩ = some (.slice A l q) ∧ IsTm W a (.agg #[.int .u8 z, .slice A l q]) := by
  obtain ⟨b, x, y, e, h0, h1, h2⟩ := h
  obtain ⟨A, l, q, e2⟩ := h2.agg
  obtain ⟨rfl, rfl⟩ := agg2 e2
  exact ⟨b, _, A, l, q, e, World.block_lt_of_cell? W _ h0, h0, h1, h2⟩
theorem IsTm.openTwo {W : World} {c : UInt8} {a d : Tm} {v : Value} (h : IsTm W (.two c a d) v) : ∃ b z A l q z2 A2 l2 q2, v = .agg #[.int .u8 (c.toNat : Int), .slice (some ⟨b, 0, none⟩) 2 2] ∧ b < W.heap.size ∧ W.cell? ⟨b, 0, none⟩ = some (.int .u8 z) ∧ W.cell? ⟨b, 1, none⟩ = some (.slice A l q) ∧ W.cell? ⟨b, 2, none⟩ = some (.int .u8 z2) ∧ W.cell? ⟨b, 3, none⟩ = some (.slice A2 l2 q2) ∧ IsTm W a (.agg #[.int .u8 z, .slice A l q]) ∧ IsTm W d (.agg #[.int .u8 z2, .slice A2 l2 q2]) := by
  obtain ⟨b, x, y, z, u, e, h0, h1, h2, h3, h4, h5⟩ := h
  obtain ⟨A, l, q, e2⟩ := h4.agg
  obtain ⟨rfl, rfl⟩ := agg2 e2
  obtain ⟨A2, l2, q2, e3⟩ := h5.agg
  obtain ⟨rfl, rfl⟩ := agg2 e3
  exact ⟨b, _, A, l, q, _, A2, l2, q2, e, World.block_lt_of_cell? W _ h0, h0, h1, h2, h3, h4, h5⟩
/-- What is known of the box of a term and of the cells of its parts behind anything that only makes memory. -/
theorem box_facts (w W0 : World) (t : TypeId) (u v : Value) (h : w.alloc (.cells #[u, v] t) = W0) (W : World) (hb : Below W0.heap.size W0 W) : W.cell? ⟨w.heap.size, 0, none⟩ = some u ∧ W.cell? ⟨w.heap.size, 1, none⟩ = some v ∧ Below w.heap.size w W := by
  subst h
  have hD := Duo.new w t u v
  have h2 : Below w.heap.size w W := ((Below.refl _ w).alloc (Nat.le_refl _) (.cells #[u, v] t)).trans (hb.mono (by simp))
  exact ⟨(hb.cell (p := ⟨w.heap.size, 0, none⟩) hD.lt).trans hD.cell0, (hb.cell (p := ⟨w.heap.size, 1, none⟩) hD.lt).trans hD.cell1, h2⟩
theorem kid_cell {w W : World} {b i : Nat} {x : Value} (h : Below w.heap.size w W) (hb : b < w.heap.size) (hc : w.cell? ⟨b, i, none⟩ = some x) : W.cell? ⟨b, i, none⟩ = some x := (h.cell (p := ⟨b, i, none⟩) hb).trans hc
/-- The place of a sign, by its number. -/
def placeX (x : Nat) : Int := if 48 ≤ x ∧ x ≤ 57 then (x : Int) - 48 else if x = 120 then 10 else if x = 121 then 11 else -1
theorem u8_eq (c : UInt8) (k : Nat) (hk : k < 256) : c = UInt8.ofNat k ↔ c.toNat = k := by
  constructor
  · rintro rfl
    rw [UInt8.toNat_ofNat']
    omega
  · intro h
    rw [← h, UInt8.ofNat_toNat]
theorem place_x (c : UInt8) : placeB c = placeX c.toNat := by
  unfold placeB placeX
  have a := u8_eq c 120 (by omega)
  have b := u8_eq c 121 (by omega)
  by_cases h0 : 48 ≤ c.toNat ∧ c.toNat ≤ 57
  · rw [if_pos h0, if_pos h0]
  · rw [if_neg h0, if_neg h0]
    by_cases h1 : c.toNat = 120
    · rw [if_pos h1, if_pos (show c = 120 from a.2 h1)]
    · rw [if_neg h1, if_neg (show ¬ c = 120 from fun e => h1 (a.1 e))]
      by_cases h2 : c.toNat = 121
      · rw [if_pos h2, if_pos (show c = 121 from b.2 h2)]
      · rw [if_neg h2, if_neg (show ¬ c = 121 from fun e => h2 (b.1 e))]
theorem u8_int (x : Nat) (h1 : 48 ≤ x) (h2 : x ≤ 57) : IntKind.u8.wrap ((x : Int) - 48) = (x : Int) - 48 ∧ IntKind.i64.wrap ((x : Int) - 48) = (x : Int) - 48 ∧ wrap64 ((x : Int) - 48) = (x : Int) - 48 :=
  ⟨by rw [IntKind.wrap_u8]; omega, IntWalk.i64_in _ ⟨by omega, by omega⟩, IntWalk.wrap64_in _ ⟨by omega, by omega⟩⟩
/-- The place of a sign. -/
theorem l11Place_any (c : UInt8) (w : World) :
    Calls Tryd.prog 60 #[.int .u8 (c.toNat : Int)] w fun e w' => e = .returned (.int .i64 (placeB c)) ∧ w = w' := by
  rw [place_x]
  have hx8 := c.toNat_lt
  generalize c.toNat = x at *
  by_cases h48 : 48 ≤ x
  · have a1 : decide ((48 : Int) ≤ (x : Int)) = true := decide_eq_true (by omega)
    have a2 : (48 : Int) ≤ (x : Int) := by omega
    by_cases h57 : x ≤ 57
    · have b1 : decide ((x : Int) ≤ 57) = true := decide_eq_true (by omega)
      have b2 : (x : Int) ≤ 57 := by omega
      have HV : Hid (placeX x = (x : Int) - 48) := Lib.hid (by unfold placeX; rw [if_pos ⟨h48, h57⟩])
      obtain ⟨c1, c2, c3⟩ := u8_int x h48 h57
      go_enter Tryd.func60, Tryd.ntmps60
      go_wp2
      go_ret
      exact ⟨ret_int HV.out.symm, rfl⟩
    · have b1 : decide ((x : Int) ≤ 57) = false := decide_eq_false (by omega)
      have b2 : ¬ (x : Int) ≤ 57 := by omega
      by_cases h120 : x = 120
      · subst h120
        go_enter Tryd.func60, Tryd.ntmps60
        go_wp2
        go_ret
        exact ⟨rfl, rfl⟩
      · by_cases h121 : x = 121
        · subst h121
          go_enter Tryd.func60, Tryd.ntmps60
          go_wp2
          go_ret
          exact ⟨rfl, rfl⟩
        · have HV : Hid (placeX x = -1) := Lib.hid (by unfold placeX; rw [if_neg (by omega), if_neg h120, if_neg h121])
          have d1 : ((x : Int) == 120) = false := by simp; omega
          have d2 : ((x : Int) == 121) = false := by simp; omega
          clear h120 h121
          go_enter Tryd.func60, Tryd.ntmps60
          go_wp2
          go_ret
          exact ⟨ret_int HV.out.symm, rfl⟩
  · have a1 : decide ((48 : Int) ≤ (x : Int)) = false := decide_eq_false (by omega)
    have a2 : ¬ (48 : Int) ≤ (x : Int) := by omega
    have HV : Hid (placeX x = -1) := Lib.hid (by unfold placeX; rw [if_neg (by omega), if_neg (by omega), if_neg (by omega)])
    have d1 : ((x : Int) == 120) = false := by simp; omega
    have d2 : ((x : Int) == 121) = false := by simp; omega
    go_enter Tryd.func60, Tryd.ntmps60
    go_wp2
    go_ret
    exact ⟨ret_int HV.out.symm, rfl⟩
/-- The sign of a place. -/
theorem l11Sign_any (v : Nat) (hv : v < 12) (w : World) :
    Calls Tryd.prog 61 #[.int .i64 (v : Int)] w fun e w' => e = .returned (.int .u8 ((signB v).toNat : Int)) ∧ w = w' := by
  obtain rfl | rfl | rfl | rfl | rfl | rfl | rfl | rfl | rfl | rfl | rfl | rfl : v = 0 ∨ v = 1 ∨ v = 2 ∨ v = 3 ∨ v = 4 ∨ v = 5 ∨ v = 6 ∨ v = 7 ∨ v = 8 ∨ v = 9 ∨ v = 10 ∨ v = 11 := by omega
  all_goals
    go_enter Tryd.func61, Tryd.ntmps61
    go_wp2
    go_ret
    exact ⟨rfl, rfl⟩
/-- A term of one sign. -/
theorem l11Leaf_any (c : UInt8) (w : World) :
    Calls Tryd.prog 65 #[.int .u8 (c.toNat : Int)] w fun e w' => (∃ A cap, e = .returned (.agg #[.int .u8 (c.toNat : Int), .slice A 0 cap])) ∧ Below w.heap.size w w' := by
  generalize c.toNat = x at *
  go_enter Tryd.func65, Tryd.ntmps65
  go_wp2
  exact bodyPost_ret (v := .agg #[.int .u8 (x : Int), .slice (some ⟨w.heap.size + 1, 0, none⟩) 0 0]) (by simp [results, Tryd.results65, go_sem]) rfl ⟨⟨_, _, rfl⟩, ((Below.refl _ _).alloc (Nat.le_refl _) _).alloc (by simp) _⟩
end Go.Proofs.YtecjhkpldcmlaaaDoor
