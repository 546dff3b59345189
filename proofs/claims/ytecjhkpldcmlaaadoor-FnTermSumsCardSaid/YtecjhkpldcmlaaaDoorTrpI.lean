/- Terms, the program's side: signs in front of tidy terms, pairs by rules. Written by gen142.py. -/
import Derived.Test.YtecjhkpldcmlaaaDoorTrpH
namespace Go.Proofs.YtecjhkpldcmlaaaDoor
open Go.RowKit Go.Shelf
set_option linter.unusedVariables false
attribute [local go_sem] Oper.semAt_some
theorem ta_em_em (v : Value) (W : World) : (Instr.typeAssert (.iface 106 v) 45 106 true).run Tryd.prog W = .ok (.tuple #[v, .bool true]) W := by kernel_rfl
theorem ta_em_pl (v : Value) (W : World) : (Instr.typeAssert (.iface 109 v) 45 106 true).run Tryd.prog W = .ok (.tuple #[.agg #[], .bool false]) W := by kernel_rfl
theorem ta_em_ot (v : Value) (W : World) : (Instr.typeAssert (.iface 152 v) 45 106 true).run Tryd.prog W = .ok (.tuple #[.agg #[], .bool false]) W := by kernel_rfl
theorem ta_em_tu (v : Value) (W : World) : (Instr.typeAssert (.iface 153 v) 45 106 true).run Tryd.prog W = .ok (.tuple #[.agg #[], .bool false]) W := by kernel_rfl
theorem ta_em_pa (v : Value) (W : World) : (Instr.typeAssert (.iface 111 v) 45 106 true).run Tryd.prog W = .ok (.tuple #[.agg #[], .bool false]) W := by kernel_rfl
theorem ta_pl_em (v : Value) (W : World) : (Instr.typeAssert (.iface 106 v) 45 109 true).run Tryd.prog W = .ok (.tuple #[.int .i64 0, .bool false]) W := by kernel_rfl
theorem ta_pl_pl (v : Value) (W : World) : (Instr.typeAssert (.iface 109 v) 45 109 true).run Tryd.prog W = .ok (.tuple #[v, .bool true]) W := by kernel_rfl
theorem ta_pl_ot (v : Value) (W : World) : (Instr.typeAssert (.iface 152 v) 45 109 true).run Tryd.prog W = .ok (.tuple #[.int .i64 0, .bool false]) W := by kernel_rfl
theorem ta_pl_tu (v : Value) (W : World) : (Instr.typeAssert (.iface 153 v) 45 109 true).run Tryd.prog W = .ok (.tuple #[.int .i64 0, .bool false]) W := by kernel_rfl
theorem ta_pl_pa (v : Value) (W : World) : (Instr.typeAssert (.iface 111 v) 45 109 true).run Tryd.prog W = .ok (.tuple #[.int .i64 0, .bool false]) W := by kernel_rfl
theorem ta_ot_em (v : Value) (W : World) : (Instr.typeAssert (.iface 106 v) 45 152 true).run Tryd.prog W = .ok (.tuple #[.agg #[.nilIface], .bool false]) W := by kernel_rfl
theorem ta_ot_pl (v : Value) (W : World) : (Instr.typeAssert (.iface 109 v) 45 152 true).run Tryd.prog W = .ok (.tuple #[.agg #[.nilIface], .bool false]) W := by kernel_rfl
theorem ta_ot_ot (v : Value) (W : World) : (Instr.typeAssert (.iface 152 v) 45 152 true).run Tryd.prog W = .ok (.tuple #[v, .bool true]) W := by kernel_rfl
theorem ta_ot_tu (v : Value) (W : World) : (Instr.typeAssert (.iface 153 v) 45 152 true).run Tryd.prog W = .ok (.tuple #[.agg #[.nilIface], .bool false]) W := by kernel_rfl
theorem ta_ot_pa (v : Value) (W : World) : (Instr.typeAssert (.iface 111 v) 45 152 true).run Tryd.prog W = .ok (.tuple #[.agg #[.nilIface], .bool false]) W := by kernel_rfl
theorem ta_tu_em (v : Value) (W : World) : (Instr.typeAssert (.iface 106 v) 45 153 true).run Tryd.prog W = .ok (.tuple #[.agg #[.nilIface], .bool false]) W := by kernel_rfl
theorem ta_tu_pl (v : Value) (W : World) : (Instr.typeAssert (.iface 109 v) 45 153 true).run Tryd.prog W = .ok (.tuple #[.agg #[.nilIface], .bool false]) W := by kernel_rfl
theorem ta_tu_ot (v : Value) (W : World) : (Instr.typeAssert (.iface 152 v) 45 153 true).run Tryd.prog W = .ok (.tuple #[.agg #[.nilIface], .bool false]) W := by kernel_rfl
theorem ta_tu_tu (v : Value) (W : World) : (Instr.typeAssert (.iface 153 v) 45 153 true).run Tryd.prog W = .ok (.tuple #[v, .bool true]) W := by kernel_rfl
theorem ta_tu_pa (v : Value) (W : World) : (Instr.typeAssert (.iface 111 v) 45 153 true).run Tryd.prog W = .ok (.tuple #[.agg #[.nilIface], .bool false]) W := by kernel_rfl
attribute [local go_sem] ta_em_em ta_em_pl ta_em_ot ta_em_tu ta_em_pa ta_pl_em ta_pl_pl ta_pl_ot ta_pl_tu ta_pl_pa ta_ot_em ta_ot_pl ta_ot_ot ta_ot_tu ta_ot_pa ta_tu_em ta_tu_pl ta_tu_ot ta_tu_tu ta_tu_pa
theorem tyT_pl (c : UInt8) (h : c ≠ 101) : tyT (.leaf c) = 109 := if_neg h
theorem payT_pl (c : UInt8) (h : c ≠ 101) : payT (.leaf c) = .int .i64 (placeB c) := if_neg h
theorem tyT_tu (c : UInt8) (a : Tm) (h : c ≠ 33) : tyT (.one c a) = 153 := if_neg h
set_option maxHeartbeats 1000000 in
/-- ! in front of a term. -/
theorem othersOf_any (t : Tm) (w : World) : Calls Tryd.prog 156 #[.iface (tyT t) (payT t)] w fun e w' => e = .returned (.iface (tyT (front33 t)) (payT (front33 t))) ∧ Below w.heap.size w w' := by
  cases t with
  | leaf c =>
    by_cases hc : c = 101
    · subst hc
      show Calls Tryd.prog 156 #[.iface 106 (.agg #[])] w fun e w' => e = .returned (.iface 152 (.agg #[.iface 106 (.agg #[])])) ∧ Below w.heap.size w w'
      go_enter Tryd.func156, Tryd.ntmps156
      go_wp2
      go_ret
      exact ⟨rfl, Below.refl _ _⟩
    · show Calls Tryd.prog 156 #[.iface (tyT (.leaf c)) (payT (.leaf c))] w fun e w' => e = .returned (.iface 152 (.agg #[.iface (tyT (.leaf c)) (payT (.leaf c))])) ∧ Below w.heap.size w w'
      rw [tyT_pl c hc, payT_pl c hc]
      generalize placeB c = p
      go_enter Tryd.func156, Tryd.ntmps156
      go_wp2
      go_ret
      exact ⟨rfl, Below.refl _ _⟩
  | one c b =>
    by_cases hc : c = 33
    · subst hc
      show Calls Tryd.prog 156 #[.iface 152 (.agg #[.iface (tyT b) (payT b)])] w fun e w' => e = .returned (.iface (tyT b) (payT b)) ∧ Below w.heap.size w w'
      generalize tyT b = T
      generalize payT b = p
      go_enter Tryd.func156, Tryd.ntmps156
      go_wp2
      go_ret
      exact ⟨rfl, (Below.refl _ _).alloc (Nat.le_refl _) _⟩
    · have hV : front33 (.one c b) = .one 33 (.one c b) := by show (if c = 33 then b else Tm.one 33 (.one c b)) = _; rw [if_neg hc]
      rw [hV]
      show Calls Tryd.prog 156 #[.iface (tyT (.one c b)) (.agg #[.iface (tyT b) (payT b)])] w fun e w' => e = .returned (.iface 152 (.agg #[.iface (tyT (.one c b)) (.agg #[.iface (tyT b) (payT b)])])) ∧ Below w.heap.size w w'
      rw [tyT_tu c b hc]
      generalize tyT b = T
      generalize payT b = p
      go_enter Tryd.func156, Tryd.ntmps156
      go_wp2
      go_ret
      exact ⟨rfl, Below.refl _ _⟩
  | two c a d =>
    show Calls Tryd.prog 156 #[.iface 111 (.agg #[.int .u8 (c.toNat : Int), .iface (tyT a) (payT a), .iface (tyT d) (payT d)])] w fun e w' => e = .returned (.iface 152 (.agg #[.iface 111 (.agg #[.int .u8 (c.toNat : Int), .iface (tyT a) (payT a), .iface (tyT d) (payT d)])])) ∧ Below w.heap.size w w'
    generalize tyT a = T
    generalize payT a = p
    generalize tyT d = T2
    generalize payT d = p2
    generalize c.toNat = x
    go_enter Tryd.func156, Tryd.ntmps156
    go_wp2
    go_ret
    exact ⟨rfl, Below.refl _ _⟩
theorem tt_neg (k : Nat) (h : k < 4096) : IntKind.i64.wrap (-(k : Int)) = -(k : Int) ∧ wrap64 (-(k : Int)) = -(k : Int) := ⟨IntWalk.i64_in _ ⟨by omega, by omega⟩, IntWalk.wrap64_in _ ⟨by omega, by omega⟩⟩
set_option maxHeartbeats 2000000 in
/-- - in front of a term. -/
theorem turnedTidy_any (n : Nat) (h1 : 1 ≤ n) (h2 : n ≤ 12) (t : Tm) (ho : okT n t = true) (w : World) : Calls Tryd.prog 161 #[.agg #[.int .i64 (n : Int)], .iface (tyT t) (payT t)] w fun e w' => e = .returned (.iface (tyT (front45 n t)) (payT (front45 n t))) ∧ Below w.heap.size w w' := by
  have hB0 : Below w.heap.size w (w.alloc (.cells #[.int .i64 (n : Int)] 43)) := (Below.refl _ _).alloc (Nat.le_refl _) _
  have c0 := (Boxed.new w 43 (.int .i64 (n : Int))).cell
  induction t generalizing w with
  | leaf c =>
    by_cases hc : c = 101
    · subst hc
      show Calls Tryd.prog 161 #[.agg #[.int .i64 (n : Int)], .iface 106 (.agg #[])] w fun e w' => e = .returned (.iface 106 (.agg #[])) ∧ Below w.heap.size w w'
      go_enter Tryd.func161, Tryd.ntmps161
      go_wp2
      go_ret
      exact ⟨rfl, hB0.alloc hB0.size _⟩
    · have hl := leaf_is n c ho
      obtain ⟨p0, p1⟩ := (hl.resolve_left hc).2
      have hV : front45 n (.leaf c) = .leaf (turnB n c) := rfl
      have hu : turnB n c = signB (neg n (placeB c).toNat) := by unfold turnB; rw [if_pos p0]
      obtain ⟨p, hp⟩ : ∃ p : Nat, placeB c = (p : Int) := ⟨(placeB c).toNat, by omega⟩
      rw [hV, hu, tyT_pl c hc, payT_pl c hc, hp, Int.toNat_natCast]
      have hs := sign_place (neg n p) (by have := neg_lt n p h1; omega)
      rw [tyT_pl _ hs.2, payT_pl _ hs.2, hs.1]
      have HR' := fun W => rest_any n (-(p : Int)) W h1 h2 (by omega)
      rw [show rest n (-(p : Int)) = neg n p from rfl] at HR'
      have HR := Lib.hid HR'
      obtain ⟨u1, u2⟩ := tt_neg p (by omega)
      clear hs HR' hV hu hp p0 p1 hl ho hc
      generalize neg n p = m at *
      go_enter Tryd.func161, Tryd.ntmps161
      go_wp2_with fail
      refine (HR.out _).mono ?_
      rintro e w1 ⟨rfl, hb1⟩
      go_wp2
      go_ret
      exact ⟨rfl, hB0.trans (hb1.mono hB0.size)⟩
  | one c b ih =>
    have h' : (isFront c && okT n b) = true := ho
    rw [Bool.and_eq_true] at h'
    have hfr := h'.1
    unfold isFront at hfr
    rw [Bool.or_eq_true, beq_iff_eq, beq_iff_eq] at hfr
    rcases hfr with rfl | rfl
    · have HI := Lib.hid (fun W => ih h'.2 W ((Below.refl _ _).alloc (Nat.le_refl _) _) (Boxed.new W 43 (.int .i64 (n : Int))).cell)
      have HO := Lib.hid (fun W => othersOf_any (front45 n b) W)
      have HV : Hid (front45 n (.one 33 b) = front33 (front45 n b)) := Lib.hid rfl
      rw [HV.out]
      show Calls Tryd.prog 161 #[.agg #[.int .i64 (n : Int)], .iface 152 (.agg #[.iface (tyT b) (payT b)])] w _
      clear ih h' ho HV
      generalize tyT (front33 (front45 n b)) = T3 at *
      generalize payT (front33 (front45 n b)) = p3 at *
      generalize tyT (front45 n b) = T2 at *
      generalize payT (front45 n b) = p2 at *
      generalize tyT b = T at *
      generalize payT b = p at *
      have hB1 := hB0.alloc hB0.size (.cells #[.iface T p] 152)
      have c1 := ((Boxed.new w 43 (.int .i64 (n : Int))).alloc (.cells #[.iface T p] 152)).cell
      go_enter Tryd.func161, Tryd.ntmps161
      go_wp2_with fail
      refine (HI.out _).mono ?_
      rintro e w1 ⟨rfl, hb1⟩
      go_wp2_with fail
      refine (HO.out _).mono ?_
      rintro e w2 ⟨rfl, hb2⟩
      go_wp2
      go_ret
      have hB2 := hB1.trans (hb1.mono hB1.size)
      exact ⟨rfl, hB2.trans (hb2.mono hB2.size)⟩
    · have HV : Hid (front45 n (.one 45 b) = b) := Lib.hid rfl
      rw [HV.out]
      show Calls Tryd.prog 161 #[.agg #[.int .i64 (n : Int)], .iface 153 (.agg #[.iface (tyT b) (payT b)])] w _
      clear ih h' ho HV
      generalize tyT b = T at *
      generalize payT b = p at *
      go_enter Tryd.func161, Tryd.ntmps161
      go_wp2
      go_ret
      exact ⟨rfl, hB0.alloc hB0.size _⟩
  | two c a d _ _ =>
    show Calls Tryd.prog 161 #[.agg #[.int .i64 (n : Int)], .iface 111 (.agg #[.int .u8 (c.toNat : Int), .iface (tyT a) (payT a), .iface (tyT d) (payT d)])] w fun e w' => e = .returned (.iface 153 (.agg #[.iface 111 (.agg #[.int .u8 (c.toNat : Int), .iface (tyT a) (payT a), .iface (tyT d) (payT d)])])) ∧ Below w.heap.size w w'
    generalize tyT a = T
    generalize payT a = p
    generalize tyT d = T2
    generalize payT d = p2
    generalize c.toNat = x
    go_enter Tryd.func161, Tryd.ntmps161
    go_wp2
    go_ret
    exact ⟨rfl, hB0⟩
/-- The text of the idle term. -/
def idleB (c : UInt8) : ByteArray := if c = 43 then ⟨#[101]⟩ else if c = 46 then ⟨#[48]⟩ else ⟨#[]⟩
theorem idle_43 (T T2 : TypeId) (p p2 : Value) (w : World) : Calls Tryd.prog 133 #[.agg #[.int .u8 43, .iface T p, .iface T2 p2]] w fun e w' => e = .returned (.string ⟨#[101]⟩) ∧ Below w.heap.size w w' := by
  have hB0 : Below w.heap.size w (w.alloc (.cells #[.int .u8 43, .iface T p, .iface T2 p2] 111)) := (Below.refl _ _).alloc (Nat.le_refl _) _
  go_enter Tryd.func133, Tryd.ntmps133
  go_wp2
  go_ret
  exact ⟨rfl, hB0⟩
theorem idle_38 (T T2 : TypeId) (p p2 : Value) (w : World) : Calls Tryd.prog 133 #[.agg #[.int .u8 38, .iface T p, .iface T2 p2]] w fun e w' => e = .returned (.string ⟨#[]⟩) ∧ Below w.heap.size w w' := by
  have hB0 : Below w.heap.size w (w.alloc (.cells #[.int .u8 38, .iface T p, .iface T2 p2] 111)) := (Below.refl _ _).alloc (Nat.le_refl _) _
  go_enter Tryd.func133, Tryd.ntmps133
  go_wp2
  go_ret
  exact ⟨rfl, hB0⟩
theorem idle_46 (T T2 : TypeId) (p p2 : Value) (w : World) : Calls Tryd.prog 133 #[.agg #[.int .u8 46, .iface T p, .iface T2 p2]] w fun e w' => e = .returned (.string ⟨#[48]⟩) ∧ Below w.heap.size w w' := by
  have hB0 : Below w.heap.size w (w.alloc (.cells #[.int .u8 46, .iface T p, .iface T2 p2] 111)) := (Below.refl _ _).alloc (Nat.le_refl _) _
  go_enter Tryd.func133, Tryd.ntmps133
  go_wp2
  go_ret
  exact ⟨rfl, hB0⟩
end Go.Proofs.YtecjhkpldcmlaaaDoor
