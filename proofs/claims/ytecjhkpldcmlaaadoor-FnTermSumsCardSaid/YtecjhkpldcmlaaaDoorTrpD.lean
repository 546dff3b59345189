/- Terms, the program's side: the term of a ring that a text is. -/
import Derived.Test.YtecjhkpldcmlaaaDoorTrpC
namespace Go.Proofs.YtecjhkpldcmlaaaDoor
open Go.RowKit Go.Shelf
set_option linter.unusedVariables false
attribute [local go_sem] Oper.semAt_some
theorem box_bel {W W' : World} {B N : Nat} {t : TypeId} {v : Value} (h : Boxed W B t v) (hN : B < N) (hb : Below N W W') : Boxed W' B t v := (hb.block B hN).trans h
theorem box_asd {W W' : World} {B T : Nat} {t : TypeId} {v : Value} (h : Boxed W B t v) (hT : B ≠ T) (hb : Aside T W W') : Boxed W' B t v := hb.box h hT
/-- What termOf tells. -/
def TermOfPost (n : Int) (s : ByteArray) (w : World) (e : Ending) (w' : World) : Prop :=
  Below w.heap.size w w' ∧ ((termO n s.toList = none ∧ ∃ r, e = .returned (.tuple #[.agg #[.int .i64 r], .nilIface, .bool false])) ∨
    ∃ t, termO n s.toList = some t ∧ e = .returned (.tuple #[.agg #[.int .i64 n], .iface (tyT t) (payT t), .bool true]))
theorem ring_ret {w Wx : World} {u : Value} (hB : Below w.heap.size w Wx) (hD : Boxed Wx w.heap.size 43 u) (x : Value) :
    (Wx.frozen? ⟨w.heap.size, 0, none⟩ = false ∧ Wx.cell? ⟨w.heap.size, 0, none⟩ = some u) ∧ (Wx.setCell ⟨w.heap.size, 0, none⟩ x).cell? ⟨w.heap.size, 0, none⟩ = some x ∧ Below w.heap.size w (Wx.setCell ⟨w.heap.size, 0, none⟩ x) :=
  ⟨⟨hD.frozen, hD.cell⟩, (hD.set x).cell, hB.setCell (p := ⟨w.heap.size, 0, none⟩) (Nat.le_refl _) x⟩
set_option maxHeartbeats 4000000 in
theorem termOf_any (n : Int) (s : ByteArray) (w : World) (hE : ErrVar w) (hsz : s.size ≤ 1048576) : Calls Tryd.prog 37 #[.int .i64 n, .string s] w (TermOfPost n s w) := by
  have hB0 : Below w.heap.size w (w.alloc (.cells #[.int .i64 0] 43)) := (Below.refl _ _).alloc (Nat.le_refl _) _
  have hD0 := Boxed.new w 43 (.int .i64 0)
  by_cases hn : 1 ≤ n ∧ n ≤ 12
  · obtain ⟨m, rfl⟩ : ∃ m : Nat, n = (m : Int) := ⟨n.toNat, by omega⟩
    have h1 : 1 ≤ m := by omega
    have h2 : m ≤ 12 := by omega
    have HR := Lib.hid (fun W => ringOf_nil m W h1 h2)
    have HW := Lib.hid (fun W => wholeTerm_any m s W h1 h2 hsz)
    have HE := Lib.hid hE
    clear hn h1 h2 hsz hE
    go_enter Tryd.func37, Tryd.ntmps37
    go_wp2_with fail
    refine (HR.out _).mono ?_
    rintro e w1 ⟨rfl, hb1⟩
    have hB1 := hB0.trans (hb1.mono hB0.size)
    have hD1 := box_bel hD0 hD0.lt hb1
    have hB2 := hB1.alloc hB1.size (.cells #[.int .i64 (m : Int)] 43)
    have hD2 := hD1.alloc (.cells #[.int .i64 (m : Int)] 43)
    have hM2 := Boxed.new w1 43 (.int .i64 (m : Int))
    have hl1 := hD1.lt
    have HL1 := Lib.hid hl1
    clear hl1
    go_wp2_with fail
    refine (HW.out _).mono ?_
    rintro e w3 ⟨hb3, hr⟩
    have hB3 := hB2.trans (hb3.mono hB2.size)
    have hD3 := box_bel hD2 hD2.lt hb3
    have hM3 := box_bel hM2 hM2.lt hb3
    have hB4 := hB3.alloc hB3.size (.cells #[.int .i64 0] 85)
    have hD4 := hD3.alloc (.cells #[.int .i64 0] 85)
    have hM4 := hM3.alloc (.cells #[.int .i64 0] 85)
    have hT4 := Boxed.new w3 85 (.int .i64 0)
    have HE4 := Lib.hid (HE.out.below (Nat.le_refl _) hB4)
    have HL3 : Hid (w.heap.size < w3.heap.size ∧ w1.heap.size < w3.heap.size) := Lib.hid ⟨hD3.lt, hM3.lt⟩
    rcases hr with ⟨hno, j, rfl⟩ | ⟨t, hyes, rfl⟩
    · have HV := Lib.hid hno
      have HA := Lib.hid (as_hit j w3.heap.size (.int .i64 0) _ HE4.out hT4.cell hT4.frozen)
      clear hno
      go_wp2_with fail
      refine HA.out.mono ?_
      rintro e w5 ⟨rfl, hA5⟩
      have hB5 : Below w.heap.size w w5 := hB4.trans (hA5.below (Nat.le_of_lt HL3.out.1) hB4.size)
      have hD5 := box_asd hD4 (Nat.ne_of_lt HL3.out.1) hA5
      obtain ⟨⟨f0, g0⟩, r0, hBz⟩ := ring_ret hB5 hD5 (.int .i64 0)
      clear hB0 hD0 hb1 hB1 hD1 hB2 hD2 hM2 hb3 hB3 hD3 hM3 hB4 hD4 hM4 hT4 hA5 hB5 hD5
      go_wp2
      exact bodyPost_ret (v := .tuple #[.agg #[.int .i64 0], .nilIface, .bool false]) (by simp [results, Tryd.results37, go_sem, r0]) rfl ⟨hBz, .inl ⟨HV.out, 0, rfl⟩⟩
    · have HV := Lib.hid hyes
      obtain ⟨T, hT⟩ : ∃ T, tyT t = T := ⟨_, rfl⟩
      obtain ⟨p, hp⟩ : ∃ p, payT t = p := ⟨_, rfl⟩
      have HTp := Lib.hid (And.intro hT hp)
      have HA := Lib.hid (fun x W => as_nil x W)
      rw [hT, hp]
      clear hT hp hyes
      obtain ⟨⟨f0, g0⟩, r0, hBz⟩ := ring_ret hB4 hD4 (.int .i64 (m : Int))
      have q0 := hM4.cell
      clear hB0 hD0 hb1 hB1 hD1 hB2 hD2 hM2 hb3 hB3 hD3 hM3 hB4 hD4 hM4 hT4
      go_wp2_with fail
      refine (HA.out _ _).mono ?_
      rintro e w5 ⟨rfl, rfl⟩
      go_wp2
      exact bodyPost_ret (v := .tuple #[.agg #[.int .i64 (m : Int)], .iface T p, .bool true]) (by simp [results, Tryd.results37, go_sem, r0]) rfl ⟨hBz, .inr ⟨t, HV.out, by rw [HTp.out.1, HTp.out.2]⟩⟩
  · have HR := Lib.hid (fun W => ringOf_out n (.slice none 0 0) W hn)
    have HV := Lib.hid (whole_out n s (fun h => hn h.1))
    clear hn hsz
    go_enter Tryd.func37, Tryd.ntmps37
    go_wp2_with fail
    refine (HR.out _).mono ?_
    rintro e w1 ⟨rfl, hb1⟩
    have hB1 := hB0.trans (hb1.mono hB0.size)
    have hD1 := box_bel hD0 hD0.lt hb1
    have hB2 := hB1.alloc hB1.size (.cells #[.int .i64 0] 43)
    have hD2 := hD1.alloc (.cells #[.int .i64 0] 43)
    obtain ⟨⟨f0, g0⟩, r0, hBz⟩ := ring_ret hB2 hD2 (.int .i64 0)
    clear hB0 hD0 hb1 hB1 hD1 hB2 hD2
    go_wp2
    exact bodyPost_ret (v := .tuple #[.agg #[.int .i64 0], .nilIface, .bool false]) (by simp [results, Tryd.results37, go_sem, r0]) rfl ⟨hBz, .inl ⟨HV.out, 0, rfl⟩⟩
end Go.Proofs.YtecjhkpldcmlaaaDoor
