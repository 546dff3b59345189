/- Drawing for chapter 11: a ring, a term and a place. Written by gen144.py. -/
import Derived.Test.YtecjhkpldcmlaaaDoorDrwD
namespace Go.Proofs.YtecjhkpldcmlaaaDoor
open Go.RowKit Go.Shelf
set_option linter.unusedVariables false
attribute [local go_sem] Oper.semAt_some
theorem quoD (d : Nat) (h : d ≤ 23) : ∃ x : Nat, x ≤ 1 ∧ (d : Int) / 23 = (x : Int) ∧ Int.tdiv (d : Int) 23 = (x : Int) ∧ wrap64 (x : Int) = (x : Int) ∧ IntKind.i64.wrap (x : Int) = (x : Int) := ⟨d / 23, by omega, by omega, by rw [Int.tdiv_eq_ediv_of_nonneg (by omega)]; omega, IntWalk.wrap64_in _ ⟨by omega, by omega⟩, IntWalk.i64_in _ ⟨by omega, by omega⟩⟩
theorem addD (a y : Nat) (h : a ≤ 100) (hy : y ≤ 100) : IntKind.i64.wrap ((a : Int) + (y : Int)) = ((a + y : Nat) : Int) ∧ wrap64 ((a : Int) + (y : Int)) = ((a + y : Nat) : Int) := ⟨by rw [IntWalk.i64_in _ ⟨by omega, by omega⟩]; omega, by rw [IntWalk.wrap64_in _ ⟨by omega, by omega⟩]; omega⟩
theorem lessD (b u : Nat) (h : b ≤ 20) (hu : u ≤ 1) : ∃ v : Int, IntKind.i64.wrap ((b : Int) - (u : Int)) = v ∧ wrap64 ((b : Int) - (u : Int)) = v := ⟨(b : Int) - (u : Int), IntWalk.i64_in _ ⟨by omega, by omega⟩, IntWalk.wrap64_in _ ⟨by omega, by omega⟩⟩
/-- A ring, a text and a number. -/
def TermNum (W : World) (e : Ending) (w' : World) : Prop :=
  ∃ (n : Nat) (s : ByteArray) (v : Int), e = .returned (.tuple #[.int .i64 (n : Int), .string s, .int .i64 v]) ∧ 1 ≤ n ∧ n ≤ 12 ∧ s.size ≤ 40 ∧ Below W.heap.size W w'
set_option maxHeartbeats 2000000 in
theorem drawTermHas_any (W : World) (B len cap : Nat) (A : Option Addr) (f : Nat → Nat) (hC : Code W B A len f) (hB : B ≤ W.heap.size) (hlc : len ≤ cap) (hcap : cap ≤ 9223372036854775807) :
    Calls Tryd.prog 24 #[.slice A len cap] W (TermNum W) := by
  have HO := Lib.hid (open_any W B len cap A f hC hB hlc hcap)
  clear hC
  go_enter Tryd.func24, Tryd.ntmps24
  go_wp2_with fail
  refine HO.out.mono ?_
  rintro e w1 ⟨R, A', len', cap', rfl, hR, hl, hRd, hCd, hb1⟩
  have HL := Lib.hid (l92Given_any w1 B R 0 ⟨⟨A', len', cap', f, hRd, hCd, hl⟩, by omega⟩ (by omega))
  have HB1 := Lib.hid hb1
  clear hRd hCd hb1 hl HO
  go_wp2_with fail
  refine HL.out.mono ?_
  rintro e w2 ⟨n, s, q, rfl, hn1, hn2, hs, hq, hR2, hA2⟩
  have HR2 := Lib.hid hR2
  have HA2 := Lib.hid hA2
  have HS := Lib.hid hs
  clear hR2 hA2 HL hs
  go_wp2_with fail
  refine (draw_any w2 B R q 24 HR2.out (by omega) (by omega) (by omega)).mono ?_
  rintro e w3 ⟨d, rfl, hd, hR3, hA3⟩
  have hd4 := hd (by omega)
  have HR3 := Lib.hid hR3
  have HA3 := Lib.hid (HA2.out.trans hA3)
  clear hR3 hA3 hd HR2 HA2
  obtain ⟨x, hx6, hxd⟩ := quoD d (by omega)
  have HXD := Lib.hid hxd
  clear hxd hd4
  have HH := Lib.hid (addD n x (by omega) (by omega))
  have HNx : Hid (1 ≤ n + x ∧ n + x ≤ 13) := Lib.hid ⟨by omega, by omega⟩
  generalize n + x = y at *
  clear hx6
  have h1 := HH.out.1
  have h2 := HH.out.2
  have hxd := HXD.out.1
  have hxq := HXD.out.2.1
  have hxw := HXD.out.2.2.1
  have hxv := HXD.out.2.2.2
  go_wp2_with fail
  clear h1 h2 hxd hxq hxw hxv HH HXD
  refine (draw_any w3 B R (q + 1) (y : Int) HR3.out (by omega) (by have := HNx.out; omega) (by omega)).mono ?_
  rintro e w4 ⟨b, rfl, hb, hR4, hA4⟩
  have hb4 := hb (by have := HNx.out; omega)
  have HR4 := Lib.hid hR4
  have HA4 := Lib.hid (HA3.out.trans hA4)
  clear hR4 hA4 hb HR3 HA3
  have hb5 : b ≤ 20 := by have := HNx.out; omega
  clear hb4
  go_wp2_with fail
  refine (draw_any w4 B R (q + 1 + 1) 24 HR4.out (by omega) (by omega) (by omega)).mono ?_
  rintro e w5 ⟨c, rfl, hc, hR5, hA5⟩
  have hc5 := hc (by omega)
  have HA5 := Lib.hid (HA4.out.trans hA5)
  clear hR5 hA5 hc
  obtain ⟨u, hu1, hud⟩ := quoD c (by omega)
  have HUD := Lib.hid hud
  clear hud hc5
  obtain ⟨v, hv1, hv2⟩ := lessD b u hb5 hu1
  have hud := HUD.out.1
  have huq := HUD.out.2.1
  have huw := HUD.out.2.2.1
  have huv := HUD.out.2.2.2
  clear hu1 hb5
  go_wp2
  refine bodyPost_ret (v := .tuple #[.int .i64 (n : Int), .string s, .int .i64 v]) (by simp [results, Tryd.results24, go_sem]) rfl ?_
  exact ⟨n, s, v, rfl, hn1, hn2, HS.out, HB1.out.trans (HA5.out.below (m := W.heap.size) hR HB1.out.size)⟩
end Go.Proofs.YtecjhkpldcmlaaaDoor
