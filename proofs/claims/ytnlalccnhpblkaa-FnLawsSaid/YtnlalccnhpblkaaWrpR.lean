/- Words, the program's side: the least words of a list. Written by gen130.py. -/
import Derived.Test.YtnlalccnhpblkaaWrpQ
namespace Go.Proofs.Ytnlalccnhpblkaa
open Go.RowKit Go.Shelf
set_option linter.unusedVariables false
attribute [local go_sem] Oper.semAt_some
/-- What is handed on for an index. -/
def encI (F : List (List Int)) (i : Nat) : Array Value := #[.agg #[.int .i64 (cO (F.getD i []) 0), .int .i64 (cO (F.getD i []) 1), .int .i64 (cO (F.getD i []) 2)]]
set_option maxHeartbeats 1000000 in
theorem values1_in (m : Nat) (hm : 1 ≤ m) (l Bn n₀ L cap : Nat) (A : Option Addr) (F : List (List Int)) (hL : F.length = L) (hL3 : L ≤ 100000) (J Jx : List Nat → World → Prop) (V : World) (hn : n₀ ≤ V.heap.size)
    (hb : 0 < L → ∃ g, A = some ⟨g, 0, none⟩ ∧ ∀ W, Below n₀ V W → ∀ i, i < L → (W.cell? ⟨g, i * 3, none⟩ = some (.int .i64 (cO (F.getD i []) 0)) ∧ W.cell? ⟨g, i * 3 + 1, none⟩ = some (.int .i64 (cO (F.getD i []) 1)) ∧ W.cell? ⟨g, i * 3 + 2, none⟩ = some (.int .i64 (cO (F.getD i []) 2)))) (hJa : ∀ s W (o : Obj), J s W → J s (W.alloc o))
    (hY : ∀ pre (x : Nat) W, J pre W → pre.length < 100000 → YieldAt Fence.wide (m - 1) Try.prog l (encI F x) W fun e W' =>
      (e = .returned (.bool true) ∧ J (pre ++ [x]) W' ∧ KB Bn n₀ W W') ∨ (e = .returned (.bool false) ∧ Jx (pre ++ [x]) W'))
    (W : World) (hV : Below n₀ V W) (hBn : Boxed W Bn 69 (.slice A L cap)) (h0 : J [] W) :
    CallsIn Fence.wide m Try.prog 88 #[.func (.yield l) #[] #[], .pointer (some ⟨Bn, 0, none⟩)] W fun e W' => (∃ v, e = .returned v) ∧
      ((∃ ys, ys = List.range L ∧ J ys W') ∨ (∃ pre, True ∧ Jx pre W')) := by
  have HV := Lib.hid hV
  have HBn := Lib.hid hBn
  have HL := Lib.hid hL
  have HN := Lib.hid hn
  have HJa := Lib.hid hJa
  have Hb := Lib.hid hb
  have HL3 := Lib.hid hL3
  have cb := hBn.cell
  refine callsIn_of_wp Try.func88 rfl trivial ?_ rfl
  simp only [Try.ntmps88, List.size_toArray, List.length_cons, List.length_nil, Nat.reduceAdd, Nat.reduceSub, Array.replicate_succ, Array.replicate_zero, List.push_toArray, List.append_toArray, List.nil_append, List.cons_append]
  clear hV hBn hL hb hJa hn
  gi_wp2
  gi_loopw [4, 7] (fun u4 v wr => ∃ k : Nat, k ≤ L ∧ v = .int .i64 (k : Int) ∧ Boxed wr Bn 69 (.slice A L cap) ∧ Below n₀ V wr ∧ J (List.range k) wr)
    (fun _ v _ => L - (intOf v).toNat)
  case atStart => exact ⟨0, Nat.zero_le _, rfl, HBn.out, HV.out, h0⟩
  case round =>
    obtain ⟨k, hk, rfl, hB, hVr, hJ⟩ := hrel
    by_cases hlt : k < L
    · obtain ⟨g, rfl, hcell⟩ := Hb.out (by omega)
      obtain ⟨c0, c1, c2⟩ := hcell wr hVr k hlt
      have i1 : (0 : Int) ≤ (k : Int) := by omega
      have i2 : (k : Int) < (L : Int) := by omega
      have hwk : IntKind.i64.wrap ((k : Int) + 1) = ((k + 1 : Nat) : Int) := by rw [IntWalk.i64_in _ ⟨by omega, by omega⟩]; rfl
      have hw2 : wrap64 ((k : Int) + 1) = ((k + 1 : Nat) : Int) := by rw [IntWalk.wrap64_in _ ⟨by omega, by omega⟩]; rfl
      obtain ⟨c, hc⟩ : ∃ c, F.getD k [] = c := ⟨_, rfl⟩
      have hn2 := HN.out
      have hsz := hVr.size
      have hJ1 := HJa.out _ _ (.cells #[.int .i64 (cO c 0), .int .i64 (cO c 1), .int .i64 (cO c 2)] 52) hJ
      have hB1 := hB.alloc (.cells #[.int .i64 (cO c 0), .int .i64 (cO c 1), .int .i64 (cO c 2)] 52)
      have hV1 := hVr.alloc (by omega) (.cells #[.int .i64 (cO c 0), .int .i64 (cO c 1), .int .i64 (cO c 2)] 52)
      have hT1 := Ter.new wr 52 (.int .i64 (cO c 0)) (.int .i64 (cO c 1)) (.int .i64 (cO c 2))
      have hYk := hY (List.range k) k (wr.alloc (.cells #[.int .i64 (cO c 0), .int .i64 (cO c 1), .int .i64 (cO c 2)] 52)) hJ1 (by rw [List.length_range]; omega)
      rw [show encI F k = #[.agg #[.int .i64 (cO c 0), .int .i64 (cO c 1), .int .i64 (cO c 2)]] from by unfold encI; rw [hc]] at hYk
      obtain ⟨fn, tmps, assign, body, hy, hR⟩ := hYk
      rw [hc] at c0 c1 c2
      have s0 := hT1.cell0
      have s1 := hT1.cell1
      have s2 := hT1.cell2
      have HI := Lib.hid hlt
      have HB1 := Lib.hid hB1
      have HV1 := Lib.hid hV1
      clear hY hJ hJ1 hB hB1 hVr hV1 hT1 hcell hlt hn2 hsz hc cb
      try dsimp only at hy
      gi_wp2
      refine hR.mono ?_
      rintro e W3 (⟨rfl, hJ3, hk3⟩ | ⟨rfl, hJx3⟩)
      · have hB3 := hk3.box _ _ HB1.out
        have hV3 := HV1.out.trans hk3.below
        gi_wp2
        go_roundw
        case rel => exact ⟨k + 1, HI.out, by go_num, hB3, hV3, by rw [List.range_succ]; exact hJ3⟩
        case measure => simp [intOf]; have := HI.out; omega
      · gi_wp2
        refine bodyPost_ret (results_none rfl _ _ _) rfl ?_
        exact ⟨⟨_, rfl⟩, .inr ⟨_, trivial, hJx3⟩⟩
    · obtain rfl : k = L := by omega
      have hz1 : ¬ ((k : Int) < (k : Int)) := by omega
      clear hY
      gi_wp2
      go_end0
      first | exact ⟨⟨_, rfl⟩, .inl ⟨_, rfl, hJ⟩⟩ | exact ⟨⟨_, rfl⟩, .inl hJ⟩
theorem values_any (A : Option Addr) (len cap : Nat) (w : World) :
    Calls Try.prog 65 #[.slice A len cap] w fun e w' => e = .returned (.func (.func 88) #[] #[.pointer (some ⟨w.heap.size, 0, none⟩)]) ∧ w' = w.alloc (.cells #[.slice A len cap] 69) := by
  go_enter Try.func65, Try.ntmps65
  go_wp2
  go_ret
  exact ⟨rfl, rfl⟩
theorem values_stops (m : Nat) (hm : 1 ≤ m) (Bn n₀ L cap : Nat) (A : Option Addr) (F : List (List Int)) (hL : F.length = L) (hL3 : L ≤ 100000) (w : World) (hn : n₀ ≤ w.heap.size)
    (hb : 0 < L → ∃ g, A = some ⟨g, 0, none⟩ ∧ g < n₀ ∧ ∀ i, i < L → (w.cell? ⟨g, i * 3, none⟩ = some (.int .i64 (cO (F.getD i []) 0)) ∧ w.cell? ⟨g, i * 3 + 1, none⟩ = some (.int .i64 (cO (F.getD i []) 1)) ∧ w.cell? ⟨g, i * 3 + 2, none⟩ = some (.int .i64 (cO (F.getD i []) 2)))) (hBn : Boxed w Bn 69 (.slice A L cap)) :
    SeqStopsK Fence.wide m Try.prog 88 #[.pointer (some ⟨Bn, 0, none⟩)] (encI F) (KB Bn n₀) (fun ys => ys = List.range L) (fun _ => True) 100000 w := fun l J Jx W hW hJ _ hY h0 =>
  values1_in m hm l Bn n₀ L cap A F hL hL3 J Jx w hn (fun h => by
    obtain ⟨g, e, hg, hc⟩ := hb h
    exact ⟨g, e, fun W hW i hi => ⟨(hW.cell (p := ⟨g, i * 3, none⟩) hg).trans (hc i hi).1, (hW.cell (p := ⟨g, i * 3 + 1, none⟩) hg).trans (hc i hi).2.1, (hW.cell (p := ⟨g, i * 3 + 2, none⟩) hg).trans (hc i hi).2.2⟩⟩)
    (fun s W o h => hJ s W _ none h (World.grownBy_alloc W o none) (fun r e => by cases e)) hY W (hW.mono hn) (boxed_below hBn hBn.lt hW) h0
end Go.Proofs.Ytnlalccnhpblkaa
