/- Plays, the program's side: the plays that the iterator yields. Written by gen94.py. -/
import Derived.Test.YtaklmepioeoohaaGJ
import Derived.Test.YtaklmepioeoohaaPlpA
namespace Go.Proofs.Ytaklmepioeoohaa
open Go.RowKit Go.Shelf
set_option linter.unusedVariables false
attribute [local go_sem] Oper.semAt_some
set_option maxHeartbeats 1000000 in
theorem sets1_isPlay (m : Nat) (hm : 1 ≤ m) (l R H n₀ n : Nat) (h1 : 1 ≤ n) (h2 : n ≤ 12) (p : Nat → Bool) (hF : ∀ x : Nat, x < 2 ^ n → ∀ W, Calls Try.prog 72 #[.agg #[.int .i64 (n:Int)], .int .i64 (x:Int)] W fun e w' => e = .returned (.bool (p x)) ∧ Below W.heap.size W w') (B : Nat) (J Jx : List (Fin (2 ^ n)) → World → Prop) (hJ : AbidesFrom B J)
    (hY : ∀ pre x W, J pre W → pre.length < 5000 → YieldAt Fence.wide (m - 1) Try.prog l #[.int .i64 (x.val : Int)] W fun e W' =>
      (e = .returned (.bool true) ∧ J (pre ++ [x]) W' ∧ KS R H n₀ W W') ∨ (e = .returned (.bool false) ∧ Jx (pre ++ [x]) W'))
    (W : World) (hR : Boxed W R 42 (.int .i64 (n:Int))) (hH : Boxed W H 81 (.func (.func 72) #[.agg #[.int .i64 (n:Int)]] #[])) (h0 : J [] W) :
    CallsIn Fence.wide m Try.prog 94 #[.func (.yield l) #[] #[], .pointer (some ⟨R, 0, none⟩), .pointer (some ⟨H, 0, none⟩)] W fun e W' => (∃ v, e = .returned v) ∧
      ((∃ ys, ys = comeP (p) (2 ^ n) (2 ^ n) ∧ J ys W') ∨ (∃ pre, True ∧ Jx pre W')) := by
  have hp := pow_le n h2
  have hp1 := Nat.two_pow_pos n
  have HA := Lib.hid (fun W => all_any n W h2)
  have HF := Lib.hid hF
  clear hF
  have HLn := Lib.hid (fun k => comeP_len (p) (2 ^ n) k)
  have HCy := Lib.hid (fun k hk hb => comeP_yes (p := p) (N := 2 ^ n) (k := k) hk hb)
  have HCn := Lib.hid (fun k hb => comeP_no (p := p) (N := 2 ^ n) (k := k) hb)
  refine callsIn_of_wp Try.func94 rfl trivial ?_ rfl
  simp only [Try.ntmps94, List.size_toArray, List.length_cons, List.length_nil, Nat.reduceAdd, Nat.reduceSub, Array.replicate_succ, Array.replicate_zero, List.push_toArray, List.append_toArray, List.nil_append, List.cons_append]
  gi_wp2
  gi_loopw [4] (fun v wr => ∃ k : Nat, v = .int .i64 (k:Int) ∧ k ≤ 2 ^ n ∧ Boxed wr R 42 (.int .i64 (n:Int)) ∧ Boxed wr H 81 (.func (.func 72) #[.agg #[.int .i64 (n:Int)]] #[]) ∧ J (comeP (p) (2 ^ n) k) wr)
    (fun v _ => 2 ^ n - (intOf v).toNat)
  case atStart => exact ⟨0, rfl, Nat.zero_le _, hR, hH, h0⟩
  case round =>
    obtain ⟨k, rfl, hk, bR, bH, hJk⟩ := hrel
    have cR := bR.cell
    have lR := bR.lt
    have lH := bH.lt
    by_cases hlt : k < 2 ^ n
    · have t1 : (k : Int) ≤ ((2 ^ n - 1 : Nat) : Int) := by omega
      have HFk := Lib.hid (HF.out k hlt)
      have HLk := Lib.hid (show (comeP (p) (2 ^ n) k).length < 5000 by have := HLn.out k; omega)
      generalize 2 ^ n - 1 = M at *
      have hwk : IntKind.i64.wrap ((k : Int) + 1) = ((k + 1 : Nat) : Int) := by rw [IntWalk.i64_in _ ⟨by omega, by omega⟩]; rfl
      cases hpk : p k
      · rw [hpk] at HFk
        have HE := Lib.hid (HCn.out k hpk)
        clear hY
        gi_wp2_with (first
          | (refine ⟨trivial, ?_⟩; gi_at_call 75; refine (callsIn_wide.2 (HA.out _)).mono ?_; rintro e w2 ⟨rfl, hb2⟩; have bR2 := boxed_below bR lR hb2; have bH2 := boxed_below bH lH hb2; have cH2 := bH2.cell; have hJ2 := abides_below hJ hJk hb2)
          | (refine ⟨trivial, ?_⟩; gi_at_call 72; refine (callsIn_wide.2 (HFk.out _)).mono ?_; rintro e w3 ⟨rfl, hb3⟩; have bR3 := boxed_below bR2 bR2.lt hb3; have bH3 := boxed_below bH2 bH2.lt hb3; have hJ3 := abides_below hJ hJ2 hb3))
        all_goals (try (refine ⟨fun _ h => (by cases h), ?_⟩; gi_wp2))
        go_roundw
        case rel => exact ⟨k + 1, by go_num, by omega, bR3, bH3, by rw [HE.out]; exact hJ3⟩
        case measure => simp [intOf]; omega
      · rw [hpk] at HFk
        have HE := Lib.hid (HCy.out k hlt hpk)
        have HY := Lib.hid hY
        clear hY
        gi_wp2_with (first
          | (refine ⟨trivial, ?_⟩; gi_at_call 75; refine (callsIn_wide.2 (HA.out _)).mono ?_; rintro e w2 ⟨rfl, hb2⟩; have bR2 := boxed_below bR lR hb2; have bH2 := boxed_below bH lH hb2; have cH2 := bH2.cell; have hJ2 := abides_below hJ hJk hb2)
          | (refine ⟨trivial, ?_⟩; gi_at_call 72; refine (callsIn_wide.2 (HFk.out _)).mono ?_; rintro e w3 ⟨rfl, hb3⟩; have bR3 := boxed_below bR2 bR2.lt hb3; have bH3 := boxed_below bH2 bH2.lt hb3; have hJ3 := abides_below hJ hJ2 hb3; obtain ⟨fn, tmps, assign, body, hy, hRn⟩ := HY.out _ ⟨k, hlt⟩ w3 hJ3 HLk.out; dsimp only at hy))
        refine hRn.mono ?_
        rintro e W4 (⟨rfl, hJ4, hk4⟩ | ⟨rfl, hJx4⟩)
        · have bR4 := hk4.1.box _ _ bR3
          have bH4 := hk4.2.box _ _ bH3
          gi_wp2
          go_roundw
          case rel => exact ⟨k + 1, by go_num, by omega, bR4, bH4, by rw [HE.out]; exact hJ4⟩
          case measure => simp [intOf]; omega
        · gi_wp2
          refine bodyPost_ret (results_none rfl _ _ _) rfl ?_
          exact ⟨⟨_, rfl⟩, .inr ⟨_, trivial, hJx4⟩⟩
    · have HK : Hid (k = 2 ^ n) := Lib.hid (by omega)
      have t1 : ¬ ((k : Int) ≤ ((2 ^ n - 1 : Nat) : Int)) := by omega
      generalize 2 ^ n - 1 = M at *
      have hJe : J (comeP (p) (2 ^ n) (2 ^ n)) wr := by
        have h := hJk
        rw [congrArg (comeP (p) (2 ^ n)) HK.out] at h
        exact h
      have HJJ := Lib.hid (fun W' (hb : Below wr.heap.size wr W') => abides_below hJ hJe hb)
      clear hY hJk hJ hk hlt hJe
      gi_wp2_with (refine ⟨trivial, ?_⟩; gi_at_call 75; refine (callsIn_wide.2 (HA.out _)).mono ?_; rintro e w2 ⟨rfl, hb2⟩)
      go_end0
      exact ⟨⟨_, rfl⟩, .inl ⟨_, rfl, HJJ.out _ hb2⟩⟩
theorem stops_isPlay (m : Nat) (hm : 1 ≤ m) (R H n₀ n : Nat) (h1 : 1 ≤ n) (h2 : n ≤ 12) (w : World) (hR : Boxed w R 42 (.int .i64 (n:Int))) (hH : Boxed w H 81 (.func (.func 72) #[.agg #[.int .i64 (n:Int)]] #[])) :
    SeqStopsK Fence.wide m Try.prog 94 #[.pointer (some ⟨R, 0, none⟩), .pointer (some ⟨H, 0, none⟩)] (fun x : Fin (2 ^ n) => #[Value.int .i64 (x.val : Int)]) (KS R H n₀) (fun ys => ys = comeP (playB n) (2 ^ n) (2 ^ n)) (fun _ => True) 5000 w := fun l J Jx W hW hJ _ hY h0 =>
  sets1_isPlay m hm l R H n₀ n h1 h2 (playB n) (fun x hx W => isPlay_any n x W h1 h2 hx) W.heap.size J Jx hJ hY W (boxed_below hR hR.lt hW) (boxed_below hH hH.lt hW) h0
end Go.Proofs.Ytaklmepioeoohaa
