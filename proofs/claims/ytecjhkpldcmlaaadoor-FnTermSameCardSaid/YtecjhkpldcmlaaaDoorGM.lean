/- Texts of mine, laid together: Draw Draw2 Draw3. -/
import Derived.Test.YtecjhkpldcmlaaaDoorGA
import Derived.Laws.OwnMore
import Derived.WalkSpells
import Derived.Test.YtecjhkpldcmlaaaDoorGB
/- The reader that the laws draw by. -/
namespace Go.Proofs.YtecjhkpldcmlaaaDoor
open Go.RowKit Go.Shelf
set_option linter.unusedVariables false
theorem xor_nat (a b : Nat) (ha : a < 2 ^ 62) (hb : b < 2 ^ 62) : bits .xor .i64 (a : Int) (b : Int) = ((a ^^^ b : Nat) : Int) := by
  have hx : a ^^^ b < 2 ^ 62 := Nat.xor_lt_two_pow ha hb
  show IntKind.i64.wrap ((BitVec.ofInt 64 (a : Int) ^^^ BitVec.ofInt 64 (b : Int)).toNat : Int) = _
  rw [BitVec.toNat_xor, ofInt_small a ha, ofInt_small b hb]
  exact IntWalk.i64_in _ (by omega)
/-- The bytes of a list that came in: those of it that a reader reads. -/
structure Code (W : World) (B : Nat) (A : Option Addr) (len : Nat) (f : Nat → Nat) : Prop where
  byte : ∀ i, f i < 256
  cell : ∀ i, i < len → ∃ ad, A = some ad ∧ ad.block < B ∧ W.cell? (ad.add i) = some (.int .u8 (f i : Int))
theorem addr_block (a : Addr) (n : Nat) : (a.add n).block = a.block := by unfold Addr.add; split <;> rfl
theorem Code.keep {W W' : World} {B : Nat} {A : Option Addr} {len : Nat} {f : Nat → Nat} (h : Code W B A len f) (hk : ∀ p : Addr, p.block < B → W'.cell? p = W.cell? p) : Code W' B A len f :=
  ⟨h.byte, fun i hi => by
    obtain ⟨ad, e, hb, hc⟩ := h.cell i hi
    exact ⟨ad, e, hb, (hk _ (by rw [addr_block]; exact hb)).trans hc⟩⟩
theorem Code.aside {W W' : World} {B T : Nat} {A : Option Addr} {len : Nat} {f : Nat → Nat} (h : Code W B A len f) (ha : Aside T W W') (hB : B ≤ T) (hW : B ≤ W.heap.size) : Code W' B A len f :=
  h.keep fun p hp => World.cell?_of_block (ha.block p.block (by omega) (by omega))
theorem Code.below {W W' : World} {B : Nat} {A : Option Addr} {len : Nat} {f : Nat → Nat} (h : Code W B A len f) (hb : Below B W W') : Code W' B A len f := h.keep fun p hp => hb.cell hp
theorem Code.short {W : World} {B : Nat} {A : Option Addr} {len m : Nat} {f : Nat → Nat} (h : Code W B A len f) (hm : m ≤ len) : Code W B A m f := ⟨h.byte, fun i hi => h.cell i (by omega)⟩
/-- The reader's block. -/
def RdAt (W : World) (R : Nat) (A : Option Addr) (len cap : Nat) (p : Nat) : Prop := W.heap[R]? = some (.cells #[.slice A len cap, .int .i64 (p : Int)] 100 (0, 0))
theorem RdAt.lt {W : World} {R : Nat} {A : Option Addr} {len cap p : Nat} (h : RdAt W R A len cap p) : R < W.heap.size := (Array.getElem?_eq_some_iff.1 h).1
theorem RdAt.b {W : World} {R : Nat} {A : Option Addr} {len cap p : Nat} (h : RdAt W R A len cap p) : W.cell? ⟨R, 0, none⟩ = some (.slice A len cap) := by simp [World.cell?, show W.heap[R]? = _ from h]
theorem RdAt.p {W : World} {R : Nat} {A : Option Addr} {len cap p : Nat} (h : RdAt W R A len cap p) : W.cell? ⟨R, 1, none⟩ = some (.int .i64 (p : Int)) := by simp [World.cell?, show W.heap[R]? = _ from h]
theorem RdAt.frozen {W : World} {R : Nat} {A : Option Addr} {len cap p : Nat} (h : RdAt W R A len cap p) (i : Nat) : W.frozen? ⟨R, i, none⟩ = false := by simp [World.frozen?, show W.heap[R]? = _ from h]
theorem RdAt.step {W : World} {R : Nat} {A : Option Addr} {len cap p : Nat} (h : RdAt W R A len cap p) : RdAt (W.setCell ⟨R, 1, none⟩ (.int .i64 ((p : Int) + 1))) R A len cap (p + 1) := by
  unfold RdAt at h ⊢
  simp [World.setCell, Array.getElem?_modify, h]
/-- What a draw leaves. -/
def PickPost (W : World) (R : Nat) (A : Option Addr) (len cap p : Nat) (n : Int) (e : Ending) (w' : World) : Prop :=
  ∃ v : Nat, e = .returned (.int .i64 (v : Int)) ∧ (1 ≤ n → (v : Int) < n) ∧ (n < 1 → v = 0) ∧ RdAt w' R A len cap (p + 1) ∧ Aside R W w'
theorem aside_p {W : World} {R : Nat} (u : Value) : Aside R W (W.setCell ⟨R, 1, none⟩ u) := (Aside.refl R W).setAt 1 u
set_option maxHeartbeats 600000 in
theorem pick_any (W : World) (R B len cap p : Nat) (A : Option Addr) (f : Nat → Nat) (n : Int) (hR : RdAt W R A len cap p) (hC : Code W B A len f) (hB : B ≤ R) (hl : len ≤ 2000) (hp : p ≤ 1000) (hn : n ≤ 1000000) (hn0 : -1000000 ≤ n) :
    Calls Tryd.prog 45 #[.pointer (some ⟨R, 0, none⟩), .int .i64 n] W (PickPost W R A len cap p n) := by
  have c0 := hR.b
  have c1 := hR.p
  have f1 := hR.frozen 1
  have hS := hR.step
  have d0 := hS.b
  have d1 := hS.p
  have HS := Lib.hid hS
  have HA := Lib.hid (aside_p (W := W) (R := R) (.int .i64 ((p : Int) + 1)))
  have hlt := hR.lt
  have HC := Lib.hid ((hC.aside HA.out hB (by omega)))
  clear hS hC
  simp only [Int.natCast_add, Int.natCast_one] at d1
  have HR := Lib.hid hR
  clear hR
  by_cases h1 : n < 1
  · go_enter Tryd.func45, Tryd.ntmps45
    go_wp2
    go_ret
    exact ⟨0, rfl, fun h => by omega, fun _ => rfl, HS.out, HA.out⟩
  · by_cases h2 : len = 0
    · subst h2
      go_enter Tryd.func45, Tryd.ntmps45
      go_wp2
      go_ret
      exact ⟨0, rfl, fun h => by omega, fun _ => rfl, HS.out, HA.out⟩
    · have h3 : ((len : Int) == 0) = false := by simp; omega
      have h4 : 1 ≤ n := by omega
      by_cases hk : p < len
      · obtain ⟨ad, rfl, hab, hcd⟩ := HC.out.cell p hk
        have hby := HC.out.byte p
        generalize f p = b at hcd hby
        have i1 : (0 : Int) ≤ (p : Int) := by omega
        have i2 : (p : Int) < (len : Int) := by omega
        have HV := Lib.hid (Int.emod_nonneg (b : Int) (b := n) (by omega))
        have HV2 := Lib.hid (Int.emod_lt_of_pos (b : Int) (b := n) (by omega))
        clear h2
        go_enter Tryd.func45, Tryd.ntmps45
        go_wp2
        go_ret
        have e1 := HV.out
        have e2 := HV2.out
        exact ⟨((b : Int) % n).toNat, ret_int (by show _ = (((((b : Int) % n).toNat : Nat)) : Int); omega), fun h => by omega, fun h => by omega, HS.out, HA.out⟩
      · have hq1 : p % len < len := Nat.mod_lt _ (by omega)
        have hq2 : (p * 7 + 3) % len < len := Nat.mod_lt _ (by omega)
        have hq3 : p / len ≤ p := Nat.div_le_self _ _
        obtain ⟨ad, rfl, hab, hcd⟩ := HC.out.cell (p % len) hq1
        obtain ⟨ad', e', hab', hcd'⟩ := HC.out.cell ((p * 7 + 3) % len) hq2
        obtain rfl : ad = ad' := by injection e'
        have hby := HC.out.byte (p % len)
        have hby' := HC.out.byte ((p * 7 + 3) % len)
        generalize f (p % len) = b1 at hcd hby
        generalize f ((p * 7 + 3) % len) = b2 at hcd' hby'
        have i0 : ¬ ((p : Int) < (len : Int)) := by omega
        have i5 : (1 : Int) ≤ (len : Int) := by omega
        have hm1 : ((p : Int)).tmod (len : Int) = ((p % len : Nat) : Int) := by rw [Int.tmod_eq_emod_of_nonneg (by omega)]; simp
        have hm2 : ((p : Int) * 7 + 3).tmod (len : Int) = (((p * 7 + 3) % len : Nat) : Int) := by rw [Int.tmod_eq_emod_of_nonneg (by omega)]; simp
        have hd1 : IntKind.i64.wrap (((p : Int)).tdiv (len : Int)) = ((p / len : Nat) : Int) := by
          rw [Int.tdiv_eq_ediv_of_nonneg (by omega)]
          have e : ((p : Int) / (len : Int)) = ((p / len : Nat) : Int) := by simp
          rw [e]
          generalize p / len = q at hq3
          exact IntWalk.i64_in _ (by omega)
        have HD3 := Lib.hid (show ((p : Int) / (len : Int)) = ((p / len : Nat) : Int) from by simp)
        clear hd1
        generalize hG1 : p % len = q1 at *
        generalize hG2 : (p * 7 + 3) % len = q2 at *
        generalize hG3 : p / len = q3 at *
        clear hG1 hG2 hG3
        have j1 : (0 : Int) ≤ (q1 : Int) := by omega
        have j2 : (q1 : Int) < (len : Int) := by omega
        have j3 : (0 : Int) ≤ (q2 : Int) := by omega
        have j4 : (q2 : Int) < (len : Int) := by omega
        obtain ⟨x, hx⟩ : ∃ x : Nat, b1 * 131 + b2 * 1117 + p * 29 + q3 * 53 = x := ⟨_, rfl⟩
        have hxb : x < 2 ^ 30 := by omega
        have hxi : ((b1 : Int) * 131 + (b2 : Int) * 1117 + (p : Int) * 29 + (q3 : Int) * 53) = (x : Int) := by omega
        have hxd : x / 64 ≤ x := Nat.div_le_self _ _
        have hxx : bits .xor .i64 (x : Int) ((x : Int) / 64) = ((x ^^^ (x / 64) : Nat) : Int) := by
          have e : ((x : Int) / 64) = ((x / 64 : Nat) : Int) := by simp
          rw [e, xor_nat _ _ (by omega) (by omega)]
        have hyb : x ^^^ (x / 64) < 2 ^ 30 := Nat.xor_lt_two_pow hxb (by omega)
        generalize hY : x ^^^ (x / 64) = y at hxx hyb
        clear hY hx
        have w1 := IntWalk.i64_in ((b1 : Int) * 131) ⟨by omega, by omega⟩
        have w2 := IntWalk.i64_in ((b2 : Int) * 1117) ⟨by omega, by omega⟩
        have w3 := IntWalk.i64_in ((p : Int) * 7) ⟨by omega, by omega⟩
        have w4 := IntWalk.i64_in ((p : Int) * 7 + 3) ⟨by omega, by omega⟩
        have w5 := IntWalk.i64_in ((b1 : Int) * 131 + (b2 : Int) * 1117) ⟨by omega, by omega⟩
        have w6 := IntWalk.i64_in ((p : Int) * 29) ⟨by omega, by omega⟩
        have w7 := IntWalk.i64_in ((b1 : Int) * 131 + (b2 : Int) * 1117 + (p : Int) * 29) ⟨by omega, by omega⟩
        have w8 := IntWalk.i64_in ((q3 : Int) * 53) ⟨by omega, by omega⟩
        have w9 := IntWalk.i64_in ((b1 : Int) * 131 + (b2 : Int) * 1117 + (p : Int) * 29 + (q3 : Int) * 53) ⟨by omega, by omega⟩
        have V8 := Lib.hid (IntWalk.wrap64_in ((q3 : Int) * 53) ⟨by omega, by omega⟩)
        have V9 := Lib.hid (IntWalk.wrap64_in ((x : Int)) ⟨by omega, by omega⟩)
        have V10 := Lib.hid (IntWalk.wrap64_in ((q3 : Int)) ⟨by omega, by omega⟩)
        have HXI := Lib.hid hxi
        clear hxi w8 w9
        have x0 : (0 : Int) ≤ (x : Int) := by omega
        have HV := Lib.hid (Int.emod_nonneg (y : Int) (b := n) (by omega))
        have HV2 := Lib.hid (Int.emod_lt_of_pos (y : Int) (b := n) (by omega))
        clear h2 hk
        go_enter Tryd.func45, Tryd.ntmps45
        go_wp2
        go_quiet (fail)
        clear w1 w2 w3 w4 w5 w6 w7 hm1 hm2
        simp only [HD3.out, V10.out, V8.out, V9.out, HXI.out]
        go_wp2
        go_ret
        have e1 := HV.out
        have e2 := HV2.out
        refine ⟨((y : Int) % n).toNat, ret_int (by show _ = (((((y : Int) % n).toNat : Nat)) : Int); omega), fun h => by omega, fun h => by omega, ?_, ?_⟩
        · exact HS.out
        · exact ⟨HA.out.os, HA.out.tape, HA.out.output, HA.out.size, HA.out.block⟩
end Go.Proofs.YtecjhkpldcmlaaaDoor

/- Drawing a ring and sets. -/
namespace Go.Proofs.YtecjhkpldcmlaaaDoor
open Go.RowKit Go.Shelf
set_option linter.unusedVariables false
def OpenPost (W : World) (B : Nat) (f : Nat → Nat) (e : Ending) (w' : World) : Prop :=
  ∃ R A len cap, e = .returned (.pointer (some ⟨R, 0, none⟩)) ∧ W.heap.size ≤ R ∧ len ≤ 2000 ∧ RdAt w' R A len cap 0 ∧ Code w' B A len f ∧ Below W.heap.size W w'
theorem open_any (W : World) (B len cap : Nat) (A : Option Addr) (f : Nat → Nat) (hC : Code W B A len f) (hB : B ≤ W.heap.size) (hlc : len ≤ cap) (hcap : cap ≤ 9223372036854775807) :
    Calls Tryd.prog 43 #[.slice A len cap] W (OpenPost W B f) := by
  have HC := Lib.hid hC
  clear hC
  by_cases h : (len : Int) ≤ 2000
  · have h' : ¬ (2000 : Int) < (len : Int) := by omega
    go_enter Tryd.func43, Tryd.ntmps43
    go_wp2
    go_ret
    exact ⟨_, _, _, _, rfl, Nat.le_refl _, by omega, World.alloc_heap_new W _, HC.out.below ((Below.refl B W).alloc hB _), (Below.refl _ W).alloc (Nat.le_refl _) _⟩
  · have h' : (2000 : Int) < (len : Int) := by omega
    have i1 : (2000 : Int) ≤ (cap : Int) := by omega
    have i2 : ¬ (cap : Int) < 2000 := by omega
    obtain ⟨ad, rfl, _, _⟩ := HC.out.cell 0 (by omega)
    go_enter Tryd.func43, Tryd.ntmps43
    go_wp2
    go_ret
    exact ⟨_, _, _, _, rfl, Nat.le_refl _, by omega, World.alloc_heap_new W _, (HC.out.short (by omega)).below ((Below.refl B W).alloc hB _), (Below.refl _ W).alloc (Nat.le_refl _) _⟩
end Go.Proofs.YtecjhkpldcmlaaaDoor

/- Drawing a ring and one set, or two. -/
namespace Go.Proofs.YtecjhkpldcmlaaaDoor
open Go.RowKit Go.Shelf
set_option linter.unusedVariables false
theorem Aside.trans {T : Nat} {A B C : World} (h : Aside T A B) (k : Aside T B C) : Aside T A C :=
  ⟨k.os.trans h.os, k.tape.trans h.tape, k.output.trans h.output, Nat.le_trans h.size k.size, fun i hi hn => (k.block i (Nat.lt_of_lt_of_le hi h.size) hn).trans (h.block i hi hn)⟩
/-- A reader that stands at p. -/
structure Reader (W : World) (B R : Nat) (p : Nat) : Prop where
  it : ∃ A len cap f, RdAt W R A len cap p ∧ Code W B A len f ∧ len ≤ 2000
  le : B ≤ R
theorem Reader.lt {W : World} {B R p : Nat} (h : Reader W B R p) : R < W.heap.size := by
  obtain ⟨A, len, cap, f, h1, _⟩ := h.it
  exact h1.lt
theorem Reader.drewN {W : World} {B R p : Nat} (h : Reader W B R p) (k : Nat) : Reader (W.drewN k) B R p := by
  obtain ⟨⟨A, len, cap, f, h1, h2, h3⟩, hB⟩ := h
  exact ⟨⟨A, len, cap, f, h1, ⟨h2.byte, h2.cell⟩, h3⟩, hB⟩
def DrawPost (W : World) (B R p : Nat) (n : Int) (e : Ending) (w' : World) : Prop :=
  ∃ v : Nat, e = .returned (.int .i64 (v : Int)) ∧ (1 ≤ n → (v : Int) < n) ∧ Reader w' B R (p + 1) ∧ Aside R W w'
theorem draw_any (W : World) (B R p : Nat) (n : Int) (h : Reader W B R p) (hp : p ≤ 1000) (hn : n ≤ 1000000) (hn0 : -1000000 ≤ n) :
    Calls Tryd.prog 45 #[.pointer (some ⟨R, 0, none⟩), .int .i64 n] W (DrawPost W B R p n) := by
  have hlt := h.lt
  obtain ⟨⟨A, len, cap, f, h1, h2, h3⟩, hB⟩ := h
  exact (pick_any W R B len cap p A f n h1 h2 hB h3 hp hn hn0).mono fun e w' ⟨v, e1, e2, e3, e4, e5⟩ =>
    ⟨v, e1, e2, ⟨⟨A, len, cap, f, e4, h2.aside e5 hB (by omega), h3⟩, hB⟩, e5⟩
def SetPost (W : World) (B R p : Nat) (e : Ending) (w' : World) : Prop :=
  ∃ n s q : Nat, e = .returned (.tuple #[.int .i64 (n : Int), .int .i64 (s : Int)]) ∧ 1 ≤ n ∧ n ≤ 13 ∧ s < 2 ^ 13 ∧ q ≤ p + 20 ∧ Reader w' B R q ∧ Aside R W w'
set_option maxHeartbeats 1000000 in
theorem set_any (W : World) (B R p : Nat) (h : Reader W B R p) (hp : p ≤ 900) :
    Calls Tryd.prog 78 #[.pointer (some ⟨R, 0, none⟩)] W (SetPost W B R p) := by
  have HR := Lib.hid h
  clear h
  go_enter Tryd.func78, Tryd.ntmps78
  go_wp2_with fail
  refine (draw_any W B R p 12 HR.out (by omega) (by omega) (by omega)).mono ?_
  rintro e w1 ⟨n0, rfl, hn0, hR1, hA1⟩
  have hn1 := hn0 (by omega)
  have HR1 := Lib.hid hR1
  have HA1 := Lib.hid hA1
  clear hR1 hA1 hn0
  obtain ⟨n, hn⟩ : ∃ n : Nat, n = 1 + n0 := ⟨_, rfl⟩
  have hnI : ((1 : Int) + (n0 : Int)) = (n : Int) := by omega
  have hnb : n ≤ 12 := by omega
  have hnb1 : 1 ≤ n := by omega
  clear hn hn1
  go_wp2_with fail
  refine (draw_any w1 B R (p + 1) 3 HR1.out (by omega) (by omega) (by omega)).mono ?_
  rintro e w2 ⟨kind, rfl, hk, hR2, hA2⟩
  have hk3 := hk (by omega)
  have HR2 := Lib.hid hR2
  have HA2 := Lib.hid (HA1.out.trans hA2)
  clear hR2 hA2 hk hnI
  by_cases hk0 : kind = 0
  · subst hk0
    go_wp2
    go_loopw [5, 7] (fun u v wr => ∃ k s q : Nat, k ≤ n ∧ s < 2 ^ 13 ∧ q ≤ p + 2 + k ∧ u = .int .i64 (s : Int) ∧ v = .int .i64 (k : Int) ∧ Reader wr B R q ∧ Aside R W wr) (fun _ v _ => n - (intOf v).toNat)
    case atStart => exact ⟨0, 0, p + 1 + 1, Nat.zero_le _, by omega, by omega, rfl, rfl, HR2.out, HA2.out⟩
    case round =>
      obtain ⟨k, s, q, hk, hs, hq, rfl, rfl, hR3, hA3⟩ := hrel
      have HR3 := Lib.hid hR3
      have HA3 := Lib.hid hA3
      clear hR3 hA3
      by_cases hlt : k < n
      · go_wp2_with fail
        refine (draw_any wr B R q 4 HR3.out (by omega) (by omega) (by omega)).mono ?_
        rintro e w3 ⟨d, rfl, hd, hR4, hA4⟩
        have HR4 := Lib.hid hR4
        have HA4 := Lib.hid (HA3.out.trans hA4)
        clear hR4 hA4 hd
        by_cases hd0 : d = 0
        · subst hd0
          have hw := with_nat s k (by omega) (by omega)
          have hl := or_pow_lt 13 s k hs (by omega)
          go_wp2
          go_roundw
          case rel => exact ⟨k + 1, s ||| 2 ^ k, q + 1, by omega, hl, by omega, rfl, by go_num, HR4.out, HA4.out⟩
          case measure => simp [intOf]; omega
        · have hdz : ((d : Int) == 0) = false := by simp; omega
          go_wp2
          go_roundw
          case rel => exact ⟨k + 1, s, q + 1, by omega, hs, by omega, rfl, by go_num, HR4.out, HA4.out⟩
          case measure => simp [intOf]; omega
      · have e : k = n := by omega
        subst e
        go_wp2_with fail
        refine (draw_any wr B R q 60 HR3.out (by omega) (by omega) (by omega)).mono ?_
        rintro e w3 ⟨d, rfl, hd, hR4, hA4⟩
        have HR4 := Lib.hid hR4
        have HA4 := Lib.hid (HA3.out.trans hA4)
        clear hR4 hA4 hd
        by_cases hd0 : d = 0
        · subst hd0
          go_wp2
          go_ret2
          exact ⟨13, s, q + 1, rfl, by omega, by omega, hs, by omega, HR4.out, HA4.out⟩
        · have hdz : ((d : Int) == 0) = false := by simp; omega
          by_cases hd1 : d = 1
          · subst hd1
            have hpw := pow_le k (by omega)
            have hwk := Lib.hid (wrap_pow k (by omega))
            go_wp2
            go_quiet (fail)
            go_wp2
            go_ret2
            exact ⟨k, 2 ^ k, q + 1, by rw [← hwk.out]; rfl, by omega, by omega, by omega, by omega, HR4.out.drewN _, ⟨HA4.out.os, HA4.out.tape, HA4.out.output, HA4.out.size, HA4.out.block⟩⟩
          · have hdz1 : ((d : Int) == 1) = false := by simp; omega
            go_wp2
            go_ret2
            exact ⟨k, s, q + 1, rfl, by omega, by omega, hs, by omega, HR4.out, HA4.out⟩
  · have hkz : ((kind : Int) == 0) = false := by simp; omega
    have hkp : (0 : Int) < (kind : Int) := by omega
    clear hk0
    go_wp2
    go_loopw [5, 7] (fun u v wr => ∃ k s q : Nat, k ≤ n ∧ s < 2 ^ 13 ∧ q ≤ p + 2 + k ∧ u = .int .i64 (s : Int) ∧ v = .int .i64 (k : Int) ∧ Reader wr B R q ∧ Aside R W wr) (fun _ v _ => n - (intOf v).toNat)
    case atStart => exact ⟨0, 0, p + 1 + 1, Nat.zero_le _, by omega, by omega, rfl, rfl, HR2.out, HA2.out⟩
    case round =>
      obtain ⟨k, s, q, hk, hs, hq, rfl, rfl, hR3, hA3⟩ := hrel
      have HR3 := Lib.hid hR3
      have HA3 := Lib.hid hA3
      clear hR3 hA3
      by_cases hlt : k < n
      · go_wp2_with fail
        refine (draw_any wr B R q 2 HR3.out (by omega) (by omega) (by omega)).mono ?_
        rintro e w3 ⟨d, rfl, hd, hR4, hA4⟩
        have HR4 := Lib.hid hR4
        have HA4 := Lib.hid (HA3.out.trans hA4)
        clear hR4 hA4 hd
        by_cases hd0 : d = 0
        · subst hd0
          have hw := with_nat s k (by omega) (by omega)
          have hl := or_pow_lt 13 s k hs (by omega)
          go_wp2
          go_roundw
          case rel => exact ⟨k + 1, s ||| 2 ^ k, q + 1, by omega, hl, by omega, rfl, by go_num, HR4.out, HA4.out⟩
          case measure => simp [intOf]; omega
        · have hdz : ((d : Int) == 0) = false := by simp; omega
          go_wp2
          go_roundw
          case rel => exact ⟨k + 1, s, q + 1, by omega, hs, by omega, rfl, by go_num, HR4.out, HA4.out⟩
          case measure => simp [intOf]; omega
      · have e : k = n := by omega
        subst e
        go_wp2_with fail
        refine (draw_any wr B R q 60 HR3.out (by omega) (by omega) (by omega)).mono ?_
        rintro e w3 ⟨d, rfl, hd, hR4, hA4⟩
        have HR4 := Lib.hid hR4
        have HA4 := Lib.hid (HA3.out.trans hA4)
        clear hR4 hA4 hd
        by_cases hd0 : d = 0
        · subst hd0
          go_wp2
          go_ret2
          exact ⟨13, s, q + 1, rfl, by omega, by omega, hs, by omega, HR4.out, HA4.out⟩
        · have hdz : ((d : Int) == 0) = false := by simp; omega
          by_cases hd1 : d = 1
          · subst hd1
            have hpw := pow_le k (by omega)
            have hwk := Lib.hid (wrap_pow k (by omega))
            go_wp2
            go_quiet (fail)
            go_wp2
            go_ret2
            exact ⟨k, 2 ^ k, q + 1, by rw [← hwk.out]; rfl, by omega, by omega, by omega, by omega, HR4.out.drewN _, ⟨HA4.out.os, HA4.out.tape, HA4.out.output, HA4.out.size, HA4.out.block⟩⟩
          · have hdz1 : ((d : Int) == 1) = false := by simp; omega
            go_wp2
            go_ret2
            exact ⟨k, s, q + 1, rfl, by omega, by omega, hs, by omega, HR4.out, HA4.out⟩
def TwoPost (W : World) (e : Ending) (w' : World) : Prop :=
  ∃ n s t : Nat, e = .returned (.tuple #[.int .i64 (n : Int), .int .i64 (s : Int), .int .i64 (t : Int)]) ∧ 1 ≤ n ∧ n ≤ 13 ∧ s < 2 ^ 13 ∧ t < 2 ^ 13 ∧ Below W.heap.size W w'
end Go.Proofs.YtecjhkpldcmlaaaDoor
