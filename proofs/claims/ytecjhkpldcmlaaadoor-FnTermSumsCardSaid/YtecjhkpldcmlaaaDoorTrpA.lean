/- Terms, the program's side: terms as values, and the reader's small functions. -/
import Derived.Test.YtecjhkpldcmlaaaDoorShelf
import Derived.Test.YtecjhkpldcmlaaaDoorTrmB
import Derived.Test.YtecjhkpldcmlaaaDoorByt
import Derived.Test.YtecjhkpldcmlaaaDoorGC
import Derived.Test.YtecjhkpldcmlaaaDoorTake0
namespace Go.Proofs.YtecjhkpldcmlaaaDoor
open Go.RowKit Go.Shelf
set_option linter.unusedVariables false
attribute [local go_sem] Oper.semAt_some
/-- The type of a term's value. -/
def tyT : Tm → TypeId
  | .leaf c => if c = 101 then 106 else 109
  | .one c _ => if c = 33 then 152 else 153
  | .two _ _ _ => 111
/-- What a term's value holds. -/
def payT : Tm → Value
  | .leaf c => if c = 101 then .agg #[] else .int .i64 (placeB c)
  | .one c a => .agg #[.iface (tyT a) (payT a)]
  | .two c a b => .agg #[.int .u8 (c.toNat : Int), .iface (tyT a) (payT a), .iface (tyT b) (payT b)]
/-- Block B is a reader of the text s on a ring of n, at place k. -/
def Rdr (W : World) (B n : Nat) (s : ByteArray) (k : Int) : Prop := W.heap[B]? = some (.cells #[.int .i64 (n : Int), .string s, .int .i64 k] 113 (0, 0))
theorem Rdr.lt {W : World} {B n : Nat} {s : ByteArray} {k : Int} (h : Rdr W B n s k) : B < W.heap.size := (Array.getElem?_eq_some_iff.1 h).1
theorem Rdr.c0 {W : World} {B n : Nat} {s : ByteArray} {k : Int} (h : Rdr W B n s k) : W.cell? ⟨B, 0, none⟩ = some (.int .i64 (n : Int)) := by simp [World.cell?, show W.heap[B]? = _ from h]
theorem Rdr.c1 {W : World} {B n : Nat} {s : ByteArray} {k : Int} (h : Rdr W B n s k) : W.cell? ⟨B, 1, none⟩ = some (.string s) := by simp [World.cell?, show W.heap[B]? = _ from h]
theorem Rdr.c2 {W : World} {B n : Nat} {s : ByteArray} {k : Int} (h : Rdr W B n s k) : W.cell? ⟨B, 2, none⟩ = some (.int .i64 k) := by simp [World.cell?, show W.heap[B]? = _ from h]
theorem Rdr.fz {W : World} {B n : Nat} {s : ByteArray} {k : Int} (h : Rdr W B n s k) (i : Nat) : W.frozen? ⟨B, i, none⟩ = false := by simp [World.frozen?, show W.heap[B]? = _ from h]
theorem Rdr.at {W : World} {B n : Nat} {s : ByteArray} {k : Int} (h : Rdr W B n s k) (j : Int) : Rdr (W.setCell ⟨B, 2, none⟩ (.int .i64 j)) B n s j := by
  unfold Rdr at *
  simp [World.setCell, Array.getElem?_modify, h]
theorem Rdr.same {W W' : World} {B n : Nat} {s : ByteArray} {k : Int} (h : Rdr W B n s k) (e : W'.heap[B]? = W.heap[B]?) : Rdr W' B n s k := e.trans h
theorem aside_trans {B : Nat} {W W1 W2 : World} (h : Aside B W W1) (k : Aside B W1 W2) : Aside B W W2 :=
  ⟨k.os.trans h.os, k.tape.trans h.tape, k.output.trans h.output, Nat.le_trans h.size k.size, fun b hb hn => (k.block b (Nat.lt_of_lt_of_le hb h.size) hn).trans (h.block b hb hn)⟩
theorem aside_drew {B : Nat} {W W1 : World} (h : Aside B W W1) : Aside B W W1.drew := aside_trans h (Aside.start B W1)
theorem index_str (s : ByteArray) (k : Nat) (hk : k < s.size) : ∃ c : UInt8, s.toList.drop k = c :: s.toList.drop (k + 1) ∧ ∀ W, (Instr.index 9 (.string s) (.int .i64 (k : Int))).run Tryd.prog W = .ok (.int .u8 (c.toNat : Int)) W :=
  ⟨s[k], bytes_drop s k hk, fun W => by rw [run_index_string W 9 s .i64 (k : Int) Tryd.underlying9, dif_pos ⟨by omega, by omega⟩]; rfl⟩
theorem rd_wraps (k : Nat) (h : k < 4096) : (IntKind.i64.wrap ((k : Int) + 1) = (k : Int) + 1 ∧ wrap64 ((k : Int) + 1) = (k : Int) + 1) ∧ (IntKind.i64.wrap ((k : Int) + 1 - 1) = (k : Int) ∧ wrap64 ((k : Int) + 1 - 1) = (k : Int)) :=
  ⟨⟨IntWalk.i64_in _ ⟨by omega, by omega⟩, IntWalk.wrap64_in _ ⟨by omega, by omega⟩⟩, by rw [show (k : Int) + 1 - 1 = (k : Int) by omega]; exact ⟨IntWalk.i64_in _ ⟨by omega, by omega⟩, IntWalk.wrap64_in _ ⟨by omega, by omega⟩⟩⟩
set_option maxHeartbeats 1000000 in
/-- A sign is read. -/
theorem sign_yes (n B k : Nat) (s : ByteArray) (w : World) (hk : k < s.size) (h60 : s.size ≤ 60) (c : UInt8) (hidx : ∀ W, (Instr.index 9 (.string s) (.int .i64 (k : Int))).run Tryd.prog W = .ok (.int .u8 (c.toNat : Int)) W) (hR : Rdr w B n s (k : Int)) :
    Calls Tryd.prog 92 #[.pointer (some ⟨B, 0, none⟩)] w fun e w' => e = .returned (.int .u8 (c.toNat : Int)) ∧ Aside B w w' ∧ Rdr w' B n s ((k : Int) + 1) := by
  generalize c.toNat = x at *
  obtain ⟨N, hN⟩ : ∃ N, s.size = N := ⟨_, rfl⟩
  rw [hN] at hk h60
  obtain ⟨⟨m1, m2⟩, m3, m4⟩ := rd_wraps k (by omega)
  have hA1 := (Aside.refl B w).setAt 2 (.int .i64 ((k : Int) + 1))
  have hR1 := hR.at ((k : Int) + 1)
  have f2 := hR.fz 2
  have c2 := hR.c2
  have d1 := hR1.c1
  have d2 := hR1.c2
  have g1 : decide ((N : Int) < (k : Int) + 1) = false := decide_eq_false (by omega)
  have g2 : ¬ ((N : Int) < (k : Int) + 1) := by omega
  go_enter Tryd.func92, Tryd.ntmps92
  go_wp2
  go_region
  go_wp2
  go_region
  go_wp2
  go_ret
  exact ⟨rfl, aside_drew (aside_drew hA1), hR1⟩
set_option maxHeartbeats 1000000 in
/-- Behind the end there is no sign. -/
theorem sign_no (n B : Nat) (s : ByteArray) (w : World) (h60 : s.size ≤ 60) (hR : Rdr w B n s (s.size : Int)) :
    Calls Tryd.prog 92 #[.pointer (some ⟨B, 0, none⟩)] w fun e w' => e = .returned (.int .u8 0) ∧ Aside B w w' ∧ Rdr w' B n s ((s.size : Int) + 1) := by
  obtain ⟨N, hN⟩ : ∃ N, s.size = N := ⟨_, rfl⟩
  rw [hN] at h60 hR ⊢
  obtain ⟨⟨m1, m2⟩, m3, m4⟩ := rd_wraps N (by omega)
  have hA1 := (Aside.refl B w).setAt 2 (.int .i64 ((N : Int) + 1))
  have hR1 := hR.at ((N : Int) + 1)
  have f2 := hR.fz 2
  have c2 := hR.c2
  have d1 := hR1.c1
  have d2 := hR1.c2
  have g1 : decide ((N : Int) < (N : Int) + 1) = true := decide_eq_true (by omega)
  have g2 : (N : Int) < (N : Int) + 1 := by omega
  go_enter Tryd.func92, Tryd.ntmps92
  go_wp2
  go_region
  go_wp2
  go_ret
  exact ⟨rfl, aside_drew hA1, hR1⟩
theorem wrap_some (k : Int) : ∃ j, wrap64 (k - 1) = j := ⟨_, rfl⟩
/-- What is wrong. -/
theorem wrong_any (n B : Nat) (k : Int) (s : ByteArray) (w : World) (hR : Rdr w B n s k) :
    Calls Tryd.prog 102 #[.pointer (some ⟨B, 0, none⟩)] w fun e w' => (∃ j, e = .returned (.iface 85 (.agg #[.int .i64 j]))) ∧ w = w' := by
  have c2 := hR.c2
  go_enter Tryd.func102, Tryd.ntmps102
  go_wp2
  go_ret
  exact ⟨⟨_, rfl⟩, rfl⟩
def signL : List UInt8 := [48, 49, 50, 51, 52, 53, 54, 55, 56, 57, 120, 121]
def placeAt (n k : Nat) : Bool := decide (Lib.indexByte (signL.take n) (UInt8.ofNat k) = if 0 ≤ placeB (UInt8.ofNat k) ∧ placeB (UInt8.ofNat k) < (n : Int) then placeB (UInt8.ofNat k) else -1)
theorem place_at_all : ((List.range 13).all fun n => (List.range 256).all fun k => placeAt n k) = true := by decide +kernel
/-- Where a sign of a place is found. -/
theorem place_at (n : Nat) (c : UInt8) (hn : n ≤ 12) : Lib.indexByte (signL.take n) c = if 0 ≤ placeB c ∧ placeB c < (n : Int) then placeB c else -1 := by
  have h := List.all_eq_true.1 (List.all_eq_true.1 place_at_all n (List.mem_range.2 (by omega))) c.toNat (List.mem_range.2 c.toNat_lt)
  unfold placeAt at h
  rw [UInt8.ofNat_toNat] at h
  exact of_decide_eq_true h
theorem byte_u8 (c : UInt8) : (c.toNat : Int).toNat.toUInt8 = c := by
  rw [Int.toNat_natCast]
  show UInt8.ofNat c.toNat = c
  exact UInt8.ofNat_toNat
theorem slice_signs (n : Nat) (h1 : 1 ≤ n) (h2 : n ≤ 12) (W : World) : (Instr.sliceAt 9 (.string ⟨#[48, 49, 50, 51, 52, 53, 54, 55, 56, 57, 120, 121]⟩) none (some (.int .i64 (n : Int))) none).run Tryd.prog W = .ok (.string (toB (signL.take n))) W := by
  obtain rfl | rfl | rfl | rfl | rfl | rfl | rfl | rfl | rfl | rfl | rfl | rfl : n = 1 ∨ n = 2 ∨ n = 3 ∨ n = 4 ∨ n = 5 ∨ n = 6 ∨ n = 7 ∨ n = 8 ∨ n = 9 ∨ n = 10 ∨ n = 11 ∨ n = 12 := by omega
  all_goals kernel_rfl
set_option maxHeartbeats 1000000 in
/-- A sign of a place is read as a place of the ring, or is wrong. -/
theorem readPlace_any (n B : Nat) (k : Int) (s : ByteArray) (c : UInt8) (w : World) (h1 : 1 ≤ n) (h2 : n ≤ 12) (hR : Rdr w B n s k) :
    Calls Tryd.prog 95 #[.pointer (some ⟨B, 0, none⟩), .int .u8 (c.toNat : Int)] w fun e w' =>
      (if 0 ≤ placeB c ∧ placeB c < (n : Int) then e = .returned (.tuple #[.iface 109 (.int .i64 (placeB c)), .nilIface]) else ∃ j, e = .returned (.tuple #[.nilIface, .iface 85 (.agg #[.int .i64 j])])) ∧ w = w' := by
  have HI := Lib.hid (fun W => (show Calls Tryd.prog 58 #[.string (toB (signL.take n)), .int .u8 (c.toNat : Int)] W fun e w' => e = .returned (.int .i64 (if 0 ≤ placeB c ∧ placeB c < (n : Int) then placeB c else -1)) ∧ w' = W from by
    have h := Tryd.strings_IndexByte (toB (signL.take n)) (c.toNat : Int) W
    rw [byte_u8, show (toB (signL.take n)).data.toList = signL.take n from by simp [toB], place_at n c h2] at h
    exact h))
  have HS := fun W => slice_signs n h1 h2 W
  have HW := Lib.hid (fun W (hW : Rdr W B n s k) => wrong_any n B k s W hW)
  have HR := Lib.hid hR
  have c0 := hR.c0
  by_cases hp : 0 ≤ placeB c ∧ placeB c < (n : Int)
  · rw [if_pos hp] at HI
    simp only [if_pos hp]
    obtain ⟨p, hpp⟩ : ∃ p : Nat, placeB c = (p : Int) := ⟨(placeB c).toNat, by omega⟩
    rw [hpp] at HI ⊢
    have g1 : decide ((p : Int) < 0) = false := decide_eq_false (by omega)
    have g2 : ¬ (p : Int) < 0 := by omega
    clear hp hpp
    generalize toB (signL.take n) = X at *
    go_enter Tryd.func95, Tryd.ntmps95
    go_wp2_with fail
    refine (HI.out _).mono ?_
    rintro e w1 ⟨rfl, rfl⟩
    go_wp2
    go_ret2
    exact ⟨rfl, rfl⟩
  · rw [if_neg hp] at HI
    simp only [if_neg hp]
    clear hp
    generalize toB (signL.take n) = X at *
    go_enter Tryd.func95, Tryd.ntmps95
    go_wp2_with fail
    refine (HI.out _).mono ?_
    rintro e w1 ⟨rfl, rfl⟩
    go_wp2_with fail
    refine (HW.out _ HR.out).mono ?_
    rintro e w2 ⟨⟨j, rfl⟩, rfl⟩
    go_wp2
    go_ret2
    exact ⟨⟨j, rfl⟩, rfl⟩
end Go.Proofs.YtecjhkpldcmlaaaDoor
