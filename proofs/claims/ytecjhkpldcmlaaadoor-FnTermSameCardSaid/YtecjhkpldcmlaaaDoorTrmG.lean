/- Terms: the model reads texts. The head of this text is by hand; what follows read_end is written by gen136.py. -/
import Derived.Test.YtecjhkpldcmlaaaDoorTrmA
namespace Go.Proofs.YtecjhkpldcmlaaaDoor
open Go.RowKit Go.Shelf
set_option linter.unusedVariables false
attribute [local go_sem] Oper.semAt_some
/-- v is the tree t, its parts in memory from block N on. -/
def IsTmN (W : World) (N : Nat) : Tm → Value → Prop
  | .leaf c, v => ∃ A cap, v = .agg #[.int .u8 (c.toNat : Int), .slice A 0 cap]
  | .one c a, v => ∃ b x y, v = .agg #[.int .u8 (c.toNat : Int), .slice (some ⟨b, 0, none⟩) 1 1] ∧ N ≤ b ∧ W.cell? ⟨b, 0, none⟩ = some x ∧ W.cell? ⟨b, 1, none⟩ = some y ∧ IsTmN W N a (.agg #[x, y])
  | .two c a d, v => ∃ b x y z u, v = .agg #[.int .u8 (c.toNat : Int), .slice (some ⟨b, 0, none⟩) 2 2] ∧ N ≤ b ∧ W.cell? ⟨b, 0, none⟩ = some x ∧ W.cell? ⟨b, 1, none⟩ = some y ∧ W.cell? ⟨b, 2, none⟩ = some z ∧ W.cell? ⟨b, 3, none⟩ = some u ∧ IsTmN W N a (.agg #[x, y]) ∧ IsTmN W N d (.agg #[z, u])
theorem IsTmN.is {W : World} {N : Nat} (t : Tm) : ∀ {v : Value}, IsTmN W N t v → IsTm W t v := by
  induction t with
  | leaf c => intro v h; exact h
  | one c a ih => rintro v ⟨b, x, y, e, _, h0, h1, h2⟩; exact ⟨b, x, y, e, h0, h1, ih h2⟩
  | two c a d iha ihd => rintro v ⟨b, x, y, z, u, e, _, h0, h1, h2, h3, h4, h5⟩; exact ⟨b, x, y, z, u, e, h0, h1, h2, h3, iha h4, ihd h5⟩
/-- Whatever keeps all blocks from N on keeps the tree. -/
theorem IsTmN.keep {W W' : World} {N M : Nat} (hM : M ≤ N) (hk : ∀ b, N ≤ b → b < W.heap.size → W'.heap[b]? = W.heap[b]?) (t : Tm) : ∀ {v : Value}, IsTmN W N t v → IsTmN W' M t v := by
  have hc : ∀ {b i : Nat} {x : Value}, N ≤ b → W.cell? ⟨b, i, none⟩ = some x → W'.cell? ⟨b, i, none⟩ = some x := fun {b i x} hb h => by
    rw [World.cell?_of_block (w := W) (hk b hb (World.block_lt_of_cell? W _ h))]; exact h
  induction t with
  | leaf c => intro v h; exact h
  | one c a ih => rintro v ⟨b, x, y, e, hb, h0, h1, h2⟩; exact ⟨b, x, y, e, by omega, hc hb h0, hc hb h1, ih h2⟩
  | two c a d iha ihd => rintro v ⟨b, x, y, z, u, e, hb, h0, h1, h2, h3, h4, h5⟩; exact ⟨b, x, y, z, u, e, by omega, hc hb h0, hc hb h1, hc hb h2, hc hb h3, iha h4, ihd h5⟩
theorem IsTmN.below {W W' : World} {N : Nat} {t : Tm} {v : Value} (h : IsTmN W N t v) (hb : Below W.heap.size W W') : IsTmN W' N t v := IsTmN.keep (Nat.le_refl _) (fun b _ hl => hb.block b hl) t h
theorem IsTmN.agg {W : World} {N : Nat} {t : Tm} {v : Value} (h : IsTmN W N t v) : ∃ A l cap, v = .agg #[.int .u8 ((signT t).toNat : Int), .slice A l cap] := (IsTmN.is t h).agg
theorem Duo.fz {W : World} {B : Nat} {t : TypeId} {u v : Value} (h : Duo W B t u v) (i : Nat) : W.frozen? ⟨B, i, none⟩ = false := by simp [World.frozen?, show W.heap[B]? = _ from h]
theorem Duo.p0 {W : World} {B : Nat} {t : TypeId} {u v : Value} (h : Duo W B t u v) (y : Value) : Duo (W.setCell ⟨B, 0, none⟩ y) B t y v := by
  unfold Duo at *
  simp [World.setCell, Array.getElem?_modify, h]
theorem Duo.p1 {W : World} {B : Nat} {t : TypeId} {u v : Value} (h : Duo W B t u v) (y : Value) : Duo (W.setCell ⟨B, 1, none⟩ y) B t u y := by
  unfold Duo at *
  simp [World.setCell, Array.getElem?_modify, h]
theorem Duo.under {W W' : World} {B N : Nat} {t : TypeId} {u v : Value} (h : Duo W B t u v) (hN : B < N) (hb : Below N W W') : Duo W' B t u v := h.same (hb.block B hN)
/-- The results' box: what a return that stores a term into it wants, and what it leaves. -/
theorem ret_box {w Wx : World} {u v : Value} (hB : Below w.heap.size w Wx) (hD : Duo Wx w.heap.size 50 u v) (x y : Value) :
    (Wx.frozen? ⟨w.heap.size, 0, none⟩ = false ∧ Wx.cell? ⟨w.heap.size, 0, none⟩ = some u) ∧ ((Wx.setCell ⟨w.heap.size, 0, none⟩ x).frozen? ⟨w.heap.size, 1, none⟩ = false ∧ (Wx.setCell ⟨w.heap.size, 0, none⟩ x).cell? ⟨w.heap.size, 1, none⟩ = some v) ∧
    (((Wx.setCell ⟨w.heap.size, 0, none⟩ x).setCell ⟨w.heap.size, 1, none⟩ y).cell? ⟨w.heap.size, 0, none⟩ = some x ∧ ((Wx.setCell ⟨w.heap.size, 0, none⟩ x).setCell ⟨w.heap.size, 1, none⟩ y).cell? ⟨w.heap.size, 1, none⟩ = some y) ∧
    Wx.frozen? ⟨w.heap.size, 1, none⟩ = false ∧ Wx.cell? ⟨w.heap.size, 1, none⟩ = some v ∧
    Below w.heap.size w ((Wx.setCell ⟨w.heap.size, 0, none⟩ x).setCell ⟨w.heap.size, 1, none⟩ y) ∧ (∀ b, w.heap.size < b → ((Wx.setCell ⟨w.heap.size, 0, none⟩ x).setCell ⟨w.heap.size, 1, none⟩ y).heap[b]? = Wx.heap[b]?) := by
  have h1 := hD.p0 x
  have h2 := h1.p1 y
  refine ⟨⟨hD.fz 0, hD.cell0⟩, ⟨h1.fz 1, h1.cell1⟩, ⟨h2.cell0, h2.cell1⟩, hD.fz 1, hD.cell1, (hB.setCell (p := ⟨w.heap.size, 0, none⟩) (Nat.le_refl _) x).setCell (p := ⟨w.heap.size, 1, none⟩) (Nat.le_refl _) y, fun b hb => ?_⟩
  rw [Below.heap_setCell _ ⟨w.heap.size, 1, none⟩ y b (by show b ≠ w.heap.size; omega), Below.heap_setCell _ ⟨w.heap.size, 0, none⟩ x b (by show b ≠ w.heap.size; omega)]
/-- What reading from place k on tells. -/
def ReadPost (n : Nat) (s : ByteArray) (k : Nat) (w : World) (e : Ending) (w' : World) : Prop :=
  Below w.heap.size w w' ∧ ((readL n (s.toList.drop k) = none ∧ ∃ z A l c, e = .returned (.tuple #[.agg #[.int .u8 z, .slice A l c], .int .i64 0])) ∨
    ∃ t j v, readL n (s.toList.drop k) = some (t, s.toList.drop j) ∧ k < j ∧ j ≤ s.size ∧ e = .returned (.tuple #[v, .int .i64 ((j : Nat) : Int)]) ∧ IsTmN w' w.heap.size t v)
def ReadSays (n : Nat) (s : ByteArray) (k : Nat) : Prop := ∀ w, Calls Tryd.prog 66 #[.int .i64 (n:Int), .string s, .int .i64 (k:Int)] w (ReadPost n s k w)
theorem leaf101 (w : World) : Calls Tryd.prog 65 #[.int .u8 101] w fun e w' => (∃ A cap, e = .returned (.agg #[.int .u8 101, .slice A 0 cap])) ∧ Below w.heap.size w w' := l11Leaf_any 101 w
set_option maxHeartbeats 1000000 in
theorem read_end (n : Nat) (s : ByteArray) (k : Nat) (hk : k = s.size) (h60 : s.size ≤ 60) : ReadSays n s k := by
  intro w
  have HV := Lib.hid (show readL n (s.toList.drop k) = none by rw [bytes_end s k (by omega)]; rfl)
  have HL := Lib.hid (fun W => leaf101 W)
  have hB0 : Below w.heap.size w (w.alloc (.cells #[.int .u8 0, .slice none 0 0] 50)) := (Below.refl _ _).alloc (Nat.le_refl _) _
  have hD0 := Duo.new w 50 (.int .u8 0) (.slice none 0 0)
  obtain ⟨N, hN⟩ : ∃ N, s.size = N := ⟨_, rfl⟩
  obtain rfl : k = N := by omega
  have HN := Lib.hid hN
  clear hk
  go_enter Tryd.func66, Tryd.ntmps66
  go_wp2_with fail
  refine (HL.out _).mono ?_
  rintro e w1 ⟨⟨A, cap, rfl⟩, hb1⟩
  have hB1 := hB0.trans (hb1.mono hB0.size)
  have hD1 := hD0.under hD0.lt hb1
  have hB2 := hB1.alloc hB1.size (.cells #[.int .u8 101, .slice A 0 cap] 50)
  have hD2 := hD1.alloc (.cells #[.int .u8 101, .slice A 0 cap] 50)
  obtain ⟨⟨f0, g0⟩, ⟨f1, g1⟩, ⟨r0, r1⟩, f3, g3, hBz, _⟩ := ret_box hB2 hD2 (.int .u8 101) (.slice A 0 cap)
  go_wp2
  exact bodyPost_ret (v := .tuple #[.agg #[.int .u8 101, .slice A 0 cap], .int .i64 0]) (by simp [results, Tryd.results66, go_sem, r0, r1]) rfl ⟨hBz, .inl ⟨HV.out, _, _, _, _, rfl⟩⟩
theorem cons_at (s : ByteArray) (k : Nat) (hk : k < s.size) : ∃ c : UInt8, s.toList.drop k = c :: s.toList.drop (k + 1) ∧ ∀ W, (Instr.index 9 (.string s) (.int .i64 (k : Int))).run Tryd.prog W = .ok (.int .u8 (c.toNat : Int)) W :=
  ⟨s[k], bytes_drop s k hk, fun W => by rw [run_index_string W 9 s .i64 (k : Int) Tryd.underlying9, dif_pos ⟨by omega, by omega⟩]; rfl⟩
theorem up_wraps (k : Nat) (h : k < 4096) : IntKind.i64.wrap ((k : Int) + 1) = (k : Int) + 1 ∧ wrap64 ((k : Int) + 1) = (k : Int) + 1 := ⟨IntWalk.i64_in _ ⟨by omega, by omega⟩, IntWalk.wrap64_in _ ⟨by omega, by omega⟩⟩
set_option maxHeartbeats 2000000 in
theorem read_e (n : Nat) (s : ByteArray) (k : Nat) (h1 : 1 ≤ n) (h2 : n ≤ 12) (hk : k < s.size) (h60 : s.size ≤ 60) (c : UInt8) (hd : s.toList.drop k = c :: s.toList.drop (k + 1)) (hidx : ∀ W, (Instr.index 9 (.string s) (.int .i64 (k : Int))).run Tryd.prog W = .ok (.int .u8 (c.toNat : Int)) W) (hc : c = 101) : ReadSays n s k := by
  intro w
  subst hc
  have HV := Lib.hid (show readL n (s.toList.drop k) = some (.leaf 101, s.toList.drop (k + 1)) by rw [hd]; exact readL_leaf n 101 _ rfl)
  have hc' : (((101 : UInt8).toNat : Nat) : Int) = 101 := rfl
  rw [hc'] at hidx
  obtain ⟨N, hN⟩ : ∃ N, s.size = N := ⟨_, rfl⟩
  have HN := Lib.hid hN
  rw [hN] at hk h60
  have HL := Lib.hid (fun W => leaf101 W)
  have hB0 : Below w.heap.size w (w.alloc (.cells #[.int .u8 0, .slice none 0 0] 50)) := (Below.refl _ _).alloc (Nat.le_refl _) _
  have hD0 := Duo.new w 50 (.int .u8 0) (.slice none 0 0)
  have k1 : decide ((N : Int) ≤ (k : Int)) = false := decide_eq_false (by omega)
  have k2 : ¬ ((N : Int) ≤ (k : Int)) := by omega
  have k5 : ¬ (N ≤ k) := by omega
  have k6 : decide (N ≤ k) = false := decide_eq_false k5
  have k3 : (0 : Int) ≤ (k : Int) := by omega
  have k4 : (k : Int) < (N : Int) := by omega
  have HK := Lib.hid hk
  have H60 := Lib.hid h60
  obtain ⟨m1, m2⟩ := up_wraps k (by omega)
  clear hd hk h60
  go_enter Tryd.func66, Tryd.ntmps66
  go_wp2_with fail
  refine (HL.out _).mono ?_
  rintro e w1 ⟨⟨A, cap, rfl⟩, hb1⟩
  have hB2 := (hB0.trans (hb1.mono hB0.size)).alloc (hB0.trans (hb1.mono hB0.size)).size (.cells #[.int .u8 101, .slice A 0 cap] 50)
  have hD2 := (hD0.under hD0.lt hb1).alloc (.cells #[.int .u8 101, .slice A 0 cap] 50)
  have hE2 := Duo.new w1 50 (.int .u8 101) (.slice A 0 cap)
  have HL2 : Hid (w.heap.size < w1.heap.size) := Lib.hid (hD0.under hD0.lt hb1).lt
  clear hB0 hD0 hb1
  obtain ⟨⟨f0, g0⟩, ⟨f1, g1⟩, ⟨r0, r1⟩, f3, g3, hBz, hKp⟩ := ret_box hB2 hD2 (.int .u8 101) (.slice A 0 cap)
  go_wp2
  exact bodyPost_ret (v := .tuple #[.agg #[.int .u8 101, .slice A 0 cap], .int .i64 ((k + 1 : Nat) : Int)]) (by simp [results, Tryd.results66, go_sem, r0, r1]) rfl ⟨hBz, .inr ⟨.leaf 101, k + 1, _, HV.out, by omega, by have := HK.out; rw [HN.out]; omega, rfl, ⟨A, cap, rfl⟩⟩⟩
set_option maxHeartbeats 2000000 in
theorem read_far (n : Nat) (s : ByteArray) (k : Nat) (h1 : 1 ≤ n) (h2 : n ≤ 12) (hk : k < s.size) (h60 : s.size ≤ 60) (c : UInt8) (hd : s.toList.drop k = c :: s.toList.drop (k + 1)) (hidx : ∀ W, (Instr.index 9 (.string s) (.int .i64 (k : Int))).run Tryd.prog W = .ok (.int .u8 (c.toNat : Int)) W) (h0 : 0 ≤ placeB c) (hn : (n : Int) ≤ placeB c) : ReadSays n s k := by
  intro w
  have hc101 : c ≠ 101 := fun e => by subst e; exact absurd h0 (by decide)
  have hlf : isLeaf n c = false := by
    unfold isLeaf
    rw [decide_eq_false (show ¬ placeB c < (n : Int) by omega), Bool.and_false, Bool.or_false]
    exact beq_eq_false_iff_ne.2 hc101
  have hfr : isFront c = false := by
    cases h : isFront c
    · rfl
    · unfold isFront at h
      rw [Bool.or_eq_true, beq_iff_eq, beq_iff_eq] at h
      rcases h with rfl | rfl <;> exact absurd h0 (by decide)
  have h40 : c ≠ 40 := fun e => by subst e; exact absurd h0 (by decide)
  have HV := Lib.hid (show readL n (s.toList.drop k) = none by rw [hd]; exact readL_other n c _ hlf hfr h40)
  have hx : c.toNat ≠ 101 := fun e => hc101 ((u8_eq c 101 (by omega)).2 e)
  have HP := Lib.hid (fun W => l11Place_any c W)
  obtain ⟨p, hp⟩ : ∃ p : Nat, placeB c = (p : Int) := ⟨(placeB c).toNat, by omega⟩
  rw [hp] at HP hn
  clear hlf hfr h40 hc101 h0 hp
  generalize c.toNat = x at *
  have d0 : ((x : Int) == 101) = false := by simp; omega
  have p1 : decide ((0 : Int) ≤ (p : Int)) = true := decide_eq_true (by omega)
  have p2 : (0 : Int) ≤ (p : Int) := by omega
  have p3 : decide ((n : Int) ≤ (p : Int)) = true := decide_eq_true hn
  clear hx
  obtain ⟨N, hN⟩ : ∃ N, s.size = N := ⟨_, rfl⟩
  have HN := Lib.hid hN
  rw [hN] at hk h60
  have HL := Lib.hid (fun W => leaf101 W)
  have hB0 : Below w.heap.size w (w.alloc (.cells #[.int .u8 0, .slice none 0 0] 50)) := (Below.refl _ _).alloc (Nat.le_refl _) _
  have hD0 := Duo.new w 50 (.int .u8 0) (.slice none 0 0)
  have k1 : decide ((N : Int) ≤ (k : Int)) = false := decide_eq_false (by omega)
  have k2 : ¬ ((N : Int) ≤ (k : Int)) := by omega
  have k5 : ¬ (N ≤ k) := by omega
  have k6 : decide (N ≤ k) = false := decide_eq_false k5
  have k3 : (0 : Int) ≤ (k : Int) := by omega
  have k4 : (k : Int) < (N : Int) := by omega
  have HK := Lib.hid hk
  have H60 := Lib.hid h60
  obtain ⟨m1, m2⟩ := up_wraps k (by omega)
  clear hd hk h60
  go_enter Tryd.func66, Tryd.ntmps66
  go_wp2_with fail
  refine (HL.out _).mono ?_
  rintro e w1 ⟨⟨A, cap, rfl⟩, hb1⟩
  have hB2 := (hB0.trans (hb1.mono hB0.size)).alloc (hB0.trans (hb1.mono hB0.size)).size (.cells #[.int .u8 101, .slice A 0 cap] 50)
  have hD2 := (hD0.under hD0.lt hb1).alloc (.cells #[.int .u8 101, .slice A 0 cap] 50)
  have hE2 := Duo.new w1 50 (.int .u8 101) (.slice A 0 cap)
  have HL2 : Hid (w.heap.size < w1.heap.size) := Lib.hid (hD0.under hD0.lt hb1).lt
  clear hB0 hD0 hb1
  obtain ⟨⟨f0, g0⟩, ⟨f1, g1⟩, ⟨r0, r1⟩, f3, g3, hBz, hKp⟩ := ret_box hB2 hD2 (.int .u8 101) (.slice A 0 cap)
  go_wp2_with (go_at_call 60; refine (HP.out _).mono ?_; rintro e w9 ⟨rfl, rfl⟩)
  exact bodyPost_ret (v := .tuple #[.agg #[.int .u8 101, .slice A 0 cap], .int .i64 0]) (by simp [results, Tryd.results66, go_sem, r0, r1]) rfl ⟨hBz, .inl ⟨HV.out, _, _, _, _, rfl⟩⟩
set_option maxHeartbeats 2000000 in
theorem read_place (n : Nat) (s : ByteArray) (k : Nat) (h1 : 1 ≤ n) (h2 : n ≤ 12) (hk : k < s.size) (h60 : s.size ≤ 60) (c : UInt8) (hd : s.toList.drop k = c :: s.toList.drop (k + 1)) (hidx : ∀ W, (Instr.index 9 (.string s) (.int .i64 (k : Int))).run Tryd.prog W = .ok (.int .u8 (c.toNat : Int)) W) (h0 : 0 ≤ placeB c) (hn : placeB c < (n : Int)) : ReadSays n s k := by
  intro w
  have hc101 : c ≠ 101 := fun e => by subst e; exact absurd h0 (by decide)
  have hlf : isLeaf n c = true := by
    unfold isLeaf
    rw [decide_eq_true h0, decide_eq_true hn, Bool.and_true, Bool.or_true]
  have HV := Lib.hid (show readL n (s.toList.drop k) = some (.leaf c, s.toList.drop (k + 1)) by rw [hd]; exact readL_leaf n c _ hlf)
  have hx : c.toNat ≠ 101 := fun e => hc101 ((u8_eq c 101 (by omega)).2 e)
  have HLc := Lib.hid (fun W => l11Leaf_any c W)
  have HP := Lib.hid (fun W => l11Place_any c W)
  obtain ⟨p, hp⟩ : ∃ p : Nat, placeB c = (p : Int) := ⟨(placeB c).toNat, by omega⟩
  rw [hp] at HP hn
  have HX : Hid (∀ (W : World) (N : Nat) A cap, IsTmN W N (.leaf c) (.agg #[.int .u8 (c.toNat : Int), .slice A 0 cap])) := Lib.hid (fun W N A cap => ⟨A, cap, rfl⟩)
  clear hlf hc101 h0 hp
  generalize c.toNat = x at *
  have d0 : ((x : Int) == 101) = false := by simp; omega
  have p1 : decide ((0 : Int) ≤ (p : Int)) = true := decide_eq_true (by omega)
  have p2 : (0 : Int) ≤ (p : Int) := by omega
  have p3 : decide ((n : Int) ≤ (p : Int)) = false := decide_eq_false (by omega)
  have p4 : ¬ ((n : Int) ≤ (p : Int)) := by omega
  clear hx hn
  obtain ⟨N, hN⟩ : ∃ N, s.size = N := ⟨_, rfl⟩
  have HN := Lib.hid hN
  rw [hN] at hk h60
  have HL := Lib.hid (fun W => leaf101 W)
  have hB0 : Below w.heap.size w (w.alloc (.cells #[.int .u8 0, .slice none 0 0] 50)) := (Below.refl _ _).alloc (Nat.le_refl _) _
  have hD0 := Duo.new w 50 (.int .u8 0) (.slice none 0 0)
  have k1 : decide ((N : Int) ≤ (k : Int)) = false := decide_eq_false (by omega)
  have k2 : ¬ ((N : Int) ≤ (k : Int)) := by omega
  have k5 : ¬ (N ≤ k) := by omega
  have k6 : decide (N ≤ k) = false := decide_eq_false k5
  have k3 : (0 : Int) ≤ (k : Int) := by omega
  have k4 : (k : Int) < (N : Int) := by omega
  have HK := Lib.hid hk
  have H60 := Lib.hid h60
  obtain ⟨m1, m2⟩ := up_wraps k (by omega)
  clear hd hk h60
  go_enter Tryd.func66, Tryd.ntmps66
  go_wp2_with fail
  refine (HL.out _).mono ?_
  rintro e w1 ⟨⟨A, cap, rfl⟩, hb1⟩
  have hB2 := (hB0.trans (hb1.mono hB0.size)).alloc (hB0.trans (hb1.mono hB0.size)).size (.cells #[.int .u8 101, .slice A 0 cap] 50)
  have hD2 := (hD0.under hD0.lt hb1).alloc (.cells #[.int .u8 101, .slice A 0 cap] 50)
  have hE2 := Duo.new w1 50 (.int .u8 101) (.slice A 0 cap)
  have HL2 : Hid (w.heap.size < w1.heap.size) := Lib.hid (hD0.under hD0.lt hb1).lt
  clear hB0 hD0 hb1
  go_wp2_with fail
  refine (HP.out _).mono ?_
  rintro e w9 ⟨rfl, rfl⟩
  go_wp2_with fail
  refine (HP.out _).mono ?_
  rintro e w9 ⟨rfl, rfl⟩
  go_wp2_with fail
  refine (HLc.out _).mono ?_
  rintro e w3 ⟨⟨A3, cap3, rfl⟩, hb3⟩
  have hB3 := hB2.trans (hb3.mono hB2.size)
  have hD3 := hD2.under hD2.lt hb3
  obtain ⟨⟨f0, g0⟩, ⟨f1, g1⟩, ⟨r0, r1⟩, f3, g3, hBz, hKp⟩ := ret_box hB3 hD3 (.int .u8 (x : Int)) (.slice A3 0 cap3)
  go_wp2
  exact bodyPost_ret (v := .tuple #[.agg #[.int .u8 (x : Int), .slice A3 0 cap3], .int .i64 ((k + 1 : Nat) : Int)]) (by simp [results, Tryd.results66, go_sem, r0, r1]) rfl ⟨hBz, .inr ⟨.leaf c, k + 1, _, HV.out, by omega, by have := HK.out; rw [HN.out]; omega, rfl, HX.out _ _ _ _⟩⟩
set_option maxHeartbeats 2000000 in
theorem read_other (n : Nat) (s : ByteArray) (k : Nat) (h1 : 1 ≤ n) (h2 : n ≤ 12) (hk : k < s.size) (h60 : s.size ≤ 60) (c : UInt8) (hd : s.toList.drop k = c :: s.toList.drop (k + 1)) (hidx : ∀ W, (Instr.index 9 (.string s) (.int .i64 (k : Int))).run Tryd.prog W = .ok (.int .u8 (c.toNat : Int)) W) (h0 : placeB c < 0) (he : c ≠ 101) (hf : isFront c = false) (h40 : c ≠ 40) : ReadSays n s k := by
  intro w
  have hlf : isLeaf n c = false := by
    unfold isLeaf
    rw [decide_eq_false (show ¬ 0 ≤ placeB c by omega), Bool.false_and, Bool.or_false]
    exact beq_eq_false_iff_ne.2 he
  have HV := Lib.hid (show readL n (s.toList.drop k) = none by rw [hd]; exact readL_other n c _ hlf hf h40)
  have x1 : c.toNat ≠ 101 := fun e => he ((u8_eq c 101 (by omega)).2 e)
  have x2 : c.toNat ≠ 33 := fun e => by rw [(u8_eq c 33 (by omega)).2 e] at hf; exact absurd hf (by decide)
  have x3 : c.toNat ≠ 45 := fun e => by rw [(u8_eq c 45 (by omega)).2 e] at hf; exact absurd hf (by decide)
  have x4 : c.toNat ≠ 40 := fun e => h40 ((u8_eq c 40 (by omega)).2 e)
  have HP := Lib.hid (fun W => l11Place_any c W)
  generalize placeB c = p at *
  clear hlf hf h40 he
  generalize c.toNat = x at *
  have d0 : ((x : Int) == 101) = false := by simp; omega
  have d1 : ((x : Int) == 33) = false := by simp; omega
  have d2 : ((x : Int) == 45) = false := by simp; omega
  have d3 : ((x : Int) == 40) = false := by simp; omega
  have d4 : ((x : Int) != 40) = true := by simp; omega
  have p1 : decide ((0 : Int) ≤ p) = false := decide_eq_false (by omega)
  have p2 : ¬ (0 : Int) ≤ p := by omega
  clear x1 x2 x3 x4 h0
  obtain ⟨N, hN⟩ : ∃ N, s.size = N := ⟨_, rfl⟩
  have HN := Lib.hid hN
  rw [hN] at hk h60
  have HL := Lib.hid (fun W => leaf101 W)
  have hB0 : Below w.heap.size w (w.alloc (.cells #[.int .u8 0, .slice none 0 0] 50)) := (Below.refl _ _).alloc (Nat.le_refl _) _
  have hD0 := Duo.new w 50 (.int .u8 0) (.slice none 0 0)
  have k1 : decide ((N : Int) ≤ (k : Int)) = false := decide_eq_false (by omega)
  have k2 : ¬ ((N : Int) ≤ (k : Int)) := by omega
  have k5 : ¬ (N ≤ k) := by omega
  have k6 : decide (N ≤ k) = false := decide_eq_false k5
  have k3 : (0 : Int) ≤ (k : Int) := by omega
  have k4 : (k : Int) < (N : Int) := by omega
  have HK := Lib.hid hk
  have H60 := Lib.hid h60
  obtain ⟨m1, m2⟩ := up_wraps k (by omega)
  clear hd hk h60
  go_enter Tryd.func66, Tryd.ntmps66
  go_wp2_with fail
  refine (HL.out _).mono ?_
  rintro e w1 ⟨⟨A, cap, rfl⟩, hb1⟩
  have hB2 := (hB0.trans (hb1.mono hB0.size)).alloc (hB0.trans (hb1.mono hB0.size)).size (.cells #[.int .u8 101, .slice A 0 cap] 50)
  have hD2 := (hD0.under hD0.lt hb1).alloc (.cells #[.int .u8 101, .slice A 0 cap] 50)
  have hE2 := Duo.new w1 50 (.int .u8 101) (.slice A 0 cap)
  have HL2 : Hid (w.heap.size < w1.heap.size) := Lib.hid (hD0.under hD0.lt hb1).lt
  clear hB0 hD0 hb1
  obtain ⟨⟨f0, g0⟩, ⟨f1, g1⟩, ⟨r0, r1⟩, f3, g3, hBz, hKp⟩ := ret_box hB2 hD2 (.int .u8 101) (.slice A 0 cap)
  go_wp2_with (go_at_call 60; refine (HP.out _).mono ?_; rintro e w9 ⟨rfl, rfl⟩)
  exact bodyPost_ret (v := .tuple #[.agg #[.int .u8 101, .slice A 0 cap], .int .i64 0]) (by simp [results, Tryd.results66, go_sem, r0, r1]) rfl ⟨hBz, .inl ⟨HV.out, _, _, _, _, rfl⟩⟩
theorem slice_one (W : World) (u v : Value) : (W.alloc (.cells #[u, v] 50)).cell? ⟨W.heap.size, 0, none⟩ = some u ∧ (W.alloc (.cells #[u, v] 50)).cell? ⟨W.heap.size, 1, none⟩ = some v := ⟨(Duo.new W _ u v).cell0, (Duo.new W _ u v).cell1⟩
set_option maxHeartbeats 4000000 in
theorem read_front (n : Nat) (s : ByteArray) (k : Nat) (h1 : 1 ≤ n) (h2 : n ≤ 12) (hk : k < s.size) (h60 : s.size ≤ 60) (c : UInt8) (hd : s.toList.drop k = c :: s.toList.drop (k + 1)) (hidx : ∀ W, (Instr.index 9 (.string s) (.int .i64 (k : Int))).run Tryd.prog W = .ok (.int .u8 (c.toNat : Int)) W) (hf : isFront c = true) (ih : ReadSays n s (k + 1)) : ReadSays n s k := by
  intro w
  have hp : placeB c = -1 ∧ (c = 33 ∨ c = 45) := by
    unfold isFront at hf
    rw [Bool.or_eq_true, beq_iff_eq, beq_iff_eq] at hf
    rcases hf with rfl | rfl
    · exact ⟨rfl, .inl rfl⟩
    · exact ⟨rfl, .inr rfl⟩
  have HV := Lib.hid (show readL n (s.toList.drop k) = (readL n (s.toList.drop (k + 1))).map fun p => (.one c p.1, p.2) by rw [hd]; exact readL_front n c _ hf)
  have HIH := Lib.hid (fun W => ih W)
  have HP := Lib.hid (fun W => l11Place_any c W)
  rw [hp.1] at HP
  have x1 : c.toNat ≠ 101 := fun e => by rcases hp.2 with h | h <;> (rw [h] at e; exact absurd e (by decide))
  have x2 : c.toNat = 33 ∨ c.toNat = 45 := by rcases hp.2 with h | h <;> (rw [h]; decide)
  have HX : Hid (∀ (W : World) (M b : Nat) (a : Tm) x y, M ≤ b → W.cell? ⟨b, 0, none⟩ = some x → W.cell? ⟨b, 1, none⟩ = some y → IsTmN W M a (.agg #[x, y]) → IsTmN W M (.one c a) (.agg #[.int .u8 (c.toNat : Int), .slice (some ⟨b, 0, none⟩) 1 1])) := Lib.hid (fun W M b a x y h0 h1 h2 h3 => ⟨b, x, y, rfl, h0, h1, h2, h3⟩)
  clear hp hf ih
  generalize c.toNat = x at *
  have d0 : ((x : Int) == 101) = false := by simp; omega
  have HSg : Hid (x = 33 ∨ x = 45) := Lib.hid x2
  have d1 : ((x : Int) == 33) = true ∨ (((x : Int) == 33) = false ∧ ((x : Int) == 45) = true) := by
    rcases x2 with e | e
    · left; simp; omega
    · right; constructor <;> (simp; omega)
  have p1 : decide ((0 : Int) ≤ -1) = false := rfl
  clear x1 x2
  obtain ⟨N, hN⟩ : ∃ N, s.size = N := ⟨_, rfl⟩
  have HN := Lib.hid hN
  rw [hN] at hk h60
  have HL := Lib.hid (fun W => leaf101 W)
  have hB0 : Below w.heap.size w (w.alloc (.cells #[.int .u8 0, .slice none 0 0] 50)) := (Below.refl _ _).alloc (Nat.le_refl _) _
  have hD0 := Duo.new w 50 (.int .u8 0) (.slice none 0 0)
  have k1 : decide ((N : Int) ≤ (k : Int)) = false := decide_eq_false (by omega)
  have k2 : ¬ ((N : Int) ≤ (k : Int)) := by omega
  have k5 : ¬ (N ≤ k) := by omega
  have k6 : decide (N ≤ k) = false := decide_eq_false k5
  have k3 : (0 : Int) ≤ (k : Int) := by omega
  have k4 : (k : Int) < (N : Int) := by omega
  have HK := Lib.hid hk
  have H60 := Lib.hid h60
  obtain ⟨m1, m2⟩ := up_wraps k (by omega)
  clear hd hk h60
  go_enter Tryd.func66, Tryd.ntmps66
  go_wp2_with fail
  refine (HL.out _).mono ?_
  rintro e w1 ⟨⟨A, cap, rfl⟩, hb1⟩
  have hB2 := (hB0.trans (hb1.mono hB0.size)).alloc (hB0.trans (hb1.mono hB0.size)).size (.cells #[.int .u8 101, .slice A 0 cap] 50)
  have hD2 := (hD0.under hD0.lt hb1).alloc (.cells #[.int .u8 101, .slice A 0 cap] 50)
  have hE2 := Duo.new w1 50 (.int .u8 101) (.slice A 0 cap)
  have HL2 : Hid (w.heap.size < w1.heap.size) := Lib.hid (hD0.under hD0.lt hb1).lt
  clear hB0 hD0 hb1
  go_wp2_with fail
  refine (HP.out _).mono ?_
  rintro e w9 ⟨rfl, rfl⟩
  rcases d1 with d1 | ⟨d1, d2⟩
  · go_wp2_with fail
    refine (HIH.out _).mono ?_
    rintro e w3 ⟨hb3, hr⟩
    have hB3 := hB2.trans (hb3.mono hB2.size)
    have hD3 := hD2.under hD2.lt hb3
    rcases hr with ⟨hno, z, A3, l3, c3, rfl⟩ | ⟨t, j, v, hyes, hj1, hj2, rfl, hI⟩
    · have HV2 : Hid (readL n (s.toList.drop k) = none) := Lib.hid (by rw [HV.out, hno]; rfl)
      have hB4 := (hB3.alloc hB3.size (.cells #[.int .u8 z, .slice A3 l3 c3] 50)).alloc ((hB3.alloc hB3.size (.cells #[.int .u8 z, .slice A3 l3 c3] 50)).size) (.cells #[.int .u8 z, .slice A3 l3 c3] 50)
      have hD4 := (hD3.alloc (.cells #[.int .u8 z, .slice A3 l3 c3] 50)).alloc (.cells #[.int .u8 z, .slice A3 l3 c3] 50)
      obtain ⟨⟨f0, g0⟩, ⟨f1, g1⟩, ⟨r0, r1⟩, f3, g3, hBz, hKp⟩ := ret_box hB4 hD4 (.int .u8 (x : Int)) (.slice (some ⟨w3.heap.size + 1, 0, none⟩) 1 1)
      clear hB4 hD4 hno HV
      go_wp2
      exact bodyPost_ret (v := .tuple #[.agg #[.int .u8 (x : Int), .slice (some ⟨w3.heap.size + 1, 0, none⟩) 1 1], .int .i64 0]) (by simp [results, Tryd.results66, go_sem, r0, r1]) rfl ⟨hBz, .inl ⟨HV2.out, _, _, _, _, rfl⟩⟩
    · obtain ⟨A3, l3, c3, rfl⟩ := hI.agg
      have HV2 : Hid (readL n (s.toList.drop k) = some (.one c t, s.toList.drop j)) := Lib.hid (by rw [HV.out, hyes]; rfl)
      generalize (signT t).toNat = z at *
      have hB4 := (hB3.alloc hB3.size (.cells #[.int .u8 (z : Int), .slice A3 l3 c3] 50)).alloc ((hB3.alloc hB3.size (.cells #[.int .u8 (z : Int), .slice A3 l3 c3] 50)).size) (.cells #[.int .u8 (z : Int), .slice A3 l3 c3] 50)
      have hD4 := (hD3.alloc (.cells #[.int .u8 (z : Int), .slice A3 l3 c3] 50)).alloc (.cells #[.int .u8 (z : Int), .slice A3 l3 c3] 50)
      have hs := slice_one (w3.alloc (.cells #[.int .u8 (z : Int), .slice A3 l3 c3] 50)) (.int .u8 (z : Int)) (.slice A3 l3 c3)
      simp only [World.size_alloc] at hs
      have hI4 := (hI.below ((Below.refl _ w3).alloc (Nat.le_refl _) (.cells #[.int .u8 (z : Int), .slice A3 l3 c3] 50))).below ((Below.refl _ _).alloc (Nat.le_refl _) (.cells #[.int .u8 (z : Int), .slice A3 l3 c3] 50))
      obtain ⟨⟨f0, g0⟩, ⟨f1, g1⟩, ⟨r0, r1⟩, f3, g3, hBz, hKp⟩ := ret_box hB4 hD4 (.int .u8 (x : Int)) (.slice (some ⟨w3.heap.size + 1, 0, none⟩) 1 1)
      have hw3 : w.heap.size < w3.heap.size := hD3.lt
      have hl2 := HL2.out
      have HQ := Lib.hid (HX.out _ w.heap.size (w3.heap.size + 1) t _ _ (by omega) ((World.cell?_of_block (hKp (w3.heap.size + 1) (by omega))).trans hs.1) ((World.cell?_of_block (hKp (w3.heap.size + 1) (by omega))).trans hs.2) (IsTmN.keep (M := w.heap.size) (by simp; omega) (fun b hb _ => hKp b (by have h9 := World.size_alloc w1 (.cells #[.int .u8 101, .slice A 0 cap] 50); omega)) t hI4))
      have HJ := Lib.hid (And.intro hj1 hj2)
      clear hB4 hD4 hyes HV hs hI hI4 hj1 hj2 HX hKp hw3 hl2
      go_wp2
      exact bodyPost_ret (v := .tuple #[.agg #[.int .u8 (x : Int), .slice (some ⟨w3.heap.size + 1, 0, none⟩) 1 1], .int .i64 ((j : Nat) : Int)]) (by simp [results, Tryd.results66, go_sem, r0, r1]) rfl ⟨hBz, .inr ⟨.one c t, j, _, HV2.out, by have := HJ.out.1; omega, HJ.out.2, rfl, HQ.out⟩⟩
  · go_wp2_with fail
    refine (HIH.out _).mono ?_
    rintro e w3 ⟨hb3, hr⟩
    have hB3 := hB2.trans (hb3.mono hB2.size)
    have hD3 := hD2.under hD2.lt hb3
    rcases hr with ⟨hno, z, A3, l3, c3, rfl⟩ | ⟨t, j, v, hyes, hj1, hj2, rfl, hI⟩
    · have HV2 : Hid (readL n (s.toList.drop k) = none) := Lib.hid (by rw [HV.out, hno]; rfl)
      have hB4 := (hB3.alloc hB3.size (.cells #[.int .u8 z, .slice A3 l3 c3] 50)).alloc ((hB3.alloc hB3.size (.cells #[.int .u8 z, .slice A3 l3 c3] 50)).size) (.cells #[.int .u8 z, .slice A3 l3 c3] 50)
      have hD4 := (hD3.alloc (.cells #[.int .u8 z, .slice A3 l3 c3] 50)).alloc (.cells #[.int .u8 z, .slice A3 l3 c3] 50)
      obtain ⟨⟨f0, g0⟩, ⟨f1, g1⟩, ⟨r0, r1⟩, f3, g3, hBz, hKp⟩ := ret_box hB4 hD4 (.int .u8 (x : Int)) (.slice (some ⟨w3.heap.size + 1, 0, none⟩) 1 1)
      clear hB4 hD4 hno HV
      go_wp2
      exact bodyPost_ret (v := .tuple #[.agg #[.int .u8 (x : Int), .slice (some ⟨w3.heap.size + 1, 0, none⟩) 1 1], .int .i64 0]) (by simp [results, Tryd.results66, go_sem, r0, r1]) rfl ⟨hBz, .inl ⟨HV2.out, _, _, _, _, rfl⟩⟩
    · obtain ⟨A3, l3, c3, rfl⟩ := hI.agg
      have HV2 : Hid (readL n (s.toList.drop k) = some (.one c t, s.toList.drop j)) := Lib.hid (by rw [HV.out, hyes]; rfl)
      generalize (signT t).toNat = z at *
      have hB4 := (hB3.alloc hB3.size (.cells #[.int .u8 (z : Int), .slice A3 l3 c3] 50)).alloc ((hB3.alloc hB3.size (.cells #[.int .u8 (z : Int), .slice A3 l3 c3] 50)).size) (.cells #[.int .u8 (z : Int), .slice A3 l3 c3] 50)
      have hD4 := (hD3.alloc (.cells #[.int .u8 (z : Int), .slice A3 l3 c3] 50)).alloc (.cells #[.int .u8 (z : Int), .slice A3 l3 c3] 50)
      have hs := slice_one (w3.alloc (.cells #[.int .u8 (z : Int), .slice A3 l3 c3] 50)) (.int .u8 (z : Int)) (.slice A3 l3 c3)
      simp only [World.size_alloc] at hs
      have hI4 := (hI.below ((Below.refl _ w3).alloc (Nat.le_refl _) (.cells #[.int .u8 (z : Int), .slice A3 l3 c3] 50))).below ((Below.refl _ _).alloc (Nat.le_refl _) (.cells #[.int .u8 (z : Int), .slice A3 l3 c3] 50))
      obtain ⟨⟨f0, g0⟩, ⟨f1, g1⟩, ⟨r0, r1⟩, f3, g3, hBz, hKp⟩ := ret_box hB4 hD4 (.int .u8 (x : Int)) (.slice (some ⟨w3.heap.size + 1, 0, none⟩) 1 1)
      have hw3 : w.heap.size < w3.heap.size := hD3.lt
      have hl2 := HL2.out
      have HQ := Lib.hid (HX.out _ w.heap.size (w3.heap.size + 1) t _ _ (by omega) ((World.cell?_of_block (hKp (w3.heap.size + 1) (by omega))).trans hs.1) ((World.cell?_of_block (hKp (w3.heap.size + 1) (by omega))).trans hs.2) (IsTmN.keep (M := w.heap.size) (by simp; omega) (fun b hb _ => hKp b (by have h9 := World.size_alloc w1 (.cells #[.int .u8 101, .slice A 0 cap] 50); omega)) t hI4))
      have HJ := Lib.hid (And.intro hj1 hj2)
      clear hB4 hD4 hyes HV hs hI hI4 hj1 hj2 HX hKp hw3 hl2
      go_wp2
      exact bodyPost_ret (v := .tuple #[.agg #[.int .u8 (x : Int), .slice (some ⟨w3.heap.size + 1, 0, none⟩) 1 1], .int .i64 ((j : Nat) : Int)]) (by simp [results, Tryd.results66, go_sem, r0, r1]) rfl ⟨hBz, .inr ⟨.one c t, j, _, HV2.out, by have := HJ.out.1; omega, HJ.out.2, rfl, HQ.out⟩⟩
end Go.Proofs.YtecjhkpldcmlaaaDoor
