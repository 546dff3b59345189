/- FarWord: the program's walk, and the exact law. -/
import Derived.Test.YtgonanembcnlgaaFarK
import Derived.Test.YtgonanembcnlgaaBut
import Derived.Test.YtgonanembcnlgaaFarH
namespace Go.Proofs.Ytgonanembcnlgaa
open Go.RowKit Go.Shelf
set_option linter.unusedVariables false
attribute [local go_sem] Oper.semAt_some
/-- The word so far: a slice of room for all its steps, which lies in block G. -/
def WordIn (W : World) (b G d0 : Nat) (xs : List Int) : Prop := W.ownsRow b 3 1 (.slice (some ⟨G, 0, none⟩) xs.length d0) xs.length (xs.map (Value.int .i64))
theorem WordIn.same {W W' : World} {b G d0 : Nat} {xs : List Int} (h : WordIn W b G d0 xs) (e : W'.heap[G]? = W.heap[G]?) : WordIn W' b G d0 xs := by
  refine ⟨h.1, ?_⟩
  rcases h.2 with ⟨h3, h4⟩ | ⟨g, cap, cur, h3, h4, h5, h6⟩
  · exact .inl ⟨h3, h4⟩
  · have hg : g = G := by injection h3 with h3; injection h3 with h3; injection h3 with h3; exact h3.symm
    subst hg
    exact .inr ⟨g, cap, cur, h3, h4, e.trans h5, h6⟩
theorem WordIn.lt {W : World} {b G d0 : Nat} {xs : List Int} (h : WordIn W b G d0 xs) : G < W.heap.size := (World.ownsRow.lt h G rfl).2
theorem word_own (b G d0 : Nat) {β : Type} (f : β → List Int) {B : Nat} (hG : G < B) : OwnFrom B (fun s W => WordIn W b G d0 (f s)) :=
  fun s W W' row h hg hr => h.same (hg.block G h.lt (fun e => by have := (hr G e.symm).1; omega))
/-- The number in the box at B. -/
def boxN (w : World) (B : Nat) : Nat := (intOf ((w.cell? ⟨B, 0, none⟩).getD undef)).toNat
theorem boxN_eq {w : World} {B x : Nat} {t : TypeId} (h : Boxed w B t (.int .i64 (x : Int))) : boxN w B = x := by
  unfold boxN
  rw [h.cell]
  simp [intOf]
/-- The blocks that a word's loop writes. -/
def WordT (b : Nat) (k : Nat) : Prop := k = b + 1 ∨ k = b + 1 + 1 ∨ k = b + 1 + 1 + 1
theorem tri_ownB {β : Type} (B n s M : Nat) {N : Nat} (hB : B < N) : OwnFrom N (fun (_ : β) W => Tri W B n s M) := tri_own B n s M hB
set_option maxRecDepth 100000 in
set_option maxHeartbeats 4000000 in
theorem word_any (n s M v d0 : Nat) (w : World) (h1 : 1 ≤ n) (h2 : n ≤ 12) (hs : s < 2 ^ n) (h0 : s.testBit 0 = false) (hv : v < n) (hd : distN n s v = (d0 : Int)) (hT : Tells w M (partN n s) (farN n s)) :
    Calls Try.prog 52 #[.agg #[.int .i64 (n:Int), .int .i64 (s:Int), .map (some M)], .int .i64 (v:Int)] w fun e w' => ∃ sv, e = .returned sv ∧ Below w.heap.size w w' ∧ IsInts w' w.heap.size sv (wordN n s d0 v) := by
  have hdr := distN_range n s v
  have hd12 : d0 ≤ 12 := by omega
  have hM := hT.lt
  have HE := Lib.hid (word_end n s v d0 h1 h2 hs h0 hv hd hd12)
  have HF := Lib.hid (fun pre => st_fair n s v d0 h1 hv hd pre)
  have hat : atS (partN n s) (farN n s) (v : Int) = (d0 : Int) := by
    rw [atS_dist, part_of n s v d0 hd, hd]; rfl
  obtain ⟨i0, hi, hz0, hz1, hz2⟩ := info_parts Try.infoI
  have hmk : ∀ W, (Instr.makeSlice 25 (.int .i64 0) (.int .i64 (d0:Int))).run Try.prog W = .ok (.slice (some ⟨W.heap.size, 0, none⟩) 0 d0) (W.alloc (.cells (madeCells #[.int .i64 0] d0) 3)) := fun W => by
    have h := run_make (P := Try.prog) W 25 3 i0 _ Try.underlying25 hi hz0 .i64 .i64 0 (d0:Int) (Int.le_refl _) (by omega) (by rw [hz2]; omega) (by omega)
    simp only [hz1, Nat.mul_one, Int.toNat_natCast] at h
    exact h
  have HTri := Tri.new w n s M
  have hTw := hT.alloc (.cells #[.int .i64 (n : Int), .int .i64 (s : Int), .map (some M)] 45)
  have hV0 := Boxed.new (w.alloc (.cells #[.int .i64 (n : Int), .int .i64 (s : Int), .map (some M)] 45)) 3 (.int .i64 (v:Int))
  have hTri2 := HTri.alloc (.cells #[.int .i64 (v:Int)] 3)
  have hT2 := hTw.alloc (.cells #[.int .i64 (v:Int)] 3)
  have hB2 : Below w.heap.size w ((w.alloc (.cells #[.int .i64 (n : Int), .int .i64 (s : Int), .map (some M)] 45)).alloc (.cells #[.int .i64 (v:Int)] 3)) := ((Below.refl _ _).alloc (Nat.le_refl _) _).alloc (by simp) _
  have z2 : ((w.alloc (.cells #[.int .i64 (n : Int), .int .i64 (s : Int), .map (some M)] 45)).alloc (.cells #[.int .i64 (v:Int)] 3)).heap.size = w.heap.size + 2 := by simp
  rw [World.size_alloc] at hV0
  have cx := run_looks hT2 (v : Int) ⟨by omega, by omega⟩ (d0 : Int) hat
  have HT2 := Lib.hid hT2
  have hmk2 := hmk ((w.alloc (.cells #[.int .i64 (n : Int), .int .i64 (s : Int), .map (some M)] 45)).alloc (.cells #[.int .i64 (v:Int)] 3))
  have HZ2 := Lib.hid z2
  clear hT hTw hT2 h0 hd hat hmk z2
  refine (callsIn_wide (n := 9)).1 ?_
  refine callsIn_of_wp_marks Try.func52 rfl trivial ?_ rfl
  simp only [Try.ntmps52, List.size_toArray, List.length_cons, List.length_nil, Nat.reduceAdd, Nat.reduceSub, Array.replicate_succ, Array.replicate_zero, List.push_toArray, List.append_toArray, List.nil_append, List.cons_append]
  gi_wp2_with (refine ⟨trivial, ?_⟩; gi_at_call 73; refine (callsIn_wide.2 (places_any _ _)).mono ?_; rintro e w' ⟨rfl, rfl⟩)
  have bD := ((hTri2.alloc (.cells (madeCells #[.int .i64 0] d0) 3)).alloc (.cells #[.slice (some ⟨w.heap.size + 1 + 1, 0, none⟩) 0 d0] 25)).alloc (.cells #[.int .i64 (s:Int)] 40)
  have bV := ((hV0.alloc (.cells (madeCells #[.int .i64 0] d0) 3)).alloc (.cells #[.slice (some ⟨w.heap.size + 1 + 1, 0, none⟩) 0 d0] 25)).alloc (.cells #[.int .i64 (s:Int)] 40)
  have bM := ((HT2.out.alloc (.cells (madeCells #[.int .i64 0] d0) 3)).alloc (.cells #[.slice (some ⟨w.heap.size + 1 + 1, 0, none⟩) 0 d0] 25)).alloc (.cells #[.int .i64 (s:Int)] 40)
  have bS := (Boxed.new (((w.alloc (.cells #[.int .i64 (n : Int), .int .i64 (s : Int), .map (some M)] 45)).alloc (.cells #[.int .i64 (v:Int)] 3)).alloc (.cells (madeCells #[.int .i64 0] d0) 3)) 25 (.slice (some ⟨w.heap.size + 1 + 1, 0, none⟩) 0 d0)).alloc (.cells #[.int .i64 (s:Int)] 40)
  have bP := Boxed.new ((((w.alloc (.cells #[.int .i64 (n : Int), .int .i64 (s : Int), .map (some M)] 45)).alloc (.cells #[.int .i64 (v:Int)] 3)).alloc (.cells (madeCells #[.int .i64 0] d0) 3)).alloc (.cells #[.slice (some ⟨w.heap.size + 1 + 1, 0, none⟩) 0 d0] 25)) 40 (.int .i64 (s:Int))
  have bW0 := World.ownsRow_made (e := 3) (size := 1) (base := w.heap.size) ((w.alloc (.cells #[.int .i64 (n : Int), .int .i64 (s : Int), .map (some M)] 45)).alloc (.cells #[.int .i64 (v:Int)] 3)) (madeCells #[.int .i64 0] d0) d0 (by have := HZ2.out; omega) (by unfold maxLen; omega) (by rw [size_madeCells, Nat.mul_one])
  simp only [World.size_alloc] at bS bP bW0
  have bW : WordIn (((((w.alloc (.cells #[.int .i64 (n : Int), .int .i64 (s : Int), .map (some M)] 45)).alloc (.cells #[.int .i64 (v:Int)] 3)).alloc (.cells (madeCells #[.int .i64 0] d0) 3)).alloc (.cells #[.slice (some ⟨w.heap.size + 1 + 1, 0, none⟩) 0 d0] 25)).alloc (.cells #[.int .i64 (s:Int)] 40)) w.heap.size (w.heap.size + 1 + 1) d0 [] := World.ownsRow.alloc (World.ownsRow.alloc bW0 _) _
  have hB0 : Below w.heap.size w (((((w.alloc (.cells #[.int .i64 (n : Int), .int .i64 (s : Int), .map (some M)] 45)).alloc (.cells #[.int .i64 (v:Int)] 3)).alloc (.cells (madeCells #[.int .i64 0] d0) 3)).alloc (.cells #[.slice (some ⟨w.heap.size + 1 + 1, 0, none⟩) 0 d0] 25)).alloc (.cells #[.int .i64 (s:Int)] 40)) := ((hB2.alloc (by simp; omega) _).alloc (by simp; omega) _).alloc (by simp; omega) _
  have hsz : (((((w.alloc (.cells #[.int .i64 (n : Int), .int .i64 (s : Int), .map (some M)] 45)).alloc (.cells #[.int .i64 (v:Int)] 3)).alloc (.cells (madeCells #[.int .i64 0] d0) 3)).alloc (.cells #[.slice (some ⟨w.heap.size + 1 + 1, 0, none⟩) 0 d0] 25)).alloc (.cells #[.int .i64 (s:Int)] 40)).heap.size = w.heap.size + 5 := by simp
  obtain ⟨W0, hW0⟩ : ∃ W0, (((((w.alloc (.cells #[.int .i64 (n : Int), .int .i64 (s : Int), .map (some M)] 45)).alloc (.cells #[.int .i64 (v:Int)] 3)).alloc (.cells (madeCells #[.int .i64 0] d0) 3)).alloc (.cells #[.slice (some ⟨w.heap.size + 1 + 1, 0, none⟩) 0 d0] 25)).alloc (.cells #[.int .i64 (s:Int)] 40)) = W0 := ⟨_, rfl⟩
  rw [hW0] at bD bV bM bS bP bW hB0 hsz ⊢
  clear hW0 bW0 hTri2 hV0 HT2 HTri hB2 cx hmk2 HZ2
  refine wpIn_rangeFunc_ownG rfl (by omega) (gf := 83) (lb := #[.pointer (some ⟨w.heap.size + 1 + 1 + 1 + 1, 0, none⟩)]) rfl trivial (enters_of Try.func83 (by kernel_rfl) rfl)
    (places_stops 8 (by omega) (w.heap.size + 1 + 1 + 1 + 1) w.heap.size n s hs h2 W0 bP) KB.trans (KB.put (by omega)) (Below.refl _ _) (fun _ => rfl)
    (fun pre W => ((((Tri W w.heap.size n s M ∧ Boxed W (w.heap.size + 1) 3 (.int .i64 ((stN n s v (vals pre)).1 : Int))) ∧ Boxed W (w.heap.size + 1 + 1 + 1) 25 (.slice (some ⟨w.heap.size + 1 + 1, 0, none⟩) (stN n s v (vals pre)).2.length d0)) ∧ WordIn W w.heap.size (w.heap.size + 1 + 1) d0 (stN n s v (vals pre)).2) ∧ Tells W M (partN n s) (farN n s)) ∧ Below w.heap.size w W)
    (fun _ _ _ => False)
    (OwnFrom.and (OwnFrom.and (OwnFrom.and (OwnFrom.and (OwnFrom.and (tri_own _ _ _ _ (by omega)) (Own.from (boxed_own _ _ _) _)) (Own.from (boxed_own _ _ _) _)) (word_own _ _ _ _ (by omega))) (tells_own (by omega) (fun _ => partN n s) (fun _ => farN n s))) (ownFrom_below (Nat.le_refl _) (by omega)))
    (fun _ _ _ _ _ hs _ _ => hs)
    ⟨⟨⟨⟨⟨bD, bV⟩, bS⟩, bW⟩, bM⟩, hB0⟩
    (fun x => { tmps := #[.agg #[.int .i64 (n:Int), .int .i64 (s:Int), .map (some M)], .int .i64 (v:Int), .pointer (some ⟨w.heap.size, 0, none⟩), .pointer (some ⟨w.heap.size + 1, 0, none⟩), .slice none 0 0, .pointer (some ⟨w.heap.size + 1 + 1 + 1, 0, none⟩), .int .i64 (x.val : Int), .pointer (some ⟨w.heap.size, 2, none⟩), .map (some M), .int .i64 (v:Int), .int .i64 (d0:Int), .slice (some ⟨w.heap.size + 1 + 1, 0, none⟩) 0 d0, .pointer (some ⟨w.heap.size, 0, none⟩), .pointer (some ⟨w.heap.size, 1, none⟩), .int .i64 (s:Int), .func (.func 83) #[] #[.pointer (some ⟨w.heap.size + 1 + 1 + 1 + 1, 0, none⟩)], .int .i64 (x.val : Int), undef, undef, undef, undef, undef, undef, undef, undef, undef, undef, undef, undef, undef, undef, undef, undef], defers := [] }) ?assign ?body ?done ?stop
  case assign =>
    intro l x W K hK
    gi_wp2
    exact hK
  case body =>
    rintro l pre y W ⟨⟨⟨⟨⟨bD1, bV1⟩, bS1⟩, bW1⟩, bM1⟩, hB1⟩ _
    have hy := y.isLt
    have hF := HF.out (vals pre)
    have hst := st_snoc n s v pre y
    generalize stN n s v (vals pre) = st0 at *
    obtain ⟨x0, xs0⟩ := st0
    simp only at bV1 bS1 bW1
    have HS := Lib.hid hst
    have hsW := hB1.size
    have lS := bS1.lt
    have hTw : ∀ k, WordT w.heap.size k → w.heap.size ≤ k := fun k h => by rcases h with rfl | rfl | rfl <;> omega
    have HTw := Lib.hid hTw
    have hN0 : ¬ WordT w.heap.size w.heap.size := fun h => by rcases h with h | h | h <;> omega
    have hNM : ¬ WordT w.heap.size M := fun h => by have := hTw M h; omega
    have hNB : ¬ WordT w.heap.size (w.heap.size + 1 + 1 + 1 + 1) := fun h => by rcases h with h | h | h <;> omega
    have HKeep : Hid (∀ k, WordT w.heap.size k → k < W0.heap.size) := Lib.hid (fun k h => by rcases h with rfl | rfl | rfl <;> omega)
    have HD1 := Lib.hid bD1
    have HM1 := Lib.hid bM1
    have HBl := Lib.hid hB1
    have hdx0 := distN_range n s x0
    clear bD1 bM1 hB1 hst hTw
    gi_wp2
    gi_loopw [20] (fun _ wr => ∃ (f x : Nat) (xs : List Int), Fair n s d0 (x, xs) ∧ distN n s x < (f : Int) ∧ drainF n s f y.val (x, xs) = drain n s y.val (x0, xs0) ∧ Boxed wr (w.heap.size + 1) 3 (.int .i64 (x : Int)) ∧ Boxed wr (w.heap.size + 1 + 1 + 1) 25 (.slice (some ⟨w.heap.size + 1 + 1, 0, none⟩) xs.length d0) ∧ WordIn wr w.heap.size (w.heap.size + 1 + 1) d0 xs ∧ But (WordT w.heap.size) W wr) (fun _ wr => (distN n s (boxN wr (w.heap.size + 1))).toNat)
    case atStart => exact ⟨13, x0, xs0, hF, by omega, rfl, bV1, bS1, bW1, But.refl _ _⟩
    case round =>
      obtain ⟨f, x, xs, hFx, hdf, hdrn, bV, bS, bW, hBt⟩ := hrel
      have hxn : x < n := hFx.1
      have hsw := hBt.size
      have bD := hBt.tri HD1.out hN0
      have bM := hBt.tells HM1.out hNM
      have c0 := bD.cell0
      have c1 := bD.cell1
      have c2 := bD.cell2
      have cV := bV.cell
      have HN : Hid (Calls Try.prog 74 #[.agg #[.int .i64 (n:Int), .int .i64 (s:Int), .map (some M)], .int .i64 (x : Int), .int .i64 (y.val : Int)] wr fun e w' => e = .returned (.bool (nearB n s x y.val)) ∧ Below wr.heap.size wr w') :=
        Lib.hid (nearer_any n s M (partN n s) (farN n s) (x : Int) (y.val : Int) wr h1 h2 bM (fun u _ => far_le12 n s u h2) ⟨by omega, by omega⟩ ⟨by omega, by omega⟩)
      cases hnb : nearB n s x y.val
      · rw [hnb] at HN
        rw [drain_no n s f y.val (x, xs) hnb] at hdrn
        have HDr := Lib.hid hdrn
        clear hdrn hnb
        gi_wp2_with (refine ⟨trivial, ?_⟩; gi_at_call 74; refine (CallsIn.inRound l (callsIn_wide.2 HN.out)).mono ?_; rintro e Wn ⟨rfl, hbn⟩)
        have hBn := hBt.call hbn
        exact ⟨hBn.keeps _ HKeep.out, hBn.kb hNB HTw.out hsW, ⟨⟨⟨⟨hBn.tri HD1.out hN0, by rw [HS.out, ← HDr.out]; exact boxed_below bV bV.lt hbn⟩, by rw [HS.out, ← HDr.out]; exact boxed_below bS bS.lt hbn⟩, by rw [HS.out, ← HDr.out]; exact bW.same (hbn.block _ bW.lt)⟩, hBn.tells HM1.out hNM⟩, HBl.out.trans (hBn.below HTw.out hsW)⟩
      · rw [hnb] at HN
        have hfs := fair_step n s d0 y.val (x, xs) h1 hFx hnb
        obtain ⟨hFn, hpos, hlt⟩ := hfs
        simp only at hpos hlt
        obtain ⟨g, rfl⟩ : ∃ g, f = g + 1 := ⟨f - 1, by omega⟩
        rw [drain_yes n s g y.val (x, xs) hnb] at hdrn
        have HDr := Lib.hid hdrn
        have HRest := Lib.hid (fun W => rest_any n ((x : Int) - (y.val : Int)) W h1 h2 ⟨by omega, by omega⟩)
        have hxy : IntKind.i64.wrap ((x : Int) - (y.val : Int)) = (x : Int) - (y.val : Int) := IntWalk.i64_in _ ⟨by omega, by omega⟩
        have hlen := hFx.2
        simp only at hlen
        have hroom : xs.length + 1 ≤ d0 := by omega
        have HFn := Lib.hid hFn
        have HLt := Lib.hid (show (distN n s (rest n ((x : Int) - (y.val : Int)))).toNat < (distN n s x).toNat ∧ distN n s (rest n ((x : Int) - (y.val : Int))) < (g : Int) from ⟨by omega, by omega⟩)
        simp only at HDr HFn
        generalize rest n ((x : Int) - (y.val : Int)) = z at HDr HRest HFn HLt
        have HBx : Hid (boxN wr (w.heap.size + 1) = x) := Lib.hid (boxN_eq bV)
        clear hdrn hnb hpos hlt hFn hlen hFx hdf
        gi_wp2_with (first
          | (refine ⟨trivial, ?_⟩; gi_at_call 74; refine (CallsIn.inRound l (callsIn_wide.2 HN.out)).mono ?_; rintro e Wn ⟨rfl, hbn⟩; have cSn := (boxed_below bS bS.lt hbn).cell; have HbW := Lib.hid (bW.same (hbn.block _ bW.lt)))
          | (refine wpListIn_append_fits _ rfl _ _ 25 rfl w.heap.size 3 i0 1 Try.underlying25 hi hz1 (w.heap.size + 1 + 1) xs.length d0 _ rfl (World.ownsRow.alloc HbW.out _) ⟨Wn.heap.size, 0, none⟩ 1 1 [.int .i64 (y.val : Int)] rfl rfl ?c1 ?c2 ?c3 ?_))
        case c1 =>
          intro j u hj
          cases j with
          | zero => simp at hj; subst hj; simp [Addr.add]
          | succ j => simp at hj
        case c2 => intro u hu; simp at hu; subst hu; rfl
        case c3 => exact hroom
        · intro w2 hown' hgrow
          have hBn := (hBt.call hbn).alloc (.cells #[.int .i64 (y.val : Int)] 3)
          have hB2 := hBn.grown hgrow (fun k e => by cases e; exact .inl (.inr (.inl rfl)))
          have bS2 := ((boxed_below bS bS.lt hbn).alloc (.cells #[.int .i64 (y.val : Int)] 3)).kept hgrow (by simp)
          have bV2 := ((boxed_below bV bV.lt hbn).alloc (.cells #[.int .i64 (y.val : Int)] 3)).kept hgrow (by simp)
          have bW2 : WordIn w2 w.heap.size (w.heap.size + 1 + 1) d0 (xs ++ [(y.val : Int)]) := by
            show w2.ownsRow _ _ _ _ (xs ++ [(y.val : Int)]).length ((xs ++ [(y.val : Int)]).map (Value.int .i64))
            rw [List.length_append, List.map_append]
            exact hown'
          have fS2 := bS2.frozen
          have cS2 := bS2.cell
          have bS3 := bS2.set (.slice (some ⟨w.heap.size + 1 + 1, 0, none⟩) (xs.length + 1) d0)
          have bV3 := bV2.other (B' := w.heap.size + 1 + 1 + 1) (by omega) (.slice (some ⟨w.heap.size + 1 + 1, 0, none⟩) (xs.length + 1) d0)
          have hB3 := hB2.cell ⟨w.heap.size + 1 + 1 + 1, 0, none⟩ (.inl (.inr (.inr rfl))) (.slice (some ⟨w.heap.size + 1 + 1, 0, none⟩) (xs.length + 1) d0)
          have bW3 := bW2.same (Below.heap_setCell w2 ⟨w.heap.size + 1 + 1 + 1, 0, none⟩ (.slice (some ⟨w.heap.size + 1 + 1, 0, none⟩) (xs.length + 1) d0) _ (by simp))
          have bD3 := hB3.tri HD1.out hN0
          have e0 := bD3.cell0
          have eV := bV3.cell
          obtain ⟨w3, hw3⟩ : ∃ w3, w2.setCell ⟨w.heap.size + 1 + 1 + 1, 0, none⟩ (.slice (some ⟨w.heap.size + 1 + 1, 0, none⟩) (xs.length + 1) d0) = w3 := ⟨_, rfl⟩
          rw [hw3] at bS3 bV3 hB3 bW3 bD3 e0 eV
          clear hown' hgrow hBn hB2 bW2 bD bM c0 c1 c2 cV HN cSn HbW bS bV bW bS2 bV2 hbn hBt
          gi_wp2_with (refine ⟨trivial, ?_⟩; gi_at_call 75; refine (CallsIn.inRound l (callsIn_wide.2 (HRest.out _))).mono ?_; rintro e W4 ⟨rfl, hb4⟩; have eV4 := (boxed_below bV3 bV3.lt hb4).cell; have fV4 := (boxed_below bV3 bV3.lt hb4).frozen)
          have hB4 := hB3.call hb4
          have hB5 := hB4.cell ⟨w.heap.size + 1, 0, none⟩ (.inl (.inl rfl)) (.int .i64 (z : Int))
          have bV5 := (boxed_below bV3 bV3.lt hb4).set (.int .i64 (z : Int))
          have bS5 := (boxed_below bS3 bS3.lt hb4).other (B' := w.heap.size + 1) (by omega) (.int .i64 (z : Int))
          have bW5 := (bW3.same (hb4.block _ bW3.lt)).same (Below.heap_setCell W4 ⟨w.heap.size + 1, 0, none⟩ (.int .i64 (z : Int)) _ (by simp))
          have hbx := boxN_eq bV5
          clear bS3 bV3 hB3 bW3 bD3 e0 eV hB4 hb4 hw3 cS2 fS2
          go_roundw
          case rel => exact ⟨g, z, xs ++ [(y.val : Int)], HFn.out, HLt.out.2, HDr.out, bV5, by rw [List.length_append]; exact bS5, bW5, hB5⟩
          case measure => rw [hbx, HBx.out]; exact HLt.out.1
  case done =>
    rintro D ys W hD rfl ⟨⟨⟨⟨_, bS1⟩, bW1⟩, _⟩, hB⟩ hK
    rw [st_come, HE.out] at bS1 bW1
    have cS := bS1.cell
    gi_wp2
    refine ⟨by simp, .inl ⟨_, _, rfl, run_takeDeferred hK, ?_⟩⟩
    refine ⟨_, results_tmp rfl _ _ _, _, rfl, hB.trans (belowK_b (w := w) (Nat.le_refl _) W D _ _ (by omega) hK rfl rfl), ?_⟩
    have h3 := bW1.same ((grownBy_putObj' W D (.deferred none)).block _ bW1.lt (fun e => by cases e; omega))
    exact h3
  case stop =>
    rintro D c pre W _ _ h _
    exact h.elim
theorem implFarWord_yes (n s v d0 : Nat) (w : World) (h1 : 1 ≤ n) (h2 : n ≤ 12) (hs : s < 2 ^ n) (h0 : s.testBit 0 = false) (hv : v < n) (hd : distN n s v = (d0 : Int)) :
    Calls Try.prog 25 #[.int .i64 (n:Int), .int .i64 (s:Int), .int .i64 (v:Int)] w (WordPost w (wordN n s d0 v)) := by
  have HO := Lib.hid (distancesOf_yes n s w h1 h2 hs h0)
  have HL := Lib.hid (fun M W hT => word_any n s M v d0 W h1 h2 hs h0 hv hd hT)
  have hin : inS (partN n s) (v : Int) = true := by rw [inS_nat, part_of n s v d0 hd]
  clear hd
  go_enter Try.func25, Try.ntmps25
  go_wp2_with fail
  refine HO.out.mono ?_
  rintro e w1 ⟨M, rfl, hb1, hM, hT⟩
  have z1 := hb1.size
  have hT1 := hT.alloc (.cells #[.int .i64 (n:Int), .int .i64 (s:Int), .map (some M)] 45)
  have hB1 := hb1.alloc z1 (.cells #[.int .i64 (n:Int), .int .i64 (s:Int), .map (some M)] 45)
  clear hT hb1
  go_wp2_with (first
    | (at_lookup; refine wpList_told _ rfl _ _ rfl M (partN n s) (farN n s) rfl hT1 (v : Int) rfl (WalkArith.wf_i64 ⟨by omega, by omega⟩) ?_; rw [hin])
    | (go_at_call 52; refine (HL.out M _ hT1).mono ?_; rintro e w2 ⟨sv, rfl, hb2, hI⟩; have HI := Lib.hid hI; clear hI))
  go_ret2
  exact ⟨_, rfl, hB1.trans (hb2.mono hB1.size), HI.out.base hB1.size⟩
theorem implFarWord_not (n s : Nat) (v : Int) (w : World) (h1 : 1 ≤ n) (h2 : n ≤ 12) (hs : s < 2 ^ n) (h0 : s.testBit 0 = false) (hwf : (Lit.int .i64 v).wf = true) (hin : inS (partN n s) v = false) :
    Calls Try.prog 25 #[.int .i64 (n:Int), .int .i64 (s:Int), .int .i64 v] w fun e w' => e = .returned (.tuple #[.slice none 0 0, .bool false]) ∧ Below w.heap.size w w' := by
  have HO := Lib.hid (distancesOf_yes n s w h1 h2 hs h0)
  have HWf := Lib.hid hwf
  clear hwf
  go_enter Try.func25, Try.ntmps25
  go_wp2_with fail
  refine HO.out.mono ?_
  rintro e w1 ⟨M, rfl, hb1, hM, hT⟩
  have z1 := hb1.size
  have hT1 := hT.alloc (.cells #[.int .i64 (n:Int), .int .i64 (s:Int), .map (some M)] 45)
  have hB1 := hb1.alloc z1 (.cells #[.int .i64 (n:Int), .int .i64 (s:Int), .map (some M)] 45)
  clear hT hb1
  go_wp2_with (at_lookup; refine wpList_told _ rfl _ _ rfl M (partN n s) (farN n s) rfl hT1 v rfl HWf.out ?_; rw [hin])
  go_ret2
  exact ⟨rfl, hB1⟩
theorem implFarWord_no (n s v : Int) (w : World) (h : NoStep n s) :
    Calls Try.prog 25 #[.int .i64 n, .int .i64 s, .int .i64 v] w fun e w' => e = .returned (.tuple #[.slice none 0 0, .bool false]) ∧ Below w.heap.size w w' := by
  have HO := Lib.hid (distancesOf_no n s w h)
  clear h
  go_enter Try.func25, Try.ntmps25
  go_wp2_with fail
  refine HO.out.mono ?_
  rintro e w1 ⟨rfl, hb1⟩
  have z1 := hb1.size
  go_wp2
  go_ret2
  exact ⟨rfl, hb1.alloc z1 _⟩
theorem word_res {w w' : World} {xs : List Int} {e : Ending} (h : WordPost w xs e w') : ListRes w xs true e w' := h
end Go.Proofs.Ytgonanembcnlgaa
