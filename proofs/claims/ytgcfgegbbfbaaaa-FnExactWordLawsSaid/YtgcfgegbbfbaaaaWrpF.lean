/- Words, the program's side: all words of at most so many letters, handed to a function value. Written by gen125.py. -/
import Derived.Test.YtgcfgegbbfbaaaaWrpE
namespace Go.Proofs.Ytgcfgegbbfbaaaa
open Go.RowKit Go.Shelf
set_option linter.unusedVariables false
attribute [local go_sem] Oper.semAt_some
theorem ea_small (m L : Nat) (hL : L ≤ 6) : (eaC m L).length ≤ 13 ^ m := by
  induction m generalizing L with
  | zero => exact Nat.le_refl _
  | succ m ih =>
    have key : ∀ l : List Int, (l.flatMap fun x => (eaC m (L - x.natAbs)).map (x :: ·)).length ≤ l.length * 13 ^ m := by
      intro l
      induction l with
      | nil => simp
      | cons x l ihl =>
        rw [List.flatMap_cons, List.length_append, List.length_map, List.length_cons, Nat.succ_mul]
        have := ih (L - x.natAbs) (by omega)
        omega
    have h := key (upL L)
    have hl : (upL L).length = 2 * L + 1 := by simp [upL]
    rw [hl] at h
    show ((upL L).flatMap fun x => (eaC m (L - x.natAbs)).map (x :: ·)).length ≤ 13 ^ (m + 1)
    refine Nat.le_trans h ?_
    rw [Nat.pow_succ, Nat.mul_comm]
    exact Nat.mul_le_mul_left _ (by omega)
/-- What one amount of a letter gives. -/
def eaG (p : List Int → Bool) (m L : Nat) (pre : List Int) (x : Int) : List (List Int) := ((eaC m (L - x.natAbs)).map ((pre ++ [x]) ++ ·)).filter p
/-- What the first i amounts give. -/
def eaI (p : List Int → Bool) (m L : Nat) (pre : List Int) (i : Nat) : List (List Int) := (List.range i).flatMap fun (j : Nat) => eaG p m L pre ((j : Int) - (L : Int))
theorem eaI_up (p : List Int → Bool) (m L : Nat) (pre : List Int) (i : Nat) : eaI p m L pre (i + 1) = eaI p m L pre i ++ eaG p m L pre ((i : Int) - (L : Int)) := by
  unfold eaI
  rw [List.range_succ, List.flatMap_append]
  simp
theorem eaI_all (p : List Int → Bool) (m L : Nat) (pre : List Int) : eaI p m L pre (2 * L + 1) = ((eaC (m + 1) L).map (pre ++ ·)).filter p := by
  unfold eaI
  show _ = (((upL L).flatMap fun x => (eaC m (L - x.natAbs)).map (x :: ·)).map (pre ++ ·)).filter p
  unfold upL
  generalize List.range (2 * L + 1) = l
  induction l with
  | nil => rfl
  | cons j l ih =>
    rw [List.flatMap_cons, List.map_cons, List.flatMap_cons, List.map_append, List.filter_append, ih]
    congr 1
    unfold eaG
    rw [List.map_map]
    congr 1
    refine List.map_congr_left fun t _ => ?_
    show pre ++ [_] ++ t = pre ++ (_ :: t)
    rw [List.append_assoc]
    rfl
theorem eaG_len (p : List Int → Bool) (m L : Nat) (hL : L ≤ 6) (pre : List Int) (x : Int) : (eaG p m L pre x).length ≤ 13 ^ m := by
  refine Nat.le_trans (List.length_filter_le _ _) ?_
  rw [List.length_map]
  exact ea_small m _ (by omega)
theorem eaI_len (p : List Int → Bool) (m L : Nat) (hL : L ≤ 6) (pre : List Int) (i : Nat) : (eaI p m L pre i).length ≤ i * 13 ^ m := by
  induction i with
  | zero => simp [eaI]
  | succ i ih =>
    rw [eaI_up, List.length_append, Nat.succ_mul]
    have := eaG_len p m L hL pre ((i : Int) - (L : Int))
    omega
theorem cO_snoc (pre : List Int) (z : Int) (i : Nat) : cO (pre ++ [z]) i = if i = pre.length then z else cO pre i := by
  unfold cO
  rw [List.getD_eq_getElem?_getD, List.getD_eq_getElem?_getD]
  by_cases h : i = pre.length
  · subst h; rw [if_pos rfl]; simp
  · rw [if_neg h]
    by_cases h2 : i < pre.length
    · rw [List.getElem?_append_left h2]
    · rw [List.getElem?_eq_none (by simp; omega), List.getElem?_eq_none (by omega)]
theorem abs_snoc (pre : List Int) (z : Int) : absL (pre ++ [z]) = absL pre + z.natAbs := by
  induction pre with
  | nil => show z.natAbs + 0 = 0 + z.natAbs; omega
  | cons c pre ih => show c.natAbs + absL (pre ++ [z]) = c.natAbs + absL pre + z.natAbs; rw [ih]; omega
theorem KeptW.setWord {W : World} {B i : Nat} {u v x : Value} (h : Ter W B 50 u v x) (y : Value) : KeptW W (W.setCell ⟨B, i, none⟩ y) :=
  ⟨by simp [World.setCell], fun k o hk h1 _ => (Below.heap_setCell W ⟨B, i, none⟩ y k (fun e => by
    have e' : k = B := e
    subst e'
    have h2 : W.heap[k]? = _ := h
    rw [hk] at h2
    cases h2
    exact h1 _ rfl)).trans hk⟩
theorem Gath.setWord {W : World} {bx B i : Nat} {v : Value} {F : List (List Int)} {a b c : Value} (h : Gath W bx v F) (hT : Ter W B 50 a b c) (hne : some B ≠ v.ownBlock) (y : Value) : Gath (W.setCell ⟨B, i, none⟩ y) bx v F := by
  have hx : B ≠ bx := fun e => by
    subst e
    have h1 : W.heap[B]? = _ := h.1
    have h2 : W.heap[B]? = _ := hT
    rw [h1] at h2
    cases h2
  exact ⟨Boxed.off h.1 (p := ⟨B, i, none⟩) (fun e => hx e.symm) y, h.2.same fun g hg => Below.heap_setCell W ⟨B, i, none⟩ y g (fun e => by
    have e' : g = B := e
    subst e'
    exact hne hg.symm)⟩
def EachOk (I : World → Prop) (p : List Int → Bool) (hf : Nat) (hlb : Array Value) (hb bx m : Nat) (ls : List Nat) : Prop :=
  ∀ (most : Nat) (pv : Value) (pre : List Int) (v : Value) (F : List (List Int)) (W : World), pre.length + ls.length = m → absL pre + most ≤ 6 → Lets W pv pre.length ls → I W → Boxed W hb 81 (.func (.func hf) #[] hlb) → Gath W bx v F → F.length + 13 ^ ls.length ≤ 100000 →
    Calls Try.prog 73 #[pv, .agg (wV pre), .int .i64 (most : Int), .func (.func 74) #[] #[.pointer (some ⟨hb, 0, none⟩), .pointer (some ⟨bx, 0, none⟩)]] W (GivePost bx I W v (F ++ ((eaC ls.length most).map (pre ++ ·)).filter p))
set_option maxRecDepth 100000 in
set_option maxHeartbeats 4000000 in
theorem each_nil (I : World → Prop) (p : List Int → Bool) (hf : Nat) (hlb : Array Value) (hb bx m : Nat) (eg : ∀ args w, (callFunc hf args).run Try.prog w = .ok (.enter hf args) w)
    (hH : HoldOk I p (fun cs => cs.length = m ∧ absL cs ≤ 6) hf hlb) : EachOk I p hf hlb hb bx m [] := by
  intro most pv pre v F W hm ha hL hI hB hG hF
  have hpv : pv = .pointer none := hL
  subst hpv
  have hB0 := (Below.refl W.heap.size W).alloc (Nat.le_refl _) (.cells #[.int .i64 (cO pre 0), .int .i64 (cO pre 1), .int .i64 (cO pre 2)] 50)
  have hT0 := Ter.new W 50 (.int .i64 (cO pre 0)) (.int .i64 (cO pre 1)) (.int .i64 (cO pre 2))
  have hI0 := hH.1 _ _ hI (KeptW.of_below hB0)
  have hbx0 := boxed_below hB hB.lt hB0
  have hG0 := hG.below hB0
  obtain ⟨W0, hW0⟩ : ∃ W0, W.alloc (.cells #[.int .i64 (cO pre 0), .int .i64 (cO pre 1), .int .i64 (cO pre 2)] 50) = W0 := ⟨_, rfl⟩
  rw [hW0] at hB0 hT0 hI0 hbx0 hG0
  have HC := Lib.hid (give_any I p _ hf hlb eg hH hb bx pre v F W0 ⟨by simpa using hm, by omega⟩ hI0 (by have h9 : F.length + 1 ≤ 100000 := hF; omega) hbx0 hG0)
  have HB0 := Lib.hid hB0
  have HV : Hid (F ++ ((eaC ([] : List Nat).length most).map (pre ++ ·)).filter p = if p pre = true then F ++ [pre] else F) := Lib.hid (by
    show F ++ ([pre ++ []]).filter p = _
    rw [List.append_nil]
    cases hp : p pre <;> simp [hp])
  rw [HV.out]
  generalize (if p pre = true then F ++ [pre] else F) = F' at *
  have t0 := hT0.cell0
  have t1 := hT0.cell1
  have t2 := hT0.cell2
  clear hm ha hL hI hB hG hF hB0 hI0 hbx0 hG0 hH eg hT0
  unfold wV at *
  go_enter Try.func73, Try.ntmps73
  go_wp2_with fail
  refine HC.out.mono ?_
  rintro e W1 ⟨rfl, v', h1, h2, h3⟩
  go_wp2
  go_end0
  exact ⟨rfl, v', h1, (Gone.below HB0.out).trans h2, h3⟩
set_option maxRecDepth 100000 in
set_option maxHeartbeats 8000000 in
theorem each_cons (I : World → Prop) (p : List Int → Bool) (hf : Nat) (hlb : Array Value) (hb bx m l : Nat) (ls : List Nat) (hm3 : m ≤ 3)
    (hH : HoldOk I p (fun cs => cs.length = m ∧ absL cs ≤ 6) hf hlb) (hIH : EachOk I p hf hlb hb bx m ls) : EachOk I p hf hlb hb bx m (l :: ls) := by
  intro most pv pre v F W hm ha hL hI hB hG hF
  have hmx : Try.prog.follows .mixedOrders = true := by kernel_rfl
  obtain ⟨b, nx, rfl, hTb, hLr⟩ := hL
  have hB0 := (Below.refl W.heap.size W).alloc (Nat.le_refl _) (.cells #[.int .i64 (cO pre 0), .int .i64 (cO pre 1), .int .i64 (cO pre 2)] 50)
  have hT0 := Ter.new W 50 (.int .i64 (cO pre 0)) (.int .i64 (cO pre 1)) (.int .i64 (cO pre 2))
  have hK0 := KeptW.of_below hB0
  have hG0 := hG.below hB0
  have hown : ∀ g, v.ownBlock = some g → g < W.heap.size := fun g hg => (World.ownsRow.lt hG.2 g hg).2
  obtain ⟨W0, hW0⟩ : ∃ W0, W.alloc (.cells #[.int .i64 (cO pre 0), .int .i64 (cO pre 1), .int .i64 (cO pre 2)] 50) = W0 := ⟨_, rfl⟩
  rw [hW0] at hB0 hT0 hK0 hG0
  have hz0 : cO (pre ++ [0]) 0 = cO pre 0 ∧ cO (pre ++ [0]) 1 = cO pre 1 ∧ cO (pre ++ [0]) 2 = cO pre 2 := by
    refine ⟨?_, ?_, ?_⟩ <;> rw [cO_snoc] <;> split
    all_goals first | rfl | (rename_i h; unfold cO; rw [List.getD_eq_getElem?_getD, List.getElem?_eq_none (by omega)]; rfl)
  have HTs : Hid (Ter W0 W.heap.size 50 (.int .i64 (cO (pre ++ [0]) 0)) (.int .i64 (cO (pre ++ [0]) 1)) (.int .i64 (cO (pre ++ [0]) 2))) := Lib.hid (by rw [hz0.1, hz0.2.1, hz0.2.2]; exact hT0)
  have HF : Hid (∀ i, i ≤ 2 * most → (F ++ eaI p ls.length most pre i).length + 13 ^ ls.length ≤ 100000) := Lib.hid (fun i hi => by
    have h1 := eaI_len p ls.length most (by omega) pre i
    have h2 : (i + 1) * 13 ^ ls.length ≤ 13 * 13 ^ ls.length := Nat.mul_le_mul_right _ (by omega)
    have h3 : 13 ^ (l :: ls).length = 13 * 13 ^ ls.length := by rw [List.length_cons, Nat.pow_succ, Nat.mul_comm]
    rw [List.length_append]
    rw [Nat.succ_mul] at h2
    omega)
  have HAll := Lib.hid (eaI_all p ls.length most pre)
  have HUp := Lib.hid (eaI_up p ls.length most pre)
  have HSn := Lib.hid (cO_snoc pre)
  have HAb := Lib.hid (abs_snoc pre)
  have HL := Lib.hid (⟨hm, ha, hm3⟩ : pre.length + (l :: ls).length = m ∧ absL pre + most ≤ 6 ∧ m ≤ 3)
  have HIH := Lib.hid hIH
  have HH := Lib.hid hH
  have HI := Lib.hid hI
  have HB := Lib.hid hB
  have HTb := Lib.hid hTb
  have HLr := Lib.hid hLr
  have HOwn := Lib.hid hown
  have HG0 := Lib.hid hG0
  have HK0 := Lib.hid hK0
  have HB0 := Lib.hid hB0
  have HE : Hid (F ++ ((eaC (l :: ls).length most).map (pre ++ ·)).filter p = F ++ eaI p ls.length most pre (2 * most + 1)) := Lib.hid (by rw [HAll.out]; rfl)
  have HG00 : Hid (Gath W0 bx v (F ++ eaI p ls.length most pre 0)) := Lib.hid (by rw [show eaI p ls.length most pre 0 = [] from rfl, List.append_nil]; exact hG0)
  rw [HE.out]
  have hne0 : wrap64 (-(most : Int)) = -(most : Int) := IntWalk.wrap64_in _ (by omega)
  have HM6 := Lib.hid (show most ≤ 6 by omega)
  clear hm ha hI hB hG hF hB0 hG0 hH hIH hT0 hK0 hTb hLr hown hz0 hm3
  unfold wV
  go_enter Try.func73, Try.ntmps73
  go_wp2_with fail
  clear hW0
  try rw [hne0]
  clear hne0
  go_loopg [8] (2 * most + 1) (fun gh u wr => ∃ i : Nat, i + gh = 2 * most + 1 ∧ u = .int .i64 ((i : Int) - (most : Int)) ∧ Hid (KeptW W0 wr) ∧ Hid (∃ v', Gath wr bx v' (F ++ eaI p ls.length most pre i) ∧ Gone bx W v wr v' ∧ some W.heap.size ≠ v'.ownBlock) ∧ Hid (∃ z, Ter wr W.heap.size 50 (.int .i64 (cO (pre ++ [z]) 0)) (.int .i64 (cO (pre ++ [z]) 1)) (.int .i64 (cO (pre ++ [z]) 2))))
  case atStart =>
    refine ⟨0, by omega, by congr 1; omega, Lib.hid ⟨Nat.le_refl _, fun _ _ h _ _ => h⟩, Lib.hid ⟨v, HG00.out, Gone.below HB0.out, fun e => ?_⟩, Lib.hid ⟨0, HTs.out⟩⟩
    exact Nat.lt_irrefl _ (HOwn.out _ e.symm)
  case round =>
    obtain ⟨i, hi, rfl, HK, HGv, HT⟩ := hrel
    cases gk with
    | zero =>
      have hi' : i = 2 * most + 1 := by omega
      subst hi'
      have hcd : ¬ (((2 * most + 1 : Nat) : Int) - (most : Int) ≤ (most : Int)) := by omega
      have hcd2 : decide (((2 * most + 1 : Nat) : Int) - (most : Int) ≤ (most : Int)) = false := decide_eq_false hcd
      obtain ⟨A, hA⟩ : ∃ A, ((2 * most + 1 : Nat) : Int) - (most : Int) = A := ⟨_, rfl⟩
      rw [hA] at hcd hcd2 ⊢
      clear hA hi
      go_wp2
      go_end0
      obtain ⟨v', h1, h2, h3⟩ := HGv.out
      exact ⟨rfl, v', h1, h2, HH.out.1 _ _ HI.out (HK0.out.trans HK.out)⟩
    | succ g =>
      have hil : i ≤ 2 * most := by omega
      have hm6 := HM6.out
      obtain ⟨z, hz⟩ := HT.out
      obtain ⟨v', hGw, hGo, hne⟩ := HGv.out
      obtain ⟨A, hA⟩ : ∃ A, (i : Int) - (most : Int) = A := ⟨_, rfl⟩
      have hAm : A.natAbs ≤ most := by omega
      have hup := HUp.out i
      have hlen := HF.out i hil
      rw [hA] at hup ⊢
      have hKl := HK0.out.trans HK.out
      have hT1 : Ter wr b 70 (.int .i64 (l:Int)) (.int .i64 (pre.length:Int)) nx := HTb.out.same ((hKl.block b _ HTb.out (fun c e => by cases e) (fun c e => by cases e)).trans (show W.heap[b]? = _ from HTb.out).symm)
      have hbne : b ≠ W.heap.size := by have := HTb.out.lt; omega
      have hk3 : pre.length = 0 ∨ pre.length = 1 ∨ pre.length = 2 := by have := HL.out; simp at this; omega
      have c1 := hT1.cell1
      have hs := hz.set pre.length (.int .i64 A) (by omega)
      have hsn : Ter (wr.setCell ⟨W.heap.size, pre.length, none⟩ (.int .i64 A)) W.heap.size 50 (.int .i64 (cO (pre ++ [A]) 0)) (.int .i64 (cO (pre ++ [A]) 1)) (.int .i64 (cO (pre ++ [A]) 2)) := by
        have e : ∀ i, (if pre.length = i then Value.int .i64 A else .int .i64 (cO (pre ++ [z]) i)) = .int .i64 (cO (pre ++ [A]) i) := fun i => by
          rw [HSn.out A i, HSn.out z i]
          by_cases h : pre.length = i
          · rw [if_pos h, if_pos h.symm]
          · rw [if_neg h, if_neg (fun e => h e.symm), if_neg (fun e => h e.symm)]
        rw [← e 0, ← e 1, ← e 2]
        exact hs
      have hT2 := hT1.off (p := ⟨W.heap.size, pre.length, none⟩) hbne (.int .i64 A)
      have hG2 := hGw.setWord (i := pre.length) hz hne (.int .i64 A)
      have hK2 := HK.out.trans (KeptW.setWord (i := pre.length) hz (.int .i64 A))
      have hGo2 : Gone bx W v (wr.setCell ⟨W.heap.size, pre.length, none⟩ (.int .i64 A)) v' := ⟨⟨hGo.1.os, hGo.1.tape, hGo.1.output, by simpa [World.setCell] using hGo.1.size, fun k h1 h2 h3 => (Below.heap_setCell wr ⟨W.heap.size, pre.length, none⟩ (.int .i64 A) k (by show k ≠ W.heap.size; omega)).trans (hGo.1.block k h1 h2 h3)⟩, hGo.2⟩
      have ck := hz.at pre.length (by omega)
      have fk := hz.frozen pre.length
      obtain ⟨W2, hW2⟩ : ∃ W2, wr.setCell ⟨W.heap.size, pre.length, none⟩ (.int .i64 A) = W2 := ⟨_, rfl⟩
      rw [hW2] at hsn hT2 hG2 hK2 hGo2
      have hd0 := hsn.cell0
      have hd1 := hsn.cell1
      have hd2 := hsn.cell2
      have hn2 := hT2.cell2
      have hKw := HK0.out.trans hK2
      have HRec := Lib.hid (HIH.out (most - A.natAbs) nx (pre ++ [A]) v' (F ++ eaI p ls.length most pre i) W2.drew (by have := HL.out.1; rw [List.length_append, List.length_singleton]; simp at this; omega) (by rw [HAb.out]; have := HL.out.2.1; omega)
        (by rw [List.length_append, List.length_singleton]; exact (hKw.lets HLr.out).drew) (HH.out.1 _ _ HI.out ⟨hKw.size, hKw.block⟩) (hKw.box HB.out (by decide) (by decide)) hG2 hlen)
      unfold wV at HRec
      have HT2 := Lib.hid hT2
      have HG2 := Lib.hid hG2
      have HK2 := Lib.hid hK2
      have HGo2 := Lib.hid hGo2
      have HSn2 := Lib.hid hsn
      have HUp2 := Lib.hid hup
      have HNe := Lib.hid hne
      have HNx : Hid (W.heap.size ≠ bx) := Lib.hid (fun e => by
        have h1 := hGw.1
        rw [← e] at h1
        have h2 : wr.heap[W.heap.size]? = _ := h1
        have h3 : wr.heap[W.heap.size]? = _ := hz
        rw [h2] at h3
        cases h3)
      have HLt := Lib.hid hsn.lt
      have cA : A ≤ (most : Int) := by omega
      have cA2 : decide (A ≤ (most : Int)) = true := decide_eq_true cA
      have wn : wrap64 (-A) = -A := IntWalk.wrap64_in _ (by omega)
      have hmx1 : max A (-A) = ((A.natAbs : Nat) : Int) := by omega
      have ws : wrap64 ((most : Int) - ((A.natAbs : Nat) : Int)) = ((most - A.natAbs : Nat) : Int) := by rw [IntWalk.wrap64_in _ (by omega)]; omega
      have wn2 : IntKind.i64.wrap (-A) = -A := by rw [IntWalk.i64_left]; exact wn
      have ws2 : IntKind.i64.wrap ((most : Int) - ((A.natAbs : Nat) : Int)) = ((most - A.natAbs : Nat) : Int) := by rw [IntWalk.i64_left]; exact ws
      have wA : wrap64 (A + 1) = A + 1 := IntWalk.wrap64_in _ (by omega)
      have HA := Lib.hid (⟨hA, hil, hi⟩ : (i : Int) - (most : Int) = A ∧ i ≤ 2 * most ∧ i + (g + 1) = 2 * most + 1)
      have p0 : (0 : Int) ≤ (pre.length : Int) := by omega
      have p3 : (pre.length : Int) < 3 := by omega
      clear hA hil hi hAm hup hlen hs hT1 hT2 hG2 hGo hGo2 hGw hK2 hKl hKw hsn hz hne hbne
      obtain ⟨r, hr⟩ : ∃ r, most - A.natAbs = r := ⟨_, rfl⟩
      rw [hr] at HRec ws ws2
      have HR : Hid (eaG p ls.length most pre A = ((eaC ls.length r).map ((pre ++ [A]) ++ ·)).filter p) := Lib.hid (by rw [← hr]; rfl)
      clear hr
      generalize A.natAbs = na at *
      obtain ⟨kk, hkk⟩ : ∃ kk, pre.length = kk := ⟨_, rfl⟩
      rw [hkk] at hk3 c1 ck fk p0 p3 hW2 HT2
      rcases hk3 with rfl | rfl | rfl
      · skip
        go_wp2_with fail
        have hA0 : Ter W2.drew b 70 (.int .i64 (l:Int)) (.int .i64 (0:Int)) nx ∧ Ter W2.drew W.heap.size 50 (.int .i64 (cO (pre ++ [A]) 0)) (.int .i64 (cO (pre ++ [A]) 1)) (.int .i64 (cO (pre ++ [A]) 2)) := ⟨HT2.out, HSn2.out⟩
        refine wp_region_held_drew (S := fun X => Ter X b 70 (.int .i64 (l:Int)) (.int .i64 (0:Int)) nx ∧ Ter X W.heap.size 50 (.int .i64 (cO (pre ++ [A]) 0)) (.int .i64 (cO (pre ++ [A]) 1)) (.int .i64 (cO (pre ++ [A]) 2))) hmx hA0 (fun _ => ?_)
        refine take1 0 (v := ?_) rfl (by kernel_rfl) (by kernel_rfl) (by kernel_rfl) (fun _ _ _ h => h) (by rfl) ?_ hA0 ?_
        rotate_left
        · rintro W9 ⟨hx9, hy9⟩
          have q2 := hx9.cell2
          have q0 := hy9.cell0
          have q1 := hy9.cell1
          have q3 := hy9.cell2
          clear hx9 hy9
          go_simp
          try with_reducible rfl
        try simp only [Act.put, List.setIfInBounds_toArray, List.set_cons_zero, List.set_cons_succ]
        refine take1 1 (v := ?_) rfl (by kernel_rfl) (by kernel_rfl) (by kernel_rfl) (fun _ _ _ h => h) (by rfl) ?_ hA0 ?_
        rotate_left
        · rintro W9 ⟨hx9, hy9⟩
          have q2 := hx9.cell2
          have q0 := hy9.cell0
          have q1 := hy9.cell1
          have q3 := hy9.cell2
          clear hx9 hy9
          go_simp
          try with_reducible rfl
        try simp only [Act.put, List.setIfInBounds_toArray, List.set_cons_zero, List.set_cons_succ]
        refine take1 2 (v := ?_) rfl (by kernel_rfl) (by kernel_rfl) (by kernel_rfl) (fun _ _ _ h => h) (by rfl) ?_ hA0 ?_
        rotate_left
        · rintro W9 ⟨hx9, hy9⟩
          have q2 := hx9.cell2
          have q0 := hy9.cell0
          have q1 := hy9.cell1
          have q3 := hy9.cell2
          clear hx9 hy9
          go_simp
          try with_reducible rfl
        try simp only [Act.put, List.setIfInBounds_toArray, List.set_cons_zero, List.set_cons_succ]
        refine take1 3 (v := ?_) rfl (by kernel_rfl) (by kernel_rfl) (by kernel_rfl) (fun _ _ _ h => h) (by rfl) ?_ hA0 ?_
        rotate_left
        · rintro W9 ⟨hx9, hy9⟩
          have q2 := hx9.cell2
          have q0 := hy9.cell0
          have q1 := hy9.cell1
          have q3 := hy9.cell2
          clear hx9 hy9
          go_simp
          try with_reducible rfl
        try simp only [Act.put, List.setIfInBounds_toArray, List.set_cons_zero, List.set_cons_succ]
        refine take1 4 (v := ?_) rfl (by kernel_rfl) (by kernel_rfl) (by kernel_rfl) (fun _ _ _ h => h) (by rfl) ?_ hA0 ?_
        rotate_left
        · rintro W9 ⟨hx9, hy9⟩
          have q2 := hx9.cell2
          have q0 := hy9.cell0
          have q1 := hy9.cell1
          have q3 := hy9.cell2
          clear hx9 hy9
          go_simp
          try with_reducible rfl
        try simp only [Act.put, List.setIfInBounds_toArray, List.set_cons_zero, List.set_cons_succ]
        refine take1 5 (v := ?_) rfl (by kernel_rfl) (by kernel_rfl) (by kernel_rfl) (fun _ _ _ h => h) (by rfl) ?_ hA0 ?_
        rotate_left
        · rintro W9 ⟨hx9, hy9⟩
          have q2 := hx9.cell2
          have q0 := hy9.cell0
          have q1 := hy9.cell1
          have q3 := hy9.cell2
          clear hx9 hy9
          go_simp
          try with_reducible rfl
        try simp only [Act.put, List.setIfInBounds_toArray, List.set_cons_zero, List.set_cons_succ]
        refine take1 6 (v := ?_) rfl (by kernel_rfl) (by kernel_rfl) (by kernel_rfl) (fun _ _ _ h => h) (by rfl) ?_ hA0 ?_
        rotate_left
        · rintro W9 ⟨hx9, hy9⟩
          have q2 := hx9.cell2
          have q0 := hy9.cell0
          have q1 := hy9.cell1
          have q3 := hy9.cell2
          clear hx9 hy9
          go_simp
          try with_reducible rfl
        try simp only [Act.put, List.setIfInBounds_toArray, List.set_cons_zero, List.set_cons_succ]
        refine take1 7 (v := ?_) rfl (by kernel_rfl) (by kernel_rfl) (by kernel_rfl) (fun _ _ _ h => h) (by rfl) ?_ hA0 ?_
        rotate_left
        · rintro W9 ⟨hx9, hy9⟩
          have q2 := hx9.cell2
          have q0 := hy9.cell0
          have q1 := hy9.cell1
          have q3 := hy9.cell2
          clear hx9 hy9
          go_simp
          try with_reducible rfl
        try simp only [Act.put, List.setIfInBounds_toArray, List.set_cons_zero, List.set_cons_succ]
        refine take1 8 (v := ?_) rfl (by kernel_rfl) (by kernel_rfl) (by kernel_rfl) (fun _ _ _ h => h) (by rfl) ?_ hA0 ?_
        rotate_left
        · rintro W9 ⟨hx9, hy9⟩
          have q2 := hx9.cell2
          have q0 := hy9.cell0
          have q1 := hy9.cell1
          have q3 := hy9.cell2
          clear hx9 hy9
          go_simp
          try with_reducible rfl
        try simp only [Act.put, List.setIfInBounds_toArray, List.set_cons_zero, List.set_cons_succ]
        refine take1 9 (v := ?_) rfl (by kernel_rfl) (by kernel_rfl) (by kernel_rfl) (fun _ _ _ h => h) (by rfl) ?_ hA0 ?_
        rotate_left
        · rintro W9 ⟨hx9, hy9⟩
          have q2 := hx9.cell2
          have q0 := hy9.cell0
          have q1 := hy9.cell1
          have q3 := hy9.cell2
          clear hx9 hy9
          go_simp
          try with_reducible rfl
        try simp only [Act.put, List.setIfInBounds_toArray, List.set_cons_zero, List.set_cons_succ]
        refine take1 10 (v := ?_) rfl (by kernel_rfl) (by kernel_rfl) (by kernel_rfl) (fun _ _ _ h => h) (by rfl) ?_ hA0 ?_
        rotate_left
        · rintro W9 ⟨hx9, hy9⟩
          have q2 := hx9.cell2
          have q0 := hy9.cell0
          have q1 := hy9.cell1
          have q3 := hy9.cell2
          clear hx9 hy9
          go_simp
          try with_reducible rfl
        try simp only [Act.put, List.setIfInBounds_toArray, List.set_cons_zero, List.set_cons_succ]
        refine take1 11 (v := ?_) rfl (by kernel_rfl) (by kernel_rfl) (by kernel_rfl) (fun _ _ _ h => h) (by rfl) ?_ hA0 ?_
        rotate_left
        · rintro W9 ⟨hx9, hy9⟩
          have q2 := hx9.cell2
          have q0 := hy9.cell0
          have q1 := hy9.cell1
          have q3 := hy9.cell2
          clear hx9 hy9
          go_simp
          try with_reducible rfl
        try simp only [Act.put, List.setIfInBounds_toArray, List.set_cons_zero, List.set_cons_succ]
        refine step1 12 (by kernel_rfl) rfl (fun K hK => ?_)
        go_simp
        refine HRec.out.mono ?_
        rintro e W3 ⟨rfl, v3, hg3, ho3, hi3⟩
        go_wp2_with fail
        obtain ⟨v4, hg4, ho4, hi4⟩ : ∃ v4, Gath W3 bx v4 (F ++ eaI p ls.length most pre (i + 1)) ∧ Gone bx W2 v' W3 v4 ∧ I W3 := by
          refine ⟨v3, ?_, ?_, hi3⟩
          · rw [HUp.out, ← List.append_assoc, HA.out.1, HR.out]; exact hg3
          · exact (show Gone bx W2 v' W2.drew v' from ⟨⟨rfl, rfl, rfl, Nat.le_refl _, fun _ _ _ _ => rfl⟩, fun g hg => .inl hg⟩).trans ho3
        have hk4 := HK2.out.trans (ho4.1.keptW HG2.out)
        have ht4 := HSn2.out.same (ho4.1.block W.heap.size HLt.out (fun e => HNx.out e) HNe.out)
        have hne4 : some W.heap.size ≠ v4.ownBlock := fun e => by
          rcases ho4.2 _ e.symm with h | h
          · exact HNe.out h.symm
          · have := HLt.out; omega
        have hl4 := HT2.out.same ((ho4.1.keptW HG2.out).block b _ HT2.out (fun c e => by cases e) (fun c e => by cases e) |>.trans (show W2.heap[b]? = _ from HT2.out).symm)
        refine hK.out _ _ ⟨hl4, ht4⟩ ?_
        clear hK K
        try simp only [Act.put, List.setIfInBounds_toArray, List.set_cons_zero, List.set_cons_succ]
        refine stop1 (by kernel_rfl) ?_
        have HFin := Lib.hid (⟨hk4, ⟨v4, hg4, HGo2.out.trans ho4, hne4⟩, ⟨A, ht4⟩⟩ : KeptW W0 W3 ∧ (∃ v', Gath W3 bx v' (F ++ eaI p ls.length most pre (i + 1)) ∧ Gone bx W v W3 v' ∧ some W.heap.size ≠ v'.ownBlock) ∧ (∃ z, Ter W3 W.heap.size 50 (.int .i64 (cO (pre ++ [z]) 0)) (.int .i64 (cO (pre ++ [z]) 1)) (.int .i64 (cO (pre ++ [z]) 2))))
        clear hg3 ho3 hi3 hg4 ho4 hi4 hk4 ht4 hne4 hl4 hA0
        go_wp2
        go_roundg g
        case rel => exact ⟨i + 1, by have := HA.out; omega, by have := HA.out; rw [wA]; congr 1; omega, Lib.hid HFin.out.1, Lib.hid HFin.out.2.1, Lib.hid HFin.out.2.2⟩
        case measure => omega
      · skip
        go_wp2_with fail
        have hA0 : Ter W2.drew b 70 (.int .i64 (l:Int)) (.int .i64 (1:Int)) nx ∧ Ter W2.drew W.heap.size 50 (.int .i64 (cO (pre ++ [A]) 0)) (.int .i64 (cO (pre ++ [A]) 1)) (.int .i64 (cO (pre ++ [A]) 2)) := ⟨HT2.out, HSn2.out⟩
        refine wp_region_held_drew (S := fun X => Ter X b 70 (.int .i64 (l:Int)) (.int .i64 (1:Int)) nx ∧ Ter X W.heap.size 50 (.int .i64 (cO (pre ++ [A]) 0)) (.int .i64 (cO (pre ++ [A]) 1)) (.int .i64 (cO (pre ++ [A]) 2))) hmx hA0 (fun _ => ?_)
        refine take1 0 (v := ?_) rfl (by kernel_rfl) (by kernel_rfl) (by kernel_rfl) (fun _ _ _ h => h) (by rfl) ?_ hA0 ?_
        rotate_left
        · rintro W9 ⟨hx9, hy9⟩
          have q2 := hx9.cell2
          have q0 := hy9.cell0
          have q1 := hy9.cell1
          have q3 := hy9.cell2
          clear hx9 hy9
          go_simp
          try with_reducible rfl
        try simp only [Act.put, List.setIfInBounds_toArray, List.set_cons_zero, List.set_cons_succ]
        refine take1 1 (v := ?_) rfl (by kernel_rfl) (by kernel_rfl) (by kernel_rfl) (fun _ _ _ h => h) (by rfl) ?_ hA0 ?_
        rotate_left
        · rintro W9 ⟨hx9, hy9⟩
          have q2 := hx9.cell2
          have q0 := hy9.cell0
          have q1 := hy9.cell1
          have q3 := hy9.cell2
          clear hx9 hy9
          go_simp
          try with_reducible rfl
        try simp only [Act.put, List.setIfInBounds_toArray, List.set_cons_zero, List.set_cons_succ]
        refine take1 2 (v := ?_) rfl (by kernel_rfl) (by kernel_rfl) (by kernel_rfl) (fun _ _ _ h => h) (by rfl) ?_ hA0 ?_
        rotate_left
        · rintro W9 ⟨hx9, hy9⟩
          have q2 := hx9.cell2
          have q0 := hy9.cell0
          have q1 := hy9.cell1
          have q3 := hy9.cell2
          clear hx9 hy9
          go_simp
          try with_reducible rfl
        try simp only [Act.put, List.setIfInBounds_toArray, List.set_cons_zero, List.set_cons_succ]
        refine take1 3 (v := ?_) rfl (by kernel_rfl) (by kernel_rfl) (by kernel_rfl) (fun _ _ _ h => h) (by rfl) ?_ hA0 ?_
        rotate_left
        · rintro W9 ⟨hx9, hy9⟩
          have q2 := hx9.cell2
          have q0 := hy9.cell0
          have q1 := hy9.cell1
          have q3 := hy9.cell2
          clear hx9 hy9
          go_simp
          try with_reducible rfl
        try simp only [Act.put, List.setIfInBounds_toArray, List.set_cons_zero, List.set_cons_succ]
        refine take1 4 (v := ?_) rfl (by kernel_rfl) (by kernel_rfl) (by kernel_rfl) (fun _ _ _ h => h) (by rfl) ?_ hA0 ?_
        rotate_left
        · rintro W9 ⟨hx9, hy9⟩
          have q2 := hx9.cell2
          have q0 := hy9.cell0
          have q1 := hy9.cell1
          have q3 := hy9.cell2
          clear hx9 hy9
          go_simp
          try with_reducible rfl
        try simp only [Act.put, List.setIfInBounds_toArray, List.set_cons_zero, List.set_cons_succ]
        refine take1 5 (v := ?_) rfl (by kernel_rfl) (by kernel_rfl) (by kernel_rfl) (fun _ _ _ h => h) (by rfl) ?_ hA0 ?_
        rotate_left
        · rintro W9 ⟨hx9, hy9⟩
          have q2 := hx9.cell2
          have q0 := hy9.cell0
          have q1 := hy9.cell1
          have q3 := hy9.cell2
          clear hx9 hy9
          go_simp
          try with_reducible rfl
        try simp only [Act.put, List.setIfInBounds_toArray, List.set_cons_zero, List.set_cons_succ]
        refine take1 6 (v := ?_) rfl (by kernel_rfl) (by kernel_rfl) (by kernel_rfl) (fun _ _ _ h => h) (by rfl) ?_ hA0 ?_
        rotate_left
        · rintro W9 ⟨hx9, hy9⟩
          have q2 := hx9.cell2
          have q0 := hy9.cell0
          have q1 := hy9.cell1
          have q3 := hy9.cell2
          clear hx9 hy9
          go_simp
          try with_reducible rfl
        try simp only [Act.put, List.setIfInBounds_toArray, List.set_cons_zero, List.set_cons_succ]
        refine take1 7 (v := ?_) rfl (by kernel_rfl) (by kernel_rfl) (by kernel_rfl) (fun _ _ _ h => h) (by rfl) ?_ hA0 ?_
        rotate_left
        · rintro W9 ⟨hx9, hy9⟩
          have q2 := hx9.cell2
          have q0 := hy9.cell0
          have q1 := hy9.cell1
          have q3 := hy9.cell2
          clear hx9 hy9
          go_simp
          try with_reducible rfl
        try simp only [Act.put, List.setIfInBounds_toArray, List.set_cons_zero, List.set_cons_succ]
        refine take1 8 (v := ?_) rfl (by kernel_rfl) (by kernel_rfl) (by kernel_rfl) (fun _ _ _ h => h) (by rfl) ?_ hA0 ?_
        rotate_left
        · rintro W9 ⟨hx9, hy9⟩
          have q2 := hx9.cell2
          have q0 := hy9.cell0
          have q1 := hy9.cell1
          have q3 := hy9.cell2
          clear hx9 hy9
          go_simp
          try with_reducible rfl
        try simp only [Act.put, List.setIfInBounds_toArray, List.set_cons_zero, List.set_cons_succ]
        refine take1 9 (v := ?_) rfl (by kernel_rfl) (by kernel_rfl) (by kernel_rfl) (fun _ _ _ h => h) (by rfl) ?_ hA0 ?_
        rotate_left
        · rintro W9 ⟨hx9, hy9⟩
          have q2 := hx9.cell2
          have q0 := hy9.cell0
          have q1 := hy9.cell1
          have q3 := hy9.cell2
          clear hx9 hy9
          go_simp
          try with_reducible rfl
        try simp only [Act.put, List.setIfInBounds_toArray, List.set_cons_zero, List.set_cons_succ]
        refine take1 10 (v := ?_) rfl (by kernel_rfl) (by kernel_rfl) (by kernel_rfl) (fun _ _ _ h => h) (by rfl) ?_ hA0 ?_
        rotate_left
        · rintro W9 ⟨hx9, hy9⟩
          have q2 := hx9.cell2
          have q0 := hy9.cell0
          have q1 := hy9.cell1
          have q3 := hy9.cell2
          clear hx9 hy9
          go_simp
          try with_reducible rfl
        try simp only [Act.put, List.setIfInBounds_toArray, List.set_cons_zero, List.set_cons_succ]
        refine take1 11 (v := ?_) rfl (by kernel_rfl) (by kernel_rfl) (by kernel_rfl) (fun _ _ _ h => h) (by rfl) ?_ hA0 ?_
        rotate_left
        · rintro W9 ⟨hx9, hy9⟩
          have q2 := hx9.cell2
          have q0 := hy9.cell0
          have q1 := hy9.cell1
          have q3 := hy9.cell2
          clear hx9 hy9
          go_simp
          try with_reducible rfl
        try simp only [Act.put, List.setIfInBounds_toArray, List.set_cons_zero, List.set_cons_succ]
        refine step1 12 (by kernel_rfl) rfl (fun K hK => ?_)
        go_simp
        refine HRec.out.mono ?_
        rintro e W3 ⟨rfl, v3, hg3, ho3, hi3⟩
        go_wp2_with fail
        obtain ⟨v4, hg4, ho4, hi4⟩ : ∃ v4, Gath W3 bx v4 (F ++ eaI p ls.length most pre (i + 1)) ∧ Gone bx W2 v' W3 v4 ∧ I W3 := by
          refine ⟨v3, ?_, ?_, hi3⟩
          · rw [HUp.out, ← List.append_assoc, HA.out.1, HR.out]; exact hg3
          · exact (show Gone bx W2 v' W2.drew v' from ⟨⟨rfl, rfl, rfl, Nat.le_refl _, fun _ _ _ _ => rfl⟩, fun g hg => .inl hg⟩).trans ho3
        have hk4 := HK2.out.trans (ho4.1.keptW HG2.out)
        have ht4 := HSn2.out.same (ho4.1.block W.heap.size HLt.out (fun e => HNx.out e) HNe.out)
        have hne4 : some W.heap.size ≠ v4.ownBlock := fun e => by
          rcases ho4.2 _ e.symm with h | h
          · exact HNe.out h.symm
          · have := HLt.out; omega
        have hl4 := HT2.out.same ((ho4.1.keptW HG2.out).block b _ HT2.out (fun c e => by cases e) (fun c e => by cases e) |>.trans (show W2.heap[b]? = _ from HT2.out).symm)
        refine hK.out _ _ ⟨hl4, ht4⟩ ?_
        clear hK K
        try simp only [Act.put, List.setIfInBounds_toArray, List.set_cons_zero, List.set_cons_succ]
        refine stop1 (by kernel_rfl) ?_
        have HFin := Lib.hid (⟨hk4, ⟨v4, hg4, HGo2.out.trans ho4, hne4⟩, ⟨A, ht4⟩⟩ : KeptW W0 W3 ∧ (∃ v', Gath W3 bx v' (F ++ eaI p ls.length most pre (i + 1)) ∧ Gone bx W v W3 v' ∧ some W.heap.size ≠ v'.ownBlock) ∧ (∃ z, Ter W3 W.heap.size 50 (.int .i64 (cO (pre ++ [z]) 0)) (.int .i64 (cO (pre ++ [z]) 1)) (.int .i64 (cO (pre ++ [z]) 2))))
        clear hg3 ho3 hi3 hg4 ho4 hi4 hk4 ht4 hne4 hl4 hA0
        go_wp2
        go_roundg g
        case rel => exact ⟨i + 1, by have := HA.out; omega, by have := HA.out; rw [wA]; congr 1; omega, Lib.hid HFin.out.1, Lib.hid HFin.out.2.1, Lib.hid HFin.out.2.2⟩
        case measure => omega
      · skip
        go_wp2_with fail
        have hA0 : Ter W2.drew b 70 (.int .i64 (l:Int)) (.int .i64 (2:Int)) nx ∧ Ter W2.drew W.heap.size 50 (.int .i64 (cO (pre ++ [A]) 0)) (.int .i64 (cO (pre ++ [A]) 1)) (.int .i64 (cO (pre ++ [A]) 2)) := ⟨HT2.out, HSn2.out⟩
        refine wp_region_held_drew (S := fun X => Ter X b 70 (.int .i64 (l:Int)) (.int .i64 (2:Int)) nx ∧ Ter X W.heap.size 50 (.int .i64 (cO (pre ++ [A]) 0)) (.int .i64 (cO (pre ++ [A]) 1)) (.int .i64 (cO (pre ++ [A]) 2))) hmx hA0 (fun _ => ?_)
        refine take1 0 (v := ?_) rfl (by kernel_rfl) (by kernel_rfl) (by kernel_rfl) (fun _ _ _ h => h) (by rfl) ?_ hA0 ?_
        rotate_left
        · rintro W9 ⟨hx9, hy9⟩
          have q2 := hx9.cell2
          have q0 := hy9.cell0
          have q1 := hy9.cell1
          have q3 := hy9.cell2
          clear hx9 hy9
          go_simp
          try with_reducible rfl
        try simp only [Act.put, List.setIfInBounds_toArray, List.set_cons_zero, List.set_cons_succ]
        refine take1 1 (v := ?_) rfl (by kernel_rfl) (by kernel_rfl) (by kernel_rfl) (fun _ _ _ h => h) (by rfl) ?_ hA0 ?_
        rotate_left
        · rintro W9 ⟨hx9, hy9⟩
          have q2 := hx9.cell2
          have q0 := hy9.cell0
          have q1 := hy9.cell1
          have q3 := hy9.cell2
          clear hx9 hy9
          go_simp
          try with_reducible rfl
        try simp only [Act.put, List.setIfInBounds_toArray, List.set_cons_zero, List.set_cons_succ]
        refine take1 2 (v := ?_) rfl (by kernel_rfl) (by kernel_rfl) (by kernel_rfl) (fun _ _ _ h => h) (by rfl) ?_ hA0 ?_
        rotate_left
        · rintro W9 ⟨hx9, hy9⟩
          have q2 := hx9.cell2
          have q0 := hy9.cell0
          have q1 := hy9.cell1
          have q3 := hy9.cell2
          clear hx9 hy9
          go_simp
          try with_reducible rfl
        try simp only [Act.put, List.setIfInBounds_toArray, List.set_cons_zero, List.set_cons_succ]
        refine take1 3 (v := ?_) rfl (by kernel_rfl) (by kernel_rfl) (by kernel_rfl) (fun _ _ _ h => h) (by rfl) ?_ hA0 ?_
        rotate_left
        · rintro W9 ⟨hx9, hy9⟩
          have q2 := hx9.cell2
          have q0 := hy9.cell0
          have q1 := hy9.cell1
          have q3 := hy9.cell2
          clear hx9 hy9
          go_simp
          try with_reducible rfl
        try simp only [Act.put, List.setIfInBounds_toArray, List.set_cons_zero, List.set_cons_succ]
        refine take1 4 (v := ?_) rfl (by kernel_rfl) (by kernel_rfl) (by kernel_rfl) (fun _ _ _ h => h) (by rfl) ?_ hA0 ?_
        rotate_left
        · rintro W9 ⟨hx9, hy9⟩
          have q2 := hx9.cell2
          have q0 := hy9.cell0
          have q1 := hy9.cell1
          have q3 := hy9.cell2
          clear hx9 hy9
          go_simp
          try with_reducible rfl
        try simp only [Act.put, List.setIfInBounds_toArray, List.set_cons_zero, List.set_cons_succ]
        refine take1 5 (v := ?_) rfl (by kernel_rfl) (by kernel_rfl) (by kernel_rfl) (fun _ _ _ h => h) (by rfl) ?_ hA0 ?_
        rotate_left
        · rintro W9 ⟨hx9, hy9⟩
          have q2 := hx9.cell2
          have q0 := hy9.cell0
          have q1 := hy9.cell1
          have q3 := hy9.cell2
          clear hx9 hy9
          go_simp
          try with_reducible rfl
        try simp only [Act.put, List.setIfInBounds_toArray, List.set_cons_zero, List.set_cons_succ]
        refine take1 6 (v := ?_) rfl (by kernel_rfl) (by kernel_rfl) (by kernel_rfl) (fun _ _ _ h => h) (by rfl) ?_ hA0 ?_
        rotate_left
        · rintro W9 ⟨hx9, hy9⟩
          have q2 := hx9.cell2
          have q0 := hy9.cell0
          have q1 := hy9.cell1
          have q3 := hy9.cell2
          clear hx9 hy9
          go_simp
          try with_reducible rfl
        try simp only [Act.put, List.setIfInBounds_toArray, List.set_cons_zero, List.set_cons_succ]
        refine take1 7 (v := ?_) rfl (by kernel_rfl) (by kernel_rfl) (by kernel_rfl) (fun _ _ _ h => h) (by rfl) ?_ hA0 ?_
        rotate_left
        · rintro W9 ⟨hx9, hy9⟩
          have q2 := hx9.cell2
          have q0 := hy9.cell0
          have q1 := hy9.cell1
          have q3 := hy9.cell2
          clear hx9 hy9
          go_simp
          try with_reducible rfl
        try simp only [Act.put, List.setIfInBounds_toArray, List.set_cons_zero, List.set_cons_succ]
        refine take1 8 (v := ?_) rfl (by kernel_rfl) (by kernel_rfl) (by kernel_rfl) (fun _ _ _ h => h) (by rfl) ?_ hA0 ?_
        rotate_left
        · rintro W9 ⟨hx9, hy9⟩
          have q2 := hx9.cell2
          have q0 := hy9.cell0
          have q1 := hy9.cell1
          have q3 := hy9.cell2
          clear hx9 hy9
          go_simp
          try with_reducible rfl
        try simp only [Act.put, List.setIfInBounds_toArray, List.set_cons_zero, List.set_cons_succ]
        refine take1 9 (v := ?_) rfl (by kernel_rfl) (by kernel_rfl) (by kernel_rfl) (fun _ _ _ h => h) (by rfl) ?_ hA0 ?_
        rotate_left
        · rintro W9 ⟨hx9, hy9⟩
          have q2 := hx9.cell2
          have q0 := hy9.cell0
          have q1 := hy9.cell1
          have q3 := hy9.cell2
          clear hx9 hy9
          go_simp
          try with_reducible rfl
        try simp only [Act.put, List.setIfInBounds_toArray, List.set_cons_zero, List.set_cons_succ]
        refine take1 10 (v := ?_) rfl (by kernel_rfl) (by kernel_rfl) (by kernel_rfl) (fun _ _ _ h => h) (by rfl) ?_ hA0 ?_
        rotate_left
        · rintro W9 ⟨hx9, hy9⟩
          have q2 := hx9.cell2
          have q0 := hy9.cell0
          have q1 := hy9.cell1
          have q3 := hy9.cell2
          clear hx9 hy9
          go_simp
          try with_reducible rfl
        try simp only [Act.put, List.setIfInBounds_toArray, List.set_cons_zero, List.set_cons_succ]
        refine take1 11 (v := ?_) rfl (by kernel_rfl) (by kernel_rfl) (by kernel_rfl) (fun _ _ _ h => h) (by rfl) ?_ hA0 ?_
        rotate_left
        · rintro W9 ⟨hx9, hy9⟩
          have q2 := hx9.cell2
          have q0 := hy9.cell0
          have q1 := hy9.cell1
          have q3 := hy9.cell2
          clear hx9 hy9
          go_simp
          try with_reducible rfl
        try simp only [Act.put, List.setIfInBounds_toArray, List.set_cons_zero, List.set_cons_succ]
        refine step1 12 (by kernel_rfl) rfl (fun K hK => ?_)
        go_simp
        refine HRec.out.mono ?_
        rintro e W3 ⟨rfl, v3, hg3, ho3, hi3⟩
        go_wp2_with fail
        obtain ⟨v4, hg4, ho4, hi4⟩ : ∃ v4, Gath W3 bx v4 (F ++ eaI p ls.length most pre (i + 1)) ∧ Gone bx W2 v' W3 v4 ∧ I W3 := by
          refine ⟨v3, ?_, ?_, hi3⟩
          · rw [HUp.out, ← List.append_assoc, HA.out.1, HR.out]; exact hg3
          · exact (show Gone bx W2 v' W2.drew v' from ⟨⟨rfl, rfl, rfl, Nat.le_refl _, fun _ _ _ _ => rfl⟩, fun g hg => .inl hg⟩).trans ho3
        have hk4 := HK2.out.trans (ho4.1.keptW HG2.out)
        have ht4 := HSn2.out.same (ho4.1.block W.heap.size HLt.out (fun e => HNx.out e) HNe.out)
        have hne4 : some W.heap.size ≠ v4.ownBlock := fun e => by
          rcases ho4.2 _ e.symm with h | h
          · exact HNe.out h.symm
          · have := HLt.out; omega
        have hl4 := HT2.out.same ((ho4.1.keptW HG2.out).block b _ HT2.out (fun c e => by cases e) (fun c e => by cases e) |>.trans (show W2.heap[b]? = _ from HT2.out).symm)
        refine hK.out _ _ ⟨hl4, ht4⟩ ?_
        clear hK K
        try simp only [Act.put, List.setIfInBounds_toArray, List.set_cons_zero, List.set_cons_succ]
        refine stop1 (by kernel_rfl) ?_
        have HFin := Lib.hid (⟨hk4, ⟨v4, hg4, HGo2.out.trans ho4, hne4⟩, ⟨A, ht4⟩⟩ : KeptW W0 W3 ∧ (∃ v', Gath W3 bx v' (F ++ eaI p ls.length most pre (i + 1)) ∧ Gone bx W v W3 v' ∧ some W.heap.size ≠ v'.ownBlock) ∧ (∃ z, Ter W3 W.heap.size 50 (.int .i64 (cO (pre ++ [z]) 0)) (.int .i64 (cO (pre ++ [z]) 1)) (.int .i64 (cO (pre ++ [z]) 2))))
        clear hg3 ho3 hi3 hg4 ho4 hi4 hk4 ht4 hne4 hl4 hA0
        go_wp2
        go_roundg g
        case rel => exact ⟨i + 1, by have := HA.out; omega, by have := HA.out; rw [wA]; congr 1; omega, Lib.hid HFin.out.1, Lib.hid HFin.out.2.1, Lib.hid HFin.out.2.2⟩
        case measure => omega

end Go.Proofs.Ytgcfgegbbfbaaaa
