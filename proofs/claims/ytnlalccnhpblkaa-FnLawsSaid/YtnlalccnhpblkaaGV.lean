/- Texts of mine, laid together: WrdK WrdT WrdA WrdB WrdC WrdE WrdS WrdD WrdF WrdG WrdH WrdI. -/
import Derived.Test.YtnlalccnhpblkaaGB
import Derived.Test.YtnlalccnhpblkaaGG
import Derived.Test.YtnlalccnhpblkaaGP
import Derived.Test.YtnlalccnhpblkaaGD
import Derived.Laws.Concat
import Derived.Laws.BytesString
import Derived.Maps.AppendAt
/- Words: counts of letters, their ends and lengths (the maths of chapter 10). -/
namespace Go.Proofs.Ytnlalccnhpblkaa
set_option linter.unusedVariables false
/-- The sum of letters so often. -/
def endI : List Nat → List Int → Int
  | l :: ls, c :: cs => (l : Int) * c + endI ls cs
  | _, _ => 0
def absL : List Int → Nat
  | [] => 0
  | c :: cs => c.natAbs + absL cs
def endW (n : Nat) (ls : List Nat) (cs : List Int) : Nat := rest n (endI ls cs)
def maskL : List Nat → Nat
  | [] => 0
  | l :: ls => 2 ^ l ||| maskL ls
theorem mask_bit (ls : List Nat) (v : Nat) : (maskL ls).testBit v = true ↔ v ∈ ls := by
  induction ls with
  | nil => simp [maskL]
  | cons l ls ih =>
    show (2 ^ l ||| maskL ls).testBit v = true ↔ _
    rw [Nat.testBit_or, Bool.or_eq_true, ih, Nat.testBit_two_pow, List.mem_cons, decide_eq_true_eq]
    constructor
    · rintro (h | h)
      · exact .inl h.symm
      · exact .inr h
    · rintro (h | h)
      · exact .inl h.symm
      · exact .inr h
theorem mask_lt (n : Nat) (ls : List Nat) (h : ∀ l ∈ ls, l < n) : maskL ls < 2 ^ n := by
  induction ls with
  | nil => exact Nat.two_pow_pos n
  | cons l ls ih => exact Nat.or_lt_two_pow (Nat.pow_lt_pow_right (by omega) (h l (List.mem_cons_self ..))) (ih fun x hx => h x (List.mem_cons_of_mem _ hx))
/-- One letter more often: the end moves by it, the length by as much at most. -/
theorem bump (l : Nat) (e : Int) (ls : List Nat) (cs : List Int) (hlen : cs.length = ls.length) (hl : l ∈ ls) :
    ∃ ds : List Int, ds.length = ls.length ∧ endI ls ds = endI ls cs + (l : Int) * e ∧ absL ds ≤ absL cs + e.natAbs := by
  induction ls generalizing cs with
  | nil => cases hl
  | cons a ls ih =>
    cases cs with
    | nil => cases hlen
    | cons c cs =>
      have hlen' : cs.length = ls.length := by simpa using hlen
      rcases List.mem_cons.1 hl with h | h
      · subst h
        refine ⟨(c + e) :: cs, by simp [hlen'], ?_, ?_⟩
        · show (l : Int) * (c + e) + endI ls cs = (l : Int) * c + endI ls cs + (l : Int) * e
          rw [Int.mul_add]
          omega
        · show (c + e).natAbs + absL cs ≤ c.natAbs + absL cs + e.natAbs
          omega
      · obtain ⟨ds, h1, h2, h3⟩ := ih cs hlen' h
        refine ⟨c :: ds, by simp [h1], ?_, ?_⟩
        · show (a : Int) * c + endI ls ds = (a : Int) * c + endI ls cs + (l : Int) * e
          omega
        · show c.natAbs + absL ds ≤ c.natAbs + absL cs + e.natAbs
          omega
theorem end_zero (ls : List Nat) : endI ls (List.replicate ls.length 0) = 0 ∧ absL (List.replicate ls.length 0) = 0 := by
  induction ls with
  | nil => exact ⟨rfl, rfl⟩
  | cons l ls ih =>
    refine ⟨?_, ?_⟩
    · show (l : Int) * 0 + endI ls (List.replicate ls.length 0) = 0
      rw [ih.1]
      omega
    · show (0 : Int).natAbs + absL (List.replicate ls.length 0) = 0
      rw [ih.2]
      rfl
theorem abs_zero (ls : List Nat) (cs : List Int) (h : absL cs = 0) : endI ls cs = 0 := by
  induction cs generalizing ls with
  | nil => cases ls <;> rfl
  | cons c cs ih =>
    cases ls with
    | nil => rfl
    | cons l ls =>
      have h' : c.natAbs + absL cs = 0 := h
      show (l : Int) * c + endI ls cs = 0
      rw [ih ls (by omega), show c = 0 by omega]
      omega
end Go.Proofs.Ytnlalccnhpblkaa

/- Words: their bytes, what counts them, the tidy one (the maths of chapter 10). -/
namespace Go.Proofs.Ytnlalccnhpblkaa
set_option linter.unusedVariables false
/-- Which letter a byte is (from 0), and its sign. -/
def letK (b : UInt8) : Int := if b.toNat < 97 then (b.toNat : Int) - 65 else (b.toNat : Int) - 97
def letS (b : UInt8) : Int := if b.toNat < 97 then -1 else 1
def okB (m : Nat) (b : UInt8) : Prop := 0 ≤ letK b ∧ letK b < m
instance (m : Nat) (b : UInt8) : Decidable (okB m b) := inferInstanceAs (Decidable (_ ∧ _))
def addAt (acc : List Int) (k : Nat) (z : Int) : List Int := acc.set k (acc.getD k 0 + z)
def cntC (m : Nat) : List Int → List UInt8 → Option (List Int)
  | acc, [] => some acc
  | acc, b :: bs => if okB m b then cntC m (addAt acc (letK b).toNat (letS b)) bs else none
/-- The counts of a text of m letters, if it is one. -/
def cntT (m : Nat) (xs : List UInt8) : Option (List Int) := if xs.length ≤ 60 then cntC m (List.replicate m 0) xs else none
/-- The text of counts: from the letter k on. -/
def textC : Nat → List Int → List UInt8
  | _, [] => []
  | k, c :: cs => List.replicate c.natAbs (UInt8.ofNat (if 0 < c then 97 + k else 65 + k)) ++ textC (k + 1) cs
theorem text_len (k : Nat) (cs : List Int) : (textC k cs).length = absL cs := by
  induction cs generalizing k with
  | nil => rfl
  | cons c cs ih =>
    show (List.replicate c.natAbs _ ++ textC (k + 1) cs).length = c.natAbs + absL cs
    rw [List.length_append, List.length_replicate, ih]
def sumB (ls : List Nat) : List UInt8 → Int
  | [] => 0
  | b :: bs => (ls.getD (letK b).toNat 0 : Nat) * letS b + sumB ls bs
theorem sumB_append (ls : List Nat) (xs ys : List UInt8) : sumB ls (xs ++ ys) = sumB ls xs + sumB ls ys := by
  induction xs with
  | nil => show sumB ls ys = 0 + sumB ls ys; omega
  | cons b bs ih =>
    show _ * letS b + sumB ls (bs ++ ys) = _ * letS b + sumB ls bs + sumB ls ys
    rw [ih]
    omega
theorem addAt_len (acc : List Int) (k : Nat) (z : Int) : (addAt acc k z).length = acc.length := List.length_set ..
theorem addAt_end (ls : List Nat) (acc : List Int) (k : Nat) (z : Int) (hk : k < acc.length) (hl : acc.length = ls.length) : endI ls (addAt acc k z) = endI ls acc + (ls.getD k 0 : Nat) * z := by
  induction acc generalizing ls k with
  | nil => exact absurd hk (Nat.not_lt_zero _)
  | cons c cs ih =>
    cases ls with
    | nil => cases hl
    | cons l ls =>
      cases k with
      | zero =>
        show (l : Int) * (c + z) + endI ls cs = (l : Int) * c + endI ls cs + (l : Int) * z
        rw [Int.mul_add]
        omega
      | succ k =>
        have := ih ls k (by simpa using hk) (by simpa using hl)
        show (l : Int) * c + endI ls (addAt cs k z) = (l : Int) * c + endI ls cs + (ls.getD k 0 : Nat) * z
        rw [this]
        omega
theorem addAt_abs (acc : List Int) (k : Nat) (z : Int) : absL (addAt acc k z) ≤ absL acc + z.natAbs := by
  induction acc generalizing k with
  | nil => exact Nat.zero_le _
  | cons c cs ih =>
    cases k with
    | zero =>
      show (c + z).natAbs + absL cs ≤ c.natAbs + absL cs + z.natAbs
      omega
    | succ k =>
      have := ih k
      show c.natAbs + absL (addAt cs k z) ≤ c.natAbs + absL cs + z.natAbs
      omega
theorem letS_abs (b : UInt8) : (letS b).natAbs = 1 := by
  unfold letS
  split <;> rfl
/-- Counting fails just where a byte is no letter; what is counted has the text's end and is no longer. -/
theorem cntC_some (m : Nat) (xs : List UInt8) (acc : List Int) (ha : acc.length = m) (h : ∀ b ∈ xs, okB m b) :
    ∃ cs, cntC m acc xs = some cs ∧ cs.length = m ∧ absL cs ≤ absL acc + xs.length ∧ ∀ ls : List Nat, ls.length = m → endI ls cs = endI ls acc + sumB ls xs := by
  induction xs generalizing acc with
  | nil => exact ⟨acc, rfl, ha, Nat.le_refl _, fun ls _ => by show _ = _ + 0; omega⟩
  | cons b bs ih =>
    have hb := h b (List.mem_cons_self ..)
    obtain ⟨cs, p, q, r, s⟩ := ih (addAt acc (letK b).toNat (letS b)) (by rw [addAt_len, ha]) fun x hx => h x (List.mem_cons_of_mem _ hx)
    refine ⟨cs, ?_, q, ?_, fun ls hl => ?_⟩
    · show (if okB m b then _ else none) = some cs
      rw [if_pos hb, p]
    · have := addAt_abs acc (letK b).toNat (letS b)
      rw [letS_abs] at this
      rw [List.length_cons]
      omega
    · rw [s ls hl, addAt_end ls acc _ _ (by have := hb.1; have := hb.2; omega) (by omega)]
      show _ = endI ls acc + ((ls.getD (letK b).toNat 0 : Nat) * letS b + sumB ls bs)
      omega
theorem cntC_none (m : Nat) (xs : List UInt8) (acc : List Int) (h : ¬ ∀ b ∈ xs, okB m b) : cntC m acc xs = none := by
  induction xs generalizing acc with
  | nil => exact absurd (fun b hb => by cases hb) h
  | cons b bs ih =>
    show (if okB m b then _ else none) = none
    by_cases hb : okB m b
    · rw [if_pos hb]
      exact ih _ fun hx => h fun x hm => by
        rcases List.mem_cons.1 hm with e | e
        · rw [e]; exact hb
        · exact hx x e
    · rw [if_neg hb]
theorem cntT_iff (m : Nat) (xs : List UInt8) : (cntT m xs).isSome = true ↔ xs.length ≤ 60 ∧ ∀ b ∈ xs, okB m b := by
  unfold cntT
  by_cases h : xs.length ≤ 60
  · rw [if_pos h]
    by_cases hx : ∀ b ∈ xs, okB m b
    · obtain ⟨cs, p, _⟩ := cntC_some m xs (List.replicate m 0) (by simp) hx
      rw [p]
      exact ⟨fun _ => ⟨h, hx⟩, fun _ => rfl⟩
    · rw [cntC_none m xs _ hx]
      exact ⟨fun e => (by cases e), fun e => absurd e.2 hx⟩
  · rw [if_neg h]
    exact ⟨fun e => (by cases e), fun e => absurd e.1 h⟩
theorem zeros_end (ls : List Nat) (m : Nat) (h : ls.length = m) : endI ls (List.replicate m 0) = 0 := by rw [← h]; exact (end_zero ls).1
theorem zeros_abs (m : Nat) : absL (List.replicate m 0) = 0 := by
  have := (end_zero (List.replicate m 0)).2
  rwa [List.length_replicate] at this
theorem cntT_some (m : Nat) (xs : List UInt8) (cs : List Int) (h : cntT m xs = some cs) : xs.length ≤ 60 ∧ (∀ b ∈ xs, okB m b) ∧ cs.length = m ∧ absL cs ≤ xs.length ∧ ∀ ls : List Nat, ls.length = m → endI ls cs = sumB ls xs := by
  obtain ⟨hl, ho⟩ := (cntT_iff m xs).1 (by rw [h]; rfl)
  obtain ⟨ds, p, q, r, s⟩ := cntC_some m xs (List.replicate m 0) (by simp) ho
  unfold cntT at h
  rw [if_pos hl, p] at h
  have e := Option.some.inj h
  subst e
  rw [zeros_abs] at r
  refine ⟨hl, ho, q, by omega, fun ls hls => ?_⟩
  rw [s ls hls, zeros_end ls m hls]
  omega
theorem letK_text (k : Nat) (hk : k < 3) (c : Int) : letK (UInt8.ofNat (if 0 < c then 97 + k else 65 + k)) = k := by
  by_cases h : 0 < c
  · rw [if_pos h]
    match k, hk with
    | 0, _ => rfl
    | 1, _ => rfl
    | 2, _ => rfl
  · rw [if_neg h]
    match k, hk with
    | 0, _ => rfl
    | 1, _ => rfl
    | 2, _ => rfl
theorem letS_text (k : Nat) (hk : k < 3) (c : Int) : letS (UInt8.ofNat (if 0 < c then 97 + k else 65 + k)) = if 0 < c then 1 else -1 := by
  by_cases h : 0 < c
  · rw [if_pos h, if_pos h]
    match k, hk with
    | 0, _ => rfl
    | 1, _ => rfl
    | 2, _ => rfl
  · rw [if_neg h, if_neg h]
    match k, hk with
    | 0, _ => rfl
    | 1, _ => rfl
    | 2, _ => rfl
theorem addAt_mid (pre post : List Int) (c z : Int) : addAt (pre ++ c :: post) pre.length z = pre ++ (c + z) :: post := by
  unfold addAt
  rw [List.set_append_right _ _ (Nat.le_refl _), Nat.sub_self]
  simp [List.getD_eq_getElem?_getD]
theorem cnt_many (m k : Nat) (hk : k < 3) (hkm : k < m) (c : Int) (j : Nat) (pre post : List Int) (hp : pre.length = k) (z : Int) (rest' : List UInt8) :
    cntC m (pre ++ z :: post) (List.replicate j (UInt8.ofNat (if 0 < c then 97 + k else 65 + k)) ++ rest') = cntC m (pre ++ (z + (if 0 < c then 1 else -1) * (j : Int)) :: post) rest' := by
  induction j generalizing z with
  | zero =>
    show cntC m (pre ++ z :: post) rest' = cntC m (pre ++ (z + _ * ((0 : Nat) : Int)) :: post) rest'
    rw [show (z + (if 0 < c then (1 : Int) else -1) * ((0 : Nat) : Int)) = z by rw [show ((0 : Nat) : Int) = 0 from rfl, Int.mul_zero]; omega]
  | succ j ih =>
    rw [List.replicate_succ, List.cons_append]
    show (if okB m _ then cntC m (addAt (pre ++ z :: post) (letK _).toNat (letS _)) _ else none) = _
    rw [if_pos (show okB m _ by unfold okB; rw [letK_text k hk c]; omega), letK_text k hk c, letS_text k hk c, show ((k : Int)).toNat = pre.length by omega, addAt_mid, ih]
    congr 3
    by_cases h : 0 < c
    · rw [if_pos h]; omega
    · rw [if_neg h]; omega
theorem cnt_text (m : Nat) (hm : m ≤ 3) (cs : List Int) : ∀ (k : Nat) (pre : List Int), pre.length = k → k + cs.length = m → cntC m (pre ++ List.replicate cs.length 0) (textC k cs) = some (pre ++ cs) := by
  induction cs with
  | nil =>
    intro k pre _ _
    show cntC m (pre ++ []) [] = some (pre ++ [])
    rfl
  | cons c cs ih =>
    intro k pre hp hk
    rw [List.length_cons] at hk
    show cntC m (pre ++ (0 : Int) :: List.replicate cs.length 0) (List.replicate c.natAbs _ ++ textC (k + 1) cs) = _
    rw [cnt_many m k (by omega) (by omega) c c.natAbs pre _ hp 0 _]
    have e : (0 : Int) + (if 0 < c then 1 else -1) * (c.natAbs : Int) = c := by
      by_cases h : 0 < c
      · rw [if_pos h]; omega
      · rw [if_neg h]; omega
    rw [e]
    have := ih (k + 1) (pre ++ [c]) (by simp [hp]) (by omega)
    rw [List.append_assoc, List.append_assoc] at this
    exact this
/-- The text of counts has these counts. -/
theorem cntT_text (m : Nat) (hm : m ≤ 3) (cs : List Int) (hl : cs.length = m) (h60 : absL cs ≤ 60) : cntT m (textC 0 cs) = some cs := by
  unfold cntT
  rw [if_pos (by rw [text_len]; exact h60)]
  have := cnt_text m hm cs 0 [] rfl (by omega)
  rw [hl] at this
  exact this
end Go.Proofs.Ytnlalccnhpblkaa

/- Words: the model's test of letters. Written by gen93.py. -/
namespace Go.Proofs.Ytnlalccnhpblkaa
open Go.RowKit Go.Shelf
set_option linter.unusedVariables false
/-- A list of letters of a ring. -/
def LetIn (n : Int) (xs : List Int) : Prop := (1 ≤ n ∧ n ≤ 12) ∧ 1 ≤ xs.length ∧ xs.length ≤ 3 ∧ ∀ i, i < xs.length → 1 ≤ xs.getD i 0 ∧ xs.getD i 0 ≤ n - 1
/-- The letters as places. -/
def letL (xs : List Int) : List Nat := xs.map Int.toNat
theorem ringIn_let (n : Int) (W : World) : Calls Try.prog 50 #[.int .i64 n, .int .i64 0] W fun e w' => e = .returned (.bool (decide (1 ≤ n ∧ n ≤ 12))) ∧ W = w' := by
  by_cases h : 1 ≤ n ∧ n ≤ 12
  · obtain ⟨m, rfl⟩ : ∃ m : Nat, n = (m : Int) := ⟨n.toNat, by omega⟩
    rw [decide_eq_true h]
    exact specIn_yes m 0 W (by omega) (by omega) (Nat.two_pow_pos m)
  · rw [decide_eq_false h]
    exact specIn_no n 0 W (fun hh => h ⟨hh.1, hh.2.1⟩)
theorem letters_no {n : Int} {xs : List Int} {q : Bool} (hq : q = true ↔ LetIn n xs) (h : ¬ LetIn n xs) : q = false := by
  cases hc : q
  · rfl
  · exact absurd (hq.1 hc) h
set_option maxHeartbeats 1000000 in
/-- Whether there are letters. -/
theorem l10Given_any (n : Int) (sv : Value) (xs : List Int) (b : Nat) (w : World) (q : Bool) (hq : q = true ↔ LetIn n xs) (hl : xs.length ≤ 2000000) (hI : IsInts w b sv xs) :
    Calls Try.prog 30 #[.int .i64 n, sv] w fun e w' => e = .returned (.bool q) ∧ w = w' := by
  obtain ⟨m, hm⟩ : ∃ m, wrap64 (n - 1) = m := ⟨_, rfl⟩
  have hm2 : IntKind.i64.wrap (n - 1) = m := by rw [IntWalk.i64_left]; exact hm
  have HMn : Hid (1 ≤ n ∧ n ≤ 12 → m = n - 1) := Lib.hid (fun h => by rw [← hm]; exact IntWalk.wrap64_in _ (by omega))
  have HIn := Lib.hid (fun z W => l6In_any z 1 m W)
  have HR := Lib.hid (fun W => ringIn_let n W)
  have HQ := Lib.hid hq
  rcases hI.shape with ⟨rfl, rfl⟩ | ⟨g, cap, rfl, hg1, hg2, hg3⟩
  · clear hI hq hl
    by_cases hn : 1 ≤ n ∧ n ≤ 12
    · have HV : Hid (q = false) := Lib.hid (letters_no HQ.out fun h => absurd h.2.1 (by simp))
      rw [decide_eq_true hn] at HR
      have HE : Hid (∀ W, Calls Try.prog 41 #[.int .i64 0, .int .i64 1, .int .i64 3] W fun e w' => e = .returned (.bool false) ∧ W = w') := Lib.hid (fun W => l6In_any 0 1 3 W)
      clear hn
      go_enter Try.func30, Try.ntmps30
      go_wp2
      go_loopw [5] (fun u wr => u = .int .i64 0 ∧ w = wr) (fun _ _ => 0)
      case atStart => exact ⟨rfl, rfl⟩
      obtain ⟨rfl, hw⟩ := hrel
      go_wp2_with (go_at_call 50; refine (HR.out _).mono ?_; rintro e w' ⟨rfl, rfl⟩)
      go_wp2_with (go_at_call 41; refine (HE.out _).mono ?_; rintro e w' ⟨rfl, rfl⟩)
      go_ret
      exact ⟨ret_bool HV.out.symm, hw⟩
    · have HV : Hid (q = false) := Lib.hid (letters_no HQ.out fun h => hn h.1)
      rw [decide_eq_false hn] at HR
      clear hn
      go_enter Try.func30, Try.ntmps30
      go_wp2
      go_loopw [5] (fun u wr => u = .int .i64 0 ∧ w = wr) (fun _ _ => 0)
      case atStart => exact ⟨rfl, rfl⟩
      obtain ⟨rfl, hw⟩ := hrel
      go_wp2_with (go_at_call 50; refine (HR.out _).mono ?_; rintro e w' ⟨rfl, rfl⟩)
      go_ret
      exact ⟨ret_bool HV.out.symm, hw⟩
  · have HI := Lib.hid hI
    generalize hL : xs.length = L at *
    have HL := Lib.hid hL
    clear hI hL hg3 hq
    go_enter Try.func30, Try.ntmps30
    go_wp2
    go_loopw [5] (fun u wr => ∃ i : Nat, i ≤ L ∧ u = .int .i64 (i : Int) ∧ w = wr ∧ Hid (∀ j, j < i → 1 ≤ xs.getD j 0 ∧ xs.getD j 0 ≤ m)) (fun u _ => L - (intOf u).toNat)
    case atStart => exact ⟨0, Nat.zero_le _, rfl, rfl, Lib.hid (fun j hj => absurd hj (by omega))⟩
    case round =>
      obtain ⟨i, hi, rfl, hw, HA⟩ := hrel
      subst hw
      by_cases hlt : i < L
      · have ci := HI.out.cell (i := i) (by rw [HL.out]; exact hlt)
        have HOut : Hid (¬ (1 ≤ xs.getD i 0 ∧ xs.getD i 0 ≤ m) → ¬ LetIn n xs) := Lib.hid (fun h hr => h (by
          have a := hr.2.2.2 i (by rw [HL.out]; exact hlt)
          have b := HMn.out hr.1
          omega))
        have HIz := Lib.hid (HIn.out (xs.getD i 0))
        have HAn : Hid ((1 ≤ xs.getD i 0 ∧ xs.getD i 0 ≤ m) → ∀ j, j < i + 1 → 1 ≤ xs.getD j 0 ∧ xs.getD j 0 ≤ m) := Lib.hid (fun h j hj => by
          by_cases e : j = i
          · subst e; exact h
          · exact HA.out j (by omega))
        generalize xs.getD i 0 = z at *
        have i1 : (0 : Int) ≤ (i : Int) := by omega
        have i2 : (i : Int) < (L : Int) := by omega
        by_cases hz : 1 ≤ z ∧ z ≤ m
        · rw [decide_eq_true hz] at HIz
          have HA2 := Lib.hid (HAn.out hz)
          clear HAn HOut hz
          go_wp2_with (go_at_call 41; refine (HIz.out _).mono ?_; rintro e w' ⟨rfl, rfl⟩)
          go_roundw
          case rel => exact ⟨i + 1, by omega, by go_num, by first | rfl | trivial, HA2⟩
          case measure => simp [intOf]; omega
        · rw [decide_eq_false hz] at HIz
          have HV : Hid (q = false) := Lib.hid (letters_no HQ.out (HOut.out hz))
          clear HAn HOut hz
          go_wp2_with (go_at_call 41; refine (HIz.out _).mono ?_; rintro e w' ⟨rfl, rfl⟩)
          go_ret
          exact ⟨ret_bool HV.out.symm, by first | rfl | trivial⟩
      · obtain rfl : i = L := by omega
        by_cases hn : 1 ≤ n ∧ n ≤ 12
        · rw [decide_eq_true hn] at HR
          have hmn := HMn.out hn
          have HE := Lib.hid (fun W => l6In_any (i : Int) 1 3 W)
          by_cases h12 : 1 ≤ i ∧ i ≤ 3
          · have HV : Hid (q = true) := Lib.hid (HQ.out.2 ⟨hn, by rw [HL.out]; exact h12.1, by rw [HL.out]; exact h12.2, fun j hj => by
              rw [HL.out] at hj
              have := HA.out j hj
              omega⟩)
            have k1 : 1 ≤ (i : Int) ∧ (i : Int) ≤ 3 := by omega
            rw [decide_eq_true k1] at HE
            clear hmn hn h12 k1
            go_wp2_with (go_at_call 50; refine (HR.out _).mono ?_; rintro e w' ⟨rfl, rfl⟩)
            go_wp2_with (go_at_call 41; refine (HE.out _).mono ?_; rintro e w' ⟨rfl, rfl⟩)
            go_ret
            exact ⟨ret_bool HV.out.symm, by first | rfl | trivial⟩
          · have HV : Hid (q = false) := Lib.hid (letters_no HQ.out fun h => h12 ⟨by rw [← HL.out]; exact h.2.1, by rw [← HL.out]; exact h.2.2.1⟩)
            have k1 : ¬ (1 ≤ (i : Int) ∧ (i : Int) ≤ 3) := by omega
            rw [decide_eq_false k1] at HE
            clear hmn hn h12 k1
            go_wp2_with (go_at_call 50; refine (HR.out _).mono ?_; rintro e w' ⟨rfl, rfl⟩)
            go_wp2_with (go_at_call 41; refine (HE.out _).mono ?_; rintro e w' ⟨rfl, rfl⟩)
            go_ret
            exact ⟨ret_bool HV.out.symm, by first | rfl | trivial⟩
        · rw [decide_eq_false hn] at HR
          have HV : Hid (q = false) := Lib.hid (letters_no HQ.out fun h => hn h.1)
          clear hn
          go_wp2_with (go_at_call 50; refine (HR.out _).mono ?_; rintro e w' ⟨rfl, rfl⟩)
          go_ret
          exact ⟨ret_bool HV.out.symm, by first | rfl | trivial⟩
end Go.Proofs.Ytnlalccnhpblkaa

/- Words: the model counts a text's letters. -/
namespace Go.Proofs.Ytnlalccnhpblkaa
open Go.RowKit Go.Shelf
set_option linter.unusedVariables false
theorem make_intsL (n : Nat) (hn : n ≤ 2000000) (w : World) :
    (Instr.makeSlice 23 (.int .i64 (n:Int)) (.int .i64 (n:Int))).run Try.prog w = .ok (.slice (some ⟨w.heap.size, 0, none⟩) n n) (w.alloc (.cells (madeCells #[.int .i64 0] n) 3)) := by
  obtain ⟨i0, hi, hz0, hz1, hz2⟩ := info_parts Try.infoInt
  have h := run_make (P := Try.prog) w 23 3 i0 _ Try.underlying23 hi hz0 .i64 .i64 (n:Int) (n:Int) (by omega) (Int.le_refl _) (by rw [hz2]; omega) (by omega)
  simp only [hz1, Nat.mul_one, Int.toNat_natCast] at h
  exact h
theorem made_intsL (n : Nat) (hn : n ≤ 2000000) (w : World) : IsInts (w.alloc (.cells (madeCells #[.int .i64 0] n) 3)) w.heap.size (.slice (some ⟨w.heap.size, 0, none⟩) n n) (List.replicate n 0) := by
  have h := World.ownsRow_lit (base := w.heap.size) (e := 3) (size := 1) w (madeCells #[.int .i64 0] n) n (Nat.le_refl _) (by unfold maxLen; omega) (by simpa using size_madeCells #[Value.int .i64 0] n)
  unfold IsInts
  rw [List.length_replicate]
  have e : (List.replicate n (0 : Int)).map (Value.int .i64) = (madeCells #[Value.int .i64 0] n).toList := by
    rw [toList_madeCells_one, List.map_replicate]
  rw [e]
  exact h
theorem ints_slice {W : World} {b : Nat} {v : Value} {xs : List Int} (h : IsInts W b v xs) : ∃ A cap, v = .slice A xs.length cap := by
  rcases h.shape with ⟨rfl, rfl⟩ | ⟨g, cap, rfl, _⟩
  · exact ⟨none, 0, rfl⟩
  · exact ⟨_, cap, rfl⟩
theorem abs_get (cs : List Int) (k : Nat) : (cs.getD k 0).natAbs ≤ absL cs := by
  induction cs generalizing k with
  | nil => exact Nat.zero_le _
  | cons c cs ih =>
    cases k with
    | zero =>
      show c.natAbs ≤ c.natAbs + absL cs
      omega
    | succ k =>
      have := ih k
      show (cs.getD k 0).natAbs ≤ c.natAbs + absL cs
      omega
theorem bytes_len (s : ByteArray) : s.toList.length = s.size := by rw [ByteArray.toList_eq]; cases s; rfl
theorem bytes_drop (s : ByteArray) (i : Nat) (hi : i < s.size) : s.toList.drop i = s[i] :: s.toList.drop (i + 1) := by
  have h : i < s.toList.length := by rw [bytes_len]; exact hi
  rw [List.drop_eq_getElem_cons h]
  congr 1
  simp only [ByteArray.toList_eq]
  cases s
  rfl
theorem bytes_end (s : ByteArray) (i : Nat) (hi : s.size ≤ i) : s.toList.drop i = [] := List.drop_eq_nil_of_le (by rw [bytes_len]; exact hi)
/-- What has been counted ahead of place i. -/
structure CntAt (m : Nat) (s : ByteArray) (i : Nat) (acc : List Int) : Prop where
  len : acc.length = m
  abs : absL acc ≤ i
  same : cntC m (List.replicate m 0) s.toList = cntC m acc (s.toList.drop i)
theorem CntAt.zero (m : Nat) (s : ByteArray) : CntAt m s 0 (List.replicate m 0) := ⟨by simp, Nat.le_of_eq (zeros_abs m), rfl⟩
theorem CntAt.step {m : Nat} {s : ByteArray} {i : Nat} {acc : List Int} (h : CntAt m s i acc) (hi : i < s.size) (ho : okB m s[i]) : CntAt m s (i + 1) (addAt acc (letK s[i]).toNat (letS s[i])) := by
  refine ⟨by rw [addAt_len, h.len], ?_, ?_⟩
  · have a := addAt_abs acc (letK s[i]).toNat (letS s[i])
    rw [letS_abs] at a
    have := h.abs
    omega
  · rw [h.same, bytes_drop s i hi]
    show (if okB m s[i] then _ else none) = _
    rw [if_pos ho]
theorem CntAt.fail {m : Nat} {s : ByteArray} {i : Nat} {acc : List Int} (h : CntAt m s i acc) (hi : i < s.size) (ho : ¬ okB m s[i]) (h60 : s.size ≤ 60) : cntT m s.toList = none := by
  unfold cntT
  rw [if_pos (by rw [bytes_len]; exact h60), h.same, bytes_drop s i hi]
  show (if okB m s[i] then _ else none) = none
  rw [if_neg ho]
theorem CntAt.done {m : Nat} {s : ByteArray} {acc : List Int} (h : CntAt m s s.size acc) (h60 : s.size ≤ 60) : cntT m s.toList = some acc := by
  unfold cntT
  rw [if_pos (by rw [bytes_len]; exact h60), h.same, bytes_end s _ (Nat.le_refl _)]
  rfl
theorem cntT_long (m : Nat) (s : ByteArray) (h : ¬ s.size ≤ 60) : cntT m s.toList = none := by
  unfold cntT
  rw [if_neg (by rw [bytes_len]; exact h)]
theorem byte_sub (y c : Nat) (h : y < 256) (hc : c < 256) : IntKind.i64.wrap ((y : Int) - (c : Int)) = (y : Int) - (c : Int) ∧ wrap64 ((y : Int) - (c : Int)) = (y : Int) - (c : Int) :=
  ⟨IntWalk.i64_in _ ⟨by omega, by omega⟩, IntWalk.wrap64_in _ ⟨by omega, by omega⟩⟩
theorem byte_val (y : Nat) (h : y < 256) : IntKind.i64.wrap (y : Int) = (y : Int) ∧ wrap64 (y : Int) = (y : Int) :=
  ⟨IntWalk.i64_in _ ⟨by omega, by omega⟩, IntWalk.wrap64_in _ ⟨by omega, by omega⟩⟩
theorem small_up (v : Int) (n : Nat) (h : v.natAbs ≤ n) (hn : n ≤ 100) : IntKind.i64.wrap (v + 1) = v + 1 ∧ wrap64 (v + 1) = v + 1 := by
  have h1 : -100 ≤ v := by omega
  have h2 : v ≤ 100 := by omega
  clear h hn
  exact ⟨IntWalk.i64_in _ ⟨by omega, by omega⟩, IntWalk.wrap64_in _ ⟨by omega, by omega⟩⟩
theorem small_down (v : Int) (n : Nat) (h : v.natAbs ≤ n) (hn : n ≤ 100) : IntKind.i64.wrap (v + (-1)) = v + (-1) ∧ wrap64 (v + (-1)) = v + (-1) := by
  have h1 : -100 ≤ v := by omega
  have h2 : v ≤ 100 := by omega
  clear h hn
  exact ⟨IntWalk.i64_in _ ⟨by omega, by omega⟩, IntWalk.wrap64_in _ ⟨by omega, by omega⟩⟩
set_option maxHeartbeats 3000000 in
/-- Counting: fails, or hands back the counts in an own list. -/
theorem l10Counts_any (lv : Value) (xs : List Int) (s : ByteArray) (b : Nat) (w : World) (hl : xs.length ≤ 2000000) (hI : IsInts w b lv xs) :
    Calls Try.prog 29 #[lv, .string s] w fun e w' => Below w.heap.size w w' ∧ ((cntT xs.length s.toList = none ∧ ∃ x, e = .returned (.tuple #[x, .bool false])) ∨
      ∃ cs, cntT xs.length s.toList = some cs ∧ e = .returned (.tuple #[.slice (some ⟨w.heap.size, 0, none⟩) xs.length xs.length, .bool true]) ∧ IsInts w' w.heap.size (.slice (some ⟨w.heap.size, 0, none⟩) xs.length xs.length) cs) := by
  obtain ⟨A, cap, rfl⟩ := ints_slice hI
  clear hI
  generalize xs.length = m at *
  have hmk := make_intsL m hl w
  have HM := Lib.hid (made_intsL m hl w)
  have HIn := Lib.hid (fun z W => l6In_any z 0 ((m : Int) - 1) W)
  have hm1 : IntKind.i64.wrap ((m : Int) - 1) = (m : Int) - 1 := IntWalk.i64_in _ ⟨by omega, by omega⟩
  have hm2 : wrap64 ((m : Int) - 1) = (m : Int) - 1 := IntWalk.wrap64_in _ ⟨by omega, by omega⟩
  have HW := Lib.hid (And.intro hm1 hm2)
  clear hm1 hm2
  clear hl
  obtain ⟨N, hN⟩ : ∃ N, s.size = N := ⟨_, rfl⟩
  have HN := Lib.hid hN
  have hB0 : Below w.heap.size w (w.alloc (.cells (madeCells #[.int .i64 0] m) 3)) := (Below.refl _ _).alloc (Nat.le_refl _) _
  by_cases h60 : N ≤ 60
  · have H60 : Hid (s.size ≤ 60) := Lib.hid (by omega)
    have g0 : ¬ (60 < (N : Int)) := by omega
    have g60 : decide (60 < (N : Int)) = false := decide_eq_false (by omega)
    have g61 : decide ((60 : Int) < (s.size : Int)) = false := decide_eq_false (by omega)
    clear h60
    go_enter Try.func29, Try.ntmps29
    go_wp2
    obtain ⟨W0, hW0⟩ : ∃ W0, w.alloc (.cells (madeCells #[.int .i64 0] m) 3) = W0 := ⟨_, rfl⟩
    rw [hW0] at hB0 HM ⊢
    clear hW0 hmk
    go_loopw [7] (fun u wr => ∃ i : Nat, i ≤ N ∧ u = .int .i64 (i : Int) ∧ ∃ acc, Hid (CntAt m s i acc) ∧ IsInts wr w.heap.size (.slice (some ⟨w.heap.size, 0, none⟩) m m) acc ∧ Below w.heap.size w wr) (fun u _ => N - (intOf u).toNat)
    case atStart => exact ⟨0, Nat.zero_le _, rfl, _, Lib.hid (CntAt.zero m s), HM.out, hB0⟩
    case round =>
      obtain ⟨i, hi, rfl, acc, HC, hI, hB⟩ := hrel
      have HI2 := Lib.hid hI
      clear hI HM hB0
      by_cases hlt : i < N
      · have hi' : i < s.size := by rw [hN]; exact hlt
        have i1 : (0 : Int) ≤ (i : Int) := by omega
        have i2 : (i : Int) < (N : Int) := by omega
        have ho : (0 ≤ letK s[i] ∧ letK s[i] ≤ (m : Int) - 1) ↔ okB m s[i] := by unfold okB; omega
        have HF := Lib.hid (fun h => HC.out.fail hi' h H60.out)
        have HS := Lib.hid (fun h => HC.out.step hi' h)
        have hac := HC.out.len
        have hab := HC.out.abs
        have hidx : (Instr.index 9 (.string s) (.int .i64 (i : Int))).run Try.prog wr = .ok (.int .u8 (s[i].toNat : Int)) wr := by
          rw [run_index_string wr 9 s .i64 (i : Int) Try.underlying9, dif_pos ⟨i1, by omega⟩]
          rfl
        have hlk : letK s[i] = if s[i].toNat < 97 then (s[i].toNat : Int) - 65 else (s[i].toNat : Int) - 97 := rfl
        have hls : letS s[i] = if s[i].toNat < 97 then -1 else 1 := rfl
        have hx : s[i].toNat < 256 := s[i].toNat_lt
        have HIz := Lib.hid (HIn.out (letK s[i]))
        generalize letK s[i] = k at *
        generalize letS s[i] = z at *
        generalize s[i].toNat = y at *
        have HA := Lib.hid (byte_val y hx)
        have HA97 : Hid (IntKind.i64.wrap ((y : Int) - 97) = (y : Int) - 97 ∧ wrap64 ((y : Int) - 97) = (y : Int) - 97) := Lib.hid (byte_sub y 97 hx (by decide))
        have HA65 : Hid (IntKind.i64.wrap ((y : Int) - 65) = (y : Int) - 65 ∧ wrap64 ((y : Int) - 65) = (y : Int) - 65) := Lib.hid (byte_sub y 65 hx (by decide))
        by_cases hy : y < 97
        · have hk : k = (y : Int) - 65 := by rw [hlk, if_pos hy]
          have hz : z = -1 := by rw [hls, if_pos hy]
          clear hlk hls
          have b1 : decide ((y : Int) < 97) = true := decide_eq_true (by omega)
          have b2 :  ((y : Int) < 97) := by omega
          subst hz
          by_cases hok : 0 ≤ k ∧ k ≤ (m : Int) - 1
          · rw [decide_eq_true hok] at HIz
            have HS1 := Lib.hid (HS.out (ho.1 hok))
            clear HS HF ho
            obtain ⟨r, rfl⟩ : ∃ r : Nat, k = (r : Int) := ⟨k.toNat, by omega⟩
            have hr : r < m := by omega
            have HI4 : Hid (IsInts wr w.heap.size (.slice (some ⟨w.heap.size, 0, none⟩) acc.length m) acc) := Lib.hid (by rw [hac]; exact HI2.out)
            have c1 := HI4.out.cell (i := r) (by rw [hac]; exact hr)
            have f1 := HI4.out.frozen r
            have hsz : w.heap.size < wr.heap.size := World.block_lt_of_cell? wr _ c1
            have hv := abs_get acc r
            have HS2 : Hid (CntAt m s (i + 1) (acc.set r (acc.getD r 0 + (-1)))) := Lib.hid (by have := HS1.out; rw [Int.toNat_natCast] at this; exact this)
            have HIs := Lib.hid (HI4.out.set r (acc.getD r 0 + (-1)))
            generalize acc.getD r 0 = v at *
            have HSm := Lib.hid (small_down v i (Nat.le_trans hv hab) (by clear hv hab; omega))
            have j1 : (0 : Int) ≤ (r : Int) := by omega
            have j2 : (r : Int) < (m : Int) := by omega
            have hk2 : (y : Int) - 65 = (r : Int) := hk.symm
            clear hok hab hv HS1 hk
            obtain ⟨w1, w2⟩ := HSm.out
            obtain ⟨a1, a2⟩ := HA.out
            obtain ⟨a3, a4⟩ := HA97.out
            obtain ⟨a5, a6⟩ := HA65.out
            obtain ⟨hm1, hm2⟩ := HW.out
            rw [hk2] at a5 a6
            go_wp2_with (go_at_call 41; refine (HIz.out _).mono ?_; rintro e w3 ⟨rfl, rfl⟩)
            try go_region
            try go_wp2
            go_roundw
            case rel =>
              clear a1 a2 a3 a4 w1 w2 hm1 hm2
              refine ⟨i + 1, by omega, by go_num, _, HS2, ?_, ?_⟩
              · have h3 := HIs.out
                rw [List.length_set, hac] at h3
                exact h3
              · exact hB.trans ⟨rfl, rfl, rfl, by simp [World.setCell], fun q hq => Below.heap_setCell wr ⟨w.heap.size, r, none⟩ _ q (by simp; omega)⟩
            case measure => simp [intOf]; omega
          · rw [decide_eq_false hok] at HIz
            have HV := Lib.hid (HF.out (fun h => hok (ho.2 h)))
            clear HS HF ho hok hab
            have hk2 : (y : Int) - 65 = k := hk.symm
            clear hk
            obtain ⟨a1, a2⟩ := HA.out
            obtain ⟨a3, a4⟩ := HA97.out
            obtain ⟨a5, a6⟩ := HA65.out
            obtain ⟨hm1, hm2⟩ := HW.out
            rw [hk2] at a5 a6
            go_wp2_with (go_at_call 41; refine (HIz.out _).mono ?_; rintro e w3 ⟨rfl, rfl⟩)
            go_ret2
            exact ⟨hB, .inl ⟨HV.out, _, rfl⟩⟩
        · have hk : k = (y : Int) - 97 := by rw [hlk, if_neg hy]
          have hz : z = 1 := by rw [hls, if_neg hy]
          clear hlk hls
          have b1 : decide ((y : Int) < 97) = false := decide_eq_false (by omega)
          have b2 : ¬ ((y : Int) < 97) := by omega
          subst hz
          by_cases hok : 0 ≤ k ∧ k ≤ (m : Int) - 1
          · rw [decide_eq_true hok] at HIz
            have HS1 := Lib.hid (HS.out (ho.1 hok))
            clear HS HF ho
            obtain ⟨r, rfl⟩ : ∃ r : Nat, k = (r : Int) := ⟨k.toNat, by omega⟩
            have hr : r < m := by omega
            have HI4 : Hid (IsInts wr w.heap.size (.slice (some ⟨w.heap.size, 0, none⟩) acc.length m) acc) := Lib.hid (by rw [hac]; exact HI2.out)
            have c1 := HI4.out.cell (i := r) (by rw [hac]; exact hr)
            have f1 := HI4.out.frozen r
            have hsz : w.heap.size < wr.heap.size := World.block_lt_of_cell? wr _ c1
            have hv := abs_get acc r
            have HS2 : Hid (CntAt m s (i + 1) (acc.set r (acc.getD r 0 + 1))) := Lib.hid (by have := HS1.out; rw [Int.toNat_natCast] at this; exact this)
            have HIs := Lib.hid (HI4.out.set r (acc.getD r 0 + 1))
            generalize acc.getD r 0 = v at *
            have HSm := Lib.hid (small_up v i (Nat.le_trans hv hab) (by clear hv hab; omega))
            have j1 : (0 : Int) ≤ (r : Int) := by omega
            have j2 : (r : Int) < (m : Int) := by omega
            have hk2 : (y : Int) - 97 = (r : Int) := hk.symm
            clear hok hab hv HS1 hk
            obtain ⟨w1, w2⟩ := HSm.out
            obtain ⟨a1, a2⟩ := HA.out
            obtain ⟨a3, a4⟩ := HA97.out
            obtain ⟨hm1, hm2⟩ := HW.out
            rw [hk2] at a3 a4
            go_wp2_with (go_at_call 41; refine (HIz.out _).mono ?_; rintro e w3 ⟨rfl, rfl⟩)
            try go_region
            try go_wp2
            go_roundw
            case rel =>
              clear a1 a2 a3 a4 w1 w2 hm1 hm2
              refine ⟨i + 1, by omega, by go_num, _, HS2, ?_, ?_⟩
              · have h3 := HIs.out
                rw [List.length_set, hac] at h3
                exact h3
              · exact hB.trans ⟨rfl, rfl, rfl, by simp [World.setCell], fun q hq => Below.heap_setCell wr ⟨w.heap.size, r, none⟩ _ q (by simp; omega)⟩
            case measure => simp [intOf]; omega
          · rw [decide_eq_false hok] at HIz
            have HV := Lib.hid (HF.out (fun h => hok (ho.2 h)))
            clear HS HF ho hok hab
            have hk2 : (y : Int) - 97 = k := hk.symm
            clear hk
            obtain ⟨a1, a2⟩ := HA.out
            obtain ⟨a3, a4⟩ := HA97.out
            obtain ⟨hm1, hm2⟩ := HW.out
            rw [hk2] at a3 a4
            go_wp2_with (go_at_call 41; refine (HIz.out _).mono ?_; rintro e w3 ⟨rfl, rfl⟩)
            go_ret2
            exact ⟨hB, .inl ⟨HV.out, _, rfl⟩⟩
      · obtain rfl : i = N := by omega
        go_wp2
        go_ret2
        exact ⟨hB, .inr ⟨acc, by
          have := HC.out
          rw [← HN.out] at this
          exact this.done H60.out, rfl, HI2.out⟩⟩
  · have HV := Lib.hid (cntT_long m s (by omega))
    have g0 : (60 < (N : Int)) := by omega
    have g60 : decide (60 < (N : Int)) = true := decide_eq_true (by omega)
    have g61 : decide ((60 : Int) < (s.size : Int)) = true := decide_eq_true (by omega)
    clear h60
    go_enter Try.func29, Try.ntmps29
    go_wp2
    go_ret2
    exact ⟨hB0, .inl ⟨HV.out, _, rfl⟩⟩
end Go.Proofs.Ytnlalccnhpblkaa

/- Words: the model adds letters up, and writes one letter often. -/
namespace Go.Proofs.Ytnlalccnhpblkaa
open Go.RowKit Go.Shelf
set_option linter.unusedVariables false
/-- The sum of the first k letters so often. -/
def endJ (xs cs : List Int) : Nat → Int
  | 0 => 0
  | k + 1 => endJ xs cs k + xs.getD k 0 * cs.getD k 0
theorem endJ_cons (x c : Int) (xs cs : List Int) (k : Nat) : endJ (x :: xs) (c :: cs) (k + 1) = x * c + endJ xs cs k := by
  induction k with
  | zero =>
    show (0 : Int) + x * c = x * c + 0
    omega
  | succ k ih =>
    show endJ (x :: xs) (c :: cs) (k + 1) + xs.getD k 0 * cs.getD k 0 = x * c + (endJ xs cs k + xs.getD k 0 * cs.getD k 0)
    rw [ih]
    omega
theorem endJ_end (xs cs : List Int) (hl : cs.length = xs.length) (hp : ∀ x ∈ xs, 0 ≤ x) : endJ xs cs xs.length = endI (letL xs) cs := by
  induction xs generalizing cs with
  | nil =>
    cases cs with
    | nil => rfl
    | cons c cs => cases hl
  | cons x xs ih =>
    cases cs with
    | nil => cases hl
    | cons c cs =>
      rw [List.length_cons, endJ_cons, ih cs (by simpa using hl) (fun y hy => hp y (List.mem_cons_of_mem _ hy))]
      show x * c + _ = ((x.toNat : Nat) : Int) * c + _
      rw [Int.toNat_of_nonneg (hp x (List.mem_cons_self ..))]
      rfl
theorem getD_memI (xs : List Int) (i : Nat) (hi : i < xs.length) : xs.getD i 0 ∈ xs := by
  rw [List.getD_eq_getElem?_getD, List.getElem?_eq_getElem hi]
  exact List.getElem_mem hi
theorem mem_getI (xs : List Int) (x : Int) (hx : x ∈ xs) : ∃ i, i < xs.length ∧ xs.getD i 0 = x := by
  obtain ⟨i, hi, e⟩ := List.mem_iff_getElem.1 hx
  exact ⟨i, hi, by rw [List.getD_eq_getElem?_getD, List.getElem?_eq_getElem hi]; exact e⟩
theorem let_pos {n : Int} {xs : List Int} (h : LetIn n xs) : ∀ x ∈ xs, 0 ≤ x := fun x hx => by
  obtain ⟨i, hi, e⟩ := mem_getI xs x hx
  have := (h.2.2.2 i hi).1
  omega
theorem prod_small (x c : Int) (h1 : 0 ≤ x) (h2 : x ≤ 12) (hc : c.natAbs ≤ 100) : -1200 ≤ x * c ∧ x * c ≤ 1200 := by
  have a := Int.mul_le_mul_of_nonneg_left (show c ≤ 100 by omega) h1
  have b := Int.mul_le_mul_of_nonneg_left (show -100 ≤ c by omega) h1
  omega
theorem endJ_small {n : Int} {xs cs : List Int} (h : LetIn n xs) (hc : ∀ k, (cs.getD k 0).natAbs ≤ 100) (k : Nat) (hk : k ≤ xs.length) : -1200 * (k : Int) ≤ endJ xs cs k ∧ endJ xs cs k ≤ 1200 * (k : Int) := by
  induction k with
  | zero => exact ⟨by show -1200 * 0 ≤ (0 : Int); omega, by show (0 : Int) ≤ 1200 * 0; omega⟩
  | succ k ih =>
    have a := ih (by omega)
    have b := h.2.2.2 k (by omega)
    have c := prod_small (xs.getD k 0) (cs.getD k 0) (by omega) (by have := h.1; omega) (hc k)
    show -1200 * ((k + 1 : Nat) : Int) ≤ endJ xs cs k + xs.getD k 0 * cs.getD k 0 ∧ endJ xs cs k + xs.getD k 0 * cs.getD k 0 ≤ 1200 * ((k + 1 : Nat) : Int)
    omega
theorem wraps4 (z : Int) (h : -100000 ≤ z ∧ z ≤ 100000) : IntKind.i64.wrap z = z ∧ wrap64 z = z := ⟨IntWalk.i64_in _ ⟨by omega, by omega⟩, IntWalk.wrap64_in _ ⟨by omega, by omega⟩⟩
set_option maxHeartbeats 1000000 in
theorem l10End_any (n : Nat) (lv cv : Value) (xs cs : List Int) (b c : Nat) (w : World) (hL : LetIn (n : Int) xs) (hlen : cs.length = xs.length) (hc : ∀ k, (cs.getD k 0).natAbs ≤ 100) (hI : IsInts w b lv xs) (hJ : IsInts w c cv cs) :
    Calls Try.prog 31 #[.int .i64 (n:Int), lv, cv] w fun e w' => e = .returned (.int .i64 ((endW n (letL xs) cs : Nat) : Int)) ∧ Below w.heap.size w w' := by
  have hpos := hL.2.1
  rcases hI.shape with ⟨_, e⟩ | ⟨g, cap, rfl, _⟩
  · rw [e] at hpos; exact absurd hpos (by simp)
  rcases hJ.shape with ⟨_, e⟩ | ⟨h, cap2, rfl, _⟩
  · rw [e] at hlen; rw [← hlen] at hpos; exact absurd hpos (by simp)
  have hs3 := endJ_small hL hc xs.length (Nat.le_refl _)
  have h3 := hL.2.2.1
  have HR := Lib.hid (fun W => l1Rest_all n (endJ xs cs xs.length) W (by have := hL.1; omega) (by have := hL.1; omega) (by omega))
  rw [endJ_end xs cs hlen (let_pos hL)] at HR
  have HE : Hid (endJ xs cs xs.length = endI (letL xs) cs) := Lib.hid (endJ_end xs cs hlen (let_pos hL))
  have HS := Lib.hid (fun k hk => endJ_small hL hc k hk)
  have HP := Lib.hid (fun k (hk : k < xs.length) => (⟨prod_small (xs.getD k 0) (cs.getD k 0) (by have := hL.2.2.2 k hk; omega) (by have := hL.2.2.2 k hk; have := hL.1; omega) (hc k), rfl⟩ : (-1200 ≤ xs.getD k 0 * cs.getD k 0 ∧ xs.getD k 0 * cs.getD k 0 ≤ 1200) ∧ endJ xs cs (k + 1) = endJ xs cs k + xs.getD k 0 * cs.getD k 0))
  have HI := Lib.hid hI
  have HJ := Lib.hid hJ
  have HLn := Lib.hid hlen
  have HG : Hid (endW n (letL xs) cs = rest n (endI (letL xs) cs)) := Lib.hid rfl
  generalize endW n (letL xs) cs = E at *
  generalize rest n (endI (letL xs) cs) = R at *
  generalize endI (letL xs) cs = Z at *
  have h3' : xs.length ≤ 3 := h3
  clear hI hJ hlen hL hc hs3
  go_enter Try.func31, Try.ntmps31
  go_wp2
  go_loopw [7, 8] (fun u v wr => ∃ k : Nat, k ≤ xs.length ∧ u = .int .i64 (endJ xs cs k) ∧ v = .int .i64 (k : Int) ∧ Below w.heap.size w wr) (fun _ v _ => xs.length - (intOf v).toNat)
  case atStart => exact ⟨0, Nat.zero_le _, rfl, rfl, Below.refl _ _⟩
  case round =>
    obtain ⟨k, hk, rfl, rfl, hw⟩ := hrel
    by_cases hlt : k < xs.length
    · have c1 := (HI.out.belowAll hw).cell (i := k) hlt
      have c2 := (HJ.out.belowAll hw).cell (i := k) (by rw [HLn.out]; exact hlt)
      obtain ⟨hp, hst⟩ := HP.out k hlt
      have hs0 := HS.out k hk
      have hk3 : (k : Int) ≤ 3 := by omega
      have HST := Lib.hid hst
      clear hst
      generalize xs.getD k 0 = x at *
      generalize cs.getD k 0 = y at *
      generalize endJ xs cs k = z at *
      have HW := Lib.hid (wraps4 (x * y) (by omega))
      have HW2 := Lib.hid (wraps4 (z + x * y) (by omega))
      generalize hq : x * y = q at *
      have HW3 := Lib.hid hq
      have i1 : (0 : Int) ≤ (k : Int) := by omega
      have i2 : (k : Int) < (xs.length : Int) := by omega
      have i3 : (k : Int) < (cs.length : Int) := by rw [HLn.out]; omega
      have i4 : k < cs.length := by rw [HLn.out]; omega
      clear hp hs0 hk3
      obtain ⟨a1, a2⟩ := HW.out
      obtain ⟨a3, a4⟩ := HW2.out
      go_wp2
      go_region
      go_wp2
      go_roundw
      case rel => exact ⟨k + 1, by omega, by rw [HST.out], by go_num, by first | exact hw.drew | exact hw⟩
      case measure => simp [intOf]; omega
    · obtain rfl : k = xs.length := by omega
      rw [HE.out]
      clear hlt hk
      go_wp2_with (go_at_call 51; refine (HR.out _).mono ?_; rintro e w2 ⟨rfl, rfl⟩)
      go_ret
      exact ⟨by rw [HG.out]; first | rfl | done, hw⟩
/-- A text of one letter, j times. -/
def repY (y : UInt8) (j : Nat) : ByteArray := ⟨(List.replicate j y).toArray⟩
/-- A list of bytes as a text. -/
def toB (l : List UInt8) : ByteArray := ⟨l.toArray⟩
theorem toB_list (l : List UInt8) : (toB l).toList = l := by rw [ByteArray.toList_eq]; rfl
theorem toB_size (l : List UInt8) : (toB l).size = l.length := by show l.toArray.size = _; simp
theorem toB_append (a b : List UInt8) : toB a ++ toB b = toB (a ++ b) := by
  apply ByteArray.ext
  rw [ByteArray.data_append]
  show a.toArray ++ b.toArray = (a ++ b).toArray
  simp
theorem toB_of (s : ByteArray) : toB s.toList = s := by
  apply ByteArray.ext
  rw [ByteArray.toList_eq]
  show s.data.toList.toArray = s.data
  simp
theorem rep_add (y : UInt8) (a b : Nat) : repY y a ++ repY y b = repY y (a + b) := by
  show toB _ ++ toB _ = toB _
  rw [toB_append, List.replicate_append_replicate]
theorem rep_size (y : UInt8) (a : Nat) : (repY y a).size = a := by
  show (toB _).size = a
  rw [toB_size, List.length_replicate]
theorem half_stepW (a p c : Nat) : a + (c % 2) * p + (p + p) * (c / 2) = a + p * c := by
  have h : p * c = p * (2 * (c / 2) + c % 2) := by rw [Nat.div_add_mod]
  rw [h, Nat.mul_add, ← Nat.two_mul, Nat.mul_comm (c % 2) p, ← Nat.mul_assoc, Nat.mul_comm p 2]
  omega
theorem odd_modW (n : Nat) : Int.tmod (n : Int) 2 = ((n % 2 : Nat) : Int) := by rw [Int.tmod_eq_emod_of_nonneg (Int.natCast_nonneg n)]; omega
set_option maxHeartbeats 1000000 in
theorem l6Many_any (y : UInt8) (j : Nat) (w : World) (hj : j ≤ 100) :
    Calls Try.prog 55 #[.string (repY y 1), .int .i64 (j:Int)] w fun e w' => e = .returned (.string (repY y j)) ∧ w = w' := by
  have HA := Lib.hid (rep_add y)
  have HZ := Lib.hid (rep_size y)
  have HH := Lib.hid half_stepW
  have H0 : Hid (repY y 0 = ⟨#[]⟩) := Lib.hid rfl
  go_enter Try.func55, Try.ntmps55
  go_wp2
  go_loopw [0, 1, 5] (fun u v z wr => ∃ p c a : Nat, u = .string (repY y p) ∧ v = .int .i64 (c : Int) ∧ z = .string (repY y a) ∧ Hid (a + p * c = j) ∧ a ≤ 100 ∧ (c ≠ 0 → p ≤ 100) ∧ c ≤ 100 ∧ w = wr) (fun _ v _ _ => (intOf v).toNat)
  case atStart => exact ⟨1, j, 0, rfl, rfl, by rw [H0.out], Lib.hid (by omega), by omega, fun _ => by omega, hj, rfl⟩
  case round =>
    obtain ⟨p, c, a, rfl, rfl, rfl, HE, ha, hp, hc, hw⟩ := hrel
    subst hw
    by_cases h0 : c = 0
    · subst h0
      have he : a = j := by have := HE.out; omega
      subst he
      go_wp2
      go_ret
      exact ⟨rfl, rfl⟩
    · have hp := hp h0
      have hdl : c / 2 < c := Nat.div_lt_self (by omega) (by omega)
      have k1 : (c : Int) > 0 := by omega
      have k2 : (0 : Int) < (c : Int) := by omega
      have k3 : 0 < c := by omega
      have e3 := odd_modW c
      have e4 : Int.tdiv (c : Int) 2 = ((c / 2 : Nat) : Int) := by rw [Int.tdiv_eq_ediv_of_nonneg (Int.natCast_nonneg c)]; omega
      have HM : Hid (c % 2 < 2) := Lib.hid (Nat.mod_lt _ (by omega))
      have HE2 := Lib.hid ((HH.out a p c).trans HE.out)
      have hap : c / 2 ≠ 0 → p + p ≤ 100 := fun h => by
        have a1 := HE.out
        have a2 : p * 2 ≤ p * c := Nat.mul_le_mul_left p (by omega)
        omega
      have hap2 : a + p ≤ 100 := by
        have a1 := HE.out
        have a2 : p * 1 ≤ p * c := Nat.mul_le_mul_left p (by omega)
        omega
      have HPP := Lib.hid hap
      have hs1 : (repY y p).size + (repY y p).size ≤ 9223372036854775807 := by rw [HZ.out]; omega
      have hs2 : (repY y a).size + (repY y p).size ≤ 9223372036854775807 := by rw [HZ.out, HZ.out]; omega
      have HPQ := Lib.hid (HA.out p p)
      have HAP := Lib.hid (HA.out a p)
      have hq : c / 2 ≤ 100 := by omega
      generalize hX : repY y p = X at *
      generalize hY : repY y a = Y at *
      have HYY := Lib.hid hY
      clear hap hX hY
      by_cases hodd : c % 2 = 1
      · rw [hodd] at e3 HE2
        have HX : Hid (a + p + (p + p) * (c / 2) = j) := Lib.hid (by have := HE2.out; rw [Nat.one_mul] at this; exact this)
        clear hodd HM HE2
        generalize c / 2 = q at *
        go_wp2
        go_roundw
        case rel => exact ⟨p + p, q, a + p, by rw [HPQ.out], rfl, by rw [HAP.out], HX, hap2, HPP.out, hq, by first | rfl | trivial⟩
        case measure => simp [intOf]; omega
      · have hev : c % 2 = 0 := by have := HM.out; omega
        rw [hev] at e3 HE2
        have HX : Hid (a + (p + p) * (c / 2) = j) := Lib.hid (by have := HE2.out; rw [Nat.zero_mul, Nat.add_zero] at this; exact this)
        clear hodd HM HE2 hev
        generalize c / 2 = q at *
        go_wp2
        go_roundw
        case rel => exact ⟨p + p, q, a, by rw [HPQ.out], rfl, by rw [HYY.out], HX, ha, HPP.out, hq, by first | rfl | trivial⟩
        case measure => simp [intOf]; omega
end Go.Proofs.Ytnlalccnhpblkaa

/- Words: the model writes a text of counts. -/
namespace Go.Proofs.Ytnlalccnhpblkaa
open Go.RowKit Go.Shelf
set_option linter.unusedVariables false
theorem text_append (k : Nat) (a b : List Int) : textC k (a ++ b) = textC k a ++ textC (k + a.length) b := by
  induction a generalizing k with
  | nil => rfl
  | cons c a ih =>
    show List.replicate c.natAbs _ ++ textC (k + 1) (a ++ b) = (List.replicate c.natAbs _ ++ textC (k + 1) a) ++ textC (k + (a.length + 1)) b
    rw [ih, List.append_assoc, show k + 1 + a.length = k + (a.length + 1) by omega]
theorem text_step (cs : List Int) (k : Nat) (hk : k < cs.length) : toB (textC 0 (cs.take (k + 1))) = toB (textC 0 (cs.take k)) ++ repY (UInt8.ofNat (if 0 < cs.getD k 0 then 97 + k else 65 + k)) (cs.getD k 0).natAbs := by
  have e : cs.take (k + 1) = cs.take k ++ [cs.getD k 0] := by
    rw [List.take_add_one, List.getElem?_eq_getElem hk, List.getD_eq_getElem?_getD, List.getElem?_eq_getElem hk]
    rfl
  have l : (cs.take k).length = k := by rw [List.length_take]; omega
  rw [e, text_append, l]
  show toB (_ ++ (List.replicate _ _ ++ [])) = _ ++ toB (List.replicate _ _)
  rw [List.append_nil, toB_append, Nat.zero_add]
theorem abs_take (cs : List Int) (k : Nat) : absL (cs.take k) ≤ absL cs := by
  induction cs generalizing k with
  | nil => simp
  | cons c cs ih =>
    cases k with
    | zero => exact Nat.zero_le _
    | succ k =>
      have := ih k
      show c.natAbs + absL (cs.take k) ≤ c.natAbs + absL cs
      omega
theorem text_size (cs : List Int) (k : Nat) : (toB (textC 0 (cs.take k))).size ≤ absL cs := by
  rw [toB_size, text_len]
  exact abs_take cs k
/-- A byte as a text. -/
theorem byte_text (z : Nat) (W : World) :
    (convert 22 9 (.slice (some ⟨W.heap.size, 0, none⟩) 1 1)).run Try.prog (W.alloc (.cells #[.int .u8 (z:Int)] 5)) = .ok (.string (repY (UInt8.ofNat z) 1)) (W.alloc (.cells #[.int .u8 (z:Int)] 5)) := by
  rw [run_convert_bytes_string _ _ _ 5 _ _ _ Try.underlying22 Try.underlying5 Try.underlying9]
  rw [run_bytesToString _ _ _ _ [(z : Int)] ?_]
  · rfl
  · have hc : (W.alloc (.cells #[.int .u8 (z:Int)] 5)).cell? ⟨W.heap.size, 0, none⟩ = some (.int .u8 (z:Int)) := by simp
    simp [loadCells, loadCellsFrom, go_sem, hc, Addr.add]
theorem u8_val (Z : Nat) (h : Z < 256) : IntKind.u8.wrap (Z : Int) = (Z : Int) := by
  rw [IntKind.wrap_u8]
  omega
set_option maxHeartbeats 2000000 in
theorem l10Text_any (cv : Value) (cs : List Int) (c : Nat) (w : World) (h3 : cs.length ≤ 3) (h60 : absL cs ≤ 60) (hI : IsInts w c cv cs) :
    Calls Try.prog 33 #[cv] w fun e w' => e = .returned (.string (toB (textC 0 cs))) ∧ Below w.heap.size w w' := by
  have hmx : Try.prog.follows .mixedOrders = true := by kernel_rfl
  obtain ⟨ad, cap, rfl⟩ := ints_slice hI
  have HSt := Lib.hid (fun k hk => text_step cs k hk)
  have HSz := Lib.hid (fun k => text_size cs k)
  have H60 := Lib.hid h60
  have HAb := Lib.hid (fun k => abs_get cs k)
  have HI := Lib.hid hI
  have H0 : Hid (toB (textC 0 (cs.take 0)) = ⟨#[]⟩) := Lib.hid rfl
  have HE : Hid (cs.take cs.length = cs) := Lib.hid List.take_length
  clear hI h60
  go_enter Try.func33, Try.ntmps33
  go_wp2
  go_loopw [3, 4] (fun u v wr => ∃ k : Nat, k ≤ cs.length ∧ u = .string (toB (textC 0 (cs.take k))) ∧ v = .int .i64 (k : Int) ∧ Below w.heap.size w wr) (fun _ v _ => cs.length - (intOf v).toNat)
  case atStart => exact ⟨0, Nat.zero_le _, by rw [H0.out], rfl, Below.refl _ _⟩
  case round =>
    obtain ⟨k, hk, rfl, rfl, hB⟩ := hrel
    by_cases hlt : k < cs.length
    · have hIw := HI.out.belowAll hB
      obtain ⟨g, rfl⟩ : ∃ g, ad = some ⟨g, 0, none⟩ := by
        rcases hIw.shape with ⟨e, e2⟩ | ⟨g, cap2, e, _⟩
        · rw [e2] at hlt; exact absurd hlt (Nat.not_lt_zero _)
        · injection e with e1; exact ⟨g, e1⟩
      have c1 := hIw.cell hlt
      have hgw : g < wr.heap.size := (World.ownsRow.lt hIw g rfl).2
      have hst := HSt.out k hlt
      have hsz := HSz.out k
      have ha := HAb.out k
      have h6 := H60.out
      have i1 : (0 : Int) ≤ (k : Int) := by omega
      have i2 : (k : Int) < (cs.length : Int) := by omega
      have hk3 : k < 3 := by omega
      clear hIw
      generalize toB (textC 0 (cs.take k)) = X at *
      generalize cs.getD k 0 = z at *
      have hz60 : z.natAbs ≤ 60 := by omega
      have hX60 : X.size ≤ 60 := by omega
      clear ha hsz h6
      by_cases hz : 0 < z
      · skip
        have k1 : z > 0 := hz
        have k2 : 0 < z := hz
        obtain ⟨j, hj⟩ : ∃ j : Nat, z = (j : Int) := ⟨z.toNat, by omega⟩
        have hjn : z.natAbs = j := by omega
        rw [if_pos hz, hjn] at hst
        have hj60 : j ≤ 60 := by omega
        obtain ⟨Z, hZ⟩ : ∃ Z : Nat, 97 + k = Z := ⟨_, rfl⟩
        rw [hZ] at hst
        have hZ8 : Z < 256 := by omega
        have w1 : IntKind.i64.wrap (97 + (k : Int)) = (Z : Int) := by rw [IntWalk.i64_in _ ⟨by omega, by omega⟩]; omega
        have w2 : wrap64 (97 + (k : Int)) = (Z : Int) := by rw [IntWalk.wrap64_in _ (by omega)]; omega
        have w3 := u8_val Z hZ8
        have hm0 := fun W => l6Many_any (UInt8.ofNat Z) j W (by omega)
        rw [← hj] at hm0
        have HM := Lib.hid hm0
        clear hm0
        have HSt1 := Lib.hid hst
        have hs2 : X.size + (repY (UInt8.ofNat Z) j).size ≤ 9223372036854775807 := by rw [rep_size]; omega
        have hbt : (convert 22 9 (.slice (some ⟨wr.heap.size, 0, none⟩) 1 1)).run Try.prog (wr.alloc (.cells #[.int .u8 (Z:Int)] 5)).drew = .ok (.string (repY (UInt8.ofNat Z) 1)) (wr.alloc (.cells #[.int .u8 (Z:Int)] 5)).drew := byte_text Z wr.drew
        clear hst hZ hjn hZ8
        clear hj
        generalize hQ : repY (UInt8.ofNat Z) j = Q at *
        clear hQ
        go_wp2
        have hA0 : wr.drew.cell? ⟨g, k, none⟩ = some (.int .i64 z) := c1
        refine wp_region_held_drew (S := fun V => V.cell? ⟨g, k, none⟩ = some (.int .i64 z)) hmx hA0 (fun _ => ?_)
        refine take1 0 (v := ?_) rfl (by kernel_rfl) (by kernel_rfl) (by kernel_rfl) (fun _ _ _ h => h) (by rfl) ?_ hA0 ?_
        rotate_left
        · intro W9 hA
          have c0 := hA
          clear hA
          go_simp
          try with_reducible rfl
        try simp only [Act.put, List.setIfInBounds_toArray, List.set_cons_zero, List.set_cons_succ]
        refine take1 1 (v := ?_) rfl (by kernel_rfl) (by kernel_rfl) (by kernel_rfl) (fun _ _ _ h => h) (by rfl) ?_ hA0 ?_
        rotate_left
        · intro W9 hA
          have c0 := hA
          clear hA
          go_simp
          try with_reducible rfl
        try simp only [Act.put, List.setIfInBounds_toArray, List.set_cons_zero, List.set_cons_succ]
        refine take1 2 (v := ?_) rfl (by kernel_rfl) (by kernel_rfl) (by kernel_rfl) (fun _ _ _ h => h) (by rfl) ?_ hA0 ?_
        rotate_left
        · intro W9 hA
          have c0 := hA
          clear hA
          go_simp
          try with_reducible rfl
        try simp only [Act.put, List.setIfInBounds_toArray, List.set_cons_zero, List.set_cons_succ]
        refine take1 3 (v := ?_) rfl (by kernel_rfl) (by kernel_rfl) (by kernel_rfl) (fun _ _ _ h => h) (by rfl) ?_ hA0 ?_
        rotate_left
        · intro W9 hA
          have c0 := hA
          clear hA
          go_simp
          try with_reducible rfl
        try simp only [Act.put, List.setIfInBounds_toArray, List.set_cons_zero, List.set_cons_succ]
        refine take1 6 (v := ?_) rfl (by kernel_rfl) (by kernel_rfl) (by kernel_rfl) (fun _ _ _ h => h) (by rfl) ?_ hA0 ?_
        rotate_left
        · intro W9 hA
          have c0 := hA
          clear hA
          go_simp
          try with_reducible rfl
        try simp only [Act.put, List.setIfInBounds_toArray, List.set_cons_zero, List.set_cons_succ]
        refine take1 7 (v := ?_) rfl (by kernel_rfl) (by kernel_rfl) (by kernel_rfl) (fun _ _ _ h => h) (by rfl) ?_ hA0 ?_
        rotate_left
        · intro W9 hA
          have c0 := hA
          clear hA
          go_simp
          try with_reducible rfl
        try simp only [Act.put, List.setIfInBounds_toArray, List.set_cons_zero, List.set_cons_succ]
        refine take1 8 (v := ?_) rfl (by kernel_rfl) (by kernel_rfl) (by kernel_rfl) (fun _ _ _ h => h) (by rfl) ?_ hA0 ?_
        rotate_left
        · intro W9 hA
          have c0 := hA
          clear hA
          go_simp
          try with_reducible rfl
        try simp only [Act.put, List.setIfInBounds_toArray, List.set_cons_zero, List.set_cons_succ]
        refine take1 9 (v := ?_) rfl (by kernel_rfl) (by kernel_rfl) (by kernel_rfl) (fun _ _ _ h => h) (by rfl) ?_ hA0 ?_
        rotate_left
        · intro W9 hA
          have c0 := hA
          clear hA
          go_simp
          try with_reducible rfl
        try simp only [Act.put, List.setIfInBounds_toArray, List.set_cons_zero, List.set_cons_succ]
        refine step1 4 (by kernel_rfl) rfl (fun K hK => ?_)
        go_simp
        have hB4 : Below wr.heap.size wr (wr.drew.alloc (.cells #[.int .u8 (Z : Int)] 5)) := (Below.refl _ wr).drew.alloc (Nat.le_refl _) _
        have hA4 : (wr.drew.alloc (.cells #[.int .u8 (Z : Int)] 5)).cell? ⟨g, k, none⟩ = some (.int .i64 z) := (hB4.cell (p := ⟨g, k, none⟩) hgw).trans c1
        refine hK.out _ _ hA4 ?_
        clear hK K
        try simp only [Act.put, List.setIfInBounds_toArray, List.set_cons_zero, List.set_cons_succ]
        refine step1 5 (by kernel_rfl) rfl (fun K hK => ?_)
        rw [if_pos (by rfl)]
        unfold Oper.wp execOp
        go_simp
        refine hK.out _ _ hA4 ?_
        clear hK K
        try simp only [Act.put, List.setIfInBounds_toArray, List.set_cons_zero, List.set_cons_succ]
        refine step1 10 (by kernel_rfl) rfl (fun K hK => ?_)
        go_simp
        refine (HM.out _).mono ?_
        rintro e V9 ⟨rfl, rfl⟩
        go_wp2_with fail
        refine hK.out _ _ hA4 ?_
        clear hK K
        try simp only [Act.put, List.setIfInBounds_toArray, List.set_cons_zero, List.set_cons_succ]
        refine take1 11 (v := ?_) rfl (by kernel_rfl) (by kernel_rfl) (by kernel_rfl) (fun _ _ _ h => h) (by rfl) ?_ hA4 ?_
        rotate_left
        · intro W9 hA
          have c0 := hA
          clear hA
          go_simp
          rw [if_neg (by omega)]
          try with_reducible rfl
        try simp only [Act.put, List.setIfInBounds_toArray, List.set_cons_zero, List.set_cons_succ]
        refine take1 12 (v := ?_) rfl (by kernel_rfl) (by kernel_rfl) (by kernel_rfl) (fun _ _ _ h => h) (by rfl) ?_ hA4 ?_
        rotate_left
        · intro W9 hA
          have c0 := hA
          clear hA
          go_simp
          try with_reducible rfl
        try simp only [Act.put, List.setIfInBounds_toArray, List.set_cons_zero, List.set_cons_succ]
        refine stop1 (by kernel_rfl) ?_
        go_wp2
        go_roundw
        case rel => exact ⟨k + 1, by omega, by rw [HSt1.out], by go_num, hB.trans (hB4.mono hB.size)⟩
        case measure => simp [intOf]; omega
      · skip
        have k1 : ¬ z > 0 := hz
        have k2 : ¬ 0 < z := hz
        obtain ⟨j, hj⟩ : ∃ j : Nat, z = -(j : Int) := ⟨z.natAbs, by omega⟩
        have hjn : z.natAbs = j := by omega
        rw [if_neg hz, hjn] at hst
        have hsub : IntKind.i64.wrap (0 - z) = (j : Int) := by rw [IntWalk.i64_in _ ⟨by omega, by omega⟩]; omega
        have hsub2 : wrap64 (0 - z) = (j : Int) := by rw [IntWalk.wrap64_in _ (by omega)]; omega
        have hsub3 : IntKind.i64.wrap (-z) = (j : Int) := by rw [IntWalk.i64_in _ ⟨by omega, by omega⟩]; omega
        have hsub4 : wrap64 (-z) = (j : Int) := by rw [IntWalk.wrap64_in _ (by omega)]; omega
        have hj60 : j ≤ 60 := by omega
        obtain ⟨Z, hZ⟩ : ∃ Z : Nat, 65 + k = Z := ⟨_, rfl⟩
        rw [hZ] at hst
        have hZ8 : Z < 256 := by omega
        have w1 : IntKind.i64.wrap (65 + (k : Int)) = (Z : Int) := by rw [IntWalk.i64_in _ ⟨by omega, by omega⟩]; omega
        have w2 : wrap64 (65 + (k : Int)) = (Z : Int) := by rw [IntWalk.wrap64_in _ (by omega)]; omega
        have w3 := u8_val Z hZ8
        have HM := Lib.hid (fun W => l6Many_any (UInt8.ofNat Z) j W (by omega))
        have HSt1 := Lib.hid hst
        have hs2 : X.size + (repY (UInt8.ofNat Z) j).size ≤ 9223372036854775807 := by rw [rep_size]; omega
        have hbt : (convert 22 9 (.slice (some ⟨wr.heap.size, 0, none⟩) 1 1)).run Try.prog (wr.alloc (.cells #[.int .u8 (Z:Int)] 5)).drew = .ok (.string (repY (UInt8.ofNat Z) 1)) (wr.alloc (.cells #[.int .u8 (Z:Int)] 5)).drew := byte_text Z wr.drew
        clear hst hZ hjn hZ8
        clear hj
        generalize hQ : repY (UInt8.ofNat Z) j = Q at *
        clear hQ
        go_wp2
        have hA0 : wr.drew.cell? ⟨g, k, none⟩ = some (.int .i64 z) := c1
        refine wp_region_held_drew (S := fun V => V.cell? ⟨g, k, none⟩ = some (.int .i64 z)) hmx hA0 (fun _ => ?_)
        refine take1 0 (v := ?_) rfl (by kernel_rfl) (by kernel_rfl) (by kernel_rfl) (fun _ _ _ h => h) (by rfl) ?_ hA0 ?_
        rotate_left
        · intro W9 hA
          have c0 := hA
          clear hA
          go_simp
          try with_reducible rfl
        try simp only [Act.put, List.setIfInBounds_toArray, List.set_cons_zero, List.set_cons_succ]
        refine take1 1 (v := ?_) rfl (by kernel_rfl) (by kernel_rfl) (by kernel_rfl) (fun _ _ _ h => h) (by rfl) ?_ hA0 ?_
        rotate_left
        · intro W9 hA
          have c0 := hA
          clear hA
          go_simp
          try with_reducible rfl
        try simp only [Act.put, List.setIfInBounds_toArray, List.set_cons_zero, List.set_cons_succ]
        refine take1 2 (v := ?_) rfl (by kernel_rfl) (by kernel_rfl) (by kernel_rfl) (fun _ _ _ h => h) (by rfl) ?_ hA0 ?_
        rotate_left
        · intro W9 hA
          have c0 := hA
          clear hA
          go_simp
          try with_reducible rfl
        try simp only [Act.put, List.setIfInBounds_toArray, List.set_cons_zero, List.set_cons_succ]
        refine take1 3 (v := ?_) rfl (by kernel_rfl) (by kernel_rfl) (by kernel_rfl) (fun _ _ _ h => h) (by rfl) ?_ hA0 ?_
        rotate_left
        · intro W9 hA
          have c0 := hA
          clear hA
          go_simp
          try with_reducible rfl
        try simp only [Act.put, List.setIfInBounds_toArray, List.set_cons_zero, List.set_cons_succ]
        refine take1 6 (v := ?_) rfl (by kernel_rfl) (by kernel_rfl) (by kernel_rfl) (fun _ _ _ h => h) (by rfl) ?_ hA0 ?_
        rotate_left
        · intro W9 hA
          have c0 := hA
          clear hA
          go_simp
          try with_reducible rfl
        try simp only [Act.put, List.setIfInBounds_toArray, List.set_cons_zero, List.set_cons_succ]
        refine take1 7 (v := ?_) rfl (by kernel_rfl) (by kernel_rfl) (by kernel_rfl) (fun _ _ _ h => h) (by rfl) ?_ hA0 ?_
        rotate_left
        · intro W9 hA
          have c0 := hA
          clear hA
          go_simp
          try with_reducible rfl
        try simp only [Act.put, List.setIfInBounds_toArray, List.set_cons_zero, List.set_cons_succ]
        refine take1 8 (v := ?_) rfl (by kernel_rfl) (by kernel_rfl) (by kernel_rfl) (fun _ _ _ h => h) (by rfl) ?_ hA0 ?_
        rotate_left
        · intro W9 hA
          have c0 := hA
          clear hA
          go_simp
          try with_reducible rfl
        try simp only [Act.put, List.setIfInBounds_toArray, List.set_cons_zero, List.set_cons_succ]
        refine take1 9 (v := ?_) rfl (by kernel_rfl) (by kernel_rfl) (by kernel_rfl) (fun _ _ _ h => h) (by rfl) ?_ hA0 ?_
        rotate_left
        · intro W9 hA
          have c0 := hA
          clear hA
          go_simp
          try with_reducible rfl
        try simp only [Act.put, List.setIfInBounds_toArray, List.set_cons_zero, List.set_cons_succ]
        refine take1 10 (v := ?_) rfl (by kernel_rfl) (by kernel_rfl) (by kernel_rfl) (fun _ _ _ h => h) (by rfl) ?_ hA0 ?_
        rotate_left
        · intro W9 hA
          have c0 := hA
          clear hA
          go_simp
          try with_reducible rfl
        try simp only [Act.put, List.setIfInBounds_toArray, List.set_cons_zero, List.set_cons_succ]
        refine step1 4 (by kernel_rfl) rfl (fun K hK => ?_)
        go_simp
        have hB4 : Below wr.heap.size wr (wr.drew.alloc (.cells #[.int .u8 (Z : Int)] 5)) := (Below.refl _ wr).drew.alloc (Nat.le_refl _) _
        have hA4 : (wr.drew.alloc (.cells #[.int .u8 (Z : Int)] 5)).cell? ⟨g, k, none⟩ = some (.int .i64 z) := (hB4.cell (p := ⟨g, k, none⟩) hgw).trans c1
        refine hK.out _ _ hA4 ?_
        clear hK K
        try simp only [Act.put, List.setIfInBounds_toArray, List.set_cons_zero, List.set_cons_succ]
        refine step1 5 (by kernel_rfl) rfl (fun K hK => ?_)
        rw [if_pos (by rfl)]
        unfold Oper.wp execOp
        go_simp
        refine hK.out _ _ hA4 ?_
        clear hK K
        try simp only [Act.put, List.setIfInBounds_toArray, List.set_cons_zero, List.set_cons_succ]
        refine step1 11 (by kernel_rfl) rfl (fun K hK => ?_)
        go_simp
        refine (HM.out _).mono ?_
        rintro e V9 ⟨rfl, rfl⟩
        go_wp2_with fail
        refine hK.out _ _ hA4 ?_
        clear hK K
        try simp only [Act.put, List.setIfInBounds_toArray, List.set_cons_zero, List.set_cons_succ]
        refine take1 12 (v := ?_) rfl (by kernel_rfl) (by kernel_rfl) (by kernel_rfl) (fun _ _ _ h => h) (by rfl) ?_ hA4 ?_
        rotate_left
        · intro W9 hA
          have c0 := hA
          clear hA
          go_simp
          rw [if_neg (by omega)]
          try with_reducible rfl
        try simp only [Act.put, List.setIfInBounds_toArray, List.set_cons_zero, List.set_cons_succ]
        refine take1 13 (v := ?_) rfl (by kernel_rfl) (by kernel_rfl) (by kernel_rfl) (fun _ _ _ h => h) (by rfl) ?_ hA4 ?_
        rotate_left
        · intro W9 hA
          have c0 := hA
          clear hA
          go_simp
          try with_reducible rfl
        try simp only [Act.put, List.setIfInBounds_toArray, List.set_cons_zero, List.set_cons_succ]
        refine stop1 (by kernel_rfl) ?_
        go_wp2
        go_roundw
        case rel => exact ⟨k + 1, by omega, by rw [HSt1.out], by go_num, hB.trans (hB4.mono hB.size)⟩
        case measure => simp [intOf]; omega
    · obtain rfl : k = cs.length := by omega
      rw [HE.out]
      clear hlt hk
      go_wp2
      go_ret
      exact ⟨rfl, hB⟩
end Go.Proofs.Ytnlalccnhpblkaa

/- Words: all counts of a length, the shortest of a place (the maths of chapter 10). -/
namespace Go.Proofs.Ytnlalccnhpblkaa
set_option linter.unusedVariables false
/-- L, L - 1, .., -L. -/
def downL (L : Nat) : List Int := (List.range (2 * L + 1)).map fun (i : Nat) => (L : Int) - (i : Int)
theorem down_mem (L : Nat) (x : Int) : x ∈ downL L ↔ x.natAbs ≤ L := by
  unfold downL
  rw [List.mem_map]
  constructor
  · rintro ⟨i, hi, e⟩
    have := List.mem_range.1 hi
    omega
  · intro h
    exact ⟨((L : Int) - x).toNat, List.mem_range.2 (by omega), by omega⟩
/-- All counts of m letters with a length, in the model's order. -/
def allC : Nat → Nat → List (List Int)
  | 0, L => if L = 0 then [[]] else []
  | m + 1, L => (downL L).flatMap fun x => (allC m (L - x.natAbs)).map (x :: ·)
theorem all_mem (m L : Nat) (cs : List Int) : cs ∈ allC m L ↔ cs.length = m ∧ absL cs = L := by
  induction m generalizing L cs with
  | zero =>
    unfold allC
    by_cases h : L = 0
    · rw [if_pos h, List.mem_singleton]
      constructor
      · rintro rfl
        exact ⟨rfl, h.symm⟩
      · rintro ⟨a, _⟩
        exact List.eq_nil_of_length_eq_zero a
    · rw [if_neg h]
      constructor
      · intro x
        cases x
      · rintro ⟨a, b⟩
        rw [List.eq_nil_of_length_eq_zero a] at b
        exact absurd b.symm h
  | succ m ih =>
    unfold allC
    rw [List.mem_flatMap]
    constructor
    · rintro ⟨x, hx, hc⟩
      obtain ⟨ds, hd, e⟩ := List.mem_map.1 hc
      obtain ⟨a, b⟩ := (ih _ ds).1 hd
      have := (down_mem L x).1 hx
      subst e
      refine ⟨by simp [a], ?_⟩
      show x.natAbs + absL ds = L
      omega
    · rintro ⟨a, b⟩
      cases cs with
      | nil => cases a
      | cons c cs =>
        have b' : c.natAbs + absL cs = L := b
        exact ⟨c, (down_mem L c).2 (by omega), List.mem_map.2 ⟨cs, (ih _ cs).2 ⟨by simpa using a, by omega⟩, rfl⟩⟩
/-- The first counts with an end, lengths going up to n. -/
def shortC (n : Nat) (ls : List Nat) (v : Nat) : Option (List Int) := (List.range (n + 1)).findSome? fun L => (allC ls.length L).find? fun cs => endW n ls cs == v
theorem range_split (k a : Nat) (l r : List Nat) (h : List.range k = l ++ a :: r) : l = List.range a ∧ a < k := by
  have hl : l.length < k := by
    have := congrArg List.length h
    rw [List.length_range, List.length_append, List.length_cons] at this
    omega
  have hg : ∀ i, i < l.length → l[i]? = some i := by
    intro i hi
    have := congrArg (fun x => x[i]?) h
    simp only [List.getElem?_append_left hi] at this
    rw [← this, List.getElem?_range (by omega)]
  have ha : a = l.length := by
    have := congrArg (fun x => x[l.length]?) h
    simp only [List.getElem?_append_right (Nat.le_refl _), Nat.sub_self, List.getElem?_cons_zero, List.getElem?_range hl] at this
    exact (Option.some.inj this).symm
  refine ⟨?_, by omega⟩
  apply List.ext_getElem?
  intro i
  by_cases hi : i < l.length
  · rw [hg i hi, List.getElem?_range (by omega)]
  · rw [List.getElem?_eq_none (by omega), List.getElem?_eq_none (by rw [List.length_range]; omega)]
theorem short_some (n : Nat) (ls : List Nat) (v : Nat) (cs : List Int) (h : shortC n ls v = some cs) :
    cs.length = ls.length ∧ endW n ls cs = v ∧ absL cs ≤ n ∧ ∀ ds : List Int, ds.length = ls.length → endW n ls ds = v → absL cs ≤ absL ds := by
  unfold shortC at h
  obtain ⟨l, a, r, hs, hf, hn⟩ := List.findSome?_eq_some_iff.1 h
  obtain ⟨hl, ha⟩ := range_split _ _ _ _ hs
  have he := List.find?_some hf
  have hm := (all_mem _ _ _).1 (List.mem_of_find?_eq_some hf)
  refine ⟨hm.1, by simpa using he, by omega, fun ds hd hv => ?_⟩
  by_cases hlt : absL ds < a
  · have hx := hn (absL ds) (by rw [hl]; exact List.mem_range.2 hlt)
    rw [List.find?_eq_none] at hx
    exact absurd (by simpa using hv) (hx ds ((all_mem _ _ _).2 ⟨hd, rfl⟩))
  · omega
theorem short_none (n : Nat) (ls : List Nat) (v : Nat) (h : shortC n ls v = none) (ds : List Int) (hd : ds.length = ls.length) (hv : endW n ls ds = v) : n < absL ds := by
  unfold shortC at h
  rw [List.findSome?_eq_none_iff] at h
  by_cases hlt : n < absL ds
  · exact hlt
  · have hx := h (absL ds) (List.mem_range.2 (by omega))
    rw [List.find?_eq_none] at hx
    exact absurd (by simpa using hv) (hx ds ((all_mem _ _ _).2 ⟨hd, rfl⟩))
end Go.Proofs.Ytnlalccnhpblkaa

/- Words: lists of counts in memory. -/
namespace Go.Proofs.Ytnlalccnhpblkaa
open Go.RowKit Go.Shelf
set_option linter.unusedVariables false
theorem Try.infoRowW : (Try.prog.info? 23).map (fun i => (i.zero, i.size, i.bytes)) = some (some (.slice none 0 0), 1, 24) := by kernel_rfl
/-- u reads as a list of lists of integers, all of them in memory from block N on. -/
structure Cts (W : World) (N : Nat) (u : Value) (vs : List Value) (css : List (List Int)) : Prop where
  own : W.ownsRow N 23 1 u css.length vs
  row : ∀ i, i < css.length → ∃ g c, vs[i]? = some (.slice (some ⟨g, 0, none⟩) (css.getD i []).length c) ∧ IsInts W N (.slice (some ⟨g, 0, none⟩) (css.getD i []).length c) (css.getD i [])
theorem rows_apartW {W : World} {N N' k g len c : Nat} {u : Value} {xs : List Value} {ys : List Int} (h : W.ownsRow N 23 1 u k xs) (h2 : IsInts W N' (.slice (some ⟨g, 0, none⟩) len c) ys) : u.ownBlock ≠ some g := by
  intro e
  rcases h.2 with ⟨rfl, _⟩ | ⟨g1, cap, cur, rfl, _, hg, _⟩
  · cases e
  · have e1 : g1 = g := by injection e
    subst e1
    rcases h2.2 with ⟨h3, _⟩ | ⟨g2, cap2, cur2, h3, _, hg2, _⟩
    · cases h3
    · injection h3 with h3 _ _
      injection h3 with h3
      injection h3 with h3 _ _
      subst h3
      rw [hg] at hg2
      injection hg2 with hg2
      injection hg2 with _ h5 _
      exact absurd h5 (by decide)
namespace Cts
variable {W W' : World} {N N' : Nat} {u : Value} {vs : List Value} {css : List (List Int)}
theorem len (h : Cts W N u vs css) : vs.length = css.length := by have := h.own.1; omega
theorem below (h : Cts W N u vs css) (hb : Below W.heap.size W W') : Cts W' N u vs css := by
  refine ⟨⟨h.own.1, ?_⟩, fun i hi => ?_⟩
  · rcases h.own.2 with hn | ⟨g, cap, cur, rfl, h1, hgg, rest⟩
    · exact .inl hn
    · exact .inr ⟨g, cap, cur, rfl, h1, (hb.block g (World.ownsRow.lt h.own g rfl).2).trans hgg, rest⟩
  · obtain ⟨g, c, h1, h2⟩ := h.row i hi
    exact ⟨g, c, h1, h2.belowAll hb⟩
theorem base (h : Cts W N u vs css) (hN : N' ≤ N) : Cts W N' u vs css := by
  refine ⟨⟨h.own.1, ?_⟩, fun i hi => ?_⟩
  · rcases h.own.2 with hn | ⟨g, cap, cur, rfl, h1, rest⟩
    · exact .inl hn
    · exact .inr ⟨g, cap, cur, rfl, by omega, rest⟩
  · obtain ⟨g, c, h1, h2⟩ := h.row i hi
    exact ⟨g, c, h1, h2.base hN⟩
/-- Another list of rows has grown. -/
theorem kept {A : Value} {k : Nat} {xs : List Value} {M : Nat} (h : Cts W N u vs css) (hg : W.grownBy W' A.ownBlock) (hA : W.ownsRow M 23 1 A k xs) (hne : u.ownBlock = none ∨ u.ownBlock ≠ A.ownBlock) : Cts W' N u vs css := by
  refine ⟨World.ownsRow.kept h.own hg hne, fun i hi => ?_⟩
  obtain ⟨g, c, h1, h2⟩ := h.row i hi
  exact ⟨g, c, h1, World.ownsRow.kept h2 hg (.inr fun e => rows_apartW hA h2 e.symm)⟩
/-- One row more. -/
theorem snoc {A' : Value} {cs : List Int} {g c : Nat} (h : Cts W N u vs css) (hg : W.grownBy W' u.ownBlock) (hI : IsInts W N (.slice (some ⟨g, 0, none⟩) cs.length c) cs)
    (hown : W'.ownsRow N 23 1 A' (css.length + 1) (vs ++ [.slice (some ⟨g, 0, none⟩) cs.length c])) : Cts W' N A' (vs ++ [.slice (some ⟨g, 0, none⟩) cs.length c]) (css ++ [cs]) := by
  have keep : ∀ g c (ys : List Int), IsInts W N (.slice (some ⟨g, 0, none⟩) ys.length c) ys → IsInts W' N (.slice (some ⟨g, 0, none⟩) ys.length c) ys := fun g c ys hy =>
    World.ownsRow.kept hy hg (.inr fun e => rows_apartW h.own hy e.symm)
  have hl := h.len
  refine ⟨by rw [List.length_append]; exact hown, fun i hi => ?_⟩
  rw [List.length_append] at hi
  by_cases e : i < css.length
  · obtain ⟨g1, c1, h1, h2⟩ := h.row i e
    have e1 : (css ++ [cs]).getD i [] = css.getD i [] := by
      rw [List.getD_eq_getElem?_getD, List.getD_eq_getElem?_getD, List.getElem?_append_left e]
    rw [e1]
    exact ⟨g1, c1, by rw [List.getElem?_append_left (by omega)]; exact h1, keep _ _ _ h2⟩
  · have e2 : i = css.length := by simp at hi; omega
    subst e2
    have e1 : (css ++ [cs]).getD css.length [] = cs := by simp
    rw [e1]
    exact ⟨g, c, by rw [← hl]; simp, keep _ _ _ hI⟩
theorem shape (h : Cts W N u vs css) : (u = .slice none 0 0 ∧ css = []) ∨ ∃ g cap, u = .slice (some ⟨g, 0, none⟩) css.length cap ∧ N ≤ g ∧ g < W.heap.size := by
  rcases h.own.2 with ⟨a, c⟩ | ⟨g, cap, cur, rfl, h1, h2, _⟩
  · exact .inl ⟨a, List.eq_nil_of_length_eq_zero c⟩
  · exact .inr ⟨g, cap, rfl, h1, (World.ownsRow.lt h.own g rfl).2⟩
theorem cell {g len cap : Nat} (h : Cts W N (.slice (some ⟨g, 0, none⟩) len cap) vs css) {i : Nat} (hi : i < css.length) : ∃ g' c, W.cell? ⟨g, i, none⟩ = some (.slice (some ⟨g', 0, none⟩) (css.getD i []).length c) ∧ IsInts W N (.slice (some ⟨g', 0, none⟩) (css.getD i []).length c) (css.getD i []) := by
  obtain ⟨g', c, h1, h2⟩ := h.row i hi
  have h3 := World.ownsRow.cells h.own (g := g) rfl i _ h1
  have hadd : (⟨g, 0, none⟩ : Addr).add i = ⟨g, i, none⟩ := by unfold Addr.add; split <;> simp_all
  rw [hadd] at h3
  exact ⟨g', c, h3, h2⟩
end Cts
theorem wp_append_row {o : Oper} {act : Act} {K : Act → World → Prop} {Q : Exit → Act → World → Prop} (s x : Operand) (ho : o.op = .call { callee := .builtin .append, args := #[s, x], argTypes := #[72, 72] })
    (A : Value) (vs : List Value) (css : List (List Int)) (g c : Nat) (cs : List Int) (W : World) (N : Nat) (hs : act.eval s = A) (hx : act.eval x = .slice (some ⟨W.heap.size, 0, none⟩) 1 1)
    (hO : Cts W N A vs css) (hI : IsInts W N (.slice (some ⟨g, 0, none⟩) cs.length c) cs) (hl : css.length ≤ 100000) (hN : N ≤ W.heap.size)
    (h : ∀ (A' : Value) (vs' : List Value) (w1 : World), Cts w1 N A' vs' (css ++ [cs]) → (A'.ownBlock = A.ownBlock ∨ A'.ownBlock = some (W.heap.size + 1)) →
      (∀ (R : Value) (vr : List Value) (crs : List (List Int)) (N' : Nat), Cts W N' R vr crs → (R.ownBlock = none ∨ R.ownBlock ≠ A.ownBlock) → Cts w1 N' R vr crs) →
      (∀ (B : Nat) (w0 : World), B ≤ N → Below B w0 W → Below B w0 w1) → W.heap.size < w1.heap.size → K (act.put o.dst A') w1) : o.wp Try.prog act (W.alloc (.cells #[.slice (some ⟨g, 0, none⟩) cs.length c] 23)) K Q := by
  obtain ⟨i0, hi, hz0, hz1, hz2⟩ := info_parts Try.infoRowW
  have hb0 : Below W.heap.size W (W.alloc (.cells #[.slice (some ⟨g, 0, none⟩) cs.length c] 23)) := (Below.refl _ _).alloc (Nat.le_refl _) _
  have hO2 := hO.below hb0
  have hI2 := hI.belowAll hb0
  have hc2 : ∀ u ∈ [Value.slice (some ⟨g, 0, none⟩) cs.length c], u.oneCell' = true := by intro u hu; simp at hu; subst hu; rfl
  have hc3 : css.length + 1 ≤ maxLen := by unfold maxLen; omega
  have hc4 : N ≤ (W.alloc (.cells #[.slice (some ⟨g, 0, none⟩) cs.length c] 23)).heap.size := by simp; omega
  have hbs : ∀ k, A.ownBlock = some k → N ≤ k := fun k hk => (World.ownsRow.lt hO.own k hk).1
  obtain ⟨v', w', hr, h2, h3, h4, h5⟩ := run_append_own_at (P := Try.prog) (W.alloc (.cells #[.slice (some ⟨g, 0, none⟩) cs.length c] 23)) N 72 o.type 23 i0 (.slice none 0 0) 1 24 Try.underlying72 hi hz0 hz1 hz2 rfl (by decide) A css.length vs hO2.own
    ⟨W.heap.size, 0, none⟩ 1 1 [.slice (some ⟨g, 0, none⟩) cs.length c] rfl (cell_one_new _ _ _) hc2 hc3 (by omega) hc4
  unfold Oper.wp execOp
  simp only [ho, resolve, invoke, builtin, Sem.run_bind, Sem.run_pure, Result.andThen_ok, List.map_toArray, List.map_cons, List.map_nil, hs, hx, hr]
  refine h v' _ w' (hO2.snoc h3 hI2 h2) (by simpa using h5) (fun R vr crs N' hR hne => (hR.below hb0).kept h3 hO2.own hne) (fun B w0 hB hb => ?_) (by have := h3.size; simp at this; omega)
  exact (hb.alloc (Nat.le_trans hB hN) _).grown h3 (by simp; omega) (fun k hk => Nat.le_trans hB (hbs k hk))
/-- The counts are few. -/
theorem all_few : ∀ m, m ≤ 3 → ∀ L, L ≤ 12 → (allC m L).length ≤ 1000 := by decide +kernel
end Go.Proofs.Ytnlalccnhpblkaa

/- Words: the model's list of all counts of a length. -/
namespace Go.Proofs.Ytnlalccnhpblkaa
open Go.RowKit Go.Shelf
set_option linter.unusedVariables false
theorem down_drop (L i : Nat) (hi : i < 2 * L + 1) : (downL L).drop i = ((L : Int) - (i : Int)) :: (downL L).drop (i + 1) := by
  have hl : i < (downL L).length := by unfold downL; simp; omega
  rw [List.drop_eq_getElem_cons hl]
  have e : (downL L)[i]? = some ((L : Int) - (i : Int)) := by
    unfold downL
    rw [List.getElem?_map, List.getElem?_range hi]
    rfl
  rw [List.getElem?_eq_getElem hl] at e
  injection e with e
  rw [e]
theorem down_end (L : Nat) : (downL L).drop (2 * L + 1) = [] := by
  apply List.drop_eq_nil_of_le
  unfold downL
  simp
theorem cts_drop (cs : List (List Int)) (t : Nat) (ht : t < cs.length) : cs.drop t = cs.getD t [] :: cs.drop (t + 1) := by
  rw [List.drop_eq_getElem_cons ht, List.getD_eq_getElem?_getD, List.getElem?_eq_getElem ht]
  rfl
theorem cons_shape {W : World} {N : Nat} {v : Value} {z : Int} {cr cz : List Int} (hz : [z] ++ cr = cz) (h : IsInts W N v cz) : ∃ g c, v = .slice (some ⟨g, 0, none⟩) cz.length c := by
  rcases h.shape with ⟨_, hn⟩ | ⟨g, cap, e, _⟩
  · rw [hn] at hz; cases hz
  · exact ⟨g, cap, e⟩
theorem all_row (m K t : Nat) (ht : t < (allC m K).length) : ((allC m K).getD t []).length = m := by
  refine ((all_mem m K _).1 ?_).1
  rw [List.getD_eq_getElem?_getD, List.getElem?_eq_getElem ht]
  exact List.getElem_mem ht
theorem l10All_none (L : Nat) (w : World) (hL : L ≤ 12) :
    Calls Try.prog 42 #[.int .i64 0, .int .i64 (L:Int)] w fun e w' => ∃ u vs, e = .returned u ∧ Below w.heap.size w w' ∧ Cts w' w.heap.size u vs (allC 0 L) := by
  by_cases h0 : L = 0
  · subst h0
    go_enter Try.func42, Try.ntmps42
    go_wp2
    go_ret
    have hI : IsInts (w.alloc (.cells #[] 3)) w.heap.size (.slice (some ⟨w.heap.size, 0, none⟩) ([] : List Int).length 0) [] := nil_made w w.heap.size (Nat.le_refl _)
    have hb : Below (w.alloc (.cells #[] 3)).heap.size (w.alloc (.cells #[] 3)) ((w.alloc (.cells #[] 3)).alloc (.cells #[.slice (some ⟨w.heap.size, 0, none⟩) 0 0] 23)) := (Below.refl _ _).alloc (Nat.le_refl _) _
    have hB2 : Below w.heap.size w ((w.alloc (.cells #[] 3)).alloc (.cells #[.slice (some ⟨w.heap.size, 0, none⟩) 0 0] 23)) := by
      have h1 : Below w.heap.size w (w.alloc (.cells #[] 3)) := (Below.refl _ _).alloc (Nat.le_refl _) _
      exact h1.alloc h1.size _
    refine ⟨_, [.slice (some ⟨w.heap.size, 0, none⟩) 0 0], rfl, hB2, ?_⟩
    have hO := World.ownsRow_lit (base := w.heap.size) (e := 23) (size := 1) (w.alloc (.cells #[] 3)) #[.slice (some ⟨w.heap.size, 0, none⟩) 0 0] 1 (by simp) (by simp [maxLen]) rfl
    rw [World.size_alloc] at hO
    refine ⟨hO, fun i hi => ?_⟩
    obtain rfl : i = 0 := by have : i < 1 := hi; omega
    exact ⟨w.heap.size, 0, rfl, hI.belowAll hb⟩
  · have k1 : ((L : Int) == 0) = false := by simp; omega
    go_enter Try.func42, Try.ntmps42
    go_wp2
    go_ret
    refine ⟨_, [], rfl, (Below.refl _ _).alloc (Nat.le_refl _) _, ?_⟩
    have e : allC 0 L = [] := by show (if L = 0 then [[]] else []) = _; rw [if_neg h0]
    rw [e]
    exact ⟨World.ownsRow_made w #[] 0 (Nat.le_refl _) (by simp [maxLen]) rfl, fun i hi => absurd hi (Nat.not_lt_zero _)⟩
set_option maxRecDepth 100000 in
set_option maxHeartbeats 4000000 in
theorem l10All_succ (m L : Nat) (w : World) (hm : m < 3) (hL : L ≤ 12)
    (IH : ∀ (K : Nat) (W : World), K ≤ 12 → Calls Try.prog 42 #[.int .i64 (m:Int), .int .i64 (K:Int)] W fun e w' => ∃ u vs, e = .returned u ∧ Below W.heap.size W w' ∧ Cts w' W.heap.size u vs (allC m K)) :
    Calls Try.prog 42 #[.int .i64 ((m + 1 : Nat):Int), .int .i64 (L:Int)] w fun e w' => ∃ u vs, e = .returned u ∧ Below w.heap.size w w' ∧ Cts w' w.heap.size u vs (allC (m + 1) L) := by
  have hfew := all_few (m + 1) hm L hL
  obtain ⟨F, hF⟩ : ∃ F : Int → List (List Int), F = fun x => (allC m (L - x.natAbs)).map (x :: ·) := ⟨_, rfl⟩
  have hA0 : ((downL L).drop 0).flatMap F = allC (m + 1) L := by rw [hF]; rfl
  obtain ⟨ALL, hALL⟩ : ∃ ALL, allC (m + 1) L = ALL := ⟨_, rfl⟩
  rw [hALL] at hfew hA0 ⊢
  have HF := Lib.hid (fun x : Int => (by rw [hF] : F x = (allC m (L - x.natAbs)).map (x :: ·)))
  have HA0 := Lib.hid hA0
  have HFew := Lib.hid hfew
  have HDr := Lib.hid (fun i hi => down_drop L i hi)
  have HDe := Lib.hid (down_end L)
  have HIH := Lib.hid IH
  have HCn := Lib.hid (fun K hK => all_few m (by omega) K hK)
  clear hfew hALL hA0 hF IH
  have hm1 : IntKind.i64.wrap (((m + 1 : Nat) : Int) - 1) = (m : Int) := by rw [IntWalk.i64_in _ ⟨by omega, by omega⟩]; omega
  have hm2 : wrap64 (((m + 1 : Nat) : Int) - 1) = (m : Int) := by rw [IntWalk.wrap64_in _ ⟨by omega, by omega⟩]; omega
  have hn0 : IntKind.i64.wrap (0 - (L : Int)) = -(L : Int) := by rw [IntWalk.i64_in _ ⟨by omega, by omega⟩]; omega
  have hn1 : wrap64 (0 - (L : Int)) = -(L : Int) := by rw [IntWalk.wrap64_in _ ⟨by omega, by omega⟩]; omega
  have hn2 : IntKind.i64.wrap (-(L : Int)) = -(L : Int) := by rw [IntWalk.i64_in _ ⟨by omega, by omega⟩]
  have hn3 : wrap64 (-(L : Int)) = -(L : Int) := by rw [IntWalk.wrap64_in _ ⟨by omega, by omega⟩]
  have k1 : (((m + 1 : Nat) : Int) == 0) = false := by simp; omega
  obtain ⟨M, hM⟩ : ∃ M : Int, ((m + 1 : Nat) : Int) = M := ⟨_, rfl⟩
  rw [hM] at hm1 hm2 k1 ⊢
  clear hM
  go_enter Try.func42, Try.ntmps42
  go_wp2
  go_loopw [5, 6] (fun a u wr => ∃ (A : Value) (vs : List Value) (css : List (List Int)) (i : Nat) (z : Int), A = a ∧ i ≤ 2 * L + 1 ∧ Hid (z = (L : Int) - (i : Int)) ∧ u = .int .i64 z ∧ Hid (Cts wr w.heap.size A vs css) ∧ Hid (css ++ ((downL L).drop i).flatMap F = ALL) ∧ Hid (Below w.heap.size w wr)) (fun _ u _ => (intOf u + (L : Int) + 1).toNat)
  case atStart => exact ⟨_, [], [], 0, _, rfl, Nat.zero_le _, Lib.hid (by omega), rfl, Lib.hid ⟨World.ownsRow_made w #[] 0 (Nat.le_refl _) (by simp [maxLen]) rfl, fun i hi => absurd hi (Nat.not_lt_zero _)⟩, Lib.hid HA0.out, Lib.hid ((Below.refl _ _).alloc (Nat.le_refl _) _)⟩
  case round =>
    obtain ⟨A, vs, css, i, z, rfl, hi, HZ, rfl, HC, HAll, HB⟩ := hrel
    by_cases hlt : i < 2 * L + 1
    · have hz1 : -(L : Int) ≤ z := by have := HZ.out; omega
      have hz2 : z ≤ (L : Int) := by have := HZ.out; omega
      have hdr := HDr.out i hlt
      have hal := HAll.out
      rw [hdr, ← HZ.out, List.flatMap_cons, HF.out z, ← List.append_assoc] at hal
      obtain ⟨T, hT⟩ : ∃ T, ((downL L).drop (i + 1)).flatMap F = T := ⟨_, rfl⟩
      rw [hT] at hal
      have HT := Lib.hid hT
      obtain ⟨K, hK⟩ : ∃ K, L - z.natAbs = K := ⟨_, rfl⟩
      rw [hK] at hal
      have hK12 : K ≤ 12 := by omega
      have HCall := Lib.hid (fun W => HIH.out K W hK12)
      have HAl := Lib.hid hal
      have HCl := Lib.hid (HCn.out K hK12)
      have HRow := Lib.hid (fun t ht => all_row m K t ht)
      generalize allC m K = crs at *
      have m1 : IntKind.i64.wrap (0 - z) = -z := by rw [IntWalk.i64_in _ ⟨by omega, by omega⟩]; omega
      have m2 : wrap64 (0 - z) = -z := by rw [IntWalk.wrap64_in _ ⟨by omega, by omega⟩]; omega
      have m3 : IntKind.i64.wrap (-z) = -z := by rw [IntWalk.i64_in _ ⟨by omega, by omega⟩]
      have m4 : wrap64 (-z) = -z := by rw [IntWalk.wrap64_in _ ⟨by omega, by omega⟩]
      have m5 : (if -z > z then -z else z) = (z.natAbs : Int) := by split <;> omega
      have m6 : (if z < -z then -z else z) = (z.natAbs : Int) := by split <;> omega
      have m7 : max z (-z) = (z.natAbs : Int) := by omega
      have d1 : IntKind.i64.wrap ((L : Int) - (z.natAbs : Int)) = (K : Int) := by rw [IntWalk.i64_in _ ⟨by omega, by omega⟩]; omega
      have d2 : wrap64 ((L : Int) - (z.natAbs : Int)) = (K : Int) := by rw [IntWalk.wrap64_in _ ⟨by omega, by omega⟩]; omega
      have hAb : ∀ g, A.ownBlock = some g → g < wr.heap.size := fun g hg => (World.ownsRow.lt HC.out.own g hg).2
      have HAb := Lib.hid hAb
      have HAl2 := HAl
      clear hdr hal hT hK hAb HAl2 HAll
      go_wp2_with fail
      refine (HCall.out wr).mono ?_
      rintro e w1 ⟨R, vr, rfl, hb1, hR1⟩
      have hne1 : R.ownBlock = none ∨ R.ownBlock ≠ A.ownBlock := by
        cases hr : R.ownBlock with
        | none => exact .inl rfl
        | some g =>
          refine .inr fun e => ?_
          have q1 := HAb.out g e.symm
          have q2 := (World.ownsRow.lt hR1.own g hr).1
          omega
      have HNe1 := Lib.hid hne1
      have HR1 := Lib.hid (hR1.base HB.out.size)
      have HB1 := Lib.hid (HB.out.trans (hb1.mono HB.out.size))
      have HC1 := Lib.hid (HC.out.below hb1)
      obtain ⟨ad, cap, rfl⟩ : ∃ ad cap, R = .slice ad crs.length cap := by
        rcases hR1.shape with ⟨rfl, rfl⟩ | ⟨g, cap, rfl, _⟩
        · exact ⟨none, 0, rfl⟩
        · exact ⟨_, cap, rfl⟩
      clear hne1 hR1 hb1 HAb HB HC
      go_wp2
      go_loopw [5, 8] (fun a u wr => ∃ (A : Value) (vs : List Value) (css : List (List Int)) (t : Nat), A = a ∧ t ≤ crs.length ∧ u = .int .i64 (t : Int) ∧ Hid (Cts wr w.heap.size A vs css) ∧ Hid (Cts wr w.heap.size (.slice ad crs.length cap) vr crs) ∧ Hid ((Value.slice ad crs.length cap).ownBlock = none ∨ (Value.slice ad crs.length cap).ownBlock ≠ A.ownBlock) ∧ Hid (css ++ (crs.drop t).map (z :: ·) ++ T = ALL) ∧ Hid (Below w.heap.size w wr)) (fun _ u _ => crs.length - (intOf u).toNat)
      case atStart => exact ⟨_, vs, css, 0, rfl, Nat.zero_le _, rfl, HC1, HR1, HNe1, HAl, HB1⟩
      case round =>
        clear HC1 HR1 HNe1 HAl HB1
        obtain ⟨A, vs, css, t, rfl, ht, rfl, HC, HR, HNe, HAl, HB⟩ := hrel
        have hc1000 := HCl.out
        by_cases hlt2 : t < crs.length
        · obtain ⟨g, rfl⟩ : ∃ g, ad = some ⟨g, 0, none⟩ := by
            rcases HR.out.shape with ⟨e, e2⟩ | ⟨g, cap2, e, _⟩
            · rw [e2] at hlt2; exact absurd hlt2 (Nat.not_lt_zero _)
            · injection e with e1; exact ⟨g, e1⟩
          have hal := HAl.out
          rw [cts_drop crs t hlt2, List.map_cons] at hal
          have hal2 : (css ++ [[z] ++ crs.getD t []]) ++ (crs.drop (t + 1)).map (z :: ·) ++ T = ALL := by
            rw [← hal]
            simp only [List.append_assoc, List.cons_append, List.nil_append]
          have HAl2 := Lib.hid hal2
          have hcl : css.length ≤ 100000 := by
            have := HFew.out
            rw [← hal2] at this
            simp only [List.length_append] at this
            omega
          have HLc := Lib.hid hcl
          have hb4 : Below wr.heap.size wr (wr.alloc (.cells #[.int .i64 z] 3)) := (Below.refl _ _).alloc (Nat.le_refl _) _
          have HR2 := Lib.hid (HR.out.below hb4)
          have HB4 := Lib.hid hb4
          obtain ⟨g', c', hc1, hI1⟩ := HR2.out.cell hlt2
          have HI1 := Lib.hid hI1
          have HOw : Hid (IsInts (wr.alloc (.cells #[.int .i64 z] 3)) wr.heap.size (.slice (some ⟨wr.heap.size, 0, none⟩) 1 1) [z]) := Lib.hid (World.ownsRow_lit (base := wr.heap.size) (e := 3) (size := 1) wr #[.int .i64 z] 1 (Nat.le_refl _) (by simp [maxLen]) rfl)
          have hrow := HRow.out t hlt2
          have HRw : Hid ([z].length + (crs.getD t []).length ≤ 1000) := Lib.hid (by rw [hrow]; simp; omega)
          have HSz : Hid (wr.heap.size ≤ (wr.alloc (.cells #[.int .i64 z] 3)).heap.size) := Lib.hid (by simp)
          have hN0 := HB.out.size
          have i1 : (0 : Int) ≤ (t : Int) := by omega
          have i2 : (t : Int) < (crs.length : Int) := by omega
          clear hal hal2 hcl hb4 hI1 hrow HAl
          generalize crs.getD t [] = cr at *
          obtain ⟨cz, hcz⟩ : ∃ cz, [z] ++ cr = cz := ⟨_, rfl⟩
          rw [hcz] at HAl2
          have HCz := Lib.hid hcz
          clear hcz
          go_wp2_with (first | (at_builtin; refine wpList_plain rfl (fun K hK => ?_); refine wp_append_any _ _ rfl (.slice (some ⟨wr.heap.size, 0, none⟩) 1 1) [z] cr (wr.alloc (.cells #[.int .i64 z] 3)) wr.heap.size g' c' w.heap.size rfl rfl HOw.out HI1.out HRw.out HSz.out (fun v2 W2 hI2 _ hb2 _ => ?_); rw [HCz.out] at hI2; obtain ⟨h2, c2, rfl⟩ := cons_shape HCz.out hI2; have HB5 := Lib.hid (hb2 wr.heap.size wr (Nat.le_refl _) HB4.out); have HI2 := Lib.hid (hI2.base hN0); have HC5 := Lib.hid (HC.out.below HB5.out); have HR5 := Lib.hid (HR.out.below HB5.out); have HN5 := Lib.hid (Nat.le_trans hN0 HB5.out.size); have HB6 := Lib.hid (HB.out.trans (HB5.out.mono hN0)); clear hI2 hb2; refine hK _ _ ?_; clear hK) | (at_builtin; refine wpList_plain rfl (fun K hK => ?_); refine wp_append_row _ _ rfl A vs css h2 c2 cz W2 w.heap.size rfl rfl HC5.out HI2.out HLc.out HN5.out (fun A3 vs3 W3 hC3 hor hkeep hb3 hlt3 => ?_); have HC3 := Lib.hid hC3; have HR3 := Lib.hid (hkeep _ _ _ _ HR5.out HNe.out); have HB3 := Lib.hid (hb3 _ _ (Nat.le_refl _) HB6.out); have HOr := Lib.hid hor; clear hC3 hkeep hb3 hor hlt3; refine hK _ _ ?_; clear hK))
          have hne3 : (Value.slice (some ⟨g, 0, none⟩) crs.length cap).ownBlock = none ∨ (Value.slice (some ⟨g, 0, none⟩) crs.length cap).ownBlock ≠ A3.ownBlock := by
            rcases HOr.out with e | e
            · rw [e]; exact HNe.out
            · rw [e]
              refine .inr fun e2 => ?_
              have q := (World.ownsRow.lt HR5.out.own g rfl).2
              have e3 : g = W2.heap.size + 1 := by injection e2
              omega
          have HNe3 := Lib.hid hne3
          clear hne3
          go_roundw
          case rel => exact ⟨_, vs3, css ++ [cz], t + 1, rfl, by omega, by go_num, HC3, HR3, HNe3, HAl2, HB3⟩
          case measure => simp [intOf]; omega
        · obtain rfl : t = crs.length := by omega
          have hal := HAl.out
          rw [List.drop_length, List.map_nil, List.append_nil, ← HT.out] at hal
          have HAl2 := Lib.hid hal
          have HZ2 : Hid (z - 1 = (L : Int) - ((i + 1 : Nat) : Int)) := Lib.hid (by have := HZ.out; omega)
          have s1 : IntKind.i64.wrap (z - 1) = z - 1 := by rw [IntWalk.i64_in _ ⟨by omega, by omega⟩]
          have s2 : wrap64 (z - 1) = z - 1 := by rw [IntWalk.wrap64_in _ ⟨by omega, by omega⟩]
          clear hal
          go_wp2
          go_roundw
          case rel => exact ⟨_, vs, css, i + 1, z - 1, rfl, by omega, HZ2, by first | rfl | go_num, HC, HAl2, HB⟩
          case measure => simp [intOf]; omega
    · obtain rfl : i = 2 * L + 1 := by omega
      have hal := HAll.out
      rw [HDe.out, List.flatMap_nil, List.append_nil] at hal
      subst hal
      have hz : z < -(L : Int) := by have := HZ.out; omega
      have hz2 : ¬ -(L : Int) ≤ z := by omega
      clear hlt hi
      go_wp2
      go_ret
      first | exact ⟨_, vs, rfl, HB.out, HC.out⟩ | exact ⟨_, rfl, HB.out, vs, HC.out⟩
theorem l10All_any (m : Nat) (hm : m ≤ 3) (L : Nat) (w : World) (hL : L ≤ 12) :
    Calls Try.prog 42 #[.int .i64 (m:Int), .int .i64 (L:Int)] w fun e w' => ∃ u vs, e = .returned u ∧ Below w.heap.size w w' ∧ Cts w' w.heap.size u vs (allC m L) := by
  induction m generalizing L w with
  | zero => exact l10All_none L w hL
  | succ m ih => exact l10All_succ m L w hm hL (fun K W hK => ih (by omega) K W hK)
end Go.Proofs.Ytnlalccnhpblkaa

/- Words: the model's shortest text of a place. -/
namespace Go.Proofs.Ytnlalccnhpblkaa
open Go.RowKit Go.Shelf
set_option linter.unusedVariables false
/-- The counts of a length that end at v: the first. -/
def pickC (n : Nat) (ls : List Nat) (v : Nat) (L : Nat) : Option (List Int) := (allC ls.length L).find? fun cs => endW n ls cs == v
theorem findSome_hit {β : Type} (f : Nat → Option β) (b : β) (N L : Nat) (hL : L < N) (hb : ∀ k, k < L → f k = none) (h : f L = some b) : (List.range N).findSome? f = some b := by
  induction N with
  | zero => exact absurd hL (Nat.not_lt_zero _)
  | succ N ih =>
    rw [List.range_succ, List.findSome?_append]
    by_cases e : L < N
    · rw [ih e]; rfl
    · obtain rfl : L = N := by omega
      have h0 : (List.range L).findSome? f = none := List.findSome?_eq_none_iff.2 (fun x hx => hb x (List.mem_range.1 hx))
      rw [h0]
      show [L].findSome? f = _
      rw [List.findSome?_cons, h]
theorem short_hit (n : Nat) (ls : List Nat) (v L : Nat) (cs : List Int) (hL : L ≤ n) (hb : ∀ k, k < L → pickC n ls v k = none) (h : pickC n ls v L = some cs) : shortC n ls v = some cs :=
  findSome_hit (pickC n ls v) cs (n + 1) L (by omega) hb h
theorem short_miss (n : Nat) (ls : List Nat) (v : Nat) (hb : ∀ k, k < n + 1 → pickC n ls v k = none) : shortC n ls v = none :=
  List.findSome?_eq_none_iff.2 (fun x hx => hb x (List.mem_range.1 hx))
theorem pickC_hit (C : List (List Int)) (p : List Int → Bool) (i : Nat) (hi : i < C.length) (hb : ∀ j, j < i → p (C.getD j []) = false) (h : p (C.getD i []) = true) : C.find? p = some (C.getD i []) := by
  induction C generalizing i with
  | nil => exact absurd hi (Nat.not_lt_zero _)
  | cons c C ih =>
    cases i with
    | zero =>
      have h' : p c = true := h
      show (c :: C).find? p = some c
      rw [List.find?_cons, h']
    | succ i =>
      have h0 : p c = false := hb 0 (by omega)
      rw [List.find?_cons, h0]
      exact ih i (by simpa using hi) (fun j hj => hb (j + 1) (by omega)) h
theorem pickC_miss (C : List (List Int)) (p : List Int → Bool) (hb : ∀ j, j < C.length → p (C.getD j []) = false) : C.find? p = none := by
  refine List.find?_eq_none.2 fun x hx => ?_
  obtain ⟨j, hj, e⟩ := List.mem_iff_getElem.1 hx
  have := hb j hj
  rw [List.getD_eq_getElem?_getD, List.getElem?_eq_getElem hj] at this
  rw [e] at this
  simpa using this
theorem all_rowabs (m K t : Nat) (ht : t < (allC m K).length) : absL ((allC m K).getD t []) = K := by
  refine ((all_mem m K _).1 ?_).2
  rw [List.getD_eq_getElem?_getD, List.getElem?_eq_getElem ht]
  exact List.getElem_mem ht
/-- What the search for the shortest text answers. -/
def ShortRes (n : Nat) (ls : List Nat) (v : Nat) (e : Ending) : Prop :=
  (∃ cs, shortC n ls v = some cs ∧ e = .returned (.tuple #[.string (toB (textC 0 cs)), .bool true])) ∨ (shortC n ls v = none ∧ e = .returned (.tuple #[.string ⟨#[]⟩, .bool false]))
theorem letL_len (xs : List Int) : (letL xs).length = xs.length := List.length_map ..
set_option maxRecDepth 100000 in
set_option maxHeartbeats 4000000 in
theorem l10Short_any (n : Nat) (lv : Value) (xs : List Int) (b v : Nat) (w : World) (hL : LetIn (n : Int) xs) (hI : IsInts w b lv xs) (hv : v ≤ 12) :
    Calls Try.prog 38 #[.int .i64 (n:Int), lv, .int .i64 (v:Int)] w fun e w' => ShortRes n (letL xs) v e ∧ Below w.heap.size w w' := by
  have hn12 := hL.1
  have h3 := hL.2.2.1
  obtain ⟨lad, lcap, rfl⟩ := ints_slice hI
  have HAll := Lib.hid (fun K W (hK : K ≤ 12) => l10All_any xs.length h3 K W hK)
  have HEnd := Lib.hid (fun K t cv c W (hK : K ≤ 12) (ht : t < (allC xs.length K).length) (hLv : IsInts W b (.slice lad xs.length lcap) xs) (hJ : IsInts W c cv ((allC xs.length K).getD t [])) =>
    l10End_any n (.slice lad xs.length lcap) cv xs ((allC xs.length K).getD t []) b c W hL (all_row _ _ _ ht) (fun k => by have := abs_get ((allC xs.length K).getD t []) k; rw [all_rowabs _ _ _ ht] at this; omega) hLv hJ)
  have HTx := Lib.hid (fun K t cv c W (hK : K ≤ 12) (ht : t < (allC xs.length K).length) (hJ : IsInts W c cv ((allC xs.length K).getD t [])) =>
    l10Text_any cv ((allC xs.length K).getD t []) c W (by rw [all_row _ _ _ ht]; exact h3) (by rw [all_rowabs _ _ _ ht]; omega) hJ)
  have HFew := Lib.hid (fun K (hK : K ≤ 12) => all_few xs.length h3 K hK)
  have HHit : Hid (∀ L t, L ≤ n → (∀ k, k < L → pickC n (letL xs) v k = none) → t < (allC xs.length L).length → (∀ j, j < t → (endW n (letL xs) ((allC xs.length L).getD j []) == v) = false) → (endW n (letL xs) ((allC xs.length L).getD t []) == v) = true →
      ShortRes n (letL xs) v (.returned (.tuple #[.string (toB (textC 0 ((allC xs.length L).getD t []))), .bool true]))) := Lib.hid (fun L t h1 h2 ht h4 h5 => .inl ⟨_, short_hit n (letL xs) v L _ h1 h2 (by unfold pickC; rw [letL_len]; exact pickC_hit _ (fun cs => endW n (letL xs) cs == v) t ht h4 h5), rfl⟩)
  have HPk : Hid (∀ L, (∀ j, j < (allC xs.length L).length → (endW n (letL xs) ((allC xs.length L).getD j []) == v) = false) → pickC n (letL xs) v L = none) := Lib.hid (fun L h => by unfold pickC; rw [letL_len]; exact pickC_miss _ (fun cs => endW n (letL xs) cs == v) h)
  have HMs : Hid ((∀ k, k < n + 1 → pickC n (letL xs) v k = none) → ShortRes n (letL xs) v (.returned (.tuple #[.string ⟨#[]⟩, .bool false]))) := Lib.hid (fun h => .inr ⟨short_miss n (letL xs) v h, rfl⟩)
  have HI := Lib.hid hI
  have hn1 : n ≤ 12 := by omega
  clear hI hL hn12
  generalize letL xs = ls at *
  obtain ⟨mm, hmm⟩ : ∃ mm, xs.length = mm := ⟨_, rfl⟩
  rw [hmm] at HAll HEnd HTx HFew HHit HPk h3 HI ⊢
  clear hmm
  go_enter Try.func38, Try.ntmps38
  go_wp2
  go_loopw [8] (fun u wr => ∃ L : Nat, L ≤ n + 1 ∧ u = .int .i64 (L : Int) ∧ Hid (∀ k, k < L → pickC n ls v k = none) ∧ Hid (Below w.heap.size w wr)) (fun u _ => n + 1 - (intOf u).toNat)
  case atStart => exact ⟨0, Nat.zero_le _, rfl, Lib.hid (fun k hk => absurd hk (Nat.not_lt_zero _)), Lib.hid (Below.refl _ _)⟩
  case round =>
    obtain ⟨L, hLn, rfl, HNo, HB⟩ := hrel
    by_cases hlt : L < n + 1
    · have hL12 : L ≤ 12 := by omega
      have hle : L ≤ n := by omega
      have HAl := Lib.hid (fun W => HAll.out L W hL12)
      have HEn := Lib.hid (fun t cv c W ht h1 h2 => HEnd.out L t cv c W hL12 ht h1 h2)
      have HTe := Lib.hid (fun t cv c W ht h2 => HTx.out L t cv c W hL12 ht h2)
      have HFe := Lib.hid (HFew.out L hL12)
      have HHi := Lib.hid (fun t => HHit.out L t hle HNo.out)
      have HPi := Lib.hid (HPk.out L)
      generalize allC mm L = crs at *
      go_wp2_with fail
      refine (HAl.out wr).mono ?_
      rintro e w1 ⟨R, vr, rfl, hb1, hR1⟩
      have HR1 := Lib.hid (hR1.base HB.out.size)
      have HB1 := Lib.hid (HB.out.trans (hb1.mono HB.out.size))
      obtain ⟨ad, cap, rfl⟩ : ∃ ad cap, R = .slice ad crs.length cap := by
        rcases hR1.shape with ⟨rfl, rfl⟩ | ⟨g, cap, rfl, _⟩
        · exact ⟨none, 0, rfl⟩
        · exact ⟨_, cap, rfl⟩
      clear hR1 hb1 HB
      go_wp2
      go_loopw [10] (fun u wr => ∃ t : Nat, t ≤ crs.length ∧ u = .int .i64 (t : Int) ∧ Hid (Cts wr w.heap.size (.slice ad crs.length cap) vr crs) ∧ Hid (∀ j, j < t → (endW n ls (crs.getD j []) == v) = false) ∧ Hid (Below w.heap.size w wr)) (fun u _ => crs.length - (intOf u).toNat)
      case atStart => exact ⟨0, Nat.zero_le _, rfl, HR1, Lib.hid (fun j hj => absurd hj (Nat.not_lt_zero _)), HB1⟩
      case round =>
        clear HR1 HB1
        obtain ⟨t, ht, rfl, HR, HNj, HB⟩ := hrel
        have hc1000 := HFe.out
        by_cases hlt2 : t < crs.length
        · obtain ⟨g, rfl⟩ : ∃ g, ad = some ⟨g, 0, none⟩ := by
            rcases HR.out.shape with ⟨e, e2⟩ | ⟨g, cap2, e, _⟩
            · rw [e2] at hlt2; exact absurd hlt2 (Nat.not_lt_zero _)
            · injection e with e1; exact ⟨g, e1⟩
          obtain ⟨g', c', hc1, hI1⟩ := HR.out.cell hlt2
          have HEc := Lib.hid (HEn.out t _ _ wr hlt2 (HI.out.belowAll HB.out) hI1)
          have HI1 := Lib.hid hI1
          have HTc := Lib.hid (fun W (hb : Below wr.heap.size wr W) => HTe.out t _ _ W hlt2 (hI1.belowAll hb))
          have HCc := Lib.hid (fun W (hb : Below wr.heap.size wr W) => (HR.out.below hb).cell hlt2)
          have HHc := Lib.hid (HHi.out t hlt2 HNj.out)
          have HNc : Hid ((endW n ls (crs.getD t []) == v) = false → ∀ j, j < t + 1 → (endW n ls (crs.getD j []) == v) = false) := Lib.hid (fun h j hj => by
            by_cases e : j = t
            · rw [e]; exact h
            · exact HNj.out j (by omega))
          have i1 : (0 : Int) ≤ (t : Int) := by omega
          have i2 : (t : Int) < (crs.length : Int) := by omega
          clear hI1
          generalize crs.getD t [] = cr at *
          obtain ⟨E, hE⟩ : ∃ E, endW n ls cr = E := ⟨_, rfl⟩
          rw [hE] at HEc HHc HNc
          clear hE
          have hgl := (World.ownsRow.lt HR.out.own g rfl).2
          have HCc2 := Lib.hid (fun W (hb : Below wr.heap.size wr W) => (hb.cell (p := ⟨g, t, none⟩) hgl).trans hc1)
          by_cases hEv : E = v
          · have HSh := Lib.hid (HHc.out (by simp [hEv]))
            have e1 : ((E : Int) == (v : Int)) = true := by simp [hEv]
            clear hEv HHc HNc
            go_wp2_with (first | (go_at_call 31; refine HEc.out.mono ?_; rintro e w2 ⟨rfl, hb2⟩; have hc2 := HCc2.out w2 hb2; have HB2 := Lib.hid hb2; clear hb2) | (go_at_call 33; refine (HTc.out _ HB2.out).mono ?_; rintro e w3 ⟨rfl, hb3⟩; have HB3 := Lib.hid (HB.out.trans ((HB2.out.mono HB.out.size).trans (hb3.mono (Nat.le_trans HB.out.size HB2.out.size)))); clear hb3))
            go_ret2
            exact ⟨HSh.out, HB3.out⟩
          · have HNo3 := Lib.hid (HNc.out (by simp [hEv]))
            have e1 : ((E : Int) == (v : Int)) = false := by simp; omega
            clear hEv HHc HNc
            go_wp2_with (go_at_call 31; refine HEc.out.mono ?_; rintro e w2 ⟨rfl, hb2⟩; have HR2 := Lib.hid (HR.out.below hb2); have HB2 := Lib.hid (HB.out.trans (hb2.mono HB.out.size)); clear hb2)
            go_roundw
            case rel => exact ⟨t + 1, by omega, by go_num, HR2, HNo3, HB2⟩
            case measure => simp [intOf]; omega
        · obtain rfl : t = crs.length := by omega
          have HPn := Lib.hid (HPi.out HNj.out)
          have HNo2 : Hid (∀ k, k < L + 1 → pickC n ls v k = none) := Lib.hid (fun k hk => by
            by_cases e : k = L
            · rw [e]; exact HPn.out
            · exact HNo.out k (by omega))
          go_wp2
          go_roundw
          case rel => exact ⟨L + 1, by omega, by go_num, HNo2, HB⟩
          case measure => simp [intOf]; omega
    · obtain rfl : L = n + 1 := by omega
      have HSh := Lib.hid (HMs.out HNo.out)
      clear hlt
      go_wp2
      go_ret2
      exact ⟨HSh.out, HB.out⟩
end Go.Proofs.Ytnlalccnhpblkaa

/- Words: the model's WordEnd, WordTidy, WordSame, WordShort. -/
namespace Go.Proofs.Ytnlalccnhpblkaa
open Go.RowKit Go.Shelf
set_option linter.unusedVariables false
instance (n : Int) (xs : List Int) : Decidable (LetIn n xs) := by unfold LetIn; infer_instance
/-- Where a text ends, if it is one. -/
def endO (n : Int) (xs : List Int) (s : ByteArray) : Option Nat := if LetIn n xs then (cntT xs.length s.toList).map fun cs => endW n.toNat (letL xs) cs else none
/-- A text made tidy. -/
def tidyO (n : Int) (xs : List Int) (s : ByteArray) : Option ByteArray := if LetIn n xs then (cntT xs.length s.toList).map fun cs => toB (textC 0 cs) else none
/-- The shortest text of a place. -/
def shortO (n : Int) (xs : List Int) (v : Int) : Option ByteArray := if LetIn n xs ∧ 0 ≤ v ∧ v ≤ n - 1 then (shortC n.toNat (letL xs) v.toNat).map fun cs => toB (textC 0 cs) else none
/-- Whether two texts end at one place. -/
def sameO (n : Int) (xs : List Int) (s t : ByteArray) : Bool := (endO n xs s).isSome && (endO n xs t).isSome && decide ((endO n xs s).getD 0 = (endO n xs t).getD 0)
theorem endO_no (n : Int) (xs : List Int) (s : ByteArray) (h : ¬ LetIn n xs ∨ cntT xs.length s.toList = none) : endO n xs s = none ∧ tidyO n xs s = none := by
  unfold endO tidyO
  by_cases hL : LetIn n xs
  · rw [if_pos hL, if_pos hL, h.resolve_left (fun e => e hL)]; exact ⟨rfl, rfl⟩
  · rw [if_neg hL, if_neg hL]; exact ⟨rfl, rfl⟩
theorem endO_yes (n : Nat) (xs : List Int) (s : ByteArray) (cs : List Int) (hL : LetIn (n : Int) xs) (h : cntT xs.length s.toList = some cs) : endO n xs s = some (endW n (letL xs) cs) ∧ tidyO n xs s = some (toB (textC 0 cs)) := by
  unfold endO tidyO
  rw [if_pos hL, if_pos hL, h, Int.toNat_natCast]
  exact ⟨rfl, rfl⟩
theorem counts_none (lv : Value) (xs : List Int) (s : ByteArray) (b : Nat) (w : World) (hl : xs.length ≤ 2000000) (hI : IsInts w b lv xs) (h : cntT xs.length s.toList = none) :
    Calls Try.prog 29 #[lv, .string s] w fun e w' => ∃ x, e = .returned (.tuple #[x, .bool false]) ∧ Below w.heap.size w w' :=
  (l10Counts_any lv xs s b w hl hI).mono fun e w' ⟨hb, hc⟩ => by
    rcases hc with ⟨_, x, hx⟩ | ⟨cs, h1, _⟩
    · exact ⟨x, hx, hb⟩
    · rw [h] at h1; cases h1
theorem counts_some (lv : Value) (xs : List Int) (s : ByteArray) (b : Nat) (w : World) (cs : List Int) (hl : xs.length ≤ 2000000) (hI : IsInts w b lv xs) (h : cntT xs.length s.toList = some cs) :
    Calls Try.prog 29 #[lv, .string s] w fun e w' => e = .returned (.tuple #[.slice (some ⟨w.heap.size, 0, none⟩) xs.length xs.length, .bool true]) ∧ IsInts w' w.heap.size (.slice (some ⟨w.heap.size, 0, none⟩) xs.length xs.length) cs ∧ Below w.heap.size w w' :=
  (l10Counts_any lv xs s b w hl hI).mono fun e w' ⟨hb, hc⟩ => by
    rcases hc with ⟨h1, _⟩ | ⟨cs', h1, h2, h3⟩
    · rw [h] at h1; cases h1
    · rw [h] at h1
      injection h1 with h1
      subst h1
      exact ⟨h2, h3, hb⟩
theorem cnt_facts {xs : List Int} {s : ByteArray} {cs : List Int} (h : cntT xs.length s.toList = some cs) : cs.length = xs.length ∧ absL cs ≤ 60 ∧ ∀ k, (cs.getD k 0).natAbs ≤ 100 := by
  obtain ⟨a, _, c, d, _⟩ := cntT_some _ _ _ h
  refine ⟨c, by omega, fun k => ?_⟩
  have := abs_get cs k
  omega
set_option maxHeartbeats 1000000 in
theorem specWordEnd_any (n : Int) (lv : Value) (xs : List Int) (s : ByteArray) (b : Nat) (w : World) (hl : xs.length ≤ 2000000) (hI : IsInts w b lv xs) :
    Calls Try.prog 10 #[.int .i64 n, lv, .string s] w fun e w' => e = .returned (.tuple #[.int .i64 (((endO n xs s).getD 0 : Nat) : Int), .bool (endO n xs s).isSome]) ∧ Below w.heap.size w w' := by
  obtain ⟨lad, lcap, rfl⟩ := ints_slice hI
  cases hc : cntT xs.length s.toList with
  | none =>
    have HC := Lib.hid (counts_none _ xs s b w hl hI hc)
    rw [(endO_no n xs s (.inr hc)).1]
    clear hI hc
    go_enter Try.func10, Try.ntmps10
    go_wp2_with fail
    refine HC.out.mono ?_
    rintro e w1 ⟨x, rfl, hb1⟩
    go_wp2
    go_ret2
    exact ⟨rfl, hb1⟩
  | some cs =>
    have HC := Lib.hid (counts_some _ xs s b w cs hl hI hc)
    obtain ⟨f1, f2, f3⟩ := cnt_facts hc
    by_cases hL : LetIn n xs
    · have hn := hL.1
      obtain ⟨m, rfl⟩ : ∃ m : Nat, n = (m : Int) := ⟨n.toNat, by omega⟩
      rw [(endO_yes m xs s cs hL hc).1]
      have HG := Lib.hid (fun W (hb : Below w.heap.size w W) => l10Given_any (m : Int) _ xs b W true ⟨fun _ => hL, fun _ => rfl⟩ hl (hI.belowAll hb))
      have HE := Lib.hid (fun W cv c (hb : Below w.heap.size w W) (hJ : IsInts W c cv cs) => l10End_any m _ cv xs cs b c W hL f1 f3 (hI.belowAll hb) hJ)
      clear hI hc hL f1 f2 f3 hn
      generalize endW m (letL xs) cs = E at *
      generalize xs.length = K at *
      go_enter Try.func10, Try.ntmps10
      go_wp2_with fail
      refine HC.out.mono ?_
      rintro e w1 ⟨rfl, hJ, hb1⟩
      have HJ := Lib.hid hJ
      have HB1 := Lib.hid hb1
      clear hJ hb1
      go_wp2_with fail
      refine (HG.out _ HB1.out).mono ?_
      rintro e w2 ⟨rfl, rfl⟩
      go_wp2_with fail
      refine (HE.out _ _ _ HB1.out HJ.out).mono ?_
      rintro e w3 ⟨rfl, hb3⟩
      go_wp2
      go_ret2
      exact ⟨rfl, HB1.out.trans (hb3.mono HB1.out.size)⟩
    · rw [(endO_no n xs s (.inl hL)).1]
      have HG := Lib.hid (fun W (hb : Below w.heap.size w W) => l10Given_any n _ xs b W false ⟨fun h => (by cases h), fun h => absurd h hL⟩ hl (hI.belowAll hb))
      clear hI hc hL f1 f2 f3
      generalize xs.length = K at *
      go_enter Try.func10, Try.ntmps10
      go_wp2_with fail
      refine HC.out.mono ?_
      rintro e w1 ⟨rfl, hJ, hb1⟩
      have HB1 := Lib.hid hb1
      clear hJ hb1
      go_wp2_with fail
      refine (HG.out _ HB1.out).mono ?_
      rintro e w2 ⟨rfl, rfl⟩
      go_wp2
      go_ret2
      exact ⟨rfl, HB1.out⟩
set_option maxHeartbeats 1000000 in
theorem specWordTidy_any (n : Int) (lv : Value) (xs : List Int) (s : ByteArray) (b : Nat) (w : World) (hl : xs.length ≤ 2000000) (hI : IsInts w b lv xs) :
    Calls Try.prog 13 #[.int .i64 n, lv, .string s] w fun e w' => e = .returned (.tuple #[.string ((tidyO n xs s).getD ⟨#[]⟩), .bool (tidyO n xs s).isSome]) ∧ Below w.heap.size w w' := by
  obtain ⟨lad, lcap, rfl⟩ := ints_slice hI
  cases hc : cntT xs.length s.toList with
  | none =>
    have HC := Lib.hid (counts_none _ xs s b w hl hI hc)
    rw [(endO_no n xs s (.inr hc)).2]
    clear hI hc
    go_enter Try.func13, Try.ntmps13
    go_wp2_with fail
    refine HC.out.mono ?_
    rintro e w1 ⟨x, rfl, hb1⟩
    go_wp2
    go_ret2
    exact ⟨rfl, hb1⟩
  | some cs =>
    have HC := Lib.hid (counts_some _ xs s b w cs hl hI hc)
    obtain ⟨f1, f2, f3⟩ := cnt_facts hc
    by_cases hL : LetIn n xs
    · have hn := hL.1
      have h3 := hL.2.2.1
      obtain ⟨m, rfl⟩ : ∃ m : Nat, n = (m : Int) := ⟨n.toNat, by omega⟩
      rw [(endO_yes m xs s cs hL hc).2]
      have HG := Lib.hid (fun W (hb : Below w.heap.size w W) => l10Given_any (m : Int) _ xs b W true ⟨fun _ => hL, fun _ => rfl⟩ hl (hI.belowAll hb))
      have HE := Lib.hid (fun W cv c (hJ : IsInts W c cv cs) => l10Text_any cv cs c W (by omega) f2 hJ)
      clear hI hc hL f1 f2 f3 hn h3
      generalize toB (textC 0 cs) = E at *
      generalize xs.length = K at *
      go_enter Try.func13, Try.ntmps13
      go_wp2_with fail
      refine HC.out.mono ?_
      rintro e w1 ⟨rfl, hJ, hb1⟩
      have HJ := Lib.hid hJ
      have HB1 := Lib.hid hb1
      clear hJ hb1
      go_wp2_with fail
      refine (HG.out _ HB1.out).mono ?_
      rintro e w2 ⟨rfl, rfl⟩
      go_wp2_with fail
      refine (HE.out _ _ _ HJ.out).mono ?_
      rintro e w3 ⟨rfl, hb3⟩
      go_wp2
      go_ret2
      exact ⟨rfl, HB1.out.trans (hb3.mono HB1.out.size)⟩
    · rw [(endO_no n xs s (.inl hL)).2]
      have HG := Lib.hid (fun W (hb : Below w.heap.size w W) => l10Given_any n _ xs b W false ⟨fun h => (by cases h), fun h => absurd h hL⟩ hl (hI.belowAll hb))
      clear hI hc hL f1 f2 f3
      generalize xs.length = K at *
      go_enter Try.func13, Try.ntmps13
      go_wp2_with fail
      refine HC.out.mono ?_
      rintro e w1 ⟨rfl, hJ, hb1⟩
      have HB1 := Lib.hid hb1
      clear hJ hb1
      go_wp2_with fail
      refine (HG.out _ HB1.out).mono ?_
      rintro e w2 ⟨rfl, rfl⟩
      go_wp2
      go_ret2
      exact ⟨rfl, HB1.out⟩
theorem specWordSame_any (n : Int) (lv : Value) (xs : List Int) (s t : ByteArray) (b : Nat) (w : World) (hl : xs.length ≤ 2000000) (hI : IsInts w b lv xs) :
    Calls Try.prog 16 #[.int .i64 n, lv, .string s, .string t] w fun e w' => e = .returned (.bool (sameO n xs s t)) ∧ Below w.heap.size w w' := by
  have HE := Lib.hid (fun W (hb : Below w.heap.size w W) u => specWordEnd_any n lv xs u b W hl (hI.belowAll hb))
  obtain ⟨lad, lcap, rfl⟩ := ints_slice hI
  have HS : Hid (sameO n xs s t = ((endO n xs s).isSome && (endO n xs t).isSome && decide ((endO n xs s).getD 0 = (endO n xs t).getD 0))) := Lib.hid rfl
  have HE1 := Lib.hid (HE.out w (Below.refl _ _) s)
  have HE2 := Lib.hid (fun W hb => HE.out W hb t)
  clear hI HE
  generalize xs.length = K at *
  generalize (endO n xs s).getD 0 = E1 at *
  generalize (endO n xs t).getD 0 = E2 at *
  generalize (endO n xs s).isSome = p at *
  generalize (endO n xs t).isSome = q at *
  rw [HS.out]
  clear HS
  have e1 : ((E1 : Int) == (E2 : Int)) = decide (E1 = E2) := by
    by_cases h : E1 = E2
    · simp [h]
    · have : ¬ (E1 : Int) = (E2 : Int) := by omega
      simp [h, this]
  generalize decide (E1 = E2) = d at *
  cases p <;> cases q
  all_goals
    go_enter Try.func16, Try.ntmps16
    go_wp2_with fail
    refine HE1.out.mono ?_
    rintro e w1 ⟨rfl, hb1⟩
    have HB1 := Lib.hid hb1
    clear hb1
    go_wp2_with fail
    refine (HE2.out _ HB1.out).mono ?_
    rintro e w2 ⟨rfl, hb2⟩
    have HB2 := Lib.hid (HB1.out.trans (hb2.mono HB1.out.size))
    clear hb2
    go_wp2
    go_ret
    exact ⟨rfl, HB2.out⟩
end Go.Proofs.Ytnlalccnhpblkaa

/- Words: the model's WordFar. -/
namespace Go.Proofs.Ytnlalccnhpblkaa
open Go.RowKit Go.Shelf
set_option linter.unusedVariables false
/-- How long the shortest text of a place is. -/
def farV (n : Nat) (ls : List Nat) (v : Nat) : Int := match shortC n ls v with | some cs => (absL cs : Int) | none => -1
def farO (n : Int) (xs : List Int) : List Int := if LetIn n xs then tabI n.toNat (farV n.toNat (letL xs)) else []
theorem farV_some {n : Nat} {ls : List Nat} {v : Nat} {cs : List Int} (h : shortC n ls v = some cs) : farV n ls v = ((toB (textC 0 cs)).size : Int) := by
  unfold farV
  rw [h, toB_size, text_len]
theorem farV_none {n : Nat} {ls : List Nat} {v : Nat} (h : shortC n ls v = none) : farV n ls v = -1 := by
  unfold farV
  rw [h]
theorem short_some_any (n : Nat) (lv : Value) (xs : List Int) (b v : Nat) (w : World) (hL : LetIn (n : Int) xs) (hI : IsInts w b lv xs) (hv : v ≤ 12) (cs : List Int) (h : shortC n (letL xs) v = some cs) :
    Calls Try.prog 38 #[.int .i64 (n:Int), lv, .int .i64 (v:Int)] w fun e w' => e = .returned (.tuple #[.string (toB (textC 0 cs)), .bool true]) ∧ Below w.heap.size w w' :=
  (l10Short_any n lv xs b v w hL hI hv).mono fun e w' ⟨h1, h2⟩ => by
    rcases h1 with ⟨ds, h3, h4⟩ | ⟨h3, h4⟩
    · rw [h] at h3; injection h3 with h3; subst h3; exact ⟨h4, h2⟩
    · rw [h] at h3; cases h3
theorem short_none_any (n : Nat) (lv : Value) (xs : List Int) (b v : Nat) (w : World) (hL : LetIn (n : Int) xs) (hI : IsInts w b lv xs) (hv : v ≤ 12) (h : shortC n (letL xs) v = none) :
    Calls Try.prog 38 #[.int .i64 (n:Int), lv, .int .i64 (v:Int)] w fun e w' => e = .returned (.tuple #[.string ⟨#[]⟩, .bool false]) ∧ Below w.heap.size w w' :=
  (l10Short_any n lv xs b v w hL hI hv).mono fun e w' ⟨h1, h2⟩ => by
    rcases h1 with ⟨ds, h3, h4⟩ | ⟨h3, h4⟩
    · rw [h] at h3; cases h3
    · exact ⟨h4, h2⟩
theorem specWordFar_no (n : Int) (lv : Value) (xs : List Int) (b : Nat) (w : World) (hl : xs.length ≤ 2000000) (hI : IsInts w b lv xs) (hL : ¬ LetIn n xs) :
    Calls Try.prog 23 #[.int .i64 n, lv] w (ListRes w [] false) := by
  have HB := Lib.hid ((Below.refl w.heap.size w).alloc (Nat.le_refl _) (.cells #[] 3))
  have HG := Lib.hid (l10Given_any n lv xs b _ false ⟨fun h => (by cases h), fun h => absurd h hL⟩ hl (hI.belowAll HB.out))
  have HO := Lib.hid (nil_made w w.heap.size (Nat.le_refl _))
  obtain ⟨lad, lcap, rfl⟩ := ints_slice hI
  clear hI hL
  generalize xs.length = K at *
  go_enter Try.func23, Try.ntmps23
  go_wp2_with fail
  refine HG.out.mono ?_
  rintro e w1 ⟨rfl, rfl⟩
  go_wp2
  go_ret2
  exact ⟨_, rfl, HB.out, HO.out⟩
set_option maxHeartbeats 2000000 in
theorem specWordFar_yes (n : Nat) (lv : Value) (xs : List Int) (b : Nat) (w : World) (hI : IsInts w b lv xs) (hL : LetIn (n : Int) xs) :
    Calls Try.prog 23 #[.int .i64 (n:Int), lv] w (ListRes w (tabI n (farV n (letL xs))) true) := by
  have HB := Lib.hid ((Below.refl w.heap.size w).alloc (Nat.le_refl _) (.cells #[] 3))
  have HG := Lib.hid (l10Given_any (n : Int) lv xs b _ true ⟨fun _ => hL, fun _ => rfl⟩ (by have := hL.2.2.1; omega) (hI.belowAll HB.out))
  have HO := Lib.hid (nil_made w w.heap.size (Nat.le_refl _))
  have HSn := Lib.hid (fun k => tab_snoc' k (farV n (letL xs)))
  have HLn := Lib.hid (fun k => tabI_len k (farV n (letL xs)))
  have hn12 : n ≤ 12 := by have := hL.1; omega
  have HS1 := Lib.hid (fun v W cs (hb : Below w.heap.size w W) (hv : v < n) h => short_some_any n lv xs b v W hL (hI.belowAll hb) (by omega) cs h)
  have HS0 := Lib.hid (fun v W (hb : Below w.heap.size w W) (hv : v < n) h => short_none_any n lv xs b v W hL (hI.belowAll hb) (by omega) h)
  have HF1 := Lib.hid (fun v cs (h : shortC n (letL xs) v = some cs) => farV_some h)
  have HF0 := Lib.hid (fun v (h : shortC n (letL xs) v = none) => farV_none h)
  have h0 : tabI 0 (farV n (letL xs)) = [] := rfl
  have H0 := Lib.hid h0
  have HSz := Lib.hid (fun v cs (h : shortC n (letL xs) v = some cs) => (by
    have := (short_some n (letL xs) v cs h).2.2.1
    rw [toB_size, text_len]
    omega : (toB (textC 0 cs)).size ≤ 12))
  obtain ⟨lad, lcap, rfl⟩ := ints_slice hI
  clear hI hL h0
  generalize xs.length = K at *
  generalize letL xs = ls at *
  go_enter Try.func23, Try.ntmps23
  go_wp2_with fail
  refine HG.out.mono ?_
  rintro e w1 ⟨rfl, rfl⟩
  go_wp2
  go_loopw [6, 7] (fun a u wr => ∃ (a' : Value) (v : Nat), a' = a ∧ v ≤ n ∧ u = .int .i64 (v : Int) ∧ Hid (IsInts wr w.heap.size a' (tabI v (farV n ls))) ∧ Hid (Below w.heap.size w wr)) (fun _ u _ => n - (intOf u).toNat)
  case atStart => exact ⟨_, 0, rfl, Nat.zero_le _, rfl, Lib.hid (by rw [H0.out]; exact HO.out), HB⟩
  case round =>
    obtain ⟨a, v, rfl, hv, rfl, HA, HBr⟩ := hrel
    have hz := HBr.out.size
    by_cases hlt : v < n
    · have HLc : Hid ((tabI v (farV n ls)).length ≤ 100000) := Lib.hid (by rw [HLn.out]; omega)
      have HSv := Lib.hid (HSn.out v)
      cases hs : shortC n ls v with
      | none =>
        have HC := Lib.hid (HS0.out v wr HBr.out hlt hs)
        have hf := HF0.out v hs
        rw [hf] at HSv
        clear hs hf
        go_wp2_with (first | (go_at_call 38; refine HC.out.mono ?_; rintro e w2 ⟨rfl, hb2⟩; have HA2 := Lib.hid (HA.out.belowAll hb2); have HB2 := Lib.hid (HBr.out.trans (hb2.mono HBr.out.size)); have hz2 := HB2.out.size; clear hb2) | (at_builtin; refine wpList_append_ints rfl _ _ rfl a (tabI v (farV n ls)) (-1) w2 w.heap.size rfl rfl HA2.out HLc.out hz2 (fun v' w3 hO5 _ hbelow => ?_); have HO5 := Lib.hid hO5; have HB5 := Lib.hid (hbelow _ _ (Nat.le_refl _) HB2.out); clear hbelow hO5))
        rw [← HSv.out] at HO5
        go_roundw
        case rel => exact ⟨_, v + 1, rfl, by omega, by go_num, HO5, HB5⟩
        case measure => simp [intOf]; omega
      | some cs =>
        have HC := Lib.hid (HS1.out v wr cs HBr.out hlt hs)
        have hf := HF1.out v cs hs
        have hsz := HSz.out v cs hs
        rw [hf] at HSv
        clear hs hf
        generalize toB (textC 0 cs) = S at *
        go_wp2_with (first | (go_at_call 38; refine HC.out.mono ?_; rintro e w2 ⟨rfl, hb2⟩; have HA2 := Lib.hid (HA.out.belowAll hb2); have HB2 := Lib.hid (HBr.out.trans (hb2.mono HBr.out.size)); have hz2 := HB2.out.size; clear hb2) | (at_builtin; refine wpList_append_ints rfl _ _ rfl a (tabI v (farV n ls)) (S.size : Int) w2 w.heap.size rfl rfl HA2.out HLc.out hz2 (fun v' w3 hO5 _ hbelow => ?_); have HO5 := Lib.hid hO5; have HB5 := Lib.hid (hbelow _ _ (Nat.le_refl _) HB2.out); clear hbelow hO5))
        rw [← HSv.out] at HO5
        go_roundw
        case rel => exact ⟨_, v + 1, rfl, by omega, by go_num, HO5, HB5⟩
        case measure => simp [intOf]; omega
    · obtain rfl : v = n := by omega
      clear hlt hv
      go_wp2
      go_ret2
      exact ⟨_, rfl, HBr.out, HA.out⟩
end Go.Proofs.Ytnlalccnhpblkaa
