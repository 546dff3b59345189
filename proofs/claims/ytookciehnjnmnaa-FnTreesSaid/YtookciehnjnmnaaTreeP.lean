/- Determinants: rows as lists and as numbers at places; what both ways of eliminating make of them, and how great numbers become. -/
import Derived.Test.YtookciehnjnmnaaTreeF
namespace Go.Proofs.Ytookciehnjnmnaa
set_option linter.unusedVariables false
/-- The program's way: the pivot is the first number. -/
def detG : Nat → Int → List (List Int) → Int
  | 0, last, _ => last
  | _ + 1, last, [] => last
  | k + 1, last, r :: l => detG k (headI r) (restRows (headI r) last r.tail l)
def smallB (c : Nat) (R : List (List Int)) : Bool := R.all fun r => r.all fun y => Nat.ble y.natAbs c
def okR (R : List (List Int)) : Bool := smallB 10000000000 R && (Nat.ble R.length 1 || smallB 2000000000 R)
def okF : Nat → Int → List (List Int) → Bool
  | 0, _, _ => true
  | _ + 1, _, [] => true
  | k + 1, last, r :: l => okR (r :: l) && match lastRow l with
    | some q => okF k (headI q) (restRows (headI q) last q.tail (putRow r l))
    | none => if headI r = 0 then true else okF k (headI r) (restRows (headI r) last r.tail l)
def okG : Nat → Int → List (List Int) → Bool
  | 0, _, _ => true
  | _ + 1, _, [] => true
  | k + 1, last, r :: l => okR (r :: l) && !decide (headI r = 0) && okG k (headI r) (restRows (headI r) last r.tail l)
/-- R has the numbers of M from row and column k on. -/
structure Sub (m k : Nat) (M : Nat → Nat → Int) (R : List (List Int)) : Prop where
  le : k ≤ m
  len : R.length = m - k
  row : ∀ i, i < m - k → (R.getD i []).length = m - k
  val : ∀ i j, i < m - k → j < m - k → (R.getD i []).getD j 0 = M (k + i) (k + j)
theorem cross_len (p last a : Int) (l q : List Int) : (crossRow p last a l q).length = min l.length q.length := by
  induction l generalizing q with
  | nil => simp [crossRow]
  | cons y l ih =>
    cases q with
    | nil => simp [crossRow]
    | cons z q =>
      show (crossRow p last a l q).length + 1 = min (l.length + 1) (q.length + 1)
      rw [ih]
      omega
theorem cross_get (p last a : Int) (l q : List Int) (j : Nat) (h1 : j < l.length) (h2 : j < q.length) : (crossRow p last a l q).getD j 0 = Int.tdiv (l.getD j 0 * p - q.getD j 0 * a) last := by
  induction l generalizing q j with
  | nil => simp at h1
  | cons y l ih =>
    cases q with
    | nil => simp at h2
    | cons z q =>
      cases j with
      | zero => rfl
      | succ j => exact ih q j (by simpa using h1) (by simpa using h2)
theorem rest_len (p last : Int) (q : List Int) (l : List (List Int)) : (restRows p last q l).length = l.length := by
  induction l with
  | nil => rfl
  | cons r l ih =>
    show (restRows p last q l).length + 1 = l.length + 1
    rw [ih]
theorem rest_get (p last : Int) (q : List Int) (l : List (List Int)) (i : Nat) (h : i < l.length) : (restRows p last q l).getD i [] = crossRow p last (headI (l.getD i [])) (l.getD i []).tail q := by
  induction l generalizing i with
  | nil => simp at h
  | cons r l ih =>
    cases i with
    | zero => rfl
    | succ i => exact ih i (by simpa using h)
theorem head_getD (r : List Int) : headI r = r.getD 0 0 := by cases r <;> rfl
theorem tail_getD (r : List Int) (j : Nat) : r.tail.getD j 0 = r.getD (j + 1) 0 := by cases r <;> simp
theorem tail_len (r : List Int) : r.tail.length = r.length - 1 := by simp
theorem getD_cons_succ (r : List Int) (l : List (List Int)) (i : Nat) : (r :: l).getD (i + 1) [] = l.getD i [] := rfl
/-- One round without an exchange. -/
theorem Sub.step {m k : Nat} {M M' : Nat → Nat → Int} {r : List Int} {l : List (List Int)} {last : Int} (h : Sub m k M (r :: l))
    (hM : ∀ i j, k < i → i < m → k < j → j < m → M' i j = Int.tdiv (M i j * M k k - M k j * M i k) last) : Sub m (k + 1) M' (restRows (headI r) last r.tail l) ∧ headI r = M k k := by
  have hl : l.length = m - (k + 1) := by have := h.len; simp at this; omega
  have hk : k < m := by have := h.len; simp at this; omega
  have hr0 : (r :: l).getD 0 [] = r := rfl
  have hr : r.length = m - k := by have := h.row 0 (by omega); rwa [hr0] at this
  have hp : headI r = M k k := by
    have := h.val 0 0 (by omega) (by omega)
    rw [hr0] at this
    rw [head_getD, this]
    rfl
  refine ⟨⟨by omega, by rw [rest_len, hl], fun i hi => ?_, fun i j hi hj => ?_⟩, hp⟩
  · rw [rest_get _ _ _ _ _ (by omega), cross_len, tail_len, tail_len, ← getD_cons_succ r, h.row (i + 1) (by omega), hr]
    omega
  · rw [rest_get _ _ _ _ _ (by omega)]
    have hx : (l.getD i []).length = m - k := by rw [← getD_cons_succ r]; exact h.row (i + 1) (by omega)
    rw [cross_get _ _ _ _ _ _ (by rw [tail_len, hx]; omega) (by rw [tail_len, hr]; omega), tail_getD, tail_getD, head_getD (l.getD i [])]
    have e1 := h.val (i + 1) (j + 1) (by omega) (by omega)
    have e2 := h.val 0 (j + 1) (by omega) (by omega)
    have e3 := h.val (i + 1) 0 (by omega) (by omega)
    rw [getD_cons_succ] at e1 e3
    rw [hr0] at e2
    rw [e1, e2, e3, hp, hM (k + 1 + i) (k + 1 + j) (by omega) (by omega) (by omega) (by omega)]
    rw [show k + (i + 1) = k + 1 + i by omega, show k + (j + 1) = k + 1 + j by omega]
    rfl
/-- The last row that begins with no 0. -/
theorem last_some {l : List (List Int)} {q : List Int} (h : lastRow l = some q) : ∃ i, i < l.length ∧ l.getD i [] = q ∧ headI q ≠ 0 ∧ (∀ j, i < j → j < l.length → headI (l.getD j []) = 0) ∧ ∀ x, putRow x l = l.set i x := by
  induction l generalizing q with
  | nil => cases h
  | cons r l ih =>
    unfold lastRow at h
    cases hl : lastRow l with
    | some q' =>
      rw [hl] at h
      injection h with h
      subst h
      obtain ⟨i, h1, h2, h3, h4, h5⟩ := ih hl
      refine ⟨i + 1, by simp; omega, h2, h3, fun j hj hjl => ?_, fun x => ?_⟩
      · obtain ⟨j, rfl⟩ : ∃ j', j = j' + 1 := ⟨j - 1, by omega⟩
        exact h4 j (by omega) (by simpa using hjl)
      · unfold putRow
        rw [hl]
        simp [h5 x]
    | none =>
      rw [hl] at h
      simp only [] at h
      by_cases hz : headI r = 0
      · rw [if_pos hz] at h; cases h
      · rw [if_neg hz] at h
        injection h with h
        subst h
        have hall : ∀ l' : List (List Int), lastRow l' = none → ∀ j, j < l'.length → headI (l'.getD j []) = 0 := by
          intro l'
          induction l' with
          | nil => intro _ j hj; simp at hj
          | cons r' l' ih' =>
            intro hn j hj
            unfold lastRow at hn
            cases hl' : lastRow l' with
            | some q' => rw [hl'] at hn; cases hn
            | none =>
              rw [hl'] at hn
              simp only [] at hn
              by_cases hz' : headI r' = 0
              · cases j with
                | zero => exact hz'
                | succ j => exact ih' hl' j (by simpa using hj)
              · rw [if_neg hz'] at hn; cases hn
        refine ⟨0, by simp, rfl, hz, fun j hj hjl => ?_, fun x => ?_⟩
        · obtain ⟨j, rfl⟩ : ∃ j', j = j' + 1 := ⟨j - 1, by omega⟩
          exact hall l hl j (by simpa using hjl)
        · unfold putRow
          rw [hl]
          simp [hz]
theorem last_none {l : List (List Int)} (h : lastRow l = none) (j : Nat) (hj : j < l.length) : headI (l.getD j []) = 0 := by
  induction l generalizing j with
  | nil => simp at hj
  | cons r l ih =>
    unfold lastRow at h
    cases hl : lastRow l with
    | some q' => rw [hl] at h; cases h
    | none =>
      rw [hl] at h
      simp only [] at h
      by_cases hz : headI r = 0
      · cases j with
        | zero => exact hz
        | succ j => exact ih hl j (by simpa using hj)
      · rw [if_neg hz] at h; cases h
/-- Two rows exchanged. -/
def swapM (M : Nat → Nat → Int) (a b : Nat) (i j : Nat) : Int := if i = a then M b j else if i = b then M a j else M i j
theorem Sub.swap {m k : Nat} {M : Nat → Nat → Int} {r : List Int} {l : List (List Int)} (h : Sub m k M (r :: l)) (i : Nat) (hi : i < l.length) : Sub m k (swapM M (k + 1 + i) k) (l.getD i [] :: l.set i r) := by
  have hl : l.length = m - (k + 1) := by have := h.len; simp at this; omega
  have hk : k < m := by have := h.len; simp at this; omega
  have hget : ∀ j, (l.set i r).getD j [] = if j = i then r else l.getD j [] := fun j => by
    rw [List.getD_eq_getElem?_getD, List.getElem?_set, List.getD_eq_getElem?_getD]
    by_cases e : i = j
    · subst e; simp [hi]
    · have : ¬ j = i := fun h => e h.symm
      simp [e, this]
  have hrow : ∀ j, j < m - k → ((l.getD i [] :: l.set i r).getD j []) = (r :: l).getD (if j = 0 then i + 1 else if j = i + 1 then 0 else j) [] := fun j hj => by
    cases j with
    | zero => rfl
    | succ j =>
      show (l.set i r).getD j [] = _
      rw [hget]
      by_cases e : j = i
      · subst e; simp
      · have e2 : ¬ j + 1 = i + 1 := by omega
        rw [if_neg e, if_neg (by omega), if_neg e2]
        rfl
  refine ⟨h.le, by simp; omega, fun j hj => ?_, fun a b ha hb => ?_⟩
  · rw [hrow j hj]
    refine h.row _ ?_
    split
    · omega
    · split <;> omega
  · rw [hrow a ha]
    unfold swapM
    by_cases e0 : a = 0
    · subst e0
      rw [if_pos rfl, h.val _ _ (by omega) hb, if_neg (by omega), if_pos (by omega)]
      congr 1
      omega
    · by_cases e1 : a = i + 1
      · subst e1
        rw [if_neg (by omega), if_pos rfl, h.val _ _ (by omega) hb, if_pos (by omega)]
        rfl
      · rw [if_neg e0, if_neg e1, h.val _ _ ha hb, if_neg (by omega), if_neg (by omega)]
/-- Where the model finds its pivot, of the first j rows from k on. -/
def atN (M : Nat → Nat → Int) (k : Nat) : Nat → Int
  | 0 => -1
  | j + 1 => if M (k + j) k = 0 then atN M k j else ((k + j : Nat) : Int)
theorem atN_all (M : Nat → Nat → Int) (k i : Nat) (h0 : M (k + i) k ≠ 0) (j : Nat) (hij : i < j) (hz : ∀ x, i < x → x < j → M (k + x) k = 0) : atN M k j = ((k + i : Nat) : Int) := by
  induction j with
  | zero => omega
  | succ j ih =>
    show (if M (k + j) k = 0 then atN M k j else ((k + j : Nat) : Int)) = _
    by_cases e : i = j
    · subst e
      rw [if_neg h0]
    · rw [if_pos (hz j (by omega) (by omega))]
      exact ih (by omega) (fun x hx hxj => hz x hx (by omega))
theorem atN_none (M : Nat → Nat → Int) (k j : Nat) (hz : ∀ x, x < j → M (k + x) k = 0) : atN M k j = -1 := by
  induction j with
  | zero => rfl
  | succ j ih =>
    show (if M (k + j) k = 0 then atN M k j else ((k + j : Nat) : Int)) = _
    rw [if_pos (hz j (by omega))]
    exact ih fun x hx => hz x (by omega)
/-- What the model's round finds, and what goes on with it. -/
theorem det_cases {m k : Nat} {M : Nat → Nat → Int} {R : List (List Int)} (last sign : Int) (h : Sub m k M R) (hk : k < m) :
    (∃ i, k < i ∧ i < m ∧ atN M k (m - k) = (i : Int) ∧ M i k ≠ 0 ∧ ∀ M' : Nat → Nat → Int, (∀ a b, k < a → a < m → k < b → b < m → M' a b = Int.tdiv (swapM M i k a b * M i k - M i b * swapM M i k a k) last) →
      ∃ R', Sub m (k + 1) M' R' ∧ detF (m - k) last sign R = detF (m - (k + 1)) (M i k) (0 - sign) R' ∧ (okF (m - k) last R = true → okF (m - (k + 1)) (M i k) R' = true)) ∨
    (atN M k (m - k) = (k : Int) ∧ M k k ≠ 0 ∧ ∀ M' : Nat → Nat → Int, (∀ a b, k < a → a < m → k < b → b < m → M' a b = Int.tdiv (M a b * M k k - M k b * M a k) last) →
      ∃ R', Sub m (k + 1) M' R' ∧ detF (m - k) last sign R = detF (m - (k + 1)) (M k k) sign R' ∧ (okF (m - k) last R = true → okF (m - (k + 1)) (M k k) R' = true)) ∨
    (atN M k (m - k) = -1 ∧ detF (m - k) last sign R = 0) := by
  obtain ⟨r, l, rfl⟩ : ∃ r l, R = r :: l := by
    cases R with
    | nil => have := h.len; simp at this; omega
    | cons r l => exact ⟨r, l, rfl⟩
  have hl : l.length = m - (k + 1) := by have := h.len; simp at this; omega
  have hf : m - k = (m - (k + 1)) + 1 := by omega
  have hhead : headI r = M k k := (h.step (M' := fun a b => Int.tdiv (M a b * M k k - M k b * M a k) last) (last := last) (fun _ _ _ _ _ _ => rfl)).2
  have hcol : ∀ j, j < l.length → headI (l.getD j []) = M (k + 1 + j) k := fun j hj => by
    have := h.val (j + 1) 0 (by omega) (by omega)
    rw [getD_cons_succ] at this
    rw [head_getD, this, show k + (j + 1) = k + 1 + j by omega]
    rfl
  cases hl2 : lastRow l with
  | some q =>
    obtain ⟨i, h1, h2, h3, h4, h5⟩ := last_some hl2
    have hq : headI q = M (k + 1 + i) k := by rw [← h2, hcol i h1]
    refine .inl ⟨k + 1 + i, by omega, by omega, ?_, by rw [← hq]; exact h3, fun M' hM' => ?_⟩
    · have := atN_all M k (i + 1) (by rw [show k + (i + 1) = k + 1 + i by omega, ← hq]; exact h3) (m - k) (by omega) (fun x hx hxm => by
        obtain ⟨x, rfl⟩ : ∃ x', x = x' + 1 := ⟨x - 1, by omega⟩
        have := h4 x (by omega) (by omega)
        rw [hcol x (by omega)] at this
        rw [show k + (x + 1) = k + 1 + x by omega]
        exact this)
      rw [this]
      omega
    · have hs := h.swap i h1
      rw [h2] at hs
      have e1 : swapM M (k + 1 + i) k k k = M (k + 1 + i) k := by unfold swapM; rw [if_neg (by omega), if_pos rfl]
      have hst := hs.step (M' := M') (last := last) (fun a b ha ham hb hbm => by
        rw [hM' a b ha ham hb hbm, e1]
        have : swapM M (k + 1 + i) k k b = M (k + 1 + i) b := by unfold swapM; rw [if_neg (by omega), if_pos rfl]
        rw [this])
      rw [hst.2.trans e1] at hst
      refine ⟨_, hst.1, ?_, ?_⟩
      · rw [hf]
        show (match lastRow l with
          | some q => detF (m - (k + 1)) (headI q) (0 - sign) (restRows (headI q) last q.tail (putRow r l))
          | none => if headI r = 0 then 0 else detF (m - (k + 1)) (headI r) sign (restRows (headI r) last r.tail l)) = _
        rw [hl2]
        simp only []
        rw [hq, h5]
      · rw [hf]
        intro ho
        have ho' : (okR (r :: l) && match lastRow l with
          | some q => okF (m - (k + 1)) (headI q) (restRows (headI q) last q.tail (putRow r l))
          | none => if headI r = 0 then true else okF (m - (k + 1)) (headI r) (restRows (headI r) last r.tail l)) = true := ho
        rw [hl2] at ho'
        simp only [] at ho'
        rw [hq, h5, Bool.and_eq_true] at ho'
        exact ho'.2
  | none =>
    have hz : ∀ x, 0 < x → x < m - k → M (k + x) k = 0 := fun x hx hxm => by
      obtain ⟨x, rfl⟩ : ∃ x', x = x' + 1 := ⟨x - 1, by omega⟩
      have := last_none hl2 x (by omega)
      rw [hcol x (by omega)] at this
      rw [show k + (x + 1) = k + 1 + x by omega]
      exact this
    by_cases hp : M k k = 0
    · refine .inr (.inr ⟨atN_none M k _ (fun x hx => ?_), ?_⟩)
      · by_cases e : x = 0
        · subst e; exact hp
        · exact hz x (by omega) hx
      · rw [hf]
        show (match lastRow l with
          | some q => detF (m - (k + 1)) (headI q) (0 - sign) (restRows (headI q) last q.tail (putRow r l))
          | none => if headI r = 0 then 0 else detF (m - (k + 1)) (headI r) sign (restRows (headI r) last r.tail l)) = _
        rw [hl2]
        simp only []
        rw [if_pos (by rw [hhead]; exact hp)]
    · refine .inr (.inl ⟨?_, hp, fun M' hM' => ?_⟩)
      · have := atN_all M k 0 hp (m - k) (by omega) (fun x hx hxm => hz x hx hxm)
        rw [this]
        omega
      · have hst := h.step (M' := M') (last := last) hM'
        rw [hst.2] at hst
        refine ⟨_, hst.1, ?_, ?_⟩
        · rw [hf]
          show (match lastRow l with
            | some q => detF (m - (k + 1)) (headI q) (0 - sign) (restRows (headI q) last q.tail (putRow r l))
            | none => if headI r = 0 then 0 else detF (m - (k + 1)) (headI r) sign (restRows (headI r) last r.tail l)) = _
          rw [hl2]
          simp only []
          rw [if_neg (by rw [hhead]; exact hp), hhead]
        · rw [hf]
          intro ho
          have ho' : (okR (r :: l) && match lastRow l with
            | some q => okF (m - (k + 1)) (headI q) (restRows (headI q) last q.tail (putRow r l))
            | none => if headI r = 0 then true else okF (m - (k + 1)) (headI r) (restRows (headI r) last r.tail l)) = true := ho
          rw [hl2] at ho'
          simp only [] at ho'
          rw [if_neg (by rw [hhead]; exact hp), hhead, Bool.and_eq_true] at ho'
          exact ho'.2
theorem small_get {c : Nat} {m k : Nat} {M : Nat → Nat → Int} {R : List (List Int)} (h : Sub m k M R) (hs : smallB c R = true) (i j : Nat) (hi : k ≤ i) (him : i < m) (hj : k ≤ j) (hjm : j < m) : -(c : Int) ≤ M i j ∧ M i j ≤ (c : Int) := by
  have hv := h.val (i - k) (j - k) (by omega) (by omega)
  rw [show k + (i - k) = i by omega, show k + (j - k) = j by omega] at hv
  have hi' : i - k < R.length := by rw [h.len]; omega
  have hj' : j - k < (R.getD (i - k) []).length := by rw [h.row _ (by omega)]; omega
  have hm : R.getD (i - k) [] ∈ R := by
    rw [List.getD_eq_getElem?_getD, List.getElem?_eq_getElem hi']
    exact List.getElem_mem hi'
  have a := (List.all_eq_true.1 hs) _ hm
  have hm2 : (R.getD (i - k) []).getD (j - k) 0 ∈ R.getD (i - k) [] := by
    rw [List.getD_eq_getElem?_getD (l := R.getD (i - k) []), List.getElem?_eq_getElem hj']
    exact List.getElem_mem hj'
  have b := (List.all_eq_true.1 a) _ hm2
  rw [hv] at b
  have := Nat.le_of_ble_eq_true b
  omega
theorem ok_get {m k : Nat} {M : Nat → Nat → Int} {R : List (List Int)} (h : Sub m k M R) (ho : okR R = true) :
    (∀ i j, k ≤ i → i < m → k ≤ j → j < m → -10000000000 ≤ M i j ∧ M i j ≤ 10000000000) ∧
    (k + 1 < m → ∀ i j, k ≤ i → i < m → k ≤ j → j < m → -2000000000 ≤ M i j ∧ M i j ≤ 2000000000) := by
  unfold okR at ho
  rw [Bool.and_eq_true, Bool.or_eq_true] at ho
  refine ⟨fun i j a b c d => small_get h ho.1 i j a b c d, fun hk i j a b c d => ?_⟩
  rcases ho.2 with hl | hs
  · have := Nat.le_of_ble_eq_true hl
    have := h.len
    omega
  · exact small_get h hs i j a b c d
theorem okF_head {m k : Nat} {M : Nat → Nat → Int} {R : List (List Int)} {last : Int} (h : Sub m k M R) (hk : k < m) (ho : okF (m - k) last R = true) : okR R = true := by
  obtain ⟨r, l, rfl⟩ : ∃ r l, R = r :: l := by
    cases R with
    | nil => have := h.len; simp at this; omega
    | cons r l => exact ⟨r, l, rfl⟩
  rw [show m - k = (m - (k + 1)) + 1 by omega] at ho
  unfold okF at ho
  rw [Bool.and_eq_true] at ho
  exact ho.1
/-- One round of the program's way. -/
theorem detG_step {m k : Nat} {M M' : Nat → Nat → Int} {R : List (List Int)} {last : Int} (h : Sub m k M R) (hk : k < m) (ho : okG (m - k) last R = true)
    (hM : ∀ i j, k < i → i < m → k < j → j < m → M' i j = Int.tdiv (M i j * M k k - M k j * M i k) last) :
    okR R = true ∧ M k k ≠ 0 ∧ ∃ R', Sub m (k + 1) M' R' ∧ detG (m - k) last R = detG (m - (k + 1)) (M k k) R' ∧ okG (m - (k + 1)) (M k k) R' = true := by
  obtain ⟨r, l, rfl⟩ : ∃ r l, R = r :: l := by
    cases R with
    | nil => have := h.len; simp at this; omega
    | cons r l => exact ⟨r, l, rfl⟩
  have hf : m - k = (m - (k + 1)) + 1 := by omega
  have hst := h.step (M' := M') (last := last) hM
  rw [hf] at ho
  have ho' : (okR (r :: l) && !decide (headI r = 0) && okG (m - (k + 1)) (headI r) (restRows (headI r) last r.tail l)) = true := ho
  rw [Bool.and_eq_true, Bool.and_eq_true] at ho'
  refine ⟨ho'.1.1, ?_, _, hst.1, ?_, ?_⟩
  · have := ho'.1.2
    rw [hst.2] at this
    simpa using this
  · rw [hf]
    show detG (m - (k + 1)) (headI r) (restRows (headI r) last r.tail l) = _
    rw [hst.2]
  · have := ho'.2
    rwa [hst.2] at this ⊢
/-- Rows of numbers at places. -/
theorem rowT_len (n b v : Nat) (deg : Int) (w k : Nat) : (rowT n b v deg w k).length = k := by
  induction k generalizing w with
  | zero => rfl
  | succ k ih =>
    show (rowT n b v deg (w + 1) k).length + 1 = k + 1
    rw [ih]
def entT (n b v : Nat) (deg : Int) (w : Nat) : Int := if w = v then deg else if b.testBit ((w + n - v) % n) then -1 else 0
theorem rowT_get (n b v : Nat) (deg : Int) (w k j : Nat) (h : j < k) : (rowT n b v deg w k).getD j 0 = entT n b v deg (w + j) := by
  induction k generalizing w j with
  | zero => omega
  | succ k ih =>
    cases j with
    | zero => rfl
    | succ j =>
      show (rowT n b v deg (w + 1) k).getD j 0 = _
      rw [ih (w + 1) j (by omega), show w + 1 + j = w + (j + 1) by omega]
theorem rowsT_len (n b : Nat) (deg : Int) (v k : Nat) : (rowsT n b deg v k).length = k := by
  induction k generalizing v with
  | zero => rfl
  | succ k ih =>
    show (rowsT n b deg (v + 1) k).length + 1 = k + 1
    rw [ih]
theorem rowsT_get (n b : Nat) (deg : Int) (v k i : Nat) (h : i < k) : (rowsT n b deg v k).getD i [] = rowT n b (v + i) deg 1 (n - 1) := by
  induction k generalizing v i with
  | zero => omega
  | succ k ih =>
    cases i with
    | zero => rfl
    | succ i =>
      show (rowsT n b deg (v + 1) k).getD i [] = _
      rw [ih (v + 1) i (by omega), show v + 1 + i = v + (i + 1) by omega]
theorem sub_start (n b : Nat) (deg : Int) : Sub (n - 1) 0 (fun i j => entT n b (1 + i) deg (1 + j)) (rowsT n b deg 1 (n - 1)) :=
  ⟨Nat.zero_le _, by rw [rowsT_len]; omega, fun i hi => by rw [rowsT_get _ _ _ _ _ _ (by omega), rowT_len]; omega, fun i j hi hj => by
    rw [rowsT_get _ _ _ _ _ _ (by omega), rowT_get _ _ _ _ _ _ _ (by omega), Nat.zero_add, Nat.zero_add]⟩
end Go.Proofs.Ytookciehnjnmnaa
