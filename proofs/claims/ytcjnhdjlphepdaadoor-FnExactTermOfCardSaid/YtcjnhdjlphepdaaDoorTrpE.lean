/- Terms, the program's side: which function a method of a term is. Written by gen138.py. -/
import Derived.Test.YtcjnhdjlphepdaaDoorTrpA
namespace Go.Proofs.YtcjnhdjlphepdaaDoor
open Go.RowKit Go.Shelf
set_option linter.unusedVariables false
/-- The function of a method, by the kind of the term. -/
def kT (fe fp fo ft fq : FuncId) : Tm → FuncId
  | .leaf c => if c = 101 then fe else fp
  | .one c _ => if c = 33 then fo else ft
  | .two _ _ _ => fq
def k_set : Tm → FuncId := kT 99 103 132 137 109
theorem m_set0 (v : Value) (W : World) : (Go.method 267 79 v "loop.example/ringsofsteps/impl.set").run Tryd.prog W = .ok (99, v) W := by kernel_rfl
theorem c_set0 (args : Array Value) (W : World) : (callFunc 99 args).run Tryd.prog W = .ok (.enter 99 args) W := by kernel_rfl
theorem m_set1 (v : Value) (W : World) : (Go.method 267 82 v "loop.example/ringsofsteps/impl.set").run Tryd.prog W = .ok (103, v) W := by kernel_rfl
theorem c_set1 (args : Array Value) (W : World) : (callFunc 103 args).run Tryd.prog W = .ok (.enter 103 args) W := by kernel_rfl
theorem m_set2 (v : Value) (W : World) : (Go.method 267 127 v "loop.example/ringsofsteps/impl.set").run Tryd.prog W = .ok (132, v) W := by kernel_rfl
theorem c_set2 (args : Array Value) (W : World) : (callFunc 132 args).run Tryd.prog W = .ok (.enter 132 args) W := by kernel_rfl
theorem m_set3 (v : Value) (W : World) : (Go.method 267 128 v "loop.example/ringsofsteps/impl.set").run Tryd.prog W = .ok (137, v) W := by kernel_rfl
theorem c_set3 (args : Array Value) (W : World) : (callFunc 137 args).run Tryd.prog W = .ok (.enter 137 args) W := by kernel_rfl
theorem m_set4 (v : Value) (W : World) : (Go.method 267 84 v "loop.example/ringsofsteps/impl.set").run Tryd.prog W = .ok (109, v) W := by kernel_rfl
theorem c_set4 (args : Array Value) (W : World) : (callFunc 109 args).run Tryd.prog W = .ok (.enter 109 args) W := by kernel_rfl
theorem m_set (t : Tm) (W : World) : (Go.method 267 (tyT t) (payT t) "loop.example/ringsofsteps/impl.set").run Tryd.prog W = .ok (k_set t, payT t) W := by
  cases t with
  | leaf c =>
    by_cases h : c = 101
    · subst h; exact m_set0 _ W
    · rw [show tyT (.leaf c) = 82 from if_neg h, show k_set (.leaf c) = 103 from if_neg h]; exact m_set1 _ W
  | one c a =>
    by_cases h : c = 33
    · subst h; exact m_set2 _ W
    · rw [show tyT (.one c a) = 128 from if_neg h, show k_set (.one c a) = 137 from if_neg h]; exact m_set3 _ W
  | two c a b => exact m_set4 _ W
theorem c_set (t : Tm) (args : Array Value) (W : World) : (callFunc (k_set t) args).run Tryd.prog W = .ok (.enter (k_set t) args) W := by
  cases t with
  | leaf c =>
    by_cases h : c = 101
    · subst h; exact c_set0 _ W
    · rw [show k_set (.leaf c) = 103 from if_neg h]; exact c_set1 _ W
  | one c a =>
    by_cases h : c = 33
    · subst h; exact c_set2 _ W
    · rw [show k_set (.one c a) = 137 from if_neg h]; exact c_set3 _ W
  | two c a b => exact c_set4 _ W
def k_has : Tm → FuncId := kT 98 102 131 136 107
theorem m_has0 (v : Value) (W : World) : (Go.method 267 79 v "loop.example/ringsofsteps/impl.has").run Tryd.prog W = .ok (98, v) W := by kernel_rfl
theorem c_has0 (args : Array Value) (W : World) : (callFunc 98 args).run Tryd.prog W = .ok (.enter 98 args) W := by kernel_rfl
theorem n_has0 (v : Value) (W : World) : (Go.nilAhead 267 79 v "loop.example/ringsofsteps/impl.has").run Tryd.prog W = .ok (some false) W := by kernel_rfl
theorem m_has1 (v : Value) (W : World) : (Go.method 267 82 v "loop.example/ringsofsteps/impl.has").run Tryd.prog W = .ok (102, v) W := by kernel_rfl
theorem c_has1 (args : Array Value) (W : World) : (callFunc 102 args).run Tryd.prog W = .ok (.enter 102 args) W := by kernel_rfl
theorem n_has1 (v : Value) (W : World) : (Go.nilAhead 267 82 v "loop.example/ringsofsteps/impl.has").run Tryd.prog W = .ok (some false) W := by kernel_rfl
theorem m_has2 (v : Value) (W : World) : (Go.method 267 127 v "loop.example/ringsofsteps/impl.has").run Tryd.prog W = .ok (131, v) W := by kernel_rfl
theorem c_has2 (args : Array Value) (W : World) : (callFunc 131 args).run Tryd.prog W = .ok (.enter 131 args) W := by kernel_rfl
theorem n_has2 (v : Value) (W : World) : (Go.nilAhead 267 127 v "loop.example/ringsofsteps/impl.has").run Tryd.prog W = .ok (some false) W := by kernel_rfl
theorem m_has3 (v : Value) (W : World) : (Go.method 267 128 v "loop.example/ringsofsteps/impl.has").run Tryd.prog W = .ok (136, v) W := by kernel_rfl
theorem c_has3 (args : Array Value) (W : World) : (callFunc 136 args).run Tryd.prog W = .ok (.enter 136 args) W := by kernel_rfl
theorem n_has3 (v : Value) (W : World) : (Go.nilAhead 267 128 v "loop.example/ringsofsteps/impl.has").run Tryd.prog W = .ok (some false) W := by kernel_rfl
theorem m_has4 (v : Value) (W : World) : (Go.method 267 84 v "loop.example/ringsofsteps/impl.has").run Tryd.prog W = .ok (107, v) W := by kernel_rfl
theorem c_has4 (args : Array Value) (W : World) : (callFunc 107 args).run Tryd.prog W = .ok (.enter 107 args) W := by kernel_rfl
theorem n_has4 (v : Value) (W : World) : (Go.nilAhead 267 84 v "loop.example/ringsofsteps/impl.has").run Tryd.prog W = .ok (some false) W := by kernel_rfl
theorem m_has (t : Tm) (W : World) : (Go.method 267 (tyT t) (payT t) "loop.example/ringsofsteps/impl.has").run Tryd.prog W = .ok (k_has t, payT t) W := by
  cases t with
  | leaf c =>
    by_cases h : c = 101
    · subst h; exact m_has0 _ W
    · rw [show tyT (.leaf c) = 82 from if_neg h, show k_has (.leaf c) = 102 from if_neg h]; exact m_has1 _ W
  | one c a =>
    by_cases h : c = 33
    · subst h; exact m_has2 _ W
    · rw [show tyT (.one c a) = 128 from if_neg h, show k_has (.one c a) = 136 from if_neg h]; exact m_has3 _ W
  | two c a b => exact m_has4 _ W
theorem c_has (t : Tm) (args : Array Value) (W : World) : (callFunc (k_has t) args).run Tryd.prog W = .ok (.enter (k_has t) args) W := by
  cases t with
  | leaf c =>
    by_cases h : c = 101
    · subst h; exact c_has0 _ W
    · rw [show k_has (.leaf c) = 102 from if_neg h]; exact c_has1 _ W
  | one c a =>
    by_cases h : c = 33
    · subst h; exact c_has2 _ W
    · rw [show k_has (.one c a) = 136 from if_neg h]; exact c_has3 _ W
  | two c a b => exact c_has4 _ W
theorem n_has (t : Tm) (W : World) : (Go.nilAhead 267 (tyT t) (payT t) "loop.example/ringsofsteps/impl.has").run Tryd.prog W = .ok (some false) W := by
  cases t with
  | leaf c =>
    by_cases h : c = 101
    · subst h; exact n_has0 _ W
    · rw [show tyT (.leaf c) = 82 from if_neg h]; exact n_has1 _ W
  | one c a =>
    by_cases h : c = 33
    · subst h; exact n_has2 _ W
    · rw [show tyT (.one c a) = 128 from if_neg h]; exact n_has3 _ W
  | two c a b => exact n_has4 _ W
def k_text : Tm → FuncId := kT 100 104 133 138 110
theorem m_text0 (v : Value) (W : World) : (Go.method 267 79 v "loop.example/ringsofsteps/impl.text").run Tryd.prog W = .ok (100, v) W := by kernel_rfl
theorem c_text0 (args : Array Value) (W : World) : (callFunc 100 args).run Tryd.prog W = .ok (.enter 100 args) W := by kernel_rfl
theorem m_text1 (v : Value) (W : World) : (Go.method 267 82 v "loop.example/ringsofsteps/impl.text").run Tryd.prog W = .ok (104, v) W := by kernel_rfl
theorem c_text1 (args : Array Value) (W : World) : (callFunc 104 args).run Tryd.prog W = .ok (.enter 104 args) W := by kernel_rfl
theorem m_text2 (v : Value) (W : World) : (Go.method 267 127 v "loop.example/ringsofsteps/impl.text").run Tryd.prog W = .ok (133, v) W := by kernel_rfl
theorem c_text2 (args : Array Value) (W : World) : (callFunc 133 args).run Tryd.prog W = .ok (.enter 133 args) W := by kernel_rfl
theorem m_text3 (v : Value) (W : World) : (Go.method 267 128 v "loop.example/ringsofsteps/impl.text").run Tryd.prog W = .ok (138, v) W := by kernel_rfl
theorem c_text3 (args : Array Value) (W : World) : (callFunc 138 args).run Tryd.prog W = .ok (.enter 138 args) W := by kernel_rfl
theorem m_text4 (v : Value) (W : World) : (Go.method 267 84 v "loop.example/ringsofsteps/impl.text").run Tryd.prog W = .ok (110, v) W := by kernel_rfl
theorem c_text4 (args : Array Value) (W : World) : (callFunc 110 args).run Tryd.prog W = .ok (.enter 110 args) W := by kernel_rfl
theorem m_text (t : Tm) (W : World) : (Go.method 267 (tyT t) (payT t) "loop.example/ringsofsteps/impl.text").run Tryd.prog W = .ok (k_text t, payT t) W := by
  cases t with
  | leaf c =>
    by_cases h : c = 101
    · subst h; exact m_text0 _ W
    · rw [show tyT (.leaf c) = 82 from if_neg h, show k_text (.leaf c) = 104 from if_neg h]; exact m_text1 _ W
  | one c a =>
    by_cases h : c = 33
    · subst h; exact m_text2 _ W
    · rw [show tyT (.one c a) = 128 from if_neg h, show k_text (.one c a) = 138 from if_neg h]; exact m_text3 _ W
  | two c a b => exact m_text4 _ W
theorem c_text (t : Tm) (args : Array Value) (W : World) : (callFunc (k_text t) args).run Tryd.prog W = .ok (.enter (k_text t) args) W := by
  cases t with
  | leaf c =>
    by_cases h : c = 101
    · subst h; exact c_text0 _ W
    · rw [show k_text (.leaf c) = 104 from if_neg h]; exact c_text1 _ W
  | one c a =>
    by_cases h : c = 33
    · subst h; exact c_text2 _ W
    · rw [show k_text (.one c a) = 138 from if_neg h]; exact c_text3 _ W
  | two c a b => exact c_text4 _ W
def k_tidy : Tm → FuncId := kT 101 105 134 139 111
theorem m_tidy0 (v : Value) (W : World) : (Go.method 267 79 v "loop.example/ringsofsteps/impl.tidy").run Tryd.prog W = .ok (101, v) W := by kernel_rfl
theorem c_tidy0 (args : Array Value) (W : World) : (callFunc 101 args).run Tryd.prog W = .ok (.enter 101 args) W := by kernel_rfl
theorem m_tidy1 (v : Value) (W : World) : (Go.method 267 82 v "loop.example/ringsofsteps/impl.tidy").run Tryd.prog W = .ok (105, v) W := by kernel_rfl
theorem c_tidy1 (args : Array Value) (W : World) : (callFunc 105 args).run Tryd.prog W = .ok (.enter 105 args) W := by kernel_rfl
theorem m_tidy2 (v : Value) (W : World) : (Go.method 267 127 v "loop.example/ringsofsteps/impl.tidy").run Tryd.prog W = .ok (134, v) W := by kernel_rfl
theorem c_tidy2 (args : Array Value) (W : World) : (callFunc 134 args).run Tryd.prog W = .ok (.enter 134 args) W := by kernel_rfl
theorem m_tidy3 (v : Value) (W : World) : (Go.method 267 128 v "loop.example/ringsofsteps/impl.tidy").run Tryd.prog W = .ok (139, v) W := by kernel_rfl
theorem c_tidy3 (args : Array Value) (W : World) : (callFunc 139 args).run Tryd.prog W = .ok (.enter 139 args) W := by kernel_rfl
theorem m_tidy4 (v : Value) (W : World) : (Go.method 267 84 v "loop.example/ringsofsteps/impl.tidy").run Tryd.prog W = .ok (111, v) W := by kernel_rfl
theorem c_tidy4 (args : Array Value) (W : World) : (callFunc 111 args).run Tryd.prog W = .ok (.enter 111 args) W := by kernel_rfl
theorem m_tidy (t : Tm) (W : World) : (Go.method 267 (tyT t) (payT t) "loop.example/ringsofsteps/impl.tidy").run Tryd.prog W = .ok (k_tidy t, payT t) W := by
  cases t with
  | leaf c =>
    by_cases h : c = 101
    · subst h; exact m_tidy0 _ W
    · rw [show tyT (.leaf c) = 82 from if_neg h, show k_tidy (.leaf c) = 105 from if_neg h]; exact m_tidy1 _ W
  | one c a =>
    by_cases h : c = 33
    · subst h; exact m_tidy2 _ W
    · rw [show tyT (.one c a) = 128 from if_neg h, show k_tidy (.one c a) = 139 from if_neg h]; exact m_tidy3 _ W
  | two c a b => exact m_tidy4 _ W
theorem c_tidy (t : Tm) (args : Array Value) (W : World) : (callFunc (k_tidy t) args).run Tryd.prog W = .ok (.enter (k_tidy t) args) W := by
  cases t with
  | leaf c =>
    by_cases h : c = 101
    · subst h; exact c_tidy0 _ W
    · rw [show k_tidy (.leaf c) = 105 from if_neg h]; exact c_tidy1 _ W
  | one c a =>
    by_cases h : c = 33
    · subst h; exact c_tidy2 _ W
    · rw [show k_tidy (.one c a) = 139 from if_neg h]; exact c_tidy3 _ W
  | two c a b => exact c_tidy4 _ W
/-- Two boxes, as all that only makes memory leaves them. -/
theorem two_boxes (w W0 : World) (ta tr : TypeId) (a r : Value) (h : (w.alloc (.cells #[a] ta)).alloc (.cells #[r] tr) = W0) (V : World) (hb : Below W0.heap.size W0 V) :
    V.cell? ⟨w.heap.size, 0, none⟩ = some a ∧ V.cell? ⟨w.heap.size + 1, 0, none⟩ = some r ∧ Below w.heap.size w V := by
  subst h
  have b1 := (Boxed.new w ta a).alloc (.cells #[r] tr)
  have b2 := Boxed.new (w.alloc (.cells #[a] ta)) tr r
  simp only [World.size_alloc] at b2
  have h2 : Below w.heap.size w V := (((Below.refl _ w).alloc (Nat.le_refl _) (.cells #[a] ta)).alloc (by simp) (.cells #[r] tr)).trans (hb.mono (by simp; omega))
  exact ⟨(hb.cell (p := ⟨w.heap.size, 0, none⟩) b1.lt).trans b1.cell, (hb.cell (p := ⟨w.heap.size + 1, 0, none⟩) b2.lt).trans b2.cell, h2⟩
/-- A box of three cells and one of one. -/
theorem pair_boxes (w W0 : World) (ta tr : TypeId) (a b c r : Value) (h : (w.alloc (.cells #[a, b, c] ta)).alloc (.cells #[r] tr) = W0) (V : World) (hb : Below W0.heap.size W0 V) :
    V.cell? ⟨w.heap.size, 0, none⟩ = some a ∧ V.cell? ⟨w.heap.size, 1, none⟩ = some b ∧ V.cell? ⟨w.heap.size, 2, none⟩ = some c ∧ V.cell? ⟨w.heap.size + 1, 0, none⟩ = some r ∧ Below w.heap.size w V := by
  subst h
  have e0 : (w.alloc (.cells #[a, b, c] ta)).heap[w.heap.size]? = some (.cells #[a, b, c] ta (0, 0)) := World.alloc_heap_new w _
  have e1 : ((w.alloc (.cells #[a, b, c] ta)).alloc (.cells #[r] tr)).heap[w.heap.size]? = some (.cells #[a, b, c] ta (0, 0)) := by
    rw [Below.heap_alloc _ _ _ (by simp)]; exact e0
  have b2 := Boxed.new (w.alloc (.cells #[a, b, c] ta)) tr r
  simp only [World.size_alloc] at b2
  have h2 : Below w.heap.size w V := (((Below.refl _ w).alloc (Nat.le_refl _) (.cells #[a, b, c] ta)).alloc (by simp) (.cells #[r] tr)).trans (hb.mono (by simp; omega))
  have e2 : V.heap[w.heap.size]? = some (.cells #[a, b, c] ta (0, 0)) := (hb.block _ (by simp; omega)).trans e1
  exact ⟨by simp [World.cell?, e2], by simp [World.cell?, e2], by simp [World.cell?, e2], (hb.cell (p := ⟨w.heap.size + 1, 0, none⟩) b2.lt).trans b2.cell, h2⟩
end Go.Proofs.YtcjnhdjlphepdaaDoor
