/- Terms, the program's side: which function a method of a term is. Written by gen138.py. -/
import Derived.Test.YtecjhkpldcmlaaaDoorTrpA
namespace Go.Proofs.YtecjhkpldcmlaaaDoor
open Go.RowKit Go.Shelf
set_option linter.unusedVariables false
/-- The function of a method, by the kind of the term. -/
def kT (fe fp fo ft fq : FuncId) : Tm → FuncId
  | .leaf c => if c = 101 then fe else fp
  | .one c _ => if c = 33 then fo else ft
  | .two _ _ _ => fq
def k_set : Tm → FuncId := kT 125 129 153 158 134
theorem m_set0 (v : Value) (W : World) : (Go.method 286 106 v "loop.example/ringsofsteps/impl.set").run Tryd.prog W = .ok (125, v) W := by kernel_rfl
theorem c_set0 (args : Array Value) (W : World) : (callFunc 125 args).run Tryd.prog W = .ok (.enter 125 args) W := by kernel_rfl
theorem m_set1 (v : Value) (W : World) : (Go.method 286 109 v "loop.example/ringsofsteps/impl.set").run Tryd.prog W = .ok (129, v) W := by kernel_rfl
theorem c_set1 (args : Array Value) (W : World) : (callFunc 129 args).run Tryd.prog W = .ok (.enter 129 args) W := by kernel_rfl
theorem m_set2 (v : Value) (W : World) : (Go.method 286 152 v "loop.example/ringsofsteps/impl.set").run Tryd.prog W = .ok (153, v) W := by kernel_rfl
theorem c_set2 (args : Array Value) (W : World) : (callFunc 153 args).run Tryd.prog W = .ok (.enter 153 args) W := by kernel_rfl
theorem m_set3 (v : Value) (W : World) : (Go.method 286 153 v "loop.example/ringsofsteps/impl.set").run Tryd.prog W = .ok (158, v) W := by kernel_rfl
theorem c_set3 (args : Array Value) (W : World) : (callFunc 158 args).run Tryd.prog W = .ok (.enter 158 args) W := by kernel_rfl
theorem m_set4 (v : Value) (W : World) : (Go.method 286 111 v "loop.example/ringsofsteps/impl.set").run Tryd.prog W = .ok (134, v) W := by kernel_rfl
theorem c_set4 (args : Array Value) (W : World) : (callFunc 134 args).run Tryd.prog W = .ok (.enter 134 args) W := by kernel_rfl
theorem m_set (t : Tm) (W : World) : (Go.method 286 (tyT t) (payT t) "loop.example/ringsofsteps/impl.set").run Tryd.prog W = .ok (k_set t, payT t) W := by
  cases t with
  | leaf c =>
    by_cases h : c = 101
    · subst h; exact m_set0 _ W
    · rw [show tyT (.leaf c) = 109 from if_neg h, show k_set (.leaf c) = 129 from if_neg h]; exact m_set1 _ W
  | one c a =>
    by_cases h : c = 33
    · subst h; exact m_set2 _ W
    · rw [show tyT (.one c a) = 153 from if_neg h, show k_set (.one c a) = 158 from if_neg h]; exact m_set3 _ W
  | two c a b => exact m_set4 _ W
theorem c_set (t : Tm) (args : Array Value) (W : World) : (callFunc (k_set t) args).run Tryd.prog W = .ok (.enter (k_set t) args) W := by
  cases t with
  | leaf c =>
    by_cases h : c = 101
    · subst h; exact c_set0 _ W
    · rw [show k_set (.leaf c) = 129 from if_neg h]; exact c_set1 _ W
  | one c a =>
    by_cases h : c = 33
    · subst h; exact c_set2 _ W
    · rw [show k_set (.one c a) = 158 from if_neg h]; exact c_set3 _ W
  | two c a b => exact c_set4 _ W
def k_has : Tm → FuncId := kT 124 128 152 157 132
theorem m_has0 (v : Value) (W : World) : (Go.method 286 106 v "loop.example/ringsofsteps/impl.has").run Tryd.prog W = .ok (124, v) W := by kernel_rfl
theorem c_has0 (args : Array Value) (W : World) : (callFunc 124 args).run Tryd.prog W = .ok (.enter 124 args) W := by kernel_rfl
theorem n_has0 (v : Value) (W : World) : (Go.nilAhead 286 106 v "loop.example/ringsofsteps/impl.has").run Tryd.prog W = .ok (some false) W := by kernel_rfl
theorem m_has1 (v : Value) (W : World) : (Go.method 286 109 v "loop.example/ringsofsteps/impl.has").run Tryd.prog W = .ok (128, v) W := by kernel_rfl
theorem c_has1 (args : Array Value) (W : World) : (callFunc 128 args).run Tryd.prog W = .ok (.enter 128 args) W := by kernel_rfl
theorem n_has1 (v : Value) (W : World) : (Go.nilAhead 286 109 v "loop.example/ringsofsteps/impl.has").run Tryd.prog W = .ok (some false) W := by kernel_rfl
theorem m_has2 (v : Value) (W : World) : (Go.method 286 152 v "loop.example/ringsofsteps/impl.has").run Tryd.prog W = .ok (152, v) W := by kernel_rfl
theorem c_has2 (args : Array Value) (W : World) : (callFunc 152 args).run Tryd.prog W = .ok (.enter 152 args) W := by kernel_rfl
theorem n_has2 (v : Value) (W : World) : (Go.nilAhead 286 152 v "loop.example/ringsofsteps/impl.has").run Tryd.prog W = .ok (some false) W := by kernel_rfl
theorem m_has3 (v : Value) (W : World) : (Go.method 286 153 v "loop.example/ringsofsteps/impl.has").run Tryd.prog W = .ok (157, v) W := by kernel_rfl
theorem c_has3 (args : Array Value) (W : World) : (callFunc 157 args).run Tryd.prog W = .ok (.enter 157 args) W := by kernel_rfl
theorem n_has3 (v : Value) (W : World) : (Go.nilAhead 286 153 v "loop.example/ringsofsteps/impl.has").run Tryd.prog W = .ok (some false) W := by kernel_rfl
theorem m_has4 (v : Value) (W : World) : (Go.method 286 111 v "loop.example/ringsofsteps/impl.has").run Tryd.prog W = .ok (132, v) W := by kernel_rfl
theorem c_has4 (args : Array Value) (W : World) : (callFunc 132 args).run Tryd.prog W = .ok (.enter 132 args) W := by kernel_rfl
theorem n_has4 (v : Value) (W : World) : (Go.nilAhead 286 111 v "loop.example/ringsofsteps/impl.has").run Tryd.prog W = .ok (some false) W := by kernel_rfl
theorem m_has (t : Tm) (W : World) : (Go.method 286 (tyT t) (payT t) "loop.example/ringsofsteps/impl.has").run Tryd.prog W = .ok (k_has t, payT t) W := by
  cases t with
  | leaf c =>
    by_cases h : c = 101
    · subst h; exact m_has0 _ W
    · rw [show tyT (.leaf c) = 109 from if_neg h, show k_has (.leaf c) = 128 from if_neg h]; exact m_has1 _ W
  | one c a =>
    by_cases h : c = 33
    · subst h; exact m_has2 _ W
    · rw [show tyT (.one c a) = 153 from if_neg h, show k_has (.one c a) = 157 from if_neg h]; exact m_has3 _ W
  | two c a b => exact m_has4 _ W
theorem c_has (t : Tm) (args : Array Value) (W : World) : (callFunc (k_has t) args).run Tryd.prog W = .ok (.enter (k_has t) args) W := by
  cases t with
  | leaf c =>
    by_cases h : c = 101
    · subst h; exact c_has0 _ W
    · rw [show k_has (.leaf c) = 128 from if_neg h]; exact c_has1 _ W
  | one c a =>
    by_cases h : c = 33
    · subst h; exact c_has2 _ W
    · rw [show k_has (.one c a) = 157 from if_neg h]; exact c_has3 _ W
  | two c a b => exact c_has4 _ W
theorem n_has (t : Tm) (W : World) : (Go.nilAhead 286 (tyT t) (payT t) "loop.example/ringsofsteps/impl.has").run Tryd.prog W = .ok (some false) W := by
  cases t with
  | leaf c =>
    by_cases h : c = 101
    · subst h; exact n_has0 _ W
    · rw [show tyT (.leaf c) = 109 from if_neg h]; exact n_has1 _ W
  | one c a =>
    by_cases h : c = 33
    · subst h; exact n_has2 _ W
    · rw [show tyT (.one c a) = 153 from if_neg h]; exact n_has3 _ W
  | two c a b => exact n_has4 _ W
def k_text : Tm → FuncId := kT 126 130 154 159 135
theorem m_text0 (v : Value) (W : World) : (Go.method 286 106 v "loop.example/ringsofsteps/impl.text").run Tryd.prog W = .ok (126, v) W := by kernel_rfl
theorem c_text0 (args : Array Value) (W : World) : (callFunc 126 args).run Tryd.prog W = .ok (.enter 126 args) W := by kernel_rfl
theorem m_text1 (v : Value) (W : World) : (Go.method 286 109 v "loop.example/ringsofsteps/impl.text").run Tryd.prog W = .ok (130, v) W := by kernel_rfl
theorem c_text1 (args : Array Value) (W : World) : (callFunc 130 args).run Tryd.prog W = .ok (.enter 130 args) W := by kernel_rfl
theorem m_text2 (v : Value) (W : World) : (Go.method 286 152 v "loop.example/ringsofsteps/impl.text").run Tryd.prog W = .ok (154, v) W := by kernel_rfl
theorem c_text2 (args : Array Value) (W : World) : (callFunc 154 args).run Tryd.prog W = .ok (.enter 154 args) W := by kernel_rfl
theorem m_text3 (v : Value) (W : World) : (Go.method 286 153 v "loop.example/ringsofsteps/impl.text").run Tryd.prog W = .ok (159, v) W := by kernel_rfl
theorem c_text3 (args : Array Value) (W : World) : (callFunc 159 args).run Tryd.prog W = .ok (.enter 159 args) W := by kernel_rfl
theorem m_text4 (v : Value) (W : World) : (Go.method 286 111 v "loop.example/ringsofsteps/impl.text").run Tryd.prog W = .ok (135, v) W := by kernel_rfl
theorem c_text4 (args : Array Value) (W : World) : (callFunc 135 args).run Tryd.prog W = .ok (.enter 135 args) W := by kernel_rfl
theorem m_text (t : Tm) (W : World) : (Go.method 286 (tyT t) (payT t) "loop.example/ringsofsteps/impl.text").run Tryd.prog W = .ok (k_text t, payT t) W := by
  cases t with
  | leaf c =>
    by_cases h : c = 101
    · subst h; exact m_text0 _ W
    · rw [show tyT (.leaf c) = 109 from if_neg h, show k_text (.leaf c) = 130 from if_neg h]; exact m_text1 _ W
  | one c a =>
    by_cases h : c = 33
    · subst h; exact m_text2 _ W
    · rw [show tyT (.one c a) = 153 from if_neg h, show k_text (.one c a) = 159 from if_neg h]; exact m_text3 _ W
  | two c a b => exact m_text4 _ W
theorem c_text (t : Tm) (args : Array Value) (W : World) : (callFunc (k_text t) args).run Tryd.prog W = .ok (.enter (k_text t) args) W := by
  cases t with
  | leaf c =>
    by_cases h : c = 101
    · subst h; exact c_text0 _ W
    · rw [show k_text (.leaf c) = 130 from if_neg h]; exact c_text1 _ W
  | one c a =>
    by_cases h : c = 33
    · subst h; exact c_text2 _ W
    · rw [show k_text (.one c a) = 159 from if_neg h]; exact c_text3 _ W
  | two c a b => exact c_text4 _ W
def k_tidy : Tm → FuncId := kT 127 131 155 160 136
theorem m_tidy0 (v : Value) (W : World) : (Go.method 286 106 v "loop.example/ringsofsteps/impl.tidy").run Tryd.prog W = .ok (127, v) W := by kernel_rfl
theorem c_tidy0 (args : Array Value) (W : World) : (callFunc 127 args).run Tryd.prog W = .ok (.enter 127 args) W := by kernel_rfl
theorem m_tidy1 (v : Value) (W : World) : (Go.method 286 109 v "loop.example/ringsofsteps/impl.tidy").run Tryd.prog W = .ok (131, v) W := by kernel_rfl
theorem c_tidy1 (args : Array Value) (W : World) : (callFunc 131 args).run Tryd.prog W = .ok (.enter 131 args) W := by kernel_rfl
theorem m_tidy2 (v : Value) (W : World) : (Go.method 286 152 v "loop.example/ringsofsteps/impl.tidy").run Tryd.prog W = .ok (155, v) W := by kernel_rfl
theorem c_tidy2 (args : Array Value) (W : World) : (callFunc 155 args).run Tryd.prog W = .ok (.enter 155 args) W := by kernel_rfl
theorem m_tidy3 (v : Value) (W : World) : (Go.method 286 153 v "loop.example/ringsofsteps/impl.tidy").run Tryd.prog W = .ok (160, v) W := by kernel_rfl
theorem c_tidy3 (args : Array Value) (W : World) : (callFunc 160 args).run Tryd.prog W = .ok (.enter 160 args) W := by kernel_rfl
theorem m_tidy4 (v : Value) (W : World) : (Go.method 286 111 v "loop.example/ringsofsteps/impl.tidy").run Tryd.prog W = .ok (136, v) W := by kernel_rfl
theorem c_tidy4 (args : Array Value) (W : World) : (callFunc 136 args).run Tryd.prog W = .ok (.enter 136 args) W := by kernel_rfl
theorem m_tidy (t : Tm) (W : World) : (Go.method 286 (tyT t) (payT t) "loop.example/ringsofsteps/impl.tidy").run Tryd.prog W = .ok (k_tidy t, payT t) W := by
  cases t with
  | leaf c =>
    by_cases h : c = 101
    · subst h; exact m_tidy0 _ W
    · rw [show tyT (.leaf c) = 109 from if_neg h, show k_tidy (.leaf c) = 131 from if_neg h]; exact m_tidy1 _ W
  | one c a =>
    by_cases h : c = 33
    · subst h; exact m_tidy2 _ W
    · rw [show tyT (.one c a) = 153 from if_neg h, show k_tidy (.one c a) = 160 from if_neg h]; exact m_tidy3 _ W
  | two c a b => exact m_tidy4 _ W
theorem c_tidy (t : Tm) (args : Array Value) (W : World) : (callFunc (k_tidy t) args).run Tryd.prog W = .ok (.enter (k_tidy t) args) W := by
  cases t with
  | leaf c =>
    by_cases h : c = 101
    · subst h; exact c_tidy0 _ W
    · rw [show k_tidy (.leaf c) = 131 from if_neg h]; exact c_tidy1 _ W
  | one c a =>
    by_cases h : c = 33
    · subst h; exact c_tidy2 _ W
    · rw [show k_tidy (.one c a) = 160 from if_neg h]; exact c_tidy3 _ W
  | two c a b => exact c_tidy4 _ W
/-- Two boxes, as all that only makes memory leaves them. -/
theorem two_boxes (w W0 : World) (ta tr : TypeId) (a r : Value) (h : (w.alloc (.cells #[a] ta)).alloc (.cells #[r] tr) = W0) (V : World) (hb : Below W0.heap.size W0 V) :
    V.cell? ⟨w.heap.size, 0, none⟩ = some a ∧ V.cell? ⟨w.heap.size + 1, 0, none⟩ = some r ∧ Below w.heap.size w V := by
  subst h
  have b1 := (Boxed.new w ta a).alloc (.cells #[r] tr)
  have b2 := Boxed.new (w.alloc (.cells #[a] ta)) tr r
  simp only [World.size_alloc] at b2
  have h2 : Below w.heap.size w V := (((Below.refl _ w).alloc (Nat.le_refl _) (.cells #[a] ta)).alloc (by simp) (.cells #[r] tr)).trans (hb.mono (by simp; omega))
  exact ⟨(hb.cell (p := ⟨w.heap.size, 0, none⟩) b1.lt).trans b1.cell, (hb.cell (p := ⟨w.heap.size + 1, 0, none⟩) b2.lt).trans b2.cell, h2⟩
/-- A box of three cells and one of one. -/
theorem pair_boxes (w W0 : World) (ta tr : TypeId) (a b c r : Value) (h : (w.alloc (.cells #[a, b, c] ta)).alloc (.cells #[r] tr) = W0) (V : World) (hb : Below W0.heap.size W0 V) :
    V.cell? ⟨w.heap.size, 0, none⟩ = some a ∧ V.cell? ⟨w.heap.size, 1, none⟩ = some b ∧ V.cell? ⟨w.heap.size, 2, none⟩ = some c ∧ V.cell? ⟨w.heap.size + 1, 0, none⟩ = some r ∧ Below w.heap.size w V := by
  subst h
  have e0 : (w.alloc (.cells #[a, b, c] ta)).heap[w.heap.size]? = some (.cells #[a, b, c] ta (0, 0)) := World.alloc_heap_new w _
  have e1 : ((w.alloc (.cells #[a, b, c] ta)).alloc (.cells #[r] tr)).heap[w.heap.size]? = some (.cells #[a, b, c] ta (0, 0)) := by
    rw [Below.heap_alloc _ _ _ (by simp)]; exact e0
  have b2 := Boxed.new (w.alloc (.cells #[a, b, c] ta)) tr r
  simp only [World.size_alloc] at b2
  have h2 : Below w.heap.size w V := (((Below.refl _ w).alloc (Nat.le_refl _) (.cells #[a, b, c] ta)).alloc (by simp) (.cells #[r] tr)).trans (hb.mono (by simp; omega))
  have e2 : V.heap[w.heap.size]? = some (.cells #[a, b, c] ta (0, 0)) := (hb.block _ (by simp; omega)).trans e1
  exact ⟨by simp [World.cell?, e2], by simp [World.cell?, e2], by simp [World.cell?, e2], (hb.cell (p := ⟨w.heap.size + 1, 0, none⟩) b2.lt).trans b2.cell, h2⟩
end Go.Proofs.YtecjhkpldcmlaaaDoor
