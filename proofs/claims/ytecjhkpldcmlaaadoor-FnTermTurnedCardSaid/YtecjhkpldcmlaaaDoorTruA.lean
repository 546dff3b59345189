/- Terms: the model turns a text letter by letter; bytes that grow in memory. -/
import Derived.Test.YtecjhkpldcmlaaaDoorTrpL
import Derived.Test.YtecjhkpldcmlaaaDoorTrmI
import Derived.Test.YtecjhkpldcmlaaaDoorTrmT
import Derived.Test.YtecjhkpldcmlaaaDoorTrpM
import Derived.Test.YtecjhkpldcmlaaaDoorTrpN
namespace Go.Proofs.YtecjhkpldcmlaaaDoor
open Go.RowKit Go.Shelf
set_option linter.unusedVariables false
attribute [local go_sem] Oper.semAt_some
theorem Tryd.infoB : (Tryd.prog.info? 5).map (fun i => (i.zero, i.size, i.bytes)) = some (some (.int .u8 0), 1, 1) := by kernel_rfl
def byteV (c : UInt8) : Value := .int .u8 (c.toNat : Int)
/-- v reads as these bytes, in memory of its own from block N on. -/
def IsByts (W : World) (N : Nat) (v : Value) (l : List UInt8) : Prop := (∃ g c, v = .slice (some ⟨g, 0, none⟩) l.length c) ∧ W.ownsRow N 5 1 v l.length (l.map byteV)
theorem nil_byts (w : World) (N : Nat) (h : N ≤ w.heap.size) : IsByts (w.alloc (.cells #[] 5)) N (.slice (some ⟨w.heap.size, 0, none⟩) 0 0) [] := ⟨⟨_, _, rfl⟩, World.ownsRow_made w #[] 0 h (by simp [maxLen]) rfl⟩
theorem wp_append_byte {o : Oper} {act : Act} {K : Act → World → Prop} {Q : Exit → Act → World → Prop} (s x : Operand) (ho : o.op = .call { callee := .builtin .append, args := #[s, x], argTypes := #[22, 22] })
    (A : Value) (l : List UInt8) (r : UInt8) (W : World) (N : Nat) (hs : act.eval s = A) (hx : act.eval x = .slice (some ⟨W.heap.size, 0, none⟩) 1 1) (hO : IsByts W N A l) (hl : l.length ≤ 100000) (hN : N ≤ W.heap.size)
    (h : ∀ (A' : Value) (w1 : World), IsByts w1 N A' (l ++ [r]) → (∀ (B : Nat) (w0 : World), B ≤ N → Below B w0 W → Below B w0 w1) → K (act.put o.dst A') w1) : o.wp Tryd.prog act (W.alloc (.cells #[.int .u8 (r.toNat : Int)] 5)) K Q := by
  obtain ⟨i0, hi, hz0, hz1, hz2⟩ := info_parts Tryd.infoB
  have hO2 : (W.alloc (.cells #[.int .u8 (r.toNat : Int)] 5)).ownsRow N 5 1 A l.length (l.map byteV) := World.ownsRow.alloc hO.2 _
  have hc2 : ∀ u ∈ [Value.int .u8 (r.toNat : Int)], u.oneCell' = true := by intro u hu; simp at hu; subst hu; rfl
  have hc3 : l.length + 1 ≤ maxLen := by unfold maxLen; omega
  have hc4 : N ≤ (W.alloc (.cells #[.int .u8 (r.toNat : Int)] 5)).heap.size := by simp; omega
  have hbs : ∀ k, A.ownBlock = some k → N ≤ k := fun k hk => (World.ownsRow.lt hO.2 k hk).1
  refine wp_append_own (W.alloc (.cells #[.int .u8 (r.toNat : Int)] 5)) s x 22 ho N 5 i0 (.int .u8 0) 1 1 Tryd.underlying22 hi hz0 hz1 hz2 rfl (by decide) A l.length _ hs hO2 ⟨W.heap.size, 0, none⟩ 1 1 [.int .u8 (r.toNat : Int)] hx rfl (fun j u hj => by
    match j, hj with
    | 0, hj => simp at hj; subst hj; simp [Addr.add]) hc2 hc3 (by omega) hc4 fun v' w1 hown' hgrow hiff => ?_
  have hown2 : w1.ownsRow N 5 1 v' (l ++ [r]).length ((l ++ [r]).map byteV) := by
    rw [List.length_append, List.map_append]
    exact hown'
  refine h v' w1 ⟨?_, hown2⟩ (fun B w0 hB hb => (hb.alloc (Nat.le_trans hB hN) _).grown hgrow (by simp; omega) (fun k hk => Nat.le_trans hB (hbs k hk)))
  rcases hown2.2 with ⟨_, h0⟩ | ⟨g, cap, cur, e, _⟩
  · simp at h0
  · exact ⟨g, cap, e⟩
/-- Bytes as a text. -/
theorem byts_text (W : World) (N g c k : Nat) (l : List UInt8) (hk : l.length = k) (h : IsByts W N (.slice (some ⟨g, 0, none⟩) k c) l) :
    (convert 22 9 (.slice (some ⟨g, 0, none⟩) k c)).run Tryd.prog W = .ok (.string (toB l)) W := by
  subst hk
  rw [run_convert_bytes_string _ _ _ 5 _ _ _ Tryd.underlying22 Tryd.underlying5 Tryd.underlying9]
  rw [run_bytesToString _ _ _ _ (l.map fun c => (c.toNat : Int)) ?_]
  · congr 2
    suffices H : ∀ (l : List UInt8) (a : ByteArray), List.foldl (fun (r : ByteArray) (n : Int) => r.push (UInt8.ofNat n.toNat)) a (l.map fun c => (c.toNat : Int)) = a ++ toB l by
      rw [H]
      apply ByteArray.ext
      simp [toB]
    intro l
    induction l with
    | nil => intro a; apply ByteArray.ext; simp [toB]
    | cons x l ih =>
      intro a
      rw [List.map_cons, List.foldl_cons, ih, Int.toNat_natCast, UInt8.ofNat_toNat]
      apply ByteArray.ext
      simp [toB]
  · have h2 := World.ownsRow.cells h.2 (g := g) rfl
    have h3 := run_loadCells_list (P := Tryd.prog) (w := W) ⟨g, 0, none⟩ (l.map byteV) h2
    rw [List.length_map] at h3
    rw [h3, List.map_map]
    rfl
end Go.Proofs.YtecjhkpldcmlaaaDoor
