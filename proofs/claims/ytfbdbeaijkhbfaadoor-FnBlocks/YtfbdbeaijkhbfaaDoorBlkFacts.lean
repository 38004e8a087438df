/- Closed facts that spec.l03Block's walk wants. -/
import Derived.Test.YtfbdbeaijkhbfaaDoorAfterI
import Derived.Great.BuildSlice
namespace Go.Proofs.YtfbdbeaijkhbfaaDoor
open Go.RowKit
set_option linter.unusedVariables false

theorem cells8 {w : World} {b t : Nat} (s : St) (h : Row w b t .u32 s.list) :
    w.cell? ⟨b, 0, none⟩ = some (.int .u32 (s.a : Int)) ∧ w.cell? ⟨b, 1, none⟩ = some (.int .u32 (s.b : Int)) ∧ w.cell? ⟨b, 2, none⟩ = some (.int .u32 (s.c : Int)) ∧ w.cell? ⟨b, 3, none⟩ = some (.int .u32 (s.d : Int)) ∧
    w.cell? ⟨b, 4, none⟩ = some (.int .u32 (s.e : Int)) ∧ w.cell? ⟨b, 5, none⟩ = some (.int .u32 (s.f : Int)) ∧ w.cell? ⟨b, 6, none⟩ = some (.int .u32 (s.g : Int)) ∧ w.cell? ⟨b, 7, none⟩ = some (.int .u32 (s.h : Int)) ∧
    ∀ j, w.frozen? ⟨b, j, none⟩ = false :=
  have hl : s.list.length = 8 := rfl
  ⟨h.cell 0 (by omega), h.cell 1 (by omega), h.cell 2 (by omega), h.cell 3 (by omega), h.cell 4 (by omega), h.cell 5 (by omega), h.cell 6 (by omega), h.cell 7 (by omega), h.frozen⟩

theorem alloc4_last (w : World) (A B C D : Obj) : ((((w.alloc A).alloc B).alloc C).alloc D).heap[w.heap.size + 1 + 1 + 1]? = some D := by
  have := _root_.Go.heap_alloc_last (((w.alloc A).alloc B).alloc C) D
  simpa only [sz_alloc] using this

theorem alloc3_last (w : World) (A B C : Obj) : (((w.alloc A).alloc B).alloc C).heap[w.heap.size + 1 + 1]? = some C := by
  have := _root_.Go.heap_alloc_last ((w.alloc A).alloc B) C
  simpa only [sz_alloc] using this

theorem alloc2_last (w : World) (A B : Obj) : ((w.alloc A).alloc B).heap[w.heap.size + 1]? = some B := by
  have := _root_.Go.heap_alloc_last (w.alloc A) B
  simpa only [sz_alloc] using this

theorem built64 : Tryd.prog.built 58 [] = some (kV .u32 (List.replicate 64 0)).toArray := by kernel_rfl

theorem built64' (a : Act) : Tryd.prog.built 58 ((#[] : Array (Nat × Operand)).map fun (i, x) => (i, a.eval x)).toList = some (kV .u32 (List.replicate 64 0)).toArray := by
  have e : ((#[] : Array (Nat × Operand)).map fun (i, x) => (i, a.eval x)).toList = [] := by simp
  rw [e, built64]

theorem zeroRow : ∃ Z : Array Value, Hid (Z = (kV .u32 (List.replicate 64 0)).toArray) ∧ Hid ((Tryd.prog.info? 58).map (·.size) = some Z.size) ∧ Hid (64 = Z.size) ∧
    Hid (∀ a : Act, Tryd.prog.built 58 ((#[] : Array (Nat × Operand)).map fun (i, x) => (i, a.eval x)).toList = some Z) :=
  ⟨_, rfl, by unfold Hid; kernel_rfl, by unfold Hid; simp [kV], built64'⟩

end Go.Proofs.YtfbdbeaijkhbfaaDoor
