/- A call as a value in memory, whatever its address; what the laws' helpers make of it. -/
import Derived.Test.YtakcmiijnckaaaaLlPack11
import Derived.Test.YtakcmiijnckaaaaLlPack3
import Derived.Deep.RegionHeld3
import Derived.Handy
import Derived.Test.YtakcmiijnckaaaaLlPack4
/- What the laws' helpers over slices of wide numbers and over calls answer: szWideS, toWideS, eqWideS, szCall, toCall, eqCall. -/
namespace Go.Proofs.Ytakcmiijnckaaaa
open Go.RowKit
set_option linter.unusedVariables false

theorem Try.infoW : (Try.prog.info? 70).map (fun i => (i.zero, i.size, i.bytes)) = some (some (.agg #[.int .i64 0, .int .i64 0]), 2, 16) := by kernel_rfl

/-- Two numbers lie side by side in an old block. -/
def Pair (w : World) (b o : Nat) (x y : Int) : Prop := b < w.heap.size ∧ w.cell? ⟨b, o, none⟩ = some (.int .i64 x) ∧ w.cell? ⟨b, o + 1, none⟩ = some (.int .i64 y)

theorem Pair.step {w w' : World} {b o : Nat} {x y : Int} (h : Pair w b o x y) (hE : Ext w w') : Pair w' b o x y :=
  ⟨Nat.lt_of_lt_of_le h.1 hE.size, (hE.cell (p := ⟨b, o, none⟩) h.1).trans h.2.1, (hE.cell (p := ⟨b, o + 1, none⟩) h.1).trans h.2.2⟩

theorem Wides.set {w : World} {g o : Nat} {ws : List (Int × Int)} (h : Wides w (some ⟨g, o, none⟩) ws) {k : Nat} (i : Nat) (hk : k ≠ g) (v : Value) : Wides (w.setCell ⟨k, i, none⟩ v) (some ⟨g, o, none⟩) ws := fun hp => by
  obtain ⟨b, off, ha, hb, hc⟩ := h hp
  have hbg : g = b := by injection ha with ha; injection ha
  subst hbg
  refine ⟨g, off, ha, by rw [World.size_setCell]; exact hb, fun j hj => ?_⟩
  obtain ⟨e1, e2⟩ := hc j hj
  exact ⟨by rw [World.cell?_setCell_other _ _ _ _ (by simp; try omega)]; exact e1, by rw [World.cell?_setCell_other _ _ _ _ (by simp; try omega)]; exact e2⟩

/-- The value v is the call of these numbers. -/
def RepCall (arch num : Int) (ws : List (Int × Int)) (v : Value) (w : World) : Prop := ∃ a cap, v = .agg #[.int .i64 arch, .int .i64 num, .slice a ws.length cap] ∧ Wides w a ws

theorem RepCall.step {arch num : Int} {ws : List (Int × Int)} {v : Value} {w w' : World} (h : RepCall arch num ws v w) (hE : Ext w w') : RepCall arch num ws v w' := by
  obtain ⟨a, cap, rfl, hw⟩ := h
  exact ⟨a, cap, rfl, hw.below hE (Nat.le_refl _)⟩

theorem sCall_rep (arch num : Int) (ws : List (Int × Int)) (v : Value) (w : World) (hl : ws.length ≤ 1048576) (h : RepCall arch num ws v w) :
    Calls Try.prog 44 #[v] w fun e w' => e = .returned (.bool (callB arch num ws)) ∧ Ext w w' := by
  obtain ⟨a, cap, rfl, hw⟩ := h
  exact sCall_any arch num a cap ws w hl hw

def fieldR (arch num : Int) (ws : List (Int × Int)) (t : Int) : Int := if fieldOk arch num ws t then fieldV arch num ws t else 0

theorem sField_rep (arch num : Int) (ws : List (Int × Int)) (t : Int) (v : Value) (w : World) (hl : ws.length ≤ 1048576) (h : RepCall arch num ws v w) :
    Calls Try.prog 13 #[v, .int .i64 t] w fun e w' => e = .returned (.tuple #[.int .i64 (fieldR arch num ws t), .bool (fieldOk arch num ws t)]) ∧ Ext w w' := by
  obtain ⟨a, cap, rfl, hw⟩ := h
  exact sField_any arch num a cap ws t w hl hw

end Go.Proofs.Ytakcmiijnckaaaa
