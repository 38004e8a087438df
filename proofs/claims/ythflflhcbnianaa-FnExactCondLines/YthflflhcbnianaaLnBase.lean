/- Lines in plain numbers and in memory; what the helpers that make and compare one line answer. -/
import Derived.Test.YthflflhcbnianaaRows
import Derived.Test.YthflflhcbnianaaBase
import Derived.Test.YthflflhcbnianaaInsMath
import Derived.Test.YthflflhcbnianaaBoxes
import Derived.WalkSpells
import Derived.WalkSmall
import Derived.Below
import Derived.Handy
import Derived.Laws.StructEq
import Derived.ChangeKeysEq
import Derived.ProofKit
import Derived.Lib.SmallJoins
import Derived.Deep.SlicePairs
import Derived.Deep.Cut
namespace Go.Proofs.Ythflflhcbnianaa
open Go.RowKit
set_option linter.unusedVariables false

/-- A word: Op, K, Yes, No. -/
abbrev Wd := Int × Int × Int × Int

def zeroW : Wd := (0, 0, 0, 0)

/-- A line. -/
structure Ln where
  lab : ByteArray
  wd : Wd
  yes : ByteArray
  no : ByteArray

def noText : ByteArray := ⟨#[]⟩

def zeroL : Ln := ⟨noText, zeroW, noText, noText⟩

/-- A line's seven cells. -/
def Hept (w : World) (b o : Nat) (l : Ln) : Prop :=
  w.cell? ⟨b, o, none⟩ = some (.string l.lab) ∧ w.cell? ⟨b, o + 1, none⟩ = some (.int .i64 l.wd.1) ∧ w.cell? ⟨b, o + 2, none⟩ = some (.int .i64 l.wd.2.1) ∧ w.cell? ⟨b, o + 3, none⟩ = some (.int .i64 l.wd.2.2.1) ∧ w.cell? ⟨b, o + 4, none⟩ = some (.int .i64 l.wd.2.2.2) ∧ w.cell? ⟨b, o + 5, none⟩ = some (.string l.yes) ∧ w.cell? ⟨b, o + 6, none⟩ = some (.string l.no)

theorem Hept.below {w w' : World} {b o B : Nat} {l : Ln} (h : Hept w b o l) (hb : Below B w w') (hB : b < B) : Hept w' b o l :=
  ⟨(hb.cell (p := ⟨b, o, none⟩) hB).trans h.1, (hb.cell (p := ⟨b, o + 1, none⟩) hB).trans h.2.1, (hb.cell (p := ⟨b, o + 2, none⟩) hB).trans h.2.2.1, (hb.cell (p := ⟨b, o + 3, none⟩) hB).trans h.2.2.2.1, (hb.cell (p := ⟨b, o + 4, none⟩) hB).trans h.2.2.2.2.1, (hb.cell (p := ⟨b, o + 5, none⟩) hB).trans h.2.2.2.2.2.1, (hb.cell (p := ⟨b, o + 6, none⟩) hB).trans h.2.2.2.2.2.2⟩

theorem Hept.lt {w : World} {b o : Nat} {l : Ln} (h : Hept w b o l) : b < w.heap.size := World.block_lt_of_cell? w _ h.1

theorem Hept.ext {w w' : World} {b o : Nat} {l : Ln} (h : Hept w b o l) (hE : Ext w w') : Hept w' b o l := h.below hE h.lt

/-- A line laid in a block of its own. -/
theorem hept_box (w : World) (l : Ln) (T : TypeId) : Hept (w.alloc (.cells #[.string l.lab, .int .i64 l.wd.1, .int .i64 l.wd.2.1, .int .i64 l.wd.2.2.1, .int .i64 l.wd.2.2.2, .string l.yes, .string l.no] T)) w.heap.size 0 l :=
  ⟨by simp [go_sem], by simp [go_sem], by simp [go_sem], by simp [go_sem], by simp [go_sem], by simp [go_sem], by simp [go_sem]⟩

/-- These lines lie in a row from there on. -/
def Lns (w : World) (a : Option Addr) (ls : List Ln) : Prop := 0 < ls.length → ∃ b off, a = some ⟨b, off, none⟩ ∧ ∀ j, j < ls.length → Hept w b (off + j * 7) (ls.getD j zeroL)

theorem Lns.below {w w' : World} {a : Option Addr} {ls : List Ln} {B : Nat} (h : Lns w a ls) (hb : Below B w w') (hB : w.heap.size ≤ B) : Lns w' a ls := fun hp => by
  obtain ⟨b, off, ha, hc⟩ := h hp
  exact ⟨b, off, ha, fun j hj => (hc j hj).below hb (Nat.lt_of_lt_of_le (hc j hj).lt hB)⟩

theorem Lns.ext {w w' : World} {a : Option Addr} {ls : List Ln} (h : Lns w a ls) (hE : Ext w w') : Lns w' a ls := h.below hE (Nat.le_refl _)

theorem Lns.hept {w : World} {a : Option Addr} {ls : List Ln} (h : Lns w a ls) {k : Nat} (hk : k < ls.length) {l : Ln} (hl : l = ls.getD k zeroL) : ∃ b off, a = some ⟨b, off, none⟩ ∧ Hept w b (off + k * 7) l := by
  obtain ⟨b, off, ha, hc⟩ := h (by omega)
  exact ⟨b, off, ha, by rw [hl]; exact hc k hk⟩

def plainL (o k : Int) : Ln := ⟨noText, (o, k, 0, 0), noText, noText⟩
def placeL (s : ByteArray) : Ln := ⟨s, zeroW, noText, noText⟩

theorem set_same {W : World} {a : Addr} {u : Value} (v : Value) (h : W.cell? a = some u) : (W.setCell a v).cell? a = some v := World.cell?_setCell_same _ _ _ h

theorem set_far {W : World} {a q : Addr} {v : Value} (h : q ≠ a) : (W.setCell a v).cell? q = W.cell? q := World.cell?_setCell_other _ _ _ _ (Ne.symm h)

theorem off_ne {g i j : Nat} (h : i ≠ j) : (⟨g, i, none⟩ : Addr) ≠ ⟨g, j, none⟩ := fun e => h (by injection e)

theorem eqIns_same (o k y n : Int) (w : World) : Calls Try.prog 27 #[.agg #[.int .i64 o, .int .i64 k, .int .i64 y, .int .i64 n], .agg #[.int .i64 o, .int .i64 k, .int .i64 y, .int .i64 n]] w fun e w' => e = .returned (.bool true) ∧ Ext w w' := by
  go_enter Try.func27, Try.ntmps27
  go_wp2
  go_ret
  exact ⟨rfl, (Ext.one _ _).alloc _⟩

set_option maxRecDepth 100000 in
theorem eqLine_same (lab yes no : ByteArray) (o k y n : Int) (w : World) : Calls Try.prog 16 #[.agg #[.string lab, .int .i64 o, .int .i64 k, .int .i64 y, .int .i64 n, .string yes, .string no], .agg #[.string lab, .int .i64 o, .int .i64 k, .int .i64 y, .int .i64 n, .string yes, .string no]] w fun e w' => e = .returned (.bool true) ∧ Ext w w' := by
  go_enter Try.func16, Try.ntmps16
  go_wp2_with fail
  refine (eqIns_same o k y n _).mono ?_
  rintro e w1 ⟨rfl, x1⟩
  have c1 := ((CellsAt.new w [.string lab, .int .i64 o, .int .i64 k, .int .i64 y, .int .i64 n, .string yes, .string no] 43).step (Ext.one _ _)).step x1
  have d1 := (CellsAt.new' (w.alloc (.cells #[.string lab, .int .i64 o, .int .i64 k, .int .i64 y, .int .i64 n, .string yes, .string no] 43)) [.string lab, .int .i64 o, .int .i64 k, .int .i64 y, .int .i64 n, .string yes, .string no] 43 (w.heap.size + 1) (by simp)).step x1
  have X1 : Hid (Ext w w1) := ((Ext.one w _).alloc _).trans x1
  obtain ⟨q5, q6, s5, s6⟩ := (⟨c1.2 5 _ rfl, c1.2 6 _ rfl, d1.2 5 _ rfl, d1.2 6 _ rfl⟩ : _ ∧ _ ∧ _ ∧ _)
  clear x1 c1 d1
  go_wp2
  go_ret
  exact ⟨rfl, X1.out⟩

theorem Try.infoLn : (Try.prog.info? 43).map (fun i => (i.zero, i.size, i.bytes)) = some (some (.agg #[.string ⟨#[]⟩, .int .i64 0, .int .i64 0, .int .i64 0, .int .i64 0, .string ⟨#[]⟩, .string ⟨#[]⟩]), 7, 80) := by kernel_rfl

/-- A line's seven values. -/
def sev (l : Ln) : List Value := [.string l.lab, .int .i64 l.wd.1, .int .i64 l.wd.2.1, .int .i64 l.wd.2.2.1, .int .i64 l.wd.2.2.2, .string l.yes, .string l.no]

def flatL (ls : List Ln) : List Value := ls.flatMap sev

theorem flatL_append (l m : List Ln) : flatL (l ++ m) = flatL l ++ flatL m := by simp [flatL]

theorem flatL_length : ∀ ls : List Ln, (flatL ls).length = ls.length * 7
  | [] => rfl
  | l :: ls => by
    have := flatL_length ls
    simp only [flatL, List.flatMap_cons, List.length_append, List.length_cons] at *
    rw [this]
    simp [sev]
    omega

theorem flatL_at : ∀ (ls : List Ln) (j i : Nat), j < ls.length → i < 7 → (flatL ls)[j * 7 + i]? = (sev (ls.getD j zeroL))[i]?
  | l :: ls, 0, i, _, hi => by
    have hf : flatL (l :: ls) = sev l ++ flatL ls := by simp [flatL]
    rw [hf, Nat.zero_mul, Nat.zero_add, List.getElem?_append_left (by simp [sev]; omega)]
    rfl
  | l :: ls, j + 1, i, h, hi => by
    have hf : flatL (l :: ls) = sev l ++ flatL ls := by simp [flatL]
    rw [hf, List.getElem?_append_right (by simp [sev]; omega)]
    have e : (j + 1) * 7 + i - (sev l).length = j * 7 + i := by simp [sev]; omega
    rw [e, flatL_at ls j i (by simpa using h) hi]
    rfl

/-- These lines lie in a row of the call's own, not below B, which may be written. -/
def OwnL (w : World) (B : Nat) (v : Value) (ls : List Ln) : Prop := w.ownsRow B 43 7 v ls.length (flatL ls)

theorem OwnL.lns {w : World} {B : Nat} {v : Value} {ls : List Ln} (h : OwnL w B v ls) : ∃ a cap, v = .slice a ls.length cap ∧ ls.length ≤ cap ∧ Lns w a ls ∧ (0 < ls.length → ∃ g, a = some ⟨g, 0, none⟩ ∧ B ≤ g ∧ g < w.heap.size ∧ ∀ j, w.frozen? ⟨g, j, none⟩ = false) := by
  have hown : w.ownsRow B 43 7 v ls.length (flatL ls) := h
  rcases h.2 with ⟨rfl, h0⟩ | ⟨g, cap, cur, rfl, hg, hh, hnc, hcp, hcs, htake⟩
  · exact ⟨none, 0, by rw [h0], by omega, fun hp => by omega, fun hp => by omega⟩
  · refine ⟨_, cap, rfl, hnc, fun hp => ⟨g, 0, rfl, fun j hj => ?_⟩, fun hp => ⟨g, rfl, hg, (Array.getElem?_eq_some_iff.1 hh).1, fun j => frozen_of_row w g j cur 43 hh⟩⟩
    have cell : ∀ i v, i < 7 → (sev (ls.getD j zeroL))[i]? = some v → w.cell? ⟨g, j * 7 + i, none⟩ = some v := fun i v hi hv => by
      have hc := hown.cells (g := g) rfl (j * 7 + i) v (by rw [flatL_at ls j i hj hi]; exact hv)
      rwa [Addr.add_lit, Nat.zero_add] at hc
    rw [Nat.zero_add]
    exact ⟨cell 0 _ (by omega) rfl, cell 1 _ (by omega) rfl, cell 2 _ (by omega) rfl, cell 3 _ (by omega) rfl, cell 4 _ (by omega) rfl, cell 5 _ (by omega) rfl, cell 6 _ (by omega) rfl⟩

set_option maxRecDepth 100000 in
set_option maxHeartbeats 2000000 in
theorem word_any (o k : Int) (w : World) : Calls Try.prog 29 #[.int .i64 o, .int .i64 k] w fun e w' => e = .returned (.agg #[.string ⟨#[]⟩, .int .i64 o, .int .i64 k, .int .i64 0, .int .i64 0, .string ⟨#[]⟩, .string ⟨#[]⟩]) ∧ Ext w w' := by
  go_enter Try.func29, Try.ntmps29
  go_wp2
  refine bodyPost_ret (v := .agg #[.string ⟨#[]⟩, .int .i64 o, .int .i64 k, .int .i64 0, .int .i64 0, .string ⟨#[]⟩, .string ⟨#[]⟩]) (by simp [results, Try.results29, go_sem, *]) rfl ⟨rfl, ?_⟩
  go_grown

set_option maxRecDepth 100000 in
set_option maxHeartbeats 2000000 in
theorem asks_any (o k : Int) (yes no : ByteArray) (w : World) : Calls Try.prog 21 #[.int .i64 o, .int .i64 k, .string yes, .string no] w fun e w' => e = .returned (.agg #[.string ⟨#[]⟩, .int .i64 o, .int .i64 k, .int .i64 0, .int .i64 0, .string yes, .string no]) ∧ Ext w w' := by
  go_enter Try.func21, Try.ntmps21
  go_wp2
  refine bodyPost_ret (v := .agg #[.string ⟨#[]⟩, .int .i64 o, .int .i64 k, .int .i64 0, .int .i64 0, .string yes, .string no]) (by simp [results, Try.results21, go_sem, *]) rfl ⟨rfl, ?_⟩
  go_grown

end Go.Proofs.Ythflflhcbnianaa
