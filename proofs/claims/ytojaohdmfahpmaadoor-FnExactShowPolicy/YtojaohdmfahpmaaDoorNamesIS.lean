/- What spec.CallNames and impl.CallNames, spec.CallNumber and impl.CallNumber answer: twelve names in memory of their own; the place of a name among them. -/
import Derived.Test.YtojaohdmfahpmaaDoorRows
import Derived.Test.YtojaohdmfahpmaaDoorHeld
import Derived.Maps.OwnOps
import Derived.Deep.AppendLies
import Derived.Maps.OwnSet
import Derived.WalkKit
import Derived.WalkSpells
namespace Go.Proofs.YtojaohdmfahpmaaDoor
open Go.RowKit Go.WideMaps Go.Maps
set_option linter.unusedVariables false

def nameL : List (List UInt8) := [[114, 101, 97, 100], [119, 114, 105, 116, 101], [111, 112, 101, 110], [99, 108, 111, 115, 101], [115, 116, 97, 116], [109, 109, 97, 112], [101, 120, 101, 99], [102, 111, 114, 107], [107, 105, 108, 108], [115, 101, 110, 100], [114, 101, 99, 118], [101, 120, 105, 116]]

def txt (l : List UInt8) : ByteArray := ⟨l.toArray⟩

theorem txt_inj {a b : List UInt8} (h : txt a = txt b) : a = b := by
  have := congrArg (fun x : ByteArray => x.data.toList) h
  simpa [txt] using this

theorem txt_data (s : ByteArray) : txt s.data.toList = s := by cases s; rfl

def nameB : List ByteArray := nameL.map txt

theorem nameL_length : nameL.length = 12 := rfl
theorem nameB_length : nameB.length = 12 := rfl

/-- The place of a name, or -1. -/
def callN (s : List UInt8) : Int := match nameL.findIdx? (· == s) with
  | some j => (j : Int)
  | none => -1

theorem callN_at {s : List UInt8} {k : Nat} (hk : k < 12) (h : nameL.getD k [] = s) : callN s = (k : Int) := by
  subst h
  revert k
  decide

theorem callN_none {s : List UInt8} (h : ∀ k, k < 12 → ¬ nameL.getD k [] = s) : callN s = -1 := by
  unfold callN
  have : nameL.findIdx? (· == s) = none := by
    rw [List.findIdx?_eq_none_iff]
    intro x hx
    obtain ⟨k, hk, rfl⟩ := List.getElem_of_mem hx
    have h1 := h k hk
    simp only [List.getD_eq_getElem?_getD, List.getElem?_eq_getElem hk, Option.getD_some] at h1
    simpa using h1
  rw [this]

theorem names_row (w : World) : (w.alloc (.cells (rowS nameB).toArray 9)).ownsRow w.heap.size 9 1 (.slice (some ⟨w.heap.size, 0, none⟩) 12 12) 12 (rowS nameB) :=
  World.ownsRow_lit (base := w.heap.size) (e := 9) (size := 1) w (rowS nameB).toArray 12 (Nat.le_refl _) (by decide) rfl

theorem name_cell {w : World} {B g : Nat} (h : w.ownsRow B 9 1 (.slice (some ⟨g, 0, none⟩) 12 12) 12 (rowS nameB)) (k : Nat) (hk : k < 12) : w.cell? ⟨g, k, none⟩ = some (.string (txt (nameL.getD k []))) := by
  rw [h.cellAt k hk, rowS_at nameB k (by rw [nameB_length]; exact hk)]
  have hk' : k < nameL.length := hk
  simp [nameB, hk']

theorem keyS : Keyed Tryd.prog 9 := string_keyed Tryd.underlying9
theorem zeroI (w : World) : (zeroValue 3).run Tryd.prog w = .ok (.int .i64 0) w := by kernel_rfl

/-- The map of the first k names. -/
def placesD : Nat → DataW Unit
  | 0 => .map []
  | k + 1 => (placesD k).put (.string (nameL.getD k [])) (.lit (.int .i64 (k : Int)))

theorem placesD_isMap : ∀ k, IsMap (placesD k)
  | 0 => ⟨_, rfl⟩
  | k + 1 => by
    obtain ⟨es, h⟩ := placesD_isMap k
    unfold placesD
    rw [h]
    exact ⟨_, rfl⟩

theorem lit_str_inj {a b : List UInt8} (h : Lit.string a = Lit.string b) : a = b := by injection h

theorem placesD_none (s : List UInt8) : ∀ k, (∀ j, j < k → ¬ nameL.getD j [] = s) → Maps.has (placesD k) (.string s) = false
  | 0, _ => rfl
  | k + 1, h => by
    unfold placesD
    rw [has_put_other (fun e => h k (by omega) (lit_str_inj e).symm)]
    exact placesD_none s k fun j hj => h j (by omega)

theorem placesD_at (s : List UInt8) (i : Nat) (hi : nameL.getD i [] = s) : ∀ k, i < k → (∀ j, i < j → j < k → ¬ nameL.getD j [] = s) → Maps.has (placesD k) (.string s) = true ∧ (placesD k).atKey (.string s) (.lit (.int .i64 0)) = .lit (.int .i64 (i : Int))
  | 0, h, _ => by omega
  | k + 1, h, hn => by
    by_cases e : i = k
    · subst e
      unfold placesD
      rw [hi]
      exact ⟨has_put_same (placesD_isMap i) (by trivial) _, atKey_put_same (placesD_isMap i) (by trivial) _ _⟩
    · have hne : Lit.string s ≠ .string (nameL.getD k []) := fun e' => hn k (by omega) (by omega) (lit_str_inj e').symm
      unfold placesD
      rw [has_put_other hne, atKey_put_other hne]
      exact placesD_at s i hi k (by omega) fun j h1 h2 => hn j h1 (by omega)

theorem nameL_apart : ∀ i, i < 12 → ∀ j, j < 12 → i < j → ¬ nameL.getD j [] = nameL.getD i [] := by decide

theorem name_short : ∀ k, k < 12 → (nameL.getD k []).length ≤ 5 := by decide

theorem name_cases (s : List UInt8) : (∃ i, i < 12 ∧ nameL.getD i [] = s) ∨ (∀ i, i < 12 → ¬ nameL.getD i [] = s) := by
  by_cases h : ∃ i, i < 12 ∧ nameL.getD i [] = s
  · exact .inl h
  · exact .inr fun i hi e => h ⟨i, hi, e⟩

end Go.Proofs.YtojaohdmfahpmaaDoor
