/- The program's own table of marks: from a row's list to the cells. -/
import Derived.Test.YtojaohdmfahpmaaGreatDoorPolPack22
import Derived.Lib.LaidTab
namespace Go.Proofs.YtojaohdmfahpmaaGreatDoor
open Go.RowKit Go.ChangeShapes Go.WideShapes Go.ChangeAt
set_option linter.unusedVariables false

def cmsD {H : Type} : DataW H := .agg ((([] :: cmL).map fun s => DataW.lit (.string s)))

theorem gCms : Tryz.prog.globalNamed "loop.example/g00397/impl.cmMarks" = some 0 := by kernel_rfl
theorem gCmsType : (Tryz.prog.globals[0]?).map (·.type) = some 141 := by kernel_rfl
theorem cellsCms : Tryz.prog.cellsOf 141 = 7 := by kernel_rfl
theorem cellsStr : Tryz.prog.cellsOf 9 = 1 := by kernel_rfl

theorem cells_of_strs {H : Type} {enc : TypeId × Value → H} {P : Program} {w : World} {base : Nat} {sp : Nat → Bool} {held : Bool} {fuel : Nat} {t e : TypeId} {n : Nat} {cs : List Value} {zs : List (List UInt8)} {p : List MemPlace}
    (ht : P.underlying t = some (.array n e)) (he : P.underlying e = some .string) (hce : P.cellsOf e = 1) (hct : P.cellsOf t = n)
    (h : DataW.trod enc P w base sp held fuel t cs = some (.agg (zs.map fun s => DataW.lit (.string s)), p)) : cs = zs.map fun z => Value.string (txt z) := by
  cases fuel with
  | zero => simp [DataW.trod] at h
  | succ fuel =>
    simp only [DataW.trod, ht, hce, hct, Nat.mul_one] at h
    split at h
    · rename_i hl
      obtain ⟨xs, hm, hx⟩ := Option.map_eq_some_iff.1 h
      have hxs : xs.map (·.1) = zs.map fun z => (DataW.lit (.string z) : DataW H) := by
        have := congrArg Prod.fst hx
        simpa using this
      have hxl : xs.length = n := by simpa using Lib.mapM_length hm
      have hzl : zs.length = n := by
        have := congrArg List.length hxs
        simp at this
        omega
      apply List.ext_getElem?
      intro i
      by_cases hi : i < n
      · obtain ⟨b, hb, hf⟩ := Lib.mapM_at hm i i (by simp [hi])
        obtain ⟨z, hc, rfl, _⟩ := DataW.trod_string he hf
        have h1 : cs[i]? = some (.string z) := by
          have := congrArg (·[0]?) hc
          simpa [List.getElem?_take, List.getElem?_drop] using this
        have h2 : (xs.map (·.1))[i]? = some (DataW.lit (.string z.data.toList) : DataW H) := by simp [hb]
        rw [hxs] at h2
        simp only [List.getElem?_map, Option.map_eq_some_iff, DataW.lit.injEq, Lit.string.injEq] at h2
        obtain ⟨z', hz', e⟩ := h2
        simp [h1, hz', e, txt_data]
      · rw [List.getElem?_eq_none (by omega), List.getElem?_eq_none (by simp; omega)]
    · cases h

theorem cms_of_var {W : World} {fuel base : Nat} {sp : Nat → Bool} {held : Bool} {cs : List Value} {p : List MemPlace} {enc : TypeId × Value → Unit} (hv : W.var? Tryz.prog "loop.example/g00397/impl.cmMarks" = some cs.toArray)
    (hd : DataW.trod enc Tryz.prog W base sp held fuel 141 cs = some (cmsD, p)) : Cms W := by
  have hc := cells_of_strs Tryz.underlying141 Tryz.underlying9 cellsStr cellsCms hd
  have key : ∀ k, k < 7 → W.cell? ⟨0, k, none⟩ = some (.string (txt (cmT k))) := fun k hk => by
    have h1 := World.var?_cell gCms hv k
    have hk' : k < ([] :: cmL).length := by simpa [cmL] using hk
    rw [hc] at h1
    have h2 : ((([] :: cmL).map fun z => Value.string (txt z)).toArray)[k]? = some (.string (txt (cmT k))) := by
      rw [List.getElem?_toArray, List.getElem?_map, List.getElem?_eq_getElem hk']
      simp [cmT, List.getD_eq_getElem?_getD, List.getElem?_eq_getElem hk']
    first | exact h1.trans h2 | (rw [h2] at h1; exact h1) | simpa [h2] using h1
  exact ⟨key, World.block_lt_of_cell? W _ (key 0 (by decide))⟩

end Go.Proofs.YtojaohdmfahpmaaGreatDoor
