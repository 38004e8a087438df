/- Two values of eight ints are held against each other: whether all are the same. -/
import Derived.Test.YtfbdbeaijkhbfaaDoorNState
import Derived.ChangeKeysEq
import Derived.Laws.StructEq
namespace Go.Proofs.YtfbdbeaijkhbfaaDoor
open Go.RowKit
set_option linter.unusedVariables false

theorem part_int (l : List Int) (i : Nat) (w : World) (h : i < l.length) : (part 3 (zV l).toArray i).run Tryd.prog w = .ok (.int .i64 (l.getD i 0)) w := by
  have h2 : (zV l).toArray[i]? = some (.int .i64 (l.getD i 0)) := by simp [zV, h]
  simp [part, Tryd.isAgg3, h2]

theorem eqItems_ints (d : Nat) (xs ys : List Int) (w : World) : ∀ is : List Nat, (∀ i ∈ is, i < xs.length ∧ i < ys.length) →
    (Op.eqItems (d + 1) 3 1 (zV xs).toArray (zV ys).toArray is).run Tryd.prog w = .ok (is.all fun i => xs.getD i 0 == ys.getD i 0) w
  | [], _ => by simp [Op.eqItems]
  | i :: is, h => by
    have hi := h i (by simp)
    have ih := eqItems_ints d xs ys w is (fun j hj => h j (by simp [hj]))
    simp only [Op.eqItems, Sem.run_bind, Nat.mul_one, part_int xs i w hi.1, part_int ys i w hi.2, Result.andThen_ok, run_equalIn_int w d 3 .i64 .i64 (xs.getD i 0) (ys.getD i 0) Tryd.underlying3]
    cases hq : (xs.getD i 0 == ys.getD i 0)
    · simp only [Bool.not_false, if_true, Sem.run_pure, List.all_cons, hq, Bool.false_and]
    · simp only [Bool.not_true, Bool.false_eq_true, if_false, List.all_cons, hq, Bool.true_and]
      exact ih

theorem info3 : ∃ i, Tryd.prog.info? 3 = some i := info_of_underlying Tryd.underlying3

theorem cells3 : Tryd.prog.cellsOf 3 = 1 := by kernel_rfl

theorem all8 (xs ys : List Int) (hx : xs.length = 8) (hy : ys.length = 8) : ((List.range 8).all fun i => xs.getD i 0 == ys.getD i 0) = decide (xs = ys) := by
  by_cases h : xs = ys
  · subst h; simp
  · have : ¬ ∀ i, i < 8 → xs.getD i 0 = ys.getD i 0 := fun H => h (List.ext_getElem (by omega) (fun i h1 h2 => by
      have := H i (by omega)
      simpa [List.getD_eq_getElem?_getD, h1, h2] using this))
    rw [decide_eq_false h, Bool.eq_false_iff]
    intro hall
    apply this
    intro i hi
    have := List.all_eq_true.1 hall i (by simpa using hi)
    simpa using this

theorem fields53 : ∃ f : Field, Tryd.prog.fieldsOf 43 = #[f] ∧ Tryd.prog.underlying 43 = some (.struct #[f]) ∧ f.name ≠ "_" ∧ f.type = 41 ∧ f.offset = 0 := by
  refine ⟨_, ?_, Tryd.underlying43, by decide, rfl, rfl⟩
  unfold Program.fieldsOf
  rw [Tryd.underlying43]

theorem stood53 : Tryd.prog.stoodInHeld 43 = false := by kernel_rfl

theorem part_arr (l : List Int) (w : World) (h : l.length = 8) : (part 41 (zV l).toArray 0).run Tryd.prog w = .ok (.agg (zV l).toArray) w := by
  have hs : (zV l).toArray.extract 0 (0 + 8) = (zV l).toArray := by
    apply Array.ext'
    simp only [zV, List.extract_toArray, List.extract_eq_take_drop, List.drop_zero, Nat.zero_add, Nat.sub_zero]
    exact List.take_of_length_le (by simp [h])
  simp only [part, Sem.run_bind, Tryd.isAgg41, Result.andThen_ok, if_true, Tryd.sizeOf41, hs, Sem.run_pure]

theorem eq_nums (xs ys : List Int) (hx : xs.length = 8) (hy : ys.length = 8) (w : World) :
    (Op.equalIn 10000 43 (.agg (zV xs).toArray) (.agg (zV ys).toArray)).run Tryd.prog w = .ok (decide (xs = ys)) w := by
  obtain ⟨i3, hi3⟩ := info3
  obtain ⟨f, hf, hu, hn, ht, ho⟩ := fields53
  have h1 := run_equalIn_agg (P := Tryd.prog) w 9999 43 (zV xs).toArray (zV ys).toArray (by rw [hf]; exact hu) stood53
  have h2 := run_equalIn_array (P := Tryd.prog) w 9998 (zV xs).toArray (zV ys).toArray Tryd.underlying41 hi3
  rw [cells3, eqItems_ints 9997 xs ys w (List.range 8) (fun i hi => by simp at hi; omega), all8 xs ys hx hy] at h2
  rw [show (10000 : Nat) = 9999 + 1 from rfl, h1, hf]
  simp only [Op.eqFields, hn, ne_eq, not_false_eq_true, if_true, Sem.run_bind, ht, ho, part_arr xs w hx, part_arr ys w hy, Result.andThen_ok]
  rw [show (9999 : Nat) = 9998 + 1 from rfl, h2]
  by_cases h : xs = ys
  · simp [h]
  · simp [h]

end Go.Proofs.YtfbdbeaijkhbfaaDoor
