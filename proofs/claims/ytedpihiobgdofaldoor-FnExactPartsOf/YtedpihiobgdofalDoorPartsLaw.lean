/- The law FnExactPartsOf answers true at every line, where the library's table of blanks holds what its text lays. -/
import Derived.Test.YtedpihiobgdofalDoorPartsI
import Derived.Test.YtedpihiobgdofalDoorHeld
import Derived.WalkKit
namespace Go.Proofs.YtedpihiobgdofalDoor
open Go.RowKit
set_option linter.unusedVariables false

theorem gSpace : Tryd.prog.globalNamed "strings.asciiSpace" = some 0 := by kernel_rfl

theorem PO_len (l : List UInt8) : (partsL (PO l)).length ≤ 10 := by
  unfold PO
  split
  · simp [partsL]
  · split
    · split
      · simpa [partsL] using ‹_›
      · simp [partsL]
    · simp [partsL]

theorem strs_row (ps : List (List UInt8)) : strsV ps = rowS (ps.map fun l => ⟨l.toArray⟩) := by simp [strsV, rowS]

set_option maxRecDepth 100000 in
set_option maxHeartbeats 2000000 in
theorem partsWalk (s : ByteArray) (w : World) (ht : Lib.TabIs Tryd.prog w "strings.asciiSpace" .u8 Lib.asciiSpaceTab) (hz : 0 < w.heap.size) :
    Calls Tryd.prog 3 #[.string s] w fun e w' => e = .returned (.bool true) ∧ Below w.heap.size w w' := by
  by_cases hbig : 1048576 < s.size
  · clear ht
    go_enter Tryd.func3, Tryd.ntmps3
    go_wp2
    go_ret
    exact ⟨rfl, Below.refl _ _⟩
  · have HT : Hid (Lib.TabIs Tryd.prog w "strings.asciiSpace" .u8 Lib.asciiSpaceTab) := ht
    clear ht
    obtain ⟨b, xs, hl, Hs, Hi⟩ : ∃ (b : Bool) (xs : List ByteArray), xs.length ≤ 10 ∧
        Hid (∀ wx : World, Calls Tryd.prog 4 #[.string s] wx fun e w' => ∃ v, e = .returned (.tuple #[v, .bool b]) ∧ w'.ownsRow wx.heap.size 9 1 v xs.length (rowS xs) ∧ Below wx.heap.size wx w') ∧
        Hid (∀ wx : World, Lib.TabIs Tryd.prog wx "strings.asciiSpace" .u8 Lib.asciiSpaceTab → Calls Tryd.prog 5 #[.string s] wx fun e w' => ∃ v, e = .returned (.tuple #[v, .bool b]) ∧ w'.ownsRow wx.heap.size 9 1 v xs.length (rowS xs) ∧ Below wx.heap.size wx w') := by
      refine ⟨(PO s.data.toList).isSome, (partsL (PO s.data.toList)).map fun l => ⟨l.toArray⟩, by simpa using PO_len s.data.toList, fun wx => ?_, fun wx htx => ?_⟩
      · rw [List.length_map, ← strs_row]
        by_cases h : 600 < s.size
        · exact sPO_long s wx h
        · exact sPO_short s wx (by omega)
      · rw [List.length_map, ← strs_row]
        by_cases h : 600 < s.size
        · exact iPO_long s wx h
        · exact iPO_short s wx (by omega) htx
    cases b
    all_goals
      go_enter Tryd.func3, Tryd.ntmps3
      go_wp2_with fail
      refine (Hs.out _).mono ?_
      rintro e w1 ⟨v0, rfl, own0, b0⟩
      go_wp2_with fail
      refine (Hi.out _ (var?_below b0 gSpace hz HT.out)).mono ?_
      rintro e w2 ⟨v1, rfl, own1, b1⟩
      have z1 := b0.size
      have z2 := b1.size
      go_wp2_with fail
      refine (eqS_same xs v1 v0 _ _ _ own1 (own_below own0 b1) (by omega)).mono ?_
      rintro e w3 ⟨rfl, b2⟩
      have z3 := b2.size
      go_wp2_with fail
      refine (markS_any xs.length 1 _ v1 _ _ (own_below own1 b2) (by omega) (by omega) (by omega) (by omega)).mono ?_
      rintro e w4 ⟨rfl, ownM, b3⟩
      have z4 := b3.size
      go_wp2_with fail
      refine (heldS_any xs.length 1 _ v1 _ ownM (by omega) (by omega) (by omega)).mono ?_
      rintro e w5 ⟨rfl, b4⟩
      have z5 := b4.size
      have c1 : Below w1.heap.size w1 w5 := ((b1.trans (b2.mono z2)).trans b3).trans (b4.mono (by omega))
      have c0 : Below w.heap.size w w5 := b0.trans (c1.mono z1)
      go_wp2_with fail
      refine (Hi.out _ (var?_below c0 gSpace hz HT.out)).mono ?_
      rintro e w6 ⟨v2, rfl, own2, b5⟩
      have z6 := b5.size
      have c6 : Below w1.heap.size w1 w6 := c1.trans (b5.mono (by omega))
      go_wp2_with fail
      refine (eqS_same xs v2 v0 _ _ _ own2 (own_below own0 c6) (by omega)).mono ?_
      rintro e w7 ⟨rfl, b6⟩
      have z7 := b6.size
      have d7 : Below w4.heap.size w4 w7 := (b4.trans (b5.mono z5)).trans (b6.mono (by omega))
      go_wp2_with fail
      refine (heldS_any xs.length 1 _ v1 _ (own_below ownM d7) (by omega) (by omega) (by omega)).mono ?_
      rintro e w8 ⟨rfl, b7⟩
      have c8 : Below w.heap.size w w8 := (c0.trans (b5.mono (by omega))).trans ((b6.mono (by omega)).trans (b7.mono (by omega)))
      clear own0 own1 own2 ownM b0 b1 b2 b3 b4 b5 b6 b7 c0 c1 c6 d7
      go_wp2
      go_ret
      exact ⟨rfl, c8⟩

end Go.Proofs.YtedpihiobgdofalDoor
