/- What spec.ReadShort and impl.ReadShort answer, by what their ReadVar answers: the text of that length behind the number, else nothing and false. -/
import Derived.Test.YtedpihiobgdofaaDoorRVar
import Derived.Test.YtedpihiobgdofaaDoorShelf
import Derived.WalkKit
import Derived.WalkSpells
namespace Go.Proofs.YtedpihiobgdofaaDoor
open Go.RowKit
set_option linter.unusedVariables false

def no3s : Value := .tuple #[.string ⟨#[]⟩, .int .i64 0, .bool false]

theorem iRS_no (s : ByteArray) (a : Int) (w : World) (hRV : Hid (∀ wx : World, Calls Tryd.prog 7 #[.string s, .int .i64 a] wx fun e w' => e = .returned no3 ∧ Below wx.heap.size wx w')) :
    Calls Tryd.prog 12 #[.string s, .int .i64 a] w fun e w' => e = .returned no3s ∧ Below w.heap.size w w' := by
  go_enter Tryd.func12, Tryd.ntmps12
  go_wp2_with fail
  refine (hRV.out _).mono ?_
  rintro e w' ⟨rfl, hb⟩
  unfold no3
  go_wp2
  go_ret3
  exact ⟨rfl, hb⟩

set_option maxHeartbeats 800000 in
theorem iRS_bad (s : ByteArray) (a : Int) (x y : Nat) (w : World) (hs : s.size ≤ 1048576) (hx : x ≤ 1000000000) (hy : y ≤ s.size) (hbad : 20000 < x ∨ s.size < y + x)
    (hRV : Hid (∀ wx : World, Calls Tryd.prog 7 #[.string s, .int .i64 a] wx fun e w' => e = .returned (.tuple #[.int .i64 (x : Int), .int .i64 (y : Int), .bool true]) ∧ Below wx.heap.size wx w')) :
    Calls Tryd.prog 12 #[.string s, .int .i64 a] w fun e w' => e = .returned no3s ∧ Below w.heap.size w w' := by
  by_cases h1 : 20000 < x
  · go_enter Tryd.func12, Tryd.ntmps12
    go_wp2_with fail
    refine (hRV.out _).mono ?_
    rintro e w' ⟨rfl, hb⟩
    go_wp2
    go_ret3
    exact ⟨rfl, hb⟩
  · have h2 : s.size < y + x := by omega
    have d1 : decide ((20000 : Int) < (x : Int)) = false := by simp; omega
    go_enter Tryd.func12, Tryd.ntmps12
    go_wp2_with fail
    refine (hRV.out _).mono ?_
    rintro e w' ⟨rfl, hb⟩
    go_wp2
    go_ret3
    exact ⟨rfl, hb⟩

theorem clone_any (s : ByteArray) (w : World) (hlim : s.size ≤ 281474976710656) :
    Calls Tryd.prog 23 #[.string s] w fun e w' => e = .returned (.string s) ∧ Below w.heap.size w w' := by
  go_enter Tryd.func23, Tryd.ntmps23
  go_wp2_with fail
  refine (Tryd.stringslite_Clone _ _ hlim).mono ?_
  rintro e w' ⟨rfl, hb⟩
  go_wp2
  go_ret
  exact ⟨rfl, hb⟩

set_option maxHeartbeats 800000 in
theorem iRS_ok (s : ByteArray) (a : Int) (x y : Nat) (w : World) (hs : s.size ≤ 1048576) (hx : x ≤ 20000) (hy : y + x ≤ s.size)
    (hRV : Hid (∀ wx : World, Calls Tryd.prog 7 #[.string s, .int .i64 a] wx fun e w' => e = .returned (.tuple #[.int .i64 (x : Int), .int .i64 (y : Int), .bool true]) ∧ Below wx.heap.size wx w')) :
    Calls Tryd.prog 12 #[.string s, .int .i64 a] w fun e w' => e = .returned (.tuple #[.string (s.extract y (y + x)), .int .i64 ((y : Int) + (x : Int)), .bool true]) ∧ Below w.heap.size w w' := by
  have d1 : decide ((20000 : Int) < (x : Int)) = false := by simp; omega
  go_enter Tryd.func12, Tryd.ntmps12
  go_wp2_with fail
  refine (hRV.out _).mono ?_
  rintro e w' ⟨rfl, hb⟩
  go_wp2_with fail
  refine (clone_any _ _ (by simp; omega)).mono ?_
  rintro e w2 ⟨rfl, hb2⟩
  go_wp2
  go_ret3
  exact ⟨rfl, hb.trans (hb2.mono hb.size)⟩

end Go.Proofs.YtedpihiobgdofaaDoor
