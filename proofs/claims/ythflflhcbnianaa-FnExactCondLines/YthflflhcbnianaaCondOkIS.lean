/- What impl's and spec's CondOk and CondHolds answer, of any condition and any call. -/
import Derived.Test.YthflflhcbnianaaPolMath
import Derived.Test.YthflflhcbnianaaWideSl
import Derived.Test.YthflflhcbnianaaBoxes
import Derived.Handy
namespace Go.Proofs.Ythflflhcbnianaa
open Go.RowKit
set_option linter.unusedVariables false

theorem CellsAt.set {W : World} {k : Nat} {l : List Value} (h : CellsAt W k l) {g : Nat} (hg : g ≠ k) (j : Nat) (v : Value) : CellsAt (W.setCell ⟨g, j, none⟩ v) k l :=
  ⟨by rw [World.size_setCell]; exact h.1, fun i x hx => by rw [World.cell?_setCell_other _ _ _ _ (fun e => hg (by injection e))]; exact h.2 i x hx⟩

theorem condB_if (a mh ml cm vh vl : Int) : condB ⟨a, mh, ml, cm, vh, vl⟩ = (inB4 a 0 2 && inB4 cm 1 6 && wideB (mh, ml) && wideB (vh, vl)) := rfl

set_option maxRecDepth 100000 in
set_option maxHeartbeats 1600000 in
theorem iCondOk_any (a mh ml cm vh vl : Int) (w : World) : Calls Try.prog 22 #[.agg #[.int .i64 a, .int .i64 mh, .int .i64 ml, .int .i64 cm, .int .i64 vh, .int .i64 vl]] w fun e w' => e = .returned (.bool (condB ⟨a, mh, ml, cm, vh, vl⟩)) ∧ Ext w w' := by
  have HB : Hid (condB ⟨a, mh, ml, cm, vh, vl⟩ = (inB4 a 0 2 && inB4 cm 1 6 && wideB (mh, ml) && wideB (vh, vl))) := rfl
  have HE : Hid (∀ o, Ext w (w.alloc o)) := fun o => Ext.one w o
  by_cases h0 : 0 ≤ a
  · by_cases h1 : a ≤ 2
    · by_cases h2 : 1 ≤ cm
      · by_cases h3 : cm ≤ 6
        · have HI : Hid (inB4 a 0 2 = true ∧ inB4 cm 1 6 = true) := ⟨inB_true4.2 ⟨h0, h1⟩, inB_true4.2 ⟨h2, h3⟩⟩
          go_enter Try.func22, Try.ntmps22
          go_wp2_with fail
          refine (iWide_any mh ml _).mono ?_
          rintro e w1 ⟨rfl, x1⟩
          have c1 := (CellsAt.new w [.int .i64 a, .int .i64 mh, .int .i64 ml, .int .i64 cm, .int .i64 vh, .int .i64 vl] 30).step x1
          have q4 := c1.2 4 _ rfl
          have q5 := c1.2 5 _ rfl
          have X1 : Hid (Ext w w1) := (HE.out _).trans x1
          clear x1 c1
          cases hw : wideB (mh, ml)
          · go_wp2
            go_ret
            exact ⟨by rw [HB.out, hw]; simp, X1.out⟩
          · go_wp2_with fail
            refine (iWide_any vh vl _).mono ?_
            rintro e w2 ⟨rfl, x2⟩
            have X2 : Hid (Ext w w2) := X1.out.trans x2
            clear x2 q4 q5
            go_wp2
            go_ret
            exact ⟨by rw [HB.out, hw, HI.out.1, HI.out.2]; simp, X2.out⟩
        · have HI : Hid (inB4 cm 1 6 = false) := inB_false4.2 (by omega)
          go_enter Try.func22, Try.ntmps22
          go_wp2
          go_ret
          exact ⟨by rw [HB.out, HI.out]; simp, HE.out _⟩
      · have HI : Hid (inB4 cm 1 6 = false) := inB_false4.2 (by omega)
        have h2' : cm < 1 := by omega
        go_enter Try.func22, Try.ntmps22
        go_wp2
        go_ret
        exact ⟨by rw [HB.out, HI.out]; simp, HE.out _⟩
    · have HI : Hid (inB4 a 0 2 = false) := inB_false4.2 (by omega)
      have h2' : 3 ≤ a := by omega
      go_enter Try.func22, Try.ntmps22
      go_wp2
      go_ret
      exact ⟨by rw [HB.out, HI.out]; simp, HE.out _⟩
  · have HI : Hid (inB4 a 0 2 = false) := inB_false4.2 (by omega)
    have h2' : a < 0 := by omega
    go_enter Try.func22, Try.ntmps22
    go_wp2
    go_ret
    exact ⟨by rw [HB.out, HI.out]; simp, HE.out _⟩

set_option maxRecDepth 100000 in
set_option maxHeartbeats 1600000 in
theorem sCondOk_any (a mh ml cm vh vl : Int) (w : World) : Calls Try.prog 10 #[.agg #[.int .i64 a, .int .i64 mh, .int .i64 ml, .int .i64 cm, .int .i64 vh, .int .i64 vl]] w fun e w' => e = .returned (.bool (condB ⟨a, mh, ml, cm, vh, vl⟩)) ∧ Ext w w' := by
  have HB : Hid (condB ⟨a, mh, ml, cm, vh, vl⟩ = (inB4 a 0 2 && inB4 cm 1 6 && wideB (mh, ml) && wideB (vh, vl))) := rfl
  have HE : Hid (∀ o, Ext w (w.alloc o)) := fun o => Ext.one w o
  cases h0 : inB4 a 0 2
  · go_enter Try.func10, Try.ntmps10
    go_wp2_with (go_at_call 18; refine (in4_any _ _ _ _).mono ?_; rintro e w' ⟨rfl, rfl⟩)
    go_ret
    exact ⟨by rw [HB.out, h0]; simp, HE.out _⟩
  · go_enter Try.func10, Try.ntmps10
    go_wp2_with (go_at_call 18; refine (in4_any _ _ _ _).mono ?_; rintro e w' ⟨rfl, rfl⟩)
    refine (sWide_any mh ml _).mono ?_
    rintro e w1 ⟨rfl, x1⟩
    have c1 := (CellsAt.new w [.int .i64 a, .int .i64 mh, .int .i64 ml, .int .i64 cm, .int .i64 vh, .int .i64 vl] 30).step x1
    have q4 := c1.2 4 _ rfl
    have q5 := c1.2 5 _ rfl
    have X1 : Hid (Ext w w1) := (HE.out _).trans x1
    clear x1
    cases hw : wideB (mh, ml)
    · go_wp2
      go_ret
      exact ⟨by rw [HB.out, hw]; simp, X1.out⟩
    · go_wp2_with fail
      refine (sWide_any vh vl _).mono ?_
      rintro e w2 ⟨rfl, x2⟩
      have X2 : Hid (Ext w w2) := X1.out.trans x2
      have q3 := (c1.step x2).2 3 _ rfl
      clear x2 q4 q5 c1
      cases hv : wideB (vh, vl)
      · go_wp2
        go_ret
        exact ⟨by rw [HB.out, hv]; simp, X2.out⟩
      · go_wp2_with (go_at_call 18; refine (in4_any _ _ _ _).mono ?_; rintro e w' ⟨rfl, rfl⟩)
        go_ret
        exact ⟨by rw [HB.out, h0, hw, hv]; simp, X2.out⟩

end Go.Proofs.Ythflflhcbnianaa
