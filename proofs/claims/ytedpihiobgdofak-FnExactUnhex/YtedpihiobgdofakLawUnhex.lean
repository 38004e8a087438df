/- Proved: at every text the law FnExactUnhex answers true, so impl.Unhex answers as spec.Unhex; no condition. -/
import Derived.Test.YtedpihiobgdofakUnhexS
import Derived.Test.YtedpihiobgdofakUnhexI
import Derived.WalkKit
import Derived.ProofKit
import Derived.OpenShut
import Derived.ShutString
import Derived.ChangeOld
import Derived.Below
namespace Go.Proofs.Ytedpihiobgdofak.Unhex
open Go.ChangeShapes Go.WideShapes Go.ChangeAt Go.RowKit
open Go.ChangeMaps (open_string shut_string)
set_option linter.unusedVariables false

theorem own : ownKnob Try.prog.godebug = none := by kernel_rfl

theorem walk (s : ByteArray) (w : World) :
    Calls Try.prog 7 #[.string s] w fun e w' => e = .returned (.bool true) ∧ Below w.heap.size w w' := by
  by_cases hbig : 1048576 < s.size
  · go_enter Try.func7, Try.ntmps7
    go_wp2
    go_ret
    exact ⟨rfl, Below.refl _ _⟩
  · obtain ⟨v, hs, hi⟩ : ∃ v : Option (List UInt8), (∀ wx : World, Calls Try.prog 16 #[.string s] wx fun e w' => e = .returned (unV v) ∧ Below wx.heap.size wx w') ∧
        (∀ wx : World, Calls Try.prog 17 #[.string s] wx fun e w' => e = .returned (unV v) ∧ Below wx.heap.size wx w') := by
      by_cases hn : 40000 < s.size ∨ ¬ s.size % 2 = 0
      · exact ⟨none, fun wx => sUnhex_out s wx hn (by omega), fun wx => iUnhex_out s wx hn (by omega)⟩
      · exact ⟨_, fun wx => sUnhex_in s wx (by omega) (by omega), fun wx => iUnhex_in s wx (by omega) (by omega)⟩
    have Hs : Hid (∀ wx, Calls Try.prog 16 _ wx _) := hs
    have Hi : Hid (∀ wx, Calls Try.prog 17 _ wx _) := hi
    clear hs hi
    cases v
    all_goals
      go_enter Try.func7, Try.ntmps7
      go_wp2_with fail
      refine (Hs.out _).mono ?_
      rintro e w1 ⟨rfl, hb⟩
      unfold unV
      go_wp2_with fail
      refine (Hi.out _).mono ?_
      rintro e w2 ⟨rfl, hb2⟩
      unfold unV
      go_wp2
      go_ret
      exact ⟨rfl, hb.trans (hb2.mono hb.size)⟩

set_option maxRecDepth 100000 in
theorem lifted (os : Os) (started : os.Started) (H : Type) (enc : TypeId × Value → H) :
    ReturnsInHanded {} Try.checked os 7 .any (Rows.fnExactUnhexSpec.pre6 enc Try.prog Try.f7 Rows.fnExactUnhexRow.domain false) (Rows.fnExactUnhexSpec.post enc Try.prog Try.f7 false true false false) := by
  refine returnsInHanded_of_change (C := Try.checked) own started (by kernel_rfl) Try.func7
    (ChangeSpec.witness6 (enc := enc) (C := Try.checked) false ⟨#[], #[.string ⟨#[]⟩], []⟩ 8 (by kernel_rfl) (by kernel_rfl) (by kernel_rfl) (by kernel_rfl)) ?_
  intro W base args ds gs before hval0 hW hcnd _
  have hval : ∀ (j : Nat) t v, Try.f7.params[j]? = some t → args[j]? = some v → Value.okWide Try.prog W .any base t v := hval0
  have hW' := hW
  obtain ⟨p, q, hA0, hV, rfl, hfz, hnd⟩ := hW
  have hA : DataW.TrodAll enc Try.prog W 0 (fun _ => true) true Try.f7.params.toList args.toList ds p := hA0
  rw [Try.params7] at hA hval
  obtain ⟨v0, vs0, d0, ds0, p0, q0, hargs, rfl, rfl, h0, r0⟩ := trodAll_cons hA
  obtain ⟨rfl, rfl, rfl⟩ := trodAll_nil r0
  obtain rfl : args = #[v0] := by cases args; simp_all
  obtain ⟨rfl, rfl⟩ := trodVars_none hV
  obtain ⟨s0, rfl, rfl, rfl, w0⟩ := open_string Try.underlying9 (hval 0 9 v0 rfl rfl) h0
  clear hA0 hval0
  refine (walk s0 W).mono fun e W' ⟨he, bel⟩ => ?_
  subst he
  exact ⟨_, rfl, _, _, _, [], _, [], hW', trodAll_mk1 (shut_bool Try.underlying4 _), (trodAll_cons_mk (shut_string Try.underlying9 w0) trodAll_mk0), rfl, bel.frame _, fun h => by cases h⟩

end Go.Proofs.Ytedpihiobgdofak.Unhex
namespace Go.Proofs.Ytedpihiobgdofak
open Go.ChangeShapes Go.WideShapes Go.ChangeAt Go.RowKit

theorem unhex_holds : Rows.FnExactUnhexSaid :=
  OpenClaim.holds_of_wide 7 Try.f7 rfl rfl rfl rfl rfl rfl rfl ⟨rfl, rfl, rfl, rfl, rfl⟩ rfl rfl rfl rfl rfl (by kernel_rfl) Try.func7 (by kernel_rfl)
    (of_decide_eq_true (by kernel_rfl)) (by unfold Func.isWrapper; first | (rw [if_pos (by decide +kernel)]; kernel_rfl) | (rw [if_neg (by decide +kernel)]; exact ⟨rfl, rfl⟩))
    (fun os started H enc _ => Unhex.lifted os started H enc)
#print axioms unhex_holds
end Go.Proofs.Ytedpihiobgdofak
