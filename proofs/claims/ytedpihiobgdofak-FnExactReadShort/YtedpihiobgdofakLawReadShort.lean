/- Proved: at every text and place the law FnExactReadShort answers true, so impl.ReadShort answers as spec.ReadShort; no condition. -/
import Derived.Test.YtedpihiobgdofakRShort
import Derived.WalkKit
import Derived.ProofKit
import Derived.OpenShut
import Derived.ShutString
import Derived.ChangeOld
import Derived.Below
namespace Go.Proofs.Ytedpihiobgdofak.ReadShort
open Go.ChangeShapes Go.WideShapes Go.ChangeAt Go.RowKit
open Go.ChangeMaps (open_string shut_string)
set_option linter.unusedVariables false

theorem own : ownKnob Try.prog.godebug = none := by kernel_rfl

theorem both (s : ByteArray) (a : Int) (w : World) (hs : s.size ≤ 1048576) : ∃ v : Value, (v = no3s ∨ ∃ (t : ByteArray) (y : Int), v = .tuple #[.string t, .int .i64 y, .bool true]) ∧
    (∀ wx : World, Calls Try.prog 12 #[.string s, .int .i64 a] wx fun e w' => e = .returned v ∧ Below wx.heap.size wx w') ∧
    (∀ wx : World, Calls Try.prog 13 #[.string s, .int .i64 a] wx fun e w' => e = .returned v ∧ Below wx.heap.size wx w') := by
  by_cases ha : a < 0 ∨ (s.size : Int) < a
  · exact ⟨no3s, Or.inl rfl, fun wx => sRS_no s a wx (fun wy => sRV_out s a wy ha), fun wx => iRS_no s a wx (fun wy => iRV_out s a wy ha)⟩
  · obtain ⟨n, rfl⟩ := Int.eq_ofNat_of_zero_le (show 0 ≤ a by omega)
    have hle : n ≤ s.size := by omega
    rcases RVv_form2 (s.data.toList.drop n) n with hf | ⟨x, y, hf, h1, h2, h3⟩
    · refine ⟨no3s, Or.inl rfl, fun wx => sRS_no s n wx (fun wy => ?_), fun wx => iRS_no s n wx (fun wy => ?_)⟩
      · rw [← hf]; exact sRV_in s n wy hs hle
      · rw [← hf]; exact iRV_in s n wy hs hle
    · have hy : y ≤ s.size := by
        have : (s.data.toList.drop n).length = s.size - n := by simp
        omega
      by_cases hbad : 20000 < x ∨ s.size < y + x
      · refine ⟨no3s, Or.inl rfl, fun wx => sRS_bad s n x y wx hs h1 hy hbad (fun wy => ?_), fun wx => iRS_bad s n x y wx hs h1 hy hbad (fun wy => ?_)⟩
        · rw [← hf]; exact sRV_in s n wy hs hle
        · rw [← hf]; exact iRV_in s n wy hs hle
      · refine ⟨_, Or.inr ⟨_, _, rfl⟩, fun wx => sRS_ok s n x y wx hs (by omega) (by omega) (fun wy => ?_), fun wx => iRS_ok s n x y wx hs (by omega) (by omega) (fun wy => ?_)⟩
        · rw [← hf]; exact sRV_in s n wy hs hle
        · rw [← hf]; exact iRV_in s n wy hs hle

theorem walk (s : ByteArray) (a : Int) (w : World) :
    Calls Try.prog 5 #[.string s, .int .i64 a] w fun e w' => e = .returned (.bool true) ∧ Below w.heap.size w w' := by
  by_cases hbig : 1048576 < s.size
  · go_enter Try.func5, Try.ntmps5
    go_wp2
    go_ret
    exact ⟨rfl, Below.refl _ _⟩
  · obtain ⟨v, hv, hs, hi⟩ := both s a w (by omega)
    have Hs : Hid (∀ wx, Calls Try.prog 12 _ wx _) := hs
    have Hi : Hid (∀ wx, Calls Try.prog 13 _ wx _) := hi
    clear hs hi
    rcases hv with rfl | ⟨t, y, rfl⟩
    · go_enter Try.func5, Try.ntmps5
      go_wp2_with fail
      refine (Hs.out _).mono ?_
      rintro e w1 ⟨rfl, hb⟩
      unfold no3s
      go_wp2_with fail
      refine (Hi.out _).mono ?_
      rintro e w2 ⟨rfl, hb2⟩
      unfold no3s
      go_wp2
      go_ret
      exact ⟨rfl, hb.trans (hb2.mono hb.size)⟩
    · go_enter Try.func5, Try.ntmps5
      go_wp2_with fail
      refine (Hs.out _).mono ?_
      rintro e w1 ⟨rfl, hb⟩
      go_wp2_with fail
      refine (Hi.out _).mono ?_
      rintro e w2 ⟨rfl, hb2⟩
      go_wp2
      go_ret
      exact ⟨rfl, hb.trans (hb2.mono hb.size)⟩

set_option maxRecDepth 100000 in
theorem lifted (os : Os) (started : os.Started) (H : Type) (enc : TypeId × Value → H) :
    ReturnsInHanded {} Try.checked os 5 .any (Rows.fnExactReadShortSpec.pre6 enc Try.prog Try.f5 Rows.fnExactReadShortRow.domain false) (Rows.fnExactReadShortSpec.post enc Try.prog Try.f5 false true false false) := by
  refine returnsInHanded_of_change (C := Try.checked) own started (by kernel_rfl) Try.func5
    (ChangeSpec.witness6 (enc := enc) (C := Try.checked) false ⟨#[], #[.string ⟨#[]⟩, .int .i64 0], []⟩ 8 (by kernel_rfl) (by kernel_rfl) (by kernel_rfl) (by kernel_rfl)) ?_
  intro W base args ds gs before hval0 hW hcnd _
  have hval : ∀ (j : Nat) t v, Try.f5.params[j]? = some t → args[j]? = some v → Value.okWide Try.prog W .any base t v := hval0
  have hW' := hW
  obtain ⟨p, q, hA0, hV, rfl, hfz, hnd⟩ := hW
  have hA : DataW.TrodAll enc Try.prog W 0 (fun _ => true) true Try.f5.params.toList args.toList ds p := hA0
  rw [Try.params5] at hA hval
  obtain ⟨v0, vs0, d0, ds0, p0, q0, hargs, rfl, rfl, h0, r0⟩ := trodAll_cons hA
  obtain ⟨v1, vs1, d1, ds1, p1, q1, rfl, rfl, rfl, h1, r1⟩ := trodAll_cons r0
  obtain ⟨rfl, rfl, rfl⟩ := trodAll_nil r1
  obtain rfl : args = #[v0, v1] := by cases args; simp_all
  obtain ⟨rfl, rfl⟩ := trodVars_none hV
  obtain ⟨s0, rfl, rfl, rfl, w0⟩ := open_string Try.underlying9 (hval 0 9 v0 rfl rfl) h0
  obtain ⟨s1, rfl, rfl, rfl, w1⟩ := open_int Try.underlying3 (hval 1 3 v1 rfl rfl) h1
  clear hA0 hval0
  refine (walk s0 s1 W).mono fun e W' ⟨he, bel⟩ => ?_
  subst he
  exact ⟨_, rfl, _, _, _, [], _, [], hW', trodAll_mk1 (shut_bool Try.underlying4 _), (trodAll_cons_mk (shut_string Try.underlying9 w0) (trodAll_cons_mk (shut_int Try.underlying3 w1) trodAll_mk0)), rfl, bel.frame _, fun h => by cases h⟩

end Go.Proofs.Ytedpihiobgdofak.ReadShort
namespace Go.Proofs.Ytedpihiobgdofak
open Go.ChangeShapes Go.WideShapes Go.ChangeAt Go.RowKit

theorem readShort_holds : Rows.FnExactReadShortSaid :=
  OpenClaim.holds_of_wide 5 Try.f5 rfl rfl rfl rfl rfl rfl rfl ⟨rfl, rfl, rfl, rfl, rfl⟩ rfl rfl rfl rfl rfl (by kernel_rfl) Try.func5 (by kernel_rfl)
    (of_decide_eq_true (by kernel_rfl)) (by unfold Func.isWrapper; first | (rw [if_pos (by decide +kernel)]; kernel_rfl) | (rw [if_neg (by decide +kernel)]; exact ⟨rfl, rfl⟩))
    (fun os started H enc _ => ReadShort.lifted os started H enc)
#print axioms readShort_holds
end Go.Proofs.Ytedpihiobgdofak
