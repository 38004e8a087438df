/- What spec.Sealed, impl.Sealed, spec.Unsealed, impl.Unsealed answer at every text. -/
import Derived.Test.YtjanhiaadjbleaaDoorSumI
import Derived.Test.YtjanhiaadjbleaaDoorShelf
import Derived.Laws.Concat
import Derived.Lib.Strings
import Derived.Deep.RegionHeld3
import Derived.BigQuiet
import Derived.Deep.QuietTactic
import Derived.Laws.Strings
namespace Go.Proofs.YtjanhiaadjbleaaDoor
open Go.RowKit
set_option linter.unusedVariables false

def sumT (t : ByteArray) : Nat := sumL 4294967295 t.data.toList
def fourT (t : ByteArray) : ByteArray := ⟨(four (sumT t)).toArray⟩
def no2 : Value := .tuple #[.string ⟨#[]⟩, .bool false]

theorem sumT_lt (t : ByteArray) : sumT t < 4294967296 := sumL_lt _ _ (by omega)

theorem fourT_size (t : ByteArray) : (fourT t).size = 4 := rfl

theorem clone_any (s : ByteArray) (w : World) (hlim : s.size ≤ 281474976710656) :
    Calls Tryd.prog 24 #[.string s] w fun e w' => e = .returned (.string s) ∧ Below w.heap.size w w' := by
  go_enter Tryd.func24, Tryd.ntmps24
  go_wp2_with fail
  refine (Tryd.stringslite_Clone _ _ hlim).mono ?_
  rintro e w' ⟨rfl, hb⟩
  go_wp2
  go_ret
  exact ⟨rfl, hb⟩

theorem iSealed_out (t : ByteArray) (w : World) (hn : 20000 < t.size) :
    Calls Tryd.prog 11 #[.string t] w fun e w' => e = .returned no2 ∧ Below w.heap.size w w' := by
  go_enter Tryd.func11, Tryd.ntmps11
  go_wp2
  go_ret2
  exact ⟨rfl, Below.refl _ _⟩

theorem sSealed_out (t : ByteArray) (w : World) (hn : 20000 < t.size) :
    Calls Tryd.prog 17 #[.string t] w fun e w' => e = .returned no2 ∧ Below w.heap.size w w' := by
  go_enter Tryd.func17, Tryd.ntmps17
  go_wp2
  go_ret2
  exact ⟨rfl, Below.refl _ _⟩

theorem Tab.drew {w : World} (h : Tab w) : Tab w.drew := h

theorem iSumOf_at (t : ByteArray) (x : Nat) (w : World) (ht : t.size ≤ 1048576) (hT : Tab w) (hx : x = sumT t) :
    Calls Tryd.prog 14 #[.string t] w fun e w' => e = .returned (.int .u32 (x : Int)) ∧ w = w' := by
  subst hx; exact iSumOf_any t w ht hT

theorem sSumOf_at (t : ByteArray) (x : Nat) (w : World) (ht : t.size ≤ 1048576) (hx : x = sumT t) :
    Calls Tryd.prog 16 #[.string t] w fun e w' => e = .returned (.int .u32 (x : Int)) ∧ w = w' := by
  subst hx; exact sSumOf_any t w ht

theorem sumBytes_at (F t : ByteArray) (x : Nat) (w : World) (hx : x = sumT t) (hF : F = fourT t) :
    Calls Tryd.prog 23 #[.int .u32 (x : Int)] w fun e w' => e = .returned (.string F) ∧ Below w.heap.size w w' := by
  subst hx; subst hF; exact sumBytes_any _ w (sumT_lt t)

theorem l02Four_at (F t : ByteArray) (x : Nat) (w : World) (hx : x = sumT t) (hF : F = fourT t) :
    Calls Tryd.prog 26 #[.int .u32 (x : Int)] w fun e w' => e = .returned (.string F) ∧ Below w.heap.size w w' := by
  subst hx; subst hF; exact l02Four_any _ w (sumT_lt t)

theorem iSealed_in (t : ByteArray) (w : World) (hn : t.size ≤ 20000) (hT : Tab w) :
    Calls Tryd.prog 11 #[.string t] w fun e w' => e = .returned (.tuple #[.string (t ++ fourT t), .bool true]) ∧ Below w.heap.size w w' := by
  obtain ⟨x, hx⟩ : ∃ x, x = sumT t := ⟨_, rfl⟩
  obtain ⟨F, hF⟩ : ∃ F, F = fourT t := ⟨_, rfl⟩
  have hadd := fun wx => run_string_add_sum (P := Tryd.prog) wx t F (by rw [hF, fourT_size]; omega)
  have HT : Hid (Tab w ∧ x = sumT t ∧ F = fourT t) := ⟨hT, hx, hF⟩
  rw [← hF]
  clear hT hx hF
  go_enter Tryd.func11, Tryd.ntmps11
  go_wp2_with fail
  refine (iSumOf_at t x _ (by omega) HT.out.1 HT.out.2.1).mono ?_
  rintro e w' ⟨rfl, rfl⟩
  go_wp2_with fail
  refine (sumBytes_at F t x _ HT.out.2.1 HT.out.2.2).mono ?_
  rintro e w' ⟨rfl, hb⟩
  go_wp2
  go_ret2
  exact ⟨rfl, hb⟩

theorem sSealed_in (t : ByteArray) (w : World) (hn : t.size ≤ 20000) :
    Calls Tryd.prog 17 #[.string t] w fun e w' => e = .returned (.tuple #[.string (t ++ fourT t), .bool true]) ∧ Below w.heap.size w w' := by
  obtain ⟨x, hx⟩ : ∃ x, x = sumT t := ⟨_, rfl⟩
  obtain ⟨F, hF⟩ : ∃ F, F = fourT t := ⟨_, rfl⟩
  have hadd := fun wx => run_string_add_sum (P := Tryd.prog) wx t F (by rw [hF, fourT_size]; omega)
  have HT : Hid (x = sumT t ∧ F = fourT t) := ⟨hx, hF⟩
  rw [← hF]
  clear hx hF
  go_enter Tryd.func17, Tryd.ntmps17
  go_wp2_with fail
  refine (sSumOf_at t x _ (by omega) HT.out.1).mono ?_
  rintro e w' ⟨rfl, rfl⟩
  go_wp2_with fail
  refine (l02Four_at F t x _ HT.out.1 HT.out.2).mono ?_
  rintro e w' ⟨rfl, hb⟩
  go_wp2
  go_ret2
  exact ⟨rfl, hb⟩

theorem iUnsealed_out (t : ByteArray) (w : World) (hs : t.size ≤ 1048576) (hn : t.size < 4 ∨ 20004 < t.size) :
    Calls Tryd.prog 12 #[.string t] w fun e w' => e = .returned no2 ∧ Below w.heap.size w w' := by
  by_cases h4 : t.size < 4
  · have d1 : decide ((t.size : Int) - 4 < 0) = true := by simp; omega
    go_enter Tryd.func12, Tryd.ntmps12
    go_wp2
    go_ret2
    exact ⟨rfl, Below.refl _ _⟩
  · have d1 : decide ((t.size : Int) - 4 < 0) = false := by simp; omega
    have d2 : decide ((20000 : Int) < (t.size : Int) - 4) = true := by simp; omega
    go_enter Tryd.func12, Tryd.ntmps12
    go_wp2
    go_ret2
    exact ⟨rfl, Below.refl _ _⟩

theorem toList_ne {B F : ByteArray} (h : ¬ B = F) : (B.toList == F.toList) = false := by
  rw [beq_eq_false_iff_ne]
  intro e
  rw [ByteArray.toList_eq, ByteArray.toList_eq] at e
  exact h (ByteArray.ext (Array.toList_inj.1 e))

set_option maxHeartbeats 1000000 in
theorem iUnsealed_in (t A B F : ByteArray) (n x : Nat) (w : World) (hs : t.size = n + 4) (hn : n ≤ 20000) (hT : Tab w) (hA : A = t.extract 0 n) (hB : B = t.extract n (n + 4)) (hx : x = sumT A) (hF : F = fourT A) :
    Calls Tryd.prog 12 #[.string t] w fun e w' => e = .returned (if B = F then .tuple #[.string A, .bool true] else no2) ∧ Below w.heap.size w w' := by
  have hAs : A.size = n := by rw [hA]; simp; omega
  have HT : Hid (Tab w ∧ x = sumT A ∧ F = fourT A) := ⟨hT, hx, hF⟩
  have eA := hA.symm
  have eB := hB.symm
  have eB2 : t.extract n t.size = B := by rw [hs]; exact eB
  clear hT hA hB hx hF
  have d1 : decide ((t.size : Int) - 4 < 0) = false := by simp; omega
  have d2 : decide ((20000 : Int) < (t.size : Int) - 4) = false := by simp; omega
  have e1 : (t.size : Int) - 4 = (n : Int) := by omega
  have b0 : (0 : Int) ≤ (n : Int) := by omega
  have b1 : (n : Int) ≤ (t.size : Int) := by omega
  have b2 : (t.size : Int) ≤ 20004 := by omega
  clear hs
  by_cases hE : B = F
  · rw [if_pos hE]
    go_enter Tryd.func12, Tryd.ntmps12
    go_wp2
    go_region_held3 (fun _ => True) (trivial) (first | (go_at_call 14; refine (iSumOf_at A x _ (by omega) (Tab.drew HT.out.1) HT.out.2.1).mono ?_; rintro e w2 ⟨rfl, rfl⟩) | (go_at_call 23; refine (sumBytes_at F A x _ HT.out.2.1 HT.out.2.2).mono ?_; rintro e w3 ⟨rfl, hb⟩))
    have hb' : Below w.heap.size w w3 := ((Below.refl w.heap.size w).drew).trans hb
    clear hb
    go_wp2_with fail
    refine (clone_any A _ (by omega)).mono ?_
    rintro e w4 ⟨rfl, hb4⟩
    go_wp2
    go_ret2
    exact ⟨rfl, hb'.trans (hb4.mono hb'.size)⟩
  · have q := toList_ne hE
    rw [if_neg hE]
    go_enter Tryd.func12, Tryd.ntmps12
    go_wp2
    go_region_held3 (fun _ => True) (trivial) (first | (go_at_call 14; refine (iSumOf_at A x _ (by omega) (Tab.drew HT.out.1) HT.out.2.1).mono ?_; rintro e w2 ⟨rfl, rfl⟩) | (go_at_call 23; refine (sumBytes_at F A x _ HT.out.2.1 HT.out.2.2).mono ?_; rintro e w3 ⟨rfl, hb⟩))
    have hb' : Below w.heap.size w w3 := ((Below.refl w.heap.size w).drew).trans hb
    clear hb
    go_wp2
    go_ret2
    exact ⟨rfl, hb'⟩

theorem sUnsealed_out (t : ByteArray) (w : World) (hs : t.size ≤ 1048576) (hn : t.size < 4 ∨ 20004 < t.size) :
    Calls Tryd.prog 18 #[.string t] w fun e w' => e = .returned no2 ∧ Below w.heap.size w w' := by
  by_cases h4 : t.size < 4
  · have d1 : decide ((t.size : Int) - 4 < 0) = true := by simp; omega
    go_enter Tryd.func18, Tryd.ntmps18
    go_wp2
    go_quiet (fail)
    go_wp2
    go_ret2
    exact ⟨rfl, below_drewN (Below.refl _ _) _⟩
  · have d1 : decide ((t.size : Int) - 4 < 0) = false := by simp; omega
    have d2 : decide ((20000 : Int) < (t.size : Int) - 4) = true := by simp; omega
    go_enter Tryd.func18, Tryd.ntmps18
    go_wp2
    go_quiet (fail)
    go_wp2
    go_ret2
    exact ⟨rfl, below_drewN (Below.refl _ _) _⟩

set_option maxHeartbeats 1000000 in
theorem sUnsealed_in (t A B F : ByteArray) (n x : Nat) (w : World) (hs : t.size = n + 4) (hn : n ≤ 20000) (hA : A = t.extract 0 n) (hB : B = t.extract n (n + 4)) (hx : x = sumT A) (hF : F = fourT A) :
    Calls Tryd.prog 18 #[.string t] w fun e w' => e = .returned (if B = F then .tuple #[.string A, .bool true] else no2) ∧ Below w.heap.size w w' := by
  have hAs : A.size = n := by rw [hA]; simp; omega
  have HT : Hid (x = sumT A ∧ F = fourT A) := ⟨hx, hF⟩
  have eA := hA.symm
  have eB := hB.symm
  have eB2 : t.extract n t.size = B := by rw [hs]; exact eB
  clear hA hB hx hF
  have d1 : decide ((n : Int) < 0) = false := by simp
  have d2 : decide ((20000 : Int) < (n : Int)) = false := by simp; omega
  have e1 : (t.size : Int) - 4 = (n : Int) := by omega
  have b0 : (0 : Int) ≤ (n : Int) := by omega
  have b1 : (n : Int) ≤ (t.size : Int) := by omega
  have b2 : (t.size : Int) ≤ 20004 := by omega
  clear hs
  by_cases hE : B = F
  · rw [if_pos hE]
    go_enter Tryd.func18, Tryd.ntmps18
    go_wp2
    go_region_held3 (fun _ => True) (trivial) (first | (go_at_call 16; refine (sSumOf_at A x _ (by omega) HT.out.1).mono ?_; rintro e w2 ⟨rfl, rfl⟩) | (go_at_call 26; refine (l02Four_at F A x _ HT.out.1 HT.out.2).mono ?_; rintro e w3 ⟨rfl, hb⟩))
    have hb' : Below w.heap.size w w3 := ((Below.refl w.heap.size w).drew).trans hb
    clear hb
    go_wp2
    go_ret2
    exact ⟨rfl, hb'⟩
  · have q := toList_ne hE
    rw [if_neg hE]
    go_enter Tryd.func18, Tryd.ntmps18
    go_wp2
    go_region_held3 (fun _ => True) (trivial) (first | (go_at_call 16; refine (sSumOf_at A x _ (by omega) HT.out.1).mono ?_; rintro e w2 ⟨rfl, rfl⟩) | (go_at_call 26; refine (l02Four_at F A x _ HT.out.1 HT.out.2).mono ?_; rintro e w3 ⟨rfl, hb⟩))
    have hb' : Below w.heap.size w w3 := ((Below.refl w.heap.size w).drew).trans hb
    clear hb
    go_wp2
    go_ret2
    exact ⟨rfl, hb'⟩

end Go.Proofs.YtjanhiaadjbleaaDoor
