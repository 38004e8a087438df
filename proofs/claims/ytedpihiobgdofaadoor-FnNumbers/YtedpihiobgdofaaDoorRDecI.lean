/- What impl.ReadDecimal answers at every text. -/
import Derived.Test.YtedpihiobgdofaaDoorDecMath
import Derived.Test.YtedpihiobgdofaaDoorNumIn
import Derived.WalkKit
import Derived.WalkSpells
namespace Go.Proofs.YtedpihiobgdofaaDoor
open Go.RowKit
set_option linter.unusedVariables false

theorem head_of (s : ByteArray) (h : 0 < s.size) : s.data.toList.head? = some s[0] := by
  rw [List.head?_eq_getElem?, List.getElem?_eq_getElem (by simpa using h)]
  rfl

set_option maxRecDepth 100000 in
set_option maxHeartbeats 1000000 in
theorem iRD_any (s : ByteArray) (w : World) (hs : s.size ≤ 1048576) : Calls Tryd.prog 8 #[.string s] w fun e w' => e = .returned (numV (RD s.data.toList)) ∧ Below w.heap.size w w' := by
  by_cases h0 : s.size = 0
  · have hse : s = ⟨#[]⟩ := by apply ByteArray.ext; exact Array.eq_empty_of_size_eq_zero h0
    subst hse
    have e : Hid (RD (⟨#[]⟩ : ByteArray).data.toList = none) := RD_nil
    go_enter Tryd.func8, Tryd.ntmps8
    go_wp2
    go_ret2
    exact ⟨by rw [e.out]; rfl, Below.refl _ _⟩
  · have hne : s.toList.isEmpty = false := by
      rw [ByteArray.toList_eq]
      cases hl : s.data.toList with
      | nil => exfalso; apply h0; have := congrArg List.length hl; simpa using this
      | cons => rfl
    by_cases hl : 10 < s.size
    · have e : Hid (RD s.data.toList = none) := RD_long _ (by simpa using hl)
      go_enter Tryd.func8, Tryd.ntmps8
      go_wp2
      go_ret2
      exact ⟨by rw [e.out]; rfl, Below.refl _ _⟩
    · have hh := head_of s (by omega)
      have hx : s[0].toNat < 256 := s[0].toNat_lt
      have hp : 0 < s.size := by omega
      have dl : decide (10 < (s.size : Int)) = false := by simp; omega
      by_cases hz : s[0].toNat = 48 ∧ 1 < s.size
      · have e : Hid (RD s.data.toList = none) := RD_nought _ (by rw [hh]; congr 1; exact UInt8.toNat_inj.1 hz.1) (by simpa using hz.2)
        have hq : ((s[0].toNat : Int) == 48) = true := by simp [hz.1]
        have hz2 := hz.2
        clear hh hz
        go_enter Tryd.func8, Tryd.ntmps8
        go_wp2
        go_ret2
        exact ⟨by rw [e.out]; rfl, Below.refl _ _⟩
      · have hz' : s.data.toList.head? ≠ some 48 ∨ s.data.toList.length ≤ 1 := by
          by_cases h48 : s[0].toNat = 48
          · right; simp; omega
          · left; rw [hh]; intro e; apply h48; have := Option.some.inj e; rw [this]; rfl
        have hnil : s.data.toList ≠ [] := by intro e; apply h0; have := congrArg List.length e; simpa using this
        have hN := fun wx => numberIn_any s 10 wx (by omega) (by omega)
        obtain ⟨v, hv, hr⟩ : ∃ v : Option Nat, numF 10 s.data.toList 0 = v ∧ RD s.data.toList = (match v with | none => none | some n => if n ≤ 1000000000 then some n else none) := by
          refine ⟨_, rfl, ?_⟩
          cases hn : numF 10 s.data.toList 0 with
          | none => exact RD_none _ hn
          | some n =>
            by_cases hmx : n ≤ 1000000000
            · simp only [hmx, if_true]; exact RD_right _ n (by simp; omega) hnil hz' hn hmx
            · simp only [hmx, if_false]; exact RD_big _ n hn (by omega)
        rw [hv] at hN
        have HN : Hid (∀ wx, Calls Tryd.prog 17 _ wx _) := hN
        have HR := hr
        clear hN hr hv hz' hnil hh
        cases hq : ((s[0].toNat : Int) == 48)
        all_goals
          have h1 : ((s[0].toNat : Int) == 48) = true → ¬ 1 < s.size := by intro hq'; simp at hq'; intro h1; exact hz ⟨by omega, h1⟩
          rw [hq] at h1
          clear hz
        · clear h1
          cases v with
          | none =>
            have e : Hid (RD s.data.toList = none) := HR
            clear HR
            go_enter Tryd.func8, Tryd.ntmps8
            go_wp2_with fail
            refine (HN.out _).mono ?_
            rintro e1 w1 ⟨rfl, hb⟩
            unfold numV
            go_wp2
            go_ret2
            exact ⟨by rw [e.out]; rfl, hb⟩
          | some n =>
            by_cases hmx : n ≤ 1000000000
            · have e : Hid (RD s.data.toList = some n) := by unfold Hid; rw [HR]; simp [hmx]
              clear HR
              go_enter Tryd.func8, Tryd.ntmps8
              go_wp2_with fail
              refine (HN.out _).mono ?_
              rintro e1 w1 ⟨rfl, hb⟩
              unfold numV
              go_wp2
              go_ret2
              exact ⟨by rw [e.out]; rfl, hb⟩
            · have e : Hid (RD s.data.toList = none) := by unfold Hid; rw [HR]; simp [hmx]
              clear HR
              go_enter Tryd.func8, Tryd.ntmps8
              go_wp2_with fail
              refine (HN.out _).mono ?_
              rintro e1 w1 ⟨rfl, hb⟩
              unfold numV
              go_wp2
              go_ret2
              exact ⟨by rw [e.out]; rfl, hb⟩
        · have h2 := h1 rfl
          clear h1
          cases v with
          | none =>
            have e : Hid (RD s.data.toList = none) := HR
            clear HR
            go_enter Tryd.func8, Tryd.ntmps8
            go_wp2_with fail
            refine (HN.out _).mono ?_
            rintro e1 w1 ⟨rfl, hb⟩
            unfold numV
            go_wp2
            go_ret2
            exact ⟨by rw [e.out]; rfl, hb⟩
          | some n =>
            by_cases hmx : n ≤ 1000000000
            · have e : Hid (RD s.data.toList = some n) := by unfold Hid; rw [HR]; simp [hmx]
              clear HR
              go_enter Tryd.func8, Tryd.ntmps8
              go_wp2_with fail
              refine (HN.out _).mono ?_
              rintro e1 w1 ⟨rfl, hb⟩
              unfold numV
              go_wp2
              go_ret2
              exact ⟨by rw [e.out]; rfl, hb⟩
            · have e : Hid (RD s.data.toList = none) := by unfold Hid; rw [HR]; simp [hmx]
              clear HR
              go_enter Tryd.func8, Tryd.ntmps8
              go_wp2_with fail
              refine (HN.out _).mono ?_
              rintro e1 w1 ⟨rfl, hb⟩
              unfold numV
              go_wp2
              go_ret2
              exact ⟨by rw [e.out]; rfl, hb⟩

end Go.Proofs.YtedpihiobgdofaaDoor
