/- A policy's text piece by piece, and how long the pieces are. -/
import Derived.Test.YtojaohdmfahpmaaDoorShowMath
namespace Go.Proofs.YtojaohdmfahpmaaDoor
open Go.RowKit
set_option linter.unusedVariables false

/-- The text of the first k numbers. -/
def numsP (l : List Int) : Nat → List UInt8
  | 0 => []
  | k + 1 => numsP l k ++ ((if k = 0 then [] else [32, 44, 32]) ++ numT (l.getD k 0))

/-- The text of the first k conditions. -/
def condsP (l : List CN) : Nat → List UInt8
  | 0 => []
  | k + 1 => condsP l k ++ ((if k = 0 then [32, 105, 102, 32] else [32, 97, 110, 100, 32]) ++ condT (l.getD k c0))

/-- The text of the first k rules. -/
def rulesP (l : List RN) : Nat → List UInt8
  | 0 => []
  | k + 1 => rulesP l k ++ (32 :: ruleT (l.getD k r0))

theorem flat_take {α : Type} (f : α → List UInt8) (l : List α) (k : Nat) (h : k < l.length) : (l.take (k + 1)).flatMap f = (l.take k).flatMap f ++ f l[k] := by
  rw [List.take_succ_eq_append_getElem h, List.flatMap_append, List.flatMap_cons, List.flatMap_nil, List.append_nil]

theorem numsP_take (n : Int) (l : List Int) : ∀ k, k ≤ l.length → numsP (n :: l) (k + 1) = numT n ++ commaT (l.take k)
  | 0, _ => by simp [numsP, commaT]
  | k + 1, h => by
    have hk : k < l.length := by omega
    rw [numsP, numsP_take n l k (by omega), if_neg (by omega)]
    unfold commaT
    rw [flat_take _ l k hk]
    simp [List.getD_eq_getElem?_getD, hk]

theorem numsP_all {l : List Int} (h : 0 < l.length) : numsP l l.length = numsT l := by
  cases l with
  | nil => simp at h
  | cons n l =>
    have := numsP_take n l l.length (Nat.le_refl _)
    simpa [numsT] using this

theorem condsP_take (c : CN) (l : List CN) : ∀ k, k ≤ l.length → condsP (c :: l) (k + 1) = [32, 105, 102, 32] ++ condT c ++ andT (l.take k)
  | 0, _ => by simp [condsP, andT]
  | k + 1, h => by
    have hk : k < l.length := by omega
    rw [condsP, condsP_take c l k (by omega), if_neg (by omega)]
    unfold andT
    rw [flat_take _ l k hk]
    simp [List.getD_eq_getElem?_getD, hk]

theorem condsP_all (l : List CN) : condsP l l.length = condsT l := by
  cases l with
  | nil => rfl
  | cons c l =>
    have := condsP_take c l l.length (Nat.le_refl _)
    simpa [condsT] using this

theorem rulesP_take (l : List RN) : ∀ k, k ≤ l.length → rulesP l k = rulesT (l.take k)
  | 0, _ => by simp [rulesP, rulesT]
  | k + 1, h => by
    have hk : k < l.length := by omega
    rw [rulesP, rulesP_take l k (by omega)]
    unfold rulesT
    rw [flat_take _ l k hk]
    simp [List.getD_eq_getElem?_getD, hk]

theorem rulesP_all (l : List RN) : rulesP l l.length = rulesT l := by rw [rulesP_take l _ (Nat.le_refl _)]; simp

theorem numT_len {n : Int} (h : halfB n = true) : (numT n).length ≤ 10 := by
  simp [halfB] at h
  exact decS_len8 n.toNat (by omega)

theorem actL_len : ∀ k, (actL.getD k []).length ≤ 5 := by
  intro k
  by_cases hk : k < 6
  · revert k; decide
  · have : actL.getD k [] = [] := by
      rw [List.getD_eq_getElem?_getD, List.getElem?_eq_none (by simp [actL]; omega)]; rfl
    rw [this]; simp

theorem cmL_len : ∀ k, (cmL.getD k []).length ≤ 2 := by
  intro k
  by_cases hk : k < 6
  · revert k; decide
  · have : cmL.getD k [] = [] := by
      rw [List.getD_eq_getElem?_getD, List.getElem?_eq_none (by simp [cmL]; omega)]; rfl
    rw [this]; simp

theorem outB_half {a d : Int} (h : outB a d = true) : halfB a = true ∧ halfB d = true ∧ 0 ≤ a ∧ a ≤ 5 := by
  simp only [outB, Bool.and_eq_true] at h
  refine ⟨half_small (by decide) h.1, half_small (by decide) h.2, ?_⟩
  have := h.1
  simp [inB] at this
  omega

theorem outT_len {a d : Int} (h : outB a d = true) : (outT a d).length ≤ 16 := by
  have h1 := numT_len (outB_half h).2.1
  have h2 := actL_len a.toNat
  simp only [outT, List.length_append, List.length_cons, List.length_nil]
  omega

theorem wideT_len {x y : Int} (h : wideB (x, y) = true) : (wideT x y).length ≤ 23 := by
  simp only [wideB, Bool.and_eq_true] at h
  have h1 := numT_len h.1
  have h2 := numT_len h.2
  simp only [wideT, List.length_append, List.length_cons, List.length_nil]
  omega

theorem condB_pieces {c : CN} (h : condB c = true) : halfB c.arg = true ∧ 1 ≤ c.cm ∧ c.cm ≤ 6 ∧ wideB (c.mh, c.ml) = true ∧ wideB (c.vh, c.vl) = true := by
  simp only [condB, Bool.and_eq_true] at h
  obtain ⟨⟨⟨h1, h2⟩, h3⟩, h4⟩ := h
  simp [inB] at h2
  exact ⟨half_small (by decide) h1, h2.1, h2.2, h3, h4⟩

theorem condT_len {c : CN} (h : condB c = true) : (condT c).length ≤ 67 := by
  obtain ⟨h1, _, _, h3, h4⟩ := condB_pieces h
  have a1 := numT_len h1
  have a2 := wideT_len h3
  have a3 := wideT_len h4
  have a4 := cmL_len (c.cm.toNat - 1)
  simp only [condT, List.length_append, List.length_cons, List.length_nil]
  omega

theorem numsP_len {l : List Int} (h : ∀ n ∈ l, halfB n = true) : ∀ k, k ≤ l.length → (numsP l k).length ≤ 13 * k
  | 0, _ => by simp [numsP]
  | k + 1, hk => by
    have ih := numsP_len h k (by omega)
    have hg : l.getD k 0 = l[k] := by rw [List.getD_eq_getElem?_getD, List.getElem?_eq_getElem (by omega)]; rfl
    have h1 := numT_len (h l[k] (List.getElem_mem (by omega)))
    rw [numsP, hg]
    split <;> simp only [List.length_append, List.length_cons, List.length_nil] <;> omega

theorem condsP_len {l : List CN} (h : ∀ c ∈ l, condB c = true) : ∀ k, k ≤ l.length → (condsP l k).length ≤ 72 * k
  | 0, _ => by simp [condsP]
  | k + 1, hk => by
    have ih := condsP_len h k (by omega)
    have hg : l.getD k c0 = l[k] := by rw [List.getD_eq_getElem?_getD, List.getElem?_eq_getElem (by omega)]; rfl
    have h1 := condT_len (h l[k] (List.getElem_mem (by omega)))
    rw [condsP, hg]
    split <;> simp only [List.length_append, List.length_cons, List.length_nil] <;> omega

theorem ruleB_lens {r : RN} (h : ruleB r = true) : r.nums.length ≤ 4 ∧ r.conds.length ≤ 3 := by
  simp only [ruleB, Bool.and_eq_true, numsB, condsB, decide_eq_true_eq] at h
  exact ⟨h.1.2.1, h.2.1⟩

theorem numsT_len {l : List Int} (h : ∀ n ∈ l, halfB n = true) : (numsT l).length ≤ 13 * l.length + 3 := by
  by_cases h0 : 0 < l.length
  · have := numsP_len h l.length (Nat.le_refl _)
    rw [numsP_all h0] at this
    omega
  · have : l = [] := List.length_eq_zero_iff.1 (by omega)
    rw [this]; simp [numsT]

theorem ruleT_len {r : RN} (h : ruleB r = true) : (ruleT r).length ≤ 500 := by
  obtain ⟨h1, h2, h3⟩ := ruleB_parts h
  obtain ⟨l1, l2⟩ := ruleB_lens h
  have a1 := numsT_len (numsB_halves h2)
  have a2 := condsP_len h3 r.conds.length (Nat.le_refl _)
  rw [condsP_all] at a2
  have a3 := outT_len h1
  simp only [ruleT, List.length_append, List.length_cons, List.length_nil]
  omega

theorem rulesP_len {l : List RN} (h : ∀ r ∈ l, ruleB r = true) : ∀ k, k ≤ l.length → (rulesP l k).length ≤ 501 * k
  | 0, _ => by simp [rulesP]
  | k + 1, hk => by
    have ih := rulesP_len h k (by omega)
    have hg : l.getD k r0 = l[k] := by rw [List.getD_eq_getElem?_getD, List.getElem?_eq_getElem (by omega)]; rfl
    have h1 := ruleT_len (h l[k] (List.getElem_mem (by omega)))
    rw [rulesP, hg]
    simp only [List.length_append, List.length_cons]
    omega

theorem headT_len {p : PN} (h : policyB p = true) : (headT p).length ≤ 50 := by
  obtain ⟨h1, h2, _⟩ := policyB_parts h
  have a1 := numT_len h1
  have a2 := outT_len h2
  simp only [headT, List.length_append, List.length_cons, List.length_nil]
  omega

theorem nameV_actL {a : Int} (h0 : 0 ≤ a) (h5 : a ≤ 5) : nameV a = ⟨(actL.getD a.toNat []).toArray⟩ := by
  have : a = 0 ∨ a = 1 ∨ a = 2 ∨ a = 3 ∨ a = 4 ∨ a = 5 := by omega
  rcases this with rfl | rfl | rfl | rfl | rfl | rfl <;> rfl

end Go.Proofs.YtojaohdmfahpmaaDoor
