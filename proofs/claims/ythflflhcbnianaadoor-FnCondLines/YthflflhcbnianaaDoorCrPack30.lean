/- Lines that are right, told piece by piece; a line done, one kind at a time. -/
import Derived.Test.YthflflhcbnianaaDoorCrPack29
import Derived.Test.YthflflhcbnianaaDoorCrPack28
namespace Go.Proofs.YthflflhcbnianaaDoor
open Go.RowKit
set_option linter.unusedVariables false

theorem getL_right {l m : List Ln} {i : Nat} : (l ++ m).getD (l.length + i) zeroL = m.getD i zeroL := by
  simp only [List.getD_eq_getElem?_getD]
  rw [List.getElem?_append_right (by omega), Nat.add_sub_cancel_left]

/-! Lines that are right. -/

def hasL (ls : List Ln) (lab : ByteArray) : Prop := ∃ m, m ∈ ls ∧ opAt m lab

theorem hasL_cons {ls : List Ln} {l : Ln} {lab : ByteArray} (h : hasL ls lab) : hasL (l :: ls) lab := by
  obtain ⟨m, h1, h2⟩ := h
  exact ⟨m, List.mem_cons_of_mem _ h1, h2⟩

theorem hasL_app {ls ms : List Ln} {lab : ByteArray} (h : hasL ls lab) : hasL (ms ++ ls) lab := by
  obtain ⟨m, h1, h2⟩ := h
  exact ⟨m, List.mem_append_right _ h1, h2⟩

theorem hasL_head {ls : List Ln} {lab : ByteArray} : hasL (placeL lab :: ls) lab := ⟨_, List.mem_cons_self, rfl, rfl⟩

/-- The ways of line l lead to places among the lines behind it. -/
def lead1 (ls : List Ln) (l : Ln) : Prop := (askP l.wd.1 ∧ hasL ls l.yes ∧ hasL ls l.no) ∨ (¬ askP l.wd.1 ∧ l.wd.1 ≠ 7 ∧ l.yes = noText ∧ l.no = noText)

def leadS : List Ln → Prop
  | [] => True
  | l :: ls => lead1 ls l ∧ leadS ls

theorem hasL_at {ls : List Ln} {lab : ByteArray} (h : hasL ls lab) : ∃ j, j < ls.length ∧ opAt (ls.getD j zeroL) lab := by
  obtain ⟨m, h1, h2⟩ := h
  obtain ⟨j, hj, e⟩ := List.mem_iff_getElem.1 h1
  refine ⟨j, hj, ?_⟩
  rw [List.getD_eq_getElem?_getD, List.getElem?_eq_getElem hj, Option.getD_some, e]
  exact h2

theorem beh_cons {ls : List Ln} {l : Ln} {i : Nat} {lab : ByteArray} (h : behP ls i lab) : behP (l :: ls) (i + 1) lab := by
  obtain ⟨j, h1, h2, h3⟩ := h
  exact ⟨j + 1, by omega, by simp; omega, by simpa using h3⟩

theorem lead_of : ∀ {ls : List Ln}, leadS ls → ∀ i, i < ls.length → leadP ls i (ls.getD i zeroL)
  | [], _, i, h => by simp at h
  | l :: ls, hl, 0, _ => by
    have hb : ∀ lab, hasL ls lab → behP (l :: ls) 0 lab := fun lab h => by
      obtain ⟨j, h1, h2⟩ := hasL_at h
      exact ⟨j + 1, by omega, by simp; omega, by simpa using h2⟩
    rcases hl.1 with ⟨h1, h2, h3⟩ | h
    · exact .inl ⟨h1, hb _ h2, hb _ h3⟩
    · exact .inr (.inr h)
  | l :: ls, hl, i + 1, hi => by
    have h := lead_of hl.2 i (by simpa using hi)
    rw [List.getD_cons_succ]
    rcases h with ⟨h1, h2, h3⟩ | ⟨h1, h2, h3, h4⟩ | h
    · exact .inl ⟨h1, beh_cons h2, beh_cons h3⟩
    · exact .inr (.inl ⟨h1, h2, beh_cons h3, h4⟩)
    · exact .inr (.inr h)

def labsL (ls : List Ln) : List ByteArray := ls.filterMap fun l => if l.wd.1 = 0 then some l.lab else none

theorem labs_mem {ls : List Ln} {j : Nat} (hj : j < ls.length) (h : (ls.getD j zeroL).wd.1 = 0) : (ls.getD j zeroL).lab ∈ labsL ls := by
  have e : ls.getD j zeroL = ls[j] := by rw [List.getD_eq_getElem?_getD, List.getElem?_eq_getElem hj, Option.getD_some]
  rw [e] at h ⊢
  exact List.mem_filterMap.2 ⟨ls[j], List.getElem_mem hj, by rw [if_pos h]⟩

theorem once_of : ∀ {ls : List Ln}, (labsL ls).Nodup → oncePto ls ls.length
  | [], _ => fun i j h1 h2 => by simp at h2
  | l :: ls, hn => by
    have hn' : (labsL ls).Nodup := by
      unfold labsL at hn
      rw [List.filterMap_cons] at hn
      split at hn
      · exact hn
      · exact (List.nodup_cons.1 hn).2
    have ih := once_of hn'
    intro i j hij hj h0 h1
    obtain ⟨j, rfl⟩ : ∃ k, j = k + 1 := ⟨j - 1, by omega⟩
    rw [List.getD_cons_succ] at h1 ⊢
    have hj' : j < ls.length := by simpa using hj
    cases i with
    | succ i =>
      rw [List.getD_cons_succ] at h0 ⊢
      exact ih i j (by omega) hj' h0 h1
    | zero =>
      rw [List.getD_cons_zero] at h0 ⊢
      intro he
      unfold labsL at hn
      rw [List.filterMap_cons, if_pos h0] at hn
      exact (List.nodup_cons.1 hn).1 (by rw [he]; exact labs_mem hj' h1)

theorem lines_mk {ls : List Ln} (h1 : 1 ≤ ls.length) (h6 : ls.length ≤ 600) (h8 : (ls.getD (ls.length - 1) zeroL).wd.1 = 8) (hn : (labsL ls).Nodup) (hf : ∀ l, l ∈ ls → fitsP l) (hl : leadS ls) : linesP ls :=
  (lines_once ls).2 ⟨⟨h1, h6⟩, h8, once_of hn, fun i hi => ⟨hf _ (by rw [List.getD_eq_getElem?_getD, List.getElem?_eq_getElem hi, Option.getD_some]; exact List.getElem_mem hi), lead_of hl i hi⟩⟩

/-- They are few enough to be laid out. -/
theorem few_of {ls : List Ln} {s : Nat → Nat} (hl : linesP ls) (hs : sizesP ls s) (h : ls.length ≤ 130) : fewP ls s = true := by
  have h1 := cnt_pos hl hs
  have h2 := cnt_le hs (Nat.le_refl ls.length)
  unfold fewP
  rw [inB_true]
  omega

theorem place_fit {s : ByteArray} (h : 1 ≤ s.size ∧ s.size ≤ 12) : fitsP (placeL s) := .inl ⟨rfl, h, rfl, rfl, rfl⟩

theorem ask_fit {o k : Int} {yes no : ByteArray} (ho : 3 ≤ o ∧ o ≤ 5) (hk : 0 ≤ k ∧ k ≤ 4294967295) : fitsP ⟨noText, (o, k, 0, 0), yes, no⟩ := by
  refine .inr ⟨?_, rfl, ?_, ?_, ?_⟩
  · show o ≠ 0
    omega
  · rw [okW_P]
    show insP o k 0 0
    exact ⟨by omega, by omega, by omega, by omega, by omega, by omega, by omega, by omega, .inr ⟨rfl, rfl⟩, fun h => by omega, fun h => by omega⟩
  · unfold yesW
    split
    · rfl
    · split
      · rename_i h7
        have h7' : o = 7 := h7
        omega
      · rfl
  · unfold noW
    split
    · rfl
    · split
      · rename_i h7
        have h7' : o = 7 := h7
        omega
      · rfl

theorem lead_plain {ls : List Ln} {o k : Int} (h : ¬ (3 ≤ o ∧ o ≤ 6) ∧ o ≠ 7) : lead1 ls (plainL o k) := .inr ⟨h.1, h.2, rfl, rfl⟩

theorem lead_place {ls : List Ln} {s : ByteArray} : lead1 ls (placeL s) := .inr ⟨by show ¬ (3 ≤ (0 : Int) ∧ (0 : Int) ≤ 6); decide, by show (0 : Int) ≠ 7; decide, rfl, rfl⟩

theorem lead_ask {ls : List Ln} {o k : Int} {yes no : ByteArray} (h : 3 ≤ o ∧ o ≤ 6) (h1 : hasL ls yes) (h2 : hasL ls no) : lead1 ls ⟨noText, (o, k, 0, 0), yes, no⟩ := .inl ⟨h, h1, h2⟩

/-! A line done. -/

theorem pos_of {full : List Ln} (hl : linesP full) {j : Nat} {lab : ByteArray} (hj : j < full.length) (h : full.getD j zeroL = placeL lab) : pos full lab = j := by
  rcases hl.2.2 j hj with ⟨_, _, _, _, hp⟩ | ⟨hz, _⟩
  · rw [h] at hp; exact hp
  · rw [h] at hz; exact absurd rfl hz

theorem step_load {full : List Ln} {F : Int → Int} {f i : Nat} {r res k : Int} (h : LRuns full F f i r res) (hl : full.getD i zeroL = plainL 1 k) : ∃ f', LRuns full F f' (i + 1) (F k) res := by
  obtain ⟨f', h'⟩ := lruns_next h (by rw [hl]; show (1 : Int) ≠ 8; decide)
  have e1 : nextL full i r = i + 1 := by unfold nextL; rw [hl]; rfl
  have e2 : regW F (full.getD i zeroL).wd r = F k := by rw [hl]; rfl
  rw [e1, e2] at h'
  exact ⟨f', h'⟩

theorem step_and {full : List Ln} {F : Int → Int} {f i : Nat} {r res k : Int} (h : LRuns full F f i r res) (hl : full.getD i zeroL = plainL 2 k) : ∃ f', LRuns full F f' (i + 1) (bits .and .i64 r k) res := by
  obtain ⟨f', h'⟩ := lruns_next h (by rw [hl]; show (2 : Int) ≠ 8; decide)
  have e1 : nextL full i r = i + 1 := by unfold nextL; rw [hl]; rfl
  have e2 : regW F (full.getD i zeroL).wd r = bits .and .i64 r k := by rw [hl]; rfl
  rw [e1, e2] at h'
  exact ⟨f', h'⟩

theorem step_place {full : List Ln} {F : Int → Int} {f i : Nat} {r res : Int} {lab : ByteArray} (h : LRuns full F f i r res) (hl : full.getD i zeroL = placeL lab) : ∃ f', LRuns full F f' (i + 1) r res := by
  obtain ⟨f', h'⟩ := lruns_next h (by rw [hl]; show (0 : Int) ≠ 8; decide)
  have e1 : nextL full i r = i + 1 := by unfold nextL; rw [hl]; rfl
  have e2 : regW F (full.getD i zeroL).wd r = r := by rw [hl]; rfl
  rw [e1, e2] at h'
  exact ⟨f', h'⟩

theorem step_ask {full : List Ln} {F : Int → Int} {f i : Nat} {r res o k : Int} {yes no : ByteArray} (h : LRuns full F f i r res) (ho : 3 ≤ o ∧ o ≤ 6) (hl : full.getD i zeroL = ⟨noText, (o, k, 0, 0), yes, no⟩) : ∃ f', LRuns full F f' (if asksW (o, k, 0, 0) r = true then pos full yes else pos full no) r res := by
  obtain ⟨f', h'⟩ := lruns_next h (by rw [hl]; show o ≠ 8; omega)
  have e1 : nextL full i r = if asksW (o, k, 0, 0) r = true then pos full yes else pos full no := by
    unfold nextL
    rw [hl]
    show (if 3 ≤ o ∧ o ≤ 6 then _ else _) = _
    rw [if_pos ho]
  have e2 : regW F (full.getD i zeroL).wd r = r := by rw [hl]; exact reg_ask ho
  rw [e1, e2] at h'
  exact ⟨f', h'⟩

theorem step_ret {full : List Ln} {F : Int → Int} {f i : Nat} {r res k : Int} (h : LRuns full F f i r res) (hl : full.getD i zeroL = plainL 8 k) : res = k := by
  have := lruns_ret h (by rw [hl]; rfl)
  rw [hl] at this
  exact this

theorem asks3 {k r : Int} : asksW (3, k, 0, 0) r = true ↔ r = k := by
  show (r == k) = true ↔ _
  exact beq_iff_eq

theorem asks4 {k r : Int} : asksW (4, k, 0, 0) r = true ↔ k < r := by
  show decide (k < r) = true ↔ _
  exact decide_eq_true_iff

theorem asks5 {k r : Int} : asksW (5, k, 0, 0) r = true ↔ k ≤ r := by
  show decide (k ≤ r) = true ↔ _
  exact decide_eq_true_iff

end Go.Proofs.YthflflhcbnianaaDoor
