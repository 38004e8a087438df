/- The lines of a drawn condition and of a drawn rule, laid out and run by spec's Layout and Run: what they answer. -/
import Derived.Test.YthflflhcbnianaaDoorCrPack30
import Derived.Test.YthflflhcbnianaaDoorCrPack32
import Derived.Test.YthflflhcbnianaaDoorCrPack18
import Derived.Test.YthflflhcbnianaaDoorCrPack29
import Derived.Test.YthflflhcbnianaaDoorCrPack23
/- The lines of a condition and of a rule, run, in plain numbers: they do what the condition and the rule say. -/
namespace Go.Proofs.YthflflhcbnianaaDoor
open Go.RowKit
set_option linter.unusedVariables false

theorem same_runs {full pre rest : List Ln} {F : Int → Int} {c : CN} {a yes no : ByteArray} {f : Nat} {r res : Int} (he : full = pre ++ (sameC c a yes no ++ rest)) (hl : linesP full) (h : LRuns full F f pre.length r res) :
    ∃ f' r', LRuns full F f' (if bits .and .i64 (F (3 + 2 * c.arg)) c.mh = c.vh ∧ bits .and .i64 (F (2 + 2 * c.arg)) c.ml = c.vl then pos full yes else pos full no) r' res := by
  have g : ∀ j, full.getD (pre.length + j) zeroL = (sameC c a yes no ++ rest).getD j zeroL := fun j => by rw [he, getL_right]
  have hlen : pre.length + 7 ≤ full.length := by rw [he]; simp [sameC]
  have g0 : full.getD pre.length zeroL = plainL 1 (3 + 2 * c.arg) := g 0
  have g1 : full.getD (pre.length + 1) zeroL = plainL 2 c.mh := g 1
  have g2 : full.getD (pre.length + 1 + 1) zeroL = askL 3 c.vh a no := g 2
  have g3 : full.getD (pre.length + 3) zeroL = placeL a := g 3
  have g4 : full.getD (pre.length + 3 + 1) zeroL = plainL 1 (2 + 2 * c.arg) := g 4
  have g5 : full.getD (pre.length + 3 + 1 + 1) zeroL = plainL 2 c.ml := g 5
  have g6 : full.getD (pre.length + 3 + 1 + 1 + 1) zeroL = askL 3 c.vl yes no := g 6
  have p3 : pos full a = pre.length + 3 := pos_of hl (by omega) g3
  obtain ⟨f1, h1⟩ := step_load h g0
  obtain ⟨f2, h2⟩ := step_and h1 g1
  obtain ⟨f3, h3⟩ := step_ask h2 ⟨by omega, by omega⟩ g2
  by_cases e1 : bits .and .i64 (F (3 + 2 * c.arg)) c.mh = c.vh
  · rw [if_pos (asks3.2 e1), p3] at h3
    obtain ⟨f4, h4⟩ := step_place h3 g3
    obtain ⟨f5, h5⟩ := step_load h4 g4
    obtain ⟨f6, h6⟩ := step_and h5 g5
    obtain ⟨f7, h7⟩ := step_ask h6 ⟨by omega, by omega⟩ g6
    refine ⟨f7, bits .and .i64 (F (2 + 2 * c.arg)) c.ml, ?_⟩
    by_cases e2 : bits .and .i64 (F (2 + 2 * c.arg)) c.ml = c.vl
    · rw [if_pos (asks3.2 e2)] at h7
      rw [if_pos ⟨e1, e2⟩]
      exact h7
    · rw [if_neg (fun k => e2 (asks3.1 k))] at h7
      rw [if_neg (fun k => e2 k.2)]
      exact h7
  · rw [if_neg (fun k => e1 (asks3.1 k))] at h3
    rw [if_neg (fun k => e1 k.1)]
    exact ⟨_, _, h3⟩

theorem more_runs {full pre rest : List Ln} {F : Int → Int} {c : CN} {o : Int} {a b yes no : ByteArray} {f : Nat} {r res : Int} (ho : 3 ≤ o ∧ o ≤ 6) (he : full = pre ++ (moreC c o a b yes no ++ rest)) (hl : linesP full) (h : LRuns full F f pre.length r res) :
    ∃ f' r', LRuns full F f' (if c.vh < bits .and .i64 (F (3 + 2 * c.arg)) c.mh ∨ (bits .and .i64 (F (3 + 2 * c.arg)) c.mh = c.vh ∧ asksW (o, c.vl, 0, 0) (bits .and .i64 (F (2 + 2 * c.arg)) c.ml) = true) then pos full yes else pos full no) r' res := by
  have g : ∀ j, full.getD (pre.length + j) zeroL = (moreC c o a b yes no ++ rest).getD j zeroL := fun j => by rw [he, getL_right]
  have hlen : pre.length + 9 ≤ full.length := by rw [he]; simp [moreC]
  have g0 : full.getD pre.length zeroL = plainL 1 (3 + 2 * c.arg) := g 0
  have g1 : full.getD (pre.length + 1) zeroL = plainL 2 c.mh := g 1
  have g2 : full.getD (pre.length + 1 + 1) zeroL = askL 4 c.vh yes a := g 2
  have g3 : full.getD (pre.length + 3) zeroL = placeL a := g 3
  have g4 : full.getD (pre.length + 3 + 1) zeroL = askL 3 c.vh b no := g 4
  have g5 : full.getD (pre.length + 5) zeroL = placeL b := g 5
  have g6 : full.getD (pre.length + 5 + 1) zeroL = plainL 1 (2 + 2 * c.arg) := g 6
  have g7 : full.getD (pre.length + 5 + 1 + 1) zeroL = plainL 2 c.ml := g 7
  have g8 : full.getD (pre.length + 5 + 1 + 1 + 1) zeroL = askL o c.vl yes no := g 8
  have p3 : pos full a = pre.length + 3 := pos_of hl (by omega) g3
  have p5 : pos full b = pre.length + 5 := pos_of hl (by omega) g5
  obtain ⟨f1, h1⟩ := step_load h g0
  obtain ⟨f2, h2⟩ := step_and h1 g1
  obtain ⟨f3, h3⟩ := step_ask h2 ⟨by omega, by omega⟩ g2
  by_cases e0 : c.vh < bits .and .i64 (F (3 + 2 * c.arg)) c.mh
  · rw [if_pos (asks4.2 e0)] at h3
    rw [if_pos (.inl e0)]
    exact ⟨_, _, h3⟩
  rw [if_neg (fun k => e0 (asks4.1 k)), p3] at h3
  obtain ⟨f4, h4⟩ := step_place h3 g3
  obtain ⟨f5, h5⟩ := step_ask h4 ⟨by omega, by omega⟩ g4
  by_cases e1 : bits .and .i64 (F (3 + 2 * c.arg)) c.mh = c.vh
  · rw [if_pos (asks3.2 e1), p5] at h5
    obtain ⟨f6, h6⟩ := step_place h5 g5
    obtain ⟨f7, h7⟩ := step_load h6 g6
    obtain ⟨f8, h8⟩ := step_and h7 g7
    obtain ⟨f9, h9⟩ := step_ask h8 ho g8
    refine ⟨f9, bits .and .i64 (F (2 + 2 * c.arg)) c.ml, ?_⟩
    by_cases e2 : asksW (o, c.vl, 0, 0) (bits .and .i64 (F (2 + 2 * c.arg)) c.ml) = true
    · rw [if_pos e2] at h9
      rw [if_pos (.inr ⟨e1, e2⟩)]
      exact h9
    · rw [if_neg e2] at h9
      rw [if_neg (fun k => k.elim e0 fun q => e2 q.2)]
      exact h9
  · rw [if_neg (fun k => e1 (asks3.1 k))] at h5
    rw [if_neg (fun k => k.elim e0 fun q => e1 q.1)]
    exact ⟨_, _, h5⟩

/-! A call's places, and how two wide numbers stand. -/

theorem field_hi {arch num ag : Int} {ws : List (Int × Int)} (hk : callB arch num ws = true) (h0 : 0 ≤ ag) (h2 : ag ≤ 2) : fieldR arch num ws (3 + 2 * ag) = (ws.getD ag.toNat (0, 0)).1 := by
  have e : fieldOk arch num ws (3 + 2 * ag) = true := by
    unfold fieldOk
    rw [hk, decide_eq_true (by omega), decide_eq_true (by omega)]
    rfl
  unfold fieldR
  rw [if_pos e]
  unfold fieldV
  rw [if_neg (by omega), if_neg (by omega), if_neg (by omega), show ((3 + 2 * ag) / 2 - 1).toNat = ag.toNat by omega]

theorem field_lo {arch num ag : Int} {ws : List (Int × Int)} (hk : callB arch num ws = true) (h0 : 0 ≤ ag) (h2 : ag ≤ 2) : fieldR arch num ws (2 + 2 * ag) = (ws.getD ag.toNat (0, 0)).2 := by
  have e : fieldOk arch num ws (2 + 2 * ag) = true := by
    unfold fieldOk
    rw [hk, decide_eq_true (by omega), decide_eq_true (by omega)]
    rfl
  unfold fieldR
  rw [if_pos e]
  unfold fieldV
  rw [if_neg (by omega), if_neg (by omega), if_pos (by omega), show ((2 + 2 * ag) / 2 - 1).toNat = ag.toNat by omega]

theorem condB_wide {c : CN} (h : condB c = true) : wideB (c.mh, c.ml) = true ∧ wideB (c.vh, c.vl) = true := by
  simp only [condB, Bool.and_eq_true] at h
  exact ⟨h.1.2, h.2⟩

theorem cmp_of {arch num : Int} {ws : List (Int × Int)} {c : CN} (hk : callB arch num ws = true) (hc : condB c = true) :
    cmpC c ws = cmpW (bits .and .i64 (fieldR arch num ws (3 + 2 * c.arg)) c.mh, bits .and .i64 (fieldR arch num ws (2 + 2 * c.arg)) c.ml) (c.vh, c.vl) := by
  obtain ⟨h0, h2, _, _⟩ := condB_parts hc
  have h3 := callB_three hk
  have hw : wideB (ws.getD c.arg.toNat (0, 0)) = true := by
    have ha : ws.all wideB = true := by
      simp only [callB, Bool.and_eq_true] at hk
      exact hk.2
    have hlt : c.arg.toNat < ws.length := by omega
    have := List.all_eq_true.1 ha (ws.getD c.arg.toNat (0, 0)) (by rw [List.getD_eq_getElem?_getD, List.getElem?_eq_getElem hlt]; exact List.getElem_mem hlt)
    exact this
  rw [field_hi hk h0 h2, field_lo hk h0 h2]
  unfold cmpC
  have hm := (condB_wide hc).1
  generalize ws.getD c.arg.toNat (0, 0) = p at *
  obtain ⟨x, y⟩ := p
  rw [andW_yes hw hm]

theorem cmp_zero {a b v u : Int} : cmpW (a, b) (v, u) = 0 ↔ a = v ∧ b = u := by
  unfold cmpW cmpI
  simp only
  repeat' split
  all_goals omega

theorem cmp_more {a b v u : Int} : 0 < cmpW (a, b) (v, u) ↔ v < a ∨ (a = v ∧ u < b) := by
  unfold cmpW cmpI
  simp only
  repeat' split
  all_goals omega

theorem cmp_least {a b v u : Int} : 0 ≤ cmpW (a, b) (v, u) ↔ v < a ∨ (a = v ∧ u ≤ b) := by
  unfold cmpW cmpI
  simp only
  repeat' split
  all_goals omega

/-- A condition's lines lead to yes just when it is so. -/
theorem cond_runs {full pre rest : List Ln} {c : CN} {base yes no : ByteArray} {arch num : Int} {ws : List (Int × Int)} {f : Nat} {r res : Int} (he : full = pre ++ (condL c base yes no ++ rest)) (hl : linesP full) (hc : condB c = true) (hk : callB arch num ws = true) (h : LRuns full (fieldR arch num ws) f pre.length r res) :
    ∃ f' r', LRuns full (fieldR arch num ws) f' (if asB (cmpC c ws) c.cm = true then pos full yes else pos full no) r' res := by
  obtain ⟨_, _, m1, m6⟩ := condB_parts hc
  rw [cmp_of hk hc]
  obtain ⟨A, hA⟩ : ∃ A, A = bits .and .i64 (fieldR arch num ws (3 + 2 * c.arg)) c.mh := ⟨_, rfl⟩
  obtain ⟨B, hB⟩ : ∃ B, B = bits .and .i64 (fieldR arch num ws (2 + 2 * c.arg)) c.ml := ⟨_, rfl⟩
  have z := @cmp_zero A B c.vh c.vl
  have m := @cmp_more A B c.vh c.vl
  have l := @cmp_least A B c.vh c.vl
  unfold condL at he
  rw [if_pos hc] at he
  have hm : c.cm = 1 ∨ c.cm = 2 ∨ c.cm = 3 ∨ c.cm = 4 ∨ c.cm = 5 ∨ c.cm = 6 := by omega
  rcases hm with e | e | e | e | e | e <;> rw [e] at he ⊢
  · rw [if_pos rfl] at he
    obtain ⟨f', r', h'⟩ := same_runs he hl h
    rw [← hA, ← hB] at h' ⊢
    refine ⟨f', r', ?_⟩
    show LRuns _ _ _ (if (cmpW (A, B) (c.vh, c.vl) == 0) = true then _ else _) _ _
    by_cases hq : A = c.vh ∧ B = c.vl
    · rw [if_pos hq] at h'
      rw [if_pos (by rw [z.2 hq]; rfl)]
      exact h'
    · rw [if_neg hq] at h'
      rw [if_neg (fun k => hq (z.1 (by simpa using k)))]
      exact h'
  · rw [if_neg (by decide), if_pos rfl] at he
    obtain ⟨f', r', h'⟩ := same_runs he hl h
    rw [← hA, ← hB] at h' ⊢
    refine ⟨f', r', ?_⟩
    show LRuns _ _ _ (if (cmpW (A, B) (c.vh, c.vl) != 0) = true then _ else _) _ _
    by_cases hq : A = c.vh ∧ B = c.vl
    · rw [if_pos hq] at h'
      rw [if_neg (by rw [z.2 hq]; decide)]
      exact h'
    · rw [if_neg hq] at h'
      rw [if_pos (by simpa using fun k => hq (z.1 k))]
      exact h'
  · rw [if_neg (by decide), if_neg (by decide), if_neg (by decide), if_neg (by decide), if_neg (by decide)] at he
    obtain ⟨f', r', h'⟩ := more_runs ⟨by omega, by omega⟩ he hl h
    rw [← hA, ← hB] at h' ⊢
    refine ⟨f', r', ?_⟩
    show LRuns _ _ _ (if decide (cmpW (A, B) (c.vh, c.vl) < 0) = true then _ else _) _ _
    by_cases hq : c.vh < A ∨ (A = c.vh ∧ asksW (5, c.vl, 0, 0) B = true)
    · rw [if_pos hq] at h'
      have := l.2 (hq.imp id fun q => ⟨q.1, asks5.1 q.2⟩)
      rw [if_neg (by rw [decide_eq_true_eq]; omega)]
      exact h'
    · rw [if_neg hq] at h'
      rw [if_pos (by rw [decide_eq_true_eq]; exact Int.not_le.1 fun k => hq ((l.1 k).imp id fun q => ⟨q.1, asks5.2 q.2⟩))]
      exact h'
  · rw [if_neg (by decide), if_neg (by decide), if_neg (by decide), if_pos rfl] at he
    obtain ⟨f', r', h'⟩ := more_runs ⟨by omega, by omega⟩ he hl h
    rw [← hA, ← hB] at h' ⊢
    refine ⟨f', r', ?_⟩
    show LRuns _ _ _ (if decide (cmpW (A, B) (c.vh, c.vl) ≤ 0) = true then _ else _) _ _
    by_cases hq : c.vh < A ∨ (A = c.vh ∧ asksW (4, c.vl, 0, 0) B = true)
    · rw [if_pos hq] at h'
      have := m.2 (hq.imp id fun q => ⟨q.1, asks4.1 q.2⟩)
      rw [if_neg (by rw [decide_eq_true_eq]; omega)]
      exact h'
    · rw [if_neg hq] at h'
      rw [if_pos (by rw [decide_eq_true_eq]; exact Int.not_lt.1 fun k => hq ((m.1 k).imp id fun q => ⟨q.1, asks4.2 q.2⟩))]
      exact h'
  · rw [if_neg (by decide), if_neg (by decide), if_pos rfl] at he
    obtain ⟨f', r', h'⟩ := more_runs ⟨by omega, by omega⟩ he hl h
    rw [← hA, ← hB] at h' ⊢
    refine ⟨f', r', ?_⟩
    show LRuns _ _ _ (if decide (0 < cmpW (A, B) (c.vh, c.vl)) = true then _ else _) _ _
    by_cases hq : c.vh < A ∨ (A = c.vh ∧ asksW (4, c.vl, 0, 0) B = true)
    · rw [if_pos hq] at h'
      rw [if_pos (by rw [decide_eq_true_eq]; exact m.2 (hq.imp id fun q => ⟨q.1, asks4.1 q.2⟩))]
      exact h'
    · rw [if_neg hq] at h'
      rw [if_neg (by rw [decide_eq_true_eq]; exact fun k => hq ((m.1 k).imp id fun q => ⟨q.1, asks4.2 q.2⟩))]
      exact h'
  · rw [if_neg (by decide), if_neg (by decide), if_neg (by decide), if_neg (by decide), if_pos rfl] at he
    obtain ⟨f', r', h'⟩ := more_runs ⟨by omega, by omega⟩ he hl h
    rw [← hA, ← hB] at h' ⊢
    refine ⟨f', r', ?_⟩
    show LRuns _ _ _ (if decide (0 ≤ cmpW (A, B) (c.vh, c.vl)) = true then _ else _) _ _
    by_cases hq : c.vh < A ∨ (A = c.vh ∧ asksW (5, c.vl, 0, 0) B = true)
    · rw [if_pos hq] at h'
      rw [if_pos (by rw [decide_eq_true_eq]; exact l.2 (hq.imp id fun q => ⟨q.1, asks5.1 q.2⟩))]
      exact h'
    · rw [if_neg hq] at h'
      rw [if_neg (by rw [decide_eq_true_eq]; exact fun k => hq ((l.1 k).imp id fun q => ⟨q.1, asks5.2 q.2⟩))]
      exact h'

theorem leadS_same {c : CN} {a yes no : ByteArray} {rest : List Ln} (hy : hasL rest yes) (hn : hasL rest no) (hr : leadS rest) : leadS (sameC c a yes no ++ rest) :=
  ⟨lead_plain (by decide), lead_plain (by decide), lead_ask (by decide) hasL_head (hasL_cons (hasL_cons (hasL_cons (hasL_cons hn)))), lead_place, lead_plain (by decide), lead_plain (by decide), lead_ask (by decide) hy hn, hr⟩

theorem leadS_more {c : CN} {o : Int} {a b yes no : ByteArray} {rest : List Ln} (ho : 3 ≤ o ∧ o ≤ 6) (hy : hasL rest yes) (hn : hasL rest no) (hr : leadS rest) : leadS (moreC c o a b yes no ++ rest) :=
  ⟨lead_plain (by decide), lead_plain (by decide), lead_ask (by decide) (hasL_cons (hasL_cons (hasL_cons (hasL_cons (hasL_cons (hasL_cons hy)))))) hasL_head, lead_place, lead_ask (by decide) hasL_head (hasL_cons (hasL_cons (hasL_cons (hasL_cons hn)))), lead_place, lead_plain (by decide), lead_plain (by decide), lead_ask ho hy hn, hr⟩

theorem leadS_cond {c : CN} {base yes no : ByteArray} {rest : List Ln} (hy : hasL rest yes) (hn : hasL rest no) (hr : leadS rest) : leadS (condL c base yes no ++ rest) := by
  unfold condL
  split
  · split
    · exact leadS_same hy hn hr
    · split
      · exact leadS_same hn hy hr
      · split
        · exact leadS_more (by decide) hy hn hr
        · split
          · exact leadS_more (by decide) hn hy hr
          · split
            · exact leadS_more (by decide) hy hn hr
            · exact leadS_more (by decide) hn hy hr
  · exact hr

theorem labs_app (l m : List Ln) : labsL (l ++ m) = labsL l ++ labsL m := List.filterMap_append

theorem labs_same (c : CN) (a yes no : ByteArray) : labsL (sameC c a yes no) = [a] := rfl

theorem labs_more (c : CN) (o : Int) (a b yes no : ByteArray) (ho : o ≠ 0) : labsL (moreC c o a b yes no) = [a, b] := by
  show labsL ([plainL 1 (3 + 2 * c.arg), plainL 2 c.mh, askL 4 c.vh yes a, placeL a, askL 3 c.vh b no, placeL b, plainL 1 (2 + 2 * c.arg), plainL 2 c.ml] ++ [askL o c.vl yes no]) = _
  rw [labs_app]
  have : labsL [askL o c.vl yes no] = [] := by
    unfold labsL
    rw [List.filterMap_cons, if_neg (by exact ho)]
    rfl
  rw [this]
  rfl

theorem labs_cond (c : CN) (base yes no : ByteArray) : (labsL (condL c base yes no)).Sublist [labA2 base, labB2 base] := by
  have hs : ∀ y n, (labsL (sameC c (labA2 base) y n)).Sublist [labA2 base, labB2 base] := fun y n => by
    rw [labs_same]; exact List.Sublist.cons_cons _ (List.nil_sublist _)
  have hm : ∀ o y n, o ≠ 0 → (labsL (moreC c o (labA2 base) (labB2 base) y n)).Sublist [labA2 base, labB2 base] := fun o y n ho => by
    rw [labs_more _ _ _ _ _ _ ho]; exact List.Sublist.refl _
  unfold condL
  repeat' split
  all_goals first | exact hs _ _ | exact hm _ _ _ (by decide) | exact List.nil_sublist _

theorem plain_fit {o k : Int} (h : insP o k 0 0) (h7 : o ≠ 7) : fitsP (plainL o k) := by
  have hk : okW (o, k, 0, 0) = true := by rw [okW_P]; exact h
  refine .inr ⟨?_, rfl, hk, (fits_bare hk).2 ⟨rfl, rfl, fun e => absurd e h7⟩⟩
  show o ≠ 0
  have h1 : 1 ≤ o ∧ o ≤ 8 := okW_op hk
  omega

theorem load_fit {k : Int} (h : 0 ≤ k ∧ k ≤ 7) : fitsP (plainL 1 k) := plain_fit ⟨by omega, by omega, by omega, by omega, by omega, by omega, by omega, by omega, .inr ⟨rfl, rfl⟩, fun _ => h.2, fun h => by omega⟩ (by decide)

theorem and_fit {k : Int} (h : 0 ≤ k ∧ k ≤ 4294967295) : fitsP (plainL 2 k) := plain_fit ⟨by omega, by omega, h.1, h.2, by omega, by omega, by omega, by omega, .inr ⟨rfl, rfl⟩, fun h => by omega, fun h => by omega⟩ (by decide)

theorem ret_fit {k : Int} (h : 0 ≤ k ∧ k ≤ 4294967295) : fitsP (plainL 8 k) := plain_fit ⟨by omega, by omega, h.1, h.2, by omega, by omega, by omega, by omega, .inr ⟨rfl, rfl⟩, fun h => by omega, fun h => by omega⟩ (by decide)

def fitsS (ls : List Ln) : Prop := ∀ l, l ∈ ls → fitsP l

theorem fitsS_nil : fitsS [] := fun l h => by cases h

theorem fitsS_cons {l : Ln} {ls : List Ln} (h : fitsP l) (hs : fitsS ls) : fitsS (l :: ls) := fun m hm => by
  rcases List.mem_cons.1 hm with rfl | h1
  · exact h
  · exact hs _ h1

theorem fitsS_app {ls ms : List Ln} (h : fitsS ls) (hs : fitsS ms) : fitsS (ls ++ ms) := fun m hm => by
  rcases List.mem_append.1 hm with h1 | h1
  · exact h _ h1
  · exact hs _ h1

theorem cond_halves {c : CN} (h : condB c = true) : (0 ≤ c.mh ∧ c.mh ≤ 4294967295) ∧ (0 ≤ c.ml ∧ c.ml ≤ 4294967295) ∧ (0 ≤ c.vh ∧ c.vh ≤ 4294967295) ∧ (0 ≤ c.vl ∧ c.vl ≤ 4294967295) := by
  obtain ⟨h1, h2⟩ := condB_wide h
  simp only [wideB, Bool.and_eq_true, halfB_true] at h1 h2
  exact ⟨h1.1, h1.2, h2.1, h2.2⟩

theorem fits_same {c : CN} {a yes no : ByteArray} (h : condB c = true) (ha : 1 ≤ a.size ∧ a.size ≤ 12) : fitsS (sameC c a yes no) := by
  obtain ⟨h0, h2, _, _⟩ := condB_parts h
  obtain ⟨w1, w2, w3, w4⟩ := cond_halves h
  exact fitsS_cons (load_fit (by omega)) (fitsS_cons (and_fit w1) (fitsS_cons (ask_fit (by decide) w3) (fitsS_cons (place_fit ha) (fitsS_cons (load_fit (by omega)) (fitsS_cons (and_fit w2) (fitsS_cons (ask_fit (by decide) w4) fitsS_nil))))))

theorem fits_more {c : CN} {o : Int} {a b yes no : ByteArray} (h : condB c = true) (ho : 3 ≤ o ∧ o ≤ 5) (ha : 1 ≤ a.size ∧ a.size ≤ 12) (hb : 1 ≤ b.size ∧ b.size ≤ 12) : fitsS (moreC c o a b yes no) := by
  obtain ⟨h0, h2, _, _⟩ := condB_parts h
  obtain ⟨w1, w2, w3, w4⟩ := cond_halves h
  exact fitsS_cons (load_fit (by omega)) (fitsS_cons (and_fit w1) (fitsS_cons (ask_fit (by decide) w3) (fitsS_cons (place_fit ha) (fitsS_cons (ask_fit (by decide) w3) (fitsS_cons (place_fit hb) (fitsS_cons (load_fit (by omega)) (fitsS_cons (and_fit w2) (fitsS_cons (ask_fit ho w4) fitsS_nil))))))))

theorem fits_cond {c : CN} {base yes no : ByteArray} (hb : base.size ≤ 11) : fitsS (condL c base yes no) := by
  have ha : 1 ≤ (labA2 base).size ∧ (labA2 base).size ≤ 12 := by unfold labA2; rw [ByteArray.size_append]; show 1 ≤ base.size + 1 ∧ base.size + 1 ≤ 12; omega
  have hbb : 1 ≤ (labB2 base).size ∧ (labB2 base).size ≤ 12 := by unfold labB2; rw [ByteArray.size_append]; show 1 ≤ base.size + 1 ∧ base.size + 1 ≤ 12; omega
  unfold condL
  split
  · rename_i hc
    repeat' split
    all_goals first | exact fits_same hc ha | exact fits_more hc (by decide) ha hbb
  · exact fitsS_nil

/-! One condition, answered by 1 or 2. -/

def endsL : List Ln := [placeL ⟨#[121, 101, 115]⟩, plainL 8 1, placeL ⟨#[110, 111]⟩, plainL 8 2]

def condF (c : CN) : List Ln := condL c ⟨#[120]⟩ ⟨#[121, 101, 115]⟩ ⟨#[110, 111]⟩ ++ endsL

theorem condF_len (c : CN) : 4 ≤ (condF c).length ∧ (condF c).length ≤ 13 := by
  have := condL_len c ⟨#[120]⟩ ⟨#[121, 101, 115]⟩ ⟨#[110, 111]⟩
  simp only [condF, endsL, List.length_append, List.length_cons, List.length_nil]
  omega

theorem last_of {ls : List Ln} {l : Ln} : ((ls ++ [l]).getD ((ls ++ [l]).length - 1) zeroL) = l := by
  have : (ls ++ [l]).length - 1 = ls.length + 0 := by simp
  rw [this, getL_right]
  rfl

theorem condF_lines (c : CN) : linesP (condF c) := by
  have hlen := condF_len c
  refine lines_mk (by omega) (by omega) ?_ ?_ ?_ ?_
  · show ((condL c _ _ _ ++ ([placeL ⟨#[121, 101, 115]⟩, plainL 8 1, placeL ⟨#[110, 111]⟩] ++ [plainL 8 2])).getD ((condL c _ _ _ ++ ([placeL ⟨#[121, 101, 115]⟩, plainL 8 1, placeL ⟨#[110, 111]⟩] ++ [plainL 8 2])).length - 1) zeroL).wd.1 = 8
    rw [← List.append_assoc, last_of]
    rfl
  · have hd : ([labA2 ⟨#[120]⟩, labB2 ⟨#[120]⟩] ++ [⟨#[121, 101, 115]⟩, ⟨#[110, 111]⟩] : List ByteArray).Nodup := by decide +kernel
    refine List.Nodup.sublist ?_ hd
    unfold condF
    rw [labs_app]
    exact List.Sublist.append (labs_cond _ _ _ _) (by exact List.Sublist.refl _)
  · exact fitsS_app (fits_cond (by decide)) (fitsS_cons (place_fit (by decide)) (fitsS_cons (ret_fit (by decide)) (fitsS_cons (place_fit (by decide)) (fitsS_cons (ret_fit (by decide)) fitsS_nil))))
  · exact leadS_cond hasL_head (hasL_cons (hasL_cons hasL_head)) ⟨lead_place, lead_plain (by decide), lead_place, lead_plain (by decide), trivial⟩

theorem condF_runs {c : CN} {arch num : Int} {ws : List (Int × Int)} {f : Nat} {r res : Int} (hc : condB c = true) (hk : callB arch num ws = true) (h : LRuns (condF c) (fieldR arch num ws) f 0 r res) : res = if asB (cmpC c ws) c.cm = true then 1 else 2 := by
  have hl := condF_lines c
  obtain ⟨f1, r1, h1⟩ := cond_runs (pre := []) (rest := endsL) (full := condF c) rfl hl hc hk h
  have g : ∀ j, (condF c).getD ((condL c ⟨#[120]⟩ ⟨#[121, 101, 115]⟩ ⟨#[110, 111]⟩).length + j) zeroL = endsL.getD j zeroL := fun j => by unfold condF; rw [getL_right]
  have hlen : (condF c).length = (condL c ⟨#[120]⟩ ⟨#[121, 101, 115]⟩ ⟨#[110, 111]⟩).length + 4 := by simp [condF, endsL]
  generalize (condL c ⟨#[120]⟩ ⟨#[121, 101, 115]⟩ ⟨#[110, 111]⟩).length = n at *
  have g0 : (condF c).getD n zeroL = placeL ⟨#[121, 101, 115]⟩ := g 0
  have g1 : (condF c).getD (n + 1) zeroL = plainL 8 1 := g 1
  have g2 : (condF c).getD (n + 2) zeroL = placeL ⟨#[110, 111]⟩ := g 2
  have g3 : (condF c).getD (n + 2 + 1) zeroL = plainL 8 2 := g 3
  have p0 : pos (condF c) ⟨#[121, 101, 115]⟩ = n := pos_of hl (by omega) g0
  have p2 : pos (condF c) ⟨#[110, 111]⟩ = n + 2 := pos_of hl (by omega) g2
  rw [p0, p2] at h1
  split at h1
  · rename_i e
    rw [if_pos e]
    obtain ⟨f2, h2⟩ := step_place h1 g0
    exact step_ret h2 g1
  · rename_i e
    rw [if_neg e]
    obtain ⟨f2, h2⟩ := step_place h1 g2
    exact step_ret h2 g3

/-! A rule's lines, answered by its own number or by 400000. -/

theorem leadS_rules {base no : ByteArray} {cs : List CN} : ∀ (n : Nat) {tail : List Ln}, hasL tail no → leadS tail → leadS (rulesL base no cs n ++ tail)
  | 0, _, _, ht => ht
  | n + 1, tail, hn, ht => by
    rw [rulesL, List.append_assoc, List.append_assoc]
    exact leadS_rules n (hasL_app (hasL_cons hn)) (leadS_cond hasL_head (hasL_cons hn) ⟨lead_place, ht⟩)

theorem fits_rules {base no : ByteArray} {cs : List CN} : ∀ (n : Nat), (∀ k, k < n → (numB base k).size ≤ 11 ∧ (1 ≤ (nextB base k).size ∧ (nextB base k).size ≤ 12)) → fitsS (rulesL base no cs n)
  | 0, _ => fitsS_nil
  | n + 1, h => fitsS_app (fits_rules n fun k hk => h k (by omega)) (fitsS_app (fits_cond (h n (by omega)).1) (fitsS_cons (place_fit (h n (by omega)).2) fitsS_nil))

def rlabs (base : ByteArray) : Nat → List ByteArray
  | 0 => []
  | n + 1 => rlabs base n ++ ([labA2 (numB base n), labB2 (numB base n)] ++ [nextB base n])

theorem labs_rules (base no : ByteArray) (cs : List CN) : ∀ n, (labsL (rulesL base no cs n)).Sublist (rlabs base n)
  | 0 => List.Sublist.refl _
  | n + 1 => by
    rw [rulesL, labs_app, labs_app]
    exact List.Sublist.append (labs_rules base no cs n) (List.Sublist.append (labs_cond _ _ _ _) (List.Sublist.refl _))

theorem rules_runs {full : List Ln} {base no : ByteArray} {cs : List CN} {arch num : Int} {ws : List (Int × Int)} {f : Nat} {r res : Int} (hl : linesP full) (hk : callB arch num ws = true) (h : LRuns full (fieldR arch num ws) f 0 r res) :
    ∀ (n : Nat) {tail : List Ln}, full = rulesL base no cs n ++ tail → (∀ k, k < n → condB (cs.getD k c0) = true) →
      (∃ f' r', LRuns full (fieldR arch num ws) f' (rulesL base no cs n).length r' res ∧ ∀ k, k < n → asB (cmpC (cs.getD k c0) ws) (cs.getD k c0).cm = true) ∨
      (∃ f' r', LRuns full (fieldR arch num ws) f' (pos full no) r' res ∧ ∃ k, k < n ∧ ¬ asB (cmpC (cs.getD k c0) ws) (cs.getD k c0).cm = true)
  | 0, _, _, _ => .inl ⟨_, _, h, fun k hk => by omega⟩
  | n + 1, tail, he, hc => by
    rw [rulesL, List.append_assoc, List.append_assoc] at he
    rcases rules_runs hl hk h n he (fun k hk => hc k (by omega)) with ⟨f1, r1, h1, ha⟩ | ⟨f1, r1, h1, k, hk1, hn⟩
    · obtain ⟨f2, r2, h2⟩ := cond_runs he hl (hc n (by omega)) hk h1
      by_cases e : asB (cmpC (cs.getD n c0) ws) (cs.getD n c0).cm = true
      · rw [if_pos e] at h2
        have g0 : full.getD ((rulesL base no cs n).length + ((condL (cs.getD n c0) (numB base n) (nextB base n) no).length + 0)) zeroL = placeL (nextB base n) := by
          rw [he, getL_right, getL_right]; rfl
        have hlt : (rulesL base no cs n).length + ((condL (cs.getD n c0) (numB base n) (nextB base n) no).length + 0) < full.length := by
          rw [he]; simp
        rw [pos_of hl hlt g0] at h2
        obtain ⟨f3, h3⟩ := step_place h2 g0
        refine .inl ⟨f3, r2, ?_, fun k hk => ?_⟩
        · rw [rulesL, List.length_append, List.length_append]
          exact h3
        · rcases Nat.lt_or_ge k n with hkn | hkn
          · exact ha k hkn
          · obtain rfl : k = n := by omega
            exact e
      · rw [if_neg e] at h2
        exact .inr ⟨f2, r2, h2, n, by omega, e⟩
    · exact .inr ⟨f1, r1, h1, k, by omega, hn⟩

def restL : List Ln := [placeL ⟨#[110, 111]⟩, plainL 8 400000]

def ruleF (r : RN) : List Ln := ruleL r ⟨#[114]⟩ ⟨#[110, 111]⟩ ++ restL

theorem ruleF_eq (r : RN) : ruleF r = rulesL ⟨#[114]⟩ ⟨#[110, 111]⟩ r.conds r.conds.length ++ [plainL 8 (resV r.act r.data), placeL ⟨#[110, 111]⟩, plainL 8 400000] := by
  unfold ruleF ruleL restL
  rw [List.append_assoc]
  rfl

theorem resV_range (a d : Int) : 0 ≤ resV a d ∧ resV a d ≤ 393215 := by
  unfold resV
  split
  · rename_i h
    simp only [Bool.and_eq_true, inB_true4] at h
    omega
  · omega

theorem ruleF_len {r : RN} (h : r.conds.length ≤ 3) : 3 ≤ (ruleF r).length ∧ (ruleF r).length ≤ 33 := by
  have := rulesL_len ⟨#[114]⟩ ⟨#[110, 111]⟩ r.conds r.conds.length
  rw [ruleF_eq]
  simp only [List.length_append, List.length_cons, List.length_nil]
  omega

theorem figB_0 : figB 0 = ⟨#[48]⟩ := by unfold figB; rw [decS_small (by omega)] <;> rfl
theorem figB_1 : figB 1 = ⟨#[49]⟩ := by unfold figB; rw [decS_small (by omega)] <;> rfl
theorem figB_2 : figB 2 = ⟨#[50]⟩ := by unfold figB; rw [decS_small (by omega)] <;> rfl

theorem rlabs_once {n : Nat} (h : n ≤ 3) : (rlabs ⟨#[114]⟩ n ++ [(⟨#[110, 111]⟩ : ByteArray)]).Nodup := by
  have h3 : (rlabs ⟨#[114]⟩ 3 ++ [(⟨#[110, 111]⟩ : ByteArray)]).Nodup := by
    simp only [rlabs, numB, nextB, figB_0, figB_1, figB_2]
    decide +kernel
  have hs : ∀ a b, a ≤ b → (rlabs ⟨#[114]⟩ a).Sublist (rlabs ⟨#[114]⟩ b) := fun a b hab => by
    induction hab with
    | refl => exact List.Sublist.refl _
    | step _ ih => exact ih.trans (List.sublist_append_left _ _)
  exact List.Nodup.sublist (List.Sublist.append (hs n 3 h) (List.Sublist.refl _)) h3

theorem ruleF_lines {r : RN} (h3 : r.conds.length ≤ 3) : linesP (ruleF r) := by
  have hlen := ruleF_len h3
  rw [ruleF_eq] at hlen ⊢
  refine lines_mk (by omega) (by omega) ?_ ?_ ?_ ?_
  · show ((rulesL _ _ _ _ ++ ([plainL 8 (resV r.act r.data), placeL ⟨#[110, 111]⟩] ++ [plainL 8 400000])).getD ((rulesL _ _ _ _ ++ ([plainL 8 (resV r.act r.data), placeL ⟨#[110, 111]⟩] ++ [plainL 8 400000])).length - 1) zeroL).wd.1 = 8
    rw [← List.append_assoc, last_of]
    rfl
  · refine List.Nodup.sublist ?_ (rlabs_once h3)
    rw [labs_app]
    exact List.Sublist.append (labs_rules _ _ _ _) (by exact List.Sublist.refl _)
  · refine fitsS_app (fits_rules _ fun k hk => ?_) (fitsS_cons (ret_fit (by have := resV_range r.act r.data; omega)) (fitsS_cons (place_fit (by decide)) (fitsS_cons (ret_fit (by decide)) fitsS_nil)))
    have hf : (figB k).size ≤ 8 := figB_size (by omega)
    unfold numB nextB
    rw [ByteArray.size_append, ByteArray.size_append, ByteArray.size_append]
    show 1 + (figB k).size ≤ 11 ∧ 1 ≤ 1 + 1 + (figB k).size ∧ 1 + 1 + (figB k).size ≤ 12
    omega
  · exact leadS_rules _ (hasL_cons hasL_head) ⟨lead_plain (by decide), lead_place, lead_plain (by decide), trivial⟩

theorem ruleF_runs {r : RN} {arch num : Int} {ws : List (Int × Int)} {f : Nat} {g res : Int} (h3 : r.conds.length ≤ 3) (hc : r.conds.all condB = true) (hk : callB arch num ws = true) (hn : r.nums = []) (h : LRuns (ruleF r) (fieldR arch num ws) f 0 g res) : ruleH r arch num ws = (res == resV r.act r.data) := by
  have hl := ruleF_lines h3
  have hcs : ∀ k, k < r.conds.length → condB (r.conds.getD k c0) = true := fun k hk => by
    rw [List.getD_eq_getElem?_getD, List.getElem?_eq_getElem hk]
    exact List.all_eq_true.1 hc _ (List.getElem_mem hk)
  have hH : ∀ k, k < r.conds.length → condH (r.conds.getD k c0) arch num ws = asB (cmpC (r.conds.getD k c0) ws) (r.conds.getD k c0).cm := fun k hkk => condH_yes (hcs k hkk) hk
  have hR := resV_range r.act r.data
  have he := ruleF_eq r
  have gg : ∀ j, (ruleF r).getD ((rulesL ⟨#[114]⟩ ⟨#[110, 111]⟩ r.conds r.conds.length).length + j) zeroL = [plainL 8 (resV r.act r.data), placeL ⟨#[110, 111]⟩, plainL 8 400000].getD j zeroL := fun j => by rw [he, getL_right]
  have hlen : (ruleF r).length = (rulesL ⟨#[114]⟩ ⟨#[110, 111]⟩ r.conds r.conds.length).length + 3 := by rw [he]; simp
  have hrun := rules_runs hl hk h _ he hcs
  generalize (rulesL ⟨#[114]⟩ ⟨#[110, 111]⟩ r.conds r.conds.length).length = m at *
  have g0 : (ruleF r).getD m zeroL = plainL 8 (resV r.act r.data) := gg 0
  have g1 : (ruleF r).getD (m + 1) zeroL = placeL ⟨#[110, 111]⟩ := gg 1
  have g2 : (ruleF r).getD (m + 1 + 1) zeroL = plainL 8 400000 := gg 2
  have hnum : numH r.nums num = true := by rw [hn]; rfl
  unfold ruleH
  rw [hnum, Bool.true_and]
  rcases hrun with ⟨f1, r1, h1, ha⟩ | ⟨f1, r1, h1, k, hkk, hx⟩
  · rw [step_ret h1 g0, beq_self_eq_true, List.all_eq_true]
    intro c hcm
    obtain ⟨j, hj, rfl⟩ := List.mem_iff_getElem.1 hcm
    have := (hH j hj).trans (ha j hj)
    rw [List.getD_eq_getElem?_getD, List.getElem?_eq_getElem hj] at this
    exact this
  · rw [pos_of hl (by omega) g1] at h1
    obtain ⟨f2, h2⟩ := step_place h1 g1
    have hres := step_ret h2 g2
    have hb : (res == resV r.act r.data) = false := by
      rw [beq_eq_false_iff_ne]
      omega
    rw [hb, List.all_eq_false]
    refine ⟨r.conds.getD k c0, ?_, ?_⟩
    · rw [List.getD_eq_getElem?_getD, List.getElem?_eq_getElem hkk]
      exact List.getElem_mem hkk
    · rw [hH k hkk]
      exact hx

/-- Lines that are laid out as P. -/
def Laid12 (full : List Ln) (P : List Wd) : Prop := P.length ≤ 400 ∧ ∀ (a : Option Addr) (cap : Nat) (w : World), Lns w a full → Calls Tryd.prog 9 #[.slice a full.length cap] w fun e w' => ∃ v, e = .returned (.tuple #[v, .bool true]) ∧ Own4 w' w.heap.size v P ∧ Ext w w'

theorem full_run {full : List Ln} (hl : linesP full) (h : full.length ≤ 130) {arch num : Int} {ws : List (Int × Int)} (hk : callB arch num ws = true) :
    ∃ P, Laid12 full P ∧ ∃ res mm, RunR P arch num ws res mm ∧ ∃ f, LRuns full (fieldR arch num ws) f 0 0 res := by
  obtain ⟨s, hs⟩ := sizes_some hl
  have hfew := few_of hl hs h
  have h4 : cnt s full.length ≤ 400 := by
    unfold fewP at hfew
    rw [inB_true] at hfew
    omega
  have hck := check_lay hl hs h4
  have hlen := layL_length hs (Nat.le_refl full.length)
  refine ⟨layL full s full.length, ⟨by omega, fun a cap w hL => ?_⟩, ?_⟩
  · have := sLayout_yes a cap full s w hL hl hs
    rw [hfew, if_pos rfl] at this
    exact this
  · obtain ⟨res, mm, hR⟩ := runR_some (layL full s full.length) arch num ws
    refine ⟨res, mm, hR, ?_⟩
    rcases hR with ⟨_, _, f, hf⟩ | ⟨h, _⟩
    · exact lay_runs hl hs full.length 0 f 0 0 res mm (by omega) (by have := hl.1; omega) hf
    · rcases h with h | h
      · rw [hck] at h; cases h
      · rw [hk] at h; cases h

theorem cond_end {c : CN} {arch num : Int} {ws : List (Int × Int)} (hc : condB c = true) (hk : callB arch num ws = true) :
    ∃ P, Laid12 (condF c) P ∧ ∃ res mm, RunR P arch num ws res mm ∧ res = if condH c arch num ws = true then 1 else 2 := by
  obtain ⟨P, hP, res, mm, hR, f, hf⟩ := full_run (condF_lines c) (by have := condF_len c; omega) hk
  refine ⟨P, hP, res, mm, hR, ?_⟩
  rw [condH_yes hc hk]
  exact condF_runs hc hk hf

theorem rule_end {r : RN} {arch num : Int} {ws : List (Int × Int)} (h3 : r.conds.length ≤ 3) (hc : r.conds.all condB = true) (hn : r.nums = []) (hk : callB arch num ws = true) :
    ∃ P, Laid12 (ruleF r) P ∧ ∃ res mm, RunR P arch num ws res mm ∧ ruleH r arch num ws = (res == resV r.act r.data) := by
  obtain ⟨P, hP, res, mm, hR, f, hf⟩ := full_run (ruleF_lines h3) (by have := ruleF_len h3; omega) hk
  exact ⟨P, hP, res, mm, hR, ruleF_runs h3 hc hk hn hf⟩

theorem ruleB_conds3 {r : RN} (h : ruleB r = true) : r.conds.length ≤ 3 ∧ r.conds.all condB = true := by
  simp only [ruleB, condsB, Bool.and_eq_true, decide_eq_true_eq] at h
  exact h.2

end Go.Proofs.YthflflhcbnianaaDoor
