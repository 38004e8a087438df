/- A right policy's text, as signs, and that what is shown is read again. -/
import Derived.Test.YtojaohdmfahpmaaGreatDoorReadMath
namespace Go.Proofs.YtojaohdmfahpmaaGreatDoor
open Go.RowKit
set_option linter.unusedVariables false

/- Texts. -/

def numT (n : Int) : List UInt8 := decS n.toNat

def outT (a d : Int) : List UInt8 := actL.getD a.toNat [] ++ [32] ++ numT d

def wideT (h l : Int) : List UInt8 := numT h ++ [32, 58, 32] ++ numT l

def condT (c : CN) : List UInt8 :=
  [97, 114, 103, 32] ++ numT c.arg ++ [32, 38, 32] ++ wideT c.mh c.ml ++ [32] ++ cmL.getD (c.cm.toNat - 1) [] ++ [32] ++ wideT c.vh c.vl

/-- Each of these numbers behind a comma. -/
def commaT (l : List Int) : List UInt8 := l.flatMap fun n => [32, 44, 32] ++ numT n

def numsT : List Int → List UInt8
  | [] => [97, 110, 121]
  | n :: l => numT n ++ commaT l

/-- Each of these conditions behind 'and'. -/
def andT (l : List CN) : List UInt8 := l.flatMap fun c => [32, 97, 110, 100, 32] ++ condT c

def condsT : List CN → List UInt8
  | [] => []
  | c :: l => [32, 105, 102, 32] ++ condT c ++ andT l

def ruleT (r : RN) : List UInt8 :=
  [111, 110, 32] ++ numsT r.nums ++ condsT r.conds ++ [32, 100, 111, 32] ++ outT r.act r.data ++ [32, 59]

def rulesT (l : List RN) : List UInt8 := l.flatMap fun r => 32 :: ruleT r

def headT (p : PN) : List UInt8 :=
  [97, 114, 99, 104, 32] ++ numT p.arch ++ [32, 59, 32, 100, 101, 102, 97, 117, 108, 116, 32] ++ outT p.act p.data ++ [32, 59]

def showL (p : PN) : List UInt8 := headT p ++ rulesT p.rules

/-- What is shown: the text, and whether there is one. -/
def showR (p : PN) : List UInt8 × Bool := if policyB p then (if 1200 < (showL p).length then ([], false) else (showL p, true)) else ([], false)

/- The same as signs. -/

def gN (n : Int) : Sg := (2, [], n)
def gW (t : List UInt8) : Sg := (1, t, 0)
def gM (t : List UInt8) : Sg := (3, t, 0)

def outG (a d : Int) : List Sg := [gW (actL.getD a.toNat []), gN d]

def wideG (h l : Int) : List Sg := [gN h, gM tColon, gN l]

def condG (c : CN) : List Sg := [gW tArg, gN c.arg, gM tAmp] ++ wideG c.mh c.ml ++ [gM (cmL.getD (c.cm.toNat - 1) [])] ++ wideG c.vh c.vl

def commaG (l : List Int) : List Sg := l.flatMap fun n => [gM tComma, gN n]

def numsG : List Int → List Sg
  | [] => [gW tAny]
  | n :: l => gN n :: commaG l

def andG (l : List CN) : List Sg := l.flatMap fun c => gW tAnd :: condG c

def condsG : List CN → List Sg
  | [] => []
  | c :: l => gW tIf :: (condG c ++ andG l)

def ruleG (r : RN) : List Sg := gW tOn :: (numsG r.nums ++ condsG r.conds ++ gW tDo :: (outG r.act r.data ++ [gM tSemi]))

def rulesG (l : List RN) : List Sg := l.flatMap ruleG

def polG (p : PN) : List Sg := [gW tArch, gN p.arch, gM tSemi, gW tDefault] ++ outG p.act p.data ++ [gM tSemi] ++ rulesG p.rules

/-- Texts of signs, a blank ahead of each. -/
def blT (L : List Sg) : List UInt8 := L.flatMap fun p => 32 :: txL p

theorem blT_append (a b : List Sg) : blT (a ++ b) = blT a ++ blT b := by simp [blT]
theorem blT_cons (p : Sg) (b : List Sg) : blT (p :: b) = 32 :: txL p ++ blT b := by simp [blT]
theorem blT_nil : blT [] = [] := rfl

theorem txL_N (n : Int) : txL (gN n) = numT n := by simp [txL, gN, numT]
theorem txL_W (t : List UInt8) : txL (gW t) = t := by simp [txL, gW]
theorem txL_M (t : List UInt8) : txL (gM t) = t := by simp [txL, gM]

theorem textN_take (p : Sg) (L : List Sg) : ∀ k, k ≤ L.length → textN (p :: L) (k + 1) = txL p ++ blT (L.take k)
  | 0, _ => by simp [textN, blT]
  | k + 1, h => by
    rw [textN, textN_take p L k (by omega)]
    have hk : k < L.length := by omega
    rw [List.take_succ_eq_append_getElem hk, blT_append]
    simp [blT, List.getD_eq_getElem?_getD, hk]

theorem textN_all (p : Sg) (L : List Sg) : textN (p :: L) (p :: L).length = txL p ++ blT L := by
  have := textN_take p L L.length (Nat.le_refl _)
  simpa using this

theorem blT_flat {α : Type} (l : List α) (f : α → List Sg) (g : α → List UInt8) (h : ∀ a, blT (f a) = g a) : blT (l.flatMap f) = l.flatMap g := by
  induction l with
  | nil => rfl
  | cons a l ih => simp [blT_append, h, ih]

theorem bl_out (a d : Int) : blT (outG a d) = 32 :: outT a d := by simp [outG, blT_cons, blT_nil, txL_N, txL_W, outT]
theorem bl_wide (h l : Int) : blT (wideG h l) = 32 :: wideT h l := by simp [wideG, blT_cons, blT_nil, txL_N, txL_M, wideT]
theorem bl_cond (c : CN) : blT (condG c) = 32 :: condT c := by
  simp [condG, blT_cons, blT_append, txL_N, txL_W, txL_M, bl_wide, condT]
theorem bl_comma (l : List Int) : blT (commaG l) = commaT l := blT_flat l _ _ fun n => by simp [blT_cons, blT_nil, txL_N, txL_M]
theorem bl_nums (l : List Int) : blT (numsG l) = 32 :: numsT l := by
  cases l with
  | nil => simp [numsG, numsT, blT_cons, blT_nil, txL_W]
  | cons n l => simp [numsG, numsT, blT_cons, txL_N, bl_comma]
theorem bl_and (l : List CN) : blT (andG l) = andT l := blT_flat l _ _ fun c => by simp [blT_cons, txL_W, bl_cond]
theorem bl_conds (l : List CN) : blT (condsG l) = condsT l := by
  cases l with
  | nil => rfl
  | cons c l => simp [condsG, condsT, blT_cons, blT_append, txL_W, bl_cond, bl_and]
theorem bl_rule (r : RN) : blT (ruleG r) = 32 :: ruleT r := by
  simp [ruleG, ruleT, blT_cons, blT_nil, blT_append, txL_W, txL_M, bl_nums, bl_conds, bl_out]
theorem bl_rules (l : List RN) : blT (rulesG l) = rulesT l := blT_flat l _ _ bl_rule

theorem text_pol (p : PN) : textN (polG p) (polG p).length = showL p := by
  have := textN_all (gW tArch) ([gN p.arch, gM tSemi, gW tDefault] ++ outG p.act p.data ++ [gM tSemi] ++ rulesG p.rules)
  have e : polG p = gW tArch :: ([gN p.arch, gM tSemi, gW tDefault] ++ outG p.act p.data ++ [gM tSemi] ++ rulesG p.rules) := by simp [polG]
  rw [e, this]
  simp [showL, headT, blT_cons, blT_append, txL_W, txL_M, txL_N, bl_out, bl_rules]

/- The signs are right. -/

theorem gR_N {n : Int} (h : halfB n = true) : SgR (gN n) := by
  simp [halfB] at h
  exact .inr (.inl ⟨rfl, rfl, h.1, h.2⟩)

theorem gR_W {t : List UInt8} (h : 1 ≤ t.length ∧ t.length ≤ 12 ∧ ∀ b ∈ t, kindB b = 1) : SgR (gW t) := .inl ⟨rfl, rfl, h.1, h.2.1, h.2.2⟩

theorem gR_M {t : List UInt8} (h : isMarkL t = true) : SgR (gM t) := .inr (.inr ⟨rfl, rfl, h⟩)

theorem words_ok : ∀ t ∈ [tArch, tDefault, tOn, tAny, tIf, tAnd, tDo, tArg], 1 ≤ t.length ∧ t.length ≤ 12 ∧ ∀ b ∈ t, kindB b = 1 := by decide
theorem acts_ok : ∀ k, k < 6 → 1 ≤ (actL.getD k []).length ∧ (actL.getD k []).length ≤ 12 ∧ ∀ b ∈ actL.getD k [], kindB b = 1 := by decide
theorem marks_ok : ∀ t ∈ [tSemi, tComma, tAmp, tColon], isMarkL t = true := by decide
theorem cms_ok : ∀ k, k < 6 → isMarkL (cmL.getD k []) = true := by decide

theorem half_small {n : Int} {m : Int} (hm : m ≤ 4294967295) (h : inB n 0 m = true) : halfB n = true := by
  simp [inB] at h; simp [halfB]; omega

theorem out_ok {a d : Int} (h : outB a d = true) : ∀ p ∈ outG a d, SgR p := by
  simp only [outB, Bool.and_eq_true] at h
  obtain ⟨h1, h2⟩ := h
  intro p hp
  simp [outG] at hp
  rcases hp with rfl | rfl
  · simp [inB] at h1
    exact gR_W (acts_ok a.toNat (by omega))
  · exact gR_N (half_small (by decide) h2)

theorem wide_ok {h l : Int} (hw : wideB (h, l) = true) : ∀ p ∈ wideG h l, SgR p := by
  simp only [wideB, Bool.and_eq_true] at hw
  intro p hp
  simp [wideG] at hp
  rcases hp with rfl | rfl | rfl
  · exact gR_N hw.1
  · exact gR_M (marks_ok _ (by simp))
  · exact gR_N hw.2

theorem cond_ok {c : CN} (h : condB c = true) : ∀ p ∈ condG c, SgR p := by
  simp only [condB, Bool.and_eq_true] at h
  obtain ⟨⟨⟨h1, h2⟩, h3⟩, h4⟩ := h
  intro p hp
  simp only [condG, List.mem_append, List.mem_cons, List.not_mem_nil, or_false] at hp
  rcases hp with ((hp | hp) | hp) | hp
  · rcases hp with rfl | rfl | rfl
    · exact gR_W (words_ok _ (by simp))
    · exact gR_N (half_small (by decide) h1)
    · exact gR_M (marks_ok _ (by simp))
  · exact wide_ok h3 p hp
  · subst hp
    simp [inB] at h2
    exact gR_M (cms_ok _ (by omega))
  · exact wide_ok h4 p hp

theorem numsB_halves {l : List Int} (h : numsB l = true) : ∀ n ∈ l, halfB n = true := by
  intro n hn
  unfold numsB at h
  simp only [Bool.and_eq_true, List.all_eq_true, List.mem_range] at h
  obtain ⟨i, hi, rfl⟩ := List.getElem_of_mem hn
  have := (h.2 i hi).1
  simpa [List.getD_eq_getElem?_getD, hi] using this

theorem comma_ok {l : List Int} (h : ∀ n ∈ l, halfB n = true) : ∀ p ∈ commaG l, SgR p := by
  intro p hp
  simp only [commaG, List.mem_flatMap, List.mem_cons, List.not_mem_nil, or_false] at hp
  obtain ⟨n, hn, rfl | rfl⟩ := hp
  · exact gR_M (marks_ok _ (by simp))
  · exact gR_N (h n hn)

theorem nums_ok {l : List Int} (h : ∀ n ∈ l, halfB n = true) : ∀ p ∈ numsG l, SgR p := by
  cases l with
  | nil =>
    intro p hp
    simp [numsG] at hp
    subst hp
    exact gR_W (words_ok _ (by simp))
  | cons n l =>
    intro p hp
    simp only [numsG, List.mem_cons] at hp
    rcases hp with rfl | hp
    · exact gR_N (h n (by simp))
    · exact comma_ok (fun m hm => h m (by simp [hm])) p hp

theorem and_ok {l : List CN} (h : ∀ c ∈ l, condB c = true) : ∀ p ∈ andG l, SgR p := by
  intro p hp
  simp only [andG, List.mem_flatMap, List.mem_cons] at hp
  obtain ⟨c, hc, rfl | hp⟩ := hp
  · exact gR_W (words_ok _ (by simp))
  · exact cond_ok (h c hc) p hp

theorem conds_ok {l : List CN} (h : ∀ c ∈ l, condB c = true) : ∀ p ∈ condsG l, SgR p := by
  cases l with
  | nil => intro p hp; simp [condsG] at hp
  | cons c l =>
    intro p hp
    simp only [condsG, List.mem_cons, List.mem_append] at hp
    rcases hp with rfl | hp | hp
    · exact gR_W (words_ok _ (by simp))
    · exact cond_ok (h c (by simp)) p hp
    · exact and_ok (fun d hd => h d (by simp [hd])) p hp

theorem ruleB_parts {r : RN} (h : ruleB r = true) : outB r.act r.data = true ∧ numsB r.nums = true ∧ (∀ c ∈ r.conds, condB c = true) := by
  simp only [ruleB, Bool.and_eq_true, condsB, List.all_eq_true] at h
  exact ⟨h.1.1, h.1.2, h.2.2⟩

theorem rule_ok {r : RN} (h : ruleB r = true) : ∀ p ∈ ruleG r, SgR p := by
  obtain ⟨h1, h2, h3⟩ := ruleB_parts h
  intro p hp
  simp only [ruleG, List.mem_cons, List.mem_append, List.not_mem_nil, or_false] at hp
  rcases hp with rfl | (hp | hp) | rfl | hp | rfl
  · exact gR_W (words_ok _ (by simp))
  · exact nums_ok (numsB_halves h2) p hp
  · exact conds_ok h3 p hp
  · exact gR_W (words_ok _ (by simp))
  · exact out_ok h1 p hp
  · exact gR_M (marks_ok _ (by simp))

theorem policyB_parts {p : PN} (h : policyB p = true) : halfB p.arch = true ∧ outB p.act p.data = true ∧ (∀ r ∈ p.rules, ruleB r = true) := by
  simp only [policyB, Bool.and_eq_true, List.all_eq_true] at h
  exact ⟨h.1.1.1, h.1.1.2, h.2⟩

theorem pol_ok {p : PN} (h : policyB p = true) : Good (polG p) := by
  obtain ⟨h1, h2, h3⟩ := policyB_parts h
  intro q hq
  simp only [polG, rulesG, List.mem_cons, List.mem_append, List.not_mem_nil, or_false, List.mem_flatMap] at hq
  rcases hq with (((rfl | rfl | rfl | rfl) | hq) | rfl) | ⟨r, hr, hq⟩
  · exact gR_W (words_ok _ (by simp))
  · exact gR_N h1
  · exact gR_M (marks_ok _ (by simp))
  · exact gR_W (words_ok _ (by simp))
  · exact out_ok h2 q hq
  · exact gR_M (marks_ok _ (by simp))
  · exact rule_ok (h3 r hr) q hq

/- The signs are read. -/

theorem at_drop {G : List Sg} {i : Nat} {p : Sg} {R : List Sg} (h : G.drop i = p :: R) : sgA G i = p ∧ G.drop (i + 1) = R := by
  have hi : i < G.length := by
    rcases Nat.lt_or_ge i G.length with h1 | h1
    · exact h1
    · rw [List.drop_of_length_le h1] at h; cases h
  rw [List.drop_eq_getElem_cons hi] at h
  injection h with h1 h2
  exact ⟨by simp [sgA, List.getD_eq_getElem?_getD, hi, h1], h2⟩

theorem pass_at {G : List Sg} {i : Nat} {k : Int} {t : List UInt8} {n : Int} {R : List Sg} (h : G.drop i = (k, t, n) :: R) : rPass G i t = some (i + 1) ∧ G.drop (i + 1) = R := by
  obtain ⟨h1, h2⟩ := at_drop h
  exact ⟨by simp [rPass, isT, h1], h2⟩

theorem isT_at {G : List Sg} {i : Nat} {k : Int} {t u : List UInt8} {n : Int} {R : List Sg} (h : G.drop i = (k, t, n) :: R) : isT G i u = (t == u) := by
  simp [isT, (at_drop h).1]

theorem num_at {G : List Sg} {i : Nat} {n : Int} {R : List Sg} (h : G.drop i = gN n :: R) : rNum G i = some (n, i + 1) ∧ numAt G i = true ∧ (sgA G i).2.2 = n ∧ G.drop (i + 1) = R := by
  obtain ⟨h1, h2⟩ := at_drop h
  simp [rNum, numAt, h1, gN, h2]

theorem acts_at : ∀ k, k < 6 → findT actL (actL.getD k []) = some k := by decide
theorem cms_at : ∀ k, k < 6 → findT cmL (cmL.getD k []) = some k := by decide

theorem out_at {G : List Sg} {i : Nat} {a d : Int} {R : List Sg} (ho : outB a d = true) (h : G.drop i = outG a d ++ R) : rOut G i = some ((a, d), i + 2) ∧ G.drop (i + 2) = R := by
  simp only [outB, Bool.and_eq_true] at ho
  obtain ⟨h1, h2⟩ := ho
  simp [inB] at h1
  obtain ⟨e1, e2⟩ := at_drop (show G.drop i = gW (actL.getD a.toNat []) :: (gN d :: R) from h)
  obtain ⟨_, e3, e4, e5⟩ := num_at e2
  refine ⟨?_, e5⟩
  unfold rOut rAct
  rw [e1]
  simp only [gW]
  rw [acts_at a.toNat (by omega)]
  simp only [Option.map_some]
  rw [e3, e4]
  simp
  omega

theorem wide_at {G : List Sg} {i : Nat} {x y : Int} {R : List Sg} (h : G.drop i = wideG x y ++ R) : rWide G i = some ((x, y), i + 3) ∧ G.drop (i + 3) = R := by
  obtain ⟨e1, _, _, e2⟩ := num_at (show G.drop i = gN x :: (gM tColon :: gN y :: R) from h)
  obtain ⟨_, e3⟩ := at_drop e2
  obtain ⟨e4, _, _, e5⟩ := num_at e3
  refine ⟨?_, e5⟩
  unfold rWide
  rw [e1]
  simp only
  rw [isT_at (k := 3) (t := tColon) (n := 0) e2]
  simp only [beq_self_eq_true, if_true]
  rw [e4]

theorem cond_at {G : List Sg} {i : Nat} {c : CN} {R : List Sg} (hc : condB c = true) (h : G.drop i = condG c ++ R) : rCond G i = some (c, i + 10) ∧ G.drop (i + 10) = R := by
  simp only [condB, Bool.and_eq_true] at hc
  obtain ⟨⟨⟨_, h2⟩, _⟩, _⟩ := hc
  simp [inB] at h2
  obtain ⟨p1, e1⟩ := pass_at (show G.drop i = gW tArg :: (gN c.arg :: gM tAmp :: (wideG c.mh c.ml ++ (gM (cmL.getD (c.cm.toNat - 1) []) :: (wideG c.vh c.vl ++ R)))) from by rw [h]; simp [condG])
  obtain ⟨p2, _, _, e2⟩ := num_at e1
  obtain ⟨_, e3⟩ := at_drop e2
  obtain ⟨p4, e4⟩ := wide_at e3
  obtain ⟨p5, e5⟩ := at_drop e4
  obtain ⟨p6, e6⟩ := wide_at e5
  refine ⟨?_, e6⟩
  unfold rCond
  rw [p1]
  simp only
  rw [p2]
  simp only
  have hm : rMask G (i + 1 + 1) = some ((c.mh, c.ml), i + 1 + 1 + 1 + 3) := by
    unfold rMask
    rw [isT_at (k := 3) (t := tAmp) (n := 0) e2]
    simp only [beq_self_eq_true, if_true]
    rw [p4]
  rw [hm]
  simp only
  have hcm : rCmp G (i + 1 + 1 + 1 + 3) = some (c.cm, i + 1 + 1 + 1 + 3 + 1) := by
    unfold rCmp
    rw [p5]
    simp only [gM]
    rw [cms_at _ (by omega)]
    simp
    omega
  rw [hcm]
  simp only
  rw [p6]

theorem and_at {G : List Sg} {x : Sg} {R : List Sg} (hx : x.2.1 ≠ tAnd) : ∀ (l : List CN) (f i : Nat), l.length ≤ f → (∀ c ∈ l, condB c = true) → G.drop i = andG l ++ x :: R →
    ∃ j, rAndF f G i = some (l, j) ∧ G.drop j = x :: R
  | [], f, i, _, _, h => by
    refine ⟨i, ?_, h⟩
    cases f with
    | zero => rfl
    | succ f =>
      obtain ⟨k, t, n⟩ := x
      rw [rAndF, isT_at (k := k) (t := t) (n := n) (R := R) h]
      have : (t == tAnd) = false := by simpa using hx
      rw [this]; rfl
  | c :: l, f, i, hf, hc, h => by
    obtain ⟨f, rfl⟩ : ∃ g, f = g + 1 := ⟨f - 1, by simp at hf; omega⟩
    have h1 : G.drop i = gW tAnd :: (condG c ++ (andG l ++ x :: R)) := by rw [h]; simp [andG]
    obtain ⟨_, e1⟩ := at_drop h1
    obtain ⟨e2, e3⟩ := cond_at (hc c (by simp)) e1
    obtain ⟨j, e4, e5⟩ := and_at hx l f (i + 1 + 10) (by simp at hf; omega) (fun d hd => hc d (by simp [hd])) e3
    refine ⟨j, ?_, e5⟩
    rw [rAndF, isT_at (k := 1) (t := tAnd) (n := 0) h1]
    simp only [beq_self_eq_true, if_true]
    rw [e2]
    simp only
    rw [e4]
    rfl

theorem andG_length : ∀ l : List CN, l.length ≤ (andG l).length
  | [] => by simp [andG]
  | c :: l => by
    have := andG_length l
    have e : andG (c :: l) = gW tAnd :: (condG c ++ andG l) := by simp [andG]
    rw [e]; simp; omega

theorem drop_le {G A : List Sg} {i : Nat} (h : G.drop i = A) : A.length ≤ G.length := by rw [← h]; simp

theorem conds_at {G : List Sg} {x : Sg} {R : List Sg} (hx : x.2.1 ≠ tAnd) (hy : x.2.1 ≠ tIf) {l : List CN} {i : Nat} (hl : ∀ c ∈ l, condB c = true) (h : G.drop i = condsG l ++ x :: R) :
    ∃ j, rConds G i = some (l, j) ∧ G.drop j = x :: R := by
  cases l with
  | nil =>
    obtain ⟨k, t, n⟩ := x
    refine ⟨i, ?_, h⟩
    unfold rConds
    rw [isT_at (k := k) (t := t) (n := n) (R := R) h]
    have : (t == tIf) = false := by simpa using hy
    rw [this]; rfl
  | cons c l =>
    have h1 : G.drop i = gW tIf :: (condG c ++ (andG l ++ x :: R)) := by rw [h]; simp [condsG]
    obtain ⟨_, e1⟩ := at_drop h1
    obtain ⟨e2, e3⟩ := cond_at (hl c (by simp)) e1
    have hf : l.length ≤ G.length := by
      have := drop_le e3
      have h2 := andG_length l
      simp at this
      omega
    obtain ⟨j, e4, e5⟩ := and_at hx l G.length (i + 1 + 10) hf (fun d hd => hl d (by simp [hd])) e3
    refine ⟨j, ?_, e5⟩
    unfold rConds
    rw [isT_at (k := 1) (t := tIf) (n := 0) h1]
    simp only [beq_self_eq_true, if_true]
    rw [e2]
    simp only
    rw [e4]
    rfl

theorem comma_at {G : List Sg} {x : Sg} {R : List Sg} (hx : x.2.1 ≠ tComma) : ∀ (l : List Int) (f i : Nat), l.length ≤ f → G.drop i = commaG l ++ x :: R →
    ∃ j, rCommaF f G i = some (l, j) ∧ G.drop j = x :: R
  | [], f, i, _, h => by
    refine ⟨i, ?_, h⟩
    cases f with
    | zero => rfl
    | succ f =>
      obtain ⟨k, t, n⟩ := x
      rw [rCommaF, isT_at (k := k) (t := t) (n := n) (R := R) h]
      have : (t == tComma) = false := by simpa using hx
      rw [this]; rfl
  | c :: l, f, i, hf, h => by
    obtain ⟨f, rfl⟩ : ∃ g, f = g + 1 := ⟨f - 1, by simp at hf; omega⟩
    have h1 : G.drop i = gM tComma :: (gN c :: (commaG l ++ x :: R)) := by rw [h]; simp [commaG]
    obtain ⟨_, e1⟩ := at_drop h1
    obtain ⟨_, e2, e3, e4⟩ := num_at e1
    obtain ⟨j, e5, e6⟩ := comma_at hx l f (i + 1 + 1) (by simp at hf; omega) e4
    refine ⟨j, ?_, e6⟩
    rw [rCommaF, isT_at (k := 3) (t := tComma) (n := 0) h1]
    simp only [beq_self_eq_true, if_true]
    have : rCall G (i + 1) = some (c, i + 1 + 1) := by simp [rCall, e2, e3]
    rw [this]
    simp only
    rw [e5]
    rfl

theorem commaG_length : ∀ l : List Int, l.length ≤ (commaG l).length
  | [] => by simp [commaG]
  | c :: l => by
    have := commaG_length l
    have e : commaG (c :: l) = gM tComma :: gN c :: commaG l := by simp [commaG]
    rw [e]; simp; omega

theorem nums_at {G : List Sg} {x : Sg} {R : List Sg} (hx : x.2.1 ≠ tComma) {l : List Int} {i : Nat} (hl : numsB l = true) (h : G.drop i = numsG l ++ x :: R) :
    ∃ j, rNums G i = some (l, j) ∧ G.drop j = x :: R := by
  cases l with
  | nil =>
    refine ⟨i + 1, ?_, (at_drop (show G.drop i = gW tAny :: x :: R from h)).2⟩
    unfold rNums
    rw [isT_at (k := 1) (t := tAny) (n := 0) (R := x :: R) h]
    rfl
  | cons n l =>
    have h1 : G.drop i = gN n :: (commaG l ++ x :: R) := by rw [h]; simp [numsG]
    obtain ⟨_, e2, e3, e4⟩ := num_at h1
    have hf : l.length ≤ G.length := by
      have := drop_le e4
      have h2 := commaG_length l
      simp at this
      omega
    obtain ⟨j, e5, e6⟩ := comma_at hx l G.length (i + 1) hf e4
    refine ⟨j, ?_, e6⟩
    unfold rNums
    rw [isT_at (k := 2) (t := []) (n := n) h1]
    have : rCall G i = some (n, i + 1) := by simp [rCall, e2, e3]
    rw [this, show (([] : List UInt8) == tAny) = false from rfl]
    simp only [Bool.false_eq_true, if_false]
    rw [e5]
    simp only [Option.map_some]
    have hs : sortZ (n :: l) = n :: l := up_eq (sortZ_up _) ((numsB_nodup hl).imp (by intro a b hab; omega)) (sortZ_perm _)
    rw [hs]

theorem rule_at {G : List Sg} {R : List Sg} {r : RN} {i : Nat} (hr : ruleB r = true) (h : G.drop i = ruleG r ++ R) :
    ∃ j, rRule G i = some (r, j) ∧ G.drop j = R := by
  obtain ⟨h1, h2, h3⟩ := ruleB_parts hr
  have a0 : G.drop i = gW tOn :: (numsG r.nums ++ (condsG r.conds ++ gW tDo :: (outG r.act r.data ++ (gM tSemi :: R)))) := by rw [h]; simp [ruleG]
  obtain ⟨p1, a1⟩ := pass_at (k := 1) (t := tOn) (n := 0) a0
  obtain ⟨y, Y, hy, hyc, _⟩ : ∃ y Y, condsG r.conds ++ gW tDo :: (outG r.act r.data ++ (gM tSemi :: R)) = y :: Y ∧ y.2.1 ≠ tComma ∧ True := by
    cases r.conds with
    | nil => exact ⟨_, _, rfl, by decide, trivial⟩
    | cons c l => exact ⟨_, _, rfl, by decide, trivial⟩
  rw [hy] at a1
  obtain ⟨j2, p2, a2⟩ := nums_at hyc h2 a1
  rw [← hy] at a2
  obtain ⟨j3, p3, a3⟩ := conds_at (x := gW tDo) (by decide) (by decide) h3 a2
  obtain ⟨p4, a4⟩ := pass_at (k := 1) (t := tDo) (n := 0) a3
  obtain ⟨p5, a5⟩ := out_at h1 a4
  obtain ⟨p6, a6⟩ := pass_at (k := 3) (t := tSemi) (n := 0) a5
  refine ⟨_, ?_, a6⟩
  unfold rRule
  rw [p1]
  simp only
  rw [p2]
  simp only
  rw [p3]
  simp only
  rw [p4]
  simp only
  rw [p5]
  simp only
  rw [p6]

theorem rules_at {G : List Sg} (hg : Good G) : ∀ (l : List RN) (f i : Nat), l.length ≤ f → i ≤ G.length → (∀ r ∈ l, ruleB r = true) → G.drop i = rulesG l → rRulesF f G i = some l
  | [], f, i, _, hi, _, h => by
    cases f with
    | zero => rfl
    | succ f =>
      have : G.length ≤ i := by
        have e : (G.drop i).length = 0 := by rw [h]; rfl
        simp at e; omega
      rw [rRulesF, if_pos (by omega)]
  | r :: l, f, i, hf, hi, hr, h => by
    obtain ⟨f, rfl⟩ : ∃ g, f = g + 1 := ⟨f - 1, by simp at hf; omega⟩
    have h1 : G.drop i = ruleG r ++ rulesG l := by rw [h]; simp [rulesG]
    obtain ⟨j, e1, e2⟩ := rule_at (hr r (by simp)) h1
    have hj := rRule_lt hg e1
    rw [rRulesF, if_neg (by omega), e1]
    simp only
    rw [rules_at hg l f j (by simp at hf; omega) hj.2.1 (fun d hd => hr d (by simp [hd])) e2]
    rfl

theorem rulesG_length : ∀ l : List RN, l.length ≤ (rulesG l).length
  | [] => by simp [rulesG]
  | r :: l => by
    have := rulesG_length l
    have e : rulesG (r :: l) = ruleG r ++ rulesG l := by simp [rulesG]
    rw [e]; simp [ruleG]; omega

theorem pol_read {p : PN} (h : policyB p = true) : readG (polG p) = some p := by
  obtain ⟨h1, h2, h3⟩ := policyB_parts h
  obtain ⟨G, hG⟩ : ∃ G, G = polG p := ⟨_, rfl⟩
  have a0 : G.drop 0 = gW tArch :: (gN p.arch :: (gM tSemi :: (gW tDefault :: (outG p.act p.data ++ (gM tSemi :: rulesG p.rules))))) := by rw [hG]; simp [polG]
  obtain ⟨p1, a1⟩ := pass_at (k := 1) (t := tArch) (n := 0) a0
  obtain ⟨p2, _, _, a2⟩ := num_at a1
  obtain ⟨p3, a3⟩ := pass_at (k := 3) (t := tSemi) (n := 0) a2
  obtain ⟨p4, a4⟩ := pass_at (k := 1) (t := tDefault) (n := 0) a3
  obtain ⟨p5, a5⟩ := out_at h2 a4
  obtain ⟨p6, a6⟩ := pass_at (k := 3) (t := tSemi) (n := 0) a5
  have hh : rHead G = some ((p.arch, p.act, p.data), 0 + 1 + 1 + 1 + 1 + 2 + 1) := by
    unfold rHead
    rw [p1]
    simp only
    rw [p2]
    simp only
    rw [p3]
    simp only
    rw [p4]
    simp only
    rw [p5]
    simp only
    rw [p6]
  have hl := rHead_lt hh
  have hr : rRulesF G.length G (0 + 1 + 1 + 1 + 1 + 2 + 1) = some p.rules :=
    rules_at (by rw [hG]; exact pol_ok h) p.rules G.length _ (by have := drop_le a6; have := rulesG_length p.rules; omega) hl.1 h3 a6
  rw [← hG]
  unfold readG rPolicy
  rw [hh]
  simp only
  rw [hr]
  simp only [Option.map_some]
  rw [if_pos h]

end Go.Proofs.YtojaohdmfahpmaaGreatDoor
