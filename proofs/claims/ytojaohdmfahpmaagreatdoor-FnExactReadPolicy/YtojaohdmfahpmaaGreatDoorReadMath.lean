/- What a policy's text tells, in plain lists of signs: impl's reader and spec's, and that both read the same. -/
import Derived.Test.YtojaohdmfahpmaaGreatDoorSignBack
import Derived.Test.YtojaohdmfahpmaaGreatDoorPolMath
import Derived.Test.YtojaohdmfahpmaaGreatDoorNamesIS
namespace Go.Proofs.YtojaohdmfahpmaaGreatDoor
open Go.RowKit
set_option linter.unusedVariables false

/-- The sign at a place; behind the last one there is one of no kind. -/
def sgA (G : List Sg) (i : Nat) : Sg := G.getD i zeroG

def isT (G : List Sg) (i : Nat) (t : List UInt8) : Bool := (sgA G i).2.1 == t

def numAt (G : List Sg) (i : Nat) : Bool := (sgA G i).1 == 2

abbrev tArch : List UInt8 := [97, 114, 99, 104]
abbrev tDefault : List UInt8 := [100, 101, 102, 97, 117, 108, 116]
abbrev tOn : List UInt8 := [111, 110]
abbrev tAny : List UInt8 := [97, 110, 121]
abbrev tIf : List UInt8 := [105, 102]
abbrev tAnd : List UInt8 := [97, 110, 100]
abbrev tDo : List UInt8 := [100, 111]
abbrev tArg : List UInt8 := [97, 114, 103]
abbrev tSemi : List UInt8 := [59]
abbrev tComma : List UInt8 := [44]
abbrev tAmp : List UInt8 := [38]
abbrev tColon : List UInt8 := [58]

def actL : List (List UInt8) := [[107, 105, 108, 108], [116, 114, 97, 112], [101, 114, 114], [116, 114, 97, 99, 101], [108, 111, 103], [97, 108, 108, 111, 119]]

def cmL : List (List UInt8) := [[61, 61], [33, 61], [60], [60, 61], [62], [62, 61]]

def findT (L : List (List UInt8)) (t : List UInt8) : Option Nat := L.findIdx? (· == t)

/- What impl's reader does, in plain lists: the value and the place behind it; nothing: a wrong sign. -/

def rPass (G : List Sg) (i : Nat) (t : List UInt8) : Option Nat := if isT G i t then some (i + 1) else none

def rNum (G : List Sg) (i : Nat) : Option (Int × Nat) := if numAt G i then some ((sgA G i).2.2, i + 1) else none

def rAct (G : List Sg) (i : Nat) : Option (Int × Nat) := (findT actL (sgA G i).2.1).map fun (k : Nat) => ((k : Int), i + 1)

def rOut (G : List Sg) (i : Nat) : Option ((Int × Int) × Nat) :=
  match rAct G i with
  | none => none
  | some (a, j) => if numAt G j then some ((a, (sgA G j).2.2), j + 1) else some ((a, 0), j)

def rWide (G : List Sg) (i : Nat) : Option ((Int × Int) × Nat) :=
  match rNum G i with
  | none => none
  | some (n, j) => if isT G j tColon then (match rNum G (j + 1) with
    | none => none
    | some (m, k) => some ((n, m), k)) else some ((0, n), j)

def rMask (G : List Sg) (i : Nat) : Option ((Int × Int) × Nat) := if isT G i tAmp then rWide G (i + 1) else some ((4294967295, 4294967295), i)

def rCmp (G : List Sg) (i : Nat) : Option (Int × Nat) := (findT cmL (sgA G i).2.1).map fun (k : Nat) => ((k : Int) + 1, i + 1)

def rCond (G : List Sg) (i : Nat) : Option (CN × Nat) :=
  match rPass G i tArg with
  | none => none
  | some i1 => match rNum G i1 with
    | none => none
    | some (a, i2) => match rMask G i2 with
      | none => none
      | some (m, i3) => match rCmp G i3 with
        | none => none
        | some (c, i4) => match rWide G i4 with
          | none => none
          | some (v, i5) => some (⟨a, m.1, m.2, c, v.1, v.2⟩, i5)

/-- Conditions, each behind 'and'. -/
def rAndF : Nat → List Sg → Nat → Option (List CN × Nat)
  | 0, _, i => some ([], i)
  | f + 1, G, i => if isT G i tAnd then (match rCond G (i + 1) with
    | none => none
    | some (c, j) => (rAndF f G j).map fun p => (c :: p.1, p.2)) else some ([], i)

def rConds (G : List Sg) (i : Nat) : Option (List CN × Nat) :=
  if isT G i tIf then (match rCond G (i + 1) with
    | none => none
    | some (c, j) => (rAndF G.length G j).map fun p => (c :: p.1, p.2)) else some ([], i)

def rCall (G : List Sg) (i : Nat) : Option (Int × Nat) :=
  if numAt G i then some ((sgA G i).2.2, i + 1) else if callN (sgA G i).2.1 < 0 then none else some (callN (sgA G i).2.1, i + 1)

/-- Calls, each behind a comma. -/
def rCommaF : Nat → List Sg → Nat → Option (List Int × Nat)
  | 0, _, i => some ([], i)
  | f + 1, G, i => if isT G i tComma then (match rCall G (i + 1) with
    | none => none
    | some (c, j) => (rCommaF f G j).map fun p => (c :: p.1, p.2)) else some ([], i)

def sortZ (l : List Int) : List Int := l.mergeSort fun x y => decide (x ≤ y)

def rNums (G : List Sg) (i : Nat) : Option (List Int × Nat) :=
  if isT G i tAny then some ([], i + 1) else (match rCall G i with
    | none => none
    | some (c, j) => (rCommaF G.length G j).map fun p => (sortZ (c :: p.1), p.2))

def rRule (G : List Sg) (i : Nat) : Option (RN × Nat) :=
  match rPass G i tOn with
  | none => none
  | some i1 => match rNums G i1 with
    | none => none
    | some (zs, i2) => match rConds G i2 with
      | none => none
      | some (cs, i3) => match rPass G i3 tDo with
        | none => none
        | some i4 => match rOut G i4 with
          | none => none
          | some (o, i5) => match rPass G i5 tSemi with
            | none => none
            | some i6 => some (⟨zs, cs, o.1, o.2⟩, i6)

def rRulesF : Nat → List Sg → Nat → Option (List RN)
  | 0, _, _ => some []
  | f + 1, G, i => if i = G.length then some [] else (match rRule G i with
    | none => none
    | some (r, j) => (rRulesF f G j).map (r :: ·))

/-- Arch, action, data, and the place of the first rule. -/
def rHead (G : List Sg) : Option ((Int × Int × Int) × Nat) :=
  match rPass G 0 tArch with
  | none => none
  | some i1 => match rNum G i1 with
    | none => none
    | some (a, i2) => match rPass G i2 tSemi with
      | none => none
      | some i3 => match rPass G i3 tDefault with
        | none => none
        | some i4 => match rOut G i4 with
          | none => none
          | some (o, i5) => match rPass G i5 tSemi with
            | none => none
            | some i6 => some ((a, o.1, o.2), i6)

def rPolicy (G : List Sg) : Option PN :=
  match rHead G with
  | none => none
  | some (h, i) => (rRulesF G.length G i).map fun rs => ⟨h.1, h.2.1, h.2.2, rs⟩

/- What spec's reader does: its state is the place, or nothing when it is bad. -/

def nx (s : Option Nat) : Option Nat := s.map (· + 1)

def sIs (G : List Sg) (s : Option Nat) (k : Int) (t : List UInt8) : Bool :=
  match s with
  | none => false
  | some i => decide (i < G.length) && ((sgA G i).1 == k) && ((sgA G i).2.1 == t)

def sTk (G : List Sg) (s : Option Nat) (k : Int) (t : List UInt8) : Option Nat := if sIs G s k t then nx s else s

def sWt (G : List Sg) (s : Option Nat) (k : Int) (t : List UInt8) : Option Nat := if sIs G s k t then nx s else none

def sHas (G : List Sg) (s : Option Nat) : Bool :=
  match s with
  | none => false
  | some i => decide (i < G.length) && ((sgA G i).1 == 2)

def sNum (G : List Sg) (s : Option Nat) : Int × Option Nat :=
  match s with
  | none => (0, none)
  | some i => if sHas G s then ((sgA G i).2.2, some (i + 1)) else (0, none)

def sName (G : List Sg) (s : Option Nat) : List UInt8 × Option Nat :=
  match s with
  | none => ([], none)
  | some i => if decide (i < G.length) && ((sgA G i).1 == 1) then ((sgA G i).2.1, some (i + 1)) else ([], none)

def sAct (G : List Sg) (s : Option Nat) : (Int × Int) × Option Nat :=
  match findT actL (sName G s).1 with
  | none => ((0, 0), none)
  | some k => if sHas G (sName G s).2 then (((k : Int), (sNum G (sName G s).2).1), (sNum G (sName G s).2).2) else (((k : Int), 0), (sName G s).2)

def sWide (G : List Sg) (s : Option Nat) : (Int × Int) × Option Nat :=
  if sIs G (sNum G s).2 3 tColon then (((sNum G s).1, (sNum G (nx (sNum G s).2)).1), (sNum G (nx (sNum G s).2)).2) else ((0, (sNum G s).1), (sNum G s).2)

def sMask (G : List Sg) (s : Option Nat) : (Int × Int) × Option Nat := if sIs G s 3 tAmp then sWide G (nx s) else ((4294967295, 4294967295), s)

def sCmp (G : List Sg) (s : Option Nat) : Int × Option Nat :=
  match s with
  | none => (0, none)
  | some i => if decide (i < G.length) && ((sgA G i).1 == 3) then (match findT cmL (sgA G i).2.1 with
    | none => (0, some i)
    | some k => ((k : Int) + 1, some (i + 1))) else (0, some i)

def sCond (G : List Sg) (s : Option Nat) : CN × Option Nat :=
  let a := sNum G (sWt G s 1 tArg)
  let m := sMask G a.2
  let c := sCmp G m.2
  let v := sWide G c.2
  (⟨a.1, m.1.1, m.1.2, c.1, v.1.1, v.1.2⟩, v.2)

/-- The loop of conditions. -/
def sAndF : Nat → List Sg → List CN → Option Nat → List CN × Option Nat
  | 0, _, acc, s => (acc, s)
  | f + 1, G, acc, s => match s with
    | none => (acc, none)
    | some i => if sIs G (sCond G (some i)).2 1 tAnd then sAndF f G (acc ++ [(sCond G (some i)).1]) (nx (sCond G (some i)).2) else (acc ++ [(sCond G (some i)).1], (sCond G (some i)).2)

def sConds (G : List Sg) (s : Option Nat) : List CN × Option Nat := if sIs G s 1 tIf then sAndF (G.length + 1) G [] (nx s) else ([], s)

def putZ (l : List Int) (n : Int) : List Int := if l.contains n then l else l.filter (fun x => decide (x < n)) ++ [n] ++ l.filter (fun x => decide (n < x))

def sCall (G : List Sg) (s : Option Nat) : Int × Option Nat := if sHas G s then sNum G s else (callN (sName G s).1, (sName G s).2)

/-- What is left of the state behind a number: it is none, or was there. -/
def sGot (G : List Sg) (acc : List Int) (s : Option Nat) : Option Nat := if decide ((sCall G s).1 < 0) || acc.contains (sCall G s).1 then none else (sCall G s).2

def sNumsF : Nat → List Sg → List Int → Option Nat → List Int × Option Nat
  | 0, _, acc, s => (acc, s)
  | f + 1, G, acc, s => match s with
    | none => (acc, none)
    | some i => if sIs G (sGot G acc (some i)) 3 tComma then sNumsF f G (putZ acc (sCall G (some i)).1) (nx (sGot G acc (some i))) else (putZ acc (sCall G (some i)).1, sGot G acc (some i))

def sNums (G : List Sg) (s : Option Nat) : List Int × Option Nat := if sIs G s 1 tAny then ([], nx s) else sNumsF (G.length + 1) G [] s

def sRule (G : List Sg) (s : Option Nat) : RN × Option Nat :=
  let z := sNums G (sWt G s 1 tOn)
  let c := sConds G z.2
  let o := sAct G (sWt G c.2 1 tDo)
  (⟨z.1, c.1, o.1.1, o.1.2⟩, sWt G o.2 3 tSemi)

def sRulesF : Nat → List Sg → List RN → Option Nat → List RN × Option Nat
  | 0, _, acc, s => (acc, s)
  | f + 1, G, acc, s => match s with
    | none => (acc, none)
    | some i => if i < G.length then sRulesF f G (acc ++ [(sRule G (some i)).1]) (sRule G (some i)).2 else (acc, some i)

def sHead (G : List Sg) : (Int × Int × Int) × Option Nat :=
  let a := sNum G (sWt G (some 0) 1 tArch)
  let o := sAct G (sWt G (sWt G a.2 3 tSemi) 1 tDefault)
  ((a.1, o.1.1, o.1.2), sWt G o.2 3 tSemi)

def sPolicy (G : List Sg) : PN × Option Nat :=
  let h := sHead G
  let r := sRulesF (G.length + 1) G [] h.2
  (⟨h.1.1, h.1.2.1, h.1.2.2, r.1⟩, r.2)

/- Both are one. -/

def Good (G : List Sg) : Prop := ∀ p ∈ G, SgR p

theorem sgA_cases {G : List Sg} (h : Good G) (i : Nat) : (i < G.length ∧ SgR (sgA G i)) ∨ (G.length ≤ i ∧ sgA G i = zeroG) := by
  unfold sgA
  by_cases hi : i < G.length
  · exact .inl ⟨hi, by rw [List.getD_eq_getElem?_getD, List.getElem?_eq_getElem hi]; exact h _ (List.getElem_mem hi)⟩
  · exact .inr ⟨by omega, by rw [List.getD_eq_getElem?_getD, List.getElem?_eq_none (by omega)]; rfl⟩

/-- A sign's kind is that of its text's first byte. -/
theorem good_kind {p : Sg} (h : SgR p) {b : UInt8} {r : List UInt8} (hp : p.2.1 = b :: r) : p.1 = (kindB b : Int) := by
  rcases h with ⟨h1, _, _, _, h5⟩ | ⟨_, h2, _⟩ | ⟨h1, _, h3⟩
  · rw [h1, h5 b (by rw [hp]; simp)]; rfl
  · rw [hp] at h2; cases h2
  · rw [h1, mark_kind p.2.1 (by simpa [isMarkL] using h3) b (by rw [hp]; simp)]; rfl

/-- A text whose first byte is of this kind. -/
def HdK (k : Nat) (t : List UInt8) : Prop := ∃ b r, t = b :: r ∧ kindB b = k

theorem sIs_isT {G : List Sg} (h : Good G) (i : Nat) {k : Nat} {t : List UInt8} (ht : HdK k t) : sIs G (some i) (k : Int) t = isT G i t := by
  obtain ⟨b, r, rfl, hk⟩ := ht
  unfold sIs isT
  rcases sgA_cases h i with ⟨hi, hg⟩ | ⟨hi, hz⟩
  · simp only [hi, decide_true, Bool.true_and]
    cases e : (sgA G i).2.1 == (b :: r)
    · simp
    · have := good_kind hg (by simpa using e)
      rw [this, hk]; simp
  · have : ¬ i < G.length := by omega
    rw [hz]; simp [zeroG, this]

theorem isT_lt {G : List Sg} {i : Nat} {t : List UInt8} (ht : t ≠ []) (h : isT G i t = true) : i < G.length := by
  by_cases hi : i < G.length
  · exact hi
  · unfold isT sgA at h
    rw [List.getD_eq_getElem?_getD, List.getElem?_eq_none (by omega)] at h
    simp [zeroG] at h
    exact absurd h ht

theorem numAt_lt {G : List Sg} {i : Nat} (h : numAt G i = true) : i < G.length := by
  by_cases hi : i < G.length
  · exact hi
  · unfold numAt sgA at h
    rw [List.getD_eq_getElem?_getD, List.getElem?_eq_none (by omega)] at h
    simp [zeroG] at h

theorem sHas_numAt (G : List Sg) (i : Nat) : sHas G (some i) = numAt G i := by
  by_cases hi : i < G.length
  · simp [sHas, numAt, hi]
  · unfold sHas
    simp only [hi, decide_false, Bool.false_and]
    cases e : numAt G i
    · rfl
    · exact absurd (numAt_lt e) hi

/-- What spec's reader tells when impl's tells o. -/
def Rel {α : Type} (o : Option (α × Nat)) (x : α × Option Nat) : Prop := match o with
  | some (v, j) => x = (v, some j)
  | none => x.2 = none

theorem sNum_rel (G : List Sg) (i : Nat) : Rel (rNum G i) (sNum G (some i)) := by
  unfold rNum sNum
  rw [sHas_numAt]
  cases numAt G i <;> simp [Rel]

theorem hd1 : HdK 1 tArch ∧ HdK 1 tDefault ∧ HdK 1 tOn ∧ HdK 1 tAny ∧ HdK 1 tIf ∧ HdK 1 tAnd ∧ HdK 1 tDo ∧ HdK 1 tArg :=
  ⟨⟨_, _, rfl, by decide⟩, ⟨_, _, rfl, by decide⟩, ⟨_, _, rfl, by decide⟩, ⟨_, _, rfl, by decide⟩, ⟨_, _, rfl, by decide⟩, ⟨_, _, rfl, by decide⟩, ⟨_, _, rfl, by decide⟩, ⟨_, _, rfl, by decide⟩⟩

theorem hd3 : HdK 3 tSemi ∧ HdK 3 tComma ∧ HdK 3 tAmp ∧ HdK 3 tColon :=
  ⟨⟨_, _, rfl, by decide⟩, ⟨_, _, rfl, by decide⟩, ⟨_, _, rfl, by decide⟩, ⟨_, _, rfl, by decide⟩⟩

theorem findT_mem {L : List (List UInt8)} {t : List UInt8} {k : Nat} (h : findT L t = some k) : t ∈ L := by
  obtain ⟨hk, h2, _⟩ := List.findIdx?_eq_some_iff_getElem.1 h
  have : L[k] = t := by simpa using h2
  rw [← this]; exact List.getElem_mem hk

theorem actL_hd : ∀ t ∈ actL, HdK 1 t := by
  have h : ∀ t ∈ actL, (t.head?.map kindB) = some 1 := by decide
  intro t ht
  have := h t ht
  cases t with
  | nil => simp at this
  | cons b r => exact ⟨b, r, rfl, by simpa using this⟩

theorem cmL_hd : ∀ t ∈ cmL, HdK 3 t := by
  have h : ∀ t ∈ cmL, (t.head?.map kindB) = some 3 := by decide
  intro t ht
  have := h t ht
  cases t with
  | nil => simp at this
  | cons b r => exact ⟨b, r, rfl, by simpa using this⟩

theorem nameL_hd : ∀ t ∈ nameL, HdK 1 t := by
  have h : ∀ t ∈ nameL, (t.head?.map kindB) = some 1 := by decide
  intro t ht
  have := h t ht
  cases t with
  | nil => simp at this
  | cons b r => exact ⟨b, r, rfl, by simpa using this⟩

theorem hd_kind {G : List Sg} (h : Good G) {i : Nat} {k : Nat} (ht : HdK k (sgA G i).2.1) : i < G.length ∧ (sgA G i).1 = (k : Int) := by
  obtain ⟨b, r, e, hk⟩ := ht
  rcases sgA_cases h i with ⟨hi, hg⟩ | ⟨hi, hz⟩
  · exact ⟨hi, by rw [good_kind hg e, hk]⟩
  · rw [hz] at e; simp [zeroG] at e

theorem callN_nil : callN [] = -1 := by decide
theorem findT_act_nil : findT actL [] = none := by decide

theorem callN_mem {t : List UInt8} (h : ¬ callN t < 0) : t ∈ nameL := by
  unfold callN at h
  cases e : nameL.findIdx? (· == t) with
  | none => rw [e] at h; simp at h
  | some k => exact findT_mem (L := nameL) e

theorem sAct_rel {G : List Sg} (h : Good G) (i : Nat) : Rel (rOut G i) (sAct G (some i)) := by
  unfold rOut rAct
  cases e : findT actL (sgA G i).2.1 with
  | none =>
    simp only [Option.map_none, Rel]
    have : (findT actL (sName G (some i)).1) = none := by
      unfold sName
      simp only
      split
      · exact e
      · exact findT_act_nil
    unfold sAct
    rw [this]
  | some k =>
    obtain ⟨hi, hk⟩ := hd_kind h (actL_hd _ (findT_mem e))
    have hn : sName G (some i) = ((sgA G i).2.1, some (i + 1)) := by simp [sName, hi, hk]
    simp only [Option.map_some]
    unfold sAct
    rw [hn]
    simp only [e]
    rw [sHas_numAt]
    cases e2 : numAt G (i + 1)
    · simp [Rel]
    · simp [Rel, sNum, sHas_numAt, e2]

theorem sNum_none (G : List Sg) : sNum G none = (0, none) := rfl
theorem sIs_none (G : List Sg) (k : Int) (t : List UInt8) : sIs G none k t = false := rfl
theorem sHas_none (G : List Sg) : sHas G none = false := rfl
theorem sWt_none (G : List Sg) (k : Int) (t : List UInt8) : sWt G none k t = none := rfl
theorem sName_none (G : List Sg) : sName G none = ([], none) := rfl
theorem sAct_none (G : List Sg) : sAct G none = ((0, 0), none) := by simp [sAct, sName_none, findT_act_nil]
theorem sWide_none (G : List Sg) : sWide G none = ((0, 0), none) := by simp [sWide, sNum_none, sIs_none]
theorem sMask_none (G : List Sg) : (sMask G none).2 = none := by simp [sMask, sIs_none]
theorem sCmp_none (G : List Sg) : sCmp G none = (0, none) := rfl

theorem sWt_rel {G : List Sg} (h : Good G) (i : Nat) {k : Nat} {t : List UInt8} (ht : HdK k t) : sWt G (some i) (k : Int) t = rPass G i t := by
  unfold sWt rPass
  rw [sIs_isT h i ht]
  rfl

theorem sWide_rel {G : List Sg} (h : Good G) (i : Nat) : Rel (rWide G i) (sWide G (some i)) := by
  have h1 := sNum_rel G i
  unfold rWide
  cases e : rNum G i with
  | none =>
    rw [e] at h1
    simp only [Rel] at h1 ⊢
    unfold sWide
    rw [h1, sIs_none]
    simp
  | some x =>
    obtain ⟨n, j⟩ := x
    rw [e] at h1
    simp only [Rel] at h1
    simp only
    unfold sWide
    rw [h1]
    simp only
    rw [show sIs G (some j) 3 tColon = isT G j tColon from sIs_isT h j hd3.2.2.2]
    cases isT G j tColon
    · simp [Rel]
    · simp only [if_true, nx, Option.map_some]
      have h2 := sNum_rel G (j + 1)
      cases e2 : rNum G (j + 1) with
      | none => rw [e2] at h2; simpa [Rel] using h2
      | some y => rw [e2] at h2; simp only [Rel] at h2; rw [h2]; simp [Rel]

theorem sMask_rel {G : List Sg} (h : Good G) (i : Nat) : Rel (rMask G i) (sMask G (some i)) := by
  unfold rMask sMask
  rw [show sIs G (some i) 3 tAmp = isT G i tAmp from sIs_isT h i hd3.2.2.1]
  cases isT G i tAmp
  · simp [Rel]
  · exact sWide_rel h (i + 1)

theorem sCmp_rel {G : List Sg} (h : Good G) (i : Nat) : (∀ c j, rCmp G i = some (c, j) → sCmp G (some i) = (c, some j)) ∧ (rCmp G i = none → (sCmp G (some i)).1 = 0) := by
  unfold rCmp sCmp
  cases e : findT cmL (sgA G i).2.1 with
  | none =>
    refine ⟨fun c j hc => by simp at hc, fun _ => ?_⟩
    simp only
    split <;> simp [e]
  | some k =>
    obtain ⟨hi, hk⟩ := hd_kind h (cmL_hd _ (findT_mem e))
    refine ⟨fun c j hc => ?_, fun hc => by simp at hc⟩
    simp at hc
    simp [hi, hk, e, hc.1, hc.2]

theorem sCond_none (G : List Sg) : (sCond G none).2 = none := by
  simp only [sCond, sWt_none, sNum_none, sMask_none, sCmp_none, sWide_none]

theorem sCond_rel {G : List Sg} (h : Good G) (i : Nat) : (∀ c j, rCond G i = some (c, j) → sCond G (some i) = (c, some j)) ∧ (rCond G i = none → (sCond G (some i)).2 = none ∨ (sCond G (some i)).1.cm = 0) := by
  unfold rCond sCond
  simp only
  rw [show sWt G (some i) 1 tArg = rPass G i tArg from sWt_rel h i hd1.2.2.2.2.2.2.2]
  cases rPass G i tArg with
  | none => simp only [sNum_none, sMask_none, sCmp_none, sWide_none]; simp
  | some i1 =>
    simp only
    have h1 := sNum_rel G i1
    cases e1 : rNum G i1 with
    | none =>
      rw [e1] at h1
      simp only [Rel] at h1
      simp only [h1, sMask_none, sCmp_none, sWide_none]; simp
    | some x =>
      obtain ⟨a, i2⟩ := x
      rw [e1] at h1
      simp only [Rel] at h1
      simp only [h1]
      have h2 := sMask_rel h i2
      cases e2 : rMask G i2 with
      | none =>
        rw [e2] at h2
        simp only [Rel] at h2
        simp only [h2, sCmp_none, sWide_none]; simp
      | some x =>
        obtain ⟨m, i3⟩ := x
        rw [e2] at h2
        simp only [Rel] at h2
        simp only [h2]
        obtain ⟨h3, h4⟩ := sCmp_rel h i3
        cases e3 : rCmp G i3 with
        | none => simp [h4 e3]
        | some x =>
          obtain ⟨c, i4⟩ := x
          simp only [h3 c i4 e3]
          have h5 := sWide_rel h i4
          cases e5 : rWide G i4 with
          | none =>
            rw [e5] at h5
            simp only [Rel] at h5
            simp [h5]
          | some x =>
            obtain ⟨v, i5⟩ := x
            rw [e5] at h5
            simp only [Rel] at h5
            simp only [h5]
            simp

theorem rNum_lt {G : List Sg} {i j : Nat} {n : Int} (h : rNum G i = some (n, j)) : j = i + 1 ∧ i < G.length := by
  unfold rNum at h
  cases e : numAt G i
  · rw [e] at h; simp at h
  · rw [e] at h
    simp at h
    exact ⟨h.2.symm, numAt_lt e⟩

theorem rWide_lt {G : List Sg} {i j : Nat} {n : Int × Int} (h : rWide G i = some (n, j)) : i < j ∧ j ≤ G.length := by
  unfold rWide at h
  cases e : rNum G i with
  | none => rw [e] at h; simp at h
  | some x =>
    obtain ⟨m, k⟩ := x
    rw [e] at h
    obtain ⟨rfl, hk⟩ := rNum_lt e
    simp only at h
    cases e2 : isT G (i + 1) tColon
    · rw [e2] at h; simp at h; omega
    · rw [e2] at h
      simp only [if_true] at h
      cases e3 : rNum G (i + 1 + 1) with
      | none => rw [e3] at h; simp at h
      | some y =>
        obtain ⟨m', k'⟩ := y
        rw [e3] at h
        obtain ⟨rfl, hk⟩ := rNum_lt e3
        simp at h
        omega

theorem rMask_lt {G : List Sg} {i j : Nat} {n : Int × Int} (h : rMask G i = some (n, j)) : i ≤ j := by
  unfold rMask at h
  cases e : isT G i tAmp
  · rw [e] at h; simp at h; omega
  · rw [e] at h
    simp only [if_true] at h
    have := rWide_lt h
    omega

theorem rPass_lt {G : List Sg} {i j : Nat} {t : List UInt8} (ht : t ≠ []) (h : rPass G i t = some j) : j = i + 1 ∧ i < G.length := by
  unfold rPass at h
  cases e : isT G i t
  · rw [e] at h; simp at h
  · rw [e] at h
    simp at h
    exact ⟨h.symm, isT_lt ht e⟩

theorem rCond_lt {G : List Sg} {i j : Nat} {c : CN} (h : rCond G i = some (c, j)) : i < j ∧ j ≤ G.length := by
  unfold rCond at h
  cases e0 : rPass G i tArg with
  | none => rw [e0] at h; simp at h
  | some i1 =>
    rw [e0] at h
    simp only at h
    have a0 := rPass_lt (by decide) e0
    cases e1 : rNum G i1 with
    | none => rw [e1] at h; simp at h
    | some x =>
      obtain ⟨a, i2⟩ := x
      rw [e1] at h
      simp only at h
      have a1 := rNum_lt e1
      cases e2 : rMask G i2 with
      | none => rw [e2] at h; simp at h
      | some x =>
        obtain ⟨m, i3⟩ := x
        rw [e2] at h
        simp only at h
        have a2 := rMask_lt e2
        cases e3 : rCmp G i3 with
        | none => rw [e3] at h; simp at h
        | some x =>
          obtain ⟨cm, i4⟩ := x
          rw [e3] at h
          simp only at h
          have a3 : i4 = i3 + 1 := by
            unfold rCmp at e3
            cases e : findT cmL (sgA G i3).2.1 with
            | none => rw [e] at e3; simp at e3
            | some k => rw [e] at e3; simp at e3; omega
          cases e4 : rWide G i4 with
          | none => rw [e4] at h; simp at h
          | some x =>
            obtain ⟨v, i5⟩ := x
            rw [e4] at h
            have a4 := rWide_lt e4
            simp at h
            omega

/-- One condition, and those behind 'and'. -/
def rOnesF (f : Nat) (G : List Sg) (i : Nat) : Option (List CN × Nat) :=
  match rCond G i with
  | none => none
  | some (c, j) => (rAndF f G j).map fun p => (c :: p.1, p.2)

theorem rAndF_one (f : Nat) (G : List Sg) (i : Nat) : rAndF (f + 1) G i = if isT G i tAnd then rOnesF f G (i + 1) else some ([], i) := rfl

theorem sAndF_keeps (G : List Sg) (c : CN) : ∀ (g : Nat) (acc : List CN) (s : Option Nat), c ∈ acc → c ∈ (sAndF g G acc s).1
  | 0, _, _, h => h
  | g + 1, acc, none, h => h
  | g + 1, acc, some i, h => by
    rw [sAndF]
    split
    · exact sAndF_keeps G c g _ _ (by simp [h])
    · simp [h]

theorem sAndF_none (g : Nat) (G : List Sg) (acc : List CN) : sAndF g G acc none = (acc, none) := by cases g <;> rfl

theorem sAndF_rel {G : List Sg} (h : Good G) : ∀ (g f : Nat) (acc : List CN) (i : Nat), G.length ≤ i + f → G.length + 1 ≤ i + g → i ≤ G.length →
    (∀ l j, rOnesF f G i = some (l, j) → sAndF g G acc (some i) = (acc ++ l, some j)) ∧ (rOnesF f G i = none → (sAndF g G acc (some i)).2 = none ∨ ∃ c ∈ (sAndF g G acc (some i)).1, c.cm = 0)
  | 0, f, acc, i, hf, hg, hi => absurd hg (by omega)
  | g + 1, f, acc, i, hf, hg, hi => by
    obtain ⟨h1, h2⟩ := sCond_rel h i
    unfold rOnesF
    rw [sAndF]
    cases e : rCond G i with
    | none =>
      refine ⟨fun l j hl => by simp at hl, fun _ => ?_⟩
      rcases h2 e with hn | hc
      · rw [hn, sIs_none]; simp
      · right
        split
        · exact ⟨_, sAndF_keeps G _ g _ _ (by simp), hc⟩
        · exact ⟨_, by simp, hc⟩
    | some x =>
      obtain ⟨c, j⟩ := x
      have hlt := rCond_lt e
      rw [h1 c j e]
      simp only
      rw [show sIs G (some j) 1 tAnd = isT G j tAnd from sIs_isT h j hd1.2.2.2.2.2.1]
      cases ea : isT G j tAnd
      · have hr : rAndF f G j = some ([], j) := by
          cases f with
          | zero => rfl
          | succ f => rw [rAndF_one, ea]; rfl
        rw [hr]
        simp
      · have hj := isT_lt (by decide) ea
        obtain ⟨f, rfl⟩ : ∃ f', f = f' + 1 := ⟨f - 1, by omega⟩
        obtain ⟨h3, h4⟩ := sAndF_rel h g f (acc ++ [c]) (j + 1) (by omega) (by omega) (by omega)
        rw [rAndF_one, ea]
        simp only [if_true, nx, Option.map_some]
        cases er : rOnesF f G (j + 1) with
        | none => refine ⟨fun l k hl => by simp at hl, fun _ => h4 er⟩
        | some y =>
          obtain ⟨l, k⟩ := y
          rw [h3 l k er]
          refine ⟨fun l' j' hl => ?_, fun hn => by simp at hn⟩
          simp at hl
          obtain ⟨rfl, rfl⟩ := hl
          simp

theorem sConds_rel {G : List Sg} (h : Good G) (i : Nat) (hi : i ≤ G.length) :
    (∀ l j, rConds G i = some (l, j) → sConds G (some i) = (l, some j)) ∧ (rConds G i = none → (sConds G (some i)).2 = none ∨ ∃ c ∈ (sConds G (some i)).1, c.cm = 0) := by
  unfold rConds sConds
  rw [show sIs G (some i) 1 tIf = isT G i tIf from sIs_isT h i hd1.2.2.2.2.1]
  cases e : isT G i tIf
  · simp
  · have hl := isT_lt (by decide) e
    obtain ⟨h1, h2⟩ := sAndF_rel h (G.length + 1) G.length [] (i + 1) (by omega) (by omega) (by omega)
    simp only [if_true, nx, Option.map_some]
    exact ⟨fun l j hl => by rw [h1 l j hl]; simp, h2⟩

theorem sConds_none (G : List Sg) : sConds G none = ([], none) := rfl

/- Numbers. -/

theorem sCall_rel {G : List Sg} (h : Good G) (i : Nat) : (∀ n j, rCall G i = some (n, j) → sCall G (some i) = (n, some j) ∧ 0 ≤ n ∧ j = i + 1 ∧ i < G.length) ∧ (rCall G i = none → (sCall G (some i)).1 < 0) := by
  unfold rCall sCall
  rw [sHas_numAt]
  cases e : numAt G i
  · simp only [Bool.false_eq_true, if_false]
    by_cases hc : callN (sgA G i).2.1 < 0
    · rw [if_pos hc]
      refine ⟨fun n j hn => by simp at hn, fun _ => ?_⟩
      unfold sName
      simp only
      split
      · exact hc
      · rw [callN_nil]; decide
    · rw [if_neg hc]
      obtain ⟨hi, hk⟩ := hd_kind h (nameL_hd _ (callN_mem hc))
      have hn : sName G (some i) = ((sgA G i).2.1, some (i + 1)) := by simp [sName, hi, hk]
      rw [hn]
      refine ⟨fun n j hn => ?_, fun hn => by simp at hn⟩
      simp at hn
      obtain ⟨rfl, rfl⟩ := hn
      exact ⟨rfl, by omega, rfl, hi⟩
  · simp only [if_true]
    refine ⟨fun n j hn => ?_, fun hn => by simp at hn⟩
    simp at hn
    obtain ⟨rfl, rfl⟩ := hn
    refine ⟨by simp [sNum, sHas_numAt, e], ?_, rfl, numAt_lt e⟩
    rcases sgA_cases h i with ⟨hi, hg⟩ | ⟨hi, hz⟩
    · have hk : (sgA G i).1 = 2 := by simpa [numAt] using e
      rcases hg with ⟨h1, _⟩ | ⟨_, _, h3, _⟩ | ⟨h1, _⟩
      · omega
      · exact h3
      · omega
    · rw [hz]; simp [zeroG]

theorem sortZ_perm (l : List Int) : (sortZ l).Perm l := List.mergeSort_perm l _

theorem sortZ_up (l : List Int) : (sortZ l).Pairwise (· ≤ ·) := by
  have := List.pairwise_mergeSort (le := fun (x y : Int) => decide (x ≤ y)) (by intro a b c; simp; omega) (by intro a b; simp; omega) l
  exact this.imp (by intro a b; simp)

theorem up_eq {l m : List Int} (h1 : l.Pairwise (· ≤ ·)) (h2 : m.Pairwise (· ≤ ·)) (h : l.Perm m) : l = m :=
  List.Perm.eq_of_pairwise (fun a b _ _ h1 h2 => Int.le_antisymm h1 h2) h1 h2 h

theorem filter_parts (n : Int) : ∀ (l : List Int), n ∉ l → (l.filter (fun x => decide (x < n)) ++ [n] ++ l.filter (fun x => decide (n < x))).Perm (l ++ [n])
  | [], _ => by simp
  | a :: l, h => by
    have ih := filter_parts n l (fun hm => h (by simp [hm]))
    have ha : ¬ n = a := fun e => h (by simp [e])
    by_cases hlt : a < n
    · have h2 : ¬ n < a := by omega
      simp only [List.filter_cons, hlt, h2, decide_true, decide_false, if_true, Bool.false_eq_true, if_false]
      simpa using ih
    · have h2 : n < a := by omega
      simp only [List.filter_cons, hlt, h2, decide_true, decide_false, if_true, Bool.false_eq_true, if_false]
      refine (List.perm_middle (a := a)).trans ?_
      simpa using ih

theorem putZ_sort {ys : List Int} {n : Int} (h : n ∉ ys) : putZ (sortZ ys) n = sortZ (ys ++ [n]) := by
  have hm : n ∉ sortZ ys := fun hm => h ((sortZ_perm ys).mem_iff.1 hm)
  unfold putZ
  rw [if_neg (by simpa using hm)]
  refine up_eq ?_ (sortZ_up _) ?_
  · have hu := sortZ_up ys
    simp only [List.append_assoc, List.singleton_append]
    rw [List.pairwise_append]
    refine ⟨hu.filter _, ?_, ?_⟩
    · rw [List.pairwise_cons]
      exact ⟨fun a ha => by simp at ha; omega, hu.filter _⟩
    · intro a ha b hb
      simp at ha hb
      rcases hb with rfl | hb <;> omega
  · exact (filter_parts n _ hm).trans (((sortZ_perm ys).append_right [n]).trans (sortZ_perm _).symm)

def rOneN (f : Nat) (G : List Sg) (i : Nat) : Option (List Int × Nat) :=
  match rCall G i with
  | none => none
  | some (c, j) => (rCommaF f G j).map fun p => (c :: p.1, p.2)

theorem rCommaF_one (f : Nat) (G : List Sg) (i : Nat) : rCommaF (f + 1) G i = if isT G i tComma then rOneN f G (i + 1) else some ([], i) := rfl

theorem sNumsF_none (g : Nat) (G : List Sg) (acc : List Int) : sNumsF g G acc none = (acc, none) := by cases g <;> rfl

theorem sNumsF_rel {G : List Sg} (h : Good G) : ∀ (g f : Nat) (ys : List Int) (i : Nat), G.length ≤ i + f → G.length + 1 ≤ i + g → i ≤ G.length → ys.Nodup →
    (∀ l j, rOneN f G i = some (l, j) → ((ys ++ l).Nodup ∧ sNumsF g G (sortZ ys) (some i) = (sortZ (ys ++ l), some j)) ∨ (¬ (ys ++ l).Nodup ∧ (sNumsF g G (sortZ ys) (some i)).2 = none)) ∧ (rOneN f G i = none → (sNumsF g G (sortZ ys) (some i)).2 = none)
  | 0, f, ys, i, hf, hg, hi, hy => absurd hg (by omega)
  | g + 1, f, ys, i, hf, hg, hi, hy => by
    obtain ⟨h1, h2⟩ := sCall_rel h i
    unfold rOneN
    rw [sNumsF]
    cases e : rCall G i with
    | none =>
      refine ⟨fun l j hl => by simp at hl, fun _ => ?_⟩
      have hn := h2 e
      have hs : sGot G (sortZ ys) (some i) = none := by simp [sGot, hn]
      rw [hs, sIs_none]
      simp
    | some x =>
      obtain ⟨c, j⟩ := x
      obtain ⟨hc, h0, hj, hl⟩ := h1 c j e
      have hx : sGot G (sortZ ys) (some i) = if c ∈ ys then none else some j := by
        unfold sGot
        rw [hc]
        have hn : ¬ c < 0 := by omega
        have hm : (sortZ ys).contains c = decide (c ∈ ys) := by
          rw [Bool.eq_iff_iff]
          simp [(sortZ_perm ys).mem_iff]
        rw [hm]
        simp [hn]
      rw [hx, hc]
      simp only
      by_cases hd : c ∈ ys
      · rw [if_pos hd, sIs_none]
        refine ⟨fun l k hl => .inr ⟨fun hnd => ?_, by simp⟩, fun _ => by simp⟩
        cases er : rCommaF f G j with
        | none => rw [er] at hl; simp at hl
        | some y =>
          rw [er] at hl
          simp at hl
          rw [← hl.1] at hnd
          rw [List.nodup_append] at hnd
          exact hnd.2.2 c hd c (by simp) rfl
      · rw [if_neg hd]
        rw [show sIs G (some j) 3 tComma = isT G j tComma from sIs_isT h j hd3.2.1]
        rw [putZ_sort hd]
        have hy2 : (ys ++ [c]).Nodup := by
          rw [List.nodup_append]
          refine ⟨hy, by simp, fun a ha b hb => ?_⟩
          simp at hb
          subst hb
          exact fun e => hd (e ▸ ha)
        cases ea : isT G j tComma
        · have hr : rCommaF f G j = some ([], j) := by
            cases f with
            | zero => rfl
            | succ f => rw [rCommaF_one, ea]; rfl
          rw [hr]
          refine ⟨fun l k hl => ?_, fun hn => by simp at hn⟩
          simp at hl
          obtain ⟨rfl, rfl⟩ := hl
          exact .inl ⟨hy2, by simp⟩
        · have hj2 := isT_lt (by decide) ea
          obtain ⟨f, rfl⟩ : ∃ f', f = f' + 1 := ⟨f - 1, by omega⟩
          obtain ⟨h3, h4⟩ := sNumsF_rel h g f (ys ++ [c]) (j + 1) (by omega) (by omega) (by omega) hy2
          rw [rCommaF_one, ea]
          simp only [if_true, nx, Option.map_some]
          cases er : rOneN f G (j + 1) with
          | none => exact ⟨fun l k hl => by simp at hl, fun _ => h4 er⟩
          | some y =>
            obtain ⟨l, k⟩ := y
            refine ⟨fun l' j' hl => ?_, fun hn => by simp at hn⟩
            simp at hl
            obtain ⟨rfl, rfl⟩ := hl
            have := h3 l k er
            simpa using this

theorem numsB_nodup {l : List Int} (h : numsB l = true) : l.Pairwise (· < ·) := by
  unfold numsB at h
  simp only [Bool.and_eq_true, List.all_eq_true, List.mem_range, Bool.or_eq_true, decide_eq_true_eq] at h
  have hs : ∀ j, j + 1 < l.length → l.getD j 0 < l.getD (j + 1) 0 := fun j hj => by
    rcases (h.2 (j + 1) hj).2 with h0 | h1
    · omega
    · simpa using h1
  rw [List.pairwise_iff_getElem]
  intro i j hi hj hij
  have hg : ∀ d, i + 1 + d < l.length → l.getD i 0 < l.getD (i + 1 + d) 0 := by
    intro d
    induction d with
    | zero => intro hd; exact hs i hd
    | succ d ih => intro hd; exact Int.lt_trans (ih (by omega)) (hs (i + 1 + d) hd)
  have := hg (j - (i + 1)) (by omega)
  rw [show i + 1 + (j - (i + 1)) = j by omega] at this
  simpa [List.getD_eq_getElem?_getD, hi, hj] using this

theorem numsB_dup {zs : List Int} (h : ¬ zs.Nodup) : numsB (sortZ zs) = false := by
  rw [Bool.eq_false_iff]
  intro hn
  have := numsB_nodup hn
  exact h ((sortZ_perm zs).nodup (this.imp (by intro a b hab; omega)))

theorem sNums_rel {G : List Sg} (h : Good G) (i : Nat) (hi : i ≤ G.length) :
    (∀ l j, rNums G i = some (l, j) → sNums G (some i) = (l, some j) ∨ (numsB l = false ∧ (sNums G (some i)).2 = none)) ∧ (rNums G i = none → (sNums G (some i)).2 = none) := by
  unfold rNums sNums
  rw [show sIs G (some i) 1 tAny = isT G i tAny from sIs_isT h i hd1.2.2.2.1]
  cases e : isT G i tAny
  · simp only [Bool.false_eq_true, if_false]
    obtain ⟨h1, h2⟩ := sNumsF_rel h (G.length + 1) G.length [] i (by omega) (by omega) hi List.nodup_nil
    have hsz : sortZ [] = [] := by simp [sortZ]
    rw [hsz] at h1 h2
    unfold rOneN at h1 h2
    cases er : rCall G i with
    | none => rw [er] at h2; exact ⟨fun l j hl => by simp at hl, fun _ => h2 rfl⟩
    | some x =>
      obtain ⟨c, j⟩ := x
      rw [er] at h1 h2
      simp only at h1 h2 ⊢
      cases ec : rCommaF G.length G j with
      | none => rw [ec] at h2; exact ⟨fun l j hl => by simp at hl, fun _ => h2 (by simp)⟩
      | some y =>
        rw [ec] at h1
        refine ⟨fun l k hl => ?_, fun hn => by simp at hn⟩
        simp at hl
        obtain ⟨rfl, rfl⟩ := hl
        rcases h1 (c :: y.1) y.2 (by simp) with ⟨hd, hs⟩ | ⟨hd, hs⟩
        · left; simpa using hs
        · right; exact ⟨numsB_dup (by simpa using hd), hs⟩
  · simp [nx]

theorem sNums_none (G : List Sg) : sNums G none = ([], none) := rfl

theorem rCommaF_lt {G : List Sg} (h : Good G) : ∀ (f i : Nat) {l : List Int} {j : Nat}, i ≤ G.length → rCommaF f G i = some (l, j) → i ≤ j ∧ j ≤ G.length ∧ l.length + i ≤ j
  | 0, i, l, j, hi, e => by simp [rCommaF] at e; obtain ⟨rfl, rfl⟩ := e; simp; omega
  | f + 1, i, l, j, hi, e => by
    rw [rCommaF] at e
    cases ea : isT G i tComma
    · rw [ea] at e; simp at e; obtain ⟨rfl, rfl⟩ := e; simp; omega
    · rw [ea] at e
      simp only [if_true] at e
      cases er : rCall G (i + 1) with
      | none => rw [er] at e; simp at e
      | some x =>
        obtain ⟨c, k⟩ := x
        rw [er] at e
        obtain ⟨_, _, hk, hl⟩ := (sCall_rel h (i + 1)).1 c k er
        simp only at e
        cases ec : rCommaF f G k with
        | none => rw [ec] at e; simp at e
        | some y =>
          rw [ec] at e
          obtain ⟨y1, y2⟩ := y
          obtain ⟨a1, a2, a3⟩ := rCommaF_lt h f k (by omega) ec
          simp at e
          obtain ⟨rfl, rfl⟩ := e
          simp
          omega

theorem rNums_lt {G : List Sg} (h : Good G) {i : Nat} {l : List Int} {j : Nat} (e : rNums G i = some (l, j)) : i < j ∧ j ≤ G.length ∧ l.length + i ≤ j := by
  unfold rNums at e
  cases ea : isT G i tAny
  · rw [ea] at e
    simp only [Bool.false_eq_true, if_false] at e
    cases er : rCall G i with
    | none => rw [er] at e; simp at e
    | some x =>
      obtain ⟨c, k⟩ := x
      rw [er] at e
      obtain ⟨_, _, hk, hl⟩ := (sCall_rel h i).1 c k er
      simp only at e
      cases ec : rCommaF G.length G k with
      | none => rw [ec] at e; simp at e
      | some y =>
        rw [ec] at e
        obtain ⟨y1, y2⟩ := y
        obtain ⟨a1, a2, a3⟩ := rCommaF_lt h _ k (by omega) ec
        simp at e
        obtain ⟨rfl, rfl⟩ := e
        have : (sortZ (c :: y1)).length = y1.length + 1 := by simp [sortZ]
        omega
  · rw [ea] at e
    have := isT_lt (by decide) ea
    simp at e
    obtain ⟨rfl, rfl⟩ := e
    simp; omega

theorem rAndF_lt {G : List Sg} : ∀ (f i : Nat) {l : List CN} {j : Nat}, i ≤ G.length → rAndF f G i = some (l, j) → i ≤ j ∧ j ≤ G.length ∧ l.length + i ≤ j
  | 0, i, l, j, hi, e => by simp [rAndF] at e; obtain ⟨rfl, rfl⟩ := e; simp; omega
  | f + 1, i, l, j, hi, e => by
    rw [rAndF] at e
    cases ea : isT G i tAnd
    · rw [ea] at e; simp at e; obtain ⟨rfl, rfl⟩ := e; simp; omega
    · rw [ea] at e
      simp only [if_true] at e
      cases er : rCond G (i + 1) with
      | none => rw [er] at e; simp at e
      | some x =>
        obtain ⟨c, k⟩ := x
        rw [er] at e
        have := rCond_lt er
        simp only at e
        cases ec : rAndF f G k with
        | none => rw [ec] at e; simp at e
        | some y =>
          rw [ec] at e
          obtain ⟨y1, y2⟩ := y
          obtain ⟨a1, a2, a3⟩ := rAndF_lt f k (by omega) ec
          simp at e
          obtain ⟨rfl, rfl⟩ := e
          simp
          omega

theorem rConds_lt {G : List Sg} {i : Nat} (hi : i ≤ G.length) {l : List CN} {j : Nat} (e : rConds G i = some (l, j)) : i ≤ j ∧ j ≤ G.length ∧ l.length + i ≤ j := by
  unfold rConds at e
  cases ea : isT G i tIf
  · rw [ea] at e; simp at e; obtain ⟨rfl, rfl⟩ := e; simp; omega
  · rw [ea] at e
    simp only [if_true] at e
    cases er : rCond G (i + 1) with
    | none => rw [er] at e; simp at e
    | some x =>
      obtain ⟨c, k⟩ := x
      rw [er] at e
      have := rCond_lt er
      simp only at e
      cases ec : rAndF G.length G k with
      | none => rw [ec] at e; simp at e
      | some y =>
        rw [ec] at e
        obtain ⟨y1, y2⟩ := y
        obtain ⟨a1, a2, a3⟩ := rAndF_lt _ k (by omega) ec
        simp at e
        obtain ⟨rfl, rfl⟩ := e
        simp
        omega

theorem rOut_lt {G : List Sg} (h : Good G) {i j : Nat} {o : Int × Int} (e : rOut G i = some (o, j)) : i < j ∧ j ≤ G.length := by
  unfold rOut rAct at e
  cases ef : findT actL (sgA G i).2.1 with
  | none => rw [ef] at e; simp at e
  | some k =>
    obtain ⟨hi, _⟩ := hd_kind h (actL_hd _ (findT_mem ef))
    rw [ef] at e
    simp only [Option.map_some] at e
    cases en : numAt G (i + 1)
    · rw [en] at e; simp at e; omega
    · rw [en] at e
      have := numAt_lt en
      simp at e; omega

theorem condsB_lost {l : List CN} (h : ∃ c ∈ l, c.cm = 0) : condsB l = false := by
  obtain ⟨c, hc, h0⟩ := h
  unfold condsB
  have : l.all condB = false := by
    rw [List.all_eq_false]
    refine ⟨c, hc, ?_⟩
    simp [condB, h0, inB]
  rw [this]; simp

theorem ruleB_nums {r : RN} (h : numsB r.nums = false) : ruleB r = false := by simp [ruleB, h]
theorem ruleB_conds {r : RN} (h : condsB r.conds = false) : ruleB r = false := by simp [ruleB, h]

theorem sRule_rel {G : List Sg} (h : Good G) (i : Nat) :
    (∀ r j, rRule G i = some (r, j) → sRule G (some i) = (r, some j) ∨ (ruleB r = false ∧ (sRule G (some i)).2 = none)) ∧ (rRule G i = none → (sRule G (some i)).2 = none ∨ ruleB (sRule G (some i)).1 = false) := by
  unfold rRule sRule
  simp only
  rw [show sWt G (some i) 1 tOn = rPass G i tOn from sWt_rel h i hd1.2.2.1]
  cases e0 : rPass G i tOn with
  | none => simp only [sNums_none, sConds_none, sWt_none, sAct_none]; simp
  | some i1 =>
    have a0 := rPass_lt (by decide) e0
    simp only
    obtain ⟨h1, h2⟩ := sNums_rel h i1 (by omega)
    cases e1 : rNums G i1 with
    | none => simp only [h2 e1, sConds_none, sWt_none, sAct_none]; simp
    | some x =>
      obtain ⟨zs, i2⟩ := x
      simp only
      have a1 := rNums_lt h e1
      rcases h1 zs i2 e1 with hz | ⟨hd, hz⟩
      · simp only [hz]
        obtain ⟨h3, h4⟩ := sConds_rel h i2 (by omega)
        cases e2 : rConds G i2 with
        | none =>
          refine ⟨fun r j hr => by simp at hr, fun _ => ?_⟩
          rcases h4 e2 with hn | hc
          · left; simp only [hn, sWt_none, sAct_none]
          · right; exact ruleB_conds (condsB_lost hc)
        | some x =>
          obtain ⟨cs, i3⟩ := x
          have a2 := rConds_lt (by omega) e2
          simp only [h3 cs i3 e2]
          rw [show sWt G (some i3) 1 tDo = rPass G i3 tDo from sWt_rel h i3 hd1.2.2.2.2.2.2.1]
          cases e3 : rPass G i3 tDo with
          | none => simp only [sAct_none, sWt_none]; simp
          | some i4 =>
            simp only
            have h5 := sAct_rel h i4
            cases e4 : rOut G i4 with
            | none =>
              rw [e4] at h5
              simp only [Rel] at h5
              simp only [h5, sWt_none]; simp
            | some x =>
              obtain ⟨o, i5⟩ := x
              rw [e4] at h5
              simp only [Rel] at h5
              simp only [h5]
              rw [show sWt G (some i5) 3 tSemi = rPass G i5 tSemi from sWt_rel h i5 hd3.1]
              cases e5 : rPass G i5 tSemi with
              | none => simp
              | some i6 =>
                simp only
                refine ⟨fun r j hr => ?_, fun hr => by simp at hr⟩
                simp at hr
                left
                rw [← hr.1, ← hr.2]
      · simp only [hz, sConds_none, sWt_none, sAct_none]
        refine ⟨fun r j hr => .inr ⟨?_, by first | rfl | trivial⟩, fun _ => .inl (by first | rfl | trivial)⟩
        cases e2 : rConds G i2 with
        | none => rw [e2] at hr; simp at hr
        | some x =>
          obtain ⟨cs, i3⟩ := x
          rw [e2] at hr
          simp only at hr
          cases e3 : rPass G i3 tDo with
          | none => rw [e3] at hr; simp at hr
          | some i4 =>
            rw [e3] at hr
            simp only at hr
            cases e4 : rOut G i4 with
            | none => rw [e4] at hr; simp at hr
            | some x =>
              obtain ⟨o, i5⟩ := x
              rw [e4] at hr
              simp only at hr
              cases e5 : rPass G i5 tSemi with
              | none => rw [e5] at hr; simp at hr
              | some i6 =>
                rw [e5] at hr
                simp at hr
                rw [← hr.1]
                exact ruleB_nums hd

theorem rRule_lt {G : List Sg} (h : Good G) {i j : Nat} {r : RN} (hr : rRule G i = some (r, j)) : i < j ∧ j ≤ G.length ∧ r.nums.length + i ≤ j ∧ r.conds.length + i ≤ j := by
  unfold rRule at hr
  cases e0 : rPass G i tOn with
  | none => rw [e0] at hr; simp at hr
  | some i1 =>
    have a0 := rPass_lt (by decide) e0
    rw [e0] at hr
    simp only at hr
    cases e1 : rNums G i1 with
    | none => rw [e1] at hr; simp at hr
    | some x =>
      obtain ⟨zs, i2⟩ := x
      have a1 := rNums_lt h e1
      rw [e1] at hr
      simp only at hr
      cases e2 : rConds G i2 with
      | none => rw [e2] at hr; simp at hr
      | some x =>
        obtain ⟨cs, i3⟩ := x
        have a2 := rConds_lt (by omega) e2
        rw [e2] at hr
        simp only at hr
        cases e3 : rPass G i3 tDo with
        | none => rw [e3] at hr; simp at hr
        | some i4 =>
          have a3 := rPass_lt (by decide) e3
          rw [e3] at hr
          simp only at hr
          cases e4 : rOut G i4 with
          | none => rw [e4] at hr; simp at hr
          | some x =>
            obtain ⟨o, i5⟩ := x
            have a4 := rOut_lt h e4
            rw [e4] at hr
            simp only at hr
            cases e5 : rPass G i5 tSemi with
            | none => rw [e5] at hr; simp at hr
            | some i6 =>
              have a5 := rPass_lt (by decide) e5
              rw [e5] at hr
              simp at hr
              obtain ⟨rfl, rfl⟩ := hr
              simp only
              omega

theorem sRulesF_none (g : Nat) (G : List Sg) (acc : List RN) : sRulesF g G acc none = (acc, none) := by cases g <;> rfl

theorem sRulesF_keeps (G : List Sg) (c : RN) : ∀ (g : Nat) (acc : List RN) (s : Option Nat), c ∈ acc → c ∈ (sRulesF g G acc s).1
  | 0, _, _, h => h
  | g + 1, acc, none, h => h
  | g + 1, acc, some i, h => by
    rw [sRulesF]
    split
    · exact sRulesF_keeps G c g _ _ (by simp [h])
    · exact h

theorem rules_lost {rs : List RN} {r : RN} (h : r ∈ rs) (hb : ruleB r = false) : rs.all ruleB = false := by
  rw [List.all_eq_false]
  exact ⟨r, h, by simp [hb]⟩

theorem sRulesF_rel {G : List Sg} (h : Good G) : ∀ (g f : Nat) (acc : List RN) (i : Nat), G.length ≤ i + f → G.length + 1 ≤ i + g → i ≤ G.length →
    (∀ l, rRulesF f G i = some l → sRulesF g G acc (some i) = (acc ++ l, some G.length) ∨ (l.all ruleB = false ∧ ((sRulesF g G acc (some i)).2 = none ∨ (sRulesF g G acc (some i)).1.all ruleB = false))) ∧
    (rRulesF f G i = none → (sRulesF g G acc (some i)).2 = none ∨ (sRulesF g G acc (some i)).1.all ruleB = false)
  | 0, f, acc, i, hf, hg, hi => absurd hg (by omega)
  | g + 1, f, acc, i, hf, hg, hi => by
    obtain ⟨h1, h2⟩ := sRule_rel h i
    rw [sRulesF]
    by_cases hlt : i < G.length
    · rw [if_pos hlt]
      obtain ⟨f, rfl⟩ : ∃ f', f = f' + 1 := ⟨f - 1, by omega⟩
      rw [rRulesF, if_neg (by omega)]
      cases e : rRule G i with
      | none =>
        refine ⟨fun l hl => by simp at hl, fun _ => ?_⟩
        rcases h2 e with hn | hb
        · rw [hn, sRulesF_none]; simp
        · right
          exact rules_lost (sRulesF_keeps G _ g _ _ (List.mem_append_right _ (List.mem_singleton.2 rfl))) hb
      | some x =>
        obtain ⟨r, j⟩ := x
        have a0 := rRule_lt h e
        simp only
        rcases h1 r j e with hr | ⟨hb, hn⟩
        · rw [hr]
          simp only
          obtain ⟨h3, h4⟩ := sRulesF_rel h g f (acc ++ [r]) j (by omega) (by omega) (by omega)
          cases er : rRulesF f G j with
          | none => exact ⟨fun l hl => by simp at hl, fun _ => h4 er⟩
          | some l =>
            refine ⟨fun l' hl => ?_, fun hn => by simp at hn⟩
            simp at hl
            subst hl
            rcases h3 l er with hx | ⟨hx, hy⟩
            · left; rw [hx]; simp
            · right; exact ⟨by simp [hx], hy⟩
        · rw [hn, sRulesF_none]
          refine ⟨fun l hl => .inr ⟨?_, .inl rfl⟩, fun _ => .inl rfl⟩
          cases er : rRulesF f G j with
          | none => rw [er] at hl; simp at hl
          | some l' =>
            rw [er] at hl
            simp at hl
            subst hl
            simp [hb]
    · rw [if_neg hlt]
      have hi2 : i = G.length := by omega
      have hr : rRulesF f G i = some [] := by
        cases f with
        | zero => rfl
        | succ f => rw [rRulesF, if_pos hi2]
      rw [hr]
      refine ⟨fun l hl => ?_, fun hn => by simp at hn⟩
      simp at hl
      subst hl
      left; simp [hi2]

theorem sHead_rel {G : List Sg} (h : Good G) : Rel (rHead G) (sHead G) := by
  unfold rHead sHead
  simp only
  rw [show sWt G (some 0) 1 tArch = rPass G 0 tArch from sWt_rel h 0 hd1.1]
  cases e0 : rPass G 0 tArch with
  | none => simp only [sNum_none, sWt_none, sAct_none, Rel]
  | some i1 =>
    simp only
    have h1 := sNum_rel G i1
    cases e1 : rNum G i1 with
    | none =>
      rw [e1] at h1
      simp only [Rel] at h1
      simp only [h1, sWt_none, sAct_none, Rel]
    | some x =>
      obtain ⟨a, i2⟩ := x
      rw [e1] at h1
      simp only [Rel] at h1
      simp only [h1]
      rw [show sWt G (some i2) 3 tSemi = rPass G i2 tSemi from sWt_rel h i2 hd3.1]
      cases e2 : rPass G i2 tSemi with
      | none => simp only [sWt_none, sAct_none, Rel]
      | some i3 =>
        simp only
        rw [show sWt G (some i3) 1 tDefault = rPass G i3 tDefault from sWt_rel h i3 hd1.2.1]
        cases e3 : rPass G i3 tDefault with
        | none => simp only [sWt_none, sAct_none, Rel]
        | some i4 =>
          simp only
          have h5 := sAct_rel h i4
          cases e4 : rOut G i4 with
          | none =>
            rw [e4] at h5
            simp only [Rel] at h5
            simp only [h5, sWt_none, Rel]
          | some x =>
            obtain ⟨o, i5⟩ := x
            rw [e4] at h5
            simp only [Rel] at h5
            simp only [h5]
            rw [show sWt G (some i5) 3 tSemi = rPass G i5 tSemi from sWt_rel h i5 hd3.1]
            cases e5 : rPass G i5 tSemi with
            | none => simp [Rel]
            | some i6 => simp [Rel]

theorem rHead_lt {G : List Sg} {x : Int × Int × Int} {i : Nat} (e : rHead G = some (x, i)) : i ≤ G.length ∧ 1 ≤ G.length := by
  unfold rHead at e
  cases e0 : rPass G 0 tArch with
  | none => rw [e0] at e; simp at e
  | some i1 =>
    have a0 := rPass_lt (by decide) e0
    rw [e0] at e
    simp only at e
    cases e1 : rNum G i1 with
    | none => rw [e1] at e; simp at e
    | some x =>
      obtain ⟨a, i2⟩ := x
      rw [e1] at e
      simp only at e
      cases e2 : rPass G i2 tSemi with
      | none => rw [e2] at e; simp at e
      | some i3 =>
        rw [e2] at e
        simp only at e
        cases e3 : rPass G i3 tDefault with
        | none => rw [e3] at e; simp at e
        | some i4 =>
          rw [e3] at e
          simp only at e
          cases e4 : rOut G i4 with
          | none => rw [e4] at e; simp at e
          | some x =>
            obtain ⟨o, i5⟩ := x
            rw [e4] at e
            simp only at e
            cases e5 : rPass G i5 tSemi with
            | none => rw [e5] at e; simp at e
            | some i6 =>
              have a5 := rPass_lt (by decide) e5
              rw [e5] at e
              simp at e
              omega

/-- What is read of signs: a policy that is right, or nothing. -/
def readG (G : List Sg) : Option PN := match rPolicy G with
  | none => none
  | some p => if policyB p then some p else none

theorem policyB_lost {p : PN} (h : p.rules.all ruleB = false) : policyB p = false := by simp [policyB, h]

theorem sPolicy_read {G : List Sg} (h : Good G) : readG G = (match (sPolicy G).2 with
    | none => none
    | some _ => if policyB (sPolicy G).1 then some (sPolicy G).1 else none) := by
  unfold readG rPolicy sPolicy
  simp only
  have h1 := sHead_rel h
  cases e : rHead G with
  | none =>
    rw [e] at h1
    simp only [Rel] at h1
    rw [h1, sRulesF_none]
  | some x =>
    obtain ⟨x, i⟩ := x
    rw [e] at h1
    simp only [Rel] at h1
    rw [h1]
    simp only
    have a0 := rHead_lt e
    obtain ⟨h2, h3⟩ := sRulesF_rel h (G.length + 1) G.length [] i (by omega) (by omega) a0.1
    have lost : ∀ (o : PN × Option Nat), o.2 = none ∨ o.1.rules.all ruleB = false → none = (match o.2 with
      | none => none
      | some _ => if policyB o.1 then some o.1 else none) := fun o ho => by
      rcases ho with ho | ho
      · rw [ho]
      · cases o.2 with
        | none => rfl
        | some _ => simp only [policyB_lost ho]; simp
    cases er : rRulesF G.length G i with
    | none => exact lost (⟨x.1, x.2.1, x.2.2, (sRulesF (G.length + 1) G [] (some i)).1⟩, (sRulesF (G.length + 1) G [] (some i)).2) (h3 er)
    | some l =>
      simp only [Option.map_some]
      rcases h2 l er with hx | ⟨hx, hy⟩
      · rw [hx]; simp
      · rw [policyB_lost (p := ⟨x.1, x.2.1, x.2.2, l⟩) hx]
        exact lost (⟨x.1, x.2.1, x.2.2, (sRulesF (G.length + 1) G [] (some i)).1⟩, (sRulesF (G.length + 1) G [] (some i)).2) hy

end Go.Proofs.YtojaohdmfahpmaaGreatDoor
